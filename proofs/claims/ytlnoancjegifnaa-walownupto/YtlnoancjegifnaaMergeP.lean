/- Several texts in one. -/
import Derived.Test.YtlnoancjegifnaaWBack
import Derived.Test.YtlnoancjegifnaaWMath
import Derived.Laws.IdiomStrings
import Derived.Lib.SliceRun
import Derived.Test.YtlnoancjegifnaaBx
import Derived.Test.YtlnoancjegifnaaApp
import Derived.Test.YtlnoancjegifnaaWOwnR
import Derived.Laws.MakeOwn
import Derived.Test.YtlnoancjegifnaaWRow
import Derived.Test.YtlnoancjegifnaaMergeS
import Derived.Test.YtlnoancjegifnaaFProgO
import Derived.Test.YtlnoancjegifnaaRSched
/-
  Logs that were laid: what Truncate leaves of them. Nothing of the program is named.
-/
namespace Go.Proofs.Ytlnoancjegifnaa
set_option linter.unusedVariables false

theorem wtr_laid (below : Int) : ∀ (gs : List (List (List UInt8))) (n : Int), ∃ j, j ≤ gs.length ∧ wtr below (wsegs n gs) = wsegs (n + (((gs.take j).flatten.length : Nat) : Int)) (gs.drop j) ∧ (0 < j → n + (((gs.take j).flatten.length : Nat) : Int) ≤ below)
  | [], n => ⟨0, by simp, by simp [wsegs, wtr], by simp⟩
  | [g], n => ⟨0, by simp, by simp [wsegs, wtr], by simp⟩
  | g :: h :: gs, n => by
    by_cases hb : n + (g.length : Nat) ≤ below
    · obtain ⟨j, h1, h2, h3⟩ := wtr_laid below (h :: gs) (n + (g.length : Nat))
      refine ⟨j + 1, by simpa using h1, ?_, fun _ => ?_⟩
      · have e : wtr below (wsegs n (g :: h :: gs)) = wtr below (wsegs (n + (g.length : Nat)) (h :: gs)) := by
          simp only [wsegs, wtr]
          rw [if_pos hb]
        rw [e, h2, List.take_succ_cons, List.flatten_cons, List.length_append, List.drop_succ_cons]
        congr 1
        push_cast
        omega
      · rw [List.take_succ_cons, List.flatten_cons, List.length_append]
        by_cases hj : 0 < j
        · have := h3 hj; push_cast; omega
        · obtain rfl : j = 0 := by omega
          simp only [List.take_zero, List.flatten_nil, List.length_nil]
          push_cast; omega
    · refine ⟨0, by simp, ?_, by simp⟩
      simp only [wsegs, wtr]
      rw [if_neg hb]
      simp [wsegs]
/-- a laid log that begins at n -/
theorem wok_from {gs : List (List (List UInt8))} {n : Nat} (hl : gs.length ≤ 4096) (hr : ∀ g ∈ gs, ∀ r ∈ g, r.length ≤ 4096) (hn : n + gs.flatten.length ≤ 1099511627776) : WOk (wsegs n gs, ((n + gs.flatten.length : Nat) : Int), []) := by
  have hst : ∀ k, k ≤ gs.length → 0 < k → wst (wsegs n gs) ((n + gs.flatten.length : Nat) : Int) k = ((n + (gs.take k).flatten.length : Nat) : Int) := by
    intro k hk h0
    obtain ⟨j, rfl⟩ : ∃ j, k = j + 1 := ⟨k - 1, by omega⟩
    obtain ⟨g, hg⟩ : ∃ g, gs[j]? = some g := ⟨gs[j], List.getElem?_eq_getElem (by omega)⟩
    have hs := wsegs_at gs n j g hg
    have hgm := List.mem_of_getElem? hg
    simp only [wst, List.getD_eq_getElem?_getD, hs, Option.getD_some]
    rw [wrecs_data (hr g hgm), take_snoc hg, List.flatten_append, List.length_append]
    simp only [List.flatten_cons, List.flatten_nil, List.append_nil]
    push_cast
    omega
  refine ⟨⟨by rw [wsegs_len]; exact hl, ⟨by show 0 ≤ ((n + gs.flatten.length : Nat) : Int); omega, by show ((n + gs.flatten.length : Nat) : Int) ≤ _; omega⟩, by show 0 ≤ 4096; decide⟩, (fun r hr => by (cases hr)), fun k s hs => ?_, ?_⟩
  · have hk : k < gs.length := by
      have := (List.getElem?_eq_some_iff.1 hs).1
      rwa [wsegs_len] at this
    obtain ⟨g, hg⟩ : ∃ g, gs[k]? = some g := ⟨gs[k], List.getElem?_eq_getElem hk⟩
    have hs' := wsegs_at gs n k g hg
    dsimp only at hs
    rw [hs'] at hs
    simp only [Option.some.injEq] at hs
    subst hs
    have hle := flat_take_le gs k
    refine ⟨⟨⟨by dsimp only; omega, by dsimp only; omega⟩, fun h0 => ?_⟩, wn_data (hr g (List.mem_of_getElem? hg))⟩
    dsimp only
    rw [hst k (by omega) h0]
    omega
  · dsimp only
    rw [wsegs_len]
    by_cases h0 : gs.length = 0
    · rw [h0]; rfl
    · rw [hst _ (Nat.le_refl _) (by omega), List.take_of_length_le (Nat.le_refl _)]
theorem wrecords_from {gs : List (List (List UInt8))} {n : Nat} (hl : gs.length ≤ 4096) (hr : ∀ g ∈ gs, ∀ r ∈ g, r.length ≤ 4096) (hn : n + gs.flatten.length ≤ 1099511627776) : wrecords (wsegs n gs, ((n + gs.flatten.length : Nat) : Int), []) = (gs.flatten, (n : Int), 0) := by
  unfold wrecords
  rw [if_pos (wok_from hl hr hn)]
  dsimp only
  rw [wall_laid gs n hr, show ((n + gs.flatten.length : Nat) : Int) - ((gs.flatten.length : Nat) : Int) = (n : Int) by omega]
/-- Truncate of a laid log, and its records -/
theorem wtrunc_laid {gs : List (List (List UInt8))} (below : Int) (hl : gs.length ≤ 4096) (hr : ∀ g ∈ gs, ∀ r ∈ g, r.length ≤ 4096) (hn : gs.flatten.length ≤ 1099511627776) :
    ∃ j, j ≤ gs.length ∧ wtrunc (wsegs 0 gs, ((gs.flatten.length : Nat) : Int), []) below = ((wsegs ((gs.take j).flatten.length : Nat) (gs.drop j), ((gs.flatten.length : Nat) : Int), []), 0) ∧
      wrecords (wsegs ((gs.take j).flatten.length : Nat) (gs.drop j), ((gs.flatten.length : Nat) : Int), []) = (gs.flatten.drop (gs.take j).flatten.length, (((gs.take j).flatten.length : Nat) : Int), 0) ∧ (0 < (gs.take j).flatten.length → (((gs.take j).flatten.length : Nat) : Int) ≤ below) := by
  obtain ⟨j, h1, h2, h3⟩ := wtr_laid below gs 0
  have hsplit : gs.flatten = (gs.take j).flatten ++ (gs.drop j).flatten := by rw [← List.flatten_append, List.take_append_drop]
  have hlen : gs.flatten.length = (gs.take j).flatten.length + (gs.drop j).flatten.length := by rw [← List.length_append, ← hsplit]
  refine ⟨j, h1, ?_, ?_, fun h => ?_⟩
  · unfold wtrunc
    rw [if_pos (wok_laid hl hr hn (by decide) (fun r hr => by cases hr)), h2]
    simp
  · have := wrecords_from (gs := gs.drop j) (n := (gs.take j).flatten.length) (by rw [List.length_drop]; omega) (fun g hg => hr g (List.mem_of_mem_drop hg)) (by omega)
    rw [← hlen] at this
    rw [this]
    congr 1
    conv => rhs; rw [hsplit]
    simp
  · have hj : 0 < j := by
      rcases Nat.eq_zero_or_pos j with e | e
      · subst e; simp at h
      · exact e
    have := h3 hj
    omega

end Go.Proofs.Ytlnoancjegifnaa

/-
  What is whole of a segment's octets, by itself: it scans to the same records, all of it. Nothing of the program is named.
-/
namespace Go.Proofs.Ytlnoancjegifnaa
set_option linter.unusedVariables false

theorem fopen_take {b : List UInt8} (h0 : (fopen b).1 = 0) {m : Nat} (hm : (fopen b).2.2 ≤ m) : fopen (b.take m) = fopen b := by
  obtain ⟨k1, k2, k3, k4, k5, k6, k7⟩ := fopen_ok h0
  rw [k7] at hm
  have e := List.take_append_drop m b
  have hl : (b.take m).length = min m b.length := List.length_take
  have t : ftold (b.take m) = ftold b := by
    conv => rhs; rw [← e]
    exact (ftold_app _ _ (by omega)).symm
  have y := fopen_yes (b := b.take m) (by omega) (by rw [← getD_app _ (b.drop m) 0 (by omega), e]; exact k2) (by omega) (by omega) (by
    have e1 := mid_app (b.take m) (b.drop m) (ftold b + 4) 4 (by omega)
    have e2 := take_app (b.take m) (b.drop m) (ftold b + 4) (by omega)
    rw [e] at e1 e2
    rw [t, ← e1, ← e2]; exact k5)
  have := fopen_more (b.drop m) (b := b.take m) (by rw [y])
  rw [e] at this
  exact this.symm
theorem stt_take {b : List UInt8} : ∀ n {fs : List Frm} {p : Nat}, stt b n = some (fs, p) → ∀ m, p ≤ m → stt (b.take m) n = some (fs, p)
  | 0, fs, p, h, m, hm => h
  | n + 1, fs, p, h, m, hm => by
    simp only [stt, Option.bind_eq_some_iff] at h
    obtain ⟨⟨fs', p'⟩, h1, h2⟩ := h
    by_cases h0 : (fopen (b.drop p')).1 = 0
    · have hstep := stt_step h1 h0
      have hp : p = p' + (fopen (b.drop p')).2.2 := by
        rw [if_pos h0] at h2
        simp only [Option.some.injEq, Prod.mk.injEq] at h2
        exact h2.2.symm
      have ih := stt_take n h1 m (by omega)
      have hf : fopen ((b.take m).drop p') = fopen (b.drop p') := by
        rw [List.drop_take]
        exact fopen_take h0 (by omega)
      have := stt_step ih (by rw [hf]; exact h0)
      rw [this, hf]
      rw [if_pos h0] at h2
      exact h2
    · rw [if_neg h0] at h2; cases h2
theorem stt_prefix {b : List UInt8} : ∀ n {fs : List Frm} {p : Nat}, stt b n = some (fs, p) → ∀ k, k ≤ n → ∃ q, stt b k = some (fs.take k, q)
  | 0, fs, p, h, k, hk => by
    obtain rfl : k = 0 := by omega
    simp only [stt, Option.some.injEq, Prod.mk.injEq] at h
    exact ⟨p, by rw [← h.1, ← h.2]; rfl⟩
  | n + 1, fs, p, h, k, hk => by
    by_cases e : k = n + 1
    · subst e
      have := (stt_len b _ h).1
      exact ⟨p, by rw [h, List.take_of_length_le (by omega)]⟩
    · simp only [stt, Option.bind_eq_some_iff] at h
      obtain ⟨⟨fs', p'⟩, h1, h2⟩ := h
      by_cases h0 : (fopen (b.drop p')).1 = 0
      · rw [if_pos h0] at h2
        simp only [Option.some.injEq, Prod.mk.injEq] at h2
        obtain ⟨q, hq⟩ := stt_prefix n h1 k (by omega)
        have hl := (stt_len b _ h1).1
        refine ⟨q, ?_⟩
        rw [hq, ← h2.1, List.take_append_of_le_length (by omega)]
      · rw [if_neg h0] at h2; cases h2
theorem wones_ones {fs : List Frm} : wones (wones fs) = wones fs := by
  unfold wones
  induction fs with
  | nil => rfl
  | cons f fs ih =>
    rw [List.takeWhile_cons]
    split
    · rename_i h; rw [List.takeWhile_cons, if_pos h, ih]
    · rfl
/-- what is whole, by itself -/
theorem wwhole (b : List UInt8) : wrecs (b.take (wn b)) = wrecs b ∧ wn (b.take (wn b)) = (b.take (wn b)).length ∧ (b.take (wn b)).length = wn b := by
  obtain ⟨fs, p, h⟩ := sc_exists b
  have hone : wones fs = fs.take (wones fs).length := by
    unfold wones
    exact List.prefix_iff_eq_take.1 (List.takeWhile_prefix _)
  have hle : (wones fs).length ≤ fs.length := by
    unfold wones
    exact (List.takeWhile_prefix _).length_le
  obtain ⟨q, hq⟩ := stt_prefix _ h.1 (wones fs).length hle
  rw [← hone] at hq
  have hw : wrecs b = (wones fs).map Prod.snd := by unfold wrecs; rw [wscan_of h]
  have hn : wn b = q := by unfold wn; rw [hw]; exact (stt_snds _ hq).1
  have hql := (stt_len b _ hq).2.1
  have hl : (b.take q).length = q := by rw [List.length_take]; omega
  have hs : ScEnd (b.take q) (wones fs) q := by
    refine ⟨stt_take _ hq q (Nat.le_refl _), ?_⟩
    rw [List.drop_eq_nil_of_le (by omega)]
    simp [fopen]
  have hw2 : wrecs (b.take q) = wrecs b := by
    rw [hw]; unfold wrecs; rw [wscan_of hs, wones_ones]
  rw [hn]
  refine ⟨hw2, ?_, hl⟩
  unfold wn
  rw [hw2, hl]
  exact hn

end Go.Proofs.Ytlnoancjegifnaa

/-
  What the program's functions of logs make, plainly, and that it is what the page's make. Nothing of the program is named.
-/
namespace Go.Proofs.Ytlnoancjegifnaa
set_option linter.unusedVariables false

/-! a segment's records, read one by one -/
theorem wones_self {fs : List Frm} (h : ∀ f ∈ fs, f.1 = 1) : wones fs = fs := by
  unfold wones
  induction fs with
  | nil => rfl
  | cons f fs ih => rw [List.takeWhile_cons, if_pos (by simpa using h f (List.mem_cons_self ..)), ih fun g hg => h g (List.mem_cons_of_mem _ hg)]
theorem wread_end {b : List UInt8} {n : Nat} {fs : List Frm} {p : Nat} (h : stt b n = some (fs, p)) (h1 : ∀ f ∈ fs, f.1 = 1) (h2 : (fopen (b.drop p)).1 ≠ 0 ∨ (fopen (b.drop p)).2.1.1 ≠ 1) : wrecs b = fs.map Prod.snd ∧ wn b = p := by
  have hl := (stt_len b _ h).1
  have hw : wrecs b = fs.map Prod.snd := by
    by_cases h0 : (fopen (b.drop p)).1 = 0
    · have hk : (fopen (b.drop p)).2.1.1 ≠ 1 := h2.resolve_left fun k => k h0
      obtain ⟨gs, q, hsc⟩ := sc_exists b
      have hst := stt_step h h0
      have hle : n + 1 ≤ gs.length := by
        rcases Nat.lt_or_ge gs.length (n + 1) with hlt | hge
        · exfalso
          obtain ⟨q', hq'⟩ := stt_prefix _ hst gs.length (by omega)
          have e := hsc.1
          rw [hq'] at e
          simp only [Option.some.injEq, Prod.mk.injEq] at e
          obtain ⟨e1, e2⟩ := e
          subst e2
          have hgl : gs.length ≤ n := by omega
          rcases Nat.lt_or_ge gs.length n with hlt2 | hge2
          · obtain ⟨q2, hq2⟩ := stt_prefix _ h (gs.length + 1) (by omega)
            simp only [stt, hsc.1, Option.bind_some] at hq2
            rw [if_neg hsc.2] at hq2
            cases hq2
          · obtain rfl : gs.length = n := by omega
            have := hsc.1
            rw [h] at this
            simp only [Option.some.injEq, Prod.mk.injEq] at this
            exact hsc.2 (by rw [← this.2]; exact h0)
        · exact hge
      obtain ⟨q', hq'⟩ := stt_prefix _ hsc.1 (n + 1) hle
      rw [hst] at hq'
      simp only [Option.some.injEq, Prod.mk.injEq] at hq'
      have hgt := hq'.1
      have hin : ∀ i, i < n + 1 → gs[i]? = (fs ++ [(fopen (b.drop p)).2.1])[i]? := fun i hi => by
        rw [hgt, List.getElem?_take, if_pos hi]
      have := wones_at (fs := gs) (K := n) (fun i f hi hf => by
        rw [hin i (by omega), List.getElem?_append_left (by omega)] at hf
        exact h1 f (List.mem_of_getElem? hf)) (fun f hf => by
        rw [hin n (by omega), List.getElem?_append_right (by omega), hl, Nat.sub_self] at hf
        simp only [List.getElem?_cons_zero, Option.some.injEq] at hf
        rw [← hf]; exact hk)
      unfold wrecs
      rw [wscan_of hsc, this]
      have e : gs.take n = fs := by
        have := congrArg (List.take n) hgt
        rw [List.take_append_of_le_length (by omega), List.take_of_length_le (by omega), List.take_take, Nat.min_eq_left (by omega)] at this
        exact this.symm
      rw [e]
    · have hsc : ScEnd b fs p := ⟨by rw [hl]; exact h, h0⟩
      unfold wrecs
      rw [wscan_of hsc, wones_self h1]
  refine ⟨hw, ?_⟩
  unfold wn
  rw [hw]
  exact (stt_snds _ h).1

/-! Flush -/
noncomputable def pstep (limit : Int) (st : List Wrt × Int) (r : List UInt8) : List Wrt × Int := (wlay (wroom limit st.1 st.2) r, st.2 + 1)
noncomputable def pfs (limit : Int) (l : Wlg) (k : Nat) : List Wrt × Int := (l.2.2.take k).foldl (pstep limit) (l.1, l.2.1)
theorem pfs_next {limit : Int} {l : Wlg} {k : Nat} {r : List UInt8} (hr : l.2.2[k]? = some r) : pfs limit l (k + 1) = pstep limit (pfs limit l k) r := by
  unfold pfs
  rw [take_snoc hr, List.foldl_append]; rfl
theorem wlay_len (segs : List Wrt) (r : List UInt8) : (wlay segs r).length = segs.length := by unfold wlay; rw [List.length_set]
theorem wroom_ge (limit : Int) (segs : List Wrt) (n : Int) : segs.length ≤ (wroom limit segs n).length ∧ (wroom limit segs n).length ≤ segs.length + 1 := by
  unfold wroom; split <;> simp
def pfit (st : List Wrt × Int) : Prop := st.2 ≤ 1099511627776 ∧ st.1.length ≤ 4096
theorem pfs_wfs {limit : Int} {l : Wlg} (h0 : pfit (l.1, l.2.1)) : ∀ k, k ≤ l.2.2.length → (pfit (pfs limit l k) → wfs limit l k = some (pfs limit l k)) ∧ (¬ pfit (pfs limit l k) → wfs limit l k = none)
  | 0, _ => by
    have e : pfs limit l 0 = (l.1, l.2.1) := rfl
    rw [e]
    exact ⟨fun _ => rfl, fun h => absurd h0 h⟩
  | k + 1, hk => by
    obtain ⟨r, hr⟩ : ∃ r, l.2.2[k]? = some r := ⟨l.2.2[k], List.getElem?_eq_getElem (by omega)⟩
    obtain ⟨ih1, ih2⟩ := pfs_wfs (limit := limit) h0 k (by omega)
    rw [pfs_next hr]
    obtain ⟨st, hst⟩ : ∃ st, st = pfs limit l k := ⟨_, rfl⟩
    rw [← hst] at ih1 ih2 ⊢
    have hg := wroom_ge limit st.1 st.2
    have e1 : (pstep limit st r).2 = st.2 + 1 := rfl
    have e2 : (pstep limit st r).1.length = (wroom limit st.1 st.2).length := wlay_len _ _
    by_cases hf : pfit st
    · have hw := ih1 hf
      rw [wfs_next hw hr]
      unfold wone
      refine ⟨fun h => ?_, fun h => ?_⟩
      · rw [if_neg (fun q => by
          obtain ⟨p1, p2⟩ := h
          rw [e1] at p1
          rw [e2] at p2
          omega)]
        rfl
      · rw [if_pos]
        apply Decidable.byContradiction
        intro q
        refine h ⟨by rw [e1]; omega, by rw [e2]; omega⟩
    · have hw := ih2 hf
      refine ⟨fun h => ?_, fun _ => wfs_none hw _ (by omega)⟩
      exfalso
      obtain ⟨p1, p2⟩ := h
      rw [e1] at p1
      rw [e2] at p2
      exact hf ⟨by omega, by omega⟩
theorem wflush_fit {l : Wlg} {limit : Int} (h : WOk l) (h2 : ¬ (limit < 1 ∨ 1048576 < limit)) (h3 : pfit (pfs limit l l.2.2.length)) : wflush l limit = (((pfs limit l l.2.2.length).1, (pfs limit l l.2.2.length).2, []), 0) :=
  wflush_0 h h2 ((pfs_wfs ⟨h.1.2.1.2, h.1.1⟩ _ (Nat.le_refl _)).1 h3)
theorem wflush_nofit {l : Wlg} {limit : Int} (h : WOk l) (h2 : ¬ (limit < 1 ∨ 1048576 < limit)) (h3 : ¬ pfit (pfs limit l l.2.2.length)) : wflush l limit = (wzero, 51) :=
  wflush_51 h h2 ((pfs_wfs ⟨h.1.2.1.2, h.1.1⟩ _ (Nat.le_refl _)).2 h3)

/-! Recover -/
def wseg (segs : List Wrt) (k : Nat) : Wrt := segs.getD k (0, [])
theorem wseg_at {segs : List Wrt} {k : Nat} {s : Wrt} (h : segs[k]? = some s) : wseg segs k = s := by unfold wseg; rw [List.getD_eq_getElem?_getD, h]; rfl
noncomputable def pws (segs : List Wrt) : Nat → Wst
  | 0 => (([], (wseg segs 0).1), [])
  | k + 1 => wgone k (pws segs k) (wseg segs k) (wrecs (wseg segs k).2) (wn (wseg segs k).2)
theorem pws_num (segs : List Wrt) (k : Nat) : (pws segs (k + 1)).1.2 = (pws segs k).1.2 + ((wrecs (wseg segs k).2).length : Nat) := rfl
def wgood (segs : List Wrt) (k : Nat) : Prop := (wseg segs k).1 = (pws segs k).1.2 ∧ wn (wseg segs k).2 = (wseg segs k).2.length
/-- the log up to the first tear or gap, and how many segments it reached -/
def PWhole (segs : List Wrt) (t : Wst) (n : Nat) : Prop :=
  ∃ k, (∀ j, j < k → wgood segs j) ∧ ((k = segs.length ∧ t = pws segs k ∧ n = k) ∨ (k < segs.length ∧ (wseg segs k).1 ≠ (pws segs k).1.2 ∧ t = pws segs k ∧ n = k) ∨ (k < segs.length ∧ (wseg segs k).1 = (pws segs k).1.2 ∧ wn (wseg segs k).2 ≠ (wseg segs k).2.length ∧ t = pws segs (k + 1) ∧ n = k + 1))
theorem wrs_good {segs : List Wrt} (h0 : (wseg segs 0).1 ≤ 1099511627776) : ∀ k, k ≤ segs.length → (∀ j, j < k → wgood segs j) → ((pws segs k).1.2 ≤ 1099511627776 → wrs segs k = .inl (pws segs k)) ∧ (¬ (pws segs k).1.2 ≤ 1099511627776 → wrs segs k = .inr (wzero, [], 81))
  | 0, _, _ => ⟨fun _ => rfl, fun h => absurd h0 h⟩
  | k + 1, hk, hg => by
    obtain ⟨ih1, ih2⟩ := wrs_good h0 k (by omega) fun j hj => hg j (by omega)
    obtain ⟨s, hs⟩ : ∃ s, segs[k]? = some s := ⟨segs[k], List.getElem?_eq_getElem (by omega)⟩
    obtain ⟨g1, g2⟩ := hg k (by omega)
    have hn := pws_num segs k
    have he : pws segs (k + 1) = wgone k (pws segs k) (wseg segs k) (wrecs (wseg segs k).2) (wn (wseg segs k).2) := rfl
    rw [wseg_at hs] at g1 g2 hn he
    by_cases hc : (pws segs k).1.2 ≤ 1099511627776
    · have hw := ih1 hc
      rw [wrs_next hw hs]
      unfold wrone
      rw [if_neg (fun q => q g1)]
      refine ⟨fun h => ?_, fun h => ?_⟩
      · rw [if_neg (by omega), if_neg (fun q => q.1 g2), he]
      · rw [if_pos (by omega)]
    · refine ⟨fun h => by omega, fun _ => wrs_stop (ih2 hc) _ (by omega)⟩
theorem pwhole_le {segs : List Wrt} {t : Wst} {n : Nat} (h : PWhole segs t n) : n ≤ segs.length := by
  obtain ⟨k, _, ⟨h1, _, h2⟩ | ⟨h1, _, _, h2⟩ | ⟨h1, _, _, _, h2⟩⟩ := h <;> omega
theorem wrecover_whole {segs : List Wrt} {t : Wst} {n : Nat} (h0 : ¬ segs.length = 0) (hb : ¬ (4096 < segs.length ∨ ¬ widx (wseg segs 0).1)) (h : PWhole segs t n) :
    wrecover segs = if 1099511627776 < t.1.2 then (wzero, [], 81) else ((t.1.1, t.1.2, []), t.2, if n < segs.length then 21 else 0) := by
  have hw0 : widx (wseg segs 0).1 := Decidable.not_not.1 fun q => hb (.inr q)
  have hb' : ¬ (4096 < segs.length ∨ ¬ widx (segs.getD 0 (0, [])).1) := hb
  obtain ⟨k, hg, ⟨e1, rfl, rfl⟩ | ⟨hk, hne, rfl, rfl⟩ | ⟨hk, heq, htn, rfl, rfl⟩⟩ := h
  · obtain ⟨q1, q2⟩ := wrs_good hw0.2 n (by omega) hg
    unfold wrecover
    rw [if_neg h0, if_neg hb', ← e1]
    by_cases hc : (pws segs n).1.2 ≤ 1099511627776
    · rw [q1 hc, if_neg (by omega), if_neg (by omega)]
    · rw [q2 hc, if_pos (by omega)]
  · obtain ⟨q1, q2⟩ := wrs_good hw0.2 n (by omega) hg
    obtain ⟨s, hs⟩ : ∃ s, segs[n]? = some s := ⟨segs[n], List.getElem?_eq_getElem (by omega)⟩
    rw [wseg_at hs] at hne
    unfold wrecover
    rw [if_neg h0, if_neg hb']
    by_cases hc : (pws segs n).1.2 ≤ 1099511627776
    · have hst : wrs segs (n + 1) = .inr (((pws segs n).1.1, (pws segs n).1.2, []), (pws segs n).2, 21) := by
        rw [wrs_next (q1 hc) hs]; unfold wrone; rw [if_pos hne]
      rw [wrs_stop hst _ (by omega), if_neg (by omega), if_pos hk]
    · rw [wrs_stop (q2 hc) _ (by omega), if_pos (by omega)]
  · obtain ⟨q1, q2⟩ := wrs_good hw0.2 k (by omega) hg
    obtain ⟨s, hs⟩ : ∃ s, segs[k]? = some s := ⟨segs[k], List.getElem?_eq_getElem (by omega)⟩
    have hn := pws_num segs k
    have he : pws segs (k + 1) = wgone k (pws segs k) (wseg segs k) (wrecs (wseg segs k).2) (wn (wseg segs k).2) := rfl
    rw [wseg_at hs] at heq htn hn he
    unfold wrecover
    rw [if_neg h0, if_neg hb']
    by_cases hc : (pws segs k).1.2 ≤ 1099511627776
    · by_cases hc2 : 1099511627776 < (pws segs (k + 1)).1.2
      · have hst : wrs segs (k + 1) = .inr (wzero, [], 81) := by
          rw [wrs_next (q1 hc) hs]; unfold wrone; rw [if_neg (fun q => q heq), if_pos (by omega)]
        rw [wrs_stop hst _ (by omega), if_pos hc2]
      · rw [if_neg hc2]
        by_cases hlast : k + 1 < segs.length
        · have hst : wrs segs (k + 1) = .inr (((pws segs (k + 1)).1.1, (pws segs (k + 1)).1.2, []), (pws segs (k + 1)).2, 21) := by
            rw [wrs_next (q1 hc) hs]; unfold wrone; rw [if_neg (fun q => q heq), if_neg (by omega), if_pos ⟨htn, by omega⟩, he]
          rw [wrs_stop hst _ (by omega), if_pos hlast]
        · obtain hle : k + 1 = segs.length := by omega
          have hst : wrs segs (k + 1) = .inl (pws segs (k + 1)) := by
            rw [wrs_next (q1 hc) hs]; unfold wrone; rw [if_neg (fun q => q heq), if_neg (by omega), if_neg (fun q => by have := q.2; omega), he]
          rw [← hle, hst, if_neg (by omega)]
    · rw [wrs_stop (q2 hc) _ (by omega), if_pos (by omega)]

/-! Truncate -/
def ptr (below : Int) : List Wrt → List Wrt
  | [] => []
  | [s] => [s]
  | s :: t :: r => if s.1 = t.1 ∨ t.1 ≤ below then ptr below (t :: r) else s :: ptr below (t :: r)
theorem ptr_above (below : Int) : ∀ (gs : List (List (List UInt8))) (n : Int), (∀ g ∈ gs, g ≠ []) → below < n → ptr below (wsegs n gs) = wsegs n gs
  | [], n, _, _ => rfl
  | [g], n, _, _ => rfl
  | g :: h :: gs, n, hne, hb => by
    have hg : 0 < g.length := List.length_pos_iff.2 (hne g (List.mem_cons_self ..))
    have ih := ptr_above below (h :: gs) (n + (g.length : Nat)) (fun x hx => hne x (List.mem_cons_of_mem _ hx)) (by omega)
    simp only [wsegs, ptr] at ih ⊢
    rw [if_neg (by omega), ih]
theorem ptr_laid (below : Int) : ∀ (gs : List (List (List UInt8))) (n : Int), (∀ g ∈ gs, g ≠ []) → ptr below (wsegs n gs) = wtr below (wsegs n gs)
  | [], n, _ => rfl
  | [g], n, _ => rfl
  | g :: h :: gs, n, hne => by
    have hg : 0 < g.length := List.length_pos_iff.2 (hne g (List.mem_cons_self ..))
    have hne' : ∀ x ∈ h :: gs, x ≠ [] := fun x hx => hne x (List.mem_cons_of_mem _ hx)
    have ih := ptr_laid below (h :: gs) (n + (g.length : Nat)) hne'
    by_cases hb : n + (g.length : Nat) ≤ below
    · simp only [wsegs, ptr, wtr] at ih ⊢
      rw [if_pos (.inr hb), if_pos hb, ih]
    · have ha := ptr_above below (h :: gs) (n + (g.length : Nat)) hne' (by omega)
      simp only [wsegs, ptr, wtr] at ha ⊢
      rw [if_neg (by omega), if_neg hb, ha]
open Classical in
noncomputable def ptrunc (l : Wlg) (below : Int) : Wlg × Int := if WOk l then ((ptr below l.1, l.2.1, l.2.2), 0) else (wzero, 9)
theorem ptrunc_ok {l : Wlg} {below : Int} (h : WOk l) : ptrunc l below = ((ptr below l.1, l.2.1, l.2.2), 0) := if_pos h
theorem ptrunc_no {l : Wlg} {below : Int} (h : ¬ WOk l) : ptrunc l below = (wzero, 9) := if_neg h
/-- behind the first k segments -/
def ptk (below : Int) (segs : List Wrt) : Nat → List Wrt
  | 0 => []
  | k + 1 => if k + 1 < segs.length ∧ ((wseg segs k).1 = (wseg segs (k + 1)).1 ∨ (wseg segs (k + 1)).1 ≤ below) then ptk below segs k else ptk below segs k ++ [wseg segs k]
theorem ptk_cons (below : Int) (s : Wrt) (segs : List Wrt) : ∀ k, 1 ≤ k → ptk below (s :: segs) k = (if 1 < (s :: segs).length ∧ (s.1 = (wseg segs 0).1 ∨ (wseg segs 0).1 ≤ below) then [] else [s]) ++ ptk below segs (k - 1)
  | 0, h => by omega
  | 1, _ => by
    simp only [ptk, Nat.zero_add, show wseg (s :: segs) 0 = s from rfl, show wseg (s :: segs) 1 = wseg segs 0 from rfl, List.nil_append]
    rw [show ptk below segs (1 - 1) = [] from rfl, List.append_nil]
  | k + 2, _ => by
    have ih := ptk_cons below s segs (k + 1) (by omega)
    have e : ∀ j, wseg (s :: segs) (j + 1) = wseg segs j := fun j => rfl
    show (if k + 1 + 1 < (s :: segs).length ∧ ((wseg (s :: segs) (k + 1)).1 = (wseg (s :: segs) (k + 1 + 1)).1 ∨ (wseg (s :: segs) (k + 1 + 1)).1 ≤ below) then ptk below (s :: segs) (k + 1) else ptk below (s :: segs) (k + 1) ++ [wseg (s :: segs) (k + 1)]) = _
    rw [ih, e, e, Nat.add_sub_cancel, show k + 2 - 1 = k + 1 from rfl]
    show _ = _ ++ (if k + 1 < segs.length ∧ ((wseg segs k).1 = (wseg segs (k + 1)).1 ∨ (wseg segs (k + 1)).1 ≤ below) then ptk below segs k else ptk below segs k ++ [wseg segs k])
    by_cases hc : k + 1 < segs.length ∧ ((wseg segs k).1 = (wseg segs (k + 1)).1 ∨ (wseg segs (k + 1)).1 ≤ below)
    · rw [if_pos hc, if_pos ⟨by have := hc.1; simp; omega, hc.2⟩]
    · rw [if_neg hc, if_neg (fun q => hc ⟨by have := q.1; simp at this; omega, q.2⟩), List.append_assoc]
theorem ptk_all (below : Int) : ∀ segs : List Wrt, ptk below segs segs.length = ptr below segs
  | [] => rfl
  | [s] => by
    rw [List.length_singleton, ptk_cons below s [] 1 (by omega)]
    simp [ptk, ptr]
  | s :: t :: r => by
    have ih := ptk_all below (t :: r)
    rw [List.length_cons, ptk_cons below s (t :: r) _ (by omega), Nat.add_sub_cancel, ih, show wseg (t :: r) 0 = t from rfl]
    simp only [ptr, List.length_cons]
    by_cases hc : s.1 = t.1 ∨ t.1 ≤ below
    · rw [if_pos ⟨by omega, hc⟩, if_pos hc]; rfl
    · rw [if_neg (fun q => hc q.2), if_neg hc]; rfl
theorem ptk_len (below : Int) (segs : List Wrt) : ∀ k, (ptk below segs k).length ≤ k
  | 0 => Nat.le_refl _
  | k + 1 => by
    have := ptk_len below segs k
    simp only [ptk]
    split
    · omega
    · rw [List.length_append]; simp; omega

/-! Check and Records -/
def pfirst (segs : List Wrt) (next : Int) : Int := if segs.length = 0 then next else (wseg segs 0).1
noncomputable def pst (segs : List Wrt) (next : Int) : Nat → Int
  | 0 => pfirst segs next
  | k + 1 => pst segs next k + ((wrecs (wseg segs k).2).length : Nat)
theorem pst_wst {segs : List Wrt} {next : Int} : ∀ k, k ≤ segs.length → (∀ j s, j < k → segs[j]? = some s → s.1 = pst segs next j) → 0 < k → pst segs next k = wst segs next k
  | 0, _, _, h => by omega
  | k + 1, hk, h, _ => by
    obtain ⟨s, hs⟩ : ∃ s, segs[k]? = some s := ⟨segs[k], List.getElem?_eq_getElem (by omega)⟩
    have := h k s (by omega) hs
    show pst segs next k + _ = _
    simp only [wst, List.getD_eq_getElem?_getD, hs, Option.getD_some, wseg_at hs]
    rw [this]
theorem pst_first {segs : List Wrt} {next : Int} {s : Wrt} (hs : segs[0]? = some s) : pst segs next 0 = s.1 := by
  have : ¬ segs.length = 0 := fun e => by have := (List.getElem?_eq_some_iff.1 hs).1; omega
  show pfirst segs next = _
  unfold pfirst
  rw [if_neg this, wseg_at hs]
/-- what Check's loop has seen of segment k -/
def psegOk (segs : List Wrt) (next : Int) (k : Nat) (s : Wrt) : Prop := widx s.1 ∧ s.1 = pst segs next k ∧ wn s.2 = s.2.length
theorem wok_pseg {l : Wlg} (h1 : l.1.length ≤ 4096) (h2 : widx l.2.1) (h3 : l.2.2.length ≤ 4096) (h4 : wwaitOk l.2.2) (h5 : ∀ k s, l.1[k]? = some s → psegOk l.1 l.2.1 k s) (h6 : pst l.1 l.2.1 l.1.length = l.2.1) : WOk l := by
  have hp : ∀ k, k ≤ l.1.length → 0 < k → pst l.1 l.2.1 k = wst l.1 l.2.1 k := fun k hk h0 => pst_wst k hk (fun j s _ hs => (h5 j s hs).2.1) h0
  refine ⟨⟨h1, h2, h3⟩, h4, fun k s hs => ?_, ?_⟩
  · obtain ⟨q1, q2, q3⟩ := h5 k s hs
    have hk := (List.getElem?_eq_some_iff.1 hs).1
    exact ⟨⟨q1, fun h0 => by rw [q2, hp k (by omega) h0]⟩, q3⟩
  · by_cases h0 : l.1.length = 0
    · rw [h0]; rfl
    · rw [← hp _ (Nat.le_refl _) (by omega)]; exact h6
theorem wok_psegs {l : Wlg} (h : WOk l) : (∀ k s, l.1[k]? = some s → psegOk l.1 l.2.1 k s) ∧ pst l.1 l.2.1 l.1.length = l.2.1 := by
  obtain ⟨_, _, h5, h6⟩ := h
  have hk : ∀ k, k ≤ l.1.length → ∀ j s, j < k → l.1[j]? = some s → s.1 = pst l.1 l.2.1 j := by
    intro k
    induction k with
    | zero => intro _ j s hj; omega
    | succ k ih =>
      intro hk j s hj hs
      by_cases e : j = k
      · subst e
        by_cases h0 : j = 0
        · subst h0; rw [pst_first hs]
        · rw [pst_wst j (by omega) (ih (by omega)) (by omega)]
          exact (h5 j s hs).1.2 (by omega)
      · exact ih (by omega) j s (by omega) hs
  refine ⟨fun k s hs => ?_, ?_⟩
  · have hlt := (List.getElem?_eq_some_iff.1 hs).1
    exact ⟨(h5 k s hs).1.1, hk (k + 1) (by omega) k s (by omega) hs, (h5 k s hs).2⟩
  · by_cases h0 : l.1.length = 0
    · rw [h0]
      show pfirst _ _ = _
      unfold pfirst; rw [if_pos h0]
    · rw [pst_wst _ (Nat.le_refl _) (hk _ (Nat.le_refl _)) (by omega)]; exact h6
theorem pst_wall (segs : List Wrt) (next : Int) : ∀ k, k ≤ segs.length → pst segs next k = pfirst segs next + ((wall (segs.take k)).length : Nat)
  | 0, _ => by simp [pst, wall]
  | k + 1, hk => by
    obtain ⟨s, hs⟩ : ∃ s, segs[k]? = some s := ⟨segs[k], List.getElem?_eq_getElem (by omega)⟩
    have ih := pst_wall segs next k (by omega)
    show pst segs next k + _ = _
    rw [ih, take_snoc hs, wseg_at hs]
    unfold wall
    rw [List.flatMap_append, List.length_append]
    simp only [List.flatMap_cons, List.flatMap_nil, List.append_nil]
    push_cast
    omega
theorem wrecords_p {l : Wlg} (h : WOk l) : wrecords l = (wall l.1, pfirst l.1 l.2.1, 0) := by
  unfold wrecords
  rw [if_pos h]
  have := pst_wall l.1 l.2.1 l.1.length (Nat.le_refl _)
  rw [(wok_psegs h).2, List.take_of_length_le (Nat.le_refl _)] at this
  rw [show l.2.1 - ((wall l.1).length : Nat) = pfirst l.1 l.2.1 by omega]
theorem wrecords_no {l : Wlg} (h : ¬ WOk l) : wrecords l = ([], 0, 9) := by unfold wrecords; rw [if_neg h]
theorem wall_next {segs : List Wrt} {k : Nat} {s : Wrt} (h : segs[k]? = some s) : wall (segs.take (k + 1)) = wall (segs.take k) ++ wrecs s.2 := by
  unfold wall; rw [take_snoc h, List.flatMap_append]; simp

end Go.Proofs.Ytlnoancjegifnaa

/-
  bytes.Equal and bytes.Clone. General.
-/
namespace Go.Proofs.Ytlnoancjegifnaa
open Go.RowKit
set_option linter.unusedVariables false

/-- string(b) of octets that have a place, even of none -/
theorem conv_at {w : World} {b o c n : Nat} {xs : List UInt8} (hn : xs.length = n) (h : Rd w (.slice (some ⟨b, o, none⟩) n c) xs) : (convert 54 9 (.slice (some ⟨b, o, none⟩) n c)).run Try.prog w = .ok (.string ⟨xs.toArray⟩) w := by
  subst hn
  obtain ⟨ao, cap, e, h1, h2, h3, h4⟩ := h
  simp only [Value.slice.injEq, true_and] at e
  obtain ⟨rfl, rfl⟩ := e
  refine run_convert_bytes_back w 54 9 5 ⟨b, o, none⟩ c xs Try.underlying54 Try.underlying5 Try.underlying9 fun j hj => ?_
  rcases h4 with h4 | ⟨b', off, e, hc⟩
  · subst h4; simp at hj
  · simp only [Option.some.injEq, Addr.mk.injEq, and_true] at e
    obtain ⟨rfl, rfl⟩ := e
    have := hc j hj
    rw [show (⟨b, o, none⟩ : Addr).add j = ⟨b, o + j, none⟩ by simp [Addr.add], this]
    unfold bt
    simp [List.getD_eq_getElem?_getD, hj]
set_option maxRecDepth 100000 in
theorem bclone_at (w : World) (b o n c : Nat) (xs : List UInt8) (h : Rd w (.slice (some ⟨b, o, none⟩) n c) xs) (hm : xs.length ≤ 140737488351232) :
    Calls Try.prog 50 #[.slice (some ⟨b, o, none⟩) n c] w fun e w' => ∃ v', e = .returned v' ∧ OwnB w.heap.size w' v' xs ∧ Below w.heap.size w w' := by
  obtain ⟨X, hX⟩ : ∃ u, u = w.alloc (.cells #[] 5) := ⟨_, rfl⟩
  have oX : OwnB w.heap.size X (.slice (some ⟨w.heap.size, 0, none⟩) 0 0) [] := by rw [hX]; exact own_lit w [] (by decide)
  have bX : Below w.heap.size w X := by rw [hX]; exact (Below.refl _ _).alloc (Nat.le_refl _) _
  have rX := h.to bX
  have hl : ([] : List UInt8).length + xs.length ≤ 140737488355328 := by simp; omega
  have hsz := bX.size
  have hnil : (binOp .eql 54 (.slice (some ⟨b, o, none⟩) n c) (.slice none 0 0)).run Try.prog w = .ok (.bool false) w := Lib.run_eql_slice_nil w 54 5 _ n c 0 0 Try.underlying54
  clear h
  go_enter Try.func50, Try.ntmps50
  go_wp2_with (at_builtin; rw [← hX]; refine wpList_append_octs rfl _ _ rfl w.heap.size _ _ _ _ rfl rfl oX rX hl hsz ?_; intro v6 w6 o6 b6 _)
  go_ret
  exact ⟨_, rfl, by simpa using o6, bX.trans b6⟩

end Go.Proofs.Ytlnoancjegifnaa

/-
  The program's small functions of logs: isNumber, firstNumber, what finds records that are too long, a segment's copy; bytes.Clone of any octets.
-/
namespace Go.Proofs.Ytlnoancjegifnaa
open Go.RowKit
set_option linter.unusedVariables false

set_option maxRecDepth 100000 in
theorem pindex_any (w : World) (n : Int) : Calls Try.prog 45 #[.int .i64 n] w fun e w' => e = .returned (.bool (decide (widx n))) ∧ w = w' := by
  by_cases h1 : 0 ≤ n
  · by_cases h2 : n ≤ 1099511627776
    · rw [decide_eq_true (show widx n from ⟨h1, h2⟩)]
      go_enter Try.func45, Try.ntmps45
      go_wp2
      go_ret
      exact ⟨rfl, rfl⟩
    · rw [decide_eq_false (show ¬ widx n from fun h => h2 h.2)]
      have h2' : (decide (n ≤ 1099511627776)) = false := decide_eq_false h2
      go_enter Try.func45, Try.ntmps45
      go_wp2
      go_ret
      exact ⟨rfl, rfl⟩
  · rw [decide_eq_false (show ¬ widx n from fun h => h1 h.1)]
    have h1' : (decide (0 ≤ n)) = false := decide_eq_false h1
    go_enter Try.func45, Try.ntmps45
    go_wp2
    go_ret
    exact ⟨rfl, rfl⟩

set_option maxRecDepth 100000 in
theorem pfirst_any (w : World) (sv wv : Value) (l : Wlg) (h1 : RdC w sv l.1) : Calls Try.prog 43 #[.agg #[sv, .int .i64 l.2.1, wv]] w fun e w' => e = .returned (.int .i64 (pfirst l.1 l.2.1)) ∧ Below w.heap.size w w' := by
  have lb := h1.bd
  obtain ⟨a1, c1, rfl⟩ := h1.slice
  obtain ⟨X, hX, X0, bX, sX⟩ := boxedN w #[.slice a1 l.1.length c1, .int .i64 l.2.1, wv] 28
  obtain ⟨⟨A0, A1, A2⟩, _⟩ := cells3 X0
  have H1 := h1.to0 bX
  by_cases h0 : l.1.length = 0
  · have hE : Hid (pfirst l.1 l.2.1 = l.2.1) := if_pos h0
    have hi : (l.1.length : Int) = 0 := by omega
    rw [hX] at A0 A1 A2
    clear H1 h1
    go_enter Try.func43, Try.ntmps43
    go_wp2
    go_ret
    exact ⟨ret_int hE.out.symm, (Below.refl _ _).alloc (Nat.le_refl _) _⟩
  · have hi : ¬ (l.1.length : Int) = 0 := by omega
    have hpos : (0 : Int) < (l.1.length : Int) := by omega
    obtain ⟨f, hf, _⟩ := some_at l.1 (k := 0) (by omega)
    obtain ⟨b0, o0, u0, e0, hc0, _, _⟩ := H1.wrt hf
    subst e0
    rw [Nat.zero_mul, Nat.add_zero] at hc0
    have hE : Hid (pfirst l.1 l.2.1 = f.1) := (if_neg h0).trans (by rw [wseg_at hf])
    rw [hX] at A0 A1 A2 hc0
    clear H1 h1 hf
    go_enter Try.func43, Try.ntmps43
    go_wp2
    go_ret
    exact ⟨ret_int hE.out.symm, by rw [← hX]; exact bX⟩

set_option maxRecDepth 100000 in
theorem plong_any (w : World) (b : Nat) (v : Value) (r : List UInt8) (h : Rd w v r) (hc : w.cell? ⟨b, 0, none⟩ = some (.int .i64 4096)) :
    Calls Try.prog 49 #[v, .pointer (some ⟨b, 0, none⟩)] w fun e w' => e = .returned (.bool (decide (4096 < r.length))) ∧ w = w' := by
  obtain ⟨a, c, rfl⟩ := h.slice
  clear h
  by_cases hl : 4096 < r.length
  · have hq : (4096 : Int) < (r.length : Int) := by omega
    rw [decide_eq_true hl]
    replace hl := hide hl
    go_enter Try.func49, Try.ntmps49
    go_wp2
    go_ret
    exact ⟨by first | rfl | (apply ret_bool; simpa using hl.out), rfl⟩
  · have hq : ¬ (4096 : Int) < (r.length : Int) := by omega
    rw [decide_eq_false hl]
    replace hl := hide hl
    go_enter Try.func49, Try.ntmps49
    go_wp2
    go_ret
    exact ⟨by first | rfl | (apply ret_bool; simpa using hl.out), rfl⟩
set_option maxRecDepth 100000 in
theorem plonger_any (w : World) : Calls Try.prog 33 #[.int .i64 4096] w fun e w' => e = .returned (.func (.func 49) #[] #[.pointer (some ⟨w.heap.size, 0, none⟩)]) ∧ w'.cell? ⟨w.heap.size, 0, none⟩ = some (.int .i64 4096) ∧ Below w.heap.size w w' := by
  obtain ⟨X, hX, X0, bX, sX⟩ := boxedN w #[.int .i64 4096] 3
  go_enter Try.func33, Try.ntmps33
  go_wp2
  go_ret
  rw [← hX]
  exact ⟨rfl, by rw [cell_of_row _ _ 0 _ _ (0, 0) X0]; rfl, bX⟩

set_option maxRecDepth 100000 in
set_option maxHeartbeats 1000000 in
theorem pindexf_any (w : World) (b : Nat) (v : Value) (ws : List (List UInt8)) (h : RdSec w v ws) (hc : w.cell? ⟨b, 0, none⟩ = some (.int .i64 4096)) :
    Calls Try.prog 48 #[v, .func (.func 49) #[] #[.pointer (some ⟨b, 0, none⟩)]] w fun e w' => ∃ k : Int, e = .returned (.int .i64 k) ∧ (0 ≤ k ↔ ¬ wwaitOk ws) ∧ w = w' := by
  have lb := h.bd
  obtain ⟨a, c, rfl⟩ := h.slice
  have HC := hide hc
  have HH := hide h
  clear h hc
  go_enter Try.func48, Try.ntmps48
  go_wp2
  go_loopw [8] (fun i wr => ∃ k : Nat, k ≤ ws.length ∧ i = .int .i64 k ∧ w = wr ∧ Hid (∀ j r, j < k → ws[j]? = some r → r.length ≤ 4096)) (fun i _ => ws.length - (intOf i).toNat)
  case atStart => exact ⟨0, Nat.zero_le _, rfl, rfl, hide (fun j r hj => by omega)⟩
  case round =>
    obtain ⟨k, hk, rfl, rfl, hI⟩ := hrel
    by_cases hlt : k < ws.length
    · have hq : (k : Int) < (ws.length : Int) := by omega
      obtain ⟨r, hr, hrm⟩ := some_at ws hlt
      obtain ⟨b1, o1, u, rfl, hc1, hru⟩ := HH.out.oct hr
      have KK := hide (plong_any w b u r hru HC.out)
      obtain ⟨ua, uc, rfl⟩ := hru.slice
      have HR := hide hr
      clear hr hru
      go_wp2_with fail
      refine KK.out.mono ?_
      rintro e w' ⟨rfl, rfl⟩
      clear KK
      by_cases hl : 4096 < r.length
      · rw [decide_eq_true hl]
        have hE : Hid ((0 : Int) ≤ (k : Int) ↔ ¬ wwaitOk ws) := ⟨fun _ q => by have := q r hrm; omega, fun _ => by omega⟩
        replace hl := hide hl
        go_wp2
        go_ret
        exact ⟨_, rfl, hE.out, rfl⟩
      · rw [decide_eq_false hl]
        have hI' : Hid (∀ j r, j < k + 1 → ws[j]? = some r → r.length ≤ 4096) := fun j r' hj hr' => by
          by_cases e : j = k
          · subst e; rw [HR.out] at hr'; cases hr'; omega
          · exact hI.out j r' (by omega) hr'
        replace hl := hide hl
        go_wp2
        go_roundw
        case rel => exact ⟨k + 1, by omega, by go_num, trivial, hI'⟩
        case measure => simp [intOf]; omega
    · have hq : ¬ (k : Int) < (ws.length : Int) := by omega
      obtain rfl : k = ws.length := by omega
      have hE : Hid ((0 : Int) ≤ -1 ↔ ¬ wwaitOk ws) := ⟨fun q => by omega, fun q => absurd (fun r hr => by
        obtain ⟨j, hj, e⟩ := List.mem_iff_getElem.1 hr
        exact hI.out j r hj (by rw [List.getElem?_eq_getElem hj, e])) q⟩
      go_wp2
      go_ret
      exact ⟨_, rfl, hE.out, rfl⟩

set_option maxRecDepth 100000 in
theorem pcontains_any (w : World) (b : Nat) (v : Value) (ws : List (List UInt8)) (h : RdSec w v ws) (hc : w.cell? ⟨b, 0, none⟩ = some (.int .i64 4096)) :
    Calls Try.prog 32 #[v, .func (.func 49) #[] #[.pointer (some ⟨b, 0, none⟩)]] w fun e w' => ∃ bb : Bool, e = .returned (.bool bb) ∧ (bb = true ↔ ¬ wwaitOk ws) ∧ w = w' := by
  have KK := hide (pindexf_any w b v ws h hc)
  obtain ⟨a, c, rfl⟩ := h.slice
  clear h hc
  go_enter Try.func32, Try.ntmps32
  go_wp2_with fail
  refine KK.out.mono ?_
  rintro e w' ⟨k, rfl, hk, rfl⟩
  clear KK
  by_cases h0 : 0 ≤ k
  · have hE := hide (hk.1 h0)
    clear hk
    go_wp2
    go_ret
    exact ⟨true, ret_bool (by first | rfl | simpa using h0), ⟨fun _ => hE.out, fun _ => rfl⟩, rfl⟩
  · have hE := hide (fun q => h0 (hk.2 q))
    clear hk
    go_wp2
    go_ret
    exact ⟨false, ret_bool (by first | rfl | simpa using h0), ⟨(fun h => by cases h), fun h => absurd h hE.out⟩, rfl⟩

set_option maxRecDepth 100000 in
theorem bclone_any (w : World) (v : Value) (xs : List UInt8) (h : Rd w v xs) (hm : xs.length ≤ 140737488351232) :
    Calls Try.prog 50 #[v] w fun e w' => ∃ v', e = .returned v' ∧ OwnB w.heap.size w' v' xs ∧ Below w.heap.size w w' := by
  have h' := h
  obtain ⟨ao, cap, rfl, h1, h2, h3, h4⟩ := h
  cases ao with
  | none =>
    have : xs = [] := by
      rcases h4 with h4 | ⟨b, off, e, _⟩
      · exact h4
      · cases e
    subst this
    obtain rfl : cap = 0 := h3 rfl
    clear h' h1 h2 h3 h4
    have hnil : (binOp .eql 54 (.slice none 0 0) (.slice none 0 0)).run Try.prog w = .ok (.bool true) w := Lib.run_eql_slice_nil w 54 5 _ 0 0 0 0 Try.underlying54
    go_enter Try.func50, Try.ntmps50
    go_wp2
    go_ret
    exact ⟨_, rfl, World.ownsRow_nil _ _ _ _, Below.refl _ _⟩
  | some ad =>
    rcases h4 with h4 | ⟨b, off, e, _⟩
    · subst h4
      obtain ⟨X, hX⟩ : ∃ u, u = w.alloc (.cells #[] 5) := ⟨_, rfl⟩
      have oX : OwnB w.heap.size X (.slice (some ⟨w.heap.size, 0, none⟩) 0 0) [] := by rw [hX]; exact own_lit w [] (by decide)
      have bX : Below w.heap.size w X := by rw [hX]; exact (Below.refl _ _).alloc (Nat.le_refl _) _
      have rX := h'.to bX
      have hl : ([] : List UInt8).length + ([] : List UInt8).length ≤ 140737488355328 := by simp
      have hsz := bX.size
      have hnil : (binOp .eql 54 (.slice (some ad) 0 cap) (.slice none 0 0)).run Try.prog w = .ok (.bool false) w := Lib.run_eql_slice_nil w 54 5 _ 0 cap 0 0 Try.underlying54
      clear h' h1 h2 h3
      go_enter Try.func50, Try.ntmps50
      go_wp2_with (at_builtin; rw [← hX]; refine wpList_append_octs rfl _ _ rfl w.heap.size _ _ _ _ rfl rfl oX rX hl hsz ?_; intro v6 w6 o6 b6 _)
      go_ret
      exact ⟨_, rfl, by simpa using o6, bX.trans b6⟩
    · simp only [Option.some.injEq] at e
      subst e
      exact bclone_at w b off _ cap xs h' hm

theorem info_sgP : (Try.prog.info? 56).map (·.size) = some 2 := by kernel_rfl
theorem boxes2 (w : World) (x y x' y' : Value) (t : TypeId) : ∃ W, W = (w.alloc (.cells #[x, y] t)).alloc (.cells #[x', y'] t) ∧ W.heap[w.heap.size]? = some (.cells #[x, y] t (0, 0)) ∧ W.heap[w.heap.size + 1]? = some (.cells #[x', y'] t (0, 0)) ∧ Below w.heap.size w W ∧ W.heap.size = w.heap.size + 1 + 1 := by
  refine ⟨_, rfl, ?_, ?_, ((Below.refl _ _).alloc (Nat.le_refl _) _).alloc (by simp) _, by simp⟩
  · rw [Below.heap_alloc _ _ _ (by simp)]; exact heap_alloc_last w _
  · have := heap_alloc_last (w.alloc (.cells #[x, y] t)) (.cells #[x', y'] t); simpa using this

theorem rd_takeN {w : World} {a : Option Addr} {len cap : Nat} {xs : List UInt8} (h : Rd w (.slice a len cap) xs) {n : Nat} (hn : n ≤ len) : Rd w (.slice a n cap) (xs.take n) := by
  obtain ⟨ao, c, e, l1, m1, n1, r1⟩ := h
  simp only [Value.slice.injEq] at e
  obtain ⟨rfl, rfl, rfl⟩ := e
  have el : (xs.take n).length = n := by simp; omega
  refine ⟨a, cap, by rw [el], by rw [el]; omega, m1, n1, ?_⟩
  rcases r1 with rfl | ⟨b, off, rfl, hc⟩
  · left; simp
  · right
    refine ⟨b, off, rfl, fun i hi => ?_⟩
    rw [el] at hi
    rw [hc i (by omega)]
    simp only [bt]
    congr 3
    simp only [List.getD_eq_getElem?_getD, List.getElem?_take]
    rw [if_pos hi]

set_option maxRecDepth 100000 in
set_option maxHeartbeats 1000000 in
theorem pcopy_any (w : World) (v : Value) (z : Int) (x : List UInt8) (n : Nat) (h : Rd w v x) (hn : n ≤ x.length) (hm : x.length ≤ 140737488351232) :
    Calls Try.prog 41 #[.agg #[.int .i64 z, v], .int .i64 (n : Int)] w fun e w' => ∃ v', e = .returned (.agg #[.int .i64 z, v']) ∧ OwnB w.heap.size w' v' (x.take n) ∧ Below w.heap.size w w' := by
  obtain ⟨a, c, rfl⟩ := h.slice
  have hcap : x.length ≤ c := by obtain ⟨_, _, e, l1, _⟩ := h; simp only [Value.slice.injEq] at e; omega
  obtain ⟨W, hW, hA, hZ, bW, sW⟩ := boxes2 w (.int .i64 z) (.slice a x.length c) (.int .i64 0) (.slice none 0 0) 56
  have H1 := h.to bW
  have KC := hide (bclone_any W.drew _ (x.take n) (rd_takeN (H1.to (Below.refl _ _).drew) hn) (by simp; omega))
  obtain ⟨A0, A1, _, _⟩ := row2_cells hA
  have HZ := hide hZ
  have BW := hide bW
  obtain ⟨TK, hTK⟩ : ∃ TK, TK = x.take n := ⟨_, rfl⟩
  rw [← hTK] at KC ⊢
  obtain ⟨L, hL⟩ : ∃ L, L = x.length := ⟨_, rfl⟩
  rw [← hL] at A1 hW hn hcap ⊢
  replace hL := hide hL
  have hnc : (n : Int) ≤ (c : Int) := by omega
  have hnl : (n : Int) ≤ (L : Int) := by omega
  replace hTK := hide hTK
  clear h H1 hZ bW hA hm
  go_enter Try.func41, Try.ntmps41
  go_wp2
  rw [← hW]
  replace hW := hide hW
  refine wp_region_mid (fun w' => w'.cell? ⟨w.heap.size, 0, none⟩ = some (.int .i64 z) ∧ w'.cell? ⟨w.heap.size, 1, none⟩ = some (.slice a L c)) 6 7 mixed (by kernel_rfl) (fun _ _ _ _ h => h) ⟨A0, A1⟩ ?_
  dsimp only [List.take, List.drop]
  iterate 6
    refine take_one (v := ?_) (by rfl) ?_ ?_
    rotate_left
    · rintro w' ⟨s1, s2⟩
      go_simp
      try with_reducible rfl
    try simp only [Act.put, List.setIfInBounds_toArray, List.set_cons_zero, List.set_cons_succ]
  refine mid_one fun K hK => ?_
  refine step_call (by rfl) 50 _ _ (by rfl) #[.slice a n c] (by simp [Act.eval]) (Try.call50 _ _) KC.out ?_
  rintro e w2 ⟨v2, rfl, o2, b2⟩
  obtain ⟨av, cv, hv2⟩ := o2.rd.slice
  have x0 := (b2.cell (p := ⟨w.heap.size, 0, none⟩) (cell_lt A0)).trans A0
  have x1 := (b2.cell (p := ⟨w.heap.size, 1, none⟩) (cell_lt A1)).trans A1
  refine ⟨_, rfl, hK _ _ ⟨x0, x1⟩ ?_⟩
  clear hK K
  try simp only [Act.put, List.setIfInBounds_toArray, List.set_cons_zero, List.set_cons_succ]
  have Z2 := hide ((b2.block _ (show w.heap.size + 1 < W.drew.heap.size by rw [show W.drew.heap.size = W.heap.size from rfl, sW]; omega)).trans HZ.out)
  obtain ⟨z0, z1, y0, y1⟩ := row2_cells Z2.out
  have hWd : W.heap.size ≤ W.drew.heap.size := Nat.le_refl _
  have OO := hide (own_set (own_set o2 (g := w.heap.size + 1) (by rw [show W.drew.heap.size = W.heap.size from rfl, sW]; omega) 0 (.int .i64 z)) (g := w.heap.size + 1) (by rw [show W.drew.heap.size = W.heap.size from rfl, sW]; omega) 1 v2)
  have CC : Hid (Below w.heap.size w w2) := BW.out.trans (((Below.refl _ _).drew.trans b2).mono BW.out.size)
  clear o2 b2
  subst hv2
  show wpList _ _ _ _ _ _
  go_wp2
  refine retN rfl rfl (w.heap.size + 1) rfl _ _ (0, 0) (heap_set2 (u := w2) Z2.out _ _) _ Try.underlying56 rfl info_sgP ?_
  exact ⟨_, rfl, OO.out.mono (by rw [show W.drew.heap.size = W.heap.size from rfl, sW]; omega), below_set2 CC.out (show w.heap.size ≤ w.heap.size + 1 by omega) _ _⟩

end Go.Proofs.Ytlnoancjegifnaa

/-
  The program's copiesOf and segsOf.
-/
namespace Go.Proofs.Ytlnoancjegifnaa
open Go.RowKit
set_option linter.unusedVariables false

/-- make([]T, 0, n) by its run -/
theorem wpList_make_run {P : Program} (w : World) {ops : Array Oper} {rest : List Oper} {o : Oper} {a : Act} {Q : Exit → Act → World → Prop} (hg : o.guard = none) (l c : Operand) (t : TypeId) (hop : o.op = Op.makeSlice t l c)
    (kl kc : IntKind) (C : Int) (n : Nat) (hl : a.eval l = .int kl 0) (hc : a.eval c = .int kc C) (hC : C = (n : Int)) (v : Value) (w' : World) (hr : (Instr.makeSlice t (.int kl 0) (.int kc (n : Int))).run P w = .ok v w') (h : wpList P ops Q rest (a.put o.dst v) w') : wpList P ops Q (o :: rest) a w := by
  refine wpList_plain hg fun K hK' => ?_
  subst hC
  unfold Oper.wp
  simp [execOp, hop, hl, hc, hr, Result.andThen]
  exact hK' _ _ h

set_option maxRecDepth 100000 in
set_option maxHeartbeats 2000000 in
theorem pcopies_any (w : World) (v : Value) (ws : List (List UInt8)) (h : RdSec w v ws) (hl : ws.length ≤ 1000000) (hx : ∀ x ∈ ws, x.length ≤ 140737488351232) :
    Calls Try.prog 34 #[v] w fun e w' => ∃ v', e = .returned v' ∧ OwnV w.heap.size w.heap.size w' v' ws ∧ Below w.heap.size w w' := by
  obtain ⟨i0, hi, hz0, hz1, hz2⟩ := info_parts infoB
  obtain ⟨a, c, rfl⟩ := h.slice
  obtain ⟨w1, hmk, own1, gr1⟩ := run_make_own (P := Try.prog) w w.heap.size 23 54 i0 (.slice none 0 0) 1 Try.underlying23 hi hz0 hz1 .i64 .i64 ws.length (by rw [hz2]; omega) (by unfold maxLen; omega) (Nat.le_refl _)
  have b1 : Below w.heap.size w w1 := (Below.refl _ _).grown gr1 (Nat.le_refl _) (fun k h => by cases h)
  have V1 : Hid (OwnV w.heap.size w.heap.size w1 (.slice (some ⟨w.heap.size, 0, none⟩) 0 ws.length) [] ∧ Below w.heap.size w w1) := ⟨⟨[], rfl, own1, fun i hi => by simp at hi⟩, b1⟩
  have HH := hide h
  clear own1 gr1 b1 h
  go_enter Try.func34, Try.ntmps34
  go_wp2_with (at_make; refine wpList_make_run _ rfl _ _ 23 rfl _ _ _ ws.length rfl rfl rfl _ _ hmk ?_)
  clear hmk
  go_loopw [3, 11] (fun o i wr => ∃ k : Nat, k ≤ ws.length ∧ i = .int .i64 k ∧ Hid (OwnV w.heap.size w.heap.size wr o (ws.take k) ∧ Below w.heap.size w wr)) (fun _ i _ => ws.length - (intOf i).toNat)
  case atStart => exact ⟨0, Nat.zero_le _, rfl, V1⟩
  case round =>
    obtain ⟨k, hk, rfl, hI⟩ := hrel
    clear V1
    by_cases hlt : k < ws.length
    · have hq : (k : Int) < (ws.length : Int) := by omega
      obtain ⟨x, hxk, hxm⟩ := some_at ws hlt
      obtain ⟨b1, o1, u, rfl, hc, hr⟩ := (HH.out.to0 hI.out.2).oct hxk
      have KC := hide (bclone_any wr u x hr (hx x hxm))
      obtain ⟨ua, uc, rfl⟩ := hr.slice
      have hsn := hide (snoc_take ws hxk)
      have hkl : Hid ((ws.take k).length = k) := by show _ = _; simp; omega
      clear hr hxk hxm
      go_wp2_with fail
      refine KC.out.mono ?_
      rintro e w2 ⟨v2, rfl, o2, b2⟩
      clear KC
      obtain ⟨va, vc, hv2⟩ := o2.rd.slice
      have hb2 := hI.out.2.trans (b2.mono hI.out.2.size)
      obtain ⟨vs, v1, v2', v3⟩ := hI.out.1.below b2
      rw [hkl.out] at v2'
      have VR := hide (World.ownsRow.alloc v2' (.cells #[v2] 54))
      have h63 : k + 1 ≤ maxLen := by rw [show maxLen = 9223372036854775807 from rfl]; omega
      have hby : (k + 1) * 24 ≤ 140737488355328 := by omega
      have hbs : w.heap.size ≤ (w2.alloc (.cells #[v2] 54)).heap.size := by have := hb2.size; simp; omega
      have FIN : Hid (∀ v' w', (w2.alloc (.cells #[v2] 54)).grownBy w' u3.ownBlock → w'.ownsRow w.heap.size 54 1 v' (k + 1) (vs ++ [v2]) →
          Hid (OwnV w.heap.size w.heap.size w' v' (ws.take (k + 1)) ∧ Below w.heap.size w w')) := fun v' w' hg hw' => by
        have al : Below w2.heap.size w2 (w2.alloc (.cells #[v2] 54)) := (Below.refl _ _).alloc (Nat.le_refl _) _
        refine ⟨?_, (hb2.trans (al.mono hb2.size)).grown hg hbs (rows_from VR.out)⟩
        rw [← hsn.out]
        refine OwnV.app (w := w2.alloc (.cells #[v2] 54)) v1 (by rw [hkl.out]; exact VR.out) (fun i hi => (v3 i hi).below (Nat.le_refl _) al) (us := [v2]) rfl (fun i hi => ?_) hg (by rw [hkl.out]; exact hw')
        have hi0 : i = 0 := by simpa using hi
        subst hi0
        exact (o2.below (Nat.le_refl _) al).mono (show w.heap.size ≤ wr.heap.size from hI.out.2.size)
      obtain ⟨XL, hXL⟩ : ∃ XL, XL = x.length := ⟨_, rfl⟩
      rw [← hXL] at hv2
      replace hXL := hide hXL
      subst hv2
      clear v1 v2' v3 o2 b2 hb2
      go_wp2_with (at_builtin; refine wpList_append_own _ rfl _ _ 23 rfl w.heap.size 54 i0 _ 1 24 Try.underlying23 hi hz0 hz1 hz2 rfl (by decide) u3 k vs rfl VR.out ⟨w2.heap.size, 0, none⟩ 1 1 [.slice va XL vc] rfl rfl (World.news_of_block (heap_alloc_last w2 _)) (by simp [Value.oneCell']) h63 hby hbs ?_; intro v5 w5 hown5 hgrow5 _; have F5 := FIN.out v5 w5 hgrow5 hown5; clear hown5 hgrow5)
      go_roundw
      case rel => exact ⟨k + 1, by omega, by go_num, F5⟩
      case measure => simp [intOf]; omega
    · have hq : ¬ (k : Int) < (ws.length : Int) := by omega
      obtain rfl : k = ws.length := by omega
      have FIN := hI
      rw [List.take_of_length_le (Nat.le_refl _)] at FIN
      clear hI
      go_wp2
      go_ret
      exact ⟨_, rfl, FIN.out⟩

set_option maxRecDepth 100000 in
set_option maxHeartbeats 2000000 in
theorem psegs_any (w : World) (v : Value) (ws : List Wrt) (h : RdC w v ws) (hl : ws.length ≤ 1000000) (hx : ∀ x ∈ ws, x.2.length ≤ 140737488351232) :
    Calls Try.prog 35 #[v] w fun e w' => ∃ v', e = .returned v' ∧ Own (Shp.list 56 SWr) w.heap.size w' [v'] ws ∧ Below w.heap.size w w' := by
  obtain ⟨j0, ji, jz0, jz1, jz2⟩ := info_parts infoSP
  obtain ⟨a, c, rfl⟩ := h.slice
  obtain ⟨w1, hmk, own1, gr1⟩ := run_make_own (P := Try.prog) w w.heap.size 26 56 j0 _ 2 Try.underlying26 ji jz0 jz1 .i64 .i64 ws.length (by rw [jz2]; omega) (by unfold maxLen; omega) (Nat.le_refl _)
  have b1 : Below w.heap.size w w1 := (Below.refl _ _).grown gr1 (Nat.le_refl _) (fun k h => by cases h)
  have V1 : Hid (∃ F, OwnF (Shp.list 56 SWr) F w1 [.slice (some ⟨w.heap.size, 0, none⟩) 0 ws.length] [] ∧ (∀ b, b ∈ F → w.heap.size ≤ b) ∧ Below w.heap.size w w1) := by
    obtain ⟨F, f1, f2⟩ := (Own.cap 56 SWr own1).foot
    exact ⟨F, f1, f2, b1⟩
  have HH := hide h
  clear own1 gr1 b1 h
  go_enter Try.func35, Try.ntmps35
  go_wp2_with (at_make; refine wpList_make_run _ rfl _ _ 26 rfl _ _ _ ws.length rfl rfl rfl _ _ hmk ?_)
  clear hmk
  go_loopw [3, 11] (fun o i wr => ∃ k : Nat, k ≤ ws.length ∧ i = .int .i64 k ∧ Hid (∃ F, OwnF (Shp.list 56 SWr) F wr [o] (ws.take k) ∧ (∀ b, b ∈ F → w.heap.size ≤ b) ∧ Below w.heap.size w wr)) (fun _ i _ => ws.length - (intOf i).toNat)
  case atStart => exact ⟨0, Nat.zero_le _, rfl, V1⟩
  case round =>
    obtain ⟨k, hk, rfl, hI⟩ := hrel
    clear V1
    by_cases hlt : k < ws.length
    · have hq : (k : Int) < (ws.length : Int) := by omega
      obtain ⟨F, hF, hFB, hb⟩ := hI.out
      obtain ⟨y, hyk, hym⟩ := some_at ws hlt
      obtain ⟨b1, o1, u, rfl, hc1, hc2, hr⟩ := (HH.out.to0 hb).wrt hyk
      obtain ⟨au, cu, rfl⟩ := hr.slice
      obtain ⟨cc, rowT, fin⟩ := OwnF.lit hF (n := k) (by simp; omega)
      have hsn := snoc_take ws hyk
      have hxl := hx y hym
      obtain ⟨z, x⟩ := y
      dsimp only at hc1 hc2 hr hxl
      obtain ⟨X, hX, X0, bX, sX⟩ := boxedN wr #[.int .i64 z, .slice au x.length cu] 56
      obtain ⟨x0, x1, _, _⟩ := row2_cells X0
      have KC := hide (pcopy_any X _ z x x.length (hr.to bX) (Nat.le_refl _) hxl)
      rw [List.take_of_length_le (Nat.le_refl _)] at KC
      have BX := hide bX
      have FIN : Hid (∀ (w2 : World) (v2 : Value) (w5 : World) (g cap : Nat), Below wr.heap.size wr w2 → OwnB wr.heap.size w2 v2 x → (w2.alloc (.cells #[.int .i64 z, v2] 56)).grownBy w5 u3.ownBlock →
          w5.ownsRow 0 56 2 (.slice (some ⟨g, 0, none⟩) (k + 1) cap) (k + 1) (cc ++ [.int .i64 z, v2]) → (u3.ownBlock = some g ∨ g = w2.heap.size + 1) →
          Hid (∃ F, OwnF (Shp.list 56 SWr) F w5 [.slice (some ⟨g, 0, none⟩) (k + 1) cap] (ws.take (k + 1)) ∧ (∀ b, b ∈ F → w.heap.size ≤ b) ∧ Below w.heap.size w w5)) := fun w2 v2 w5 g cap k1 k2 k3 k4 k5 => by
        obtain ⟨⟨F', q1, q2⟩, q3, q4⟩ := fin w2 [.int .i64 z, v2] (z, x) 56 _ w5 g cap k1 (own_wrt k2) rfl rfl rfl rfl k3 k4 k5
        rw [hsn] at q1
        exact ⟨F', q1, fun b hb' => (q2 b hb').elim (hFB b) (fun h => by have := hb.size; omega), hb.trans (q3 w.heap.size hFB hb.size)⟩
      have ROW : Hid (∀ u, Below wr.heap.size wr u → ∀ o : Obj, (u.alloc o).ownsRow 0 56 2 u3 k cc) := fun u hu o => rowT _ (hu.alloc hu.size o)
      have h63 : k + 1 ≤ maxLen := by rw [show maxLen = 9223372036854775807 from rfl]; omega
      have hby : (k + 1) * 32 ≤ 140737488355328 := by omega
      clear fin rowT hsn hF hFB hr hb hyk hym hI bX X0
      obtain ⟨ll, lc, hl'⟩ : ∃ ll lc, u3 = .slice ll k lc := by
        rcases (ROW.out wr (Below.refl _ _) (.cells #[] 0)).2 with ⟨rfl, rfl⟩ | ⟨g, cap, cur, rfl, _⟩
        · exact ⟨_, _, rfl⟩
        · exact ⟨_, _, rfl⟩
      subst hl'
      obtain ⟨XL, hXL⟩ : ∃ XL, XL = x.length := ⟨_, rfl⟩
      rw [← hXL] at KC hX x1 hc2
      replace hXL := hide hXL
      rw [hX] at x0 x1
      go_wp2_with fail
      rw [← hX]
      replace hX := hide hX
      clear x0 x1 hc1 hc2
      refine KC.out.mono ?_
      rintro e w2 ⟨v2, rfl, o2, b2⟩
      clear KC
      obtain ⟨va, vc, hv2⟩ := o2.rd.slice
      rw [← hXL.out] at hv2
      subst hv2
      have c2 := BX.out.trans (b2.mono BX.out.size)
      have o2' := o2.mono BX.out.size
      have RW := hide (ROW.out w2 c2 (.cells #[.int .i64 z, .slice va XL vc] 56))
      have FN := hide (fun w5 g cap k3 k4 k5 => FIN.out w2 (.slice va XL vc) w5 g cap c2 o2' k3 k4 k5)
      clear o2 b2 c2 o2' FIN ROW BX
      go_wp2_with (at_builtin; refine wpList_append_lies _ rfl _ _ 26 rfl 0 56 j0 _ 2 32 Try.underlying26 ji jz0 jz1 jz2 rfl (by decide) (.slice ll k lc) k cc rfl RW.out ⟨w2.heap.size, 0, none⟩ 1 1 [.int .i64 z, .slice va XL vc] rfl rfl (World.news_of_block (heap_alloc_last w2 _)) (by simp [Value.oneCell']) (by decide) h63 hby (Nat.zero_le _) (w2.heap.size + 1) (by simp) ?_; intro g cap w5 ho5 hg5 hat5 hlt5; have HF := FN.out w5 g cap hg5 ho5 hat5; clear ho5 hg5 hat5 FN RW)
      go_roundw
      case rel => exact ⟨k + 1, by omega, by go_num, HF⟩
      case measure => simp [intOf]; omega
    · have hq : ¬ (k : Int) < (ws.length : Int) := by omega
      obtain rfl : k = ws.length := by omega
      obtain ⟨F, hF, hFB, hb⟩ := hI.out
      rw [List.take_of_length_le (Nat.le_refl _)] at hF
      have OO := hide (And.intro (hF.own hFB) hb)
      clear hF hFB hb hI
      go_wp2
      go_ret
      exact ⟨_, rfl, OO.out.1, OO.out.2⟩

end Go.Proofs.Ytlnoancjegifnaa

/-
  The program's readRecords, copiesOf and segsOf.
-/
namespace Go.Proofs.Ytlnoancjegifnaa
open Go.RowKit
set_option linter.unusedVariables false

set_option maxRecDepth 100000 in
set_option maxHeartbeats 2000000 in
theorem pread_any (w : World) (v : Value) (b : List UInt8) (hrd : Rd w v b) (hm : b.length ≤ 16777216) :
    Calls Try.prog 42 #[v] w fun e w' => ∃ v', e = .returned (.tuple #[v', .int .i64 (wn b : Nat)]) ∧ OwnV w.heap.size w.heap.size w' v' (wrecs b) ∧ Below w.heap.size w w' := by
  obtain ⟨i0, hi, hz0, hz1, hz2⟩ := info_parts infoB
  obtain ⟨ao, cap, rfl⟩ := hrd.slice
  have hcap : b.length ≤ cap := by obtain ⟨_, _, e, l, _⟩ := hrd; cases e; exact l
  go_enter Try.func42, Try.ntmps42
  go_wp2
  go_loopw [4, 5] (fun o t wr => ∃ (fs : List Frm) (p : Nat), t = .int .i64 p ∧ p ≤ b.length ∧ Hid (stt b fs.length = some (fs, p) ∧ (∀ f ∈ fs, f.1 = 1)) ∧ Hid (OwnV w.heap.size w.heap.size wr o (fs.map Prod.snd) ∧ Below w.heap.size w wr)) (fun _ t _ => b.length - (intOf t).toNat)
  case atStart => exact ⟨[], 0, rfl, Nat.zero_le _, hide ⟨rfl, fun f hf => by cases hf⟩, hide ⟨OwnV.nil _ _ _, Below.refl _ _⟩⟩
  case round =>
    obtain ⟨fs, p, rfl, hp, hst, hI⟩ := hrel
    obtain ⟨A, hA, rp⟩ := rd_cut (hrd.to hI.out.2) hp (Nat.le_refl _)
    rw [List.take_of_length_le (Nat.le_refl _)] at rp
    have y3 : (p : Int) ≤ (b.length : Int) := by omega
    have y4 : (b.length : Int) ≤ (cap : Int) := by omega
    have KO := hide (fopen_any wr _ (b.drop p) rp (by simp; omega))
    clear rp
    go_wp2_with fail
    refine KO.out.mono ?_
    rintro e w1 ⟨sv, rfl, o1, b1⟩
    clear KO
    obtain ⟨sa, cs, hsv⟩ := o1.rd.slice
    obtain ⟨f1, f2, f3⟩ := fopen_le (b.drop p)
    have HL := hide (stt_len b _ hst.out.1)
    have hstop := hide (fun h => wread_end hst.out.1 hst.out.2 h)
    have hstep := hide (fun h => stt_step hst.out.1 h)
    obtain ⟨X, hX, X0, bX, sX⟩ := boxedN w1 #[.int .u8 ((fopen (b.drop p)).2.1.1.toNat : Int), sv] 89
    obtain ⟨x0, x1, _, _⟩ := row2_cells X0
    have c1 := b1.trans (bX.mono b1.size)
    have V1 := hI.out.1.below c1
    have O1 := o1.below (Nat.le_refl _) bX
    have hb1 := hI.out.2.trans (c1.mono hI.out.2.size)
    have hdl : (fopen (b.drop p)).2.1.2.length ≤ 4096 ∨ (fopen (b.drop p)).1 ≠ 0 := by
      by_cases h0 : (fopen (b.drop p)).1 = 0
      · left
        obtain ⟨_, _, k3, k4, _, k6, k7⟩ := fopen_ok h0
        rw [k6]; simp only [List.length_take, List.length_drop] at k4 ⊢; omega
      · exact .inr h0
    by_cases h0 : (fopen (b.drop p)).1 = 0
    · have h8 := f3 h0
      have h1' := hide h0
      rw [List.length_drop] at f1
      by_cases hk : (fopen (b.drop p)).2.1.1 = 1
      · have hdl2 := hdl.resolve_right fun q => q h0
        have hS := hide (hstep.out h0)
        generalize (fopen (b.drop p)).2.2 = t at *
        generalize (fopen (b.drop p)).2.1 = f at *
        generalize (fopen (b.drop p)).1 = er at *
        subst h0
        have hkk : f.1.toNat = 1 := by rw [hk]; rfl
        rw [hkk] at x0 hX X0 ⊢
        have kk0 : ((1 : Nat) : Int) = 1 := rfl
        rw [kk0] at x0 hX X0 ⊢
        clear hkk kk0
        obtain ⟨DL, hDL⟩ : ∃ DL, DL = f.2.length := ⟨_, rfl⟩
        rw [← hDL] at hsv hdl2
        subst hsv
        obtain ⟨K, hK⟩ : ∃ K, K = fs.length := ⟨_, rfl⟩
        obtain ⟨vs, v1, v2, v3⟩ := V1
        rw [List.length_map, ← hK] at v2
        have hKl : K ≤ 2097152 := by have := HL.out.2.2; omega
        have V2 := hide (World.ownsRow.alloc v2 (.cells #[.slice sa DL cs] 54))
        have NEWS : Hid (∀ j u, ([.slice sa DL cs] : List Value)[j]? = some u → (X.alloc (.cells #[.slice sa DL cs] 54)).cell? ((⟨w1.heap.size + 1, 0, none⟩ : Addr).add j) = some u) := by
          rw [← sX]; exact World.news_of_block (heap_alloc_last X _)
        have h63 : K + 1 ≤ maxLen := by rw [show maxLen = 9223372036854775807 from rfl]; omega
        have hby : (K + 1) * 24 ≤ 140737488355328 := by omega
        have hbs : w.heap.size ≤ (X.alloc (.cells #[.slice sa DL cs] 54)).heap.size := by have := hb1.size; simp; omega
        have FIN : Hid (∀ v' w', (X.alloc (.cells #[.slice sa DL cs] 54)).grownBy w' u4.ownBlock → w'.ownsRow w.heap.size 54 1 v' (K + 1) (vs ++ [.slice sa DL cs]) →
            Hid (stt b (fs ++ [f]).length = some (fs ++ [f], p + t) ∧ (∀ g ∈ fs ++ [f], g.1 = 1)) ∧ Hid (OwnV w.heap.size w.heap.size w' v' ((fs ++ [f]).map Prod.snd) ∧ Below w.heap.size w w')) := fun v' w' hg hw' => by
          have al : Below X.heap.size X (X.alloc (.cells #[.slice sa DL cs] 54)) := (Below.refl _ _).alloc (Nat.le_refl _) _
          refine ⟨⟨by rw [List.length_append]; exact hS.out, fun g hg' => ?_⟩, ?_, (hb1.trans (al.mono hb1.size)).grown hg hbs (rows_from V2.out)⟩
          · rcases List.mem_append.1 hg' with hg' | hg'
            · exact hst.out.2 g hg'
            · simp only [List.mem_singleton] at hg'; subst hg'; exact hk
          · rw [List.map_append]
            refine OwnV.app (w := X.alloc (.cells #[.slice sa DL cs] 54)) v1 (by rw [List.length_map, ← hK]; exact V2.out) (fun i hi => (v3 i hi).below (Nat.le_refl _) al) (us := [.slice sa DL cs]) rfl (fun i hi => ?_) hg (by rw [List.length_map, ← hK]; exact hw')
            have hi0 : i = 0 := by simpa using hi
            subst hi0
            exact (O1.below (Nat.le_refl _) al).mono (show w.heap.size ≤ wr.heap.size from hI.out.2.size)
        replace hDL := hide hDL
        replace hK := hide hK
        replace hk := hide hk
        clear v1 v2 v3 O1 o1 b1 bX c1 hstep hstop hdl f2 f3
        rw [hX] at x0 x1
        go_wp2_with (at_builtin; rw [← hX]; refine wpList_append_own _ rfl _ _ 23 rfl w.heap.size 54 i0 _ 1 24 Try.underlying23 hi hz0 hz1 hz2 rfl (by decide) u4 K vs rfl V2.out ⟨w1.heap.size + 1, 0, none⟩ 1 1 [.slice sa DL cs] rfl rfl NEWS.out (by simp [Value.oneCell']) h63 hby hbs ?_; intro v5 w5 hown5 hgrow5 _; obtain ⟨F4, F5⟩ := FIN.out v5 w5 hgrow5 hown5; clear hown5 hgrow5)
        go_roundw
        case rel => exact ⟨fs ++ [f], p + t, by go_num, by omega, F4, F5⟩
        case measure => simp [intOf]; omega
      · obtain ⟨e1, e2⟩ := hstop.out (.inr hk)
        have FIN : Hid (OwnV w.heap.size w.heap.size X u4 (wrecs b) ∧ Below w.heap.size w X) := ⟨by rw [e1]; exact V1, hb1⟩
        have hWn := hide e2
        generalize (fopen (b.drop p)).2.2 = t at *
        generalize (fopen (b.drop p)).2.1 = f at *
        generalize (fopen (b.drop p)).1 = er at *
        subst h0
        have hkb : ((f.1.toNat : Int) == 1) = false := by
          simp only [beq_eq_false_iff_ne]
          intro h
          exact hk (UInt8.toNat_inj.1 (by show f.1.toNat = 1; omega))
        replace hk := hide hk
        obtain ⟨DL, hDL⟩ : ∃ DL, DL = f.2.length := ⟨_, rfl⟩
        rw [← hDL] at hsv
        replace hDL := hide hDL
        subst hsv
        rw [hX] at x0 x1
        clear e1 e2 V1 O1 o1 b1 bX c1 hstep hstop hdl f2 f3
        go_wp2
        rw [← hX]
        go_ret2
        exact ⟨_, by rw [hWn.out]; rfl, FIN.out⟩
    · obtain ⟨e1, e2⟩ := hstop.out (.inl h0)
      have FIN : Hid (OwnV w.heap.size w.heap.size X u4 (wrecs b) ∧ Below w.heap.size w X) := ⟨by rw [e1]; exact V1, hb1⟩
      have hWn := hide e2
      generalize (fopen (b.drop p)).2.2 = t at *
      generalize (fopen (b.drop p)).2.1 = f at *
      generalize (fopen (b.drop p)).1 = er at *
      have hd : ((er : Int) != 0) = true := by simp only [bne_iff_ne]; omega
      replace h0 := hide h0
      obtain ⟨DL, hDL⟩ : ∃ DL, DL = f.2.length := ⟨_, rfl⟩
      rw [← hDL] at hsv
      replace hDL := hide hDL
      subst hsv
      rw [hX] at x0 x1
      clear e1 e2 V1 O1 o1 b1 bX c1 hstep hstop hdl f2 f3
      go_wp2
      rw [← hX]
      go_ret2
      exact ⟨_, by rw [hWn.out]; rfl, FIN.out⟩

end Go.Proofs.Ytlnoancjegifnaa

/-
  The program's Check of logs.
-/
namespace Go.Proofs.Ytlnoancjegifnaa
open Go.RowKit
set_option linter.unusedVariables false
set_option linter.unusedSimpArgs false

theorem not_wok_pseg {l : Wlg} {s : Wrt} {k : Nat} (hs : l.1[k]? = some s) (h : ¬ psegOk l.1 l.2.1 k s) : ¬ WOk l := fun q => h ((wok_psegs q).1 k s hs)
theorem Calls.flip {P : Program} {f : FuncId} {args : Array Value} {w : World} {v : Value} (h : Calls P f args w fun e w' => e = .returned v ∧ w = w') : Calls P f args w fun e w' => e = .returned v ∧ w' = w := h.mono fun _ _ ⟨a, b⟩ => ⟨a, b.symm⟩
theorem pst_succ {segs : List Wrt} {next : Int} {k : Nat} {s : Wrt} (hs : segs[k]? = some s) : pst segs next (k + 1) = pst segs next k + ((wrecs s.2).length : Nat) := by
  show pst segs next k + _ = _
  rw [wseg_at hs]

set_option maxRecDepth 100000 in
set_option maxHeartbeats 4000000 in
theorem pwcheck_any (w : World) (sv wv : Value) (l : Wlg) (h1 : RdC w sv l.1) (h2 : RdSec w wv l.2.2) (hm : ∀ s ∈ l.1, s.2.length ≤ 16777216) :
    Calls Try.prog 22 #[.agg #[sv, .int .i64 l.2.1, wv]] w fun e w' => e = .returned (.int .i64 (wcheck l)) ∧ Below w.heap.size w w' := by
  have lb1 := h1.bd
  have lb2 := h2.bd
  obtain ⟨a1, c1, rfl⟩ := h1.slice
  obtain ⟨a2, c2, rfl⟩ := h2.slice
  obtain ⟨X, hX, X0, bX, sX⟩ := boxedN w #[.slice a1 l.1.length c1, .int .i64 l.2.1, .slice a2 l.2.2.length c2] 28
  obtain ⟨⟨A0, A1, A2⟩, _⟩ := cells3 X0
  have G1 := hide (h1.to0 bX)
  have G2 := hide (h2.to0 bX)
  have HX := hide X0
  have A0' := hide A0
  have A1' := hide A1
  have A2' := hide A2
  rw [hX] at A0 A1 A2
  have BX := hide bX
  clear h1 h2 X0 bX
  obtain ⟨segs, next, wait⟩ := l
  dsimp only at *
  go_enter Try.func22, Try.ntmps22
  by_cases q1 : 4096 < segs.length
  · have hq1 : (4096 : Int) < (segs.length : Int) := by omega
    have hE := hide (wcheck_no (l := (segs, next, wait)) (not_wok_segs q1))
    go_wp2
    go_ret
    exact ⟨ret_int hE.out.symm, by rw [← hX]; exact BX.out⟩
  · have hq1 : ¬ (4096 : Int) < (segs.length : Int) := by omega
    by_cases q3 : 4096 < wait.length
    · have hq3 : (4096 : Int) < (wait.length : Int) := by omega
      have hE := hide (wcheck_no (l := (segs, next, wait)) (not_wok_wait q3))
      go_wp2
      go_ret
      exact ⟨ret_int hE.out.symm, by rw [← hX]; exact BX.out⟩
    · have hq3 : ¬ (4096 : Int) < (wait.length : Int) := by omega
      by_cases q2 : widx next
      · have KI := hide (fun u => pindex_any u next)
        rw [decide_eq_true q2] at KI
        have b0 : Below X.heap.size X X.drew := (Below.refl _ _).drew
        have HS : Hid (∀ w9, Below X.heap.size X w9 → w9.cell? ⟨w.heap.size, 1, none⟩ = some (.int .i64 next) ∧ w9.cell? ⟨w.heap.size, 2, none⟩ = some (.slice a2 wait.length c2)) := fun w9 b9 =>
          ⟨(b9.cell (cell_lt A1'.out)).trans A1'.out, (b9.cell (cell_lt A2'.out)).trans A2'.out⟩
        have Q2 := hide q2
        clear q2
        go_upto_region 3 with fail
        rw [← hX]
        rw [← hX] at A0 A1 A2
        replace hX := hide hX
        go_cut [27] from 18 to 27 (fun s wx => ∃ bb : Bool, s = .bool bb ∧ Hid (bb = true ↔ ¬ wwaitOk wait) ∧ Hid (Below X.heap.size X wx))
        case first =>
          refine wp_region_sched (fun w9 => w9.cell? ⟨w.heap.size, 1, none⟩ = some (.int .i64 next) ∧ w9.cell? ⟨w.heap.size, 2, none⟩ = some (.slice a2 wait.length c2)) [(0, true), (1, true), (2, false), (3, true), (4, true), (5, true), (6, true), (7, false), (8, false)] 9 mixed (by kernel_rfl) (fun _ _ _ _ h => h) ?_
          iterate 2
            refine sched_take (v := ?_) rfl (by kernel_rfl) (HS.out _ b0) ?_ ?_
            rotate_left
            · rintro w9 ⟨s0, s1⟩
              go_simp
              try with_reducible rfl
            try simp only [Act.put, List.setIfInBounds_toArray, List.set_cons_zero, List.set_cons_succ]
          refine sched_run rfl (by kernel_rfl) fun K hK => ?_
          refine wp_call_of 45 _ _ (by rfl) #[.int .i64 next] (by simp [Act.eval]) (Try.call45 _ _) (KI.out _) ?_
          rintro e w' ⟨rfl, rfl⟩
          refine ⟨_, rfl, hK _ _ (HS.out _ b0) ?_⟩
          clear hK K
          try simp only [Act.put, List.setIfInBounds_toArray, List.set_cons_zero, List.set_cons_succ]
          iterate 4
            refine sched_take (v := ?_) rfl (by kernel_rfl) (HS.out _ b0) ?_ ?_
            rotate_left
            · rintro w9 ⟨s0, s1⟩
              go_simp
              try with_reducible rfl
            try simp only [Act.put, List.setIfInBounds_toArray, List.set_cons_zero, List.set_cons_succ]
          refine sched_run rfl (by kernel_rfl) fun K hK => ?_
          refine wp_call_of 33 _ _ (by rfl) #[.int .i64 4096] (by simp [Act.eval]) (Try.call33 _ _) (plonger_any _) ?_
          rintro e w2 ⟨rfl, hc2, b2⟩
          have d2 : Below X.heap.size X w2 := b0.trans (b2.mono b0.size)
          refine ⟨_, rfl, hK _ _ (HS.out _ d2) ?_⟩
          clear hK K
          try simp only [Act.put, List.setIfInBounds_toArray, List.set_cons_zero, List.set_cons_succ]
          refine sched_run rfl (by kernel_rfl) fun K hK => ?_
          refine wp_call_of 32 _ _ (by rfl) _ (by simp [Act.eval]) (Try.call32 _ _) (pcontains_any w2 _ _ wait (G2.out.to0 d2) hc2) ?_
          rintro e w' ⟨bb, rfl, hbb, rfl⟩
          refine ⟨_, rfl, hK _ _ (HS.out _ d2) ?_⟩
          clear hK K
          try simp only [Act.put, List.setIfInBounds_toArray, List.set_cons_zero, List.set_cons_succ]
          have hbb' := hide hbb
          clear hbb
          replace d2 := hide d2
          show wpList _ _ _ _ _ _
          dsimp only [List.drop]
          go_wp2_with fail
          go_meet
          exact ⟨bb, rfl, hbb', d2⟩
        case rest =>
        obtain ⟨bb, rfl, hbb, d3⟩ := hcut
        obtain ⟨U, hU⟩ : ∃ U, U = wc := ⟨_, rfl⟩
        rw [← hU] at d3 ⊢
        replace hU := hide hU
        clear KI HS b0 A0 A1 A2
        by_cases hW : wwaitOk wait
        · have hb0 : bb = false := by cases bb with | false => rfl | true => exact absurd hW (hbb.out.1 rfl)
          subst hb0
          obtain ⟨⟨A0, A1, A2⟩, _⟩ := cells3 ((d3.out.block _ (lt_of_block HX.out)).trans HX.out)
          have KF := hide (pfirst_any U _ (.slice a2 wait.length c2) (segs, next, wait) (G1.out.to0 d3.out))
          dsimp only at KF
          have HW := hide hW
          clear hbb hW
          go_wp2_with fail
          refine KF.out.mono ?_
          rintro e w4 ⟨rfl, b4⟩
          clear KF
          have d4 := hide (d3.out.trans (b4.mono d3.out.size))
          replace A0 := (b4.cell (cell_lt A0)).trans A0
          clear d3 b4 A1 A2
          go_wp2
          go_loopw [3, 33] (fun n i wr => ∃ K : Nat, K ≤ segs.length ∧ i = .int .i64 K ∧ n = .int .i64 (pst segs next K) ∧ Hid (Below X.heap.size X wr ∧ ∀ j s, j < K → segs[j]? = some s → psegOk segs next j s)) (fun _ i _ => segs.length - (intOf i).toNat)
          case atStart => exact ⟨0, Nat.zero_le _, rfl, rfl, hide ⟨d4.out, fun j s hj => by omega⟩⟩
          case round =>
            obtain ⟨K, hK, rfl, rfl, hI⟩ := hrel
            clear A0
            obtain ⟨⟨A0, A1, A2⟩, _⟩ := cells3 ((hI.out.1.block _ (lt_of_block HX.out)).trans HX.out)
            obtain ⟨N, hN⟩ : ∃ N, N = pst segs next K := ⟨_, rfl⟩
            rw [← hN]
            have hN' := hide hN
            by_cases hlt : K < segs.length
            · have hq : (K : Int) < (segs.length : Int) := by omega
              obtain ⟨y, hy, hym⟩ := some_at segs hlt
              obtain ⟨b1, o1, u, rfl, hc0, hc1, hru⟩ := (G1.out.to0 hI.out.1).wrt hy
              have hyl := hm y hym
              have hnok := hide (fun h => wcheck_no (not_wok_pseg (l := (segs, next, wait)) (k := K) hy h))
              have hst := hide (pst_succ (next := next) hy)
              obtain ⟨yz, yx⟩ := y
              dsimp only at hc0 hc1 hru hyl hst
              obtain ⟨ua, uc, rfl⟩ := hru.slice
              obtain ⟨Y, hY, Y0, bY, sY⟩ := boxedN wr #[.int .i64 yz, .slice ua yx.length uc] 56
              obtain ⟨y0, y1, _, _⟩ := row2_cells Y0
              have KW := hide (pread_any Y _ yx (hru.to bY) hyl)
              have cY := hide (hI.out.1.trans (bY.mono hI.out.1.size))
              rw [hY] at y0 y1
              have hwl := wn_le yx
              have hwl2 := hide hwl.1
              have hwr := hwl.2.1
              clear hru bY Y0 hwl hN
              go_wp2_with fail
              rw [← hY]
              rw [← hY] at y0 y1
              replace hY := hide hY
              refine KW.out.mono ?_
              rintro e w5 ⟨rv, rfl, o5, b5⟩
              clear KW
              obtain ⟨ra, rc, hrv⟩ := o5.rd.slice
              subst hrv
              replace y0 := (b5.cell (cell_lt y0)).trans y0
              replace y1 := (b5.cell (cell_lt y1)).trans y1
              have c5 := hide (cY.out.trans (b5.mono cY.out.size))
              obtain ⟨RL, hRL⟩ : ∃ RL, RL = (wrecs yx).length := ⟨_, rfl⟩
              obtain ⟨WN, hWN⟩ : ∃ WN, WN = wn yx := ⟨_, rfl⟩
              rw [← hRL] at hwr hst ⊢
              rw [← hWN] at hwl2 ⊢
              replace hRL := hide hRL
              replace hWN := hide hWN
              have KI := hide (pindex_any w5 yz)
              clear o5 b5 cY
              go_wp2_with fail
              refine KI.out.mono ?_
              rintro e w' ⟨rfl, rfl⟩
              clear KI
              by_cases p1 : widx yz
              · rw [decide_eq_true p1]
                by_cases p2 : yz = N
                · by_cases p3 : WN < yx.length
                  · have hE := hide (hnok.out (fun h => by have := h.2.2; dsimp only at this; rw [← hWN.out] at this; omega))
                    have hq3 : (WN : Int) < (yx.length : Int) := by omega
                    replace p1 := hide p1
                    subst p2
                    go_wp2
                    go_ret
                    exact ⟨ret_int hE.out.symm, BX.out.trans (c5.out.mono BX.out.size)⟩
                  · have hq3 : ¬ (WN : Int) < (yx.length : Int) := by omega
                    have hWe : Hid (wn yx = yx.length) := by have := hwl2.out; show _ = _; rw [← hWN.out]; omega
                    have hok : Hid (∀ j s, j < K + 1 → segs[j]? = some s → psegOk segs next j s) := fun j s hj hs => by
                      by_cases e : j = K
                      · subst e; rw [hy] at hs; cases hs; exact ⟨p1, by rw [p2]; exact hN'.out, hWe.out⟩
                      · exact hI.out.2 j s (by omega) hs
                    have hb1 := p1.1
                    have hb2 := p1.2
                    replace p1 := hide p1
                    rw [← hN'.out, ← p2] at hst
                    subst p2
                    go_wp2
                    go_roundw
                    case rel => exact ⟨K + 1, by omega, by go_num, by rw [hst.out], hide ⟨c5.out, hok.out⟩⟩
                    case measure => simp [intOf]; omega
                · have hE := hide (hnok.out (fun h => p2 (h.2.1.trans hN'.out.symm)))
                  have hne : (yz != N) = true := by simpa using p2
                  replace p1 := hide p1
                  replace p2 := hide p2
                  go_wp2
                  go_ret
                  exact ⟨ret_int hE.out.symm, BX.out.trans (c5.out.mono BX.out.size)⟩
              · rw [decide_eq_false p1]
                have hE := hide (hnok.out (fun h => p1 h.1))
                replace p1 := hide p1
                go_wp2
                go_ret
                exact ⟨ret_int hE.out.symm, BX.out.trans (c5.out.mono BX.out.size)⟩
            · have hq : ¬ (K : Int) < (segs.length : Int) := by omega
              obtain rfl : K = segs.length := by omega
              have hall : Hid (∀ k s, segs[k]? = some s → psegOk segs next k s) := fun k s hs => hI.out.2 k s (List.getElem?_eq_some_iff.1 hs).1 hs
              have cF := hide (BX.out.trans (hI.out.1.mono BX.out.size))
              by_cases hf : N = next
              · have hE := hide (wcheck_ok (l := (segs, next, wait)) (wok_pseg (l := (segs, next, wait)) (by show segs.length ≤ 4096; omega) Q2.out (by show wait.length ≤ 4096; omega) HW.out hall.out (by rw [hN] at hf; exact hf)))
                clear hN hN'
                subst hf
                go_wp2
                go_ret
                exact ⟨ret_int hE.out.symm, cF.out⟩
              · have hE := hide (wcheck_no (l := (segs, next, wait)) (fun h => hf (by rw [hN]; exact (wok_psegs h).2)))
                have hne : (N != next) = true := by simpa using hf
                clear hN
                replace hf := hide hf
                go_wp2
                go_ret
                exact ⟨ret_int hE.out.symm, cF.out⟩
        · have hb0 := hbb.out.2 hW
          subst hb0
          have hE := hide (wcheck_no (l := (segs, next, wait)) (fun q => hW q.2.1))
          replace hW := hide hW
          go_wp2
          go_ret
          exact ⟨ret_int hE.out.symm, BX.out.trans (d3.out.mono BX.out.size)⟩
      · have hE := hide (wcheck_no (l := (segs, next, wait)) (not_wok_idx q2))
        have KI := hide (fun u => Calls.flip (pindex_any u next))
        rw [decide_eq_false q2] at KI
        replace q2 := hide q2
        go_upto_region 3 with fail
        rw [← hX]
        rw [← hX] at A0 A1 A2
        replace hX := hide hX
        go_quiet ((go_at_call 45; exact Calls.quiet_of_same (KI.out _)))
        go_wp2
        go_ret
        exact ⟨ret_int hE.out.symm, BX.out.trans (below_drewN' _ _ _)⟩

end Go.Proofs.Ytlnoancjegifnaa
