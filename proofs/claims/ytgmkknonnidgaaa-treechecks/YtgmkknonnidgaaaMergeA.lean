/- Several texts in one. -/
import Derived.Deep.QuietTactic
import Derived.BigQuiet
import Derived.Laws.Cover1
import Derived.Test.YtgmkknonnidgaaaMergeI
import Derived.Test.YtgmkknonnidgaaaNRr
import Derived.Laws.StructEq
import Derived.Test.YtgmkknonnidgaaaNBase
import Derived.Test.YtgmkknonnidgaaaNDMath
/-
  The program's page: data, by a search by halves; and numbered.
-/
namespace Go.Proofs.Ytgmkknonnidgaaa
open Go.RowKit
set_option linter.unusedVariables false
set_option linter.unusedSimpArgs false

theorem ret_b9 {a b : Bool} (h : a = b) : Ending.returned (.bool a) = .returned (.bool b) := by rw [h]
theorem ret_i9 {a b : Int} (h : a = b) : Ending.returned (.int .i64 a) = .returned (.int .i64 b) := by rw [h]
def icmp (a b : Int) : Int := if a < b then -1 else if b < a then 1 else 0
set_option maxRecDepth 100000 in
theorem pnani_any (w : World) (a : Int) : Calls Try.prog 79 #[.int .i64 a] w fun e w' => e = .returned (.bool false) ∧ w = w' := by
  have h : (a != a) = false := by simp
  go_enter Try.func79, Try.ntmps79
  go_wp2
  go_ret
  exact ⟨rfl, rfl⟩
set_option maxRecDepth 100000 in
set_option maxHeartbeats 2000000 in
theorem pcmpi_any (w : World) (a b : Int) : Calls Try.prog 59 #[.int .i64 a, .int .i64 b] w fun e w' => e = .returned (.int .i64 (icmp a b)) ∧ w = w' := by
  have K1 := hide (pnani_any w a)
  have K2 := hide (pnani_any w b)
  go_enter Try.func59, Try.ntmps59
  go_wp2_with fail
  refine K1.out.mono ?_
  rintro e w1 ⟨rfl, rfl⟩
  go_wp2_with fail
  refine K2.out.mono ?_
  rintro e w1 ⟨rfl, rfl⟩
  by_cases h1 : a < b
  · have hr : Hid (icmp a b = -1) := by show _ = _; rw [icmp, if_pos h1]
    go_wp2
    go_ret
    exact ⟨ret_i9 hr.out.symm, rfl⟩
  · by_cases h2 : b < a
    · have hr : Hid (icmp a b = 1) := by show _ = _; rw [icmp, if_neg h1, if_pos h2]
      have h3 : a > b := h2
      go_wp2
      go_ret
      exact ⟨ret_i9 hr.out.symm, rfl⟩
    · have hr : Hid (icmp a b = 0) := by show _ = _; rw [icmp, if_neg h1, if_neg h2]
      have h3 : ¬ a > b := h2
      go_wp2
      go_ret
      exact ⟨ret_i9 hr.out.symm, rfl⟩
set_option maxRecDepth 100000 in
set_option maxHeartbeats 2000000 in
theorem pdcl_any (w : World) (a b : Int) (u : Value) (hu : u.oneCell' = true) : Calls Try.prog 58 #[.agg #[.int .i64 a, u], .int .i64 b] w fun e w' => e = .returned (.int .i64 (icmp a b)) ∧ Below w.heap.size w w' := by
  obtain ⟨W, hW, D, bW, sW⟩ := boxedN w #[.int .i64 a, u] 43
  obtain ⟨⟨D0, D1⟩, _⟩ := cells2r D
  have K1 := hide (pcmpi_any W a b)
  have HB := hide bW
  rw [hW] at D0 D1 K1 HB
  clear D bW
  go_enter Try.func58, Try.ntmps58
  go_wp2_with fail
  refine K1.out.mono ?_
  rintro e w1 ⟨rfl, rfl⟩
  go_wp2
  go_ret
  exact ⟨rfl, HB.out⟩

/-- a bool that tells whether something holds -/
def BoolR (p : Prop) (w w' : World) (e : Ending) : Prop := ∃ R : Bool, e = .returned (.bool R) ∧ (R = true ↔ p) ∧ Below w.heap.size w w'
theorem BoolR.no {p : Prop} {w w' : World} (h : ¬ p) (b : Below w.heap.size w w') : BoolR p w w' (.returned (.bool false)) := ⟨false, rfl, ⟨fun h => (by cases h), fun q => absurd q h⟩, b⟩
theorem BoolR.yes {p : Prop} {w w' : World} (h : p) (b : Below w.heap.size w w') : BoolR p w w' (.returned (.bool true)) := ⟨true, rfl, ⟨fun _ => h, fun _ => rfl⟩, b⟩
/-- what a search by halves answers of a page's number -/
def BsR (w w' : World) (ps : List Wrt) (id : Int) (e : Ending) : Prop := ∃ (i : Nat) (ok : Bool), e = .returned (.tuple #[.int .i64 i, .bool ok]) ∧ ((ok = true ∧ ∃ y, ps[i]? = some y ∧ y.1 = id) ∨ (ok = false ∧ tpage ps id = none)) ∧ Below w.heap.size w w'
set_option maxRecDepth 100000 in
set_option maxHeartbeats 2000000 in
theorem pbsf_at (w0 w : World) (pv : Value) (ps : List Wrt) (id : Int) (h : RdC w0 pv ps) (h0 : Below w0.heap.size w0 w) (hu : tUp ps) (hl : ps.length ≤ 65536) :
    Calls Try.prog 57 #[pv, .int .i64 id, .func (.func 58) #[] #[]] w fun e w' => BsR w w' ps id e := by
  obtain ⟨a, c, rfl⟩ := h.slice
  obtain ⟨L, hL⟩ : ∃ L, L = ps.length := ⟨_, rfl⟩
  rw [← hL] at hl
  have HH := hide h
  have H0 := hide h0
  rw [← hL] at HH ⊢
  replace hL := hide hL
  have HK : Hid (∀ t s, t < s → s < L → tid ps t < tid ps s) := fun t s h1 h2 => hu t s h1 (by rw [← hL.out]; exact h2)
  have KC := hide (fun w a u hu => pdcl_any w a id u hu)
  clear hu h h0
  go_enter Try.func57, Try.ntmps57
  go_wp2
  go_loopw [9, 10] (fun p q wr => ∃ i j : Nat, i ≤ j ∧ j ≤ L ∧ p = .int .i64 i ∧ q = .int .i64 j ∧ Hid (Below w.heap.size w wr ∧ (∀ t, t < i → tid ps t < id) ∧ ∀ t, j ≤ t → t < L → id ≤ tid ps t)) (fun p q _ => (intOf q).toNat - (intOf p).toNat)
  case atStart => exact ⟨0, L, Nat.zero_le _, Nat.le_refl _, rfl, rfl, hide ⟨Below.refl _ _, fun t h => by omega, fun t h1 h2 => by omega⟩⟩
  case round =>
    obtain ⟨i, j, hij, hjL, rfl, rfl, hI⟩ := hrel
    have HW := hide (H0.out.trans (hI.out.1.mono H0.out.size))
    by_cases hlt : i < j
    · have hq : (i : Int) < (j : Int) := by omega
      obtain ⟨s, hs⟩ : ∃ s : Nat, (i : Int) + (j : Int) = (s : Int) := ⟨i + j, by omega⟩
      have hs1 : IntKind.i64.wrap (s : Int) = (s : Int) := IntWalk.i64_in _ (by omega)
      obtain ⟨m, hm⟩ : ∃ m : Nat, (s : Int) / 2 = (m : Int) := ⟨s / 2, by omega⟩
      have hm2 : (m : Int) < (L : Int) := by omega
      have hmi : Hid (i ≤ m ∧ m < j) := by show _ ∧ _; omega
      obtain ⟨y, hy⟩ := some_el ps (k := m) (by rw [← hL.out]; omega)
      have hny := hide (tid_at hy)
      obtain ⟨b, off, u, rfl, hc1, hc2, hr⟩ := HH.out.wrt hy
      obtain ⟨au, cu, rfl⟩ := hr.slice
      replace hc1 := (HW.out.cell (cell_lt hc1)).trans hc1
      replace hc2 := (HW.out.cell (cell_lt hc2)).trans hc2
      replace hy := hide hy
      obtain ⟨z, hz⟩ : ∃ z, z = y.1 := ⟨_, rfl⟩
      rw [← hz] at hc1
      replace hz := hide hz
      clear hr
      go_wp2_with fail
      refine (KC.out _ _ _ rfl).mono ?_
      rintro e w1 ⟨rfl, b1⟩
      by_cases hlx : z < id
      · have hI' : Hid (Below w.heap.size w w1 ∧ (∀ t, t < m + 1 → tid ps t < id) ∧ ∀ t, j ≤ t → t < L → id ≤ tid ps t) := ⟨hI.out.1.trans (b1.mono hI.out.1.size), fun t ht => by
          by_cases e : t = m
          · subst e; rw [hny.out, ← hz.out]; exact hlx
          · have h1 := HK.out t m (by omega) (by omega)
            rw [hny.out, ← hz.out] at h1
            omega, hI.out.2.2⟩
        have hcm : icmp z id = -1 := by rw [icmp, if_pos hlx]
        rw [hcm]
        clear b1 hcm
        replace hlx := hide hlx
        go_wp2
        go_roundw
        case rel => exact ⟨m + 1, j, by have := hmi.out; omega, hjL, by go_num, rfl, hI'⟩
        case measure => have := hmi.out; simp [intOf]; omega
      · have hI' : Hid (Below w.heap.size w w1 ∧ (∀ t, t < i → tid ps t < id) ∧ ∀ t, m ≤ t → t < L → id ≤ tid ps t) := ⟨hI.out.1.trans (b1.mono hI.out.1.size), hI.out.2.1, fun t h1 h2 => by
          by_cases e : t = m
          · subst e; rw [hny.out, ← hz.out]; omega
          · have h3 := HK.out m t (by omega) h2
            rw [hny.out, ← hz.out] at h3
            omega⟩
        obtain ⟨q, hq9⟩ : ∃ q, q = icmp z id := ⟨_, rfl⟩
        have hcm : ¬ q < 0 := by rw [hq9, icmp, if_neg hlx]; split <;> omega
        rw [← hq9]
        clear b1 hq9
        replace hlx := hide hlx
        go_wp2
        go_roundw
        case rel => exact ⟨i, m, hmi.out.1, by have := hmi.out; omega, rfl, rfl, hI'⟩
        case measure => have := hmi.out; simp [intOf]; omega
    · have hq : ¬ (i : Int) < (j : Int) := by omega
      obtain rfl : i = j := by omega
      by_cases hiL : i < L
      · have hq2 : (i : Int) < (L : Int) := by omega
        obtain ⟨y, hy⟩ := some_el ps (k := i) (by rw [← hL.out]; omega)
        have hny := hide (tid_at hy)
        obtain ⟨b, off, u, rfl, hc1, hc2, hr⟩ := HH.out.wrt hy
        obtain ⟨au, cu, rfl⟩ := hr.slice
        replace hc1 := (HW.out.cell (cell_lt hc1)).trans hc1
        replace hc2 := (HW.out.cell (cell_lt hc2)).trans hc2
        replace hy := hide hy
        obtain ⟨z, hz⟩ : ∃ z, z = y.1 := ⟨_, rfl⟩
        rw [← hz] at hc1
        replace hz := hide hz
        clear hr
        go_wp2_with fail
        refine (KC.out _ _ _ rfl).mono ?_
        rintro e w1 ⟨rfl, b1⟩
        have HE := hide (hI.out.1.trans (b1.mono hI.out.1.size))
        by_cases he : z = id
        · have hcm : icmp z id = 0 := by rw [icmp, if_neg (by omega), if_neg (by omega)]
          have hR : Hid (∃ y, ps[i]? = some y ∧ y.1 = id) := ⟨y, hy.out, by rw [← hz.out]; exact he⟩
          rw [hcm]
          clear b1 hcm
          replace he := hide he
          go_wp2
          go_ret2
          exact ⟨i, true, rfl, .inl ⟨rfl, hR.out⟩, HE.out⟩
        · have hp : Hid (tpage ps id = none) := tpage_none fun t ht => by
            by_cases h1 : t < i
            · have := hI.out.2.1 t h1; omega
            · by_cases h2 : t = i
              · subst h2; rw [hny.out, ← hz.out]; exact he
              · have h3 := HK.out i t (by omega) (by rw [hL.out]; exact ht)
                have h4 := hI.out.2.2 i (Nat.le_refl _) hiL
                omega
          obtain ⟨q, hq9⟩ : ∃ q, q = icmp z id := ⟨_, rfl⟩
          have hcm : (q == 0) = false := by
            have : q ≠ 0 := by
              rw [hq9, icmp]
              split
              · omega
              · split <;> omega
            simpa using this
          rw [← hq9]
          clear b1 hq9
          replace he := hide he
          go_wp2
          go_ret2
          exact ⟨i, false, rfl, .inr ⟨rfl, hp.out⟩, HE.out⟩
      · have hq2 : ¬ (i : Int) < (L : Int) := by omega
        have hp : Hid (tpage ps id = none) := tpage_none fun t ht => by have := hI.out.2.1 t (by rw [← hL.out] at ht; omega); omega
        go_wp2
        go_ret2
        exact ⟨i, false, rfl, .inr ⟨rfl, hp.out⟩, hI.out.1⟩

set_option maxRecDepth 100000 in
set_option maxHeartbeats 2000000 in
theorem pdata_at (w0 w : World) (pv : Value) (T : Tr) (id : Int) (h : RdC w0 pv T.pages) (h0 : Below w0.heap.size w0 w) (hu : tUp T.pages) (hl : T.pages.length ≤ 65536) :
    Calls Try.prog 42 #[tv T pv, .int .i64 id] w fun e w' => PgRes0 w0 w w' T.pages id e := by
  obtain ⟨root, next, ps⟩ := T
  obtain ⟨W, hW, D, bW, sW⟩ := boxedN w #[.int .i64 root, .int .i64 next, pv] 26
  have KB := hide (pbsf_at w0 W pv ps id h (h0.trans (bW.mono h0.size)) hu hl)
  obtain ⟨⟨D0, D1, D2⟩, _⟩ := cells3p D
  obtain ⟨a, c, rfl⟩ := h.slice
  have HH := hide h
  have H0 := hide (h0.trans (bW.mono h0.size))
  have HB := hide bW
  have E2 := hide D2
  dsimp only [tv] at *
  rw [hW] at D0 D1 D2 KB
  replace hu := hide hu
  obtain ⟨L, hL⟩ : ∃ L, L = ps.length := ⟨_, rfl⟩
  rw [← hL] at D2 E2 KB hW ⊢
  replace hL := hide hL
  clear h h0 bW D
  go_enter Try.func42, Try.ntmps42
  go_wp2_with fail
  refine KB.out.mono ?_
  rintro e w1 ⟨i, ok, rfl, hp, b1⟩
  rw [← hW] at b1
  have B1 := hide (HB.out.trans (b1.mono HB.out.size))
  have H1 := hide (H0.out.trans (b1.mono H0.out.size))
  have D2' : w1.cell? ⟨w.heap.size, 2, none⟩ = some (.slice a L c) := (b1.cell (cell_lt E2.out)).trans E2.out
  clear b1 KB HB H0 E2 D0 D1 D2
  cases ok with
  | false =>
    have hp' : Hid (tpage ps id = none) := by
      rcases hp with ⟨q, _⟩ | ⟨_, q⟩
      · cases q
      · exact q
    clear hp
    go_wp2
    go_ret2
    exact ⟨_, false, rfl, .inr ⟨rfl, hp'.out, rfl⟩, B1.out⟩
  | true =>
    obtain ⟨y, hy, he⟩ : ∃ y, ps[i]? = some y ∧ y.1 = id := by
      rcases hp with ⟨_, q⟩ | ⟨q, _⟩
      · exact q
      · cases q
    clear hp
    have hil : (i : Int) < (L : Int) := by rw [hL.out]; have := (List.getElem?_eq_some_iff.1 hy).1; omega
    obtain ⟨b, off, u, rfl, hc1, hc2, hr⟩ := HH.out.wrt hy
    obtain ⟨au, cu, rfl⟩ := hr.slice
    replace hc1 := (H1.out.cell (cell_lt hc1)).trans hc1
    replace hc2 := (H1.out.cell (cell_lt hc2)).trans hc2
    have hR : Hid (tpage ps id = some y.2) := tpage_hit hu.out hy he
    replace hr := hide hr
    replace hy := hide hy
    replace he := hide he
    go_wp2
    go_ret2
    exact ⟨_, true, rfl, .inl ⟨rfl, _, hR.out, hr.out⟩, B1.out⟩

theorem tups_ge' {next : Int} {l : List Wrt} {m : Nat} (h : tups next l m) : ∀ i : Nat, i < m → (i : Int) + 1 ≤ tid l i
  | 0, hi => by have := (h 0 hi).1; rw [if_pos rfl] at this; omega
  | i + 1, hi => by
    have := tups_ge' h i (by omega)
    have hs := (h (i + 1) hi).1
    rw [if_neg (by omega), Nat.add_sub_cancel] at hs
    omega
/-- may a store's numbers be, whatever its root is? -/
def PNum (t : Tr) : Prop := 1 ≤ t.next ∧ t.next ≤ 65536 ∧ tups t.next t.pages t.pages.length
theorem tups_step9 {n : Int} {l : List Wrt} {k : Nat} (h : tups n l k) (h2 : (if k = 0 then 0 else tid l (k - 1)) < tid l k ∧ tid l k < n) : tups n l (k + 1) := by
  intro i hi
  by_cases e : i = k
  · subst e; exact h2
  · exact h i (by omega)
set_option maxRecDepth 100000 in
set_option maxHeartbeats 2000000 in
theorem pnumd_any (w : World) (pv : Value) (T : Tr) (h : RdC w pv T.pages) :
    Calls Try.prog 48 #[tv T pv] w fun e w' => BoolR (PNum T) w w' e := by
  obtain ⟨a, c, rfl⟩ := h.slice
  have lp := h.bd
  obtain ⟨root, next, ps⟩ := T
  dsimp only [tv] at *
  obtain ⟨L, hL⟩ : ∃ L, L = ps.length := ⟨_, rfl⟩
  obtain ⟨W, hW, D, bW, sW⟩ := boxedN w #[.int .i64 root, .int .i64 next, .slice a ps.length c] 26
  have HH := hide h
  have HB := hide bW
  obtain ⟨⟨D0, D1, D2⟩, _⟩ := cells3p D
  have E1 := hide D1
  rw [hW] at D0 D1 D2
  rw [← hL] at hW D2 HH lp ⊢
  replace hL := hide hL
  clear h bW D
  go_enter Try.func48, Try.ntmps48
  by_cases n1 : next < 1
  · have hr : Hid (¬ PNum ⟨root, next, ps⟩) := fun hn => by have := hn.1; simp at this; omega
    go_wp2
    go_ret
    rw [← hW]
    exact BoolR.no hr.out HB.out
  by_cases n2 : next > 65536
  · have hr : Hid (¬ PNum ⟨root, next, ps⟩) := fun hn => by have := hn.2.1; simp at this; omega
    go_wp2
    go_ret
    rw [← hW]
    exact BoolR.no hr.out HB.out
  go_wp2
  rw [← hW]
  replace hW := hide hW
  clear D0 D1 D2
  go_loopw [17, 3] (fun b l wr => ∃ (k : Nat) (m : Int), k ≤ L ∧ b = .int .i64 k ∧ l = .int .i64 m ∧ Hid (m = (if k = 0 then 0 else tid ps (k - 1)) + 1 ∧ tups next ps k ∧ Below W.heap.size W wr)) (fun b _ _ => L - (intOf b).toNat)
  case atStart => exact ⟨0, 1, Nat.zero_le _, rfl, rfl, hide ⟨rfl, fun k hk => by omega, Below.refl _ _⟩⟩
  case round =>
    obtain ⟨k, m, hk, rfl, rfl, hb⟩ := hrel
    have D1 : wr.cell? ⟨w.heap.size, 1, none⟩ = some (.int .i64 next) := (hb.out.2.2.cell (cell_lt E1.out)).trans E1.out
    have hE := hide (HB.out.trans (hb.out.2.2.mono HB.out.size))
    by_cases hlt : k < L
    · have hq : (k : Int) < (L : Int) := by omega
      obtain ⟨y, hy⟩ := some_el ps (k := k) (by rw [← hL.out]; exact hlt)
      have hny := hide (tid_at hy)
      obtain ⟨b, off, u, rfl, hc1, hc2, hr⟩ := HH.out.wrt hy
      obtain ⟨au, cu, rfl⟩ := hr.slice
      replace hc1 := (hE.out.cell (cell_lt hc1)).trans hc1
      replace hc2 := (hE.out.cell (cell_lt hc2)).trans hc2
      replace hy := hide hy
      obtain ⟨z, hz⟩ : ∃ z, z = y.1 := ⟨_, rfl⟩
      rw [← hz] at hc1
      replace hz := hide (hny.out.trans hz.symm)
      clear hny hr
      obtain ⟨V, hV, DV, bV, sV⟩ := boxedN wr #[.int .i64 z, .slice au y.2.length cu] 43
      obtain ⟨⟨V0, V1⟩, _⟩ := cells2r DV
      have D1' := (bV.cell (cell_lt D1)).trans D1
      have BV := hide (hb.out.2.2.trans (bV.mono hb.out.2.2.size))
      generalize y.2.length = ly at *
      rw [hV] at V0 V1 D1'
      clear DV bV
      by_cases c1 : z < m
      · have hr : Hid (¬ PNum ⟨root, next, ps⟩) := fun hn => by
          have h1 := (hn.2.2 k (by rw [← hL.out]; exact hlt)).1
          have h2 := hb.out.1
          dsimp only at h1
          rw [hz.out] at h1
          omega
        go_wp2
        go_ret
        rw [← hV]
        exact BoolR.no hr.out (HB.out.trans (BV.out.mono HB.out.size))
      by_cases c2 : next ≤ z
      · have hr : Hid (¬ PNum ⟨root, next, ps⟩) := fun hn => by
          have h1 := (hn.2.2 k (by rw [← hL.out]; exact hlt)).2
          dsimp only at h1
          rw [hz.out] at h1
          omega
        go_wp2
        go_ret
        rw [← hV]
        exact BoolR.no hr.out (HB.out.trans (BV.out.mono HB.out.size))
      have hr : Hid (tups next ps (k + 1)) := tups_step9 hb.out.2.1 (by have := hb.out.1; rw [hz.out]; omega)
      have hz' : Hid (z + 1 = (if k + 1 = 0 then 0 else tid ps (k + 1 - 1)) + 1) := by show _ = _; rw [if_neg (by omega), Nat.add_sub_cancel, hz.out]
      have c3 : ¬ z ≥ next := c2
      have hm0 : 1 ≤ m := by
        have h1 := hb.out.1
        by_cases e : k = 0
        · rw [if_pos e] at h1; omega
        · have h2 := (hb.out.2.1 (k - 1) (by omega)).1
          rw [if_neg e] at h1
          have : 0 ≤ (if k - 1 = 0 then (0 : Int) else tid ps (k - 1 - 1)) := by
            split
            · omega
            · have := tups_ge' hb.out.2.1 (k - 1 - 1) (by omega)
              omega
          omega
      obtain ⟨z2, hz2⟩ : ∃ z2, z + 1 = z2 := ⟨_, rfl⟩
      have hw2 : IntKind.i64.wrap z2 = z2 := IntWalk.i64_in _ (by omega)
      rw [hz2] at hz'
      go_wp2
      rw [← hV]
      go_roundw
      case rel => exact ⟨k + 1, z2, by omega, by go_num, rfl, hide ⟨hz'.out, hr.out, BV.out⟩⟩
      case measure => simp [intOf]; omega
    · have hq : ¬ (k : Int) < (L : Int) := by omega
      have hU : Hid (PNum ⟨root, next, ps⟩) := by
        obtain rfl : k = L := by omega
        refine ⟨by simpa using n1, by simpa using n2, ?_⟩
        show tups next ps ps.length
        rw [← hL.out]; exact hb.out.2.1
      go_wp2
      go_ret
      exact BoolR.yes hU.out hE.out

end Go.Proofs.Ytgmkknonnidgaaa

/-
  The page's page: a search by halves.
-/
namespace Go.Proofs.Ytgmkknonnidgaaa
open Go.RowKit
set_option linter.unusedVariables false
set_option linter.unusedSimpArgs false

theorem ret_vb {a b c d : Value} (h1 : a = c) (h2 : b = d) : Ending.returned (.tuple #[a, b]) = .returned (.tuple #[c, d]) := by rw [h1, h2]

set_option maxRecDepth 100000 in
set_option maxHeartbeats 2000000 in
theorem rpage_at (w0 w : World) (pv : Value) (T : Tr) (id : Int) (h : RdC w0 pv T.pages) (h0 : Below w0.heap.size w0 w) (hu : tUp T.pages) (hl : T.pages.length ≤ 65536) :
    Calls Try.prog 60 #[tv T pv, .int .i64 id] w fun e w' => PgRes0 w0 w w' T.pages id e := by
  obtain ⟨a, c, rfl⟩ := h.slice
  obtain ⟨root, next, ps⟩ := T
  dsimp only [tv] at *
  obtain ⟨L, hL⟩ : ∃ L, L = ps.length := ⟨_, rfl⟩
  rw [← hL] at hl
  obtain ⟨W, hW, D, bW, sW⟩ := boxedN w #[.int .i64 root, .int .i64 next, .slice a ps.length c] 50
  have HH := hide h
  have H0 := hide (h0.trans (bW.mono h0.size))
  have HB := hide bW
  obtain ⟨⟨D0, D1, D2⟩, _⟩ := cells3p D
  clear h bW D h0
  have E2 := hide D2
  rw [hW] at D0 D1 D2
  rw [← hL] at hW D2 E2 HH ⊢
  replace hL := hide hL
  have HK : Hid (∀ t s, t < s → s < L → tid ps t < tid ps s) := fun t s h1 h2 => hu t s h1 (by rw [← hL.out]; exact h2)
  clear hu
  go_enter Try.func60, Try.ntmps60
  go_wp2
  go_region
  go_wp2
  rw [← hW]
  replace hW := hide hW
  clear D0 D1 D2
  have E2 := E2.out
  have bD : Below W.heap.size W W.drew := below_drewN' W 1 _
  replace H0 := hide (H0.out.trans (bD.mono H0.out.size))
  replace HB := hide (HB.out.trans (bD.mono HB.out.size))
  replace E2 := (bD.cell (cell_lt E2)).trans E2
  clear bD
  generalize W.drew = W' at *
  go_loopw [6, 7] (fun p q wr => ∃ i j : Nat, i ≤ j ∧ j ≤ L ∧ p = .int .i64 i ∧ q = .int .i64 j ∧ W' = wr ∧ Hid ((∀ t, t < i → tid ps t < id) ∧ ∀ t, j ≤ t → t < L → id ≤ tid ps t)) (fun p q _ => (intOf q).toNat - (intOf p).toNat)
  case atStart => exact ⟨0, L, Nat.zero_le _, Nat.le_refl _, rfl, rfl, rfl, hide ⟨fun t h => by omega, fun t h1 h2 => by omega⟩⟩
  case round =>
    obtain ⟨i, j, hij, hjL, rfl, rfl, rfl, hI⟩ := hrel
    by_cases hlt : i < j
    · have hq : (i : Int) < (j : Int) := by omega
      obtain ⟨s, hs⟩ : ∃ s : Nat, (i : Int) + (j : Int) = (s : Int) := ⟨i + j, by omega⟩
      have hs1 : IntKind.i64.wrap (s : Int) = (s : Int) := IntWalk.i64_in _ (by omega)
      obtain ⟨m, hm⟩ : ∃ m : Nat, (s : Int) / 2 = (m : Int) := ⟨s / 2, by omega⟩
      have hm2 : (m : Int) < (L : Int) := by omega
      have hmi : Hid (i ≤ m ∧ m < j) := by show _ ∧ _; omega
      obtain ⟨y, hy⟩ := some_el ps (k := m) (by rw [← hL.out]; omega)
      have hny := hide (tid_at hy)
      obtain ⟨b, off, u, rfl, hc1, hc2, hr⟩ := HH.out.wrt hy
      replace hy := hide hy
      obtain ⟨z, hz⟩ : ∃ z, z = y.1 := ⟨_, rfl⟩
      rw [← hz] at hc1
      replace hz := hide hz
      replace hc1 := (H0.out.cell (cell_lt hc1)).trans hc1
      clear hc2 hr
      by_cases hlx : z < id
      · have hI' : Hid ((∀ t, t < m + 1 → tid ps t < id) ∧ ∀ t, j ≤ t → t < L → id ≤ tid ps t) := ⟨fun t ht => by
          by_cases e : t = m
          · subst e; rw [hny.out, ← hz.out]; exact hlx
          · have h1 := HK.out t m (by omega) (by omega)
            rw [hny.out, ← hz.out] at h1
            omega, hI.out.2⟩
        go_wp2
        go_roundw
        case rel => exact ⟨m + 1, j, by have := hmi.out; omega, hjL, by go_num, rfl, trivial, hI'⟩
        case measure => have := hmi.out; simp [intOf]; omega
      · have hI' : Hid ((∀ t, t < i → tid ps t < id) ∧ ∀ t, m ≤ t → t < L → id ≤ tid ps t) := ⟨hI.out.1, fun t h1 h2 => by
          by_cases e : t = m
          · subst e; rw [hny.out, ← hz.out]; omega
          · have h3 := HK.out m t (by omega) h2
            rw [hny.out, ← hz.out] at h3
            omega⟩
        go_wp2
        go_roundw
        case rel => exact ⟨i, m, hmi.out.1, by have := hmi.out; omega, rfl, rfl, trivial, hI'⟩
        case measure => have := hmi.out; simp [intOf]; omega
    · have hq : ¬ (i : Int) < (j : Int) := by omega
      obtain rfl : i = j := by omega
      by_cases hiL : i < L
      · have hq2 : (i : Int) < (L : Int) := by omega
        obtain ⟨y, hy⟩ := some_el ps (k := i) (by rw [← hL.out]; omega)
        have hny := hide (tid_at hy)
        obtain ⟨b, off, u, rfl, hc1, hc2, hr⟩ := HH.out.wrt hy
        obtain ⟨au, cu, rfl⟩ := hr.slice
        replace hc1 := (H0.out.cell (cell_lt hc1)).trans hc1
        replace hc2 := (H0.out.cell (cell_lt hc2)).trans hc2
        replace hy := hide hy
        replace hr := hide hr
        obtain ⟨z, hz⟩ : ∃ z, z = y.1 := ⟨_, rfl⟩
        rw [← hz] at hc1
        replace hz := hide hz
        by_cases he : z = id
        · have hp : Hid (tpage ps id = some y.2) := tpage_hit (fun a b h1 h2 => HK.out a b h1 (by rw [hL.out]; exact h2)) hy.out (by rw [← hz.out]; exact he)
          go_wp2
          go_ret2
          exact ⟨_, true, rfl, .inl ⟨rfl, _, hp.out, hr.out⟩, HB.out⟩
        · have hp : Hid (tpage ps id = none) := tpage_none fun t ht => by
            by_cases h1 : t < i
            · have := hI.out.1 t h1; omega
            · by_cases h2 : t = i
              · subst h2; rw [hny.out, ← hz.out]; exact he
              · have h3 := HK.out i t (by omega) (by rw [hL.out]; exact ht)
                have h4 := hI.out.2 i (Nat.le_refl _) hiL
                omega
          go_wp2
          go_ret2
          exact ⟨_, false, rfl, .inr ⟨rfl, hp.out, rfl⟩, HB.out⟩
      · have hq2 : ¬ (i : Int) < (L : Int) := by omega
        have hp : Hid (tpage ps id = none) := tpage_none fun t ht => by have := hI.out.1 t (by rw [← hL.out] at ht; omega); omega
        go_wp2
        go_ret2
        exact ⟨_, false, rfl, .inr ⟨rfl, hp.out, rfl⟩, HB.out⟩

theorem rpage_any (w : World) (pv : Value) (T : Tr) (id : Int) (h : RdC w pv T.pages) (hu : tUp T.pages) (hl : T.pages.length ≤ 65536) :
    Calls Try.prog 60 #[tv T pv, .int .i64 id] w fun e w' => PgRes w w' T.pages id e := by
  refine (rpage_at w w pv T id h (Below.refl _ _) hu hl).mono ?_
  rintro e w' ⟨bv, ok, rfl, hp, b⟩
  refine ⟨bv, ok, rfl, ?_, b⟩
  rcases hp with ⟨h1, x, h2, h3⟩ | hp
  · exact .inl ⟨h1, x, h2, h3.to b⟩
  · exact .inr hp

end Go.Proofs.Ytgmkknonnidgaaa

/-
  The page's numbers.
-/
namespace Go.Proofs.Ytgmkknonnidgaaa
open Go.RowKit
set_option linter.unusedVariables false
set_option linter.unusedSimpArgs false

/-- may a store's numbers be? -/
def TNum (t : Tr) : Prop := 1 ≤ t.next ∧ t.next ≤ 65536 ∧ tups t.next t.pages t.pages.length ∧ (t.root = 0 ∨ tpage t.pages t.root ≠ none)
instance (n : Int) (l : List Wrt) (k : Nat) : Decidable (tups n l k) := by unfold tups; infer_instance
instance (t : Tr) : Decidable (TNum t) := by unfold TNum; infer_instance
theorem tups_step {n : Int} {l : List Wrt} {k : Nat} (h : tups n l k) (h2 : (if k = 0 then 0 else tid l (k - 1)) < tid l k ∧ tid l k < n) : tups n l (k + 1) := by
  intro i hi
  by_cases e : i = k
  · subst e; exact h2
  · exact h i (by omega)

/-- the box and what is read, kept -/
def TInvN (w W : World) (root next : Int) (pv : Value) (ps : List Wrt) (wr : World) : Prop := Below W.heap.size W wr ∧ (wr.cell? ⟨w.heap.size, 0, none⟩ = some (.int .i64 root) ∧ wr.cell? ⟨w.heap.size, 1, none⟩ = some (.int .i64 next) ∧ wr.cell? ⟨w.heap.size, 2, none⟩ = some pv) ∧ RdC wr pv ps
theorem TInvN.to {w W : World} {root next : Int} {pv : Value} {ps : List Wrt} {wr w' : World} (h : TInvN w W root next pv ps wr) (hb : Below wr.heap.size wr w') : TInvN w W root next pv ps w' :=
  ⟨h.1.trans (hb.mono h.1.size), ⟨(hb.cell (cell_lt h.2.1.1)).trans h.2.1.1, (hb.cell (cell_lt h.2.1.2.1)).trans h.2.1.2.1, (hb.cell (cell_lt h.2.1.2.2)).trans h.2.1.2.2⟩, h.2.2.to0 hb⟩

set_option maxRecDepth 100000 in
set_option maxHeartbeats 2000000 in
theorem rnumbers_any (w : World) (pv : Value) (T : Tr) (h : RdC w pv T.pages) :
    Calls Try.prog 45 #[tv T pv] w fun e w' => e = .returned (.bool (decide (TNum T))) ∧ Below w.heap.size w w' := by
  obtain ⟨a, c, rfl⟩ := h.slice
  have lp := h.bd
  obtain ⟨root, next, ps⟩ := T
  dsimp only [tv] at *
  obtain ⟨L, hL⟩ : ∃ L, L = ps.length := ⟨_, rfl⟩
  obtain ⟨W, hW, D, bW, sW⟩ := boxedN w #[.int .i64 root, .int .i64 next, .slice a ps.length c] 50
  have HH := hide (h.to0 bW)
  have HB := hide bW
  obtain ⟨⟨D0, D1, D2⟩, _⟩ := cells3p D
  clear h bW D
  have E := hide (And.intro D0 (And.intro D1 D2))
  rw [hW] at D0 D1 D2
  rw [← hL] at hW D2 E HH lp ⊢
  replace hL := hide hL
  obtain ⟨R, hR⟩ : ∃ R, R = decide (TNum ⟨root, next, ps⟩) := ⟨_, rfl⟩
  rw [← hR]
  have hF : Hid (¬ TNum ⟨root, next, ps⟩ → R = false) := fun hn => by rw [hR]; exact decide_eq_false hn
  have hT : Hid (TNum ⟨root, next, ps⟩ → R = true) := fun hn => by rw [hR]; exact decide_eq_true hn
  clear hR
  go_enter Try.func45, Try.ntmps45
  by_cases n1 : next < 1
  · have hr : Hid (R = false) := hF.out fun hn => by have := hn.1; simp at this; omega
    go_wp2
    go_ret
    rw [← hW]
    exact ⟨congrArg _ (congrArg _ hr.out.symm), HB.out⟩
  by_cases n2 : next > 65536
  · have hr : Hid (R = false) := hF.out fun hn => by have := hn.2.1; simp at this; omega
    go_wp2
    go_ret
    rw [← hW]
    exact ⟨congrArg _ (congrArg _ hr.out.symm), HB.out⟩
  go_wp2
  rw [← hW]
  replace hW := hide hW
  clear D0 D1 D2
  have HI : Hid (TInvN w W root next (.slice a L c) ps W) := ⟨Below.refl _ _, E.out, HH.out⟩
  clear HH E
  go_loopw [4, 3] (fun b l wr => ∃ k : Nat, k ≤ L ∧ b = .int .i64 k ∧ l = .int .i64 (if k = 0 then 0 else tid ps (k - 1)) ∧ Hid (tups next ps k ∧ TInvN w W root next (.slice a L c) ps wr)) (fun b _ _ => L - (intOf b).toNat)
  case atStart => exact ⟨0, Nat.zero_le _, rfl, rfl, hide ⟨fun k hk => by omega, HI.out⟩⟩
  case round =>
    obtain ⟨k, hk, rfl, rfl, hb⟩ := hrel
    obtain ⟨D0, D1, D2⟩ := hb.out.2.2.1
    have hE : Hid (∀ w', Below wr.heap.size wr w' → Below w.heap.size w w') := fun w' b => HB.out.trans ((hb.out.2.to b).1.mono HB.out.size)
    obtain ⟨l, hl⟩ : ∃ l, l = (if k = 0 then 0 else tid ps (k - 1)) := ⟨_, rfl⟩
    rw [← hl]
    replace hl := hide hl
    by_cases hlt : k < L
    · have hq : (k : Int) < (L : Int) := by omega
      obtain ⟨y, hy⟩ := some_el ps (k := k) (by rw [← hL.out]; exact hlt)
      have hny := hide (tid_at hy)
      obtain ⟨b, off, u, rfl, hc1, _, _⟩ := hb.out.2.2.2.wrt hy
      replace hy := hide hy
      obtain ⟨z, hz⟩ : ∃ z, z = y.1 := ⟨_, rfl⟩
      rw [← hz] at hc1
      replace hz := hide (hny.out.trans hz.symm)
      clear hny
      by_cases c1 : z ≤ l
      · have g1 : decide (z ≤ l) = true := decide_eq_true c1
        have hr : Hid (R = false) := hF.out fun hn => by have := (hn.2.2.1 k (by rw [← hL.out]; exact hlt)).1; dsimp only at this; rw [← hl.out, hz.out] at this; omega
        go_wp2_with fail
        go_quiet (fail)
        go_wp2
        go_ret
        exact ⟨congrArg _ (congrArg _ hr.out.symm), hE.out _ (below_drewN' wr _ _)⟩
      have g1 : decide (z ≤ l) = false := decide_eq_false c1
      by_cases c2 : next ≤ z
      · have g2 : decide (next ≤ z) = true := decide_eq_true c2
        have hr : Hid (R = false) := hF.out fun hn => by have := (hn.2.2.1 k (by rw [← hL.out]; exact hlt)).2; dsimp only at this; rw [hz.out] at this; omega
        go_wp2_with fail
        go_quiet (fail)
        go_wp2
        go_ret
        exact ⟨congrArg _ (congrArg _ hr.out.symm), hE.out _ (below_drewN' wr _ _)⟩
      have g2 : decide (next ≤ z) = false := decide_eq_false c2
      have hr : Hid (tups next ps (k + 1)) := tups_step hb.out.1 (by rw [← hl.out, hz.out]; omega)
      have hz' : Hid (z = if k + 1 = 0 then 0 else tid ps (k + 1 - 1)) := by show _ = _; rw [if_neg (by omega), Nat.add_sub_cancel, hz.out]
      go_wp2_with fail
      go_quiet (fail)
      go_wp2
      go_roundw
      case rel => exact ⟨k + 1, by omega, by go_num, congrArg _ hz'.out, hide ⟨hr.out, hb.out.2.to (below_drewN' wr _ _)⟩⟩
      case measure => simp [intOf]; omega
    · have hq : ¬ (k : Int) < (L : Int) := by omega
      have hU : Hid (tups next ps ps.length) := by
        obtain rfl : k = L := by omega
        rw [← hL.out]; exact hb.out.1
      have hlen : ps.length ≤ 65536 := by have := tups_len hU.out (by omega); omega
      have KP := hide (rpage_any wr (.slice a L c) ⟨root, next, ps⟩ root hb.out.2.2.2 (tups_up hU.out) hlen)
      have HI := hide hb.out.2
      clear hb hlen
      go_wp2_with fail
      refine KP.out.mono ?_
      rintro e w1 ⟨bv, ok, rfl, hp, b1⟩
      have hE1 := hide (hE.out _ b1)
      obtain ⟨D0, D1, D2⟩ := (HI.out.to b1).2.1
      have hR : Hid ((root == 0 || ok) = R) := by
        show _ = _
        have hiff : TNum ⟨root, next, ps⟩ ↔ (root = 0 ∨ ok = true) := by
          refine ⟨fun hn => ?_, fun hn => ⟨by simpa using n1, by simpa using n2, hU.out, ?_⟩⟩
          · rcases hn.2.2.2 with h0 | h0
            · exact .inl h0
            · rcases hp with ⟨o, _⟩ | ⟨_, o, _⟩
              · exact .inr o
              · exact absurd o h0
          · rcases hn with h0 | h0
            · exact .inl h0
            · refine .inr ?_
              rcases hp with ⟨_, x, o, _⟩ | ⟨o, _⟩
              · show tpage ps root ≠ none
                rw [o]; simp
              · rw [o] at h0; cases h0
        by_cases hn : TNum ⟨root, next, ps⟩
        · rw [hT.out hn]; simpa using hiff.1 hn
        · rw [hF.out hn]
          have := mt hiff.2 hn
          apply Bool.eq_false_iff.2
          simpa using this
      clear hp KP HI hE
      by_cases r0 : root = 0
      · have hr : Hid (R = true) := by show _ = _; rw [← hR.out, r0]; rfl
        go_wp2
        go_ret
        exact ⟨congrArg _ (congrArg _ hr.out.symm), hE1.out⟩
      · go_wp2
        go_ret
        exact ⟨congrArg _ (congrArg _ hR.out), hE1.out⟩

end Go.Proofs.Ytgmkknonnidgaaa

/-
  Lists of pairs: key, Has, SamePairs.
-/
namespace Go.Proofs.Ytgmkknonnidgaaa
open Go.RowKit
set_option linter.unusedVariables false
set_option linter.unusedSimpArgs false

abbrev Pr := Str × Str
abbrev SPr : Shp Pr := Shp.str.pair Shp.str
abbrev RdP (w : World) (v : Value) (l : List Pr) : Prop := RdS SPr w v l
theorem RdS.prAt {w : World} {a : Option Addr} {n cap : Nat} {l : List Pr} (h : RdP w (.slice a n cap) l) {i : Nat} {y : Pr} (hy : l[i]? = some y) :
    ∃ b off, a = some ⟨b, off, none⟩ ∧ w.cell? ⟨b, off + i * 2, none⟩ = some (st y.1) ∧ w.cell? ⟨b, off + i * 2 + 1, none⟩ = some (st y.2) := by
  obtain ⟨b, off, u, v, e, hc, hc2, e1, e2⟩ := RdS.at2 rfl rfl h hy
  have q1 : [u] = [st y.1] := e1
  have q2 : [v] = [st y.2] := e2
  simp at q1 q2
  subst q1; subst q2
  exact ⟨b, off, e, hc, hc2⟩

/-- may a key be? -/
def tkey (k : Str) : Bool := decide (1 ≤ k.length ∧ k.length ≤ 32)
def phas (l : List Pr) (k : Str) : Bool := l.any fun y => y.1 == k

theorem ret_b {a b : Bool} (h : a = b) : Ending.returned (.bool a) = .returned (.bool b) := by rw [h]

set_option maxRecDepth 100000 in
theorem rkey_any (w : World) (k : Str) (hk : k.length ≤ 9223372036854775807) : Calls Try.prog 44 #[st k] w fun e w' => e = .returned (.bool (tkey k)) ∧ w = w' := by
  obtain ⟨n, hn⟩ : ∃ n, n = k.length := ⟨_, rfl⟩
  obtain ⟨R, hR⟩ : ∃ R, R = tkey k := ⟨_, rfl⟩
  rw [← hR]
  have hR' : Hid (R = decide (1 ≤ k.length ∧ k.length ≤ 32)) := hR
  clear hR
  go_enter Try.func44, Try.ntmps44
  by_cases c1 : (1 : Int) ≤ (k.length : Int)
  · go_wp2
    go_ret
    refine ⟨ret_b ?_, rfl⟩
    rw [hR'.out]
    by_cases c2 : k.length ≤ 32
    · have : 1 ≤ k.length := by omega
      simp [c2, this]; omega
    · simp [c2]; try omega
  · go_wp2
    go_ret
    refine ⟨ret_b ?_, rfl⟩
    rw [hR'.out]
    have : ¬ 1 ≤ k.length := by omega
    simp [this]; try omega

set_option maxRecDepth 100000 in
set_option maxHeartbeats 2000000 in
theorem rhas10_any (w : World) (v : Value) (l : List Pr) (key : Str) (h : RdP w v l) : Calls Try.prog 47 #[v, st key] w fun e w' => e = .returned (.bool (phas l key)) ∧ w = w' := by
  have lb := h.bd
  obtain ⟨a, c, rfl⟩ := h.slice
  obtain ⟨L, hL⟩ : ∃ L, L = l.length := ⟨_, rfl⟩
  rw [← hL] at h lb ⊢
  replace hL := hide hL
  have HH := hide h
  clear h
  go_enter Try.func47, Try.ntmps47
  go_wp2
  go_loopw [5] (fun p wr => ∃ i : Nat, i ≤ L ∧ p = .int .i64 i ∧ w = wr ∧ Hid (∀ t y, t < i → l[t]? = some y → (y.1 == key) = false)) (fun p _ => L - (intOf p).toNat)
  case atStart => exact ⟨0, Nat.zero_le _, rfl, rfl, hide fun t y h => by omega⟩
  case round =>
    obtain ⟨i, hi, rfl, rfl, hI⟩ := hrel
    by_cases hlt : i < L
    · have hq : (i : Int) < (L : Int) := by omega
      obtain ⟨y, hy⟩ := some_el l (k := i) (by rw [← hL.out]; exact hlt)
      obtain ⟨b, off, rfl, hc1, _⟩ := HH.out.prAt hy
      replace hy := hide hy
      obtain ⟨x, hx⟩ : ∃ x, x = y.1 := ⟨_, rfl⟩
      rw [← hx] at hc1
      replace hx := hide hx
      cases he : (x == key) with
      | true =>
        have hr : Hid (phas l key = true) := by
          show _ = _
          unfold phas
          rw [List.any_eq_true]
          exact ⟨y, List.mem_of_getElem? hy.out, by rw [← hx.out]; exact he⟩
        go_wp2
        go_ret
        exact ⟨ret_b hr.out.symm, rfl⟩
      | false =>
        have hI' : Hid (∀ t y, t < i + 1 → l[t]? = some y → (y.1 == key) = false) := fun t z ht hz => by
          by_cases e : t = i
          · subst e
            have := hz.symm.trans hy.out
            simp at this; subst this
            rw [← hx.out]; exact he
          · exact hI.out t z (by omega) hz
        go_wp2
        go_roundw
        case rel => exact ⟨i + 1, by omega, by go_num, trivial, hI'⟩
        case measure => simp [intOf]; omega
    · have hq : ¬ (i : Int) < (L : Int) := by omega
      have hr : Hid (phas l key = false) := by
        show _ = _
        unfold phas
        rw [List.any_eq_false]
        intro y hy
        obtain ⟨t, ht, e⟩ := List.getElem_of_mem hy
        have := hI.out t y (by have := hL.out; omega) (by rw [List.getElem?_eq_getElem ht, e])
        simp [this]
      go_wp2
      go_ret
      exact ⟨ret_b hr.out.symm, rfl⟩

theorem neq_pr (a b c d : Str) (w : World) : (binOp .neq 74 (.agg #[st a, st b]) (.agg #[st c, st d])).run Try.prog w = .ok (.bool (!(a == c && b == d))) w := by
  have e1 : Try.prog.underlying 74 = some (.struct (Try.prog.fieldsOf 74)) := by kernel_rfl
  have e2 : Try.prog.stoodInHeld 74 = false := by kernel_rfl
  rw [run_neq_struct, run_equalIn_struct w 9999 _ _ _ e1 e2]
  have e3 : (Try.prog.fieldsOf 74).toList.map (fun f => (f.name == "_", f.type, f.offset)) = [(false, 9, 0), (false, 9, 1)] := by kernel_rfl
  have e4 : Try.prog.underlying 9 = some .string := by kernel_rfl
  have p0 : ∀ x y : Value, (part 9 #[x, y] 0).run Try.prog w = .ok x w := fun x y => by kernel_rfl
  have p1 : ∀ x y : Value, (part 9 #[x, y] 1).run Try.prog w = .ok y w := fun x y => by kernel_rfl
  have e5 : ∀ x y : Str, (Op.equalIn 9999 9 (st x) (st y)).run Try.prog w = .ok (x == y) w := fun x y => by
    rw [run_equalIn_string w 9998 _ _ _ e4, ByteArray.toList_eq, ByteArray.toList_eq]
  generalize (Try.prog.fieldsOf 74).toList = fs at e3 ⊢
  rcases fs with _ | ⟨f0, _ | ⟨f1, _ | ⟨f2, r⟩⟩⟩ <;> simp at e3
  obtain ⟨⟨a1, a2, a3⟩, b1, b2, b3⟩ := e3
  simp only [Op.eqFields, a1, a2, a3, b1, b2, b3, ne_eq, not_false_eq_true, if_true, Sem.run_bind, p0, p1, e5, Result.andThen_ok, Sem.run_ite, Sem.run_pure]
  cases (a == c) <;> cases (b == d) <;> rfl
theorem eqg_pr (op : BinOp) (x y : Operand) (a b : Array Value) (w : World) : (eqGuard op 74 x y (.agg a) (.agg b)).run Try.prog w = .ok () w :=
  run_eqGuard_agg w op _ x y a b (by kernel_rfl)
set_option maxRecDepth 100000 in
set_option maxHeartbeats 2000000 in
theorem samep_any (w : World) (v u : Value) (l m : List Pr) (h1 : RdP w v l) (h2 : RdP w u m) : Calls Try.prog 15 #[v, u] w fun e w' => e = .returned (.bool (decide (l = m))) ∧ Below w.heap.size w w' := by
  have lb := h1.bd
  have mb := h2.bd
  obtain ⟨a, c, rfl⟩ := h1.slice
  obtain ⟨a2, c2, rfl⟩ := h2.slice
  obtain ⟨R, hR⟩ : ∃ R, R = decide (l = m) := ⟨_, rfl⟩
  rw [← hR]
  replace hR := hide hR
  obtain ⟨L, hL⟩ : ∃ L, L = l.length := ⟨_, rfl⟩
  obtain ⟨M, hM⟩ : ∃ M, M = m.length := ⟨_, rfl⟩
  rw [← hL] at h1 lb ⊢
  rw [← hM] at h2 mb ⊢
  replace hL := hide hL
  replace hM := hide hM
  have H1 := hide h1
  have H2 := hide h2
  clear h1 h2
  go_enter Try.func15, Try.ntmps15
  by_cases hl : L = M
  · subst hl
    go_wp2
    go_loopw [5] (fun p wr => ∃ i : Nat, i ≤ L ∧ p = .int .i64 i ∧ Hid (Below w.heap.size w wr ∧ ∀ t, t < i → l[t]? = m[t]?)) (fun p _ => L - (intOf p).toNat)
    case atStart => exact ⟨0, Nat.zero_le _, rfl, hide ⟨Below.refl _ _, fun t h => by omega⟩⟩
    case round =>
      obtain ⟨i, hi, rfl, hI⟩ := hrel
      by_cases hlt : i < L
      · have hq : (i : Int) < (L : Int) := by omega
        obtain ⟨y, hy⟩ := some_el l (k := i) (by rw [← hL.out]; exact hlt)
        obtain ⟨z, hz⟩ := some_el m (k := i) (by rw [← hM.out]; exact hlt)
        obtain ⟨b, off, rfl, hc1, hc2⟩ := (H1.out.to0 hI.out.1).prAt hy
        obtain ⟨b', off', rfl, hd1, hd2⟩ := (H2.out.to0 hI.out.1).prAt hz
        replace hy := hide hy
        replace hz := hide hz
        obtain ⟨y1, y2⟩ := y
        obtain ⟨z1, z2⟩ := z
        dsimp only at hc1 hc2 hd1 hd2
        have q1 := neq_pr y1 y2 z1 z2
        have q2 := eqg_pr .neq
        cases hq3 : (y1 == z1 && y2 == z2) with
        | true =>
          rw [hq3] at q1
          have hI' : Hid (∀ t, t < i + 1 → l[t]? = m[t]?) := fun t ht => by
            by_cases e : t = i
            · subst e
              rw [hy.out, hz.out]
              simp at hq3
              rw [hq3.1, hq3.2]
            · exact hI.out.2 t (by omega)
          replace hq3 := hide hq3
          go_wp2_with fail
          go_region
          go_wp2
          go_roundw
          case rel => exact ⟨i + 1, by omega, by go_num, hide ⟨hI.out.1.trans (below_drewN' _ 1 _), hI'.out⟩⟩
          case measure => simp [intOf]; omega
        | false =>
          rw [hq3] at q1
          have hr : Hid (R = false) := by
            show _ = _
            rw [hR.out]
            refine decide_eq_false fun e => ?_
            have := hy.out.symm.trans ((congrArg (·[i]?) e).trans hz.out)
            simp at this
            rw [this.1, this.2] at hq3
            simp at hq3
          replace hq3 := hide hq3
          go_wp2_with fail
          go_region
          go_wp2
          go_ret
          exact ⟨ret_b hr.out.symm, hI.out.1.trans (below_drewN' _ 1 _)⟩
      · have hq : ¬ (i : Int) < (L : Int) := by omega
        have hr : Hid (R = true) := by
          show _ = _
          rw [hR.out]
          refine decide_eq_true (List.ext_getElem? fun t => ?_)
          by_cases ht : t < i
          · exact hI.out.2 t ht
          · rw [List.getElem?_eq_none (by rw [← hL.out]; omega), List.getElem?_eq_none (by rw [← hM.out]; omega)]
        go_wp2
        go_ret
        exact ⟨ret_b hr.out.symm, hI.out.1⟩
  · have hq : ((L : Int) != (M : Int)) = true := by simp; omega
    have hr : Hid (R = false) := by
      show _ = _
      rw [hR.out]
      refine decide_eq_false fun e => hl ?_
      rw [hL.out, hM.out, e]
    replace hl := hide hl
    go_wp2
    go_ret
    exact ⟨ret_b hr.out.symm, Below.refl _ _⟩

end Go.Proofs.Ytgmkknonnidgaaa

/-
  The walk over a store of pages, plainly: what is reached from a page on.
-/
namespace Go.Proofs.Ytgmkknonnidgaaa
set_option linter.unusedVariables false

/-- does a key lie from one on, below another? -/
def kin (lo : Str) (hi : Option Str) (k : Str) : Bool := !slt k lo && (match hi with | none => true | some h => slt k h)
/-- what a walk has seen: the pages' numbers, how many lie below a leaf's depth, the pairs -/
structure Sw where
  seen : List Int
  dep : Option Nat
  prs : List Pr
/-- where the keys below a kid lie -/
def kidLo (n : Nd) (lo : Str) (i : Nat) : Str := if i = 0 then lo else n.keys.getD (i - 1) []
def kidHi (n : Nd) (hi : Option Str) (i : Nat) : Option Str := if i < n.keys.length then some (n.keys.getD i []) else hi
def wkK (g : Int → Str → Option Str → Sw → Option Sw) (n : Nd) (lo : Str) (hi : Option Str) : Nat → List Int → Sw → Option Sw
  | _, [], s => some s
  | i, k :: r, s => (g k (kidLo n lo i) (kidHi n hi i) s).bind (wkK g n lo hi (i + 1) r)
/-- the pairs of a leaf -/
def npr (n : Nd) : List Pr := n.keys.zip n.vals
def wk (l : List Wrt) : Nat → Int → Str → Option Str → Sw → Option Sw
  | 0, _, _, _, _ => none
  | f + 1, id, lo, hi, s =>
    match tpage l id with
    | none => none
    | some x =>
      if id ∈ s.seen then none
      else if (ndec x).2 ≠ 0 then none
      else if (ndec x).1.keys.all (kin lo hi) = false then none
      else if (ndec x).1.leaf = true then
        if (ndec x).1.keys = [] ∨ (s.dep ≠ none ∧ s.dep ≠ some f) then none
        else some ⟨id :: s.seen, some f, s.prs ++ npr (ndec x).1⟩
      else wkK (wk l f) (ndec x).1 lo hi 0 (ndec x).1.kids ⟨id :: s.seen, s.dep, s.prs⟩

theorem wkK_snoc (g : Int → Str → Option Str → Sw → Option Sw) (n : Nd) (lo : Str) (hi : Option Str) : ∀ (a : List Int) (i : Nat) (k : Int) (s : Sw),
    wkK g n lo hi i (a ++ [k]) s = (wkK g n lo hi i a s).bind (g k (kidLo n lo (i + a.length)) (kidHi n hi (i + a.length)))
  | [], i, k, s => by
    simp only [List.nil_append, wkK, List.length_nil, Nat.add_zero, Option.bind_some]
    cases g k (kidLo n lo i) (kidHi n hi i) s <;> rfl
  | b :: a, i, k, s => by
    simp only [List.cons_append, wkK, List.length_cons]
    cases g b (kidLo n lo i) (kidHi n hi i) s with
    | none => rfl
    | some s' =>
      simp only [Option.bind_some]
      rw [wkK_snoc g n lo hi a (i + 1) k s', show i + 1 + a.length = i + (a.length + 1) from by omega]
theorem wkK_take (g : Int → Str → Option Str → Sw → Option Sw) (n : Nd) (lo : Str) (hi : Option Str) (l : List Int) (s : Sw) {i : Nat} {k : Int} (h : l[i]? = some k) :
    wkK g n lo hi 0 (l.take (i + 1)) s = (wkK g n lo hi 0 (l.take i) s).bind (g k (kidLo n lo i) (kidHi n hi i)) := by
  rw [List.take_add_one, h]
  show wkK g n lo hi 0 (l.take i ++ [k]) s = _
  have hl : (l.take i).length = i := by rw [List.length_take, Nat.min_eq_left]; have := (List.getElem?_eq_some_iff.1 h).1; omega
  rw [wkK_snoc, hl, Nat.zero_add]
/-- none stays none -/
theorem wkK_none (g : Int → Str → Option Str → Sw → Option Sw) (n : Nd) (lo : Str) (hi : Option Str) (l : List Int) (s : Sw) {i : Nat} (h : wkK g n lo hi 0 (l.take i) s = none) : ∀ j, i ≤ j → wkK g n lo hi 0 (l.take j) s = none := by
  intro j hj
  induction j with
  | zero => have : i = 0 := by omega
            subst this; exact h
  | succ j ih =>
    by_cases e : i = j + 1
    · rw [← e]; exact h
    · have := ih (by omega)
      cases hk : l[j]? with
      | none => rw [List.take_add_one, hk]; simpa using this
      | some k => rw [wkK_take _ _ _ _ _ _ hk, this]; rfl
/-- the steps -/
theorem wk_none {l : List Wrt} {f : Nat} {id : Int} {lo : Str} {hi : Option Str} {s : Sw} (h : tpage l id = none) : wk l f id lo hi s = none := by
  cases f with
  | zero => rfl
  | succ f => unfold wk; rw [h]
theorem wk_seen {l : List Wrt} {f : Nat} {id : Int} {lo : Str} {hi : Option Str} {s : Sw} (h : id ∈ s.seen) : wk l f id lo hi s = none := by
  cases f with
  | zero => rfl
  | succ f => unfold wk; cases tpage l id <;> simp [h]
theorem wk_bad {l : List Wrt} {f : Nat} {id : Int} {lo : Str} {hi : Option Str} {s : Sw} {x : List UInt8} (hx : tpage l id = some x) (h : (ndec x).2 ≠ 0) : wk l f id lo hi s = none := by
  cases f with
  | zero => rfl
  | succ f => unfold wk; rw [hx]; simp [h]
theorem wk_out {l : List Wrt} {f : Nat} {id : Int} {lo : Str} {hi : Option Str} {s : Sw} {x : List UInt8} (hx : tpage l id = some x) {j : Nat} {k : Str} (hj : (ndec x).1.keys[j]? = some k) (hk : kin lo hi k = false) : wk l f id lo hi s = none := by
  cases f with
  | zero => rfl
  | succ f =>
    have : (ndec x).1.keys.all (kin lo hi) = false := by
      rw [List.all_eq_false]
      exact ⟨k, List.mem_of_getElem? hj, by simp [hk]⟩
    unfold wk; rw [hx]; simp [this]
theorem wk_leaf {l : List Wrt} {f : Nat} {id : Int} {lo : Str} {hi : Option Str} {s : Sw} {x : List UInt8} {n : Nd} (hx : tpage l id = some x) (hs : id ∉ s.seen) (hd : ndec x = (n, 0)) (ha : n.keys.all (kin lo hi) = true) (hl : n.leaf = true) :
    wk l (f + 1) id lo hi s = if n.keys = [] ∨ (s.dep ≠ none ∧ s.dep ≠ some f) then none else some ⟨id :: s.seen, some f, s.prs ++ npr n⟩ := by
  conv => lhs; unfold wk
  rw [hx]
  simp only [hs, hd, ha, hl, if_false, if_true]
  simp
theorem wk_inner {l : List Wrt} {f : Nat} {id : Int} {lo : Str} {hi : Option Str} {s : Sw} {x : List UInt8} {n : Nd} (hx : tpage l id = some x) (hs : id ∉ s.seen) (hd : ndec x = (n, 0)) (ha : n.keys.all (kin lo hi) = true) (hl : n.leaf = false) :
    wk l (f + 1) id lo hi s = wkK (wk l f) n lo hi 0 n.kids ⟨id :: s.seen, s.dep, s.prs⟩ := by
  conv => lhs; unfold wk
  rw [hx]
  simp only [hs, hd, ha, hl, if_false]
  simp
theorem all_kin {l : List Str} {lo : Str} {hi : Option Str} (h : ∀ (j : Nat) (k : Str), l[j]? = some k → kin lo hi k = true) : l.all (kin lo hi) = true := by
  rw [List.all_eq_true]
  intro k hk
  obtain ⟨j, hj, e⟩ := List.getElem_of_mem hk
  exact h j k (by rw [List.getElem?_eq_getElem hj, e])
theorem wkK_mono {g : Int → Str → Option Str → Sw → Option Sw} (hg : ∀ k lo hi s s', g k lo hi s = some s' → s.prs.length ≤ s'.prs.length) (n : Nd) (lo : Str) (hi : Option Str) :
    ∀ (ks : List Int) (i : Nat) (s s' : Sw), wkK g n lo hi i ks s = some s' → s.prs.length ≤ s'.prs.length
  | [], i, s, s', h => by simp only [wkK, Option.some.injEq] at h; subst h; exact Nat.le_refl _
  | k :: r, i, s, s', h => by
    simp only [wkK] at h
    cases h1 : g k (kidLo n lo i) (kidHi n hi i) s with
    | none => rw [h1] at h; cases h
    | some s1 =>
      rw [h1] at h
      exact Nat.le_trans (hg _ _ _ _ _ h1) (wkK_mono hg n lo hi r (i + 1) s1 s' h)
theorem wk_mono (l : List Wrt) : ∀ (f : Nat) (id : Int) (lo : Str) (hi : Option Str) (s s' : Sw), wk l f id lo hi s = some s' → s.prs.length ≤ s'.prs.length
  | 0, id, lo, hi, s, s', h => by cases h
  | f + 1, id, lo, hi, s, s', h => by
    unfold wk at h
    split at h
    · cases h
    · split at h
      · cases h
      · split at h
        · cases h
        · split at h
          · cases h
          · split at h
            · split at h
              · cases h
              · simp only [Option.some.injEq] at h
                subst h
                simp
            · have := wkK_mono (fun k lo hi s s' hk => wk_mono l f k lo hi s s' hk) _ lo hi _ 0 _ s' h
              exact this
theorem wkK_at {g : Int → Str → Option Str → Sw → Option Sw} (hg : ∀ k lo hi s s', g k lo hi s = some s' → s.prs.length ≤ s'.prs.length) (n : Nd) (lo : Str) (hi : Option Str) (l : List Int) (s s'' : Sw) (h : wkK g n lo hi 0 l s = some s'') :
    ∀ d k, k + d = l.length → ∃ sk, wkK g n lo hi 0 (l.take k) s = some sk ∧ sk.prs.length ≤ s''.prs.length
  | 0, k, hk => ⟨s'', by rw [List.take_of_length_le (by omega)]; exact h, Nat.le_refl _⟩
  | d + 1, k, hk => by
    obtain ⟨s1, h1, h2⟩ := wkK_at hg n lo hi l s s'' h d (k + 1) (by omega)
    obtain ⟨x, hx⟩ : ∃ x, l[k]? = some x := ⟨_, List.getElem?_eq_getElem (by omega)⟩
    rw [wkK_take _ _ _ _ _ _ hx] at h1
    cases h3 : wkK g n lo hi 0 (l.take k) s with
    | none => rw [h3] at h1; cases h1
    | some sk =>
      rw [h3] at h1
      exact ⟨sk, rfl, Nat.le_trans (hg _ _ _ _ _ h1) h2⟩
/-- what a store holds, or none -/
def twalk (t : Tr) : Option Sw := if t.root = 0 then some ⟨[], none, []⟩ else wk t.pages 16 t.root [] none ⟨[], none, []⟩
def tprs (t : Tr) : Option (List Pr) := if TNum t then (twalk t).bind fun s => if s.prs.length ≤ 4096 then some s.prs else none else none
end Go.Proofs.Ytgmkknonnidgaaa
