/-
  Logs, plainly: what each call makes of one. A segment is a number and octets, a log its segments, the next number, and what waits. Nothing of the program is named.
-/
import Derived.Test.YtlnoancjegifnaaFLay
import Derived.Test.YtlnoancjegifnaaDMath
namespace Go.Proofs.Ytlnoancjegifnaa
set_option linter.unusedVariables false

theorem sc_exists (b : List UInt8) : ∃ fs p, ScEnd b fs p := by
  have aux : ∀ m n fs p, stt b n = some (fs, p) → b.length - p ≤ m → ∃ gs q, ScEnd b gs q := by
    intro m
    induction m with
    | zero =>
      intro n fs p h hm
      have hl := stt_len b n h
      by_cases h0 : (fopen (b.drop p)).1 = 0
      · have h1 := stt_step h h0
        have h2 := stt_len b _ h1
        have h3 := (fopen_le (b.drop p)).2.2 h0
        have := h2.2.1
        omega
      · exact ⟨fs, p, by rw [hl.1]; exact h, h0⟩
    | succ m ih =>
      intro n fs p h hm
      have hl := stt_len b n h
      by_cases h0 : (fopen (b.drop p)).1 = 0
      · have h1 := stt_step h h0
        have h2 := stt_len b _ h1
        have h3 := (fopen_le (b.drop p)).2.2 h0
        exact ih _ _ _ h1 (by have := h2.2.1; omega)
      · exact ⟨fs, p, by rw [hl.1]; exact h, h0⟩
  exact aux b.length 0 [] 0 rfl (by omega)
noncomputable def wscan (b : List UInt8) : List Frm := Classical.choose (sc_exists b)
theorem wscan_of {b : List UInt8} {fs : List Frm} {p : Nat} (h : ScEnd b fs p) : wscan b = fs := by
  obtain ⟨q, hq⟩ := Classical.choose_spec (sc_exists b)
  exact (hq.one h).1
/-- a segment's records: up to the first frame of another kind -/
def wones (fs : List Frm) : List Frm := fs.takeWhile fun f => f.1 == 1
def wsz : List (List UInt8) → Nat
  | [] => 0
  | r :: rs => r.length + 8 + wsz rs
noncomputable def wrecs (b : List UInt8) : List (List UInt8) := (wones (wscan b)).map Prod.snd
noncomputable def wn (b : List UInt8) : Nat := wsz (wrecs b)

abbrev Wlg := List Wrt × Int × List (List UInt8)
def wzero : Wlg := ([], 0, [])
def widx (n : Int) : Prop := 0 ≤ n ∧ n ≤ 1099511627776
instance (n : Int) : Decidable (widx n) := inferInstanceAs (Decidable (_ ∧ _))
/-- the number behind the first k segments -/
noncomputable def wst (segs : List Wrt) (next : Int) : Nat → Int
  | 0 => next
  | k + 1 => (segs.getD k (0, [])).1 + ((wrecs (segs.getD k (0, [])).2).length : Nat)
def wsegOk (segs : List Wrt) (next : Int) (k : Nat) (s : Wrt) : Prop := (widx s.1 ∧ (0 < k → s.1 = wst segs next k)) ∧ wn s.2 = s.2.length
def wwaitOk (rs : List (List UInt8)) : Prop := ∀ r ∈ rs, r.length ≤ 4096
def WOk (l : Wlg) : Prop := (l.1.length ≤ 4096 ∧ widx l.2.1 ∧ l.2.2.length ≤ 4096) ∧ wwaitOk l.2.2 ∧ (∀ k s, l.1[k]? = some s → wsegOk l.1 l.2.1 k s) ∧ wst l.1 l.2.1 l.1.length = l.2.1
open Classical in
noncomputable def wcheck (l : Wlg) : Int := if WOk l then 0 else 9
theorem wcheck_ok {l : Wlg} (h : WOk l) : wcheck l = 0 := if_pos h
theorem wcheck_no {l : Wlg} (h : ¬ WOk l) : wcheck l = 9 := if_neg h
open Classical in
noncomputable def wappend (l : Wlg) (rs : List (List UInt8)) : Wlg × Int :=
  if ¬ WOk l then (wzero, 9) else if ¬ wwaitOk rs then (wzero, 5) else if 4096 < l.2.2.length + rs.length then (wzero, 3) else ((l.1, l.2.1, l.2.2 ++ rs), 0)
theorem wappend_9 {l : Wlg} {rs : List (List UInt8)} (h : ¬ WOk l) : wappend l rs = (wzero, 9) := if_pos h
theorem wappend_5 {l : Wlg} {rs : List (List UInt8)} (h : WOk l) (h2 : ¬ wwaitOk rs) : wappend l rs = (wzero, 5) := by unfold wappend; rw [if_neg (fun k => k h), if_pos h2]
theorem wappend_3 {l : Wlg} {rs : List (List UInt8)} (h : WOk l) (h2 : wwaitOk rs) (h3 : 4096 < l.2.2.length + rs.length) : wappend l rs = (wzero, 3) := by unfold wappend; rw [if_neg (fun k => k h), if_neg (fun k => k h2), if_pos h3]
theorem wappend_0 {l : Wlg} {rs : List (List UInt8)} (h : WOk l) (h2 : wwaitOk rs) (h3 : ¬ 4096 < l.2.2.length + rs.length) : wappend l rs = ((l.1, l.2.1, l.2.2 ++ rs), 0) := by unfold wappend; rw [if_neg (fun k => k h), if_neg (fun k => k h2), if_neg h3]

/-- the last segment's octets -/
def wlast (segs : List Wrt) : Wrt := segs.getD (segs.length - 1) (0, [])
/-- with a new segment, if the last one is full -/
def wroom (limit : Int) (segs : List Wrt) (next : Int) : List Wrt := if segs.length = 0 ∨ limit ≤ ((wlast segs).2.length : Nat) then segs ++ [(next, [])] else segs
/-- a frame laid onto the last segment -/
noncomputable def wlay (segs : List Wrt) (r : List UInt8) : List Wrt := segs.set (segs.length - 1) ((wlast segs).1, (wlast segs).2 ++ fseal 1 r)
noncomputable def wone (limit : Int) (st : List Wrt × Int) (r : List UInt8) : Option (List Wrt × Int) :=
  if 1099511627776 ≤ st.2 ∨ 4096 < (wroom limit st.1 st.2).length then none else some (wlay (wroom limit st.1 st.2) r, st.2 + 1)
noncomputable def wfs (limit : Int) (l : Wlg) : Nat → Option (List Wrt × Int)
  | 0 => some (l.1, l.2.1)
  | k + 1 => (wfs limit l k).bind fun st => wone limit st (l.2.2.getD k [])
theorem wfs_none {limit : Int} {l : Wlg} {n : Nat} (h : wfs limit l n = none) (m : Nat) (hm : n ≤ m) : wfs limit l m = none := by
  induction m with
  | zero => rw [show n = 0 from by omega] at h; exact h
  | succ m ih =>
    by_cases e : n = m + 1
    · subst e; exact h
    · simp only [wfs, ih (by omega), Option.bind_none]
theorem wfs_next {limit : Int} {l : Wlg} {k : Nat} {st : List Wrt × Int} (h : wfs limit l k = some st) {r : List UInt8} (hr : l.2.2[k]? = some r) : wfs limit l (k + 1) = wone limit st r := by
  simp only [wfs, h, Option.bind_some, List.getD_eq_getElem?_getD, hr, Option.getD_some]
open Classical in
noncomputable def wflush (l : Wlg) (limit : Int) : Wlg × Int :=
  if ¬ WOk l then (wzero, 9) else if limit < 1 ∨ 1048576 < limit then (wzero, 4) else match wfs limit l l.2.2.length with | none => (wzero, 51) | some st => ((st.1, st.2, []), 0)
theorem wflush_9 {l : Wlg} {limit : Int} (h : ¬ WOk l) : wflush l limit = (wzero, 9) := if_pos h
theorem wflush_4 {l : Wlg} {limit : Int} (h : WOk l) (h2 : limit < 1 ∨ 1048576 < limit) : wflush l limit = (wzero, 4) := by unfold wflush; rw [if_neg (fun k => k h), if_pos h2]
theorem wflush_51 {l : Wlg} {limit : Int} (h : WOk l) (h2 : ¬ (limit < 1 ∨ 1048576 < limit)) (h3 : wfs limit l l.2.2.length = none) : wflush l limit = (wzero, 51) := by unfold wflush; rw [if_neg (fun k => k h), if_neg h2, h3]
theorem wflush_0 {l : Wlg} {limit : Int} (h : WOk l) (h2 : ¬ (limit < 1 ∨ 1048576 < limit)) {st : List Wrt × Int} (h3 : wfs limit l l.2.2.length = some st) : wflush l limit = ((st.1, st.2, []), 0) := by unfold wflush; rw [if_neg (fun k => k h), if_neg h2, h3]

/-- behind k segments: the log so far and the records; or the answer -/
abbrev Wst := (List Wrt × Int) × List (List UInt8)
abbrev Wans := Wlg × List (List UInt8) × Int
def wgone (i : Nat) (st : Wst) (s : Wrt) (r : List (List UInt8)) (n : Nat) : Wst := ((if 0 < n ∨ i = 0 then st.1.1 ++ [(s.1, s.2.take n)] else st.1.1, st.1.2 + (r.length : Nat)), st.2 ++ r)
noncomputable def wrone (m i : Nat) (st : Wst) (s : Wrt) : Wst ⊕ Wans :=
  if s.1 ≠ st.1.2 then .inr ((st.1.1, st.1.2, []), st.2, 21)
  else if 1099511627776 < st.1.2 + ((wrecs s.2).length : Nat) then .inr (wzero, [], 81)
  else if wn s.2 ≠ s.2.length ∧ i < m - 1 then .inr (((wgone i st s (wrecs s.2) (wn s.2)).1.1, (wgone i st s (wrecs s.2) (wn s.2)).1.2, []), (wgone i st s (wrecs s.2) (wn s.2)).2, 21)
  else .inl (wgone i st s (wrecs s.2) (wn s.2))
noncomputable def wrs (segs : List Wrt) : Nat → Wst ⊕ Wans
  | 0 => .inl (([], (segs.getD 0 (0, [])).1), [])
  | k + 1 => match wrs segs k with | .inl st => wrone segs.length k st (segs.getD k (0, [])) | .inr a => .inr a
noncomputable def wrecover (segs : List Wrt) : Wans :=
  if segs.length = 0 then (wzero, [], 0) else if 4096 < segs.length ∨ ¬ widx (segs.getD 0 (0, [])).1 then (wzero, [], 81) else
    match wrs segs segs.length with | .inl st => ((st.1.1, st.1.2, []), st.2, 0) | .inr a => a
theorem wrs_stop {segs : List Wrt} {a : Wans} {n : Nat} (h : wrs segs n = .inr a) (m : Nat) (hm : n ≤ m) : wrs segs m = .inr a := by
  induction m with
  | zero => rw [show n = 0 from by omega] at h; exact h
  | succ m ih =>
    by_cases e : n = m + 1
    · subst e; exact h
    · simp only [wrs, ih (by omega)]
theorem wrs_next {segs : List Wrt} {k : Nat} {st : Wst} (h : wrs segs k = .inl st) {s : Wrt} (hs : segs[k]? = some s) : wrs segs (k + 1) = wrone segs.length k st s := by
  simp only [wrs, h, List.getD_eq_getElem?_getD, hs, Option.getD_some]
/-- segments all of whose records are below go, but for the last one -/
def wtr (below : Int) : List Wrt → List Wrt
  | [] => []
  | [s] => [s]
  | s :: t :: r => if t.1 ≤ below then wtr below (t :: r) else s :: t :: r
open Classical in
noncomputable def wtrunc (l : Wlg) (below : Int) : Wlg × Int := if WOk l then ((wtr below l.1, l.2.1, l.2.2), 0) else (wzero, 9)
noncomputable def wall (segs : List Wrt) : List (List UInt8) := segs.flatMap fun s => wrecs s.2
open Classical in
noncomputable def wrecords (l : Wlg) : List (List UInt8) × Int × Int := if WOk l then (wall l.1, l.2.1 - ((wall l.1).length : Nat), 0) else ([], 0, 9)

theorem wsz_len (rs : List (List UInt8)) : 8 * rs.length ≤ wsz rs := by
  induction rs with
  | nil => simp [wsz]
  | cons r rs ih => simp only [wsz, List.length_cons]; omega
theorem wsz_app (a b : List (List UInt8)) : wsz (a ++ b) = wsz a + wsz b := by
  induction a with
  | nil => simp [wsz]
  | cons r a ih => simp only [List.cons_append, wsz, ih]; omega
theorem wones_all : ∀ {fs : List Frm}, ∀ f ∈ wones fs, f.1 = 1
  | [], f, hf => by cases hf
  | g :: fs, f, hf => by
    unfold wones at hf
    rw [List.takeWhile_cons] at hf
    by_cases h : g.1 = 1
    · rw [if_pos (by simpa using h)] at hf
      rcases List.mem_cons.1 hf with rfl | hf
      · exact h
      · exact wones_all (fs := fs) f hf
    · rw [if_neg (by simpa using h)] at hf; cases hf
theorem wones_at : ∀ {fs : List Frm} {K : Nat}, (∀ i f, i < K → fs[i]? = some f → f.1 = 1) → (∀ f, fs[K]? = some f → f.1 ≠ 1) → wones fs = fs.take K
  | [], K, _, _ => by simp [wones]
  | g :: fs, 0, _, h2 => by
    have := h2 g rfl
    unfold wones
    rw [List.takeWhile_cons, if_neg (by simpa using this)]; rfl
  | g :: fs, K + 1, h1, h2 => by
    have hg := h1 0 g (by omega) rfl
    have ih := wones_at (fs := fs) (K := K) (fun i f hi hf => h1 (i + 1) f (by omega) (by simpa using hf)) (fun f hf => h2 f (by simpa using hf))
    unfold wones at ih ⊢
    rw [List.takeWhile_cons, if_pos (by simpa using hg), ih]; rfl
theorem wones_eq {fs : List Frm} {K : Nat} (h1 : ∀ i f, i < K → fs[i]? = some f → f.1 = 1) (h2 : ∀ f, fs[K]? = some f → f.1 ≠ 1) {b : List UInt8} {p : Nat} (h : ScEnd b fs p) : wrecs b = (fs.take K).map Prod.snd := by
  unfold wrecs; rw [wscan_of h, wones_at h1 h2]
theorem stt_snds {b : List UInt8} : ∀ n {fs p}, stt b n = some (fs, p) → wsz (fs.map Prod.snd) = p ∧ ∀ f ∈ fs, f.2.length ≤ 4096
  | 0, fs, p, h => by simp [stt] at h; obtain ⟨rfl, rfl⟩ := h; exact ⟨rfl, fun f hf => by cases hf⟩
  | n + 1, fs, p, h => by
    simp only [stt, Option.bind_eq_some_iff] at h
    obtain ⟨⟨fs', p'⟩, h1, h2⟩ := h
    obtain ⟨i1, i2⟩ := stt_snds n h1
    by_cases h0 : (fopen (b.drop p')).1 = 0
    · rw [if_pos h0] at h2
      simp only [Option.some.injEq, Prod.mk.injEq] at h2
      obtain ⟨rfl, rfl⟩ := h2
      obtain ⟨_, _, k3, k4, _, k6, k7⟩ := fopen_ok h0
      have hl : (fopen (b.drop p')).2.1.2.length = ftold (b.drop p') := by rw [k6]; simp only [List.length_take, List.length_drop] at k4 ⊢; omega
      refine ⟨by rw [List.map_append, wsz_app, i1, k7]; simp only [List.map_cons, List.map_nil, wsz, hl, Nat.add_zero], fun f hf => ?_⟩
      rcases List.mem_append.1 hf with hf | hf
      · exact i2 f hf
      · simp only [List.mem_singleton] at hf; subst hf; rw [hl]; exact k3
    · rw [if_neg h0] at h2; cases h2
theorem wsz_take (rs : List (List UInt8)) (k : Nat) : wsz (rs.take k) ≤ wsz rs := by
  conv => rhs; rw [← List.take_append_drop k rs, wsz_app]
  omega
theorem wn_le (b : List UInt8) : wn b ≤ b.length ∧ 8 * (wrecs b).length ≤ b.length ∧ ∀ r ∈ wrecs b, r.length ≤ 4096 := by
  obtain ⟨fs, p, h⟩ := sc_exists b
  obtain ⟨h1, h2⟩ := stt_snds _ h.1
  have hp := (stt_len b _ h.1).2.1
  have hw : ∃ K, wones (wscan b) = fs.take K := by
    rw [wscan_of h]
    refine ⟨(wones fs).length, ?_⟩
    unfold wones
    exact (List.prefix_iff_eq_take.1 (List.takeWhile_prefix _))
  obtain ⟨K, hK⟩ := hw
  have e : wrecs b = (fs.map Prod.snd).take K := by unfold wrecs; rw [hK, List.map_take]
  have hn : wn b ≤ b.length := by
    unfold wn; rw [e]
    have := wsz_take (fs.map Prod.snd) K
    omega
  refine ⟨hn, ?_, fun r hr => ?_⟩
  · have := wsz_len (wrecs b)
    unfold wn at hn
    omega
  · rw [e] at hr
    obtain ⟨f, hf, rfl⟩ := List.mem_map.1 (List.mem_of_mem_take hr)
    exact h2 f hf

end Go.Proofs.Ytlnoancjegifnaa
