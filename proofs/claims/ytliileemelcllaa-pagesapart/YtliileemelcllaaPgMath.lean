/-
  Pages, plainly: a page as octets, octets read as one, a page on a disk. Nothing of the program is named.
-/
import Derived.Test.YtliileemelcllaaSMath
namespace Go.Proofs.Ytliileemelcllaa
set_option linter.unusedVariables false

def pgmark : List UInt8 := [112, 103]
def pghead (id : Nat) (d : List UInt8) : List UInt8 := pgmark ++ oc d.length 2 ++ oc id 4 ++ d ++ List.replicate (244 - d.length) 0
noncomputable def pgencO (id : Nat) (d : List UInt8) : List UInt8 := pghead id d ++ oc (sum (pghead id d)) 4
noncomputable def pgenc (id : Int) (d : List UInt8) : List UInt8 × Int :=
  if id < 0 ∨ 2147483647 < id then ([], 4) else if 244 < d.length then ([], 5) else (pgencO id.toNat d, 0)
def pgn (b : List UInt8) : Nat := numOf ((b.take 4).drop 2)
def pgid (b : List UInt8) : Nat := numOf ((b.take 8).drop 4)
noncomputable def pgdec (b : List UInt8) : Int × List UInt8 × Int :=
  if b.length ≠ 256 then (0, [], 3) else if numOf (b.drop 252) ≠ sum (b.take 252) then (0, [], 21) else if b.take 2 ≠ pgmark then (0, [], 22) else
    if 244 < pgn b then (0, [], 5) else if 2147483647 < pgid b then (0, [], 4) else
      if (b.take 252).drop (8 + pgn b) ≠ List.replicate (244 - pgn b) 0 then (0, [], 23) else (pgid b, (b.take (8 + pgn b)).drop 8, 0)
def pgsect (d : Dsk) (at' : Int) : Int := if ¬ DOk d then 9 else if at' < 0 ∨ (d.1.length : Int) - 4 < at' then 41 else 0
/-- the i-th sector of a page -/
def psec (b : List UInt8) (i : Nat) : List UInt8 := (b.take (64 * i + 64)).drop (64 * i)
/-- the first k sectors of a page, as writes -/
def pws (at' : Int) (b : List UInt8) : Nat → List Wrt
  | 0 => []
  | k + 1 => pws at' b k ++ [(at' + k, psec b k)]
noncomputable def pgwrite (d : Dsk) (at' id : Int) (x : List UInt8) : Dsk × Int :=
  if pgsect d at' ≠ 0 then (([], []), pgsect d at') else if (pgenc id x).2 ≠ 0 then (([], []), (pgenc id x).2) else
    if 4092 < d.2.length then (([], []), 51) else ((d.1, d.2 ++ pws at' (pgenc id x).1 4), 0)
/-- the first k sectors from at' on, as they are got -/
def pgot (d : Dsk) (at' : Int) : Nat → List UInt8
  | 0 => []
  | k + 1 => pgot d at' k ++ (dget d (at' + k)).1
noncomputable def pgread (d : Dsk) (at' id : Int) : List UInt8 × Int :=
  if pgsect d at' ≠ 0 then ([], pgsect d at') else if (pgdec (pgot d at' 4)).2.2 ≠ 0 ∨ (pgdec (pgot d at' 4)).1 ≠ id then ([], 21) else ((pgdec (pgot d at' 4)).2.1, 0)

theorem pghead_len (id : Nat) {d : List UInt8} (h : d.length ≤ 244) : (pghead id d).length = 252 := by
  unfold pghead
  simp only [List.length_append, oc_length, List.length_replicate]
  show 2 + 2 + 4 + _ + _ = _
  omega
theorem pgenc_len (id : Nat) {d : List UInt8} (h : d.length ≤ 244) : (pgencO id d).length = 256 := by
  unfold pgencO
  rw [List.length_append, pghead_len id h, oc_length]
theorem pgenc_range {id : Int} {d : List UInt8} (h : id < 0 ∨ 2147483647 < id) : pgenc id d = ([], 4) := if_pos h
theorem pgenc_long {id : Int} {d : List UInt8} (h : ¬ (id < 0 ∨ 2147483647 < id)) (h2 : 244 < d.length) : pgenc id d = ([], 5) := by unfold pgenc; rw [if_neg h, if_pos h2]
theorem pgenc_yes {id : Int} {d : List UInt8} (h : ¬ (id < 0 ∨ 2147483647 < id)) (h2 : ¬ 244 < d.length) : pgenc id d = (pgencO id.toNat d, 0) := by unfold pgenc; rw [if_neg h, if_neg h2]
theorem pgenc_zero {id : Int} {d : List UInt8} (h : (pgenc id d).2 = 0) : (0 ≤ id ∧ id ≤ 2147483647) ∧ d.length ≤ 244 ∧ pgenc id d = (pgencO id.toNat d, 0) := by
  by_cases h1 : id < 0 ∨ 2147483647 < id
  · rw [pgenc_range h1] at h; cases h
  · by_cases h2 : 244 < d.length
    · rw [pgenc_long h1 h2] at h; cases h
    · exact ⟨by omega, by omega, pgenc_yes h1 h2⟩
theorem pgenc_le (id : Int) (d : List UInt8) : (pgenc id d).1.length ≤ 256 := by
  by_cases h1 : id < 0 ∨ 2147483647 < id
  · rw [pgenc_range h1]; simp
  · by_cases h2 : 244 < d.length
    · rw [pgenc_long h1 h2]; simp
    · rw [pgenc_yes h1 h2]; exact Nat.le_of_eq (pgenc_len _ (by omega))
theorem cut_mid {α : Type} (a b c : List α) {i j : Nat} (hi : a.length = i) (hj : a.length + b.length = j) : ((a ++ b ++ c).take j).drop i = b := by
  rw [List.take_left' (by rw [List.length_append]; omega), List.drop_left' hi]
theorem pg_take252 (id : Nat) {d : List UInt8} (h : d.length ≤ 244) : (pgencO id d).take 252 = pghead id d := by
  unfold pgencO; rw [List.take_left' (pghead_len id h)]
theorem pg_drop252 (id : Nat) {d : List UInt8} (h : d.length ≤ 244) : (pgencO id d).drop 252 = oc (sum (pghead id d)) 4 := by
  unfold pgencO; rw [List.drop_left' (pghead_len id h)]
theorem pg_shape (id : Nat) (d : List UInt8) : pgencO id d = pgmark ++ (oc d.length 2 ++ (oc id 4 ++ (d ++ (List.replicate (244 - d.length) 0 ++ oc (sum (pghead id d)) 4)))) := by
  unfold pgencO
  conv => lhs; unfold pghead
  simp only [List.append_assoc]
  rfl
theorem pg_take2 (id : Nat) (d : List UInt8) : (pgencO id d).take 2 = pgmark := by
  rw [pg_shape, List.take_left' (show pgmark.length = 2 from rfl)]
theorem pg_n (id : Nat) {d : List UInt8} (h : d.length ≤ 244) : pgn (pgencO id d) = d.length := by
  unfold pgn
  rw [pg_shape, ← List.append_assoc, cut_mid pgmark (oc d.length 2) _ (show pgmark.length = 2 from rfl) (show pgmark.length + (oc d.length 2).length = 4 by rw [oc_length]; rfl), numOf_oc _ _ (by omega)]
theorem pg_id {id : Nat} (d : List UInt8) (h : id ≤ 2147483647) : pgid (pgencO id d) = id := by
  unfold pgid
  rw [pg_shape, ← List.append_assoc, ← List.append_assoc, cut_mid (pgmark ++ oc d.length 2) (oc id 4) _ (show (pgmark ++ oc d.length 2).length = 4 by rw [List.length_append, oc_length]; rfl) (show (pgmark ++ oc d.length 2).length + (oc id 4).length = 8 by rw [List.length_append, oc_length, oc_length]; rfl), numOf_oc _ _ (by omega)]
theorem pg_data (id : Nat) (d : List UInt8) : ((pgencO id d).take (8 + d.length)).drop 8 = d := by
  rw [pg_shape, ← List.append_assoc, ← List.append_assoc, ← List.append_assoc]
  exact cut_mid (pgmark ++ oc d.length 2 ++ oc id 4) d _ (by simp only [List.length_append, oc_length]; rfl) (by simp only [List.length_append, oc_length]; rfl)
theorem pg_tail (id : Nat) {d : List UInt8} (h : d.length ≤ 244) : ((pgencO id d).take 252).drop (8 + d.length) = List.replicate (244 - d.length) 0 := by
  rw [pg_take252 id h]
  unfold pghead
  exact List.drop_left' (by simp only [List.length_append, oc_length]; show 2 + 2 + 4 + _ = _; omega)
/-- P7.3: there and back -/
theorem pgdec_enc {id : Nat} {d : List UInt8} (h : id ≤ 2147483647) (hd : d.length ≤ 244) : pgdec (pgencO id d) = ((id : Int), d, 0) := by
  have hs := sum_lt (pghead id d)
  unfold M32 at hs
  unfold pgdec
  rw [if_neg (fun k => k (pgenc_len id hd)), if_neg (fun k => k (by rw [pg_drop252 id hd, pg_take252 id hd, numOf_oc _ _ (by omega)])), if_neg (fun k => k (pg_take2 id d)), pg_n id hd, pg_id d h, if_neg (by omega), if_neg (by omega), if_neg (fun k => k (pg_tail id hd)), pg_data id d]
theorem pgdec_sum {b : List UInt8} (h : (pgdec b).2.2 = 0) : b.length = 256 ∧ numOf (b.drop 252) = sum (b.take 252) := by
  unfold pgdec at h
  by_cases h1 : b.length ≠ 256
  · rw [if_pos h1] at h; cases h
  · rw [if_neg h1] at h
    by_cases h2 : numOf (b.drop 252) ≠ sum (b.take 252)
    · rw [if_pos h2] at h; cases h
    · exact ⟨Decidable.not_not.1 h1, Decidable.not_not.1 h2⟩
theorem pnumTo_inj (xs ys : List UInt8) (k : Nat) (h : numTo xs k = numTo ys k) : ∀ i, i < k → xs.getD i 0 = ys.getD i 0 := by
  induction k with
  | zero => intro i hi; omega
  | succ k ih =>
    simp only [numTo] at h
    have h1 := (xs.getD k 0).toNat_lt
    have h2 := (ys.getD k 0).toNat_lt
    intro i hi
    by_cases e : i = k
    · subst e; exact UInt8.toNat_inj.1 (by omega)
    · exact ih (by omega) i (by omega)
theorem pnumOf_inj {xs ys : List UInt8} (hl : xs.length = ys.length) (h : numOf xs = numOf ys) : xs = ys := by
  unfold numOf at h
  rw [hl] at h
  apply List.ext_getElem hl
  intro i h1 h2
  have := pnumTo_inj xs ys ys.length h i h2
  simpa [h1, h2] using this
/-- P7.5: one octet of a page that is turned is told -/
theorem pgdec_turned (id : Nat) {d : List UInt8} (hd : d.length ≤ 244) {k : Nat} {c : UInt8} (hk : k < 256) (hc : c ≠ 0) : (pgdec (fx (pgencO id d) k c)).2.2 ≠ 0 := by
  intro h0
  obtain ⟨h1, h2⟩ := pgdec_sum h0
  have hs := sum_lt (pghead id d)
  unfold M32 at hs
  by_cases k1 : k < 252
  · rw [fx_drop_lt _ _ _ _ k1, fx_take_lt _ _ _ _ k1, pg_drop252 id hd, pg_take252 id hd, numOf_oc _ _ (by omega)] at h2
    exact fx_sum (pghead id d) k (by rw [pghead_len id hd]; exact k1) hc h2.symm
  · rw [fx_drop_ge _ _ _ _ (by omega), fx_take_ge _ _ _ _ (by omega), pg_drop252 id hd, pg_take252 id hd] at h2
    refine fx_ne (oc (sum (pghead id d)) 4) (k - 252) (by rw [oc_length]; omega) hc (pnumOf_inj (by rw [fx_len]) ?_)
    rw [h2, numOf_oc _ _ (by omega)]
theorem psec_len {b : List UInt8} (h : b.length = 256) {i : Nat} (hi : i < 4) : (psec b i).length = 64 := by
  unfold psec; rw [List.length_drop, List.length_take]; omega
theorem psec_all {b : List UInt8} (h : b.length = 256) : psec b 0 ++ psec b 1 ++ psec b 2 ++ psec b 3 = b := by
  unfold psec
  have e : ∀ i j : Nat, i ≤ j → b.take i ++ (b.take j).drop i = b.take j := by
    intro i j hij
    conv => rhs; rw [← List.take_append_drop i (b.take j), List.take_take, Nat.min_eq_left hij]
  show (b.take 64).drop 0 ++ (b.take 128).drop 64 ++ (b.take 192).drop 128 ++ (b.take 256).drop 192 = b
  rw [List.drop_zero, e 64 128 (by omega), e 128 192 (by omega), e 192 256 (by omega), List.take_of_length_le (by omega)]
theorem pws_len (at' : Int) (b : List UInt8) : ∀ k, (pws at' b k).length = k
  | 0 => rfl
  | k + 1 => by rw [pws, List.length_append, pws_len at' b k]; rfl
theorem pws_mem {at' : Int} {b : List UInt8} : ∀ {k : Nat} {y : Wrt}, y ∈ pws at' b k → ∃ i : Nat, i < k ∧ y = (at' + i, psec b i)
  | 0, y, h => nomatch h
  | k + 1, y, h => by
    rw [pws, List.mem_append] at h
    rcases h with h | h
    · obtain ⟨i, hi, e⟩ := pws_mem h
      exact ⟨i, by omega, e⟩
    · simp only [List.mem_singleton] at h
      exact ⟨k, by omega, h⟩
theorem lastOf_app (k : Int) (x : List UInt8) (a b : List Wrt) : lastOf k x (a ++ b) = lastOf k (lastOf k x a) b := by unfold lastOf; rw [List.foldl_append]
theorem lastOf_pws (j at' : Int) (b x : List UInt8) : ∀ k, lastOf j x (pws at' b k) = if at' ≤ j ∧ j < at' + k then psec b (j - at').toNat else x
  | 0 => by
    rw [if_neg (by omega)]; rfl
  | k + 1 => by
    rw [pws, lastOf_app, lastOf_pws j at' b x k]
    show (if at' + k = j then psec b k else _) = _
    by_cases h : at' + k = j
    · rw [if_pos h, if_pos (by omega)]
      congr 1; omega
    · rw [if_neg h]
      by_cases h2 : at' ≤ j ∧ j < at' + k
      · rw [if_pos h2, if_pos (by omega)]
      · rw [if_neg h2, if_neg (by omega)]
theorem pgsect_0 {d : Dsk} {at' : Int} : pgsect d at' = 0 ↔ DOk d ∧ 0 ≤ at' ∧ at' ≤ (d.1.length : Int) - 4 := by
  unfold pgsect
  by_cases h : DOk d
  · rw [if_neg (fun k => k h)]
    by_cases h2 : at' < 0 ∨ (d.1.length : Int) - 4 < at'
    · rw [if_pos h2]
      exact ⟨fun e => (by cases e), fun e => (by omega)⟩
    · rw [if_neg h2]
      exact ⟨fun _ => ⟨h, by omega, by omega⟩, fun _ => rfl⟩
  · rw [if_pos h]
    exact ⟨fun e => (by cases e), fun e => absurd e.1 h⟩
/-- what is got of a disk that may be -/
theorem dget_at {d : Dsk} {k : Int} (h : DOk d) (h0 : 0 ≤ k) (h1 : k < d.1.length) : dget d k = (lastOf k (d.1.getD k.toNat []) d.2, 0) := by
  unfold dget; rw [if_neg (fun e => e (dsect_zero.2 ⟨h, h0, h1⟩))]
/-- a page's writes may be -/
theorem dok_write {d : Dsk} (h : DOk d) {at' : Int} {b : List UInt8} (hb : b.length = 256) (h0 : 0 ≤ at') (h1 : at' ≤ (d.1.length : Int) - 4) (hc : d.2.length ≤ 4092) : DOk (d.1, d.2 ++ pws at' b 4) := by
  refine ⟨h.1, h.2.1, ?_, h.2.2.2.1, ?_⟩
  · show (d.2 ++ _).length ≤ _
    rw [List.length_append, pws_len]; omega
  · intro y hy
    rcases List.mem_append.1 hy with hy | hy
    · exact h.2.2.2.2 y hy
    · obtain ⟨i, hi, rfl⟩ := pws_mem hy
      exact ⟨⟨by dsimp only; omega, by dsimp only; omega⟩, psec_len hb hi⟩
theorem pgwrite_yes {d : Dsk} {at' id : Int} {x : List UInt8} (h : DOk d) (h0 : 0 ≤ at') (h1 : at' ≤ (d.1.length : Int) - 4) (h2 : (pgenc id x).2 = 0) (hc : d.2.length ≤ 4092) : pgwrite d at' id x = ((d.1, d.2 ++ pws at' (pgencO id.toNat x) 4), 0) := by
  unfold pgwrite
  rw [if_neg (fun k => k (pgsect_0.2 ⟨h, h0, h1⟩)), if_neg (fun k => k h2), if_neg (by omega), (pgenc_zero h2).2.2]
/-- what is got behind a page that was written -/
theorem dget_write {d : Dsk} (h : DOk d) {at' : Int} {b : List UInt8} (hb : b.length = 256) (h0 : 0 ≤ at') (h1 : at' ≤ (d.1.length : Int) - 4) (hc : d.2.length ≤ 4092) {j : Int} (hj : 0 ≤ j) (hj1 : j < d.1.length) :
    (dget (d.1, d.2 ++ pws at' b 4) j).1 = if at' ≤ j ∧ j < at' + 4 then psec b (j - at').toNat else (dget d j).1 := by
  rw [dget_at (dok_write h hb h0 h1 hc) hj hj1, dget_at h hj hj1]
  dsimp only
  rw [lastOf_app, lastOf_pws]
  rfl
theorem pgot_write {d : Dsk} (h : DOk d) {at' : Int} {b : List UInt8} (hb : b.length = 256) (h0 : 0 ≤ at') (h1 : at' ≤ (d.1.length : Int) - 4) (hc : d.2.length ≤ 4092) : pgot (d.1, d.2 ++ pws at' b 4) at' 4 = b := by
  have e : ∀ i : Nat, i < 4 → (dget (d.1, d.2 ++ pws at' b 4) (at' + i)).1 = psec b i := by
    intro i hi
    rw [dget_write h hb h0 h1 hc (by omega) (by omega), if_pos (by omega)]
    congr 1; omega
  show ([] ++ (dget _ (at' + (0 : Nat))).1 ++ (dget _ (at' + (1 : Nat))).1 ++ (dget _ (at' + (2 : Nat))).1 ++ (dget _ (at' + (3 : Nat))).1) = b
  rw [e 0 (by decide), e 1 (by decide), e 2 (by decide), e 3 (by decide), List.nil_append, psec_all hb]
theorem pgot_other {d : Dsk} (h : DOk d) {at' : Int} {b : List UInt8} (hb : b.length = 256) (h0 : 0 ≤ at') (h1 : at' ≤ (d.1.length : Int) - 4) (hc : d.2.length ≤ 4092) {to' : Int} (t0 : 0 ≤ to') (t1 : to' ≤ (d.1.length : Int) - 4) (ht : to' + 4 ≤ at' ∨ at' + 4 ≤ to') : pgot (d.1, d.2 ++ pws at' b 4) to' 4 = pgot d to' 4 := by
  have e : ∀ i : Nat, i < 4 → (dget (d.1, d.2 ++ pws at' b 4) (to' + i)).1 = (dget d (to' + i)).1 := by
    intro i hi
    rw [dget_write h hb h0 h1 hc (by omega) (by omega), if_neg (by omega)]
  show ([] ++ (dget _ (to' + (0 : Nat))).1 ++ (dget _ (to' + (1 : Nat))).1 ++ (dget _ (to' + (2 : Nat))).1 ++ (dget _ (to' + (3 : Nat))).1) = ([] ++ (dget _ (to' + (0 : Nat))).1 ++ (dget _ (to' + (1 : Nat))).1 ++ (dget _ (to' + (2 : Nat))).1 ++ (dget _ (to' + (3 : Nat))).1)
  rw [e 0 (by decide), e 1 (by decide), e 2 (by decide), e 3 (by decide)]
/-- P7.3: what was written is read; by another id it is not -/
theorem pgread_back {d : Dsk} {at' id : Int} {x : List UInt8} (h : DOk d) (h0 : 0 ≤ at') (h1 : at' ≤ (d.1.length : Int) - 4) (h2 : (pgenc id x).2 = 0) (hc : d.2.length ≤ 4092) (other : Int) : pgread (pgwrite d at' id x).1 at' other = if other = id then (x, 0) else ([], 21) := by
  obtain ⟨⟨i0, i1⟩, hx, he⟩ := pgenc_zero h2
  have hb := pgenc_len id.toNat hx
  rw [pgwrite_yes h h0 h1 h2 hc]
  unfold pgread
  rw [if_neg (fun k => k (pgsect_0.2 ⟨dok_write h hb h0 h1 hc, h0, h1⟩)), pgot_write h hb h0 h1 hc, pgdec_enc (by omega) hx]
  dsimp only
  by_cases e : other = id
  · rw [if_pos e, if_neg]
    rintro (k | k)
    · exact k rfl
    · omega
  · rw [if_neg e, if_pos (.inr (by omega))]

end Go.Proofs.Ytliileemelcllaa
