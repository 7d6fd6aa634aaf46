/-
  Superblocks, plainly: what may be, how they are as octets, what is read of octets; one octet of them that is turned is told.
-/
import Derived.Test.YtliileemelcllaaDMath
import Derived.Test.YtliileemelcllaaNums
import Derived.Test.YtliileemelcllaaCFlip
namespace Go.Proofs.Ytliileemelcllaa
set_option linter.unusedVariables false

abbrev Blk := Int × Int × Int × Int × Int
def bls (b : Blk) : List Int := [b.1, b.2.1, b.2.2.1, b.2.2.2.1, b.2.2.2.2]
def bfit (n : Int) : Prop := 0 ≤ n ∧ n ≤ 1099511627776
instance (n : Int) : Decidable (bfit n) := by unfold bfit; infer_instance
def bok (b : Blk) : Prop := ∀ n ∈ bls b, bfit n
instance (b : Blk) : Decidable (bok b) := by unfold bok; infer_instance
def bzero : Blk := (0, 0, 0, 0, 0)
def scheck (b : Blk) : Int := if bok b then 0 else 4
def smark : List UInt8 := [116, 115, 98, 49]
def ocs (l : List Int) : List UInt8 := l.flatMap fun n => oc n.toNat 8
def shead (b : Blk) : List UInt8 := smark ++ ocs (bls b)
noncomputable def sencO (b : Blk) : List UInt8 := shead b ++ oc (sum (shead b)) 4 ++ List.replicate 16 0
open Classical in
noncomputable def senc (b : Blk) : List UInt8 × Int := if bok b then (sencO b, 0) else ([], 4)
def snum (x : List UInt8) (i : Nat) : Nat := numOf ((x.take (12 + 8 * i)).drop (4 + 8 * i))
def sblk (x : List UInt8) : Blk := (snum x 0, snum x 1, snum x 2, snum x 3, snum x 4)
def sfit (x : List UInt8) : Prop := ∀ i, i < 5 → snum x i ≤ 1099511627776
instance (x : List UInt8) : Decidable (sfit x) := by unfold sfit; infer_instance
noncomputable def soct (x : List UInt8) : Int :=
  if x.length ≠ 64 then 3 else if x.take 4 ≠ smark then 22 else if (x.take 48).drop 44 ≠ oc (sum (x.take 44)) 4 then 21 else if x.drop 48 ≠ List.replicate 16 0 then 23 else 0
noncomputable def sdec (x : List UInt8) : Blk × Int := if soct x ≠ 0 then (bzero, soct x) else if ¬ sfit x then (bzero, 4) else (sblk x, 0)
noncomputable def spick (a b : List UInt8) : Blk × Int × Int :=
  if (sdec a).2 ≠ 0 ∧ (sdec b).2 ≠ 0 then (bzero, 0, 21) else if (sdec a).2 ≠ 0 ∨ ((sdec b).2 = 0 ∧ (sdec a).1.1 < (sdec b).1.1) then ((sdec b).1, 1, 0) else ((sdec a).1, 0, 0)
def sdisk (d : Dsk) : Int := if dcheck d ≠ 0 then dcheck d else if d.1.length < 2 then 41 else 0
noncomputable def sload (d : Dsk) : Blk × Int × Int := if sdisk d ≠ 0 then (bzero, 0, sdisk d) else spick (dget d 0).1 (dget d 1).1
noncomputable def sstore (d : Dsk) (b : Blk) : Dsk × Int :=
  if sdisk d ≠ 0 then (([], []), sdisk d) else if (senc b).2 ≠ 0 then (([], []), (senc b).2) else
    if (dput d (b.1.tmod 2) (senc b).1).2 ≠ 0 then (([], []), (dput d (b.1.tmod 2) (senc b).1).2) else dflush (dput d (b.1.tmod 2) (senc b).1).1

theorem senc_ok {b : Blk} (h : bok b) : senc b = (sencO b, 0) := if_pos h
theorem senc_no {b : Blk} (h : ¬ bok b) : senc b = ([], 4) := if_neg h
theorem ocs_len (l : List Int) : (ocs l).length = 8 * l.length := by
  induction l with
  | nil => rfl
  | cons x r ih =>
    unfold ocs at *
    rw [List.flatMap_cons, List.length_append, oc_length, ih, List.length_cons]; omega
theorem ocs_app (a b : List Int) : ocs (a ++ b) = ocs a ++ ocs b := by unfold ocs; rw [List.flatMap_append]
theorem ocs_cons (a : Int) (b : List Int) : ocs (a :: b) = oc a.toNat 8 ++ ocs b := by unfold ocs; rw [List.flatMap_cons]
theorem shead_len (b : Blk) : (shead b).length = 44 := by
  unfold shead
  rw [List.length_append, ocs_len]; rfl
theorem sencO_len (b : Blk) : (sencO b).length = 64 := by
  unfold sencO
  rw [List.length_append, List.length_append, shead_len, oc_length, List.length_replicate]
theorem senc_take4 (b : Blk) : (sencO b).take 4 = smark := by
  unfold sencO shead
  rw [List.append_assoc, List.append_assoc, List.take_left' (by rfl)]
theorem senc_take44 (b : Blk) : (sencO b).take 44 = shead b := by
  unfold sencO
  rw [List.append_assoc, List.take_left' (shead_len b)]
theorem senc_mid (b : Blk) : ((sencO b).take 48).drop 44 = oc (sum (shead b)) 4 := by
  unfold sencO
  rw [List.take_left' (by rw [List.length_append, shead_len, oc_length]), List.drop_left' (shead_len b)]
theorem senc_tail (b : Blk) : (sencO b).drop 48 = List.replicate 16 0 := by
  unfold sencO
  rw [List.drop_left' (by rw [List.length_append, shead_len, oc_length])]
theorem ocs_at (l : List Int) (c : List UInt8) : ∀ (i : Nat) (n : Int), l[i]? = some n → ((ocs l ++ c).take (8 + 8 * i)).drop (8 * i) = oc n.toNat 8 := by
  induction l with
  | nil => intro i n h; simp at h
  | cons x r ih =>
    intro i n h
    rw [ocs_cons, List.append_assoc]
    cases i with
    | zero =>
      simp only [List.getElem?_cons_zero, Option.some.injEq] at h
      subst h
      rw [Nat.mul_zero, List.drop_zero, Nat.add_zero, List.take_left' (oc_length _ _)]
    | succ i =>
      have := ih i n (by simpa using h)
      rw [List.take_append, List.drop_append, oc_length, List.drop_eq_nil_of_le (by rw [List.length_take, oc_length]; omega), List.nil_append, List.length_take, oc_length]
      rw [show min (8 + 8 * (i + 1)) 8 = 8 by omega, show 8 + 8 * (i + 1) - 8 = 8 + 8 * i by omega, show 8 * (i + 1) - 8 = 8 * i by omega]
      exact this
theorem senc_num {b : Blk} (h : bok b) (i : Nat) (n : Int) (hi : (bls b)[i]? = some n) : (snum (sencO b) i : Int) = n := by
  have hn : bfit n := h n (List.mem_of_getElem? hi)
  have hil : i < 5 := (List.getElem?_eq_some_iff.1 hi).1
  unfold snum
  have e : ((sencO b).take (12 + 8 * i)).drop (4 + 8 * i) = oc n.toNat 8 := by
    rw [← ocs_at (bls b) (oc (sum (shead b)) 4 ++ List.replicate 16 0) i n hi]
    unfold sencO
    conv => lhs; unfold shead
    rw [List.append_assoc, List.append_assoc, List.take_append, List.drop_append, List.drop_eq_nil_of_le (by rw [List.length_take]; show min _ 4 ≤ _; omega), List.nil_append, List.length_take]
    rw [show smark.length = 4 from rfl, show min (12 + 8 * i) 4 = 4 by omega, show 12 + 8 * i - 4 = 8 + 8 * i by omega, show 4 + 8 * i - 4 = 8 * i by omega]
    rfl
  rw [e, numOf_oc _ _ (by unfold bfit at hn; omega)]
  unfold bfit at hn
  omega
theorem soct_enc (b : Blk) : soct (sencO b) = 0 := by
  unfold soct
  rw [if_neg (fun h => h (sencO_len b)), if_neg (fun h => h (senc_take4 b)), if_neg (fun h => h (by rw [senc_mid, senc_take44])), if_neg (fun h => h (senc_tail b))]
theorem sdec_enc {b : Blk} (h : bok b) : sdec (sencO b) = (b, 0) := by
  have hn := senc_num h
  unfold sdec
  have e : sblk (sencO b) = b := by
    obtain ⟨a0, a1, a2, a3, a4⟩ := b
    unfold sblk
    rw [hn 0 a0 rfl, hn 1 a1 rfl, hn 2 a2 rfl, hn 3 a3 rfl, hn 4 a4 rfl]
  rw [if_neg (fun h => h (soct_enc b)), if_neg, e]
  intro hf
  refine hf fun i hi => ?_
  obtain ⟨n, hn'⟩ : ∃ n, (bls b)[i]? = some n := ⟨_, List.getElem?_eq_getElem (show i < (bls b).length from hi)⟩
  have := hn i n hn'
  have := h n (List.mem_of_getElem? hn')
  unfold bfit at this
  omega
theorem soct_zero {x : List UInt8} (h : soct x = 0) : x.length = 64 ∧ x.take 4 = smark ∧ (x.take 48).drop 44 = oc (sum (x.take 44)) 4 ∧ x.drop 48 = List.replicate 16 0 := by
  unfold soct at h
  by_cases h1 : x.length ≠ 64
  · rw [if_pos h1] at h; cases h
  · rw [if_neg h1] at h
    by_cases h2 : x.take 4 ≠ smark
    · rw [if_pos h2] at h; cases h
    · rw [if_neg h2] at h
      by_cases h3 : (x.take 48).drop 44 ≠ oc (sum (x.take 44)) 4
      · rw [if_pos h3] at h; cases h
      · rw [if_neg h3] at h
        by_cases h4 : x.drop 48 ≠ List.replicate 16 0
        · rw [if_pos h4] at h; cases h
        · exact ⟨Decidable.not_not.1 h1, Decidable.not_not.1 h2, Decidable.not_not.1 h3, Decidable.not_not.1 h4⟩
theorem sdec_zero {x : List UInt8} (h : (sdec x).2 = 0) : soct x = 0 := by
  unfold sdec at h
  by_cases h1 : soct x ≠ 0
  · rw [if_pos h1] at h; exact absurd h h1
  · exact Decidable.not_not.1 h1

/-- one octet turned by c -/
def fx (xs : List UInt8) (k : Nat) (c : UInt8) : List UInt8 := xs.set k (xs.getD k 0 ^^^ c)
theorem fx_len (xs : List UInt8) (k : Nat) (c : UInt8) : (fx xs k c).length = xs.length := by simp [fx]
theorem fx_num (xs : List UInt8) (c : UInt8) : ∀ k, k < xs.length → num (fx xs k c) = num xs ^^^ 2 ^ (8 * k) * c.toNat := by
  induction xs with
  | nil => intro k h; simp at h
  | cons x xs ih =>
    intro k h
    cases k with
    | zero =>
      show num ((x ^^^ c) :: xs) = _
      rw [num, num, UInt8.toNat_xor, Nat.xor_assoc, Nat.xor_comm c.toNat, ← Nat.xor_assoc, Nat.mul_zero, Nat.pow_zero, Nat.one_mul]
    | succ k =>
      have := ih k (by simpa using h)
      unfold fx at this ⊢
      show num (x :: xs.set k (xs.getD k 0 ^^^ c)) = _
      rw [num, num, this, mul_xor, ← Nat.xor_assoc, show 8 * (k + 1) = 8 + 8 * k by omega, Nat.pow_add, Nat.mul_assoc]
theorem c_ne {c : UInt8} (h : c ≠ 0) : c.toNat ≠ 0 := fun e => h (UInt8.toNat_inj.1 (by rw [e]; rfl))
theorem fx_ne (xs : List UInt8) (k : Nat) {c : UInt8} (h : k < xs.length) (hc : c ≠ 0) : fx xs k c ≠ xs := by
  intro e
  have h1 := fx_num xs c k h
  rw [e] at h1
  have h2 := congrArg (num xs ^^^ ·) h1
  simp only [Nat.xor_self, xor_back] at h2
  have h3 := Nat.mul_pos (Nat.two_pow_pos (8 * k)) (Nat.pos_of_ne_zero (c_ne hc))
  omega
set_option maxRecDepth 100000 in
theorem fx_sum (xs : List UInt8) (k : Nat) {c : UInt8} (h : k < xs.length) (hc : c ≠ 0) : sum (fx xs k c) ≠ sum xs :=
  turned (at_ := 8 * k) (t := c.toNat) (fx_len xs k c) (fx_num xs c k h) (by omega) (by have := c.toNat_lt; unfold M32; omega) (c_ne hc)
theorem getD_take (xs : List UInt8) (k n : Nat) (h : k < n) : (xs.take n).getD k 0 = xs.getD k 0 := by
  simp [List.getD_eq_getElem?_getD, h]
theorem fx_take_lt (xs : List UInt8) (k n : Nat) (c : UInt8) (h : k < n) : (fx xs k c).take n = fx (xs.take n) k c := by
  unfold fx
  rw [List.take_set, getD_take xs k n h]
theorem fx_take_ge (xs : List UInt8) (k n : Nat) (c : UInt8) (h : n ≤ k) : (fx xs k c).take n = xs.take n := by
  unfold fx; rw [List.take_set_of_le h]
theorem fx_drop_ge (xs : List UInt8) (k n : Nat) (c : UInt8) (h : n ≤ k) : (fx xs k c).drop n = fx (xs.drop n) (k - n) c := by
  unfold fx
  rw [List.drop_set, if_neg (by omega)]
  congr 2
  simp [List.getD_eq_getElem?_getD, show n + (k - n) = k by omega]
theorem fx_drop_lt (xs : List UInt8) (k n : Nat) (c : UInt8) (h : k < n) : (fx xs k c).drop n = xs.drop n := by
  unfold fx; rw [List.drop_set_of_lt h]
theorem oc_inj4 {a b : Nat} (ha : a < M32) (hb : b < M32) (h : oc a 4 = oc b 4) : a = b := by
  have := congrArg numOf h
  unfold M32 at ha hb
  rw [numOf_oc _ _ (by omega), numOf_oc _ _ (by omega)] at this
  exact this
/-- P6.3, P6.5: one octet of a block that is turned is told -/
theorem sdec_turned (b : Blk) {k : Nat} {c : UInt8} (hk : k < 64) (hc : c ≠ 0) : (sdec (fx (sencO b) k c)).2 ≠ 0 := by
  intro h0
  obtain ⟨h1, h2, h3, h4⟩ := soct_zero (sdec_zero h0)
  have hl := sencO_len b
  by_cases k1 : k < 4
  · rw [fx_take_lt _ _ _ _ k1, senc_take4] at h2
    exact fx_ne smark k (show k < 4 from k1) hc h2
  · by_cases k2 : k < 44
    · rw [fx_take_lt _ _ _ _ (by omega), fx_drop_lt _ _ _ _ (by omega), senc_mid, fx_take_lt _ _ _ _ k2, senc_take44] at h3
      exact fx_sum (shead b) k (by rw [shead_len]; exact k2) hc (oc_inj4 (sum_lt _) (sum_lt _) h3).symm
    · by_cases k3 : k < 48
      · rw [fx_take_lt _ _ _ _ k3, fx_drop_ge _ _ _ _ (by omega), senc_mid, fx_take_ge _ _ _ _ (by omega), senc_take44] at h3
        exact fx_ne _ (k - 44) (by rw [oc_length]; omega) hc h3
      · rw [fx_drop_ge _ _ _ _ (by omega), senc_tail] at h4
        exact fx_ne _ (k - 48) (by rw [List.length_replicate]; omega) hc h4

end Go.Proofs.Ytliileemelcllaa
