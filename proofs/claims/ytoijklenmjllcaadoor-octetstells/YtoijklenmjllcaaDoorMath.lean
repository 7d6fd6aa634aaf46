/-
  Plain facts on octets: how many bits are 1, octets turned, in how many bits two lists differ. Nothing of the program is named.
-/
import Derived.Lib.BitFns
import Derived.Laws.BitsAllLaws
import Derived.Test.YtoijklenmjllcaaDoorBase
namespace Go.Proofs.YtoijklenmjllcaaDoor
set_option linter.unusedVariables false

/-- how many bits of an octet are 1 -/
def pc (x : UInt8) : Nat := Lib.onesCount x.toNat
theorem pc_le (x : UInt8) : pc x ≤ 8 := Lib.onesCount_le8 ⟨x.toNat, x.toNat_lt⟩

/-- an octet's bits the other way round -/
def rv (x : UInt8) : UInt8 := UInt8.ofNat (Lib.rev8 x.toNat).toNat
theorem rev8_lt : ∀ n : Fin 256, 0 ≤ Lib.rev8 (n.val : Int) ∧ Lib.rev8 (n.val : Int) ≤ 255 := by decide +kernel
theorem rv_toNat (x : UInt8) : ((rv x).toNat : Int) = Lib.rev8 x.toNat := by
  have h := rev8_lt ⟨x.toNat, x.toNat_lt⟩
  simp only at h
  unfold rv
  rw [UInt8.toNat_ofNat_of_lt' (by show _ < 256; omega)]
  omega
theorem rv_rv_fin : ∀ n : Fin 256, Lib.rev8 (Lib.rev8 (n.val : Int)) = (n.val : Int) := by decide +kernel
theorem pc_rv_fin : ∀ n : Fin 256, Lib.onesCount (Lib.rev8 (n.val : Int)).toNat = Lib.onesCount n.val := by decide +kernel
theorem rv_rv (x : UInt8) : rv (rv x) = x := by
  apply UInt8.toNat_inj.1
  have h := rv_rv_fin ⟨x.toNat, x.toNat_lt⟩
  simp only at h
  have e := rv_toNat (rv x)
  rw [rv_toNat x, h] at e
  omega
theorem pc_rv (x : UInt8) : pc (rv x) = pc x := by
  have h := pc_rv_fin ⟨x.toNat, x.toNat_lt⟩
  simp only at h
  unfold pc
  rw [← h, ← rv_toNat]
  simp

/-- the weight of the first k octets -/
def wtTo (xs : List UInt8) : Nat → Nat
  | 0 => 0
  | k + 1 => wtTo xs k + pc (xs.getD k 0)
def wt (xs : List UInt8) : Nat := wtTo xs xs.length
/-- the distance of the first k octets -/
def apTo (xs ys : List UInt8) : Nat → Nat
  | 0 => 0
  | k + 1 => apTo xs ys k + pc (xs.getD k 0 ^^^ ys.getD k 0)
def ap (xs ys : List UInt8) : Nat := apTo xs ys xs.length

theorem wtTo_le (xs : List UInt8) (k : Nat) : wtTo xs k ≤ 8 * k := by
  induction k with
  | zero => simp [wtTo]
  | succ k ih => have := pc_le (xs.getD k 0); simp only [wtTo]; omega
theorem apTo_le (xs ys : List UInt8) (k : Nat) : apTo xs ys k ≤ 8 * k := by
  induction k with
  | zero => simp [apTo]
  | succ k ih => have := pc_le (xs.getD k 0 ^^^ ys.getD k 0); simp only [apTo]; omega

theorem xor_mod2 (x y : Nat) : (x ^^^ y) % 2 = (x + y) % 2 := by
  have h : (x ^^^ y) % 2 = x % 2 ^^^ y % 2 := by simpa using Nat.xor_mod_two_pow (a := x) (b := y) (n := 1)
  rw [h]
  rcases Nat.mod_two_eq_zero_or_one x with hx | hx <;> rcases Nat.mod_two_eq_zero_or_one y with hy | hy <;> rw [hx, hy] <;> simp <;> omega
theorem popAux_xor (f x y : Nat) : Lib.popAux f (x ^^^ y) ≤ Lib.popAux f x + Lib.popAux f y := by
  induction f generalizing x y with
  | zero => simp [Lib.popAux]
  | succ f ih =>
    simp only [Lib.popAux]
    have h := ih (x / 2) (y / 2)
    rw [← Nat.xor_div_two] at h
    have e := xor_mod2 x y
    omega
theorem pc_xor_le (x y : UInt8) : pc (x ^^^ y) ≤ pc x + pc y := by
  unfold pc Lib.onesCount
  rw [UInt8.toNat_xor]
  exact popAux_xor _ _ _
theorem pc_tri (x y z : UInt8) : pc (x ^^^ z) ≤ pc (x ^^^ y) + pc (y ^^^ z) := by
  have h := pc_xor_le (x ^^^ y) (y ^^^ z)
  have e : (x ^^^ y) ^^^ (y ^^^ z) = x ^^^ z := by
    rw [UInt8.xor_assoc, ← UInt8.xor_assoc y y z, UInt8.xor_self, UInt8.zero_xor]
  rwa [e] at h
theorem pc_zero_fin : ∀ n : Fin 256, Lib.onesCount n.val = 0 → n.val = 0 := by decide +kernel
theorem pc_eq_zero {x : UInt8} (h : pc x = 0) : x = 0 := by
  have := pc_zero_fin ⟨x.toNat, x.toNat_lt⟩ h
  exact UInt8.toNat_inj.1 this
theorem pc_zero : pc 0 = 0 := by decide

theorem apTo_comm (xs ys : List UInt8) (k : Nat) : apTo xs ys k = apTo ys xs k := by
  induction k with
  | zero => rfl
  | succ k ih => simp only [apTo, ih, UInt8.xor_comm]
theorem apTo_tri (xs ys zs : List UInt8) (k : Nat) : apTo xs zs k ≤ apTo xs ys k + apTo ys zs k := by
  induction k with
  | zero => simp [apTo]
  | succ k ih => have := pc_tri (xs.getD k 0) (ys.getD k 0) (zs.getD k 0); simp only [apTo]; omega
theorem apTo_self (xs : List UInt8) (k : Nat) : apTo xs xs k = 0 := by
  induction k with
  | zero => rfl
  | succ k ih => simp [apTo, ih, UInt8.xor_self, pc_zero]
theorem apTo_zero {xs ys : List UInt8} {k : Nat} (h : apTo xs ys k = 0) : sameTo xs ys k := by
  induction k with
  | zero => exact sameTo_zero _ _
  | succ k ih =>
    simp only [apTo] at h
    refine sameTo_succ (ih (by omega)) ?_
    have h0 := pc_eq_zero (x := xs.getD k 0 ^^^ ys.getD k 0) (by omega)
    have : xs.getD k 0 = ys.getD k 0 := UInt8.xor_eq_zero_iff.1 h0
    unfold bt; rw [this]
theorem getD_replicate_zero (n k : Nat) : (List.replicate n (0 : UInt8)).getD k 0 = 0 := by
  by_cases h : k < n <;> simp [h]
theorem apTo_zeros (xs : List UInt8) (n k : Nat) : apTo xs (List.replicate n 0) k = wtTo xs k := by
  induction k with
  | zero => rfl
  | succ k ih => simp only [apTo, wtTo, ih, getD_replicate_zero, UInt8.xor_zero]

theorem ap_comm (xs ys : List UInt8) (h : xs.length = ys.length) : ap xs ys = ap ys xs := by
  unfold ap; rw [apTo_comm, h]
theorem ap_tri (xs ys zs : List UInt8) (h : xs.length = ys.length) : ap xs zs ≤ ap xs ys + ap ys zs := by
  unfold ap; rw [← h]; exact apTo_tri _ _ _ _
theorem ap_same (xs ys : List UInt8) (h : xs.length = ys.length) : (ap xs ys = 0) ↔ sameB xs ys = true := by
  constructor
  · intro h0; exact sameB_of h (apTo_zero h0)
  · intro h0
    have : xs = ys := by simpa [sameB] using h0
    subst this; exact apTo_self _ _
theorem ap_zeros (xs : List UInt8) : ap xs (List.replicate xs.length 0) = wt xs := apTo_zeros _ _ _
theorem ap_le (xs ys : List UInt8) : ap xs ys ≤ 8 * xs.length := apTo_le _ _ _
theorem wt_le (xs : List UInt8) : wt xs ≤ 8 * xs.length := wtTo_le _ _

/-- the octets turned -/
def tn (xs : List UInt8) : List UInt8 := (xs.map rv).reverse
theorem tn_length (xs : List UInt8) : (tn xs).length = xs.length := by simp [tn]
theorem tn_tn (xs : List UInt8) : tn (tn xs) = xs := by
  unfold tn
  rw [List.map_reverse, List.reverse_reverse, List.map_map]
  rw [show (rv ∘ rv) = id from funext rv_rv]; simp
theorem wtTo_append (xs : List UInt8) (y : UInt8) (k : Nat) (h : k ≤ xs.length) : wtTo (xs ++ [y]) k = wtTo xs k := by
  induction k with
  | zero => rfl
  | succ k ih =>
    simp only [wtTo]
    rw [ih (by omega)]
    congr 2
    simp [List.getElem?_append_left (show k < xs.length by omega)]
theorem wt_append (xs : List UInt8) (y : UInt8) : wt (xs ++ [y]) = wt xs + pc y := by
  unfold wt
  simp only [List.length_append, List.length_singleton, wtTo]
  rw [wtTo_append _ _ _ (Nat.le_refl _)]
  simp
def wtR : List UInt8 → Nat
  | [] => 0
  | x :: r => pc x + wtR r
theorem wtR_append (xs ys : List UInt8) : wtR (xs ++ ys) = wtR xs + wtR ys := by
  induction xs with
  | nil => simp [wtR]
  | cons x r ih => simp only [List.cons_append, wtR, ih]; omega
theorem wtR_reverse (xs : List UInt8) : wtR xs.reverse = wtR xs := by
  induction xs with
  | nil => rfl
  | cons x r ih => rw [List.reverse_cons, wtR_append, ih]; simp only [wtR]; omega
theorem wt_eq_rev (xs : List UInt8) : wt xs.reverse = wtR xs := by
  induction xs with
  | nil => rfl
  | cons x r ih => rw [List.reverse_cons, wt_append, ih]; simp only [wtR]; omega
theorem wt_eq (xs : List UInt8) : wt xs = wtR xs := by
  have := wt_eq_rev xs.reverse
  rw [List.reverse_reverse, wtR_reverse] at this
  exact this
theorem wtR_rv (xs : List UInt8) : wtR (xs.map rv) = wtR xs := by
  induction xs with
  | nil => rfl
  | cons x r ih => simp only [List.map_cons, wtR, ih, pc_rv]
theorem wt_tn (xs : List UInt8) : wt (tn xs) = wt xs := by
  rw [wt_eq, wt_eq]; unfold tn; rw [wtR_reverse, wtR_rv]

/-- what Go's own operations on octets come to -/
theorem bt_xor (xs ys : List UInt8) (i : Nat) : bits .xor .u8 (bt xs i) (bt ys i) = ((xs.getD i 0 ^^^ ys.getD i 0).toNat : Int) := by
  unfold bt
  rw [u8_xor_nat _ _ (UInt8.toNat_lt _) (UInt8.toNat_lt _), UInt8.toNat_xor]

end Go.Proofs.YtoijklenmjllcaaDoor
