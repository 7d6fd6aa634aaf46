/-
  Nodes, plain: how long one is, whether it may be, its octets, where a key is, its halves.
-/
import Derived.Test.YtgmkknonnidgaaaBase
namespace Go.Proofs.Ytgmkknonnidgaaa
set_option linter.unusedVariables false

abbrev Str := List UInt8
structure Nd where
  leaf : Bool
  keys : List Str
  vals : List Str
  kids : List Int
deriving DecidableEq

/-! the order of strings -/
abbrev slt (a b : Str) : Bool := Op.bytesLess a b
theorem slt_irr : ∀ a : Str, slt a a = false
  | [] => rfl
  | a :: x => by
    have := slt_irr x
    simp only [slt] at this
    simp [slt, Op.bytesLess, this]
theorem slt_nil : ∀ a : Str, slt a [] = false
  | [] => rfl
  | a :: x => rfl
theorem slt_cons (a b : UInt8) (x y : Str) : slt (a :: x) (b :: y) = true ↔ a < b ∨ (a = b ∧ slt x y = true) := by
  simp [slt, Op.bytesLess]
theorem slt_trans : ∀ {a b c : Str}, slt a b = true → slt b c = true → slt a c = true
  | [], [], c, h, k => k
  | [], b :: y, [], h, k => by simp [slt, Op.bytesLess] at k
  | [], b :: y, c :: z, h, k => by simp [slt, Op.bytesLess]
  | a :: x, [], c, h, k => by simp [slt, Op.bytesLess] at h
  | a :: x, b :: y, [], h, k => by simp [slt, Op.bytesLess] at k
  | a :: x, b :: y, c :: z, h, k => by
    rw [slt_cons] at h k ⊢
    rcases h with h | ⟨rfl, h⟩ <;> rcases k with k | ⟨rfl, k⟩
    · exact .inl (UInt8.lt_trans h k)
    · exact .inl h
    · exact .inl k
    · exact .inr ⟨rfl, slt_trans h k⟩
theorem slt_tot : ∀ (a b : Str), slt a b = true ∨ a = b ∨ slt b a = true
  | [], [] => .inr (.inl rfl)
  | [], b :: y => .inl rfl
  | a :: x, [] => .inr (.inr rfl)
  | a :: x, b :: y => by
    rw [slt_cons, slt_cons]
    rcases slt_tot x y with h | h | h <;> rcases UInt8.lt_or_lt_of_ne (a := a) (b := b) |> fun f => (Decidable.em (a = b)).imp id f with e | e | e
    · exact .inl (.inr ⟨e, h⟩)
    · exact .inl (.inl e)
    · exact .inr (.inr (.inl e))
    · exact .inr (.inl (by rw [e, h]))
    · exact .inl (.inl e)
    · exact .inr (.inr (.inl e))
    · exact .inr (.inr (.inr ⟨e.symm, h⟩))
    · exact .inl (.inl e)
    · exact .inr (.inr (.inl e))
theorem slt_asym {a b : Str} (h : slt a b = true) : slt b a = false := by
  cases hb : slt b a
  · rfl
  · have := slt_trans h hb; rw [slt_irr] at this; cases this
/-- a ≤ b as it is reckoned -/
theorem sle_iff (a b : Str) : (Op.bytesLess a b || a == b) = !(slt b a) := by
  rcases slt_tot a b with h | h | h
  · have h' : Op.bytesLess a b = true := h
    rw [h', slt_asym h]; rfl
  · subst h; rw [slt_irr]; simp
  · have h1 : Op.bytesLess a b = false := slt_asym h
    have h2 : (a == b) = false := by
      apply Bool.eq_false_iff.2
      intro e
      have : a = b := by simpa using e
      subst this; rw [slt_irr] at h; cases h
    rw [h1, h2, h]; rfl

/-! how long -/
def nsz (n : Nd) : Nat → Int
  | 0 => 2
  | k + 1 => nsz n k + (1 + ((n.keys[k]?.getD []).length : Int) + if n.leaf then 1 + ((n.vals[k]?.getD []).length : Int) else 0)
def nsize (n : Nd) : Int := nsz n n.keys.length + if n.leaf then 0 else 4 * (n.kids.length : Int)
theorem nsz_ge (n : Nd) : ∀ k : Nat, 2 + (k : Int) ≤ nsz n k
  | 0 => by simp [nsz]
  | k + 1 => by
    have := nsz_ge n k
    simp only [nsz]
    split <;> omega

/-! which node may be -/
/-- the k-th key -/
def nkey (n : Nd) (k : Nat) : Str := n.keys[k]?.getD []
def nkOk (n : Nd) (k : Nat) : Prop := 1 ≤ (nkey n k).length ∧ (nkey n k).length ≤ 32 ∧ (0 < k → slt (nkey n (k - 1)) (nkey n k) = true)
instance (n : Nd) (k : Nat) : Decidable (nkOk n k) := by unfold nkOk; infer_instance
def nkeys (n : Nd) (m : Nat) : Prop := ∀ k, k < m → nkOk n k
def ncount (n : Nd) : Prop := if n.leaf then n.vals.length = n.keys.length ∧ n.kids.length = 0 else n.vals.length = 0 ∧ 1 ≤ n.keys.length ∧ n.kids.length = n.keys.length + 1
def nvals (n : Nd) (m : Nat) : Prop := ∀ k, k < m → (n.vals[k]?.getD []).length ≤ 64
def nkids (n : Nd) (m : Nat) : Prop := ∀ k, k < m → 1 ≤ n.kids[k]?.getD 0 ∧ n.kids[k]?.getD 0 ≤ 65536
instance (n : Nd) (m : Nat) : Decidable (nkeys n m) := by unfold nkeys; infer_instance
instance (n : Nd) : Decidable (ncount n) := by unfold ncount; infer_instance
instance (n : Nd) (m : Nat) : Decidable (nvals n m) := by unfold nvals; infer_instance
instance (n : Nd) (m : Nat) : Decidable (nkids n m) := by unfold nkids; infer_instance
def ncheck (n : Nd) : Int :=
  if nkeys n n.keys.length then if ncount n then if nvals n n.vals.length then if nkids n n.kids.length then if 244 < nsize n then 51 else 0 else 4 else 5 else 3 else 91
def NOk (n : Nd) : Prop := nkeys n n.keys.length ∧ ncount n ∧ nvals n n.vals.length ∧ nkids n n.kids.length ∧ nsize n ≤ 244
theorem ncheck_ok (n : Nd) : ncheck n = 0 ↔ NOk n := by
  unfold ncheck NOk
  by_cases h1 : nkeys n n.keys.length <;> by_cases h2 : ncount n <;> by_cases h3 : nvals n n.vals.length <;> by_cases h4 : nkids n n.kids.length <;> by_cases h5 : 244 < nsize n <;> simp [h1, h2, h3, h4, h5] <;> omega
theorem nkeys_succ (n : Nd) (m : Nat) : nkeys n (m + 1) ↔ nkeys n m ∧ nkOk n m := by
  constructor
  · exact fun h => ⟨fun k hk => h k (by omega), h m (by omega)⟩
  · rintro ⟨h1, h2⟩ k hk
    by_cases e : k = m
    · subst e; exact h2
    · exact h1 k (by omega)
theorem nvals_succ (n : Nd) (m : Nat) : nvals n (m + 1) ↔ nvals n m ∧ (n.vals[m]?.getD []).length ≤ 64 := by
  constructor
  · exact fun h => ⟨fun k hk => h k (by omega), h m (by omega)⟩
  · rintro ⟨h1, h2⟩ k hk
    by_cases e : k = m
    · subst e; exact h2
    · exact h1 k (by omega)
theorem nkids_succ (n : Nd) (m : Nat) : nkids n (m + 1) ↔ nkids n m ∧ (1 ≤ n.kids[m]?.getD 0 ∧ n.kids[m]?.getD 0 ≤ 65536) := by
  constructor
  · exact fun h => ⟨fun k hk => h k (by omega), h m (by omega)⟩
  · rintro ⟨h1, h2⟩ k hk
    by_cases e : k = m
    · subst e; exact h2
    · exact h1 k (by omega)
/-- no number that is reckoned on the way is too great -/
theorem nsz_le (n : Nd) (m : Nat) (h : ∀ k, k < m → (nkey n k).length ≤ 32) (hv : n.leaf = true → ∀ k, k < m → (n.vals[k]?.getD []).length ≤ 64) : ∀ k, k ≤ m → nsz n k ≤ 2 + 98 * (k : Int)
  | 0, _ => by simp [nsz]
  | k + 1, hk => by
    have i := nsz_le n m h hv k (by omega)
    have a := h k (by omega)
    unfold nkey at a
    simp only [nsz]
    split
    · have := hv (by assumption) k (by omega); omega
    · omega

/-! where a key is -/
def nfnd (leaf : Bool) (key : Str) : List Str → Int
  | [] => 0
  | k :: r => (if slt k key || (!leaf && k == key) then 1 else 0) + nfnd leaf key r
def nis (key : Str) (l : List Str) : Bool := l.any (· == key)
theorem nfnd_app (leaf : Bool) (key : Str) : ∀ (a b : List Str), nfnd leaf key (a ++ b) = nfnd leaf key a + nfnd leaf key b
  | [], b => by simp [nfnd]
  | k :: r, b => by simp only [List.cons_append, nfnd, nfnd_app leaf key r b]; omega
theorem nfnd_bd (leaf : Bool) (key : Str) : ∀ l : List Str, 0 ≤ nfnd leaf key l ∧ nfnd leaf key l ≤ l.length
  | [] => by simp [nfnd]
  | k :: r => by
    have := nfnd_bd leaf key r
    simp only [nfnd, List.length_cons]
    split <;> omega

/-! its octets -/
/-- a number in four octets, the highest first -/
def n4 (z : Int) : List UInt8 := [UInt8.ofNat (z.toNat / 16777216), UInt8.ofNat (z.toNat / 65536), UInt8.ofNat (z.toNat / 256), UInt8.ofNat z.toNat]
/-- what the k-th key brings -/
def npart (n : Nd) (k : Nat) : List UInt8 :=
  [UInt8.ofNat (nkey n k).length] ++ nkey n k ++ if n.leaf then [UInt8.ofNat (n.vals[k]?.getD []).length] ++ n.vals[k]?.getD [] else n4 (n.kids[k + 1]?.getD 0)
def nparts (n : Nd) : Nat → List UInt8
  | 0 => []
  | k + 1 => nparts n k ++ npart n k
def nhead (n : Nd) : List UInt8 := [if n.leaf then 1 else 0, UInt8.ofNat n.keys.length] ++ if n.leaf then [] else n4 (n.kids[0]?.getD 0)
def nenc (n : Nd) : List UInt8 := nhead n ++ nparts n n.keys.length

/-! its halves -/
def nfew (n : Nd) : Prop := n.keys.length < 2 ∨ (n.leaf = false ∧ n.keys.length < 3)
instance (n : Nd) : Decidable (nfew n) := by unfold nfew; infer_instance
def none9 : Nd := ⟨false, [], [], []⟩
def nlow (n : Nd) : Nd := let h := n.keys.length / 2; if n.leaf then ⟨true, n.keys.take h, n.vals.take h, []⟩ else ⟨false, n.keys.take h, [], n.kids.take (h + 1)⟩
def nhigh (n : Nd) : Nd := let h := n.keys.length / 2; if n.leaf then ⟨true, n.keys.drop h, n.vals.drop h, []⟩ else ⟨false, n.keys.drop (h + 1), [], n.kids.drop (h + 1)⟩

end Go.Proofs.Ytgmkknonnidgaaa
