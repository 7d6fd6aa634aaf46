/-
  The plain layer of CRC-32C, on natural numbers: one bit's step ('st'), k steps ('stn'), a register over octets ('reg'), octets as one number ('num'), the product of registers ('pr'). Nothing of the program is named.
-/
import Derived.Laws.BitsAllLaws
namespace Go.Proofs.Ytlnoancjegifnaa

def dv : Nat := 2197175160
def M32 : Nat := 4294967296

def st (m : Nat) : Nat := m / 2 ^^^ (if m % 2 = 1 then dv else 0)
def stn : Nat → Nat → Nat
  | 0, m => m
  | k + 1, m => stn k (st m)

theorem st_xor (a b : Nat) : st (a ^^^ b) = st a ^^^ st b := by
  have h : (a ^^^ b) / 2 = a / 2 ^^^ b / 2 := by
    apply Nat.eq_of_testBit_eq; intro i
    simp [Nat.testBit_div_two, Nat.testBit_xor]
  have h0 : (a ^^^ b) % 2 = (a % 2 + b % 2) % 2 := by
    have := Nat.xor_mod_two_pow (a := a) (b := b) (n := 1)
    simp at this
    rw [this]
    have ha := Nat.mod_two_eq_zero_or_one a
    have hb := Nat.mod_two_eq_zero_or_one b
    rcases ha with ha | ha <;> rcases hb with hb | hb <;> simp [ha, hb]
  unfold st
  rw [h, h0]
  have ha := Nat.mod_two_eq_zero_or_one a
  have hb := Nat.mod_two_eq_zero_or_one b
  rcases ha with ha | ha <;> rcases hb with hb | hb <;> simp [ha, hb]
  · rw [Nat.xor_assoc]
  · rw [Nat.xor_assoc, Nat.xor_comm (b / 2), ← Nat.xor_assoc]
  · rw [show a / 2 ^^^ dv ^^^ (b / 2 ^^^ dv) = a / 2 ^^^ (dv ^^^ dv) ^^^ b / 2 from by
      rw [Nat.xor_comm (b / 2) dv, ← Nat.xor_assoc, Nat.xor_assoc (a / 2) dv dv]]
    simp

theorem stn_xor (k : Nat) : ∀ a b, stn k (a ^^^ b) = stn k a ^^^ stn k b := by
  induction k with
  | zero => intro a b; rfl
  | succ k ih => intro a b; show stn k (st (a ^^^ b)) = _; rw [st_xor, ih]; rfl

theorem st_zero : st 0 = 0 := rfl
theorem stn_zero (k : Nat) : stn k 0 = 0 := by
  induction k with
  | zero => rfl
  | succ k ih => exact ih
theorem stn_add (a b m : Nat) : stn (a + b) m = stn a (stn b m) := by
  induction b generalizing m with
  | zero => rfl
  | succ b ih => exact ih (st m)
theorem stn_succ (k m : Nat) : stn (k + 1) m = st (stn k m) := by rw [Nat.add_comm, stn_add]; rfl

theorem st_lt {m : Nat} (h : m < M32) : st m < M32 := by
  unfold st
  have h1 : m / 2 < 2 ^ 32 := by unfold M32 at h; omega
  have h2 : (if m % 2 = 1 then dv else 0) < 2 ^ 32 := by split <;> decide
  exact Nat.xor_lt_two_pow h1 h2
theorem stn_lt (k : Nat) : ∀ {m : Nat}, m < M32 → stn k m < M32 := by
  induction k with
  | zero => intro m h; exact h
  | succ k ih => intro m h; exact ih (st_lt h)
theorem xor_lt {a b : Nat} (ha : a < M32) (hb : b < M32) : a ^^^ b < M32 := Nat.xor_lt_two_pow (n := 32) ha hb

theorem st_ne {m : Nat} (h : m < M32) (h0 : m ≠ 0) : st m ≠ 0 := by
  unfold st
  intro e
  rcases Nat.mod_two_eq_zero_or_one m with h2 | h2
  · simp [h2] at e; omega
  · rw [if_pos h2] at e
    have e2 : m / 2 = dv := by
      have := congrArg (· ^^^ dv) e
      simpa [Nat.xor_assoc] using this
    unfold M32 at h; unfold dv at e2; omega
theorem stn_ne (k : Nat) : ∀ {m : Nat}, m < M32 → m ≠ 0 → stn k m ≠ 0 := by
  induction k with
  | zero => intro m _ h; exact h
  | succ k ih => intro m h h0; exact ih (st_lt h) (st_ne h h0)

theorem st_even (q : Nat) : st (2 * q) = q := by
  unfold st; simp
theorem stn_pow (k : Nat) : ∀ q, stn k (2 ^ k * q) = q := by
  induction k with
  | zero => intro q; simp [stn]
  | succ k ih =>
    intro q
    show stn k (st (2 ^ (k + 1) * q)) = q
    rw [show 2 ^ (k + 1) * q = 2 * (2 ^ k * q) from by rw [Nat.pow_succ]; ac_rfl, st_even, ih]

theorem split_xor (k r : Nat) : r = (r % 2 ^ k) ^^^ (2 ^ k * (r / 2 ^ k)) := by
  apply Nat.eq_of_testBit_eq; intro i
  rw [Nat.testBit_xor, Nat.testBit_mod_two_pow, Nat.testBit_two_pow_mul, Nat.testBit_div_two_pow]
  by_cases h : i < k
  · simp [h, show ¬ k ≤ i by omega]
  · simp [h, show k ≤ i by omega]
theorem add_xor {k x : Nat} (hx : x < 2 ^ k) (q : Nat) : x + 2 ^ k * q = x ^^^ (2 ^ k * q) := by
  have h := split_xor k (x + 2 ^ k * q)
  rw [show (x + 2 ^ k * q) % 2 ^ k = x from by rw [Nat.add_mul_mod_self_left]; exact Nat.mod_eq_of_lt hx,
    show (x + 2 ^ k * q) / 2 ^ k = q from by rw [Nat.add_mul_div_left _ _ (Nat.two_pow_pos k), Nat.div_eq_of_lt hx]; simp] at h
  exact h

/-- what an octet makes of a register -/
def tn (r o : Nat) : Nat := stn 8 (r ^^^ o)
theorem tn_lt {r o : Nat} (h : r < M32) (ho : o < 256) : tn r o < M32 := stn_lt 8 (xor_lt h (by unfold M32; omega))
theorem tn_table (r o : Nat) : tn r o = (r / 256) ^^^ stn 8 (r % 256 ^^^ o) := by
  unfold tn
  have h := split_xor 8 r
  have e : r ^^^ o = (r % 256 ^^^ o) ^^^ (2 ^ 8 * (r / 256)) := by
    conv => lhs; rw [h]
    show (r % 256) ^^^ (2 ^ 8 * (r / 256)) ^^^ o = _
    rw [Nat.xor_assoc, Nat.xor_comm (2 ^ 8 * (r / 256)) o, ← Nat.xor_assoc]
  rw [e, stn_xor, stn_pow, Nat.xor_comm]

def reg (r : Nat) (xs : List UInt8) : Nat := xs.foldl (fun r x => tn r x.toNat) r
theorem reg_nil (r : Nat) : reg r [] = r := rfl
theorem reg_cons (r : Nat) (x : UInt8) (xs : List UInt8) : reg r (x :: xs) = reg (tn r x.toNat) xs := rfl
theorem reg_app (r : Nat) (xs ys : List UInt8) : reg r (xs ++ ys) = reg (reg r xs) ys := by simp [reg]
theorem reg_lt (xs : List UInt8) : ∀ {r : Nat}, r < M32 → reg r xs < M32 := by
  induction xs with
  | nil => intro r h; exact h
  | cons x xs ih => intro r h; exact ih (tn_lt h (UInt8.toNat_lt x))

/-- octets as one number, the lowest first -/
def num : List UInt8 → Nat
  | [] => 0
  | x :: xs => x.toNat ^^^ (2 ^ 8 * num xs)

theorem reg_num (xs : List UInt8) : ∀ r, reg r xs = stn (8 * xs.length) (r ^^^ num xs) := by
  induction xs with
  | nil => intro r; simp [reg, num, stn]
  | cons x xs ih =>
    intro r
    rw [reg_cons, ih, show 8 * (x :: xs).length = 8 * xs.length + 8 from by simp; omega, stn_add]
    congr 1
    rw [num, ← Nat.xor_assoc, stn_xor 8 _ (2 ^ 8 * num xs), stn_pow]
    rfl

theorem reg_xor (xs : List UInt8) (r s : Nat) : reg (r ^^^ s) xs = reg r xs ^^^ stn (8 * xs.length) s := by
  rw [reg_num, reg_num, ← stn_xor]
  congr 1
  rw [Nat.xor_assoc, Nat.xor_comm s, ← Nat.xor_assoc]

/-! all bits turned -/
theorem ff_is : ∃ n : Nat, n = 4294967295 := ⟨_, rfl⟩
/-- 32 bits, all set (by its own fact alone, so that nothing opens it) -/
noncomputable def ff : Nat := Classical.choose ff_is
theorem ff_eq : ff = 4294967295 := Classical.choose_spec ff_is
noncomputable def inv (r : Nat) : Nat := ff ^^^ r
theorem inv_lt {r : Nat} (h : r < M32) : inv r < M32 := xor_lt (by rw [ff_eq]; decide) h
theorem xor_back (f r : Nat) : f ^^^ (f ^^^ r) = r := by rw [← Nat.xor_assoc, Nat.xor_self, Nat.zero_xor]
theorem xor_fwd (f r : Nat) : (f ^^^ r) ^^^ f = r := by rw [Nat.xor_comm, xor_back]
theorem xor_mid (f x b : Nat) : f ^^^ (x ^^^ (f ^^^ b)) = x ^^^ b := by rw [Nat.xor_comm x, ← Nat.xor_assoc, xor_back, Nat.xor_comm]
theorem inv_inv (r : Nat) : inv (inv r) = r := xor_back ff r
theorem inv_inj {a b : Nat} (h : inv a = inv b) : a = b := by rw [← inv_inv a, h, inv_inv]
noncomputable def ext (c : Nat) (xs : List UInt8) : Nat := inv (reg (inv c) xs)
noncomputable def sum (xs : List UInt8) : Nat := ext 0 xs
theorem ext_lt {c : Nat} (h : c < M32) (xs : List UInt8) : ext c xs < M32 := inv_lt (reg_lt xs (inv_lt h))
theorem sum_lt (xs : List UInt8) : sum xs < M32 := ext_lt (by decide) xs
theorem ext_nil (c : Nat) : ext c [] = c := inv_inv c
theorem ext_app (c : Nat) (xs ys : List UInt8) : ext c (xs ++ ys) = ext (ext c xs) ys := by
  unfold ext; rw [inv_inv, reg_app]

/-- the sum of two texts together, of their sums -/
theorem sum_join (xs ys : List UInt8) : sum (xs ++ ys) = stn (8 * ys.length) (sum xs) ^^^ sum ys := by
  unfold sum
  rw [ext_app]
  show inv (reg (inv (ext 0 xs)) ys) = _ ^^^ inv (reg (inv 0) ys)
  rw [show inv (ext 0 xs) = inv 0 ^^^ ext 0 xs from by unfold inv; rw [Nat.xor_zero], reg_xor]
  show ff ^^^ (_ ^^^ _) = _ ^^^ (ff ^^^ _)
  rw [← Nat.xor_assoc, Nat.xor_comm]

/-- the page's own Join -/
theorem page_join (a b k : Nat) : inv (stn k (inv a) ^^^ stn k ff ^^^ inv b) = stn k a ^^^ b := by
  rw [← stn_xor, show inv a ^^^ ff = a from xor_fwd ff a]
  exact xor_mid ff (stn k a) b

/-! the product of registers -/
def prTo (a b : Nat) : Nat → Nat
  | 0 => 0
  | k + 1 => prTo a b k ^^^ (if a.testBit (31 - k) then stn k b else 0)
def pr (a b : Nat) : Nat := prTo a b 32

theorem prTo_lt {a b : Nat} (hb : b < M32) (k : Nat) : prTo a b k < M32 := by
  induction k with
  | zero => show 0 < M32; decide
  | succ k ih =>
    refine xor_lt ih ?_
    split
    · exact stn_lt k hb
    · decide
theorem pr_lt {a b : Nat} (hb : b < M32) : pr a b < M32 := prTo_lt hb 32

theorem xor4 (a b c d : Nat) : a ^^^ b ^^^ (c ^^^ d) = a ^^^ c ^^^ (b ^^^ d) := by
  rw [Nat.xor_assoc, ← Nat.xor_assoc b, Nat.xor_comm b c, Nat.xor_assoc c, ← Nat.xor_assoc]

theorem prTo_xorl (a c b k : Nat) : prTo (a ^^^ c) b k = prTo a b k ^^^ prTo c b k := by
  induction k with
  | zero => simp [prTo]
  | succ k ih =>
    show _ ^^^ _ = (_ ^^^ _) ^^^ (_ ^^^ _)
    rw [xor4, ih, Nat.testBit_xor]
    congr 1
    cases a.testBit (31 - k) <;> cases c.testBit (31 - k) <;> simp
theorem prTo_xorr (a b c k : Nat) : prTo a (b ^^^ c) k = prTo a b k ^^^ prTo a c k := by
  induction k with
  | zero => simp [prTo]
  | succ k ih =>
    show _ ^^^ _ = (_ ^^^ _) ^^^ (_ ^^^ _)
    rw [xor4, ih]
    congr 1
    cases a.testBit (31 - k) <;> simp [stn_xor]

theorem lin_ext {f g : Nat → Nat} (hf : ∀ a b, f (a ^^^ b) = f a ^^^ f b) (hg : ∀ a b, g (a ^^^ b) = g a ^^^ g b) (n : Nat)
    (h : ∀ j, j < n → f (2 ^ j) = g (2 ^ j)) : ∀ m, m < 2 ^ n → f m = g m := by
  induction n with
  | zero =>
    intro m hm
    have : m = 0 := by simpa using hm
    subst this
    have h1 := hf 0 0; have h2 := hg 0 0
    simp at h1 h2; rw [h1, h2]
  | succ n ih =>
    intro m hm
    have ih' := ih (fun j hj => h j (by omega))
    by_cases hlt : m < 2 ^ n
    · exact ih' m hlt
    · have hp : 2 ^ (n + 1) = 2 ^ n * 2 := Nat.pow_succ 2 n
      have e : m = (m - 2 ^ n) ^^^ (2 ^ n * 1) := by
        rw [← add_xor (by omega)]; omega
      rw [e, hf, hg, ih' _ (by omega), Nat.mul_one, h n (by omega)]

theorem prTo_pow (j b k : Nat) (hj : j < 32) (hk : k ≤ 32) : prTo (2 ^ j) b k = if 31 - j < k then stn (31 - j) b else 0 := by
  induction k with
  | zero => simp [prTo]
  | succ k ih =>
    show _ ^^^ _ = _
    rw [ih (by omega), Nat.testBit_two_pow]
    by_cases h : j = 31 - k
    · have : k = 31 - j := by omega
      have h1 : ¬ 31 - j < k := by omega
      have h2 : 31 - j < k + 1 := by omega
      rw [if_neg h1, if_pos h2, decide_eq_true h, if_pos rfl, Nat.zero_xor, this]
    · simp only [decide_eq_false h, Bool.false_eq_true, if_false, Nat.xor_zero]
      by_cases h1 : 31 - j < k
      · simp [h1, show 31 - j < k + 1 by omega]
      · simp [h1, show ¬ 31 - j < k + 1 by omega]
theorem pr_pow (j b : Nat) (hj : j < 32) : pr (2 ^ j) b = stn (31 - j) b := by
  unfold pr; rw [prTo_pow j b 32 hj (Nat.le_refl _)]; simp [show 31 - j < 32 by omega]

theorem pr_dv_basis : ∀ j, j < 32 → pr dv (2 ^ j) = stn 32 (2 ^ j) := by decide +kernel
theorem pr_dv (b : Nat) (hb : b < M32) : pr dv b = stn 32 b :=
  lin_ext (f := pr dv) (g := stn 32) (prTo_xorr dv · · 32) (stn_xor 32) 32 pr_dv_basis b hb

theorem st_pow_succ (j : Nat) : st (2 ^ (j + 1)) = 2 ^ j := by
  rw [Nat.pow_succ, Nat.mul_comm]; exact st_even _

theorem pr_st (q b : Nat) (hq : q < M32) (hb : b < M32) : pr (st q) b = st (pr q b) := by
  refine lin_ext (f := fun q => pr (st q) b) (g := fun q => st (pr q b)) ?_ ?_ 32 ?_ q hq
  · intro a c; show pr (st (a ^^^ c)) b = _; rw [st_xor]; exact prTo_xorl _ _ _ 32
  · intro a c; show st (pr (a ^^^ c) b) = _; rw [show pr (a ^^^ c) b = pr a b ^^^ pr c b from prTo_xorl _ _ _ 32, st_xor]
  · intro j hj
    show pr (st (2 ^ j)) b = st (pr (2 ^ j) b)
    rw [pr_pow j b hj, ← stn_succ]
    cases j with
    | zero => exact pr_dv b hb
    | succ j => rw [st_pow_succ, pr_pow j b (by omega)]; congr 1; omega

theorem pr_stn (k : Nat) : ∀ (q b : Nat), q < M32 → b < M32 → pr (stn k q) b = stn k (pr q b) := by
  induction k with
  | zero => intros; rfl
  | succ k ih => intro q b hq hb; show pr (stn k (st q)) b = stn k (st (pr q b)); rw [ih _ _ (st_lt hq) hb, pr_st q b hq hb]

theorem pr_pr (p q b : Nat) (hp : p < M32) (hq : q < M32) (hb : b < M32) : pr (pr p q) b = pr p (pr q b) := by
  refine lin_ext (f := fun p => pr (pr p q) b) (g := fun p => pr p (pr q b)) ?_ ?_ 32 ?_ p hp
  · intro a c; show pr (pr (a ^^^ c) q) b = _; rw [show pr (a ^^^ c) q = pr a q ^^^ pr c q from prTo_xorl _ _ _ 32]; exact prTo_xorl _ _ _ 32
  · intro a c; exact prTo_xorl _ _ _ 32
  · intro j hj
    show pr (pr (2 ^ j) q) b = pr (2 ^ j) (pr q b)
    rw [pr_pow j _ hj, pr_pow j _ hj, pr_stn _ _ _ hq hb]

/-- p is what a register is multiplied by when n octets of zeros go by -/
def Long (p n : Nat) : Prop := p < M32 ∧ ∀ x, x < M32 → pr p x = stn (8 * n) x
theorem long_zero : Long 2147483648 0 := ⟨by decide, fun x _ => pr_pow 31 x (by decide)⟩
theorem long_one : Long 8388608 1 := ⟨by decide, fun x _ => pr_pow 23 x (by decide)⟩
theorem Long.mul {p q m n : Nat} (h : Long p m) (k : Long q n) : Long (pr p q) (m + n) :=
  ⟨pr_lt k.1, fun x hx => by rw [pr_pr p q x h.1 k.1 hx, k.2 x hx, h.2 _ (stn_lt _ hx), ← stn_add]; congr 1; omega⟩

end Go.Proofs.Ytlnoancjegifnaa
