/-
  The page's End and term of logs.
-/
import Derived.Test.YtfalhboahdccmaaRlB
import Derived.Test.YtfalhboahdccmaaRFan
namespace Go.Proofs.Ytfalhboahdccmaa
open Go.RowKit
set_option linter.unusedVariables false
set_option linter.unusedSimpArgs false

theorem lterm_base {l : Lg} {i : Int} (h : i = l.base) : lterm l i = l.bt := if_pos h
theorem lterm_at {l : Lg} {i : Int} {k : Nat} {y : Wrt} (h : i ≠ l.base) (hk : (i - l.base - 1).toNat = k) (hy : l.es[k]? = some y) : lterm l i = y.1 := by
  unfold lterm
  rw [if_neg h, hk, List.getD_eq_getElem?_getD, hy]; rfl
set_option maxRecDepth 100000 in
theorem rend15_any (w : World) (l : Lg) (v : Value) (h : RdC w v l.es) (ok : LOk l) : Calls Try.prog 32 #[lv l v] w fun e w' => e = .returned (.int .i64 (lend l)) ∧ Below w.heap.size w w' := by
  obtain ⟨a, cp, rfl⟩ := h.slice
  obtain ⟨k1, k2, k3, k4⟩ := ok.bd
  clear ok
  obtain ⟨base, bt, es⟩ := l
  dsimp only at h k1 k2 k3 k4
  have hR : Hid (lend ⟨base, bt, es⟩ = base + (es.length : Int)) := rfl
  dsimp only [lv]
  obtain ⟨R, hRR⟩ : ∃ R, R = lend ⟨base, bt, es⟩ := ⟨_, rfl⟩
  rw [← hRR] at hR ⊢
  clear hRR
  generalize es.length = n at *
  obtain ⟨W, hW, D, bW, sW⟩ := boxedN w #[.int .i64 base, .int .i64 bt, .slice a n cp] 24
  obtain ⟨⟨D0, D1, D2⟩, _⟩ := cells3l D
  have HB := hide bW
  rw [hW] at D0 D1 D2
  clear bW D sW
  go_enter Try.func32, Try.ntmps32
  go_wp2
  go_ret
  exact ⟨ret_int hR.out.symm, by rw [← hW]; exact HB.out⟩
set_option maxRecDepth 100000 in
set_option maxHeartbeats 2000000 in
theorem rterm15_any (w : World) (l : Lg) (v : Value) (i : Int) (h : RdC w v l.es) (ok : LOk l) (hi : l.base ≤ i ∧ i ≤ lend l) : Calls Try.prog 33 #[lv l v, .int .i64 i] w fun e w' => e = .returned (.int .i64 (lterm l i)) ∧ Below w.heap.size w w' := by
  have hR : Hid (i = l.base → lterm l i = l.bt) := lterm_base
  by_cases q : i = l.base
  · have hE := hide (hR.out q)
    obtain ⟨a, cp, rfl⟩ := h.slice
    clear hR ok hi
    obtain ⟨base, bt, es⟩ := l
    dsimp only at h q hE
    dsimp only [lv]
    obtain ⟨R, hRR⟩ : ∃ R, R = lterm ⟨base, bt, es⟩ i := ⟨_, rfl⟩
    rw [← hRR] at hE ⊢
    clear hRR
    generalize es.length = n at *
    obtain ⟨W, hW, D, bW, sW⟩ := boxedN w #[.int .i64 base, .int .i64 bt, .slice a n cp] 24
    obtain ⟨⟨D0, D1, D2⟩, _⟩ := cells3l D
    have HB := hide bW
    rw [hW] at D0 D1 D2
    clear bW D sW h
    subst q
    go_enter Try.func33, Try.ntmps33
    go_wp2
    go_ret
    exact ⟨ret_int hE.out.symm, by rw [← hW]; exact HB.out⟩
  · have hlt : (i - l.base - 1).toNat < l.es.length := by have := hi.1; have := hi.2; unfold lend at this; omega
    obtain ⟨y, hy⟩ := some_el15 l.es hlt
    have hE := hide (lterm_at q rfl hy)
    obtain ⟨k1, k2, k3, k4⟩ := ok.bd
    have hi2 : l.base ≤ i ∧ i ≤ l.base + l.es.length := hi
    obtain ⟨W, hW, D, bW, sW⟩ := boxedN w #[.int .i64 l.base, .int .i64 l.bt, v] 24
    have h1 := h.to0 bW
    obtain ⟨a, cp, rfl⟩ := h.slice
    obtain ⟨b, off, u, rfl, c1, c2, hr⟩ := h1.wrt hy
    obtain ⟨au, cu, rfl⟩ := hr.slice
    obtain ⟨⟨D0, D1, D2⟩, _⟩ := cells3l D
    clear hR ok hi hr h h1 hy k2 D sW
    obtain ⟨base, bt, es⟩ := l
    dsimp only at q hE hlt k1 k3 k4 hi2 c1 c2 D0 D1 D2 hW
    dsimp only [lv]
    obtain ⟨R, hRR⟩ : ∃ R, R = lterm ⟨base, bt, es⟩ i := ⟨_, rfl⟩
    rw [← hRR] at hE ⊢
    clear hRR
    have q' : (i == base) = false := by simpa using q
    obtain ⟨k, rfl⟩ : ∃ k : Nat, i = base + 1 + k := ⟨(i - base - 1).toNat, by omega⟩
    have ek : base + 1 + (k : Int) - base - 1 = k := by omega
    rw [ek] at c1 c2 hlt
    rw [show ((k : Int)).toNat = k by omega] at c1 c2 hlt
    generalize es.length = n at *
    generalize y.1 = t at *
    generalize y.2.length = m at *
    have HB := hide bW
    rw [hW] at D0 D1 D2 c1 c2
    replace q := hide q
    go_enter Try.func33, Try.ntmps33
    go_wp2
    go_ret
    exact ⟨ret_int hE.out.symm, by rw [← hW]; exact HB.out⟩
end Go.Proofs.Ytfalhboahdccmaa
