/-
  Disks that a law makes anew: what their sectors have behind a torn write; a state laid over another in its box.
-/
import Derived.Test.YtliileemelcllaaDCrashP
import Derived.Test.YtliileemelcllaaDPutP
import Derived.Test.YtliileemelcllaaDOwnR
namespace Go.Proofs.Ytliileemelcllaa
open Go.RowKit
set_option linter.unusedVariables false

theorem over_short {x y : List UInt8} (h : y.length ≤ x.length) : over x y = y ++ x.drop y.length := by
  unfold over
  rw [List.take_of_length_le h]
theorem bt_pad (x : List UInt8) (i : Nat) (h : x.length ≤ 64) : bt (pad x) i = if i < x.length then bt x i else 0 := by
  unfold pad
  rw [over_short (by simpa using h)]
  unfold bt
  simp only [List.getD_eq_getElem?_getD]
  by_cases hi : i < x.length
  · rw [if_pos hi, List.getElem?_append_left hi]
  · rw [if_neg hi, List.getElem?_append_right (by omega)]
    simp only [List.drop_replicate, List.getElem?_replicate]
    split <;> rfl
theorem bt_over (x y : List UInt8) (i n : Nat) (h : n ≤ y.length) (hn : n ≤ x.length) : bt (over x (y.take n)) i = if i < n then bt y i else bt x i := by
  have hl : (y.take n).length = n := by simp; omega
  rw [over_short (by omega)]
  unfold bt
  simp only [List.getD_eq_getElem?_getD]
  by_cases hi : i < n
  · rw [if_pos hi, List.getElem?_append_left (by omega), List.getElem?_take, if_pos hi]
  · rw [if_neg hi, List.getElem?_append_right (by omega), hl, List.getElem?_drop, show n + (i - n) = i by omega]

theorem torn_chain {N p : Nat} (h1 : 1 ≤ N) (h2 : N ≤ 20) (hp : p < N) (X2 X3 : List UInt8) (cut : Int) (l2 : X2.length ≤ 64) (l3 : X3.length ≤ 64) :
    ∃ S0 S1 D, dnew (N : Int) = ((S0, []), 0) ∧ dput (S0, []) (p : Int) X2 = ((S0, [((p : Int), pad X2)]), 0) ∧ dflush (S0, [((p : Int), pad X2)]) = ((S1, []), 0) ∧ dput (S1, []) (p : Int) X3 = ((S1, [((p : Int), pad X3)]), 0) ∧
      dcrash (S1, [((p : Int), pad X3)]) [true] 0 cut = ((D, []), 0) ∧ S0.length = N ∧ S1.length = N ∧ D.length = N ∧
      ∀ j, j < N → ∃ x, D[j]? = some x ∧ x.length = 64 ∧ ∀ i, i < 64 → bt x i = if j = p then (if i < clamp cut then (if i < X3.length then bt X3 i else 0) else (if i < X2.length then bt X2 i else 0)) else 0 := by
  have ok0 : ∀ (S : List (List UInt8)) (ws : List Wrt), S.length = N → (∀ x ∈ S, x.length = 64) → (ws = [] ∨ ∃ x, ws = [((p : Int), pad x)]) → DOk (S, ws) := by
    intro S ws hS h64 hw
    refine ⟨by show 1 ≤ S.length; omega, by show S.length ≤ 1024; omega, ?_, h64, ?_⟩
    · rcases hw with rfl | ⟨x, rfl⟩ <;> simp
    · rcases hw with rfl | ⟨x, rfl⟩
      · intro y hy; cases hy
      · intro y hy
        simp only [List.mem_singleton] at hy
        subst hy
        exact ⟨⟨by show (0 : Int) ≤ (p : Int); omega, by show (p : Int) < (S.length : Int); omega⟩, pad_len x⟩
  have put0 : ∀ (S : List (List UInt8)) (x : List UInt8), S.length = N → (∀ x ∈ S, x.length = 64) → x.length ≤ 64 → dput (S, []) (p : Int) x = ((S, [((p : Int), pad x)]), 0) := by
    intro S x hS h64 hx
    unfold dput
    rw [if_neg (by rw [dsect_zero.2 ⟨ok0 S [] hS h64 (.inl rfl), by show (0 : Int) ≤ (p : Int); omega, by show (p : Int) < (S.length : Int); omega⟩]; simp), if_neg (by omega), if_neg (by simp)]
    rfl
  have land0 : ∀ (S : List (List UInt8)) (x : List UInt8) (f : Nat → Nat), S.length = N → (∀ x ∈ S, x.length = 64) → dland (S, [((p : Int), pad x)]) f = ((S.set p (over (S.getD p []) ((pad x).take (f 0))), []), 0) := by
    intro S x f hS h64
    unfold dland
    rw [if_pos (ok0 S _ hS h64 (.inr ⟨x, rfl⟩))]
    rfl
  obtain ⟨S0, hS0⟩ : ∃ S0, S0 = List.replicate N (List.replicate 64 (0 : UInt8)) := ⟨_, rfl⟩
  have s0l : S0.length = N := by rw [hS0]; simp
  have s064 : ∀ x ∈ S0, x.length = 64 := by
    intro x hx
    rw [hS0] at hx
    rw [(List.mem_replicate.1 hx).2]; simp
  have s0at : ∀ j, j < N → S0.getD j [] = List.replicate 64 0 := by
    intro j hj
    rw [hS0, List.getD_eq_getElem?_getD, List.getElem?_replicate, if_pos hj]; rfl
  obtain ⟨S1, hS1⟩ : ∃ S1, S1 = S0.set p (pad X2) := ⟨_, rfl⟩
  have s1l : S1.length = N := by rw [hS1]; simpa using s0l
  have s164 : ∀ x ∈ S1, x.length = 64 := by
    intro x hx
    rw [hS1] at hx
    rcases List.mem_or_eq_of_mem_set hx with hx | rfl
    · exact s064 x hx
    · exact pad_len X2
  have s1p : S1.getD p [] = pad X2 := by rw [hS1, List.getD_eq_getElem?_getD, List.getElem?_set_self (by omega)]; rfl
  refine ⟨S0, S1, S1.set p (over (S1.getD p []) ((pad X3).take (clamp cut))), ?_, put0 S0 X2 s0l s064 l2, ?_, put0 S1 X3 s1l s164 l3, ?_, s0l, s1l, by simpa using s1l, ?_⟩
  · unfold dnew
    rw [if_neg (by omega), hS0]
    simp
  · unfold dflush
    rw [land0 S0 X2 _ s0l s064, hS1, List.take_of_length_le (by rw [pad_len]; exact Nat.le_refl _), over_all (by rw [s0at p hp, pad_len]; simp)]
  · unfold dcrash
    rw [land0 S1 X3 _ s1l s164]
    rfl
  · intro j hj
    by_cases hjp : j = p
    · subst hjp
      refine ⟨_, List.getElem?_set_self (by omega), ?_, fun i hi => ?_⟩
      · rw [over_length, s1p, pad_len]
      · rw [if_pos rfl, s1p, bt_over _ _ _ _ (by rw [pad_len]; exact clamp_le cut) (by rw [pad_len]; exact clamp_le cut), bt_pad _ _ l3, bt_pad _ _ l2]
    · have hz : S1[j]? = some (List.replicate 64 0) := by
        rw [hS1, List.getElem?_set_ne (fun e => hjp e.symm), hS0, List.getElem?_replicate, if_pos hj]
      refine ⟨_, (List.getElem?_set_ne (fun e => hjp e.symm)).trans hz, by simp, fun i hi => ?_⟩
      rw [if_neg hjp]
      unfold bt
      rw [List.getD_eq_getElem?_getD, List.getElem?_replicate, if_pos hi]; rfl

/-- a new state laid over the old one in its box -/
theorem box_put {w w' : World} {b B T : Nat} {x y s c : Value} {d : Dsk} (hA : w'.heap[b]? = some (.cells #[x, y] T (0, 0))) (o : Own SStP B w' [s, c] d) (hB : b < B) (cc : Below w.heap.size w w') (hw : w.heap.size ≤ b) :
    ∃ V, V = (w'.setCell ⟨b, 0, none⟩ s).setCell ⟨b, 1, none⟩ c ∧ V.heap[b]? = some (.cells #[s, c] T (0, 0)) ∧ Own SStP B V [s, c] d ∧ Below w.heap.size w V ∧ V.heap.size = w'.heap.size :=
  ⟨_, rfl, heap_set2 hA _ _, (o.set (a := ⟨b, 0, none⟩) hB _).set (a := ⟨b, 1, none⟩) hB _, below_set2 cc hw _ _, by simp [World.setCell]⟩
theorem boxed_row (w : World) (x y : Value) (t : TypeId) : ∃ u, u = w.alloc (.cells #[x, y] t) ∧ u.heap[w.heap.size]? = some (.cells #[x, y] t (0, 0)) ∧ Below w.heap.size w u ∧ u.heap.size = w.heap.size + 1 :=
  ⟨_, rfl, heap_alloc_last w _, (Below.refl _ _).alloc (Nat.le_refl _) _, by simp⟩
/-- one mark in a block of its own -/
theorem one_true (w : World) (T : TypeId) : ∃ u, u = w.alloc (.cells #[.bool true] T) ∧ RdK u (.slice (some ⟨w.heap.size, 0, none⟩) 1 1) [true] ∧ Below w.heap.size w u ∧ u.heap.size = w.heap.size + 1 := by
  refine ⟨_, rfl, ⟨some ⟨w.heap.size, 0, none⟩, 1, rfl, Nat.le_refl _, by unfold maxLen; omega, (fun h => nomatch h), .inr ⟨w.heap.size, 0, rfl, fun i x hx => ?_⟩⟩, (Below.refl _ _).alloc (Nat.le_refl _) _, by simp⟩
  cases i with
  | zero =>
    simp only [List.getElem?_cons_zero, Option.some.injEq] at hx
    subst hx
    refine ⟨[.bool true], rfl, fun j u hu => ?_⟩
    cases j with
    | zero =>
      simp only [List.getElem?_cons_zero, Option.some.injEq] at hu
      subst hu
      have h0 : 0 + 0 * Shp.bool.n + 0 = 0 := by simp
      rw [h0, cell_of_row _ _ 0 _ _ (0, 0) (heap_alloc_last w _)]; rfl
    | succ j => simp at hu
  | succ i => simp at hx
theorem rd_octet {w : World} {a : Option Addr} {n cap : Nat} {xs : List UInt8} (h : Rd w (.slice a n cap) xs) {i : Nat} (hi : i < xs.length) : ∃ b off, a = some ⟨b, off, none⟩ ∧ w.cell? ⟨b, off + i, none⟩ = some (.int .u8 (bt xs i)) := by
  obtain ⟨ao, c, e, l1, m1, n1, r1⟩ := h
  simp only [Value.slice.injEq] at e
  obtain ⟨rfl, rfl, rfl⟩ := e
  rcases r1 with rfl | ⟨b, off, rfl, hc⟩
  · simp at hi
  · exact ⟨b, off, rfl, hc i hi⟩

end Go.Proofs.Ytliileemelcllaa
