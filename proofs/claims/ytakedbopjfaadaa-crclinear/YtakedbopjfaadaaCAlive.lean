/-
  The law's own 'alive' (the page's example) answers true; it makes memory of its own and changes none that was there.
-/
import Derived.Lib.UnsafeStr
import Derived.Test.YtakedbopjfaadaaCExt
namespace Go.Proofs.Ytakedbopjfaadaa
open Go.RowKit
set_option linter.unusedVariables false

theorem num_any (w : World) (n : Int) :
    Calls Try.prog 15 #[.int .i64 n] w fun e w' => e = .returned (.int .i64 n) ∧ w = w' := by
  go_enter Try.func15, Try.ntmps15
  go_wp2
  go_ret
  exact ⟨rfl, rfl⟩

theorem sum_nil : sum [] = 0 := ext_nil 0
theorem sum_page : sum [49, 50, 51, 52, 53, 54, 55, 56, 57] = 3808858755 := by
  unfold sum ext inv
  rw [ff_eq]
  decide +kernel

theorem rd_nil (w : World) : Rd w (.slice none 0 0) [] := ⟨none, 0, rfl, Nat.le_refl _, by unfold maxLen; omega, fun _ => rfl, .inl rfl⟩

/-- []byte of a text's own letters: the block is marked, its octets stay -/
theorem conv_same (w : World) (g l c : Nat) (t : TypeId) (n : Nat) (hs : w.shape? g = some (t, n)) :
    (convert 22 22 (.slice (some ⟨g, 0, none⟩) l c)).run Try.prog w = .ok (.slice (some ⟨g, 0, none⟩) l c) (w.freeze ⟨g, n, none⟩ 1) := by
  have e : (shape g).run Try.prog w = .ok (some (t, n)) w := by rw [← hs]; rfl
  simp [convert, markStringish, e]
theorem cell_freeze (w : World) (p : Addr) (n : Nat) (a : Addr) : (w.freeze p n).cell? a = w.cell? a := by
  unfold World.freeze
  split
  · rfl
  · simp only [World.cell?, Array.getElem?_modify]
    by_cases h : p.block = a.block
    · rw [if_pos h]
      cases w.heap[a.block]? with
      | none => rfl
      | some o => cases o <;> simp
    · rw [if_neg h]
theorem Rd.freeze {w : World} {v : Value} {xs : List UInt8} (h : Rd w v xs) (p : Addr) (n : Nat) : Rd (w.freeze p n) v xs := by
  obtain ⟨ao, cap, rfl, h1, h2, h3, h4⟩ := h
  refine ⟨ao, cap, rfl, h1, h2, h3, ?_⟩
  rcases h4 with h4 | ⟨b, off, rfl, hc⟩
  · exact .inl h4
  · exact .inr ⟨b, off, rfl, fun i hi => by rw [cell_freeze]; exact hc i hi⟩

set_option maxHeartbeats 1000000 in
theorem alive_any (w : World) : Calls Try.prog 17 #[] w fun e w' => e = .returned (.bool true) ∧ Below w.heap.size w w' := by
  obtain ⟨u, hu⟩ : ∃ u, u = w.alloc (.cells #[.int .u8 49, .int .u8 50, .int .u8 51, .int .u8 52, .int .u8 53, .int .u8 54, .int .u8 55, .int .u8 56, .int .u8 57] 5) := ⟨_, rfl⟩
  have hr : Rd (u.freeze ⟨w.heap.size, 9, none⟩ 1) (.slice (some ⟨w.heap.size, 0, none⟩) 9 9) [49, 50, 51, 52, 53, 54, 55, 56, 57] :=
    Rd.freeze (by rw [hu]; exact rd_lit w [49, 50, 51, 52, 53, 54, 55, 56, 57] _ _ _ rfl rfl rfl (by decide)) _ _
  have hb0 : Below w.heap.size w u := by rw [hu]; exact (Below.refl _ _).alloc (Nat.le_refl _) _
  have hb : Below w.heap.size w (u.freeze ⟨w.heap.size, 9, none⟩ 1) := Lib.below_freeze hb0 (p := ⟨w.heap.size, 9, none⟩) (Nat.le_refl _) 1
  clear hb0
  have hcv := conv_same u w.heap.size 9 9 5 9 (by rw [hu, World.shape?, heap_alloc_last]; rfl)
  rw [hu] at hcv
  go_enter Try.func17, Try.ntmps17
  go_wp2_with fail
  rw [← hu]
  clear hcv hu
  have hq := sum_any _ _ _ hr (by decide)
  rw [sum_page] at hq
  refine hq.mono ?_
  clear hq
  rintro e w1 ⟨rfl, b1⟩
  have b1' : Below w.heap.size w w1 := hb.trans (b1.mono hb.size)
  clear b1 hr hb
  go_wp2_with fail
  have hq := sum_any w1 _ _ (rd_nil w1) (by decide)
  rw [sum_nil] at hq
  refine hq.mono ?_
  rintro e w2 ⟨rfl, b2⟩
  have b2' := b1'.trans (b2.mono b1'.size)
  clear b1' b2 hq
  go_wp2
  go_ret
  exact ⟨rfl, b2'⟩

end Go.Proofs.Ytakedbopjfaadaa
