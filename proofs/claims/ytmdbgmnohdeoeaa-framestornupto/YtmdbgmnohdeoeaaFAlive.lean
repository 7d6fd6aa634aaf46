/-
  The law's own 'alive' (the page's example of frames) answers true; it makes memory of its own and changes none that was there.
-/
import Derived.Laws.IdiomStrings
import Derived.Test.YtmdbgmnohdeoeaaFSay
namespace Go.Proofs.Ytmdbgmnohdeoeaa
open Go.RowKit
set_option linter.unusedVariables false

/-- []byte of a text's own letters: the block is marked, its octets stay -/
theorem conv_same (w : World) (g l c : Nat) (t : TypeId) (n : Nat) (hs : w.shape? g = some (t, n)) :
    (convert 22 22 (.slice (some ⟨g, 0, none⟩) l c)).run Try.prog w = .ok (.slice (some ⟨g, 0, none⟩) l c) (w.freeze ⟨g, n, none⟩ 1) := by
  have e : (shape g).run Try.prog w = .ok (some (t, n)) w := by rw [← hs]; rfl
  simp [convert, markStringish, e]
theorem cell_freeze (w : World) (p : Addr) (n : Nat) (a : Addr) : (w.freeze p n).cell? a = w.cell? a := by
  unfold World.freeze
  split
  · rfl
  · simp only [World.cell?, Array.getElem?_modify]
    by_cases h : p.block = a.block
    · rw [if_pos h]
      cases w.heap[a.block]? with
      | none => rfl
      | some o => cases o <;> simp
    · rw [if_neg h]
theorem Rd.freeze {w : World} {v : Value} {xs : List UInt8} (h : Rd w v xs) (p : Addr) (n : Nat) : Rd (w.freeze p n) v xs := by
  obtain ⟨ao, cap, rfl, h1, h2, h3, h4⟩ := h
  refine ⟨ao, cap, rfl, h1, h2, h3, ?_⟩
  rcases h4 with h4 | ⟨b, off, rfl, hc⟩
  · exact .inl h4
  · exact .inr ⟨b, off, rfl, fun i hi => by rw [cell_freeze]; exact hc i hi⟩

theorem page_seal : fsealE [97] = 0 ∧ fsealO 1 [97] = fseal 1 [97] ∧ (fseal 1 [97]).length = 9 ∧ bt (fseal 1 [97]) 0 = 167 ∧ bt (fseal 1 [97]) 3 = 1 ∧ fopen (fseal 1 [97]) = (0, (1, [97]), 9) := by
  refine ⟨by decide, by simp [fsealO], by rw [fseal_len]; rfl, ?_, ?_, ?_⟩
  · unfold fseal bt; rw [getD_app _ _ _ (by rw [fhead_len]; decide)]; decide
  · unfold fseal bt; rw [getD_app _ _ _ (by rw [fhead_len]; decide)]; decide
  · have := fopen_seal 1 [97] [] (by decide)
    simpa using this

set_option maxHeartbeats 1000000 in
theorem falive_any (S : FramesSay) (w : World) : Calls Try.prog 19 #[] w fun e w' => e = .returned (.bool true) ∧ Below w.heap.size w w' := by
  obtain ⟨u, hu⟩ : ∃ u, u = w.alloc (.cells #[.int .u8 97] 5) := ⟨_, rfl⟩
  have hr : Rd (u.freeze ⟨w.heap.size, 1, none⟩ 1) (.slice (some ⟨w.heap.size, 0, none⟩) 1 1) [97] :=
    Rd.freeze (by rw [hu]; exact rd_lit w [97] _ _ _ rfl rfl rfl (by decide)) _ _
  have hb0 : Below w.heap.size w u := by rw [hu]; exact (Below.refl _ _).alloc (Nat.le_refl _) _
  have hb : Below w.heap.size w (u.freeze ⟨w.heap.size, 1, none⟩ 1) := Lib.below_freeze hb0 (p := ⟨w.heap.size, 1, none⟩) (Nat.le_refl _) 1
  clear hb0
  have hcv := conv_same u w.heap.size 1 1 5 1 (by rw [hu, World.shape?, heap_alloc_last]; rfl)
  rw [hu] at hcv
  obtain ⟨p1, p2, p3, p4, p5, p6⟩ := page_seal
  go_enter Try.func19, Try.ntmps19
  go_wp2_with fail
  rw [← hu]
  clear hcv hu
  have hq := S.sealS _ 1 _ _ hr (by decide)
  rw [p1, p2] at hq
  refine hq.mono ?_
  clear hq p1 p2
  rintro e w1 ⟨v1, rfl, o1, b1⟩
  have c1 := hb.trans (b1.mono hb.size)
  have r1 := o1.rd
  clear hr hb b1 o1
  go_wp2_with fail
  have hq := S.openS _ _ _ r1 (by rw [p3]; decide)
  rw [p6] at hq
  refine hq.mono ?_
  clear hq p6
  rintro e w2 ⟨v2, rfl, o2, b2⟩
  have c2 := c1.trans (b2.mono c1.size)
  replace r1 := r1.to b2
  have r2 := o2.rd
  clear c1 b2 o2
  obtain ⟨W, hW⟩ : ∃ W, W = w2.alloc (.cells #[.int .u8 1, v2] 29) := ⟨_, rfl⟩
  have hbW : Below w2.heap.size w2 W := by rw [hW]; exact (Below.refl _ _).alloc (Nat.le_refl _) _
  have f1 : W.cell? ⟨w2.heap.size, 1, none⟩ = some v2 := by rw [hW, cell_of_row _ _ 1 _ _ (0, 0) (heap_alloc_last w2 _)]; rfl
  replace r1 := r1.to hbW
  replace r2 := r2.to hbW
  have c3 := c2.trans (hbW.mono c2.size)
  obtain ⟨a1, cp1, rfl, l1, _, _, q1⟩ := r1
  obtain ⟨a2, cp2, rfl, l2, _, _, q2⟩ := r2
  rw [p3] at q1 ⊢
  rcases q1 with q1 | ⟨bb1, o1, rfl, h1⟩
  · have := congrArg List.length q1; rw [p3] at this; simp at this
  rcases q2 with q2 | ⟨bb2, o2, rfl, h2⟩
  · cases q2
  have t0 := h1 0 (by decide)
  have t3 := h1 3 (by decide)
  rw [p4] at t0
  rw [p5] at t3
  simp only [Nat.add_zero] at t0
  have hcs : (convert 22 9 (.slice (some ⟨bb2, o2, none⟩) 1 cp2)).run Try.prog W = .ok (.string ⟨#[97]⟩) W := by
    refine run_convert_bytes_back W 22 9 5 ⟨bb2, o2, none⟩ cp2 [97] Try.underlying22 Try.underlying5 Try.underlying9 ?_
    intro j hj
    obtain rfl : j = 0 := by simpa using hj
    have := h2 0 (by decide)
    simpa [Addr.add, bt] using this
  replace hW : W = w2.alloc (.cells #[.int .u8 1, .slice (some ⟨bb2, o2, none⟩) 1 cp2] 29) := hW
  replace f1 : W.cell? ⟨w2.heap.size, 1, none⟩ = some (.slice (some ⟨bb2, o2, none⟩) 1 cp2) := f1
  clear h1 h2 p3 p4 p5 c2 hbW
  go_wp2_with fail
  rw [← hW]
  replace hW := hide hW
  refine (num3_any _ _).mono ?_
  rintro e w' ⟨rfl, rfl⟩
  go_wp2_with fail
  refine (num3_any _ _).mono ?_
  rintro e w' ⟨rfl, rfl⟩
  go_wp2
  go_ret
  exact ⟨rfl, c3⟩

end Go.Proofs.Ytmdbgmnohdeoeaa
