/-
  The law's own 'alive' (the page's example of super) answers true; it makes memory of its own and changes none that was there.
-/
import Derived.Test.YtpebgepjohlklaaSIn
namespace Go.Proofs.Ytpebgepjohlklaa
open Go.RowKit
set_option linter.unusedVariables false

theorem bok_zero : bok (0, 0, 0, 0, 0) := by decide
set_option maxRecDepth 100000 in
set_option maxHeartbeats 2000000 in
theorem salive_any (w : World) : Calls Try.prog 18 #[] w fun e w' => e = .returned (.bool true) ∧ Below w.heap.size w w' := by
  have KE := hide (pencode_any w (0, 0, 0, 0, 0))
  rw [senc_ok bok_zero] at KE
  dsimp only at KE
  obtain ⟨Y, hY⟩ : ∃ Y, Y = sencO (0, 0, 0, 0, 0) := ⟨_, rfl⟩
  have hYl : Y.length = 64 := by rw [hY]; exact sencO_len _
  have hY4 : Y.take 4 = smark := by rw [hY]; exact senc_take4 _
  have hYd : sdec Y = ((0, 0, 0, 0, 0), 0) := by rw [hY]; exact sdec_enc bok_zero
  rw [← hY] at KE
  clear hY
  go_enter Try.func18, Try.ntmps18
  go_wp2_with fail
  refine KE.out.mono ?_
  rintro e w1 ⟨v1, rfl, o1, b1⟩
  clear KE
  obtain ⟨b, o, c, rfl, hc, hcm, hR⟩ := rd64 o1.rd hYl
  have KD := hide (pdecode_any w1 _ Y o1.rd)
  rw [hYd] at KD
  dsimp only at KD
  have r4 : Rd w1 (.slice (some ⟨b, o, none⟩) 4 c) (Y.take 4) := by simpa using hR 0 4 (by omega) (by omega)
  rw [hY4] at r4
  clear hR o1 hYl hY4 hYd
  go_wp2_with fail
  refine KD.out.mono ?_
  rintro e w2 ⟨rfl, b2⟩
  clear KD
  have k4 := conv_rd (r4.to b2) (by decide)
  have hq4 : (4 : Int) ≤ (c : Int) := by omega
  obtain ⟨X, hX, X0, bX, sX⟩ := boxedN w2 #[.int .i64 0, .int .i64 0, .int .i64 0, .int .i64 0, .int .i64 0] 28
  have k4' := conv_rd ((r4.to b2).to bX) (by decide)
  have c2 := b1.trans (b2.mono b1.size)
  have cX := hide (c2.trans (bX.mono c2.size))
  obtain ⟨⟨r0, r1, r2, r3, r4'⟩, _⟩ := cells5 X0
  clear b1 b2 c2 bX r4 k4
  go_upto_region 3 with fail
  rw [← hX]
  obtain ⟨gx, hgx⟩ : ∃ g, g = w2.heap.size := ⟨_, rfl⟩
  rw [← hgx] at r0 r1 r2 r3 r4' ⊢
  replace hX := hide hX
  replace hgx := hide hgx
  go_wp2_with fail
  refine (num6_any _ _).mono ?_
  rintro e w' ⟨rfl, rfl⟩
  go_wp2_with fail
  refine (num6_any _ _).mono ?_
  rintro e w' ⟨rfl, rfl⟩
  go_wp2
  go_ret
  exact ⟨rfl, cX.out⟩

end Go.Proofs.Ytpebgepjohlklaa
