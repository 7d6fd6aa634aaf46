/-
  Pick: the later of two superblocks: the program's and the page's.
-/
import Derived.Test.YtpebgepjohlklaaSDecR
namespace Go.Proofs.Ytpebgepjohlklaa
open Go.RowKit
set_option linter.unusedVariables false

theorem spick_no {a b : List UInt8} (h1 : (sdec a).2 ≠ 0) (h2 : (sdec b).2 ≠ 0) : spick a b = (bzero, 0, 21) := if_pos ⟨h1, h2⟩
theorem spick_b {a b : List UInt8} (h2 : (sdec b).2 = 0) (h1 : (sdec a).2 ≠ 0 ∨ (sdec a).1.1 < (sdec b).1.1) : spick a b = ((sdec b).1, 1, 0) := by
  unfold spick
  rw [if_neg (fun h => h.2 h2), if_pos (h1.imp id fun h => ⟨h2, h⟩)]
theorem spick_a {a b : List UInt8} (h1 : (sdec a).2 = 0) (h2 : (sdec b).2 ≠ 0 ∨ (sdec b).1.1 ≤ (sdec a).1.1) : spick a b = ((sdec a).1, 0, 0) := by
  unfold spick
  rw [if_neg (fun h => h.1 h1), if_neg]
  rintro (h | ⟨h, k⟩)
  · exact h h1
  · rcases h2 with h2 | h2
    · exact h2 h
    · omega

set_option maxRecDepth 100000 in
set_option maxHeartbeats 4000000 in
theorem ppick_any (w : World) (v1 v2 : Value) (a b : List UInt8) (h1 : Rd w v1 a) (h2 : Rd w v2 b) : Calls Try.prog 12 #[v1, v2] w fun e w' => e = .returned (.tuple #[.agg #[.int .i64 (spick a b).1.1, .int .i64 (spick a b).1.2.1, .int .i64 (spick a b).1.2.2.1, .int .i64 (spick a b).1.2.2.2.1, .int .i64 (spick a b).1.2.2.2.2], .int .i64 (spick a b).2.1, .int .i64 (spick a b).2.2]) ∧ Below w.heap.size w w' := by
  obtain ⟨p0, p1, p2, p3, p4, er, hA⟩ : ∃ p0 p1 p2 p3 p4 er, sdec a = ((p0, p1, p2, p3, p4), er) := ⟨_, _, _, _, _, _, rfl⟩
  obtain ⟨q0, q1, q2, q3, q4, fr, hB⟩ : ∃ q0 q1 q2 q3 q4 fr, sdec b = ((q0, q1, q2, q3, q4), fr) := ⟨_, _, _, _, _, _, rfl⟩
  have spA := hide (fun h => @spick_a a b h)
  have spB := hide (fun h => @spick_b a b h)
  have spN := hide (fun h => @spick_no a b h)
  rw [hA, hB] at spA spB spN
  dsimp only at spA spB spN
  have KD1 := hide (fun u (h : Rd u v1 a) => pdecode_any u v1 a h)
  have KD2 := hide (fun u (h : Rd u v2 b) => pdecode_any u v2 b h)
  rw [hA] at KD1
  rw [hB] at KD2
  dsimp only at KD1 KD2
  clear hA hB
  obtain ⟨X, hX, X0, bX, sX⟩ := boxedN w #[.int .i64 0, .int .i64 0, .int .i64 0, .int .i64 0, .int .i64 0] 28
  replace h1 := hide (h1.to bX)
  replace h2 := hide (h2.to bX)
  obtain ⟨a1, c1, hv1⟩ := h1.out.slice
  obtain ⟨a2, c2, hv2⟩ := h2.out.slice
  subst hv1 hv2
  go_enter Try.func12, Try.ntmps12
  go_wp2_with fail
  rw [← hX]
  replace hX := hide hX
  refine (KD1.out X h1.out).mono ?_
  rintro e w1 ⟨rfl, b1⟩
  clear KD1
  obtain ⟨Y, hY, Y0, bY, sY⟩ := boxedN w1 #[.int .i64 p0, .int .i64 p1, .int .i64 p2, .int .i64 p3, .int .i64 p4] 28
  have X1 : Y.heap[w.heap.size]? = _ := (bY.block _ (by have := b1.size; omega)).trans ((b1.block _ (by omega)).trans X0)
  have bXY := b1.trans (bY.mono b1.size)
  have cY := bX.trans (bXY.mono bX.size)
  have h3 := hide (h2.out.to bXY)
  obtain ⟨g1, hg1⟩ : ∃ g, g = w1.heap.size := ⟨_, rfl⟩
  rw [← hg1] at Y0
  have hgw1 : w.heap.size < g1 := by rw [hg1]; have := b1.size; omega
  clear X0 bX b1 bY bXY h1 h2
  replace X1 := hide X1
  replace Y0 := hide Y0
  replace cY := hide cY
  go_wp2_with fail
  rw [← hY, ← hg1]
  replace hY := hide hY
  replace hg1 := hide hg1
  refine (KD2.out Y h3.out).mono ?_
  rintro e w2 ⟨rfl, b2⟩
  clear KD2 h3
  obtain ⟨Z, hZ, Z0, bZ, sZ⟩ := boxedN w2 #[.int .i64 q0, .int .i64 q1, .int .i64 q2, .int .i64 q3, .int .i64 q4] 28
  have bYZ := b2.trans (bZ.mono b2.size)
  have X2 := (bYZ.block _ (lt_of_block X1.out)).trans X1.out
  have Y2 := (bYZ.block _ (lt_of_block Y0.out)).trans Y0.out
  have cZ := hide (cY.out.trans (bYZ.mono cY.out.size))
  obtain ⟨g2, hg2⟩ : ∃ g, g = w2.heap.size := ⟨_, rfl⟩
  rw [← hg2] at Z0
  clear X1 Y0 cY b2 bZ bYZ
  go_upto_region 3 with fail
  rw [← hZ, ← hg2]
  replace hZ := hide hZ
  replace hg2 := hide hg2
  obtain ⟨⟨r0, r1, r2, r3, r4⟩, rf⟩ := cells5 X2
  obtain ⟨⟨y0, y1, y2, y3, y4⟩, _⟩ := cells5 Y2
  obtain ⟨⟨z0, z1, z2, z3, z4⟩, _⟩ := cells5 Z0
  have f0 := rf 0
  have f1 := rf 1
  have f2 := rf 2
  have f3 := rf 3
  have f4 := rf 4
  replace X2 := hide X2
  clear Y2 Z0 rf
  by_cases he : er = 0
  · subst he
    by_cases hf : fr = 0
    · subst hf
      by_cases hlt : p0 < q0
      · have hS := hide (spB.out rfl (.inr hlt))
        go_wp2
        refine retNTT rfl rfl w.heap.size rfl _ _ (0, 0) (heap_set5 (u := Z) X2.out _ _ _ _ _) _ Try.underlying28 rfl infoBk _ rfl _ rfl ?_
        rw [hS.out]
        exact ⟨rfl, below_set5 cZ.out (Nat.le_refl _) _ _ _ _ _⟩
      · have hS := hide (spA.out rfl (.inr (by omega)))
        go_wp2
        refine retNTT rfl rfl w.heap.size rfl _ _ (0, 0) (heap_set5 (u := Z) X2.out _ _ _ _ _) _ Try.underlying28 rfl infoBk _ rfl _ rfl ?_
        rw [hS.out]
        exact ⟨rfl, below_set5 cZ.out (Nat.le_refl _) _ _ _ _ _⟩
    · have hS := hide (spA.out rfl (.inl hf))
      have hfe : (fr != 0) = true := by simpa using hf
      have hfe2 : (fr == 0) = false := by simpa using hf
      replace hf := hide hf
      go_wp2
      refine retNTT rfl rfl w.heap.size rfl _ _ (0, 0) (heap_set5 (u := Z) X2.out _ _ _ _ _) _ Try.underlying28 rfl infoBk _ rfl _ rfl ?_
      rw [hS.out]
      exact ⟨rfl, below_set5 cZ.out (Nat.le_refl _) _ _ _ _ _⟩
  · have hee : (er != 0) = true := by simpa using he
    by_cases hf : fr = 0
    · subst hf
      have hS := hide (spB.out rfl (.inl he))
      replace he := hide he
      go_wp2
      refine retNTT rfl rfl w.heap.size rfl _ _ (0, 0) (heap_set5 (u := Z) X2.out _ _ _ _ _) _ Try.underlying28 rfl infoBk _ rfl _ rfl ?_
      rw [hS.out]
      exact ⟨rfl, below_set5 cZ.out (Nat.le_refl _) _ _ _ _ _⟩
    · have hfe : (fr != 0) = true := by simpa using hf
      have hS := hide (spN.out he hf)
      replace he := hide he
      replace hf := hide hf
      go_wp2
      refine retNTT rfl rfl w.heap.size rfl _ _ (0, 0) (heap_set5 (u := Z) X2.out _ _ _ _ _) _ Try.underlying28 rfl infoBk _ rfl _ rfl ?_
      rw [hS.out]
      exact ⟨rfl, below_set5 cZ.out (Nat.le_refl _) _ _ _ _ _⟩

set_option maxRecDepth 100000 in
set_option maxHeartbeats 4000000 in
theorem rpick_any (w : World) (v1 v2 : Value) (a b : List UInt8) (h1 : Rd w v1 a) (h2 : Rd w v2 b) : Calls Try.prog 13 #[v1, v2] w fun e w' => e = .returned (.tuple #[.agg #[.int .i64 (spick a b).1.1, .int .i64 (spick a b).1.2.1, .int .i64 (spick a b).1.2.2.1, .int .i64 (spick a b).1.2.2.2.1, .int .i64 (spick a b).1.2.2.2.2], .int .i64 (spick a b).2.1, .int .i64 (spick a b).2.2]) ∧ Below w.heap.size w w' := by
  obtain ⟨p0, p1, p2, p3, p4, er, hA⟩ : ∃ p0 p1 p2 p3 p4 er, sdec a = ((p0, p1, p2, p3, p4), er) := ⟨_, _, _, _, _, _, rfl⟩
  obtain ⟨q0, q1, q2, q3, q4, fr, hB⟩ : ∃ q0 q1 q2 q3 q4 fr, sdec b = ((q0, q1, q2, q3, q4), fr) := ⟨_, _, _, _, _, _, rfl⟩
  have spA := hide (fun h => @spick_a a b h)
  have spB := hide (fun h => @spick_b a b h)
  have spN := hide (fun h => @spick_no a b h)
  rw [hA, hB] at spA spB spN
  dsimp only at spA spB spN
  have KD1 := hide (fun u (h : Rd u v1 a) => rdecode_any u v1 a h)
  have KD2 := hide (fun u (h : Rd u v2 b) => rdecode_any u v2 b h)
  rw [hA] at KD1
  rw [hB] at KD2
  dsimp only at KD1 KD2
  clear hA hB
  obtain ⟨X, hX, X0, bX, sX⟩ := boxedN w #[.int .i64 0, .int .i64 0, .int .i64 0, .int .i64 0, .int .i64 0] 23
  replace h1 := hide (h1.to bX)
  replace h2 := hide (h2.to bX)
  obtain ⟨a1, c1, hv1⟩ := h1.out.slice
  obtain ⟨a2, c2, hv2⟩ := h2.out.slice
  subst hv1 hv2
  go_enter Try.func13, Try.ntmps13
  go_wp2_with fail
  rw [← hX]
  replace hX := hide hX
  refine (KD1.out X h1.out).mono ?_
  rintro e w1 ⟨rfl, b1⟩
  clear KD1
  obtain ⟨Y, hY, Y0, bY, sY⟩ := boxedN w1 #[.int .i64 p0, .int .i64 p1, .int .i64 p2, .int .i64 p3, .int .i64 p4] 23
  have X1 : Y.heap[w.heap.size]? = _ := (bY.block _ (by have := b1.size; omega)).trans ((b1.block _ (by omega)).trans X0)
  have bXY := b1.trans (bY.mono b1.size)
  have cY := bX.trans (bXY.mono bX.size)
  have h3 := hide (h2.out.to bXY)
  obtain ⟨g1, hg1⟩ : ∃ g, g = w1.heap.size := ⟨_, rfl⟩
  rw [← hg1] at Y0
  have hgw1 : w.heap.size < g1 := by rw [hg1]; have := b1.size; omega
  clear X0 bX b1 bY bXY h1 h2
  replace X1 := hide X1
  replace Y0 := hide Y0
  replace cY := hide cY
  go_wp2_with fail
  rw [← hY, ← hg1]
  replace hY := hide hY
  replace hg1 := hide hg1
  refine (KD2.out Y h3.out).mono ?_
  rintro e w2 ⟨rfl, b2⟩
  clear KD2 h3
  obtain ⟨Z, hZ, Z0, bZ, sZ⟩ := boxedN w2 #[.int .i64 q0, .int .i64 q1, .int .i64 q2, .int .i64 q3, .int .i64 q4] 23
  have bYZ := b2.trans (bZ.mono b2.size)
  have X2 := (bYZ.block _ (lt_of_block X1.out)).trans X1.out
  have Y2 := (bYZ.block _ (lt_of_block Y0.out)).trans Y0.out
  have cZ := hide (cY.out.trans (bYZ.mono cY.out.size))
  obtain ⟨g2, hg2⟩ : ∃ g, g = w2.heap.size := ⟨_, rfl⟩
  rw [← hg2] at Z0
  clear X1 Y0 cY b2 bZ bYZ
  go_upto_region 3 with fail
  rw [← hZ, ← hg2]
  replace hZ := hide hZ
  replace hg2 := hide hg2
  obtain ⟨⟨r0, r1, r2, r3, r4⟩, rf⟩ := cells5 X2
  obtain ⟨⟨y0, y1, y2, y3, y4⟩, _⟩ := cells5 Y2
  obtain ⟨⟨z0, z1, z2, z3, z4⟩, _⟩ := cells5 Z0
  have f0 := rf 0
  have f1 := rf 1
  have f2 := rf 2
  have f3 := rf 3
  have f4 := rf 4
  replace X2 := hide X2
  clear Y2 Z0 rf
  by_cases he : er = 0
  · subst he
    by_cases hf : fr = 0
    · subst hf
      by_cases hlt : p0 < q0
      · have hS := hide (spB.out rfl (.inr hlt))
        go_wp2
        refine retNTT rfl rfl w.heap.size rfl _ _ (0, 0) (heap_set5 (u := Z) X2.out _ _ _ _ _) _ Try.underlying23 rfl infoBkR _ rfl _ rfl ?_
        rw [hS.out]
        exact ⟨rfl, below_set5 cZ.out (Nat.le_refl _) _ _ _ _ _⟩
      · have hS := hide (spA.out rfl (.inr (by omega)))
        go_wp2
        refine retNTT rfl rfl w.heap.size rfl _ _ (0, 0) (heap_set5 (u := Z) X2.out _ _ _ _ _) _ Try.underlying23 rfl infoBkR _ rfl _ rfl ?_
        rw [hS.out]
        exact ⟨rfl, below_set5 cZ.out (Nat.le_refl _) _ _ _ _ _⟩
    · have hS := hide (spA.out rfl (.inl hf))
      have hfe : (fr != 0) = true := by simpa using hf
      have hfe2 : (fr == 0) = false := by simpa using hf
      replace hf := hide hf
      go_wp2
      refine retNTT rfl rfl w.heap.size rfl _ _ (0, 0) (heap_set5 (u := Z) X2.out _ _ _ _ _) _ Try.underlying23 rfl infoBkR _ rfl _ rfl ?_
      rw [hS.out]
      exact ⟨rfl, below_set5 cZ.out (Nat.le_refl _) _ _ _ _ _⟩
  · have hee : (er != 0) = true := by simpa using he
    by_cases hf : fr = 0
    · subst hf
      have hS := hide (spB.out rfl (.inl he))
      replace he := hide he
      go_wp2
      refine retNTT rfl rfl w.heap.size rfl _ _ (0, 0) (heap_set5 (u := Z) X2.out _ _ _ _ _) _ Try.underlying23 rfl infoBkR _ rfl _ rfl ?_
      rw [hS.out]
      exact ⟨rfl, below_set5 cZ.out (Nat.le_refl _) _ _ _ _ _⟩
    · have hfe : (fr != 0) = true := by simpa using hf
      have hS := hide (spN.out he hf)
      replace he := hide he
      replace hf := hide hf
      go_wp2
      refine retNTT rfl rfl w.heap.size rfl _ _ (0, 0) (heap_set5 (u := Z) X2.out _ _ _ _ _) _ Try.underlying23 rfl infoBkR _ rfl _ rfl ?_
      rw [hS.out]
      exact ⟨rfl, below_set5 cZ.out (Nat.le_refl _) _ _ _ _ _⟩

end Go.Proofs.Ytpebgepjohlklaa
