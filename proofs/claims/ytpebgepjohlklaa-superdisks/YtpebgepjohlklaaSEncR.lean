/-
  Encode of a superblock: the page's.
-/
import Derived.Test.YtpebgepjohlklaaSEncP
namespace Go.Proofs.Ytpebgepjohlklaa
open Go.RowKit
set_option linter.unusedVariables false

/-- append onto octets that are full: they are laid anew -/
theorem wpList_grow_octs {ops : Array Oper} {rest : List Oper} {o : Oper} {a : Act} {w : World} {Q : Exit → Act → World → Prop} (hgd : o.guard = none) (s x : Operand)
    (ho : o.op = .call { callee := .builtin .append, args := #[s, x], argTypes := #[24, 24] }) (g n : Nat) (v2 : Value) (xs ys : List UInt8) (hs : a.eval s = .slice (some ⟨g, 0, none⟩) n n) (hx : a.eval x = v2)
    (h1 : Rd w (.slice (some ⟨g, 0, none⟩) n n) xs) (h2 : Rd w v2 ys) (h0 : 0 < xs.length) (hy : 0 < ys.length) (hlen : xs.length + ys.length ≤ 140737488355328)
    (h : ∀ v' w', OwnB w.heap.size w' v' (xs ++ ys) → Below w.heap.size w w' → wpList Try.prog ops Q rest (a.put o.dst v') w') : wpList Try.prog ops Q (o :: rest) a w := by
  obtain ⟨i0, hi, hz0, hz1, hz2⟩ := info_parts info8
  obtain ⟨ao, c, e, l1, m1, n1, r1⟩ := h1
  simp only [Value.slice.injEq] at e
  obtain ⟨rfl, rfl, rfl⟩ := e
  rcases r1 with r1 | ⟨b1, off1, e1, hc1⟩
  · subst r1; simp at h0
  · simp only [Option.some.injEq, Addr.mk.injEq, and_true] at e1
    obtain ⟨rfl, rfl⟩ := e1
    obtain ⟨ao2, c2, rfl, l2, m2, n2, r2⟩ := h2
    rcases r2 with r2 | ⟨b2, off2, rfl, hc2⟩
    · subst r2; simp at hy
    · refine wpList_append_grows w hgd s x 24 ho 5 i0 (.int .u8 0) 1 1 Try.underlying24 hi hz0 hz1 hz2 rfl (by decide) (some ⟨g, 0, none⟩) xs.length xs.length (xs.map enc) hs (fun e => by cases e) (by simp)
        (fun b hb => by cases hb; exact news_octs hc1) ⟨b2, off2, none⟩ ys.length c2 (ys.map enc) hx (by simp) (news_octs hc2) (enc_one ys) (by omega) (by rw [show maxLen = 9223372036854775807 from rfl]; omega) (by omega) ?_
      intro v' w' k1 k2
      refine h v' w' ?_ ((Below.refl _ _).grown k2 (Nat.le_refl _) (fun k hk => by cases hk))
      unfold OwnB
      simpa using k1

set_option maxRecDepth 100000 in
set_option maxHeartbeats 4000000 in
theorem rencode_any (w : World) (b : Blk) : Calls Try.prog 9 #[.agg #[.int .i64 b.1, .int .i64 b.2.1, .int .i64 b.2.2.1, .int .i64 b.2.2.2.1, .int .i64 b.2.2.2.2]] w fun e w' => ∃ v', e = .returned (.tuple #[v', .int .i64 (senc b).2]) ∧ OwnB w.heap.size w' v' (senc b).1 ∧ Below w.heap.size w w' := by
  by_cases hok : bok b
  · have KC := fun u => rcheck6_any u b
    have KN := fun u => rnumbers_any u b
    rw [scheck_ok hok] at KC
    rw [senc_ok hok]
    obtain ⟨n0, n1, n2, n3, n4⟩ := b
    dsimp only at KC KN ⊢
    obtain ⟨m0, rfl, hm0⟩ := fit_nat (hok n0 (by simp [bls]))
    obtain ⟨m1, rfl, hm1⟩ := fit_nat (hok n1 (by simp [bls]))
    obtain ⟨m2, rfl, hm2⟩ := fit_nat (hok n2 (by simp [bls]))
    obtain ⟨m3, rfl, hm3⟩ := fit_nat (hok n3 (by simp [bls]))
    obtain ⟨m4, rfl, hm4⟩ := fit_nat (hok n4 (by simp [bls]))
    replace KC := hide KC
    replace KN := hide KN
    clear hok
    obtain ⟨X, hX, X0, bX, sX⟩ := boxedN w #[.int .i64 (m0 : Int), .int .i64 (m1 : Int), .int .i64 (m2 : Int), .int .i64 (m3 : Int), .int .i64 (m4 : Int)] 23
    obtain ⟨⟨d0, d1, d2, d3, d4⟩, _⟩ := cells5 X0
    rw [hX] at d0 d1 d2 d3 d4
    go_enter Try.func9, Try.ntmps9
    go_wp2_with fail
    rw [← hX]
    clear d0 d1 d2 d3 d4
    replace hX := hide hX
    refine (KC.out X).mono ?_
    rintro e w1 ⟨rfl, b1⟩
    have c1 := bX.trans (b1.mono bX.size)
    have X1 : w1.heap[w.heap.size]? = _ := (b1.block _ (by omega)).trans X0
    clear X0 bX b1
    obtain ⟨Y, hY⟩ : ∃ u, u = w1.alloc (.cells #[.int .u8 116, .int .u8 115, .int .u8 98, .int .u8 49] 5) := ⟨_, rfl⟩
    have rY : Rd (Y.freeze ⟨w1.heap.size, 4, none⟩ 1) (.slice (some ⟨w1.heap.size, 0, none⟩) 4 4) smark :=
      Rd.freeze (by rw [hY]; exact rd_lit w1 smark _ _ _ rfl rfl rfl (by decide)) _ _
    have bY0 : Below w1.heap.size w1 Y := by rw [hY]; exact (Below.refl _ _).alloc (Nat.le_refl _) _
    have bY : Below w1.heap.size w1 (Y.freeze ⟨w1.heap.size, 4, none⟩ 1) := Lib.below_freeze bY0 (p := ⟨w1.heap.size, 4, none⟩) (Nat.le_refl _) 1
    have hcv := conv_same Y w1.heap.size 4 4 5 4 (by rw [hY, World.shape?, heap_alloc_last]; rfl)
    obtain ⟨w2, hw2⟩ : ∃ u, u = Y.freeze ⟨w1.heap.size, 4, none⟩ 1 := ⟨_, rfl⟩
    rw [← hw2] at rY bY hcv
    rw [hY] at hcv
    have X2 := (bY.block _ (lt_of_block X1)).trans X1
    obtain ⟨⟨d0, d1, d2, d3, d4⟩, _⟩ := cells5 X2
    replace hw2 := hide hw2
    replace c1 := hide (c1.trans (bY.mono c1.size))
    have hg12 := bY.size
    replace rY := hide rY
    clear bY0 bY X1 X2 hY
    go_wp2_with fail
    clear hcv d0 d1 d2 d3 d4
    refine (KN.out w2).mono ?_
    rintro e w3 ⟨g, rfl, G0, b3⟩
    have c3 := c1.out.trans (b3.mono c1.out.size)
    replace rY := hide (rY.out.to b3)
    replace c3 := hide c3
    replace G0 := hide G0
    have hg3 : g < w3.heap.size := lt_of_block G0.out
    clear b3 c1
    go_wp2
    go_loopw [4, 6] (fun v i wr => ∃ K : Nat, K ≤ 5 ∧ i = .int .i64 K ∧ Hid ((K = 0 → v = .slice (some ⟨w1.heap.size, 0, none⟩) 4 4 ∧ w3 = wr) ∧ (1 ≤ K → OwnB w3.heap.size wr v (smark ++ ocs ((bls ((m0 : Int), (m1 : Int), (m2 : Int), (m3 : Int), (m4 : Int))).take K))) ∧ Below w3.heap.size w3 wr)) (fun _ i _ => 5 - (intOf i).toNat)
    case atStart => exact ⟨0, by omega, rfl, hide ⟨fun _ => ⟨rfl, rfl⟩, fun h => by omega, Below.refl _ _⟩⟩
    case round =>
      obtain ⟨K, hK, rfl, hI⟩ := hrel
      obtain ⟨⟨d0, d1, d2, d3, d4⟩, _⟩ := cells5 ((hI.out.2.2.block _ hg3).trans G0.out)
      have hcases : K = 0 ∨ K = 1 ∨ K = 2 ∨ K = 3 ∨ K = 4 ∨ K = 5 := by omega
      rcases hcases with rfl | rfl | rfl | rfl | rfl | rfl
      · have hwr := wrap_u64_nat m0 hm0
        obtain ⟨rfl, rfl⟩ := hI.out.1 rfl
        go_wp2_with fail
        refine (refOctets_any w3 m0 8 (by decide) (by omega)).mono ?_
        rintro e w5 ⟨v5, rfl, o5, b5⟩
        have rA := rY.out.to b5
        obtain ⟨Z, hZ, r5⟩ : ∃ Z, Z = oc m0 8 ∧ Rd w5 v5 Z := ⟨_, rfl, o5.rd⟩
        have hzl : 0 < Z.length := by rw [hZ, oc_length]; omega
        have hl : smark.length + Z.length ≤ 140737488355328 := by rw [hZ, oc_length]; decide
        obtain ⟨hb, hd, rfl⟩ := r5.slice
        replace hZ := hide hZ
        have bA := hide b5
        clear d0 d1 d2 d3 d4 o5 hI b5
        go_wp2_with (at_builtin; refine wpList_grow_octs rfl _ _ rfl w1.heap.size 4 _ smark Z rfl rfl rA r5 (by decide) hzl hl ?_; intro v6 w6 o6 b6)
        go_roundw
        case rel => exact ⟨0 + 1, by omega, by go_num, hide ⟨fun h => by omega, fun _ => by rw [ocs_take (K := 0) (m := m0) rfl]; show OwnB _ _ _ (smark ++ ([] ++ _)); rw [List.nil_append, ← hZ.out]; exact OwnB.mono o6 bA.out.size, bA.out.trans (b6.mono bA.out.size)⟩⟩
        case measure => simp [intOf]
      · have hwr := wrap_u64_nat m1 hm1
        go_wp2_with fail
        refine (refOctets_any wr m1 8 (by decide) (by omega)).mono ?_
        rintro e w5 ⟨v5, rfl, o5, b5⟩
        have bA := hI.out.2.2.trans (b5.mono hI.out.2.2.size)
        obtain ⟨Y, hY, oA⟩ : ∃ Y, Y = smark ++ ocs ((bls ((m0 : Int), (m1 : Int), (m2 : Int), (m3 : Int), (m4 : Int))).take 1) ∧ OwnB w3.heap.size w5 u4 Y := ⟨_, rfl, (hI.out.2.1 (by omega)).below (Nat.le_refl _) b5⟩
        obtain ⟨Z, hZ, r5⟩ : ∃ Z, Z = oc m1 8 ∧ Rd w5 v5 Z := ⟨_, rfl, o5.rd⟩
        have hl : Y.length + Z.length ≤ 140737488355328 := by rw [hY, hZ, ocs_take_len _ _ (by omega), oc_length]; omega
        have hsz := bA.size
        obtain ⟨ha, hc, rfl⟩ := oA.rd.slice
        obtain ⟨hb, hd, rfl⟩ := r5.slice
        replace hY := hide hY
        replace hZ := hide hZ
        replace bA := hide bA
        clear d0 d1 d2 d3 d4 o5 b5 hI
        go_wp2_with (at_builtin; refine wpList_append_octs rfl _ _ rfl w3.heap.size _ _ _ _ rfl rfl oA r5 hl hsz ?_; intro v6 w6 o6 b6 _)
        go_roundw
        case rel => exact ⟨1 + 1, by omega, by go_num, hide ⟨fun h => by omega, fun _ => by rw [ocs_take (K := 1) (m := m1) rfl, ← List.append_assoc, ← hY.out, ← hZ.out]; exact o6, bA.out.trans b6⟩⟩
        case measure => simp [intOf]
      · have hwr := wrap_u64_nat m2 hm2
        go_wp2_with fail
        refine (refOctets_any wr m2 8 (by decide) (by omega)).mono ?_
        rintro e w5 ⟨v5, rfl, o5, b5⟩
        have bA := hI.out.2.2.trans (b5.mono hI.out.2.2.size)
        obtain ⟨Y, hY, oA⟩ : ∃ Y, Y = smark ++ ocs ((bls ((m0 : Int), (m1 : Int), (m2 : Int), (m3 : Int), (m4 : Int))).take 2) ∧ OwnB w3.heap.size w5 u4 Y := ⟨_, rfl, (hI.out.2.1 (by omega)).below (Nat.le_refl _) b5⟩
        obtain ⟨Z, hZ, r5⟩ : ∃ Z, Z = oc m2 8 ∧ Rd w5 v5 Z := ⟨_, rfl, o5.rd⟩
        have hl : Y.length + Z.length ≤ 140737488355328 := by rw [hY, hZ, ocs_take_len _ _ (by omega), oc_length]; omega
        have hsz := bA.size
        obtain ⟨ha, hc, rfl⟩ := oA.rd.slice
        obtain ⟨hb, hd, rfl⟩ := r5.slice
        replace hY := hide hY
        replace hZ := hide hZ
        replace bA := hide bA
        clear d0 d1 d2 d3 d4 o5 b5 hI
        go_wp2_with (at_builtin; refine wpList_append_octs rfl _ _ rfl w3.heap.size _ _ _ _ rfl rfl oA r5 hl hsz ?_; intro v6 w6 o6 b6 _)
        go_roundw
        case rel => exact ⟨2 + 1, by omega, by go_num, hide ⟨fun h => by omega, fun _ => by rw [ocs_take (K := 2) (m := m2) rfl, ← List.append_assoc, ← hY.out, ← hZ.out]; exact o6, bA.out.trans b6⟩⟩
        case measure => simp [intOf]
      · have hwr := wrap_u64_nat m3 hm3
        go_wp2_with fail
        refine (refOctets_any wr m3 8 (by decide) (by omega)).mono ?_
        rintro e w5 ⟨v5, rfl, o5, b5⟩
        have bA := hI.out.2.2.trans (b5.mono hI.out.2.2.size)
        obtain ⟨Y, hY, oA⟩ : ∃ Y, Y = smark ++ ocs ((bls ((m0 : Int), (m1 : Int), (m2 : Int), (m3 : Int), (m4 : Int))).take 3) ∧ OwnB w3.heap.size w5 u4 Y := ⟨_, rfl, (hI.out.2.1 (by omega)).below (Nat.le_refl _) b5⟩
        obtain ⟨Z, hZ, r5⟩ : ∃ Z, Z = oc m3 8 ∧ Rd w5 v5 Z := ⟨_, rfl, o5.rd⟩
        have hl : Y.length + Z.length ≤ 140737488355328 := by rw [hY, hZ, ocs_take_len _ _ (by omega), oc_length]; omega
        have hsz := bA.size
        obtain ⟨ha, hc, rfl⟩ := oA.rd.slice
        obtain ⟨hb, hd, rfl⟩ := r5.slice
        replace hY := hide hY
        replace hZ := hide hZ
        replace bA := hide bA
        clear d0 d1 d2 d3 d4 o5 b5 hI
        go_wp2_with (at_builtin; refine wpList_append_octs rfl _ _ rfl w3.heap.size _ _ _ _ rfl rfl oA r5 hl hsz ?_; intro v6 w6 o6 b6 _)
        go_roundw
        case rel => exact ⟨3 + 1, by omega, by go_num, hide ⟨fun h => by omega, fun _ => by rw [ocs_take (K := 3) (m := m3) rfl, ← List.append_assoc, ← hY.out, ← hZ.out]; exact o6, bA.out.trans b6⟩⟩
        case measure => simp [intOf]
      · have hwr := wrap_u64_nat m4 hm4
        go_wp2_with fail
        refine (refOctets_any wr m4 8 (by decide) (by omega)).mono ?_
        rintro e w5 ⟨v5, rfl, o5, b5⟩
        have bA := hI.out.2.2.trans (b5.mono hI.out.2.2.size)
        obtain ⟨Y, hY, oA⟩ : ∃ Y, Y = smark ++ ocs ((bls ((m0 : Int), (m1 : Int), (m2 : Int), (m3 : Int), (m4 : Int))).take 4) ∧ OwnB w3.heap.size w5 u4 Y := ⟨_, rfl, (hI.out.2.1 (by omega)).below (Nat.le_refl _) b5⟩
        obtain ⟨Z, hZ, r5⟩ : ∃ Z, Z = oc m4 8 ∧ Rd w5 v5 Z := ⟨_, rfl, o5.rd⟩
        have hl : Y.length + Z.length ≤ 140737488355328 := by rw [hY, hZ, ocs_take_len _ _ (by omega), oc_length]; omega
        have hsz := bA.size
        obtain ⟨ha, hc, rfl⟩ := oA.rd.slice
        obtain ⟨hb, hd, rfl⟩ := r5.slice
        replace hY := hide hY
        replace hZ := hide hZ
        replace bA := hide bA
        clear d0 d1 d2 d3 d4 o5 b5 hI
        go_wp2_with (at_builtin; refine wpList_append_octs rfl _ _ rfl w3.heap.size _ _ _ _ rfl rfl oA r5 hl hsz ?_; intro v6 w6 o6 b6 _)
        go_roundw
        case rel => exact ⟨4 + 1, by omega, by go_num, hide ⟨fun h => by omega, fun _ => by rw [ocs_take (K := 4) (m := m4) rfl, ← List.append_assoc, ← hY.out, ← hZ.out]; exact o6, bA.out.trans b6⟩⟩
        case measure => simp [intOf]
      · have oH : OwnB w3.heap.size wr u4 (shead ((m0 : Int), (m1 : Int), (m2 : Int), (m3 : Int), (m4 : Int))) := hI.out.2.1 (by omega)
        have bH := hI.out.2.2
        obtain ⟨ha, hc, rfl⟩ := oH.rd.slice
        have hsl := shead_len ((m0 : Int), (m1 : Int), (m2 : Int), (m3 : Int), (m4 : Int))
        have KS := hide (psum_any wr _ _ oH.rd (by omega))
        have hws := sum64 (shead ((m0 : Int), (m1 : Int), (m2 : Int), (m3 : Int), (m4 : Int)))
        have hS := sum_lt (shead ((m0 : Int), (m1 : Int), (m2 : Int), (m3 : Int), (m4 : Int)))
        unfold M32 at hS
        generalize hhd : shead ((m0 : Int), (m1 : Int), (m2 : Int), (m3 : Int), (m4 : Int)) = H at *
        replace hhd := hide hhd
        replace hsl := hide hsl
        replace oH := hide oH
        replace bH := hide bH
        clear d0 d1 d2 d3 d4 hI
        go_wp2_with fail
        refine KS.out.mono ?_
        rintro e w' ⟨rfl, rfl⟩
        clear KS
        have KO := hide (refOctets_any wr (sum H) 4 (by decide) (by omega))
        generalize hse : sum H = S at *
        replace hse := hide hse
        go_wp2_with fail
        refine KO.out.mono ?_
        rintro e w5 ⟨v5, rfl, o5, b5⟩
        have oA := oH.out.below (Nat.le_refl _) b5
        have bA := bH.out.trans (b5.mono bH.out.size)
        obtain ⟨Z, hZ, r5⟩ : ∃ Z, Z = oc S 4 ∧ Rd w5 v5 Z := ⟨_, rfl, o5.rd⟩
        have hzl : Z.length = 4 := by rw [hZ, oc_length]
        have hl : H.length + Z.length ≤ 140737488355328 := by rw [hzl, hsl.out]; omega
        have hsz := bA.size
        obtain ⟨hb, hd, rfl⟩ := r5.slice
        replace hZ := hide hZ
        replace hzl := hide hzl
        clear o5 b5 KO
        have hzr : ∀ v6 w6, OwnB w3.heap.size w6 v6 (H ++ Z) → Below w3.heap.size w5 w6 → ∃ a6 c6 v7 w7, v6 = .slice a6 48 c6 ∧ (Builtin.append_ #[24, 3] 24 #[.slice a6 48 c6, .int .i64 16]).run Try.prog w6 = .ok v7 w7 ∧ OwnB w3.heap.size w7 v7 (H ++ Z ++ List.replicate 16 0) ∧ Below w3.heap.size w3 w7 := fun v6 w6 o6 b6 => by
          have bB := bA.trans b6
          have hl6 : (H ++ Z).length = 48 := by rw [List.length_append, hzl.out, hsl.out]
          obtain ⟨a6, c6, e6⟩ := o6.rd.slice
          rw [hl6] at e6
          subst e6
          obtain ⟨v7, w7, hr7, o7, gr7⟩ := run_append_zeros w6 24 o6 16 (by omega) bB.size
          exact ⟨a6, c6, v7, w7, rfl, hr7, o7, bB.grown gr7 (by exact bB.size) o6.from⟩
        replace hzr := hide hzr
        go_wp2_with (first
          | (at_builtin; refine wpList_append_octs rfl _ _ rfl w3.heap.size _ _ _ _ rfl rfl oA r5 hl hsz ?_; intro v6 w6 o6 b6 _; obtain ⟨a6, c6, v7, w7, rfl, hr7, o7, b7⟩ := hzr.out v6 w6 o6 b6)
          | (at_builtin; refine Lib.wpList_append_run _ rfl _ _ _ _ rfl _ _ rfl rfl _ _ hr7 ?_))
        go_ret2
        refine ⟨_, rfl, ?_, c3.out.trans (b7.mono c3.out.size)⟩
        unfold sencO
        rw [hhd.out, hse.out, ← hZ.out]
        exact o7.mono c3.out.size
  · have KC := fun u => rcheck6_any u b
    rw [scheck_no hok] at KC
    rw [senc_no hok]
    obtain ⟨n0, n1, n2, n3, n4⟩ := b
    dsimp only at KC ⊢
    replace KC := hide KC
    clear hok
    obtain ⟨X, hX, X0, bX, sX⟩ := boxedN w #[.int .i64 n0, .int .i64 n1, .int .i64 n2, .int .i64 n3, .int .i64 n4] 23
    obtain ⟨⟨d0, d1, d2, d3, d4⟩, _⟩ := cells5 X0
    rw [hX] at d0 d1 d2 d3 d4
    go_enter Try.func9, Try.ntmps9
    go_wp2_with fail
    rw [← hX]
    clear d0 d1 d2 d3 d4
    replace hX := hide hX
    refine (KC.out X).mono ?_
    rintro e w1 ⟨rfl, b1⟩
    go_wp2
    go_ret2
    exact ⟨_, rfl, World.ownsRow_nil _ _ _ _, bX.trans (b1.mono bX.size)⟩

end Go.Proofs.Ytpebgepjohlklaa
