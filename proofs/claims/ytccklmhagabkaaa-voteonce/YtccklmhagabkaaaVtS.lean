/-
  The program's Decide of votes.
-/
import Derived.Deep.CutRange
import Derived.Test.YtccklmhagabkaaaVtR
namespace Go.Proofs.Ytccklmhagabkaaa
open Go.RowKit
set_option linter.unusedVariables false
set_option linter.unusedSimpArgs false

theorem heap_ne3v {u : World} {g k : Nat} (h : g ≠ k) (x y z : Value) : (((u.setCell ⟨g, 0, none⟩ x).setCell ⟨g, 1, none⟩ y).setCell ⟨g, 2, none⟩ z).heap[k]? = u.heap[k]? := by
  simp [World.setCell, Array.getElem?_modify, h]
set_option maxRecDepth 100000 in
set_option maxHeartbeats 4000000 in
theorem pdec16_any (w : World) (s : Vs) (own ot : Int) (a : Vq) : Calls Try.prog 7 #[sv16 s, .int .i64 own, .int .i64 ot, av16 a] w fun e w' => e = .returned (.tuple #[sv16 (vdec s own ot a).1, .bool (vdec s own ot a).2.1, .int .i64 (vdec s own ot a).2.2]) ∧ Below w.heap.size w w' := by
  obtain ⟨aterm, afrom, alast, alterm⟩ := a
  obtain ⟨RR, hRR⟩ : ∃ R, R = vdec s own ot ⟨aterm, afrom, alast, alterm⟩ := ⟨_, rfl⟩
  rw [← hRR]
  have RN : Hid (¬ VOk s → RR = (vnil, false, 9)) := fun k => hRR.trans (if_neg k)
  have R4 : Hid (VOk s → ¬ ((1 ≤ aterm ∧ aterm ≤ 1099511627776) ∧ (0 ≤ afrom ∧ afrom ≤ 8)) → RR = (vnil, false, 4)) := fun k q => hRR.trans ((if_pos k).trans (if_neg (by rintro ⟨p1, p2, p3, p4⟩; dsimp only at p1 p2 p3 p4; omega)))
  have R1 : Hid (VOk s → ((1 ≤ aterm ∧ aterm ≤ 1099511627776) ∧ (0 ≤ afrom ∧ afrom ≤ 8)) → vno (vto s aterm) own ot ⟨aterm, afrom, alast, alterm⟩ → RR = (vto s aterm, false, 0)) := fun k q r => hRR.trans ((if_pos k).trans ((if_pos ⟨q.1.1, q.1.2, q.2.1, by dsimp only; omega⟩).trans (if_pos r)))
  have R2 : Hid (VOk s → ((1 ≤ aterm ∧ aterm ≤ 1099511627776) ∧ (0 ≤ afrom ∧ afrom ≤ 8)) → ¬ vno (vto s aterm) own ot ⟨aterm, afrom, alast, alterm⟩ → RR = (⟨(vto s aterm).term, true, afrom⟩, true, 0)) := fun k q r => hRR.trans ((if_pos k).trans ((if_pos ⟨q.1.1, q.1.2, q.2.1, by dsimp only; omega⟩).trans (if_neg r)))
  obtain ⟨W0, hW0, D, bW0, sW0⟩ := boxedN w #[.int .i64 s.term, .bool s.has, .int .i64 s.who] 26
  obtain ⟨W1, hW1, DA, bW1, sW1⟩ := boxedN W0 #[.int .i64 aterm, .int .i64 afrom, .int .i64 alast, .int .i64 alterm] 30
  obtain ⟨W, hW, DZ, bW2, sW2⟩ := boxedN W1 #[.int .i64 0, .bool false, .int .i64 0] 26
  rw [sW0] at DA
  rw [sW1, sW0] at DZ
  have bW01 := bW0.trans (bW1.mono bW0.size)
  have bW := bW01.trans (bW2.mono bW01.size)
  replace D := (bW2.block _ (lt_of_block ((bW1.block _ (lt_of_block D)).trans D))).trans ((bW1.block _ (lt_of_block D)).trans D)
  replace DA := (bW2.block _ (lt_of_block DA)).trans DA
  have HS := hide (fun U (b : Below W.heap.size W U) => (b.block _ (lt_of_block D)).trans D)
  have HA := hide (fun U (b : Below W.heap.size W U) => (b.block _ (lt_of_block DA)).trans DA)
  have HZ := hide (fun U (b : Below W.heap.size W U) => (b.block _ (lt_of_block DZ)).trans DZ)
  have HE := hide (fun U (b : Below W.heap.size W U) => bW.trans (b.mono bW.size))
  have KC := hide (pcheck16_any W s)
  have hWW : Hid (W = ((w.alloc (.cells #[.int .i64 s.term, .bool s.has, .int .i64 s.who] 26)).alloc (.cells #[.int .i64 aterm, .int .i64 afrom, .int .i64 alast, .int .i64 alterm] 30)).alloc (.cells #[.int .i64 0, .bool false, .int .i64 0] 26)) := by rw [hW0] at hW1; rw [hW1] at hW; exact hW
  clear hRR bW D bW0 bW1 bW2 bW01 sW0 DZ DA sW1 sW2 hW hW0 hW1
  obtain ⟨⟨D0, D1, D2⟩, DF⟩ := cells3v (HS.out W (Below.refl _ _))
  clear DF
  rw [hWW.out] at D0 D1 D2 KC
  go_enter Try.func7, Try.ntmps7
  go_wp2_with fail
  refine KC.out.mono ?_
  rintro e w1 ⟨rfl, b1⟩
  rw [← hWW.out] at b1
  have FZ := hide (fun x y z => heap_set3v (HZ.out w1 b1) x y z)
  have FB := hide (fun x y z => below_set3v (HE.out w1 b1) (show w.heap.size ≤ w.heap.size + 1 + 1 by omega) x y z)
  obtain ⟨⟨A0, A1, A2, A3⟩, Af⟩ := cells4v (HA.out w1 b1)
  obtain ⟨⟨Z0, Z1, Z2⟩, Zf⟩ := cells3v (HZ.out w1 b1)
  have Zf0 := Zf 0
  have Zf1 := Zf 1
  have Zf2 := Zf 2
  have KW := pwithin_any _ _ _ (bounds2 w1 (aterm, 1, 1099511627776) (afrom, 0, 8) 48)
  rw [bw2] at KW
  replace KW := hide KW
  have hB1 := hide (below_allocv b1 (.cells #[.int .i64 aterm, .int .i64 1, .int .i64 1099511627776, .int .i64 afrom, .int .i64 0, .int .i64 8] 48))
  clear Zf Af b1 KC hWW D0 D1 D2
  obtain ⟨ck, hck⟩ : ∃ c, c = vcheck s := ⟨_, rfl⟩
  rw [← hck]
  by_cases ok : VOk s
  case neg =>
    have hr := hide (RN.out ok)
    rw [vcheck_no ok] at hck
    subst hck
    go_wp2
    refine retNTT rfl rfl (w.heap.size + 1 + 1) rfl _ _ (0, 0) (FZ.out _ _ _) _ Try.underlying26 rfl info_vs16p (.bool false) rfl (.int .i64 9) rfl ?_
    rw [hr.out]
    exact ⟨rfl, FB.out _ _ _⟩
  rw [vcheck_ok ok] at hck
  subst hck
  replace R4 := hide (R4.out ok)
  replace R1 := hide (R1.out ok)
  replace R2 := hide (R2.out ok)
  clear RN ok FZ FB Z0 Z1 Z2 Zf0 Zf1 Zf2
  go_wp2_with fail
  refine KW.out.mono ?_
  rintro e w2 ⟨rfl, b2⟩
  have b2' := hB1.out.trans (b2.mono hB1.out.size)
  clear A0 A1 A2 A3
  have FZ := hide (fun x y z => heap_set3v (HZ.out w2 b2') x y z)
  have FB := hide (fun x y z => below_set3v (HE.out w2 b2') (show w.heap.size ≤ w.heap.size + 1 + 1 by omega) x y z)
  obtain ⟨⟨A0, A1, A2, A3⟩, Af⟩ := cells4v (HA.out w2 b2')
  obtain ⟨⟨Z0, Z1, Z2⟩, Zf⟩ := cells3v (HZ.out w2 b2')
  have Zf0 := Zf 0
  have Zf1 := Zf 1
  have Zf2 := Zf 2
  obtain ⟨⟨D0, D1, D2⟩, DF⟩ := cells3v (HS.out w2 b2')
  have KT := hide (pturned16_any w2 s aterm)
  replace b2' := hide b2'
  clear Zf DF Af b2 KW hB1
  by_cases g1 : (1 ≤ aterm ∧ aterm ≤ 1099511627776) ∧ (0 ≤ afrom ∧ afrom ≤ 8)
  case neg =>
    have hr := hide (R4.out g1)
    rw [decide_eq_false g1]
    clear g1
    go_wp2
    refine retNTT rfl rfl (w.heap.size + 1 + 1) rfl _ _ (0, 0) (FZ.out _ _ _) _ Try.underlying26 rfl info_vs16p (.bool false) rfl (.int .i64 4) rfl ?_
    rw [hr.out]
    exact ⟨rfl, FB.out _ _ _⟩
  replace R1 := hide (R1.out g1)
  replace R2 := hide (R2.out g1)
  rw [decide_eq_true g1]
  clear R4 g1 FZ FB Z0 Z1 Z2 Zf0 Zf1 Zf2
  go_wp2_with fail
  refine KT.out.mono ?_
  rintro e w3 ⟨rfl, b3⟩
  have b3' := b2'.out.trans (b3.mono b2'.out.size)
  obtain ⟨T, hT⟩ : ∃ T, T = vto s aterm := ⟨_, rfl⟩
  rw [← hT] at R1 R2 ⊢
  obtain ⟨tt, th, tw⟩ := T
  dsimp only [sv16] at R1 R2 ⊢
  obtain ⟨V, hV⟩ : ∃ V, V = ((w3.setCell ⟨w.heap.size, 0, none⟩ (.int .i64 tt)).setCell ⟨w.heap.size, 1, none⟩ (.bool th)).setCell ⟨w.heap.size, 2, none⟩ (.int .i64 tw) := ⟨_, rfl⟩
  have BV : Below w.heap.size w V := by rw [hV]; exact below_set3v (HE.out w3 b3') (Nat.le_refl _) _ _ _
  have SV : V.heap[w.heap.size]? = some (.cells #[.int .i64 tt, .bool th, .int .i64 tw] 26 (0, 0)) := by rw [hV]; exact heap_set3v (HS.out w3 b3') _ _ _
  have AV : V.heap[w.heap.size + 1]? = some (.cells #[.int .i64 aterm, .int .i64 afrom, .int .i64 alast, .int .i64 alterm] 30 (0, 0)) := by rw [hV]; exact (heap_ne3v (by omega) _ _ _).trans (HA.out w3 b3')
  have ZV : V.heap[w.heap.size + 1 + 1]? = some (.cells #[.int .i64 0, .bool false, .int .i64 0] 26 (0, 0)) := by rw [hV]; exact (heap_ne3v (by omega) _ _ _).trans (HZ.out w3 b3')
  obtain ⟨⟨D0', D1', D2'⟩, Df⟩ := cells3v (HS.out w3 b3')
  have Df0 := Df 0
  have Df1 := Df 1
  have Df2 := Df 2
  clear D0 D1 D2 A0 A1 A2 A3 Df KT hT b3 b3' HS HA HZ HE b2'
  obtain ⟨⟨A0, A1, A2, A3⟩, Af⟩ := cells4v AV
  obtain ⟨⟨Z0, Z1, Z2⟩, Zf⟩ := cells3v ZV
  have Zf0 := Zf 0
  have Zf1 := Zf 1
  have Zf2 := Zf 2
  obtain ⟨⟨T0, T1, T2⟩, Tf⟩ := cells3v SV
  have FZ := hide (fun x y z => heap_set3v ZV x y z)
  have FB := hide (fun x y z => below_set3v BV (show w.heap.size ≤ w.heap.size + 1 + 1 by omega) x y z)
  have KN := hide (pnewer16_any V alast alterm own ot)
  clear Af Zf Tf BV SV AV ZV
  rw [hV] at A0 A1 A2 A3 Z0 Z1 Z2 Zf0 Zf1 Zf2 T0 T1 T2 KN
  replace hV := hide hV
  by_cases n1 : aterm < tt
  · have hr := hide (R1.out (.inl n1))
    clear R1 R2
    cases th with
    | false =>
      go_wp2
      rw [← hV.out]
      refine retNTT rfl rfl (w.heap.size + 1 + 1) rfl _ _ (0, 0) (FZ.out _ _ _) _ Try.underlying26 rfl info_vs16p (.bool false) rfl (.int .i64 0) rfl ?_
      rw [hr.out]
      exact ⟨rfl, FB.out _ _ _⟩
    | true =>
      obtain ⟨nw, hnw⟩ : ∃ b, b = (tw != afrom) := ⟨_, rfl⟩
      go_wp2
      rw [← hV.out]
      refine retNTT rfl rfl (w.heap.size + 1 + 1) rfl _ _ (0, 0) (FZ.out _ _ _) _ Try.underlying26 rfl info_vs16p (.bool false) rfl (.int .i64 0) rfl ?_
      rw [hr.out]
      exact ⟨rfl, FB.out _ _ _⟩
  have n1' : decide (aterm < tt) = false := decide_eq_false n1
  have fin : ∀ (nb : Bool), (nb = vnewer alast alterm own ot) → ¬ (th = true ∧ tw ≠ afrom) → Hid (nb = false → RR = (⟨tt, th, tw⟩, false, 0)) ∧ Hid (nb = true → RR = (⟨tt, true, afrom⟩, true, 0)) := fun nb e q => ⟨fun h => R1.out (.inr (.inr (e.symm.trans h))), fun h => R2.out (by
    rintro (k | k | k)
    · exact n1 k
    · exact q k
    · exact absurd (e.trans k) (by rw [h]; decide))⟩
  replace fin := hide fin
  cases th with
  | false =>
    go_wp2_with fail
    refine KN.out.mono ?_
    rintro e w4 ⟨rfl, rfl⟩
    obtain ⟨nb, hnb⟩ : ∃ b, b = vnewer alast alterm own ot := ⟨_, rfl⟩
    rw [← hnb]
    obtain ⟨f1, f2⟩ := fin.out nb hnb (by rintro ⟨k, _⟩; cases k)
    clear R1 R2 fin KN hnb
    cases nb with
    | false =>
      have hr := hide (f1.out rfl)
      clear f1 f2
      go_wp2
      rw [← hV.out]
      refine retNTT rfl rfl (w.heap.size + 1 + 1) rfl _ _ (0, 0) (FZ.out _ _ _) _ Try.underlying26 rfl info_vs16p (.bool false) rfl (.int .i64 0) rfl ?_
      rw [hr.out]
      exact ⟨rfl, FB.out _ _ _⟩
    | true =>
      have hr := hide (f2.out rfl)
      clear f1 f2
      go_wp2
      rw [← hV.out]
      refine retNTT rfl rfl (w.heap.size + 1 + 1) rfl _ _ (0, 0) (FZ.out _ _ _) _ Try.underlying26 rfl info_vs16p (.bool true) rfl (.int .i64 0) rfl ?_
      rw [hr.out]
      exact ⟨rfl, FB.out _ _ _⟩
  | true =>
    by_cases n2 : tw = afrom
    · have n2' : (tw != afrom) = false := by simpa using n2
      replace n2 := hide n2
      go_wp2_with fail
      refine KN.out.mono ?_
      rintro e w4 ⟨rfl, rfl⟩
      obtain ⟨nb, hnb⟩ : ∃ b, b = vnewer alast alterm own ot := ⟨_, rfl⟩
      rw [← hnb]
      obtain ⟨f1, f2⟩ := fin.out nb hnb (by rintro ⟨_, k⟩; exact k n2.out)
      clear R1 R2 fin KN hnb
      cases nb with
      | false =>
        have hr := hide (f1.out rfl)
        clear f1 f2
        go_wp2
        rw [← hV.out]
        refine retNTT rfl rfl (w.heap.size + 1 + 1) rfl _ _ (0, 0) (FZ.out _ _ _) _ Try.underlying26 rfl info_vs16p (.bool false) rfl (.int .i64 0) rfl ?_
        rw [hr.out]
        exact ⟨rfl, FB.out _ _ _⟩
      | true =>
        have hr := hide (f2.out rfl)
        clear f1 f2
        go_wp2
        rw [← hV.out]
        refine retNTT rfl rfl (w.heap.size + 1 + 1) rfl _ _ (0, 0) (FZ.out _ _ _) _ Try.underlying26 rfl info_vs16p (.bool true) rfl (.int .i64 0) rfl ?_
        rw [hr.out]
        exact ⟨rfl, FB.out _ _ _⟩
    · have hr := hide (R1.out (.inr (.inl ⟨rfl, n2⟩)))
      have n2' : (tw != afrom) = true := by simpa using n2
      replace n2 := hide n2
      clear R1 R2 fin
      go_wp2
      rw [← hV.out]
      refine retNTT rfl rfl (w.heap.size + 1 + 1) rfl _ _ (0, 0) (FZ.out _ _ _) _ Try.underlying26 rfl info_vs16p (.bool false) rfl (.int .i64 0) rfl ?_
      rw [hr.out]
      exact ⟨rfl, FB.out _ _ _⟩
end Go.Proofs.Ytccklmhagabkaaa
