/-
  RaftlogMatching's walk, over what the program's calls say: P15.4: two logs that grew out of pieces of one leader's log are beginnings of it. (Written by gen15l.py.)
-/
import Derived.Test.YtfalhboahdccmaaRlL
import Derived.Test.YtfalhboahdccmaaRlH
import Derived.Deep.CutRange
namespace Go.Proofs.Ytfalhboahdccmaa.raftlogMatching
open Go.ChangeShapes Go.WideShapes Go.ChangeAt Go.RowKit
set_option linter.unusedVariables false
set_option linter.unusedSimpArgs false

set_option maxRecDepth 100000 in
set_option maxHeartbeats 8000000 in
theorem walk0 (S : LogSay) (w : World) (p0 : Option Addr) (len0 cap0 : Nat) (e0 : List Int) (g0 : SInts15.rd w [.slice p0 len0 cap0] e0) (m0 : i15fit e0) (p1 : Option Addr) (len1 cap1 : Nat) (e1 : List (Int × Int)) (g1 : SPcs15.rd w [.slice p1 len1 cap1] e1) (m1 : pcfit e1) (p2 : Option Addr) (len2 cap2 : Nat) (e2 : List (Int × Int)) (g2 : SPcs15.rd w [.slice p2 len2 cap2] e2) (m2 : pcfit e2) :
    Calls Try.prog 4 #[.slice p0 len0 cap0, .slice p1 len1 cap1, .slice p2 len2 cap2] w fun e w' => e = .returned (.bool true) ∧ Below w.heap.size w w' := by
  obtain ⟨ve, q0, R0⟩ := g0
  obtain rfl : ve = .slice p0 len0 cap0 := by simpa using q0.symm
  clear q0
  have q0 : len0 = e0.length := by obtain ⟨_, _, q⟩ := R0.slice; simp only [Value.slice.injEq] at q; exact q.2.1
  subst q0
  obtain ⟨ve1, q1, R1⟩ := g1
  obtain rfl : ve1 = .slice p1 len1 cap1 := by simpa using q1.symm
  clear q1
  obtain ⟨ve2, q2, R2⟩ := g2
  obtain rfl : ve2 = .slice p2 len2 cap2 := by simpa using q2.symm
  clear q2
  have hn0 : e0.length * 8 ≤ 140737488351232 := m0.1
  replace m1 := hide m1
  replace m2 := hide m2
  clear m0
  have HE : Hid (∀ U, Below w.heap.size w U → Below w.heap.size w U) := fun U b => b
  have HT : Hid (∀ U, Below w.heap.size w U → RdS (Shp.int .i64) U (.slice p0 e0.length cap0) e0) := fun U b => R0.to0 b
  have HA : Hid (∀ U, Below w.heap.size w U → RdS SPc U (.slice p1 len1 cap1) e1) := fun U b => R1.to0 b
  have HB : Hid (∀ U, Below w.heap.size w U → RdS SPc U (.slice p2 len2 cap2) e2) := fun U b => R2.to0 b
  clear R0 R1 R2
  obtain ⟨M, hM⟩ : ∃ M, M = e0.length := ⟨_, rfl⟩
  rw [← hM] at hn0
  have hT2 := HT
  rw [← hM] at HT ⊢
  clear hT2
  replace hM := hide hM
  obtain ⟨j0, ji, jz0, jz1, jz2⟩ := info_parts infoEn
  go_enter Try.func4, Try.ntmps4
  have K := ralive_any S w
  replace K := hide K
  go_wp2_with fail
  refine K.out.mono ?_
  rintro e wz1 ⟨rfl, bb⟩
  clear K 
  replace HE := hide (fun U (b : Below wz1.heap.size wz1 U) => HE.out U (bb.trans (b.mono bb.size)))
  replace HT := hide (fun U (b : Below wz1.heap.size wz1 U) => HT.out U (bb.trans (b.mono bb.size)))
  replace HA := hide (fun U (b : Below wz1.heap.size wz1 U) => HA.out U (bb.trans (b.mono bb.size)))
  replace HB := hide (fun U (b : Below wz1.heap.size wz1 U) => HB.out U (bb.trans (b.mono bb.size)))
  clear bb
  go_wp2
  go_loopw [7, 8, 9] (fun v t i wr => ∃ (j : Nat) (tt : Int) (es : List Wrt) (a7 : Option Addr) (c7 : Nat), v = .slice a7 j c7 ∧ t = .int .i64 tt ∧ i = .int .i64 j ∧ j ≤ 40 ∧ Hid (lup 1 es ∧ lastT 1 es es.length ≤ tt ∧ 1 ≤ tt ∧ tt ≤ 1 + 2 * (j : Int) ∧ es.length = j) ∧ Hid (Below wz1.heap.size wz1 wr ∧ Own SEntB wz1.heap.size wr [.slice a7 j c7] es)) (fun _ _ i _ => 41 - (intOf i).toNat)
  case atStart => exact ⟨0, 1, [], none, 0, rfl, rfl, rfl, by decide, hide ⟨trivial, by decide, by decide, by decide, rfl⟩, hide ⟨Below.refl _ _, Own.nil _ _ _ _⟩⟩
  case round =>
    obtain ⟨j, tt, es, a7, c7, rfl, rfl, rfl, hj, hes, hI⟩ := hrel
    have hb0 := hI.out.1
    have ht1 : 1 ≤ tt ∧ tt ≤ 1 + 2 * (j : Int) := ⟨hes.out.2.2.1, hes.out.2.2.2.1⟩
    replace HE := hide (fun U (b : Below wr.heap.size wr U) => HE.out U (hb0.trans (b.mono hb0.size)))
    replace HT := hide (fun U (b : Below wr.heap.size wr U) => HT.out U (hb0.trans (b.mono hb0.size)))
    replace HA := hide (fun U (b : Below wr.heap.size wr U) => HA.out U (hb0.trans (b.mono hb0.size)))
    replace HB := hide (fun U (b : Below wr.heap.size wr U) => HB.out U (hb0.trans (b.mono hb0.size)))
    clear hb0
    obtain ⟨bn, hbn⟩ : ∃ b, b = decide (j < M ∧ j < 40) := ⟨_, rfl⟩
    go_upto_region 6 with fail
    go_cut [24] from 17 to 24 (fun b wx => b = .bool bn ∧ wr = wx)
    case first =>
      by_cases q1 : (j : Int) < (M : Int)
      · by_cases q2 : (j : Int) < 40
        · have hd : Hid (bn = true) := by show _ = _; rw [hbn]; exact decide_eq_true ⟨by omega, by omega⟩
          go_wp2_with fail
          go_meet
          exact ⟨by rw [hd.out], rfl⟩
        · have hd : Hid (bn = false) := by show _ = _; rw [hbn]; exact decide_eq_false (by omega)
          have q2' : decide ((j : Int) < 40) = false := decide_eq_false q2
          go_wp2_with fail
          go_meet
          exact ⟨by rw [hd.out], rfl⟩
      · have hd : Hid (bn = false) := by show _ = _; rw [hbn]; exact decide_eq_false (by omega)
        have q1' : decide ((j : Int) < (M : Int)) = false := decide_eq_false q1
        go_wp2_with fail
        go_meet
        exact ⟨by rw [hd.out], rfl⟩
    case rest =>
    obtain ⟨rfl, rfl⟩ := hcut
    cases bn with
    | true =>
      obtain ⟨z1, z2⟩ := of_decide_eq_true hbn.symm
      clear hbn
      obtain ⟨x, hx, _⟩ := some_at e0 (k := j) (by rw [← hM.out]; exact z1)
      obtain ⟨pb, po, rfl, c1⟩ := (HT.out _ (Below.refl _ _)).i15 hx
      clear hx
      obtain ⟨g, hg0, hm3, hm1, hm2, hm6⟩ := mod_lit15 x (n := 3) (m := 3) rfl (by decide) (by decide)
      have hw1 : IntKind.i64.wrap (tt + (g : Int)) = tt + (g : Int) := IntWalk.i64_in _ (by omega)
      have hw2 : wrap64 (tt + (g : Int)) = tt + (g : Int) := IntWalk.wrap64_in _ (by omega)
      obtain ⟨bt, hbt⟩ : ∃ b : UInt8, b = UInt8.ofNat j := ⟨_, rfl⟩
      have hbv : Hid (enc bt = .int .u8 (j : Int)) := by show _ = _; rw [hbt]; unfold enc; rw [show (UInt8.ofNat j).toNat = j from by simp; omega]
      have hw3 : IntKind.u8.wrap (j : Int) = (j : Int) := by rw [IntKind.wrap_u8]; omega
      replace hbt := hide hbt
      obtain ⟨cc, ll, lc, hsl, ROW, FIN⟩ := lit15 hI.out.2 hes.out.2.2.2.2 hI.out.1.size
      simp only [Value.slice.injEq] at hsl
      obtain ⟨rfl, -, rfl⟩ := hsl
      have hG := hide (fun b => lead_grow (b := b) hes.out (show (0 : Int) ≤ (g : Int) by omega) (show (g : Int) ≤ 2 by omega) (show j ≤ 1000 by omega))
      have hlit : OwnB wr.heap.size (wr.alloc (.cells ([bt].map enc).toArray 5)) (.slice (some ⟨wr.heap.size, 0, none⟩) 1 1) [bt] := own_lit wr [bt] (by simp)
      rw [show ([bt].map enc).toArray = #[.int .u8 (j : Int)] by rw [List.map_cons, List.map_nil, hbv.out]] at hlit
      have blit : Below wr.heap.size wr (wr.alloc (.cells #[.int .u8 (j : Int)] 5)) := (Below.refl _ _).alloc (Nat.le_refl _) _
      obtain ⟨V, hV⟩ : ∃ V, V = wr.alloc (.cells #[.int .u8 (j : Int)] 5) := ⟨_, rfl⟩
      rw [← hV] at hlit blit
      have hVs : Hid (V.heap.size = wr.heap.size + 1) := by show _ = _; rw [hV]; simp
      have FIN2 : Hid (∀ w5 g0 cap, (V.alloc (.cells #[.int .i64 (tt + (g : Int)), .slice (some ⟨wr.heap.size, 0, none⟩) 1 1] 27)).grownBy w5 (Value.slice a7 j c7).ownBlock → w5.ownsRow 0 27 2 (.slice (some ⟨g0, 0, none⟩) (j + 1) cap) (j + 1) (cc ++ [.int .i64 (tt + (g : Int)), .slice (some ⟨wr.heap.size, 0, none⟩) 1 1]) → ((Value.slice a7 j c7).ownBlock = some g0 ∨ g0 = V.heap.size + 1) → (Below wz1.heap.size wz1 w5 ∧ Own SEntB wz1.heap.size w5 [.slice (some ⟨g0, 0, none⟩) (j + 1) cap] (es ++ [(tt + (g : Int), [bt])]))) := fun w5 g0 cap q1 q2 q3 => by
        obtain ⟨o5, b5⟩ := FIN V _ _ [bt] w5 g0 cap blit hlit q1 q2 q3
        exact ⟨hI.out.1.trans b5, o5⟩
      have ROW2 := hide (ROW V blit)
      have h63 : j + 1 ≤ maxLen := by rw [show maxLen = 9223372036854775807 from rfl]; omega
      have hby : (j + 1) * 32 ≤ 140737488355328 := by omega
      clear FIN ROW hlit blit
      go_upto_region 9 with fail
      go_wp2_with (at_builtin; rw [← hV]; refine wpList_append_lies _ rfl _ _ 22 rfl 0 27 j0 _ 2 32 Try.underlying22 ji jz0 jz1 jz2 rfl (by decide) (.slice a7 j c7) j cc rfl (ROW2.out _) ⟨wr.heap.size + 1, 0, none⟩ 1 1 [.int .i64 (tt + (g : Int)), .slice (some ⟨wr.heap.size, 0, none⟩) 1 1] rfl rfl (by rw [← hVs.out]; exact World.news_of_block (heap_alloc_last V _)) (by simp [Value.oneCell']) (by decide) h63 hby (Nat.zero_le _) (V.heap.size + 1) (by simp) ?_; intro g0 cap w5 ho5 hg5 hat5 hlt5; have HF2 := hide (FIN2.out w5 g0 cap hg5 ho5 hat5); clear ho5 hg5 hat5 FIN2 ROW2)
      go_wp2
      go_roundw
      case rel => exact ⟨j + 1, tt + (g : Int), es ++ [(tt + (g : Int), [bt])], some ⟨g0, 0, none⟩, cap, rfl, rfl, by go_num, by omega, hide (hG.out bt), HF2⟩
      case measure => simp [intOf]; omega
    | false =>
      clear hbn ht1
      have H7 : Hid (∀ U, Below wr.heap.size wr U → RdC U (.slice a7 j c7) es) := fun U b => hI.out.2.rdS.to0 b
      have okE : Hid (LOk ⟨0, 0, es⟩) := lead_ok hes.out.1 (by rw [hes.out.2.2.2.2]; omega)
      have hel : Hid (es.length ≤ 40) := by show _ ≤ _; rw [hes.out.2.2.2.2]; exact hj
      have K := rgrown_any S wr _ _ es e1 (H7.out _ (Below.refl _ _)) (HA.out _ (Below.refl _ _)) okE.out hel.out (by have := m1.out.1; omega) (fun x hx => ⟨wf15 (m1.out.2 x hx).1, wf15 (m1.out.2 x hx).2⟩)
      replace K := hide K
      go_wp2_with fail
      refine K.out.mono ?_
      rintro e wz2 ⟨k3, v3, rfl, hk3, r3, bb⟩
      obtain ⟨t3, ht3⟩ : ∃ x, x = es.take k3 := ⟨_, rfl⟩
      rw [← ht3] at r3
      obtain ⟨b3, c3, rfl⟩ := r3.slice
      replace ht3 := hide ht3
      replace hk3 := hide hk3
      clear K 
      replace HE := hide (fun U (b : Below wz2.heap.size wz2 U) => HE.out U (bb.trans (b.mono bb.size)))
      replace HT := hide (fun U (b : Below wz2.heap.size wz2 U) => HT.out U (bb.trans (b.mono bb.size)))
      replace HA := hide (fun U (b : Below wz2.heap.size wz2 U) => HA.out U (bb.trans (b.mono bb.size)))
      replace HB := hide (fun U (b : Below wz2.heap.size wz2 U) => HB.out U (bb.trans (b.mono bb.size)))
      replace H7 := hide (fun U (b : Below wz2.heap.size wz2 U) => H7.out U (bb.trans (b.mono bb.size)))
      have R3 : Hid (∀ U, Below wz2.heap.size wz2 U → RdC U (.slice b3 t3.length c3) t3) := fun U b => r3.to0 b
      clear r3 bb
      obtain ⟨Y3, hY3, DY3, bY3, sY3⟩ := boxedN wz2 #[.int .i64 0, .int .i64 0, .slice b3 t3.length c3] 28
      replace HE := hide (fun U (b : Below Y3.heap.size Y3 U) => HE.out U (bY3.trans (b.mono bY3.size)))
      replace HT := hide (fun U (b : Below Y3.heap.size Y3 U) => HT.out U (bY3.trans (b.mono bY3.size)))
      replace HA := hide (fun U (b : Below Y3.heap.size Y3 U) => HA.out U (bY3.trans (b.mono bY3.size)))
      replace HB := hide (fun U (b : Below Y3.heap.size Y3 U) => HB.out U (bY3.trans (b.mono bY3.size)))
      replace H7 := hide (fun U (b : Below Y3.heap.size Y3 U) => H7.out U (bY3.trans (b.mono bY3.size)))
      replace R3 := hide (fun U (b : Below Y3.heap.size Y3 U) => R3.out U (bY3.trans (b.mono bY3.size)))
      have X3 : Hid (∀ U, Below Y3.heap.size Y3 U → U.heap[wz2.heap.size]? = some (.cells #[.int .i64 0, .int .i64 0, .slice b3 t3.length c3] 28 (0, 0))) := fun U b => (b.block _ (lt_of_block DY3)).trans DY3
      clear DY3 bY3
      have K := rgrown_any S Y3 _ _ es e2 (H7.out _ (Below.refl _ _)) (HB.out _ (Below.refl _ _)) okE.out hel.out (by have := m2.out.1; omega) (fun x hx => ⟨wf15 (m2.out.2 x hx).1, wf15 (m2.out.2 x hx).2⟩)
      replace K := hide K
      clear sY3
      go_wp2_with fail
      rw [← hY3]
      replace hY3 := hide hY3
      refine K.out.mono ?_
      rintro e wz4 ⟨k4, v4, rfl, hk4, r4, bb⟩
      obtain ⟨t4, ht4⟩ : ∃ x, x = es.take k4 := ⟨_, rfl⟩
      rw [← ht4] at r4
      obtain ⟨b4, c4, rfl⟩ := r4.slice
      replace ht4 := hide ht4
      replace hk4 := hide hk4
      clear K 
      replace HE := hide (fun U (b : Below wz4.heap.size wz4 U) => HE.out U (bb.trans (b.mono bb.size)))
      replace HT := hide (fun U (b : Below wz4.heap.size wz4 U) => HT.out U (bb.trans (b.mono bb.size)))
      replace HA := hide (fun U (b : Below wz4.heap.size wz4 U) => HA.out U (bb.trans (b.mono bb.size)))
      replace HB := hide (fun U (b : Below wz4.heap.size wz4 U) => HB.out U (bb.trans (b.mono bb.size)))
      replace H7 := hide (fun U (b : Below wz4.heap.size wz4 U) => H7.out U (bb.trans (b.mono bb.size)))
      replace R3 := hide (fun U (b : Below wz4.heap.size wz4 U) => R3.out U (bb.trans (b.mono bb.size)))
      replace X3 := hide (fun U (b : Below wz4.heap.size wz4 U) => X3.out U (bb.trans (b.mono bb.size)))
      have R4 : Hid (∀ U, Below wz4.heap.size wz4 U → RdC U (.slice b4 t4.length c4) t4) := fun U b => r4.to0 b
      clear r4 bb
      obtain ⟨Y5, hY5, DY5, bY5, sY5⟩ := boxedN wz4 #[.int .i64 0, .int .i64 0, .slice b4 t4.length c4] 28
      replace HE := hide (fun U (b : Below Y5.heap.size Y5 U) => HE.out U (bY5.trans (b.mono bY5.size)))
      replace HT := hide (fun U (b : Below Y5.heap.size Y5 U) => HT.out U (bY5.trans (b.mono bY5.size)))
      replace HA := hide (fun U (b : Below Y5.heap.size Y5 U) => HA.out U (bY5.trans (b.mono bY5.size)))
      replace HB := hide (fun U (b : Below Y5.heap.size Y5 U) => HB.out U (bY5.trans (b.mono bY5.size)))
      replace H7 := hide (fun U (b : Below Y5.heap.size Y5 U) => H7.out U (bY5.trans (b.mono bY5.size)))
      replace R3 := hide (fun U (b : Below Y5.heap.size Y5 U) => R3.out U (bY5.trans (b.mono bY5.size)))
      replace X3 := hide (fun U (b : Below Y5.heap.size Y5 U) => X3.out U (bY5.trans (b.mono bY5.size)))
      replace R4 := hide (fun U (b : Below Y5.heap.size Y5 U) => R4.out U (bY5.trans (b.mono bY5.size)))
      have X4 : Hid (∀ U, Below Y5.heap.size Y5 U → U.heap[wz4.heap.size]? = some (.cells #[.int .i64 0, .int .i64 0, .slice b4 t4.length c4] 28 (0, 0))) := fun U b => (b.block _ (lt_of_block DY5)).trans DY5
      clear DY5 bY5
      have hcap3 : Hid (t3.length ≤ c3) := by
        obtain ⟨_, _, q0, q1, _⟩ := R3.out _ (Below.refl _ _)
        simp only [Value.slice.injEq] at q0
        show _ ≤ _
        omega
      have hcap4 : Hid (t4.length ≤ c4) := by
        obtain ⟨_, _, q0, q1, _⟩ := R4.out _ (Below.refl _ _)
        simp only [Value.slice.injEq] at q0
        show _ ≤ _
        omega
      obtain ⟨n, hn⟩ : ∃ n, n = min t3.length t4.length := ⟨_, rfl⟩
      have hl3 : Hid (t3.length = k3) := by show _ = _; rw [ht3.out, List.length_take]; have := hk3.out; omega
      have hl4 : Hid (t4.length = k4) := by show _ = _; rw [ht4.out, List.length_take]; have := hk4.out; omega
      have hsm : Hid (t4.take n = t3.take n) := by show _ = _; rw [hn, hl3.out, hl4.out, ht3.out, ht4.out, List.take_take, List.take_take]; congr 1; omega
      have hnb : n ≤ t3.length ∧ n ≤ t4.length ∧ n ≤ 40 := by have := hl3.out; have := hk3.out; have := hel.out; omega
      have KS : Hid (∀ U, Below Y5.heap.size Y5 U → Calls Try.prog 21 #[.slice b3 n c3, .slice b4 n c4] U fun e w' => e = .returned (.bool true) ∧ ∃ n, w' = U.drewN n) := fun U b => (sentries_any U _ _ (t3.take n) (rdS_front15 (R3.out U b) hnb.1) (by have q := rdS_front15 (R4.out U b) hnb.2.1; rw [show RdS SWr U (.slice b4 n c4) (t4.take n) = RdS SWr U (.slice b4 n c4) (t3.take n) from congrArg _ hsm.out] at q; exact q))
      have HQ := hide (fun U (b : Below Y5.heap.size Y5 U) => And.intro (cells3l (X3.out U b)).1 (cells3l (X4.out U b)).1)
      have hn1 : (0 : Int) ≤ (n : Int) := by omega
      have hn2 : (n : Int) ≤ (c3 : Int) := by have := hcap3.out; omega
      have hn3 : (n : Int) ≤ (c4 : Int) := by have := hcap4.out; omega
      have hn4 : IntKind.i64.wrap (n : Int) = (n : Int) := IntWalk.i64_in _ (by omega)
      have hnm : Hid ((n : Int) = min (t3.length : Int) (t4.length : Int)) := by show _ = _; rw [hn]; omega
      replace hn := hide hn
      obtain ⟨⟨q6_0, q6_1, q6_2⟩, _⟩ := cells3l (X3.out _ (Below.refl _ _))
      obtain ⟨⟨q7_0, q7_1, q7_2⟩, _⟩ := cells3l (X4.out _ (Below.refl _ _))
      clear sY5
      rw [hY5] at q6_0 q6_1 q6_2 q7_0 q7_1 q7_2
      go_upto_region 14 with fail
      rw [← hY5]
      clear q6_0 q6_1 q6_2 q7_0 q7_1 q7_2
      replace hY5 := hide hY5
      obtain ⟨⟨g3a, g3b, g3c⟩, g4a, g4b, g4c⟩ := HQ.out _ (Below.refl _ _)
      go_cut [14] from 62 to 68 (fun v wx => v = .int .i64 (n : Int) ∧ Y5 = wx)
      case first =>
        by_cases hm : (t3.length : Int) ≤ (t4.length : Int)
        · have hm2 : Hid ((n : Int) = (t3.length : Int)) := by show _ = _; rw [hnm.out]; omega
          go_wp2_with fail
          all_goals first | omega | (go_meet; exact ⟨by rw [hm2.out], rfl⟩)
        · have hm2 : Hid ((n : Int) = (t4.length : Int)) := by show _ = _; rw [hnm.out]; omega
          go_wp2_with fail
          all_goals first | omega | (go_meet; exact ⟨by rw [hm2.out], rfl⟩)
      case rest =>
      obtain ⟨rfl, rfl⟩ := hcut
      clear g3a g3b g3c g4a g4b g4c
      go_upto_region 15 with fail
      have b0 := (Below.refl Y5.heap.size Y5).drew
      refine wp_region_fan (fun w9 => (w9.cell? ⟨wz2.heap.size, 0, none⟩ = some (.int .i64 0) ∧ w9.cell? ⟨wz2.heap.size, 1, none⟩ = some (.int .i64 0) ∧ w9.cell? ⟨wz2.heap.size, 2, none⟩ = some (.slice b3 t3.length c3)) ∧ (w9.cell? ⟨wz4.heap.size, 0, none⟩ = some (.int .i64 0) ∧ w9.cell? ⟨wz4.heap.size, 1, none⟩ = some (.int .i64 0) ∧ w9.cell? ⟨wz4.heap.size, 2, none⟩ = some (.slice b4 t4.length c4))) 9 mixed (by simp) ?_
      generalize Y5.drew = c0_ at *
      refine fan_take (i := 0) (v := ?_) rfl (by kernel_rfl) (fun _ _ _ _ h => h) (by kernel_rfl) (HQ.out _ b0) ?_ ?_
      rotate_left
      · rintro w9 ⟨⟨q0, q1, q2⟩, p0, p1, p2⟩
        go_simp
        try with_reducible rfl
      try simp only [List.getElem_toArray, List.getElem_cons_succ, List.getElem_cons_zero, List.getElem?_toArray, List.getElem?_cons_succ, List.getElem?_cons_zero, Act.put, List.setIfInBounds_toArray, List.set_cons_zero, List.set_cons_succ]
      refine fan_take (i := 1) (v := ?_) rfl (by kernel_rfl) (fun _ _ _ _ h => h) (by kernel_rfl) (HQ.out _ b0) ?_ ?_
      rotate_left
      · rintro w9 ⟨⟨q0, q1, q2⟩, p0, p1, p2⟩
        go_simp
        try with_reducible rfl
      try simp only [List.getElem_toArray, List.getElem_cons_succ, List.getElem_cons_zero, List.getElem?_toArray, List.getElem?_cons_succ, List.getElem?_cons_zero, Act.put, List.setIfInBounds_toArray, List.set_cons_zero, List.set_cons_succ]
      refine fan_take (i := 2) (v := ?_) rfl (by kernel_rfl) (fun _ _ _ _ h => h) (by kernel_rfl) (HQ.out _ b0) ?_ ?_
      rotate_left
      · rintro w9 ⟨⟨q0, q1, q2⟩, p0, p1, p2⟩
        go_simp
        try with_reducible rfl
      try simp only [List.getElem_toArray, List.getElem_cons_succ, List.getElem_cons_zero, List.getElem?_toArray, List.getElem?_cons_succ, List.getElem?_cons_zero, Act.put, List.setIfInBounds_toArray, List.set_cons_zero, List.set_cons_succ]
      refine fan_take (i := 3) (v := ?_) rfl (by kernel_rfl) (fun _ _ _ _ h => h) (by kernel_rfl) (HQ.out _ b0) ?_ ?_
      rotate_left
      · rintro w9 ⟨⟨q0, q1, q2⟩, p0, p1, p2⟩
        go_simp
        try with_reducible rfl
      try simp only [List.getElem_toArray, List.getElem_cons_succ, List.getElem_cons_zero, List.getElem?_toArray, List.getElem?_cons_succ, List.getElem?_cons_zero, Act.put, List.setIfInBounds_toArray, List.set_cons_zero, List.set_cons_succ]
      refine fan_take (i := 4) (v := ?_) rfl (by kernel_rfl) (fun _ _ _ _ h => h) (by kernel_rfl) (HQ.out _ b0) ?_ ?_
      rotate_left
      · rintro w9 ⟨⟨q0, q1, q2⟩, p0, p1, p2⟩
        go_simp
        try with_reducible rfl
      try simp only [List.getElem_toArray, List.getElem_cons_succ, List.getElem_cons_zero, List.getElem?_toArray, List.getElem?_cons_succ, List.getElem?_cons_zero, Act.put, List.setIfInBounds_toArray, List.set_cons_zero, List.set_cons_succ]
      refine fan_take (i := 5) (v := ?_) rfl (by kernel_rfl) (fun _ _ _ _ h => h) (by kernel_rfl) (HQ.out _ b0) ?_ ?_
      rotate_left
      · rintro w9 ⟨⟨q0, q1, q2⟩, p0, p1, p2⟩
        go_simp
        try with_reducible rfl
      try simp only [List.getElem_toArray, List.getElem_cons_succ, List.getElem_cons_zero, List.getElem?_toArray, List.getElem?_cons_succ, List.getElem?_cons_zero, Act.put, List.setIfInBounds_toArray, List.set_cons_zero, List.set_cons_succ]
      refine fan_take (i := 6) (v := ?_) rfl (by kernel_rfl) (fun _ _ _ _ h => h) (by kernel_rfl) (HQ.out _ b0) ?_ ?_
      rotate_left
      · rintro w9 ⟨⟨q0, q1, q2⟩, p0, p1, p2⟩
        go_simp
        try with_reducible rfl
      try simp only [List.getElem_toArray, List.getElem_cons_succ, List.getElem_cons_zero, List.getElem?_toArray, List.getElem?_cons_succ, List.getElem?_cons_zero, Act.put, List.setIfInBounds_toArray, List.set_cons_zero, List.set_cons_succ]
      refine fan_take (i := 7) (v := ?_) rfl (by kernel_rfl) (fun _ _ _ _ h => h) (by kernel_rfl) (HQ.out _ b0) ?_ ?_
      rotate_left
      · rintro w9 ⟨⟨q0, q1, q2⟩, p0, p1, p2⟩
        go_simp
        try with_reducible rfl
      try simp only [List.getElem_toArray, List.getElem_cons_succ, List.getElem_cons_zero, List.getElem?_toArray, List.getElem?_cons_succ, List.getElem?_cons_zero, Act.put, List.setIfInBounds_toArray, List.set_cons_zero, List.set_cons_succ]
      refine fan_one 8 (by kernel_rfl) ?_
      refine fan_step rfl (by kernel_rfl) fun K hK => ?_
      refine wp_call_of 21 _ _ (by rfl) #[.slice b3 n c3, .slice b4 n c4] (by simp [Act.eval]) (Try.call21 _ _) (KS.out c0_ b0) ?_
      rintro e c1_ ⟨rfl, nn, hnn⟩
      have b1 : Below Y5.heap.size Y5 c1_ := by rw [hnn]; exact b0.trans (below_drewN' _ _ _)
      refine ⟨_, rfl, hK _ _ (HQ.out _ b1) ?_⟩
      clear hK K hnn
      try simp only [List.getElem_toArray, List.getElem_cons_succ, List.getElem_cons_zero, List.getElem?_toArray, List.getElem?_cons_succ, List.getElem?_cons_zero, Act.put, List.setIfInBounds_toArray, List.set_cons_zero, List.set_cons_succ]
      refine fan_done (by kernel_rfl) ?_
      show wpList _ _ _ _ _ _
      have HEE := hide (HE.out _ b1)
      go_wp2
      go_ret
      exact ⟨rfl, HEE.out⟩
end Go.Proofs.Ytfalhboahdccmaa.raftlogMatching
