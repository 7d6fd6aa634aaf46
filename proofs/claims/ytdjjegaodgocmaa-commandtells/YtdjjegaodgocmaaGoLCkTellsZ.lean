/- Several texts in one: LCkTells. -/
import Derived.Test.YtdjjegaodgocmaaGoLCkTells2
import Derived.Test.YtdjjegaodgocmaaGoLCkTells1
set_option linter.unusedVariables false
set_option linter.unusedSimpArgs false
namespace Go.Proofs.Ytdjjegaodgocmaa.commandTells
open Go.ChangeShapes Go.WideShapes Go.ChangeAt Go.RowKit
theorem KpH.rowN {g : Nat} {w U : World} (h : KpH g w U) {B T n : Nat} {v : Value} {m : Nat} {cc : List Value} (ho : w.ownsRow B T n v m cc) (hg : ∀ k, v.ownBlock = some k → k ≠ g) : U.ownsRow B T n v m cc := by
 rcases ho with ⟨h1, h2 | ⟨k, cap, cur, hv, hB, hk, hr⟩⟩
 ·exact ⟨h1, .inl h2⟩
 ·refine ⟨h1, .inr ⟨k, cap, cur, hv, hB, ?_, hr⟩⟩
  rw [h.1 k (lt_of_block hk) (hg k (by rw [hv]; rfl))]; exact hk
set_option maxRecDepth 100000 in
set_option maxHeartbeats 8000000 in
theorem walk0 (S : CmdSay) (w : World) (cs0 : Array Value) (x0 : Cm5) (g0 : SCm5.rd w cs0.toList x0) (m0 : cm5fit x0) (ai : Int) (hi : (Lit.int .i64 ai).wf = true) (a1 : Option Addr) (len1 cap1 : Nat) (x1 : List UInt8) (e1 : x1.length = len1) (g1 : Rd w (.slice a1 len1 cap1) x1) (m1 : len1 ≤ 140737488351232) :
  Calls Try.prog 3 #[.agg cs0, .int .i64 ai, .slice a1 len1 cap1] w fun e w' => e = .returned (.bool true) ∧ Below w.heap.size w w' := by
 obtain ⟨v, hcs, R0, fit⟩ := cm_form g0 m0
 rw [hcs]
 obtain ⟨c, hc⟩ : ∃ c, c = cmOf x0 := ⟨_, rfl⟩
 rw [← hc] at R0 fit ⊢
 clear g0 m0 hcs hc
 obtain ⟨oa, oc, rfl⟩ := R0.slice
 obtain ⟨W, hW, D, bW, sW⟩ := boxedN w #[.int .i64 c.kind, .int .i64 c.txn, .int .i64 c.home, .int .i64 c.verd, .slice oa c.ops.length oc] 24
 have HD : Hid (∀ U, Below W.heap.size W U → (U.cell? ⟨w.heap.size, 0, none⟩ = some (.int .i64 c.kind) ∧ U.cell? ⟨w.heap.size, 1, none⟩ = some (.int .i64 c.txn) ∧ U.cell? ⟨w.heap.size, 2, none⟩ = some (.int .i64 c.home) ∧ U.cell? ⟨w.heap.size, 3, none⟩ = some (.int .i64 c.verd) ∧ U.cell? ⟨w.heap.size, 4, none⟩ = some (.slice oa c.ops.length oc))) := fun U b => (cells5c ((b.block _ (lt_of_block D)).trans D)).1
 have HR : Hid (∀ U, Below W.heap.size W U → RdO U (.slice oa c.ops.length oc) c.ops) := fun U b => R0.to0 (bW.trans (b.mono bW.size))
 have HE : Hid (∀ U, Below W.heap.size W U → Below w.heap.size w U) := fun U b => bW.trans (b.mono bW.size)
 have HG : Hid (∀ U, Below W.heap.size W U → Rd U (.slice a1 len1 cap1) x1) := fun U b => g1.to (bW.trans (b.mono bW.size))
 have E1 := hide e1
 replace fit := hide fit
 clear R0 bW D g1 e1
 dsimp only [cv]
 go_enter Try.func3, Try.ntmps3
 go_wp2_with fail
 rw [← hW]
 replace hW := hide hW
 have hl1 : Hid (x1.length ≤ 140737488355328) := by show _ ≤ _; rw [E1.out]; omega
 have b0 : Below W.heap.size W W.drew := (Below.refl _ _).drew
 go_cut [7, 8] from 19 to 22 (fun pp vv wx => ∃ (gi : Nat) (o8 : Option Addr) (c8 : Nat), pp = .pointer (some ⟨gi, 0, none⟩) ∧ vv = .slice o8 len1 c8 ∧ Hid (Below W.heap.size W wx ∧ W.heap.size ≤ gi ∧ wx.heap[gi]? = some (.cells #[.int .i64 c.kind, .int .i64 c.txn, .int .i64 c.home, .int .i64 c.verd, .slice oa c.ops.length oc] 24 (0, 0)) ∧ OwnB W.heap.size wx (.slice o8 len1 c8) x1 ∧ ∀ k, Value.ownBlock (.slice o8 len1 c8) = some k → k ≠ gi))
 case first =>
  refine wp_region_fan (fun w9 => w9.cell? ⟨w.heap.size, 0, none⟩ = some (.int .i64 c.kind) ∧ w9.cell? ⟨w.heap.size, 1, none⟩ = some (.int .i64 c.txn) ∧ w9.cell? ⟨w.heap.size, 2, none⟩ = some (.int .i64 c.home) ∧ w9.cell? ⟨w.heap.size, 3, none⟩ = some (.int .i64 c.verd) ∧ w9.cell? ⟨w.heap.size, 4, none⟩ = some (.slice oa c.ops.length oc)) 4 mixed (by simp) ?_
  generalize W.drew = c0 at *
  refine fan_take (i := 0) (v := ?_) rfl (by kernel_rfl) (fun _ _ _ _ h => h) (by kernel_rfl) (HD.out _ b0) ?_ ?_
  rotate_left
  ·rintro w9 ⟨t0, t1, t2, t3, t4⟩
   go_simp
   try with_reducible rfl
  try simp only [List.getElem_toArray, List.getElem_cons_succ, List.getElem_cons_zero, List.getElem?_toArray, List.getElem?_cons_succ, List.getElem?_cons_zero, Act.put, List.setIfInBounds_toArray, List.set_cons_zero, List.set_cons_succ]
  refine fan_take (i := 1) (v := ?_) rfl (by kernel_rfl) (fun _ _ _ _ h => h) (by kernel_rfl) (HD.out _ b0) ?_ ?_
  rotate_left
  ·rintro w9 ⟨t0, t1, t2, t3, t4⟩
   go_simp
   try with_reducible rfl
  try simp only [List.getElem_toArray, List.getElem_cons_succ, List.getElem_cons_zero, List.getElem?_toArray, List.getElem?_cons_succ, List.getElem?_cons_zero, Act.put, List.setIfInBounds_toArray, List.set_cons_zero, List.set_cons_succ]
  refine fan_two 2 3 (by kernel_rfl) ?_ ?_
  ·refine fan_step rfl (by kernel_rfl) fun K hK => ?_
   refine wp_call_of 8 _ _ (by rfl) #[.slice a1 len1 cap1] (by simp [Act.eval]) (Try.call8 _ _) (copy_any c0 _ x1 (HG.out c0 b0) hl1.out) ?_
   rintro e c1 ⟨v8, rfl, o8, b8⟩
   obtain ⟨oa8, oc8, rfl⟩ := o8.rd.slice
   rw [E1.out] at o8 ⊢
   have b1 := b0.trans (b8.mono b0.size)
   refine ⟨_, rfl, hK _ _ (HD.out _ b1) ?_⟩
   clear hK K
   try simp only [List.getElem_toArray, List.getElem_cons_succ, List.getElem_cons_zero, List.getElem?_toArray, List.getElem?_cons_succ, List.getElem?_cons_zero, Act.put, List.setIfInBounds_toArray, List.set_cons_zero, List.set_cons_succ]
   refine fan_one 3 (by kernel_rfl) ?_
   refine fan_step rfl (by kernel_rfl) fun K hK => ?_
   go_simp
   obtain ⟨c2, hc2, D2, bc2, sc2⟩ := boxedN c1 #[.int .i64 0, .int .i64 0, .int .i64 0, .int .i64 0, .slice none 0 0] 24
   rw [← hc2]
   have b2 := b1.trans (bc2.mono b1.size)
   obtain ⟨gi, hgi⟩ : ∃ g, g = c1.heap.size := ⟨_, rfl⟩
   rw [← hgi] at D2 ⊢
   refine hK _ _ (HD.out _ b2) ?_
   clear hK K hc2
   try simp only [List.getElem_toArray, List.getElem_cons_succ, List.getElem_cons_zero, List.getElem?_toArray, List.getElem?_cons_succ, List.getElem?_cons_zero, Act.put, List.setIfInBounds_toArray, List.set_cons_zero, List.set_cons_succ]
   refine fan_done (by kernel_rfl) ?_
   show wpList _ _ _ _ _ _
   have FIN : Hid (∀ a b p q r, a = Value.int .i64 c.kind → b = Value.int .i64 c.txn → p = Value.int .i64 c.home → q = Value.int .i64 c.verd → r = Value.slice oa c.ops.length oc → Below W.heap.size W (((((c2.setCell ⟨gi, 0, none⟩ a).setCell ⟨gi, 1, none⟩ b).setCell ⟨gi, 2, none⟩ p).setCell ⟨gi, 3, none⟩ q).setCell ⟨gi, 4, none⟩ r) ∧ W.heap.size ≤ gi ∧ (((((c2.setCell ⟨gi, 0, none⟩ a).setCell ⟨gi, 1, none⟩ b).setCell ⟨gi, 2, none⟩ p).setCell ⟨gi, 3, none⟩ q).setCell ⟨gi, 4, none⟩ r).heap[gi]? = some (.cells #[.int .i64 c.kind, .int .i64 c.txn, .int .i64 c.home, .int .i64 c.verd, .slice oa c.ops.length oc] 24 (0, 0)) ∧ OwnB W.heap.size (((((c2.setCell ⟨gi, 0, none⟩ a).setCell ⟨gi, 1, none⟩ b).setCell ⟨gi, 2, none⟩ p).setCell ⟨gi, 3, none⟩ q).setCell ⟨gi, 4, none⟩ r) (.slice oa8 len1 oc8) x1 ∧ ∀ k, Value.ownBlock (.slice oa8 len1 oc8) = some k → k ≠ gi) := by
    rintro a b p q r rfl rfl rfl rfl rfl
    have l1 := b1.size
    have q1 := fun i => (show c1.heap.size ≤ (⟨gi, i, none⟩ : Addr).block from by show _ ≤ gi; omega)
    have bb : Below c1.heap.size c1 (((((c2.setCell ⟨gi, 0, none⟩ (.int .i64 c.kind)).setCell ⟨gi, 1, none⟩ (.int .i64 c.txn)).setCell ⟨gi, 2, none⟩ (.int .i64 c.home)).setCell ⟨gi, 3, none⟩ (.int .i64 c.verd)).setCell ⟨gi, 4, none⟩ (.slice oa c.ops.length oc)) := ((((bc2.setCell (q1 0) _).setCell (q1 1) _).setCell (q1 2) _).setCell (q1 3) _).setCell (q1 4) _
    refine ⟨b1.trans (bb.mono b1.size), by omega, heap_all5 D2 _ _ _ _ _, rows_base (o8.below (by have := b8.size; omega) bb) (fun k hk => by have := (World.ownsRow.lt o8 k hk).1; have := b0.size; omega), fun k hk => ?_⟩
    have := (World.ownsRow.lt o8 k hk).2
    omega
   obtain ⟨⟨y0, y1, y2, y3, y4⟩, yf⟩ := cells5c D2
   clear b1 b2 bc2 sc2 D2 o8 b8 hgi
   go_wp2_with fail
   go_meet
   exact ⟨gi, _, _, rfl, rfl, hide (FIN.out _ _ _ _ _ rfl rfl rfl rfl rfl)⟩
  ·refine fan_step rfl (by kernel_rfl) fun K hK => ?_
   go_simp
   obtain ⟨c1, hc1, D1, bc1, sc1⟩ := boxedN c0 #[.int .i64 0, .int .i64 0, .int .i64 0, .int .i64 0, .slice none 0 0] 24
   rw [← hc1]
   have b1 := b0.trans (bc1.mono b0.size)
   obtain ⟨gi, hgi⟩ : ∃ g, g = c0.heap.size := ⟨_, rfl⟩
   rw [← hgi] at D1 ⊢
   refine hK _ _ (HD.out _ b1) ?_
   clear hK K hc1
   try simp only [List.getElem_toArray, List.getElem_cons_succ, List.getElem_cons_zero, List.getElem?_toArray, List.getElem?_cons_succ, List.getElem?_cons_zero, Act.put, List.setIfInBounds_toArray, List.set_cons_zero, List.set_cons_succ]
   refine fan_one 2 (by kernel_rfl) ?_
   refine fan_step rfl (by kernel_rfl) fun K hK => ?_
   refine wp_call_of 8 _ _ (by rfl) #[.slice a1 len1 cap1] (by simp [Act.eval]) (Try.call8 _ _) (copy_any c1 _ x1 (HG.out c1 b1) hl1.out) ?_
   rintro e c2 ⟨v8, rfl, o8, b8⟩
   obtain ⟨oa8, oc8, rfl⟩ := o8.rd.slice
   rw [E1.out] at o8 ⊢
   have b2 := b1.trans (b8.mono b1.size)
   refine ⟨_, rfl, hK _ _ (HD.out _ b2) ?_⟩
   clear hK K
   try simp only [List.getElem_toArray, List.getElem_cons_succ, List.getElem_cons_zero, List.getElem?_toArray, List.getElem?_cons_succ, List.getElem?_cons_zero, Act.put, List.setIfInBounds_toArray, List.set_cons_zero, List.set_cons_succ]
   refine fan_done (by kernel_rfl) ?_
   show wpList _ _ _ _ _ _
   have D2 := (b8.block _ (lt_of_block D1)).trans D1
   have FIN : Hid (∀ a b p q r, a = Value.int .i64 c.kind → b = Value.int .i64 c.txn → p = Value.int .i64 c.home → q = Value.int .i64 c.verd → r = Value.slice oa c.ops.length oc → Below W.heap.size W (((((c2.setCell ⟨gi, 0, none⟩ a).setCell ⟨gi, 1, none⟩ b).setCell ⟨gi, 2, none⟩ p).setCell ⟨gi, 3, none⟩ q).setCell ⟨gi, 4, none⟩ r) ∧ W.heap.size ≤ gi ∧ (((((c2.setCell ⟨gi, 0, none⟩ a).setCell ⟨gi, 1, none⟩ b).setCell ⟨gi, 2, none⟩ p).setCell ⟨gi, 3, none⟩ q).setCell ⟨gi, 4, none⟩ r).heap[gi]? = some (.cells #[.int .i64 c.kind, .int .i64 c.txn, .int .i64 c.home, .int .i64 c.verd, .slice oa c.ops.length oc] 24 (0, 0)) ∧ OwnB W.heap.size (((((c2.setCell ⟨gi, 0, none⟩ a).setCell ⟨gi, 1, none⟩ b).setCell ⟨gi, 2, none⟩ p).setCell ⟨gi, 3, none⟩ q).setCell ⟨gi, 4, none⟩ r) (.slice oa8 len1 oc8) x1 ∧ ∀ k, Value.ownBlock (.slice oa8 len1 oc8) = some k → k ≠ gi) := by
    rintro a b p q r rfl rfl rfl rfl rfl
    have l1 := b0.size
    have l2 : gi < c1.heap.size := lt_of_block D1
    have q1 := fun i => (show W.heap.size ≤ (⟨gi, i, none⟩ : Addr).block from by show _ ≤ gi; omega)
    have q2 := fun i => (show (⟨gi, i, none⟩ : Addr).block < c1.heap.size from l2)
    refine ⟨((((b2.setCell (q1 0) _).setCell (q1 1) _).setCell (q1 2) _).setCell (q1 3) _).setCell (q1 4) _, by omega, heap_all5 D2 _ _ _ _ _, rows_base (row_set13 (row_set13 (row_set13 (row_set13 (row_set13 o8 (q2 0) _) (q2 1) _) (q2 2) _) (q2 3) _) (q2 4) _) (fun k hk => by have := (World.ownsRow.lt o8 k hk).1; have := b1.size; omega), fun k hk => ?_⟩
    have := (World.ownsRow.lt o8 k hk).1
    omega
   obtain ⟨⟨y0, y1, y2, y3, y4⟩, yf⟩ := cells5c D2
   clear b1 b2 bc1 sc1 D1 D2 o8 b8 hgi
   go_wp2_with fail
   go_meet
   exact ⟨gi, _, _, rfl, rfl, hide (FIN.out _ _ _ _ _ rfl rfl rfl rfl rfl)⟩
 case rest =>
 obtain ⟨gi, o8, c8, rfl, rfl, hC⟩ := hcut
 obtain ⟨Bc, hgi, hbox, ho8, hne⟩ := hC.out
 obtain ⟨⟨F0, F1, F2, F3, F4⟩, FF⟩ := cells5c hbox
 obtain ⟨D0, D1, D2, D3, D4⟩ := HD.out wc Bc
 have KC := hide (copyo_any wc _ c.ops (HR.out wc Bc) fit.out.len)
 have BC := hide Bc
 clear Bc hgi hbox ho8 hne b0
 go_wp2_with fail
 refine KC.out.mono ?_
 rintro e w4 ⟨v4, rfl, o4, b4⟩
 clear KC F0 F1 F2 F3 F4 FF D0 D1 D2 D3 D4
 obtain ⟨na, nc, rfl⟩ := o4.rd.slice
 have hgl : gi < wc.heap.size := lt_of_block hC.out.2.2.1
 have d4 := (b4.block gi hgl).trans hC.out.2.2.1
 obtain ⟨⟨F0, F1, F2, F3, F4⟩, FF⟩ := cells5c d4
 obtain ⟨X, hX⟩ : ∃ X, X = w4.setCell ⟨gi, 4, none⟩ (.slice na c.ops.length nc) := ⟨_, rfl⟩
 have BX : Hid (Below W.heap.size W X) := by
  show Below _ _ _
  rw [hX]
  exact (BC.out.trans (b4.mono BC.out.size)).setCell (p := ⟨gi, 4, none⟩) hC.out.2.1 _
 have OX : OwnO wc.heap.size X (.slice na c.ops.length nc) c.ops := by
  rw [hX]
  exact row_set13 o4 (a := ⟨gi, 4, none⟩) hgl _
 have DX := (heap_one5 d4 (.slice na c.ops.length nc)).2.2.2
 rw [← hX] at DX
 have O8 : Rd X (.slice o8 len1 c8) x1 := by
  rw [hX]
  exact OwnB.rd (B := W.heap.size) (KpH.rowN ((KpH.of (g := gi) b4).set 4 _) hC.out.2.2.2.1 hC.out.2.2.2.2)
 have HI : Hid (∀ U, Below X.heap.size X U → (U.cell? ⟨gi, 0, none⟩ = some (.int .i64 c.kind) ∧ U.cell? ⟨gi, 1, none⟩ = some (.int .i64 c.txn) ∧ U.cell? ⟨gi, 2, none⟩ = some (.int .i64 c.home) ∧ U.cell? ⟨gi, 3, none⟩ = some (.int .i64 c.verd) ∧ U.cell? ⟨gi, 4, none⟩ = some (.slice na c.ops.length nc))) := fun U b => (cells5c ((b.block _ (lt_of_block DX)).trans DX)).1
 have HO : Hid (∀ U, Below X.heap.size X U → RdO U (.slice na c.ops.length nc) c.ops) := fun U b => OX.rd.to0 b
 have H8 : Hid (∀ U, Below X.heap.size X U → Rd U (.slice o8 len1 c8) x1) := fun U b => O8.to b
 have HX : Hid (∀ U, Below X.heap.size X U → Below W.heap.size W U) := fun U b => BX.out.trans (b.mono BX.out.size)
 have GX := HI.out X (Below.refl _ _)
 have KE := S.enc X c _ ai OX.rd fit.out (wf_int13 hi)
 obtain ⟨⟨y5, r5⟩, hy5⟩ : ∃ p, cenc c ai = p := ⟨_, rfl⟩
 rw [hy5] at KE
 dsimp only [cv] at KE
 rw [hX] at KE GX
 obtain ⟨G0, G1, G2, G3, G4⟩ := GX
 replace KE := hide KE
 clear OX DX O8 o4 b4 d4
 go_wp2_with fail
 refine KE.out.mono ?_
 rintro e w5 ⟨v5, rfl, o5, b5⟩
 rw [← hX] at b5 o5
 replace hX := hide hX
 clear KE G0 G1 G2 G3 G4 F0 F1 F2 F3 F4 FF
 obtain ⟨p5, q5, rfl⟩ := o5.rd.slice
 have B5 := hide b5
 have O5 : Hid (∀ U, Below w5.heap.size w5 U → Rd U (.slice p5 y5.length q5) y5) := fun U b => (o5.below (Nat.le_refl _) b).rd
 clear o5 b5
 obtain ⟨D0, D1, D2, D3, D4⟩ := HD.out w5 (HX.out _ B5.out)
 have KR := rcencode_any w5 c _ ai (HR.out w5 (HX.out _ B5.out))
 rw [hy5] at KR
 dsimp only [cv] at KR
 replace KR := hide KR
 go_wp2_with fail
 refine KR.out.mono ?_
 rintro e w6 ⟨v6, rfl, o6, b6⟩
 clear KR D0 D1 D2 D3 D4
 obtain ⟨p6, q6, rfl⟩ := o6.rd.slice
 have B6 := hide (B5.out.trans (b6.mono B5.out.size))
 have B56 := hide b6
 have O6 : Hid (∀ U, Below w6.heap.size w6 U → Rd U (.slice p6 y5.length q6) y5) := fun U b => (o6.below (Nat.le_refl _) b).rd
 clear o6 b6
 have KD := S.dec w6 _ x1 (H8.out _ B6.out) hl1.out
 obtain ⟨⟨d, n, f⟩, hd⟩ : ∃ p, cdec x1 = p := ⟨_, rfl⟩
 rw [hd] at KD
 dsimp only [cv] at KD
 replace KD := hide KD
 go_wp2_with fail
 refine KD.out.mono ?_
 rintro e w7 ⟨v7, rfl, o7, b7⟩
 clear KD
 obtain ⟨p7, q7, rfl⟩ := o7.rd.slice
 obtain ⟨Z, hZ, DZ, bZ, sZ⟩ := boxedN w7 #[.int .i64 d.kind, .int .i64 d.txn, .int .i64 d.home, .int .i64 d.verd, .slice p7 d.ops.length q7] 24
 have BZ := hide (B6.out.trans ((b7.trans (bZ.mono b7.size)).mono B6.out.size))
 have B6Z := hide (b7.trans (bZ.mono b7.size))
 have HZ : Hid (∀ U, Below Z.heap.size Z U → (U.cell? ⟨w7.heap.size, 0, none⟩ = some (.int .i64 d.kind) ∧ U.cell? ⟨w7.heap.size, 1, none⟩ = some (.int .i64 d.txn) ∧ U.cell? ⟨w7.heap.size, 2, none⟩ = some (.int .i64 d.home) ∧ U.cell? ⟨w7.heap.size, 3, none⟩ = some (.int .i64 d.verd) ∧ U.cell? ⟨w7.heap.size, 4, none⟩ = some (.slice p7 d.ops.length q7))) := fun U b => (cells5c ((b.block _ (lt_of_block DZ)).trans DZ)).1
 have O7 : Hid (∀ U, Below Z.heap.size Z U → RdO U (.slice p7 d.ops.length q7) d.ops) := fun U b => (o7.rd.to0 bZ).to0 b
 have KX := rcdec_any Z _ x1 (HG.out Z (HX.out _ BZ.out))
 unfold RcD at KX
 rw [hd] at KX
 dsimp only [cv] at KX
 replace KX := hide KX
 replace hd := hide hd
 replace hy5 := hide hy5
 clear o7 b7 DZ bZ sZ
 go_upto_region 6 with fail
 rw [← hZ]
 obtain ⟨gu, hgu⟩ : ∃ g, g = w7.heap.size := ⟨_, rfl⟩
 rw [← hgu] at HZ ⊢
 replace hZ := hide hZ
 replace hgu := hide hgu
 go_wp2_with fail
 refine KX.out.mono ?_
 rintro e w8 ⟨v8, rfl, o8', b8⟩
 clear KX
 obtain ⟨p8, q8, rfl⟩ := o8'.rd.slice
 obtain ⟨Y, hY, DY, bY, sY⟩ := boxedN w8 #[.int .i64 d.kind, .int .i64 d.txn, .int .i64 d.home, .int .i64 d.verd, .slice p8 d.ops.length q8] 24
 have BZY := hide (b8.trans (bY.mono b8.size))
 have BY := hide (BZ.out.trans (BZY.out.mono BZ.out.size))
 have HY : Hid (∀ U, Below Y.heap.size Y U → (U.cell? ⟨w8.heap.size, 0, none⟩ = some (.int .i64 d.kind) ∧ U.cell? ⟨w8.heap.size, 1, none⟩ = some (.int .i64 d.txn) ∧ U.cell? ⟨w8.heap.size, 2, none⟩ = some (.int .i64 d.home) ∧ U.cell? ⟨w8.heap.size, 3, none⟩ = some (.int .i64 d.verd) ∧ U.cell? ⟨w8.heap.size, 4, none⟩ = some (.slice p8 d.ops.length q8))) := fun U b => (cells5c ((b.block _ (lt_of_block DY)).trans DY)).1
 have O8' : Hid (∀ U, Below Y.heap.size Y U → RdO U (.slice p8 d.ops.length q8) d.ops) := fun U b => (o8'.rd.to0 bY).to0 b
 have B6Y := hide (B6Z.out.trans (BZY.out.mono B6Z.out.size))
 have B5Y := hide (B56.out.trans (B6Y.out.mono B56.out.size))
 clear o8' b8 DY bY sY
 have KS := same_any Y _ _ y5 y5 (O5.out Y B5Y.out) (O6.out Y B6Y.out)
 rw [show sameB y5 y5 = true by simp [sameB]] at KS
 replace KS := hide KS
 go_upto_region 7 with fail
 rw [← hY]
 obtain ⟨gv, hgv⟩ : ∃ g, g = w8.heap.size := ⟨_, rfl⟩
 rw [← hgv] at HY ⊢
 replace hY := hide hY
 replace hgv := hide hgv
 go_wp2_with fail
 refine KS.out.mono ?_
 rintro e w9 ⟨rfl, nn, rfl⟩
 clear KS
 have B9 : Hid (Below Y.heap.size Y (Y.drewN nn)) := below_drewN' Y nn Y.heap.size
 obtain ⟨U, hU⟩ : ∃ U, U = Y.drewN nn := ⟨_, rfl⟩
 rw [← hU] at B9 ⊢
 replace hU := hide hU
 have KC := samec_any U d d _ _ (O7.out U (BZY.out.trans (B9.out.mono BZY.out.size))) (O8'.out U B9.out)
 rw [decide_eq_true rfl] at KC
 dsimp only [cv] at KC
 replace KC := hide KC
 obtain ⟨Z0, Z1, Z2, Z3, Z4⟩ := HZ.out U (BZY.out.trans (B9.out.mono BZY.out.size))
 obtain ⟨Y0, Y1, Y2, Y3, Y4⟩ := HY.out U B9.out
 go_wp2_with fail
 refine (num13_any _ _).mono ?_
 rintro e w' ⟨rfl, rfl⟩
 go_wp2_with fail
 refine KC.out.mono ?_
 rintro e w10 ⟨rfl, b10⟩
 have BU := hide (BY.out.trans ((B9.out.trans (b10.mono B9.out.size)).mono BY.out.size))
 clear KC b10 Z0 Z1 Z2 Z3 Z4 Y0 Y1 Y2 Y3 Y4
 go_wp2_with fail
 refine (num13_any _ _).mono ?_
 rintro e w' ⟨rfl, rfl⟩
 go_upto_region 9 with fail
 have HS : Hid (∀ U, Below w10.heap.size w10 U → (U.cell? ⟨gi, 0, none⟩ = some (.int .i64 c.kind) ∧ U.cell? ⟨gi, 1, none⟩ = some (.int .i64 c.txn) ∧ U.cell? ⟨gi, 2, none⟩ = some (.int .i64 c.home) ∧ U.cell? ⟨gi, 3, none⟩ = some (.int .i64 c.verd) ∧ U.cell? ⟨gi, 4, none⟩ = some (.slice na c.ops.length nc)) ∧ (U.cell? ⟨w.heap.size, 0, none⟩ = some (.int .i64 c.kind) ∧ U.cell? ⟨w.heap.size, 1, none⟩ = some (.int .i64 c.txn) ∧ U.cell? ⟨w.heap.size, 2, none⟩ = some (.int .i64 c.home) ∧ U.cell? ⟨w.heap.size, 3, none⟩ = some (.int .i64 c.verd) ∧ U.cell? ⟨w.heap.size, 4, none⟩ = some (.slice oa c.ops.length oc))) := fun U b => ⟨HI.out U (BU.out.trans (b.mono BU.out.size)), HD.out U (HX.out _ (BU.out.trans (b.mono BU.out.size)))⟩
 obtain ⟨ck, hck⟩ : ∃ z, z = ccheck c := ⟨_, rfl⟩
 have CALLS : Hid (∀ U, Below w10.heap.size w10 U → (Calls Try.prog 17 #[.agg #[.int .i64 c.kind, .int .i64 c.txn, .int .i64 c.home, .int .i64 c.verd, .slice na c.ops.length nc]] U fun e w' => e = .returned (.int .i64 ck) ∧ Below U.heap.size U w') ∧ (Calls Try.prog 18 #[.agg #[.int .i64 c.kind, .int .i64 c.txn, .int .i64 c.home, .int .i64 c.verd, .slice oa c.ops.length oc]] U fun e w' => e = .returned (.int .i64 ck) ∧ Below U.heap.size U w') ∧ (Calls Try.prog 16 #[.agg #[.int .i64 c.kind, .int .i64 c.txn, .int .i64 c.home, .int .i64 c.verd, .slice na c.ops.length nc], .agg #[.int .i64 c.kind, .int .i64 c.txn, .int .i64 c.home, .int .i64 c.verd, .slice oa c.ops.length oc]] U fun e w' => e = .returned (.bool true) ∧ Below U.heap.size U w') ∧ (Calls Try.prog 14 #[.slice o8 len1 c8, .slice a1 len1 cap1] U fun e w' => e = .returned (.bool true) ∧ ∃ n, w' = U.drewN n)) := fun U b => by
  have bX := BU.out.trans (b.mono BU.out.size)
  have q1 := S.chk U c _ (HO.out U bX) fit.out
  have q2 := rccheck_any U c _ (HR.out U (HX.out _ bX))
  have q3 := samec_any U c c _ _ (HO.out U bX) (HR.out U (HX.out _ bX))
  have q4 := same_any U _ _ x1 x1 (H8.out U bX) (HG.out U (HX.out _ bX))
  rw [← hck] at q1 q2
  rw [decide_eq_true rfl] at q3
  rw [show sameB x1 x1 = true by simp [sameB]] at q4
  exact ⟨q1, q2, q3, q4⟩
 replace hck := hide hck
 have hFin : Hid (∀ U, Below w10.heap.size w10 U → Below w.heap.size w U) := fun U b => HE.out _ (HX.out _ (BU.out.trans (b.mono BU.out.size)))
 clear HI HO H8 HX HZ O7 HY O8' O5 O6 B9 BZY B6Y B5Y BZ BY B6Z B56 B5 B6 BC BX hC hl1 HD HR HG
 have b0 : Below w10.heap.size w10 w10.drew := (Below.refl _ _).drew
 refine wp_region_sched (fun U => (U.cell? ⟨gi, 0, none⟩ = some (.int .i64 c.kind) ∧ U.cell? ⟨gi, 1, none⟩ = some (.int .i64 c.txn) ∧ U.cell? ⟨gi, 2, none⟩ = some (.int .i64 c.home) ∧ U.cell? ⟨gi, 3, none⟩ = some (.int .i64 c.verd) ∧ U.cell? ⟨gi, 4, none⟩ = some (.slice na c.ops.length nc)) ∧ (U.cell? ⟨w.heap.size, 0, none⟩ = some (.int .i64 c.kind) ∧ U.cell? ⟨w.heap.size, 1, none⟩ = some (.int .i64 c.txn) ∧ U.cell? ⟨w.heap.size, 2, none⟩ = some (.int .i64 c.home) ∧ U.cell? ⟨w.heap.size, 3, none⟩ = some (.int .i64 c.verd) ∧ U.cell? ⟨w.heap.size, 4, none⟩ = some (.slice oa c.ops.length oc))) [(0, true), (3, true), (1, false), (2, false), (4, false), (5, true), (6, true), (7, true), (8, true), (9, false), (10, true), (11, true), (12, true), (13, true), (14, false), (15, true), (16, true), (17, false), (18, true)] 19 mixed (by kernel_rfl) (fun _ _ _ _ h => h) ?_
 generalize w10.drew = c0 at *
 refine sched_take (v := ?_) rfl (by kernel_rfl) (HS.out _ b0) ?_ ?_
 rotate_left
 ·rintro w9 ⟨⟨q0, q1, q2, q3, q4⟩, p0, p1, p2, p3, p4⟩
  go_simp
  try with_reducible rfl
 try simp only [List.getElem_toArray, List.getElem_cons_succ, List.getElem_cons_zero, List.getElem?_toArray, List.getElem?_cons_succ, List.getElem?_cons_zero, Act.put, List.setIfInBounds_toArray, List.set_cons_zero, List.set_cons_succ]
 refine sched_take (v := ?_) rfl (by kernel_rfl) (HS.out _ b0) ?_ ?_
 rotate_left
 ·rintro w9 ⟨⟨q0, q1, q2, q3, q4⟩, p0, p1, p2, p3, p4⟩
  go_simp
  try with_reducible rfl
 try simp only [List.getElem_toArray, List.getElem_cons_succ, List.getElem_cons_zero, List.getElem?_toArray, List.getElem?_cons_succ, List.getElem?_cons_zero, Act.put, List.setIfInBounds_toArray, List.set_cons_zero, List.set_cons_succ]
 refine sched_run rfl (by kernel_rfl) fun K hK => ?_
 refine wp_call_of 17 _ _ (by rfl) #[.agg #[.int .i64 c.kind, .int .i64 c.txn, .int .i64 c.home, .int .i64 c.verd, .slice na c.ops.length nc]] (by simp [Act.eval]) (Try.call17 _ _) ((CALLS.out _ b0).1) ?_
 rintro e c1 ⟨rfl, bb⟩
 have b1 := b0.trans (bb.mono b0.size)
 refine ⟨_, rfl, hK _ _ (HS.out _ b1) ?_⟩
 clear hK K
 try simp only [List.getElem_toArray, List.getElem_cons_succ, List.getElem_cons_zero, List.getElem?_toArray, List.getElem?_cons_succ, List.getElem?_cons_zero, Act.put, List.setIfInBounds_toArray, List.set_cons_zero, List.set_cons_succ]
 refine sched_run rfl (by kernel_rfl) fun K hK => ?_
 refine wp_call_of 15 _ _ (by rfl) #[.int .i64 ck] (by simp [Act.eval]) (Try.call15 _ _) (num13_any _ _) ?_
 rintro e w' ⟨rfl, rfl⟩
 refine ⟨_, rfl, hK _ _ (HS.out _ b1) ?_⟩
 clear hK K
 try simp only [List.getElem_toArray, List.getElem_cons_succ, List.getElem_cons_zero, List.getElem?_toArray, List.getElem?_cons_succ, List.getElem?_cons_zero, Act.put, List.setIfInBounds_toArray, List.set_cons_zero, List.set_cons_succ]
 refine sched_run rfl (by kernel_rfl) fun K hK => ?_
 refine wp_call_of 18 _ _ (by rfl) #[.agg #[.int .i64 c.kind, .int .i64 c.txn, .int .i64 c.home, .int .i64 c.verd, .slice oa c.ops.length oc]] (by simp [Act.eval]) (Try.call18 _ _) ((CALLS.out _ b1).2.1) ?_
 rintro e c2 ⟨rfl, bb2⟩
 have b2 := b1.trans (bb2.mono b1.size)
 refine ⟨_, rfl, hK _ _ (HS.out _ b2) ?_⟩
 clear hK K
 try simp only [List.getElem_toArray, List.getElem_cons_succ, List.getElem_cons_zero, List.getElem?_toArray, List.getElem?_cons_succ, List.getElem?_cons_zero, Act.put, List.setIfInBounds_toArray, List.set_cons_zero, List.set_cons_succ]
 refine sched_take (v := ?_) rfl (by kernel_rfl) (HS.out _ b2) ?_ ?_
 rotate_left
 ·rintro w9 ⟨⟨q0, q1, q2, q3, q4⟩, p0, p1, p2, p3, p4⟩
  go_simp
  try with_reducible rfl
 try simp only [List.getElem_toArray, List.getElem_cons_succ, List.getElem_cons_zero, List.getElem?_toArray, List.getElem?_cons_succ, List.getElem?_cons_zero, Act.put, List.setIfInBounds_toArray, List.set_cons_zero, List.set_cons_succ]
 refine sched_take (v := ?_) rfl (by kernel_rfl) (HS.out _ b2) ?_ ?_
 rotate_left
 ·rintro w9 ⟨⟨q0, q1, q2, q3, q4⟩, p0, p1, p2, p3, p4⟩
  go_simp
  try with_reducible rfl
 try simp only [List.getElem_toArray, List.getElem_cons_succ, List.getElem_cons_zero, List.getElem?_toArray, List.getElem?_cons_succ, List.getElem?_cons_zero, Act.put, List.setIfInBounds_toArray, List.set_cons_zero, List.set_cons_succ]
 refine sched_take (v := ?_) rfl (by kernel_rfl) (HS.out _ b2) ?_ ?_
 rotate_left
 ·rintro w9 ⟨⟨q0, q1, q2, q3, q4⟩, p0, p1, p2, p3, p4⟩
  go_simp
  try with_reducible rfl
 try simp only [List.getElem_toArray, List.getElem_cons_succ, List.getElem_cons_zero, List.getElem?_toArray, List.getElem?_cons_succ, List.getElem?_cons_zero, Act.put, List.setIfInBounds_toArray, List.set_cons_zero, List.set_cons_succ]
 refine sched_take (v := ?_) rfl (by kernel_rfl) (HS.out _ b2) ?_ ?_
 rotate_left
 ·rintro w9 ⟨⟨q0, q1, q2, q3, q4⟩, p0, p1, p2, p3, p4⟩
  go_simp
  try with_reducible rfl
 try simp only [List.getElem_toArray, List.getElem_cons_succ, List.getElem_cons_zero, List.getElem?_toArray, List.getElem?_cons_succ, List.getElem?_cons_zero, Act.put, List.setIfInBounds_toArray, List.set_cons_zero, List.set_cons_succ]
 refine sched_run rfl (by kernel_rfl) fun K hK => ?_
 refine wp_call_of 16 _ _ (by rfl) #[.agg #[.int .i64 c.kind, .int .i64 c.txn, .int .i64 c.home, .int .i64 c.verd, .slice na c.ops.length nc], .agg #[.int .i64 c.kind, .int .i64 c.txn, .int .i64 c.home, .int .i64 c.verd, .slice oa c.ops.length oc]] (by simp [Act.eval]) (Try.call16 _ _) ((CALLS.out _ b2).2.2.1) ?_
 rintro e c3 ⟨rfl, bb3⟩
 have b3 := b2.trans (bb3.mono b2.size)
 refine ⟨_, rfl, hK _ _ (HS.out _ b3) ?_⟩
 clear hK K
 try simp only [List.getElem_toArray, List.getElem_cons_succ, List.getElem_cons_zero, List.getElem?_toArray, List.getElem?_cons_succ, List.getElem?_cons_zero, Act.put, List.setIfInBounds_toArray, List.set_cons_zero, List.set_cons_succ]
 refine sched_take (v := ?_) rfl (by kernel_rfl) (HS.out _ b3) ?_ ?_
 rotate_left
 ·rintro w9 ⟨⟨q0, q1, q2, q3, q4⟩, p0, p1, p2, p3, p4⟩
  go_simp
  try with_reducible rfl
 try simp only [List.getElem_toArray, List.getElem_cons_succ, List.getElem_cons_zero, List.getElem?_toArray, List.getElem?_cons_succ, List.getElem?_cons_zero, Act.put, List.setIfInBounds_toArray, List.set_cons_zero, List.set_cons_succ]
 refine sched_take (v := ?_) rfl (by kernel_rfl) (HS.out _ b3) ?_ ?_
 rotate_left
 ·rintro w9 ⟨⟨q0, q1, q2, q3, q4⟩, p0, p1, p2, p3, p4⟩
  go_simp
  try with_reducible rfl
 try simp only [List.getElem_toArray, List.getElem_cons_succ, List.getElem_cons_zero, List.getElem?_toArray, List.getElem?_cons_succ, List.getElem?_cons_zero, Act.put, List.setIfInBounds_toArray, List.set_cons_zero, List.set_cons_succ]
 refine sched_take (v := ?_) rfl (by kernel_rfl) (HS.out _ b3) ?_ ?_
 rotate_left
 ·rintro w9 ⟨⟨q0, q1, q2, q3, q4⟩, p0, p1, p2, p3, p4⟩
  go_simp
  try with_reducible rfl
 try simp only [List.getElem_toArray, List.getElem_cons_succ, List.getElem_cons_zero, List.getElem?_toArray, List.getElem?_cons_succ, List.getElem?_cons_zero, Act.put, List.setIfInBounds_toArray, List.set_cons_zero, List.set_cons_succ]
 refine sched_take (v := ?_) rfl (by kernel_rfl) (HS.out _ b3) ?_ ?_
 rotate_left
 ·rintro w9 ⟨⟨q0, q1, q2, q3, q4⟩, p0, p1, p2, p3, p4⟩
  go_simp
  try with_reducible rfl
 try simp only [List.getElem_toArray, List.getElem_cons_succ, List.getElem_cons_zero, List.getElem?_toArray, List.getElem?_cons_succ, List.getElem?_cons_zero, Act.put, List.setIfInBounds_toArray, List.set_cons_zero, List.set_cons_succ]
 refine sched_run rfl (by kernel_rfl) fun K hK => ?_
 refine wp_call_of 14 _ _ (by rfl) #[.slice o8 len1 c8, .slice a1 len1 cap1] (by simp [Act.eval]) (Try.call14 _ _) ((CALLS.out _ b3).2.2.2) ?_
 rintro e c4 ⟨rfl, nn4, rfl⟩
 have b4 := b3.trans (below_drewN' c3 nn4 w10.heap.size)
 refine ⟨_, rfl, hK _ _ (HS.out _ b4) ?_⟩
 clear hK K
 try simp only [List.getElem_toArray, List.getElem_cons_succ, List.getElem_cons_zero, List.getElem?_toArray, List.getElem?_cons_succ, List.getElem?_cons_zero, Act.put, List.setIfInBounds_toArray, List.set_cons_zero, List.set_cons_succ]
 refine sched_take (v := ?_) rfl (by kernel_rfl) (HS.out _ b4) ?_ ?_
 rotate_left
 ·rintro w9 ⟨⟨q0, q1, q2, q3, q4⟩, p0, p1, p2, p3, p4⟩
  go_simp
  try with_reducible rfl
 try simp only [List.getElem_toArray, List.getElem_cons_succ, List.getElem_cons_zero, List.getElem?_toArray, List.getElem?_cons_succ, List.getElem?_cons_zero, Act.put, List.setIfInBounds_toArray, List.set_cons_zero, List.set_cons_succ]
 refine sched_take (v := ?_) rfl (by kernel_rfl) (HS.out _ b4) ?_ ?_
 rotate_left
 ·rintro w9 ⟨⟨q0, q1, q2, q3, q4⟩, p0, p1, p2, p3, p4⟩
  go_simp
  try with_reducible rfl
 try simp only [List.getElem_toArray, List.getElem_cons_succ, List.getElem_cons_zero, List.getElem?_toArray, List.getElem?_cons_succ, List.getElem?_cons_zero, Act.put, List.setIfInBounds_toArray, List.set_cons_zero, List.set_cons_succ]
 refine sched_run rfl (by kernel_rfl) fun K hK => ?_
 refine wp_call_of 19 _ _ (by rfl) #[] (by simp [Act.eval]) (Try.call19 _ _) (calive_any S _) ?_
 rintro e c5 ⟨rfl, bb5⟩
 have b5 := b4.trans (bb5.mono b4.size)
 refine ⟨_, rfl, hK _ _ (HS.out _ b5) ?_⟩
 clear hK K
 try simp only [List.getElem_toArray, List.getElem_cons_succ, List.getElem_cons_zero, List.getElem?_toArray, List.getElem?_cons_succ, List.getElem?_cons_zero, Act.put, List.setIfInBounds_toArray, List.set_cons_zero, List.set_cons_succ]
 refine sched_take (v := ?_) rfl (by kernel_rfl) (HS.out _ b5) ?_ ?_
 rotate_left
 ·rintro w9 ⟨⟨q0, q1, q2, q3, q4⟩, p0, p1, p2, p3, p4⟩
  go_simp
  try with_reducible rfl
 try simp only [List.getElem_toArray, List.getElem_cons_succ, List.getElem_cons_zero, List.getElem?_toArray, List.getElem?_cons_succ, List.getElem?_cons_zero, Act.put, List.setIfInBounds_toArray, List.set_cons_zero, List.set_cons_succ]
 show wpList _ _ _ _ _ _
 have hE := hide (hFin.out _ b5)
 clear b0 b1 b2 b3 b4 b5 HS CALLS
 go_wp2
 go_ret
 exact ⟨rfl, hE.out⟩
theorem walk (w : World) (cs0 : Array Value) (x0 : Cm5) (g0 : SCm5.rd w cs0.toList x0) (m0 : cm5fit x0) (ai : Int) (hi : (Lit.int .i64 ai).wf = true) (a1 : Option Addr) (len1 cap1 : Nat) (x1 : List UInt8) (e1 : x1.length = len1) (g1 : Rd w (.slice a1 len1 cap1) x1) (m1 : len1 ≤ 140737488351232) :
  Calls Try.prog 3 #[.agg cs0, .int .i64 ai, .slice a1 len1 cap1] w fun e w' => e = .returned (.bool true) ∧ Below w.heap.size w w' :=
 walk0 cmd_say w cs0 x0 g0 m0 ai hi a1 len1 cap1 x1 e1 g1 m1
set_option maxRecDepth 100000 in
theorem lifted (os : Os) (started : os.Started) (H : Type) (enc : TypeId × Value → H) :
  ReturnsInHanded {} Try.checked os 3 .any (Rows.commandTellsSpec.pre6 enc Try.prog Try.f3 Rows.commandTellsRow.domain false) (Rows.commandTellsSpec.post enc Try.prog Try.f3 false true false false) := by
 refine returnsInHanded_of_change_sized (C := Try.checked) own started (by kernel_rfl) Try.func3
  (ChangeSpec.witness6 (enc := enc) (C := Try.checked) false ⟨#[], #[.agg #[.int .i64 0, .int .i64 0, .int .i64 0, .int .i64 0, .slice none 0 0], .int .i64 0, .slice none 0 0], []⟩ 8 (by kernel_rfl) (by kernel_rfl) (by kernel_rfl) (by kernel_rfl)) ?_
 intro W base args ds gs before hval0 hW hcnd hsz0 _
 have hsz : (DataW.weightsEach Try.prog (Try.f3.params.toList ++ Rows.commandTellsSpec.plain.varTypes Try.prog) (ds ++ gs)).all (· ≤ reachBytes) = true := hsz0
 have hval : ∀ (j : Nat) t v, Try.f3.params[j]? = some t → args[j]? = some v → Value.okWide Try.prog W .any base t v := hval0
 have hW' := hW
 obtain ⟨p, q, hA0, hV, rfl, hfz, hnd⟩ := hW
 have hA : DataW.TrodAll enc Try.prog W 0 (fun _ => true) true Try.f3.params.toList args.toList ds p := hA0
 rw [Try.params3] at hA hval hsz
 obtain ⟨v0, vs0, d0, ds0, p0, q0, hargs, rfl, rfl, h0, r0⟩ := trodAll_cons hA
 obtain ⟨v1, vs1, d1, ds1, p1, q1, rfl, rfl, rfl, h1, r1⟩ := trodAll_cons r0
 obtain ⟨v2, vs2, d2, ds2, p2, q2, rfl, rfl, rfl, h2, r2⟩ := trodAll_cons r1
 obtain ⟨rfl, rfl, rfl⟩ := trodAll_nil r2
 obtain rfl : args = #[v0, v1, v2] := by cases args; simp_all
 obtain ⟨rfl, rfl⟩ := trodVars_none hV
 obtain ⟨cs0, rfl, _⟩ := okWide_struct Try.underlying24 (hval 0 24 v0 rfl rfl)
 have lt0 : ∀ x ∈ p0, x.block < W.heap.size := by obtain ⟨m, hm⟩ := h0; exact DataW.trod_lt m _ _ _ hm
 have hh0 := h0
 obtain ⟨fu0, hf0⟩ := hh0
 obtain ⟨x0, g0, f0, b0⟩ := open_cmd.opened hf0
 obtain ⟨a1, rfl, rfl, rfl, w1⟩ := open_int Try.underlying3 (hval 1 3 v1 rfl rfl) h1
 obtain ⟨a2, len2, cap2, rfl⟩ := okWide_slice Try.underlying25 (hval 2 25 v2 rfl rfl)
 have lt2 : ∀ x ∈ p2, x.block < W.heap.size := by obtain ⟨m, hm⟩ := h2; exact DataW.trod_lt m _ _ _ hm
 obtain ⟨x2, e2, g2, s2⟩ := open_octs h2
 have m0 := f0 (reach_of hsz (j := 0) rfl rfl)
 have m2 := reach_octs hsz (j := 2) rfl rfl s2
 clear hA0 hval0 hsz0 hsz
 refine (walk W cs0 x0 g0 m0 a1 w1 a2 len2 cap2 x2 e2 g2 m2).mono fun e W' ⟨he, bel⟩ => ?_
 subst he
 exact ⟨_, rfl, _, _, _, [], _, [], hW', trodAll_mk1 (shut_bool Try.underlying4 _), (trodAll_cons_mk (Below.trod laidOut (by kernel_rfl) (of_decide_eq_true (by kernel_rfl)) h0 bel lt0) (trodAll_cons_mk (shut_int Try.underlying3 w1) (trodAll_cons_mk (Below.trod laidOut (by kernel_rfl) (of_decide_eq_true (by kernel_rfl)) h2 bel lt2) trodAll_mk0))), rfl, bel.frame _, fun h => by cases h⟩
theorem over : Rows.commandTellsRow.holds Try.pinned (OpenSpec.ofChange Rows.commandTellsSpec) :=
 OpenClaim.holds_of_wide 3 Try.f3 rfl rfl rfl rfl rfl rfl rfl ⟨rfl, rfl, rfl, rfl, rfl⟩ rfl rfl rfl rfl rfl (by kernel_rfl) Try.func3 (by kernel_rfl)
  (of_decide_eq_true (by kernel_rfl)) (by unfold Func.isWrapper; first | (rw [if_pos (by decide +kernel)]; kernel_rfl) | (rw [if_neg (by decide +kernel)]; exact ⟨rfl, rfl⟩))
  (fun os started H enc _ => lifted os started H enc)
end Go.Proofs.Ytdjjegaodgocmaa.commandTells
namespace Go.Proofs.Ytdjjegaodgocmaa
theorem commandTells_holds : Rows.CommandTellsSaid := commandTells.over
end Go.Proofs.Ytdjjegaodgocmaa
