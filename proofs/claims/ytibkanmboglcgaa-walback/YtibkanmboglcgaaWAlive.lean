/-
  The law's own 'alive' (the page's example of logs) answers true; it makes memory of its own and changes none that was there.
-/
import Derived.Laws.IdiomStrings
import Derived.Test.YtibkanmboglcgaaWSay
import Derived.Test.YtibkanmboglcgaaConv
namespace Go.Proofs.Ytibkanmboglcgaa
open Go.RowKit
set_option linter.unusedVariables false
set_option linter.unusedSimpArgs false

theorem rdSec_lit1 {X : World} {g : Nat} {v1 : Value} {a : List UInt8} {T : TypeId} (h : X.heap[g]? = some (.cells #[v1] T (0, 0))) (h1 : Rd X v1 a) : RdSec X (.slice (some ⟨g, 0, none⟩) 1 1) [a] := by
  refine ⟨some ⟨g, 0, none⟩, 1, rfl, Nat.le_refl _, by unfold maxLen; omega, (fun h => nomatch h), .inr ⟨g, 0, rfl, fun i x hx => ?_⟩⟩
  match i, hx with
  | 0, hx =>
    simp only [List.getElem?_cons_zero, Option.some.injEq] at hx
    subst hx
    refine ⟨[v1], ⟨_, rfl, h1⟩, fun j u hj => ?_⟩
    match j, hj with
    | 0, hj => simp only [List.getElem?_cons_zero, Option.some.injEq] at hj; subst hj; rw [cell_of_row _ _ _ _ _ (0, 0) h]; rfl
    | j + 1, hj => simp at hj
  | i + 1, hx => simp at hx
theorem rdSec_lit2 {X : World} {g : Nat} {v1 v2 : Value} {a b : List UInt8} {T : TypeId} (h : X.heap[g]? = some (.cells #[v1, v2] T (0, 0))) (h1 : Rd X v1 a) (h2 : Rd X v2 b) : RdSec X (.slice (some ⟨g, 0, none⟩) 2 2) [a, b] := by
  refine ⟨some ⟨g, 0, none⟩, 2, rfl, Nat.le_refl _, by unfold maxLen; omega, (fun h => nomatch h), .inr ⟨g, 0, rfl, fun i x hx => ?_⟩⟩
  match i, hx with
  | 0, hx =>
    simp only [List.getElem?_cons_zero, Option.some.injEq] at hx
    subst hx
    refine ⟨[v1], ⟨_, rfl, h1⟩, fun j u hj => ?_⟩
    match j, hj with
    | 0, hj => simp only [List.getElem?_cons_zero, Option.some.injEq] at hj; subst hj; rw [cell_of_row _ _ _ _ _ (0, 0) h]; rfl
    | j + 1, hj => simp at hj
  | 1, hx =>
    simp only [List.getElem?_cons_succ, List.getElem?_cons_zero, Option.some.injEq] at hx
    subst hx
    refine ⟨[v2], ⟨_, rfl, h2⟩, fun j u hj => ?_⟩
    match j, hj with
    | 0, hj => simp only [List.getElem?_cons_zero, Option.some.injEq] at hj; subst hj; rw [cell_of_row _ _ _ _ _ (0, 0) h]; rfl
    | j + 1, hj => simp at hj
  | i + 2, hx => simp at hx
theorem freeze_size (w : World) (p : Addr) (n : Nat) : (w.freeze p n).heap.size = w.heap.size := by
  unfold World.freeze
  split
  · rfl
  · simp
/-- an answer stored into the box at g -/
theorem box3_put {T TL B g : Nat} {w w' : World} {x y z sv wv : Value} {s : List Wrt} {n : Int} {wt : List (List UInt8)} (hA : w'.heap[g]? = some (.cells #[x, y, z] TL (0, 0))) (o : LgF T B w' sv wv (s, n, wt)) (hB : g < B) (cc : Below w.heap.size w w') (hw : w.heap.size ≤ g) :
    ∃ U, U = ((w'.setCell ⟨g, 0, none⟩ sv).setCell ⟨g, 1, none⟩ (.int .i64 n)).setCell ⟨g, 2, none⟩ wv ∧ U.heap[g]? = some (.cells #[sv, .int .i64 n, wv] TL (0, 0)) ∧ LgF T B U sv wv (s, n, wt) ∧ Below w.heap.size w U ∧ U.heap.size = w'.heap.size :=
  ⟨_, rfl, heap_set3 hA _ _ _, o.set3 hB _ _ _, below_set3 cc hw _ _ _, by simp⟩

set_option maxRecDepth 100000 in
set_option maxHeartbeats 4000000 in
theorem walive_any (S : WalSay) (w : World) : Calls Try.prog 24 #[] w fun e w' => e = .returned (.bool true) ∧ Below w.heap.size w w' := by
  obtain ⟨u1, hu1⟩ : ∃ u, u = w.alloc (.cells #[.int .u8 97] 5) := ⟨_, rfl⟩
  have r1 : Rd (u1.freeze ⟨w.heap.size, 1, none⟩ 1) (.slice (some ⟨w.heap.size, 0, none⟩) 1 1) [97] := Rd.freeze (by rw [hu1]; exact rd_lit w [97] _ _ _ rfl rfl rfl (by decide)) _ _
  have b1 : Below w.heap.size w (u1.freeze ⟨w.heap.size, 1, none⟩ 1) := Lib.below_freeze (by rw [hu1]; exact (Below.refl _ _).alloc (Nat.le_refl _) _) (p := ⟨w.heap.size, 1, none⟩) (Nat.le_refl _) 1
  have hcv1 := conv_same u1 w.heap.size 1 1 5 1 (by rw [hu1, World.shape?, heap_alloc_last]; rfl)
  obtain ⟨Y1, hY1⟩ : ∃ Y, Y = u1.freeze ⟨w.heap.size, 1, none⟩ 1 := ⟨_, rfl⟩
  have s1 : Y1.heap.size = w.heap.size + 1 := by rw [hY1, freeze_size, hu1]; simp
  rw [← hY1] at r1 b1
  obtain ⟨u2, hu2⟩ : ∃ u, u = Y1.alloc (.cells #[.int .u8 98] 5) := ⟨_, rfl⟩
  have r2 : Rd (u2.freeze ⟨w.heap.size + 1, 1, none⟩ 1) (.slice (some ⟨w.heap.size + 1, 0, none⟩) 1 1) [98] := Rd.freeze (by rw [hu2]; exact rd_lit Y1 [98] _ _ _ rfl s1.symm rfl (by decide)) _ _
  have b2 : Below Y1.heap.size Y1 (u2.freeze ⟨w.heap.size + 1, 1, none⟩ 1) := Lib.below_freeze (by rw [hu2]; exact (Below.refl _ _).alloc (Nat.le_refl _) _) (p := ⟨w.heap.size + 1, 1, none⟩) (by rw [s1]; exact Nat.le_refl _) 1
  have hcv2 := conv_same u2 (w.heap.size + 1) 1 1 5 1 (by rw [hu2, World.shape?, ← s1, heap_alloc_last]; rfl)
  obtain ⟨Y2, hY2⟩ : ∃ Y, Y = u2.freeze ⟨w.heap.size + 1, 1, none⟩ 1 := ⟨_, rfl⟩
  have s2 : Y2.heap.size = w.heap.size + 1 + 1 := by rw [hY2, freeze_size, hu2]; simp [s1]
  rw [← hY2] at r2 b2
  obtain ⟨X, hX, X0, bX, sX⟩ := boxedN Y2 #[.slice (some ⟨w.heap.size, 0, none⟩) 1 1, .slice (some ⟨w.heap.size + 1, 0, none⟩) 1 1] 54
  rw [s2] at X0
  have RS := rdSec_lit2 X0 ((r1.to b2).to bX) (r2.to bX)
  have cX := b1.trans ((b2.trans (bX.mono b2.size)).mono b1.size)
  have KA := hide (S.appendS X _ _ _ wzero [[97], [98]] (RdS.nil _ _) (RdS.nil _ _) RS (fun s hs => by cases hs) (by decide))
  rw [al1] at KA
  rw [hY1, hu1] at s1
  rw [hY2, hu2, hY1, hu1] at s2
  rw [hY2, hu2, hY1, hu1] at hX
  rw [hu2, hY1, hu1] at hcv2
  rw [hu1] at hcv1
  clear r1 r2 b1 b2 bX X0 RS hY2 hu2 hY1 hu1
  go_enter Try.func24, Try.ntmps24
  go_wp2_with fail
  rw [← hX]
  clear hcv1 hcv2 s1 s2
  replace hX := hide hX
  refine KA.out.mono ?_
  rintro e w1 ⟨sv1, wv1, rfl, o1, d1⟩
  clear KA
  obtain ⟨p1, p2⟩ := o1.rd3
  obtain ⟨a1, c1, hv1⟩ := p1.slice
  obtain ⟨a2, c2, hv2⟩ := p2.slice
  rw [show (wsegs 0 []).length = 0 from rfl] at hv1
  dsimp only [List.length] at hv1 hv2
  subst hv1 hv2
  obtain ⟨V, hV, V0, bV, sV⟩ := boxedN w1 #[.slice a1 0 c1, .int .i64 0, .slice a2 2 c2] 28
  have cV := hide (cX.trans ((d1.trans (bV.mono d1.size)).mono cX.size))
  have KF := hide (S.flushS V _ _ (wsegs 0 [], 0, [[97], [98]]) 10 (p1.to0 bV) (p2.to0 bV) (fun s hs => by cases hs))
  rw [al2] at KF
  obtain ⟨⟨T0, T1, T2⟩, _⟩ := cells3 V0
  have V0' := hide V0
  have hgw : w.heap.size ≤ w1.heap.size := by have := cX.size; have := d1.size; omega
  rw [hV] at T0 T1 T2
  clear p1 p2 o1 d1 bV V0 cX
  go_wp2_with fail
  rw [← hV]
  replace hV := hide hV
  refine KF.out.mono ?_
  rintro e w2 ⟨sv2, wv2, rfl, o2, d2⟩
  clear KF T0 T1 T2
  obtain ⟨p1, p2⟩ := o2.rd3
  obtain ⟨a1, c1, hv1⟩ := p1.slice
  obtain ⟨a2, c2, hv2⟩ := p2.slice
  rw [show (wsegs 0 [[[97], [98]]]).length = 1 from rfl] at hv1
  dsimp only [List.length] at hv2
  subst hv1 hv2
  have B2 := (d2.block _ (lt_of_block V0'.out)).trans V0'.out
  obtain ⟨⟨t0, t1, t2⟩, tf⟩ := cells3 B2
  have f0 := tf 0
  have f1 := tf 1
  have f2 := tf 2
  obtain ⟨U2, hU2, E2, oU2, cU2, sU2⟩ := box3_put (w := w) B2 o2 (by rw [sV]; exact Nat.lt_succ_self _) (cV.out.trans (d2.mono cV.out.size)) hgw
  obtain ⟨⟨T0, T1, T2⟩, _⟩ := cells3 E2
  have E2' := hide E2
  rw [hU2] at T0 T1 T2
  clear p1 p2 tf o2 d2 B2 E2 sU2
  go_upto_region 4 with fail
  rw [← hU2]
  rw [← hU2] at T0 T1 T2
  replace hU2 := hide hU2
  replace cU2 := hide cU2
  clear t0 t1 t2 f0 f1 f2
  obtain ⟨u3, hu3⟩ : ∃ u, u = U2.alloc (.cells #[.int .u8 99] 5) := ⟨_, rfl⟩
  have r3 : Rd (u3.freeze ⟨U2.heap.size, 1, none⟩ 1) (.slice (some ⟨U2.heap.size, 0, none⟩) 1 1) [99] := Rd.freeze (by rw [hu3]; exact rd_lit U2 [99] _ _ _ rfl rfl rfl (by decide)) _ _
  have b3 : Below U2.heap.size U2 (u3.freeze ⟨U2.heap.size, 1, none⟩ 1) := Lib.below_freeze (by rw [hu3]; exact (Below.refl _ _).alloc (Nat.le_refl _) _) (p := ⟨U2.heap.size, 1, none⟩) (Nat.le_refl _) 1
  have hcv3 := conv_same u3 U2.heap.size 1 1 5 1 (by rw [hu3, World.shape?, heap_alloc_last]; rfl)
  obtain ⟨Y3, hY3⟩ : ∃ Y, Y = u3.freeze ⟨U2.heap.size, 1, none⟩ 1 := ⟨_, rfl⟩
  have s3 : Y3.heap.size = U2.heap.size + 1 := by rw [hY3, freeze_size, hu3]; simp
  rw [← hY3] at r3 b3
  obtain ⟨X3, hX3, X30, bX3, sX3⟩ := boxedN Y3 #[.slice (some ⟨U2.heap.size, 0, none⟩) 1 1] 54
  rw [s3] at X30
  have RS3 := rdSec_lit1 X30 (r3.to bX3)
  have b3X := b3.trans (bX3.mono b3.size)
  obtain ⟨p1, p2⟩ := oU2.rd3
  have KA := hide (S.appendS X3 _ _ _ (wsegs 0 [[[97], [98]]], 2, []) [[99]] (p1.to0 b3X) (p2.to0 b3X) RS3 al_short1 (by decide))
  rw [al3] at KA
  have cX3 := hide (cU2.out.trans (b3X.mono cU2.out.size))
  have BX3 := hide ((b3X.block _ (lt_of_block E2'.out)).trans E2'.out)
  have hlt3 : w1.heap.size < X3.heap.size := lt_of_block BX3.out
  rw [hY3, hu3] at hX3 s3
  rw [hu3] at hcv3
  clear r3 b3 bX3 X30 RS3 hY3 hu3 p1 p2 b3X oU2
  go_wp2_with fail
  rw [← hX3]
  clear hcv3 s3 T0 T1 T2
  replace hX3 := hide hX3
  refine KA.out.mono ?_
  rintro e w3 ⟨sv3, wv3, rfl, o3, d3⟩
  clear KA
  obtain ⟨p1, p2⟩ := o3.rd3
  obtain ⟨a1, c1, hv1⟩ := p1.slice
  obtain ⟨a2, c2, hv2⟩ := p2.slice
  rw [show (wsegs 0 [[[97], [98]]]).length = 1 from rfl] at hv1
  dsimp only [List.length] at hv2
  subst hv1 hv2
  have B3 := (d3.block _ (lt_of_block BX3.out)).trans BX3.out
  obtain ⟨⟨t0, t1, t2⟩, tf⟩ := cells3 B3
  have f0 := tf 0
  have f1 := tf 1
  have f2 := tf 2
  obtain ⟨U3, hU3, E3, oU3, cU3, sU3⟩ := box3_put (w := w) B3 o3 (hlt3) (cX3.out.trans (d3.mono cX3.out.size)) hgw
  obtain ⟨⟨T0, T1, T2⟩, _⟩ := cells3 E3
  have E3' := hide E3
  rw [hU3] at T0 T1 T2
  clear p1 p2 tf o3 d3 B3 E3 sU3
  go_upto_region 5 with fail
  rw [← hU3]
  rw [← hU3] at T0 T1 T2
  replace hU3 := hide hU3
  replace cU3 := hide cU3
  clear t0 t1 t2 f0 f1 f2
  obtain ⟨p1, p2⟩ := oU3.rd3
  have KF := hide (S.flushS U3 _ _ (wsegs 0 [[[97], [98]]], 2, [[99]]) 10 p1 p2 al_short1)
  rw [al4] at KF
  have hlt4 : w1.heap.size < U3.heap.size := lt_of_block E3'.out
  clear p1 p2 oU3
  go_wp2_with fail
  refine KF.out.mono ?_
  rintro e w4 ⟨sv4, wv4, rfl, o4, d4⟩
  clear KF T0 T1 T2
  obtain ⟨p1, p2⟩ := o4.rd3
  obtain ⟨a1, c1, hv1⟩ := p1.slice
  obtain ⟨a2, c2, hv2⟩ := p2.slice
  rw [show (wsegs 0 [[[97], [98]], [[99]]]).length = 2 from rfl] at hv1
  dsimp only [List.length] at hv2
  subst hv1 hv2
  have B4 := (d4.block _ (lt_of_block E3'.out)).trans E3'.out
  obtain ⟨⟨t0, t1, t2⟩, tf⟩ := cells3 B4
  have f0 := tf 0
  have f1 := tf 1
  have f2 := tf 2
  obtain ⟨U4, hU4, E4, oU4, cU4, sU4⟩ := box3_put (w := w) B4 o4 (hlt4) (cU3.out.trans (d4.mono cU3.out.size)) hgw
  obtain ⟨⟨T0, T1, T2⟩, _⟩ := cells3 E4
  have E4' := hide E4
  rw [hU4] at T0 T1 T2
  clear p1 p2 tf o4 d4 B4 E4 sU4
  go_upto_region 6 with fail
  rw [← hU4]
  rw [← hU4] at T0 T1 T2
  replace hU4 := hide hU4
  replace cU4 := hide cU4
  clear t0 t1 t2 f0 f1 f2
  obtain ⟨p1, p2⟩ := oU4.rd3
  obtain ⟨b9, o9, u9, rfl, g1, _, _⟩ := p1.wrt (y := (2, wdata [[99]])) (show (wsegs 0 [[[97], [98]], [[99]]])[1]? = some (2, wdata [[99]]) from rfl)
  dsimp only at g1
  clear p1 p2 oU4
  iterate 4
    go_wp2_with fail
    refine (num8_any _ _).mono ?_
    rintro e w' ⟨rfl, rfl⟩
  go_wp2
  go_ret
  exact ⟨rfl, cU4.out⟩

end Go.Proofs.Ytibkanmboglcgaa
