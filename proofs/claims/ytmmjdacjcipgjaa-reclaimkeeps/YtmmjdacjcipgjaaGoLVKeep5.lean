/- Several texts in one: TCl TClD TRb TRc TRd TRo TChA TChg TPt TPu TDe TWo TOf TOg TPv TCp TQB TOr VMath VPA VPB VPC VPD VPF VAl VLa VGr VKe. -/
import Derived.Deep.QuietTactic
import Derived.BigQuiet
import Derived.Laws.Cover1
import Derived.OwnWalkIn
import Derived.Test.YtmmjdacjcipgjaaGoLVKeep4
import Derived.Test.YtmmjdacjcipgjaaGoLVKeep1
import Derived.Test.YtmmjdacjcipgjaaGoLVKeep3
import Derived.Laws.AppendOwnNone
import Derived.Test.YtmmjdacjcipgjaaGoLVKeep2
set_option linter.unusedVariables false
set_option linter.unusedSimpArgs false
namespace Go.Proofs.Ytmmjdacjcipgjaa
open Go.RowKit
structure KEd (B : Nat) (kv vv : Value) (w w' : World) : Prop where
 keep : ∀ b, b < w.heap.size → kv.ownBlock ≠ some b → vv.ownBlock ≠ some b → w'.heap[b]? = w.heap[b]?
 bel : Below B w w'
 size : w.heap.size ≤ w'.heap.size
theorem row_block {w w' : World} {B T n k : Nat} {v : Value} {cc : List Value} (h : w.ownsRow B T n v k cc) (hk : ∀ b, v.ownBlock = some b → w'.heap[b]? = w.heap[b]?) : w'.ownsRow B T n v k cc := by
 refine ⟨h.1, ?_⟩
 rcases h.2 with hn | ⟨b, cap, cur, hv, hgb, hb, r⟩
 ·exact .inl hn
 ·exact .inr ⟨b, cap, cur, hv, hgb, (hk b (by rw [hv]; rfl)).trans hb, r⟩
theorem own_eq {g b n c : Nat} (h : (Value.slice (some ⟨g, 0, none⟩) n c).ownBlock = some b) : g = b := by simpa [Value.ownBlock] using h
set_option maxRecDepth 100000 in
set_option maxHeartbeats 4000000 in
theorem pputcl_ins (B : Nat) (w : World) (nd : Nd) (kv vv dv : Value) (key val : Str) (i : Nat) (gk gl : Nat) (hN : OwnN B w kv vv dv nd) (hD : Dj kv vv dv) (hB : B ≤ w.heap.size) (hlen : nd.keys.length ≤ 1000) (hlv : nd.vals.length = nd.keys.length) (hi : i ≤ nd.keys.length)
  (hk : w.heap[gk]? = some (.cells #[st key] 9 (0, 0))) (hgk : gk < B) (hv : w.heap[gl]? = some (.cells #[st val] 9 (0, 0))) (hgl : gl < B) :
  Calls Try.prog 37 #[nv nd kv vv dv, .int .i64 (i : Int), .bool false, .pointer (some ⟨gl, 0, none⟩), .pointer (some ⟨gk, 0, none⟩)] w fun e w' => ∃ kv' vv', e = .returned (nv ⟨nd.leaf, nd.keys.take i ++ key :: nd.keys.drop i, nd.vals.take i ++ val :: nd.vals.drop i, nd.kids⟩ kv' vv' dv) ∧ OwnN B w' kv' vv' dv ⟨nd.leaf, nd.keys.take i ++ key :: nd.keys.drop i, nd.vals.take i ++ val :: nd.vals.drop i, nd.kids⟩ ∧ KEd B kv vv w w' := by
 obtain ⟨W, hW, DW, bW, sW⟩ := boxedN w #[.bool nd.leaf, kv, vv, dv] 79
 obtain ⟨X, hX, DX, bX, sX⟩ := boxedN W #[.bool false, .slice none 0 0, .slice none 0 0, .slice none 0 0] 79
 have bWX := bW.trans (bX.mono bW.size)
 have NX := hN.to bWX
 have D1 := (bX.block _ (lt_of_block DW)).trans DW
 rw [sW] at DX
 have kX := (bWX.block _ (lt_of_block hk)).trans hk
 have vX := (bWX.block _ (lt_of_block hv)).trans hv
 have hBX : B ≤ X.heap.size := Nat.le_trans hB bWX.size
 have hltK : ∀ b, kv.ownBlock = some b → b < w.heap.size := fun b hb => (World.ownsRow.lt hN.keys b hb).2
 have hltV : ∀ b, vv.ownBlock = some b → b < w.heap.size := fun b hb => (World.ownsRow.lt hN.vals b hb).2
 have hgeK : ∀ b, kv.ownBlock = some b → B ≤ b := fun b hb => (World.ownsRow.lt hN.keys b hb).1
 have hgeV : ∀ b, vv.ownBlock = some b → B ≤ b := fun b hb => (World.ownsRow.lt hN.vals b hb).1
 have hltJ : ∀ b, dv.ownBlock = some b → b < w.heap.size := fun b hb => (World.ownsRow.lt hN.kids b hb).2
 have HLT := hide (And.intro hltK (And.intro hltV (And.intro hgeK (And.intro hgeV hltJ))))
 have hsX : X.heap.size = w.heap.size + 1 + 1 := by rw [sX, sW]
 obtain ⟨Y, hY, DY, bY, sY⟩ := boxedN X #[st key] 9
 have NY := NX.to bY
 have hsY : Y.heap.size = w.heap.size + 1 + 1 + 1 := by rw [sY, hsX]
 have KI := hide (pins_any B Y kv nd.keys key X.heap.size i NY.keys DY (fun b hb => by have := hltK b hb; omega) (Nat.le_trans hBX bY.size) (by omega) hi)
 have bwY := bWX.trans (bY.mono bWX.size)
 have HY := hide (And.intro NY (And.intro ((bY.block _ (lt_of_block D1)).trans D1) (And.intro ((bY.block _ (lt_of_block DX)).trans DX) (And.intro ((bY.block _ (lt_of_block vX)).trans vX) bwY))))
 obtain ⟨ka, kc, va, vc, da, dc, rfl, rfl, rfl⟩ := hN.rd.slices
 obtain ⟨⟨E0, E1, E2, E3⟩, EF⟩ := cells4 D1
 obtain ⟨⟨F0, F1, F2, F3⟩, FF⟩ := cells4 DX
 have G0 := cellN kX (i := 0) rfl
 have L0 := cellN vX (i := 0) rfl
 replace hlv := hide hlv
 replace hD := hide hD
 replace hsY := hide hsY
 dsimp only [nv]
 rw [hsX] at KI
 rw [hY, hX, hW] at KI
 rw [hX, hW] at E0 E1 E2 E3 EF F0 F1 F2 F3 FF G0 L0
 clear DY bY NX D1 DX kX vX DW bW bX bWX hk hv hN NY bwY sX sW sY hsX hltK hltV hgeK hgeV hltJ
 go_enter Try.func37, Try.ntmps37
 go_wp2_with fail
 refine KI.out.mono ?_
 rintro e w2 ⟨g2, c2, rfl, o2, r2, l2⟩
 rw [← hW, ← hX, ← hY] at r2 l2
 clear E0 E1 E2 E3 EF F0 F1 F2 F3 FF G0 L0 KI
 obtain ⟨K2, hK2⟩ : ∃ l, l = nd.keys.take i ++ key :: nd.keys.drop i := ⟨_, rfl⟩
 rw [← hK2] at o2 ⊢
 obtain ⟨KL, hKL⟩ : ∃ q, q = K2.length := ⟨_, rfl⟩
 rw [← hKL] at o2 ⊢
 replace hKL := hide hKL
 obtain ⟨NY, D1, R1, vY, bwY⟩ := HY.out
 obtain ⟨hltK, hltV, hgeK, hgeV, hltJ⟩ := HLT.out
 have hsY' := hsY.out
 have kp2 : ∀ b, b < Y.heap.size → (Value.slice ka nd.keys.length kc).ownBlock ≠ some b → w2.heap[b]? = Y.heap[b]? := fun b hb hne => r2.block b hb (fun e => hne e.symm)
 have V2 : OwnT B w2 (.slice va nd.vals.length vc) nd.vals := row_block NY.vals fun b hb => kp2 b (World.ownsRow.lt NY.vals b hb).2 (fun e => hD.out.1 b e hb)
 have J2 : OwnJ B w2 (.slice da nd.kids.length dc) nd.kids := row_block NY.kids fun b hb => kp2 b (World.ownsRow.lt NY.kids b hb).2 (fun e => hD.out.2.1 b e hb)
 have D2 := (kp2 w.heap.size (by omega) (fun e => by have := hltK _ e; omega)).trans D1
 have R2 := (kp2 (w.heap.size + 1) (by omega) (fun e => by have := hltK _ e; omega)).trans R1
 have L2 := (kp2 gl (lt_of_block vY) (fun e => by have := hgeK _ e; omega)).trans vY
 have b2 : Below B w w2 := (bwY.mono hB).grown r2 (Nat.le_trans hB bwY.size) hgeK
 -- the keys are stored
 obtain ⟨U, hU⟩ : ∃ U, U = w2.setCell ⟨w.heap.size, 1, none⟩ (.slice (some ⟨g2, 0, none⟩) KL c2) := ⟨_, rfl⟩
 have DU : U.heap[w.heap.size]? = some (.cells #[.bool nd.leaf, .slice (some ⟨g2, 0, none⟩) KL c2, .slice va nd.vals.length vc, .slice da nd.kids.length dc] 79 (0, 0)) := by
  rw [hU]; have := heap_setN D2 1 (.slice (some ⟨g2, 0, none⟩) KL c2); simpa using this
 have kpU : ∀ b, b ≠ w.heap.size → U.heap[b]? = w2.heap[b]? := fun b hb => by rw [hU]; exact Below.heap_setCell _ _ _ _ hb
 have hg2 : g2 ≠ w.heap.size := by
  rcases l2 with h | h
  ·have := hltK _ h; omega
  ·omega
 have KU : OwnT B U (.slice (some ⟨g2, 0, none⟩) KL c2) K2 := row_block o2 fun b hb => kpU b (fun e9 => hg2 ((own_eq hb).trans e9))
 have VU : OwnT B U (.slice va nd.vals.length vc) nd.vals := row_block V2 fun b hb => kpU b (by have := hltV b hb; omega)
 have JU : OwnJ B U (.slice da nd.kids.length dc) nd.kids := row_block J2 fun b hb => kpU b (by have := hltJ b hb; omega)
 have RU := (kpU (w.heap.size + 1) (by omega)).trans R2
 have LU := (kpU gl (by omega)).trans L2
 have bU : Below B w U := by rw [hU]; exact b2.setCell (p := ⟨w.heap.size, 1, none⟩) hB _
 have sU : U.heap.size = w2.heap.size := by rw [hU]; simp
 have hU2 : Y.heap.size ≤ U.heap.size := by rw [sU]; exact r2.size
 obtain ⟨Z, hZ, DZ, bZ, sZ⟩ := boxedN U #[st val] 9
 have KI2 : Hid (Calls Try.prog 38 #[.slice va nd.vals.length vc, .int .i64 (i : Int), .slice (some ⟨U.heap.size, 0, none⟩) 1 1] Z fun e w' => InsR B Z w' (.slice va nd.vals.length vc) (nd.vals.take i ++ val :: nd.vals.drop i) e) :=
  pins_any B Z _ nd.vals val U.heap.size i (rows_to VU bZ) DZ (fun b hb => by have := hltV b hb; omega) (by have := bZ.size; omega) (by have := hlv.out; omega) (by rw [hlv.out]; exact hi)
 have HZ := hide (And.intro KU (And.intro VU (And.intro JU (And.intro DU (And.intro RU bU)))))
 have HKP := hide (And.intro kp2 (And.intro kpU bwY))
 have HBZ := hide bZ
 have hgg := hide (And.intro hg2 l2)
 have hsU := hide (And.intro sU hU2)
 obtain ⟨⟨E0, E1, E2, E3⟩, EF⟩ := cells4 D2
 obtain ⟨⟨P0, P1, P2, P3⟩, PF⟩ := cells4 DU
 have L0 := cellN LU (i := 0) rfl
 rw [hZ, sU, hU] at KI2
 rw [hU] at P0 P1 P2 P3 PF L0
 clear KU VU JU DU RU LU bU sU DZ bZ sZ hU2 kp2 kpU V2 J2 D2 R2 L2 b2 o2 r2 l2 hg2 NY D1 R1 vY bwY hltK hltV hgeK hgeV hltJ hsY'
 go_wp2_with fail
 refine KI2.out.mono ?_
 rintro e w3 ⟨g3, c3, rfl, o3, r3, l3⟩
 rw [← hU, ← hZ] at r3 l3
 clear E0 E1 E2 E3 EF P0 P1 P2 P3 PF L0 KI2
 obtain ⟨V3, hV3⟩ : ∃ l, l = nd.vals.take i ++ val :: nd.vals.drop i := ⟨_, rfl⟩
 rw [← hV3] at o3 ⊢
 obtain ⟨VL, hVL⟩ : ∃ q, q = V3.length := ⟨_, rfl⟩
 rw [← hVL] at o3 ⊢
 replace hVL := hide hVL
 obtain ⟨KU, VU, JU, DU, RU, bU⟩ := HZ.out
 obtain ⟨hltK, hltV, hgeK, hgeV, hltJ⟩ := HLT.out
 obtain ⟨sU, hU2⟩ := hsU.out
 have bZ := HBZ.out
 have hsY' := hsY.out
 have kp3 : ∀ b, b < U.heap.size → (Value.slice va nd.vals.length vc).ownBlock ≠ some b → w3.heap[b]? = U.heap[b]? := fun b hb hne => (r3.block b (Nat.lt_of_lt_of_le hb bZ.size) (fun e => hne e.symm)).trans (bZ.block b hb)
 have hdj : ∀ b, (Value.slice (some ⟨g2, 0, none⟩) KL c2).ownBlock = some b → (Value.slice va nd.vals.length vc).ownBlock ≠ some b := fun b hb hb2 => by
  have e9 : g2 = b := by simpa [Value.ownBlock] using hb
  subst e9
  rcases hgg.out.2 with h | h
  ·exact hD.out.1 _ h hb2
  ·have := hltV _ hb2; omega
 have K3 : OwnT B w3 (.slice (some ⟨g2, 0, none⟩) KL c2) K2 := row_block KU fun b hb => kp3 b (World.ownsRow.lt KU b hb).2 (hdj b hb)
 have J3 : OwnJ B w3 (.slice da nd.kids.length dc) nd.kids := row_block JU fun b hb => kp3 b (World.ownsRow.lt JU b hb).2 (fun e => hD.out.2.2 b e hb)
 have D3 := (kp3 w.heap.size (by omega) (fun e => by have := hltV _ e; omega)).trans DU
 have R3 := (kp3 (w.heap.size + 1) (by omega) (fun e => by have := hltV _ e; omega)).trans RU
 have b3 : Below B w w3 := (bU.trans (bZ.mono (by omega))).grown r3 (by have := bZ.size; omega) hgeV
 have hg3 : g3 ≠ w.heap.size ∧ g3 ≠ w.heap.size + 1 := by
  rcases l3 with h | h
  ·have := hltV _ h; omega
  ·have := bZ.size; omega
 have d9 := heap_setN D3 2 (.slice (some ⟨g3, 0, none⟩) VL c3)
 have D4 : (w3.setCell ⟨w.heap.size, 2, none⟩ (.slice (some ⟨g3, 0, none⟩) VL c3)).heap[w.heap.size]? = some (.cells #[.bool nd.leaf, .slice (some ⟨g2, 0, none⟩) KL c2, .slice (some ⟨g3, 0, none⟩) VL c3, .slice da nd.kids.length dc] 79 (0, 0)) := by simpa using d9
 have R4 : (w3.setCell ⟨w.heap.size, 2, none⟩ (.slice (some ⟨g3, 0, none⟩) VL c3)).heap[w.heap.size + 1]? = some (.cells #[.bool false, .slice none 0 0, .slice none 0 0, .slice none 0 0] 79 (0, 0)) := (Below.heap_setCell _ _ _ _ (show w.heap.size + 1 ≠ w.heap.size by omega)).trans R3
 obtain ⟨⟨E0, E1, E2, E3⟩, EF⟩ := cells4 D3
 obtain ⟨⟨P0, P1, P2, P3⟩, PF⟩ := cells4 D4
 obtain ⟨⟨F0, F1, F2, F3⟩, FF⟩ := cells4 R4
 have kp4 : ∀ b, b ≠ w.heap.size → b ≠ w.heap.size + 1 → (S4 (w.heap.size + 1) (w3.setCell ⟨w.heap.size, 2, none⟩ (.slice (some ⟨g3, 0, none⟩) VL c3)) (.bool nd.leaf) (.slice (some ⟨g2, 0, none⟩) KL c2) (.slice (some ⟨g3, 0, none⟩) VL c3) (.slice da nd.kids.length dc)).heap[b]? = w3.heap[b]? := fun b h1 h2 => (s4_other _ _ _ _ h2).trans (Below.heap_setCell _ _ _ _ h1)
 have hg2n : g2 ≠ w.heap.size + 1 := by
  rcases hgg.out.2 with h | h
  ·have := hltK _ h; omega
  ·omega
 have FN : Hid (OwnN B (S4 (w.heap.size + 1) (w3.setCell ⟨w.heap.size, 2, none⟩ (.slice (some ⟨g3, 0, none⟩) VL c3)) (.bool nd.leaf) (.slice (some ⟨g2, 0, none⟩) KL c2) (.slice (some ⟨g3, 0, none⟩) VL c3) (.slice da nd.kids.length dc)) (.slice (some ⟨g2, 0, none⟩) KL c2) (.slice (some ⟨g3, 0, none⟩) VL c3) (.slice da nd.kids.length dc) ⟨nd.leaf, K2, V3, nd.kids⟩) :=
  ⟨row_block K3 fun b hb => (by rw [← own_eq hb]; exact kp4 _ hgg.out.1 hg2n), row_block o3 fun b hb => (by rw [← own_eq hb]; exact kp4 _ hg3.1 hg3.2), row_block J3 fun b hb => (by have := hltJ b hb; exact kp4 _ (by omega) (by omega))⟩
 have b4 : Below B w (w3.setCell ⟨w.heap.size, 2, none⟩ (.slice (some ⟨g3, 0, none⟩) VL c3)) := b3.setCell (p := ⟨w.heap.size, 2, none⟩) hB _
 have FB := hide (below_set4n b4 (show B ≤ w.heap.size + 1 by omega) (.bool nd.leaf) (.slice (some ⟨g2, 0, none⟩) KL c2) (.slice (some ⟨g3, 0, none⟩) VL c3) (.slice da nd.kids.length dc))
 have FK : Hid (KEd B (.slice ka nd.keys.length kc) (.slice va nd.vals.length vc) w (S4 (w.heap.size + 1) (w3.setCell ⟨w.heap.size, 2, none⟩ (.slice (some ⟨g3, 0, none⟩) VL c3)) (.bool nd.leaf) (.slice (some ⟨g2, 0, none⟩) KL c2) (.slice (some ⟨g3, 0, none⟩) VL c3) (.slice da nd.kids.length dc))) := by
  obtain ⟨kp2, kpU, bwY⟩ := HKP.out
  refine ⟨fun b hb h1 h2 => (kp4 b (by omega) (by omega)).trans ((kp3 b (by omega) h2).trans ((kpU b (by omega)).trans ((kp2 b (by omega) h1).trans (bwY.block b hb)))), FB.out, ?_⟩
  have s3 := r3.size
  have := bZ.size
  simp [S4]
  omega
 have HR4 := hide R4
 clear D3 R3 K3 J3 D4 R4 d9 b4 o3 r3 l3 DU RU VU JU KU bZ kp3 kp4 b3 bU hdj hg3 hg2n hltK hltV hgeK hgeV hltJ sU hU2 hsY'
 go_wp2
 refine retN rfl rfl (w.heap.size + 1) rfl _ _ (0, 0) (heap_set4 HR4.out _ _ _ _) _ Try.underlying79 rfl info_nd10 ?_
 subst hK2 hV3
 exact ⟨_, _, rfl, FN.out, FK.out⟩
theorem OwnT.set {B : Nat} {w : World} {g n c : Nat} {xs : List Str} (h : OwnT B w (.slice (some ⟨g, 0, none⟩) n c) xs) (hn : n = xs.length) {i : Nat} (hi : i < xs.length) (y : Str) : OwnT B (w.setCell ⟨g, i, none⟩ (st y)) (.slice (some ⟨g, 0, none⟩) n c) (xs.set i y) := by
 obtain ⟨g', cap, cur, e, hB, hg, hk, hm, hs, ht⟩ := own_block h (by omega)
 simp only [Value.slice.injEq, Option.some.injEq, Addr.mk.injEq] at e
 obtain ⟨⟨rfl, _⟩, _, rfl⟩ := e
 refine ⟨by simp, .inr ⟨g, c, _, by rw [List.length_set, hn], hB, heap_setN hg i (st y), by rw [List.length_set]; exact hk, hm, by simpa using hs, ?_⟩⟩
 rw [Array.toList_setIfInBounds, List.length_set, List.take_set, ht, List.map_set]
set_option maxRecDepth 100000 in
set_option maxHeartbeats 4000000 in
theorem pputcl_set (B : Nat) (w : World) (nd : Nd) (kv vv dv : Value) (key val : Str) (i : Nat) (gk gl : Nat) (hN : OwnN B w kv vv dv nd) (hD : Dj kv vv dv) (hB : B ≤ w.heap.size) (hlen : nd.keys.length ≤ 1000) (hlv : nd.vals.length = nd.keys.length) (hi : i < nd.keys.length)
  (hv : w.heap[gl]? = some (.cells #[st val] 9 (0, 0))) (hgl : gl < B) :
  Calls Try.prog 37 #[nv nd kv vv dv, .int .i64 (i : Int), .bool true, .pointer (some ⟨gl, 0, none⟩), .pointer (some ⟨gk, 0, none⟩)] w fun e w' => ∃ kv' vv', e = .returned (nv ⟨nd.leaf, nd.keys, nd.vals.set i val, nd.kids⟩ kv' vv' dv) ∧ OwnN B w' kv' vv' dv ⟨nd.leaf, nd.keys, nd.vals.set i val, nd.kids⟩ ∧ KEd B kv vv w w' := by
 obtain ⟨W, hW, DW, bW, sW⟩ := boxedN w #[.bool nd.leaf, kv, vv, dv] 79
 obtain ⟨X, hX, DX, bX, sX⟩ := boxedN W #[.bool false, .slice none 0 0, .slice none 0 0, .slice none 0 0] 79
 have bWX := bW.trans (bX.mono bW.size)
 have NX := hN.to bWX
 have D1 := (bX.block _ (lt_of_block DW)).trans DW
 rw [sW] at DX
 have vX := (bWX.block _ (lt_of_block hv)).trans hv
 have hsX : X.heap.size = w.heap.size + 1 + 1 := by rw [sX, sW]
 obtain ⟨gV, cV, cur, rfl, hBV, hgV, hkV, hmV, hsV, htV⟩ := own_block NX.vals (by omega)
 have hvw : gV < w.heap.size := (World.ownsRow.lt hN.vals gV rfl).2
 have hltK : ∀ b, kv.ownBlock = some b → b < w.heap.size := fun b hb => (World.ownsRow.lt hN.keys b hb).2
 have hltJ : ∀ b, dv.ownBlock = some b → b < w.heap.size := fun b hb => (World.ownsRow.lt hN.kids b hb).2
 obtain ⟨U, hU⟩ : ∃ U, U = X.setCell ⟨gV, i, none⟩ (st val) := ⟨_, rfl⟩
 have kpU : ∀ b, b ≠ gV → U.heap[b]? = X.heap[b]? := fun b hb => by rw [hU]; exact Below.heap_setCell _ _ _ _ hb
 have VU : OwnT B U (.slice (some ⟨gV, 0, none⟩) nd.vals.length cV) (nd.vals.set i val) := by rw [hU]; exact NX.vals.set rfl (by omega) val
 have KU : OwnT B U kv nd.keys := row_block NX.keys fun b hb => kpU b (fun e => hD.1 b hb (by rw [e]; rfl))
 have JU : OwnJ B U dv nd.kids := row_block NX.kids fun b hb => kpU b (fun e => hD.2.2 gV rfl (by rw [← e]; exact hb))
 have DU := (kpU w.heap.size (by omega)).trans D1
 have RU := (kpU (w.heap.size + 1) (by omega)).trans DX
 have bU : Below B w U := by rw [hU]; exact (bWX.mono hB).setCell (p := ⟨gV, i, none⟩) hBV _
 obtain ⟨ov, hov⟩ : ∃ x, nd.vals[i]? = some x := ⟨_, List.getElem?_eq_getElem (by omega)⟩
 have cV0 : X.cell? ⟨gV, i, none⟩ = some (st ov) := by
  refine cellN hgV ?_
  have h9 : cur.toList[i]? = (nd.vals.map st)[i]? := by rw [← htV, List.getElem?_take, if_pos (by omega)]
  rw [List.getElem?_map, hov] at h9
  simpa using h9
 have fV : X.frozen? ⟨gV, i, none⟩ = false := frozN hgV i
 obtain ⟨ka, kc, hka⟩ := hN.keys.rd.slice
 obtain ⟨da, dc, hda⟩ := hN.kids.rd.slice
 subst hka hda
 obtain ⟨⟨E0, E1, E2, E3⟩, EF⟩ := cells4 D1
 obtain ⟨⟨P0, P1, P2, P3⟩, PF⟩ := cells4 DU
 obtain ⟨⟨F0, F1, F2, F3⟩, FF⟩ := cells4 RU
 have L0 := cellN vX (i := 0) rfl
 have kp4 : ∀ b, b ≠ w.heap.size + 1 → (S4 (w.heap.size + 1) U (.bool nd.leaf) (.slice ka nd.keys.length kc) (.slice (some ⟨gV, 0, none⟩) nd.vals.length cV) (.slice da nd.kids.length dc)).heap[b]? = U.heap[b]? := fun b h2 => s4_other _ _ _ _ h2
 have FN : Hid (OwnN B (S4 (w.heap.size + 1) U (.bool nd.leaf) (.slice ka nd.keys.length kc) (.slice (some ⟨gV, 0, none⟩) nd.vals.length cV) (.slice da nd.kids.length dc)) (.slice ka nd.keys.length kc) (.slice (some ⟨gV, 0, none⟩) nd.vals.length cV) (.slice da nd.kids.length dc) ⟨nd.leaf, nd.keys, nd.vals.set i val, nd.kids⟩) :=
  ⟨row_block KU fun b hb => kp4 b (by have := hltK b hb; omega), row_block VU fun b hb => kp4 b (by have := own_eq hb; omega), row_block JU fun b hb => kp4 b (by have := hltJ b hb; omega)⟩
 have FB := hide (below_set4n bU (show B ≤ w.heap.size + 1 by omega) (.bool nd.leaf) (.slice ka nd.keys.length kc) (.slice (some ⟨gV, 0, none⟩) nd.vals.length cV) (.slice da nd.kids.length dc))
 have FK : Hid (KEd B (.slice ka nd.keys.length kc) (.slice (some ⟨gV, 0, none⟩) nd.vals.length cV) w (S4 (w.heap.size + 1) U (.bool nd.leaf) (.slice ka nd.keys.length kc) (.slice (some ⟨gV, 0, none⟩) nd.vals.length cV) (.slice da nd.kids.length dc))) := by
  refine ⟨fun b hb h1 h2 => (kp4 b (by omega)).trans ((kpU b (fun e => h2 (by rw [e]; rfl))).trans (bWX.block b hb)), FB.out, ?_⟩
  rw [hU]
  simp [S4]
  omega
 have HR4 := hide RU
 have hi2 : (i : Int) < (nd.vals.length : Int) := by omega
 rw [hU] at P0 P1 P2 P3 PF F0 F1 F2 F3 FF FN FK HR4
 rw [hX, hW] at E0 E1 E2 E3 EF P0 P1 P2 P3 PF F0 F1 F2 F3 FF L0 cV0 fV FN FK HR4
 dsimp only [nv]
 replace hlv := hide hlv
 replace hov := hide hov
 clear hD hN NX D1 DX vX DW bW bX bWX hv hgV htV hsV hkV hmV VU KU JU DU RU bU kp4 kpU hU FB hltK hltJ hW hX hsX sX sW hvw hBV
 go_enter Try.func37, Try.ntmps37
 go_wp2
 refine retN rfl rfl (w.heap.size + 1) rfl _ _ (0, 0) (heap_set4 HR4.out _ _ _ _) _ Try.underlying79 rfl info_nd10 ?_
 exact ⟨_, _, rfl, FN.out, FK.out⟩
end Go.Proofs.Ytmmjdacjcipgjaa

namespace Go.Proofs.Ytmmjdacjcipgjaa
open Go.RowKit
set_option maxRecDepth 100000 in
set_option maxHeartbeats 4000000 in
theorem pdelcl_any (B : Nat) (w : World) (nd : Nd) (kv vv dv : Value) (i : Nat) (th : Bool) (hN : OwnN B w kv vv dv nd) (hD : Dj kv vv dv) (hB : B ≤ w.heap.size) (hlen : nd.keys.length ≤ 1000) (hlv : nd.vals.length = nd.keys.length) (hi : i < nd.keys.length) :
  Calls Try.prog 40 #[nv nd kv vv dv, .int .i64 (i : Int), .bool th] w fun e w' => ∃ kv' vv', e = .returned (nv ⟨nd.leaf, nd.keys.take i ++ nd.keys.drop (i + 1), nd.vals.take i ++ nd.vals.drop (i + 1), nd.kids⟩ kv' vv' dv) ∧ OwnN B w' kv' vv' dv ⟨nd.leaf, nd.keys.take i ++ nd.keys.drop (i + 1), nd.vals.take i ++ nd.vals.drop (i + 1), nd.kids⟩ ∧ KEd B kv vv w w' := by
 obtain ⟨W, hW, DW, bW, sW⟩ := boxedN w #[.bool nd.leaf, kv, vv, dv] 79
 obtain ⟨X, hX, DX, bX, sX⟩ := boxedN W #[.bool false, .slice none 0 0, .slice none 0 0, .slice none 0 0] 79
 have bWX := bW.trans (bX.mono bW.size)
 have NX := hN.to bWX
 have D1 := (bX.block _ (lt_of_block DW)).trans DW
 rw [sW] at DX
 have hltK : ∀ b, kv.ownBlock = some b → b < w.heap.size := fun b hb => (World.ownsRow.lt hN.keys b hb).2
 have hltV : ∀ b, vv.ownBlock = some b → b < w.heap.size := fun b hb => (World.ownsRow.lt hN.vals b hb).2
 have hgeK : ∀ b, kv.ownBlock = some b → B ≤ b := fun b hb => (World.ownsRow.lt hN.keys b hb).1
 have hgeV : ∀ b, vv.ownBlock = some b → B ≤ b := fun b hb => (World.ownsRow.lt hN.vals b hb).1
 have hltJ : ∀ b, dv.ownBlock = some b → b < w.heap.size := fun b hb => (World.ownsRow.lt hN.kids b hb).2
 have HLT := hide (And.intro hltK (And.intro hltV (And.intro hgeK (And.intro hgeV hltJ))))
 have hsX : X.heap.size = w.heap.size + 1 + 1 := by rw [sX, sW]
 have KI := hide (pdelS_any B X kv nd.keys i NX.keys hi (by omega))
 have HX := hide (And.intro NX (And.intro D1 (And.intro DX (And.intro bWX hsX))))
 obtain ⟨ka, kc, va, vc, da, dc, rfl, rfl, rfl⟩ := hN.rd.slices
 obtain ⟨⟨E0, E1, E2, E3⟩, EF⟩ := cells4 D1
 obtain ⟨⟨F0, F1, F2, F3⟩, FF⟩ := cells4 DX
 replace hlv := hide hlv
 replace hD := hide hD
 have f1 : IntKind.i64.wrap ((i : Int) + 1) = (i : Int) + 1 := IntWalk.i64_in _ (by omega)
 dsimp only [nv]
 rw [hX, hW] at KI
 rw [hX, hW] at E0 E1 E2 E3 EF F0 F1 F2 F3 FF
 clear NX D1 DX DW bW bX bWX hN sX sW hsX hltK hltV hgeK hgeV hltJ
 go_enter Try.func40, Try.ntmps40
 go_wp2_with fail
 refine KI.out.mono ?_
 rintro e w2 ⟨g2, c2, hown2, rfl, o2, r2⟩
 rw [← hW, ← hX] at r2
 replace hW := hide hW
 replace hX := hide hX
 clear E0 E1 E2 E3 EF F0 F1 F2 F3 FF KI
 obtain ⟨K2, hK2⟩ : ∃ l, l = nd.keys.take i ++ nd.keys.drop (i + 1) := ⟨_, rfl⟩
 rw [← hK2] at o2
 obtain ⟨KL, hKL⟩ : ∃ q, q = nd.keys.length - 1 := ⟨_, rfl⟩
 rw [← hKL] at o2 ⊢
 replace hKL := hide hKL
 obtain ⟨NX, D1, R1, bwX, hsX⟩ := HX.out
 obtain ⟨hltK, hltV, hgeK, hgeV, hltJ⟩ := HLT.out
 have kp2 : ∀ b, b < X.heap.size → (Value.slice ka nd.keys.length kc).ownBlock ≠ some b → w2.heap[b]? = X.heap[b]? := fun b hb hne => r2.block b hb (fun e => hne e.symm)
 have V2 : OwnT B w2 (.slice va nd.vals.length vc) nd.vals := row_block NX.vals fun b hb => kp2 b (World.ownsRow.lt NX.vals b hb).2 (fun e => hD.out.1 b e hb)
 have J2 : OwnJ B w2 (.slice da nd.kids.length dc) nd.kids := row_block NX.kids fun b hb => kp2 b (World.ownsRow.lt NX.kids b hb).2 (fun e => hD.out.2.1 b e hb)
 have D2 := (kp2 w.heap.size (by omega) (fun e => by have := hltK _ e; omega)).trans D1
 have R2 := (kp2 (w.heap.size + 1) (by omega) (fun e => by have := hltK _ e; omega)).trans R1
 have b2 : Below B w w2 := (bwX.mono hB).grown r2 (Nat.le_trans hB bwX.size) hgeK
 obtain ⟨U, hU⟩ : ∃ U, U = w2.setCell ⟨w.heap.size, 1, none⟩ (.slice (some ⟨g2, 0, none⟩) KL c2) := ⟨_, rfl⟩
 have DU : U.heap[w.heap.size]? = some (.cells #[.bool nd.leaf, .slice (some ⟨g2, 0, none⟩) KL c2, .slice va nd.vals.length vc, .slice da nd.kids.length dc] 79 (0, 0)) := by
  rw [hU]; have := heap_setN D2 1 (.slice (some ⟨g2, 0, none⟩) KL c2); simpa using this
 have kpU : ∀ b, b ≠ w.heap.size → U.heap[b]? = w2.heap[b]? := fun b hb => by rw [hU]; exact Below.heap_setCell _ _ _ _ hb
 have hg2 : g2 < w.heap.size := hltK _ hown2
 have KU : OwnT B U (.slice (some ⟨g2, 0, none⟩) KL c2) K2 := row_block o2 fun b hb => kpU b (by have := own_eq hb; omega)
 have VU : OwnT B U (.slice va nd.vals.length vc) nd.vals := row_block V2 fun b hb => kpU b (by have := hltV b hb; omega)
 have JU : OwnJ B U (.slice da nd.kids.length dc) nd.kids := row_block J2 fun b hb => kpU b (by have := hltJ b hb; omega)
 have RU := (kpU (w.heap.size + 1) (by omega)).trans R2
 have bU : Below B w U := by rw [hU]; exact b2.setCell (p := ⟨w.heap.size, 1, none⟩) hB _
 have sU : U.heap.size = w2.heap.size := by rw [hU]; simp
 have hU2 : X.heap.size ≤ U.heap.size := by rw [sU]; exact r2.size
 have KI2 := hide (pdelS_any B U (.slice va nd.vals.length vc) nd.vals i VU (by rw [hlv.out]; exact hi) (by have := hlv.out; omega))
 have HZ := hide (And.intro KU (And.intro VU (And.intro JU (And.intro DU (And.intro RU bU)))))
 have HKP := hide (And.intro kp2 (And.intro kpU (And.intro bwX (And.intro hsX (And.intro sU (And.intro hU2 hown2))))))
 obtain ⟨⟨E0, E1, E2, E3⟩, EF⟩ := cells4 D2
 obtain ⟨⟨P0, P1, P2, P3⟩, PF⟩ := cells4 DU
 rw [hU] at P0 P1 P2 P3 PF KI2
 clear KU VU JU DU RU bU sU hU2 kp2 kpU V2 J2 D2 R2 b2 o2 r2 NX D1 R1 bwX hltK hltV hgeK hgeV hltJ hsX hown2
 go_wp2_with fail
 refine KI2.out.mono ?_
 rintro e w3 ⟨g3, c3, hown3, rfl, o3, r3⟩
 rw [← hU] at r3
 replace hU := hide hU
 clear E0 E1 E2 E3 EF P0 P1 P2 P3 PF KI2
 obtain ⟨V3, hV3⟩ : ∃ l, l = nd.vals.take i ++ nd.vals.drop (i + 1) := ⟨_, rfl⟩
 rw [← hV3] at o3
 obtain ⟨VL, hVL⟩ : ∃ q, q = nd.vals.length - 1 := ⟨_, rfl⟩
 rw [← hVL] at o3 ⊢
 replace hVL := hide hVL
 obtain ⟨KU, VU, JU, DU, RU, bU⟩ := HZ.out
 obtain ⟨hltK, hltV, hgeK, hgeV, hltJ⟩ := HLT.out
 obtain ⟨kp2, kpU, bwX, hsX, sU, hU2, hown2⟩ := HKP.out
 have kp3 : ∀ b, b < U.heap.size → (Value.slice va nd.vals.length vc).ownBlock ≠ some b → w3.heap[b]? = U.heap[b]? := fun b hb hne => r3.block b hb (fun e => hne e.symm)
 have K3 : OwnT B w3 (.slice (some ⟨g2, 0, none⟩) KL c2) K2 := row_block KU fun b hb => kp3 b (World.ownsRow.lt KU b hb).2 (fun e => by rw [← own_eq hb] at e; exact hD.out.1 _ hown2 e)
 have J3 : OwnJ B w3 (.slice da nd.kids.length dc) nd.kids := row_block JU fun b hb => kp3 b (World.ownsRow.lt JU b hb).2 (fun e => hD.out.2.2 b e hb)
 have D3 := (kp3 w.heap.size (by omega) (fun e => by have := hltV _ e; omega)).trans DU
 have R3 := (kp3 (w.heap.size + 1) (by omega) (fun e => by have := hltV _ e; omega)).trans RU
 have b3 : Below B w w3 := bU.grown r3 (by omega) hgeV
 have hg2 : g2 < w.heap.size := hltK _ hown2
 have hg3 : g3 < w.heap.size := hltV _ hown3
 have d9 := heap_setN D3 2 (.slice (some ⟨g3, 0, none⟩) VL c3)
 have D4 : (w3.setCell ⟨w.heap.size, 2, none⟩ (.slice (some ⟨g3, 0, none⟩) VL c3)).heap[w.heap.size]? = some (.cells #[.bool nd.leaf, .slice (some ⟨g2, 0, none⟩) KL c2, .slice (some ⟨g3, 0, none⟩) VL c3, .slice da nd.kids.length dc] 79 (0, 0)) := by simpa using d9
 have R4 : (w3.setCell ⟨w.heap.size, 2, none⟩ (.slice (some ⟨g3, 0, none⟩) VL c3)).heap[w.heap.size + 1]? = some (.cells #[.bool false, .slice none 0 0, .slice none 0 0, .slice none 0 0] 79 (0, 0)) := (Below.heap_setCell _ _ _ _ (show w.heap.size + 1 ≠ w.heap.size by omega)).trans R3
 obtain ⟨⟨E0, E1, E2, E3⟩, EF⟩ := cells4 D3
 obtain ⟨⟨P0, P1, P2, P3⟩, PF⟩ := cells4 D4
 obtain ⟨⟨F0, F1, F2, F3⟩, FF⟩ := cells4 R4
 have kp4 : ∀ b, b ≠ w.heap.size → b ≠ w.heap.size + 1 → (S4 (w.heap.size + 1) (w3.setCell ⟨w.heap.size, 2, none⟩ (.slice (some ⟨g3, 0, none⟩) VL c3)) (.bool nd.leaf) (.slice (some ⟨g2, 0, none⟩) KL c2) (.slice (some ⟨g3, 0, none⟩) VL c3) (.slice da nd.kids.length dc)).heap[b]? = w3.heap[b]? := fun b h1 h2 => (s4_other _ _ _ _ h2).trans (Below.heap_setCell _ _ _ _ h1)
 have FN : Hid (OwnN B (S4 (w.heap.size + 1) (w3.setCell ⟨w.heap.size, 2, none⟩ (.slice (some ⟨g3, 0, none⟩) VL c3)) (.bool nd.leaf) (.slice (some ⟨g2, 0, none⟩) KL c2) (.slice (some ⟨g3, 0, none⟩) VL c3) (.slice da nd.kids.length dc)) (.slice (some ⟨g2, 0, none⟩) KL c2) (.slice (some ⟨g3, 0, none⟩) VL c3) (.slice da nd.kids.length dc) ⟨nd.leaf, K2, V3, nd.kids⟩) :=
  ⟨row_block K3 fun b hb => (by have := own_eq hb; exact kp4 _ (by omega) (by omega)), row_block o3 fun b hb => (by have := own_eq hb; exact kp4 _ (by omega) (by omega)), row_block J3 fun b hb => (by have := hltJ b hb; exact kp4 _ (by omega) (by omega))⟩
 have b4 : Below B w (w3.setCell ⟨w.heap.size, 2, none⟩ (.slice (some ⟨g3, 0, none⟩) VL c3)) := b3.setCell (p := ⟨w.heap.size, 2, none⟩) hB _
 have FB := hide (below_set4n b4 (show B ≤ w.heap.size + 1 by omega) (.bool nd.leaf) (.slice (some ⟨g2, 0, none⟩) KL c2) (.slice (some ⟨g3, 0, none⟩) VL c3) (.slice da nd.kids.length dc))
 have FK : Hid (KEd B (.slice ka nd.keys.length kc) (.slice va nd.vals.length vc) w (S4 (w.heap.size + 1) (w3.setCell ⟨w.heap.size, 2, none⟩ (.slice (some ⟨g3, 0, none⟩) VL c3)) (.bool nd.leaf) (.slice (some ⟨g2, 0, none⟩) KL c2) (.slice (some ⟨g3, 0, none⟩) VL c3) (.slice da nd.kids.length dc))) := by
  refine ⟨fun b hb h1 h2 => (kp4 b (by omega) (by omega)).trans ((kp3 b (by omega) h2).trans ((kpU b (by omega)).trans ((kp2 b (by omega) h1).trans (bwX.block b hb)))), FB.out, ?_⟩
  have s3 := r3.size
  simp [S4]
  omega
 have HR4 := hide R4
 clear D3 R3 K3 J3 D4 R4 d9 b4 o3 r3 DU RU VU JU KU kp2 kpU kp3 kp4 b3 bU hg2 hg3 hltK hltV hgeK hgeV hltJ sU hU2 hsX hown2 hown3 bwX
 go_wp2
 refine retN rfl rfl (w.heap.size + 1) rfl _ _ (0, 0) (heap_set4 HR4.out _ _ _ _) _ Try.underlying79 rfl info_nd10 ?_
 subst hK2 hV3
 exact ⟨_, _, rfl, FN.out, FK.out⟩
end Go.Proofs.Ytmmjdacjcipgjaa

namespace Go.Proofs.Ytmmjdacjcipgjaa
open Go.RowKit
def LfB (m : Int → Option Value) (b : Nat) : Prop := ∃ i nd kv vv dv, m i = some (nv nd kv vv dv) ∧ nd.leaf = true ∧ (kv.ownBlock = some b ∨ vv.ownBlock = some b)
structure CW (w : World) (B g bm k : Nat) (l : List Wrt) (m : Int → Option Value) : Prop where
 s : w.cell? ⟨g, 3, none⟩ = some (.map (some bm))
 map : MapI w bm k m
 nds : ∀ i v, m i = some v → NdOf l B w i v
 apt : ∀ i j v u, m i = some v → m j = some u → i ≠ j → ∀ b, RowOf v b → ¬ RowOf u b
 hg : g < B
 hm : bm < B
theorem CW.to {w w' : World} {B g bm k : Nat} {l : List Wrt} {m : Int → Option Value} (h : CW w B g bm k l m) (b : Below w.heap.size w w') : CW w' B g bm k l m := by
 refine ⟨(b.cell (cell_lt h.s)).trans h.s, h.map.kept (b.block _ h.map.lt), fun i v hv => ?_, h.apt, h.hg, h.hm⟩
 obtain ⟨x, nd, kv, vv, dv, h1, h2, h3, h4, h5⟩ := h.nds i v hv
 exact ⟨x, nd, kv, vv, dv, h1, h2, h3, h4.to b, h5⟩
theorem nv_inj {a b : Nd} {k1 v1 d1 k2 v2 d2 : Value} (h : nv a k1 v1 d1 = nv b k2 v2 d2) : a.leaf = b.leaf ∧ k1 = k2 ∧ v1 = v2 ∧ d1 = d2 := by
 simp only [nv, Value.agg.injEq, Array.mk.injEq, List.cons.injEq, Value.bool.injEq, and_true] at h
 exact ⟨h.1, h.2.1, h.2.2.1, h.2.2.2⟩
theorem CW.leaf {w : World} {B g bm k : Nat} {l : List Wrt} {m : Int → Option Value} (h : CW w B g bm k l m) {b : Nat} (hb : LfB m b) : B ≤ b ∧ b < w.heap.size := by
 obtain ⟨i, nd, kv, vv, dv, h1, h2, h3⟩ := hb
 obtain ⟨x, nd', kv', vv', dv', q1, q2, q3, q4, q5⟩ := h.nds i _ h1
 obtain ⟨_, rfl, rfl, rfl⟩ := nv_inj q3
 rcases h3 with h3 | h3
 ·exact World.ownsRow.lt q4.keys b h3
 ·exact World.ownsRow.lt q4.vals b h3
theorem CW.inner {w : World} {B g bm k : Nat} {l : List Wrt} {m : Int → Option Value} (h : CW w B g bm k l m) {j : Int} {nd : Nd} {kv vv dv : Value} (hj : m j = some (nv nd kv vv dv)) (hl : nd.leaf = false) {b : Nat} (hb : RowOf (nv nd kv vv dv) b) : ¬ LfB m b := by
 rintro ⟨i, nd', kv', vv', dv', h1, h2, h3⟩
 by_cases e : i = j
 ·subst e
  rw [hj] at h1
  have := nv_inj (Option.some.inj h1)
  rw [hl, h2] at this
  cases this.1
 ·refine h.apt i j _ _ h1 hj e b ⟨_, _, _, _, rfl, ?_⟩ hb
  rcases h3 with h3 | h3
  ·exact .inl h3
  ·exact .inr (.inl h3)
structure KRb (B gc : Nat) (m : Int → Option Value) (av : Value) (w w' : World) : Prop where
 keep : ∀ b, b < w.heap.size → b ≠ gc → ¬ LfB m b → w'.heap[b]? = w.heap[b]?
 row : ∀ b, av.ownBlock = some b → w.heap.size ≤ b
 bel : Below B w w'
 size : w.heap.size ≤ w'.heap.size
theorem KRb.first {B gc : Nat} {m : Int → Option Value} {av : Value} {u w w' : World} (b : Below u.heap.size u w) (hB : B ≤ u.heap.size) (h : KRb B gc m av w w') : KRb B gc m av u w' :=
 ⟨fun i h1 h2 h3 => (h.keep i (Nat.lt_of_lt_of_le h1 b.size) h2 h3).trans (b.block i h1), fun i hi => Nat.le_trans b.size (h.row i hi), (b.mono hB).trans h.bel, Nat.le_trans b.size h.size⟩
theorem KRb.then {B gc : Nat} {m : Int → Option Value} {av av' : Value} {u w w' : World} (h : KRb B gc m av u w) (k : KCh B gc av av' w w') : KRb B gc m av' u w' :=
 ⟨fun i h1 h2 h3 => (k.keep i (Nat.lt_of_lt_of_le h1 h.size) h2 (fun e => by have := h.row i e; omega)).trans (h.keep i h1 h2 h3), fun i hi => by
  rcases k.row i hi with q | q
  ·exact h.row i q
  ·exact Nat.le_trans h.size q, h.bel.trans k.bel, Nat.le_trans h.size k.size⟩
def RbR (B gc g : Nat) (next : Int) (l : List Wrt) (m : Int → Option Value) (d : Nat) (key : Str) (ed : Nd → Nd) (n : Nd) (w w' : World) (e : Ending) : Prop :=
 ∃ kv' vv' dv' av' ns', e = .returned (nv (rebOf l next key ed d n []).1 kv' vv' dv') ∧ RdK w' kv' vv' dv' (rebOf l next key ed d n []).1 ∧ ChI B w' gc g next av' ns' ∧ AllK w' ns' ∧ ns'.map (·.1) = (rebOf l next key ed d n []).2 ∧ KRb B gc m av' w w'
set_option maxRecDepth 100000 in
set_option maxHeartbeats 4000000 in
theorem preb_leaf (B : Nat) (w : World) (gc : Nat) (nd : Nd) (kv vv dv : Value) (key : Str) (F : Nat) (caps : Array Value) (hB : B ≤ w.heap.size) (hr : RdN w kv vv dv nd) (hfit : nfit nd) (hl : nd.leaf = true) (nd' : Nd)
  (hF : ∀ u, Below w.heap.size w u → Calls Try.prog F (#[nv nd kv vv dv, .int .i64 (nfind nd key), .bool (nhas nd key)] ++ caps) u fun e u' => ∃ kv' vv' dv', e = .returned (nv nd' kv' vv' dv') ∧ OwnN B u' kv' vv' dv' nd' ∧ KEd B kv vv u u')
  (hlt : ∀ b, kv.ownBlock = some b ∨ vv.ownBlock = some b → b < w.heap.size)
  (he : ∀ args u, (callFunc F args).run Try.prog u = .ok (.enter F args) u) :
  Calls Try.prog 55 #[.pointer (some ⟨gc, 0, none⟩), nv nd kv vv dv, st key, .func (.func F) #[] caps] w fun e w' => ∃ kv' vv' dv', e = .returned (nv nd' kv' vv' dv') ∧ OwnN B w' kv' vv' dv' nd' ∧ KEd B kv vv w w' := by
 obtain ⟨W, hW, DW, bW, sW⟩ := boxedN w #[.bool nd.leaf, kv, vv, dv] 79
 obtain ⟨X, hX, DX, bX, sX⟩ := boxedN W #[.bool false, .slice none 0 0, .slice none 0 0, .slice none 0 0] 79
 have bWX := bW.trans (bX.mono bW.size)
 have KF := hide (pfind9_any X kv vv dv nd key (hr.to bWX) hfit)
 have D1 := (bX.block _ (lt_of_block DW)).trans DW
 rw [sW] at DX
 have HD := hide (And.intro D1 DX)
 have BX := hide bWX
 replace hlt := hide hlt
 obtain ⟨ka, kc, va, vc, da, dc, rfl, rfl, rfl⟩ := hr.slices
 obtain ⟨⟨E0, E1, E2, E3⟩, EF⟩ := cells4 D1
 obtain ⟨⟨F0, F1, F2, F3⟩, FF⟩ := cells4 DX
 dsimp only [nv] at KF ⊢
 rw [hX, hW] at E0 E1 E2 E3 EF F0 F1 F2 F3 FF KF
 replace hF := hide hF
 have HL := hide hl
 clear hl DW DX bW bX bWX D1 hr
 go_enter Try.func55, Try.ntmps55
 go_wp2_with fail
 refine KF.out.mono ?_
 rintro e w1 ⟨rfl, b1⟩
 rw [← hW, ← hX] at b1
 clear E0 E1 E2 E3 EF F0 F1 F2 F3 FF KF
 have B1 := hide (BX.out.trans (b1.mono BX.out.size))
 have D1 := (b1.block _ (lt_of_block HD.out.1)).trans HD.out.1
 have R1 := (b1.block _ (lt_of_block HD.out.2)).trans HD.out.2
 have HR := hide R1
 obtain ⟨⟨E0, E1, E2, E3⟩, EF⟩ := cells4 D1
 rw [HL.out] at E0
 have KF2 := hide (hF.out w1 B1.out)
 dsimp only [nv] at KF2
 rw [HL.out] at KF2
 replace hX := hide hX
 replace hW := hide hW
 clear D1 R1 b1 HD
 go_wp2_with fail
 refine KF2.out.mono ?_
 rintro e w2 ⟨kv', vv', dv', rfl, o2, k2⟩
 obtain ⟨ka', kc', va', vc', da', dc', rfl, rfl, rfl⟩ := o2.rd.slices
 have hn1 : ∀ q, q = w.heap.size ∨ q = w.heap.size + 1 → (Value.slice ka nd.keys.length kc).ownBlock ≠ some q ∧ (Value.slice va nd.vals.length vc).ownBlock ≠ some q := fun q hq => ⟨fun e => by have := hlt.out q (.inl e); omega, fun e => by have := hlt.out q (.inr e); omega⟩
 have R2 := (k2.keep _ (lt_of_block HR.out) (hn1 _ (.inr rfl)).1 (hn1 _ (.inr rfl)).2).trans HR.out
 have HR2 := hide R2
 obtain ⟨⟨F0, F1, F2, F3⟩, FF⟩ := cells4 R2
 have O2 := hide o2
 have K2 := hide k2
 have hB1 : Hid (B ≤ w1.heap.size) := Nat.le_trans hB B1.out.size
 clear o2 k2 R2 E0 E1 E2 E3 EF KF2 hF
 dsimp only [nv]
 go_wp2
 refine retN rfl rfl (w.heap.size + 1) rfl _ _ (0, 0) (heap_set4 HR2.out _ _ _ _) _ Try.underlying79 rfl info_nd10 ?_
 have k := fun e (he : e ≠ 79) => s4_keep HR2.out (.bool nd'.leaf) (.slice ka' nd'.keys.length kc') (.slice va' nd'.vals.length vc') (.slice da' nd'.kids.length dc') he
 have fb := below_set4n ((B1.out.mono hB).trans K2.out.bel) (show B ≤ w.heap.size + 1 by omega) (.bool nd'.leaf) (.slice ka' nd'.keys.length kc') (.slice va' nd'.vals.length vc') (.slice da' nd'.kids.length dc')
 refine ⟨_, _, _, rfl, O2.out.keepT (k _ (by decide)) (k _ (by decide)), ⟨fun b hb h1 h2 => ?_, fb, fb.size⟩⟩
 exact (s4_other _ _ _ _ (show b ≠ w.heap.size + 1 by omega)).trans ((K2.out.keep b (Nat.lt_of_lt_of_le hb B1.out.size) h1 h2).trans (B1.out.block b hb))
end Go.Proofs.Ytmmjdacjcipgjaa

namespace Go.Proofs.Ytmmjdacjcipgjaa
open Go.RowKit
structure R4 (B gc g : Nat) (next : Int) (m : Int → Option Value) (M : Nd) (AD : List Nd) (n : Nd) (kv vv dv : Value) (w wx : World) (g12 : Nat) (kv' vv' dv' av' : Value) (ns' : List NV) : Prop where
 b12 : wx.heap[g12]? = some (.cells #[.bool M.leaf, kv', vv', dv'] 79 (0, 0))
 rd : RdK wx kv' vv' dv' M
 ch : ChI B wx gc g next av' ns'
 al : AllK wx ns'
 eq : ns'.map (·.1) = AD
 kr : KRb B gc m av' w wx
 nb : wx.heap[w.heap.size]? = some (.cells #[.bool false, kv, vv, dv] 79 (0, 0))
 rb : wx.heap[w.heap.size + 1]? = some (.cells #[.bool false, .slice none 0 0, .slice none 0 0, .slice none 0 0] 79 (0, 0))
 l12 : w.heap.size + 1 < g12
 na : ∀ b, av'.ownBlock = some b → b ≠ g12 ∧ b ≠ w.heap.size ∧ b ≠ w.heap.size + 1
theorem R4.to {B gc g : Nat} {next : Int} {m : Int → Option Value} {M : Nd} {AD : List Nd} {n : Nd} {kv vv dv : Value} {w wx wy : World} {g12 : Nat} {kv' vv' dv' av' : Value} {ns' : List NV} (h : R4 B gc g next m M AD n kv vv dv w wx g12 kv' vv' dv' av' ns') (b : Below wx.heap.size wx wy) (hB : B ≤ w.heap.size) : R4 B gc g next m M AD n kv vv dv w wy g12 kv' vv' dv' av' ns' :=
 ⟨(b.block _ (lt_of_block h.b12)).trans h.b12, h.rd.to b, h.ch.to b, h.al.to b, h.eq, h.kr.then (KCh.of b (Nat.le_trans hB h.kr.size)), (b.block _ (lt_of_block h.nb)).trans h.nb, (b.block _ (lt_of_block h.rb)).trans h.rb, h.l12, h.na⟩
theorem R4.put {B gc g : Nat} {next : Int} {m : Int → Option Value} {M J : Nd} {AD : List Nd} {n : Nd} {kv vv dv : Value} {w wx : World} {g12 : Nat} {kv' vv' dv' av' : Value} {ns' : List NV} (h : R4 B gc g next m M AD n kv vv dv w wx g12 kv' vv' dv' av' ns') (hB : B ≤ w.heap.size) (hgc : gc < w.heap.size) (hg : g < w.heap.size) {jk jv jd : Value} (hj : RdK wx jk jv jd J) :
  R4 B gc g next m J AD n kv vv dv w (S4 g12 wx (.bool J.leaf) jk jv jd) g12 jk jv jd av' ns' := by
 have kt : ∀ e, e ≠ 79 → KeepT e wx (S4 g12 wx (.bool J.leaf) jk jv jd) := fun e he => s4_keep h.b12 _ _ _ _ he
 have hot : ∀ b, b ≠ g12 → (S4 g12 wx (.bool J.leaf) jk jv jd).heap[b]? = wx.heap[b]? := fun b hb => s4_other _ _ _ _ hb
 have l12 := h.l12
 refine ⟨heap_set4 h.b12 _ _ _ _, hj.keepT (kt _ (by decide)) (kt _ (by decide)), ⟨(hot gc (by omega)).trans h.ch.box, row_block h.ch.row fun b hb => hot b (h.na b hb).1, ?_, h.ch.hC⟩, h.al.keepT (kt _ (by decide)) (kt _ (by decide)), h.eq, ⟨fun b h1 h2 h3 => (hot b (by omega)).trans (h.kr.keep b h1 h2 h3), h.kr.row, below_set4n h.kr.bel (by omega) _ _ _ _, ?_⟩, (hot _ (by omega)).trans h.nb, (hot _ (by omega)).trans h.rb, l12, h.na⟩
 ·have e1 := hot g (by omega)
  have := h.ch.nxt
  simp only [World.cell?] at this ⊢
  rw [e1]; exact this
 ·have := h.kr.size
  simpa [S4] using this
def RbX (B gc g : Nat) (next : Int) (m : Int → Option Value) (M : Nd) (AD : List Nd) (w w' : World) (e : Ending) : Prop :=
 ∃ kv' vv' dv' av' ns', e = .returned (nv M kv' vv' dv') ∧ RdK w' kv' vv' dv' M ∧ ChI B w' gc g next av' ns' ∧ AllK w' ns' ∧ ns'.map (·.1) = AD ∧ KRb B gc m av' w w'
def rbJ (l : List Wrt) (n : Nd) (kx : Nat) (M : Nd) : Nd := if bareB M = true then joinOf l n (kx - 1) kx M else M
def rbF (kx : Nat) (M : Nd) : Nat := if bareB M = true then kx - 1 else kx
def rbT (kx : Nat) (M : Nd) : Nat := if bareB M = true then kx - 1 + 2 else kx + 1
theorem reb_eq {l : List Wrt} {next : Int} {key : Str} {ed : Nd → Nd} {d : Nat} {n nd : Nd} {kx : Nat} (h1 : (nfind n key).toNat = kx) (h2 : nodeAt l (n.kids.getD kx 0) = nd) :
  rebOf l next key ed (d + 1) n [] = (inr (rplc (brs n) (rbF kx (rebOf l next key ed d nd []).1) (rbT kx (rebOf l next key ed d nd []).1) (laidOf next (rebOf l next key ed d nd []).2 (rbJ l n kx (rebOf l next key ed d nd []).1) ((brs n).getD (rbF kx (rebOf l next key ed d nd []).1) ([], 0)).1).1), (laidOf next (rebOf l next key ed d nd []).2 (rbJ l n kx (rebOf l next key ed d nd []).1) ((brs n).getD (rbF kx (rebOf l next key ed d nd []).1) ([], 0)).1).2) := by
 simp only [rebOf]
 rw [h1, h2]
 unfold rbF rbT rbJ
 split <;> rfl
theorem RdK.krb {B gc : Nat} {m : Int → Option Value} {av kv vv dv : Value} {n : Nd} {w w' : World} {cs : Array Value} {fr : Nat × Nat} (h : RdK w kv vv dv n) (hL : ∀ b, RowOf (nv n kv vv dv) b → ¬ LfB m b) (k : KRb B gc m av w w') (hc : w.heap[gc]? = some (.cells cs 117 fr)) : RdK w' kv vv dv n := by
 have hk : ∀ (T : TypeId) (v : Value), T ≠ 117 → TyB w v T → (∀ b, v.ownBlock = some b → RowOf (nv n kv vv dv) b) → ∀ b, v.ownBlock = some b → w'.heap[b]? = w.heap[b]? := fun T v hT ht hr b hb => by
  obtain ⟨cur, fr', e⟩ := ht b hb
  refine k.keep b (lt_of_block e) (fun e9 => ?_) (hL b (hr b hb))
  subst e9
  rw [hc] at e
  simp only [Option.some.injEq, Obj.cells.injEq] at e
  exact hT e.2.1.symm
 have k1 := hk _ kv (by decide) h.tk (fun b hb => ⟨_, _, _, _, rfl, .inl hb⟩)
 have k2 := hk _ vv (by decide) h.tv (fun b hb => ⟨_, _, _, _, rfl, .inr (.inl hb)⟩)
 have k3 := hk _ dv (by decide) h.td (fun b hb => ⟨_, _, _, _, rfl, .inr (.inr hb)⟩)
 refine ⟨⟨rdT_block h.rd.keys k1, rdT_block h.rd.vals k2, rdI_block h.rd.kids k3⟩, fun b hb => ?_, fun b hb => ?_, fun b hb => ?_⟩
 ·obtain ⟨cur, fr', e⟩ := h.tk b hb
  exact ⟨cur, fr', (k1 b hb).trans e⟩
 ·obtain ⟨cur, fr', e⟩ := h.tv b hb
  exact ⟨cur, fr', (k2 b hb).trans e⟩
 ·obtain ⟨cur, fr', e⟩ := h.td b hb
  exact ⟨cur, fr', (k3 b hb).trans e⟩
theorem join_zero {l : List Wrt} {n M sb : Nd} {c : Br} (h1 : n.kids[1]? = some c.2) (h2 : n.keys[0]? = some c.1) (h3 : NdIs l c.2 sb) : joinOf l n (0 - 1) 0 M = inr (brs M ++ (c.1, sb.kids.headD 0) :: (brs sb).tail) := by
 unfold joinOf
 simp only [Nat.zero_sub, if_true, Nat.zero_add]
 have q1 : n.kids.getD 1 0 = c.2 := by rw [List.getD_eq_getElem?_getD, h1]; rfl
 have q2 : n.keys.getD 0 [] = c.1 := by rw [List.getD_eq_getElem?_getD, h2]; rfl
 rw [q1, q2, h3.at]
theorem join_succ {l : List Wrt} {n M sb : Nd} {i : Nat} {c : Int} {x : Str} (h1 : n.kids[i]? = some c) (h2 : n.keys[i]? = some x) (h3 : NdIs l c sb) : joinOf l n (i + 1 - 1) (i + 1) M = inr (brs sb ++ (x, M.kids.headD 0) :: (brs M).tail) := by
 unfold joinOf
 rw [Nat.add_sub_cancel, if_neg (by omega), if_neg (by omega)]
 have q1 : n.kids.getD i 0 = c := by rw [List.getD_eq_getElem?_getD, h1]; rfl
 have q2 : n.keys.getD i [] = x := by rw [List.getD_eq_getElem?_getD, h2]; rfl
 rw [q1, q2, h3.at]
theorem R4.fin {B gc g : Nat} {next : Int} {m : Int → Option Value} {J M' : Nd} {AD AD2 : List Nd} {n : Nd} {kv vv dv : Value} {w w3 w4 w5 w6 : World} {g12 gb C L cap : Nat} {jk jv jd av av2 kI dI : Value} {ns ns2 : List NV} {bs : List Br}
  (h : R4 B gc g next m J AD n kv vv dv w w3 g12 jk jv jd av ns) (hB : B ≤ w.heap.size) (hgc : gc < w.heap.size) (hg : g < w.heap.size) (hC : w.heap.size + 1 < C) (hav : ∀ b, av.ownBlock = some b → b < C) (hCb : C ≤ gb) (hb3 : gb < w3.heap.size)
  (k4 : KCh B gc av av2 w3 w4) (c4 : ChI B w4 gc g next av2 ns2) (al4 : AllK w4 ns2) (e4 : ns2.map (·.1) = AD2) (o4 : OwnBr C w4 (.slice (some ⟨gb, 0, none⟩) L cap) bs) (gr : w4.grownBy w5 (some gb)) (b6 : Below w5.heap.size w5 w6) (oI : OwnN w5.heap.size w6 kI (.slice none 0 0) dI M') (hM : M'.leaf = false) :
  w6.heap[w.heap.size + 1]? = some (.cells #[.bool false, .slice none 0 0, .slice none 0 0, .slice none 0 0] 79 (0, 0)) ∧ RbX B gc g next m M' AD2 w (S4 (w.heap.size + 1) w6 (.bool false) kI (.slice none 0 0) dI) (.returned (nv M' kI (.slice none 0 0) dI)) := by
 have ha2 : ∀ b, av2.ownBlock = some b → b ≠ gb ∧ b ≠ w.heap.size + 1 := fun b hb => by
  rcases k4.row b hb with q | q
  ·have := hav b q
   exact ⟨by omega, (h.na b q).2.2⟩
  ·exact ⟨by omega, by omega⟩
 have rb4 := (k4.keep _ (lt_of_block h.rb) (by omega) (fun e => (h.na _ e).2.2 rfl)).trans h.rb
 have hst : ∀ b, b < w4.heap.size → b ≠ gb → w6.heap[b]? = w4.heap[b]? := fun b h1 h2 => (b6.block b (Nat.lt_of_lt_of_le h1 gr.size)).trans (gr.block b h1 (fun e => h2 (Option.some.inj e)))
 have rb6 := (hst _ (lt_of_block rb4) (by omega)).trans rb4
 have kt : ∀ e, e ≠ 79 → KeepT e w6 (S4 (w.heap.size + 1) w6 (.bool false) kI (.slice none 0 0) dI) := fun e he => s4_keep rb6 _ _ _ _ he
 have hot : ∀ b, b ≠ w.heap.size + 1 → (S4 (w.heap.size + 1) w6 (.bool false) kI (.slice none 0 0) dI).heap[b]? = w6.heap[b]? := fun b hb => s4_other _ _ _ _ hb
 have hall : ∀ b, b < w4.heap.size → b ≠ gb → b ≠ w.heap.size + 1 → (S4 (w.heap.size + 1) w6 (.bool false) kI (.slice none 0 0) dI).heap[b]? = w4.heap[b]? := fun b h1 h2 h3 => (hot b h3).trans (hst b h1 h2)
 have k46 : ∀ e, e ≠ 146 → e ≠ 79 → KeepT e w4 (S4 (w.heap.size + 1) w6 (.bool false) kI (.slice none 0 0) dI) := fun e h1 h2 => ((KeepT.grown o4 gr h1).trans (KeepT.below b6)).trans (kt e h2)
 have kr4 := h.kr.then k4
 have hs4 := kr4.size
 refine ⟨rb6, kI, .slice none 0 0, dI, av2, ns2, rfl, oI.rdk.keepT (kt _ (by decide)) (kt _ (by decide)), ⟨(hall gc (by omega) (by omega) (by omega)).trans c4.box, row_block c4.row fun b hb => hall b (World.ownsRow.lt c4.row b hb).2 (ha2 b hb).1 (ha2 b hb).2, ?_, c4.hC⟩, al4.keepT (k46 _ (by decide) (by decide)) (k46 _ (by decide) (by decide)), e4, ⟨fun b h1 h2 h3 => (hall b (by omega) (by omega) (by omega)).trans (kr4.keep b h1 h2 h3), kr4.row, ?_, ?_⟩⟩
 ·have e1 := hall g (by omega) (by omega) (by omega)
  have := c4.nxt
  simp only [World.cell?] at this ⊢
  rw [e1]; exact this
 ·have hs5 := gr.size
  exact below_set4n (((kr4.bel.grown gr (by omega) (fun k e => by cases e; omega))).trans (b6.mono (by omega))) (by omega) _ _ _ _
 ·have := b6.size
  have := gr.size
  simp only [S4, World.setCell, Array.size_modify]
  omega
def SibOk (B : Nat) (w : World) (l : List Wrt) (m : Int → Option Value) (b : Br) : Prop := ∃ sb sk sv sd, NdIs l b.2 sb ∧ sb.leaf = false ∧ m b.2 = some (nv sb sk sv sd) ∧ (Lit.int .i64 b.2).wf = true ∧ RdK w sk sv sd sb ∧ ∀ q, RowOf (nv sb sk sv sd) q → ¬ LfB m q
set_option maxRecDepth 100000 in
set_option maxHeartbeats 16000000 in
theorem preb_step (B gc g bm k : Nat) (next : Int) (l : List Wrt) (m : Int → Option Value) (d : Nat) (n : Nd) (kv vv dv : Value) (key : Str) (Fn : Nat) (caps : Array Value) (ed : Nd → Nd) (w : World) (kx : Nat) (P : List Br) (X : Br) (S : List Br) (nd : Nd) (lo' : Str) (hi' : Option Str) (kk kvv kd : Value)
  (hC : CW w B g bm k l m) (hh : ChI B w gc g next (.slice none 0 0) []) (hB : B ≤ w.heap.size) (hgc : gc ≠ g) (hnx : 0 ≤ next ∧ next ≤ 65536) (hd : d ≤ 20) (hn : RdK w kv vv dv n) (hnr : ∀ b, RowOf (nv n kv vv dv) b → ¬ LfB m b) (hok : NOk n) (hl : n.leaf = false) (hlen : n.keys.length ≤ 200)
  (W : Way l d n key kx P X S nd lo' hi') (hm : m X.2 = some (nv nd kk kvv kd)) (hwf : (Lit.int .i64 X.2).wf = true) (hsib : ∀ (i : Nat) (b : Br), bareB (rebOf l next key ed d nd []).1 = true → (P ++ [X] ++ S)[i]? = some b → SibOk B w l m b)
  (IH : ∀ u, Below w.heap.size w u → Calls Try.prog 55 #[.pointer (some ⟨gc, 0, none⟩), nv nd kk kvv kd, st key, .func (.func Fn) #[] caps] u fun e u' => RbR B gc g next l m d key ed nd u u' e) (hsh : ShN d (rebOf l next key ed d nd []).1) :
  Calls Try.prog 55 #[.pointer (some ⟨gc, 0, none⟩), nv n kv vv dv, st key, .func (.func Fn) #[] caps] w fun e w' => RbR B gc g next l m (d + 1) key ed n w w' e := by
 have hfk : (nfind n key).toNat = kx := by rw [W.fnd]; simp
 have hgk : n.kids.getD kx 0 = X.2 := by rw [List.getD_eq_getElem?_getD, W.kid]; rfl
 have hreb := hide (reb_eq (l := l) (next := next) (key := key) (ed := ed) (d := d) (nd := nd) hfk (by rw [hgk]; exact W.isn.at))
 obtain ⟨MM, hMM⟩ : ∃ M, M = (rebOf l next key ed d nd []).1 := ⟨_, rfl⟩
 obtain ⟨AD, hAD⟩ : ∃ A, A = (rebOf l next key ed d nd []).2 := ⟨_, rfl⟩
 rw [← hMM, ← hAD] at hreb
 rw [← hMM] at hsh hsib
 have hkids : n.kids.length = n.keys.length + 1 := kids_len hok hl
 have hbrl : (brs n).length = n.kids.length := brs_len hkids
 obtain ⟨ka, kc, va, vc, da, dc, e1, e2, e3⟩ := hn.rd.slices
 obtain ⟨db, dO, e4, hcd⟩ := (show RdI w (.slice da n.kids.length dc) n.kids by rw [← e3]; exact hn.rd.kids).intAt W.kid
 subst e4
 subst e1 e2 e3
 obtain ⟨W1, hW1, D1, b1, s1⟩ := boxedN w #[.bool n.leaf, .slice ka n.keys.length kc, .slice va n.vals.length vc, .slice (some ⟨db, dO, none⟩) n.kids.length dc] 79
 obtain ⟨X1, hX1, D2, b2, s2⟩ := boxedN W1 #[.bool false, .slice none 0 0, .slice none 0 0, .slice none 0 0] 79
 have bX := b1.trans (b2.mono b1.size)
 have DN := (b2.block _ (lt_of_block D1)).trans D1
 rw [s1] at D2
 have KF := hide (pfind9_any X1 _ _ _ n key (hn.rd.to bX) hok.fit)
 have hgcw : gc < w.heap.size := lt_of_block hh.box
 have hgw : g < w.heap.size := cell_lt hh.nxt
 have hdbw : db < w.heap.size := cell_lt hcd
 have hdbL : ¬ LfB m db := hnr db ⟨_, _, _, _, rfl, .inr (.inr rfl)⟩
 have HNL : Hid (∀ b, w.heap.size ≤ b → ¬ LfB m b) := fun b hb hL => by have := (hC.leaf hL).2; omega
 have HBL : Hid (∀ b, b < B → ¬ LfB m b) := fun b hb hL => by have := (hC.leaf hL).1; omega
 have hkxl : kx < n.kids.length := (List.getElem?_eq_some_iff.1 W.kid).1
 have HX := hide (And.intro DN (And.intro D2 bX))
 have HC := hide hC
 have HH := hide hh
 have HN := hide hn
 have HNR := hide hnr
 obtain ⟨⟨E0, E1, E2, E3⟩, EF⟩ := cells4 DN
 have HS : Hid (∀ w' {av' : Value} {ns' : List NV}, KRb B gc m av' w w' → ChI B w' gc g next av' ns' → w'.cell? ⟨w.heap.size, 3, none⟩ = some (.slice (some ⟨db, dO, none⟩) n.kids.length dc) → (w'.cell? ⟨gc, 0, none⟩ = some (.pointer (some ⟨g, 0, none⟩)) ∧ w'.cell? ⟨g, 3, none⟩ = some (.map (some bm)) ∧ w'.cell? ⟨w.heap.size, 3, none⟩ = some (.slice (some ⟨db, dO, none⟩) n.kids.length dc)) ∧ w'.cell? ⟨db, dO + kx, none⟩ = some (.int .i64 X.2) ∧ MapI w' bm k m) := fun w' av' ns' kr c h3 => by
  have hkc : ∀ b j u, w.cell? ⟨b, j, none⟩ = some u → b ≠ gc → ¬ LfB m b → w'.cell? ⟨b, j, none⟩ = some u := fun b j u hc h1 h2 => by
   have e9 := kr.keep b (cell_lt hc) h1 h2
   simp only [World.cell?] at hc ⊢
   rw [e9]; exact hc
  refine ⟨⟨cellN c.box rfl, hkc _ _ _ hC.s (Ne.symm hgc) (HBL.out g hC.hg), h3⟩, hkc _ _ _ hcd ?_ hdbL, hC.map.kept (kr.keep bm hC.map.lt (hC.map.ne hh.box) (HBL.out bm hC.hm))⟩
  intro e9
  subst e9
  obtain ⟨cur, fr, e8⟩ := hn.td db rfl
  rw [hh.box] at e8
  simp at e8
 have HS2 : Hid (∀ u d2 : World, ((u.cell? ⟨gc, 0, none⟩ = some (.pointer (some ⟨g, 0, none⟩)) ∧ u.cell? ⟨g, 3, none⟩ = some (.map (some bm)) ∧ u.cell? ⟨w.heap.size, 3, none⟩ = some (.slice (some ⟨db, dO, none⟩) n.kids.length dc)) ∧ u.cell? ⟨db, dO + kx, none⟩ = some (.int .i64 X.2) ∧ MapI u bm k m) → Below u.heap.size u d2 → (d2.cell? ⟨gc, 0, none⟩ = some (.pointer (some ⟨g, 0, none⟩)) ∧ d2.cell? ⟨g, 3, none⟩ = some (.map (some bm)) ∧ d2.cell? ⟨w.heap.size, 3, none⟩ = some (.slice (some ⟨db, dO, none⟩) n.kids.length dc)) ∧ d2.cell? ⟨db, dO + kx, none⟩ = some (.int .i64 X.2) ∧ MapI d2 bm k m) := fun u d2 ⟨⟨h1, h2, h3⟩, h4, h5⟩ q => ⟨⟨(q.cell (cell_lt h1)).trans h1, (q.cell (cell_lt h2)).trans h2, (q.cell (cell_lt h3)).trans h3⟩, (q.cell (cell_lt h4)).trans h4, h5.kept (q.block _ h5.lt)⟩
 have hfnd := hide W.fnd
 have HW := hide W
 have IH' : Hid (∀ u, Below w.heap.size w u → Calls Try.prog 55 #[.pointer (some ⟨gc, 0, none⟩), nv nd kk kvv kd, st key, .func (.func Fn) #[] caps] u fun e u' => RbX B gc g next m MM AD u u' e) := fun u b => (IH u b).mono fun e u' h9 => by
  rw [hMM, hAD]
  exact h9
 clear IH
 have IH := IH'
 clear IH'
 replace hm := hide hm
 replace hwf := hide hwf
 replace hsh := hide hsh
 replace hsib := hide hsib
 have HOK := hide hok
 have HLF := hide hl
 rw [W.fnd] at KF
 rw [hl] at hW1 E0 HX
 dsimp only [nv] at KF ⊢
 rw [hl] at KF ⊢
 generalize hZ : n.kids.length = Z at *
 generalize hKN : n.keys.length = KN at *
 generalize hVN : n.vals.length = VN at *
 replace hZ := hide hZ
 replace hKN := hide hKN
 replace hVN := hide hVN
 replace hkids := hide hkids
 replace hbrl := hide hbrl
 replace hMM := hide hMM
 replace hAD := hide hAD
 rw [hX1, hW1] at E0 E1 E2 E3 EF KF
 clear D1 D2 b1 b2 s1 s2 bX DN hn hnr hC hok hl W hfk hgk
 go_enter Try.func55, Try.ntmps55
 go_wp2_with fail
 refine KF.out.mono ?_
 rintro e w1 ⟨rfl, b1⟩
 rw [← hW1, ← hX1] at b1
 clear E0 E1 E2 E3 EF KF
 replace hW1 := hide hW1
 replace hX1 := hide hX1
 have NB1 := (b1.block _ (lt_of_block HX.out.1)).trans HX.out.1
 have RB1 := (b1.block _ (lt_of_block HX.out.2.1)).trans HX.out.2.1
 have bw1 := HX.out.2.2.trans (b1.mono HX.out.2.2.size)
 have H1 := hide (And.intro NB1 (And.intro RB1 bw1))
 obtain ⟨⟨E0, E1, E2, E3⟩, EF⟩ := cells4 NB1
 clear NB1 RB1 bw1 b1
 go_upto_region 4 with fail
 clear E0 E1 E2 E3 EF
 go_cut [12] from 31 to 47 (fun p12 wx => ∃ (g12 : Nat) (kv' vv' dv' av' : Value) (ns' : List NV), p12 = .pointer (some ⟨g12, 0, none⟩) ∧ Hid (R4 B gc g next m MM AD n (.slice ka KN kc) (.slice va VN vc) (.slice (some ⟨db, dO, none⟩) Z dc) w wx g12 kv' vv' dv' av' ns'))
 case first =>
  obtain ⟨NB1, RB1, bw1⟩ := H1.out
  have b0 : Below w1.heap.size w1 w1.drew := below_drewN' w1 1 _
  have NB0 := (b0.block _ (lt_of_block NB1)).trans NB1
  have RB0 := (b0.block _ (lt_of_block RB1)).trans RB1
  have bwc := bw1.trans (b0.mono bw1.size)
  refine wp_region_fan (fun w' => (w'.cell? ⟨gc, 0, none⟩ = some (.pointer (some ⟨g, 0, none⟩)) ∧ w'.cell? ⟨g, 3, none⟩ = some (.map (some bm)) ∧ w'.cell? ⟨w.heap.size, 3, none⟩ = some (.slice (some ⟨db, dO, none⟩) Z dc)) ∧ w'.cell? ⟨db, dO + kx, none⟩ = some (.int .i64 X.2) ∧ MapI w' bm k m) 18 mixed (by simp) ?_
  generalize w1.drew = c0 at *
  have S0 : (c0.cell? ⟨gc, 0, none⟩ = some (.pointer (some ⟨g, 0, none⟩)) ∧ c0.cell? ⟨g, 3, none⟩ = some (.map (some bm)) ∧ c0.cell? ⟨w.heap.size, 3, none⟩ = some (.slice (some ⟨db, dO, none⟩) Z dc)) ∧ c0.cell? ⟨db, dO + kx, none⟩ = some (.int .i64 X.2) ∧ MapI c0 bm k m := HS.out c0 (KRb.first bwc hB ⟨fun _ _ _ _ => rfl, (fun b hb => by cases hb), Below.refl _ _, Nat.le_refl _⟩) (HH.out.to bwc) (cells4 NB0).1.2.2.2
  have HCA : Hid (∀ u1 av' ns', KRb B gc m av' c0 u1 → ChI B u1 gc g next av' ns' → ((u1.cell? ⟨gc, 0, none⟩ = some (.pointer (some ⟨g, 0, none⟩)) ∧ u1.cell? ⟨g, 3, none⟩ = some (.map (some bm)) ∧ u1.cell? ⟨w.heap.size, 3, none⟩ = some (.slice (some ⟨db, dO, none⟩) Z dc)) ∧ u1.cell? ⟨db, dO + kx, none⟩ = some (.int .i64 X.2) ∧ MapI u1 bm k m) ∧ u1.heap[w.heap.size]? = some (.cells #[.bool false, .slice ka KN kc, .slice va VN vc, .slice (some ⟨db, dO, none⟩) Z dc] 79 (0, 0)) ∧ u1.heap[w.heap.size + 1]? = some (.cells #[.bool false, .slice none 0 0, .slice none 0 0, .slice none 0 0] 79 (0, 0)) ∧ KRb B gc m av' w u1) := fun u1 av' ns' r5 r2 => by
   have n1 := (r5.keep _ (lt_of_block NB0) (by omega) (HNL.out _ (Nat.le_refl _))).trans NB0
   exact ⟨HS.out u1 (KRb.first bwc hB r5) r2 (cells4 n1).1.2.2.2, n1, (r5.keep _ (lt_of_block RB0) (by omega) (HNL.out _ (by omega))).trans RB0, KRb.first bwc hB r5⟩
  clear NB1 RB1 bw1 b0
  refine fan_take (i := 0) (v := ?_) rfl (by kernel_rfl) (fun _ _ _ _ h => h) (by kernel_rfl) S0 ?_ ?_
  rotate_left
  ·rintro w' ⟨⟨s1, s2, s3⟩, s4, s5⟩
   have hlk := s5.look Try.underlying88 (zeroNd w') hwf.out false
   rw [hm.out] at hlk
   simp only [Option.getD_some, Bool.false_eq_true, if_false] at hlk
   dsimp only [nv] at hlk
   go_simp
   try with_reducible rfl
  try simp only [List.getElem_toArray, List.getElem_cons_succ, List.getElem_cons_zero, List.getElem?_toArray, List.getElem?_cons_succ, List.getElem?_cons_zero, Act.put, List.setIfInBounds_toArray, List.set_cons_zero, List.set_cons_succ]
  refine fan_take (i := 1) (v := ?_) rfl (by kernel_rfl) (fun _ _ _ _ h => h) (by kernel_rfl) S0 ?_ ?_
  rotate_left
  ·rintro w' ⟨⟨s1, s2, s3⟩, s4, s5⟩
   have hlk := s5.look Try.underlying88 (zeroNd w') hwf.out false
   rw [hm.out] at hlk
   simp only [Option.getD_some, Bool.false_eq_true, if_false] at hlk
   dsimp only [nv] at hlk
   go_simp
   try with_reducible rfl
  try simp only [List.getElem_toArray, List.getElem_cons_succ, List.getElem_cons_zero, List.getElem?_toArray, List.getElem?_cons_succ, List.getElem?_cons_zero, Act.put, List.setIfInBounds_toArray, List.set_cons_zero, List.set_cons_succ]
  refine fan_take (i := 2) (v := ?_) rfl (by kernel_rfl) (fun _ _ _ _ h => h) (by kernel_rfl) S0 ?_ ?_
  rotate_left
  ·rintro w' ⟨⟨s1, s2, s3⟩, s4, s5⟩
   have hlk := s5.look Try.underlying88 (zeroNd w') hwf.out false
   rw [hm.out] at hlk
   simp only [Option.getD_some, Bool.false_eq_true, if_false] at hlk
   dsimp only [nv] at hlk
   go_simp
   try with_reducible rfl
  try simp only [List.getElem_toArray, List.getElem_cons_succ, List.getElem_cons_zero, List.getElem?_toArray, List.getElem?_cons_succ, List.getElem?_cons_zero, Act.put, List.setIfInBounds_toArray, List.set_cons_zero, List.set_cons_succ]
  refine fan_take (i := 3) (v := ?_) rfl (by kernel_rfl) (fun _ _ _ _ h => h) (by kernel_rfl) S0 ?_ ?_
  rotate_left
  ·rintro w' ⟨⟨s1, s2, s3⟩, s4, s5⟩
   have hlk := s5.look Try.underlying88 (zeroNd w') hwf.out false
   rw [hm.out] at hlk
   simp only [Option.getD_some, Bool.false_eq_true, if_false] at hlk
   dsimp only [nv] at hlk
   go_simp
   try with_reducible rfl
  try simp only [List.getElem_toArray, List.getElem_cons_succ, List.getElem_cons_zero, List.getElem?_toArray, List.getElem?_cons_succ, List.getElem?_cons_zero, Act.put, List.setIfInBounds_toArray, List.set_cons_zero, List.set_cons_succ]
  refine fan_take (i := 4) (v := ?_) rfl (by kernel_rfl) (fun _ _ _ _ h => h) (by kernel_rfl) S0 ?_ ?_
  rotate_left
  ·rintro w' ⟨⟨s1, s2, s3⟩, s4, s5⟩
   have hlk := s5.look Try.underlying88 (zeroNd w') hwf.out false
   rw [hm.out] at hlk
   simp only [Option.getD_some, Bool.false_eq_true, if_false] at hlk
   dsimp only [nv] at hlk
   go_simp
   try with_reducible rfl
  try simp only [List.getElem_toArray, List.getElem_cons_succ, List.getElem_cons_zero, List.getElem?_toArray, List.getElem?_cons_succ, List.getElem?_cons_zero, Act.put, List.setIfInBounds_toArray, List.set_cons_zero, List.set_cons_succ]
  refine fan_take (i := 5) (v := ?_) rfl (by kernel_rfl) (fun _ _ _ _ h => h) (by kernel_rfl) S0 ?_ ?_
  rotate_left
  ·rintro w' ⟨⟨s1, s2, s3⟩, s4, s5⟩
   have hlk := s5.look Try.underlying88 (zeroNd w') hwf.out false
   rw [hm.out] at hlk
   simp only [Option.getD_some, Bool.false_eq_true, if_false] at hlk
   dsimp only [nv] at hlk
   go_simp
   try with_reducible rfl
  try simp only [List.getElem_toArray, List.getElem_cons_succ, List.getElem_cons_zero, List.getElem?_toArray, List.getElem?_cons_succ, List.getElem?_cons_zero, Act.put, List.setIfInBounds_toArray, List.set_cons_zero, List.set_cons_succ]
  refine fan_take (i := 6) (v := ?_) rfl (by kernel_rfl) (fun _ _ _ _ h => h) (by kernel_rfl) S0 ?_ ?_
  rotate_left
  ·rintro w' ⟨⟨s1, s2, s3⟩, s4, s5⟩
   have hlk := s5.look Try.underlying88 (zeroNd w') hwf.out false
   rw [hm.out] at hlk
   simp only [Option.getD_some, Bool.false_eq_true, if_false] at hlk
   dsimp only [nv] at hlk
   go_simp
   try with_reducible rfl
  try simp only [List.getElem_toArray, List.getElem_cons_succ, List.getElem_cons_zero, List.getElem?_toArray, List.getElem?_cons_succ, List.getElem?_cons_zero, Act.put, List.setIfInBounds_toArray, List.set_cons_zero, List.set_cons_succ]
  refine fan_take (i := 7) (v := ?_) rfl (by kernel_rfl) (fun _ _ _ _ h => h) (by kernel_rfl) S0 ?_ ?_
  rotate_left
  ·rintro w' ⟨⟨s1, s2, s3⟩, s4, s5⟩
   have hlk := s5.look Try.underlying88 (zeroNd w') hwf.out false
   rw [hm.out] at hlk
   simp only [Option.getD_some, Bool.false_eq_true, if_false] at hlk
   dsimp only [nv] at hlk
   go_simp
   try with_reducible rfl
  try simp only [List.getElem_toArray, List.getElem_cons_succ, List.getElem_cons_zero, List.getElem?_toArray, List.getElem?_cons_succ, List.getElem?_cons_zero, Act.put, List.setIfInBounds_toArray, List.set_cons_zero, List.set_cons_succ]
  refine fan_take (i := 8) (v := ?_) rfl (by kernel_rfl) (fun _ _ _ _ h => h) (by kernel_rfl) S0 ?_ ?_
  rotate_left
  ·rintro w' ⟨⟨s1, s2, s3⟩, s4, s5⟩
   have hlk := s5.look Try.underlying88 (zeroNd w') hwf.out false
   rw [hm.out] at hlk
   simp only [Option.getD_some, Bool.false_eq_true, if_false] at hlk
   dsimp only [nv] at hlk
   go_simp
   try with_reducible rfl
  try simp only [List.getElem_toArray, List.getElem_cons_succ, List.getElem_cons_zero, List.getElem?_toArray, List.getElem?_cons_succ, List.getElem?_cons_zero, Act.put, List.setIfInBounds_toArray, List.set_cons_zero, List.set_cons_succ]
  refine fan_take (i := 9) (v := ?_) rfl (by kernel_rfl) (fun _ _ _ _ h => h) (by kernel_rfl) S0 ?_ ?_
  rotate_left
  ·rintro w' ⟨⟨s1, s2, s3⟩, s4, s5⟩
   have hlk := s5.look Try.underlying88 (zeroNd w') hwf.out false
   rw [hm.out] at hlk
   simp only [Option.getD_some, Bool.false_eq_true, if_false] at hlk
   dsimp only [nv] at hlk
   go_simp
   try with_reducible rfl
  try simp only [List.getElem_toArray, List.getElem_cons_succ, List.getElem_cons_zero, List.getElem?_toArray, List.getElem?_cons_succ, List.getElem?_cons_zero, Act.put, List.setIfInBounds_toArray, List.set_cons_zero, List.set_cons_succ]
  refine fan_take (i := 10) (v := ?_) rfl (by kernel_rfl) (fun _ _ _ _ h => h) (by kernel_rfl) S0 ?_ ?_
  rotate_left
  ·rintro w' ⟨⟨s1, s2, s3⟩, s4, s5⟩
   have hlk := s5.look Try.underlying88 (zeroNd w') hwf.out false
   rw [hm.out] at hlk
   simp only [Option.getD_some, Bool.false_eq_true, if_false] at hlk
   dsimp only [nv] at hlk
   go_simp
   try with_reducible rfl
  try simp only [List.getElem_toArray, List.getElem_cons_succ, List.getElem_cons_zero, List.getElem?_toArray, List.getElem?_cons_succ, List.getElem?_cons_zero, Act.put, List.setIfInBounds_toArray, List.set_cons_zero, List.set_cons_succ]
  refine fan_take (i := 11) (v := ?_) rfl (by kernel_rfl) (fun _ _ _ _ h => h) (by kernel_rfl) S0 ?_ ?_
  rotate_left
  ·rintro w' ⟨⟨s1, s2, s3⟩, s4, s5⟩
   have hlk := s5.look Try.underlying88 (zeroNd w') hwf.out false
   rw [hm.out] at hlk
   simp only [Option.getD_some, Bool.false_eq_true, if_false] at hlk
   dsimp only [nv] at hlk
   go_simp
   try with_reducible rfl
  try simp only [List.getElem_toArray, List.getElem_cons_succ, List.getElem_cons_zero, List.getElem?_toArray, List.getElem?_cons_succ, List.getElem?_cons_zero, Act.put, List.setIfInBounds_toArray, List.set_cons_zero, List.set_cons_succ]
  refine fan_take (i := 12) (v := ?_) rfl (by kernel_rfl) (fun _ _ _ _ h => h) (by kernel_rfl) S0 ?_ ?_
  rotate_left
  ·rintro w' ⟨⟨s1, s2, s3⟩, s4, s5⟩
   have hlk := s5.look Try.underlying88 (zeroNd w') hwf.out false
   rw [hm.out] at hlk
   simp only [Option.getD_some, Bool.false_eq_true, if_false] at hlk
   dsimp only [nv] at hlk
   go_simp
   try with_reducible rfl
  try simp only [List.getElem_toArray, List.getElem_cons_succ, List.getElem_cons_zero, List.getElem?_toArray, List.getElem?_cons_succ, List.getElem?_cons_zero, Act.put, List.setIfInBounds_toArray, List.set_cons_zero, List.set_cons_succ]
  refine fan_take (i := 13) (v := ?_) rfl (by kernel_rfl) (fun _ _ _ _ h => h) (by kernel_rfl) S0 ?_ ?_
  rotate_left
  ·rintro w' ⟨⟨s1, s2, s3⟩, s4, s5⟩
   have hlk := s5.look Try.underlying88 (zeroNd w') hwf.out false
   rw [hm.out] at hlk
   simp only [Option.getD_some, Bool.false_eq_true, if_false] at hlk
   dsimp only [nv] at hlk
   go_simp
   try with_reducible rfl
  try simp only [List.getElem_toArray, List.getElem_cons_succ, List.getElem_cons_zero, List.getElem?_toArray, List.getElem?_cons_succ, List.getElem?_cons_zero, Act.put, List.setIfInBounds_toArray, List.set_cons_zero, List.set_cons_succ]
  refine fan_take (i := 14) (v := ?_) rfl (by kernel_rfl) (fun _ _ _ _ h => h) (by kernel_rfl) S0 ?_ ?_
  rotate_left
  ·rintro w' ⟨⟨s1, s2, s3⟩, s4, s5⟩
   have hlk := s5.look Try.underlying88 (zeroNd w') hwf.out false
   rw [hm.out] at hlk
   simp only [Option.getD_some, Bool.false_eq_true, if_false] at hlk
   dsimp only [nv] at hlk
   go_simp
   try with_reducible rfl
  try simp only [List.getElem_toArray, List.getElem_cons_succ, List.getElem_cons_zero, List.getElem?_toArray, List.getElem?_cons_succ, List.getElem?_cons_zero, Act.put, List.setIfInBounds_toArray, List.set_cons_zero, List.set_cons_succ]
  refine fan_take (i := 15) (v := ?_) rfl (by kernel_rfl) (fun _ _ _ _ h => h) (by kernel_rfl) S0 ?_ ?_
  rotate_left
  ·rintro w' ⟨⟨s1, s2, s3⟩, s4, s5⟩
   have hlk := s5.look Try.underlying88 (zeroNd w') hwf.out false
   rw [hm.out] at hlk
   simp only [Option.getD_some, Bool.false_eq_true, if_false] at hlk
   dsimp only [nv] at hlk
   go_simp
   try with_reducible rfl
  try simp only [List.getElem_toArray, List.getElem_cons_succ, List.getElem_cons_zero, List.getElem?_toArray, List.getElem?_cons_succ, List.getElem?_cons_zero, Act.put, List.setIfInBounds_toArray, List.set_cons_zero, List.set_cons_succ]
  refine fan_two 16 17 (by kernel_rfl) ?_ ?_
  ·refine fan_step rfl (by kernel_rfl) fun K' hK' => ?_
   refine wp_call_of 55 _ _ (by rfl) _ (by simp [Act.eval]) (Try.call55 _ _) (IH.out c0 bwc) ?_
   rintro e u1 ⟨kv', vv', dv', av', ns', rfl, r1, r2, r3, r4, r5⟩
   have Q1 := HCA.out u1 av' ns' r5 r2
   refine ⟨_, rfl, hK' _ _ Q1.1 ?_⟩
   clear hK' K'
   try simp only [List.getElem_toArray, List.getElem_cons_succ, List.getElem_cons_zero, List.getElem?_toArray, List.getElem?_cons_succ, List.getElem?_cons_zero, Act.put, List.setIfInBounds_toArray, List.set_cons_zero, List.set_cons_succ]
   obtain ⟨S1, n1, n2, kr1⟩ := Q1
   obtain ⟨ka', kc', va', vc', da', dc', rfl, rfl, rfl⟩ := r1.rd.slices
   dsimp only [nv]
   try simp only [List.getElem_toArray, List.getElem_cons_succ, List.getElem_cons_zero, List.getElem?_toArray, List.getElem?_cons_succ, List.getElem?_cons_zero, Act.put, List.setIfInBounds_toArray, List.set_cons_zero, List.set_cons_succ]
   refine fan_one 17 (by kernel_rfl) ?_
   refine fan_step rfl (by kernel_rfl) fun K' hK' => ?_
   go_simp
   obtain ⟨d2, hc2, E2, q2, s2⟩ := boxedN u1 #[.bool false, .slice none 0 0, .slice none 0 0, .slice none 0 0] 79
   rw [← hc2]
   obtain ⟨g12, hg12⟩ : ∃ q, q = u1.heap.size := ⟨_, rfl⟩
   rw [← hg12] at E2 ⊢
   have RR : R4 B gc g next m MM AD n (.slice ka KN kc) (.slice va VN vc) (.slice (some ⟨db, dO, none⟩) Z dc) w (S4 g12 d2 (.bool MM.leaf) (.slice ka' MM.keys.length kc') (.slice va' MM.vals.length vc') (.slice da' MM.kids.length dc')) g12 (.slice ka' MM.keys.length kc') (.slice va' MM.vals.length vc') (.slice da' MM.kids.length dc') av' ns' := by
    have z : R4 B gc g next m ⟨false, [], [], []⟩ AD n (.slice ka KN kc) (.slice va VN vc) (.slice (some ⟨db, dO, none⟩) Z dc) w d2 g12 (.slice none 0 0) (.slice none 0 0) (.slice none 0 0) av' ns' :=
     ⟨E2, (OwnN.nil 0 _ _).rdk, r2.to q2, r3.to q2, r4, kr1.then (KCh.of q2 (Nat.le_trans hB kr1.size)), (q2.block _ (lt_of_block n1)).trans n1, (q2.block _ (lt_of_block n2)).trans n2, by have := lt_of_block n2; omega, fun b hb => ⟨by have := (World.ownsRow.lt r2.row b hb).2; omega, by have := r5.row b hb; have := lt_of_block NB0; omega, by have := r5.row b hb; have := lt_of_block RB0; omega⟩⟩
    exact z.put hB hgcw hgw (r1.to q2)
   have FN := hide RR
   refine hK' _ _ (HS2.out u1 d2 S1 q2) ?_
   clear hK' K'
   try simp only [List.getElem_toArray, List.getElem_cons_succ, List.getElem_cons_zero, List.getElem?_toArray, List.getElem?_cons_succ, List.getElem?_cons_zero, Act.put, List.setIfInBounds_toArray, List.set_cons_zero, List.set_cons_succ]
   replace hg12 := hide hg12
   refine fan_done (by kernel_rfl) ?_
   show wpList _ _ _ _ _ _
   obtain ⟨⟨y0, y1, y2, y3⟩, yf⟩ := cells4 E2
   dsimp only [List.drop]
   clear RR n1 n2 kr1 E2 q2 s2 hc2 r1 r2 r3 r4 r5 S1
   go_wp2_with fail
   go_meet
   exact ⟨g12, _, _, _, av', ns', rfl, FN⟩
  ·refine fan_step rfl (by kernel_rfl) fun K' hK' => ?_
   go_simp
   obtain ⟨d2, hc2, E2, q2, s2⟩ := boxedN c0 #[.bool false, .slice none 0 0, .slice none 0 0, .slice none 0 0] 79
   rw [← hc2]
   obtain ⟨g12, hg12⟩ : ∃ q, q = c0.heap.size := ⟨_, rfl⟩
   rw [← hg12] at E2 ⊢
   have bwd := bwc.trans (q2.mono bwc.size)
   refine hK' _ _ (HS2.out c0 d2 S0 q2) ?_
   clear hK' K'
   try simp only [List.getElem_toArray, List.getElem_cons_succ, List.getElem_cons_zero, List.getElem?_toArray, List.getElem?_cons_succ, List.getElem?_cons_zero, Act.put, List.setIfInBounds_toArray, List.set_cons_zero, List.set_cons_succ]
   have NB2 := (q2.block _ (lt_of_block NB0)).trans NB0
   have RB2 := (q2.block _ (lt_of_block RB0)).trans RB0
   have l12 : w.heap.size + 1 < g12 := by have := lt_of_block RB0; omega
   have h12 : g12 < d2.heap.size := lt_of_block E2
   replace hg12 := hide hg12
   clear hc2 s2
   have HCB : Hid (∀ u1 av' ns', KRb B gc m av' d2 u1 → ChI B u1 gc g next av' ns' → ((u1.cell? ⟨gc, 0, none⟩ = some (.pointer (some ⟨g, 0, none⟩)) ∧ u1.cell? ⟨g, 3, none⟩ = some (.map (some bm)) ∧ u1.cell? ⟨w.heap.size, 3, none⟩ = some (.slice (some ⟨db, dO, none⟩) Z dc)) ∧ u1.cell? ⟨db, dO + kx, none⟩ = some (.int .i64 X.2) ∧ MapI u1 bm k m) ∧ u1.heap[w.heap.size]? = some (.cells #[.bool false, .slice ka KN kc, .slice va VN vc, .slice (some ⟨db, dO, none⟩) Z dc] 79 (0, 0)) ∧ u1.heap[w.heap.size + 1]? = some (.cells #[.bool false, .slice none 0 0, .slice none 0 0, .slice none 0 0] 79 (0, 0)) ∧ KRb B gc m av' w u1 ∧ u1.heap[g12]? = some (.cells #[.bool false, .slice none 0 0, .slice none 0 0, .slice none 0 0] 79 (0, 0))) := fun u1 av' ns' r5 r2 => by
    have n1 := (r5.keep _ (lt_of_block NB2) (by omega) (HNL.out _ (Nat.le_refl _))).trans NB2
    exact ⟨HS.out u1 (KRb.first bwd hB r5) r2 (cells4 n1).1.2.2.2, n1, (r5.keep _ (lt_of_block RB2) (by omega) (HNL.out _ (by omega))).trans RB2, KRb.first bwd hB r5, (r5.keep _ h12 (by omega) (HNL.out _ (by omega))).trans E2⟩
   refine fan_one 16 (by kernel_rfl) ?_
   refine fan_step rfl (by kernel_rfl) fun K' hK' => ?_
   refine wp_call_of 55 _ _ (by rfl) _ (by simp [Act.eval]) (Try.call55 _ _) (IH.out d2 bwd) ?_
   rintro e u1 ⟨kv', vv', dv', av', ns', rfl, r1, r2, r3, r4, r5⟩
   have Q1 := HCB.out u1 av' ns' r5 r2
   refine ⟨_, rfl, hK' _ _ Q1.1 ?_⟩
   clear hK' K' HCB
   try simp only [List.getElem_toArray, List.getElem_cons_succ, List.getElem_cons_zero, List.getElem?_toArray, List.getElem?_cons_succ, List.getElem?_cons_zero, Act.put, List.setIfInBounds_toArray, List.set_cons_zero, List.set_cons_succ]
   obtain ⟨S1, n1, n2, kr1, E3⟩ := Q1
   obtain ⟨ka', kc', va', vc', da', dc', rfl, rfl, rfl⟩ := r1.rd.slices
   have RR : R4 B gc g next m MM AD n (.slice ka KN kc) (.slice va VN vc) (.slice (some ⟨db, dO, none⟩) Z dc) w (S4 g12 u1 (.bool MM.leaf) (.slice ka' MM.keys.length kc') (.slice va' MM.vals.length vc') (.slice da' MM.kids.length dc')) g12 (.slice ka' MM.keys.length kc') (.slice va' MM.vals.length vc') (.slice da' MM.kids.length dc') av' ns' := by
    have z : R4 B gc g next m ⟨false, [], [], []⟩ AD n (.slice ka KN kc) (.slice va VN vc) (.slice (some ⟨db, dO, none⟩) Z dc) w u1 g12 (.slice none 0 0) (.slice none 0 0) (.slice none 0 0) av' ns' :=
     ⟨E3, (OwnN.nil 0 _ _).rdk, r2, r3, r4, kr1, n1, n2, l12, fun b hb => ⟨by have := r5.row b hb; omega, by have := r5.row b hb; have := lt_of_block NB2; omega, by have := r5.row b hb; have := lt_of_block RB2; omega⟩⟩
    exact z.put hB hgcw hgw r1
   have FN := hide RR
   dsimp only [nv]
   try simp only [List.getElem_toArray, List.getElem_cons_succ, List.getElem_cons_zero, List.getElem?_toArray, List.getElem?_cons_succ, List.getElem?_cons_zero, Act.put, List.setIfInBounds_toArray, List.set_cons_zero, List.set_cons_succ]
   refine fan_done (by kernel_rfl) ?_
   show wpList _ _ _ _ _ _
   obtain ⟨⟨y0, y1, y2, y3⟩, yf⟩ := cells4 E3
   dsimp only [List.drop]
   clear RR n1 n2 kr1 E2 E3 q2 r1 r2 r3 r4 r5 S1 NB2 RB2
   go_wp2_with fail
   go_meet
   exact ⟨g12, _, _, _, av', ns', rfl, FN⟩
 case rest =>
  obtain ⟨g12, kv', vv', dv', av', ns', rfl, hR⟩ := hcut
  obtain ⟨ka', kc', va', vc', da', dc', rfl, rfl, rfl⟩ := hR.out.rd.rd.slices
  have KB := hide (pbare_any wc MM _ (.slice va' MM.vals.length vc') (.slice da' MM.kids.length dc') hR.out.rd.rd.keys ⟨rfl, rfl⟩)
  obtain ⟨⟨y0, y1, y2, y3⟩, yf⟩ := cells4 hR.out.b12
  have g1 : IntKind.i64.wrap ((kx : Int) + 1) = (kx : Int) + 1 := IntWalk.i64_in _ (by have := hkids.out; omega)
  dsimp only [nv] at KB
  go_wp2_with fail
  refine KB.out.mono ?_
  rintro e w2 ⟨rfl, b2⟩
  have R2 := hide (hR.out.to b2 hB)
  have hbb : Hid ((!MM.leaf && decide (MM.keys.length = 0)) = bareB MM) := rfl
  rw [hbb.out]
  clear KB y0 y1 y2 y3 yf b2 hR
  go_upto_if 52 with fail
  go_cut [13, 14] from 52 to 63 (fun f t wx => ∃ (jk jv jd : Value), f = .int .i64 (rbF kx MM : Int) ∧ t = .int .i64 (rbT kx MM : Int) ∧ Hid (R4 B gc g next m (rbJ l n kx MM) AD n (.slice ka KN kc) (.slice va VN vc) (.slice (some ⟨db, dO, none⟩) Z dc) w wx g12 jk jv jd av' ns'))
  case first =>
   cases hb : bareB MM with
   | false =>
    have q1 : Hid (rbF kx MM = kx ∧ rbT kx MM = kx + 1 ∧ rbJ l n kx MM = MM) := by
     unfold rbF rbT rbJ
     rw [hb]
     exact ⟨rfl, rfl, rfl⟩
    replace hb := hide hb
    go_wp2_with fail
    go_meet
    refine ⟨.slice ka' MM.keys.length kc', .slice va' MM.vals.length vc', .slice da' MM.kids.length dc', by rw [q1.out.1], by rw [q1.out.2.1]; push_cast; rfl, ?_⟩
    rw [q1.out.2.2]
    exact R2
   | true =>
    have NR := HN.out.krb HNR.out R2.out.kr HH.out.box
    have SS := HS.out w2 R2.out.kr R2.out.ch (cells4 R2.out.nb).1.2.2.2
    have CM : ChM w2 gc g bm k m := ⟨SS.1.1, SS.1.2.1, SS.2.2⟩
    obtain ⟨e0, b0, hde, hx1, hx2, hb2, hx3⟩ := sh_bare hsh.out hb
    have W := HW.out
    clear hde hx1 hx2 hx3
    by_cases hk1 : kx = 0
    ·skip
     subst hk1
     obtain ⟨c, hc1⟩ : ∃ c, (P ++ [X] ++ S)[1]? = some c := ⟨_, List.getElem?_eq_getElem (by have := W.two; omega)⟩
     obtain ⟨sb, sk, sv, sd, sis, slf, sm, swf, sR, sL⟩ := hsib.out 1 c hb hc1
     have SR := sR.krb sL R2.out.kr HH.out.box
     have hsl : ShOk sb := (show ShN 1 sb from by
      obtain ⟨q1, q2, q3⟩ := inr_to sis.ok slf
      exact ⟨brs sb, q1, by unfold brs; simp, q2.1, by have := sis.ok.2.2.2.2; omega⟩).ok
     have KJ := hide (pjoin_behind w2 gc g bm k m n MM sb (.slice ka KN kc) (.slice va VN vc) (.slice (some ⟨db, dO, none⟩) Z dc) _ _ _ sk sv sd 0 c.2 c.1 CM NR.rd R2.out.rd.rd SR.rd (W.sib 1 c hc1).1 swf sm (W.keys 0 c hc1) hb2 (kids_len sis.ok slf) (by have := (hsh.out.ok).len; omega) (by have := hsl.len; omega) (by rw [hZ.out]; have := hkids.out; omega))
     obtain ⟨JJ, hJJ⟩ : ∃ J, J = inr (brs MM ++ (c.1, sb.kids.headD 0) :: (brs sb).tail) := ⟨_, rfl⟩
     rw [← hJJ] at KJ
     have q1 : Hid (rbF 0 MM = 0 ∧ rbT 0 MM = 0 + 2 ∧ rbJ l n 0 MM = JJ) := by
      unfold rbF rbT rbJ
      rw [if_pos hb, if_pos hb, if_pos hb, hJJ]
      exact ⟨by omega, by omega, join_zero (W.sib 1 c hc1).1 (W.keys 0 c hc1) sis⟩
     obtain ⟨⟨y0, y1, y2, y3⟩, yf⟩ := cells4 R2.out.b12
     obtain ⟨⟨n0, n1, n2, n3⟩, nf⟩ := cells4 R2.out.nb
     have hJl : Hid (JJ.leaf = false) := by show _ = _; rw [hJJ]; rfl
     dsimp only [nv] at KJ
     rw [HLF.out] at KJ
     (try rw [show ((0 : Nat) : Int) = 0 from rfl] at KJ)
     replace hJJ := hide hJJ
     replace hb := hide hb
     have m1 : IntKind.i64.wrap (-1) = -1 := by decide
     clear sR SR hsl NR CM W sis slf sm swf sL hc1 hb2 SS
     go_wp2_with fail
     refine KJ.out.mono ?_
     rintro e w3 ⟨kj, dj, rfl, oJ, bJ⟩
     have Rb := R2.out.to bJ hB
     have RJ := hide (Rb.put hB hgcw hgw oJ.rdk)
     obtain ⟨⟨z0, z1, z2, z3⟩, zf⟩ := cells4 Rb.b12
     obtain ⟨kja, kjc, hkj⟩ := oJ.keys.rd.slice
     obtain ⟨dja, djc, hdj⟩ := oJ.kids.rd.slice
     subst hkj hdj
     dsimp only [nv]
     clear KJ y0 y1 y2 y3 yf n0 n1 n2 n3 nf Rb oJ bJ
     go_wp2_with fail
     go_meet
     refine ⟨.slice kja JJ.keys.length kjc, .slice none 0 0, .slice dja JJ.kids.length djc, by rw [q1.out.1]; rfl, by rw [q1.out.2.1]; push_cast; rfl, ?_⟩
     rw [q1.out.2.2]
     exact RJ
    ·skip
     obtain ⟨i, rfl⟩ : ∃ i, kx = i + 1 := ⟨kx - 1, by omega⟩
     obtain ⟨c, hc1⟩ : ∃ c, (P ++ [X] ++ S)[i]? = some c := ⟨_, List.getElem?_eq_getElem (by have := W.len; simp; omega)⟩
     have hcX : (P ++ [X] ++ S)[i + 1]? = some X := by rw [List.append_assoc, List.getElem?_append_right (by rw [W.len]; exact Nat.le_refl _), W.len]; simp
     obtain ⟨sb, sk, sv, sd, sis, slf, sm, swf, sR, sL⟩ := hsib.out i c hb hc1
     have SR := sR.krb sL R2.out.kr HH.out.box
     have hsl : ShOk sb := (show ShN 1 sb from by
      obtain ⟨q1, q2, q3⟩ := inr_to sis.ok slf
      exact ⟨brs sb, q1, by unfold brs; simp, q2.1, by have := sis.ok.2.2.2.2; omega⟩).ok
     have KJ := hide (pjoin_ahead w2 gc g bm k m n MM sb (.slice ka KN kc) (.slice va VN vc) (.slice (some ⟨db, dO, none⟩) Z dc) _ _ _ sk sv sd i c.2 X.1 CM NR.rd R2.out.rd.rd SR.rd (W.sib i c hc1).1 swf sm (W.keys i X hcX) hb2 (kids_len sis.ok slf) (by have := (hsh.out.ok).len; omega) (by have := hsl.len; omega) (by rw [hZ.out]; have := hkids.out; omega))
     obtain ⟨JJ, hJJ⟩ : ∃ J, J = inr (brs sb ++ (X.1, MM.kids.headD 0) :: (brs MM).tail) := ⟨_, rfl⟩
     rw [← hJJ] at KJ
     have q1 : Hid (rbF (i + 1) MM = i ∧ rbT (i + 1) MM = i + 2 ∧ rbJ l n (i + 1) MM = JJ) := by
      unfold rbF rbT rbJ
      rw [if_pos hb, if_pos hb, if_pos hb, hJJ]
      exact ⟨by omega, by omega, join_succ (W.sib i c hc1).1 (W.keys i X hcX) sis⟩
     obtain ⟨⟨y0, y1, y2, y3⟩, yf⟩ := cells4 R2.out.b12
     obtain ⟨⟨n0, n1, n2, n3⟩, nf⟩ := cells4 R2.out.nb
     have hJl : Hid (JJ.leaf = false) := by show _ = _; rw [hJJ]; rfl
     dsimp only [nv] at KJ
     rw [HLF.out] at KJ
     (try rw [show ((0 : Nat) : Int) = 0 from rfl] at KJ)
     replace hJJ := hide hJJ
     replace hb := hide hb
     have m1 : IntKind.i64.wrap (i : Int) = (i : Int) := IntWalk.i64_in _ (by have := hkids.out; omega)
     have m2 : ¬ (i : Int) < 0 := by omega
     have m3 : IntKind.i64.wrap ((i : Int) + 2) = (i : Int) + 2 := IntWalk.i64_in _ (by have := hkids.out; omega)
     clear sR SR hsl NR CM W sis slf sm swf sL hc1 hcX hb2 SS
     go_wp2_with fail
     refine KJ.out.mono ?_
     rintro e w3 ⟨kj, dj, rfl, oJ, bJ⟩
     have Rb := R2.out.to bJ hB
     have RJ := hide (Rb.put hB hgcw hgw oJ.rdk)
     obtain ⟨⟨z0, z1, z2, z3⟩, zf⟩ := cells4 Rb.b12
     obtain ⟨kja, kjc, hkj⟩ := oJ.keys.rd.slice
     obtain ⟨dja, djc, hdj⟩ := oJ.kids.rd.slice
     subst hkj hdj
     dsimp only [nv]
     clear KJ y0 y1 y2 y3 yf n0 n1 n2 n3 nf Rb oJ bJ
     go_wp2_with fail
     go_meet
     refine ⟨.slice kja JJ.keys.length kjc, .slice none 0 0, .slice dja JJ.kids.length djc, by rw [q1.out.1], by rw [q1.out.2.1]; push_cast; rfl, ?_⟩
     rw [q1.out.2.2]
     exact RJ
  case rest =>
   obtain ⟨jk, jv, jd, rfl, rfl, hJ⟩ := hcut
   have HF : Hid ((rbF kx MM < rbT kx MM ∧ rbT kx MM ≤ (brs n).length) ∧ rbF kx MM < (brs n).length) := by
    have h2 := HW.out.two
    have h3 : (brs n).length = (P ++ [X] ++ S).length := by rw [HW.out.brs]
    have h4 := hbrl.out
    show (_ ∧ _) ∧ _
    unfold rbF rbT
    split <;> omega
   have SJ : Hid (ShN d (rbJ l n kx MM)) := by
    show ShN _ _
    unfold rbJ
    split
    ·exact join_shape HW.out hsh.out (by assumption)
    ·exact hsh.out
   obtain ⟨fr, hfr⟩ : ∃ x, rbF kx MM = x := ⟨_, rfl⟩
   obtain ⟨tt, htt⟩ : ∃ x, rbT kx MM = x := ⟨_, rfl⟩
   obtain ⟨JJ, hJJ⟩ : ∃ x, rbJ l n kx MM = x := ⟨_, rfl⟩
   rw [hfr, htt] at HF
   rw [hfr, htt, hJJ] at hreb
   rw [hJJ] at SJ hJ
   rw [hfr, htt]
   replace hfr := hide hfr
   replace htt := hide htt
   replace hJJ := hide hJJ
   obtain ⟨y, hy⟩ : ∃ y, (brs n)[fr]? = some y := ⟨_, List.getElem?_eq_getElem HF.out.2⟩
   have hyD : (brs n).getD fr ([], 0) = y := by rw [List.getD_eq_getElem?_getD, hy]; rfl
   rw [hyD] at hreb
   replace hy := hide hy
   replace hyD := hide hyD
   have hBl : Hid ((brs n).length ≤ 201) := by
    have h1 := hbrl.out
    have h2 := hkids.out
    show _ ≤ _
    omega
   obtain ⟨BL, hBL⟩ : ∃ x, x = (brs n).length := ⟨_, rfl⟩
   rw [← hBL] at HF hBl
   have hnl : Hid (ns'.length ≤ 900) := by
    have h1 := (reb_len l next key ed d nd []).2
    rw [← hAD.out, ← hJ.out.eq, List.length_map] at h1
    show _ ≤ _
    simp at h1
    omega
   have NR := HN.out.krb HNR.out hJ.out.kr HH.out.box
   have KBr := hide (pbrs_any wc n _ _ _ NR.rd (by rw [hZ.out, hKN.out]; exact hkids.out) (by rw [hKN.out]; omega))
   obtain ⟨⟨n0, n1, n2, n3⟩, nf⟩ := cells4 hJ.out.nb
   obtain ⟨jka, jkc, jva, jvc, jda, jdc, hjk, hjv, hjd⟩ := hJ.out.rd.rd.slices
   subst hjk hjv hjd
   dsimp only [nv] at KBr
   rw [HLF.out] at KBr
   replace hBL := hide hBL
   clear NR
   go_wp2_with fail
   refine KBr.out.mono ?_
   rintro e w3 ⟨vb, rfl, oB, b3⟩
   have R3 := hide (hJ.out.to b3 hB)
   obtain ⟨gb, cb, hvb, hgb, y1, y2, yf⟩ := oB.at hy.out
   rw [← hBL.out] at hvb
   subst hvb
   have OB := hide oB
   have hgb3 : gb < w3.heap.size := cell_lt y1
   have hCC : Hid (w.heap.size + 1 < wc.heap.size) := lt_of_block hJ.out.rb
   have hav : Hid (∀ b, av'.ownBlock = some b → b < wc.heap.size) := fun b hb => (World.ownsRow.lt hJ.out.ch.row b hb).2
   have y1' := hide y1
   clear KBr n0 n1 n2 n3 nf oB y1 y2 yf
   have f1 : fr < BL := HF.out.2
   go_upto_region 11 with fail
   have bd : Below w3.heap.size w3 w3.drew := below_drewN' w3 1 _
   have R3' := hide (R3.out.to bd hB)
   have KL := hide (plaid_gen B w3.drew gc g next av' ns' JJ _ _ _ y.1 R3'.out.ch R3'.out.al (Nat.le_trans (Nat.le_trans hB R3.out.kr.size) bd.size) (fun b hb => by have := R3.out.kr.row b hb; omega) hgc hnl.out hnx R3'.out.rd SJ.out.ok)
   have S0 : ((w3.drew.cell? ⟨g12, 0, none⟩ = some (.bool JJ.leaf) ∧ w3.drew.cell? ⟨g12, 1, none⟩ = some (.slice jka JJ.keys.length jkc) ∧ w3.drew.cell? ⟨g12, 2, none⟩ = some (.slice jva JJ.vals.length jvc) ∧ w3.drew.cell? ⟨g12, 3, none⟩ = some (.slice jda JJ.kids.length jdc)) ∧ w3.drew.cell? ⟨gb, fr * 2, none⟩ = some (st y.1)) := ⟨(cells4 R3'.out.b12).1, (bd.cell hgb3).trans y1'.out⟩
   refine wp_region_sched (fun w9 => (w9.cell? ⟨g12, 0, none⟩ = some (.bool JJ.leaf) ∧ w9.cell? ⟨g12, 1, none⟩ = some (.slice jka JJ.keys.length jkc) ∧ w9.cell? ⟨g12, 2, none⟩ = some (.slice jva JJ.vals.length jvc) ∧ w9.cell? ⟨g12, 3, none⟩ = some (.slice jda JJ.kids.length jdc)) ∧ w9.cell? ⟨gb, fr * 2, none⟩ = some (st y.1)) [(0, true), (1, true), (2, true), (3, true), (4, true), (5, true), (6, true), (7, false)] 8 mixed (by kernel_rfl) (fun _ _ _ _ h => h) ?_
   iterate 7
    refine sched_take (v := ?_) rfl (by kernel_rfl) S0 ?_ ?_
    rotate_left
    ·rintro w9 ⟨⟨s1, s2, s3, s4⟩, s5⟩
     go_simp
     try with_reducible rfl
    try simp only [List.getElem_toArray, List.getElem_cons_succ, List.getElem_cons_zero, List.getElem?_toArray, List.getElem?_cons_succ, List.getElem?_cons_zero, Act.put, List.setIfInBounds_toArray, List.set_cons_zero, List.set_cons_succ]
   refine sched_run rfl (by kernel_rfl) fun K hK => ?_
   refine wp_call_of 73 _ _ (by rfl) _ (by simp [Act.eval]) (Try.call73 _ _) KL.out ?_
   rintro e w4 ⟨u, av2, more, rfl, nw, c4, al4, e4, k4, ng4⟩
   have hkk : Hid (∀ b, b < w3.heap.size → b ≠ gc → av'.ownBlock ≠ some b → w4.heap[b]? = w3.drew.heap[b]?) := fun b h1 h2 h3 => k4.keep b (Nat.lt_of_lt_of_le h1 bd.size) h2 h3
   have hg12 : g12 < w3.heap.size := lt_of_block R3.out.b12
   have S4' : ((w4.cell? ⟨g12, 0, none⟩ = some (.bool JJ.leaf) ∧ w4.cell? ⟨g12, 1, none⟩ = some (.slice jka JJ.keys.length jkc) ∧ w4.cell? ⟨g12, 2, none⟩ = some (.slice jva JJ.vals.length jvc) ∧ w4.cell? ⟨g12, 3, none⟩ = some (.slice jda JJ.kids.length jdc)) ∧ w4.cell? ⟨gb, fr * 2, none⟩ = some (st y.1)) := by
    have e1 := hkk.out g12 hg12 (by have := R3.out.l12; omega) (fun e => (R3.out.na _ e).1 rfl)
    have e2 := hkk.out gb hgb3 (by have := hCC.out; omega) (fun e => by have := hav.out _ e; omega)
    obtain ⟨⟨q1, q2, q3, q4⟩, q5⟩ := S0
    simp only [World.cell?] at q1 q2 q3 q4 q5 ⊢
    rw [e1, e2]
    exact ⟨⟨q1, q2, q3, q4⟩, q5⟩
   refine ⟨_, rfl, hK _ _ S4' ?_⟩
   clear hK K S4' S0 KL
   try simp only [List.getElem_toArray, List.getElem_cons_succ, List.getElem_cons_zero, List.getElem?_toArray, List.getElem?_cons_succ, List.getElem?_cons_zero, Act.put, List.setIfInBounds_toArray, List.set_cons_zero, List.set_cons_succ]
   have O4 : Hid (OwnBr wc.heap.size w4 (.slice (some ⟨gb, 0, none⟩) BL cb) (brs n)) := row_block (rows_to OB.out bd) fun b hb => by
    cases hb
    exact hkk.out gb hgb3 (by have := hCC.out; omega) (fun e => by have := hav.out _ e; omega)
   have hMp : ns'.map (·.1) = AD := R3.out.eq
   rw [hMp] at nw e4
   obtain ⟨NW, hNW⟩ : ∃ x, (laidOf next AD JJ y.1).1 = x := ⟨_, rfl⟩
   have hN2 : Hid (NW.length ≤ 2) := by
    have := (laid_shape SJ.out next AD y.1).1
    rw [hNW] at this
    exact this
   rw [hNW] at nw hreb
   have KP := hide (prepl_any wc.heap.size w4 (.slice (some ⟨gb, 0, none⟩) BL cb) u (brs n) NW fr tt O4.out (by have h1 := k4.size; have h2 := bd.size; have h3 := hgb; omega) (by
    rcases nw with nw | ⟨gn, q1, q2, q3, q4⟩
    ·exact .inl nw
    ·refine .inr ⟨gn, q1, q2, q3, fun b hb => ?_⟩
     have hb' : gb = b := Option.some.inj hb
     have := bd.size
     omega) hN2.out HF.out.1.1 (by rw [← hBL.out]; exact HF.out.1.2) (by have := hBl.out; rw [← hBL.out]; omega))
   have FI := hide (fun (w5 w6 : World) (kI dI : Value) (M' : Nd) (gr : w4.grownBy w5 (some gb)) (b6 : Below w5.heap.size w5 w6) (oI : OwnN w5.heap.size w6 kI (.slice none 0 0) dI M') (hM : M'.leaf = false) => R3'.out.fin hB hgcw hgw hCC.out hav.out hgb (Nat.lt_of_lt_of_le hgb3 bd.size) k4 c4 al4 e4 O4.out gr b6 oI hM)
   have hrl : Hid ((rplc (brs n) fr tt NW).length ≤ 1000) := by
    have h1 : (rplc (brs n) fr tt NW).length ≤ (brs n).length + NW.length + (brs n).length := by
     unfold rplc
     simp only [List.length_append, List.length_take, List.length_drop]
     omega
    have h2 := hN2.out
    have h3 := hBl.out
    have h4 := hBL.out
    show _ ≤ _
    omega
   replace hNW := hide hNW
   replace hMp := hide hMp
   clear nw e4 k4 c4 al4 ng4 hkk
   show wpList _ _ _ _ _ _
   dsimp only [List.drop]
   go_wp2_with fail
   refine KP.out.mono ?_
   rintro e w5 ⟨v5, rfl, o5, gr⟩
   have KI := hide (pinr_any _ w5 v5 _ o5 hrl.out)
   obtain ⟨va5, vc5, hv5⟩ := o5.slice
   obtain ⟨LL, hLL⟩ : ∃ x, x = (rplc (brs n) fr tt NW).length := ⟨_, rfl⟩
   rw [← hLL] at hv5
   subst hv5
   have GR := hide gr
   replace hLL := hide hLL
   clear o5 gr KP
   go_wp2_with fail
   refine KI.out.mono ?_
   rintro e w6 ⟨kI, dI, rfl, oI, b6⟩
   have FF := hide (FI.out w5 w6 kI dI _ GR.out b6 oI rfl)
   obtain ⟨kia, kic, hki⟩ := oI.keys.rd.slice
   obtain ⟨dia, dic, hdi⟩ := oI.kids.rd.slice
   subst hki hdi
   obtain ⟨⟨z0, z1, z2, z3⟩, zf⟩ := cells4 FF.out.1
   clear KI oI b6
   obtain ⟨MI, hMI⟩ : ∃ M, M = inr (rplc (brs n) fr tt NW) := ⟨_, rfl⟩
   have hMl : MI.leaf = false := by rw [hMI]; rfl
   rw [← hMI] at FF hreb ⊢
   dsimp only [nv]
   rw [hMl]
   replace hMI := hide hMI
   replace hMl := hide hMl
   go_wp2
   refine retN rfl rfl (w.heap.size + 1) rfl _ _ (0, 0) (heap_set4 FF.out.1 _ _ _ _) _ Try.underlying79 rfl info_nd10 ?_
   obtain ⟨a1, a2, a3, a4, a5, h0, h1, h2, h3, h4, h5⟩ := FF.out.2
   unfold RbR
   rw [hreb.out]
   refine ⟨a1, a2, a3, a4, a5, ?_, h1, h2, h3, h4, h5⟩
   rw [← h0]
   dsimp only [nv]
   rw [hMl.out]
end Go.Proofs.Ytmmjdacjcipgjaa

namespace Go.Proofs.Ytmmjdacjcipgjaa
open Go.RowKit
def EdCl (B : Nat) (w : World) (F : Nat) (caps : Array Value) (key : Str) (ed : Nd → Nd) (good : List Pr → Prop) : Prop :=
 ∀ (u : World) (ps : List Pr) (kv vv dv : Value), Below w.heap.size w u → OwnN B u kv vv dv (lf ps) → Dj kv vv dv → PrOk ps → nsize (lf ps) ≤ 244 → good ps →
  Calls Try.prog F (#[nv (lf ps) kv vv dv, .int .i64 (nfind (lf ps) key), .bool (nhas (lf ps) key)] ++ caps) u fun e u' => ∃ kv' vv' dv', e = .returned (nv (ed (lf ps)) kv' vv' dv') ∧ OwnN B u' kv' vv' dv' (ed (lf ps)) ∧ KEd B kv vv u u'
theorem EdCl.to {B : Nat} {w w' : World} {F : Nat} {caps : Array Value} {key : Str} {ed : Nd → Nd} {good : List Pr → Prop} (h : EdCl B w F caps key ed good) (b : Below w.heap.size w w') : EdCl B w' F caps key ed good :=
 fun u ps kv vv dv bu => h u ps kv vv dv (b.trans (bu.mono b.size))
theorem ids_nd {l : List Wrt} {id : Int} {nd : Nd} (h : NdIs l id nd) : ∀ d, idsOf l d id = id :: nI l d nd
 | 0 => rfl
 | d + 1 => by
  show id :: (nodeAt l id).kids.flatMap (idsOf l d) = _
  rw [h.at]; rfl
theorem CW.node {w : World} {B g bm k : Nat} {l : List Wrt} {m : Int → Option Value} (h : CW w B g bm k l m) {i : Int} (hi : (m i).isSome = true) {nd : Nd} (hn : NdIs l i nd) : ∃ kv vv dv, m i = some (nv nd kv vv dv) ∧ OwnN B w kv vv dv nd ∧ Dj kv vv dv := by
 obtain ⟨v, hv⟩ := Option.isSome_iff_exists.1 hi
 obtain ⟨x, nd', kv, vv, dv, h1, h2, rfl, h4, h5⟩ := h.nds i v hv
 have e : nd' = nd := (show NdIs l i nd' from ⟨x, h1, h2⟩).at.symm.trans hn.at
 subst e
 exact ⟨kv, vv, dv, hv, h4, h5⟩
theorem LfB.of {m : Int → Option Value} {i : Int} {nd : Nd} {kv vv dv : Value} (h : m i = some (nv nd kv vv dv)) (hl : nd.leaf = true) : ∀ b, kv.ownBlock = some b ∨ vv.ownBlock = some b → LfB m b := fun b hb => ⟨i, nd, kv, vv, dv, h, hl, hb⟩
theorem wf_small {i : Int} (h : 1 ≤ i ∧ i ≤ 65536) : (Lit.int .i64 i).wf = true := WalkArith.wf_i64 (by omega)
theorem keys_few {n : Nd} (h : NOk n) (hl : n.leaf = false) : n.keys.length ≤ 200 :=
 (show ShN 1 n from by
  obtain ⟨q1, q2, q3⟩ := inr_to h hl
  exact ⟨brs n, q1, by unfold brs; simp, q2.1, by have := h.2.2.2.2; omega⟩).ok.len
theorem preb_any {B gc g bm k : Nat} {next : Int} {l : List Wrt} {m : Int → Option Value} {key : Str} {Fn : Nat} {caps : Array Value} {ed : Nd → Nd} {upd : List Pr → List Pr} {good : List Pr → Prop} (hE : EdOk key upd ed) (hgc : gc ≠ g) (hnx : 0 ≤ next ∧ next ≤ 65536)
  (hG : ∀ A X C, (∀ y ∈ A, slt y.1 key = true) → (∀ y ∈ C, slt key y.1 = true) → good (A ++ X ++ C) → good X) (he : ∀ args u, (callFunc Fn args).run Try.prog u = .ok (.enter Fn args) u) :
  ∀ (d : Nat) (n : Nd) (lo : Str) (hi : Option Str) (w : World) (kv vv dv : Value), d ≤ 20 → CW w B g bm k l m → ChI B w gc g next (.slice none 0 0) [] → B ≤ w.heap.size → OwnN B w kv vv dv n → Dj kv vv dv → (n.leaf = true → ∀ b, kv.ownBlock = some b ∨ vv.ownBlock = some b → LfB m b) → (n.leaf = false → ∀ b, RowOf (nv n kv vv dv) b → ¬ LfB m b) →
   NO l d n lo hi → nsize n ≤ 244 → (d ≠ 0 → n.keys ≠ []) → (∀ i ∈ nI l d n, (m i).isSome = true ∧ 1 ≤ i ∧ i ≤ 65536) → good (nP l d n) → EdCl B w Fn caps key ed good →
   Calls Try.prog 55 #[.pointer (some ⟨gc, 0, none⟩), nv n kv vv dv, st key, .func (.func Fn) #[] caps] w fun e w' => RbR B gc g next l m d key ed n w w' e
 | 0, n, lo, hi, w, kv, vv, dv, hd, hC, hh, hB, hO, hD, hL, hI, hN, hsz, hk0, hid, hgo, hcl => by
  obtain ⟨ps, rfl, hp, hin⟩ := hN
  have hgo' : good ps := by
   have : nP l 0 (lf ps) = ps := npr_lf ps
   rw [this] at hgo
   exact hgo
  refine (preb_leaf B w gc (lf ps) kv vv dv key Fn caps hB hO.rd (lf_ok hp hsz).fit rfl (ed (lf ps)) (fun u bu => hcl u ps kv vv dv bu (hO.to bu) hD hp hsz hgo') (fun b hb => by
   rcases hb with hb | hb
   ·exact (World.ownsRow.lt hO.keys b hb).2
   ·exact (World.ownsRow.lt hO.vals b hb).2) he).mono ?_
  rintro e w' ⟨kv', vv', dv', rfl, o', k'⟩
  have hne : ∀ (b : Nat) (cs : Array Value) (T : TypeId) (fr : Nat × Nat), w.heap[b]? = some (.cells cs T fr) → T ≠ 9 → w'.heap[b]? = w.heap[b]? := fun b cs T fr hb hT => by
   refine k'.keep b (lt_of_block hb) (fun e => ?_) (fun e => ?_)
   ·obtain ⟨cur, fr', q⟩ := hO.rdk.tk b e
    rw [hb] at q
    simp only [Option.some.injEq, Obj.cells.injEq] at q
    exact hT q.2.1
   ·obtain ⟨cur, fr', q⟩ := hO.rdk.tv b e
    rw [hb] at q
    simp only [Option.some.injEq, Obj.cells.injEq] at q
    exact hT q.2.1
  refine ⟨kv', vv', dv', .slice none 0 0, [], rfl, o'.rdk, ⟨(hne _ _ _ _ hh.box (by decide)).trans hh.box, World.ownsRow_nil _ _ _ _, ?_, hh.hC⟩, fun y hy => (by cases hy), rfl, ⟨fun b h1 h2 h3 => k'.keep b h1 (fun e => h3 (hL rfl b (.inl e))) (fun e => h3 (hL rfl b (.inr e))), fun b hb => (by cases hb), k'.bel, k'.size⟩⟩
  exact (k'.bel.cell hC.hg).trans hh.nxt
 | d + 1, n, lo, hi, w, kv, vv, dv, hd, hC, hh, hB, hO, hD, hL, hI, hN, hsz, hk0, hid, hgo, hcl => by
  obtain ⟨kx, P, X, S, nd, lo', hi', W⟩ := way_of hN hsz (hk0 (by omega)) key
  have hnl : n.leaf = false := by rw [hN.leaf]; simp
  have hok : NOk n := hN.ok (hk0 (by omega)) hsz
  have hsm := W.isn.small W.no
  have hX : X.2 ∈ nI l (d + 1) n := W.ids X.2 (by rw [ids_nd W.isn]; exact List.mem_cons_self ..)
  have hXs := hid X.2 hX
  obtain ⟨kk, kvv, kd, hm, oX, dX⟩ := hC.node hXs.1 W.isn
  have hshp := reb_shape (l := l) (next := next) hE d nd lo' hi' [] W.no hsm.1 hsm.2
  have hgd : good (nP l d nd) := by
   rw [W.prs] at hgo
   exact hG _ _ _ W.lt W.gt hgo
  refine preb_step B gc g bm k next l m d n kv vv dv key Fn caps ed w kx P X S nd lo' hi' kk kvv kd hC hh hB hgc hnx (by omega) hO.rdk (hI hnl) hok hnl (keys_few hok hnl) W hm (wf_small hXs.2) ?_ ?_ hshp
  ·intro i b hb hbi
   obtain ⟨e0, b0, hd0, _⟩ := sh_bare hshp hb
   obtain ⟨hkid, sb, lo2, hi2, sis, sno⟩ := W.sib i b hbi
   have hsl : sb.leaf = false := by rw [sno.leaf, hd0]; simp
   have hbm : b.2 ∈ nI l (d + 1) n := by
    rw [(no_brs hN).2.2.2.2, W.brs]
    exact List.mem_flatMap.2 ⟨b, List.mem_of_getElem? hbi, by rw [ids_nd sis]; exact List.mem_cons_self ..⟩
   have hbs := hid b.2 hbm
   obtain ⟨sk, sv, sd, sm, so, sdj⟩ := hC.node hbs.1 sis
   exact ⟨sb, sk, sv, sd, sis, hsl, sm, wf_small hbs.2, so.rdk, fun q hq => hC.inner sm hsl hq⟩
  ·intro u bu
   refine preb_any hE hgc hnx hG he d nd lo' hi' u kk kvv kd (by omega) (hC.to bu) (hh.to bu) (Nat.le_trans hB bu.size) (oX.to bu) dX (fun hl => LfB.of hm hl) (fun hl b hb => hC.inner hm hl hb) W.no hsm.1 hsm.2 (fun i hi9 => hid i (W.ids i (by rw [ids_nd W.isn]; exact List.mem_cons_of_mem _ hi9))) hgd (hcl.to bu)
end Go.Proofs.Ytmmjdacjcipgjaa

namespace Go.Proofs.Ytmmjdacjcipgjaa
open Go.RowKit
def RoR (B gc g : Nat) (next : Int) (av : Value) (ns : List NV) (top : Nd) (w w' : World) (e : Ending) : Prop := ∃ av' more, e = .returned (.int .i64 (rootOf next (ns.map (·.1)) top).1) ∧ ChI B w' gc g next av' (ns ++ more) ∧ AllK w' (ns ++ more) ∧ (ns ++ more).map (·.1) = (rootOf next (ns.map (·.1)) top).2 ∧ KCh B gc av av' w w'
theorem now_own {C : Nat} {w : World} {u : Value} {now : List Br} (h : NowV C w u now) (hl : now.length ≤ 1000) : OwnBr C w u now := by
 rcases h with ⟨rfl, rfl⟩ | ⟨gn, rfl, h1, h2, h3⟩
 ·exact World.ownsRow_nil _ _ _ _
 ·exact ⟨bcl_len now, .inr ⟨gn, now.length, (bcl now).toArray, rfl, h3, h2, Nat.le_refl _, by unfold maxLen; omega, by simp [bcl_len], by simp [← bcl_len now]⟩⟩
theorem root_bare {next : Int} {ad : List Nd} {top : Nd} (h : bareB top = true) : rootOf next ad top = (top.kids.headD 0, ad) := by unfold rootOf; rw [if_pos h]
theorem root_nil {next : Int} {ad : List Nd} {top : Nd} (h : bareB top = false) (h1 : (laidOf next ad top []).1 = []) : rootOf next ad top = (0, (laidOf next ad top []).2) := by unfold rootOf; rw [if_neg (by rw [h]; simp), h1]
theorem root_one {next : Int} {ad : List Nd} {top : Nd} {b : Br} (h : bareB top = false) (h1 : (laidOf next ad top []).1 = [b]) : rootOf next ad top = (b.2, (laidOf next ad top []).2) := by unfold rootOf; rw [if_neg (by rw [h]; simp), h1]
theorem root_two {next : Int} {ad : List Nd} {top : Nd} {b c : Br} (h : bareB top = false) (h1 : (laidOf next ad top []).1 = [b, c]) : rootOf next ad top = (next + ((laidOf next ad top []).2.length : Int), (laidOf next ad top []).2 ++ [inr [b, c]]) := by unfold rootOf; rw [if_neg (by rw [h]; simp), h1]
theorem ret_i8 {a b : Int} (h : a = b) : Ending.returned (.int .i64 a) = Ending.returned (.int .i64 b) := by rw [h]
set_option maxRecDepth 100000 in
set_option maxHeartbeats 8000000 in
theorem proot_gen (B : Nat) (w : World) (gc g : Nat) (next : Int) (av : Value) (ns : List NV) (top : Nd) (kv vv dv : Value) (d : Nat) (h : ChI B w gc g next av ns) (hA : AllK w ns) (hB : B ≤ w.heap.size) (hg : ∀ b, av.ownBlock = some b → b ≠ g) (hgc : gc ≠ g) (hns : ns.length ≤ 800) (hnx : 0 ≤ next ∧ next ≤ 65536) (hr : RdK w kv vv dv top) (hs : ShN d top) :
  Calls Try.prog 54 #[.pointer (some ⟨gc, 0, none⟩), nv top kv vv dv] w fun e w' => RoR B gc g next av ns top w w' e := by
 obtain ⟨ka, kc, va, vc, da, dc, rfl, rfl, rfl⟩ := hr.rd.slices
 obtain ⟨W, hW, DW, bW, sW⟩ := boxedN w #[.bool top.leaf, .slice ka top.keys.length kc, .slice va top.vals.length vc, .slice da top.kids.length dc] 79
 obtain ⟨⟨E0, E1, E2, E3⟩, EF⟩ := cells4 DW
 have KB := hide (pbare_any W top _ (.slice va top.vals.length vc) (.slice da top.kids.length dc) (hr.rd.to bW).keys ⟨rfl, rfl⟩)
 have HW := hide (h.to bW)
 have HA := hide (hA.to bW)
 have HK := hide (KCh.of (gc := gc) (av := av) bW hB)
 have HD := hide DW
 have HR := hide (hr.to bW)
 have hBW : Hid (B ≤ W.heap.size) := Nat.le_trans hB bW.size
 replace hg := hide hg
 replace hgc := hide hgc
 replace hs := hide hs
 dsimp only [nv] at KB ⊢
 rw [hW] at E0 E1 E2 E3 EF KB
 clear DW bW h hr hB hA
 go_enter Try.func54, Try.ntmps54
 go_wp2_with fail
 refine KB.out.mono ?_
 rintro e w1 ⟨rfl, b1⟩
 rw [← hW] at b1
 clear E0 E1 E2 E3 EF KB
 replace hW := hide hW
 have H1 := hide (HW.out.to b1)
 have A1 := hide (HA.out.to b1)
 have R1 := hide (HR.out.to b1)
 have K1 := hide (HK.out.trans (KCh.of (gc := gc) (av := av) b1 hBW.out))
 have D1 := (b1.block _ (lt_of_block HD.out)).trans HD.out
 have hB1 : Hid (B ≤ w1.heap.size) := Nat.le_trans hBW.out b1.size
 have hbb : Hid ((!top.leaf && decide (top.keys.length = 0)) = bareB top) := rfl
 rw [hbb.out]
 cases hb : bareB top with
 | true =>
  obtain ⟨e0, b0, hx3, hx1, hx4, hx2, hx5⟩ := sh_bare hs.out hb
  clear hx3 hx4 hx5
  have hk0 : top.kids[0]? = some b0 := by
   cases hkk : top.kids with
   | nil => rw [hkk] at hx2; simp at hx2
   | cons a r => rw [hkk] at hx1; simp at hx1; simp [hx1]
  obtain ⟨db, dO, e4, hcd⟩ := (show RdI w1 (.slice da top.kids.length dc) top.kids from R1.out.rd.kids).intAt hk0
  subst e4
  rw [Nat.add_zero] at hcd
  have hkl : 0 < top.kids.length := by omega
  have hro : Hid (rootOf next (ns.map (·.1)) top = (b0, ns.map (·.1))) := by
   show _ = _
   rw [root_bare hb, hx1]
  obtain ⟨⟨E0, E1, E2, E3⟩, EF⟩ := cells4 D1
  generalize top.kids.length = KL at *
  replace hb := hide hb
  replace hk0 := hide hk0
  replace hx1 := hide hx1
  replace hx2 := hide hx2
  clear D1 b1
  go_wp2
  go_ret
  exact ⟨av, [], ret_i8 (congrArg Prod.fst hro.out).symm, by rw [List.append_nil]; exact H1.out, by rw [List.append_nil]; exact A1.out, by rw [List.append_nil, hro.out], K1.out⟩
 | false =>
  have KL := hide (plaid_gen B w1 gc g next av ns top _ _ _ [] H1.out A1.out hB1.out hg.out hgc.out (by omega) hnx R1.out hs.out.ok)
  have hsl := hide (laid_shape hs.out next (ns.map (·.1)) [])
  obtain ⟨⟨E0, E1, E2, E3⟩, EF⟩ := cells4 D1
  dsimp only [nv] at KL
  replace hb := hide hb
  clear D1 b1
  go_wp2_with fail
  refine KL.out.mono ?_
  rintro e w2 ⟨u, av2, more, rfl, nw, c2, al2, e2, k2, ng2⟩
  have C2 := hide (And.intro c2 (And.intro al2 (And.intro e2 (And.intro (K1.out.trans k2) ng2))))
  have hB2 : Hid (B ≤ w2.heap.size) := Nat.le_trans hB1.out k2.size
  obtain ⟨NW, hNW⟩ : ∃ x, (laidOf next (ns.map (·.1)) top []).1 = x := ⟨_, rfl⟩
  rw [hNW] at nw
  have hN2 : NW.length ≤ 2 := by rw [← hNW]; exact hsl.out.1
  clear c2 al2 e2 k2 ng2 KL E0 E1 E2 E3 EF
  rcases NW with _ | ⟨b, _ | ⟨c, r⟩⟩
  ·obtain rfl : u = .slice none 0 0 := by
    rcases nw with ⟨rfl, _⟩ | ⟨gn, _, q, _⟩
    ·rfl
    ·simp at q
   have hro := hide (root_nil hb.out hNW)
   replace hNW := hide hNW
   clear nw hN2
   go_wp2
   go_ret
   obtain ⟨c2, al2, e2, k2, ng2⟩ := C2.out
   exact ⟨av2, more, ret_i8 (congrArg Prod.fst hro.out).symm, c2, al2, by rw [e2, hro.out], k2⟩
  ·obtain ⟨gn, hu, hgn⟩ : ∃ gn, u = .slice (some ⟨gn, 0, none⟩) 1 1 ∧ w2.heap[gn]? = some (.cells #[st b.1, .int .i64 b.2] 146 (0, 0)) := by
    rcases nw with ⟨_, q⟩ | ⟨gn, q1, q2, q3, q4⟩
    ·simp at q
    ·exact ⟨gn, q1, q3⟩
   subst hu
   have q1 := cellN hgn (i := 1) rfl
   have hro := hide (root_one hb.out hNW)
   replace hNW := hide hNW
   clear nw hN2 hgn
   go_wp2
   go_ret
   obtain ⟨c2, al2, e2, k2, ng2⟩ := C2.out
   exact ⟨av2, more, ret_i8 (congrArg Prod.fst hro.out).symm, c2, al2, by rw [e2, hro.out], k2⟩
  ·obtain rfl : r = [] := by
    cases r with
    | nil => rfl
    | cons a r => simp at hN2
   obtain ⟨gn, hu⟩ : ∃ gn, u = .slice (some ⟨gn, 0, none⟩) 2 2 := by
    rcases nw with ⟨_, q⟩ | ⟨gn, q1, q2, q3, q4⟩
    ·simp at q
    ·exact ⟨gn, q1⟩
   have KI := hide (pinr_any _ w2 u [b, c] (now_own nw (by simp)) (by simp))
   subst hu
   have hro := hide (root_two hb.out hNW)
   replace hNW := hide hNW
   clear nw hN2
   go_wp2_with fail
   refine KI.out.mono ?_
   rintro e w3 ⟨kI, dI, rfl, oI, b3⟩
   obtain ⟨c2, al2, e2, k2, ng2⟩ := C2.out
   have hlen : (ns ++ more).length ≤ 1000 := by
    have h1 := (laid_len next (ns.map (·.1)) top []).2
    rw [← e2, List.length_map, List.length_map] at h1
    omega
   have KA := hide (padd_any B w3 gc g next av2 (ns ++ more) (inr [b, c]) kI (.slice none 0 0) dI (c2.to b3) (Nat.le_trans hB2.out b3.size) ng2 hgc.out hlen hnx ⟨(by obtain ⟨a, c, e⟩ := oI.keys.rd.slice; rw [e]; rfl), rfl, (by obtain ⟨a, c, e⟩ := oI.kids.rd.slice; rw [e]; rfl)⟩)
   have A3 := hide (al2.to b3)
   have I3 := hide oI.rdk
   have K3 := hide (k2.trans (KCh.of (gc := gc) (av := av2) b3 hB2.out))
   have C3 := hide (c2.to b3)
   obtain ⟨kia, kic, hki⟩ := oI.keys.rd.slice
   obtain ⟨dia, dic, hdi⟩ := oI.kids.rd.slice
   subst hki hdi
   obtain ⟨MI, hMI⟩ : ∃ M, M = inr [b, c] := ⟨_, rfl⟩
   have hMl : MI.leaf = false := by rw [hMI]; rfl
   rw [← hMI] at KA I3 hro ⊢
   dsimp only [nv] at KA ⊢
   rw [hMl] at KA ⊢
   have hlen2 : Hid ((laidOf next (ns.map (·.1)) top []).2.length = (ns ++ more).length) := by
    show _ = _
    rw [← e2, List.length_map]
   obtain ⟨LL, hLL⟩ : ∃ x, x = (ns ++ more).length := ⟨_, rfl⟩
   rw [← hLL] at KA hlen2
   replace hMI := hide hMI
   replace hMl := hide hMl
   replace hLL := hide hLL
   clear c2 al2 e2 k2 ng2 oI b3 KI
   go_wp2_with fail
   refine KA.out.mono ?_
   rintro e w4 ⟨av4, rfl, c4, k4⟩
   have kt : ∀ e, e ≠ 117 → e ≠ 79 → KeepT e w3 w4 := fun e h1 h2 => k4.keepT C3.out h1 h2
   have A4 := hide ((A3.out.keepT (kt _ (by decide) (by decide)) (kt _ (by decide) (by decide))).snoc (y := (MI, .slice kia MI.keys.length kic, .slice none 0 0, .slice dia MI.kids.length dic)) (I3.out.keepT (kt _ (by decide) (by decide)) (kt _ (by decide) (by decide))))
   have C4 := hide (And.intro c4 (K3.out.trans k4))
   clear c4 k4 kt KA
   obtain ⟨z, hz⟩ : ∃ z : Int, z = next + (LL : Int) := ⟨_, rfl⟩
   rw [← hz]
   replace hz := hide hz
   go_wp2
   go_ret
   refine ⟨av4, more ++ [(MI, .slice kia MI.keys.length kic, .slice none 0 0, .slice dia MI.kids.length dic)], ?_, by rw [← List.append_assoc]; exact C4.out.1, by rw [← List.append_assoc]; exact A4.out, ?_, C4.out.2⟩
   ·refine ret_i8 ?_
    rw [hro.out, hlen2.out, hz.out]
   ·obtain ⟨c2, al2, e2, k2, ng2⟩ := C2.out
    rw [hro.out, ← List.append_assoc, List.map_append, e2]
    rfl
end Go.Proofs.Ytmmjdacjcipgjaa

namespace Go.Proofs.Ytmmjdacjcipgjaa
open Go.RowKit
def TopV (root : Int) (m : Int → Option Value) (nd : Nd) (kv vv dv : Value) : Prop := (kv.ownBlock = none ∧ vv.ownBlock = none ∧ dv.ownBlock = none) ∨ m root = some (nv nd kv vv dv)
set_option maxRecDepth 100000 in
set_option maxHeartbeats 2000000 in
theorem ptop_at (w0 w : World) (B g bm : Nat) (t : Tr) (pv : Value) (s : Sw) (m : Int → Option Value) (H : PWk w0 w B g bm t pv s m) (hroot : (Lit.int .i64 t.root).wf = true) (ht : twalk t = some s) :
  Calls Try.prog 31 #[.pointer (some ⟨g, 0, none⟩)] w fun e w' => ∃ nd kv vv dv, e = .returned (nv nd kv vv dv) ∧ TopIs t nd ∧ OwnN B w' kv vv dv nd ∧ Below w.heap.size w w' ∧ Dj kv vv dv ∧ TopV t.root m nd kv vv dv := by
 obtain ⟨root, next, ps⟩ := t
 obtain ⟨W, hW, DW, bW, sW⟩ := boxedN w #[.bool false, .slice none 0 0, .slice none 0 0, .slice none 0 0] 79
 have HW := H.to bW
 obtain ⟨⟨C0, C1, C2, C3⟩, ⟨C4, C5⟩, CF⟩ := HW.cell
 obtain ⟨⟨E0, E1, E2, E3⟩, EF⟩ := cells4 DW
 dsimp only at C0 C1 C2 C3 C4 C5 hroot
 have HB := hide bW
 have HD := hide DW
 have HC := hide (And.intro HW.cell (cells4 DW))
 rw [hW] at C0 C1 C2 C3 C4 C5 CF E0 E1 E2 E3 EF
 by_cases r0 : root = 0
 ·have q : (root == 0) = true := by simp [r0]
  have hT : Hid (TopIs ⟨root, next, ps⟩ nd0) := .inl ⟨r0, rfl⟩
  replace r0 := hide r0
  clear DW bW
  go_enter Try.func31, Try.ntmps31
  go_wp2
  refine retN rfl rfl w.heap.size rfl _ _ _ (heap_alloc_last w _) _ Try.underlying79 rfl info_nd10 ?_
  exact ⟨nd0, _, _, _, rfl, hT.out, OwnN.nil _ _ _, (Below.refl _ _).alloc (Nat.le_refl _) _, Dj.nil, .inl ⟨rfl, rfl, rfl⟩⟩
 ·have q : (root == 0) = false := by simp [r0]
  obtain ⟨h1, _⟩ := root_seen ht r0
  obtain ⟨v, hv, x, nd, kv, vv, dv, n1, n2, rfl, n4, n5⟩ := HW.node h1.1
  replace n5 := hide n5
  have hTV : Hid (TopV root m nd kv vv dv) := .inr hv
  have bD : Below W.heap.size W W.drew := below_drewN' W 1 _
  have HD2 := HW.to bD
  have hlk1 := HW.map.look Try.underlying88 (zeroNd W) hroot false
  have hlk2 := HD2.map.look Try.underlying88 (zeroNd W.drew) hroot false
  rw [hv] at hlk1 hlk2
  simp only [Option.getD_some, Bool.false_eq_true, if_false] at hlk1 hlk2
  have hT : Hid (TopIs ⟨root, next, ps⟩ nd) := .inr ⟨r0, x, n1, n2⟩
  obtain ⟨ka, kc, va, vc, da, dc, rfl, rfl, rfl⟩ := n4.rd.slices
  dsimp only [nv] at hlk1 hlk2
  have HN4 := hide n4
  replace r0 := hide r0
  have HD0 := hide DW
  clear HD DW bW
  go_enter Try.func31, Try.ntmps31
  go_upto_region 3 with fail
  rw [← hW]
  clear C0 C1 C2 C3 C4 C5 CF E0 E1 E2 E3 EF
  obtain ⟨⟨⟨C0, C1, C2, C3⟩, ⟨C4, C5⟩, CF⟩, ⟨E0, E1, E2, E3⟩, EF⟩ := HC.out
  dsimp only at C0 C1 C2 C3 C4 C5
  replace hW := hide hW
  go_region
  go_wp2
  refine retN rfl rfl w.heap.size rfl _ _ (0, 0) (drewHeap (heap_set4 HD0.out _ _ _ _)) _ Try.underlying79 rfl info_nd10 ?_
  refine ⟨nd, _, _, _, rfl, hT.out, ?_, ?_, n5.out, hTV.out⟩
  ·have k := fun e he => s4_keep (w := W) HD0.out (.bool nd.leaf) (.slice ka nd.keys.length kc) (.slice va nd.vals.length vc) (.slice da nd.kids.length dc) (e := e) he
   exact OwnN.to (HN4.out.keepT (k _ (by decide)) (k _ (by decide)) : OwnN B (S4 w.heap.size W _ _ _ _) _ _ _ nd) (below_drewN' _ 1 _)
  ·exact (below_set4n HB.out (Nat.le_refl _) _ _ _ _).trans (below_drewN' _ 1 _)
theorem TopIs.of {t : Tr} {nd : Nd} (h : TopIs t nd) : topOf t = nd := by
 unfold topOf
 rcases h with ⟨h0, rfl⟩ | ⟨h0, x, h1, h2⟩
 ·rw [if_pos h0]; rfl
 ·rw [if_neg h0]; exact (show NdIs t.pages t.root nd from ⟨x, h1, h2⟩).at
theorem ttop_seen {t : Tr} {s : Sw} (h : twalk t = some s) : ∃ d, TTop t d s.prs ∧ ∀ i ∈ nI t.pages d (topOf t), i ∈ s.seen := by
 unfold twalk at h
 split at h
 ·rename_i h0
  have : s = ⟨[], none, []⟩ := (Option.some.inj h).symm
  subst this
  exact ⟨0, .inl ⟨h0, rfl, rfl⟩, fun i hi => by cases hi⟩
 ·rename_i h0
  obtain ⟨e, d, h1, h2, h3, h4, h5, h6, h7, h8⟩ := wk_tok 16 t.root [] none _ s h
  refine ⟨d, .inr ⟨h0, by omega, h4, h6, by simpa using h8⟩, fun i hi => ?_⟩
  obtain ⟨nd, hN, q1, q2, q3⟩ := tok_no h4
  have ht : topOf t = nd := by unfold topOf; rw [if_neg h0]; exact hN.at
  rw [ht] at hi
  rw [h5, q2]
  simp [hi]
theorem PWk.cw {w0 w : World} {B g bm : Nat} {t : Tr} {pv : Value} {s : Sw} {m : Int → Option Value} (h : PWk w0 w B g bm t pv s m) : CW w B g bm s.seen.length t.pages m := ⟨h.cell.1.2.2.2, h.map, h.nds, h.apt, h.hg.2, h.hm.2⟩
theorem put_cl {B : Nat} {w : World} {key val : Str} {gk gl : Nat} (hk : w.heap[gk]? = some (.cells #[st key] 9 (0, 0))) (hgk : gk < B) (hv : w.heap[gl]? = some (.cells #[st val] 9 (0, 0))) (hgl : gl < B) (hB : B ≤ w.heap.size) :
  EdCl B w 37 #[.pointer (some ⟨gl, 0, none⟩), .pointer (some ⟨gk, 0, none⟩)] key (edPut key val) (fun _ => True) := by
 intro u ps kv vv dv bu o dj hp hs _
 have hk' := (bu.block _ (lt_of_block hk)).trans hk
 have hv' := (bu.block _ (lt_of_block hv)).trans hv
 have hlen : (lf ps).keys.length ≤ 1000 := by have := (lf_ok hp hs).few; omega
 have hlv : (lf ps).vals.length = (lf ps).keys.length := by simp [lf]
 obtain ⟨A, C, f1, f2, hA, hC, hc⟩ := leaf_at hp hs key
 rcases hc with ⟨h1, v, h2⟩ | ⟨h1, h2⟩
 ·have hi : A.length < (lf ps).keys.length := by rw [h2]; simp [lf]
  have e : edPut key val (lf ps) = ⟨(lf ps).leaf, (lf ps).keys, (lf ps).vals.set A.length val, (lf ps).kids⟩ := by unfold edPut; rw [if_pos h1, f1]
  rw [e, f2, h1]
  refine Calls.mono (pputcl_set B u (lf ps) kv vv dv key val A.length gk gl o dj (Nat.le_trans hB bu.size) hlen hlv hi hv' hgl) ?_
  rintro e9 u' ⟨kv', vv', r1, r2, r3⟩
  exact ⟨kv', vv', dv, r1, r2, r3⟩
 ·have hi : A.length ≤ (lf ps).keys.length := by rw [h2]; simp [lf]
  have e : edPut key val (lf ps) = ⟨(lf ps).leaf, (lf ps).keys.take A.length ++ key :: (lf ps).keys.drop A.length, (lf ps).vals.take A.length ++ val :: (lf ps).vals.drop A.length, (lf ps).kids⟩ := by unfold edPut; rw [if_neg (by rw [h1]; simp), f1]
  rw [e, f2, h1]
  refine Calls.mono (pputcl_ins B u (lf ps) kv vv dv key val A.length gk gl o dj (Nat.le_trans hB bu.size) hlen hlv hi hk' hgk hv' hgl) ?_
  rintro e9 u' ⟨kv', vv', r1, r2, r3⟩
  exact ⟨kv', vv', dv, r1, r2, r3⟩
def KIn (key : Str) (ps : List Pr) : Prop := ∃ v, (key, v) ∈ ps
theorem kin_mid {key : Str} (A X C : List Pr) (hA : ∀ y ∈ A, slt y.1 key = true) (hC : ∀ y ∈ C, slt key y.1 = true) (h : KIn key (A ++ X ++ C)) : KIn key X := by
 obtain ⟨v, hv⟩ := h
 rw [List.mem_append, List.mem_append] at hv
 rcases hv with (hv | hv) | hv
 ·have := hA _ hv; rw [slt_irr] at this; cases this
 ·exact ⟨v, hv⟩
 ·have := hC _ hv; rw [slt_irr] at this; cases this
theorem del_cl {B : Nat} {w : World} {key : Str} (hB : B ≤ w.heap.size) : EdCl B w 40 #[] key (edDel key) (KIn key) := by
 intro u ps kv vv dv bu o dj hp hs hg
 have hlen : (lf ps).keys.length ≤ 1000 := by have := (lf_ok hp hs).few; omega
 have hlv : (lf ps).vals.length = (lf ps).keys.length := by simp [lf]
 obtain ⟨A, C, f1, f2, hA, hC, hc⟩ := leaf_at hp hs key
 rcases hc with ⟨h1, v, h2⟩ | ⟨h1, h2⟩
 ·have hi : A.length < (lf ps).keys.length := by rw [h2]; simp [lf]
  have e : edDel key (lf ps) = ⟨(lf ps).leaf, (lf ps).keys.take A.length ++ (lf ps).keys.drop (A.length + 1), (lf ps).vals.take A.length ++ (lf ps).vals.drop (A.length + 1), (lf ps).kids⟩ := by unfold edDel; rw [if_pos h1, f1]
  rw [e, f2, h1]
  refine Calls.mono (pdelcl_any B u (lf ps) kv vv dv A.length true o dj (Nat.le_trans hB bu.size) hlen hlv hi) ?_
  rintro e9 u' ⟨kv', vv', r1, r2, r3⟩
  exact ⟨kv', vv', dv, r1, r2, r3⟩
 ·exfalso
  obtain ⟨v, hv⟩ := hg
  rw [h2, List.mem_append] at hv
  rcases hv with hv | hv
  ·have := hA _ hv; rw [slt_irr] at this; cases this
  ·have := hC _ hv; rw [slt_irr] at this; cases this
end Go.Proofs.Ytmmjdacjcipgjaa

namespace Go.Proofs.Ytmmjdacjcipgjaa
open Go.RowKit
theorem pgs_at : ∀ {z : Int} {ad : List Nd} {i : Nat} {n : Nd}, ad[i]? = some n → (pgs z ad)[i]? = some (z + (i : Int), nenc n)
 | z, [], i, n, h => by cases h
 | z, x :: r, 0, n, h => by
  simp only [List.getElem?_cons_zero, Option.some.injEq] at h
  subst h
  simp [pgs]
 | z, x :: r, i + 1, n, h => by
  have := pgs_at (z := z + 1) (ad := r) (i := i) (n := n) (by simpa using h)
  simp only [pgs, List.getElem?_cons_succ, this, Option.some.injEq, Prod.mk.injEq, and_true]
  push_cast
  omega
theorem pgs_next {z : Int} {ad : List Nd} {i : Nat} {n : Nd} (h : ad[i]? = some n) : (pgs z ad).take (i + 1) = (pgs z ad).take i ++ [(z + (i : Int), nenc n)] := by
 rw [List.take_add_one, pgs_at h]; rfl
theorem OwnNs.slice {B : Nat} {w : World} {v : Value} {ns : List NV} (h : OwnNs B w v ns) : ∃ a c, v = .slice a ns.length c := by
 rcases h.2 with ⟨rfl, e⟩ | ⟨g, cap, cur, rfl, _⟩
 ·exact ⟨none, 0, by rw [e]⟩
 ·exact ⟨_, _, rfl⟩
theorem OwnNs.at {B : Nat} {w : World} {a : Option Addr} {L c : Nat} {ns : List NV} (h : OwnNs B w (.slice a L c) ns) {i : Nat} {y : NV} (hy : ns[i]? = some y) : ∃ g, a = some ⟨g, 0, none⟩ ∧ B ≤ g ∧ w.cell? ⟨g, i * 4, none⟩ = some (.bool y.1.leaf) ∧ w.cell? ⟨g, i * 4 + 1, none⟩ = some y.2.1 ∧ w.cell? ⟨g, i * 4 + 2, none⟩ = some y.2.2.1 ∧ w.cell? ⟨g, i * 4 + 3, none⟩ = some y.2.2.2 := by
 have hi := (List.getElem?_eq_some_iff.1 hy).1
 obtain ⟨g, cap, cur, e, hB, hg, hk, hm, hs, ht⟩ := own_block h (by omega)
 obtain ⟨c1, c2, c3, c4⟩ := ncl_at ns i y hy
 have hcell : ∀ j, j < ns.length * 4 → w.cell? ⟨g, j, none⟩ = (ncl ns)[j]? := fun j hj => by
  rw [← ht, List.getElem?_take, if_pos hj]
  simp [World.cell?, hg]
 simp only [Value.slice.injEq] at e
 exact ⟨g, e.1, hB, by rw [hcell _ (by omega), c1], by rw [hcell _ (by omega), c2], by rw [hcell _ (by omega), c3], by rw [hcell _ (by omega), c4]⟩
def ChgE (w0 w' : World) (t : Tr) (key : Str) (ed : Nd → Nd) (d : Nat) (e : Ending) : Prop :=
 (∃ pv', t.next + ((chgR t key ed d).2.length : Int) ≤ 65536 ∧ e = .returned (.tuple #[tv (chgT t key ed d) pv', .int .i64 0]) ∧ OwnPg w0.heap.size w' pv' (chgT t key ed d).pages ∧ Below w0.heap.size w0 w') ∨
 (65536 < t.next + ((chgR t key ed d).2.length : Int) ∧ e = .returned (.tuple #[tv ⟨0, 0, []⟩ (.slice none 0 0), .int .i64 51]) ∧ Below w0.heap.size w0 w')
structure C3 (w0 w w3 : World) (B g : Nat) (t : Tr) (pv : Value) (bm : Nat) (s : Sw) (RT : Int) (AD : List Nd) (NS : List NV) (av : Value) : Prop where
 ch : ChI B w3 (w.heap.size + 1) g t.next av NS
 al : AllK w3 NS
 ad : NS.map (·.1) = AD
 dr : w3.heap[w.heap.size]? = some (.cells #[.int .i64 0, .int .i64 0, .slice none 0 0] 26 (0, 0))
 gb : w3.heap[g]? = some (.cells (pcl6 t pv bm s) 90 (0, 0))
 bel : Below w0.heap.size w0 w3
theorem C3.to {w0 w w3 w4 : World} {B g : Nat} {t : Tr} {pv : Value} {bm : Nat} {s : Sw} {RT : Int} {AD : List Nd} {NS : List NV} {av : Value} (h : C3 w0 w w3 B g t pv bm s RT AD NS av) (b : Below w3.heap.size w3 w4) : C3 w0 w w4 B g t pv bm s RT AD NS av :=
 ⟨h.ch.to b, h.al.to b, h.ad, (b.block _ (lt_of_block h.dr)).trans h.dr, (b.block _ (lt_of_block h.gb)).trans h.gb, h.bel.trans (b.mono h.bel.size)⟩
set_option maxRecDepth 100000 in
set_option maxHeartbeats 16000000 in
theorem pchanged_any (w0 w : World) (B g bm : Nat) (t : Tr) (pv : Value) (s : Sw) (m : Int → Option Value) (key : Str) (F : Nat) (caps : Array Value) (ed : Nd → Nd) (upd : List Pr → List Pr) (good : List Pr → Prop) (d : Nat) (H : PWk w0 w B g bm t pv s m) (hB : B ≤ w.heap.size) (hroot : (Lit.int .i64 t.root).wf = true) (ht : twalk t = some s) (hpn : PNum t)
  (hps : s.prs.length ≤ 4096) (hTT : TTop t d s.prs) (hseen : ∀ i ∈ nI t.pages d (topOf t), i ∈ s.seen) (hx : ∀ x ∈ t.pages, x.2.length ≤ 140737488351232) (hE : EdOk key upd ed) (hG : ∀ A X C, (∀ y ∈ A, slt y.1 key = true) → (∀ y ∈ C, slt key y.1 = true) → good (A ++ X ++ C) → good X) (hgood : good s.prs) (hcl : EdCl B w F caps key ed good)
  (he : ∀ args u, (callFunc F args).run Try.prog u = .ok (.enter F args) u) (hTN : TNum t) :
  Calls Try.prog 36 #[.pointer (some ⟨g, 0, none⟩), st key, .func (.func F) #[] caps] w fun e w' => ChgE w0 w' t key ed d e := by
 obtain ⟨W, hW, DW, bW, sW⟩ := boxedN w #[.int .i64 0, .int .i64 0, .slice none 0 0] 26
 obtain ⟨X, hX, DX, bX, sX⟩ := boxedN W #[.pointer (some ⟨g, 0, none⟩), .slice none 0 0] 117
 have bWX := bW.trans (bX.mono bW.size)
 have PX := H.to bWX
 have KT := hide (ptop_at w0 X B g bm t pv s m PX hroot ht)
 have D1 := (bX.block _ (lt_of_block DW)).trans DW
 rw [sW] at DX
 have HX := hide (And.intro bWX (And.intro PX (And.intro D1 DX)))
 rw [hX, hW] at KT
 have HNL : Hid (∀ b, w.heap.size ≤ b → ¬ LfB m b) := fun b hb hL => by have := (H.cw.leaf hL).2; omega
 have HBL : Hid (∀ b, b < B → ¬ LfB m b) := fun b hb hL => by have := (H.cw.leaf hL).1; omega
 replace H := hide H
 replace hcl := hide hcl
 replace hE := hide hE
 replace hG := hide hG
 replace hgood := hide hgood
 replace hTT := hide hTT
 replace hseen := hide hseen
 replace ht := hide ht
 replace hpn := hide hpn
 replace hTN := hide hTN
 replace hx := hide hx
 clear D1 DX bWX PX DW bW bX
 go_enter Try.func36, Try.ntmps36
 go_wp2_with fail
 refine KT.out.mono ?_
 rintro e w1 ⟨nd9, kv, vv, dv, rfl, hT9, ho, b1, hdj, htv⟩
 rw [← hW, ← hX] at b1
 obtain ⟨bWX, PX, D1, DX⟩ := HX.out
 have P1 := PX.to b1
 have hnb : Hid (w.heap.size ≤ w1.heap.size) := Nat.le_trans bWX.size b1.size
 have hB1 : B ≤ w1.heap.size := Nat.le_trans hB hnb.out
 have bw1 := bWX.trans (b1.mono bWX.size)
 have D2 := (b1.block _ (lt_of_block D1)).trans D1
 have C2 := (b1.block _ (lt_of_block DX)).trans DX
 have Ch1 : ChI B w1 (w.heap.size + 1) g t.next (.slice none 0 0) [] := ⟨C2, World.ownsRow_nil _ _ _ _, cellN P1.box rfl, by omega⟩
 have hgg : w.heap.size + 1 ≠ g := by have := P1.hg.2; omega
 have hto := hT9.of
 obtain ⟨q1, q2, q3, q4, q5⟩ := top_no hTT.out
 have hsn := hseen.out
 rw [hto] at q1 q2 q3 q4 q5 hsn
 have hdd := ttop_deep hTT.out hps
 have hnx : 0 ≤ t.next ∧ t.next ≤ 65536 := ⟨by have := hpn.out.1; omega, hpn.out.2.1⟩
 have KR := hide (preb_any (next := t.next) hE.out hgg hnx hG.out he d nd9 [] none w1 kv vv dv (by omega) P1.cw Ch1 hB1 ho hdj (fun hl b hb => by
   rcases htv with ⟨z1, z2, z3⟩ | htv
   ·rcases hb with hb | hb
    ·rw [z1] at hb; cases hb
    ·rw [z2] at hb; cases hb
   ·exact LfB.of htv hl b hb) (fun hl b hb => by
   rcases htv with ⟨z1, z2, z3⟩ | htv
   ·rcases row_nv hb with hb | hb | hb
    ·rw [z1] at hb; cases hb
    ·rw [z2] at hb; cases hb
    ·rw [z3] at hb; cases hb
   ·exact P1.cw.inner htv hl hb) q1 q2 q3 (fun i hi => by
   have h1 := hsn i hi
   have h2 := P1.ok.2.1 i h1
   exact ⟨by rw [P1.has]; exact decide_eq_true h1, h2.1, by omega⟩) (by rw [q5]; exact hgood.out) (hcl.out.to bw1))
 have hsh := hide (reb_shape (l := t.pages) (next := t.next) hE.out d nd9 [] none [] q1 q2 q3)
 have hrl := hide (reb_len t.pages t.next key ed d nd9 []).2
 have hchg : Hid (chgR t key ed d = rootOf t.next (rebOf t.pages t.next key ed d nd9 []).2 (rebOf t.pages t.next key ed d nd9 []).1) := by show _ = _; unfold chgR; rw [hto]
 unfold RbR at KR
 obtain ⟨MM, hMM⟩ : ∃ M, M = (rebOf t.pages t.next key ed d nd9 []).1 := ⟨_, rfl⟩
 obtain ⟨AD, hAD⟩ : ∃ A, A = (rebOf t.pages t.next key ed d nd9 []).2 := ⟨_, rfl⟩
 rw [← hMM, ← hAD] at KR hchg
 rw [← hMM] at hsh
 rw [← hAD] at hrl
 have H1 := hide (And.intro P1 (And.intro D2 C2))
 obtain ⟨ka, kc, va, vc, da, dc, rfl, rfl, rfl⟩ := ho.rd.slices
 dsimp only [nv] at KR
 replace hX := hide hX
 replace hW := hide hW
 replace hMM := hide hMM
 replace hAD := hide hAD
 replace hto := hide hto
 replace htv := hide htv
 clear KT ho b1 hT9 bWX PX D1 DX P1 D2 C2 bw1 HX Ch1 q1 q2 q3 q4 q5 hsn
 go_wp2_with fail
 refine KR.out.mono ?_
 rintro e w2 ⟨kv', vv', dv', av2, ns2, rfl, r2, c2, al2, e2, k2⟩
 obtain ⟨P1, D1, C1⟩ := H1.out
 have hB2 : B ≤ w2.heap.size := Nat.le_trans hB1 k2.size
 have hgB : Hid (w0.heap.size ≤ g ∧ g < B) := P1.hg
 have hws : Hid (w.heap.size < w1.heap.size) := lt_of_block D1
 have D2 := (k2.keep _ (lt_of_block D1) (by omega) (HNL.out _ (Nat.le_refl _))).trans D1
 have G2 := (k2.keep _ (lt_of_block P1.box) (Ne.symm hgg) (HBL.out _ hgB.out.2)).trans P1.box
 have hlen2 : ns2.length ≤ 800 := by
  have h1 := hrl.out
  rw [← e2, List.length_map] at h1
  simp at h1
  omega
 have hav2 : Hid (∀ b, av2.ownBlock = some b → w1.heap.size ≤ b) := k2.row
 have KO := hide (proot_gen B w2 (w.heap.size + 1) g t.next av2 ns2 MM kv' vv' dv' d c2 al2 hB2 (fun b hb => by have := k2.row b hb; have := hgB.out; omega) hgg hlen2 hnx r2 hsh.out)
 unfold RoR at KO
 rw [e2, ← hchg.out] at KO
 have bel2 : Below w0.heap.size w0 w2 := P1.bel.trans (k2.bel.mono (by have := hgB.out; omega))
 have H2 := hide (And.intro D2 (And.intro G2 bel2))
 have hw0B : Hid (w0.heap.size ≤ B) := by have := hgB.out; show _ ≤ _; omega
 obtain ⟨ka', kc', va', vc', da', dc', rfl, rfl, rfl⟩ := r2.rd.slices
 dsimp only [nv] at KO
 replace e2 := hide e2
 clear r2 c2 al2 k2 P1 D1 C1 D2 G2 KR H1 bel2
 dsimp only [nv]
 go_wp2_with fail
 refine KO.out.mono ?_
 rintro e w3 ⟨av3, more, rfl, c3, al3, e3, k3⟩
 obtain ⟨NS, hNS⟩ : ∃ x, x = ns2 ++ more := ⟨_, rfl⟩
 rw [← hNS] at c3 al3 e3
 obtain ⟨RT, hRT⟩ : ∃ r, r = (chgR t key ed d).1 := ⟨_, rfl⟩
 obtain ⟨A3, hA3⟩ : ∃ r, r = (chgR t key ed d).2 := ⟨_, rfl⟩
 rw [← hRT]
 rw [← hA3] at e3
 have CC : C3 w0 w w3 B g t pv bm s RT A3 NS av3 := by
  obtain ⟨D2, G2, bel2⟩ := H2.out
  refine ⟨c3, al3, e3, (k3.keep _ (lt_of_block D2) (by omega) (fun e => ?_)).trans D2, (k3.keep _ (lt_of_block G2) (Ne.symm hgg) (fun e => ?_)).trans G2, bel2.trans (k3.bel.mono hw0B.out)⟩
  ·have h1 := hav2.out _ e
   have h2 := lt_of_block D2
   have h3 := hws.out
   omega
  ·have h1 := hav2.out _ e
   have := hgB.out
   omega
 have bD : Below w3.heap.size w3 w3.drew := below_drewN' w3 1 _
 have C4 := hide (CC.to bD)
 have hlen : t.pages.length ≤ 65536 := by have := tups_len hpn.out.2.2 hpn.out.1; have := hpn.out.2.1; omega
 have KC := hide (pcopied_any w3.drew t pv (H.out.pg.to0 C4.out.bel) hlen hx.out)
 have hB4 : Hid (B ≤ w3.drew.heap.size) := Nat.le_trans (Nat.le_trans hB2 k3.size) bD.size
 obtain ⟨pa, pc, hpv⟩ := H.out.pg.slice
 subst hpv
 obtain ⟨a3, cap3, hav3⟩ := OwnNs.slice CC.ch.row
 obtain ⟨NL, hNL⟩ : ∃ n, n = NS.length := ⟨_, rfl⟩
 rw [← hNL] at hav3
 subst hav3
 have hAl : Hid (A3.length = NL) := by show _ = _; rw [hNL, ← CC.ad, List.length_map]
 have hNLb : NL ≤ 1000 := by
  have h1 := root_len t.next AD MM
  rw [← hchg.out, ← hA3, hAl.out] at h1
  have h2 := hrl.out
  simp at h2
  omega
 have Q0 := cellN CC.ch.box (i := 0) rfl
 have Q1 := cellN CC.ch.box (i := 1) rfl
 have Q2 := CC.ch.nxt
 have U0 := cellN C4.out.ch.box (i := 0) rfl
 have U1 := cellN C4.out.ch.box (i := 1) rfl
 have X0 := cellN C4.out.gb (i := 0) rfl
 have X1 := cellN C4.out.gb (i := 1) rfl
 have X2 := cellN C4.out.gb (i := 2) rfl
 have hwz : wrap64 (t.next + (NL : Int)) = t.next + (NL : Int) := by have := hpn.out.1; have := hpn.out.2.1; unfold wrap64; omega
 dsimp only [tv] at KC
 replace hRT := hide hRT
 replace hA3 := hide hA3
 replace hNS := hide hNS
 replace hNL := hide hNL
 clear c3 k3 al3 e3 CC bD KO H2
 go_upto_region 3 with fail
 go_region
 clear hwz Q0 Q1 Q2
 obtain ⟨V, hV⟩ : ∃ V, V = w3.drew := ⟨_, rfl⟩
 obtain ⟨NX, hNX⟩ : ∃ z, z = t.next + (NL : Int) := ⟨_, rfl⟩
 rw [← hV] at KC U0 U1 X0 X1 X2 C4 hB4 ⊢
 rw [← hNX]
 replace hNX := hide hNX
 replace hV := hide hV
 have hcl2 : Hid (t.next + ((chgR t key ed d).2.length : Int) = NX) := by show _ = _; rw [← hA3.out, hAl.out, hNX.out]
 by_cases hfit : 65536 < NX
 ·have hq : NX > 65536 := hfit
  have HDR := hide C4.out.dr
  obtain ⟨⟨J0, J1, J2⟩, JF⟩ := cells3p HDR.out
  have h0w : w0.heap.size ≤ w.heap.size := H.out.bel.size
  have BF := hide (below_set3t C4.out.bel h0w (.int .i64 0) (.int .i64 0) (.slice none 0 0))
  clear U0 U1 X0 X1 X2
  go_wp2
  (try simp only [Exit.inBlock, Exit.then])
  refine retNT rfl rfl w.heap.size rfl _ _ (0, 0) (heap_set3t HDR.out _ _ _) _ Try.underlying26 rfl info_tr _ rfl ?_
  exact .inr ⟨by rw [hcl2.out]; exact hfit, rfl, BF.out⟩
 ·have hfin : ¬ NX > 65536 := hfit
  have hoks := hide (chg_ok hTN.out hTT.out hps hE.out (by rw [hcl2.out]; omega)).1
  rw [← hA3.out] at hoks
  clear hfit
  go_wp2_with fail
  refine KC.out.mono ?_
  rintro e w5 ⟨pv5, rfl, o5, b5⟩
  obtain ⟨a5, q5, h5⟩ := o5.shape
  subst h5
  obtain ⟨Y, hY, DY, bY, sY⟩ := boxedN w5 #[.int .i64 t.root, .int .i64 t.next, .slice a5 t.pages.length q5] 26
  have bVY := b5.trans (bY.mono b5.size)
  have OY : OwnPg V.heap.size Y (.slice a5 t.pages.length q5) t.pages := o5.to9 bY
  have cY := C4.out.to bVY
  have U1' := cellN cY.ch.box (i := 1) rfl
  rw [hY] at U1'
  have hyb : Hid (V.heap.size ≤ w5.heap.size) := b5.size
  obtain ⟨PG, hPG⟩ : ∃ x, x = pgs t.next A3 := ⟨_, rfl⟩
  have CI0 : Hid (∃ pv', Y.heap[w5.heap.size]? = some (.cells #[.int .i64 t.root, .int .i64 t.next, pv'] 26 (0, 0)) ∧ OwnPg V.heap.size Y pv' (t.pages ++ PG.take 0) ∧ Below V.heap.size V Y) := ⟨_, DY, by simpa using OY, bVY⟩
  have hPl : Hid (PG.length = NL) := by show _ = _; rw [hPG, pgs_len, hAl.out]
  replace hPG := hide hPG
  clear KC o5 b5 DY bY OY cY bVY U0 U1 X0 X1 X2
  dsimp only [tv]
  go_wp2_with fail
  rw [← hY]
  clear U1'
  replace hY := hide hY
  go_loopw [46] (fun p wr => ∃ k : Nat, k ≤ NL ∧ p = .int .i64 k ∧ Hid (∃ pv', wr.heap[w5.heap.size]? = some (.cells #[.int .i64 t.root, .int .i64 t.next, pv'] 26 (0, 0)) ∧ OwnPg V.heap.size wr pv' (t.pages ++ PG.take k) ∧ Below V.heap.size V wr)) (fun p _ => NL - (intOf p).toNat)
  case atStart => exact ⟨0, Nat.zero_le _, rfl, CI0⟩
  case round =>
   obtain ⟨k, hk, rfl, hI⟩ := hrel
   clear CI0
   obtain ⟨pv6, d6, o6, b6⟩ := hI.out
   have C6 := C4.out.to b6
   by_cases hlt : k < NL
   ·have hq : ((k : Nat) : Int) < (NL : Int) := by omega
    obtain ⟨⟨nd', kv', vv', dv'⟩, hy⟩ : ∃ y, NS[k]? = some y := ⟨_, List.getElem?_eq_getElem (by rw [← hNL.out]; exact hlt)⟩
    obtain ⟨g3, hg3, hBg3, R0, R1, R2, R3⟩ := OwnNs.at C6.ch.row hy
    have hyA : A3[k]? = some nd' := by rw [← C6.ad, List.getElem?_map, hy]; rfl
    have hok : NOk nd' := hoks.out nd' (List.mem_of_getElem? hyA)
    have N6 : RdK wr kv' vv' dv' nd' := C6.al _ (List.mem_of_getElem? hy)
    subst hg3
    obtain ⟨ka', kc', va', vc', da', dc', hs1, hs2, hs3⟩ := N6.rd.slices
    subst hs1 hs2 hs3
    dsimp only at R0 R1 R2 R3
    obtain ⟨Z, hZ, DZ, bZ, sZ⟩ := boxedN wr #[.bool nd'.leaf, .slice ka' nd'.keys.length kc', .slice va' nd'.vals.length vc', .slice da' nd'.kids.length dc'] 79
    have KE := hide (penc_any Z _ _ _ nd' (N6.to bZ).rd hok.fit)
    obtain ⟨⟨E0, E1, E2, E3⟩, EF⟩ := cells4 DZ
    rw [hZ] at KE E0 E1 E2 E3 EF
    dsimp only [nv] at KE
    rw [(nout_ok hok).1, (nout_ok hok).2] at KE
    have HQ := hide (And.intro d6 (And.intro o6 (And.intro b6 (And.intro C6 bZ))))
    have hnx2 : Hid (PG.take (k + 1) = PG.take k ++ [(t.next + (k : Int), nenc nd')]) := by show _ = _; rw [hPG.out]; exact pgs_next hyA
    replace hy := hide hy
    replace hyA := hide hyA
    replace hok := hide hok
    clear d6 o6 b6 C6 bZ DZ N6 hI
    go_wp2_with fail
    refine KE.out.mono ?_
    rintro e w7 ⟨v7, rfl, o7, b7⟩
    rw [← hZ] at b7 o7
    obtain ⟨d6, o6, b6, C6, bZ⟩ := HQ.out
    have bz7 := bZ.trans (b7.mono bZ.size)
    have bD : Below w7.heap.size w7 w7.drew := below_drewN' w7 1 _
    have bb := bz7.trans (bD.mono bz7.size)
    have d7 := (bz7.block _ (lt_of_block d6)).trans d6
    have O7 : OwnPg V.heap.size w7 pv6 (t.pages ++ PG.take k) := o6.to9 bz7
    have C7 := C6.to bb
    have B7 := b6.trans (bz7.mono b6.size)
    have S7 : OwnB V.heap.size w7 v7 (nenc nd') := rows_mono o7 (Nat.le_trans b6.size bZ.size)
    obtain ⟨va7, vc7, hv7⟩ := o7.rd.slice
    subst hv7
    obtain ⟨pa6, pc6, hp6⟩ := O7.shape
    obtain ⟨PK, hPK⟩ : ∃ x, x = t.pages ++ PG.take k := ⟨_, rfl⟩
    rw [← hPK] at hp6 O7
    obtain ⟨PL, hPL⟩ : ∃ x, x = PK.length := ⟨_, rfl⟩
    have hPLb : PL ≤ 70000 := by rw [hPL, hPK, List.length_append, List.length_take]; omega
    rw [← hPL] at hp6
    subst hp6
    have Y2 := cellN (drewHeap d7) (i := 2) rfl
    have Y0 := cellN C7.ch.box (i := 0) rfl
    have Y1 := cellN C7.gb (i := 1) rfl
    obtain ⟨EL, hEL⟩ : ∃ n, n = (nenc nd').length := ⟨_, rfl⟩
    have S7' : OwnB V.heap.size w7 (.slice va7 EL vc7) (nenc nd') := by rw [hEL]; exact S7
    rw [← hEL]
    have H7 := hide (And.intro d7 (And.intro O7 (And.intro B7 S7')))
    replace hEL := hide hEL
    replace hZ := hide hZ
    replace hPK := hide hPK
    replace hPL := hide hPL
    clear d6 o6 b6 C6 bZ b7 bz7 bD bb d7 O7 C7 B7 S7 S7' o7 E0 E1 E2 E3 EF R0 R1 R2 R3 KE
    have hnz2 : IntKind.i64.wrap (t.next + (k : Int)) = t.next + (k : Int) := IntWalk.i64_in _ (by have := hpn.out.1; have := hpn.out.2.1; omega)
    go_upto_region 11 with fail
    refine wp_region_mid (fun w' => w'.cell? ⟨w5.heap.size, 2, none⟩ = some (.slice pa6 PL pc6) ∧ w'.cell? ⟨w.heap.size + 1, 0, none⟩ = some (.pointer (some ⟨g, 0, none⟩)) ∧ w'.cell? ⟨g, 1, none⟩ = some (.int .i64 t.next)) 11 13 mixed (by kernel_rfl) (fun _ _ _ _ h => h) ⟨Y2, Y0, Y1⟩ ?_
    dsimp only [List.take, List.drop]
    iterate 11
     refine take_one (v := ?_) (by rfl) ?_ ?_
     rotate_left
     ·rintro w' ⟨s1, s2, s3⟩
      go_simp
      try with_reducible rfl
     try simp only [Act.put, List.setIfInBounds_toArray, List.set_cons_zero, List.set_cons_succ]
    refine mid_one fun K hK => ?_
    rw [if_pos (by rfl)]
    go_simp
    refine hK _ _ ⟨Y2, Y0, Y1⟩ ?_
    clear hK K
    refine mid_one fun K hK => ?_
    rw [if_pos (by rfl)]
    go_simp
    refine hK _ _ ⟨cellAl Y2 _, cellAl Y0 _, cellAl Y1 _⟩ ?_
    clear hK K
    show wpList _ _ _ _ _ _
    (try simp only [hnz2])
    obtain ⟨TK, hTK⟩ : ∃ z, z = t.next + (k : Int) := ⟨_, rfl⟩
    rw [← hTK] at hnx2 ⊢
    obtain ⟨d7, O7, B7, S7⟩ := H7.out
    obtain ⟨Qa, hQa, DQa, bQa, sQ⟩ := boxedN w7 #[.int .i64 TK, .slice va7 EL vc7] 60
    obtain ⟨Q, hQ⟩ : ∃ Q, Q = (w7.alloc (.cells #[.int .i64 TK, .slice va7 EL vc7] 60)).drew := ⟨_, rfl⟩
    have bQ : Below w7.heap.size w7 Q := by rw [hQ, ← hQa]; exact bQa.trans (below_drewN' Qa 1 _)
    have DQ : Q.heap[w7.heap.size]? = some (.cells #[.int .i64 TK, .slice va7 EL vc7] 60 (0, 0)) := by rw [hQ, ← hQa]; exact drewHeap DQa
    obtain ⟨⟨Z0, Z1⟩, _⟩ := cells2r DQ
    have OZ := O7.to9 bQ
    have SZ : OwnB V.heap.size Q (.slice va7 EL vc7) (nenc nd') := rows_to S7 bQ
    have BQ := B7.trans (bQ.mono B7.size)
    have hBq : V.heap.size ≤ Q.heap.size := BQ.size
    have dQ := (bQ.block _ (lt_of_block d7)).trans d7
    have FIN : ∀ v5 w6, OwnPg V.heap.size w6 v5 (PK ++ [(TK, nenc nd')]) → Below V.heap.size Q w6 → (∀ e, e ≠ 60 → KeepT e Q w6) →
      Hid (∃ pv', (w6.setCell ⟨w5.heap.size, 2, none⟩ v5).heap[w5.heap.size]? = some (.cells #[.int .i64 t.root, .int .i64 t.next, pv'] 26 (0, 0)) ∧ OwnPg V.heap.size (w6.setCell ⟨w5.heap.size, 2, none⟩ v5) pv' (t.pages ++ PG.take (k + 1)) ∧ Below V.heap.size V (w6.setCell ⟨w5.heap.size, 2, none⟩ v5)) ∧
      w6.cell? ⟨w5.heap.size, 2, none⟩ = some (.slice pa6 PL pc6) ∧ w6.frozen? ⟨w5.heap.size, 2, none⟩ = false := fun v5 w6 o5 b5 k5 => by
     have d8 := k5 _ (by decide) _ _ _ dQ
     have d9 := heap_setN d8 2 v5
     have kk := fun e (he : e ≠ 26) => KeepT.set (a := ⟨w5.heap.size, 2, none⟩) d8 he v5
     have o9 : OwnPg V.heap.size w6 v5 (t.pages ++ PG.take (k + 1)) := by rw [hnx2.out, ← List.append_assoc, ← hPK.out]; exact o5
     exact ⟨⟨v5, by simpa using d9, o9.keepT (kk _ (by decide)) (kk _ (by decide)), (BQ.trans b5).setCell hyb.out _⟩, cellN d8 rfl, frozN d8 2⟩
    rw [hQ] at Z0 Z1 OZ SZ hBq FIN
    replace FIN := hide FIN
    have hpl : (PK.length + 1) * 32 ≤ 140737488355328 := by rw [← hPL.out]; omega
    have OZ' := hide OZ
    replace hTK := hide hTK
    clear d7 O7 B7 S7 DQ bQ hQ dQ BQ H7 Y2 Y0 Y1 hnz2 hQa DQa bQa sQ
    refine wpList_appPg rfl _ _ rfl V.heap.size (.slice pa6 PL pc6) PK (TK, nenc nd') (.slice va7 EL vc7) w7.heap.size rfl rfl OZ SZ rfl Z0 Z1 hpl hBq ?_
    intro v5 w6 o5 _ b5 k5
    obtain ⟨a9, c9, h9⟩ := o5.shape
    subst h9
    obtain ⟨F1, F2, F3⟩ := FIN.out _ w6 o5 b5 k5
    generalize (PK ++ [(TK, nenc nd')]).length = L9 at *
    clear o5 b5 k5 FIN Z0 Z1 OZ SZ hBq hpl OZ'
    go_wp2
    go_roundw
    case rel => exact ⟨k + 1, hlt, by go_num, F1⟩
    case measure => simp [intOf]; omega
   ·obtain rfl : k = NL := by omega
    have hq : ¬ ((k : Nat) : Int) < (k : Int) := by omega
    have D6 := C6.dr
    obtain ⟨pa6, pc6, hp6⟩ := o6.shape
    subst hp6
    have htk : PG.take k = PG := List.take_of_length_le (by rw [hPl.out]; exact Nat.le_refl _)
    rw [htk] at o6 d6
    obtain ⟨L9, hL9⟩ : ∃ n, n = (t.pages ++ PG).length := ⟨_, rfl⟩
    have o6' : OwnPg V.heap.size wr (.slice pa6 L9 pc6) (t.pages ++ PG) := by rw [hL9]; exact o6
    rw [← hL9] at d6
    obtain ⟨⟨E0, E1, E2⟩, EF⟩ := cells3p d6
    have hne : w5.heap.size ≠ w.heap.size := by have := hyb.out; have := lt_of_block C4.out.dr; omega
    obtain ⟨Q, hQ⟩ : ∃ Q, Q = (wr.setCell ⟨w5.heap.size, 0, none⟩ (.int .i64 RT)).setCell ⟨w5.heap.size, 1, none⟩ (.int .i64 NX) := ⟨_, rfl⟩
    have dq := heap_setN (heap_setN d6 0 (.int .i64 RT)) 1 (.int .i64 NX)
    have DQ : Q.heap[w5.heap.size]? = some (.cells #[.int .i64 RT, .int .i64 NX, .slice pa6 L9 pc6] 26 (0, 0)) := by rw [hQ]; simpa using dq
    have DR : Q.heap[w.heap.size]? = some (.cells #[.int .i64 0, .int .i64 0, .slice none 0 0] 26 (0, 0)) := by
     rw [hQ]; exact (Below.heap_setCell _ _ _ _ (Ne.symm hne)).trans ((Below.heap_setCell _ _ _ _ (Ne.symm hne)).trans D6)
    have kq : ∀ e, e ≠ 26 → KeepT e wr Q := fun e he => by
     rw [hQ]; exact (KeepT.set (a := ⟨w5.heap.size, 0, none⟩) d6 he _).trans (KeepT.set (a := ⟨w5.heap.size, 1, none⟩) (heap_setN d6 0 _) he _)
    have bq : Below w0.heap.size w0 Q := by
     rw [hQ]
     have h9 : w0.heap.size ≤ w5.heap.size := Nat.le_trans C4.out.bel.size hyb.out
     exact (C6.bel.setCell h9 _).setCell h9 _
    have ks := fun e (he : e ≠ 26) => s3_keep9 DR (.int .i64 RT) (.int .i64 NX) (.slice pa6 L9 pc6) he
    have OF := hide ((o6'.keepT (kq _ (by decide)) (kq _ (by decide))).keepT (ks _ (by decide)) (ks _ (by decide)))
    have h0w : w0.heap.size ≤ w.heap.size := H.out.bel.size
    have BF := hide (below_set3t bq h0w (.int .i64 RT) (.int .i64 NX) (.slice pa6 L9 pc6))
    obtain ⟨⟨P0, P1, P2⟩, PF⟩ := cells3p DQ
    obtain ⟨⟨J0, J1, J2⟩, JF⟩ := cells3p DR
    have HDR := hide DR
    have hVb : Hid (w0.heap.size ≤ V.heap.size) := C4.out.bel.size
    rw [hQ] at P0 P1 P2 PF J0 J1 J2 JF HDR OF BF
    replace htk := hide htk
    clear dq DQ DR kq bq ks o6 o6' d6 b6 hI D6 C6 hQ hL9
    go_wp2
    refine retNT rfl rfl w.heap.size rfl _ _ (0, 0) (heap_set3t HDR.out _ _ _) _ Try.underlying26 rfl info_tr _ rfl ?_
    have eT : chgT t key ed d = ⟨RT, NX, t.pages ++ PG⟩ := by
     unfold chgT
     rw [hcl2.out, ← hRT.out, ← hA3.out, ← hPG.out]
    refine .inl ⟨.slice pa6 L9 pc6, by rw [hcl2.out]; omega, by rw [eT]; rfl, ?_, BF.out⟩
    rw [eT]
    exact OwnX.base (OF.out) hVb.out
end Go.Proofs.Ytmmjdacjcipgjaa

namespace Go.Proofs.Ytmmjdacjcipgjaa
open Go.RowKit
structure Chg (t u : Tr) (ps' : List Pr) : Prop where
 prs : tprs u = some ps'
 nxt : t.next ≤ u.next ∧ u.next ≤ t.next + 40
 pgs : ∃ more, u.pages = t.pages ++ more ∧ more.length ≤ 40 ∧ ∀ x ∈ more, x.2.length ≤ 244
 num : TNum u
 rwf : (Lit.int .i64 u.root).wf = true
 how : u = t ∨ ∃ (key : Str) (upd : List Pr → List Pr) (ed : Nd → Nd) (d : Nat) (ps : List Pr), TTop t d ps ∧ EdOk key upd ed ∧ u = chgT t key ed d ∧ ps' = upd ps
theorem pgs_small : ∀ {z : Int} {ad : List Nd}, (∀ n ∈ ad, NOk n) → ∀ x ∈ pgs z ad, x.2.length ≤ 244
 | z, [], h, x, hx => by cases hx
 | z, n :: r, h, x, hx => by
  simp only [pgs, List.mem_cons] at hx
  rcases hx with rfl | hx
  ·have h1 := h n (List.mem_cons_self ..)
   have h2 := nenc_len h1
   have h3 := h1.2.2.2.2
   dsimp only
   omega
  ·exact pgs_small (fun n hn => h n (List.mem_cons_of_mem _ hn)) x hx
theorem chgR_len {t : Tr} {key : Str} {ed : Nd → Nd} {d : Nat} (hd : d ≤ 12) : (chgR t key ed d).2.length ≤ 27 := by
 unfold chgR
 have h1 := (reb_len t.pages t.next key ed d (topOf t) []).2
 have h2 := (root_len t.next (rebOf t.pages t.next key ed d (topOf t) []).2 (rebOf t.pages t.next key ed d (topOf t) []).1).2
 simp at h1
 omega
theorem TNum.rwf {t : Tr} (h : TNum t) : (Lit.int .i64 t.root).wf = true := by
 rcases h.2.2.2 with h0 | h0
 ·rw [h0]; rfl
 ·cases hq : tpage t.pages t.root with
  | none => exact absurd hq h0
  | some x =>
   have := tpage_bd h.2.2.1 hq
   have := h.2.1
   exact WalkArith.wf_i64 (by omega)
theorem chg_is {t : Tr} {d : Nat} {ps : List Pr} {key : Str} {upd : List Pr → List Pr} {ed : Nd → Nd} (hT : TNum t) (h : TTop t d ps) (hps : ps.length ≤ 4096) (hE : EdOk key upd ed) (hM : t.next + ((chgR t key ed d).2.length : Int) ≤ 65536) (hl : (upd ps).length ≤ 4096) : Chg t (chgT t key ed d) (upd ps) := by
 obtain ⟨a1, a2, a3, d', a4⟩ := chg_ok hT h hps hE hM
 obtain ⟨s, hs, e⟩ := ttop_to a4
 have hd := ttop_deep h hps
 have hc := chgR_len (t := t) (key := key) (ed := ed) hd
 refine ⟨?_, ?_, ⟨_, rfl, by rw [pgs_len]; omega, pgs_small a1⟩, a3, a3.rwf, .inr ⟨key, upd, ed, d, ps, h, hE, rfl, rfl⟩⟩
 ·rw [tprs_of ⟨a3.1, a3.2.1, a3.2.2.1⟩ hs (by rw [e]; exact hl), e]
 ·show t.next ≤ t.next + ((chgR t key ed d).2.length : Int) ∧ t.next + ((chgR t key ed d).2.length : Int) ≤ t.next + 40
  omega
theorem three_parts (key : Str) : ∀ ps : List Pr, (ps.filter (fun y => slt y.1 key)).length + (ps.filter (fun y => slt key y.1)).length + (ps.filter (fun y => y.1 == key)).length = ps.length
 | [] => rfl
 | y :: r => by
  have ih := three_parts key r
  rcases slt_tot y.1 key with h | h | h
  ·have h1 : slt key y.1 = false := slt_asym h
   have h2 : (y.1 == key) = false := by
    rw [beq_eq_false_iff_ne]
    intro e
    rw [e, slt_irr] at h
    cases h
   simp only [List.filter_cons, h, h1, h2, if_true, Bool.false_eq_true, if_false, List.length_cons]
   omega
  ·have h1 : slt key y.1 = false := by rw [h]; exact slt_irr _
   have h2 : slt y.1 key = false := by rw [h]; exact slt_irr _
   have h3 : (y.1 == key) = true := by rw [h]; simp
   simp only [List.filter_cons, h1, h2, h3, if_true, Bool.false_eq_true, if_false, List.length_cons]
   omega
  ·have h1 : slt y.1 key = false := slt_asym h
   have h2 : (y.1 == key) = false := by
    rw [beq_eq_false_iff_ne]
    intro e
    rw [e, slt_irr] at h
    cases h
   simp only [List.filter_cons, h, h1, h2, if_true, Bool.false_eq_true, if_false, List.length_cons]
   omega
theorem pins_len (key v : Str) (ps : List Pr) : (pins key v ps).length + (ps.filter (fun y => y.1 == key)).length = ps.length + 1 := by
 have h := three_parts key ps
 have e : (pins key v ps).length = (ps.filter (fun y => slt y.1 key)).length + ((ps.filter (fun y => slt key y.1)).length + 1) := by
  unfold pins
  rw [List.length_append, List.length_cons]
 rw [e]
 omega
theorem phas_len {key : Str} {ps : List Pr} (h : phas ps key = true) : 1 ≤ (ps.filter (fun y => y.1 == key)).length := by
 unfold phas at h
 obtain ⟨y, hy, e⟩ := List.any_eq_true.1 h
 exact List.length_pos_of_mem (List.mem_filter.2 ⟨hy, e⟩)
theorem pget_phas (ps : List Pr) (key : Str) : (pget ps key).isSome = phas ps key := by
 unfold pget phas
 rw [Option.isSome_map]
 induction ps with
 | nil => rfl
 | cons y r ih =>
  rw [List.find?_cons, List.any_cons]
  cases h : (y.1 == key) with
  | true => simp
  | false => simp [ih]
theorem phas_kin {key : Str} {ps : List Pr} (h : phas ps key = true) : KIn key ps := by
 unfold phas at h
 obtain ⟨y, hy, e⟩ := List.any_eq_true.1 h
 have e' : y.1 = key := by simpa using e
 exact ⟨y.2, by rw [← e']; exact hy⟩
theorem pdel_none {key : Str} {ps : List Pr} (h : phas ps key = false) : pdel key ps = ps := by
 unfold pdel
 refine filter_all fun y hy => ?_
 unfold phas at h
 have := List.any_eq_false.1 h y hy
 simpa using this
theorem pdel_len (key : Str) (ps : List Pr) : (pdel key ps).length ≤ ps.length := List.length_filter_le _ _
def perr (t : Tr) (k v : Str) : Int := match tprs t with
 | none => 9
 | some ps => if tkey k = true then (if 64 < v.length then 5 else if 4096 ≤ ps.length ∧ phas ps k = false then 51 else 0) else 91
theorem perr_none {t : Tr} {k v : Str} (h : tprs t = none) : perr t k v = 9 := by unfold perr; rw [h]
theorem perr_key {t : Tr} {k v : Str} {ps : List Pr} (h : tprs t = some ps) (hk : tkey k = false) : perr t k v = 91 := by unfold perr; rw [h]; simp [hk]
theorem perr_long {t : Tr} {k v : Str} {ps : List Pr} (h : tprs t = some ps) (hk : tkey k = true) (hv : 64 < v.length) : perr t k v = 5 := by unfold perr; rw [h]; simp [hk, hv]
theorem perr_full {t : Tr} {k v : Str} {ps : List Pr} (h : tprs t = some ps) (hk : tkey k = true) (hv : ¬ 64 < v.length) (h4 : 4096 ≤ ps.length) (hh : phas ps k = false) : perr t k v = 51 := by unfold perr; rw [h]; simp [hk, hv, h4, hh]
theorem perr_ok {t : Tr} {k v : Str} {ps : List Pr} (h : tprs t = some ps) (hk : tkey k = true) (hv : ¬ 64 < v.length) (h4 : ¬ (4096 ≤ ps.length ∧ phas ps k = false)) : perr t k v = 0 := by unfold perr; rw [h]; dsimp only; rw [if_pos hk, if_neg hv, if_neg h4]
def PutA (w w' : World) (t : Tr) (k v : Str) (e : Ending) : Prop :=
 (∃ err, e = .returned (.tuple #[tv ⟨0, 0, []⟩ (.slice none 0 0), .int .i64 err]) ∧ err ≠ 0 ∧ (err = perr t k v ∨ (err = 51 ∧ perr t k v = 0 ∧ 65495 < t.next)) ∧ Below w.heap.size w w') ∨
 (∃ u pv', e = .returned (.tuple #[tv u pv', .int .i64 0]) ∧ OwnPg w.heap.size w' pv' u.pages ∧ Below w.heap.size w w' ∧ perr t k v = 0 ∧ ∃ ps, tprs t = some ps ∧ Chg t u (pins k v ps))
def DelA (w w' : World) (t : Tr) (k : Str) (e : Ending) : Prop :=
 (∃ err, e = .returned (.tuple #[tv ⟨0, 0, []⟩ (.slice none 0 0), .bool false, .int .i64 err]) ∧ err ≠ 0 ∧ ((tprs t = none ∧ err = 9) ∨ ((∃ ps, tprs t = some ps) ∧ tkey k = false ∧ err = 91) ∨ ((∃ ps, tprs t = some ps) ∧ tkey k = true ∧ err = 51 ∧ 65495 < t.next)) ∧ Below w.heap.size w w') ∨
 (∃ u pv' ps, e = .returned (.tuple #[tv u pv', .bool (phas ps k), .int .i64 0]) ∧ OwnPg w.heap.size w' pv' u.pages ∧ Below w.heap.size w w' ∧ tkey k = true ∧ tprs t = some ps ∧ Chg t u (pdel k ps))
theorem tprs_num {t : Tr} {ps : List Pr} (h : tprs t = some ps) : TNum t ∧ ps.length ≤ 4096 ∧ ∃ s, twalk t = some s ∧ s.prs = ps := by
 unfold tprs at h
 split at h
 ·rename_i hT
  cases hw : twalk t with
  | none => rw [hw] at h; cases h
  | some s =>
   rw [hw] at h
   simp only [Option.bind_some] at h
   split at h
   ·rename_i hl
    have e := Option.some.inj h
    exact ⟨hT, by rw [← e]; exact hl, s, rfl, e⟩
   ·cases h
 ·cases h
theorem Chg.same {t : Tr} {ps : List Pr} (h : tprs t = some ps) : Chg t t ps :=
 ⟨h, ⟨Int.le_refl _, by omega⟩, ⟨[], by simp, by simp, fun x hx => by cases hx⟩, (tprs_num h).1, (tprs_num h).1.rwf, .inl rfl⟩
end Go.Proofs.Ytmmjdacjcipgjaa

namespace Go.Proofs.Ytmmjdacjcipgjaa
open Go.RowKit
theorem valOf_has (ps : List Pr) (key : Str) : (valOf (pget ps key)).2 = phas ps key := by
 rw [← pget_phas]; cases pget ps key <;> rfl
theorem tkey_is {k : Str} (h : tkey k = true) : 1 ≤ k.length ∧ k.length ≤ 32 := by unfold tkey at h; have := of_decide_eq_true h; omega
theorem OwnPg.base {B C : Nat} {w : World} {pv : Value} {l : List Wrt} (h : OwnPg C w pv l) (hBC : B ≤ C) : OwnPg B w pv l := OwnX.base h hBC
set_option maxRecDepth 100000 in
set_option maxHeartbeats 8000000 in
theorem pput_any (w : World) (t : Tr) (pv : Value) (key val : Str) (h : RdC w pv t.pages) (hx : ∀ x ∈ t.pages, x.2.length ≤ 140737488351232) (hroot : (Lit.int .i64 t.root).wf = true) (hkl : key.length ≤ 9223372036854775807) :
  Calls Try.prog 10 #[tv t pv, st key, st val] w fun e w' => PutA w w' t key val e := by
 obtain ⟨W1, hW1, D1, b1, s1⟩ := boxedN w #[.int .i64 t.root, .int .i64 t.next, pv] 26
 obtain ⟨W2, hW2, D2, b2, s2⟩ := boxedN W1 #[st key] 9
 obtain ⟨W3, hW3, D3, b3, s3⟩ := boxedN W2 #[st val] 9
 obtain ⟨X, hX, D4, b4, s4⟩ := boxedN W3 #[.int .i64 0, .int .i64 0, .slice none 0 0] 26
 have b34 := b3.trans (b4.mono b3.size)
 have b24 := b2.trans (b34.mono b2.size)
 have bX := b1.trans (b24.mono b1.size)
 have E1 := (b24.block _ (lt_of_block D1)).trans D1
 have E2 := (b34.block _ (lt_of_block D2)).trans D2
 have E3 := (b4.block _ (lt_of_block D3)).trans D3
 rw [s1] at E2
 rw [s2, s1] at E3
 rw [s3, s2, s1] at D4
 have sX : X.heap.size = w.heap.size + 1 + 1 + 1 + 1 := by rw [s4, s3, s2, s1]
 have KW := hide (pwalkfor_any X t pv key hkl (h.to0 bX) hroot)
 obtain ⟨pa, pc, rfl⟩ := h.slice
 have HE := hide (And.intro E1 (And.intro E2 (And.intro E3 D4)))
 have BX := hide bX
 obtain ⟨⟨A0, A1, A2⟩, AF⟩ := cells3p E1
 have A3 := cellN E2 (i := 0) rfl
 have A4 := cellN E3 (i := 0) rfl
 rw [hX, hW3, hW2, hW1] at A0 A1 A2 AF A3 A4 KW
 dsimp only [tv] at KW ⊢
 replace hx := hide hx
 replace sX := hide sX
 clear D1 b1 D2 b2 D3 b3 D4 b4 b34 b24 bX E1 E2 E3 h s1 s2 s3 s4
 go_enter Try.func10, Try.ntmps10
 go_wp2_with fail
 refine KW.out.mono ?_
 rintro e w1 hp
 rw [← hW1, ← hW2, ← hW3, ← hX] at hp
 clear A0 A1 A2 AF A3 A4 KW
 replace hX := hide hX
 replace hW1 := hide hW1
 replace hW2 := hide hW2
 replace hW3 := hide hW3
 rcases hp with ⟨g, bm, B, s, m, rfl, r2, r3, r4, r5, P1, hB1⟩ | ⟨err, rfl, r2, r3⟩
 ·have hps := tprs_of r3 r4 r5
  obtain ⟨E1, E2, E3, D4⟩ := HE.out
  have F2 := (P1.bel.block _ (lt_of_block E2)).trans E2
  have F3 := (P1.bel.block _ (lt_of_block E3)).trans E3
  have F4 := (P1.bel.block _ (lt_of_block D4)).trans D4
  have A3 := cellN F2 (i := 0) rfl
  have A4 := cellN F3 (i := 0) rfl
  by_cases hv : 64 < val.length
  ·have hq : (val.length : Int) > 64 := by omega
   have HF := hide F4
   obtain ⟨⟨J0, J1, J2⟩, JF⟩ := cells3p F4
   have HR : Hid (5 = perr t key val) := (perr_long hps r2 hv).symm
   have B1 := hide (BX.out.trans (P1.bel.mono BX.out.size))
   replace P1 := hide P1
   replace hps := hide hps
   replace r2 := hide r2
   replace r3 := hide r3
   replace r4 := hide r4
   clear E1 E2 E3 D4 F2 F3 F4 A3
   go_wp2
   (try simp only [Exit.inBlock, Exit.then])
   refine retNT rfl rfl (w.heap.size + 1 + 1 + 1) rfl _ _ (0, 0) (heap_set3t HF.out _ _ _) _ Try.underlying26 rfl info_tr _ rfl ?_
   exact .inl ⟨5, rfl, by decide, .inl HR.out, below_set3t B1.out (show w.heap.size ≤ w.heap.size + 1 + 1 + 1 by omega) _ _ _⟩
  ·have hq : ¬ (val.length : Int) > 64 := by omega
   have KV := hide (pvalue_any X w1 B g bm t _ s m key P1 hB1 hroot r4)
   rw [valOf_has] at KV
   obtain ⟨TH, hTH⟩ : ∃ b, b = phas s.prs key := ⟨_, rfl⟩
   rw [← hTH] at KV
   have HP := hide (And.intro P1 (And.intro hB1 (And.intro F2 (And.intro F3 F4))))
   have HD4 := hide D4
   have hgB : Hid (X.heap.size ≤ g ∧ g < B) := P1.hg
   replace hps := hide hps
   replace r2 := hide r2
   replace r3 := hide r3
   replace r4 := hide r4
   replace hTH := hide hTH
   clear E1 E2 E3 D4 F2 F3 F4 P1 HE
   go_wp2_with fail
   refine KV.out.mono ?_
   rintro e w2 ⟨rfl, b2⟩
   obtain ⟨P1, hB1', F2, F3, F4⟩ := HP.out
   have P2 := P1.to b2
   have G2 := (b2.block _ (lt_of_block F2)).trans F2
   have G3 := (b2.block _ (lt_of_block F3)).trans F3
   have G4 := (b2.block _ (lt_of_block F4)).trans F4
   have hB2 : B ≤ w2.heap.size := Nat.le_trans hB1 b2.size
   obtain ⟨d, hTT, hseen⟩ := ttop_seen r4.out
   have hTN := (tprs_num hps.out).1
   have KG := hide (pchanged_any X w2 B g bm t (.slice pa t.pages.length pc) s m key 37 #[.pointer (some ⟨w.heap.size + 1 + 1, 0, none⟩), .pointer (some ⟨w.heap.size + 1, 0, none⟩)] (edPut key val) (pins key val) (fun _ => True) d P2 hB2 hroot r4.out r3.out r5 hTT hseen hx.out (put_ed (tkey_is r2.out) (by omega)) (fun _ _ _ _ _ _ => trivial) trivial
    (put_cl G2 (by have := sX.out; have := hgB.out; omega) G3 (by have := sX.out; have := hgB.out; omega) hB2) (fun args u => Try.call37 args u) hTN)
   obtain ⟨⟨C0, C1, C2, C3⟩, ⟨C4, C5⟩, CF⟩ := P2.cell
   have B4 := cellN G2 (i := 0) rfl
   have B5 := cellN G3 (i := 0) rfl
   have B2 := hide (BX.out.trans (P2.bel.mono BX.out.size))
   have HG4 := hide G4
   replace hTT := hide hTT
   replace hseen := hide hseen
   replace hTN := hide hTN
   clear P1 F2 F3 F4 HP KV A3 A4 b2 P2 G2 G3 G4 C0 C1 C2 C3 C5
   have hcase : (TH = true ∧ Hid (perr t key val = 0 ∧ (pins key val s.prs).length ≤ 4096)) ∨ (TH = false ∧ ((s.prs.length : Nat) : Int) ≥ 4096 ∧ Hid (perr t key val = 51)) ∨ (TH = false ∧ ¬ ((s.prs.length : Nat) : Int) ≥ 4096 ∧ Hid (perr t key val = 0 ∧ (pins key val s.prs).length ≤ 4096)) := by
    have hl := pins_len key val s.prs
    cases TH with
    | true =>
     refine .inl ⟨rfl, perr_ok hps.out r2.out hv (fun hh => by rw [← hTH.out] at hh; exact absurd hh.2 (by simp)), ?_⟩
     have := phas_len hTH.out.symm
     omega
    | false =>
     by_cases h4 : 4096 ≤ s.prs.length
     ·exact .inr (.inl ⟨rfl, by omega, perr_full hps.out r2.out hv h4 hTH.out.symm⟩)
     ·refine .inr (.inr ⟨rfl, by omega, perr_ok hps.out r2.out hv (fun hh => h4 hh.1), ?_⟩)
      omega
   rcases hcase with ⟨rfl, hO⟩ | ⟨rfl, hf, hO⟩ | ⟨rfl, hf, hO⟩
   rotate_left
   ·obtain ⟨⟨J0, J1, J2⟩, JF⟩ := cells3p HG4.out
    clear KG B4 B5
    go_wp2
    (try simp only [Exit.inBlock, Exit.then])
    refine retNT rfl rfl (w.heap.size + 1 + 1 + 1) rfl _ _ (0, 0) (heap_set3t HG4.out _ _ _) _ Try.underlying26 rfl info_tr _ rfl ?_
    exact .inl ⟨51, rfl, by decide, .inl hO.out.symm, below_set3t B2.out (show w.heap.size ≤ w.heap.size + 1 + 1 + 1 by omega) _ _ _⟩
   all_goals
    go_wp2_with fail
    refine KG.out.mono ?_
    rintro e w3 hc
    rcases hc with ⟨pv3, hM, rfl, o3, b3⟩ | ⟨hM, rfl, b3⟩
    ·have hC := hide (chg_is hTN.out hTT.out r5 (put_ed (tkey_is r2.out) (by omega)) hM hO.out.2)
     obtain ⟨a3, c3, h3⟩ := o3.shape
     subst h3
     have D3 := (b3.block _ (lt_of_block HD4.out)).trans HD4.out
     have HD3 := hide D3
     obtain ⟨⟨J0, J1, J2⟩, JF⟩ := cells3p D3
     have B3 := hide (BX.out.trans (b3.mono BX.out.size))
     obtain ⟨L9, hL9⟩ : ∃ n, n = (chgT t key (edPut key val) d).pages.length := ⟨_, rfl⟩
     rw [← hL9] at o3
     obtain ⟨R9, hR9⟩ : ∃ n, n = (chgT t key (edPut key val) d).root := ⟨_, rfl⟩
     obtain ⟨N9, hN9⟩ : ∃ n, n = (chgT t key (edPut key val) d).next := ⟨_, rfl⟩
     dsimp only [tv]
     rw [← hL9, ← hR9, ← hN9]
     replace hL9 := hide hL9
     replace hR9 := hide hR9
     replace hN9 := hide hN9
     have O3 := hide o3
     replace hM := hide hM
     clear KG o3 b3 D3 C4 CF B4 B5
     go_wp2
     (try simp only [Exit.inBlock, Exit.then])
     refine retNT rfl rfl (w.heap.size + 1 + 1 + 1) rfl _ _ (0, 0) (heap_set3t HD3.out _ _ _) _ Try.underlying26 rfl info_tr _ rfl ?_
     have ks := fun e (he : e ≠ 26) => s3_keep9 HD3.out (.int .i64 R9) (.int .i64 N9) (.slice a3 L9 c3) he
     refine .inr ⟨chgT t key (edPut key val) d, .slice a3 L9 c3, by rw [hR9.out, hN9.out]; rfl, ?_, below_set3t B3.out (show w.heap.size ≤ w.heap.size + 1 + 1 + 1 by omega) _ _ _, hO.out.1, s.prs, hps.out, hC.out⟩
     exact OwnPg.base (O3.out.keepT (ks _ (by decide)) (ks _ (by decide))) BX.out.size
    ·have D3 := (b3.block _ (lt_of_block HD4.out)).trans HD4.out
     have HD3 := hide D3
     obtain ⟨⟨J0, J1, J2⟩, JF⟩ := cells3p D3
     have B3 := hide (BX.out.trans (b3.mono BX.out.size))
     have hN : Hid (65495 < t.next) := by
      show _ < _
      have h1 := chgR_len (t := t) (key := key) (ed := edPut key val) (ttop_deep hTT.out r5)
      omega
     replace hM := hide hM
     clear KG b3 D3 C4 CF B4 B5
     dsimp only [tv]
     go_wp2
     (try simp only [Exit.inBlock, Exit.then])
     refine retNT rfl rfl (w.heap.size + 1 + 1 + 1) rfl _ _ (0, 0) (heap_set3t HD3.out _ _ _) _ Try.underlying26 rfl info_tr _ rfl ?_
     exact .inl ⟨51, rfl, by decide, .inr ⟨rfl, hO.out.1, hN.out⟩, below_set3t B3.out (show w.heap.size ≤ w.heap.size + 1 + 1 + 1 by omega) _ _ _⟩
 ·have hne : (err != 0) = true := by rcases r2 with ⟨_, rfl⟩ | ⟨_, _, _, rfl⟩ <;> rfl
  have HR : Hid (err ≠ 0 ∧ err = perr t key val) := by
   rcases r2 with ⟨q, rfl⟩ | ⟨l, q1, q2, rfl⟩
   ·exact ⟨by decide, (perr_none q).symm⟩
   ·exact ⟨by decide, (perr_key q1 q2).symm⟩
  have HF := hide ((r3.block _ (lt_of_block HE.out.2.2.2)).trans HE.out.2.2.2)
  obtain ⟨⟨J0, J1, J2⟩, JF⟩ := cells3p HF.out
  have B1 := hide (BX.out.trans (r3.mono BX.out.size))
  clear r2 r3
  go_wp2
  (try simp only [Exit.inBlock, Exit.then])
  refine retNT rfl rfl (w.heap.size + 1 + 1 + 1) rfl _ _ (0, 0) (heap_set3t HF.out _ _ _) _ Try.underlying26 rfl info_tr _ rfl ?_
  exact .inl ⟨err, rfl, HR.out.1, .inl HR.out.2, below_set3t B1.out (show w.heap.size ≤ w.heap.size + 1 + 1 + 1 by omega) _ _ _⟩
end Go.Proofs.Ytmmjdacjcipgjaa

namespace Go.Proofs.Ytmmjdacjcipgjaa
open Go.RowKit
set_option maxRecDepth 100000 in
set_option maxHeartbeats 8000000 in
theorem pdel_any (w : World) (t : Tr) (pv : Value) (key : Str) (h : RdC w pv t.pages) (hx : ∀ x ∈ t.pages, x.2.length ≤ 140737488351232) (hroot : (Lit.int .i64 t.root).wf = true) (hkl : key.length ≤ 9223372036854775807) :
  Calls Try.prog 11 #[tv t pv, st key] w fun e w' => DelA w w' t key e := by
 obtain ⟨W1, hW1, D1, b1, s1⟩ := boxedN w #[.int .i64 t.root, .int .i64 t.next, pv] 26
 obtain ⟨X, hX, D4, b4, s4⟩ := boxedN W1 #[.int .i64 0, .int .i64 0, .slice none 0 0] 26
 have bX := b1.trans (b4.mono b1.size)
 have E1 := (b4.block _ (lt_of_block D1)).trans D1
 rw [s1] at D4
 have sX : X.heap.size = w.heap.size + 1 + 1 := by rw [s4, s1]
 have KW := hide (pwalkfor_any X t pv key hkl (h.to0 bX) hroot)
 obtain ⟨pa, pc, rfl⟩ := h.slice
 have HE := hide D4
 have BX := hide bX
 obtain ⟨⟨A0, A1, A2⟩, AF⟩ := cells3p E1
 rw [hX, hW1] at A0 A1 A2 AF KW
 dsimp only [tv] at KW ⊢
 replace hx := hide hx
 replace sX := hide sX
 clear D1 b1 D4 b4 bX E1 h s1 s4
 go_enter Try.func11, Try.ntmps11
 go_wp2_with fail
 refine KW.out.mono ?_
 rintro e w1 hp
 rw [← hW1, ← hX] at hp
 clear A0 A1 A2 AF KW
 replace hX := hide hX
 replace hW1 := hide hW1
 rcases hp with ⟨g, bm, B, s, m, rfl, r2, r3, r4, r5, P1, hB1⟩ | ⟨err, rfl, r2, r3⟩
 ·have hps := tprs_of r3 r4 r5
  have F4 := (P1.bel.block _ (lt_of_block HE.out)).trans HE.out
  have KV := hide (pvalue_any X w1 B g bm t _ s m key P1 hB1 hroot r4)
  rw [valOf_has] at KV
  obtain ⟨TH, hTH⟩ : ∃ b, b = phas s.prs key := ⟨_, rfl⟩
  rw [← hTH] at KV
  have HP := hide (And.intro P1 F4)
  have hgB : Hid (X.heap.size ≤ g ∧ g < B) := P1.hg
  replace hps := hide hps
  replace r2 := hide r2
  replace r3 := hide r3
  replace r4 := hide r4
  replace hTH := hide hTH
  clear F4 P1
  go_wp2_with fail
  refine KV.out.mono ?_
  rintro e w2 ⟨rfl, b2⟩
  obtain ⟨P1, F4⟩ := HP.out
  have P2 := P1.to b2
  have G4 := (b2.block _ (lt_of_block F4)).trans F4
  have hB2 : B ≤ w2.heap.size := Nat.le_trans hB1 b2.size
  obtain ⟨d, hTT, hseen⟩ := ttop_seen r4.out
  have hTN := (tprs_num hps.out).1
  have B2 := hide (BX.out.trans (P2.bel.mono BX.out.size))
  have HG4 := hide G4
  cases TH with
  | false =>
   have hlen : t.pages.length ≤ 65536 := by have := tups_len r3.out.2.2 r3.out.1; have := r3.out.2.1; omega
   have KC := hide (pcopied_any w2 t (.slice pa t.pages.length pc) (P2.pg.to0 P2.bel) hlen hx.out)
   obtain ⟨⟨C0, C1, C2, C3⟩, ⟨C4, C5⟩, CF⟩ := P2.cell
   replace hTT := hide hTT
   replace hseen := hide hseen
   replace hTN := hide hTN
   dsimp only [tv] at KC
   clear P1 F4 HP KV b2 P2 G4 C3 C4 C5 hlen
   go_wp2_with fail
   refine KC.out.mono ?_
   rintro e w3 ⟨pv3, rfl, o3, b3⟩
   obtain ⟨a3, c3, h3⟩ := o3.shape
   subst h3
   have D3 := (b3.block _ (lt_of_block HG4.out)).trans HG4.out
   have HD3 := hide D3
   obtain ⟨⟨J0, J1, J2⟩, JF⟩ := cells3p D3
   have B3 := hide (B2.out.trans (b3.mono B2.out.size))
   have O3 := hide o3
   clear KC o3 b3 D3 CF C0 C1 C2
   dsimp only [tv]
   go_wp2
   (try simp only [Exit.inBlock, Exit.then])
   refine retNTT rfl rfl (w.heap.size + 1) rfl _ _ (0, 0) (heap_set3t HD3.out _ _ _) _ Try.underlying26 rfl info_tr _ rfl _ rfl ?_
   have ks := fun e (he : e ≠ 26) => s3_keep9 HD3.out (.int .i64 t.root) (.int .i64 t.next) (.slice a3 t.pages.length c3) he
   refine .inr ⟨t, .slice a3 t.pages.length c3, s.prs, by rw [← hTH.out]; rfl, ?_, below_set3t B3.out (show w.heap.size ≤ w.heap.size + 1 by omega) _ _ _, r2.out, hps.out, ?_⟩
   ·exact OwnPg.base (O3.out.keepT (ks _ (by decide)) (ks _ (by decide))) B2.out.size
   ·rw [pdel_none hTH.out.symm]
    exact Chg.same hps.out
  | true =>
   have KG := hide (pchanged_any X w2 B g bm t (.slice pa t.pages.length pc) s m key 40 #[] (edDel key) (pdel key) (KIn key) d P2 hB2 hroot r4.out r3.out r5 hTT hseen hx.out (del_ed key) kin_mid (phas_kin hTH.out.symm)
    (del_cl hB2) (fun args u => Try.call40 args u) hTN)
   replace hTT := hide hTT
   replace hseen := hide hseen
   replace hTN := hide hTN
   clear P1 F4 HP KV b2 P2 G4
   go_wp2_with fail
   refine KG.out.mono ?_
   rintro e w3 hc
   rcases hc with ⟨pv3, hM, rfl, o3, b3⟩ | ⟨hM, rfl, b3⟩
   ·have hC := hide (chg_is hTN.out hTT.out r5 (del_ed key) hM (Nat.le_trans (pdel_len key s.prs) r5))
    obtain ⟨a3, c3, h3⟩ := o3.shape
    subst h3
    have D3 := (b3.block _ (lt_of_block HE.out)).trans HE.out
    have B3 := hide (BX.out.trans (b3.mono BX.out.size))
    obtain ⟨L9, hL9⟩ : ∃ n, n = (chgT t key (edDel key) d).pages.length := ⟨_, rfl⟩
    rw [← hL9] at o3
    obtain ⟨R9, hR9⟩ : ∃ n, n = (chgT t key (edDel key) d).root := ⟨_, rfl⟩
    obtain ⟨N9, hN9⟩ : ∃ n, n = (chgT t key (edDel key) d).next := ⟨_, rfl⟩
    dsimp only [tv]
    rw [← hL9, ← hR9, ← hN9]
    replace hL9 := hide hL9
    replace hR9 := hide hR9
    replace hN9 := hide hN9
    obtain ⟨Y, hY, DY, bY, sY⟩ := boxedN w3 #[.int .i64 R9, .int .i64 N9, .slice a3 L9 c3] 26
    have RY := (bY.block _ (lt_of_block D3)).trans D3
    have OY := o3.to9 bY
    have ks := fun e (he : e ≠ 26) => s3_keep9 RY (.int .i64 R9) (.int .i64 N9) (.slice a3 L9 c3) he
    have OF := hide (OwnPg.base (OwnX.keepT OY (ks _ (by decide)) (ks _ (by decide))) BX.out.size)
    have BF := hide (below_set3t (B3.out.trans (bY.mono B3.out.size)) (show w.heap.size ≤ w.heap.size + 1 by omega) (.int .i64 R9) (.int .i64 N9) (.slice a3 L9 c3))
    obtain ⟨⟨L0, L1, L2⟩, LF⟩ := cells3p DY
    obtain ⟨⟨M0, M1, M2⟩, MF⟩ := cells3p RY
    have HRZ := hide RY
    rw [hY] at L0 L1 L2 LF M0 M1 M2 MF HRZ OF BF
    replace hM := hide hM
    clear KG o3 b3 D3 RY OY ks DY bY hY sY
    go_wp2
    (try simp only [Exit.inBlock, Exit.then])
    refine retNTT rfl rfl (w.heap.size + 1) rfl _ _ (0, 0) (heap_set3t HRZ.out _ _ _) _ Try.underlying26 rfl info_tr _ rfl _ rfl ?_
    refine .inr ⟨chgT t key (edDel key) d, .slice a3 L9 c3, s.prs, by rw [← hTH.out, hR9.out, hN9.out]; rfl, OF.out, BF.out, r2.out, hps.out, hC.out⟩
   ·have D3 := (b3.block _ (lt_of_block HE.out)).trans HE.out
    have B3 := hide (BX.out.trans (b3.mono BX.out.size))
    obtain ⟨Y, hY, DY, bY, sY⟩ := boxedN w3 #[.int .i64 0, .int .i64 0, .slice none 0 0] 26
    have RY := (bY.block _ (lt_of_block D3)).trans D3
    have BF := hide (below_set3t (B3.out.trans (bY.mono B3.out.size)) (show w.heap.size ≤ w.heap.size + 1 by omega) (.int .i64 0) (.int .i64 0) (.slice none 0 0))
    have hN : Hid (65495 < t.next) := by
     show _ < _
     have h1 := chgR_len (t := t) (key := key) (ed := edDel key) (ttop_deep hTT.out r5)
     omega
    obtain ⟨⟨L0, L1, L2⟩, LF⟩ := cells3p DY
    obtain ⟨⟨M0, M1, M2⟩, MF⟩ := cells3p RY
    have HRZ := hide RY
    rw [hY] at L0 L1 L2 LF M0 M1 M2 MF HRZ BF
    replace hM := hide hM
    clear KG b3 D3 RY DY bY hY sY
    dsimp only [tv]
    go_wp2
    (try simp only [Exit.inBlock, Exit.then])
    refine retNTT rfl rfl (w.heap.size + 1) rfl _ _ (0, 0) (heap_set3t HRZ.out _ _ _) _ Try.underlying26 rfl info_tr _ rfl _ rfl ?_
    exact .inl ⟨51, rfl, by decide, .inr (.inr ⟨⟨_, hps.out⟩, r2.out, rfl, hN.out⟩), BF.out⟩
 ·have hne : (err != 0) = true := by rcases r2 with ⟨_, rfl⟩ | ⟨_, _, _, rfl⟩ <;> rfl
  have HR : Hid (err ≠ 0 ∧ ((tprs t = none ∧ err = 9) ∨ ((∃ ps, tprs t = some ps) ∧ tkey key = false ∧ err = 91))) := by
   rcases r2 with ⟨q, rfl⟩ | ⟨l, q1, q2, rfl⟩
   ·exact ⟨by decide, .inl ⟨q, rfl⟩⟩
   ·exact ⟨by decide, .inr ⟨⟨l, q1⟩, q2, rfl⟩⟩
  have HF := hide ((r3.block _ (lt_of_block HE.out)).trans HE.out)
  obtain ⟨⟨J0, J1, J2⟩, JF⟩ := cells3p HF.out
  have B1 := hide (BX.out.trans (r3.mono BX.out.size))
  clear r2 r3
  go_wp2
  (try simp only [Exit.inBlock, Exit.then])
  refine retNTT rfl rfl (w.heap.size + 1) rfl _ _ (0, 0) (heap_set3t HF.out _ _ _) _ Try.underlying26 rfl info_tr _ rfl _ rfl ?_
  exact .inl ⟨err, rfl, HR.out.1, HR.out.2.elim .inl (fun q => .inr (.inl q)), below_set3t B1.out (show w.heap.size ≤ w.heap.size + 1 by omega) _ _ _⟩
end Go.Proofs.Ytmmjdacjcipgjaa

namespace Go.Proofs.Ytmmjdacjcipgjaa
open Go.RowKit
end Go.Proofs.Ytmmjdacjcipgjaa

namespace Go.Proofs.Ytmmjdacjcipgjaa
open Go.RowKit
end Go.Proofs.Ytmmjdacjcipgjaa

namespace Go.Proofs.Ytmmjdacjcipgjaa
open Go.RowKit
end Go.Proofs.Ytmmjdacjcipgjaa

namespace Go.Proofs.Ytmmjdacjcipgjaa
open Go.RowKit
def PutB (B : Nat) (c : World) (t : Tr) (k v : Str) (u : Tr) (pv : Value) (err : Int) : Prop :=
 (err ≠ 0 ∧ (err = perr t k v ∨ (err = 51 ∧ perr t k v = 0 ∧ 65495 < t.next))) ∨
 (err = 0 ∧ perr t k v = 0 ∧ OwnPg B c pv u.pages ∧ ∃ ps, tprs t = some ps ∧ Chg t u (pins k v ps))
def DelB (B : Nat) (c : World) (t : Tr) (k : Str) (u : Tr) (pv : Value) (was : Bool) (err : Int) : Prop :=
 (err ≠ 0 ∧ (tprs t = none ∨ tkey k = false ∨ 65495 < t.next)) ∨
 (err = 0 ∧ tkey k = true ∧ OwnPg B c pv u.pages ∧ ∃ ps, tprs t = some ps ∧ was = phas ps k ∧ Chg t u (pdel k ps))
theorem PutA.to {w w' : World} {t : Tr} {k v : Str} {e : Ending} (h : PutA w w' t k v e) : ∃ u a n c err, e = .returned (.tuple #[.agg #[.int .i64 u.root, .int .i64 u.next, .slice a n c], .int .i64 err]) ∧ PutB w.heap.size w' t k v u (.slice a n c) err ∧ Below w.heap.size w w' := by
 rcases h with ⟨err, rfl, h1, h2, h3⟩ | ⟨u, pv, rfl, h1, h2, h3, h4⟩
 ·exact ⟨⟨0, 0, []⟩, _, _, _, err, rfl, .inl ⟨h1, h2⟩, h3⟩
 ·obtain ⟨a, c, hp⟩ := h1.shape
  subst hp
  exact ⟨u, _, _, _, 0, rfl, .inr ⟨rfl, h3, h1, h4⟩, h2⟩
theorem DelA.to {w w' : World} {t : Tr} {k : Str} {e : Ending} (h : DelA w w' t k e) : ∃ u a n c was err, e = .returned (.tuple #[.agg #[.int .i64 u.root, .int .i64 u.next, .slice a n c], .bool was, .int .i64 err]) ∧ DelB w.heap.size w' t k u (.slice a n c) was err ∧ Below w.heap.size w w' := by
 rcases h with ⟨err, rfl, h1, h2, h3⟩ | ⟨u, pv, ps, rfl, h1, h2, h3, h4, h5⟩
 ·refine ⟨⟨0, 0, []⟩, _, _, _, _, err, rfl, .inl ⟨h1, ?_⟩, h3⟩
  rcases h2 with ⟨q, _⟩ | ⟨_, q, _⟩ | ⟨_, _, _, q⟩
  ·exact .inl q
  ·exact .inr (.inl q)
  ·exact .inr (.inr q)
 ·obtain ⟨a, c, hp⟩ := h1.shape
  subst hp
  exact ⟨u, _, _, _, _, 0, rfl, .inr ⟨rfl, h3, h1, ps, h4, rfl, h5⟩, h2⟩
theorem PutB.keep {B : Nat} {c c' : World} {t : Tr} {k v : Str} {u : Tr} {pv : Value} {err : Int} (h : PutB B c t k v u pv err) (k1 : ∀ e, e ≠ 26 → KeepT e c c') : PutB B c' t k v u pv err := by
 rcases h with h | ⟨h1, h2, h3, h4⟩
 ·exact .inl h
 ·exact .inr ⟨h1, h2, OwnX.keepT h3 (k1 _ (by decide)) (k1 _ (by decide)), h4⟩
theorem DelB.keep {B : Nat} {c c' : World} {t : Tr} {k : Str} {u : Tr} {pv : Value} {was : Bool} {err : Int} (h : DelB B c t k u pv was err) (k1 : ∀ e, e ≠ 26 → KeepT e c c') : DelB B c' t k u pv was err := by
 rcases h with h | ⟨h1, h2, h3, h4⟩
 ·exact .inl h
 ·exact .inr ⟨h1, h2, OwnX.keepT h3 (k1 _ (by decide)) (k1 _ (by decide)), h4⟩
theorem PutB.to {B : Nat} {c c' : World} {t : Tr} {k v : Str} {u : Tr} {pv : Value} {err : Int} (h : PutB B c t k v u pv err) (b : Below c.heap.size c c') : PutB B c' t k v u pv err := h.keep fun e _ => KeepT.below b
theorem DelB.to {B : Nat} {c c' : World} {t : Tr} {k : Str} {u : Tr} {pv : Value} {was : Bool} {err : Int} (h : DelB B c t k u pv was err) (b : Below c.heap.size c c') : DelB B c' t k u pv was err := h.keep fun e _ => KeepT.below b
theorem PutB.base {B C : Nat} {c : World} {t : Tr} {k v : Str} {u : Tr} {pv : Value} {err : Int} (h : PutB C c t k v u pv err) (hb : B ≤ C) : PutB B c t k v u pv err := by
 rcases h with h | ⟨h1, h2, h3, h4⟩
 ·exact .inl h
 ·exact .inr ⟨h1, h2, OwnPg.base h3 hb, h4⟩
theorem DelB.base {B C : Nat} {c : World} {t : Tr} {k : Str} {u : Tr} {pv : Value} {was : Bool} {err : Int} (h : DelB C c t k u pv was err) (hb : B ≤ C) : DelB B c t k u pv was err := by
 rcases h with h | ⟨h1, h2, h3, h4⟩
 ·exact .inl h
 ·exact .inr ⟨h1, h2, OwnPg.base h3 hb, h4⟩
theorem Chg.len {t u : Tr} {ps : List Pr} {q : List Pr} (h : Chg t u ps) (ht : tprs t = some q) : (u.pages.length + 1) * 32 ≤ 140737488355328 := by
 obtain ⟨more, e, h1, _⟩ := h.pgs
 have hT := (tprs_num ht).1
 have h2 := tups_len hT.2.2.1 hT.1
 have h3 := hT.2.1
 rw [e, List.length_append]
 omega
theorem Chg.small {t u : Tr} {ps : List Pr} (h : Chg t u ps) (hx : ∀ x ∈ t.pages, x.2.length ≤ 140737488351232) : ∀ x ∈ u.pages, x.2.length ≤ 140737488351232 := by
 obtain ⟨more, e, _, h2⟩ := h.pgs
 intro x hx'
 rw [e, List.mem_append] at hx'
 rcases hx' with hx' | hx'
 ·exact hx x hx'
 ·have := h2 x hx'; omega
end Go.Proofs.Ytmmjdacjcipgjaa

namespace Go.Proofs.Ytmmjdacjcipgjaa
open Go.RowKit
end Go.Proofs.Ytmmjdacjcipgjaa

namespace Go.Proofs.Ytmmjdacjcipgjaa
open Go.RowKit
def tatE (t : Tr) (root : Int) : Int := if tcheck t ≠ 0 then tcheck t else if root ≠ 0 ∧ tpage t.pages root = none then 71 else tcheck ⟨root, t.next, t.pages⟩
def AtR (w w' : World) (t : Tr) (root : Int) (e : Ending) : Prop :=
 (tatE t root = 0 ∧ ∃ pv', e = .returned (.tuple #[tv ⟨root, t.next, t.pages⟩ pv', .int .i64 0]) ∧ OwnPg w.heap.size w' pv' t.pages ∧ Below w.heap.size w w') ∨
 (tatE t root ≠ 0 ∧ e = .returned (.tuple #[tv ⟨0, 0, []⟩ (.slice none 0 0), .int .i64 (tatE t root)]) ∧ Below w.heap.size w w')
theorem tcheck_num {t : Tr} (h : tcheck t = 0) : PNum t := by
 unfold tcheck at h
 cases ht : tprs t with
 | none => rw [ht] at h; cases h
 | some l =>
  unfold tprs at ht
  split at ht
  ·rename_i hn; exact hn.p
  ·cases ht
set_option maxRecDepth 100000 in
set_option maxHeartbeats 4000000 in
theorem pat_any (w : World) (t : Tr) (pv : Value) (root : Int) (h : RdC w pv t.pages) (hx : ∀ x ∈ t.pages, x.2.length ≤ 140737488351232) (hroot : (Lit.int .i64 t.root).wf = true) (hroot2 : (Lit.int .i64 root).wf = true) :
  Calls Try.prog 14 #[tv t pv, .int .i64 root] w fun e w' => AtR w w' t root e := by
 obtain ⟨W, hW, DW, bW, sW⟩ := boxedN w #[.int .i64 t.root, .int .i64 t.next, pv] 26
 obtain ⟨X, hX, DX, bX, sX⟩ := boxedN W #[.int .i64 0, .int .i64 0, .slice none 0 0] 26
 have bWX := bW.trans (bX.mono bW.size)
 have KC := hide (pcheck10_any X t pv (h.to0 bWX) hroot)
 obtain ⟨a, c, rfl⟩ := h.slice
 have BX := hide bWX
 have D1 := (bX.block _ (lt_of_block DW)).trans DW
 rw [sW] at DX
 have HD := hide (And.intro D1 DX)
 obtain ⟨⟨E0, E1, E2⟩, EF⟩ := cells3p D1
 obtain ⟨⟨F0, F1, F2⟩, FF⟩ := cells3p DX
 have HH := hide h
 rw [hX, hW] at E0 E1 E2 EF F0 F1 F2 FF KC
 dsimp only [tv] at KC ⊢
 clear h bW bX DW DX D1 bWX
 replace hroot := hide hroot
 replace hroot2 := hide hroot2
 replace hx := hide hx
 go_enter Try.func14, Try.ntmps14
 go_wp2_with fail
 refine KC.out.mono ?_
 rintro e w1 ⟨rfl, b1⟩
 rw [← hW, ← hX] at b1
 clear E0 E1 E2 EF F0 F1 F2 FF KC
 replace hX := hide hX
 replace hW := hide hW
 have B1 := hide (BX.out.trans (b1.mono BX.out.size))
 have D1 := (b1.block _ (lt_of_block HD.out.1)).trans HD.out.1
 have R1 := (b1.block _ (lt_of_block HD.out.2)).trans HD.out.2
 obtain ⟨⟨E0, E1, E2⟩, EF⟩ := cells3p D1
 obtain ⟨⟨F0, F1, F2⟩, FF⟩ := cells3p R1
 have HD1 := hide (And.intro D1 R1)
 clear D1 R1 b1 HD BX
 obtain ⟨err, herr⟩ : ∃ err, err = tcheck t := ⟨_, rfl⟩
 rw [← herr]
 by_cases he : err = 0
 ·have hpn := tcheck_num (herr.symm.trans he)
  have hlen : t.pages.length ≤ 65536 := by have := tups_len hpn.2.2 hpn.1; have := hpn.2.1; omega
  have KD := hide (pdata_at w1 w1 (.slice a t.pages.length c) t root (HH.out.to0 B1.out) (Below.refl _ _) (tups_up hpn.2.2) hlen)
  dsimp only [tv] at KD
  have hc0 : Hid (tcheck t = 0) := herr.symm.trans he
  subst he
  clear herr
  replace hpn := hide hpn
  replace hlen := hide hlen
  go_wp2_with fail
  refine KD.out.mono ?_
  rintro e w2 ⟨bv, ok, rfl, hp, b2⟩
  have B2 := hide (B1.out.trans (b2.mono B1.out.size))
  have D2 := (b2.block _ (lt_of_block HD1.out.1)).trans HD1.out.1
  have R2 := (b2.block _ (lt_of_block HD1.out.2)).trans HD1.out.2
  clear E0 E1 E2 EF F0 F1 F2 FF KD b2
  obtain ⟨⟨E0, E1, E2⟩, EF⟩ := cells3p D2
  obtain ⟨⟨F0, F1, F2⟩, FF⟩ := cells3p R2
  by_cases hn : root ≠ 0 ∧ tpage t.pages root = none
  ·have hz : Hid (tatE t root = 71) := by show _ = _; unfold tatE; rw [if_neg (by rw [hc0.out]; simp), if_pos hn]
   have hok : ok = false := by
    rcases hp with ⟨_, x, q, _⟩ | ⟨q, _⟩
    ·rw [hn.2] at q; cases q
    ·exact q
   subst hok
   have hr0 : (root != 0) = true := by simpa using hn.1
   replace hn := hide hn
   replace hp := hide hp
   have HR := hide R2
   clear D2 R2
   go_wp2
   (try simp only [Exit.inBlock, Exit.then])
   refine retNT rfl rfl (w.heap.size + 1) rfl _ _ (0, 0) (heap_set3t HR.out _ _ _) _ Try.underlying26 rfl info_tr _ rfl ?_
   refine .inr ⟨by rw [hz.out]; decide, by rw [hz.out]; rfl, below_set3t B2.out (show w.heap.size ≤ w.heap.size + 1 by omega) _ _ _⟩
  ·have hgo : ((root != 0) && !ok) = false := by
    by_cases r0 : root = 0
    ·simp [r0]
    ·rcases hp with ⟨q, _⟩ | ⟨_, q, _⟩
     ·simp [q]
     ·exact absurd ⟨r0, q⟩ hn
   have hz : Hid (tatE t root = tcheck ⟨root, t.next, t.pages⟩) := by show _ = _; unfold tatE; rw [if_neg (by rw [hc0.out]; simp), if_neg hn]
   obtain ⟨V, hV⟩ : ∃ V, V = w2.setCell ⟨w.heap.size, 0, none⟩ (.int .i64 root) := ⟨_, rfl⟩
   have d0 := heap_setN D2 0 (.int .i64 root)
   have D3 : V.heap[w.heap.size]? = some (.cells #[.int .i64 root, .int .i64 t.next, .slice a t.pages.length c] 26 (0, 0)) := by rw [hV]; simpa using d0
   have R3 : V.heap[w.heap.size + 1]? = some (.cells #[.int .i64 0, .int .i64 0, .slice none 0 0] 26 (0, 0)) := by rw [hV]; exact (Below.heap_setCell _ _ _ _ (show w.heap.size + 1 ≠ w.heap.size by omega)).trans R2
   have B3 : Below w.heap.size w V := by rw [hV]; exact B2.out.setCell (Nat.le_refl _) _
   have KC2 := hide (pcheck10_any V ⟨root, t.next, t.pages⟩ (.slice a t.pages.length c) (HH.out.to0 B3) hroot2.out)
   dsimp only [tv] at KC2
   obtain ⟨⟨G0, G1, G2⟩, GF⟩ := cells3p D3
   have HD3 := hide (And.intro D3 R3)
   have HB3 := hide B3
   rw [hV] at KC2 G0 G1 G2 GF
   replace hn := hide hn
   replace hp := hide hp
   clear D2 R2 D3 R3 B3 d0
   cases hrr : (root != 0) with
   | true =>
    have hokk : ok = true := by rw [hrr] at hgo; simpa using hgo
    subst hokk
    clear hgo
    go_wp2_with fail
    refine KC2.out.mono ?_
    rintro e w4 ⟨rfl, b4⟩
    rw [← hV] at b4
    have B4 := hide (HB3.out.trans (b4.mono HB3.out.size))
    have D4 := (b4.block _ (lt_of_block HD3.out.1)).trans HD3.out.1
    have R4 := (b4.block _ (lt_of_block HD3.out.2)).trans HD3.out.2
    clear E0 E1 E2 EF F0 F1 F2 FF G0 G1 G2 GF KC2 b4
    replace hV := hide hV
    obtain ⟨⟨E0, E1, E2⟩, EF⟩ := cells3p D4
    obtain ⟨⟨F0, F1, F2⟩, FF⟩ := cells3p R4
    have HR := hide R4
    have HD4 := hide D4
    obtain ⟨er2, her2⟩ : ∃ er, er = tcheck ⟨root, t.next, t.pages⟩ := ⟨_, rfl⟩
    rw [← her2] at hz ⊢
    clear her2
    by_cases he2 : er2 = 0
    ·subst he2
     have KP := hide (pcopied_any w4 ⟨root, t.next, t.pages⟩ (.slice a t.pages.length c) (HH.out.to0 B4.out) hlen.out hx.out)
     dsimp only [tv] at KP
     clear D4 R4
     go_wp2_with fail
     refine KP.out.mono ?_
     rintro e w5 ⟨pv5, rfl, o5, b5⟩
     obtain ⟨a5, c5, h5⟩ := o5.shape
     subst h5
     have R5 := (b5.block _ (lt_of_block HR.out)).trans HR.out
     have HR5 := hide R5
     obtain ⟨⟨F0, F1, F2⟩, FF⟩ := cells3p R5
     have B5 := hide (B4.out.trans (b5.mono B4.out.size))
     have O5 := hide o5
     clear o5 b5 KP R5
     go_wp2
     (try simp only [Exit.inBlock, Exit.then])
     refine retNT rfl rfl (w.heap.size + 1) rfl _ _ (0, 0) (heap_set3t HR5.out _ _ _) _ Try.underlying26 rfl info_tr _ rfl ?_
     refine .inl ⟨hz.out, _, rfl, ?_, below_set3t B5.out (show w.heap.size ≤ w.heap.size + 1 by omega) _ _ _⟩
     have k := fun e (he : e ≠ 26) => s3_keep9 HR5.out (.int .i64 root) (.int .i64 t.next) (.slice a5 t.pages.length c5) he
     exact OwnX.base (O5.out.keepT (k _ (by decide)) (k _ (by decide))) B4.out.size
    ·have hq : (er2 != 0) = true := by simpa using he2
     have HE : Hid (er2 ≠ 0) := he2
     replace he2 := hide he2
     clear D4 R4
     go_wp2
     (try simp only [Exit.inBlock, Exit.then])
     refine retNT rfl rfl (w.heap.size + 1) rfl _ _ (0, 0) (heap_set3t HR.out _ _ _) _ Try.underlying26 rfl info_tr _ rfl ?_
     refine .inr ⟨by rw [hz.out]; exact HE.out, by rw [hz.out]; rfl, below_set3t B4.out (show w.heap.size ≤ w.heap.size + 1 by omega) _ _ _⟩
   | false =>
    clear hgo
    go_wp2_with fail
    refine KC2.out.mono ?_
    rintro e w4 ⟨rfl, b4⟩
    rw [← hV] at b4
    have B4 := hide (HB3.out.trans (b4.mono HB3.out.size))
    have D4 := (b4.block _ (lt_of_block HD3.out.1)).trans HD3.out.1
    have R4 := (b4.block _ (lt_of_block HD3.out.2)).trans HD3.out.2
    clear E0 E1 E2 EF F0 F1 F2 FF G0 G1 G2 GF KC2 b4
    replace hV := hide hV
    obtain ⟨⟨E0, E1, E2⟩, EF⟩ := cells3p D4
    obtain ⟨⟨F0, F1, F2⟩, FF⟩ := cells3p R4
    have HR := hide R4
    have HD4 := hide D4
    obtain ⟨er2, her2⟩ : ∃ er, er = tcheck ⟨root, t.next, t.pages⟩ := ⟨_, rfl⟩
    rw [← her2] at hz ⊢
    clear her2
    by_cases he2 : er2 = 0
    ·subst he2
     have KP := hide (pcopied_any w4 ⟨root, t.next, t.pages⟩ (.slice a t.pages.length c) (HH.out.to0 B4.out) hlen.out hx.out)
     dsimp only [tv] at KP
     clear D4 R4
     go_wp2_with fail
     refine KP.out.mono ?_
     rintro e w5 ⟨pv5, rfl, o5, b5⟩
     obtain ⟨a5, c5, h5⟩ := o5.shape
     subst h5
     have R5 := (b5.block _ (lt_of_block HR.out)).trans HR.out
     have HR5 := hide R5
     obtain ⟨⟨F0, F1, F2⟩, FF⟩ := cells3p R5
     have B5 := hide (B4.out.trans (b5.mono B4.out.size))
     have O5 := hide o5
     clear o5 b5 KP R5
     go_wp2
     (try simp only [Exit.inBlock, Exit.then])
     refine retNT rfl rfl (w.heap.size + 1) rfl _ _ (0, 0) (heap_set3t HR5.out _ _ _) _ Try.underlying26 rfl info_tr _ rfl ?_
     refine .inl ⟨hz.out, _, rfl, ?_, below_set3t B5.out (show w.heap.size ≤ w.heap.size + 1 by omega) _ _ _⟩
     have k := fun e (he : e ≠ 26) => s3_keep9 HR5.out (.int .i64 root) (.int .i64 t.next) (.slice a5 t.pages.length c5) he
     exact OwnX.base (O5.out.keepT (k _ (by decide)) (k _ (by decide))) B4.out.size
    ·have hq : (er2 != 0) = true := by simpa using he2
     have HE : Hid (er2 ≠ 0) := he2
     replace he2 := hide he2
     clear D4 R4
     go_wp2
     (try simp only [Exit.inBlock, Exit.then])
     refine retNT rfl rfl (w.heap.size + 1) rfl _ _ (0, 0) (heap_set3t HR.out _ _ _) _ Try.underlying26 rfl info_tr _ rfl ?_
     refine .inr ⟨by rw [hz.out]; exact HE.out, by rw [hz.out]; rfl, below_set3t B4.out (show w.heap.size ≤ w.heap.size + 1 by omega) _ _ _⟩
 ·have hz : Hid (tatE t root = err) := by show _ = _; unfold tatE; rw [if_pos (by rw [← herr]; exact he), ← herr]
  have hq : (err != 0) = true := by simpa using he
  have HE : Hid (err ≠ 0) := he
  clear herr
  replace he := hide he
  have HR := hide HD1.out.2
  go_wp2
  (try simp only [Exit.inBlock, Exit.then])
  refine retNT rfl rfl (w.heap.size + 1) rfl _ _ (0, 0) (heap_set3t HR.out _ _ _) _ Try.underlying26 rfl info_tr _ rfl ?_
  refine .inr ⟨by rw [hz.out]; exact HE.out, by rw [hz.out]; rfl, below_set3t B1.out (show w.heap.size ≤ w.heap.size + 1 by omega) _ _ _⟩
end Go.Proofs.Ytmmjdacjcipgjaa

namespace Go.Proofs.Ytmmjdacjcipgjaa
open Go.RowKit
theorem infoJ9 : (Try.prog.info? 3).map (fun i => (i.zero, i.size, i.bytes)) = some (some (.int .i64 0), 1, 8) := by kernel_rfl
theorem wpList_appJ9 {ops : Array Oper} {rest : List Oper} {o : Oper} {a : Act} {w : World} {Q : Exit → Act → World → Prop} (hgd : o.guard = none) (s x : Operand)
  (ho : o.op = .call { callee := .builtin .append, args := #[s, x], argTypes := #[28, 28] }) (B : Nat) (v : Value) (xs : List Int) (y : Int) (g : Nat) (hs : a.eval s = v) (hx : a.eval x = .slice (some ⟨g, 0, none⟩) 1 1)
  (hown : OwnJ B w v xs) (hc : w.cell? ⟨g, 0, none⟩ = some (.int .i64 y)) (hlen : (xs.length + 1) * 8 ≤ 140737488355328) (hB : B ≤ w.heap.size)
  (h : ∀ v' w', OwnJ B w' v' (xs ++ [y]) → Below B w w' → (∀ e, e ≠ 3 → KeepT e w w') → wpList Try.prog ops Q rest (a.put o.dst v') w') : wpList Try.prog ops Q (o :: rest) a w := by
 obtain ⟨i0, hi, hz0, hz1, hz2⟩ := info_parts infoJ9
 have n2 : ∀ j u, [Value.int .i64 y][j]? = some u → w.cell? ((⟨g, 0, none⟩ : Addr).add j) = some u := by
  intro j u hj
  match j, hj with
  | 0, hj => simp at hj; subst hj; simpa [Addr.add] using hc
  | j + 1, hj => simp at hj
 refine wpList_append_own _ hgd s x 28 ho B 3 i0 (.int .i64 0) 1 8 Try.underlying28 hi hz0 hz1 hz2 rfl (by decide) v xs.length (xs.map (Value.int .i64)) hs hown ⟨g, 0, none⟩ 1 1 [.int .i64 y] hx rfl n2
  (fun u hu => by simp at hu; subst hu; rfl) (by rw [show maxLen = 9223372036854775807 from rfl]; omega) hlen hB ?_
 intro v' w' h1 h2 _
 refine h v' w' ?_ ((Below.refl _ _).grown h2 hB (fun k hk => (World.ownsRow.lt hown k hk).1)) (fun e he => KeepT.grown hown h2 he)
 show World.ownsRow _ _ _ _ _ _ _
 simpa using h1
def OwnH (B : Nat) (w : World) (v : Value) (hs : List (List Pr)) : Prop := ∃ svs : List Value, svs.length = hs.length ∧ w.ownsRow B 30 1 v hs.length svs ∧ ∀ i, i < hs.length → OwnP 0 w (svs.getD i undef) (hs.getD i [])
theorem OwnH.nil (B : Nat) (w : World) : OwnH B w (.slice none 0 0) [] := ⟨[], rfl, World.ownsRow_nil _ _ _ _, fun i hi => by simp at hi⟩
theorem OwnH.keep {B : Nat} {w w' : World} {v : Value} {hs : List (List Pr)} (h : OwnH B w v hs) (k1 : KeepT 83 w w') (k2 : KeepT 30 w w') : OwnH B w' v hs := by
 obtain ⟨vs, h1, h2, h3⟩ := h
 exact ⟨vs, h1, rows_keepT h2 k2, fun i hi => rows_keepT (h3 i hi) k1⟩
theorem OwnH.shape {B : Nat} {w : World} {v : Value} {hs : List (List Pr)} (h : OwnH B w v hs) : ∃ a c, v = .slice a hs.length c := by
 obtain ⟨svs, h1, h2, h3⟩ := h
 rcases h2.2 with ⟨rfl, e⟩ | ⟨g, cap, cur, rfl, _⟩
 ·exact ⟨none, 0, by rw [e]⟩
 ·exact ⟨_, _, rfl⟩
theorem OwnH.at {B : Nat} {w : World} {a : Option Addr} {n c : Nat} {hs : List (List Pr)} (h : OwnH B w (.slice a n c) hs) {i : Nat} {l : List Pr} (hl : hs[i]? = some l) : ∃ g sv, a = some ⟨g, 0, none⟩ ∧ w.cell? ⟨g, i, none⟩ = some sv ∧ OwnP 0 w sv l := by
 obtain ⟨svs, h1, h2, h3⟩ := h
 have hi : i < hs.length := (List.getElem?_eq_some_iff.1 hl).1
 have e2 : hs.getD i [] = l := by rw [List.getD_eq_getElem?_getD, hl]; rfl
 have h4 := h3 i hi
 rw [e2] at h4
 rcases h2.2 with ⟨e, h0⟩ | ⟨g, cap, cur, e, hgb, hg, hn, hm, hs', ht⟩
 ·rw [h0] at hi; omega
 ·simp only [Value.slice.injEq] at e
  obtain ⟨rfl, rfl, rfl⟩ := e
  refine ⟨g, _, rfl, ?_, h4⟩
  rw [h2.cellAt i (by omega), List.getD_eq_getElem?_getD, List.getElem?_eq_getElem (by omega)]
  rfl
theorem infoH : (Try.prog.info? 30).map (fun i => (i.zero, i.size, i.bytes)) = some (some (.slice none 0 0), 1, 24) := by kernel_rfl
theorem wpList_appH {ops : Array Oper} {rest : List Oper} {o : Oper} {a : Act} {w : World} {Q : Exit → Act → World → Prop} (hgd : o.guard = none) (s x : Operand)
  (ho : o.op = .call { callee := .builtin .append, args := #[s, x], argTypes := #[29, 29] }) (B : Nat) (v : Value) (hs : List (List Pr)) (l : List Pr) (sv : Value) (g : Nat) (hs' : a.eval s = v) (hx : a.eval x = .slice (some ⟨g, 0, none⟩) 1 1)
  (hown : OwnH B w v hs) (hsv : OwnP 0 w sv l) (hone : sv.oneCell' = true) (hc : w.cell? ⟨g, 0, none⟩ = some sv) (hlen : (hs.length + 1) * 24 ≤ 140737488355328) (hB : B ≤ w.heap.size)
  (h : ∀ v' w', OwnH B w' v' (hs ++ [l]) → Below B w w' → (∀ e, e ≠ 30 → KeepT e w w') → wpList Try.prog ops Q rest (a.put o.dst v') w') : wpList Try.prog ops Q (o :: rest) a w := by
 obtain ⟨i0, hi, hz0, hz1, hz2⟩ := info_parts infoH
 obtain ⟨svs, h1, h2, h3⟩ := hown
 have n2 : ∀ j u, [sv][j]? = some u → w.cell? ((⟨g, 0, none⟩ : Addr).add j) = some u := by
  intro j u hj
  match j, hj with
  | 0, hj => simp at hj; subst hj; simpa [Addr.add] using hc
  | j + 1, hj => simp at hj
 refine wpList_append_own _ hgd s x 29 ho B 30 i0 (.slice none 0 0) 1 24 Try.underlying29 hi hz0 hz1 hz2 rfl (by decide) v hs.length svs hs' h2 ⟨g, 0, none⟩ 1 1 [sv] hx rfl n2
  (fun u hu => by simp at hu; subst hu; exact hone) (by rw [show maxLen = 9223372036854775807 from rfl]; omega) hlen hB ?_
 intro v' w' q1 q2 _
 have kk : ∀ e, e ≠ 30 → KeepT e w w' := fun e he => KeepT.grown h2 q2 he
 refine h v' w' ⟨svs ++ [sv], by simp [h1], by simpa using q1, ?_⟩ ((Below.refl _ _).grown q2 hB (fun k hk => (World.ownsRow.lt h2 k hk).1)) kk
 intro i hi'
 simp only [List.length_append, List.length_cons, List.length_nil] at hi'
 by_cases hlt : i < hs.length
 ·have e1 : (svs ++ [sv]).getD i undef = svs.getD i undef := by simp [List.getD_eq_getElem?_getD, List.getElem?_append_left (show i < svs.length by omega)]
  have e2 : (hs ++ [l]).getD i [] = hs.getD i [] := by simp [List.getD_eq_getElem?_getD, List.getElem?_append_left hlt]
  rw [e1, e2]
  exact rows_keepT (h3 i hlt) (kk _ (by decide))
 ·obtain rfl : i = hs.length := by omega
  have e1 : (svs ++ [sv]).getD hs.length undef = sv := by rw [← h1]; simp [List.getD_eq_getElem?_getD]
  have e2 : (hs ++ [l]).getD hs.length [] = l := by simp [List.getD_eq_getElem?_getD]
  rw [e1, e2]
  exact rows_keepT hsv (kk _ (by decide))
theorem tprs_old {t u : Tr} {ps q : List Pr} (hC : Chg t u ps) {r : Int} (h : tprs ⟨r, t.next, t.pages⟩ = some q) : tprs ⟨r, u.next, u.pages⟩ = some q := by
 obtain ⟨more, e, _, _⟩ := hC.pgs
 obtain ⟨hT, hl, s, hs, rfl⟩ := tprs_num h
 have hx : Ext t.pages u.pages := by rw [e]; exact ext_app _ _
 have hN : PNum ⟨r, u.next, u.pages⟩ := ⟨hC.num.1, hC.num.2.1, hC.num.2.2.1⟩
 unfold twalk at hs
 dsimp only at hs
 split at hs
 ·rename_i h0
  refine tprs_of (s := s) hN ?_ hl
  unfold twalk
  dsimp only
  rw [if_pos h0]
  exact hs
 ·rename_i h0
  obtain ⟨s', h1, h2⟩ := wk_ext hx hs
  rw [← h2]
  refine tprs_of (s := s') hN ?_ (by rw [h2]; exact hl)
  unfold twalk
  dsimp only
  rw [if_neg h0]
  exact h1
theorem tatE_old {t : Tr} {ps q : List Pr} (h : tprs t = some ps) {r : Int} (hr : tprs ⟨r, t.next, t.pages⟩ = some q) : tatE t r = 0 := by
 have h1 : tcheck t = 0 := by unfold tcheck; rw [h]
 have h2 : tcheck ⟨r, t.next, t.pages⟩ = 0 := by unfold tcheck; rw [hr]
 unfold tatE
 rw [if_neg (by rw [h1]; simp), if_neg ?_, h2]
 rintro ⟨h3, h4⟩
 rcases (tprs_num hr).1.2.2.2 with h5 | h5
 ·exact h3 h5
 ·exact h5 h4
end Go.Proofs.Ytmmjdacjcipgjaa

namespace Go.Proofs.Ytmmjdacjcipgjaa
def frm (l : List Wrt) : Nat → Int → List Int → List Int
 | 0, id, R => if id ∈ R then R else id :: R
 | d + 1, id, R => if id ∈ R then R else (nodeAt l id).kids.foldl (fun R k => frm l d k R) (id :: R)
theorem frm_in {l : List Wrt} {d : Nat} {id : Int} {R : List Int} (h : id ∈ R) : frm l d id R = R := by
 cases d <;> simp [frm, h]
theorem fold_kids {g : Int → List Int → List Int} (S : Int → List Int) (hg : ∀ k R, k ∈ R → g k R = R) :
  ∀ (ks : List Int) (R : List Int), (∀ k ∈ ks, ∀ R', (∀ p ∈ S k, p ∈ R' → p ∈ R) → (∀ x ∈ R, x ∈ R') → ∀ x, x ∈ g k R' ↔ x ∈ R' ∨ x ∈ S k) → (ks.flatMap S).Nodup → (Q : List Int) → (∀ x ∈ R, x ∈ Q) → (∀ k ∈ ks, ∀ p ∈ S k, p ∈ Q → p ∈ R) →
   ∀ x, x ∈ ks.foldl (fun R k => g k R) Q ↔ x ∈ Q ∨ x ∈ ks.flatMap S
 | [], R, _, _, Q, _, _, x => by simp
 | k :: r, R, h, hn, Q, hQ, hp, x => by
  rw [List.flatMap_cons, List.nodup_append] at hn
  obtain ⟨n1, n2, n3⟩ := hn
  rw [List.foldl_cons]
  have h1 := h k (by simp) Q (hp k (by simp)) hQ
  rw [fold_kids S hg r R (fun k' hk' => h k' (by simp [hk'])) n2 (g k Q) (fun y hy => (h1 y).2 (.inl (hQ y hy))) ?_ x, h1 x, List.flatMap_cons, List.mem_append, or_assoc]
  intro k' hk' p hp1 hp2
  rcases (h1 p).1 hp2 with h2 | h2
  ·exact hp k' (by simp [hk']) p hp1 h2
  ·exact absurd rfl (n3 p h2 p (List.mem_flatMap.2 ⟨k', hk', hp1⟩))
theorem nodup_kid {S : Int → List Int} : ∀ {ks : List Int} {k : Int}, (ks.flatMap S).Nodup → k ∈ ks → (S k).Nodup
 | [], k, _, h => by cases h
 | a :: r, k, hn, h => by
  rw [List.flatMap_cons, List.nodup_append] at hn
  rcases List.mem_cons.1 h with rfl | h
  ·exact hn.1
  ·exact nodup_kid hn.2.1 h
theorem ids_self (l : List Wrt) (d : Nat) (id : Int) : id ∈ idsOf l d id := by cases d <;> simp [idsOf]
theorem ids_closed {l : List Wrt} {R : List Int} : ∀ {d : Nat} {id : Int} {lo : Str} {hi : Option Str}, TOk l d id lo hi → (∀ p ∈ idsOf l d id, p ∈ R → ∀ k ∈ (nodeAt l p).kids, k ∈ R) → id ∈ R → ∀ x ∈ idsOf l d id, x ∈ R
 | 0, id, lo, hi, _, _, h, x, hx => by
  simp only [idsOf, List.mem_singleton] at hx
  rw [hx]; exact h
 | d + 1, id, lo, hi, ⟨nd, hN, h1, h2, h3⟩, hc, h, x, hx => by
  rw [idsOf, List.mem_cons] at hx
  rcases hx with rfl | hx
  ·exact h
  ·obtain ⟨k, hk, hx⟩ := List.mem_flatMap.1 hx
   have hkR := hc id (ids_self l _ id) h k hk
   rw [hN.at] at hk
   obtain ⟨i, hi9⟩ := mem_at hk
   exact ids_closed (h3 i k hi9) (fun p hp => hc p (by rw [idsOf, hN.at]; exact List.mem_cons_of_mem _ (List.mem_flatMap.2 ⟨k, hk, hp⟩))) hkR x hx
theorem frm_mem {l : List Wrt} : ∀ {d : Nat} {id : Int} {lo : Str} {hi : Option Str} {R : List Int}, TOk l d id lo hi → (idsOf l d id).Nodup → (∀ p ∈ idsOf l d id, p ∈ R → ∀ k ∈ (nodeAt l p).kids, k ∈ R) → ∀ x, x ∈ frm l d id R ↔ x ∈ R ∨ x ∈ idsOf l d id
 | 0, id, lo, hi, R, h, hn, hc, x => by
  by_cases e : id ∈ R
  ·rw [frm_in e, idsOf, List.mem_singleton]
   exact ⟨.inl, fun h => h.elim (fun h => h) fun h => by rw [h]; exact e⟩
  ·rw [frm, if_neg e, idsOf, List.mem_cons, List.mem_singleton, Or.comm]
 | d + 1, id, lo, hi, R, h, hn, hc, x => by
  by_cases e : id ∈ R
  ·rw [frm_in e]
   exact ⟨.inl, fun h9 => h9.elim (fun h => h) fun h9 => ids_closed h hc e x h9⟩
  ·obtain ⟨nd, hN, h1, h2, h3⟩ := h
   have hn' := hn
   rw [idsOf, List.nodup_cons] at hn'
   rw [frm, if_neg e, fold_kids (g := fun k R => frm l d k R) (idsOf l d) (fun k R hk => frm_in hk) _ (id :: R) ?_ hn'.2 (id :: R) (fun y hy => hy) (fun k hk p hp h => h) x, idsOf, List.mem_cons, List.mem_cons]
   ·rw [or_assoc, or_left_comm]
   ·intro k hk R' hp hR x
    have hk' := hk
    rw [hN.at] at hk'
    obtain ⟨i, hi9⟩ := mem_at hk'
    have hnk : (idsOf l d k).Nodup := nodup_kid hn'.2 hk
    refine frm_mem (h3 i k hi9) hnk (fun p hp1 hp2 q hq => ?_) x
    have h5 := hp p hp1 hp2
    have h6 : p ∈ (nodeAt l id).kids.flatMap (idsOf l d) := List.mem_flatMap.2 ⟨k, hk, hp1⟩
    rcases List.mem_cons.1 h5 with h5 | h5
    ·rw [h5] at h6; exact absurd h6 hn'.1
    ·exact hR q (List.mem_cons_of_mem _ (hc p (by rw [idsOf]; exact List.mem_cons_of_mem _ h6) h5 q hq))
def seenOf (t : Tr) : List Int := ((twalk t).map (·.seen)).getD []
abbrev atR (t : Tr) (r : Int) : Tr := ⟨r, t.next, t.pages⟩
def Lv (t : Tr) (rs : List Int) (x : Int) : Prop := x ∈ seenOf t ∨ ∃ r ∈ rs, x ∈ seenOf (atR t r)
theorem seen_top {t : Tr} {d : Nat} {ps : List Pr} (h : TTop t d ps) : ∀ x, x ∈ seenOf t ↔ t.root ≠ 0 ∧ x ∈ idsOf t.pages d t.root := by
 intro x
 unfold seenOf twalk
 rcases h with ⟨h0, _, rfl⟩ | ⟨h0, hd, h1, h2, rfl⟩
 ·rw [if_pos h0]; simp [h0]
 ·rw [if_neg h0]
  have := wk_of (l := t.pages) (e := 15 - d) d t.root [] none ⟨[], none, []⟩ h1 h2 (fun i _ => by simp) (.inl rfl)
  rw [show 15 - d + 1 + d = 16 by omega] at this
  rw [this]
  simp [h0]
theorem ids_kids {l : List Wrt} : ∀ {d : Nat} {id : Int} {lo : Str} {hi : Option Str}, TOk l d id lo hi → ∀ p ∈ idsOf l d id, ∀ k ∈ (nodeAt l p).kids, k ∈ idsOf l d id
 | 0, id, lo, hi, ⟨nd, hN, h1, h2, h3⟩, p, hp, k, hk => by
  simp only [idsOf, List.mem_singleton] at hp
  rw [hp, hN.at] at hk
  have hc := hN.ok.2.1
  unfold ncount at hc
  rw [if_pos h1] at hc
  rw [List.eq_nil_of_length_eq_zero hc.2] at hk
  cases hk
 | d + 1, id, lo, hi, ⟨nd, hN, h1, h2, h3⟩, p, hp, k, hk => by
  rw [idsOf, List.mem_cons] at hp ⊢
  rcases hp with rfl | hp
  ·exact .inr (List.mem_flatMap.2 ⟨k, hk, ids_self l d k⟩)
  ·obtain ⟨q, hq, hp⟩ := List.mem_flatMap.1 hp
   have hq' := hq
   rw [hN.at] at hq'
   obtain ⟨i, hi9⟩ := mem_at hq'
   exact .inr (List.mem_flatMap.2 ⟨q, hq, ids_kids (h3 i q hi9) p hp k hk⟩)
theorem ids_page {l : List Wrt} : ∀ {d : Nat} {id : Int} {lo : Str} {hi : Option Str}, TOk l d id lo hi → ∀ p ∈ idsOf l d id, tpage l p ≠ none
 | 0, id, lo, hi, h, p, hp => by
  simp only [idsOf, List.mem_singleton] at hp
  rw [hp]; exact h.is
 | d + 1, id, lo, hi, h, p, hp => by
  have his := h.is
  obtain ⟨nd, hN, h1, h2, h3⟩ := h
  rw [idsOf, List.mem_cons] at hp
  rcases hp with rfl | hp
  ·exact his
  ·obtain ⟨q, hq, hp⟩ := List.mem_flatMap.1 hp
   rw [hN.at] at hq
   obtain ⟨i, hi9⟩ := mem_at hq
   exact ids_page (h3 i q hi9) p hp
def Clo (l : List Wrt) (R : List Int) : Prop := ∀ p ∈ R, ∀ k ∈ (nodeAt l p).kids, k ∈ R
theorem frm_top {t : Tr} {d : Nat} {ps : List Pr} (h : TTop t d ps) (h0 : t.root ≠ 0) {R : List Int} (hc : Clo t.pages R) : (∀ x, x ∈ frm t.pages d t.root R ↔ x ∈ R ∨ x ∈ seenOf t) ∧ Clo t.pages (frm t.pages d t.root R) := by
 have hs := seen_top h
 rcases h with ⟨h9, _⟩ | ⟨_, hd, h1, h2, rfl⟩
 ·exact absurd h9 h0
 ·have hm : ∀ x, x ∈ frm t.pages d t.root R ↔ x ∈ R ∨ x ∈ idsOf t.pages d t.root := frm_mem h1 h2 fun p _ hp k hk => hc p hp k hk
  refine ⟨fun x => by rw [hm x, hs x]; simp [h0], fun p hp k hk => ?_⟩
  rw [hm] at hp ⊢
  rcases hp with hp | hp
  ·exact .inl (hc p hp k hk)
  ·exact .inr (ids_kids h1 p hp k hk)
theorem seen_page {t : Tr} {d : Nat} {ps : List Pr} (h : TTop t d ps) : ∀ x ∈ seenOf t, tpage t.pages x ≠ none := by
 intro x hx
 have hs := (seen_top h x).1 hx
 rcases h with ⟨h9, _⟩ | ⟨_, hd, h1, h2, rfl⟩
 ·exact absurd h9 hs.1
 ·exact ids_page h1 x hs.2
theorem seen_root {t : Tr} {d : Nat} {ps : List Pr} (h : TTop t d ps) (h0 : t.root ≠ 0) : t.root ∈ seenOf t := (seen_top h t.root).2 ⟨h0, ids_self _ _ _⟩
theorem ndp_len {α : Type} [BEq α] [LawfulBEq α] : ∀ {a b : List α}, a.Nodup → (∀ x ∈ a, x ∈ b) → a.length ≤ b.length
 | [], b, _, _ => Nat.zero_le _
 | x :: r, b, hn, h => by
  rw [List.nodup_cons] at hn
  have hx := h x (by simp)
  have := ndp_len (a := r) (b := b.erase x) hn.2 fun y hy => by
   rw [List.mem_erase_of_ne]
   ·exact h y (by simp [hy])
   ·rintro rfl; exact hn.1 hy
  rw [List.length_erase_of_mem hx] at this
  have hp := List.length_pos_of_mem hx
  simp only [List.length_cons]
  omega
theorem rise_eq : ∀ {a b : List Int}, a.Pairwise (· < ·) → b.Pairwise (· < ·) → (∀ x, x ∈ a ↔ x ∈ b) → a = b
 | [], [], _, _, _ => rfl
 | [], y :: r, _, _, h => by have := (h y).2 (by simp); cases this
 | y :: r, [], _, _, h => by have := (h y).1 (by simp); cases this
 | x :: a, y :: b, ha, hb, h => by
  rw [List.pairwise_cons] at ha hb
  have e : x = y := by
   have h1 := (h x).1 (by simp)
   have h2 := (h y).2 (by simp)
   rcases List.mem_cons.1 h1 with h1 | h1
   ·exact h1
   ·rcases List.mem_cons.1 h2 with h2 | h2
    ·exact h2.symm
    ·have := hb.1 x h1; have := ha.1 y h2; omega
  subst e
  congr 1
  refine rise_eq ha.2 hb.2 fun z => ?_
  have hz := h z
  simp only [List.mem_cons] at hz
  constructor
  ·intro h1
   rcases hz.1 (.inr h1) with h2 | h2
   ·have := ha.1 z h1; omega
   ·exact h2
  ·intro h1
   rcases hz.2 (.inr h1) with h2 | h2
   ·have := hb.1 z h1; omega
   ·exact h2
def LvR (t : Tr) (rs : List Int) (a : List Int) : Prop := a.Pairwise (· < ·) ∧ ∀ x, x ∈ a ↔ Lv t rs x
theorem LvR.eq {t : Tr} {rs a b : List Int} (h : LvR t rs a) (k : LvR t rs b) : a = b := rise_eq h.1 k.1 fun x => (h.2 x).trans (k.2 x).symm
def LvOk (t : Tr) (rs : List Int) : Prop := (∃ ps, tprs t = some ps) ∧ ∀ r ∈ rs, ∃ ps, tprs (atR t r) = some ps
theorem tprs_top {t : Tr} {ps : List Pr} (h : tprs t = some ps) : ∃ d, TTop t d ps ∧ TNum t ∧ ps.length ≤ 4096 := by
 unfold tprs at h
 split at h
 ·rename_i hT
  cases hw : twalk t with
  | none => rw [hw] at h; cases h
  | some s =>
   rw [hw] at h
   simp only [Option.bind_some] at h
   split at h
   ·rename_i hl
    have e := Option.some.inj h
    obtain ⟨d, hd⟩ := ttop_of hw
    rw [e] at hd
    exact ⟨d, hd, hT, by rw [← e]; exact hl⟩
   ·cases h
 ·cases h
theorem lv_page {t : Tr} {rs : List Int} (h : LvOk t rs) {x : Int} (hx : Lv t rs x) : tpage t.pages x ≠ none := by
 rcases hx with hx | ⟨r, hr, hx⟩
 ·obtain ⟨ps, h1⟩ := h.1
  obtain ⟨d, h2, _⟩ := tprs_top h1
  exact seen_page h2 x hx
 ·obtain ⟨ps, h1⟩ := h.2 r hr
  obtain ⟨d, h2, _⟩ := tprs_top h1
  exact seen_page h2 x hx
theorem tpage_mem : ∀ {l : List Wrt} {id : Int} {x : List UInt8}, tpage l id = some x → (id, x) ∈ l
 | [], id, x, h => by cases h
 | y :: r, id, x, h => by
  unfold tpage at h
  split at h
  ·rename_i e
   cases h; subst e; exact List.mem_cons_self ..
  ·exact List.mem_cons_of_mem _ (tpage_mem h)
theorem tups_rise {next : Int} {l : List Wrt} (h : tups next l l.length) : (l.map (·.1)).Pairwise (· < ·) := by
 have hu := tups_up h
 rw [List.pairwise_iff_getElem]
 intro i j hi hj hij
 rw [List.length_map] at hi hj
 have := hu i j hij hj
 rw [tid_at (List.getElem?_eq_getElem hi), tid_at (List.getElem?_eq_getElem hj)] at this
 simpa using this
theorem tups_of {next : Int} {l : List Wrt} (h1 : (l.map (·.1)).Pairwise (· < ·)) (h2 : ∀ y ∈ l, 0 < y.1 ∧ y.1 < next) : tups next l l.length := by
 intro i hi
 rw [tid_at (List.getElem?_eq_getElem hi)]
 refine ⟨?_, (h2 _ (List.getElem_mem hi)).2⟩
 split
 ·exact (h2 _ (List.getElem_mem hi)).1
 ·rename_i h0
  have hi' : i - 1 < l.length := by omega
  rw [tid_at (List.getElem?_eq_getElem hi')]
  have := List.pairwise_iff_getElem.1 h1 (i - 1) i (by simpa using hi') (by simpa using hi) (by omega)
  simpa using this
theorem tups_bd {next : Int} {l : List Wrt} (h : tups next l l.length) : ∀ y ∈ l, 0 < y.1 ∧ y.1 < next := by
 intro y hy
 obtain ⟨i, hi⟩ := mem_at hy
 have hl := (List.getElem?_eq_some_iff.1 hi).1
 have h1 := (h i hl).2
 have h2 := tups_ge h i hl
 rw [tid_at hi] at h1 h2
 omega
def keepP (a : List Int) (l : List Wrt) : List Wrt := l.filter fun y => decide (y.1 ∈ a)
abbrev swT (t : Tr) (a : List Int) : Tr := ⟨t.root, t.next, keepP a t.pages⟩
theorem tpage_keep (a : List Int) : ∀ (l : List Wrt) (id : Int), tpage (keepP a l) id = if id ∈ a then tpage l id else none
 | [], id => by simp [keepP, tpage]
 | y :: r, id => by
  have ih := tpage_keep a r id
  unfold keepP at ih ⊢
  rw [List.filter_cons]
  by_cases hy : y.1 ∈ a
  ·rw [if_pos (by simpa using hy)]
   by_cases e : y.1 = id
   ·subst e; simp [tpage, hy]
   ·simp only [tpage, if_neg e]; exact ih
  ·rw [if_neg (by simpa using hy), ih]
   by_cases e : y.1 = id
   ·subst e; rw [if_neg hy, if_neg hy]
   ·simp only [tpage, if_neg e]
theorem tups_keep {next : Int} {l : List Wrt} (a : List Int) (h : tups next l l.length) : tups next (keepP a l) (keepP a l).length :=
 tups_of ((tups_rise h).sublist ((List.filter_sublist).map _)) fun y hy => tups_bd h y (List.mem_filter.1 hy).1
theorem TOk.part {l l' : List Wrt} : ∀ {d : Nat} {id : Int} {lo : Str} {hi : Option Str}, TOk l d id lo hi → (∀ p ∈ idsOf l d id, tpage l' p = tpage l p) → TOk l' d id lo hi ∧ idsOf l' d id = idsOf l d id ∧ pOf l' d id = pOf l d id
 | 0, id, lo, hi, ⟨nd, hN, h1, h2, h3⟩, h => by
  have hN' : NdIs l' id nd := by
   obtain ⟨x, a, b⟩ := hN
   exact ⟨x, (h id (ids_self _ _ _)).trans a, b⟩
  exact ⟨⟨nd, hN', h1, h2, h3⟩, rfl, by rw [pOf, pOf, hN.at, hN'.at]⟩
 | d + 1, id, lo, hi, ⟨nd, hN, h1, h2, h3⟩, h => by
  have hN' : NdIs l' id nd := by
   obtain ⟨x, a, b⟩ := hN
   exact ⟨x, (h id (ids_self _ _ _)).trans a, b⟩
  have hk : ∀ (i : Nat) kid, nd.kids[i]? = some kid → ∀ p ∈ idsOf l d kid, tpage l' p = tpage l p := fun i kid hk p hp =>
   h p (by rw [idsOf, hN.at]; exact List.mem_cons_of_mem _ (List.mem_flatMap.2 ⟨kid, List.mem_of_getElem? hk, hp⟩))
  refine ⟨⟨nd, hN', h1, h2, fun i kid hi => (TOk.part (h3 i kid hi) (hk i kid hi)).1⟩, ?_, ?_⟩
  ·rw [idsOf, idsOf, hN.at, hN'.at]
   congr 1
   exact flatMap_same _ fun x hx => by obtain ⟨i, hi⟩ := mem_at hx; exact (TOk.part (h3 i x hi) (hk i x hi)).2.1
  ·rw [pOf, pOf, hN.at, hN'.at]
   exact flatMap_same _ fun x hx => by obtain ⟨i, hi⟩ := mem_at hx; exact (TOk.part (h3 i x hi) (hk i x hi)).2.2
theorem part_top {t u : Tr} {d : Nat} {ps : List Pr} (h : TTop t d ps) (hr : u.root = t.root) (hp : ∀ x ∈ seenOf t, tpage u.pages x = tpage t.pages x) : TTop u d ps ∧ ∀ x, x ∈ seenOf u ↔ x ∈ seenOf t := by
 have hs := seen_top h
 have hu : TTop u d ps ∧ (t.root ≠ 0 → idsOf u.pages d u.root = idsOf t.pages d t.root) := by
  rcases h with ⟨h0, h1, h2⟩ | ⟨h0, hd, h1, h2, rfl⟩
  ·exact ⟨.inl ⟨hr.trans h0, h1, h2⟩, fun h => absurd h0 h⟩
  ·obtain ⟨a, b, c⟩ := TOk.part (l' := u.pages) h1 fun p hp' => hp p ((hs p).2 ⟨h0, hp'⟩)
   refine ⟨.inr ⟨by rw [hr]; exact h0, hd, by rw [hr]; exact a, by rw [hr, b]; exact h2, by rw [hr, c]⟩, fun _ => by rw [hr, b]⟩
 refine ⟨hu.1, fun x => ?_⟩
 rw [seen_top hu.1 x, hs x, hr]
 constructor
 ·rintro ⟨a, b⟩; rw [← hr, hu.2 a] at b; exact ⟨a, b⟩
 ·rintro ⟨a, b⟩; rw [← hu.2 a, hr] at b; exact ⟨a, b⟩
theorem top_prs {t : Tr} {d : Nat} {ps : List Pr} (h : TTop t d ps) (hN : TNum t) (hl : ps.length ≤ 4096) : tprs t = some ps := by
 obtain ⟨s, h1, h2⟩ := ttop_to h
 unfold tprs
 rw [if_pos hN, h1]
 simp only [Option.bind_some]
 rw [h2, if_pos hl]
theorem sweep_prs {t : Tr} {rs a : List Int} (hA : LvR t rs a) {r : Int} {ps : List Pr} (hps : tprs (atR t r) = some ps) (hr : ∀ x ∈ seenOf (atR t r), Lv t rs x) : tprs (atR (swT t a) r) = some ps ∧ ∀ x, x ∈ seenOf (atR (swT t a) r) ↔ x ∈ seenOf (atR t r) := by
 obtain ⟨d, h1, h2, h3⟩ := tprs_top hps
 obtain ⟨h4, h5⟩ := part_top (u := atR (swT t a) r) h1 rfl fun x hx => by
  show tpage (keepP a t.pages) x = tpage t.pages x
  rw [tpage_keep, if_pos ((hA.2 x).2 (hr x hx))]
 refine ⟨top_prs h4 ⟨h2.1, h2.2.1, tups_keep a h2.2.2.1, ?_⟩ h3, h5⟩
 show r = 0 ∨ tpage (keepP a t.pages) r ≠ none
 by_cases h0 : r = 0
 ·exact .inl h0
 ·refine .inr ?_
  have := seen_root h1 h0
  rw [tpage_keep, if_pos ((hA.2 r).2 (hr r this))]
  exact seen_page h1 r this
theorem lv_own {t : Tr} (rs : List Int) : ∀ x ∈ seenOf (atR t t.root), Lv t rs x := fun x hx => .inl hx
theorem lv_root {t : Tr} {rs : List Int} {r : Int} (hr : r ∈ rs) : ∀ x ∈ seenOf (atR t r), Lv t rs x := fun x hx => .inr ⟨r, hr, hx⟩
theorem sweep_lv {t : Tr} {rs a : List Int} (hA : LvR t rs a) (h : LvOk t rs) : LvOk (swT t a) rs ∧ LvR (swT t a) rs a := by
 obtain ⟨ps, h1⟩ := h.1
 obtain ⟨s1, s2⟩ := sweep_prs (r := t.root) hA h1 (lv_own rs)
 refine ⟨⟨⟨ps, s1⟩, fun r hr => ?_⟩, hA.1, fun x => ?_⟩
 ·obtain ⟨q, hq⟩ := h.2 r hr
  exact ⟨q, (sweep_prs hA hq (lv_root hr)).1⟩
 ·rw [hA.2 x]
  constructor
  ·rintro (hx | ⟨r, hr, hx⟩)
   ·exact .inl ((s2 x).2 hx)
   ·obtain ⟨q, hq⟩ := h.2 r hr
    exact .inr ⟨r, hr, ((sweep_prs hA hq (lv_root hr)).2 x).2 hx⟩
  ·rintro (hx | ⟨r, hr, hx⟩)
   ·exact .inl ((s2 x).1 hx)
   ·obtain ⟨q, hq⟩ := h.2 r hr
    exact .inr ⟨r, hr, ((sweep_prs hA hq (lv_root hr)).2 x).1 hx⟩
theorem keep_keep (a : List Int) (l : List Wrt) : keepP a (keepP a l) = keepP a l := by
 unfold keepP
 rw [List.filter_filter]
 simp
theorem keep_len {t : Tr} {rs a : List Int} (hA : LvR t rs a) (h : LvOk t rs) : (keepP a t.pages).length = a.length := by
 obtain ⟨ps, h1⟩ := h.1
 obtain ⟨d, h2, h3, _⟩ := tprs_top h1
 have hk := tups_rise (tups_keep a h3.2.2.1)
 have e : (keepP a t.pages).map (·.1) = a := by
  refine rise_eq hk hA.1 fun x => ?_
  constructor
  ·intro hx
   obtain ⟨y, hy, rfl⟩ := List.mem_map.1 hx
   simpa using (List.mem_filter.1 hy).2
  ·intro hx
   have := lv_page h ((hA.2 x).1 hx)
   cases hp : tpage t.pages x with
   | none => exact absurd hp this
   | some z => exact List.mem_map.2 ⟨(x, z), List.mem_filter.2 ⟨tpage_mem hp, by simpa using hx⟩, rfl⟩
 have := congrArg List.length e
 simpa using this
theorem keep_le (a : List Int) (l : List Wrt) : (keepP a l).length ≤ l.length := List.length_filter_le _ _
end Go.Proofs.Ytmmjdacjcipgjaa

namespace Go.Proofs.Ytmmjdacjcipgjaa
open Go.RowKit
set_option maxRecDepth 100000 in
set_option maxHeartbeats 2000000 in
theorem vdcl_any (w : World) (a b : Int) (u : Value) (hu : u.oneCell' = true) : Calls Try.prog 103 #[.agg #[.int .i64 a, u], .int .i64 b] w fun e w' => e = .returned (.int .i64 (icmp a b)) ∧ Below w.heap.size w w' := by
 obtain ⟨W, hW, D, bW, sW⟩ := boxedN w #[.int .i64 a, u] 60
 obtain ⟨⟨D0, D1⟩, _⟩ := cells2r D
 have K1 := hide (pcmpi_any W a b)
 have HB := hide bW
 rw [hW] at D0 D1 K1 HB
 clear D bW
 go_enter Try.func103, Try.ntmps103
 go_wp2_with fail
 refine K1.out.mono ?_
 rintro e w1 ⟨rfl, rfl⟩
 go_wp2
 go_ret
 exact ⟨rfl, HB.out⟩
set_option maxRecDepth 100000 in
set_option maxHeartbeats 2000000 in
theorem vbsf_at (w0 w : World) (pv : Value) (ps : List Wrt) (id : Int) (h : RdC w0 pv ps) (h0 : Below w0.heap.size w0 w) (hu : tUp ps) (hl : ps.length ≤ 65536) :
  Calls Try.prog 61 #[pv, .int .i64 id, .func (.func 103) #[] #[]] w fun e w' => BsR w w' ps id e := by
 obtain ⟨a, c, rfl⟩ := h.slice
 obtain ⟨L, hL⟩ : ∃ L, L = ps.length := ⟨_, rfl⟩
 rw [← hL] at hl
 have HH := hide h
 have H0 := hide h0
 rw [← hL] at HH ⊢
 replace hL := hide hL
 have HK : Hid (∀ t s, t < s → s < L → tid ps t < tid ps s) := fun t s h1 h2 => hu t s h1 (by rw [← hL.out]; exact h2)
 have KC := hide (fun w a u hu => vdcl_any w a id u hu)
 clear hu h h0
 go_enter Try.func61, Try.ntmps61
 go_wp2
 go_loopw [9, 10] (fun p q wr => ∃ i j : Nat, i ≤ j ∧ j ≤ L ∧ p = .int .i64 i ∧ q = .int .i64 j ∧ Hid (Below w.heap.size w wr ∧ (∀ t, t < i → tid ps t < id) ∧ ∀ t, j ≤ t → t < L → id ≤ tid ps t)) (fun p q _ => (intOf q).toNat - (intOf p).toNat)
 case atStart => exact ⟨0, L, Nat.zero_le _, Nat.le_refl _, rfl, rfl, hide ⟨Below.refl _ _, fun t h => by omega, fun t h1 h2 => by omega⟩⟩
 case round =>
  obtain ⟨i, j, hij, hjL, rfl, rfl, hI⟩ := hrel
  have HW := hide (H0.out.trans (hI.out.1.mono H0.out.size))
  by_cases hlt : i < j
  ·have hq : (i : Int) < (j : Int) := by omega
   obtain ⟨s, hs⟩ : ∃ s : Nat, (i : Int) + (j : Int) = (s : Int) := ⟨i + j, by omega⟩
   have hs1 : IntKind.i64.wrap (s : Int) = (s : Int) := IntWalk.i64_in _ (by omega)
   obtain ⟨m, hm⟩ : ∃ m : Nat, (s : Int) / 2 = (m : Int) := ⟨s / 2, by omega⟩
   have hm2 : (m : Int) < (L : Int) := by omega
   have hmi : Hid (i ≤ m ∧ m < j) := by show _ ∧ _; omega
   obtain ⟨y, hy⟩ := some_el ps (k := m) (by rw [← hL.out]; omega)
   have hny := hide (tid_at hy)
   obtain ⟨b, off, u, rfl, hc1, hc2, hr⟩ := HH.out.wrt hy
   obtain ⟨au, cu, rfl⟩ := hr.slice
   replace hc1 := (HW.out.cell (cell_lt hc1)).trans hc1
   replace hc2 := (HW.out.cell (cell_lt hc2)).trans hc2
   replace hy := hide hy
   obtain ⟨z, hz⟩ : ∃ z, z = y.1 := ⟨_, rfl⟩
   rw [← hz] at hc1
   replace hz := hide hz
   clear hr
   go_wp2_with fail
   refine (KC.out _ _ _ rfl).mono ?_
   rintro e w1 ⟨rfl, b1⟩
   by_cases hlx : z < id
   ·have hI' : Hid (Below w.heap.size w w1 ∧ (∀ t, t < m + 1 → tid ps t < id) ∧ ∀ t, j ≤ t → t < L → id ≤ tid ps t) := ⟨hI.out.1.trans (b1.mono hI.out.1.size), fun t ht => by
     by_cases e : t = m
     ·subst e; rw [hny.out, ← hz.out]; exact hlx
     ·have h1 := HK.out t m (by omega) (by omega)
      rw [hny.out, ← hz.out] at h1
      omega, hI.out.2.2⟩
    have hcm : icmp z id = -1 := by rw [icmp, if_pos hlx]
    rw [hcm]
    clear b1 hcm
    replace hlx := hide hlx
    go_wp2
    go_roundw
    case rel => exact ⟨m + 1, j, by have := hmi.out; omega, hjL, by go_num, rfl, hI'⟩
    case measure => have := hmi.out; simp [intOf]; omega
   ·have hI' : Hid (Below w.heap.size w w1 ∧ (∀ t, t < i → tid ps t < id) ∧ ∀ t, m ≤ t → t < L → id ≤ tid ps t) := ⟨hI.out.1.trans (b1.mono hI.out.1.size), hI.out.2.1, fun t h1 h2 => by
     by_cases e : t = m
     ·subst e; rw [hny.out, ← hz.out]; omega
     ·have h3 := HK.out m t (by omega) h2
      rw [hny.out, ← hz.out] at h3
      omega⟩
    obtain ⟨q, hq9⟩ : ∃ q, q = icmp z id := ⟨_, rfl⟩
    have hcm : ¬ q < 0 := by rw [hq9, icmp, if_neg hlx]; split <;> omega
    rw [← hq9]
    clear b1 hq9
    replace hlx := hide hlx
    go_wp2
    go_roundw
    case rel => exact ⟨i, m, hmi.out.1, by have := hmi.out; omega, rfl, rfl, hI'⟩
    case measure => have := hmi.out; simp [intOf]; omega
  ·have hq : ¬ (i : Int) < (j : Int) := by omega
   obtain rfl : i = j := by omega
   by_cases hiL : i < L
   ·have hq2 : (i : Int) < (L : Int) := by omega
    obtain ⟨y, hy⟩ := some_el ps (k := i) (by rw [← hL.out]; omega)
    have hny := hide (tid_at hy)
    obtain ⟨b, off, u, rfl, hc1, hc2, hr⟩ := HH.out.wrt hy
    obtain ⟨au, cu, rfl⟩ := hr.slice
    replace hc1 := (HW.out.cell (cell_lt hc1)).trans hc1
    replace hc2 := (HW.out.cell (cell_lt hc2)).trans hc2
    replace hy := hide hy
    obtain ⟨z, hz⟩ : ∃ z, z = y.1 := ⟨_, rfl⟩
    rw [← hz] at hc1
    replace hz := hide hz
    clear hr
    go_wp2_with fail
    refine (KC.out _ _ _ rfl).mono ?_
    rintro e w1 ⟨rfl, b1⟩
    have HE := hide (hI.out.1.trans (b1.mono hI.out.1.size))
    by_cases he : z = id
    ·have hcm : icmp z id = 0 := by rw [icmp, if_neg (by omega), if_neg (by omega)]
     have hR : Hid (∃ y, ps[i]? = some y ∧ y.1 = id) := ⟨y, hy.out, by rw [← hz.out]; exact he⟩
     rw [hcm]
     clear b1 hcm
     replace he := hide he
     go_wp2
     go_ret2
     exact ⟨i, true, rfl, .inl ⟨rfl, hR.out⟩, HE.out⟩
    ·have hp : Hid (tpage ps id = none) := tpage_none fun t ht => by
      by_cases h1 : t < i
      ·have := hI.out.2.1 t h1; omega
      ·by_cases h2 : t = i
       ·subst h2; rw [hny.out, ← hz.out]; exact he
       ·have h3 := HK.out i t (by omega) (by rw [hL.out]; exact ht)
        have h4 := hI.out.2.2 i (Nat.le_refl _) hiL
        omega
     obtain ⟨q, hq9⟩ : ∃ q, q = icmp z id := ⟨_, rfl⟩
     have hcm : (q == 0) = false := by
      have : q ≠ 0 := by
       rw [hq9, icmp]
       split
       ·omega
       ·split <;> omega
      simpa using this
     rw [← hq9]
     clear b1 hq9
     replace he := hide he
     go_wp2
     go_ret2
     exact ⟨i, false, rfl, .inr ⟨rfl, hp.out⟩, HE.out⟩
   ·have hq2 : ¬ (i : Int) < (L : Int) := by omega
    have hp : Hid (tpage ps id = none) := tpage_none fun t ht => by have := hI.out.2.1 t (by rw [← hL.out] at ht; omega); omega
    go_wp2
    go_ret2
    exact ⟨i, false, rfl, .inr ⟨rfl, hp.out⟩, hI.out.1⟩
abbrev sev (pv : Value) (bm : Nat) : Value := .agg #[pv, .map (some bm)]
set_option maxRecDepth 100000 in
set_option maxHeartbeats 2000000 in
theorem vkids_at (w0 w : World) (pv : Value) (ps : List Wrt) (bm : Nat) (id : Int) (h : RdC w0 pv ps) (h0 : Below w0.heap.size w0 w) (hu : tUp ps) (hl : ps.length ≤ 65536) {x : List UInt8} {nd : Nd} (hx : tpage ps id = some x) (hd : ndec x = (nd, 0)) :
  Calls Try.prog 83 #[sev pv bm, .int .i64 id] w fun e w' => ∃ dv, e = .returned dv ∧ OwnJ w.heap.size w' dv nd.kids ∧ Below w.heap.size w w' := by
 obtain ⟨W, hW, D, bW, sW⟩ := boxedN w #[pv, .map (some bm)] 97
 have KB := hide (vbsf_at w0 W pv ps id h (h0.trans (bW.mono h0.size)) hu hl)
 obtain ⟨⟨D0, D1⟩, _⟩ := cells2r D
 obtain ⟨a, c, rfl⟩ := h.slice
 have HH := hide h
 have H0 := hide (h0.trans (bW.mono h0.size))
 have HB := hide bW
 have E0 := hide D0
 dsimp only [sev] at *
 rw [hW] at D0 D1 KB
 replace hu := hide hu
 obtain ⟨L, hL⟩ : ∃ L, L = ps.length := ⟨_, rfl⟩
 rw [← hL] at D0 E0 KB hW ⊢
 replace hL := hide hL
 replace hx := hide hx
 replace hd := hide hd
 clear h h0 bW D
 go_enter Try.func83, Try.ntmps83
 go_wp2_with fail
 refine KB.out.mono ?_
 rintro e w1 ⟨i, ok, rfl, hp, b1⟩
 rw [← hW] at b1
 have B1 := hide (HB.out.trans (b1.mono HB.out.size))
 have H1 := hide (H0.out.trans (b1.mono H0.out.size))
 have D0' : w1.cell? ⟨w.heap.size, 0, none⟩ = some (.slice a L c) := (b1.cell (cell_lt E0.out)).trans E0.out
 clear b1 KB HB H0 E0 D0 D1
 have hp2 : ∃ y, ps[i]? = some y ∧ y.1 = id := by
  rcases hp with ⟨_, q⟩ | ⟨_, q⟩
  ·exact q
  ·rw [hx.out] at q; cases q
 clear hp
 obtain ⟨y, hy, he⟩ := hp2
 have hil : (i : Int) < (L : Int) := by rw [hL.out]; have := (List.getElem?_eq_some_iff.1 hy).1; omega
 obtain ⟨b, off, u, rfl, hc1, hc2, hr⟩ := HH.out.wrt hy
 have hyx : y.2 = x := by have := tpage_hit hu.out hy he; rw [hx.out] at this; exact (Option.some.inj this).symm
 rw [hyx] at hr
 have KD := hide (pdec_any w1 u x (Rd.to hr H1.out))
 obtain ⟨au, cu, rfl⟩ := hr.slice
 replace hc1 := (H1.out.cell (cell_lt hc1)).trans hc1
 replace hc2 := (H1.out.cell (cell_lt hc2)).trans hc2
 replace hyx := hide hyx
 replace hr := hide hr
 replace hy := hide hy
 replace he := hide he
 rw [hd.out] at KD
 dsimp only at KD
 obtain ⟨xl, hxl⟩ : ∃ n, n = x.length := ⟨_, rfl⟩
 rw [← hxl] at KD hc2
 replace hxl := hide hxl
 go_wp2_with fail
 refine KD.out.mono ?_
 rintro e w2 ⟨kv, vv, dv, rfl, o2, b2⟩
 obtain ⟨ka, kc, va, vc, da, dc, rfl, rfl, rfl⟩ := o2.rd.slices
 have O2 := hide o2
 have B2 := hide (B1.out.trans (b2.mono B1.out.size))
 have hs2 := hide B1.out.size
 obtain ⟨Y, hY, DY, bY, sY⟩ := boxedN w2 #[.bool nd.leaf, .slice ka nd.keys.length kc, .slice va nd.vals.length vc, .slice da nd.kids.length dc] 79
 have C3 := cellN (i := 3) DY rfl
 have BY := hide bY
 rw [hY] at C3
 clear DY bY o2 b2 D0' hc1 hc2 KD
 go_wp2
 go_ret
 rw [← hY]
 exact ⟨_, rfl, rows_mono (rows_to O2.out.kids BY.out) hs2.out, B2.out.trans (BY.out.mono B2.out.size)⟩
theorem zeroE (w : World) : (zeroValue 126).run Try.prog w = .ok (.agg #[]) w := by kernel_rfl
set_option maxRecDepth 100000 in
set_option maxHeartbeats 2000000 in
theorem vhas_any (w : World) (pv : Value) (bm n : Nat) (m : Int → Option Value) (id : Int) (h : MapI w bm n m) (hv : ∀ i v, m i = some v → v = .agg #[]) (hid : (Lit.int .i64 id).wf = true) (hp : pv.oneCell' = true) :
  Calls Try.prog 43 #[sev pv bm, .int .i64 id] w fun e w' => e = .returned (.bool (m id).isSome) ∧ Below w.heap.size w w' := by
 obtain ⟨W, hW, D, bW, sW⟩ := boxedN w #[pv, .map (some bm)] 97
 obtain ⟨⟨D0, D1⟩, _⟩ := cells2r D
 have hM := h.kept (bW.block _ h.lt)
 have hlk := hM.look Try.underlying95 (zeroE W) hid true
 simp only [if_true] at hlk
 have hg : (m id).getD (.agg #[]) = .agg #[] := by
  cases hm : m id with
  | none => rfl
  | some v => exact hv id v hm
 rw [hg] at hlk
 obtain ⟨R, hR⟩ : ∃ R, R = (m id).isSome := ⟨_, rfl⟩
 rw [← hR] at hlk ⊢
 have HB := hide bW
 dsimp only [sev] at *
 rw [hW] at D0 D1 hlk
 clear D bW hM hg hR
 replace h := hide h
 replace hv := hide hv
 replace hid := hide hid
 go_enter Try.func43, Try.ntmps43
 go_wp2
 go_ret
 rw [← hW]
 exact ⟨rfl, HB.out.alloc HB.out.size _⟩
end Go.Proofs.Ytmmjdacjcipgjaa

namespace Go.Proofs.Ytmmjdacjcipgjaa
open Go.RowKit
structure VSt (w0 w : World) (bm : Nat) (ps : List Wrt) (R : List Int) : Prop where
 map : ∃ m, MapI w bm R.length m ∧ (∀ i, (m i).isSome = decide (i ∈ R)) ∧ ∀ i v, m i = some v → v = .agg #[]
 nod : R.Nodup
 pg : ∀ x ∈ R, tpage ps x ≠ none
 bel : Below w0.heap.size w0 w
 bm : w0.heap.size ≤ bm
theorem VSt.lt {w0 w : World} {bm : Nat} {ps : List Wrt} {R : List Int} (h : VSt w0 w bm ps R) : bm < w.heap.size := by
 obtain ⟨m, h1, _⟩ := h.map
 exact h1.lt
theorem VSt.to {w0 w w' : World} {bm : Nat} {ps : List Wrt} {R : List Int} (h : VSt w0 w bm ps R) (b : Below w.heap.size w w') : VSt w0 w' bm ps R := by
 obtain ⟨m, h1, h2⟩ := h.map
 exact ⟨⟨m, h1.kept (b.block _ h1.lt), h2⟩, h.nod, h.pg, h.bel.trans (b.mono h.bel.size), h.bm⟩
theorem VSt.len {w0 w : World} {bm : Nat} {ps : List Wrt} {R : List Int} (h : VSt w0 w bm ps R) : R.length ≤ ps.length := by
 have := ndp_len (b := ps.map (·.1)) h.nod fun x hx => by
  have := h.pg x hx
  cases hp : tpage ps x with
  | none => exact absurd hp this
  | some z => exact List.mem_map.2 ⟨(x, z), tpage_mem hp, rfl⟩
 simpa using this
def FrR (w0 w w' : World) (bm : Nat) (ps : List Wrt) (R : List Int) (e : Ending) : Prop := e = .returned (.tuple #[]) ∧ VSt w0 w' bm ps R ∧ KpM bm bm w w'
set_option maxRecDepth 100000 in
set_option maxHeartbeats 2000000 in
theorem vfrom_zero (w : World) (pv : Value) (bm : Nat) (hp : pv.oneCell' = true) : Calls Try.prog 60 #[sev pv bm, .int .i64 0] w fun e w' => e = .returned (.tuple #[]) ∧ Below w.heap.size w w' := by
 obtain ⟨W, hW, D, bW, sW⟩ := boxedN w #[pv, .map (some bm)] 97
 have HB := hide bW
 dsimp only [sev] at *
 clear D bW
 go_enter Try.func60, Try.ntmps60
 go_wp2
 (try simp only [Exit.inBlock, Exit.then])
 refine bodyPost_ret (results_none rfl _ _ _) rfl ?_
 exact ⟨rfl, by rw [← hW]; exact HB.out⟩
set_option maxRecDepth 100000 in
set_option maxHeartbeats 2000000 in
theorem vfrom_in (w0 w : World) (pv : Value) (bm : Nat) (ps : List Wrt) (R : List Int) (id : Int) (hp : pv.oneCell' = true) (h : VSt w0 w bm ps R) (hin : id ∈ R) (h0 : id ≠ 0) (hid : (Lit.int .i64 id).wf = true) :
  Calls Try.prog 60 #[sev pv bm, .int .i64 id] w fun e w' => FrR w0 w w' bm ps R e := by
 obtain ⟨W, hW, D, bW, sW⟩ := boxedN w #[pv, .map (some bm)] 97
 obtain ⟨⟨D0, D1⟩, DF⟩ := cells2r D
 have hV := h.to bW
 obtain ⟨m, h1, h2, h3⟩ := hV.map
 have KH := hide (vhas_any W pv bm _ m id h1 h3 hid hp)
 rw [h2 id, decide_eq_true hin] at KH
 have HB := hide bW
 have HV := hide hV
 dsimp only [sev] at *
 rw [hW] at D0 D1 DF KH
 replace hin := hide hin
 replace hid := hide hid
 replace h := hide h
 clear D bW hV h1 h2 h3
 go_enter Try.func60, Try.ntmps60
 go_wp2_with fail
 refine KH.out.mono ?_
 rintro e w1 ⟨rfl, b1⟩
 rw [← hW] at b1
 have H1 := hide (HV.out.to b1)
 have K1 := hide (KpM.of (g := bm) (m := bm) (HB.out.trans (b1.mono HB.out.size)))
 clear b1 KH HB HV D0 D1 DF
 go_wp2
 (try simp only [Exit.inBlock, Exit.then])
 refine bodyPost_ret (results_none rfl _ _ _) rfl ?_
 exact ⟨rfl, H1.out, K1.out⟩
theorem fold_take (g : Int → List Int → List Int) (ks : List Int) (R : List Int) {k : Nat} {x : Int} (h : ks[k]? = some x) : (ks.take (k + 1)).foldl (fun R k => g k R) R = g x ((ks.take k).foldl (fun R k => g k R) R) := by
 rw [List.take_add_one, h]
 simp
set_option maxRecDepth 100000 in
set_option maxHeartbeats 4000000 in
theorem vfrom_step (w0 : World) (pv : Value) (bm : Nat) (ps : List Wrt) (id : Int) (hpg : RdC w0 pv ps) (hu : tUp ps) (hl : ps.length ≤ 65536) (nd : Nd) (hN : NdIs ps id nd) (h0 : id ≠ 0) (hid : (Lit.int .i64 id).wf = true) (g : Int → List Int → List Int)
  (ih : ∀ kid ∈ nd.kids, ∀ (w : World) (R : List Int), VSt w0 w bm ps R → Calls Try.prog 60 #[sev pv bm, .int .i64 kid] w fun e w' => FrR w0 w w' bm ps (g kid R) e) :
  ∀ (w : World) (R : List Int), VSt w0 w bm ps R → id ∉ R → Calls Try.prog 60 #[sev pv bm, .int .i64 id] w fun e w' => FrR w0 w w' bm ps (nd.kids.foldl (fun R k => g k R) (id :: R)) e := by
 intro w R h hin
 obtain ⟨x, hx, hd⟩ := hN
 have hp : pv.oneCell' = true := by obtain ⟨a, c, rfl⟩ := hpg.slice; rfl
 obtain ⟨W, hW, D, bW, sW⟩ := boxedN w #[pv, .map (some bm)] 97
 obtain ⟨⟨D0, D1⟩, DF⟩ := cells2r D
 have hV := h.to bW
 obtain ⟨m, h1, h2, h3⟩ := hV.map
 have KH := hide (vhas_any W pv bm _ m id h1 h3 hid hp)
 rw [h2 id, decide_eq_false hin] at KH
 have hbmw := h.lt
 have HB := hide bW
 have HV := hide hV
 have HD := hide D
 have HPG := hide hpg
 have IH := hide ih
 obtain ⟨a, c, rfl⟩ := hpg.slice
 dsimp only [sev] at *
 obtain ⟨L, hL⟩ : ∃ L, L = ps.length := ⟨_, rfl⟩
 rw [← hL] at D0 HD KH hW HPG IH ⊢
 rw [hW] at D0 D1 DF KH
 replace hin := hide hin
 replace hid := hide hid
 replace hx := hide hx
 replace hd := hide hd
 replace h0 := hide h0
 have h00 : ¬ id = 0 := h0.out
 replace hu := hide hu
 have hl' := hide hl
 replace hL := hide hL
 replace hbmw := hide hbmw
 replace h := hide h
 have hm := hide (And.intro h2 h3)
 clear D bW hV h1 h2 h3 hpg ih hl
 go_enter Try.func60, Try.ntmps60
 go_wp2_with fail
 refine KH.out.mono ?_
 rintro e w1 ⟨rfl, b1⟩
 rw [← hW] at b1
 have D2 := (b1.block _ (lt_of_block HD.out)).trans HD.out
 clear sW
 have H1 := HV.out.to b1
 have K1 := KpM.of (g := bm) (m := bm) (HB.out.trans (b1.mono HB.out.size))
 have s1 : W.heap.size ≤ w1.heap.size := b1.size
 clear b1 KH HV D0 D1 DF
 obtain ⟨m1, g1, g2, g3⟩ := H1.map
 have hR1 := H1.len
 obtain ⟨w2, hrun, g4, g5⟩ := g1.store Try.underlying95 (by rw [maxLen]; have := hl'.out; omega) hid.out (.agg #[])
 have hne : w.heap.size ≠ bm := by have := hbmw.out; omega
 have D3 := (g5.block _ (lt_of_block D2) (by simpa using hne)).trans D2
 have K2 := hide (K1.map g5)
 have H2 : Hid (VSt w0 w2 bm ps (id :: R)) := by
  refine ⟨⟨_, g4, fun i => ?_, fun i v hv => ?_⟩, List.nodup_cons.2 ⟨hin.out, H1.nod⟩, fun y hy => ?_, ?_, H1.bm⟩
  ·by_cases e : i = id
   ·subst e; simp
   ·simp only [if_neg e, List.mem_cons, e, false_or]; exact g2 i
  ·by_cases e : i = id
   ·rw [if_pos e] at hv; exact (Option.some.inj hv).symm
   ·rw [if_neg e] at hv; exact g3 i v hv
  ·rcases List.mem_cons.1 hy with rfl | hy
   ·rw [hx.out]; intro h; cases h
   ·exact H1.pg y hy
  ·exact H1.bel.grown g5 H1.bel.size (fun j hj => by simp only [Option.some.injEq] at hj; have := H1.bm; omega)
 have KK := hide (vkids_at w0 w2 (.slice a L c) ps bm id HPG.out H2.out.bel hu.out hl'.out hx.out hd.out)
 obtain ⟨⟨C0, C1⟩, CF⟩ := cells2r D2
 obtain ⟨⟨E0, E1⟩, EF⟩ := cells2r D3
 dsimp only [sev] at KK
 have HD3 := hide D3
 have hs2 : Hid (w1.heap.size ≤ w2.heap.size) := g5.size
 clear D2 D3 K1 H1 g1 g2 g3 g4 g5 hR1
 go_wp2_with fail
 refine KK.out.mono ?_
 rintro e w3 ⟨dv, rfl, o3, b3⟩
 obtain ⟨da, dc, rfl⟩ := o3.rd.slice
 have D4 := hide ((b3.block _ (lt_of_block HD3.out)).trans HD3.out)
 have H3 := hide (H2.out.to b3)
 have K3 := hide (K2.out.trans (KpM.of b3))
 have O3 := hide o3
 have hb3 : Hid (bm < w2.heap.size) := H2.out.lt
 obtain ⟨DL, hDL⟩ : ∃ n, n = nd.kids.length := ⟨_, rfl⟩
 rw [← hDL] at O3 ⊢
 have hok := ndec_ok hd.out
 have hD3 : DL ≤ 301 := by
  rw [hDL]
  have h1 := (npr_len hok).2
  cases hlf : nd.leaf with
  | true =>
   have h2 := hok.2.1
   unfold ncount at h2
   rw [if_pos hlf] at h2
   omega
  | false => rw [kids_len hok hlf]; omega
 replace hDL := hide hDL
 clear o3 b3 KK C0 C1 CF E0 E1 EF hrun hok HD3
 go_wp2
 go_loopw [21] (fun p wr => ∃ k : Nat, k ≤ DL ∧ p = .int .i64 k ∧ Hid (VSt w0 wr bm ps ((nd.kids.take k).foldl (fun R k => g k R) (id :: R)) ∧ KpM bm bm w3 wr)) (fun p _ => DL - (intOf p).toNat)
 case atStart => exact ⟨0, Nat.zero_le _, rfl, hide ⟨H3.out, KpM.refl _ _ _⟩⟩
 case round =>
  obtain ⟨k, hk, rfl, hI⟩ := hrel
  have O6 := hI.out.2.row O3.out hb3.out hb3.out
  have D6 := (hI.out.2.1 _ (lt_of_block D4.out) hne hne).trans D4.out
  obtain ⟨⟨E0, E1⟩, EF⟩ := cells2r D6
  by_cases hlt : k < DL
  ·have hq : (k : Int) < (DL : Int) := by omega
   obtain ⟨kid, hkid⟩ := some_el nd.kids (k := k) (by rw [← hDL.out]; exact hlt)
   obtain ⟨b3, off3, e3, hc3⟩ := (OwnJ.rd O6).intAt hkid
   have KR := hide (IH.out kid (List.mem_of_getElem? hkid) wr _ hI.out.1)
   rw [← fold_take g nd.kids (id :: R) hkid] at KR
   replace hkid := hide hkid
   clear O6 D6
   subst e3
   go_wp2_with fail
   refine KR.out.mono ?_
   rintro e w8 ⟨rfl, h8, k8⟩
   have hI' := hide (And.intro h8 (hI.out.2.trans k8))
   clear h8 k8 KR E0 E1 EF hc3
   go_wp2
   go_roundw
   case rel => exact ⟨k + 1, by omega, by go_num, hI'⟩
   case measure => simp [intOf]; omega
  ·have hq : ¬ (k : Int) < (DL : Int) := by omega
   have ht : nd.kids.take k = nd.kids := List.take_of_length_le (by rw [← hDL.out]; omega)
   have hF : Hid (FrR w0 w wr bm ps (nd.kids.foldl (fun R k => g k R) (id :: R)) (.returned (.tuple #[]))) := by
    refine ⟨rfl, ?_, K3.out.trans hI.out.2⟩
    have := hI.out.1
    rw [ht] at this
    exact this
   clear O6 D6 E0 E1 EF ht hI
   go_wp2
   (try simp only [Exit.inBlock, Exit.then])
   first
    | refine bodyPost_ret (results_none rfl _ _ _) rfl ?_
    | refine bodyPost_end (results_none rfl _ _ _) rfl ?_
   exact hF.out
theorem tpage_id {next : Int} {ps : List Wrt} (hU : tups next ps ps.length) (hn : next ≤ 65536) {id : Int} {x : List UInt8} (h : tpage ps id = some x) : id ≠ 0 ∧ (Lit.int .i64 id).wf = true := by
 have := tpage_bd hU h
 exact ⟨by omega, WalkArith.wf_i64 (by omega)⟩
theorem vfrom_any (w0 : World) (pv : Value) (bm : Nat) (ps : List Wrt) (hpg : RdC w0 pv ps) {next : Int} (hU : tups next ps ps.length) (hn : 1 ≤ next ∧ next ≤ 65536) :
  ∀ (d : Nat) (id : Int) (lo : Str) (hi : Option Str), TOk ps d id lo hi → ∀ (w : World) (R : List Int), VSt w0 w bm ps R →
  Calls Try.prog 60 #[sev pv bm, .int .i64 id] w fun e w' => FrR w0 w w' bm ps (frm ps d id R) e := by
 have hl : ps.length ≤ 65536 := by have := tups_len hU hn.1; omega
 have hp : pv.oneCell' = true := by obtain ⟨a, c, rfl⟩ := hpg.slice; rfl
 intro d
 induction d with
 | zero =>
  intro id lo hi h w R hV
  obtain ⟨nd, hN, h1, h2, h3⟩ := h
  obtain ⟨x, hx, hd⟩ := hN
  obtain ⟨i0, iw⟩ := tpage_id hU hn.2 hx
  by_cases hin : id ∈ R
  ·rw [frm_in hin]
   exact vfrom_in w0 w pv bm ps R id hp hV hin i0 iw
  ·have hk : nd.kids = [] := by
    have hc := (ndec_ok hd).2.1
    unfold ncount at hc
    rw [if_pos h1] at hc
    exact List.eq_nil_of_length_eq_zero hc.2
   have := vfrom_step w0 pv bm ps id hpg (tups_up hU) hl nd ⟨x, hx, hd⟩ i0 iw (fun _ R => R) (fun kid hkid => by rw [hk] at hkid; cases hkid) w R hV hin
   rw [hk] at this
   rw [frm, if_neg hin]
   exact this
 | succ d ih =>
  intro id lo hi h w R hV
  obtain ⟨nd, hN, h1, h2, h3⟩ := h
  obtain ⟨x, hx, hd⟩ := hN
  obtain ⟨i0, iw⟩ := tpage_id hU hn.2 hx
  by_cases hin : id ∈ R
  ·rw [frm_in hin]
   exact vfrom_in w0 w pv bm ps R id hp hV hin i0 iw
  ·have := vfrom_step w0 pv bm ps id hpg (tups_up hU) hl nd ⟨x, hx, hd⟩ i0 iw (frm ps d) (fun kid hkid w R hV => by
    obtain ⟨i, hi9⟩ := mem_at hkid
    exact ih kid _ _ (h3 i kid hi9) w R hV) w R hV hin
   rw [frm, if_neg hin, NdIs.at ⟨x, hx, hd⟩]
   exact this
end Go.Proofs.Ytmmjdacjcipgjaa

namespace Go.Proofs.Ytmmjdacjcipgjaa
open Go.RowKit
def rootsE (t : Tr) : List Int → Int
 | [] => 0
 | r :: rs => if tatE t r ≠ 0 then tatE t r else rootsE t rs
def lvE (t : Tr) (rs : List Int) : Int := if tcheck t ≠ 0 then tcheck t else if 16 < rs.length then 3 else rootsE t rs
theorem rootsE_at {t : Tr} : ∀ {rs : List Int} {k : Nat} {r : Int}, (∀ j q, j < k → rs[j]? = some q → tatE t q = 0) → rs[k]? = some r → tatE t r ≠ 0 → rootsE t rs = tatE t r
 | [], k, r, _, h, _ => by simp at h
 | q :: rs, 0, r, _, h, hr => by
  simp only [List.getElem?_cons_zero, Option.some.injEq] at h
  subst h
  rw [rootsE, if_pos hr]
 | q :: rs, k + 1, r, hb, h, hr => by
  have h0 := hb 0 q (Nat.succ_pos k) (by simp)
  rw [rootsE, if_neg (by simp [h0])]
  exact rootsE_at (fun j q hj hq => hb (j + 1) q (Nat.succ_lt_succ hj) (by simpa using hq)) (by simpa using h) hr
theorem rootsE_ok {t : Tr} : ∀ {rs : List Int}, (∀ r ∈ rs, tatE t r = 0) → rootsE t rs = 0
 | [], _ => rfl
 | q :: rs, h => by
  rw [rootsE, if_neg (by simp [h q (by simp)])]
  exact rootsE_ok fun r hr => h r (by simp [hr])
theorem rootsE_zero {t : Tr} : ∀ {rs : List Int}, rootsE t rs = 0 → ∀ r ∈ rs, tatE t r = 0
 | q :: rs, h, r, hr => by
  rw [rootsE] at h
  split at h
  ·rename_i h1; exact absurd h h1
  ·rename_i h1
   rcases List.mem_cons.1 hr with rfl | hr
   ·simpa using h1
   ·exact rootsE_zero h r hr
theorem tat_prs {t : Tr} {r : Int} (h : tatE t r = 0) : (∃ ps, tprs t = some ps) ∧ ∃ ps, tprs (atR t r) = some ps := by
 have hc : ∀ {u : Tr}, tcheck u = 0 → ∃ ps, tprs u = some ps := fun {u} h => by
  unfold tcheck at h
  cases hp : tprs u with
  | none => rw [hp] at h; cases h
  | some l => exact ⟨l, rfl⟩
 unfold tatE at h
 split at h
 ·rename_i h1; exact absurd h h1
 ·rename_i h1
  split at h
  ·cases h
  ·exact ⟨hc (by simpa using h1), hc h⟩
theorem lvE_ok {t : Tr} {rs : List Int} (h : lvE t rs = 0) : LvOk t rs ∧ rs.length ≤ 16 := by
 unfold lvE at h
 split at h
 ·rename_i h1; exact absurd h h1
 ·rename_i h1
  split at h
  ·cases h
  ·rename_i h2
   refine ⟨⟨?_, fun r hr => (tat_prs (rootsE_zero h r hr)).2⟩, by omega⟩
   have h1 : tcheck t = 0 := by simpa using h1
   unfold tcheck at h1
   cases hp : tprs t with
   | none => rw [hp] at h1; cases h1
   | some l => exact ⟨l, rfl⟩
theorem lvE_of {t : Tr} {rs : List Int} (h : LvOk t rs) (hl : rs.length ≤ 16) : lvE t rs = 0 := by
 obtain ⟨⟨ps, h1⟩, h2⟩ := h
 have hc : ∀ {u : Tr} {q : List Pr}, tprs u = some q → tcheck u = 0 := fun {u q} h => by unfold tcheck; rw [h]
 unfold lvE
 rw [if_neg (by simp [hc h1]), if_neg (by omega)]
 refine rootsE_ok fun r hr => ?_
 obtain ⟨q, h3⟩ := h2 r hr
 obtain ⟨d, h4, h5, h6⟩ := tprs_top h3
 unfold tatE
 rw [if_neg (by simp [hc h1]), if_neg ?_]
 ·exact hc h3
 ·rintro ⟨h7, h8⟩
  rcases h5.2.2.2 with h9 | h9
  ·exact h7 h9
  ·exact h9 h8
set_option maxRecDepth 100000 in
set_option maxHeartbeats 4000000 in
theorem vmaybe_any (w : World) (t : Tr) (pv rv : Value) (rs : List Int) (h : RdC w pv t.pages) (hx : ∀ x ∈ t.pages, x.2.length ≤ 140737488351232) (hroot : (Lit.int .i64 t.root).wf = true) (hr : RdI w rv rs) (hrw : ∀ r ∈ rs, (Lit.int .i64 r).wf = true) (hrl : rs.length ≤ 9223372036854775807) :
  Calls Try.prog 59 #[tv t pv, rv] w fun e w' => e = .returned (.int .i64 (lvE t rs)) ∧ Below w.heap.size w w' := by
 obtain ⟨W, hW, D, bW, sW⟩ := boxedN w #[.int .i64 t.root, .int .i64 t.next, pv] 26
 have KC := hide (pcheck10_any W t pv (h.to0 bW) hroot)
 obtain ⟨a, c, rfl⟩ := h.slice
 obtain ⟨ra, rc, rfl⟩ := hr.slice
 have HH := hide h
 have HR := hide hr
 have HB := hide bW
 have HD := hide D
 obtain ⟨⟨E0, E1, E2⟩, EF⟩ := cells3p D
 obtain ⟨RL, hRL⟩ : ∃ L, L = rs.length := ⟨_, rfl⟩
 rw [← hRL] at HR hrl ⊢
 replace hRL := hide hRL
 dsimp only [tv] at KC ⊢
 rw [hW] at E0 E1 E2 EF KC
 replace hx := hide hx
 replace hroot := hide hroot
 replace hrw := hide hrw
 clear h hr bW D sW
 go_enter Try.func59, Try.ntmps59
 go_wp2_with fail
 refine KC.out.mono ?_
 rintro e w1 ⟨rfl, b1⟩
 rw [← hW] at b1
 clear KC E0 E1 E2 EF
 have B1 := hide (HB.out.trans (b1.mono HB.out.size))
 have D1 := hide ((b1.block _ (lt_of_block HD.out)).trans HD.out)
 have b1' := hide b1
 clear b1
 obtain ⟨err, herr⟩ : ∃ err, err = tcheck t := ⟨_, rfl⟩
 rw [← herr]
 replace hW := hide hW
 by_cases he : err = 0
 ·have hc0 : Hid (tcheck t = 0) := herr.symm.trans he
  subst he
  clear herr
  by_cases h16 : (16 : Int) < (RL : Int)
  ·have hE : Hid (lvE t rs = 3) := by show _ = _; unfold lvE; rw [if_neg (by simp [hc0.out]), if_pos (by rw [← hRL.out]; omega)]
   go_wp2
   go_ret
   exact ⟨by rw [hE.out]; rfl, B1.out⟩
  ·go_wp2
   go_loopw [20] (fun p wr => ∃ k : Nat, k ≤ RL ∧ p = .int .i64 k ∧ Hid (Below w1.heap.size w1 wr ∧ ∀ j q, j < k → rs[j]? = some q → tatE t q = 0)) (fun p _ => RL - (intOf p).toNat)
   case atStart => exact ⟨0, Nat.zero_le _, rfl, hide ⟨Below.refl _ _, fun j q hj => by omega⟩⟩
   case round =>
    obtain ⟨k, hk, rfl, hI⟩ := hrel
    have D2 := (hI.out.1.block _ (lt_of_block D1.out)).trans D1.out
    have B2 := hide (B1.out.trans (hI.out.1.mono B1.out.size))
    obtain ⟨⟨E0, E1, E2⟩, EF⟩ := cells3p D2
    clear D2
    by_cases hlt : k < RL
    ·have hq : (k : Int) < (RL : Int) := by omega
     obtain ⟨r, hr⟩ := some_el rs (k := k) (by rw [← hRL.out]; exact hlt)
     obtain ⟨b3, off3, e3, hc3⟩ := (HR.out.to0 B2.out).intAt hr
     have KA := hide (pat_any wr t (.slice a t.pages.length c) r (HH.out.to0 B2.out) hx.out hroot.out (hrw.out r (List.mem_of_getElem? hr)))
     dsimp only [tv] at KA
     replace hr := hide hr
     subst e3
     go_wp2_with fail
     refine KA.out.mono ?_
     rintro e w2 h2
     clear KA E0 E1 E2 EF hc3
     rcases h2 with ⟨h2, pv2, rfl, o2, b2⟩ | ⟨h2, rfl, b2⟩
     ·obtain ⟨a2, c2, rfl⟩ := o2.rd.slice
      dsimp only [tv]
      obtain ⟨Y, hY, DY, bY, sY⟩ := boxedN w2 #[.int .i64 r, .int .i64 t.next, .slice a2 t.pages.length c2] 26
      have hI' : Hid (Below w1.heap.size w1 Y ∧ ∀ j q, j < k + 1 → rs[j]? = some q → tatE t q = 0) := by
       have b3 := b2.trans (bY.mono b2.size)
       refine ⟨hI.out.1.trans (b3.mono hI.out.1.size), fun j q hj hq9 => ?_⟩
       by_cases e : j = k
       ·subst e; rw [hr.out] at hq9; cases hq9; exact h2
       ·exact hI.out.2 j q (by omega) hq9
      rw [hY] at hI'
      clear DY bY sY hY o2 b2
      replace h2 := hide h2
      go_wp2
      go_roundw
      case rel => exact ⟨k + 1, by omega, by go_num, hI'⟩
      case measure => simp [intOf]; omega
     ·obtain ⟨er, her⟩ : ∃ er, er = tatE t r := ⟨_, rfl⟩
      rw [← her] at h2 ⊢
      have hE : Hid (lvE t rs = er) := by
       show _ = _
       unfold lvE
       rw [if_neg (by simp [hc0.out]), if_neg (by rw [← hRL.out]; omega), rootsE_at hI.out.2 hr.out (by rw [← her]; exact h2), her]
      obtain ⟨Y, hY, DY, bY, sY⟩ := boxedN w2 #[.int .i64 0, .int .i64 0, .slice none 0 0] 26
      have B3 : Hid (Below w.heap.size w Y) := by
       have b3 := b2.trans (bY.mono b2.size)
       exact B2.out.trans (b3.mono B2.out.size)
      rw [hY] at B3
      dsimp only [tv]
      clear DY bY sY hY b2 her
      go_wp2
      go_ret
      exact ⟨by rw [hE.out]; rfl, B3.out⟩
    ·have hq : ¬ (k : Int) < (RL : Int) := by omega
     have hE : Hid (lvE t rs = 0) := by
      show _ = _
      unfold lvE
      rw [if_neg (by simp [hc0.out]), if_neg (by rw [← hRL.out]; omega)]
      refine rootsE_ok fun r hr => ?_
      obtain ⟨i, hi⟩ := mem_at hr
      have := (List.getElem?_eq_some_iff.1 hi).1
      exact hI.out.2 i r (by rw [← hRL.out] at this; omega) hi
     go_wp2
     go_ret
     exact ⟨by rw [hE.out]; rfl, B2.out⟩
 ·have hE : Hid (lvE t rs = err) := by show _ = _; unfold lvE; rw [if_pos (by rw [← herr]; exact he), herr]
  clear herr
  go_wp2
  go_ret
  exact ⟨by rw [hE.out]; rfl, B1.out⟩
end Go.Proofs.Ytmmjdacjcipgjaa

namespace Go.Proofs.Ytmmjdacjcipgjaa
open Go.RowKit
theorem seen_none {t : Tr} (x : Int) : ¬ x ∈ seenOf (atR t 0) := by simp [seenOf, twalk]
theorem vfrom_root (w0 w : World) (t : Tr) (pv : Value) (bm : Nat) (hpg : RdC w0 pv t.pages) (R : List Int) (r : Int) {ps : List Pr} (hr : tprs (atR t r) = some ps) (hV : VSt w0 w bm t.pages R) (hc : Clo t.pages R) :
  Calls Try.prog 60 #[sev pv bm, .int .i64 r] w fun e w' => ∃ R', e = .returned (.tuple #[]) ∧ VSt w0 w' bm t.pages R' ∧ KpM bm bm w w' ∧ Clo t.pages R' ∧ ∀ x, x ∈ R' ↔ x ∈ R ∨ x ∈ seenOf (atR t r) := by
 have hp : pv.oneCell' = true := by obtain ⟨a, c, rfl⟩ := hpg.slice; rfl
 obtain ⟨d, h1, h2, h3⟩ := tprs_top hr
 by_cases h0 : r = 0
 ·subst h0
  refine (vfrom_zero w pv bm hp).mono ?_
  rintro e w' ⟨rfl, b⟩
  exact ⟨R, rfl, hV.to b, KpM.of b, hc, fun x => ⟨.inl, fun h => h.elim (fun h => h) fun h => absurd h (seen_none x)⟩⟩
 ·have hf := frm_top h1 h0 hc
  rcases h1 with ⟨h9, _⟩ | ⟨_, hd, h4, h5, _⟩
  ·exact absurd h9 h0
  ·refine (vfrom_any w0 pv bm t.pages hpg h2.2.2.1 ⟨h2.1, h2.2.1⟩ d r [] none h4 w R hV).mono ?_
   rintro e w' ⟨rfl, v, k⟩
   exact ⟨_, rfl, v, k, hf.2, hf.1⟩
def SeR (w w' : World) (t : Tr) (pv : Value) (rs : List Int) (e : Ending) : Prop :=
 (lvE t rs = 0 ∧ ∃ bm R, e = .returned (.tuple #[sev pv bm, .int .i64 0]) ∧ VSt w w' bm t.pages R ∧ ∀ x, x ∈ R ↔ Lv t rs x) ∨
 (lvE t rs ≠ 0 ∧ e = .returned (.tuple #[.agg #[.slice none 0 0, .map none], .int .i64 (lvE t rs)]) ∧ Below w.heap.size w w')
theorem info_se : (Try.prog.info? 97).map (·.size) = some 2 := by kernel_rfl
theorem VSt.set2 {w0 w : World} {bm : Nat} {ps : List Wrt} {R : List Int} (h : VSt w0 w bm ps R) {g : Nat} (hg : g ≠ bm) (hs : w0.heap.size ≤ g) (x y : Value) : VSt w0 ((w.setCell ⟨g, 0, none⟩ x).setCell ⟨g, 1, none⟩ y) bm ps R := by
 obtain ⟨m, h1, h2⟩ := h.map
 have e : ((w.setCell ⟨g, 0, none⟩ x).setCell ⟨g, 1, none⟩ y).heap[bm]? = w.heap[bm]? := (Below.heap_setCell _ _ _ _ (Ne.symm hg)).trans (Below.heap_setCell _ _ _ _ (Ne.symm hg))
 exact ⟨⟨m, h1.kept e, h2⟩, h.nod, h.pg, below_set2 h.bel hs x y, h.bm⟩
theorem lv_take {t : Tr} {rs : List Int} {k : Nat} {r : Int} (hr : rs[k]? = some r) (x : Int) : Lv t (rs.take (k + 1)) x ↔ Lv t (rs.take k) x ∨ x ∈ seenOf (atR t r) := by
 unfold Lv
 rw [List.take_add_one, hr]
 simp only [Option.toList_some, List.mem_append, List.mem_singleton]
 constructor
 ·rintro (h | ⟨q, h1 | rfl, h2⟩)
  ·exact .inl (.inl h)
  ·exact .inl (.inr ⟨q, h1, h2⟩)
  ·exact .inr h2
 ·rintro ((h | ⟨q, h1, h2⟩) | h)
  ·exact .inl h
  ·exact .inr ⟨q, .inl h1, h2⟩
  ·exact .inr ⟨r, .inr rfl, h⟩
structure SLo (w Y wr : World) (bm : Nat) (t : Tr) (rs : List Int) (k : Nat) (R : List Int) : Prop where
 st : VSt w wr bm t.pages R
 clo : Clo t.pages R
 is : ∀ x, x ∈ R ↔ Lv t (rs.take k) x
 kp : KpM bm bm Y wr
set_option maxRecDepth 100000 in
set_option maxHeartbeats 4000000 in
theorem vsearch_any (w : World) (t : Tr) (pv rv : Value) (rs : List Int) (h : RdC w pv t.pages) (hx : ∀ x ∈ t.pages, x.2.length ≤ 140737488351232) (hroot : (Lit.int .i64 t.root).wf = true) (hr : RdI w rv rs) (hrw : ∀ r ∈ rs, (Lit.int .i64 r).wf = true) (hrl : rs.length ≤ 9223372036854775807) :
  Calls Try.prog 42 #[tv t pv, rv] w fun e w' => SeR w w' t pv rs e := by
 have hmm := @run_makeMap Try.prog
 obtain ⟨W, hW, D, bW, sW⟩ := boxedN w #[.int .i64 t.root, .int .i64 t.next, pv] 26
 obtain ⟨X, hX, DX, bX, sX⟩ := boxedN W #[.slice none 0 0, .map none] 97
 have bWX := bW.trans (bX.mono bW.size)
 have KC := hide (vmaybe_any X t pv rv rs (h.to0 bWX) hx hroot (hr.to0 bWX) hrw hrl)
 obtain ⟨a, c, rfl⟩ := h.slice
 obtain ⟨ra, rc, rfl⟩ := hr.slice
 have HH := hide h
 have HR := hide hr
 have HB := hide bWX
 have D1 := (bX.block _ (lt_of_block D)).trans D
 rw [sW] at DX
 have HD := hide (And.intro D1 DX)
 obtain ⟨⟨E0, E1, E2⟩, EF⟩ := cells3p D1
 obtain ⟨⟨F0, F1⟩, FF⟩ := cells2r DX
 obtain ⟨RL, hRL⟩ : ∃ L, L = rs.length := ⟨_, rfl⟩
 rw [← hRL] at HR KC hrl ⊢
 replace hRL := hide hRL
 dsimp only [tv] at KC ⊢
 rw [hX, hW] at E0 E1 E2 EF F0 F1 FF KC
 have hsz : Hid (X.heap.size = w.heap.size + 1 + 1) := by show _ = _; omega
 replace hroot := hide hroot
 replace hrw := hide hrw
 replace hx := hide hx
 clear h hr bW bX D D1 DX sW sX bWX
 go_enter Try.func42, Try.ntmps42
 go_wp2_with fail
 refine KC.out.mono ?_
 rintro e w1 ⟨rfl, b1⟩
 rw [← hW, ← hX] at b1
 clear KC E0 E1 E2 EF F0 F1 FF
 have B1 := hide (HB.out.trans (b1.mono HB.out.size))
 have D1 := (b1.block _ (lt_of_block HD.out.1)).trans HD.out.1
 have R1 := (b1.block _ (lt_of_block HD.out.2)).trans HD.out.2
 have hs1 : Hid (w.heap.size + 1 + 1 ≤ w1.heap.size) := by have := b1.size; show _ ≤ _; rw [← hsz.out]; exact this
 replace hW := hide hW
 replace hX := hide hX
 obtain ⟨err, herr⟩ : ∃ err, err = lvE t rs := ⟨_, rfl⟩
 rw [← herr]
 have HD1 := hide (And.intro D1 R1)
 by_cases he : err = 0
 ·have hc0 : Hid (lvE t rs = 0) := herr.symm.trans he
  subst he
  clear herr b1
  obtain ⟨M, hM⟩ : ∃ M, M = w1.alloc (.map #[] 0) := ⟨_, rfl⟩
  have sM : M.heap.size = w1.heap.size + 1 := by rw [hM]; simp
  have bM : Below w1.heap.size w1 M := by rw [hM]; exact (Below.refl _ _).alloc (Nat.le_refl _) _
  have mI : MapI M w1.heap.size 0 fun _ => none := by rw [hM]; exact MapI.made w1
  obtain ⟨Y, hY, DY, bY, sY⟩ := boxedN M #[.slice a t.pages.length c, .map (some w1.heap.size)] 97
  rw [sM] at DY
  have bMY := bM.trans (bY.mono bM.size)
  have V0 : VSt w Y w1.heap.size t.pages [] := ⟨⟨_, mI.kept (bY.block _ mI.lt), fun i => by simp, fun i v hv => by cases hv⟩, List.nodup_nil, fun x hx => (by cases hx), B1.out.trans (bMY.mono B1.out.size), B1.out.size⟩
  obtain ⟨⟨ps0, hps0⟩, hrs⟩ := (lvE_ok hc0.out).1
  have KF := hide (vfrom_root w Y t (.slice a t.pages.length c) w1.heap.size HH.out [] t.root hps0 V0 (fun p hp => by cases hp))
  have D2 := (bMY.block _ (lt_of_block D1)).trans D1
  have R2 := (bMY.block _ (lt_of_block R1)).trans R1
  have HD2 := hide (And.intro D2 (And.intro R2 DY))
  obtain ⟨⟨E0, E1, E2⟩, EF⟩ := cells3p D1
  obtain ⟨⟨G0, G1, G2⟩, GF⟩ := cells3p D2
  obtain ⟨⟨F0, F1⟩, FF⟩ := cells2r DY
  dsimp only [sev] at KF
  rw [hY, hM] at G0 G1 G2 GF F0 F1 FF KF
  replace hrs := hide hrs
  clear D1 R1 D2 R2 DY V0 mI bM bY bMY sM sY HD1
  go_wp2_with fail
  refine KF.out.mono ?_
  rintro e w2 ⟨R, rfl, v2, k2, c2, i2⟩
  rw [← hM, ← hY] at k2
  have HI : Hid (SLo w Y w2 w1.heap.size t rs 0 R) := ⟨v2, c2, fun x => by rw [i2 x]; simp [Lv], k2⟩
  clear KF E0 E1 E2 EF G0 G1 G2 GF F0 F1 FF v2 k2 c2 i2
  replace hY := hide hY
  replace hM := hide hM
  go_wp2
  go_loopw [27] (fun p wr => ∃ k : Nat, k ≤ RL ∧ p = .int .i64 k ∧ Hid (∃ R, SLo w Y wr w1.heap.size t rs k R)) (fun p _ => RL - (intOf p).toNat)
  case atStart => exact ⟨0, Nat.zero_le _, rfl, hide ⟨R, HI.out⟩⟩
  case round =>
   obtain ⟨k, hk, rfl, hI⟩ := hrel
   obtain ⟨R, hS⟩ := hI.out
   have hl2 := hs1.out
   have DT := (hS.kp.1 _ (lt_of_block HD2.out.1) (by omega) (by omega)).trans HD2.out.1
   have DR := (hS.kp.1 _ (lt_of_block HD2.out.2.1) (by omega) (by omega)).trans HD2.out.2.1
   have DS := (hS.kp.1 _ (lt_of_block HD2.out.2.2) (by omega) (by omega)).trans HD2.out.2.2
   obtain ⟨⟨F0, F1⟩, FF⟩ := cells2r DS
   by_cases hlt : k < RL
   ·have hq : (k : Int) < (RL : Int) := by omega
    obtain ⟨r, hr⟩ := some_el rs (k := k) (by rw [← hRL.out]; exact hlt)
    obtain ⟨b3, off3, e3, hc3⟩ := (HR.out.to0 hS.st.bel).intAt hr
    obtain ⟨q, hq9⟩ := hrs.out r (List.mem_of_getElem? hr)
    have KF := hide (vfrom_root w wr t (.slice a t.pages.length c) w1.heap.size HH.out R r hq9 hS.st hS.clo)
    dsimp only [sev] at KF
    have HS := hide hS
    have hr' := hide hr
    subst e3
    clear DT DR DS hS hI hr hq9 hl2
    go_wp2_with fail
    refine KF.out.mono ?_
    rintro e w3 ⟨R3, rfl, v3, k3, c3, i3⟩
    have hI' : Hid (∃ R, SLo w Y w3 w1.heap.size t rs (k + 1) R) := ⟨R3, v3, c3, fun x => by rw [i3 x, HS.out.is x, lv_take hr'.out x], HS.out.kp.trans k3⟩
    clear KF v3 k3 c3 i3 F0 F1 FF hc3
    go_wp2
    go_roundw
    case rel => exact ⟨k + 1, by omega, by go_num, hI'⟩
    case measure => simp [intOf]; omega
   ·have hq : ¬ (k : Int) < (RL : Int) := by omega
    have ht : rs.take k = rs := List.take_of_length_le (by rw [← hRL.out]; omega)
    have hF : Hid (∀ x y, VSt w ((wr.setCell ⟨w.heap.size + 1, 0, none⟩ x).setCell ⟨w.heap.size + 1, 1, none⟩ y) w1.heap.size t.pages R) := fun x y => hS.st.set2 (by omega) (by omega) x y
    have hF2 : Hid (∀ x, x ∈ R ↔ Lv t rs x) := fun x => by rw [hS.is x, ht]
    have HDR := hide DR
    obtain ⟨⟨G0, G1⟩, GF⟩ := cells2r DR
    clear hS hI DT DR DS ht hl2
    go_wp2
    (try simp only [Exit.inBlock, Exit.then])
    refine retNT rfl rfl (w.heap.size + 1) rfl _ _ (0, 0) (heap_set2 HDR.out _ _) _ Try.underlying97 rfl info_se _ rfl ?_
    exact .inl ⟨hc0.out, _, _, rfl, hF.out _ _, hF2.out⟩
 ·have hE : Hid (lvE t rs ≠ 0) := by show _ ≠ _; rw [← herr]; exact he
  have hE2 : Hid (lvE t rs = err) := herr.symm
  have HDR := hide R1
  obtain ⟨⟨G0, G1⟩, GF⟩ := cells2r R1
  clear herr D1 R1 b1
  go_wp2
  (try simp only [Exit.inBlock, Exit.then])
  refine retNT rfl rfl (w.heap.size + 1) rfl _ _ (0, 0) (heap_set2 HDR.out _ _) _ Try.underlying97 rfl info_se _ rfl ?_
  exact .inr ⟨hE.out, by rw [hE2.out]; rfl, below_set2 B1.out (show w.heap.size ≤ w.heap.size + 1 by omega) _ _⟩
end Go.Proofs.Ytmmjdacjcipgjaa

namespace Go.Proofs.Ytmmjdacjcipgjaa
open Go.RowKit
theorem keepP_congr {a b : List Int} (h : ∀ x, x ∈ a ↔ x ∈ b) (l : List Wrt) : keepP a l = keepP b l := by
 unfold keepP
 congr 1
 funext y
 simp [h y.1]
theorem keepP_snoc (R : List Int) {l : List Wrt} {k : Nat} {y : Wrt} (h : l[k]? = some y) : keepP R (l.take (k + 1)) = if y.1 ∈ R then keepP R (l.take k) ++ [y] else keepP R (l.take k) := by
 unfold keepP
 rw [List.take_add_one, h]
 simp only [Option.toList_some, List.filter_append, List.filter_cons, List.filter_nil]
 split <;> simp_all
theorem live_of {t : Tr} {rs R : List Int} (hU : tups t.next t.pages t.pages.length) (hp : ∀ x ∈ R, tpage t.pages x ≠ none) (hi : ∀ x, x ∈ R ↔ Lv t rs x) : ∃ a, LvR t rs a ∧ ∀ x, x ∈ a ↔ x ∈ R := by
 refine ⟨(t.pages.map (·.1)).filter (fun x => decide (x ∈ R)), ?_, ?_⟩
 ·refine ⟨(tups_rise hU).sublist List.filter_sublist, fun x => ?_⟩
  rw [← hi x, List.mem_filter]
  refine ⟨fun h => by simpa using h.2, fun h => ⟨?_, by simpa using h⟩⟩
  cases hq : tpage t.pages x with
  | none => exact absurd hq (hp x h)
  | some z => exact List.mem_map.2 ⟨(x, z), tpage_mem hq, rfl⟩
 ·intro x
  rw [List.mem_filter]
  refine ⟨fun h => by simpa using h.2, fun h => ⟨?_, by simpa using h⟩⟩
  cases hq : tpage t.pages x with
  | none => exact absurd hq (hp x h)
  | some z => exact List.mem_map.2 ⟨(x, z), tpage_mem hq, rfl⟩
def SwR (w w' : World) (t : Tr) (rs : List Int) (e : Ending) : Prop :=
 (lvE t rs = 0 ∧ ∃ a pv', LvR t rs a ∧ e = .returned (.tuple #[tv (swT t a) pv', .int .i64 ((t.pages.length : Int) - ((keepP a t.pages).length : Int)), .int .i64 0]) ∧ OwnPg w.heap.size w' pv' (keepP a t.pages) ∧ Below w.heap.size w w') ∨
 (lvE t rs ≠ 0 ∧ e = .returned (.tuple #[tv ⟨0, 0, []⟩ (.slice none 0 0), .int .i64 0, .int .i64 (lvE t rs)]) ∧ Below w.heap.size w w')
structure SWl (w P wr : World) (g : Nat) (rt nx : Int) (v : Value) (qs : List Wrt) : Prop where
 own : OwnPg P.heap.size wr v qs
 box : wr.heap[g]? = some (.cells #[.int .i64 rt, .int .i64 nx, v] 26 (0, 0))
 kp : ∀ j, j < P.heap.size → j ≠ g → wr.heap[j]? = P.heap[j]?
 bel : Below w.heap.size w wr
 sz : P.heap.size ≤ wr.heap.size
theorem SWl.to {w P wr w' : World} {g : Nat} {rt nx : Int} {v : Value} {qs : List Wrt} (h : SWl w P wr g rt nx v qs) (b : Below wr.heap.size wr w') : SWl w P w' g rt nx v qs :=
 ⟨h.own.to9 b, (b.block _ (lt_of_block h.box)).trans h.box, fun j hj hg => (b.block j (Nat.lt_of_lt_of_le hj h.sz)).trans (h.kp j hj hg), h.bel.trans (b.mono h.bel.size), Nat.le_trans h.sz b.size⟩
set_option maxRecDepth 100000 in
set_option maxHeartbeats 4000000 in
theorem vsweep_any (w : World) (t : Tr) (pv rv : Value) (rs : List Int) (h : RdC w pv t.pages) (hx : ∀ x ∈ t.pages, x.2.length ≤ 140737488351232) (hroot : (Lit.int .i64 t.root).wf = true) (hr : RdI w rv rs) (hrw : ∀ r ∈ rs, (Lit.int .i64 r).wf = true) (hrl : rs.length ≤ 9223372036854775807) :
  Calls Try.prog 12 #[tv t pv, rv] w fun e w' => SwR w w' t rs e := by
 obtain ⟨W, hW, D, bW, sW⟩ := boxedN w #[.int .i64 t.root, .int .i64 t.next, pv] 26
 obtain ⟨X, hX, DX, bX, sX⟩ := boxedN W #[.int .i64 0, .int .i64 0, .slice none 0 0] 26
 have bWX := bW.trans (bX.mono bW.size)
 have KC := hide (vsearch_any X t pv rv rs (h.to0 bWX) hx hroot (hr.to0 bWX) hrw hrl)
 obtain ⟨a, c, rfl⟩ := h.slice
 obtain ⟨ra, rc, rfl⟩ := hr.slice
 have HH := hide h
 have HB := hide bWX
 have D1 := (bX.block _ (lt_of_block D)).trans D
 rw [sW] at DX
 have HD := hide (And.intro D1 DX)
 obtain ⟨⟨E0, E1, E2⟩, EF⟩ := cells3p D1
 obtain ⟨RL, hRL⟩ : ∃ L, L = rs.length := ⟨_, rfl⟩
 rw [← hRL] at KC hrl ⊢
 replace hRL := hide hRL
 dsimp only [tv] at KC ⊢
 rw [hX, hW] at E0 E1 E2 EF KC
 have hsz : Hid (X.heap.size = w.heap.size + 1 + 1) := by show _ = _; omega
 replace hroot := hide hroot
 replace hrw := hide hrw
 replace hx := hide hx
 clear h hr bW bX D D1 DX sW sX bWX
 go_enter Try.func12, Try.ntmps12
 go_wp2_with fail
 refine KC.out.mono ?_
 rintro e w1 h1
 rw [← hW, ← hX] at h1
 clear KC E0 E1 E2 EF
 replace hW := hide hW
 replace hX := hide hX
 rcases h1 with ⟨h1, bm, R, rfl, v1, i1⟩ | ⟨h1, rfl, b1⟩
 ·have B1 := HB.out.trans (v1.bel.mono HB.out.size)
  have T1 := (v1.bel.block _ (lt_of_block HD.out.1)).trans HD.out.1
  have R1 := (v1.bel.block _ (lt_of_block HD.out.2)).trans HD.out.2
  obtain ⟨Y, hY, DY, bY, sY⟩ := boxedN w1 #[.slice a t.pages.length c, .map (some bm)] 97
  obtain ⟨P, hP, DP, bP, sP⟩ := boxedN Y #[.int .i64 t.root, .int .i64 t.next, .slice none 0 0] 26
  rw [sY] at DP
  have bYP := bY.trans (bP.mono bY.size)
  obtain ⟨⟨ps0, hps0⟩, _⟩ := (lvE_ok h1).1
  obtain ⟨d0, _, hN, _⟩ := tprs_top hps0
  have hlen : t.pages.length ≤ 65536 := by have := tups_len hN.2.2.1 hN.1; have := hN.2.1; omega
  have hwf : Hid (∀ y ∈ t.pages, (Lit.int .i64 y.1).wf = true) := fun y hy => by
   have := tups_bd hN.2.2.1 y hy
   have := hN.2.1
   exact WalkArith.wf_i64 (by omega)
  have vP := v1.to bYP
  obtain ⟨m, m1, m2, m3⟩ := vP.map
  have hbm := v1.lt
  have hXw := v1.bel.size
  rw [hsz.out] at hXw
  have TP := (bYP.block _ (lt_of_block T1)).trans T1
  have RP := (bYP.block _ (lt_of_block R1)).trans R1
  have SP := (bP.block _ (lt_of_block DY)).trans DY
  have HP := hide (And.intro TP (And.intro RP SP))
  have HM := hide (And.intro m1 m2)
  have HM3 := hide m3
  have hps : Hid (P.heap.size = w1.heap.size + 1 + 1) := by show _ = _; omega
  have HL := hide (live_of hN.2.2.1 v1.pg i1)
  have hI0 : Hid (SWl w P P (w1.heap.size + 1) t.root t.next (.slice none 0 0) (keepP R (t.pages.take 0))) := ⟨OwnX.nil _ _ _, DP, fun j _ _ => rfl, B1.trans (bYP.mono B1.size), Nat.le_refl _⟩
  obtain ⟨⟨E0, E1, E2⟩, EF⟩ := cells3p ((bY.block _ (lt_of_block T1)).trans T1)
  obtain ⟨⟨G0, G1, G2⟩, GF⟩ := cells3p TP
  replace h1 := hide h1
  replace hbm := hide hbm
  replace hXw := hide hXw
  obtain ⟨L, hL⟩ : ∃ L, L = t.pages.length := ⟨_, rfl⟩
  rw [← hL] at hlen E2 G2 HP
  have hYL := hY
  rw [← hL] at hYL
  have HHL := HH
  rw [← hL] at HHL
  dsimp only [sev]
  rw [← hL]
  replace hL := hide hL
  rw [hP, hYL] at G0 G1 G2 GF
  rw [hYL] at E0 E1 E2 EF
  clear v1 vP m1 m2 m3 DY DP bY bP bYP sY sP TP RP SP T1 R1 i1 B1 hN hps0 hY
  go_wp2
  rw [← hYL, ← hP]
  replace hP := hide hP
  replace hYL := hide hYL
  clear E0 E1 E2 EF G0 G1 G2 GF
  go_loopw [30] (fun p wr => ∃ k : Nat, k ≤ L ∧ p = .int .i64 k ∧ ∃ v, Hid (SWl w P wr (w1.heap.size + 1) t.root t.next v (keepP R (t.pages.take k)))) (fun p _ => L - (intOf p).toNat)
  case atStart => exact ⟨0, Nat.zero_le _, rfl, _, hI0⟩
  case round =>
   obtain ⟨k, hk, rfl, v, hI⟩ := hrel
   have hq1 := hXw.out
   have hq2 := hbm.out
   have hq3 := hps.out
   have TR := (hI.out.kp _ (by omega) (by omega)).trans HP.out.1
   have RR := (hI.out.kp _ (by omega) (by omega)).trans HP.out.2.1
   have SR := (hI.out.kp _ (by omega) (by omega)).trans HP.out.2.2
   have MR := HM.out.1.kept (hI.out.kp bm (by omega) (by omega))
   clear hq1 hq2 hq3
   by_cases hlt : k < L
   ·have hq : (k : Int) < (L : Int) := by omega
    obtain ⟨y, hy⟩ := some_el t.pages (k := k) (by rw [← hL.out]; exact hlt)
    have hmy := List.mem_of_getElem? hy
    have hxl := hx.out y hmy
    have hwy := hwf.out y hmy
    have hsn := hide (keepP_snoc R hy)
    obtain ⟨b, off, u, e1, hc1, hc2, hr⟩ := HHL.out.wrt hy
    subst e1
    obtain ⟨z, x⟩ := y
    dsimp only at hc1 hc2 hr hxl hwy hsn
    obtain ⟨au, cu, rfl⟩ := hr.slice
    replace hc1 := (hI.out.bel.cell (cell_lt hc1)).trans hc1
    replace hc2 := (hI.out.bel.cell (cell_lt hc2)).trans hc2
    obtain ⟨V, hV, DV, bV, sV⟩ := boxedN wr #[.int .i64 z, .slice au x.length cu] 60
    have KH := hide (vhas_any V (.slice (some ⟨b, off, none⟩) L c) bm _ m z (MR.kept (bV.block _ MR.lt)) HM3.out hwy rfl)
    rw [HM.out.2 z] at KH
    have IV := hide (hI.out.to bV)
    have HV := hide DV
    have hr' := hide (hr.to (hI.out.bel.trans (bV.mono hI.out.bel.size)))
    obtain ⟨⟨V0, V1⟩, VF⟩ := cells2r DV
    obtain ⟨⟨S0, S1⟩, SF⟩ := cells2r ((bV.block _ (lt_of_block SR)).trans SR)
    dsimp only [sev] at KH
    obtain ⟨XL, hXL⟩ : ∃ XL, XL = x.length := ⟨_, rfl⟩
    rw [← hXL] at hV V1 hc2 HV
    replace hXL := hide hXL
    rw [hV] at V0 V1 VF S0 S1 SF KH
    clear hr bV DV sV TR RR SR MR hI hmy hy
    replace hwy := hide hwy
    replace hxl := hide hxl
    go_wp2_with fail
    refine KH.out.mono ?_
    rintro e w2 ⟨rfl, b2⟩
    rw [← hV] at b2
    have I2 := hide (IV.out.to b2)
    have D2 := (b2.block _ (lt_of_block HV.out)).trans HV.out
    have r2 := hide (hr'.out.to b2)
    clear KH V0 V1 VF S0 S1 SF hc1 hc2 IV HV hr' b2
    replace hV := hide hV
    by_cases hz : z ∈ R
    ·rw [decide_eq_true hz]
     have hsn' : Hid (keepP R (t.pages.take (k + 1)) = keepP R (t.pages.take k) ++ [(z, x)]) := by show _ = _; rw [hsn.out, if_pos hz]
     replace hz := hide hz
     clear hsn
     obtain ⟨oa, oc, ho⟩ := I2.out.own.shape
     obtain ⟨KL, hKL⟩ : ∃ KL, KL = (keepP R (t.pages.take k)).length := ⟨_, rfl⟩
     have hKL2 : KL ≤ k := by
      rw [hKL]
      have := keep_le R (t.pages.take k)
      rw [List.length_take] at this
      omega
     rw [← hKL] at ho
     replace hKL := hide hKL
     subst ho
     have bd : Below w2.heap.size w2 w2.drew := below_drewN' w2 1 _
     have KC := hide (bclone10 w2.drew _ x (r2.out.to bd) hxl.out)
     rw [← hXL.out] at KC
     have I3 := hide (I2.out.to bd)
     have D3 := (bd.block _ (lt_of_block D2)).trans D2
     obtain ⟨⟨d1, d2⟩, _⟩ := cells2r D3
     obtain ⟨⟨_, _, d3⟩, _⟩ := cells3p I3.out.box
     have hn : (KL + 1) * 32 ≤ 140737488355328 := by omega
     clear D2 D3 I2 r2 bd
     go_upto_region 9 with fail
     refine wp_region_mid (fun w' => w'.cell? ⟨wr.heap.size, 0, none⟩ = some (.int .i64 z) ∧ w'.cell? ⟨wr.heap.size, 1, none⟩ = some (.slice au XL cu) ∧ w'.cell? ⟨w1.heap.size + 1, 2, none⟩ = some (.slice oa KL oc)) 6 9 mixed (by kernel_rfl) (fun _ _ _ _ h => h) ⟨d1, d2, d3⟩ ?_
     dsimp only [List.take, List.drop]
     iterate 6
      refine take_one (v := ?_) (by rfl) ?_ ?_
      rotate_left
      ·rintro w' ⟨s1, s2, s3⟩
       go_simp
       try with_reducible rfl
      try simp only [Act.put, List.setIfInBounds_toArray, List.set_cons_zero, List.set_cons_succ]
     refine mid_one fun K hK => ?_
     refine step_call (by rfl) 44 _ _ (by rfl) #[.slice au XL cu] (by simp [Act.eval]) (Try.call44 _ _) KC.out ?_
     rintro e w3 ⟨v3, rfl, o3, b3⟩
     obtain ⟨va, vc, hv3⟩ := o3.rd.slice
     rw [← hXL.out] at hv3
     subst hv3
     have x1 := (b3.cell (cell_lt d1)).trans d1
     have x2 := (b3.cell (cell_lt d2)).trans d2
     have x3 := (b3.cell (cell_lt d3)).trans d3
     refine ⟨_, rfl, hK _ _ ⟨x1, x2, x3⟩ ?_⟩
     clear hK K
     have I4 := hide (I3.out.to b3)
     have O3 : Hid (OwnB P.heap.size w3 (.slice va XL vc) x) := rows_mono o3 I3.out.sz
     clear b3 o3 KC d1 d2 d3 I3
     try simp only [Act.put, List.setIfInBounds_toArray, List.set_cons_zero, List.set_cons_succ]
     refine mid_one fun K hK => ?_
     rw [if_pos (by rfl)]
     go_simp
     refine hK _ _ ⟨x1, x2, x3⟩ ?_
     clear hK K
     refine mid_one fun K hK => ?_
     rw [if_pos (by rfl)]
     go_simp
     refine hK _ _ ⟨cellAl9 x1 _, cellAl9 x2 _, cellAl9 x3 _⟩ ?_
     clear hK K x1 x2 x3
     show wpList _ _ _ _ _ _
     obtain ⟨Z, hZ, DZ, bZ, sZ⟩ := boxedN w3 #[.int .i64 z, .slice va XL vc] 60
     obtain ⟨⟨Z0, Z1⟩, _⟩ := cells2r DZ
     have IZ := hide (I4.out.to bZ)
     have OZ := IZ.out.own
     have SZ : OwnB P.heap.size Z (.slice va XL vc) x := rows_to O3.out bZ
     have hB : P.heap.size ≤ Z.heap.size := IZ.out.sz
     rw [hZ] at Z0 Z1 OZ SZ hB
     refine wpList_appPg rfl _ _ rfl P.heap.size (.slice oa KL oc) (keepP R (t.pages.take k)) (z, x) (.slice va XL vc) w3.heap.size rfl rfl OZ SZ rfl Z0 Z1 (by rw [← hKL.out]; exact hn) hB ?_
     intro v5 w5 o5 g5 b5 _
     rw [← hZ] at b5
     rw [← hsn'.out] at o5
     obtain ⟨na, nc, hv5⟩ := o5.shape
     generalize (keepP R (t.pages.take (k + 1))).length = nl at hv5
     subst hv5
     have hg9 : w1.heap.size + 1 < P.heap.size := by rw [hps.out]; omega
     have T5 := (b5.block _ hg9).trans IZ.out.box
     have hXw9 := hXw.out
     obtain ⟨⟨T0, T1, T2⟩, TF⟩ := cells3p T5
     have d0 := heap_setN T5 2 (.slice na nl nc)
     have D7 : (w5.setCell ⟨w1.heap.size + 1, 2, none⟩ (.slice na nl nc)).heap[w1.heap.size + 1]? = some (.cells #[.int .i64 t.root, .int .i64 t.next, (.slice na nl nc)] 26 (0, 0)) := by simpa using d0
     have kk : ∀ e, e ≠ 26 → KeepT e w5 (w5.setCell ⟨w1.heap.size + 1, 2, none⟩ (.slice na nl nc)) := fun e he => KeepT.set (a := ⟨w1.heap.size + 1, 2, none⟩) T5 he _
     have I5 : Hid (SWl w P (w5.setCell ⟨w1.heap.size + 1, 2, none⟩ (.slice na nl nc)) (w1.heap.size + 1) t.root t.next (.slice na nl nc) (keepP R (t.pages.take (k + 1)))) := by
      refine ⟨o5.keepT (kk _ (by decide)) (kk _ (by decide)), D7, fun j hj hg => ?_, ?_, ?_⟩
      ·exact (Below.heap_setCell _ _ _ _ hg).trans ((b5.block j hj).trans (IZ.out.kp j hj hg))
      ·refine Below.setCell (IZ.out.bel.trans (b5.mono ?_)) (p := ⟨w1.heap.size + 1, 2, none⟩) (show w.heap.size ≤ w1.heap.size + 1 by omega) _
       rw [hps.out]; omega
      ·have := b5.size
       have := IZ.out.sz
       simp
       omega
     clear o5 g5 b5 Z0 Z1 OZ SZ hB DZ bZ hZ IZ I4 O3 d0 D7 kk T5 hXw9 hg9
     go_wp2
     go_roundw
     case rel => exact ⟨k + 1, by omega, by go_num, _, I5⟩
     case measure => simp [intOf]; omega
    ·rw [decide_eq_false hz]
     have hI' : Hid (SWl w P w2 (w1.heap.size + 1) t.root t.next v (keepP R (t.pages.take (k + 1)))) := by
      have := I2.out
      rw [hsn.out, if_neg hz]
      exact this
     replace hz := hide hz
     clear D2 I2 r2 hsn
     go_wp2
     go_roundw
     case rel => exact ⟨k + 1, by omega, by go_num, _, hI'⟩
     case measure => simp [intOf]; omega
   ·have hq : ¬ (k : Int) < (L : Int) := by omega
    obtain rfl : k = L := by omega
    have htk : t.pages.take k = t.pages := List.take_of_length_le (by rw [← hL.out]; omega)
    rw [htk] at hI
    obtain ⟨A, hA, hAR⟩ := HL.out
    have hkp := keepP_congr hAR t.pages
    rw [← hkp] at hI
    obtain ⟨oa, oc, ho⟩ := hI.out.own.shape
    obtain ⟨KL, hKL⟩ : ∃ KL, KL = (keepP A t.pages).length := ⟨_, rfl⟩
    have hKL2 : KL ≤ k := by
     rw [hKL, hL.out]
     exact keep_le _ _
    rw [← hKL] at ho
    replace hKL := hide hKL
    subst ho
    have hwr : IntKind.i64.wrap ((k : Int) - (KL : Int)) = (k : Int) - (KL : Int) := IntWalk.i64_in _ (by omega)
    have bd : Below wr.heap.size wr wr.drew := below_drewN' wr 1 _
    have ID := hI.out.to bd
    have RD := (bd.block _ (lt_of_block RR)).trans RR
    have TD := (bd.block _ (lt_of_block TR)).trans TR
    have hg1 := hXw.out
    have hsk := fun e (he : e ≠ 26) => s3_keep9 RD (.int .i64 t.root) (.int .i64 t.next) (.slice oa KL oc) he
    have OO := hide (ID.own.keepT (hsk _ (by decide)) (hsk _ (by decide)))
    have BB := hide (below_set3t ID.bel (show w.heap.size ≤ w.heap.size + 1 by omega) (.int .i64 t.root) (.int .i64 t.next) (.slice oa KL oc))
    have hYw : Hid (w.heap.size ≤ P.heap.size) := by show _ ≤ _; rw [hps.out]; omega
    have HR := hide RD
    have SS := hide (And.intro TD ID.box)
    have hng : Hid (w.heap.size ≠ w.heap.size + 1 ∧ w1.heap.size + 1 ≠ w.heap.size + 1) := by refine ⟨?_, ?_⟩ <;> omega
    replace hA := hide hA
    clear hI TR RR SR MR hkp hAR htk hsk hg1 bd ID RD TD
    go_upto_region 11 with fail
    refine wp_region_mid (fun w' => w'.heap[w.heap.size]? = some (.cells #[.int .i64 t.root, .int .i64 t.next, .slice a k c] 26 (0, 0)) ∧ w'.heap[w1.heap.size + 1]? = some (.cells #[.int .i64 t.root, .int .i64 t.next, .slice oa KL oc] 26 (0, 0))) 8 9 mixed (by kernel_rfl) (fun _ _ _ _ h => h) SS.out ?_
    dsimp only [List.take, List.drop]
    obtain ⟨U, hU⟩ : ∃ U, U = wr.drew := ⟨_, rfl⟩
    rw [← hU] at HR SS OO BB ⊢
    replace hU := hide hU
    iterate 8
     refine take_one (v := ?_) (by rfl) ?_ ?_
     rotate_left
     ·rintro w' ⟨s1, s2⟩
      obtain ⟨⟨E0, E1, E2⟩, EF⟩ := cells3p s1
      obtain ⟨⟨G0, G1, G2⟩, GF⟩ := cells3p s2
      clear s1 s2
      go_simp
      try with_reducible rfl
     try simp only [Act.put, List.setIfInBounds_toArray, List.set_cons_zero, List.set_cons_succ]
    refine mid_one fun KK hKK => ?_
    rw [if_pos (by rfl)]
    obtain ⟨⟨F0, F1, F2⟩, FF⟩ := cells3p HR.out
    go_simp
    refine hKK _ _ ⟨?_, ?_⟩ ?_
    ·exact (Below.heap_setCell _ _ _ _ hng.out.1).trans ((Below.heap_setCell _ _ _ _ hng.out.1).trans ((Below.heap_setCell _ _ _ _ hng.out.1).trans SS.out.1))
    ·exact (Below.heap_setCell _ _ _ _ hng.out.2).trans ((Below.heap_setCell _ _ _ _ hng.out.2).trans ((Below.heap_setCell _ _ _ _ hng.out.2).trans SS.out.2))
    clear hKK KK F0 F1 F2 FF
    show wpList _ _ _ _ _ _
    go_wp2
    (try simp only [Exit.inBlock, Exit.then])
    have hgg := heap_set3t HR.out (.int .i64 t.root) (.int .i64 t.next) (.slice oa KL oc)
    refine retNTT (p := 4) (u1 := 5) (u2 := 6) (ty := 26) (by rfl) (by rfl) (w.heap.size + 1) (by rfl) _ _ (0, 0) hgg _ Try.underlying26 rfl info_tr (.int .i64 ((k : Int) - (KL : Int))) (by rfl) (.int .i64 0) (by rfl) ?_
    refine .inl ⟨h1.out, A, _, hA.out, ?_, OwnX.base OO.out hYw.out, BB.out⟩
    rw [← hKL.out, ← hL.out]
 ·have B1 := HB.out.trans (b1.mono HB.out.size)
  have R1 := (b1.block _ (lt_of_block HD.out.2)).trans HD.out.2
  obtain ⟨Y, hY, DY, bY, sY⟩ := boxedN w1 #[.slice none 0 0, .map none] 97
  have R2 := (bY.block _ (lt_of_block R1)).trans R1
  have BY := hide (B1.trans (bY.mono B1.size))
  have HR := hide R2
  obtain ⟨er, her⟩ : ∃ er, er = lvE t rs := ⟨_, rfl⟩
  rw [← her] at h1 ⊢
  replace her := hide her
  obtain ⟨⟨F0, F1, F2⟩, FF⟩ := cells3p R2
  rw [hY] at F0 F1 F2 FF HR BY
  clear DY bY sY B1 b1 R1 R2 hY
  go_wp2
  (try simp only [Exit.inBlock, Exit.then])
  have hgg := heap_set3t HR.out (.int .i64 0) (.int .i64 0) (.slice none 0 0)
  refine retNTT (p := 4) (u1 := 5) (u2 := 6) (ty := 26) (by rfl) (by rfl) (w.heap.size + 1) (by rfl) _ _ (0, 0) hgg _ Try.underlying26 rfl info_tr (.int .i64 0) (by rfl) (.int .i64 er) (by rfl) ?_
  exact .inr ⟨by rw [← her.out]; exact h1, by rw [← her.out], below_set3t BY.out (show w.heap.size ≤ w.heap.size + 1 by omega) _ _ _⟩
end Go.Proofs.Ytmmjdacjcipgjaa

namespace Go.Proofs.Ytmmjdacjcipgjaa
open Go.RowKit
theorem ttop_prs {t : Tr} {d : Nat} {ps qs : List Pr} (h : TTop t d ps) (k : tprs t = some qs) : ps = qs := by
 obtain ⟨s, h1, h2⟩ := ttop_to h
 obtain ⟨_, _, s', h3, h4⟩ := tprs_num k
 rw [h1] at h3
 cases h3
 exact h2.symm.trans h4
theorem ttop_flat {t : Tr} {d : Nat} {ps : List Pr} (h : TTop t d ps) (hl : ps.length ≤ 1) : d = 0 := by
 rcases h with ⟨_, rfl, _⟩ | ⟨h0, hd, h1, h2, rfl⟩
 ·rfl
 ·have h3 := h1.many
  cases d with
  | zero => rfl
  | succ d =>
   have h4 : 1 ≤ 2 ^ d := Nat.one_le_two_pow
   rw [Nat.pow_succ] at h3
   omega
theorem chg_one {t u : Tr} {ps qs : List Pr} (hC : Chg t u qs) (ht : tprs t = some ps) (hne : ps ≠ qs) (hl : ps.length ≤ 1) (hq : qs ≠ []) (hs : nsize (lf qs) ≤ 244) : u.pages.length = t.pages.length + 1 := by
 have hp := hC.prs
 rcases hC.how with rfl | ⟨key, upd, ed, d, ps', hT, hE, rfl, rfl⟩
 ·rw [ht] at hp
  exact absurd (Option.some.inj hp) hne
 ·have e := ttop_prs hT ht
  subst e
  obtain rfl := ttop_flat hT hl
  obtain ⟨h1, h2, h3, h4, h5⟩ := top_no hT
  obtain ⟨q9, e1, p1, _⟩ := h1
  have e2 : q9 = ps' := by
   rw [e1] at h5
   exact (npr_lf q9).symm.trans h5
  subst e2
  have hed := (hE.leaf q9 p1 (by rw [← e1]; exact h2)).1
  have hk : (lf (upd q9)).keys.length ≠ 0 := by
   intro h
   have : (upd q9).length = 0 := by simpa [lf] using h
   exact hq (List.eq_nil_of_length_eq_zero this)
  have hc : (chgR t key ed 0).2.length = 1 := by
   have hr : rebOf t.pages t.next key ed 0 (topOf t) [] = (lf (upd q9), []) := by
    rw [e1]
    show (ed (lf q9), []) = _
    rw [hed]
   unfold chgR
   rw [hr]
   unfold rootOf
   have hb : bareB (lf (upd q9)) = false := rfl
   rw [hb]
   simp only [Bool.false_eq_true, if_false]
   unfold laidOf
   rw [if_neg hk, if_pos hs]
   rfl
  show (t.pages ++ pgs t.next (chgR t key ed 0).2).length = _
  rw [List.length_append, pgs_len, hc]
theorem one_live {u : Tr} {p : Pr} (h : tprs u = some [p]) {a : List Int} (hA : LvR u [] a) : a.length = 1 := by
 obtain ⟨d, h1, h2, h3⟩ := tprs_top h
 obtain rfl := ttop_flat h1 (by simp)
 have h0 : u.root ≠ 0 := by
  rcases h1 with ⟨_, _, h⟩ | ⟨h, _⟩
  ·cases h
  ·exact h
 have e : a = [u.root] := rise_eq hA.1 (by simp) fun x => by
  rw [hA.2 x]
  unfold Lv
  rw [seen_top h1 x]
  simp [h0, idsOf]
 rw [e]
 rfl
theorem put_ok {B : Nat} {c : World} {t u : Tr} {k v : Str} {pv : Value} {err : Int} (h : PutB B c t k v u pv err) (hp : perr t k v = 0) (hn : t.next ≤ 65495) : err = 0 ∧ OwnPg B c pv u.pages ∧ ∃ ps, tprs t = some ps ∧ Chg t u (pins k v ps) := by
 rcases h with ⟨h1, h2 | ⟨_, _, h2⟩⟩ | ⟨h1, _, h2, h3⟩
 ·rw [hp] at h2; exact absurd h2 h1
 ·omega
 ·exact ⟨h1, h2, h3⟩
theorem own_small {t : Tr} (h : t.pages = []) : ∀ x ∈ t.pages, x.2.length ≤ 140737488351232 := fun x hx => by rw [h] at hx; cases hx
set_option maxRecDepth 100000 in
theorem pnum11_any (w : World) (n : Int) : Calls Try.prog 9 #[.int .i64 n] w fun e w' => e = .returned (.int .i64 n) ∧ w = w' := by
 go_enter Try.func9, Try.ntmps9
 go_wp2
 go_ret
 exact ⟨rfl, rfl⟩
theorem rdI_nil (w : World) : RdI w (.slice none 0 0) [] := OwnJ.rd (World.ownsRow_nil w 0 3 1 : OwnJ 0 w (.slice none 0 0) [])
theorem ta0 : tprs ⟨0, 1, []⟩ = some [] := by decide
set_option maxRecDepth 100000 in
set_option maxHeartbeats 4000000 in
theorem palive11_any (w : World) : Calls Try.prog 6 #[] w fun e w' => e = .returned (.bool true) ∧ Below w.heap.size w w' := by
 have KN := hide (pnew10_any w)
 go_enter Try.func6, Try.ntmps6
 go_wp2_with fail
 refine KN.out.mono ?_
 rintro e w1 ⟨rfl, b1⟩
 have KP := hide (pput_any w1 ⟨0, 1, []⟩ (.slice none 0 0) [97] [49] (OwnX.rd (OwnX.nil _ 0 w1 : OwnPg 0 w1 (.slice none 0 0) [])) (own_small rfl) rfl (by decide))
 have B1 := hide b1
 dsimp only [tv] at KP ⊢
 clear KN b1
 go_wp2_with fail
 refine KP.out.mono ?_
 rintro e w2 h2
 obtain ⟨u, a2, n2, c2, err, rfl, h3, b2⟩ := PutA.to h2
 obtain ⟨rfl, o2, ps, hps, hC⟩ := put_ok h3 (perr_ok ta0 (by decide) (by decide) (by simp)) (by decide)
 rw [ta0] at hps
 cases hps
 have hpg := chg_one hC ta0 (by decide) (by decide) (by decide) (by decide)
 have hq1 : pins [97] [49] [] = [([97], [49])] := by decide
 rw [hq1] at hC
 obtain ⟨Y, hY, DY, bY, sY⟩ := boxedN w2 #[.int .i64 u.root, .int .i64 u.next, .slice a2 n2 c2] 26
 have KP2 := hide (pput_any Y u (.slice a2 n2 c2) [97] [50] (OwnX.rd (o2.to9 bY)) (hC.small (own_small rfl)) hC.rwf (by decide))
 have bw2 := B1.out.trans (b2.mono B1.out.size)
 have B2 := hide (bw2.trans (bY.mono bw2.size))
 have HC := hide hC
 have HPG := hide hpg
 obtain ⟨⟨E0, E1, E2⟩, EF⟩ := cells3p DY
 dsimp only [tv] at KP2
 rw [hY] at E0 E1 E2 EF KP2
 clear KP h2 h3 o2 DY bY sY bw2 b2 hC hpg hq1
 go_wp2_with fail
 refine KP2.out.mono ?_
 rintro e w3 h4
 rw [← hY] at h4
 obtain ⟨u2, a3, n3, c3, err, rfl, h5, b3⟩ := PutA.to h4
 obtain ⟨rfl, o3, ps, hps, hC2⟩ := put_ok h5 (perr_ok HC.out.prs (by decide) (by decide) (by simp)) (by have := HC.out.nxt.2; simp at this; omega)
 rw [HC.out.prs] at hps
 cases hps
 have hq2 : pins [97] [50] [([97], [49])] = [([97], [50])] := by decide
 rw [hq2] at hC2
 have hpg2 := chg_one hC2 HC.out.prs (by decide) (by decide) (by decide) (by decide)
 rw [HPG.out] at hpg2
 obtain ⟨Z, hZ, DZ, bZ, sZ⟩ := boxedN w3 #[.int .i64 u2.root, .int .i64 u2.next, .slice a3 n3 c3] 26
 have KS := hide (vsweep_any Z u2 (.slice a3 n3 c3) (.slice none 0 0) [] (OwnX.rd (o3.to9 bZ)) (hC2.small (HC.out.small (own_small rfl))) hC2.rwf (rdI_nil Z) (fun r hr => by cases hr) (by decide))
 have bw3 := B2.out.trans (b3.mono B2.out.size)
 have B3 := hide (bw3.trans (bZ.mono bw3.size))
 have HC2 := hide hC2
 have HPG2 := hide hpg2
 obtain ⟨⟨F0, F1, F2⟩, FF⟩ := cells3p DZ
 dsimp only [tv] at KS
 rw [hZ] at F0 F1 F2 FF KS
 replace hY := hide hY
 clear KP2 h4 h5 o3 DZ bZ sZ bw3 b3 hC2 hpg2 hq2 E0 E1 E2 EF
 go_wp2_with fail
 refine KS.out.mono ?_
 rintro e w4 h6
 rw [← hZ] at h6
 have hok : lvE u2 [] = 0 := lvE_of ⟨⟨_, HC2.out.prs⟩, fun r hr => by cases hr⟩ (by simp)
 rcases h6 with ⟨_, A, pv4, hA, rfl, o4, b4⟩ | ⟨h6, _⟩
 rotate_left
 ·exact absurd hok h6
 have hlA := one_live HC2.out.prs hA
 have hkl := keep_len hA (lvE_ok hok).1
 rw [hlA] at hkl
 obtain ⟨a4, c4, hp4⟩ := o4.shape
 rw [hkl] at hp4
 subst hp4
 have hn : (u2.pages.length : Int) - ((keepP A u2.pages).length : Int) = 1 := by rw [hkl, HPG2.out]; simp
 rw [hn]
 obtain ⟨V, hV, DV, bV, sV⟩ := boxedN w4 #[.int .i64 u2.root, .int .i64 u2.next, .slice a4 1 c4] 26
 have bw4 := B3.out.trans (b4.mono B3.out.size)
 have B4 := hide (bw4.trans (bV.mono bw4.size))
 obtain ⟨⟨G0, G1, G2⟩, GF⟩ := cells3p DV
 dsimp only [tv]
 rw [hV] at G0 G1 G2 GF B4
 clear KS o4 b4 DV bV sV bw4 hlA hkl hA hn F0 F1 F2 FF
 have KZ := hide (fun w => pnum11_any w 0)
 go_wp2_with fail
 refine (KZ.out _).mono ?_
 rintro e w5 ⟨rfl, rfl⟩
 go_wp2_with fail
 refine (KZ.out _).mono ?_
 rintro e w5 ⟨rfl, rfl⟩
 go_wp2_with fail
 refine (KZ.out _).mono ?_
 rintro e w5 ⟨rfl, rfl⟩
 go_wp2
 go_ret
 exact ⟨rfl, B4.out⟩
end Go.Proofs.Ytmmjdacjcipgjaa

namespace Go.Proofs.Ytmmjdacjcipgjaa
open Go.RowKit
theorem sw_prs {t : Tr} {rs a : List Int} {ps : List Pr} (hA : LvR t rs a) (h : tprs t = some ps) : tprs (swT t a) = some ps := (sweep_prs (r := t.root) hA h (lv_own rs)).1
theorem sw_big {t : Tr} {a : List Int} {n : Nat} (h : ∀ x ∈ t.pages, x.2.length ≤ n) : ∀ x ∈ (swT t a).pages, x.2.length ≤ n := fun x hx => h x (List.mem_filter.1 hx).1
end Go.Proofs.Ytmmjdacjcipgjaa

namespace Go.Proofs.Ytmmjdacjcipgjaa
open Go.RowKit
def CB1 (B : Nat) (c : World) (t u : Tr) (pv : Value) (err : Int) : Prop := err ≠ 0 ∨ (err = 0 ∧ OwnPg B c pv u.pages ∧ ∃ ps, Chg t u ps)
theorem PutB.cb1 {B : Nat} {c : World} {t u : Tr} {k v : Str} {pv : Value} {err : Int} (h : PutB B c t k v u pv err) : CB1 B c t u pv err := by
 rcases h with h | ⟨h1, _, h3, ps, _, h4⟩
 ·exact .inl h.1
 ·exact .inr ⟨h1, h3, _, h4⟩
theorem DelB.cb1 {B : Nat} {c : World} {t u : Tr} {k : Str} {pv : Value} {was : Bool} {err : Int} (h : DelB B c t k u pv was err) : CB1 B c t u pv err := by
 rcases h with h | ⟨h1, _, h3, ps, _, _, h4⟩
 ·exact .inl h.1
 ·exact .inr ⟨h1, h3, _, h4⟩
theorem CB1.keep {B : Nat} {c c' : World} {t u : Tr} {pv : Value} {err : Int} (h : CB1 B c t u pv err) (k1 : ∀ e, e ≠ 26 → KeepT e c c') : CB1 B c' t u pv err := by
 rcases h with h | ⟨h1, h3, h4⟩
 ·exact .inl h
 ·exact .inr ⟨h1, OwnX.keepT h3 (k1 _ (by decide)) (k1 _ (by decide)), h4⟩
theorem CB1.base {B C : Nat} {c : World} {t u : Tr} {pv : Value} {err : Int} (h : CB1 C c t u pv err) (hb : B ≤ C) : CB1 B c t u pv err := by
 rcases h with h | ⟨h1, h3, h4⟩
 ·exact .inl h
 ·exact .inr ⟨h1, OwnPg.base h3 hb, h4⟩
structure GI (w wr : World) (g3 : Nat) (t : Tr) (pv : Value) (rs : List Int) (rv : Value) (k : Nat) : Prop where
 own : OwnPg w.heap.size wr pv t.pages
 prs : ∃ want, tprs t = some want
 nxt : t.next ≤ 1 + 40 * (k : Int)
 sml : ∀ x ∈ t.pages, x.2.length ≤ 244
 ro : OwnJ w.heap.size wr rv rs
 l1 : rs.length ≤ 16
 old : ∀ r ∈ rs, ∃ q, tprs ⟨r, t.next, t.pages⟩ = some q
 tb : wr.heap[g3]? = some (.cells #[.int .i64 t.root, .int .i64 t.next, pv] 26 (0, 0))
 bel : Below w.heap.size w wr
 hg : w.heap.size ≤ g3
theorem GI.to {w wr wr' : World} {g3 : Nat} {t : Tr} {pv : Value} {rs : List Int} {rv : Value} {k : Nat} (h : GI w wr g3 t pv rs rv k) (b : Below wr.heap.size wr wr') : GI w wr' g3 t pv rs rv k :=
 ⟨h.own.to9 b, h.prs, h.nxt, h.sml, rows_to h.ro b, h.l1, h.old, (b.block _ (lt_of_block h.tb)).trans h.tb, h.bel.trans (b.mono h.bel.size), h.hg⟩
theorem GI.more {w wr : World} {g3 : Nat} {t : Tr} {pv : Value} {rs : List Int} {rv : Value} {k n : Nat} (h : GI w wr g3 t pv rs rv k) (hn : k ≤ n) : GI w wr g3 t pv rs rv n :=
 ⟨h.own, h.prs, by have := h.nxt; omega, h.sml, h.ro, h.l1, h.old, h.tb, h.bel, h.hg⟩
theorem GI.rwf {w wr : World} {g3 : Nat} {t : Tr} {pv : Value} {rs : List Int} {rv : Value} {k : Nat} (h : GI w wr g3 t pv rs rv k) : (Lit.int .i64 t.root).wf = true := by
 obtain ⟨q, hq⟩ := h.prs
 exact (tprs_num hq).1.rwf
theorem GI.rsw {w wr : World} {g3 : Nat} {t : Tr} {pv : Value} {rs : List Int} {rv : Value} {k : Nat} (h : GI w wr g3 t pv rs rv k) : ∀ r ∈ rs, (Lit.int .i64 r).wf = true := fun r hr => by
 obtain ⟨q, hq⟩ := h.old r hr
 exact (tprs_num hq).1.rwf
theorem GI.big {w wr : World} {g3 : Nat} {t : Tr} {pv : Value} {rs : List Int} {rv : Value} {k : Nat} (h : GI w wr g3 t pv rs rv k) : ∀ x ∈ t.pages, x.2.length ≤ 140737488351232 := fun x hx => by have := h.sml x hx; omega
theorem GI.note {w wr c : World} {g3 : Nat} {t : Tr} {pv : Value} {rs : List Int} {rv rv' : Value} {k : Nat} (h : GI w wr g3 t pv rs rv k) (hl : rs.length < 16) (kk : ∀ e, e ≠ 3 → KeepT e wr c) (b : Below w.heap.size w c) (o1 : OwnJ w.heap.size c rv' (rs ++ [t.root])) : GI w c g3 t pv (rs ++ [t.root]) rv' k := by
 refine ⟨OwnX.keepT h.own (kk _ (by decide)) (kk _ (by decide)), h.prs, h.nxt, h.sml, o1, by simp; omega, ?_, kk _ (by decide) _ _ _ h.tb, b, h.hg⟩
 intro r hr
 rcases List.mem_append.1 hr with hr | hr
 ·exact h.old r hr
 ·rw [List.mem_singleton.1 hr]; exact h.prs
theorem GI.put {w c : World} {g3 : Nat} {t u : Tr} {pv pv' : Value} {ps : List Pr} {rs : List Int} {rv : Value} {k : Nat} (h : GI w c g3 t pv rs rv k) (hC : Chg t u ps) (o : OwnPg w.heap.size c pv' u.pages) :
  GI w (((c.setCell ⟨g3, 0, none⟩ (.int .i64 u.root)).setCell ⟨g3, 1, none⟩ (.int .i64 u.next)).setCell ⟨g3, 2, none⟩ pv') g3 u pv' rs rv (k + 1) := by
 have kk := fun e (he : e ≠ 26) => s3_keep9 h.tb (.int .i64 u.root) (.int .i64 u.next) pv' he
 obtain ⟨more, e, _, h2⟩ := hC.pgs
 refine ⟨OwnX.keepT o (kk _ (by decide)) (kk _ (by decide)), ⟨_, hC.prs⟩, ?_, ?_, rows_keepT h.ro (kk _ (by decide)), h.l1, fun r hr => ?_, heap_set3t h.tb _ _ _, below_set3t h.bel h.hg _ _ _, h.hg⟩
 ·have h3 := hC.nxt
  have := h.nxt
  push_cast
  omega
 ·intro x hx
  rw [e, List.mem_append] at hx
  rcases hx with hx | hx
  ·exact h.sml x hx
  ·exact h2 x hx
 ·obtain ⟨q, hq⟩ := h.old r hr
  exact ⟨q, tprs_old hC hq⟩
theorem GI.lv {w wr : World} {g3 : Nat} {t : Tr} {pv : Value} {rs : List Int} {rv : Value} {k : Nat} (h : GI w wr g3 t pv rs rv k) (n : Nat) : LvOk t (rs.take n) ∧ lvE t (rs.take n) = 0 := by
 have h1 : LvOk t (rs.take n) := ⟨h.prs, fun r hr => h.old r (List.mem_of_mem_take hr)⟩
 exact ⟨h1, lvE_of h1 (by have := h.l1; rw [List.length_take]; omega)⟩
theorem mod20 (ev : Int) : ∃ E : Nat, 1 ≤ E ∧ E ≤ 20 ∧ 1 + ev.tmod 20 % 20 = (E : Int) := by
 obtain ⟨b, hb⟩ : ∃ b, b = ev.tmod 20 := ⟨_, rfl⟩
 rw [← hb]
 exact ⟨(1 + b % 20).toNat, by omega, by omega, by omega⟩
end Go.Proofs.Ytmmjdacjcipgjaa

namespace Go.Proofs.Ytmmjdacjcipgjaa
open Go.RowKit
structure KI (w wr : World) (g3 : Nat) (t : Tr) (pv : Value) (want : List Pr) (rs : List Int) (rv : Value) (hs : List (List Pr)) (hv : Value) (k : Nat) : Prop where
 own : OwnPg w.heap.size wr pv t.pages
 prs : tprs t = some want
 nxt : t.next ≤ 1 + 40 * (k : Int)
 sml : ∀ x ∈ t.pages, x.2.length ≤ 244
 ro : OwnJ w.heap.size wr rv rs
 ha : OwnH w.heap.size wr hv hs
 l1 : rs.length ≤ 16
 l2 : hs.length = rs.length
 old : ∀ (j : Nat) r h, rs[j]? = some r → hs[j]? = some h → tprs ⟨r, t.next, t.pages⟩ = some h
 tb : wr.heap[g3]? = some (.cells #[.int .i64 t.root, .int .i64 t.next, pv] 26 (0, 0))
 bel : Below w.heap.size w wr
 hg : w.heap.size ≤ g3
theorem KI.to {w wr wr' : World} {g3 : Nat} {t : Tr} {pv : Value} {want : List Pr} {rs : List Int} {rv : Value} {hs : List (List Pr)} {hv : Value} {k : Nat} (h : KI w wr g3 t pv want rs rv hs hv k) (b : Below wr.heap.size wr wr') : KI w wr' g3 t pv want rs rv hs hv k :=
 ⟨h.own.to9 b, h.prs, h.nxt, h.sml, rows_to h.ro b, h.ha.keep (KeepT.below b) (KeepT.below b), h.l1, h.l2, h.old, (b.block _ (lt_of_block h.tb)).trans h.tb, h.bel.trans (b.mono h.bel.size), h.hg⟩
theorem KI.more {w wr : World} {g3 : Nat} {t : Tr} {pv : Value} {want : List Pr} {rs : List Int} {rv : Value} {hs : List (List Pr)} {hv : Value} {k n : Nat} (h : KI w wr g3 t pv want rs rv hs hv k) (hn : k ≤ n) : KI w wr g3 t pv want rs rv hs hv n :=
 ⟨h.own, h.prs, by have := h.nxt; omega, h.sml, h.ro, h.ha, h.l1, h.l2, h.old, h.tb, h.bel, h.hg⟩
theorem KI.rwf {w wr : World} {g3 : Nat} {t : Tr} {pv : Value} {want : List Pr} {rs : List Int} {rv : Value} {hs : List (List Pr)} {hv : Value} {k : Nat} (h : KI w wr g3 t pv want rs rv hs hv k) : (Lit.int .i64 t.root).wf = true := (tprs_num h.prs).1.rwf
theorem KI.big {w wr : World} {g3 : Nat} {t : Tr} {pv : Value} {want : List Pr} {rs : List Int} {rv : Value} {hs : List (List Pr)} {hv : Value} {k : Nat} (h : KI w wr g3 t pv want rs rv hs hv k) : ∀ x ∈ t.pages, x.2.length ≤ 140737488351232 := fun x hx => by have := h.sml x hx; omega
theorem KI.each {w wr : World} {g3 : Nat} {t : Tr} {pv : Value} {want : List Pr} {rs : List Int} {rv : Value} {hs : List (List Pr)} {hv : Value} {k : Nat} (h : KI w wr g3 t pv want rs rv hs hv k) : ∀ r ∈ rs, ∃ q, tprs (atR t r) = some q := fun r hr => by
 obtain ⟨i, hi⟩ := mem_at hr
 have hl := (List.getElem?_eq_some_iff.1 hi).1
 obtain ⟨q, hq⟩ := some_el hs (k := i) (by rw [h.l2]; exact hl)
 exact ⟨q, h.old i r q hi hq⟩
theorem KI.rsw {w wr : World} {g3 : Nat} {t : Tr} {pv : Value} {want : List Pr} {rs : List Int} {rv : Value} {hs : List (List Pr)} {hv : Value} {k : Nat} (h : KI w wr g3 t pv want rs rv hs hv k) : ∀ r ∈ rs, (Lit.int .i64 r).wf = true := fun r hr => by
 obtain ⟨q, hq⟩ := h.each r hr
 exact (tprs_num hq).1.rwf
theorem KI.lv {w wr : World} {g3 : Nat} {t : Tr} {pv : Value} {want : List Pr} {rs : List Int} {rv : Value} {hs : List (List Pr)} {hv : Value} {k : Nat} (h : KI w wr g3 t pv want rs rv hs hv k) : LvOk t rs ∧ lvE t rs = 0 := by
 have h1 : LvOk t rs := ⟨⟨_, h.prs⟩, h.each⟩
 exact ⟨h1, lvE_of h1 h.l1⟩
theorem KI.note {w wr c : World} {g3 : Nat} {t : Tr} {pv : Value} {want : List Pr} {rs : List Int} {rv rv' : Value} {hs : List (List Pr)} {hv hv' : Value} {k : Nat} (h : KI w wr g3 t pv want rs rv hs hv k) (hl : rs.length < 16) (kk : ∀ e, e ≠ 3 → e ≠ 30 → KeepT e wr c) (b : Below w.heap.size w c) (o1 : OwnJ w.heap.size c rv' (rs ++ [t.root])) (o2 : OwnH w.heap.size c hv' (hs ++ [want])) : KI w c g3 t pv want (rs ++ [t.root]) rv' (hs ++ [want]) hv' k := by
 refine ⟨OwnX.keepT h.own (kk _ (by decide) (by decide)) (kk _ (by decide) (by decide)), h.prs, h.nxt, h.sml, o1, o2, by simp; omega, by simp [h.l2], ?_, kk _ (by decide) (by decide) _ _ _ h.tb, b, h.hg⟩
 intro j r q hr hq
 by_cases hj : j < rs.length
 ·rw [List.getElem?_append_left hj] at hr
  rw [List.getElem?_append_left (by rw [h.l2]; exact hj)] at hq
  exact h.old j r q hr hq
 ·have h1 : j < (rs ++ [t.root]).length := (List.getElem?_eq_some_iff.1 hr).1
  rw [List.length_append] at h1
  have hjk : j = rs.length := by simp at h1; omega
  subst hjk
  have e1 : (rs ++ [t.root])[rs.length]? = some t.root := by rw [List.getElem?_append_right (Nat.le_refl _)]; simp
  have e2 : (hs ++ [want])[rs.length]? = some want := by rw [← h.l2, List.getElem?_append_right (Nat.le_refl _)]; simp
  rw [e1] at hr
  rw [e2] at hq
  rw [← Option.some.inj hr, ← Option.some.inj hq]
  exact h.prs
theorem KI.put {w c : World} {g3 : Nat} {t u : Tr} {pv pv' : Value} {want ps : List Pr} {rs : List Int} {rv : Value} {hs : List (List Pr)} {hv : Value} {k : Nat} (h : KI w c g3 t pv want rs rv hs hv k) (hC : Chg t u ps) (o : OwnPg w.heap.size c pv' u.pages) :
  KI w (((c.setCell ⟨g3, 0, none⟩ (.int .i64 u.root)).setCell ⟨g3, 1, none⟩ (.int .i64 u.next)).setCell ⟨g3, 2, none⟩ pv') g3 u pv' ps rs rv hs hv (k + 1) := by
 have kk := fun e (he : e ≠ 26) => s3_keep9 h.tb (.int .i64 u.root) (.int .i64 u.next) pv' he
 obtain ⟨more, e, _, h2⟩ := hC.pgs
 refine ⟨OwnX.keepT o (kk _ (by decide)) (kk _ (by decide)), hC.prs, ?_, ?_, rows_keepT h.ro (kk _ (by decide)), h.ha.keep (kk _ (by decide)) (kk _ (by decide)), h.l1, h.l2, fun j r q hr hq => tprs_old hC (h.old j r q hr hq), heap_set3t h.tb _ _ _, below_set3t h.bel h.hg _ _ _, h.hg⟩
 ·have h3 := hC.nxt
  have := h.nxt
  push_cast
  omega
 ·intro x hx
  rw [e, List.mem_append] at hx
  rcases hx with hx | hx
  ·exact h.sml x hx
  ·exact h2 x hx
theorem KI.swept {w wr c : World} {g3 g : Nat} {t : Tr} {pv pv' : Value} {want : List Pr} {rs : List Int} {rv : Value} {hs : List (List Pr)} {hv : Value} {k : Nat} (h : KI w wr g3 t pv want rs rv hs hv k) (b : Below wr.heap.size wr c) {a : List Int} (hA : LvR t rs a) (o : OwnPg w.heap.size c pv' (keepP a t.pages)) (hb : c.heap[g]? = some (.cells #[.int .i64 t.root, .int .i64 t.next, pv'] 26 (0, 0))) (hg : w.heap.size ≤ g) : KI w c g (swT t a) pv' want rs rv hs hv k := by
 have h1 := h.to b
 refine ⟨o, sw_prs hA h.prs, h.nxt, sw_big h.sml, h1.ro, h1.ha, h.l1, h.l2, fun j r q hr hq => ?_, hb, h1.bel, hg⟩
 exact (sweep_prs hA (h.old j r q hr hq) (lv_root (List.mem_of_getElem? hr))).1
theorem keep_again {t : Tr} {rs a b : List Int} (h : LvOk t rs) (hA : LvR t rs a) (hB : LvR (swT t a) rs b) : keepP b (keepP a t.pages) = keepP a t.pages := by
 have e : b = a := hB.eq (sweep_lv hA h).2
 rw [e, keep_keep]
end Go.Proofs.Ytmmjdacjcipgjaa
