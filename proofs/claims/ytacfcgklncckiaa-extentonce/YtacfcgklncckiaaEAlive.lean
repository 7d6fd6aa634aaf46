/-
  The law's own 'alive' (the page's example of extents) answers true; it makes memory of its own and changes none that was there.
-/
import Derived.Test.YtacfcgklncckiaaELaw
namespace Go.Proofs.Ytacfcgklncckiaa
open Go.RowKit
set_option linter.unusedVariables false

/-- a map laid anew into its box -/
theorem restore {B : Nat} {w X w2 : World} {gM : Nat} {p q : Value} {t : TypeId} (hM : X.heap[gM]? = some (.cells #[p, q] t (0, 0))) (hB : B ≤ gM) (c : Below B w X) (b : Below X.heap.size X w2) {fv : Value} {l : List Ext} (o : OwnE X.heap.size w2 fv l) (a : Value) :
    ∃ Y, Y = (w2.setCell ⟨gM, 0, none⟩ a).setCell ⟨gM, 1, none⟩ fv ∧ Y.heap[gM]? = some (.cells #[a, fv] t (0, 0)) ∧ RdE Y fv l ∧ Below B w Y ∧ Y.heap.size = w2.heap.size ∧ (∀ g, g < X.heap.size → g ≠ gM → Y.heap[g]? = X.heap[g]?) ∧
      (w2.cell? ⟨gM, 0, none⟩ = some p ∧ w2.cell? ⟨gM, 1, none⟩ = some q ∧ w2.frozen? ⟨gM, 0, none⟩ = false ∧ w2.frozen? ⟨gM, 1, none⟩ = false) := by
  have hlt := lt_of_block hM
  have h2 := (b.block gM hlt).trans hM
  refine ⟨_, rfl, heap_set2 h2 a fv, ownE_rd (ownsRow_setCell_below (ownsRow_setCell_below o (a := ⟨gM, 0, none⟩) hlt a) (a := ⟨gM, 1, none⟩) hlt fv), below_set2 (c.trans (b.mono (by omega))) hB a fv, by simp, fun g hg hne => ?_, cells2 h2⟩
  rw [Below.heap_setCell _ _ _ _ hne, Below.heap_setCell _ _ _ _ hne]
  exact b.block g hg
theorem in_small {l : List Ext} (h : ∀ x ∈ l, x.1 ≤ 1048576) : eIn l := fun x hx => by have := h x hx; omega
theorem ex_new : enew 10 = ((10, [(0, 10)]), 0) := by decide +kernel
theorem ex_a1 : ealloc (10, [(0, 10)]) 4 = ((10, [(4, 6)]), (0, 4), 0) := by decide +kernel
theorem ex_a2 : ealloc (10, [(4, 6)]) 4 = ((10, [(8, 2)]), (4, 4), 0) := by decide +kernel
theorem ex_f : efree (10, [(8, 2)]) (0, 4) = ((10, [(0, 4), (8, 2)]), 0) := by decide +kernel
theorem ex_a3 : ealloc (10, [(0, 4), (8, 2)]) 5 = ((0, []), (0, 0), 51) := by decide +kernel
theorem ex_a4 : ealloc (10, [(0, 4), (8, 2)]) 3 = ((10, [(3, 1), (8, 2)]), (0, 3), 0) := by decide +kernel

set_option maxRecDepth 100000 in
set_option maxHeartbeats 4000000 in
theorem ealive_any (w : World) : Calls Try.prog 24 #[] w fun e w' => e = .returned (.bool true) ∧ Below w.heap.size w w' := by
  have KN := hide (pnew_any w 10)
  rw [ex_new] at KN
  go_enter Try.func24, Try.ntmps24
  go_wp2_with fail
  refine KN.out.mono ?_
  rintro e w1 ⟨f1, rfl, o1, b1⟩
  clear KN
  obtain ⟨a1, n1, c1, hv1⟩ := ownE_slice o1
  subst hv1
  try dsimp only at o1
  obtain ⟨X1, hX1, M, bX, sX⟩ := boxed2b w1 (.int .i64 10) (.slice a1 n1 c1) 27
  have rr := (ownE_rd o1).to0 bX
  have cc := b1.trans (bX.mono b1.size)
  have hw0 : w.heap.size ≤ w1.heap.size := b1.size
  replace M := hide M
  replace hX1 := hide hX1
  clear o1 bX sX b1
  obtain ⟨gM, hgM⟩ : ∃ gM, gM = w1.heap.size := ⟨_, rfl⟩
  have hw : w.heap.size ≤ gM := by omega
  have KK := hide (palloc_any X1 _ (10, [(0, 10)]) 4 rr (in_small (by decide)))
  rw [ex_a1] at KK
  obtain ⟨u0, u1, _, _⟩ := cells2 M.out
  rw [hX1.out] at u0 u1
  go_wp2_with fail
  rw [← hX1.out]
  clear u0 u1
  refine KK.out.mono ?_
  rintro e w2 ⟨f, rfl, o2, b2⟩
  clear KK
  try dsimp only at o2
  obtain ⟨a2, n2, c2, hv⟩ := ownE_slice o2
  subst hv
  have hl2 : gM < w2.heap.size := by have := b2.size; have := lt_of_block M.out; omega
  rw [← hgM] at M
  rw [← hgM]
  replace hgM := hide hgM
  replace hl2 : gM < w2.heap.size := by have := b2.size; have := lt_of_block M.out; omega
  obtain ⟨Y, hY, M1, r2, cY, sY, kY, q0, q1, q2, q3⟩ := restore M.out hw cc b2 o2 (.int .i64 10)
  obtain ⟨X2, hX2, P, bY, sY2⟩ := boxed2b Y (.int .i64 0) (.int .i64 4) 26
  replace rr := r2.to0 bY
  replace cc := cY.trans (bY.mono cY.size)
  replace M := hide ((bY.block gM (lt_of_block M1)).trans M1)
  obtain ⟨gP, hgP⟩ : ∃ g, g = w2.heap.size := ⟨_, rfl⟩
  rw [sY, ← hgP] at P
  replace P := hide P
  have hneP : gM < gP := by omega
  rw [hY] at hX2
  replace hX2 := hide hX2
  clear bY sY2 M1 r2 cY kY sY hY o2 b2
  have KK := hide (palloc_any X2 _ (10, [(4, 6)]) 4 rr (in_small (by decide)))
  rw [ex_a2] at KK
  obtain ⟨u0, u1, _, _⟩ := cells2 M.out
  obtain ⟨p0, p1, _, _⟩ := cells2 P.out
  rw [hX2.out] at u0 u1 p0 p1
  go_wp2_with fail
  rw [← hX2.out]
  clear q0 q1 q2 q3 hl2
  clear u0 u1 p0 p1
  refine KK.out.mono ?_
  rintro e w3 ⟨f, rfl, o2, b2⟩
  clear KK
  try dsimp only at o2
  obtain ⟨a3, n3, c3, hv⟩ := ownE_slice o2
  subst hv
  have hl2 : gM < w3.heap.size := by have := b2.size; have := lt_of_block M.out; omega
  have hlP : gP < w3.heap.size := by have := b2.size; have := lt_of_block P.out; omega
  rw [← hgP]
  replace hgP := hide hgP
  obtain ⟨Y, hY, M1, r2, cY, sY, kY, q0, q1, q2, q3⟩ := restore M.out hw cc b2 o2 (.int .i64 10)
  replace P := hide ((kY gP (lt_of_block P.out) (by omega)).trans P.out)
  obtain ⟨X3, hX3, Q, bY, sY2⟩ := boxed2b Y (.int .i64 4) (.int .i64 4) 26
  replace rr := r2.to0 bY
  replace cc := cY.trans (bY.mono cY.size)
  replace M := hide ((bY.block gM (lt_of_block M1)).trans M1)
  replace P := hide ((bY.block gP (lt_of_block P.out)).trans P.out)
  obtain ⟨gQ, hgQ⟩ : ∃ g, g = w3.heap.size := ⟨_, rfl⟩
  rw [sY, ← hgQ] at Q
  replace Q := hide Q
  have hneQ : gM < gQ := by omega
  have hnePQ : gP < gQ := by omega
  rw [hY] at hX3
  replace hX3 := hide hX3
  clear bY sY2 M1 r2 cY kY sY hY o2 b2
  have KK := hide (pfree_any X3 _ (10, [(8, 2)]) (0, 4) rr (in_small (by decide)) (by decide))
  rw [ex_f] at KK
  obtain ⟨u0, u1, _, _⟩ := cells2 M.out
  obtain ⟨p0, p1, _, _⟩ := cells2 P.out
  obtain ⟨q0, q1, _, _⟩ := cells2 Q.out
  rw [hX3.out] at u0 u1 p0 p1 q0 q1
  go_wp2_with fail
  rw [← hX3.out]
  clear q0 q1 q2 q3 hl2 hlP
  clear u0 u1 p0 p1 q0 q1
  refine KK.out.mono ?_
  rintro e w4 ⟨f, rfl, o2, b2⟩
  clear KK
  try dsimp only at o2
  obtain ⟨a4, n4, c4, hv⟩ := ownE_slice o2
  subst hv
  have hl2 : gM < w4.heap.size := by have := b2.size; have := lt_of_block M.out; omega
  have hlP : gP < w4.heap.size := by have := b2.size; have := lt_of_block P.out; omega
  have hlQ : gQ < w4.heap.size := by have := b2.size; have := lt_of_block Q.out; omega
  rw [← hgQ]
  replace hgQ := hide hgQ
  obtain ⟨Y, hY, M1, r2, cY, sY, kY, q0, q1, q2, q3⟩ := restore M.out hw cc b2 o2 (.int .i64 10)
  replace P := hide ((kY gP (lt_of_block P.out) (by omega)).trans P.out)
  replace Q := hide ((kY gQ (lt_of_block Q.out) (by omega)).trans Q.out)
  obtain ⟨X4, hX4⟩ : ∃ X, X = Y := ⟨_, rfl⟩
  rw [← hX4] at M1 r2 cY
  rw [← hX4] at P
  rw [← hX4] at Q
  replace rr := r2
  replace cc := cY
  replace M := hide M1
  rw [hY] at hX4
  replace hX4 := hide hX4
  clear M1 r2 cY kY sY hY o2 b2
  have KK := hide (palloc_any X4 _ (10, [(0, 4), (8, 2)]) 5 rr (in_small (by decide)))
  rw [ex_a3] at KK
  obtain ⟨u0, u1, _, _⟩ := cells2 M.out
  obtain ⟨p0, p1, _, _⟩ := cells2 P.out
  obtain ⟨q0, q1, _, _⟩ := cells2 Q.out
  rw [hX4.out] at u0 u1 p0 p1 q0 q1
  go_wp2_with fail
  rw [← hX4.out]
  clear q0 q1 q2 q3 hl2 hlP hlQ
  clear u0 u1 p0 p1 q0 q1
  refine KK.out.mono ?_
  rintro e w5 ⟨f, rfl, o2, b2⟩
  clear KK
  try dsimp only at o2
  obtain ⟨a5, n5, c5, hv⟩ := ownE_slice o2
  subst hv
  have hl2 : gM < w5.heap.size := by have := b2.size; have := lt_of_block M.out; omega
  have hlP : gP < w5.heap.size := by have := b2.size; have := lt_of_block P.out; omega
  have hlQ : gQ < w5.heap.size := by have := b2.size; have := lt_of_block Q.out; omega
  obtain ⟨Y, hY, _, bY1, sY1⟩ := boxed2b w5 (.int .i64 0) (.slice a5 n5 c5) 27
  obtain ⟨X5, hX5, R, bY2, sY2⟩ := boxed2b Y (.int .i64 0) (.int .i64 0) 26
  have bY := b2.trans ((bY1.trans (bY2.mono bY1.size)).mono b2.size)
  replace rr := rr.to0 bY
  replace cc := cc.trans (bY.mono cc.size)
  replace M := hide ((bY.block gM (lt_of_block M.out)).trans M.out)
  replace P := hide ((bY.block gP (lt_of_block P.out)).trans P.out)
  replace Q := hide ((bY.block gQ (lt_of_block Q.out)).trans Q.out)
  obtain ⟨gR, hgR⟩ : ∃ g, g = w5.heap.size + 1 := ⟨_, rfl⟩
  rw [sY1, ← hgR] at R
  replace R := hide R
  rw [hY] at hX5
  replace hX5 := hide hX5
  clear bY bY1 bY2 sY1 sY2 hY o2 b2
  have q0 := trivial
  have q1 := trivial
  have q2 := trivial
  have q3 := trivial
  have KK := hide (palloc_any X5 _ (10, [(0, 4), (8, 2)]) 3 rr (in_small (by decide)))
  rw [ex_a4] at KK
  obtain ⟨u0, u1, _, _⟩ := cells2 M.out
  obtain ⟨p0, p1, _, _⟩ := cells2 P.out
  obtain ⟨q0, q1, _, _⟩ := cells2 Q.out
  obtain ⟨r0, r1, _, _⟩ := cells2 R.out
  rw [hX5.out] at u0 u1 p0 p1 q0 q1 r0 r1
  go_wp2_with fail
  rw [← hX5.out]
  clear q0 q1 q2 q3 hl2 hlP hlQ
  clear u0 u1 p0 p1 q0 q1 r0 r1
  refine KK.out.mono ?_
  rintro e w6 ⟨f, rfl, o2, b2⟩
  clear KK
  try dsimp only at o2
  obtain ⟨a6, n6, c6, hv⟩ := ownE_slice o2
  subst hv
  have hl2 : gM < w6.heap.size := by have := b2.size; have := lt_of_block M.out; omega
  have hlP : gP < w6.heap.size := by have := b2.size; have := lt_of_block P.out; omega
  have hlQ : gQ < w6.heap.size := by have := b2.size; have := lt_of_block Q.out; omega
  have hlR : gR < w6.heap.size := by have := b2.size; have := lt_of_block R.out; omega
  rw [← hgR]
  replace hgR := hide hgR
  obtain ⟨Y, hY, _, bY1, sY1⟩ := boxed2b w6 (.int .i64 10) (.slice a6 n6 c6) 27
  obtain ⟨X6, hX6, S, bY2, sY2⟩ := boxed2b Y (.int .i64 0) (.int .i64 3) 26
  have bY := b2.trans ((bY1.trans (bY2.mono bY1.size)).mono b2.size)
  replace rr := rr.to0 bY
  replace cc := cc.trans (bY.mono cc.size)
  replace M := hide ((bY.block gM (lt_of_block M.out)).trans M.out)
  replace P := hide ((bY.block gP (lt_of_block P.out)).trans P.out)
  replace Q := hide ((bY.block gQ (lt_of_block Q.out)).trans Q.out)
  replace R := hide ((bY.block gR (lt_of_block R.out)).trans R.out)
  obtain ⟨gS, hgS⟩ : ∃ g, g = w6.heap.size + 1 := ⟨_, rfl⟩
  rw [sY1, ← hgS] at S
  replace S := hide S
  rw [hY] at hX6
  replace hX6 := hide hX6
  clear bY bY1 bY2 sY1 sY2 hY o2 b2
  have q0 := trivial
  have q1 := trivial
  have q2 := trivial
  have q3 := trivial
  obtain ⟨p0, p1, _, _⟩ := cells2 P.out
  obtain ⟨q0, q1, _, _⟩ := cells2 Q.out
  obtain ⟨s0, s1, _, _⟩ := cells2 S.out
  rw [hX6.out] at p0 p1 q0 q1 s0 s1
  go_wp2_with fail
  refine (num5_any _ _).mono ?_
  rintro e w' ⟨rfl, rfl⟩
  go_wp2_with fail
  refine (num5_any _ _).mono ?_
  rintro e w' ⟨rfl, rfl⟩
  go_wp2_with fail
  refine (num5_any _ _).mono ?_
  rintro e w' ⟨rfl, rfl⟩
  go_wp2_with fail
  refine (num5_any _ _).mono ?_
  rintro e w' ⟨rfl, rfl⟩
  go_wp2_with fail
  refine (num5_any _ _).mono ?_
  rintro e w' ⟨rfl, rfl⟩
  go_wp2_with fail
  refine (num5_any _ _).mono ?_
  rintro e w' ⟨rfl, rfl⟩
  go_wp2
  go_ret
  exact ⟨rfl, by rw [← hX6.out]; exact cc⟩

end Go.Proofs.Ytacfcgklncckiaa
