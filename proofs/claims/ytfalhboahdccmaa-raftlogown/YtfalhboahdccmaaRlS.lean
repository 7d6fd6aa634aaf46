/-
  The law's SameEntries and Alike where both sides are one; num; Of. (Written by gen15s.py.)
-/
import Derived.Deep.QuietTactic
import Derived.Deep.CutRange
import Derived.BigQuiet
import Derived.Test.YtfalhboahdccmaaRlMath
import Derived.Test.YtfalhboahdccmaaRlA
import Derived.Test.YtfalhboahdccmaaRFan
namespace Go.Proofs.Ytfalhboahdccmaa
open Go.RowKit
set_option linter.unusedVariables false
set_option linter.unusedSimpArgs false

set_option maxRecDepth 100000 in
set_option maxHeartbeats 2000000 in
theorem sentries_any (w : World) (v1 v2 : Value) (ws : List Wrt) (h1 : RdC w v1 ws) (h2 : RdC w v2 ws) :
    Calls Try.prog 21 #[v1, v2] w fun e w' => e = .returned (.bool true) ∧ ∃ n, w' = w.drewN n := by
  have lb := h1.bd
  obtain ⟨a1, c1, rfl⟩ := h1.slice
  obtain ⟨a2, c2, rfl⟩ := h2.slice
  go_enter Try.func21, Try.ntmps21
  go_wp2
  go_loopw [5] (fun i wr => ∃ k n : Nat, k ≤ ws.length ∧ i = .int .i64 k ∧ Hid (wr = w.drewN n)) (fun i _ => ws.length - (intOf i).toNat)
  case atStart => exact ⟨0, 0, Nat.zero_le _, rfl, hide rfl⟩
  case round =>
    obtain ⟨k, n, hk, rfl, hwr⟩ := hrel
    have hb : Below w.heap.size w wr := by rw [hwr.out]; exact below_drewN' _ _ _
    by_cases hlt : k < ws.length
    · have hq : (k : Int) < (ws.length : Int) := by omega
      obtain ⟨y, hy, _⟩ := some_at ws hlt
      obtain ⟨b1, o1, u1, rfl, g1, g2, q1⟩ := (h1.to0 hb).wrt hy
      obtain ⟨b2, o2, u2, rfl, g3, g4, q2⟩ := (h2.to0 hb).wrt hy
      obtain ⟨aa, ca, rfl⟩ := q1.slice
      obtain ⟨ab, cb, rfl⟩ := q2.slice
      have KS := hide (fun n => same_any (wr.drewN n) _ _ _ _ (q1.drewN n) (q2.drewN n))
      rw [sameB_self] at KS
      clear q1 q2 hb hy
      obtain ⟨z, x⟩ := y
      dsimp only at g1 g2 g3 g4 KS
      generalize x.length = LX at *
      have hne : (z != z) = false := by simp
      go_wp2
      go_quiet ((go_at_call 40; exact Calls.quiet_of (KS.out _)))
      go_wp2
      go_roundw
      case rel => exact ⟨k + 1, n + nq, by omega, by go_num, by rw [hwr.out, World.drewN_drewN]; exact hide rfl⟩
      case measure => simp [intOf]; omega
    · go_wp2
      go_ret
      exact ⟨rfl, _, hwr.out⟩
set_option maxRecDepth 100000 in
theorem num15_any (w : World) (n : Int) : Calls Try.prog 19 #[.int .i64 n] w fun e w' => e = .returned (.int .i64 n) ∧ w = w' := by
  go_enter Try.func19, Try.ntmps19
  go_wp2
  go_ret
  exact ⟨rfl, rfl⟩
theorem info_lp15 : (Try.prog.info? 28).map (·.size) = some 3 := by kernel_rfl
set_option maxRecDepth 100000 in
set_option maxHeartbeats 2000000 in
theorem of15_any (w : World) (l : Lg) (v : Value) (h : RdC w v l.es) (f1 : l.es.length * 32 ≤ 140737488351232) (f2 : ∀ x ∈ l.es, x.2.length ≤ 140737488351232) : Calls Try.prog 8 #[lv l v] w fun e w' =>
    ∃ v', e = .returned (lv l v') ∧ Own SEntB w.heap.size w' [v'] l.es ∧ Below w.heap.size w w' := by
  obtain ⟨W0, hW0, D, bW0, sW0⟩ := boxedN w #[.int .i64 l.base, .int .i64 l.bt, v] 24
  obtain ⟨W, hW, DZ, bW1, sW1⟩ := boxedN W0 #[.int .i64 0, .int .i64 0, .slice none 0 0] 28
  have bW := bW0.trans (bW1.mono bW0.size)
  replace D := (bW1.block w.heap.size (lt_of_block D)).trans D
  have sW : W.heap.size = w.heap.size + 2 := by omega
  rw [sW0] at DZ
  have KO : Hid (∀ U, Below W.heap.size W U → Calls Try.prog 28 #[v] U fun e w' => ∃ v', e = .returned v' ∧ Own SEntB U.heap.size w' [v'] l.es ∧ Below U.heap.size U w') := fun U b => centries_any U v l.es ((h.to0 bW).to0 b) f1 f2
  obtain ⟨a, cp, rfl⟩ := h.slice
  obtain ⟨⟨D0, D1, D2⟩, _⟩ := cells3l D
  have HS : Hid (∀ U, Below W.heap.size W U → (U.cell? ⟨w.heap.size, 0, none⟩ = some (.int .i64 l.base) ∧ U.cell? ⟨w.heap.size, 1, none⟩ = some (.int .i64 l.bt) ∧ U.cell? ⟨w.heap.size, 2, none⟩ = some (.slice a l.es.length cp))) := fun U b =>
    ⟨(b.cell (cell_lt D0)).trans D0, (b.cell (cell_lt D1)).trans D1, (b.cell (cell_lt D2)).trans D2⟩
  have HZ : Hid (∀ U, Below W.heap.size W U → U.heap[w.heap.size + 1]? = some (.cells #[.int .i64 0, .int .i64 0, .slice none 0 0] 28 (0, 0))) := fun U b => (b.block _ (lt_of_block DZ)).trans DZ
  have HF : Hid (∀ U x y z, Below W.heap.size W U → ((((U.setCell ⟨w.heap.size + 1, 0, none⟩ x).setCell ⟨w.heap.size + 1, 1, none⟩ y).setCell ⟨w.heap.size + 1, 2, none⟩ z).heap[w.heap.size + 1]? = some (.cells #[x, y, z] 28 (0, 0)) ∧
      Below w.heap.size w (((U.setCell ⟨w.heap.size + 1, 0, none⟩ x).setCell ⟨w.heap.size + 1, 1, none⟩ y).setCell ⟨w.heap.size + 1, 2, none⟩ z))) := fun U x y z b =>
    ⟨heap_set3l (HZ.out U b) x y z, below_set3l (bW.trans (b.mono bW.size)) (by omega) x y z⟩
  have hWW : Hid (W = (w.alloc (.cells #[.int .i64 l.base, .int .i64 l.bt, .slice a l.es.length cp] 24)).alloc (.cells #[.int .i64 0, .int .i64 0, .slice none 0 0] 28)) := by rw [hW0] at hW; exact hW
  clear h bW D D0 D1 D2 bW0 bW1 sW0 DZ sW1 hW hW0
  obtain ⟨base, bt, es⟩ := l
  dsimp only [lv] at KO HS hWW ⊢
  generalize hn : es.length = n at *
  replace hn := hide hn
  clear f1 f2
  go_enter Try.func8, Try.ntmps8
  go_upto_region 1 with fail
  rw [← hWW.out]
  have b0 := (Below.refl W.heap.size W).drew
  clear hWW
  refine wp_region_fan (fun w9 => w9.cell? ⟨w.heap.size, 0, none⟩ = some (.int .i64 base) ∧ w9.cell? ⟨w.heap.size, 1, none⟩ = some (.int .i64 bt) ∧ w9.cell? ⟨w.heap.size, 2, none⟩ = some (.slice a n cp)) 7 mixed (by simp) ?_
  generalize W.drew = c0 at *
  refine fan_take (i := 0) (v := ?_) rfl (by kernel_rfl) (fun _ _ _ _ h => h) (by kernel_rfl) (HS.out _ b0) ?_ ?_
  rotate_left
  · rintro w9 ⟨q0, q1, q2⟩
    go_simp
    try with_reducible rfl
  try simp only [List.getElem_toArray, List.getElem_cons_succ, List.getElem_cons_zero, List.getElem?_toArray, List.getElem?_cons_succ, List.getElem?_cons_zero, Act.put, List.setIfInBounds_toArray, List.set_cons_zero, List.set_cons_succ]
  refine fan_take (i := 1) (v := ?_) rfl (by kernel_rfl) (fun _ _ _ _ h => h) (by kernel_rfl) (HS.out _ b0) ?_ ?_
  rotate_left
  · rintro w9 ⟨q0, q1, q2⟩
    go_simp
    try with_reducible rfl
  try simp only [List.getElem_toArray, List.getElem_cons_succ, List.getElem_cons_zero, List.getElem?_toArray, List.getElem?_cons_succ, List.getElem?_cons_zero, Act.put, List.setIfInBounds_toArray, List.set_cons_zero, List.set_cons_succ]
  refine fan_take (i := 2) (v := ?_) rfl (by kernel_rfl) (fun _ _ _ _ h => h) (by kernel_rfl) (HS.out _ b0) ?_ ?_
  rotate_left
  · rintro w9 ⟨q0, q1, q2⟩
    go_simp
    try with_reducible rfl
  try simp only [List.getElem_toArray, List.getElem_cons_succ, List.getElem_cons_zero, List.getElem?_toArray, List.getElem?_cons_succ, List.getElem?_cons_zero, Act.put, List.setIfInBounds_toArray, List.set_cons_zero, List.set_cons_succ]
  refine fan_take (i := 3) (v := ?_) rfl (by kernel_rfl) (fun _ _ _ _ h => h) (by kernel_rfl) (HS.out _ b0) ?_ ?_
  rotate_left
  · rintro w9 ⟨q0, q1, q2⟩
    go_simp
    try with_reducible rfl
  try simp only [List.getElem_toArray, List.getElem_cons_succ, List.getElem_cons_zero, List.getElem?_toArray, List.getElem?_cons_succ, List.getElem?_cons_zero, Act.put, List.setIfInBounds_toArray, List.set_cons_zero, List.set_cons_succ]
  refine fan_take (i := 4) (v := ?_) rfl (by kernel_rfl) (fun _ _ _ _ h => h) (by kernel_rfl) (HS.out _ b0) ?_ ?_
  rotate_left
  · rintro w9 ⟨q0, q1, q2⟩
    go_simp
    try with_reducible rfl
  try simp only [List.getElem_toArray, List.getElem_cons_succ, List.getElem_cons_zero, List.getElem?_toArray, List.getElem?_cons_succ, List.getElem?_cons_zero, Act.put, List.setIfInBounds_toArray, List.set_cons_zero, List.set_cons_succ]
  refine fan_take (i := 5) (v := ?_) rfl (by kernel_rfl) (fun _ _ _ _ h => h) (by kernel_rfl) (HS.out _ b0) ?_ ?_
  rotate_left
  · rintro w9 ⟨q0, q1, q2⟩
    go_simp
    try with_reducible rfl
  try simp only [List.getElem_toArray, List.getElem_cons_succ, List.getElem_cons_zero, List.getElem?_toArray, List.getElem?_cons_succ, List.getElem?_cons_zero, Act.put, List.setIfInBounds_toArray, List.set_cons_zero, List.set_cons_succ]
  refine fan_one 6 (by kernel_rfl) ?_
  refine fan_step rfl (by kernel_rfl) fun K hK => ?_
  refine wp_call_of 28 _ _ (by rfl) #[.slice a n cp] (by simp [Act.eval]) (Try.call28 _ _) (KO.out c0 b0) ?_
  rintro e c1 ⟨v8, rfl, o8, bb⟩
  have b1 := b0.trans (bb.mono b0.size)
  refine ⟨_, rfl, hK _ _ (HS.out _ b1) ?_⟩
  clear hK K bb
  try simp only [List.getElem_toArray, List.getElem_cons_succ, List.getElem_cons_zero, List.getElem?_toArray, List.getElem?_cons_succ, List.getElem?_cons_zero, Act.put, List.setIfInBounds_toArray, List.set_cons_zero, List.set_cons_succ]
  refine fan_done (by kernel_rfl) ?_
  show wpList _ _ _ _ _ _
  obtain ⟨⟨Q0, Q1, Q2⟩, Rf⟩ := cells3l (HZ.out _ b1)
  have Rf0 := Rf 0
  have Rf1 := Rf 1
  have Rf2 := Rf 2
  clear Rf
  have OO := hide (own_set3l (o8.mono (show w.heap.size + 2 ≤ c0.heap.size from by have := b0.size; omega)) (g := w.heap.size + 1) (by omega) (.int .i64 base) (.int .i64 bt) v8)
  obtain ⟨va, vc, rfl⟩ := o8.rdS.slice
  rw [hn.out] at OO ⊢
  clear o8
  go_wp2
  refine retN rfl rfl (w.heap.size + 1) rfl _ _ (0, 0) (HF.out _ _ _ _ b1).1 _ Try.underlying28 rfl info_lp15 ?_
  exact ⟨_, rfl, OO.out.mono (by omega), (HF.out _ _ _ _ b1).2⟩
set_option maxRecDepth 100000 in
set_option maxHeartbeats 2000000 in
theorem alike15_any (w : World) (l : Lg) (v1 v2 : Value) (h1 : RdC w v1 l.es) (h2 : RdC w v2 l.es) : Calls Try.prog 20 #[lv l v1, lv l v2] w fun e w' => e = .returned (.int .i64 0) ∧ Below w.heap.size w w' := by
  obtain ⟨W0, hW0, D, bW0, sW0⟩ := boxedN w #[.int .i64 l.base, .int .i64 l.bt, v1] 28
  obtain ⟨W, hW, DZ, bW1, sW1⟩ := boxedN W0 #[.int .i64 l.base, .int .i64 l.bt, v2] 24
  have bW := bW0.trans (bW1.mono bW0.size)
  replace D := (bW1.block w.heap.size (lt_of_block D)).trans D
  rw [sW0] at DZ
  have KS := hide (sentries_any W v1 v2 l.es (h1.to0 bW) (h2.to0 bW))
  obtain ⟨a1, p1, rfl⟩ := h1.slice
  obtain ⟨a2, p2, rfl⟩ := h2.slice
  obtain ⟨⟨D0, D1, D2⟩, _⟩ := cells3l D
  obtain ⟨⟨E0, E1, E2⟩, _⟩ := cells3l DZ
  have HB := hide bW
  rw [hW0] at hW
  rw [hW] at D0 D1 D2 E0 E1 E2 KS
  clear h1 h2 bW D bW0 bW1 sW0 DZ sW1 hW0
  obtain ⟨base, bt, es⟩ := l
  dsimp only [lv] at KS D0 D1 D2 E0 E1 E2 hW ⊢
  generalize es.length = n at *
  have q1 : (base != base) = false := by simp
  have q2 : (bt != bt) = false := by simp
  go_enter Try.func20, Try.ntmps20
  go_wp2_with fail
  refine KS.out.mono ?_
  rintro e w1 ⟨rfl, k, hk⟩
  rw [← hW] at hk
  have B1 : Hid (Below w.heap.size w w1) := by rw [hk]; exact HB.out.trans (below_drewN' _ _ _)
  clear hk hW KS HB D0 D1 D2 E0 E1 E2
  go_wp2
  go_ret
  exact ⟨rfl, B1.out⟩
end Go.Proofs.Ytfalhboahdccmaa
