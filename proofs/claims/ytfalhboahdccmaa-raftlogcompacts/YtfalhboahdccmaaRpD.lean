/-
  The program's copyOf, cut and alike.
-/
import Derived.Test.YtfalhboahdccmaaRpC
namespace Go.Proofs.Ytfalhboahdccmaa
open Go.RowKit
set_option linter.unusedVariables false
set_option linter.unusedSimpArgs false

theorem info_lgP : (Try.prog.info? 28).map (·.size) = some 3 := by kernel_rfl
/-- a log's box and the box of an answer, both new -/
theorem boxesP (w : World) (b t : Int) (v : Value) : ∃ W, W = (w.alloc (.cells #[.int .i64 b, .int .i64 t, v] 28)).alloc (.cells #[.int .i64 0, .int .i64 0, .slice none 0 0] 28) ∧
    W.heap[w.heap.size]? = some (.cells #[.int .i64 b, .int .i64 t, v] 28 (0, 0)) ∧ W.heap[w.heap.size + 1]? = some (.cells #[.int .i64 0, .int .i64 0, .slice none 0 0] 28 (0, 0)) ∧
    Below w.heap.size w W ∧ W.heap.size = w.heap.size + 1 + 1 := by
  refine ⟨_, rfl, ?_, ?_, ((Below.refl _ _).alloc (Nat.le_refl _) _).alloc (by simp) _, by simp⟩
  · rw [Below.heap_alloc _ _ _ (by simp)]; exact heap_alloc_last w _
  · have := heap_alloc_last (w.alloc (.cells #[.int .i64 b, .int .i64 t, v] 28)) (.cells #[.int .i64 0, .int .i64 0, .slice none 0 0] 28); simpa using this
theorem boxesZ (w : World) (b t : Int) (v : Value) : ∃ W, W = (w.alloc (.cells #[.int .i64 b, .int .i64 t, v] 28)).alloc (.cells #[.int .i64 b, .int .i64 t, v] 28) ∧
    W.heap[w.heap.size]? = some (.cells #[.int .i64 b, .int .i64 t, v] 28 (0, 0)) ∧ W.heap[w.heap.size + 1]? = some (.cells #[.int .i64 b, .int .i64 t, v] 28 (0, 0)) ∧
    Below w.heap.size w W ∧ W.heap.size = w.heap.size + 1 + 1 := by
  refine ⟨_, rfl, ?_, ?_, ((Below.refl _ _).alloc (Nat.le_refl _) _).alloc (by simp) _, by simp⟩
  · rw [Below.heap_alloc _ _ _ (by simp)]; exact heap_alloc_last w _
  · have := heap_alloc_last (w.alloc (.cells #[.int .i64 b, .int .i64 t, v] 28)) (.cells #[.int .i64 b, .int .i64 t, v] 28); simpa using this
theorem rd_cut15 {w : World} {a : Option Addr} {len cap : Nat} {xs : List Wrt} (h : RdC w (.slice a len cap) xs) {n : Nat} (hn : n ≤ len) : RdC w (.slice a n n) (xs.take n) := by
  have h2 := rdS_front15 h hn
  obtain ⟨ao, c, e, l1, m1, n1, r1⟩ := h2
  obtain ⟨ao', c', e', l1', m1', n1', r1'⟩ := h
  simp only [Value.slice.injEq] at e e'
  obtain ⟨rfl, hn2, rfl⟩ := e
  obtain ⟨rfl, hl, rfl⟩ := e'
  have e3 : (xs.take n).length = n := hn2.symm
  refine ⟨a, n, by rw [e3], by rw [e3]; omega, by omega, fun q => ?_, r1⟩
  have := n1 q
  omega
set_option maxRecDepth 100000 in
set_option maxHeartbeats 4000000 in
theorem pcut15_any (w : World) (l : Lg) (a : Option Addr) (cp n : Nat) (h : RdC w (.slice a l.es.length cp) l.es) (hn : n ≤ l.es.length) :
    Calls Try.prog 43 #[lv l (.slice a l.es.length cp), .int .i64 n] w fun e w' => e = .returned (lv (ltk l n) (.slice a n n)) ∧ Below w.heap.size w w' := by
  have hcp : l.es.length ≤ cp ∧ cp ≤ 9223372036854775807 := by
    obtain ⟨_, _, e, q1, q2, _⟩ := h
    simp only [Value.slice.injEq] at e
    rw [show maxLen = 9223372036854775807 from rfl] at q2
    omega
  obtain ⟨base, bt, es⟩ := l
  dsimp only [ltk, lv]
  dsimp only at h hn hcp
  clear h
  generalize es.length = m at *
  obtain ⟨W, hW, D, Z, bW, sW⟩ := boxesP w base bt (.slice a m cp)
  obtain ⟨V, hV, _, ZV, bV, _⟩ := boxesZ w base bt (.slice a n n)
  obtain ⟨⟨D0, D1, D2⟩, Df⟩ := cells3l D
  obtain ⟨⟨Q0, Q1, Q2⟩, Qf⟩ := cells3l Z
  have Df2 := Df 2
  have Qf0 := Qf 0
  have Qf1 := Qf 1
  have Qf2 := Qf 2
  have HF : Hid (V.heap[w.heap.size + 1]? = some (.cells #[.int .i64 base, .int .i64 bt, .slice a n n] 28 (0, 0)) ∧ Below w.heap.size w V) := ⟨ZV, bV⟩
  rw [hW] at D0 D1 D2 Q0 Q1 Q2 Df2 Qf0 Qf1 Qf2
  replace hV := hide hV
  have hn1 : (n : Int) ≤ (cp : Int) := by omega
  have hn0 : (0 : Int) ≤ (n : Int) := by omega
  clear D Z Df Qf bW sW ZV bV hW
  go_enter Try.func43, Try.ntmps43
  go_wp2
  rw [← hV.out]
  refine retN rfl rfl (w.heap.size + 1) rfl _ _ (0, 0) HF.out.1 _ Try.underlying28 rfl info_lgP ?_
  exact ⟨rfl, HF.out.2⟩
set_option maxRecDepth 100000 in
set_option maxHeartbeats 4000000 in
theorem pcopy15_any (w : World) (l : Lg) (v : Value) (h : RdC w v l.es) (f1 : l.es.length * 32 ≤ 140737488351232) (f2 : ∀ x ∈ l.es, x.2.length ≤ 140737488351232) :
    Calls Try.prog 39 #[lv l v] w fun e w' => ∃ v', e = .returned (lv l v') ∧ Own SEntB w.heap.size w' [v'] l.es ∧ Below w.heap.size w w' := by
  obtain ⟨W, hW, D, Z, bW, sW⟩ := boxesP w l.base l.bt v
  have KC := hide (pcopies15_any W v l.es (h.to0 bW) f1 f2)
  obtain ⟨a, cp, rfl⟩ := h.slice
  clear h f1 f2
  have hne : w.heap.size + 1 ≠ w.heap.size := by omega
  have HD : Hid (∀ U, Below W.heap.size W U → U.heap[w.heap.size]? = some (.cells #[.int .i64 l.base, .int .i64 l.bt, .slice a l.es.length cp] 28 (0, 0))) := fun U b => (b.block _ (lt_of_block D)).trans D
  have HZ : Hid (∀ U, Below W.heap.size W U → U.heap[w.heap.size + 1]? = some (.cells #[.int .i64 0, .int .i64 0, .slice none 0 0] 28 (0, 0))) := fun U b => (b.block _ (lt_of_block Z)).trans Z
  have HE : Hid (∀ U, Below W.heap.size W U → Below w.heap.size w U) := fun U b => bW.trans (b.mono bW.size)
  have SW : Hid (W.heap.size = w.heap.size + 1 + 1) := sW
  obtain ⟨⟨D0, D1, D2⟩, Df⟩ := cells3l D
  obtain ⟨base, bt, es⟩ := l
  dsimp only [lv]
  dsimp only at KC HD D0 D1 D2 hW
  generalize hn : es.length = n at *
  rw [hW] at D0 D1 D2 KC
  clear D Z bW sW Df
  go_enter Try.func39, Try.ntmps39
  go_wp2_with fail
  refine KC.out.mono ?_
  rintro e w1 ⟨v1, rfl, o1, b1⟩
  rw [← hW] at o1 b1
  clear D0 D1 D2 KC hW
  have DX := heap_set1l (HD.out _ b1) v1
  have ZX := (Below.heap_setCell w1 ⟨w.heap.size, 2, none⟩ v1 (w.heap.size + 1) hne).trans (HZ.out _ b1)
  obtain ⟨⟨D0, D1, D2⟩, Df⟩ := cells3l (HD.out _ b1)
  have HF : Hid ((((((w1.setCell ⟨w.heap.size, 2, none⟩ v1).setCell ⟨w.heap.size + 1, 0, none⟩ (.int .i64 base)).setCell ⟨w.heap.size + 1, 1, none⟩ (.int .i64 bt)).setCell ⟨w.heap.size + 1, 2, none⟩ v1)).heap[w.heap.size + 1]? = some (.cells #[.int .i64 base, .int .i64 bt, v1] 28 (0, 0)) ∧
      Below w.heap.size w ((((w1.setCell ⟨w.heap.size, 2, none⟩ v1).setCell ⟨w.heap.size + 1, 0, none⟩ (.int .i64 base)).setCell ⟨w.heap.size + 1, 1, none⟩ (.int .i64 bt)).setCell ⟨w.heap.size + 1, 2, none⟩ v1) ∧
      Own SEntB w.heap.size ((((w1.setCell ⟨w.heap.size, 2, none⟩ v1).setCell ⟨w.heap.size + 1, 0, none⟩ (.int .i64 base)).setCell ⟨w.heap.size + 1, 1, none⟩ (.int .i64 bt)).setCell ⟨w.heap.size + 1, 2, none⟩ v1) [v1] es) :=
    ⟨heap_set3l ZX _ _ _, below_set3l ((HE.out _ b1).setCell (p := ⟨w.heap.size, 2, none⟩) (Nat.le_refl _) _) (by omega) _ _ _,
      (own_set3l (o1.set (a := ⟨w.heap.size, 2, none⟩) (show w.heap.size < W.heap.size by have := SW.out; omega) _) (g := w.heap.size + 1) (show w.heap.size + 1 < W.heap.size by have := SW.out; omega) _ _ _).mono (show w.heap.size ≤ W.heap.size by have := SW.out; omega)⟩
  obtain ⟨va, vc, rfl⟩ := o1.rdS.slice
  rw [hn] at *
  clear o1 b1 hn
  obtain ⟨⟨E0, E1, E2⟩, Ef⟩ := cells3l DX
  obtain ⟨⟨Q0, Q1, Q2⟩, Qf⟩ := cells3l ZX
  have Df2 := Df 2
  have Qf0 := Qf 0
  have Qf1 := Qf 1
  have Qf2 := Qf 2
  clear DX ZX Df Ef Qf
  go_wp2
  refine retN rfl rfl (w.heap.size + 1) rfl _ _ (0, 0) HF.out.1 _ Try.underlying28 rfl info_lgP ?_
  exact ⟨_, rfl, HF.out.2.2, HF.out.2.1⟩
set_option maxRecDepth 100000 in
set_option maxHeartbeats 8000000 in
theorem palike15_any (w : World) (v1 v2 : Value) (xs ys : List Wrt) (h1 : RdC w v1 xs) (h2 : RdC w v2 ys) :
    Calls Try.prog 44 #[v1, v2] w fun e w' => e = .returned (.int .i64 (lalike xs ys)) ∧ Below w.heap.size w w' := by
  have l1 := h1.bd
  have l2 := h2.bd
  obtain ⟨a1, c1, rfl⟩ := h1.slice
  obtain ⟨a2, c2, rfl⟩ := h2.slice
  have H1 := hide h1
  have H2 := hide h2
  clear h1 h2
  generalize hn : xs.length = n at *
  generalize hm : ys.length = m at *
  replace hn := hide hn
  replace hm := hide hm
  go_enter Try.func44, Try.ntmps44
  go_wp2
  go_loopw [5] (fun i wr => ∃ k : Nat, k ≤ n ∧ k ≤ m ∧ i = .int .i64 k ∧ Hid ((∀ j, j < k → ∃ x y, xs[j]? = some x ∧ ys[j]? = some y ∧ x.1 = y.1) ∧ Below w.heap.size w wr)) (fun i _ => n - (intOf i).toNat)
  case atStart => exact ⟨0, Nat.zero_le _, Nat.zero_le _, rfl, hide ⟨fun j hj => absurd hj (by omega), Below.refl _ _⟩⟩
  case round =>
    obtain ⟨k, hk1, hk2, rfl, hI⟩ := hrel
    have STOP : Hid ((∀ x y, xs[k]? = some x → ys[k]? = some y → x.1 ≠ y.1) → lalike xs ys = k) := fun q => lalike_is hI.out.1 q
    by_cases g1 : k < n
    case neg =>
      have g1' : decide ((k : Int) < (n : Int)) = false := decide_eq_false (by omega)
      have hE := hide (STOP.out (fun x y hx _ => by rw [List.getElem?_eq_none (by rw [hn.out]; omega)] at hx; cases hx))
      go_upto_region 2 with fail
      go_quiet (fail)
      go_wp2
      go_ret
      exact ⟨ret_int (by rw [hE.out]), hI.out.2.trans (below_drewN' wr nq _)⟩
    have g1' : (k : Int) < (n : Int) := by omega
    by_cases g2 : k < m
    case neg =>
      have g2' : decide ((k : Int) < (m : Int)) = false := decide_eq_false (by omega)
      have hE := hide (STOP.out (fun x y _ hy => by rw [List.getElem?_eq_none (by rw [hm.out]; omega)] at hy; cases hy))
      go_upto_region 2 with fail
      go_quiet (fail)
      go_wp2
      go_ret
      exact ⟨ret_int (by rw [hE.out]), hI.out.2.trans (below_drewN' wr nq _)⟩
    have g2' : (k : Int) < (m : Int) := by omega
    obtain ⟨x, hx⟩ := some_el15 xs (k := k) (by rw [hn.out]; exact g1)
    obtain ⟨y, hy⟩ := some_el15 ys (k := k) (by rw [hm.out]; exact g2)
    obtain ⟨b1, o1, u1, rfl, x0, x1, _⟩ := (H1.out.to0 hI.out.2).wrt hx
    obtain ⟨b2, o2, u2, rfl, y0, y1, _⟩ := (H2.out.to0 hI.out.2).wrt hy
    by_cases g3 : x.1 = y.1
    case neg =>
      have hE := hide (STOP.out (fun x' y' hx' hy' => by rw [hx] at hx'; rw [hy] at hy'; cases hx'; cases hy'; exact g3))
      have g3' : (x.1 == y.1) = false := by simpa using g3
      clear STOP hx hy
      generalize x.1 = tx at *
      generalize y.1 = ty at *
      replace g3 := hide g3
      go_upto_region 2 with fail
      go_quiet (fail)
      go_wp2
      go_ret
      exact ⟨ret_int (by rw [hE.out]), hI.out.2.trans (below_drewN' wr nq _)⟩
    have hN : Hid ((∀ j, j < k + 1 → ∃ x y, xs[j]? = some x ∧ ys[j]? = some y ∧ x.1 = y.1) ∧ Below w.heap.size w wr) := by
      refine ⟨fun j hj => ?_, hI.out.2⟩
      rcases Nat.lt_or_ge j k with q | q
      · exact hI.out.1 j q
      · have : j = k := by omega
        subst this
        exact ⟨x, y, hx, hy, g3⟩
    clear STOP hx hy
    generalize x.1 = tx at *
    generalize y.1 = ty at *
    subst g3
    go_upto_region 2 with fail
    go_quiet (fail)
    go_wp2
    go_roundw
    case rel => exact ⟨k + 1, by omega, by omega, by go_num, hide ⟨hN.out.1, hN.out.2.trans (below_drewN' wr nq _)⟩⟩
    case measure => simp [intOf]; omega
end Go.Proofs.Ytfalhboahdccmaa
