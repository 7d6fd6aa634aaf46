/-
  The program's Turn of votes.
-/
import Derived.Deep.CutRange
import Derived.Test.YtccklmhagabkaaaVtQ
import Derived.Test.YtccklmhagabkaaaRMid
import Derived.Test.YtccklmhagabkaaaTail
namespace Go.Proofs.Ytccklmhagabkaaa
open Go.RowKit
set_option linter.unusedVariables false
set_option linter.unusedSimpArgs false

theorem bw1 (x lo hi : Int) : (decide (∀ y ∈ [((x, lo, hi) : Bw)], bwin y)) = decide (lo ≤ x ∧ x ≤ hi) := by
  rw [decide_eq_decide]
  simp only [List.mem_cons, List.not_mem_nil, or_false, forall_eq, bwin]
theorem bw2 (x lo hi x' lo' hi' : Int) : (decide (∀ y ∈ [((x, lo, hi) : Bw), (x', lo', hi')], bwin y)) = decide ((lo ≤ x ∧ x ≤ hi) ∧ (lo' ≤ x' ∧ x' ≤ hi')) := by
  rw [decide_eq_decide]
  simp only [List.mem_cons, List.not_mem_nil, or_false, forall_eq_or_imp, forall_eq, bwin]
theorem below_allocv {w U : World} (h : Below w.heap.size w U) (o : Obj) : Below w.heap.size w (U.alloc o) := h.trans (((Below.refl U.heap.size U).alloc (Nat.le_refl _) o).mono h.size)
theorem below_allocW {B : Nat} {w U : World} (h : Below B w U) (hs : B ≤ w.heap.size) (o : Obj) : Below B w (U.alloc o) := h.trans (((Below.refl U.heap.size U).alloc (Nat.le_refl _) o).mono (Nat.le_trans hs h.size))
set_option maxRecDepth 100000 in
set_option maxHeartbeats 4000000 in
theorem pturn16_any (w : World) (s : Vs) (t : Int) : Calls Try.prog 9 #[sv16 s, .int .i64 t] w fun e w' => e = .returned (.tuple #[sv16 (vturn s t).1, .bool (vturn s t).2.1, .int .i64 (vturn s t).2.2]) ∧ Below w.heap.size w w' := by
  obtain ⟨W0, hW0, D, bW0, sW0⟩ := boxedN w #[.int .i64 s.term, .bool s.has, .int .i64 s.who] 26
  obtain ⟨W, hW, DZ, bW1, sW1⟩ := boxedN W0 #[.int .i64 0, .bool false, .int .i64 0] 26
  rw [sW0] at DZ
  have bW := bW0.trans (bW1.mono bW0.size)
  replace D := (bW1.block _ (lt_of_block D)).trans D
  have HS := hide (fun U (b : Below W.heap.size W U) => (b.block _ (lt_of_block D)).trans D)
  have HZ := hide (fun U (b : Below W.heap.size W U) => (b.block _ (lt_of_block DZ)).trans DZ)
  have HE := hide (fun U (b : Below W.heap.size W U) => bW.trans (b.mono bW.size))
  have KC := hide (pcheck16_any W s)
  obtain ⟨RR, hRR⟩ : ∃ R, R = vturn s t := ⟨_, rfl⟩
  rw [← hRR]
  have RN : Hid (¬ VOk s → RR = (vnil, false, 9)) := fun k => hRR.trans (if_neg k)
  have R4 : Hid (VOk s → (t < 0 ∨ 1099511627776 < t) → RR = (vnil, false, 4)) := fun k q => hRR.trans ((if_pos k).trans (if_pos q))
  have R1 : Hid (VOk s → ¬ (t < 0 ∨ 1099511627776 < t) → RR = (vto s t, decide (s.term < t), 0)) := fun k q => hRR.trans ((if_pos k).trans ((if_neg q).trans (by
    unfold vto
    by_cases r : s.term < t
    · rw [if_pos r, if_pos r, decide_eq_true r]
    · rw [if_neg r, if_neg r, decide_eq_false r])))
  have hWW : Hid (W = (w.alloc (.cells #[.int .i64 s.term, .bool s.has, .int .i64 s.who] 26)).alloc (.cells #[.int .i64 0, .bool false, .int .i64 0] 26)) := by rw [hW0] at hW; exact hW
  clear hRR bW D bW0 bW1 sW0 DZ sW1 hW hW0
  obtain ⟨⟨D0, D1, D2⟩, DF⟩ := cells3v (HS.out W (Below.refl _ _))
  clear DF
  rw [hWW.out] at D0 D1 D2 KC
  go_enter Try.func9, Try.ntmps9
  go_wp2_with fail
  refine KC.out.mono ?_
  rintro e w1 ⟨rfl, b1⟩
  rw [← hWW.out] at b1
  have FZ := hide (fun x y z => heap_set3v (HZ.out w1 b1) x y z)
  have FB := hide (fun x y z => below_set3v (HE.out w1 b1) (show w.heap.size ≤ w.heap.size + 1 by omega) x y z)
  obtain ⟨⟨Z0, Z1, Z2⟩, Zf⟩ := cells3v (HZ.out w1 b1)
  have Zf0 := Zf 0
  have Zf1 := Zf 1
  have Zf2 := Zf 2
  have KW := pwithin_any _ _ _ (bounds1 w1 (t, 0, 1099511627776) 48)
  rw [bw1] at KW
  replace KW := hide KW
  have hB1 := hide (below_allocv b1 (.cells #[.int .i64 t, .int .i64 0, .int .i64 1099511627776] 48))
  clear Zf b1 KC hWW D0 D1 D2
  obtain ⟨ck, hck⟩ : ∃ c, c = vcheck s := ⟨_, rfl⟩
  rw [← hck]
  by_cases ok : VOk s
  case neg =>
    have hr := hide (RN.out ok)
    rw [vcheck_no ok] at hck
    subst hck
    go_wp2
    refine retNTT rfl rfl (w.heap.size + 1) rfl _ _ (0, 0) (FZ.out _ _ _) _ Try.underlying26 rfl info_vs16p (.bool false) rfl (.int .i64 9) rfl ?_
    rw [hr.out]
    exact ⟨rfl, FB.out _ _ _⟩
  case pos =>
    rw [vcheck_ok ok] at hck
    subst hck
    replace R4 := hide (R4.out ok)
    replace R1 := hide (R1.out ok)
    clear RN ok FZ FB Z0 Z1 Z2 Zf0 Zf1 Zf2
    go_wp2_with fail
    refine KW.out.mono ?_
    rintro e w2 ⟨rfl, b2⟩
    have b2' := hB1.out.trans (b2.mono hB1.out.size)
    have FZ := hide (fun x y z => heap_set3v (HZ.out w2 b2') x y z)
    have FB := hide (fun x y z => below_set3v (HE.out w2 b2') (show w.heap.size ≤ w.heap.size + 1 by omega) x y z)
    obtain ⟨⟨Z0, Z1, Z2⟩, Zf⟩ := cells3v (HZ.out w2 b2')
    have Zf0 := Zf 0
    have Zf1 := Zf 1
    have Zf2 := Zf 2
    obtain ⟨⟨D0, D1, D2⟩, DF⟩ := cells3v (HS.out w2 b2')
    have KT := hide (pturned16_any w2 s t)
    replace b2' := hide b2'
    clear Zf DF b2 KW hB1
    by_cases g1 : 0 ≤ t ∧ t ≤ 1099511627776
    case neg =>
      have hr := hide (R4.out (by omega))
      rw [decide_eq_false g1]
      go_wp2
      refine retNTT rfl rfl (w.heap.size + 1) rfl _ _ (0, 0) (FZ.out _ _ _) _ Try.underlying26 rfl info_vs16p (.bool false) rfl (.int .i64 4) rfl ?_
      rw [hr.out]
      exact ⟨rfl, FB.out _ _ _⟩
    case pos =>
      have hr := hide (R1.out (by omega))
      rw [decide_eq_true g1]
      clear R1 R4 g1 FZ FB Z0 Z1 Z2 Zf0 Zf1 Zf2
      go_wp2_with fail
      refine KT.out.mono ?_
      rintro e w3 ⟨rfl, b3⟩
      have b3' := b2'.out.trans (b3.mono b2'.out.size)
      generalize vto s t = T at *
      obtain ⟨bn, hbn⟩ : ∃ b, b = decide (s.term < t) := ⟨_, rfl⟩
      rw [← hbn] at hr ⊢
      clear hbn
      obtain ⟨tt, th, tw⟩ := T
      dsimp only [sv16]
      obtain ⟨U, hU, DU, bU, sU⟩ := boxedN w3 #[.int .i64 tt, .bool th, .int .i64 tw] 26
      have bU' := b3'.trans (bU.mono b3'.size)
      have FZ := hide (fun x y z => heap_set3v (HZ.out U bU') x y z)
      have FB := hide (fun x y z => below_set3v (HE.out U bU') (show w.heap.size ≤ w.heap.size + 1 by omega) x y z)
      obtain ⟨⟨Z0, Z1, Z2⟩, Zf⟩ := cells3v (HZ.out U bU')
      have Zf0 := Zf 0
      have Zf1 := Zf 1
      have Zf2 := Zf 2
      obtain ⟨⟨U0, U1, U2⟩, UF⟩ := cells3v DU
      rw [hU] at FZ FB Z0 Z1 Z2 Zf0 Zf1 Zf2 U0 U1 U2
      clear Zf UF bU bU' b3' b3 hU sU D0 D1 D2 KT DU
      go_wp2
      refine retNTT rfl rfl (w.heap.size + 1) rfl _ _ (0, 0) (FZ.out _ _ _) _ Try.underlying26 rfl info_vs16p (.bool bn) rfl (.int .i64 0) rfl ?_
      rw [hr.out]
      exact ⟨rfl, FB.out _ _ _⟩
end Go.Proofs.Ytccklmhagabkaaa
