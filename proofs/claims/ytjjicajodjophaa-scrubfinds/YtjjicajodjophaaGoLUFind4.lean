/- Several texts in one: UPA. -/
import Derived.Sort.OwnSortedInts
import Derived.Deep.QuietTactic
import Derived.BigQuiet
import Derived.Laws.Cover1
import Derived.Test.YtjjicajodjophaaShelf
import Derived.Test.YtjjicajodjophaaGoLUFind1
import Derived.Test.YtjjicajodjophaaGoLUFind3
set_option linter.unusedVariables false
set_option linter.unusedSimpArgs false
namespace Go.Proofs.Ytjjicajodjophaa
open Go.RowKit Go.Sort Go.Shelf
theorem usort_any (w : World) {B : Nat} (v : Value) (l : List Int) (h : OwnI B w v l) (hl : l.length ≤ 10000000000000) :
  Calls Try.prog 81 #[v] w fun e w' => e = .returned (.tuple #[]) ∧ OwnI B w' v (srt l) ∧ Below B w w' := by
 rcases h.2 with ⟨rfl, h0⟩ | ⟨g, cap, cur, rfl, hb, hg, hn, hm, hs, ht⟩
 ·refine (AnyM.slices_Sort_int_none Try.sortA none 0 w).mono ?_
  rintro e w' ⟨rfl, rfl⟩
  obtain rfl := List.eq_nil_of_length_eq_zero h0
  refine ⟨rfl, ?_, Below.refl _ _⟩
  have : srt [] = [] := List.eq_nil_of_length_eq_zero (srt_len [])
  rw [this]
  exact h
 ·have ht' : cur.toList.take l.length = l.map (Value.int .i64) := by rw [Nat.mul_one] at ht; exact ht
  refine (AnyM.slices_Sort_int Try.sortA g 0 cap l w (holds_of_blockI hg ht') (lt_of_block hg) (by omega)).mono ?_
  rintro e w' ⟨rfl, n, os, rfl⟩
  refine ⟨rfl, ?_, (Below.refl _ _).grown (grownBy_sortedI _) (by have := lt_of_block hg; omega) (fun k hk => by simp only [Option.some.injEq] at hk; omega)⟩
  have := ownsRow_sortedI (ss := l) (ts := srt l) (os := os) (n := n) (srt_len l) hb hg hn hm hs
  unfold OwnI
  rw [srt_len]
  exact this
theorem run_append_int (w : World) {B : Nat} {v : Value} {l : List Int} (h : OwnI B w v l) (a : Int) (hl : l.length ≤ 10000000000000) (hB : B ≤ w.heap.size) :
  ∃ v' w', (Builtin.append_ #[71, 71] 71 #[v, .slice (some ⟨w.heap.size, 0, none⟩) 1 1]).run Try.prog (w.alloc (.cells #[.int .i64 a] 3)) = .ok v' w' ∧ OwnI B w' v' (l ++ [a]) ∧ Below B w w' ∧ w.heap.size ≤ w'.heap.size := by
 obtain ⟨i0, hi, hz0, hz1, hz2⟩ := info_parts infoI
 have hc : ∀ j u, [Value.int .i64 a][j]? = some u → (w.alloc (.cells #[.int .i64 a] 3)).cell? ((⟨w.heap.size, 0, none⟩ : Addr).add j) = some u := by
  intro j u hj
  match j, hj with
  | 0, hj => simp at hj; subst hj; simp [Addr.add]
  | j + 1, hj => simp at hj
 obtain ⟨v', w', hr, ho, hg, _⟩ := run_append_own (P := Try.prog) (w.alloc (.cells #[.int .i64 a] 3)) B 71 71 3 i0 (.int .i64 0) 1 8 Try.underlying71 hi hz0 hz1 hz2 rfl (by decide) v l.length (l.map encI) (World.ownsRow.alloc h _) ⟨w.heap.size, 0, none⟩ 1 1 [.int .i64 a] rfl hc (by simp [Value.oneCell']) (by unfold maxLen; omega) (by omega) (by simp; omega)
 have bb : Below B w (w.alloc (.cells #[.int .i64 a] 3)) := (Below.refl _ _).alloc hB _
 refine ⟨v', w', hr, ?_, bb.grown hg (by simp; omega) (fun k hk => (World.ownsRow.lt h k hk).1), by have := hg.size; simp at this; omega⟩
 unfold OwnI
 rw [List.map_append, List.length_append]
 exact ho
set_option maxRecDepth 100000 in
theorem uverdict_any (w : World) (v : Value) (l : List D3) (h : RdD w v l) : Calls Try.prog 21 #[v] w fun e w' => e = .returned (.bool (decide (0 < l.length))) ∧ w = w' := by
 obtain ⟨a, c, rfl⟩ := h.slice
 by_cases hp : 0 < l.length
 ·have hq : (0 : Int) < (l.length : Int) := by omega
  go_enter Try.func21, Try.ntmps21
  go_wp2
  go_ret
  exact ⟨by simp [hp], rfl⟩
 ·have hq : ¬ (0 : Int) < (l.length : Int) := by omega
  go_enter Try.func21, Try.ntmps21
  go_wp2
  go_ret
  exact ⟨by simp [hp], rfl⟩
set_option maxRecDepth 100000 in
theorem uend_any (w : World) (x y : Int) (h0 : -9223372036854775808 ≤ x + y) (h1 : x + y ≤ 9223372036854775807) : Calls Try.prog 51 #[.agg #[.int .i64 x, .int .i64 y]] w fun e w' => e = .returned (.int .i64 (x + y)) ∧ Below w.heap.size w w' := by
 obtain ⟨W, hW, D0, D1, bW, sW⟩ := boxed2 w (.int .i64 x) (.int .i64 y) 73
 rw [hW] at D0 D1
 have HB := hide bW
 clear bW
 go_enter Try.func51, Try.ntmps51
 go_wp2
 go_ret
 rw [← hW]
 exact ⟨rfl, HB.out⟩
set_option maxRecDepth 100000 in
set_option maxHeartbeats 4000000 in
theorem prising_any (w : World) (v : Value) (l : List D3) (h : RdD w v l) (hl : l.length ≤ 6000000000000) :
  Calls Try.prog 50 #[v] w fun e w' => ∃ v', e = .returned v' ∧ OwnI w.heap.size w' v' (srt (dmAts l)) ∧ Below w.heap.size w w' := by
 obtain ⟨a, c, rfl⟩ := h.slice
 have HH := hide h
 clear h
 go_enter Try.func50, Try.ntmps50
 go_wp2
 go_loopw [3, 8] (fun o i wr => ∃ k : Nat, k ≤ l.length ∧ i = .int .i64 k ∧ Hid (OwnI w.heap.size wr o (dmAts (l.take k)) ∧ Below w.heap.size w wr)) (fun _ i _ => l.length - (intOf i).toNat)
 case atStart => exact ⟨0, Nat.zero_le _, rfl, hide ⟨OwnI.nil _ _, Below.refl _ _⟩⟩
 case round =>
  obtain ⟨k, hk, rfl, hH⟩ := hrel
  obtain ⟨ho, hb⟩ := hH.out
  by_cases hlt : k < l.length
  ·have hq : (k : Int) < (l.length : Int) := by omega
   obtain ⟨x, hx, hxm⟩ := some_at l hlt
   have hT := hide (dmAts_next hx)
   have hLL : (dmAts (l.take k)).length ≤ 6000000000000 := by have := dmAts_len (l.take k); simp at this; omega
   obtain ⟨x1, x2, x3⟩ := x
   obtain ⟨b, off, rfl, hc1, hc2, hc3⟩ := (HH.out.to0 hb).d3 hx
   dsimp only at hc1 hc2 hc3
   obtain ⟨U, hU, D, bU, sU⟩ := boxedN wr #[.int .i64 x1, .int .i64 x2, .int .i64 x3] 42
   have D0 : U.cell? ⟨wr.heap.size, 0, none⟩ = some (.int .i64 x1) := cell_of_row _ _ 0 _ _ _ D
   have D2 : U.cell? ⟨wr.heap.size, 2, none⟩ = some (.int .i64 x3) := cell_of_row _ _ 2 _ _ _ D
   have oU := hide (ho.below (Nat.le_refl _) bU)
   have cU := hide (hb.trans (bU.mono hb.size))
   replace hx := hide hx
   have sz := hide hb.size
   rw [hU] at D0 D2
   clear ho hb hH bU D
   by_cases c1 : x1 = 1
   ·subst c1
    by_cases c2 : 0 ≤ x3
    ·by_cases c3 : x3 ≤ 1048576
     ·have hD : Hid (dmAt (1, x2, x3) = some x3) := by show _ = _; unfold dmAt; rw [if_pos ⟨rfl, c2, c3⟩]
      obtain ⟨v6, w6, hr6, o6, b6, s6⟩ := run_append_int U oU.out x3 (by omega) cU.out.size
      have E6 := hide (And.intro (show OwnI w.heap.size w6 v6 (dmAts (l.take (k + 1))) by rw [hT.out, hD.out]; exact o6) (cU.out.trans b6))
      rw [sU, hU] at hr6
      clear o6 b6
      go_wp2_with (at_builtin; refine Lib.wpList_append_run _ rfl _ _ _ _ rfl _ _ rfl rfl _ _ hr6 ?_)
      go_roundw
      case rel => exact ⟨k + 1, by omega, by go_num, E6⟩
      case measure => simp [intOf]; omega
     ·have hD : Hid (dmAt (1, x2, x3) = none) := by show _ = _; unfold dmAt; rw [if_neg (fun h => c3 h.2.2)]
      go_wp2
      go_roundw
      case rel => exact ⟨k + 1, by omega, by go_num, hide ⟨by rw [hT.out, hD.out, ← hU]; simpa using oU.out, by rw [← hU]; exact cU.out⟩⟩
      case measure => simp [intOf]; omega
    ·have hD : Hid (dmAt (1, x2, x3) = none) := by show _ = _; unfold dmAt; rw [if_neg (fun h => c2 h.2.1)]
     go_wp2
     go_roundw
     case rel => exact ⟨k + 1, by omega, by go_num, hide ⟨by rw [hT.out, hD.out, ← hU]; simpa using oU.out, by rw [← hU]; exact cU.out⟩⟩
     case measure => simp [intOf]; omega
   ·have hD : Hid (dmAt (x1, x2, x3) = none) := by show _ = _; unfold dmAt; rw [if_neg (fun h => c1 h.1)]
    have c1' : (x1 == 1) = false := by simp [c1]
    go_wp2
    go_roundw
    case rel => exact ⟨k + 1, by omega, by go_num, hide ⟨by rw [hT.out, hD.out, ← hU]; simpa using oU.out, by rw [← hU]; exact cU.out⟩⟩
    case measure => simp [intOf]; omega
  ·have hq : ¬ (k : Int) < (l.length : Int) := by omega
   obtain rfl : k = l.length := by omega
   rw [List.take_length] at ho
   have KS := hide (usort_any wr u3 (dmAts l) ho (by have := dmAts_len l; omega))
   have HB := hide hb
   clear ho hb hH hlt
   go_wp2_with fail
   refine KS.out.mono ?_
   rintro e w2 ⟨rfl, o2, b2⟩
   have E2 := hide (And.intro o2 (HB.out.trans b2))
   clear o2 b2 KS
   go_wp2
   go_ret
   exact ⟨_, rfl, E2.out⟩
set_option maxRecDepth 100000 in
set_option maxHeartbeats 4000000 in
theorem pranges_any (w : World) (v : Value) (l : List D3) (h : RdD w v l) (hl : l.length ≤ 4000000) :
  Calls Try.prog 19 #[v] w fun e w' => ∃ v', e = .returned v' ∧ OwnE w.heap.size w' v' (rngs l) ∧ Below w.heap.size w w' := by
 have KR := hide (prising_any w v l h (by omega))
 obtain ⟨a, c, rfl⟩ := h.slice
 obtain ⟨S, hS⟩ : ∃ S, S = srt (dmAts l) := ⟨_, rfl⟩
 have hSl : S.length ≤ 4000000 := by rw [hS, srt_len]; have := dmAts_len l; omega
 have hSm : Hid (∀ a ∈ S, 0 ≤ a ∧ a ≤ 1048576) := fun a ha => by rw [hS] at ha; exact dmAts_bd (srt_mem.1 ha)
 rw [← hS] at KR
 have HR : Hid (rfold S = rngs l) := by rw [hS]; rfl
 clear h hS
 go_enter Try.func19, Try.ntmps19
 go_wp2_with fail
 refine KR.out.mono ?_
 rintro e w1 ⟨sv, rfl, o1, b1⟩
 obtain ⟨sa, sc, rfl, hsc, hsm, hcell⟩ := o1.slice
 have HB := hide b1
 have HC := hide hcell
 clear KR o1 b1 hcell hsc hsm
 generalize hn : S.length = n at *
 replace hn := hide hn
 go_wp2
 go_loopw [3, 10] (fun o i wr => ∃ k : Nat, k ≤ n ∧ i = .int .i64 k ∧ Hid (OwnE w1.heap.size wr o (rfold (S.take k)) ∧ Below w1.heap.size w1 wr)) (fun _ i _ => n - (intOf i).toNat)
 case atStart => exact ⟨0, Nat.zero_le _, rfl, hide ⟨World.ownsRow_nil _ _ _ _, Below.refl _ _⟩⟩
 case round =>
  obtain ⟨k, hk, rfl, hH⟩ := hrel
  obtain ⟨ho, hb⟩ := hH.out
  by_cases hlt : k < n
  ·have hq : (k : Int) < (n : Int) := by omega
   obtain ⟨x, hx, hxm⟩ := some_at S (k := k) (by rw [hn.out]; exact hlt)
   have hT := hide (rfold_next hx)
   obtain ⟨hx0, hx1⟩ := hSm.out x hxm
   obtain ⟨g, rfl, hc⟩ : ∃ g, sa = some ⟨g, 0, none⟩ ∧ wr.cell? ⟨g, k, none⟩ = some (.int .i64 x) := by
    rcases HC.out with h | ⟨g, e, hc⟩
    ·rw [h] at hx; simp at hx
    ·have h1 := hc k hlt
     rw [List.getElem?_eq_getElem (by rw [hn.out]; exact hlt)] at hx
     have h2 : w1.cell? ⟨g, k, none⟩ = some (.int .i64 x) := by rw [h1]; simp only [Option.some.injEq] at hx; simp [List.getD, List.getElem?_eq_getElem (show k < S.length by rw [hn.out]; exact hlt), hx]
     exact ⟨g, e, (hb.cell (cell_lt h2)).trans h2⟩
   obtain ⟨M, hM⟩ : ∃ M, M = (rfold (S.take k)).length := ⟨_, rfl⟩
   have hM4 : M ≤ 4000000 := by rw [hM]; have := rfold_len (S.take k); simp at this; omega
   have hin : Hid (∀ y ∈ rfold (S.take k), 0 ≤ y.1 ∧ y.1 ≤ 1048576 ∧ y.1 + y.2 ≤ 1048576 + 4 ∧ 4 - 1048576 ≤ y.2) := rfold_in fun a ha => hSm.out a (List.mem_of_mem_take ha)
   obtain ⟨R, hR⟩ : ∃ R, R = rfold (S.take k) := ⟨_, rfl⟩
   rw [← hR] at ho hT hM hin
   have hbs := hb.size
   replace hR := hide hR
   have HBr := hide hb
   clear hH hb hx hxm
   by_cases hM0 : M = 0
   ·subst hM0
    have hnil : R = [] := List.eq_nil_of_length_eq_zero hM.symm
    clear hM
    subst hnil
    have hv : u3 = .slice none 0 0 ∨ ∃ b c, u3 = .slice (some ⟨b, 0, none⟩) 0 c := by
     rcases ho.2 with ⟨e, _⟩ | ⟨b, c, cur, e, _⟩
     ·exact .inl e
     ·exact .inr ⟨b, c, e⟩
    obtain ⟨v6, w6, hr6, o6, b6, s6, _⟩ := run_append_ext wr ho x 4 (by simp) hbs
    have O6 := hide (And.intro (show OwnE w1.heap.size w6 v6 (rfold (S.take (k + 1))) by rw [hT.out, rstep_none]; exact o6) (HBr.out.trans b6))
    clear o6 b6 ho
    rcases hv with rfl | ⟨b, c', rfl⟩
    ·go_wp2_with (at_builtin; refine Lib.wpList_append_run _ rfl _ _ _ _ rfl _ _ rfl rfl _ _ hr6 ?_)
     go_roundw
     case rel => exact ⟨k + 1, by omega, by go_num, O6⟩
     case measure => simp [intOf]; omega
    ·go_wp2_with (at_builtin; refine Lib.wpList_append_run _ rfl _ _ _ _ rfl _ _ rfl rfl _ _ hr6 ?_)
     go_roundw
     case rel => exact ⟨k + 1, by omega, by go_num, O6⟩
     case measure => simp [intOf]; omega
   ·obtain ⟨m, rfl⟩ : ∃ m, M = m + 1 := ⟨M - 1, by omega⟩
    obtain ⟨y, hy, hym⟩ := some_at R (k := m) (by omega)
    obtain ⟨y1, y2⟩ := y
    obtain ⟨i1, i2, i3, i4⟩ := hin.out _ hym
    dsimp only at i1 i2 i3 i4
    obtain ⟨b, c', hv, hbb, hcc⟩ := ho.block2 (by omega)
    rw [← hM] at hv hcc
    subst hv
    obtain ⟨t0, t1, tf0, tf1⟩ := ho.cells2 hy
    dsimp only at t0 t1
    have KE := hide (uend_any wr y1 y2 (by omega) (by omega))
    have e1 : ((m + 1 : Nat) : Int) - 1 = (m : Int) := by omega
    have hJ := hide (fun hc => rstep_join (a := x) (k := m) hM.symm hy hc)
    have hN := hide (fun (hc : y1 + y2 < x) => rstep_new (a := x) (k := m) hM.symm hy (by dsimp only; omega))
    have hRl := hide (show R.length ≤ 4000000 by omega)
    dsimp only at hJ hN
    have hmlt : (m : Int) < ((m + 1 : Nat) : Int) := by omega
    have HO := hide ho
    have HY := hide hy
    clear ho hy hym hM
    go_wp2_with fail
    refine KE.out.mono ?_
    rintro e w2 ⟨rfl, b2⟩
    have t0' := (b2.cell (cell_lt t0)).trans t0
    have t1' := (b2.cell (cell_lt t1)).trans t1
    have O2 := hide (HO.out.to2 b2)
    have f1' := (O2.out.cells2 HY.out).2.2.2
    have B2 := hide (HBr.out.trans (b2.mono HBr.out.size))
    have s2 : w1.heap.size ≤ w2.heap.size := B2.out.size
    clear KE HO t0 t1 tf0 tf1 b2 hc
    by_cases cc : x ≤ y1 + y2
    ·have F9 := hide (And.intro (show OwnE w1.heap.size (w2.setCell ⟨b, m * 2 + 1, none⟩ (.int .i64 (x + 4 - y1))) (.slice (some ⟨b, 0, none⟩) (m + 1) c') (rfold (S.take (k + 1))) by rw [hT.out, hJ.out cc]; exact O2.out.size2 HY.out _) (B2.out.setCell (p := ⟨b, m * 2 + 1, none⟩) hbb (.int .i64 (x + 4 - y1))))
     go_wp2
     go_roundw
     case rel => exact ⟨k + 1, by omega, by go_num, F9⟩
     case measure => simp [intOf]; omega
    ·obtain ⟨v6, w6, hr6, o6, b6, s6, _⟩ := run_append_ext w2 O2.out x 4 hRl.out s2
     have O6 := hide (And.intro (show OwnE w1.heap.size w6 v6 (rfold (S.take (k + 1))) by rw [hT.out, hN.out (by omega)]; exact o6) (B2.out.trans b6))
     clear o6 b6
     go_wp2_with (at_builtin; refine Lib.wpList_append_run _ rfl _ _ _ _ rfl _ _ rfl rfl _ _ hr6 ?_)
     go_roundw
     case rel => exact ⟨k + 1, by omega, by go_num, O6⟩
     case measure => simp [intOf]; omega
  ·have hq : ¬ (k : Int) < (n : Int) := by omega
   obtain rfl : k = n := by omega
   have E2 := hide (And.intro (show OwnE w.heap.size wr u3 (rngs l) by rw [← HR.out]; rw [← hn.out, List.take_length] at ho; exact rows_base ho fun b hb => Nat.le_trans HB.out.size (World.ownsRow.lt ho b hb).1) (HB.out.trans (hb.mono HB.out.size)))
   clear ho hb hH
   go_wp2
   go_ret
   exact ⟨_, rfl, E2.out⟩
end Go.Proofs.Ytjjicajodjophaa
