/- Several texts in one: QB QC QD LQTells. -/
import Derived.Sort.OwnSortedInts
import Derived.Lib.SliceRun
import Derived.Test.YtnkbolgbpdjpcaaShelf
import Derived.Test.YtnkbolgbpdjpcaaGoLQTells0
set_option linter.unusedVariables false
set_option linter.unusedSimpArgs false
namespace Go.Proofs.Ytnkbolgbpdjpcaa
open Go.RowKit Go.Sort Go.Shelf
theorem qsort_any (w : World) {B : Nat} (v : Value) (l : List Int) (h : OwnI B w v l) (hl : l.length ≤ 10000000000000) :
  Calls Try.prog 24 #[v] w fun e w' => e = .returned (.tuple #[]) ∧ OwnI B w' v (srt l) ∧ Below B w w' := by
 rcases h.2 with ⟨rfl, h0⟩ | ⟨g, cap, cur, rfl, hb, hg, hn, hm, hs, ht⟩
 ·refine (AnyM.slices_Sort_int_none Try.sortA none 0 w).mono ?_
  rintro e w' ⟨rfl, rfl⟩
  obtain rfl := List.eq_nil_of_length_eq_zero h0
  refine ⟨rfl, ?_, Below.refl _ _⟩
  have : srt [] = [] := List.eq_nil_of_length_eq_zero (srt_len [])
  rw [this]
  exact h
 ·have ht' : cur.toList.take l.length = l.map (Value.int .i64) := by rw [Nat.mul_one] at ht; exact ht
  refine (AnyM.slices_Sort_int Try.sortA g 0 cap l w (holds_of_blockI hg ht') (lt_of_block hg) (by omega)).mono ?_
  rintro e w' ⟨rfl, n, os, rfl⟩
  refine ⟨rfl, ?_, (Below.refl _ _).grown (grownBy_sortedI _) (by have := lt_of_block hg; omega) (fun k hk => by simp only [Option.some.injEq] at hk; omega)⟩
  have := ownsRow_sortedI (ss := l) (ts := srt l) (os := os) (n := n) (srt_len l) hb hg hn hm hs
  unfold OwnI
  rw [srt_len]
  exact this
set_option maxRecDepth 100000 in
theorem pmaj_any (w : World) (n : Int) : Calls Try.prog 9 #[.int .i64 n] w fun e w' => e = .returned (.tuple #[.int .i64 (qmj n).1, .int .i64 (qmj n).2]) ∧ w = w' := by
 by_cases h1 : n < 1
 ·go_enter Try.func9, Try.ntmps9
  go_wp2
  go_ret2
  refine ⟨?_, rfl⟩
  unfold qmj
  rw [if_pos (.inl h1)]
  rfl
 ·by_cases h2 : 9 < n
  ·go_enter Try.func9, Try.ntmps9
   go_wp2
   go_ret2
   refine ⟨?_, rfl⟩
   unfold qmj
   rw [if_pos (.inr h2)]
   rfl
  ·obtain ⟨k, rfl⟩ : ∃ k : Nat, n = k := ⟨n.toNat, by omega⟩
   have e1 : wrap64 ((k : Int).tdiv 2) = ((k / 2 : Nat) : Int) := by unfold wrap64; rw [Int.tdiv_eq_ediv_of_nonneg (by omega)]; omega
   go_enter Try.func9, Try.ntmps9
   go_wp2
   go_ret2
   refine ⟨?_, rfl⟩
   unfold qmj
   rw [if_neg (by omega)]
   rfl
set_option maxRecDepth 100000 in
theorem pmajof_any (w : World) (n : Nat) : Calls Try.prog 21 #[.int .i64 (n : Int)] w fun e w' => e = .returned (if qbad n then .tuple #[.int .i64 0, .int .i64 3] else .tuple #[.int .i64 ((qmaj n : Nat) : Int), .int .i64 0]) ∧ w = w' := by
 have KM := hide (pmaj_any w (n : Int))
 by_cases hb : qbad n
 ·rw [if_pos hb]
  have e : qmj (n : Int) = (0, 4) := by unfold qmj; rw [if_pos (by unfold qbad at hb; omega)]
  rw [e] at KM
  clear hb
  go_enter Try.func21, Try.ntmps21
  go_wp2_with fail
  refine KM.out.mono ?_
  rintro e w1 ⟨rfl, rfl⟩
  go_wp2
  go_ret2
  exact ⟨rfl, rfl⟩
 ·rw [if_neg hb]
  have e : qmj (n : Int) = (((qmaj n : Nat) : Int), 0) := by
   unfold qmj; rw [if_neg (by unfold qbad at hb; omega)]; unfold qmaj; simp only [Prod.mk.injEq, and_true]; omega
  rw [e] at KM
  generalize hM : qmaj n = M at *
  clear hb e
  go_enter Try.func21, Try.ntmps21
  go_wp2_with fail
  refine KM.out.mono ?_
  rintro e w1 ⟨rfl, rfl⟩
  go_wp2
  go_ret2
  exact ⟨rfl, rfl⟩
set_option maxRecDepth 100000 in
set_option maxHeartbeats 1000000 in
theorem pindexes_any (w : World) (v : Value) (l : List Int) (h : RdI w v l) : Calls Try.prog 22 #[v] w fun e w' => e = .returned (.bool (decide (∀ x ∈ l, qin x))) ∧ ∃ n, w' = w.drewN n := by
 have b1 := h.bd
 obtain ⟨a1, c1, rfl⟩ := h.slice
 have H := hide h
 obtain ⟨R, hR⟩ : ∃ R, R = decide (∀ x ∈ l, qin x) := ⟨_, rfl⟩
 rw [← hR]
 replace hR := hide hR
 clear h
 go_enter Try.func22, Try.ntmps22
 go_wp2
 go_loopw [7] (fun i wr => ∃ k n : Nat, k ≤ l.length ∧ i = .int .i64 k ∧ Hid (∀ y ∈ l.take k, qin y) ∧ Hid (wr = w.drewN n)) (fun i _ => l.length - (intOf i).toNat)
 case atStart => exact ⟨0, 0, Nat.zero_le _, rfl, hide (by simp), hide rfl⟩
 case round =>
  obtain ⟨k, n, hk, rfl, ht, hw⟩ := hrel
  by_cases hlt : k < l.length
  ·have hq : (k : Int) < (l.length : Int) := by omega
   obtain ⟨y, hy⟩ := some_el l hlt
   have bd := below_drewN' w n w.heap.size
   rw [← hw.out] at bd
   obtain ⟨p1, o1, rfl, y1⟩ := (H.out.to0 bd).intAt hy
   have HY := hide hy
   clear bd hy
   by_cases c1 : y < 0
   ·have eq : Hid (R = false) := by show _ = _; rw [hR.out]; exact decide_eq_false fun h => by have := (h y (List.mem_of_getElem? HY.out)).1; omega
    go_wp2
    go_ret
    exact ⟨ret_bool eq.out.symm, n, hw.out⟩
   ·by_cases c2 : 1099511627776 < y
    ·have eq : Hid (R = false) := by show _ = _; rw [hR.out]; exact decide_eq_false fun h => by have := (h y (List.mem_of_getElem? HY.out)).2; omega
     go_wp2
     go_ret
     exact ⟨ret_bool eq.out.symm, n, hw.out⟩
    ·have en : Hid (∀ z ∈ l.take (k + 1), qin z) := by
      intro z hz
      rw [List.take_add_one, HY.out] at hz
      rcases List.mem_append.1 hz with hz | hz
      ·exact ht.out z hz
      ·simp at hz; subst hz; exact ⟨by omega, by omega⟩
     go_wp2
     go_roundw
     case rel => exact ⟨k + 1, n, by omega, by go_num, en, hw⟩
     case measure => simp [intOf]; omega
  ·have hq : ¬ (k : Int) < (l.length : Int) := by omega
   have eq : Hid (R = true) := by
    show _ = _
    have := ht.out
    rw [List.take_of_length_le (by omega)] at this
    rw [hR.out]; exact decide_eq_true this
   go_wp2
   go_ret
   exact ⟨ret_bool eq.out.symm, n, hw.out⟩
set_option maxRecDepth 100000 in
set_option maxHeartbeats 400000 in
theorem pclI_any (w : World) (v : Value) (l : List Int) (h : RdI w v l) (hm : l.length * 8 ≤ 140737488355328) :
  Calls Try.prog 23 #[v] w fun e w' => ∃ v', e = .returned v' ∧ OwnI w.heap.size w' v' l ∧ Below w.heap.size w w' := by
 obtain ⟨a, c, rfl, l1, m1, n1, r1⟩ := id h
 obtain ⟨i0, hi, hz0, hz1, hz2⟩ := info_parts infoJ
 cases a with
 | none =>
  have : l = [] := by
   rcases r1 with r1 | ⟨b, off, h, _⟩
   ·exact r1
   ·cases h
  subst this
  obtain rfl : c = 0 := n1 rfl
  have hnil : (binOp .eql 22 (.slice none 0 0) (.slice none 0 0)).run Try.prog w = .ok (.bool true) w := Lib.run_eql_slice_nil w 22 3 _ 0 0 0 0 Try.underlying22
  go_enter Try.func23, Try.ntmps23
  go_wp2
  go_ret
  exact ⟨_, rfl, World.ownsRow_nil _ _ _ _, Below.refl _ _⟩
 | some ad =>
  obtain ⟨X, hX⟩ : ∃ u, u = w.alloc (.cells #[] 3) := ⟨_, rfl⟩
  have oX : X.ownsRow w.heap.size 3 1 (.slice (some ⟨w.heap.size, 0, none⟩) 0 0) 0 [] := by
   rw [hX]
   have := World.ownsRow_lit (base := w.heap.size) (e := 3) (size := 1) w #[] 0 (Nat.le_refl _) (by unfold maxLen; omega) (by simp)
   simpa using this
  have bX : Below w.heap.size w X := by rw [hX]; exact (Below.refl _ _).alloc (Nat.le_refl _) _
  have n3 : ∀ j u, (l.map (Value.int .i64))[j]? = some u → X.cell? (ad.add j) = some u := by
   intro j u hj
   rw [List.getElem?_map] at hj
   obtain ⟨x, hx, rfl⟩ := Option.map_eq_some_iff.1 hj
   obtain ⟨b, off, e, h1⟩ := (h.to0 bX).intAt hx
   obtain rfl : ad = ⟨b, off, none⟩ := by simpa using e
   have ea : (⟨b, off, none⟩ : Addr).add j = ⟨b, off + j, none⟩ := by
    by_cases h0 : j = 0
    ·subst h0; simp [Addr.add]
    ·simp [Addr.add, h0]
   rw [ea]
   exact h1
  have N2 := hide n3
  have l0 : (l.map (Value.int .i64)).length = l.length * 1 := by simp
  have n4 : 0 + l.length ≤ maxLen := by rw [show maxLen = 9223372036854775807 from rfl]; omega
  have n5 : (0 + l.length) * 8 ≤ 140737488355328 := by omega
  have o3 := one_int l
  have hsz := bX.size
  have BX := hide bX
  have hnil : (binOp .eql 22 (.slice (some ad) l.length c) (.slice none 0 0)).run Try.prog w = .ok (.bool false) w := Lib.run_eql_slice_nil w 22 3 _ l.length c 0 0 Try.underlying22
  clear n3 r1 h bX
  go_enter Try.func23, Try.ntmps23
  go_wp2_with (at_builtin; rw [← hX]; refine wpList_append_own _ rfl _ _ 22 rfl w.heap.size 3 i0 (.int .i64 0) 1 8 Try.underlying22 hi hz0 hz1 hz2 rfl (by decide) (.slice (some ⟨w.heap.size, 0, none⟩) 0 0) 0 [] rfl oX ad l.length c (l.map (Value.int .i64)) rfl l0 N2.out o3 n4 n5 hsz ?_; intro v1 w3 hown1 hgrow1 hnil1)
  go_ret
  refine ⟨_, rfl, ?_, BX.out.grown hgrow1 hsz (fun k h => by simp only [Value.ownBlock, Option.some.injEq] at h; omega)⟩
  exact (by simpa using hown1 : w3.ownsRow w.heap.size 3 1 v1 l.length (l.map (Value.int .i64)))
end Go.Proofs.Ytnkbolgbpdjpcaa

namespace Go.Proofs.Ytnkbolgbpdjpcaa
open Go.RowKit
theorem qag_three {l : List Int} (h : qbad l.length) : qag l = (0, 3) := by unfold qag; rw [if_pos h]
set_option maxRecDepth 100000 in
set_option maxHeartbeats 1000000 in
theorem pagreed_any (w : World) (v : Value) (l : List Int) (h : RdI w v l) :
  Calls Try.prog 11 #[v] w fun e w' => e = .returned (.tuple #[.int .i64 (qag l).1, .int .i64 (qag l).2]) ∧ Below w.heap.size w w' := by
 have b1 := h.bd
 have KM := hide (pmajof_any w l.length)
 have KI := hide (pindexes_any w v l h)
 obtain ⟨a1, c1, rfl⟩ := h.slice
 have H := hide h
 by_cases hb : qbad l.length
 ·rw [if_pos hb] at KM
  have eq := hide (qag_three hb)
  clear h hb
  go_enter Try.func11, Try.ntmps11
  go_wp2_with fail
  refine KM.out.mono ?_
  rintro e w1 ⟨rfl, rfl⟩
  go_wp2
  go_ret2
  exact ⟨by rw [eq.out]; rfl, Below.refl _ _⟩
 ·rw [if_neg hb] at KM
  have hm := qmaj_le hb
  have HB := hide hb
  have hat := qagr_at hb
  generalize hM : qmaj l.length = M at *
  replace hM := hide hM
  have HA := hide hat
  clear h hb hat
  go_enter Try.func11, Try.ntmps11
  go_wp2_with fail
  refine KM.out.mono ?_
  rintro e w1 ⟨rfl, rfl⟩
  clear KM
  go_wp2_with fail
  refine KI.out.mono ?_
  rintro e w1 ⟨rfl, n1, hw1⟩
  have B1 := hide (show Below w.heap.size w w1 by rw [hw1]; exact below_drewN' _ _ _)
  clear hw1 KI
  by_cases hi : ∀ x ∈ l, qin x
  ·have eq : Hid (qag l = (qagr l, 0)) := by show _ = _; unfold qag; rw [if_neg HB.out, if_pos hi]
   have hd := decide_eq_true hi
   rw [hd]
   clear hi hd
   have KC := hide (pclI_any w1 _ l (H.out.to0 B1.out) (by omega))
   go_wp2_with fail
   refine KC.out.mono ?_
   rintro e w2 ⟨v2, rfl, o2, b2⟩
   have KS := hide (qsort_any w2 v2 l o2 (by omega))
   have B2 := hide (B1.out.trans (b2.mono B1.out.size))
   clear o2 b2 KC
   go_wp2_with fail
   refine KS.out.mono ?_
   rintro e w3 ⟨rfl, o3, b3⟩
   have B3 := hide (B2.out.trans (b3.mono (by have := B1.out.size; omega)))
   obtain ⟨ao, cap, rfl, p1, p2, p3⟩ := o3.slice
   have hl3 : (srt l).length = l.length := srt_len l
   have hat := HA.out
   obtain ⟨hk, ea⟩ := hat
   obtain ⟨g, rfl, hc⟩ := p3.resolve_left (fun h => by rw [h] at hl3; simp at hl3; omega)
   have hc0 := hc (l.length - M) (by omega)
   rw [List.getD_eq_getElem?_getD, List.getElem?_eq_getElem (by omega)] at hc0
   rw [hl3]
   have e1 : wrap64 ((l.length : Int) - (M : Int)) = ((l.length - M : Nat) : Int) := by unfold wrap64; omega
   have b3 := B3.out
   have EA := hide (show (srt l)[l.length - M] = qagr l from ea.symm)
   generalize (srt l)[l.length - M] = R at *
   clear p3 hc ea o3 KS
   have q1 : (M : Int) ≤ (l.length : Int) := by omega
   have q2 : (0 : Int) < (M : Int) := by omega
   clear p2 p1
   go_wp2
   go_ret2
   refine ⟨?_, B3.out⟩
   rw [eq.out, ← EA.out]; rfl
  ·have eq : Hid (qag l = (0, 4)) := by show _ = _; unfold qag; rw [if_neg HB.out, if_neg hi]
   have hd := decide_eq_false hi
   rw [hd]
   clear hi hd
   go_wp2
   go_ret2
   exact ⟨by rw [eq.out]; rfl, B1.out⟩
set_option maxRecDepth 100000 in
set_option maxHeartbeats 1000000 in
theorem pwins_any (w : World) (v : Value) (l : List Bool) (h : RdBl w v l) :
  Calls Try.prog 15 #[v] w fun e w' => e = .returned (.tuple #[.bool (qwin l).1, .int .i64 (qwin l).2]) ∧ w = w' := by
 have b1 := h.bd
 obtain ⟨a1, c1, rfl⟩ := h.slice
 have H := hide h
 have KM := hide (pmajof_any w l.length)
 by_cases hb : qbad l.length
 ·rw [if_pos hb] at KM
  have eq : Hid (qwin l = (false, 3)) := by show _ = _; unfold qwin; rw [if_pos hb]
  clear h hb
  go_enter Try.func15, Try.ntmps15
  go_wp2_with fail
  refine KM.out.mono ?_
  rintro e w1 ⟨rfl, rfl⟩
  go_wp2
  go_ret2
  exact ⟨by rw [eq.out]; rfl, rfl⟩
 ·rw [if_neg hb] at KM
  have hm := qmaj_le hb
  have eq : Hid (qwin l = (decide (qmaj l.length ≤ l.count true), 0)) := by show _ = _; unfold qwin; rw [if_neg hb]
  generalize hM : qmaj l.length = M at *
  replace hM := hide hM
  clear h hb
  go_enter Try.func15, Try.ntmps15
  go_wp2_with fail
  refine KM.out.mono ?_
  rintro e w1 ⟨rfl, rfl⟩
  clear KM
  go_wp2
  go_loopw [4, 19] (fun c i wr => ∃ k r : Nat, k ≤ l.length ∧ r ≤ k ∧ i = .int .i64 k ∧ c = .int .i64 ((M : Int) - (r : Int)) ∧ Hid (r = (l.take k).count true) ∧ Hid (wr = w)) (fun _ i _ => l.length - (intOf i).toNat)
  case atStart => exact ⟨0, 0, Nat.zero_le _, Nat.le_refl _, rfl, by simp, hide rfl, hide rfl⟩
  case round =>
   obtain ⟨k, r, hk, hr, rfl, rfl, ht, hw⟩ := hrel
   obtain rfl := hw.out
   by_cases hlt : k < l.length
   ·have hq : (k : Int) < (l.length : Int) := by omega
    obtain ⟨y, hy⟩ := some_el l hlt
    obtain ⟨p1, o1, rfl, y1⟩ := H.out.boolAt hy
    have en := hide (qcount_next hy)
    clear hy
    cases y
    ·go_wp2
     go_roundw
     case rel => exact ⟨k + 1, r, by omega, by omega, by go_num, rfl, hide (by rw [en.out, ht.out]; rfl), hide trivial⟩
     case measure => simp [intOf]; omega
    ·have e1 : wrap64 ((M : Int) - (r : Int) - 1) = (M : Int) - ((r + 1 : Nat) : Int) := by unfold wrap64; omega
     go_wp2
     go_roundw
     case rel => exact ⟨k + 1, r + 1, by omega, by omega, by go_num, by congr 1; omega, hide (by rw [en.out, ht.out]; rfl), hide trivial⟩
     case measure => simp [intOf]; omega
   ·have hq : ¬ (k : Int) < (l.length : Int) := by omega
    have e : Hid (r = l.count true) := by
     have := ht.out
     rw [List.take_of_length_le (by omega)] at this
     exact this
    by_cases hd : M ≤ r
    ·have hd2 : (M : Int) - (r : Int) ≤ 0 := by omega
     have er : Hid (qwin l = (true, 0)) := by show _ = _; rw [eq.out, ← e.out, decide_eq_true hd]
     go_wp2
     go_ret2
     exact ⟨by rw [er.out]; rfl, rfl⟩
    ·have hd2 : ¬ (M : Int) - (r : Int) ≤ 0 := by omega
     have er : Hid (qwin l = (false, 0)) := by show _ = _; rw [eq.out, ← e.out, decide_eq_false hd]
     go_wp2
     go_ret2
     exact ⟨by rw [er.out]; rfl, rfl⟩
theorem rd_two {B : Nat} {w : World} (c f : Int) (h : w.heap[B]? = some (.cells #[.int .i64 c, .int .i64 f] 3 (0, 0))) : RdI w (.slice (some ⟨B, 0, none⟩) 2 2) [c, f] := by
 refine OwnJ.rd (B := 0) (l := [c, f]) ⟨rfl, .inr ⟨B, 2, _, rfl, Nat.zero_le _, h, Nat.le_refl _, by unfold maxLen; omega, rfl, rfl⟩⟩
set_option maxRecDepth 100000 in
set_option maxHeartbeats 1000000 in
theorem pcommit_any (w : World) (v : Value) (l : List Int) (c f : Int) (h : RdI w v l) :
  Calls Try.prog 13 #[v, .int .i64 c, .int .i64 f] w fun e w' => e = .returned (.tuple #[.int .i64 (qcm l c f).1, .int .i64 (qcm l c f).2]) ∧ Below w.heap.size w w' := by
 have KA := hide (pagreed_any w v l h)
 obtain ⟨a1, c1, rfl⟩ := h.slice
 obtain ⟨A, E, hAE⟩ : ∃ A E, qag l = (A, E) := ⟨_, _, rfl⟩
 rw [hAE] at KA
 dsimp only at KA
 obtain ⟨R1, R2, hR⟩ : ∃ R1 R2, qcm l c f = (R1, R2) := ⟨_, _, rfl⟩
 rw [hR]
 have hR' := hR
 unfold qcm at hR'
 rw [hAE] at hR'
 dsimp only at hR' ⊢
 replace hAE := hide hAE
 clear h hR
 go_enter Try.func13, Try.ntmps13
 go_wp2_with fail
 refine KA.out.mono ?_
 rintro e w1 ⟨rfl, b1⟩
 have B1 := hide b1
 clear KA b1
 by_cases hE : E = 0
 ·subst hE
  rw [if_pos rfl] at hR'
  have HR := hide hR'
  clear hR'
  obtain ⟨X, hX, X0, bX, sX⟩ := boxedN w1 #[.int .i64 c, .int .i64 f] 3
  have KI := hide (pindexes_any X _ [c, f] (rd_two c f X0))
  have BX := hide (B1.out.trans (bX.mono B1.out.size))
  rw [hX] at KI
  clear X0 bX
  go_wp2_with fail
  refine KI.out.mono ?_
  rw [← hX]
  rintro e w2 ⟨rfl, n2, hw2⟩
  have B2 := hide (BX.out.trans (show Below w.heap.size X w2 by rw [hw2]; exact below_drewN' _ _ _))
  clear hw2 KI hX sX
  by_cases hi : qin c ∧ qin f
  ·have hd : decide (∀ x ∈ [c, f], qin x) = true := decide_eq_true (by intro x hx; simp at hx; rcases hx with rfl | rfl; exact hi.1; exact hi.2)
   rw [hd]
   have hr := HR.out
   rw [if_pos hi] at hr
   clear HR hd hi
   by_cases d5 : f ≤ A
   ·rw [if_pos d5] at hr
    obtain ⟨h1, rfl⟩ := Prod.mk.inj hr
    clear hr
    have H1 := hide h1
    clear h1
    go_wp2
    go_ret2
    exact ⟨ret_two (congrArg (Value.int .i64) H1.out) rfl, B2.out⟩
   ·rw [if_neg d5] at hr
    obtain ⟨rfl, rfl⟩ := Prod.mk.inj hr
    clear hr
    go_wp2
    go_ret2
    exact ⟨rfl, B2.out⟩
  ·have hd : decide (∀ x ∈ [c, f], qin x) = false := decide_eq_false (fun h => hi ⟨h c (by simp), h f (by simp)⟩)
   rw [hd]
   have hr := HR.out
   rw [if_neg hi] at hr
   obtain ⟨rfl, rfl⟩ := Prod.mk.inj hr
   clear hr HR hd hi
   go_wp2
   go_ret2
   exact ⟨rfl, B2.out⟩
 ·rw [if_neg hE] at hR'
  obtain ⟨rfl, rfl⟩ := Prod.mk.inj hR'
  clear hR'
  go_wp2
  go_ret2
  exact ⟨rfl, B1.out⟩
end Go.Proofs.Ytnkbolgbpdjpcaa

namespace Go.Proofs.Ytnkbolgbpdjpcaa
open Go.RowKit Go.ChangeShapes Go.WideShapes Go.ChangeAt
abbrev SBoolL : Shp (List Bool) := Shp.list 4 Shp.bool
theorem open_bool14 : Opens SBoolL 23 (fun xs => xs.length * 1 ≤ 140737488351232 ∧ ∀ x ∈ xs, True) (fun xs => (xs.map (fun _ => 1)).sum) :=
 (opens_bool Try.underlying4 (by kernel_rfl)).list Try.underlying23 (by kernel_rfl) (by kernel_rfl) (by decide)
theorem open_int14 : Opens SIntL 22 (fun xs => xs.length * 8 ≤ 140737488351232 ∧ ∀ x ∈ xs, (Lit.int .i64 x).wf = true) (fun xs => (xs.map (fun _ => 1)).sum) :=
 (opens_intw Try.underlying3 (by kernel_rfl)).list Try.underlying22 (by kernel_rfl) (by kernel_rfl) (by decide)
set_option maxRecDepth 100000 in
theorem qnum_any (w : World) (n : Int) : Calls Try.prog 17 #[.int .i64 n] w fun e w' => e = .returned (.int .i64 n) ∧ w = w' := by
 go_enter Try.func17, Try.ntmps17
 go_wp2
 go_ret
 exact ⟨rfl, rfl⟩
abbrev OwnBl (B : Nat) (w : World) (v : Value) (l : List Bool) : Prop := w.ownsRow B 4 1 v l.length (l.map Value.bool)
theorem OwnBl.rd {B : Nat} {w : World} {v : Value} {l : List Bool} (h : OwnBl B w v l) : RdBl w v l := (own_one (s := Shp.bool) (f := Value.bool) (fun _ _ => ⟨rfl, rfl⟩) h).rdS
theorem infoBl : (Try.prog.info? 4).map (fun i => (i.zero, i.size, i.bytes)) = some (some (.bool false), 1, 1) := by kernel_rfl
theorem one_bool (l : List Bool) : ∀ u ∈ l.map Value.bool, u.oneCell' = true := by
 intro u hu
 obtain ⟨x, _, rfl⟩ := List.mem_map.1 hu
 rfl
set_option maxRecDepth 100000 in
set_option maxHeartbeats 400000 in
theorem copyBl_any (w : World) (v : Value) (l : List Bool) (h : RdBl w v l) (hm : l.length * 1 ≤ 140737488355328) :
  Calls Try.prog 8 #[v] w fun e w' => ∃ v', e = .returned v' ∧ OwnBl w.heap.size w' v' l ∧ Below w.heap.size w w' := by
 obtain ⟨a, c, rfl, l1, m1, n1, r1⟩ := id h
 obtain ⟨i0, hi, hz0, hz1, hz2⟩ := info_parts infoBl
 cases a with
 | none =>
  have : l = [] := by
   rcases r1 with r1 | ⟨b, off, h, _⟩
   ·exact r1
   ·cases h
  subst this
  obtain rfl : c = 0 := n1 rfl
  go_enter Try.func8, Try.ntmps8
  go_wp2_with (at_builtin; refine wpList_append_own_none rfl _ _ 23 rfl w.heap.size 4 i0 1 Try.underlying23 hi (.slice none 0 0) 0 [] rfl (World.ownsRow_nil _ _ _ _) rfl ?_)
  go_ret
  exact ⟨_, rfl, World.ownsRow_nil _ _ _ _, Below.refl _ _⟩
 | some ad =>
  have n2 : ∀ j u, (l.map Value.bool)[j]? = some u → w.cell? (ad.add j) = some u := by
   intro j u hj
   rw [List.getElem?_map] at hj
   obtain ⟨x, hx, rfl⟩ := Option.map_eq_some_iff.1 hj
   obtain ⟨b, off, e, h1⟩ := h.boolAt hx
   obtain rfl : ad = ⟨b, off, none⟩ := by simpa using e
   have ea : (⟨b, off, none⟩ : Addr).add j = ⟨b, off + j, none⟩ := by
    by_cases h0 : j = 0
    ·subst h0; simp [Addr.add]
    ·simp [Addr.add, h0]
   rw [ea]
   exact h1
  have n1 : (l.map Value.bool).length = l.length * 1 := by simp
  have n3 := one_bool l
  have n4 : 0 + l.length ≤ maxLen := by rw [show maxLen = 9223372036854775807 from rfl]; omega
  have n5 : (0 + l.length) * 1 ≤ 140737488355328 := by omega
  have N2 := hide n2
  clear n2 r1 h
  go_enter Try.func8, Try.ntmps8
  go_wp2_with (at_builtin; refine wpList_append_own _ rfl _ _ 23 rfl w.heap.size 4 i0 (.bool false) 1 1 Try.underlying23 hi hz0 hz1 hz2 rfl (by decide) (.slice none 0 0) 0 [] rfl (World.ownsRow_nil _ _ _ _) ad l.length c (l.map Value.bool) rfl n1 N2.out n3 n4 n5 (Nat.le_refl _) ?_; intro v1 w3 hown1 hgrow1 hnil1)
  go_ret
  refine ⟨_, rfl, ?_, (Below.refl _ _).grown hgrow1 (Nat.le_refl _) (fun k h => by cases h)⟩
  simpa using hown1
set_option maxRecDepth 100000 in
set_option maxHeartbeats 1000000 in
theorem sameBl_any (w : World) (v1 v2 : Value) (l : List Bool) (h1 : RdBl w v1 l) (h2 : RdBl w v2 l) :
  Calls Try.prog 19 #[v1, v2] w fun e w' => e = .returned (.bool true) ∧ ∃ n, w' = w.drewN n := by
 have b1 := h1.bd
 obtain ⟨a1, c1, rfl⟩ := h1.slice
 obtain ⟨a2, c2, rfl⟩ := h2.slice
 have H1 := hide h1
 have H2 := hide h2
 clear h1 h2
 go_enter Try.func19, Try.ntmps19
 go_wp2
 go_loopw [5] (fun i wr => ∃ k n : Nat, k ≤ l.length ∧ i = .int .i64 k ∧ Hid (wr = w.drewN n)) (fun i _ => l.length - (intOf i).toNat)
 case atStart => exact ⟨0, 0, Nat.zero_le _, rfl, hide rfl⟩
 case round =>
  obtain ⟨k, n, hk, rfl, hw⟩ := hrel
  by_cases hlt : k < l.length
  ·have hq : (k : Int) < (l.length : Int) := by omega
   obtain ⟨x, hx⟩ := some_el l hlt
   have bd := below_drewN' w n w.heap.size
   rw [← hw.out] at bd
   obtain ⟨p1, o1, rfl, x1⟩ := (H1.out.to0 bd).boolAt hx
   obtain ⟨p2, o2, rfl, y1⟩ := (H2.out.to0 bd).boolAt hx
   clear bd hx
   cases x
   ·go_wp2
    go_region
    go_wp2
    go_roundw
    case rel => exact ⟨k + 1, n + 1, by omega, by go_num, hide (by rw [hw.out]; rfl)⟩
    case measure => simp [intOf]; omega
   ·go_wp2
    go_region
    go_wp2
    go_roundw
    case rel => exact ⟨k + 1, n + 1, by omega, by go_num, hide (by rw [hw.out]; rfl)⟩
    case measure => simp [intOf]; omega
  ·have hq : ¬ (k : Int) < (l.length : Int) := by omega
   go_wp2
   go_ret
   exact ⟨rfl, n, hw.out⟩
theorem srt539 : srt [5, 3, 9] = [3, 5, 9] := by
 have hp : (srt [5, 3, 9]).Perm [3, 5, 9] := (srt_perm [5, 3, 9]).trans (by decide)
 have h1 := srt_rise [5, 3, 9]
 have h2 : ([3, 5, 9] : List Int).Pairwise (fun a b => a ≤ b) := by decide
 exact hp.eq_of_pairwise (fun a b _ _ h3 h4 => Int.le_antisymm h3 h4) h1 h2
theorem qag539 : qag [5, 3, 9] = (5, 0) := by
 unfold qag
 rw [if_neg (by unfold qbad; decide), if_pos (by decide)]
 unfold qagr
 rw [srt539]
 rfl
theorem rd_three {B : Nat} {w : World} (a b c : Int) (h : w.heap[B]? = some (.cells #[.int .i64 a, .int .i64 b, .int .i64 c] 3 (0, 0))) : RdI w (.slice (some ⟨B, 0, none⟩) 3 3) [a, b, c] := by
 refine OwnJ.rd (B := 0) (l := [a, b, c]) ⟨rfl, .inr ⟨B, 3, _, rfl, Nat.zero_le _, h, Nat.le_refl _, by unfold maxLen; omega, rfl, rfl⟩⟩
set_option maxRecDepth 100000 in
set_option maxHeartbeats 1000000 in
theorem qalive_any (w : World) : Calls Try.prog 20 #[] w fun e w' => e = .returned (.bool true) ∧ Below w.heap.size w w' := by
 obtain ⟨X, hX, X0, bX, sX⟩ := boxedN w #[.int .i64 5, .int .i64 3, .int .i64 9] 3
 have KA := hide (pagreed_any X _ [5, 3, 9] (rd_three 5 3 9 X0))
 rw [qag539] at KA
 have BX := hide bX
 rw [hX] at KA
 clear X0 bX
 go_enter Try.func20, Try.ntmps20
 go_wp2_with fail
 refine KA.out.mono ?_
 rw [← hX]
 rintro e w1 ⟨rfl, b1⟩
 have B1 := hide (BX.out.trans (b1.mono BX.out.size))
 have KM := hide (pmaj_any w1 4)
 rw [show qmj 4 = (3, 0) by decide] at KM
 clear KA b1 hX sX
 go_wp2_with fail
 refine KM.out.mono ?_
 rintro e w2 ⟨rfl, rfl⟩
 have N0 := hide (qnum_any w1 0)
 go_wp2_with fail
 refine N0.out.mono ?_
 rintro e w2 ⟨rfl, rfl⟩
 go_wp2_with fail
 refine N0.out.mono ?_
 rintro e w2 ⟨rfl, rfl⟩
 go_wp2
 go_ret
 exact ⟨rfl, B1.out⟩
end Go.Proofs.Ytnkbolgbpdjpcaa

namespace Go.Proofs.Ytnkbolgbpdjpcaa.quorumTells
open Go.ChangeShapes Go.WideShapes Go.ChangeAt Go.RowKit
set_option maxRecDepth 100000 in
set_option maxHeartbeats 4000000 in
theorem walk (w : World) (a0 : Int) (w0' : (Lit.int .i64 a0).wf = true) (a1 : Option Addr) (len1 cap1 : Nat) (l : List Int) (g1 : SIntL.rd w [.slice a1 len1 cap1] l) (m1 : l.length * 8 ≤ 140737488351232 ∧ ∀ x ∈ l, (Lit.int .i64 x).wf = true) (a2 : Int) (w2' : (Lit.int .i64 a2).wf = true) (a3 : Int) (w3' : (Lit.int .i64 a3).wf = true) (a4 : Option Addr) (len4 cap4 : Nat) (vs : List Bool) (g4 : SBoolL.rd w [.slice a4 len4 cap4] vs) (m4 : vs.length * 1 ≤ 140737488351232 ∧ ∀ x ∈ vs, True) :
  Calls Try.prog 3 #[.int .i64 a0, .slice a1 len1 cap1, .int .i64 a2, .int .i64 a3, .slice a4 len4 cap4] w fun e w' => e = .returned (.bool true) ∧ Below w.heap.size w w' := by
 obtain ⟨v1, e1, R1⟩ := g1
 obtain rfl : v1 = .slice a1 len1 cap1 := by simpa using e1.symm
 obtain ⟨v4, e4, R4⟩ := g4
 obtain rfl : v4 = .slice a4 len4 cap4 := by simpa using e4.symm
 have q1 := m1.1
 have q4 := m4.1
 clear e1 e4 w0' w2' w3' m1 m4
 have KC := hide (copyInt_any w _ l R1 (by omega))
 have H1 := hide R1
 have H4 := hide R4
 have Q1 := hide q1
 have Q4 := hide q4
 clear R1 R4 q1 q4
 go_enter Try.func3, Try.ntmps3
 go_wp2_with fail
 refine KC.out.mono ?_
 rintro e w1 ⟨v1, rfl, o1, b1⟩
 have B1 := hide b1
 have O1 := hide o1.rd
 have KB := hide (copyBl_any w1 _ vs (H4.out.to0 b1) (by have := Q4.out; omega))
 clear o1 b1 KC
 go_wp2_with fail
 refine KB.out.mono ?_
 rintro e w2 ⟨v2, rfl, o2, b2⟩
 have B2 := hide (B1.out.trans (b2.mono B1.out.size))
 have O2 := hide o2.rd
 replace O1 := hide (O1.out.to0 b2)
 obtain ⟨sa1, sc1, rfl⟩ := O1.out.slice
 obtain ⟨sa2, sc2, rfl⟩ := O2.out.slice
 clear o2 b2 KB B1
 have KM := hide (pmaj_any w2 a0)
 have KN := hide (rmaj_any w2 a0)
 obtain ⟨M1, M2, hM⟩ : ∃ A B, qmj a0 = (A, B) := ⟨_, _, rfl⟩
 rw [hM] at KM KN
 dsimp only at KM KN
 clear hM
 go_wp2_with fail
 refine KM.out.mono ?_
 rintro e w9 ⟨rfl, rfl⟩
 go_wp2_with fail
 refine KN.out.mono ?_
 rintro e w9 ⟨rfl, rfl⟩
 clear KM KN
 have KA := hide (pagreed_any w2 _ l O1.out)
 have KS := hide (fun (u : World) (bu : Below w.heap.size w u) => ragreed_any u _ l (H1.out.to0 bu))
 obtain ⟨A1, A2, hA⟩ : ∃ A B, qag l = (A, B) := ⟨_, _, rfl⟩
 rw [hA] at KA KS
 dsimp only at KA KS
 clear hA
 go_wp2_with fail
 refine KA.out.mono ?_
 rintro e w3 ⟨rfl, b3⟩
 have B3 := hide (B2.out.trans (b3.mono B2.out.size))
 replace O1 := hide (O1.out.to0 b3)
 replace O2 := hide (O2.out.to0 b3)
 have KT := hide (KS.out w3 B3.out)
 clear b3 KA B2 KS
 go_wp2_with fail
 refine KT.out.mono ?_
 rintro e w4 ⟨rfl, n4, hw4⟩
 have b4 : Below w3.heap.size w3 w4 := by rw [hw4]; exact below_drewN' _ _ _
 have B4 := hide (B3.out.trans (b4.mono B3.out.size))
 replace O1 := hide (O1.out.to0 b4)
 replace O2 := hide (O2.out.to0 b4)
 have KP := hide (pcommit_any w4 _ l a2 a3 O1.out)
 have KQ := hide (fun (u : World) (bu : Below w.heap.size w u) => rcommit_any u _ l a2 a3 (H1.out.to0 bu))
 obtain ⟨C1, C2, hC⟩ : ∃ A B, qcm l a2 a3 = (A, B) := ⟨_, _, rfl⟩
 rw [hC] at KP KQ
 dsimp only at KP KQ
 clear hC hw4 b4 KT B3
 go_wp2_with fail
 refine KP.out.mono ?_
 rintro e w5 ⟨rfl, b5⟩
 have B5 := hide (B4.out.trans (b5.mono B4.out.size))
 replace O1 := hide (O1.out.to0 b5)
 replace O2 := hide (O2.out.to0 b5)
 have KT := hide (KQ.out w5 B5.out)
 clear b5 KP B4 KQ
 go_wp2_with fail
 refine KT.out.mono ?_
 rintro e w6 ⟨rfl, n6, hw6⟩
 have b6 : Below w5.heap.size w5 w6 := by rw [hw6]; exact below_drewN' _ _ _
 have B6 := hide (B5.out.trans (b6.mono B5.out.size))
 replace O1 := hide (O1.out.to0 b6)
 replace O2 := hide (O2.out.to0 b6)
 have KW := hide (pwins_any w6 _ vs O2.out)
 have KX := hide (rwins_any w6 _ vs (H4.out.to0 B6.out))
 obtain ⟨W1, W2, hW⟩ : ∃ A B, qwin vs = (A, B) := ⟨_, _, rfl⟩
 rw [hW] at KW KX
 dsimp only at KW KX
 clear hW hw6 b6 KT B5
 go_wp2_with fail
 refine KW.out.mono ?_
 rintro e w9 ⟨rfl, rfl⟩
 go_wp2_with fail
 refine KX.out.mono ?_
 rintro e w9 ⟨rfl, rfl⟩
 clear KW KX
 have N1 := hide (fun n => qnum_any w6 n)
 have KI := hide (sameInt_any w6 _ _ l l O1.out (H1.out.to0 B6.out))
 rw [decide_eq_true rfl] at KI
 have KJ := hide (fun (u : World) (bu : Below w6.heap.size w6 u) => sameBl_any u _ _ vs (O2.out.to0 bu) (H4.out.to0 (B6.out.trans (bu.mono B6.out.size))))
 go_wp2_with fail
 refine (N1.out _).mono ?_
 rintro e w9 ⟨rfl, rfl⟩
 go_wp2_with fail
 refine (N1.out _).mono ?_
 rintro e w9 ⟨rfl, rfl⟩
 go_wp2_with fail
 refine (N1.out _).mono ?_
 rintro e w9 ⟨rfl, rfl⟩
 go_wp2_with fail
 refine (N1.out _).mono ?_
 rintro e w9 ⟨rfl, rfl⟩
 go_wp2_with fail
 refine KI.out.mono ?_
 rintro e w7 ⟨rfl, n7, hw7⟩
 have b7 : Below w6.heap.size w6 w7 := by rw [hw7]; exact below_drewN' _ _ _
 have B7 := hide (B6.out.trans (b7.mono B6.out.size))
 have KT := hide (KJ.out w7 b7)
 clear hw7 b7 KI KJ
 go_wp2_with fail
 refine KT.out.mono ?_
 rintro e w8 ⟨rfl, n8, hw8⟩
 have b8 : Below w7.heap.size w7 w8 := by rw [hw8]; exact below_drewN' _ _ _
 have B8 := hide (B7.out.trans (b8.mono B7.out.size))
 have KV := hide (qalive_any w8)
 clear hw8 b8 KT
 go_wp2_with fail
 refine KV.out.mono ?_
 rintro e w9 ⟨rfl, b9⟩
 have B9 := hide (B8.out.trans (b9.mono B8.out.size))
 clear b9 KV
 go_wp2
 go_ret
 exact ⟨rfl, B9.out⟩
set_option maxRecDepth 100000 in
theorem lifted (os : Os) (started : os.Started) (H : Type) (enc : TypeId × Value → H) :
  ReturnsInHanded {} Try.checked os 3 .any (Rows.quorumTellsSpec.pre6 enc Try.prog Try.f3 Rows.quorumTellsRow.domain false) (Rows.quorumTellsSpec.post enc Try.prog Try.f3 false true false false) := by
 refine returnsInHanded_of_change_sized (C := Try.checked) own started (by kernel_rfl) Try.func3
  (ChangeSpec.witness6 (enc := enc) (C := Try.checked) false ⟨#[], #[.int .i64 0, .slice none 0 0, .int .i64 0, .int .i64 0, .slice none 0 0], []⟩ 8 (by kernel_rfl) (by kernel_rfl) (by kernel_rfl) (by kernel_rfl)) ?_
 intro W base args ds gs before hval0 hW hcnd hsz0 _
 have hsz : (DataW.weightsEach Try.prog (Try.f3.params.toList ++ Rows.quorumTellsSpec.plain.varTypes Try.prog) (ds ++ gs)).all (· ≤ reachBytes) = true := hsz0
 have hval : ∀ (j : Nat) t v, Try.f3.params[j]? = some t → args[j]? = some v → Value.okWide Try.prog W .any base t v := hval0
 have hW' := hW
 obtain ⟨p, q, hA0, hV, rfl, hfz, hnd⟩ := hW
 have hA : DataW.TrodAll enc Try.prog W 0 (fun _ => true) true Try.f3.params.toList args.toList ds p := hA0
 rw [Try.params3] at hA hval hsz
 obtain ⟨v0, vs0, d0, ds0, p0, q0, hargs, rfl, rfl, h0, r0⟩ := trodAll_cons hA
 obtain ⟨v1, vs1, d1, ds1, p1, q1, rfl, rfl, rfl, h1, r1⟩ := trodAll_cons r0
 obtain ⟨v2, vs2, d2, ds2, p2, q2, rfl, rfl, rfl, h2, r2⟩ := trodAll_cons r1
 obtain ⟨v3, vs3, d3, ds3, p3, q3, rfl, rfl, rfl, h3, r3⟩ := trodAll_cons r2
 obtain ⟨v4, vs4, d4, ds4, p4, q4, rfl, rfl, rfl, h4, r4⟩ := trodAll_cons r3
 obtain ⟨rfl, rfl, rfl⟩ := trodAll_nil r4
 obtain rfl : args = #[v0, v1, v2, v3, v4] := by cases args; simp_all
 obtain ⟨rfl, rfl⟩ := trodVars_none hV
 obtain ⟨a0, rfl, rfl, rfl, w0⟩ := open_int Try.underlying3 (hval 0 3 v0 rfl rfl) h0
 obtain ⟨a1, len1, cap1, rfl⟩ := okWide_slice Try.underlying22 (hval 1 22 v1 rfl rfl)
 have lt1 : ∀ x ∈ p1, x.block < W.heap.size := by obtain ⟨m, hm⟩ := h1; exact DataW.trod_lt m _ _ _ hm
 have hh1 := h1
 obtain ⟨fu1, hf1⟩ := hh1
 obtain ⟨x1, g1, f1, b1⟩ := open_int14.opened hf1
 obtain ⟨a2, rfl, rfl, rfl, w2⟩ := open_int Try.underlying3 (hval 2 3 v2 rfl rfl) h2
 obtain ⟨a3, rfl, rfl, rfl, w3⟩ := open_int Try.underlying3 (hval 3 3 v3 rfl rfl) h3
 obtain ⟨a4, len4, cap4, rfl⟩ := okWide_slice Try.underlying23 (hval 4 23 v4 rfl rfl)
 have lt4 : ∀ x ∈ p4, x.block < W.heap.size := by obtain ⟨m, hm⟩ := h4; exact DataW.trod_lt m _ _ _ hm
 have hh4 := h4
 obtain ⟨fu4, hf4⟩ := hh4
 obtain ⟨x4, g4, f4, b4⟩ := open_bool14.opened hf4
 have m1 := f1 (reach_of hsz (j := 1) rfl rfl)
 have m4 := f4 (reach_of hsz (j := 4) rfl rfl)
 clear hA0 hval0 hsz0 hsz
 refine (walk W a0 w0 a1 len1 cap1 x1 g1 m1 a2 w2 a3 w3 a4 len4 cap4 x4 g4 m4).mono fun e W' ⟨he, bel⟩ => ?_
 subst he
 exact ⟨_, rfl, _, _, _, [], _, [], hW', trodAll_mk1 (shut_bool Try.underlying4 _), (trodAll_cons_mk (shut_int Try.underlying3 w0) (trodAll_cons_mk (Below.trod laidOut (by kernel_rfl) (of_decide_eq_true (by kernel_rfl)) h1 bel lt1) (trodAll_cons_mk (shut_int Try.underlying3 w2) (trodAll_cons_mk (shut_int Try.underlying3 w3) (trodAll_cons_mk (Below.trod laidOut (by kernel_rfl) (of_decide_eq_true (by kernel_rfl)) h4 bel lt4) trodAll_mk0))))), rfl, bel.frame _, fun h => by cases h⟩
theorem over : Rows.quorumTellsRow.holds Try.pinned (OpenSpec.ofChange Rows.quorumTellsSpec) :=
 OpenClaim.holds_of_wide 3 Try.f3 rfl rfl rfl rfl rfl rfl rfl ⟨rfl, rfl, rfl, rfl, rfl⟩ rfl rfl rfl rfl rfl (by kernel_rfl) Try.func3 (by kernel_rfl)
  (of_decide_eq_true (by kernel_rfl)) (by unfold Func.isWrapper; first | (rw [if_pos (by decide +kernel)]; kernel_rfl) | (rw [if_neg (by decide +kernel)]; exact ⟨rfl, rfl⟩))
  (fun os started H enc _ => lifted os started H enc)
end Go.Proofs.Ytnkbolgbpdjpcaa.quorumTells
namespace Go.Proofs.Ytnkbolgbpdjpcaa
theorem quorumTells_holds : Rows.QuorumTellsSaid := quorumTells.over
end Go.Proofs.Ytnkbolgbpdjpcaa
