/- Several texts in one: QB QC QD LQHelp. -/
import Derived.Sort.OwnSortedInts
import Derived.Lib.SliceRun
import Derived.Test.YtnkbolgbpdjpcaaShelf
import Derived.Test.YtnkbolgbpdjpcaaGoLQGrows0
set_option linter.unusedVariables false
set_option linter.unusedSimpArgs false
namespace Go.Proofs.Ytnkbolgbpdjpcaa
open Go.RowKit Go.Sort Go.Shelf
theorem qsort_any (w : World) {B : Nat} (v : Value) (l : List Int) (h : OwnI B w v l) (hl : l.length ≤ 10000000000000) :
  Calls Try.prog 24 #[v] w fun e w' => e = .returned (.tuple #[]) ∧ OwnI B w' v (srt l) ∧ Below B w w' := by
 rcases h.2 with ⟨rfl, h0⟩ | ⟨g, cap, cur, rfl, hb, hg, hn, hm, hs, ht⟩
 ·refine (AnyM.slices_Sort_int_none Try.sortA none 0 w).mono ?_
  rintro e w' ⟨rfl, rfl⟩
  obtain rfl := List.eq_nil_of_length_eq_zero h0
  refine ⟨rfl, ?_, Below.refl _ _⟩
  have : srt [] = [] := List.eq_nil_of_length_eq_zero (srt_len [])
  rw [this]
  exact h
 ·have ht' : cur.toList.take l.length = l.map (Value.int .i64) := by rw [Nat.mul_one] at ht; exact ht
  refine (AnyM.slices_Sort_int Try.sortA g 0 cap l w (holds_of_blockI hg ht') (lt_of_block hg) (by omega)).mono ?_
  rintro e w' ⟨rfl, n, os, rfl⟩
  refine ⟨rfl, ?_, (Below.refl _ _).grown (grownBy_sortedI _) (by have := lt_of_block hg; omega) (fun k hk => by simp only [Option.some.injEq] at hk; omega)⟩
  have := ownsRow_sortedI (ss := l) (ts := srt l) (os := os) (n := n) (srt_len l) hb hg hn hm hs
  unfold OwnI
  rw [srt_len]
  exact this
set_option maxRecDepth 100000 in
theorem pmaj_any (w : World) (n : Int) : Calls Try.prog 9 #[.int .i64 n] w fun e w' => e = .returned (.tuple #[.int .i64 (qmj n).1, .int .i64 (qmj n).2]) ∧ w = w' := by
 by_cases h1 : n < 1
 ·go_enter Try.func9, Try.ntmps9
  go_wp2
  go_ret2
  refine ⟨?_, rfl⟩
  unfold qmj
  rw [if_pos (.inl h1)]
  rfl
 ·by_cases h2 : 9 < n
  ·go_enter Try.func9, Try.ntmps9
   go_wp2
   go_ret2
   refine ⟨?_, rfl⟩
   unfold qmj
   rw [if_pos (.inr h2)]
   rfl
  ·obtain ⟨k, rfl⟩ : ∃ k : Nat, n = k := ⟨n.toNat, by omega⟩
   have e1 : wrap64 ((k : Int).tdiv 2) = ((k / 2 : Nat) : Int) := by unfold wrap64; rw [Int.tdiv_eq_ediv_of_nonneg (by omega)]; omega
   go_enter Try.func9, Try.ntmps9
   go_wp2
   go_ret2
   refine ⟨?_, rfl⟩
   unfold qmj
   rw [if_neg (by omega)]
   rfl
set_option maxRecDepth 100000 in
theorem pmajof_any (w : World) (n : Nat) : Calls Try.prog 21 #[.int .i64 (n : Int)] w fun e w' => e = .returned (if qbad n then .tuple #[.int .i64 0, .int .i64 3] else .tuple #[.int .i64 ((qmaj n : Nat) : Int), .int .i64 0]) ∧ w = w' := by
 have KM := hide (pmaj_any w (n : Int))
 by_cases hb : qbad n
 ·rw [if_pos hb]
  have e : qmj (n : Int) = (0, 4) := by unfold qmj; rw [if_pos (by unfold qbad at hb; omega)]
  rw [e] at KM
  clear hb
  go_enter Try.func21, Try.ntmps21
  go_wp2_with fail
  refine KM.out.mono ?_
  rintro e w1 ⟨rfl, rfl⟩
  go_wp2
  go_ret2
  exact ⟨rfl, rfl⟩
 ·rw [if_neg hb]
  have e : qmj (n : Int) = (((qmaj n : Nat) : Int), 0) := by
   unfold qmj; rw [if_neg (by unfold qbad at hb; omega)]; unfold qmaj; simp only [Prod.mk.injEq, and_true]; omega
  rw [e] at KM
  generalize hM : qmaj n = M at *
  clear hb e
  go_enter Try.func21, Try.ntmps21
  go_wp2_with fail
  refine KM.out.mono ?_
  rintro e w1 ⟨rfl, rfl⟩
  go_wp2
  go_ret2
  exact ⟨rfl, rfl⟩
set_option maxRecDepth 100000 in
set_option maxHeartbeats 1000000 in
theorem pindexes_any (w : World) (v : Value) (l : List Int) (h : RdI w v l) : Calls Try.prog 22 #[v] w fun e w' => e = .returned (.bool (decide (∀ x ∈ l, qin x))) ∧ ∃ n, w' = w.drewN n := by
 have b1 := h.bd
 obtain ⟨a1, c1, rfl⟩ := h.slice
 have H := hide h
 obtain ⟨R, hR⟩ : ∃ R, R = decide (∀ x ∈ l, qin x) := ⟨_, rfl⟩
 rw [← hR]
 replace hR := hide hR
 clear h
 go_enter Try.func22, Try.ntmps22
 go_wp2
 go_loopw [7] (fun i wr => ∃ k n : Nat, k ≤ l.length ∧ i = .int .i64 k ∧ Hid (∀ y ∈ l.take k, qin y) ∧ Hid (wr = w.drewN n)) (fun i _ => l.length - (intOf i).toNat)
 case atStart => exact ⟨0, 0, Nat.zero_le _, rfl, hide (by simp), hide rfl⟩
 case round =>
  obtain ⟨k, n, hk, rfl, ht, hw⟩ := hrel
  by_cases hlt : k < l.length
  ·have hq : (k : Int) < (l.length : Int) := by omega
   obtain ⟨y, hy⟩ := some_el l hlt
   have bd := below_drewN' w n w.heap.size
   rw [← hw.out] at bd
   obtain ⟨p1, o1, rfl, y1⟩ := (H.out.to0 bd).intAt hy
   have HY := hide hy
   clear bd hy
   by_cases c1 : y < 0
   ·have eq : Hid (R = false) := by show _ = _; rw [hR.out]; exact decide_eq_false fun h => by have := (h y (List.mem_of_getElem? HY.out)).1; omega
    go_wp2
    go_ret
    exact ⟨ret_bool eq.out.symm, n, hw.out⟩
   ·by_cases c2 : 1099511627776 < y
    ·have eq : Hid (R = false) := by show _ = _; rw [hR.out]; exact decide_eq_false fun h => by have := (h y (List.mem_of_getElem? HY.out)).2; omega
     go_wp2
     go_ret
     exact ⟨ret_bool eq.out.symm, n, hw.out⟩
    ·have en : Hid (∀ z ∈ l.take (k + 1), qin z) := by
      intro z hz
      rw [List.take_add_one, HY.out] at hz
      rcases List.mem_append.1 hz with hz | hz
      ·exact ht.out z hz
      ·simp at hz; subst hz; exact ⟨by omega, by omega⟩
     go_wp2
     go_roundw
     case rel => exact ⟨k + 1, n, by omega, by go_num, en, hw⟩
     case measure => simp [intOf]; omega
  ·have hq : ¬ (k : Int) < (l.length : Int) := by omega
   have eq : Hid (R = true) := by
    show _ = _
    have := ht.out
    rw [List.take_of_length_le (by omega)] at this
    rw [hR.out]; exact decide_eq_true this
   go_wp2
   go_ret
   exact ⟨ret_bool eq.out.symm, n, hw.out⟩
set_option maxRecDepth 100000 in
set_option maxHeartbeats 400000 in
theorem pclI_any (w : World) (v : Value) (l : List Int) (h : RdI w v l) (hm : l.length * 8 ≤ 140737488355328) :
  Calls Try.prog 23 #[v] w fun e w' => ∃ v', e = .returned v' ∧ OwnI w.heap.size w' v' l ∧ Below w.heap.size w w' := by
 obtain ⟨a, c, rfl, l1, m1, n1, r1⟩ := id h
 obtain ⟨i0, hi, hz0, hz1, hz2⟩ := info_parts infoJ
 cases a with
 | none =>
  have : l = [] := by
   rcases r1 with r1 | ⟨b, off, h, _⟩
   ·exact r1
   ·cases h
  subst this
  obtain rfl : c = 0 := n1 rfl
  have hnil : (binOp .eql 22 (.slice none 0 0) (.slice none 0 0)).run Try.prog w = .ok (.bool true) w := Lib.run_eql_slice_nil w 22 3 _ 0 0 0 0 Try.underlying22
  go_enter Try.func23, Try.ntmps23
  go_wp2
  go_ret
  exact ⟨_, rfl, World.ownsRow_nil _ _ _ _, Below.refl _ _⟩
 | some ad =>
  obtain ⟨X, hX⟩ : ∃ u, u = w.alloc (.cells #[] 3) := ⟨_, rfl⟩
  have oX : X.ownsRow w.heap.size 3 1 (.slice (some ⟨w.heap.size, 0, none⟩) 0 0) 0 [] := by
   rw [hX]
   have := World.ownsRow_lit (base := w.heap.size) (e := 3) (size := 1) w #[] 0 (Nat.le_refl _) (by unfold maxLen; omega) (by simp)
   simpa using this
  have bX : Below w.heap.size w X := by rw [hX]; exact (Below.refl _ _).alloc (Nat.le_refl _) _
  have n3 : ∀ j u, (l.map (Value.int .i64))[j]? = some u → X.cell? (ad.add j) = some u := by
   intro j u hj
   rw [List.getElem?_map] at hj
   obtain ⟨x, hx, rfl⟩ := Option.map_eq_some_iff.1 hj
   obtain ⟨b, off, e, h1⟩ := (h.to0 bX).intAt hx
   obtain rfl : ad = ⟨b, off, none⟩ := by simpa using e
   have ea : (⟨b, off, none⟩ : Addr).add j = ⟨b, off + j, none⟩ := by
    by_cases h0 : j = 0
    ·subst h0; simp [Addr.add]
    ·simp [Addr.add, h0]
   rw [ea]
   exact h1
  have N2 := hide n3
  have l0 : (l.map (Value.int .i64)).length = l.length * 1 := by simp
  have n4 : 0 + l.length ≤ maxLen := by rw [show maxLen = 9223372036854775807 from rfl]; omega
  have n5 : (0 + l.length) * 8 ≤ 140737488355328 := by omega
  have o3 := one_int l
  have hsz := bX.size
  have BX := hide bX
  have hnil : (binOp .eql 22 (.slice (some ad) l.length c) (.slice none 0 0)).run Try.prog w = .ok (.bool false) w := Lib.run_eql_slice_nil w 22 3 _ l.length c 0 0 Try.underlying22
  clear n3 r1 h bX
  go_enter Try.func23, Try.ntmps23
  go_wp2_with (at_builtin; rw [← hX]; refine wpList_append_own _ rfl _ _ 22 rfl w.heap.size 3 i0 (.int .i64 0) 1 8 Try.underlying22 hi hz0 hz1 hz2 rfl (by decide) (.slice (some ⟨w.heap.size, 0, none⟩) 0 0) 0 [] rfl oX ad l.length c (l.map (Value.int .i64)) rfl l0 N2.out o3 n4 n5 hsz ?_; intro v1 w3 hown1 hgrow1 hnil1)
  go_ret
  refine ⟨_, rfl, ?_, BX.out.grown hgrow1 hsz (fun k h => by simp only [Value.ownBlock, Option.some.injEq] at h; omega)⟩
  exact (by simpa using hown1 : w3.ownsRow w.heap.size 3 1 v1 l.length (l.map (Value.int .i64)))
end Go.Proofs.Ytnkbolgbpdjpcaa

namespace Go.Proofs.Ytnkbolgbpdjpcaa
open Go.RowKit
theorem qag_three {l : List Int} (h : qbad l.length) : qag l = (0, 3) := by unfold qag; rw [if_pos h]
set_option maxRecDepth 100000 in
set_option maxHeartbeats 1000000 in
theorem pagreed_any (w : World) (v : Value) (l : List Int) (h : RdI w v l) :
  Calls Try.prog 11 #[v] w fun e w' => e = .returned (.tuple #[.int .i64 (qag l).1, .int .i64 (qag l).2]) ∧ Below w.heap.size w w' := by
 have b1 := h.bd
 have KM := hide (pmajof_any w l.length)
 have KI := hide (pindexes_any w v l h)
 obtain ⟨a1, c1, rfl⟩ := h.slice
 have H := hide h
 by_cases hb : qbad l.length
 ·rw [if_pos hb] at KM
  have eq := hide (qag_three hb)
  clear h hb
  go_enter Try.func11, Try.ntmps11
  go_wp2_with fail
  refine KM.out.mono ?_
  rintro e w1 ⟨rfl, rfl⟩
  go_wp2
  go_ret2
  exact ⟨by rw [eq.out]; rfl, Below.refl _ _⟩
 ·rw [if_neg hb] at KM
  have hm := qmaj_le hb
  have HB := hide hb
  have hat := qagr_at hb
  generalize hM : qmaj l.length = M at *
  replace hM := hide hM
  have HA := hide hat
  clear h hb hat
  go_enter Try.func11, Try.ntmps11
  go_wp2_with fail
  refine KM.out.mono ?_
  rintro e w1 ⟨rfl, rfl⟩
  clear KM
  go_wp2_with fail
  refine KI.out.mono ?_
  rintro e w1 ⟨rfl, n1, hw1⟩
  have B1 := hide (show Below w.heap.size w w1 by rw [hw1]; exact below_drewN' _ _ _)
  clear hw1 KI
  by_cases hi : ∀ x ∈ l, qin x
  ·have eq : Hid (qag l = (qagr l, 0)) := by show _ = _; unfold qag; rw [if_neg HB.out, if_pos hi]
   have hd := decide_eq_true hi
   rw [hd]
   clear hi hd
   have KC := hide (pclI_any w1 _ l (H.out.to0 B1.out) (by omega))
   go_wp2_with fail
   refine KC.out.mono ?_
   rintro e w2 ⟨v2, rfl, o2, b2⟩
   have KS := hide (qsort_any w2 v2 l o2 (by omega))
   have B2 := hide (B1.out.trans (b2.mono B1.out.size))
   clear o2 b2 KC
   go_wp2_with fail
   refine KS.out.mono ?_
   rintro e w3 ⟨rfl, o3, b3⟩
   have B3 := hide (B2.out.trans (b3.mono (by have := B1.out.size; omega)))
   obtain ⟨ao, cap, rfl, p1, p2, p3⟩ := o3.slice
   have hl3 : (srt l).length = l.length := srt_len l
   have hat := HA.out
   obtain ⟨hk, ea⟩ := hat
   obtain ⟨g, rfl, hc⟩ := p3.resolve_left (fun h => by rw [h] at hl3; simp at hl3; omega)
   have hc0 := hc (l.length - M) (by omega)
   rw [List.getD_eq_getElem?_getD, List.getElem?_eq_getElem (by omega)] at hc0
   rw [hl3]
   have e1 : wrap64 ((l.length : Int) - (M : Int)) = ((l.length - M : Nat) : Int) := by unfold wrap64; omega
   have b3 := B3.out
   have EA := hide (show (srt l)[l.length - M] = qagr l from ea.symm)
   generalize (srt l)[l.length - M] = R at *
   clear p3 hc ea o3 KS
   have q1 : (M : Int) ≤ (l.length : Int) := by omega
   have q2 : (0 : Int) < (M : Int) := by omega
   clear p2 p1
   go_wp2
   go_ret2
   refine ⟨?_, B3.out⟩
   rw [eq.out, ← EA.out]; rfl
  ·have eq : Hid (qag l = (0, 4)) := by show _ = _; unfold qag; rw [if_neg HB.out, if_neg hi]
   have hd := decide_eq_false hi
   rw [hd]
   clear hi hd
   go_wp2
   go_ret2
   exact ⟨by rw [eq.out]; rfl, B1.out⟩
theorem rd_two {B : Nat} {w : World} (c f : Int) (h : w.heap[B]? = some (.cells #[.int .i64 c, .int .i64 f] 3 (0, 0))) : RdI w (.slice (some ⟨B, 0, none⟩) 2 2) [c, f] := by
 refine OwnJ.rd (B := 0) (l := [c, f]) ⟨rfl, .inr ⟨B, 2, _, rfl, Nat.zero_le _, h, Nat.le_refl _, by unfold maxLen; omega, rfl, rfl⟩⟩
set_option maxRecDepth 100000 in
set_option maxHeartbeats 1000000 in
theorem pcommit_any (w : World) (v : Value) (l : List Int) (c f : Int) (h : RdI w v l) :
  Calls Try.prog 13 #[v, .int .i64 c, .int .i64 f] w fun e w' => e = .returned (.tuple #[.int .i64 (qcm l c f).1, .int .i64 (qcm l c f).2]) ∧ Below w.heap.size w w' := by
 have KA := hide (pagreed_any w v l h)
 obtain ⟨a1, c1, rfl⟩ := h.slice
 obtain ⟨A, E, hAE⟩ : ∃ A E, qag l = (A, E) := ⟨_, _, rfl⟩
 rw [hAE] at KA
 dsimp only at KA
 obtain ⟨R1, R2, hR⟩ : ∃ R1 R2, qcm l c f = (R1, R2) := ⟨_, _, rfl⟩
 rw [hR]
 have hR' := hR
 unfold qcm at hR'
 rw [hAE] at hR'
 dsimp only at hR' ⊢
 replace hAE := hide hAE
 clear h hR
 go_enter Try.func13, Try.ntmps13
 go_wp2_with fail
 refine KA.out.mono ?_
 rintro e w1 ⟨rfl, b1⟩
 have B1 := hide b1
 clear KA b1
 by_cases hE : E = 0
 ·subst hE
  rw [if_pos rfl] at hR'
  have HR := hide hR'
  clear hR'
  obtain ⟨X, hX, X0, bX, sX⟩ := boxedN w1 #[.int .i64 c, .int .i64 f] 3
  have KI := hide (pindexes_any X _ [c, f] (rd_two c f X0))
  have BX := hide (B1.out.trans (bX.mono B1.out.size))
  rw [hX] at KI
  clear X0 bX
  go_wp2_with fail
  refine KI.out.mono ?_
  rw [← hX]
  rintro e w2 ⟨rfl, n2, hw2⟩
  have B2 := hide (BX.out.trans (show Below w.heap.size X w2 by rw [hw2]; exact below_drewN' _ _ _))
  clear hw2 KI hX sX
  by_cases hi : qin c ∧ qin f
  ·have hd : decide (∀ x ∈ [c, f], qin x) = true := decide_eq_true (by intro x hx; simp at hx; rcases hx with rfl | rfl; exact hi.1; exact hi.2)
   rw [hd]
   have hr := HR.out
   rw [if_pos hi] at hr
   clear HR hd hi
   by_cases d5 : f ≤ A
   ·rw [if_pos d5] at hr
    obtain ⟨h1, rfl⟩ := Prod.mk.inj hr
    clear hr
    have H1 := hide h1
    clear h1
    go_wp2
    go_ret2
    exact ⟨ret_two (congrArg (Value.int .i64) H1.out) rfl, B2.out⟩
   ·rw [if_neg d5] at hr
    obtain ⟨rfl, rfl⟩ := Prod.mk.inj hr
    clear hr
    go_wp2
    go_ret2
    exact ⟨rfl, B2.out⟩
  ·have hd : decide (∀ x ∈ [c, f], qin x) = false := decide_eq_false (fun h => hi ⟨h c (by simp), h f (by simp)⟩)
   rw [hd]
   have hr := HR.out
   rw [if_neg hi] at hr
   obtain ⟨rfl, rfl⟩ := Prod.mk.inj hr
   clear hr HR hd hi
   go_wp2
   go_ret2
   exact ⟨rfl, B2.out⟩
 ·rw [if_neg hE] at hR'
  obtain ⟨rfl, rfl⟩ := Prod.mk.inj hR'
  clear hR'
  go_wp2
  go_ret2
  exact ⟨rfl, B1.out⟩
end Go.Proofs.Ytnkbolgbpdjpcaa

namespace Go.Proofs.Ytnkbolgbpdjpcaa
open Go.RowKit Go.ChangeShapes Go.WideShapes Go.ChangeAt
theorem open_int14 : Opens SIntL 22 (fun xs => xs.length * 8 ≤ 140737488351232 ∧ ∀ x ∈ xs, (Lit.int .i64 x).wf = true) (fun xs => (xs.map (fun _ => 1)).sum) :=
 (opens_intw Try.underlying3 (by kernel_rfl)).list Try.underlying22 (by kernel_rfl) (by kernel_rfl) (by decide)
set_option maxRecDepth 100000 in
theorem qnum_any (w : World) (n : Int) : Calls Try.prog 17 #[.int .i64 n] w fun e w' => e = .returned (.int .i64 n) ∧ w = w' := by
 go_enter Try.func17, Try.ntmps17
 go_wp2
 go_ret
 exact ⟨rfl, rfl⟩
abbrev OwnBl (B : Nat) (w : World) (v : Value) (l : List Bool) : Prop := w.ownsRow B 4 1 v l.length (l.map Value.bool)
theorem OwnBl.rd {B : Nat} {w : World} {v : Value} {l : List Bool} (h : OwnBl B w v l) : RdBl w v l := (own_one (s := Shp.bool) (f := Value.bool) (fun _ _ => ⟨rfl, rfl⟩) h).rdS
theorem srt539 : srt [5, 3, 9] = [3, 5, 9] := by
 have hp : (srt [5, 3, 9]).Perm [3, 5, 9] := (srt_perm [5, 3, 9]).trans (by decide)
 have h1 := srt_rise [5, 3, 9]
 have h2 : ([3, 5, 9] : List Int).Pairwise (fun a b => a ≤ b) := by decide
 exact hp.eq_of_pairwise (fun a b _ _ h3 h4 => Int.le_antisymm h3 h4) h1 h2
theorem qag539 : qag [5, 3, 9] = (5, 0) := by
 unfold qag
 rw [if_neg (by unfold qbad; decide), if_pos (by decide)]
 unfold qagr
 rw [srt539]
 rfl
theorem rd_three {B : Nat} {w : World} (a b c : Int) (h : w.heap[B]? = some (.cells #[.int .i64 a, .int .i64 b, .int .i64 c] 3 (0, 0))) : RdI w (.slice (some ⟨B, 0, none⟩) 3 3) [a, b, c] := by
 refine OwnJ.rd (B := 0) (l := [a, b, c]) ⟨rfl, .inr ⟨B, 3, _, rfl, Nat.zero_le _, h, Nat.le_refl _, by unfold maxLen; omega, rfl, rfl⟩⟩
set_option maxRecDepth 100000 in
set_option maxHeartbeats 1000000 in
theorem qalive_any (w : World) : Calls Try.prog 20 #[] w fun e w' => e = .returned (.bool true) ∧ Below w.heap.size w w' := by
 obtain ⟨X, hX, X0, bX, sX⟩ := boxedN w #[.int .i64 5, .int .i64 3, .int .i64 9] 3
 have KA := hide (pagreed_any X _ [5, 3, 9] (rd_three 5 3 9 X0))
 rw [qag539] at KA
 have BX := hide bX
 rw [hX] at KA
 clear X0 bX
 go_enter Try.func20, Try.ntmps20
 go_wp2_with fail
 refine KA.out.mono ?_
 rw [← hX]
 rintro e w1 ⟨rfl, b1⟩
 have B1 := hide (BX.out.trans (b1.mono BX.out.size))
 have KM := hide (pmaj_any w1 4)
 rw [show qmj 4 = (3, 0) by decide] at KM
 clear KA b1 hX sX
 go_wp2_with fail
 refine KM.out.mono ?_
 rintro e w2 ⟨rfl, rfl⟩
 have N0 := hide (qnum_any w1 0)
 go_wp2_with fail
 refine N0.out.mono ?_
 rintro e w2 ⟨rfl, rfl⟩
 go_wp2_with fail
 refine N0.out.mono ?_
 rintro e w2 ⟨rfl, rfl⟩
 go_wp2
 go_ret
 exact ⟨rfl, B1.out⟩
end Go.Proofs.Ytnkbolgbpdjpcaa

namespace Go.Proofs.Ytnkbolgbpdjpcaa
open Go.RowKit
theorem swap_at (x : Int) {N : Nat} (h : 0 < N) : ∃ p : Nat, p < N ∧ (x.tmod (N : Int) + (N : Int)).tmod (N : Int) = (p : Int) ∧ -(N : Int) < x.tmod (N : Int) ∧ x.tmod (N : Int) < (N : Int) := by
 have j3 : (0 : Int) < (N : Int) := by omega
 have y1 := Int.lt_tmod_of_pos x j3
 have y2 := Int.tmod_lt_of_pos x j3
 have y3 := Int.emod_nonneg (x.tmod N) (b := (N : Int)) (by omega)
 have y4 := Int.emod_lt_of_pos (x.tmod N) j3
 refine ⟨(x.tmod N % N).toNat, by omega, ?_, y1, y2⟩
 rw [Int.tmod_eq_emod_of_nonneg (by omega), Int.add_emod_right]; omega
theorem ownJ_set {B : Nat} {w : World} {g n cap : Nat} {l : List Int} (h : OwnJ B w (.slice (some ⟨g, 0, none⟩) n cap) l) (hn : n = l.length) (k : Nat) (y : Int) : OwnJ B (w.setCell ⟨g, k, none⟩ (.int .i64 y)) (.slice (some ⟨g, 0, none⟩) n cap) (l.set k y) := by
 subst hn
 have := (World.ownsRow.stored h k (.int .i64 y)).1
 show World.ownsRow _ _ _ _ _ _ _
 rw [List.map_set, List.length_set]
 exact this
theorem ownJ_at {B : Nat} {w : World} {g n cap : Nat} {l : List Int} (h : OwnJ B w (.slice (some ⟨g, 0, none⟩) n cap) l) {k : Nat} {y : Int} (hy : l[k]? = some y) : w.cell? ⟨g, k, none⟩ = some (.int .i64 y) ∧ ∀ i, w.frozen? ⟨g, i, none⟩ = false := by
 obtain ⟨b, off, e, h1⟩ := (OwnJ.rd h).intAt hy
 have h2 := h
 rcases h.2 with ⟨e0, _⟩ | ⟨g', cap', cur, hv, hb, hg, _⟩
 ·cases e0
 ·simp only [Value.slice.injEq, Option.some.injEq, Addr.mk.injEq, and_true] at hv
  obtain ⟨rfl, _⟩ := hv
  simp only [Option.some.injEq, Addr.mk.injEq, and_true] at e
  obtain ⟨rfl, rfl⟩ := e
  exact ⟨by simpa using h1, fun i => by simp [World.frozen?, hg]⟩
end Go.Proofs.Ytnkbolgbpdjpcaa
