/-
  The program's Get of disks: an iterator over the writes, the last one first.
-/
import Derived.RangeFuncBox
import Derived.RangeFuncBound
import Derived.RangeFuncLeaves
import Derived.Shelf.Abstract
import Derived.Shelf.RegionOpen
import Derived.OwnWalkIn
import Derived.TacticsInMore
import Derived.LoopNIn
import Derived.LoopIn
import Derived.Test.YtliileemelcllaaRHand
import Derived.Test.YtliileemelcllaaDGetR
import Derived.Test.YtliileemelcllaaDPutP
import Derived.Test.YtliileemelcllaaDRes
namespace Go.Proofs.Ytliileemelcllaa
open Go.RowKit Go.Shelf
attribute [local go_sem] Oper.semAt_some
set_option linter.unusedVariables false

/-- a write that is handed out, and where its octets lie -/
structure WE where
  y : Wrt
  sv : Value
def encWE (x : WE) : Array Value := #[.agg #[.int .i64 x.y.1, x.sv]]
/-- what a round keeps: all that has cells -/
def KpC (V V' : World) : Prop := V.heap.size ≤ V'.heap.size ∧ ∀ (k : Nat) (o : Obj), V.heap[k]? = some o → o.isCells = true → V'.heap[k]? = some o
theorem KpC.trans {X Y Z : World} (h : KpC X Y) (k : KpC Y Z) : KpC X Z := ⟨Nat.le_trans h.1 k.1, fun i o h1 h2 => k.2 i o (h.2 i o h1 h2) h2⟩
theorem KpC.put (W : World) (l : Nat) (o o' : Obj) (h : W.heap[l]? = some o) (ho : o.isCells = false) : KpC W (W.putObj l o') := by
  refine ⟨by simp [World.putObj], fun k q hq hc => ?_⟩
  rw [World.putObj_heap_other (by rintro rfl; rw [h] at hq; cases hq; rw [ho] at hc; cases hc)]
  exact hq
theorem KpC.alloc (W : World) (o : Obj) : KpC W (W.alloc o) := ⟨by simp, fun k q hq _ => (Below.heap_alloc W o k (Array.getElem?_eq_some_iff.1 hq).1).trans hq⟩
theorem cell_obj {w : World} {b i : Nat} {v : Value} (h : w.cell? ⟨b, i, none⟩ = some v) : ∃ o, w.heap[b]? = some o ∧ o.isCells = true := by
  have hb := cell_lt h
  refine ⟨w.heap[b], Array.getElem?_eq_getElem hb, ?_⟩
  have e : w.heap[b]? = some w.heap[b] := Array.getElem?_eq_getElem hb
  unfold World.cell? at h
  rw [show (⟨b, i, none⟩ : Addr).block = b from rfl, e] at h
  cases hh : w.heap[b] with
  | cells c t f => rfl
  | _ => rw [hh] at h; simp at h
theorem KpC.cell {V V' : World} (h : KpC V V') {b i : Nat} {v : Value} (hc : V.cell? ⟨b, i, none⟩ = some v) : V'.cell? ⟨b, i, none⟩ = some v := by
  obtain ⟨o, h1, h2⟩ := cell_obj hc
  rw [World.cell?_of_block (w := V) (show V'.heap[b]? = V.heap[b]? from (h.2 b o h1 h2).trans h1.symm)]
  exact hc
theorem KpC.rd {V V' : World} (h : KpC V V') {v : Value} {xs : List UInt8} (hr : Rd V v xs) : Rd V' v xs := by
  obtain ⟨ao, cap, rfl, h1, h2, h3, h4⟩ := hr
  refine ⟨ao, cap, rfl, h1, h2, h3, ?_⟩
  rcases h4 with h4 | ⟨b, off, rfl, hc⟩
  · exact .inl h4
  · exact .inr ⟨b, off, rfl, fun i hi => h.cell (hc i hi)⟩
theorem KpC.rdC {V V' : World} (h : KpC V V') {v : Value} {ws : List Wrt} (hr : RdC V v ws) : RdC V' v ws := by
  obtain ⟨ao, cap, rfl, h1, h2, h3, h4⟩ := hr
  refine ⟨ao, cap, rfl, h1, h2, h3, ?_⟩
  rcases h4 with h4 | ⟨b, off, rfl, hc⟩
  · exact .inl h4
  · refine .inr ⟨b, off, rfl, fun i x hx => ?_⟩
    obtain ⟨c, ⟨c1, c2, e, e1, v, e2, hv⟩, hcell⟩ := hc i x hx
    exact ⟨c, ⟨c1, c2, e, e1, v, e2, h.rd hv⟩, fun j u hj => h.cell (hcell j u hj)⟩

/-- the writes that were handed out are the last ones, the last one first -/
def RW (ws : List Wrt) (pre : List WE) (x : WE) (V : World) : Prop := Rd V x.sv x.y.2 ∧ ∃ k, k + 1 + pre.length = ws.length ∧ ws[k]? = some x.y ∧ pre.map WE.y = (ws.drop (k + 1)).reverse
def SW (ws : List Wrt) (xs : List WE) (V : World) : Prop := xs.map WE.y = ws.reverse

set_option maxHeartbeats 2000000 in
set_option maxRecDepth 100000 in
theorem latest1_hands (ws : List Wrt) (v : Value) (W0 : World) (hr0 : RdC W0 v ws) (Bs : Nat) (bs : Boxed W0 Bs 41 v) (n : Nat) :
    Hands Fence.wide n Try.prog 69 #[.pointer (some ⟨Bs, 0, none⟩)] encWE KpC (RW ws) (SW ws) W0 := by
  intro l J Jx W hW hJ hJx hY h0
  have lb := hr0.bd
  obtain ⟨ao, cap, rfl⟩ := hr0.slice
  have i0 := hr0.to0 hW
  have bs0 : Boxed W Bs 41 (.slice ao ws.length cap) := (hW.block Bs bs.lt).trans bs
  have I0 := hide (And.intro i0 bs0)
  have cb0 := bs0.cell
  clear i0 bs0 bs hW hr0
  refine callsIn_of_wp Try.func69 rfl trivial ?_ rfl
  simp only [Try.ntmps69, List.size_toArray, List.length_cons, List.length_nil, Nat.reduceAdd, Nat.reduceSub, Array.replicate_succ, Array.replicate_zero, List.push_toArray, List.append_toArray, List.nil_append, List.cons_append]
  gi_wp2
  clear cb0
  gi_loopw [3] (fun i wr => ∃ (pre : List WE) (k : Nat), i = .int .i64 ((k : Int) - 1) ∧ k + pre.length = ws.length ∧ Hid (pre.map WE.y = (ws.drop k).reverse) ∧ Hid (RdC wr (.slice ao ws.length cap) ws ∧ Boxed wr Bs 41 (.slice ao ws.length cap)) ∧ J pre wr) (fun i _ => (intOf i + 1).toNat)
  case atStart => exact ⟨[], ws.length, by simp, rfl, by show _ = _; simp, I0, h0⟩
  case round =>
    obtain ⟨pre, k, rfl, hk, hpre, hit, hJs⟩ := hrel
    clear I0
    have cb := hit.out.2.cell
    cases k with
    | zero =>
      have hS : SW ws pre wr := by
        show pre.map WE.y = ws.reverse
        have := hpre.out
        rwa [List.drop_zero] at this
      have HS := hide hS
      have HJ := hide hJs
      have hq0 : ((0 : Nat) : Int) - 1 = -1 := by omega
      rw [hq0]
      clear hS hJs hpre hit hq0
      gi_wp2
      go_end0
      exact ⟨⟨_, rfl⟩, .inl ⟨_, HS.out, HJ.out⟩⟩
    | succ k =>
      obtain ⟨y, hy, _⟩ := some_at ws (k := k) (by omega)
      obtain ⟨b1, o1, u, rfl, hc1, hc2, hru⟩ := hit.out.1.wrt hy
      have hx : RW ws pre ⟨y, u⟩ wr := ⟨hru, k, by omega, hy, hpre.out⟩
      have Y := hY pre ⟨y, u⟩ wr hJs hx
      obtain ⟨fn, tmps, assign, body, hy', hR⟩ := Y
      dsimp only [encWE] at hy'
      obtain ⟨au, cu, rfl⟩ := hru.slice
      have hq1 : (0 : Int) ≤ ((k + 1 : Nat) : Int) - 1 := by omega
      have hq2 : ((k + 1 : Nat) : Int) - 1 = (k : Int) := by omega
      have hq3 : (k : Int) < (ws.length : Int) := by omega
      have hdr : (pre ++ [(⟨y, .slice au y.2.length cu⟩ : WE)]).map WE.y = (ws.drop k).reverse := by
        rw [List.map_append, hpre.out]
        have : ws.drop k = y :: ws.drop (k + 1) := by
          rw [List.drop_eq_getElem_cons (by omega)]
          congr 1
          have := (List.getElem?_eq_some_iff.1 hy)
          obtain ⟨h, e⟩ := this
          exact e
        rw [this]
        simp
      have HD := hide hdr
      have HIT := hit
      clear hdr hit hJs hpre hx hY hru hy
      rw [hq2]
      gi_wp2
      refine ⟨(fun h => by cases h), hR.mono ?_⟩
      rintro e W3 (⟨rfl, hJ3, hk3⟩ | ⟨rfl, hJx3⟩)
      · have h3 : Hid (RdC W3 (.slice (some ⟨b1, o1, none⟩) ws.length cap) ws ∧ Boxed W3 Bs 41 (.slice (some ⟨b1, o1, none⟩) ws.length cap)) := ⟨hk3.rdC HIT.out.1, hk3.2 _ _ HIT.out.2 rfl⟩
        have HJ3 := hide hJ3
        clear hJ3 hk3 HIT hR hy' cb hc1 hc2
        gi_wp2
        go_roundw
        case rel => exact ⟨pre ++ [⟨y, .slice au y.2.length cu⟩], k, by go_num, by simp; omega, HD, h3, HJ3.out⟩
        case measure => simp [intOf] <;> omega
      · clear hR hy' cb hc1 hc2
        gi_wp2
        refine bodyPost_ret (results_none rfl _ _ _) rfl ?_
        exact ⟨⟨_, rfl⟩, .inr ⟨_, hJx3⟩⟩

set_option maxRecDepth 100000 in
theorem latest_any (w : World) (v : Value) (ws : List Wrt) (hr : RdC w v ws) : Calls Try.prog 64 #[v] w fun e w' => e = .returned (.func (.func 69) #[] #[.pointer (some ⟨w.heap.size, 0, none⟩)]) ∧ w' = w.alloc (.cells #[v] 41) := by
  obtain ⟨ao, cap, rfl⟩ := hr.slice
  go_enter Try.func64, Try.ntmps64
  go_wp2
  go_ret
  exact ⟨rfl, rfl⟩

theorem pad_last {d : Dsk} {z : Int} {k : Nat} {y : Wrt} {x0 : List UInt8} (h : d.2[k]? = some y) (hz : y.1 = z) (hl : ∀ q ∈ d.2.drop (k + 1), q.1 ≠ z) : lastOf z x0 d.2 = y.2 := by
  have e : d.2 = d.2.take (k + 1) ++ d.2.drop (k + 1) := (List.take_append_drop _ _).symm
  rw [e]
  unfold lastOf
  rw [List.foldl_append]
  have h1 : List.foldl (fun b (y : Wrt) => if y.1 = z then y.2 else b) x0 (d.2.take (k + 1)) = y.2 := by
    have := lastOf_take (z := z) (x := x0) h
    rw [if_pos hz] at this
    exact this
  rw [h1]
  clear h1 e h
  generalize d.2.drop (k + 1) = r at *
  induction r with
  | nil => rfl
  | cons q r ih =>
    rw [List.foldl_cons, if_neg (hl q (by simp))]
    exact ih fun p hp => hl p (by simp [hp])
theorem none_last {z : Int} {x0 : List UInt8} {ws : List Wrt} (hl : ∀ q ∈ ws, q.1 ≠ z) : lastOf z x0 ws = x0 := by
  induction ws with
  | nil => rfl
  | cons q r ih =>
    show lastOf z (if q.1 = z then q.2 else x0) r = x0
    rw [if_neg (hl q (by simp))]
    exact ih fun p hp => hl p (by simp [hp])

theorem KpC.of_grown {B : Nat} {X Y : World} {row : Option Nat} (hg : X.grownBy Y row) (hr : ∀ r, row = some r → B ≤ r ∧ ∃ o : Obj, X.heap[r]? = some o ∧ o.isCells = false) : KpC X Y := by
  refine ⟨hg.size, fun k o h1 h2 => (hg.block k (Array.getElem?_eq_some_iff.1 h1).1 fun e => ?_).trans h1⟩
  obtain ⟨_, o', h3, h4⟩ := hr k e.symm
  rw [h1] at h3
  cases h3
  rw [h2] at h4
  cases h4
theorem KpC.own {V V' : World} (h : KpC V V') {B : Nat} {v : Value} {xs : List UInt8} (o : OwnB B V v xs) : OwnB B V' v xs := by
  rcases o with ⟨h1, h2 | ⟨g, cap, cur, hv, hB, hg, hr⟩⟩
  · exact ⟨h1, .inl h2⟩
  · exact ⟨h1, .inr ⟨g, cap, cur, hv, hB, h.2 g _ hg rfl, hr⟩⟩
def IG (w2 : World) (z : Int) (pre : List WE) (V : World) : Prop := Below w2.heap.size w2 V ∧ ∀ e ∈ pre, e.y.1 ≠ z
def XG (w : World) (B : Nat) (ws : List Wrt) (z : Int) (c : Code) (pre : List WE) (V : World) : Prop := c = .ret ∧ ∃ (p0 : List WE) (x : WE) (v' : Value) (k : Nat), pre = p0 ++ [x] ∧ x.y.1 = z ∧ (∀ e ∈ p0, e.y.1 ≠ z) ∧ ws[k]? = some x.y ∧ p0.map WE.y = (ws.drop (k + 1)).reverse ∧
  Boxed V (w.heap.size + 1 + 1) 22 v' ∧ Boxed V (w.heap.size + 1 + 1 + 1) 24 (.int .i64 0) ∧ OwnB B V v' (pad x.y.2) ∧ Below w.heap.size w V
def actG (w : World) (sv cv : Value) (z : Int) (g : Nat) (x : WE) (Bx : Nat) : Act := { tmps := #[.agg #[sv, cv], .int .i64 z, .pointer (some ⟨w.heap.size, 0, none⟩), .pointer (some ⟨w.heap.size + 1, 0, none⟩), .pointer (some ⟨w.heap.size + 1 + 1, 0, none⟩), .pointer (some ⟨w.heap.size + 1 + 1 + 1, 0, none⟩), .int .i64 0, .pointer (some ⟨Bx, 0, none⟩), .agg #[sv, cv], .int .i64 z, .int .i64 0, .int .i64 0, .bool false, undef, .pointer (some ⟨w.heap.size, 1, none⟩), cv, .func (.func 69) #[] #[.pointer (some ⟨g, 0, none⟩)], .agg #[.int .i64 x.y.1, x.sv], undef, undef, undef, undef, undef, undef, undef, undef, undef, undef, undef, undef, undef], defers := [] }
def AG (w w2 : World) (sv cv : Value) (ws : List Wrt) (z : Int) (g : Nat) (pre : List WE) (x : WE) (a : Act) (V : World) : Prop :=
  IG w2 z pre V ∧ RW ws pre x V ∧ ∃ Bx, V.heap[Bx]? = some (.cells #[.int .i64 x.y.1, x.sv] 79 (0, 0)) ∧ a = actG w sv cv z g x Bx
theorem IG_own (w2 : World) (z : Int) : OwnFrom w2.heap.size (IG w2 z) := by
  rintro pre X Y row ⟨h1, h2⟩ hg hr
  exact ⟨h1.grown hg h1.size (fun k e => (hr k e).1), h2⟩
theorem XG_own (w w2 : World) (hw : w.heap.size ≤ w2.heap.size) (ws : List Wrt) (z : Int) (c : Code) : OwnFrom w2.heap.size (XG w w2.heap.size ws z c) := by
  rintro pre X Y row ⟨rfl, p0, x, v', k, e1, e2, e3, e4, e5, b1, b2, o, hb⟩ hg hr
  have kp := KpC.of_grown hg hr
  exact ⟨rfl, p0, x, v', k, e1, e2, e3, e4, e5, kp.2 _ _ b1 rfl, kp.2 _ _ b2 rfl, kp.own o, hb.grown hg hb.size (fun k e => by have := (hr k e).1; omega)⟩
theorem AG_own (w w2 : World) (sv cv : Value) (ws : List Wrt) (z : Int) (g : Nat) (pre : List WE) (x : WE) (a : Act) : OwnFrom w2.heap.size (fun (_ : Unit) V => AG w w2 sv cv ws z g pre x a V) := by
  rintro _ X Y row ⟨h1, ⟨h2, h3⟩, Bx, h4, h5⟩ hg hr
  have kp := KpC.of_grown hg hr
  exact ⟨IG_own w2 z pre X Y row h1 hg hr, ⟨kp.rd h2, h3⟩, Bx, kp.2 _ _ h4 rfl, h5⟩
theorem SW_own (ws : List Wrt) (B : Nat) : OwnFrom B (SW ws) := fun _ _ _ _ h _ _ => h

set_option maxHeartbeats 4000000 in
set_option maxRecDepth 100000 in
theorem dget_any (w : World) (sv cv : Value) (d : Dsk) (z : Int) (h1 : RdSec w sv d.1) (h2 : RdC w cv d.2) :
    Calls Try.prog 46 #[.agg #[sv, cv], .int .i64 z] w fun e w' => ∃ v', e = .returned (.tuple #[v', .int .i64 (dget d z).2]) ∧ OwnB w.heap.size w' v' (dget d z).1 ∧ Below w.heap.size w w' := by
  refine (callsIn_wide (n := 5)).1 ?_
  obtain ⟨a1, c1, rfl⟩ := h1.slice
  obtain ⟨a2, c2, rfl⟩ := h2.slice
  obtain ⟨W, hW⟩ : ∃ W, W = (((w.alloc (.cells #[.slice a1 d.1.length c1, .slice a2 d.2.length c2] 43)).alloc (.cells #[.int .i64 z] 3)).alloc (.cells #[.slice none 0 0] 22)).alloc (.cells #[.int .i64 0] 24) := ⟨_, rfl⟩
  have sW : W.heap.size = w.heap.size + 1 + 1 + 1 + 1 := by rw [hW]; simp
  have bW : Below w.heap.size w W := by rw [hW]; exact ((((Below.refl _ _).alloc (Nat.le_refl _) _).alloc (by simp) _).alloc (by simp <;> omega) _).alloc (by simp <;> omega) _
  have hA : W.heap[w.heap.size]? = some (.cells #[.slice a1 d.1.length c1, .slice a2 d.2.length c2] 43 (0, 0)) := by
    rw [hW, Below.heap_alloc _ _ _ (by simp <;> omega), Below.heap_alloc _ _ _ (by simp <;> omega), Below.heap_alloc _ _ _ (by simp)]; exact heap_alloc_last w _
  have hB : Boxed W (w.heap.size + 1) 3 (.int .i64 z) := by
    show W.heap[_]? = _
    rw [hW, Below.heap_alloc _ _ _ (by simp <;> omega), Below.heap_alloc _ _ _ (by simp)]
    have := heap_alloc_last (w.alloc (.cells #[.slice a1 d.1.length c1, .slice a2 d.2.length c2] 43)) (.cells #[.int .i64 z] 3); simpa using this
  have hC : Boxed W (w.heap.size + 1 + 1) 22 (.slice none 0 0) := by
    show W.heap[_]? = _
    rw [hW, Below.heap_alloc _ _ _ (by simp)]
    have := heap_alloc_last ((w.alloc (.cells #[.slice a1 d.1.length c1, .slice a2 d.2.length c2] 43)).alloc (.cells #[.int .i64 z] 3)) (.cells #[.slice none 0 0] 22); simpa using this
  have hD : Boxed W (w.heap.size + 1 + 1 + 1) 24 (.int .i64 0) := by
    show W.heap[_]? = _
    rw [hW]
    have := heap_alloc_last (((w.alloc (.cells #[.slice a1 d.1.length c1, .slice a2 d.2.length c2] 43)).alloc (.cells #[.int .i64 z] 3)).alloc (.cells #[.slice none 0 0] 22)) (.cells #[.int .i64 0] 24); simpa using this
  obtain ⟨A0, A1, _, _⟩ := row2_cells hA
  have q1 := h1.to0 bW
  have q2 := h2.to0 bW
  have B0 := hB.cell
  refine callsIn_of_wp_marks Try.func46 rfl trivial ?_ rfl
  simp only [Try.ntmps46, List.size_toArray, List.length_cons, List.length_nil, Nat.reduceAdd, Nat.reduceSub, Array.replicate_succ, Array.replicate_zero, List.push_toArray, List.append_toArray, List.nil_append, List.cons_append]
  gi_wp2_with fail
  rw [← hW]
  replace hW := hide hW
  refine ⟨trivial, ?_⟩
  refine (callsIn_wide.2 (dsector_any _ _ _ d z q1 q2)).mono ?_
  rintro e w1 ⟨rfl, b1⟩
  have c1w := bW.trans (b1.mono bW.size)
  have hA1 := (b1.block w.heap.size (by omega)).trans hA
  have hB1 : Boxed w1 (w.heap.size + 1) 3 (.int .i64 z) := (b1.block _ (by omega)).trans hB
  have hC1 : Boxed w1 (w.heap.size + 1 + 1) 22 (.slice none 0 0) := (b1.block _ (by omega)).trans hC
  have hD1 : Boxed w1 (w.heap.size + 1 + 1 + 1) 24 (.int .i64 0) := (b1.block _ (by omega)).trans hD
  have hs1 : w.heap.size + 1 + 1 + 1 + 1 ≤ w1.heap.size := by have := b1.size; omega
  clear hA hB hC hD A0 A1 B0 q1 q2 b1 bW
  by_cases hs0 : dsect d z = 0
  · obtain ⟨hok, hh⟩ := dsect_zero.1 hs0
    rw [hs0]
    obtain ⟨A0, A1, _, _⟩ := row2_cells hA1
    have KL := hide (latest_any w1 _ d.2 (h2.to0 c1w))
    gi_wp2_with fail
    refine ⟨trivial, ?_⟩
    refine (callsIn_wide.2 KL.out).mono ?_
    rintro e w2' ⟨rfl, rfl⟩
    clear KL
    obtain ⟨w2, hw2⟩ : ∃ w2, w2 = w1.alloc (.cells #[.slice a2 d.2.length c2] 41) := ⟨_, rfl⟩
    have b2 : Below w1.heap.size w1 w2 := by rw [hw2]; exact (Below.refl _ _).alloc (Nat.le_refl _) _
    have s2 : w2.heap.size = w1.heap.size + 1 := by rw [hw2]; simp
    have bs : Boxed w2 w1.heap.size 41 (.slice a2 d.2.length c2) := by rw [hw2]; exact Boxed.new w1 _ _
    have c2w := c1w.trans (b2.mono c1w.size)
    have hA2 := (b2.block w.heap.size (by omega)).trans hA1
    have hB2 : Boxed w2 (w.heap.size + 1) 3 (.int .i64 z) := (b2.block _ (by omega)).trans hB1
    have hC2 : Boxed w2 (w.heap.size + 1 + 1) 22 (.slice none 0 0) := (b2.block _ (by omega)).trans hC1
    have hD2 : Boxed w2 (w.heap.size + 1 + 1 + 1) 24 (.int .i64 0) := (b2.block _ (by omega)).trans hD1
    have r2 := h2.to0 c2w
    have r1 := h1.to0 c2w
    have HX := hide (And.intro hA2 (And.intro hB2 (And.intro hC2 hD2)))
    have BS := hide bs
    have R2 := hide r2
    have R1 := hide r1
    have C2 := hide c2w
    have HOK := hide (And.intro hok hh)
    obtain ⟨kz, x0, hzk, hkl, hkx⟩ := dhas_nat hh
    have hR : Hid (dget d z = (lastOf z x0 d.2, 0)) := by
      show _ = _; unfold dget; rw [if_neg (by simp [hs0])]
      rw [hzk, show ((kz : Int)).toNat = kz from by omega, getD_some hkx]
    have HKX := hide (And.intro hzk hkx)
    clear hA1 hB1 hC1 hD1 hA2 hB2 hC2 hD2 bs r1 r2 c2w c1w b2 A0 A1 hok hh hs0 hkx h1 h2 hzk
    gi_wp2
    rw [← hw2]
    replace hw2 := hide hw2
    refine wpIn_range_hands rfl (by decide) (gf := 69) (lb := #[.pointer (some ⟨w1.heap.size, 0, none⟩)]) rfl trivial (enters_of Try.func69 (by kernel_rfl) rfl)
      (latest1_hands d.2 _ w2 R2.out w1.heap.size BS.out (5 - 1)) KpC.trans (fun X l o o' _ h1 h2 _ => KpC.put X l o o' h1 h2) (fun _ => rfl) (IG w2 z) (XG w w2.heap.size d.2 z) (AG w w2 (.slice a1 d.1.length c1) (.slice a2 d.2.length c2) d.2 z w1.heap.size)
      (IG_own w2 z) (XG_own w w2 (by omega) d.2 z) (SW_own d.2 _) (AG_own w w2 _ _ d.2 z _) ⟨Below.refl _ _, fun e he => by cases he⟩ ?assign ?body ?done ?stop
    case assign =>
      rintro l pre ⟨y, u⟩ W' K hI hRW hK
      obtain ⟨au, cu, hu⟩ := hRW.1.slice
      dsimp only at hu
      subst hu
      have hk := hK (actG w (.slice a1 d.1.length c1) (.slice a2 d.2.length c2) z w1.heap.size ⟨y, .slice au y.2.length cu⟩ W'.heap.size) (W'.alloc (.cells #[.int .i64 y.1, .slice au y.2.length cu] 79)) ((KeepsOthers.alloc _ _).from _) (KpC.alloc _ _)
        ⟨(IG_own w2 z).alloc _ hI, ⟨(KpC.alloc W' _).rd hRW.1, hRW.2⟩, W'.heap.size, heap_alloc_last W' _, rfl⟩
      have HK := hide hk
      clear hk hK hI hRW
      dsimp only [encWE]
      gi_wp2
      exact HK.out
    case body =>
      rintro l pre ⟨y, u⟩ a' W' hl ⟨⟨hBel, hne⟩, ⟨hrd, k, hk1, hk2, hk3⟩, Bx, hBx, rfl⟩
      obtain ⟨au, cu, hu⟩ := hrd.slice
      dsimp only at hu
      subst hu
      obtain ⟨x0', x1', _, _⟩ := row2_cells hBx
      have zb : Boxed W' (w.heap.size + 1) 3 (.int .i64 z) := (hBel.block _ (by omega)).trans HX.out.2.1
      have zc := zb.cell
      have cb : Boxed W' (w.heap.size + 1 + 1) 22 (.slice none 0 0) := (hBel.block _ (by omega)).trans HX.out.2.2.1
      have db : Boxed W' (w.heap.size + 1 + 1 + 1) 24 (.int .i64 0) := (hBel.block _ (by omega)).trans HX.out.2.2.2
      dsimp only at hrd hk2 x0' x1'
      obtain ⟨yz, yx⟩ := y
      dsimp only at hrd hk2 x0' x1'
      by_cases he : yz = z
      · have hbe : (yz == z) = true := by simp [he]
        have KS := hide (sectorOf_any W' _ yx hrd)
        have HALL := hide (And.intro hBel (And.intro hne (And.intro hk2 (And.intro hk3 (And.intro cb (And.intro db he))))))
        clear hBel hne hk1 hk2 hk3 cb db zb hrd hBx he
        dsimp only [actG]
        gi_wp2_with fail
        refine ⟨trivial, ?_⟩
        refine (callsIn_wide.2 KS.out).mono ?_
        rintro e w5 ⟨v5, rfl, o5, b5⟩
        obtain ⟨hBel, hne, hk2, hk3, cb, db, he⟩ := HALL.out
        have cb5 : Boxed w5 (w.heap.size + 1 + 1) 22 (.slice none 0 0) := (b5.block _ (by have := hBel.size; omega)).trans cb
        have db5 : Boxed w5 (w.heap.size + 1 + 1 + 1) 24 (.int .i64 0) := (b5.block _ (by have := hBel.size; omega)).trans db
        have p1 := cb5.cell
        have p2 := cb5.frozen
        have p3 := (db5.other (by omega : w.heap.size + 1 + 1 + 1 ≠ w.heap.size + 1 + 1) v5).cell
        have p4 := (db5.other (by omega : w.heap.size + 1 + 1 + 1 ≠ w.heap.size + 1 + 1) v5).frozen
        obtain ⟨av, cv5, hv5⟩ := o5.rd.slice
        have hX : Hid (XG w w2.heap.size d.2 z .ret (pre ++ [⟨(yz, yx), .slice au yx.length cu⟩]) ((w5.setCell ⟨w.heap.size + 1 + 1, 0, none⟩ v5).setCell ⟨w.heap.size + 1 + 1 + 1, 0, none⟩ (.int .i64 0))) := by
          refine ⟨rfl, pre, _, v5, k, rfl, he, hne, hk2, hk3, ?_, ?_, ?_, ?_⟩
          · exact (cb5.set v5).other (by omega : w.heap.size + 1 + 1 ≠ w.heap.size + 1 + 1 + 1) _
          · exact (db5.other (by omega : w.heap.size + 1 + 1 + 1 ≠ w.heap.size + 1 + 1) v5).set _
          · exact (own_set (own_set (o5.mono hBel.size) (g := w.heap.size + 1 + 1) (by omega) 0 v5) (g := w.heap.size + 1 + 1 + 1) (by omega) 0 _)
          · have cc := C2.out.trans ((hBel.mono (show w.heap.size ≤ w2.heap.size by omega)).trans (b5.mono (by have := hBel.size; omega)))
            exact (cc.setCell (p := ⟨w.heap.size + 1 + 1, 0, none⟩) (by show w.heap.size ≤ w.heap.size + 1 + 1; omega) _).setCell (p := ⟨w.heap.size + 1 + 1 + 1, 0, none⟩) (by show w.heap.size ≤ w.heap.size + 1 + 1 + 1; omega) _
        have hKF : Hid (KeepsFrom w2.heap.size W' ((w5.setCell ⟨w.heap.size + 1 + 1, 0, none⟩ v5).setCell ⟨w.heap.size + 1 + 1 + 1, 0, none⟩ (.int .i64 0))) := by
          have k1 : KeepsOthers W' w5 := ⟨b5.size, fun k o h _ => (b5.block k (Array.getElem?_eq_some_iff.1 h).1).trans h⟩
          exact ((k1.trans (KeepsOthers.setCell _ _ _)).trans (KeepsOthers.setCell _ _ _)).from _
        clear cb5 db5 o5 b5 hBel hne hk2 hk3 cb db he HALL KS
        subst hv5
        gi_wp2
        exact ⟨hKF.out, hX.out⟩
      · have hbe : (yz == z) = false := by simpa using he
        have HI : Hid (IG w2 z (pre ++ [⟨(yz, yx), .slice au yx.length cu⟩]) W') := ⟨hBel, fun e he' => by
          rcases List.mem_append.1 he' with h | h
          · exact hne e h
          · obtain rfl : e = _ := by simpa using h
            exact he⟩
        clear hBel hne hk1 hk2 hk3 cb db zb hrd hBx he
        dsimp only [actG]
        gi_wp2
        exact ⟨KeepsFrom.refl _ _, ⟨Nat.le_refl _, fun _ _ h _ => h⟩, HI.out⟩
    case done =>
      rintro D xs W' hD hSW ⟨hBel, hne⟩ hK
      obtain ⟨rfl, hkx⟩ := HKX.out
      have hall : ∀ q ∈ d.2, q.1 ≠ (kz : Int) := by
        intro q hq
        have hm : q ∈ xs.map WE.y := by rw [hSW]; simpa using hq
        obtain ⟨e, he, rfl⟩ := List.mem_map.1 hm
        exact hne e he
      have hlast := none_last (x0 := x0) hall
      have hx64 := HOK.out.1.2.2.2.1 x0 (List.mem_of_getElem? hkx)
      rw [hlast] at hR
      obtain ⟨b1, o1, u, rfl, hc, hr⟩ := (R1.out.to0 hBel).oct hkx
      obtain ⟨au, cu, rfl⟩ := hr.slice
      have hA' := (hBel.block w.heap.size (by omega)).trans HX.out.1
      obtain ⟨A0, A1, _, _⟩ := row2_cells hA'
      have zb : Boxed W' (w.heap.size + 1) 3 (.int .i64 (kz : Int)) := (hBel.block _ (by omega)).trans HX.out.2.1
      have zc := zb.cell
      have cb : Boxed W' (w.heap.size + 1 + 1) 22 (.slice none 0 0) := (hBel.block _ (by omega)).trans HX.out.2.2.1
      have db : Boxed W' (w.heap.size + 1 + 1 + 1) 24 (.int .i64 0) := (hBel.block _ (by omega)).trans HX.out.2.2.2
      have KS := hide (sectorOf_any W' _ x0 hr)
      rw [pad_id hx64] at KS
      have hq : (kz : Int) < (d.1.length : Int) := by omega
      have HALL := hide (And.intro hBel (And.intro cb (And.intro db hK)))
      clear hBel hne hSW cb db hK zb hr hall hlast hx64 hkx hA'
      gi_wp2_with fail
      refine ⟨trivial, ?_⟩
      refine (callsIn_wide.2 KS.out).mono ?_
      rintro e w5 ⟨v5, rfl, o5, b5⟩
      obtain ⟨hBel, cb, db, hK⟩ := HALL.out
      have hDl : D < W'.heap.size := (Array.getElem?_eq_some_iff.1 hK).1
      have hDw : w.heap.size + 1 + 1 + 1 + 1 ≤ D := by omega
      have hK5 := (b5.block D hDl).trans hK
      have cb5 : Boxed w5 (w.heap.size + 1 + 1) 22 (.slice none 0 0) := (b5.block _ (by have := hBel.size; omega)).trans cb
      have db5 : Boxed w5 (w.heap.size + 1 + 1 + 1) 24 (.int .i64 0) := (b5.block _ (by have := hBel.size; omega)).trans db
      have p1 := cb5.cell
      have p2 := cb5.frozen
      have p3 := (db5.other (by omega : w.heap.size + 1 + 1 + 1 ≠ w.heap.size + 1 + 1) v5).cell
      have p4 := (db5.other (by omega : w.heap.size + 1 + 1 + 1 ≠ w.heap.size + 1 + 1) v5).frozen
      have hK6 : ((w5.setCell ⟨w.heap.size + 1 + 1, 0, none⟩ v5).setCell ⟨w.heap.size + 1 + 1 + 1, 0, none⟩ (.int .i64 0)).heap[D]? = some (.deferred (some [])) := by
        rw [Below.heap_setCell _ _ _ _ (by show D ≠ w.heap.size + 1 + 1 + 1; omega), Below.heap_setCell _ _ _ _ (by show D ≠ w.heap.size + 1 + 1; omega)]; exact hK5
      have e1 : Boxed ((w5.setCell ⟨w.heap.size + 1 + 1, 0, none⟩ v5).setCell ⟨w.heap.size + 1 + 1 + 1, 0, none⟩ (.int .i64 0)) (w.heap.size + 1 + 1) 22 v5 := (cb5.set v5).other (by omega : w.heap.size + 1 + 1 ≠ w.heap.size + 1 + 1 + 1) _
      have e2 : Boxed ((w5.setCell ⟨w.heap.size + 1 + 1, 0, none⟩ v5).setCell ⟨w.heap.size + 1 + 1 + 1, 0, none⟩ (.int .i64 0)) (w.heap.size + 1 + 1 + 1) 24 (.int .i64 0) := (db5.other (by omega : w.heap.size + 1 + 1 + 1 ≠ w.heap.size + 1 + 1) v5).set _
      have e3 := own_set (own_set (o5.mono hBel.size) (g := w.heap.size + 1 + 1) (by omega) 0 v5) (g := w.heap.size + 1 + 1 + 1) (by omega) 0 (.int .i64 0)
      have cc := C2.out.trans ((hBel.mono (show w.heap.size ≤ w2.heap.size by omega)).trans (b5.mono (by have := hBel.size; omega)))
      have e4 := (cc.setCell (p := ⟨w.heap.size + 1 + 1, 0, none⟩) (by show w.heap.size ≤ w.heap.size + 1 + 1; omega) v5).setCell (p := ⟨w.heap.size + 1 + 1 + 1, 0, none⟩) (by show w.heap.size ≤ w.heap.size + 1 + 1 + 1; omega) (.int .i64 0)
      have FIN := hide (And.intro hK6 (And.intro e1 (And.intro e2 (And.intro e3 e4))))
      obtain ⟨av, cv5, hv5⟩ := o5.rd.slice
      clear hK6 e1 e2 e3 e4 cc cb5 db5 o5 b5 hBel cb db hK hK5 HALL KS
      subst hv5
      gi_wp2
      obtain ⟨hK6, e1, e2, e3, e4⟩ := FIN.out
      have kp := KpC.put _ D _ (.deferred none) hK6 rfl
      refine ⟨by simp, .inl ⟨_, _, rfl, run_takeDeferred hK6, ?_⟩⟩
      refine ⟨_, results_boxes rfl _ _ _ _ _ _ _ _ rfl rfl Try.underlying22 Try.underlying24 rfl rfl (kp.cell e1.cell) (kp.cell e2.cell), ?_⟩
      rw [hR.out]
      exact ⟨_, rfl, (kp.own e3).mono (by omega), e4.trans ⟨rfl, rfl, rfl, by simp [World.putObj], fun k hk => World.putObj_heap_other (by omega)⟩⟩
    case stop =>
      rintro D c pre W' hD ⟨rfl, p0, x, v', k, e1, e2, e3, e4, e5, b1, b2, o, hb⟩ hK
      have hlast : lastOf z x0 d.2 = x.y.2 := pad_last e4 e2 (fun q hq => by
        have hm : q ∈ p0.map WE.y := by rw [e5]; simpa using hq
        obtain ⟨e, he, rfl⟩ := List.mem_map.1 hm
        exact e3 e he)
      have hx64 := (HOK.out.1.2.2.2.2 x.y (List.mem_of_getElem? e4)).2
      rw [pad_id hx64] at o
      rw [hlast] at hR
      gi_wp2
      have kp := KpC.put _ D _ (.deferred none) hK rfl
      refine ⟨by simp, .inl ⟨_, _, rfl, run_takeDeferred hK, ?_⟩⟩
      refine ⟨_, results_boxes rfl _ _ _ _ _ _ _ _ rfl rfl Try.underlying22 Try.underlying24 rfl rfl (kp.cell b1.cell) (kp.cell b2.cell), ?_⟩
      rw [hR.out]
      exact ⟨_, rfl, (kp.own o).mono (by omega), hb.trans ⟨rfl, rfl, rfl, by simp [World.putObj], fun k hk => World.putObj_heap_other (by omega)⟩⟩
  · have hne : (dsect d z != 0) = true := by simpa using hs0
    have hR : Hid (dget d z = ([], dsect d z)) := by show _ = _; unfold dget; rw [if_pos hs0]
    generalize hDD : dsect d z = D at *
    have cc := hC1.cell
    have cf := hC1.frozen
    have dc := hD1.cell
    have df := hD1.frozen
    have cb5 := (hC1.set (.slice none 0 0)).other (by omega : w.heap.size + 1 + 1 ≠ w.heap.size + 1 + 1 + 1) (.int .i64 D)
    have db5 := (hD1.other (by omega : w.heap.size + 1 + 1 + 1 ≠ w.heap.size + 1 + 1) (.slice none 0 0)).set (.int .i64 D)
    have cc5 := (c1w.setCell (p := ⟨w.heap.size + 1 + 1, 0, none⟩) (by show w.heap.size ≤ w.heap.size + 1 + 1; omega) (.slice none 0 0)).setCell (p := ⟨w.heap.size + 1 + 1 + 1, 0, none⟩) (by show w.heap.size ≤ w.heap.size + 1 + 1 + 1; omega) (.int .i64 D)
    have HX := hide (And.intro cb5 (And.intro db5 cc5))
    clear hDD hs0 cb5 db5 cc5
    gi_wp2
    refine ⟨_, results_boxes rfl _ _ _ _ _ _ _ _ rfl rfl Try.underlying22 Try.underlying24 rfl rfl HX.out.1.cell HX.out.2.1.cell, ?_⟩
    rw [hR.out]
    exact ⟨_, rfl, World.ownsRow_nil _ _ _ _, HX.out.2.2⟩

end Go.Proofs.Ytliileemelcllaa
