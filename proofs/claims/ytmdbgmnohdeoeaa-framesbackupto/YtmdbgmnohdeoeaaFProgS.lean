/-
  The program's whole (an iterator over the frames with which octets begin) and Scan.
-/
import Derived.RangeFuncBox
import Derived.RangeFuncBound
import Derived.RangeFuncLeaves
import Derived.Shelf.Abstract
import Derived.Shelf.RegionOpen
import Derived.OwnWalkIn
import Derived.TacticsInMore
import Derived.LoopNIn
import Derived.LoopIn
import Derived.Test.YtmdbgmnohdeoeaaRHand
import Derived.Test.YtmdbgmnohdeoeaaFList
import Derived.Test.YtmdbgmnohdeoeaaFProgO
namespace Go.Proofs.Ytmdbgmnohdeoeaa
open Go.RowKit Go.Shelf
attribute [local go_sem] Oper.semAt_some
set_option linter.unusedVariables false

/-- a frame that is handed out: what it is, where its octets lie, where it ends -/
structure FE where
  f : Frm
  sv : Value
  e : Int
def encFE (x : FE) : Array Value := #[.agg #[.int .u8 (x.f.1.toNat : Int), x.sv], .int .i64 x.e]
/-- what a round keeps: all that lay below B, octets, and what holds a slice of octets -/
def KpF (B : Nat) (V V' : World) : Prop := V.heap.size ≤ V'.heap.size ∧ ∀ k, (k < B ∨ ∃ cur t fz, V.heap[k]? = some (.cells cur t fz) ∧ (t = 5 ∨ t = 22)) → k < V.heap.size → V'.heap[k]? = V.heap[k]?
theorem KpF.trans {B : Nat} {X Y Z : World} (h : KpF B X Y) (k : KpF B Y Z) : KpF B X Z := by
  refine ⟨Nat.le_trans h.1 k.1, fun i hi hl => ?_⟩
  have e := h.2 i hi hl
  refine (k.2 i ?_ (Nat.lt_of_lt_of_le hl h.1)).trans e
  rcases hi with hi | ⟨cur, t, fz, hc, ht⟩
  · exact .inl hi
  · exact .inr ⟨cur, t, fz, e.trans hc, ht⟩
theorem KpF.put {B : Nat} {w : World} (hB : B ≤ w.heap.size) (W : World) (l : Nat) (o o' : Obj) (hl : w.heap.size ≤ l) (h : W.heap[l]? = some o) (ho : o.isCells = false) (_ : o.isWalk = false) : KpF B W (W.putObj l o') := by
  refine ⟨by simp [World.putObj], fun k hk _ => World.putObj_heap_other ?_⟩
  rintro rfl
  rcases hk with hk | ⟨cur, t, fz, hc, _⟩
  · omega
  · rw [h] at hc; cases hc; cases ho
theorem KpF.of_grownBy {B : Nat} {W W' : World} {row : Option Nat} (hg : W.grownBy W' row) (hr : ∀ g, row = some g → B ≤ g ∧ ∀ cur t fz, W.heap[g]? = some (.cells cur t fz) → t ≠ 5 ∧ t ≠ 22) : KpF B W W' := by
  refine ⟨hg.size, fun k hk hl => hg.block k hl ?_⟩
  intro e
  obtain ⟨h1, h2⟩ := hr k e.symm
  rcases hk with hk | ⟨cur, t, fz, hc, ht⟩
  · omega
  · have := h2 _ _ _ hc
    rcases ht with ht | ht
    · exact this.1 ht
    · exact this.2 ht
theorem KpF.own {B : Nat} {W W' : World} (h : KpF B W W') {v : Value} {xs : List UInt8} (o : OwnB B W v xs) : OwnB B W' v xs := by
  rcases o with ⟨h1, h2 | ⟨g, cap, cur, hv, hB, hg, hr⟩⟩
  · exact ⟨h1, .inl h2⟩
  · exact ⟨h1, .inr ⟨g, cap, cur, hv, hB, (h.2 g (.inr ⟨_, _, _, hg, .inl rfl⟩) (lt_of_block hg)).trans hg, hr⟩⟩

def RF (b : List UInt8) (B : Nat) (pre : List FE) (x : FE) (V : World) : Prop := OwnB B V x.sv x.f.2 ∧ ∃ p : Nat, x.e = (p : Int) ∧ stt b (pre.length + 1) = some ((pre ++ [x]).map FE.f, p)
/-- where the last one ends -/
def endF : List FE → Int
  | [] => 0
  | [x] => x.e
  | _ :: y :: r => endF (y :: r)
theorem endF_snoc (pre : List FE) (x : FE) : endF (pre ++ [x]) = x.e := by
  induction pre with
  | nil => rfl
  | cons y r ih =>
    cases r with
    | nil => rfl
    | cons z r => exact ih
def SF (b : List UInt8) (B : Nat) (xs : List FE) (V : World) : Prop := (∀ x ∈ xs, OwnB B V x.sv x.f.2) ∧ ∃ p : Nat, endF xs = (p : Int) ∧ ScEnd b (xs.map FE.f) p

/-- what the iterator knows between two rounds -/
def ItF (w : World) (b : List UInt8) (Bs : Nat) (v : Value) (pre : List FE) (p : Nat) (V : World) : Prop :=
  (∀ k, k < w.heap.size → V.heap[k]? = w.heap[k]?) ∧ w.heap.size ≤ V.heap.size ∧ Boxed V Bs 22 v ∧ (∀ x ∈ pre, OwnB w.heap.size V x.sv x.f.2) ∧ endF pre = (p : Int) ∧ stt b pre.length = some (pre.map FE.f, p)
theorem rd_blocks {w V : World} {v : Value} {xs : List UInt8} (h : Rd w v xs) (hk : ∀ k, k < w.heap.size → V.heap[k]? = w.heap[k]?) : Rd V v xs := by
  obtain ⟨ao, cap, rfl, h1, h2, h3, h4⟩ := h
  refine ⟨ao, cap, rfl, h1, h2, h3, ?_⟩
  rcases h4 with h4 | ⟨b, off, rfl, hc⟩
  · exact .inl h4
  · refine .inr ⟨b, off, rfl, fun i hi => ?_⟩
    have := hc i hi
    rw [← this]
    exact World.cell?_of_block (hk b (cell_lt this))
theorem ItF.grown {w V V' : World} {b : List UInt8} {Bs p : Nat} {v : Value} {pre : List FE} (h : ItF w b Bs v pre p V) (hb : Below V.heap.size V V') : ItF w b Bs v pre p V' := by
  obtain ⟨h1, h2, h3, h4, h5⟩ := h
  refine ⟨fun k hk => (hb.block k (by omega)).trans (h1 k hk), Nat.le_trans h2 hb.size, (hb.block Bs h3.lt).trans h3, fun x hx => (h4 x hx).below (Nat.le_refl _) hb, h5⟩
theorem ItF.round {w V V' : World} {b : List UInt8} {Bs p : Nat} {v : Value} {pre : List FE} (h : ItF w b Bs v pre p V) (hb : KpF w.heap.size V V') : ItF w b Bs v pre p V' := by
  obtain ⟨h1, h2, h3, h4, h5⟩ := h
  refine ⟨fun k hk => (hb.2 k (.inl hk) (by omega)).trans (h1 k hk), Nat.le_trans h2 hb.1, (hb.2 Bs (.inr ⟨_, _, _, h3, .inr rfl⟩) h3.lt).trans h3, fun x hx => hb.own (h4 x hx), h5⟩
theorem grown_of {V V' : World} (hb : Below V.heap.size V V') : V.grownBy V' none := ⟨hb.os, hb.tape, hb.output, hb.size, fun k hk _ => hb.block k hk⟩
theorem fe_len {b : List UInt8} {pre : List FE} {p : Nat} (h : stt b pre.length = some (pre.map FE.f, p)) : p ≤ b.length ∧ 8 * pre.length ≤ p := (stt_len b _ h).2

set_option maxHeartbeats 2000000 in
set_option maxRecDepth 100000 in
theorem whole1_hands (w : World) (v : Value) (b : List UInt8) (hrd : Rd w v b) (hm : b.length ≤ 16777216) (W0 : World) (hb0 : Below w.heap.size w W0) (Bs : Nat) (bs : Boxed W0 Bs 22 v) (n : Nat) :
    Hands Fence.wide n Try.prog 35 #[.pointer (some ⟨Bs, 0, none⟩)] encFE (KpF w.heap.size) (RF b w.heap.size) (SF b w.heap.size) W0 := by
  intro l J Jx W hW hJ hJx hY h0
  obtain ⟨ao, cap, rfl⟩ := hrd.slice
  have hcap : b.length ≤ cap := by obtain ⟨_, _, e, l, _⟩ := hrd; cases e; exact l
  have i0 : ItF w b Bs (.slice ao b.length cap) [] 0 W := by
    have hbW := hb0.trans (hW.mono hb0.size)
    exact ⟨hbW.block, hbW.size, (hW.block Bs bs.lt).trans bs, (fun x hx => by cases hx), rfl, rfl⟩
  have I0 := hide i0
  clear i0 hb0 bs hW
  refine callsIn_of_wp Try.func35 rfl trivial ?_ rfl
  simp only [Try.ntmps35, List.size_toArray, List.length_cons, List.length_nil, Nat.reduceAdd, Nat.reduceSub, Array.replicate_succ, Array.replicate_zero, List.push_toArray, List.append_toArray, List.nil_append, List.cons_append]
  gi_wp2
  gi_loopw [3] (fun i wr => ∃ (pre : List FE) (p : Nat), i = .int .i64 p ∧ p ≤ b.length ∧ Hid (ItF w b Bs (.slice ao b.length cap) pre p wr) ∧ J pre wr) (fun i _ => b.length - (intOf i).toNat)
  case atStart => exact ⟨[], 0, rfl, Nat.zero_le _, I0, h0⟩
  case round =>
    obtain ⟨pre, p, rfl, hp, hit, hJs⟩ := hrel
    obtain ⟨A, hA, rp⟩ := rd_cut (rd_blocks hrd hit.out.1) hp (Nat.le_refl _)
    rw [List.take_of_length_le (Nat.le_refl _)] at rp
    have cb := hit.out.2.2.1.cell
    have y3 : (p : Int) ≤ (b.length : Int) := by omega
    have y4 : (b.length : Int) ≤ (cap : Int) := by omega
    have hl : (b.drop p).length ≤ 140737488351232 := by simp; omega
    have HJ := hide hJs
    have RP := hide rp
    clear hJs rp
    gi_wp2_with fail
    refine ⟨trivial, (fun h => by cases h), ?_⟩
    refine (callsIn_wide.2 (fopen_any _ _ (b.drop p) RP.out hl)).mono ?_
    rintro e w1 ⟨sv, rfl, o1, b1⟩
    obtain ⟨sa, cs, rfl⟩ := o1.rd.slice
    obtain ⟨f1, f2, f3⟩ := fopen_le (b.drop p)
    have c1 : Below w1.heap.size w1 (w1.alloc (.cells #[.int .u8 ((fopen (b.drop p)).2.1.1.toNat : Int), .slice sa (fopen (b.drop p)).2.1.2.length cs] 29)) := (Below.refl _ _).alloc (Nat.le_refl _) _
    obtain ⟨W2, hW2⟩ : ∃ W2, W2 = w1.alloc (.cells #[.int .u8 ((fopen (b.drop p)).2.1.1.toNat : Int), .slice sa (fopen (b.drop p)).2.1.2.length cs] 29) := ⟨_, rfl⟩
    rw [← hW2] at c1
    have b2 : Below wr.heap.size wr W2 := b1.trans (c1.mono b1.size)
    have hit2 := hit.out.grown b2
    have HJ2 := hide (hJ _ _ _ HJ.out (grown_of b2))
    have o2 := (o1.below (Nat.le_refl _) c1).mono hit.out.2.1
    have hst := hit.out.2.2.2.2.2
    by_cases h0 : (fopen (b.drop p)).1 = 0
    · have hstep := stt_step hst h0
      have h8 := f3 h0
      rw [List.length_drop] at f1
      have d0 : W2.cell? ⟨w1.heap.size, 0, none⟩ = some (.int .u8 ((fopen (b.drop p)).2.1.1.toNat : Int)) := by rw [hW2, cell_of_row _ _ 0 _ _ (0, 0) (heap_alloc_last w1 _)]; rfl
      have d1 : W2.cell? ⟨w1.heap.size, 1, none⟩ = some (.slice sa (fopen (b.drop p)).2.1.2.length cs) := by rw [hW2, cell_of_row _ _ 1 _ _ (0, 0) (heap_alloc_last w1 _)]; rfl
      generalize (fopen (b.drop p)).2.2 = t at *
      generalize (fopen (b.drop p)).2.1 = f at *
      generalize (fopen (b.drop p)).1 = er at *
      subst h0
      have hx : RF b w.heap.size pre ⟨f, .slice sa f.2.length cs, (p : Int) + (t : Int)⟩ W2 := ⟨o2, p + t, by simp, by simpa using hstep⟩
      have Y := hY pre ⟨f, .slice sa f.2.length cs, (p : Int) + (t : Int)⟩ W2 HJ2.out hx
      obtain ⟨fn, tmps, assign, body, hy, hR⟩ := Y
      dsimp only [encFE] at hy
      have HS := hide hstep
      have HIT := hide hit2
      have HO := hide o2
      clear hstep hit2 o2 hx hst hit HJ HJ2 RP hA o1 b1 b2 c1 hY
      rw [hW2] at hy
      gi_wp2
      rw [← hW2]
      replace hW2 := hide hW2
      clear d0 d1 cb
      refine ⟨(fun h => by cases h), hR.mono ?_⟩
      rintro e W3 (⟨rfl, hJ3, hk3⟩ | ⟨rfl, hJx3⟩)
      · have hit3 := HIT.out.round hk3
        have o3 := hk3.own HO.out
        have fin : ItF w b Bs (.slice ao b.length cap) (pre ++ [⟨f, .slice sa f.2.length cs, (p : Int) + (t : Int)⟩]) (p + t) W3 := by
          obtain ⟨h1, h2, h3, h4, h5, h6⟩ := hit3
          refine ⟨h1, h2, h3, ?_, by rw [endF_snoc]; simp, by simpa using HS.out⟩
          intro x hx
          rcases List.mem_append.1 hx with hx | hx
          · exact h4 x hx
          · obtain rfl : x = _ := by simpa using hx
            exact o3
        have FIN := hide fin
        have HJ3 := hide hJ3
        clear fin hit3 o3 hJ3 hk3 HIT HO HS hR hy
        gi_wp2
        go_roundw
        case rel => exact ⟨pre ++ [⟨f, .slice sa f.2.length cs, (p : Int) + (t : Int)⟩], p + t, by simp, by omega, FIN, HJ3.out⟩
        case measure => simp [intOf]; omega
      · gi_wp2
        refine bodyPost_ret (results_none rfl _ _ _) rfl ?_
        exact ⟨⟨_, rfl⟩, .inr ⟨_, hJx3⟩⟩
    · have hne : (((fopen (b.drop p)).1 : Nat) : Int) ≠ 0 := by omega
      have hend : SF b w.heap.size pre W2 := ⟨hit2.2.2.2.1, p, hit2.2.2.2.2.1, by rw [List.length_map]; exact hst, h0⟩
      have HE := hide hend
      have hd : ((((fopen (b.drop p)).1 : Nat) : Int) != 0) = true := by simp only [bne_iff_ne]; exact hne
      clear hend hne hit2 hst o2 o1 b1 b2 c1 hit RP hY
      generalize (fopen (b.drop p)).2.2 = t at *
      generalize (fopen (b.drop p)).2.1 = f at *
      generalize (fopen (b.drop p)).1 = er at *
      gi_wp2
      rw [← hW2]
      refine bodyPost_ret (results_none rfl _ _ _) rfl ?_
      exact ⟨⟨_, rfl⟩, .inl ⟨_, HE.out, HJ2.out⟩⟩

set_option maxHeartbeats 1000000 in
theorem whole_any (w : World) (v : Value) (b : List UInt8) (hrd : Rd w v b) : Calls Try.prog 30 #[v] w fun e w' => e = .returned (.func (.func 35) #[] #[.pointer (some ⟨w.heap.size, 0, none⟩)]) ∧ w' = w.alloc (.cells #[v] 22) := by
  obtain ⟨ao, cap, rfl⟩ := hrd.slice
  go_enter Try.func30, Try.ntmps30
  go_wp2
  go_ret
  exact ⟨rfl, rfl⟩

/-- the caller's own cells between two rounds: the list, and how far -/
def IF (w : World) (pre : List FE) (V : World) : Prop :=
  (∃ v, Boxed V w.heap.size 36 v ∧ V.ownsRow w.heap.size 29 2 v pre.length (fcells (pre.map FE.f) (pre.map FE.sv))) ∧ Boxed V (w.heap.size + 1) 3 (.int .i64 (endF pre)) ∧ Below w.heap.size w V
theorem IF_own (w : World) (B : Nat) (hB : w.heap.size ≤ B) : OwnFrom B (IF w) := by
  rintro pre X Y row ⟨⟨v, h1, h2⟩, h3, h4⟩ hg hr
  have hr' : ∀ r, row = some r → ∃ o : Obj, X.heap[r]? = some o ∧ o.isCells = false := fun r e => (hr r e).2
  refine ⟨⟨v, boxed_own _ _ (fun (_ : Unit) => v) () X Y row h1 hg hr', ?_⟩, boxed_own _ _ (fun (_ : Unit) => Value.int .i64 (endF pre)) () X Y row h3 hg hr', h4.grown hg (by have := h4.size; omega) (fun k e => by have := (hr k e).1; omega)⟩
  refine h2.kept hg ?_
  rcases h2.2 with ⟨rfl, _⟩ | ⟨g, cap, cur, rfl, _, hgb, _⟩
  · exact .inl rfl
  · refine .inr fun e' => ?_
    obtain ⟨o, ho, hc⟩ := hr' g (by simpa [Value.ownBlock] using e'.symm)
    rw [hgb] at ho; cases ho; cases hc

theorem info_frame_p : (Try.prog.info? 29).map (fun i => (i.zero, i.size, i.bytes)) = some (some (.agg #[.int .u8 0, .slice none 0 0]), 2, 32) := by kernel_rfl

theorem scan_step {w W w1 : World} {pre : List FE} {x : FE} {v v' : Value} {tmp : Obj} (bx : Boxed W w.heap.size 36 v) (hrow : W.ownsRow w.heap.size 29 2 v pre.length (fcells (pre.map FE.f) (pre.map FE.sv)))
    (bt' : Boxed W (w.heap.size + 1) 3 (.int .i64 (endF pre))) (hB : Below w.heap.size w W) (hown : w1.ownsRow w.heap.size 29 2 v' (pre.length + 1) (fcells (pre.map FE.f) (pre.map FE.sv) ++ [.int .u8 (x.f.1.toNat : Int), x.sv]))
    (hgrow : (W.alloc tmp).grownBy w1 v.ownBlock) :
    (Boxed w1 w.heap.size 36 v ∧ Boxed (w1.setCell ⟨w.heap.size, 0, none⟩ v') (w.heap.size + 1) 3 (.int .i64 (endF pre))) ∧
    Hid (KeepsOthers W ((w1.setCell ⟨w.heap.size, 0, none⟩ v').setCell ⟨w.heap.size + 1, 0, none⟩ (.int .i64 x.e)) ∧ KpF w.heap.size W ((w1.setCell ⟨w.heap.size, 0, none⟩ v').setCell ⟨w.heap.size + 1, 0, none⟩ (.int .i64 x.e)) ∧
      IF w (pre ++ [x]) ((w1.setCell ⟨w.heap.size, 0, none⟩ v').setCell ⟨w.heap.size + 1, 0, none⟩ (.int .i64 x.e))) := by
  obtain ⟨h1, h2, h3, h4, h5⟩ := bx.appended (by decide) hrow hB.size (Nat.le_refl _) hown hgrow
  have t1 : Boxed w1 (w.heap.size + 1) 3 (.int .i64 (endF pre)) := (bt'.alloc tmp).kept hgrow (bt'.not_row (by decide) hrow)
  have t2 := t1.other (by omega : w.heap.size + 1 ≠ w.heap.size) v'
  refine ⟨⟨h1, t2⟩, h4.trans (KeepsOthers.setCell _ _ _), ?_, ?_⟩
  · have k1 : KpF w.heap.size W (W.alloc tmp) := KpF.of_grownBy (World.grownBy_alloc W tmp none) (fun g e => by cases e)
    have k2 : KpF w.heap.size (W.alloc tmp) w1 := KpF.of_grownBy hgrow fun g e => by
      rcases (hrow.alloc tmp).2 with ⟨rfl, _⟩ | ⟨g', cap, cur, rfl, hb, hgb, _⟩
      · cases e
      · obtain rfl : g' = g := by simpa [Value.ownBlock] using e
        refine ⟨hb, fun cur' t fz hc => ?_⟩
        rw [hgb] at hc; cases hc
        exact ⟨by decide, by decide⟩
    have k3 : KpF w.heap.size w1 (w1.setCell ⟨w.heap.size, 0, none⟩ v') := KpF.of_grownBy (grownBy_setCell' w1 _ v') fun g e => by
      obtain rfl : w.heap.size = g := by simpa using e
      refine ⟨Nat.le_refl _, fun cur t fz hc => ?_⟩
      rw [show w1.heap[w.heap.size]? = _ from h1] at hc; cases hc
      exact ⟨by decide, by decide⟩
    have k4 : KpF w.heap.size (w1.setCell ⟨w.heap.size, 0, none⟩ v') ((w1.setCell ⟨w.heap.size, 0, none⟩ v').setCell ⟨w.heap.size + 1, 0, none⟩ (.int .i64 x.e)) := KpF.of_grownBy (grownBy_setCell' _ _ _) fun g e => by
      obtain rfl : w.heap.size + 1 = g := by simpa using e
      refine ⟨by omega, fun cur t fz hc => ?_⟩
      rw [show (w1.setCell ⟨w.heap.size, 0, none⟩ v').heap[w.heap.size + 1]? = _ from t2] at hc; cases hc
      exact ⟨by decide, by decide⟩
    exact ((k1.trans k2).trans k3).trans k4
  · refine ⟨⟨v', h2.other (by omega) _, ?_⟩, by rw [endF_snoc]; exact t2.set _, (hB.trans h5).setCell (p := ⟨w.heap.size + 1, 0, none⟩) (by simp) _⟩
    have e1 : fcells ((pre ++ [x]).map FE.f) ((pre ++ [x]).map FE.sv) = fcells (pre.map FE.f) (pre.map FE.sv) ++ [.int .u8 (x.f.1.toNat : Int), x.sv] := by
      rw [List.map_append, List.map_append]; exact fcells_snoc _ _ _ _ (by simp)
    rw [e1, List.length_append]
    exact h3.kept (grownBy_setCell' _ _ _) (.inr (t2.not_row (by decide) h3).symm)

def actF (w : World) (v : Value) (x : FE) (Bx : Nat) : Act := { tmps := #[v, undef, .slice none 0 0, .int .i64 0, .pointer (some ⟨w.heap.size, 0, none⟩), .pointer (some ⟨w.heap.size + 1, 0, none⟩), .pointer (some ⟨Bx, 0, none⟩), .int .i64 x.e, v, .func (.func 35) #[] #[.pointer (some ⟨w.heap.size + 1 + 1, 0, none⟩)], .agg #[.int .u8 (x.f.1.toNat : Int), x.sv], .int .i64 x.e, undef, undef, undef, undef, undef, undef, undef], defers := [] }
def AF (w : World) (v : Value) (b : List UInt8) (pre : List FE) (x : FE) (a : Act) (V : World) : Prop :=
  IF w pre V ∧ RF b w.heap.size pre x V ∧ ∃ Bx, V.heap[Bx]? = some (.cells #[.int .u8 (x.f.1.toNat : Int), x.sv] 29 (0, 0)) ∧ a = actF w v x Bx
theorem own_grown {B C : Nat} {X Y : World} {row : Option Nat} {v : Value} {xs : List UInt8} (h : OwnB B X v xs) (hg : X.grownBy Y row) (hr : ∀ r, row = some r → C ≤ r ∧ ∃ o : Obj, X.heap[r]? = some o ∧ o.isCells = false) : OwnB B Y v xs := by
  refine World.ownsRow.kept h hg ?_
  rcases h.2 with ⟨rfl, _⟩ | ⟨g, cap, cur, rfl, _, hgb, _⟩
  · exact .inl rfl
  · refine .inr fun e' => ?_
    obtain ⟨_, o, ho, hc⟩ := hr g (by simpa [Value.ownBlock] using e'.symm)
    rw [hgb] at ho; cases ho; cases hc
theorem AF_own (w : World) (v : Value) (b : List UInt8) (B : Nat) (hB : w.heap.size ≤ B) (pre : List FE) (x : FE) (a : Act) : OwnFrom B (fun (_ : Unit) V => AF w v b pre x a V) := by
  rintro _ X Y row ⟨h1, ⟨h2, h3⟩, Bx, h4, h5⟩ hg hr
  refine ⟨IF_own w B hB pre X Y row h1 hg hr, ⟨own_grown h2 hg hr, h3⟩, Bx, ?_, h5⟩
  refine (hg.block Bx (lt_of_block h4) fun e => ?_).trans h4
  obtain ⟨_, o, ho, hc⟩ := hr Bx e.symm
  rw [h4] at ho; cases ho; cases hc
theorem SF_own (b : List UInt8) (B C : Nat) : OwnFrom C (SF b B) := by
  rintro xs X Y row ⟨h1, h2⟩ hg hr
  exact ⟨fun x hx => own_grown (h1 x hx) hg hr, h2⟩

set_option maxHeartbeats 4000000 in
set_option maxRecDepth 100000 in
theorem fscan_any (w : World) (v : Value) (b : List UInt8) (hrd : Rd w v b) (hm : b.length ≤ 16777216) :
    Calls Try.prog 14 #[v] w fun e w' => ∃ v' fs p, e = .returned (.tuple #[v', .int .i64 (p : Nat)]) ∧ ScEnd b fs p ∧ OwnFs 29 w.heap.size w' v' fs ∧ Below w.heap.size w w' := by
  refine (callsIn_wide (n := 5)).1 ?_
  obtain ⟨i0, hi, hz0, hz1, hz2⟩ := info_parts info_frame_p
  obtain ⟨ao, cap, rfl⟩ := hrd.slice
  obtain ⟨w2, hw2⟩ : ∃ w2, w2 = (w.alloc (.cells #[.slice none 0 0] 36)).alloc (.cells #[.int .i64 0] 3) := ⟨_, rfl⟩
  have hs2 : w2.heap.size = w.heap.size + 1 + 1 := by rw [hw2]; simp
  have b2 : Below w.heap.size w w2 := by rw [hw2]; exact ((Below.refl _ _).alloc (Nat.le_refl _) _).alloc (by simp) _
  have bx : Boxed w2 w.heap.size 36 (.slice none 0 0) := by rw [hw2]; exact (Boxed.new w _ _).alloc _
  have bt' : Boxed w2 (w.heap.size + 1) 3 (.int .i64 0) := by
    rw [hw2]
    have := Boxed.new (w.alloc (.cells #[.slice none 0 0] 36)) 3 (.int .i64 0)
    simpa using this
  have r2 := hrd.to b2
  obtain ⟨w3, hw3⟩ : ∃ w3, w3 = w2.alloc (.cells #[.slice ao b.length cap] 22) := ⟨_, rfl⟩
  have hs3 : w3.heap.size = w.heap.size + 1 + 1 + 1 := by rw [hw3]; simp [hs2]
  have b3 : Below w.heap.size w w3 := by rw [hw3]; exact b2.alloc (by omega) _
  have bs : Boxed w3 (w.heap.size + 1 + 1) 22 (.slice ao b.length cap) := by
    rw [hw3, ← hs2]; exact Boxed.new w2 _ _
  have i3 : IF w [] w3 := ⟨⟨_, by rw [hw3]; exact bx.alloc _, World.ownsRow_nil _ _ _ _⟩, by rw [hw3]; exact bt'.alloc _, b3⟩
  refine callsIn_of_wp_marks Try.func14 rfl trivial ?_ rfl
  simp only [Try.ntmps14, List.size_toArray, List.length_cons, List.length_nil, Nat.reduceAdd, Nat.reduceSub, Array.replicate_succ, Array.replicate_zero, List.push_toArray, List.append_toArray, List.nil_append, List.cons_append]
  gi_wp2_with fail
  rw [← hw2]
  refine ⟨trivial, ?_⟩
  refine (callsIn_wide.2 (whole_any _ _ _ r2)).mono ?_
  rintro e w' ⟨rfl, rfl⟩
  rw [← hw3, hs2]
  replace hw2 := hide hw2
  replace hw3 := hide hw3
  clear r2 bx bt' b2
  gi_wp2
  refine wpIn_range_hands rfl (by decide) (gf := 35) (lb := #[.pointer (some ⟨w.heap.size + 1 + 1, 0, none⟩)]) rfl trivial (enters_of Try.func35 (by kernel_rfl) rfl)
    (whole1_hands w _ b hrd hm w3 b3 (w.heap.size + 1 + 1) bs (5 - 1)) KpF.trans (KpF.put (by omega)) (fun _ => rfl) (IF w) (fun _ _ _ => False) (AF w (.slice ao b.length cap) b)
    (IF_own w _ (by omega)) (fun _ _ _ _ _ hs _ _ => hs) (SF_own _ _ _) (AF_own w _ b _ (by omega)) i3 ?assign ?body ?done ?stop
  case assign =>
    rintro l pre ⟨f, sv, e⟩ W K hI hR hK
    obtain ⟨sa, cs, hsv⟩ := hR.1.rd.slice
    dsimp only at hsv
    subst hsv
    have hk := hK (actF w (.slice ao b.length cap) ⟨f, .slice sa f.2.length cs, e⟩ W.heap.size) (W.alloc (.cells #[.int .u8 (f.1.toNat : Int), .slice sa f.2.length cs] 29)) ((KeepsOthers.alloc _ _).from _) (KpF.of_grownBy (World.grownBy_alloc W _ none) (fun g e => by cases e))
      ⟨(IF_own w w3.heap.size (by omega)).alloc _ hI, ⟨hR.1.below (Nat.le_refl _) ((Below.refl _ _).alloc (Nat.le_refl _) _), hR.2⟩, W.heap.size, heap_alloc_last W _, rfl⟩
    have HK := hide hk
    clear hk hK hI hR hi hz0 hz1 hz2 i3 bs b3 hrd
    dsimp only [encFE]
    gi_wp2
    exact HK.out
  case body =>
    rintro l pre ⟨f, sv, e⟩ a' W hl ⟨⟨⟨v, bx, hrow⟩, bt', hB⟩, ⟨ho, p, hp, hst⟩, Bx, hBx, rfl⟩
    obtain ⟨sa, cs, hsv⟩ := ho.rd.slice
    dsimp only at hsv
    subst hsv
    have hll := stt_len b _ hst
    have cx := bx.cell
    have c0 : W.cell? ⟨Bx, 0, none⟩ = some (.int .u8 (f.1.toNat : Int)) := by rw [cell_of_row _ _ 0 _ _ (0, 0) hBx]; rfl
    have c1 : W.cell? ⟨Bx, 1, none⟩ = some (.slice sa f.2.length cs) := by rw [cell_of_row _ _ 1 _ _ (0, 0) hBx]; rfl
    have n2 := two_cells W (.int .u8 (f.1.toNat : Int)) (.slice sa f.2.length cs) 29 W.heap.size rfl
    have n3 : ∀ u ∈ ([.int .u8 (f.1.toNat : Int), .slice sa f.2.length cs] : List Value), u.oneCell' = true := by simp [Value.oneCell']
    have h63 : pre.length + 1 ≤ maxLen := by rw [show maxLen = 9223372036854775807 from rfl]; omega
    have hby : (pre.length + 1) * 32 ≤ 140737488355328 := by omega
    have hbs : w.heap.size ≤ (W.alloc (.cells #[.int .u8 (f.1.toNat : Int), .slice sa f.2.length cs] 29)).heap.size := by have := hB.size; simp; omega
    have BX := hide bx
    have HR := hide hrow
    have HRA := hide (hrow.alloc (.cells #[.int .u8 (f.1.toNat : Int), .slice sa f.2.length cs] 29))
    have BT := hide bt'
    have HB := hide hB
    have N2 := hide n2
    clear bx hrow bt' hB n2 ho hp hst hll hBx i3 bs b3 hrd
    dsimp only [actF]
    gi_wp2_with (gi_at_builtin; refine wpListIn_append_own _ rfl _ _ 36 rfl w.heap.size 29 i0 _ 2 32 Try.underlying36 hi hz0 hz1 hz2 rfl (by decide) v pre.length _ rfl HRA.out ⟨W.heap.size, 0, none⟩ 1 1 [.int .u8 (f.1.toNat : Int), .slice sa f.2.length cs] rfl rfl N2.out n3 h63 hby hbs ?_; intro v' w1 hown' hgrow _; obtain ⟨g', cap', rfl⟩ := ownsRow_succ hown'; obtain ⟨⟨s1, s2⟩, FIN⟩ := scan_step (x := ⟨f, .slice sa f.2.length cs, e⟩) BX.out HR.out BT.out HB.out hown' hgrow; have hc1 := s1.cell; have hf1 := s1.frozen; have hc2 := s2.cell; have hf2 := s2.frozen; clear hown' hgrow s1 s2 cx c0 c1)
    exact ⟨FIN.out.1.from _, FIN.out.2⟩
  case done =>
    rintro D xs W hD ⟨hs, p, hp, hse⟩ ⟨⟨v, h1, h2⟩, h3, h4⟩ hK
    have c1 := h1.cell
    have c3 := h3.cell
    rw [hp] at c3
    obtain ⟨ao', cap', hv⟩ : ∃ ao' cap', v = .slice ao' xs.length cap' := by
      rcases h2.2 with ⟨rfl, h⟩ | ⟨g, cap, cur, rfl, _⟩
      · rw [h]; exact ⟨_, _, rfl⟩
      · exact ⟨_, _, rfl⟩
    subst hv
    have H2 := hide h2
    have H4 := hide h4
    have HS := hide hs
    clear h1 h2 h3 h4 hs i3 bs b3 hrd hp
    gi_wp2
    gi_region
    all_goals
      gi_wp2
      refine ⟨by simp, .inl ⟨_, _, rfl, run_takeDeferred (w := W.drew) hK, ?_⟩⟩
      refine ⟨_, results_tmp2 rfl _ _ _, _, xs.map FE.f, p, rfl, hse, ?_, ?_⟩
      · refine ⟨xs.map FE.sv, by simp, ?_, fun i hi' => ?_⟩
        · rw [List.length_map]
          exact ownsRow_putObj (W := W.drew) H2.out _ hK rfl
        · rw [List.length_map] at hi'
          have e1 : (xs.map FE.sv).getD i undef = xs[i].sv := by simp [List.getD_eq_getElem?_getD, hi']
          have e2 : (xs.map FE.f).getD i (0, []) = xs[i].f := by simp [List.getD_eq_getElem?_getD, hi']
          rw [e1, e2]
          exact ownsRow_putObj (W := W.drew) (HS.out xs[i] (List.getElem_mem hi')) _ hK rfl
      · exact (below_drew H4.out).trans (belowK_b (w := w3) (by omega) W.drew D _ _ hD hK rfl rfl)
  case stop =>
    rintro D c pre W _ h _
    exact h.elim

end Go.Proofs.Ytmdbgmnohdeoeaa
