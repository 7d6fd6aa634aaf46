/-
  PROVED: whatever octets and numbers come in, transeptlaw07.PagesApart returns true and leaves them as they were: the statement of P7.2 and P7.3 (pages at places that do not touch: each is read, whatever was written at the others, and in whatever order).
-/
import Derived.Test.YtliileemelcllaaPgRMath
import Derived.Test.YtliileemelcllaaDHMath
import Derived.Test.YtliileemelcllaaOwnI
import Derived.Test.YtliileemelcllaaRMid
import Derived.Test.YtliileemelcllaaProg
import Derived.Test.YtliileemelcllaaBase
import Derived.Test.YtliileemelcllaaShpIn
import Derived.Test.YtliileemelcllaaDFlushR
import Derived.Laws.IdiomStrings
import Derived.Lib.SliceRun
import Derived.Test.YtliileemelcllaaBx
import Derived.Test.YtliileemelcllaaApp
import Derived.ArgAppend
import Derived.Lib.AppendStr
import Derived.Test.YtliileemelcllaaPgEncR
import Derived.Test.YtliileemelcllaaPut
import Derived.Deep.CutRange
import Derived.Test.YtliileemelcllaaPgDecR
import Derived.Test.YtliileemelcllaaGet
import Derived.Test.YtliileemelcllaaTail
import Derived.Test.YtliileemelcllaaStep
import Derived.Test.YtliileemelcllaaPgDiskR
import Derived.Test.YtliileemelcllaaDGetP
import Derived.Test.YtliileemelcllaaDCheckP
import Derived.RangeFuncBox
import Derived.RangeFuncBound
import Derived.RangeFuncLeaves
import Derived.Shelf.Abstract
import Derived.Shelf.RegionOpen
import Derived.OwnWalkIn
import Derived.TacticsInMore
import Derived.LoopNIn
import Derived.LoopIn
import Derived.Test.YtliileemelcllaaRHand
import Derived.Test.YtliileemelcllaaDPutP
import Derived.Test.YtliileemelcllaaPgSay
import Derived.Test.YtliileemelcllaaDCrashP
import Derived.Test.YtliileemelcllaaDLand
import Derived.Test.YtliileemelcllaaFr
/-
  Pages at places that do not touch (P7.2, P7.3), plainly and in memory: the disk in its box, the list of numbers beside it.
-/
namespace Go.Proofs.Ytliileemelcllaa
open Go.RowKit
set_option linter.unusedVariables false

def cutX (x : List UInt8) : List UInt8 := x.take (min x.length 244)
theorem cutX_len (x : List UInt8) : (cutX x).length = min x.length 244 := by unfold cutX; simp
theorem pgsect_z {d : Dsk} (h : DOk d) {at' : Int} (h0 : 0 ≤ at') (h1 : at' ≤ (d.1.length : Int) - 4) : pgsect d at' = 0 := pgsect_0.2 ⟨h, h0, h1⟩
theorem pgread_other {d : Dsk} (h : DOk d) {at' : Int} {b : List UInt8} (hb : b.length = 256) (h0 : 0 ≤ at') (h1 : at' ≤ (d.1.length : Int) - 4) (hc : d.2.length ≤ 4092) {to' : Int} (t0 : 0 ≤ to') (t1 : to' ≤ (d.1.length : Int) - 4) (ht : to' + 4 ≤ at' ∨ at' + 4 ≤ to') (id : Int) : pgread (d.1, d.2 ++ pws at' b 4) to' id = pgread d to' id := by
  have e1 := pgsect_z (dok_write h hb h0 h1 hc) t0 t1
  have e2 := pgsect_z h t0 t1
  unfold pgread
  rw [e1, e2, pgot_other h hb h0 h1 hc t0 t1 ht]
structure PInv (n : Nat) (xs : List (List UInt8)) (d : Dsk) (la : List Int) (i : Nat) : Prop where
  ok : DOk d
  s : d.1.length = 4 * n + 1
  c : d.2.length = 4 * i
  l : la.length = n
  r : ∀ (k : Nat) (v : Int), la[k]? = some v → v = 0 ∨ ((1 ≤ v ∧ v ≤ 10000) ∧ ∀ x, xs[k]? = some x → pgread d (4 * (k : Int)) (v - 1) = (cutX x, 0))
theorem PInv.start {n : Nat} (hn : n ≤ 6) (xs : List (List UInt8)) : PInv n xs (z64s (4 * n + 1), []) (List.replicate n 0) 0 :=
  ⟨dok_new (by omega) (by omega), z64s_len _, rfl, by simp, fun k v h => .inl (by rw [List.getElem?_replicate] at h; split at h <;> simp_all)⟩
theorem PInv.put {n : Nat} {xs : List (List UInt8)} {d : Dsk} {la : List Int} {i : Nat} (h : PInv n xs d la i) (hn : n ≤ 6) (hi : i < 12) {p : Nat} (hp : p < n) {x : List UInt8} (hx : xs[p]? = some x) :
    ∃ d', pgwrite d (4 * (p : Int)) (100 * (i : Int) + p) (cutX x) = (d', 0) ∧ PInv n xs d' (la.set p (100 * (i : Int) + p + 1)) (i + 1) := by
  have hcl : (cutX x).length ≤ 244 := by rw [cutX_len]; omega
  have hz : (pgenc (100 * (i : Int) + p) (cutX x)).2 = 0 := by rw [pgenc_yes (by omega) (by omega)]
  have a0 : (0 : Int) ≤ 4 * (p : Int) := by omega
  have a1 : 4 * (p : Int) ≤ (d.1.length : Int) - 4 := by rw [h.s]; omega
  have ac : d.2.length ≤ 4092 := by rw [h.c]; omega
  have hb := pgenc_len (100 * (i : Int) + p).toNat hcl
  have hw := pgwrite_yes h.ok a0 a1 hz ac
  have hbk := pgread_back h.ok a0 a1 hz ac (100 * (i : Int) + p)
  rw [hw, if_pos rfl] at hbk
  refine ⟨_, hw, dok_write h.ok hb a0 a1 ac, h.s, ?_, by rw [List.length_set, h.l], fun k v hk => ?_⟩
  · show (d.2 ++ _).length = _
    rw [List.length_append, pws_len, h.c]; omega
  · by_cases e : p = k
    · subst e
      rw [List.getElem?_set_self (by rw [h.l]; exact hp)] at hk
      simp only [Option.some.injEq] at hk
      subst hk
      refine .inr ⟨by omega, fun y hy => ?_⟩
      rw [hx] at hy
      simp only [Option.some.injEq] at hy
      subst hy
      rw [show 100 * (i : Int) + p + 1 - 1 = 100 * (i : Int) + p by omega]
      exact hbk
    · rw [List.getElem?_set_ne e] at hk
      rcases h.r k v hk with hv | ⟨hv, hr⟩
      · exact .inl hv
      · refine .inr ⟨hv, fun y hy => ?_⟩
        have hkn : k < n := by have := (List.getElem?_eq_some_iff.1 hk).1; rw [h.l] at this; exact this
        rw [pgread_other h.ok hb a0 a1 ac (by omega) (by rw [h.s]; omega) (by omega)]
        exact hr y hy

/-- a list of numbers of one's own, all of it -/
def IRow (g n : Nat) (la : List Int) (w : World) : Prop := w.ownsRow g 3 1 (.slice (some ⟨g, 0, none⟩) n n) n (la.map encI)
theorem make_ints {n : Nat} (hn : n ≤ 1000000) (u : World) : (Instr.makeSlice 64 (.int .i64 (n : Int)) (.int .i64 (n : Int))).run Try.prog u =
      .ok (.slice (some ⟨u.heap.size, 0, none⟩) n n) (u.alloc (.cells (madeCells #[.int .i64 0] n) 3)) := by
  obtain ⟨i0, hi, hz0, hz1, hz2⟩ := info_parts infoI
  have h := run_make (P := Try.prog) u 64 3 i0 (.int .i64 0) Try.underlying64 hi hz0 .i64 .i64 (n : Int) (n : Int) (by omega) (Int.le_refl _) (by rw [hz2]; omega) (by omega)
  simpa [hz1, Value.cells] using h
theorem IRow.made (w : World) (n : Nat) (h : n ≤ 1000000) : IRow w.heap.size n (List.replicate n 0) (w.alloc (.cells (madeCells #[.int .i64 0] n) 3)) := by
  have := World.ownsRow_lit (base := w.heap.size) (e := 3) (size := 1) w (madeCells #[.int .i64 0] n) n (Nat.le_refl _) (by unfold maxLen; omega) (by simp [madeCells])
  rw [toList_madeCells_one] at this
  unfold IRow
  rw [List.map_replicate]
  exact this
theorem IRow.cell {g n : Nat} {la : List Int} {w : World} (h : IRow g n la w) {k : Nat} {v : Int} (hk : la[k]? = some v) : w.cell? ⟨g, k, none⟩ = some (.int .i64 v) :=
  rows_at (rows_base h fun _ _ => Nat.zero_le _) rfl (by rw [List.getElem?_map, hk]; rfl)
theorem IRow.frozen {g n : Nat} {la : List Int} {w : World} (h : IRow g n la w) (k : Nat) : w.frozen? ⟨g, k, none⟩ = false := World.ownsRow.frozenAt h k
theorem IRow.put {g n : Nat} {la : List Int} {w : World} (h : IRow g n la w) (k : Nat) (v : Int) : IRow g n (la.set k v) (w.setCell ⟨g, k, none⟩ (.int .i64 v)) := by
  have := (World.ownsRow.stored h k (.int .i64 v)).1
  unfold IRow
  rw [List.map_set]
  exact this
theorem IRow.keep {g n : Nat} {la : List Int} {w w' : World} (h : IRow g n la w) (hb : w'.heap[g]? = w.heap[g]?) : IRow g n la w' := by
  rcases h with ⟨h1, h2 | ⟨g', cap, cur, hv, hB, hg, hr⟩⟩
  · exact ⟨h1, .inl h2⟩
  · have : g' = g := by simp only [Value.slice.injEq, Option.some.injEq, Addr.mk.injEq] at hv; exact hv.1.1.symm
    subst this
    exact ⟨h1, .inr ⟨g', cap, cur, hv, hB, hb.trans hg, hr⟩⟩
theorem IRow.lt {g n : Nat} {la : List Int} {w : World} (h : IRow g n la w) : g < w.heap.size := by
  rcases h.2 with ⟨h2, _⟩ | ⟨g', cap, cur, hv, hB, hg, hr⟩
  · cases h2
  · have : g' = g := by simp only [Value.slice.injEq, Option.some.injEq, Addr.mk.injEq] at hv; exact hv.1.1.symm
    subst this
    exact lt_of_block hg

/-- the disk in its box b, the list in block g -/
structure AInv (b g n : Nat) (w : World) (d : Dsk) (la : List Int) : Prop where
  st : ∃ s c, w.heap[b]? = some (.cells #[s, c] 43 (0, 0)) ∧ ∃ F, OwnF SStP F w [s, c] d ∧ b ∉ F ∧ g ∉ F
  la : IRow g n la w
theorem AInv.to {b g n : Nat} {w w' : World} {d : Dsk} {la : List Int} (h : AInv b g n w d la) (hb : Below w.heap.size w w') : AInv b g n w' d la := by
  obtain ⟨⟨s, c, h1, F, h2, h3, h4⟩, h5⟩ := h
  exact ⟨⟨s, c, (hb.block b (lt_of_block h1)).trans h1, F, h2.to hb, h3, h4⟩, h5.keep (hb.block g h5.lt)⟩
/-- a new state laid into the box, and one number set -/
theorem AInv.over {b g n : Nat} {w w4 : World} {d d' : Dsk} {la : List Int} {s c : Value} (h : AInv b g n w d la) (hbg : b ≠ g) (o : Own SStP w.heap.size w4 [s, c] d') (bb : Below w.heap.size w w4) {p : Nat} (hp : p < la.length) (v : Int) :
    ∃ U, U = w4.alloc (.cells #[s, c] 43) ∧ U.heap[w4.heap.size]? = some (.cells #[s, c] 43 (0, 0)) ∧ (∃ x y, U.heap[b]? = some (.cells #[x, y] 43 (0, 0))) ∧
      ∃ V, V = (U.setCell ⟨b, 0, none⟩ s).setCell ⟨b, 1, none⟩ c ∧ V.frozen? ⟨g, p, none⟩ = false ∧ (∃ u0, V.cell? ⟨g, p, none⟩ = some u0) ∧ AInv b g n (V.setCell ⟨g, p, none⟩ (.int .i64 v)) d' (la.set p v) ∧ ∀ C, C ≤ b → C ≤ g → Below C w (V.setCell ⟨g, p, none⟩ (.int .i64 v)) := by
  obtain ⟨⟨s0, c0, h1, F, h2, h3, h4⟩, h5⟩ := h
  obtain ⟨U, hU, hT, bU, sU⟩ := boxed_row w4 s c 43
  have cb := bb.trans (bU.mono bb.size)
  have hb := lt_of_block h1
  have hg := h5.lt
  have r := (cb.block b hb).trans h1
  have oU := o.to bU
  have l1 : IRow g n la ((U.setCell ⟨b, 0, none⟩ s).setCell ⟨b, 1, none⟩ c) := h5.keep (((Below.heap_setCell _ ⟨b, 1, none⟩ _ g (Ne.symm hbg)).trans (Below.heap_setCell _ ⟨b, 0, none⟩ _ g (Ne.symm hbg))).trans (cb.block g hg))
  obtain ⟨G, hG, hGB⟩ := oU.foot
  have nb : b ∉ G := fun hh => by have := hGB b hh; omega
  have ng : g ∉ G := fun hh => by have := hGB g hh; omega
  refine ⟨U, hU, hT, ⟨_, _, r⟩, _, rfl, l1.frozen p, ⟨_, l1.cell (List.getElem?_eq_getElem hp)⟩, ⟨⟨s, c, ?_, G, ((hG.set (a := ⟨b, 0, none⟩) nb _).set (a := ⟨b, 1, none⟩) nb _).set (a := ⟨g, p, none⟩) ng _, nb, ng⟩, l1.put p v⟩, fun C hC hC2 => (below_set2 (cb.mono (by omega)) hC _ _).setCell (p := ⟨g, p, none⟩) hC2 _⟩
  rw [Below.heap_setCell _ ⟨g, p, none⟩ _ b hbg]
  exact heap_set2 r _ _
/-- .. where the new state lies in any world behind it -/
theorem AInv.over2 {b g n : Nat} {w wx : World} {d d' : Dsk} {la : List Int} {s c : Value} (h : AInv b g n w d la) (hbg : b ≠ g) (o : Own SStP w.heap.size wx [s, c] d') (cb : Below w.heap.size w wx) {p : Nat} (hp : p < la.length) (v : Int) :
    (∃ x y, wx.heap[b]? = some (.cells #[x, y] 43 (0, 0))) ∧
      ∃ V, V = (wx.setCell ⟨b, 0, none⟩ s).setCell ⟨b, 1, none⟩ c ∧ V.frozen? ⟨g, p, none⟩ = false ∧ (∃ u0, V.cell? ⟨g, p, none⟩ = some u0) ∧ AInv b g n (V.setCell ⟨g, p, none⟩ (.int .i64 v)) d' (la.set p v) ∧ ∀ C, C ≤ b → C ≤ g → Below C w (V.setCell ⟨g, p, none⟩ (.int .i64 v)) := by
  obtain ⟨⟨s0, c0, h1, F, h2, h3, h4⟩, h5⟩ := h
  have hb := lt_of_block h1
  have hg := h5.lt
  have r := (cb.block b hb).trans h1
  have l1 : IRow g n la ((wx.setCell ⟨b, 0, none⟩ s).setCell ⟨b, 1, none⟩ c) := h5.keep (((Below.heap_setCell _ ⟨b, 1, none⟩ _ g (Ne.symm hbg)).trans (Below.heap_setCell _ ⟨b, 0, none⟩ _ g (Ne.symm hbg))).trans (cb.block g hg))
  obtain ⟨G, hG, hGB⟩ := o.foot
  have nb : b ∉ G := fun hh => by have := hGB b hh; omega
  have ng : g ∉ G := fun hh => by have := hGB g hh; omega
  refine ⟨⟨_, _, r⟩, _, rfl, l1.frozen p, ⟨_, l1.cell (List.getElem?_eq_getElem hp)⟩, ⟨⟨s, c, ?_, G, ((hG.set (a := ⟨b, 0, none⟩) nb _).set (a := ⟨b, 1, none⟩) nb _).set (a := ⟨g, p, none⟩) ng _, nb, ng⟩, l1.put p v⟩, fun C hC hC2 => (below_set2 (cb.mono (by omega)) hC _ _).setCell (p := ⟨g, p, none⟩) hC2 _⟩
  rw [Below.heap_setCell _ ⟨g, p, none⟩ _ b hbg]
  exact heap_set2 r _ _

end Go.Proofs.Ytliileemelcllaa

/-
  A region that draws its order, walked once, by a schedule: '(i, true)': operation i only reads (the same in every world that meets S): it may be taken now, whatever else could come first; '(i, false)': operation i is the only one that can come now. From m on a chain that all others precede. Nothing of the program is named.
-/
namespace Go.Proofs.Ytliileemelcllaa
open Go.RowKit
set_option linter.unusedVariables false

section
variable {P : Program} {ops : Array Oper} {md : Region.Mode} {Q : Exit → Act → World → Prop} {S : World → Prop}

def schedB (md : Region.Mode) (ops : Array Oper) (m : Nat) : List (Nat × Bool) → Array Bool → Bool
  | [], listed => Region.seqB md ops (ops.size - m) m listed
  | (i, true) :: r, listed => decide (i < m) && (Region.ready md ops listed).contains i && Region.free md ops listed i && schedB md ops m r (listed.setIfInBounds i true)
  | (i, false) :: r, listed => decide (i < m) && decide (Region.ready md ops listed = [i]) && schedB md ops m r (listed.setIfInBounds i true)
def wpSched (P : Program) (ops : Array Oper) (Q : Exit → Act → World → Prop) (S : World → Prop) (Z : Act → World → Prop) : List (Nat × Bool) → Act → World → Prop
  | [], a, w => Z a w
  | (i, true) :: r, a, w => ∃ o v, ops[i]? = some o ∧ YieldsIf P ops S o v a ∧ S w ∧ wpSched P ops Q S Z r (a.put o.dst v) w
  | (i, false) :: r, a, w => ∃ o, ops[i]? = some o ∧ if Region.wanted o (yielded ops a.tmps) = true then o.wp P a w (fun a' w' => S w' ∧ wpSched P ops Q S Z r a' w') Q else S w ∧ wpSched P ops Q S Z r (a.put o.dst undef) w

theorem wpAnyM_sched {m : Nat} {Z : Act → World → Prop} (hsel : Region.noSelect ops = true) (hs : Region.sinkB md ops m = true) (hc : Region.chainB md ops m = true) (hm : m < ops.size) (hQ : ∀ c (a : Act) t w, Q (.panic c) { a with tmps := t } w → Q (.panic c) a w) :
    ∀ (l : List (Nat × Bool)) (listed : Array Bool) (a : Act) (w : World), HeadInv md ops m listed → schedB md ops m l listed = true → wpSched P ops Q S Z l a w →
      wpAnyM P md ops Q S m (fun listed' a' w' => Region.seqB md ops (ops.size - m) m listed' = true ∧ Z a' w') l.length listed a w
  | [], listed, a, w, _, hB, h => ⟨hB, h⟩
  | (i, true) :: r, listed, a, w, inv, hB, ⟨o, v, ho, hy, hS, h⟩ => by
    simp only [schedB, Bool.and_eq_true, decide_eq_true_eq] at hB
    obtain ⟨⟨⟨him, hr⟩, hf⟩, hB'⟩ := hB
    have hr' : i ∈ Region.ready md ops listed := by simpa using hr
    exact wpAnyM_first ho (Region.noSelect_spec hsel) hs hc hm him (fun c a w h => hQ c a (a.put o.dst v).tmps w (by rw [← put_tmps]; exact h)) (fun listed a w hL => seqB_ready hL.1) _ listed a w inv (Region.free_spec ho hf) hr' hy hS
      (wpAnyM_sched hsel hs hc hm hQ r _ _ _ (inv.set hr' him) hB' h)
  | (i, false) :: r, listed, a, w, inv, hB, ⟨o, ho, h⟩ => by
    simp only [schedB, Bool.and_eq_true, decide_eq_true_eq] at hB
    obtain ⟨⟨him, hr⟩, hB'⟩ := hB
    refine ⟨fun h1 => (by rw [hr] at h1; cases h1), fun j hj => ?_⟩
    have hj0 := hj
    rw [hr] at hj
    have hji : j = i := by simpa using hj
    subst hji
    refine ⟨him, ?_⟩
    have hw : wpOp P ops Q j (fun a' w' => S w' ∧ wpSched P ops Q S Z r a' w') a w := by
      unfold wpOp
      simp only [ho]
      split
      · rename_i hwd; rw [if_pos hwd] at h; exact .inl h
      · rename_i hwd; rw [if_neg hwd] at h; exact h
    exact wpOp_mono (fun a' w' h' => ⟨h'.1, wpAnyM_sched hsel hs hc hm hQ r _ _ _ (inv.set hj0 him) hB' h'.2⟩) hw

def schedAll (md : Region.Mode) (ops : Array Oper) (m : Nat) (l : List (Nat × Bool)) : Bool :=
  Region.noSelect ops && decide (l.length = m) && decide (m < ops.size) && Region.sinkB md ops m && Region.chainB md ops m && schedB md ops m l (Array.replicate ops.size false)

theorem wp_region_sched {id : Nat} {a : Act} {w : World} {l : List Oper} (S : World → Prop) (s : List (Nat × Bool)) (m : Nat) (hf : P.follows .mixedOrders = true) (hB : schedAll .any l.toArray m s = true)
    (hQ : ∀ c (a : Act) t w, Q (.panic c) { a with tmps := t } w → Q (.panic c) a w)
    (h : wpSched P l.toArray Q S (fun a'' w'' => wpList P l.toArray Q (l.drop m) a'' w'') s a w.drew) : (Code.region id l.toArray true).wp P Q a w := by
  simp only [schedAll, Bool.and_eq_true, decide_eq_true_eq] at hB
  obtain ⟨⟨⟨⟨⟨hsel, hlen⟩, hm⟩, hs⟩, hc⟩, hsch⟩ := hB
  have hm' : m < l.length := by simpa using hm
  have hld : (l.drop m).length = l.length - m := by simp
  have inv0 : HeadInv .any l.toArray m (Array.replicate l.toArray.size false) :=
    ⟨by simp, fun j oj _ hl => (by rw [getD_replicate_false] at hl; cases hl), fun t _ ht => getD_in (by simpa using ht) (getD_replicate_false _ _)⟩
  have H := wpAnyM_sched (md := .any) hsel hs hc hm hQ s _ a w.drew inv0 hsch h
  refine wp_region_any hf ?_
  have := wpAny_of_mid (Q := Q) (g := l.length - m) (fun listed a' w' hL => by
    have := wpAny_of_seq (md := .any) (Q' := Q) (l.drop m) m listed a' w' (fun j => by simp [List.getElem?_drop]) (by rw [hld]; exact hL.1) hL.2
    rwa [hld] at this) _ _ _ _ H
  rw [hlen, show m + (l.length - m) = l.toArray.size by simp; omega] at this
  exact this

theorem sched_take {i : Nat} {r : List (Nat × Bool)} {a : Act} {w : World} {Z : Act → World → Prop} {o : Oper} {v : Value} (ho : ops[i]? = some o) (hw : Region.wanted o (yielded ops a.tmps) = true) (hS : S w) (hy : ∀ w, S w → (execOp a.eval o).run P w = .ok (.value v) w) (h : wpSched P ops Q S Z r (a.put o.dst v) w) : wpSched P ops Q S Z ((i, true) :: r) a w :=
  ⟨o, v, ho, .inl ⟨hw, hy⟩, hS, h⟩
theorem sched_go {i : Nat} {r : List (Nat × Bool)} {a : Act} {w : World} {Z : Act → World → Prop} {o : Oper} (ho : ops[i]? = some o) (h : ∀ K : Act → World → Prop, (∀ a' w', S w' → wpSched P ops Q S Z r a' w' → K a' w') → if Region.wanted o (yielded ops a.tmps) = true then o.wp P a w K Q else K (a.put o.dst undef) w) : wpSched P ops Q S Z ((i, false) :: r) a w := by
  have := h (fun a' w' => S w' ∧ wpSched P ops Q S Z r a' w') (fun a' w' h1 h2 => ⟨h1, h2⟩)
  exact ⟨o, ho, this⟩

theorem sched_run {i : Nat} {r : List (Nat × Bool)} {a : Act} {w : World} {Z : Act → World → Prop} {o : Oper} (ho : ops[i]? = some o) (hw : Region.wanted o (yielded ops a.tmps) = true) (h : ∀ K : Act → World → Prop, (∀ a' w', S w' → wpSched P ops Q S Z r a' w' → K a' w') → o.wp P a w K Q) : wpSched P ops Q S Z ((i, false) :: r) a w := by
  refine sched_go ho fun K hK => ?_
  rw [if_pos hw]
  exact h K hK

end
end Go.Proofs.Ytliileemelcllaa

/-
  A region that draws its order, walked step by step: an operation that only reads is taken where it can come ('fan_take'); where one, two or three operations can come and no order is told, each is walked ('fan_one', 'fan_two', 'fan_three'). From m on a chain that all others precede. Nothing of the program is named.
-/
namespace Go.Proofs.Ytliileemelcllaa
open Go.RowKit
set_option linter.unusedVariables false

section
variable {P : Program} {ops : Array Oper} {Q : Exit → Act → World → Prop} {S : World → Prop} {Z : Act → World → Prop} {m : Nat}

/-- what is left to be walked, n operations ahead of the chain -/
def Fan (P : Program) (ops : Array Oper) (Q : Exit → Act → World → Prop) (S : World → Prop) (Z : Act → World → Prop) (m n : Nat) (listed : Array Bool) (a : Act) (w : World) : Prop :=
  HeadInv .any ops m listed → wpAnyM P .any ops Q S m (fun listed' a' w' => Region.seqB .any ops (ops.size - m) m listed' = true ∧ Z a' w') n listed a w
/-- a step: what is asked of operation i, all told -/
def fanStep (P : Program) (ops : Array Oper) (Q : Exit → Act → World → Prop) (S : World → Prop) (Z : Act → World → Prop) (m n i : Nat) (listed : Array Bool) (a : Act) (w : World) : Prop :=
  ∃ o, ops[i]? = some o ∧ ∀ K : Act → World → Prop, (∀ a' w', S w' → Fan P ops Q S Z m n (listed.setIfInBounds i true) a' w' → K a' w') → if Region.wanted o (yielded ops a.tmps) = true then o.wp P a w K Q else K (a.put o.dst undef) w
def fanOk (ops : Array Oper) (m : Nat) : Bool := Region.noSelect ops && decide (m < ops.size) && Region.sinkB .any ops m && Region.chainB .any ops m
def takeOk (ops : Array Oper) (m i : Nat) (listed : Array Bool) : Bool := fanOk ops m && decide (i < m) && (Region.ready .any ops listed).contains i && Region.free .any ops listed i
def readyOk (ops : Array Oper) (m : Nat) (is : List Nat) (listed : Array Bool) : Bool := decide (Region.ready .any ops listed = is) && is.all (fun i => decide (i < m)) && !is.isEmpty

theorem fan_take {i n : Nat} {listed : Array Bool} {a : Act} {w : World} {o : Oper} {v : Value} (ho : ops[i]? = some o) (hB : takeOk ops m i listed = true) (hQ : ∀ c (a : Act) t w, Q (.panic c) { a with tmps := t } w → Q (.panic c) a w) (hw : Region.wanted o (yielded ops a.tmps) = true) (hS : S w)
    (hy : ∀ w, S w → (execOp a.eval o).run P w = .ok (.value v) w) (h : Fan P ops Q S Z m n (listed.setIfInBounds i true) (a.put o.dst v) w) : Fan P ops Q S Z m (n + 1) listed a w := by
  intro inv
  simp only [takeOk, fanOk, Bool.and_eq_true, decide_eq_true_eq] at hB
  obtain ⟨⟨⟨⟨⟨⟨hsel, hm⟩, hs⟩, hc⟩, him⟩, hr⟩, hf⟩ := hB
  have hr' : i ∈ Region.ready .any ops listed := by simpa using hr
  exact wpAnyM_first ho (Region.noSelect_spec hsel) hs hc hm him (fun c a w h => hQ c a (a.put o.dst v).tmps w (by rw [← put_tmps]; exact h)) (fun listed a w hL => seqB_ready hL.1) _ listed a w inv (Region.free_spec ho hf) hr' (.inl ⟨hw, hy⟩) hS (h (inv.set hr' him))
theorem fan_all {is : List Nat} {n : Nat} {listed : Array Bool} {a : Act} {w : World} (hB : readyOk ops m is listed = true) (h : ∀ i ∈ is, fanStep P ops Q S Z m n i listed a w) : Fan P ops Q S Z m (n + 1) listed a w := by
  intro inv
  simp only [readyOk, Bool.and_eq_true, decide_eq_true_eq, List.all_eq_true] at hB
  obtain ⟨⟨hr, hlt⟩, hne⟩ := hB
  refine ⟨fun h1 => ?_, fun j hj => ?_⟩
  · rw [hr] at h1; subst h1; simp at hne
  · have hj0 := hj
    rw [hr] at hj
    have him := hlt j hj
    refine ⟨him, ?_⟩
    obtain ⟨o, ho, hK⟩ := h j hj
    have := hK (fun a' w' => S w' ∧ Fan P ops Q S Z m n (listed.setIfInBounds j true) a' w') (fun a' w' h1 h2 => ⟨h1, h2⟩)
    have hw : wpOp P ops Q j (fun a' w' => S w' ∧ Fan P ops Q S Z m n (listed.setIfInBounds j true) a' w') a w := by
      unfold wpOp
      simp only [ho]
      split
      · rename_i hwd; rw [if_pos hwd] at this; exact .inl this
      · rename_i hwd; rw [if_neg hwd] at this; exact this
    exact wpOp_mono (fun a' w' h' => ⟨h'.1, h'.2 (inv.set hj0 him)⟩) hw
theorem fan_one {n : Nat} {listed : Array Bool} {a : Act} {w : World} (i : Nat) (hB : readyOk ops m [i] listed = true) (h : fanStep P ops Q S Z m n i listed a w) : Fan P ops Q S Z m (n + 1) listed a w :=
  fan_all hB fun j hj => by simp at hj; subst hj; exact h
theorem fan_two {n : Nat} {listed : Array Bool} {a : Act} {w : World} (i j : Nat) (hB : readyOk ops m [i, j] listed = true) (h1 : fanStep P ops Q S Z m n i listed a w) (h2 : fanStep P ops Q S Z m n j listed a w) : Fan P ops Q S Z m (n + 1) listed a w :=
  fan_all hB fun k hk => by
    simp at hk
    rcases hk with rfl | rfl
    · exact h1
    · exact h2
theorem fan_three {n : Nat} {listed : Array Bool} {a : Act} {w : World} (i j k : Nat) (hB : readyOk ops m [i, j, k] listed = true) (h1 : fanStep P ops Q S Z m n i listed a w) (h2 : fanStep P ops Q S Z m n j listed a w) (h3 : fanStep P ops Q S Z m n k listed a w) : Fan P ops Q S Z m (n + 1) listed a w :=
  fan_all hB fun q hq => by
    simp at hq
    rcases hq with rfl | rfl | rfl
    · exact h1
    · exact h2
    · exact h3
/-- an operation that is wanted -/
theorem fan_step {i n : Nat} {listed : Array Bool} {a : Act} {w : World} {o : Oper} (ho : ops[i]? = some o) (hw : Region.wanted o (yielded ops a.tmps) = true) (h : ∀ K : Act → World → Prop, (∀ a' w', S w' → Fan P ops Q S Z m n (listed.setIfInBounds i true) a' w' → K a' w') → o.wp P a w K Q) : fanStep P ops Q S Z m n i listed a w :=
  ⟨o, ho, fun K hK => by rw [if_pos hw]; exact h K hK⟩
theorem fan_done {listed : Array Bool} {a : Act} {w : World} (hB : Region.seqB .any ops (ops.size - m) m listed = true) (h : Z a w) : Fan P ops Q S Z m 0 listed a w := fun _ => ⟨hB, h⟩

theorem wp_region_fan {id : Nat} {a : Act} {w : World} {l : List Oper} (S : World → Prop) (m : Nat) (hf : P.follows .mixedOrders = true) (hm : m < l.length)
    (h : Fan P l.toArray Q S (fun a'' w'' => wpList P l.toArray Q (l.drop m) a'' w'') m m (Array.replicate l.toArray.size false) a w.drew) : (Code.region id l.toArray true).wp P Q a w := by
  have hld : (l.drop m).length = l.length - m := by simp
  have inv0 : HeadInv .any l.toArray m (Array.replicate l.toArray.size false) :=
    ⟨by simp, fun j oj _ hl => (by rw [getD_replicate_false] at hl; cases hl), fun t _ ht => getD_in (by simpa using ht) (getD_replicate_false _ _)⟩
  have H := h inv0
  refine wp_region_any hf ?_
  have := wpAny_of_mid (Q := Q) (g := l.length - m) (fun listed a' w' hL => by
    have := wpAny_of_seq (md := .any) (Q' := Q) (l.drop m) m listed a' w' (fun j => by simp [List.getElem?_drop]) (by rw [hld]; simpa using hL.1) hL.2
    rwa [hld] at this) _ _ _ _ H
  rw [show m + (l.length - m) = l.toArray.size by simp; omega] at this
  exact this

end
end Go.Proofs.Ytliileemelcllaa

/-
  The contract of transeptplain.SameBytes: it tells whether two slices hold the same octets; it only reads.
-/
namespace Go.Proofs.Ytliileemelcllaa
open Go.RowKit
set_option linter.unusedVariables false

set_option maxRecDepth 100000 in
set_option maxHeartbeats 400000 in
theorem same_any (w : World) (v1 v2 : Value) (xs ys : List UInt8) (h1 : Rd w v1 xs) (h2 : Rd w v2 ys) :
    Calls Try.prog 14 #[v1, v2] w fun e w' => e = .returned (.bool (sameB xs ys)) ∧ ∃ n, w' = w.drewN n := by
  obtain ⟨a1, c1, rfl, l1, m1, n1, r1⟩ := h1
  obtain ⟨a2, c2, rfl, l2, m2, n2, r2⟩ := h2
  unfold maxLen at m1 m2
  by_cases hl : xs.length = ys.length
  · have hne : ((xs.length : Int) != (ys.length : Int)) = false := by simp; omega
    go_enter Try.func14, Try.ntmps14
    go_wp2
    go_loopw [5] (fun i wr => ∃ k n : Nat, k ≤ xs.length ∧ i = .int .i64 k ∧ sameTo xs ys k ∧ wr = w.drewN n) (fun i _ => xs.length - (intOf i).toNat)
    case atStart => exact ⟨0, 0, Nat.zero_le _, rfl, sameTo_zero _ _, rfl⟩
    case round =>
      obtain ⟨k, n, hk, rfl, hs, rfl⟩ := hrel
      by_cases hlt : k < xs.length
      · rcases r1 with r1 | ⟨b1, o1, rfl, hc1⟩
        · rw [r1] at hlt; simp at hlt
        rcases r2 with r2 | ⟨b2, o2, rfl, hc2⟩
        · rw [hl, r2] at hlt; simp at hlt
        have g1 := hc1 k hlt
        have g2 := hc2 k (by omega)
        have HL : Hid (xs.length = ys.length) := hl
        have hq : (k : Int) < (xs.length : Int) := by omega
        have hq2 : (k : Int) < (ys.length : Int) := by omega
        clear hc1 hc2 hl
        by_cases he : bt xs k = bt ys k
        · have hb : (bt xs k != bt ys k) = false := by simp [he]
          have HE : Hid (bt xs k = bt ys k) := he
          clear he
          go_wp2
          go_quiet (fail)
          go_wp2
          go_roundw
          case rel => exact ⟨k + 1, _, by omega, by go_num, sameTo_succ hs HE.out, rfl⟩
          case measure => simp [intOf]; omega
        · have hb : (bt xs k != bt ys k) = true := by simp [he]
          go_wp2
          go_quiet (fail)
          go_wp2
          go_ret
          exact ⟨ret_bool (sameB_no HL.out hlt he).symm, _, World.drewN_drewN _ _ _⟩
      · have HL : Hid (xs.length = ys.length) := hl
        clear hl
        go_wp2
        go_ret
        exact ⟨ret_bool (sameB_of HL.out (by rw [show xs.length = k from by omega]; exact hs)).symm, _, rfl⟩
  · have hne : ((xs.length : Int) != (ys.length : Int)) = true := by simp; omega
    go_enter Try.func14, Try.ntmps14
    go_wp2
    go_ret
    exact ⟨ret_bool (sameB_len hl).symm, 0, rfl⟩

end Go.Proofs.Ytliileemelcllaa

/-
  What a law's walk is told of a disk's state, of marks and of lists that came in.
-/
namespace Go.Proofs.Ytliileemelcllaa
open Go.ChangeShapes Go.WideShapes Go.ChangeAt Go.RowKit
set_option linter.unusedVariables false

theorem open_sectors : Opens SSec 37 (fun xs => xs.length * 24 ≤ 140737488351232 ∧ ∀ x ∈ xs, x.length ≤ 140737488351232) (fun xs => (xs.map (fun x => x.length)).sum) :=
  opens_octs.list Try.underlying37 (by kernel_rfl) (by kernel_rfl) (by decide)
theorem open_write : Opens SWr 78 (fun z => True ∧ z.2.length ≤ 140737488351232) (fun z => 1 + z.2.length) :=
  (opens_int Try.underlying3 (by kernel_rfl)).pair opens_octs Try.underlying78 (by kernel_rfl) rfl rfl
theorem open_cache : Opens SCacheR 38 (fun xs => xs.length * 32 ≤ 140737488351232 ∧ ∀ z ∈ xs, True ∧ z.2.length ≤ 140737488351232) (fun xs => (xs.map (fun z => 1 + z.2.length)).sum) :=
  open_write.list Try.underlying38 (by kernel_rfl) (by kernel_rfl) (by decide)
theorem open_state : Opens SStR 40 (fun z => (z.1.length * 24 ≤ 140737488351232 ∧ ∀ x ∈ z.1, x.length ≤ 140737488351232) ∧ (z.2.length * 32 ≤ 140737488351232 ∧ ∀ y ∈ z.2, True ∧ y.2.length ≤ 140737488351232)) (fun z => (z.1.map (fun x => x.length)).sum + (z.2.map (fun y => 1 + y.2.length)).sum) :=
  open_sectors.pair open_cache Try.underlying40 (by kernel_rfl) rfl rfl
theorem open_bools : Opens SKeep 55 (fun xs => xs.length * 1 ≤ 140737488351232 ∧ ∀ x ∈ xs, True) (fun xs => (xs.map (fun _ => 1)).sum) :=
  (opens_bool Try.underlying4 (by kernel_rfl)).list Try.underlying55 (by kernel_rfl) (by kernel_rfl) (by decide)
abbrev SInts : Shp (List Int) := Shp.list 3 (Shp.int .i64)
theorem open_sints : Opens SInts 64 (fun xs => xs.length * 8 ≤ 140737488351232 ∧ ∀ x ∈ xs, True) (fun xs => (xs.map (fun _ => 1)).sum) :=
  (opens_int Try.underlying3 (by kernel_rfl)).list Try.underlying64 (by kernel_rfl) (by kernel_rfl) (by decide)

theorem state_fit {d : Dsk} (h : (d.1.length * 24 ≤ 140737488351232 ∧ ∀ x ∈ d.1, x.length ≤ 140737488351232) ∧ (d.2.length * 32 ≤ 140737488351232 ∧ ∀ y ∈ d.2, True ∧ y.2.length ≤ 140737488351232)) : dfit d :=
  ⟨h.1.1, h.1.2, h.2.1, fun y hy => (h.2.2 y hy).2⟩
theorem state_form {w : World} {cs : Array Value} {d : Dsk} (h : SStR.rd w cs.toList d) : ∃ sv cv, cs = #[sv, cv] ∧ RdSec w sv d.1 ∧ RdC w cv d.2 := by
  obtain ⟨c, e, hc, ⟨v1, rfl, r1⟩, ⟨v2, rfl, r2⟩⟩ := h
  refine ⟨v1, v2, ?_, r1, r2⟩
  cases cs
  simpa using hc

end Go.Proofs.Ytliileemelcllaa

/-
  bytes.Equal and bytes.Clone. General.
-/
namespace Go.Proofs.Ytliileemelcllaa
open Go.RowKit
set_option linter.unusedVariables false

/-- string(b) of octets that have a place, even of none -/
theorem conv_at {w : World} {b o c n : Nat} {xs : List UInt8} (hn : xs.length = n) (h : Rd w (.slice (some ⟨b, o, none⟩) n c) xs) : (convert 22 9 (.slice (some ⟨b, o, none⟩) n c)).run Try.prog w = .ok (.string ⟨xs.toArray⟩) w := by
  subst hn
  obtain ⟨ao, cap, e, h1, h2, h3, h4⟩ := h
  simp only [Value.slice.injEq, true_and] at e
  obtain ⟨rfl, rfl⟩ := e
  refine run_convert_bytes_back w 22 9 5 ⟨b, o, none⟩ c xs Try.underlying22 Try.underlying5 Try.underlying9 fun j hj => ?_
  rcases h4 with h4 | ⟨b', off, e, hc⟩
  · subst h4; simp at hj
  · simp only [Option.some.injEq, Addr.mk.injEq, and_true] at e
    obtain ⟨rfl, rfl⟩ := e
    have := hc j hj
    rw [show (⟨b, o, none⟩ : Addr).add j = ⟨b, o + j, none⟩ by simp [Addr.add], this]
    unfold bt
    simp [List.getD_eq_getElem?_getD, hj]
set_option maxRecDepth 100000 in
theorem bytesEq_any (w : World) (v1 v2 : Value) (xs ys : List UInt8) (h1 : Rd w v1 xs) (h2 : Rd w v2 ys) (p1 : 0 < xs.length) (p2 : 0 < ys.length) :
    Calls Try.prog 36 #[v1, v2] w fun e w' => e = .returned (.bool (sameB xs ys)) ∧ w = w' := by
  have k1 := conv_rd h1 p1
  have k2 := conv_rd h2 p2
  obtain ⟨a1, c1, rfl⟩ := h1.slice
  obtain ⟨a2, c2, rfl⟩ := h2.slice
  go_enter Try.func36, Try.ntmps36
  go_wp2
  go_ret
  exact ⟨ret_bool (str_eq xs ys), rfl⟩
set_option maxRecDepth 100000 in
theorem bytesEq_at (w : World) (b1 o1 n1 c1 b2 o2 n2 c2 : Nat) (xs ys : List UInt8) (h1 : Rd w (.slice (some ⟨b1, o1, none⟩) n1 c1) xs) (h2 : Rd w (.slice (some ⟨b2, o2, none⟩) n2 c2) ys) (l1 : xs.length = n1) (l2 : ys.length = n2) :
    Calls Try.prog 36 #[.slice (some ⟨b1, o1, none⟩) n1 c1, .slice (some ⟨b2, o2, none⟩) n2 c2] w fun e w' => e = .returned (.bool (sameB xs ys)) ∧ w = w' := by
  have k1 := conv_at l1 h1
  have k2 := conv_at l2 h2
  go_enter Try.func36, Try.ntmps36
  go_wp2
  go_ret
  exact ⟨ret_bool (str_eq xs ys), rfl⟩
set_option maxRecDepth 100000 in
theorem bclone_at (w : World) (b o n c : Nat) (xs : List UInt8) (h : Rd w (.slice (some ⟨b, o, none⟩) n c) xs) (hm : xs.length ≤ 140737488351232) :
    Calls Try.prog 37 #[.slice (some ⟨b, o, none⟩) n c] w fun e w' => ∃ v', e = .returned v' ∧ OwnB w.heap.size w' v' xs ∧ Below w.heap.size w w' := by
  obtain ⟨X, hX⟩ : ∃ u, u = w.alloc (.cells #[] 5) := ⟨_, rfl⟩
  have oX : OwnB w.heap.size X (.slice (some ⟨w.heap.size, 0, none⟩) 0 0) [] := by rw [hX]; exact own_lit w [] (by decide)
  have bX : Below w.heap.size w X := by rw [hX]; exact (Below.refl _ _).alloc (Nat.le_refl _) _
  have rX := h.to bX
  have hl : ([] : List UInt8).length + xs.length ≤ 140737488355328 := by simp; omega
  have hsz := bX.size
  have hnil : (binOp .eql 22 (.slice (some ⟨b, o, none⟩) n c) (.slice none 0 0)).run Try.prog w = .ok (.bool false) w := Lib.run_eql_slice_nil w 22 5 _ n c 0 0 Try.underlying22
  clear h
  go_enter Try.func37, Try.ntmps37
  go_wp2_with (at_builtin; rw [← hX]; refine wpList_append_octs rfl _ _ rfl w.heap.size _ _ _ _ rfl rfl oX rX hl hsz ?_; intro v6 w6 o6 b6 _)
  go_ret
  exact ⟨_, rfl, by simpa using o6, bX.trans b6⟩

end Go.Proofs.Ytliileemelcllaa

/-
  Pages, the program's: the checksum as octets, and Encode.
-/
namespace Go.Proofs.Ytliileemelcllaa
open Go.RowKit
set_option linter.unusedVariables false

set_option maxRecDepth 100000 in
theorem pgsumOf_any (w : World) (v : Value) (xs : List UInt8) (h : Rd w v xs) (hm : xs.length ≤ 1000) :
    Calls Try.prog 31 #[v] w fun e w' => ∃ v', e = .returned v' ∧ OwnB w.heap.size w' v' (oc (sum xs) 4) ∧ Below w.heap.size w w' := by
  obtain ⟨a, c, rfl⟩ := h.slice
  have hS := sum_lt xs
  have hws := psum64 xs
  unfold M32 at hS
  go_enter Try.func31, Try.ntmps31
  go_wp2_with fail
  refine (sum_any w _ xs h (by omega)).mono ?_
  rintro e w1 ⟨rfl, b1⟩
  have KP := hide (put_yes (sum xs) 4 w1 (by decide) (by decide) (by omega) (by omega))
  generalize hSe : sum xs = S at *
  replace hSe := hide hSe
  go_wp2_with fail
  refine KP.out.mono ?_
  rintro e w2 ⟨v2, rfl, o2, b2⟩
  go_wp2
  go_ret
  exact ⟨_, rfl, by rw [hSe.out]; exact o2.mono b1.size, b1.trans (b2.mono b1.size)⟩
theorem strCells_pg : Lib.strCells ⟨#[112, 103]⟩ = pgmark.map enc := by rfl

set_option maxRecDepth 100000 in
set_option maxHeartbeats 4000000 in
theorem pgencP_any (w : World) (id : Int) (v : Value) (d : List UInt8) (hrd : Rd w v d) :
    Calls Try.prog 10 #[.int .i64 id, v] w fun e w' => ∃ v', e = .returned (.tuple #[v', .int .i64 (pgenc id d).2]) ∧ OwnB w.heap.size w' v' (pgenc id d).1 ∧ Below w.heap.size w w' := by
  obtain ⟨i0, hi, hz0, hz1, hz2⟩ := info_parts info8
  obtain ⟨a, c, rfl⟩ := hrd.slice
  by_cases h1 : id < 0
  · rw [pgenc_range (.inl h1)]
    go_enter Try.func10, Try.ntmps10
    go_wp2
    go_ret2
    exact ⟨_, rfl, World.ownsRow_nil _ _ _ _, Below.refl _ _⟩
  · by_cases h2 : 2147483647 < id
    · rw [pgenc_range (.inr h2)]
      go_enter Try.func10, Try.ntmps10
      go_wp2
      go_ret2
      exact ⟨_, rfl, World.ownsRow_nil _ _ _ _, Below.refl _ _⟩
    · by_cases h3 : 244 < d.length
      · have hq : (244 : Int) < (d.length : Int) := by omega
        rw [pgenc_long (by omega) h3]
        go_enter Try.func10, Try.ntmps10
        go_wp2
        go_ret2
        exact ⟨_, rfl, World.ownsRow_nil _ _ _ _, Below.refl _ _⟩
      · have hq : ¬ (244 : Int) < (d.length : Int) := by omega
        rw [pgenc_yes (by omega) h3]
        obtain ⟨m, rfl⟩ : ∃ m : Nat, id = (m : Int) := ⟨id.toNat, by omega⟩
        rw [Int.toNat_natCast]
        have hm : m ≤ 2147483647 := by omega
        have hwl : IntKind.u64.wrap (d.length : Int) = (d.length : Int) := by rw [IntKind.wrap_u64]; omega
        have hwm : IntKind.u64.wrap (m : Int) = (m : Int) := by rw [IntKind.wrap_u64]; omega
        have KP1 := hide (put_yes d.length 2 w (by decide) (by decide) (by omega) (by omega))
        have KP2 := hide (fun u => put_yes m 4 u (by decide) (by decide) (by omega) (by omega))
        have gd := hide hrd
        clear hrd
        go_enter Try.func10, Try.ntmps10
        go_wp2_with fail
        refine KP1.out.mono ?_
        rintro e w1 ⟨v1, rfl, o1, b1⟩
        go_wp2_with fail
        refine (KP2.out w1).mono ?_
        rintro e w2 ⟨v2, rfl, o2, b2⟩
        clear KP1 KP2
        have c2 := b1.trans (b2.mono b1.size)
        have o1' := o1.below (Nat.le_refl _) b2
        have hle1 := c2.size
        obtain ⟨w3, hmk, own3, gr3⟩ := run_make_own (P := Try.prog) w2 w2.heap.size 22 5 i0 (.int .u8 0) 1 Try.underlying22 hi hz0 hz1 .i64 .i64 256 (by rw [hz2]; decide) (by decide) (Nat.le_refl _)
        replace hmk : (Instr.makeSlice 22 (.int .i64 0) (.int .i64 256)).run Try.prog w2 = .ok (.slice (some ⟨w2.heap.size, 0, none⟩) 0 256) w3 := hmk
        have b3 : Below w2.heap.size w2 w3 := (Below.refl _ _).grown gr3 (Nat.le_refl _) (fun k hk => by cases hk)
        have r1 := hide o1'.rd
        have r2 := hide o2.rd
        have r3 := hide (gd.out.to c2)
        have hw3 := b3.size
        have C2 := hide c2
        have l5 : pgmark.length + (oc d.length 2).length ≤ 140737488355328 := by rw [oc_length]; decide
        have l6 : (pgmark ++ oc d.length 2).length + (oc m 4).length ≤ 140737488355328 := by rw [List.length_append, oc_length, oc_length]; decide
        have e6 : (pgmark ++ oc d.length 2 ++ oc m 4).length = 8 := by rw [List.length_append, List.length_append, oc_length, oc_length]; rfl
        have l7 : (pgmark ++ oc d.length 2 ++ oc m 4).length + d.length ≤ 140737488355328 := by omega
        obtain ⟨K, hK⟩ : ∃ K, K = 8 + d.length := ⟨_, rfl⟩
        have e7 : (pgmark ++ oc d.length 2 ++ oc m 4 ++ d).length = K := by rw [List.length_append, e6, hK]
        have hKq : (K : Int) ≤ 252 := by omega
        have hz : Hid (∀ v7 w7, OwnB w2.heap.size w7 v7 (pgmark ++ oc d.length 2 ++ oc m 4 ++ d) → Below w2.heap.size w2 w7 → ∃ v8 w8, (Builtin.append_ #[22, 3] 22 #[v7, .int .i64 (252 - (K : Int))]).run Try.prog w7 = .ok v8 w8 ∧ OwnB w2.heap.size w8 v8 (pghead m d) ∧ Below w2.heap.size w2 w8) := fun v7 w7 o7 b7 => by
          obtain ⟨v8, w8, hr8, o8, gr8⟩ := run_append_zeros w7 22 o7 (244 - d.length) (by omega) b7.size
          refine ⟨v8, w8, ?_, o8, b7.grown gr8 (by exact b7.size) o7.from⟩
          rw [show (252 - (K : Int)) = ((244 - d.length : Nat) : Int) by omega]
          exact hr8
        have hpl := hide (pghead_len m (d := d) (by omega))
        replace hK := hide hK
        replace e6 := hide e6
        replace e7 := hide e7
        clear o1 o1' o2 b1 b2 c2 gd
        go_wp2_with (first
          | (at_builtin; refine Lib.wpList_append_own_string _ rfl _ _ 22 9 rfl w2.heap.size 5 i0 Try.underlying22 Try.underlying9 hi hz0 hz1 hz2 _ 0 [] rfl own3 ⟨#[112, 103]⟩ rfl (by decide) (by decide) hw3 ?_; intro v4 w4 own4 gr4 _; rw [strCells_pg] at own4; have o4 : OwnB w2.heap.size w4 v4 pgmark := own4; have b4 := b3.grown gr4 (by exact hw3) (fun k hk => (World.ownsRow.lt own3 k hk).1); clear own4 gr4)
          | (at_builtin; refine wpList_append_octs rfl _ _ rfl w2.heap.size _ _ _ _ rfl rfl o4 (r1.out.to b4) l5 b4.size ?_; intro v5 w5 o5 g5 _; have b5 := b4.trans g5)
          | (at_builtin; refine wpList_append_octs rfl _ _ rfl w2.heap.size _ _ _ _ rfl rfl o5 (r2.out.to b5) l6 b5.size ?_; intro v6 w6 o6 g6 _; have b6 := b5.trans g6)
          | (at_builtin; refine wpList_append_octs rfl _ _ rfl w2.heap.size _ _ _ _ rfl rfl o6 (r3.out.to b6) l7 b6.size ?_; intro v7 w7 o7 g7 _; obtain ⟨v8, w8, hr8, o8, b8⟩ := hz.out v7 w7 o7 (b6.trans g7); obtain ⟨ha, hc, hv⟩ := o7.rd.slice; rw [e7.out] at hv; subst hv; clear o4 o5 o6 o7 g5 g6 g7 b4 b5 b6)
          | (at_builtin; refine Lib.wpList_append_run _ rfl _ _ _ _ rfl _ _ rfl rfl _ _ hr8 ?_))
        clear hr8 hmk own3 gr3 b3 hw3 hz r1 r2 r3 l5 l6 l7
        have KS := hide (pgsumOf_any w8 _ _ o8.rd (by rw [hpl.out]; decide))
        refine KS.out.mono ?_
        rintro e w9 ⟨v9, rfl, o9, b9⟩
        clear KS
        have oA := o8.below (Nat.le_refl _) b9
        have bA := b8.trans (b9.mono b8.size)
        have lA : (pghead m d).length + (oc (sum (pghead m d)) 4).length ≤ 140737488355328 := by rw [hpl.out, oc_length]; decide
        go_wp2_with (at_builtin; refine wpList_append_octs rfl _ _ rfl w2.heap.size _ _ _ _ rfl rfl oA o9.rd lA bA.size ?_; intro v10 w10 o10 g10 _)
        go_ret2
        exact ⟨_, rfl, by unfold pgencO; exact o10.mono C2.out.size, C2.out.trans ((bA.trans g10).mono C2.out.size)⟩

end Go.Proofs.Ytliileemelcllaa

/-
  Pages, the program's: what a page's checksum and mark say (checkSeal), and Decode.
-/
namespace Go.Proofs.Ytliileemelcllaa
open Go.RowKit
set_option linter.unusedVariables false

noncomputable def pgseal (x : List UInt8) : Int := if x.length ≠ 256 then 3 else if numOf (x.drop 252) ≠ sum (x.take 252) then 21 else if x.take 2 ≠ pgmark then 22 else 0
theorem pgseal_3 {b : List UInt8} (h : b.length ≠ 256) : pgseal b = 3 := if_pos h
theorem pgseal_21 {b : List UInt8} (h : b.length = 256) (h2 : numOf (b.drop 252) ≠ sum (b.take 252)) : pgseal b = 21 := by
  unfold pgseal; rw [if_neg (fun k => k h), if_pos h2]
theorem pgseal_22 {b : List UInt8} (h : b.length = 256) (h2 : numOf (b.drop 252) = sum (b.take 252)) (h3 : b.take 2 ≠ pgmark) : pgseal b = 22 := by
  unfold pgseal; rw [if_neg (fun k => k h), if_neg (fun k => k h2), if_pos h3]
theorem pgseal_0 {b : List UInt8} (h : b.length = 256) (h2 : numOf (b.drop 252) = sum (b.take 252)) (h3 : b.take 2 = pgmark) : pgseal b = 0 := by
  unfold pgseal; rw [if_neg (fun k => k h), if_neg (fun k => k h2), if_neg (fun k => k h3)]
theorem pgseal_yes {b : List UInt8} (h : pgseal b = 0) : b.length = 256 ∧ numOf (b.drop 252) = sum (b.take 252) ∧ b.take 2 = pgmark := by
  by_cases h1 : b.length = 256
  · by_cases h2 : numOf (b.drop 252) = sum (b.take 252)
    · by_cases h3 : b.take 2 = pgmark
      · exact ⟨h1, h2, h3⟩
      · rw [pgseal_22 h1 h2 h3] at h; cases h
    · rw [pgseal_21 h1 h2] at h; cases h
  · rw [pgseal_3 h1] at h; cases h
theorem pgdec_seal {b : List UInt8} (h : pgseal b ≠ 0) : pgdec b = (0, [], pgseal b) := by
  by_cases h1 : b.length = 256
  · by_cases h2 : numOf (b.drop 252) = sum (b.take 252)
    · by_cases h3 : b.take 2 = pgmark
      · exact absurd (pgseal_0 h1 h2 h3) h
      · rw [pgseal_22 h1 h2 h3, pgdec_22 h1 h2 h3]
    · rw [pgseal_21 h1 h2, pgdec_21 h1 h2]
  · rw [pgseal_3 h1, pgdec_3 h1]
/-- four octets are a number's just if the number is theirs -/
theorem oc4_iff {y : List UInt8} {n : Nat} (hl : y.length = 4) (hn : n < 4294967296) : y = oc n 4 ↔ numOf y = n := by
  constructor
  · rintro rfl; exact numOf_oc _ _ (by omega)
  · intro h; exact pnumOf_inj (by rw [oc_length, hl]) (by rw [h, numOf_oc _ _ (by omega)])

set_option maxRecDepth 100000 in
set_option maxHeartbeats 4000000 in
theorem pgseal_any (w : World) (v : Value) (x : List UInt8) (hx : Rd w v x) : Calls Try.prog 34 #[v] w fun e w' => e = .returned (.int .i64 (pgseal x)) ∧ Below w.heap.size w w' := by
  by_cases h1 : x.length = 256
  · obtain ⟨b, o, c, rfl, hc, hcm, hR, hC⟩ := rdN hx h1 (by decide)
    have hS := sum_lt (x.take 252)
    unfold M32 at hS
    have r252 : Rd w (.slice (some ⟨b, o, none⟩) 252 c) (x.take 252) := by simpa using hR 0 252 (by omega) (by omega)
    have rS : Rd w (.slice (some ⟨b, o + 252, none⟩) 4 (c - 252)) (x.drop 252) := by
      have := hR 252 256 (by omega) (by omega)
      rwa [List.take_of_length_le (by omega)] at this
    have r2 : Rd w (.slice (some ⟨b, o, none⟩) 2 c) (x.take 2) := by simpa using hR 0 2 (by omega) (by omega)
    have lS : (x.drop 252).length = 4 := by rw [List.length_drop]; omega
    have l252 : (x.take 252).length = 252 := by rw [List.length_take]; omega
    have hq252 : (252 : Int) ≤ (c : Int) := by omega
    have hq256 : (256 : Int) ≤ (c : Int) := by omega
    have hq2 : (2 : Int) ≤ (c : Int) := by omega
    have hn252 : ¬ c = 252 := by omega
    have K1 := hide (fun u (h : Rd u (.slice (some ⟨b, o, none⟩) 252 c) (x.take 252)) => pgsumOf_any u _ _ h (by omega))
    have hS4 := oc4_iff lS hS
    have HR := hide (And.intro r252 (And.intro rS r2))
    have HL := hide lS
    have HI := hide hS4
    have h1' := hide h1
    clear r252 rS r2 lS l252 hS4 hS h1 hx hR hC hc hcm
    go_enter Try.func34, Try.ntmps34
    go_wp2_with fail
    refine wp_region_mid (fun _ => True) 4 5 mixed (by kernel_rfl) (fun _ _ _ _ h => h) trivial ?_
    dsimp only [List.take, List.drop]
    iterate 4
      refine take_one (v := ?_) (by rfl) ?_ ?_
      rotate_left
      · intro w' s1
        go_simp
        try with_reducible rfl
      try simp only [Act.put, List.setIfInBounds_toArray, List.set_cons_zero, List.set_cons_succ]
    refine mid_one fun K hK => ?_
    refine step_call (by rfl) 31 _ _ (by rfl) #[.slice (some ⟨b, o, none⟩) 252 c] (by simp [Act.eval]) (Try.call31 _ _) (K1.out w.drew (HR.out.1.drewN 1)) ?_
    rintro e w1 ⟨v1, rfl, o1, b1⟩
    refine ⟨_, rfl, hK _ _ trivial ?_⟩
    clear hK K
    try simp only [Act.put, List.setIfInBounds_toArray, List.set_cons_zero, List.set_cons_succ]
    show wpList _ _ _ _ _ _
    clear K1
    have c1 : Below w.heap.size w w1 := (Below.refl _ _).drew.trans b1
    have K2 := hide (bytesEq_any w1 _ _ _ _ (HR.out.2.1.to c1) o1.rd (by rw [HL.out]; decide) (by rw [oc_length]; decide))
    have k2 := conv_rd (HR.out.2.2.to c1) (by rw [List.length_take, h1'.out]; decide)
    obtain ⟨va, vc, rfl⟩ := o1.rd.slice
    rw [oc_length] at K2 ⊢
    clear o1 b1
    by_cases h2 : x.drop 252 = oc (sum (x.take 252)) 4
    · have h2' := hide (HI.out.1 h2)
      rw [sameB_eq h2] at K2
      clear h2
      go_wp2_with fail
      refine K2.out.mono ?_
      rintro e w' ⟨rfl, rfl⟩
      clear K2
      by_cases h3 : x.take 2 = pgmark
      · have hE := hide (pgseal_0 h1'.out h2'.out h3)
        rw [h3] at k2
        replace h3 := hide h3
        go_wp2
        go_ret
        exact ⟨ret_int hE.out.symm, c1⟩
      · have hE := hide (pgseal_22 h1'.out h2'.out h3)
        have hd2 : (x.take 2 == [112, 103]) = false := beq_eq_false_iff_ne.2 h3
        replace h3 := hide h3
        go_wp2
        go_ret
        exact ⟨ret_int hE.out.symm, c1⟩
    · have hE := hide (pgseal_21 h1'.out (fun k => h2 (HI.out.2 k)))
      rw [sameB_ne h2] at K2
      replace h2 := hide h2
      go_wp2_with fail
      refine K2.out.mono ?_
      rintro e w' ⟨rfl, rfl⟩
      go_wp2
      go_ret
      exact ⟨ret_int hE.out.symm, c1⟩
  · have hq : ((x.length : Int) != 256) = true := by simp only [bne_iff_ne]; omega
    have hE := hide (pgseal_3 h1)
    obtain ⟨a, c, rfl⟩ := hx.slice
    replace h1 := hide h1
    go_enter Try.func34, Try.ntmps34
    go_wp2
    go_ret
    exact ⟨ret_int hE.out.symm, Below.refl _ _⟩

set_option maxRecDepth 100000 in
set_option maxHeartbeats 4000000 in
theorem pgdecP_any (w : World) (v : Value) (x : List UInt8) (hx : Rd w v x) : Calls Try.prog 12 #[v] w fun e w' => ∃ v', e = .returned (.tuple #[.int .i64 (pgdec x).1, v', .int .i64 (pgdec x).2.2]) ∧ OwnB w.heap.size w' v' (pgdec x).2.1 ∧ Below w.heap.size w w' := by
  have KO := hide (pgseal_any w v x hx)
  by_cases h0 : pgseal x = 0
  · rw [h0] at KO
    obtain ⟨h1, h2, h3⟩ := pgseal_yes h0
    have D5 := hide (fun h => @pgdec_5 x h1 h2 h3 h)
    have D4 := hide (fun h => @pgdec_4 x h1 h2 h3 h)
    have D23 := hide (fun h => @pgdec_23 x h1 h2 h3 h)
    have D0 := hide (fun h => @pgdec_0 x h1 h2 h3 h)
    obtain ⟨b, o, c, rfl, hc, hcm, hR, hC⟩ := rdN hx h1 (by decide)
    have ll : ((x.take 4).drop 2).length = 2 := by rw [List.length_drop, List.length_take]; omega
    have li : ((x.take 8).drop 4).length = 4 := by rw [List.length_drop, List.length_take]; omega
    have KG := hide (fun u h => get_yes u (.slice (some ⟨b, o + 2, none⟩) 2 (c - 2)) ((x.take 4).drop 2) h (by omega) (by omega))
    have KI := hide (fun u h => get_yes u (.slice (some ⟨b, o + 4, none⟩) 4 (c - 4)) ((x.take 8).drop 4) h (by omega) (by omega))
    obtain ⟨pn, pn2⟩ := pgn_int x (by omega)
    have pi2 : pgid x < 4294967296 := by
      have := numTo_lt ((x.take 8).drop 4) ((x.take 8).drop 4).length
      unfold pgid numOf
      rw [li] at this ⊢
      omega
    rw [show numOf ((x.take 4).drop 2) = pgn x from rfl] at KG
    rw [show numOf ((x.take 8).drop 4) = pgid x from rfl] at KI
    obtain ⟨n, hn⟩ : ∃ n, n = pgn x := ⟨_, rfl⟩
    obtain ⟨I, hI⟩ : ∃ I, I = pgid x := ⟨_, rfl⟩
    rw [← hn] at KG pn2 D5 D4 D23 D0
    rw [← hI] at KI pi2 D4 D23 D0
    have hq4 : (4 : Int) ≤ (c : Int) := by omega
    have hq8 : (8 : Int) ≤ (c : Int) := by omega
    have hq252 : (252 : Int) ≤ (c : Int) := by omega
    have hn2 : ¬ c = 2 := by omega
    have hn4 : ¬ c = 4 := by omega
    have hn8 : ¬ c = 8 := by omega
    have hwn : IntKind.i64.wrap (n : Int) = (n : Int) := by rw [IntKind.wrap_i64]; omega
    have hwI : IntKind.i64.wrap (I : Int) = (I : Int) := by rw [IntKind.wrap_i64]; omega
    have HR := hide hR
    have h1' := hide h1
    have hc' := hide hc
    replace hn := hide hn
    replace hI := hide hI
    clear h0 h1 h2 h3 hx hR hC hc hcm ll li pn
    go_enter Try.func12, Try.ntmps12
    go_wp2_with fail
    refine KO.out.mono ?_
    rintro e w1 ⟨rfl, b1⟩
    clear KO
    go_wp2_with fail
    refine (KG.out w1 ((HR.out 2 4 (by omega) (by omega)).to b1)).mono ?_
    rintro e w2 ⟨rfl, b2⟩
    clear KG
    have c2 := b1.trans (b2.mono b1.size)
    go_wp2_with fail
    refine (KI.out w2 ((HR.out 4 8 (by omega) (by omega)).to c2)).mono ?_
    rintro e w3 ⟨rfl, b3⟩
    clear KI
    have c3 := c2.trans (b3.mono c2.size)
    clear b1 b2 b3 c2
    by_cases h4 : 244 < n
    · have hq : (244 : Int) < (n : Int) := by omega
      have hD := hide (D5.out h4)
      replace h4 := hide h4
      go_wp2
      go_ret3
      rw [hD.out]
      exact ⟨_, rfl, World.ownsRow_nil _ _ _ _, c3⟩
    · have hq : ¬ (244 : Int) < (n : Int) := by omega
      by_cases h5 : 2147483647 < I
      · have hq5 : (2147483647 : Int) < (I : Int) := by omega
        have hD := hide (D4.out h4 h5)
        replace h4 := hide h4
        replace h5 := hide h5
        go_wp2
        go_ret3
        rw [hD.out]
        exact ⟨_, rfl, World.ownsRow_nil _ _ _ _, c3⟩
      · have hq5 : ¬ (2147483647 : Int) < (I : Int) := by omega
        have hn244 : n ≤ 244 := by omega
        have D23' := hide (D23.out h4 h5)
        have D0' := hide (D0.out h4 h5)
        have hq8n : (8 : Int) ≤ 8 + (n : Int) := by omega
        have hqn : 8 + (n : Int) ≤ (c : Int) := by omega
        have hqn2 : 8 + (n : Int) ≤ 252 := by omega
        have hnn : ¬ c = 8 + n := by have := hc'.out; omega
        replace h4 := hide h4
        replace h5 := hide h5
        go_wp2_with fail
        go_quiet (fail)
        obtain ⟨w4, hw4⟩ : ∃ u, u = w3.drewN nq := ⟨_, rfl⟩
        rw [← hw4]
        have c4 : Below w.heap.size w w4 := c3.trans (by rw [hw4]; exact below_drewN' w3 nq _)
        obtain ⟨R, hRe⟩ : ∃ R, R = 252 - (8 + n) := ⟨_, rfl⟩
        obtain ⟨D, hDe⟩ : ∃ D, D = 8 + n - 8 := ⟨_, rfl⟩
        rw [← hRe, ← hDe]
        have rT : Rd w4 (.slice (some ⟨b, o + (8 + n), none⟩) R (c - (8 + n))) ((x.take 252).drop (8 + n)) := by
          rw [hRe]; exact (HR.out (8 + n) 252 (by omega) (by omega)).to c4
        have rD : Rd w4 (.slice (some ⟨b, o + 8, none⟩) D (c - 8)) ((x.take (8 + n)).drop 8) := by
          rw [hDe]; exact (HR.out 8 (8 + n) (by omega) (by omega)).to c4
        have lT : ((x.take 252).drop (8 + n)).length = R := by rw [List.length_drop, List.length_take, h1'.out, hRe]; omega
        have hRn : R = 244 - n := by omega
        have hmk := make_octs (n := R) (by omega) w4
        have oz := own_made w4 R (by rw [show maxLen = 9223372036854775807 from rfl]; omega)
        obtain ⟨w5, hw5⟩ : ∃ u, u = w4.alloc (.cells (madeCells #[.int .u8 0] R) 5) := ⟨_, rfl⟩
        rw [← hw5] at hmk oz
        have b5 : Below w4.heap.size w4 w5 := by rw [hw5]; exact (Below.refl _ _).alloc (Nat.le_refl _) _
        have K3 := hide (bytesEq_at w5 _ _ _ _ _ _ _ _ _ _ (rT.to b5) oz.rd lT (by simp))
        have c5 := c4.trans (b5.mono c4.size)
        have KC := hide (bclone_at w5 _ _ _ _ _ (rD.to b5) (by rw [List.length_drop, List.length_take, h1'.out]; omega))
        replace hw4 := hide hw4
        replace hw5 := hide hw5
        replace hDe := hide hDe
        replace hRe := hide hRe
        rw [← hRn] at D23' D0'
        replace hRn := hide hRn
        clear rT rD lT oz b5 c4 c3
        by_cases h6 : (x.take 252).drop (8 + n) = List.replicate R 0
        · have hD := hide (D0'.out h6)
          rw [sameB_eq h6] at K3
          replace h6 := hide h6
          go_wp2_with fail
          refine K3.out.mono ?_
          rintro e w' ⟨rfl, rfl⟩
          clear K3
          go_wp2_with fail
          refine KC.out.mono ?_
          rintro e w6 ⟨v6, rfl, o6, b6⟩
          go_wp2
          go_ret3
          rw [hD.out]
          exact ⟨_, rfl, o6.mono c5.size, c5.trans (b6.mono c5.size)⟩
        · have hD := hide (D23'.out h6)
          rw [sameB_ne h6] at K3
          replace h6 := hide h6
          go_wp2_with fail
          refine K3.out.mono ?_
          rintro e w' ⟨rfl, rfl⟩
          clear K3
          go_wp2
          go_ret3
          rw [hD.out]
          exact ⟨_, rfl, World.ownsRow_nil _ _ _ _, c5⟩
  · have hD := hide (pgdec_seal h0)
    have hbe : (pgseal x != 0) = true := by simpa using h0
    obtain ⟨a, c, rfl⟩ := hx.slice
    replace h0 := hide h0
    go_enter Try.func12, Try.ntmps12
    go_wp2_with fail
    refine KO.out.mono ?_
    rintro e w1 ⟨rfl, b1⟩
    go_wp2
    go_ret3
    rw [hD.out]
    exact ⟨_, rfl, World.ownsRow_nil _ _ _ _, b1⟩

end Go.Proofs.Ytliileemelcllaa

/-
  Pages, the program's: whether a page has a place (checkPlace), and Read.
-/
namespace Go.Proofs.Ytliileemelcllaa
open Go.RowKit
set_option linter.unusedVariables false

set_option maxRecDepth 100000 in
set_option maxHeartbeats 1000000 in
theorem ppgsect_any (w : World) (sv cv : Value) (d : Dsk) (at' : Int) (h1 : RdSec w sv d.1) (h2 : RdC w cv d.2) :
    Calls Try.prog 41 #[.agg #[sv, cv], .int .i64 at'] w fun e w' => e = .returned (.int .i64 (pgsect d at')) ∧ Below w.heap.size w w' := by
  have lb := h1.bd
  obtain ⟨a1, c1, rfl⟩ := h1.slice
  obtain ⟨a2, c2, rfl⟩ := h2.slice
  obtain ⟨X, hX, X0, bX, sX⟩ := boxedN w #[.slice a1 d.1.length c1, .slice a2 d.2.length c2] 43
  obtain ⟨A0, A1, _, _⟩ := row2_cells X0
  have KC := hide (dcheck_any X _ _ d (h1.to0 bX) (h2.to0 bX))
  rw [hX] at A0 A1
  go_enter Try.func41, Try.ntmps41
  by_cases hok : DOk d
  · rw [dcheck_ok hok] at KC
    go_wp2_with fail
    rw [← hX]
    rw [← hX] at A0 A1
    replace hX := hide hX
    refine KC.out.mono ?_
    rintro e w1 ⟨rfl, b1⟩
    replace A0 := (b1.cell (cell_lt A0)).trans A0
    by_cases hl : at' < 0
    · have hE := hide (pgsect_41 hok (.inl hl))
      replace hok := hide hok
      go_wp2
      go_ret
      exact ⟨ret_int hE.out.symm, bX.trans (b1.mono bX.size)⟩
    · by_cases hl2 : (d.1.length : Int) - 4 < at'
      · have hE := hide (pgsect_41 hok (.inr hl2))
        replace hok := hide hok
        go_wp2
        go_ret
        exact ⟨ret_int hE.out.symm, bX.trans (b1.mono bX.size)⟩
      · have hE := hide (pgsect_0.2 ⟨hok, by omega, by omega⟩ : pgsect d at' = 0)
        replace hok := hide hok
        go_wp2
        go_ret
        exact ⟨ret_int hE.out.symm, bX.trans (b1.mono bX.size)⟩
  · rw [dcheck_no hok] at KC
    have hE := hide (pgsect_9 (at' := at') hok)
    replace hok := hide hok
    go_wp2_with fail
    rw [← hX]
    replace hX := hide hX
    refine KC.out.mono ?_
    rintro e w1 ⟨rfl, b1⟩
    go_wp2
    go_ret
    exact ⟨ret_int hE.out.symm, bX.trans (b1.mono bX.size)⟩

set_option maxRecDepth 100000 in
set_option maxHeartbeats 4000000 in
theorem ppgread_any (w : World) (sv cv : Value) (d : Dsk) (at' id : Int) (h1 : RdSec w sv d.1) (h2 : RdC w cv d.2) :
    Calls Try.prog 20 #[.agg #[sv, cv], .int .i64 at', .int .i64 id] w fun e w' => ∃ v', e = .returned (.tuple #[v', .int .i64 (pgread d at' id).2]) ∧ OwnB w.heap.size w' v' (pgread d at' id).1 ∧ Below w.heap.size w w' := by
  obtain ⟨a1, c1, rfl⟩ := h1.slice
  obtain ⟨a2, c2, rfl⟩ := h2.slice
  obtain ⟨X, hX, X0, bX, sX⟩ := boxedN w #[.slice a1 d.1.length c1, .slice a2 d.2.length c2] 43
  have H1 := hide (h1.to0 bX)
  have H2 := hide (h2.to0 bX)
  have KC := hide (ppgsect_any X _ _ d at' H1.out H2.out)
  obtain ⟨E, hE⟩ : ∃ E, E = pgsect d at' := ⟨_, rfl⟩
  rw [← hE] at KC
  obtain ⟨A0, A1, _, _⟩ := row2_cells X0
  rw [hX] at A0 A1
  go_enter Try.func20, Try.ntmps20
  go_wp2_with fail
  rw [← hX]
  clear A0 A1
  replace hX := hide hX
  refine KC.out.mono ?_
  rintro e w1 ⟨rfl, b1⟩
  clear KC h1 h2
  have X1 := hide ((b1.block _ (lt_of_block X0)).trans X0)
  have c1w := hide (bX.trans (b1.mono bX.size))
  replace H1 := hide (H1.out.to0 b1)
  replace H2 := hide (H2.out.to0 b1)
  have hlt : w.heap.size < w1.heap.size := lt_of_block X1.out
  clear X0 bX b1
  by_cases h0 : E = 0
  · have hsec : Hid (pgsect d at' = 0) := by show _ = _; rw [← hE]; exact h0
    subst h0
    replace hE := hide hE
    obtain ⟨hok, hp0, hp1⟩ := pgsect_0.1 hsec.out
    have hsl := hok.2.1
    have hgl := hide (pgot_len hok hp0 hp1)
    have hdl := hide (fun k p q => @dget_len d k hok p q)
    have hok' := hide hok
    clear hok
    go_wp2
    go_loopw [9, 22] (fun v i wr => ∃ K : Nat, K ≤ 4 ∧ i = .int .i64 K ∧ Hid (OwnB w1.heap.size wr v (pgot d at' K) ∧ Below w1.heap.size w1 wr)) (fun _ i _ => 4 - (intOf i).toNat)
    case atStart => exact ⟨0, by omega, rfl, hide ⟨World.ownsRow_nil _ _ _ _, Below.refl _ _⟩⟩
    case round =>
      obtain ⟨K, hK, rfl, hI⟩ := hrel
      by_cases hlk : K < 4
      · have hqk : (K : Int) < 4 := by omega
        obtain ⟨A0, A1, _, _⟩ := row2_cells ((hI.out.2.block _ hlt).trans X1.out)
        have KG := hide (dget_any wr _ _ d (at' + K) (H1.out.to0 hI.out.2) (H2.out.to0 hI.out.2))
        have hl64 := hide (hdl.out (at' + K) (by omega) (by omega))
        have hnx : Hid (pgot d at' (K + 1) = pgot d at' K ++ (dget d (at' + K)).1) := rfl
        obtain ⟨g, ge, hg⟩ : ∃ g ge, dget d (at' + K) = (g, ge) := ⟨_, _, rfl⟩
        rw [hg] at KG hl64 hnx
        dsimp only at KG hl64 hnx
        clear hg
        obtain ⟨Y, hY⟩ : ∃ Y, Y = pgot d at' K := ⟨_, rfl⟩
        have hYl : Hid (Y.length = 64 * K) := by show _ = _; rw [hY]; exact hgl.out K (by omega)
        rw [← hY] at hnx hI
        replace hY := hide hY
        obtain ⟨s9, t9, h9⟩ := hI.out.1.rd.slice
        subst h9
        go_wp2_with fail
        refine KG.out.mono ?_
        rintro e w3 ⟨v3, rfl, o3, b3⟩
        clear KG A0 A1
        have oA := hI.out.1.below (Nat.le_refl _) b3
        have bA := hide (hI.out.2.trans (b3.mono hI.out.2.size))
        have r3 := o3.rd
        obtain ⟨s3, t3, h3⟩ := r3.slice
        subst h3
        have hl : Y.length + g.length ≤ 140737488355328 := by rw [hYl.out, hl64.out]; omega
        have hsz := bA.out.size
        clear o3 b3 hI
        go_wp2_with (at_builtin; refine wpList_append_octs rfl _ _ rfl w1.heap.size _ _ Y g rfl rfl oA r3 hl hsz ?_; intro v6 w6 o6 b6 _)
        go_roundw
        case rel => exact ⟨K + 1, by omega, by go_num, hide ⟨by rw [hnx.out]; exact o6, bA.out.trans b6⟩⟩
        case measure => simp [intOf]; omega
      · have hqk : ¬ (K : Int) < 4 := by omega
        obtain rfl : K = 4 := by omega
        have oH := hI.out.1
        have bH := hide hI.out.2
        have KD := hide (pgdecP_any wr _ _ oH.rd)
        have sN := hide (fun h => @pgread_no d at' id hsec.out h)
        have sY := hide (fun h h2 => @pgread_0 d at' id hsec.out h h2)
        obtain ⟨Y, hY⟩ : ∃ Y, Y = pgot d at' 4 := ⟨_, rfl⟩
        rw [← hY] at KD sN sY oH
        obtain ⟨n, x, er, hD⟩ : ∃ n x er, pgdec Y = (n, x, er) := ⟨_, _, _, rfl⟩
        rw [hD] at KD sN sY
        dsimp only at KD sN sY
        obtain ⟨s9, t9, h9⟩ := oH.rd.slice
        subst h9
        clear hD hY hI oH
        go_wp2_with fail
        refine KD.out.mono ?_
        rintro e w3 ⟨v3, rfl, o3, b3⟩
        have c3 := hide (c1w.out.trans (((bH.out).trans (b3.mono bH.out.size)).mono c1w.out.size))
        obtain ⟨s3, t3, h3⟩ := o3.rd.slice
        subst h3
        have hb3 : Hid (w.heap.size ≤ wr.heap.size) := Nat.le_trans c1w.out.size bH.out.size
        replace o3 := hide o3
        clear b3 KD
        by_cases he : er = 0
        · subst he
          by_cases hn : n = id
          · have hS := hide (sY.out (by trivial) hn)
            subst hn
            go_wp2
            go_ret2
            rw [hS.out]
            exact ⟨_, rfl, o3.out.mono hb3.out, c3.out⟩
          · have hS := hide (sN.out (.inr hn))
            have hne : (n != id) = true := by simpa using hn
            replace hn := hide hn
            go_wp2
            go_ret2
            rw [hS.out]
            exact ⟨_, rfl, World.ownsRow_nil _ _ _ _, c3.out⟩
        · have hS := hide (sN.out (.inl he))
          have hee : (er != 0) = true := by simpa using he
          replace he := hide he
          go_wp2
          go_ret2
          rw [hS.out]
          exact ⟨_, rfl, World.ownsRow_nil _ _ _ _, c3.out⟩
  · have hS := hide (pgread_sect (d := d) (at' := at') (id := id) (by rw [← hE]; exact h0))
    have hbe : (E != 0) = true := by simpa using h0
    replace h0 := hide h0
    replace hE := hide hE
    go_wp2
    go_ret2
    rw [hS.out]
    exact ⟨_, by rw [← hE.out]; rfl, World.ownsRow_nil _ _ _ _, c1w.out⟩

end Go.Proofs.Ytliileemelcllaa

/-
  Pages, the program's: the iterator over a page's sectors (sectorsFrom).
-/
namespace Go.Proofs.Ytliileemelcllaa
open Go.RowKit Go.Shelf
attribute [local go_sem] Oper.semAt_some
set_option linter.unusedVariables false

/-- the sector of number x that is handed out -/
def encPG (at' : Int) (b o c : Nat) (x : Nat) : Array Value := #[.int .i64 (at' + (x : Int)), .slice (some ⟨b, o + 64 * x, none⟩) 64 (c - 64 * x)]
/-- what a round keeps: the iterator's own two boxes -/
def KpP (Ba Bp : Nat) (V V' : World) : Prop := ∀ (k : Nat) (o : Obj), (k = Ba ∨ k = Bp) → V.heap[k]? = some o → o.isCells = true → V'.heap[k]? = some o
theorem KpP.trans {Ba Bp : Nat} {X Y Z : World} (h : KpP Ba Bp X Y) (k : KpP Ba Bp Y Z) : KpP Ba Bp X Z := fun i o hi h1 h2 => k i o hi (h i o hi h1 h2) h2
theorem KpP.put {Ba Bp : Nat} (W : World) (l : Nat) (o o' : Obj) (h : W.heap[l]? = some o) (ho : o.isCells = false) : KpP Ba Bp W (W.putObj l o') := by
  intro k q _ hq hc
  rw [World.putObj_heap_other (by rintro rfl; rw [h] at hq; cases hq; rw [ho] at hc; cases hc)]
  exact hq
def RP (pre : List Nat) (x : Nat) (V : World) : Prop := x = pre.length ∧ x < 4
def SP (xs : List Nat) (V : World) : Prop := xs.length = 4
set_option maxRecDepth 100000 in
theorem sectorsFrom_any (w : World) (at' : Int) (v : Value) (b : List UInt8) (hrd : Rd w v b) : Calls Try.prog 42 #[.int .i64 at', v] w fun e w' => e = .returned (.func (.func 61) #[] #[.pointer (some ⟨w.heap.size, 0, none⟩), .pointer (some ⟨w.heap.size + 1, 0, none⟩)]) ∧ w' = (w.alloc (.cells #[.int .i64 at'] 3)).alloc (.cells #[v] 22) := by
  obtain ⟨ao, cap, rfl⟩ := hrd.slice
  go_enter Try.func42, Try.ntmps42
  go_wp2
  go_ret
  exact ⟨rfl, rfl⟩

set_option maxHeartbeats 4000000 in
set_option maxRecDepth 100000 in
theorem sectors1_hands (at' : Int) (ha0 : 0 ≤ at') (ha1 : at' + 4 ≤ 9223372036854775807) (b o c : Nat) (hc : 256 ≤ c) (W0 : World) (Ba Bp : Nat) (ba : Boxed W0 Ba 3 (.int .i64 at')) (bp : Boxed W0 Bp 22 (.slice (some ⟨b, o, none⟩) 256 c)) (n : Nat) :
    Hands Fence.wide n Try.prog 61 #[.pointer (some ⟨Ba, 0, none⟩), .pointer (some ⟨Bp, 0, none⟩)] (encPG at' b o c) (KpP Ba Bp) RP SP W0 := by
  intro l J Jx W hW hJ hJx hY h0
  have I0 : Hid (Boxed W Ba 3 (.int .i64 at') ∧ Boxed W Bp 22 (.slice (some ⟨b, o, none⟩) 256 c)) := ⟨(hW.block Ba ba.lt).trans ba, (hW.block Bp bp.lt).trans bp⟩
  have hmx : Try.prog.follows .mixedOrders = true := mixed
  clear ba bp hW
  refine callsIn_of_wp Try.func61 rfl trivial ?_ rfl
  simp only [Try.ntmps61, List.size_toArray, List.length_cons, List.length_nil, Nat.reduceAdd, Nat.reduceSub, Array.replicate_succ, Array.replicate_zero, List.push_toArray, List.append_toArray, List.nil_append, List.cons_append]
  gi_wp2
  gi_loopw [5] (fun i wr => ∃ (pre : List Nat) (k : Nat), i = .int .i64 (k : Int) ∧ k = pre.length ∧ k ≤ 4 ∧ Hid (Boxed wr Ba 3 (.int .i64 at') ∧ Boxed wr Bp 22 (.slice (some ⟨b, o, none⟩) 256 c)) ∧ J pre wr) (fun i _ => 4 - (intOf i).toNat)
  case atStart => exact ⟨[], 0, rfl, rfl, by omega, I0, h0⟩
  case round =>
    obtain ⟨pre, k, rfl, hk, hk4, hit, hJs⟩ := hrel
    clear I0
    replace hk := hide hk
    have cb := hit.out.1.cell
    have cp := hit.out.2.cell
    have HJ := hide (hJ _ _ wr.drew hJs ⟨rfl, rfl, rfl, Nat.le_refl _, fun _ _ _ => rfl⟩)
    have HB : Hid (Boxed wr.drew Ba 3 (.int .i64 at') ∧ Boxed wr.drew Bp 22 (.slice (some ⟨b, o, none⟩) 256 c)) := hit
    have hcases : k = 0 ∨ k = 1 ∨ k = 2 ∨ k = 3 ∨ k = 4 := by omega
    rcases hcases with rfl | rfl | rfl | rfl | rfl
    -- ROUNDS
    · have hx : RP pre 0 wr.drew := ⟨hk.out, by decide⟩
      obtain ⟨fn, tmps, assign, body, hy', hR0⟩ := hY pre 0 wr.drew HJ.out hx
      rw [show encPG at' b o c 0 = #[.int .i64 (at'), .slice (some ⟨b, o, none⟩) 64 (c)] from by simp [encPG]] at hy'
      have hR : Hid (RoundIn Fence.wide (n - 1) Try.prog l fn tmps assign body wr.drew fun e V' => ∃ B : Bool, e = .returned (.bool B) ∧ (B = true ∧ J (pre ++ [0]) V' ∧ KpP Ba Bp wr.drew V' ∨ B = false ∧ Jx (pre ++ [0]) V')) := hR0.mono (by rintro e V' (⟨rfl, h⟩ | ⟨rfl, h⟩); exact ⟨true, rfl, .inl ⟨rfl, h⟩⟩; exact ⟨false, rfl, .inr ⟨rfl, h⟩⟩)
      have hqh : (64 : Int) ≤ (c : Int) := by omega
      have hn0 : ¬ c = 0 := by omega
      have x0 : IntKind.i64.wrap (0 : Int) = 0 := by decide
      have x1 : IntKind.i64.wrap (64 : Int) = 64 := by decide
      have x3 : IntKind.i64.wrap (1 : Int) = 1 := by decide
      have x2 : IntKind.i64.wrap (at') = at' := by rw [IntKind.wrap_i64]; omega
      clear hR0 hY hx hJs hit HJ
      gi_wp2_with fail
      gi_region_with_o (refine ⟨(fun h => by cases h), hR.out.mono ?_⟩; rintro e W3 ⟨B, rfl, hB⟩)
      all_goals
        cases B with
        | true =>
          rcases hB with ⟨_, hJ3, hk3⟩ | ⟨h, _⟩
          · have h3 : Hid (Boxed W3 Ba 3 (.int .i64 at') ∧ Boxed W3 Bp 22 (.slice (some ⟨b, o, none⟩) 256 c)) := ⟨hk3 _ _ (.inl rfl) HB.out.1 rfl, hk3 _ _ (.inr rfl) HB.out.2 rfl⟩
            have HJ3 := hide hJ3
            clear hJ3 hk3 hR hy' cb cp HB
            gi_wp2
            go_roundw
            case rel => exact ⟨pre ++ [0], 1, by go_num, by rw [List.length_append, ← hk.out]; rfl, by omega, h3, HJ3.out⟩
            case measure => simp [intOf]
          · cases h
        | false =>
          rcases hB with ⟨h, _⟩ | ⟨_, hJx3⟩
          · cases h
          · clear hR hy' cb cp HB
            gi_wp2
            refine bodyPost_ret (results_none rfl _ _ _) rfl ?_
            exact ⟨⟨_, rfl⟩, .inr ⟨_, hJx3⟩⟩
    · have hx : RP pre 1 wr.drew := ⟨hk.out, by decide⟩
      obtain ⟨fn, tmps, assign, body, hy', hR0⟩ := hY pre 1 wr.drew HJ.out hx
      rw [show encPG at' b o c 1 = #[.int .i64 (at' + 1), .slice (some ⟨b, o + 64, none⟩) 64 (c - 64)] from by simp [encPG]] at hy'
      have hR : Hid (RoundIn Fence.wide (n - 1) Try.prog l fn tmps assign body wr.drew fun e V' => ∃ B : Bool, e = .returned (.bool B) ∧ (B = true ∧ J (pre ++ [1]) V' ∧ KpP Ba Bp wr.drew V' ∨ B = false ∧ Jx (pre ++ [1]) V')) := hR0.mono (by rintro e V' (⟨rfl, h⟩ | ⟨rfl, h⟩); exact ⟨true, rfl, .inl ⟨rfl, h⟩⟩; exact ⟨false, rfl, .inr ⟨rfl, h⟩⟩)
      have hqh : (128 : Int) ≤ (c : Int) := by omega
      have hn0 : ¬ c = 64 := by omega
      have x0 : IntKind.i64.wrap (64 : Int) = 64 := by decide
      have x1 : IntKind.i64.wrap (128 : Int) = 128 := by decide
      have x3 : IntKind.i64.wrap (2 : Int) = 2 := by decide
      have x2 : IntKind.i64.wrap (at' + 1) = at' + 1 := by rw [IntKind.wrap_i64]; omega
      clear hR0 hY hx hJs hit HJ
      gi_wp2_with fail
      gi_region_with_o (refine ⟨(fun h => by cases h), hR.out.mono ?_⟩; rintro e W3 ⟨B, rfl, hB⟩)
      all_goals
        cases B with
        | true =>
          rcases hB with ⟨_, hJ3, hk3⟩ | ⟨h, _⟩
          · have h3 : Hid (Boxed W3 Ba 3 (.int .i64 at') ∧ Boxed W3 Bp 22 (.slice (some ⟨b, o, none⟩) 256 c)) := ⟨hk3 _ _ (.inl rfl) HB.out.1 rfl, hk3 _ _ (.inr rfl) HB.out.2 rfl⟩
            have HJ3 := hide hJ3
            clear hJ3 hk3 hR hy' cb cp HB
            gi_wp2
            go_roundw
            case rel => exact ⟨pre ++ [1], 2, by go_num, by rw [List.length_append, ← hk.out]; rfl, by omega, h3, HJ3.out⟩
            case measure => simp [intOf]
          · cases h
        | false =>
          rcases hB with ⟨h, _⟩ | ⟨_, hJx3⟩
          · cases h
          · clear hR hy' cb cp HB
            gi_wp2
            refine bodyPost_ret (results_none rfl _ _ _) rfl ?_
            exact ⟨⟨_, rfl⟩, .inr ⟨_, hJx3⟩⟩
    · have hx : RP pre 2 wr.drew := ⟨hk.out, by decide⟩
      obtain ⟨fn, tmps, assign, body, hy', hR0⟩ := hY pre 2 wr.drew HJ.out hx
      rw [show encPG at' b o c 2 = #[.int .i64 (at' + 2), .slice (some ⟨b, o + 128, none⟩) 64 (c - 128)] from by simp [encPG]] at hy'
      have hR : Hid (RoundIn Fence.wide (n - 1) Try.prog l fn tmps assign body wr.drew fun e V' => ∃ B : Bool, e = .returned (.bool B) ∧ (B = true ∧ J (pre ++ [2]) V' ∧ KpP Ba Bp wr.drew V' ∨ B = false ∧ Jx (pre ++ [2]) V')) := hR0.mono (by rintro e V' (⟨rfl, h⟩ | ⟨rfl, h⟩); exact ⟨true, rfl, .inl ⟨rfl, h⟩⟩; exact ⟨false, rfl, .inr ⟨rfl, h⟩⟩)
      have hqh : (192 : Int) ≤ (c : Int) := by omega
      have hn0 : ¬ c = 128 := by omega
      have x0 : IntKind.i64.wrap (128 : Int) = 128 := by decide
      have x1 : IntKind.i64.wrap (192 : Int) = 192 := by decide
      have x3 : IntKind.i64.wrap (3 : Int) = 3 := by decide
      have x2 : IntKind.i64.wrap (at' + 2) = at' + 2 := by rw [IntKind.wrap_i64]; omega
      clear hR0 hY hx hJs hit HJ
      gi_wp2_with fail
      gi_region_with_o (refine ⟨(fun h => by cases h), hR.out.mono ?_⟩; rintro e W3 ⟨B, rfl, hB⟩)
      all_goals
        cases B with
        | true =>
          rcases hB with ⟨_, hJ3, hk3⟩ | ⟨h, _⟩
          · have h3 : Hid (Boxed W3 Ba 3 (.int .i64 at') ∧ Boxed W3 Bp 22 (.slice (some ⟨b, o, none⟩) 256 c)) := ⟨hk3 _ _ (.inl rfl) HB.out.1 rfl, hk3 _ _ (.inr rfl) HB.out.2 rfl⟩
            have HJ3 := hide hJ3
            clear hJ3 hk3 hR hy' cb cp HB
            gi_wp2
            go_roundw
            case rel => exact ⟨pre ++ [2], 3, by go_num, by rw [List.length_append, ← hk.out]; rfl, by omega, h3, HJ3.out⟩
            case measure => simp [intOf]
          · cases h
        | false =>
          rcases hB with ⟨h, _⟩ | ⟨_, hJx3⟩
          · cases h
          · clear hR hy' cb cp HB
            gi_wp2
            refine bodyPost_ret (results_none rfl _ _ _) rfl ?_
            exact ⟨⟨_, rfl⟩, .inr ⟨_, hJx3⟩⟩
    · have hx : RP pre 3 wr.drew := ⟨hk.out, by decide⟩
      obtain ⟨fn, tmps, assign, body, hy', hR0⟩ := hY pre 3 wr.drew HJ.out hx
      rw [show encPG at' b o c 3 = #[.int .i64 (at' + 3), .slice (some ⟨b, o + 192, none⟩) 64 (c - 192)] from by simp [encPG]] at hy'
      have hR : Hid (RoundIn Fence.wide (n - 1) Try.prog l fn tmps assign body wr.drew fun e V' => ∃ B : Bool, e = .returned (.bool B) ∧ (B = true ∧ J (pre ++ [3]) V' ∧ KpP Ba Bp wr.drew V' ∨ B = false ∧ Jx (pre ++ [3]) V')) := hR0.mono (by rintro e V' (⟨rfl, h⟩ | ⟨rfl, h⟩); exact ⟨true, rfl, .inl ⟨rfl, h⟩⟩; exact ⟨false, rfl, .inr ⟨rfl, h⟩⟩)
      have hqh : (256 : Int) ≤ (c : Int) := by omega
      have hn0 : ¬ c = 192 := by omega
      have x0 : IntKind.i64.wrap (192 : Int) = 192 := by decide
      have x1 : IntKind.i64.wrap (256 : Int) = 256 := by decide
      have x3 : IntKind.i64.wrap (4 : Int) = 4 := by decide
      have x2 : IntKind.i64.wrap (at' + 3) = at' + 3 := by rw [IntKind.wrap_i64]; omega
      clear hR0 hY hx hJs hit HJ
      gi_wp2_with fail
      gi_region_with_o (refine ⟨(fun h => by cases h), hR.out.mono ?_⟩; rintro e W3 ⟨B, rfl, hB⟩)
      all_goals
        cases B with
        | true =>
          rcases hB with ⟨_, hJ3, hk3⟩ | ⟨h, _⟩
          · have h3 : Hid (Boxed W3 Ba 3 (.int .i64 at') ∧ Boxed W3 Bp 22 (.slice (some ⟨b, o, none⟩) 256 c)) := ⟨hk3 _ _ (.inl rfl) HB.out.1 rfl, hk3 _ _ (.inr rfl) HB.out.2 rfl⟩
            have HJ3 := hide hJ3
            clear hJ3 hk3 hR hy' cb cp HB
            gi_wp2
            go_roundw
            case rel => exact ⟨pre ++ [3], 4, by go_num, by rw [List.length_append, ← hk.out]; rfl, by omega, h3, HJ3.out⟩
            case measure => simp [intOf]
          · cases h
        | false =>
          rcases hB with ⟨h, _⟩ | ⟨_, hJx3⟩
          · cases h
          · clear hR hy' cb cp HB
            gi_wp2
            refine bodyPost_ret (results_none rfl _ _ _) rfl ?_
            exact ⟨⟨_, rfl⟩, .inr ⟨_, hJx3⟩⟩
    -- ROUNDS END
    · have hS : SP pre wr := hk.out.symm
      have HS := hide hS
      have HJ0 := hide hJs
      clear hS hJs HJ hit HB cb cp hY
      gi_wp2
      go_end0
      exact ⟨⟨_, rfl⟩, .inl ⟨_, HS.out, HJ0.out⟩⟩

end Go.Proofs.Ytliileemelcllaa

/-
  Pages, the program's: Write.
-/
namespace Go.Proofs.Ytliileemelcllaa
open Go.RowKit Go.Shelf
attribute [local go_sem] Oper.semAt_some
set_option linter.unusedVariables false

theorem dok_pwsK {d : Dsk} (h : DOk d) {at' : Int} {b : List UInt8} (hb : b.length = 256) (h0 : 0 ≤ at') (h1 : at' ≤ (d.1.length : Int) - 4) {k : Nat} (hk : k ≤ 4) (hc : d.2.length + k ≤ 4096) : DOk (d.1, d.2 ++ pws at' b k) := by
  refine ⟨h.1, h.2.1, ?_, h.2.2.2.1, ?_⟩
  · show (d.2 ++ _).length ≤ _
    rw [List.length_append, pws_len]; omega
  · intro y hy
    rcases List.mem_append.1 hy with hy | hy
    · exact h.2.2.2.2 y hy
    · obtain ⟨i, hi, rfl⟩ := pws_mem hy
      exact ⟨⟨by dsimp only; omega, by dsimp only; omega⟩, psec_len hb (by omega)⟩
theorem dput_pwsK {d : Dsk} (h : DOk d) {at' : Int} {b : List UInt8} (hb : b.length = 256) (h0 : 0 ≤ at') (h1 : at' ≤ (d.1.length : Int) - 4) {k : Nat} (hk : k < 4) (hc : d.2.length + k < 4096) : dput (d.1, d.2 ++ pws at' b k) (at' + k) (psec b k) = ((d.1, d.2 ++ pws at' b (k + 1)), 0) := by
  have hs : dsect (d.1, d.2 ++ pws at' b k) (at' + k) = 0 := dsect_zero.2 ⟨dok_pwsK h hb h0 h1 (by omega) (by omega), by show 0 ≤ at' + (k : Int) ∧ at' + (k : Int) < (d.1.length : Int); omega⟩
  have hl := psec_len hb hk
  unfold dput
  rw [if_neg (fun e => e hs), if_neg (by omega), if_neg (by show ¬ 4096 ≤ (d.2 ++ _).length; rw [List.length_append, pws_len]; omega), pad_id hl]
  show ((d.1, d.2 ++ pws at' b k ++ [(at' + k, psec b k)]), 0) = _
  rw [List.append_assoc]
  rfl
theorem dput_pws_full {d : Dsk} (h : DOk d) {at' : Int} {b : List UInt8} (hb : b.length = 256) (h0 : 0 ≤ at') (h1 : at' ≤ (d.1.length : Int) - 4) {k : Nat} (hk : k < 4) (hc : d.2.length + k = 4096) : dput (d.1, d.2 ++ pws at' b k) (at' + k) (psec b k) = (([], []), 51) := by
  have hs : dsect (d.1, d.2 ++ pws at' b k) (at' + k) = 0 := dsect_zero.2 ⟨dok_pwsK h hb h0 h1 (by omega) (by omega), by show 0 ≤ at' + (k : Int) ∧ at' + (k : Int) < (d.1.length : Int); omega⟩
  have hl := psec_len hb hk
  unfold dput
  rw [if_neg (fun e => e hs), if_neg (by omega), if_pos (by show 4096 ≤ (d.2 ++ _).length; rw [List.length_append, pws_len]; omega)]

/-- what is the call's own lies in cells -/
def OnCells {α : Type} (s : Shp α) : Prop := ∀ {F w cs x}, s.own F w cs x → ∀ b, b ∈ F → ∃ o, w.heap[b]? = some o ∧ o.isCells = true
theorem onCells_int (k : IntKind) : OnCells (Shp.int k) := by
  rintro F w cs x ⟨rfl, _⟩ b hb; cases hb
theorem onCells_octs : OnCells Shp.octs := by
  rintro F w cs x ⟨v, rfl, h, rfl⟩ b hb
  rcases h.2 with ⟨rfl, _⟩ | ⟨g, cap, cur, rfl, h0, hg, r⟩
  · cases hb
  · simp [Value.ownBlock] at hb; subst hb; exact ⟨_, hg, rfl⟩
theorem onCells_pair {α β : Type} {s : Shp α} {t : Shp β} (h1 : OnCells s) (h2 : OnCells t) : OnCells (s.pair t) := by
  rintro F w cs x ⟨c, d, G, H, rfl, rfl, k1, k2⟩ b hb
  rcases List.mem_append.1 hb with h | h
  · exact h1 k1 b h
  · exact h2 k2 b h
theorem onCells_each {α : Type} {s : Shp α} (h1 : OnCells s) {w : World} : ∀ {xs : List α} {F cc}, ownEach s w F cc xs → ∀ b, b ∈ F → ∃ o, w.heap[b]? = some o ∧ o.isCells = true
  | [], F, cc, h, b, hb => by rw [h.1] at hb; cases hb
  | x :: xs, F, cc, ⟨F1, F2, c1, c2, e1, e2, k1, k2⟩, b, hb => by
    rw [e1] at hb
    rcases List.mem_append.1 hb with h | h
    · exact h1 k1 b h
    · exact onCells_each h1 k2 b h
theorem onCells_list {α : Type} {s : Shp α} (T : Nat) (h1 : OnCells s) : OnCells (Shp.list T s) := by
  rintro F w cs xs ⟨v, cc, G, rfl, k1, k2, rfl⟩ b hb
  rcases List.mem_append.1 hb with h | h
  · rcases k1.2 with ⟨rfl, _⟩ | ⟨g, cap, cur, rfl, h0, hg, r⟩
    · cases h
    · simp [Value.ownBlock] at h; subst h; exact ⟨_, hg, rfl⟩
  · exact onCells_each h1 k2 b h
theorem onCells_state : OnCells SStP := onCells_pair (onCells_list _ onCells_octs) (onCells_list _ (onCells_pair (onCells_int _) onCells_octs))
theorem KpC.ownS {α : Type} {s : Shp α} (hs : OnCells s) {V V' : World} (h : KpC V V') {B : Nat} {cs : List Value} {x : α} (o : Own s B V cs x) : Own s B V' cs x := by
  obtain ⟨F, h1, h2, h3⟩ := o
  refine ⟨F, s.own_to h1 fun b hb => ?_, h2, h3⟩
  obtain ⟨o, e, hc⟩ := hs h1 b hb
  exact (h.2 b o e hc).trans e.symm
theorem KpC.rdSec {V V' : World} (h : KpC V V') {v : Value} {ss : List (List UInt8)} (hr : RdSec V v ss) : RdSec V' v ss := by
  obtain ⟨ao, cap, rfl, h1, h2, h3, h4⟩ := hr
  refine ⟨ao, cap, rfl, h1, h2, h3, ?_⟩
  rcases h4 with h4 | ⟨b, off, rfl, hc⟩
  · exact .inl h4
  · refine .inr ⟨b, off, rfl, fun i x hx => ?_⟩
    obtain ⟨c, ⟨v, e, hv⟩, hcell⟩ := hc i x hx
    exact ⟨c, ⟨v, e, h.rd hv⟩, fun j u hj => h.cell (hcell j u hj)⟩
theorem rd_at {w V : World} {g o n c : Nat} {b : List UInt8} (h : Rd w (.slice (some ⟨g, o, none⟩) n c) b) (hg : V.heap[g]? = w.heap[g]?) : Rd V (.slice (some ⟨g, o, none⟩) n c) b := by
  obtain ⟨ao, cap, e, h1, h2, h3, h4⟩ := h
  refine ⟨ao, cap, e, h1, h2, h3, ?_⟩
  rcases h4 with h4 | ⟨b', off, rfl, hc⟩
  · exact .inl h4
  · simp only [Value.slice.injEq, Option.some.injEq, Addr.mk.injEq, and_true] at e
    obtain ⟨⟨rfl, rfl⟩, _, _⟩ := e
    exact .inr ⟨_, _, rfl, fun i hi => (World.cell?_of_block hg).trans (hc i hi)⟩
theorem results_rowbox {P : Program} {fn : Func} {p q : Tmp} {t1 t2 : TypeId} (h : fn.results = #[.cell p t1, .cell q t2]) (tmps : Array Value) (w : World) (g1 g2 : Nat) (x y v2 : Value) (t : TypeId) (fr : Nat × Nat) (d1 d2 : TypeDesc)
    (hu1 : P.underlying t1 = some d1) (hd1 : (match d1 with | .struct _ | .array _ _ => true | _ => false) = true) (hd2 : (match d2 with | .struct _ | .array _ _ => true | _ => false) = false) (hi : (P.info? t1).map (·.size) = some 2) (hu2 : P.underlying t2 = some d2) (hp : tmps.getD p undef = .pointer (some ⟨g1, 0, none⟩)) (hq : tmps.getD q undef = .pointer (some ⟨g2, 0, none⟩))
    (c1 : w.heap[g1]? = some (.cells #[x, y] t fr)) (c2 : w.cell? ⟨g2, 0, none⟩ = some v2) : (results fn tmps).run P w = .ok (.tuple #[.agg #[x, y], v2]) w := by
  have hp' : tmps[p]?.getD undef = .pointer (some ⟨g1, 0, none⟩) := by simpa using hp
  have hq' : tmps[q]?.getD undef = .pointer (some ⟨g2, 0, none⟩) := by simpa using hq
  simp [results, h, hp', hq', asAddr, run_loadVar_row w g1 t t1 #[x, y] fr d1 c1 hu1 hd1 hi, run_loadVar_one d2 hd2 hu2 c2]

def putRes (U : World) (g : Nat) (p q r : Value) : World := ((U.setCell ⟨g + 1, 0, none⟩ p).setCell ⟨g + 1, 1, none⟩ q).setCell ⟨g + 1 + 1, 0, none⟩ r
theorem putRes_row {U : World} {g : Nat} {x y : Value} {t : TypeId} {fr : Nat × Nat} (h : U.heap[g + 1]? = some (.cells #[x, y] t fr)) (p q r : Value) : (putRes U g p q r).heap[g + 1]? = some (.cells #[p, q] t fr) := by
  unfold putRes
  rw [Below.heap_setCell _ _ _ _ (by show g + 1 ≠ g + 1 + 1; omega)]
  exact heap_set2 h p q
theorem putRes_box {U : World} {g : Nat} {v : Value} {t : TypeId} (h : Boxed U (g + 1 + 1) t v) (p q r : Value) : Boxed (putRes U g p q r) (g + 1 + 1) t r := by
  unfold putRes
  have : Boxed ((U.setCell ⟨g + 1, 0, none⟩ p).setCell ⟨g + 1, 1, none⟩ q) (g + 1 + 1) t v := by
    show (_ : Option Obj) = _
    rw [Below.heap_setCell _ _ _ _ (by show g + 1 + 1 ≠ g + 1; omega), Below.heap_setCell _ _ _ _ (by show g + 1 + 1 ≠ g + 1; omega)]; exact h
  exact this.set r
theorem putRes_below {B : Nat} {w U : World} (h : Below B w U) {g : Nat} (hg : B ≤ g) (p q r : Value) : Below B w (putRes U g p q r) :=
  (below_set2 h (show B ≤ g + 1 by omega) p q).setCell (p := ⟨g + 1 + 1, 0, none⟩) (show B ≤ g + 1 + 1 by omega) r
theorem putRes_own {α : Type} {s : Shp α} {B : Nat} {U : World} {cs : List Value} {x : α} (h : Own s B U cs x) {g : Nat} (hg : g + 1 + 1 < B) (p q r : Value) : Own s B (putRes U g p q r) cs x :=
  ((h.set (a := ⟨g + 1, 0, none⟩) (show g + 1 < B by omega) p).set (a := ⟨g + 1, 1, none⟩) (show g + 1 < B by omega) q).set (a := ⟨g + 1 + 1, 0, none⟩) hg r
theorem putRes_other {U : World} {g k : Nat} (h1 : k ≠ g + 1) (h2 : k ≠ g + 1 + 1) (p q r : Value) : (putRes U g p q r).heap[k]? = U.heap[k]? := by
  unfold putRes
  rw [Below.heap_setCell _ _ _ _ h2, Below.heap_setCell _ _ _ _ h1, Below.heap_setCell _ _ _ _ h1]
theorem putRes_keeps (U : World) (g : Nat) (p q r : Value) : KeepsOthers U (putRes U g p q r) := ((KeepsOthers.setCell _ _ _).trans (KeepsOthers.setCell _ _ _)).trans (KeepsOthers.setCell _ _ _)
/-- the disk and the error behind a sector that was put -/
def putSec (U : World) (g ge : Nat) (p q r : Value) : World := ((U.setCell ⟨g, 0, none⟩ p).setCell ⟨g, 1, none⟩ q).setCell ⟨ge, 0, none⟩ r
theorem putSec_other {U : World} {g ge k : Nat} (h1 : k ≠ g) (h2 : k ≠ ge) (p q r : Value) : (putSec U g ge p q r).heap[k]? = U.heap[k]? := by
  unfold putSec
  rw [Below.heap_setCell _ _ _ _ h2, Below.heap_setCell _ _ _ _ h1, Below.heap_setCell _ _ _ _ h1]
theorem putSec_keeps (U : World) (g ge : Nat) (p q r : Value) : KeepsOthers U (putSec U g ge p q r) := ((KeepsOthers.setCell _ _ _).trans (KeepsOthers.setCell _ _ _)).trans (KeepsOthers.setCell _ _ _)

/-- between two rounds: the disk in its box, the answer's boxes, the error's, the page's octets -/
def IW (w : World) (d : Dsk) (at' : Int) (b : List UInt8) (w2 : World) (gb : Nat) (pre : List Nat) (V : World) : Prop :=
  ∃ s c, Below w.heap.size w V ∧ V.heap[w.heap.size]? = some (.cells #[s, c] 43 (0, 0)) ∧ V.heap[w.heap.size + 1]? = some (.cells #[.slice none 0 0, .slice none 0 0] 43 (0, 0)) ∧ Boxed V (w.heap.size + 1 + 1) 24 (.int .i64 0) ∧ Boxed V w2.heap.size 24 (.int .i64 0) ∧
    V.heap[gb]? = w2.heap[gb]? ∧ RdSec V s d.1 ∧ RdC V c (d.2 ++ pws at' b pre.length) ∧ (1 ≤ pre.length → Own SStP (w2.heap.size + 1) V [s, c] (d.1, d.2 ++ pws at' b pre.length)) ∧ d.2.length + pre.length ≤ 4096
def XW (w : World) (d : Dsk) (c : Code) (pre : List Nat) (V : World) : Prop :=
  c = .ret ∧ 4092 < d.2.length ∧ Below w.heap.size w V ∧ V.heap[w.heap.size + 1]? = some (.cells #[.slice none 0 0, .slice none 0 0] 43 (0, 0)) ∧ Boxed V (w.heap.size + 1 + 1) 24 (.int .i64 51)
def actW (w w2 : World) (s1 s2 s3 : Value) (at' id : Int) (gb go gc : Nat) (x : Nat) : Act := { tmps := #[.agg #[s1, s2], .int .i64 at', .int .i64 id, s3, .pointer (some ⟨w.heap.size, 0, none⟩), undef, undef, undef, .pointer (some ⟨w.heap.size + 1, 0, none⟩), .pointer (some ⟨w.heap.size + 1 + 1, 0, none⟩), .int .i64 0, .slice (some ⟨gb, go, none⟩) 256 gc, .pointer (some ⟨w2.heap.size, 0, none⟩), .int .i64 (at' + (x : Int)), .slice (some ⟨gb, go + 64 * x, none⟩) 64 (gc - 64 * x), .agg #[s1, s2], .int .i64 at', .int .i64 0, .int .i64 0, .bool false, undef, undef, .tuple #[.slice (some ⟨gb, go, none⟩) 256 gc, .int .i64 0], .int .i64 id, s3, .tuple #[.slice (some ⟨gb, go, none⟩) 256 gc, .int .i64 0], .slice (some ⟨gb, go, none⟩) 256 gc, .int .i64 0, .int .i64 0, .bool false, undef, undef, .int .i64 at', .slice (some ⟨gb, go, none⟩) 256 gc, .func (.func 61) #[] #[.pointer (some ⟨w2.heap.size + 1, 0, none⟩), .pointer (some ⟨w2.heap.size + 1 + 1, 0, none⟩)], .int .i64 (at' + (x : Int)), .slice (some ⟨gb, go + 64 * x, none⟩) 64 (gc - 64 * x), undef, undef, undef, undef, undef, undef, undef, undef, undef, undef, undef, undef], defers := [] }
def AW (w : World) (d : Dsk) (at' : Int) (b : List UInt8) (w2 : World) (s1 s2 s3 : Value) (id : Int) (gb go gc : Nat) (pre : List Nat) (x : Nat) (a : Act) (V : World) : Prop :=
  IW w d at' b w2 gb pre V ∧ RP pre x V ∧ a = actW w w2 s1 s2 s3 at' id gb go gc x
theorem IW_kpc {w : World} {d : Dsk} {at' : Int} {b : List UInt8} {w2 : World} {gb : Nat} {pre : List Nat} {X Y : World} (k : KpC X Y) (hb : Below w.heap.size w Y) (hgb : ∃ o, w2.heap[gb]? = some o ∧ o.isCells = true) (h : IW w d at' b w2 gb pre X) : IW w d at' b w2 gb pre Y := by
  obtain ⟨s, c, h1, h2, h3, h4, h5, h6, h7, h8, h9, h10⟩ := h
  obtain ⟨o, ho, hc⟩ := hgb
  exact ⟨s, c, hb, k.2 _ _ h2 rfl, k.2 _ _ h3 rfl, k.2 _ _ h4 rfl, k.2 _ _ h5 rfl, (k.2 _ _ (h6.trans ho) hc).trans ho.symm, k.rdSec h7, k.rdC h8, fun q => k.ownS onCells_state (h9 q), h10⟩
theorem IW_own (w : World) (d : Dsk) (at' : Int) (b : List UInt8) (w2 : World) (gb B : Nat) (hB : w.heap.size ≤ B) (hgb : ∃ o, w2.heap[gb]? = some o ∧ o.isCells = true) : OwnFrom B (IW w d at' b w2 gb) := by
  rintro pre X Y row h hg hr
  have hb : Below w.heap.size w X := by obtain ⟨s, c, h1, _⟩ := h; exact h1
  exact IW_kpc (KpC.of_grown hg hr) (hb.grown hg hb.size (fun k e => by have := (hr k e).1; omega)) hgb h
theorem XW_own (w : World) (d : Dsk) (B : Nat) (hB : w.heap.size ≤ B) (c : Code) : OwnFrom B (XW w d c) := by
  rintro pre X Y row ⟨rfl, h0, hb, h2, h3⟩ hg hr
  have kp := KpC.of_grown hg hr
  exact ⟨rfl, h0, hb.grown hg hb.size (fun k e => by have := (hr k e).1; omega), kp.2 _ _ h2 rfl, kp.2 _ _ h3 rfl⟩

set_option maxHeartbeats 4000000 in
set_option maxRecDepth 100000 in
theorem ppgwrite_any (w : World) (sv cv v : Value) (d : Dsk) (at' id : Int) (x : List UInt8) (h1 : RdSec w sv d.1) (h2 : RdC w cv d.2) (hx : Rd w v x) :
    Calls Try.prog 18 #[.agg #[sv, cv], .int .i64 at', .int .i64 id, v] w fun e w' => ∃ sv' cv', e = .returned (.tuple #[.agg #[sv', cv'], .int .i64 (pgwrite d at' id x).2]) ∧ Own SStP w.heap.size w' [sv', cv'] (pgwrite d at' id x).1 ∧ Below w.heap.size w w' := by
  refine (callsIn_wide (n := 5)).1 ?_
  have sD := hide (fun h => @pgwrite_sect d at' id x h)
  have sE := hide (fun h h2 => @pgwrite_enc d at' id x h h2)
  have sF := hide (fun h h2 h3 => @pgwrite_full d at' id x h h2 h3)
  have sY := hide (fun h h2 h3 => @pgwrite_0 d at' id x h h2 h3)
  have KE := hide (fun u h => pgencP_any u id v x h)
  have hbl := hide (fun (h : (pgenc id x).2 = 0) => show (pgenc id x).1.length = 256 by rw [(pgenc_zero h).2.2]; exact pgenc_len _ (pgenc_zero h).2.1)
  obtain ⟨bb, er, hb⟩ : ∃ bb er, pgenc id x = (bb, er) := ⟨_, _, rfl⟩
  rw [hb] at sE sF sY KE hbl
  dsimp only at sE sF sY KE hbl
  generalize hST : pgwrite d at' id x = ST at *
  clear hb hST
  obtain ⟨a1, c1, rfl⟩ := h1.slice
  obtain ⟨a2, c2, rfl⟩ := h2.slice
  obtain ⟨a3, c3, rfl⟩ := hx.slice
  obtain ⟨W, hW⟩ : ∃ W, W = ((w.alloc (.cells #[.slice a1 d.1.length c1, .slice a2 d.2.length c2] 43)).alloc (.cells #[.slice none 0 0, .slice none 0 0] 43)).alloc (.cells #[.int .i64 0] 24) := ⟨_, rfl⟩
  have sW : W.heap.size = w.heap.size + 1 + 1 + 1 := by rw [hW]; simp
  have bW : Below w.heap.size w W := by rw [hW]; exact (((Below.refl _ _).alloc (Nat.le_refl _) _).alloc (by simp) _).alloc (by simp <;> omega) _
  have hA : W.heap[w.heap.size]? = some (.cells #[.slice a1 d.1.length c1, .slice a2 d.2.length c2] 43 (0, 0)) := by
    rw [hW, Below.heap_alloc _ _ _ (by simp <;> omega), Below.heap_alloc _ _ _ (by simp)]; exact heap_alloc_last w _
  have hB : W.heap[w.heap.size + 1]? = some (.cells #[.slice none 0 0, .slice none 0 0] 43 (0, 0)) := by
    rw [hW, Below.heap_alloc _ _ _ (by simp)]
    have := heap_alloc_last (w.alloc (.cells #[.slice a1 d.1.length c1, .slice a2 d.2.length c2] 43)) (.cells #[.slice none 0 0, .slice none 0 0] 43); simpa using this
  have hC : Boxed W (w.heap.size + 1 + 1) 24 (.int .i64 0) := by
    show W.heap[_]? = _
    rw [hW]
    have := heap_alloc_last ((w.alloc (.cells #[.slice a1 d.1.length c1, .slice a2 d.2.length c2] 43)).alloc (.cells #[.slice none 0 0, .slice none 0 0] 43)) (.cells #[.int .i64 0] 24); simpa using this
  obtain ⟨A0, A1, _, _⟩ := row2_cells hA
  have KC := hide (ppgsect_any W _ _ d at' (h1.to0 bW) (h2.to0 bW))
  obtain ⟨E, hE⟩ : ∃ E, E = pgsect d at' := ⟨_, rfl⟩
  rw [← hE] at KC
  refine callsIn_of_wp_marks Try.func18 rfl trivial ?_ rfl
  simp only [Try.ntmps18, List.size_toArray, List.length_cons, List.length_nil, Nat.reduceAdd, Nat.reduceSub, Array.replicate_succ, Array.replicate_zero, List.push_toArray, List.append_toArray, List.nil_append, List.cons_append]
  gi_wp2_with fail
  rw [← hW]
  replace hW := hide hW
  refine ⟨trivial, ?_⟩
  refine (callsIn_wide.2 KC.out).mono ?_
  rintro e w1 ⟨rfl, b1⟩
  clear KC
  have c1w := bW.trans (b1.mono bW.size)
  have hA1 := (b1.block w.heap.size (by omega)).trans hA
  have hB1 := (b1.block (w.heap.size + 1) (by omega)).trans hB
  have hC1 : Boxed w1 (w.heap.size + 1 + 1) 24 (.int .i64 0) := (b1.block _ (by omega)).trans hC
  have hs1 : w.heap.size + 1 + 1 + 1 ≤ w1.heap.size := by have := b1.size; omega
  clear hA hB hC A0 A1 b1 bW
  by_cases h0 : E = 0
  · have hsec : Hid (pgsect d at' = 0) := by show _ = _; rw [← hE]; exact h0
    subst h0
    replace hE := hide hE
    have KE1 := hide (KE.out w1 (hx.to c1w))
    clear KE
    gi_wp2_with fail
    refine ⟨trivial, ?_⟩
    refine (callsIn_wide.2 KE1.out).mono ?_
    rintro e w2 ⟨v2, rfl, o2, b2⟩
    clear KE1
    have c2w := c1w.trans (b2.mono c1w.size)
    have hA2 := (b2.block w.heap.size (by omega)).trans hA1
    have hB2 := (b2.block (w.heap.size + 1) (by omega)).trans hB1
    have hC2 : Boxed w2 (w.heap.size + 1 + 1) 24 (.int .i64 0) := (b2.block _ (by omega)).trans hC1
    have hs2 := b2.size
    obtain ⟨w4, hw4⟩ : ∃ u, u = w2.alloc (.cells #[.int .i64 er] 24) := ⟨_, rfl⟩
    have s4 : w4.heap.size = w2.heap.size + 1 := by rw [hw4]; simp
    have b4 : Below w2.heap.size w2 w4 := by rw [hw4]; exact (Below.refl _ _).alloc (Nat.le_refl _) _
    have hD4 : Boxed w4 w2.heap.size 24 (.int .i64 er) := by rw [hw4]; exact Boxed.new w2 _ _
    have hk4 : ∀ k, k < w2.heap.size → w4.heap[k]? = w2.heap[k]? := fun k hk => b4.block k hk
    have c4w := c2w.trans (b4.mono c2w.size)
    have hA4 := (hk4 w.heap.size (by omega)).trans hA2
    have hB4 := (hk4 (w.heap.size + 1) (by omega)).trans hB2
    have hC4 : Boxed w4 (w.heap.size + 1 + 1) 24 (.int .i64 0) := (hk4 _ (by omega)).trans hC2
    clear hA1 hB1 hC1 hA2 hB2 hC2 b2 b4
    by_cases he : er = 0
    · have hbL := hide (hbl.out he)
      obtain ⟨gb, go, gc, hv2, hgc, hgm, _, _⟩ := rdN o2.rd hbL.out (by decide)
      subst hv2
      have hgo : ∃ o, w2.heap[gb]? = some o ∧ o.isCells = true := by
        rcases o2.2 with ⟨e, _⟩ | ⟨g, cap, cur, e, _, hg, _⟩
        · cases e
        · simp only [Value.slice.injEq, Option.some.injEq, Addr.mk.injEq, and_true] at e
          obtain ⟨⟨rfl, rfl⟩, _, _⟩ := e
          exact ⟨_, hg, rfl⟩
      have hgb : gb < w2.heap.size := by obtain ⟨o, ho, _⟩ := hgo; exact lt_of_block ho
      have hgw : w1.heap.size ≤ gb := o2.from gb rfl
      have r4 := rd_at o2.rd (hk4 gb hgb)
      have r2 := hide o2.rd
      subst he
      gi_wp2_with fail
      rw [← hw4]
      replace hw4 := hide hw4
      refine ⟨trivial, ?_⟩
      refine (callsIn_wide.2 (sectorsFrom_any w4 at' _ bb r4)).mono ?_
      rintro e w' ⟨rfl, rfl⟩
      gi_wp2
      obtain ⟨w5, hw5⟩ : ∃ u, u = (w4.alloc (.cells #[.int .i64 at'] 3)).alloc (.cells #[.slice (some ⟨gb, go, none⟩) 256 gc] 22) := ⟨_, rfl⟩
      have s5 : w5.heap.size = w2.heap.size + 1 + 1 + 1 := by rw [hw5]; simp [s4]
      have b5 : Below w4.heap.size w4 w5 := by rw [hw5]; exact ((Below.refl _ _).alloc (Nat.le_refl _) _).alloc (by simp) _
      have ba : Boxed w5 (w2.heap.size + 1) 3 (.int .i64 at') := by
        rw [hw5, ← s4]; exact (Boxed.new w4 _ _).alloc _
      have bp : Boxed w5 (w2.heap.size + 1 + 1) 22 (.slice (some ⟨gb, go, none⟩) 256 gc) := by
        rw [hw5, ← s4]
        have := Boxed.new (w4.alloc (.cells #[.int .i64 at'] 3)) 22 (.slice (some ⟨gb, go, none⟩) 256 gc)
        simpa using this
      have k5 : ∀ k, k < w4.heap.size → w5.heap[k]? = w4.heap[k]? := fun k hk => b5.block k hk
      have c5w := c4w.trans (b5.mono c4w.size)
      obtain ⟨hok, hp0, hp1⟩ := pgsect_0.1 hsec.out
      have hsl := hok.2.1
      have hcl := hok.2.2.1
      have i5 : IW w d at' bb w2 gb [] w5 := ⟨_, _, c5w, (k5 _ (by omega)).trans hA4, (k5 _ (by omega)).trans hB4, (k5 _ (by omega)).trans hC4, (k5 _ (by omega)).trans hD4, (k5 _ (by omega)).trans (hk4 _ hgb), h1.to0 c5w, by simpa [pws] using h2.to0 c5w, fun h => by simp at h, by simpa using hcl⟩
      rw [← hw5]
      replace hw5 := hide hw5
      refine wpIn_range_hands rfl (by decide) (gf := 61) (lb := #[.pointer (some ⟨w2.heap.size + 1, 0, none⟩), .pointer (some ⟨w2.heap.size + 1 + 1, 0, none⟩)]) rfl trivial (enters_of Try.func61 (by kernel_rfl) rfl)
        (sectors1_hands at' hp0 (by omega) gb go gc hgc w5 _ _ ba bp (5 - 1)) KpP.trans (fun X l o o' _ h1 h2 _ => KpP.put X l o o' h1 h2) (fun _ => rfl) (IW w d at' bb w2 gb) (XW w d) (AW w d at' bb w2 (.slice a1 d.1.length c1) (.slice a2 d.2.length c2) (.slice a3 x.length c3) id gb go gc)
        (IW_own w d at' bb w2 gb _ (by omega) hgo) (XW_own w d _ (by omega)) (fun _ _ _ _ h _ _ => h) (fun pre y a _ X Y row h hg hr => ⟨IW_own w d at' bb w2 gb _ (by omega) hgo pre X Y row h.1 hg hr, h.2⟩) i5 ?assign ?body ?done ?stop
      case assign =>
        rintro l pre y W' K hI hRW hK
        have hk := hK (actW w w2 (.slice a1 d.1.length c1) (.slice a2 d.2.length c2) (.slice a3 x.length c3) at' id gb go gc y) W' (KeepsFrom.refl _ _) (fun _ _ _ h _ => h) ⟨hI, hRW, rfl⟩
        have HK := hide hk
        clear hk hK hI hRW
        dsimp only [encPG]
        gi_wp2
        exact HK.out
      case body =>
        rintro l pre y a' W' hl ⟨⟨s, c, i1, i2, i3, i4, i5', i6, i7, i8, i9, i10⟩, ⟨hy, hy4⟩, rfl⟩
        rw [← hy] at i8 i9 i10
        obtain ⟨sa, sc, hs⟩ := i7.slice
        obtain ⟨ca, cc, hcv⟩ := i8.slice
        obtain ⟨L, hL⟩ : ∃ L, L = (d.2 ++ pws at' bb y).length := ⟨_, rfl⟩
        rw [← hL] at hcv
        subst hs hcv
        obtain ⟨gb', go', gc', hv', _, _, hR, _⟩ := rdN (rd_at r2.out i6) hbL.out (by decide)
        simp only [Value.slice.injEq, Option.some.injEq, Addr.mk.injEq, and_true, true_and] at hv'
        obtain ⟨⟨rfl, rfl⟩, rfl⟩ := hv'
        have rP : Rd W' (.slice (some ⟨gb, go + 64 * y, none⟩) 64 (gc - 64 * y)) (psec bb y) := by
          have := hR (64 * y) (64 * y + 64) (by omega) (by omega)
          rwa [show 64 * y + 64 - 64 * y = 64 by omega] at this
        have KP := hide (dput_any W' _ _ _ (d.1, d.2 ++ pws at' bb y) (at' + (y : Int)) (psec bb y) i7 i8 rP)
        obtain ⟨q0, q1, _, _⟩ := row2_cells i2
        have hWs : w2.heap.size + 1 ≤ W'.heap.size := i5'.lt
        have hgw1 : w.heap.size + 1 + 1 < w2.heap.size := by omega
        have HI := hide (And.intro i1 (And.intro i2 (And.intro i3 (And.intro i4 (And.intro i5' i6)))))
        have hyl : Hid ((pre ++ [y]).length = y + 1) := by show _ = _; rw [List.length_append, ← hy]; rfl
        have hi10 := hide i10
        have HOK := hide hok
        replace hL := hide hL
        replace hy := hide hy
        clear i1 i2 i3 i4 i5' i6 i7 i8 i9 i10 hR rP hok hA4 hB4 hC4 hD4 ba bp
        by_cases hf : d.2.length + y < 4096
        · rw [dput_pwsK HOK.out hbL.out hp0 hp1 hy4 hf] at KP
          dsimp only at KP
          dsimp only [actW]
          gi_wp2_with fail
          refine ⟨trivial, ?_⟩
          refine (callsIn_wide.2 KP.out).mono ?_
          rintro e w6 ⟨ys, yc, rfl, o6, b6⟩
          clear KP q0 q1
          obtain ⟨P1, P2⟩ := Own.fst (c := [ys]) (d := [yc]) o6 rfl
          obtain ⟨ya, yx, hs⟩ := P1.rdS.slice
          obtain ⟨yb, yy, hcv⟩ := P2.rdS.slice
          obtain ⟨L2, hL2⟩ : ∃ L, L = (d.2 ++ pws at' bb (y + 1)).length := ⟨_, rfl⟩
          rw [← hL2] at hcv
          replace hL2 := hide hL2
          dsimp only at hs
          subst hs hcv
          clear P1 P2
          obtain ⟨i1, i2, i3, i4, i5', i6⟩ := HI.out
          have A6 := (b6.block _ (lt_of_block i2)).trans i2
          obtain ⟨y0, y1, y2, y3⟩ := row2_cells A6
          have D6 : Boxed ((w6.setCell ⟨w.heap.size, 0, none⟩ (.slice ya d.1.length yx)).setCell ⟨w.heap.size, 1, none⟩ (.slice yb L2 yy)) w2.heap.size 24 (.int .i64 0) := by
            show (_ : Option Obj) = _
            rw [Below.heap_setCell _ _ _ _ (by show w2.heap.size ≠ w.heap.size; omega), Below.heap_setCell _ _ _ _ (by show w2.heap.size ≠ w.heap.size; omega)]
            exact (b6.block _ i5'.lt).trans i5'
          have p1 := D6.cell
          have p2 := D6.frozen
          have p3 := (D6.set (.int .i64 0)).cell
          have FIN : Hid (KeepsFrom w5.heap.size W' (putSec w6 w.heap.size w2.heap.size (.slice ya d.1.length yx) (.slice yb L2 yy) (.int .i64 0)) ∧ KpP (w2.heap.size + 1) (w2.heap.size + 1 + 1) W' (putSec w6 w.heap.size w2.heap.size (.slice ya d.1.length yx) (.slice yb L2 yy) (.int .i64 0)) ∧
              IW w d at' bb w2 gb (pre ++ [y]) (putSec w6 w.heap.size w2.heap.size (.slice ya d.1.length yx) (.slice yb L2 yy) (.int .i64 0))) := by
            have k1 : KeepsOthers W' w6 := ⟨b6.size, fun k o h _ => (b6.block k (Array.getElem?_eq_some_iff.1 h).1).trans h⟩
            have oN : Own SStP (w2.heap.size + 1) (putSec w6 w.heap.size w2.heap.size (.slice ya d.1.length yx) (.slice yb L2 yy) (.int .i64 0)) [.slice ya d.1.length yx, .slice yb L2 yy] (d.1, d.2 ++ pws at' bb (y + 1)) :=
              (((o6.set (a := ⟨w.heap.size, 0, none⟩) (by show w.heap.size < W'.heap.size; omega) _).set (a := ⟨w.heap.size, 1, none⟩) (by show w.heap.size < W'.heap.size; omega) _).set (a := ⟨w2.heap.size, 0, none⟩) (by show w2.heap.size < W'.heap.size; omega) _).mono hWs
            obtain ⟨P1, P2⟩ := Own.fst (c := [.slice ya d.1.length yx]) (d := [.slice yb L2 yy]) oN rfl
            refine ⟨(k1.trans (putSec_keeps _ _ _ _ _ _)).from _, ?_, _, _, ?_, ?_, ?_, ?_, D6.set _, ?_, P1.rdS, by rw [hyl.out]; exact P2.rdS, fun _ => by rw [hyl.out]; exact oN, by rw [hyl.out]; omega⟩
            · intro k o hk h1 _
              rw [putSec_other (by rcases hk with rfl | rfl <;> omega) (by rcases hk with rfl | rfl <;> omega)]
              exact (b6.block k (Array.getElem?_eq_some_iff.1 h1).1).trans h1
            · exact (below_set2 (i1.trans (b6.mono i1.size)) (Nat.le_refl _) _ _).setCell (p := ⟨w2.heap.size, 0, none⟩) (by show w.heap.size ≤ w2.heap.size; omega) _
            · unfold putSec
              rw [Below.heap_setCell _ _ _ _ (by show w.heap.size ≠ w2.heap.size; omega)]
              exact heap_set2 A6 _ _
            · rw [putSec_other (by omega) (by omega)]; exact (b6.block _ (lt_of_block i3)).trans i3
            · show (_ : Option Obj) = _
              rw [putSec_other (by omega) (by omega)]; exact (b6.block _ i4.lt).trans i4
            · rw [putSec_other (by omega) (by omega)]; exact (b6.block _ (by omega)).trans i6
          clear A6 D6 i1 i2 i3 i4 i5' i6 o6 b6 HI
          gi_wp2
          exact FIN.out
        · have hf' : d.2.length + y = 4096 := by have := hi10.out; omega
          rw [dput_pws_full HOK.out hbL.out hp0 hp1 hy4 hf'] at KP
          dsimp only at KP
          dsimp only [actW]
          replace hf := hide hf
          replace hf' := hide hf'
          gi_wp2_with fail
          refine ⟨trivial, ?_⟩
          refine (callsIn_wide.2 KP.out).mono ?_
          rintro e w6 ⟨ys, yc, rfl, o6, b6⟩
          clear KP q0 q1
          obtain ⟨P1, P2⟩ := Own.fst (c := [ys]) (d := [yc]) o6 rfl
          obtain ⟨ya, yx, hs⟩ := P1.rdS.slice
          obtain ⟨yb, yy, hcv⟩ := P2.rdS.slice
          dsimp only [List.length_nil] at hs hcv
          subst hs hcv
          clear P1 P2
          obtain ⟨i1, i2, i3, i4, i5', i6⟩ := HI.out
          have A6 := (b6.block _ (lt_of_block i2)).trans i2
          obtain ⟨y0, y1, y2, y3⟩ := row2_cells A6
          have D6 : Boxed ((w6.setCell ⟨w.heap.size, 0, none⟩ (.slice ya 0 yx)).setCell ⟨w.heap.size, 1, none⟩ (.slice yb 0 yy)) w2.heap.size 24 (.int .i64 0) := by
            show (_ : Option Obj) = _
            rw [Below.heap_setCell _ _ _ _ (by show w2.heap.size ≠ w.heap.size; omega), Below.heap_setCell _ _ _ _ (by show w2.heap.size ≠ w.heap.size; omega)]
            exact (b6.block _ i5'.lt).trans i5'
          have p1 := D6.cell
          have p2 := D6.frozen
          have p3 := (D6.set (.int .i64 51)).cell
          obtain ⟨U, hU⟩ : ∃ U, U = putSec w6 w.heap.size w2.heap.size (.slice ya 0 yx) (.slice yb 0 yy) (.int .i64 51) := ⟨_, rfl⟩
          have B6 : U.heap[w.heap.size + 1]? = some (.cells #[.slice none 0 0, .slice none 0 0] 43 (0, 0)) := by rw [hU, putSec_other (by omega) (by omega)]; exact (b6.block _ (lt_of_block i3)).trans i3
          have C6 : Boxed U (w.heap.size + 1 + 1) 24 (.int .i64 0) := by
            show (_ : Option Obj) = _
            rw [hU, putSec_other (by omega) (by omega)]; exact (b6.block _ i4.lt).trans i4
          have bU : Below w.heap.size w U := by
            rw [hU]; exact (below_set2 (i1.trans (b6.mono i1.size)) (Nat.le_refl _) _ _).setCell (p := ⟨w2.heap.size, 0, none⟩) (by show w.heap.size ≤ w2.heap.size; omega) _
          have kU : KeepsOthers W' U := by
            have k1 : KeepsOthers W' w6 := ⟨b6.size, fun k o h _ => (b6.block k (Array.getElem?_eq_some_iff.1 h).1).trans h⟩
            rw [hU]; exact k1.trans (putSec_keeps _ _ _ _ _ _)
          have pU : U.cell? ⟨w2.heap.size, 0, none⟩ = some (.int .i64 51) := by rw [hU]; exact p3
          obtain ⟨r0, r1, f0, f1⟩ := row2_cells B6
          have e0 := C6.cell
          have e1 := C6.frozen
          have FIN : Hid (KeepsFrom w5.heap.size W' (putRes U w.heap.size (.slice none 0 0) (.slice none 0 0) (.int .i64 51)).drew ∧ XW w d .ret (pre ++ [y]) (putRes U w.heap.size (.slice none 0 0) (.slice none 0 0) (.int .i64 51)).drew) :=
            ⟨((kU.trans (putRes_keeps _ _ _ _ _)).trans (KeepsOthers.drew _)).from _, rfl, by have := hf'.out; omega, below_drew (putRes_below bU (Nat.le_refl _) _ _ _), putRes_row B6 _ _ _, putRes_box C6 _ _ _⟩
          replace hU : ((w6.setCell ⟨w.heap.size, 0, none⟩ (.slice ya 0 yx)).setCell ⟨w.heap.size, 1, none⟩ (.slice yb 0 yy)).setCell ⟨w2.heap.size, 0, none⟩ (.int .i64 51) = U := hU.symm
          clear A6 D6 i1 i2 i3 i4 i5' i6 o6 b6 HI B6 C6 bU kU
          gi_wp2_with fail
          replace hU := hide hU
          have hmx : Try.prog.follows .mixedOrders = true := mixed
          gi_region_with_o (fail)
          all_goals
            gi_wp2
            exact FIN.out
      case done =>
        rintro D xs W' hD hSP ⟨s, c, i1, i2, i3, i4, i5', i6, i7, i8, i9, i10⟩ hK
        have hx4 : xs.length = 4 := hSP
        rw [hx4] at i8 i9 i10
        have hS := hide (sY.out hsec.out (by trivial) (by omega))
        obtain ⟨sa, sc, hs⟩ := i7.slice
        obtain ⟨ca, cc, hcv⟩ := i8.slice
        obtain ⟨L, hL⟩ : ∃ L, L = (d.2 ++ pws at' bb 4).length := ⟨_, rfl⟩
        rw [← hL] at hcv
        replace hL := hide hL
        subst hs hcv
        obtain ⟨q0, q1, _, _⟩ := row2_cells i2
        obtain ⟨r0, r1, f0, f1⟩ := row2_cells i3
        have e0 := i4.cell
        have e1 := i4.frozen
        have hK6 : (putRes W' w.heap.size (.slice sa d.1.length sc) (.slice ca L cc) (.int .i64 0)).heap[D]? = some (.deferred (some [])) := by rw [putRes_other (by omega) (by omega)]; exact hK
        have FIN := hide (And.intro hK6 (And.intro (putRes_row i3 (.slice sa d.1.length sc) (.slice ca L cc) (.int .i64 0)) (And.intro (putRes_box i4 (.slice sa d.1.length sc) (.slice ca L cc) (.int .i64 0)) (And.intro (putRes_own (g := w.heap.size) (i9 (by decide)) (by omega) (.slice sa d.1.length sc) (.slice ca L cc) (.int .i64 0)) (putRes_below i1 (Nat.le_refl _) (.slice sa d.1.length sc) (.slice ca L cc) (.int .i64 0))))))
        clear i1 i2 i3 i4 i5' i6 i7 i8 i9 i10 hK6 hx4 hSP hA4 hB4 hC4 hD4 ba bp
        gi_wp2
        obtain ⟨hK6, e1', e2', e3', e4'⟩ := FIN.out
        have kp := KpC.put _ D _ (.deferred none) hK6 rfl
        refine ⟨by simp, .inl ⟨_, _, rfl, run_takeDeferred hK6, ?_⟩⟩
        refine ⟨_, results_rowbox rfl _ _ _ _ _ _ _ _ _ _ _ Try.underlying43 rfl rfl info_stP Try.underlying24 rfl rfl (kp.2 _ _ e1' rfl) (kp.cell e2'.cell), ?_⟩
        rw [hS.out]
        exact ⟨_, _, rfl, (kp.ownS onCells_state e3').mono (by omega), e4'.trans ⟨rfl, rfl, rfl, by simp [World.putObj, putRes], fun k hk => World.putObj_heap_other (by omega)⟩⟩
      case stop =>
        rintro D c pre W' hD ⟨rfl, hf, hb, e1, e2⟩ hK
        have hS := hide (sF.out hsec.out (by trivial) hf)
        gi_wp2
        have kp := KpC.put _ D _ (.deferred none) hK rfl
        refine ⟨by simp, .inl ⟨_, _, rfl, run_takeDeferred hK, ?_⟩⟩
        refine ⟨_, results_rowbox rfl _ _ _ _ _ _ _ _ _ _ _ Try.underlying43 rfl rfl info_stP Try.underlying24 rfl rfl (kp.2 _ _ e1 rfl) (kp.cell e2.cell), ?_⟩
        rw [hS.out]
        exact ⟨_, _, rfl, own_none _ _ _, hb.trans ⟨rfl, rfl, rfl, by simp [World.putObj], fun k hk => World.putObj_heap_other (by omega)⟩⟩
    · have hS := hide (sE.out hsec.out he)
      have hee : (er != 0) = true := by simpa using he
      replace he := hide he
      obtain ⟨s2', t2', hv2⟩ := o2.rd.slice
      subst hv2
      obtain ⟨r0, r1, f0, f1⟩ := row2_cells hB4
      have e0 := hC4.cell
      have e1 := hC4.frozen
      have d4 := hD4.cell
      rw [hw4] at d4
      clear o2
      gi_wp2_with fail
      rw [← hw4]
      rw [← hw4] at d4
      replace hw4 := hide hw4
      have HX : Hid (Below w.heap.size w w4 ∧ _ ∧ _) := ⟨c4w, hB4, hC4⟩
      clear hA4 hB4 hC4
      gi_region
      gi_wp2
      refine ⟨_, results_rowbox rfl _ _ _ _ _ _ _ _ _ _ _ Try.underlying43 rfl rfl info_stP Try.underlying24 rfl rfl (putRes_row HX.out.2.1 _ _ _) (putRes_box HX.out.2.2 _ _ _).cell, ?_⟩
      rw [hS.out]
      exact ⟨_, _, rfl, own_none _ _ _, below_drew (putRes_below HX.out.1 (Nat.le_refl _) _ _ _)⟩
  · have hS := hide (sD.out (by rw [← hE]; exact h0))
    have hbe : (E != 0) = true := by simpa using h0
    replace h0 := hide h0
    replace hE := hide hE
    obtain ⟨r0, r1, f0, f1⟩ := row2_cells hB1
    have cc := (hC1.other (by omega : w.heap.size + 1 + 1 ≠ w.heap.size + 1) (.slice none 0 0)).cell
    have cf := hC1.frozen
    have HX : Hid (Below w.heap.size w w1 ∧ _ ∧ _) := ⟨c1w, hB1, hC1⟩
    clear hA1 hB1 hC1
    gi_wp2
    refine ⟨_, results_rowbox rfl _ _ _ _ _ _ _ _ _ _ _ Try.underlying43 rfl rfl info_stP Try.underlying24 rfl rfl (putRes_row HX.out.2.1 _ _ _) (putRes_box HX.out.2.2 _ _ _).cell, ?_⟩
    rw [hS.out]
    exact ⟨_, _, by rw [← hE.out], own_none _ _ _, putRes_below HX.out.1 (Nat.le_refl _) _ _ _⟩

end Go.Proofs.Ytliileemelcllaa

/-
  What the program's pages say.
-/
namespace Go.Proofs.Ytliileemelcllaa
open Go.RowKit

theorem pages_say : PagesSay where
  encS w id v d h _ _ := pgencP_any w id v d h
  decS w v x h _ := pgdecP_any w v x h
  writeS w sv cv v d at' id x h1 h2 hx _ _ _ := ppgwrite_any w sv cv v d at' id x h1 h2 hx
  readS w sv cv d at' id h1 h2 _ _ := ppgread_any w sv cv d at' id h1 h2

end Go.Proofs.Ytliileemelcllaa

namespace Go.Proofs.Ytliileemelcllaa.pagesApart
open Go.ChangeShapes Go.WideShapes Go.ChangeAt Go.RowKit
set_option linter.unusedVariables false

set_option linter.unusedSimpArgs false in
set_option maxRecDepth 100000 in
set_option maxHeartbeats 8000000 in
theorem walkS (S : PagesSay) (w : World) (a0 : Option Addr) (len0 cap0 : Nat) (x0 : List (List UInt8)) (g0 : SSec.rd w [.slice a0 len0 cap0] x0) (m0 : x0.length * 24 ≤ 140737488351232 ∧ ∀ x ∈ x0, x.length ≤ 140737488351232) (a1 : Option Addr) (len1 cap1 : Nat) (x1 : List Int) (g1 : SInts.rd w [.slice a1 len1 cap1] x1) (m1 : x1.length * 8 ≤ 140737488351232 ∧ ∀ x ∈ x1, True) :
    Calls Try.prog 8 #[.slice a0 len0 cap0, .slice a1 len1 cap1] w fun e w' => e = .returned (.bool true) ∧ Below w.heap.size w w' := by
  obtain ⟨v0, e0, h0⟩ := g0
  obtain ⟨v1, e1, h1⟩ := g1
  simp only [List.cons.injEq, and_true] at e0 e1
  subst e0 e1
  obtain ⟨_, _, e0⟩ := h0.slice
  obtain ⟨_, _, e1⟩ := h1.slice
  cases e0; cases e1
  obtain ⟨n, hn, hn6, hnx⟩ : ∃ n : Nat, min (x0.length : Int) 6 = (n : Int) ∧ n ≤ 6 ∧ n ≤ x0.length := ⟨min x0.length 6, by omega, by omega, by omega⟩
  have hn6' : (n : Int) ≤ 6 := by omega
  have hnx' : (n : Int) ≤ (x0.length : Int) := by omega
  obtain ⟨M, hM⟩ : ∃ M, M = 4 * n + 1 := ⟨_, rfl⟩
  have hnew : Hid (dnew (M : Int) = ((z64s M, []), 0)) := dnew_yes (by omega) (by omega)
  have hMi : (M : Int) = 4 * (n : Int) + 1 := by omega
  have lb0 : x0.length ≤ 140737488351232 := by have := m0.1; omega
  have lb1 : x1.length ≤ 140737488351232 := by have := m1.1; omega
  have M0 := hide m0.2
  have R0 := hide h0
  have R1 := hide h1
  clear m0 m1 h0 h1
  go_enter Try.func8, Try.ntmps8
  go_wp2_with fail
  refine (pgalive_any S w).mono ?_
  rintro e w1 ⟨rfl, cc⟩
  go_upto_region 3 with fail
  go_cut [5] from 18 to 20 (fun s wx => s = .int .i64 (n : Int) ∧ w1 = wx)
  case first =>
    go_wp2_with fail
    all_goals (go_meet; exact ⟨by congr 1 <;> omega, rfl⟩)
  case rest =>
  obtain ⟨rfl, rfl⟩ := hcut
  have KK := hide (dnew_any w1 M)
  rw [hnew.out, hMi] at KK
  replace hM := hide hM
  clear hMi hn
  go_wp2_with fail
  refine KK.out.mono ?_
  rintro e w2 ⟨s, c, rfl, o, bb⟩
  clear KK hnew
  try dsimp only at o
  obtain ⟨al, cl, ac, cd, hv, hv2⟩ : ∃ al cl ac cd, s = .slice al M cl ∧ c = .slice ac 0 cd := by
    obtain ⟨FT, hFT, _⟩ := o.foot
    have := own_form' hFT
    simpa [z64s_len] using this
  subst hv hv2
  replace cc := cc.trans (bb.mono cc.size)
  have hw2 := cc.size
  clear bb
  obtain ⟨U, hU, hA, bU, sU⟩ := boxed_row w2 (.slice al M cl) (.slice ac 0 cd) 43
  obtain ⟨W, hW⟩ : ∃ W, W = U.alloc (.cells (madeCells #[.int .i64 0] n) 3) := ⟨_, rfl⟩
  have bW : Below U.heap.size U W := by rw [hW]; exact (Below.refl _ _).alloc (Nat.le_refl _) _
  have ol := IRow.made U n (by omega)
  rw [← hW, sU] at ol
  have cW := cc.trans ((bU.trans (bW.mono bU.size)).mono cc.size)
  have HI : AInv w2.heap.size (w2.heap.size + 1) n W (z64s M, []) (List.replicate n 0) := by
    obtain ⟨FT, hFT, _⟩ := o.foot
    exact ⟨⟨_, _, (bW.block w2.heap.size (by omega)).trans hA, FT, (hFT.to bU).to bW, fun h => by have := hFT.lt _ h; omega, fun h => by have := hFT.lt _ h; omega⟩, ol⟩
  have H0 : Hid (PInv n x0 (z64s M, []) (List.replicate n 0) 0 ∧ AInv w2.heap.size (w2.heap.size + 1) n W (z64s M, []) (List.replicate n 0) ∧ Below w.heap.size w W) := ⟨by rw [hM.out]; exact PInv.start hn6 x0, HI, cW⟩
  clear HI cW ol o bW bU hA cc
  go_wp2_with fail
  refine (num7_any _ _).mono ?_
  rintro e w' ⟨rfl, rfl⟩
  have hmk := fun u => make_ints (n := n) (by omega) u
  go_wp2
  rw [← hU, ← hW]
  replace hU := hide hU
  replace hW := hide hW
  clear hmk sU
  go_loopw [9] (fun a wr => ∃ (i : Nat) (d : Dsk) (L : List Int), i ≤ 12 ∧ a = .int .i64 i ∧ Hid (PInv n x0 d L i ∧ AInv w2.heap.size (w2.heap.size + 1) n wr d L ∧ Below w.heap.size w wr)) (fun a _ => 12 - (intOf a).toNat)
  case atStart => exact ⟨0, _, _, by omega, rfl, H0⟩
  case round =>
    obtain ⟨i, d, L, hi, rfl, hH⟩ := hrel
    clear H0
    by_cases hall : i < x1.length ∧ i < 12 ∧ 0 < n
    · obtain ⟨i1, i2, i3⟩ := hall
      have j1 : (i : Int) < (x1.length : Int) := by omega
      have j2 : (i : Int) < 12 := by omega
      have j3 : (0 : Int) < (n : Int) := by omega
      obtain ⟨hP, HI, cc⟩ := hH.out
      obtain ⟨z, hz, _⟩ := some_at x1 i1
      obtain ⟨bz, oz, uz, rfl, hcz, ez⟩ := RdS.at1 rfl (R1.out.to0 cc) hz
      have ez' : [uz] = [Value.int .i64 z] := ez
      simp only [List.cons.injEq, and_true] at ez'
      subst ez'
      have y1 := Int.lt_tmod_of_pos z j3
      have y2 := Int.tmod_lt_of_pos z j3
      have y3 := Int.emod_nonneg (z.tmod n) (b := n) (by omega)
      have y4 := Int.emod_lt_of_pos (z.tmod n) j3
      obtain ⟨p, hp⟩ : ∃ p : Nat, z.tmod n % n = (p : Int) := ⟨(z.tmod n % n).toNat, by omega⟩
      have hpN : (p : Int) < (n : Int) := by omega
      obtain ⟨X, hX, hXm⟩ := some_at x0 (k := p) (by omega)
      have hXl := M0.out X hXm
      obtain ⟨bx, ox, ux, rfl, hcx0, hrx⟩ := R0.out.oct hX
      have hcx := (cc.cell (cell_lt hcx0)).trans hcx0
      clear hcx0
      obtain ⟨ad, cdd, rfl⟩ := hrx.slice
      obtain ⟨l, hl, hl2⟩ : ∃ l : Nat, min (X.length : Int) 244 = (l : Int) ∧ l = min X.length 244 := ⟨min X.length 244, by omega, rfl⟩
      have fx0 := rd_take hrx (n := l) (by omega)
      have cx : (l : Int) ≤ (cdd : Int) := by have := rd_cap hrx; omega
      obtain ⟨Y, hY⟩ : ∃ Y, Y = cutX X := ⟨_, rfl⟩
      have fx : Rd w (.slice ad l cdd) Y := by rw [hY]; unfold cutX; rw [← hl2]; exact fx0
      have hYl : Hid (Y.length = l) := by show _ = _; rw [hY, cutX_len, hl2]
      obtain ⟨d', hput, hP'⟩ := hP.put hn6 i2 (p := p) (by omega) hX
      rw [← hY] at hput
      obtain ⟨XL, hXL⟩ : ∃ XL, X.length = XL := ⟨_, rfl⟩
      rw [hXL] at hcx hl hXl
      have HM := hide (And.intro hput hP')
      have HL := hide hP.l
      have HH := hide (And.intro HI (And.intro cc fx))
      have hpX : (p : Int) < (x0.length : Int) := by omega
      have hif : (if (244 : Int) < (XL : Int) then 244 else (XL : Int)) = (l : Int) := by split <;> omega
      have hwp1 : IntKind.i64.wrap (4 * (p : Int)) = 4 * (p : Int) := by rw [IntKind.wrap_i64]; omega
      have hwp2 : IntKind.i64.wrap (100 * (i : Int)) = 100 * (i : Int) := by rw [IntKind.wrap_i64]; omega
      have hwp3 : IntKind.i64.wrap (100 * (i : Int) + (p : Int)) = 100 * (i : Int) + (p : Int) := by rw [IntKind.wrap_i64]; omega
      clear hput hP' hP HI cc fx fx0 hrx hY hH hX hXm hz hXL hl2
      obtain ⟨⟨s, c, hrow, F, hF, nb, ng⟩, _⟩ := id HH.out.1
      obtain ⟨al5, cl5, ac5, cd5, hv, hv2⟩ : ∃ al cl ac cd, s = .slice al d.1.length cl ∧ c = .slice ac d.2.length cd := own_form' hF
      subst hv hv2
      obtain ⟨P1, P2⟩ := Own.fst (c := [.slice al5 d.1.length cl5]) (d := [.slice ac5 d.2.length cd5]) (show Own SStP 0 wr [.slice al5 d.1.length cl5, .slice ac5 d.2.length cd5] d from ⟨F, hF.1, hF.2, fun _ _ => Nat.zero_le _⟩) rfl
      have r5 := P1.rdS
      have q5 := P2.rdS
      clear P1 P2
      obtain ⟨A0, A1, _, _⟩ := row2_cells hrow
      obtain ⟨dl1, hd1⟩ : ∃ k, d.1.length = k := ⟨_, rfl⟩
      obtain ⟨dl2, hd2⟩ : ∃ k, d.2.length = k := ⟨_, rfl⟩
      rw [hd1] at A0 r5
      rw [hd2] at A1 q5
      have bd : Below wr.heap.size wr wr.drew := (Below.refl _ _).drew
      have KW : Hid (∀ w9, Below wr.heap.size wr w9 → Calls Try.prog 18 #[.agg #[.slice al5 dl1 cl5, .slice ac5 dl2 cd5], .int .i64 (4 * (p : Int)), .int .i64 (100 * (i : Int) + p), .slice ad l cdd] w9 fun e w6 => ∃ (al6 : Option Addr) (cl6 : Nat) (ac6 : Option Addr) (cd6 dl3 dl4 : Nat), e = .returned (.tuple #[.agg #[.slice al6 dl3 cl6, .slice ac6 dl4 cd6], .int .i64 0]) ∧ Hid (Own SStP w9.heap.size w6 [.slice al6 dl3 cl6, .slice ac6 dl4 cd6] d') ∧ Hid (Below w9.heap.size w9 w6)) := fun w9 b9 => by
        have K0 := S.writeS w9 _ _ (.slice ad l cdd) d (4 * (p : Int)) (100 * (i : Int) + p) Y (r5.to0 b9) (q5.to0 b9) (HH.out.2.2.to (HH.out.2.1.trans (b9.mono HH.out.2.1.size))) (by omega) (by omega) (by rw [hYl.out]; omega)
        rw [HM.out.1] at K0
        dsimp only at K0
        refine K0.mono ?_
        rintro e w6 ⟨s, c, rfl, o, bb⟩
        obtain ⟨P1, P2⟩ := Own.fst (c := [s]) (d := [c]) o rfl
        obtain ⟨al6, cl6, hv⟩ := P1.rdS.slice
        obtain ⟨ac6, cd6, hv2⟩ := P2.rdS.slice
        subst hv hv2
        exact ⟨al6, cl6, ac6, cd6, _, _, rfl, o, bb⟩
      clear hrow hF nb ng r5 q5 hd1 hd2
      go_wp2_with fail
      simp only [Int.add_emod_right, hp]
      have HS : Hid (∀ w9, Below wr.heap.size wr w9 → w9.cell? ⟨w2.heap.size, 0, none⟩ = some (.slice al5 dl1 cl5) ∧ w9.cell? ⟨w2.heap.size, 1, none⟩ = some (.slice ac5 dl2 cd5) ∧ w9.cell? ⟨bx, ox + p, none⟩ = some (.slice ad XL cdd)) := fun w9 b9 => ⟨(b9.cell (cell_lt A0)).trans A0, (b9.cell (cell_lt A1)).trans A1, (b9.cell (cell_lt hcx)).trans hcx⟩
      clear A0 A1 hcx hcz y1 y2 y3 y4 hp
      go_cut [11, 12] from 33 to 90 (fun pp ff wx => ∃ (g9 : Nat) (s6 c6 : Value), pp = .pointer (some ⟨g9, 0, none⟩) ∧ ff = .int .i64 0 ∧ Hid (wx.heap[g9]? = some (.cells #[s6, c6] 43 (0, 0)) ∧ Own SStP wr.heap.size wx [s6, c6] d' ∧ Below wr.heap.size wr wx))
      case first =>
        have b0 : Below wr.heap.size wr wr.drew := (Below.refl _ _).drew
        clear HH HM HL R0 R1 M0
        refine wp_region_fan (fun w9 => w9.cell? ⟨w2.heap.size, 0, none⟩ = some (.slice al5 dl1 cl5) ∧ w9.cell? ⟨w2.heap.size, 1, none⟩ = some (.slice ac5 dl2 cd5) ∧ w9.cell? ⟨bx, ox + p, none⟩ = some (.slice ad XL cdd)) 24 mixed (by simp) ?_
        generalize wr.drew = c0 at *
        refine fan_take (i := 0) (v := ?_) rfl (by kernel_rfl) (fun _ _ _ _ h => h) (by kernel_rfl) (HS.out _ b0) ?_ ?_
        rotate_left
        · rintro w9 ⟨t0, t1, t2⟩
          go_simp
          try with_reducible rfl
        try simp only [Act.put, List.setIfInBounds_toArray, List.set_cons_zero, List.set_cons_succ]
        refine fan_take (i := 1) (v := ?_) rfl (by kernel_rfl) (fun _ _ _ _ h => h) (by kernel_rfl) (HS.out _ b0) ?_ ?_
        rotate_left
        · rintro w9 ⟨t0, t1, t2⟩
          go_simp
          try with_reducible rfl
        try simp only [Act.put, List.setIfInBounds_toArray, List.set_cons_zero, List.set_cons_succ]
        refine fan_take (i := 2) (v := ?_) rfl (by kernel_rfl) (fun _ _ _ _ h => h) (by kernel_rfl) (HS.out _ b0) ?_ ?_
        rotate_left
        · rintro w9 ⟨t0, t1, t2⟩
          go_simp
          try with_reducible rfl
        try simp only [Act.put, List.setIfInBounds_toArray, List.set_cons_zero, List.set_cons_succ]
        refine fan_take (i := 3) (v := ?_) rfl (by kernel_rfl) (fun _ _ _ _ h => h) (by kernel_rfl) (HS.out _ b0) ?_ ?_
        rotate_left
        · rintro w9 ⟨t0, t1, t2⟩
          go_simp
          try with_reducible rfl
        try simp only [Act.put, List.setIfInBounds_toArray, List.set_cons_zero, List.set_cons_succ]
        refine fan_take (i := 4) (v := ?_) rfl (by kernel_rfl) (fun _ _ _ _ h => h) (by kernel_rfl) (HS.out _ b0) ?_ ?_
        rotate_left
        · rintro w9 ⟨t0, t1, t2⟩
          go_simp
          try with_reducible rfl
        try simp only [Act.put, List.setIfInBounds_toArray, List.set_cons_zero, List.set_cons_succ]
        refine fan_take (i := 5) (v := ?_) rfl (by kernel_rfl) (fun _ _ _ _ h => h) (by kernel_rfl) (HS.out _ b0) ?_ ?_
        rotate_left
        · rintro w9 ⟨t0, t1, t2⟩
          go_simp
          try with_reducible rfl
        try simp only [Act.put, List.setIfInBounds_toArray, List.set_cons_zero, List.set_cons_succ]
        refine fan_take (i := 6) (v := ?_) rfl (by kernel_rfl) (fun _ _ _ _ h => h) (by kernel_rfl) (HS.out _ b0) ?_ ?_
        rotate_left
        · rintro w9 ⟨t0, t1, t2⟩
          go_simp
          try with_reducible rfl
        try simp only [Act.put, List.setIfInBounds_toArray, List.set_cons_zero, List.set_cons_succ]
        refine fan_take (i := 7) (v := ?_) rfl (by kernel_rfl) (fun _ _ _ _ h => h) (by kernel_rfl) (HS.out _ b0) ?_ ?_
        rotate_left
        · rintro w9 ⟨t0, t1, t2⟩
          go_simp
          try with_reducible rfl
        try simp only [Act.put, List.setIfInBounds_toArray, List.set_cons_zero, List.set_cons_succ]
        refine fan_take (i := 8) (v := ?_) rfl (by kernel_rfl) (fun _ _ _ _ h => h) (by kernel_rfl) (HS.out _ b0) ?_ ?_
        rotate_left
        · rintro w9 ⟨t0, t1, t2⟩
          go_simp
          try with_reducible rfl
        try simp only [Act.put, List.setIfInBounds_toArray, List.set_cons_zero, List.set_cons_succ]
        refine fan_take (i := 9) (v := ?_) rfl (by kernel_rfl) (fun _ _ _ _ h => h) (by kernel_rfl) (HS.out _ b0) ?_ ?_
        rotate_left
        · rintro w9 ⟨t0, t1, t2⟩
          go_simp
          try with_reducible rfl
        try simp only [Act.put, List.setIfInBounds_toArray, List.set_cons_zero, List.set_cons_succ]
        refine fan_take (i := 10) (v := ?_) rfl (by kernel_rfl) (fun _ _ _ _ h => h) (by kernel_rfl) (HS.out _ b0) ?_ ?_
        rotate_left
        · rintro w9 ⟨t0, t1, t2⟩
          go_simp
          try with_reducible rfl
        try simp only [Act.put, List.setIfInBounds_toArray, List.set_cons_zero, List.set_cons_succ]
        refine fan_take (i := 11) (v := ?_) rfl (by kernel_rfl) (fun _ _ _ _ h => h) (by kernel_rfl) (HS.out _ b0) ?_ ?_
        rotate_left
        · rintro w9 ⟨t0, t1, t2⟩
          go_simp
          try with_reducible rfl
        try simp only [Act.put, List.setIfInBounds_toArray, List.set_cons_zero, List.set_cons_succ]
        refine fan_take (i := 12) (v := ?_) rfl (by kernel_rfl) (fun _ _ _ _ h => h) (by kernel_rfl) (HS.out _ b0) ?_ ?_
        rotate_left
        · rintro w9 ⟨t0, t1, t2⟩
          go_simp
          try with_reducible rfl
        try simp only [Act.put, List.setIfInBounds_toArray, List.set_cons_zero, List.set_cons_succ]
        refine fan_take (i := 13) (v := ?_) rfl (by kernel_rfl) (fun _ _ _ _ h => h) (by kernel_rfl) (HS.out _ b0) ?_ ?_
        rotate_left
        · rintro w9 ⟨t0, t1, t2⟩
          go_simp
          try with_reducible rfl
        try simp only [Act.put, List.setIfInBounds_toArray, List.set_cons_zero, List.set_cons_succ]
        refine fan_take (i := 14) (v := ?_) rfl (by kernel_rfl) (fun _ _ _ _ h => h) (by kernel_rfl) (HS.out _ b0) ?_ ?_
        rotate_left
        · rintro w9 ⟨t0, t1, t2⟩
          go_simp
          try with_reducible rfl
        try simp only [Act.put, List.setIfInBounds_toArray, List.set_cons_zero, List.set_cons_succ]
        refine fan_take (i := 15) (v := ?_) rfl (by kernel_rfl) (fun _ _ _ _ h => h) (by kernel_rfl) (HS.out _ b0) ?_ ?_
        rotate_left
        · rintro w9 ⟨t0, t1, t2⟩
          go_simp
          try with_reducible rfl
        try simp only [Act.put, List.setIfInBounds_toArray, List.set_cons_zero, List.set_cons_succ]
        refine fan_take (i := 16) (v := ?_) rfl (by kernel_rfl) (fun _ _ _ _ h => h) (by kernel_rfl) (HS.out _ b0) ?_ ?_
        rotate_left
        · rintro w9 ⟨t0, t1, t2⟩
          go_simp
          try with_reducible rfl
        try simp only [Act.put, List.setIfInBounds_toArray, List.set_cons_zero, List.set_cons_succ]
        refine fan_take (i := 17) (v := ?_) rfl (by kernel_rfl) (fun _ _ _ _ h => h) (by kernel_rfl) (HS.out _ b0) ?_ ?_
        rotate_left
        · rintro w9 ⟨t0, t1, t2⟩
          go_simp
          try with_reducible rfl
        try simp only [Act.put, List.setIfInBounds_toArray, List.set_cons_zero, List.set_cons_succ]
        refine fan_two 18 22 (by kernel_rfl) ?_ ?_
        ·
          refine fan_step rfl (by kernel_rfl) fun K hK => ?_
          refine wp_call_of 18 _ _ (by rfl) #[.agg #[.slice al5 dl1 cl5, .slice ac5 dl2 cd5], .int .i64 (4 * (p : Int)), .int .i64 (100 * (i : Int) + p), .slice ad l cdd] (by simp [Act.eval]) (Try.call18 _ _) (KW.out _ b0) ?_
          rintro e c1 ⟨al6, cl6, ac6, cd6, dl3, dl4, rfl, oF, bF⟩
          have b1 := b0.trans (bF.out.mono b0.size)
          have HO : Hid (Own SStP wr.heap.size c1 [.slice al6 dl3 cl6, .slice ac6 dl4 cd6] d') := oF.out.mono b0.size
          refine ⟨_, rfl, hK _ _ (HS.out _ b1) ?_⟩
          clear hK K bF oF
          try simp only [Act.put, List.setIfInBounds_toArray, List.set_cons_zero, List.set_cons_succ]
          refine fan_take (i := 19) (v := ?_) rfl (by kernel_rfl) (fun _ _ _ _ h => h) (by kernel_rfl) (HS.out _ b1) ?_ ?_
          rotate_left
          · rintro w9 ⟨t0, t1, t2⟩
            go_simp
            try with_reducible rfl
          try simp only [Act.put, List.setIfInBounds_toArray, List.set_cons_zero, List.set_cons_succ]
          refine fan_take (i := 20) (v := ?_) rfl (by kernel_rfl) (fun _ _ _ _ h => h) (by kernel_rfl) (HS.out _ b1) ?_ ?_
          rotate_left
          · rintro w9 ⟨t0, t1, t2⟩
            go_simp
            try with_reducible rfl
          try simp only [Act.put, List.setIfInBounds_toArray, List.set_cons_zero, List.set_cons_succ]
          refine fan_take (i := 21) (v := ?_) rfl (by kernel_rfl) (fun _ _ _ _ h => h) (by kernel_rfl) (HS.out _ b1) ?_ ?_
          rotate_left
          · rintro w9 ⟨t0, t1, t2⟩
            go_simp
            try with_reducible rfl
          try simp only [Act.put, List.setIfInBounds_toArray, List.set_cons_zero, List.set_cons_succ]
          refine fan_one 22 (by kernel_rfl) ?_
          refine fan_step rfl (by kernel_rfl) fun K hK => ?_
          go_simp
          obtain ⟨c2, hc, h9, bc, sc⟩ := boxed_row c1 (.slice none 0 0) (.slice none 0 0) 43
          rw [← hc]
          have b2 := b1.trans (bc.mono b1.size)
          obtain ⟨g9, hg9⟩ : ∃ g, g = c1.heap.size := ⟨_, rfl⟩
          rw [← hg9] at h9
          rw [← hg9]
          have l9 : wr.heap.size ≤ g9 := by have := b1.size; omega
          replace HO : Hid (∃ F, OwnF SStP F c2 [.slice al6 dl3 cl6, .slice ac6 dl4 cd6] d' ∧ g9 ∉ F ∧ ∀ b, b ∈ F → wr.heap.size ≤ b) := by
            obtain ⟨F, h1, h2, h3⟩ := HO.out
            have hF : OwnF SStP F c1 [.slice al6 dl3 cl6, .slice ac6 dl4 cd6] d' := ⟨h1, h2⟩
            exact ⟨F, hF.to bc, fun hh => by have := hF.lt _ hh; omega, h3⟩
          refine hK _ _ (HS.out _ b2) ?_
          clear hK K hc bc sc hg9
          try simp only [Act.put, List.setIfInBounds_toArray, List.set_cons_zero, List.set_cons_succ]
          obtain ⟨y0, y1, y2, y3⟩ := row2_cells h9
          refine fan_one 23 (by kernel_rfl) ?_
          refine fan_step rfl (by kernel_rfl) fun K hK => ?_
          go_simp
          obtain ⟨d1, hd1⟩ : ∃ d, d = (c2.setCell ⟨g9, 0, none⟩ (.slice al6 dl3 cl6)).setCell ⟨g9, 1, none⟩ (.slice ac6 dl4 cd6) := ⟨_, rfl⟩
          rw [← hd1]
          have e1 : Below wr.heap.size wr d1 := by rw [hd1]; exact below_set2 b2 l9 _ _
          have i9 : d1.heap[g9]? = some (.cells #[.slice al6 dl3 cl6, .slice ac6 dl4 cd6] 43 (0, 0)) := by rw [hd1]; exact heap_set2 h9 _ _
          have oG : Own SStP wr.heap.size d1 [.slice al6 dl3 cl6, .slice ac6 dl4 cd6] d' := by
            obtain ⟨F, h1, h2, h3⟩ := HO.out
            rw [hd1]
            exact ((h1.set (a := ⟨g9, 0, none⟩) h2 _).set (a := ⟨g9, 1, none⟩) h2 _).own h3
          refine hK _ _ (HS.out _ e1) ?_
          clear hK K y0 y1 y2 y3 hd1
          try simp only [Act.put, List.setIfInBounds_toArray, List.set_cons_zero, List.set_cons_succ]
          refine fan_done (by kernel_rfl) ?_
          show wpList _ _ _ _ _ _
          have FIN := hide (And.intro i9 (And.intro oG e1))
          clear e1 i9 oG HO HS KW
          go_wp2_with fail
          go_meet
          exact ⟨g9, _, _, rfl, rfl, FIN⟩
        ·
          refine fan_step rfl (by kernel_rfl) fun K hK => ?_
          go_simp
          obtain ⟨c1, hc, h9, bc, sc⟩ := boxed_row c0 (.slice none 0 0) (.slice none 0 0) 43
          rw [← hc]
          have b1 := b0.trans (bc.mono b0.size)
          obtain ⟨g9, hg9⟩ : ∃ g, g = c0.heap.size := ⟨_, rfl⟩
          rw [← hg9] at h9
          rw [← hg9]
          have l9 : wr.heap.size ≤ g9 := by have := b0.size; omega
          have s9 : g9 < c1.heap.size := lt_of_block h9
          refine hK _ _ (HS.out _ b1) ?_
          clear hK K hc bc sc hg9
          try simp only [Act.put, List.setIfInBounds_toArray, List.set_cons_zero, List.set_cons_succ]
          refine fan_one 18 (by kernel_rfl) ?_
          refine fan_step rfl (by kernel_rfl) fun K hK => ?_
          refine wp_call_of 18 _ _ (by rfl) #[.agg #[.slice al5 dl1 cl5, .slice ac5 dl2 cd5], .int .i64 (4 * (p : Int)), .int .i64 (100 * (i : Int) + p), .slice ad l cdd] (by simp [Act.eval]) (Try.call18 _ _) (KW.out _ b1) ?_
          rintro e c2 ⟨al6, cl6, ac6, cd6, dl3, dl4, rfl, oF, bF⟩
          have b2 := b1.trans (bF.out.mono b1.size)
          replace h9 := (bF.out.block _ (lt_of_block h9)).trans h9
          have HO : Hid (∃ F, OwnF SStP F c2 [.slice al6 dl3 cl6, .slice ac6 dl4 cd6] d' ∧ g9 ∉ F ∧ ∀ b, b ∈ F → wr.heap.size ≤ b) := by
            obtain ⟨F, h1, h2, h3⟩ := oF.out
            exact ⟨F, ⟨h1, h2⟩, fun hh => by have := h3 _ hh; omega, fun b hb => by have := h3 b hb; have := b1.size; omega⟩
          refine ⟨_, rfl, hK _ _ (HS.out _ b2) ?_⟩
          clear hK K bF oF
          try simp only [Act.put, List.setIfInBounds_toArray, List.set_cons_zero, List.set_cons_succ]
          refine fan_take (i := 19) (v := ?_) rfl (by kernel_rfl) (fun _ _ _ _ h => h) (by kernel_rfl) (HS.out _ b2) ?_ ?_
          rotate_left
          · rintro w9 ⟨t0, t1, t2⟩
            go_simp
            try with_reducible rfl
          try simp only [Act.put, List.setIfInBounds_toArray, List.set_cons_zero, List.set_cons_succ]
          refine fan_take (i := 20) (v := ?_) rfl (by kernel_rfl) (fun _ _ _ _ h => h) (by kernel_rfl) (HS.out _ b2) ?_ ?_
          rotate_left
          · rintro w9 ⟨t0, t1, t2⟩
            go_simp
            try with_reducible rfl
          try simp only [Act.put, List.setIfInBounds_toArray, List.set_cons_zero, List.set_cons_succ]
          refine fan_take (i := 21) (v := ?_) rfl (by kernel_rfl) (fun _ _ _ _ h => h) (by kernel_rfl) (HS.out _ b2) ?_ ?_
          rotate_left
          · rintro w9 ⟨t0, t1, t2⟩
            go_simp
            try with_reducible rfl
          try simp only [Act.put, List.setIfInBounds_toArray, List.set_cons_zero, List.set_cons_succ]
          obtain ⟨y0, y1, y2, y3⟩ := row2_cells h9
          refine fan_one 23 (by kernel_rfl) ?_
          refine fan_step rfl (by kernel_rfl) fun K hK => ?_
          go_simp
          obtain ⟨d1, hd1⟩ : ∃ d, d = (c2.setCell ⟨g9, 0, none⟩ (.slice al6 dl3 cl6)).setCell ⟨g9, 1, none⟩ (.slice ac6 dl4 cd6) := ⟨_, rfl⟩
          rw [← hd1]
          have e1 : Below wr.heap.size wr d1 := by rw [hd1]; exact below_set2 b2 l9 _ _
          have i9 : d1.heap[g9]? = some (.cells #[.slice al6 dl3 cl6, .slice ac6 dl4 cd6] 43 (0, 0)) := by rw [hd1]; exact heap_set2 h9 _ _
          have oG : Own SStP wr.heap.size d1 [.slice al6 dl3 cl6, .slice ac6 dl4 cd6] d' := by
            obtain ⟨F, h1, h2, h3⟩ := HO.out
            rw [hd1]
            exact ((h1.set (a := ⟨g9, 0, none⟩) h2 _).set (a := ⟨g9, 1, none⟩) h2 _).own h3
          refine hK _ _ (HS.out _ e1) ?_
          clear hK K y0 y1 y2 y3 hd1
          try simp only [Act.put, List.setIfInBounds_toArray, List.set_cons_zero, List.set_cons_succ]
          refine fan_done (by kernel_rfl) ?_
          show wpList _ _ _ _ _ _
          have FIN := hide (And.intro i9 (And.intro oG e1))
          clear e1 i9 oG HO HS KW
          go_wp2_with fail
          go_meet
          exact ⟨g9, _, _, rfl, rfl, FIN⟩
      case rest =>
      obtain ⟨g9, s6, c6, rfl, rfl, hC⟩ := hcut
      obtain ⟨P1, P2⟩ := Own.fst (c := [s6]) (d := [c6]) hC.out.2.1 rfl
      obtain ⟨al6, cl6, hv⟩ := P1.rdS.slice
      obtain ⟨ac6, cd6, hv2⟩ := P2.rdS.slice
      obtain ⟨dl3, hd3⟩ : ∃ k, k = d'.1.length := ⟨_, rfl⟩
      obtain ⟨dl4, hd4⟩ : ∃ k, k = d'.2.length := ⟨_, rfl⟩
      rw [← hd3] at hv
      rw [← hd4] at hv2
      subst hv hv2
      obtain ⟨⟨xq, yq, rU⟩, V, hV, f6, ⟨u0, cu6⟩, HI7, bV⟩ := HH.out.1.over2 (by omega) hC.out.2.1 hC.out.2.2 (p := p) (by rw [HL.out]; omega) (100 * (i : Int) + p + 1)
      have cV := HH.out.2.1.trans (bV w.heap.size (by omega) (by omega))
      obtain ⟨A0, A1, A2, A3⟩ := row2_cells rU
      obtain ⟨T0, T1, _, _⟩ := row2_cells hC.out.1
      subst hV
      have H7 : Hid (PInv n x0 d' (L.set p (100 * (i : Int) + p + 1)) (i + 1) ∧ _ ∧ _) := ⟨HM.out.2, HI7, cV⟩
      clear HI7 cV bV P1 P2 HM HL HH HS KW rU hd3 hd4 hif cx hl hC
      go_wp2_with fail
      refine (num7_any _ _).mono ?_
      rintro e w' ⟨rfl, rfl⟩
      go_wp2_with fail
      go_roundw
      case rel => exact ⟨i + 1, _, _, by omega, by go_num, H7⟩
      case measure => simp [intOf]; omega
    · go_upto_region 9 with fail
      go_cut [44] from 33 to 44 (fun s wx => s = .bool false ∧ wr = wx)
      case first =>
        by_cases g1 : i < x1.length
        · have j1 : (i : Int) < (x1.length : Int) := by omega
          by_cases g2 : i < 12
          · have j2 : (i : Int) < 12 := by omega
            have j3 : decide ((0 : Int) < (n : Int)) = false := by simp; omega
            go_wp2_with fail
            go_meet
            first | exact ⟨rfl, rfl⟩ | exact ⟨rfl, trivial⟩ | exact ⟨by rw [decide_eq_false (by omega)], rfl⟩
          · have j2 : decide ((i : Int) < 12) = false := by simp; omega
            go_wp2_with fail
            go_meet
            first | exact ⟨rfl, rfl⟩ | exact ⟨rfl, trivial⟩ | exact ⟨by rw [decide_eq_false (by omega)], rfl⟩
        · have j1 : decide ((i : Int) < (x1.length : Int)) = false := by simp; omega
          go_wp2_with fail
          go_meet
          first | exact ⟨rfl, rfl⟩ | exact ⟨rfl, trivial⟩ | exact ⟨by rw [decide_eq_false (by omega)], rfl⟩
      case rest =>
      obtain ⟨rfl, rfl⟩ := hcut
      obtain ⟨hP, HI, cc⟩ := hH.out
      have HP := hide hP
      have HC := hide cc
      obtain ⟨⟨s, c, hrow, F, hF, nb, ng⟩, la⟩ := HI
      obtain ⟨al5, cl5, ac5, cd5, hv, hv2⟩ : ∃ al cl ac cd, s = .slice al d.1.length cl ∧ c = .slice ac d.2.length cd := own_form' hF
      subst hv hv2
      obtain ⟨P1, P2⟩ := Own.fst (c := [.slice al5 d.1.length cl5]) (d := [.slice ac5 d.2.length cd5]) (show Own SStP 0 wr [.slice al5 d.1.length cl5, .slice ac5 d.2.length cd5] d from ⟨F, hF.1, hF.2, fun _ _ => Nat.zero_le _⟩) rfl
      have HR := hide (And.intro P1.rdS P2.rdS)
      have HB := hide (row2_cells hrow)
      have HLA := hide la
      clear hH hP cc hrow F hF nb ng la P1 P2 hall
      generalize wr = V at *
      go_wp2
      go_loopw [13] (fun a wr => ∃ k : Nat, k ≤ n ∧ a = .int .i64 k ∧ Hid (Below V.heap.size V wr)) (fun a _ => n - (intOf a).toNat)
      case atStart => exact ⟨0, Nat.zero_le _, rfl, hide (Below.refl _ _)⟩
      case round =>
        obtain ⟨k, hk, rfl, hb⟩ := hrel
        by_cases hlt : k < n
        · have hq : (k : Int) < (n : Int) := by omega
          obtain ⟨v, hv, _⟩ := some_at L (k := k) (by rw [HP.out.l]; exact hlt)
          have hcl := (hb.out.cell (cell_lt (HLA.out.cell hv))).trans (HLA.out.cell hv)
          by_cases hv0 : v = 0
          · subst hv0
            go_wp2
            go_roundw
            case rel => exact ⟨k + 1, by omega, by go_num, hb⟩
            case measure => simp [intOf]; omega
          · have hv0' : (v == 0) = false := beq_eq_false_iff_ne.2 hv0
            obtain ⟨X, hX, hXm⟩ := some_at x0 (k := k) (by omega)
            obtain ⟨hvb, hrd0⟩ := (HP.out.r k v hv).resolve_left hv0
            have hrd := hrd0 X hX
            have hXl := M0.out X hXm
            obtain ⟨bx, ox, ux, rfl, hcx0, hrx⟩ := R0.out.oct hX
            have cw := HC.out.trans (hb.out.mono HC.out.size)
            have hcx := (cw.cell (cell_lt hcx0)).trans hcx0
            clear hcx0
            obtain ⟨ad, cdd, rfl⟩ := hrx.slice
            obtain ⟨l, hl, hl2⟩ : ∃ l : Nat, min (X.length : Int) 244 = (l : Int) ∧ l = min X.length 244 := ⟨min X.length 244, by omega, rfl⟩
            have fx0 := rd_take hrx (n := l) (by omega)
            have cx : (l : Int) ≤ (cdd : Int) := by have := rd_cap hrx; omega
            obtain ⟨Y, hY⟩ : ∃ Y, Y = cutX X := ⟨_, rfl⟩
            have fx : Rd w (.slice ad l cdd) Y := by rw [hY]; unfold cutX; rw [← hl2]; exact fx0
            have hYl : Hid (Y.length = l) := by show _ = _; rw [hY, cutX_len, hl2]
            rw [← hY] at hrd
            obtain ⟨XL, hXL⟩ : ∃ XL, X.length = XL := ⟨_, rfl⟩
            rw [hXL] at hcx hl hXl
            have FX := hide (fx.to cw)
            have hkX : (k : Int) < (x0.length : Int) := by omega
            have hif : (if (244 : Int) < (XL : Int) then 244 else (XL : Int)) = (l : Int) := by split <;> omega
            have hwp1 : IntKind.i64.wrap (4 * (k : Int)) = 4 * (k : Int) := by rw [IntKind.wrap_i64]; omega
            have hwp2 : IntKind.i64.wrap (v - 1) = v - 1 := by rw [IntKind.wrap_i64]; omega
            have A0 := (hb.out.cell (cell_lt HB.out.1)).trans HB.out.1
            have A1 := (hb.out.cell (cell_lt HB.out.2.1)).trans HB.out.2.1
            have bd : Below wr.heap.size wr wr.drew := (Below.refl _ _).drew
            have r5 := HR.out.1.to0 (hb.out.trans (bd.mono hb.out.size))
            have q5 := HR.out.2.to0 (hb.out.trans (bd.mono hb.out.size))
            obtain ⟨dl1, hd1⟩ : ∃ k, d.1.length = k := ⟨_, rfl⟩
            obtain ⟨dl2, hd2⟩ : ∃ k, d.2.length = k := ⟨_, rfl⟩
            rw [hd1] at A0 r5
            rw [hd2] at A1 q5
            have KK := hide (S.readS wr.drew _ _ d (4 * (k : Int)) (v - 1) r5 q5 (by omega) (by omega))
            rw [hrd] at KK
            dsimp only at KK
            have K8 : Hid (Calls Try.prog 20 #[.agg #[.slice al5 dl1 cl5, .slice ac5 dl2 cd5], .int .i64 (4 * (k : Int)), .int .i64 (v - 1)] wr.drew fun e w8 => ∃ s4 t4, e = .returned (.tuple #[.slice s4 l t4, .int .i64 0]) ∧ Hid (Rd w8 (.slice s4 l t4) Y) ∧ Hid (Below wr.heap.size wr w8)) := by
              refine KK.out.mono ?_
              rintro e w8 ⟨u, rfl, o, bb⟩
              obtain ⟨s4, t4, hu⟩ := o.rd.slice
              have hr := o.rd
              rw [hYl.out] at hu
              subst hu
              exact ⟨s4, t4, rfl, hr, bd.trans bb⟩
            have HS : Hid (∀ w9, Below wr.heap.size wr w9 → w9.cell? ⟨w2.heap.size, 0, none⟩ = some (.slice al5 dl1 cl5) ∧ w9.cell? ⟨w2.heap.size, 1, none⟩ = some (.slice ac5 dl2 cd5) ∧ w9.cell? ⟨w2.heap.size + 1, k, none⟩ = some (.int .i64 v) ∧ w9.cell? ⟨bx, ox + k, none⟩ = some (.slice ad XL cdd)) := fun w9 b9 => ⟨(b9.cell (cell_lt A0)).trans A0, (b9.cell (cell_lt A1)).trans A1, (b9.cell (cell_lt hcl)).trans hcl, (b9.cell (cell_lt hcx)).trans hcx⟩
            clear KK A0 A1 r5 q5 hrd hrd0 hrx fx fx0 hl2 hXL hY hX hXm cw hd1 hd2 hvb hv0 hv
            go_wp2_with fail
            clear hcl hcx
            refine wp_region_sched (fun w9 => w9.cell? ⟨w2.heap.size, 0, none⟩ = some (.slice al5 dl1 cl5) ∧ w9.cell? ⟨w2.heap.size, 1, none⟩ = some (.slice ac5 dl2 cd5) ∧ w9.cell? ⟨w2.heap.size + 1, k, none⟩ = some (.int .i64 v) ∧ w9.cell? ⟨bx, ox + k, none⟩ = some (.slice ad XL cdd)) [(0, true), (1, true), (2, true), (3, true), (4, true), (5, true), (6, true), (7, true), (8, false), (9, true), (10, true), (11, true), (12, true)] 13 mixed (by kernel_rfl) (fun _ _ _ _ h => h) ?_
            refine sched_take (v := ?_) rfl (by kernel_rfl) (HS.out _ bd) ?_ ?_
            rotate_left
            · rintro w9 ⟨i0, i1, i2, i3⟩
              go_simp
              try with_reducible rfl
            try simp only [Act.put, List.setIfInBounds_toArray, List.set_cons_zero, List.set_cons_succ]
            refine sched_take (v := ?_) rfl (by kernel_rfl) (HS.out _ bd) ?_ ?_
            rotate_left
            · rintro w9 ⟨i0, i1, i2, i3⟩
              go_simp
              try with_reducible rfl
            try simp only [Act.put, List.setIfInBounds_toArray, List.set_cons_zero, List.set_cons_succ]
            refine sched_take (v := ?_) rfl (by kernel_rfl) (HS.out _ bd) ?_ ?_
            rotate_left
            · rintro w9 ⟨i0, i1, i2, i3⟩
              go_simp
              try with_reducible rfl
            try simp only [Act.put, List.setIfInBounds_toArray, List.set_cons_zero, List.set_cons_succ]
            refine sched_take (v := ?_) rfl (by kernel_rfl) (HS.out _ bd) ?_ ?_
            rotate_left
            · rintro w9 ⟨i0, i1, i2, i3⟩
              go_simp
              try with_reducible rfl
            try simp only [Act.put, List.setIfInBounds_toArray, List.set_cons_zero, List.set_cons_succ]
            refine sched_take (v := ?_) rfl (by kernel_rfl) (HS.out _ bd) ?_ ?_
            rotate_left
            · rintro w9 ⟨i0, i1, i2, i3⟩
              go_simp
              try with_reducible rfl
            try simp only [Act.put, List.setIfInBounds_toArray, List.set_cons_zero, List.set_cons_succ]
            refine sched_take (v := ?_) rfl (by kernel_rfl) (HS.out _ bd) ?_ ?_
            rotate_left
            · rintro w9 ⟨i0, i1, i2, i3⟩
              go_simp
              try with_reducible rfl
            try simp only [Act.put, List.setIfInBounds_toArray, List.set_cons_zero, List.set_cons_succ]
            refine sched_take (v := ?_) rfl (by kernel_rfl) (HS.out _ bd) ?_ ?_
            rotate_left
            · rintro w9 ⟨i0, i1, i2, i3⟩
              go_simp
              try with_reducible rfl
            try simp only [Act.put, List.setIfInBounds_toArray, List.set_cons_zero, List.set_cons_succ]
            refine sched_take (v := ?_) rfl (by kernel_rfl) (HS.out _ bd) ?_ ?_
            rotate_left
            · rintro w9 ⟨i0, i1, i2, i3⟩
              go_simp
              try with_reducible rfl
            try simp only [Act.put, List.setIfInBounds_toArray, List.set_cons_zero, List.set_cons_succ]
            refine sched_run rfl (by kernel_rfl) fun K hK => ?_
            refine wp_call_of 20 _ _ (by rfl) #[.agg #[.slice al5 dl1 cl5, .slice ac5 dl2 cd5], .int .i64 (4 * (k : Int)), .int .i64 (v - 1)] (by simp [Act.eval]) (Try.call20 _ _) (K8.out) ?_
            rintro e w8 ⟨s4, t4, rfl, ra, b8⟩
            refine ⟨_, rfl, hK _ _ (HS.out _ b8.out) ?_⟩
            clear hK K
            try simp only [Act.put, List.setIfInBounds_toArray, List.set_cons_zero, List.set_cons_succ]
            refine sched_take (v := ?_) rfl (by kernel_rfl) (HS.out _ b8.out) ?_ ?_
            rotate_left
            · rintro w9 ⟨i0, i1, i2, i3⟩
              go_simp
              try with_reducible rfl
            try simp only [Act.put, List.setIfInBounds_toArray, List.set_cons_zero, List.set_cons_succ]
            refine sched_take (v := ?_) rfl (by kernel_rfl) (HS.out _ b8.out) ?_ ?_
            rotate_left
            · rintro w9 ⟨i0, i1, i2, i3⟩
              go_simp
              try with_reducible rfl
            try simp only [Act.put, List.setIfInBounds_toArray, List.set_cons_zero, List.set_cons_succ]
            refine sched_take (v := ?_) rfl (by kernel_rfl) (HS.out _ b8.out) ?_ ?_
            rotate_left
            · rintro w9 ⟨i0, i1, i2, i3⟩
              go_simp
              try with_reducible rfl
            try simp only [Act.put, List.setIfInBounds_toArray, List.set_cons_zero, List.set_cons_succ]
            refine sched_take (v := ?_) rfl (by kernel_rfl) (HS.out _ b8.out) ?_ ?_
            rotate_left
            · rintro w9 ⟨i0, i1, i2, i3⟩
              go_simp
              try with_reducible rfl
            try simp only [Act.put, List.setIfInBounds_toArray, List.set_cons_zero, List.set_cons_succ]
            show wpList _ _ _ _ _ _
            dsimp only [List.drop]
            clear K8 hwp1 hwp2
            have b9 : Below wr.heap.size wr w8.drew := b8.out.drew
            have KS : Hid (Calls Try.prog 14 #[.slice s4 l t4, .slice ad l cdd] w8.drew fun e w10 => e = .returned (.bool true) ∧ Hid (Below wr.heap.size wr w10)) := by
              have K0 := same_any w8.drew (.slice s4 l t4) (.slice ad l cdd) Y Y (ra.out.to (Below.refl _ _).drew) (FX.out.to b9)
              rw [sameB_self] at K0
              refine K0.mono ?_
              rintro e w10 ⟨rfl, nd, hw⟩
              exact ⟨rfl, by show Below _ _ _; rw [hw]; exact b9.trans ((below_drewN' _ _ _).mono b9.size)⟩
            clear ra
            go_wp2_with fail
            refine wp_region_sched (fun w9 => w9.cell? ⟨w2.heap.size, 0, none⟩ = some (.slice al5 dl1 cl5) ∧ w9.cell? ⟨w2.heap.size, 1, none⟩ = some (.slice ac5 dl2 cd5) ∧ w9.cell? ⟨w2.heap.size + 1, k, none⟩ = some (.int .i64 v) ∧ w9.cell? ⟨bx, ox + k, none⟩ = some (.slice ad XL cdd)) [(0, true), (1, false), (2, true), (3, true), (4, true), (5, true), (6, true), (7, true), (8, true), (9, true), (10, true), (11, true), (12, true), (13, true), (14, true), (15, true), (16, false)] 17 mixed (by kernel_rfl) (fun _ _ _ _ h => h) ?_
            refine sched_take (v := ?_) rfl (by kernel_rfl) (HS.out _ b9) ?_ ?_
            rotate_left
            · rintro w9 ⟨i0, i1, i2, i3⟩
              go_simp
              try with_reducible rfl
            try simp only [Act.put, List.setIfInBounds_toArray, List.set_cons_zero, List.set_cons_succ]
            refine sched_run rfl (by kernel_rfl) fun K hK => ?_
            refine wp_call_of 15 _ _ (by rfl) #[.int .i64 0] (by simp [Act.eval]) (Try.call15 _ _) (num7_any _ _) ?_
            rintro e w' ⟨rfl, rfl⟩
            refine ⟨_, rfl, hK _ _ (HS.out _ b9) ?_⟩
            clear hK K
            try simp only [Act.put, List.setIfInBounds_toArray, List.set_cons_zero, List.set_cons_succ]
            refine sched_take (v := ?_) rfl (by kernel_rfl) (HS.out _ b9) ?_ ?_
            rotate_left
            · rintro w9 ⟨i0, i1, i2, i3⟩
              go_simp
              try with_reducible rfl
            try simp only [Act.put, List.setIfInBounds_toArray, List.set_cons_zero, List.set_cons_succ]
            refine sched_take (v := ?_) rfl (by kernel_rfl) (HS.out _ b9) ?_ ?_
            rotate_left
            · rintro w9 ⟨i0, i1, i2, i3⟩
              go_simp
              try with_reducible rfl
            try simp only [Act.put, List.setIfInBounds_toArray, List.set_cons_zero, List.set_cons_succ]
            refine sched_take (v := ?_) rfl (by kernel_rfl) (HS.out _ b9) ?_ ?_
            rotate_left
            · rintro w9 ⟨i0, i1, i2, i3⟩
              go_simp
              try with_reducible rfl
            try simp only [Act.put, List.setIfInBounds_toArray, List.set_cons_zero, List.set_cons_succ]
            refine sched_take (v := ?_) rfl (by kernel_rfl) (HS.out _ b9) ?_ ?_
            rotate_left
            · rintro w9 ⟨i0, i1, i2, i3⟩
              go_simp
              try with_reducible rfl
            try simp only [Act.put, List.setIfInBounds_toArray, List.set_cons_zero, List.set_cons_succ]
            refine sched_take (v := ?_) rfl (by kernel_rfl) (HS.out _ b9) ?_ ?_
            rotate_left
            · rintro w9 ⟨i0, i1, i2, i3⟩
              go_simp
              try with_reducible rfl
            try simp only [Act.put, List.setIfInBounds_toArray, List.set_cons_zero, List.set_cons_succ]
            refine sched_take (v := ?_) rfl (by kernel_rfl) (HS.out _ b9) ?_ ?_
            rotate_left
            · rintro w9 ⟨i0, i1, i2, i3⟩
              go_simp
              try with_reducible rfl
            try simp only [Act.put, List.setIfInBounds_toArray, List.set_cons_zero, List.set_cons_succ]
            refine sched_take (v := ?_) rfl (by kernel_rfl) (HS.out _ b9) ?_ ?_
            rotate_left
            · rintro w9 ⟨i0, i1, i2, i3⟩
              go_simp
              try with_reducible rfl
            try simp only [Act.put, List.setIfInBounds_toArray, List.set_cons_zero, List.set_cons_succ]
            refine sched_take (v := ?_) rfl (by kernel_rfl) (HS.out _ b9) ?_ ?_
            rotate_left
            · rintro w9 ⟨i0, i1, i2, i3⟩
              go_simp
              try with_reducible rfl
            try simp only [Act.put, List.setIfInBounds_toArray, List.set_cons_zero, List.set_cons_succ]
            refine sched_take (v := ?_) rfl (by kernel_rfl) (HS.out _ b9) ?_ ?_
            rotate_left
            · rintro w9 ⟨i0, i1, i2, i3⟩
              go_simp
              try with_reducible rfl
            try simp only [Act.put, List.setIfInBounds_toArray, List.set_cons_zero, List.set_cons_succ]
            refine sched_take (v := ?_) rfl (by kernel_rfl) (HS.out _ b9) ?_ ?_
            rotate_left
            · rintro w9 ⟨i0, i1, i2, i3⟩
              go_simp
              try with_reducible rfl
            try simp only [Act.put, List.setIfInBounds_toArray, List.set_cons_zero, List.set_cons_succ]
            refine sched_take (v := ?_) rfl (by kernel_rfl) (HS.out _ b9) ?_ ?_
            rotate_left
            · rintro w9 ⟨i0, i1, i2, i3⟩
              go_simp
              try with_reducible rfl
            try simp only [Act.put, List.setIfInBounds_toArray, List.set_cons_zero, List.set_cons_succ]
            refine sched_take (v := ?_) rfl (by kernel_rfl) (HS.out _ b9) ?_ ?_
            rotate_left
            · rintro w9 ⟨i0, i1, i2, i3⟩
              go_simp
              try with_reducible rfl
            try simp only [Act.put, List.setIfInBounds_toArray, List.set_cons_zero, List.set_cons_succ]
            refine sched_take (v := ?_) rfl (by kernel_rfl) (HS.out _ b9) ?_ ?_
            rotate_left
            · rintro w9 ⟨i0, i1, i2, i3⟩
              go_simp
              try with_reducible rfl
            try simp only [Act.put, List.setIfInBounds_toArray, List.set_cons_zero, List.set_cons_succ]
            refine sched_take (v := ?_) rfl (by kernel_rfl) (HS.out _ b9) ?_ ?_
            rotate_left
            · rintro w9 ⟨i0, i1, i2, i3⟩
              go_simp
              try with_reducible rfl
            try simp only [Act.put, List.setIfInBounds_toArray, List.set_cons_zero, List.set_cons_succ]
            refine sched_run rfl (by kernel_rfl) fun K hK => ?_
            refine wp_call_of 14 _ _ (by rfl) #[.slice s4 l t4, .slice ad l cdd] (by simp [Act.eval]) (Try.call14 _ _) (KS.out) ?_
            rintro e w10 ⟨rfl, b10⟩
            refine ⟨_, rfl, hK _ _ (HS.out _ b10.out) ?_⟩
            clear hK K
            try simp only [Act.put, List.setIfInBounds_toArray, List.set_cons_zero, List.set_cons_succ]
            show wpList _ _ _ _ _ _
            dsimp only [List.drop]
            have H10 := hide (hb.out.trans (b10.out.mono hb.out.size))
            clear KS HS hif cx hl
            go_wp2_with fail
            go_roundw
            case rel => exact ⟨k + 1, by omega, by go_num, H10⟩
            case measure => simp [intOf]; omega
        · have hq : ¬ (k : Int) < (n : Int) := by omega
          have C8 := hide (HC.out.trans (hb.out.mono HC.out.size))
          go_wp2
          go_ret
          exact ⟨rfl, C8.out⟩


theorem walk (w : World) (a0 : Option Addr) (len0 cap0 : Nat) (x0 : List (List UInt8)) (g0 : SSec.rd w [.slice a0 len0 cap0] x0) (m0 : x0.length * 24 ≤ 140737488351232 ∧ ∀ x ∈ x0, x.length ≤ 140737488351232) (a1 : Option Addr) (len1 cap1 : Nat) (x1 : List Int) (g1 : SInts.rd w [.slice a1 len1 cap1] x1) (m1 : x1.length * 8 ≤ 140737488351232 ∧ ∀ x ∈ x1, True) :
    Calls Try.prog 8 #[.slice a0 len0 cap0, .slice a1 len1 cap1] w fun e w' => e = .returned (.bool true) ∧ Below w.heap.size w w' :=
  walkS pages_say w a0 len0 cap0 x0 g0 m0 a1 len1 cap1 x1 g1 m1

set_option maxRecDepth 100000 in
theorem lifted (os : Os) (started : os.Started) (H : Type) (enc : TypeId × Value → H) :
    ReturnsInHanded {} Try.checked os 8 .any (Rows.pagesApartSpec.pre6 enc Try.prog Try.f8 Rows.pagesApartRow.domain false) (Rows.pagesApartSpec.post enc Try.prog Try.f8 false true false false) := by
  refine returnsInHanded_of_change_sized (C := Try.checked) own started (by kernel_rfl) Try.func8
    (ChangeSpec.witness6 (enc := enc) (C := Try.checked) false ⟨#[], #[.slice none 0 0, .slice none 0 0], []⟩ 8 (by kernel_rfl) (by kernel_rfl) (by kernel_rfl) (by kernel_rfl)) ?_
  intro W base args ds gs before hval0 hW hcnd hsz0 _
  have hsz : (DataW.weightsEach Try.prog (Try.f8.params.toList ++ Rows.pagesApartSpec.plain.varTypes Try.prog) (ds ++ gs)).all (· ≤ reachBytes) = true := hsz0
  have hval : ∀ (j : Nat) t v, Try.f8.params[j]? = some t → args[j]? = some v → Value.okWide Try.prog W .any base t v := hval0
  have hW' := hW
  obtain ⟨p, q, hA0, hV, rfl, hfz, hnd⟩ := hW
  have hA : DataW.TrodAll enc Try.prog W 0 (fun _ => true) true Try.f8.params.toList args.toList ds p := hA0
  rw [Try.params8] at hA hval hsz
  obtain ⟨v0, vs0, d0, ds0, p0, q0, hargs, rfl, rfl, h0, r0⟩ := trodAll_cons hA
  obtain ⟨v1, vs1, d1, ds1, p1, q1, rfl, rfl, rfl, h1, r1⟩ := trodAll_cons r0
  obtain ⟨rfl, rfl, rfl⟩ := trodAll_nil r1
  obtain rfl : args = #[v0, v1] := by cases args; simp_all
  obtain ⟨rfl, rfl⟩ := trodVars_none hV
  obtain ⟨a0, len0, cap0, rfl⟩ := okWide_slice Try.underlying37 (hval 0 37 v0 rfl rfl)
  have lt0 : ∀ x ∈ p0, x.block < W.heap.size := by obtain ⟨m, hm⟩ := h0; exact DataW.trod_lt m _ _ _ hm
  have hh0 := h0
  obtain ⟨fu0, hf0⟩ := hh0
  obtain ⟨x0, g0, f0, b0⟩ := open_sectors.opened hf0
  obtain ⟨a1, len1, cap1, rfl⟩ := okWide_slice Try.underlying64 (hval 1 64 v1 rfl rfl)
  have lt1 : ∀ x ∈ p1, x.block < W.heap.size := by obtain ⟨m, hm⟩ := h1; exact DataW.trod_lt m _ _ _ hm
  have hh1 := h1
  obtain ⟨fu1, hf1⟩ := hh1
  obtain ⟨x1, g1, f1, b1⟩ := open_sints.opened hf1
  have m0 := f0 (reach_of hsz (j := 0) rfl rfl)
  have m1 := f1 (reach_of hsz (j := 1) rfl rfl)
  clear hA0 hval0 hsz0 hsz
  refine (walk W a0 len0 cap0 x0 g0 m0 a1 len1 cap1 x1 g1 m1).mono fun e W' ⟨he, bel⟩ => ?_
  subst he
  exact ⟨_, rfl, _, _, _, [], _, [], hW', trodAll_mk1 (shut_bool Try.underlying4 _), (trodAll_cons_mk (Below.trod laidOut (by kernel_rfl) (of_decide_eq_true (by kernel_rfl)) h0 bel lt0) (trodAll_cons_mk (Below.trod laidOut (by kernel_rfl) (of_decide_eq_true (by kernel_rfl)) h1 bel lt1) trodAll_mk0)), rfl, bel.frame _, fun h => by cases h⟩

theorem over : Rows.pagesApartRow.holds Try.pinned (OpenSpec.ofChange Rows.pagesApartSpec) :=
  OpenClaim.holds_of_wide 8 Try.f8 rfl rfl rfl rfl rfl rfl rfl ⟨rfl, rfl, rfl, rfl, rfl⟩ rfl rfl rfl rfl rfl (by kernel_rfl) Try.func8 (by kernel_rfl)
    (of_decide_eq_true (by kernel_rfl)) (by unfold Func.isWrapper; first | (rw [if_pos (by decide +kernel)]; kernel_rfl) | (rw [if_neg (by decide +kernel)]; exact ⟨rfl, rfl⟩))
    (fun os started H enc _ => lifted os started H enc)

end Go.Proofs.Ytliileemelcllaa.pagesApart
namespace Go.Proofs.Ytliileemelcllaa
/-- THE STATEMENT -/
theorem pagesApart_holds : Rows.PagesApartSaid := pagesApart.over
end Go.Proofs.Ytliileemelcllaa
