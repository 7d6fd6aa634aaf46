/-
  Rows told apart by their types: what is kept where a row of another type, or a box, is written; lists of segments of the call's own (OwnW) beside lists of octets (OwnV). Nothing of the program's functions is named.
-/
import Derived.Test.YtlnoancjegifnaaWRcsR
import Derived.Test.YtlnoancjegifnaaWTruR
namespace Go.Proofs.Ytlnoancjegifnaa
open Go.RowKit
set_option linter.unusedVariables false

/-- each block of the type e is kept -/
def KeepT (e : Nat) (w w' : World) : Prop := ∀ (b : Nat) (cur : Array Value) (fr : Nat × Nat), w.heap[b]? = some (Obj.cells cur e fr) → w'.heap[b]? = some (Obj.cells cur e fr)
theorem KeepT.refl (e : Nat) (w : World) : KeepT e w w := fun _ _ _ h => h
theorem KeepT.trans {e : Nat} {a b c : World} (h : KeepT e a b) (k : KeepT e b c) : KeepT e a c := fun i cur fr x => k i cur fr (h i cur fr x)
theorem KeepT.below {e : Nat} {w w' : World} (h : Below w.heap.size w w') : KeepT e w w' := fun b cur fr x => (h.block b (lt_of_block x)).trans x
theorem KeepT.grown {e e' B s n : Nat} {w w' : World} {v : Value} {xs : List Value} (hr : w.ownsRow B e' s v n xs) (hg : w.grownBy w' v.ownBlock) (hne : e ≠ e') : KeepT e w w' := fun b cur fr x => by
  refine (hg.block b (lt_of_block x) fun h => ?_).trans x
  rcases hr.2 with ⟨rfl, _⟩ | ⟨g, cap, cur', rfl, _, hg', _⟩
  · cases h
  · simp only [Value.ownBlock, Option.some.injEq] at h
    subst h
    rw [x] at hg'
    simp only [Option.some.injEq, Obj.cells.injEq] at hg'
    exact hne hg'.2.1
theorem KeepT.set {e t : Nat} {w : World} {a : Addr} {cs : Array Value} {fr : Nat × Nat} (h : w.heap[a.block]? = some (.cells cs t fr)) (hne : e ≠ t) (u : Value) : KeepT e w (w.setCell a u) := fun b cur fr' x => by
  refine (Below.heap_setCell _ _ _ _ fun h' => ?_).trans x
  rw [h', h] at x
  simp only [Option.some.injEq, Obj.cells.injEq] at x
  exact hne x.2.1.symm
theorem rows_keepT {w w' : World} {B e s n : Nat} {v : Value} {xs : List Value} (h : w.ownsRow B e s v n xs) (k : KeepT e w w') : w'.ownsRow B e s v n xs := by
  refine ⟨h.1, ?_⟩
  rcases h.2 with hn | ⟨g, cap, cur, hv, hgb, hg, r⟩
  · exact .inl hn
  · exact .inr ⟨g, cap, cur, hv, hgb, k _ _ _ hg, r⟩
theorem rows_lt {w : World} {B e s n : Nat} {v : Value} {xs : List Value} (h : w.ownsRow B e s v n xs) : ∀ k, v.ownBlock = some k → k < w.heap.size := by
  intro k hk
  rcases h.2 with ⟨rfl, _⟩ | ⟨g, cap, cur, rfl, hb, hg, _⟩
  · cases hk
  · simp only [Value.ownBlock, Option.some.injEq] at hk
    subst hk
    exact lt_of_block hg
theorem OwnV.keepT {B C : Nat} {w w' : World} {v : Value} {xss : List (List UInt8)} (h : OwnV B C w v xss) (k1 : KeepT 5 w w') (k2 : KeepT 54 w w') : OwnV B C w' v xss := by
  obtain ⟨vs, h1, h2, h3⟩ := h
  exact ⟨vs, h1, rows_keepT h2 k2, fun i hi => rows_keepT (h3 i hi) k1⟩

/-- the cells of a list of segments, their data at 'svs' -/
def wcells : List Wrt → List Value → List Value
  | f :: fs, sv :: svs => .int .i64 f.1 :: sv :: wcells fs svs
  | _, _ => []
theorem wcells_snoc : ∀ (fs : List Wrt) (svs : List Value) (f : Wrt) (sv : Value), svs.length = fs.length → wcells (fs ++ [f]) (svs ++ [sv]) = wcells fs svs ++ [.int .i64 f.1, sv]
  | [], svs, f, sv, h => by
    have : svs = [] := List.eq_nil_of_length_eq_zero (by simpa using h)
    subst this; rfl
  | g :: fs, [], f, sv, h => by simp at h
  | g :: fs, s :: svs, f, sv, h => by
    have := wcells_snoc fs svs f sv (by simpa using h)
    simp only [List.cons_append, wcells, this]
theorem wcells_at : ∀ (fs : List Wrt) (svs : List Value) (i : Nat), svs.length = fs.length → i < fs.length →
    (wcells fs svs)[i * 2]? = some (.int .i64 (fs.getD i (0, [])).1) ∧ (wcells fs svs)[i * 2 + 1]? = some (svs.getD i undef)
  | [], _, i, _, hi => by simp at hi
  | f :: fs, [], i, h, hi => by simp at h
  | f :: fs, sv :: svs, 0, h, hi => by simp [wcells]
  | f :: fs, sv :: svs, i + 1, h, hi => by
    have := wcells_at fs svs i (by simpa using h) (by simpa using hi)
    rw [show (i + 1) * 2 = i * 2 + 1 + 1 from by omega, show i * 2 + 1 + 1 + 1 = (i * 2 + 1) + 1 + 1 from rfl]
    simpa [wcells] using this
def OwnW (T B : Nat) (w : World) (v : Value) (ws : List Wrt) : Prop :=
  ∃ svs : List Value, svs.length = ws.length ∧ w.ownsRow B T 2 v ws.length (wcells ws svs) ∧ ∀ i, i < ws.length → OwnB 0 w (svs.getD i undef) (ws.getD i (0, [])).2
theorem OwnW.nil (T B : Nat) (w : World) : OwnW T B w (.slice none 0 0) [] := ⟨[], rfl, World.ownsRow_nil _ _ _ _, fun i hi => by simp at hi⟩
theorem OwnW.keepT {T B : Nat} {w w' : World} {v : Value} {ws : List Wrt} (h : OwnW T B w v ws) (k1 : KeepT 5 w w') (k2 : KeepT T w w') : OwnW T B w' v ws := by
  obtain ⟨vs, h1, h2, h3⟩ := h
  exact ⟨vs, h1, rows_keepT h2 k2, fun i hi => rows_keepT (h3 i hi) k1⟩
theorem OwnW.snoc {T B : Nat} {w w' : World} {v v' : Value} {ws : List Wrt} {f : Wrt} {sv : Value} (hT : T ≠ 5) {svs : List Value} (h1 : svs.length = ws.length) (h2 : w.ownsRow B T 2 v ws.length (wcells ws svs))
    (h3 : ∀ i, i < ws.length → OwnB 0 w (svs.getD i undef) (ws.getD i (0, [])).2) (hs : OwnB 0 w sv f.2)
    (hg : w.grownBy w' v.ownBlock) (hw : w'.ownsRow B T 2 v' (ws.length + 1) (wcells ws svs ++ [.int .i64 f.1, sv])) : OwnW T B w' v' (ws ++ [f]) := by
  refine ⟨svs ++ [sv], by simp [h1], ?_, ?_⟩
  · rw [wcells_snoc ws svs f sv h1, List.length_append]
    exact hw
  · intro i hi
    simp only [List.length_append, List.length_cons, List.length_nil] at hi
    by_cases hlt : i < ws.length
    · have e1 : (svs ++ [sv]).getD i undef = svs.getD i undef := by simp [List.getD_eq_getElem?_getD, List.getElem?_append_left (show i < svs.length by omega)]
      have e2 : (ws ++ [f]).getD i (0, []) = ws.getD i (0, []) := by simp [List.getD_eq_getElem?_getD, List.getElem?_append_left hlt]
      rw [e1, e2]
      exact World.ownsRow.kept (h3 i hlt) hg (rows_ne (Ne.symm hT) (h3 i hlt) h2)
    · obtain rfl : i = ws.length := by omega
      have e1 : (svs ++ [sv]).getD ws.length undef = sv := by rw [← h1]; simp [List.getD_eq_getElem?_getD]
      have e2 : (ws ++ [f]).getD ws.length (0, []) = f := by simp [List.getD_eq_getElem?_getD]
      rw [e1, e2]
      exact World.ownsRow.kept hs hg (rows_ne (Ne.symm hT) hs h2)
theorem OwnW.rd {T B : Nat} {w : World} {v : Value} {ws : List Wrt} (h : OwnW T B w v ws) : RdC w v ws := by
  obtain ⟨svs, h1, h2, h3⟩ := h
  rcases h2.2 with ⟨rfl, h0⟩ | ⟨g, cap, cur, rfl, hgb, hg, hn, hm, hs, ht⟩
  · have : ws = [] := List.eq_nil_of_length_eq_zero h0
    subst this
    exact RdS.nil _ _
  · refine ⟨_, cap, rfl, hn, hm, (fun h => by cases h), .inr ⟨g, 0, rfl, fun i x hx => ?_⟩⟩
    have hi : i < ws.length := (List.getElem?_eq_some_iff.1 hx).1
    obtain ⟨c1, c2⟩ := wcells_at ws svs i h1 hi
    have hr := (h3 i hi).rd
    rw [getD_some hx] at c1 hr
    refine ⟨[.int .i64 x.1, svs.getD i undef], ⟨[_], [_], rfl, rfl, _, rfl, hr⟩, fun j u hj => ?_⟩
    match j, hj with
    | 0, hj =>
      simp only [List.getElem?_cons_zero, Option.some.injEq] at hj
      subst hj
      show w.cell? ⟨g, 0 + i * 2 + 0, none⟩ = _
      rw [Nat.zero_add, Nat.add_zero, h2.cellAt (i * 2) (by omega)]; exact c1
    | 1, hj =>
      simp only [List.getElem?_cons_succ, List.getElem?_cons_zero, Option.some.injEq] at hj
      subst hj
      show w.cell? ⟨g, 0 + i * 2 + 1, none⟩ = _
      rw [Nat.zero_add, h2.cellAt (i * 2 + 1) (by omega)]; exact c2
    | j + 2, hj => simp at hj
theorem rd_pre {w : World} {a : Option Addr} {len cap : Nat} {xs : List UInt8} (h : Rd w (.slice a len cap) xs) {n : Nat} (hn : n ≤ len) : Rd w (.slice a n cap) (xs.take n) := by
  obtain ⟨ao, c, e, l1, m1, n1, r1⟩ := h
  simp only [Value.slice.injEq] at e
  obtain ⟨rfl, rfl, rfl⟩ := e
  have el : (xs.take n).length = n := by simp; omega
  refine ⟨a, cap, by rw [el], by rw [el]; omega, m1, n1, ?_⟩
  rcases r1 with rfl | ⟨b, off, rfl, hc⟩
  · left; simp
  · right
    refine ⟨b, off, rfl, fun i hi => ?_⟩
    rw [el] at hi
    rw [hc i (by omega)]
    simp only [bt]
    congr 3
    simp only [List.getD_eq_getElem?_getD, List.getElem?_take]
    rw [if_pos hi]

/-- append of lists of octets: all rows of other types are kept -/
theorem wpList_append_lists2 {ops : Array Oper} {rest : List Oper} {o : Oper} {a : Act} {w : World} {Q : Exit → Act → World → Prop} (hgd : o.guard = none) (s x : Operand)
    (ho : o.op = .call { callee := .builtin .append, args := #[s, x], argTypes := #[23, 23] }) (B B2 C : Nat) (v v2 : Value) (xss yss : List (List UInt8)) (hs : a.eval s = v) (hx : a.eval x = v2)
    (h1 : OwnV B C w v xss) (h2 : OwnV B2 C w v2 yss) (hlen : (xss.length + yss.length) * 24 ≤ 140737488355328) (hB : B ≤ w.heap.size)
    (h : ∀ v' w', OwnV B C w' v' (xss ++ yss) → Below B w w' → (∀ e, e ≠ 54 → KeepT e w w') → wpList Try.prog ops Q rest (a.put o.dst v') w') : wpList Try.prog ops Q (o :: rest) a w := by
  obtain ⟨i0, hi, hz0, hz1, hz2⟩ := info_parts infoB
  obtain ⟨vs, p1, p2, p3⟩ := id h1
  obtain ⟨us, k1, k2, k3⟩ := h2
  rcases k2.2 with ⟨rfl, h0⟩ | ⟨g, cap, cur, rfl, hb, hg, hn, hm, hsz, ht⟩
  · have : yss = [] := List.eq_nil_of_length_eq_zero h0
    subst this
    refine wpList_append_own_none hgd s x 23 ho B 54 i0 1 Try.underlying23 hi v xss.length vs hs p2 hx ?_
    exact h v w (by simpa using h1) (Below.refl _ _) (fun e _ => KeepT.refl _ _)
  · have e1 : us.length = yss.length * 1 := by rw [Nat.mul_one]; exact k1
    have e2 : ∀ j u, us[j]? = some u → w.cell? ((⟨g, 0, none⟩ : Addr).add j) = some u := fun j u hj => by
      have hjl : j < us.length := (List.getElem?_eq_some_iff.1 hj).1
      have := k2.cellAt j (by omega)
      rw [addr_add0, Nat.zero_add, this]
      exact hj
    have e3 : ∀ u ∈ us, u.oneCell' = true := fun u hu => by
      obtain ⟨j, hj, e⟩ := List.mem_iff_getElem.1 hu
      have := k3 j (by omega)
      obtain ⟨ao, c, e'⟩ := this.rd.slice
      have e4 : us.getD j undef = u := by rw [← e]; simp [List.getD_eq_getElem?_getD, hj]
      rw [e4] at e'
      rw [e']; rfl
    refine wpList_append_own _ hgd s x 23 ho B 54 i0 (.slice none 0 0) 1 24 Try.underlying23 hi hz0 hz1 hz2 rfl (by decide) v xss.length vs hs p2 ⟨g, 0, none⟩ yss.length cap us hx e1 e2 e3
      (by rw [show maxLen = 9223372036854775807 from rfl]; omega) (by omega) hB ?_
    intro v' w' q1 q2 _
    exact h v' w' (OwnV.app p1 p2 p3 k1 k3 q2 q1) ((Below.refl _ _).grown q2 hB (rows_from p2)) (fun e he => KeepT.grown p2 q2 he)

/-- what Recover keeps: the answer's box at g, the log's at g + 1 -/
structure RInv (TS TL : Nat) (w wr : World) (o c : Value) (st : Wst) : Prop where
  box : wr.heap[w.heap.size + 1]? = some (.cells #[c, .int .i64 st.1.2, .slice none 0 0] TL (0, 0))
  ans : wr.heap[w.heap.size]? = some (.cells #[.slice none 0 0, .int .i64 0, .slice none 0 0] TL (0, 0))
  segs : OwnW TS w.heap.size wr c st.1.1
  recs : OwnV w.heap.size 0 wr o st.2
  bel : Below w.heap.size w wr
theorem RInv.to {TS TL : Nat} {w wr w' : World} {o c : Value} {st : Wst} (h : RInv TS TL w wr o c st) (hb : Below wr.heap.size wr w') : RInv TS TL w w' o c st :=
  ⟨(hb.block _ (lt_of_block h.box)).trans h.box, (hb.block _ (lt_of_block h.ans)).trans h.ans, h.segs.keepT (KeepT.below hb) (KeepT.below hb), h.recs.keepT (KeepT.below hb) (KeepT.below hb), h.bel.trans (hb.mono h.bel.size)⟩
theorem RInv.push {TS TL : Nat} {w u : World} {o c : Value} {ss : List Wrt} {nx : Int} {rs : List (List UInt8)} (h : RInv TS TL w u o c ((ss, nx), rs)) (t1 : TS ≠ 5) (t2 : TS ≠ 54) (t3 : TL ≠ 5) (t4 : TL ≠ 54) (t5 : TL ≠ TS) :
    ∃ cc, u.ownsRow 0 TS 2 c ss.length cc ∧ ∀ (w6 : World) (z : Int) (x : List UInt8) (sv : Value) (g cap : Nat), OwnB 0 u sv x → u.grownBy w6 c.ownBlock → w6.ownsRow 0 TS 2 (.slice (some ⟨g, 0, none⟩) (ss.length + 1) cap) (ss.length + 1) (cc ++ [.int .i64 z, sv]) → (c.ownBlock = some g ∨ g = u.heap.size) →
      (w6.cell? ⟨w.heap.size + 1, 0, none⟩ = some c ∧ w6.frozen? ⟨w.heap.size + 1, 0, none⟩ = false) ∧ RInv TS TL w (w6.setCell ⟨w.heap.size + 1, 0, none⟩ (.slice (some ⟨g, 0, none⟩) (ss.length + 1) cap)) o (.slice (some ⟨g, 0, none⟩) (ss.length + 1) cap) ((ss ++ [(z, x)], nx), rs) ∧ ∀ e, e ≠ TS → e ≠ TL → KeepT e u (w6.setCell ⟨w.heap.size + 1, 0, none⟩ (.slice (some ⟨g, 0, none⟩) (ss.length + 1) cap)) := by
  obtain ⟨svs, h1, h2, h3⟩ := h.segs
  refine ⟨_, rows_mono h2 (Nat.zero_le _), fun w6 z x sv g cap hs hg hw hlie => ?_⟩
  have hb6 := KeepT.grown h2 hg t5 _ _ _ h.box
  have ha6 := KeepT.grown h2 hg t5 _ _ _ h.ans
  have hcell := cells3 hb6
  have hw' : w6.ownsRow w.heap.size TS 2 (.slice (some ⟨g, 0, none⟩) (ss.length + 1) cap) (ss.length + 1) (wcells ss svs ++ [.int .i64 z, sv]) := by
    refine ⟨hw.1, ?_⟩
    rcases hw.2 with ⟨e, _⟩ | ⟨g', cap', cur, hv, hgb, r⟩
    · cases e
    · refine .inr ⟨g', cap', cur, hv, ?_, r⟩
      simp only [Value.slice.injEq, Option.some.injEq, Addr.mk.injEq] at hv
      obtain ⟨⟨rfl, _⟩, _⟩ := hv
      rcases hlie with e | e
      · exact rows_from h2 _ e
      · have := h.bel.size; omega
  have hS := OwnW.snoc (f := (z, x)) t1 h1 h2 h3 hs hg hw'
  have s6 : ∀ e, e ≠ TL → KeepT e w6 (w6.setCell ⟨w.heap.size + 1, 0, none⟩ (.slice (some ⟨g, 0, none⟩) (ss.length + 1) cap)) := fun e he => KeepT.set (a := ⟨w.heap.size + 1, 0, none⟩) hb6 he _
  refine ⟨⟨hcell.1.1, hcell.2 0⟩, ⟨set3_0 hb6 _, ?_, hS.keepT (s6 _ t3.symm) (s6 _ t5.symm), ?_, ?_⟩, fun e e1 e2 => (KeepT.grown h2 hg e1).trans (s6 e e2)⟩
  · rw [Below.heap_setCell _ _ _ _ (show w.heap.size ≠ w.heap.size + 1 by omega)]; exact ha6
  · exact (h.recs.keepT (KeepT.grown h2 hg t1.symm) (KeepT.grown h2 hg t2.symm)).keepT (s6 _ t3.symm) (s6 _ t4.symm)
  · exact (h.bel.grown hg h.bel.size (rows_from h2)).setCell (p := ⟨w.heap.size + 1, 0, none⟩) (show w.heap.size ≤ w.heap.size + 1 by omega) _
theorem RInv.all {TS TL : Nat} {w u w' : World} {o o' c : Value} {a : List Wrt × Int} {rs rs' : List (List UInt8)} (h : RInv TS TL w u o c (a, rs)) (t2 : TS ≠ 54) (t4 : TL ≠ 54) (ho : OwnV w.heap.size 0 w' o' rs') (hb : Below w.heap.size u w') (hk : ∀ e, e ≠ 54 → KeepT e u w') : RInv TS TL w w' o' c (a, rs') :=
  ⟨hk _ t4 _ _ _ h.box, hk _ t4 _ _ _ h.ans, h.segs.keepT (hk _ (by decide)) (hk _ t2), ho, h.bel.trans hb⟩
theorem RInv.num {TS TL : Nat} {w u : World} {o c : Value} {ss : List Wrt} {nx : Int} {rs : List (List UInt8)} (h : RInv TS TL w u o c ((ss, nx), rs)) (t3 : TL ≠ 5) (t4 : TL ≠ 54) (t5 : TL ≠ TS) (m : Int) : RInv TS TL w (u.setCell ⟨w.heap.size + 1, 1, none⟩ (.int .i64 m)) o c ((ss, m), rs) := by
  have s6 : ∀ e, e ≠ TL → KeepT e u (u.setCell ⟨w.heap.size + 1, 1, none⟩ (.int .i64 m)) := fun e he => KeepT.set (a := ⟨w.heap.size + 1, 1, none⟩) h.box he _
  refine ⟨set3_1 h.box _, ?_, h.segs.keepT (s6 _ t3.symm) (s6 _ t5.symm), h.recs.keepT (s6 _ t3.symm) (s6 _ t4.symm), h.bel.setCell (p := ⟨w.heap.size + 1, 1, none⟩) (show w.heap.size ≤ w.heap.size + 1 by omega) _⟩
  rw [Below.heap_setCell _ _ _ _ (show w.heap.size ≠ w.heap.size + 1 by omega)]; exact h.ans
theorem RInv.ret {TS TL : Nat} {w u : World} {o c : Value} {ss : List Wrt} {nx : Int} {rs : List (List UInt8)} (h : RInv TS TL w u o c ((ss, nx), rs)) (t3 : TL ≠ 5) (t4 : TL ≠ 54) (t5 : TL ≠ TS) (x y z : Value) :
    RdC (S3 w.heap.size u x y z) c ss ∧ RdSec (S3 w.heap.size u x y z) o rs ∧ Below w.heap.size w (S3 w.heap.size u x y z) := by
  have k0 : ∀ e, e ≠ TL → KeepT e u (S3 w.heap.size u x y z) := fun e he =>
    ((KeepT.set (a := ⟨w.heap.size, 0, none⟩) h.ans he x).trans (KeepT.set (a := ⟨w.heap.size, 1, none⟩) (set3_0 h.ans x) he y)).trans (KeepT.set (a := ⟨w.heap.size, 2, none⟩) (set3_1 (set3_0 h.ans x) y) he z)
  exact ⟨(h.segs.keepT (k0 _ t3.symm) (k0 _ t5.symm)).rd, (h.recs.keepT (k0 _ t3.symm) (k0 _ t4.symm)).rd, below_set3 h.bel (Nat.le_refl _) _ _ _⟩

end Go.Proofs.Ytlnoancjegifnaa
