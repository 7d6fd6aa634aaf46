/-
  Superblocks in memory: five cells in a block of their own; []byte as a string; bytes.Equal.
-/
import Derived.Laws.IdiomStrings
import Derived.Test.YtpebgepjohlklaaSMath
import Derived.Test.YtpebgepjohlklaaShp
import Derived.Test.YtpebgepjohlklaaTail
namespace Go.Proofs.Ytpebgepjohlklaa
open Go.RowKit
set_option linter.unusedVariables false

theorem boxedN (w : World) (cs : Array Value) (t : TypeId) : ∃ u, u = w.alloc (.cells cs t) ∧ u.heap[w.heap.size]? = some (.cells cs t (0, 0)) ∧ Below w.heap.size w u ∧ u.heap.size = w.heap.size + 1 :=
  ⟨_, rfl, heap_alloc_last w _, (Below.refl _ _).alloc (Nat.le_refl _) _, by simp⟩
theorem cells5 {w : World} {g : Nat} {a b c d e : Value} {t : TypeId} (h : w.heap[g]? = some (.cells #[a, b, c, d, e] t (0, 0))) :
    (w.cell? ⟨g, 0, none⟩ = some a ∧ w.cell? ⟨g, 1, none⟩ = some b ∧ w.cell? ⟨g, 2, none⟩ = some c ∧ w.cell? ⟨g, 3, none⟩ = some d ∧ w.cell? ⟨g, 4, none⟩ = some e) ∧ ∀ i, w.frozen? ⟨g, i, none⟩ = false := by
  refine ⟨⟨?_, ?_, ?_, ?_, ?_⟩, fun i => ?_⟩
  · rw [cell_of_row _ _ 0 _ _ (0, 0) h]; rfl
  · rw [cell_of_row _ _ 1 _ _ (0, 0) h]; rfl
  · rw [cell_of_row _ _ 2 _ _ (0, 0) h]; rfl
  · rw [cell_of_row _ _ 3 _ _ (0, 0) h]; rfl
  · rw [cell_of_row _ _ 4 _ _ (0, 0) h]; rfl
  · simp [World.frozen?, h]
def set5 (u : World) (g : Nat) (a b c d e : Value) : World := ((((u.setCell ⟨g, 0, none⟩ a).setCell ⟨g, 1, none⟩ b).setCell ⟨g, 2, none⟩ c).setCell ⟨g, 3, none⟩ d).setCell ⟨g, 4, none⟩ e
theorem heap_set5 {u : World} {g : Nat} {a b c d e : Value} {t : TypeId} {fr : Nat × Nat} (h : u.heap[g]? = some (.cells #[a, b, c, d, e] t fr)) (x y z p q : Value) :
    (set5 u g x y z p q).heap[g]? = some (.cells #[x, y, z, p, q] t fr) := by
  simp [set5, World.setCell, Array.getElem?_modify, h]
theorem below_set5 {B : Nat} {w u : World} (h : Below B w u) {g : Nat} (hg : B ≤ g) (x y z p q : Value) : Below B w (set5 u g x y z p q) :=
  ((((h.setCell (p := ⟨g, 0, none⟩) hg x).setCell (p := ⟨g, 1, none⟩) hg y).setCell (p := ⟨g, 2, none⟩) hg z).setCell (p := ⟨g, 3, none⟩) hg p).setCell (p := ⟨g, 4, none⟩) hg q
theorem retN {P : Program} {fn : Func} {R : Ending → World → Prop} {a : Act} {w : World} {p : Tmp} {ty : TypeId} (h : fn.results = #[.cell p ty]) (hd : a.defers = []) (g : Nat) (hp : a.tmps.getD p undef = .pointer (some ⟨g, 0, none⟩))
    (cs : Array Value) (t : TypeId) (fr : Nat × Nat) (hg : w.heap[g]? = some (.cells cs t fr)) (d : TypeDesc) (hu : P.underlying ty = some d) (hr : (match d with | .struct _ | .array _ _ => true | _ => false) = true) (hi : (P.info? ty).map (·.size) = some cs.size)
    (hR : R (.returned (.agg cs)) w) : bodyPost P fn R .ret a w := by
  refine bodyPost_ret (v := .agg cs) ?_ hd hR
  have hp' : a.tmps[p]?.getD undef = .pointer (some ⟨g, 0, none⟩) := by simpa using hp
  simp [results, h, hp', asAddr, run_loadVar_row w g t ty cs fr d hg hu hr hi]
theorem retNT {P : Program} {fn : Func} {R : Ending → World → Prop} {a : Act} {w : World} {p u1 : Tmp} {ty : TypeId} (h : fn.results = #[.cell p ty, .tmp u1]) (hd : a.defers = []) (g : Nat) (hp : a.tmps.getD p undef = .pointer (some ⟨g, 0, none⟩))
    (cs : Array Value) (t : TypeId) (fr : Nat × Nat) (hg : w.heap[g]? = some (.cells cs t fr)) (d : TypeDesc) (hu : P.underlying ty = some d) (hr : (match d with | .struct _ | .array _ _ => true | _ => false) = true) (hi : (P.info? ty).map (·.size) = some cs.size)
    (v1 : Value) (e1 : a.tmps.getD u1 undef = v1) (hR : R (.returned (.tuple #[.agg cs, v1])) w) : bodyPost P fn R .ret a w := by
  refine bodyPost_ret (v := .tuple #[.agg cs, v1]) ?_ hd hR
  have hp' : a.tmps[p]?.getD undef = .pointer (some ⟨g, 0, none⟩) := by simpa using hp
  have e1' : a.tmps[u1]?.getD undef = v1 := by simpa using e1
  simp [results, h, hp', e1', asAddr, run_loadVar_row w g t ty cs fr d hg hu hr hi]
theorem retNTT {P : Program} {fn : Func} {R : Ending → World → Prop} {a : Act} {w : World} {p u1 u2 : Tmp} {ty : TypeId} (h : fn.results = #[.cell p ty, .tmp u1, .tmp u2]) (hd : a.defers = []) (g : Nat) (hp : a.tmps.getD p undef = .pointer (some ⟨g, 0, none⟩))
    (cs : Array Value) (t : TypeId) (fr : Nat × Nat) (hg : w.heap[g]? = some (.cells cs t fr)) (d : TypeDesc) (hu : P.underlying ty = some d) (hr : (match d with | .struct _ | .array _ _ => true | _ => false) = true) (hi : (P.info? ty).map (·.size) = some cs.size)
    (v1 : Value) (e1 : a.tmps.getD u1 undef = v1) (v2 : Value) (e2 : a.tmps.getD u2 undef = v2) (hR : R (.returned (.tuple #[.agg cs, v1, v2])) w) : bodyPost P fn R .ret a w := by
  refine bodyPost_ret (v := .tuple #[.agg cs, v1, v2]) ?_ hd hR
  have hp' : a.tmps[p]?.getD undef = .pointer (some ⟨g, 0, none⟩) := by simpa using hp
  have e1' : a.tmps[u1]?.getD undef = v1 := by simpa using e1
  have e2' : a.tmps[u2]?.getD undef = v2 := by simpa using e2
  simp [results, h, hp', e1', e2', asAddr, run_loadVar_row w g t ty cs fr d hg hu hr hi]

/-- string(b) of octets that are there -/
theorem conv_rd {w : World} {v : Value} {xs : List UInt8} (h : Rd w v xs) (h0 : 0 < xs.length) : (convert 24 9 v).run Try.prog w = .ok (.string ⟨xs.toArray⟩) w := by
  obtain ⟨ao, cap, rfl, h1, h2, h3, h4⟩ := h
  rcases h4 with h4 | ⟨b, off, rfl, hc⟩
  · subst h4; simp at h0
  · refine run_convert_bytes_back w 24 9 5 ⟨b, off, none⟩ cap xs Try.underlying24 Try.underlying5 Try.underlying9 fun j hj => ?_
    have := hc j hj
    rw [show (⟨b, off, none⟩ : Addr).add j = ⟨b, off + j, none⟩ by simp [Addr.add], this]
    unfold bt
    simp [List.getD_eq_getElem?_getD, hj]
theorem str_eq (xs ys : List UInt8) : (xs == ys) = sameB xs ys := by
  unfold sameB
  by_cases h : xs = ys
  · subst h; simp
  · rw [decide_eq_false h]
    exact beq_eq_false_iff_ne.2 h
set_option maxRecDepth 100000 in
theorem bytesEq_any (w : World) (v1 v2 : Value) (xs ys : List UInt8) (h1 : Rd w v1 xs) (h2 : Rd w v2 ys) (p1 : 0 < xs.length) (p2 : 0 < ys.length) :
    Calls Try.prog 54 #[v1, v2] w fun e w' => e = .returned (.bool (sameB xs ys)) ∧ w = w' := by
  have k1 := conv_rd h1 p1
  have k2 := conv_rd h2 p2
  obtain ⟨a1, c1, rfl⟩ := h1.slice
  obtain ⟨a2, c2, rfl⟩ := h2.slice
  go_enter Try.func54, Try.ntmps54
  go_wp2
  go_ret
  exact ⟨ret_bool (str_eq xs ys), rfl⟩

theorem infoP5 : (Try.prog.info? 69).map (·.size) = some 5 := by kernel_rfl
theorem infoBk : (Try.prog.info? 28).map (·.size) = some 5 := by kernel_rfl
theorem infoBkR : (Try.prog.info? 23).map (·.size) = some 5 := by kernel_rfl

set_option maxRecDepth 100000 in
set_option maxHeartbeats 2000000 in
/-- where a block's numbers are -/
theorem numbersOf_any (w : World) (g : Nat) : Calls Try.prog 29 #[.pointer (some ⟨g, 0, none⟩)] w fun e w' => e = .returned (.agg #[.pointer (some ⟨g, 0, none⟩), .pointer (some ⟨g, 1, none⟩), .pointer (some ⟨g, 2, none⟩), .pointer (some ⟨g, 3, none⟩), .pointer (some ⟨g, 4, none⟩)]) ∧ Below w.heap.size w w' := by
  obtain ⟨X, hX, X0, bX, sX⟩ := boxedN w #[.pointer none, .pointer none, .pointer none, .pointer none, .pointer none] 69
  obtain ⟨⟨c0, c1, c2, c3, c4⟩, cf⟩ := cells5 X0
  have f0 := cf 0
  have f1 := cf 1
  have f2 := cf 2
  have f3 := cf 3
  have f4 := cf 4
  go_enter Try.func29, Try.ntmps29
  go_wp2_with fail
  rw [← hX]
  replace hX := hide hX
  refine wp_tail 16 mixed (by kernel_rfl) ?_
  simp only [List.take_succ_cons, List.take_zero, List.drop_succ_cons, List.drop_zero]
  repeat still_step
  refine wpStill_nil ?_
  go_wp2
  refine retN rfl rfl w.heap.size rfl _ _ (0, 0) (heap_set5 (u := X) X0 _ _ _ _ _) _ Try.underlying69 rfl infoP5 ?_
  exact ⟨rfl, (below_set5 bX (Nat.le_refl _) _ _ _ _ _).drew⟩

end Go.Proofs.Ytpebgepjohlklaa
