/-
  Blocks of any cells; results of several cells; []byte as a string; the parts of octets. General.
-/
import Derived.Laws.IdiomStrings
import Derived.Test.YtccklmhagabkaaaShp
import Derived.Test.YtccklmhagabkaaaSub
namespace Go.Proofs.Ytccklmhagabkaaa
open Go.RowKit
set_option linter.unusedVariables false

theorem boxedN (w : World) (cs : Array Value) (t : TypeId) : ∃ u, u = w.alloc (.cells cs t) ∧ u.heap[w.heap.size]? = some (.cells cs t (0, 0)) ∧ Below w.heap.size w u ∧ u.heap.size = w.heap.size + 1 :=
  ⟨_, rfl, heap_alloc_last w _, (Below.refl _ _).alloc (Nat.le_refl _) _, by simp⟩
theorem retN {P : Program} {fn : Func} {R : Ending → World → Prop} {a : Act} {w : World} {p : Tmp} {ty : TypeId} (h : fn.results = #[.cell p ty]) (hd : a.defers = []) (g : Nat) (hp : a.tmps.getD p undef = .pointer (some ⟨g, 0, none⟩))
    (cs : Array Value) (t : TypeId) (fr : Nat × Nat) (hg : w.heap[g]? = some (.cells cs t fr)) (d : TypeDesc) (hu : P.underlying ty = some d) (hr : (match d with | .struct _ | .array _ _ => true | _ => false) = true) (hi : (P.info? ty).map (·.size) = some cs.size)
    (hR : R (.returned (.agg cs)) w) : bodyPost P fn R .ret a w := by
  refine bodyPost_ret (v := .agg cs) ?_ hd hR
  have hp' : a.tmps[p]?.getD undef = .pointer (some ⟨g, 0, none⟩) := by simpa using hp
  simp [results, h, hp', asAddr, run_loadVar_row w g t ty cs fr d hg hu hr hi]
theorem retNT {P : Program} {fn : Func} {R : Ending → World → Prop} {a : Act} {w : World} {p u1 : Tmp} {ty : TypeId} (h : fn.results = #[.cell p ty, .tmp u1]) (hd : a.defers = []) (g : Nat) (hp : a.tmps.getD p undef = .pointer (some ⟨g, 0, none⟩))
    (cs : Array Value) (t : TypeId) (fr : Nat × Nat) (hg : w.heap[g]? = some (.cells cs t fr)) (d : TypeDesc) (hu : P.underlying ty = some d) (hr : (match d with | .struct _ | .array _ _ => true | _ => false) = true) (hi : (P.info? ty).map (·.size) = some cs.size)
    (v1 : Value) (e1 : a.tmps.getD u1 undef = v1) (hR : R (.returned (.tuple #[.agg cs, v1])) w) : bodyPost P fn R .ret a w := by
  refine bodyPost_ret (v := .tuple #[.agg cs, v1]) ?_ hd hR
  have hp' : a.tmps[p]?.getD undef = .pointer (some ⟨g, 0, none⟩) := by simpa using hp
  have e1' : a.tmps[u1]?.getD undef = v1 := by simpa using e1
  simp [results, h, hp', e1', asAddr, run_loadVar_row w g t ty cs fr d hg hu hr hi]
theorem retNTT {P : Program} {fn : Func} {R : Ending → World → Prop} {a : Act} {w : World} {p u1 u2 : Tmp} {ty : TypeId} (h : fn.results = #[.cell p ty, .tmp u1, .tmp u2]) (hd : a.defers = []) (g : Nat) (hp : a.tmps.getD p undef = .pointer (some ⟨g, 0, none⟩))
    (cs : Array Value) (t : TypeId) (fr : Nat × Nat) (hg : w.heap[g]? = some (.cells cs t fr)) (d : TypeDesc) (hu : P.underlying ty = some d) (hr : (match d with | .struct _ | .array _ _ => true | _ => false) = true) (hi : (P.info? ty).map (·.size) = some cs.size)
    (v1 : Value) (e1 : a.tmps.getD u1 undef = v1) (v2 : Value) (e2 : a.tmps.getD u2 undef = v2) (hR : R (.returned (.tuple #[.agg cs, v1, v2])) w) : bodyPost P fn R .ret a w := by
  refine bodyPost_ret (v := .tuple #[.agg cs, v1, v2]) ?_ hd hR
  have hp' : a.tmps[p]?.getD undef = .pointer (some ⟨g, 0, none⟩) := by simpa using hp
  have e1' : a.tmps[u1]?.getD undef = v1 := by simpa using e1
  have e2' : a.tmps[u2]?.getD undef = v2 := by simpa using e2
  simp [results, h, hp', e1', e2', asAddr, run_loadVar_row w g t ty cs fr d hg hu hr hi]

theorem str_eq (xs ys : List UInt8) : (xs == ys) = sameB xs ys := by
  unfold sameB
  by_cases h : xs = ys
  · subst h; simp
  · rw [decide_eq_false h]
    exact beq_eq_false_iff_ne.2 h
theorem sameB_ne {xs ys : List UInt8} (h : xs ≠ ys) : sameB xs ys = false := by unfold sameB; exact decide_eq_false h
/-- octets of a known number: their parts -/
theorem rdN {w : World} {v : Value} {x : List UInt8} {n : Nat} (h : Rd w v x) (hl : x.length = n) (hn : 0 < n) : ∃ b o c, v = .slice (some ⟨b, o, none⟩) n c ∧ n ≤ c ∧ c ≤ 9223372036854775807 ∧ (∀ q te, q ≤ te → te ≤ n → Rd w (.slice (some ⟨b, o + q, none⟩) (te - q) (c - q)) ((x.take te).drop q)) ∧ ∀ i, i < n → w.cell? ⟨b, o + i, none⟩ = some (.int .u8 (bt x i)) := by
  obtain ⟨a, c, e⟩ := h.slice
  subst e
  have h' := h
  obtain ⟨a', c', e, l1, m1, n1, r1⟩ := h
  simp only [Value.slice.injEq, true_and] at e
  obtain ⟨rfl, rfl⟩ := e
  rcases r1 with r1 | ⟨b, o, rfl, hc⟩
  · subst r1; simp at hl; omega
  · refine ⟨b, o, c, by rw [hl], by omega, m1, fun q te h1 h2 => ?_, fun i hi => hc i (by omega)⟩
    have := (rd_sub h' (q := q) (to := te) h1 (by omega)).1
    by_cases hq : q = 0
    · subst hq; simpa [Addr.add] using this
    · simpa [Addr.add, hq] using this

end Go.Proofs.Ytccklmhagabkaaa
