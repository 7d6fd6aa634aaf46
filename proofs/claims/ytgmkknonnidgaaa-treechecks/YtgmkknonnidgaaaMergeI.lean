/- Several texts in one. -/
import Derived.ChangeMaps5
import Derived.Test.YtgmkknonnidgaaaShpIn
import Derived.Test.YtgmkknonnidgaaaNOf
import Derived.Test.YtgmkknonnidgaaaDMath
import Derived.Test.YtgmkknonnidgaaaNDecR
import Derived.Test.YtgmkknonnidgaaaBx
/-
  What a law's walk is told of a node, and of a string, that came in.
-/
namespace Go.Proofs.Ytgmkknonnidgaaa
open Go.ChangeShapes Go.WideShapes Go.ChangeAt Go.RowKit
set_option linter.unusedVariables false

theorem opens_str : Opens Shp.str 9 (fun _ => True) (fun _ => 1) := by
  refine ⟨by kernel_rfl, fun {H enc W fuel cs x} h => ?_⟩
  obtain ⟨s, hs, _, _⟩ := DataW.trod_string Try.underlying9 h
  exact ⟨s.data.toList, by rw [hs]; rfl, fun _ => trivial, bulk_pos _⟩
theorem open_strs : Opens SStrs 81 (fun xs => xs.length * 16 ≤ 140737488351232 ∧ ∀ x ∈ xs, True) (fun xs => (xs.map (fun _ => 1)).sum) :=
  opens_str.list Try.underlying81 (by kernel_rfl) (by kernel_rfl) (by decide)
theorem open_intl : Opens SIntL 28 (fun xs => xs.length * 8 ≤ 140737488351232 ∧ ∀ x ∈ xs, True) (fun xs => (xs.map (fun _ => 1)).sum) :=
  (opens_int Try.underlying3 (by kernel_rfl)).list Try.underlying28 (by kernel_rfl) (by kernel_rfl) (by decide)
theorem Opens.four {α β γ δ : Type} {s : Shp α} {r : Shp β} {u : Shp γ} {v : Shp δ} {t : TypeId} {f0 f1 f2 f3 : Field} {fa : α → Prop} {fb : β → Prop} {fc : γ → Prop} {fd : δ → Prop} {ba : α → Nat} {bb : β → Nat} {bc : γ → Nat} {bd : δ → Nat} (o : Opens s f0.type fa ba) (q : Opens r f1.type fb bb) (p : Opens u f2.type fc bc) (m : Opens v f3.type fd bd)
    (ht : Try.prog.underlying t = some (.struct #[f0, f1, f2, f3])) (hc : Try.prog.cellsOf t = s.n + (r.n + (u.n + v.n))) (h0 : f0.offset = 0) (h1 : f1.offset = s.n) (h2 : f2.offset = s.n + r.n) (h3 : f3.offset = s.n + r.n + u.n) :
    Opens (s.pair (r.pair (u.pair v))) t (fun z => fa z.1 ∧ (fb z.2.1 ∧ (fc z.2.2.1 ∧ fd z.2.2.2))) (fun z => ba z.1 + (bb z.2.1 + (bc z.2.2.1 + bd z.2.2.2))) := by
  refine ⟨hc, fun {H enc W fuel cs x} h => ?_⟩
  obtain ⟨xs, k, hk, hxy, hlen, hxl, hf⟩ := DataW.trod_struct ht h
  match xs, hxl with
  | [y0, y1, y2, y3], _ =>
    have g0 := hf 0 f0 rfl
    have g1 := hf 1 f1 rfl
    have g2 := hf 2 f2 rfl
    have g3 := hf 3 f3 rfl
    rw [h0, o.cells, List.drop_zero] at g0
    rw [h1, q.cells] at g1
    rw [h2, p.cells] at g2
    rw [h3, m.cells] at g3
    obtain ⟨a, ra, fa', ba'⟩ := o.opened (x := y0) (by simpa using g0)
    obtain ⟨b, rb, fb', bb'⟩ := q.opened (x := y1) (by simpa using g1)
    obtain ⟨c, rc, fc', bc'⟩ := p.opened (x := y2) (by simpa using g2)
    obtain ⟨d', rd', fd', bd'⟩ := m.opened (x := y3) (by simpa using g3)
    have hcs : cs = cs.take s.n ++ ((cs.drop s.n).take r.n ++ ((cs.drop (s.n + r.n)).take u.n ++ (cs.drop (s.n + r.n + u.n)).take v.n)) := by
      have e1 : (cs.drop (s.n + r.n + u.n)).take v.n = cs.drop (s.n + r.n + u.n) := List.take_of_length_le (by rw [List.length_drop, hlen, hc]; omega)
      rw [e1, ← List.drop_drop (i := u.n) (j := s.n + r.n), List.take_append_drop, ← List.drop_drop (i := r.n) (j := s.n), List.take_append_drop, List.take_append_drop]
    obtain ⟨d, pl⟩ := x
    simp only [Prod.mk.injEq] at hxy
    obtain ⟨rfl, _⟩ := hxy
    refine ⟨(a, (b, (c, d'))), ⟨_, _, hcs, ra, ⟨_, _, rfl, rb, ⟨_, _, rfl, rc, rd'⟩⟩⟩, fun hw => ⟨fa' fun n hn => hw n ?_, fb' fun n hn => hw n ?_, fc' fun n hn => hw n ?_, fd' fun n hn => hw n ?_⟩, ?_⟩
    · simp only [DataW.weights, ht]
      exact DataW.weights_mem_each (j := 0) (t := f0.type) (d := y0.1) rfl rfl n hn
    · simp only [DataW.weights, ht]
      exact DataW.weights_mem_each (j := 1) (t := f1.type) (d := y1.1) rfl rfl n hn
    · simp only [DataW.weights, ht]
      exact DataW.weights_mem_each (j := 2) (t := f2.type) (d := y2.1) rfl rfl n hn
    · simp only [DataW.weights, ht]
      exact DataW.weights_mem_each (j := 3) (t := f3.type) (d := y3.1) rfl rfl n hn
    · simp only [List.map_cons, List.map_nil, Rows.uptoBulk, Rows.uptoBulkAll]
      omega
abbrev Nd4 := Bool × (List Str × (List Str × List Int))
abbrev SNode : Shp Nd4 := Shp.bool.pair (SStrs.pair (SStrs.pair SIntL))
abbrev ndOf (z : Nd4) : Nd := ⟨z.1, z.2.1, z.2.2.1, z.2.2.2⟩
def nd4fit (z : Nd4) : Prop := True ∧ ((z.2.1.length * 16 ≤ 140737488351232 ∧ ∀ x ∈ z.2.1, True) ∧ ((z.2.2.1.length * 16 ≤ 140737488351232 ∧ ∀ x ∈ z.2.2.1, True) ∧ (z.2.2.2.length * 8 ≤ 140737488351232 ∧ ∀ x ∈ z.2.2.2, True)))
set_option maxRecDepth 100000 in
theorem open_node : Opens SNode 147 nd4fit (fun z => 1 + ((z.2.1.map (fun _ => 1)).sum + ((z.2.2.1.map (fun _ => 1)).sum + (z.2.2.2.map (fun _ => 1)).sum))) :=
  (opens_bool Try.underlying4 (by kernel_rfl)).four open_strs open_strs open_intl Try.underlying147 (by kernel_rfl) rfl rfl rfl rfl
theorem node_form {w : World} {cs : Array Value} {z : Nd4} (h : SNode.rd w cs.toList z) (hf : nd4fit z) : ∃ kv vv dv, cs = #[.bool z.1, kv, vv, dv] ∧ RdN w kv vv dv (ndOf z) ∧ nbig (ndOf z) := by
  obtain ⟨c0, d0, hc, h0, ⟨c1, d1, e1, ⟨v1, rfl, r1⟩, ⟨c2, d2, e2, ⟨v2, rfl, r2⟩, ⟨v3, rfl, r3⟩⟩⟩⟩ := h
  have h0' : c0 = [Value.bool z.1] := h0
  subst h0' e2 e1
  refine ⟨v1, v2, v3, ?_, ⟨r1, r2, r3⟩, hf.2.1.1, hf.2.2.1.1, hf.2.2.2.1⟩
  cases cs
  simpa using hc
/-- a string that came in -/
theorem open_str {H : Type} {enc : TypeId × Value → H} {P : Program} {w : World} {base : Nat} {spare : Nat → Bool} {held : Bool} {r : Reach} {b0 : Nat} {t : TypeId} {v : Value} {d : DataW H} {ps : List MemPlace} (ht : P.underlying t = some .string) (hval : Value.okWide P w r b0 t v) (hd : DataW.Trod enc P w base spare held t v d ps) :
    ∃ x : Str, v = st x ∧ d = .lit (.string x) ∧ ps = [] ∧ x.length ≤ maxLen := by
  obtain ⟨s, rfl⟩ := okWide_string ht hval
  obtain ⟨fuel, hf⟩ := hd
  obtain ⟨s', h, hx, hl⟩ := DataW.trod_string ht hf
  simp [Value.cells] at h
  subst h
  simp only [Prod.mk.injEq] at hx
  exact ⟨s.data.toList, rfl, hx.1, hx.2, by simpa using hl⟩
theorem shut_str {H : Type} {enc : TypeId × Value → H} {P : Program} {w : World} {base : Nat} {sp : Nat → Bool} {held : Bool} {t : TypeId} {x : Str} (ht : P.underlying t = some .string) (hs : x.length ≤ maxLen) : DataW.Trod enc P w base sp held t (st x) (.lit (.string x)) [] := by
  have := Go.ChangeMaps.shut_string (enc := enc) (w := w) (base := base) (sp := sp) (held := held) (s := ⟨x.toArray⟩) ht (by rw [size_st]; exact hs)
  simpa using this

end Go.Proofs.Ytgmkknonnidgaaa

/-
  Stores of pages, plainly, and how they lie in memory.
-/
namespace Go.Proofs.Ytgmkknonnidgaaa
open Go.RowKit
set_option linter.unusedVariables false

/-- a store: its root, the next number, its pages -/
structure Tr where
  root : Int
  next : Int
  pages : List Wrt
/-- a tree as a value -/
abbrev tv (t : Tr) (pv : Value) : Value := .agg #[.int .i64 t.root, .int .i64 t.next, pv]
/-- the number of a page -/
def tid (l : List Wrt) (i : Nat) : Int := (l[i]?.map (·.1)).getD 0
theorem tid_at {l : List Wrt} {k : Nat} {y : Wrt} (h : l[k]? = some y) : tid l k = y.1 := by unfold tid; rw [h]; rfl
/-- the numbers of so many pages rise from 1 on, below next -/
def tups (next : Int) (l : List Wrt) (k : Nat) : Prop := ∀ i, i < k → (if i = 0 then 0 else tid l (i - 1)) < tid l i ∧ tid l i < next
def tUp (l : List Wrt) : Prop := ∀ i j, i < j → j < l.length → tid l i < tid l j
theorem tups_up {next : Int} {l : List Wrt} (h : tups next l l.length) : tUp l := by
  intro i j
  induction j with
  | zero => intro a; omega
  | succ j ih =>
    intro h1 h2
    have hs := (h (j + 1) h2).1
    rw [if_neg (by omega), Nat.add_sub_cancel] at hs
    by_cases e : i = j
    · subst e; exact hs
    · have := ih (by omega) (by omega); omega
theorem tups_ge {next : Int} {l : List Wrt} (h : tups next l l.length) : ∀ i : Nat, i < l.length → (i : Int) + 1 ≤ tid l i
  | 0, hi => by have := (h 0 hi).1; rw [if_pos rfl] at this; omega
  | i + 1, hi => by
    have := tups_ge h i (by omega)
    have hs := (h (i + 1) hi).1
    rw [if_neg (by omega), Nat.add_sub_cancel] at hs
    omega
theorem tups_len {next : Int} {l : List Wrt} (h : tups next l l.length) (hn : 1 ≤ next) : (l.length : Int) < next := by
  by_cases e : l.length = 0
  · omega
  · have := tups_ge h (l.length - 1) (by omega)
    have := (h (l.length - 1) (by omega)).2
    omega

/-- the octets of a page, if it is there -/
def tpage : List Wrt → Int → Option (List UInt8)
  | [], _ => none
  | y :: r, id => if y.1 = id then some y.2 else tpage r id
theorem tpage_hit : ∀ {l : List Wrt} {id : Int} {i : Nat} {y : Wrt}, tUp l → l[i]? = some y → y.1 = id → tpage l id = some y.2
  | [], id, i, y, _, h, _ => by simp at h
  | x :: r, id, 0, y, _, h, e => by
    have : x = y := by simpa using h
    subst this; unfold tpage; rw [if_pos e]
  | x :: r, id, i + 1, y, hu, h, e => by
    have hl := (List.getElem?_eq_some_iff.1 h).1
    have h0 := hu 0 (i + 1) (by omega) hl
    rw [tid_at h, tid_at (l := x :: r) (k := 0) (y := x) rfl] at h0
    unfold tpage
    rw [if_neg (by omega)]
    exact tpage_hit (l := r) (i := i) (fun a b h1 h2 => hu (a + 1) (b + 1) (by omega) (by simpa using h2)) (by simpa using h) e
theorem tpage_none : ∀ {l : List Wrt} {id : Int}, (∀ i, i < l.length → tid l i ≠ id) → tpage l id = none
  | [], id, _ => rfl
  | x :: r, id, h => by
    unfold tpage
    rw [if_neg (show ¬ x.1 = id from h 0 (by simp))]
    exact tpage_none fun i hi => h (i + 1) (by simpa using hi)
/-- what is answered of a page -/
def PgAt (w : World) (l : List Wrt) (id : Int) (bv : Value) (ok : Bool) : Prop := (ok = true ∧ ∃ x, tpage l id = some x ∧ Rd w bv x) ∨ (ok = false ∧ tpage l id = none ∧ bv = .slice none 0 0)
def PgRes (w w' : World) (l : List Wrt) (id : Int) (e : Ending) : Prop := ∃ bv ok, e = .returned (.tuple #[bv, .bool ok]) ∧ PgAt w' l id bv ok ∧ Below w.heap.size w w'
def PgRes0 (w0 w w' : World) (l : List Wrt) (id : Int) (e : Ending) : Prop := ∃ bv ok, e = .returned (.tuple #[bv, .bool ok]) ∧ PgAt w0 l id bv ok ∧ Below w.heap.size w w'

end Go.Proofs.Ytgmkknonnidgaaa

/-
  What a law's walk is told of a tree that came in.
-/
namespace Go.Proofs.Ytgmkknonnidgaaa
open Go.ChangeShapes Go.WideShapes Go.ChangeAt Go.RowKit
set_option linter.unusedVariables false

abbrev Tr3 := Int × (Int × List Wrt)
abbrev STree : Shp Tr3 := (Shp.int .i64).pair ((Shp.int .i64).pair (Shp.list 60 SWr))
abbrev trOf (z : Tr3) : Tr := ⟨z.1, z.2.1, z.2.2⟩
def tr3fit (z : Tr3) : Prop := (Lit.int .i64 z.1).wf = true ∧ ((Lit.int .i64 z.2.1).wf = true ∧ (z.2.2.length * 32 ≤ 140737488351232 ∧ ∀ x ∈ z.2.2, (Lit.int .i64 x.1).wf = true ∧ x.2.length ≤ 140737488351232))
set_option maxRecDepth 100000 in
theorem open_pg : Opens SWr 60 (fun x => (Lit.int .i64 x.1).wf = true ∧ x.2.length ≤ 140737488351232) (fun x => 1 + x.2.length) :=
  Opens.pair (opens_intw Try.underlying3 (by kernel_rfl)) opens_octs Try.underlying60 (by kernel_rfl) rfl rfl
set_option maxRecDepth 100000 in
theorem open_tree : Opens STree 50 tr3fit (fun z => 1 + (1 + (z.2.2.map (fun x => 1 + x.2.length)).sum)) :=
  Opens.three (opens_intw Try.underlying3 (by kernel_rfl)) (opens_intw Try.underlying3 (by kernel_rfl)) (open_pg.list Try.underlying48 (by kernel_rfl) (by kernel_rfl) (by decide)) Try.underlying50 (by kernel_rfl) rfl rfl rfl
theorem tree_form {w : World} {cs : Array Value} {z : Tr3} (h : STree.rd w cs.toList z) (hf : tr3fit z) : ∃ pv, Value.agg cs = tv (trOf z) pv ∧ RdC w pv (trOf z).pages := by
  obtain ⟨c0, d0, hc, h0, ⟨c1, d1, e1, h1, ⟨v2, rfl, r2⟩⟩⟩ := h
  have h0' : c0 = [Value.int .i64 z.1] := h0
  have h1' : c1 = [Value.int .i64 z.2.1] := h1
  subst h0' h1' e1
  refine ⟨v2, ?_, r2⟩
  cases cs
  simp [tv] at hc ⊢
  exact hc

end Go.Proofs.Ytgmkknonnidgaaa
