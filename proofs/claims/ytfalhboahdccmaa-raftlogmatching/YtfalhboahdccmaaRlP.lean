/-
  What a law's walk is told of a log that came in; what the program's calls say of logs.
-/
import Derived.ChangeMaps5
import Derived.Test.YtfalhboahdccmaaShpIn
import Derived.Test.YtfalhboahdccmaaRlN
import Derived.Test.YtfalhboahdccmaaRlS
namespace Go.Proofs.Ytfalhboahdccmaa
open Go.ChangeShapes Go.WideShapes Go.ChangeAt Go.RowKit
set_option linter.unusedVariables false

/-- an entry that came in -/
def enfit (z : Wrt) : Prop := (Lit.int .i64 z.1).wf = true ∧ z.2.length ≤ 140737488351232
def esfit (l : List Wrt) : Prop := l.length * 32 ≤ 140737488351232 ∧ ∀ x ∈ l, enfit x
theorem open_entry15 : Opens SWr 27 enfit (fun z => 1 + z.2.length) :=
  (opens_intw Try.underlying3 (by kernel_rfl)).pair opens_octs Try.underlying27 (by kernel_rfl) rfl rfl
theorem open_ents15 : Opens SEntB 22 esfit (fun xs => (xs.map (fun z => 1 + z.2.length)).sum) :=
  open_entry15.list Try.underlying22 (by kernel_rfl) (by kernel_rfl) (by decide)
abbrev Lg3 := Int × (Int × List Wrt)
abbrev SLg15 : Shp Lg3 := (Shp.int .i64).pair ((Shp.int .i64).pair SEntB)
abbrev lgOf (z : Lg3) : Lg := ⟨z.1, z.2.1, z.2.2⟩
def lg3fit (z : Lg3) : Prop := (Lit.int .i64 z.1).wf = true ∧ ((Lit.int .i64 z.2.1).wf = true ∧ esfit z.2.2)
set_option maxRecDepth 100000 in
theorem open_log15 : Opens SLg15 24 lg3fit (fun z => 1 + (1 + (z.2.2.map (fun z => 1 + z.2.length)).sum)) :=
  Opens.three (opens_intw Try.underlying3 (by kernel_rfl)) (opens_intw Try.underlying3 (by kernel_rfl)) open_ents15 Try.underlying24 (by kernel_rfl) rfl rfl rfl
theorem wf15 {z : Int} (h : (Lit.int .i64 z).wf = true) : -9223372036854775808 ≤ z ∧ z ≤ 9223372036854775807 := by
  simpa [Lit.wf, IntKind.min, IntKind.max, IntKind.signed, IntKind.bits] using h
/-- numbers as they may be -/
def I64 (z : Int) : Prop := -9223372036854775808 ≤ z ∧ z ≤ 9223372036854775807
instance (z : Int) : Decidable (I64 z) := by unfold I64; infer_instance
structure EnFit (z : Wrt) : Prop where
  t : I64 z.1
  d : z.2.length ≤ 140737488351232
structure EsFit (l : List Wrt) : Prop where
  n : l.length * 32 ≤ 140737488351232
  e : ∀ x ∈ l, EnFit x
structure LgFit (l : Lg) : Prop where
  b : I64 l.base
  t : I64 l.bt
  e : EsFit l.es
theorem enfit_fit {z : Wrt} (h : enfit z) : EnFit z := ⟨wf15 h.1, h.2⟩
theorem esfit_fit {l : List Wrt} (h : esfit l) : EsFit l := ⟨h.1, fun x hx => enfit_fit (h.2 x hx)⟩
theorem lup_fit {last : Int} {l : List Wrt} (h : lup last l) (h1 : 1 ≤ last) : ∀ x ∈ l, 1 ≤ x.1 ∧ x.1 ≤ 1099511627776 ∧ x.2.length ≤ 4096 := by
  induction l generalizing last with
  | nil => intro x hx; cases hx
  | cons y r ih =>
    obtain ⟨a1, a2, a3, a4⟩ := h
    intro x hx
    rcases List.mem_cons.1 hx with rfl | hx
    · exact ⟨by omega, a2, a3⟩
    · exact ih a4 (by omega) x hx
theorem LOk.fit {l : Lg} (h : LOk l) : LgFit l := by
  have b := h.bd
  refine ⟨⟨by omega, by omega⟩, ⟨by omega, by omega⟩, ⟨by omega, fun x hx => ?_⟩⟩
  have := lup_fit h.2 (by omega) x hx
  exact ⟨⟨by omega, by omega⟩, by omega⟩
theorem EsFit.take {l : List Wrt} (h : EsFit l) (k : Nat) : EsFit (l.take k) := ⟨by have := h.n; simp; omega, fun x hx => h.e x (List.mem_of_mem_take hx)⟩
theorem EsFit.drop {l : List Wrt} (h : EsFit l) (k : Nat) : EsFit (l.drop k) := ⟨by have := h.n; simp; omega, fun x hx => h.e x (List.mem_of_mem_drop hx)⟩
theorem EsFit.f1 {l : List Wrt} (h : EsFit l) : l.length * 32 ≤ 140737488351232 := h.n
theorem EsFit.f2 {l : List Wrt} (h : EsFit l) : ∀ x ∈ l, x.2.length ≤ 140737488351232 := fun x hx => (h.e x hx).d
theorem lterm_64 {l : Lg} (h : LgFit l) (i : Int) : I64 (lterm l i) := by
  unfold lterm
  split
  · exact h.t
  · rw [List.getD_eq_getElem?_getD]
    cases hy : l.es[(i - l.base - 1).toNat]? with
    | none => exact (by decide : I64 0)
    | some y => exact (h.e.e y (List.mem_of_getElem? hy)).t
theorem lg_form {w : World} {cs : Array Value} {z : Lg3} (h : SLg15.rd w cs.toList z) (hf : lg3fit z) : ∃ v, Value.agg cs = lv (lgOf z) v ∧ RdC w v (lgOf z).es ∧ LgFit (lgOf z) := by
  obtain ⟨c0, d0, hc, h0, ⟨c1, d1, e1, h1, ⟨v4, e4, r4⟩⟩⟩ := h
  have h0' : c0 = [Value.int .i64 z.1] := h0
  have h1' : c1 = [Value.int .i64 z.2.1] := h1
  subst h0' h1' e4
  subst e1
  obtain ⟨f0, f1, f2⟩ := hf
  refine ⟨v4, ?_, r4, wf15 f0, wf15 f1, esfit_fit f2⟩
  cases cs
  simp at hc ⊢
  exact hc
theorem ent_form {w : World} {cs : Array Value} {z : Wrt} (h : SWr.rd w cs.toList z) (hf : enfit z) : ∃ d, Value.agg cs = .agg #[.int .i64 z.1, d] ∧ Rd w d z.2 ∧ EnFit z := by
  obtain ⟨c0, d0, hc, h0, v1, e1, r1⟩ := h
  have h0' : c0 = [Value.int .i64 z.1] := h0
  subst h0' e1
  refine ⟨v1, ?_, r1, enfit_fit hf⟩
  cases cs
  simp at hc ⊢
  exact hc
/-- what the program's calls say (proved apart) -/
structure LogSay : Prop where
  chk : ∀ (w : World) (l : Lg) (v : Value), RdC w v l.es → LgFit l → Calls Try.prog 22 #[lv l v] w fun e w' => e = .returned (.int .i64 (lcheck l)) ∧ Below w.heap.size w w'
  last : ∀ (w : World) (l : Lg) (v : Value), RdC w v l.es → LgFit l → Calls Try.prog 9 #[lv l v] w fun e w' => e = .returned (.tuple #[.int .i64 (llast l).1, .int .i64 (llast l).2.1, .int .i64 (llast l).2.2]) ∧ Below w.heap.size w w'
  told : ∀ (w : World) (l : Lg) (v : Value) (i : Int), RdC w v l.es → LgFit l → I64 i → Calls Try.prog 11 #[lv l v, .int .i64 i] w fun e w' => e = .returned (.tuple #[.int .i64 (ltold l i).1, .int .i64 (ltold l i).2]) ∧ Below w.heap.size w w'
  app : ∀ (w : World) (l : Lg) (v : Value) (y : Wrt) (dv : Value), RdC w v l.es → LgFit l → Rd w dv y.2 → EnFit y → Calls Try.prog 13 #[lv l v, .agg #[.int .i64 y.1, dv]] w fun e w' =>
    ∃ v', e = .returned (.tuple #[lv (lapp l y).1 v', .int .i64 (lapp l y).2]) ∧ Own SEntB w.heap.size w' [v'] (lapp l y).1.es ∧ Below w.heap.size w w'
  acc : ∀ (w : World) (l : Lg) (v : Value) (prev pt : Int) (es : List Wrt) (ev : Value), RdC w v l.es → LgFit l → I64 prev → I64 pt → RdC w ev es → EsFit es → ((laccept l prev pt es).2.2 = 0 ∨ (laccept l prev pt es).2.2 = 152) → Calls Try.prog 29 #[lv l v, .int .i64 prev, .int .i64 pt, ev] w fun e w' =>
    ∃ v', e = .returned (.tuple #[lv (laccept l prev pt es).1 v', .int .i64 (laccept l prev pt es).2.1, .int .i64 (laccept l prev pt es).2.2]) ∧ Own SEntB w.heap.size w' [v'] (laccept l prev pt es).1.es ∧ Below w.heap.size w w'
  frm : ∀ (w : World) (l : Lg) (v : Value) (i n : Int), RdC w v l.es → LgFit l → I64 i → I64 n → Calls Try.prog 15 #[lv l v, .int .i64 i, .int .i64 n] w fun e w' =>
    ∃ v', e = .returned (.tuple #[v', .int .i64 (lfrom l i n).2]) ∧ Own SEntB w.heap.size w' [v'] (lfrom l i n).1 ∧ Below w.heap.size w w'
  cmp : ∀ (w : World) (l : Lg) (v : Value) (i : Int), RdC w v l.es → LgFit l → I64 i → Calls Try.prog 17 #[lv l v, .int .i64 i] w fun e w' =>
    ∃ v', e = .returned (.tuple #[lv (lcomp l i).1 v', .int .i64 (lcomp l i).2]) ∧ Own SEntB w.heap.size w' [v'] (lcomp l i).1.es ∧ Below w.heap.size w w'
end Go.Proofs.Ytfalhboahdccmaa
