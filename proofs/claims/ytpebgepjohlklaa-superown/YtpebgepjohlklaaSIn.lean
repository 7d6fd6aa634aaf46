/-
  What a law's walk is told of a superblock, and of a bool, that came in; the law's own num.
-/
import Derived.Test.YtpebgepjohlklaaShpIn
import Derived.Test.YtpebgepjohlklaaSDecR
namespace Go.Proofs.Ytpebgepjohlklaa
open Go.ChangeShapes Go.WideShapes Go.ChangeAt Go.RowKit
set_option linter.unusedVariables false

abbrev SBlk : Shp Blk := (Shp.int .i64).pair ((Shp.int .i64).pair ((Shp.int .i64).pair ((Shp.int .i64).pair (Shp.int .i64))))
def bwf (z : Blk) : Prop := (Lit.int .i64 z.1).wf = true ∧ (Lit.int .i64 z.2.1).wf = true ∧ (Lit.int .i64 z.2.2.1).wf = true ∧ (Lit.int .i64 z.2.2.2.1).wf = true ∧ (Lit.int .i64 z.2.2.2.2).wf = true
set_option maxRecDepth 100000 in
theorem Opens.five {t : TypeId} {f0 f1 f2 f3 f4 : Field} (o0 : Opens (Shp.int .i64) f0.type (fun z => (Lit.int .i64 z).wf = true) (fun _ => 1)) (o1 : Opens (Shp.int .i64) f1.type (fun z => (Lit.int .i64 z).wf = true) (fun _ => 1)) (o2 : Opens (Shp.int .i64) f2.type (fun z => (Lit.int .i64 z).wf = true) (fun _ => 1)) (o3 : Opens (Shp.int .i64) f3.type (fun z => (Lit.int .i64 z).wf = true) (fun _ => 1)) (o4 : Opens (Shp.int .i64) f4.type (fun z => (Lit.int .i64 z).wf = true) (fun _ => 1))
    (ht : Try.prog.underlying t = some (.struct #[f0, f1, f2, f3, f4])) (hc : Try.prog.cellsOf t = 5) (h0 : f0.offset = 0) (h1 : f1.offset = 1) (h2 : f2.offset = 2) (h3 : f3.offset = 3) (h4 : f4.offset = 4) :
    Opens SBlk t bwf (fun _ => 5) := by
  refine ⟨hc, fun {H enc W fuel cs x} h => ?_⟩
  obtain ⟨xs, k, hk, hxy, hlen, hxl, hf⟩ := DataW.trod_struct ht h
  match xs, hxl with
  | [y0, y1, y2, y3, y4], _ =>
    have g0 := hf 0 f0 rfl
    have g1 := hf 1 f1 rfl
    have g2 := hf 2 f2 rfl
    have g3 := hf 3 f3 rfl
    have g4 := hf 4 f4 rfl
    rw [hc] at hlen
    match cs, hlen with
    | [c0, c1, c2, c3, c4], _ =>
      rw [h0, o0.cells] at g0
      rw [h1, o1.cells] at g1
      rw [h2, o2.cells] at g2
      rw [h3, o3.cells] at g3
      rw [h4, o4.cells] at g4
      obtain ⟨a0, r0, w0, b0⟩ := o0.opened (cs := [c0]) (x := y0) g0
      obtain ⟨a1, r1, w1, b1⟩ := o1.opened (cs := [c1]) (x := y1) g1
      obtain ⟨a2, r2, w2, b2⟩ := o2.opened (cs := [c2]) (x := y2) g2
      obtain ⟨a3, r3, w3, b3⟩ := o3.opened (cs := [c3]) (x := y3) g3
      obtain ⟨a4, r4, w4, b4⟩ := o4.opened (cs := [c4]) (x := y4) g4
      obtain ⟨d, pl⟩ := x
      simp only [Prod.mk.injEq] at hxy
      obtain ⟨rfl, _⟩ := hxy
      refine ⟨(a0, a1, a2, a3, a4), ⟨[c0], [c1, c2, c3, c4], rfl, r0, ⟨[c1], [c2, c3, c4], rfl, r1, ⟨[c2], [c3, c4], rfl, r2, ⟨[c3], [c4], rfl, r3, r4⟩⟩⟩⟩, fun hw => ⟨w0 fun n hn => hw n ?_, w1 fun n hn => hw n ?_, w2 fun n hn => hw n ?_, w3 fun n hn => hw n ?_, w4 fun n hn => hw n ?_⟩, ?_⟩
      · simp only [DataW.weights, ht]
        exact DataW.weights_mem_each (j := 0) (t := f0.type) (d := y0.1) rfl rfl n hn
      · simp only [DataW.weights, ht]
        exact DataW.weights_mem_each (j := 1) (t := f1.type) (d := y1.1) rfl rfl n hn
      · simp only [DataW.weights, ht]
        exact DataW.weights_mem_each (j := 2) (t := f2.type) (d := y2.1) rfl rfl n hn
      · simp only [DataW.weights, ht]
        exact DataW.weights_mem_each (j := 3) (t := f3.type) (d := y3.1) rfl rfl n hn
      · simp only [DataW.weights, ht]
        exact DataW.weights_mem_each (j := 4) (t := f4.type) (d := y4.1) rfl rfl n hn
      · simp only [List.map_cons, List.map_nil, Rows.uptoBulk, Rows.uptoBulkAll]
        omega
set_option maxRecDepth 100000 in
theorem open_blk : Opens SBlk 23 bwf (fun _ => 5) :=
  Opens.five (opens_intw Try.underlying3 (by kernel_rfl)) (opens_intw Try.underlying3 (by kernel_rfl)) (opens_intw Try.underlying3 (by kernel_rfl)) (opens_intw Try.underlying3 (by kernel_rfl)) (opens_intw Try.underlying3 (by kernel_rfl)) Try.underlying23 (by kernel_rfl) rfl rfl rfl rfl rfl
theorem blk_form {w : World} {cs : Array Value} {b : Blk} (h : SBlk.rd w cs.toList b) : cs = #[.int .i64 b.1, .int .i64 b.2.1, .int .i64 b.2.2.1, .int .i64 b.2.2.2.1, .int .i64 b.2.2.2.2] := by
  obtain ⟨c0, d0, hc, h0, ⟨c1, d1, e1, h1, ⟨c2, d2, e2, h2, ⟨c3, d3, e3, h3, h4⟩⟩⟩⟩ := h
  have h0' : c0 = [Value.int .i64 b.1] := h0
  have h1' : c1 = [Value.int .i64 b.2.1] := h1
  have h2' : c2 = [Value.int .i64 b.2.2.1] := h2
  have h3' : c3 = [Value.int .i64 b.2.2.2.1] := h3
  have h4' : d3 = [Value.int .i64 b.2.2.2.2] := h4
  subst h0' h1' h2' h3' h4'
  subst e3
  subst e2
  subst e1
  cases cs
  simpa using hc
theorem wf_int6 {z : Int} (h : (Lit.int .i64 z).wf = true) : -9223372036854775808 ≤ z ∧ z ≤ 9223372036854775807 := by
  simpa [Lit.wf, IntKind.min, IntKind.max, IntKind.signed, IntKind.bits] using h
/-- a bool that came in -/
theorem open_flag {H : Type} {enc : TypeId × Value → H} {P : Program} {w : World} {base : Nat} {spare : Nat → Bool} {held : Bool} {r : Reach} {b0 : Nat} {t : TypeId} {v : Value} {d : DataW H} {ps : List MemPlace} (ht : P.underlying t = some .bool) (hval : Value.okWide P w r b0 t v) (hd : DataW.Trod enc P w base spare held t v d ps) :
    ∃ b, v = .bool b ∧ d = .lit (.bool b) ∧ ps = [] := by
  obtain ⟨b, rfl⟩ := okWide_bool ht hval
  obtain ⟨fuel, hf⟩ := hd
  obtain ⟨b', h, hx⟩ := DataW.trod_bool ht hf
  simp [Value.cells] at h
  subst h
  simp only [Prod.mk.injEq] at hx
  exact ⟨b, rfl, hx.1, hx.2⟩
set_option maxRecDepth 100000 in
theorem num6_any (w : World) (n : Int) : Calls Try.prog 15 #[.int .i64 n] w fun e w' => e = .returned (.int .i64 n) ∧ w = w' := by
  go_enter Try.func15, Try.ntmps15
  go_wp2
  go_ret
  exact ⟨rfl, rfl⟩

end Go.Proofs.Ytpebgepjohlklaa
