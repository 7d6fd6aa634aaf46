/-
  Lists of strings and of ints that the call owns; transeptplain's copies of them and whether they are the same; the page's copies.
-/
import Derived.Laws.AppendOwnNone
import Derived.BigQuiet
import Derived.Test.YtgmkknonnidgaaaNBase
namespace Go.Proofs.Ytgmkknonnidgaaa
open Go.RowKit
set_option linter.unusedVariables false

/-- a list of one cell each, in a block from B on, that the call may write -/
abbrev OwnT (B : Nat) (w : World) (v : Value) (l : List Str) : Prop := w.ownsRow B 9 1 v l.length (l.map st)
abbrev OwnJ (B : Nat) (w : World) (v : Value) (l : List Int) : Prop := w.ownsRow B 3 1 v l.length (l.map (Value.int .i64))
abbrev SStrs : Shp (List Str) := Shp.list 9 Shp.str
abbrev SIntL : Shp (List Int) := Shp.list 3 (Shp.int .i64)
theorem own_one {α : Type} {T : Nat} {s : Shp α} {f : α → Value} (hs : ∀ (w : World) x, s.own [] w [f x] x) {B : Nat} {w : World} {v : Value} {l : List α} (h : w.ownsRow B T s.n v l.length (l.map f)) : Own (Shp.list T s) B w [v] l := by
  have each : ∀ l : List α, ownEach s w [] (l.map f) l := by
    intro l
    induction l with
    | nil => exact ⟨rfl, rfl⟩
    | cons x r ih => exact ⟨[], [], [f x], r.map f, rfl, rfl, hs w x, ih⟩
  refine ⟨v.ownBlock.toList, ⟨v, _, [], rfl, ?_, each l, by simp⟩, ?_, fun b hb => (World.ownsRow.lt h b (by simpa using hb)).1⟩
  · exact rows_base h fun _ _ => Nat.zero_le _
  · cases v.ownBlock <;> simp
theorem OwnT.own {B : Nat} {w : World} {v : Value} {l : List Str} (h : OwnT B w v l) : Own SStrs B w [v] l := own_one (s := Shp.str) (f := st) (fun _ _ => ⟨rfl, rfl⟩) h
theorem OwnJ.own {B : Nat} {w : World} {v : Value} {l : List Int} (h : OwnJ B w v l) : Own SIntL B w [v] l := own_one (s := Shp.int .i64) (f := Value.int .i64) (fun _ _ => ⟨rfl, rfl⟩) h
theorem OwnT.rd {B : Nat} {w : World} {v : Value} {l : List Str} (h : OwnT B w v l) : RdT w v l := h.own.rdS
theorem OwnJ.rd {B : Nat} {w : World} {v : Value} {l : List Int} (h : OwnJ B w v l) : RdI w v l := h.own.rdS
theorem infoT : (Try.prog.info? 9).map (fun i => (i.zero, i.size, i.bytes)) = some (some (.string ⟨#[]⟩), 1, 16) := by kernel_rfl
theorem infoJ : (Try.prog.info? 3).map (fun i => (i.zero, i.size, i.bytes)) = some (some (.int .i64 0), 1, 8) := by kernel_rfl
theorem one_st (l : List Str) : ∀ u ∈ l.map st, u.oneCell' = true := by
  intro u hu
  obtain ⟨x, _, rfl⟩ := List.mem_map.1 hu
  rfl
theorem one_int (l : List Int) : ∀ u ∈ l.map (Value.int .i64), u.oneCell' = true := by
  intro u hu
  obtain ⟨x, _, rfl⟩ := List.mem_map.1 hu
  rfl







end Go.Proofs.Ytgmkknonnidgaaa
