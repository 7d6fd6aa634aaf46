/-
  What octets.Cut and transeptref01.Cut come to, refused or not: the same; likewise octets.Apart and transeptref01.Apart; and what stays where another block is written over.
-/
import Derived.Test.YtoijklenmjllcaaRefCut
import Derived.Test.YtoijklenmjllcaaRefBits
namespace Go.Proofs.Ytoijklenmjllcaa
open Go.RowKit
set_option linter.unusedVariables false

theorem ownB_kept {B : Nat} {w w' : World} {v : Value} {xs : List UInt8} {row : Option Nat} (h : OwnB B w v xs) (hg : w.grownBy w' row) (hr : ∀ g, row = some g → g < B) : OwnB B w' v xs := by
  refine World.ownsRow.kept h hg ?_
  cases hb : v.ownBlock with
  | none => left; rfl
  | some g =>
    right
    intro e
    have h1 := (World.ownsRow.lt h g hb).1
    have h2 := hr g e.symm
    omega
theorem ownL_kept {B : Nat} {w w' : World} {v : Value} {xss : List (List UInt8)} {row : Option Nat} (h : OwnL B w v xss) (hg : w.grownBy w' row) (hr : ∀ g, row = some g → g < B) : OwnL B w' v xss := by
  obtain ⟨vs, h1, h2, h3⟩ := h
  refine ⟨vs, h1, ?_, fun i hi => ownB_kept (h3 i hi) hg hr⟩
  refine World.ownsRow.kept h2 hg ?_
  cases hb : v.ownBlock with
  | none => left; rfl
  | some g =>
    right
    intro e
    have h4 := (World.ownsRow.lt h2 g hb).1
    have h5 := hr g e.symm
    omega
theorem ownL_below {B C : Nat} {w w' : World} {v : Value} {xss : List (List UInt8)} (h : OwnL B w v xss) (hC : w.heap.size ≤ C) (hb : Below C w w') : OwnL B w' v xss := by
  obtain ⟨vs, h1, h2, h3⟩ := h
  refine ⟨vs, h1, ?_, fun i hi => (h3 i hi).below hC hb⟩
  rcases h2 with ⟨k1, k2 | ⟨g, cap, cur, hv, hB, hg, hr⟩⟩
  · exact ⟨k1, .inl k2⟩
  · refine ⟨k1, .inr ⟨g, cap, cur, hv, hB, ?_, hr⟩⟩
    rw [hb.block g (by have := lt_of_block hg; omega)]; exact hg

/-- what both cuts come to, refused or not -/
def CutSays (xs : List UInt8) (size : Int) (e : Int) (xss : List (List UInt8)) : Prop :=
  (e = 4 ∧ xss = [] ∧ (size < 1 ∨ 65536 < size)) ∨ (e = 0 ∧ ∃ s : Nat, size = (s : Int) ∧ 1 ≤ s ∧ s ≤ 65536 ∧ xss = cutL xs s)
theorem cut_says (xs : List UInt8) (hm : xs.length ≤ 1048576) (size : Int) : ∃ e xss, CutSays xs size e xss ∧
    (∀ u v, Rd u v xs → Calls Try.prog 11 #[v, .int .i64 size] u fun r w' => ∃ v', r = .returned (.tuple #[v', .int .i64 e]) ∧ OwnL u.heap.size w' v' xss ∧ Below u.heap.size u w') ∧
    (∀ u v, Rd u v xs → Calls Try.prog 12 #[v, .int .i64 size] u fun r w' => ∃ v', r = .returned (.tuple #[v', .int .i64 e]) ∧ OwnL u.heap.size w' v' xss ∧ Below u.heap.size u w') := by
  by_cases h : size < 1 ∨ 65536 < size
  · refine ⟨4, [], .inl ⟨rfl, rfl, h⟩, fun u v hv => ?_, fun u v hv => ?_⟩
    · refine (cut_no u v xs hv size h).mono ?_
      rintro r w' ⟨rfl, rfl⟩
      exact ⟨_, rfl, ⟨[], rfl, World.ownsRow_nil _ _ _ _, fun i hi => absurd hi (Nat.not_lt_zero _)⟩, Below.refl _ _⟩
    · refine (refCut_no u v xs hv size h).mono ?_
      rintro r w' ⟨rfl, rfl⟩
      exact ⟨_, rfl, ⟨[], rfl, World.ownsRow_nil _ _ _ _, fun i hi => absurd hi (Nat.not_lt_zero _)⟩, Below.refl _ _⟩
  · obtain ⟨s, rfl⟩ := Int.eq_ofNat_of_zero_le (show 0 ≤ size by omega)
    exact ⟨0, cutL xs s, .inr ⟨rfl, s, rfl, by omega, by omega, rfl⟩, fun u v hv => cut_yes u v xs hv s (by omega) (by omega) hm, fun u v hv => refCut_yes u v xs hv s (by omega) (by omega) hm⟩

theorem apart_says (xs ys : List UInt8) (hm : xs.length ≤ 1048576) : ∃ n e : Int,
    (∀ u v1 v2, Rd u v1 xs → Rd u v2 ys → Calls Try.prog 9 #[v1, v2] u fun r w' => r = .returned (.tuple #[.int .i64 n, .int .i64 e]) ∧ Below u.heap.size u w') ∧
    (∀ u v1 v2, Rd u v1 xs → Rd u v2 ys → Calls Try.prog 10 #[v1, v2] u fun r w' => r = .returned (.tuple #[.int .i64 n, .int .i64 e]) ∧ Below u.heap.size u w') := by
  by_cases h : xs.length = ys.length
  · refine ⟨(ap xs ys : Nat), 0, fun u v1 v2 h1 h2 => ?_, fun u v1 v2 h1 h2 => ?_⟩
    · refine (apart_any u v1 v2 xs ys h1 h2 h (by omega)).mono ?_
      rintro r w' ⟨rfl, m, rfl⟩
      exact ⟨rfl, below_drewN' _ _ _⟩
    · refine (refApart_any u v1 v2 xs ys h1 h2 h (by omega)).mono ?_
      rintro r w' ⟨rfl, rfl⟩
      exact ⟨rfl, Below.refl _ _⟩
  · refine ⟨0, 3, fun u v1 v2 h1 h2 => ?_, fun u v1 v2 h1 h2 => ?_⟩
    · refine (apart_unlike u v1 v2 xs ys h1 h2 h).mono ?_
      rintro r w' ⟨rfl, m, rfl⟩
      exact ⟨rfl, below_drewN' _ _ _⟩
    · refine (refApart_unlike u v1 v2 xs ys h1 h2 h).mono ?_
      rintro r w' ⟨rfl, rfl⟩
      exact ⟨rfl, Below.refl _ _⟩

end Go.Proofs.Ytoijklenmjllcaa
