/-
  What a law's walk is told of the program's frames ('FramesSay': its contracts, proved apart), and the laws' own small functions.
-/
import Derived.Lib.UnsafeStr
import Derived.Laws.BytesArg
import Derived.Test.YtmdbgmnohdeoeaaFRefS
import Derived.Test.YtmdbgmnohdeoeaaSame
namespace Go.Proofs.Ytmdbgmnohdeoeaa
open Go.RowKit
set_option linter.unusedVariables false

structure FramesSay : Prop where
  sealS : ∀ (w : World) (k : UInt8) (v : Value) (d : List UInt8), Rd w v d → d.length ≤ 140737488351232 →
    Calls Try.prog 10 #[.agg #[.int .u8 (k.toNat : Int), v]] w fun e w' => ∃ v', e = .returned (.tuple #[v', .int .i64 (fsealE d)]) ∧ OwnB w.heap.size w' v' (fsealO k d) ∧ Below w.heap.size w w'
  openS : ∀ (w : World) (v : Value) (b : List UInt8), Rd w v b → b.length ≤ 140737488351232 →
    Calls Try.prog 12 #[v] w fun e w' => ∃ sv, e = .returned (.tuple #[.agg #[.int .u8 ((fopen b).2.1.1.toNat : Int), sv], .int .i64 ((fopen b).2.2 : Nat), .int .i64 ((fopen b).1 : Nat)]) ∧ OwnB w.heap.size w' sv (fopen b).2.1.2 ∧ Below w.heap.size w w'
  scanS : ∀ (w : World) (v : Value) (b : List UInt8), Rd w v b → b.length ≤ 16777216 →
    Calls Try.prog 14 #[v] w fun e w' => ∃ v' fs p, e = .returned (.tuple #[v', .int .i64 (p : Nat)]) ∧ ScEnd b fs p ∧ OwnFs 29 w.heap.size w' v' fs ∧ Below w.heap.size w w'

theorem num3_any (w : World) (n : Int) :
    Calls Try.prog 17 #[.int .i64 n] w fun e w' => e = .returned (.int .i64 n) ∧ w = w' := by
  go_enter Try.func17, Try.ntmps17
  go_wp2
  go_ret
  exact ⟨rfl, rfl⟩

def sameF (f g : Frm) : Bool := decide (f = g)
theorem sameF_self (f : Frm) : sameF f f = true := by simp [sameF]

set_option maxHeartbeats 400000 in
theorem fsame_any (w : World) (f g : Frm) (v1 v2 : Value) (r1 : Rd w v1 f.2) (r2 : Rd w v2 g.2) :
    Calls Try.prog 18 #[.agg #[.int .u8 (f.1.toNat : Int), v1], .agg #[.int .u8 (g.1.toNat : Int), v2]] w fun e w' => e = .returned (.bool (sameF f g)) ∧ Below w.heap.size w w' := by
  obtain ⟨W, hW⟩ : ∃ W, W = (w.alloc (.cells #[.int .u8 (f.1.toNat : Int), v1] 29)).alloc (.cells #[.int .u8 (g.1.toNat : Int), v2] 24) := ⟨_, rfl⟩
  have hb : Below w.heap.size w W := by rw [hW]; exact ((Below.refl _ _).alloc (Nat.le_refl _) _).alloc (by simp) _
  have q1 := r1.to hb
  have q2 := r2.to hb
  obtain ⟨a1, c1, rfl⟩ := r1.slice
  obtain ⟨a2, c2, rfl⟩ := r2.slice
  by_cases hk : f.1 = g.1
  · have hq : ((f.1.toNat : Int) == (g.1.toNat : Int)) = true := by rw [hk]; simp
    have hs : sameB f.2 g.2 = sameF f g := by
      simp only [sameB, sameF]
      congr 1
      simp [Prod.ext_iff, hk]
    clear hk
    replace hs := hide hs
    go_enter Try.func18, Try.ntmps18
    go_wp2_with fail
    rw [← hW]
    replace hW := hide hW
    refine (same_any _ _ _ f.2 g.2 q1 q2).mono ?_
    rintro e w1 ⟨rfl, n, rfl⟩
    rw [hs.out]
    go_wp2
    go_ret
    exact ⟨rfl, hb.trans (below_drewN' _ _ _)⟩
  · have hne : (f.1.toNat : Int) ≠ (g.1.toNat : Int) := by intro e; exact hk (UInt8.toNat_inj.1 (by omega))
    have hq : ((f.1.toNat : Int) == (g.1.toNat : Int)) = false := by simpa using hne
    have hs : sameF f g = false := by simp only [sameF, decide_eq_false_iff_not]; intro e; exact hk (by rw [e])
    go_enter Try.func18, Try.ntmps18
    go_wp2
    go_ret
    exact ⟨ret_bool hs.symm, by rw [← hW]; exact hb⟩

end Go.Proofs.Ytmdbgmnohdeoeaa
