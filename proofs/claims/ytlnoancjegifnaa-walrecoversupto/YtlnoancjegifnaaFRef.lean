/-
  The contracts of the page's Seal, Open and Scan of frames.
-/
import Derived.Test.YtlnoancjegifnaaFMath
import Derived.Test.YtlnoancjegifnaaCExt
import Derived.Test.YtlnoancjegifnaaRefPut
import Derived.Test.YtlnoancjegifnaaStep
import Derived.Test.YtlnoancjegifnaaShp
import Derived.Test.YtlnoancjegifnaaSub
namespace Go.Proofs.Ytlnoancjegifnaa
open Go.RowKit
set_option linter.unusedVariables false

def fsealE (d : List UInt8) : Int := if 4096 < d.length then 5 else 0
noncomputable def fsealO (k : UInt8) (d : List UInt8) : List UInt8 := if 4096 < d.length then [] else fseal k d

theorem own_drew {B : Nat} {w : World} {v : Value} {xs : List UInt8} (h : OwnB B w v xs) : OwnB B w.drew v xs := h

set_option maxRecDepth 100000 in
set_option maxHeartbeats 1000000 in
theorem rseal_any (w : World) (k : UInt8) (v : Value) (d : List UInt8) (hrd : Rd w v d) (hm : d.length ≤ 1000000000000000) :
    Calls Try.prog 39 #[.agg #[.int .u8 (k.toNat : Int), v]] w fun e w' => ∃ v', e = .returned (.tuple #[v', .int .i64 (fsealE d)]) ∧ OwnB w.heap.size w' v' (fsealO k d) ∧ Below w.heap.size w w' := by
  obtain ⟨w1, hw1, c0, c1, b1, s1⟩ := boxed2 w (.int .u8 (k.toNat : Int)) v 77
  obtain ⟨ao, cap, rfl⟩ := hrd.slice
  by_cases hl : 4096 < d.length
  · have hq : (4096 : Int) < (d.length : Int) := by omega
    have he : Hid (fsealE d = 5) := by show _ = _; simp [fsealE, hl]
    have ho : Hid (fsealO k d = []) := by show _ = _; simp [fsealO, hl]
    go_enter Try.func39, Try.ntmps39
    go_wp2
    go_ret2
    exact ⟨_, by rw [he.out]; rfl, by rw [ho.out]; exact World.ownsRow_nil _ _ _ _, by rw [← hw1]; exact b1⟩
  · have hq : ¬ (4096 : Int) < (d.length : Int) := by omega
    have he : Hid (fsealE d = 0) := by show _ = _; simp [fsealE, hl]
    have ho : Hid (fsealO k d = fseal k d) := by show _ = _; simp [fsealO, hl]
    go_enter Try.func39, Try.ntmps39
    go_wp2
    rw [← hw1]
    replace hw1 := hide hw1
    have hwr : IntKind.u64.wrap (d.length : Int) = (d.length : Int) := by rw [IntKind.wrap_u64]; omega
    have hO : ∀ u, Calls Try.prog 52 #[.int .u64 (d.length : Int), .int .i64 2] u fun e w' => ∃ v, e = .returned v ∧ OwnB u.heap.size w' v (oc d.length 2) ∧ Below u.heap.size u w' := fun u => refOctets_any u d.length 2 (by decide) (by omega)
    have litA : ∀ w2, Below (w1.alloc (.cells #[.int .u8 167, .int .u8 (k.toNat : Int)] 5)).drew.heap.size (w1.alloc (.cells #[.int .u8 167, .int .u8 (k.toNat : Int)] 5)).drew w2 → OwnB w1.heap.size w2 (.slice (some ⟨w.heap.size + 1, 0, none⟩) 2 2) [167, k] ∧ w1.heap.size ≤ w2.heap.size ∧ Below w1.heap.size w1 w2 := fun w2 hb => by
      have h1 := own_drew (own_lit w1 [167, k] (by simp))
      rw [s1] at h1 ⊢
      refine ⟨h1.below (Nat.le_refl _) hb, ?_, ?_⟩
      · have := hb.size; simp at this; omega
      · have h2 : Below (w.heap.size + 1) w1 (w1.alloc (.cells #[.int .u8 167, .int .u8 (k.toNat : Int)] 5)).drew := below_drew ((Below.refl _ _).alloc (by omega) _)
        exact h2.trans (hb.mono (by simp; omega))
    have litB : ∀ u : World, w1.heap.size ≤ u.heap.size → OwnB w1.heap.size (u.alloc (.cells #[.int .u8 167, .int .u8 (k.toNat : Int)] 5)) (.slice (some ⟨u.heap.size, 0, none⟩) 2 2) [167, k] := fun u hu =>
      (own_lit u [167, k] (by simp)).mono hu
    have hol : ([167, k] : List UInt8).length + (oc d.length 2).length ≤ 140737488355328 := by rw [oc_length]; simp
    have keep : ∀ (u w2 : World) (x : Nat) (v : Value), Below u.heap.size u w2 → u.cell? ⟨w.heap.size, x, none⟩ = some v → w2.cell? ⟨w.heap.size, x, none⟩ = some v := fun u w2 x v hb h => (hb.cell (cell_lt h)).trans h
    have c0a : ∀ o : Obj, (w1.alloc o).drew.cell? ⟨w.heap.size, 0, none⟩ = some (.int .u8 (k.toNat : Int)) := fun o => keep w1 _ _ _ (below_drew ((Below.refl _ _).alloc (Nat.le_refl _) _)) c0
    have c1a : ∀ o : Obj, (w1.alloc o).drew.cell? ⟨w.heap.size, 1, none⟩ = some (.slice ao d.length cap) := fun o => keep w1 _ _ _ (below_drew ((Below.refl _ _).alloc (Nat.le_refl _) _)) c1
    have KEEP := hide keep
    clear keep
    go_region_law (first
      | (refine step_call (by rfl) 52 _ _ (by rfl) #[.int .u64 (d.length : Int), .int .i64 2] (by simp [Act.eval, Act.put]) (Try.call52 _ _) (hO _) ?_; rintro e w2 ⟨v2, rfl, o2, b2⟩; refine ⟨_, rfl, ?_⟩; have d0 := KEEP.out _ _ 0 _ b2 (by first | exact c0 | exact c0a _); have d1 := KEEP.out _ _ 1 _ b2 (by first | exact c1 | exact c1a _))
      | (refine step_append_octs (by rfl) _ _ (by rfl) w1.heap.size (.slice (some ⟨w.heap.size + 1, 0, none⟩) 2 2) v2 [167, k] (oc d.length 2) (by rfl) (by rfl) (litA _ b2).1 o2.rd hol (litA _ b2).2.1 ?_; intro v3 w3 o3 b3 _; have b4 : Below w1.heap.size w1 w3 := (litA _ b2).2.2.trans b3)
      | (refine step_append_octs (by rfl) _ _ (by rfl) w1.heap.size (.slice (some ⟨w2.heap.size, 0, none⟩) 2 2) v2 [167, k] (oc d.length 2) (by rfl) (by rfl) (litB w2 b2.size) (o2.rd.below (Nat.le_refl _) ((Below.refl _ _).alloc (Nat.le_refl _) _)) hol (Nat.le_trans b2.size (by simp)) ?_; intro v3 w3 o3 b3 _; have b4 : Below w1.heap.size w1 w3 := ((below_drew (Below.refl _ w1)).trans (b2.trans ((Below.refl _ _).alloc b2.size _))).trans b3))
    all_goals
      have b5 : Below w.heap.size w w3 := b1.trans (b4.mono (by omega))
      have f1 : w3.cell? ⟨w.heap.size, 1, none⟩ = some (.slice ao d.length cap) := KEEP.out _ _ 1 _ b4 c1
      have g3 := hrd.to b5
      have hW : w.heap.size + 1 ≤ w3.heap.size := by have := b4.size; omega
      clear o2 b2 b3 b4 d0 d1 c0 c1 c0a c1a litA litB hO
      rw [s1] at o3
      go_wp2_with (at_builtin; refine wpList_append_octs rfl _ _ rfl (w.heap.size + 1) _ _ _ d rfl rfl o3 g3 (by simp [oc_length]; omega) hW ?_; intro v6 w6 o6 b6 _)
      have b7 : Below w.heap.size w w6 := b5.trans (b6.mono (by omega))
      have hW6 : w.heap.size + 1 ≤ w6.heap.size := Nat.le_trans hW b6.size
      clear o3 b5 b6 g3 f1 hW
      have o6' : OwnB (w.heap.size + 1) w6 v6 (fhead k d) := o6
      clear o6
      have hfl : (fhead k d).length ≤ 4100 := by rw [fhead_len]; omega
      have hS := sum_lt (fhead k d)
      go_wp2_with fail
      refine (psum_any _ _ (fhead k d) o6'.rd (by omega)).mono ?_
      rintro e w' ⟨rfl, rfl⟩
      have hws : IntKind.u64.wrap ((sum (fhead k d) : Nat) : Int) = ((sum (fhead k d) : Nat) : Int) := by unfold M32 at hS; rw [IntKind.wrap_u64]; omega
      go_wp2_with fail
      refine (refOctets_any _ (sum (fhead k d)) 4 (by decide) (by unfold M32 at hS; omega)).mono ?_
      rintro e w8 ⟨v8, rfl, o8, b8⟩
      have o9 := o6'.below (Nat.le_refl _) b8
      have hW8 : w.heap.size + 1 ≤ w8.heap.size := Nat.le_trans hW6 b8.size
      have b9 : Below w.heap.size w w8 := b7.trans (b8.mono b7.size)
      have r8 := o8.rd
      clear o6' b7 b8 o8 hws
      go_wp2_with (at_builtin; refine wpList_append_octs rfl _ _ rfl (w.heap.size + 1) _ _ _ _ rfl rfl o9 r8 (by rw [oc_length]; omega) hW8 ?_; intro v10 w10 o10 b10 _)
      go_ret2
      refine ⟨_, by rw [he.out]; rfl, ?_, b9.trans (b10.mono (by omega))⟩
      rw [ho.out]
      exact OwnB.mono o10 (by omega)

end Go.Proofs.Ytlnoancjegifnaa
