/-
  The contract of transeptplain.Spoil: it writes over its own octets and touches nothing else.
-/
import Derived.Test.YtfalhboahdccmaaOwn
import Derived.Laws.BitsAllLaws
namespace Go.Proofs.Ytfalhboahdccmaa
open Go.RowKit
set_option linter.unusedVariables false

theorem grown_trans {a b c : World} {r : Option Nat} (h : a.grownBy b r) (k : b.grownBy c r) : a.grownBy c r :=
  ⟨k.os.trans h.os, k.tape.trans h.tape, k.output.trans h.output, Nat.le_trans h.size k.size, fun j hj hne => (k.block j (Nat.lt_of_lt_of_le hj h.size) hne).trans (h.block j hj hne)⟩

set_option maxRecDepth 100000 in
set_option maxHeartbeats 400000 in
theorem spoil_own (B : Nat) (w : World) (v : Value) (xs : List UInt8) (h : OwnB B w v xs) (hm : xs.length ≤ 140737488355328) :
    Calls Try.prog 27 #[v] w fun e w' => e = .returned (.tuple #[]) ∧ w.grownBy w' v.ownBlock ∧ ∃ ys : List UInt8, ys.length = xs.length ∧ OwnB B w' v ys := by
  rcases h.2 with ⟨rfl, h0⟩ | ⟨g, cap, cur, rfl, hb, hg, hn, hmx, hs, ht⟩
  · go_enter Try.func27, Try.ntmps27
    go_wp2
    refine wp_loop_rounds 1 ?_
    rw [rounds_succ]
    go_wp2
    go_end0
    exact ⟨rfl, World.grownBy.refl _ _, xs, rfl, h⟩
  · obtain ⟨n, hnn⟩ : ∃ n, xs.length = n := ⟨_, rfl⟩
    unfold OwnB at h
    rw [hnn] at h hm ⊢
    have hn' := hnn
    have h0 : ∃ ys : List UInt8, ys.length = n ∧ w.ownsRow B 5 1 (.slice (some ⟨g, 0, none⟩) n cap) n (ys.map enc) := ⟨xs, hnn, h⟩
    clear h hg hs ht hn hmx hnn
    go_enter Try.func27, Try.ntmps27
    go_wp2
    go_loopw [2] (fun i wr => ∃ k : Nat, k ≤ n ∧ i = .int .i64 k ∧ (∃ ys : List UInt8, ys.length = n ∧ wr.ownsRow B 5 1 (.slice (some ⟨g, 0, none⟩) n cap) n (ys.map enc)) ∧ w.grownBy wr (some g)) (fun i _ => n - (intOf i).toNat)
    case atStart => exact ⟨0, Nat.zero_le _, rfl, h0, World.grownBy.refl _ _⟩
    case round =>
      obtain ⟨k, hk, rfl, ⟨ys, hyl, ho⟩, hgr⟩ := hrel
      clear h0
      by_cases hlt : k < n
      · have hq : (k : Int) < (n : Int) := by omega
        have fz := ho.frozenAt k
        have cl : wr.cell? ⟨g, k, none⟩ = some (.int .u8 (bt ys k)) := by
          rw [ho.cellAt k (by omega)]
          simp [enc, bt, show k < ys.length by omega]
        have hx : bits .xor .u8 (bt ys k) 85 = ((ys.getD k 0 ^^^ 85).toNat : Int) := by
          unfold bt
          rw [show (85 : Int) = ((85 : Nat) : Int) from rfl, u8_xor_nat _ _ (UInt8.toNat_lt _) (by omega), UInt8.toNat_xor]
          rfl
        have hst := ho.stored k (enc (ys.getD k 0 ^^^ 85))
        have HS : Hid (∃ zs : List UInt8, zs.length = n ∧ (wr.setCell ⟨g, k, none⟩ (enc (ys.getD k 0 ^^^ 85))).ownsRow B 5 1 (.slice (some ⟨g, 0, none⟩) n cap) n (zs.map enc)) :=
          ⟨ys.set k (ys.getD k 0 ^^^ 85), by simpa using hyl, by rw [List.map_set]; exact hst.1⟩
        have HG : Hid (w.grownBy (wr.setCell ⟨g, k, none⟩ (enc (ys.getD k 0 ^^^ 85))) (some g)) :=
          grown_trans hgr hst.2
        have hbd := bt_bd ys k
        unfold enc at HS HG
        generalize (ys.getD k 0 ^^^ 85).toNat = z at *
        clear ho hgr hst
        go_wp2
        go_roundw
        case rel => exact ⟨k + 1, by omega, by go_num, HS.out, HG.out⟩
        case measure => simp [intOf]; omega
      · go_wp2
        go_end0
        exact ⟨rfl, hgr, ys, hyl, by unfold OwnB; rw [hyl]; exact ho⟩

theorem spoil_any (B : Nat) (w : World) (v : Value) (xs : List UInt8) (h : OwnB B w v xs) (hm : xs.length ≤ 140737488355328) :
    Calls Try.prog 27 #[v] w fun e w' => e = .returned (.tuple #[]) ∧ w.grownBy w' v.ownBlock :=
  (spoil_own B w v xs h hm).mono fun e w' h => ⟨h.1, h.2.1⟩

end Go.Proofs.Ytfalhboahdccmaa
