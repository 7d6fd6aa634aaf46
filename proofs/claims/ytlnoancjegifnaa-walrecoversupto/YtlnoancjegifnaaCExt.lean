/-
  The contracts of crc.Extend and crc.Sum, and of the page's.
-/
import Derived.Great.Walk
import Derived.Test.YtlnoancjegifnaaCTab
import Derived.Test.YtlnoancjegifnaaCStep
import Derived.Test.YtlnoancjegifnaaOwn
namespace Go.Proofs.Ytlnoancjegifnaa
open Go.RowKit
set_option linter.unusedVariables false

theorem made_setRow (w : World) (c d : Nat → Nat) : (w.alloc (.cells (cv c).toArray 113)).setRow w.heap.size (cv d).toArray = w.alloc (.cells (cv d).toArray 113) :=
  World.setRow_alloc_new w _ _ _

theorem alloc_tab {ops : Array Oper} {rest : List Oper} {a : Act} {w : World} {Q : Exit → Act → World → Prop} {dst : Option Tmp} {ty : TypeId} {pos : String} {after : Array Edge} (hz : (zeroValue 113).run Try.prog w = .ok (.agg (cv fun _ => 0).toArray) w)
    (h : wpList Try.prog ops Q rest (a.put dst (.pointer (some ⟨w.heap.size, 0, none⟩))) (w.alloc (.cells (cv fun _ => 0).toArray 113))) :
    wpList Try.prog ops Q ({ dst := dst, op := .alloc 113, type := ty, pos := pos, after := after, guard := none } :: rest) a w :=
  Great.wpList_allocTo rfl dst rfl _ _ (by simp [execOp, Instr.alloc, hz, newVar, newRow, Value.cells]) h
theorem tab_size : (Try.prog.info? 113).map (·.size) = some (cv (stn 8)).toArray.size := by
  rw [show (cv (stn 8)).toArray.size = 256 from by simp [cv_len]]; exact zero43.2
theorem tab_made {w w1 : World} (hb : Below w.heap.size w w1) : ∃ w2, w2 = w1.alloc (.cells (cv (stn 8)).toArray 113) ∧ (∀ i, i < 256 → w2.cell? ⟨w1.heap.size, i, none⟩ = some (.int .u32 (stn 8 i : Nat))) ∧ Below w.heap.size w w2 := by
  refine ⟨_, rfl, fun i hi => ?_, hb.alloc hb.size _⟩
  rw [cell_of_row _ _ i _ _ (0, 0) (heap_alloc_last w1 _)]
  simp [cv, hi]

/-- one octet's round in the table's words -/
theorem round_int (r x : Nat) (hr : r < M32) (hx : x < 256) :
    IntKind.u8.wrap (r : Int) = ((r % 256 : Nat) : Int) ∧ bits .xor .u8 ((r % 256 : Nat) : Int) (x : Int) = ((r % 256 ^^^ x : Nat) : Int) ∧ r % 256 ^^^ x < 256 ∧
    bits .xor .u32 ((r : Int) / 256) ((stn 8 (r % 256 ^^^ x) : Nat) : Int) = ((tn r x : Nat) : Int) := by
  have hlt : r % 256 ^^^ x < 2 ^ 8 := Nat.xor_lt_two_pow (by omega) hx
  refine ⟨?_, u8_xor_nat _ _ (by omega) hx, hlt, ?_⟩
  · rw [IntKind.wrap_u8']; omega
  · rw [show (r : Int) / 256 = ((r / 256 : Nat) : Int) from by omega, xor_int _ _ (by unfold M32 at *; omega) (stn_lt 8 (by unfold M32; omega)), tn_table]

theorem reg_succ (r : Nat) (xs : List UInt8) (k : Nat) (h : k < xs.length) : reg r (xs.take (k + 1)) = tn (reg r (xs.take k)) (xs.getD k 0).toNat := by
  rw [List.take_add_one, List.getElem?_eq_getElem h, reg_app]
  simp [reg, h]

set_option maxRecDepth 100000 in
set_option maxHeartbeats 1000000 in
theorem ext_any (w : World) (c : Nat) (v : Value) (xs : List UInt8) (hc : c < M32) (hrd : Rd w v xs) (hm : xs.length ≤ 1000000000000000) :
    Calls Try.prog 63 #[.int .u32 c, v] w fun e w' => e = .returned (.int .u32 (ext c xs : Nat)) ∧ Below w.heap.size w w' := by
  obtain ⟨ao, cap, rfl⟩ := hrd.slice
  have hic := inv_lt hc
  have HI := inv_int c hc
  have hv := zero43.1
  rw [zeros_cv] at hv
  go_enter Try.func63, Try.ntmps63
  go_wp2_with (go_at_call 68; refine (steps_any _).mono ?_; rintro e w1 ⟨rfl, hb⟩; rename_i K2 hK2; refine hK2 _ _ ?_; clear hK2; refine alloc_tab (hv _) ?_; refine wpList_store_row rfl _ _ _ rfl w1.heap.size _ rfl rfl _ _ (heap_alloc_last _ _) tab_size (by simp [cv_len]) (all_one _) ?_; rw [made_setRow]; obtain ⟨w2, hw2, hcell, hb2⟩ := tab_made hb; rw [← hw2]; replace hw2 := hide hw2; clear hv; replace hrd := hrd.to hb2; clear hw2 hb; generalize w1.heap.size = g at *; obtain ⟨a1, c1, e1, l1, m1, n1, r1⟩ := hrd; cases e1; unfold maxLen at m1; generalize (cv (stn 8)).toArray = T at *)
  go_loop [6, 14] (fun r i => ∃ k : Nat, k ≤ xs.length ∧ i = .int .i64 k ∧ r = .int .u32 (reg (inv c) (xs.take k) : Nat)) (fun _ i => xs.length - (intOf i).toNat)
  case atStart => exact ⟨0, Nat.zero_le _, rfl, rfl⟩
  case round =>
    obtain ⟨k, hk, rfl, rfl⟩ := hrel
    have hreg := reg_lt (xs.take k) hic
    by_cases hlt : k < xs.length
    · rcases r1 with r1 | ⟨b1, o1, rfl, hc1⟩
      · rw [r1] at hlt; simp at hlt
      have g1 := hc1 k hlt
      have hq : (k : Int) < (xs.length : Int) := by omega
      have HS := hide (reg_succ (inv c) xs k hlt)
      have hx := UInt8.toNat_lt (xs.getD k 0)
      unfold bt at g1
      generalize (xs.getD k 0).toNat = x at *
      generalize reg (inv c) (xs.take k) = r at *
      obtain ⟨q1, q2, q3, q4⟩ := round_int r x hreg hx
      have g2 := hcell _ q3
      have q5 : ((r % 256 ^^^ x : Nat) : Int) < 256 := by omega
      clear hcell hc1 HI
      generalize r % 256 ^^^ x = y at *
      generalize stn 8 y = z at *
      generalize tn r x = s at *
      generalize r % 256 = rr at *
      go_wp2
      go_round
      case rel => exact ⟨k + 1, by omega, by go_num, by rw [HS.out]⟩
      case measure => simp [intOf]; omega
    · obtain rfl : k = xs.length := by omega
      rw [List.take_length] at *
      have HF := inv_int _ hreg
      go_wp2
      go_ret
      exact ⟨rfl, hb2⟩

set_option maxRecDepth 100000 in
theorem sum_any (w : World) (v : Value) (xs : List UInt8) (hrd : Rd w v xs) (hm : xs.length ≤ 1000000000000000) :
    Calls Try.prog 57 #[v] w fun e w' => e = .returned (.int .u32 (sum xs : Nat)) ∧ Below w.heap.size w w' := by
  go_enter Try.func57, Try.ntmps57
  go_wp2_with (go_at_call 63; refine (ext_any _ 0 _ _ (by decide) hrd hm).mono ?_; rintro e w1 ⟨rfl, hb⟩)
  go_ret
  exact ⟨rfl, hb⟩

set_option maxRecDepth 100000 in
set_option maxHeartbeats 1000000 in
theorem pext_any (w : World) (c : Nat) (v : Value) (xs : List UInt8) (hc : c < M32) (hrd : Rd w v xs) (hm : xs.length ≤ 1000000000000000) :
    Calls Try.prog 58 #[.int .u32 c, v] w fun e w' => e = .returned (.int .u32 (ext c xs : Nat)) ∧ w = w' := by
  have hic := inv_lt hc
  have HI := inv_int c hc
  obtain ⟨a1, c1, rfl, l1, m1, n1, r1⟩ := hrd
  unfold maxLen at m1
  go_enter Try.func58, Try.ntmps58
  go_wp2
  go_loop [0, 5] (fun r i => ∃ k : Nat, k ≤ xs.length ∧ i = .int .i64 k ∧ r = .int .u32 (reg (inv c) (xs.take k) : Nat)) (fun _ i => xs.length - (intOf i).toNat)
  case atStart => exact ⟨0, Nat.zero_le _, rfl, rfl⟩
  case round =>
    obtain ⟨k, hk, rfl, rfl⟩ := hrel
    have hreg := reg_lt (xs.take k) hic
    by_cases hlt : k < xs.length
    · rcases r1 with r1 | ⟨b1, o1, rfl, hc1⟩
      · rw [r1] at hlt; simp at hlt
      have g1 := hc1 k hlt
      have hq : (k : Int) < (xs.length : Int) := by omega
      have HS := hide (reg_succ (inv c) xs k hlt)
      have hx := UInt8.toNat_lt (xs.getD k 0)
      unfold bt at g1
      generalize (xs.getD k 0).toNat = x at *
      generalize reg (inv c) (xs.take k) = r at *
      clear hc1 HI
      go_wp2_with (go_at_call 64; refine (turn_any _ _ _ hreg hx).mono ?_; rintro e w' ⟨rfl, rfl⟩)
      go_round
      case rel => exact ⟨k + 1, by omega, by go_num, by rw [HS.out]⟩
      case measure => simp [intOf]; omega
    · obtain rfl : k = xs.length := by omega
      rw [List.take_length] at *
      have HF := inv_int _ hreg
      go_wp2
      go_ret
      exact ⟨rfl, rfl⟩

set_option maxRecDepth 100000 in
theorem psum_any (w : World) (v : Value) (xs : List UInt8) (hrd : Rd w v xs) (hm : xs.length ≤ 1000000000000000) :
    Calls Try.prog 53 #[v] w fun e w' => e = .returned (.int .u32 (sum xs : Nat)) ∧ w = w' := by
  go_enter Try.func53, Try.ntmps53
  go_wp2_with (go_at_call 58; refine (pext_any _ 0 _ _ (by decide) hrd hm).mono ?_; rintro e w1 ⟨rfl, rfl⟩)
  go_ret
  exact ⟨rfl, rfl⟩

end Go.Proofs.Ytlnoancjegifnaa
