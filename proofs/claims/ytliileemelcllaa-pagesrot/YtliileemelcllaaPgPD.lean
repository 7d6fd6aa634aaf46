/-
  Pages, the program's: the iterator over a page's sectors (sectorsFrom).
-/
import Derived.RangeFuncBox
import Derived.RangeFuncBound
import Derived.RangeFuncLeaves
import Derived.Shelf.Abstract
import Derived.Shelf.RegionOpen
import Derived.OwnWalkIn
import Derived.TacticsInMore
import Derived.LoopNIn
import Derived.LoopIn
import Derived.Test.YtliileemelcllaaRHand
import Derived.Test.YtliileemelcllaaPgPC
namespace Go.Proofs.Ytliileemelcllaa
open Go.RowKit Go.Shelf
attribute [local go_sem] Oper.semAt_some
set_option linter.unusedVariables false

/-- the sector of number x that is handed out -/
def encPG (at' : Int) (b o c : Nat) (x : Nat) : Array Value := #[.int .i64 (at' + (x : Int)), .slice (some ⟨b, o + 64 * x, none⟩) 64 (c - 64 * x)]
/-- what a round keeps: the iterator's own two boxes -/
def KpP (Ba Bp : Nat) (V V' : World) : Prop := ∀ (k : Nat) (o : Obj), (k = Ba ∨ k = Bp) → V.heap[k]? = some o → o.isCells = true → V'.heap[k]? = some o
theorem KpP.trans {Ba Bp : Nat} {X Y Z : World} (h : KpP Ba Bp X Y) (k : KpP Ba Bp Y Z) : KpP Ba Bp X Z := fun i o hi h1 h2 => k i o hi (h i o hi h1 h2) h2
theorem KpP.put {Ba Bp : Nat} (W : World) (l : Nat) (o o' : Obj) (h : W.heap[l]? = some o) (ho : o.isCells = false) : KpP Ba Bp W (W.putObj l o') := by
  intro k q _ hq hc
  rw [World.putObj_heap_other (by rintro rfl; rw [h] at hq; cases hq; rw [ho] at hc; cases hc)]
  exact hq
def RP (pre : List Nat) (x : Nat) (V : World) : Prop := x = pre.length ∧ x < 4
def SP (xs : List Nat) (V : World) : Prop := xs.length = 4
set_option maxRecDepth 100000 in
theorem sectorsFrom_any (w : World) (at' : Int) (v : Value) (b : List UInt8) (hrd : Rd w v b) : Calls Try.prog 42 #[.int .i64 at', v] w fun e w' => e = .returned (.func (.func 61) #[] #[.pointer (some ⟨w.heap.size, 0, none⟩), .pointer (some ⟨w.heap.size + 1, 0, none⟩)]) ∧ w' = (w.alloc (.cells #[.int .i64 at'] 3)).alloc (.cells #[v] 22) := by
  obtain ⟨ao, cap, rfl⟩ := hrd.slice
  go_enter Try.func42, Try.ntmps42
  go_wp2
  go_ret
  exact ⟨rfl, rfl⟩

set_option maxHeartbeats 4000000 in
set_option maxRecDepth 100000 in
theorem sectors1_hands (at' : Int) (ha0 : 0 ≤ at') (ha1 : at' + 4 ≤ 9223372036854775807) (b o c : Nat) (hc : 256 ≤ c) (W0 : World) (Ba Bp : Nat) (ba : Boxed W0 Ba 3 (.int .i64 at')) (bp : Boxed W0 Bp 22 (.slice (some ⟨b, o, none⟩) 256 c)) (n : Nat) :
    Hands Fence.wide n Try.prog 61 #[.pointer (some ⟨Ba, 0, none⟩), .pointer (some ⟨Bp, 0, none⟩)] (encPG at' b o c) (KpP Ba Bp) RP SP W0 := by
  intro l J Jx W hW hJ hJx hY h0
  have I0 : Hid (Boxed W Ba 3 (.int .i64 at') ∧ Boxed W Bp 22 (.slice (some ⟨b, o, none⟩) 256 c)) := ⟨(hW.block Ba ba.lt).trans ba, (hW.block Bp bp.lt).trans bp⟩
  have hmx : Try.prog.follows .mixedOrders = true := mixed
  clear ba bp hW
  refine callsIn_of_wp Try.func61 rfl trivial ?_ rfl
  simp only [Try.ntmps61, List.size_toArray, List.length_cons, List.length_nil, Nat.reduceAdd, Nat.reduceSub, Array.replicate_succ, Array.replicate_zero, List.push_toArray, List.append_toArray, List.nil_append, List.cons_append]
  gi_wp2
  gi_loopw [5] (fun i wr => ∃ (pre : List Nat) (k : Nat), i = .int .i64 (k : Int) ∧ k = pre.length ∧ k ≤ 4 ∧ Hid (Boxed wr Ba 3 (.int .i64 at') ∧ Boxed wr Bp 22 (.slice (some ⟨b, o, none⟩) 256 c)) ∧ J pre wr) (fun i _ => 4 - (intOf i).toNat)
  case atStart => exact ⟨[], 0, rfl, rfl, by omega, I0, h0⟩
  case round =>
    obtain ⟨pre, k, rfl, hk, hk4, hit, hJs⟩ := hrel
    clear I0
    replace hk := hide hk
    have cb := hit.out.1.cell
    have cp := hit.out.2.cell
    have HJ := hide (hJ _ _ wr.drew hJs ⟨rfl, rfl, rfl, Nat.le_refl _, fun _ _ _ => rfl⟩)
    have HB : Hid (Boxed wr.drew Ba 3 (.int .i64 at') ∧ Boxed wr.drew Bp 22 (.slice (some ⟨b, o, none⟩) 256 c)) := hit
    have hcases : k = 0 ∨ k = 1 ∨ k = 2 ∨ k = 3 ∨ k = 4 := by omega
    rcases hcases with rfl | rfl | rfl | rfl | rfl
    -- ROUNDS
    · have hx : RP pre 0 wr.drew := ⟨hk.out, by decide⟩
      obtain ⟨fn, tmps, assign, body, hy', hR0⟩ := hY pre 0 wr.drew HJ.out hx
      rw [show encPG at' b o c 0 = #[.int .i64 (at'), .slice (some ⟨b, o, none⟩) 64 (c)] from by simp [encPG]] at hy'
      have hR : Hid (RoundIn Fence.wide (n - 1) Try.prog l fn tmps assign body wr.drew fun e V' => ∃ B : Bool, e = .returned (.bool B) ∧ (B = true ∧ J (pre ++ [0]) V' ∧ KpP Ba Bp wr.drew V' ∨ B = false ∧ Jx (pre ++ [0]) V')) := hR0.mono (by rintro e V' (⟨rfl, h⟩ | ⟨rfl, h⟩); exact ⟨true, rfl, .inl ⟨rfl, h⟩⟩; exact ⟨false, rfl, .inr ⟨rfl, h⟩⟩)
      have hqh : (64 : Int) ≤ (c : Int) := by omega
      have hn0 : ¬ c = 0 := by omega
      have x0 : IntKind.i64.wrap (0 : Int) = 0 := by decide
      have x1 : IntKind.i64.wrap (64 : Int) = 64 := by decide
      have x3 : IntKind.i64.wrap (1 : Int) = 1 := by decide
      have x2 : IntKind.i64.wrap (at') = at' := by rw [IntKind.wrap_i64]; omega
      clear hR0 hY hx hJs hit HJ
      gi_wp2_with fail
      gi_region_with_o (refine ⟨(fun h => by cases h), hR.out.mono ?_⟩; rintro e W3 ⟨B, rfl, hB⟩)
      all_goals
        cases B with
        | true =>
          rcases hB with ⟨_, hJ3, hk3⟩ | ⟨h, _⟩
          · have h3 : Hid (Boxed W3 Ba 3 (.int .i64 at') ∧ Boxed W3 Bp 22 (.slice (some ⟨b, o, none⟩) 256 c)) := ⟨hk3 _ _ (.inl rfl) HB.out.1 rfl, hk3 _ _ (.inr rfl) HB.out.2 rfl⟩
            have HJ3 := hide hJ3
            clear hJ3 hk3 hR hy' cb cp HB
            gi_wp2
            go_roundw
            case rel => exact ⟨pre ++ [0], 1, by go_num, by rw [List.length_append, ← hk.out]; rfl, by omega, h3, HJ3.out⟩
            case measure => simp [intOf]
          · cases h
        | false =>
          rcases hB with ⟨h, _⟩ | ⟨_, hJx3⟩
          · cases h
          · clear hR hy' cb cp HB
            gi_wp2
            refine bodyPost_ret (results_none rfl _ _ _) rfl ?_
            exact ⟨⟨_, rfl⟩, .inr ⟨_, hJx3⟩⟩
    · have hx : RP pre 1 wr.drew := ⟨hk.out, by decide⟩
      obtain ⟨fn, tmps, assign, body, hy', hR0⟩ := hY pre 1 wr.drew HJ.out hx
      rw [show encPG at' b o c 1 = #[.int .i64 (at' + 1), .slice (some ⟨b, o + 64, none⟩) 64 (c - 64)] from by simp [encPG]] at hy'
      have hR : Hid (RoundIn Fence.wide (n - 1) Try.prog l fn tmps assign body wr.drew fun e V' => ∃ B : Bool, e = .returned (.bool B) ∧ (B = true ∧ J (pre ++ [1]) V' ∧ KpP Ba Bp wr.drew V' ∨ B = false ∧ Jx (pre ++ [1]) V')) := hR0.mono (by rintro e V' (⟨rfl, h⟩ | ⟨rfl, h⟩); exact ⟨true, rfl, .inl ⟨rfl, h⟩⟩; exact ⟨false, rfl, .inr ⟨rfl, h⟩⟩)
      have hqh : (128 : Int) ≤ (c : Int) := by omega
      have hn0 : ¬ c = 64 := by omega
      have x0 : IntKind.i64.wrap (64 : Int) = 64 := by decide
      have x1 : IntKind.i64.wrap (128 : Int) = 128 := by decide
      have x3 : IntKind.i64.wrap (2 : Int) = 2 := by decide
      have x2 : IntKind.i64.wrap (at' + 1) = at' + 1 := by rw [IntKind.wrap_i64]; omega
      clear hR0 hY hx hJs hit HJ
      gi_wp2_with fail
      gi_region_with_o (refine ⟨(fun h => by cases h), hR.out.mono ?_⟩; rintro e W3 ⟨B, rfl, hB⟩)
      all_goals
        cases B with
        | true =>
          rcases hB with ⟨_, hJ3, hk3⟩ | ⟨h, _⟩
          · have h3 : Hid (Boxed W3 Ba 3 (.int .i64 at') ∧ Boxed W3 Bp 22 (.slice (some ⟨b, o, none⟩) 256 c)) := ⟨hk3 _ _ (.inl rfl) HB.out.1 rfl, hk3 _ _ (.inr rfl) HB.out.2 rfl⟩
            have HJ3 := hide hJ3
            clear hJ3 hk3 hR hy' cb cp HB
            gi_wp2
            go_roundw
            case rel => exact ⟨pre ++ [1], 2, by go_num, by rw [List.length_append, ← hk.out]; rfl, by omega, h3, HJ3.out⟩
            case measure => simp [intOf]
          · cases h
        | false =>
          rcases hB with ⟨h, _⟩ | ⟨_, hJx3⟩
          · cases h
          · clear hR hy' cb cp HB
            gi_wp2
            refine bodyPost_ret (results_none rfl _ _ _) rfl ?_
            exact ⟨⟨_, rfl⟩, .inr ⟨_, hJx3⟩⟩
    · have hx : RP pre 2 wr.drew := ⟨hk.out, by decide⟩
      obtain ⟨fn, tmps, assign, body, hy', hR0⟩ := hY pre 2 wr.drew HJ.out hx
      rw [show encPG at' b o c 2 = #[.int .i64 (at' + 2), .slice (some ⟨b, o + 128, none⟩) 64 (c - 128)] from by simp [encPG]] at hy'
      have hR : Hid (RoundIn Fence.wide (n - 1) Try.prog l fn tmps assign body wr.drew fun e V' => ∃ B : Bool, e = .returned (.bool B) ∧ (B = true ∧ J (pre ++ [2]) V' ∧ KpP Ba Bp wr.drew V' ∨ B = false ∧ Jx (pre ++ [2]) V')) := hR0.mono (by rintro e V' (⟨rfl, h⟩ | ⟨rfl, h⟩); exact ⟨true, rfl, .inl ⟨rfl, h⟩⟩; exact ⟨false, rfl, .inr ⟨rfl, h⟩⟩)
      have hqh : (192 : Int) ≤ (c : Int) := by omega
      have hn0 : ¬ c = 128 := by omega
      have x0 : IntKind.i64.wrap (128 : Int) = 128 := by decide
      have x1 : IntKind.i64.wrap (192 : Int) = 192 := by decide
      have x3 : IntKind.i64.wrap (3 : Int) = 3 := by decide
      have x2 : IntKind.i64.wrap (at' + 2) = at' + 2 := by rw [IntKind.wrap_i64]; omega
      clear hR0 hY hx hJs hit HJ
      gi_wp2_with fail
      gi_region_with_o (refine ⟨(fun h => by cases h), hR.out.mono ?_⟩; rintro e W3 ⟨B, rfl, hB⟩)
      all_goals
        cases B with
        | true =>
          rcases hB with ⟨_, hJ3, hk3⟩ | ⟨h, _⟩
          · have h3 : Hid (Boxed W3 Ba 3 (.int .i64 at') ∧ Boxed W3 Bp 22 (.slice (some ⟨b, o, none⟩) 256 c)) := ⟨hk3 _ _ (.inl rfl) HB.out.1 rfl, hk3 _ _ (.inr rfl) HB.out.2 rfl⟩
            have HJ3 := hide hJ3
            clear hJ3 hk3 hR hy' cb cp HB
            gi_wp2
            go_roundw
            case rel => exact ⟨pre ++ [2], 3, by go_num, by rw [List.length_append, ← hk.out]; rfl, by omega, h3, HJ3.out⟩
            case measure => simp [intOf]
          · cases h
        | false =>
          rcases hB with ⟨h, _⟩ | ⟨_, hJx3⟩
          · cases h
          · clear hR hy' cb cp HB
            gi_wp2
            refine bodyPost_ret (results_none rfl _ _ _) rfl ?_
            exact ⟨⟨_, rfl⟩, .inr ⟨_, hJx3⟩⟩
    · have hx : RP pre 3 wr.drew := ⟨hk.out, by decide⟩
      obtain ⟨fn, tmps, assign, body, hy', hR0⟩ := hY pre 3 wr.drew HJ.out hx
      rw [show encPG at' b o c 3 = #[.int .i64 (at' + 3), .slice (some ⟨b, o + 192, none⟩) 64 (c - 192)] from by simp [encPG]] at hy'
      have hR : Hid (RoundIn Fence.wide (n - 1) Try.prog l fn tmps assign body wr.drew fun e V' => ∃ B : Bool, e = .returned (.bool B) ∧ (B = true ∧ J (pre ++ [3]) V' ∧ KpP Ba Bp wr.drew V' ∨ B = false ∧ Jx (pre ++ [3]) V')) := hR0.mono (by rintro e V' (⟨rfl, h⟩ | ⟨rfl, h⟩); exact ⟨true, rfl, .inl ⟨rfl, h⟩⟩; exact ⟨false, rfl, .inr ⟨rfl, h⟩⟩)
      have hqh : (256 : Int) ≤ (c : Int) := by omega
      have hn0 : ¬ c = 192 := by omega
      have x0 : IntKind.i64.wrap (192 : Int) = 192 := by decide
      have x1 : IntKind.i64.wrap (256 : Int) = 256 := by decide
      have x3 : IntKind.i64.wrap (4 : Int) = 4 := by decide
      have x2 : IntKind.i64.wrap (at' + 3) = at' + 3 := by rw [IntKind.wrap_i64]; omega
      clear hR0 hY hx hJs hit HJ
      gi_wp2_with fail
      gi_region_with_o (refine ⟨(fun h => by cases h), hR.out.mono ?_⟩; rintro e W3 ⟨B, rfl, hB⟩)
      all_goals
        cases B with
        | true =>
          rcases hB with ⟨_, hJ3, hk3⟩ | ⟨h, _⟩
          · have h3 : Hid (Boxed W3 Ba 3 (.int .i64 at') ∧ Boxed W3 Bp 22 (.slice (some ⟨b, o, none⟩) 256 c)) := ⟨hk3 _ _ (.inl rfl) HB.out.1 rfl, hk3 _ _ (.inr rfl) HB.out.2 rfl⟩
            have HJ3 := hide hJ3
            clear hJ3 hk3 hR hy' cb cp HB
            gi_wp2
            go_roundw
            case rel => exact ⟨pre ++ [3], 4, by go_num, by rw [List.length_append, ← hk.out]; rfl, by omega, h3, HJ3.out⟩
            case measure => simp [intOf]
          · cases h
        | false =>
          rcases hB with ⟨h, _⟩ | ⟨_, hJx3⟩
          · cases h
          · clear hR hy' cb cp HB
            gi_wp2
            refine bodyPost_ret (results_none rfl _ _ _) rfl ?_
            exact ⟨⟨_, rfl⟩, .inr ⟨_, hJx3⟩⟩
    -- ROUNDS END
    · have hS : SP pre wr := hk.out.symm
      have HS := hide hS
      have HJ0 := hide hJs
      clear hS hJs HJ hit HB cb cp hY
      gi_wp2
      go_end0
      exact ⟨⟨_, rfl⟩, .inl ⟨_, HS.out, HJ0.out⟩⟩

end Go.Proofs.Ytliileemelcllaa
