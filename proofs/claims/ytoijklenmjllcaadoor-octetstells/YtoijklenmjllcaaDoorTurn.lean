/-
  What the calls themselves make: slices of octets of one's own ('OwnB'); the contract of octets.Turn.
-/
import Derived.Test.YtoijklenmjllcaaDoorApart
namespace Go.Proofs.YtoijklenmjllcaaDoor
open Go.RowKit
set_option linter.unusedVariables false

/-- an octet as a value -/
def enc (x : UInt8) : Value := .int .u8 x.toNat
/-- v is a slice of the octets xs that lies in memory from block B on, at the head of a block that may be written -/
def OwnB (B : Nat) (w : World) (v : Value) (xs : List UInt8) : Prop := w.ownsRow B 5 1 v xs.length (xs.map enc)

theorem OwnB.rd {B : Nat} {w : World} {v : Value} {xs : List UInt8} (h : OwnB B w v xs) : Rd w v xs := by
  rcases h with ⟨_, ⟨rfl, h0⟩ | ⟨g, cap, cur, rfl, hb, hg, hn, hm, hs, ht⟩⟩
  · have : xs = [] := List.eq_nil_of_length_eq_zero h0
    subst this
    exact ⟨none, 0, rfl, Nat.le_refl _, Nat.zero_le _, fun _ => rfl, .inl rfl⟩
  · refine ⟨_, cap, rfl, hn, hm, (fun h => by cases h), .inr ⟨g, 0, rfl, fun i hi => ?_⟩⟩
    rw [cell_of_row w g (0 + i) cur _ (0, 0) hg]
    have e : cur[0 + i]? = (cur.toList.take (xs.length * 1))[i]? := by
      rw [List.getElem?_take, if_pos (by omega)]; simp
    rw [e, ht]
    simp [enc, bt, hi]

theorem OwnB.below {B : Nat} {w w' : World} {v : Value} {xs : List UInt8} (h : OwnB B w v xs) {C : Nat} (hC : w.heap.size ≤ C) (hb : Below C w w') : OwnB B w' v xs := by
  rcases h with ⟨h1, h2 | ⟨g, cap, cur, hv, hB, hg, hr⟩⟩
  · exact ⟨h1, .inl h2⟩
  · refine ⟨h1, .inr ⟨g, cap, cur, hv, hB, ?_, hr⟩⟩
    rw [hb.block g (by have := lt_of_block hg; omega)]; exact hg

theorem OwnB.mono {B C : Nat} {w : World} {v : Value} {xs : List UInt8} (h : OwnB B w v xs) (hC : C ≤ B) : OwnB C w v xs := by
  rcases h with ⟨h1, h2 | ⟨g, cap, cur, hv, hB, hr⟩⟩
  · exact ⟨h1, .inl h2⟩
  · exact ⟨h1, .inr ⟨g, cap, cur, hv, by omega, hr⟩⟩

theorem info8 : (Tryd.prog.info? 5).map (fun i => (i.zero, i.size, i.bytes)) = some (some (.int .u8 0), 1, 1) := by kernel_rfl

/-- make([]byte, n) -/
theorem make_octs {n : Nat} (hn : n ≤ 281474976710656) (u : World) : (Instr.makeSlice 23 (.int .i64 (n : Int)) (.int .i64 (n : Int))).run Tryd.prog u =
      .ok (.slice (some ⟨u.heap.size, 0, none⟩) n n) (u.alloc (.cells (madeCells #[.int .u8 0] n) 5)) := by
  obtain ⟨i0, hi, hz0, hz1, hz2⟩ := info_parts info8
  have h := run_make (P := Tryd.prog) u 23 5 i0 (.int .u8 0) Tryd.underlying23 hi hz0 .i64 .i64 (n : Int) (n : Int) (by omega) (Int.le_refl _) (by rw [hz2]; omega) (by omega)
  simpa [hz1, Value.cells] using h

theorem own_made (w : World) (n : Nat) (h : n ≤ maxLen) : OwnB w.heap.size (w.alloc (.cells (madeCells #[.int .u8 0] n) 5)) (.slice (some ⟨w.heap.size, 0, none⟩) n n) (List.replicate n 0) := by
  have := World.ownsRow_lit (base := w.heap.size) (e := 5) (size := 1) w (madeCells #[.int .u8 0] n) n (Nat.le_refl _) h (by simp [madeCells])
  rw [toList_madeCells_one] at this
  unfold OwnB
  rw [List.length_replicate, List.map_replicate]
  exact this

/-- behind k rounds -/
def tnTo (xs : List UInt8) (k : Nat) : List UInt8 := List.replicate (xs.length - k) 0 ++ ((xs.take k).map rv).reverse
theorem tnTo_length (xs : List UInt8) (k : Nat) (h : k ≤ xs.length) : (tnTo xs k).length = xs.length := by
  simp [tnTo]; omega
theorem tnTo_zero (xs : List UInt8) : (tnTo xs 0).map enc = List.replicate xs.length (.int .u8 0) := by
  simp [tnTo, enc]
theorem tnTo_all (xs : List UInt8) : tnTo xs xs.length = tn xs := by simp [tnTo, tn]
theorem tnTo_succ (xs : List UInt8) (k : Nat) (h : k < xs.length) : ((tnTo xs k).map enc).set (xs.length - 1 - k) (.int .u8 (Lib.rev8 (bt xs k))) = (tnTo xs (k + 1)).map enc := by
  have e1 : (Value.int .u8 (Lib.rev8 (bt xs k))) = enc (rv xs[k]) := by
    unfold enc bt; rw [rv_toNat]; simp [h]
  rw [e1, ← List.map_set]
  congr 1
  unfold tnTo
  rw [List.take_succ_eq_append_getElem h, List.map_append, List.reverse_append]
  rw [show xs.length - k = (xs.length - (k + 1)) + 1 from by omega, List.replicate_succ']
  rw [List.append_assoc, List.set_append_right _ _ (by simp; omega)]
  congr 1
  rw [List.length_replicate, show xs.length - 1 - k - (xs.length - (k + 1)) = 0 from by omega]
  rfl

set_option maxHeartbeats 400000 in
theorem turn_any (w : World) (v1 : Value) (xs : List UInt8) (h1 : Rd w v1 xs) (hm : xs.length ≤ 200000000000000) :
    Calls Tryd.prog 19 #[v1] w fun e w' => ∃ v, e = .returned v ∧ OwnB w.heap.size w' v (tn xs) ∧ Below w.heap.size w w' := by
  obtain ⟨a1, c1, rfl, l1, m1, n1, r1⟩ := h1
  unfold maxLen at m1
  obtain ⟨i0, hi, hz0, hz1, hz2⟩ := info_parts info8
  go_enter Tryd.func19, Tryd.ntmps19
  go_wp2_with (at_make; refine wpList_make_full _ rfl _ _ 23 rfl w.heap.size 5 i0 (.int .u8 0) 1 Tryd.underlying23 hi hz0 hz1 .i64 .i64 _ _ xs.length rfl rfl rfl rfl (by rw [hz2]; omega) (by unfold maxLen; omega) (Nat.le_refl _) ?_; intro w1 hown hgr)
  rw [Nat.mul_one, show (Value.int IntKind.u8 0).cells = #[Value.int IntKind.u8 0] from rfl, toList_madeCells_one, ← tnTo_zero] at hown
  have hb0 : Below w.heap.size w w1 := (Below.refl _ _).grown hgr (Nat.le_refl _) (fun k h => by cases h)
  clear hgr
  go_loopw [10] (fun i wr => ∃ k : Nat, k ≤ xs.length ∧ i = .int .i64 k ∧ wr.ownsRow w.heap.size 5 1 (.slice (some ⟨w.heap.size, 0, none⟩) xs.length xs.length) xs.length ((tnTo xs k).map enc) ∧ Below w.heap.size w wr)
    (fun i _ => xs.length - (intOf i).toNat)
  case atStart => exact ⟨0, Nat.zero_le _, rfl, hown, hb0⟩
  case round =>
    obtain ⟨k, hk, rfl, ho, hb⟩ := hrel
    clear hown hb0
    by_cases hlt : k < xs.length
    · rcases r1 with r1 | ⟨b1, o1, rfl, hc1⟩
      · rw [r1] at hlt; simp at hlt
      have g1 : wr.cell? ⟨b1, o1 + k, none⟩ = some (.int .u8 (bt xs k)) := by
        have := hc1 k hlt
        rw [hb.cell (p := ⟨b1, o1 + k, none⟩) (cell_lt this)]; exact this
      have hq : (k : Int) < (xs.length : Int) := by omega
      have hbd := bt_bd xs k
      have fz := ho.frozenAt (xs.length - 1 - k)
      obtain ⟨u, cl⟩ : ∃ u, wr.cell? ⟨w.heap.size, xs.length - 1 - k, none⟩ = some u := by
        have e := ho.cellAt (xs.length - 1 - k) (by omega)
        rw [e]
        have : xs.length - 1 - k < ((tnTo xs k).map enc).length := by simp [tnTo_length xs k hk]; omega
        exact ⟨_, List.getElem?_eq_getElem this⟩
      have HS := (ho.stored (xs.length - 1 - k) (.int .u8 (Lib.rev8 (bt xs k)))).1
      rw [tnTo_succ xs k hlt] at HS
      have HB := hb.setCell (p := ⟨w.heap.size, xs.length - 1 - k, none⟩) (Nat.le_refl _) (.int .u8 (Lib.rev8 (bt xs k)))
      have HS' := hide HS
      have HB' := hide HB
      clear HS HB ho hb hc1
      go_wp2_with (go_at_call 23; refine (rev_any _ _ (by omega) (by omega)).mono ?_; rintro e w' ⟨rfl, rfl⟩)
      go_roundw
      case rel => exact ⟨k + 1, by omega, by go_num, HS'.out, HB'.out⟩
      case measure => simp [intOf]; omega
    · go_wp2
      go_ret
      refine ⟨_, rfl, ?_, hb⟩
      rw [show k = xs.length from by omega, tnTo_all] at ho
      unfold OwnB
      rw [tn_length]
      exact ho

end Go.Proofs.YtoijklenmjllcaaDoor
