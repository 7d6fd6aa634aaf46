/-
  The program's sectorOf and sectorsOf of disks.
-/
import Derived.Test.YtliileemelcllaaDMath
namespace Go.Proofs.Ytliileemelcllaa
open Go.RowKit
set_option linter.unusedVariables false

abbrev SSec : Shp (List (List UInt8)) := Shp.list 22 Shp.octs

theorem make_64 (u : World) : (Instr.makeSlice 22 (.int .i64 64) (.int .i64 64)).run Try.prog u =
      .ok (.slice (some ⟨u.heap.size, 0, none⟩) 64 64) (u.alloc (.cells (madeCells #[.int .u8 0] 64) 5)) := make_octs (n := 64) (by omega) u

set_option maxRecDepth 100000 in
set_option maxHeartbeats 400000 in
theorem sectorOf_any (w : World) (v : Value) (x : List UInt8) (h : Rd w v x) :
    Calls Try.prog 62 #[v] w fun e w' => ∃ v', e = .returned v' ∧ OwnB w.heap.size w' v' (pad x) ∧ Below w.heap.size w w' := by
  have hmk := make_64
  have om := own_made w 64 (by unfold maxLen; omega)
  obtain ⟨w1, hw1⟩ : ∃ w1, w1 = w.alloc (.cells (madeCells #[.int .u8 0] 64) 5) := ⟨_, rfl⟩
  rw [← hw1] at om
  have b1 : Below w.heap.size w w1 := by rw [hw1]; exact (Below.refl _ _).alloc (Nat.le_refl _) _
  obtain ⟨w2, hrun, o2, b2, _⟩ := run_copy_octs 3 om (h.to b1)
  rw [List.length_replicate, hw1] at hrun
  replace hw1 := hide hw1
  have B2 := hide (b1.trans b2)
  have O2 := hide o2
  obtain ⟨a, c, rfl⟩ := h.slice
  clear b1 b2 o2 om h
  go_enter Try.func62, Try.ntmps62
  go_wp2
  go_ret
  exact ⟨_, rfl, O2.out, B2.out⟩

theorem infoB : (Try.prog.info? 22).map (fun i => (i.zero, i.size, i.bytes)) = some (some (.slice none 0 0), 1, 24) := by kernel_rfl
/-- make([][]byte, n) -/
theorem make_lists {n : Nat} (hn : n ≤ 10000000000000) (u : World) : (Instr.makeSlice 37 (.int .i64 (n : Int)) (.int .i64 (n : Int))).run Try.prog u =
      .ok (.slice (some ⟨u.heap.size, 0, none⟩) n n) (u.alloc (.cells (madeCells #[.slice none 0 0] n) 22)) := by
  obtain ⟨i0, hi, hz0, hz1, hz2⟩ := info_parts infoB
  have h := run_make (P := Try.prog) u 37 22 i0 (.slice none 0 0) Try.underlying37 hi hz0 .i64 .i64 (n : Int) (n : Int) (by omega) (Int.le_refl _) (by rw [hz2]; omega) (by omega)
  simpa [hz1, Value.cells] using h
theorem own_lists (w : World) (n : Nat) (h : n ≤ 10000000000000) : Own SSec w.heap.size (w.alloc (.cells (madeCells #[.slice none 0 0] n) 22)) [.slice (some ⟨w.heap.size, 0, none⟩) n n] (List.replicate n []) := by
  refine Own.made octs_nil ?_
  have := World.ownsRow_lit (base := w.heap.size) (e := 22) (size := 1) w (madeCells #[.slice none 0 0] n) n (Nat.le_refl _) (by unfold maxLen; omega) (by simp [madeCells])
  rw [toList_madeCells_one] at this
  exact this

theorem map_part {α β : Type} (f : α → β) (z : β) (xs : List α) {k : Nat} {x : α} (hx : xs[k]? = some x) : ((xs.take k).map f ++ List.replicate (xs.length - k) z).set k (f x) = (xs.take (k + 1)).map f ++ List.replicate (xs.length - (k + 1)) z := by
  have hk : k < xs.length := (List.getElem?_eq_some_iff.1 hx).1
  rw [show xs.length - k = (xs.length - (k + 1)) + 1 from by omega, List.replicate_succ]
  rw [List.set_append_right _ _ (by simp; omega)]
  have e : k - ((xs.take k).map f).length = 0 := by simp; omega
  rw [e, List.set_cons_zero, List.take_add_one, hx]
  simp

/-- one sector where it lies -/
theorem OwnF.sector {F : List Nat} {w : World} {sv : Value} {ss : List (List UInt8)} (h : OwnF SSec F w [sv] ss) {k : Nat} {x : List UInt8} (hx : ss[k]? = some x) :
    ∃ g cap u, sv = .slice (some ⟨g, 0, none⟩) ss.length cap ∧ ss.length ≤ cap ∧ w.cell? ⟨g, k, none⟩ = some u ∧ OwnB 0 w u x ∧ g ∈ F ∧ (∀ b, u.ownBlock = some b → b ∈ F ∧ b ≠ g) ∧
      ∀ w' x', OwnB 0 w' u x' → (∀ b, b ∈ F → some b ≠ u.ownBlock → w'.heap[b]? = w.heap[b]?) → OwnF SSec F w' [sv] (ss.set k x') := by
  obtain ⟨g, cap, F2, c, hv, hcap, _, hgF, ⟨u, rfl, ho, rfl⟩, hF2, hc, fin⟩ := OwnF.at h hx
  refine ⟨g, cap, u, hv, hcap, ?_, ho, hgF, fun b hb => hF2 b (by simp [hb]), fun w' x' ho' hk => fin w' x' ⟨u, rfl, ho', rfl⟩ fun b hb hn => hk b hb fun e => hn (by simp [← e])⟩
  have := hc 0 u rfl
  simpa [Shp.octs] using this

set_option maxRecDepth 100000 in
set_option maxHeartbeats 1000000 in
theorem sectorsOf_any (w : World) (v : Value) (ss : List (List UInt8)) (h : RdSec w v ss) (hm : ss.length ≤ 10000000000000) :
    Calls Try.prog 49 #[v] w fun e w' => ∃ v', e = .returned v' ∧ Own SSec w.heap.size w' [v'] (ss.map pad) ∧ Below w.heap.size w w' := by
  have hmk := fun u => make_lists hm u
  obtain ⟨a, c, rfl⟩ := h.slice
  have ol := own_lists w ss.length hm
  have hb0 : Below w.heap.size w (w.alloc (.cells (madeCells #[.slice none 0 0] ss.length) 22)) := (Below.refl _ _).alloc (Nat.le_refl _) _
  have OL := hide ol
  have HB0 := hide hb0
  clear ol hb0
  go_enter Try.func49, Try.ntmps49
  go_wp2
  go_loopw [10] (fun i wr => ∃ k : Nat, k ≤ ss.length ∧ i = .int .i64 k ∧ Own SSec w.heap.size wr [.slice (some ⟨w.heap.size, 0, none⟩) ss.length ss.length] ((ss.take k).map pad ++ List.replicate (ss.length - k) []) ∧ Below w.heap.size w wr)
    (fun i _ => ss.length - (intOf i).toNat)
  case atStart => exact ⟨0, Nat.zero_le _, rfl, by simpa using OL.out, HB0.out⟩
  case round =>
    obtain ⟨k, hk, rfl, ho, hb⟩ := hrel
    clear OL HB0
    by_cases hlt : k < ss.length
    · have hq : (k : Int) < (ss.length : Int) := by omega
      obtain ⟨x, hx, _⟩ := some_at ss hlt
      obtain ⟨b1, o1, u, rfl, hc, hr⟩ := (h.to0 hb).oct hx
      obtain ⟨g, cap, e, hcap, hBg, hgl, hfz, ⟨u0, hc0⟩, fin⟩ := ho.store rfl hb.size (i := k) (by simp; omega)
      have hlen : ((ss.take k).map pad ++ List.replicate (ss.length - k) []).length = ss.length := by simp; omega
      rw [hlen] at e
      cases e
      have em := map_part pad [] ss hx
      have HX := hide hx
      have HB := hide hb
      clear ho hb hx
      go_wp2_with fail
      refine (sectorOf_any _ _ x hr).mono ?_
      rintro e w1 ⟨v1, rfl, o1', b1'⟩
      have f2 := fin w1 v1 (pad x) b1' o1'.toOwn
      rw [em] at f2
      have F2 := hide f2
      have hc1 := (b1'.cell (cell_lt hc0)).trans hc0
      have hf1 := (b1'.frozen (p := ⟨w.heap.size, k, none⟩) (by exact hgl)).trans hfz
      have HB1 := hide ((HB.out.trans (b1'.mono HB.out.size)).setCell (p := ⟨w.heap.size, k, none⟩) (Nat.le_refl _) v1)
      obtain ⟨a1, c1, hv1⟩ := o1'.rd.slice
      clear f2 fin o1' b1' hc hc0 hfz em hr
      subst hv1
      go_wp2
      go_roundw
      case rel => exact ⟨k + 1, by omega, by go_num, F2.out, HB1.out⟩
      case measure => simp [intOf]; omega
    · obtain rfl : k = ss.length := by omega
      go_wp2
      go_ret
      refine ⟨_, rfl, ?_, hb⟩
      simpa using ho

end Go.Proofs.Ytliileemelcllaa
