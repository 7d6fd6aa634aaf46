/-
  The program's renewed of disks: a state in memory of its own.
-/
import Derived.Test.YtliileemelcllaaDSec
import Derived.Test.YtliileemelcllaaStep
namespace Go.Proofs.Ytliileemelcllaa
open Go.RowKit
set_option linter.unusedVariables false

abbrev SCacheP : Shp (List Wrt) := Shp.list 79 SWr
abbrev SStP : Shp Dsk := SSec.pair SCacheP
def padW (y : Wrt) : Wrt := (y.1, pad y.2)
theorem infoW : (Try.prog.info? 79).map (fun i => (i.zero, i.size, i.bytes)) = some (some (.agg #[.int .i64 0, .slice none 0 0]), 2, 32) := by kernel_rfl
theorem info_stP : (Try.prog.info? 43).map (·.size) = some 2 := by kernel_rfl
theorem own_wrt {B : Nat} {w : World} {z : Int} {v : Value} {x : List UInt8} (h : OwnB B w v x) : Own SWr B w [.int .i64 z, v] (z, x) := by
  obtain ⟨F, h1, h2, h3⟩ := h.toOwn
  exact ⟨F, ⟨[.int .i64 z], [v], [], F, rfl, rfl, ⟨rfl, rfl⟩, h1⟩, h2, h3⟩
theorem snoc_map {α β : Type} (f : α → β) (xs : List α) {k : Nat} {x : α} (hx : xs[k]? = some x) : (xs.take k).map f ++ [f x] = (xs.take (k + 1)).map f := by
  rw [List.take_add_one, hx]; simp

theorem makeW {n : Nat} (hn : n ≤ 1000000000000) (u : World) : (Instr.makeSlice 41 (.int .i64 0) (.int .i64 (n : Int))).run Try.prog u =
      .ok (.slice (some ⟨u.heap.size, 0, none⟩) 0 n) (u.alloc (.cells (madeCells #[.int .i64 0, .slice none 0 0] (n * 2)) 79)) := by
  obtain ⟨i0, hi, hz0, hz1, hz2⟩ := info_parts infoW
  have h := run_make (P := Try.prog) u 41 79 i0 _ Try.underlying41 hi hz0 .i64 .i64 0 (n : Int) (by omega) (by omega) (by rw [hz2]; omega) (by omega)
  simpa [hz1, Value.cells] using h
theorem own_capW (w : World) (n : Nat) (h : n ≤ 1000000000000) : Own SCacheP w.heap.size (w.alloc (.cells (madeCells #[.int .i64 0, .slice none 0 0] (n * 2)) 79)) [.slice (some ⟨w.heap.size, 0, none⟩) 0 n] [] :=
  Own.cap _ _ ⟨rfl, .inr ⟨w.heap.size, n, _, rfl, Nat.le_refl _, heap_alloc_last w _, Nat.zero_le _, by unfold maxLen; omega, by simp [madeCells, SWr, Shp.pair, Shp.int, Shp.octs], by simp⟩⟩

set_option maxRecDepth 100000 in
set_option maxHeartbeats 2000000 in
theorem renewed_any (w : World) (sv cv : Value) (d : Dsk) (h1 : RdSec w sv d.1) (h2 : RdC w cv d.2) (hm1 : d.1.length ≤ 100000) (hm2 : d.2.length ≤ 100000) :
    Calls Try.prog 57 #[.agg #[sv, cv]] w fun e w' => ∃ sv' cv', e = .returned (.agg #[sv', cv']) ∧ Own SStP w.heap.size w' [sv', cv'] (d.1.map pad, d.2.map padW) ∧ Below w.heap.size w w' := by
  obtain ⟨i0, hi, hz0, hz1, hz2⟩ := info_parts infoW
  obtain ⟨a1, c1, rfl⟩ := h1.slice
  obtain ⟨a2, c2, rfl⟩ := h2.slice
  obtain ⟨W1, hW1, D0, D1, bW1, sW1⟩ := boxed2 w (.slice a1 d.1.length c1) (.slice a2 d.2.length c2) 43
  obtain ⟨W, hW⟩ : ∃ W, W = W1.alloc (.cells #[.slice none 0 0, .slice none 0 0] 43) := ⟨_, rfl⟩
  have bW2 : Below W1.heap.size W1 W := by rw [hW]; exact (Below.refl _ _).alloc (Nat.le_refl _) _
  have sW : W.heap.size = w.heap.size + 1 + 1 := by rw [hW]; simp [sW1]
  have hZ : W.heap[w.heap.size + 1]? = some (.cells #[.slice none 0 0, .slice none 0 0] 43 (0, 0)) := by rw [hW, ← sW1]; exact heap_alloc_last W1 _
  replace D0 := (bW2.cell (cell_lt D0)).trans D0
  replace D1 := (bW2.cell (cell_lt D1)).trans D1
  have bW := bW1.trans (bW2.mono bW1.size)
  replace h1 := h1.to0 bW
  replace h2 := h2.to0 bW
  have hmk : ∀ u : World, (Instr.makeSlice 41 (.int .i64 0) (.int .i64 ((d.2.length : Int) + 1))).run Try.prog u = _ := fun u => makeW (n := d.2.length + 1) (by omega) u
  have oc := own_capW W (d.2.length + 1) (by omega)
  obtain ⟨U, hU⟩ : ∃ U, U = W.alloc (.cells (madeCells #[.int .i64 0, .slice none 0 0] ((d.2.length + 1) * 2)) 79) := ⟨_, rfl⟩
  rw [← hU] at oc
  have bU : Below W.heap.size W U := by rw [hU]; exact (Below.refl _ _).alloc (Nat.le_refl _) _
  rw [hW1] at hW
  rw [hW] at hU
  have e0 := (bU.cell (cell_lt D0)).trans D0
  have e1 := (bU.cell (cell_lt D1)).trans D1
  rw [sW] at oc
  have OC := hide oc
  have HZ := hide hZ
  have BU := hide bU
  have BW := hide bW
  clear oc hZ bU bW bW1 bW2
  go_enter Try.func57, Try.ntmps57
  go_wp2
  rw [← hU]
  replace hU := hide hU
  replace hW := hide hW
  replace hW1 := hide hW1
  clear hmk e0 e1
  go_loopw [3, 14] (fun c i wr => ∃ k : Nat, k ≤ d.2.length ∧ i = .int .i64 k ∧ Own SCacheP (w.heap.size + 1 + 1) wr [c] ((d.2.take k).map padW) ∧ Below W.heap.size W wr) (fun _ i _ => d.2.length - (intOf i).toNat)
  case atStart => exact ⟨0, Nat.zero_le _, rfl, OC.out, BU.out⟩
  case round =>
    obtain ⟨k, hk, rfl, ho, hb⟩ := hrel
    clear OC BU
    by_cases hlt : k < d.2.length
    · have hq : (k : Int) < (d.2.length : Int) := by omega
      obtain ⟨y, hy, _⟩ := some_at d.2 hlt
      obtain ⟨b1, o1, u, rfl, hc1, hc2, hr⟩ := (h2.to0 hb).wrt hy
      obtain ⟨au, cu, rfl⟩ := hr.slice
      obtain ⟨V, hV, V0, V1, bV, sV⟩ := boxed2 wr (.int .i64 y.1) (.slice au y.2.length cu) 79
      have hrV : Rd V.drew _ _ := hr.to bV.drew
      obtain ⟨F, hF, hFB⟩ := ho.foot
      have hxl : ((d.2.take k).map padW).length = k := by simp; omega
      obtain ⟨cc, rowT, fin⟩ := OwnF.lit (hF.to bV) hxl
      have hbV := hb.trans (bV.mono hb.size)
      have hsn := snoc_map padW d.2 hy
      have FIN : Hid (∀ (w2 : World) (av : Option Addr) (cv2 : Nat) (w5 : World) (g cap : Nat), Below V.heap.size V.drew w2 → OwnB V.heap.size w2 (.slice av 64 cv2) (pad y.2) → (w2.alloc (.cells #[.int .i64 y.1, .slice av 64 cv2] 79)).grownBy w5 u3.ownBlock →
          w5.ownsRow 0 79 2 (.slice (some ⟨g, 0, none⟩) (k + 1) cap) (k + 1) (cc ++ [.int .i64 y.1, .slice av 64 cv2]) → (u3.ownBlock = some g ∨ g = w2.heap.size + 1) →
          Own SCacheP (w.heap.size + 1 + 1) w5 [.slice (some ⟨g, 0, none⟩) (k + 1) cap] ((d.2.take (k + 1)).map padW) ∧ Below W.heap.size W w5) := fun w2 av cv2 w5 g cap k1 k2 k3 k4 k5 => by
        obtain ⟨⟨F', q1, q2⟩, q3, _⟩ := fin w2 [.int .i64 y.1, .slice av 64 cv2] (padW y) 79 _ w5 g cap ((Below.refl _ _).drew.trans k1) (own_wrt k2) rfl rfl rfl rfl k3 k4 k5
        rw [hsn] at q1
        have hWV : W.heap.size ≤ V.heap.size := hbV.size
        exact ⟨q1.own fun b hb' => (q2 b hb').elim (hFB b) (fun h => by omega), hbV.trans (q3 W.heap.size (fun b hb' => by have := hFB b hb'; omega) hWV)⟩
      have ROW : Hid (∀ u, Below V.heap.size V.drew u → ∀ o : Obj, (u.alloc o).ownsRow 0 79 2 u3 k cc) := fun u hu o => rowT _ (((Below.refl _ _).drew.trans hu).alloc hu.size o)
      have KS := hide (sectorOf_any V.drew _ y.2 hrV)
      have h63 : k + 1 ≤ maxLen := by rw [show maxLen = 9223372036854775807 from rfl]; omega
      have hby : (k + 1) * 32 ≤ 140737488355328 := by omega
      clear fin rowT hrV hsn hxl hF hFB ho hr hbV bV hb hy
      obtain ⟨z, hz⟩ : ∃ z, z = y.1 := ⟨_, rfl⟩
      obtain ⟨L, hL⟩ : ∃ L, L = y.2.length := ⟨_, rfl⟩
      obtain ⟨P, hP⟩ : ∃ P, P = pad y.2 := ⟨_, rfl⟩
      have hPL : P.length = 64 := by rw [hP]; exact pad_len _
      rw [← hz] at hc1 hV V0 FIN
      rw [← hP] at KS FIN
      rw [← hL] at hc2 hV V1 KS
      replace hz := hide hz
      replace hL := hide hL
      replace hP := hide hP
      replace hPL := hide hPL
      go_wp2
      rw [← hV]
      replace hV := hide hV
      go_region_law (first
        | (refine step_call (by rfl) 62 _ _ (by rfl) #[.slice au L cu] (by simp [Act.eval]) (Try.call62 _ _) KS.out ?_; rintro e w2 ⟨v2, rfl, o2, b2⟩; obtain ⟨av, cv2, hv2⟩ := o2.rd.slice; rw [hPL.out] at hv2; subst hv2; refine ⟨_, rfl, ?_⟩; have y0 := (b2.cell (p := ⟨wr.heap.size, 0, none⟩) (cell_lt V0)).trans V0)
        | (refine step_append_lies _ (by rfl) _ _ _ (by rfl) 0 79 i0 _ 2 32 Try.underlying41 hi hz0 hz1 hz2 rfl (by omega) u3 k cc (by rfl) (ROW.out w2 b2 _) ⟨w2.heap.size, 0, none⟩ 1 1 [.int .i64 z, .slice av 64 cv2] (by rfl) (by rfl) (World.news_of_block (heap_alloc_last w2 _)) (by simp [Value.oneCell']) (by omega) h63 hby (Nat.zero_le _) (w2.heap.size + 1) (by simp) ?_; intro g cap w5 ho5 hg5 hat5 hlt5))
      all_goals
        have HF := hide (FIN.out w2 av cv2 w5 g cap b2 o2 hg5 ho5 hat5)
        clear ho5 hg5 hat5 FIN ROW KS o2 b2
        go_wp2
        go_roundw
        case rel => exact ⟨k + 1, by omega, by go_num, HF.out⟩
        case measure => simp [intOf]; omega
    · obtain rfl : k = d.2.length := by omega
      rw [List.take_of_length_le (Nat.le_refl _)] at ho
      replace h1 := h1.to0 hb
      have E0 := (hb.cell (cell_lt D0)).trans D0
      have Z1 := (hb.block (w.heap.size + 1) (by omega)).trans HZ.out
      have cc := BW.out.trans (hb.mono BW.out.size)
      have hs1 : w.heap.size + 1 + 1 ≤ wr.heap.size := by have := hb.size; omega
      clear D0 D1 h2 hb HZ BW hi hz0 hz1 hz2
      go_wp2_with fail
      refine (sectorsOf_any _ _ d.1 h1 (by omega)).mono ?_
      rintro e w1 ⟨v1, rfl, o1, b1⟩
      have oo := (ho.pair' b1 o1 (Nat.le_refl _) hs1)
      have Z2 := (b1.block (w.heap.size + 1) (by omega)).trans Z1
      have c1 := cc.trans (b1.mono cc.size)
      have f0 : w1.frozen? ⟨w.heap.size + 1, 0, none⟩ = false := frozen_of_row _ _ 0 _ _ Z2
      have f1 : w1.frozen? ⟨w.heap.size + 1, 1, none⟩ = false := frozen_of_row _ _ 1 _ _ Z2
      have g0 : w1.cell? ⟨w.heap.size + 1, 0, none⟩ = some (.slice none 0 0) := by rw [cell_of_row _ _ 0 _ _ (0, 0) Z2]; rfl
      have g1 : w1.cell? ⟨w.heap.size + 1, 1, none⟩ = some (.slice none 0 0) := by rw [cell_of_row _ _ 1 _ _ (0, 0) Z2]; rfl
      obtain ⟨av, ca, hv1⟩ := o1.rdS.slice
      obtain ⟨ac, cc', hv2⟩ := ho.rdS.slice
      rw [List.length_map] at hv1 hv2
      subst hv1 hv2
      have OO := hide oo
      have ZZ := hide Z2
      have CC := hide c1
      clear oo Z2 c1 o1 b1 ho h1 E0 Z1 cc
      go_wp2
      refine ret_cell rfl rfl (w.heap.size + 1) rfl _ _ _ _ (heap_set2 ZZ.out _ _) _ Try.underlying43 rfl info_stP ?_
      exact ⟨_, _, rfl, ((OO.out.set (a := ⟨w.heap.size + 1, 0, none⟩) (by simp) _).set (a := ⟨w.heap.size + 1, 1, none⟩) (by simp) _).mono (show w.heap.size ≤ w.heap.size + 1 + 1 by omega), below_set2 CC.out (show w.heap.size ≤ w.heap.size + 1 by omega) _ _⟩

end Go.Proofs.Ytliileemelcllaa
