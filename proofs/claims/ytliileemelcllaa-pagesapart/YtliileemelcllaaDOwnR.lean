/-
  The page's Own of disks, and the law's CopyLists and Of: states in memory of their own.
-/
import Derived.Test.YtliileemelcllaaDRenew
import Derived.Test.YtliileemelcllaaRCop
import Derived.Test.YtliileemelcllaaRMid
import Derived.Test.YtliileemelcllaaTail
namespace Go.Proofs.Ytliileemelcllaa
open Go.RowKit
set_option linter.unusedVariables false

abbrev SCacheR : Shp (List Wrt) := Shp.list 78 SWr
abbrev SStR : Shp Dsk := SSec.pair SCacheR
theorem infoWR : (Try.prog.info? 78).map (fun i => (i.zero, i.size, i.bytes)) = some (some (.agg #[.int .i64 0, .slice none 0 0]), 2, 32) := by kernel_rfl
theorem info_stR : (Try.prog.info? 40).map (·.size) = some 2 := by kernel_rfl
theorem snoc_take {α : Type} (xs : List α) {k : Nat} {x : α} (hx : xs[k]? = some x) : xs.take k ++ [x] = xs.take (k + 1) := by
  rw [List.take_add_one, hx]; rfl
def dfit (d : Dsk) : Prop := d.1.length * 24 ≤ 140737488351232 ∧ (∀ x ∈ d.1, x.length ≤ 140737488351232) ∧ d.2.length * 32 ≤ 140737488351232 ∧ ∀ y ∈ d.2, y.2.length ≤ 140737488351232

set_option maxRecDepth 100000 in
set_option maxHeartbeats 1000000 in
theorem copyLists_any (w : World) (v : Value) (ss : List (List UInt8)) (h : RdSec w v ss) (hm : ss.length * 24 ≤ 140737488351232) (hx : ∀ x ∈ ss, x.length ≤ 140737488351232) :
    Calls Try.prog 40 #[v] w fun e w' => ∃ v', e = .returned v' ∧ Own SSec w.heap.size w' [v'] ss ∧ Below w.heap.size w w' := by
  obtain ⟨i0, hi, hz0, hz1, hz2⟩ := info_parts infoB
  obtain ⟨a, c, rfl⟩ := h.slice
  go_enter Try.func40, Try.ntmps40
  go_wp2
  go_loopw [3, 4] (fun l i wr => ∃ k : Nat, k ≤ ss.length ∧ i = .int .i64 k ∧ Own SSec w.heap.size wr [l] (ss.take k) ∧ Below w.heap.size w wr) (fun _ i _ => ss.length - (intOf i).toNat)
  case atStart => exact ⟨0, Nat.zero_le _, rfl, Own.nil _ _ _ _, Below.refl _ _⟩
  case round =>
    obtain ⟨k, hk, rfl, ho, hb⟩ := hrel
    by_cases hlt : k < ss.length
    · have hq : (k : Int) < (ss.length : Int) := by omega
      obtain ⟨x, hxk, hxm⟩ := some_at ss hlt
      obtain ⟨b1, o1, u, rfl, hc, hr⟩ := (h.to0 hb).oct hxk
      obtain ⟨F, hF, hFB⟩ := ho.foot
      obtain ⟨cc, rowT, fin⟩ := OwnF.lit hF (n := k) (by simp; omega)
      have hsn := snoc_take ss hxk
      have hxl := hx x hxm
      have hwr := hb.size
      have FIN : Hid (∀ (w2 : World) (v2 : Value) (w5 : World) (g cap : Nat), Below wr.heap.size wr w2 → OwnB wr.heap.size w2 v2 x → (w2.alloc (.cells #[v2] 22)).grownBy w5 u3.ownBlock →
          w5.ownsRow 0 22 1 (.slice (some ⟨g, 0, none⟩) (k + 1) cap) (k + 1) (cc ++ [v2]) → (u3.ownBlock = some g ∨ g = w2.heap.size + 1) →
          Own SSec w.heap.size w5 [.slice (some ⟨g, 0, none⟩) (k + 1) cap] (ss.take (k + 1)) ∧ Below w.heap.size w w5) := fun w2 v2 w5 g cap k1 k2 k3 k4 k5 => by
        obtain ⟨⟨F', q1, q2⟩, q3, _⟩ := fin w2 [v2] x 22 _ w5 g cap k1 k2.toOwn rfl rfl rfl rfl k3 k4 k5
        rw [hsn] at q1
        exact ⟨q1.own fun b hb' => (q2 b hb').elim (hFB b) (fun h => by omega), hb.trans (q3 w.heap.size hFB hwr)⟩
      have h63 : k + 1 ≤ maxLen := by rw [show maxLen = 9223372036854775807 from rfl]; omega
      have hby : (k + 1) * 24 ≤ 140737488355328 := by omega
      have ROW := hide rowT
      clear fin rowT hsn hF hFB ho hb hxk hxm
      go_wp2_with fail
      refine (copy_any _ _ x hr (by omega)).mono ?_
      rintro e w2 ⟨v2, rfl, o2, b2⟩
      obtain ⟨av, cv2, rfl⟩ := o2.rd.slice
      have O2 := hide o2
      have B2 := hide b2
      clear o2 b2 hc hr
      go_wp2_with (at_builtin; refine wpList_append_lies _ rfl _ _ 37 rfl 0 22 i0 _ 1 24 Try.underlying37 hi hz0 hz1 hz2 rfl (by decide) u3 k cc rfl (ROW.out _ (B2.out.alloc B2.out.size _)) ⟨w2.heap.size, 0, none⟩ 1 1 [.slice av x.length cv2] rfl rfl (World.news_of_block (heap_alloc_last w2 _)) (by simp [Value.oneCell']) (by decide) h63 hby (Nat.zero_le _) (w2.heap.size + 1) (by simp) ?_; intro g cap w5 ho5 hg5 hat5 hlt5; have HF := hide (FIN.out w2 _ w5 g cap B2.out O2.out hg5 ho5 hat5); clear ho5 hg5 hat5 FIN ROW O2 B2)
      go_roundw
      case rel => exact ⟨k + 1, by omega, by go_num, HF.out⟩
      case measure => simp [intOf]; omega
    · obtain rfl : k = ss.length := by omega
      rw [List.take_of_length_le (Nat.le_refl _)] at ho
      go_wp2
      go_ret
      exact ⟨_, rfl, ho, hb⟩

theorem row2_cells {w : World} {g : Nat} {x y : Value} {t : TypeId} (h : w.heap[g]? = some (.cells #[x, y] t (0, 0))) : w.cell? ⟨g, 0, none⟩ = some x ∧ w.cell? ⟨g, 1, none⟩ = some y ∧ w.frozen? ⟨g, 0, none⟩ = false ∧ w.frozen? ⟨g, 1, none⟩ = false :=
  ⟨by rw [cell_of_row _ _ 0 _ _ (0, 0) h]; rfl, by rw [cell_of_row _ _ 1 _ _ (0, 0) h]; rfl, frozen_of_row _ _ 0 _ _ h, frozen_of_row _ _ 1 _ _ h⟩
theorem cell_alloc {w : World} {b i : Nat} {v : Value} (h : w.cell? ⟨b, i, none⟩ = some v) (o : Obj) : (w.alloc o).cell? ⟨b, i, none⟩ = some v :=
  (World.cell?_of_block (a := ⟨b, i, none⟩) (Below.heap_alloc w o b (cell_lt h))).trans h
theorem cell_other {w : World} {b i g j : Nat} {v : Value} (h : w.cell? ⟨b, i, none⟩ = some v) (hne : b ≠ g) (u : Value) : (w.setCell ⟨g, j, none⟩ u).cell? ⟨b, i, none⟩ = some v :=
  (World.cell?_of_block (a := ⟨b, i, none⟩) (Below.heap_setCell w ⟨g, j, none⟩ u b hne)).trans h
theorem set_row0 {w : World} {g : Nat} {x y : Value} {t : TypeId} (h : w.heap[g]? = some (.cells #[x, y] t (0, 0))) (u : Value) : (w.setCell ⟨g, 0, none⟩ u).heap[g]? = some (.cells #[u, y] t (0, 0)) := by
  simp [World.setCell, Array.getElem?_modify, h]
theorem set_row1 {w : World} {g : Nat} {x y : Value} {t : TypeId} (h : w.heap[g]? = some (.cells #[x, y] t (0, 0))) (u : Value) : (w.setCell ⟨g, 1, none⟩ u).heap[g]? = some (.cells #[x, u] t (0, 0)) := by
  simp [World.setCell, Array.getElem?_modify, h]

/-- a state in a box at g that no block of its own is -/
def BoxSt (s : Shp Dsk) (T : Nat) (g B : Nat) (w : World) (sv cv : Value) (d : Dsk) : Prop :=
  w.heap[g]? = some (.cells #[sv, cv] T (0, 0)) ∧ ∃ F, OwnF s F w [sv, cv] d ∧ (∀ b, b ∈ F → B ≤ b) ∧ g ∉ F

set_option maxRecDepth 100000 in
set_option maxHeartbeats 2000000 in
theorem rown_any (w : World) (sv cv : Value) (d : Dsk) (h1 : RdSec w sv d.1) (h2 : RdC w cv d.2) (hf : dfit d) :
    Calls Try.prog 55 #[.agg #[sv, cv]] w fun e w' => ∃ sv' cv', e = .returned (.agg #[sv', cv']) ∧ Own SStR w.heap.size w' [sv', cv'] d ∧ Below w.heap.size w w' := by
  obtain ⟨i0, hi, hz0, hz1, hz2⟩ := info_parts infoB
  obtain ⟨j0, ji, jz0, jz1, jz2⟩ := info_parts infoWR
  obtain ⟨f1, f2, f3, f4⟩ := hf
  obtain ⟨a1, c1, rfl⟩ := h1.slice
  obtain ⟨a2, c2, rfl⟩ := h2.slice
  obtain ⟨B0, hB0⟩ : ∃ B0, B0 = w.heap.size := ⟨_, rfl⟩
  obtain ⟨W, hW⟩ : ∃ W, W = ((w.alloc (.cells #[.slice a1 d.1.length c1, .slice a2 d.2.length c2] 40)).alloc (.cells #[.slice none 0 0, .slice none 0 0] 40)).alloc (.cells #[.slice none 0 0, .slice none 0 0] 40) := ⟨_, rfl⟩
  have bW : Below w.heap.size w W := by rw [hW]; exact (((Below.refl _ _).alloc (Nat.le_refl _) _).alloc (by simp) _).alloc (by simp; omega) _
  have sW : W.heap.size = w.heap.size + 1 + 1 + 1 := by rw [hW]; simp
  have hA : W.heap[w.heap.size]? = some (.cells #[.slice a1 d.1.length c1, .slice a2 d.2.length c2] 40 (0, 0)) := by
    rw [hW, Below.heap_alloc _ _ _ (by simp; omega), Below.heap_alloc _ _ _ (by simp)]; exact heap_alloc_last w _
  have hZ : W.heap[w.heap.size + 1]? = some (.cells #[.slice none 0 0, .slice none 0 0] 40 (0, 0)) := by
    rw [hW, Below.heap_alloc _ _ _ (by simp)]; have := heap_alloc_last (w.alloc (.cells #[.slice a1 d.1.length c1, .slice a2 d.2.length c2] 40)) (.cells #[.slice none 0 0, .slice none 0 0] 40); simpa using this
  have hT : W.heap[w.heap.size + 1 + 1]? = some (.cells #[.slice none 0 0, .slice none 0 0] 40 (0, 0)) := by
    rw [hW]; have := heap_alloc_last ((w.alloc (.cells #[.slice a1 d.1.length c1, .slice a2 d.2.length c2] 40)).alloc (.cells #[.slice none 0 0, .slice none 0 0] 40)) (.cells #[.slice none 0 0, .slice none 0 0] 40); simpa using this
  have st0 : BoxSt SStR 40 (w.heap.size + 1 + 1) (w.heap.size + 1 + 1) W (.slice none 0 0) (.slice none 0 0) ([], []) :=
    ⟨hT, [], ⟨⟨[.slice none 0 0], [.slice none 0 0], [], [], rfl, rfl, ⟨_, [], [], rfl, World.ownsRow_nil _ _ _ _, ⟨rfl, rfl⟩, by simp [Value.ownBlock]⟩, ⟨_, [], [], rfl, World.ownsRow_nil _ _ _ _, ⟨rfl, rfl⟩, by simp [Value.ownBlock]⟩⟩, List.nodup_nil⟩, fun b hb => by (cases hb), by simp⟩
  have ST0 := hide st0
  have HA := hide hA
  have HZ := hide hZ
  have BW := hide bW
  clear st0 hA hZ hT bW
  go_enter Try.func55, Try.ntmps55
  go_wp2
  rw [← hW]
  replace hW := hide hW
  go_loopw [4] (fun i wr => ∃ (k : Nat) (l : Value), k ≤ d.1.length ∧ i = .int .i64 k ∧ BoxSt SStR 40 (w.heap.size + 1 + 1) (w.heap.size + 1 + 1) wr l (.slice none 0 0) (d.1.take k, []) ∧ Below (w.heap.size + 1 + 1) W wr) (fun i _ => d.1.length - (intOf i).toNat)
  case atStart => exact ⟨0, _, Nat.zero_le _, rfl, ST0.out, Below.refl _ _⟩
  case round =>
    obtain ⟨k, l, hk, rfl, ⟨hT, F, hF, hFB, hgF⟩, hb⟩ := hrel
    clear ST0
    have hA := (hb.block w.heap.size (by omega)).trans HA.out
    obtain ⟨A0, A1, _, _⟩ := row2_cells hA
    obtain ⟨T0, T1, _, _⟩ := row2_cells hT
    have hsz : w.heap.size + 1 + 1 < wr.heap.size := lt_of_block hT
    by_cases hlt : k < d.1.length
    · have hq : (k : Int) < (d.1.length : Int) := by omega
      obtain ⟨x, hxk, hxm⟩ := some_at d.1 hlt
      have cw := BW.out.trans (hb.mono (show w.heap.size ≤ w.heap.size + 1 + 1 by omega))
      obtain ⟨b1, o1, u, rfl, hc, hr⟩ := (h1.to0 cw).oct hxk
      obtain ⟨au, cu, rfl⟩ := hr.slice
      obtain ⟨cc, rowT, fin⟩ := OwnF.litFst (c0 := [.slice none 0 0]) hF (n := k) (by simp; omega)
      have hsn := snoc_take d.1 hxk
      have hxl := f2 x hxm
      have FIN : Hid (∀ (w2 : World) (v2 : Value) (w5 : World) (g cap : Nat), Below wr.heap.size wr.drew w2 → OwnB wr.heap.size w2 v2 x → (w2.alloc (.cells #[v2] 22)).grownBy w5 l.ownBlock →
          w5.ownsRow 0 22 1 (.slice (some ⟨g, 0, none⟩) (k + 1) cap) (k + 1) (cc ++ [v2]) → (l.ownBlock = some g ∨ g = w2.heap.size + 1) →
          (w5.cell? ⟨w.heap.size + 1 + 1, 0, none⟩ = some l ∧ w5.frozen? ⟨w.heap.size + 1 + 1, 0, none⟩ = false) ∧ Hid (BoxSt SStR 40 (w.heap.size + 1 + 1) (w.heap.size + 1 + 1) (w5.setCell ⟨w.heap.size + 1 + 1, 0, none⟩ (.slice (some ⟨g, 0, none⟩) (k + 1) cap)) (.slice (some ⟨g, 0, none⟩) (k + 1) cap) (.slice none 0 0) (d.1.take (k + 1), []) ∧ Below (w.heap.size + 1 + 1) W (w5.setCell ⟨w.heap.size + 1 + 1, 0, none⟩ (.slice (some ⟨g, 0, none⟩) (k + 1) cap)))) := fun w2 v2 w5 g cap k1 k2 k3 k4 k5 => by
        obtain ⟨⟨F', q1, q2⟩, q3, q4⟩ := fin w2 [v2] x 22 _ w5 g cap ((Below.refl _ _).drew.trans k1) k2.toOwn rfl rfl rfl rfl k3 k4 k5
        rw [hsn] at q1
        have hT5 := (q4 _ hsz hgF).trans hT
        obtain ⟨t0, _, t2, _⟩ := row2_cells hT5
        have hgF' : w.heap.size + 1 + 1 ∉ F' := fun hm => (q2 _ hm).elim hgF (fun h => by omega)
        refine ⟨⟨t0, t2⟩, ⟨set_row0 hT5 _, F', q1.set hgF' _, fun b hb' => (q2 b hb').elim (hFB b) (fun h => by omega), hgF'⟩, ?_⟩
        exact (hb.trans (q3 (w.heap.size + 1 + 1) hFB (by omega))).setCell (p := ⟨w.heap.size + 1 + 1, 0, none⟩) (Nat.le_refl _) _
      have ROW : Hid (∀ u, Below wr.heap.size wr.drew u → ∀ o : Obj, (u.alloc o).ownsRow 0 22 1 l k cc) := fun u hu o => rowT _ (((Below.refl _ _).drew.trans hu).alloc hu.size o)
      have KS := hide (rcopied_any wr.drew _ x (hr.to (Below.refl _ _).drew) (by omega))
      have h63 : k + 1 ≤ maxLen := by rw [show maxLen = 9223372036854775807 from rfl]; omega
      have hby : (k + 1) * 24 ≤ 140737488355328 := by omega
      clear fin rowT hsn hF hFB hr hb hxk hxm hT hA cw
      obtain ⟨ll, lc, hl⟩ : ∃ ll lc, l = .slice ll k lc := by
        rcases (ROW.out wr.drew (Below.refl _ _) (.cells #[] 0)).2 with ⟨rfl, rfl⟩ | ⟨g, cap, cur, rfl, _⟩
        · exact ⟨_, _, rfl⟩
        · exact ⟨_, _, rfl⟩
      subst hl
      generalize x.length = L at *
      go_wp2
      refine wp_region_mid (fun w' => w'.cell? ⟨w.heap.size, 0, none⟩ = some (.slice (some ⟨b1, o1, none⟩) d.1.length c1) ∧ w'.cell? ⟨b1, o1 + k, none⟩ = some (.slice au L cu) ∧ w'.cell? ⟨w.heap.size + 1 + 1, 0, none⟩ = some (.slice ll k lc)) 7 9 mixed (by kernel_rfl) (fun _ _ _ _ h => h) ⟨A0, hc, T0⟩ ?_
      dsimp only [List.take, List.drop]
      iterate 7
        refine take_one (v := ?_) (by rfl) ?_ ?_
        rotate_left
        · rintro w' ⟨s1, s2, s3⟩
          go_simp
          try with_reducible rfl
        try simp only [Act.put, List.setIfInBounds_toArray, List.set_cons_zero, List.set_cons_succ]
      refine mid_one fun K hK => ?_
      refine step_call (by rfl) 39 _ _ (by rfl) #[.slice au L cu] (by simp [Act.eval]) (Try.call39 _ _) KS.out ?_
      rintro e w2 ⟨v2, rfl, o2, b2⟩
      obtain ⟨av, cv2, hv2⟩ := o2.rd.slice
      subst hv2
      have x0 := (b2.cell (p := ⟨w.heap.size, 0, none⟩) (cell_lt A0)).trans A0
      have x1 := (b2.cell (p := ⟨b1, o1 + k, none⟩) (cell_lt hc)).trans hc
      have x3 := (b2.cell (p := ⟨w.heap.size + 1 + 1, 0, none⟩) (cell_lt T0)).trans T0
      refine ⟨_, rfl, hK _ _ ⟨x0, x1, x3⟩ ?_⟩
      clear hK K
      try simp only [Act.put, List.setIfInBounds_toArray, List.set_cons_zero, List.set_cons_succ]
      refine mid_one fun K hK => ?_
      rw [if_pos (by rfl)]
      go_simp
      refine hK _ _ ⟨cell_alloc x0 _, cell_alloc x1 _, cell_alloc x3 _⟩ ?_
      clear hK K
      show wpList _ _ _ _ _ _
      go_wp2_with (at_builtin; refine wpList_append_lies _ rfl _ _ 37 rfl 0 22 i0 _ 1 24 Try.underlying37 hi hz0 hz1 hz2 rfl (by decide) (.slice ll k lc) k cc rfl (ROW.out w2 b2 _) ⟨w2.heap.size, 0, none⟩ 1 1 [.slice av x.length cv2] rfl rfl (World.news_of_block (heap_alloc_last w2 _)) (by simp [Value.oneCell']) (by decide) h63 hby (Nat.zero_le _) (w2.heap.size + 1) (by simp) ?_; intro g cap w5 ho5 hg5 hat5 hlt5; obtain ⟨⟨y5, y6⟩, HF⟩ := FIN.out w2 _ w5 g cap b2 o2 hg5 ho5 hat5; clear ho5 hg5 hat5 FIN ROW KS o2 b2)
      go_roundw
      case rel => exact ⟨k + 1, _, by omega, by go_num, HF.out⟩
      case measure => simp [intOf]; omega
    · obtain rfl : k = d.1.length := by omega
      rw [List.take_of_length_le (Nat.le_refl _)] at hF
      have st1 : BoxSt SStR 40 (w.heap.size + 1 + 1) (w.heap.size + 1 + 1) wr l (.slice none 0 0) (d.1, []) := ⟨hT, F, hF, hFB, hgF⟩
      have ST1 := hide st1
      have HB := hide hb
      clear hT hF hFB hgF hA st1 hb hlt hk
      generalize wr = U at *
      go_wp2
      go_loopw [5] (fun i wr => ∃ (k : Nat) (c : Value), k ≤ d.2.length ∧ i = .int .i64 k ∧ BoxSt SStR 40 (w.heap.size + 1 + 1) (w.heap.size + 1 + 1) wr l c (d.1, d.2.take k) ∧ Below (w.heap.size + 1 + 1) W wr) (fun i _ => d.2.length - (intOf i).toNat)
      case atStart => exact ⟨0, _, Nat.zero_le _, rfl, ST1.out, HB.out⟩
      case round =>
        obtain ⟨k, c, hk, rfl, ⟨hT, F, hF, hFB, hgF⟩, hb⟩ := hrel
        clear ST1 HB A0 A1 T0 T1 hsz
        have hA := (hb.block w.heap.size (by omega)).trans HA.out
        obtain ⟨A0, A1, _, _⟩ := row2_cells hA
        obtain ⟨T0, T1, _, _⟩ := row2_cells hT
        have hsz : w.heap.size + 1 + 1 < wr.heap.size := lt_of_block hT
        have cw := BW.out.trans (hb.mono (show w.heap.size ≤ w.heap.size + 1 + 1 by omega))
        by_cases hlt : k < d.2.length
        · have hq : (k : Int) < (d.2.length : Int) := by omega
          obtain ⟨y, hyk, hym⟩ := some_at d.2 hlt
          obtain ⟨b1, o1, u, rfl, hc1, hc2, hr⟩ := (h2.to0 cw).wrt hyk
          obtain ⟨_, _, _, e', hcw, _, _⟩ := h2.wrt hyk
          cases e'
          obtain ⟨au, cu, rfl⟩ := hr.slice
          obtain ⟨cc, rowT, fin⟩ := OwnF.litSnd (c0 := [l]) hF rfl (n := k) (by simp; omega)
          have hsn := snoc_take d.2 hyk
          have hxl := f4 y hym
          obtain ⟨z, x⟩ := y
          dsimp only at hc1 hc2 hr hxl
          have FIN : Hid (∀ (w2 : World) (v2 : Value) (w5 : World) (g cap : Nat), Below wr.heap.size wr.drew w2 → OwnB wr.heap.size w2 v2 x → (w2.alloc (.cells #[.int .i64 z, v2] 78)).grownBy w5 c.ownBlock →
              w5.ownsRow 0 78 2 (.slice (some ⟨g, 0, none⟩) (k + 1) cap) (k + 1) (cc ++ [.int .i64 z, v2]) → (c.ownBlock = some g ∨ g = w2.heap.size + 1) →
              (w5.cell? ⟨w.heap.size + 1 + 1, 1, none⟩ = some c ∧ w5.frozen? ⟨w.heap.size + 1 + 1, 1, none⟩ = false ∧ Below (w.heap.size + 1 + 1) wr w5) ∧ Hid (BoxSt SStR 40 (w.heap.size + 1 + 1) (w.heap.size + 1 + 1) (w5.setCell ⟨w.heap.size + 1 + 1, 1, none⟩ (.slice (some ⟨g, 0, none⟩) (k + 1) cap)) l (.slice (some ⟨g, 0, none⟩) (k + 1) cap) (d.1, d.2.take (k + 1)) ∧ Below (w.heap.size + 1 + 1) W (w5.setCell ⟨w.heap.size + 1 + 1, 1, none⟩ (.slice (some ⟨g, 0, none⟩) (k + 1) cap)))) := fun w2 v2 w5 g cap k1 k2 k3 k4 k5 => by
            obtain ⟨⟨F', q1, q2⟩, q3, q4⟩ := fin w2 [.int .i64 z, v2] (z, x) 78 _ w5 g cap ((Below.refl _ _).drew.trans k1) (own_wrt k2) rfl rfl rfl rfl k3 k4 k5
            rw [hsn] at q1
            have hT5 := (q4 _ hsz hgF).trans hT
            obtain ⟨_, t0, _, t2⟩ := row2_cells hT5
            have hgF' : w.heap.size + 1 + 1 ∉ F' := fun hm => (q2 _ hm).elim hgF (fun h => by omega)
            refine ⟨⟨t0, t2, q3 (w.heap.size + 1 + 1) hFB (by omega)⟩, ⟨set_row1 hT5 _, F', q1.set hgF' _, fun b hb' => (q2 b hb').elim (hFB b) (fun h => by omega), hgF'⟩, ?_⟩
            exact (hb.trans (q3 (w.heap.size + 1 + 1) hFB (by omega))).setCell (p := ⟨w.heap.size + 1 + 1, 1, none⟩) (Nat.le_refl _) _
          have ROW : Hid (∀ u, Below wr.heap.size wr.drew u → ∀ o : Obj, (u.alloc o).ownsRow 0 78 2 c k cc) := fun u hu o => rowT _ (((Below.refl _ _).drew.trans hu).alloc hu.size o)
          have KS := hide (rcopied_any wr.drew _ x (hr.to (Below.refl _ _).drew) (by omega))
          have h63 : k + 1 ≤ maxLen := by rw [show maxLen = 9223372036854775807 from rfl]; omega
          have hby : (k + 1) * 32 ≤ 140737488355328 := by omega
          clear fin rowT hsn hF hFB hr hb hyk hym hT hA cw
          obtain ⟨ll, lc, hl⟩ : ∃ ll lc, c = .slice ll k lc := by
            rcases (ROW.out wr.drew (Below.refl _ _) (.cells #[] 0)).2 with ⟨rfl, rfl⟩ | ⟨g, cap, cur, rfl, _⟩
            · exact ⟨_, _, rfl⟩
            · exact ⟨_, _, rfl⟩
          subst hl
          have hbl : b1 < w.heap.size := cell_lt hcw
          generalize x.length = L at *
          go_wp2
          refine wp_region_mid (fun w' => w'.cell? ⟨w.heap.size, 1, none⟩ = some (.slice (some ⟨b1, o1, none⟩) d.2.length c2) ∧ w'.cell? ⟨b1, o1 + k * 2, none⟩ = some (.int .i64 z) ∧ w'.cell? ⟨b1, o1 + k * 2 + 1, none⟩ = some (.slice au L cu) ∧ w'.cell? ⟨w.heap.size + 1 + 1, 1, none⟩ = some (.slice ll k lc)) 14 17 mixed (by kernel_rfl) (fun _ _ _ _ h => h) ⟨A1, hc1, hc2, T1⟩ ?_
          dsimp only [List.take, List.drop]
          iterate 14
            refine take_one (v := ?_) (by rfl) ?_ ?_
            rotate_left
            · rintro w' ⟨s1, s2, s3, s4⟩
              go_simp
              try with_reducible rfl
            try simp only [Act.put, List.setIfInBounds_toArray, List.set_cons_zero, List.set_cons_succ]
          refine mid_one fun K hK => ?_
          refine step_call (by rfl) 39 _ _ (by rfl) #[.slice au L cu] (by simp [Act.eval]) (Try.call39 _ _) KS.out ?_
          rintro e w2 ⟨v2, rfl, o2, b2⟩
          obtain ⟨av, cv2, hv2⟩ := o2.rd.slice
          subst hv2
          have x0 := (b2.cell (p := ⟨w.heap.size, 1, none⟩) (cell_lt A1)).trans A1
          have x1 := (b2.cell (p := ⟨b1, o1 + k * 2, none⟩) (cell_lt hc1)).trans hc1
          have x2 := (b2.cell (p := ⟨b1, o1 + k * 2 + 1, none⟩) (cell_lt hc2)).trans hc2
          have x3 := (b2.cell (p := ⟨w.heap.size + 1 + 1, 1, none⟩) (cell_lt T1)).trans T1
          refine ⟨_, rfl, hK _ _ ⟨x0, x1, x2, x3⟩ ?_⟩
          clear hK K
          try simp only [Act.put, List.setIfInBounds_toArray, List.set_cons_zero, List.set_cons_succ]
          refine mid_one fun K hK => ?_
          rw [if_pos (by rfl)]
          go_simp
          refine hK _ _ ⟨x0, x1, x2, x3⟩ ?_
          clear hK K
          refine mid_one fun K hK => ?_
          rw [if_pos (by rfl)]
          go_simp
          refine hK _ _ ⟨cell_alloc x0 _, cell_alloc x1 _, cell_alloc x2 _, cell_alloc x3 _⟩ ?_
          clear hK K
          show wpList _ _ _ _ _ _
          go_wp2_with (at_builtin; refine wpList_append_lies _ rfl _ _ 38 rfl 0 78 j0 _ 2 32 Try.underlying38 ji jz0 jz1 jz2 rfl (by decide) (.slice ll k lc) k cc rfl (ROW.out w2 b2 _) ⟨w2.heap.size, 0, none⟩ 1 1 [.int .i64 z, .slice av x.length cv2] rfl rfl (World.news_of_block (heap_alloc_last w2 _)) (by simp [Value.oneCell']) (by decide) h63 hby (Nat.zero_le _) (w2.heap.size + 1) (by simp) ?_; intro g cap w5 ho5 hg5 hat5 hlt5; obtain ⟨⟨y5, y6, _⟩, HF⟩ := FIN.out w2 _ w5 g cap b2 o2 hg5 ho5 hat5; clear ho5 hg5 hat5 FIN ROW KS o2 b2)
          go_roundw
          case rel => exact ⟨k + 1, _, by omega, by go_num, HF.out⟩
          case measure => simp [intOf]; omega
        · obtain rfl : k = d.2.length := by omega
          rw [List.take_of_length_le (Nat.le_refl _)] at hF
          have Z2 := (hb.block (w.heap.size + 1) (by omega)).trans HZ.out
          obtain ⟨z0, z1, z2, z3⟩ := row2_cells Z2
          obtain ⟨⟨p1, e1, r1⟩, ⟨p2, e2, r2⟩⟩ : (∃ v, [l] = [v] ∧ RdS Shp.octs wr v d.1) ∧ (∃ v, [c] = [v] ∧ RdS SWr wr v d.2) := by
            obtain ⟨F1, F2, _, o1, o2, _⟩ := OwnF.split (c := [l]) (d := [c]) hF rfl
            exact ⟨o1.rd, o2.rd⟩
          simp at e1 e2; subst e1 e2
          obtain ⟨av, ca, rfl⟩ := r1.slice
          obtain ⟨ac, cc', rfl⟩ := r2.slice
          have hgF2 : w.heap.size + 1 ∉ F := fun hm => by have := hFB _ hm; omega
          have OO := hide ((hF.set (a := ⟨w.heap.size + 1, 0, none⟩) hgF2 (.slice av d.1.length ca)).set (a := ⟨w.heap.size + 1, 1, none⟩) hgF2 (.slice ac d.2.length cc'))
          have ZZ := hide Z2
          have FB := hide hFB
          have CC := hide cw
          clear hF hFB hgF hT hA hb cw Z2 r1 r2
          go_wp2
          refine ret_cell rfl rfl (w.heap.size + 1) rfl _ _ _ _ (heap_set2 ZZ.out _ _) _ Try.underlying40 rfl info_stR ?_
          exact ⟨_, _, rfl, OO.out.own fun b hb => by have := FB.out b hb; omega, below_set2 CC.out (show w.heap.size ≤ w.heap.size + 1 by omega) _ _⟩

end Go.Proofs.Ytliileemelcllaa
