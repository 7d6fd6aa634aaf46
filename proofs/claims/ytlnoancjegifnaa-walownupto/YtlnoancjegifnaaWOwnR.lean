/-
  The page's Own of logs: in memory of its own.
-/
import Derived.Test.YtlnoancjegifnaaWCheckR
import Derived.Test.YtlnoancjegifnaaRMid
import Derived.Test.YtlnoancjegifnaaTail
import Derived.Test.YtlnoancjegifnaaRCop
namespace Go.Proofs.Ytlnoancjegifnaa
open Go.RowKit
set_option linter.unusedVariables false

theorem OwnF.assoc {α β γ : Type} {s : Shp α} {t : Shp β} {u : Shp γ} {F : List Nat} {w : World} {cs : List Value} {x : α} {y : β} {z : γ} (h : OwnF (s.pair (t.pair u)) F w cs (x, y, z)) : OwnF ((s.pair t).pair u) F w cs ((x, y), z) := by
  obtain ⟨⟨c, d, G, H, rfl, rfl, h1, c2, d2, G2, H2, rfl, rfl, h2, h3⟩, hn⟩ := h
  exact ⟨⟨c ++ c2, d2, G ++ G2, H2, by rw [List.append_assoc], by rw [List.append_assoc], ⟨c, c2, G, G2, rfl, rfl, h1, h2⟩, h3⟩, by simpa using hn⟩
theorem OwnF.assoc' {α β γ : Type} {s : Shp α} {t : Shp β} {u : Shp γ} {F : List Nat} {w : World} {cs : List Value} {x : α} {y : β} {z : γ} (h : OwnF ((s.pair t).pair u) F w cs ((x, y), z)) : OwnF (s.pair (t.pair u)) F w cs (x, y, z) := by
  obtain ⟨⟨c, d, G, H, rfl, rfl, ⟨c2, d2, G2, H2, rfl, rfl, h2, h3⟩, h1⟩, hn⟩ := h
  exact ⟨⟨c2, d2 ++ d, G2, H2 ++ H, by rw [List.append_assoc], by rw [List.append_assoc], h2, d2, d, H2, H, rfl, rfl, h3, h1⟩, by simpa using hn⟩
abbrev SLg (T : Nat) : Shp Wlg := (Shp.list T SWr).pair ((Shp.int .i64).pair SSec)
abbrev SLogR : Shp Wlg := SLg 57
theorem infoSR : (Try.prog.info? 57).map (fun i => (i.zero, i.size, i.bytes)) = some (some (.agg #[.int .i64 0, .slice none 0 0]), 2, 32) := by kernel_rfl
theorem info_lgR : (Try.prog.info? 25).map (·.size) = some 3 := by kernel_rfl
theorem set3_0 {w : World} {g : Nat} {x y z : Value} {t : TypeId} (h : w.heap[g]? = some (.cells #[x, y, z] t (0, 0))) (u : Value) : (w.setCell ⟨g, 0, none⟩ u).heap[g]? = some (.cells #[u, y, z] t (0, 0)) := by
  simp [World.setCell, Array.getElem?_modify, h]
theorem set3_1 {w : World} {g : Nat} {x y z : Value} {t : TypeId} (h : w.heap[g]? = some (.cells #[x, y, z] t (0, 0))) (u : Value) : (w.setCell ⟨g, 1, none⟩ u).heap[g]? = some (.cells #[x, u, z] t (0, 0)) := by
  simp [World.setCell, Array.getElem?_modify, h]
theorem set3_2 {w : World} {g : Nat} {x y z : Value} {t : TypeId} (h : w.heap[g]? = some (.cells #[x, y, z] t (0, 0))) (u : Value) : (w.setCell ⟨g, 2, none⟩ u).heap[g]? = some (.cells #[x, y, u] t (0, 0)) := by
  simp [World.setCell, Array.getElem?_modify, h]
theorem heap_set3 {u : World} {g : Nat} {a b c : Value} {t : TypeId} {fr : Nat × Nat} (h : u.heap[g]? = some (.cells #[a, b, c] t fr)) (x y z : Value) : (((u.setCell ⟨g, 0, none⟩ x).setCell ⟨g, 1, none⟩ y).setCell ⟨g, 2, none⟩ z).heap[g]? = some (.cells #[x, y, z] t fr) := by
  simp [World.setCell, Array.getElem?_modify, h]
theorem below_set3 {B : Nat} {w u : World} (h : Below B w u) {g : Nat} (hg : B ≤ g) (x y z : Value) : Below B w (((u.setCell ⟨g, 0, none⟩ x).setCell ⟨g, 1, none⟩ y).setCell ⟨g, 2, none⟩ z) :=
  ((h.setCell (p := ⟨g, 0, none⟩) hg x).setCell (p := ⟨g, 1, none⟩) hg y).setCell (p := ⟨g, 2, none⟩) hg z
/-- a log in a box at g that no block of its own is -/
def BoxLg (s : Shp Wlg) (T : Nat) (g B : Nat) (w : World) (sv wv : Value) (l : Wlg) : Prop :=
  w.heap[g]? = some (.cells #[sv, .int .i64 l.2.1, wv] T (0, 0)) ∧ ∃ F, OwnF s F w [sv, .int .i64 l.2.1, wv] l ∧ (∀ b, b ∈ F → B ≤ b) ∧ g ∉ F
def wfit (l : Wlg) : Prop := l.1.length * 32 ≤ 140737488351232 ∧ (∀ x ∈ l.1, x.2.length ≤ 140737488351232) ∧ l.2.2.length * 24 ≤ 140737488351232 ∧ ∀ y ∈ l.2.2, y.length ≤ 140737488351232
theorem ownLg_nil (T : Nat) (w : World) (n : Int) : OwnF (SLg T) [] w [.slice none 0 0, .int .i64 n, .slice none 0 0] ([], n, []) :=
  ⟨⟨[.slice none 0 0], [.int .i64 n, .slice none 0 0], [], [], rfl, rfl, ⟨_, [], [], rfl, World.ownsRow_nil _ _ _ _, ⟨rfl, rfl⟩, by simp [Value.ownBlock]⟩, [.int .i64 n], [.slice none 0 0], [], [], rfl, rfl, ⟨rfl, rfl⟩, ⟨_, [], [], rfl, World.ownsRow_nil _ _ _ _, ⟨rfl, rfl⟩, by simp [Value.ownBlock]⟩⟩, List.nodup_nil⟩

set_option maxRecDepth 100000 in
set_option maxHeartbeats 4000000 in
theorem rwown_any (w : World) (sv wv : Value) (d : Wlg) (h1 : RdC w sv d.1) (h2 : RdSec w wv d.2.2) (hf : wfit d) :
    Calls Try.prog 36 #[.agg #[sv, .int .i64 d.2.1, wv]] w fun e w' => ∃ sv' wv', e = .returned (.agg #[sv', .int .i64 d.2.1, wv']) ∧ Own SLogR w.heap.size w' [sv', .int .i64 d.2.1, wv'] d ∧ Below w.heap.size w w' := by
  obtain ⟨i0, hi, hz0, hz1, hz2⟩ := info_parts infoB
  obtain ⟨j0, ji, jz0, jz1, jz2⟩ := info_parts infoSR
  obtain ⟨f1, f2, f3, f4⟩ := hf
  obtain ⟨a1, c1, rfl⟩ := h1.slice
  obtain ⟨a2, c2, rfl⟩ := h2.slice
  obtain ⟨W, hW⟩ : ∃ W, W = ((w.alloc (.cells #[.slice a1 d.1.length c1, .int .i64 d.2.1, .slice a2 d.2.2.length c2] 25)).alloc (.cells #[.slice none 0 0, .int .i64 0, .slice none 0 0] 25)).alloc (.cells #[.slice none 0 0, .int .i64 d.2.1, .slice none 0 0] 25) := ⟨_, rfl⟩
  have bW : Below w.heap.size w W := by rw [hW]; exact (((Below.refl _ _).alloc (Nat.le_refl _) _).alloc (by simp) _).alloc (by simp; omega) _
  have sW : W.heap.size = w.heap.size + 1 + 1 + 1 := by rw [hW]; simp
  have hA : W.heap[w.heap.size]? = some (.cells #[.slice a1 d.1.length c1, .int .i64 d.2.1, .slice a2 d.2.2.length c2] 25 (0, 0)) := by
    rw [hW, Below.heap_alloc _ _ _ (by simp; omega), Below.heap_alloc _ _ _ (by simp)]; exact heap_alloc_last w _
  have hZ : W.heap[w.heap.size + 1]? = some (.cells #[.slice none 0 0, .int .i64 0, .slice none 0 0] 25 (0, 0)) := by
    rw [hW, Below.heap_alloc _ _ _ (by simp)]; have := heap_alloc_last (w.alloc (.cells #[.slice a1 d.1.length c1, .int .i64 d.2.1, .slice a2 d.2.2.length c2] 25)) (.cells #[.slice none 0 0, .int .i64 0, .slice none 0 0] 25); simpa using this
  have hT : W.heap[w.heap.size + 1 + 1]? = some (.cells #[.slice none 0 0, .int .i64 d.2.1, .slice none 0 0] 25 (0, 0)) := by
    rw [hW]; have := heap_alloc_last ((w.alloc (.cells #[.slice a1 d.1.length c1, .int .i64 d.2.1, .slice a2 d.2.2.length c2] 25)).alloc (.cells #[.slice none 0 0, .int .i64 0, .slice none 0 0] 25)) (.cells #[.slice none 0 0, .int .i64 d.2.1, .slice none 0 0] 25); simpa using this
  have st0 : BoxLg SLogR 25 (w.heap.size + 1 + 1) (w.heap.size + 1 + 1) W (.slice none 0 0) (.slice none 0 0) ([], d.2.1, []) :=
    ⟨hT, [], ownLg_nil _ _ _, fun b hb => by (cases hb), by simp⟩
  have ST0 := hide st0
  have HA := hide hA
  have HZ := hide hZ
  have BW := hide bW
  obtain ⟨⟨A0, A1, A2⟩, _⟩ := cells3 hA
  rw [hW] at A0 A1 A2
  clear st0 hA hZ hT bW
  go_enter Try.func36, Try.ntmps36
  go_wp2
  rw [← hW]
  replace hW := hide hW
  clear A0 A1 A2
  go_loopw [4] (fun i wr => ∃ (k : Nat) (c : Value), k ≤ d.1.length ∧ i = .int .i64 k ∧ BoxLg SLogR 25 (w.heap.size + 1 + 1) (w.heap.size + 1 + 1) wr c (.slice none 0 0) (d.1.take k, d.2.1, []) ∧ Below (w.heap.size + 1 + 1) W wr) (fun i _ => d.1.length - (intOf i).toNat)
  case atStart => exact ⟨0, _, Nat.zero_le _, rfl, ST0.out, Below.refl _ _⟩
  case round =>
    obtain ⟨k, c, hk, rfl, ⟨hT, F, hF, hFB, hgF⟩, hb⟩ := hrel
    clear ST0
    have hA := (hb.block w.heap.size (by omega)).trans HA.out
    obtain ⟨⟨A0, A1, A2⟩, _⟩ := cells3 hA
    obtain ⟨⟨T0, T1, T2⟩, _⟩ := cells3 hT
    have hsz : w.heap.size + 1 + 1 < wr.heap.size := lt_of_block hT
    have cw := BW.out.trans (hb.mono (show w.heap.size ≤ w.heap.size + 1 + 1 by omega))
    by_cases hlt : k < d.1.length
    · have hq : (k : Int) < (d.1.length : Int) := by omega
      obtain ⟨y, hyk, hym⟩ := some_at d.1 hlt
      obtain ⟨b1, o1, u, rfl, hc1, hc2, hr⟩ := (h1.to0 cw).wrt hyk
      obtain ⟨_, _, _, e', hcw, _, _⟩ := h1.wrt hyk
      cases e'
      obtain ⟨au, cu, rfl⟩ := hr.slice
      obtain ⟨cc, rowT, fin⟩ := OwnF.litFst (c0 := [.int .i64 d.2.1, .slice none 0 0]) hF (n := k) (by simp; omega)
      have hsn := snoc_take d.1 hyk
      have hxl := f2 y hym
      obtain ⟨z, x⟩ := y
      dsimp only at hc1 hc2 hr hxl
      have FIN : Hid (∀ (w2 : World) (v2 : Value) (w5 : World) (g cap : Nat), Below wr.heap.size wr.drew w2 → OwnB wr.heap.size w2 v2 x → (w2.alloc (.cells #[.int .i64 z, v2] 57)).grownBy w5 c.ownBlock →
          w5.ownsRow 0 57 2 (.slice (some ⟨g, 0, none⟩) (k + 1) cap) (k + 1) (cc ++ [.int .i64 z, v2]) → (c.ownBlock = some g ∨ g = w2.heap.size + 1) →
          (w5.cell? ⟨w.heap.size + 1 + 1, 0, none⟩ = some c ∧ w5.frozen? ⟨w.heap.size + 1 + 1, 0, none⟩ = false ∧ Below (w.heap.size + 1 + 1) wr w5) ∧ Hid (BoxLg SLogR 25 (w.heap.size + 1 + 1) (w.heap.size + 1 + 1) (w5.setCell ⟨w.heap.size + 1 + 1, 0, none⟩ (.slice (some ⟨g, 0, none⟩) (k + 1) cap)) (.slice (some ⟨g, 0, none⟩) (k + 1) cap) (.slice none 0 0) (d.1.take (k + 1), d.2.1, []) ∧ Below (w.heap.size + 1 + 1) W (w5.setCell ⟨w.heap.size + 1 + 1, 0, none⟩ (.slice (some ⟨g, 0, none⟩) (k + 1) cap)))) := fun w2 v2 w5 g cap k1 k2 k3 k4 k5 => by
        obtain ⟨⟨F', q1, q2⟩, q3, q4⟩ := fin w2 [.int .i64 z, v2] (z, x) 57 _ w5 g cap ((Below.refl _ _).drew.trans k1) (own_wrt k2) rfl rfl rfl rfl k3 k4 k5
        rw [hsn] at q1
        have hT5 := (q4 _ hsz hgF).trans hT
        obtain ⟨⟨t0, _, _⟩, tf⟩ := cells3 hT5
        have t2 := tf 0
        have hgF' : w.heap.size + 1 + 1 ∉ F' := fun hm => (q2 _ hm).elim hgF (fun h => by omega)
        refine ⟨⟨t0, t2, q3 (w.heap.size + 1 + 1) hFB (by omega)⟩, ⟨set3_0 hT5 _, F', q1.set hgF' _, fun b hb' => (q2 b hb').elim (hFB b) (fun h => by omega), hgF'⟩, ?_⟩
        exact (hb.trans (q3 (w.heap.size + 1 + 1) hFB (by omega))).setCell (p := ⟨w.heap.size + 1 + 1, 0, none⟩) (Nat.le_refl _) _
      have ROW : Hid (∀ u, Below wr.heap.size wr.drew u → ∀ o : Obj, (u.alloc o).ownsRow 0 57 2 c k cc) := fun u hu o => rowT _ (((Below.refl _ _).drew.trans hu).alloc hu.size o)
      have KS := hide (rcopied_any wr.drew _ x (hr.to (Below.refl _ _).drew) (by omega))
      have h63 : k + 1 ≤ maxLen := by rw [show maxLen = 9223372036854775807 from rfl]; omega
      have hby : (k + 1) * 32 ≤ 140737488355328 := by omega
      clear fin rowT hsn hF hFB hr hb hyk hym hT hA cw
      obtain ⟨ll, lc, hl⟩ : ∃ ll lc, c = .slice ll k lc := by
        rcases (ROW.out wr.drew (Below.refl _ _) (.cells #[] 0)).2 with ⟨rfl, rfl⟩ | ⟨g, cap, cur, rfl, _⟩
        · exact ⟨_, _, rfl⟩
        · exact ⟨_, _, rfl⟩
      subst hl
      have hbl : b1 < w.heap.size := cell_lt hcw
      generalize x.length = L at *
      go_wp2
      refine wp_region_mid (fun w' => w'.cell? ⟨w.heap.size, 0, none⟩ = some (.slice (some ⟨b1, o1, none⟩) d.1.length c1) ∧ w'.cell? ⟨b1, o1 + k * 2, none⟩ = some (.int .i64 z) ∧ w'.cell? ⟨b1, o1 + k * 2 + 1, none⟩ = some (.slice au L cu) ∧ w'.cell? ⟨w.heap.size + 1 + 1, 0, none⟩ = some (.slice ll k lc)) 14 17 mixed (by kernel_rfl) (fun _ _ _ _ h => h) ⟨A0, hc1, hc2, T0⟩ ?_
      dsimp only [List.take, List.drop]
      iterate 14
        refine take_one (v := ?_) (by rfl) ?_ ?_
        rotate_left
        · rintro w' ⟨s1, s2, s3, s4⟩
          go_simp
          try with_reducible rfl
        try simp only [Act.put, List.setIfInBounds_toArray, List.set_cons_zero, List.set_cons_succ]
      refine mid_one fun K hK => ?_
      refine step_call (by rfl) 37 _ _ (by rfl) #[.slice au L cu] (by simp [Act.eval]) (Try.call37 _ _) KS.out ?_
      rintro e w2 ⟨v2, rfl, o2, b2⟩
      obtain ⟨av, cv2, hv2⟩ := o2.rd.slice
      subst hv2
      have x0 := (b2.cell (p := ⟨w.heap.size, 0, none⟩) (cell_lt A0)).trans A0
      have x1 := (b2.cell (p := ⟨b1, o1 + k * 2, none⟩) (cell_lt hc1)).trans hc1
      have x2 := (b2.cell (p := ⟨b1, o1 + k * 2 + 1, none⟩) (cell_lt hc2)).trans hc2
      have x3 := (b2.cell (p := ⟨w.heap.size + 1 + 1, 0, none⟩) (cell_lt T0)).trans T0
      refine ⟨_, rfl, hK _ _ ⟨x0, x1, x2, x3⟩ ?_⟩
      clear hK K
      try simp only [Act.put, List.setIfInBounds_toArray, List.set_cons_zero, List.set_cons_succ]
      refine mid_one fun K hK => ?_
      rw [if_pos (by rfl)]
      go_simp
      refine hK _ _ ⟨x0, x1, x2, x3⟩ ?_
      clear hK K
      refine mid_one fun K hK => ?_
      rw [if_pos (by rfl)]
      go_simp
      refine hK _ _ ⟨cell_alloc x0 _, cell_alloc x1 _, cell_alloc x2 _, cell_alloc x3 _⟩ ?_
      clear hK K
      show wpList _ _ _ _ _ _
      go_wp2_with (at_builtin; refine wpList_append_lies _ rfl _ _ 22 rfl 0 57 j0 _ 2 32 Try.underlying22 ji jz0 jz1 jz2 rfl (by decide) (.slice ll k lc) k cc rfl (ROW.out w2 b2 _) ⟨w2.heap.size, 0, none⟩ 1 1 [.int .i64 z, .slice av x.length cv2] rfl rfl (World.news_of_block (heap_alloc_last w2 _)) (by simp [Value.oneCell']) (by decide) h63 hby (Nat.zero_le _) (w2.heap.size + 1) (by simp) ?_; intro g cap w5 ho5 hg5 hat5 hlt5; obtain ⟨⟨y5, y6, _⟩, HF⟩ := FIN.out w2 _ w5 g cap b2 o2 hg5 ho5 hat5; clear ho5 hg5 hat5 FIN ROW KS o2 b2)
      go_roundw
      case rel => exact ⟨k + 1, _, by omega, by go_num, HF.out⟩
      case measure => simp [intOf]; omega
    · obtain rfl : k = d.1.length := by omega
      rw [List.take_of_length_le (Nat.le_refl _)] at hF
      have st1 : BoxLg SLogR 25 (w.heap.size + 1 + 1) (w.heap.size + 1 + 1) wr c (.slice none 0 0) (d.1, d.2.1, []) := ⟨hT, F, hF, hFB, hgF⟩
      have ST1 := hide st1
      have HB := hide hb
      clear hT hF hFB hgF hA st1 hb hlt hk cw
      generalize wr = U at *
      go_wp2
      go_loopw [5] (fun i wr => ∃ (k : Nat) (l : Value), k ≤ d.2.2.length ∧ i = .int .i64 k ∧ BoxLg SLogR 25 (w.heap.size + 1 + 1) (w.heap.size + 1 + 1) wr c l (d.1, d.2.1, d.2.2.take k) ∧ Below (w.heap.size + 1 + 1) W wr) (fun i _ => d.2.2.length - (intOf i).toNat)
      case atStart => exact ⟨0, _, Nat.zero_le _, rfl, ST1.out, HB.out⟩
      case round =>
        obtain ⟨k, l, hk, rfl, ⟨hT, F, hF, hFB, hgF⟩, hb⟩ := hrel
        clear ST1 HB A0 A1 A2 T0 T1 T2 hsz
        have hA := (hb.block w.heap.size (by omega)).trans HA.out
        obtain ⟨⟨A0, A1, A2⟩, _⟩ := cells3 hA
        obtain ⟨⟨T0, T1, T2⟩, _⟩ := cells3 hT
        have hsz : w.heap.size + 1 + 1 < wr.heap.size := lt_of_block hT
        by_cases hlt : k < d.2.2.length
        · have hq : (k : Int) < (d.2.2.length : Int) := by omega
          obtain ⟨x, hxk, hxm⟩ := some_at d.2.2 hlt
          have cw := BW.out.trans (hb.mono (show w.heap.size ≤ w.heap.size + 1 + 1 by omega))
          obtain ⟨b1, o1, u, rfl, hc, hr⟩ := (h2.to0 cw).oct hxk
          obtain ⟨au, cu, rfl⟩ := hr.slice
          obtain ⟨cc, rowT, fin⟩ := OwnF.litSnd (c0 := [c, .int .i64 d.2.1]) (OwnF.assoc hF) rfl (n := k) (by simp; omega)
          have hsn := snoc_take d.2.2 hxk
          have hxl := f4 x hxm
          have FIN : Hid (∀ (w2 : World) (v2 : Value) (w5 : World) (g cap : Nat), Below wr.heap.size wr.drew w2 → OwnB wr.heap.size w2 v2 x → (w2.alloc (.cells #[v2] 54)).grownBy w5 l.ownBlock →
              w5.ownsRow 0 54 1 (.slice (some ⟨g, 0, none⟩) (k + 1) cap) (k + 1) (cc ++ [v2]) → (l.ownBlock = some g ∨ g = w2.heap.size + 1) →
              (w5.cell? ⟨w.heap.size + 1 + 1, 2, none⟩ = some l ∧ w5.frozen? ⟨w.heap.size + 1 + 1, 2, none⟩ = false) ∧ Hid (BoxLg SLogR 25 (w.heap.size + 1 + 1) (w.heap.size + 1 + 1) (w5.setCell ⟨w.heap.size + 1 + 1, 2, none⟩ (.slice (some ⟨g, 0, none⟩) (k + 1) cap)) c (.slice (some ⟨g, 0, none⟩) (k + 1) cap) (d.1, d.2.1, d.2.2.take (k + 1)) ∧ Below (w.heap.size + 1 + 1) W (w5.setCell ⟨w.heap.size + 1 + 1, 2, none⟩ (.slice (some ⟨g, 0, none⟩) (k + 1) cap)))) := fun w2 v2 w5 g cap k1 k2 k3 k4 k5 => by
            obtain ⟨⟨F', q1, q2⟩, q3, q4⟩ := fin w2 [v2] x 54 _ w5 g cap ((Below.refl _ _).drew.trans k1) k2.toOwn rfl rfl rfl rfl k3 k4 k5
            rw [hsn] at q1
            have hT5 := (q4 _ hsz hgF).trans hT
            obtain ⟨⟨_, _, t0⟩, tf⟩ := cells3 hT5
            have t2 := tf 2
            have hgF' : w.heap.size + 1 + 1 ∉ F' := fun hm => (q2 _ hm).elim hgF (fun h => by omega)
            refine ⟨⟨t0, t2⟩, ⟨set3_2 hT5 _, F', (OwnF.assoc' q1).set hgF' _, fun b hb' => (q2 b hb').elim (hFB b) (fun h => by omega), hgF'⟩, ?_⟩
            exact (hb.trans (q3 (w.heap.size + 1 + 1) hFB (by omega))).setCell (p := ⟨w.heap.size + 1 + 1, 2, none⟩) (Nat.le_refl _) _
          have ROW : Hid (∀ u, Below wr.heap.size wr.drew u → ∀ o : Obj, (u.alloc o).ownsRow 0 54 1 l k cc) := fun u hu o => rowT _ (((Below.refl _ _).drew.trans hu).alloc hu.size o)
          have KS := hide (rcopied_any wr.drew _ x (hr.to (Below.refl _ _).drew) (by omega))
          have h63 : k + 1 ≤ maxLen := by rw [show maxLen = 9223372036854775807 from rfl]; omega
          have hby : (k + 1) * 24 ≤ 140737488355328 := by omega
          clear fin rowT hsn hF hFB hr hb hxk hxm hT hA cw
          obtain ⟨ll, lc, hl⟩ : ∃ ll lc, l = .slice ll k lc := by
            rcases (ROW.out wr.drew (Below.refl _ _) (.cells #[] 0)).2 with ⟨rfl, rfl⟩ | ⟨g, cap, cur, rfl, _⟩
            · exact ⟨_, _, rfl⟩
            · exact ⟨_, _, rfl⟩
          subst hl
          generalize x.length = L at *
          go_wp2
          refine wp_region_mid (fun w' => w'.cell? ⟨w.heap.size, 2, none⟩ = some (.slice (some ⟨b1, o1, none⟩) d.2.2.length c2) ∧ w'.cell? ⟨b1, o1 + k, none⟩ = some (.slice au L cu) ∧ w'.cell? ⟨w.heap.size + 1 + 1, 2, none⟩ = some (.slice ll k lc)) 7 9 mixed (by kernel_rfl) (fun _ _ _ _ h => h) ⟨A2, hc, T2⟩ ?_
          dsimp only [List.take, List.drop]
          iterate 7
            refine take_one (v := ?_) (by rfl) ?_ ?_
            rotate_left
            · rintro w' ⟨s1, s2, s3⟩
              go_simp
              try with_reducible rfl
            try simp only [Act.put, List.setIfInBounds_toArray, List.set_cons_zero, List.set_cons_succ]
          refine mid_one fun K hK => ?_
          refine step_call (by rfl) 37 _ _ (by rfl) #[.slice au L cu] (by simp [Act.eval]) (Try.call37 _ _) KS.out ?_
          rintro e w2 ⟨v2, rfl, o2, b2⟩
          obtain ⟨av, cv2, hv2⟩ := o2.rd.slice
          subst hv2
          have x0 := (b2.cell (p := ⟨w.heap.size, 2, none⟩) (cell_lt A2)).trans A2
          have x1 := (b2.cell (p := ⟨b1, o1 + k, none⟩) (cell_lt hc)).trans hc
          have x3 := (b2.cell (p := ⟨w.heap.size + 1 + 1, 2, none⟩) (cell_lt T2)).trans T2
          refine ⟨_, rfl, hK _ _ ⟨x0, x1, x3⟩ ?_⟩
          clear hK K
          try simp only [Act.put, List.setIfInBounds_toArray, List.set_cons_zero, List.set_cons_succ]
          refine mid_one fun K hK => ?_
          rw [if_pos (by rfl)]
          go_simp
          refine hK _ _ ⟨cell_alloc x0 _, cell_alloc x1 _, cell_alloc x3 _⟩ ?_
          clear hK K
          show wpList _ _ _ _ _ _
          go_wp2_with (at_builtin; refine wpList_append_lies _ rfl _ _ 23 rfl 0 54 i0 _ 1 24 Try.underlying23 hi hz0 hz1 hz2 rfl (by decide) (.slice ll k lc) k cc rfl (ROW.out w2 b2 _) ⟨w2.heap.size, 0, none⟩ 1 1 [.slice av x.length cv2] rfl rfl (World.news_of_block (heap_alloc_last w2 _)) (by simp [Value.oneCell']) (by decide) h63 hby (Nat.zero_le _) (w2.heap.size + 1) (by simp) ?_; intro g cap w5 ho5 hg5 hat5 hlt5; obtain ⟨⟨y5, y6⟩, HF⟩ := FIN.out w2 _ w5 g cap b2 o2 hg5 ho5 hat5; clear ho5 hg5 hat5 FIN ROW KS o2 b2)
          go_roundw
          case rel => exact ⟨k + 1, _, by omega, by go_num, HF.out⟩
          case measure => simp [intOf]; omega
        · obtain rfl : k = d.2.2.length := by omega
          rw [List.take_of_length_le (Nat.le_refl _)] at hF
          have Z2 := (hb.block (w.heap.size + 1) (by omega)).trans HZ.out
          obtain ⟨⟨z0, z1, z2⟩, zf⟩ := cells3 Z2
          have y0 := zf 0
          have y1 := zf 1
          have y2 := zf 2
          have cw := BW.out.trans (hb.mono (show w.heap.size ≤ w.heap.size + 1 + 1 by omega))
          obtain ⟨⟨p1, e1, r1⟩, ⟨p2, e2, r2⟩⟩ : (∃ v, [c] = [v] ∧ RdS SWr wr v d.1) ∧ (∃ v, [l] = [v] ∧ RdS Shp.octs wr v d.2.2) := by
            obtain ⟨F1, F2, _, o1, o2, _⟩ := OwnF.split (c := [c]) (d := [.int .i64 d.2.1, l]) hF rfl
            obtain ⟨F3, F4, _, o3, o4, _⟩ := OwnF.split (c := [.int .i64 d.2.1]) (d := [l]) o2 rfl
            exact ⟨o1.rd, o4.rd⟩
          simp at e1 e2; subst e1 e2
          obtain ⟨av, ca, rfl⟩ := r1.slice
          obtain ⟨ac, cc', rfl⟩ := r2.slice
          have hgF2 : w.heap.size + 1 ∉ F := fun hm => by have := hFB _ hm; omega
          have OO := hide (((hF.set (a := ⟨w.heap.size + 1, 0, none⟩) hgF2 (.slice av d.1.length ca)).set (a := ⟨w.heap.size + 1, 1, none⟩) hgF2 (.int .i64 d.2.1)).set (a := ⟨w.heap.size + 1, 2, none⟩) hgF2 (.slice ac d.2.2.length cc'))
          have ZZ := hide Z2
          have FB := hide hFB
          have CC := hide cw
          clear hF hFB hgF hT hA hb cw Z2 r1 r2
          go_wp2
          refine retN rfl rfl (w.heap.size + 1) rfl _ _ (0, 0) (heap_set3 (u := wr) ZZ.out _ _ _) _ Try.underlying25 rfl info_lgR ?_
          exact ⟨_, _, rfl, OO.out.own fun b hb => by have := FB.out b hb; omega, below_set3 CC.out (show w.heap.size ≤ w.heap.size + 1 by omega) _ _ _⟩

end Go.Proofs.Ytlnoancjegifnaa
