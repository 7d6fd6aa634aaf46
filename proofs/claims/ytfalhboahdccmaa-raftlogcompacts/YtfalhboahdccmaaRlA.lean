/-
  Entries of a log: how lists of them lie in memory; transeptplain's CopyEntries, the page's Own: the same in memory of the call's own.
-/
import Derived.Test.YtfalhboahdccmaaDMath
import Derived.Test.YtfalhboahdccmaaRCop
import Derived.Test.YtfalhboahdccmaaRMid
import Derived.Test.YtfalhboahdccmaaRSched
import Derived.Test.YtfalhboahdccmaaTail
import Derived.Test.YtfalhboahdccmaaSame
import Derived.Test.YtfalhboahdccmaaStep
namespace Go.Proofs.Ytfalhboahdccmaa
open Go.RowKit
set_option linter.unusedVariables false
set_option linter.unusedSimpArgs false

abbrev SEntB : Shp (List Wrt) := Shp.list 27 SWr
theorem infoEn : (Try.prog.info? 27).map (fun i => (i.zero, i.size, i.bytes)) = some (some (.agg #[.int .i64 0, .slice none 0 0]), 2, 32) := by kernel_rfl
theorem snoc15 {α : Type} (xs : List α) {k : Nat} {x : α} (hx : xs[k]? = some x) : xs.take k ++ [x] = xs.take (k + 1) := by
  rw [List.take_add_one, hx]; rfl
theorem own_ent {B : Nat} {w : World} {z : Int} {v : Value} {x : List UInt8} (h : OwnB B w v x) : Own SWr B w [.int .i64 z, v] (z, x) := by
  obtain ⟨F, h1, h2, h3⟩ := h.toOwn
  exact ⟨F, ⟨[.int .i64 z], [v], [], F, rfl, rfl, ⟨rfl, rfl⟩, h1⟩, h2, h3⟩
theorem cell_al15 {w : World} {b i : Nat} {v : Value} (h : w.cell? ⟨b, i, none⟩ = some v) (o : Obj) : (w.alloc o).cell? ⟨b, i, none⟩ = some v :=
  (Below.cell ((Below.refl w.heap.size w).alloc (Nat.le_refl _) o) (cell_lt h)).trans h

/-- an entry behind a list of the call's own -/
theorem lit15 {B k : Nat} {w : World} {v : Value} {ws : List Wrt} (h : Own SEntB B w [v] ws) (hk : ws.length = k) (hB : B ≤ w.heap.size) : ∃ cc ll lc, v = .slice ll k lc ∧ (∀ u, Below w.heap.size w u → ∀ o : Obj, (u.alloc o).ownsRow 0 27 2 v k cc) ∧
    ∀ (w2 : World) (z : Int) (v2 : Value) (x : List UInt8) (w5 : World) (g cap : Nat), Below w.heap.size w w2 → OwnB w.heap.size w2 v2 x → (w2.alloc (.cells #[.int .i64 z, v2] 27)).grownBy w5 v.ownBlock →
      w5.ownsRow 0 27 2 (.slice (some ⟨g, 0, none⟩) (k + 1) cap) (k + 1) (cc ++ [.int .i64 z, v2]) → (v.ownBlock = some g ∨ g = w2.heap.size + 1) →
      Own SEntB B w5 [.slice (some ⟨g, 0, none⟩) (k + 1) cap] (ws ++ [(z, x)]) ∧ Below B w w5 := by
  obtain ⟨F, h1, h2, h3⟩ := h
  have hF : OwnF SEntB F w [v] ws := ⟨h1, h2⟩
  obtain ⟨cc, rowT, fin⟩ := OwnF.lit hF hk
  have r0 := rowT w (Below.refl _ _)
  have hs : ∃ ll lc, v = .slice ll k lc := by
    rcases r0.2 with ⟨rfl, rfl⟩ | ⟨g, cap, cur, rfl, _⟩
    · exact ⟨_, _, rfl⟩
    · exact ⟨_, _, rfl⟩
  obtain ⟨ll, lc, hv⟩ := hs
  refine ⟨cc, ll, lc, hv, fun u hu o => rowT _ (hu.alloc hu.size o), fun w2 z v2 x w5 g cap k1 k2 k3 k4 k5 => ?_⟩
  obtain ⟨⟨F', q1, q2⟩, q3, q4⟩ := fin w2 [.int .i64 z, v2] (z, x) 27 _ w5 g cap k1 (own_ent k2) rfl rfl rfl rfl k3 k4 k5
  exact ⟨q1.own fun b hb => (q2 b hb).elim (h3 b) (fun h => by omega), q3 B h3 hB⟩

set_option maxRecDepth 100000 in
set_option maxHeartbeats 2000000 in
theorem centries_any (w : World) (v : Value) (ws : List Wrt) (h : RdC w v ws) (f1 : ws.length * 32 ≤ 140737488351232) (f2 : ∀ x ∈ ws, x.2.length ≤ 140737488351232) :
    Calls Try.prog 28 #[v] w fun e w' => ∃ v', e = .returned v' ∧ Own SEntB w.heap.size w' [v'] ws ∧ Below w.heap.size w w' := by
  obtain ⟨j0, ji, jz0, jz1, jz2⟩ := info_parts infoEn
  have lb := h.bd
  obtain ⟨a1, c1, rfl⟩ := h.slice
  have HR := hide h
  clear h
  go_enter Try.func28, Try.ntmps28
  go_wp2
  go_loopw [3, 4] (fun o i wr => ∃ k : Nat, k ≤ ws.length ∧ i = .int .i64 k ∧ Hid (∃ F, OwnF SEntB F wr [o] (ws.take k) ∧ (∀ b, b ∈ F → w.heap.size ≤ b) ∧ Below w.heap.size w wr)) (fun _ i _ => ws.length - (intOf i).toNat)
  case atStart => exact ⟨0, Nat.zero_le _, rfl, [], ⟨⟨_, [], [], rfl, World.ownsRow_nil _ _ _ _, ⟨rfl, rfl⟩, by simp [Value.ownBlock]⟩, List.nodup_nil⟩, fun b hb => by (cases hb), Below.refl _ _⟩
  case round =>
    obtain ⟨k, hk, rfl, hI⟩ := hrel
    by_cases hlt : k < ws.length
    · have hq : (k : Int) < (ws.length : Int) := by omega
      obtain ⟨F, hF, hFB, hb⟩ := hI.out
      obtain ⟨y, hyk, hym⟩ := some_at ws hlt
      obtain ⟨b1, o1, u, rfl, hc1, hc2, hr⟩ := (HR.out.to0 hb).wrt hyk
      obtain ⟨au, cu, rfl⟩ := hr.slice
      obtain ⟨cc, rowT, fin⟩ := OwnF.lit hF (n := k) (by simp; omega)
      have hsn := snoc15 ws hyk
      have hxl := f2 y hym
      obtain ⟨z, x⟩ := y
      dsimp only at hc1 hc2 hr hxl
      have FIN : Hid (∀ (w2 : World) (v2 : Value) (w5 : World) (g cap : Nat), Below wr.heap.size wr.drew w2 → OwnB wr.heap.size w2 v2 x → (w2.alloc (.cells #[.int .i64 z, v2] 27)).grownBy w5 u3.ownBlock →
          w5.ownsRow 0 27 2 (.slice (some ⟨g, 0, none⟩) (k + 1) cap) (k + 1) (cc ++ [.int .i64 z, v2]) → (u3.ownBlock = some g ∨ g = w2.heap.size + 1) →
          Hid (∃ F, OwnF SEntB F w5 [.slice (some ⟨g, 0, none⟩) (k + 1) cap] (ws.take (k + 1)) ∧ (∀ b, b ∈ F → w.heap.size ≤ b) ∧ Below w.heap.size w w5)) := fun w2 v2 w5 g cap k1 k2 k3 k4 k5 => by
        obtain ⟨⟨F', q1, q2⟩, q3, q4⟩ := fin w2 [.int .i64 z, v2] (z, x) 27 _ w5 g cap ((Below.refl _ _).drew.trans k1) (own_ent k2) rfl rfl rfl rfl k3 k4 k5
        rw [hsn] at q1
        exact ⟨F', q1, fun b hb' => (q2 b hb').elim (hFB b) (fun h => by have := hb.size; omega), hb.trans (q3 w.heap.size hFB hb.size)⟩
      have ROW : Hid (∀ u, Below wr.heap.size wr.drew u → ∀ o : Obj, (u.alloc o).ownsRow 0 27 2 u3 k cc) := fun u hu o => rowT _ (((Below.refl _ _).drew.trans hu).alloc hu.size o)
      have KS := hide (copy_any wr.drew _ x (hr.to (Below.refl _ _).drew) (by omega))
      have h63 : k + 1 ≤ maxLen := by rw [show maxLen = 9223372036854775807 from rfl]; omega
      have hby : (k + 1) * 32 ≤ 140737488355328 := by omega
      clear fin rowT hsn hF hFB hr hb hyk hym hI
      obtain ⟨ll, lc, hl⟩ : ∃ ll lc, u3 = .slice ll k lc := by
        rcases (ROW.out wr.drew (Below.refl _ _) (.cells #[] 0)).2 with ⟨rfl, rfl⟩ | ⟨g, cap, cur, rfl, _⟩
        · exact ⟨_, _, rfl⟩
        · exact ⟨_, _, rfl⟩
      subst hl
      generalize x.length = L at *
      go_wp2
      refine wp_region_mid (fun w' => w'.cell? ⟨b1, o1 + k * 2, none⟩ = some (.int .i64 z) ∧ w'.cell? ⟨b1, o1 + k * 2 + 1, none⟩ = some (.slice au L cu)) 11 14 mixed (by kernel_rfl) (fun _ _ _ _ h => h) ⟨hc1, hc2⟩ ?_
      dsimp only [List.take, List.drop]
      iterate 11
        refine take_one (v := ?_) (by rfl) ?_ ?_
        rotate_left
        · rintro w' ⟨s1, s2⟩
          go_simp
          try with_reducible rfl
        try simp only [Act.put, List.setIfInBounds_toArray, List.set_cons_zero, List.set_cons_succ]
      refine mid_one fun K hK => ?_
      refine step_call (by rfl) 26 _ _ (by rfl) #[.slice au L cu] (by simp [Act.eval]) (Try.call26 _ _) KS.out ?_
      rintro e w2 ⟨v2, rfl, o2, b2⟩
      obtain ⟨av, cv2, hv2⟩ := o2.rd.slice
      subst hv2
      have x1 := (b2.cell (p := ⟨b1, o1 + k * 2, none⟩) (cell_lt hc1)).trans hc1
      have x2 := (b2.cell (p := ⟨b1, o1 + k * 2 + 1, none⟩) (cell_lt hc2)).trans hc2
      refine ⟨_, rfl, hK _ _ ⟨x1, x2⟩ ?_⟩
      clear hK K
      try simp only [Act.put, List.setIfInBounds_toArray, List.set_cons_zero, List.set_cons_succ]
      refine mid_one fun K hK => ?_
      rw [if_pos (by rfl)]
      go_simp
      refine hK _ _ ⟨x1, x2⟩ ?_
      clear hK K
      refine mid_one fun K hK => ?_
      rw [if_pos (by rfl)]
      go_simp
      refine hK _ _ ⟨cell_al15 x1 _, cell_al15 x2 _⟩ ?_
      clear hK K
      show wpList _ _ _ _ _ _
      go_wp2_with (at_builtin; refine wpList_append_lies _ rfl _ _ 22 rfl 0 27 j0 _ 2 32 Try.underlying22 ji jz0 jz1 jz2 rfl (by decide) (.slice ll k lc) k cc rfl (ROW.out w2 b2 _) ⟨w2.heap.size, 0, none⟩ 1 1 [.int .i64 z, .slice av x.length cv2] rfl rfl (World.news_of_block (heap_alloc_last w2 _)) (by simp [Value.oneCell']) (by decide) h63 hby (Nat.zero_le _) (w2.heap.size + 1) (by simp) ?_; intro g cap w5 ho5 hg5 hat5 hlt5; have HF := FIN.out w2 _ w5 g cap b2 o2 hg5 ho5 hat5; clear ho5 hg5 hat5 FIN ROW KS o2 b2)
      go_roundw
      case rel => exact ⟨k + 1, by omega, by go_num, HF⟩
      case measure => simp [intOf]; omega
    · have hq : ¬ (k : Int) < (ws.length : Int) := by omega
      obtain rfl : k = ws.length := by omega
      obtain ⟨F, hF, hFB, hb⟩ := hI.out
      rw [List.take_of_length_le (Nat.le_refl _)] at hF
      have OO := hide (And.intro (hF.own hFB) hb)
      clear hF hFB hb hI
      go_wp2
      go_ret
      exact ⟨_, rfl, OO.out.1, OO.out.2⟩

set_option maxRecDepth 100000 in
set_option maxHeartbeats 2000000 in
theorem rown15_any (w : World) (v : Value) (ws : List Wrt) (h : RdC w v ws) (f1 : ws.length * 32 ≤ 140737488351232) (f2 : ∀ x ∈ ws, x.2.length ≤ 140737488351232) :
    Calls Try.prog 36 #[v] w fun e w' => ∃ v', e = .returned v' ∧ Own SEntB w.heap.size w' [v'] ws ∧ Below w.heap.size w w' := by
  obtain ⟨j0, ji, jz0, jz1, jz2⟩ := info_parts infoEn
  have lb := h.bd
  obtain ⟨a1, c1, rfl⟩ := h.slice
  have HR := hide h
  clear h
  go_enter Try.func36, Try.ntmps36
  go_wp2
  go_loopw [3, 4] (fun o i wr => ∃ k : Nat, k ≤ ws.length ∧ i = .int .i64 k ∧ Hid (∃ F, OwnF SEntB F wr [o] (ws.take k) ∧ (∀ b, b ∈ F → w.heap.size ≤ b) ∧ Below w.heap.size w wr)) (fun _ i _ => ws.length - (intOf i).toNat)
  case atStart => exact ⟨0, Nat.zero_le _, rfl, [], ⟨⟨_, [], [], rfl, World.ownsRow_nil _ _ _ _, ⟨rfl, rfl⟩, by simp [Value.ownBlock]⟩, List.nodup_nil⟩, fun b hb => by (cases hb), Below.refl _ _⟩
  case round =>
    obtain ⟨k, hk, rfl, hI⟩ := hrel
    by_cases hlt : k < ws.length
    · have hq : (k : Int) < (ws.length : Int) := by omega
      obtain ⟨F, hF, hFB, hb⟩ := hI.out
      obtain ⟨y, hyk, hym⟩ := some_at ws hlt
      obtain ⟨b1, o1, u, rfl, hc1, hc2, hr⟩ := (HR.out.to0 hb).wrt hyk
      obtain ⟨au, cu, rfl⟩ := hr.slice
      obtain ⟨cc, rowT, fin⟩ := OwnF.lit hF (n := k) (by simp; omega)
      have hsn := snoc15 ws hyk
      have hxl := f2 y hym
      obtain ⟨z, x⟩ := y
      dsimp only at hc1 hc2 hr hxl
      have FIN : Hid (∀ (w2 : World) (v2 : Value) (w5 : World) (g cap : Nat), Below wr.heap.size wr.drew w2 → OwnB wr.heap.size w2 v2 x → (w2.alloc (.cells #[.int .i64 z, v2] 27)).grownBy w5 u3.ownBlock →
          w5.ownsRow 0 27 2 (.slice (some ⟨g, 0, none⟩) (k + 1) cap) (k + 1) (cc ++ [.int .i64 z, v2]) → (u3.ownBlock = some g ∨ g = w2.heap.size + 1) →
          Hid (∃ F, OwnF SEntB F w5 [.slice (some ⟨g, 0, none⟩) (k + 1) cap] (ws.take (k + 1)) ∧ (∀ b, b ∈ F → w.heap.size ≤ b) ∧ Below w.heap.size w w5)) := fun w2 v2 w5 g cap k1 k2 k3 k4 k5 => by
        obtain ⟨⟨F', q1, q2⟩, q3, q4⟩ := fin w2 [.int .i64 z, v2] (z, x) 27 _ w5 g cap ((Below.refl _ _).drew.trans k1) (own_ent k2) rfl rfl rfl rfl k3 k4 k5
        rw [hsn] at q1
        exact ⟨F', q1, fun b hb' => (q2 b hb').elim (hFB b) (fun h => by have := hb.size; omega), hb.trans (q3 w.heap.size hFB hb.size)⟩
      have ROW : Hid (∀ u, Below wr.heap.size wr.drew u → ∀ o : Obj, (u.alloc o).ownsRow 0 27 2 u3 k cc) := fun u hu o => rowT _ (((Below.refl _ _).drew.trans hu).alloc hu.size o)
      have KS := hide (rcopied_any wr.drew _ x (hr.to (Below.refl _ _).drew) (by omega))
      have h63 : k + 1 ≤ maxLen := by rw [show maxLen = 9223372036854775807 from rfl]; omega
      have hby : (k + 1) * 32 ≤ 140737488355328 := by omega
      clear fin rowT hsn hF hFB hr hb hyk hym hI
      obtain ⟨ll, lc, hl⟩ : ∃ ll lc, u3 = .slice ll k lc := by
        rcases (ROW.out wr.drew (Below.refl _ _) (.cells #[] 0)).2 with ⟨rfl, rfl⟩ | ⟨g, cap, cur, rfl, _⟩
        · exact ⟨_, _, rfl⟩
        · exact ⟨_, _, rfl⟩
      subst hl
      generalize x.length = L at *
      go_wp2
      refine wp_region_mid (fun w' => w'.cell? ⟨b1, o1 + k * 2, none⟩ = some (.int .i64 z) ∧ w'.cell? ⟨b1, o1 + k * 2 + 1, none⟩ = some (.slice au L cu)) 11 14 mixed (by kernel_rfl) (fun _ _ _ _ h => h) ⟨hc1, hc2⟩ ?_
      dsimp only [List.take, List.drop]
      iterate 11
        refine take_one (v := ?_) (by rfl) ?_ ?_
        rotate_left
        · rintro w' ⟨s1, s2⟩
          go_simp
          try with_reducible rfl
        try simp only [Act.put, List.setIfInBounds_toArray, List.set_cons_zero, List.set_cons_succ]
      refine mid_one fun K hK => ?_
      refine step_call (by rfl) 37 _ _ (by rfl) #[.slice au L cu] (by simp [Act.eval]) (Try.call37 _ _) KS.out ?_
      rintro e w2 ⟨v2, rfl, o2, b2⟩
      obtain ⟨av, cv2, hv2⟩ := o2.rd.slice
      subst hv2
      have x1 := (b2.cell (p := ⟨b1, o1 + k * 2, none⟩) (cell_lt hc1)).trans hc1
      have x2 := (b2.cell (p := ⟨b1, o1 + k * 2 + 1, none⟩) (cell_lt hc2)).trans hc2
      refine ⟨_, rfl, hK _ _ ⟨x1, x2⟩ ?_⟩
      clear hK K
      try simp only [Act.put, List.setIfInBounds_toArray, List.set_cons_zero, List.set_cons_succ]
      refine mid_one fun K hK => ?_
      rw [if_pos (by rfl)]
      go_simp
      refine hK _ _ ⟨x1, x2⟩ ?_
      clear hK K
      refine mid_one fun K hK => ?_
      rw [if_pos (by rfl)]
      go_simp
      refine hK _ _ ⟨cell_al15 x1 _, cell_al15 x2 _⟩ ?_
      clear hK K
      show wpList _ _ _ _ _ _
      go_wp2_with (at_builtin; refine wpList_append_lies _ rfl _ _ 22 rfl 0 27 j0 _ 2 32 Try.underlying22 ji jz0 jz1 jz2 rfl (by decide) (.slice ll k lc) k cc rfl (ROW.out w2 b2 _) ⟨w2.heap.size, 0, none⟩ 1 1 [.int .i64 z, .slice av x.length cv2] rfl rfl (World.news_of_block (heap_alloc_last w2 _)) (by simp [Value.oneCell']) (by decide) h63 hby (Nat.zero_le _) (w2.heap.size + 1) (by simp) ?_; intro g cap w5 ho5 hg5 hat5 hlt5; have HF := FIN.out w2 _ w5 g cap b2 o2 hg5 ho5 hat5; clear ho5 hg5 hat5 FIN ROW KS o2 b2)
      go_roundw
      case rel => exact ⟨k + 1, by omega, by go_num, HF⟩
      case measure => simp [intOf]; omega
    · have hq : ¬ (k : Int) < (ws.length : Int) := by omega
      obtain rfl : k = ws.length := by omega
      obtain ⟨F, hF, hFB, hb⟩ := hI.out
      rw [List.take_of_length_le (Nat.le_refl _)] at hF
      have OO := hide (And.intro (hF.own hFB) hb)
      clear hF hFB hb hI
      go_wp2
      go_ret
      exact ⟨_, rfl, OO.out.1, OO.out.2⟩
end Go.Proofs.Ytfalhboahdccmaa
