/-
  PROVED: whatever octets, bools and numbers come in, transeptlaw07.PagesCrash returns true and leaves them as they were: the statement of P7.4 (a page is written over another one, and a crash keeps some sectors, one of them torn: what is read is the old page, the new one, or nothing at all).
-/
import Derived.Test.YtliileemelcllaaPgRMath
import Derived.Test.YtliileemelcllaaDPutR
import Derived.ArgAppend
import Derived.Lib.AppendStr
import Derived.Test.YtliileemelcllaaPgEncR
import Derived.Test.YtliileemelcllaaPut
import Derived.Test.YtliileemelcllaaApp
import Derived.Test.YtliileemelcllaaBEq
import Derived.Deep.CutRange
import Derived.Test.YtliileemelcllaaPgDecR
import Derived.Test.YtliileemelcllaaGet
import Derived.Test.YtliileemelcllaaRMid
import Derived.Test.YtliileemelcllaaTail
import Derived.Test.YtliileemelcllaaStep
import Derived.Test.YtliileemelcllaaPgDiskR
import Derived.Test.YtliileemelcllaaDGetP
import Derived.Test.YtliileemelcllaaDCheckP
import Derived.RangeFuncBox
import Derived.RangeFuncBound
import Derived.RangeFuncLeaves
import Derived.Shelf.Abstract
import Derived.Shelf.RegionOpen
import Derived.OwnWalkIn
import Derived.TacticsInMore
import Derived.LoopNIn
import Derived.LoopIn
import Derived.Test.YtliileemelcllaaRHand
import Derived.Test.YtliileemelcllaaDPutP
import Derived.Test.YtliileemelcllaaPgSay
import Derived.Test.YtliileemelcllaaDFlushR
import Derived.Test.YtliileemelcllaaDCrashP
import Derived.Test.YtliileemelcllaaDLand
import Derived.Test.YtliileemelcllaaSame
import Derived.Test.YtliileemelcllaaFr
import Derived.Test.YtliileemelcllaaDIn
/-
  Pages, plainly: one page over another, and a crash (P7.4).
-/
namespace Go.Proofs.Ytliileemelcllaa
set_option linter.unusedVariables false

/-- as far as k: each sector is kept, and whole -/
def whl (keep : List Bool) (torn cut : Int) : Nat → Bool
  | 0 => true
  | k + 1 => whl keep torn cut k && decide (keep[k]? = some true) && (decide ((k : Int) ≠ torn) || decide (64 ≤ cut))
theorem whl_all {keep : List Bool} {torn cut : Int} : ∀ {n : Nat}, whl keep torn cut n = true → ∀ i : Nat, i < n → crashF keep torn cut i = 64
  | 0, _, i, hi => by omega
  | n + 1, h, i, hi => by
    unfold whl at h
    simp only [Bool.and_eq_true, Bool.or_eq_true, decide_eq_true_eq] at h
    obtain ⟨⟨h1, h2⟩, h3⟩ := h
    by_cases e : i < n
    · exact whl_all h1 i e
    · obtain rfl : i = n := by omega
      unfold crashF
      rw [if_pos h2]
      by_cases q : (i : Int) = torn
      · rw [if_pos q]
        have : (64 : Int) ≤ cut := h3.elim (fun k => absurd q k) id
        unfold clamp; omega
      · rw [if_neg q]
theorem pgenc_1 {x : List UInt8} (h : x.length ≤ 244) : (pgenc 1 x).2 = 0 := by rw [pgenc_yes (by decide) (by omega)]
theorem crash_chain {a b : List UInt8} (ha : a.length ≤ 244) (hb : b.length ≤ 244) (keep : List Bool) (torn cut : Int) :
    ∃ (D1 D2 D3 D4 : Dsk) (rx : List UInt8) (re : Int), pgwrite (z64s 4, []) 0 1 a = (D1, 0) ∧ dflush D1 = (D2, 0) ∧ pgwrite D2 0 1 b = (D3, 0) ∧ dcrash D3 keep torn cut = (D4, 0) ∧ pgread D4 0 1 = (rx, re) ∧ D1.2.length = 4 ∧ (re = 0 ∨ re = 21 ∧ rx = []) ∧ (whl keep torn cut 4 = true → rx = b) := by
  have ok4 := dok_new (n := 4) (by decide) (by decide)
  have w1 := pgwrite_yes (d := (z64s 4, [])) (at' := 0) (id := 1) (x := a) ok4 (by decide) (by rw [z64s_len]; decide) (pgenc_1 ha) (by decide)
  obtain ⟨A, hA⟩ : ∃ A, A = pgencO (1 : Int).toNat a := ⟨_, rfl⟩
  obtain ⟨B, hB⟩ : ∃ B, B = pgencO (1 : Int).toNat b := ⟨_, rfl⟩
  have lA : A.length = 256 := by rw [hA]; exact pgenc_len _ ha
  have lB : B.length = 256 := by rw [hB]; exact pgenc_len _ hb
  rw [← hA] at w1
  have l0 := psec_len lA (i := 0) (by decide)
  have l1 := psec_len lA (i := 1) (by decide)
  have l2 := psec_len lA (i := 2) (by decide)
  have l3 := psec_len lA (i := 3) (by decide)
  have f1 : dflush (z64s 4, pws 0 A 4) = (([psec A 0, psec A 1, psec A 2, psec A 3], []), 0) := flush4 (a0 := List.replicate 64 0) (a1 := List.replicate 64 0) (a2 := List.replicate 64 0) (a3 := List.replicate 64 0) (by simp) (by simp) (by simp) (by simp) lA
  have w2 := pgwrite_yes (d := ([psec A 0, psec A 1, psec A 2, psec A 3], [])) (at' := 0) (id := 1) (x := b) (dok_four l0 l1 l2 l3) (by decide) (by simp) (pgenc_1 hb) (by simp)
  rw [← hB] at w2
  obtain ⟨t0, t1, t2, t3, c1, q0, q1, q2, q3, hw⟩ := crash4 l0 l1 l2 l3 lB keep torn cut
  refine ⟨_, _, _, _, (pgread ([t0, t1, t2, t3], []) 0 1).1, (pgread ([t0, t1, t2, t3], []) 0 1).2, w1, f1, w2, c1, rfl, pws_len _ _ _, ?_, fun h => ?_⟩
  · rcases pgread_either (id := 1) (pgsect4 q0 q1 q2 q3) with h | h
    · exact .inl h
    · rw [h]; exact .inr ⟨rfl, rfl⟩
  · have := pgread4 q0 q1 q2 q3 (id := 1) (x := b) (by decide) hb (by rw [hw (whl_all h), hB]; rfl)
    rw [show ((1 : Nat) : Int) = 1 from rfl] at this
    rw [this]

end Go.Proofs.Ytliileemelcllaa

/-
  The page's New of disks.
-/
namespace Go.Proofs.Ytliileemelcllaa
open Go.RowKit
set_option linter.unusedVariables false

set_option maxRecDepth 100000 in
set_option maxHeartbeats 2000000 in
theorem rdnew_any (w : World) (n : Nat) (h1 : 1 ≤ n) (h2 : n ≤ 1024) :
    Calls Try.prog 26 #[.int .i64 (n : Int)] w fun e w' => ∃ sv' cv', e = .returned (.tuple #[.agg #[sv', cv'], .int .i64 0]) ∧ Own SStR w.heap.size w' [sv', cv'] (List.replicate n (List.replicate 64 0), []) ∧ Below w.heap.size w w' := by
  obtain ⟨i0, hi, hz0, hz1, hz2⟩ := info_parts infoB
  have hmk := make_64
  obtain ⟨W, hW, hZ, hT, bW, sW⟩ := boxes w (.slice none 0 0) (.slice none 0 0) 40
  have st0 : BoxSt SStR 40 (w.heap.size + 1) (w.heap.size + 1) W (.slice none 0 0) (.slice none 0 0) ([], []) :=
    ⟨hT, [], ⟨⟨[.slice none 0 0], [.slice none 0 0], [], [], rfl, rfl, ⟨_, [], [], rfl, World.ownsRow_nil _ _ _ _, ⟨rfl, rfl⟩, by simp [Value.ownBlock]⟩, ⟨_, [], [], rfl, World.ownsRow_nil _ _ _ _, ⟨rfl, rfl⟩, by simp [Value.ownBlock]⟩⟩, List.nodup_nil⟩, fun b hb => by (cases hb), by simp⟩
  have ST0 := hide st0
  have HZ := hide hZ
  have BW := hide bW
  clear st0 hZ hT bW
  have q1 : ¬ (n : Int) < 1 := by omega
  have q2 : ¬ (1024 : Int) < (n : Int) := by omega
  go_enter Try.func26, Try.ntmps26
  go_wp2
  rw [← hW]
  replace hW := hide hW
  go_loopw [5] (fun i wr => ∃ (k : Nat) (l : Value), k ≤ n ∧ i = .int .i64 k ∧ BoxSt SStR 40 (w.heap.size + 1) (w.heap.size + 1) wr l (.slice none 0 0) (List.replicate k (List.replicate 64 0), []) ∧ Below (w.heap.size + 1) W wr) (fun i _ => n - (intOf i).toNat)
  case atStart => exact ⟨0, _, Nat.zero_le _, rfl, ST0.out, Below.refl _ _⟩
  case round =>
    obtain ⟨k, l, hk, rfl, ⟨hT, F, hF, hFB, hgF⟩, hb⟩ := hrel
    clear ST0
    obtain ⟨T0, T1, _, _⟩ := row2_cells hT
    have hsz : w.heap.size + 1 < wr.heap.size := lt_of_block hT
    by_cases hlt : k < n
    · have hq : (k : Int) < (n : Int) := by omega
      obtain ⟨cc, rowT, fin⟩ := OwnF.litFst (c0 := [.slice none 0 0]) hF (n := k) (by simp)
      have hsn : List.replicate k (List.replicate 64 (0 : UInt8)) ++ [List.replicate 64 0] = List.replicate (k + 1) (List.replicate 64 0) := List.replicate_succ'.symm
      have FIN : Hid (∀ (w2 : World) (v2 : Value) (w5 : World) (g cap : Nat), Below wr.heap.size wr.drew w2 → OwnB wr.heap.size w2 v2 (List.replicate 64 0) → (w2.alloc (.cells #[v2] 22)).grownBy w5 l.ownBlock →
          w5.ownsRow 0 22 1 (.slice (some ⟨g, 0, none⟩) (k + 1) cap) (k + 1) (cc ++ [v2]) → (l.ownBlock = some g ∨ g = w2.heap.size + 1) →
          (w5.cell? ⟨w.heap.size + 1, 0, none⟩ = some l ∧ w5.frozen? ⟨w.heap.size + 1, 0, none⟩ = false) ∧ Hid (BoxSt SStR 40 (w.heap.size + 1) (w.heap.size + 1) (w5.setCell ⟨w.heap.size + 1, 0, none⟩ (.slice (some ⟨g, 0, none⟩) (k + 1) cap)) (.slice (some ⟨g, 0, none⟩) (k + 1) cap) (.slice none 0 0) (List.replicate (k + 1) (List.replicate 64 0), []) ∧ Below (w.heap.size + 1) W (w5.setCell ⟨w.heap.size + 1, 0, none⟩ (.slice (some ⟨g, 0, none⟩) (k + 1) cap)))) := fun w2 v2 w5 g cap k1 k2 k3 k4 k5 => by
        obtain ⟨⟨F', q1, q2⟩, q3, q4⟩ := fin w2 [v2] (List.replicate 64 0) 22 _ w5 g cap ((Below.refl _ _).drew.trans k1) k2.toOwn rfl rfl rfl rfl k3 k4 k5
        rw [hsn] at q1
        have hT5 := (q4 _ hsz hgF).trans hT
        obtain ⟨t0, _, t2, _⟩ := row2_cells hT5
        have hgF' : w.heap.size + 1 ∉ F' := fun hm => (q2 _ hm).elim hgF (fun h => by omega)
        refine ⟨⟨t0, t2⟩, ⟨set_row0 hT5 _, F', q1.set hgF' _, fun b hb' => (q2 b hb').elim (hFB b) (fun h => by omega), hgF'⟩, ?_⟩
        exact (hb.trans (q3 (w.heap.size + 1) hFB (by omega))).setCell (p := ⟨w.heap.size + 1, 0, none⟩) (Nat.le_refl _) _
      have ROW : Hid (∀ u, Below wr.heap.size wr.drew u → ∀ o : Obj, (u.alloc o).ownsRow 0 22 1 l k cc) := fun u hu o => rowT _ (((Below.refl _ _).drew.trans hu).alloc hu.size o)
      have om := own_made wr.drew 64 (by unfold maxLen; omega)
      have hd : wr.drew.heap.size = wr.heap.size := rfl
      rw [hd] at om
      have h63 : k + 1 ≤ maxLen := by rw [show maxLen = 9223372036854775807 from rfl]; omega
      have hby : (k + 1) * 24 ≤ 140737488355328 := by omega
      obtain ⟨w2, hw2⟩ : ∃ w2, w2 = wr.drew.alloc (.cells (madeCells #[.int .u8 0] 64) 5) := ⟨_, rfl⟩
      rw [← hw2] at om
      have b2 : Below wr.heap.size wr.drew w2 := by rw [hw2]; exact (Below.refl wr.drew.heap.size wr.drew).alloc (Nat.le_refl _) _
      clear fin rowT hsn hF hFB hb hT
      obtain ⟨ll, lc, hl⟩ : ∃ ll lc, l = .slice ll k lc := by
        rcases (ROW.out wr.drew (Below.refl _ _) (.cells #[] 0)).2 with ⟨rfl, rfl⟩ | ⟨g, cap, cur, rfl, _⟩
        · exact ⟨_, _, rfl⟩
        · exact ⟨_, _, rfl⟩
      subst hl
      go_wp2
      refine wp_region_mid (fun w' => w'.cell? ⟨w.heap.size + 1, 0, none⟩ = some (.slice ll k lc)) 2 4 mixed (by kernel_rfl) (fun _ _ _ _ h => h) T0 ?_
      dsimp only [List.take, List.drop]
      iterate 2
        refine take_one (v := ?_) (by rfl) ?_ ?_
        rotate_left
        · rintro w' s1
          go_simp
          try with_reducible rfl
        try simp only [Act.put, List.setIfInBounds_toArray, List.set_cons_zero, List.set_cons_succ]
      refine mid_one fun K hK => ?_
      rw [if_pos (by rfl)]
      go_simp
      rw [← show w2 = (wr.alloc (.cells (madeCells #[.int .u8 0] 64) 5)).drew from hw2]
      replace hw2 := hide hw2
      have x3 := (b2.cell (p := ⟨w.heap.size + 1, 0, none⟩) (cell_lt T0)).trans T0
      refine hK _ _ x3 ?_
      clear hK K
      try simp only [Act.put, List.setIfInBounds_toArray, List.set_cons_zero, List.set_cons_succ]
      refine mid_one fun K hK => ?_
      rw [if_pos (by rfl)]
      go_simp
      refine hK _ _ (cell_alloc x3 _) ?_
      clear hK K
      show wpList _ _ _ _ _ _
      go_wp2_with (at_builtin; refine wpList_append_lies _ rfl _ _ 37 rfl 0 22 i0 _ 1 24 Try.underlying37 hi hz0 hz1 hz2 rfl (by decide) (.slice ll k lc) k cc rfl (ROW.out w2 b2 _) ⟨w2.heap.size, 0, none⟩ 1 1 [.slice (some ⟨wr.heap.size, 0, none⟩) 64 64] rfl rfl (World.news_of_block (heap_alloc_last w2 _)) (by simp [Value.oneCell']) (by decide) h63 hby (Nat.zero_le _) (w2.heap.size + 1) (by simp) ?_; intro g cap w5 ho5 hg5 hat5 hlt5; obtain ⟨⟨y5, y6⟩, HF⟩ := FIN.out w2 _ w5 g cap b2 om hg5 ho5 hat5; clear ho5 hg5 hat5 FIN ROW om b2)
      go_roundw
      case rel => exact ⟨k + 1, _, by omega, by go_num, HF.out⟩
      case measure => simp [intOf]; omega
    · obtain rfl : k = n := by omega
      have hq : ¬ (k : Int) < (k : Int) := by omega
      have cw := BW.out.trans (hb.mono (show w.heap.size ≤ w.heap.size + 1 by omega))
      have Z2 := (hb.block w.heap.size (by omega)).trans HZ.out
      obtain ⟨z0, z1, z2, z3⟩ := row2_cells Z2
      obtain ⟨p1, e1, r1⟩ : ∃ v, [l] = [v] ∧ RdS Shp.octs wr v (List.replicate k (List.replicate 64 0)) := by
        obtain ⟨F1, F2, _, o1, o2, _⟩ := OwnF.split (c := [l]) (d := [.slice none 0 0]) hF rfl
        exact o1.rd
      simp at e1; subst e1
      obtain ⟨av, ca, rfl⟩ := r1.slice
      rw [List.length_replicate] at *
      have hgF2 : w.heap.size ∉ F := fun hm => by have := hFB _ hm; omega
      have OO := hide ((hF.set (a := ⟨w.heap.size, 0, none⟩) hgF2 (.slice av k ca)).set (a := ⟨w.heap.size, 1, none⟩) hgF2 (.slice none 0 0))
      have ZZ := hide Z2
      have FB := hide hFB
      have CC := hide cw
      clear hF hFB hgF hT hb cw Z2 r1
      go_wp2
      refine ret_cellT rfl rfl w.heap.size rfl _ _ _ _ (heap_set2 ZZ.out _ _) _ Try.underlying40 rfl info_stR _ rfl ?_
      exact ⟨_, _, rfl, OO.out.own fun b hb => by have := FB.out b hb; omega, below_set2 CC.out (Nat.le_refl _) _ _⟩

end Go.Proofs.Ytliileemelcllaa

/-
  Pages, the program's: the checksum as octets, and Encode.
-/
namespace Go.Proofs.Ytliileemelcllaa
open Go.RowKit
set_option linter.unusedVariables false

set_option maxRecDepth 100000 in
theorem pgsumOf_any (w : World) (v : Value) (xs : List UInt8) (h : Rd w v xs) (hm : xs.length ≤ 1000) :
    Calls Try.prog 31 #[v] w fun e w' => ∃ v', e = .returned v' ∧ OwnB w.heap.size w' v' (oc (sum xs) 4) ∧ Below w.heap.size w w' := by
  obtain ⟨a, c, rfl⟩ := h.slice
  have hS := sum_lt xs
  have hws := psum64 xs
  unfold M32 at hS
  go_enter Try.func31, Try.ntmps31
  go_wp2_with fail
  refine (sum_any w _ xs h (by omega)).mono ?_
  rintro e w1 ⟨rfl, b1⟩
  have KP := hide (put_yes (sum xs) 4 w1 (by decide) (by decide) (by omega) (by omega))
  generalize hSe : sum xs = S at *
  replace hSe := hide hSe
  go_wp2_with fail
  refine KP.out.mono ?_
  rintro e w2 ⟨v2, rfl, o2, b2⟩
  go_wp2
  go_ret
  exact ⟨_, rfl, by rw [hSe.out]; exact o2.mono b1.size, b1.trans (b2.mono b1.size)⟩
theorem strCells_pg : Lib.strCells ⟨#[112, 103]⟩ = pgmark.map enc := by rfl

set_option maxRecDepth 100000 in
set_option maxHeartbeats 4000000 in
theorem pgencP_any (w : World) (id : Int) (v : Value) (d : List UInt8) (hrd : Rd w v d) :
    Calls Try.prog 10 #[.int .i64 id, v] w fun e w' => ∃ v', e = .returned (.tuple #[v', .int .i64 (pgenc id d).2]) ∧ OwnB w.heap.size w' v' (pgenc id d).1 ∧ Below w.heap.size w w' := by
  obtain ⟨i0, hi, hz0, hz1, hz2⟩ := info_parts info8
  obtain ⟨a, c, rfl⟩ := hrd.slice
  by_cases h1 : id < 0
  · rw [pgenc_range (.inl h1)]
    go_enter Try.func10, Try.ntmps10
    go_wp2
    go_ret2
    exact ⟨_, rfl, World.ownsRow_nil _ _ _ _, Below.refl _ _⟩
  · by_cases h2 : 2147483647 < id
    · rw [pgenc_range (.inr h2)]
      go_enter Try.func10, Try.ntmps10
      go_wp2
      go_ret2
      exact ⟨_, rfl, World.ownsRow_nil _ _ _ _, Below.refl _ _⟩
    · by_cases h3 : 244 < d.length
      · have hq : (244 : Int) < (d.length : Int) := by omega
        rw [pgenc_long (by omega) h3]
        go_enter Try.func10, Try.ntmps10
        go_wp2
        go_ret2
        exact ⟨_, rfl, World.ownsRow_nil _ _ _ _, Below.refl _ _⟩
      · have hq : ¬ (244 : Int) < (d.length : Int) := by omega
        rw [pgenc_yes (by omega) h3]
        obtain ⟨m, rfl⟩ : ∃ m : Nat, id = (m : Int) := ⟨id.toNat, by omega⟩
        rw [Int.toNat_natCast]
        have hm : m ≤ 2147483647 := by omega
        have hwl : IntKind.u64.wrap (d.length : Int) = (d.length : Int) := by rw [IntKind.wrap_u64]; omega
        have hwm : IntKind.u64.wrap (m : Int) = (m : Int) := by rw [IntKind.wrap_u64]; omega
        have KP1 := hide (put_yes d.length 2 w (by decide) (by decide) (by omega) (by omega))
        have KP2 := hide (fun u => put_yes m 4 u (by decide) (by decide) (by omega) (by omega))
        have gd := hide hrd
        clear hrd
        go_enter Try.func10, Try.ntmps10
        go_wp2_with fail
        refine KP1.out.mono ?_
        rintro e w1 ⟨v1, rfl, o1, b1⟩
        go_wp2_with fail
        refine (KP2.out w1).mono ?_
        rintro e w2 ⟨v2, rfl, o2, b2⟩
        clear KP1 KP2
        have c2 := b1.trans (b2.mono b1.size)
        have o1' := o1.below (Nat.le_refl _) b2
        have hle1 := c2.size
        obtain ⟨w3, hmk, own3, gr3⟩ := run_make_own (P := Try.prog) w2 w2.heap.size 22 5 i0 (.int .u8 0) 1 Try.underlying22 hi hz0 hz1 .i64 .i64 256 (by rw [hz2]; decide) (by decide) (Nat.le_refl _)
        replace hmk : (Instr.makeSlice 22 (.int .i64 0) (.int .i64 256)).run Try.prog w2 = .ok (.slice (some ⟨w2.heap.size, 0, none⟩) 0 256) w3 := hmk
        have b3 : Below w2.heap.size w2 w3 := (Below.refl _ _).grown gr3 (Nat.le_refl _) (fun k hk => by cases hk)
        have r1 := hide o1'.rd
        have r2 := hide o2.rd
        have r3 := hide (gd.out.to c2)
        have hw3 := b3.size
        have C2 := hide c2
        have l5 : pgmark.length + (oc d.length 2).length ≤ 140737488355328 := by rw [oc_length]; decide
        have l6 : (pgmark ++ oc d.length 2).length + (oc m 4).length ≤ 140737488355328 := by rw [List.length_append, oc_length, oc_length]; decide
        have e6 : (pgmark ++ oc d.length 2 ++ oc m 4).length = 8 := by rw [List.length_append, List.length_append, oc_length, oc_length]; rfl
        have l7 : (pgmark ++ oc d.length 2 ++ oc m 4).length + d.length ≤ 140737488355328 := by omega
        obtain ⟨K, hK⟩ : ∃ K, K = 8 + d.length := ⟨_, rfl⟩
        have e7 : (pgmark ++ oc d.length 2 ++ oc m 4 ++ d).length = K := by rw [List.length_append, e6, hK]
        have hKq : (K : Int) ≤ 252 := by omega
        have hz : Hid (∀ v7 w7, OwnB w2.heap.size w7 v7 (pgmark ++ oc d.length 2 ++ oc m 4 ++ d) → Below w2.heap.size w2 w7 → ∃ v8 w8, (Builtin.append_ #[22, 3] 22 #[v7, .int .i64 (252 - (K : Int))]).run Try.prog w7 = .ok v8 w8 ∧ OwnB w2.heap.size w8 v8 (pghead m d) ∧ Below w2.heap.size w2 w8) := fun v7 w7 o7 b7 => by
          obtain ⟨v8, w8, hr8, o8, gr8⟩ := run_append_zeros w7 22 o7 (244 - d.length) (by omega) b7.size
          refine ⟨v8, w8, ?_, o8, b7.grown gr8 (by exact b7.size) o7.from⟩
          rw [show (252 - (K : Int)) = ((244 - d.length : Nat) : Int) by omega]
          exact hr8
        have hpl := hide (pghead_len m (d := d) (by omega))
        replace hK := hide hK
        replace e6 := hide e6
        replace e7 := hide e7
        clear o1 o1' o2 b1 b2 c2 gd
        go_wp2_with (first
          | (at_builtin; refine Lib.wpList_append_own_string _ rfl _ _ 22 9 rfl w2.heap.size 5 i0 Try.underlying22 Try.underlying9 hi hz0 hz1 hz2 _ 0 [] rfl own3 ⟨#[112, 103]⟩ rfl (by decide) (by decide) hw3 ?_; intro v4 w4 own4 gr4 _; rw [strCells_pg] at own4; have o4 : OwnB w2.heap.size w4 v4 pgmark := own4; have b4 := b3.grown gr4 (by exact hw3) (fun k hk => (World.ownsRow.lt own3 k hk).1); clear own4 gr4)
          | (at_builtin; refine wpList_append_octs rfl _ _ rfl w2.heap.size _ _ _ _ rfl rfl o4 (r1.out.to b4) l5 b4.size ?_; intro v5 w5 o5 g5 _; have b5 := b4.trans g5)
          | (at_builtin; refine wpList_append_octs rfl _ _ rfl w2.heap.size _ _ _ _ rfl rfl o5 (r2.out.to b5) l6 b5.size ?_; intro v6 w6 o6 g6 _; have b6 := b5.trans g6)
          | (at_builtin; refine wpList_append_octs rfl _ _ rfl w2.heap.size _ _ _ _ rfl rfl o6 (r3.out.to b6) l7 b6.size ?_; intro v7 w7 o7 g7 _; obtain ⟨v8, w8, hr8, o8, b8⟩ := hz.out v7 w7 o7 (b6.trans g7); obtain ⟨ha, hc, hv⟩ := o7.rd.slice; rw [e7.out] at hv; subst hv; clear o4 o5 o6 o7 g5 g6 g7 b4 b5 b6)
          | (at_builtin; refine Lib.wpList_append_run _ rfl _ _ _ _ rfl _ _ rfl rfl _ _ hr8 ?_))
        clear hr8 hmk own3 gr3 b3 hw3 hz r1 r2 r3 l5 l6 l7
        have KS := hide (pgsumOf_any w8 _ _ o8.rd (by rw [hpl.out]; decide))
        refine KS.out.mono ?_
        rintro e w9 ⟨v9, rfl, o9, b9⟩
        clear KS
        have oA := o8.below (Nat.le_refl _) b9
        have bA := b8.trans (b9.mono b8.size)
        have lA : (pghead m d).length + (oc (sum (pghead m d)) 4).length ≤ 140737488355328 := by rw [hpl.out, oc_length]; decide
        go_wp2_with (at_builtin; refine wpList_append_octs rfl _ _ rfl w2.heap.size _ _ _ _ rfl rfl oA o9.rd lA bA.size ?_; intro v10 w10 o10 g10 _)
        go_ret2
        exact ⟨_, rfl, by unfold pgencO; exact o10.mono C2.out.size, C2.out.trans ((bA.trans g10).mono C2.out.size)⟩

end Go.Proofs.Ytliileemelcllaa

/-
  Pages, the program's: what a page's checksum and mark say (checkSeal), and Decode.
-/
namespace Go.Proofs.Ytliileemelcllaa
open Go.RowKit
set_option linter.unusedVariables false

noncomputable def pgseal (x : List UInt8) : Int := if x.length ≠ 256 then 3 else if numOf (x.drop 252) ≠ sum (x.take 252) then 21 else if x.take 2 ≠ pgmark then 22 else 0
theorem pgseal_3 {b : List UInt8} (h : b.length ≠ 256) : pgseal b = 3 := if_pos h
theorem pgseal_21 {b : List UInt8} (h : b.length = 256) (h2 : numOf (b.drop 252) ≠ sum (b.take 252)) : pgseal b = 21 := by
  unfold pgseal; rw [if_neg (fun k => k h), if_pos h2]
theorem pgseal_22 {b : List UInt8} (h : b.length = 256) (h2 : numOf (b.drop 252) = sum (b.take 252)) (h3 : b.take 2 ≠ pgmark) : pgseal b = 22 := by
  unfold pgseal; rw [if_neg (fun k => k h), if_neg (fun k => k h2), if_pos h3]
theorem pgseal_0 {b : List UInt8} (h : b.length = 256) (h2 : numOf (b.drop 252) = sum (b.take 252)) (h3 : b.take 2 = pgmark) : pgseal b = 0 := by
  unfold pgseal; rw [if_neg (fun k => k h), if_neg (fun k => k h2), if_neg (fun k => k h3)]
theorem pgseal_yes {b : List UInt8} (h : pgseal b = 0) : b.length = 256 ∧ numOf (b.drop 252) = sum (b.take 252) ∧ b.take 2 = pgmark := by
  by_cases h1 : b.length = 256
  · by_cases h2 : numOf (b.drop 252) = sum (b.take 252)
    · by_cases h3 : b.take 2 = pgmark
      · exact ⟨h1, h2, h3⟩
      · rw [pgseal_22 h1 h2 h3] at h; cases h
    · rw [pgseal_21 h1 h2] at h; cases h
  · rw [pgseal_3 h1] at h; cases h
theorem pgdec_seal {b : List UInt8} (h : pgseal b ≠ 0) : pgdec b = (0, [], pgseal b) := by
  by_cases h1 : b.length = 256
  · by_cases h2 : numOf (b.drop 252) = sum (b.take 252)
    · by_cases h3 : b.take 2 = pgmark
      · exact absurd (pgseal_0 h1 h2 h3) h
      · rw [pgseal_22 h1 h2 h3, pgdec_22 h1 h2 h3]
    · rw [pgseal_21 h1 h2, pgdec_21 h1 h2]
  · rw [pgseal_3 h1, pgdec_3 h1]
/-- four octets are a number's just if the number is theirs -/
theorem oc4_iff {y : List UInt8} {n : Nat} (hl : y.length = 4) (hn : n < 4294967296) : y = oc n 4 ↔ numOf y = n := by
  constructor
  · rintro rfl; exact numOf_oc _ _ (by omega)
  · intro h; exact pnumOf_inj (by rw [oc_length, hl]) (by rw [h, numOf_oc _ _ (by omega)])

set_option maxRecDepth 100000 in
set_option maxHeartbeats 4000000 in
theorem pgseal_any (w : World) (v : Value) (x : List UInt8) (hx : Rd w v x) : Calls Try.prog 34 #[v] w fun e w' => e = .returned (.int .i64 (pgseal x)) ∧ Below w.heap.size w w' := by
  by_cases h1 : x.length = 256
  · obtain ⟨b, o, c, rfl, hc, hcm, hR, hC⟩ := rdN hx h1 (by decide)
    have hS := sum_lt (x.take 252)
    unfold M32 at hS
    have r252 : Rd w (.slice (some ⟨b, o, none⟩) 252 c) (x.take 252) := by simpa using hR 0 252 (by omega) (by omega)
    have rS : Rd w (.slice (some ⟨b, o + 252, none⟩) 4 (c - 252)) (x.drop 252) := by
      have := hR 252 256 (by omega) (by omega)
      rwa [List.take_of_length_le (by omega)] at this
    have r2 : Rd w (.slice (some ⟨b, o, none⟩) 2 c) (x.take 2) := by simpa using hR 0 2 (by omega) (by omega)
    have lS : (x.drop 252).length = 4 := by rw [List.length_drop]; omega
    have l252 : (x.take 252).length = 252 := by rw [List.length_take]; omega
    have hq252 : (252 : Int) ≤ (c : Int) := by omega
    have hq256 : (256 : Int) ≤ (c : Int) := by omega
    have hq2 : (2 : Int) ≤ (c : Int) := by omega
    have hn252 : ¬ c = 252 := by omega
    have K1 := hide (fun u (h : Rd u (.slice (some ⟨b, o, none⟩) 252 c) (x.take 252)) => pgsumOf_any u _ _ h (by omega))
    have hS4 := oc4_iff lS hS
    have HR := hide (And.intro r252 (And.intro rS r2))
    have HL := hide lS
    have HI := hide hS4
    have h1' := hide h1
    clear r252 rS r2 lS l252 hS4 hS h1 hx hR hC hc hcm
    go_enter Try.func34, Try.ntmps34
    go_wp2_with fail
    refine wp_region_mid (fun _ => True) 4 5 mixed (by kernel_rfl) (fun _ _ _ _ h => h) trivial ?_
    dsimp only [List.take, List.drop]
    iterate 4
      refine take_one (v := ?_) (by rfl) ?_ ?_
      rotate_left
      · intro w' s1
        go_simp
        try with_reducible rfl
      try simp only [Act.put, List.setIfInBounds_toArray, List.set_cons_zero, List.set_cons_succ]
    refine mid_one fun K hK => ?_
    refine step_call (by rfl) 31 _ _ (by rfl) #[.slice (some ⟨b, o, none⟩) 252 c] (by simp [Act.eval]) (Try.call31 _ _) (K1.out w.drew (HR.out.1.drewN 1)) ?_
    rintro e w1 ⟨v1, rfl, o1, b1⟩
    refine ⟨_, rfl, hK _ _ trivial ?_⟩
    clear hK K
    try simp only [Act.put, List.setIfInBounds_toArray, List.set_cons_zero, List.set_cons_succ]
    show wpList _ _ _ _ _ _
    clear K1
    have c1 : Below w.heap.size w w1 := (Below.refl _ _).drew.trans b1
    have K2 := hide (bytesEq_any w1 _ _ _ _ (HR.out.2.1.to c1) o1.rd (by rw [HL.out]; decide) (by rw [oc_length]; decide))
    have k2 := conv_rd (HR.out.2.2.to c1) (by rw [List.length_take, h1'.out]; decide)
    obtain ⟨va, vc, rfl⟩ := o1.rd.slice
    rw [oc_length] at K2 ⊢
    clear o1 b1
    by_cases h2 : x.drop 252 = oc (sum (x.take 252)) 4
    · have h2' := hide (HI.out.1 h2)
      rw [sameB_eq h2] at K2
      clear h2
      go_wp2_with fail
      refine K2.out.mono ?_
      rintro e w' ⟨rfl, rfl⟩
      clear K2
      by_cases h3 : x.take 2 = pgmark
      · have hE := hide (pgseal_0 h1'.out h2'.out h3)
        rw [h3] at k2
        replace h3 := hide h3
        go_wp2
        go_ret
        exact ⟨ret_int hE.out.symm, c1⟩
      · have hE := hide (pgseal_22 h1'.out h2'.out h3)
        have hd2 : (x.take 2 == [112, 103]) = false := beq_eq_false_iff_ne.2 h3
        replace h3 := hide h3
        go_wp2
        go_ret
        exact ⟨ret_int hE.out.symm, c1⟩
    · have hE := hide (pgseal_21 h1'.out (fun k => h2 (HI.out.2 k)))
      rw [sameB_ne h2] at K2
      replace h2 := hide h2
      go_wp2_with fail
      refine K2.out.mono ?_
      rintro e w' ⟨rfl, rfl⟩
      go_wp2
      go_ret
      exact ⟨ret_int hE.out.symm, c1⟩
  · have hq : ((x.length : Int) != 256) = true := by simp only [bne_iff_ne]; omega
    have hE := hide (pgseal_3 h1)
    obtain ⟨a, c, rfl⟩ := hx.slice
    replace h1 := hide h1
    go_enter Try.func34, Try.ntmps34
    go_wp2
    go_ret
    exact ⟨ret_int hE.out.symm, Below.refl _ _⟩

set_option maxRecDepth 100000 in
set_option maxHeartbeats 4000000 in
theorem pgdecP_any (w : World) (v : Value) (x : List UInt8) (hx : Rd w v x) : Calls Try.prog 12 #[v] w fun e w' => ∃ v', e = .returned (.tuple #[.int .i64 (pgdec x).1, v', .int .i64 (pgdec x).2.2]) ∧ OwnB w.heap.size w' v' (pgdec x).2.1 ∧ Below w.heap.size w w' := by
  have KO := hide (pgseal_any w v x hx)
  by_cases h0 : pgseal x = 0
  · rw [h0] at KO
    obtain ⟨h1, h2, h3⟩ := pgseal_yes h0
    have D5 := hide (fun h => @pgdec_5 x h1 h2 h3 h)
    have D4 := hide (fun h => @pgdec_4 x h1 h2 h3 h)
    have D23 := hide (fun h => @pgdec_23 x h1 h2 h3 h)
    have D0 := hide (fun h => @pgdec_0 x h1 h2 h3 h)
    obtain ⟨b, o, c, rfl, hc, hcm, hR, hC⟩ := rdN hx h1 (by decide)
    have ll : ((x.take 4).drop 2).length = 2 := by rw [List.length_drop, List.length_take]; omega
    have li : ((x.take 8).drop 4).length = 4 := by rw [List.length_drop, List.length_take]; omega
    have KG := hide (fun u h => get_yes u (.slice (some ⟨b, o + 2, none⟩) 2 (c - 2)) ((x.take 4).drop 2) h (by omega) (by omega))
    have KI := hide (fun u h => get_yes u (.slice (some ⟨b, o + 4, none⟩) 4 (c - 4)) ((x.take 8).drop 4) h (by omega) (by omega))
    obtain ⟨pn, pn2⟩ := pgn_int x (by omega)
    have pi2 : pgid x < 4294967296 := by
      have := numTo_lt ((x.take 8).drop 4) ((x.take 8).drop 4).length
      unfold pgid numOf
      rw [li] at this ⊢
      omega
    rw [show numOf ((x.take 4).drop 2) = pgn x from rfl] at KG
    rw [show numOf ((x.take 8).drop 4) = pgid x from rfl] at KI
    obtain ⟨n, hn⟩ : ∃ n, n = pgn x := ⟨_, rfl⟩
    obtain ⟨I, hI⟩ : ∃ I, I = pgid x := ⟨_, rfl⟩
    rw [← hn] at KG pn2 D5 D4 D23 D0
    rw [← hI] at KI pi2 D4 D23 D0
    have hq4 : (4 : Int) ≤ (c : Int) := by omega
    have hq8 : (8 : Int) ≤ (c : Int) := by omega
    have hq252 : (252 : Int) ≤ (c : Int) := by omega
    have hn2 : ¬ c = 2 := by omega
    have hn4 : ¬ c = 4 := by omega
    have hn8 : ¬ c = 8 := by omega
    have hwn : IntKind.i64.wrap (n : Int) = (n : Int) := by rw [IntKind.wrap_i64]; omega
    have hwI : IntKind.i64.wrap (I : Int) = (I : Int) := by rw [IntKind.wrap_i64]; omega
    have HR := hide hR
    have h1' := hide h1
    have hc' := hide hc
    replace hn := hide hn
    replace hI := hide hI
    clear h0 h1 h2 h3 hx hR hC hc hcm ll li pn
    go_enter Try.func12, Try.ntmps12
    go_wp2_with fail
    refine KO.out.mono ?_
    rintro e w1 ⟨rfl, b1⟩
    clear KO
    go_wp2_with fail
    refine (KG.out w1 ((HR.out 2 4 (by omega) (by omega)).to b1)).mono ?_
    rintro e w2 ⟨rfl, b2⟩
    clear KG
    have c2 := b1.trans (b2.mono b1.size)
    go_wp2_with fail
    refine (KI.out w2 ((HR.out 4 8 (by omega) (by omega)).to c2)).mono ?_
    rintro e w3 ⟨rfl, b3⟩
    clear KI
    have c3 := c2.trans (b3.mono c2.size)
    clear b1 b2 b3 c2
    by_cases h4 : 244 < n
    · have hq : (244 : Int) < (n : Int) := by omega
      have hD := hide (D5.out h4)
      replace h4 := hide h4
      go_wp2
      go_ret3
      rw [hD.out]
      exact ⟨_, rfl, World.ownsRow_nil _ _ _ _, c3⟩
    · have hq : ¬ (244 : Int) < (n : Int) := by omega
      by_cases h5 : 2147483647 < I
      · have hq5 : (2147483647 : Int) < (I : Int) := by omega
        have hD := hide (D4.out h4 h5)
        replace h4 := hide h4
        replace h5 := hide h5
        go_wp2
        go_ret3
        rw [hD.out]
        exact ⟨_, rfl, World.ownsRow_nil _ _ _ _, c3⟩
      · have hq5 : ¬ (2147483647 : Int) < (I : Int) := by omega
        have hn244 : n ≤ 244 := by omega
        have D23' := hide (D23.out h4 h5)
        have D0' := hide (D0.out h4 h5)
        have hq8n : (8 : Int) ≤ 8 + (n : Int) := by omega
        have hqn : 8 + (n : Int) ≤ (c : Int) := by omega
        have hqn2 : 8 + (n : Int) ≤ 252 := by omega
        have hnn : ¬ c = 8 + n := by have := hc'.out; omega
        replace h4 := hide h4
        replace h5 := hide h5
        go_wp2_with fail
        go_quiet (fail)
        obtain ⟨w4, hw4⟩ : ∃ u, u = w3.drewN nq := ⟨_, rfl⟩
        rw [← hw4]
        have c4 : Below w.heap.size w w4 := c3.trans (by rw [hw4]; exact below_drewN' w3 nq _)
        obtain ⟨R, hRe⟩ : ∃ R, R = 252 - (8 + n) := ⟨_, rfl⟩
        obtain ⟨D, hDe⟩ : ∃ D, D = 8 + n - 8 := ⟨_, rfl⟩
        rw [← hRe, ← hDe]
        have rT : Rd w4 (.slice (some ⟨b, o + (8 + n), none⟩) R (c - (8 + n))) ((x.take 252).drop (8 + n)) := by
          rw [hRe]; exact (HR.out (8 + n) 252 (by omega) (by omega)).to c4
        have rD : Rd w4 (.slice (some ⟨b, o + 8, none⟩) D (c - 8)) ((x.take (8 + n)).drop 8) := by
          rw [hDe]; exact (HR.out 8 (8 + n) (by omega) (by omega)).to c4
        have lT : ((x.take 252).drop (8 + n)).length = R := by rw [List.length_drop, List.length_take, h1'.out, hRe]; omega
        have hRn : R = 244 - n := by omega
        have hmk := make_octs (n := R) (by omega) w4
        have oz := own_made w4 R (by rw [show maxLen = 9223372036854775807 from rfl]; omega)
        obtain ⟨w5, hw5⟩ : ∃ u, u = w4.alloc (.cells (madeCells #[.int .u8 0] R) 5) := ⟨_, rfl⟩
        rw [← hw5] at hmk oz
        have b5 : Below w4.heap.size w4 w5 := by rw [hw5]; exact (Below.refl _ _).alloc (Nat.le_refl _) _
        have K3 := hide (bytesEq_at w5 _ _ _ _ _ _ _ _ _ _ (rT.to b5) oz.rd lT (by simp))
        have c5 := c4.trans (b5.mono c4.size)
        have KC := hide (bclone_at w5 _ _ _ _ _ (rD.to b5) (by rw [List.length_drop, List.length_take, h1'.out]; omega))
        replace hw4 := hide hw4
        replace hw5 := hide hw5
        replace hDe := hide hDe
        replace hRe := hide hRe
        rw [← hRn] at D23' D0'
        replace hRn := hide hRn
        clear rT rD lT oz b5 c4 c3
        by_cases h6 : (x.take 252).drop (8 + n) = List.replicate R 0
        · have hD := hide (D0'.out h6)
          rw [sameB_eq h6] at K3
          replace h6 := hide h6
          go_wp2_with fail
          refine K3.out.mono ?_
          rintro e w' ⟨rfl, rfl⟩
          clear K3
          go_wp2_with fail
          refine KC.out.mono ?_
          rintro e w6 ⟨v6, rfl, o6, b6⟩
          go_wp2
          go_ret3
          rw [hD.out]
          exact ⟨_, rfl, o6.mono c5.size, c5.trans (b6.mono c5.size)⟩
        · have hD := hide (D23'.out h6)
          rw [sameB_ne h6] at K3
          replace h6 := hide h6
          go_wp2_with fail
          refine K3.out.mono ?_
          rintro e w' ⟨rfl, rfl⟩
          clear K3
          go_wp2
          go_ret3
          rw [hD.out]
          exact ⟨_, rfl, World.ownsRow_nil _ _ _ _, c5⟩
  · have hD := hide (pgdec_seal h0)
    have hbe : (pgseal x != 0) = true := by simpa using h0
    obtain ⟨a, c, rfl⟩ := hx.slice
    replace h0 := hide h0
    go_enter Try.func12, Try.ntmps12
    go_wp2_with fail
    refine KO.out.mono ?_
    rintro e w1 ⟨rfl, b1⟩
    go_wp2
    go_ret3
    rw [hD.out]
    exact ⟨_, rfl, World.ownsRow_nil _ _ _ _, b1⟩

end Go.Proofs.Ytliileemelcllaa

/-
  Pages, the program's: whether a page has a place (checkPlace), and Read.
-/
namespace Go.Proofs.Ytliileemelcllaa
open Go.RowKit
set_option linter.unusedVariables false

set_option maxRecDepth 100000 in
set_option maxHeartbeats 1000000 in
theorem ppgsect_any (w : World) (sv cv : Value) (d : Dsk) (at' : Int) (h1 : RdSec w sv d.1) (h2 : RdC w cv d.2) :
    Calls Try.prog 41 #[.agg #[sv, cv], .int .i64 at'] w fun e w' => e = .returned (.int .i64 (pgsect d at')) ∧ Below w.heap.size w w' := by
  have lb := h1.bd
  obtain ⟨a1, c1, rfl⟩ := h1.slice
  obtain ⟨a2, c2, rfl⟩ := h2.slice
  obtain ⟨X, hX, X0, bX, sX⟩ := boxedN w #[.slice a1 d.1.length c1, .slice a2 d.2.length c2] 43
  obtain ⟨A0, A1, _, _⟩ := row2_cells X0
  have KC := hide (dcheck_any X _ _ d (h1.to0 bX) (h2.to0 bX))
  rw [hX] at A0 A1
  go_enter Try.func41, Try.ntmps41
  by_cases hok : DOk d
  · rw [dcheck_ok hok] at KC
    go_wp2_with fail
    rw [← hX]
    rw [← hX] at A0 A1
    replace hX := hide hX
    refine KC.out.mono ?_
    rintro e w1 ⟨rfl, b1⟩
    replace A0 := (b1.cell (cell_lt A0)).trans A0
    by_cases hl : at' < 0
    · have hE := hide (pgsect_41 hok (.inl hl))
      replace hok := hide hok
      go_wp2
      go_ret
      exact ⟨ret_int hE.out.symm, bX.trans (b1.mono bX.size)⟩
    · by_cases hl2 : (d.1.length : Int) - 4 < at'
      · have hE := hide (pgsect_41 hok (.inr hl2))
        replace hok := hide hok
        go_wp2
        go_ret
        exact ⟨ret_int hE.out.symm, bX.trans (b1.mono bX.size)⟩
      · have hE := hide (pgsect_0.2 ⟨hok, by omega, by omega⟩ : pgsect d at' = 0)
        replace hok := hide hok
        go_wp2
        go_ret
        exact ⟨ret_int hE.out.symm, bX.trans (b1.mono bX.size)⟩
  · rw [dcheck_no hok] at KC
    have hE := hide (pgsect_9 (at' := at') hok)
    replace hok := hide hok
    go_wp2_with fail
    rw [← hX]
    replace hX := hide hX
    refine KC.out.mono ?_
    rintro e w1 ⟨rfl, b1⟩
    go_wp2
    go_ret
    exact ⟨ret_int hE.out.symm, bX.trans (b1.mono bX.size)⟩

set_option maxRecDepth 100000 in
set_option maxHeartbeats 4000000 in
theorem ppgread_any (w : World) (sv cv : Value) (d : Dsk) (at' id : Int) (h1 : RdSec w sv d.1) (h2 : RdC w cv d.2) :
    Calls Try.prog 20 #[.agg #[sv, cv], .int .i64 at', .int .i64 id] w fun e w' => ∃ v', e = .returned (.tuple #[v', .int .i64 (pgread d at' id).2]) ∧ OwnB w.heap.size w' v' (pgread d at' id).1 ∧ Below w.heap.size w w' := by
  obtain ⟨a1, c1, rfl⟩ := h1.slice
  obtain ⟨a2, c2, rfl⟩ := h2.slice
  obtain ⟨X, hX, X0, bX, sX⟩ := boxedN w #[.slice a1 d.1.length c1, .slice a2 d.2.length c2] 43
  have H1 := hide (h1.to0 bX)
  have H2 := hide (h2.to0 bX)
  have KC := hide (ppgsect_any X _ _ d at' H1.out H2.out)
  obtain ⟨E, hE⟩ : ∃ E, E = pgsect d at' := ⟨_, rfl⟩
  rw [← hE] at KC
  obtain ⟨A0, A1, _, _⟩ := row2_cells X0
  rw [hX] at A0 A1
  go_enter Try.func20, Try.ntmps20
  go_wp2_with fail
  rw [← hX]
  clear A0 A1
  replace hX := hide hX
  refine KC.out.mono ?_
  rintro e w1 ⟨rfl, b1⟩
  clear KC h1 h2
  have X1 := hide ((b1.block _ (lt_of_block X0)).trans X0)
  have c1w := hide (bX.trans (b1.mono bX.size))
  replace H1 := hide (H1.out.to0 b1)
  replace H2 := hide (H2.out.to0 b1)
  have hlt : w.heap.size < w1.heap.size := lt_of_block X1.out
  clear X0 bX b1
  by_cases h0 : E = 0
  · have hsec : Hid (pgsect d at' = 0) := by show _ = _; rw [← hE]; exact h0
    subst h0
    replace hE := hide hE
    obtain ⟨hok, hp0, hp1⟩ := pgsect_0.1 hsec.out
    have hsl := hok.2.1
    have hgl := hide (pgot_len hok hp0 hp1)
    have hdl := hide (fun k p q => @dget_len d k hok p q)
    have hok' := hide hok
    clear hok
    go_wp2
    go_loopw [9, 22] (fun v i wr => ∃ K : Nat, K ≤ 4 ∧ i = .int .i64 K ∧ Hid (OwnB w1.heap.size wr v (pgot d at' K) ∧ Below w1.heap.size w1 wr)) (fun _ i _ => 4 - (intOf i).toNat)
    case atStart => exact ⟨0, by omega, rfl, hide ⟨World.ownsRow_nil _ _ _ _, Below.refl _ _⟩⟩
    case round =>
      obtain ⟨K, hK, rfl, hI⟩ := hrel
      by_cases hlk : K < 4
      · have hqk : (K : Int) < 4 := by omega
        obtain ⟨A0, A1, _, _⟩ := row2_cells ((hI.out.2.block _ hlt).trans X1.out)
        have KG := hide (dget_any wr _ _ d (at' + K) (H1.out.to0 hI.out.2) (H2.out.to0 hI.out.2))
        have hl64 := hide (hdl.out (at' + K) (by omega) (by omega))
        have hnx : Hid (pgot d at' (K + 1) = pgot d at' K ++ (dget d (at' + K)).1) := rfl
        obtain ⟨g, ge, hg⟩ : ∃ g ge, dget d (at' + K) = (g, ge) := ⟨_, _, rfl⟩
        rw [hg] at KG hl64 hnx
        dsimp only at KG hl64 hnx
        clear hg
        obtain ⟨Y, hY⟩ : ∃ Y, Y = pgot d at' K := ⟨_, rfl⟩
        have hYl : Hid (Y.length = 64 * K) := by show _ = _; rw [hY]; exact hgl.out K (by omega)
        rw [← hY] at hnx hI
        replace hY := hide hY
        obtain ⟨s9, t9, h9⟩ := hI.out.1.rd.slice
        subst h9
        go_wp2_with fail
        refine KG.out.mono ?_
        rintro e w3 ⟨v3, rfl, o3, b3⟩
        clear KG A0 A1
        have oA := hI.out.1.below (Nat.le_refl _) b3
        have bA := hide (hI.out.2.trans (b3.mono hI.out.2.size))
        have r3 := o3.rd
        obtain ⟨s3, t3, h3⟩ := r3.slice
        subst h3
        have hl : Y.length + g.length ≤ 140737488355328 := by rw [hYl.out, hl64.out]; omega
        have hsz := bA.out.size
        clear o3 b3 hI
        go_wp2_with (at_builtin; refine wpList_append_octs rfl _ _ rfl w1.heap.size _ _ Y g rfl rfl oA r3 hl hsz ?_; intro v6 w6 o6 b6 _)
        go_roundw
        case rel => exact ⟨K + 1, by omega, by go_num, hide ⟨by rw [hnx.out]; exact o6, bA.out.trans b6⟩⟩
        case measure => simp [intOf]; omega
      · have hqk : ¬ (K : Int) < 4 := by omega
        obtain rfl : K = 4 := by omega
        have oH := hI.out.1
        have bH := hide hI.out.2
        have KD := hide (pgdecP_any wr _ _ oH.rd)
        have sN := hide (fun h => @pgread_no d at' id hsec.out h)
        have sY := hide (fun h h2 => @pgread_0 d at' id hsec.out h h2)
        obtain ⟨Y, hY⟩ : ∃ Y, Y = pgot d at' 4 := ⟨_, rfl⟩
        rw [← hY] at KD sN sY oH
        obtain ⟨n, x, er, hD⟩ : ∃ n x er, pgdec Y = (n, x, er) := ⟨_, _, _, rfl⟩
        rw [hD] at KD sN sY
        dsimp only at KD sN sY
        obtain ⟨s9, t9, h9⟩ := oH.rd.slice
        subst h9
        clear hD hY hI oH
        go_wp2_with fail
        refine KD.out.mono ?_
        rintro e w3 ⟨v3, rfl, o3, b3⟩
        have c3 := hide (c1w.out.trans (((bH.out).trans (b3.mono bH.out.size)).mono c1w.out.size))
        obtain ⟨s3, t3, h3⟩ := o3.rd.slice
        subst h3
        have hb3 : Hid (w.heap.size ≤ wr.heap.size) := Nat.le_trans c1w.out.size bH.out.size
        replace o3 := hide o3
        clear b3 KD
        by_cases he : er = 0
        · subst he
          by_cases hn : n = id
          · have hS := hide (sY.out (by trivial) hn)
            subst hn
            go_wp2
            go_ret2
            rw [hS.out]
            exact ⟨_, rfl, o3.out.mono hb3.out, c3.out⟩
          · have hS := hide (sN.out (.inr hn))
            have hne : (n != id) = true := by simpa using hn
            replace hn := hide hn
            go_wp2
            go_ret2
            rw [hS.out]
            exact ⟨_, rfl, World.ownsRow_nil _ _ _ _, c3.out⟩
        · have hS := hide (sN.out (.inl he))
          have hee : (er != 0) = true := by simpa using he
          replace he := hide he
          go_wp2
          go_ret2
          rw [hS.out]
          exact ⟨_, rfl, World.ownsRow_nil _ _ _ _, c3.out⟩
  · have hS := hide (pgread_sect (d := d) (at' := at') (id := id) (by rw [← hE]; exact h0))
    have hbe : (E != 0) = true := by simpa using h0
    replace h0 := hide h0
    replace hE := hide hE
    go_wp2
    go_ret2
    rw [hS.out]
    exact ⟨_, by rw [← hE.out]; rfl, World.ownsRow_nil _ _ _ _, c1w.out⟩

end Go.Proofs.Ytliileemelcllaa

/-
  Pages, the program's: the iterator over a page's sectors (sectorsFrom).
-/
namespace Go.Proofs.Ytliileemelcllaa
open Go.RowKit Go.Shelf
attribute [local go_sem] Oper.semAt_some
set_option linter.unusedVariables false

/-- the sector of number x that is handed out -/
def encPG (at' : Int) (b o c : Nat) (x : Nat) : Array Value := #[.int .i64 (at' + (x : Int)), .slice (some ⟨b, o + 64 * x, none⟩) 64 (c - 64 * x)]
/-- what a round keeps: the iterator's own two boxes -/
def KpP (Ba Bp : Nat) (V V' : World) : Prop := ∀ (k : Nat) (o : Obj), (k = Ba ∨ k = Bp) → V.heap[k]? = some o → o.isCells = true → V'.heap[k]? = some o
theorem KpP.trans {Ba Bp : Nat} {X Y Z : World} (h : KpP Ba Bp X Y) (k : KpP Ba Bp Y Z) : KpP Ba Bp X Z := fun i o hi h1 h2 => k i o hi (h i o hi h1 h2) h2
theorem KpP.put {Ba Bp : Nat} (W : World) (l : Nat) (o o' : Obj) (h : W.heap[l]? = some o) (ho : o.isCells = false) : KpP Ba Bp W (W.putObj l o') := by
  intro k q _ hq hc
  rw [World.putObj_heap_other (by rintro rfl; rw [h] at hq; cases hq; rw [ho] at hc; cases hc)]
  exact hq
def RP (pre : List Nat) (x : Nat) (V : World) : Prop := x = pre.length ∧ x < 4
def SP (xs : List Nat) (V : World) : Prop := xs.length = 4
set_option maxRecDepth 100000 in
theorem sectorsFrom_any (w : World) (at' : Int) (v : Value) (b : List UInt8) (hrd : Rd w v b) : Calls Try.prog 42 #[.int .i64 at', v] w fun e w' => e = .returned (.func (.func 61) #[] #[.pointer (some ⟨w.heap.size, 0, none⟩), .pointer (some ⟨w.heap.size + 1, 0, none⟩)]) ∧ w' = (w.alloc (.cells #[.int .i64 at'] 3)).alloc (.cells #[v] 22) := by
  obtain ⟨ao, cap, rfl⟩ := hrd.slice
  go_enter Try.func42, Try.ntmps42
  go_wp2
  go_ret
  exact ⟨rfl, rfl⟩

set_option maxHeartbeats 4000000 in
set_option maxRecDepth 100000 in
theorem sectors1_hands (at' : Int) (ha0 : 0 ≤ at') (ha1 : at' + 4 ≤ 9223372036854775807) (b o c : Nat) (hc : 256 ≤ c) (W0 : World) (Ba Bp : Nat) (ba : Boxed W0 Ba 3 (.int .i64 at')) (bp : Boxed W0 Bp 22 (.slice (some ⟨b, o, none⟩) 256 c)) (n : Nat) :
    Hands Fence.wide n Try.prog 61 #[.pointer (some ⟨Ba, 0, none⟩), .pointer (some ⟨Bp, 0, none⟩)] (encPG at' b o c) (KpP Ba Bp) RP SP W0 := by
  intro l J Jx W hW hJ hJx hY h0
  have I0 : Hid (Boxed W Ba 3 (.int .i64 at') ∧ Boxed W Bp 22 (.slice (some ⟨b, o, none⟩) 256 c)) := ⟨(hW.block Ba ba.lt).trans ba, (hW.block Bp bp.lt).trans bp⟩
  have hmx : Try.prog.follows .mixedOrders = true := mixed
  clear ba bp hW
  refine callsIn_of_wp Try.func61 rfl trivial ?_ rfl
  simp only [Try.ntmps61, List.size_toArray, List.length_cons, List.length_nil, Nat.reduceAdd, Nat.reduceSub, Array.replicate_succ, Array.replicate_zero, List.push_toArray, List.append_toArray, List.nil_append, List.cons_append]
  gi_wp2
  gi_loopw [5] (fun i wr => ∃ (pre : List Nat) (k : Nat), i = .int .i64 (k : Int) ∧ k = pre.length ∧ k ≤ 4 ∧ Hid (Boxed wr Ba 3 (.int .i64 at') ∧ Boxed wr Bp 22 (.slice (some ⟨b, o, none⟩) 256 c)) ∧ J pre wr) (fun i _ => 4 - (intOf i).toNat)
  case atStart => exact ⟨[], 0, rfl, rfl, by omega, I0, h0⟩
  case round =>
    obtain ⟨pre, k, rfl, hk, hk4, hit, hJs⟩ := hrel
    clear I0
    replace hk := hide hk
    have cb := hit.out.1.cell
    have cp := hit.out.2.cell
    have HJ := hide (hJ _ _ wr.drew hJs ⟨rfl, rfl, rfl, Nat.le_refl _, fun _ _ _ => rfl⟩)
    have HB : Hid (Boxed wr.drew Ba 3 (.int .i64 at') ∧ Boxed wr.drew Bp 22 (.slice (some ⟨b, o, none⟩) 256 c)) := hit
    have hcases : k = 0 ∨ k = 1 ∨ k = 2 ∨ k = 3 ∨ k = 4 := by omega
    rcases hcases with rfl | rfl | rfl | rfl | rfl
    -- ROUNDS
    · have hx : RP pre 0 wr.drew := ⟨hk.out, by decide⟩
      obtain ⟨fn, tmps, assign, body, hy', hR0⟩ := hY pre 0 wr.drew HJ.out hx
      rw [show encPG at' b o c 0 = #[.int .i64 (at'), .slice (some ⟨b, o, none⟩) 64 (c)] from by simp [encPG]] at hy'
      have hR : Hid (RoundIn Fence.wide (n - 1) Try.prog l fn tmps assign body wr.drew fun e V' => ∃ B : Bool, e = .returned (.bool B) ∧ (B = true ∧ J (pre ++ [0]) V' ∧ KpP Ba Bp wr.drew V' ∨ B = false ∧ Jx (pre ++ [0]) V')) := hR0.mono (by rintro e V' (⟨rfl, h⟩ | ⟨rfl, h⟩); exact ⟨true, rfl, .inl ⟨rfl, h⟩⟩; exact ⟨false, rfl, .inr ⟨rfl, h⟩⟩)
      have hqh : (64 : Int) ≤ (c : Int) := by omega
      have hn0 : ¬ c = 0 := by omega
      have x0 : IntKind.i64.wrap (0 : Int) = 0 := by decide
      have x1 : IntKind.i64.wrap (64 : Int) = 64 := by decide
      have x3 : IntKind.i64.wrap (1 : Int) = 1 := by decide
      have x2 : IntKind.i64.wrap (at') = at' := by rw [IntKind.wrap_i64]; omega
      clear hR0 hY hx hJs hit HJ
      gi_wp2_with fail
      gi_region_with_o (refine ⟨(fun h => by cases h), hR.out.mono ?_⟩; rintro e W3 ⟨B, rfl, hB⟩)
      all_goals
        cases B with
        | true =>
          rcases hB with ⟨_, hJ3, hk3⟩ | ⟨h, _⟩
          · have h3 : Hid (Boxed W3 Ba 3 (.int .i64 at') ∧ Boxed W3 Bp 22 (.slice (some ⟨b, o, none⟩) 256 c)) := ⟨hk3 _ _ (.inl rfl) HB.out.1 rfl, hk3 _ _ (.inr rfl) HB.out.2 rfl⟩
            have HJ3 := hide hJ3
            clear hJ3 hk3 hR hy' cb cp HB
            gi_wp2
            go_roundw
            case rel => exact ⟨pre ++ [0], 1, by go_num, by rw [List.length_append, ← hk.out]; rfl, by omega, h3, HJ3.out⟩
            case measure => simp [intOf]
          · cases h
        | false =>
          rcases hB with ⟨h, _⟩ | ⟨_, hJx3⟩
          · cases h
          · clear hR hy' cb cp HB
            gi_wp2
            refine bodyPost_ret (results_none rfl _ _ _) rfl ?_
            exact ⟨⟨_, rfl⟩, .inr ⟨_, hJx3⟩⟩
    · have hx : RP pre 1 wr.drew := ⟨hk.out, by decide⟩
      obtain ⟨fn, tmps, assign, body, hy', hR0⟩ := hY pre 1 wr.drew HJ.out hx
      rw [show encPG at' b o c 1 = #[.int .i64 (at' + 1), .slice (some ⟨b, o + 64, none⟩) 64 (c - 64)] from by simp [encPG]] at hy'
      have hR : Hid (RoundIn Fence.wide (n - 1) Try.prog l fn tmps assign body wr.drew fun e V' => ∃ B : Bool, e = .returned (.bool B) ∧ (B = true ∧ J (pre ++ [1]) V' ∧ KpP Ba Bp wr.drew V' ∨ B = false ∧ Jx (pre ++ [1]) V')) := hR0.mono (by rintro e V' (⟨rfl, h⟩ | ⟨rfl, h⟩); exact ⟨true, rfl, .inl ⟨rfl, h⟩⟩; exact ⟨false, rfl, .inr ⟨rfl, h⟩⟩)
      have hqh : (128 : Int) ≤ (c : Int) := by omega
      have hn0 : ¬ c = 64 := by omega
      have x0 : IntKind.i64.wrap (64 : Int) = 64 := by decide
      have x1 : IntKind.i64.wrap (128 : Int) = 128 := by decide
      have x3 : IntKind.i64.wrap (2 : Int) = 2 := by decide
      have x2 : IntKind.i64.wrap (at' + 1) = at' + 1 := by rw [IntKind.wrap_i64]; omega
      clear hR0 hY hx hJs hit HJ
      gi_wp2_with fail
      gi_region_with_o (refine ⟨(fun h => by cases h), hR.out.mono ?_⟩; rintro e W3 ⟨B, rfl, hB⟩)
      all_goals
        cases B with
        | true =>
          rcases hB with ⟨_, hJ3, hk3⟩ | ⟨h, _⟩
          · have h3 : Hid (Boxed W3 Ba 3 (.int .i64 at') ∧ Boxed W3 Bp 22 (.slice (some ⟨b, o, none⟩) 256 c)) := ⟨hk3 _ _ (.inl rfl) HB.out.1 rfl, hk3 _ _ (.inr rfl) HB.out.2 rfl⟩
            have HJ3 := hide hJ3
            clear hJ3 hk3 hR hy' cb cp HB
            gi_wp2
            go_roundw
            case rel => exact ⟨pre ++ [1], 2, by go_num, by rw [List.length_append, ← hk.out]; rfl, by omega, h3, HJ3.out⟩
            case measure => simp [intOf]
          · cases h
        | false =>
          rcases hB with ⟨h, _⟩ | ⟨_, hJx3⟩
          · cases h
          · clear hR hy' cb cp HB
            gi_wp2
            refine bodyPost_ret (results_none rfl _ _ _) rfl ?_
            exact ⟨⟨_, rfl⟩, .inr ⟨_, hJx3⟩⟩
    · have hx : RP pre 2 wr.drew := ⟨hk.out, by decide⟩
      obtain ⟨fn, tmps, assign, body, hy', hR0⟩ := hY pre 2 wr.drew HJ.out hx
      rw [show encPG at' b o c 2 = #[.int .i64 (at' + 2), .slice (some ⟨b, o + 128, none⟩) 64 (c - 128)] from by simp [encPG]] at hy'
      have hR : Hid (RoundIn Fence.wide (n - 1) Try.prog l fn tmps assign body wr.drew fun e V' => ∃ B : Bool, e = .returned (.bool B) ∧ (B = true ∧ J (pre ++ [2]) V' ∧ KpP Ba Bp wr.drew V' ∨ B = false ∧ Jx (pre ++ [2]) V')) := hR0.mono (by rintro e V' (⟨rfl, h⟩ | ⟨rfl, h⟩); exact ⟨true, rfl, .inl ⟨rfl, h⟩⟩; exact ⟨false, rfl, .inr ⟨rfl, h⟩⟩)
      have hqh : (192 : Int) ≤ (c : Int) := by omega
      have hn0 : ¬ c = 128 := by omega
      have x0 : IntKind.i64.wrap (128 : Int) = 128 := by decide
      have x1 : IntKind.i64.wrap (192 : Int) = 192 := by decide
      have x3 : IntKind.i64.wrap (3 : Int) = 3 := by decide
      have x2 : IntKind.i64.wrap (at' + 2) = at' + 2 := by rw [IntKind.wrap_i64]; omega
      clear hR0 hY hx hJs hit HJ
      gi_wp2_with fail
      gi_region_with_o (refine ⟨(fun h => by cases h), hR.out.mono ?_⟩; rintro e W3 ⟨B, rfl, hB⟩)
      all_goals
        cases B with
        | true =>
          rcases hB with ⟨_, hJ3, hk3⟩ | ⟨h, _⟩
          · have h3 : Hid (Boxed W3 Ba 3 (.int .i64 at') ∧ Boxed W3 Bp 22 (.slice (some ⟨b, o, none⟩) 256 c)) := ⟨hk3 _ _ (.inl rfl) HB.out.1 rfl, hk3 _ _ (.inr rfl) HB.out.2 rfl⟩
            have HJ3 := hide hJ3
            clear hJ3 hk3 hR hy' cb cp HB
            gi_wp2
            go_roundw
            case rel => exact ⟨pre ++ [2], 3, by go_num, by rw [List.length_append, ← hk.out]; rfl, by omega, h3, HJ3.out⟩
            case measure => simp [intOf]
          · cases h
        | false =>
          rcases hB with ⟨h, _⟩ | ⟨_, hJx3⟩
          · cases h
          · clear hR hy' cb cp HB
            gi_wp2
            refine bodyPost_ret (results_none rfl _ _ _) rfl ?_
            exact ⟨⟨_, rfl⟩, .inr ⟨_, hJx3⟩⟩
    · have hx : RP pre 3 wr.drew := ⟨hk.out, by decide⟩
      obtain ⟨fn, tmps, assign, body, hy', hR0⟩ := hY pre 3 wr.drew HJ.out hx
      rw [show encPG at' b o c 3 = #[.int .i64 (at' + 3), .slice (some ⟨b, o + 192, none⟩) 64 (c - 192)] from by simp [encPG]] at hy'
      have hR : Hid (RoundIn Fence.wide (n - 1) Try.prog l fn tmps assign body wr.drew fun e V' => ∃ B : Bool, e = .returned (.bool B) ∧ (B = true ∧ J (pre ++ [3]) V' ∧ KpP Ba Bp wr.drew V' ∨ B = false ∧ Jx (pre ++ [3]) V')) := hR0.mono (by rintro e V' (⟨rfl, h⟩ | ⟨rfl, h⟩); exact ⟨true, rfl, .inl ⟨rfl, h⟩⟩; exact ⟨false, rfl, .inr ⟨rfl, h⟩⟩)
      have hqh : (256 : Int) ≤ (c : Int) := by omega
      have hn0 : ¬ c = 192 := by omega
      have x0 : IntKind.i64.wrap (192 : Int) = 192 := by decide
      have x1 : IntKind.i64.wrap (256 : Int) = 256 := by decide
      have x3 : IntKind.i64.wrap (4 : Int) = 4 := by decide
      have x2 : IntKind.i64.wrap (at' + 3) = at' + 3 := by rw [IntKind.wrap_i64]; omega
      clear hR0 hY hx hJs hit HJ
      gi_wp2_with fail
      gi_region_with_o (refine ⟨(fun h => by cases h), hR.out.mono ?_⟩; rintro e W3 ⟨B, rfl, hB⟩)
      all_goals
        cases B with
        | true =>
          rcases hB with ⟨_, hJ3, hk3⟩ | ⟨h, _⟩
          · have h3 : Hid (Boxed W3 Ba 3 (.int .i64 at') ∧ Boxed W3 Bp 22 (.slice (some ⟨b, o, none⟩) 256 c)) := ⟨hk3 _ _ (.inl rfl) HB.out.1 rfl, hk3 _ _ (.inr rfl) HB.out.2 rfl⟩
            have HJ3 := hide hJ3
            clear hJ3 hk3 hR hy' cb cp HB
            gi_wp2
            go_roundw
            case rel => exact ⟨pre ++ [3], 4, by go_num, by rw [List.length_append, ← hk.out]; rfl, by omega, h3, HJ3.out⟩
            case measure => simp [intOf]
          · cases h
        | false =>
          rcases hB with ⟨h, _⟩ | ⟨_, hJx3⟩
          · cases h
          · clear hR hy' cb cp HB
            gi_wp2
            refine bodyPost_ret (results_none rfl _ _ _) rfl ?_
            exact ⟨⟨_, rfl⟩, .inr ⟨_, hJx3⟩⟩
    -- ROUNDS END
    · have hS : SP pre wr := hk.out.symm
      have HS := hide hS
      have HJ0 := hide hJs
      clear hS hJs HJ hit HB cb cp hY
      gi_wp2
      go_end0
      exact ⟨⟨_, rfl⟩, .inl ⟨_, HS.out, HJ0.out⟩⟩

end Go.Proofs.Ytliileemelcllaa

/-
  Pages, the program's: Write.
-/
namespace Go.Proofs.Ytliileemelcllaa
open Go.RowKit Go.Shelf
attribute [local go_sem] Oper.semAt_some
set_option linter.unusedVariables false

theorem dok_pwsK {d : Dsk} (h : DOk d) {at' : Int} {b : List UInt8} (hb : b.length = 256) (h0 : 0 ≤ at') (h1 : at' ≤ (d.1.length : Int) - 4) {k : Nat} (hk : k ≤ 4) (hc : d.2.length + k ≤ 4096) : DOk (d.1, d.2 ++ pws at' b k) := by
  refine ⟨h.1, h.2.1, ?_, h.2.2.2.1, ?_⟩
  · show (d.2 ++ _).length ≤ _
    rw [List.length_append, pws_len]; omega
  · intro y hy
    rcases List.mem_append.1 hy with hy | hy
    · exact h.2.2.2.2 y hy
    · obtain ⟨i, hi, rfl⟩ := pws_mem hy
      exact ⟨⟨by dsimp only; omega, by dsimp only; omega⟩, psec_len hb (by omega)⟩
theorem dput_pwsK {d : Dsk} (h : DOk d) {at' : Int} {b : List UInt8} (hb : b.length = 256) (h0 : 0 ≤ at') (h1 : at' ≤ (d.1.length : Int) - 4) {k : Nat} (hk : k < 4) (hc : d.2.length + k < 4096) : dput (d.1, d.2 ++ pws at' b k) (at' + k) (psec b k) = ((d.1, d.2 ++ pws at' b (k + 1)), 0) := by
  have hs : dsect (d.1, d.2 ++ pws at' b k) (at' + k) = 0 := dsect_zero.2 ⟨dok_pwsK h hb h0 h1 (by omega) (by omega), by show 0 ≤ at' + (k : Int) ∧ at' + (k : Int) < (d.1.length : Int); omega⟩
  have hl := psec_len hb hk
  unfold dput
  rw [if_neg (fun e => e hs), if_neg (by omega), if_neg (by show ¬ 4096 ≤ (d.2 ++ _).length; rw [List.length_append, pws_len]; omega), pad_id hl]
  show ((d.1, d.2 ++ pws at' b k ++ [(at' + k, psec b k)]), 0) = _
  rw [List.append_assoc]
  rfl
theorem dput_pws_full {d : Dsk} (h : DOk d) {at' : Int} {b : List UInt8} (hb : b.length = 256) (h0 : 0 ≤ at') (h1 : at' ≤ (d.1.length : Int) - 4) {k : Nat} (hk : k < 4) (hc : d.2.length + k = 4096) : dput (d.1, d.2 ++ pws at' b k) (at' + k) (psec b k) = (([], []), 51) := by
  have hs : dsect (d.1, d.2 ++ pws at' b k) (at' + k) = 0 := dsect_zero.2 ⟨dok_pwsK h hb h0 h1 (by omega) (by omega), by show 0 ≤ at' + (k : Int) ∧ at' + (k : Int) < (d.1.length : Int); omega⟩
  have hl := psec_len hb hk
  unfold dput
  rw [if_neg (fun e => e hs), if_neg (by omega), if_pos (by show 4096 ≤ (d.2 ++ _).length; rw [List.length_append, pws_len]; omega)]

/-- what is the call's own lies in cells -/
def OnCells {α : Type} (s : Shp α) : Prop := ∀ {F w cs x}, s.own F w cs x → ∀ b, b ∈ F → ∃ o, w.heap[b]? = some o ∧ o.isCells = true
theorem onCells_int (k : IntKind) : OnCells (Shp.int k) := by
  rintro F w cs x ⟨rfl, _⟩ b hb; cases hb
theorem onCells_octs : OnCells Shp.octs := by
  rintro F w cs x ⟨v, rfl, h, rfl⟩ b hb
  rcases h.2 with ⟨rfl, _⟩ | ⟨g, cap, cur, rfl, h0, hg, r⟩
  · cases hb
  · simp [Value.ownBlock] at hb; subst hb; exact ⟨_, hg, rfl⟩
theorem onCells_pair {α β : Type} {s : Shp α} {t : Shp β} (h1 : OnCells s) (h2 : OnCells t) : OnCells (s.pair t) := by
  rintro F w cs x ⟨c, d, G, H, rfl, rfl, k1, k2⟩ b hb
  rcases List.mem_append.1 hb with h | h
  · exact h1 k1 b h
  · exact h2 k2 b h
theorem onCells_each {α : Type} {s : Shp α} (h1 : OnCells s) {w : World} : ∀ {xs : List α} {F cc}, ownEach s w F cc xs → ∀ b, b ∈ F → ∃ o, w.heap[b]? = some o ∧ o.isCells = true
  | [], F, cc, h, b, hb => by rw [h.1] at hb; cases hb
  | x :: xs, F, cc, ⟨F1, F2, c1, c2, e1, e2, k1, k2⟩, b, hb => by
    rw [e1] at hb
    rcases List.mem_append.1 hb with h | h
    · exact h1 k1 b h
    · exact onCells_each h1 k2 b h
theorem onCells_list {α : Type} {s : Shp α} (T : Nat) (h1 : OnCells s) : OnCells (Shp.list T s) := by
  rintro F w cs xs ⟨v, cc, G, rfl, k1, k2, rfl⟩ b hb
  rcases List.mem_append.1 hb with h | h
  · rcases k1.2 with ⟨rfl, _⟩ | ⟨g, cap, cur, rfl, h0, hg, r⟩
    · cases h
    · simp [Value.ownBlock] at h; subst h; exact ⟨_, hg, rfl⟩
  · exact onCells_each h1 k2 b h
theorem onCells_state : OnCells SStP := onCells_pair (onCells_list _ onCells_octs) (onCells_list _ (onCells_pair (onCells_int _) onCells_octs))
theorem KpC.ownS {α : Type} {s : Shp α} (hs : OnCells s) {V V' : World} (h : KpC V V') {B : Nat} {cs : List Value} {x : α} (o : Own s B V cs x) : Own s B V' cs x := by
  obtain ⟨F, h1, h2, h3⟩ := o
  refine ⟨F, s.own_to h1 fun b hb => ?_, h2, h3⟩
  obtain ⟨o, e, hc⟩ := hs h1 b hb
  exact (h.2 b o e hc).trans e.symm
theorem KpC.rdSec {V V' : World} (h : KpC V V') {v : Value} {ss : List (List UInt8)} (hr : RdSec V v ss) : RdSec V' v ss := by
  obtain ⟨ao, cap, rfl, h1, h2, h3, h4⟩ := hr
  refine ⟨ao, cap, rfl, h1, h2, h3, ?_⟩
  rcases h4 with h4 | ⟨b, off, rfl, hc⟩
  · exact .inl h4
  · refine .inr ⟨b, off, rfl, fun i x hx => ?_⟩
    obtain ⟨c, ⟨v, e, hv⟩, hcell⟩ := hc i x hx
    exact ⟨c, ⟨v, e, h.rd hv⟩, fun j u hj => h.cell (hcell j u hj)⟩
theorem rd_at {w V : World} {g o n c : Nat} {b : List UInt8} (h : Rd w (.slice (some ⟨g, o, none⟩) n c) b) (hg : V.heap[g]? = w.heap[g]?) : Rd V (.slice (some ⟨g, o, none⟩) n c) b := by
  obtain ⟨ao, cap, e, h1, h2, h3, h4⟩ := h
  refine ⟨ao, cap, e, h1, h2, h3, ?_⟩
  rcases h4 with h4 | ⟨b', off, rfl, hc⟩
  · exact .inl h4
  · simp only [Value.slice.injEq, Option.some.injEq, Addr.mk.injEq, and_true] at e
    obtain ⟨⟨rfl, rfl⟩, _, _⟩ := e
    exact .inr ⟨_, _, rfl, fun i hi => (World.cell?_of_block hg).trans (hc i hi)⟩
theorem results_rowbox {P : Program} {fn : Func} {p q : Tmp} {t1 t2 : TypeId} (h : fn.results = #[.cell p t1, .cell q t2]) (tmps : Array Value) (w : World) (g1 g2 : Nat) (x y v2 : Value) (t : TypeId) (fr : Nat × Nat) (d1 d2 : TypeDesc)
    (hu1 : P.underlying t1 = some d1) (hd1 : (match d1 with | .struct _ | .array _ _ => true | _ => false) = true) (hd2 : (match d2 with | .struct _ | .array _ _ => true | _ => false) = false) (hi : (P.info? t1).map (·.size) = some 2) (hu2 : P.underlying t2 = some d2) (hp : tmps.getD p undef = .pointer (some ⟨g1, 0, none⟩)) (hq : tmps.getD q undef = .pointer (some ⟨g2, 0, none⟩))
    (c1 : w.heap[g1]? = some (.cells #[x, y] t fr)) (c2 : w.cell? ⟨g2, 0, none⟩ = some v2) : (results fn tmps).run P w = .ok (.tuple #[.agg #[x, y], v2]) w := by
  have hp' : tmps[p]?.getD undef = .pointer (some ⟨g1, 0, none⟩) := by simpa using hp
  have hq' : tmps[q]?.getD undef = .pointer (some ⟨g2, 0, none⟩) := by simpa using hq
  simp [results, h, hp', hq', asAddr, run_loadVar_row w g1 t t1 #[x, y] fr d1 c1 hu1 hd1 hi, run_loadVar_one d2 hd2 hu2 c2]

def putRes (U : World) (g : Nat) (p q r : Value) : World := ((U.setCell ⟨g + 1, 0, none⟩ p).setCell ⟨g + 1, 1, none⟩ q).setCell ⟨g + 1 + 1, 0, none⟩ r
theorem putRes_row {U : World} {g : Nat} {x y : Value} {t : TypeId} {fr : Nat × Nat} (h : U.heap[g + 1]? = some (.cells #[x, y] t fr)) (p q r : Value) : (putRes U g p q r).heap[g + 1]? = some (.cells #[p, q] t fr) := by
  unfold putRes
  rw [Below.heap_setCell _ _ _ _ (by show g + 1 ≠ g + 1 + 1; omega)]
  exact heap_set2 h p q
theorem putRes_box {U : World} {g : Nat} {v : Value} {t : TypeId} (h : Boxed U (g + 1 + 1) t v) (p q r : Value) : Boxed (putRes U g p q r) (g + 1 + 1) t r := by
  unfold putRes
  have : Boxed ((U.setCell ⟨g + 1, 0, none⟩ p).setCell ⟨g + 1, 1, none⟩ q) (g + 1 + 1) t v := by
    show (_ : Option Obj) = _
    rw [Below.heap_setCell _ _ _ _ (by show g + 1 + 1 ≠ g + 1; omega), Below.heap_setCell _ _ _ _ (by show g + 1 + 1 ≠ g + 1; omega)]; exact h
  exact this.set r
theorem putRes_below {B : Nat} {w U : World} (h : Below B w U) {g : Nat} (hg : B ≤ g) (p q r : Value) : Below B w (putRes U g p q r) :=
  (below_set2 h (show B ≤ g + 1 by omega) p q).setCell (p := ⟨g + 1 + 1, 0, none⟩) (show B ≤ g + 1 + 1 by omega) r
theorem putRes_own {α : Type} {s : Shp α} {B : Nat} {U : World} {cs : List Value} {x : α} (h : Own s B U cs x) {g : Nat} (hg : g + 1 + 1 < B) (p q r : Value) : Own s B (putRes U g p q r) cs x :=
  ((h.set (a := ⟨g + 1, 0, none⟩) (show g + 1 < B by omega) p).set (a := ⟨g + 1, 1, none⟩) (show g + 1 < B by omega) q).set (a := ⟨g + 1 + 1, 0, none⟩) hg r
theorem putRes_other {U : World} {g k : Nat} (h1 : k ≠ g + 1) (h2 : k ≠ g + 1 + 1) (p q r : Value) : (putRes U g p q r).heap[k]? = U.heap[k]? := by
  unfold putRes
  rw [Below.heap_setCell _ _ _ _ h2, Below.heap_setCell _ _ _ _ h1, Below.heap_setCell _ _ _ _ h1]
theorem putRes_keeps (U : World) (g : Nat) (p q r : Value) : KeepsOthers U (putRes U g p q r) := ((KeepsOthers.setCell _ _ _).trans (KeepsOthers.setCell _ _ _)).trans (KeepsOthers.setCell _ _ _)
/-- the disk and the error behind a sector that was put -/
def putSec (U : World) (g ge : Nat) (p q r : Value) : World := ((U.setCell ⟨g, 0, none⟩ p).setCell ⟨g, 1, none⟩ q).setCell ⟨ge, 0, none⟩ r
theorem putSec_other {U : World} {g ge k : Nat} (h1 : k ≠ g) (h2 : k ≠ ge) (p q r : Value) : (putSec U g ge p q r).heap[k]? = U.heap[k]? := by
  unfold putSec
  rw [Below.heap_setCell _ _ _ _ h2, Below.heap_setCell _ _ _ _ h1, Below.heap_setCell _ _ _ _ h1]
theorem putSec_keeps (U : World) (g ge : Nat) (p q r : Value) : KeepsOthers U (putSec U g ge p q r) := ((KeepsOthers.setCell _ _ _).trans (KeepsOthers.setCell _ _ _)).trans (KeepsOthers.setCell _ _ _)

/-- between two rounds: the disk in its box, the answer's boxes, the error's, the page's octets -/
def IW (w : World) (d : Dsk) (at' : Int) (b : List UInt8) (w2 : World) (gb : Nat) (pre : List Nat) (V : World) : Prop :=
  ∃ s c, Below w.heap.size w V ∧ V.heap[w.heap.size]? = some (.cells #[s, c] 43 (0, 0)) ∧ V.heap[w.heap.size + 1]? = some (.cells #[.slice none 0 0, .slice none 0 0] 43 (0, 0)) ∧ Boxed V (w.heap.size + 1 + 1) 24 (.int .i64 0) ∧ Boxed V w2.heap.size 24 (.int .i64 0) ∧
    V.heap[gb]? = w2.heap[gb]? ∧ RdSec V s d.1 ∧ RdC V c (d.2 ++ pws at' b pre.length) ∧ (1 ≤ pre.length → Own SStP (w2.heap.size + 1) V [s, c] (d.1, d.2 ++ pws at' b pre.length)) ∧ d.2.length + pre.length ≤ 4096
def XW (w : World) (d : Dsk) (c : Code) (pre : List Nat) (V : World) : Prop :=
  c = .ret ∧ 4092 < d.2.length ∧ Below w.heap.size w V ∧ V.heap[w.heap.size + 1]? = some (.cells #[.slice none 0 0, .slice none 0 0] 43 (0, 0)) ∧ Boxed V (w.heap.size + 1 + 1) 24 (.int .i64 51)
def actW (w w2 : World) (s1 s2 s3 : Value) (at' id : Int) (gb go gc : Nat) (x : Nat) : Act := { tmps := #[.agg #[s1, s2], .int .i64 at', .int .i64 id, s3, .pointer (some ⟨w.heap.size, 0, none⟩), undef, undef, undef, .pointer (some ⟨w.heap.size + 1, 0, none⟩), .pointer (some ⟨w.heap.size + 1 + 1, 0, none⟩), .int .i64 0, .slice (some ⟨gb, go, none⟩) 256 gc, .pointer (some ⟨w2.heap.size, 0, none⟩), .int .i64 (at' + (x : Int)), .slice (some ⟨gb, go + 64 * x, none⟩) 64 (gc - 64 * x), .agg #[s1, s2], .int .i64 at', .int .i64 0, .int .i64 0, .bool false, undef, undef, .tuple #[.slice (some ⟨gb, go, none⟩) 256 gc, .int .i64 0], .int .i64 id, s3, .tuple #[.slice (some ⟨gb, go, none⟩) 256 gc, .int .i64 0], .slice (some ⟨gb, go, none⟩) 256 gc, .int .i64 0, .int .i64 0, .bool false, undef, undef, .int .i64 at', .slice (some ⟨gb, go, none⟩) 256 gc, .func (.func 61) #[] #[.pointer (some ⟨w2.heap.size + 1, 0, none⟩), .pointer (some ⟨w2.heap.size + 1 + 1, 0, none⟩)], .int .i64 (at' + (x : Int)), .slice (some ⟨gb, go + 64 * x, none⟩) 64 (gc - 64 * x), undef, undef, undef, undef, undef, undef, undef, undef, undef, undef, undef, undef], defers := [] }
def AW (w : World) (d : Dsk) (at' : Int) (b : List UInt8) (w2 : World) (s1 s2 s3 : Value) (id : Int) (gb go gc : Nat) (pre : List Nat) (x : Nat) (a : Act) (V : World) : Prop :=
  IW w d at' b w2 gb pre V ∧ RP pre x V ∧ a = actW w w2 s1 s2 s3 at' id gb go gc x
theorem IW_kpc {w : World} {d : Dsk} {at' : Int} {b : List UInt8} {w2 : World} {gb : Nat} {pre : List Nat} {X Y : World} (k : KpC X Y) (hb : Below w.heap.size w Y) (hgb : ∃ o, w2.heap[gb]? = some o ∧ o.isCells = true) (h : IW w d at' b w2 gb pre X) : IW w d at' b w2 gb pre Y := by
  obtain ⟨s, c, h1, h2, h3, h4, h5, h6, h7, h8, h9, h10⟩ := h
  obtain ⟨o, ho, hc⟩ := hgb
  exact ⟨s, c, hb, k.2 _ _ h2 rfl, k.2 _ _ h3 rfl, k.2 _ _ h4 rfl, k.2 _ _ h5 rfl, (k.2 _ _ (h6.trans ho) hc).trans ho.symm, k.rdSec h7, k.rdC h8, fun q => k.ownS onCells_state (h9 q), h10⟩
theorem IW_own (w : World) (d : Dsk) (at' : Int) (b : List UInt8) (w2 : World) (gb B : Nat) (hB : w.heap.size ≤ B) (hgb : ∃ o, w2.heap[gb]? = some o ∧ o.isCells = true) : OwnFrom B (IW w d at' b w2 gb) := by
  rintro pre X Y row h hg hr
  have hb : Below w.heap.size w X := by obtain ⟨s, c, h1, _⟩ := h; exact h1
  exact IW_kpc (KpC.of_grown hg hr) (hb.grown hg hb.size (fun k e => by have := (hr k e).1; omega)) hgb h
theorem XW_own (w : World) (d : Dsk) (B : Nat) (hB : w.heap.size ≤ B) (c : Code) : OwnFrom B (XW w d c) := by
  rintro pre X Y row ⟨rfl, h0, hb, h2, h3⟩ hg hr
  have kp := KpC.of_grown hg hr
  exact ⟨rfl, h0, hb.grown hg hb.size (fun k e => by have := (hr k e).1; omega), kp.2 _ _ h2 rfl, kp.2 _ _ h3 rfl⟩

set_option maxHeartbeats 4000000 in
set_option maxRecDepth 100000 in
theorem ppgwrite_any (w : World) (sv cv v : Value) (d : Dsk) (at' id : Int) (x : List UInt8) (h1 : RdSec w sv d.1) (h2 : RdC w cv d.2) (hx : Rd w v x) :
    Calls Try.prog 18 #[.agg #[sv, cv], .int .i64 at', .int .i64 id, v] w fun e w' => ∃ sv' cv', e = .returned (.tuple #[.agg #[sv', cv'], .int .i64 (pgwrite d at' id x).2]) ∧ Own SStP w.heap.size w' [sv', cv'] (pgwrite d at' id x).1 ∧ Below w.heap.size w w' := by
  refine (callsIn_wide (n := 5)).1 ?_
  have sD := hide (fun h => @pgwrite_sect d at' id x h)
  have sE := hide (fun h h2 => @pgwrite_enc d at' id x h h2)
  have sF := hide (fun h h2 h3 => @pgwrite_full d at' id x h h2 h3)
  have sY := hide (fun h h2 h3 => @pgwrite_0 d at' id x h h2 h3)
  have KE := hide (fun u h => pgencP_any u id v x h)
  have hbl := hide (fun (h : (pgenc id x).2 = 0) => show (pgenc id x).1.length = 256 by rw [(pgenc_zero h).2.2]; exact pgenc_len _ (pgenc_zero h).2.1)
  obtain ⟨bb, er, hb⟩ : ∃ bb er, pgenc id x = (bb, er) := ⟨_, _, rfl⟩
  rw [hb] at sE sF sY KE hbl
  dsimp only at sE sF sY KE hbl
  generalize hST : pgwrite d at' id x = ST at *
  clear hb hST
  obtain ⟨a1, c1, rfl⟩ := h1.slice
  obtain ⟨a2, c2, rfl⟩ := h2.slice
  obtain ⟨a3, c3, rfl⟩ := hx.slice
  obtain ⟨W, hW⟩ : ∃ W, W = ((w.alloc (.cells #[.slice a1 d.1.length c1, .slice a2 d.2.length c2] 43)).alloc (.cells #[.slice none 0 0, .slice none 0 0] 43)).alloc (.cells #[.int .i64 0] 24) := ⟨_, rfl⟩
  have sW : W.heap.size = w.heap.size + 1 + 1 + 1 := by rw [hW]; simp
  have bW : Below w.heap.size w W := by rw [hW]; exact (((Below.refl _ _).alloc (Nat.le_refl _) _).alloc (by simp) _).alloc (by simp <;> omega) _
  have hA : W.heap[w.heap.size]? = some (.cells #[.slice a1 d.1.length c1, .slice a2 d.2.length c2] 43 (0, 0)) := by
    rw [hW, Below.heap_alloc _ _ _ (by simp <;> omega), Below.heap_alloc _ _ _ (by simp)]; exact heap_alloc_last w _
  have hB : W.heap[w.heap.size + 1]? = some (.cells #[.slice none 0 0, .slice none 0 0] 43 (0, 0)) := by
    rw [hW, Below.heap_alloc _ _ _ (by simp)]
    have := heap_alloc_last (w.alloc (.cells #[.slice a1 d.1.length c1, .slice a2 d.2.length c2] 43)) (.cells #[.slice none 0 0, .slice none 0 0] 43); simpa using this
  have hC : Boxed W (w.heap.size + 1 + 1) 24 (.int .i64 0) := by
    show W.heap[_]? = _
    rw [hW]
    have := heap_alloc_last ((w.alloc (.cells #[.slice a1 d.1.length c1, .slice a2 d.2.length c2] 43)).alloc (.cells #[.slice none 0 0, .slice none 0 0] 43)) (.cells #[.int .i64 0] 24); simpa using this
  obtain ⟨A0, A1, _, _⟩ := row2_cells hA
  have KC := hide (ppgsect_any W _ _ d at' (h1.to0 bW) (h2.to0 bW))
  obtain ⟨E, hE⟩ : ∃ E, E = pgsect d at' := ⟨_, rfl⟩
  rw [← hE] at KC
  refine callsIn_of_wp_marks Try.func18 rfl trivial ?_ rfl
  simp only [Try.ntmps18, List.size_toArray, List.length_cons, List.length_nil, Nat.reduceAdd, Nat.reduceSub, Array.replicate_succ, Array.replicate_zero, List.push_toArray, List.append_toArray, List.nil_append, List.cons_append]
  gi_wp2_with fail
  rw [← hW]
  replace hW := hide hW
  refine ⟨trivial, ?_⟩
  refine (callsIn_wide.2 KC.out).mono ?_
  rintro e w1 ⟨rfl, b1⟩
  clear KC
  have c1w := bW.trans (b1.mono bW.size)
  have hA1 := (b1.block w.heap.size (by omega)).trans hA
  have hB1 := (b1.block (w.heap.size + 1) (by omega)).trans hB
  have hC1 : Boxed w1 (w.heap.size + 1 + 1) 24 (.int .i64 0) := (b1.block _ (by omega)).trans hC
  have hs1 : w.heap.size + 1 + 1 + 1 ≤ w1.heap.size := by have := b1.size; omega
  clear hA hB hC A0 A1 b1 bW
  by_cases h0 : E = 0
  · have hsec : Hid (pgsect d at' = 0) := by show _ = _; rw [← hE]; exact h0
    subst h0
    replace hE := hide hE
    have KE1 := hide (KE.out w1 (hx.to c1w))
    clear KE
    gi_wp2_with fail
    refine ⟨trivial, ?_⟩
    refine (callsIn_wide.2 KE1.out).mono ?_
    rintro e w2 ⟨v2, rfl, o2, b2⟩
    clear KE1
    have c2w := c1w.trans (b2.mono c1w.size)
    have hA2 := (b2.block w.heap.size (by omega)).trans hA1
    have hB2 := (b2.block (w.heap.size + 1) (by omega)).trans hB1
    have hC2 : Boxed w2 (w.heap.size + 1 + 1) 24 (.int .i64 0) := (b2.block _ (by omega)).trans hC1
    have hs2 := b2.size
    obtain ⟨w4, hw4⟩ : ∃ u, u = w2.alloc (.cells #[.int .i64 er] 24) := ⟨_, rfl⟩
    have s4 : w4.heap.size = w2.heap.size + 1 := by rw [hw4]; simp
    have b4 : Below w2.heap.size w2 w4 := by rw [hw4]; exact (Below.refl _ _).alloc (Nat.le_refl _) _
    have hD4 : Boxed w4 w2.heap.size 24 (.int .i64 er) := by rw [hw4]; exact Boxed.new w2 _ _
    have hk4 : ∀ k, k < w2.heap.size → w4.heap[k]? = w2.heap[k]? := fun k hk => b4.block k hk
    have c4w := c2w.trans (b4.mono c2w.size)
    have hA4 := (hk4 w.heap.size (by omega)).trans hA2
    have hB4 := (hk4 (w.heap.size + 1) (by omega)).trans hB2
    have hC4 : Boxed w4 (w.heap.size + 1 + 1) 24 (.int .i64 0) := (hk4 _ (by omega)).trans hC2
    clear hA1 hB1 hC1 hA2 hB2 hC2 b2 b4
    by_cases he : er = 0
    · have hbL := hide (hbl.out he)
      obtain ⟨gb, go, gc, hv2, hgc, hgm, _, _⟩ := rdN o2.rd hbL.out (by decide)
      subst hv2
      have hgo : ∃ o, w2.heap[gb]? = some o ∧ o.isCells = true := by
        rcases o2.2 with ⟨e, _⟩ | ⟨g, cap, cur, e, _, hg, _⟩
        · cases e
        · simp only [Value.slice.injEq, Option.some.injEq, Addr.mk.injEq, and_true] at e
          obtain ⟨⟨rfl, rfl⟩, _, _⟩ := e
          exact ⟨_, hg, rfl⟩
      have hgb : gb < w2.heap.size := by obtain ⟨o, ho, _⟩ := hgo; exact lt_of_block ho
      have hgw : w1.heap.size ≤ gb := o2.from gb rfl
      have r4 := rd_at o2.rd (hk4 gb hgb)
      have r2 := hide o2.rd
      subst he
      gi_wp2_with fail
      rw [← hw4]
      replace hw4 := hide hw4
      refine ⟨trivial, ?_⟩
      refine (callsIn_wide.2 (sectorsFrom_any w4 at' _ bb r4)).mono ?_
      rintro e w' ⟨rfl, rfl⟩
      gi_wp2
      obtain ⟨w5, hw5⟩ : ∃ u, u = (w4.alloc (.cells #[.int .i64 at'] 3)).alloc (.cells #[.slice (some ⟨gb, go, none⟩) 256 gc] 22) := ⟨_, rfl⟩
      have s5 : w5.heap.size = w2.heap.size + 1 + 1 + 1 := by rw [hw5]; simp [s4]
      have b5 : Below w4.heap.size w4 w5 := by rw [hw5]; exact ((Below.refl _ _).alloc (Nat.le_refl _) _).alloc (by simp) _
      have ba : Boxed w5 (w2.heap.size + 1) 3 (.int .i64 at') := by
        rw [hw5, ← s4]; exact (Boxed.new w4 _ _).alloc _
      have bp : Boxed w5 (w2.heap.size + 1 + 1) 22 (.slice (some ⟨gb, go, none⟩) 256 gc) := by
        rw [hw5, ← s4]
        have := Boxed.new (w4.alloc (.cells #[.int .i64 at'] 3)) 22 (.slice (some ⟨gb, go, none⟩) 256 gc)
        simpa using this
      have k5 : ∀ k, k < w4.heap.size → w5.heap[k]? = w4.heap[k]? := fun k hk => b5.block k hk
      have c5w := c4w.trans (b5.mono c4w.size)
      obtain ⟨hok, hp0, hp1⟩ := pgsect_0.1 hsec.out
      have hsl := hok.2.1
      have hcl := hok.2.2.1
      have i5 : IW w d at' bb w2 gb [] w5 := ⟨_, _, c5w, (k5 _ (by omega)).trans hA4, (k5 _ (by omega)).trans hB4, (k5 _ (by omega)).trans hC4, (k5 _ (by omega)).trans hD4, (k5 _ (by omega)).trans (hk4 _ hgb), h1.to0 c5w, by simpa [pws] using h2.to0 c5w, fun h => by simp at h, by simpa using hcl⟩
      rw [← hw5]
      replace hw5 := hide hw5
      refine wpIn_range_hands rfl (by decide) (gf := 61) (lb := #[.pointer (some ⟨w2.heap.size + 1, 0, none⟩), .pointer (some ⟨w2.heap.size + 1 + 1, 0, none⟩)]) rfl trivial (enters_of Try.func61 (by kernel_rfl) rfl)
        (sectors1_hands at' hp0 (by omega) gb go gc hgc w5 _ _ ba bp (5 - 1)) KpP.trans (fun X l o o' _ h1 h2 _ => KpP.put X l o o' h1 h2) (fun _ => rfl) (IW w d at' bb w2 gb) (XW w d) (AW w d at' bb w2 (.slice a1 d.1.length c1) (.slice a2 d.2.length c2) (.slice a3 x.length c3) id gb go gc)
        (IW_own w d at' bb w2 gb _ (by omega) hgo) (XW_own w d _ (by omega)) (fun _ _ _ _ h _ _ => h) (fun pre y a _ X Y row h hg hr => ⟨IW_own w d at' bb w2 gb _ (by omega) hgo pre X Y row h.1 hg hr, h.2⟩) i5 ?assign ?body ?done ?stop
      case assign =>
        rintro l pre y W' K hI hRW hK
        have hk := hK (actW w w2 (.slice a1 d.1.length c1) (.slice a2 d.2.length c2) (.slice a3 x.length c3) at' id gb go gc y) W' (KeepsFrom.refl _ _) (fun _ _ _ h _ => h) ⟨hI, hRW, rfl⟩
        have HK := hide hk
        clear hk hK hI hRW
        dsimp only [encPG]
        gi_wp2
        exact HK.out
      case body =>
        rintro l pre y a' W' hl ⟨⟨s, c, i1, i2, i3, i4, i5', i6, i7, i8, i9, i10⟩, ⟨hy, hy4⟩, rfl⟩
        rw [← hy] at i8 i9 i10
        obtain ⟨sa, sc, hs⟩ := i7.slice
        obtain ⟨ca, cc, hcv⟩ := i8.slice
        obtain ⟨L, hL⟩ : ∃ L, L = (d.2 ++ pws at' bb y).length := ⟨_, rfl⟩
        rw [← hL] at hcv
        subst hs hcv
        obtain ⟨gb', go', gc', hv', _, _, hR, _⟩ := rdN (rd_at r2.out i6) hbL.out (by decide)
        simp only [Value.slice.injEq, Option.some.injEq, Addr.mk.injEq, and_true, true_and] at hv'
        obtain ⟨⟨rfl, rfl⟩, rfl⟩ := hv'
        have rP : Rd W' (.slice (some ⟨gb, go + 64 * y, none⟩) 64 (gc - 64 * y)) (psec bb y) := by
          have := hR (64 * y) (64 * y + 64) (by omega) (by omega)
          rwa [show 64 * y + 64 - 64 * y = 64 by omega] at this
        have KP := hide (dput_any W' _ _ _ (d.1, d.2 ++ pws at' bb y) (at' + (y : Int)) (psec bb y) i7 i8 rP)
        obtain ⟨q0, q1, _, _⟩ := row2_cells i2
        have hWs : w2.heap.size + 1 ≤ W'.heap.size := i5'.lt
        have hgw1 : w.heap.size + 1 + 1 < w2.heap.size := by omega
        have HI := hide (And.intro i1 (And.intro i2 (And.intro i3 (And.intro i4 (And.intro i5' i6)))))
        have hyl : Hid ((pre ++ [y]).length = y + 1) := by show _ = _; rw [List.length_append, ← hy]; rfl
        have hi10 := hide i10
        have HOK := hide hok
        replace hL := hide hL
        replace hy := hide hy
        clear i1 i2 i3 i4 i5' i6 i7 i8 i9 i10 hR rP hok hA4 hB4 hC4 hD4 ba bp
        by_cases hf : d.2.length + y < 4096
        · rw [dput_pwsK HOK.out hbL.out hp0 hp1 hy4 hf] at KP
          dsimp only at KP
          dsimp only [actW]
          gi_wp2_with fail
          refine ⟨trivial, ?_⟩
          refine (callsIn_wide.2 KP.out).mono ?_
          rintro e w6 ⟨ys, yc, rfl, o6, b6⟩
          clear KP q0 q1
          obtain ⟨P1, P2⟩ := Own.fst (c := [ys]) (d := [yc]) o6 rfl
          obtain ⟨ya, yx, hs⟩ := P1.rdS.slice
          obtain ⟨yb, yy, hcv⟩ := P2.rdS.slice
          obtain ⟨L2, hL2⟩ : ∃ L, L = (d.2 ++ pws at' bb (y + 1)).length := ⟨_, rfl⟩
          rw [← hL2] at hcv
          replace hL2 := hide hL2
          dsimp only at hs
          subst hs hcv
          clear P1 P2
          obtain ⟨i1, i2, i3, i4, i5', i6⟩ := HI.out
          have A6 := (b6.block _ (lt_of_block i2)).trans i2
          obtain ⟨y0, y1, y2, y3⟩ := row2_cells A6
          have D6 : Boxed ((w6.setCell ⟨w.heap.size, 0, none⟩ (.slice ya d.1.length yx)).setCell ⟨w.heap.size, 1, none⟩ (.slice yb L2 yy)) w2.heap.size 24 (.int .i64 0) := by
            show (_ : Option Obj) = _
            rw [Below.heap_setCell _ _ _ _ (by show w2.heap.size ≠ w.heap.size; omega), Below.heap_setCell _ _ _ _ (by show w2.heap.size ≠ w.heap.size; omega)]
            exact (b6.block _ i5'.lt).trans i5'
          have p1 := D6.cell
          have p2 := D6.frozen
          have p3 := (D6.set (.int .i64 0)).cell
          have FIN : Hid (KeepsFrom w5.heap.size W' (putSec w6 w.heap.size w2.heap.size (.slice ya d.1.length yx) (.slice yb L2 yy) (.int .i64 0)) ∧ KpP (w2.heap.size + 1) (w2.heap.size + 1 + 1) W' (putSec w6 w.heap.size w2.heap.size (.slice ya d.1.length yx) (.slice yb L2 yy) (.int .i64 0)) ∧
              IW w d at' bb w2 gb (pre ++ [y]) (putSec w6 w.heap.size w2.heap.size (.slice ya d.1.length yx) (.slice yb L2 yy) (.int .i64 0))) := by
            have k1 : KeepsOthers W' w6 := ⟨b6.size, fun k o h _ => (b6.block k (Array.getElem?_eq_some_iff.1 h).1).trans h⟩
            have oN : Own SStP (w2.heap.size + 1) (putSec w6 w.heap.size w2.heap.size (.slice ya d.1.length yx) (.slice yb L2 yy) (.int .i64 0)) [.slice ya d.1.length yx, .slice yb L2 yy] (d.1, d.2 ++ pws at' bb (y + 1)) :=
              (((o6.set (a := ⟨w.heap.size, 0, none⟩) (by show w.heap.size < W'.heap.size; omega) _).set (a := ⟨w.heap.size, 1, none⟩) (by show w.heap.size < W'.heap.size; omega) _).set (a := ⟨w2.heap.size, 0, none⟩) (by show w2.heap.size < W'.heap.size; omega) _).mono hWs
            obtain ⟨P1, P2⟩ := Own.fst (c := [.slice ya d.1.length yx]) (d := [.slice yb L2 yy]) oN rfl
            refine ⟨(k1.trans (putSec_keeps _ _ _ _ _ _)).from _, ?_, _, _, ?_, ?_, ?_, ?_, D6.set _, ?_, P1.rdS, by rw [hyl.out]; exact P2.rdS, fun _ => by rw [hyl.out]; exact oN, by rw [hyl.out]; omega⟩
            · intro k o hk h1 _
              rw [putSec_other (by rcases hk with rfl | rfl <;> omega) (by rcases hk with rfl | rfl <;> omega)]
              exact (b6.block k (Array.getElem?_eq_some_iff.1 h1).1).trans h1
            · exact (below_set2 (i1.trans (b6.mono i1.size)) (Nat.le_refl _) _ _).setCell (p := ⟨w2.heap.size, 0, none⟩) (by show w.heap.size ≤ w2.heap.size; omega) _
            · unfold putSec
              rw [Below.heap_setCell _ _ _ _ (by show w.heap.size ≠ w2.heap.size; omega)]
              exact heap_set2 A6 _ _
            · rw [putSec_other (by omega) (by omega)]; exact (b6.block _ (lt_of_block i3)).trans i3
            · show (_ : Option Obj) = _
              rw [putSec_other (by omega) (by omega)]; exact (b6.block _ i4.lt).trans i4
            · rw [putSec_other (by omega) (by omega)]; exact (b6.block _ (by omega)).trans i6
          clear A6 D6 i1 i2 i3 i4 i5' i6 o6 b6 HI
          gi_wp2
          exact FIN.out
        · have hf' : d.2.length + y = 4096 := by have := hi10.out; omega
          rw [dput_pws_full HOK.out hbL.out hp0 hp1 hy4 hf'] at KP
          dsimp only at KP
          dsimp only [actW]
          replace hf := hide hf
          replace hf' := hide hf'
          gi_wp2_with fail
          refine ⟨trivial, ?_⟩
          refine (callsIn_wide.2 KP.out).mono ?_
          rintro e w6 ⟨ys, yc, rfl, o6, b6⟩
          clear KP q0 q1
          obtain ⟨P1, P2⟩ := Own.fst (c := [ys]) (d := [yc]) o6 rfl
          obtain ⟨ya, yx, hs⟩ := P1.rdS.slice
          obtain ⟨yb, yy, hcv⟩ := P2.rdS.slice
          dsimp only [List.length_nil] at hs hcv
          subst hs hcv
          clear P1 P2
          obtain ⟨i1, i2, i3, i4, i5', i6⟩ := HI.out
          have A6 := (b6.block _ (lt_of_block i2)).trans i2
          obtain ⟨y0, y1, y2, y3⟩ := row2_cells A6
          have D6 : Boxed ((w6.setCell ⟨w.heap.size, 0, none⟩ (.slice ya 0 yx)).setCell ⟨w.heap.size, 1, none⟩ (.slice yb 0 yy)) w2.heap.size 24 (.int .i64 0) := by
            show (_ : Option Obj) = _
            rw [Below.heap_setCell _ _ _ _ (by show w2.heap.size ≠ w.heap.size; omega), Below.heap_setCell _ _ _ _ (by show w2.heap.size ≠ w.heap.size; omega)]
            exact (b6.block _ i5'.lt).trans i5'
          have p1 := D6.cell
          have p2 := D6.frozen
          have p3 := (D6.set (.int .i64 51)).cell
          obtain ⟨U, hU⟩ : ∃ U, U = putSec w6 w.heap.size w2.heap.size (.slice ya 0 yx) (.slice yb 0 yy) (.int .i64 51) := ⟨_, rfl⟩
          have B6 : U.heap[w.heap.size + 1]? = some (.cells #[.slice none 0 0, .slice none 0 0] 43 (0, 0)) := by rw [hU, putSec_other (by omega) (by omega)]; exact (b6.block _ (lt_of_block i3)).trans i3
          have C6 : Boxed U (w.heap.size + 1 + 1) 24 (.int .i64 0) := by
            show (_ : Option Obj) = _
            rw [hU, putSec_other (by omega) (by omega)]; exact (b6.block _ i4.lt).trans i4
          have bU : Below w.heap.size w U := by
            rw [hU]; exact (below_set2 (i1.trans (b6.mono i1.size)) (Nat.le_refl _) _ _).setCell (p := ⟨w2.heap.size, 0, none⟩) (by show w.heap.size ≤ w2.heap.size; omega) _
          have kU : KeepsOthers W' U := by
            have k1 : KeepsOthers W' w6 := ⟨b6.size, fun k o h _ => (b6.block k (Array.getElem?_eq_some_iff.1 h).1).trans h⟩
            rw [hU]; exact k1.trans (putSec_keeps _ _ _ _ _ _)
          have pU : U.cell? ⟨w2.heap.size, 0, none⟩ = some (.int .i64 51) := by rw [hU]; exact p3
          obtain ⟨r0, r1, f0, f1⟩ := row2_cells B6
          have e0 := C6.cell
          have e1 := C6.frozen
          have FIN : Hid (KeepsFrom w5.heap.size W' (putRes U w.heap.size (.slice none 0 0) (.slice none 0 0) (.int .i64 51)).drew ∧ XW w d .ret (pre ++ [y]) (putRes U w.heap.size (.slice none 0 0) (.slice none 0 0) (.int .i64 51)).drew) :=
            ⟨((kU.trans (putRes_keeps _ _ _ _ _)).trans (KeepsOthers.drew _)).from _, rfl, by have := hf'.out; omega, below_drew (putRes_below bU (Nat.le_refl _) _ _ _), putRes_row B6 _ _ _, putRes_box C6 _ _ _⟩
          replace hU : ((w6.setCell ⟨w.heap.size, 0, none⟩ (.slice ya 0 yx)).setCell ⟨w.heap.size, 1, none⟩ (.slice yb 0 yy)).setCell ⟨w2.heap.size, 0, none⟩ (.int .i64 51) = U := hU.symm
          clear A6 D6 i1 i2 i3 i4 i5' i6 o6 b6 HI B6 C6 bU kU
          gi_wp2_with fail
          replace hU := hide hU
          have hmx : Try.prog.follows .mixedOrders = true := mixed
          gi_region_with_o (fail)
          all_goals
            gi_wp2
            exact FIN.out
      case done =>
        rintro D xs W' hD hSP ⟨s, c, i1, i2, i3, i4, i5', i6, i7, i8, i9, i10⟩ hK
        have hx4 : xs.length = 4 := hSP
        rw [hx4] at i8 i9 i10
        have hS := hide (sY.out hsec.out (by trivial) (by omega))
        obtain ⟨sa, sc, hs⟩ := i7.slice
        obtain ⟨ca, cc, hcv⟩ := i8.slice
        obtain ⟨L, hL⟩ : ∃ L, L = (d.2 ++ pws at' bb 4).length := ⟨_, rfl⟩
        rw [← hL] at hcv
        replace hL := hide hL
        subst hs hcv
        obtain ⟨q0, q1, _, _⟩ := row2_cells i2
        obtain ⟨r0, r1, f0, f1⟩ := row2_cells i3
        have e0 := i4.cell
        have e1 := i4.frozen
        have hK6 : (putRes W' w.heap.size (.slice sa d.1.length sc) (.slice ca L cc) (.int .i64 0)).heap[D]? = some (.deferred (some [])) := by rw [putRes_other (by omega) (by omega)]; exact hK
        have FIN := hide (And.intro hK6 (And.intro (putRes_row i3 (.slice sa d.1.length sc) (.slice ca L cc) (.int .i64 0)) (And.intro (putRes_box i4 (.slice sa d.1.length sc) (.slice ca L cc) (.int .i64 0)) (And.intro (putRes_own (g := w.heap.size) (i9 (by decide)) (by omega) (.slice sa d.1.length sc) (.slice ca L cc) (.int .i64 0)) (putRes_below i1 (Nat.le_refl _) (.slice sa d.1.length sc) (.slice ca L cc) (.int .i64 0))))))
        clear i1 i2 i3 i4 i5' i6 i7 i8 i9 i10 hK6 hx4 hSP hA4 hB4 hC4 hD4 ba bp
        gi_wp2
        obtain ⟨hK6, e1', e2', e3', e4'⟩ := FIN.out
        have kp := KpC.put _ D _ (.deferred none) hK6 rfl
        refine ⟨by simp, .inl ⟨_, _, rfl, run_takeDeferred hK6, ?_⟩⟩
        refine ⟨_, results_rowbox rfl _ _ _ _ _ _ _ _ _ _ _ Try.underlying43 rfl rfl info_stP Try.underlying24 rfl rfl (kp.2 _ _ e1' rfl) (kp.cell e2'.cell), ?_⟩
        rw [hS.out]
        exact ⟨_, _, rfl, (kp.ownS onCells_state e3').mono (by omega), e4'.trans ⟨rfl, rfl, rfl, by simp [World.putObj, putRes], fun k hk => World.putObj_heap_other (by omega)⟩⟩
      case stop =>
        rintro D c pre W' hD ⟨rfl, hf, hb, e1, e2⟩ hK
        have hS := hide (sF.out hsec.out (by trivial) hf)
        gi_wp2
        have kp := KpC.put _ D _ (.deferred none) hK rfl
        refine ⟨by simp, .inl ⟨_, _, rfl, run_takeDeferred hK, ?_⟩⟩
        refine ⟨_, results_rowbox rfl _ _ _ _ _ _ _ _ _ _ _ Try.underlying43 rfl rfl info_stP Try.underlying24 rfl rfl (kp.2 _ _ e1 rfl) (kp.cell e2.cell), ?_⟩
        rw [hS.out]
        exact ⟨_, _, rfl, own_none _ _ _, hb.trans ⟨rfl, rfl, rfl, by simp [World.putObj], fun k hk => World.putObj_heap_other (by omega)⟩⟩
    · have hS := hide (sE.out hsec.out he)
      have hee : (er != 0) = true := by simpa using he
      replace he := hide he
      obtain ⟨s2', t2', hv2⟩ := o2.rd.slice
      subst hv2
      obtain ⟨r0, r1, f0, f1⟩ := row2_cells hB4
      have e0 := hC4.cell
      have e1 := hC4.frozen
      have d4 := hD4.cell
      rw [hw4] at d4
      clear o2
      gi_wp2_with fail
      rw [← hw4]
      rw [← hw4] at d4
      replace hw4 := hide hw4
      have HX : Hid (Below w.heap.size w w4 ∧ _ ∧ _) := ⟨c4w, hB4, hC4⟩
      clear hA4 hB4 hC4
      gi_region
      gi_wp2
      refine ⟨_, results_rowbox rfl _ _ _ _ _ _ _ _ _ _ _ Try.underlying43 rfl rfl info_stP Try.underlying24 rfl rfl (putRes_row HX.out.2.1 _ _ _) (putRes_box HX.out.2.2 _ _ _).cell, ?_⟩
      rw [hS.out]
      exact ⟨_, _, rfl, own_none _ _ _, below_drew (putRes_below HX.out.1 (Nat.le_refl _) _ _ _)⟩
  · have hS := hide (sD.out (by rw [← hE]; exact h0))
    have hbe : (E != 0) = true := by simpa using h0
    replace h0 := hide h0
    replace hE := hide hE
    obtain ⟨r0, r1, f0, f1⟩ := row2_cells hB1
    have cc := (hC1.other (by omega : w.heap.size + 1 + 1 ≠ w.heap.size + 1) (.slice none 0 0)).cell
    have cf := hC1.frozen
    have HX : Hid (Below w.heap.size w w1 ∧ _ ∧ _) := ⟨c1w, hB1, hC1⟩
    clear hA1 hB1 hC1
    gi_wp2
    refine ⟨_, results_rowbox rfl _ _ _ _ _ _ _ _ _ _ _ Try.underlying43 rfl rfl info_stP Try.underlying24 rfl rfl (putRes_row HX.out.2.1 _ _ _) (putRes_box HX.out.2.2 _ _ _).cell, ?_⟩
    rw [hS.out]
    exact ⟨_, _, by rw [← hE.out], own_none _ _ _, putRes_below HX.out.1 (Nat.le_refl _) _ _ _⟩

end Go.Proofs.Ytliileemelcllaa

/-
  What the program's pages say.
-/
namespace Go.Proofs.Ytliileemelcllaa
open Go.RowKit

theorem pages_say : PagesSay where
  encS w id v d h _ _ := pgencP_any w id v d h
  decS w v x h _ := pgdecP_any w v x h
  writeS w sv cv v d at' id x h1 h2 hx _ _ _ := ppgwrite_any w sv cv v d at' id x h1 h2 hx
  readS w sv cv d at' id h1 h2 _ _ := ppgread_any w sv cv d at' id h1 h2

end Go.Proofs.Ytliileemelcllaa

namespace Go.Proofs.Ytliileemelcllaa.pagesCrash
open Go.ChangeShapes Go.WideShapes Go.ChangeAt Go.RowKit
set_option linter.unusedVariables false

theorem dnew4 : dnew 4 = ((z64s 4, []), 0) := dnew_yes (n := 4) (by decide) (by decide)
set_option linter.unusedSimpArgs false in
set_option maxRecDepth 100000 in
set_option maxHeartbeats 8000000 in
theorem walkS (S : PagesSay) (w : World) (a0 : Option Addr) (len0 cap0 : Nat) (x0 : List UInt8) (e0 : x0.length = len0) (g0 : Rd w (.slice a0 len0 cap0) x0) (m0 : len0 ≤ 140737488351232) (a1 : Option Addr) (len1 cap1 : Nat) (x1 : List UInt8) (e1 : x1.length = len1) (g1 : Rd w (.slice a1 len1 cap1) x1) (m1 : len1 ≤ 140737488351232) (a2 : Option Addr) (len2 cap2 : Nat) (x2 : List Bool) (g2 : SKeep.rd w [.slice a2 len2 cap2] x2) (m2 : x2.length * 1 ≤ 140737488351232 ∧ ∀ x ∈ x2, True) (a3 : Int) (w3' : (Lit.int .i64 a3).wf = true) (a4 : Int) (w4' : (Lit.int .i64 a4).wf = true) :
    Calls Try.prog 6 #[.slice a0 len0 cap0, .slice a1 len1 cap1, .slice a2 len2 cap2, .int .i64 a3, .int .i64 a4] w fun e w' => e = .returned (.bool true) ∧ Below w.heap.size w w' := by
  subst e0 e1
  clear w3' w4' m2
  obtain ⟨kv, ek, gk⟩ := g2
  simp only [List.cons.injEq, and_true] at ek
  subst ek
  have ekl : len2 = x2.length := by obtain ⟨_, _, ek⟩ := gk.slice; simp only [Value.slice.injEq] at ek; exact ek.2.1
  subst ekl
  obtain ⟨l0, hl0⟩ : ∃ l0 : Nat, min (x0.length : Int) 244 = (l0 : Int) := ⟨min x0.length 244, by omega⟩
  obtain ⟨l1, hl1⟩ : ∃ l1 : Nat, min (x1.length : Int) 244 = (l1 : Int) := ⟨min x1.length 244, by omega⟩
  have f0 := rd_take g0 (n := l0) (by omega)
  have f1 := rd_take g1 (n := l1) (by omega)
  have c0 : (l0 : Int) ≤ (cap0 : Int) := by have := rd_cap g0; omega
  have c1 : (l1 : Int) ≤ (cap1 : Int) := by have := rd_cap g1; omega
  obtain ⟨X0, hX0⟩ : ∃ X, X = x0.take l0 := ⟨_, rfl⟩
  obtain ⟨X1, hX1⟩ : ∃ X, X = x1.take l1 := ⟨_, rfl⟩
  rw [← hX0] at f0
  rw [← hX1] at f1
  have k0 := hide (show X0.length = l0 by rw [hX0]; simp; omega)
  have k1 := hide (show X1.length = l1 by rw [hX1]; simp; omega)
  have n0 := hide (show X0.length ≤ 244 by rw [k0.out]; omega)
  have n1 := hide (show X1.length ≤ 244 by rw [k1.out]; omega)
  obtain ⟨D1, D2, D3, D4, rx, re, e1, e2, e3, e4, e5, e6, e7, e8⟩ := crash_chain n0.out n1.out x2 a3 a4
  have H := hide (And.intro e1 (And.intro e2 (And.intro e3 (And.intro e4 (And.intro e5 (And.intro e6 e8))))))
  have HW := hide e7
  clear e1 e2 e3 e4 e5 e6 e7 e8 g0 g1 hX0 hX1
  have CC := hide (Below.refl w.heap.size w)
  have F0 := hide f0
  have F1 := hide f1
  have GK := hide gk
  clear f0 f1 gk
  go_enter Try.func6, Try.ntmps6
  go_wp2_with fail
  refine (pgalive_any S w).mono ?_
  rintro e w1 ⟨rfl, b⟩
  replace CC := hide (CC.out.trans (b.mono CC.out.size))
  clear b
  go_upto_region 3 with fail
  go_cut [0, 1] from 28 to 37 (fun s t wx => s = .slice a0 l0 cap0 ∧ t = .slice a1 l1 cap1 ∧ wx = w1.drew)
  case first =>
    go_region
    all_goals (go_wp2_with fail)
    all_goals (go_meet; exact ⟨by congr 1 <;> omega, by congr 1 <;> omega, rfl⟩)
  case rest =>
  obtain ⟨rfl, rfl, rfl⟩ := hcut
  replace CC := hide (CC.out.drew)
  generalize w1.drew = w2 at *
  clear c0 c1 hl0 hl1 m0 m1
  have KN := hide (dnew_any w2 4)
  rw [dnew4] at KN
  dsimp only at KN
  go_wp2_with fail
  refine KN.out.mono ?_
  rintro e w3 ⟨ds, dc, rfl, o, b⟩
  clear KN
  replace CC := hide (CC.out.trans (b.mono CC.out.size))
  clear b
  obtain ⟨P1, P2⟩ := Own.fst (c := [ds]) (d := [dc]) o rfl
  obtain ⟨da, dx, hs⟩ := P1.rdS.slice
  obtain ⟨db, dy, hc⟩ := P2.rdS.slice
  rw [z64s_len] at hs
  replace hc : dc = .slice db 0 dy := hc
  subst hs hc
  have d1 := hide P1.rdS
  have d2 := hide P2.rdS
  clear P1 P2 o
  have hwle := hide CC.out.size
  obtain ⟨Y1, hY1, HD, bY1, _⟩ := boxedN w3 #[.slice da 4 dx, .slice db 0 dy] 43
  obtain ⟨gD, hgD⟩ : ∃ g, g = w3.heap.size := ⟨_, rfl⟩
  rw [← hgD] at HD
  replace HD := hide HD
  replace d1 := hide (d1.out.to0 bY1)
  replace d2 := hide (d2.out.to0 bY1)
  replace CC := hide (CC.out.trans (bY1.mono CC.out.size))
  clear bY1
  have hleD : w.heap.size ≤ gD := by rw [hgD]; exact hwle.out
  have K := hide (S.writeS Y1 _ _ _ (z64s 4, []) 0 1 X0 d1.out d2.out (F0.out.to CC.out) (by decide) (by decide) (by have := n0.out; omega))
  rw [H.out.1] at K
  dsimp only at K
  obtain ⟨d_0, d_1, _, _⟩ := row2_cells HD.out
  rw [hY1] at d_0 d_1
  rw [hgD] at d_0 d_1
  go_wp2_with fail
  clear d_0 d_1
  rw [← hY1, ← hgD]
  replace hY1 := hide hY1
  replace hgD := hide hgD
  refine K.out.mono ?_
  rintro e w4 ⟨es, ec, rfl, o, b⟩
  clear K
  have hltD : gD < Y1.heap.size := lt_of_block HD.out
  replace HD := hide ((b.block _ (lt_of_block HD.out)).trans HD.out)
  replace CC := hide (CC.out.trans (b.mono CC.out.size))
  clear b
  obtain ⟨P1, P2⟩ := Own.fst (c := [es]) (d := [ec]) o rfl
  obtain ⟨ea, ex, hs⟩ := P1.rdS.slice
  obtain ⟨eb, ey, hc⟩ := P2.rdS.slice
  subst hs hc
  clear P1 P2
  replace o := hide o
  obtain ⟨z0, z1, z2, z3⟩ := row2_cells HD.out
  obtain ⟨U1, hU1⟩ : ∃ U, U = (w4.setCell ⟨gD, 0, none⟩ (.slice ea D1.1.length ex)).setCell ⟨gD, 1, none⟩ (.slice eb D1.2.length ey) := ⟨_, rfl⟩
  have HDn : Hid (U1.heap[gD]? = some (.cells #[.slice ea D1.1.length ex, .slice eb D1.2.length ey] 43 (0, 0))) := by
    show _ = _
    rw [hU1]; exact heap_set2 HD.out _ _
  replace o : Hid (Own SStP Y1.heap.size U1 [.slice ea D1.1.length ex, .slice eb D1.2.length ey] D1) := by
    show Own _ _ _ _ _
    rw [hU1]; exact (o.out.set (a := ⟨gD, 0, none⟩) hltD _).set (a := ⟨gD, 1, none⟩) hltD _
  have CCn : Hid (Below w.heap.size w U1) := by
    show Below _ _ _
    rw [hU1]; exact below_set2 CC.out hleD _ _
  go_upto_region 6 with fail
  rw [← hU1]
  clear z0 z1 z2 z3
  replace hU1 := hide hU1
  clear HD CC
  have HD := HDn
  have CC := CCn
  clear HDn CCn
  obtain ⟨P1, P2⟩ := Own.fst (c := [.slice ea D1.1.length ex]) (d := [.slice eb D1.2.length ey]) o.out rfl
  have K := hide (dflush_any U1 _ _ D1 P1.rdS P2.rdS)
  rw [H.out.2.1] at K
  dsimp only at K
  obtain ⟨d_0, d_1, _, _⟩ := row2_cells HD.out
  go_wp2_with fail
  clear d_0 d_1
  refine K.out.mono ?_
  rintro e w5 ⟨fs, fc, rfl, o, b⟩
  clear K
  have hltD : gD < U1.heap.size := lt_of_block HD.out
  replace HD := hide ((b.block _ (lt_of_block HD.out)).trans HD.out)
  replace CC := hide (CC.out.trans (b.mono CC.out.size))
  clear b
  obtain ⟨P1, P2⟩ := Own.fst (c := [fs]) (d := [fc]) o rfl
  obtain ⟨fa, fx, hs⟩ := P1.rdS.slice
  obtain ⟨fb, fy, hc⟩ := P2.rdS.slice
  subst hs hc
  clear P1 P2
  replace o := hide o
  obtain ⟨z0, z1, z2, z3⟩ := row2_cells HD.out
  obtain ⟨U2, hU2⟩ : ∃ U, U = (w5.setCell ⟨gD, 0, none⟩ (.slice fa D2.1.length fx)).setCell ⟨gD, 1, none⟩ (.slice fb D2.2.length fy) := ⟨_, rfl⟩
  have HDn : Hid (U2.heap[gD]? = some (.cells #[.slice fa D2.1.length fx, .slice fb D2.2.length fy] 43 (0, 0))) := by
    show _ = _
    rw [hU2]; exact heap_set2 HD.out _ _
  replace o : Hid (Own SStP U1.heap.size U2 [.slice fa D2.1.length fx, .slice fb D2.2.length fy] D2) := by
    show Own _ _ _ _ _
    rw [hU2]; exact (o.out.set (a := ⟨gD, 0, none⟩) hltD _).set (a := ⟨gD, 1, none⟩) hltD _
  have CCn : Hid (Below w.heap.size w U2) := by
    show Below _ _ _
    rw [hU2]; exact below_set2 CC.out hleD _ _
  go_upto_region 7 with fail
  rw [← hU2]
  clear z0 z1 z2 z3
  replace hU2 := hide hU2
  clear HD CC
  have HD := HDn
  have CC := CCn
  clear HDn CCn
  obtain ⟨P1, P2⟩ := Own.fst (c := [.slice fa D2.1.length fx]) (d := [.slice fb D2.2.length fy]) o.out rfl
  have K := hide (S.writeS U2 _ _ _ D2 0 1 X1 P1.rdS P2.rdS (F1.out.to CC.out) (by decide) (by decide) (by have := n1.out; omega))
  rw [H.out.2.2.1] at K
  dsimp only at K
  obtain ⟨d_0, d_1, _, _⟩ := row2_cells HD.out
  go_wp2_with fail
  clear d_0 d_1
  refine K.out.mono ?_
  rintro e w6 ⟨hs, hc, rfl, o, b⟩
  clear K
  have hltD : gD < U2.heap.size := lt_of_block HD.out
  replace HD := hide ((b.block _ (lt_of_block HD.out)).trans HD.out)
  replace CC := hide (CC.out.trans (b.mono CC.out.size))
  clear b
  obtain ⟨P1, P2⟩ := Own.fst (c := [hs]) (d := [hc]) o rfl
  obtain ⟨ha, hx, hs⟩ := P1.rdS.slice
  obtain ⟨hb, hy, hc⟩ := P2.rdS.slice
  subst hs hc
  clear P1 P2
  replace o := hide o
  obtain ⟨z0, z1, z2, z3⟩ := row2_cells HD.out
  obtain ⟨U3, hU3⟩ : ∃ U, U = (w6.setCell ⟨gD, 0, none⟩ (.slice ha D3.1.length hx)).setCell ⟨gD, 1, none⟩ (.slice hb D3.2.length hy) := ⟨_, rfl⟩
  have HDn : Hid (U3.heap[gD]? = some (.cells #[.slice ha D3.1.length hx, .slice hb D3.2.length hy] 43 (0, 0))) := by
    show _ = _
    rw [hU3]; exact heap_set2 HD.out _ _
  replace o : Hid (Own SStP U2.heap.size U3 [.slice ha D3.1.length hx, .slice hb D3.2.length hy] D3) := by
    show Own _ _ _ _ _
    rw [hU3]; exact (o.out.set (a := ⟨gD, 0, none⟩) hltD _).set (a := ⟨gD, 1, none⟩) hltD _
  have CCn : Hid (Below w.heap.size w U3) := by
    show Below _ _ _
    rw [hU3]; exact below_set2 CC.out hleD _ _
  go_upto_region 8 with fail
  rw [← hU3]
  clear z0 z1 z2 z3
  replace hU3 := hide hU3
  clear HD CC
  have HD := HDn
  have CC := CCn
  clear HDn CCn
  obtain ⟨P1, P2⟩ := Own.fst (c := [.slice ha D3.1.length hx]) (d := [.slice hb D3.2.length hy]) o.out rfl
  have K := hide (dcrash_any U3 _ _ _ D3 x2 a3 a4 P1.rdS P2.rdS (GK.out.to0 CC.out))
  rw [H.out.2.2.2.1] at K
  dsimp only at K
  clear P1 P2
  obtain ⟨d_0, d_1, _, _⟩ := row2_cells HD.out
  go_wp2_with fail
  clear d_0 d_1
  refine K.out.mono ?_
  rintro e w7 ⟨ys, yc, rfl, o, b⟩
  clear K
  replace HD := hide ((b.block _ (lt_of_block HD.out)).trans HD.out)
  replace CC := hide (CC.out.trans (b.mono CC.out.size))
  clear b HD hleD hwle
  obtain ⟨P1, P2⟩ := Own.fst (c := [ys]) (d := [yc]) o rfl
  obtain ⟨ya, yx, hs⟩ := P1.rdS.slice
  obtain ⟨yb, yy, hc⟩ := P2.rdS.slice
  subst hs hc
  clear P1 P2
  replace o := hide o
  obtain ⟨P1, P2⟩ := Own.fst (c := [.slice ya D4.1.length yx]) (d := [.slice yb D4.2.length yy]) o.out rfl
  have y1 := hide P1.rdS
  have y2 := hide P2.rdS
  clear P1 P2 o
  obtain ⟨Y2, hY2, HT, bY2, _⟩ := boxedN w7 #[.slice ya D4.1.length yx, .slice yb D4.2.length yy] 43
  obtain ⟨gT, hgT⟩ : ∃ g, g = w7.heap.size := ⟨_, rfl⟩
  rw [← hgT] at HT
  replace HT := hide HT
  replace y1 := hide (y1.out.to0 bY2)
  replace y2 := hide (y2.out.to0 bY2)
  replace CC := hide (CC.out.trans (bY2.mono CC.out.size))
  clear bY2
  go_upto_region 9 with fail
  rw [← hY2, ← hgT]
  replace hY2 := hide hY2
  replace hgT := hide hgT
  go_wp2_with fail
  refine (num7_any _ _).mono ?_
  rintro e w' ⟨rfl, rfl⟩
  go_wp2_with fail
  refine (num7_any _ _).mono ?_
  rintro e w' ⟨rfl, rfl⟩
  go_wp2_with fail
  refine (num7_any _ _).mono ?_
  rintro e w' ⟨rfl, rfl⟩
  go_wp2_with fail
  refine (num7_any _ _).mono ?_
  rintro e w' ⟨rfl, rfl⟩
  go_wp2_with fail
  refine (num7_any _ _).mono ?_
  rintro e w' ⟨rfl, rfl⟩
  have K := hide (S.readS Y2 _ _ D4 0 1 y1.out y2.out (by decide) (by decide))
  rw [H.out.2.2.2.2.1] at K
  dsimp only at K
  obtain ⟨t_0, t_1, _, _⟩ := row2_cells HT.out
  go_wp2_with fail
  clear t_0 t_1
  refine K.out.mono ?_
  rintro e w8 ⟨v, rfl, o, b⟩
  clear K
  replace HT := hide ((b.block _ (lt_of_block HT.out)).trans HT.out)
  replace y1 := hide (y1.out.to0 b)
  replace y2 := hide (y2.out.to0 b)
  replace CC := hide (CC.out.trans (b.mono CC.out.size))
  clear b
  have RA := hide o.rd
  obtain ⟨s4, t4, hv4⟩ := o.rd.slice
  subst hv4
  clear o y1 y2 HT
  go_wp2_with fail
  refine (num7_any _ _).mono ?_
  rintro e w' ⟨rfl, rfl⟩
  by_cases hre : re = 0
  ·
    subst hre
    clear HW
    go_wp2
    go_loopw [20, 21] (fun a b wr => ∃ k : Nat, k ≤ 4 ∧ b = .int .i64 k ∧ a = .bool (whl x2 a3 a4 k) ∧ w8 = wr) (fun _ b _ => 4 - (intOf b).toNat)
    case atStart => exact ⟨0, by decide, rfl, rfl, rfl⟩
    case round =>
      obtain ⟨k, hk, rfl, rfl, rfl⟩ := hrel
      by_cases hlt : k < 4
      · have hq : (k : Int) < 4 := by omega
        have hs := hide (show whl x2 a3 a4 (k + 1) = (whl x2 a3 a4 k && decide (x2[k]? = some true) && (decide ((k : Int) ≠ a3) || decide (64 ≤ a4))) from rfl)
        obtain ⟨b, hb⟩ : ∃ b, whl x2 a3 a4 k = b := ⟨_, rfl⟩
        rw [hb] at hs ⊢
        clear hb
        cases b
        · go_wp2
          go_roundw
          case rel => exact ⟨k + 1, by omega, by go_num, by rw [hs.out]; rfl, trivial⟩
          case measure => simp [intOf]; omega
        · by_cases hl : k < x2.length
          · have hl' : (k : Int) < (x2.length : Int) := by omega
            obtain ⟨c, hc⟩ : ∃ c, x2[k]? = some c := ⟨_, List.getElem?_eq_getElem hl⟩
            obtain ⟨bb, oo, rfl, hcell⟩ := (GK.out.to0 CC.out).bl hc
            rw [hc] at hs
            clear hc
            cases c
            · go_wp2
              go_roundw
              case rel => exact ⟨k + 1, by omega, by go_num, by rw [hs.out]; rfl, trivial⟩
              case measure => simp [intOf]; omega
            · by_cases ht : (k : Int) = a3
              · subst ht
                by_cases h64 : (64 : Int) ≤ a4
                · go_wp2
                  go_roundw
                  case rel => exact ⟨k + 1, by omega, by go_num, by rw [hs.out]; simp [h64], trivial⟩
                  case measure => simp [intOf]; omega
                · go_wp2
                  go_roundw
                  case rel => exact ⟨k + 1, by omega, by go_num, by rw [hs.out]; simp [h64], trivial⟩
                  case measure => simp [intOf]; omega
              · have ht' : ((k : Int) == a3) = false := beq_eq_false_iff_ne.2 ht
                go_wp2
                go_roundw
                case rel => exact ⟨k + 1, by omega, by go_num, by rw [hs.out]; simp [ht], trivial⟩
                case measure => simp [intOf]; omega
          · have hl' : ¬ (k : Int) < (x2.length : Int) := by omega
            have hn : x2[k]? = none := List.getElem?_eq_none (by omega)
            rw [hn] at hs
            clear hn
            go_wp2
            go_roundw
            case rel => exact ⟨k + 1, by omega, by go_num, by rw [hs.out]; rfl, trivial⟩
            case measure => simp [intOf]; omega
      · obtain rfl : k = 4 := by omega
        clear hk hlt
        obtain ⟨bw, hbw⟩ : ∃ b, whl x2 a3 a4 4 = b := ⟨_, rfl⟩
        have hwh : Hid (bw = true → rx = X1) := fun h => H.out.2.2.2.2.2.2 (hbw.trans h)
        rw [hbw]
        clear hbw
        go_upto_region 19 with fail
        go_cut [130] from 124 to 129 (fun s wx => s = .bool false ∧ Below w8.heap.size w8 wx)
        case first =>
          cases bw
          · go_wp2_with fail
            go_meet
            exact ⟨rfl, Below.refl _ _⟩
          · obtain rfl := hwh.out rfl
            have KS := hide (same_any w8 _ _ rx rx RA.out (F1.out.to CC.out))
            rw [sameB_self] at KS
            go_wp2_with fail
            refine KS.out.mono ?_
            rintro e w9 ⟨rfl, nd, hw⟩
            have b : Below w8.heap.size w8 w9 := by rw [hw]; exact below_drewN' _ _ _
            clear hw KS
            go_wp2_with fail
            go_meet
            exact ⟨rfl, b⟩
        case rest =>
        obtain ⟨rfl, b⟩ := hcut
        generalize wc = w9 at *
        have C9 := hide (CC.out.trans (b.mono CC.out.size))
        replace RA := hide (RA.out.to b)
        replace F0 := hide (F0.out.to C9.out)
        replace F1 := hide (F1.out.to C9.out)
        replace GK := hide (GK.out.to0 C9.out)
        clear CC b d1 d2
        replace CC := hide (Below.refl w9.heap.size w9)
        have KN := hide (rdnew_any w9 4 (by decide) (by decide))
        rw [show ((4 : Nat) : Int) = 4 from rfl] at KN
        go_wp2_with fail
        refine KN.out.mono ?_
        rintro e w10 ⟨cs, cc, rfl, o, b⟩
        clear KN
        replace CC := hide (CC.out.trans (b.mono CC.out.size))
        clear b
        change Own SStR _ _ _ (z64s 4, []) at o
        obtain ⟨P1, P2⟩ := Own.fst (c := [cs]) (d := [cc]) o rfl
        obtain ⟨ca, cx, hs⟩ := P1.rdS.slice
        obtain ⟨cb, cy, hc⟩ := P2.rdS.slice
        rw [z64s_len] at hs
        replace hc : cc = .slice cb 0 cy := hc
        subst hs hc
        have d1 := hide P1.rdS
        have d2 := hide P2.rdS
        clear P1 P2 o
        have hwle := hide CC.out.size
        obtain ⟨Y3, hY3, HC, bY3, _⟩ := boxedN w10 #[.slice ca 4 cx, .slice cb 0 cy] 40
        obtain ⟨gC, hgC⟩ : ∃ g, g = w10.heap.size := ⟨_, rfl⟩
        rw [← hgC] at HC
        replace HC := hide HC
        replace d1 := hide (d1.out.to0 bY3)
        replace d2 := hide (d2.out.to0 bY3)
        replace CC := hide (CC.out.trans (bY3.mono CC.out.size))
        clear bY3
        have hleC : w9.heap.size ≤ gC := by rw [hgC]; exact hwle.out
        have K := hide (rpgwrite_any Y3 _ _ _ (z64s 4, []) 0 1 X0 d1.out d2.out (F0.out.to CC.out) (by decide))
        rw [H.out.1] at K
        dsimp only at K
        obtain ⟨c_0, c_1, _, _⟩ := row2_cells HC.out
        rw [hY3] at c_0 c_1
        rw [hgC] at c_0 c_1
        go_wp2_with fail
        clear c_0 c_1
        rw [← hY3, ← hgC]
        replace hY3 := hide hY3
        replace hgC := hide hgC
        refine K.out.mono ?_
        rintro e w11 ⟨is, ic, rfl, o, b⟩
        clear K
        have hltC : gC < Y3.heap.size := lt_of_block HC.out
        replace HC := hide ((b.block _ (lt_of_block HC.out)).trans HC.out)
        replace CC := hide (CC.out.trans (b.mono CC.out.size))
        clear b
        obtain ⟨P1, P2⟩ := Own.fst (c := [is]) (d := [ic]) o rfl
        obtain ⟨ia, ix, hs⟩ := P1.rdS.slice
        obtain ⟨ib, iy, hc⟩ := P2.rdS.slice
        subst hs hc
        clear P1 P2
        replace o := hide o
        obtain ⟨z0, z1, z2, z3⟩ := row2_cells HC.out
        obtain ⟨V1, hV1⟩ : ∃ U, U = (w11.setCell ⟨gC, 0, none⟩ (.slice ia D1.1.length ix)).setCell ⟨gC, 1, none⟩ (.slice ib D1.2.length iy) := ⟨_, rfl⟩
        have HCn : Hid (V1.heap[gC]? = some (.cells #[.slice ia D1.1.length ix, .slice ib D1.2.length iy] 40 (0, 0))) := by
          show _ = _
          rw [hV1]; exact heap_set2 HC.out _ _
        replace o : Hid (Own SStR Y3.heap.size V1 [.slice ia D1.1.length ix, .slice ib D1.2.length iy] D1) := by
          show Own _ _ _ _ _
          rw [hV1]; exact (o.out.set (a := ⟨gC, 0, none⟩) hltC _).set (a := ⟨gC, 1, none⟩) hltC _
        have CCn : Hid (Below w9.heap.size w9 V1) := by
          show Below _ _ _
          rw [hV1]; exact below_set2 CC.out hleC _ _
        go_upto_region 23 with fail
        rw [← hV1]
        clear z0 z1 z2 z3
        replace hV1 := hide hV1
        clear HC CC
        have HC := HCn
        have CC := CCn
        clear HCn CCn
        clear d1 d2
        obtain ⟨P1, P2⟩ := Own.fst (c := [.slice ia D1.1.length ix]) (d := [.slice ib D1.2.length iy]) o.out rfl
        have K := hide (rflush_any V1 _ _ D1 P1.rdS P2.rdS (by rw [H.out.2.2.2.2.2.1]; decide))
        rw [H.out.2.1] at K
        dsimp only at K
        obtain ⟨c_0, c_1, _, _⟩ := row2_cells HC.out
        go_wp2_with fail
        clear c_0 c_1
        refine K.out.mono ?_
        rintro e w12 ⟨js, jc, rfl, o, b⟩
        clear K
        have hltC : gC < V1.heap.size := lt_of_block HC.out
        replace HC := hide ((b.block _ (lt_of_block HC.out)).trans HC.out)
        replace CC := hide (CC.out.trans (b.mono CC.out.size))
        clear b
        obtain ⟨P1, P2⟩ := Own.fst (c := [js]) (d := [jc]) o rfl
        obtain ⟨ja, jx, hs⟩ := P1.rdS.slice
        obtain ⟨jb, jy, hc⟩ := P2.rdS.slice
        subst hs hc
        clear P1 P2
        replace o := hide o
        obtain ⟨z0, z1, z2, z3⟩ := row2_cells HC.out
        obtain ⟨V2, hV2⟩ : ∃ U, U = (w12.setCell ⟨gC, 0, none⟩ (.slice ja D2.1.length jx)).setCell ⟨gC, 1, none⟩ (.slice jb D2.2.length jy) := ⟨_, rfl⟩
        have HCn : Hid (V2.heap[gC]? = some (.cells #[.slice ja D2.1.length jx, .slice jb D2.2.length jy] 40 (0, 0))) := by
          show _ = _
          rw [hV2]; exact heap_set2 HC.out _ _
        replace o : Hid (Own SStR V1.heap.size V2 [.slice ja D2.1.length jx, .slice jb D2.2.length jy] D2) := by
          show Own _ _ _ _ _
          rw [hV2]; exact (o.out.set (a := ⟨gC, 0, none⟩) hltC _).set (a := ⟨gC, 1, none⟩) hltC _
        have CCn : Hid (Below w9.heap.size w9 V2) := by
          show Below _ _ _
          rw [hV2]; exact below_set2 CC.out hleC _ _
        go_upto_region 24 with fail
        rw [← hV2]
        clear z0 z1 z2 z3
        replace hV2 := hide hV2
        clear HC CC
        have HC := HCn
        have CC := CCn
        clear HCn CCn
        obtain ⟨P1, P2⟩ := Own.fst (c := [.slice ja D2.1.length jx]) (d := [.slice jb D2.2.length jy]) o.out rfl
        have K := hide (rpgwrite_any V2 _ _ _ D2 0 1 X1 P1.rdS P2.rdS (F1.out.to CC.out) (by decide))
        rw [H.out.2.2.1] at K
        dsimp only at K
        obtain ⟨c_0, c_1, _, _⟩ := row2_cells HC.out
        go_wp2_with fail
        clear c_0 c_1
        refine K.out.mono ?_
        rintro e w13 ⟨ks, kc, rfl, o, b⟩
        clear K
        have hltC : gC < V2.heap.size := lt_of_block HC.out
        replace HC := hide ((b.block _ (lt_of_block HC.out)).trans HC.out)
        replace CC := hide (CC.out.trans (b.mono CC.out.size))
        clear b
        obtain ⟨P1, P2⟩ := Own.fst (c := [ks]) (d := [kc]) o rfl
        obtain ⟨ka, kx, hs⟩ := P1.rdS.slice
        obtain ⟨kb, ky, hc⟩ := P2.rdS.slice
        subst hs hc
        clear P1 P2
        replace o := hide o
        obtain ⟨z0, z1, z2, z3⟩ := row2_cells HC.out
        obtain ⟨V3, hV3⟩ : ∃ U, U = (w13.setCell ⟨gC, 0, none⟩ (.slice ka D3.1.length kx)).setCell ⟨gC, 1, none⟩ (.slice kb D3.2.length ky) := ⟨_, rfl⟩
        have HCn : Hid (V3.heap[gC]? = some (.cells #[.slice ka D3.1.length kx, .slice kb D3.2.length ky] 40 (0, 0))) := by
          show _ = _
          rw [hV3]; exact heap_set2 HC.out _ _
        replace o : Hid (Own SStR V2.heap.size V3 [.slice ka D3.1.length kx, .slice kb D3.2.length ky] D3) := by
          show Own _ _ _ _ _
          rw [hV3]; exact (o.out.set (a := ⟨gC, 0, none⟩) hltC _).set (a := ⟨gC, 1, none⟩) hltC _
        have CCn : Hid (Below w9.heap.size w9 V3) := by
          show Below _ _ _
          rw [hV3]; exact below_set2 CC.out hleC _ _
        go_upto_region 25 with fail
        rw [← hV3]
        clear z0 z1 z2 z3
        replace hV3 := hide hV3
        clear HC CC
        have HC := HCn
        have CC := CCn
        clear HCn CCn
        obtain ⟨P1, P2⟩ := Own.fst (c := [.slice ka D3.1.length kx]) (d := [.slice kb D3.2.length ky]) o.out rfl
        have K := hide (rcrash_any V3 _ _ _ D3 x2 a3 a4 P1.rdS P2.rdS (GK.out.to0 CC.out))
        rw [H.out.2.2.2.1] at K
        dsimp only at K
        obtain ⟨c_0, c_1, _, _⟩ := row2_cells HC.out
        go_wp2_with fail
        clear c_0 c_1
        refine K.out.mono ?_
        rintro e w14 ⟨ls, lc, rfl, o, b⟩
        clear K
        have hltC : gC < V3.heap.size := lt_of_block HC.out
        replace HC := hide ((b.block _ (lt_of_block HC.out)).trans HC.out)
        replace CC := hide (CC.out.trans (b.mono CC.out.size))
        clear b
        obtain ⟨P1, P2⟩ := Own.fst (c := [ls]) (d := [lc]) o rfl
        obtain ⟨la, lx, hs⟩ := P1.rdS.slice
        obtain ⟨lb, ly, hc⟩ := P2.rdS.slice
        subst hs hc
        clear P1 P2
        replace o := hide o
        obtain ⟨z0, z1, z2, z3⟩ := row2_cells HC.out
        obtain ⟨V4, hV4⟩ : ∃ U, U = (w14.setCell ⟨gC, 0, none⟩ (.slice la D4.1.length lx)).setCell ⟨gC, 1, none⟩ (.slice lb D4.2.length ly) := ⟨_, rfl⟩
        have HCn : Hid (V4.heap[gC]? = some (.cells #[.slice la D4.1.length lx, .slice lb D4.2.length ly] 40 (0, 0))) := by
          show _ = _
          rw [hV4]; exact heap_set2 HC.out _ _
        replace o : Hid (Own SStR V3.heap.size V4 [.slice la D4.1.length lx, .slice lb D4.2.length ly] D4) := by
          show Own _ _ _ _ _
          rw [hV4]; exact (o.out.set (a := ⟨gC, 0, none⟩) hltC _).set (a := ⟨gC, 1, none⟩) hltC _
        have CCn : Hid (Below w9.heap.size w9 V4) := by
          show Below _ _ _
          rw [hV4]; exact below_set2 CC.out hleC _ _
        go_upto_region 26 with fail
        rw [← hV4]
        clear z0 z1 z2 z3
        replace hV4 := hide hV4
        clear HC CC
        have HC := HCn
        have CC := CCn
        clear HCn CCn
        obtain ⟨P1, P2⟩ := Own.fst (c := [.slice la D4.1.length lx]) (d := [.slice lb D4.2.length ly]) o.out rfl
        have K := hide (rpgread_any V4 _ _ D4 0 1 P1.rdS P2.rdS)
        rw [H.out.2.2.2.2.1] at K
        dsimp only at K
        clear P1 P2
        obtain ⟨c_0, c_1, _, _⟩ := row2_cells HC.out
        go_wp2_with fail
        clear c_0 c_1
        refine K.out.mono ?_
        rintro e w15 ⟨v, rfl, o, b⟩
        clear K
        replace HC := hide ((b.block _ (lt_of_block HC.out)).trans HC.out)
        replace CC := hide (CC.out.trans (b.mono CC.out.size))
        clear b
        have RB := hide o.rd
        obtain ⟨s5, t5, hv5⟩ := o.rd.slice
        subst hv5
        replace RA := hide (RA.out.to CC.out)
        have KS := hide (same_any w15 _ _ rx rx RA.out RB.out)
        rw [sameB_self] at KS
        go_wp2_with fail
        refine KS.out.mono ?_
        rintro e w16 ⟨rfl, nd, hw⟩
        have b : Below w15.heap.size w15 w16 := by rw [hw]; exact below_drewN' _ _ _
        clear hw KS
        replace RA := hide (RA.out.to b)
        replace RB := hide (RB.out.to b)
        replace CC := hide (CC.out.trans (b.mono CC.out.size))
        clear b
        go_wp2
        go_ret
        exact ⟨rfl, C9.out.trans (CC.out.mono C9.out.size)⟩
  ·
    obtain ⟨rfl, rfl⟩ : re = 21 ∧ rx = [] := HW.out.elim (fun h => absurd h hre) id
    clear hre
    go_wp2_with fail
    refine (num7_any _ _).mono ?_
    rintro e w' ⟨rfl, rfl⟩
    go_wp2
    go_ret
    exact ⟨rfl, CC.out⟩

theorem walk (w : World) (a0 : Option Addr) (len0 cap0 : Nat) (x0 : List UInt8) (e0 : x0.length = len0) (g0 : Rd w (.slice a0 len0 cap0) x0) (m0 : len0 ≤ 140737488351232) (a1 : Option Addr) (len1 cap1 : Nat) (x1 : List UInt8) (e1 : x1.length = len1) (g1 : Rd w (.slice a1 len1 cap1) x1) (m1 : len1 ≤ 140737488351232) (a2 : Option Addr) (len2 cap2 : Nat) (x2 : List Bool) (g2 : SKeep.rd w [.slice a2 len2 cap2] x2) (m2 : x2.length * 1 ≤ 140737488351232 ∧ ∀ x ∈ x2, True) (a3 : Int) (w3' : (Lit.int .i64 a3).wf = true) (a4 : Int) (w4' : (Lit.int .i64 a4).wf = true) :
    Calls Try.prog 6 #[.slice a0 len0 cap0, .slice a1 len1 cap1, .slice a2 len2 cap2, .int .i64 a3, .int .i64 a4] w fun e w' => e = .returned (.bool true) ∧ Below w.heap.size w w' :=
  walkS pages_say w a0 len0 cap0 x0 e0 g0 m0 a1 len1 cap1 x1 e1 g1 m1 a2 len2 cap2 x2 g2 m2 a3 w3' a4 w4'

set_option maxRecDepth 100000 in
theorem lifted (os : Os) (started : os.Started) (H : Type) (enc : TypeId × Value → H) :
    ReturnsInHanded {} Try.checked os 6 .any (Rows.pagesCrashSpec.pre6 enc Try.prog Try.f6 Rows.pagesCrashRow.domain false) (Rows.pagesCrashSpec.post enc Try.prog Try.f6 false true false false) := by
  refine returnsInHanded_of_change_sized (C := Try.checked) own started (by kernel_rfl) Try.func6
    (ChangeSpec.witness6 (enc := enc) (C := Try.checked) false ⟨#[], #[.slice none 0 0, .slice none 0 0, .slice none 0 0, .int .i64 0, .int .i64 0], []⟩ 8 (by kernel_rfl) (by kernel_rfl) (by kernel_rfl) (by kernel_rfl)) ?_
  intro W base args ds gs before hval0 hW hcnd hsz0 _
  have hsz : (DataW.weightsEach Try.prog (Try.f6.params.toList ++ Rows.pagesCrashSpec.plain.varTypes Try.prog) (ds ++ gs)).all (· ≤ reachBytes) = true := hsz0
  have hval : ∀ (j : Nat) t v, Try.f6.params[j]? = some t → args[j]? = some v → Value.okWide Try.prog W .any base t v := hval0
  have hW' := hW
  obtain ⟨p, q, hA0, hV, rfl, hfz, hnd⟩ := hW
  have hA : DataW.TrodAll enc Try.prog W 0 (fun _ => true) true Try.f6.params.toList args.toList ds p := hA0
  rw [Try.params6] at hA hval hsz
  obtain ⟨v0, vs0, d0, ds0, p0, q0, hargs, rfl, rfl, h0, r0⟩ := trodAll_cons hA
  obtain ⟨v1, vs1, d1, ds1, p1, q1, rfl, rfl, rfl, h1, r1⟩ := trodAll_cons r0
  obtain ⟨v2, vs2, d2, ds2, p2, q2, rfl, rfl, rfl, h2, r2⟩ := trodAll_cons r1
  obtain ⟨v3, vs3, d3, ds3, p3, q3, rfl, rfl, rfl, h3, r3⟩ := trodAll_cons r2
  obtain ⟨v4, vs4, d4, ds4, p4, q4, rfl, rfl, rfl, h4, r4⟩ := trodAll_cons r3
  obtain ⟨rfl, rfl, rfl⟩ := trodAll_nil r4
  obtain rfl : args = #[v0, v1, v2, v3, v4] := by cases args; simp_all
  obtain ⟨rfl, rfl⟩ := trodVars_none hV
  obtain ⟨a0, len0, cap0, rfl⟩ := okWide_slice Try.underlying22 (hval 0 22 v0 rfl rfl)
  have lt0 : ∀ x ∈ p0, x.block < W.heap.size := by obtain ⟨m, hm⟩ := h0; exact DataW.trod_lt m _ _ _ hm
  obtain ⟨x0, e0, g0, s0⟩ := open_octs h0
  obtain ⟨a1, len1, cap1, rfl⟩ := okWide_slice Try.underlying22 (hval 1 22 v1 rfl rfl)
  have lt1 : ∀ x ∈ p1, x.block < W.heap.size := by obtain ⟨m, hm⟩ := h1; exact DataW.trod_lt m _ _ _ hm
  obtain ⟨x1, e1, g1, s1⟩ := open_octs h1
  obtain ⟨a2, len2, cap2, rfl⟩ := okWide_slice Try.underlying55 (hval 2 55 v2 rfl rfl)
  have lt2 : ∀ x ∈ p2, x.block < W.heap.size := by obtain ⟨m, hm⟩ := h2; exact DataW.trod_lt m _ _ _ hm
  have hh2 := h2
  obtain ⟨fu2, hf2⟩ := hh2
  obtain ⟨x2, g2, f2, b2⟩ := open_bools.opened hf2
  obtain ⟨a3, rfl, rfl, rfl, w3⟩ := open_int Try.underlying3 (hval 3 3 v3 rfl rfl) h3
  obtain ⟨a4, rfl, rfl, rfl, w4⟩ := open_int Try.underlying3 (hval 4 3 v4 rfl rfl) h4
  have m0 := reach_octs hsz (j := 0) rfl rfl s0
  have m1 := reach_octs hsz (j := 1) rfl rfl s1
  have m2 := f2 (reach_of hsz (j := 2) rfl rfl)
  clear hA0 hval0 hsz0 hsz
  refine (walk W a0 len0 cap0 x0 e0 g0 m0 a1 len1 cap1 x1 e1 g1 m1 a2 len2 cap2 x2 g2 m2 a3 w3 a4 w4).mono fun e W' ⟨he, bel⟩ => ?_
  subst he
  exact ⟨_, rfl, _, _, _, [], _, [], hW', trodAll_mk1 (shut_bool Try.underlying4 _), (trodAll_cons_mk (Below.trod laidOut (by kernel_rfl) (of_decide_eq_true (by kernel_rfl)) h0 bel lt0) (trodAll_cons_mk (Below.trod laidOut (by kernel_rfl) (of_decide_eq_true (by kernel_rfl)) h1 bel lt1) (trodAll_cons_mk (Below.trod laidOut (by kernel_rfl) (of_decide_eq_true (by kernel_rfl)) h2 bel lt2) (trodAll_cons_mk (shut_int Try.underlying3 w3) (trodAll_cons_mk (shut_int Try.underlying3 w4) trodAll_mk0))))), rfl, bel.frame _, fun h => by cases h⟩

theorem over : Rows.pagesCrashRow.holds Try.pinned (OpenSpec.ofChange Rows.pagesCrashSpec) :=
  OpenClaim.holds_of_wide 6 Try.f6 rfl rfl rfl rfl rfl rfl rfl ⟨rfl, rfl, rfl, rfl, rfl⟩ rfl rfl rfl rfl rfl (by kernel_rfl) Try.func6 (by kernel_rfl)
    (of_decide_eq_true (by kernel_rfl)) (by unfold Func.isWrapper; first | (rw [if_pos (by decide +kernel)]; kernel_rfl) | (rw [if_neg (by decide +kernel)]; exact ⟨rfl, rfl⟩))
    (fun os started H enc _ => lifted os started H enc)

end Go.Proofs.Ytliileemelcllaa.pagesCrash
namespace Go.Proofs.Ytliileemelcllaa
/-- THE STATEMENT -/
theorem pagesCrash_holds : Rows.PagesCrashSaid := pagesCrash.over
end Go.Proofs.Ytliileemelcllaa
