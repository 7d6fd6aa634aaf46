/-
  PROVED: whatever node comes in, transeptlaw09.NodeEach returns true and leaves it as it was: the statement of P9.1 and P9.3 (a node has as many octets as Size says; each of its keys is found in its place, and what lies between is not).
-/
import Derived.Test.YtjkpldmmijfebaaNIn
import Derived.Test.YtjkpldmmijfebaaNAl
import Derived.Test.YtjkpldmmijfebaaNEq
import Derived.Test.YtjkpldmmijfebaaNPI
import Derived.Test.YtjkpldmmijfebaaNHMath
namespace Go.Proofs.Ytjkpldmmijfebaa.nodeEach
open Go.ChangeShapes Go.WideShapes Go.ChangeAt Go.RowKit
set_option linter.unusedVariables false
set_option linter.unusedSimpArgs false

theorem slt_snoc : ∀ x : Str, slt x (x ++ [0]) = true
  | [] => rfl
  | a :: x => by
    rw [List.cons_append, slt_cons]
    exact .inr ⟨rfl, slt_snoc x⟩
theorem snoc_succ : ∀ (x y : Str), slt x y = true → slt y (x ++ [0]) = false
  | [], [], h => by rw [slt_irr] at h; cases h
  | [], b :: y, h => by
    cases hq : slt (b :: y) ([] ++ [0])
    · rfl
    · rw [List.nil_append, slt_cons] at hq
      rcases hq with hq | ⟨_, hq⟩
      · exact absurd hq (by simp)
      · rw [slt_nil] at hq; cases hq
  | a :: x, [], h => by rw [slt_nil] at h; cases h
  | a :: x, b :: y, h => by
    rw [slt_cons] at h
    cases hq : slt (b :: y) (a :: x ++ [0])
    · rfl
    · rw [List.cons_append, slt_cons] at hq
      rcases h with h | ⟨rfl, h⟩ <;> rcases hq with hq | ⟨e, hq⟩
      · exact absurd hq (UInt8.not_lt.2 (UInt8.le_of_lt h))
      · subst e; exact absurd h (UInt8.lt_irrefl _)
      · exact absurd hq (UInt8.lt_irrefl _)
      · rw [snoc_succ x y h] at hq; cases hq
theorem each_hit {n : Nd} (h : NOk n) {i : Nat} {x : Str} (hx : n.keys[i]? = some x) : nfind n x = (i : Int) + (if n.leaf then 0 else 1) ∧ nhas n x = true := by
  have hz := (ncheck_ok n).2 h
  have hi := (List.getElem?_eq_some_iff.1 hx).1
  unfold nfind nhas
  rw [if_pos hz, if_pos hz]
  exact nfnd_hit n.leaf x n.keys i hx (fun j y hj hy => by
    have := keys_lt h.1 i j hj hi
    rw [nkey_at hy, nkey_at hx] at this; exact this) (fun j y hj hy => by
    have := keys_lt h.1 j i hj ((List.getElem?_eq_some_iff.1 hy).1)
    rw [nkey_at hy, nkey_at hx] at this; exact this)
theorem each_next {n : Nd} (h : NOk n) {i : Nat} {x : Str} (hx : n.keys[i]? = some x) :
    (n.keys[i + 1]? = some (x ++ [0]) ∧ nhas n (x ++ [0]) = true) ∨ (nfind n (x ++ [0]) = (i : Int) + 1 ∧ nhas n (x ++ [0]) = false) := by
  have hz := (ncheck_ok n).2 h
  have hi := (List.getElem?_eq_some_iff.1 hx).1
  have lo : ∀ j y, j < i + 1 → n.keys[j]? = some y → slt y (x ++ [0]) = true := fun j y hj hy => by
    by_cases e : j = i
    · subst e; rw [hx] at hy; cases hy; exact slt_snoc x
    · have := keys_lt h.1 i j (by omega) hi
      rw [nkey_at hy, nkey_at hx] at this
      exact slt_trans this (slt_snoc x)
  have hi' : ∀ j y, i < j → n.keys[j]? = some y → slt x y = true := fun j y hj hy => by
    have := keys_lt h.1 j i hj ((List.getElem?_eq_some_iff.1 hy).1)
    rw [nkey_at hy, nkey_at hx] at this; exact this
  unfold nfind nhas
  rw [if_pos hz, if_pos hz]
  by_cases hn : n.keys[i + 1]? = some (x ++ [0])
  · left
    refine ⟨hn, (nfnd_hit n.leaf (x ++ [0]) n.keys (i + 1) hn lo (fun j y hj hy => ?_)).2⟩
    have h1 := keys_lt h.1 j (i + 1) hj ((List.getElem?_eq_some_iff.1 hy).1)
    rw [nkey_at hy, nkey_at hn] at h1; exact h1
  · right
    obtain ⟨p, q⟩ := nfnd_cut n.leaf (x ++ [0]) n.keys (i + 1) (by omega) lo (fun j y hj hy => by
      have h1 := hi' j y (by omega) hy
      refine ⟨snoc_succ x y h1, ?_⟩
      apply Bool.eq_false_iff.2
      intro e
      have e' : y = x ++ [0] := by simpa using e
      subst e'
      by_cases hj1 : j = i + 1
      · subst hj1; exact hn hy
      · have hjl := (List.getElem?_eq_some_iff.1 hy).1
        obtain ⟨z, hz'⟩ := some_el n.keys (k := i + 1) (by omega)
        have h2 := keys_lt h.1 j (i + 1) (by omega) hjl
        rw [nkey_at hy, nkey_at hz'] at h2
        have h3 := snoc_succ x z (hi' (i + 1) z (by omega) hz')
        rw [h2] at h3; cases h3)
    exact ⟨by rw [p]; rfl, q⟩


set_option maxRecDepth 100000 in
set_option maxHeartbeats 8000000 in
theorem walk (w : World) (cs0 : Array Value) (x0 : Nd4) (g0 : SNode.rd w cs0.toList x0) (m0 : nd4fit x0) :
    Calls Try.prog 7 #[.agg cs0] w fun e w' => e = .returned (.bool true) ∧ Below w.heap.size w w' := by
  obtain ⟨kv, vv, dv, rfl, R0, hbig⟩ := node_form g0 m0
  obtain ⟨n, hn⟩ : ∃ n, n = ndOf x0 := ⟨_, rfl⟩
  rw [show x0.1 = n.leaf by rw [hn]]
  rw [← hn] at R0 hbig
  clear g0 m0 hn
  have lkb := R0.keys.bd
  obtain ⟨ak, ck, av, cv, ad, cd, rfl, rfl, rfl⟩ := R0.slices
  obtain ⟨W, hW, D, bW, sW⟩ := boxedN w #[.bool n.leaf, .slice ak n.keys.length ck, .slice av n.vals.length cv, .slice ad n.kids.length cd] 25
  have HD : Hid (∀ U, Below W.heap.size W U → (U.cell? ⟨w.heap.size, 0, none⟩ = some (.bool n.leaf) ∧ U.cell? ⟨w.heap.size, 1, none⟩ = some (.slice ak n.keys.length ck) ∧ U.cell? ⟨w.heap.size, 2, none⟩ = some (.slice av n.vals.length cv) ∧ U.cell? ⟨w.heap.size, 3, none⟩ = some (.slice ad n.kids.length cd))) := fun U b => (cells4 ((b.block _ (lt_of_block D)).trans D)).1
  have HR : Hid (∀ U, Below W.heap.size W U → RdN U (.slice ak n.keys.length ck) (.slice av n.vals.length cv) (.slice ad n.kids.length cd) n) := fun U b => R0.to (bW.trans (b.mono bW.size))
  have HE : Hid (∀ U, Below W.heap.size W U → Below w.heap.size w U) := fun U b => bW.trans (b.mono bW.size)
  have hb := hide hbig
  clear R0 bW D hbig
  go_enter Try.func7, Try.ntmps7
  go_wp2_with fail
  rw [← hW]
  replace hW := hide hW
  refine (alive9_any W).mono ?_
  rintro e w1 ⟨rfl, b1⟩
  have B1 := hide b1
  obtain ⟨D0, D1, D2, D3⟩ := HD.out w1 b1
  clear b1
  go_wp2_with fail
  clear D0 D1 D2 D3
  refine (of9_any w1 _ _ _ n (HR.out w1 B1.out) hb.out).mono ?_
  rintro e w2 ⟨k2, v2, d2, rfl, o2, b2⟩
  have B2 := hide (B1.out.trans (b2.mono B1.out.size))
  have KE := hide (penc_any w2 k2 v2 d2 n o2.rd hb.out.fit)
  clear o2 b2
  dsimp only [nv] at *
  go_wp2_with fail
  refine KE.out.mono ?_
  rintro e w3 ⟨v3, rfl, o3, b3⟩
  clear KE
  have B3 := hide (B2.out.trans (b3.mono B2.out.size))
  obtain ⟨p3, q3, rfl⟩ := o3.rd.slice
  clear o3 b3
  generalize hLB : (nout n).length = LB
  replace hLB := hide hLB
  by_cases hz : ncheck n = 0
  · have hok := (ncheck_ok n).1 hz
    have hlen : (LB : Int) = nsize n := by
      rw [← hLB.out, show nout n = nenc n from if_pos hz]
      exact nenc_len hok
    replace hlen := hide hlen
    have hsz := hide hok.size
    have few := hok.few
    have HOK := hide hok
    rw [hz]
    clear hz hok
    go_wp2_with fail
    refine (num9_any _ _).mono ?_
    rintro e w3' ⟨rfl, rfl⟩
    obtain ⟨D0, D1, D2, D3⟩ := HD.out w3 B3.out
    go_wp2_with fail
    clear D0 D1 D2 D3
    refine (of9_any w3 _ _ _ n (HR.out w3 B3.out) hb.out).mono ?_
    rintro e w4 ⟨k4, v4, d4, rfl, o4, b4⟩
    have B4 := hide (B3.out.trans (b4.mono B3.out.size))
    have KZ := hide (psize9_any w4 k4 v4 d4 n o4.rd)
    rw [IntWalk.wrap64_in _ (by have := hsz.out; omega), ← hlen.out] at KZ
    clear o4 b4 hsz
    dsimp only [nv] at *
    go_wp2_with fail
    refine KZ.out.mono ?_
    rintro e w5 ⟨rfl, b5⟩
    clear KZ
    have B5 := hide (B4.out.trans (b5.mono B4.out.size))
    have hne : ((LB : Int) != (LB : Int)) = false := by simp
    clear b5 hlen
    go_wp2
    go_loopw [5] (fun i wr => ∃ k : Nat, k ≤ n.keys.length ∧ i = .int .i64 k ∧ Hid (Below W.heap.size W wr)) (fun i _ => n.keys.length - (intOf i).toNat)
    case atStart => exact ⟨0, Nat.zero_le _, rfl, B5⟩
    case round =>
      obtain ⟨k, hk, rfl, hI⟩ := hrel
      obtain ⟨D0, D1, D2, D3⟩ := HD.out wr hI.out
      by_cases hlt : k < n.keys.length
      · have hq : (k : Int) < (n.keys.length : Int) := by omega
        obtain ⟨x, hx⟩ := some_el n.keys hlt
        have eh := each_hit HOK.out hx
        have en := each_next HOK.out hx
        have hxl := HOK.out.key k
        rw [nkey_at hx] at hxl
        obtain ⟨b, off, hak, _⟩ := (HR.out wr hI.out).keys.strAt hx
        subst hak
        have HX := hide hx
        have EH := hide eh
        have EN := hide en
        have HS : Hid (∀ U, Below W.heap.size W U → (U.cell? ⟨w.heap.size, 0, none⟩ = some (.bool n.leaf) ∧ U.cell? ⟨w.heap.size, 1, none⟩ = some (.slice (some ⟨b, off, none⟩) n.keys.length ck) ∧ U.cell? ⟨w.heap.size, 2, none⟩ = some (.slice av n.vals.length cv) ∧ U.cell? ⟨w.heap.size, 3, none⟩ = some (.slice ad n.kids.length cd)) ∧ U.cell? ⟨b, off + k, none⟩ = some (st x)) := fun U bU => ⟨HD.out U bU, by
          obtain ⟨b', off', e', c'⟩ := (HR.out U bU).keys.strAt HX.out
          simp only [Option.some.injEq, Addr.mk.injEq, and_true] at e'
          obtain ⟨rfl, rfl⟩ := e'
          exact c'⟩
        have hzz : Hid (ncheck n = 0) := (ncheck_ok n).2 HOK.out
        clear hx eh en
        go_wp2
        clear D0 D1 D2 D3
        have z1 : Below W.heap.size W wr.drew := hI.out.trans ((Below.refl _ _).drew.mono hI.out.size)
        have Z1 := hide z1
        have KO1 := hide (of9_any wr.drew _ _ _ n (HR.out _ z1) hb.out)
        dsimp only [nv] at KO1
        clear z1
        refine wp_region_sched (fun w9 => (w9.cell? ⟨w.heap.size, 0, none⟩ = some (.bool n.leaf) ∧ w9.cell? ⟨w.heap.size, 1, none⟩ = some (.slice (some ⟨b, off, none⟩) n.keys.length ck) ∧ w9.cell? ⟨w.heap.size, 2, none⟩ = some (.slice av n.vals.length cv) ∧ w9.cell? ⟨w.heap.size, 3, none⟩ = some (.slice ad n.kids.length cd)) ∧ w9.cell? ⟨b, off + k, none⟩ = some (st x)) [(0, true), (2, true), (3, true), (4, true), (5, true), (6, true), (1, false), (7, false), (8, true), (9, true), (10, true), (11, true), (12, false), (13, false)] 14 mixed (by kernel_rfl) (fun _ _ _ _ h => h) ?_
        iterate 6
          refine sched_take (v := ?_) rfl (by kernel_rfl) (HS.out _ Z1.out) ?_ ?_
          rotate_left
          · rintro w9 ⟨⟨r0, r1, r2, r3⟩, r4⟩
            go_simp
            try with_reducible rfl
          try simp only [Act.put, List.setIfInBounds_toArray, List.set_cons_zero, List.set_cons_succ]
        refine sched_run rfl (by kernel_rfl) fun K hK => ?_
        refine wp_call_of 8 _ _ (by rfl) #[.agg #[.bool n.leaf, .slice (some ⟨b, off, none⟩) n.keys.length ck, .slice av n.vals.length cv, .slice ad n.kids.length cd]] (by simp [Act.eval]) (Try.call8 _ _) KO1.out ?_
        rintro e wo1 ⟨ko1, vo1, do1, rfl, oo1, bo1⟩
        have y1 : Below W.heap.size W wo1 := Z1.out.trans (bo1.mono Z1.out.size)
        have KF1 := hide (pfind9_any wo1 ko1 vo1 do1 n x oo1.rd hb.out.fit)
        dsimp only [nv] at KF1
        rw [hzz.out, EH.out.1, EH.out.2] at KF1
        refine ⟨_, rfl, hK _ _ (HS.out _ y1) ?_⟩
        clear hK K
        have Y1 := hide y1
        clear y1 oo1 bo1 KO1
        try simp only [Act.put, List.setIfInBounds_toArray, List.set_cons_zero, List.set_cons_succ]
        refine sched_run rfl (by kernel_rfl) fun K hK => ?_
        refine wp_call_of 9 _ _ (by rfl) #[.agg #[.bool n.leaf, ko1, vo1, do1], st x] (by simp [Act.eval]) (Try.call9 _ _) KF1.out ?_
        rintro e wf1 ⟨rfl, bf1⟩
        have f1 : Below W.heap.size W wf1 := Y1.out.trans (bf1.mono Y1.out.size)
        refine ⟨_, rfl, hK _ _ (HS.out _ f1) ?_⟩
        clear hK K
        have F1 := hide f1
        clear f1 bf1 KF1
        try simp only [Act.put, List.setIfInBounds_toArray, List.set_cons_zero, List.set_cons_succ]
        iterate 4
          refine sched_take (v := ?_) rfl (by kernel_rfl) (HS.out _ F1.out) ?_ ?_
          rotate_left
          · rintro w9 ⟨⟨r0, r1, r2, r3⟩, r4⟩
            go_simp
            try with_reducible rfl
          try simp only [Act.put, List.setIfInBounds_toArray, List.set_cons_zero, List.set_cons_succ]
        iterate 2
          refine sched_run rfl (by kernel_rfl) fun K hK => ?_
          go_simp
          refine hK _ _ (HS.out _ F1.out) ?_
          clear hK K
          try simp only [Act.put, List.setIfInBounds_toArray, List.set_cons_zero, List.set_cons_succ]
        show wpList _ _ _ _ _ _
        dsimp only [List.drop]
        have HS1 := hide (HS.out _ F1.out)
        obtain ⟨A2, hA2⟩ : ∃ A, A = nfind n (x ++ [0]) := ⟨_, rfl⟩
        obtain ⟨I2, hI2⟩ : ∃ I, I = nhas n (x ++ [0]) := ⟨_, rfl⟩
        rw [← hA2, ← hI2] at EN
        replace hA2 := hide hA2
        replace hI2 := hide hI2
        obtain ⟨j, hj⟩ : ∃ j, j = k + 1 := ⟨_, rfl⟩
        rw [← hj] at EN
        have hjk : (k : Int) + 1 = (j : Int) := by omega
        rw [hjk] at EN
        replace hj := hide hj
        have HJK := hide hjk
        clear hjk
        cases hnl : (!n.leaf) with
        | false =>
          have hl : Hid (n.leaf = true) := by show _ = _; simpa using hnl
          rw [if_pos hl.out, Int.add_zero]
          obtain ⟨⟨D0, D1, D2, D3⟩, D4⟩ := HS1.out
          have hww : wrap64 ((k : Int) + 1) = (k : Int) + 1 := IntWalk.wrap64_in _ (by omega)
          go_wp2_with fail
          refine (num9_any _ _).mono ?_
          rintro e w' ⟨rfl, rfl⟩
          go_wp2
          clear D0 D1 D2 D3 D4 hww HS1
          have z2 : Below W.heap.size W wf1.drew := F1.out.trans ((Below.refl _ _).drew.mono F1.out.size)
          have Z2 := hide z2
          have KO2 := hide (of9_any wf1.drew _ _ _ n (HR.out _ z2) hb.out)
          dsimp only [nv] at KO2
          clear z2
          refine wp_region_sched (fun w9 => (w9.cell? ⟨w.heap.size, 0, none⟩ = some (.bool n.leaf) ∧ w9.cell? ⟨w.heap.size, 1, none⟩ = some (.slice (some ⟨b, off, none⟩) n.keys.length ck) ∧ w9.cell? ⟨w.heap.size, 2, none⟩ = some (.slice av n.vals.length cv) ∧ w9.cell? ⟨w.heap.size, 3, none⟩ = some (.slice ad n.kids.length cd)) ∧ w9.cell? ⟨b, off + k, none⟩ = some (st x)) [(0, true), (2, true), (3, true), (4, true), (5, true), (6, true), (7, true), (1, false), (8, false), (9, true), (10, true), (11, true), (12, true), (13, false), (14, false)] 15 mixed (by kernel_rfl) (fun _ _ _ _ h => h) ?_
          iterate 7
            refine sched_take (v := ?_) rfl (by kernel_rfl) (HS.out _ Z2.out) ?_ ?_
            rotate_left
            · rintro w9 ⟨⟨r0, r1, r2, r3⟩, r4⟩
              have hadd := run_string_add_lists (P := Try.prog) w9 x [0] (by omega) (by simp)
              go_simp
              try with_reducible rfl
            try simp only [Act.put, List.setIfInBounds_toArray, List.set_cons_zero, List.set_cons_succ]
          refine sched_run rfl (by kernel_rfl) fun K hK => ?_
          refine wp_call_of 8 _ _ (by rfl) #[.agg #[.bool n.leaf, .slice (some ⟨b, off, none⟩) n.keys.length ck, .slice av n.vals.length cv, .slice ad n.kids.length cd]] (by simp [Act.eval]) (Try.call8 _ _) KO2.out ?_
          rintro e wo2 ⟨ko2, vo2, do2, rfl, oo2, bo2⟩
          have y2 : Below W.heap.size W wo2 := Z2.out.trans (bo2.mono Z2.out.size)
          have KF2 := hide (pfind9_any wo2 ko2 vo2 do2 n (x ++ [0]) oo2.rd hb.out.fit)
          dsimp only [nv] at KF2
          rw [hzz.out, ← hA2.out, ← hI2.out] at KF2
          refine ⟨_, rfl, hK _ _ (HS.out _ y2) ?_⟩
          clear hK K
          have Y2 := hide y2
          clear y2 oo2 bo2 KO2
          try simp only [Act.put, List.setIfInBounds_toArray, List.set_cons_zero, List.set_cons_succ]
          refine sched_run rfl (by kernel_rfl) fun K hK => ?_
          refine wp_call_of 9 _ _ (by rfl) #[.agg #[.bool n.leaf, ko2, vo2, do2], st (x ++ [0])] (by simp [Act.eval]) (Try.call9 _ _) KF2.out ?_
          rintro e wf2 ⟨rfl, bf2⟩
          have f2 : Below W.heap.size W wf2 := Y2.out.trans (bf2.mono Y2.out.size)
          refine ⟨_, rfl, hK _ _ (HS.out _ f2) ?_⟩
          clear hK K
          have F2 := hide f2
          clear f2 bf2 KF2
          try simp only [Act.put, List.setIfInBounds_toArray, List.set_cons_zero, List.set_cons_succ]
          iterate 4
            refine sched_take (v := ?_) rfl (by kernel_rfl) (HS.out _ F2.out) ?_ ?_
            rotate_left
            · rintro w9 ⟨⟨r0, r1, r2, r3⟩, r4⟩
              have hadd := run_string_add_lists (P := Try.prog) w9 x [0] (by omega) (by simp)
              go_simp
              try with_reducible rfl
            try simp only [Act.put, List.setIfInBounds_toArray, List.set_cons_zero, List.set_cons_succ]
          iterate 2
            refine sched_run rfl (by kernel_rfl) fun K hK => ?_
            go_simp
            refine hK _ _ (HS.out _ F2.out) ?_
            clear hK K
            try simp only [Act.put, List.setIfInBounds_toArray, List.set_cons_zero, List.set_cons_succ]
          show wpList _ _ _ _ _ _
          dsimp only [List.drop]
          obtain ⟨⟨D0, D1, D2, D3⟩, D4⟩ := HS.out wf2 F2.out
          have hj1 : (k : Int) + 1 = (j : Int) := HJK.out
          have hj3 : IntKind.i64.wrap (j : Int) = (j : Int) := IntWalk.i64_in _ (by omega)
          rcases EN.out with ⟨e1, e2⟩ | ⟨e1, e2⟩
          · have hj2 : (j : Int) < (n.keys.length : Int) := by have := (List.getElem?_eq_some_iff.1 e1).1; omega
            have hj5 : decide ((n.keys.length : Int) ≤ (j : Int)) = false := decide_eq_false (by omega)
            have hj6 : decide (n.keys.length ≤ j) = false := decide_eq_false (by omega)
            have D5 : wf2.cell? ⟨b, off + j, none⟩ = some (st (x ++ [0])) := by
              obtain ⟨b', off', e', c'⟩ := (HR.out wf2 F2.out).keys.strAt e1
              simp only [Option.some.injEq, Addr.mk.injEq, and_true] at e'
              obtain ⟨rfl, rfl⟩ := e'
              exact c'
            have hadd := fun U : World => run_string_add_lists (P := Try.prog) U x [0] (by omega) (by simp)
            have hne : ((x ++ [0]) != (x ++ [0])) = false := by simp
            subst e2
            replace e1 := hide e1
            cases hA : (A2 != (j : Int))
            all_goals
              skip
              go_wp2_with fail
              go_quiet ((go_at_call 13; exact Calls.quiet_of_same ((num9_any _ _).mono fun _ _ h => ⟨h.1, h.2.symm⟩)))
              clear hj1 hj3
              go_wp2
              go_roundw
              case rel => exact ⟨k + 1, by omega, by go_num, hide (F2.out.trans (below_drewN' wf2 _ _))⟩
              case measure => simp [intOf]; omega
          · subst e2
            have hA : (A2 != (j : Int)) = false := by rw [e1]; simp
            replace e1 := hide e1
            go_wp2_with fail
            go_quiet ((go_at_call 13; exact Calls.quiet_of_same ((num9_any _ _).mono fun _ _ h => ⟨h.1, h.2.symm⟩)))
            clear hj1 hj3
            go_wp2
            go_roundw
            case rel => exact ⟨k + 1, by omega, by go_num, hide (F2.out.trans (below_drewN' wf2 _ _))⟩
            case measure => simp [intOf]; omega
        | true =>
          have hl : Hid (n.leaf = false) := by show _ = _; simpa using hnl
          rw [if_neg (by rw [hl.out]; decide)]
          obtain ⟨⟨D0, D1, D2, D3⟩, D4⟩ := HS1.out
          have hww : wrap64 ((k : Int) + 1) = (k : Int) + 1 := IntWalk.wrap64_in _ (by omega)
          go_wp2_with fail
          refine (num9_any _ _).mono ?_
          rintro e w' ⟨rfl, rfl⟩
          go_wp2
          clear D0 D1 D2 D3 D4 hww HS1
          have z2 : Below W.heap.size W wf1.drew := F1.out.trans ((Below.refl _ _).drew.mono F1.out.size)
          have Z2 := hide z2
          have KO2 := hide (of9_any wf1.drew _ _ _ n (HR.out _ z2) hb.out)
          dsimp only [nv] at KO2
          clear z2
          refine wp_region_sched (fun w9 => (w9.cell? ⟨w.heap.size, 0, none⟩ = some (.bool n.leaf) ∧ w9.cell? ⟨w.heap.size, 1, none⟩ = some (.slice (some ⟨b, off, none⟩) n.keys.length ck) ∧ w9.cell? ⟨w.heap.size, 2, none⟩ = some (.slice av n.vals.length cv) ∧ w9.cell? ⟨w.heap.size, 3, none⟩ = some (.slice ad n.kids.length cd)) ∧ w9.cell? ⟨b, off + k, none⟩ = some (st x)) [(0, true), (2, true), (3, true), (4, true), (5, true), (6, true), (7, true), (1, false), (8, false), (9, true), (10, true), (11, true), (12, true), (13, false), (14, false)] 15 mixed (by kernel_rfl) (fun _ _ _ _ h => h) ?_
          iterate 7
            refine sched_take (v := ?_) rfl (by kernel_rfl) (HS.out _ Z2.out) ?_ ?_
            rotate_left
            · rintro w9 ⟨⟨r0, r1, r2, r3⟩, r4⟩
              have hadd := run_string_add_lists (P := Try.prog) w9 x [0] (by omega) (by simp)
              go_simp
              try with_reducible rfl
            try simp only [Act.put, List.setIfInBounds_toArray, List.set_cons_zero, List.set_cons_succ]
          refine sched_run rfl (by kernel_rfl) fun K hK => ?_
          refine wp_call_of 8 _ _ (by rfl) #[.agg #[.bool n.leaf, .slice (some ⟨b, off, none⟩) n.keys.length ck, .slice av n.vals.length cv, .slice ad n.kids.length cd]] (by simp [Act.eval]) (Try.call8 _ _) KO2.out ?_
          rintro e wo2 ⟨ko2, vo2, do2, rfl, oo2, bo2⟩
          have y2 : Below W.heap.size W wo2 := Z2.out.trans (bo2.mono Z2.out.size)
          have KF2 := hide (pfind9_any wo2 ko2 vo2 do2 n (x ++ [0]) oo2.rd hb.out.fit)
          dsimp only [nv] at KF2
          rw [hzz.out, ← hA2.out, ← hI2.out] at KF2
          refine ⟨_, rfl, hK _ _ (HS.out _ y2) ?_⟩
          clear hK K
          have Y2 := hide y2
          clear y2 oo2 bo2 KO2
          try simp only [Act.put, List.setIfInBounds_toArray, List.set_cons_zero, List.set_cons_succ]
          refine sched_run rfl (by kernel_rfl) fun K hK => ?_
          refine wp_call_of 9 _ _ (by rfl) #[.agg #[.bool n.leaf, ko2, vo2, do2], st (x ++ [0])] (by simp [Act.eval]) (Try.call9 _ _) KF2.out ?_
          rintro e wf2 ⟨rfl, bf2⟩
          have f2 : Below W.heap.size W wf2 := Y2.out.trans (bf2.mono Y2.out.size)
          refine ⟨_, rfl, hK _ _ (HS.out _ f2) ?_⟩
          clear hK K
          have F2 := hide f2
          clear f2 bf2 KF2
          try simp only [Act.put, List.setIfInBounds_toArray, List.set_cons_zero, List.set_cons_succ]
          iterate 4
            refine sched_take (v := ?_) rfl (by kernel_rfl) (HS.out _ F2.out) ?_ ?_
            rotate_left
            · rintro w9 ⟨⟨r0, r1, r2, r3⟩, r4⟩
              have hadd := run_string_add_lists (P := Try.prog) w9 x [0] (by omega) (by simp)
              go_simp
              try with_reducible rfl
            try simp only [Act.put, List.setIfInBounds_toArray, List.set_cons_zero, List.set_cons_succ]
          iterate 2
            refine sched_run rfl (by kernel_rfl) fun K hK => ?_
            go_simp
            refine hK _ _ (HS.out _ F2.out) ?_
            clear hK K
            try simp only [Act.put, List.setIfInBounds_toArray, List.set_cons_zero, List.set_cons_succ]
          show wpList _ _ _ _ _ _
          dsimp only [List.drop]
          obtain ⟨⟨D0, D1, D2, D3⟩, D4⟩ := HS.out wf2 F2.out
          have hj1 : (k : Int) + 1 = (j : Int) := HJK.out
          have hj3 : IntKind.i64.wrap (j : Int) = (j : Int) := IntWalk.i64_in _ (by omega)
          rcases EN.out with ⟨e1, e2⟩ | ⟨e1, e2⟩
          · have hj2 : (j : Int) < (n.keys.length : Int) := by have := (List.getElem?_eq_some_iff.1 e1).1; omega
            have hj5 : decide ((n.keys.length : Int) ≤ (j : Int)) = false := decide_eq_false (by omega)
            have hj6 : decide (n.keys.length ≤ j) = false := decide_eq_false (by omega)
            have D5 : wf2.cell? ⟨b, off + j, none⟩ = some (st (x ++ [0])) := by
              obtain ⟨b', off', e', c'⟩ := (HR.out wf2 F2.out).keys.strAt e1
              simp only [Option.some.injEq, Addr.mk.injEq, and_true] at e'
              obtain ⟨rfl, rfl⟩ := e'
              exact c'
            have hadd := fun U : World => run_string_add_lists (P := Try.prog) U x [0] (by omega) (by simp)
            have hne : ((x ++ [0]) != (x ++ [0])) = false := by simp
            subst e2
            replace e1 := hide e1
            cases hA : (A2 != (j : Int))
            all_goals
              skip
              go_wp2_with fail
              go_quiet ((go_at_call 13; exact Calls.quiet_of_same ((num9_any _ _).mono fun _ _ h => ⟨h.1, h.2.symm⟩)))
              clear hj1 hj3
              go_wp2
              go_roundw
              case rel => exact ⟨k + 1, by omega, by go_num, hide (F2.out.trans (below_drewN' wf2 _ _))⟩
              case measure => simp [intOf]; omega
          · subst e2
            have hA : (A2 != (j : Int)) = false := by rw [e1]; simp
            replace e1 := hide e1
            go_wp2_with fail
            go_quiet ((go_at_call 13; exact Calls.quiet_of_same ((num9_any _ _).mono fun _ _ h => ⟨h.1, h.2.symm⟩)))
            clear hj1 hj3
            go_wp2
            go_roundw
            case rel => exact ⟨k + 1, by omega, by go_num, hide (F2.out.trans (below_drewN' wf2 _ _))⟩
            case measure => simp [intOf]; omega
      · have hq : ¬ (k : Int) < (n.keys.length : Int) := by omega
        have BZ := hide (HE.out _ hI.out)
        go_wp2
        go_ret
        exact ⟨rfl, BZ.out⟩
  · have hno : Hid (LB = 0) := by show _ = _; rw [← hLB.out, show nout n = [] from if_neg hz]; rfl
    obtain ⟨Z, hZ⟩ : ∃ Z, Z = ncheck n := ⟨_, rfl⟩
    rw [← hZ] at hz ⊢
    replace hZ := hide hZ
    have BZ := hide (HE.out _ B3.out)
    rw [hno.out]
    go_wp2_with fail
    refine (num9_any _ _).mono ?_
    rintro e w3' ⟨rfl, rfl⟩
    go_wp2
    go_ret
    exact ⟨by first | rfl | simp, BZ.out⟩

set_option maxRecDepth 100000 in
theorem lifted (os : Os) (started : os.Started) (H : Type) (enc : TypeId × Value → H) :
    ReturnsInHanded {} Try.checked os 7 .any (Rows.nodeEachSpec.pre6 enc Try.prog Try.f7 Rows.nodeEachRow.domain false) (Rows.nodeEachSpec.post enc Try.prog Try.f7 false true false false) := by
  refine returnsInHanded_of_change_sized (C := Try.checked) own started (by kernel_rfl) Try.func7
    (ChangeSpec.witness6 (enc := enc) (C := Try.checked) false ⟨#[], #[.agg #[.bool false, .slice none 0 0, .slice none 0 0, .slice none 0 0]], []⟩ 8 (by kernel_rfl) (by kernel_rfl) (by kernel_rfl) (by kernel_rfl)) ?_
  intro W base args ds gs before hval0 hW hcnd hsz0 _
  have hsz : (DataW.weightsEach Try.prog (Try.f7.params.toList ++ Rows.nodeEachSpec.plain.varTypes Try.prog) (ds ++ gs)).all (· ≤ reachBytes) = true := hsz0
  have hval : ∀ (j : Nat) t v, Try.f7.params[j]? = some t → args[j]? = some v → Value.okWide Try.prog W .any base t v := hval0
  have hW' := hW
  obtain ⟨p, q, hA0, hV, rfl, hfz, hnd⟩ := hW
  have hA : DataW.TrodAll enc Try.prog W 0 (fun _ => true) true Try.f7.params.toList args.toList ds p := hA0
  rw [Try.params7] at hA hval hsz
  obtain ⟨v0, vs0, d0, ds0, p0, q0, hargs, rfl, rfl, h0, r0⟩ := trodAll_cons hA
  obtain ⟨rfl, rfl, rfl⟩ := trodAll_nil r0
  obtain rfl : args = #[v0] := by cases args; simp_all
  obtain ⟨rfl, rfl⟩ := trodVars_none hV
  obtain ⟨cs0, rfl, _⟩ := okWide_struct Try.underlying25 (hval 0 25 v0 rfl rfl)
  have lt0 : ∀ x ∈ p0, x.block < W.heap.size := by obtain ⟨m, hm⟩ := h0; exact DataW.trod_lt m _ _ _ hm
  have hh0 := h0
  obtain ⟨fu0, hf0⟩ := hh0
  obtain ⟨x0, g0, f0, b0⟩ := open_node.opened hf0
  have m0 := f0 (reach_of hsz (j := 0) rfl rfl)
  clear hA0 hval0 hsz0 hsz
  refine (walk W cs0 x0 g0 m0).mono fun e W' ⟨he, bel⟩ => ?_
  subst he
  exact ⟨_, rfl, _, _, _, [], _, [], hW', trodAll_mk1 (shut_bool Try.underlying4 _), (trodAll_cons_mk (Below.trod laidOut (by kernel_rfl) (of_decide_eq_true (by kernel_rfl)) h0 bel lt0) trodAll_mk0), rfl, bel.frame _, fun h => by cases h⟩

theorem over : Rows.nodeEachRow.holds Try.pinned (OpenSpec.ofChange Rows.nodeEachSpec) :=
  OpenClaim.holds_of_wide 7 Try.f7 rfl rfl rfl rfl rfl rfl rfl ⟨rfl, rfl, rfl, rfl, rfl⟩ rfl rfl rfl rfl rfl (by kernel_rfl) Try.func7 (by kernel_rfl)
    (of_decide_eq_true (by kernel_rfl)) (by unfold Func.isWrapper; first | (rw [if_pos (by decide +kernel)]; kernel_rfl) | (rw [if_neg (by decide +kernel)]; exact ⟨rfl, rfl⟩))
    (fun os started H enc _ => lifted os started H enc)

end Go.Proofs.Ytjkpldmmijfebaa.nodeEach
namespace Go.Proofs.Ytjkpldmmijfebaa
/-- THE STATEMENT -/
theorem nodeEach_holds : Rows.NodeEachSaid := nodeEach.over
end Go.Proofs.Ytjkpldmmijfebaa
