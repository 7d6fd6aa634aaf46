/-
  Encode of a page: the page's (the document's own).
-/
import Derived.Test.YtliileemelcllaaPgMath
import Derived.Test.YtliileemelcllaaBx
import Derived.Test.YtliileemelcllaaGrow
import Derived.Test.YtliileemelcllaaRefPut
import Derived.Test.YtliileemelcllaaCExt
import Derived.Test.YtliileemelcllaaAppZ
import Derived.Test.YtliileemelcllaaConv
namespace Go.Proofs.Ytliileemelcllaa
open Go.RowKit
set_option linter.unusedVariables false

theorem psum64 (xs : List UInt8) : IntKind.u64.wrap ((sum xs : Nat) : Int) = ((sum xs : Nat) : Int) := by
  have hS := sum_lt xs
  unfold M32 at hS; rw [IntKind.wrap_u64]; omega
set_option maxRecDepth 100000 in
set_option maxHeartbeats 4000000 in
theorem rpgenc_any (w : World) (id : Int) (v : Value) (d : List UInt8) (hrd : Rd w v d) :
    Calls Try.prog 11 #[.int .i64 id, v] w fun e w' => ∃ v', e = .returned (.tuple #[v', .int .i64 (pgenc id d).2]) ∧ OwnB w.heap.size w' v' (pgenc id d).1 ∧ Below w.heap.size w w' := by
  obtain ⟨a, c, rfl⟩ := hrd.slice
  by_cases h1 : id < 0
  · rw [pgenc_range (.inl h1)]
    go_enter Try.func11, Try.ntmps11
    go_wp2
    go_ret2
    exact ⟨_, rfl, World.ownsRow_nil _ _ _ _, Below.refl _ _⟩
  · by_cases h2 : 2147483647 < id
    · rw [pgenc_range (.inr h2)]
      go_enter Try.func11, Try.ntmps11
      go_wp2
      go_ret2
      exact ⟨_, rfl, World.ownsRow_nil _ _ _ _, Below.refl _ _⟩
    · by_cases h3 : 244 < d.length
      · have hq : (244 : Int) < (d.length : Int) := by omega
        rw [pgenc_long (by omega) h3]
        go_enter Try.func11, Try.ntmps11
        go_wp2
        go_ret2
        exact ⟨_, rfl, World.ownsRow_nil _ _ _ _, Below.refl _ _⟩
      · have hq : ¬ (244 : Int) < (d.length : Int) := by omega
        rw [pgenc_yes (by omega) h3]
        obtain ⟨m, rfl⟩ : ∃ m : Nat, id = (m : Int) := ⟨id.toNat, by omega⟩
        rw [Int.toNat_natCast]
        have hm : m ≤ 2147483647 := by omega
        obtain ⟨Y, hY⟩ : ∃ u, u = w.alloc (.cells #[.int .u8 112, .int .u8 103] 5) := ⟨_, rfl⟩
        have rY : Rd (Y.freeze ⟨w.heap.size, 2, none⟩ 1) (.slice (some ⟨w.heap.size, 0, none⟩) 2 2) pgmark :=
          Rd.freeze (by rw [hY]; exact rd_lit w pgmark _ _ _ rfl rfl rfl (by decide)) _ _
        have bY0 : Below w.heap.size w Y := by rw [hY]; exact (Below.refl _ _).alloc (Nat.le_refl _) _
        have bY : Below w.heap.size w (Y.freeze ⟨w.heap.size, 2, none⟩ 1) := Lib.below_freeze bY0 (p := ⟨w.heap.size, 2, none⟩) (Nat.le_refl _) 1
        have hcv := conv_same Y w.heap.size 2 2 5 2 (by rw [hY, World.shape?, heap_alloc_last]; rfl)
        obtain ⟨w1, hw1⟩ : ∃ u, u = Y.freeze ⟨w.heap.size, 2, none⟩ 1 := ⟨_, rfl⟩
        rw [← hw1] at rY bY hcv
        rw [hY] at hcv
        replace hw1 := hide hw1
        have hwl : IntKind.u64.wrap (d.length : Int) = (d.length : Int) := by rw [IntKind.wrap_u64]; omega
        have hwm : IntKind.u64.wrap (m : Int) = (m : Int) := by rw [IntKind.wrap_u64]; omega
        replace rY := hide rY
        have gd := hide hrd
        clear hrd bY0 hY h1 h2
        go_enter Try.func11, Try.ntmps11
        go_wp2_with fail
        refine (refOctets_any w1 d.length 2 (by decide) (by omega)).mono ?_
        rintro e w2 ⟨v2, rfl, o2, b2⟩
        clear hcv
        have rA := rY.out.to b2
        obtain ⟨Z, hZ, r2⟩ : ∃ Z, Z = oc d.length 2 ∧ Rd w2 v2 Z := ⟨_, rfl, o2.rd⟩
        have hzl : 0 < Z.length := by rw [hZ, oc_length]; omega
        have hl : pgmark.length + Z.length ≤ 140737488355328 := by rw [hZ, oc_length]; decide
        obtain ⟨s2, t2, hv2⟩ := r2.slice
        subst hv2
        have c2 := hide (bY.trans (b2.mono bY.size))
        replace hZ := hide hZ
        clear o2 b2 bY rY
        go_wp2_with (at_builtin; refine wpList_grow_octs rfl _ _ rfl w.heap.size 2 _ pgmark Z rfl rfl rA r2 (by decide) hzl hl ?_; intro v3 w3 o3 b3)
        obtain ⟨L1, hL1, q3⟩ : ∃ L, L = pgmark ++ Z ∧ OwnB w2.heap.size w3 v3 L := ⟨_, rfl, o3⟩
        have l1 : L1.length = 4 := by rw [hL1, List.length_append, hZ.out, oc_length]; rfl
        have c3 := hide (c2.out.trans (b3.mono c2.out.size))
        have hs3 := hide b3.size
        clear o3 b3 rA r2 hl hzl
        refine (refOctets_any w3 m 4 (by decide) (by omega)).mono ?_
        rintro e w4 ⟨v4, rfl, o4, b4⟩
        have oA := q3.below (Nat.le_refl _) b4
        obtain ⟨W, hW, r4⟩ : ∃ Z, Z = oc m 4 ∧ Rd w4 v4 Z := ⟨_, rfl, o4.rd⟩
        have wl : W.length = 4 := by rw [hW, oc_length]
        obtain ⟨s4, t4, hv4⟩ := r4.slice
        subst hv4
        obtain ⟨s3, t3, hv3⟩ := oA.rd.slice
        subst hv3
        have c4 := hide (c3.out.trans (b4.mono c3.out.size))
        have hs4 : w2.heap.size ≤ w4.heap.size := Nat.le_trans hs3.out b4.size
        have hcw : w.heap.size ≤ w2.heap.size := c2.out.size
        have hA : L1.length + W.length ≤ 140737488355328 := by omega
        replace hL1 := hide hL1
        replace hW := hide hW
        obtain ⟨hl1, hw4⟩ := And.intro (hide l1) (hide wl)
        clear l1 wl o4 b4 q3
        have hstep : Hid (∀ v5 w5, OwnB w2.heap.size w5 v5 (L1 ++ W) → Below w2.heap.size w4 w5 → ∃ s5 t5, v5 = .slice s5 8 t5 ∧ Rd w5 (.slice a d.length c) d ∧ (L1 ++ W).length + d.length ≤ 140737488355328 ∧ w2.heap.size ≤ w5.heap.size ∧ Below w.heap.size w w5) := fun v5 w5 o5 b5 => by
          obtain ⟨s5, t5, e5⟩ := o5.rd.slice
          have hle : (L1 ++ W).length = 8 := by rw [List.length_append, hl1.out, hw4.out]
          rw [hle] at e5
          have c5 := c4.out.trans (b5.mono hcw)
          exact ⟨s5, t5, e5, gd.out.to c5, by omega, Nat.le_trans hs4 b5.size, c5⟩
        have hstep2 : Hid (∀ v6 w6, OwnB w2.heap.size w6 v6 (L1 ++ W ++ d) → w2.heap.size ≤ w6.heap.size → Below w.heap.size w w6 → ∃ s6 t6 l6 v7 w7, v6 = .slice s6 l6 t6 ∧ l6 = 8 + d.length ∧ (Builtin.append_ #[22, 3] 22 #[.slice s6 l6 t6, .int .i64 (252 - (l6 : Int))]).run Try.prog w6 = .ok v7 w7 ∧ OwnB w2.heap.size w7 v7 (L1 ++ W ++ d ++ List.replicate (244 - d.length) 0) ∧ Below w.heap.size w w7 ∧ w2.heap.size ≤ w7.heap.size) := fun v6 w6 o6 hs6 c6 => by
          obtain ⟨s6, t6, e6⟩ := o6.rd.slice
          have hle : (L1 ++ W ++ d).length = 8 + d.length := by rw [List.length_append, List.length_append, hl1.out, hw4.out]
          rw [hle] at e6
          obtain ⟨v7, w7, hr7, o7, gr7⟩ := run_append_zeros w6 22 o6 (244 - d.length) (by omega) hs6
          rw [e6, show ((244 - d.length : Nat) : Int) = 252 - ((8 + d.length : Nat) : Int) by omega] at hr7
          have b7 : Below w2.heap.size w6 w7 := (Below.refl _ _).grown gr7 (by exact hs6) o6.from
          exact ⟨s6, t6, _, v7, w7, e6, rfl, hr7, o7, c6.trans (b7.mono hcw), Nat.le_trans hs6 b7.size⟩
        go_wp2_with (first
          | (at_builtin; refine wpList_append_octs rfl _ _ rfl w2.heap.size _ _ L1 W rfl rfl oA r4 hA hs4 ?_; intro v5 w5 o5 b5 _; obtain ⟨s5, t5, rfl, g5, hl5, hs5, c5⟩ := hstep.out v5 w5 o5 b5)
          | (at_builtin; refine wpList_append_octs rfl _ _ rfl w2.heap.size _ _ (L1 ++ W) d rfl rfl o5 g5 hl5 hs5 ?_; intro v6 w6 o6 b6 _; obtain ⟨s6, t6, l6, v7, w7, rfl, hl6, hr7, o7, c7, hs7⟩ := hstep2.out v6 w6 o6 (Nat.le_trans hs5 b6.size) (c5.trans (b6.mono hcw)); have hl6i : (l6 : Int) ≤ 252 := (by omega); replace hl6 := hide hl6)
          | (at_builtin; refine Lib.wpList_append_run _ rfl _ _ _ _ rfl _ _ rfl rfl _ _ hr7 ?_))
        have eH : L1 ++ W ++ d ++ List.replicate (244 - d.length) 0 = pghead m d := by rw [hL1.out, hW.out, hZ.out]; rfl
        rw [eH] at o7
        have hhl := pghead_len m (d := d) (by omega)
        have KS := hide (psum_any w7 _ _ o7.rd (by omega))
        have hws := psum64 (pghead m d)
        have hS := sum_lt (pghead m d)
        unfold M32 at hS
        obtain ⟨H, hH⟩ : ∃ H, H = pghead m d := ⟨_, rfl⟩
        have hfin : Hid (pgencO m d = H ++ oc (sum H) 4) := by show _ = _; rw [hH]; rfl
        rw [← hH] at o7 KS hws hS hhl
        obtain ⟨s7, t7, hv7⟩ := o7.rd.slice
        subst hv7
        replace hhl := hide hhl
        replace o7 := hide o7
        clear eH hr7 o5 g5 o6 hH
        replace c7 := hide c7
        refine KS.out.mono ?_
        rintro e w' ⟨rfl, rfl⟩
        clear KS
        have KO := hide (refOctets_any w7 (sum H) 4 (by decide) (by omega))
        generalize hse : sum H = S at *
        replace hse := hide hse
        go_wp2_with fail
        refine KO.out.mono ?_
        rintro e w8 ⟨v8, rfl, o8, b8⟩
        have oB := o7.out.below (Nat.le_refl _) b8
        obtain ⟨V, hV, r8⟩ : ∃ Z, Z = oc S 4 ∧ Rd w8 v8 Z := ⟨_, rfl, o8.rd⟩
        have hvl : V.length = 4 := by rw [hV, oc_length]
        have hl8 : H.length + V.length ≤ 140737488355328 := by rw [hvl, hhl.out]; omega
        obtain ⟨s8, t8, hv8⟩ := r8.slice
        subst hv8
        have hs8 := Nat.le_trans hs7 b8.size
        have c8 := hide (c7.out.trans (b8.mono c7.out.size))
        replace hV := hide hV
        replace hvl := hide hvl
        clear o8 b8 KO
        go_wp2_with (at_builtin; refine wpList_append_octs rfl _ _ rfl w2.heap.size _ _ H V rfl rfl oB r8 hl8 hs8 ?_; intro v9 w9 o9 b9 _)
        go_ret2
        refine ⟨_, rfl, ?_, c8.out.trans (b9.mono hcw)⟩
        rw [hfin.out, ← hV.out]
        exact OwnB.mono o9 hcw

end Go.Proofs.Ytliileemelcllaa
