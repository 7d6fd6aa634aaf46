/-
  What is wrong with a superblock's octets beside its numbers: the program's checkOctets.
-/
import Derived.Test.YtpebgepjohlklaaSEncR
import Derived.Test.YtpebgepjohlklaaSub
import Derived.Test.YtpebgepjohlklaaGet
import Derived.Test.YtpebgepjohlklaaRMid
import Derived.Test.YtpebgepjohlklaaStep
namespace Go.Proofs.Ytpebgepjohlklaa
open Go.RowKit
set_option linter.unusedVariables false

theorem rd64 {w : World} {v : Value} {x : List UInt8} (h : Rd w v x) (hl : x.length = 64) : ∃ b o c, v = .slice (some ⟨b, o, none⟩) 64 c ∧ 64 ≤ c ∧ c ≤ 9223372036854775807 ∧ ∀ q to, q ≤ to → to ≤ 64 → Rd w (.slice (some ⟨b, o + q, none⟩) (to - q) (c - q)) ((x.take to).drop q) := by
  obtain ⟨a, c, e⟩ := h.slice
  subst e
  have h' := h
  obtain ⟨a', c', e, l1, m1, n1, r1⟩ := h
  simp only [Value.slice.injEq, true_and] at e
  obtain ⟨rfl, rfl⟩ := e
  rcases r1 with r1 | ⟨b, o, rfl, hc⟩
  · subst r1; simp at hl
  · refine ⟨b, o, c, by rw [hl], by omega, m1, fun q to h1 h2 => ?_⟩
    have := (rd_sub h' (q := q) (to := to) h1 (by omega)).1
    by_cases hq : q = 0
    · subst hq; simpa [Addr.add] using this
    · simpa [Addr.add, hq] using this
theorem soct_3 {x : List UInt8} (h : x.length ≠ 64) : soct x = 3 := if_pos h
theorem soct_22 {x : List UInt8} (h : x.length = 64) (h2 : x.take 4 ≠ smark) : soct x = 22 := by
  unfold soct; rw [if_neg (fun k => k h), if_pos h2]
theorem soct_21 {x : List UInt8} (h : x.length = 64) (h2 : x.take 4 = smark) (h3 : (x.take 48).drop 44 ≠ oc (sum (x.take 44)) 4) : soct x = 21 := by
  unfold soct; rw [if_neg (fun k => k h), if_neg (fun k => k h2), if_pos h3]
theorem soct_23 {x : List UInt8} (h : x.length = 64) (h2 : x.take 4 = smark) (h3 : (x.take 48).drop 44 = oc (sum (x.take 44)) 4) (h4 : x.drop 48 ≠ List.replicate 16 0) : soct x = 23 := by
  unfold soct; rw [if_neg (fun k => k h), if_neg (fun k => k h2), if_neg (fun k => k h3), if_pos h4]
theorem soct_0 {x : List UInt8} (h : x.length = 64) (h2 : x.take 4 = smark) (h3 : (x.take 48).drop 44 = oc (sum (x.take 44)) 4) (h4 : x.drop 48 = List.replicate 16 0) : soct x = 0 := by
  unfold soct; rw [if_neg (fun k => k h), if_neg (fun k => k h2), if_neg (fun k => k h3), if_neg (fun k => k h4)]
theorem sameB_ne {xs ys : List UInt8} (h : xs ≠ ys) : sameB xs ys = false := by unfold sameB; exact decide_eq_false h

set_option maxRecDepth 100000 in
set_option maxHeartbeats 4000000 in
theorem checkOctets_any (w : World) (v : Value) (x : List UInt8) (hx : Rd w v x) : Calls Try.prog 35 #[v] w fun e w' => e = .returned (.int .i64 (soct x)) ∧ Below w.heap.size w w' := by
  by_cases h1 : x.length = 64
  · obtain ⟨b, o, c, rfl, hc, hcm, hR⟩ := rd64 hx h1
    have r4 : Rd w (.slice (some ⟨b, o, none⟩) 4 c) (x.take 4) := by simpa using hR 0 4 (by omega) (by omega)
    have r44 : Rd w (.slice (some ⟨b, o, none⟩) 44 c) (x.take 44) := by simpa using hR 0 44 (by omega) (by omega)
    have rS : Rd w (.slice (some ⟨b, o + 44, none⟩) 4 (c - 44)) ((x.take 48).drop 44) := hR 44 48 (by omega) (by omega)
    have rT : Rd w (.slice (some ⟨b, o + 48, none⟩) 16 (c - 48)) (x.drop 48) := by
      have := hR 48 64 (by omega) (by omega)
      rwa [List.take_of_length_le (by omega)] at this
    have l4 : (x.take 4).length = 4 := by rw [List.length_take]; omega
    have lS : ((x.take 48).drop 44).length = 4 := by rw [List.length_drop, List.length_take]; omega
    have lT : (x.drop 48).length = 16 := by rw [List.length_drop]; omega
    have l44 : (x.take 44).length = 44 := by rw [List.length_take]; omega
    have k4 := conv_rd r4 (by omega)
    have hq4 : (4 : Int) ≤ (c : Int) := by omega
    have hq44 : (44 : Int) ≤ (c : Int) := by omega
    have hq48 : (48 : Int) ≤ (c : Int) := by omega
    have hq64 : (64 : Int) ≤ (c : Int) := by omega
    have hn44 : ¬ c = 44 := by omega
    have hn48 : ¬ c = 48 := by omega
    by_cases h2 : x.take 4 = smark
    · have K1 := hide (sumOf_any w.drew _ _ (r44.drewN 1) (by omega))
      have hx2 := hide h2
      rw [h2] at k4
      have hL := hide (And.intro lS lT)
      have hR' := hide (And.intro rS rT)
      have h1' := hide h1
      clear h2 r4 r44 l4 l44 lS lT rS rT h1 hx hR hc hcm
      go_enter Try.func35, Try.ntmps35
      go_wp2_with fail
      refine wp_region_mid (fun _ => True) 4 5 mixed (by kernel_rfl) (fun _ _ _ _ h => h) trivial ?_
      dsimp only [List.take, List.drop]
      iterate 4
        refine take_one (v := ?_) (by rfl) ?_ ?_
        rotate_left
        · intro w' s1
          go_simp
          try with_reducible rfl
        try simp only [Act.put, List.setIfInBounds_toArray, List.set_cons_zero, List.set_cons_succ]
      refine mid_one fun K hK => ?_
      refine step_call (by rfl) 31 _ _ (by rfl) #[.slice (some ⟨b, o, none⟩) 44 c] (by simp [Act.eval]) (Try.call31 _ _) K1.out ?_
      rintro e w1 ⟨v1, rfl, o1, b1⟩
      refine ⟨_, rfl, hK _ _ trivial ?_⟩
      clear hK K
      try simp only [Act.put, List.setIfInBounds_toArray, List.set_cons_zero, List.set_cons_succ]
      show wpList _ _ _ _ _ _
      clear K1
      have c1 : Below w.heap.size w w1 := (Below.refl _ _).drew.trans b1
      have K2 := hide (bytesEq_any w1 _ _ _ _ (hR'.out.1.to c1) o1.rd (by rw [hL.out.1]; decide) (by rw [oc_length]; decide))
      obtain ⟨va, vc, rfl⟩ := o1.rd.slice
      rw [oc_length] at K2 ⊢
      clear o1 b1
      have rT := hide (hR'.out.2.to c1)
      by_cases h3 : (x.take 48).drop 44 = oc (sum (x.take 44)) 4
      · rw [sameB_eq h3] at K2
        replace h3 := hide h3
        go_wp2_with fail
        refine K2.out.mono ?_
        rintro e w' ⟨rfl, rfl⟩
        clear K2
        go_wp2_with fail
        have hmk := make_octs (n := 16) (by decide) w1.drew
        replace hmk : (Instr.makeSlice 24 (.int .i64 16) (.int .i64 16)).run Try.prog w1.drew = .ok (.slice (some ⟨w1.drew.heap.size, 0, none⟩) 16 16) (w1.drew.alloc (.cells (madeCells #[.int .u8 0] 16) 5)) := hmk
        have oz := own_made w1.drew 16 (by decide)
        obtain ⟨w2, hw2⟩ : ∃ u, u = w1.drew.alloc (.cells (madeCells #[.int .u8 0] 16) 5) := ⟨_, rfl⟩
        rw [← hw2] at hmk oz
        have bz : Below w1.heap.size w1 w2 := by rw [hw2]; exact ((Below.refl _ _).drew).alloc (Nat.le_refl _) _
        have K3 := hide (bytesEq_any w2 _ _ _ _ (rT.out.to bz) oz.rd (by rw [hL.out.2]; decide) (by decide))
        have c2 := hide (c1.trans (bz.mono c1.size))
        clear c1 bz oz hw2
        refine wp_region_mid (fun _ => True) 2 3 mixed (by kernel_rfl) (fun _ _ _ _ h => h) trivial ?_
        dsimp only [List.take, List.drop]
        iterate 2
          refine take_one (v := ?_) (by rfl) ?_ ?_
          rotate_left
          · intro w' s1
            go_simp
            try with_reducible rfl
          try simp only [Act.put, List.setIfInBounds_toArray, List.set_cons_zero, List.set_cons_succ]
        refine mid_one fun K hK => ?_
        rw [if_pos (by rfl)]
        go_simp
        refine hK _ _ trivial ?_
        clear hK K
        show wpList _ _ _ _ _ _
        by_cases h4 : x.drop 48 = List.replicate 16 0
        · have hE := hide (soct_0 h1'.out hx2.out h3.out h4)
          rw [sameB_eq h4] at K3
          replace h4 := hide h4
          go_wp2_with fail
          refine K3.out.mono ?_
          rintro e w' ⟨rfl, rfl⟩
          go_wp2
          go_ret
          exact ⟨ret_int hE.out.symm, c2.out⟩
        · have hE := hide (soct_23 h1'.out hx2.out h3.out h4)
          rw [sameB_ne h4] at K3
          replace h4 := hide h4
          go_wp2_with fail
          refine K3.out.mono ?_
          rintro e w' ⟨rfl, rfl⟩
          go_wp2
          go_ret
          exact ⟨ret_int hE.out.symm, c2.out⟩
      · have hE := hide (soct_21 h1'.out hx2.out h3)
        rw [sameB_ne h3] at K2
        replace h3 := hide h3
        go_wp2_with fail
        refine K2.out.mono ?_
        rintro e w' ⟨rfl, rfl⟩
        go_wp2
        go_ret
        exact ⟨ret_int hE.out.symm, c1⟩
    · have hE := hide (soct_22 h1 h2)
      have hd4 : (x.take 4 == [116, 115, 98, 49]) = false := beq_eq_false_iff_ne.2 h2
      clear h2 r4 r44 l4 l44 lS lT rS rT h1 hx hR hc hcm
      go_enter Try.func35, Try.ntmps35
      go_wp2
      go_ret
      exact ⟨ret_int hE.out.symm, Below.refl _ _⟩
  · have hq : ((x.length : Int) != 64) = true := by
      simp only [bne_iff_ne]; omega
    have hE := hide (soct_3 h1)
    obtain ⟨a, c, rfl⟩ := hx.slice
    replace h1 := hide h1
    go_enter Try.func35, Try.ntmps35
    go_wp2
    go_ret
    exact ⟨ret_int hE.out.symm, Below.refl _ _⟩

end Go.Proofs.Ytpebgepjohlklaa
