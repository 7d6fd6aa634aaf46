/-
  The walk of the law VoteTurns, over what the program's calls say. (Written by gen16u.py.)
-/
import Derived.Deep.CutRange
import Derived.Test.YtccklmhagabkaaaFanS
import Derived.Test.YtccklmhagabkaaaStep
import Derived.Test.YtccklmhagabkaaaTail
import Derived.Test.YtccklmhagabkaaaVtJ
namespace Go.Proofs.Ytccklmhagabkaaa.voteTurns
open Go.RowKit
set_option linter.unusedVariables false
set_option linter.unusedSimpArgs false

/-- a turn that is told: the greatest term; a vote is lost where it goes up -/
theorem turn_said {a : Vs} {t : Int} (h : (vturn a t).2.2 = 0) : VsFit a ∧ (a.term < t → vturn a t = (⟨t, false, 0⟩, true, 0) ∧ VsFit ⟨t, false, 0⟩) ∧ (¬ a.term < t → vturn a t = (a, false, 0)) := by
  unfold vturn at h ⊢
  by_cases k : VOk a
  · rw [if_pos k] at h ⊢
    by_cases q : t < 0 ∨ 1099511627776 < t
    · rw [if_pos q] at h; exact absurd h (show ¬ (4 : Int) = 0 by decide)
    · rw [if_neg q]
      obtain ⟨k1, k2, k3, k4, k5⟩ := k
      refine ⟨⟨by omega, by omega⟩, fun z => ⟨if_pos z, ⟨by dsimp only; omega, by dsimp only; omega⟩⟩, fun z => if_neg z⟩
  · rw [if_neg k] at h; exact absurd h (show ¬ (9 : Int) = 0 by decide)
set_option maxRecDepth 100000 in
set_option maxHeartbeats 8000000 in
theorem walk0 (S : VoteSay) (w : World) (cs0 : Array Value) (z0 : Vs3) (g0 : SVs16.rd w cs0.toList z0) (m0 : vs3fit z0) (av : Option Addr) (len cap : Nat) (x1 : List Int) (g1 : SInts16.rd w [.slice av len cap] x1) (m1 : i16fit x1) :
    Calls Try.prog 6 #[.agg cs0, .slice av len cap] w fun e w' => e = .returned (.bool true) ∧ Below w.heap.size w w' := by
  obtain ⟨e0, f0⟩ := vs_form g0 m0
  rw [e0]
  generalize vsOf z0 = s at *
  obtain ⟨ve, q1, R1⟩ := g1
  obtain rfl : ve = .slice av len cap := by simpa using q1.symm
  clear q1
  have q1 : len = x1.length := by obtain ⟨_, _, q⟩ := R1.slice; simp only [Value.slice.injEq] at q; exact q.2.1
  subst q1
  have lb := R1.bd
  obtain ⟨m1a, m1b⟩ := m1
  have J1 : Hid (∀ k y, x1[k]? = some y → J64 y) := fun k y h => wfj (m1b y (List.mem_of_getElem? h))
  obtain ⟨n, hn⟩ : ∃ n, n = x1.length := ⟨_, rfl⟩
  rw [← hn] at R1 lb m1a ⊢
  have KA := hide (vtalive_any S w)
  have NU : Hid (∀ w x, Calls Try.prog 11 #[.int .i64 x] w fun e w' => e = .returned (.int .i64 x) ∧ Below w.heap.size w w') := fun w x => (num16_any w x).mono fun e w' h => ⟨h.1, by rw [h.2]; exact Below.refl _ _⟩
  have KS := hide S.turn
  have F0 := hide f0
  obtain ⟨st, sh, sw⟩ := s
  dsimp only [sv16] at KS ⊢
  obtain ⟨W, hW, DS, bW, sW⟩ := boxedN w #[.int .i64 st, .bool sh, .int .i64 sw] 23
  obtain ⟨⟨S0, S1, S2⟩, _⟩ := cells3v DS
  have HR : Hid (∀ U, Below w.heap.size w U → RdS (Shp.int .i64) U (.slice av n cap) x1) := fun U b => R1.to0 b
  have HD : Hid (∀ U, Below W.heap.size W U → U.heap[w.heap.size]? = some (.cells #[.int .i64 st, .bool sh, .int .i64 sw] 23 (0, 0))) := fun U b => (b.block _ (lt_of_block DS)).trans DS
  have BW := hide bW
  have KA2 := hide (vtalive_any S W)
  rw [hW] at S0 S1 S2 KA2
  have hWW := hide hW
  replace hn := hide hn
  clear S KA R1 DS bW sW m1b e0 g0 m0 hW f0
  go_enter Try.func6, Try.ntmps6
  go_wp2_with fail
  refine KA2.out.mono ?_
  rintro e w1 ⟨rfl, b1⟩
  rw [← hWW.out] at b1
  clear S0 S1 S2 KA2 hWW
  obtain ⟨⟨S0, S1, S2⟩, _⟩ := cells3v (HD.out w1 b1)
  have B1 := BW.out.trans (b1.mono BW.out.size)
  obtain ⟨V, hV, DA, bV, sV⟩ := boxedN w1 #[.int .i64 st, .bool sh, .int .i64 sw] 26
  obtain ⟨g5, hg5⟩ : ∃ g, g = w1.heap.size := ⟨_, rfl⟩
  have zg : w.heap.size ≤ g5 := by have := B1.size; omega
  have BV := B1.trans (bV.mono B1.size)
  go_wp2
  rw [← hV]
  rw [← hg5] at DA ⊢
  have I0 : Hid (Below w.heap.size w V ∧ V.heap[g5]? = some (.cells #[.int .i64 st, .bool sh, .int .i64 sw] 26 (0, 0)) ∧ VsFit ⟨st, sh, sw⟩) := ⟨BV, DA, F0.out⟩
  clear S0 S1 S2 hV hg5 DA BV B1 b1 bV sV HD BW F0
  go_loopw [6] (fun i wr => ∃ k : Nat, k ≤ n ∧ i = .int .i64 k ∧ Hid (∃ a : Vs, Below w.heap.size w wr ∧ wr.heap[g5]? = some (.cells #[.int .i64 a.term, .bool a.has, .int .i64 a.who] 26 (0, 0)) ∧ VsFit a)) (fun i _ => n - (intOf i).toNat)
  case atStart => exact ⟨0, Nat.zero_le _, rfl, hide ⟨⟨st, sh, sw⟩, I0.out⟩⟩
  case round =>
    obtain ⟨k, hk, rfl, hI⟩ := hrel
    clear I0
    by_cases hlt : k < n
    · have hq : (k : Int) < (n : Int) := by omega
      obtain ⟨t, ht⟩ : ∃ y, x1[k]? = some y := ⟨_, List.getElem?_eq_getElem (by rw [← hn.out]; exact hlt)⟩
      have jt := J1.out k t ht
      obtain ⟨a, bw, da, fa⟩ := hI.out
      obtain ⟨bt, ot, rfl, ct⟩ := (HR.out wr bw).i16 ht
      have hw := bw.size
      have KT := fun w => KS.out w a t fa jt
      have TS : Hid ((vturn a t).2.2 = 0 → VsFit a ∧ (a.term < t → vturn a t = (⟨t, false, 0⟩, true, 0) ∧ VsFit ⟨t, false, 0⟩) ∧ (¬ a.term < t → vturn a t = (a, false, 0))) := turn_said
      obtain ⟨⟨⟨r1, r2, r3⟩, ub, ue⟩, hT⟩ : ∃ D, D = vturn a t := ⟨_, rfl⟩
      simp only [← hT] at KT
      rw [← hT] at TS
      obtain ⟨a1, a2, a3⟩ := a
      dsimp only [sv16] at KT da TS
      replace KT := hide KT
      have HS : Hid (∀ U, Below wr.heap.size wr U → ((U.cell? ⟨g5, 0, none⟩ = some (.int .i64 a1) ∧ U.cell? ⟨g5, 1, none⟩ = some (.bool a2) ∧ U.cell? ⟨g5, 2, none⟩ = some (.int .i64 a3)) ∧ U.cell? ⟨bt, ot + k, none⟩ = some (.int .i64 t))) := fun U b => ⟨(cells3v ((b.block _ (lt_of_block da)).trans da)).1, (b.cell (cell_lt ct)).trans ct⟩
      have HBW : Hid (∀ U, Below wr.heap.size wr U → Below w.heap.size w U ∧ U.heap[g5]? = some (.cells #[.int .i64 a1, .bool a2, .int .i64 a3] 26 (0, 0))) := fun U b => ⟨bw.trans (b.mono bw.size), (b.block _ (lt_of_block da)).trans da⟩
      have zg5 : g5 < wr.heap.size := lt_of_block da
      have FA : Hid (VsFit ⟨a1, a2, a3⟩) := fa
      have b0 := (Below.refl wr.heap.size wr).drew
      clear hT ht hI bw da ct jt fa
      go_upto_region 7 with fail
      go_cut [7, 8, 9] from 19 to 28 (fun p u e wx => ∃ gB : Nat, p = .pointer (some ⟨gB, 0, none⟩) ∧ u = .bool ub ∧ e = .int .i64 ue ∧ Hid (Below wr.heap.size wr wx) ∧
        Hid (wx.heap[gB]? = some (.cells #[.int .i64 r1, .bool r2, .int .i64 r3] 26 (0, 0)) ∧ wr.heap.size ≤ gB))
      case first =>
        refine wp_region_fan (fun w9 => (w9.cell? ⟨g5, 0, none⟩ = some (.int .i64 a1) ∧ w9.cell? ⟨g5, 1, none⟩ = some (.bool a2) ∧ w9.cell? ⟨g5, 2, none⟩ = some (.int .i64 a3)) ∧ w9.cell? ⟨bt, ot + k, none⟩ = some (.int .i64 t)) 13 mixed (by simp) ?_
        generalize wr.drew = c0 at *
        refine fan_take (i := 0) (v := ?_) rfl (by kernel_rfl) (fun _ _ _ _ h => h) (by kernel_rfl) (HS.out _ b0) ?_ ?_
        rotate_left
        · rintro w9 ⟨⟨q0, q1, q2⟩, q3⟩
          go_simp
          try with_reducible rfl
        try simp only [List.getElem_toArray, List.getElem_cons_succ, List.getElem_cons_zero, List.getElem?_toArray, List.getElem?_cons_succ, List.getElem?_cons_zero, Act.put, List.setIfInBounds_toArray, List.set_cons_zero, List.set_cons_succ]
        refine fan_take (i := 1) (v := ?_) rfl (by kernel_rfl) (fun _ _ _ _ h => h) (by kernel_rfl) (HS.out _ b0) ?_ ?_
        rotate_left
        · rintro w9 ⟨⟨q0, q1, q2⟩, q3⟩
          go_simp
          try with_reducible rfl
        try simp only [List.getElem_toArray, List.getElem_cons_succ, List.getElem_cons_zero, List.getElem?_toArray, List.getElem?_cons_succ, List.getElem?_cons_zero, Act.put, List.setIfInBounds_toArray, List.set_cons_zero, List.set_cons_succ]
        refine fan_take (i := 2) (v := ?_) rfl (by kernel_rfl) (fun _ _ _ _ h => h) (by kernel_rfl) (HS.out _ b0) ?_ ?_
        rotate_left
        · rintro w9 ⟨⟨q0, q1, q2⟩, q3⟩
          go_simp
          try with_reducible rfl
        try simp only [List.getElem_toArray, List.getElem_cons_succ, List.getElem_cons_zero, List.getElem?_toArray, List.getElem?_cons_succ, List.getElem?_cons_zero, Act.put, List.setIfInBounds_toArray, List.set_cons_zero, List.set_cons_succ]
        refine fan_take (i := 3) (v := ?_) rfl (by kernel_rfl) (fun _ _ _ _ h => h) (by kernel_rfl) (HS.out _ b0) ?_ ?_
        rotate_left
        · rintro w9 ⟨⟨q0, q1, q2⟩, q3⟩
          go_simp
          try with_reducible rfl
        try simp only [List.getElem_toArray, List.getElem_cons_succ, List.getElem_cons_zero, List.getElem?_toArray, List.getElem?_cons_succ, List.getElem?_cons_zero, Act.put, List.setIfInBounds_toArray, List.set_cons_zero, List.set_cons_succ]
        refine fan_take (i := 4) (v := ?_) rfl (by kernel_rfl) (fun _ _ _ _ h => h) (by kernel_rfl) (HS.out _ b0) ?_ ?_
        rotate_left
        · rintro w9 ⟨⟨q0, q1, q2⟩, q3⟩
          go_simp
          try with_reducible rfl
        try simp only [List.getElem_toArray, List.getElem_cons_succ, List.getElem_cons_zero, List.getElem?_toArray, List.getElem?_cons_succ, List.getElem?_cons_zero, Act.put, List.setIfInBounds_toArray, List.set_cons_zero, List.set_cons_succ]
        refine fan_two 5 10 (by kernel_rfl) ?_ ?_
        · refine fan_step rfl (by kernel_rfl) fun K hK => ?_
          refine wp_call_of 9 _ _ (by rfl) #[.agg #[.int .i64 a1, .bool a2, .int .i64 a3], .int .i64 t] (by simp [Act.eval]) (Try.call9 _ _) (KT.out c0) ?_
          rintro e c1 ⟨rfl, bb⟩
          have b1 := b0.trans (bb.mono b0.size)
          have zB := b0.size
          have zC := bb.size
          refine ⟨_, rfl, hK _ _ (HS.out _ b1) ?_⟩
          clear hK K
          try simp only [List.getElem_toArray, List.getElem_cons_succ, List.getElem_cons_zero, List.getElem?_toArray, List.getElem?_cons_succ, List.getElem?_cons_zero, Act.put, List.setIfInBounds_toArray, List.set_cons_zero, List.set_cons_succ]
          refine fan_take (i := 6) (v := ?_) rfl (by kernel_rfl) (fun _ _ _ _ h => h) (by kernel_rfl) (HS.out _ b1) ?_ ?_
          rotate_left
          · rintro w9 ⟨⟨q0, q1, q2⟩, q3⟩
            go_simp
            try with_reducible rfl
          try simp only [List.getElem_toArray, List.getElem_cons_succ, List.getElem_cons_zero, List.getElem?_toArray, List.getElem?_cons_succ, List.getElem?_cons_zero, Act.put, List.setIfInBounds_toArray, List.set_cons_zero, List.set_cons_succ]
          refine fan_take (i := 7) (v := ?_) rfl (by kernel_rfl) (fun _ _ _ _ h => h) (by kernel_rfl) (HS.out _ b1) ?_ ?_
          rotate_left
          · rintro w9 ⟨⟨q0, q1, q2⟩, q3⟩
            go_simp
            try with_reducible rfl
          try simp only [List.getElem_toArray, List.getElem_cons_succ, List.getElem_cons_zero, List.getElem?_toArray, List.getElem?_cons_succ, List.getElem?_cons_zero, Act.put, List.setIfInBounds_toArray, List.set_cons_zero, List.set_cons_succ]
          refine fan_take (i := 8) (v := ?_) rfl (by kernel_rfl) (fun _ _ _ _ h => h) (by kernel_rfl) (HS.out _ b1) ?_ ?_
          rotate_left
          · rintro w9 ⟨⟨q0, q1, q2⟩, q3⟩
            go_simp
            try with_reducible rfl
          try simp only [List.getElem_toArray, List.getElem_cons_succ, List.getElem_cons_zero, List.getElem?_toArray, List.getElem?_cons_succ, List.getElem?_cons_zero, Act.put, List.setIfInBounds_toArray, List.set_cons_zero, List.set_cons_succ]
          refine fan_take (i := 9) (v := ?_) rfl (by kernel_rfl) (fun _ _ _ _ h => h) (by kernel_rfl) (HS.out _ b1) ?_ ?_
          rotate_left
          · rintro w9 ⟨⟨q0, q1, q2⟩, q3⟩
            go_simp
            try with_reducible rfl
          try simp only [List.getElem_toArray, List.getElem_cons_succ, List.getElem_cons_zero, List.getElem?_toArray, List.getElem?_cons_succ, List.getElem?_cons_zero, Act.put, List.setIfInBounds_toArray, List.set_cons_zero, List.set_cons_succ]
          refine fan_one 10 (by kernel_rfl) ?_
          refine fan_step rfl (by kernel_rfl) fun K hK => ?_
          go_simp
          obtain ⟨c2, hc2, DT, bT, sT⟩ := boxedN c1 #[.int .i64 0, .bool false, .int .i64 0] 26
          rw [← hc2]
          have b2 := b1.trans (bT.mono b1.size)
          obtain ⟨gB, hgB⟩ : ∃ g, g = c1.heap.size := ⟨_, rfl⟩
          rw [← hgB] at DT ⊢
          have zU : wr.heap.size ≤ gB := by have := b1.size; omega
          have zV : gB < c2.heap.size ∧ c1.heap.size ≤ gB := by omega
          replace hgB := hide hgB
          clear sT
          refine hK _ _ (HS.out _ b2) ?_
          clear hK K hc2
          try simp only [List.getElem_toArray, List.getElem_cons_succ, List.getElem_cons_zero, List.getElem?_toArray, List.getElem?_cons_succ, List.getElem?_cons_zero, Act.put, List.setIfInBounds_toArray, List.set_cons_zero, List.set_cons_succ]
          refine fan_one 11 (by kernel_rfl) ?_
          refine fan_step rfl (by kernel_rfl) fun K hK => ?_
          obtain ⟨⟨y0, y1, y2⟩, yf⟩ := cells3v DT
          have yf0 := yf 0
          have yf1 := yf 1
          have yf2 := yf 2
          go_simp
          obtain ⟨c3, hc3⟩ : ∃ c, c = ((c2.setCell ⟨gB, 0, none⟩ (.int .i64 r1)).setCell ⟨gB, 1, none⟩ (.bool r2)).setCell ⟨gB, 2, none⟩ (.int .i64 r3) := ⟨_, rfl⟩
          have b3_ : Below wr.heap.size wr c3 := by rw [hc3]; exact below_set3v b2 zU _ _ _
          have DU : c3.heap[gB]? = some (.cells #[.int .i64 r1, .bool r2, .int .i64 r3] 26 (0, 0)) := by rw [hc3]; exact heap_set3v DT _ _ _
          rw [← hc3]
          have DU2 := hide DU
          refine hK _ _ (HS.out _ b3_) ?_
          clear hK K hc3 y0 y1 y2 yf yf0 yf1 yf2 DU bb DT bT
          try simp only [List.getElem_toArray, List.getElem_cons_succ, List.getElem_cons_zero, List.getElem?_toArray, List.getElem?_cons_succ, List.getElem?_cons_zero, Act.put, List.setIfInBounds_toArray, List.set_cons_zero, List.set_cons_succ]
          refine fan_one 12 (by kernel_rfl) ?_
          refine fan_step rfl (by kernel_rfl) fun K hK => ?_
          go_simp
          refine hK _ _ (HS.out _ b3_) ?_
          clear hK K
          have b4 := b3_
          try simp only [List.getElem_toArray, List.getElem_cons_succ, List.getElem_cons_zero, List.getElem?_toArray, List.getElem?_cons_succ, List.getElem?_cons_zero, Act.put, List.setIfInBounds_toArray, List.set_cons_zero, List.set_cons_succ]
          refine fan_done (by kernel_rfl) ?_
          show wpList _ _ _ _ _ _
          have HV2 := hide b3_
          clear b0 b3_ zB zC
          go_wp2_with fail
          go_meet
          exact ⟨gB, rfl, rfl, rfl, HV2, hide ⟨DU2.out, zU⟩⟩
        · refine fan_step rfl (by kernel_rfl) fun K hK => ?_
          go_simp
          obtain ⟨c1, hc1, DT, bT, sT⟩ := boxedN c0 #[.int .i64 0, .bool false, .int .i64 0] 26
          rw [← hc1]
          have b1 := b0.trans (bT.mono b0.size)
          obtain ⟨gB, hgB⟩ : ∃ g, g = c0.heap.size := ⟨_, rfl⟩
          rw [← hgB] at DT ⊢
          have zU : wr.heap.size ≤ gB := by have := b0.size; omega
          have zV : gB < c1.heap.size ∧ c0.heap.size ≤ gB := by omega
          replace hgB := hide hgB
          clear sT
          refine hK _ _ (HS.out _ b1) ?_
          clear hK K hc1
          try simp only [List.getElem_toArray, List.getElem_cons_succ, List.getElem_cons_zero, List.getElem?_toArray, List.getElem?_cons_succ, List.getElem?_cons_zero, Act.put, List.setIfInBounds_toArray, List.set_cons_zero, List.set_cons_succ]
          refine fan_one 5 (by kernel_rfl) ?_
          refine fan_step rfl (by kernel_rfl) fun K hK => ?_
          refine wp_call_of 9 _ _ (by rfl) #[.agg #[.int .i64 a1, .bool a2, .int .i64 a3], .int .i64 t] (by simp [Act.eval]) (Try.call9 _ _) (KT.out c1) ?_
          rintro e c2 ⟨rfl, bb⟩
          have b2 := b1.trans (bb.mono b1.size)
          have zB := b1.size
          have zC := bb.size
          refine ⟨_, rfl, hK _ _ (HS.out _ b2) ?_⟩
          clear hK K
          try simp only [List.getElem_toArray, List.getElem_cons_succ, List.getElem_cons_zero, List.getElem?_toArray, List.getElem?_cons_succ, List.getElem?_cons_zero, Act.put, List.setIfInBounds_toArray, List.set_cons_zero, List.set_cons_succ]
          refine fan_take (i := 6) (v := ?_) rfl (by kernel_rfl) (fun _ _ _ _ h => h) (by kernel_rfl) (HS.out _ b2) ?_ ?_
          rotate_left
          · rintro w9 ⟨⟨q0, q1, q2⟩, q3⟩
            go_simp
            try with_reducible rfl
          try simp only [List.getElem_toArray, List.getElem_cons_succ, List.getElem_cons_zero, List.getElem?_toArray, List.getElem?_cons_succ, List.getElem?_cons_zero, Act.put, List.setIfInBounds_toArray, List.set_cons_zero, List.set_cons_succ]
          refine fan_take (i := 7) (v := ?_) rfl (by kernel_rfl) (fun _ _ _ _ h => h) (by kernel_rfl) (HS.out _ b2) ?_ ?_
          rotate_left
          · rintro w9 ⟨⟨q0, q1, q2⟩, q3⟩
            go_simp
            try with_reducible rfl
          try simp only [List.getElem_toArray, List.getElem_cons_succ, List.getElem_cons_zero, List.getElem?_toArray, List.getElem?_cons_succ, List.getElem?_cons_zero, Act.put, List.setIfInBounds_toArray, List.set_cons_zero, List.set_cons_succ]
          refine fan_take (i := 8) (v := ?_) rfl (by kernel_rfl) (fun _ _ _ _ h => h) (by kernel_rfl) (HS.out _ b2) ?_ ?_
          rotate_left
          · rintro w9 ⟨⟨q0, q1, q2⟩, q3⟩
            go_simp
            try with_reducible rfl
          try simp only [List.getElem_toArray, List.getElem_cons_succ, List.getElem_cons_zero, List.getElem?_toArray, List.getElem?_cons_succ, List.getElem?_cons_zero, Act.put, List.setIfInBounds_toArray, List.set_cons_zero, List.set_cons_succ]
          refine fan_take (i := 9) (v := ?_) rfl (by kernel_rfl) (fun _ _ _ _ h => h) (by kernel_rfl) (HS.out _ b2) ?_ ?_
          rotate_left
          · rintro w9 ⟨⟨q0, q1, q2⟩, q3⟩
            go_simp
            try with_reducible rfl
          try simp only [List.getElem_toArray, List.getElem_cons_succ, List.getElem_cons_zero, List.getElem?_toArray, List.getElem?_cons_succ, List.getElem?_cons_zero, Act.put, List.setIfInBounds_toArray, List.set_cons_zero, List.set_cons_succ]
          refine fan_one 11 (by kernel_rfl) ?_
          refine fan_step rfl (by kernel_rfl) fun K hK => ?_
          replace DT := (bb.block gB (by omega)).trans DT
          obtain ⟨⟨y0, y1, y2⟩, yf⟩ := cells3v DT
          have yf0 := yf 0
          have yf1 := yf 1
          have yf2 := yf 2
          go_simp
          obtain ⟨c3, hc3⟩ : ∃ c, c = ((c2.setCell ⟨gB, 0, none⟩ (.int .i64 r1)).setCell ⟨gB, 1, none⟩ (.bool r2)).setCell ⟨gB, 2, none⟩ (.int .i64 r3) := ⟨_, rfl⟩
          have b3_ : Below wr.heap.size wr c3 := by rw [hc3]; exact below_set3v b2 zU _ _ _
          have DU : c3.heap[gB]? = some (.cells #[.int .i64 r1, .bool r2, .int .i64 r3] 26 (0, 0)) := by rw [hc3]; exact heap_set3v DT _ _ _
          rw [← hc3]
          have DU2 := hide DU
          refine hK _ _ (HS.out _ b3_) ?_
          clear hK K hc3 y0 y1 y2 yf yf0 yf1 yf2 DU bb DT bT
          try simp only [List.getElem_toArray, List.getElem_cons_succ, List.getElem_cons_zero, List.getElem?_toArray, List.getElem?_cons_succ, List.getElem?_cons_zero, Act.put, List.setIfInBounds_toArray, List.set_cons_zero, List.set_cons_succ]
          refine fan_one 12 (by kernel_rfl) ?_
          refine fan_step rfl (by kernel_rfl) fun K hK => ?_
          go_simp
          refine hK _ _ (HS.out _ b3_) ?_
          clear hK K
          have b4 := b3_
          try simp only [List.getElem_toArray, List.getElem_cons_succ, List.getElem_cons_zero, List.getElem?_toArray, List.getElem?_cons_succ, List.getElem?_cons_zero, Act.put, List.setIfInBounds_toArray, List.set_cons_zero, List.set_cons_succ]
          refine fan_done (by kernel_rfl) ?_
          show wpList _ _ _ _ _ _
          have HV2 := hide b3_
          clear b0 b3_ zB zC
          go_wp2_with fail
          go_meet
          exact ⟨gB, rfl, rfl, rfl, HV2, hide ⟨DU2.out, zU⟩⟩
      case rest =>
      obtain ⟨gB, rfl, rfl, rfl, hW, hB⟩ := hcut
      clear KT b0
      go_wp2_with fail
      refine (NU.out _ _).mono ?_
      rintro e w3 ⟨rfl, b3'⟩
      have W3 := hide (hW.out.trans (b3'.mono hW.out.size))
      have HB3 : Hid (w3.heap[gB]? = some (.cells #[.int .i64 r1, .bool r2, .int .i64 r3] 26 (0, 0)) ∧ wr.heap.size ≤ gB) := ⟨(b3'.block _ (lt_of_block hB.out.1)).trans hB.out.1, hB.out.2⟩
      clear b3' hB hW
      by_cases q : ue = 0
      case neg =>
        have q' : (ue != 0) = true := by simpa using q
        replace q := hide q
        go_wp2
        go_roundw
        case rel => exact ⟨k + 1, by omega, by go_num, hide ⟨⟨a1, a2, a3⟩, (HBW.out _ W3.out).1, (HBW.out _ W3.out).2, FA.out⟩⟩
        case measure => simp [intOf]; omega
      obtain ⟨-, T1, T2⟩ := TS.out q
      subst q
      have HB : Hid (∀ U, Below w3.heap.size w3 U → (((U.cell? ⟨g5, 0, none⟩ = some (.int .i64 a1) ∧ U.cell? ⟨g5, 1, none⟩ = some (.bool a2) ∧ U.cell? ⟨g5, 2, none⟩ = some (.int .i64 a3)) ∧ U.cell? ⟨bt, ot + k, none⟩ = some (.int .i64 t)) ∧ (U.cell? ⟨gB, 0, none⟩ = some (.int .i64 r1) ∧ U.cell? ⟨gB, 1, none⟩ = some (.bool r2) ∧ U.cell? ⟨gB, 2, none⟩ = some (.int .i64 r3)))) := fun U b => ⟨HS.out U (W3.out.trans (b.mono W3.out.size)), (cells3v ((b.block _ (lt_of_block HB3.out.1)).trans HB3.out.1)).1⟩
      have HN : Hid (∀ U, Below w3.heap.size w3 U → U.heap[g5]? = some (.cells #[.int .i64 a1, .bool a2, .int .i64 a3] 26 (0, 0)) ∧ U.heap[gB]? = some (.cells #[.int .i64 r1, .bool r2, .int .i64 r3] 26 (0, 0)) ∧ Below w.heap.size w U) := fun U b => ⟨(HBW.out U (W3.out.trans (b.mono W3.out.size))).2, (b.block _ (lt_of_block HB3.out.1)).trans HB3.out.1, (HBW.out U (W3.out.trans (b.mono W3.out.size))).1⟩
      clear TS HS HBW W3 HB3
      have b0 := (Below.refl w3.heap.size w3).drew
      by_cases g : a1 < t
      · obtain ⟨T3, T4⟩ := T1 (by omega)
        simp only [Prod.mk.injEq, Vs.mk.injEq] at T3
        obtain ⟨⟨rfl, rfl, rfl⟩, rfl, -⟩ := T3
        have FT := hide T4
        clear T1 T2 T4 FA
        go_upto_region 9 with fail
        refine wp_region_fan (fun w9 => ((w9.cell? ⟨g5, 0, none⟩ = some (.int .i64 a1) ∧ w9.cell? ⟨g5, 1, none⟩ = some (.bool a2) ∧ w9.cell? ⟨g5, 2, none⟩ = some (.int .i64 a3)) ∧ w9.cell? ⟨bt, ot + k, none⟩ = some (.int .i64 r1)) ∧ (w9.cell? ⟨gB, 0, none⟩ = some (.int .i64 r1) ∧ w9.cell? ⟨gB, 1, none⟩ = some (.bool false) ∧ w9.cell? ⟨gB, 2, none⟩ = some (.int .i64 0))) 41 mixed (by simp) ?_
        generalize w3.drew = c0 at *
        refine fan_take (i := 0) (v := ?_) rfl (by kernel_rfl) (fun _ _ _ _ h => h) (by kernel_rfl) (HB.out _ b0) ?_ ?_
        rotate_left
        · rintro w9 ⟨⟨⟨q0, q1, q2⟩, q3⟩, p0, p1, p2⟩
          go_simp
          try with_reducible rfl
        try simp only [List.getElem_toArray, List.getElem_cons_succ, List.getElem_cons_zero, List.getElem?_toArray, List.getElem?_cons_succ, List.getElem?_cons_zero, Act.put, List.setIfInBounds_toArray, List.set_cons_zero, List.set_cons_succ]
        refine fan_take (i := 1) (v := ?_) rfl (by kernel_rfl) (fun _ _ _ _ h => h) (by kernel_rfl) (HB.out _ b0) ?_ ?_
        rotate_left
        · rintro w9 ⟨⟨⟨q0, q1, q2⟩, q3⟩, p0, p1, p2⟩
          go_simp
          try with_reducible rfl
        try simp only [List.getElem_toArray, List.getElem_cons_succ, List.getElem_cons_zero, List.getElem?_toArray, List.getElem?_cons_succ, List.getElem?_cons_zero, Act.put, List.setIfInBounds_toArray, List.set_cons_zero, List.set_cons_succ]
        refine fan_take (i := 2) (v := ?_) rfl (by kernel_rfl) (fun _ _ _ _ h => h) (by kernel_rfl) (HB.out _ b0) ?_ ?_
        rotate_left
        · rintro w9 ⟨⟨⟨q0, q1, q2⟩, q3⟩, p0, p1, p2⟩
          go_simp
          try with_reducible rfl
        try simp only [List.getElem_toArray, List.getElem_cons_succ, List.getElem_cons_zero, List.getElem?_toArray, List.getElem?_cons_succ, List.getElem?_cons_zero, Act.put, List.setIfInBounds_toArray, List.set_cons_zero, List.set_cons_succ]
        refine fan_take (i := 3) (v := ?_) rfl (by kernel_rfl) (fun _ _ _ _ h => h) (by kernel_rfl) (HB.out _ b0) ?_ ?_
        rotate_left
        · rintro w9 ⟨⟨⟨q0, q1, q2⟩, q3⟩, p0, p1, p2⟩
          go_simp
          try with_reducible rfl
        try simp only [List.getElem_toArray, List.getElem_cons_succ, List.getElem_cons_zero, List.getElem?_toArray, List.getElem?_cons_succ, List.getElem?_cons_zero, Act.put, List.setIfInBounds_toArray, List.set_cons_zero, List.set_cons_succ]
        refine fan_take (i := 4) (v := ?_) rfl (by kernel_rfl) (fun _ _ _ _ h => h) (by kernel_rfl) (HB.out _ b0) ?_ ?_
        rotate_left
        · rintro w9 ⟨⟨⟨q0, q1, q2⟩, q3⟩, p0, p1, p2⟩
          go_simp
          try with_reducible rfl
        try simp only [List.getElem_toArray, List.getElem_cons_succ, List.getElem_cons_zero, List.getElem?_toArray, List.getElem?_cons_succ, List.getElem?_cons_zero, Act.put, List.setIfInBounds_toArray, List.set_cons_zero, List.set_cons_succ]
        refine fan_take (i := 5) (v := ?_) rfl (by kernel_rfl) (fun _ _ _ _ h => h) (by kernel_rfl) (HB.out _ b0) ?_ ?_
        rotate_left
        · rintro w9 ⟨⟨⟨q0, q1, q2⟩, q3⟩, p0, p1, p2⟩
          go_simp
          try with_reducible rfl
        try simp only [List.getElem_toArray, List.getElem_cons_succ, List.getElem_cons_zero, List.getElem?_toArray, List.getElem?_cons_succ, List.getElem?_cons_zero, Act.put, List.setIfInBounds_toArray, List.set_cons_zero, List.set_cons_succ]
        refine fan_take (i := 6) (v := ?_) rfl (by kernel_rfl) (fun _ _ _ _ h => h) (by kernel_rfl) (HB.out _ b0) ?_ ?_
        rotate_left
        · rintro w9 ⟨⟨⟨q0, q1, q2⟩, q3⟩, p0, p1, p2⟩
          go_simp
          try with_reducible rfl
        try simp only [List.getElem_toArray, List.getElem_cons_succ, List.getElem_cons_zero, List.getElem?_toArray, List.getElem?_cons_succ, List.getElem?_cons_zero, Act.put, List.setIfInBounds_toArray, List.set_cons_zero, List.set_cons_succ]
        refine fan_take (i := 7) (v := ?_) rfl (by kernel_rfl) (fun _ _ _ _ h => h) (by kernel_rfl) (HB.out _ b0) ?_ ?_
        rotate_left
        · rintro w9 ⟨⟨⟨q0, q1, q2⟩, q3⟩, p0, p1, p2⟩
          go_simp
          try with_reducible rfl
        try simp only [List.getElem_toArray, List.getElem_cons_succ, List.getElem_cons_zero, List.getElem?_toArray, List.getElem?_cons_succ, List.getElem?_cons_zero, Act.put, List.setIfInBounds_toArray, List.set_cons_zero, List.set_cons_succ]
        refine fan_one 8 (by kernel_rfl) ?_
        refine fan_step rfl (by kernel_rfl) fun K hK => ?_
        go_simp
        try rw [if_pos g]
        refine hK _ _ (HB.out _ b0) ?_
        clear hK K
        have b1 := b0
        try simp only [List.getElem_toArray, List.getElem_cons_succ, List.getElem_cons_zero, List.getElem?_toArray, List.getElem?_cons_succ, List.getElem?_cons_zero, Act.put, List.setIfInBounds_toArray, List.set_cons_zero, List.set_cons_succ]
        refine fan_take (i := 9) (v := ?_) rfl (by kernel_rfl) (fun _ _ _ _ h => h) (by kernel_rfl) (HB.out _ b1) ?_ ?_
        rotate_left
        · rintro w9 ⟨⟨⟨q0, q1, q2⟩, q3⟩, p0, p1, p2⟩
          go_simp
          try with_reducible rfl
        try simp only [List.getElem_toArray, List.getElem_cons_succ, List.getElem_cons_zero, List.getElem?_toArray, List.getElem?_cons_succ, List.getElem?_cons_zero, Act.put, List.setIfInBounds_toArray, List.set_cons_zero, List.set_cons_succ]
        refine fan_take (i := 10) (v := ?_) rfl (by kernel_rfl) (fun _ _ _ _ h => h) (by kernel_rfl) (HB.out _ b1) ?_ ?_
        rotate_left
        · rintro w9 ⟨⟨⟨q0, q1, q2⟩, q3⟩, p0, p1, p2⟩
          go_simp
          try with_reducible rfl
        try simp only [List.getElem_toArray, List.getElem_cons_succ, List.getElem_cons_zero, List.getElem?_toArray, List.getElem?_cons_succ, List.getElem?_cons_zero, Act.put, List.setIfInBounds_toArray, List.set_cons_zero, List.set_cons_succ]
        refine fan_take (i := 11) (v := ?_) rfl (by kernel_rfl) (fun _ _ _ _ h => h) (by kernel_rfl) (HB.out _ b1) ?_ ?_
        rotate_left
        · rintro w9 ⟨⟨⟨q0, q1, q2⟩, q3⟩, p0, p1, p2⟩
          go_simp
          try with_reducible rfl
        try simp only [List.getElem_toArray, List.getElem_cons_succ, List.getElem_cons_zero, List.getElem?_toArray, List.getElem?_cons_succ, List.getElem?_cons_zero, Act.put, List.setIfInBounds_toArray, List.set_cons_zero, List.set_cons_succ]
        refine fan_take (i := 12) (v := ?_) rfl (by kernel_rfl) (fun _ _ _ _ h => h) (by kernel_rfl) (HB.out _ b1) ?_ ?_
        rotate_left
        · rintro w9 ⟨⟨⟨q0, q1, q2⟩, q3⟩, p0, p1, p2⟩
          go_simp
          try with_reducible rfl
        try simp only [List.getElem_toArray, List.getElem_cons_succ, List.getElem_cons_zero, List.getElem?_toArray, List.getElem?_cons_succ, List.getElem?_cons_zero, Act.put, List.setIfInBounds_toArray, List.set_cons_zero, List.set_cons_succ]
        refine fan_take (i := 13) (v := ?_) rfl (by kernel_rfl) (fun _ _ _ _ h => h) (by kernel_rfl) (HB.out _ b1) ?_ ?_
        rotate_left
        · rintro w9 ⟨⟨⟨q0, q1, q2⟩, q3⟩, p0, p1, p2⟩
          go_simp
          try with_reducible rfl
        try simp only [List.getElem_toArray, List.getElem_cons_succ, List.getElem_cons_zero, List.getElem?_toArray, List.getElem?_cons_succ, List.getElem?_cons_zero, Act.put, List.setIfInBounds_toArray, List.set_cons_zero, List.set_cons_succ]
        refine fan_take (i := 14) (v := ?_) rfl (by kernel_rfl) (fun _ _ _ _ h => h) (by kernel_rfl) (HB.out _ b1) ?_ ?_
        rotate_left
        · rintro w9 ⟨⟨⟨q0, q1, q2⟩, q3⟩, p0, p1, p2⟩
          go_simp
          try with_reducible rfl
        try simp only [List.getElem_toArray, List.getElem_cons_succ, List.getElem_cons_zero, List.getElem?_toArray, List.getElem?_cons_succ, List.getElem?_cons_zero, Act.put, List.setIfInBounds_toArray, List.set_cons_zero, List.set_cons_succ]
        refine fan_take (i := 15) (v := ?_) rfl (by kernel_rfl) (fun _ _ _ _ h => h) (by kernel_rfl) (HB.out _ b1) ?_ ?_
        rotate_left
        · rintro w9 ⟨⟨⟨q0, q1, q2⟩, q3⟩, p0, p1, p2⟩
          go_simp
          try with_reducible rfl
        try simp only [List.getElem_toArray, List.getElem_cons_succ, List.getElem_cons_zero, List.getElem?_toArray, List.getElem?_cons_succ, List.getElem?_cons_zero, Act.put, List.setIfInBounds_toArray, List.set_cons_zero, List.set_cons_succ]
        refine fan_take (i := 16) (v := ?_) rfl (by kernel_rfl) (fun _ _ _ _ h => h) (by kernel_rfl) (HB.out _ b1) ?_ ?_
        rotate_left
        · rintro w9 ⟨⟨⟨q0, q1, q2⟩, q3⟩, p0, p1, p2⟩
          go_simp
          try with_reducible rfl
        try simp only [List.getElem_toArray, List.getElem_cons_succ, List.getElem_cons_zero, List.getElem?_toArray, List.getElem?_cons_succ, List.getElem?_cons_zero, Act.put, List.setIfInBounds_toArray, List.set_cons_zero, List.set_cons_succ]
        refine fan_take (i := 17) (v := ?_) rfl (by kernel_rfl) (fun _ _ _ _ h => h) (by kernel_rfl) (HB.out _ b1) ?_ ?_
        rotate_left
        · rintro w9 ⟨⟨⟨q0, q1, q2⟩, q3⟩, p0, p1, p2⟩
          go_simp
          try with_reducible rfl
        try simp only [List.getElem_toArray, List.getElem_cons_succ, List.getElem_cons_zero, List.getElem?_toArray, List.getElem?_cons_succ, List.getElem?_cons_zero, Act.put, List.setIfInBounds_toArray, List.set_cons_zero, List.set_cons_succ]
        refine fan_take (i := 18) (v := ?_) rfl (by kernel_rfl) (fun _ _ _ _ h => h) (by kernel_rfl) (HB.out _ b1) ?_ ?_
        rotate_left
        · rintro w9 ⟨⟨⟨q0, q1, q2⟩, q3⟩, p0, p1, p2⟩
          go_simp
          try with_reducible rfl
        try simp only [List.getElem_toArray, List.getElem_cons_succ, List.getElem_cons_zero, List.getElem?_toArray, List.getElem?_cons_succ, List.getElem?_cons_zero, Act.put, List.setIfInBounds_toArray, List.set_cons_zero, List.set_cons_succ]
        refine fan_take (i := 19) (v := ?_) rfl (by kernel_rfl) (fun _ _ _ _ h => h) (by kernel_rfl) (HB.out _ b1) ?_ ?_
        rotate_left
        · rintro w9 ⟨⟨⟨q0, q1, q2⟩, q3⟩, p0, p1, p2⟩
          go_simp
          try with_reducible rfl
        try simp only [List.getElem_toArray, List.getElem_cons_succ, List.getElem_cons_zero, List.getElem?_toArray, List.getElem?_cons_succ, List.getElem?_cons_zero, Act.put, List.setIfInBounds_toArray, List.set_cons_zero, List.set_cons_succ]
        refine fan_take (i := 20) (v := ?_) rfl (by kernel_rfl) (fun _ _ _ _ h => h) (by kernel_rfl) (HB.out _ b1) ?_ ?_
        rotate_left
        · rintro w9 ⟨⟨⟨q0, q1, q2⟩, q3⟩, p0, p1, p2⟩
          go_simp
          try with_reducible rfl
        try simp only [List.getElem_toArray, List.getElem_cons_succ, List.getElem_cons_zero, List.getElem?_toArray, List.getElem?_cons_succ, List.getElem?_cons_zero, Act.put, List.setIfInBounds_toArray, List.set_cons_zero, List.set_cons_succ]
        refine fan_take (i := 21) (v := ?_) rfl (by kernel_rfl) (fun _ _ _ _ h => h) (by kernel_rfl) (HB.out _ b1) ?_ ?_
        rotate_left
        · rintro w9 ⟨⟨⟨q0, q1, q2⟩, q3⟩, p0, p1, p2⟩
          go_simp
          try with_reducible rfl
        try simp only [List.getElem_toArray, List.getElem_cons_succ, List.getElem_cons_zero, List.getElem?_toArray, List.getElem?_cons_succ, List.getElem?_cons_zero, Act.put, List.setIfInBounds_toArray, List.set_cons_zero, List.set_cons_succ]
        refine fan_take (i := 22) (v := ?_) rfl (by kernel_rfl) (fun _ _ _ _ h => h) (by kernel_rfl) (HB.out _ b1) ?_ ?_
        rotate_left
        · rintro w9 ⟨⟨⟨q0, q1, q2⟩, q3⟩, p0, p1, p2⟩
          go_simp
          try with_reducible rfl
        try simp only [List.getElem_toArray, List.getElem_cons_succ, List.getElem_cons_zero, List.getElem?_toArray, List.getElem?_cons_succ, List.getElem?_cons_zero, Act.put, List.setIfInBounds_toArray, List.set_cons_zero, List.set_cons_succ]
        refine fan_take (i := 23) (v := ?_) rfl (by kernel_rfl) (fun _ _ _ _ h => h) (by kernel_rfl) (HB.out _ b1) ?_ ?_
        rotate_left
        · rintro w9 ⟨⟨⟨q0, q1, q2⟩, q3⟩, p0, p1, p2⟩
          go_simp
          try with_reducible rfl
        try simp only [List.getElem_toArray, List.getElem_cons_succ, List.getElem_cons_zero, List.getElem?_toArray, List.getElem?_cons_succ, List.getElem?_cons_zero, Act.put, List.setIfInBounds_toArray, List.set_cons_zero, List.set_cons_succ]
        refine fan_take (i := 24) (v := ?_) rfl (by kernel_rfl) (fun _ _ _ _ h => h) (by kernel_rfl) (HB.out _ b1) ?_ ?_
        rotate_left
        · rintro w9 ⟨⟨⟨q0, q1, q2⟩, q3⟩, p0, p1, p2⟩
          go_simp
          try with_reducible rfl
        try simp only [List.getElem_toArray, List.getElem_cons_succ, List.getElem_cons_zero, List.getElem?_toArray, List.getElem?_cons_succ, List.getElem?_cons_zero, Act.put, List.setIfInBounds_toArray, List.set_cons_zero, List.set_cons_succ]
        refine fan_take (i := 25) (v := ?_) rfl (by kernel_rfl) (fun _ _ _ _ h => h) (by kernel_rfl) (HB.out _ b1) ?_ ?_
        rotate_left
        · rintro w9 ⟨⟨⟨q0, q1, q2⟩, q3⟩, p0, p1, p2⟩
          go_simp
          try with_reducible rfl
        try simp only [List.getElem_toArray, List.getElem_cons_succ, List.getElem_cons_zero, List.getElem?_toArray, List.getElem?_cons_succ, List.getElem?_cons_zero, Act.put, List.setIfInBounds_toArray, List.set_cons_zero, List.set_cons_succ]
        refine fan_take (i := 26) (v := ?_) rfl (by kernel_rfl) (fun _ _ _ _ h => h) (by kernel_rfl) (HB.out _ b1) ?_ ?_
        rotate_left
        · rintro w9 ⟨⟨⟨q0, q1, q2⟩, q3⟩, p0, p1, p2⟩
          go_simp
          try with_reducible rfl
        try simp only [List.getElem_toArray, List.getElem_cons_succ, List.getElem_cons_zero, List.getElem?_toArray, List.getElem?_cons_succ, List.getElem?_cons_zero, Act.put, List.setIfInBounds_toArray, List.set_cons_zero, List.set_cons_succ]
        refine fan_take (i := 27) (v := ?_) rfl (by kernel_rfl) (fun _ _ _ _ h => h) (by kernel_rfl) (HB.out _ b1) ?_ ?_
        rotate_left
        · rintro w9 ⟨⟨⟨q0, q1, q2⟩, q3⟩, p0, p1, p2⟩
          go_simp
          try with_reducible rfl
        try simp only [List.getElem_toArray, List.getElem_cons_succ, List.getElem_cons_zero, List.getElem?_toArray, List.getElem?_cons_succ, List.getElem?_cons_zero, Act.put, List.setIfInBounds_toArray, List.set_cons_zero, List.set_cons_succ]
        refine fan_take (i := 28) (v := ?_) rfl (by kernel_rfl) (fun _ _ _ _ h => h) (by kernel_rfl) (HB.out _ b1) ?_ ?_
        rotate_left
        · rintro w9 ⟨⟨⟨q0, q1, q2⟩, q3⟩, p0, p1, p2⟩
          go_simp
          try with_reducible rfl
        try simp only [List.getElem_toArray, List.getElem_cons_succ, List.getElem_cons_zero, List.getElem?_toArray, List.getElem?_cons_succ, List.getElem?_cons_zero, Act.put, List.setIfInBounds_toArray, List.set_cons_zero, List.set_cons_succ]
        refine fan_take (i := 29) (v := ?_) rfl (by kernel_rfl) (fun _ _ _ _ h => h) (by kernel_rfl) (HB.out _ b1) ?_ ?_
        rotate_left
        · rintro w9 ⟨⟨⟨q0, q1, q2⟩, q3⟩, p0, p1, p2⟩
          go_simp
          try with_reducible rfl
        try simp only [List.getElem_toArray, List.getElem_cons_succ, List.getElem_cons_zero, List.getElem?_toArray, List.getElem?_cons_succ, List.getElem?_cons_zero, Act.put, List.setIfInBounds_toArray, List.set_cons_zero, List.set_cons_succ]
        refine fan_take (i := 30) (v := ?_) rfl (by kernel_rfl) (fun _ _ _ _ h => h) (by kernel_rfl) (HB.out _ b1) ?_ ?_
        rotate_left
        · rintro w9 ⟨⟨⟨q0, q1, q2⟩, q3⟩, p0, p1, p2⟩
          go_simp
          try with_reducible rfl
        try simp only [List.getElem_toArray, List.getElem_cons_succ, List.getElem_cons_zero, List.getElem?_toArray, List.getElem?_cons_succ, List.getElem?_cons_zero, Act.put, List.setIfInBounds_toArray, List.set_cons_zero, List.set_cons_succ]
        refine fan_take (i := 31) (v := ?_) rfl (by kernel_rfl) (fun _ _ _ _ h => h) (by kernel_rfl) (HB.out _ b1) ?_ ?_
        rotate_left
        · rintro w9 ⟨⟨⟨q0, q1, q2⟩, q3⟩, p0, p1, p2⟩
          go_simp
          try with_reducible rfl
        try simp only [List.getElem_toArray, List.getElem_cons_succ, List.getElem_cons_zero, List.getElem?_toArray, List.getElem?_cons_succ, List.getElem?_cons_zero, Act.put, List.setIfInBounds_toArray, List.set_cons_zero, List.set_cons_succ]
        refine fan_take (i := 32) (v := ?_) rfl (by kernel_rfl) (fun _ _ _ _ h => h) (by kernel_rfl) (HB.out _ b1) ?_ ?_
        rotate_left
        · rintro w9 ⟨⟨⟨q0, q1, q2⟩, q3⟩, p0, p1, p2⟩
          go_simp
          try with_reducible rfl
        try simp only [List.getElem_toArray, List.getElem_cons_succ, List.getElem_cons_zero, List.getElem?_toArray, List.getElem?_cons_succ, List.getElem?_cons_zero, Act.put, List.setIfInBounds_toArray, List.set_cons_zero, List.set_cons_succ]
        refine fan_take (i := 33) (v := ?_) rfl (by kernel_rfl) (fun _ _ _ _ h => h) (by kernel_rfl) (HB.out _ b1) ?_ ?_
        rotate_left
        · rintro w9 ⟨⟨⟨q0, q1, q2⟩, q3⟩, p0, p1, p2⟩
          go_simp
          try with_reducible rfl
        try simp only [List.getElem_toArray, List.getElem_cons_succ, List.getElem_cons_zero, List.getElem?_toArray, List.getElem?_cons_succ, List.getElem?_cons_zero, Act.put, List.setIfInBounds_toArray, List.set_cons_zero, List.set_cons_succ]
        refine fan_take (i := 34) (v := ?_) rfl (by kernel_rfl) (fun _ _ _ _ h => h) (by kernel_rfl) (HB.out _ b1) ?_ ?_
        rotate_left
        · rintro w9 ⟨⟨⟨q0, q1, q2⟩, q3⟩, p0, p1, p2⟩
          go_simp
          try with_reducible rfl
        try simp only [List.getElem_toArray, List.getElem_cons_succ, List.getElem_cons_zero, List.getElem?_toArray, List.getElem?_cons_succ, List.getElem?_cons_zero, Act.put, List.setIfInBounds_toArray, List.set_cons_zero, List.set_cons_succ]
        refine fan_take (i := 35) (v := ?_) rfl (by kernel_rfl) (fun _ _ _ _ h => h) (by kernel_rfl) (HB.out _ b1) ?_ ?_
        rotate_left
        · rintro w9 ⟨⟨⟨q0, q1, q2⟩, q3⟩, p0, p1, p2⟩
          go_simp
          try with_reducible rfl
        try simp only [List.getElem_toArray, List.getElem_cons_succ, List.getElem_cons_zero, List.getElem?_toArray, List.getElem?_cons_succ, List.getElem?_cons_zero, Act.put, List.setIfInBounds_toArray, List.set_cons_zero, List.set_cons_succ]
        refine fan_take (i := 36) (v := ?_) rfl (by kernel_rfl) (fun _ _ _ _ h => h) (by kernel_rfl) (HB.out _ b1) ?_ ?_
        rotate_left
        · rintro w9 ⟨⟨⟨q0, q1, q2⟩, q3⟩, p0, p1, p2⟩
          go_simp
          try with_reducible rfl
        try simp only [List.getElem_toArray, List.getElem_cons_succ, List.getElem_cons_zero, List.getElem?_toArray, List.getElem?_cons_succ, List.getElem?_cons_zero, Act.put, List.setIfInBounds_toArray, List.set_cons_zero, List.set_cons_succ]
        refine fan_skip (i := 37) rfl (by kernel_rfl) (fun _ _ _ _ h => h) (by kernel_rfl) (HB.out _ b1) ?_
        try simp only [List.getElem_toArray, List.getElem_cons_succ, List.getElem_cons_zero, List.getElem?_toArray, List.getElem?_cons_succ, List.getElem?_cons_zero, Act.put, List.setIfInBounds_toArray, List.set_cons_zero, List.set_cons_succ]
        refine fan_skip (i := 38) rfl (by kernel_rfl) (fun _ _ _ _ h => h) (by kernel_rfl) (HB.out _ b1) ?_
        try simp only [List.getElem_toArray, List.getElem_cons_succ, List.getElem_cons_zero, List.getElem?_toArray, List.getElem?_cons_succ, List.getElem?_cons_zero, Act.put, List.setIfInBounds_toArray, List.set_cons_zero, List.set_cons_succ]
        refine fan_skip (i := 39) rfl (by kernel_rfl) (fun _ _ _ _ h => h) (by kernel_rfl) (HB.out _ b1) ?_
        try simp only [List.getElem_toArray, List.getElem_cons_succ, List.getElem_cons_zero, List.getElem?_toArray, List.getElem?_cons_succ, List.getElem?_cons_zero, Act.put, List.setIfInBounds_toArray, List.set_cons_zero, List.set_cons_succ]
        refine fan_take (i := 40) (v := ?_) rfl (by kernel_rfl) (fun _ _ _ _ h => h) (by kernel_rfl) (HB.out _ b1) ?_ ?_
        rotate_left
        · rintro w9 ⟨⟨⟨q0, q1, q2⟩, q3⟩, p0, p1, p2⟩
          go_simp
          try with_reducible rfl
        try simp only [List.getElem_toArray, List.getElem_cons_succ, List.getElem_cons_zero, List.getElem?_toArray, List.getElem?_cons_succ, List.getElem?_cons_zero, Act.put, List.setIfInBounds_toArray, List.set_cons_zero, List.set_cons_succ]
        refine fan_done (by kernel_rfl) ?_
        show wpList _ _ _ _ _ _
        have b1q := b1
        obtain ⟨Z5, ZB, ZW⟩ := HN.out _ b1q
        obtain ⟨⟨x0, x1', x2⟩, xf⟩ := cells3v Z5
        obtain ⟨⟨y0, y1, y2⟩, _⟩ := cells3v ZB
        have xf0 := xf 0
        have xf1 := xf 1
        have xf2 := xf 2
        have ZF := hide (And.intro (below_set3v ZW zg (.int .i64 r1) (.bool false) (.int .i64 0)) (heap_set3v Z5 (.int .i64 r1) (.bool false) (.int .i64 0)))
        clear xf Z5 ZB ZW b0 b1q
        go_wp2
        go_roundw
        case rel => exact ⟨k + 1, by omega, by go_num, hide ⟨⟨r1, false, 0⟩, ZF.out.1, ZF.out.2, FT.out⟩⟩
        case measure => simp [intOf]; omega
      · have T3 := T2 (by omega)
        simp only [Prod.mk.injEq, Vs.mk.injEq] at T3
        obtain ⟨⟨rfl, rfl, rfl⟩, rfl, -⟩ := T3
        clear T1 T2
        have gd : decide (r1 < t) = false := decide_eq_false (by omega)
        have hM : (if r1 < t then t else r1) = r1 := if_neg (by omega)
        go_upto_region 9 with fail
        refine wp_region_fan (fun w9 => ((w9.cell? ⟨g5, 0, none⟩ = some (.int .i64 r1) ∧ w9.cell? ⟨g5, 1, none⟩ = some (.bool r2) ∧ w9.cell? ⟨g5, 2, none⟩ = some (.int .i64 r3)) ∧ w9.cell? ⟨bt, ot + k, none⟩ = some (.int .i64 t)) ∧ (w9.cell? ⟨gB, 0, none⟩ = some (.int .i64 r1) ∧ w9.cell? ⟨gB, 1, none⟩ = some (.bool r2) ∧ w9.cell? ⟨gB, 2, none⟩ = some (.int .i64 r3))) 41 mixed (by simp) ?_
        generalize w3.drew = c0 at *
        refine fan_take (i := 0) (v := ?_) rfl (by kernel_rfl) (fun _ _ _ _ h => h) (by kernel_rfl) (HB.out _ b0) ?_ ?_
        rotate_left
        · rintro w9 ⟨⟨⟨q0, q1, q2⟩, q3⟩, p0, p1, p2⟩
          go_simp
          try with_reducible rfl
        try simp only [List.getElem_toArray, List.getElem_cons_succ, List.getElem_cons_zero, List.getElem?_toArray, List.getElem?_cons_succ, List.getElem?_cons_zero, Act.put, List.setIfInBounds_toArray, List.set_cons_zero, List.set_cons_succ]
        refine fan_take (i := 1) (v := ?_) rfl (by kernel_rfl) (fun _ _ _ _ h => h) (by kernel_rfl) (HB.out _ b0) ?_ ?_
        rotate_left
        · rintro w9 ⟨⟨⟨q0, q1, q2⟩, q3⟩, p0, p1, p2⟩
          go_simp
          try with_reducible rfl
        try simp only [List.getElem_toArray, List.getElem_cons_succ, List.getElem_cons_zero, List.getElem?_toArray, List.getElem?_cons_succ, List.getElem?_cons_zero, Act.put, List.setIfInBounds_toArray, List.set_cons_zero, List.set_cons_succ]
        refine fan_take (i := 2) (v := ?_) rfl (by kernel_rfl) (fun _ _ _ _ h => h) (by kernel_rfl) (HB.out _ b0) ?_ ?_
        rotate_left
        · rintro w9 ⟨⟨⟨q0, q1, q2⟩, q3⟩, p0, p1, p2⟩
          go_simp
          try with_reducible rfl
        try simp only [List.getElem_toArray, List.getElem_cons_succ, List.getElem_cons_zero, List.getElem?_toArray, List.getElem?_cons_succ, List.getElem?_cons_zero, Act.put, List.setIfInBounds_toArray, List.set_cons_zero, List.set_cons_succ]
        refine fan_take (i := 3) (v := ?_) rfl (by kernel_rfl) (fun _ _ _ _ h => h) (by kernel_rfl) (HB.out _ b0) ?_ ?_
        rotate_left
        · rintro w9 ⟨⟨⟨q0, q1, q2⟩, q3⟩, p0, p1, p2⟩
          go_simp
          try with_reducible rfl
        try simp only [List.getElem_toArray, List.getElem_cons_succ, List.getElem_cons_zero, List.getElem?_toArray, List.getElem?_cons_succ, List.getElem?_cons_zero, Act.put, List.setIfInBounds_toArray, List.set_cons_zero, List.set_cons_succ]
        refine fan_take (i := 4) (v := ?_) rfl (by kernel_rfl) (fun _ _ _ _ h => h) (by kernel_rfl) (HB.out _ b0) ?_ ?_
        rotate_left
        · rintro w9 ⟨⟨⟨q0, q1, q2⟩, q3⟩, p0, p1, p2⟩
          go_simp
          try with_reducible rfl
        try simp only [List.getElem_toArray, List.getElem_cons_succ, List.getElem_cons_zero, List.getElem?_toArray, List.getElem?_cons_succ, List.getElem?_cons_zero, Act.put, List.setIfInBounds_toArray, List.set_cons_zero, List.set_cons_succ]
        refine fan_take (i := 5) (v := ?_) rfl (by kernel_rfl) (fun _ _ _ _ h => h) (by kernel_rfl) (HB.out _ b0) ?_ ?_
        rotate_left
        · rintro w9 ⟨⟨⟨q0, q1, q2⟩, q3⟩, p0, p1, p2⟩
          go_simp
          try with_reducible rfl
        try simp only [List.getElem_toArray, List.getElem_cons_succ, List.getElem_cons_zero, List.getElem?_toArray, List.getElem?_cons_succ, List.getElem?_cons_zero, Act.put, List.setIfInBounds_toArray, List.set_cons_zero, List.set_cons_succ]
        refine fan_take (i := 6) (v := ?_) rfl (by kernel_rfl) (fun _ _ _ _ h => h) (by kernel_rfl) (HB.out _ b0) ?_ ?_
        rotate_left
        · rintro w9 ⟨⟨⟨q0, q1, q2⟩, q3⟩, p0, p1, p2⟩
          go_simp
          try with_reducible rfl
        try simp only [List.getElem_toArray, List.getElem_cons_succ, List.getElem_cons_zero, List.getElem?_toArray, List.getElem?_cons_succ, List.getElem?_cons_zero, Act.put, List.setIfInBounds_toArray, List.set_cons_zero, List.set_cons_succ]
        refine fan_take (i := 7) (v := ?_) rfl (by kernel_rfl) (fun _ _ _ _ h => h) (by kernel_rfl) (HB.out _ b0) ?_ ?_
        rotate_left
        · rintro w9 ⟨⟨⟨q0, q1, q2⟩, q3⟩, p0, p1, p2⟩
          go_simp
          try with_reducible rfl
        try simp only [List.getElem_toArray, List.getElem_cons_succ, List.getElem_cons_zero, List.getElem?_toArray, List.getElem?_cons_succ, List.getElem?_cons_zero, Act.put, List.setIfInBounds_toArray, List.set_cons_zero, List.set_cons_succ]
        refine fan_one 8 (by kernel_rfl) ?_
        refine fan_step rfl (by kernel_rfl) fun K hK => ?_
        go_simp
        try rw [hM]
        refine hK _ _ (HB.out _ b0) ?_
        clear hK K
        have b1 := b0
        try simp only [List.getElem_toArray, List.getElem_cons_succ, List.getElem_cons_zero, List.getElem?_toArray, List.getElem?_cons_succ, List.getElem?_cons_zero, Act.put, List.setIfInBounds_toArray, List.set_cons_zero, List.set_cons_succ]
        refine fan_take (i := 9) (v := ?_) rfl (by kernel_rfl) (fun _ _ _ _ h => h) (by kernel_rfl) (HB.out _ b1) ?_ ?_
        rotate_left
        · rintro w9 ⟨⟨⟨q0, q1, q2⟩, q3⟩, p0, p1, p2⟩
          go_simp
          try with_reducible rfl
        try simp only [List.getElem_toArray, List.getElem_cons_succ, List.getElem_cons_zero, List.getElem?_toArray, List.getElem?_cons_succ, List.getElem?_cons_zero, Act.put, List.setIfInBounds_toArray, List.set_cons_zero, List.set_cons_succ]
        refine fan_take (i := 10) (v := ?_) rfl (by kernel_rfl) (fun _ _ _ _ h => h) (by kernel_rfl) (HB.out _ b1) ?_ ?_
        rotate_left
        · rintro w9 ⟨⟨⟨q0, q1, q2⟩, q3⟩, p0, p1, p2⟩
          go_simp
          try with_reducible rfl
        try simp only [List.getElem_toArray, List.getElem_cons_succ, List.getElem_cons_zero, List.getElem?_toArray, List.getElem?_cons_succ, List.getElem?_cons_zero, Act.put, List.setIfInBounds_toArray, List.set_cons_zero, List.set_cons_succ]
        refine fan_take (i := 11) (v := ?_) rfl (by kernel_rfl) (fun _ _ _ _ h => h) (by kernel_rfl) (HB.out _ b1) ?_ ?_
        rotate_left
        · rintro w9 ⟨⟨⟨q0, q1, q2⟩, q3⟩, p0, p1, p2⟩
          go_simp
          try with_reducible rfl
        try simp only [List.getElem_toArray, List.getElem_cons_succ, List.getElem_cons_zero, List.getElem?_toArray, List.getElem?_cons_succ, List.getElem?_cons_zero, Act.put, List.setIfInBounds_toArray, List.set_cons_zero, List.set_cons_succ]
        refine fan_take (i := 12) (v := ?_) rfl (by kernel_rfl) (fun _ _ _ _ h => h) (by kernel_rfl) (HB.out _ b1) ?_ ?_
        rotate_left
        · rintro w9 ⟨⟨⟨q0, q1, q2⟩, q3⟩, p0, p1, p2⟩
          go_simp
          try with_reducible rfl
        try simp only [List.getElem_toArray, List.getElem_cons_succ, List.getElem_cons_zero, List.getElem?_toArray, List.getElem?_cons_succ, List.getElem?_cons_zero, Act.put, List.setIfInBounds_toArray, List.set_cons_zero, List.set_cons_succ]
        refine fan_take (i := 13) (v := ?_) rfl (by kernel_rfl) (fun _ _ _ _ h => h) (by kernel_rfl) (HB.out _ b1) ?_ ?_
        rotate_left
        · rintro w9 ⟨⟨⟨q0, q1, q2⟩, q3⟩, p0, p1, p2⟩
          go_simp
          try with_reducible rfl
        try simp only [List.getElem_toArray, List.getElem_cons_succ, List.getElem_cons_zero, List.getElem?_toArray, List.getElem?_cons_succ, List.getElem?_cons_zero, Act.put, List.setIfInBounds_toArray, List.set_cons_zero, List.set_cons_succ]
        refine fan_take (i := 14) (v := ?_) rfl (by kernel_rfl) (fun _ _ _ _ h => h) (by kernel_rfl) (HB.out _ b1) ?_ ?_
        rotate_left
        · rintro w9 ⟨⟨⟨q0, q1, q2⟩, q3⟩, p0, p1, p2⟩
          go_simp
          try with_reducible rfl
        try simp only [List.getElem_toArray, List.getElem_cons_succ, List.getElem_cons_zero, List.getElem?_toArray, List.getElem?_cons_succ, List.getElem?_cons_zero, Act.put, List.setIfInBounds_toArray, List.set_cons_zero, List.set_cons_succ]
        refine fan_take (i := 15) (v := ?_) rfl (by kernel_rfl) (fun _ _ _ _ h => h) (by kernel_rfl) (HB.out _ b1) ?_ ?_
        rotate_left
        · rintro w9 ⟨⟨⟨q0, q1, q2⟩, q3⟩, p0, p1, p2⟩
          go_simp
          try with_reducible rfl
        try simp only [List.getElem_toArray, List.getElem_cons_succ, List.getElem_cons_zero, List.getElem?_toArray, List.getElem?_cons_succ, List.getElem?_cons_zero, Act.put, List.setIfInBounds_toArray, List.set_cons_zero, List.set_cons_succ]
        refine fan_take (i := 16) (v := ?_) rfl (by kernel_rfl) (fun _ _ _ _ h => h) (by kernel_rfl) (HB.out _ b1) ?_ ?_
        rotate_left
        · rintro w9 ⟨⟨⟨q0, q1, q2⟩, q3⟩, p0, p1, p2⟩
          go_simp
          try with_reducible rfl
        try simp only [List.getElem_toArray, List.getElem_cons_succ, List.getElem_cons_zero, List.getElem?_toArray, List.getElem?_cons_succ, List.getElem?_cons_zero, Act.put, List.setIfInBounds_toArray, List.set_cons_zero, List.set_cons_succ]
        refine fan_take (i := 17) (v := ?_) rfl (by kernel_rfl) (fun _ _ _ _ h => h) (by kernel_rfl) (HB.out _ b1) ?_ ?_
        rotate_left
        · rintro w9 ⟨⟨⟨q0, q1, q2⟩, q3⟩, p0, p1, p2⟩
          go_simp
          try with_reducible rfl
        try simp only [List.getElem_toArray, List.getElem_cons_succ, List.getElem_cons_zero, List.getElem?_toArray, List.getElem?_cons_succ, List.getElem?_cons_zero, Act.put, List.setIfInBounds_toArray, List.set_cons_zero, List.set_cons_succ]
        refine fan_take (i := 18) (v := ?_) rfl (by kernel_rfl) (fun _ _ _ _ h => h) (by kernel_rfl) (HB.out _ b1) ?_ ?_
        rotate_left
        · rintro w9 ⟨⟨⟨q0, q1, q2⟩, q3⟩, p0, p1, p2⟩
          go_simp
          try with_reducible rfl
        try simp only [List.getElem_toArray, List.getElem_cons_succ, List.getElem_cons_zero, List.getElem?_toArray, List.getElem?_cons_succ, List.getElem?_cons_zero, Act.put, List.setIfInBounds_toArray, List.set_cons_zero, List.set_cons_succ]
        refine fan_take (i := 19) (v := ?_) rfl (by kernel_rfl) (fun _ _ _ _ h => h) (by kernel_rfl) (HB.out _ b1) ?_ ?_
        rotate_left
        · rintro w9 ⟨⟨⟨q0, q1, q2⟩, q3⟩, p0, p1, p2⟩
          go_simp
          try with_reducible rfl
        try simp only [List.getElem_toArray, List.getElem_cons_succ, List.getElem_cons_zero, List.getElem?_toArray, List.getElem?_cons_succ, List.getElem?_cons_zero, Act.put, List.setIfInBounds_toArray, List.set_cons_zero, List.set_cons_succ]
        refine fan_take (i := 20) (v := ?_) rfl (by kernel_rfl) (fun _ _ _ _ h => h) (by kernel_rfl) (HB.out _ b1) ?_ ?_
        rotate_left
        · rintro w9 ⟨⟨⟨q0, q1, q2⟩, q3⟩, p0, p1, p2⟩
          go_simp
          try with_reducible rfl
        try simp only [List.getElem_toArray, List.getElem_cons_succ, List.getElem_cons_zero, List.getElem?_toArray, List.getElem?_cons_succ, List.getElem?_cons_zero, Act.put, List.setIfInBounds_toArray, List.set_cons_zero, List.set_cons_succ]
        refine fan_take (i := 21) (v := ?_) rfl (by kernel_rfl) (fun _ _ _ _ h => h) (by kernel_rfl) (HB.out _ b1) ?_ ?_
        rotate_left
        · rintro w9 ⟨⟨⟨q0, q1, q2⟩, q3⟩, p0, p1, p2⟩
          go_simp
          try with_reducible rfl
        try simp only [List.getElem_toArray, List.getElem_cons_succ, List.getElem_cons_zero, List.getElem?_toArray, List.getElem?_cons_succ, List.getElem?_cons_zero, Act.put, List.setIfInBounds_toArray, List.set_cons_zero, List.set_cons_succ]
        refine fan_take (i := 22) (v := ?_) rfl (by kernel_rfl) (fun _ _ _ _ h => h) (by kernel_rfl) (HB.out _ b1) ?_ ?_
        rotate_left
        · rintro w9 ⟨⟨⟨q0, q1, q2⟩, q3⟩, p0, p1, p2⟩
          go_simp
          try with_reducible rfl
        try simp only [List.getElem_toArray, List.getElem_cons_succ, List.getElem_cons_zero, List.getElem?_toArray, List.getElem?_cons_succ, List.getElem?_cons_zero, Act.put, List.setIfInBounds_toArray, List.set_cons_zero, List.set_cons_succ]
        refine fan_take (i := 23) (v := ?_) rfl (by kernel_rfl) (fun _ _ _ _ h => h) (by kernel_rfl) (HB.out _ b1) ?_ ?_
        rotate_left
        · rintro w9 ⟨⟨⟨q0, q1, q2⟩, q3⟩, p0, p1, p2⟩
          go_simp
          try with_reducible rfl
        try simp only [List.getElem_toArray, List.getElem_cons_succ, List.getElem_cons_zero, List.getElem?_toArray, List.getElem?_cons_succ, List.getElem?_cons_zero, Act.put, List.setIfInBounds_toArray, List.set_cons_zero, List.set_cons_succ]
        refine fan_skip (i := 24) rfl (by kernel_rfl) (fun _ _ _ _ h => h) (by kernel_rfl) (HB.out _ b1) ?_
        try simp only [List.getElem_toArray, List.getElem_cons_succ, List.getElem_cons_zero, List.getElem?_toArray, List.getElem?_cons_succ, List.getElem?_cons_zero, Act.put, List.setIfInBounds_toArray, List.set_cons_zero, List.set_cons_succ]
        refine fan_skip (i := 25) rfl (by kernel_rfl) (fun _ _ _ _ h => h) (by kernel_rfl) (HB.out _ b1) ?_
        try simp only [List.getElem_toArray, List.getElem_cons_succ, List.getElem_cons_zero, List.getElem?_toArray, List.getElem?_cons_succ, List.getElem?_cons_zero, Act.put, List.setIfInBounds_toArray, List.set_cons_zero, List.set_cons_succ]
        refine fan_skip (i := 26) rfl (by kernel_rfl) (fun _ _ _ _ h => h) (by kernel_rfl) (HB.out _ b1) ?_
        try simp only [List.getElem_toArray, List.getElem_cons_succ, List.getElem_cons_zero, List.getElem?_toArray, List.getElem?_cons_succ, List.getElem?_cons_zero, Act.put, List.setIfInBounds_toArray, List.set_cons_zero, List.set_cons_succ]
        refine fan_skip (i := 27) rfl (by kernel_rfl) (fun _ _ _ _ h => h) (by kernel_rfl) (HB.out _ b1) ?_
        try simp only [List.getElem_toArray, List.getElem_cons_succ, List.getElem_cons_zero, List.getElem?_toArray, List.getElem?_cons_succ, List.getElem?_cons_zero, Act.put, List.setIfInBounds_toArray, List.set_cons_zero, List.set_cons_succ]
        refine fan_skip (i := 28) rfl (by kernel_rfl) (fun _ _ _ _ h => h) (by kernel_rfl) (HB.out _ b1) ?_
        try simp only [List.getElem_toArray, List.getElem_cons_succ, List.getElem_cons_zero, List.getElem?_toArray, List.getElem?_cons_succ, List.getElem?_cons_zero, Act.put, List.setIfInBounds_toArray, List.set_cons_zero, List.set_cons_succ]
        refine fan_skip (i := 29) rfl (by kernel_rfl) (fun _ _ _ _ h => h) (by kernel_rfl) (HB.out _ b1) ?_
        try simp only [List.getElem_toArray, List.getElem_cons_succ, List.getElem_cons_zero, List.getElem?_toArray, List.getElem?_cons_succ, List.getElem?_cons_zero, Act.put, List.setIfInBounds_toArray, List.set_cons_zero, List.set_cons_succ]
        refine fan_skip (i := 30) rfl (by kernel_rfl) (fun _ _ _ _ h => h) (by kernel_rfl) (HB.out _ b1) ?_
        try simp only [List.getElem_toArray, List.getElem_cons_succ, List.getElem_cons_zero, List.getElem?_toArray, List.getElem?_cons_succ, List.getElem?_cons_zero, Act.put, List.setIfInBounds_toArray, List.set_cons_zero, List.set_cons_succ]
        refine fan_take (i := 31) (v := ?_) rfl (by kernel_rfl) (fun _ _ _ _ h => h) (by kernel_rfl) (HB.out _ b1) ?_ ?_
        rotate_left
        · rintro w9 ⟨⟨⟨q0, q1, q2⟩, q3⟩, p0, p1, p2⟩
          go_simp
          try with_reducible rfl
        try simp only [List.getElem_toArray, List.getElem_cons_succ, List.getElem_cons_zero, List.getElem?_toArray, List.getElem?_cons_succ, List.getElem?_cons_zero, Act.put, List.setIfInBounds_toArray, List.set_cons_zero, List.set_cons_succ]
        refine fan_take (i := 32) (v := ?_) rfl (by kernel_rfl) (fun _ _ _ _ h => h) (by kernel_rfl) (HB.out _ b1) ?_ ?_
        rotate_left
        · rintro w9 ⟨⟨⟨q0, q1, q2⟩, q3⟩, p0, p1, p2⟩
          go_simp
          try with_reducible rfl
        try simp only [List.getElem_toArray, List.getElem_cons_succ, List.getElem_cons_zero, List.getElem?_toArray, List.getElem?_cons_succ, List.getElem?_cons_zero, Act.put, List.setIfInBounds_toArray, List.set_cons_zero, List.set_cons_succ]
        refine fan_take (i := 33) (v := ?_) rfl (by kernel_rfl) (fun _ _ _ _ h => h) (by kernel_rfl) (HB.out _ b1) ?_ ?_
        rotate_left
        · rintro w9 ⟨⟨⟨q0, q1, q2⟩, q3⟩, p0, p1, p2⟩
          go_simp
          try with_reducible rfl
        try simp only [List.getElem_toArray, List.getElem_cons_succ, List.getElem_cons_zero, List.getElem?_toArray, List.getElem?_cons_succ, List.getElem?_cons_zero, Act.put, List.setIfInBounds_toArray, List.set_cons_zero, List.set_cons_succ]
        refine fan_take (i := 34) (v := ?_) rfl (by kernel_rfl) (fun _ _ _ _ h => h) (by kernel_rfl) (HB.out _ b1) ?_ ?_
        rotate_left
        · rintro w9 ⟨⟨⟨q0, q1, q2⟩, q3⟩, p0, p1, p2⟩
          go_simp
          try with_reducible rfl
        try simp only [List.getElem_toArray, List.getElem_cons_succ, List.getElem_cons_zero, List.getElem?_toArray, List.getElem?_cons_succ, List.getElem?_cons_zero, Act.put, List.setIfInBounds_toArray, List.set_cons_zero, List.set_cons_succ]
        refine fan_take (i := 35) (v := ?_) rfl (by kernel_rfl) (fun _ _ _ _ h => h) (by kernel_rfl) (HB.out _ b1) ?_ ?_
        rotate_left
        · rintro w9 ⟨⟨⟨q0, q1, q2⟩, q3⟩, p0, p1, p2⟩
          go_simp
          try with_reducible rfl
        try simp only [List.getElem_toArray, List.getElem_cons_succ, List.getElem_cons_zero, List.getElem?_toArray, List.getElem?_cons_succ, List.getElem?_cons_zero, Act.put, List.setIfInBounds_toArray, List.set_cons_zero, List.set_cons_succ]
        refine fan_take (i := 36) (v := ?_) rfl (by kernel_rfl) (fun _ _ _ _ h => h) (by kernel_rfl) (HB.out _ b1) ?_ ?_
        rotate_left
        · rintro w9 ⟨⟨⟨q0, q1, q2⟩, q3⟩, p0, p1, p2⟩
          go_simp
          try with_reducible rfl
        try simp only [List.getElem_toArray, List.getElem_cons_succ, List.getElem_cons_zero, List.getElem?_toArray, List.getElem?_cons_succ, List.getElem?_cons_zero, Act.put, List.setIfInBounds_toArray, List.set_cons_zero, List.set_cons_succ]
        refine fan_take (i := 37) (v := ?_) rfl (by kernel_rfl) (fun _ _ _ _ h => h) (by kernel_rfl) (HB.out _ b1) ?_ ?_
        rotate_left
        · rintro w9 ⟨⟨⟨q0, q1, q2⟩, q3⟩, p0, p1, p2⟩
          go_simp
          try with_reducible rfl
        try simp only [List.getElem_toArray, List.getElem_cons_succ, List.getElem_cons_zero, List.getElem?_toArray, List.getElem?_cons_succ, List.getElem?_cons_zero, Act.put, List.setIfInBounds_toArray, List.set_cons_zero, List.set_cons_succ]
        refine fan_take (i := 38) (v := ?_) rfl (by kernel_rfl) (fun _ _ _ _ h => h) (by kernel_rfl) (HB.out _ b1) ?_ ?_
        rotate_left
        · rintro w9 ⟨⟨⟨q0, q1, q2⟩, q3⟩, p0, p1, p2⟩
          go_simp
          try with_reducible rfl
        try simp only [List.getElem_toArray, List.getElem_cons_succ, List.getElem_cons_zero, List.getElem?_toArray, List.getElem?_cons_succ, List.getElem?_cons_zero, Act.put, List.setIfInBounds_toArray, List.set_cons_zero, List.set_cons_succ]
        refine fan_take (i := 39) (v := ?_) rfl (by kernel_rfl) (fun _ _ _ _ h => h) (by kernel_rfl) (HB.out _ b1) ?_ ?_
        rotate_left
        · rintro w9 ⟨⟨⟨q0, q1, q2⟩, q3⟩, p0, p1, p2⟩
          go_simp
          try with_reducible rfl
        try simp only [List.getElem_toArray, List.getElem_cons_succ, List.getElem_cons_zero, List.getElem?_toArray, List.getElem?_cons_succ, List.getElem?_cons_zero, Act.put, List.setIfInBounds_toArray, List.set_cons_zero, List.set_cons_succ]
        refine fan_take (i := 40) (v := ?_) rfl (by kernel_rfl) (fun _ _ _ _ h => h) (by kernel_rfl) (HB.out _ b1) ?_ ?_
        rotate_left
        · rintro w9 ⟨⟨⟨q0, q1, q2⟩, q3⟩, p0, p1, p2⟩
          go_simp
          try with_reducible rfl
        try simp only [List.getElem_toArray, List.getElem_cons_succ, List.getElem_cons_zero, List.getElem?_toArray, List.getElem?_cons_succ, List.getElem?_cons_zero, Act.put, List.setIfInBounds_toArray, List.set_cons_zero, List.set_cons_succ]
        refine fan_done (by kernel_rfl) ?_
        show wpList _ _ _ _ _ _
        have b1q := b1
        obtain ⟨Z5, ZB, ZW⟩ := HN.out _ b1q
        obtain ⟨⟨x0, x1', x2⟩, xf⟩ := cells3v Z5
        obtain ⟨⟨y0, y1, y2⟩, _⟩ := cells3v ZB
        have xf0 := xf 0
        have xf1 := xf 1
        have xf2 := xf 2
        have ZF := hide (And.intro (below_set3v ZW zg (.int .i64 r1) (.bool r2) (.int .i64 r3)) (heap_set3v Z5 (.int .i64 r1) (.bool r2) (.int .i64 r3)))
        clear xf Z5 ZB ZW b0 b1q
        go_wp2
        go_roundw
        case rel => exact ⟨k + 1, by omega, by go_num, hide ⟨⟨r1, r2, r3⟩, ZF.out.1, ZF.out.2, FA.out⟩⟩
        case measure => simp [intOf]; omega
    · have hq : ¬ (k : Int) < (n : Int) := by omega
      obtain ⟨a, bw, -, -⟩ := hI.out
      replace bw := hide bw
      go_wp2
      go_ret
      exact ⟨rfl, bw.out⟩
end Go.Proofs.Ytccklmhagabkaaa.voteTurns
