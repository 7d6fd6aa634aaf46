/-
  The walk of the law VoteOnce, over what the program's calls say. (Written by gen16o.py.)
-/
import Derived.Deep.CutRange
import Derived.Deep.QuietTactic
import Derived.BigQuiet
import Derived.Test.YtccklmhagabkaaaFanS
import Derived.Test.YtccklmhagabkaaaStep
import Derived.Test.YtccklmhagabkaaaTail
import Derived.Test.YtccklmhagabkaaaVtK
namespace Go.Proofs.Ytccklmhagabkaaa.voteOnce
open Go.RowKit
set_option linter.unusedVariables false
set_option linter.unusedSimpArgs false

/-- make([]T, n) by its run -/
theorem wpList_make_run16 {P : Program} (w : World) {ops : Array Oper} {rest : List Oper} {o : Oper} {a : Act} {Q : Exit → Act → World → Prop} (hg : o.guard = none) (l c : Operand) (t : TypeId) (hop : o.op = Op.makeSlice t l c)
    (kl kc : IntKind) (C : Int) (n : Nat) (hl : a.eval l = .int kl C) (hc : a.eval c = .int kc C) (hC : C = (n : Int)) (_h : True = True) (v : Value) (w' : World) (hr : (Instr.makeSlice t (.int kl (n : Int)) (.int kc (n : Int))).run P w = .ok v w') (h : wpList P ops Q rest (a.put o.dst v) w') : wpList P ops Q (o :: rest) a w := by
  refine wpList_plain hg fun K hK' => ?_
  subst hC
  unfold Oper.wp
  simp [execOp, hop, hl, hc, hr, Result.andThen]
  exact hK' _ _ h
set_option maxRecDepth 100000 in
set_option maxHeartbeats 16000000 in
theorem walk0 (S : VoteSay) (w : World) (own : Int) (h0 : (Lit.int .i64 own).wf = true) (ot : Int) (h1 : (Lit.int .i64 ot).wf = true) (av : Option Addr) (len cap : Nat) (x2 : List Vq4) (g2 : SVqs16.rd w [.slice av len cap] x2) (m2 : vqsfit x2) :
    Calls Try.prog 4 #[.int .i64 own, .int .i64 ot, .slice av len cap] w fun e w' => e = .returned (.bool true) ∧ Below w.heap.size w w' := by
  obtain ⟨ve, q1, R1⟩ := g2
  obtain rfl : ve = .slice av len cap := by simpa using q1.symm
  clear q1
  have q1 : len = x2.length := by obtain ⟨_, _, q⟩ := R1.slice; simp only [Value.slice.injEq] at q; exact q.2.1
  subst q1
  have lb := R1.bd
  obtain ⟨m1a, m1b⟩ := m2
  have J1 : Hid (∀ k y, x2[k]? = some y → VqFit (vqOf y)) := fun k y h => by
    obtain ⟨f0, f1, f2, f3⟩ := m1b y (List.mem_of_getElem? h)
    exact ⟨wfj f0, wfj f1, wfj f2, wfj f3⟩
  obtain ⟨n, hn⟩ : ∃ n, n = x2.length := ⟨_, rfl⟩
  rw [← hn] at R1 lb m1a ⊢
  have KA := hide (vtalive_any S w)
  have NU : Hid (∀ w x, Calls Try.prog 11 #[.int .i64 x] w fun e w' => e = .returned (.int .i64 x) ∧ Below w.heap.size w w') := fun w x => (num16_any w x).mono fun e w' h => ⟨h.1, by rw [h.2]; exact Below.refl _ _⟩
  have KS := hide S.dec
  have KW := hide S.newer
  have jo := hide (wfj h0)
  have jt := hide (wfj h1)
  have HR : Hid (∀ U, Below w.heap.size w U → RdS SVq16 U (.slice av n cap) x2) := fun U b => R1.to0 b
  replace hn := hide hn
  clear S R1 m1b h0 h1
  go_enter Try.func4, Try.ntmps4
  go_wp2_with fail
  refine KA.out.mono ?_
  rintro e w1 ⟨rfl, b1⟩
  obtain ⟨V0, hV0, DA, bV, sV⟩ := boxedN w1 #[.int .i64 0, .bool false, .int .i64 0] 26
  have hmk := make16 (n := n) (by omega) V0
  have GM := GRow.made V0 n (by omega)
  obtain ⟨V, hV⟩ : ∃ V, V = V0.alloc (.cells (madeCells #[.int .i64 0] n) 3) := ⟨_, rfl⟩
  rw [← hV] at hmk GM
  have bV2 : Below V0.heap.size V0 V := by rw [hV]; exact (Below.refl _ _).alloc (Nat.le_refl _) _
  obtain ⟨gS, hgS⟩ : ∃ g, g = w1.heap.size := ⟨_, rfl⟩
  obtain ⟨gG, hgG⟩ : ∃ g, g = V0.heap.size := ⟨_, rfl⟩
  rw [← hgS] at DA
  rw [← hgG] at GM hmk
  have zS : w.heap.size ≤ gS := by have := b1.size; omega
  have hne : gG ≠ gS := by omega
  have hne2 : gS ≠ gG := by omega
  have zG : w.heap.size ≤ gG := by omega
  have BV := (b1.trans (bV.mono b1.size)).trans (bV2.mono (show w.heap.size ≤ V0.heap.size by omega))
  have I0 : Hid (Below w.heap.size w V ∧ V.heap[gS]? = some (.cells #[.int .i64 0, .bool false, .int .i64 0] 26 (0, 0)) ∧ GRow gG n (List.replicate n 0) V) := ⟨BV, (bV2.block _ (lt_of_block DA)).trans DA, GM⟩
  rw [hV0] at hmk
  replace hgS := hide hgS
  replace hV0 := hide hV0
  replace hV := hide hV
  clear sV hgG
  go_wp2_with (at_make; refine wpList_make_run16 _ rfl _ _ 42 rfl _ _ _ n rfl rfl rfl rfl _ _ hmk ?_)
  rw [← hgS.out]
  clear hmk KA GM DA BV bV bV2 b1 hgS hV hV0
  go_loopw [9] (fun i wr => ∃ k : Nat, k ≤ n ∧ i = .int .i64 k ∧ Hid (∃ (s : Vs) (G : List Int), Below w.heap.size w wr ∧ wr.heap[gS]? = some (.cells #[.int .i64 s.term, .bool s.has, .int .i64 s.who] 26 (0, 0)) ∧ GRow gG n G wr ∧ VsFit s ∧ VInv x2 k s G ∧ ∀ j, k ≤ j → j < n → G[j]? = some 0)) (fun i _ => n - (intOf i).toNat)
  case atStart =>
    refine ⟨0, Nat.zero_le _, rfl, hide ⟨⟨0, false, 0⟩, List.replicate n 0, I0.out.1, I0.out.2.1, I0.out.2.2, ⟨by decide, by decide⟩, vinv_zero _ _ _, fun j _ hj => ?_⟩⟩
    rw [List.getElem?_replicate, if_pos hj]
  case round =>
    obtain ⟨k, hk, rfl, hI⟩ := hrel
    clear I0
    by_cases hlt : k < n
    · have hq : (k : Int) < (n : Int) := by omega
      obtain ⟨y, hy⟩ : ∃ y, x2[k]? = some y := ⟨_, List.getElem?_eq_getElem (by rw [← hn.out]; exact hlt)⟩
      have jy := J1.out k y hy
      obtain ⟨s, G, bw, ds, hG, fs, iv, gz⟩ := hI.out
      obtain ⟨bl, ol, rfl, ct0, ct1, ct2, ct3⟩ := (HR.out wr bw).vq16 hy
      have hw := bw.size
      have KD := fun w => KS.out w s own ot (vqOf y) fs jo.out jt.out jy
      have KN := fun w => KW.out w y.2.2.1 y.2.2.2 own ot jy.l jy.u jo.out jt.out
      have ST : Hid (∀ t ok, vdec s own ot (vqOf y) = (t, ok, 0) → (VsFit t ∧ s.term ≤ t.term ∧ (ok = true → y.1 = t.term ∧ t.has = true ∧ t.who = y.2.1 ∧ vnewer y.2.2.1 y.2.2.2 own ot = true)) ∧
          (VInv x2 k t G ∧ (ok = false → VInv x2 (k + 1) t G) ∧ (ok = true → VInv x2 (k + 1) t (G.set k 1)))) := fun t ok h => ⟨vdec_said h, vinv_step hy (by rw [hG.len]; exact hlt) iv h (gz k (Nat.le_refl _) hlt)⟩
      have NX : Hid (VInv x2 (k + 1) s G ∨ True) := .inr trivial
      obtain ⟨⟨⟨r1, r2, r3⟩, ub, ue⟩, hT⟩ : ∃ D, D = vdec s own ot (vqOf y) := ⟨_, rfl⟩
      simp only [← hT] at KD
      rw [← hT] at ST
      obtain ⟨s1, s2, s3⟩ := s
      obtain ⟨y1, y2, y3, y4⟩ := y
      dsimp only [sv16, av16] at KD ds ST KN ct0 ct1 ct2 ct3
      replace KD := hide KD
      replace KN := hide KN
      have HS : Hid (∀ U, Below wr.heap.size wr U → ((U.cell? ⟨gS, 0, none⟩ = some (.int .i64 s1) ∧ U.cell? ⟨gS, 1, none⟩ = some (.bool s2) ∧ U.cell? ⟨gS, 2, none⟩ = some (.int .i64 s3)) ∧ (U.cell? ⟨bl, ol + k * 4, none⟩ = some (.int .i64 y1) ∧ U.cell? ⟨bl, ol + k * 4 + 1, none⟩ = some (.int .i64 y2) ∧ U.cell? ⟨bl, ol + k * 4 + 2, none⟩ = some (.int .i64 y3) ∧ U.cell? ⟨bl, ol + k * 4 + 3, none⟩ = some (.int .i64 y4)))) := fun U b => ⟨(cells3v ((b.block _ (lt_of_block ds)).trans ds)).1, (b.cell (cell_lt ct0)).trans ct0, (b.cell (cell_lt ct1)).trans ct1, (b.cell (cell_lt ct2)).trans ct2, (b.cell (cell_lt ct3)).trans ct3⟩
      have HBW : Hid (∀ U, Below wr.heap.size wr U → Below w.heap.size w U ∧ U.heap[gS]? = some (.cells #[.int .i64 s1, .bool s2, .int .i64 s3] 26 (0, 0)) ∧ GRow gG n G U) := fun U b => ⟨bw.trans (b.mono bw.size), (b.block _ (lt_of_block ds)).trans ds, hG.keep (b.block _ hG.lt)⟩
      have FA : Hid (VsFit ⟨s1, s2, s3⟩) := fs
      have IV : Hid (VInv x2 k ⟨s1, s2, s3⟩ G) := iv
      have GZ : Hid (∀ j, k ≤ j → j < n → G[j]? = some 0) := gz
      have b0 := (Below.refl wr.heap.size wr).drew
      have HY : Hid (x2[k]? = some (y1, y2, y3, y4)) := hy
      clear hT hI bw ds ct0 ct1 ct2 ct3 fs hy jy iv gz hG NX
      go_upto_region 8 with fail
      go_cut [10, 11, 12] from 25 to 36 (fun p u e wx => ∃ gB : Nat, p = .pointer (some ⟨gB, 0, none⟩) ∧ u = .bool ub ∧ e = .int .i64 ue ∧ Hid (Below wr.heap.size wr wx) ∧
        Hid (wx.heap[gB]? = some (.cells #[.int .i64 r1, .bool r2, .int .i64 r3] 26 (0, 0)) ∧ wr.heap.size ≤ gB))
      case first =>
        refine wp_region_fan (fun w9 => (w9.cell? ⟨gS, 0, none⟩ = some (.int .i64 s1) ∧ w9.cell? ⟨gS, 1, none⟩ = some (.bool s2) ∧ w9.cell? ⟨gS, 2, none⟩ = some (.int .i64 s3)) ∧ (w9.cell? ⟨bl, ol + k * 4, none⟩ = some (.int .i64 y1) ∧ w9.cell? ⟨bl, ol + k * 4 + 1, none⟩ = some (.int .i64 y2) ∧ w9.cell? ⟨bl, ol + k * 4 + 2, none⟩ = some (.int .i64 y3) ∧ w9.cell? ⟨bl, ol + k * 4 + 3, none⟩ = some (.int .i64 y4))) 15 mixed (by simp) ?_
        generalize wr.drew = c0 at *
        refine fan_take (i := 0) (v := ?_) rfl (by kernel_rfl) (fun _ _ _ _ h => h) (by kernel_rfl) (HS.out _ b0) ?_ ?_
        rotate_left
        · rintro w9 ⟨⟨q0, q1, q2⟩, q3, q4, q5, q6⟩
          go_simp
          try with_reducible rfl
        try simp only [List.getElem_toArray, List.getElem_cons_succ, List.getElem_cons_zero, List.getElem?_toArray, List.getElem?_cons_succ, List.getElem?_cons_zero, Act.put, List.setIfInBounds_toArray, List.set_cons_zero, List.set_cons_succ]
        refine fan_take (i := 1) (v := ?_) rfl (by kernel_rfl) (fun _ _ _ _ h => h) (by kernel_rfl) (HS.out _ b0) ?_ ?_
        rotate_left
        · rintro w9 ⟨⟨q0, q1, q2⟩, q3, q4, q5, q6⟩
          go_simp
          try with_reducible rfl
        try simp only [List.getElem_toArray, List.getElem_cons_succ, List.getElem_cons_zero, List.getElem?_toArray, List.getElem?_cons_succ, List.getElem?_cons_zero, Act.put, List.setIfInBounds_toArray, List.set_cons_zero, List.set_cons_succ]
        refine fan_take (i := 2) (v := ?_) rfl (by kernel_rfl) (fun _ _ _ _ h => h) (by kernel_rfl) (HS.out _ b0) ?_ ?_
        rotate_left
        · rintro w9 ⟨⟨q0, q1, q2⟩, q3, q4, q5, q6⟩
          go_simp
          try with_reducible rfl
        try simp only [List.getElem_toArray, List.getElem_cons_succ, List.getElem_cons_zero, List.getElem?_toArray, List.getElem?_cons_succ, List.getElem?_cons_zero, Act.put, List.setIfInBounds_toArray, List.set_cons_zero, List.set_cons_succ]
        refine fan_take (i := 3) (v := ?_) rfl (by kernel_rfl) (fun _ _ _ _ h => h) (by kernel_rfl) (HS.out _ b0) ?_ ?_
        rotate_left
        · rintro w9 ⟨⟨q0, q1, q2⟩, q3, q4, q5, q6⟩
          go_simp
          try with_reducible rfl
        try simp only [List.getElem_toArray, List.getElem_cons_succ, List.getElem_cons_zero, List.getElem?_toArray, List.getElem?_cons_succ, List.getElem?_cons_zero, Act.put, List.setIfInBounds_toArray, List.set_cons_zero, List.set_cons_succ]
        refine fan_take (i := 4) (v := ?_) rfl (by kernel_rfl) (fun _ _ _ _ h => h) (by kernel_rfl) (HS.out _ b0) ?_ ?_
        rotate_left
        · rintro w9 ⟨⟨q0, q1, q2⟩, q3, q4, q5, q6⟩
          go_simp
          try with_reducible rfl
        try simp only [List.getElem_toArray, List.getElem_cons_succ, List.getElem_cons_zero, List.getElem?_toArray, List.getElem?_cons_succ, List.getElem?_cons_zero, Act.put, List.setIfInBounds_toArray, List.set_cons_zero, List.set_cons_succ]
        refine fan_take (i := 5) (v := ?_) rfl (by kernel_rfl) (fun _ _ _ _ h => h) (by kernel_rfl) (HS.out _ b0) ?_ ?_
        rotate_left
        · rintro w9 ⟨⟨q0, q1, q2⟩, q3, q4, q5, q6⟩
          go_simp
          try with_reducible rfl
        try simp only [List.getElem_toArray, List.getElem_cons_succ, List.getElem_cons_zero, List.getElem?_toArray, List.getElem?_cons_succ, List.getElem?_cons_zero, Act.put, List.setIfInBounds_toArray, List.set_cons_zero, List.set_cons_succ]
        refine fan_take (i := 6) (v := ?_) rfl (by kernel_rfl) (fun _ _ _ _ h => h) (by kernel_rfl) (HS.out _ b0) ?_ ?_
        rotate_left
        · rintro w9 ⟨⟨q0, q1, q2⟩, q3, q4, q5, q6⟩
          go_simp
          try with_reducible rfl
        try simp only [List.getElem_toArray, List.getElem_cons_succ, List.getElem_cons_zero, List.getElem?_toArray, List.getElem?_cons_succ, List.getElem?_cons_zero, Act.put, List.setIfInBounds_toArray, List.set_cons_zero, List.set_cons_succ]
        refine fan_two 7 12 (by kernel_rfl) ?_ ?_
        · refine fan_step rfl (by kernel_rfl) fun K hK => ?_
          refine wp_call_of 7 _ _ (by rfl) #[.agg #[.int .i64 s1, .bool s2, .int .i64 s3], .int .i64 own, .int .i64 ot, .agg #[.int .i64 y1, .int .i64 y2, .int .i64 y3, .int .i64 y4]] (by simp [Act.eval]) (Try.call7 _ _) (KD.out c0) ?_
          rintro e c1 ⟨rfl, bb⟩
          have b1 := b0.trans (bb.mono b0.size)
          have zB := b0.size
          have zC := bb.size
          refine ⟨_, rfl, hK _ _ (HS.out _ b1) ?_⟩
          clear hK K
          try simp only [List.getElem_toArray, List.getElem_cons_succ, List.getElem_cons_zero, List.getElem?_toArray, List.getElem?_cons_succ, List.getElem?_cons_zero, Act.put, List.setIfInBounds_toArray, List.set_cons_zero, List.set_cons_succ]
          refine fan_take (i := 8) (v := ?_) rfl (by kernel_rfl) (fun _ _ _ _ h => h) (by kernel_rfl) (HS.out _ b1) ?_ ?_
          rotate_left
          · rintro w9 ⟨⟨q0, q1, q2⟩, q3, q4, q5, q6⟩
            go_simp
            try with_reducible rfl
          try simp only [List.getElem_toArray, List.getElem_cons_succ, List.getElem_cons_zero, List.getElem?_toArray, List.getElem?_cons_succ, List.getElem?_cons_zero, Act.put, List.setIfInBounds_toArray, List.set_cons_zero, List.set_cons_succ]
          refine fan_take (i := 9) (v := ?_) rfl (by kernel_rfl) (fun _ _ _ _ h => h) (by kernel_rfl) (HS.out _ b1) ?_ ?_
          rotate_left
          · rintro w9 ⟨⟨q0, q1, q2⟩, q3, q4, q5, q6⟩
            go_simp
            try with_reducible rfl
          try simp only [List.getElem_toArray, List.getElem_cons_succ, List.getElem_cons_zero, List.getElem?_toArray, List.getElem?_cons_succ, List.getElem?_cons_zero, Act.put, List.setIfInBounds_toArray, List.set_cons_zero, List.set_cons_succ]
          refine fan_take (i := 10) (v := ?_) rfl (by kernel_rfl) (fun _ _ _ _ h => h) (by kernel_rfl) (HS.out _ b1) ?_ ?_
          rotate_left
          · rintro w9 ⟨⟨q0, q1, q2⟩, q3, q4, q5, q6⟩
            go_simp
            try with_reducible rfl
          try simp only [List.getElem_toArray, List.getElem_cons_succ, List.getElem_cons_zero, List.getElem?_toArray, List.getElem?_cons_succ, List.getElem?_cons_zero, Act.put, List.setIfInBounds_toArray, List.set_cons_zero, List.set_cons_succ]
          refine fan_take (i := 11) (v := ?_) rfl (by kernel_rfl) (fun _ _ _ _ h => h) (by kernel_rfl) (HS.out _ b1) ?_ ?_
          rotate_left
          · rintro w9 ⟨⟨q0, q1, q2⟩, q3, q4, q5, q6⟩
            go_simp
            try with_reducible rfl
          try simp only [List.getElem_toArray, List.getElem_cons_succ, List.getElem_cons_zero, List.getElem?_toArray, List.getElem?_cons_succ, List.getElem?_cons_zero, Act.put, List.setIfInBounds_toArray, List.set_cons_zero, List.set_cons_succ]
          refine fan_one 12 (by kernel_rfl) ?_
          refine fan_step rfl (by kernel_rfl) fun K hK => ?_
          go_simp
          obtain ⟨c2, hc2, DT, bT, sT⟩ := boxedN c1 #[.int .i64 0, .bool false, .int .i64 0] 26
          rw [← hc2]
          have b2 := b1.trans (bT.mono b1.size)
          obtain ⟨gB, hgB⟩ : ∃ g, g = c1.heap.size := ⟨_, rfl⟩
          rw [← hgB] at DT ⊢
          have zU : wr.heap.size ≤ gB := by have := b1.size; omega
          have zV : gB < c2.heap.size ∧ c1.heap.size ≤ gB := by omega
          replace hgB := hide hgB
          clear sT
          refine hK _ _ (HS.out _ b2) ?_
          clear hK K hc2
          try simp only [List.getElem_toArray, List.getElem_cons_succ, List.getElem_cons_zero, List.getElem?_toArray, List.getElem?_cons_succ, List.getElem?_cons_zero, Act.put, List.setIfInBounds_toArray, List.set_cons_zero, List.set_cons_succ]
          refine fan_one 13 (by kernel_rfl) ?_
          refine fan_step rfl (by kernel_rfl) fun K hK => ?_
          obtain ⟨⟨y0, y1', y2'⟩, yf⟩ := cells3v DT
          have yf0 := yf 0
          have yf1 := yf 1
          have yf2 := yf 2
          go_simp
          obtain ⟨c3, hc3⟩ : ∃ c, c = ((c2.setCell ⟨gB, 0, none⟩ (.int .i64 r1)).setCell ⟨gB, 1, none⟩ (.bool r2)).setCell ⟨gB, 2, none⟩ (.int .i64 r3) := ⟨_, rfl⟩
          have b3_ : Below wr.heap.size wr c3 := by rw [hc3]; exact below_set3v b2 zU _ _ _
          have DU : c3.heap[gB]? = some (.cells #[.int .i64 r1, .bool r2, .int .i64 r3] 26 (0, 0)) := by rw [hc3]; exact heap_set3v DT _ _ _
          rw [← hc3]
          have DU2 := hide DU
          refine hK _ _ (HS.out _ b3_) ?_
          clear hK K hc3 y0 y1' y2' yf yf0 yf1 yf2 DU bb DT bT
          try simp only [List.getElem_toArray, List.getElem_cons_succ, List.getElem_cons_zero, List.getElem?_toArray, List.getElem?_cons_succ, List.getElem?_cons_zero, Act.put, List.setIfInBounds_toArray, List.set_cons_zero, List.set_cons_succ]
          refine fan_one 14 (by kernel_rfl) ?_
          refine fan_step rfl (by kernel_rfl) fun K hK => ?_
          go_simp
          refine hK _ _ (HS.out _ b3_) ?_
          clear hK K
          have b4 := b3_
          try simp only [List.getElem_toArray, List.getElem_cons_succ, List.getElem_cons_zero, List.getElem?_toArray, List.getElem?_cons_succ, List.getElem?_cons_zero, Act.put, List.setIfInBounds_toArray, List.set_cons_zero, List.set_cons_succ]
          refine fan_done (by kernel_rfl) ?_
          show wpList _ _ _ _ _ _
          have HV2 := hide b3_
          clear b0 b3_ zB zC
          go_wp2_with fail
          go_meet
          exact ⟨gB, rfl, rfl, rfl, HV2, hide ⟨DU2.out, zU⟩⟩
        · refine fan_step rfl (by kernel_rfl) fun K hK => ?_
          go_simp
          obtain ⟨c1, hc1, DT, bT, sT⟩ := boxedN c0 #[.int .i64 0, .bool false, .int .i64 0] 26
          rw [← hc1]
          have b1 := b0.trans (bT.mono b0.size)
          obtain ⟨gB, hgB⟩ : ∃ g, g = c0.heap.size := ⟨_, rfl⟩
          rw [← hgB] at DT ⊢
          have zU : wr.heap.size ≤ gB := by have := b0.size; omega
          have zV : gB < c1.heap.size ∧ c0.heap.size ≤ gB := by omega
          replace hgB := hide hgB
          clear sT
          refine hK _ _ (HS.out _ b1) ?_
          clear hK K hc1
          try simp only [List.getElem_toArray, List.getElem_cons_succ, List.getElem_cons_zero, List.getElem?_toArray, List.getElem?_cons_succ, List.getElem?_cons_zero, Act.put, List.setIfInBounds_toArray, List.set_cons_zero, List.set_cons_succ]
          refine fan_one 7 (by kernel_rfl) ?_
          refine fan_step rfl (by kernel_rfl) fun K hK => ?_
          refine wp_call_of 7 _ _ (by rfl) #[.agg #[.int .i64 s1, .bool s2, .int .i64 s3], .int .i64 own, .int .i64 ot, .agg #[.int .i64 y1, .int .i64 y2, .int .i64 y3, .int .i64 y4]] (by simp [Act.eval]) (Try.call7 _ _) (KD.out c1) ?_
          rintro e c2 ⟨rfl, bb⟩
          have b2 := b1.trans (bb.mono b1.size)
          have zB := b1.size
          have zC := bb.size
          refine ⟨_, rfl, hK _ _ (HS.out _ b2) ?_⟩
          clear hK K
          try simp only [List.getElem_toArray, List.getElem_cons_succ, List.getElem_cons_zero, List.getElem?_toArray, List.getElem?_cons_succ, List.getElem?_cons_zero, Act.put, List.setIfInBounds_toArray, List.set_cons_zero, List.set_cons_succ]
          refine fan_take (i := 8) (v := ?_) rfl (by kernel_rfl) (fun _ _ _ _ h => h) (by kernel_rfl) (HS.out _ b2) ?_ ?_
          rotate_left
          · rintro w9 ⟨⟨q0, q1, q2⟩, q3, q4, q5, q6⟩
            go_simp
            try with_reducible rfl
          try simp only [List.getElem_toArray, List.getElem_cons_succ, List.getElem_cons_zero, List.getElem?_toArray, List.getElem?_cons_succ, List.getElem?_cons_zero, Act.put, List.setIfInBounds_toArray, List.set_cons_zero, List.set_cons_succ]
          refine fan_take (i := 9) (v := ?_) rfl (by kernel_rfl) (fun _ _ _ _ h => h) (by kernel_rfl) (HS.out _ b2) ?_ ?_
          rotate_left
          · rintro w9 ⟨⟨q0, q1, q2⟩, q3, q4, q5, q6⟩
            go_simp
            try with_reducible rfl
          try simp only [List.getElem_toArray, List.getElem_cons_succ, List.getElem_cons_zero, List.getElem?_toArray, List.getElem?_cons_succ, List.getElem?_cons_zero, Act.put, List.setIfInBounds_toArray, List.set_cons_zero, List.set_cons_succ]
          refine fan_take (i := 10) (v := ?_) rfl (by kernel_rfl) (fun _ _ _ _ h => h) (by kernel_rfl) (HS.out _ b2) ?_ ?_
          rotate_left
          · rintro w9 ⟨⟨q0, q1, q2⟩, q3, q4, q5, q6⟩
            go_simp
            try with_reducible rfl
          try simp only [List.getElem_toArray, List.getElem_cons_succ, List.getElem_cons_zero, List.getElem?_toArray, List.getElem?_cons_succ, List.getElem?_cons_zero, Act.put, List.setIfInBounds_toArray, List.set_cons_zero, List.set_cons_succ]
          refine fan_take (i := 11) (v := ?_) rfl (by kernel_rfl) (fun _ _ _ _ h => h) (by kernel_rfl) (HS.out _ b2) ?_ ?_
          rotate_left
          · rintro w9 ⟨⟨q0, q1, q2⟩, q3, q4, q5, q6⟩
            go_simp
            try with_reducible rfl
          try simp only [List.getElem_toArray, List.getElem_cons_succ, List.getElem_cons_zero, List.getElem?_toArray, List.getElem?_cons_succ, List.getElem?_cons_zero, Act.put, List.setIfInBounds_toArray, List.set_cons_zero, List.set_cons_succ]
          refine fan_one 13 (by kernel_rfl) ?_
          refine fan_step rfl (by kernel_rfl) fun K hK => ?_
          replace DT := (bb.block gB (by omega)).trans DT
          obtain ⟨⟨y0, y1', y2'⟩, yf⟩ := cells3v DT
          have yf0 := yf 0
          have yf1 := yf 1
          have yf2 := yf 2
          go_simp
          obtain ⟨c3, hc3⟩ : ∃ c, c = ((c2.setCell ⟨gB, 0, none⟩ (.int .i64 r1)).setCell ⟨gB, 1, none⟩ (.bool r2)).setCell ⟨gB, 2, none⟩ (.int .i64 r3) := ⟨_, rfl⟩
          have b3_ : Below wr.heap.size wr c3 := by rw [hc3]; exact below_set3v b2 zU _ _ _
          have DU : c3.heap[gB]? = some (.cells #[.int .i64 r1, .bool r2, .int .i64 r3] 26 (0, 0)) := by rw [hc3]; exact heap_set3v DT _ _ _
          rw [← hc3]
          have DU2 := hide DU
          refine hK _ _ (HS.out _ b3_) ?_
          clear hK K hc3 y0 y1' y2' yf yf0 yf1 yf2 DU bb DT bT
          try simp only [List.getElem_toArray, List.getElem_cons_succ, List.getElem_cons_zero, List.getElem?_toArray, List.getElem?_cons_succ, List.getElem?_cons_zero, Act.put, List.setIfInBounds_toArray, List.set_cons_zero, List.set_cons_succ]
          refine fan_one 14 (by kernel_rfl) ?_
          refine fan_step rfl (by kernel_rfl) fun K hK => ?_
          go_simp
          refine hK _ _ (HS.out _ b3_) ?_
          clear hK K
          have b4 := b3_
          try simp only [List.getElem_toArray, List.getElem_cons_succ, List.getElem_cons_zero, List.getElem?_toArray, List.getElem?_cons_succ, List.getElem?_cons_zero, Act.put, List.setIfInBounds_toArray, List.set_cons_zero, List.set_cons_succ]
          refine fan_done (by kernel_rfl) ?_
          show wpList _ _ _ _ _ _
          have HV2 := hide b3_
          clear b0 b3_ zB zC
          go_wp2_with fail
          go_meet
          exact ⟨gB, rfl, rfl, rfl, HV2, hide ⟨DU2.out, zU⟩⟩
      case rest =>
      obtain ⟨gB, rfl, rfl, rfl, hW, hB⟩ := hcut
      clear KD b0
      go_wp2_with fail
      refine (NU.out _ _).mono ?_
      rintro e w3 ⟨rfl, b3'⟩
      have W3 := hide (hW.out.trans (b3'.mono hW.out.size))
      have HB3 : Hid (w3.heap[gB]? = some (.cells #[.int .i64 r1, .bool r2, .int .i64 r3] 26 (0, 0)) ∧ wr.heap.size ≤ gB) := ⟨(b3'.block _ (lt_of_block hB.out.1)).trans hB.out.1, hB.out.2⟩
      clear b3' hB hW
      by_cases q : ue = 0
      case neg =>
        have q' : (ue != 0) = true := by simpa using q
        have IN : Hid (VInv x2 (k + 1) ⟨s1, s2, s3⟩ G) := fun j x hj hx hg => by
          rcases Nat.lt_or_ge j k with h | h
          · exact IV.out j x h hx hg
          · have : j = k := by omega
            subst this
            rw [GZ.out j (Nat.le_refl _) hlt] at hg
            simp at hg
        replace q := hide q
        go_wp2
        go_roundw
        case rel => exact ⟨k + 1, by omega, by go_num, hide ⟨⟨s1, s2, s3⟩, G, (HBW.out _ W3.out).1, (HBW.out _ W3.out).2.1, (HBW.out _ W3.out).2.2, FA.out, IN.out, fun j h1 h2 => GZ.out j (by omega) h2⟩⟩
        case measure => simp [intOf]; omega
      subst q
      obtain ⟨⟨FT0, FT1, FT2⟩, I1, I2, I3⟩ := ST.out _ _ rfl
      have FT : Hid (VsFit ⟨r1, r2, r3⟩ ∧ s1 ≤ r1) := ⟨FT0, FT1⟩
      have HB : Hid (∀ U, Below w3.heap.size w3 U → (((U.cell? ⟨gS, 0, none⟩ = some (.int .i64 s1) ∧ U.cell? ⟨gS, 1, none⟩ = some (.bool s2) ∧ U.cell? ⟨gS, 2, none⟩ = some (.int .i64 s3)) ∧ (U.cell? ⟨bl, ol + k * 4, none⟩ = some (.int .i64 y1) ∧ U.cell? ⟨bl, ol + k * 4 + 1, none⟩ = some (.int .i64 y2) ∧ U.cell? ⟨bl, ol + k * 4 + 2, none⟩ = some (.int .i64 y3) ∧ U.cell? ⟨bl, ol + k * 4 + 3, none⟩ = some (.int .i64 y4))) ∧ (U.cell? ⟨gB, 0, none⟩ = some (.int .i64 r1) ∧ U.cell? ⟨gB, 1, none⟩ = some (.bool r2) ∧ U.cell? ⟨gB, 2, none⟩ = some (.int .i64 r3)))) := fun U b => ⟨HS.out U (W3.out.trans (b.mono W3.out.size)), (cells3v ((b.block _ (lt_of_block HB3.out.1)).trans HB3.out.1)).1⟩
      have HN : Hid (∀ U, Below w3.heap.size w3 U → U.heap[gS]? = some (.cells #[.int .i64 s1, .bool s2, .int .i64 s3] 26 (0, 0)) ∧ U.heap[gB]? = some (.cells #[.int .i64 r1, .bool r2, .int .i64 r3] 26 (0, 0)) ∧ GRow gG n G U ∧ Below w.heap.size w U) := fun U b => ⟨(HBW.out U (W3.out.trans (b.mono W3.out.size))).2.1, (b.block _ (lt_of_block HB3.out.1)).trans HB3.out.1, (HBW.out U (W3.out.trans (b.mono W3.out.size))).2.2, (HBW.out U (W3.out.trans (b.mono W3.out.size))).1⟩
      clear ST HS HBW W3 HB3 FT0
      have b0 := (Below.refl w3.heap.size w3).drew
      dsimp only at FT1
      have gle : decide (r1 < s1) = false := decide_eq_false (by omega)
      replace I1 := hide I1
      cases ub with
      | false =>
        replace I2 := hide (I2 rfl)
        clear I3 FT2
        go_upto_region 10 with fail
        refine wp_region_fan (fun w9 => ((w9.cell? ⟨gS, 0, none⟩ = some (.int .i64 s1) ∧ w9.cell? ⟨gS, 1, none⟩ = some (.bool s2) ∧ w9.cell? ⟨gS, 2, none⟩ = some (.int .i64 s3)) ∧ (w9.cell? ⟨bl, ol + k * 4, none⟩ = some (.int .i64 y1) ∧ w9.cell? ⟨bl, ol + k * 4 + 1, none⟩ = some (.int .i64 y2) ∧ w9.cell? ⟨bl, ol + k * 4 + 2, none⟩ = some (.int .i64 y3) ∧ w9.cell? ⟨bl, ol + k * 4 + 3, none⟩ = some (.int .i64 y4))) ∧ (w9.cell? ⟨gB, 0, none⟩ = some (.int .i64 r1) ∧ w9.cell? ⟨gB, 1, none⟩ = some (.bool r2) ∧ w9.cell? ⟨gB, 2, none⟩ = some (.int .i64 r3))) 48 mixed (by simp) ?_
        generalize w3.drew = c0 at *
        refine fan_take (i := 0) (v := ?_) rfl (by kernel_rfl) (fun _ _ _ _ h => h) (by kernel_rfl) (HB.out _ b0) ?_ ?_
        rotate_left
        · rintro w9 ⟨⟨⟨q0, q1, q2⟩, q3, q4, q5, q6⟩, p0, p1, p2⟩
          go_simp
          try with_reducible rfl
        try simp only [List.getElem_toArray, List.getElem_cons_succ, List.getElem_cons_zero, List.getElem?_toArray, List.getElem?_cons_succ, List.getElem?_cons_zero, Act.put, List.setIfInBounds_toArray, List.set_cons_zero, List.set_cons_succ]
        refine fan_take (i := 1) (v := ?_) rfl (by kernel_rfl) (fun _ _ _ _ h => h) (by kernel_rfl) (HB.out _ b0) ?_ ?_
        rotate_left
        · rintro w9 ⟨⟨⟨q0, q1, q2⟩, q3, q4, q5, q6⟩, p0, p1, p2⟩
          go_simp
          try with_reducible rfl
        try simp only [List.getElem_toArray, List.getElem_cons_succ, List.getElem_cons_zero, List.getElem?_toArray, List.getElem?_cons_succ, List.getElem?_cons_zero, Act.put, List.setIfInBounds_toArray, List.set_cons_zero, List.set_cons_succ]
        refine fan_take (i := 2) (v := ?_) rfl (by kernel_rfl) (fun _ _ _ _ h => h) (by kernel_rfl) (HB.out _ b0) ?_ ?_
        rotate_left
        · rintro w9 ⟨⟨⟨q0, q1, q2⟩, q3, q4, q5, q6⟩, p0, p1, p2⟩
          go_simp
          try with_reducible rfl
        try simp only [List.getElem_toArray, List.getElem_cons_succ, List.getElem_cons_zero, List.getElem?_toArray, List.getElem?_cons_succ, List.getElem?_cons_zero, Act.put, List.setIfInBounds_toArray, List.set_cons_zero, List.set_cons_succ]
        refine fan_take (i := 3) (v := ?_) rfl (by kernel_rfl) (fun _ _ _ _ h => h) (by kernel_rfl) (HB.out _ b0) ?_ ?_
        rotate_left
        · rintro w9 ⟨⟨⟨q0, q1, q2⟩, q3, q4, q5, q6⟩, p0, p1, p2⟩
          go_simp
          try with_reducible rfl
        try simp only [List.getElem_toArray, List.getElem_cons_succ, List.getElem_cons_zero, List.getElem?_toArray, List.getElem?_cons_succ, List.getElem?_cons_zero, Act.put, List.setIfInBounds_toArray, List.set_cons_zero, List.set_cons_succ]
        refine fan_take (i := 4) (v := ?_) rfl (by kernel_rfl) (fun _ _ _ _ h => h) (by kernel_rfl) (HB.out _ b0) ?_ ?_
        rotate_left
        · rintro w9 ⟨⟨⟨q0, q1, q2⟩, q3, q4, q5, q6⟩, p0, p1, p2⟩
          go_simp
          try with_reducible rfl
        try simp only [List.getElem_toArray, List.getElem_cons_succ, List.getElem_cons_zero, List.getElem?_toArray, List.getElem?_cons_succ, List.getElem?_cons_zero, Act.put, List.setIfInBounds_toArray, List.set_cons_zero, List.set_cons_succ]
        refine fan_take (i := 5) (v := ?_) rfl (by kernel_rfl) (fun _ _ _ _ h => h) (by kernel_rfl) (HB.out _ b0) ?_ ?_
        rotate_left
        · rintro w9 ⟨⟨⟨q0, q1, q2⟩, q3, q4, q5, q6⟩, p0, p1, p2⟩
          go_simp
          try with_reducible rfl
        try simp only [List.getElem_toArray, List.getElem_cons_succ, List.getElem_cons_zero, List.getElem?_toArray, List.getElem?_cons_succ, List.getElem?_cons_zero, Act.put, List.setIfInBounds_toArray, List.set_cons_zero, List.set_cons_succ]
        refine fan_take (i := 6) (v := ?_) rfl (by kernel_rfl) (fun _ _ _ _ h => h) (by kernel_rfl) (HB.out _ b0) ?_ ?_
        rotate_left
        · rintro w9 ⟨⟨⟨q0, q1, q2⟩, q3, q4, q5, q6⟩, p0, p1, p2⟩
          go_simp
          try with_reducible rfl
        try simp only [List.getElem_toArray, List.getElem_cons_succ, List.getElem_cons_zero, List.getElem?_toArray, List.getElem?_cons_succ, List.getElem?_cons_zero, Act.put, List.setIfInBounds_toArray, List.set_cons_zero, List.set_cons_succ]
        refine fan_take (i := 7) (v := ?_) rfl (by kernel_rfl) (fun _ _ _ _ h => h) (by kernel_rfl) (HB.out _ b0) ?_ ?_
        rotate_left
        · rintro w9 ⟨⟨⟨q0, q1, q2⟩, q3, q4, q5, q6⟩, p0, p1, p2⟩
          go_simp
          try with_reducible rfl
        try simp only [List.getElem_toArray, List.getElem_cons_succ, List.getElem_cons_zero, List.getElem?_toArray, List.getElem?_cons_succ, List.getElem?_cons_zero, Act.put, List.setIfInBounds_toArray, List.set_cons_zero, List.set_cons_succ]
        refine fan_skip (i := 8) rfl (by kernel_rfl) (fun _ _ _ _ h => h) (by kernel_rfl) (HB.out _ b0) ?_
        try simp only [List.getElem_toArray, List.getElem_cons_succ, List.getElem_cons_zero, List.getElem?_toArray, List.getElem?_cons_succ, List.getElem?_cons_zero, Act.put, List.setIfInBounds_toArray, List.set_cons_zero, List.set_cons_succ]
        refine fan_skip (i := 9) rfl (by kernel_rfl) (fun _ _ _ _ h => h) (by kernel_rfl) (HB.out _ b0) ?_
        try simp only [List.getElem_toArray, List.getElem_cons_succ, List.getElem_cons_zero, List.getElem?_toArray, List.getElem?_cons_succ, List.getElem?_cons_zero, Act.put, List.setIfInBounds_toArray, List.set_cons_zero, List.set_cons_succ]
        refine fan_skip (i := 10) rfl (by kernel_rfl) (fun _ _ _ _ h => h) (by kernel_rfl) (HB.out _ b0) ?_
        try simp only [List.getElem_toArray, List.getElem_cons_succ, List.getElem_cons_zero, List.getElem?_toArray, List.getElem?_cons_succ, List.getElem?_cons_zero, Act.put, List.setIfInBounds_toArray, List.set_cons_zero, List.set_cons_succ]
        refine fan_skip (i := 11) rfl (by kernel_rfl) (fun _ _ _ _ h => h) (by kernel_rfl) (HB.out _ b0) ?_
        try simp only [List.getElem_toArray, List.getElem_cons_succ, List.getElem_cons_zero, List.getElem?_toArray, List.getElem?_cons_succ, List.getElem?_cons_zero, Act.put, List.setIfInBounds_toArray, List.set_cons_zero, List.set_cons_succ]
        refine fan_skip (i := 12) rfl (by kernel_rfl) (fun _ _ _ _ h => h) (by kernel_rfl) (HB.out _ b0) ?_
        try simp only [List.getElem_toArray, List.getElem_cons_succ, List.getElem_cons_zero, List.getElem?_toArray, List.getElem?_cons_succ, List.getElem?_cons_zero, Act.put, List.setIfInBounds_toArray, List.set_cons_zero, List.set_cons_succ]
        refine fan_skip (i := 13) rfl (by kernel_rfl) (fun _ _ _ _ h => h) (by kernel_rfl) (HB.out _ b0) ?_
        try simp only [List.getElem_toArray, List.getElem_cons_succ, List.getElem_cons_zero, List.getElem?_toArray, List.getElem?_cons_succ, List.getElem?_cons_zero, Act.put, List.setIfInBounds_toArray, List.set_cons_zero, List.set_cons_succ]
        refine fan_skip (i := 14) rfl (by kernel_rfl) (fun _ _ _ _ h => h) (by kernel_rfl) (HB.out _ b0) ?_
        try simp only [List.getElem_toArray, List.getElem_cons_succ, List.getElem_cons_zero, List.getElem?_toArray, List.getElem?_cons_succ, List.getElem?_cons_zero, Act.put, List.setIfInBounds_toArray, List.set_cons_zero, List.set_cons_succ]
        refine fan_skip (i := 15) rfl (by kernel_rfl) (fun _ _ _ _ h => h) (by kernel_rfl) (HB.out _ b0) ?_
        try simp only [List.getElem_toArray, List.getElem_cons_succ, List.getElem_cons_zero, List.getElem?_toArray, List.getElem?_cons_succ, List.getElem?_cons_zero, Act.put, List.setIfInBounds_toArray, List.set_cons_zero, List.set_cons_succ]
        refine fan_skip (i := 16) rfl (by kernel_rfl) (fun _ _ _ _ h => h) (by kernel_rfl) (HB.out _ b0) ?_
        try simp only [List.getElem_toArray, List.getElem_cons_succ, List.getElem_cons_zero, List.getElem?_toArray, List.getElem?_cons_succ, List.getElem?_cons_zero, Act.put, List.setIfInBounds_toArray, List.set_cons_zero, List.set_cons_succ]
        refine fan_skip (i := 17) rfl (by kernel_rfl) (fun _ _ _ _ h => h) (by kernel_rfl) (HB.out _ b0) ?_
        try simp only [List.getElem_toArray, List.getElem_cons_succ, List.getElem_cons_zero, List.getElem?_toArray, List.getElem?_cons_succ, List.getElem?_cons_zero, Act.put, List.setIfInBounds_toArray, List.set_cons_zero, List.set_cons_succ]
        refine fan_skip (i := 18) rfl (by kernel_rfl) (fun _ _ _ _ h => h) (by kernel_rfl) (HB.out _ b0) ?_
        try simp only [List.getElem_toArray, List.getElem_cons_succ, List.getElem_cons_zero, List.getElem?_toArray, List.getElem?_cons_succ, List.getElem?_cons_zero, Act.put, List.setIfInBounds_toArray, List.set_cons_zero, List.set_cons_succ]
        refine fan_skip (i := 19) rfl (by kernel_rfl) (fun _ _ _ _ h => h) (by kernel_rfl) (HB.out _ b0) ?_
        try simp only [List.getElem_toArray, List.getElem_cons_succ, List.getElem_cons_zero, List.getElem?_toArray, List.getElem?_cons_succ, List.getElem?_cons_zero, Act.put, List.setIfInBounds_toArray, List.set_cons_zero, List.set_cons_succ]
        refine fan_skip (i := 20) rfl (by kernel_rfl) (fun _ _ _ _ h => h) (by kernel_rfl) (HB.out _ b0) ?_
        try simp only [List.getElem_toArray, List.getElem_cons_succ, List.getElem_cons_zero, List.getElem?_toArray, List.getElem?_cons_succ, List.getElem?_cons_zero, Act.put, List.setIfInBounds_toArray, List.set_cons_zero, List.set_cons_succ]
        refine fan_skip (i := 21) rfl (by kernel_rfl) (fun _ _ _ _ h => h) (by kernel_rfl) (HB.out _ b0) ?_
        try simp only [List.getElem_toArray, List.getElem_cons_succ, List.getElem_cons_zero, List.getElem?_toArray, List.getElem?_cons_succ, List.getElem?_cons_zero, Act.put, List.setIfInBounds_toArray, List.set_cons_zero, List.set_cons_succ]
        refine fan_skip (i := 22) rfl (by kernel_rfl) (fun _ _ _ _ h => h) (by kernel_rfl) (HB.out _ b0) ?_
        try simp only [List.getElem_toArray, List.getElem_cons_succ, List.getElem_cons_zero, List.getElem?_toArray, List.getElem?_cons_succ, List.getElem?_cons_zero, Act.put, List.setIfInBounds_toArray, List.set_cons_zero, List.set_cons_succ]
        refine fan_skip (i := 23) rfl (by kernel_rfl) (fun _ _ _ _ h => h) (by kernel_rfl) (HB.out _ b0) ?_
        try simp only [List.getElem_toArray, List.getElem_cons_succ, List.getElem_cons_zero, List.getElem?_toArray, List.getElem?_cons_succ, List.getElem?_cons_zero, Act.put, List.setIfInBounds_toArray, List.set_cons_zero, List.set_cons_succ]
        refine fan_skip (i := 24) rfl (by kernel_rfl) (fun _ _ _ _ h => h) (by kernel_rfl) (HB.out _ b0) ?_
        try simp only [List.getElem_toArray, List.getElem_cons_succ, List.getElem_cons_zero, List.getElem?_toArray, List.getElem?_cons_succ, List.getElem?_cons_zero, Act.put, List.setIfInBounds_toArray, List.set_cons_zero, List.set_cons_succ]
        refine fan_skip (i := 25) rfl (by kernel_rfl) (fun _ _ _ _ h => h) (by kernel_rfl) (HB.out _ b0) ?_
        try simp only [List.getElem_toArray, List.getElem_cons_succ, List.getElem_cons_zero, List.getElem?_toArray, List.getElem?_cons_succ, List.getElem?_cons_zero, Act.put, List.setIfInBounds_toArray, List.set_cons_zero, List.set_cons_succ]
        refine fan_skip (i := 26) rfl (by kernel_rfl) (fun _ _ _ _ h => h) (by kernel_rfl) (HB.out _ b0) ?_
        try simp only [List.getElem_toArray, List.getElem_cons_succ, List.getElem_cons_zero, List.getElem?_toArray, List.getElem?_cons_succ, List.getElem?_cons_zero, Act.put, List.setIfInBounds_toArray, List.set_cons_zero, List.set_cons_succ]
        refine fan_skip (i := 27) rfl (by kernel_rfl) (fun _ _ _ _ h => h) (by kernel_rfl) (HB.out _ b0) ?_
        try simp only [List.getElem_toArray, List.getElem_cons_succ, List.getElem_cons_zero, List.getElem?_toArray, List.getElem?_cons_succ, List.getElem?_cons_zero, Act.put, List.setIfInBounds_toArray, List.set_cons_zero, List.set_cons_succ]
        refine fan_skip (i := 28) rfl (by kernel_rfl) (fun _ _ _ _ h => h) (by kernel_rfl) (HB.out _ b0) ?_
        try simp only [List.getElem_toArray, List.getElem_cons_succ, List.getElem_cons_zero, List.getElem?_toArray, List.getElem?_cons_succ, List.getElem?_cons_zero, Act.put, List.setIfInBounds_toArray, List.set_cons_zero, List.set_cons_succ]
        refine fan_skip (i := 29) rfl (by kernel_rfl) (fun _ _ _ _ h => h) (by kernel_rfl) (HB.out _ b0) ?_
        try simp only [List.getElem_toArray, List.getElem_cons_succ, List.getElem_cons_zero, List.getElem?_toArray, List.getElem?_cons_succ, List.getElem?_cons_zero, Act.put, List.setIfInBounds_toArray, List.set_cons_zero, List.set_cons_succ]
        refine fan_skip (i := 30) rfl (by kernel_rfl) (fun _ _ _ _ h => h) (by kernel_rfl) (HB.out _ b0) ?_
        try simp only [List.getElem_toArray, List.getElem_cons_succ, List.getElem_cons_zero, List.getElem?_toArray, List.getElem?_cons_succ, List.getElem?_cons_zero, Act.put, List.setIfInBounds_toArray, List.set_cons_zero, List.set_cons_succ]
        refine fan_skip (i := 31) rfl (by kernel_rfl) (fun _ _ _ _ h => h) (by kernel_rfl) (HB.out _ b0) ?_
        try simp only [List.getElem_toArray, List.getElem_cons_succ, List.getElem_cons_zero, List.getElem?_toArray, List.getElem?_cons_succ, List.getElem?_cons_zero, Act.put, List.setIfInBounds_toArray, List.set_cons_zero, List.set_cons_succ]
        refine fan_skip (i := 32) rfl (by kernel_rfl) (fun _ _ _ _ h => h) (by kernel_rfl) (HB.out _ b0) ?_
        try simp only [List.getElem_toArray, List.getElem_cons_succ, List.getElem_cons_zero, List.getElem?_toArray, List.getElem?_cons_succ, List.getElem?_cons_zero, Act.put, List.setIfInBounds_toArray, List.set_cons_zero, List.set_cons_succ]
        refine fan_skip (i := 33) rfl (by kernel_rfl) (fun _ _ _ _ h => h) (by kernel_rfl) (HB.out _ b0) ?_
        try simp only [List.getElem_toArray, List.getElem_cons_succ, List.getElem_cons_zero, List.getElem?_toArray, List.getElem?_cons_succ, List.getElem?_cons_zero, Act.put, List.setIfInBounds_toArray, List.set_cons_zero, List.set_cons_succ]
        refine fan_skip (i := 34) rfl (by kernel_rfl) (fun _ _ _ _ h => h) (by kernel_rfl) (HB.out _ b0) ?_
        try simp only [List.getElem_toArray, List.getElem_cons_succ, List.getElem_cons_zero, List.getElem?_toArray, List.getElem?_cons_succ, List.getElem?_cons_zero, Act.put, List.setIfInBounds_toArray, List.set_cons_zero, List.set_cons_succ]
        refine fan_skip (i := 35) rfl (by kernel_rfl) (fun _ _ _ _ h => h) (by kernel_rfl) (HB.out _ b0) ?_
        try simp only [List.getElem_toArray, List.getElem_cons_succ, List.getElem_cons_zero, List.getElem?_toArray, List.getElem?_cons_succ, List.getElem?_cons_zero, Act.put, List.setIfInBounds_toArray, List.set_cons_zero, List.set_cons_succ]
        refine fan_skip (i := 36) rfl (by kernel_rfl) (fun _ _ _ _ h => h) (by kernel_rfl) (HB.out _ b0) ?_
        try simp only [List.getElem_toArray, List.getElem_cons_succ, List.getElem_cons_zero, List.getElem?_toArray, List.getElem?_cons_succ, List.getElem?_cons_zero, Act.put, List.setIfInBounds_toArray, List.set_cons_zero, List.set_cons_succ]
        refine fan_skip (i := 37) rfl (by kernel_rfl) (fun _ _ _ _ h => h) (by kernel_rfl) (HB.out _ b0) ?_
        try simp only [List.getElem_toArray, List.getElem_cons_succ, List.getElem_cons_zero, List.getElem?_toArray, List.getElem?_cons_succ, List.getElem?_cons_zero, Act.put, List.setIfInBounds_toArray, List.set_cons_zero, List.set_cons_succ]
        refine fan_skip (i := 38) rfl (by kernel_rfl) (fun _ _ _ _ h => h) (by kernel_rfl) (HB.out _ b0) ?_
        try simp only [List.getElem_toArray, List.getElem_cons_succ, List.getElem_cons_zero, List.getElem?_toArray, List.getElem?_cons_succ, List.getElem?_cons_zero, Act.put, List.setIfInBounds_toArray, List.set_cons_zero, List.set_cons_succ]
        refine fan_skip (i := 39) rfl (by kernel_rfl) (fun _ _ _ _ h => h) (by kernel_rfl) (HB.out _ b0) ?_
        try simp only [List.getElem_toArray, List.getElem_cons_succ, List.getElem_cons_zero, List.getElem?_toArray, List.getElem?_cons_succ, List.getElem?_cons_zero, Act.put, List.setIfInBounds_toArray, List.set_cons_zero, List.set_cons_succ]
        refine fan_skip (i := 40) rfl (by kernel_rfl) (fun _ _ _ _ h => h) (by kernel_rfl) (HB.out _ b0) ?_
        try simp only [List.getElem_toArray, List.getElem_cons_succ, List.getElem_cons_zero, List.getElem?_toArray, List.getElem?_cons_succ, List.getElem?_cons_zero, Act.put, List.setIfInBounds_toArray, List.set_cons_zero, List.set_cons_succ]
        refine fan_skip (i := 41) rfl (by kernel_rfl) (fun _ _ _ _ h => h) (by kernel_rfl) (HB.out _ b0) ?_
        try simp only [List.getElem_toArray, List.getElem_cons_succ, List.getElem_cons_zero, List.getElem?_toArray, List.getElem?_cons_succ, List.getElem?_cons_zero, Act.put, List.setIfInBounds_toArray, List.set_cons_zero, List.set_cons_succ]
        refine fan_skip (i := 42) rfl (by kernel_rfl) (fun _ _ _ _ h => h) (by kernel_rfl) (HB.out _ b0) ?_
        try simp only [List.getElem_toArray, List.getElem_cons_succ, List.getElem_cons_zero, List.getElem?_toArray, List.getElem?_cons_succ, List.getElem?_cons_zero, Act.put, List.setIfInBounds_toArray, List.set_cons_zero, List.set_cons_succ]
        refine fan_skip (i := 43) rfl (by kernel_rfl) (fun _ _ _ _ h => h) (by kernel_rfl) (HB.out _ b0) ?_
        try simp only [List.getElem_toArray, List.getElem_cons_succ, List.getElem_cons_zero, List.getElem?_toArray, List.getElem?_cons_succ, List.getElem?_cons_zero, Act.put, List.setIfInBounds_toArray, List.set_cons_zero, List.set_cons_succ]
        refine fan_one 44 (by kernel_rfl) ?_
        refine fan_pass rfl (by kernel_rfl) (HB.out _ b0) ?_
        try simp only [List.getElem_toArray, List.getElem_cons_succ, List.getElem_cons_zero, List.getElem?_toArray, List.getElem?_cons_succ, List.getElem?_cons_zero, Act.put, List.setIfInBounds_toArray, List.set_cons_zero, List.set_cons_succ]
        refine fan_skip (i := 45) rfl (by kernel_rfl) (fun _ _ _ _ h => h) (by kernel_rfl) (HB.out _ b0) ?_
        try simp only [List.getElem_toArray, List.getElem_cons_succ, List.getElem_cons_zero, List.getElem?_toArray, List.getElem?_cons_succ, List.getElem?_cons_zero, Act.put, List.setIfInBounds_toArray, List.set_cons_zero, List.set_cons_succ]
        refine fan_skip (i := 46) rfl (by kernel_rfl) (fun _ _ _ _ h => h) (by kernel_rfl) (HB.out _ b0) ?_
        try simp only [List.getElem_toArray, List.getElem_cons_succ, List.getElem_cons_zero, List.getElem?_toArray, List.getElem?_cons_succ, List.getElem?_cons_zero, Act.put, List.setIfInBounds_toArray, List.set_cons_zero, List.set_cons_succ]
        refine fan_take (i := 47) (v := ?_) rfl (by kernel_rfl) (fun _ _ _ _ h => h) (by kernel_rfl) (HB.out _ b0) ?_ ?_
        rotate_left
        · rintro w9 ⟨⟨⟨q0, q1, q2⟩, q3, q4, q5, q6⟩, p0, p1, p2⟩
          go_simp
          try with_reducible rfl
        try simp only [List.getElem_toArray, List.getElem_cons_succ, List.getElem_cons_zero, List.getElem?_toArray, List.getElem?_cons_succ, List.getElem?_cons_zero, Act.put, List.setIfInBounds_toArray, List.set_cons_zero, List.set_cons_succ]
        refine fan_done (by kernel_rfl) ?_
        show wpList _ _ _ _ _ _
        have bq := b0
        obtain ⟨Z5, ZB, ZG, ZW⟩ := HN.out _ bq
        obtain ⟨⟨xx0, xx1, xx2⟩, xf⟩ := cells3v Z5
        obtain ⟨⟨y0, y1', y2'⟩, _⟩ := cells3v ZB
        have xf0 := xf 0
        have xf1 := xf 1
        have xf2 := xf 2
        obtain ⟨X, hX⟩ : ∃ X, X = ((c0.setCell ⟨gS, 0, none⟩ (.int .i64 r1)).setCell ⟨gS, 1, none⟩ (.bool r2)).setCell ⟨gS, 2, none⟩ (.int .i64 r3) := ⟨_, rfl⟩
        have XB : Hid (Below w.heap.size w X) := by rw [hX]; exact below_set3v ZW zS _ _ _
        have XS : Hid (X.heap[gS]? = some (.cells #[.int .i64 r1, .bool r2, .int .i64 r3] 26 (0, 0))) := by rw [hX]; exact heap_set3v Z5 _ _ _
        have XG : Hid (GRow gG n G X) := by rw [hX]; exact ZG.keep (by rw [Below.heap_setCell _ _ _ _ hne, Below.heap_setCell _ _ _ _ hne, Below.heap_setCell _ _ _ _ hne])
        clear xf Z5 ZB ZG ZW bq
        go_wp2
        rw [← hX]
        go_roundw
        case rel => exact ⟨k + 1, by omega, by go_num, hide ⟨⟨r1, r2, r3⟩, G, XB.out, XS.out, XG.out, FT.out.1, I2.out, fun j h1 h2 => GZ.out j (by omega) h2⟩⟩
        case measure => simp [intOf]; omega
      | true =>
        replace I3 := hide (I3 rfl)
        obtain ⟨p1, p2, p3, p4⟩ := FT2 rfl
        dsimp only at p1 p2 p3 p4
        rw [p4] at KN
        replace p3 := p3.symm
        subst p1 p2 p3
        clear I2 p4
        go_upto_region 10 with fail
        refine wp_region_fan (fun w9 => ((w9.cell? ⟨gS, 0, none⟩ = some (.int .i64 s1) ∧ w9.cell? ⟨gS, 1, none⟩ = some (.bool s2) ∧ w9.cell? ⟨gS, 2, none⟩ = some (.int .i64 s3)) ∧ (w9.cell? ⟨bl, ol + k * 4, none⟩ = some (.int .i64 y1) ∧ w9.cell? ⟨bl, ol + k * 4 + 1, none⟩ = some (.int .i64 y2) ∧ w9.cell? ⟨bl, ol + k * 4 + 2, none⟩ = some (.int .i64 y3) ∧ w9.cell? ⟨bl, ol + k * 4 + 3, none⟩ = some (.int .i64 y4))) ∧ (w9.cell? ⟨gB, 0, none⟩ = some (.int .i64 y1) ∧ w9.cell? ⟨gB, 1, none⟩ = some (.bool true) ∧ w9.cell? ⟨gB, 2, none⟩ = some (.int .i64 y2))) 48 mixed (by simp) ?_
        generalize w3.drew = c0 at *
        refine fan_take (i := 0) (v := ?_) rfl (by kernel_rfl) (fun _ _ _ _ h => h) (by kernel_rfl) (HB.out _ b0) ?_ ?_
        rotate_left
        · rintro w9 ⟨⟨⟨q0, q1, q2⟩, q3, q4, q5, q6⟩, p0, p1, p2⟩
          go_simp
          try with_reducible rfl
        try simp only [List.getElem_toArray, List.getElem_cons_succ, List.getElem_cons_zero, List.getElem?_toArray, List.getElem?_cons_succ, List.getElem?_cons_zero, Act.put, List.setIfInBounds_toArray, List.set_cons_zero, List.set_cons_succ]
        refine fan_take (i := 1) (v := ?_) rfl (by kernel_rfl) (fun _ _ _ _ h => h) (by kernel_rfl) (HB.out _ b0) ?_ ?_
        rotate_left
        · rintro w9 ⟨⟨⟨q0, q1, q2⟩, q3, q4, q5, q6⟩, p0, p1, p2⟩
          go_simp
          try with_reducible rfl
        try simp only [List.getElem_toArray, List.getElem_cons_succ, List.getElem_cons_zero, List.getElem?_toArray, List.getElem?_cons_succ, List.getElem?_cons_zero, Act.put, List.setIfInBounds_toArray, List.set_cons_zero, List.set_cons_succ]
        refine fan_take (i := 2) (v := ?_) rfl (by kernel_rfl) (fun _ _ _ _ h => h) (by kernel_rfl) (HB.out _ b0) ?_ ?_
        rotate_left
        · rintro w9 ⟨⟨⟨q0, q1, q2⟩, q3, q4, q5, q6⟩, p0, p1, p2⟩
          go_simp
          try with_reducible rfl
        try simp only [List.getElem_toArray, List.getElem_cons_succ, List.getElem_cons_zero, List.getElem?_toArray, List.getElem?_cons_succ, List.getElem?_cons_zero, Act.put, List.setIfInBounds_toArray, List.set_cons_zero, List.set_cons_succ]
        refine fan_take (i := 3) (v := ?_) rfl (by kernel_rfl) (fun _ _ _ _ h => h) (by kernel_rfl) (HB.out _ b0) ?_ ?_
        rotate_left
        · rintro w9 ⟨⟨⟨q0, q1, q2⟩, q3, q4, q5, q6⟩, p0, p1, p2⟩
          go_simp
          try with_reducible rfl
        try simp only [List.getElem_toArray, List.getElem_cons_succ, List.getElem_cons_zero, List.getElem?_toArray, List.getElem?_cons_succ, List.getElem?_cons_zero, Act.put, List.setIfInBounds_toArray, List.set_cons_zero, List.set_cons_succ]
        refine fan_take (i := 4) (v := ?_) rfl (by kernel_rfl) (fun _ _ _ _ h => h) (by kernel_rfl) (HB.out _ b0) ?_ ?_
        rotate_left
        · rintro w9 ⟨⟨⟨q0, q1, q2⟩, q3, q4, q5, q6⟩, p0, p1, p2⟩
          go_simp
          try with_reducible rfl
        try simp only [List.getElem_toArray, List.getElem_cons_succ, List.getElem_cons_zero, List.getElem?_toArray, List.getElem?_cons_succ, List.getElem?_cons_zero, Act.put, List.setIfInBounds_toArray, List.set_cons_zero, List.set_cons_succ]
        refine fan_take (i := 5) (v := ?_) rfl (by kernel_rfl) (fun _ _ _ _ h => h) (by kernel_rfl) (HB.out _ b0) ?_ ?_
        rotate_left
        · rintro w9 ⟨⟨⟨q0, q1, q2⟩, q3, q4, q5, q6⟩, p0, p1, p2⟩
          go_simp
          try with_reducible rfl
        try simp only [List.getElem_toArray, List.getElem_cons_succ, List.getElem_cons_zero, List.getElem?_toArray, List.getElem?_cons_succ, List.getElem?_cons_zero, Act.put, List.setIfInBounds_toArray, List.set_cons_zero, List.set_cons_succ]
        refine fan_take (i := 6) (v := ?_) rfl (by kernel_rfl) (fun _ _ _ _ h => h) (by kernel_rfl) (HB.out _ b0) ?_ ?_
        rotate_left
        · rintro w9 ⟨⟨⟨q0, q1, q2⟩, q3, q4, q5, q6⟩, p0, p1, p2⟩
          go_simp
          try with_reducible rfl
        try simp only [List.getElem_toArray, List.getElem_cons_succ, List.getElem_cons_zero, List.getElem?_toArray, List.getElem?_cons_succ, List.getElem?_cons_zero, Act.put, List.setIfInBounds_toArray, List.set_cons_zero, List.set_cons_succ]
        refine fan_take (i := 7) (v := ?_) rfl (by kernel_rfl) (fun _ _ _ _ h => h) (by kernel_rfl) (HB.out _ b0) ?_ ?_
        rotate_left
        · rintro w9 ⟨⟨⟨q0, q1, q2⟩, q3, q4, q5, q6⟩, p0, p1, p2⟩
          go_simp
          try with_reducible rfl
        try simp only [List.getElem_toArray, List.getElem_cons_succ, List.getElem_cons_zero, List.getElem?_toArray, List.getElem?_cons_succ, List.getElem?_cons_zero, Act.put, List.setIfInBounds_toArray, List.set_cons_zero, List.set_cons_succ]
        refine fan_take (i := 8) (v := ?_) rfl (by kernel_rfl) (fun _ _ _ _ h => h) (by kernel_rfl) (HB.out _ b0) ?_ ?_
        rotate_left
        · rintro w9 ⟨⟨⟨q0, q1, q2⟩, q3, q4, q5, q6⟩, p0, p1, p2⟩
          go_simp
          try with_reducible rfl
        try simp only [List.getElem_toArray, List.getElem_cons_succ, List.getElem_cons_zero, List.getElem?_toArray, List.getElem?_cons_succ, List.getElem?_cons_zero, Act.put, List.setIfInBounds_toArray, List.set_cons_zero, List.set_cons_succ]
        refine fan_take (i := 9) (v := ?_) rfl (by kernel_rfl) (fun _ _ _ _ h => h) (by kernel_rfl) (HB.out _ b0) ?_ ?_
        rotate_left
        · rintro w9 ⟨⟨⟨q0, q1, q2⟩, q3, q4, q5, q6⟩, p0, p1, p2⟩
          go_simp
          try with_reducible rfl
        try simp only [List.getElem_toArray, List.getElem_cons_succ, List.getElem_cons_zero, List.getElem?_toArray, List.getElem?_cons_succ, List.getElem?_cons_zero, Act.put, List.setIfInBounds_toArray, List.set_cons_zero, List.set_cons_succ]
        refine fan_take (i := 10) (v := ?_) rfl (by kernel_rfl) (fun _ _ _ _ h => h) (by kernel_rfl) (HB.out _ b0) ?_ ?_
        rotate_left
        · rintro w9 ⟨⟨⟨q0, q1, q2⟩, q3, q4, q5, q6⟩, p0, p1, p2⟩
          go_simp
          try with_reducible rfl
        try simp only [List.getElem_toArray, List.getElem_cons_succ, List.getElem_cons_zero, List.getElem?_toArray, List.getElem?_cons_succ, List.getElem?_cons_zero, Act.put, List.setIfInBounds_toArray, List.set_cons_zero, List.set_cons_succ]
        refine fan_take (i := 11) (v := ?_) rfl (by kernel_rfl) (fun _ _ _ _ h => h) (by kernel_rfl) (HB.out _ b0) ?_ ?_
        rotate_left
        · rintro w9 ⟨⟨⟨q0, q1, q2⟩, q3, q4, q5, q6⟩, p0, p1, p2⟩
          go_simp
          try with_reducible rfl
        try simp only [List.getElem_toArray, List.getElem_cons_succ, List.getElem_cons_zero, List.getElem?_toArray, List.getElem?_cons_succ, List.getElem?_cons_zero, Act.put, List.setIfInBounds_toArray, List.set_cons_zero, List.set_cons_succ]
        refine fan_take (i := 12) (v := ?_) rfl (by kernel_rfl) (fun _ _ _ _ h => h) (by kernel_rfl) (HB.out _ b0) ?_ ?_
        rotate_left
        · rintro w9 ⟨⟨⟨q0, q1, q2⟩, q3, q4, q5, q6⟩, p0, p1, p2⟩
          go_simp
          try with_reducible rfl
        try simp only [List.getElem_toArray, List.getElem_cons_succ, List.getElem_cons_zero, List.getElem?_toArray, List.getElem?_cons_succ, List.getElem?_cons_zero, Act.put, List.setIfInBounds_toArray, List.set_cons_zero, List.set_cons_succ]
        refine fan_take (i := 13) (v := ?_) rfl (by kernel_rfl) (fun _ _ _ _ h => h) (by kernel_rfl) (HB.out _ b0) ?_ ?_
        rotate_left
        · rintro w9 ⟨⟨⟨q0, q1, q2⟩, q3, q4, q5, q6⟩, p0, p1, p2⟩
          go_simp
          try with_reducible rfl
        try simp only [List.getElem_toArray, List.getElem_cons_succ, List.getElem_cons_zero, List.getElem?_toArray, List.getElem?_cons_succ, List.getElem?_cons_zero, Act.put, List.setIfInBounds_toArray, List.set_cons_zero, List.set_cons_succ]
        refine fan_take (i := 14) (v := ?_) rfl (by kernel_rfl) (fun _ _ _ _ h => h) (by kernel_rfl) (HB.out _ b0) ?_ ?_
        rotate_left
        · rintro w9 ⟨⟨⟨q0, q1, q2⟩, q3, q4, q5, q6⟩, p0, p1, p2⟩
          go_simp
          try with_reducible rfl
        try simp only [List.getElem_toArray, List.getElem_cons_succ, List.getElem_cons_zero, List.getElem?_toArray, List.getElem?_cons_succ, List.getElem?_cons_zero, Act.put, List.setIfInBounds_toArray, List.set_cons_zero, List.set_cons_succ]
        refine fan_take (i := 15) (v := ?_) rfl (by kernel_rfl) (fun _ _ _ _ h => h) (by kernel_rfl) (HB.out _ b0) ?_ ?_
        rotate_left
        · rintro w9 ⟨⟨⟨q0, q1, q2⟩, q3, q4, q5, q6⟩, p0, p1, p2⟩
          go_simp
          try with_reducible rfl
        try simp only [List.getElem_toArray, List.getElem_cons_succ, List.getElem_cons_zero, List.getElem?_toArray, List.getElem?_cons_succ, List.getElem?_cons_zero, Act.put, List.setIfInBounds_toArray, List.set_cons_zero, List.set_cons_succ]
        refine fan_take (i := 16) (v := ?_) rfl (by kernel_rfl) (fun _ _ _ _ h => h) (by kernel_rfl) (HB.out _ b0) ?_ ?_
        rotate_left
        · rintro w9 ⟨⟨⟨q0, q1, q2⟩, q3, q4, q5, q6⟩, p0, p1, p2⟩
          go_simp
          try with_reducible rfl
        try simp only [List.getElem_toArray, List.getElem_cons_succ, List.getElem_cons_zero, List.getElem?_toArray, List.getElem?_cons_succ, List.getElem?_cons_zero, Act.put, List.setIfInBounds_toArray, List.set_cons_zero, List.set_cons_succ]
        refine fan_take (i := 17) (v := ?_) rfl (by kernel_rfl) (fun _ _ _ _ h => h) (by kernel_rfl) (HB.out _ b0) ?_ ?_
        rotate_left
        · rintro w9 ⟨⟨⟨q0, q1, q2⟩, q3, q4, q5, q6⟩, p0, p1, p2⟩
          go_simp
          try with_reducible rfl
        try simp only [List.getElem_toArray, List.getElem_cons_succ, List.getElem_cons_zero, List.getElem?_toArray, List.getElem?_cons_succ, List.getElem?_cons_zero, Act.put, List.setIfInBounds_toArray, List.set_cons_zero, List.set_cons_succ]
        refine fan_take (i := 18) (v := ?_) rfl (by kernel_rfl) (fun _ _ _ _ h => h) (by kernel_rfl) (HB.out _ b0) ?_ ?_
        rotate_left
        · rintro w9 ⟨⟨⟨q0, q1, q2⟩, q3, q4, q5, q6⟩, p0, p1, p2⟩
          go_simp
          try with_reducible rfl
        try simp only [List.getElem_toArray, List.getElem_cons_succ, List.getElem_cons_zero, List.getElem?_toArray, List.getElem?_cons_succ, List.getElem?_cons_zero, Act.put, List.setIfInBounds_toArray, List.set_cons_zero, List.set_cons_succ]
        refine fan_take (i := 19) (v := ?_) rfl (by kernel_rfl) (fun _ _ _ _ h => h) (by kernel_rfl) (HB.out _ b0) ?_ ?_
        rotate_left
        · rintro w9 ⟨⟨⟨q0, q1, q2⟩, q3, q4, q5, q6⟩, p0, p1, p2⟩
          go_simp
          try with_reducible rfl
        try simp only [List.getElem_toArray, List.getElem_cons_succ, List.getElem_cons_zero, List.getElem?_toArray, List.getElem?_cons_succ, List.getElem?_cons_zero, Act.put, List.setIfInBounds_toArray, List.set_cons_zero, List.set_cons_succ]
        refine fan_take (i := 20) (v := ?_) rfl (by kernel_rfl) (fun _ _ _ _ h => h) (by kernel_rfl) (HB.out _ b0) ?_ ?_
        rotate_left
        · rintro w9 ⟨⟨⟨q0, q1, q2⟩, q3, q4, q5, q6⟩, p0, p1, p2⟩
          go_simp
          try with_reducible rfl
        try simp only [List.getElem_toArray, List.getElem_cons_succ, List.getElem_cons_zero, List.getElem?_toArray, List.getElem?_cons_succ, List.getElem?_cons_zero, Act.put, List.setIfInBounds_toArray, List.set_cons_zero, List.set_cons_succ]
        refine fan_take (i := 21) (v := ?_) rfl (by kernel_rfl) (fun _ _ _ _ h => h) (by kernel_rfl) (HB.out _ b0) ?_ ?_
        rotate_left
        · rintro w9 ⟨⟨⟨q0, q1, q2⟩, q3, q4, q5, q6⟩, p0, p1, p2⟩
          go_simp
          try with_reducible rfl
        try simp only [List.getElem_toArray, List.getElem_cons_succ, List.getElem_cons_zero, List.getElem?_toArray, List.getElem?_cons_succ, List.getElem?_cons_zero, Act.put, List.setIfInBounds_toArray, List.set_cons_zero, List.set_cons_succ]
        refine fan_take (i := 22) (v := ?_) rfl (by kernel_rfl) (fun _ _ _ _ h => h) (by kernel_rfl) (HB.out _ b0) ?_ ?_
        rotate_left
        · rintro w9 ⟨⟨⟨q0, q1, q2⟩, q3, q4, q5, q6⟩, p0, p1, p2⟩
          go_simp
          try with_reducible rfl
        try simp only [List.getElem_toArray, List.getElem_cons_succ, List.getElem_cons_zero, List.getElem?_toArray, List.getElem?_cons_succ, List.getElem?_cons_zero, Act.put, List.setIfInBounds_toArray, List.set_cons_zero, List.set_cons_succ]
        refine fan_take (i := 23) (v := ?_) rfl (by kernel_rfl) (fun _ _ _ _ h => h) (by kernel_rfl) (HB.out _ b0) ?_ ?_
        rotate_left
        · rintro w9 ⟨⟨⟨q0, q1, q2⟩, q3, q4, q5, q6⟩, p0, p1, p2⟩
          go_simp
          try with_reducible rfl
        try simp only [List.getElem_toArray, List.getElem_cons_succ, List.getElem_cons_zero, List.getElem?_toArray, List.getElem?_cons_succ, List.getElem?_cons_zero, Act.put, List.setIfInBounds_toArray, List.set_cons_zero, List.set_cons_succ]
        refine fan_take (i := 24) (v := ?_) rfl (by kernel_rfl) (fun _ _ _ _ h => h) (by kernel_rfl) (HB.out _ b0) ?_ ?_
        rotate_left
        · rintro w9 ⟨⟨⟨q0, q1, q2⟩, q3, q4, q5, q6⟩, p0, p1, p2⟩
          go_simp
          try with_reducible rfl
        try simp only [List.getElem_toArray, List.getElem_cons_succ, List.getElem_cons_zero, List.getElem?_toArray, List.getElem?_cons_succ, List.getElem?_cons_zero, Act.put, List.setIfInBounds_toArray, List.set_cons_zero, List.set_cons_succ]
        refine fan_take (i := 25) (v := ?_) rfl (by kernel_rfl) (fun _ _ _ _ h => h) (by kernel_rfl) (HB.out _ b0) ?_ ?_
        rotate_left
        · rintro w9 ⟨⟨⟨q0, q1, q2⟩, q3, q4, q5, q6⟩, p0, p1, p2⟩
          go_simp
          try with_reducible rfl
        try simp only [List.getElem_toArray, List.getElem_cons_succ, List.getElem_cons_zero, List.getElem?_toArray, List.getElem?_cons_succ, List.getElem?_cons_zero, Act.put, List.setIfInBounds_toArray, List.set_cons_zero, List.set_cons_succ]
        refine fan_take (i := 26) (v := ?_) rfl (by kernel_rfl) (fun _ _ _ _ h => h) (by kernel_rfl) (HB.out _ b0) ?_ ?_
        rotate_left
        · rintro w9 ⟨⟨⟨q0, q1, q2⟩, q3, q4, q5, q6⟩, p0, p1, p2⟩
          go_simp
          try with_reducible rfl
        try simp only [List.getElem_toArray, List.getElem_cons_succ, List.getElem_cons_zero, List.getElem?_toArray, List.getElem?_cons_succ, List.getElem?_cons_zero, Act.put, List.setIfInBounds_toArray, List.set_cons_zero, List.set_cons_succ]
        refine fan_take (i := 27) (v := ?_) rfl (by kernel_rfl) (fun _ _ _ _ h => h) (by kernel_rfl) (HB.out _ b0) ?_ ?_
        rotate_left
        · rintro w9 ⟨⟨⟨q0, q1, q2⟩, q3, q4, q5, q6⟩, p0, p1, p2⟩
          go_simp
          try with_reducible rfl
        try simp only [List.getElem_toArray, List.getElem_cons_succ, List.getElem_cons_zero, List.getElem?_toArray, List.getElem?_cons_succ, List.getElem?_cons_zero, Act.put, List.setIfInBounds_toArray, List.set_cons_zero, List.set_cons_succ]
        refine fan_take (i := 28) (v := ?_) rfl (by kernel_rfl) (fun _ _ _ _ h => h) (by kernel_rfl) (HB.out _ b0) ?_ ?_
        rotate_left
        · rintro w9 ⟨⟨⟨q0, q1, q2⟩, q3, q4, q5, q6⟩, p0, p1, p2⟩
          go_simp
          try with_reducible rfl
        try simp only [List.getElem_toArray, List.getElem_cons_succ, List.getElem_cons_zero, List.getElem?_toArray, List.getElem?_cons_succ, List.getElem?_cons_zero, Act.put, List.setIfInBounds_toArray, List.set_cons_zero, List.set_cons_succ]
        refine fan_take (i := 29) (v := ?_) rfl (by kernel_rfl) (fun _ _ _ _ h => h) (by kernel_rfl) (HB.out _ b0) ?_ ?_
        rotate_left
        · rintro w9 ⟨⟨⟨q0, q1, q2⟩, q3, q4, q5, q6⟩, p0, p1, p2⟩
          go_simp
          try with_reducible rfl
        try simp only [List.getElem_toArray, List.getElem_cons_succ, List.getElem_cons_zero, List.getElem?_toArray, List.getElem?_cons_succ, List.getElem?_cons_zero, Act.put, List.setIfInBounds_toArray, List.set_cons_zero, List.set_cons_succ]
        refine fan_take (i := 30) (v := ?_) rfl (by kernel_rfl) (fun _ _ _ _ h => h) (by kernel_rfl) (HB.out _ b0) ?_ ?_
        rotate_left
        · rintro w9 ⟨⟨⟨q0, q1, q2⟩, q3, q4, q5, q6⟩, p0, p1, p2⟩
          go_simp
          try with_reducible rfl
        try simp only [List.getElem_toArray, List.getElem_cons_succ, List.getElem_cons_zero, List.getElem?_toArray, List.getElem?_cons_succ, List.getElem?_cons_zero, Act.put, List.setIfInBounds_toArray, List.set_cons_zero, List.set_cons_succ]
        refine fan_take (i := 31) (v := ?_) rfl (by kernel_rfl) (fun _ _ _ _ h => h) (by kernel_rfl) (HB.out _ b0) ?_ ?_
        rotate_left
        · rintro w9 ⟨⟨⟨q0, q1, q2⟩, q3, q4, q5, q6⟩, p0, p1, p2⟩
          go_simp
          try with_reducible rfl
        try simp only [List.getElem_toArray, List.getElem_cons_succ, List.getElem_cons_zero, List.getElem?_toArray, List.getElem?_cons_succ, List.getElem?_cons_zero, Act.put, List.setIfInBounds_toArray, List.set_cons_zero, List.set_cons_succ]
        refine fan_take (i := 32) (v := ?_) rfl (by kernel_rfl) (fun _ _ _ _ h => h) (by kernel_rfl) (HB.out _ b0) ?_ ?_
        rotate_left
        · rintro w9 ⟨⟨⟨q0, q1, q2⟩, q3, q4, q5, q6⟩, p0, p1, p2⟩
          go_simp
          try with_reducible rfl
        try simp only [List.getElem_toArray, List.getElem_cons_succ, List.getElem_cons_zero, List.getElem?_toArray, List.getElem?_cons_succ, List.getElem?_cons_zero, Act.put, List.setIfInBounds_toArray, List.set_cons_zero, List.set_cons_succ]
        refine fan_take (i := 33) (v := ?_) rfl (by kernel_rfl) (fun _ _ _ _ h => h) (by kernel_rfl) (HB.out _ b0) ?_ ?_
        rotate_left
        · rintro w9 ⟨⟨⟨q0, q1, q2⟩, q3, q4, q5, q6⟩, p0, p1, p2⟩
          go_simp
          try with_reducible rfl
        try simp only [List.getElem_toArray, List.getElem_cons_succ, List.getElem_cons_zero, List.getElem?_toArray, List.getElem?_cons_succ, List.getElem?_cons_zero, Act.put, List.setIfInBounds_toArray, List.set_cons_zero, List.set_cons_succ]
        refine fan_take (i := 34) (v := ?_) rfl (by kernel_rfl) (fun _ _ _ _ h => h) (by kernel_rfl) (HB.out _ b0) ?_ ?_
        rotate_left
        · rintro w9 ⟨⟨⟨q0, q1, q2⟩, q3, q4, q5, q6⟩, p0, p1, p2⟩
          go_simp
          try with_reducible rfl
        try simp only [List.getElem_toArray, List.getElem_cons_succ, List.getElem_cons_zero, List.getElem?_toArray, List.getElem?_cons_succ, List.getElem?_cons_zero, Act.put, List.setIfInBounds_toArray, List.set_cons_zero, List.set_cons_succ]
        refine fan_take (i := 35) (v := ?_) rfl (by kernel_rfl) (fun _ _ _ _ h => h) (by kernel_rfl) (HB.out _ b0) ?_ ?_
        rotate_left
        · rintro w9 ⟨⟨⟨q0, q1, q2⟩, q3, q4, q5, q6⟩, p0, p1, p2⟩
          go_simp
          try with_reducible rfl
        try simp only [List.getElem_toArray, List.getElem_cons_succ, List.getElem_cons_zero, List.getElem?_toArray, List.getElem?_cons_succ, List.getElem?_cons_zero, Act.put, List.setIfInBounds_toArray, List.set_cons_zero, List.set_cons_succ]
        refine fan_take (i := 36) (v := ?_) rfl (by kernel_rfl) (fun _ _ _ _ h => h) (by kernel_rfl) (HB.out _ b0) ?_ ?_
        rotate_left
        · rintro w9 ⟨⟨⟨q0, q1, q2⟩, q3, q4, q5, q6⟩, p0, p1, p2⟩
          go_simp
          try with_reducible rfl
        try simp only [List.getElem_toArray, List.getElem_cons_succ, List.getElem_cons_zero, List.getElem?_toArray, List.getElem?_cons_succ, List.getElem?_cons_zero, Act.put, List.setIfInBounds_toArray, List.set_cons_zero, List.set_cons_succ]
        refine fan_take (i := 37) (v := ?_) rfl (by kernel_rfl) (fun _ _ _ _ h => h) (by kernel_rfl) (HB.out _ b0) ?_ ?_
        rotate_left
        · rintro w9 ⟨⟨⟨q0, q1, q2⟩, q3, q4, q5, q6⟩, p0, p1, p2⟩
          go_simp
          try with_reducible rfl
        try simp only [List.getElem_toArray, List.getElem_cons_succ, List.getElem_cons_zero, List.getElem?_toArray, List.getElem?_cons_succ, List.getElem?_cons_zero, Act.put, List.setIfInBounds_toArray, List.set_cons_zero, List.set_cons_succ]
        refine fan_take (i := 38) (v := ?_) rfl (by kernel_rfl) (fun _ _ _ _ h => h) (by kernel_rfl) (HB.out _ b0) ?_ ?_
        rotate_left
        · rintro w9 ⟨⟨⟨q0, q1, q2⟩, q3, q4, q5, q6⟩, p0, p1, p2⟩
          go_simp
          try with_reducible rfl
        try simp only [List.getElem_toArray, List.getElem_cons_succ, List.getElem_cons_zero, List.getElem?_toArray, List.getElem?_cons_succ, List.getElem?_cons_zero, Act.put, List.setIfInBounds_toArray, List.set_cons_zero, List.set_cons_succ]
        refine fan_take (i := 39) (v := ?_) rfl (by kernel_rfl) (fun _ _ _ _ h => h) (by kernel_rfl) (HB.out _ b0) ?_ ?_
        rotate_left
        · rintro w9 ⟨⟨⟨q0, q1, q2⟩, q3, q4, q5, q6⟩, p0, p1, p2⟩
          go_simp
          try with_reducible rfl
        try simp only [List.getElem_toArray, List.getElem_cons_succ, List.getElem_cons_zero, List.getElem?_toArray, List.getElem?_cons_succ, List.getElem?_cons_zero, Act.put, List.setIfInBounds_toArray, List.set_cons_zero, List.set_cons_succ]
        refine fan_take (i := 40) (v := ?_) rfl (by kernel_rfl) (fun _ _ _ _ h => h) (by kernel_rfl) (HB.out _ b0) ?_ ?_
        rotate_left
        · rintro w9 ⟨⟨⟨q0, q1, q2⟩, q3, q4, q5, q6⟩, p0, p1, p2⟩
          go_simp
          try with_reducible rfl
        try simp only [List.getElem_toArray, List.getElem_cons_succ, List.getElem_cons_zero, List.getElem?_toArray, List.getElem?_cons_succ, List.getElem?_cons_zero, Act.put, List.setIfInBounds_toArray, List.set_cons_zero, List.set_cons_succ]
        refine fan_take (i := 41) (v := ?_) rfl (by kernel_rfl) (fun _ _ _ _ h => h) (by kernel_rfl) (HB.out _ b0) ?_ ?_
        rotate_left
        · rintro w9 ⟨⟨⟨q0, q1, q2⟩, q3, q4, q5, q6⟩, p0, p1, p2⟩
          go_simp
          try with_reducible rfl
        try simp only [List.getElem_toArray, List.getElem_cons_succ, List.getElem_cons_zero, List.getElem?_toArray, List.getElem?_cons_succ, List.getElem?_cons_zero, Act.put, List.setIfInBounds_toArray, List.set_cons_zero, List.set_cons_succ]
        refine fan_take (i := 42) (v := ?_) rfl (by kernel_rfl) (fun _ _ _ _ h => h) (by kernel_rfl) (HB.out _ b0) ?_ ?_
        rotate_left
        · rintro w9 ⟨⟨⟨q0, q1, q2⟩, q3, q4, q5, q6⟩, p0, p1, p2⟩
          go_simp
          try with_reducible rfl
        try simp only [List.getElem_toArray, List.getElem_cons_succ, List.getElem_cons_zero, List.getElem?_toArray, List.getElem?_cons_succ, List.getElem?_cons_zero, Act.put, List.setIfInBounds_toArray, List.set_cons_zero, List.set_cons_succ]
        refine fan_take (i := 43) (v := ?_) rfl (by kernel_rfl) (fun _ _ _ _ h => h) (by kernel_rfl) (HB.out _ b0) ?_ ?_
        rotate_left
        · rintro w9 ⟨⟨⟨q0, q1, q2⟩, q3, q4, q5, q6⟩, p0, p1, p2⟩
          go_simp
          try with_reducible rfl
        try simp only [List.getElem_toArray, List.getElem_cons_succ, List.getElem_cons_zero, List.getElem?_toArray, List.getElem?_cons_succ, List.getElem?_cons_zero, Act.put, List.setIfInBounds_toArray, List.set_cons_zero, List.set_cons_succ]
        refine fan_one 44 (by kernel_rfl) ?_
        refine fan_step rfl (by kernel_rfl) fun K hK => ?_
        refine wp_call_of 14 _ _ (by rfl) #[.int .i64 y3, .int .i64 y4, .int .i64 own, .int .i64 ot] (by simp [Act.eval]) (Try.call14 _ _) (KN.out c0) ?_
        rintro e c1 ⟨rfl, bb⟩
        have b1 := b0.trans (bb.mono b0.size)
        refine ⟨_, rfl, hK _ _ (HB.out _ b1) ?_⟩
        clear hK K bb
        try simp only [List.getElem_toArray, List.getElem_cons_succ, List.getElem_cons_zero, List.getElem?_toArray, List.getElem?_cons_succ, List.getElem?_cons_zero, Act.put, List.setIfInBounds_toArray, List.set_cons_zero, List.set_cons_succ]
        refine fan_take (i := 45) (v := ?_) rfl (by kernel_rfl) (fun _ _ _ _ h => h) (by kernel_rfl) (HB.out _ b1) ?_ ?_
        rotate_left
        · rintro w9 ⟨⟨⟨q0, q1, q2⟩, q3, q4, q5, q6⟩, p0, p1, p2⟩
          go_simp
          try with_reducible rfl
        try simp only [List.getElem_toArray, List.getElem_cons_succ, List.getElem_cons_zero, List.getElem?_toArray, List.getElem?_cons_succ, List.getElem?_cons_zero, Act.put, List.setIfInBounds_toArray, List.set_cons_zero, List.set_cons_succ]
        refine fan_take (i := 46) (v := ?_) rfl (by kernel_rfl) (fun _ _ _ _ h => h) (by kernel_rfl) (HB.out _ b1) ?_ ?_
        rotate_left
        · rintro w9 ⟨⟨⟨q0, q1, q2⟩, q3, q4, q5, q6⟩, p0, p1, p2⟩
          go_simp
          try with_reducible rfl
        try simp only [List.getElem_toArray, List.getElem_cons_succ, List.getElem_cons_zero, List.getElem?_toArray, List.getElem?_cons_succ, List.getElem?_cons_zero, Act.put, List.setIfInBounds_toArray, List.set_cons_zero, List.set_cons_succ]
        refine fan_take (i := 47) (v := ?_) rfl (by kernel_rfl) (fun _ _ _ _ h => h) (by kernel_rfl) (HB.out _ b1) ?_ ?_
        rotate_left
        · rintro w9 ⟨⟨⟨q0, q1, q2⟩, q3, q4, q5, q6⟩, p0, p1, p2⟩
          go_simp
          try with_reducible rfl
        try simp only [List.getElem_toArray, List.getElem_cons_succ, List.getElem_cons_zero, List.getElem?_toArray, List.getElem?_cons_succ, List.getElem?_cons_zero, Act.put, List.setIfInBounds_toArray, List.set_cons_zero, List.set_cons_succ]
        refine fan_done (by kernel_rfl) ?_
        show wpList _ _ _ _ _ _
        have bq := b1
        obtain ⟨Z5, ZB, ZG, ZW⟩ := HN.out _ bq
        obtain ⟨⟨xx0, xx1, xx2⟩, xf⟩ := cells3v Z5
        obtain ⟨⟨y0, y1', y2'⟩, _⟩ := cells3v ZB
        have xf0 := xf 0
        have xf1 := xf 1
        have xf2 := xf 2
        obtain ⟨X, hX⟩ : ∃ X, X = ((c1.setCell ⟨gS, 0, none⟩ (.int .i64 y1)).setCell ⟨gS, 1, none⟩ (.bool true)).setCell ⟨gS, 2, none⟩ (.int .i64 y2) := ⟨_, rfl⟩
        have XB : Hid (Below w.heap.size w X) := by rw [hX]; exact below_set3v ZW zS _ _ _
        have XS : Hid (X.heap[gS]? = some (.cells #[.int .i64 y1, .bool true, .int .i64 y2] 26 (0, 0))) := by rw [hX]; exact heap_set3v Z5 _ _ _
        have XG : Hid (GRow gG n G X) := by rw [hX]; exact ZG.keep (by rw [Below.heap_setCell _ _ _ _ hne, Below.heap_setCell _ _ _ _ hne, Below.heap_setCell _ _ _ _ hne])
        clear xf Z5 ZB ZG ZW bq
        have gf := GRow.frozen XG.out k
        have gz := GRow.cell XG.out (GZ.out k (Nat.le_refl _) hlt)
        have hk2 : (k : Int) < (n : Int) := hq
        have hk0 : (0 : Int) ≤ (k : Int) := by omega
        have YB : Hid (Below w.heap.size w (X.setCell ⟨gG, k, none⟩ (.int .i64 1))) := XB.out.setCell (p := ⟨gG, k, none⟩) zG _
        have YS : Hid ((X.setCell ⟨gG, k, none⟩ (.int .i64 1)).heap[gS]? = some (.cells #[.int .i64 y1, .bool true, .int .i64 y2] 26 (0, 0))) := (Below.heap_setCell X ⟨gG, k, none⟩ (.int .i64 1) gS hne2).trans XS.out
        have YG : Hid (GRow gG n (G.set k 1) (X.setCell ⟨gG, k, none⟩ (.int .i64 1))) := XG.out.put k 1
        have hX2 := hide hX
        rw [hX] at gf gz
        go_wp2_with fail
        rw [← hX]
        go_loopw [13] (fun i wq => ∃ m : Nat, m ≤ k ∧ i = .int .i64 m ∧ Hid (Below (X.setCell ⟨gG, k, none⟩ (.int .i64 1)).heap.size (X.setCell ⟨gG, k, none⟩ (.int .i64 1)) wq)) (fun i _ => k - (intOf i).toNat)
        case atStart => exact ⟨0, Nat.zero_le _, rfl, hide (Below.refl _ _)⟩
        case round =>
          obtain ⟨m, hm, rfl, hJ⟩ := hrel
          by_cases hmk : m < k
          · have hq2 : (m : Int) < (k : Int) := by omega
            have hq3 : (m : Int) < (n : Int) := by omega
            obtain ⟨v, hv⟩ : ∃ v, x2[m]? = some v := ⟨_, List.getElem?_eq_getElem (by rw [← hn.out]; omega)⟩
            have B5 := YB.out.trans (hJ.out.mono YB.out.size)
            obtain ⟨bl', ol', e', v0, v1, v2, v3⟩ := (HR.out wr B5).vq16 hv
            simp only [Option.some.injEq, Addr.mk.injEq, and_true] at e'
            obtain ⟨rfl, rfl⟩ := e'
            obtain ⟨_, _, e', z0, z1, z2, z3⟩ := (HR.out wr B5).vq16 HY.out
            simp only [Option.some.injEq, Addr.mk.injEq, and_true] at e'
            obtain ⟨rfl, rfl⟩ := e'
            have YGq := YG.out.keep (hJ.out.block _ YG.out.lt)
            obtain ⟨gv, hgv⟩ : ∃ z, (G.set k 1)[m]? = some z := ⟨_, List.getElem?_eq_getElem (by rw [YGq.len]; omega)⟩
            have gc := YGq.cell hgv
            have SAME : Hid (gv = 1 → v.1 = y1 → v.2.1 = y2) := fun h1 h2 => vinv_same I3.out hmk hv (by rw [hgv, h1]) h2 rfl
            dsimp only at z0 z1 z2 z3
            clear hv hgv YGq B5
            obtain ⟨va, vb, vc, vd⟩ := v
            dsimp only at v0 v1 v2 v3 SAME
            have NEXT : Hid (∀ q, Below (X.setCell ⟨gG, k, none⟩ (.int .i64 1)).heap.size (X.setCell ⟨gG, k, none⟩ (.int .i64 1)) (wr.drewN q)) := fun q => hJ.out.trans (below_drewN' wr q _)
            by_cases h1 : gv = 1
            · subst h1
              by_cases h2 : va = y1
              · have h3 := SAME.out rfl h2
                subst h2 h3
                clear SAME
                go_upto_region 18 with fail
                go_quiet (fail)
                go_wp2
                go_roundw
                case rel => exact ⟨m + 1, by omega, by go_num, hide (NEXT.out _)⟩
                case measure => simp [intOf]; omega
              · have h2' : (va == y1) = false := by simpa using h2
                replace h2 := hide h2
                clear SAME
                go_upto_region 18 with fail
                go_quiet (fail)
                go_wp2
                go_roundw
                case rel => exact ⟨m + 1, by omega, by go_num, hide (NEXT.out _)⟩
                case measure => simp [intOf]; omega
            · have h1' : (gv == 1) = false := by simpa using h1
              replace h1 := hide h1
              clear SAME
              go_upto_region 18 with fail
              go_quiet (fail)
              go_wp2
              go_roundw
              case rel => exact ⟨m + 1, by omega, by go_num, hide (NEXT.out _)⟩
              case measure => simp [intOf]; omega
          · have hq2 : ¬ (m : Int) < (k : Int) := by omega
            have B5 := hide (YB.out.trans (hJ.out.mono YB.out.size))
            have S5 := hide ((hJ.out.block _ (lt_of_block YS.out)).trans YS.out)
            have G5 := hide (YG.out.keep (hJ.out.block _ YG.out.lt))
            go_wp2
            go_roundw
            case rel => exact ⟨k + 1, by omega, by go_num, hide ⟨⟨y1, true, y2⟩, G.set k 1, B5.out, S5.out, G5.out, FT.out.1, I3.out, fun j h1 h2 => by rw [List.getElem?_set_ne (by omega)]; exact GZ.out j (by omega) h2⟩⟩
            case measure => simp [intOf]; omega
    · have hq : ¬ (k : Int) < (n : Int) := by omega
      obtain ⟨s, G, bw, -⟩ := hI.out
      replace bw := hide bw
      go_wp2
      go_ret
      exact ⟨rfl, bw.out⟩
end Go.Proofs.Ytccklmhagabkaaa.voteOnce
