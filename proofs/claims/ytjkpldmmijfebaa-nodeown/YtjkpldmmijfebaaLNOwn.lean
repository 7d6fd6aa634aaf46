/-
  PROVED: whatever node comes in, transeptlaw09.NodeOwn returns true and leaves it as it was: the statement of P9.6 (what is answered is its holder's).
-/
import Derived.Test.YtjkpldmmijfebaaNIn
import Derived.Test.YtjkpldmmijfebaaNAl
import Derived.Test.YtjkpldmmijfebaaNEq
import Derived.Test.YtjkpldmmijfebaaNPK
namespace Go.Proofs.Ytjkpldmmijfebaa.nodeOwn
open Go.ChangeShapes Go.WideShapes Go.ChangeAt Go.RowKit
set_option linter.unusedVariables false
set_option linter.unusedSimpArgs false

theorem half_len (n : Nd) : (nlow' n).keys.length ≤ n.keys.length ∧ (nhigh' n).keys.length ≤ n.keys.length := by
  unfold nlow' nhigh'
  split
  · unfold nlow nhigh
    cases n.leaf <;> simp <;> omega
  · simp [none9]
theorem zz_next {w : World} {g k : Nat} {cur : Array Value} {t : TypeId} (h : w.heap[g]? = some (.cells cur t (0, 0))) (v : Value) : ∃ cur', (w.setCell ⟨g, k, none⟩ v).heap[g]? = some (.cells cur' t (0, 0)) ∧ cur'.size = cur.size := by
  simp [World.setCell, Array.getElem?_modify, h]
theorem zz_cell {w : World} {g k : Nat} {cur : Array Value} {t : TypeId} (h : w.heap[g]? = some (.cells cur t (0, 0))) (hk : k < cur.size) : (∃ u, w.cell? ⟨g, k, none⟩ = some u) ∧ w.frozen? ⟨g, k, none⟩ = false := by
  refine ⟨⟨cur[k], ?_⟩, by simp [World.frozen?, h]⟩
  rw [cell_of_row _ _ k _ _ (0, 0) h]
  simp [hk]


set_option maxRecDepth 100000 in
set_option maxHeartbeats 8000000 in
theorem walk (w : World) (cs0 : Array Value) (x0 : Nd4) (g0 : SNode.rd w cs0.toList x0) (m0 : nd4fit x0) :
    Calls Try.prog 6 #[.agg cs0] w fun e w' => e = .returned (.bool true) ∧ Below w.heap.size w w' := by
  obtain ⟨kv, vv, dv, rfl, R0, hbig⟩ := node_form g0 m0
  obtain ⟨n, hn⟩ : ∃ n, n = ndOf x0 := ⟨_, rfl⟩
  rw [show x0.1 = n.leaf by rw [hn]]
  rw [← hn] at R0 hbig
  clear g0 m0 hn
  have lkb := R0.keys.bd
  obtain ⟨ak, ck, av, cv, ad, cd, rfl, rfl, rfl⟩ := R0.slices
  obtain ⟨W, hW, D, bW, sW⟩ := boxedN w #[.bool n.leaf, .slice ak n.keys.length ck, .slice av n.vals.length cv, .slice ad n.kids.length cd] 25
  have HD : Hid (∀ U, Below W.heap.size W U → (U.cell? ⟨w.heap.size, 0, none⟩ = some (.bool n.leaf) ∧ U.cell? ⟨w.heap.size, 1, none⟩ = some (.slice ak n.keys.length ck) ∧ U.cell? ⟨w.heap.size, 2, none⟩ = some (.slice av n.vals.length cv) ∧ U.cell? ⟨w.heap.size, 3, none⟩ = some (.slice ad n.kids.length cd))) := fun U b => (cells4 ((b.block _ (lt_of_block D)).trans D)).1
  have HR : Hid (∀ U, Below W.heap.size W U → RdN U (.slice ak n.keys.length ck) (.slice av n.vals.length cv) (.slice ad n.kids.length cd) n) := fun U b => R0.to (bW.trans (b.mono bW.size))
  have HE : Hid (∀ U, Below W.heap.size W U → Below w.heap.size w U) := fun U b => bW.trans (b.mono bW.size)
  have hb := hide hbig
  clear R0 bW D hbig
  go_enter Try.func6, Try.ntmps6
  go_wp2_with fail
  rw [← hW]
  replace hW := hide hW
  refine (alive9_any W).mono ?_
  rintro e w1 ⟨rfl, b1⟩
  have B1 := hide b1
  obtain ⟨D0, D1, D2, D3⟩ := HD.out w1 b1
  clear b1
  go_wp2_with fail
  clear D0 D1 D2 D3
  refine (of9_any w1 _ _ _ n (HR.out w1 B1.out) hb.out).mono ?_
  rintro e w2 ⟨k2, v2, d2, rfl, o2, b2⟩
  have B2 := hide (B1.out.trans (b2.mono B1.out.size))
  obtain ⟨xk, yk, xv, yv, xd, yd, hk2, hv2, hd2⟩ := o2.rd.slices
  subst hk2 hv2 hd2
  obtain ⟨V2, hV2, E2, bV2, sV2⟩ := boxedN w2 #[.bool n.leaf, .slice xk n.keys.length yk, .slice xv n.vals.length yv, .slice xd n.kids.length yd] 26
  have x0 := (cells4 E2).1.1
  have x1 := (cells4 E2).1.2.1
  have x2 := (cells4 E2).1.2.2.1
  have x3 := (cells4 E2).1.2.2.2
  have BV2 := hide (B2.out.trans (bV2.mono B2.out.size))
  have O2 := hide (o2.to bV2)
  have XB := hide E2
  have SV2 := hide sV2
  have KS := hide (psplit9_any V2 _ _ _ n O2.out.rd hb.out.fit)
  have S2 := hide b2.size
  clear o2 b2 E2 bV2 sV2
  dsimp only [nv] at *
  rw [hV2] at x0 x1 x2 x3
  go_wp2_with fail
  rw [← hV2]
  clear x0 x1 x2 x3
  replace hV2 := hide hV2
  refine KS.out.mono ?_
  rintro e w3 ⟨k3, v3, d3, k4, v4, d4, rfl, o3, o4, b3⟩
  clear KS
  have B3 := hide (BV2.out.trans (b3.mono BV2.out.size))
  have S3 := hide b3.size
  obtain ⟨P, hP⟩ : ∃ P, P = nlow' n := ⟨_, rfl⟩
  obtain ⟨Q, hQ⟩ : ∃ Q, Q = nhigh' n := ⟨_, rfl⟩
  obtain ⟨M, hM⟩ : ∃ M, M = nmid' n := ⟨_, rfl⟩
  obtain ⟨ER, hER⟩ : ∃ ER, ER = nsplit n := ⟨_, rfl⟩
  rw [← hP] at o3 ⊢
  rw [← hQ] at o4 ⊢
  rw [← hM, ← hER]
  replace hP := hide hP
  replace hQ := hide hQ
  replace hM := hide hM
  replace hER := hide hER
  obtain ⟨pk, qk, pv, qv, pd, qd, hk3, hv3, hd3⟩ := o3.rd.slices
  obtain ⟨rk, sk, rv, sv, rd, sd, hk4, hv4, hd4⟩ := o4.rd.slices
  subst hk3 hv3 hd3 hk4 hv4 hd4
  obtain ⟨V3, hV3, EA, EB, bV3, sV3⟩ := boxes4p w3 (.bool P.leaf) (.slice pk P.keys.length qk) (.slice pv P.vals.length qv) (.slice pd P.kids.length qd) (.bool Q.leaf) (.slice rk Q.keys.length sk) (.slice rv Q.vals.length sv) (.slice rd Q.kids.length sd) 26 26
  have BV3 := hide (B3.out.trans (bV3.mono B3.out.size))
  have O3 := hide (o3.to bV3)
  have O4 := hide (o4.to bV3)
  have AB := hide EA
  have BB := hide EB
  have SV3 := hide sV3
  have T3 := hide (b3.trans (bV3.mono b3.size))
  clear o3 o4 b3 bV3 sV3
  by_cases he : ER = 0
  · subst he
    have hkk : 2 ≤ n.keys.length := by
      have h1 := hER.out
      unfold nsplit at h1
      by_cases hz : ncheck n = 0
      · rw [if_pos hz] at h1
        by_cases hf : nfew n
        · rw [if_pos hf] at h1; cases h1
        · unfold nfew at hf; omega
      · rw [if_neg hz] at h1; exact absurd h1.symm hz
    obtain ⟨g, hxk, hg1, hg2, cur, hcur, hcs⟩ : ∃ g, xk = some ⟨g, 0, none⟩ ∧ w1.heap.size ≤ g ∧ g < w2.heap.size ∧ ∃ cur : Array Value, V2.heap[g]? = some (.cells cur 9 (0, 0)) ∧ n.keys.length ≤ cur.size := by
      rcases O2.out.keys.2 with ⟨_, h0⟩ | ⟨g, cap, cur, hv, hb', hg, hn, hm, hs, ht⟩
      · omega
      · simp only [Value.slice.injEq] at hv
        refine ⟨g, hv.1, hb', ?_, cur, hg, by omega⟩
        have h1 := lt_of_block hg
        have h2 := SV2.out
        rcases Nat.lt_or_ge g w2.heap.size with h | h
        · exact h
        · exfalso
          have e : g = w2.heap.size := by omega
          subst e
          have h3 := XB.out
          rw [hg] at h3
          simp at h3
    subst hxk
    have hgb := hide ((T3.out.block g (by have := SV2.out; omega)).trans hcur)
    have XB3 := hide ((T3.out.block w2.heap.size (by have := SV2.out; omega)).trans XB.out)
    have lens := half_len n
    rw [← hP.out, ← hQ.out] at lens
    have hbk := hb.out.1
    have HS : Hid (∀ w9, Below V3.heap.size V3 w9 → w9.cell? ⟨w3.heap.size, 1, none⟩ = some (.slice pk P.keys.length qk) ∧ w9.cell? ⟨w3.heap.size + 1, 1, none⟩ = some (.slice rk Q.keys.length sk)) := fun w9 b9 =>
      ⟨(cells4 ((b9.block _ (lt_of_block AB.out)).trans AB.out)).1.2.1, (cells4 ((b9.block _ (lt_of_block BB.out)).trans BB.out)).1.2.1⟩
    have K1 := hide (fun w9 (b9 : Below V3.heap.size V3 w9) => copyStr_sl w9 _ P.keys ((O3.out.to b9).rd.keys) (by omega))
    have K2 := hide (fun w9 (b9 : Below V3.heap.size V3 w9) => copyStr_sl w9 _ Q.keys ((O4.out.to b9).rd.keys) (by omega))
    have b0 : Below V3.heap.size V3 V3.drew := (Below.refl _ _).drew
    go_wp2_with fail
    rw [← hV3]
    replace hV3 := hide hV3
    refine (num9_any _ _).mono ?_
    rintro e w' ⟨rfl, rfl⟩
    clear lens hbk
    go_wp2
    refine wp_region_sched (fun w9 => w9.cell? ⟨w3.heap.size, 1, none⟩ = some (.slice pk P.keys.length qk) ∧ w9.cell? ⟨w3.heap.size + 1, 1, none⟩ = some (.slice rk Q.keys.length sk)) [(0, true), (1, true), (3, true), (4, true), (2, false), (5, false)] 6 mixed (by kernel_rfl) (fun _ _ _ _ h => h) ?_
    iterate 4
      refine sched_take (v := ?_) rfl (by kernel_rfl) (HS.out _ b0) ?_ ?_
      rotate_left
      · rintro w9 ⟨r1, r2⟩
        go_simp
        try with_reducible rfl
      try simp only [Act.put, List.setIfInBounds_toArray, List.set_cons_zero, List.set_cons_succ]
    refine sched_run rfl (by kernel_rfl) fun K hK => ?_
    refine wp_call_of 19 _ _ (by rfl) #[.slice pk P.keys.length qk] (by simp [Act.eval]) (Try.call19 _ _) (K1.out V3.drew b0) ?_
    rintro e w5 ⟨tp, dp, rfl, o5, b5⟩
    have d5 : Below V3.heap.size V3 w5 := b0.trans (b5.mono b0.size)
    refine ⟨_, rfl, hK _ _ (HS.out _ d5) ?_⟩
    clear hK K
    try simp only [Act.put, List.setIfInBounds_toArray, List.set_cons_zero, List.set_cons_succ]
    refine sched_run rfl (by kernel_rfl) fun K hK => ?_
    refine wp_call_of 19 _ _ (by rfl) #[.slice rk Q.keys.length sk] (by simp [Act.eval]) (Try.call19 _ _) (K2.out w5 d5) ?_
    rintro e w6 ⟨tq, dq, rfl, o6, b6⟩
    have d6 : Below V3.heap.size V3 w6 := d5.trans (b6.mono d5.size)
    refine ⟨_, rfl, hK _ _ (HS.out _ d6) ?_⟩
    clear hK K
    try simp only [Act.put, List.setIfInBounds_toArray, List.set_cons_zero, List.set_cons_succ]
    have sz : w2.heap.size < V2.heap.size ∧ V2.heap.size ≤ V3.heap.size := ⟨by have := SV2.out; omega, T3.out.size⟩
    have RP : Hid (OwnT (w2.heap.size) w6 (.slice tp P.keys.length dp) P.keys) := rows_mono (rows_to o5 b6) (by have := b0.size; omega)
    have RQ : Hid (OwnT (w2.heap.size) w6 (.slice tq Q.keys.length dq) Q.keys) := rows_mono o6 (by have := d5.size; omega)
    have RA : Hid (OwnT (w2.heap.size) w6 (.slice pk P.keys.length qk) P.keys) := rows_mono ((O3.out.to d6).keys) (by omega)
    have RB : Hid (OwnT (w2.heap.size) w6 (.slice rk Q.keys.length sk) Q.keys) := rows_mono ((O4.out.to d6).keys) (by omega)
    have G6 := hide ((d6.block g (by omega)).trans hgb.out)
    have X6 := hide ((d6.block w2.heap.size (by omega)).trans XB3.out)
    have A6 := hide ((d6.block w3.heap.size (lt_of_block AB.out)).trans AB.out)
    have C6 := hide ((d6.block (w3.heap.size + 1) (lt_of_block BB.out)).trans BB.out)
    have B6 := hide (HE.out _ (BV3.out.trans (d6.mono BV3.out.size)))
    have S6 := hide (And.intro d6.size B6.out.size)
    have sw1 := hide (HE.out _ B1.out).size
    clear o5 o6 b5 b6 d5 d6 K1 K2 HS
    show wpList _ _ _ _ _ _
    dsimp only [List.drop]
    go_wp2
    go_loopw [10] (fun i wr => ∃ k : Nat, k ≤ n.keys.length ∧ i = .int .i64 k ∧ Hid (KpG g w6 wr ∧ ∃ cur' : Array Value, wr.heap[g]? = some (.cells cur' 9 (0, 0)) ∧ n.keys.length ≤ cur'.size)) (fun i _ => n.keys.length - (intOf i).toNat)
    case atStart => exact ⟨0, Nat.zero_le _, rfl, hide ⟨KpG.refl _ _, cur, G6.out, hcs⟩⟩
    case round =>
      obtain ⟨k, hk, rfl, hI⟩ := hrel
      have hw3 : w2.heap.size < w3.heap.size := by have := S3.out; omega
      have X7 := (cells4 ((hI.out.1.1 w2.heap.size (lt_of_block X6.out) (by omega)).trans X6.out)).1.2.1
      by_cases hlt : k < n.keys.length
      · have hq : (k : Int) < (n.keys.length : Int) := by omega
        have nx : Hid (∀ v : Value, KpG g w6 (wr.setCell ⟨g, k, none⟩ v) ∧ ∃ cur' : Array Value, (wr.setCell ⟨g, k, none⟩ v).heap[g]? = some (.cells cur' 9 (0, 0)) ∧ n.keys.length ≤ cur'.size) := fun v => by
          obtain ⟨c1, h1, h2⟩ := hI.out.2
          obtain ⟨c2, h3, h4⟩ := zz_next (k := k) h1 v
          exact ⟨hI.out.1.set k v, c2, h3, by omega⟩
        obtain ⟨⟨u, zc⟩, zf⟩ : (∃ u, wr.cell? ⟨g, k, none⟩ = some u) ∧ wr.frozen? ⟨g, k, none⟩ = false := by
          obtain ⟨c1, h1, h2⟩ := hI.out.2
          exact zz_cell h1 (by omega)
        go_wp2
        go_roundw
        case rel => exact ⟨k + 1, by omega, by go_num, hide (nx.out _)⟩
        case measure => simp [intOf]; omega
      · have hq : ¬ (k : Int) < (n.keys.length : Int) := by omega
        have A7 := (cells4 ((hI.out.1.1 w3.heap.size (lt_of_block A6.out) (by omega)).trans A6.out)).1.2.1
        have C7 := (cells4 ((hI.out.1.1 (w3.heap.size + 1) (lt_of_block C6.out) (by omega)).trans C6.out)).1.2.1
        have KA := hide (sameStr_any wr _ _ P.keys P.keys (OwnT.rd (hI.out.1.row RA.out hg2)) (OwnT.rd (hI.out.1.row RP.out hg2)))
        have KB := hide (fun m => sameStr_any (wr.drewN m) _ _ Q.keys Q.keys (OwnT.rd (rows_to (hI.out.1.row RB.out hg2) (below_drewN' wr m _))) (OwnT.rd (rows_to (hI.out.1.row RQ.out hg2) (below_drewN' wr m _))))
        rw [show decide (P.keys = P.keys) = true by simp] at KA
        simp only [decide_true] at KB
        have BL := hide (B6.out.trans (hI.out.1.2.2 w.heap.size (by have := sw1.out; omega) (by have := S6.out.2; omega)))
        go_wp2_with fail
        refine KA.out.mono ?_
        rintro e w8 ⟨rfl, m8, rfl⟩
        have A8 : (wr.drewN m8).cell? ⟨w3.heap.size + 1, 1, none⟩ = some (.slice rk Q.keys.length sk) := C7
        go_wp2_with fail
        refine (KB.out m8).mono ?_
        rintro e w9 ⟨rfl, m9, rfl⟩
        go_wp2
        go_ret
        exact ⟨rfl, BL.out.trans (below_drewN' wr _ _)⟩
  · have hno : Hid (P = none9) := by
      show _ = _
      rw [hP.out]
      unfold nlow'
      rw [if_neg (by rw [← hER.out]; exact he)]
    have A1 := (cells4 EA).1.2.1
    have BL := hide (HE.out _ BV3.out)
    rw [hno.out] at A1
    have A2 : V3.cell? ⟨w3.heap.size, 1, none⟩ = some (.slice pk 0 qk) := A1
    go_wp2_with fail
    rw [← hV3]
    replace hV3 := hide hV3
    refine (num9_any _ _).mono ?_
    rintro e w' ⟨rfl, rfl⟩
    clear A1
    go_wp2
    go_ret
    exact ⟨by first | rfl | simp, BL.out⟩

set_option maxRecDepth 100000 in
theorem lifted (os : Os) (started : os.Started) (H : Type) (enc : TypeId × Value → H) :
    ReturnsInHanded {} Try.checked os 6 .any (Rows.nodeOwnSpec.pre6 enc Try.prog Try.f6 Rows.nodeOwnRow.domain false) (Rows.nodeOwnSpec.post enc Try.prog Try.f6 false true false false) := by
  refine returnsInHanded_of_change_sized (C := Try.checked) own started (by kernel_rfl) Try.func6
    (ChangeSpec.witness6 (enc := enc) (C := Try.checked) false ⟨#[], #[.agg #[.bool false, .slice none 0 0, .slice none 0 0, .slice none 0 0]], []⟩ 8 (by kernel_rfl) (by kernel_rfl) (by kernel_rfl) (by kernel_rfl)) ?_
  intro W base args ds gs before hval0 hW hcnd hsz0 _
  have hsz : (DataW.weightsEach Try.prog (Try.f6.params.toList ++ Rows.nodeOwnSpec.plain.varTypes Try.prog) (ds ++ gs)).all (· ≤ reachBytes) = true := hsz0
  have hval : ∀ (j : Nat) t v, Try.f6.params[j]? = some t → args[j]? = some v → Value.okWide Try.prog W .any base t v := hval0
  have hW' := hW
  obtain ⟨p, q, hA0, hV, rfl, hfz, hnd⟩ := hW
  have hA : DataW.TrodAll enc Try.prog W 0 (fun _ => true) true Try.f6.params.toList args.toList ds p := hA0
  rw [Try.params6] at hA hval hsz
  obtain ⟨v0, vs0, d0, ds0, p0, q0, hargs, rfl, rfl, h0, r0⟩ := trodAll_cons hA
  obtain ⟨rfl, rfl, rfl⟩ := trodAll_nil r0
  obtain rfl : args = #[v0] := by cases args; simp_all
  obtain ⟨rfl, rfl⟩ := trodVars_none hV
  obtain ⟨cs0, rfl, _⟩ := okWide_struct Try.underlying25 (hval 0 25 v0 rfl rfl)
  have lt0 : ∀ x ∈ p0, x.block < W.heap.size := by obtain ⟨m, hm⟩ := h0; exact DataW.trod_lt m _ _ _ hm
  have hh0 := h0
  obtain ⟨fu0, hf0⟩ := hh0
  obtain ⟨x0, g0, f0, b0⟩ := open_node.opened hf0
  have m0 := f0 (reach_of hsz (j := 0) rfl rfl)
  clear hA0 hval0 hsz0 hsz
  refine (walk W cs0 x0 g0 m0).mono fun e W' ⟨he, bel⟩ => ?_
  subst he
  exact ⟨_, rfl, _, _, _, [], _, [], hW', trodAll_mk1 (shut_bool Try.underlying4 _), (trodAll_cons_mk (Below.trod laidOut (by kernel_rfl) (of_decide_eq_true (by kernel_rfl)) h0 bel lt0) trodAll_mk0), rfl, bel.frame _, fun h => by cases h⟩

theorem over : Rows.nodeOwnRow.holds Try.pinned (OpenSpec.ofChange Rows.nodeOwnSpec) :=
  OpenClaim.holds_of_wide 6 Try.f6 rfl rfl rfl rfl rfl rfl rfl ⟨rfl, rfl, rfl, rfl, rfl⟩ rfl rfl rfl rfl rfl (by kernel_rfl) Try.func6 (by kernel_rfl)
    (of_decide_eq_true (by kernel_rfl)) (by unfold Func.isWrapper; first | (rw [if_pos (by decide +kernel)]; kernel_rfl) | (rw [if_neg (by decide +kernel)]; exact ⟨rfl, rfl⟩))
    (fun os started H enc _ => lifted os started H enc)

end Go.Proofs.Ytjkpldmmijfebaa.nodeOwn
namespace Go.Proofs.Ytjkpldmmijfebaa
/-- THE STATEMENT -/
theorem nodeOwn_holds : Rows.NodeOwnSaid := nodeOwn.over
end Go.Proofs.Ytjkpldmmijfebaa
