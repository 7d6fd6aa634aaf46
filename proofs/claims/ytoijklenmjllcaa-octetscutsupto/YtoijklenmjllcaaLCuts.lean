/-
  PROVED: whatever octets and size come in (together of bulk at most 1048576: the statement's second form), transeptlaw01.OctetsCuts returns true and leaves the octets as they were: the statement of P1.3 (the pieces, one behind the other, are the octets; all but the last have the size).
-/
import Derived.Test.YtoijklenmjllcaaFrame
import Derived.Test.YtoijklenmjllcaaCut
namespace Go.Proofs.Ytoijklenmjllcaa.octetsCuts
open Go.ChangeShapes Go.WideShapes Go.ChangeAt Go.RowKit
set_option linter.unusedVariables false

theorem piece_full {xs : List UInt8} {s k : Nat} (hs : 1 ≤ s) (hk : k < cutN xs.length s - 1) : (piece xs s k).length = s := by
  have := cutN_lt (len := xs.length) hs (show k + 1 < cutN xs.length s by omega)
  rw [Nat.add_mul] at this
  rw [piece_length]
  omega
theorem piece_pos {xs : List UInt8} {s k : Nat} (hs : 1 ≤ s) (hk : k < cutN xs.length s) : 1 ≤ (piece xs s k).length ∧ (piece xs s k).length ≤ s ∧ (piece xs s k).length ≤ xs.length := by
  have := cutN_lt (len := xs.length) hs hk
  rw [piece_length]
  omega
theorem take_piece (xs : List UInt8) (s k : Nat) : xs.take (k * s) ++ piece xs s k = xs.take ((k + 1) * s) := by
  unfold piece
  rw [Nat.add_mul, Nat.one_mul, List.take_add]
theorem cutN_all {len s : Nat} (hs : 1 ≤ s) : len ≤ cutN len s * s := by
  unfold cutN
  have h := Nat.div_add_mod (len + s - 1) s
  have h2 := Nat.mod_lt (len + s - 1) (show 0 < s by omega)
  rw [Nat.mul_comm] at h
  omega

set_option maxHeartbeats 1000000 in
theorem walk (w : World) (a0 : Option Addr) (len0 cap0 : Nat) (x0 : List UInt8) (e0 : x0.length = len0) (g0 : Rd w (.slice a0 len0 cap0) x0) (m0 : len0 ≤ 1048576) (a1 : Int) (w1 : (Lit.int .i64 a1).wf = true) :
    Calls Try.prog 6 #[.slice a0 len0 cap0, .int .i64 a1] w fun e w' => e = .returned (.bool true) ∧ Below w.heap.size w w' := by
  obtain ⟨i0, hi, hz0, hz1, hz2⟩ := info_parts info8
  have E0 := hide e0
  clear e0 w1
  by_cases hs : a1 < 1 ∨ 65536 < a1
  · have hc := fun u hu => cut_no u _ x0 (g0.to hu) a1 hs
    have HC := hide hc
    clear hc
    by_cases h1 : a1 < 1
    · go_enter Try.func6, Try.ntmps6
      go_wp2_with fail
      refine (alive_any w).mono ?_
      rintro e w1 ⟨rfl, b1⟩
      go_wp2_with fail
      refine (HC.out _ b1).mono ?_
      rintro e w2 ⟨rfl, rfl⟩
      go_wp2_with (go_at_call 18; refine (num_any _ _).mono ?_; rintro e w' ⟨rfl, rfl⟩)
      go_ret
      exact ⟨rfl, b1⟩
    · have h2 : 65536 < a1 := by omega
      go_enter Try.func6, Try.ntmps6
      go_wp2_with fail
      refine (alive_any w).mono ?_
      rintro e w1 ⟨rfl, b1⟩
      go_wp2_with fail
      refine (HC.out _ b1).mono ?_
      rintro e w2 ⟨rfl, rfl⟩
      go_wp2_with (go_at_call 18; refine (num_any _ _).mono ?_; rintro e w' ⟨rfl, rfl⟩)
      go_ret
      exact ⟨rfl, b1⟩
  · obtain ⟨s, rfl⟩ := Int.eq_ofNat_of_zero_le (show 0 ≤ a1 by omega)
    have hs1 : 1 ≤ s := by omega
    have hs2 : s ≤ 65536 := by omega
    clear hs
    go_enter Try.func6, Try.ntmps6
    go_wp2_with fail
    refine (alive_any w).mono ?_
    rintro e w1 ⟨rfl, b1⟩
    go_wp2_with fail
    refine (cut_yes _ _ x0 (g0.to b1) s hs1 hs2 (by rw [E0.out]; exact m0)).mono ?_
    rintro e w2 ⟨v2, rfl, o2, b2⟩
    have c2 : Below w.heap.size w w2 := b1.trans (b2.mono b1.size)
    obtain ⟨ao, cp, rfl, k1, k2, k4⟩ := o2.rd
    rw [cutL_length] at k1 k4 ⊢
    rw [show maxLen = 9223372036854775807 from rfl] at k2
    have hNl := cutN_le (len := x0.length) hs1
    obtain ⟨N, hN⟩ : ∃ N, cutN x0.length s = N := ⟨_, rfl⟩
    rw [hN] at k1 k4 hNl ⊢
    rw [E0.out] at hNl
    have HN := hide hN
    clear hN b1 b2 o2
    go_wp2_with (go_at_call 18; refine (num_any _ _).mono ?_; rintro e w' ⟨rfl, rfl⟩)
    go_loopw [7, 8] (fun v i wr => ∃ k : Nat, k ≤ N ∧ i = .int .i64 k ∧ OwnB w2.heap.size wr v (x0.take (k * s)) ∧ Below w2.heap.size w2 wr) (fun _ i _ => N - (intOf i).toNat)
    case atStart => exact ⟨0, Nat.zero_le _, rfl, by rw [Nat.zero_mul, List.take_zero]; exact World.ownsRow_nil _ _ _ _, Below.refl _ _⟩
    case round =>
      obtain ⟨k, hk, rfl, hown, hb⟩ := hrel
      by_cases hlt : k < N
      · rcases k4 with k4 | ⟨b, off, rfl, hc⟩
        · have := congrArg List.length k4
          rw [cutL_length, HN.out] at this
          simp at this; omega
        obtain ⟨u, hcu, hru⟩ := hc k hlt
        rw [cutL_getD x0 s k (by rw [HN.out]; exact hlt)] at hru
        have hcw : wr.cell? ⟨b, off + k, none⟩ = some u := (hb.cell (p := ⟨b, off + k, none⟩) (cell_lt hcu)).trans hcu
        have hp := piece_pos (xs := x0) (k := k) hs1 (by rw [HN.out]; exact hlt)
        have hfull := fun h => piece_full (xs := x0) (s := s) (k := k) hs1 (show k < cutN x0.length s - 1 by rw [HN.out]; exact h)
        obtain ⟨pa, pcap, rfl, p1, p2, p3, p4⟩ := hru.to hb
        rcases p4 with p4 | ⟨pb, po, rfl, hpc⟩
        · rw [p4] at hp; simp at hp
        obtain ⟨L, hL⟩ : ∃ L, (piece x0 s k).length = L := ⟨_, rfl⟩
        rw [hL] at hp hfull p1 hpc hcw
        rw [E0.out] at hp
        have hq : (k : Int) < (N : Int) := by omega
        have hd1 : decide ((L : Int) < 1) = false := by simp; omega
        have hd2 : decide ((s : Int) < (L : Int)) = false := by simp; omega
        have HSN := take_piece x0 s k
        have hlen : (x0.take (k * s)).length ≤ 1048576 := by rw [List.length_take]; have := E0.out; omega
        unfold OwnB at hown
        obtain ⟨X, hX⟩ : ∃ X, x0.take (k * s) = X := ⟨_, rfl⟩
        obtain ⟨Q, hQ⟩ : ∃ Q, piece x0 s k = Q := ⟨_, rfl⟩
        rw [hX] at hown hlen HSN
        rw [hQ] at HSN hpc hL
        have n1 : (Q.map enc).length = L * 1 := by simp [hL]
        have n2 : ∀ j u, (Q.map enc)[j]? = some u → wr.cell? ((⟨pb, po, none⟩ : Addr).add j) = some u := by
          intro j u hj
          have hj' : j < L := by
            have := (List.getElem?_eq_some_iff.1 hj).1
            simpa [hL] using this
          have ea : (⟨pb, po, none⟩ : Addr).add j = ⟨pb, po + j, none⟩ := by
            by_cases h0 : j = 0
            · subst h0; simp [Addr.add]
            · simp [Addr.add, h0]
          rw [ea, hpc j hj', ← hj]
          simp [bt, enc, show j < Q.length by omega]
        have n3 : ∀ u ∈ Q.map enc, u.oneCell' = true := by
          intro u hu
          obtain ⟨x, _, rfl⟩ := List.mem_map.1 hu
          rfl
        have n4 : X.length + L ≤ maxLen := by rw [show maxLen = 9223372036854775807 from rfl]; omega
        have n5 : (X.length + L) * 1 ≤ 140737488355328 := by omega
        have n6 := hb.size
        have HFIN : Hid (∀ v1 w3, w3.ownsRow w2.heap.size 5 1 v1 (X.length + L) (X.map enc ++ Q.map enc) → wr.grownBy w3 u7.ownBlock → OwnB w2.heap.size w3 v1 (x0.take ((k + 1) * s)) ∧ Below w2.heap.size w2 w3) := fun v1 w3 h hg => by
          refine ⟨?_, hb.grown hg n6 (fun j hj => (hown.lt j hj).1)⟩
          unfold OwnB
          rw [← HSN, List.length_append, hL, List.map_append]
          exact h
        have HOWN := hide hown
        have N2 := hide n2
        clear hown hb hc hcu hru HSN hL p2 p3 hpc hX hQ n2
        have hcase : (decide ((k : Int) < (N : Int) - 1) = true ∧ ((L : Int) != (s : Int)) = false) ∨ decide ((k : Int) < (N : Int) - 1) = false := by
          by_cases h : k < N - 1
          · left; have := hfull h; simp; omega
          · right; simp; omega
        clear hfull
        rcases hcase with ⟨hd3, hd4⟩ | hd3
        all_goals
          go_wp2_with (at_builtin; refine wpList_append_own _ rfl _ _ 22 rfl w2.heap.size 5 i0 (.int .u8 0) 1 1 Try.underlying22 hi hz0 hz1 hz2 rfl (by decide) _ _ _ rfl HOWN.out ⟨pb, po, none⟩ L pcap (Q.map enc) rfl n1 N2.out n3 n4 n5 n6 ?_; intro v1 w3 hown1 hgrow1 hnil1; have HF := hide (HFIN.out _ _ hown1 hgrow1); clear hown1 hgrow1 hnil1)
          go_roundw
          case rel => exact ⟨k + 1, by omega, by go_num, HF.out.1, HF.out.2⟩
          case measure => simp [intOf]; omega
      · have hkN : k = N := by omega
        subst hkN
        have hq := same_any wr _ _ _ _ hown.rd (g0.to (c2.trans (hb.mono c2.size)))
        rw [List.take_of_length_le (by rw [← HN.out]; exact cutN_all hs1), sameB_self] at hq
        have HQ := hide hq
        have c3 := c2.trans (hb.mono c2.size)
        clear hq hown k4
        go_wp2_with fail
        refine HQ.out.mono ?_
        rintro e w4 ⟨rfl, m, hw⟩
        go_wp2
        go_ret
        exact ⟨rfl, c3.trans (below_drewN' _ _ _)⟩

set_option maxRecDepth 100000 in
theorem lifted (os : Os) (started : os.Started) (H : Type) (enc : TypeId × Value → H) (F : Stop.Interp) :
    ReturnsInHanded {} Try.checked os 6 .any ((Rows.OpenSpec.upto Rows.octetsCutsSpec).pre6 enc Try.prog Try.f6 Rows.octetsCutsUptoRow.domain false) (((Rows.OpenSpec.upto Rows.octetsCutsSpec).at F).post enc Try.prog Try.f6 false true false false) := by
  refine returnsInHanded_of_cond (C := Try.checked) (s := Rows.OpenSpec.upto Rows.octetsCutsSpec) (k := Rows.uptoSmall) rfl own started (by kernel_rfl) Try.func6
    (OpenSpec.witness (enc := enc) (C := Try.checked) (s := Rows.OpenSpec.upto Rows.octetsCutsSpec) (k := Rows.uptoSmall) rfl false ⟨#[], #[.slice none 0 0, .int .i64 0], []⟩ 8 (by kernel_rfl) (by kernel_rfl) (by kernel_rfl)
      (x := ([.nil, .lit (.int .i64 0)], [], [])) (by kernel_rfl) rfl (by kernel_rfl)) ?_
  intro W base args ds gs before hval0 hW _ hk _
  have hval : ∀ (j : Nat) t v, Try.f6.params[j]? = some t → args[j]? = some v → Value.okWide Try.prog W .any base t v := hval0
  have hW' := hW
  obtain ⟨p, q, hA0, hV, rfl, hfz, hnd⟩ := hW
  have hA : DataW.TrodAll enc Try.prog W 0 (fun _ => true) true Try.f6.params.toList args.toList ds p := hA0
  rw [Try.params6] at hA hval
  obtain ⟨v0, vs0, d0, ds0, p0, q0, hargs, rfl, rfl, h0, r0⟩ := trodAll_cons hA
  obtain ⟨v1, vs1, d1, ds1, p1, q1, rfl, rfl, rfl, h1, r1⟩ := trodAll_cons r0
  obtain ⟨rfl, rfl, rfl⟩ := trodAll_nil r1
  obtain rfl : args = #[v0, v1] := by cases args; simp_all
  obtain ⟨rfl, rfl⟩ := trodVars_none hV
  obtain ⟨a0, len0, cap0, rfl⟩ := okWide_slice Try.underlying22 (hval 0 22 v0 rfl rfl)
  have lt0 : ∀ x ∈ p0, x.block < W.heap.size := by obtain ⟨m, hm⟩ := h0; exact DataW.trod_lt m _ _ _ hm
  obtain ⟨x0, e0, g0, s0⟩ := open_octs h0
  obtain ⟨a1, rfl, rfl, rfl, w1⟩ := open_int Try.underlying3 (hval 1 3 v1 rfl rfl) h1
  simp only [List.append_nil] at hk
  have m0 := small_octs hk (d := d0) (by simp) s0
  clear hA0 hval0
  refine (walk W a0 len0 cap0 x0 e0 g0 m0 a1 w1).mono fun e W' ⟨he, bel⟩ => ?_
  subst he
  exact ⟨_, rfl, _, _, _, [], _, [], hW', trodAll_mk1 (shut_bool Try.underlying4 _), (trodAll_cons_mk (Below.trod laidOut (by kernel_rfl) (of_decide_eq_true (by kernel_rfl)) h0 bel lt0) (trodAll_cons_mk (shut_int Try.underlying3 w1) trodAll_mk0)), rfl, bel.frame _, fun h => by cases h⟩

theorem over : Rows.octetsCutsUptoRow.holds Try.pinned (Rows.OpenSpec.upto Rows.octetsCutsSpec) :=
  OpenClaim.holds_of_cond 6 Try.f6 rfl rfl rfl rfl rfl rfl rfl ⟨rfl, rfl, rfl, rfl, rfl⟩ rfl rfl rfl rfl rfl (by kernel_rfl) Try.func6 (by kernel_rfl)
    (of_decide_eq_true (by kernel_rfl)) (by unfold Func.isWrapper; first | (rw [if_pos (by decide +kernel)]; kernel_rfl) | (rw [if_neg (by decide +kernel)]; exact ⟨rfl, rfl⟩))
    (fun os started H enc _ F => lifted os started H enc F)

end Go.Proofs.Ytoijklenmjllcaa.octetsCuts
namespace Go.Proofs.Ytoijklenmjllcaa
/-- THE STATEMENT -/
theorem octetsCuts_holds : Rows.OctetsCutsUptoSaid := octetsCuts.over
end Go.Proofs.Ytoijklenmjllcaa
