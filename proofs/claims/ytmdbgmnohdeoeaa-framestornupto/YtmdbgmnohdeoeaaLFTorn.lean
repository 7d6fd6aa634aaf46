/-
  PROVED: whatever list of frames and place come in (of bulk at most 1048576: the second form), transeptlaw03.FramesTorn returns true and leaves them as they were: the statement of P3.4 (wherever octets are cut off, the frames ahead of the cut are scanned, and none else).
-/
import Derived.Test.YtmdbgmnohdeoeaaFrL
import Derived.Test.YtmdbgmnohdeoeaaFLaid
import Derived.Test.YtmdbgmnohdeoeaaFAlive
import Derived.Test.YtmdbgmnohdeoeaaFProg
namespace Go.Proofs.Ytmdbgmnohdeoeaa.framesTorn
open Go.ChangeShapes Go.WideShapes Go.ChangeAt Go.RowKit
set_option linter.unusedVariables false

set_option maxHeartbeats 2000000 in
theorem walkS (S : FramesSay) (w : World) (a0 : Option Addr) (len0 cap0 : Nat) (x0 : List Frm) (e0 : x0.length = len0) (g0 : RdFs w (.slice a0 len0 cap0) x0) (m0 : fbulk x0 ≤ 1048576) (a1 : Int) (w1 : (Lit.int .i64 a1).wf = true) :
    Calls Try.prog 5 #[.slice a0 len0 cap0, .int .i64 a1] w fun e w' => e = .returned (.bool true) ∧ Below w.heap.size w w' := by
  subst e0
  have hx1 : -9223372036854775808 ≤ a1 ∧ a1 ≤ 9223372036854775807 := by simpa [Lit.wf, IntKind.min, IntKind.max, IntKind.signed, IntKind.bits] using w1
  clear w1
  obtain ⟨z1, z2, z3⟩ := lay_le x0
  have hg : ∀ g ∈ goodF x0, g.2.length ≤ 4096 := fun g h => goodF_ok h
  go_enter Try.func5, Try.ntmps5
  go_wp2_with fail
  refine (falive_any S w).mono ?_
  rintro e w1 ⟨rfl, cc⟩
  replace g0 := g0.to cc
  go_wp2_with fail
  refine (laid_any S _ _ x0 g0 m0).mono ?_
  rintro e w2 ⟨v1, v2, rfl, o2, i2, b2⟩
  have r2 := o2.rd
  replace cc := cc.trans (b2.mono cc.size)
  obtain ⟨ai, ci, rfl, l2, m2, q2⟩ := i2.slice
  rw [ends_length] at *
  obtain ⟨av, cv, rfl⟩ := r2.slice
  have hcv : (layG (goodF x0)).length ≤ cv := by obtain ⟨_, _, e, l, _⟩ := r2; cases e; exact l
  have q2' : goodF x0 = [] ∨ ∃ g, ai = some ⟨g, 0, none⟩ ∧ g < w2.heap.size ∧ ∀ i, i < (goodF x0).length → w2.cell? ⟨g, i, none⟩ = some (.int .i64 (eAt (goodF x0) (i + 1) : Nat)) := by
    rcases q2 with q2 | ⟨g, rfl, hc⟩
    · left
      have := congrArg List.length q2
      rw [ends_length] at this
      exact List.eq_nil_of_length_eq_zero this
    · by_cases h0 : goodF x0 = []
      · exact .inl h0
      right
      have hp : 0 < (goodF x0).length := List.length_pos_iff.2 h0
      refine ⟨g, rfl, cell_lt (hc 0 hp), fun i hi => ?_⟩
      rw [hc i hi]
      simp [List.getD_eq_getElem?_getD, ends_at (goodF x0) i hi]
  clear b2 o2 i2 g0 q2
  replace q2' := hide q2'
  have hg1 := sc_torn (goodF x0) hg
  have HSC := hide hg1
  have hend := eAt_all (goodF x0)
  clear hg hg1
  have he0 := eAt_zero (goodF x0)
  have HEA := hide (And.intro hend he0)
  clear hend he0
  obtain ⟨E, hE⟩ : ∃ E, E = eAt (goodF x0) := ⟨_, rfl⟩
  rw [← hE] at q2' HSC HEA
  replace hE := hide hE
  generalize hL : (layG (goodF x0)).length = L at *
  replace hL := hide hL
  have hLL : L ≤ 3145728 := by omega
  obtain ⟨M, hM, hM1, hM2⟩ : ∃ M : Int, a1.tmod ((L : Int) + 1) = M ∧ -((L : Int) + 1) < M ∧ M < (L : Int) + 1 :=
    ⟨_, rfl, Int.lt_tmod_of_pos _ (by omega), Int.tmod_lt_of_pos a1 (by omega)⟩
  obtain ⟨cut, hcut, hcut', hcl⟩ : ∃ cut : Nat, (M + (L : Int) + 1).tmod ((L : Int) + 1) = (cut : Int) ∧ (M + (L : Int) + 1) % ((L : Int) + 1) = (cut : Int) ∧ cut ≤ L := by
    have k3 : 0 ≤ M + (L : Int) + 1 := by omega
    have k4 := Int.emod_nonneg (M + (L : Int) + 1) (b := (L : Int) + 1) (by omega)
    have k5 := Int.emod_lt_of_pos (M + (L : Int) + 1) (b := (L : Int) + 1) (by omega)
    exact ⟨((M + (L : Int) + 1) % ((L : Int) + 1)).toNat, by rw [Int.tmod_eq_emod_of_nonneg k3]; omega, by omega, by omega⟩
  have y1 : (cut : Int) ≤ (cv : Int) := by omega
  have y2 : (0 : Int) ≤ (cut : Int) := by omega
  obtain ⟨n, hn, hn1, hn2⟩ : ∃ n, n ≤ (goodF x0).length ∧ (∀ i, i ≤ n → E i ≤ cut) ∧ (n = (goodF x0).length ∨ cut < E (n + 1)) := by
    have aux : ∀ k, k ≤ (goodF x0).length → (∃ n, n ≤ k ∧ (∀ i, i ≤ n → E i ≤ cut) ∧ (n = k ∨ cut < E (n + 1))) := by
      intro k
      induction k with
      | zero => intro _; exact ⟨0, Nat.le_refl _, fun i hi => by rw [show i = 0 from by omega, HEA.out.2]; omega, .inl rfl⟩
      | succ k ih =>
        intro hk
        obtain ⟨n, a, b, c⟩ := ih (by omega)
        rcases c with rfl | c
        · by_cases hc : E (n + 1) ≤ cut
          · refine ⟨n + 1, Nat.le_refl _, fun i hi => ?_, .inl rfl⟩
            by_cases e : i = n + 1
            · subst e; exact hc
            · exact b i (by omega)
          · exact ⟨n, by omega, b, .inr (by omega)⟩
        · exact ⟨n, by omega, b, .inr c⟩
    exact aux _ (Nat.le_refl _)
  have hsc := HSC.out cut n hn (hn1 n (Nat.le_refl _)) hn2
  have HS := hide hsc
  have HN := hide (And.intro hn1 hn2)
  clear hsc hn1 hn2 HSC
  have rp : Rd w2 (.slice av cut cv) ((layG (goodF x0)).take cut) := by
    have := (rd_sub r2 (q := 0) (to := cut) (Nat.zero_le _) hcl).1
    cases av <;> simpa [Addr.add] using this
  have RP := hide rp
  have hrl : ((layG (goodF x0)).take cut).length ≤ 16777216 := by simp; omega
  clear rp r2
  go_wp2_with fail
  refine (S.scanS _ _ _ RP.out hrl).mono ?_
  rintro e w3 ⟨v3, fs, p, rfl, s3, o3, b3⟩
  obtain ⟨rfl, rfl⟩ := s3.one HS.out
  have r3 := o3.rd
  obtain ⟨a3, c3, rfl⟩ := r3.slice
  have hl3 : ((goodF x0).take n).length = n := by simp; omega
  rw [hl3]
  have hmx : (ci : Int) ≤ 9223372036854775807 := by have := m2; rw [show maxLen = 9223372036854775807 from rfl] at this; omega
  have CC := hide (cc.trans (b3.mono cc.size))
  have Q3 : Hid (goodF x0 = [] ∨ ∃ g, ai = some ⟨g, 0, none⟩ ∧ ∀ i, i < (goodF x0).length → w3.cell? ⟨g, i, none⟩ = some (.int .i64 (E (i + 1) : Nat))) := by
    rcases q2'.out with h | ⟨g, h1, h2, h3⟩
    · exact .inl h
    · exact .inr ⟨g, h1, fun i hi => (b3.cell (p := ⟨g, i, none⟩) h2).trans (h3 i hi)⟩
  clear cc b3 o3 r3 s3 HS q2' RP hrl hcut hcut' hM hM1 hM2 hl3
  generalize hG : (goodF x0).length = G at *
  replace hG := hide hG
  go_wp2
  go_loopw [9, 10, 11] (fun n' at' i wr => ∃ k m : Nat, k ≤ n ∧ i = .int .i64 k ∧ n' = .int .i64 k ∧ at' = .int .i64 (E k : Nat) ∧ wr = w3.drewN m) (fun _ _ i _ => n - (intOf i).toNat)
  case atStart => exact ⟨0, 0, Nat.zero_le _, rfl, rfl, by rw [HEA.out.2]; rfl, rfl⟩
  case round =>
    obtain ⟨k, m, hk, rfl, rfl, rfl, rfl⟩ := hrel
    by_cases hlt : k < n
    · rcases Q3.out with h | ⟨g, rfl, hc⟩
      · have := hG.out; rw [h] at this; simp at this; omega
      have hkG : (k : Int) < (G : Int) := by omega
      have c1 := hc k (by omega)
      have hle : ((E (k + 1) : Nat) : Int) ≤ (cut : Int) := by have := HN.out.1 (k + 1) (by omega); omega
      clear hc
      generalize hE1 : E (k + 1) = E1 at *
      replace hE1 := hide hE1
      go_wp2
      go_quiet (fail)
      go_wp2
      go_roundw
      case rel => exact ⟨k + 1, _, by omega, by go_num, by go_num, by rw [hE1.out], rfl⟩
      case measure => simp [intOf]; omega
    · obtain rfl : k = n := by omega
      have fin : ∀ m, Below w.heap.size w (w3.drewN m) := fun m => CC.out.trans (below_drewN' _ _ _)
      rcases HN.out.2 with h | h
      · have hd : decide ((k : Int) < (G : Int)) = false := by simp; omega
        go_wp2
        go_ret
        exact ⟨ret_bool (by simp), fin _⟩
      · by_cases hkG : k < G
        · rcases Q3.out with hq | ⟨g, rfl, hc⟩
          · have := hG.out; rw [hq] at this; simp at this; omega
          have hd : (k : Int) < (G : Int) := by omega
          have c1 := hc k (by omega)
          have hle : ¬ ((E (k + 1) : Nat) : Int) ≤ (cut : Int) := by omega
          clear hc
          generalize E (k + 1) = E1 at *
          go_wp2
          go_ret
          exact ⟨ret_bool (by simp), fin _⟩
        · have hd : decide ((k : Int) < (G : Int)) = false := by simp; omega
          go_wp2
          go_ret
          exact ⟨ret_bool (by simp), fin _⟩

theorem walk (w : World) (a0 : Option Addr) (len0 cap0 : Nat) (x0 : List Frm) (e0 : x0.length = len0) (g0 : RdFs w (.slice a0 len0 cap0) x0) (m0 : fbulk x0 ≤ 1048576) (a1 : Int) (w1 : (Lit.int .i64 a1).wf = true) :
    Calls Try.prog 5 #[.slice a0 len0 cap0, .int .i64 a1] w fun e w' => e = .returned (.bool true) ∧ Below w.heap.size w w' :=
  walkS frames_say w a0 len0 cap0 x0 e0 g0 m0 a1 w1

set_option maxRecDepth 100000 in
theorem lifted (os : Os) (started : os.Started) (H : Type) (enc : TypeId × Value → H) (F : Stop.Interp) :
    ReturnsInHanded {} Try.checked os 5 .any ((Rows.OpenSpec.upto Rows.framesTornSpec).pre6 enc Try.prog Try.f5 Rows.framesTornUptoRow.domain false) (((Rows.OpenSpec.upto Rows.framesTornSpec).at F).post enc Try.prog Try.f5 false true false false) := by
  refine returnsInHanded_of_cond (C := Try.checked) (s := Rows.OpenSpec.upto Rows.framesTornSpec) (k := Rows.uptoSmall) rfl own started (by kernel_rfl) Try.func5
    (OpenSpec.witness (enc := enc) (C := Try.checked) (s := Rows.OpenSpec.upto Rows.framesTornSpec) (k := Rows.uptoSmall) rfl false ⟨#[], #[.slice none 0 0, .int .i64 0], []⟩ 8 (by kernel_rfl) (by kernel_rfl) (by kernel_rfl)
      (x := ([.nil, .lit (.int .i64 0)], [], [])) (by kernel_rfl) rfl (by kernel_rfl)) ?_
  intro W base args ds gs before hval0 hW _ hk _
  have hval : ∀ (j : Nat) t v, Try.f5.params[j]? = some t → args[j]? = some v → Value.okWide Try.prog W .any base t v := hval0
  have hW' := hW
  obtain ⟨p, q, hA0, hV, rfl, hfz, hnd⟩ := hW
  have hA : DataW.TrodAll enc Try.prog W 0 (fun _ => true) true Try.f5.params.toList args.toList ds p := hA0
  rw [Try.params5] at hA hval
  obtain ⟨v0, vs0, d0, ds0, p0, q0, hargs, rfl, rfl, h0, r0⟩ := trodAll_cons hA
  obtain ⟨v1, vs1, d1, ds1, p1, q1, rfl, rfl, rfl, h1, r1⟩ := trodAll_cons r0
  obtain ⟨rfl, rfl, rfl⟩ := trodAll_nil r1
  obtain rfl : args = #[v0, v1] := by cases args; simp_all
  obtain ⟨rfl, rfl⟩ := trodVars_none hV
  obtain ⟨a0, len0, cap0, rfl⟩ := okWide_slice Try.underlying39 (hval 0 39 v0 rfl rfl)
  have lt0 : ∀ x ∈ p0, x.block < W.heap.size := by obtain ⟨m, hm⟩ := h0; exact DataW.trod_lt m _ _ _ hm
  obtain ⟨x0, e0, g0, s0⟩ := open_frames h0
  obtain ⟨a1, rfl, rfl, rfl, w1⟩ := open_int Try.underlying3 (hval 1 3 v1 rfl rfl) h1
  simp only [List.append_nil] at hk
  have m0 := small_frames hk (d := d0) (by simp) s0
  clear hA0 hval0
  refine (walk W a0 len0 cap0 x0 e0 g0 m0 a1 w1).mono fun e W' ⟨he, bel⟩ => ?_
  subst he
  exact ⟨_, rfl, _, _, _, [], _, [], hW', trodAll_mk1 (shut_bool Try.underlying4 _), (trodAll_cons_mk (Below.trod laidOut (by kernel_rfl) (of_decide_eq_true (by kernel_rfl)) h0 bel lt0) (trodAll_cons_mk (shut_int Try.underlying3 w1) trodAll_mk0)), rfl, bel.frame _, fun h => by cases h⟩

theorem over : Rows.framesTornUptoRow.holds Try.pinned (Rows.OpenSpec.upto Rows.framesTornSpec) :=
  OpenClaim.holds_of_cond 5 Try.f5 rfl rfl rfl rfl rfl rfl rfl ⟨rfl, rfl, rfl, rfl, rfl⟩ rfl rfl rfl rfl rfl (by kernel_rfl) Try.func5 (by kernel_rfl)
    (of_decide_eq_true (by kernel_rfl)) (by unfold Func.isWrapper; first | (rw [if_pos (by decide +kernel)]; kernel_rfl) | (rw [if_neg (by decide +kernel)]; exact ⟨rfl, rfl⟩))
    (fun os started H enc _ F => lifted os started H enc F)

end Go.Proofs.Ytmdbgmnohdeoeaa.framesTorn
namespace Go.Proofs.Ytmdbgmnohdeoeaa
/-- THE STATEMENT -/
theorem framesTorn_holds : Rows.FramesTornUptoSaid := framesTorn.over
end Go.Proofs.Ytmdbgmnohdeoeaa
