/-
  PROVED: whatever list of frames comes in (of bulk at most 1048576: the second form), transeptlaw03.FramesBack returns true and leaves it as it was: the statement of P3.3 (frames laid one behind the other are scanned back, all of them).
-/
import Derived.Test.YtmdbgmnohdeoeaaFrL
import Derived.Test.YtmdbgmnohdeoeaaFLaid
import Derived.Test.YtmdbgmnohdeoeaaFAlive
import Derived.Test.YtmdbgmnohdeoeaaFProg
import Derived.Test.YtmdbgmnohdeoeaaTail
namespace Go.Proofs.Ytmdbgmnohdeoeaa.framesBack
open Go.ChangeShapes Go.WideShapes Go.ChangeAt Go.RowKit
set_option linter.unusedVariables false

theorem good_at (fs : List Frm) (n : Nat) (h : n < fs.length) (ok : okF (fs.getD n (0, [])) = true) : (goodF fs).getD (goodF (fs.take n)).length (0, []) = fs.getD n (0, []) ∧ (goodF (fs.take n)).length < (goodF fs).length ∧ (goodF (fs.take (n + 1))).length = (goodF (fs.take n)).length + 1 := by
  have e1 := goodF_succ fs n h
  rw [if_pos ok] at e1
  have e2 : goodF fs = goodF (fs.take (n + 1)) ++ goodF (fs.drop (n + 1)) := by
    unfold goodF; rw [← List.filter_append, List.take_append_drop]
  refine ⟨?_, ?_, by rw [e1]; simp⟩
  · rw [e2, e1]; simp [List.getD_eq_getElem?_getD]
  · rw [e2, e1]; simp

set_option maxHeartbeats 2000000 in
theorem walkS (S : FramesSay) (w : World) (a0 : Option Addr) (len0 cap0 : Nat) (x0 : List Frm) (e0 : x0.length = len0) (g0 : RdFs w (.slice a0 len0 cap0) x0) (m0 : fbulk x0 ≤ 1048576) :
    Calls Try.prog 4 #[.slice a0 len0 cap0] w fun e w' => e = .returned (.bool true) ∧ Below w.heap.size w w' := by
  subst e0
  obtain ⟨z1, z2, z3⟩ := lay_le x0
  go_enter Try.func4, Try.ntmps4
  go_wp2_with fail
  refine (falive_any S w).mono ?_
  rintro e w1 ⟨rfl, cc⟩
  replace g0 := g0.to cc
  go_wp2_with fail
  refine (laid_any S _ _ x0 g0 m0).mono ?_
  rintro e w2 ⟨v1, v2, rfl, o2, i2, b2⟩
  have r2 := o2.rd
  obtain ⟨ai, ci, rfl, _⟩ := i2.slice
  rw [ends_length]
  obtain ⟨av, cv, rfl⟩ := r2.slice
  replace g0 := g0.to b2
  replace cc := cc.trans (b2.mono cc.size)
  clear b2 o2 i2
  go_wp2_with fail
  refine (S.scanS _ _ _ r2 (by omega)).mono ?_
  rintro e w3 ⟨v3, fs, p, rfl, s3, o3, b3⟩
  obtain ⟨rfl, rfl⟩ := s3.one (sc_lay (goodF x0) (fun g h => goodF_ok h))
  have r3 := o3.rd
  replace g0 := g0.to b3
  replace cc := cc.trans (b3.mono cc.size)
  obtain ⟨a3, c3, rfl⟩ := r3.slice
  clear b3 o3 s3 r2
  have hn1 : (((layG (goodF x0)).length : Int) != ((layG (goodF x0)).length : Int)) = false := by simp
  have hn2 : (((goodF x0).length : Int) != ((goodF x0).length : Int)) = false := by simp
  go_wp2
  go_loopw [7, 8] (fun k i wr => ∃ n : Nat, n ≤ x0.length ∧ i = .int .i64 n ∧ k = .int .i64 ((goodF (x0.take n)).length : Nat) ∧ Below w3.heap.size w3 wr) (fun _ i _ => x0.length - (intOf i).toNat)
  case atStart => exact ⟨0, Nat.zero_le _, rfl, rfl, Below.refl _ _⟩
  case round =>
    obtain ⟨n, hn, rfl, rfl, hb⟩ := hrel
    by_cases hlt : n < x0.length
    · have hq : (n : Int) < (x0.length : Int) := by omega
      obtain ⟨_, _, ee7, _, _, _, q7⟩ := g0.to hb
      cases ee7
      rcases q7 with q7 | ⟨b7, o7, rfl, h7⟩
      · rw [q7] at hlt; simp at hlt
      obtain ⟨u7, s7, t7, z7⟩ := h7 n hlt
      obtain ⟨as7, cs7, rfl⟩ := z7.slice
      by_cases hok : okF (x0.getD n (0, [])) = true
      · obtain ⟨g1, g2, g3⟩ := good_at x0 n hlt hok
        have hle : (x0.getD n (0, [])).2.length ≤ 4096 := by simpa [okF] using hok
        have hle' : ¬ (4096 : Int) < ((x0.getD n (0, [])).2.length : Int) := by omega
        obtain ⟨_, _, ee8, _, _, _, q8⟩ := r3.to hb
        cases ee8
        rcases q8 with q8 | ⟨b8, o8, rfl, h8⟩
        · rw [q8] at g2; simp at g2
        obtain ⟨u8', s8, t8, z8⟩ := h8 _ g2
        rw [g1] at u8' z8
        obtain ⟨as8, cs8, rfl⟩ := z8.slice
        have hc := fun u (hu : Below wr.heap.size wr u) => fsame_any u (x0.getD n (0, [])) (x0.getD n (0, [])) _ _ (z8.to hu) (z7.to hu)
        rw [sameF_self] at hc
        have HC := hide hc
        have HB := hide hb
        have HG := hide g3
        clear h7 h8 z7 z8 hc hb g1 g3 hok
        generalize x0.getD n (0, []) = f at *
        obtain ⟨K, hK⟩ : ∃ K, (goodF (x0.take n)).length = K := ⟨_, rfl⟩
        rw [hK] at u8' t8 g2 HG ⊢
        replace hK := hide hK
        have hK2 : (K : Int) < ((goodF x0).length : Int) := by omega
        have hK3 : decide (((goodF x0).length : Int) ≤ (K : Int)) = false := by simp; omega
        go_wp2
        refine wp_tail 13 mixed (by kernel_rfl) ?_
        simp only [List.take_succ_cons, List.take_zero, List.drop_succ_cons, List.drop_zero]
        repeat still_step
        refine wpStill_nil ?_
        go_wp2_with fail
        refine (HC.out _ (below_drew (Below.refl _ _))).mono ?_
        rintro e w7 ⟨rfl, b13⟩
        have HB2 := hide (HB.out.trans ((below_drew (Below.refl _ wr)).trans b13 |>.mono HB.out.size))
        clear b13 HB HC
        go_wp2
        go_roundw
        case rel => exact ⟨n + 1, by omega, by go_num, by rw [HG.out]; go_num, HB2.out⟩
        case measure => simp [intOf]; omega
      · have e1 := goodF_succ x0 n hlt
        rw [if_neg hok, List.append_nil] at e1
        have hle : 4096 < (x0.getD n (0, [])).2.length := by simpa [okF] using hok
        have hle' : (4096 : Int) < ((x0.getD n (0, [])).2.length : Int) := by omega
        have HB := hide hb
        have HE := hide e1
        clear h7 z7 hb e1 hok
        generalize x0.getD n (0, []) = f at *
        go_wp2
        go_roundw
        case rel => exact ⟨n + 1, by omega, by go_num, by rw [HE.out], HB.out⟩
        case measure => simp [intOf]; omega
    · obtain rfl : n = x0.length := by omega
      rw [List.take_length]
      go_wp2
      go_ret
      exact ⟨ret_bool (by simp), cc.trans (hb.mono cc.size)⟩

theorem walk (w : World) (a0 : Option Addr) (len0 cap0 : Nat) (x0 : List Frm) (e0 : x0.length = len0) (g0 : RdFs w (.slice a0 len0 cap0) x0) (m0 : fbulk x0 ≤ 1048576) :
    Calls Try.prog 4 #[.slice a0 len0 cap0] w fun e w' => e = .returned (.bool true) ∧ Below w.heap.size w w' :=
  walkS frames_say w a0 len0 cap0 x0 e0 g0 m0

set_option maxRecDepth 100000 in
theorem lifted (os : Os) (started : os.Started) (H : Type) (enc : TypeId × Value → H) (F : Stop.Interp) :
    ReturnsInHanded {} Try.checked os 4 .any ((Rows.OpenSpec.upto Rows.framesBackSpec).pre6 enc Try.prog Try.f4 Rows.framesBackUptoRow.domain false) (((Rows.OpenSpec.upto Rows.framesBackSpec).at F).post enc Try.prog Try.f4 false true false false) := by
  refine returnsInHanded_of_cond (C := Try.checked) (s := Rows.OpenSpec.upto Rows.framesBackSpec) (k := Rows.uptoSmall) rfl own started (by kernel_rfl) Try.func4
    (OpenSpec.witness (enc := enc) (C := Try.checked) (s := Rows.OpenSpec.upto Rows.framesBackSpec) (k := Rows.uptoSmall) rfl false ⟨#[], #[.slice none 0 0], []⟩ 8 (by kernel_rfl) (by kernel_rfl) (by kernel_rfl)
      (x := ([.nil], [], [])) (by kernel_rfl) rfl (by kernel_rfl)) ?_
  intro W base args ds gs before hval0 hW _ hk _
  have hval : ∀ (j : Nat) t v, Try.f4.params[j]? = some t → args[j]? = some v → Value.okWide Try.prog W .any base t v := hval0
  have hW' := hW
  obtain ⟨p, q, hA0, hV, rfl, hfz, hnd⟩ := hW
  have hA : DataW.TrodAll enc Try.prog W 0 (fun _ => true) true Try.f4.params.toList args.toList ds p := hA0
  rw [Try.params4] at hA hval
  obtain ⟨v0, vs0, d0, ds0, p0, q0, hargs, rfl, rfl, h0, r0⟩ := trodAll_cons hA
  obtain ⟨rfl, rfl, rfl⟩ := trodAll_nil r0
  obtain rfl : args = #[v0] := by cases args; simp_all
  obtain ⟨rfl, rfl⟩ := trodVars_none hV
  obtain ⟨a0, len0, cap0, rfl⟩ := okWide_slice Try.underlying39 (hval 0 39 v0 rfl rfl)
  have lt0 : ∀ x ∈ p0, x.block < W.heap.size := by obtain ⟨m, hm⟩ := h0; exact DataW.trod_lt m _ _ _ hm
  obtain ⟨x0, e0, g0, s0⟩ := open_frames h0
  simp only [List.append_nil] at hk
  have m0 := small_frames hk (d := d0) (by simp) s0
  clear hA0 hval0
  refine (walk W a0 len0 cap0 x0 e0 g0 m0).mono fun e W' ⟨he, bel⟩ => ?_
  subst he
  exact ⟨_, rfl, _, _, _, [], _, [], hW', trodAll_mk1 (shut_bool Try.underlying4 _), (trodAll_cons_mk (Below.trod laidOut (by kernel_rfl) (of_decide_eq_true (by kernel_rfl)) h0 bel lt0) trodAll_mk0), rfl, bel.frame _, fun h => by cases h⟩

theorem over : Rows.framesBackUptoRow.holds Try.pinned (Rows.OpenSpec.upto Rows.framesBackSpec) :=
  OpenClaim.holds_of_cond 4 Try.f4 rfl rfl rfl rfl rfl rfl rfl ⟨rfl, rfl, rfl, rfl, rfl⟩ rfl rfl rfl rfl rfl (by kernel_rfl) Try.func4 (by kernel_rfl)
    (of_decide_eq_true (by kernel_rfl)) (by unfold Func.isWrapper; first | (rw [if_pos (by decide +kernel)]; kernel_rfl) | (rw [if_neg (by decide +kernel)]; exact ⟨rfl, rfl⟩))
    (fun os started H enc _ F => lifted os started H enc F)

end Go.Proofs.Ytmdbgmnohdeoeaa.framesBack
namespace Go.Proofs.Ytmdbgmnohdeoeaa
/-- THE STATEMENT -/
theorem framesBack_holds : Rows.FramesBackUptoSaid := framesBack.over
end Go.Proofs.Ytmdbgmnohdeoeaa
