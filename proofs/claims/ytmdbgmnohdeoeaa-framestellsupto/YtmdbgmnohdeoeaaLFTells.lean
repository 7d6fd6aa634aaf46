/-
  PROVED: whatever frame and octets come in (together at most 1048576 values: the second form), transeptlaw03.FramesTells returns true and leaves both as they were: the statement of P3.1 and P3.2 (Seal, Open and Scan are the page's).
-/
import Derived.Test.YtmdbgmnohdeoeaaFrF
import Derived.Test.YtmdbgmnohdeoeaaFAlive
import Derived.Test.YtmdbgmnohdeoeaaFProg
namespace Go.Proofs.Ytmdbgmnohdeoeaa.framesTells
open Go.ChangeShapes Go.WideShapes Go.ChangeAt Go.RowKit
set_option linter.unusedVariables false

set_option maxHeartbeats 2000000 in
theorem walkS (S : FramesSay) (w : World) (k0 : UInt8) (sv0 : Value) (x0 : List UInt8) (g0 : Rd w sv0 x0) (m0 : x0.length ≤ 1048576) (a1 : Option Addr) (len1 cap1 : Nat) (x1 : List UInt8) (e1 : x1.length = len1) (g1 : Rd w (.slice a1 len1 cap1) x1) (m1 : len1 ≤ 1048576) :
    Calls Try.prog 3 #[.agg #[.int .u8 (k0.toNat : Int), sv0], .slice a1 len1 cap1] w fun e w' => e = .returned (.bool true) ∧ Below w.heap.size w w' := by
  have hm1 : x1.length ≤ 1048576 := by rw [e1]; exact m1
  obtain ⟨a0, c0, rfl⟩ := g0.slice
  obtain ⟨W, hW, D0, D1, cc, _⟩ := boxed2 w (.int .u8 (k0.toNat : Int)) (.slice a0 x0.length c0) 24
  replace g0 := g0.to cc
  replace g1 := g1.to cc
  replace e1 := hide e1
  go_enter Try.func3, Try.ntmps3
  go_wp2_with fail
  rw [← hW]
  replace hW := hide hW
  refine (copy_any _ _ x0 g0 (by omega)).mono ?_
  rintro e w1 ⟨v1, rfl, o1, b1⟩
  have r1 := o1.rd
  clear o1
  replace D0 := (b1.cell (cell_lt D0)).trans D0
  replace D1 := (b1.cell (cell_lt D1)).trans D1
  replace g0 := g0.to b1
  replace g1 := g1.to b1
  replace cc := cc.trans (b1.mono cc.size)
  clear b1
  obtain ⟨a2, p2, rfl⟩ := r1.slice
  go_wp2_with fail
  refine (copy_any _ _ x1 g1 (by omega)).mono ?_
  rintro e w1 ⟨v2, rfl, o2, b2⟩
  have r2 := o2.rd
  clear o2
  replace D0 := (b2.cell (cell_lt D0)).trans D0
  replace D1 := (b2.cell (cell_lt D1)).trans D1
  replace g0 := g0.to b2
  replace g1 := g1.to b2
  replace r1 := r1.to b2
  replace cc := cc.trans (b2.mono cc.size)
  clear b2
  go_wp2_with fail
  refine (S.sealS _ k0 _ x0 r1 (by omega)).mono ?_
  rintro e w1 ⟨v3, rfl, o3, b3⟩
  have r3 := o3.rd
  clear o3
  replace D0 := (b3.cell (cell_lt D0)).trans D0
  replace D1 := (b3.cell (cell_lt D1)).trans D1
  replace g0 := g0.to b3
  replace g1 := g1.to b3
  replace r1 := r1.to b3
  replace r2 := r2.to b3
  replace cc := cc.trans (b3.mono cc.size)
  clear b3
  go_wp2_with fail
  refine (rseal_any _ k0 _ x0 g0 (by omega)).mono ?_
  rintro e w1 ⟨v4, rfl, o4, b4⟩
  have r4 := o4.rd
  clear o4
  replace D0 := (b4.cell (cell_lt D0)).trans D0
  replace D1 := (b4.cell (cell_lt D1)).trans D1
  replace g0 := g0.to b4
  replace g1 := g1.to b4
  replace r1 := r1.to b4
  replace r2 := r2.to b4
  replace r3 := r3.to b4
  replace cc := cc.trans (b4.mono cc.size)
  clear b4
  have HE : Hid (∃ er : Int, fsealE x0 = er) := ⟨_, rfl⟩
  obtain ⟨er, her⟩ := HE.out
  rw [her]
  clear her HE
  go_wp2_with fail
  refine (S.openS _ _ x1 r2 (by omega)).mono ?_
  rintro e w1 ⟨v5, rfl, o5, b5⟩
  have r5 := o5.rd
  clear o5
  replace D0 := (b5.cell (cell_lt D0)).trans D0
  replace D1 := (b5.cell (cell_lt D1)).trans D1
  replace g0 := g0.to b5
  replace g1 := g1.to b5
  replace r1 := r1.to b5
  replace r2 := r2.to b5
  replace r3 := r3.to b5
  replace r4 := r4.to b5
  replace cc := cc.trans (b5.mono cc.size)
  clear b5
  obtain ⟨a5, p5, rfl⟩ := r5.slice
  obtain ⟨U, hU, E0, E1, b6, _⟩ := boxed2 w1 (.int .u8 ((fopen x1).2.1.1.toNat : Int)) (.slice a5 (fopen x1).2.1.2.length p5) 29
  replace D0 := (b6.cell (cell_lt D0)).trans D0
  replace D1 := (b6.cell (cell_lt D1)).trans D1
  replace g0 := g0.to b6
  replace g1 := g1.to b6
  replace r1 := r1.to b6
  replace r2 := r2.to b6
  replace r3 := r3.to b6
  replace r4 := r4.to b6
  replace r5 := r5.to b6
  replace cc := cc.trans (b6.mono cc.size)
  clear b6
  go_wp2_with fail
  rw [← hU]
  replace hU := hide hU
  refine (ropen_any _ _ x1 g1 (by omega)).mono ?_
  rintro e w2 ⟨v6, rfl, o6, b7⟩
  have r6 := o6.rd
  clear o6
  replace D0 := (b7.cell (cell_lt D0)).trans D0
  replace D1 := (b7.cell (cell_lt D1)).trans D1
  replace E0 := (b7.cell (cell_lt E0)).trans E0
  replace E1 := (b7.cell (cell_lt E1)).trans E1
  replace g0 := g0.to b7
  replace g1 := g1.to b7
  replace r1 := r1.to b7
  replace r2 := r2.to b7
  replace r3 := r3.to b7
  replace r4 := r4.to b7
  replace r5 := r5.to b7
  replace cc := cc.trans (b7.mono cc.size)
  clear b7
  obtain ⟨a6, p6, rfl⟩ := r6.slice
  obtain ⟨V, hV, F0, F1, b8, _⟩ := boxed2 w2 (.int .u8 ((fopen x1).2.1.1.toNat : Int)) (.slice a6 (fopen x1).2.1.2.length p6) 24
  replace D0 := (b8.cell (cell_lt D0)).trans D0
  replace D1 := (b8.cell (cell_lt D1)).trans D1
  replace E0 := (b8.cell (cell_lt E0)).trans E0
  replace E1 := (b8.cell (cell_lt E1)).trans E1
  replace g0 := g0.to b8
  replace g1 := g1.to b8
  replace r1 := r1.to b8
  replace r2 := r2.to b8
  replace r3 := r3.to b8
  replace r4 := r4.to b8
  replace r5 := r5.to b8
  replace r6 := r6.to b8
  replace cc := cc.trans (b8.mono cc.size)
  clear b8
  go_wp2_with fail
  rw [← hV]
  replace hV := hide hV
  refine (S.scanS _ _ x1 r2 (by omega)).mono ?_
  rintro e w3 ⟨v7, fs, p, rfl, sc, o7, b9⟩
  have r7 := o7.rd
  clear o7
  replace D0 := (b9.cell (cell_lt D0)).trans D0
  replace D1 := (b9.cell (cell_lt D1)).trans D1
  replace E0 := (b9.cell (cell_lt E0)).trans E0
  replace E1 := (b9.cell (cell_lt E1)).trans E1
  replace F0 := (b9.cell (cell_lt F0)).trans F0
  replace F1 := (b9.cell (cell_lt F1)).trans F1
  replace g0 := g0.to b9
  replace g1 := g1.to b9
  replace r1 := r1.to b9
  replace r2 := r2.to b9
  replace r3 := r3.to b9
  replace r4 := r4.to b9
  replace r5 := r5.to b9
  replace r6 := r6.to b9
  replace cc := cc.trans (b9.mono cc.size)
  clear b9
  go_wp2_with fail
  refine (rscan_any _ _ x1 g1 (by omega)).mono ?_
  rintro e w4 ⟨v8, gs, q, rfl, sc2, o8, b10⟩
  have r8 := o8.rd
  clear o8
  replace D0 := (b10.cell (cell_lt D0)).trans D0
  replace D1 := (b10.cell (cell_lt D1)).trans D1
  replace E0 := (b10.cell (cell_lt E0)).trans E0
  replace E1 := (b10.cell (cell_lt E1)).trans E1
  replace F0 := (b10.cell (cell_lt F0)).trans F0
  replace F1 := (b10.cell (cell_lt F1)).trans F1
  replace g0 := g0.to b10
  replace g1 := g1.to b10
  replace r1 := r1.to b10
  replace r2 := r2.to b10
  replace r3 := r3.to b10
  replace r4 := r4.to b10
  replace r5 := r5.to b10
  replace r6 := r6.to b10
  replace r7 := r7.to b10
  replace cc := cc.trans (b10.mono cc.size)
  clear b10
  obtain ⟨rfl, rfl⟩ := sc.one sc2
  have hfsl : fs.length ≤ 1048576 := by have := sc.le; omega
  clear sc sc2
  go_wp2_with fail
  have hq := same_any _ _ _ _ _ r3 r4
  rw [sameB_self] at hq
  refine hq.mono ?_
  rintro e w5 ⟨rfl, nq, hw⟩
  have b11 : Below w4.heap.size w4 w5 := by rw [hw]; exact below_drewN' _ _ _
  clear hq hw
  replace D0 := (b11.cell (cell_lt D0)).trans D0
  replace D1 := (b11.cell (cell_lt D1)).trans D1
  replace E0 := (b11.cell (cell_lt E0)).trans E0
  replace E1 := (b11.cell (cell_lt E1)).trans E1
  replace F0 := (b11.cell (cell_lt F0)).trans F0
  replace F1 := (b11.cell (cell_lt F1)).trans F1
  replace g0 := g0.to b11
  replace g1 := g1.to b11
  replace r1 := r1.to b11
  replace r2 := r2.to b11
  replace r3 := r3.to b11
  replace r4 := r4.to b11
  replace r5 := r5.to b11
  replace r6 := r6.to b11
  replace r7 := r7.to b11
  replace r8 := r8.to b11
  replace cc := cc.trans (b11.mono cc.size)
  clear b11
  go_wp2_with fail
  refine (num3_any _ _).mono ?_
  rintro e w' ⟨rfl, rfl⟩
  go_wp2_with fail
  have hq := fsame_any w5 (fopen x1).2.1 (fopen x1).2.1 _ _ r5 r6
  rw [sameF_self] at hq
  refine hq.mono ?_
  rintro e w6 ⟨rfl, b12⟩
  clear hq
  replace D0 := (b12.cell (cell_lt D0)).trans D0
  replace D1 := (b12.cell (cell_lt D1)).trans D1
  replace E0 := (b12.cell (cell_lt E0)).trans E0
  replace E1 := (b12.cell (cell_lt E1)).trans E1
  replace F0 := (b12.cell (cell_lt F0)).trans F0
  replace F1 := (b12.cell (cell_lt F1)).trans F1
  replace g0 := g0.to b12
  replace g1 := g1.to b12
  replace r1 := r1.to b12
  replace r2 := r2.to b12
  replace r3 := r3.to b12
  replace r4 := r4.to b12
  replace r5 := r5.to b12
  replace r6 := r6.to b12
  replace r7 := r7.to b12
  replace r8 := r8.to b12
  replace cc := cc.trans (b12.mono cc.size)
  clear b12
  go_wp2_with fail
  refine (num3_any _ _).mono ?_
  rintro e w' ⟨rfl, rfl⟩
  obtain ⟨a7, p7, rfl⟩ := r7.slice
  obtain ⟨a8, p8, rfl⟩ := r8.slice
  generalize (fopen x1).2.2 = t2 at *
  generalize (fopen x1).1 = t1 at *
  clear D0 E0 E1 F0 F1 r3 r4 r5 r6
  go_wp2
  go_loopw [21] (fun i wr => ∃ k : Nat, k ≤ fs.length ∧ i = .int .i64 k ∧ Below w6.heap.size w6 wr) (fun i _ => fs.length - (intOf i).toNat)
  case atStart => exact ⟨0, Nat.zero_le _, rfl, Below.refl _ _⟩
  case round =>
    obtain ⟨k, hk, rfl, hb⟩ := hrel
    by_cases hlt : k < fs.length
    · have hq : (k : Int) < (fs.length : Int) := by omega
      obtain ⟨_, _, ee7, _, _, _, q7⟩ := r7.to hb
      obtain ⟨_, _, ee8, _, _, _, q8⟩ := r8.to hb
      cases ee7
      cases ee8
      rcases q7 with q7 | ⟨b7, o7, rfl, h7⟩
      · rw [q7] at hlt; simp at hlt
      rcases q8 with q8 | ⟨b8, o8, rfl, h8⟩
      · rw [q8] at hlt; simp at hlt
      obtain ⟨u7, s7, t7, z7⟩ := h7 k hlt
      obtain ⟨u8', s8, t8, z8⟩ := h8 k hlt
      obtain ⟨as7, cs7, rfl⟩ := z7.slice
      obtain ⟨as8, cs8, rfl⟩ := z8.slice
      have hc := fun u (hu : Below wr.heap.size wr u) => fsame_any u (fs.getD k (0, [])) (fs.getD k (0, [])) _ _ (z7.to hu) (z8.to hu)
      rw [sameF_self] at hc
      have HC := hide hc
      have HB := hide hb
      clear h7 h8 z7 z8 hc hb
      generalize fs.getD k (0, []) = f at *
      go_wp2
      go_region_with (go_at_call 18; refine (HC.out _ (below_drew (Below.refl _ _))).mono ?_; rintro e w7 ⟨rfl, b13⟩)
      all_goals
        have HB2 := hide (HB.out.trans ((below_drew (Below.refl _ wr)).trans b13 |>.mono HB.out.size))
        clear b13 HB HC
        go_wp2
        go_roundw
        case rel => exact ⟨k + 1, by omega, by go_num, HB2.out⟩
        case measure => simp [intOf]; omega
    · replace g0 := g0.to hb
      replace g1 := g1.to hb
      replace r1 := r1.to hb
      replace r2 := r2.to hb
      replace D1 := (hb.cell (cell_lt D1)).trans D1
      replace cc := cc.trans (hb.mono cc.size)
      clear r7 r8 hb
      go_wp2_with fail
      have hq := same_any _ _ _ _ _ r2 g1
      rw [sameB_self] at hq
      refine hq.mono ?_
      rintro e w7 ⟨rfl, nq, hw⟩
      have b14 : Below wr.heap.size wr w7 := by rw [hw]; exact below_drewN' _ _ _
      clear hq hw
      replace D1 := (b14.cell (cell_lt D1)).trans D1
      replace g0 := g0.to b14
      replace r1 := r1.to b14
      replace cc := cc.trans (b14.mono cc.size)
      clear b14 r2 g1
      go_wp2_with fail
      have hq := same_any _ _ _ _ _ r1 g0
      rw [sameB_self] at hq
      refine hq.mono ?_
      rintro e w8 ⟨rfl, nq, hw⟩
      have b15 : Below w7.heap.size w7 w8 := by rw [hw]; exact below_drewN' _ _ _
      replace cc := cc.trans (b15.mono cc.size)
      clear hq hw b15 g0 r1 D1
      go_wp2_with fail
      refine (falive_any S _).mono ?_
      rintro e w9 ⟨rfl, b16⟩
      replace cc := cc.trans (b16.mono cc.size)
      clear b16
      go_wp2
      go_ret
      exact ⟨rfl, cc⟩

theorem walk (w : World) (k0 : UInt8) (sv0 : Value) (x0 : List UInt8) (g0 : Rd w sv0 x0) (m0 : x0.length ≤ 1048576) (a1 : Option Addr) (len1 cap1 : Nat) (x1 : List UInt8) (e1 : x1.length = len1) (g1 : Rd w (.slice a1 len1 cap1) x1) (m1 : len1 ≤ 1048576) :
    Calls Try.prog 3 #[.agg #[.int .u8 (k0.toNat : Int), sv0], .slice a1 len1 cap1] w fun e w' => e = .returned (.bool true) ∧ Below w.heap.size w w' :=
  walkS frames_say w k0 sv0 x0 g0 m0 a1 len1 cap1 x1 e1 g1 m1

set_option maxRecDepth 100000 in
theorem lifted (os : Os) (started : os.Started) (H : Type) (enc : TypeId × Value → H) (F : Stop.Interp) :
    ReturnsInHanded {} Try.checked os 3 .any ((Rows.OpenSpec.upto Rows.framesTellsSpec).pre6 enc Try.prog Try.f3 Rows.framesTellsUptoRow.domain false) (((Rows.OpenSpec.upto Rows.framesTellsSpec).at F).post enc Try.prog Try.f3 false true false false) := by
  refine returnsInHanded_of_cond (C := Try.checked) (s := Rows.OpenSpec.upto Rows.framesTellsSpec) (k := Rows.uptoSmall) rfl own started (by kernel_rfl) Try.func3
    (OpenSpec.witness (enc := enc) (C := Try.checked) (s := Rows.OpenSpec.upto Rows.framesTellsSpec) (k := Rows.uptoSmall) rfl false ⟨#[], #[.agg #[.int .u8 0, .slice none 0 0], .slice none 0 0], []⟩ 8 (by kernel_rfl) (by kernel_rfl) (by kernel_rfl)
      (x := ([.agg [.lit (.int .u8 0), .nil], .nil], [], [])) (by kernel_rfl) rfl (by kernel_rfl)) ?_
  intro W base args ds gs before hval0 hW _ hk _
  have hval : ∀ (j : Nat) t v, Try.f3.params[j]? = some t → args[j]? = some v → Value.okWide Try.prog W .any base t v := hval0
  have hW' := hW
  obtain ⟨p, q, hA0, hV, rfl, hfz, hnd⟩ := hW
  have hA : DataW.TrodAll enc Try.prog W 0 (fun _ => true) true Try.f3.params.toList args.toList ds p := hA0
  rw [Try.params3] at hA hval
  obtain ⟨v0, vs0, d0, ds0, p0, q0, hargs, rfl, rfl, h0, r0⟩ := trodAll_cons hA
  obtain ⟨v1, vs1, d1, ds1, p1, q1, rfl, rfl, rfl, h1, r1⟩ := trodAll_cons r0
  obtain ⟨rfl, rfl, rfl⟩ := trodAll_nil r1
  obtain rfl : args = #[v0, v1] := by cases args; simp_all
  obtain ⟨rfl, rfl⟩ := trodVars_none hV
  have lt0 : ∀ x ∈ p0, x.block < W.heap.size := by obtain ⟨m, hm⟩ := h0; exact DataW.trod_lt m _ _ _ hm
  obtain ⟨k0, sv0, x0, rfl, g0, s0⟩ := open_frame h0 (hval 0 24 v0 rfl rfl)
  obtain ⟨a1, len1, cap1, rfl⟩ := okWide_slice Try.underlying22 (hval 1 22 v1 rfl rfl)
  have lt1 : ∀ x ∈ p1, x.block < W.heap.size := by obtain ⟨m, hm⟩ := h1; exact DataW.trod_lt m _ _ _ hm
  obtain ⟨x1, e1, g1, s1⟩ := open_octs h1
  simp only [List.append_nil] at hk
  have m0 := small_frame hk (d := d0) (by simp) s0
  have m1 := small_octs hk (d := d1) (by simp) s1
  clear hA0 hval0
  refine (walk W k0 sv0 x0 g0 m0 a1 len1 cap1 x1 e1 g1 m1).mono fun e W' ⟨he, bel⟩ => ?_
  subst he
  exact ⟨_, rfl, _, _, _, [], _, [], hW', trodAll_mk1 (shut_bool Try.underlying4 _), (trodAll_cons_mk (Below.trod laidOut (by kernel_rfl) (of_decide_eq_true (by kernel_rfl)) h0 bel lt0) (trodAll_cons_mk (Below.trod laidOut (by kernel_rfl) (of_decide_eq_true (by kernel_rfl)) h1 bel lt1) trodAll_mk0)), rfl, bel.frame _, fun h => by cases h⟩

theorem over : Rows.framesTellsUptoRow.holds Try.pinned (Rows.OpenSpec.upto Rows.framesTellsSpec) :=
  OpenClaim.holds_of_cond 3 Try.f3 rfl rfl rfl rfl rfl rfl rfl ⟨rfl, rfl, rfl, rfl, rfl⟩ rfl rfl rfl rfl rfl (by kernel_rfl) Try.func3 (by kernel_rfl)
    (of_decide_eq_true (by kernel_rfl)) (by unfold Func.isWrapper; first | (rw [if_pos (by decide +kernel)]; kernel_rfl) | (rw [if_neg (by decide +kernel)]; exact ⟨rfl, rfl⟩))
    (fun os started H enc _ F => lifted os started H enc F)

end Go.Proofs.Ytmdbgmnohdeoeaa.framesTells
namespace Go.Proofs.Ytmdbgmnohdeoeaa
/-- THE STATEMENT -/
theorem framesTells_holds : Rows.FramesTellsUptoSaid := framesTells.over
end Go.Proofs.Ytmdbgmnohdeoeaa
