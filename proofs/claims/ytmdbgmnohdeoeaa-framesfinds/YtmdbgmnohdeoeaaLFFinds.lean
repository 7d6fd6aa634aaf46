/-
  PROVED: whatever frame and place come in, transeptlaw03.FramesFinds returns true and leaves the frame as it was: the statement of P3.5 (a frame with one bit turned, but of its length, is not opened). No condition beyond the form's own reach.
-/
import Derived.BigRegion
import Derived.Test.YtmdbgmnohdeoeaaFrF
import Derived.Test.YtmdbgmnohdeoeaaFAlive
import Derived.Test.YtmdbgmnohdeoeaaFFlip
import Derived.Test.YtmdbgmnohdeoeaaFProg
namespace Go.Proofs.Ytmdbgmnohdeoeaa.framesFinds
open Go.ChangeShapes Go.WideShapes Go.ChangeAt Go.RowKit
set_option linter.unusedVariables false

theorem mod256 (P : Nat) (h : P < 256) : (P : Int) % 256 = (P : Int) := by omega

set_option maxHeartbeats 1000000 in
theorem walkS (S : FramesSay) (w : World) (k0 : UInt8) (sv0 : Value) (x0 : List UInt8) (g0 : Rd w sv0 x0) (m0 : x0.length ≤ 140737488351232) (a1 : Int) (w1 : (Lit.int .i64 a1).wf = true) :
    Calls Try.prog 6 #[.agg #[.int .u8 (k0.toNat : Int), sv0], .int .i64 a1] w fun e w' => e = .returned (.bool true) ∧ Below w.heap.size w w' := by
  have hx1 : -9223372036854775808 ≤ a1 ∧ a1 ≤ 9223372036854775807 := by simpa [Lit.wf, IntKind.min, IntKind.max, IntKind.signed, IntKind.bits] using w1
  obtain ⟨a0, c0, rfl⟩ := g0.slice
  obtain ⟨W, hW, d0, d1, b0, s0⟩ := boxed2 w (.int .u8 (k0.toNat : Int)) (.slice a0 x0.length c0) 24
  clear w1
  go_enter Try.func6, Try.ntmps6
  go_wp2_with fail
  rw [← hW]
  replace hW := hide hW
  refine (falive_any S _).mono ?_
  rintro e w1 ⟨rfl, b1⟩
  have e0 : w1.cell? ⟨w.heap.size, 0, none⟩ = some (.int .u8 (k0.toNat : Int)) := (b1.cell (cell_lt d0)).trans d0
  have e1 : w1.cell? ⟨w.heap.size, 1, none⟩ = some (.slice a0 x0.length c0) := (b1.cell (cell_lt d1)).trans d1
  have c1 := b0.trans (b1.mono b0.size)
  replace g0 := g0.to c1
  clear d0 d1 b0 b1 s0
  go_wp2_with fail
  refine (S.sealS _ k0 _ x0 g0 m0).mono ?_
  rintro e w2 ⟨v2, rfl, o2, b2⟩
  have c2 := c1.trans (b2.mono c1.size)
  have hwl : w.heap.size ≤ w1.heap.size := c1.size
  clear b2 c1 e0 e1 g0
  by_cases hl : 4096 < x0.length
  · have he : fsealE x0 = 5 := by simp [fsealE, hl]
    have ho : fsealO k0 x0 = [] := by simp [fsealO, hl]
    rw [he]
    rw [ho] at o2
    obtain ⟨a2, cp2, rfl⟩ := o2.rd.slice
    clear he ho o2
    go_wp2_with fail
    refine (num3_any _ _).mono ?_
    rintro e w' ⟨rfl, rfl⟩
    go_wp2
    go_ret
    exact ⟨rfl, c2⟩
  have he : fsealE x0 = 0 := by simp [fsealE, hl]
  have ho : fsealO k0 x0 = fseal k0 x0 := by simp [fsealO, hl]
  rw [he]
  rw [ho] at o2
  have hL := fseal_len k0 x0
  obtain ⟨len, hlen⟩ : ∃ len, x0.length + 8 = len := ⟨_, rfl⟩
  rcases o2.2 with ⟨_, h⟩ | ⟨g, cap, cur, rfl, hgb, _, _, _, _, _⟩
  · rw [hL] at h; omega
  unfold OwnB at o2
  rw [hL, hlen] at o2 ⊢
  obtain ⟨N, hN⟩ : ∃ N : Int, N = 8 * (len : Int) := ⟨_, rfl⟩
  have HN := hide hN
  have hNp : 0 < N := by omega
  have hNm : N ≤ 1000000 := by omega
  have l1 := Int.lt_tmod_of_pos a1 hNp
  have l2 := Int.tmod_lt_of_pos a1 hNp
  have k1 := Int.emod_nonneg (a1.tmod N + N) (b := N) (by omega)
  have k2 := Int.emod_lt_of_pos (a1.tmod N + N) hNp
  obtain ⟨p, hp⟩ : ∃ p : Nat, (a1.tmod N + N) % N = (p : Int) := ⟨((a1.tmod N + N) % N).toNat, (Int.toNat_of_nonneg k1).symm⟩
  have hpl : p < 8 * len := by have := HN.out; omega
  have hN2 := hN.symm
  obtain ⟨q, hqe⟩ : ∃ q, q = p / 8 := ⟨_, rfl⟩
  obtain ⟨r, hre⟩ : ∃ r, r = p % 8 := ⟨_, rfl⟩
  have j2 : (p : Int) / 8 = (q : Int) := by omega
  have j3 : (p : Int) % 8 = (r : Int) := by omega
  have j4 : (q : Int) < (len : Int) := by omega
  have r8 : (r : Int) < 8 := by omega
  have hpb : (p : Int) ≤ 1000000 := by omega
  clear hN he ho
  replace hqe := hide hqe
  replace hre := hide hre
  by_cases h2 : q = 2
  · subst h2
    go_wp2_with fail
    refine (num3_any _ _).mono ?_
    rintro e w' ⟨rfl, rfl⟩
    go_wp2
    go_ret
    exact ⟨rfl, c2⟩
  by_cases h3 : q = 3
  · subst h3
    go_wp2_with fail
    refine (num3_any _ _).mono ?_
    rintro e w' ⟨rfl, rfl⟩
    go_wp2
    go_ret
    exact ⟨rfl, c2⟩
  have g2 : ((q : Int) == 2) = false := by simp; omega
  have g3 : ((q : Int) == 3) = false := by simp; omega
  have q2 : q ≠ 2 := h2
  have q3 : q ≠ 3 := h3
  have fz := o2.frozenAt q
  have cl : w2.cell? ⟨g, q, none⟩ = some (.int .u8 (bt (fseal k0 x0) q)) := by
    rw [o2.cellAt q (by omega)]
    simp [enc, bt, show q < (fseal k0 x0).length by rw [hL]; omega]
  have HX : bits .xor .u8 (bt (fseal k0 x0) q) ((2 : Int) ^ r % 256) = (((fseal k0 x0).getD q 0 ^^^ UInt8.ofNat (2 ^ r)).toNat : Int) := by
    have e3 : 2 ^ r < 256 := Nat.pow_lt_pow_right (a := 2) (n := 8) (by decide) (by omega)
    have hc : (2 : Int) ^ r = ((2 ^ r : Nat) : Int) := by simp
    rw [show (2 : Int) ^ r % 256 = ((2 ^ r : Nat) : Int) from by rw [hc]; exact mod256 _ e3]
    unfold bt
    rw [u8_xor_nat _ _ (UInt8.toNat_lt _) e3, UInt8.toNat_xor, UInt8.toNat_ofNat_of_lt' e3]
  have hst := o2.stored q (.int .u8 (bits .xor .u8 (bt (fseal k0 x0) q) ((2 : Int) ^ r % 256)))
  have HS : Hid (OwnB w1.heap.size (w2.setCell ⟨g, q, none⟩ (.int .u8 (bits .xor .u8 (bt (fseal k0 x0) q) ((2 : Int) ^ r % 256)))).drew (.slice (some ⟨g, 0, none⟩) len cap) (fl (fseal k0 x0) p)) := by
    have h1 := hst.1
    show OwnB _ _ _ _
    unfold OwnB
    rw [fl_len, hL, hlen, show (fl (fseal k0 x0) p).map enc = ((fseal k0 x0).map enc).set q (.int .u8 (bits .xor .u8 (bt (fseal k0 x0) q) ((2 : Int) ^ r % 256))) from by
      rw [HX]; unfold fl; rw [← hqe.out, ← hre.out, List.map_set]; rfl]
    exact h1
  have HB : Hid (Below w.heap.size w (w2.setCell ⟨g, q, none⟩ (.int .u8 (bits .xor .u8 (bt (fseal k0 x0) q) ((2 : Int) ^ r % 256)))).drew) :=
    below_drew (c2.setCell (p := ⟨g, q, none⟩) (Nat.le_trans hwl hgb) _)
  have HF := hide (fopen_flip k0 x0 (by omega) p (by have := hqe.out; omega) (by rw [← hqe.out]; exact q2) (by rw [← hqe.out]; exact q3))
  have hfl : (fl (fseal k0 x0) p).length ≤ 140737488351232 := by rw [fl_len, hL]; omega
  have hbd := bt_bd (fseal k0 x0) q
  clear HX hst o2 c2 h2 h3 q2 q3
  generalize bt (fseal k0 x0) q = z at *
  go_wp2_with fail
  refine (num3_any _ _).mono ?_
  rintro e w' ⟨rfl, rfl⟩
  go_wp2
  go_region
  go_wp2_with fail
  refine (S.openS _ _ _ HS.out.rd hfl).mono ?_
  rintro e w3 ⟨v3, rfl, o3, b3⟩
  obtain ⟨f1, f2⟩ := fopen_no HF.out
  have c3 := HB.out.trans (b3.mono HB.out.size)
  rw [f1] at o3 ⊢
  rw [f2]
  obtain ⟨a3, cp3, rfl⟩ := o3.rd.slice
  have hne : (((fopen (fl (fseal k0 x0) p)).1 : Nat) : Int) ≠ 0 := by have := HF.out; omega
  have hd : ((((fopen (fl (fseal k0 x0) p)).1 : Nat) : Int) != 0) = true := by simp only [bne_iff_ne]; exact hne
  clear o3 b3 HS HB HF f1 f2 hne
  generalize (fopen (fl (fseal k0 x0) p)).1 = er at *
  go_wp2_with fail
  refine (num3_any _ _).mono ?_
  rintro e w' ⟨rfl, rfl⟩
  go_wp2
  go_ret
  exact ⟨rfl, c3.trans ((Below.refl _ _).alloc c3.size _)⟩

theorem walk (w : World) (k0 : UInt8) (sv0 : Value) (x0 : List UInt8) (g0 : Rd w sv0 x0) (m0 : x0.length ≤ 140737488351232) (a1 : Int) (w1 : (Lit.int .i64 a1).wf = true) :
    Calls Try.prog 6 #[.agg #[.int .u8 (k0.toNat : Int), sv0], .int .i64 a1] w fun e w' => e = .returned (.bool true) ∧ Below w.heap.size w w' :=
  walkS frames_say w k0 sv0 x0 g0 m0 a1 w1

set_option maxRecDepth 100000 in
theorem lifted (os : Os) (started : os.Started) (H : Type) (enc : TypeId × Value → H) :
    ReturnsInHanded {} Try.checked os 6 .any (Rows.framesFindsSpec.pre6 enc Try.prog Try.f6 Rows.framesFindsRow.domain false) (Rows.framesFindsSpec.post enc Try.prog Try.f6 false true false false) := by
  refine returnsInHanded_of_change_sized (C := Try.checked) own started (by kernel_rfl) Try.func6
    (ChangeSpec.witness6 (enc := enc) (C := Try.checked) false ⟨#[], #[.agg #[.int .u8 0, .slice none 0 0], .int .i64 0], []⟩ 8 (by kernel_rfl) (by kernel_rfl) (by kernel_rfl) (by kernel_rfl)) ?_
  intro W base args ds gs before hval0 hW hcnd hsz0 _
  have hsz : (DataW.weightsEach Try.prog (Try.f6.params.toList ++ Rows.framesFindsSpec.plain.varTypes Try.prog) (ds ++ gs)).all (· ≤ reachBytes) = true := hsz0
  have hval : ∀ (j : Nat) t v, Try.f6.params[j]? = some t → args[j]? = some v → Value.okWide Try.prog W .any base t v := hval0
  have hW' := hW
  obtain ⟨p, q, hA0, hV, rfl, hfz, hnd⟩ := hW
  have hA : DataW.TrodAll enc Try.prog W 0 (fun _ => true) true Try.f6.params.toList args.toList ds p := hA0
  rw [Try.params6] at hA hval hsz
  obtain ⟨v0, vs0, d0, ds0, p0, q0, hargs, rfl, rfl, h0, r0⟩ := trodAll_cons hA
  obtain ⟨v1, vs1, d1, ds1, p1, q1, rfl, rfl, rfl, h1, r1⟩ := trodAll_cons r0
  obtain ⟨rfl, rfl, rfl⟩ := trodAll_nil r1
  obtain rfl : args = #[v0, v1] := by cases args; simp_all
  obtain ⟨rfl, rfl⟩ := trodVars_none hV
  have lt0 : ∀ x ∈ p0, x.block < W.heap.size := by obtain ⟨m, hm⟩ := h0; exact DataW.trod_lt m _ _ _ hm
  obtain ⟨k0, sv0, x0, rfl, g0, s0⟩ := open_frame h0 (hval 0 24 v0 rfl rfl)
  obtain ⟨a1, rfl, rfl, rfl, w1⟩ := open_int Try.underlying3 (hval 1 3 v1 rfl rfl) h1
  have m0 := reach_frame hsz (j := 0) rfl rfl s0
  clear hA0 hval0 hsz0 hsz
  refine (walk W k0 sv0 x0 g0 m0 a1 w1).mono fun e W' ⟨he, bel⟩ => ?_
  subst he
  exact ⟨_, rfl, _, _, _, [], _, [], hW', trodAll_mk1 (shut_bool Try.underlying4 _), (trodAll_cons_mk (Below.trod laidOut (by kernel_rfl) (of_decide_eq_true (by kernel_rfl)) h0 bel lt0) (trodAll_cons_mk (shut_int Try.underlying3 w1) trodAll_mk0)), rfl, bel.frame _, fun h => by cases h⟩

theorem over : Rows.framesFindsRow.holds Try.pinned (OpenSpec.ofChange Rows.framesFindsSpec) :=
  OpenClaim.holds_of_wide 6 Try.f6 rfl rfl rfl rfl rfl rfl rfl ⟨rfl, rfl, rfl, rfl, rfl⟩ rfl rfl rfl rfl rfl (by kernel_rfl) Try.func6 (by kernel_rfl)
    (of_decide_eq_true (by kernel_rfl)) (by unfold Func.isWrapper; first | (rw [if_pos (by decide +kernel)]; kernel_rfl) | (rw [if_neg (by decide +kernel)]; exact ⟨rfl, rfl⟩))
    (fun os started H enc _ => lifted os started H enc)

end Go.Proofs.Ytmdbgmnohdeoeaa.framesFinds
namespace Go.Proofs.Ytmdbgmnohdeoeaa
/-- THE STATEMENT -/
theorem framesFinds_holds : Rows.FramesFindsSaid := framesFinds.over
end Go.Proofs.Ytmdbgmnohdeoeaa
