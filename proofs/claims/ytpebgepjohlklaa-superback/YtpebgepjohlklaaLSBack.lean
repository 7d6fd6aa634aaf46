/-
  PROVED: whatever block and place come in, transeptlaw06.SuperBack returns true and leaves the block as it was: the statement of P6.3 (a block is read back from its octets; with one bit turned they are read as none).
-/
import Derived.Deep.CutRange
import Derived.BigRegion
import Derived.Laws.BitsAllLaws
import Derived.Test.YtpebgepjohlklaaSAlive
namespace Go.Proofs.Ytpebgepjohlklaa.superBack
open Go.ChangeShapes Go.WideShapes Go.ChangeAt Go.RowKit
set_option linter.unusedVariables false

theorem mod256 (P : Nat) (h : P < 256) : (P : Int) % 256 = (P : Int) := by omega
theorem bit_ne (r : Nat) (h : r < 8) : UInt8.ofNat (2 ^ r) ≠ 0 := by
  intro e
  have e3 : 2 ^ r < 256 := Nat.pow_lt_pow_right (a := 2) (n := 8) (by decide) h
  have := congrArg UInt8.toNat e
  rw [UInt8.toNat_ofNat_of_lt' e3] at this
  have := Nat.two_pow_pos r
  simp at *
set_option maxRecDepth 100000 in
set_option maxHeartbeats 4000000 in
theorem walk (w : World) (cs0 : Array Value) (x0 : Blk) (g0 : SBlk.rd w cs0.toList x0) (m0 : bwf x0) (a1 : Int) (w1' : (Lit.int .i64 a1).wf = true) :
    Calls Try.prog 5 #[.agg cs0, .int .i64 a1] w fun e w' => e = .returned (.bool true) ∧ Below w.heap.size w w' := by
  have hx1 := wf_int6 w1'
  obtain rfl := blk_form g0
  clear g0 m0 w1'
  have KE := fun u => pencode_any u x0
  by_cases hok : bok x0
  · rw [senc_ok hok] at KE
    obtain ⟨Y, hY⟩ : ∃ Y, Y = sencO x0 := ⟨_, rfl⟩
    have hYl : Y.length = 64 := by rw [hY]; exact sencO_len _
    have hYd : sdec Y = (x0, 0) := by rw [hY]; exact sdec_enc hok
    have hT : Hid (∀ k c, k < 64 → c ≠ 0 → (sdec (fx Y k c)).2 ≠ 0) := by rw [hY]; exact fun k c hk hc => sdec_turned x0 hk hc
    rw [← hY] at KE
    clear hY hok
    obtain ⟨n0, n1, n2, n3, n4⟩ := x0
    dsimp only at KE ⊢
    replace KE := hide KE
    obtain ⟨X, hX, X0, bX, sX⟩ := boxedN w #[.int .i64 n0, .int .i64 n1, .int .i64 n2, .int .i64 n3, .int .i64 n4] 23
    go_enter Try.func5, Try.ntmps5
    go_wp2_with fail
    rw [← hX]
    replace hX := hide hX
    refine (salive_any X).mono ?_
    rintro e w1 ⟨rfl, b1⟩
    have c1 := bX.trans (b1.mono bX.size)
    have X1 : w1.heap[w.heap.size]? = _ := (b1.block _ (by omega)).trans X0
    obtain ⟨⟨d0, d1, d2, d3, d4⟩, _⟩ := cells5 X1
    clear X0 bX b1
    go_wp2_with fail
    refine (KE.out w1).mono ?_
    rintro e w2 ⟨v2, rfl, o2, b2⟩
    clear KE d0 d1 d2 d3 d4
    have X2 := (b2.block _ (lt_of_block X1)).trans X1
    have c2 := c1.trans (b2.mono c1.size)
    have hgl : w.heap.size ≤ w1.heap.size := c1.size
    have hXlt : w.heap.size < w1.heap.size := lt_of_block X1
    obtain ⟨g, cap, rfl, hgb⟩ : ∃ g cap, v2 = .slice (some ⟨g, 0, none⟩) 64 cap ∧ w1.heap.size ≤ g := by
      rcases o2.2 with ⟨_, h⟩ | ⟨g, cap, cur, hv, hgb, _⟩
      · rw [hYl] at h; cases h
      · rw [hYl] at hv; exact ⟨g, cap, hv, hgb⟩
    have KD := hide (pdecode_any w2 _ Y o2.rd)
    rw [hYd] at KD
    dsimp only at KD
    clear hYd X1 c1 b2
    go_wp2_with fail
    refine (num6_any _ _).mono ?_
    rintro e w' ⟨rfl, rfl⟩
    go_wp2_with fail
    refine KD.out.mono ?_
    rintro e w3 ⟨rfl, b3⟩
    clear KD
    obtain ⟨Z, hZ, Z0, bZ, sZ⟩ := boxedN w3 #[.int .i64 n0, .int .i64 n1, .int .i64 n2, .int .i64 n3, .int .i64 n4] 28
    have b3Z := b3.trans (bZ.mono b3.size)
    have o3 := o2.below (Nat.le_refl _) b3Z
    have X3 := (b3Z.block _ (lt_of_block X2)).trans X2
    have c3 := c2.trans (b3Z.mono c2.size)
    obtain ⟨gz, hgz⟩ : ∃ g, g = w3.heap.size := ⟨_, rfl⟩
    rw [← hgz] at Z0
    have hgne : g ≠ gz := by
      rw [hgz]
      have h1 := (World.ownsRow.lt o2 g rfl).2
      have h2 := b3.size
      omega
    clear o2 X2 c2 bZ b3Z b3
    -- which bit
    have hu0 : 0 ≤ a1.tmod 512 % 512 := Int.emod_nonneg _ (by decide)
    have hu1 : a1.tmod 512 % 512 < 512 := Int.emod_lt_of_pos _ (by decide)
    have hr1 : -512 < a1.tmod 512 := Int.lt_tmod_of_pos a1 (by decide)
    have hr2 : a1.tmod 512 < 512 := Int.tmod_lt_of_pos a1 (by decide)
    go_upto_region 8 with fail
    rw [← hZ, ← hgz]
    replace hZ := hide hZ
    replace hgz := hide hgz
    obtain ⟨p, hp⟩ : ∃ p : Nat, a1.tmod 512 % 512 = (p : Int) := ⟨(a1.tmod 512 % 512).toNat, by omega⟩
    simp only [Int.add_emod_right, hp]
    have hpl : p < 512 := by omega
    obtain ⟨q, hqe⟩ : ∃ q, q = p / 8 := ⟨_, rfl⟩
    obtain ⟨r, hre⟩ : ∃ r, r = p % 8 := ⟨_, rfl⟩
    have j2 : (p : Int) / 8 = (q : Int) := by omega
    have j3 : (p : Int) % 8 = (r : Int) := by omega
    have j4 : (q : Int) < 64 := by omega
    have r8 : (r : Int) < 8 := by omega
    have hpb : (p : Int) ≤ 1000000 := by omega
    have hq64 : q < 64 := by omega
    have hr8 : r < 8 := by omega
    replace hqe := hide hqe
    replace hre := hide hre
    clear hp hu0 hu1 hr1 hr2
    have fz := World.ownsRow.frozenAt (show Z.ownsRow w1.heap.size 5 1 (.slice (some ⟨g, 0, none⟩) 64 cap) 64 (Y.map enc) by have := o3; unfold OwnB at this; rwa [hYl] at this) q
    have hrow : Z.ownsRow w1.heap.size 5 1 (.slice (some ⟨g, 0, none⟩) 64 cap) 64 (Y.map enc) := by have := o3; unfold OwnB at this; rwa [hYl] at this
    have cl : Z.cell? ⟨g, q, none⟩ = some (.int .u8 (bt Y q)) := by
      rw [hrow.cellAt q (by omega)]
      simp [enc, bt, show q < Y.length by omega]
    have HX : bits .xor .u8 (bt Y q) ((2 : Int) ^ r % 256) = ((Y.getD q 0 ^^^ UInt8.ofNat (2 ^ r)).toNat : Int) := by
      have e3 : 2 ^ r < 256 := Nat.pow_lt_pow_right (a := 2) (n := 8) (by decide) (by omega)
      have hc : (2 : Int) ^ r = ((2 ^ r : Nat) : Int) := by simp
      rw [show (2 : Int) ^ r % 256 = ((2 ^ r : Nat) : Int) from by rw [hc]; exact mod256 _ e3]
      unfold bt
      rw [u8_xor_nat _ _ (UInt8.toNat_lt _) e3, UInt8.toNat_xor, UInt8.toNat_ofNat_of_lt' e3]
    have hst := hrow.stored q (.int .u8 (bits .xor .u8 (bt Y q) ((2 : Int) ^ r % 256)))
    obtain ⟨T, hTe⟩ : ∃ T, T = fx Y q (UInt8.ofNat (2 ^ r)) := ⟨_, rfl⟩
    have HS : Hid (OwnB w1.heap.size (Z.setCell ⟨g, q, none⟩ (.int .u8 (bits .xor .u8 (bt Y q) ((2 : Int) ^ r % 256)))).drew (.slice (some ⟨g, 0, none⟩) 64 cap) T) := by
      have h1 := hst.1
      show OwnB _ _ _ _
      unfold OwnB
      rw [hTe, fx_len, hYl, show (fx Y q (UInt8.ofNat (2 ^ r))).map enc = (Y.map enc).set q (.int .u8 (bits .xor .u8 (bt Y q) ((2 : Int) ^ r % 256))) from by
        rw [HX]; unfold fx; rw [List.map_set]; rfl]
      exact h1
    have HB : Hid (Below w.heap.size w (Z.setCell ⟨g, q, none⟩ (.int .u8 (bits .xor .u8 (bt Y q) ((2 : Int) ^ r % 256)))).drew) :=
      below_drew (c3.setCell (p := ⟨g, q, none⟩) (Nat.le_trans hgl hgb) _)
    have HXX : Hid ((Z.setCell ⟨g, q, none⟩ (.int .u8 (bits .xor .u8 (bt Y q) ((2 : Int) ^ r % 256)))).drew.heap[w.heap.size]? = some (.cells #[.int .i64 n0, .int .i64 n1, .int .i64 n2, .int .i64 n3, .int .i64 n4] 23 (0, 0))) := by
      show (Z.setCell _ _).heap[w.heap.size]? = _
      rw [Below.heap_setCell _ _ _ _ (by show w.heap.size ≠ g; omega)]; exact X3
    have HZZ : Hid ((Z.setCell ⟨g, q, none⟩ (.int .u8 (bits .xor .u8 (bt Y q) ((2 : Int) ^ r % 256)))).drew.heap[gz]? = some (.cells #[.int .i64 n0, .int .i64 n1, .int .i64 n2, .int .i64 n3, .int .i64 n4] 28 (0, 0))) := by
      show (Z.setCell _ _).heap[gz]? = _
      rw [Below.heap_setCell _ _ _ _ (by show gz ≠ g; exact Ne.symm hgne)]; exact Z0
    have HF := hide (hT.out q (UInt8.ofNat (2 ^ r)) hq64 (bit_ne r hr8))
    rw [← hTe] at HF
    have hbd := bt_bd Y q
    clear HX hst hrow o3 c3 X3 Z0 hT hTe hYl
    generalize bt Y q = z at *
    go_region
    have KD2 := hide (pdecode_any _ _ T HS.out.rd)
    obtain ⟨p0, p1, p2, p3, p4, er, hD⟩ : ∃ p0 p1 p2 p3 p4 er, sdec T = ((p0, p1, p2, p3, p4), er) := ⟨_, _, _, _, _, _, rfl⟩
    rw [hD] at KD2 HF
    dsimp only at KD2 HF
    clear hD fz cl
    go_wp2_with fail
    refine KD2.out.mono ?_
    rintro e w5 ⟨rfl, b5⟩
    clear KD2
    obtain ⟨U, hU, U0, bU, sU⟩ := boxedN w5 #[.int .i64 p0, .int .i64 p1, .int .i64 p2, .int .i64 p3, .int .i64 p4] 28
    have b5U := b5.trans (bU.mono b5.size)
    have X5 := (b5U.block _ (lt_of_block HXX.out)).trans HXX.out
    have Z5 := (b5U.block _ (lt_of_block HZZ.out)).trans HZZ.out
    have c5 := hide (HB.out.trans (b5U.mono HB.out.size))
    obtain ⟨⟨d0, d1, d2, d3, d4⟩, _⟩ := cells5 X5
    obtain ⟨⟨y0, y1, y2, y3, y4⟩, _⟩ := cells5 Z5
    have hne : (er != 0) = true := by simpa using HF.out
    clear HS HB HXX HZZ b5 bU b5U X5 Z5 U0
    go_upto_region 10 with fail
    rw [← hU]
    replace hU := hide hU
    go_wp2_with fail
    refine (num6_any _ _).mono ?_
    rintro e w' ⟨rfl, rfl⟩
    go_wp2_with fail
    refine (num6_any _ _).mono ?_
    rintro e w' ⟨rfl, rfl⟩
    go_wp2
    go_ret
    exact ⟨rfl, c5.out⟩
  · rw [senc_no hok] at KE
    obtain ⟨n0, n1, n2, n3, n4⟩ := x0
    dsimp only at KE ⊢
    replace KE := hide KE
    clear hok
    obtain ⟨X, hX, X0, bX, sX⟩ := boxedN w #[.int .i64 n0, .int .i64 n1, .int .i64 n2, .int .i64 n3, .int .i64 n4] 23
    go_enter Try.func5, Try.ntmps5
    go_wp2_with fail
    rw [← hX]
    replace hX := hide hX
    refine (salive_any X).mono ?_
    rintro e w1 ⟨rfl, b1⟩
    have c1 := bX.trans (b1.mono bX.size)
    have X1 : w1.heap[w.heap.size]? = _ := (b1.block _ (by omega)).trans X0
    obtain ⟨⟨d0, d1, d2, d3, d4⟩, _⟩ := cells5 X1
    clear X0 bX b1
    go_wp2_with fail
    refine (KE.out w1).mono ?_
    rintro e w2 ⟨v2, rfl, o2, b2⟩
    have c2 := hide (c1.trans (b2.mono c1.size))
    obtain ⟨a2, e2, rfl⟩ := o2.rd.slice
    clear o2 b2 c1 d0 d1 d2 d3 d4 X1
    go_wp2_with fail
    refine (num6_any _ _).mono ?_
    rintro e w' ⟨rfl, rfl⟩
    go_wp2
    go_ret
    exact ⟨rfl, c2.out⟩

set_option maxRecDepth 100000 in
theorem lifted (os : Os) (started : os.Started) (H : Type) (enc : TypeId × Value → H) :
    ReturnsInHanded {} Try.checked os 5 .any (Rows.superBackSpec.pre6 enc Try.prog Try.f5 Rows.superBackRow.domain false) (Rows.superBackSpec.post enc Try.prog Try.f5 false true false false) := by
  refine returnsInHanded_of_change_sized (C := Try.checked) own started (by kernel_rfl) Try.func5
    (ChangeSpec.witness6 (enc := enc) (C := Try.checked) false ⟨#[], #[.agg #[.int .i64 0, .int .i64 0, .int .i64 0, .int .i64 0, .int .i64 0], .int .i64 0], []⟩ 8 (by kernel_rfl) (by kernel_rfl) (by kernel_rfl) (by kernel_rfl)) ?_
  intro W base args ds gs before hval0 hW hcnd hsz0 _
  have hsz : (DataW.weightsEach Try.prog (Try.f5.params.toList ++ Rows.superBackSpec.plain.varTypes Try.prog) (ds ++ gs)).all (· ≤ reachBytes) = true := hsz0
  have hval : ∀ (j : Nat) t v, Try.f5.params[j]? = some t → args[j]? = some v → Value.okWide Try.prog W .any base t v := hval0
  have hW' := hW
  obtain ⟨p, q, hA0, hV, rfl, hfz, hnd⟩ := hW
  have hA : DataW.TrodAll enc Try.prog W 0 (fun _ => true) true Try.f5.params.toList args.toList ds p := hA0
  rw [Try.params5] at hA hval hsz
  obtain ⟨v0, vs0, d0, ds0, p0, q0, hargs, rfl, rfl, h0, r0⟩ := trodAll_cons hA
  obtain ⟨v1, vs1, d1, ds1, p1, q1, rfl, rfl, rfl, h1, r1⟩ := trodAll_cons r0
  obtain ⟨rfl, rfl, rfl⟩ := trodAll_nil r1
  obtain rfl : args = #[v0, v1] := by cases args; simp_all
  obtain ⟨rfl, rfl⟩ := trodVars_none hV
  obtain ⟨cs0, rfl, _⟩ := okWide_struct Try.underlying23 (hval 0 23 v0 rfl rfl)
  have lt0 : ∀ x ∈ p0, x.block < W.heap.size := by obtain ⟨m, hm⟩ := h0; exact DataW.trod_lt m _ _ _ hm
  have hh0 := h0
  obtain ⟨fu0, hf0⟩ := hh0
  obtain ⟨x0, g0, f0, b0⟩ := open_blk.opened hf0
  obtain ⟨a1, rfl, rfl, rfl, w1⟩ := open_int Try.underlying3 (hval 1 3 v1 rfl rfl) h1
  have m0 := f0 (reach_of hsz (j := 0) rfl rfl)
  clear hA0 hval0 hsz0 hsz
  refine (walk W cs0 x0 g0 m0 a1 w1).mono fun e W' ⟨he, bel⟩ => ?_
  subst he
  exact ⟨_, rfl, _, _, _, [], _, [], hW', trodAll_mk1 (shut_bool Try.underlying4 _), (trodAll_cons_mk (Below.trod laidOut (by kernel_rfl) (of_decide_eq_true (by kernel_rfl)) h0 bel lt0) (trodAll_cons_mk (shut_int Try.underlying3 w1) trodAll_mk0)), rfl, bel.frame _, fun h => by cases h⟩

theorem over : Rows.superBackRow.holds Try.pinned (OpenSpec.ofChange Rows.superBackSpec) :=
  OpenClaim.holds_of_wide 5 Try.f5 rfl rfl rfl rfl rfl rfl rfl ⟨rfl, rfl, rfl, rfl, rfl⟩ rfl rfl rfl rfl rfl (by kernel_rfl) Try.func5 (by kernel_rfl)
    (of_decide_eq_true (by kernel_rfl)) (by unfold Func.isWrapper; first | (rw [if_pos (by decide +kernel)]; kernel_rfl) | (rw [if_neg (by decide +kernel)]; exact ⟨rfl, rfl⟩))
    (fun os started H enc _ => lifted os started H enc)

end Go.Proofs.Ytpebgepjohlklaa.superBack
namespace Go.Proofs.Ytpebgepjohlklaa
/-- THE STATEMENT -/
theorem superBack_holds : Rows.SuperBackSaid := superBack.over
end Go.Proofs.Ytpebgepjohlklaa
