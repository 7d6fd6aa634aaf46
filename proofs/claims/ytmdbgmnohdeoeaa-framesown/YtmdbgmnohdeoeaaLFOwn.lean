/-
  PROVED: whatever frame comes in, transeptlaw03.FramesOwn returns true and leaves the frame as it was: the statement of P3.6 (what is answered is its holder's). No condition beyond the form's own reach.
-/
import Derived.Test.YtmdbgmnohdeoeaaFrF
import Derived.Test.YtmdbgmnohdeoeaaFAlive
import Derived.Test.YtmdbgmnohdeoeaaSpoil
import Derived.Test.YtmdbgmnohdeoeaaFProg
namespace Go.Proofs.Ytmdbgmnohdeoeaa.framesOwn
open Go.ChangeShapes Go.WideShapes Go.ChangeAt Go.RowKit
set_option linter.unusedVariables false

/-- a block's number is below the heap's size -/
theorem own_lt {B : Nat} {w : World} {v : Value} {xs : List UInt8} (h : OwnB B w v xs) : ∀ k, v.ownBlock = some k → B ≤ k ∧ k < w.heap.size := by
  intro k hk
  rcases h.2 with ⟨rfl, _⟩ | ⟨g, cap, cur, rfl, hb, hg, _⟩
  · cases hk
  · simp only [Value.ownBlock, Option.some.injEq] at hk
    subst hk
    refine ⟨hb, ?_⟩
    by_cases hlt : g < w.heap.size
    · exact hlt
    · have : w.heap[g]? = none := by simp; omega
      rw [this] at hg; cases hg

set_option maxHeartbeats 1000000 in
theorem walkS (S : FramesSay) (w : World) (k0 : UInt8) (sv0 : Value) (x0 : List UInt8) (g0 : Rd w sv0 x0) (m0 : x0.length ≤ 140737488351232) :
    Calls Try.prog 7 #[.agg #[.int .u8 (k0.toNat : Int), sv0]] w fun e w' => e = .returned (.bool true) ∧ Below w.heap.size w w' := by
  obtain ⟨a0, c0, rfl⟩ := g0.slice
  obtain ⟨W, hW, d0, d1, b0, s0⟩ := boxed2 w (.int .u8 (k0.toNat : Int)) (.slice a0 x0.length c0) 24
  go_enter Try.func7, Try.ntmps7
  go_wp2_with fail
  rw [← hW]
  replace hW := hide hW
  refine (falive_any S _).mono ?_
  rintro e w1 ⟨rfl, b1⟩
  have e0 : w1.cell? ⟨w.heap.size, 0, none⟩ = some (.int .u8 (k0.toNat : Int)) := (b1.cell (cell_lt d0)).trans d0
  have e1 : w1.cell? ⟨w.heap.size, 1, none⟩ = some (.slice a0 x0.length c0) := (b1.cell (cell_lt d1)).trans d1
  have c1 := b0.trans (b1.mono b0.size)
  have gW1 : w.heap.size < w1.heap.size := cell_lt e0
  have r1 := g0.to c1
  clear d0 d1 b0 b1 s0
  go_wp2_with fail
  refine (copy_any _ _ x0 r1 (by omega)).mono ?_
  rintro e w2 ⟨v2, rfl, o2, b2⟩
  have e0' : w2.cell? ⟨w.heap.size, 0, none⟩ = some (.int .u8 (k0.toNat : Int)) := (b2.cell (cell_lt e0)).trans e0
  have e1' : w2.cell? ⟨w.heap.size, 1, none⟩ = some (.slice a0 x0.length c0) := (b2.cell (cell_lt e1)).trans e1
  have c2 := c1.trans (b2.mono c1.size)
  have gW2 := Nat.le_trans gW1 b2.size
  have HO2 := hide (own_lt o2)
  obtain ⟨a2, p2, rfl⟩ := o2.rd.slice
  clear e0 e1 r1 b2
  go_wp2_with fail
  refine (S.sealS _ k0 _ x0 o2.rd m0).mono ?_
  rintro e w3 ⟨v3, rfl, o3, b3⟩
  have c3 := c2.trans (b3.mono c2.size)
  have f0 : w3.cell? ⟨w.heap.size, 0, none⟩ = some (.int .u8 (k0.toNat : Int)) := (b3.cell (cell_lt e0')).trans e0'
  have f1 : w3.cell? ⟨w.heap.size, 1, none⟩ = some (.slice a0 x0.length c0) := (b3.cell (cell_lt e1')).trans e1'
  have o2' := o2.below (Nat.le_refl _) b3
  have HO3 := hide (own_lt o3)
  clear e0' e1' o2
  by_cases hl : 4096 < x0.length
  · have he : fsealE x0 = 5 := by simp [fsealE, hl]
    have ho : fsealO k0 x0 = [] := by simp [fsealO, hl]
    rw [he]
    rw [ho] at o3
    obtain ⟨a3, p3, rfl⟩ := o3.rd.slice
    clear he ho o3
    go_wp2_with fail
    refine (num3_any _ _).mono ?_
    rintro e w' ⟨rfl, rfl⟩
    go_wp2
    go_ret
    exact ⟨rfl, c3⟩
  have he : fsealE x0 = 0 := by simp [fsealE, hl]
  have ho : fsealO k0 x0 = fseal k0 x0 := by simp [fsealO, hl]
  rw [he]
  rw [ho] at o3
  have hL := fseal_len k0 x0
  have hF := fopen_seal k0 x0 [] (by omega)
  rw [List.append_nil] at hF
  clear he ho
  go_wp2_with fail
  refine (num3_any _ _).mono ?_
  rintro e w' ⟨rfl, rfl⟩
  go_wp2_with fail
  refine (spoil_any _ _ _ x0 o2' (by omega)).mono ?_
  rintro e w4 ⟨rfl, h4⟩
  have n34 : v3.ownBlock = none ∨ v3.ownBlock ≠ (Value.slice a2 x0.length p2).ownBlock := by
    cases h3 : v3.ownBlock with
    | none => exact .inl rfl
    | some g =>
      right
      intro h
      have q1 := HO3.out g h3
      have q2 := HO2.out g h.symm
      omega
  have o4 := World.ownsRow.kept o3 h4 n34
  have nb : some w.heap.size ≠ (Value.slice a2 x0.length p2).ownBlock := by
    intro h
    have q2 := HO2.out w.heap.size h.symm
    omega
  have u0 := h4.cell f0 nb
  have u1 := h4.cell f1 nb
  have c4 : Below w.heap.size w w4 := c3.grown h4 c3.size (fun k hk => by have := HO2.out k hk; omega)
  have o4' : OwnB w2.heap.size w4 v3 (fseal k0 x0) := o4
  have HO4 := hide (own_lt o4')
  clear f0 f1 c3 h4 n34 o4 nb o3 o2' b3
  go_wp2_with fail
  have hq := S.openS _ _ _ o4'.rd (by rw [hL]; omega)
  rw [hF] at hq
  refine hq.mono ?_
  clear hq hF
  rintro e w5 ⟨v5, rfl, o5, b5⟩
  have y0 : w5.cell? ⟨w.heap.size, 0, none⟩ = some (.int .u8 (k0.toNat : Int)) := (b5.cell (cell_lt u0)).trans u0
  have y1 : w5.cell? ⟨w.heap.size, 1, none⟩ = some (.slice a0 x0.length c0) := (b5.cell (cell_lt u1)).trans u1
  have c5 := c4.trans (b5.mono c4.size)
  have o6 := o4'.below (Nat.le_refl _) b5
  obtain ⟨a5, p5, rfl⟩ := o5.rd.slice
  obtain ⟨W5, hW5, z0, z1, bW, sW⟩ := boxed2 w5 (.int .u8 (k0.toNat : Int)) (.slice a5 x0.length p5) 29
  have yy0 : W5.cell? ⟨w.heap.size, 0, none⟩ = some (.int .u8 (k0.toNat : Int)) := (bW.cell (cell_lt y0)).trans y0
  have yy1 : W5.cell? ⟨w.heap.size, 1, none⟩ = some (.slice a0 x0.length c0) := (bW.cell (cell_lt y1)).trans y1
  have cW := c5.trans (bW.mono c5.size)
  have oW := o6.below (Nat.le_refl _) bW
  have xW := o5.below (Nat.le_refl _) bW
  have hs5 := b5.size
  clear u0 u1 c4 b5 o5 o6 y0 y1 c5 bW o4'
  go_wp2_with fail
  rw [← hW5]
  replace hW5 := hide hW5
  refine (spoil_any _ _ _ (fseal k0 x0) oW (by rw [hL]; omega)).mono ?_
  rintro e w6 ⟨rfl, h6⟩
  have HO5 := hide (own_lt xW)
  have n56 : (Value.slice a5 x0.length p5).ownBlock = none ∨ (Value.slice a5 x0.length p5).ownBlock ≠ v3.ownBlock := by
    cases h3 : (Value.slice a5 x0.length p5).ownBlock with
    | none => exact .inl rfl
    | some g =>
      right
      intro h
      have q1 := HO5.out g h3
      have q2 := HO4.out g h.symm
      omega
  have x6 := World.ownsRow.kept xW h6 n56
  have x6' : OwnB w4.heap.size w6 (.slice a5 x0.length p5) x0 := x6
  have nb : some w.heap.size ≠ v3.ownBlock := by
    intro h
    have q2 := HO4.out w.heap.size h.symm
    omega
  have nb5 : some w5.heap.size ≠ v3.ownBlock := by
    intro h
    have q2 := HO4.out w5.heap.size h.symm
    omega
  have t0 := h6.cell yy0 nb
  have t1 := h6.cell yy1 nb
  have t2 := h6.cell z0 nb5
  have t3 := h6.cell z1 nb5
  have c6 : Below w.heap.size w w6 := cW.grown h6 cW.size (fun k hk => by have := HO4.out k hk; omega)
  have r6 := x6'.rd
  have g6 := g0.to c6
  clear yy0 yy1 z0 z1 h6 xW oW cW n56 nb nb5 x6 x6' hs5 sW
  go_wp2_with fail
  refine (num3_any _ _).mono ?_
  rintro e w' ⟨rfl, rfl⟩
  go_wp2_with fail
  have hq := fsame_any w6 (k0, x0) (k0, x0) _ _ r6 g6
  rw [sameF_self] at hq
  refine hq.mono ?_
  rintro e w7 ⟨rfl, b7⟩
  have c7 := c6.trans (b7.mono c6.size)
  clear hq b7
  go_wp2
  go_ret
  exact ⟨rfl, c7⟩

theorem walk (w : World) (k0 : UInt8) (sv0 : Value) (x0 : List UInt8) (g0 : Rd w sv0 x0) (m0 : x0.length ≤ 140737488351232) :
    Calls Try.prog 7 #[.agg #[.int .u8 (k0.toNat : Int), sv0]] w fun e w' => e = .returned (.bool true) ∧ Below w.heap.size w w' :=
  walkS frames_say w k0 sv0 x0 g0 m0

set_option maxRecDepth 100000 in
theorem lifted (os : Os) (started : os.Started) (H : Type) (enc : TypeId × Value → H) :
    ReturnsInHanded {} Try.checked os 7 .any (Rows.framesOwnSpec.pre6 enc Try.prog Try.f7 Rows.framesOwnRow.domain false) (Rows.framesOwnSpec.post enc Try.prog Try.f7 false true false false) := by
  refine returnsInHanded_of_change_sized (C := Try.checked) own started (by kernel_rfl) Try.func7
    (ChangeSpec.witness6 (enc := enc) (C := Try.checked) false ⟨#[], #[.agg #[.int .u8 0, .slice none 0 0]], []⟩ 8 (by kernel_rfl) (by kernel_rfl) (by kernel_rfl) (by kernel_rfl)) ?_
  intro W base args ds gs before hval0 hW hcnd hsz0 _
  have hsz : (DataW.weightsEach Try.prog (Try.f7.params.toList ++ Rows.framesOwnSpec.plain.varTypes Try.prog) (ds ++ gs)).all (· ≤ reachBytes) = true := hsz0
  have hval : ∀ (j : Nat) t v, Try.f7.params[j]? = some t → args[j]? = some v → Value.okWide Try.prog W .any base t v := hval0
  have hW' := hW
  obtain ⟨p, q, hA0, hV, rfl, hfz, hnd⟩ := hW
  have hA : DataW.TrodAll enc Try.prog W 0 (fun _ => true) true Try.f7.params.toList args.toList ds p := hA0
  rw [Try.params7] at hA hval hsz
  obtain ⟨v0, vs0, d0, ds0, p0, q0, hargs, rfl, rfl, h0, r0⟩ := trodAll_cons hA
  obtain ⟨rfl, rfl, rfl⟩ := trodAll_nil r0
  obtain rfl : args = #[v0] := by cases args; simp_all
  obtain ⟨rfl, rfl⟩ := trodVars_none hV
  have lt0 : ∀ x ∈ p0, x.block < W.heap.size := by obtain ⟨m, hm⟩ := h0; exact DataW.trod_lt m _ _ _ hm
  obtain ⟨k0, sv0, x0, rfl, g0, s0⟩ := open_frame h0 (hval 0 24 v0 rfl rfl)
  have m0 := reach_frame hsz (j := 0) rfl rfl s0
  clear hA0 hval0 hsz0 hsz
  refine (walk W k0 sv0 x0 g0 m0).mono fun e W' ⟨he, bel⟩ => ?_
  subst he
  exact ⟨_, rfl, _, _, _, [], _, [], hW', trodAll_mk1 (shut_bool Try.underlying4 _), (trodAll_cons_mk (Below.trod laidOut (by kernel_rfl) (of_decide_eq_true (by kernel_rfl)) h0 bel lt0) trodAll_mk0), rfl, bel.frame _, fun h => by cases h⟩

theorem over : Rows.framesOwnRow.holds Try.pinned (OpenSpec.ofChange Rows.framesOwnSpec) :=
  OpenClaim.holds_of_wide 7 Try.f7 rfl rfl rfl rfl rfl rfl rfl ⟨rfl, rfl, rfl, rfl, rfl⟩ rfl rfl rfl rfl rfl (by kernel_rfl) Try.func7 (by kernel_rfl)
    (of_decide_eq_true (by kernel_rfl)) (by unfold Func.isWrapper; first | (rw [if_pos (by decide +kernel)]; kernel_rfl) | (rw [if_neg (by decide +kernel)]; exact ⟨rfl, rfl⟩))
    (fun os started H enc _ => lifted os started H enc)

end Go.Proofs.Ytmdbgmnohdeoeaa.framesOwn
namespace Go.Proofs.Ytmdbgmnohdeoeaa
/-- THE STATEMENT -/
theorem framesOwn_holds : Rows.FramesOwnSaid := framesOwn.over
end Go.Proofs.Ytmdbgmnohdeoeaa
