/-
  PROVED: whatever state and octets come in, transeptlaw04.DiskOwn returns true and leaves them as they were: the statement of P4.6 (the state that follows shares nothing with the one handed in).
-/
import Derived.Test.YthomioojkpmmgaaDIn
import Derived.Test.YthomioojkpmmgaaDOf
import Derived.Test.YthomioojkpmmgaaDSame
import Derived.Test.YthomioojkpmmgaaDAlive
import Derived.Test.YthomioojkpmmgaaSpoil
namespace Go.Proofs.Ythomioojkpmmgaa.diskOwn
open Go.ChangeShapes Go.WideShapes Go.ChangeAt Go.RowKit
set_option linter.unusedVariables false

/-- all blocks below L, and all from U on that were there, are as they were -/
structure KOut (L U : Nat) (w w' : World) : Prop where
  os : w'.os = w.os
  tape : w'.tape = w.tape
  output : w'.output = w.output
  size : w.heap.size ≤ w'.heap.size
  block : ∀ k, k < w.heap.size → (k < L ∨ U ≤ k) → w'.heap[k]? = w.heap[k]?
theorem KOut.refl (L U : Nat) (w : World) : KOut L U w w := ⟨rfl, rfl, rfl, Nat.le_refl _, fun _ _ _ => rfl⟩
theorem KOut.grown {L U : Nat} {w u u' : World} {row : Option Nat} (h : KOut L U w u) (hg : u.grownBy u' row) (hr : ∀ k, row = some k → L ≤ k ∧ k < U) : KOut L U w u' :=
  ⟨hg.os.trans h.os, hg.tape.trans h.tape, hg.output.trans h.output, Nat.le_trans h.size hg.size, fun k hk ho => (hg.block k (Nat.lt_of_lt_of_le hk h.size) (fun e => by have := hr k e.symm; omega)).trans (h.block k hk ho)⟩
theorem KOut.below {L U : Nat} {w w' : World} (h : KOut L U w w') {B : Nat} (hB : B ≤ L) (hw : B ≤ w.heap.size) : Below B w w' := ⟨h.os, h.tape, h.output, h.size, fun k hk => h.block k (by omega) (.inl (by omega))⟩
theorem KOut.cell {L U : Nat} {w w' : World} (h : KOut L U w w') {b i : Nat} {v : Value} (hc : w.cell? ⟨b, i, none⟩ = some v) (hb : b < L ∨ U ≤ b) : w'.cell? ⟨b, i, none⟩ = some v :=
  (World.cell?_of_block (w := w) (h.block b (cell_lt hc) hb)).trans hc
theorem KOut.own {α : Type} {s : Shp α} {L U B : Nat} {w w' : World} {cs : List Value} {x : α} (h : KOut L U w w') (o : Own s B w cs x) (hU : U ≤ B) : Own s B w' cs x :=
  let ⟨F, h1, h2, h3⟩ := o; ⟨F, s.own_to h1 fun b hb => h.block b (s.own_lt h1 b hb) (.inr (by have := h3 b hb; omega)), h2, h3⟩
/-- the octets of one write, where they lie -/
theorem OwnF.wrtSet {T : Nat} {F : List Nat} {w : World} {cv : Value} {ws : List Wrt} (h : OwnF (Shp.list T SWr) F w [cv] ws) {k : Nat} {y : Wrt} (hy : ws[k]? = some y) :
    ∃ g cap u, cv = .slice (some ⟨g, 0, none⟩) ws.length cap ∧ ws.length ≤ cap ∧ w.cell? ⟨g, k * 2 + 1, none⟩ = some u ∧ OwnB 0 w u y.2 ∧ (∀ b, u.ownBlock = some b → b ∈ F) ∧
      ∀ w' x', OwnB 0 w' u x' → (∀ b, b ∈ F → some b ≠ u.ownBlock → w'.heap[b]? = w.heap[b]?) → OwnF (Shp.list T SWr) F w' [cv] (ws.set k (y.1, x')) := by
  obtain ⟨g, cap, F2, c, hv, hcap, _, hgF, ⟨c1, c2, G, H, rfl, rfl, ⟨rfl, rfl⟩, u, rfl, ho, rfl⟩, hF2, hc, fin⟩ := OwnF.at h hy
  refine ⟨g, cap, u, hv, hcap, ?_, ho, fun b hb => (hF2 b (by simp [hb])).1, fun w' x' ho' hk => fin w' (y.1, x') ⟨_, _, [], _, rfl, rfl, ⟨rfl, rfl⟩, u, rfl, ho', rfl⟩ fun b hb hn => hk b hb fun e => hn (by simp [← e])⟩
  have := hc 1 _ rfl
  rw [show (SWr).n = 2 from rfl] at this
  simpa using this
theorem dput_err {d : Dsk} {z : Int} {x : List UInt8} (h : (dput d z x).2 ≠ 0) : (dput d z x).1 = ([], []) := by
  unfold dput at *
  split
  · rfl
  · rename_i h1
    rw [if_neg h1] at h
    split
    · rfl
    · rename_i h2
      rw [if_neg h2] at h
      split
      · rfl
      · rename_i h3
        rw [if_neg h3] at h
        exact absurd rfl h

set_option maxRecDepth 100000 in
set_option maxHeartbeats 4000000 in
theorem walk (w : World) (cs0 : Array Value) (x0 : Dsk) (g0 : SStR.rd w cs0.toList x0) (m0 : (x0.1.length * 24 ≤ 140737488351232 ∧ ∀ x ∈ x0.1, x.length ≤ 140737488351232) ∧ (x0.2.length * 32 ≤ 140737488351232 ∧ ∀ y ∈ x0.2, True ∧ y.2.length ≤ 140737488351232))
    (a1 : Option Addr) (len1 cap1 : Nat) (x1 : List UInt8) (e1 : x1.length = len1) (g1 : Rd w (.slice a1 len1 cap1) x1) (m1 : len1 ≤ 140737488351232) :
    Calls Try.prog 7 #[.agg cs0, .slice a1 len1 cap1] w fun e w' => e = .returned (.bool true) ∧ Below w.heap.size w w' := by
  obtain ⟨sv, cv, rfl, h1, h2⟩ := state_form g0
  have HF := hide (state_fit m0)
  subst e1
  clear g0 m0
  obtain ⟨sa, sc, rfl⟩ := h1.slice
  obtain ⟨ca, cc0, rfl⟩ := h2.slice
  obtain ⟨P1, P2, eP, hP⟩ : ∃ D1 D2 er, dput x0 0 x1 = ((D1, D2), er) := ⟨_, _, _, rfl⟩
  have hPE : eP ≠ 0 → P1 = [] := fun h => by have := dput_err (d := x0) (z := 0) (x := x1) (by rw [hP]; exact h); rw [hP] at this; exact congrArg Prod.fst this
  replace hP := hide hP
  replace hPE := hide hPE
  obtain ⟨US, hUS, S0, S1, cc, sUS⟩ := boxed2 w (.slice sa x0.1.length sc) (.slice ca x0.2.length cc0) 25
  replace h1 := h1.to0 cc
  replace h2 := h2.to0 cc
  replace g1 := g1.to cc
  go_enter Try.func7, Try.ntmps7
  rw [hUS] at S0 S1
  go_wp2_with fail
  rw [← hUS] at S0 S1
  rw [← hUS]
  replace hUS := hide hUS
  refine (dalive_any _).mono ?_
  have KK := trivial
  rintro e w1 ⟨rfl, bb⟩
  clear KK
  replace S0 := (bb.cell (cell_lt S0)).trans S0
  replace S1 := (bb.cell (cell_lt S1)).trans S1
  replace h1 := h1.to0 bb
  replace h2 := h2.to0 bb
  replace g1 := g1.to bb
  replace cc := cc.trans (bb.mono cc.size)
  clear bb
  have hw1 : w.heap.size ≤ w1.heap.size := cc.size
  have KK := hide (of_any _ _ _ x0 h1 h2 HF.out)
  go_wp2_with fail
  refine KK.out.mono ?_
  rintro e w2 ⟨sX, cX, rfl, oX, bb⟩
  clear KK
  obtain ⟨rX, qX⟩ := oX.rd2
  obtain ⟨alX, clX, rfl⟩ := rX.slice
  obtain ⟨acX, cdX, rfl⟩ := qX.slice
  obtain ⟨F, hF, hFB⟩ := oX.foot
  have hFl := hF.lt
  clear oX
  have hw2 : w1.heap.size ≤ w2.heap.size := bb.size
  replace S0 := (bb.cell (cell_lt S0)).trans S0
  replace S1 := (bb.cell (cell_lt S1)).trans S1
  replace h1 := h1.to0 bb
  replace h2 := h2.to0 bb
  replace g1 := g1.to bb
  replace cc := cc.trans (bb.mono cc.size)
  clear bb
  have KK := hide (copy_any _ _ x1 g1 (by omega))
  go_wp2_with fail
  refine KK.out.mono ?_
  rintro e w3 ⟨vO, rfl, oO, bb⟩
  clear KK
  obtain ⟨alO, clO, rfl⟩ := oO.rd.slice
  have hOl := World.ownsRow.lt oO
  have hw3 : w2.heap.size ≤ w3.heap.size := bb.size
  replace S0 := (bb.cell (cell_lt S0)).trans S0
  replace S1 := (bb.cell (cell_lt S1)).trans S1
  replace h1 := h1.to0 bb
  replace h2 := h2.to0 bb
  replace rX := rX.to0 bb
  replace qX := qX.to0 bb
  replace g1 := g1.to bb
  replace hF := hF.to bb
  replace cc := cc.trans (bb.mono cc.size)
  clear bb
  have hs3 : w3.heap.size ≤ w3.heap.size := Nat.le_refl _
  obtain ⟨UX, hUX, X0, X1, bU, sUX⟩ := boxed2 w3 (.slice alX x0.1.length clX) (.slice acX x0.2.length cdX) 29
  replace S0 := (bU.cell (cell_lt S0)).trans S0
  replace S1 := (bU.cell (cell_lt S1)).trans S1
  replace h1 := h1.to0 bU
  replace h2 := h2.to0 bU
  replace rX := rX.to0 bU
  replace qX := qX.to0 bU
  replace g1 := g1.to bU
  replace hF := hF.to bU
  replace oO := oO.below (Nat.le_refl _) bU
  replace cc := cc.trans (bU.mono cc.size)
  clear bU
  have KK := hide (dput_any _ _ _ _ x0 0 x1 rX qX oO.rd)
  rw [hP.out] at KK
  rw [hUX] at S0 S1 X0 X1
  go_wp2_with fail
  rw [← hUX] at S0 S1 X0 X1
  rw [← hUX]
  replace hUX := hide hUX
  refine KK.out.mono ?_
  rintro e w4 ⟨sT, cT, rfl, oT, bb⟩
  clear KK
  try dsimp only at oT
  obtain ⟨alT, clT, acT, cdT, hvT, hvT2⟩ : ∃ al cl ac cd, sT = .slice al P1.length cl ∧ cT = .slice ac P2.length cd := by
    obtain ⟨FT, hFT, _⟩ := oT.foot
    exact own_form' hFT
  subst hvT hvT2
  have hw4 : w3.heap.size + 1 ≤ w4.heap.size := by have := bb.size; omega
  rw [sUX] at oT
  replace S0 := (bb.cell (cell_lt S0)).trans S0
  replace S1 := (bb.cell (cell_lt S1)).trans S1
  replace X0 := (bb.cell (cell_lt X0)).trans X0
  replace X1 := (bb.cell (cell_lt X1)).trans X1
  replace h1 := h1.to0 bb
  replace h2 := h2.to0 bb
  replace rX := rX.to0 bb
  replace qX := qX.to0 bb
  replace g1 := g1.to bb
  replace hF := hF.to bb
  replace oO := oO.below (Nat.le_refl _) bb
  replace cc := cc.trans (bb.mono cc.size)
  clear bb
  obtain ⟨UT, hUT, T0, T1, bU, sUT⟩ := boxed2 w4 (.slice alT P1.length clT) (.slice acT P2.length cdT) 29
  replace S0 := (bU.cell (cell_lt S0)).trans S0
  replace S1 := (bU.cell (cell_lt S1)).trans S1
  replace X0 := (bU.cell (cell_lt X0)).trans X0
  replace X1 := (bU.cell (cell_lt X1)).trans X1
  replace h1 := h1.to0 bU
  replace h2 := h2.to0 bU
  replace rX := rX.to0 bU
  replace qX := qX.to0 bU
  replace g1 := g1.to bU
  replace hF := hF.to bU
  replace oT := oT.to bU
  replace oO := oO.below (Nat.le_refl _) bU
  replace cc := cc.trans (bU.mono cc.size)
  clear bU
  rw [hUT] at S0 S1 X0 X1 T0 T1
  go_wp2_with fail
  rw [← hUT] at S0 S1 X0 X1 T0 T1
  rw [← hUT]
  replace hUT := hide hUT
  refine (num4_any _ _).mono ?_
  rintro e w' ⟨rfl, rfl⟩
  by_cases hE : eP = 0
  case neg =>
    have hne : (eP != 0) = true := by simpa using hE
    have hp1 := hPE.out hE
    subst hp1
    clear hE
    go_wp2
    go_ret
    exact ⟨rfl, cc⟩
  subst hE
  have KK := hide (rput_any _ _ _ _ x0 0 x1 h1 h2 g1)
  rw [hP.out] at KK
  go_wp2_with fail
  refine KK.out.mono ?_
  rintro e w5 ⟨sW, cW, rfl, oW, bb⟩
  clear KK
  try dsimp only at oW
  obtain ⟨alW, clW, acW, cdW, hvW, hvW2⟩ : ∃ al cl ac cd, sW = .slice al P1.length cl ∧ cW = .slice ac P2.length cd := by
    obtain ⟨FT, hFT, _⟩ := oW.foot
    exact own_form' hFT
  subst hvW hvW2
  have hw5 : w4.heap.size + 1 ≤ w5.heap.size := by have := bb.size; omega
  rw [sUT] at oW
  replace S0 := (bb.cell (cell_lt S0)).trans S0
  replace S1 := (bb.cell (cell_lt S1)).trans S1
  replace X0 := (bb.cell (cell_lt X0)).trans X0
  replace X1 := (bb.cell (cell_lt X1)).trans X1
  replace T0 := (bb.cell (cell_lt T0)).trans T0
  replace T1 := (bb.cell (cell_lt T1)).trans T1
  replace h1 := h1.to0 bb
  replace h2 := h2.to0 bb
  replace rX := rX.to0 bb
  replace qX := qX.to0 bb
  replace g1 := g1.to bb
  replace hF := hF.to bb
  replace oT := oT.to bb
  replace oO := oO.below (Nat.le_refl _) bb
  replace cc := cc.trans (bb.mono cc.size)
  clear bb
  obtain ⟨UW, hUW, W0, W1, bU, sUW⟩ := boxed2 w5 (.slice alW P1.length clW) (.slice acW P2.length cdW) 25
  replace S0 := (bU.cell (cell_lt S0)).trans S0
  replace S1 := (bU.cell (cell_lt S1)).trans S1
  replace X0 := (bU.cell (cell_lt X0)).trans X0
  replace X1 := (bU.cell (cell_lt X1)).trans X1
  replace T0 := (bU.cell (cell_lt T0)).trans T0
  replace T1 := (bU.cell (cell_lt T1)).trans T1
  replace h1 := h1.to0 bU
  replace h2 := h2.to0 bU
  replace rX := rX.to0 bU
  replace qX := qX.to0 bU
  replace g1 := g1.to bU
  replace hF := hF.to bU
  replace oT := oT.to bU
  replace oW := oW.to bU
  replace oO := oO.below (Nat.le_refl _) bU
  replace cc := cc.trans (bU.mono cc.size)
  clear bU
  clear S0 S1 h1 h2 g1 rX qX
  rw [hUW] at X0 X1 T0 T1 W0 W1
  go_wp2_with fail
  rw [← hUW] at X0 X1 T0 T1 W0 W1
  rw [← hUW]
  replace hUW := hide hUW
  refine (spoil_own _ _ _ x1 oO (by omega)).mono ?_
  rintro e w6 ⟨rfl, hg6, _⟩
  obtain ⟨F1, F2, rfl, p1, p2, hdj⟩ := OwnF.split (c := [.slice alX x0.1.length clX]) (d := [.slice acX x0.2.length cdX]) hF rfl
  have hrow : ∀ k, (Value.slice alO x1.length clO).ownBlock = some k → w1.heap.size ≤ k ∧ k < w3.heap.size := fun k hk => by have := hOl k hk; omega
  have K6 := (KOut.refl w1.heap.size w3.heap.size UW).grown hg6 hrow
  have q1 := p1.keep fun b hb => hg6.block b (p1.lt b hb) (fun e => by have := hOl b e.symm; have := hFl b (by simp [hb]); omega)
  have q2 := p2.keep fun b hb => hg6.block b (p2.lt b hb) (fun e => by have := hOl b e.symm; have := hFl b (by simp [hb]); omega)
  have H6 := hide (And.intro q1 (And.intro q2 K6))
  have HCC := hide cc
  have HT := hide (And.intro oT oW)
  have HC := hide (And.intro T0 (And.intro T1 (And.intro W0 W1)))
  have HX := hide (And.intro X0 X1)
  have HFF := hide (And.intro hFB (And.intro hFl hdj))
  clear hF p1 p2 q1 q2 K6 hg6 hrow oO hOl oT oW cc T0 T1 W0 W1 hFB hFl hdj hs3
  have X0 := (H6.out.2.2.cell HX.out.1 (.inr (Nat.le_refl _)))
  have lb1 : x0.1.length ≤ 140737488351232 := by have := HF.out.1; omega
  have lb2 : x0.2.length ≤ 140737488351232 := by have := HF.out.2.2.1; omega
  go_wp2
  clear X0
  go_loopw [11] (fun i wr => ∃ (k : Nat) (ss : List (List UInt8)), k ≤ x0.1.length ∧ i = .int .i64 k ∧ ss.length = x0.1.length ∧ Hid ((∀ x ∈ ss, x.length ≤ 140737488351232) ∧ OwnF SSec F1 wr [.slice alX x0.1.length clX] ss ∧ OwnF SCacheP F2 wr [.slice acX x0.2.length cdX] x0.2 ∧ KOut w1.heap.size w3.heap.size UW wr)) (fun i _ => x0.1.length - (intOf i).toNat)
  case atStart => exact ⟨0, x0.1, Nat.zero_le _, rfl, rfl, ⟨HF.out.2.1, H6.out⟩⟩
  case round =>
    obtain ⟨k, ss, hk, rfl, hsl, hH⟩ := hrel
    clear H6
    have X0 := (hH.out.2.2.2.cell HX.out.1 (.inr (Nat.le_refl _)))
    have X1 := (hH.out.2.2.2.cell HX.out.2 (.inr (Nat.le_refl _)))
    by_cases hlt : k < x0.1.length
    · have hq : (k : Int) < (x0.1.length : Int) := by omega
      obtain ⟨x, hx, hxm⟩ := some_at ss (k := k) (by omega)
      obtain ⟨hM, p1, p2, K⟩ := hH.out
      obtain ⟨g, cap, u, ev, hcap, hc, ho, hgF, huF, fin⟩ := p1.sector hx
      rw [hsl] at ev
      cases ev
      have hxl := hM x hxm
      obtain ⟨au, cu, rfl⟩ := ho.rd.slice
      have KS := hide (spoil_own 0 wr _ x ho (by omega))
      have FIN : Hid (∀ w', wr.grownBy w' (Value.slice au x.length cu).ownBlock → (∃ ys : List UInt8, ys.length = x.length ∧ OwnB 0 w' (.slice au x.length cu) ys) → ∃ ss' : List (List UInt8), ss'.length = x0.1.length ∧ (∀ x ∈ ss', x.length ≤ 140737488351232) ∧ OwnF SSec F1 w' [.slice (some ⟨g, 0, none⟩) x0.1.length clX] ss' ∧ OwnF SCacheP F2 w' [.slice acX x0.2.length cdX] x0.2 ∧ KOut w1.heap.size w3.heap.size UW w') := fun w' hg ⟨ys, hyl, hoy⟩ => by
        refine ⟨ss.set k ys, by simp [hsl], fun q hq => ?_, fin w' ys hoy (fun b hb hne => hg.block b (p1.lt b hb) hne), p2.keep fun b hb => hg.block b (p2.lt b hb) (fun e => HFF.out.2.2 b (huF b e.symm).1 hb), K.grown hg fun j hj => ?_⟩
        · rcases List.mem_or_eq_of_mem_set hq with h | rfl
          · exact hM q h
          · rw [hyl]; exact hxl
        · have hm : j ∈ F1 ++ F2 := by simp [(huF j hj).1]
          have := HFF.out.1 j hm
          have := HFF.out.2.1 j hm
          omega
      clear fin ho p1 p2 K hM hgF huF hH hx hxm
      generalize x.length = LX at *
      go_wp2_with fail
      refine KS.out.mono ?_
      rintro e w7 ⟨rfl, hg7, hy7⟩
      have HN := hide (FIN.out w7 hg7 hy7)
      clear KS FIN hg7 hy7 hc X0 X1
      go_wp2
      go_roundw
      case rel =>
        obtain ⟨ss', h1', h2', h3'⟩ := HN.out
        exact ⟨k + 1, ss', by omega, by go_num, h1', ⟨h2', h3'⟩⟩
      case measure => simp [intOf]; omega
    · obtain ⟨_, _, p2, K⟩ := hH.out
      have H7 := hide (And.intro p2 K)
      have hq : ¬ (k : Int) < (x0.1.length : Int) := by omega
      clear p2 K hH hlt hk hsl
      generalize wr = V at *
      go_wp2
      clear X1 X0 hq
      go_loopw [12] (fun i wr => ∃ (k : Nat) (ws : List Wrt), k ≤ x0.2.length ∧ i = .int .i64 k ∧ ws.length = x0.2.length ∧ Hid ((∀ y ∈ ws, y.2.length ≤ 140737488351232) ∧ OwnF SCacheP F2 wr [.slice acX x0.2.length cdX] ws ∧ KOut w1.heap.size w3.heap.size UW wr)) (fun i _ => x0.2.length - (intOf i).toNat)
      case atStart => exact ⟨0, x0.2, Nat.zero_le _, rfl, rfl, ⟨HF.out.2.2.2, H7.out⟩⟩
      case round =>
        obtain ⟨k, ws, hk, rfl, hsl, hH⟩ := hrel
        clear H7
        have X1 := (hH.out.2.2.cell HX.out.2 (.inr (Nat.le_refl _)))
        by_cases hlt : k < x0.2.length
        · have hq : (k : Int) < (x0.2.length : Int) := by omega
          obtain ⟨y, hy, hym⟩ := some_at ws (k := k) (by omega)
          obtain ⟨hM, p2, K⟩ := hH.out
          obtain ⟨g, cap, u, ev, hcap, hc, ho, huF, fin⟩ := OwnF.wrtSet p2 hy
          rw [hsl] at ev
          cases ev
          have hxl := hM y hym
          obtain ⟨au, cu, rfl⟩ := ho.rd.slice
          have KS := hide (spoil_own 0 wr _ y.2 ho (by omega))
          have FIN : Hid (∀ w', wr.grownBy w' (Value.slice au y.2.length cu).ownBlock → (∃ ys : List UInt8, ys.length = y.2.length ∧ OwnB 0 w' (.slice au y.2.length cu) ys) → ∃ ws' : List Wrt, ws'.length = x0.2.length ∧ (∀ y ∈ ws', y.2.length ≤ 140737488351232) ∧ OwnF SCacheP F2 w' [.slice (some ⟨g, 0, none⟩) x0.2.length cdX] ws' ∧ KOut w1.heap.size w3.heap.size UW w') := fun w' hg ⟨ys, hyl, hoy⟩ => by
            refine ⟨ws.set k (y.1, ys), by simp [hsl], fun q hq => ?_, fin w' ys hoy (fun b hb hne => hg.block b (p2.lt b hb) hne), K.grown hg fun j hj => ?_⟩
            · rcases List.mem_or_eq_of_mem_set hq with h | rfl
              · exact hM q h
              · show ys.length ≤ _; rw [hyl]; exact hxl
            · have hm : j ∈ F1 ++ F2 := by simp [huF j hj]
              have := HFF.out.1 j hm
              have := HFF.out.2.1 j hm
              omega
          clear fin ho p2 K hM huF hH hy hym
          generalize y.2.length = LX at *
          go_wp2_with fail
          refine KS.out.mono ?_
          rintro e w7 ⟨rfl, hg7, hy7⟩
          have HN := hide (FIN.out w7 hg7 hy7)
          clear KS FIN hg7 hy7 hc X1
          go_wp2
          go_roundw
          case rel =>
            obtain ⟨ws', h1', h2', h3'⟩ := HN.out
            exact ⟨k + 1, ws', by omega, by go_num, h1', ⟨h2', h3'⟩⟩
          case measure => simp [intOf]; omega
        · obtain ⟨_, _, K⟩ := hH.out
          have t0 := K.cell HC.out.1 (.inr (by omega))
          have t1 := K.cell HC.out.2.1 (.inr (by omega))
          have v0 := K.cell HC.out.2.2.1 (.inr (by omega))
          have v1 := K.cell HC.out.2.2.2 (.inr (by omega))
          have oT := K.own HT.out.1 (by omega)
          have oW := K.own HT.out.2 (by omega)
          have KA := hide (alike_any wr _ _ _ _ (P1, P2) oT.rd2.1 oT.rd2.2 oW.rd2.1 oW.rd2.2)
          have cc := HCC.out.trans (K.below (show w.heap.size ≤ w1.heap.size by omega) HCC.out.size)
          clear K oT oW hH
          go_wp2_with fail
          refine KA.out.mono ?_
          rintro e w8 ⟨rfl, b8⟩
          have C8 := hide (cc.trans (b8.mono cc.size))
          clear cc b8 KA t0 t1 v0 v1
          go_wp2
          go_ret
          exact ⟨rfl, C8.out⟩

set_option maxRecDepth 100000 in
theorem lifted (os : Os) (started : os.Started) (H : Type) (enc : TypeId × Value → H) :
    ReturnsInHanded {} Try.checked os 7 .any (Rows.diskOwnSpec.pre6 enc Try.prog Try.f7 Rows.diskOwnRow.domain false) (Rows.diskOwnSpec.post enc Try.prog Try.f7 false true false false) := by
  refine returnsInHanded_of_change_sized (C := Try.checked) own started (by kernel_rfl) Try.func7
    (ChangeSpec.witness6 (enc := enc) (C := Try.checked) false ⟨#[], #[.agg #[.slice none 0 0, .slice none 0 0], .slice none 0 0], []⟩ 8 (by kernel_rfl) (by kernel_rfl) (by kernel_rfl) (by kernel_rfl)) ?_
  intro W base args ds gs before hval0 hW hcnd hsz0 _
  have hsz : (DataW.weightsEach Try.prog (Try.f7.params.toList ++ Rows.diskOwnSpec.plain.varTypes Try.prog) (ds ++ gs)).all (· ≤ reachBytes) = true := hsz0
  have hval : ∀ (j : Nat) t v, Try.f7.params[j]? = some t → args[j]? = some v → Value.okWide Try.prog W .any base t v := hval0
  have hW' := hW
  obtain ⟨p, q, hA0, hV, rfl, hfz, hnd⟩ := hW
  have hA : DataW.TrodAll enc Try.prog W 0 (fun _ => true) true Try.f7.params.toList args.toList ds p := hA0
  rw [Try.params7] at hA hval hsz
  obtain ⟨v0, vs0, d0, ds0, p0, q0, hargs, rfl, rfl, h0, r0⟩ := trodAll_cons hA
  obtain ⟨v1, vs1, d1, ds1, p1, q1, rfl, rfl, rfl, h1, r1⟩ := trodAll_cons r0
  obtain ⟨rfl, rfl, rfl⟩ := trodAll_nil r1
  obtain rfl : args = #[v0, v1] := by cases args; simp_all
  obtain ⟨rfl, rfl⟩ := trodVars_none hV
  obtain ⟨cs0, rfl, _⟩ := okWide_struct Try.underlying25 (hval 0 25 v0 rfl rfl)
  have lt0 : ∀ x ∈ p0, x.block < W.heap.size := by obtain ⟨m, hm⟩ := h0; exact DataW.trod_lt m _ _ _ hm
  have hh0 := h0
  obtain ⟨fu0, hf0⟩ := hh0
  obtain ⟨x0, g0, f0, b0⟩ := open_state.opened hf0
  obtain ⟨a1, len1, cap1, rfl⟩ := okWide_slice Try.underlying26 (hval 1 26 v1 rfl rfl)
  have lt1 : ∀ x ∈ p1, x.block < W.heap.size := by obtain ⟨m, hm⟩ := h1; exact DataW.trod_lt m _ _ _ hm
  obtain ⟨x1, e1, g1, s1⟩ := open_octs h1
  have m0 := f0 (reach_of hsz (j := 0) rfl rfl)
  have m1 := reach_octs hsz (j := 1) rfl rfl s1
  clear hA0 hval0 hsz0 hsz
  refine (walk W cs0 x0 g0 m0 a1 len1 cap1 x1 e1 g1 m1).mono fun e W' ⟨he, bel⟩ => ?_
  subst he
  exact ⟨_, rfl, _, _, _, [], _, [], hW', trodAll_mk1 (shut_bool Try.underlying4 _), (trodAll_cons_mk (Below.trod laidOut (by kernel_rfl) (of_decide_eq_true (by kernel_rfl)) h0 bel lt0) (trodAll_cons_mk (Below.trod laidOut (by kernel_rfl) (of_decide_eq_true (by kernel_rfl)) h1 bel lt1) trodAll_mk0)), rfl, bel.frame _, fun h => by cases h⟩

theorem over : Rows.diskOwnRow.holds Try.pinned (OpenSpec.ofChange Rows.diskOwnSpec) :=
  OpenClaim.holds_of_wide 7 Try.f7 rfl rfl rfl rfl rfl rfl rfl ⟨rfl, rfl, rfl, rfl, rfl⟩ rfl rfl rfl rfl rfl (by kernel_rfl) Try.func7 (by kernel_rfl)
    (of_decide_eq_true (by kernel_rfl)) (by unfold Func.isWrapper; first | (rw [if_pos (by decide +kernel)]; kernel_rfl) | (rw [if_neg (by decide +kernel)]; exact ⟨rfl, rfl⟩))
    (fun os started H enc _ => lifted os started H enc)

end Go.Proofs.Ythomioojkpmmgaa.diskOwn
namespace Go.Proofs.Ythomioojkpmmgaa
/-- THE STATEMENT -/
theorem diskOwn_holds : Rows.DiskOwnSaid := diskOwn.over
end Go.Proofs.Ythomioojkpmmgaa
