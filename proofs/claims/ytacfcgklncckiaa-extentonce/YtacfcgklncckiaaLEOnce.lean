/-
  PROVED: whatever number and list of steps come in, transeptlaw05.ExtentOnce returns true and leaves them as they were: the statement of P5.4 and P5.5 (no sector is given twice; what is given, and what is free, are all there are).
-/
import Derived.Deep.CutRange
import Derived.Test.YtacfcgklncckiaaEUsed
import Derived.Test.YtacfcgklncckiaaRFan
import Derived.Test.YtacfcgklncckiaaStep
namespace Go.Proofs.Ytacfcgklncckiaa.extentOnce
open Go.ChangeShapes Go.WideShapes Go.ChangeAt Go.RowKit
set_option linter.unusedVariables false

/-- in the loop: the map in its box, what is given -/
def OInv (w : World) (gM : Nat) (n : Int) (m : EMap) (fv v : Value) (g : List Ext) (wr : World) : Prop :=
  Below w.heap.size w wr ∧ w.heap.size ≤ gM ∧ wr.heap[gM]? = some (.cells #[.int .i64 m.1, fv] 27 (0, 0)) ∧ OwnE w.heap.size wr fv m.2 ∧ OwnE w.heap.size wr v g ∧ fv.ownBlock ≠ some gM ∧ v.ownBlock ≠ some gM ∧ (∀ b, v.ownBlock = some b → fv.ownBlock ≠ some b) ∧ GInv n m g
theorem OInv.to {w : World} {gM : Nat} {n : Int} {m : EMap} {fv v : Value} {g : List Ext} {wr w' : World} (h : OInv w gM n m fv v g wr) (hb : Below wr.heap.size wr w') : OInv w gM n m fv v g w' :=
  ⟨h.1.trans (hb.mono h.1.size), h.2.1, (hb.block _ (lt_of_block h.2.2.1)).trans h.2.2.1, OwnE.to h.2.2.2.1 hb, OwnE.to h.2.2.2.2.1 hb, h.2.2.2.2.2.1, h.2.2.2.2.2.2.1, h.2.2.2.2.2.2.2.1, h.2.2.2.2.2.2.2.2⟩

/-- append of one extent, and where it lies -/
theorem run_append_given (w : World) {B : Nat} {v : Value} {l : List Ext} (h : OwnE B w v l) (a b : Int) (hl : l.length ≤ 4000000) (hB : B ≤ w.heap.size) :
    ∃ g cap w', (Builtin.append_ #[22, 22] 22 #[v, .slice (some ⟨w.heap.size, 0, none⟩) 1 1]).run Try.prog (w.alloc (.cells #[.int .i64 a, .int .i64 b] 26)) = .ok (.slice (some ⟨g, 0, none⟩) (l.length + 1) cap) w' ∧ OwnE B w' (.slice (some ⟨g, 0, none⟩) (l.length + 1) cap) (l ++ [(a, b)]) ∧ (w.alloc (.cells #[.int .i64 a, .int .i64 b] 26)).grownBy w' v.ownBlock ∧ (v.ownBlock = some g ∨ g = w.heap.size + 1) := by
  obtain ⟨i0, hi, hz0, hz1, hz2⟩ := info_parts infoE
  obtain ⟨g, cap, w', hr, ho, hg, hat, _⟩ := run_append_lies (P := Try.prog) (w.alloc (.cells #[.int .i64 a, .int .i64 b] 26)) 22 22 B 26 i0 (.agg #[.int .i64 0, .int .i64 0]) 2 16 Try.underlying22 hi hz0 hz1 hz2 rfl (by decide) v l.length (ecells l) (World.ownsRow.alloc h _) ⟨w.heap.size, 0, none⟩ 1 1 [.int .i64 a, .int .i64 b] rfl (World.news_of_block (heap_alloc_last w _)) (ecells_one [(a, b)]) (by decide) (by unfold maxLen; omega) (by omega) (by simp; omega) (w.heap.size + 1) (by simp)
  refine ⟨g, cap, w', hr, ?_, hg, hat⟩
  unfold OwnE
  rw [ecells_app, List.length_append]
  exact ho

set_option linter.unusedSimpArgs false in
set_option maxRecDepth 100000 in
set_option maxHeartbeats 8000000 in
theorem walk (w : World) (a0 : Int) (w0' : (Lit.int .i64 a0).wf = true) (sa : Option Addr) (len1 cap1 : Nat) (x1 : List (Int × (Int × Int))) (g1 : SSteps.rd w [.slice sa len1 cap1] x1) (m1 : x1.length * 24 ≤ 140737488351232 ∧ ∀ z ∈ x1, (Lit.int .i64 z.1).wf = true ∧ ((Lit.int .i64 z.2.1).wf = true ∧ (Lit.int .i64 z.2.2).wf = true)) :
    Calls Try.prog 5 #[.int .i64 a0, .slice sa len1 cap1] w fun e w' => e = .returned (.bool true) ∧ Below w.heap.size w w' := by
  obtain ⟨sv, es, hst⟩ := g1
  simp only [List.cons.injEq, and_true] at es
  subst es
  obtain ⟨ao, cp, ee, _⟩ := id hst
  simp only [Value.slice.injEq] at ee
  obtain ⟨rfl, rfl, rfl⟩ := ee
  have lb := hst.bd
  have hwf := m1.2
  have HW := hide (fun z hz => And.intro (wf_int (hwf z hz).1) (And.intro (wf_int (hwf z hz).2.1) (wf_int (hwf z hz).2.2)))
  clear m1 hwf
  have hu0 : 0 ≤ a0.tmod 200 % 200 := Int.emod_nonneg _ (by decide)
  have hu1 : a0.tmod 200 % 200 < 200 := Int.emod_lt_of_pos _ (by decide)
  have hrA : -200 < a0.tmod 200 := Int.lt_tmod_of_pos a0 (by decide)
  have hrB : a0.tmod 200 < 200 := Int.tmod_lt_of_pos a0 (by decide)
  obtain ⟨hz, hG⟩ := GInv.start (n := a0.tmod 200 % 200) hu0 (by omega)
  obtain ⟨N1, N2, hN⟩ : ∃ N1 N2, enew (a0.tmod 200 % 200) = ((N1, N2), 0) := ⟨_, _, Prod.ext rfl hz⟩
  rw [hN] at hG
  obtain rfl : N1 = a0.tmod 200 % 200 := hG.sz
  replace hG := hide hG
  replace hN := hide hN
  clear hz
  go_enter Try.func5, Try.ntmps5
  go_wp2_with fail
  refine (ealive_any w).mono ?_
  rintro e w1 ⟨rfl, cc⟩
  have KN := hide (pnew_any w1 (a0.tmod 200 % 200))
  rw [hN.out] at KN
  dsimp only at KN
  go_wp2_with fail
  refine KN.out.mono ?_
  rintro e w2 ⟨fv, rfl, o, b2⟩
  clear KN
  obtain ⟨fa, fn, fc, hv⟩ := ownE_slice o
  subst hv
  generalize hnE : a0.tmod 200 % 200 = n at *
  replace hnE := hide hnE
  obtain ⟨X, hX, M0, bX, sX⟩ := boxed2b w2 (.int .i64 n) (.slice fa fn fc) 27
  have cX := cc.trans ((b2.trans (bX.mono b2.size)).mono cc.size)
  obtain ⟨gM, hgM⟩ : ∃ gM, gM = w2.heap.size := ⟨_, rfl⟩
  rw [← hgM] at M0
  have hI := hide (show OInv w gM n (n, N2) (.slice fa fn fc) (.slice none 0 0) [] X from ⟨cX, by have := cc.size; have := b2.size; omega, M0, OwnE.to (rows_base o fun b hb => by have := (World.ownsRow.lt o b hb).1; have := cc.size; omega) bX, ownE_nil _ _, fun e => by have := (World.ownsRow.lt o gM e).2; omega, (fun e => by cases e), (fun b e => by cases e), hG.out⟩)
  have HH := hide hst
  obtain ⟨q0, q1, _, _⟩ := cells2 M0
  rw [hgM, hX] at q0 q1
  clear o b2 bX cX M0 cc
  go_wp2_with fail
  rw [← hX]
  rw [← hgM]
  replace hX := hide hX
  replace hgM := hide hgM
  clear q0 q1
  refine (num5_any _ _).mono ?_
  rintro e w' ⟨rfl, rfl⟩
  go_wp2
  simp only [hnE.out]
  go_loopw [7, 8] (fun v i wr => ∃ (k : Nat) (m : EMap) (fv : Value) (g : List Ext), k ≤ x1.length ∧ k ≤ 100 ∧ i = .int .i64 k ∧ g.length ≤ k ∧ Hid (OInv w gM n m fv v g wr)) (fun _ i _ => x1.length - (intOf i).toNat)
  case atStart => exact ⟨0, _, _, [], Nat.zero_le _, by omega, rfl, Nat.le_refl _, hI⟩
  case round =>
    obtain ⟨k, m, fv, g, hk, hk1, rfl, hgl, hO⟩ := hrel
    clear hI
    by_cases hlt : k < x1.length
    · have hqi : (k : Int) < (x1.length : Int) := by omega
      by_cases h100 : k < 100
      · have hq1 : (k : Int) < 100 := by omega
        obtain ⟨st, hst', hsm⟩ : ∃ st, x1[k]? = some st ∧ st ∈ x1 := ⟨x1[k], List.getElem?_eq_getElem hlt, List.getElem_mem hlt⟩
        obtain ⟨hwf1, hwf2, hwf3⟩ := HW.out st hsm
        obtain ⟨sb, soff, rfl, s0, s1, s2⟩ := (HH.out.to0 hO.out.1).step hst'
        obtain ⟨q0, q1, _, _⟩ := cells2 hO.out.2.2.1
        obtain ⟨sW, sS, sN⟩ := st
        dsimp only at s0 s1 s2 hwf1 hwf2 hwf3
        clear hst' hsm
        obtain ⟨ma, mn, mc, hmv⟩ := ownE_slice hO.out.2.2.2.1
        subst hmv
        go_upto_if 51 with fail
        go_cut [7] from 36 to 176 (fun v wx => ∃ (m' : EMap) (fv' : Value) (g' : List Ext), g'.length ≤ k + 1 ∧ Hid (OInv w gM n m' fv' v g' wx))
        case rest =>
          obtain ⟨m', fv', g', hgl', hO'⟩ := hcut
          obtain ⟨nn, rfl⟩ : ∃ nn : Nat, n = (nn : Int) := ⟨n.toNat, by omega⟩
          have hnn : nn < 200 := by omega
          have hGI := hide hO'.out.2.2.2.2.2.2.2.2
          obtain ⟨gva, gvc, hgv⟩ := RdS.slice (ownE_rd hO'.out.2.2.2.2.1)
          subst hgv
          obtain ⟨fb, fbn, fbc, hfv⟩ := ownE_slice hO'.out.2.2.2.1
          subst hfv
          have hmk := make_bools (n := nn) (by omega) wc
          have hU0 := URow.made wc nn (by omega)
          obtain ⟨wu, hwu⟩ : ∃ wu, wu = wc.alloc (.cells (madeCells #[.bool false] nn) 4) := ⟨_, rfl⟩
          rw [← hwu] at hmk hU0
          have hbu : Below wc.heap.size wc wu := by rw [hwu]; exact (Below.refl _ _).alloc (Nat.le_refl _) _
          have hcap' : Hid (nn ≤ nn) := Nat.le_refl _
          clear hwu q0 q1 s0 s1 s2
          replace hO := hide hO
          replace hbu := hide hbu
          obtain ⟨gU, hgU⟩ : ∃ gU, gU = wc.heap.size := ⟨_, rfl⟩
          rw [← hgU] at hU0 hmk
          replace hU0 := hide hU0
          replace hgU := hide hgU
          go_wp2
          clear hmk
          have hin := hide hGI.out.inr
          have hlen : (g'.length : Int) ≤ 101 := by omega
          go_loopw [16, 17] (fun c i wz => ∃ (q : Nat) (us : List Bool), q ≤ g'.length ∧ i = .int .i64 q ∧ c = .int .i64 (eTotal (g'.take q)) ∧ Hid (Below wc.heap.size wc wz ∧ URow gU nn us wz ∧ UInv nn (g'.take q) 0 0 us)) (fun _ i _ => g'.length - (intOf i).toNat)
          case atStart => exact ⟨0, _, Nat.zero_le _, rfl, rfl, hide ⟨hbu.out, hU0.out, UInv.start nn 0⟩⟩
          case round =>
            obtain ⟨q, us, hq, rfl, rfl, hU⟩ := hrel
            clear hU0 hbu
            have hT := eTotal_take_le (fun x hx => (hin.out x hx).1) q
            have hTn := hGI.out.tot
            have hTm := eTotal_pos (eRow_size hGI.out.ok.2.2)
            by_cases hql : q < g'.length
            · have hqI : (q : Int) < (g'.length : Int) := by omega
              obtain ⟨y, hy, hym⟩ : ∃ y, g'[q]? = some y ∧ y ∈ g' := ⟨g'[q], List.getElem?_eq_getElem hql, List.getElem_mem hql⟩
              have hyi := hin.out y hym
              have hy' := hide hy
              have hyp := hide (pair_at hGI.out.dj hy)
              have hTk := hide (eTotal_take hy)
              have hTk2 := hide (take_next hy)
              obtain ⟨gb, gof, rfl, c0, c1⟩ := RdS.ext (ownE_rd (hO'.out.to hU.out.1).2.2.2.2.1) hy
              obtain ⟨yf, ys⟩ := y
              dsimp only at hyi c0 c1
              obtain ⟨T, hTe⟩ : ∃ T, T = eTotal (g'.take q) := ⟨_, rfl⟩
              have hTu : T ≤ 200 ∧ 0 ≤ T := by omega
              rw [← hTe]
              replace hTe := hide hTe
              clear hT hTn hTm hy hym
              obtain ⟨yn, rfl⟩ : ∃ yn : Nat, yf = (yn : Int) := ⟨yf.toNat, by omega⟩
              go_wp2
              clear c0 c1
              go_loopw [16, 18] (fun c j wy => ∃ (t : Nat) (vs : List Bool), yn ≤ t ∧ (t : Int) ≤ (yn : Int) + ys ∧ j = .int .i64 t ∧ c = .int .i64 (T + ((t : Int) - (yn : Int))) ∧ Hid (Below wc.heap.size wc wy ∧ URow gU nn vs wy ∧ UInv nn (g'.take q) yn t vs)) (fun _ j _ => 400 - (intOf j).toNat)
              case atStart => exact ⟨yn, us, Nat.le_refl _, by omega, rfl, by go_num, hide ⟨hU.out.1, hU.out.2.1, hU.out.2.2.round _⟩⟩
              case round =>
                obtain ⟨t, vs, ht0, ht1, rfl, rfl, hV⟩ := hrel
                clear hU
                obtain ⟨gb', gof', eg, c0, c1⟩ := RdS.ext (ownE_rd (hO'.out.to hV.out.1).2.2.2.2.1) hy'.out
                simp only [Option.some.injEq, Addr.mk.injEq, and_true] at eg
                obtain ⟨rfl, rfl⟩ := eg
                dsimp only at c0 c1
                by_cases htl : (t : Int) < (yn : Int) + ys
                · have htn : t < nn := by omega
                  have htI : ¬ ((nn : Int) ≤ (t : Int)) := by omega
                  have ht9 : ¬ ((t : Int) < 0) := by omega
                  have hus := hV.out.2.2.free (x := ((yn : Int), ys)) htn htl (by dsimp only; omega) hyp.out
                  have u0 := hV.out.2.1.cell hus
                  have u1 := hV.out.2.1.frozen t
                  have hgUw : wc.heap.size ≤ gU := Nat.le_of_eq hgU.out.symm
                  have FIN : Hid (∀ nq, Below wc.heap.size wc ((wr.drewN nq).setCell ⟨gU, t, none⟩ (.bool true)) ∧ URow gU nn (vs.set t true) ((wr.drewN nq).setCell ⟨gU, t, none⟩ (.bool true)) ∧ UInv nn (g'.take q) yn ((t : Int) + 1) (vs.set t true)) := fun nq => ⟨(hV.out.1.trans ((below_drewN' wr nq _))).setCell (p := ⟨gU, t, none⟩) hgUw (.bool true), (hV.out.2.1.to (below_drewN' wr nq _)).put t, hV.out.2.2.step htn (by omega)⟩
                  clear hus
                  go_wp2_with fail
                  go_quiet (fail)
                  go_wp2
                  go_roundw
                  case rel => exact ⟨t + 1, _, by omega, by omega, by go_num, by go_num, hide (by have := FIN.out nq; simpa using this)⟩
                  case measure => simp [intOf]; omega
                · have hte : (t : Int) = (yn : Int) + ys := by omega
                  have FIN : Hid (∀ nq, Below wc.heap.size wc (wr.drewN nq) ∧ URow gU nn vs (wr.drewN nq) ∧ UInv nn (g'.take (q + 1)) 0 0 vs) := fun nq => ⟨hV.out.1.trans (below_drewN' wr nq _), hV.out.2.1.to (below_drewN' wr nq _), by
                    have h9 := hV.out.2.2
                    rw [hte] at h9
                    rw [hTk2.out]
                    exact UInv.next (x := ((yn : Int), ys)) h9 0⟩
                  have hTf : T + ((t : Int) - (yn : Int)) = eTotal (g'.take (q + 1)) := by
                    have := hTk.out
                    have := hTe.out
                    omega
                  replace hTf := hide hTf
                  replace hte := hide hte
                  go_wp2_with fail
                  go_quiet (fail)
                  go_wp2
                  go_roundw
                  case rel => exact ⟨q + 1, vs, by omega, by go_num, by rw [hTf.out], hide (FIN.out nq)⟩
                  case measure => simp [intOf]; omega
            · have hqI : ¬ (q : Int) < (g'.length : Int) := by omega
              obtain rfl : q = g'.length := by omega
              rw [List.take_length] at hT
              have hR : Hid (eroom m' = (eTotal m'.2, eLargest m'.2, 0)) := by
                unfold eroom
                rw [if_neg (fun h => h hGI.out.ok)]
                exact rfl
              have KR := hide (proom_any wr _ m' (ownE_rd (hO'.out.to hU.out.1).2.2.2.1) (in_small fun x hx => by have := eSec_of hGI.out.ok x hx; omega))
              rw [hR.out] at KR
              dsimp only at KR
              obtain ⟨p0, p1, _, _⟩ := cells2 (hO'.out.to hU.out.1).2.2.1
              have hTe : eTotal (g'.take g'.length) = eTotal g' := by rw [List.take_length]
              have hTt : eTotal m'.2 = (nn : Int) - eTotal g' := by omega
              have FO := hO'.out.to hU.out.1
              obtain ⟨Tg, hTg⟩ : ∃ T, T = eTotal g' := ⟨_, rfl⟩
              rw [hTe, ← hTg]
              rw [hTt, ← hTg] at KR
              rw [← hTg] at hT
              replace hTe := hide hTe
              replace hTt := hide hTt
              replace hTg := hide hTg
              replace FO := hide FO
              have hTb : 0 ≤ Tg ∧ Tg ≤ 200 := by have := hTg.out; omega
              have hwr : wrap64 ((nn : Int) - Tg) = (nn : Int) - Tg := IntWalk.wrap64_in _ (by omega)
              clear hTn hTm hU
              go_wp2_with fail
              refine KR.out.mono ?_
              rintro e w5 ⟨rfl, b5⟩
              clear KR
              go_wp2_with fail
              refine (num5_any _ _).mono ?_
              rintro e w' ⟨rfl, rfl⟩
              go_wp2
              go_roundw
              case rel => exact ⟨k + 1, m', _, g', by omega, by omega, by go_num, by omega, hide (FO.out.to b5)⟩
              case measure => simp [intOf]; omega
        case first =>
        by_cases hw0 : sW = 0
        · subst hw0
          go_upto_region 12 with fail
          obtain ⟨D1, D2, p, q, er, hD⟩ : ∃ D1 D2 p q er, ealloc m sS = ((D1, D2), (p, q), er) := ⟨_, _, _, _, _, rfl⟩
          replace hD := hide hD
          go_cut [9, 10, 11] from 36 to 176 (fun pp qq ff wx => ∃ (g9 g10 : Nat) (f9 : Value), pp = .pointer (some ⟨g9, 0, none⟩) ∧ qq = .pointer (some ⟨g10, 0, none⟩) ∧ ff = .int .i64 er ∧ Hid (OInv w gM n m (.slice ma mn mc) u7 g wx ∧ wx.heap[g9]? = some (.cells #[.int .i64 D1, f9] 27 (0, 0)) ∧ wx.heap[g10]? = some (.cells #[.int .i64 p, .int .i64 q] 26 (0, 0)) ∧ OwnE wr.heap.size wx f9 D2 ∧ f9.ownBlock ≠ some g9 ∧ f9.ownBlock ≠ some g10 ∧ wr.heap.size ≤ g9 ∧ wr.heap.size ≤ g10 ∧ g9 ≠ g10))
          case first =>
            have KA : Hid (∀ w9, Below wr.heap.size wr w9 → Calls Try.prog 10 #[.agg #[.int .i64 m.1, .slice ma mn mc], .int .i64 sS] w9 fun e w6 => ∃ f, e = .returned (.tuple #[.agg #[.int .i64 D1, f], .agg #[.int .i64 p, .int .i64 q], .int .i64 er]) ∧ OwnE w9.heap.size w6 f D2 ∧ Below w9.heap.size w9 w6) := fun w9 b9 => by
              have := palloc_any w9 _ m sS ((ownE_rd hO.out.2.2.2.1).to0 b9) (in_small fun x hx => by have := eSec_of hO.out.2.2.2.2.2.2.2.2.ok x hx; omega)
              rw [hD.out] at this
              exact this
            have HS : Hid (∀ w9, Below wr.heap.size wr w9 → w9.cell? ⟨gM, 0, none⟩ = some (.int .i64 m.1) ∧ w9.cell? ⟨gM, 1, none⟩ = some (.slice ma mn mc) ∧ w9.cell? ⟨sb, soff + k * 3 + 1, none⟩ = some (.int .i64 sS)) := fun w9 b9 => ⟨(b9.cell (cell_lt q0)).trans q0, (b9.cell (cell_lt q1)).trans q1, (b9.cell (cell_lt s1)).trans s1⟩
            have b0 : Below wr.heap.size wr wr.drew := (Below.refl _ _).drew
            refine wp_region_fan (fun w9 => w9.cell? ⟨gM, 0, none⟩ = some (.int .i64 m.1) ∧ w9.cell? ⟨gM, 1, none⟩ = some (.slice ma mn mc) ∧ w9.cell? ⟨sb, soff + k * 3 + 1, none⟩ = some (.int .i64 sS)) 15 mixed (by simp) ?_
            generalize wr.drew = c0 at *
            clear q0 q1 s0 s1 s2
            refine fan_take (i := 0) (v := ?_) rfl (by kernel_rfl) (fun _ _ _ _ h => h) (by kernel_rfl) (HS.out _ b0) ?_ ?_
            rotate_left
            · rintro w9 ⟨t0, t1, t2⟩
              go_simp
              try with_reducible rfl
            try simp only [Act.put, List.setIfInBounds_toArray, List.set_cons_zero, List.set_cons_succ]
            refine fan_take (i := 1) (v := ?_) rfl (by kernel_rfl) (fun _ _ _ _ h => h) (by kernel_rfl) (HS.out _ b0) ?_ ?_
            rotate_left
            · rintro w9 ⟨t0, t1, t2⟩
              go_simp
              try with_reducible rfl
            try simp only [Act.put, List.setIfInBounds_toArray, List.set_cons_zero, List.set_cons_succ]
            refine fan_take (i := 2) (v := ?_) rfl (by kernel_rfl) (fun _ _ _ _ h => h) (by kernel_rfl) (HS.out _ b0) ?_ ?_
            rotate_left
            · rintro w9 ⟨t0, t1, t2⟩
              go_simp
              try with_reducible rfl
            try simp only [Act.put, List.setIfInBounds_toArray, List.set_cons_zero, List.set_cons_succ]
            refine fan_take (i := 3) (v := ?_) rfl (by kernel_rfl) (fun _ _ _ _ h => h) (by kernel_rfl) (HS.out _ b0) ?_ ?_
            rotate_left
            · rintro w9 ⟨t0, t1, t2⟩
              go_simp
              try with_reducible rfl
            try simp only [Act.put, List.setIfInBounds_toArray, List.set_cons_zero, List.set_cons_succ]
            refine fan_take (i := 4) (v := ?_) rfl (by kernel_rfl) (fun _ _ _ _ h => h) (by kernel_rfl) (HS.out _ b0) ?_ ?_
            rotate_left
            · rintro w9 ⟨t0, t1, t2⟩
              go_simp
              try with_reducible rfl
            try simp only [Act.put, List.setIfInBounds_toArray, List.set_cons_zero, List.set_cons_succ]
            refine fan_take (i := 5) (v := ?_) rfl (by kernel_rfl) (fun _ _ _ _ h => h) (by kernel_rfl) (HS.out _ b0) ?_ ?_
            rotate_left
            · rintro w9 ⟨t0, t1, t2⟩
              go_simp
              try with_reducible rfl
            try simp only [Act.put, List.setIfInBounds_toArray, List.set_cons_zero, List.set_cons_succ]
            refine fan_three 6 11 12 (by kernel_rfl) ?_ ?_ ?_
            ·
              refine fan_step rfl (by kernel_rfl) fun K hK => ?_
              refine wp_call_of 10 _ _ (by rfl) #[.agg #[.int .i64 m.1, .slice ma mn mc], .int .i64 sS] (by simp [Act.eval]) (Try.call10 _ _) (KA.out _ b0) ?_
              rintro e c1 ⟨f9, rfl, oF, bF⟩
              obtain ⟨fa9, fn9, fc9, hv9⟩ := ownE_slice oF
              subst hv9
              have b1 := b0.trans (bF.mono b0.size)
              replace oF : OwnE wr.heap.size c1 (.slice fa9 fn9 fc9) D2 := rows_base oF fun b hb => by have := (World.ownsRow.lt oF b hb).1; have := b0.size; omega
              refine ⟨_, rfl, hK _ _ (HS.out _ b1) ?_⟩
              clear hK K bF
              try simp only [Act.put, List.setIfInBounds_toArray, List.set_cons_zero, List.set_cons_succ]
              refine fan_take (i := 7) (v := ?_) rfl (by kernel_rfl) (fun _ _ _ _ h => h) (by kernel_rfl) (HS.out _ b1) ?_ ?_
              rotate_left
              · rintro w9 ⟨t0, t1, t2⟩
                go_simp
                try with_reducible rfl
              try simp only [Act.put, List.setIfInBounds_toArray, List.set_cons_zero, List.set_cons_succ]
              refine fan_take (i := 8) (v := ?_) rfl (by kernel_rfl) (fun _ _ _ _ h => h) (by kernel_rfl) (HS.out _ b1) ?_ ?_
              rotate_left
              · rintro w9 ⟨t0, t1, t2⟩
                go_simp
                try with_reducible rfl
              try simp only [Act.put, List.setIfInBounds_toArray, List.set_cons_zero, List.set_cons_succ]
              refine fan_take (i := 9) (v := ?_) rfl (by kernel_rfl) (fun _ _ _ _ h => h) (by kernel_rfl) (HS.out _ b1) ?_ ?_
              rotate_left
              · rintro w9 ⟨t0, t1, t2⟩
                go_simp
                try with_reducible rfl
              try simp only [Act.put, List.setIfInBounds_toArray, List.set_cons_zero, List.set_cons_succ]
              refine fan_take (i := 10) (v := ?_) rfl (by kernel_rfl) (fun _ _ _ _ h => h) (by kernel_rfl) (HS.out _ b1) ?_ ?_
              rotate_left
              · rintro w9 ⟨t0, t1, t2⟩
                go_simp
                try with_reducible rfl
              try simp only [Act.put, List.setIfInBounds_toArray, List.set_cons_zero, List.set_cons_succ]
              refine fan_two 11 12 (by kernel_rfl) ?_ ?_
              ·
                refine fan_step rfl (by kernel_rfl) fun K hK => ?_
                go_simp
                obtain ⟨c2, hc, h9, bc, sc⟩ := boxed2b c1 (.int .i64 0) (.slice none 0 0) 27
                rw [← hc]
                have b2 := b1.trans (bc.mono b1.size)
                obtain ⟨g9, hg9⟩ : ∃ g, g = c1.heap.size := ⟨_, rfl⟩
                rw [← hg9] at h9
                rw [← hg9]
                have l9 : wr.heap.size ≤ g9 := by have := b1.size; omega
                have n9 : (Value.slice fa9 fn9 fc9).ownBlock ≠ some g9 := fun e => by have := (World.ownsRow.lt oF g9 e).2; omega
                replace oF := OwnE.to oF bc
                refine hK _ _ (HS.out _ b2) ?_
                clear hK K hc bc sc hg9
                try simp only [Act.put, List.setIfInBounds_toArray, List.set_cons_zero, List.set_cons_succ]
                refine fan_one 12 (by kernel_rfl) ?_
                refine fan_step rfl (by kernel_rfl) fun K hK => ?_
                go_simp
                obtain ⟨c3, hc, h10, bc, sc⟩ := boxed2b c2 (.int .i64 0) (.int .i64 0) 26
                rw [← hc]
                have b3 := b2.trans (bc.mono b2.size)
                obtain ⟨g10, hg10⟩ : ∃ g, g = c2.heap.size := ⟨_, rfl⟩
                rw [← hg10] at h10
                rw [← hg10]
                have l10 : wr.heap.size ≤ g10 := by have := b2.size; omega
                have n910 : g9 ≠ g10 := by have := lt_of_block h9; omega
                replace h9 := (bc.block _ (lt_of_block h9)).trans h9
                have n10 : (Value.slice fa9 fn9 fc9).ownBlock ≠ some g10 := fun e => by have := (World.ownsRow.lt oF g10 e).2; omega
                replace oF := OwnE.to oF bc
                refine hK _ _ (HS.out _ b3) ?_
                clear hK K hc bc sc hg10
                try simp only [Act.put, List.setIfInBounds_toArray, List.set_cons_zero, List.set_cons_succ]
                obtain ⟨y0, y1, y2, y3⟩ := cells2 h9
                refine fan_one 13 (by kernel_rfl) ?_
                refine fan_step rfl (by kernel_rfl) fun K hK => ?_
                go_simp
                obtain ⟨d1, hd1⟩ : ∃ d, d = (c3.setCell ⟨g9, 0, none⟩ (.int .i64 D1)).setCell ⟨g9, 1, none⟩ (.slice fa9 fn9 fc9) := ⟨_, rfl⟩
                rw [← hd1]
                have e1 : Below wr.heap.size wr d1 := by rw [hd1]; exact below_set2 b3 l9 _ _
                have i9 : d1.heap[g9]? = some (.cells #[.int .i64 D1, .slice fa9 fn9 fc9] 27 (0, 0)) := by rw [hd1]; exact heap_set2 h9 _ _
                have i10 : d1.heap[g10]? = some (.cells #[.int .i64 0, .int .i64 0] 26 (0, 0)) := by rw [hd1, Below.heap_setCell _ _ _ _ (Ne.symm n910), Below.heap_setCell _ _ _ _ (Ne.symm n910)]; exact h10
                have oG : OwnE wr.heap.size d1 (.slice fa9 fn9 fc9) D2 := by rw [hd1]; exact ownsRow_setCell_other (ownsRow_setCell_other oF (a := ⟨g9, 0, none⟩) n9 _) (a := ⟨g9, 1, none⟩) n9 _
                refine hK _ _ (HS.out _ e1) ?_
                clear hK K y0 y1 y2 y3 hd1
                try simp only [Act.put, List.setIfInBounds_toArray, List.set_cons_zero, List.set_cons_succ]
                obtain ⟨y0, y1, y2, y3⟩ := cells2 i10
                refine fan_one 14 (by kernel_rfl) ?_
                refine fan_step rfl (by kernel_rfl) fun K hK => ?_
                go_simp
                obtain ⟨d2, hd2⟩ : ∃ d, d = (d1.setCell ⟨g10, 0, none⟩ (.int .i64 p)).setCell ⟨g10, 1, none⟩ (.int .i64 q) := ⟨_, rfl⟩
                rw [← hd2]
                have e2 : Below wr.heap.size wr d2 := by rw [hd2]; exact below_set2 e1 l10 _ _
                have j10 : d2.heap[g10]? = some (.cells #[.int .i64 p, .int .i64 q] 26 (0, 0)) := by rw [hd2]; exact heap_set2 i10 _ _
                have j9 : d2.heap[g9]? = some (.cells #[.int .i64 D1, .slice fa9 fn9 fc9] 27 (0, 0)) := by rw [hd2, Below.heap_setCell _ _ _ _ n910, Below.heap_setCell _ _ _ _ n910]; exact i9
                have oH : OwnE wr.heap.size d2 (.slice fa9 fn9 fc9) D2 := by rw [hd2]; exact ownsRow_setCell_other (ownsRow_setCell_other oG (a := ⟨g10, 0, none⟩) n10 _) (a := ⟨g10, 1, none⟩) n10 _
                refine hK _ _ (HS.out _ e2) ?_
                clear hK K y0 y1 y2 y3 hd2
                try simp only [Act.put, List.setIfInBounds_toArray, List.set_cons_zero, List.set_cons_succ]
                refine fan_done (by kernel_rfl) ?_
                show wpList _ _ _ _ _ _
                have FIN := hide (And.intro (hO.out.to e2) (And.intro j9 (And.intro j10 oH)))
                clear e1 i9 i10 oG e2 j9 j10 oH
                go_wp2_with fail
                go_meet
                exact ⟨g9, g10, _, rfl, rfl, rfl, hide ⟨FIN.out.1, FIN.out.2.1, FIN.out.2.2.1, FIN.out.2.2.2, n9, n10, l9, l10, n910⟩⟩
              ·
                refine fan_step rfl (by kernel_rfl) fun K hK => ?_
                go_simp
                obtain ⟨c2, hc, h10, bc, sc⟩ := boxed2b c1 (.int .i64 0) (.int .i64 0) 26
                rw [← hc]
                have b2 := b1.trans (bc.mono b1.size)
                obtain ⟨g10, hg10⟩ : ∃ g, g = c1.heap.size := ⟨_, rfl⟩
                rw [← hg10] at h10
                rw [← hg10]
                have l10 : wr.heap.size ≤ g10 := by have := b1.size; omega
                have n10 : (Value.slice fa9 fn9 fc9).ownBlock ≠ some g10 := fun e => by have := (World.ownsRow.lt oF g10 e).2; omega
                replace oF := OwnE.to oF bc
                refine hK _ _ (HS.out _ b2) ?_
                clear hK K hc bc sc hg10
                try simp only [Act.put, List.setIfInBounds_toArray, List.set_cons_zero, List.set_cons_succ]
                refine fan_one 11 (by kernel_rfl) ?_
                refine fan_step rfl (by kernel_rfl) fun K hK => ?_
                go_simp
                obtain ⟨c3, hc, h9, bc, sc⟩ := boxed2b c2 (.int .i64 0) (.slice none 0 0) 27
                rw [← hc]
                have b3 := b2.trans (bc.mono b2.size)
                obtain ⟨g9, hg9⟩ : ∃ g, g = c2.heap.size := ⟨_, rfl⟩
                rw [← hg9] at h9
                rw [← hg9]
                have l9 : wr.heap.size ≤ g9 := by have := b2.size; omega
                have n910 : g9 ≠ g10 := by have := lt_of_block h10; omega
                replace h10 := (bc.block _ (lt_of_block h10)).trans h10
                have n9 : (Value.slice fa9 fn9 fc9).ownBlock ≠ some g9 := fun e => by have := (World.ownsRow.lt oF g9 e).2; omega
                replace oF := OwnE.to oF bc
                refine hK _ _ (HS.out _ b3) ?_
                clear hK K hc bc sc hg9
                try simp only [Act.put, List.setIfInBounds_toArray, List.set_cons_zero, List.set_cons_succ]
                obtain ⟨y0, y1, y2, y3⟩ := cells2 h9
                refine fan_one 13 (by kernel_rfl) ?_
                refine fan_step rfl (by kernel_rfl) fun K hK => ?_
                go_simp
                obtain ⟨d1, hd1⟩ : ∃ d, d = (c3.setCell ⟨g9, 0, none⟩ (.int .i64 D1)).setCell ⟨g9, 1, none⟩ (.slice fa9 fn9 fc9) := ⟨_, rfl⟩
                rw [← hd1]
                have e1 : Below wr.heap.size wr d1 := by rw [hd1]; exact below_set2 b3 l9 _ _
                have i9 : d1.heap[g9]? = some (.cells #[.int .i64 D1, .slice fa9 fn9 fc9] 27 (0, 0)) := by rw [hd1]; exact heap_set2 h9 _ _
                have i10 : d1.heap[g10]? = some (.cells #[.int .i64 0, .int .i64 0] 26 (0, 0)) := by rw [hd1, Below.heap_setCell _ _ _ _ (Ne.symm n910), Below.heap_setCell _ _ _ _ (Ne.symm n910)]; exact h10
                have oG : OwnE wr.heap.size d1 (.slice fa9 fn9 fc9) D2 := by rw [hd1]; exact ownsRow_setCell_other (ownsRow_setCell_other oF (a := ⟨g9, 0, none⟩) n9 _) (a := ⟨g9, 1, none⟩) n9 _
                refine hK _ _ (HS.out _ e1) ?_
                clear hK K y0 y1 y2 y3 hd1
                try simp only [Act.put, List.setIfInBounds_toArray, List.set_cons_zero, List.set_cons_succ]
                obtain ⟨y0, y1, y2, y3⟩ := cells2 i10
                refine fan_one 14 (by kernel_rfl) ?_
                refine fan_step rfl (by kernel_rfl) fun K hK => ?_
                go_simp
                obtain ⟨d2, hd2⟩ : ∃ d, d = (d1.setCell ⟨g10, 0, none⟩ (.int .i64 p)).setCell ⟨g10, 1, none⟩ (.int .i64 q) := ⟨_, rfl⟩
                rw [← hd2]
                have e2 : Below wr.heap.size wr d2 := by rw [hd2]; exact below_set2 e1 l10 _ _
                have j10 : d2.heap[g10]? = some (.cells #[.int .i64 p, .int .i64 q] 26 (0, 0)) := by rw [hd2]; exact heap_set2 i10 _ _
                have j9 : d2.heap[g9]? = some (.cells #[.int .i64 D1, .slice fa9 fn9 fc9] 27 (0, 0)) := by rw [hd2, Below.heap_setCell _ _ _ _ n910, Below.heap_setCell _ _ _ _ n910]; exact i9
                have oH : OwnE wr.heap.size d2 (.slice fa9 fn9 fc9) D2 := by rw [hd2]; exact ownsRow_setCell_other (ownsRow_setCell_other oG (a := ⟨g10, 0, none⟩) n10 _) (a := ⟨g10, 1, none⟩) n10 _
                refine hK _ _ (HS.out _ e2) ?_
                clear hK K y0 y1 y2 y3 hd2
                try simp only [Act.put, List.setIfInBounds_toArray, List.set_cons_zero, List.set_cons_succ]
                refine fan_done (by kernel_rfl) ?_
                show wpList _ _ _ _ _ _
                have FIN := hide (And.intro (hO.out.to e2) (And.intro j9 (And.intro j10 oH)))
                clear e1 i9 i10 oG e2 j9 j10 oH
                go_wp2_with fail
                go_meet
                exact ⟨g9, g10, _, rfl, rfl, rfl, hide ⟨FIN.out.1, FIN.out.2.1, FIN.out.2.2.1, FIN.out.2.2.2, n9, n10, l9, l10, n910⟩⟩
            ·
              refine fan_step rfl (by kernel_rfl) fun K hK => ?_
              go_simp
              obtain ⟨c1, hc, h9, bc, sc⟩ := boxed2b c0 (.int .i64 0) (.slice none 0 0) 27
              rw [← hc]
              have b1 := b0.trans (bc.mono b0.size)
              obtain ⟨g9, hg9⟩ : ∃ g, g = c0.heap.size := ⟨_, rfl⟩
              rw [← hg9] at h9
              rw [← hg9]
              have l9 : wr.heap.size ≤ g9 := by have := b0.size; omega
              refine hK _ _ (HS.out _ b1) ?_
              clear hK K hc bc sc hg9
              try simp only [Act.put, List.setIfInBounds_toArray, List.set_cons_zero, List.set_cons_succ]
              refine fan_two 6 12 (by kernel_rfl) ?_ ?_
              ·
                refine fan_step rfl (by kernel_rfl) fun K hK => ?_
                refine wp_call_of 10 _ _ (by rfl) #[.agg #[.int .i64 m.1, .slice ma mn mc], .int .i64 sS] (by simp [Act.eval]) (Try.call10 _ _) (KA.out _ b1) ?_
                rintro e c2 ⟨f9, rfl, oF, bF⟩
                obtain ⟨fa9, fn9, fc9, hv9⟩ := ownE_slice oF
                subst hv9
                have b2 := b1.trans (bF.mono b1.size)
                have n9 : (Value.slice fa9 fn9 fc9).ownBlock ≠ some g9 := fun e => by have := (World.ownsRow.lt oF g9 e).1; have := lt_of_block h9; omega
                replace h9 := (bF.block _ (lt_of_block h9)).trans h9
                replace oF : OwnE wr.heap.size c2 (.slice fa9 fn9 fc9) D2 := rows_base oF fun b hb => by have := (World.ownsRow.lt oF b hb).1; have := b1.size; omega
                refine ⟨_, rfl, hK _ _ (HS.out _ b2) ?_⟩
                clear hK K bF
                try simp only [Act.put, List.setIfInBounds_toArray, List.set_cons_zero, List.set_cons_succ]
                refine fan_take (i := 7) (v := ?_) rfl (by kernel_rfl) (fun _ _ _ _ h => h) (by kernel_rfl) (HS.out _ b2) ?_ ?_
                rotate_left
                · rintro w9 ⟨t0, t1, t2⟩
                  go_simp
                  try with_reducible rfl
                try simp only [Act.put, List.setIfInBounds_toArray, List.set_cons_zero, List.set_cons_succ]
                refine fan_take (i := 8) (v := ?_) rfl (by kernel_rfl) (fun _ _ _ _ h => h) (by kernel_rfl) (HS.out _ b2) ?_ ?_
                rotate_left
                · rintro w9 ⟨t0, t1, t2⟩
                  go_simp
                  try with_reducible rfl
                try simp only [Act.put, List.setIfInBounds_toArray, List.set_cons_zero, List.set_cons_succ]
                refine fan_take (i := 9) (v := ?_) rfl (by kernel_rfl) (fun _ _ _ _ h => h) (by kernel_rfl) (HS.out _ b2) ?_ ?_
                rotate_left
                · rintro w9 ⟨t0, t1, t2⟩
                  go_simp
                  try with_reducible rfl
                try simp only [Act.put, List.setIfInBounds_toArray, List.set_cons_zero, List.set_cons_succ]
                refine fan_take (i := 10) (v := ?_) rfl (by kernel_rfl) (fun _ _ _ _ h => h) (by kernel_rfl) (HS.out _ b2) ?_ ?_
                rotate_left
                · rintro w9 ⟨t0, t1, t2⟩
                  go_simp
                  try with_reducible rfl
                try simp only [Act.put, List.setIfInBounds_toArray, List.set_cons_zero, List.set_cons_succ]
                refine fan_one 12 (by kernel_rfl) ?_
                refine fan_step rfl (by kernel_rfl) fun K hK => ?_
                go_simp
                obtain ⟨c3, hc, h10, bc, sc⟩ := boxed2b c2 (.int .i64 0) (.int .i64 0) 26
                rw [← hc]
                have b3 := b2.trans (bc.mono b2.size)
                obtain ⟨g10, hg10⟩ : ∃ g, g = c2.heap.size := ⟨_, rfl⟩
                rw [← hg10] at h10
                rw [← hg10]
                have l10 : wr.heap.size ≤ g10 := by have := b2.size; omega
                have n910 : g9 ≠ g10 := by have := lt_of_block h9; omega
                replace h9 := (bc.block _ (lt_of_block h9)).trans h9
                have n10 : (Value.slice fa9 fn9 fc9).ownBlock ≠ some g10 := fun e => by have := (World.ownsRow.lt oF g10 e).2; omega
                replace oF := OwnE.to oF bc
                refine hK _ _ (HS.out _ b3) ?_
                clear hK K hc bc sc hg10
                try simp only [Act.put, List.setIfInBounds_toArray, List.set_cons_zero, List.set_cons_succ]
                obtain ⟨y0, y1, y2, y3⟩ := cells2 h9
                refine fan_one 13 (by kernel_rfl) ?_
                refine fan_step rfl (by kernel_rfl) fun K hK => ?_
                go_simp
                obtain ⟨d1, hd1⟩ : ∃ d, d = (c3.setCell ⟨g9, 0, none⟩ (.int .i64 D1)).setCell ⟨g9, 1, none⟩ (.slice fa9 fn9 fc9) := ⟨_, rfl⟩
                rw [← hd1]
                have e1 : Below wr.heap.size wr d1 := by rw [hd1]; exact below_set2 b3 l9 _ _
                have i9 : d1.heap[g9]? = some (.cells #[.int .i64 D1, .slice fa9 fn9 fc9] 27 (0, 0)) := by rw [hd1]; exact heap_set2 h9 _ _
                have i10 : d1.heap[g10]? = some (.cells #[.int .i64 0, .int .i64 0] 26 (0, 0)) := by rw [hd1, Below.heap_setCell _ _ _ _ (Ne.symm n910), Below.heap_setCell _ _ _ _ (Ne.symm n910)]; exact h10
                have oG : OwnE wr.heap.size d1 (.slice fa9 fn9 fc9) D2 := by rw [hd1]; exact ownsRow_setCell_other (ownsRow_setCell_other oF (a := ⟨g9, 0, none⟩) n9 _) (a := ⟨g9, 1, none⟩) n9 _
                refine hK _ _ (HS.out _ e1) ?_
                clear hK K y0 y1 y2 y3 hd1
                try simp only [Act.put, List.setIfInBounds_toArray, List.set_cons_zero, List.set_cons_succ]
                obtain ⟨y0, y1, y2, y3⟩ := cells2 i10
                refine fan_one 14 (by kernel_rfl) ?_
                refine fan_step rfl (by kernel_rfl) fun K hK => ?_
                go_simp
                obtain ⟨d2, hd2⟩ : ∃ d, d = (d1.setCell ⟨g10, 0, none⟩ (.int .i64 p)).setCell ⟨g10, 1, none⟩ (.int .i64 q) := ⟨_, rfl⟩
                rw [← hd2]
                have e2 : Below wr.heap.size wr d2 := by rw [hd2]; exact below_set2 e1 l10 _ _
                have j10 : d2.heap[g10]? = some (.cells #[.int .i64 p, .int .i64 q] 26 (0, 0)) := by rw [hd2]; exact heap_set2 i10 _ _
                have j9 : d2.heap[g9]? = some (.cells #[.int .i64 D1, .slice fa9 fn9 fc9] 27 (0, 0)) := by rw [hd2, Below.heap_setCell _ _ _ _ n910, Below.heap_setCell _ _ _ _ n910]; exact i9
                have oH : OwnE wr.heap.size d2 (.slice fa9 fn9 fc9) D2 := by rw [hd2]; exact ownsRow_setCell_other (ownsRow_setCell_other oG (a := ⟨g10, 0, none⟩) n10 _) (a := ⟨g10, 1, none⟩) n10 _
                refine hK _ _ (HS.out _ e2) ?_
                clear hK K y0 y1 y2 y3 hd2
                try simp only [Act.put, List.setIfInBounds_toArray, List.set_cons_zero, List.set_cons_succ]
                refine fan_done (by kernel_rfl) ?_
                show wpList _ _ _ _ _ _
                have FIN := hide (And.intro (hO.out.to e2) (And.intro j9 (And.intro j10 oH)))
                clear e1 i9 i10 oG e2 j9 j10 oH
                go_wp2_with fail
                go_meet
                exact ⟨g9, g10, _, rfl, rfl, rfl, hide ⟨FIN.out.1, FIN.out.2.1, FIN.out.2.2.1, FIN.out.2.2.2, n9, n10, l9, l10, n910⟩⟩
              ·
                refine fan_step rfl (by kernel_rfl) fun K hK => ?_
                go_simp
                obtain ⟨c2, hc, h10, bc, sc⟩ := boxed2b c1 (.int .i64 0) (.int .i64 0) 26
                rw [← hc]
                have b2 := b1.trans (bc.mono b1.size)
                obtain ⟨g10, hg10⟩ : ∃ g, g = c1.heap.size := ⟨_, rfl⟩
                rw [← hg10] at h10
                rw [← hg10]
                have l10 : wr.heap.size ≤ g10 := by have := b1.size; omega
                have n910 : g9 ≠ g10 := by have := lt_of_block h9; omega
                replace h9 := (bc.block _ (lt_of_block h9)).trans h9
                refine hK _ _ (HS.out _ b2) ?_
                clear hK K hc bc sc hg10
                try simp only [Act.put, List.setIfInBounds_toArray, List.set_cons_zero, List.set_cons_succ]
                refine fan_one 6 (by kernel_rfl) ?_
                refine fan_step rfl (by kernel_rfl) fun K hK => ?_
                refine wp_call_of 10 _ _ (by rfl) #[.agg #[.int .i64 m.1, .slice ma mn mc], .int .i64 sS] (by simp [Act.eval]) (Try.call10 _ _) (KA.out _ b2) ?_
                rintro e c3 ⟨f9, rfl, oF, bF⟩
                obtain ⟨fa9, fn9, fc9, hv9⟩ := ownE_slice oF
                subst hv9
                have b3 := b2.trans (bF.mono b2.size)
                have n9 : (Value.slice fa9 fn9 fc9).ownBlock ≠ some g9 := fun e => by have := (World.ownsRow.lt oF g9 e).1; have := lt_of_block h9; omega
                have n10 : (Value.slice fa9 fn9 fc9).ownBlock ≠ some g10 := fun e => by have := (World.ownsRow.lt oF g10 e).1; have := lt_of_block h10; omega
                replace h9 := (bF.block _ (lt_of_block h9)).trans h9
                replace h10 := (bF.block _ (lt_of_block h10)).trans h10
                replace oF : OwnE wr.heap.size c3 (.slice fa9 fn9 fc9) D2 := rows_base oF fun b hb => by have := (World.ownsRow.lt oF b hb).1; have := b2.size; omega
                refine ⟨_, rfl, hK _ _ (HS.out _ b3) ?_⟩
                clear hK K bF
                try simp only [Act.put, List.setIfInBounds_toArray, List.set_cons_zero, List.set_cons_succ]
                refine fan_take (i := 7) (v := ?_) rfl (by kernel_rfl) (fun _ _ _ _ h => h) (by kernel_rfl) (HS.out _ b3) ?_ ?_
                rotate_left
                · rintro w9 ⟨t0, t1, t2⟩
                  go_simp
                  try with_reducible rfl
                try simp only [Act.put, List.setIfInBounds_toArray, List.set_cons_zero, List.set_cons_succ]
                refine fan_take (i := 8) (v := ?_) rfl (by kernel_rfl) (fun _ _ _ _ h => h) (by kernel_rfl) (HS.out _ b3) ?_ ?_
                rotate_left
                · rintro w9 ⟨t0, t1, t2⟩
                  go_simp
                  try with_reducible rfl
                try simp only [Act.put, List.setIfInBounds_toArray, List.set_cons_zero, List.set_cons_succ]
                refine fan_take (i := 9) (v := ?_) rfl (by kernel_rfl) (fun _ _ _ _ h => h) (by kernel_rfl) (HS.out _ b3) ?_ ?_
                rotate_left
                · rintro w9 ⟨t0, t1, t2⟩
                  go_simp
                  try with_reducible rfl
                try simp only [Act.put, List.setIfInBounds_toArray, List.set_cons_zero, List.set_cons_succ]
                refine fan_take (i := 10) (v := ?_) rfl (by kernel_rfl) (fun _ _ _ _ h => h) (by kernel_rfl) (HS.out _ b3) ?_ ?_
                rotate_left
                · rintro w9 ⟨t0, t1, t2⟩
                  go_simp
                  try with_reducible rfl
                try simp only [Act.put, List.setIfInBounds_toArray, List.set_cons_zero, List.set_cons_succ]
                obtain ⟨y0, y1, y2, y3⟩ := cells2 h9
                refine fan_one 13 (by kernel_rfl) ?_
                refine fan_step rfl (by kernel_rfl) fun K hK => ?_
                go_simp
                obtain ⟨d1, hd1⟩ : ∃ d, d = (c3.setCell ⟨g9, 0, none⟩ (.int .i64 D1)).setCell ⟨g9, 1, none⟩ (.slice fa9 fn9 fc9) := ⟨_, rfl⟩
                rw [← hd1]
                have e1 : Below wr.heap.size wr d1 := by rw [hd1]; exact below_set2 b3 l9 _ _
                have i9 : d1.heap[g9]? = some (.cells #[.int .i64 D1, .slice fa9 fn9 fc9] 27 (0, 0)) := by rw [hd1]; exact heap_set2 h9 _ _
                have i10 : d1.heap[g10]? = some (.cells #[.int .i64 0, .int .i64 0] 26 (0, 0)) := by rw [hd1, Below.heap_setCell _ _ _ _ (Ne.symm n910), Below.heap_setCell _ _ _ _ (Ne.symm n910)]; exact h10
                have oG : OwnE wr.heap.size d1 (.slice fa9 fn9 fc9) D2 := by rw [hd1]; exact ownsRow_setCell_other (ownsRow_setCell_other oF (a := ⟨g9, 0, none⟩) n9 _) (a := ⟨g9, 1, none⟩) n9 _
                refine hK _ _ (HS.out _ e1) ?_
                clear hK K y0 y1 y2 y3 hd1
                try simp only [Act.put, List.setIfInBounds_toArray, List.set_cons_zero, List.set_cons_succ]
                obtain ⟨y0, y1, y2, y3⟩ := cells2 i10
                refine fan_one 14 (by kernel_rfl) ?_
                refine fan_step rfl (by kernel_rfl) fun K hK => ?_
                go_simp
                obtain ⟨d2, hd2⟩ : ∃ d, d = (d1.setCell ⟨g10, 0, none⟩ (.int .i64 p)).setCell ⟨g10, 1, none⟩ (.int .i64 q) := ⟨_, rfl⟩
                rw [← hd2]
                have e2 : Below wr.heap.size wr d2 := by rw [hd2]; exact below_set2 e1 l10 _ _
                have j10 : d2.heap[g10]? = some (.cells #[.int .i64 p, .int .i64 q] 26 (0, 0)) := by rw [hd2]; exact heap_set2 i10 _ _
                have j9 : d2.heap[g9]? = some (.cells #[.int .i64 D1, .slice fa9 fn9 fc9] 27 (0, 0)) := by rw [hd2, Below.heap_setCell _ _ _ _ n910, Below.heap_setCell _ _ _ _ n910]; exact i9
                have oH : OwnE wr.heap.size d2 (.slice fa9 fn9 fc9) D2 := by rw [hd2]; exact ownsRow_setCell_other (ownsRow_setCell_other oG (a := ⟨g10, 0, none⟩) n10 _) (a := ⟨g10, 1, none⟩) n10 _
                refine hK _ _ (HS.out _ e2) ?_
                clear hK K y0 y1 y2 y3 hd2
                try simp only [Act.put, List.setIfInBounds_toArray, List.set_cons_zero, List.set_cons_succ]
                refine fan_done (by kernel_rfl) ?_
                show wpList _ _ _ _ _ _
                have FIN := hide (And.intro (hO.out.to e2) (And.intro j9 (And.intro j10 oH)))
                clear e1 i9 i10 oG e2 j9 j10 oH
                go_wp2_with fail
                go_meet
                exact ⟨g9, g10, _, rfl, rfl, rfl, hide ⟨FIN.out.1, FIN.out.2.1, FIN.out.2.2.1, FIN.out.2.2.2, n9, n10, l9, l10, n910⟩⟩
            ·
              refine fan_step rfl (by kernel_rfl) fun K hK => ?_
              go_simp
              obtain ⟨c1, hc, h10, bc, sc⟩ := boxed2b c0 (.int .i64 0) (.int .i64 0) 26
              rw [← hc]
              have b1 := b0.trans (bc.mono b0.size)
              obtain ⟨g10, hg10⟩ : ∃ g, g = c0.heap.size := ⟨_, rfl⟩
              rw [← hg10] at h10
              rw [← hg10]
              have l10 : wr.heap.size ≤ g10 := by have := b0.size; omega
              refine hK _ _ (HS.out _ b1) ?_
              clear hK K hc bc sc hg10
              try simp only [Act.put, List.setIfInBounds_toArray, List.set_cons_zero, List.set_cons_succ]
              refine fan_two 6 11 (by kernel_rfl) ?_ ?_
              ·
                refine fan_step rfl (by kernel_rfl) fun K hK => ?_
                refine wp_call_of 10 _ _ (by rfl) #[.agg #[.int .i64 m.1, .slice ma mn mc], .int .i64 sS] (by simp [Act.eval]) (Try.call10 _ _) (KA.out _ b1) ?_
                rintro e c2 ⟨f9, rfl, oF, bF⟩
                obtain ⟨fa9, fn9, fc9, hv9⟩ := ownE_slice oF
                subst hv9
                have b2 := b1.trans (bF.mono b1.size)
                have n10 : (Value.slice fa9 fn9 fc9).ownBlock ≠ some g10 := fun e => by have := (World.ownsRow.lt oF g10 e).1; have := lt_of_block h10; omega
                replace h10 := (bF.block _ (lt_of_block h10)).trans h10
                replace oF : OwnE wr.heap.size c2 (.slice fa9 fn9 fc9) D2 := rows_base oF fun b hb => by have := (World.ownsRow.lt oF b hb).1; have := b1.size; omega
                refine ⟨_, rfl, hK _ _ (HS.out _ b2) ?_⟩
                clear hK K bF
                try simp only [Act.put, List.setIfInBounds_toArray, List.set_cons_zero, List.set_cons_succ]
                refine fan_take (i := 7) (v := ?_) rfl (by kernel_rfl) (fun _ _ _ _ h => h) (by kernel_rfl) (HS.out _ b2) ?_ ?_
                rotate_left
                · rintro w9 ⟨t0, t1, t2⟩
                  go_simp
                  try with_reducible rfl
                try simp only [Act.put, List.setIfInBounds_toArray, List.set_cons_zero, List.set_cons_succ]
                refine fan_take (i := 8) (v := ?_) rfl (by kernel_rfl) (fun _ _ _ _ h => h) (by kernel_rfl) (HS.out _ b2) ?_ ?_
                rotate_left
                · rintro w9 ⟨t0, t1, t2⟩
                  go_simp
                  try with_reducible rfl
                try simp only [Act.put, List.setIfInBounds_toArray, List.set_cons_zero, List.set_cons_succ]
                refine fan_take (i := 9) (v := ?_) rfl (by kernel_rfl) (fun _ _ _ _ h => h) (by kernel_rfl) (HS.out _ b2) ?_ ?_
                rotate_left
                · rintro w9 ⟨t0, t1, t2⟩
                  go_simp
                  try with_reducible rfl
                try simp only [Act.put, List.setIfInBounds_toArray, List.set_cons_zero, List.set_cons_succ]
                refine fan_take (i := 10) (v := ?_) rfl (by kernel_rfl) (fun _ _ _ _ h => h) (by kernel_rfl) (HS.out _ b2) ?_ ?_
                rotate_left
                · rintro w9 ⟨t0, t1, t2⟩
                  go_simp
                  try with_reducible rfl
                try simp only [Act.put, List.setIfInBounds_toArray, List.set_cons_zero, List.set_cons_succ]
                refine fan_one 11 (by kernel_rfl) ?_
                refine fan_step rfl (by kernel_rfl) fun K hK => ?_
                go_simp
                obtain ⟨c3, hc, h9, bc, sc⟩ := boxed2b c2 (.int .i64 0) (.slice none 0 0) 27
                rw [← hc]
                have b3 := b2.trans (bc.mono b2.size)
                obtain ⟨g9, hg9⟩ : ∃ g, g = c2.heap.size := ⟨_, rfl⟩
                rw [← hg9] at h9
                rw [← hg9]
                have l9 : wr.heap.size ≤ g9 := by have := b2.size; omega
                have n910 : g9 ≠ g10 := by have := lt_of_block h10; omega
                replace h10 := (bc.block _ (lt_of_block h10)).trans h10
                have n9 : (Value.slice fa9 fn9 fc9).ownBlock ≠ some g9 := fun e => by have := (World.ownsRow.lt oF g9 e).2; omega
                replace oF := OwnE.to oF bc
                refine hK _ _ (HS.out _ b3) ?_
                clear hK K hc bc sc hg9
                try simp only [Act.put, List.setIfInBounds_toArray, List.set_cons_zero, List.set_cons_succ]
                obtain ⟨y0, y1, y2, y3⟩ := cells2 h9
                refine fan_one 13 (by kernel_rfl) ?_
                refine fan_step rfl (by kernel_rfl) fun K hK => ?_
                go_simp
                obtain ⟨d1, hd1⟩ : ∃ d, d = (c3.setCell ⟨g9, 0, none⟩ (.int .i64 D1)).setCell ⟨g9, 1, none⟩ (.slice fa9 fn9 fc9) := ⟨_, rfl⟩
                rw [← hd1]
                have e1 : Below wr.heap.size wr d1 := by rw [hd1]; exact below_set2 b3 l9 _ _
                have i9 : d1.heap[g9]? = some (.cells #[.int .i64 D1, .slice fa9 fn9 fc9] 27 (0, 0)) := by rw [hd1]; exact heap_set2 h9 _ _
                have i10 : d1.heap[g10]? = some (.cells #[.int .i64 0, .int .i64 0] 26 (0, 0)) := by rw [hd1, Below.heap_setCell _ _ _ _ (Ne.symm n910), Below.heap_setCell _ _ _ _ (Ne.symm n910)]; exact h10
                have oG : OwnE wr.heap.size d1 (.slice fa9 fn9 fc9) D2 := by rw [hd1]; exact ownsRow_setCell_other (ownsRow_setCell_other oF (a := ⟨g9, 0, none⟩) n9 _) (a := ⟨g9, 1, none⟩) n9 _
                refine hK _ _ (HS.out _ e1) ?_
                clear hK K y0 y1 y2 y3 hd1
                try simp only [Act.put, List.setIfInBounds_toArray, List.set_cons_zero, List.set_cons_succ]
                obtain ⟨y0, y1, y2, y3⟩ := cells2 i10
                refine fan_one 14 (by kernel_rfl) ?_
                refine fan_step rfl (by kernel_rfl) fun K hK => ?_
                go_simp
                obtain ⟨d2, hd2⟩ : ∃ d, d = (d1.setCell ⟨g10, 0, none⟩ (.int .i64 p)).setCell ⟨g10, 1, none⟩ (.int .i64 q) := ⟨_, rfl⟩
                rw [← hd2]
                have e2 : Below wr.heap.size wr d2 := by rw [hd2]; exact below_set2 e1 l10 _ _
                have j10 : d2.heap[g10]? = some (.cells #[.int .i64 p, .int .i64 q] 26 (0, 0)) := by rw [hd2]; exact heap_set2 i10 _ _
                have j9 : d2.heap[g9]? = some (.cells #[.int .i64 D1, .slice fa9 fn9 fc9] 27 (0, 0)) := by rw [hd2, Below.heap_setCell _ _ _ _ n910, Below.heap_setCell _ _ _ _ n910]; exact i9
                have oH : OwnE wr.heap.size d2 (.slice fa9 fn9 fc9) D2 := by rw [hd2]; exact ownsRow_setCell_other (ownsRow_setCell_other oG (a := ⟨g10, 0, none⟩) n10 _) (a := ⟨g10, 1, none⟩) n10 _
                refine hK _ _ (HS.out _ e2) ?_
                clear hK K y0 y1 y2 y3 hd2
                try simp only [Act.put, List.setIfInBounds_toArray, List.set_cons_zero, List.set_cons_succ]
                refine fan_done (by kernel_rfl) ?_
                show wpList _ _ _ _ _ _
                have FIN := hide (And.intro (hO.out.to e2) (And.intro j9 (And.intro j10 oH)))
                clear e1 i9 i10 oG e2 j9 j10 oH
                go_wp2_with fail
                go_meet
                exact ⟨g9, g10, _, rfl, rfl, rfl, hide ⟨FIN.out.1, FIN.out.2.1, FIN.out.2.2.1, FIN.out.2.2.2, n9, n10, l9, l10, n910⟩⟩
              ·
                refine fan_step rfl (by kernel_rfl) fun K hK => ?_
                go_simp
                obtain ⟨c2, hc, h9, bc, sc⟩ := boxed2b c1 (.int .i64 0) (.slice none 0 0) 27
                rw [← hc]
                have b2 := b1.trans (bc.mono b1.size)
                obtain ⟨g9, hg9⟩ : ∃ g, g = c1.heap.size := ⟨_, rfl⟩
                rw [← hg9] at h9
                rw [← hg9]
                have l9 : wr.heap.size ≤ g9 := by have := b1.size; omega
                have n910 : g9 ≠ g10 := by have := lt_of_block h10; omega
                replace h10 := (bc.block _ (lt_of_block h10)).trans h10
                refine hK _ _ (HS.out _ b2) ?_
                clear hK K hc bc sc hg9
                try simp only [Act.put, List.setIfInBounds_toArray, List.set_cons_zero, List.set_cons_succ]
                refine fan_one 6 (by kernel_rfl) ?_
                refine fan_step rfl (by kernel_rfl) fun K hK => ?_
                refine wp_call_of 10 _ _ (by rfl) #[.agg #[.int .i64 m.1, .slice ma mn mc], .int .i64 sS] (by simp [Act.eval]) (Try.call10 _ _) (KA.out _ b2) ?_
                rintro e c3 ⟨f9, rfl, oF, bF⟩
                obtain ⟨fa9, fn9, fc9, hv9⟩ := ownE_slice oF
                subst hv9
                have b3 := b2.trans (bF.mono b2.size)
                have n9 : (Value.slice fa9 fn9 fc9).ownBlock ≠ some g9 := fun e => by have := (World.ownsRow.lt oF g9 e).1; have := lt_of_block h9; omega
                have n10 : (Value.slice fa9 fn9 fc9).ownBlock ≠ some g10 := fun e => by have := (World.ownsRow.lt oF g10 e).1; have := lt_of_block h10; omega
                replace h9 := (bF.block _ (lt_of_block h9)).trans h9
                replace h10 := (bF.block _ (lt_of_block h10)).trans h10
                replace oF : OwnE wr.heap.size c3 (.slice fa9 fn9 fc9) D2 := rows_base oF fun b hb => by have := (World.ownsRow.lt oF b hb).1; have := b2.size; omega
                refine ⟨_, rfl, hK _ _ (HS.out _ b3) ?_⟩
                clear hK K bF
                try simp only [Act.put, List.setIfInBounds_toArray, List.set_cons_zero, List.set_cons_succ]
                refine fan_take (i := 7) (v := ?_) rfl (by kernel_rfl) (fun _ _ _ _ h => h) (by kernel_rfl) (HS.out _ b3) ?_ ?_
                rotate_left
                · rintro w9 ⟨t0, t1, t2⟩
                  go_simp
                  try with_reducible rfl
                try simp only [Act.put, List.setIfInBounds_toArray, List.set_cons_zero, List.set_cons_succ]
                refine fan_take (i := 8) (v := ?_) rfl (by kernel_rfl) (fun _ _ _ _ h => h) (by kernel_rfl) (HS.out _ b3) ?_ ?_
                rotate_left
                · rintro w9 ⟨t0, t1, t2⟩
                  go_simp
                  try with_reducible rfl
                try simp only [Act.put, List.setIfInBounds_toArray, List.set_cons_zero, List.set_cons_succ]
                refine fan_take (i := 9) (v := ?_) rfl (by kernel_rfl) (fun _ _ _ _ h => h) (by kernel_rfl) (HS.out _ b3) ?_ ?_
                rotate_left
                · rintro w9 ⟨t0, t1, t2⟩
                  go_simp
                  try with_reducible rfl
                try simp only [Act.put, List.setIfInBounds_toArray, List.set_cons_zero, List.set_cons_succ]
                refine fan_take (i := 10) (v := ?_) rfl (by kernel_rfl) (fun _ _ _ _ h => h) (by kernel_rfl) (HS.out _ b3) ?_ ?_
                rotate_left
                · rintro w9 ⟨t0, t1, t2⟩
                  go_simp
                  try with_reducible rfl
                try simp only [Act.put, List.setIfInBounds_toArray, List.set_cons_zero, List.set_cons_succ]
                obtain ⟨y0, y1, y2, y3⟩ := cells2 h9
                refine fan_one 13 (by kernel_rfl) ?_
                refine fan_step rfl (by kernel_rfl) fun K hK => ?_
                go_simp
                obtain ⟨d1, hd1⟩ : ∃ d, d = (c3.setCell ⟨g9, 0, none⟩ (.int .i64 D1)).setCell ⟨g9, 1, none⟩ (.slice fa9 fn9 fc9) := ⟨_, rfl⟩
                rw [← hd1]
                have e1 : Below wr.heap.size wr d1 := by rw [hd1]; exact below_set2 b3 l9 _ _
                have i9 : d1.heap[g9]? = some (.cells #[.int .i64 D1, .slice fa9 fn9 fc9] 27 (0, 0)) := by rw [hd1]; exact heap_set2 h9 _ _
                have i10 : d1.heap[g10]? = some (.cells #[.int .i64 0, .int .i64 0] 26 (0, 0)) := by rw [hd1, Below.heap_setCell _ _ _ _ (Ne.symm n910), Below.heap_setCell _ _ _ _ (Ne.symm n910)]; exact h10
                have oG : OwnE wr.heap.size d1 (.slice fa9 fn9 fc9) D2 := by rw [hd1]; exact ownsRow_setCell_other (ownsRow_setCell_other oF (a := ⟨g9, 0, none⟩) n9 _) (a := ⟨g9, 1, none⟩) n9 _
                refine hK _ _ (HS.out _ e1) ?_
                clear hK K y0 y1 y2 y3 hd1
                try simp only [Act.put, List.setIfInBounds_toArray, List.set_cons_zero, List.set_cons_succ]
                obtain ⟨y0, y1, y2, y3⟩ := cells2 i10
                refine fan_one 14 (by kernel_rfl) ?_
                refine fan_step rfl (by kernel_rfl) fun K hK => ?_
                go_simp
                obtain ⟨d2, hd2⟩ : ∃ d, d = (d1.setCell ⟨g10, 0, none⟩ (.int .i64 p)).setCell ⟨g10, 1, none⟩ (.int .i64 q) := ⟨_, rfl⟩
                rw [← hd2]
                have e2 : Below wr.heap.size wr d2 := by rw [hd2]; exact below_set2 e1 l10 _ _
                have j10 : d2.heap[g10]? = some (.cells #[.int .i64 p, .int .i64 q] 26 (0, 0)) := by rw [hd2]; exact heap_set2 i10 _ _
                have j9 : d2.heap[g9]? = some (.cells #[.int .i64 D1, .slice fa9 fn9 fc9] 27 (0, 0)) := by rw [hd2, Below.heap_setCell _ _ _ _ n910, Below.heap_setCell _ _ _ _ n910]; exact i9
                have oH : OwnE wr.heap.size d2 (.slice fa9 fn9 fc9) D2 := by rw [hd2]; exact ownsRow_setCell_other (ownsRow_setCell_other oG (a := ⟨g10, 0, none⟩) n10 _) (a := ⟨g10, 1, none⟩) n10 _
                refine hK _ _ (HS.out _ e2) ?_
                clear hK K y0 y1 y2 y3 hd2
                try simp only [Act.put, List.setIfInBounds_toArray, List.set_cons_zero, List.set_cons_succ]
                refine fan_done (by kernel_rfl) ?_
                show wpList _ _ _ _ _ _
                have FIN := hide (And.intro (hO.out.to e2) (And.intro j9 (And.intro j10 oH)))
                clear e1 i9 i10 oG e2 j9 j10 oH
                go_wp2_with fail
                go_meet
                exact ⟨g9, g10, _, rfl, rfl, rfl, hide ⟨FIN.out.1, FIN.out.2.1, FIN.out.2.2.1, FIN.out.2.2.2, n9, n10, l9, l10, n910⟩⟩
          case rest =>
          obtain ⟨g9, g10, f9, rfl, rfl, rfl, hC⟩ := hcut
          obtain ⟨fa9, fn9, fc9, hv9⟩ := ownE_slice hC.out.2.2.2.1
          subst hv9
          obtain ⟨p0, p1, _, _⟩ := cells2 hC.out.2.1
          obtain ⟨e0, e1, _, _⟩ := cells2 hC.out.2.2.1
          clear q0 q1 s0 s1 s2
          go_wp2_with fail
          refine (num5_any _ _).mono ?_
          rintro e w' ⟨rfl, rfl⟩
          by_cases her : er = 0
          · have hGa := hC.out.1.2.2.2.2.2.2.2.2.alloc (s := sS) (by rw [hD.out]; exact her)
            rw [hD.out] at hGa
            dsimp only at hGa
            subst her
            have HGa := hide hGa
            clear hGa
            go_upto_region 14 with fail
            have hws : w.heap.size ≤ wc.heap.size := hC.out.1.1.size
            obtain ⟨gv, cv, wv, hrv, ov, grv, hat⟩ := run_append_given wc.drew (World.ownsRow.drew hC.out.1.2.2.2.2.1) p q (by omega) hws
            have HS : Hid (∀ w9, Below wc.heap.size wc w9 → w9.cell? ⟨g9, 0, none⟩ = some (.int .i64 D1) ∧ w9.cell? ⟨g9, 1, none⟩ = some (.slice fa9 fn9 fc9) ∧ w9.cell? ⟨g10, 0, none⟩ = some (.int .i64 p) ∧ w9.cell? ⟨g10, 1, none⟩ = some (.int .i64 q)) := fun w9 b9 => ⟨(b9.cell (cell_lt p0)).trans p0, (b9.cell (cell_lt p1)).trans p1, (b9.cell (cell_lt e0)).trans e0, (b9.cell (cell_lt e1)).trans e1⟩
            have b0 : Below wc.heap.size wc wc.drew := (Below.refl _ _).drew
            have al := b0.alloc (Nat.le_refl _) (.cells #[.int .i64 p, .int .i64 q] 26)
            refine wp_region_fan (fun w9 => w9.cell? ⟨g9, 0, none⟩ = some (.int .i64 D1) ∧ w9.cell? ⟨g9, 1, none⟩ = some (.slice fa9 fn9 fc9) ∧ w9.cell? ⟨g10, 0, none⟩ = some (.int .i64 p) ∧ w9.cell? ⟨g10, 1, none⟩ = some (.int .i64 q)) 5 mixed (by simp) ?_
            refine fan_take (i := 0) (v := ?_) rfl (by kernel_rfl) (fun _ _ _ _ h => h) (by kernel_rfl) (HS.out _ b0) ?_ ?_
            rotate_left
            · rintro w9 ⟨t0, t1, t2, t3⟩
              go_simp
              try with_reducible rfl
            try simp only [Act.put, List.setIfInBounds_toArray, List.set_cons_zero, List.set_cons_succ]
            refine fan_take (i := 1) (v := ?_) rfl (by kernel_rfl) (fun _ _ _ _ h => h) (by kernel_rfl) (HS.out _ b0) ?_ ?_
            rotate_left
            · rintro w9 ⟨t0, t1, t2, t3⟩
              go_simp
              try with_reducible rfl
            try simp only [Act.put, List.setIfInBounds_toArray, List.set_cons_zero, List.set_cons_succ]
            refine fan_take (i := 2) (v := ?_) rfl (by kernel_rfl) (fun _ _ _ _ h => h) (by kernel_rfl) (HS.out _ b0) ?_ ?_
            rotate_left
            · rintro w9 ⟨t0, t1, t2, t3⟩
              go_simp
              try with_reducible rfl
            try simp only [Act.put, List.setIfInBounds_toArray, List.set_cons_zero, List.set_cons_succ]
            refine fan_one 3 (by kernel_rfl) ?_
            refine fan_step rfl (by kernel_rfl) fun K hK => ?_
            go_simp
            refine hK _ _ (HS.out _ al) ?_
            clear hK K
            try simp only [Act.put, List.setIfInBounds_toArray, List.set_cons_zero, List.set_cons_succ]
            refine fan_one 4 (by kernel_rfl) ?_
            refine fan_step rfl (by kernel_rfl) fun K hK => ?_
            refine Lib.wp_append_run _ _ _ _ _ rfl _ _ rfl rfl _ _ hrv ?_
            have hu7 : ∀ b, u7.ownBlock = some b → b < wr.heap.size := fun b hb => (World.ownsRow.lt hO.out.2.2.2.2.1 b hb).2
            have hl9 := hC.out.2.2.2.2.2.2.1
            have hl10 := hC.out.2.2.2.2.2.2.2.1
            have hgMr := lt_of_block hO.out.2.2.1
            have alc := hide al
            have hk : ∀ b, b < wc.heap.size → u7.ownBlock ≠ some b → wv.heap[b]? = wc.heap[b]? := fun b hb hne => (grv.block b (by have := alc.out.size; simp; omega) (fun e => hne e.symm)).trans (alc.out.block b hb)
            have k9 := (hk g9 (lt_of_block hC.out.2.1) (fun e => by have := hu7 _ e; omega)).trans hC.out.2.1
            have k10 := (hk g10 (lt_of_block hC.out.2.2.1) (fun e => by have := hu7 _ e; omega)).trans hC.out.2.2.1
            have kM := (hk gM (lt_of_block hC.out.1.2.2.1) hC.out.1.2.2.2.2.2.2.1).trans hC.out.1.2.2.1
            obtain ⟨r0, r1, _, _⟩ := cells2 k9
            obtain ⟨r2, r3, _, _⟩ := cells2 k10
            refine hK _ _ ⟨r0, r1, r2, r3⟩ ?_
            clear hK K
            try simp only [Act.put, List.setIfInBounds_toArray, List.set_cons_zero, List.set_cons_succ]
            refine fan_done (by kernel_rfl) ?_
            show wpList _ _ _ _ _ _
            obtain ⟨z0, z1, z2, z3⟩ := cells2 kM
            have hf9 : ∀ b, (Value.slice fa9 fn9 fc9).ownBlock = some b → wr.heap.size ≤ b ∧ b < wc.heap.size := fun b hb => World.ownsRow.lt hC.out.2.2.2.1 b hb
            have oF : OwnE w.heap.size wv (.slice fa9 fn9 fc9) D2 := by
              have o1 := hC.out.2.2.2.1
              refine ⟨o1.1, ?_⟩
              rcases o1.2 with h2 | ⟨g', cap', cur, hv, h0, hg', r⟩
              · exact .inl h2
              · refine .inr ⟨g', cap', cur, hv, by have := hO.out.1.size; omega, (hk g' (lt_of_block hg') (fun e => ?_)).trans hg', r⟩
                have := hu7 _ e
                omega
            have FIN : Hid (OInv w gM n (D1, D2) (.slice fa9 fn9 fc9) (.slice (some ⟨gv, 0, none⟩) (g.length + 1) cv) (g ++ [(p, q)]) ((wv.setCell ⟨gM, 0, none⟩ (.int .i64 D1)).setCell ⟨gM, 1, none⟩ (.slice fa9 fn9 fc9))) := by
              have nF : (Value.slice fa9 fn9 fc9).ownBlock ≠ some gM := fun e => by have := hf9 _ e; omega
              have nV : (Value.slice (some ⟨gv, 0, none⟩) (g.length + 1) cv).ownBlock ≠ some gM := fun e => by
                simp [Value.ownBlock] at e
                rcases hat with h | h
                · exact hC.out.1.2.2.2.2.2.2.1 (by rw [h, e])
                · have h' : gv = wc.heap.size + 1 := h
                  have := lt_of_block hC.out.1.2.2.1
                  omega
              have cB : Below w.heap.size w wv := ((hC.out.1.1.trans (alc.out.mono hws))).grown grv (by have := alc.out.size; simp; omega) (fun b hb => (World.ownsRow.lt hC.out.1.2.2.2.2.1 b hb).1)
              refine ⟨below_set2 cB hC.out.1.2.1 _ _, hC.out.1.2.1, heap_set2 kM _ _, ownsRow_setCell_other (ownsRow_setCell_other oF (a := ⟨gM, 0, none⟩) nF _) (a := ⟨gM, 1, none⟩) nF _, ownsRow_setCell_other (ownsRow_setCell_other ov (a := ⟨gM, 0, none⟩) nV _) (a := ⟨gM, 1, none⟩) nV _, nF, nV, fun b hb hb2 => ?_, HGa.out⟩
              have hb' : gv = b := by simpa [Value.ownBlock] using hb
              have h2 := hf9 _ hb2
              rcases hat with h | h
              · have := hu7 _ h; omega
              · have h' : gv = wc.heap.size + 1 := h
                omega
            clear hrv ov grv al oF k9 k10 kM r0 r1 r2 r3
            go_wp2_with fail
            go_meet
            exact ⟨(D1, D2), _, _, by simp; omega, FIN⟩
          · have hbe : (er != 0) = true := by simpa using her
            replace her := hide her
            go_wp2
            go_roundw
            case rel => exact ⟨k + 1, m, _, g, by omega, by omega, by go_num, by omega, hide hC.out.1⟩
            case measure => simp [intOf]; omega
        · have hbw : (sW == 0) = false := by simpa using hw0
          replace hw0 := hide hw0
          by_cases hgz : 0 < g.length
          · obtain ⟨vb, vc, rfl, hvb, hvc⟩ := hO.out.2.2.2.2.1.block hgz
            have hgI : 0 < (g.length : Int) := by omega
            have hgN : (g.length : Int) ≠ 0 := by omega
            have hb1 : -(g.length : Int) < sN.tmod (g.length : Int) := Int.lt_tmod_of_pos sN hgI
            have hb2 : sN.tmod (g.length : Int) < (g.length : Int) := Int.tmod_lt_of_pos sN hgI
            go_upto_region 17 with fail
            obtain ⟨kk, hkk, hkl⟩ : ∃ kk : Nat, (sN.tmod (g.length : Int) + (g.length : Int)) % (g.length : Int) = (kk : Int) ∧ kk < g.length := by
              have h1 := Int.emod_nonneg (sN.tmod (g.length : Int) + (g.length : Int)) hgN
              have h2 := Int.emod_lt_of_pos (sN.tmod (g.length : Int) + (g.length : Int)) hgI
              exact ⟨((sN.tmod (g.length : Int) + (g.length : Int)) % (g.length : Int)).toNat, by omega, by omega⟩
            simp only [hkk]
            clear hkk hb1 hb2
            have hkI : (kk : Int) < (g.length : Int) := by omega
            obtain ⟨p, q, hpq⟩ : ∃ p q, g[kk]? = some (p, q) := ⟨_, _, List.getElem?_eq_getElem hkl⟩
            obtain ⟨l0, hl0⟩ : ∃ l0 : Nat, g.length = l0 + 1 := ⟨g.length - 1, by omega⟩
            obtain ⟨pl, ql, hpl⟩ : ∃ pl ql, g[l0]? = some (pl, ql) := ⟨_, _, List.getElem?_eq_getElem (by omega)⟩
            have hpx := hO.out.2.2.2.2.2.2.2.2.inr (p, q) (List.mem_of_getElem? hpq)
            have hGf := hO.out.2.2.2.2.2.2.2.2.free (perm_out hpq (by rw [hl0]; exact hpl))
            obtain ⟨D1, D2, er, hD⟩ : ∃ D1 D2 er, efree m (p, q) = ((D1, D2), er) := ⟨_, _, _, rfl⟩
            rw [hD] at hGf
            obtain ⟨her, hGf⟩ := hGf
            dsimp only at her hGf hpx
            subst her
            replace hGf := hide hGf
            replace hD := hide hD
            replace hpq := hide hpq
            replace hpl := hide hpl
            replace hl0 := hide hl0
            go_cut [13, 14] from 36 to 176 (fun pp ff wx => ∃ (g13 : Nat) (f13 : Value), pp = .pointer (some ⟨g13, 0, none⟩) ∧ ff = .int .i64 0 ∧ Hid (OInv w gM n m (.slice ma mn mc) (.slice (some ⟨vb, 0, none⟩) g.length vc) g wx ∧ wx.heap[g13]? = some (.cells #[.int .i64 D1, f13] 27 (0, 0)) ∧ OwnE wr.heap.size wx f13 D2 ∧ f13.ownBlock ≠ some g13 ∧ wr.heap.size ≤ g13))
            case first =>
              have KF : Hid (∀ w9, Below wr.heap.size wr w9 → Calls Try.prog 14 #[.agg #[.int .i64 m.1, .slice ma mn mc], .agg #[.int .i64 p, .int .i64 q]] w9 fun e w6 => ∃ f, e = .returned (.tuple #[.agg #[.int .i64 D1, f], .int .i64 0]) ∧ OwnE w9.heap.size w6 f D2 ∧ Below w9.heap.size w9 w6) := fun w9 b9 => by
                have := pfree_any w9 _ m (p, q) ((ownE_rd hO.out.2.2.2.1).to0 b9) (in_small fun x hx => by have := eSec_of hO.out.2.2.2.2.2.2.2.2.ok x hx; omega) (by dsimp only; omega)
                rw [hD.out] at this
                exact this
              obtain ⟨v0, v1, _, _⟩ := OwnE.cells hO.out.2.2.2.2.1 hpq.out
              dsimp only at v0 v1
              have HS : Hid (∀ w9, Below wr.heap.size wr w9 → w9.cell? ⟨gM, 0, none⟩ = some (.int .i64 m.1) ∧ w9.cell? ⟨gM, 1, none⟩ = some (.slice ma mn mc) ∧ w9.cell? ⟨vb, kk * 2, none⟩ = some (.int .i64 p) ∧ w9.cell? ⟨vb, kk * 2 + 1, none⟩ = some (.int .i64 q)) := fun w9 b9 => ⟨(b9.cell (cell_lt q0)).trans q0, (b9.cell (cell_lt q1)).trans q1, (b9.cell (cell_lt v0)).trans v0, (b9.cell (cell_lt v1)).trans v1⟩
              have b0 : Below wr.heap.size wr wr.drew := (Below.refl _ _).drew
              refine wp_region_fan (fun w9 => w9.cell? ⟨gM, 0, none⟩ = some (.int .i64 m.1) ∧ w9.cell? ⟨gM, 1, none⟩ = some (.slice ma mn mc) ∧ w9.cell? ⟨vb, kk * 2, none⟩ = some (.int .i64 p) ∧ w9.cell? ⟨vb, kk * 2 + 1, none⟩ = some (.int .i64 q)) 11 mixed (by simp) ?_
              generalize wr.drew = c0 at *
              clear q0 q1 s0 s1 s2 v0 v1
              refine fan_take (i := 0) (v := ?_) rfl (by kernel_rfl) (fun _ _ _ _ h => h) (by kernel_rfl) (HS.out _ b0) ?_ ?_
              rotate_left
              · rintro w9 ⟨t0, t1, t2, t3⟩
                go_simp
                try with_reducible rfl
              try simp only [Act.put, List.setIfInBounds_toArray, List.set_cons_zero, List.set_cons_succ]
              refine fan_take (i := 1) (v := ?_) rfl (by kernel_rfl) (fun _ _ _ _ h => h) (by kernel_rfl) (HS.out _ b0) ?_ ?_
              rotate_left
              · rintro w9 ⟨t0, t1, t2, t3⟩
                go_simp
                try with_reducible rfl
              try simp only [Act.put, List.setIfInBounds_toArray, List.set_cons_zero, List.set_cons_succ]
              refine fan_take (i := 2) (v := ?_) rfl (by kernel_rfl) (fun _ _ _ _ h => h) (by kernel_rfl) (HS.out _ b0) ?_ ?_
              rotate_left
              · rintro w9 ⟨t0, t1, t2, t3⟩
                go_simp
                try with_reducible rfl
              try simp only [Act.put, List.setIfInBounds_toArray, List.set_cons_zero, List.set_cons_succ]
              refine fan_take (i := 3) (v := ?_) rfl (by kernel_rfl) (fun _ _ _ _ h => h) (by kernel_rfl) (HS.out _ b0) ?_ ?_
              rotate_left
              · rintro w9 ⟨t0, t1, t2, t3⟩
                go_simp
                try with_reducible rfl
              try simp only [Act.put, List.setIfInBounds_toArray, List.set_cons_zero, List.set_cons_succ]
              refine fan_take (i := 4) (v := ?_) rfl (by kernel_rfl) (fun _ _ _ _ h => h) (by kernel_rfl) (HS.out _ b0) ?_ ?_
              rotate_left
              · rintro w9 ⟨t0, t1, t2, t3⟩
                go_simp
                try with_reducible rfl
              try simp only [Act.put, List.setIfInBounds_toArray, List.set_cons_zero, List.set_cons_succ]
              refine fan_two 5 9 (by kernel_rfl) ?_ ?_
              ·
                refine fan_step rfl (by kernel_rfl) fun K hK => ?_
                refine wp_call_of 14 _ _ (by rfl) #[.agg #[.int .i64 m.1, .slice ma mn mc], .agg #[.int .i64 p, .int .i64 q]] (by simp [Act.eval]) (Try.call14 _ _) (KF.out _ b0) ?_
                rintro e c1 ⟨f9, rfl, oF, bF⟩
                obtain ⟨fa9, fn9, fc9, hv9⟩ := ownE_slice oF
                subst hv9
                have b1 := b0.trans (bF.mono b0.size)
                replace oF : OwnE wr.heap.size c1 (.slice fa9 fn9 fc9) D2 := rows_base oF fun b hb => by have := (World.ownsRow.lt oF b hb).1; have := b0.size; omega
                refine ⟨_, rfl, hK _ _ (HS.out _ b1) ?_⟩
                clear hK K bF
                try simp only [Act.put, List.setIfInBounds_toArray, List.set_cons_zero, List.set_cons_succ]
                refine fan_take (i := 6) (v := ?_) rfl (by kernel_rfl) (fun _ _ _ _ h => h) (by kernel_rfl) (HS.out _ b1) ?_ ?_
                rotate_left
                · rintro w9 ⟨t0, t1, t2, t3⟩
                  go_simp
                  try with_reducible rfl
                try simp only [Act.put, List.setIfInBounds_toArray, List.set_cons_zero, List.set_cons_succ]
                refine fan_take (i := 7) (v := ?_) rfl (by kernel_rfl) (fun _ _ _ _ h => h) (by kernel_rfl) (HS.out _ b1) ?_ ?_
                rotate_left
                · rintro w9 ⟨t0, t1, t2, t3⟩
                  go_simp
                  try with_reducible rfl
                try simp only [Act.put, List.setIfInBounds_toArray, List.set_cons_zero, List.set_cons_succ]
                refine fan_take (i := 8) (v := ?_) rfl (by kernel_rfl) (fun _ _ _ _ h => h) (by kernel_rfl) (HS.out _ b1) ?_ ?_
                rotate_left
                · rintro w9 ⟨t0, t1, t2, t3⟩
                  go_simp
                  try with_reducible rfl
                try simp only [Act.put, List.setIfInBounds_toArray, List.set_cons_zero, List.set_cons_succ]
                refine fan_one 9 (by kernel_rfl) ?_
                refine fan_step rfl (by kernel_rfl) fun K hK => ?_
                go_simp
                obtain ⟨c2, hc, h9, bc, sc⟩ := boxed2b c1 (.int .i64 0) (.slice none 0 0) 27
                rw [← hc]
                have b2 := b1.trans (bc.mono b1.size)
                obtain ⟨g9, hg9⟩ : ∃ g, g = c1.heap.size := ⟨_, rfl⟩
                rw [← hg9] at h9
                rw [← hg9]
                have l9 : wr.heap.size ≤ g9 := by have := b1.size; omega
                have n9 : (Value.slice fa9 fn9 fc9).ownBlock ≠ some g9 := fun e => by have := (World.ownsRow.lt oF g9 e).2; omega
                replace oF := OwnE.to oF bc
                refine hK _ _ (HS.out _ b2) ?_
                clear hK K hc bc sc hg9
                try simp only [Act.put, List.setIfInBounds_toArray, List.set_cons_zero, List.set_cons_succ]
                obtain ⟨y0, y1, y2, y3⟩ := cells2 h9
                refine fan_one 10 (by kernel_rfl) ?_
                refine fan_step rfl (by kernel_rfl) fun K hK => ?_
                go_simp
                obtain ⟨d1, hd1⟩ : ∃ d, d = (c2.setCell ⟨g9, 0, none⟩ (.int .i64 D1)).setCell ⟨g9, 1, none⟩ (.slice fa9 fn9 fc9) := ⟨_, rfl⟩
                rw [← hd1]
                have e1 : Below wr.heap.size wr d1 := by rw [hd1]; exact below_set2 b2 l9 _ _
                have i9 : d1.heap[g9]? = some (.cells #[.int .i64 D1, .slice fa9 fn9 fc9] 27 (0, 0)) := by rw [hd1]; exact heap_set2 h9 _ _
                have oG : OwnE wr.heap.size d1 (.slice fa9 fn9 fc9) D2 := by rw [hd1]; exact ownsRow_setCell_other (ownsRow_setCell_other oF (a := ⟨g9, 0, none⟩) n9 _) (a := ⟨g9, 1, none⟩) n9 _
                refine hK _ _ (HS.out _ e1) ?_
                clear hK K y0 y1 y2 y3 hd1
                try simp only [Act.put, List.setIfInBounds_toArray, List.set_cons_zero, List.set_cons_succ]
                refine fan_done (by kernel_rfl) ?_
                show wpList _ _ _ _ _ _
                have FIN := hide (And.intro (hO.out.to e1) (And.intro i9 oG))
                clear e1 i9 oG
                go_wp2_with fail
                go_meet
                exact ⟨g9, _, rfl, rfl, hide ⟨FIN.out.1, FIN.out.2.1, FIN.out.2.2, n9, l9⟩⟩
              ·
                refine fan_step rfl (by kernel_rfl) fun K hK => ?_
                go_simp
                obtain ⟨c1, hc, h9, bc, sc⟩ := boxed2b c0 (.int .i64 0) (.slice none 0 0) 27
                rw [← hc]
                have b1 := b0.trans (bc.mono b0.size)
                obtain ⟨g9, hg9⟩ : ∃ g, g = c0.heap.size := ⟨_, rfl⟩
                rw [← hg9] at h9
                rw [← hg9]
                have l9 : wr.heap.size ≤ g9 := by have := b0.size; omega
                refine hK _ _ (HS.out _ b1) ?_
                clear hK K hc bc sc hg9
                try simp only [Act.put, List.setIfInBounds_toArray, List.set_cons_zero, List.set_cons_succ]
                refine fan_one 5 (by kernel_rfl) ?_
                refine fan_step rfl (by kernel_rfl) fun K hK => ?_
                refine wp_call_of 14 _ _ (by rfl) #[.agg #[.int .i64 m.1, .slice ma mn mc], .agg #[.int .i64 p, .int .i64 q]] (by simp [Act.eval]) (Try.call14 _ _) (KF.out _ b1) ?_
                rintro e c2 ⟨f9, rfl, oF, bF⟩
                obtain ⟨fa9, fn9, fc9, hv9⟩ := ownE_slice oF
                subst hv9
                have b2 := b1.trans (bF.mono b1.size)
                have n9 : (Value.slice fa9 fn9 fc9).ownBlock ≠ some g9 := fun e => by have := (World.ownsRow.lt oF g9 e).1; have := lt_of_block h9; omega
                replace h9 := (bF.block _ (lt_of_block h9)).trans h9
                replace oF : OwnE wr.heap.size c2 (.slice fa9 fn9 fc9) D2 := rows_base oF fun b hb => by have := (World.ownsRow.lt oF b hb).1; have := b1.size; omega
                refine ⟨_, rfl, hK _ _ (HS.out _ b2) ?_⟩
                clear hK K bF
                try simp only [Act.put, List.setIfInBounds_toArray, List.set_cons_zero, List.set_cons_succ]
                refine fan_take (i := 6) (v := ?_) rfl (by kernel_rfl) (fun _ _ _ _ h => h) (by kernel_rfl) (HS.out _ b2) ?_ ?_
                rotate_left
                · rintro w9 ⟨t0, t1, t2, t3⟩
                  go_simp
                  try with_reducible rfl
                try simp only [Act.put, List.setIfInBounds_toArray, List.set_cons_zero, List.set_cons_succ]
                refine fan_take (i := 7) (v := ?_) rfl (by kernel_rfl) (fun _ _ _ _ h => h) (by kernel_rfl) (HS.out _ b2) ?_ ?_
                rotate_left
                · rintro w9 ⟨t0, t1, t2, t3⟩
                  go_simp
                  try with_reducible rfl
                try simp only [Act.put, List.setIfInBounds_toArray, List.set_cons_zero, List.set_cons_succ]
                refine fan_take (i := 8) (v := ?_) rfl (by kernel_rfl) (fun _ _ _ _ h => h) (by kernel_rfl) (HS.out _ b2) ?_ ?_
                rotate_left
                · rintro w9 ⟨t0, t1, t2, t3⟩
                  go_simp
                  try with_reducible rfl
                try simp only [Act.put, List.setIfInBounds_toArray, List.set_cons_zero, List.set_cons_succ]
                obtain ⟨y0, y1, y2, y3⟩ := cells2 h9
                refine fan_one 10 (by kernel_rfl) ?_
                refine fan_step rfl (by kernel_rfl) fun K hK => ?_
                go_simp
                obtain ⟨d1, hd1⟩ : ∃ d, d = (c2.setCell ⟨g9, 0, none⟩ (.int .i64 D1)).setCell ⟨g9, 1, none⟩ (.slice fa9 fn9 fc9) := ⟨_, rfl⟩
                rw [← hd1]
                have e1 : Below wr.heap.size wr d1 := by rw [hd1]; exact below_set2 b2 l9 _ _
                have i9 : d1.heap[g9]? = some (.cells #[.int .i64 D1, .slice fa9 fn9 fc9] 27 (0, 0)) := by rw [hd1]; exact heap_set2 h9 _ _
                have oG : OwnE wr.heap.size d1 (.slice fa9 fn9 fc9) D2 := by rw [hd1]; exact ownsRow_setCell_other (ownsRow_setCell_other oF (a := ⟨g9, 0, none⟩) n9 _) (a := ⟨g9, 1, none⟩) n9 _
                refine hK _ _ (HS.out _ e1) ?_
                clear hK K y0 y1 y2 y3 hd1
                try simp only [Act.put, List.setIfInBounds_toArray, List.set_cons_zero, List.set_cons_succ]
                refine fan_done (by kernel_rfl) ?_
                show wpList _ _ _ _ _ _
                have FIN := hide (And.intro (hO.out.to e1) (And.intro i9 oG))
                clear e1 i9 oG
                go_wp2_with fail
                go_meet
                exact ⟨g9, _, rfl, rfl, hide ⟨FIN.out.1, FIN.out.2.1, FIN.out.2.2, n9, l9⟩⟩
            case rest =>
            obtain ⟨g13, f13, rfl, rfl, hC⟩ := hcut
            obtain ⟨fa13, fn13, fc13, hv13⟩ := ownE_slice hC.out.2.2.1
            subst hv13
            obtain ⟨p0, p1, _, _⟩ := cells2 hC.out.2.1
            obtain ⟨z0, z1, z2, z3⟩ := cells2 hC.out.1.2.2.1
            clear q0 q1 s0 s1 s2
            go_wp2_with fail
            refine (num5_any _ _).mono ?_
            rintro e w' ⟨rfl, rfl⟩
            go_upto_region 21 with fail
            obtain ⟨wd, hwd⟩ : ∃ wd, wd = (wc.setCell ⟨gM, 0, none⟩ (.int .i64 D1)).setCell ⟨gM, 1, none⟩ (.slice fa13 fn13 fc13) := ⟨_, rfl⟩
            rw [← hwd]
            have hws : w.heap.size ≤ wr.heap.size := hO.out.1.size
            have hvbw : vb < wr.heap.size := (World.ownsRow.lt hO.out.2.2.2.2.1 vb rfl).2
            have hvM : vb ≠ gM := fun e => hC.out.1.2.2.2.2.2.2.1 (by rw [e]; rfl)
            have hf9 : ∀ b, (Value.slice fa13 fn13 fc13).ownBlock = some b → wr.heap.size ≤ b := fun b hb => (World.ownsRow.lt hC.out.2.2.1 b hb).1
            have hgMw : gM < wr.heap.size := lt_of_block hO.out.2.2.1
            have nF : (Value.slice fa13 fn13 fc13).ownBlock ≠ some gM := fun e => by have := hf9 _ e; omega
            have nV : (Value.slice (some ⟨vb, 0, none⟩) g.length vc).ownBlock ≠ some gM := hC.out.1.2.2.2.2.2.2.1
            have kM : wd.heap[gM]? = some (.cells #[.int .i64 D1, .slice fa13 fn13 fc13] 27 (0, 0)) := by rw [hwd]; exact heap_set2 hC.out.1.2.2.1 _ _
            have oF : OwnE w.heap.size wd (.slice fa13 fn13 fc13) D2 := by
              rw [hwd]
              exact ownsRow_setCell_other (ownsRow_setCell_other (rows_base hC.out.2.2.1 fun b hb => by have := hf9 _ hb; omega) (a := ⟨gM, 0, none⟩) nF _) (a := ⟨gM, 1, none⟩) nF _
            have oV : OwnE w.heap.size wd (.slice (some ⟨vb, 0, none⟩) g.length vc) g := by
              rw [hwd]
              exact ownsRow_setCell_other (ownsRow_setCell_other hC.out.1.2.2.2.2.1 (a := ⟨gM, 0, none⟩) nV _) (a := ⟨gM, 1, none⟩) nV _
            have cB : Below w.heap.size w wd := by rw [hwd]; exact below_set2 hC.out.1.1 hC.out.1.2.1 _ _
            obtain ⟨v0, v1, v2, v3⟩ := OwnE.cells oV hpq.out
            obtain ⟨y0, y1, y2, y3⟩ := OwnE.cells oV hpl.out
            have hlm : (g.length : Int) - 1 = (l0 : Int) := by have := hl0.out; omega
            have hlI : (l0 : Int) < (g.length : Int) := by have := hl0.out; omega
            have hlc : (l0 : Int) ≤ (vc : Int) := by have := hl0.out; omega
            have hl9 : ¬ ((l0 : Int) < 0) := by omega
            have FIN : Hid (OInv w gM n (D1, D2) (.slice fa13 fn13 fc13) (.slice (some ⟨vb, 0, none⟩) l0 vc) ((g.set kk (pl, ql)).take l0) ((wd.setCell ⟨vb, kk * 2, none⟩ (.int .i64 pl)).setCell ⟨vb, kk * 2 + 1, none⟩ (.int .i64 ql))) := by
              have oP := (OwnE.put oV hkl (pl, ql)).short (k := l0) (by have := hl0.out; simp; omega)
              have nG : (Value.slice fa13 fn13 fc13).ownBlock ≠ some vb := fun e => by have := hf9 _ e; omega
              have hG2 := hGf.out
              rw [show g.length - 1 = l0 by have := hl0.out; omega] at hG2
              refine ⟨(cB.setCell (p := ⟨vb, kk * 2, none⟩) hvb _).setCell (p := ⟨vb, kk * 2 + 1, none⟩) hvb _, hC.out.1.2.1, ?_, ownsRow_setCell_other (ownsRow_setCell_other oF (a := ⟨vb, kk * 2, none⟩) nG _) (a := ⟨vb, kk * 2 + 1, none⟩) nG _, oP, nF, fun e => ?_, fun b hb hb2 => ?_, hG2⟩
              · rw [Below.heap_setCell _ _ _ _ hvM.symm, Below.heap_setCell _ _ _ _ hvM.symm]; exact kM
              · exact hvM (by simpa [Value.ownBlock] using e)
              · have hb' : vb = b := by simpa [Value.ownBlock] using hb
                subst hb'
                exact nG hb2
            clear hwd kM oF oV cB nF nV hf9 p0 p1 z0 z1 z2 z3
            go_wp2
            go_meet
            exact ⟨(D1, D2), _, _, by simp; have := hl0.out; omega, FIN⟩
          · have hgI : ¬ 0 < (g.length : Int) := by omega
            obtain ⟨va, vc, hv7⟩ := RdS.slice (ownE_rd hO.out.2.2.2.2.1)
            subst hv7
            go_wp2_with fail
            go_meet
            exact ⟨m, _, g, by omega, hO⟩
      · have hq1 : ¬ (k : Int) < 100 := by omega
        go_wp2
        go_ret
        exact ⟨rfl, hO.out.1⟩
    · have hqi : ¬ (k : Int) < (x1.length : Int) := by omega
      go_wp2
      go_ret
      exact ⟨rfl, hO.out.1⟩

set_option maxRecDepth 100000 in
theorem lifted (os : Os) (started : os.Started) (H : Type) (enc : TypeId × Value → H) :
    ReturnsInHanded {} Try.checked os 5 .any (Rows.extentOnceSpec.pre6 enc Try.prog Try.f5 Rows.extentOnceRow.domain false) (Rows.extentOnceSpec.post enc Try.prog Try.f5 false true false false) := by
  refine returnsInHanded_of_change_sized (C := Try.checked) own started (by kernel_rfl) Try.func5
    (ChangeSpec.witness6 (enc := enc) (C := Try.checked) false ⟨#[], #[.int .i64 0, .slice none 0 0], []⟩ 8 (by kernel_rfl) (by kernel_rfl) (by kernel_rfl) (by kernel_rfl)) ?_
  intro W base args ds gs before hval0 hW hcnd hsz0 _
  have hsz : (DataW.weightsEach Try.prog (Try.f5.params.toList ++ Rows.extentOnceSpec.plain.varTypes Try.prog) (ds ++ gs)).all (· ≤ reachBytes) = true := hsz0
  have hval : ∀ (j : Nat) t v, Try.f5.params[j]? = some t → args[j]? = some v → Value.okWide Try.prog W .any base t v := hval0
  have hW' := hW
  obtain ⟨p, q, hA0, hV, rfl, hfz, hnd⟩ := hW
  have hA : DataW.TrodAll enc Try.prog W 0 (fun _ => true) true Try.f5.params.toList args.toList ds p := hA0
  rw [Try.params5] at hA hval hsz
  obtain ⟨v0, vs0, d0, ds0, p0, q0, hargs, rfl, rfl, h0, r0⟩ := trodAll_cons hA
  obtain ⟨v1, vs1, d1, ds1, p1, q1, rfl, rfl, rfl, h1, r1⟩ := trodAll_cons r0
  obtain ⟨rfl, rfl, rfl⟩ := trodAll_nil r1
  obtain rfl : args = #[v0, v1] := by cases args; simp_all
  obtain ⟨rfl, rfl⟩ := trodVars_none hV
  obtain ⟨a0, rfl, rfl, rfl, w0⟩ := open_int Try.underlying3 (hval 0 3 v0 rfl rfl) h0
  obtain ⟨a1, len1, cap1, rfl⟩ := okWide_slice Try.underlying52 (hval 1 52 v1 rfl rfl)
  have lt1 : ∀ x ∈ p1, x.block < W.heap.size := by obtain ⟨m, hm⟩ := h1; exact DataW.trod_lt m _ _ _ hm
  have hh1 := h1
  obtain ⟨fu1, hf1⟩ := hh1
  obtain ⟨x1, g1, f1, b1⟩ := open_steps.opened hf1
  have m1 := f1 (reach_of hsz (j := 1) rfl rfl)
  clear hA0 hval0 hsz0 hsz
  refine (walk W a0 w0 a1 len1 cap1 x1 g1 m1).mono fun e W' ⟨he, bel⟩ => ?_
  subst he
  exact ⟨_, rfl, _, _, _, [], _, [], hW', trodAll_mk1 (shut_bool Try.underlying4 _), (trodAll_cons_mk (shut_int Try.underlying3 w0) (trodAll_cons_mk (Below.trod laidOut (by kernel_rfl) (of_decide_eq_true (by kernel_rfl)) h1 bel lt1) trodAll_mk0)), rfl, bel.frame _, fun h => by cases h⟩

theorem over : Rows.extentOnceRow.holds Try.pinned (OpenSpec.ofChange Rows.extentOnceSpec) :=
  OpenClaim.holds_of_wide 5 Try.f5 rfl rfl rfl rfl rfl rfl rfl ⟨rfl, rfl, rfl, rfl, rfl⟩ rfl rfl rfl rfl rfl (by kernel_rfl) Try.func5 (by kernel_rfl)
    (of_decide_eq_true (by kernel_rfl)) (by unfold Func.isWrapper; first | (rw [if_pos (by decide +kernel)]; kernel_rfl) | (rw [if_neg (by decide +kernel)]; exact ⟨rfl, rfl⟩))
    (fun os started H enc _ => lifted os started H enc)

end Go.Proofs.Ytacfcgklncckiaa.extentOnce
namespace Go.Proofs.Ytacfcgklncckiaa
/-- THE STATEMENT -/
theorem extentOnce_holds : Rows.ExtentOnceSaid := extentOnce.over
end Go.Proofs.Ytacfcgklncckiaa
