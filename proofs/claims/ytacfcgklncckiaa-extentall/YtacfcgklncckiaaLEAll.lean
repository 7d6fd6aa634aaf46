/-
  PROVED: whatever map and number come in, transeptlaw05.ExtentAll returns true and leaves them as they were: the statement of P5.1 and P5.4 (pieces of one size are given as long as a free extent has so many; what is left is too small everywhere).
-/
import Derived.Test.YtacfcgklncckiaaEIn
import Derived.Test.YtacfcgklncckiaaEAlive
namespace Go.Proofs.Ytacfcgklncckiaa.extentAll
open Go.ChangeShapes Go.WideShapes Go.ChangeAt Go.RowKit
set_option linter.unusedVariables false

theorem eCount_take {s : Int} {l : List Ext} {k : Nat} {x : Ext} (h : l[k]? = some x) : eCount s (l.take (k + 1)) = eCount s (l.take k) + x.2 / s := by
  have : l.take (k + 1) = l.take k ++ [x] := by rw [List.take_add_one, h]; rfl
  rw [this, eCount_app, eCount_cons, eCount_nil, Int.add_zero]
theorem eCount_le {s : Int} (hs : 1 ≤ s) : ∀ {l : List Ext}, (∀ z ∈ l, 1 ≤ z.2) → 0 ≤ eCount s l ∧ eCount s l ≤ eTotal l
  | [], _ => ⟨Int.le_refl _, Int.le_refl _⟩
  | x :: r, h => by
    obtain ⟨k1, k2⟩ := eCount_le hs (l := r) fun z hz => h z (List.mem_cons_of_mem _ hz)
    have hx := h x (List.mem_cons_self ..)
    have h1 : x.2 / s ≤ x.2 := Int.ediv_le_self s (by omega)
    have h0 : 0 ≤ x.2 / s := Int.ediv_nonneg (by omega) (by omega)
    rw [eCount_cons, eTotal_cons]
    omega
/-- in the loop: the map that is left, in its box -/
def AInv (w : World) (g : Nat) (n : Int) (fv : Value) (L : List Ext) (wr : World) : Prop := Below w.heap.size w wr ∧ wr.heap[g]? = some (.cells #[.int .i64 n, fv] 27 (0, 0)) ∧ RdE wr fv L
theorem AInv.put {w : World} {g B : Nat} {n : Int} {fv fv' : Value} {L L' : List Ext} {wr : World} (h : AInv w g n fv L wr) (hg : w.heap.size ≤ g) (hB : g < B) (o : OwnE B wr fv' L') : AInv w g n fv' L' ((wr.setCell ⟨g, 0, none⟩ (.int .i64 n)).setCell ⟨g, 1, none⟩ fv') :=
  ⟨below_set2 h.1 hg _ _, heap_set2 h.2.1 _ _, ownE_rd (ownsRow_setCell_below (ownsRow_setCell_below o (a := ⟨g, 0, none⟩) hB _) (a := ⟨g, 1, none⟩) hB _)⟩
theorem AInv.to {w : World} {g : Nat} {n : Int} {fv : Value} {L : List Ext} {wr w' : World} (h : AInv w g n fv L wr) (hb : Below wr.heap.size wr w') : AInv w g n fv L w' :=
  ⟨h.1.trans (hb.mono h.1.size), (hb.block _ (lt_of_block h.2.1)).trans h.2.1, h.2.2.to0 hb⟩

set_option maxRecDepth 100000 in
set_option maxHeartbeats 4000000 in
theorem walk (w : World) (cs0 : Array Value) (x0 : EMap) (g0 : SMapE.rd w cs0.toList x0) (m0 : (Lit.int .i64 x0.1).wf = true ∧ (x0.2.length * 16 ≤ 140737488351232 ∧ ∀ y ∈ x0.2, (Lit.int .i64 y.1).wf = true ∧ (Lit.int .i64 y.2).wf = true)) (a1 : Int) (w1' : (Lit.int .i64 a1).wf = true) :
    Calls Try.prog 8 #[.agg cs0, .int .i64 a1] w fun e w' => e = .returned (.bool true) ∧ Below w.heap.size w w' := by
  obtain ⟨fv, rfl, h⟩ := emap_form g0
  obtain ⟨hin, hm⟩ := emap_in m0
  clear g0 m0
  obtain ⟨sa, sc, rfl⟩ := h.slice
  have cc : Below w.heap.size w w := Below.refl _ _
  have lb := h.bd
  have hu0 : 0 ≤ a1.tmod 9 % 9 := Int.emod_nonneg _ (by decide)
  have hu1 : a1.tmod 9 % 9 < 9 := Int.emod_lt_of_pos _ (by decide)
  have hrA : -9 < a1.tmod 9 := Int.lt_tmod_of_pos a1 (by decide)
  have hrB : a1.tmod 9 < 9 := Int.tmod_lt_of_pos a1 (by decide)
  obtain ⟨r1, r2, r3, hR⟩ : ∃ r1 r2 r3, eroom x0 = (r1, r2, r3) := ⟨_, _, _, rfl⟩
  replace hR := hide hR
  obtain ⟨XM, hXM, M, bX, sXM⟩ := boxed2b w (.int .i64 x0.1) (.slice sa x0.2.length sc) 24
  replace M := hide M
  replace h := h.to0 bX
  replace cc := cc.trans (bX.mono cc.size)
  replace hXM := hide hXM
  clear bX
  go_enter Try.func8, Try.ntmps8
  have KK := hide (ealive_any XM)
  try dsimp only at KK
  obtain ⟨m0, m1, _, _⟩ := cells2 M.out
  rw [hXM.out] at m0 m1
  go_wp2_with fail
  rw [← hXM.out]
  clear m0 m1
  refine KK.out.mono ?_
  rintro e w1 ⟨rfl, bb⟩
  clear KK
  replace M := hide ((bb.block _ (lt_of_block M.out)).trans M.out)
  replace h := h.to0 bb
  replace cc := cc.trans (bb.mono cc.size)
  clear bb
  have KK := hide (of5_any w1 _ x0 h hm)
  try dsimp only at KK
  obtain ⟨m0, m1, _, _⟩ := cells2 M.out
  go_wp2_with fail
  clear m0 m1
  refine KK.out.mono ?_
  rintro e w2 ⟨f, rfl, o, bb⟩
  clear KK
  try dsimp only at o
  have ro := ownE_rd o
  clear o
  obtain ⟨ao, co, hv⟩ := ro.slice
  subst hv
  replace M := hide ((bb.block _ (lt_of_block M.out)).trans M.out)
  replace h := h.to0 bb
  replace cc := cc.trans (bb.mono cc.size)
  clear bb
  have hw20 := cc.size
  obtain ⟨XO, hXO, O, bX, sXO⟩ := boxed2b w2 (.int .i64 x0.1) (.slice ao x0.2.length co) 27
  replace O := hide O
  replace M := hide ((bX.block _ (lt_of_block M.out)).trans M.out)
  replace h := h.to0 bX
  replace ro := ro.to0 bX
  replace cc := cc.trans (bX.mono cc.size)
  replace hXO := hide hXO
  clear bX
  have KK := hide (proom_any XO _ x0 ro hin)
  rw [hR.out] at KK
  try dsimp only at KK
  obtain ⟨m0, m1, _, _⟩ := cells2 M.out
  obtain ⟨o0, o1, _, _⟩ := cells2 O.out
  rw [hXO.out] at m0 m1 o0 o1
  go_wp2_with fail
  rw [← hXO.out]
  clear m0 m1 o0 o1
  refine KK.out.mono ?_
  rintro e w3 ⟨rfl, bb⟩
  clear KK
  replace M := hide ((bb.block _ (lt_of_block M.out)).trans M.out)
  replace O := hide ((bb.block _ (lt_of_block O.out)).trans O.out)
  replace h := h.to0 bb
  replace ro := ro.to0 bb
  replace cc := cc.trans (bb.mono cc.size)
  clear bb
  obtain ⟨m0, m1, _, _⟩ := cells2 M.out
  obtain ⟨o0, o1, _, _⟩ := cells2 O.out
  go_wp2_with fail
  clear m0 m1 o0 o1
  refine (num5_any _ _).mono ?_
  rintro e w' ⟨rfl, rfl⟩
  generalize a1.tmod 9 % 9 = u at *
  generalize hsd : 1 + u = s at *
  have hs1 : 1 ≤ s := by omega
  have hs9 : s ≤ 9 := by omega
  replace hsd := hide hsd
  clear hu0 hu1
  obtain ⟨q0, q1, _, _⟩ := cells2 M.out
  by_cases hok : EOk x0
  · have hz := hR.out
    unfold eroom at hz
    rw [if_neg (fun k => k hok)] at hz
    simp only [Prod.mk.injEq] at hz
    obtain ⟨rfl, rfl, rfl⟩ := hz
    by_cases h2 : 2000 < x0.1
    · clear hok
      go_wp2
      go_ret
      exact ⟨rfl, cc⟩
    · have h2' : x0.1 ≤ 2000 := by omega
      have h0' := hok.1
      have htot := eTotal_le (by omega) hok.2.2
      have HOK := hide hok
      have hcl := eCount_le hs1 (eRow_size hok.2.2)
      have AI := hide (show AInv w w2.heap.size x0.1 (.slice ao x0.2.length co) x0.2 w3 from ⟨cc, O.out, ro⟩)
      have HH := hide h
      have HM := hide M.out
      clear hok
      go_wp2
      clear q0 q1
      go_loopw [9, 10] (fun c i wr => ∃ k : Nat, k ≤ x0.2.length ∧ i = .int .i64 k ∧ c = .int .i64 (eCount s (x0.2.take k)) ∧ wr = w3) (fun _ i _ => x0.2.length - (intOf i).toNat)
      case atStart => exact ⟨0, Nat.zero_le _, rfl, rfl, rfl⟩
      case round =>
        obtain ⟨k, hk, rfl, rfl, rfl⟩ := hrel
        obtain ⟨q0, q1, _, _⟩ := cells2 HM.out
        by_cases hlt : k < x0.2.length
        · have hqi : (k : Int) < (x0.2.length : Int) := by omega
          obtain ⟨x, hx, hxm⟩ := ext_at x0.2 hlt
          obtain ⟨bb, off, rfl, hc1, hc2⟩ := HH.out.ext hx
          have hT := hide (eCount_take (s := s) hx)
          have y0 := eCount_le hs1 (l := x0.2.take k) (fun z hz => eRow_size HOK.out.2.2 z (List.mem_of_mem_take hz))
          have y1 := eCount_le hs1 (l := x0.2.take (k + 1)) (fun z hz => eRow_size HOK.out.2.2 z (List.mem_of_mem_take hz))
          have z0 := eTotal_le (by omega) (eRow_take HOK.out.2.2 k)
          have z1 := eTotal_le (by omega) (eRow_take HOK.out.2.2 (k + 1))
          have hx1 := (eRow_mem HOK.out.2.2 x hxm)
          rw [hT.out] at y1
          have hdv : x.2.tdiv s = x.2 / s := Int.tdiv_eq_ediv_of_nonneg (by omega)
          generalize hE : eCount s (x0.2.take k) = E at *
          replace hE := hide hE
          obtain ⟨x1, x2⟩ := x
          dsimp only at *
          obtain ⟨d, hd⟩ : ∃ d, d = x2 / s := ⟨_, rfl⟩
          rw [← hd] at hdv hT y1
          have e0 : 0 ≤ E := y0.1
          have e1 : 0 ≤ E + d := y1.1
          have e2 : E + d ≤ 2000 := by omega
          have e3 : E ≤ 2000 := by omega
          have hd0 : 0 ≤ d := by rw [hd]; exact Int.ediv_nonneg (by omega) (by omega)
          have hd1 : d ≤ 2000 := by omega
          have hx2a : 1 ≤ x2 := hx1.1
          have hx2b : x2 ≤ 2000 := by omega
          have hsn : ¬ s = 0 := by omega
          replace hd := hide hd
          clear y0 y1 z0 z1 hx hxm hx1 htot hcl
          go_wp2
          go_roundw
          case rel => exact ⟨k + 1, by omega, by go_num, by rw [hT.out], trivial⟩
          case measure => simp [intOf]; omega
        · have hqi : ¬ (k : Int) < (x0.2.length : Int) := by omega
          rw [List.take_of_length_le (show x0.2.length ≤ k by omega)]
          obtain ⟨C, hC⟩ : ∃ C, C = eCount s x0.2 := ⟨_, rfl⟩
          obtain ⟨T, hT⟩ : ∃ T, T = eTotal x0.2 := ⟨_, rfl⟩
          rw [← hC, ← hT]
          rw [← hC, ← hT] at hcl
          rw [← hT] at htot
          replace hC := hide hC
          replace hT := hide hT
          have hC0 : 0 ≤ C := hcl.1
          have hC1 : C ≤ 2000 := by omega
          have hT0 : 0 ≤ T := htot.1
          have hT1 : T ≤ 2000 := by omega
          have hP0 : 0 ≤ C * s := Int.mul_nonneg hC0 (by omega)
          have hP1 : C * s ≤ 18000 := by have := Int.mul_le_mul hC1 hs9 (by omega) (by omega); omega
          have hw2 : w.heap.size ≤ w2.heap.size := hw20
          clear hcl htot h ro cc hin lb
          go_wp2
          clear q0 q1
          go_loopw [11, 12] (fun l i wr => ∃ (j : Nat) (last : Int) (L : List Ext) (a : Option Addr) (c : Nat), (j : Int) ≤ C ∧ i = .int .i64 j ∧ l = .int .i64 last ∧ Hid (AInv w w2.heap.size x0.1 (.slice a L.length c) L wr ∧ EOk (x0.1, L) ∧ eCount s L = C - j ∧ eTotal L = T - j * s ∧ ∀ z ∈ L, s ≤ z.2 → last < z.1)) (fun _ i _ => C.toNat + 1 - (intOf i).toNat)
          case atStart => exact ⟨0, -1, x0.2, ao, co, by omega, rfl, rfl, hide ⟨AI.out, HOK.out, by rw [hC.out]; simp, by rw [hT.out]; simp, fun z hz _ => by have := eRow_mem HOK.out.2.2 z hz; omega⟩⟩
          case round =>
            obtain ⟨j, last, L, a, c, hj, rfl, rfl, hH⟩ := hrel
            obtain ⟨hA, hokL, hcL, htL, hlL⟩ := hH.out
            obtain ⟨o0, o1, _, _⟩ := cells2 hA.2.1
            have hinL : eIn L := in_small fun x hx => by have := eSec_of hokL x hx; omega
            have hjc : ¬ C < (j : Int) := by omega
            have KK := hide (palloc_any wr _ (x0.1, L) s hA.2.2 hinL)
            by_cases hlt : (j : Int) < C
            · obtain ⟨y, W, e1, hokW, hcW, htW, hlW, hyL, hsy⟩ := ealloc_next (m := (x0.1, L)) hokL hs1 (by dsimp only; omega)
              dsimp only at e1 hcW htW hyL
              rw [e1] at KK
              have hy := hlL y hyL hsy
              have hyr := eSec_of hokL y hyL
              obtain ⟨y1, y2⟩ := y
              dsimp only at KK hy hyr hlW
              have hne : ((j : Int) == C) = false := by simp; omega
              have hle : (j : Int) ≤ C := hj
              replace hA := hide hA
              have HW := hide (And.intro hokW (And.intro hcW (And.intro htW hlW)))
              have HL := hide (And.intro hcL htL)
              clear hokL hcL htL hlL hinL hokW hcW htW hlW hyL hH e1
              go_wp2_with fail
              refine KK.out.mono ?_
              rintro e w5 ⟨f, rfl, o, b5⟩
              clear KK o0 o1
              obtain ⟨a5, c5, hv⟩ := (ownE_rd o).slice
              subst hv
              have hlr : w2.heap.size < wr.heap.size := lt_of_block hA.out.2.1
              have hl5 : w2.heap.size < w5.heap.size := by have := lt_of_block hA.out.2.1; have := b5.size; omega
              obtain ⟨XP, hXP, P0, bP, sP⟩ := boxed2b w5 (.int .i64 x0.1) (.slice a5 W.length c5) 27
              obtain ⟨XQ, hXQ, Q0, bQ, sQ⟩ := boxed2b XP (.int .i64 y1) (.int .i64 s) 26
              rw [sP] at Q0
              replace P0 := (bQ.block _ (by omega)).trans P0
              have bX := bP.trans (bQ.mono bP.size)
              have A5 := hide ((hA.out.to b5).to bX)
              have rW := hide ((ownE_rd o).to0 bX)
              obtain ⟨p0, p1, _, _⟩ := cells2 P0
              obtain ⟨e0, e1, _, _⟩ := cells2 Q0
              obtain ⟨u0, u1, u2, u3⟩ := cells2 A5.out.2.1
              have PQ := hide (And.intro P0 Q0)
              have cells := hide (And.intro p0 (And.intro p1 (And.intro e0 e1)))
              have cellu := hide (And.intro u0 (And.intro u1 (And.intro u2 u3)))
              have ow := hide (OwnE.to o bX)
              rw [hXQ, hXP] at p0 p1 e0 e1 u0 u1 u2 u3
              clear o b5 bP bQ bX P0 Q0
              go_wp2_with fail
              rw [← hXP, ← hXQ]
              refine (num5_any _ _).mono ?_
              rintro e w' ⟨rfl, rfl⟩
              have hXX := hide (hXQ.trans (by rw [hXP]))
              replace hXP := hide hXP
              replace hXQ := hide hXQ
              clear p0 p1 e0 e1 u0 u1 u2 u3
              obtain ⟨p0, p1, e0, e1⟩ := cells.out
              obtain ⟨u0, u1, u2, u3⟩ := cellu.out
              go_wp2
              go_region
              all_goals
                go_wp2
                go_roundw
                case rel =>
                  refine ⟨j + 1, y1, W, a5, c5, by omega, by go_num, rfl, hide ⟨(A5.out.put hw2 hlr ow.out).to (Below.refl _ _).drew, HW.out.1, ?_, ?_, HW.out.2.2.2⟩⟩
                  · have := HW.out.2.1; have := HL.out.1; push_cast; omega
                  · have := HW.out.2.2.1; have := HL.out.2; push_cast; rw [Int.add_mul]; omega
                case measure => simp [intOf]; omega
            · have hjC : (j : Int) = C := by omega
              obtain ⟨e1, hlg⟩ := ealloc_full (m := (x0.1, L)) hokL hs1 (by dsimp only; omega)
              rw [e1] at KK
              dsimp only at KK hlg
              have hne : ((j : Int) == C) = true := by simp; omega
              have hle : (j : Int) ≤ C := hj
              have hrm : eroom (x0.1, L) = (eTotal L, eLargest L, 0) := by unfold eroom; rw [if_neg (fun k => k hokL)]
              rw [htL, hjC] at hrm
              have hPt : 0 ≤ T - C * s := by have := eTotal_le (by omega) hokL.2.2; rw [htL, hjC] at this; exact this.1
              replace hA := hide hA
              replace hrm := hide hrm
              have hin3 := hide hinL
              clear hokL hcL htL hlL hinL hH e1
              generalize eLargest L = G at *
              replace hjC := hide hjC
              go_wp2_with fail
              refine KK.out.mono ?_
              rintro e w5 ⟨f, rfl, o, b5⟩
              clear KK o0 o1
              obtain ⟨a5, n5, c5, hv⟩ := ownE_slice o
              subst hv
              have hl5 : w2.heap.size < w5.heap.size := by have := lt_of_block hA.out.2.1; have := b5.size; omega
              obtain ⟨XP, hXP, P0, bP, sP⟩ := boxed2b w5 (.int .i64 0) (.slice a5 n5 c5) 27
              obtain ⟨XQ, hXQ, Q0, bQ, sQ⟩ := boxed2b XP (.int .i64 0) (.int .i64 0) 26
              have bX := bP.trans (bQ.mono bP.size)
              have A5 := hide ((hA.out.to b5).to bX)
              obtain ⟨u0, u1, _, _⟩ := cells2 A5.out.2.1
              have KR := hide (proom_any XQ _ (x0.1, L) A5.out.2.2 hin3.out)
              rw [hrm.out] at KR
              dsimp only at KR
              rw [hXQ, hXP] at u0 u1
              clear o b5 bP bQ bX P0 Q0
              go_wp2_with fail
              rw [← hXP, ← hXQ]
              refine KR.out.mono ?_
              rintro e w6 ⟨rfl, b6⟩
              clear u0 u1 KR
              replace hXP := hide hXP
              replace hXQ := hide hXQ
              go_wp2_with fail
              refine (num5_any _ _).mono ?_
              rintro e w' ⟨rfl, rfl⟩
              go_wp2_with fail
              refine (num5_any _ _).mono ?_
              rintro e w' ⟨rfl, rfl⟩
              have hself : ((T - C * s) == (T - C * s)) = true := by simp
              go_wp2
              go_ret
              exact ⟨rfl, A5.out.1.trans (b6.mono A5.out.1.size)⟩
  · have hz := hR.out
    unfold eroom at hz
    rw [if_pos hok] at hz
    simp only [Prod.mk.injEq] at hz
    obtain ⟨rfl, rfl, rfl⟩ := hz
    by_cases h2 : 2000 < x0.1
    · go_wp2
      go_ret
      exact ⟨rfl, cc⟩
    · have KC := hide (recheck_any w3 _ x0 h hin)
      rw [echeck_no hok] at KC
      have h2' : x0.1 ≤ 2000 := by omega
      go_wp2_with fail
      refine KC.out.mono ?_
      rintro e w4 ⟨rfl, b4⟩
      go_wp2
      go_ret
      exact ⟨rfl, cc.trans (b4.mono cc.size)⟩


set_option maxRecDepth 100000 in
theorem lifted (os : Os) (started : os.Started) (H : Type) (enc : TypeId × Value → H) :
    ReturnsInHanded {} Try.checked os 8 .any (Rows.extentAllSpec.pre6 enc Try.prog Try.f8 Rows.extentAllRow.domain false) (Rows.extentAllSpec.post enc Try.prog Try.f8 false true false false) := by
  refine returnsInHanded_of_change_sized (C := Try.checked) own started (by kernel_rfl) Try.func8
    (ChangeSpec.witness6 (enc := enc) (C := Try.checked) false ⟨#[], #[.agg #[.int .i64 0, .slice none 0 0], .int .i64 0], []⟩ 8 (by kernel_rfl) (by kernel_rfl) (by kernel_rfl) (by kernel_rfl)) ?_
  intro W base args ds gs before hval0 hW hcnd hsz0 _
  have hsz : (DataW.weightsEach Try.prog (Try.f8.params.toList ++ Rows.extentAllSpec.plain.varTypes Try.prog) (ds ++ gs)).all (· ≤ reachBytes) = true := hsz0
  have hval : ∀ (j : Nat) t v, Try.f8.params[j]? = some t → args[j]? = some v → Value.okWide Try.prog W .any base t v := hval0
  have hW' := hW
  obtain ⟨p, q, hA0, hV, rfl, hfz, hnd⟩ := hW
  have hA : DataW.TrodAll enc Try.prog W 0 (fun _ => true) true Try.f8.params.toList args.toList ds p := hA0
  rw [Try.params8] at hA hval hsz
  obtain ⟨v0, vs0, d0, ds0, p0, q0, hargs, rfl, rfl, h0, r0⟩ := trodAll_cons hA
  obtain ⟨v1, vs1, d1, ds1, p1, q1, rfl, rfl, rfl, h1, r1⟩ := trodAll_cons r0
  obtain ⟨rfl, rfl, rfl⟩ := trodAll_nil r1
  obtain rfl : args = #[v0, v1] := by cases args; simp_all
  obtain ⟨rfl, rfl⟩ := trodVars_none hV
  obtain ⟨cs0, rfl, _⟩ := okWide_struct Try.underlying24 (hval 0 24 v0 rfl rfl)
  have lt0 : ∀ x ∈ p0, x.block < W.heap.size := by obtain ⟨m, hm⟩ := h0; exact DataW.trod_lt m _ _ _ hm
  have hh0 := h0
  obtain ⟨fu0, hf0⟩ := hh0
  obtain ⟨x0, g0, f0, b0⟩ := open_emap.opened hf0
  obtain ⟨a1, rfl, rfl, rfl, w1⟩ := open_int Try.underlying3 (hval 1 3 v1 rfl rfl) h1
  have m0 := f0 (reach_of hsz (j := 0) rfl rfl)
  clear hA0 hval0 hsz0 hsz
  refine (walk W cs0 x0 g0 m0 a1 w1).mono fun e W' ⟨he, bel⟩ => ?_
  subst he
  exact ⟨_, rfl, _, _, _, [], _, [], hW', trodAll_mk1 (shut_bool Try.underlying4 _), (trodAll_cons_mk (Below.trod laidOut (by kernel_rfl) (of_decide_eq_true (by kernel_rfl)) h0 bel lt0) (trodAll_cons_mk (shut_int Try.underlying3 w1) trodAll_mk0)), rfl, bel.frame _, fun h => by cases h⟩

theorem over : Rows.extentAllRow.holds Try.pinned (OpenSpec.ofChange Rows.extentAllSpec) :=
  OpenClaim.holds_of_wide 8 Try.f8 rfl rfl rfl rfl rfl rfl rfl ⟨rfl, rfl, rfl, rfl, rfl⟩ rfl rfl rfl rfl rfl (by kernel_rfl) Try.func8 (by kernel_rfl)
    (of_decide_eq_true (by kernel_rfl)) (by unfold Func.isWrapper; first | (rw [if_pos (by decide +kernel)]; kernel_rfl) | (rw [if_neg (by decide +kernel)]; exact ⟨rfl, rfl⟩))
    (fun os started H enc _ => lifted os started H enc)

end Go.Proofs.Ytacfcgklncckiaa.extentAll
namespace Go.Proofs.Ytacfcgklncckiaa
/-- THE STATEMENT -/
theorem extentAll_holds : Rows.ExtentAllSaid := extentAll.over
end Go.Proofs.Ytacfcgklncckiaa
