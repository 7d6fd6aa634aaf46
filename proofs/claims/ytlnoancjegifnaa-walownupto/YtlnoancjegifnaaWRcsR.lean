/-
  The page's Records of logs; append of lists of octets.
-/
import Derived.Test.YtlnoancjegifnaaWAppR
namespace Go.Proofs.Ytlnoancjegifnaa
open Go.RowKit
set_option linter.unusedVariables false

theorem wpList_append_lists {ops : Array Oper} {rest : List Oper} {o : Oper} {a : Act} {w : World} {Q : Exit → Act → World → Prop} (hgd : o.guard = none) (s x : Operand)
    (ho : o.op = .call { callee := .builtin .append, args := #[s, x], argTypes := #[23, 23] }) (B B2 C : Nat) (v v2 : Value) (xss yss : List (List UInt8)) (hs : a.eval s = v) (hx : a.eval x = v2)
    (h1 : OwnV B C w v xss) (h2 : OwnV B2 C w v2 yss) (hlen : (xss.length + yss.length) * 24 ≤ 140737488355328) (hB : B ≤ w.heap.size)
    (h : ∀ v' w', OwnV B C w' v' (xss ++ yss) → Below B w w' → wpList Try.prog ops Q rest (a.put o.dst v') w') : wpList Try.prog ops Q (o :: rest) a w := by
  obtain ⟨i0, hi, hz0, hz1, hz2⟩ := info_parts infoB
  obtain ⟨vs, p1, p2, p3⟩ := id h1
  obtain ⟨us, k1, k2, k3⟩ := h2
  rcases k2.2 with ⟨rfl, h0⟩ | ⟨g, cap, cur, rfl, hb, hg, hn, hm, hsz, ht⟩
  · have : yss = [] := List.eq_nil_of_length_eq_zero h0
    subst this
    refine wpList_append_own_none hgd s x 23 ho B 54 i0 1 Try.underlying23 hi v xss.length vs hs p2 hx ?_
    exact h v w (by simpa using h1) (Below.refl _ _)
  · have e1 : us.length = yss.length * 1 := by rw [Nat.mul_one]; exact k1
    have e2 : ∀ j u, us[j]? = some u → w.cell? ((⟨g, 0, none⟩ : Addr).add j) = some u := fun j u hj => by
      have hjl : j < us.length := (List.getElem?_eq_some_iff.1 hj).1
      have := k2.cellAt j (by omega)
      have ea : (⟨g, 0, none⟩ : Addr).add j = ⟨g, j, none⟩ := by
        by_cases h0 : j = 0
        · subst h0; rfl
        · simp [Addr.add, h0]
      rw [ea, this]
      exact hj
    have e3 : ∀ u ∈ us, u.oneCell' = true := fun u hu => by
      obtain ⟨j, hj, e⟩ := List.mem_iff_getElem.1 hu
      have := k3 j (by omega)
      obtain ⟨ao, c, e'⟩ := this.rd.slice
      have e4 : us.getD j undef = u := by rw [← e]; simp [List.getD_eq_getElem?_getD, hj]
      rw [e4] at e'
      rw [e']; rfl
    refine wpList_append_own _ hgd s x 23 ho B 54 i0 (.slice none 0 0) 1 24 Try.underlying23 hi hz0 hz1 hz2 rfl (by decide) v xss.length vs hs p2 ⟨g, 0, none⟩ yss.length cap us hx e1 e2 e3
      (by rw [show maxLen = 9223372036854775807 from rfl]; omega) (by omega) hB ?_
    intro v' w' q1 q2 _
    exact h v' w' (OwnV.app p1 p2 p3 k1 k3 q2 q1) ((Below.refl _ _).grown q2 hB (rows_from p2))
theorem wall_take {segs : List Wrt} {k : Nat} {s : Wrt} (hs : segs[k]? = some s) : wall (segs.take (k + 1)) = wall (segs.take k) ++ wrecs s.2 := by
  unfold wall; rw [← snoc_take segs hs, List.flatMap_append]; simp
theorem wall_len {segs : List Wrt} (hm : ∀ s ∈ segs, s.2.length ≤ 16777216) : (wall segs).length ≤ segs.length * 2097152 := by
  induction segs with
  | nil => simp [wall]
  | cons s r ih =>
    have h1 := ih fun x hx => hm x (List.mem_cons_of_mem _ hx)
    have h2 := hm s (List.mem_cons_self ..)
    have h3 := (wn_le s.2).2.1
    have e : wall (s :: r) = wrecs s.2 ++ wall r := by unfold wall; rw [List.flatMap_cons]
    rw [e, List.length_append, List.length_cons]
    omega
theorem wrecords_9 {l : Wlg} (h : ¬ WOk l) : wrecords l = ([], 0, 9) := if_neg h
theorem wrecords_0 {l : Wlg} (h : WOk l) : wrecords l = (wall l.1, l.2.1 - ((wall l.1).length : Nat), 0) := if_pos h

set_option maxRecDepth 100000 in
set_option maxHeartbeats 4000000 in
theorem rwrecords_any (w : World) (sv wv : Value) (l : Wlg) (h1 : RdC w sv l.1) (h2 : RdSec w wv l.2.2) (hm : ∀ s ∈ l.1, s.2.length ≤ 16777216) :
    Calls Try.prog 18 #[.agg #[sv, .int .i64 l.2.1, wv]] w fun e w' => ∃ v', e = .returned (.tuple #[v', .int .i64 (wrecords l).2.1, .int .i64 (wrecords l).2.2]) ∧ OwnV w.heap.size w.heap.size w' v' (wrecords l).1 ∧ Below w.heap.size w w' := by
  obtain ⟨a1, c1, rfl⟩ := h1.slice
  obtain ⟨a2, c2, rfl⟩ := h2.slice
  obtain ⟨X, hX, X0, bX, sX⟩ := boxedN w #[.slice a1 l.1.length c1, .int .i64 l.2.1, .slice a2 l.2.2.length c2] 25
  obtain ⟨⟨A0, A1, A2⟩, _⟩ := cells3 X0
  have KC := hide (rwcheck_any X _ _ l (h1.to0 bX) (h2.to0 bX) hm)
  rw [hX] at A0 A1 A2
  go_enter Try.func18, Try.ntmps18
  by_cases hok : WOk l
  · rw [wcheck_ok hok] at KC
    have hE := hide (wrecords_0 hok)
    have hsl := hok.1.1
    have hnx := hok.1.2.1
    have hn0 := hnx.1
    have hn1 := hnx.2
    replace hok := hide hok
    go_wp2_with fail
    rw [← hX]
    replace hX := hide hX
    refine KC.out.mono ?_
    rintro e w1 ⟨rfl, b1⟩
    clear KC A0 A1 A2
    have cw := hide (bX.trans (b1.mono bX.size))
    have A' := hide ((b1.block _ (lt_of_block X0)).trans X0)
    have H1 := hide (h1.to0 cw.out)
    clear X0 bX b1 h1 h2
    go_wp2
    go_loopw [5, 6] (fun o i wr => ∃ K : Nat, K ≤ l.1.length ∧ i = .int .i64 K ∧ Hid (OwnV w1.heap.size w1.heap.size wr o (wall (l.1.take K)) ∧ Below w1.heap.size w1 wr)) (fun _ i _ => l.1.length - (intOf i).toNat)
    case atStart => exact ⟨0, Nat.zero_le _, rfl, hide ⟨OwnV.nil _ _ _, Below.refl _ _⟩⟩
    case round =>
      obtain ⟨K, hK, rfl, hI⟩ := hrel
      obtain ⟨⟨A0, A1, A2⟩, _⟩ := cells3 ((hI.out.2.block _ (lt_of_block A'.out)).trans A'.out)
      have hwl : (wall (l.1.take K)).length ≤ 8589934592 := by
        have := wall_len (segs := l.1.take K) (fun s hs => hm s (List.mem_of_mem_take hs))
        rw [List.length_take] at this
        omega
      obtain ⟨oa, oc, hou⟩ := hI.out.1.rd.slice
      obtain ⟨N, hN⟩ : ∃ N, N = (wall (l.1.take K)).length := ⟨_, rfl⟩
      rw [← hN] at hou hwl
      subst hou
      by_cases hlt : K < l.1.length
      · have hq : (K : Int) < (l.1.length : Int) := by omega
        obtain ⟨y, hy, hym⟩ := some_at l.1 hlt
        obtain ⟨b1, o1, u, rfl, hc0, hc1, hru⟩ := (H1.out.to0 hI.out.2).wrt hy
        have hyl := hm y hym
        have hwt := hide (wall_take hy)
        obtain ⟨yz, yx⟩ := y
        dsimp only at hc0 hc1 hru hyl hwt
        obtain ⟨ua, uc, rfl⟩ := hru.slice
        have KW := hide (rwhole_any wr _ yx hru hyl)
        have hrl := (wn_le yx).2.1
        obtain ⟨YL, hYL⟩ : ∃ YL, YL = yx.length := ⟨_, rfl⟩
        rw [← hYL] at hc1 KW
        replace hYL := hide hYL
        replace hN := hide hN
        clear hru hy hym
        go_wp2_with fail
        refine KW.out.mono ?_
        rintro e w5 ⟨rv, rfl, o5, b5⟩
        clear KW A0 A1 A2 hc0 hc1
        have O1 := hI.out.1.below b5
        have O2 := o5.mono (B' := 0) (Nat.zero_le _) (show w1.heap.size ≤ wr.heap.size from hI.out.2.size)
        have B5 := hide (hI.out.2.trans (b5.mono hI.out.2.size))
        have hln : ((wall (l.1.take K)).length + (wrecs yx).length) * 24 ≤ 140737488355328 := by rw [← hN.out]; omega
        have hb5 := B5.out.size
        obtain ⟨ra, rc, hrv⟩ := o5.rd.slice
        subst hrv
        clear o5 b5 hI
        go_wp2_with (at_builtin; refine wpList_append_lists rfl _ _ rfl w1.heap.size 0 w1.heap.size _ _ _ _ rfl rfl O1 O2 hln hb5 ?_; intro v6 w6 o6 b6)
        go_roundw
        case rel => exact ⟨K + 1, by omega, by go_num, hide ⟨by rw [hwt.out]; exact o6, B5.out.trans b6⟩⟩
        case measure => simp [intOf]; omega
      · have hq : ¬ (K : Int) < (l.1.length : Int) := by omega
        obtain rfl : K = l.1.length := by omega
        rw [List.take_of_length_le (Nat.le_refl _)] at hN hI
        have FIN : Hid (∀ nq, OwnV w.heap.size w.heap.size (wr.drewN nq) (.slice oa N oc) (wall l.1) ∧ Below w.heap.size w (wr.drewN nq)) := fun nq => by
          have bd := below_drewN' wr nq wr.heap.size
          exact ⟨(hI.out.1.below bd).mono cw.out.size cw.out.size, cw.out.trans ((hI.out.2.trans (bd.mono hI.out.2.size)).mono cw.out.size)⟩
        replace hN := hide hN
        clear hI
        go_wp2_with fail
        go_quiet (fail)
        go_wp2
        go_ret3
        rw [hE.out]
        exact ⟨_, by rw [← hN.out]; rfl, FIN.out nq⟩
  · rw [wcheck_no hok] at KC
    have hE := hide (wrecords_9 hok)
    replace hok := hide hok
    go_wp2_with fail
    rw [← hX]
    replace hX := hide hX
    refine KC.out.mono ?_
    rintro e w1 ⟨rfl, b1⟩
    have cw := bX.trans (b1.mono bX.size)
    clear KC A0 A1 A2
    go_wp2
    go_ret3
    rw [hE.out]
    exact ⟨_, rfl, OwnV.nil _ _ _, cw⟩

end Go.Proofs.Ytlnoancjegifnaa
