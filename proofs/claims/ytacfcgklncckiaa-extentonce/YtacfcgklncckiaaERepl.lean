/-
  The program's replaced: extents of a map from one up to another, replaced by spans.
-/
import Derived.Test.YtacfcgklncckiaaEFirst
import Derived.Test.YtacfcgklncckiaaEWithoutR
import Derived.Test.YtacfcgklncckiaaRMid
import Derived.Test.YtacfcgklncckiaaTail
namespace Go.Proofs.Ytacfcgklncckiaa
open Go.RowKit
set_option linter.unusedVariables false

theorem addr_add (b off n : Nat) : (⟨b, off, none⟩ : Addr).add n = ⟨b, off + n, none⟩ := by
  by_cases h : n = 0
  · subst h; simp [Addr.add]
  · simp [Addr.add, h]
/-- a piece of a list -/
theorem rdS_cut {α : Type} {s : Shp α} {w : World} {a : Option Addr} {len cap : Nat} {xs : List α} (h : RdS s w (.slice a len cap) xs) {q to : Nat} (h1 : q ≤ to) (h2 : to ≤ len) :
    ∃ A, (if cap = q then a else Option.map (fun x => x.add (q * s.n)) a) = A ∧ RdS s w (.slice A (to - q) (cap - q)) ((xs.take to).drop q) := by
  obtain ⟨ao, c, e, l1, m1, n1, r1⟩ := h
  simp only [Value.slice.injEq] at e
  obtain ⟨rfl, rfl, rfl⟩ := e
  have el : ((xs.take to).drop q).length = to - q := by simp; omega
  by_cases hc : cap = q
  · refine ⟨a, if_pos hc, ⟨a, cap - q, by rw [el], by rw [el]; omega, by omega, fun _ => by omega, .inl (List.eq_nil_of_length_eq_zero (by rw [el]; omega))⟩⟩
  · refine ⟨_, if_neg hc, ⟨_, cap - q, by rw [el], by rw [el]; omega, by omega, ?_, ?_⟩⟩
    · intro h
      cases a with
      | none => rw [n1 rfl]; simp
      | some x => cases h
    · rcases r1 with rfl | ⟨b, off, rfl, hcc⟩
      · left; simp
      · right
        refine ⟨b, off + q * s.n, by simp [addr_add], fun i x hx => ?_⟩
        rw [List.getElem?_drop] at hx
        have hlt : q + i < to := by
          rcases Nat.lt_or_ge (q + i) to with h | h
          · exact h
          · rw [List.getElem?_eq_none (by simp; omega)] at hx; cases hx
        rw [List.getElem?_take, if_pos hlt] at hx
        obtain ⟨c, k1, k2⟩ := hcc (q + i) x hx
        refine ⟨c, k1, fun j u hj => ?_⟩
        have := k2 j u hj
        rw [Nat.add_mul] at this
        rw [show off + q * s.n + i * s.n + j = off + (q * s.n + i * s.n) + j by omega]
        exact this
/-- append of a list -/
theorem run_append_exts (w : World) {B : Nat} {v v2 : Value} {l l2 : List Ext} (h : OwnE B w v l) (h2 : RdE w v2 l2) (hl : l.length + l2.length ≤ 8000000) (hB : B ≤ w.heap.size) :
    ∃ v' w', (Builtin.append_ #[22, 22] 22 #[v, v2]).run Try.prog w = .ok v' w' ∧ OwnE B w' v' (l ++ l2) ∧ w.grownBy w' v.ownBlock := by
  obtain ⟨i0, hi, hz0, hz1, hz2⟩ := info_parts infoE
  have h0 := h2
  obtain ⟨ao, c, rfl, l1, m1, n1, r1⟩ := h2
  cases ao with
  | none =>
    have : l2 = [] := by
      rcases r1 with r1 | ⟨b, off, h, _⟩
      · exact r1
      · cases h
    subst this
    obtain rfl : c = 0 := n1 rfl
    exact ⟨v, w, run_append_owned_none (P := Try.prog) (w := w) B 22 22 26 i0 2 Try.underlying22 hi v l.length (ecells l) h, by rw [List.append_nil]; exact h, World.grownBy.refl _ _⟩
  | some ad =>
    have n2 : ∀ j u, (ecells l2)[j]? = some u → w.cell? (ad.add j) = some u := by
      intro j u hj
      obtain ⟨i, x, hx, hc⟩ := ecells_at l2 j u hj
      obtain ⟨b, off, e, h1, h2⟩ := h0.ext hx
      obtain rfl : ad = ⟨b, off, none⟩ := by simpa using e
      rw [addr_add]
      rcases hc with ⟨rfl, rfl⟩ | ⟨rfl, rfl⟩
      · exact h1
      · exact h2
    obtain ⟨v', w', hr, ho, hg, _⟩ := run_append_own (P := Try.prog) w B 22 22 26 i0 (.agg #[.int .i64 0, .int .i64 0]) 2 16 Try.underlying22 hi hz0 hz1 hz2 rfl (by decide) v l.length (ecells l) h ad l2.length c (ecells l2) (ecells_len l2) n2 (ecells_one l2) (by unfold maxLen; omega) (by omega) hB
    refine ⟨v', w', hr, ?_, hg⟩
    unfold OwnE
    rw [ecells_app, List.length_append]
    exact ho

/-- a span in a cell -/
def Shp.span : Shp (Int × Int) where
  n := 1
  rd _ cs x := cs = [sp x.1 x.2]
  own F _ cs x := F = [] ∧ cs = [sp x.1 x.2]
  rd_n h := by rw [h]; rfl
  rd_to h _ := h
  rd_one h u hu := by rw [h] at hu; simp at hu; subst hu; rfl
  own_rd h := h.2
  own_to h _ := h
  own_lt h b hb := by rw [h.1] at hb; cases hb
abbrev RdSp (w : World) (v : Value) (l : List (Int × Int)) : Prop := RdS Shp.span w v l
theorem RdS.span {w : World} {a : Option Addr} {n cap : Nat} {l : List (Int × Int)} (h : RdSp w (.slice a n cap) l) {i : Nat} {x : Int × Int} (hx : l[i]? = some x) : ∃ b off, a = some ⟨b, off, none⟩ ∧ w.cell? ⟨b, off + i, none⟩ = some (sp x.1 x.2) := by
  obtain ⟨b, off, u, e, hc, e1⟩ := RdS.at1 rfl h hx
  have f1 : [u] = [sp x.1 x.2] := e1
  simp only [List.cons.injEq, and_true] at f1
  subst f1
  exact ⟨b, off, e, hc⟩
def eSpan (s : Int × Int) : List Ext := if s.1 < s.2 then [(s.1, s.2 - s.1)] else []
def eSpans (ss : List (Int × Int)) : List Ext := ss.flatMap eSpan
theorem eSpans_take {l : List (Int × Int)} {k : Nat} {y : Int × Int} (h : l[k]? = some y) : eSpans (l.take (k + 1)) = eSpans (l.take k) ++ eSpan y := by
  unfold eSpans
  rw [List.take_add_one, h, List.flatMap_append]
  simp
theorem eSpans_len : ∀ ss : List (Int × Int), (eSpans ss).length ≤ ss.length
  | [] => by simp [eSpans]
  | y :: r => by
    have := eSpans_len r
    unfold eSpans at *
    rw [List.flatMap_cons, List.length_append, List.length_cons]
    have : (eSpan y).length ≤ 1 := by unfold eSpan; split <;> simp
    omega
theorem infoM : (Try.prog.info? 27).map (·.size) = some 2 := by kernel_rfl

/-- make([]T, 0, n) by its run -/
theorem wpList_make_run {P : Program} (w : World) {ops : Array Oper} {rest : List Oper} {o : Oper} {a : Act} {Q : Exit → Act → World → Prop} (hg : o.guard = none) (l c : Operand) (t : TypeId) (hop : o.op = Op.makeSlice t l c)
    (kl kc : IntKind) (C : Int) (n : Nat) (hl : a.eval l = .int kl 0) (hc : a.eval c = .int kc C) (hC : C = (n : Int)) (v : Value) (w' : World) (hr : (Instr.makeSlice t (.int kl 0) (.int kc (n : Int))).run P w = .ok v w') (h : wpList P ops Q rest (a.put o.dst v) w') : wpList P ops Q (o :: rest) a w := by
  refine wpList_plain hg fun K hK' => ?_
  subst hC
  unfold Oper.wp
  simp [execOp, hop, hl, hc, hr, Result.andThen]
  exact hK' _ _ h
set_option maxRecDepth 100000 in
set_option maxHeartbeats 2000000 in
theorem replaced_any (w : World) (fv sv : Value) (m : EMap) (i j : Nat) (ss : List (Int × Int)) (h : RdE w fv m.2) (hs : RdSp w sv ss) (hin : ∀ s ∈ ss, spIn s.1 s.2) (hij : i ≤ j) (hj : j ≤ m.2.length) (hl : m.2.length ≤ 1048577) (hss : ss.length ≤ 4) :
    Calls Try.prog 40 #[.agg #[.int .i64 m.1, fv], .int .i64 i, .int .i64 j, sv] w fun e w' => ∃ fv', e = .returned (.agg #[.int .i64 m.1, fv']) ∧ OwnE w.heap.size w' fv' (m.2.take i ++ eSpans ss ++ m.2.drop j) ∧ Below w.heap.size w w' := by
  obtain ⟨i0, hi, hz0, hz1, hz2⟩ := info_parts infoE
  obtain ⟨a, c, rfl⟩ := h.slice
  obtain ⟨a2, c2, rfl⟩ := hs.slice
  obtain ⟨ao, c', e, l1, m1, n1, _⟩ := id h
  simp only [Value.slice.injEq, true_and] at e
  obtain ⟨rfl, rfl⟩ := e
  rw [show maxLen = 9223372036854775807 from rfl] at m1
  obtain ⟨U, hU, A0, A1, bU, sU⟩ := boxed2 w (.int .i64 m.1) (.slice a m.2.length c) 27
  obtain ⟨W, hW, Z0, Z1, bW, sW⟩ := boxed2 U (.int .i64 0) (.slice none 0 0) 27
  have cW := bU.trans (bW.mono bU.size)
  replace A0 := (bW.cell (cell_lt A0)).trans A0
  replace A1 := (bW.cell (cell_lt A1)).trans A1
  have hZ : W.heap[w.heap.size + 1]? = some (.cells #[.int .i64 0, .slice none 0 0] 27 (0, 0)) := by rw [hW, ← sU]; exact heap_alloc_last U _
  have HA := hide (And.intro A0 A1)
  have HW := hide cW
  have hsz : W.heap.size = w.heap.size + 2 := by omega
  have rA : RdE W (.slice a i c) (m.2.take i) := by
    obtain ⟨A, hA, rA⟩ := rdS_cut (q := 0) (to := i) (h.to0 cW) (Nat.zero_le _) (by omega)
    have : A = a := by
      rw [← hA]
      by_cases hc : c = 0
      · rw [if_pos hc]
      · rw [if_neg hc]
        cases a with
        | none => rfl
        | some x => simp [Addr.add]
    rw [this] at rA
    simpa using rA
  obtain ⟨w1, hmk, own1, gr1⟩ := run_make_own (P := Try.prog) W W.heap.size 22 26 i0 (.agg #[.int .i64 0, .int .i64 0]) 2 Try.underlying22 hi hz0 hz1 .i64 .i64 (i + ss.length + m.2.length - j) (by rw [hz2]; omega) (by unfold maxLen; omega) (Nat.le_refl _)
  have b1 : Below W.heap.size W w1 := (Below.refl _ _).grown gr1 (Nat.le_refl _) (fun k h => by cases h)
  obtain ⟨v2, w2, hap, own2, gr2⟩ := run_append_exts w1 (l := []) own1 (rA.to0 b1) (by simp; omega) b1.size
  have b2 : Below W.heap.size W w2 := b1.grown gr2 b1.size (fun k h => (World.ownsRow.lt own1 k h).1)
  rw [List.nil_append] at own2
  have A1' := (b1.cell (cell_lt A1)).trans A1
  have HO := hide (And.intro own2 b2)
  have HZ := hide hZ
  have HH := hide h
  have HS := hide hs
  rw [hsz] at hmk hap
  rw [hW, hU] at hmk A0 A1
  have hcap : ((i : Int) + (ss.length : Int) + (m.2.length : Int) - (j : Int)) = ((i + ss.length + m.2.length - j : Nat) : Int) := by omega
  generalize hN : i + ss.length + m.2.length - j = N at *
  clear own1 gr1 gr2 own2 b1 b2 rA h hs Z0 Z1 hZ bU bW cW n1
  replace hN := hide hN
  have hcap' := hide hcap
  clear hcap
  go_enter Try.func40, Try.ntmps40
  go_wp2_with (first | (at_make; refine wpList_make_run _ rfl _ _ 22 rfl _ _ _ N rfl rfl hcap'.out _ _ hmk ?_) | (at_builtin; refine Lib.wpList_append_run _ rfl _ _ _ _ rfl _ _ rfl rfl _ _ hap ?_))
  go_loopw [9, 31] (fun o k wr => ∃ q : Nat, q ≤ ss.length ∧ k = .int .i64 q ∧ Hid (OwnE W.heap.size wr o (m.2.take i ++ eSpans (ss.take q)) ∧ Below W.heap.size W wr)) (fun _ k _ => ss.length - (intOf k).toNat)
  case atStart => exact ⟨0, Nat.zero_le _, rfl, hide ⟨by simpa [eSpans] using HO.out.1, HO.out.2⟩⟩
  case round =>
    obtain ⟨q, hq, rfl, hH⟩ := hrel
    obtain ⟨ho, hb⟩ := hH.out
    clear hmk hap A0 A1 A1'
    by_cases hlt : q < ss.length
    · have hqi : (q : Int) < (ss.length : Int) := by omega
      obtain ⟨s, hsq, hsm⟩ : ∃ s, ss[q]? = some s ∧ s ∈ ss := ⟨ss[q], List.getElem?_eq_getElem hlt, List.getElem_mem hlt⟩
      have hsi := hin s hsm
      have hT := eSpans_take hsq
      have cw := HW.out.trans (hb.mono HW.out.size)
      obtain ⟨b1, off, rfl, hc1⟩ := (HS.out.to0 cw).span hsq
      obtain ⟨x, y⟩ := s
      have hlen : (m.2.take i ++ eSpans (ss.take q)).length ≤ 2000000 := by
        have := eSpans_len (ss.take q)
        simp at this ⊢; omega
      have K1 := hide (size_any wr x y hsi)
      have K2 := hide (begin_any wr x y hsi.1 hsi.2.1)
      dsimp only at hc1
      have hx := hide hsi
      obtain ⟨y0, y1, y2, y3⟩ := hsi
      dsimp only at y0 y1 y2 y3
      by_cases cD : x < y
      · have hC : Hid (eSpan (x, y) = [(x, y - x)]) := by show _ = _; unfold eSpan; rw [if_pos cD]
        have cD' : 0 < y - x := by omega
        obtain ⟨v6, w6, hr6, o6, b6, s6, k6⟩ := run_append_ext wr ho x (y - x) (by omega) hb.size
        have O6 := hide (And.intro o6 (hb.trans b6))
        clear o6 b6 k6 ho hb hH cw
        replace hT := hide hT
        generalize hsp : sp x y = sv at *
        replace hsp := hide hsp
        go_wp2_with fail
        refine K1.out.mono ?_
        rintro e w' ⟨rfl, rfl⟩
        go_wp2_with fail
        refine K2.out.mono ?_
        rintro e w' ⟨rfl, rfl⟩
        go_wp2_with fail
        refine K1.out.mono ?_
        rintro e w' ⟨rfl, rfl⟩
        go_wp2_with (at_builtin; refine Lib.wpList_append_run _ rfl _ _ _ _ rfl _ _ rfl rfl _ _ hr6 ?_)
        go_roundw
        case rel => exact ⟨q + 1, by omega, by go_num, hide ⟨by rw [hT.out, hC.out, ← List.append_assoc]; exact O6.out.1, O6.out.2⟩⟩
        case measure => simp [intOf]; omega
      · have hC : Hid (eSpan (x, y) = []) := by show _ = _; unfold eSpan; rw [if_neg cD]
        have cD' : y - x ≤ 0 := by omega
        have O6 := hide (And.intro ho hb)
        clear ho hb hH cw
        replace hT := hide hT
        generalize hsp : sp x y = sv at *
        replace hsp := hide hsp
        go_wp2_with fail
        refine K1.out.mono ?_
        rintro e w' ⟨rfl, rfl⟩
        go_wp2
        go_roundw
        case rel => exact ⟨q + 1, by omega, by go_num, hide ⟨by rw [hT.out, hC.out, List.append_nil]; exact O6.out.1, O6.out.2⟩⟩
        case measure => simp [intOf]; omega
    · have hqi : ¬ (q : Int) < (ss.length : Int) := by omega
      obtain rfl : q = ss.length := by omega
      rw [List.take_of_length_le (Nat.le_refl _)] at ho
      have cw := HW.out.trans (hb.mono HW.out.size)
      have A0 := (hb.cell (cell_lt HA.out.1)).trans HA.out.1
      have A1 := (hb.cell (cell_lt HA.out.2)).trans HA.out.2
      have Z2 := (hb.block (w.heap.size + 1) (by omega)).trans HZ.out
      obtain ⟨A, hA, rA⟩ := rdS_cut (q := j) (to := m.2.length) (HH.out.to0 cw) hj (Nat.le_refl _)
      rw [List.take_of_length_le (Nat.le_refl _)] at rA
      rw [show SExt.n = 2 from rfl] at hA
      have hjl : (j : Int) ≤ (m.2.length : Int) := by omega
      have hd : Below W.heap.size W wr.drew := hb.drew
      obtain ⟨v3, w3, hap, own3, gr3⟩ := run_append_exts wr.drew (l := m.2.take i ++ eSpans ss) (World.ownsRow.drew ho) (rA.to0 (Below.refl _ _).drew) (by have := eSpans_len ss; simp; omega) hd.size
      have b3 : Below W.heap.size W w3 := hd.grown gr3 hd.size (fun k h => (World.ownsRow.lt ho k h).1)
      have X0 := (b3.cell (cell_lt HA.out.1)).trans HA.out.1
      have X1 := (b3.cell (cell_lt HA.out.2)).trans HA.out.2
      have Z3 := (b3.block (w.heap.size + 1) (by omega)).trans HZ.out
      obtain ⟨a3, c3, hv3⟩ := (own_ext own3).rdS.slice
      subst hv3
      have z0 : w3.cell? ⟨w.heap.size + 1, 0, none⟩ = some (.int .i64 0) := by rw [cell_of_row _ _ 0 _ _ (0, 0) Z3]; rfl
      have z1 : w3.cell? ⟨w.heap.size + 1, 1, none⟩ = some (.slice none 0 0) := by rw [cell_of_row _ _ 1 _ _ (0, 0) Z3]; rfl
      have z2 : w3.frozen? ⟨w.heap.size + 1, 0, none⟩ = false := frozen_of_row _ _ 0 _ _ Z3
      have z3 : w3.frozen? ⟨w.heap.size + 1, 1, none⟩ = false := frozen_of_row _ _ 1 _ _ Z3
      have O3 := hide (And.intro own3 (And.intro b3 Z3))
      clear own3 b3 Z3 gr3 ho hb hH hd rA Z2 cw
      generalize (m.2.take i ++ eSpans ss ++ m.2.drop j).length = L3 at *
      replace hlt := hide hlt
      go_wp2
      refine wp_region_mid (fun w' => w'.cell? ⟨w.heap.size, 0, none⟩ = some (.int .i64 m.1) ∧ w'.cell? ⟨w.heap.size, 1, none⟩ = some (.slice a m.2.length c)) 7 8 mixed (by kernel_rfl) (fun _ _ _ _ h => h) ⟨A0, A1⟩ ?_
      dsimp only [List.take, List.drop]
      iterate 7
        refine take_one (v := ?_) (by rfl) ?_ ?_
        rotate_left
        · rintro w' ⟨s1, s2⟩
          go_simp
          try with_reducible rfl
        try simp only [Act.put, List.setIfInBounds_toArray, List.set_cons_zero, List.set_cons_succ]
      refine mid_one fun K hK => ?_
      rw [if_pos (by rfl)]
      refine Lib.wp_append_run _ _ _ _ _ rfl _ _ rfl rfl _ _ hap ?_
      refine hK _ _ ⟨X0, X1⟩ ?_
      clear hK K
      show wpList _ _ _ _ _ _
      go_wp2
      refine ret_cell rfl rfl (w.heap.size + 1) rfl _ _ _ _ (heap_set2 O3.out.2.2 _ _) _ Try.underlying27 rfl infoM ?_
      refine ⟨_, rfl, ?_, below_set2 (HW.out.trans (O3.out.2.1.mono (by omega))) (show w.heap.size ≤ w.heap.size + 1 by omega) _ _⟩
      have o := ownsRow_setCell_below (ownsRow_setCell_below O3.out.1 (a := ⟨w.heap.size + 1, 0, none⟩) (show w.heap.size + 1 < W.heap.size by omega) (.int .i64 m.1)) (a := ⟨w.heap.size + 1, 1, none⟩) (show w.heap.size + 1 < W.heap.size by omega) (.slice a3 L3 c3)
      exact rows_base o (fun g hg => by have := (World.ownsRow.lt o g hg).1; omega)

end Go.Proofs.Ytacfcgklncckiaa
