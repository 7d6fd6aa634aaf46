/- Several texts in one: LTOld. -/
import Derived.Test.YtgmkknonnidgaaaGoLTOld5
import Derived.Test.YtgmkknonnidgaaaGoLTOld2
set_option linter.unusedVariables false
set_option linter.unusedSimpArgs false
namespace Go.Proofs.Ytgmkknonnidgaaa.treeOldRoots
open Go.ChangeShapes Go.WideShapes Go.ChangeAt Go.RowKit
theorem tscan_is {t : Tr} {ps : List Pr} (h : tprs t = some ps) (a b : Str) : tscan t a b = (pscan ps a b, 0) := by unfold tscan; rw [h]
theorem pscan_all (l : List Pr) : pscan l [] [] = l := by
 unfold pscan
 refine filter_all fun y _ => ?_
 unfold pin
 have : slt y.1 [] = false := by cases y.1 <;> rfl
 rw [this]
 rfl
def CB (B : Nat) (c : World) (t u : Tr) (pv : Value) (err : Int) : Prop := err ≠ 0 ∨ (err = 0 ∧ OwnPg B c pv u.pages ∧ ∃ ps, Chg t u ps)
theorem PutB.cb {B : Nat} {c : World} {t u : Tr} {k v : Str} {pv : Value} {err : Int} (h : PutB B c t k v u pv err) : CB B c t u pv err := by
 rcases h with h | ⟨h1, _, h3, ps, _, h4⟩
 ·exact .inl h.1
 ·exact .inr ⟨h1, h3, _, h4⟩
theorem DelB.cb {B : Nat} {c : World} {t u : Tr} {k : Str} {pv : Value} {was : Bool} {err : Int} (h : DelB B c t k u pv was err) : CB B c t u pv err := by
 rcases h with h | ⟨h1, _, h3, ps, _, _, h4⟩
 ·exact .inl h.1
 ·exact .inr ⟨h1, h3, _, h4⟩
theorem CB.keep {B : Nat} {c c' : World} {t u : Tr} {pv : Value} {err : Int} (h : CB B c t u pv err) (k1 : ∀ e, e ≠ 26 → KeepT e c c') : CB B c' t u pv err := by
 rcases h with h | ⟨h1, h3, h4⟩
 ·exact .inl h
 ·exact .inr ⟨h1, OwnW.keepT h3 (k1 _ (by decide)) (k1 _ (by decide)), h4⟩
theorem CB.to {B : Nat} {c c' : World} {t u : Tr} {pv : Value} {err : Int} (h : CB B c t u pv err) (b : Below c.heap.size c c') : CB B c' t u pv err := h.keep fun e _ => KeepT.below b
theorem CB.base {B C : Nat} {c : World} {t u : Tr} {pv : Value} {err : Int} (h : CB C c t u pv err) (hb : B ≤ C) : CB B c t u pv err := by
 rcases h with h | ⟨h1, h3, h4⟩
 ·exact .inl h
 ·exact .inr ⟨h1, OwnPg.base h3 hb, h4⟩
structure OI (w wr : World) (g3 : Nat) (t : Tr) (pv : Value) (want : List Pr) (rs : List Int) (rv : Value) (hs : List (List Pr)) (hv : Value) (k : Nat) : Prop where
 own : OwnPg w.heap.size wr pv t.pages
 prs : tprs t = some want
 nxt : t.next ≤ 1 + 40 * (k : Int)
 sml : ∀ x ∈ t.pages, x.2.length ≤ 244
 ro : OwnJ w.heap.size wr rv rs
 ha : OwnH w.heap.size wr hv hs
 l1 : rs.length = k
 l2 : hs.length = k
 old : ∀ (j : Nat) r h, rs[j]? = some r → hs[j]? = some h → tprs ⟨r, t.next, t.pages⟩ = some h
 tb : wr.heap[g3]? = some (.cells #[.int .i64 t.root, .int .i64 t.next, pv] 26 (0, 0))
 bel : Below w.heap.size w wr
 hg : w.heap.size ≤ g3
theorem OI.to {w wr wr' : World} {g3 : Nat} {t : Tr} {pv : Value} {want : List Pr} {rs : List Int} {rv : Value} {hs : List (List Pr)} {hv : Value} {k : Nat} (h : OI w wr g3 t pv want rs rv hs hv k) (b : Below wr.heap.size wr wr') : OI w wr' g3 t pv want rs rv hs hv k :=
 ⟨h.own.to9 b, h.prs, h.nxt, h.sml, rows_to h.ro b, h.ha.keep (KeepT.below b) (KeepT.below b), h.l1, h.l2, h.old, (b.block _ (lt_of_block h.tb)).trans h.tb, h.bel.trans (b.mono h.bel.size), h.hg⟩
theorem OI.rwf {w wr : World} {g3 : Nat} {t : Tr} {pv : Value} {want : List Pr} {rs : List Int} {rv : Value} {hs : List (List Pr)} {hv : Value} {k : Nat} (h : OI w wr g3 t pv want rs rv hs hv k) : (Lit.int .i64 t.root).wf = true := (tprs_num h.prs).1.rwf
theorem OI.big {w wr : World} {g3 : Nat} {t : Tr} {pv : Value} {want : List Pr} {rs : List Int} {rv : Value} {hs : List (List Pr)} {hv : Value} {k : Nat} (h : OI w wr g3 t pv want rs rv hs hv k) : ∀ x ∈ t.pages, x.2.length ≤ 140737488351232 := fun x hx => by have := h.sml x hx; omega
theorem OI.note {w wr c : World} {g3 : Nat} {t : Tr} {pv : Value} {want : List Pr} {rs : List Int} {rv rv' : Value} {hs : List (List Pr)} {hv hv' : Value} {k : Nat} (h : OI w wr g3 t pv want rs rv hs hv k) (kk : ∀ e, e ≠ 3 → e ≠ 30 → KeepT e wr c) (b : Below w.heap.size w c) (o1 : OwnJ w.heap.size c rv' (rs ++ [t.root])) (o2 : OwnH w.heap.size c hv' (hs ++ [want])) : OI w c g3 t pv want (rs ++ [t.root]) rv' (hs ++ [want]) hv' (k + 1) := by
 refine ⟨OwnW.keepT h.own (kk _ (by decide) (by decide)) (kk _ (by decide) (by decide)), h.prs, by have := h.nxt; push_cast; omega, h.sml, o1, o2, by simp [h.l1], by simp [h.l2], ?_, kk _ (by decide) (by decide) _ _ _ h.tb, b, h.hg⟩
 intro j r q hr hq
 by_cases hj : j < k
 ·rw [List.getElem?_append_left (by rw [h.l1]; exact hj)] at hr
  rw [List.getElem?_append_left (by rw [h.l2]; exact hj)] at hq
  exact h.old j r q hr hq
 ·have h1 : j < (rs ++ [t.root]).length := (List.getElem?_eq_some_iff.1 hr).1
  rw [List.length_append, h.l1] at h1
  have hjk : j = k := by simp at h1; omega
  subst hjk
  have e1 : (rs ++ [t.root])[j]? = some t.root := by rw [List.getElem?_append_right (by rw [h.l1]; exact Nat.le_refl _), h.l1]; simp
  have e2 : (hs ++ [want])[j]? = some want := by rw [List.getElem?_append_right (by rw [h.l2]; exact Nat.le_refl _), h.l2]; simp
  rw [e1] at hr
  rw [e2] at hq
  rw [← Option.some.inj hr, ← Option.some.inj hq]
  exact h.prs
theorem OI.put {w c : World} {g3 : Nat} {t u : Tr} {pv pv' : Value} {want ps : List Pr} {rs : List Int} {rv : Value} {hs : List (List Pr)} {hv : Value} {k : Nat} (h : OI w c g3 t pv want rs rv hs hv (k + 1)) (h0 : t.next ≤ 1 + 40 * (k : Int)) (hC : Chg t u ps) (o : OwnPg w.heap.size c pv' u.pages) :
  OI w (((c.setCell ⟨g3, 0, none⟩ (.int .i64 u.root)).setCell ⟨g3, 1, none⟩ (.int .i64 u.next)).setCell ⟨g3, 2, none⟩ pv') g3 u pv' ps rs rv hs hv (k + 1) := by
 have kk := fun e (he : e ≠ 26) => s3_keep9 h.tb (.int .i64 u.root) (.int .i64 u.next) pv' he
 obtain ⟨more, e, _, h2⟩ := hC.pgs
 refine ⟨OwnW.keepT o (kk _ (by decide)) (kk _ (by decide)), hC.prs, ?_, ?_, rows_keepT h.ro (kk _ (by decide)), h.ha.keep (kk _ (by decide)) (kk _ (by decide)), h.l1, h.l2, fun j r q hr hq => tprs_old hC (h.old j r q hr hq), heap_set3t h.tb _ _ _, below_set3t h.bel h.hg _ _ _, h.hg⟩
 ·have h3 := hC.nxt
  push_cast
  omega
 ·intro x hx
  rw [e, List.mem_append] at hx
  rcases hx with hx | hx
  ·exact h.sml x hx
  ·exact h2 x hx
set_option maxRecDepth 100000 in
set_option maxHeartbeats 32000000 in
theorem walk (w : World) (a0 : Option Addr) (len0 cap0 : Nat) (ls : List Sp3) (g0 : SSteps10.rd w [.slice a0 len0 cap0] ls) (m0 : ls.length * 40 ≤ 140737488351232 ∧ ∀ x ∈ ls, sp3fit x) :
  Calls Try.prog 3 #[.slice a0 len0 cap0] w fun e w' => e = .returned (.bool true) ∧ Below w.heap.size w w' := by
 obtain ⟨v0, e0, R0⟩ := g0
 obtain rfl : v0 = .slice a0 len0 cap0 := by simpa using e0.symm
 have HF := hide m0.2
 have HR := hide R0
 obtain ⟨a0', c0', h0'⟩ := R0.slice
 simp only [Value.slice.injEq] at h0'
 obtain ⟨rfl, hM, rfl⟩ := h0'
 replace hM := hide hM
 clear e0 m0 R0
 have KA := hide (palive10_any w)
 go_enter Try.func3, Try.ntmps3
 go_wp2_with fail
 refine KA.out.mono ?_
 rintro e w1 ⟨rfl, b1⟩
 clear KA
 have KN0 := hide (pnew10_any w1)
 dsimp only [tv] at KN0
 have B1 := hide b1
 clear b1
 go_wp2_with fail
 refine KN0.out.mono ?_
 rintro e w2 ⟨rfl, b2⟩
 obtain ⟨W, hW, DW, bW, sW⟩ := boxedN w2 #[.int .i64 0, .int .i64 1, .slice none 0 0] 26
 have HI : Hid (∃ t pv want rs hs, OI w1 W w2.heap.size t pv want rs (.slice none 0 0) hs (.slice none 0 0) 0) :=
  ⟨⟨0, 1, []⟩, .slice none 0 0, [], [], [], ⟨OwnW.nil _ _ _, tprs_new, by decide, (fun x hx => by cases hx), World.ownsRow_nil _ _ _ _, OwnH.nil _ _, rfl, rfl, (fun j r h hr => by cases hr), DW, b2.trans (bW.mono b2.size), b2.size⟩⟩
 clear KN0 b2 DW bW
 go_wp2
 rw [← hW]
 replace hW := hide hW
 obtain ⟨g3, hg⟩ : ∃ g, g = w2.heap.size := ⟨_, rfl⟩
 rw [← hg] at HI ⊢
 clear hg sW
 go_loopw [4, 5, 6] (fun v4 v5 p wr => ∃ (k : Nat) (rv hv : Value), rv = v4 ∧ hv = v5 ∧ k ≤ len0 ∧ k ≤ 60 ∧ p = .int .i64 k ∧ Hid (∃ t pv want rs hs, OI w1 wr g3 t pv want rs rv hs hv k)) (fun _ _ p _ => len0 - (intOf p).toNat)
 case atStart => exact ⟨0, _, _, rfl, rfl, Nat.zero_le _, Nat.zero_le _, rfl, HI⟩
 case round =>
  obtain ⟨k, rv, hv, rfl, rfl, hk, hk4, rfl, hI⟩ := hrel
  clear HI
  obtain ⟨wo, hwo⟩ : ∃ x, x = wr := ⟨_, rfl⟩
  subst hwo
  obtain ⟨t, pv, want, rs, hs, hB⟩ := hI.out
  obtain ⟨pa, pc, hpv⟩ := hB.own.shape
  obtain ⟨pn, hpn⟩ : ∃ n, n = t.pages.length := ⟨_, rfl⟩
  rw [← hpn] at hpv
  subst hpv
  replace hpn := hide hpn
  obtain ⟨root, hrn⟩ : ∃ z, z = t.root := ⟨_, rfl⟩
  obtain ⟨next, hnn⟩ : ∃ z, z = t.next := ⟨_, rfl⟩
  have hTB := hB.tb
  rw [← hrn, ← hnn] at hTB
  replace hrn := hide hrn
  replace hnn := hide hnn
  obtain ⟨⟨A0, A1, A2⟩, AF⟩ := cells3p hTB
  replace hB := hide hB
  have BZ := hide (B1.out.trans (hB.out.bel.mono B1.out.size))
  clear hI hTB
  by_cases hlt : k < len0 ∧ k < 60
  ·obtain ⟨hlt, hlt4⟩ := hlt
   have hq : (k : Int) < (len0 : Int) := by omega
   have hq4 : (k : Int) < 60 := by omega
   have KS := pscan10_any wo t (.slice pa pn pc) [] [] hB.out.own.rd hB.out.rwf
   rw [tscan_is hB.out.prs, pscan_all] at KS
   dsimp only [tv] at KS
   rw [← hrn.out, ← hnn.out] at KS
   replace KS := hide KS
   go_wp2_with fail
   refine KS.out.mono ?_
   rintro e w3 ⟨v3, rfl, o3, b3⟩
   clear KS A0 A1 A2 AF
   have KN := hide (pnum10_any w3 0)
   have hB3 := hide (hB.out.to b3)
   have hTB := hB3.out.tb
   rw [← hrn.out, ← hnn.out] at hTB
   obtain ⟨⟨A0, A1, A2⟩, AF⟩ := cells3p hTB
   obtain ⟨va3, vc3, hv3⟩ := (OwnP.rd o3).slice
   obtain ⟨n3, hn3⟩ : ∃ n, n = want.length := ⟨_, rfl⟩
   rw [← hn3] at hv3
   subst hv3
   replace hn3 := hide hn3
   have O3 := hide o3
   have b3' := hide b3
   clear o3 b3 hTB
   dsimp only
   go_wp2_with fail
   refine KN.out.mono ?_
   rintro e w4 ⟨rfl, rfl⟩
   clear KN
   go_upto_region 12 with fail
   go_cut [4, 5] from 20 to 136 (fun v4 v5 wx => ∃ rv' hv' : Value, rv' = v4 ∧ hv' = v5 ∧ Hid (OI w1 wx g3 t (.slice pa pn pc) want (rs ++ [t.root]) rv' (hs ++ [want]) hv' (k + 1)))
   case first =>
    obtain ⟨X1, hX1, D1, bX1, sX1⟩ := boxedN w3 #[.int .i64 root] 3
    have C1 := cellN D1 (i := 0) rfl
    have OJ := hide (rows_to hB3.out.ro bX1)
    have hl1 : Hid ((rs.length + 1) * 8 ≤ 140737488355328) := by show _ ≤ _; rw [hB.out.l1]; omega
    have hl2 : Hid ((hs.length + 1) * 24 ≤ 140737488355328) := by show _ ≤ _; rw [hB.out.l2]; omega
    have hBX : Hid (w1.heap.size ≤ X1.heap.size) := Nat.le_trans hB3.out.bel.size bX1.size
    have BX1 := hide bX1
    replace C1 := hide C1
    rw [hX1] at C1 OJ hBX
    clear D1 bX1
    have FLAG : True := trivial
    go_wp2_with (at_builtin; first | (clear FLAG; refine wpList_appJ9 rfl _ _ rfl w1.heap.size _ rs root w3.heap.size rfl rfl OJ.out C1.out hl1.out hBX.out ?_; intro v4 w4 o4 b4 k4; rw [← hX1] at b4 k4; replace hX1 := hide hX1; obtain ⟨X2, hX2, D2, bX2, sX2⟩ := boxedN w4 #[.slice va3 n3 vc3] 30; have C2 := cellN D2 (i := 0) rfl; have kk4 : ∀ e, e ≠ 3 → KeepT e w3 X2 := fun e he => ((KeepT.below BX1.out).trans (k4 e he)).trans (KeepT.below bX2); have OH := hide (hB3.out.ha.keep (kk4 _ (by decide)) (kk4 _ (by decide))); have OP := hide (rows_base (rows_keepT O3.out (kk4 _ (by decide))) (fun _ _ => Nat.zero_le _) : OwnP 0 X2 (.slice va3 n3 vc3) want); have O4 := hide (rows_to o4 bX2); have hB4 : w1.heap.size ≤ w4.heap.size := Nat.le_trans (Nat.le_trans hB3.out.bel.size BX1.out.size) b4.size; have hBX2 : Hid (w1.heap.size ≤ X2.heap.size) := Nat.le_trans hB4 bX2.size; have KK4 := hide kk4; have b04 : Below w1.heap.size w1 X2 := (hB3.out.bel.trans (BX1.out.mono hB3.out.bel.size)).trans (b4.trans (bX2.mono hB4)); have B04 := hide b04; replace C2 := hide C2; rw [hX2] at C2 OH OP O4 hBX2; clear D2 bX2 o4 b4 k4 kk4 b04; have FLAG2 : True := trivial) | (clear FLAG2; refine wpList_appH rfl _ _ rfl w1.heap.size _ hs want (.slice va3 n3 vc3) w4.heap.size rfl rfl OH.out OP.out rfl C2.out hl2.out hBX2.out ?_; intro v5 w5 o5 b5 k5; rw [← hX2] at b5 k5; replace hX2 := hide hX2; have hN5 := hide (hB3.out.note (fun e he1 he2 => (KK4.out e he1).trans (k5 e he2)) (B04.out.trans b5) (rows_keepT (by have h9 := O4.out; rw [← hX2.out] at h9; rw [hrn.out] at h9; exact h9) (k5 _ (by decide))) o5); clear o5 b5 k5 OH OP O4 C2 OJ C1))
    go_meet
    case rel => exact ⟨_, _, rfl, rfl, hN5⟩
   case rest =>
    obtain ⟨rv', hv', rfl, rfl, hN5⟩ := hcut
    obtain ⟨w5, hw5⟩ : ∃ x, x = wc := ⟨_, rfl⟩
    subst hw5
    clear A0 A1 A2 AF hB3 O3 b3'
    have h40 := hide hB.out.nxt
    obtain ⟨y, hy⟩ : ∃ y, ls[k]? = some y := ⟨_, List.getElem?_eq_getElem (by rw [← hM.out]; exact hlt)⟩
    have hfy := HF.out y (List.mem_of_getElem? hy)
    obtain ⟨wh, key, val⟩ := y
    have hkl : Hid (key.length ≤ 9223372036854775807) := hfy.2.1
    have hvl : Hid (val.length ≤ 9223372036854775807) := hfy.2.2
    obtain ⟨Y, hY, DY, bY, sY⟩ := boxedN w5 #[.int .i64 root, .int .i64 next, .slice pa pn pc] 26
    have hYb := hN5.out.bel.trans (bY.mono hN5.out.bel.size)
    obtain ⟨sb, so, rfl, s0, s1, s2⟩ := (HR.out.to0 (B1.out.trans (hYb.mono B1.out.size))).spAt hy
    dsimp only at s0 s1 s2
    obtain ⟨sb', so', he', s0', s1', s2'⟩ := (HR.out.to0 (B1.out.trans (hN5.out.bel.mono B1.out.size))).spAt hy
    simp only [Option.some.injEq, Addr.mk.injEq, and_true] at he'
    obtain ⟨rfl, rfl⟩ := he'
    dsimp only at s1' s2'
    have hTB := hN5.out.tb
    rw [← hrn.out, ← hnn.out] at hTB
    obtain ⟨⟨A0, A1, A2⟩, AF⟩ := cells3p hTB
    have HS : Hid (∀ w9, Below w5.heap.size w5 w9 → w9.cell? ⟨g3, 0, none⟩ = some (.int .i64 root) ∧ w9.cell? ⟨g3, 1, none⟩ = some (.int .i64 next) ∧ w9.cell? ⟨g3, 2, none⟩ = some (.slice pa pn pc) ∧ w9.cell? ⟨sb, so + k * 3 + 1, none⟩ = some (st key) ∧ w9.cell? ⟨sb, so + k * 3 + 2, none⟩ = some (st val)) := fun w9 b9 =>
     ⟨(b9.cell (cell_lt A0)).trans A0, (b9.cell (cell_lt A1)).trans A1, (b9.cell (cell_lt A2)).trans A2, (b9.cell (cell_lt s1')).trans s1', (b9.cell (cell_lt s2')).trans s2'⟩
    have BY := hide bY
    have HDY := hide DY
    have s0z := hide s0
    rw [hY] at s0
    have lg9 : Hid (w5.heap.size ≤ w5.heap.size) := Nat.le_refl _
    replace hy := hide hy
    replace hfy := hide hfy
    clear hTB s1 s2 s0' s1' s2' DY bY sY hYb
    by_cases h0 : wh = 0
    ·subst h0
     go_upto_region 15 with fail
     have KU : Hid (∀ w9, Below w5.heap.size w5 w9 → Calls Try.prog 11 #[.agg #[.int .i64 root, .int .i64 next, .slice pa pn pc], st key, st val] w9 fun e w6 => ∃ u ua un9 uc err, e = .returned (.tuple #[.agg #[.int .i64 u.root, .int .i64 u.next, .slice ua un9 uc], .int .i64 err]) ∧ CB w9.heap.size w6 t u (.slice ua un9 uc) err ∧ Below w9.heap.size w9 w6) := fun w9 b9 => by
      have h9 := pput_any w9 t (.slice pa pn pc) key val (hN5.out.to b9).own.rd hN5.out.big hN5.out.rwf hkl.out
      dsimp only [tv] at h9
      rw [← hrn.out, ← hnn.out] at h9
      exact Calls.mono h9 fun e w6 h => by obtain ⟨u, a9, n9, c9, er, q1, q2, q3⟩ := h.to; exact ⟨u, a9, n9, c9, er, q1, PutB.cb q2, q3⟩
     rw [← hY]
     replace hY := hide hY
     go_cut [10] from 20 to 136 (fun ee wx => ∃ (u : Tr) (ua : Option Addr) (un9 uc : Nat) (err : Int), ee = .int .i64 err ∧ Hid (Below w5.heap.size w5 wx ∧ wx.heap[w5.heap.size]? = some (.cells #[.int .i64 u.root, .int .i64 u.next, .slice ua un9 uc] 26 (0, 0)) ∧ CB w5.heap.size wx t u (.slice ua un9 uc) err))
     case first =>
      have b0 : Below w5.heap.size w5 Y.drew := BY.out.trans ((below_drewN' Y 1 _ : Below Y.heap.size Y Y.drew).mono BY.out.size)
      have h9 : Y.drew.heap[w5.heap.size]? = some (.cells #[.int .i64 root, .int .i64 next, .slice pa pn pc] 26 (0, 0)) := ((below_drewN' Y 1 _ : Below Y.heap.size Y Y.drew).block _ (lt_of_block HDY.out)).trans HDY.out
      have lg9 := lg9.out
      refine wp_region_fan (fun w9 => w9.cell? ⟨g3, 0, none⟩ = some (.int .i64 root) ∧ w9.cell? ⟨g3, 1, none⟩ = some (.int .i64 next) ∧ w9.cell? ⟨g3, 2, none⟩ = some (.slice pa pn pc) ∧ w9.cell? ⟨sb, so + k * 3 + 1, none⟩ = some (st key) ∧ w9.cell? ⟨sb, so + k * 3 + 2, none⟩ = some (st val)) 16 mixed (by simp) ?_
      generalize Y.drew = c0 at *
      clear A0 A1 A2 AF s0
      refine fan_take (i := 0) (v := ?_) rfl (by kernel_rfl) (fun _ _ _ _ h => h) (by kernel_rfl) (HS.out _ b0) ?_ ?_
      rotate_left
      ·rintro w9 ⟨t0, t1, t2, t3, t4⟩
       go_simp
       try with_reducible rfl
      try simp only [Act.put, List.setIfInBounds_toArray, List.set_cons_zero, List.set_cons_succ]
      refine fan_take (i := 1) (v := ?_) rfl (by kernel_rfl) (fun _ _ _ _ h => h) (by kernel_rfl) (HS.out _ b0) ?_ ?_
      rotate_left
      ·rintro w9 ⟨t0, t1, t2, t3, t4⟩
       go_simp
       try with_reducible rfl
      try simp only [Act.put, List.setIfInBounds_toArray, List.set_cons_zero, List.set_cons_succ]
      refine fan_take (i := 2) (v := ?_) rfl (by kernel_rfl) (fun _ _ _ _ h => h) (by kernel_rfl) (HS.out _ b0) ?_ ?_
      rotate_left
      ·rintro w9 ⟨t0, t1, t2, t3, t4⟩
       go_simp
       try with_reducible rfl
      try simp only [Act.put, List.setIfInBounds_toArray, List.set_cons_zero, List.set_cons_succ]
      refine fan_take (i := 3) (v := ?_) rfl (by kernel_rfl) (fun _ _ _ _ h => h) (by kernel_rfl) (HS.out _ b0) ?_ ?_
      rotate_left
      ·rintro w9 ⟨t0, t1, t2, t3, t4⟩
       go_simp
       try with_reducible rfl
      try simp only [Act.put, List.setIfInBounds_toArray, List.set_cons_zero, List.set_cons_succ]
      refine fan_take (i := 4) (v := ?_) rfl (by kernel_rfl) (fun _ _ _ _ h => h) (by kernel_rfl) (HS.out _ b0) ?_ ?_
      rotate_left
      ·rintro w9 ⟨t0, t1, t2, t3, t4⟩
       go_simp
       try with_reducible rfl
      try simp only [Act.put, List.setIfInBounds_toArray, List.set_cons_zero, List.set_cons_succ]
      refine fan_take (i := 5) (v := ?_) rfl (by kernel_rfl) (fun _ _ _ _ h => h) (by kernel_rfl) (HS.out _ b0) ?_ ?_
      rotate_left
      ·rintro w9 ⟨t0, t1, t2, t3, t4⟩
       go_simp
       try with_reducible rfl
      try simp only [Act.put, List.setIfInBounds_toArray, List.set_cons_zero, List.set_cons_succ]
      refine fan_take (i := 6) (v := ?_) rfl (by kernel_rfl) (fun _ _ _ _ h => h) (by kernel_rfl) (HS.out _ b0) ?_ ?_
      rotate_left
      ·rintro w9 ⟨t0, t1, t2, t3, t4⟩
       go_simp
       try with_reducible rfl
      try simp only [Act.put, List.setIfInBounds_toArray, List.set_cons_zero, List.set_cons_succ]
      refine fan_take (i := 7) (v := ?_) rfl (by kernel_rfl) (fun _ _ _ _ h => h) (by kernel_rfl) (HS.out _ b0) ?_ ?_
      rotate_left
      ·rintro w9 ⟨t0, t1, t2, t3, t4⟩
       go_simp
       try with_reducible rfl
      try simp only [Act.put, List.setIfInBounds_toArray, List.set_cons_zero, List.set_cons_succ]
      refine fan_take (i := 8) (v := ?_) rfl (by kernel_rfl) (fun _ _ _ _ h => h) (by kernel_rfl) (HS.out _ b0) ?_ ?_
      rotate_left
      ·rintro w9 ⟨t0, t1, t2, t3, t4⟩
       go_simp
       try with_reducible rfl
      try simp only [Act.put, List.setIfInBounds_toArray, List.set_cons_zero, List.set_cons_succ]
      refine fan_take (i := 9) (v := ?_) rfl (by kernel_rfl) (fun _ _ _ _ h => h) (by kernel_rfl) (HS.out _ b0) ?_ ?_
      rotate_left
      ·rintro w9 ⟨t0, t1, t2, t3, t4⟩
       go_simp
       try with_reducible rfl
      try simp only [Act.put, List.setIfInBounds_toArray, List.set_cons_zero, List.set_cons_succ]
      refine fan_take (i := 10) (v := ?_) rfl (by kernel_rfl) (fun _ _ _ _ h => h) (by kernel_rfl) (HS.out _ b0) ?_ ?_
      rotate_left
      ·rintro w9 ⟨t0, t1, t2, t3, t4⟩
       go_simp
       try with_reducible rfl
      try simp only [Act.put, List.setIfInBounds_toArray, List.set_cons_zero, List.set_cons_succ]
      refine fan_one 11 (by kernel_rfl) ?_
      refine fan_step rfl (by kernel_rfl) fun K hK => ?_
      refine wp_call_of 11 _ _ (by rfl) #[.agg #[.int .i64 root, .int .i64 next, .slice pa pn pc], st key, st val] (by simp [Act.eval]) (Try.call11 _ _) (KU.out _ b0) ?_
      rintro e c2 ⟨u, ua, un9, uc, err, rfl, pB, bF⟩
      have b2 := b0.trans (bF.mono b0.size)
      replace pB := CB.base (B := w5.heap.size) pB b0.size
      replace h9 := (bF.block _ (lt_of_block h9)).trans h9
      clear bF
      refine ⟨_, rfl, hK _ _ (HS.out _ b2) ?_⟩
      clear hK K
      try simp only [Act.put, List.setIfInBounds_toArray, List.set_cons_zero, List.set_cons_succ]
      refine fan_take (i := 12) (v := ?_) rfl (by kernel_rfl) (fun _ _ _ _ h => h) (by kernel_rfl) (HS.out _ b2) ?_ ?_
      rotate_left
      ·rintro w9 ⟨t0, t1, t2, t3, t4⟩
       go_simp
       try with_reducible rfl
      try simp only [Act.put, List.setIfInBounds_toArray, List.set_cons_zero, List.set_cons_succ]
      refine fan_take (i := 13) (v := ?_) rfl (by kernel_rfl) (fun _ _ _ _ h => h) (by kernel_rfl) (HS.out _ b2) ?_ ?_
      rotate_left
      ·rintro w9 ⟨t0, t1, t2, t3, t4⟩
       go_simp
       try with_reducible rfl
      try simp only [Act.put, List.setIfInBounds_toArray, List.set_cons_zero, List.set_cons_succ]
      refine fan_take (i := 14) (v := ?_) rfl (by kernel_rfl) (fun _ _ _ _ h => h) (by kernel_rfl) (HS.out _ b2) ?_ ?_
      rotate_left
      ·rintro w9 ⟨t0, t1, t2, t3, t4⟩
       go_simp
       try with_reducible rfl
      try simp only [Act.put, List.setIfInBounds_toArray, List.set_cons_zero, List.set_cons_succ]
      refine fan_one 15 (by kernel_rfl) ?_
      have y9 := cells3p h9
      obtain ⟨⟨y0, y1, y2⟩, yF⟩ := y9
      refine fan_step rfl (by kernel_rfl) fun K hK => ?_
      go_simp
      obtain ⟨d1, hd⟩ : ∃ d, d = ((c2.setCell ⟨w5.heap.size, 0, none⟩ (.int .i64 u.root)).setCell ⟨w5.heap.size, 1, none⟩ (.int .i64 u.next)).setCell ⟨w5.heap.size, 2, none⟩ (.slice ua un9 uc) := ⟨_, rfl⟩
      rw [← hd]
      have e1 : Below w5.heap.size w5 d1 := by rw [hd]; exact below_set3t b2 lg9 _ _ _
      have i9 : d1.heap[w5.heap.size]? = some (.cells #[(.int .i64 u.root), (.int .i64 u.next), (.slice ua un9 uc)] 26 (0, 0)) := by rw [hd]; exact heap_set3t h9 _ _ _
      have kd := fun e (he : e ≠ 26) => s3_keep9 h9 (.int .i64 u.root) (.int .i64 u.next) (.slice ua un9 uc) he
      rw [← hd] at kd
      have pD := CB.keep pB kd
      refine hK _ _ (HS.out _ e1) ?_
      clear hK K y0 y1 y2 yF hd kd
      try simp only [Act.put, List.setIfInBounds_toArray, List.set_cons_zero, List.set_cons_succ]
      refine fan_done (by kernel_rfl) ?_
      show wpList _ _ _ _ _ _
      have FIN := hide (And.intro e1 (And.intro i9 pD))
      clear e1 i9 pD pB h9 b2 b0
      go_wp2_with fail
      go_meet
      case rel => exact ⟨u, _, _, _, err, rfl, FIN⟩
     case rest =>
      obtain ⟨u, ua, un9, uc, err, rfl, hC⟩ := hcut
      have hO := hide (hN5.out.to hC.out.1)
      have KN := hide (pnum10_any wc err)
      clear A0 A1 A2 AF s0
      go_wp2_with fail
      refine KN.out.mono ?_
      rintro e w7 ⟨rfl, rfl⟩
      by_cases herr : err = 0
      ·subst herr
       have hOK : OwnPg w5.heap.size wc (.slice ua un9 uc) u.pages ∧ ∃ ps, Chg t u ps := by
        rcases hC.out.2.2 with q | ⟨_, q⟩
        ·exact absurd rfl q
        ·exact q
       obtain ⟨q3, ps, q5⟩ := hOK
       have hun : un9 = u.pages.length := by
        obtain ⟨x1, x2, x3⟩ := q3.shape
        simp only [Value.slice.injEq] at x3
        exact x3.2.1
       obtain ⟨more, hmo, hmo1, _⟩ := q5.pgs
       have hpl : pn ≤ un9 ∧ un9 ≤ pn + 40 := by rw [hun, hpn.out, hmo, List.length_append]; omega
       have hpb : pn ≤ 65536 := by rw [hpn.out]; have hT := (tprs_num hB.out.prs).1; have := tups_len hT.2.2.1 hT.1; have := hT.2.1; omega
       have hq1 : ¬ (un9 : Int) < (pn : Int) := by omega
       have hwz : wrap64 ((pn : Int) + 40) = (pn : Int) + 40 := by unfold wrap64; omega
       have hq2 : ¬ (un9 : Int) > (pn : Int) + 40 := by omega
       have hd1 : decide (un9 < pn) = false := decide_eq_false (by omega)
       have hd2 : decide ((un9 : Int) < (pn : Int)) = false := decide_eq_false hq1
       have hd3 : decide ((pn : Int) + 40 < (un9 : Int)) = false := decide_eq_false (by omega)
       have hTB := hO.out.tb
       rw [← hrn.out, ← hnn.out] at hTB
       obtain ⟨⟨A0, A1, A2⟩, AF⟩ := cells3p hTB
       obtain ⟨⟨U0, U1, U2⟩, UF⟩ := cells3p hC.out.2.1
       have HP := hide (And.intro q3 (And.intro q5 hmo))
       have HTB := hide hTB
       replace hun := hide hun
       replace hmo := hide hmo
       replace hmo1 := hide hmo1
       have HPL := hide hpl
       clear q3 q5 hpl hTB KN A0 A1 U0 U1
       go_wp2
       try simp only [hd1, hd2, hd3]
       clear A2 AF U2 UF hq1 hq2 hwz hd1 hd2 hd3
       go_loopw [11] (fun p wr => ∃ q : Nat, q ≤ pn ∧ p = .int .i64 q ∧ Hid (Below wc.heap.size wc wr)) (fun p _ => pn - (intOf p).toNat)
       case atStart => exact ⟨0, Nat.zero_le _, rfl, Below.refl _ _⟩
       case round =>
        obtain ⟨q, hqn, rfl, hI⟩ := hrel
        have T3 := (hI.out.block _ (lt_of_block HTB.out)).trans HTB.out
        have T9 := (hI.out.block _ (lt_of_block hC.out.2.1)).trans hC.out.2.1
        obtain ⟨⟨A0, A1, A2⟩, AF⟩ := cells3p T3
        obtain ⟨⟨U0, U1, U2⟩, UF⟩ := cells3p T9
        have HT39 := hide (And.intro T3 T9)
        clear T3 T9
        by_cases hlq : q < pn
        ·have hqq : (q : Int) < (pn : Int) := by omega
         have hqu : (q : Int) < (un9 : Int) := by have := HPL.out; omega
         obtain ⟨y, hy⟩ : ∃ y, t.pages[q]? = some y := ⟨_, List.getElem?_eq_getElem (by rw [← hpn.out]; exact hlq)⟩
         have hy' : u.pages[q]? = some y := by rw [HP.out.2.2, List.getElem?_append_left (by rw [← hpn.out]; exact hlq)]; exact hy
         obtain ⟨b, off, x1, e1, hc1, hc2, hr⟩ := hO.out.own.rd.wrt hy
         obtain ⟨b', off', x2, e1', hc1', hc2', hr'⟩ := HP.out.1.rd.wrt hy'
         subst e1 e1'
         obtain ⟨z, x⟩ := y
         dsimp only at hc1 hc2 hr hc1' hc2' hr'
         obtain ⟨au, cu, rfl⟩ := hr.slice
         obtain ⟨au', cu', rfl⟩ := hr'.slice
         have bd : Below wr.heap.size wr wr.drew := below_drewN' wr 1 _
         have bwd := hI.out.trans (bd.mono hI.out.size)
         have KC := hide (same_any wr.drew _ _ x x (hr'.to bwd) (hr.to bwd))
         rw [sameB_self] at KC
         have d1 := (bwd.cell (cell_lt hc1)).trans hc1
         have d2 := (bwd.cell (cell_lt hc2)).trans hc2
         have d3 := (bwd.cell (cell_lt hc1')).trans hc1'
         have d4 := (bwd.cell (cell_lt hc2')).trans hc2'
         have d5 := (bd.cell (cell_lt A2)).trans A2
         have d6 := (bd.cell (cell_lt U2)).trans U2
         have HB := hide bwd
         obtain ⟨XL, hXL⟩ : ∃ XL, XL = x.length := ⟨_, rfl⟩
         rw [← hXL] at KC d2 d4
         clear hr hr' hc1 hc2 hc1' hc2' bwd bd hI hXL hy hy' A0 A1 U0 U1
         go_upto_region 23 with fail
         clear A2 U2 AF UF
         refine wp_region_mid (fun w9 => w9.cell? ⟨g3, 2, none⟩ = some (.slice (some ⟨b, off, none⟩) pn pc) ∧ w9.cell? ⟨w5.heap.size, 2, none⟩ = some (.slice (some ⟨b', off', none⟩) un9 uc) ∧ w9.cell? ⟨b, off + q * 2, none⟩ = some (.int .i64 z) ∧ w9.cell? ⟨b, off + q * 2 + 1, none⟩ = some (.slice au XL cu) ∧ w9.cell? ⟨b', off' + q * 2, none⟩ = some (.int .i64 z) ∧ w9.cell? ⟨b', off' + q * 2 + 1, none⟩ = some (.slice au' XL cu')) 26 28 mixed (by kernel_rfl) (fun _ _ _ _ h => h) ⟨d5, d6, d1, d2, d3, d4⟩ ?_
         dsimp only [List.take, List.drop]
         iterate 26
          refine take_one (v := ?_) (by rfl) ?_ ?_
          rotate_left
          ·rintro w9 ⟨q5, q6, s1, s2, s3, s4⟩
           go_simp
           try with_reducible rfl
          try simp only [Act.put, List.setIfInBounds_toArray, List.set_cons_zero, List.set_cons_succ]
         refine mid_one fun K hK => ?_
         rw [if_pos (by rfl)]
         refine wp_call_of 13 _ _ (by rfl) #[.slice au' XL cu', .slice au XL cu] (by simp [Act.eval]) (Try.call13 _ _) KC.out ?_
         rintro e w2' ⟨rfl, n2, hw2⟩
         have b2 : Below wr.drew.heap.size wr.drew w2' := by rw [hw2]; exact below_drewN' _ _ _
         have B7 := HB.out.trans (b2.mono HB.out.size)
         have e1 := (b2.cell (cell_lt d1)).trans d1
         have e2 := (b2.cell (cell_lt d2)).trans d2
         have e3 := (b2.cell (cell_lt d3)).trans d3
         have e4 := (b2.cell (cell_lt d4)).trans d4
         have e5 := (b2.cell (cell_lt d5)).trans d5
         have e6 := (b2.cell (cell_lt d6)).trans d6
         clear hw2
         refine ⟨_, rfl, hK _ _ ⟨e5, e6, e1, e2, e3, e4⟩ ?_⟩
         clear hK K
         try simp only [Act.put, List.setIfInBounds_toArray, List.set_cons_zero, List.set_cons_succ]
         refine mid_one fun K hK => ?_
         rw [if_pos (by rfl)]
         go_simp
         refine hK _ _ ⟨e5, e6, e1, e2, e3, e4⟩ ?_
         clear hK K
         have I7 := hide B7
         clear e1 e2 e3 e4 e5 e6 d1 d2 d3 d4 d5 d6 B7 b2 KC HB
         show wpList _ _ _ _ _ _
         go_wp2
         go_roundw
         case rel => exact ⟨q + 1, by omega, by go_num, I7⟩
         case measure => simp [intOf]; omega
        ·have hqq : ¬ (q : Int) < (pn : Int) := by omega
         have hOr := hO.out.to hI.out
         have FIN := hide (hOr.put h40.out HP.out.2.1 (OwnPg.base (HP.out.1.to9 hI.out) hN5.out.bel.size))
         clear hOr
         go_wp2
         go_roundw
         case rel => exact ⟨k + 1, _, _, rfl, rfl, by omega, by omega, by go_num, ⟨u, _, _, _, _, FIN.out⟩⟩
         case measure => simp [intOf]; omega
      ·have hne : (err != 0) = true := by simpa using herr
       replace herr := hide herr
       clear KN
       go_wp2
       go_roundw
       case rel => exact ⟨k + 1, _, _, rfl, rfl, by omega, by omega, by go_num, ⟨t, _, _, _, _, hO.out⟩⟩
       case measure => simp [intOf]; omega
    ·have hq0 : (wh == 0) = false := by simpa using h0
     go_upto_region 16 with fail
     have KU : Hid (∀ w9, Below w5.heap.size w5 w9 → Calls Try.prog 12 #[.agg #[.int .i64 root, .int .i64 next, .slice pa pn pc], st key] w9 fun e w6 => ∃ u ua un9 uc was err, e = .returned (.tuple #[.agg #[.int .i64 u.root, .int .i64 u.next, .slice ua un9 uc], .bool was, .int .i64 err]) ∧ CB w9.heap.size w6 t u (.slice ua un9 uc) err ∧ Below w9.heap.size w9 w6) := fun w9 b9 => by
      have h9 := pdel_any w9 t (.slice pa pn pc) key (hN5.out.to b9).own.rd hN5.out.big hN5.out.rwf hkl.out
      dsimp only [tv] at h9
      rw [← hrn.out, ← hnn.out] at h9
      exact Calls.mono h9 fun e w6 h => by obtain ⟨u, a9, n9, c9, ws, er, q1, q2, q3⟩ := h.to; exact ⟨u, a9, n9, c9, ws, er, q1, DelB.cb q2, q3⟩
     rw [← hY]
     replace hY := hide hY
     go_cut [10] from 20 to 136 (fun ee wx => ∃ (u : Tr) (ua : Option Addr) (un9 uc : Nat) (err : Int), ee = .int .i64 err ∧ Hid (Below w5.heap.size w5 wx ∧ wx.heap[w5.heap.size]? = some (.cells #[.int .i64 u.root, .int .i64 u.next, .slice ua un9 uc] 26 (0, 0)) ∧ CB w5.heap.size wx t u (.slice ua un9 uc) err))
     case first =>
      have b0 : Below w5.heap.size w5 Y.drew := BY.out.trans ((below_drewN' Y 1 _ : Below Y.heap.size Y Y.drew).mono BY.out.size)
      have h9 : Y.drew.heap[w5.heap.size]? = some (.cells #[.int .i64 root, .int .i64 next, .slice pa pn pc] 26 (0, 0)) := ((below_drewN' Y 1 _ : Below Y.heap.size Y Y.drew).block _ (lt_of_block HDY.out)).trans HDY.out
      have lg9 := lg9.out
      refine wp_region_fan (fun w9 => w9.cell? ⟨g3, 0, none⟩ = some (.int .i64 root) ∧ w9.cell? ⟨g3, 1, none⟩ = some (.int .i64 next) ∧ w9.cell? ⟨g3, 2, none⟩ = some (.slice pa pn pc) ∧ w9.cell? ⟨sb, so + k * 3 + 1, none⟩ = some (st key) ∧ w9.cell? ⟨sb, so + k * 3 + 2, none⟩ = some (st val)) 12 mixed (by simp) ?_
      generalize Y.drew = c0 at *
      clear A0 A1 A2 AF s0
      refine fan_take (i := 0) (v := ?_) rfl (by kernel_rfl) (fun _ _ _ _ h => h) (by kernel_rfl) (HS.out _ b0) ?_ ?_
      rotate_left
      ·rintro w9 ⟨t0, t1, t2, t3, t4⟩
       go_simp
       try with_reducible rfl
      try simp only [Act.put, List.setIfInBounds_toArray, List.set_cons_zero, List.set_cons_succ]
      refine fan_take (i := 1) (v := ?_) rfl (by kernel_rfl) (fun _ _ _ _ h => h) (by kernel_rfl) (HS.out _ b0) ?_ ?_
      rotate_left
      ·rintro w9 ⟨t0, t1, t2, t3, t4⟩
       go_simp
       try with_reducible rfl
      try simp only [Act.put, List.setIfInBounds_toArray, List.set_cons_zero, List.set_cons_succ]
      refine fan_take (i := 2) (v := ?_) rfl (by kernel_rfl) (fun _ _ _ _ h => h) (by kernel_rfl) (HS.out _ b0) ?_ ?_
      rotate_left
      ·rintro w9 ⟨t0, t1, t2, t3, t4⟩
       go_simp
       try with_reducible rfl
      try simp only [Act.put, List.setIfInBounds_toArray, List.set_cons_zero, List.set_cons_succ]
      refine fan_take (i := 3) (v := ?_) rfl (by kernel_rfl) (fun _ _ _ _ h => h) (by kernel_rfl) (HS.out _ b0) ?_ ?_
      rotate_left
      ·rintro w9 ⟨t0, t1, t2, t3, t4⟩
       go_simp
       try with_reducible rfl
      try simp only [Act.put, List.setIfInBounds_toArray, List.set_cons_zero, List.set_cons_succ]
      refine fan_take (i := 4) (v := ?_) rfl (by kernel_rfl) (fun _ _ _ _ h => h) (by kernel_rfl) (HS.out _ b0) ?_ ?_
      rotate_left
      ·rintro w9 ⟨t0, t1, t2, t3, t4⟩
       go_simp
       try with_reducible rfl
      try simp only [Act.put, List.setIfInBounds_toArray, List.set_cons_zero, List.set_cons_succ]
      refine fan_take (i := 5) (v := ?_) rfl (by kernel_rfl) (fun _ _ _ _ h => h) (by kernel_rfl) (HS.out _ b0) ?_ ?_
      rotate_left
      ·rintro w9 ⟨t0, t1, t2, t3, t4⟩
       go_simp
       try with_reducible rfl
      try simp only [Act.put, List.setIfInBounds_toArray, List.set_cons_zero, List.set_cons_succ]
      refine fan_one 6 (by kernel_rfl) ?_
      refine fan_step rfl (by kernel_rfl) fun K hK => ?_
      refine wp_call_of 12 _ _ (by rfl) #[.agg #[.int .i64 root, .int .i64 next, .slice pa pn pc], st key] (by simp [Act.eval]) (Try.call12 _ _) (KU.out _ b0) ?_
      rintro e c2 ⟨u, ua, un9, uc, was, err, rfl, pB, bF⟩
      have b2 := b0.trans (bF.mono b0.size)
      replace pB := CB.base (B := w5.heap.size) pB b0.size
      replace h9 := (bF.block _ (lt_of_block h9)).trans h9
      clear bF
      refine ⟨_, rfl, hK _ _ (HS.out _ b2) ?_⟩
      clear hK K
      try simp only [Act.put, List.setIfInBounds_toArray, List.set_cons_zero, List.set_cons_succ]
      refine fan_take (i := 7) (v := ?_) rfl (by kernel_rfl) (fun _ _ _ _ h => h) (by kernel_rfl) (HS.out _ b2) ?_ ?_
      rotate_left
      ·rintro w9 ⟨t0, t1, t2, t3, t4⟩
       go_simp
       try with_reducible rfl
      try simp only [Act.put, List.setIfInBounds_toArray, List.set_cons_zero, List.set_cons_succ]
      refine fan_take (i := 8) (v := ?_) rfl (by kernel_rfl) (fun _ _ _ _ h => h) (by kernel_rfl) (HS.out _ b2) ?_ ?_
      rotate_left
      ·rintro w9 ⟨t0, t1, t2, t3, t4⟩
       go_simp
       try with_reducible rfl
      try simp only [Act.put, List.setIfInBounds_toArray, List.set_cons_zero, List.set_cons_succ]
      refine fan_take (i := 9) (v := ?_) rfl (by kernel_rfl) (fun _ _ _ _ h => h) (by kernel_rfl) (HS.out _ b2) ?_ ?_
      rotate_left
      ·rintro w9 ⟨t0, t1, t2, t3, t4⟩
       go_simp
       try with_reducible rfl
      try simp only [Act.put, List.setIfInBounds_toArray, List.set_cons_zero, List.set_cons_succ]
      refine fan_take (i := 10) (v := ?_) rfl (by kernel_rfl) (fun _ _ _ _ h => h) (by kernel_rfl) (HS.out _ b2) ?_ ?_
      rotate_left
      ·rintro w9 ⟨t0, t1, t2, t3, t4⟩
       go_simp
       try with_reducible rfl
      try simp only [Act.put, List.setIfInBounds_toArray, List.set_cons_zero, List.set_cons_succ]
      refine fan_one 11 (by kernel_rfl) ?_
      have y9 := cells3p h9
      obtain ⟨⟨y0, y1, y2⟩, yF⟩ := y9
      refine fan_step rfl (by kernel_rfl) fun K hK => ?_
      go_simp
      obtain ⟨d1, hd⟩ : ∃ d, d = ((c2.setCell ⟨w5.heap.size, 0, none⟩ (.int .i64 u.root)).setCell ⟨w5.heap.size, 1, none⟩ (.int .i64 u.next)).setCell ⟨w5.heap.size, 2, none⟩ (.slice ua un9 uc) := ⟨_, rfl⟩
      rw [← hd]
      have e1 : Below w5.heap.size w5 d1 := by rw [hd]; exact below_set3t b2 lg9 _ _ _
      have i9 : d1.heap[w5.heap.size]? = some (.cells #[(.int .i64 u.root), (.int .i64 u.next), (.slice ua un9 uc)] 26 (0, 0)) := by rw [hd]; exact heap_set3t h9 _ _ _
      have kd := fun e (he : e ≠ 26) => s3_keep9 h9 (.int .i64 u.root) (.int .i64 u.next) (.slice ua un9 uc) he
      rw [← hd] at kd
      have pD := CB.keep pB kd
      refine hK _ _ (HS.out _ e1) ?_
      clear hK K y0 y1 y2 yF hd kd
      try simp only [Act.put, List.setIfInBounds_toArray, List.set_cons_zero, List.set_cons_succ]
      refine fan_done (by kernel_rfl) ?_
      show wpList _ _ _ _ _ _
      have FIN := hide (And.intro e1 (And.intro i9 pD))
      clear e1 i9 pD pB h9 b2 b0
      go_wp2_with fail
      go_meet
      case rel => exact ⟨u, _, _, _, err, rfl, FIN⟩
     case rest =>
      obtain ⟨u, ua, un9, uc, err, rfl, hC⟩ := hcut
      have hO := hide (hN5.out.to hC.out.1)
      have KN := hide (pnum10_any wc err)
      clear A0 A1 A2 AF s0
      go_wp2_with fail
      refine KN.out.mono ?_
      rintro e w7 ⟨rfl, rfl⟩
      by_cases herr : err = 0
      ·subst herr
       have hOK : OwnPg w5.heap.size wc (.slice ua un9 uc) u.pages ∧ ∃ ps, Chg t u ps := by
        rcases hC.out.2.2 with q | ⟨_, q⟩
        ·exact absurd rfl q
        ·exact q
       obtain ⟨q3, ps, q5⟩ := hOK
       have hun : un9 = u.pages.length := by
        obtain ⟨x1, x2, x3⟩ := q3.shape
        simp only [Value.slice.injEq] at x3
        exact x3.2.1
       obtain ⟨more, hmo, hmo1, _⟩ := q5.pgs
       have hpl : pn ≤ un9 ∧ un9 ≤ pn + 40 := by rw [hun, hpn.out, hmo, List.length_append]; omega
       have hpb : pn ≤ 65536 := by rw [hpn.out]; have hT := (tprs_num hB.out.prs).1; have := tups_len hT.2.2.1 hT.1; have := hT.2.1; omega
       have hq1 : ¬ (un9 : Int) < (pn : Int) := by omega
       have hwz : wrap64 ((pn : Int) + 40) = (pn : Int) + 40 := by unfold wrap64; omega
       have hq2 : ¬ (un9 : Int) > (pn : Int) + 40 := by omega
       have hd1 : decide (un9 < pn) = false := decide_eq_false (by omega)
       have hd2 : decide ((un9 : Int) < (pn : Int)) = false := decide_eq_false hq1
       have hd3 : decide ((pn : Int) + 40 < (un9 : Int)) = false := decide_eq_false (by omega)
       have hTB := hO.out.tb
       rw [← hrn.out, ← hnn.out] at hTB
       obtain ⟨⟨A0, A1, A2⟩, AF⟩ := cells3p hTB
       obtain ⟨⟨U0, U1, U2⟩, UF⟩ := cells3p hC.out.2.1
       have HP := hide (And.intro q3 (And.intro q5 hmo))
       have HTB := hide hTB
       replace hun := hide hun
       replace hmo := hide hmo
       replace hmo1 := hide hmo1
       have HPL := hide hpl
       clear q3 q5 hpl hTB KN A0 A1 U0 U1
       go_wp2
       try simp only [hd1, hd2, hd3]
       clear A2 AF U2 UF hq1 hq2 hwz hd1 hd2 hd3
       go_loopw [11] (fun p wr => ∃ q : Nat, q ≤ pn ∧ p = .int .i64 q ∧ Hid (Below wc.heap.size wc wr)) (fun p _ => pn - (intOf p).toNat)
       case atStart => exact ⟨0, Nat.zero_le _, rfl, Below.refl _ _⟩
       case round =>
        obtain ⟨q, hqn, rfl, hI⟩ := hrel
        have T3 := (hI.out.block _ (lt_of_block HTB.out)).trans HTB.out
        have T9 := (hI.out.block _ (lt_of_block hC.out.2.1)).trans hC.out.2.1
        obtain ⟨⟨A0, A1, A2⟩, AF⟩ := cells3p T3
        obtain ⟨⟨U0, U1, U2⟩, UF⟩ := cells3p T9
        have HT39 := hide (And.intro T3 T9)
        clear T3 T9
        by_cases hlq : q < pn
        ·have hqq : (q : Int) < (pn : Int) := by omega
         have hqu : (q : Int) < (un9 : Int) := by have := HPL.out; omega
         obtain ⟨y, hy⟩ : ∃ y, t.pages[q]? = some y := ⟨_, List.getElem?_eq_getElem (by rw [← hpn.out]; exact hlq)⟩
         have hy' : u.pages[q]? = some y := by rw [HP.out.2.2, List.getElem?_append_left (by rw [← hpn.out]; exact hlq)]; exact hy
         obtain ⟨b, off, x1, e1, hc1, hc2, hr⟩ := hO.out.own.rd.wrt hy
         obtain ⟨b', off', x2, e1', hc1', hc2', hr'⟩ := HP.out.1.rd.wrt hy'
         subst e1 e1'
         obtain ⟨z, x⟩ := y
         dsimp only at hc1 hc2 hr hc1' hc2' hr'
         obtain ⟨au, cu, rfl⟩ := hr.slice
         obtain ⟨au', cu', rfl⟩ := hr'.slice
         have bd : Below wr.heap.size wr wr.drew := below_drewN' wr 1 _
         have bwd := hI.out.trans (bd.mono hI.out.size)
         have KC := hide (same_any wr.drew _ _ x x (hr'.to bwd) (hr.to bwd))
         rw [sameB_self] at KC
         have d1 := (bwd.cell (cell_lt hc1)).trans hc1
         have d2 := (bwd.cell (cell_lt hc2)).trans hc2
         have d3 := (bwd.cell (cell_lt hc1')).trans hc1'
         have d4 := (bwd.cell (cell_lt hc2')).trans hc2'
         have d5 := (bd.cell (cell_lt A2)).trans A2
         have d6 := (bd.cell (cell_lt U2)).trans U2
         have HB := hide bwd
         obtain ⟨XL, hXL⟩ : ∃ XL, XL = x.length := ⟨_, rfl⟩
         rw [← hXL] at KC d2 d4
         clear hr hr' hc1 hc2 hc1' hc2' bwd bd hI hXL hy hy' A0 A1 U0 U1
         go_upto_region 23 with fail
         clear A2 U2 AF UF
         refine wp_region_mid (fun w9 => w9.cell? ⟨g3, 2, none⟩ = some (.slice (some ⟨b, off, none⟩) pn pc) ∧ w9.cell? ⟨w5.heap.size, 2, none⟩ = some (.slice (some ⟨b', off', none⟩) un9 uc) ∧ w9.cell? ⟨b, off + q * 2, none⟩ = some (.int .i64 z) ∧ w9.cell? ⟨b, off + q * 2 + 1, none⟩ = some (.slice au XL cu) ∧ w9.cell? ⟨b', off' + q * 2, none⟩ = some (.int .i64 z) ∧ w9.cell? ⟨b', off' + q * 2 + 1, none⟩ = some (.slice au' XL cu')) 26 28 mixed (by kernel_rfl) (fun _ _ _ _ h => h) ⟨d5, d6, d1, d2, d3, d4⟩ ?_
         dsimp only [List.take, List.drop]
         iterate 26
          refine take_one (v := ?_) (by rfl) ?_ ?_
          rotate_left
          ·rintro w9 ⟨q5, q6, s1, s2, s3, s4⟩
           go_simp
           try with_reducible rfl
          try simp only [Act.put, List.setIfInBounds_toArray, List.set_cons_zero, List.set_cons_succ]
         refine mid_one fun K hK => ?_
         rw [if_pos (by rfl)]
         refine wp_call_of 13 _ _ (by rfl) #[.slice au' XL cu', .slice au XL cu] (by simp [Act.eval]) (Try.call13 _ _) KC.out ?_
         rintro e w2' ⟨rfl, n2, hw2⟩
         have b2 : Below wr.drew.heap.size wr.drew w2' := by rw [hw2]; exact below_drewN' _ _ _
         have B7 := HB.out.trans (b2.mono HB.out.size)
         have e1 := (b2.cell (cell_lt d1)).trans d1
         have e2 := (b2.cell (cell_lt d2)).trans d2
         have e3 := (b2.cell (cell_lt d3)).trans d3
         have e4 := (b2.cell (cell_lt d4)).trans d4
         have e5 := (b2.cell (cell_lt d5)).trans d5
         have e6 := (b2.cell (cell_lt d6)).trans d6
         clear hw2
         refine ⟨_, rfl, hK _ _ ⟨e5, e6, e1, e2, e3, e4⟩ ?_⟩
         clear hK K
         try simp only [Act.put, List.setIfInBounds_toArray, List.set_cons_zero, List.set_cons_succ]
         refine mid_one fun K hK => ?_
         rw [if_pos (by rfl)]
         go_simp
         refine hK _ _ ⟨e5, e6, e1, e2, e3, e4⟩ ?_
         clear hK K
         have I7 := hide B7
         clear e1 e2 e3 e4 e5 e6 d1 d2 d3 d4 d5 d6 B7 b2 KC HB
         show wpList _ _ _ _ _ _
         go_wp2
         go_roundw
         case rel => exact ⟨q + 1, by omega, by go_num, I7⟩
         case measure => simp [intOf]; omega
        ·have hqq : ¬ (q : Int) < (pn : Int) := by omega
         have hOr := hO.out.to hI.out
         have FIN := hide (hOr.put h40.out HP.out.2.1 (OwnPg.base (HP.out.1.to9 hI.out) hN5.out.bel.size))
         clear hOr
         go_wp2
         go_roundw
         case rel => exact ⟨k + 1, _, _, rfl, rfl, by omega, by omega, by go_num, ⟨u, _, _, _, _, FIN.out⟩⟩
         case measure => simp [intOf]; omega
      ·have hne : (err != 0) = true := by simpa using herr
       replace herr := hide herr
       clear KN
       go_wp2
       go_roundw
       case rel => exact ⟨k + 1, _, _, rfl, rfl, by omega, by omega, by go_num, ⟨t, _, _, _, _, hO.out⟩⟩
       case measure => simp [intOf]; omega
  ·have hz : ¬ k < len0 ∨ (k < len0 ∧ ¬ k < 60) := by omega
   obtain ⟨ra, rc, hrv⟩ := (OwnJ.rd hB.out.ro).slice
   obtain ⟨ha9, hc9, hhv⟩ := hB.out.ha.shape
   rw [hB.out.l1] at hrv
   rw [hB.out.l2] at hhv
   subst hrv hhv
   go_upto_region 7 with fail
   go_cut [27] from 20 to 136 (fun s wx => s = .bool false ∧ wo = wx)
   case first =>
    rcases hz with hz | ⟨hz, hz4⟩
    ·have hq : ¬ (k : Int) < (len0 : Int) := by omega
     go_wp2_with fail
     go_meet
     case rel => exact ⟨rfl, rfl⟩
    ·have hq : (k : Int) < (len0 : Int) := by omega
     have hq4 : ¬ (k : Int) < 60 := by omega
     go_wp2_with fail
     go_meet
     case rel => exact ⟨rfl, rfl⟩
   case rest =>
    obtain ⟨rfl, rfl⟩ := hcut
    replace hz := hide hz
    clear A0 A1 A2 AF
    go_wp2
    go_loopw [12] (fun p wr => ∃ q : Nat, q ≤ k ∧ p = .int .i64 q ∧ Hid (Below wo.heap.size wo wr)) (fun p _ => k - (intOf p).toNat)
    case atStart => exact ⟨0, Nat.zero_le _, rfl, Below.refl _ _⟩
    case round =>
     obtain ⟨q, hqk, rfl, hJ⟩ := hrel
     have hBr := hide (hB.out.to hJ.out)
     have BZr := hide (BZ.out.trans (hJ.out.mono BZ.out.size))
     by_cases hlq : q < k
     ·have hqq : (q : Int) < (k : Int) := by omega
      obtain ⟨r, hr⟩ : ∃ y, rs[q]? = some y := ⟨_, List.getElem?_eq_getElem (by rw [hB.out.l1]; exact hlq)⟩
      obtain ⟨hh, hhh⟩ : ∃ y, hs[q]? = some y := ⟨_, List.getElem?_eq_getElem (by rw [hB.out.l2]; exact hlq)⟩
      have hold := hide (hB.out.old q r hh hr hhh)
      obtain ⟨rb, ro9, hra, cr⟩ := (OwnJ.rd hBr.out.ro).intAt hr
      subst hra
      obtain ⟨hb9, sv, hha, ch, _⟩ := hBr.out.ha.at hhh
      subst hha
      have hTB := hBr.out.tb
      rw [← hrn.out, ← hnn.out] at hTB
      obtain ⟨⟨A0, A1, A2⟩, AF⟩ := cells3p hTB
      have HS : Hid (∀ w9, Below wr.heap.size wr w9 → w9.cell? ⟨g3, 0, none⟩ = some (.int .i64 root) ∧ w9.cell? ⟨g3, 1, none⟩ = some (.int .i64 next) ∧ w9.cell? ⟨g3, 2, none⟩ = some (.slice pa pn pc) ∧ w9.cell? ⟨rb, ro9 + q, none⟩ = some (.int .i64 r)) := fun w9 b9 =>
       ⟨(b9.cell (cell_lt A0)).trans A0, (b9.cell (cell_lt A1)).trans A1, (b9.cell (cell_lt A2)).trans A2, (b9.cell (cell_lt cr)).trans cr⟩
      have KT : Hid (∀ w9, Below wr.heap.size wr w9 → Calls Try.prog 14 #[.agg #[.int .i64 root, .int .i64 next, .slice pa pn pc], .int .i64 r] w9 fun e w6 => ∃ ua uc, e = .returned (.tuple #[.agg #[.int .i64 r, .int .i64 next, .slice ua pn uc], .int .i64 0]) ∧ OwnPg w9.heap.size w6 (.slice ua pn uc) t.pages ∧ Below w9.heap.size w9 w6) := fun w9 b9 => by
       have h9 := pat_any w9 t (.slice pa pn pc) r (hBr.out.to b9).own.rd hB.out.big hB.out.rwf (tprs_num hold.out).1.rwf
       dsimp only [tv] at h9
       rw [← hrn.out, ← hnn.out] at h9
       refine Calls.mono h9 ?_
       rintro e w6 (⟨_, pv6, rfl, o6, b6⟩ | ⟨q0, _⟩)
       ·obtain ⟨a6, c6, h6⟩ := o6.shape
        rw [← hpn.out] at h6
        subst h6
        exact ⟨a6, c6, by rw [hnn.out], o6, b6⟩
       ·exact absurd (tatE_old hB.out.prs hold.out) q0
      have HR2 := hide (And.intro hr hhh)
      clear hr hhh hTB
      go_upto_region 29 with fail
      go_cut [13, 14] from 137 to 171 (fun pp ee wx => ∃ (g7 : Nat) (ua : Option Addr) (uc : Nat), pp = .pointer (some ⟨g7, 0, none⟩) ∧ ee = .int .i64 0 ∧ Hid (Below wr.heap.size wr wx ∧ wx.heap[g7]? = some (.cells #[.int .i64 r, .int .i64 next, .slice ua pn uc] 26 (0, 0)) ∧ OwnPg wr.heap.size wx (.slice ua pn uc) t.pages ∧ wr.heap.size ≤ g7))
      case first =>
       have b0 : Below wr.heap.size wr wr.drew := (Below.refl _ _).drew
       refine wp_region_fan (fun w9 => w9.cell? ⟨g3, 0, none⟩ = some (.int .i64 root) ∧ w9.cell? ⟨g3, 1, none⟩ = some (.int .i64 next) ∧ w9.cell? ⟨g3, 2, none⟩ = some (.slice pa pn pc) ∧ w9.cell? ⟨rb, ro9 + q, none⟩ = some (.int .i64 r)) 11 mixed (by simp) ?_
       generalize wr.drew = c0 at *
       clear A0 A1 A2 AF cr ch
       refine fan_take (i := 0) (v := ?_) rfl (by kernel_rfl) (fun _ _ _ _ h => h) (by kernel_rfl) (HS.out _ b0) ?_ ?_
       rotate_left
       ·rintro w9 ⟨t0, t1, t2, t3⟩
        go_simp
        try with_reducible rfl
       try simp only [Act.put, List.setIfInBounds_toArray, List.set_cons_zero, List.set_cons_succ]
       refine fan_take (i := 1) (v := ?_) rfl (by kernel_rfl) (fun _ _ _ _ h => h) (by kernel_rfl) (HS.out _ b0) ?_ ?_
       rotate_left
       ·rintro w9 ⟨t0, t1, t2, t3⟩
        go_simp
        try with_reducible rfl
       try simp only [Act.put, List.setIfInBounds_toArray, List.set_cons_zero, List.set_cons_succ]
       refine fan_take (i := 2) (v := ?_) rfl (by kernel_rfl) (fun _ _ _ _ h => h) (by kernel_rfl) (HS.out _ b0) ?_ ?_
       rotate_left
       ·rintro w9 ⟨t0, t1, t2, t3⟩
        go_simp
        try with_reducible rfl
       try simp only [Act.put, List.setIfInBounds_toArray, List.set_cons_zero, List.set_cons_succ]
       refine fan_take (i := 3) (v := ?_) rfl (by kernel_rfl) (fun _ _ _ _ h => h) (by kernel_rfl) (HS.out _ b0) ?_ ?_
       rotate_left
       ·rintro w9 ⟨t0, t1, t2, t3⟩
        go_simp
        try with_reducible rfl
       try simp only [Act.put, List.setIfInBounds_toArray, List.set_cons_zero, List.set_cons_succ]
       refine fan_take (i := 4) (v := ?_) rfl (by kernel_rfl) (fun _ _ _ _ h => h) (by kernel_rfl) (HS.out _ b0) ?_ ?_
       rotate_left
       ·rintro w9 ⟨t0, t1, t2, t3⟩
        go_simp
        try with_reducible rfl
       try simp only [Act.put, List.setIfInBounds_toArray, List.set_cons_zero, List.set_cons_succ]
       refine fan_two 5 9 (by kernel_rfl) ?_ ?_
       ·
        refine fan_step rfl (by kernel_rfl) fun K hK => ?_
        refine wp_call_of 14 _ _ (by rfl) #[.agg #[.int .i64 root, .int .i64 next, .slice pa pn pc], .int .i64 r] (by simp [Act.eval]) (Try.call14 _ _) (KT.out _ b0) ?_
        rintro e c2 ⟨ua, uc, rfl, pB, bF⟩
        have b2 := b0.trans (bF.mono b0.size)
        replace pB := OwnPg.base pB b0.size
        clear bF
        refine ⟨_, rfl, hK _ _ (HS.out _ b2) ?_⟩
        clear hK K
        try simp only [Act.put, List.setIfInBounds_toArray, List.set_cons_zero, List.set_cons_succ]
        refine fan_take (i := 6) (v := ?_) rfl (by kernel_rfl) (fun _ _ _ _ h => h) (by kernel_rfl) (HS.out _ b2) ?_ ?_
        rotate_left
        ·rintro w9 ⟨t0, t1, t2, t3⟩
         go_simp
         try with_reducible rfl
        try simp only [Act.put, List.setIfInBounds_toArray, List.set_cons_zero, List.set_cons_succ]
        refine fan_take (i := 7) (v := ?_) rfl (by kernel_rfl) (fun _ _ _ _ h => h) (by kernel_rfl) (HS.out _ b2) ?_ ?_
        rotate_left
        ·rintro w9 ⟨t0, t1, t2, t3⟩
         go_simp
         try with_reducible rfl
        try simp only [Act.put, List.setIfInBounds_toArray, List.set_cons_zero, List.set_cons_succ]
        refine fan_take (i := 8) (v := ?_) rfl (by kernel_rfl) (fun _ _ _ _ h => h) (by kernel_rfl) (HS.out _ b2) ?_ ?_
        rotate_left
        ·rintro w9 ⟨t0, t1, t2, t3⟩
         go_simp
         try with_reducible rfl
        try simp only [Act.put, List.setIfInBounds_toArray, List.set_cons_zero, List.set_cons_succ]
        refine fan_one 9 (by kernel_rfl) ?_
        refine fan_step rfl (by kernel_rfl) fun K hK => ?_
        go_simp
        obtain ⟨c3, hc, h7, bc, sc⟩ := boxedN c2 #[.int .i64 0, .int .i64 0, .slice none 0 0] 26
        rw [← hc]
        have b3 := b2.trans (bc.mono b2.size)
        obtain ⟨g7, hg⟩ : ∃ g, g = c2.heap.size := ⟨_, rfl⟩
        rw [← hg] at h7
        rw [← hg]
        have lg7 : wr.heap.size ≤ g7 := by have := b2.size; omega
        replace pB := pB.to9 bc
        refine hK _ _ (HS.out _ b3) ?_
        clear hK K hc bc sc hg
        try simp only [Act.put, List.setIfInBounds_toArray, List.set_cons_zero, List.set_cons_succ]
        refine fan_one 10 (by kernel_rfl) ?_
        obtain ⟨⟨y0, y1, y2⟩, yF⟩ := cells3p h7
        refine fan_step rfl (by kernel_rfl) fun K hK => ?_
        go_simp
        obtain ⟨d1, hd⟩ : ∃ d, d = ((c3.setCell ⟨g7, 0, none⟩ (.int .i64 r)).setCell ⟨g7, 1, none⟩ (.int .i64 next)).setCell ⟨g7, 2, none⟩ (.slice ua pn uc) := ⟨_, rfl⟩
        rw [← hd]
        have e1 : Below wr.heap.size wr d1 := by rw [hd]; exact below_set3t b3 lg7 _ _ _
        have i7 : d1.heap[g7]? = some (.cells #[(.int .i64 r), (.int .i64 next), (.slice ua pn uc)] 26 (0, 0)) := by rw [hd]; exact heap_set3t h7 _ _ _
        have kd := fun e (he : e ≠ 26) => s3_keep9 h7 (.int .i64 r) (.int .i64 next) (.slice ua pn uc) he
        rw [← hd] at kd
        have pD := OwnW.keepT pB (kd _ (by decide)) (kd _ (by decide))
        refine hK _ _ (HS.out _ e1) ?_
        clear hK K y0 y1 y2 yF hd kd
        try simp only [Act.put, List.setIfInBounds_toArray, List.set_cons_zero, List.set_cons_succ]
        refine fan_done (by kernel_rfl) ?_
        show wpList _ _ _ _ _ _
        have FIN := hide (And.intro e1 (And.intro i7 (And.intro pD lg7)))
        clear e1 i7 pD pB lg7 h7
        go_wp2_with fail
        go_meet
        exact ⟨g7, _, _, rfl, rfl, FIN⟩
       ·
        refine fan_step rfl (by kernel_rfl) fun K hK => ?_
        go_simp
        obtain ⟨c2, hc, h7, bc, sc⟩ := boxedN c0 #[.int .i64 0, .int .i64 0, .slice none 0 0] 26
        rw [← hc]
        have b2 := b0.trans (bc.mono b0.size)
        obtain ⟨g7, hg⟩ : ∃ g, g = c0.heap.size := ⟨_, rfl⟩
        rw [← hg] at h7
        rw [← hg]
        have lg7 : wr.heap.size ≤ g7 := by have := b0.size; omega
        refine hK _ _ (HS.out _ b2) ?_
        clear hK K hc bc sc hg
        try simp only [Act.put, List.setIfInBounds_toArray, List.set_cons_zero, List.set_cons_succ]
        refine fan_one 5 (by kernel_rfl) ?_
        refine fan_step rfl (by kernel_rfl) fun K hK => ?_
        refine wp_call_of 14 _ _ (by rfl) #[.agg #[.int .i64 root, .int .i64 next, .slice pa pn pc], .int .i64 r] (by simp [Act.eval]) (Try.call14 _ _) (KT.out _ b2) ?_
        rintro e c3 ⟨ua, uc, rfl, pB, bF⟩
        have b3 := b2.trans (bF.mono b2.size)
        replace pB := OwnPg.base pB b2.size
        replace h7 := (bF.block _ (lt_of_block h7)).trans h7
        clear bF
        refine ⟨_, rfl, hK _ _ (HS.out _ b3) ?_⟩
        clear hK K
        try simp only [Act.put, List.setIfInBounds_toArray, List.set_cons_zero, List.set_cons_succ]
        refine fan_take (i := 6) (v := ?_) rfl (by kernel_rfl) (fun _ _ _ _ h => h) (by kernel_rfl) (HS.out _ b3) ?_ ?_
        rotate_left
        ·rintro w9 ⟨t0, t1, t2, t3⟩
         go_simp
         try with_reducible rfl
        try simp only [Act.put, List.setIfInBounds_toArray, List.set_cons_zero, List.set_cons_succ]
        refine fan_take (i := 7) (v := ?_) rfl (by kernel_rfl) (fun _ _ _ _ h => h) (by kernel_rfl) (HS.out _ b3) ?_ ?_
        rotate_left
        ·rintro w9 ⟨t0, t1, t2, t3⟩
         go_simp
         try with_reducible rfl
        try simp only [Act.put, List.setIfInBounds_toArray, List.set_cons_zero, List.set_cons_succ]
        refine fan_take (i := 8) (v := ?_) rfl (by kernel_rfl) (fun _ _ _ _ h => h) (by kernel_rfl) (HS.out _ b3) ?_ ?_
        rotate_left
        ·rintro w9 ⟨t0, t1, t2, t3⟩
         go_simp
         try with_reducible rfl
        try simp only [Act.put, List.setIfInBounds_toArray, List.set_cons_zero, List.set_cons_succ]
        refine fan_one 10 (by kernel_rfl) ?_
        obtain ⟨⟨y0, y1, y2⟩, yF⟩ := cells3p h7
        refine fan_step rfl (by kernel_rfl) fun K hK => ?_
        go_simp
        obtain ⟨d1, hd⟩ : ∃ d, d = ((c3.setCell ⟨g7, 0, none⟩ (.int .i64 r)).setCell ⟨g7, 1, none⟩ (.int .i64 next)).setCell ⟨g7, 2, none⟩ (.slice ua pn uc) := ⟨_, rfl⟩
        rw [← hd]
        have e1 : Below wr.heap.size wr d1 := by rw [hd]; exact below_set3t b3 lg7 _ _ _
        have i7 : d1.heap[g7]? = some (.cells #[(.int .i64 r), (.int .i64 next), (.slice ua pn uc)] 26 (0, 0)) := by rw [hd]; exact heap_set3t h7 _ _ _
        have kd := fun e (he : e ≠ 26) => s3_keep9 h7 (.int .i64 r) (.int .i64 next) (.slice ua pn uc) he
        rw [← hd] at kd
        have pD := OwnW.keepT pB (kd _ (by decide)) (kd _ (by decide))
        refine hK _ _ (HS.out _ e1) ?_
        clear hK K y0 y1 y2 yF hd kd
        try simp only [Act.put, List.setIfInBounds_toArray, List.set_cons_zero, List.set_cons_succ]
        refine fan_done (by kernel_rfl) ?_
        show wpList _ _ _ _ _ _
        have FIN := hide (And.intro e1 (And.intro i7 (And.intro pD lg7)))
        clear e1 i7 pD pB lg7 h7
        go_wp2_with fail
        go_meet
        exact ⟨g7, _, _, rfl, rfl, FIN⟩
      case rest =>
       obtain ⟨g7, ua, uc, rfl, rfl, hC⟩ := hcut
       have KS := pscan10_any wc ⟨r, t.next, t.pages⟩ (.slice ua pn uc) [] [] hC.out.2.2.1.rd (tprs_num hold.out).1.rwf
       rw [tscan_is hold.out, pscan_all] at KS
       dsimp only [tv] at KS
       rw [← hnn.out] at KS
       replace KS := hide KS
       clear A0 A1 A2 AF cr ch
       obtain ⟨⟨U0, U1, U2⟩, UF⟩ := cells3p hC.out.2.1
       go_wp2_with fail
       refine KS.out.mono ?_
       rintro e w6 ⟨v6, rfl, o6, b6⟩
       have bC6 := hC.out.1.trans (b6.mono hC.out.1.size)
       have hB6 := hBr.out.to bC6
       obtain ⟨hb8, sv8, hha, ch, oh⟩ := hB6.ha.at HR2.out.2
       simp only [Option.some.injEq, Addr.mk.injEq, and_true] at hha
       subst hha
       have KN := hide (pnum10_any w6 0)
       have KE := hide (samep_any w6 _ _ _ _ (OwnP.rd o6) (OwnP.rd oh))
       rw [decide_eq_true rfl] at KE
       obtain ⟨va6, vc6, hv6⟩ := (OwnP.rd o6).slice
       obtain ⟨n6, hn6⟩ : ∃ n, n = hh.length := ⟨_, rfl⟩
       rw [← hn6] at hv6
       subst hv6
       replace hn6 := hide hn6
       have B6 := hide (hJ.out.trans (bC6.mono hJ.out.size))
       clear o6 b6 bC6 hB6 oh KS U0 U1 U2 UF
       dsimp only
       go_wp2_with fail
       refine KN.out.mono ?_
       rintro e w7 ⟨rfl, rfl⟩
       go_wp2_with fail
       refine KN.out.mono ?_
       rintro e w7 ⟨rfl, rfl⟩
       go_wp2_with fail
       refine KE.out.mono ?_
       rintro e w7 ⟨rfl, b7⟩
       have FIN := hide (B6.out.trans (b7.mono B6.out.size))
       clear KN KE b7 ch
       go_wp2
       go_roundw
       case rel => exact ⟨q + 1, by omega, by go_num, FIN⟩
       case measure => simp [intOf]; omega
     ·have hqq : ¬ (q : Int) < (k : Int) := by omega
      go_wp2
      go_ret
      exact ⟨rfl, BZr.out⟩
set_option maxRecDepth 100000 in
theorem lifted (os : Os) (started : os.Started) (H : Type) (enc : TypeId × Value → H) :
  ReturnsInHanded {} Try.checked os 3 .any (Rows.treeOldRootsSpec.pre6 enc Try.prog Try.f3 Rows.treeOldRootsRow.domain false) (Rows.treeOldRootsSpec.post enc Try.prog Try.f3 false true false false) := by
 refine returnsInHanded_of_change_sized (C := Try.checked) own started (by kernel_rfl) Try.func3
  (ChangeSpec.witness6 (enc := enc) (C := Try.checked) false ⟨#[], #[.slice none 0 0], []⟩ 8 (by kernel_rfl) (by kernel_rfl) (by kernel_rfl) (by kernel_rfl)) ?_
 intro W base args ds gs before hval0 hW hcnd hsz0 _
 have hsz : (DataW.weightsEach Try.prog (Try.f3.params.toList ++ Rows.treeOldRootsSpec.plain.varTypes Try.prog) (ds ++ gs)).all (· ≤ reachBytes) = true := hsz0
 have hval : ∀ (j : Nat) t v, Try.f3.params[j]? = some t → args[j]? = some v → Value.okWide Try.prog W .any base t v := hval0
 have hW' := hW
 obtain ⟨p, q, hA0, hV, rfl, hfz, hnd⟩ := hW
 have hA : DataW.TrodAll enc Try.prog W 0 (fun _ => true) true Try.f3.params.toList args.toList ds p := hA0
 rw [Try.params3] at hA hval hsz
 obtain ⟨v0, vs0, d0, ds0, p0, q0, hargs, rfl, rfl, h0, r0⟩ := trodAll_cons hA
 obtain ⟨rfl, rfl, rfl⟩ := trodAll_nil r0
 obtain rfl : args = #[v0] := by cases args; simp_all
 obtain ⟨rfl, rfl⟩ := trodVars_none hV
 obtain ⟨a0, len0, cap0, rfl⟩ := okWide_slice Try.underlying22 (hval 0 22 v0 rfl rfl)
 have lt0 : ∀ x ∈ p0, x.block < W.heap.size := by obtain ⟨m, hm⟩ := h0; exact DataW.trod_lt m _ _ _ hm
 have hh0 := h0
 obtain ⟨fu0, hf0⟩ := hh0
 obtain ⟨x0, g0, f0, b0⟩ := open_steps10.opened hf0
 have m0 := f0 (reach_of hsz (j := 0) rfl rfl)
 clear hA0 hval0 hsz0 hsz
 refine (walk W a0 len0 cap0 x0 g0 m0).mono fun e W' ⟨he, bel⟩ => ?_
 subst he
 exact ⟨_, rfl, _, _, _, [], _, [], hW', trodAll_mk1 (shut_bool Try.underlying4 _), (trodAll_cons_mk (Below.trod laidOut (by kernel_rfl) (of_decide_eq_true (by kernel_rfl)) h0 bel lt0) trodAll_mk0), rfl, bel.frame _, fun h => by cases h⟩
theorem over : Rows.treeOldRootsRow.holds Try.pinned (OpenSpec.ofChange Rows.treeOldRootsSpec) :=
 OpenClaim.holds_of_wide 3 Try.f3 rfl rfl rfl rfl rfl rfl rfl ⟨rfl, rfl, rfl, rfl, rfl⟩ rfl rfl rfl rfl rfl (by kernel_rfl) Try.func3 (by kernel_rfl)
  (of_decide_eq_true (by kernel_rfl)) (by unfold Func.isWrapper; first | (rw [if_pos (by decide +kernel)]; kernel_rfl) | (rw [if_neg (by decide +kernel)]; exact ⟨rfl, rfl⟩))
  (fun os started H enc _ => lifted os started H enc)
end Go.Proofs.Ytgmkknonnidgaaa.treeOldRoots
namespace Go.Proofs.Ytgmkknonnidgaaa
theorem treeOldRoots_holds : Rows.TreeOldRootsSaid := treeOldRoots.over
end Go.Proofs.Ytgmkknonnidgaaa
