/- Several texts in one: LTOrd. -/
import Derived.Test.YtfpcijchnoekgaaGoLTOrd5
set_option linter.unusedVariables false
set_option linter.unusedSimpArgs false
namespace Go.Proofs.Ytfpcijchnoekgaa.treeOrder
open Go.ChangeShapes Go.WideShapes Go.ChangeAt Go.RowKit
abbrev SPrs : Shp (List Pr) := Shp.list 35 SPr
set_option maxRecDepth 100000 in
theorem open_pr9 : Opens SPr 35 (fun x => x.1.length ≤ maxLen ∧ x.2.length ≤ maxLen) (fun _ => 1 + 1) :=
 Opens.pair opens_strb opens_strb Try.underlying35 (by kernel_rfl) rfl rfl
set_option maxRecDepth 100000 in
theorem open_prs9 : Opens SPrs 28 (fun xs => xs.length * 32 ≤ 140737488351232 ∧ ∀ x ∈ xs, x.1.length ≤ maxLen ∧ x.2.length ≤ maxLen) (fun xs => (xs.map (fun _ => 1 + 1)).sum) :=
 open_pr9.list Try.underlying28 (by kernel_rfl) (by kernel_rfl) (by decide)
theorem tscan_is {t : Tr} {ps : List Pr} (h : tprs t = some ps) (a b : Str) : tscan t a b = (pscan ps a b, 0) := by unfold tscan; rw [h]
theorem pscan_all (l : List Pr) : pscan l [] [] = l := by
 unfold pscan
 refine filter_all fun y _ => ?_
 unfold pin
 have : slt y.1 [] = false := by cases y.1 <;> rfl
 rw [this]
 rfl
def POk (l : List Pr) : Prop := KNo l ∧ ∀ y ∈ l, tkey y.1 = true ∧ y.2.length ≤ 64
theorem POk.snoc {l : List Pr} (h : POk l) {y : Pr} (hk : tkey y.1 = true) (hv : y.2.length ≤ 64) (hh : phas l y.1 = false) : POk (l ++ [y]) := by
 refine ⟨?_, fun z hz => ?_⟩
 ·unfold KNo
  rw [List.map_append, List.nodup_append]
  refine ⟨h.1, by simp, fun a ha b hb => ?_⟩
  obtain ⟨z, hz, rfl⟩ := List.mem_map.1 ha
  simp at hb
  subst hb
  unfold phas at hh
  have := List.any_eq_false.1 hh z hz
  simpa using this
 ·rcases List.mem_append.1 hz with hz | hz
  ·exact h.2 z hz
  ·simp at hz; subst hz; exact ⟨hk, hv⟩
structure TI (w : World) (C : Nat) (wr : World) (g8 g9 : Nat) (ta tb : Tr) (pa pb : Value) (l dn lf : List Pr) (lv fv : Value) (i : Nat) : Prop where
 oa : OwnPg w.heap.size wr pa ta.pages
 ob : OwnPg w.heap.size wr pb tb.pages
 qa : tprs ta = some (pall9 (l.take i))
 qb : tprs tb = some (pall9 dn)
 na : ta.next ≤ 1 + 40 * (i : Int)
 nb : tb.next ≤ 1 + 40 * (i : Int)
 sa : ∀ x ∈ ta.pages, x.2.length ≤ 244
 sb : ∀ x ∈ tb.pages, x.2.length ≤ 244
 ol : OwnP w.heap.size wr lv l
 off : OwnP C wr fv lf
 lc : ∀ b, lv.ownBlock = some b → b < C
 pm : (dn ++ lf).Perm l
 ln : lf.length + i = l.length
 ba : wr.heap[g8]? = some (.cells #[.int .i64 ta.root, .int .i64 ta.next, pa] 27 (0, 0))
 bb : wr.heap[g9]? = some (.cells #[.int .i64 tb.root, .int .i64 tb.next, pb] 27 (0, 0))
 bel : Below w.heap.size w wr
 hg : w.heap.size ≤ g8 ∧ w.heap.size ≤ g9 ∧ g8 ≠ g9 ∧ w.heap.size ≤ C
theorem TI.to {w : World} {C : Nat} {wr wr' : World} {g8 g9 : Nat} {ta tb : Tr} {pa pb : Value} {l dn lf : List Pr} {lv fv : Value} {i : Nat} (h : TI w C wr g8 g9 ta tb pa pb l dn lf lv fv i) (b : Below wr.heap.size wr wr') : TI w C wr' g8 g9 ta tb pa pb l dn lf lv fv i :=
 ⟨h.oa.to9 b, h.ob.to9 b, h.qa, h.qb, h.na, h.nb, h.sa, h.sb, rows_to h.ol b, rows_to h.off b, h.lc, h.pm, h.ln, (b.block _ (lt_of_block h.ba)).trans h.ba, (b.block _ (lt_of_block h.bb)).trans h.bb, h.bel.trans (b.mono h.bel.size), h.hg⟩
theorem rdS_cap' {B : Nat} {w : World} {a : Option Addr} {n c : Nat} {l : List Pr} (h : OwnP B w (.slice a n c) l) : n ≤ c := by
 have h1 := rdS_cap (OwnP.rd h)
 obtain ⟨_, _, e⟩ := (OwnP.rd h).slice
 simp only [Value.slice.injEq] at e
 omega
theorem take_snoc9p {l : List Pr} {k : Nat} {y : Pr} (h : l[k]? = some y) : l.take (k + 1) = l.take k ++ [y] := by rw [List.take_add_one, h]; rfl
theorem KNo.take {l : List Pr} (h : KNo l) (k : Nat) : KNo (l.take k) := by unfold KNo at *; rw [List.map_take]; exact h.sublist (List.take_sublist _ _)
theorem chg_sml {t u : Tr} {ps : List Pr} (hC : Chg t u ps) (h : ∀ x ∈ t.pages, x.2.length ≤ 244) : ∀ x ∈ u.pages, x.2.length ≤ 244 := by
 obtain ⟨more, e, _, h2⟩ := hC.pgs
 intro x hx
 rw [e, List.mem_append] at hx
 rcases hx with hx | hx
 ·exact h x hx
 ·exact h2 x hx
theorem PutB.sure {B : Nat} {c : World} {t u : Tr} {k v : Str} {pv : Value} {err : Int} {ps : List Pr} (h : PutB B c t k v u pv err) (hq : tprs t = some ps) (hk : tkey k = true) (hv : v.length ≤ 64) (hl : ps.length < 4096) (hn : t.next ≤ 65495) : err = 0 ∧ OwnPg B c pv u.pages ∧ Chg t u (pins k v ps) := by
 have h0 : perr t k v = 0 := perr_ok hq hk (by omega) (fun q => by omega)
 rcases h with ⟨h1, h2⟩ | ⟨h1, _, h3, qs, h4, h5⟩
 ·rcases h2 with h2 | ⟨_, _, h2⟩
  ·rw [h0] at h2; exact absurd h2 h1
  ·omega
 ·rw [hq] at h4
  have := Option.some.inj h4
  subst this
  exact ⟨h1, h3, h5⟩
theorem TI.step {w : World} {C : Nat} {c : World} {g8 g9 : Nat} {ta tb ua ub : Tr} {pa pb pa' pb' : Value} {l dn lf : List Pr} {lv : Value} {fg n' fc : Nat} {i K : Nat} {x z : Pr} (h : TI w C c g8 g9 ta tb pa pb l dn lf lv (.slice (some ⟨fg, 0, none⟩) n' fc) i)
  (ca : Chg ta ua (pall9 (l.take (i + 1)))) (cb : Chg tb ub (pall9 (dn ++ [x]))) (oa : OwnPg w.heap.size c pa' ua.pages) (ob : OwnPg w.heap.size c pb' ub.pages) (hx : lf[K]? = some x) (hz : lf[lf.length - 1]? = some z) :
  TI w C ((((((((c.setCell ⟨g8, 0, none⟩ (.int .i64 ua.root)).setCell ⟨g8, 1, none⟩ (.int .i64 ua.next)).setCell ⟨g8, 2, none⟩ pa').setCell ⟨g9, 0, none⟩ (.int .i64 ub.root)).setCell ⟨g9, 1, none⟩ (.int .i64 ub.next)).setCell ⟨g9, 2, none⟩ pb').setCell ⟨fg, K * 2, none⟩ (st z.1)).setCell ⟨fg, K * 2 + 1, none⟩ (st z.2)) g8 g9 ua ub pa' pb' l (dn ++ [x]) ((lf.set K z).take (lf.length - 1)) lv (.slice (some ⟨fg, 0, none⟩) (n' - 1) fc) (i + 1) := by
 have hK : K < lf.length := (List.getElem?_eq_some_iff.1 hx).1
 obtain ⟨c1, hc1⟩ : ∃ d, d = ((c.setCell ⟨g8, 0, none⟩ (.int .i64 ua.root)).setCell ⟨g8, 1, none⟩ (.int .i64 ua.next)).setCell ⟨g8, 2, none⟩ pa' := ⟨_, rfl⟩
 obtain ⟨c2, hc2⟩ : ∃ d, d = ((c1.setCell ⟨g9, 0, none⟩ (.int .i64 ub.root)).setCell ⟨g9, 1, none⟩ (.int .i64 ub.next)).setCell ⟨g9, 2, none⟩ pb' := ⟨_, rfl⟩
 rw [← hc1, ← hc2]
 have k1 : ∀ e, e ≠ 27 → KeepT e c c1 := fun e he => by rw [hc1]; exact s3_keep9 h.ba _ _ _ he
 have a1 : c1.heap[g8]? = some (.cells #[.int .i64 ua.root, .int .i64 ua.next, pa'] 27 (0, 0)) := by rw [hc1]; exact heap_set3t h.ba _ _ _
 have hne := h.hg.2.2.1
 have b1 : c1.heap[g9]? = some (.cells #[.int .i64 tb.root, .int .i64 tb.next, pb] 27 (0, 0)) := by
  rw [hc1]; exact (Below.heap_setCell _ _ _ _ (Ne.symm hne)).trans ((Below.heap_setCell _ _ _ _ (Ne.symm hne)).trans ((Below.heap_setCell _ _ _ _ (Ne.symm hne)).trans h.bb))
 have k2 : ∀ e, e ≠ 27 → KeepT e c1 c2 := fun e he => by rw [hc2]; exact s3_keep9 b1 _ _ _ he
 have a2 : c2.heap[g8]? = some (.cells #[.int .i64 ua.root, .int .i64 ua.next, pa'] 27 (0, 0)) := by
  rw [hc2]; exact (Below.heap_setCell _ _ _ _ hne).trans ((Below.heap_setCell _ _ _ _ hne).trans ((Below.heap_setCell _ _ _ _ hne).trans a1))
 have b2 : c2.heap[g9]? = some (.cells #[.int .i64 ub.root, .int .i64 ub.next, pb'] 27 (0, 0)) := by rw [hc2]; exact heap_set3t b1 _ _ _
 have kk : ∀ e, e ≠ 27 → KeepT e c c2 := fun e he => (k1 e he).trans (k2 e he)
 have of2 : OwnP C c2 (.slice (some ⟨fg, 0, none⟩) n' fc) lf := rows_keepT h.off (kk _ (by decide))
 obtain ⟨g, eg, hCg, _, _, _, ⟨cur, hcur, _⟩, of3⟩ := OwnP.out of2 hK z
 simp only [Option.some.injEq, Addr.mk.injEq, and_true] at eg
 subst eg
 have m1 : ∀ e, e ≠ 35 → KeepT e c2 ((c2.setCell ⟨fg, K * 2, none⟩ (st z.1)).setCell ⟨fg, K * 2 + 1, none⟩ (st z.2)) := fun e he => (KeepT.set (a := ⟨fg, K * 2, none⟩) hcur he _).trans (KeepT.set (a := ⟨fg, K * 2 + 1, none⟩) (heap_setN hcur (K * 2) _) he _)
 have hlf : lv.ownBlock ≠ some fg := fun e => by have := h.lc fg e; omega
 have kA : ∀ e, e ≠ 27 → e ≠ 35 → KeepT e c ((c2.setCell ⟨fg, K * 2, none⟩ (st z.1)).setCell ⟨fg, K * 2 + 1, none⟩ (st z.2)) := fun e h1 h2 => (kk e h1).trans (m1 e h2)
 have hg := h.hg
 have bel2 : Below w.heap.size w c2 := by rw [hc2]; exact below_set3t (by rw [hc1]; exact below_set3t h.bel hg.1 _ _ _) hg.2.1 _ _ _
 have hwf : w.heap.size ≤ fg := Nat.le_trans hg.2.2.2 hCg
 refine ⟨OwnW.keepT oa (kA _ (by decide) (by decide)) (kA _ (by decide) (by decide)), OwnW.keepT ob (kA _ (by decide) (by decide)) (kA _ (by decide) (by decide)), ca.prs, cb.prs, ?_, ?_, chg_sml ca h.sa, chg_sml cb h.sb, ?_, of3, h.lc, ?_, ?_, m1 _ (by decide) _ _ _ a2, m1 _ (by decide) _ _ _ b2, (bel2.setCell hwf _).setCell hwf _, hg⟩
 ·have h1 := h.na; have h2 := ca.nxt; omega
 ·have h1 := h.nb; have h2 := cb.nxt; omega
 ·exact ownsRow_setCell_other (ownsRow_setCell_other (rows_keepT h.ol (kk _ (by decide))) (a := ⟨fg, K * 2, none⟩) hlf _) (a := ⟨fg, K * 2 + 1, none⟩) hlf _
 ·have p1 := take_out hx hz
  have p2 : (dn ++ [x] ++ (lf.set K z).take (lf.length - 1)).Perm (dn ++ ((lf.set K z).take (lf.length - 1) ++ [x])) := by
   rw [List.append_assoc]
   exact List.Perm.append_left _ List.perm_append_comm
  exact p2.trans ((List.Perm.append_left dn p1).trans h.pm)
 ·have := h.ln
  simp only [List.length_take, List.length_set]
  omega
set_option maxRecDepth 100000 in
set_option maxHeartbeats 32000000 in
theorem walk (w : World) (a0 : Option Addr) (len0 cap0 : Nat) (ps0 : List Pr) (g0 : SPrs.rd w [.slice a0 len0 cap0] ps0) (m0 : ps0.length * 32 ≤ 140737488351232 ∧ ∀ x ∈ ps0, x.1.length ≤ maxLen ∧ x.2.length ≤ maxLen) (a1 : Option Addr) (len1 cap1 : Nat) (os : List Int) (g1 : SIntL.rd w [.slice a1 len1 cap1] os) (m1 : os.length * 8 ≤ 140737488351232 ∧ ∀ x ∈ os, True) :
  Calls Try.prog 4 #[.slice a0 len0 cap0, .slice a1 len1 cap1] w fun e w' => e = .returned (.bool true) ∧ Below w.heap.size w w' := by
 obtain ⟨v0, e0, R0⟩ := g0
 obtain rfl : v0 = .slice a0 len0 cap0 := by simpa using e0.symm
 obtain ⟨v1, e1, R1⟩ := g1
 obtain rfl : v1 = .slice a1 len1 cap1 := by simpa using e1.symm
 have HR := hide R0
 have HR1 := hide R1
 obtain ⟨a0', c0', h0'⟩ := R0.slice
 simp only [Value.slice.injEq] at h0'
 obtain ⟨rfl, hM0, rfl⟩ := h0'
 obtain ⟨a1', c1', h1'⟩ := R1.slice
 simp only [Value.slice.injEq] at h1'
 obtain ⟨rfl, hM, rfl⟩ := h1'
 replace hM := hide hM
 replace hM0 := hide hM0
 clear e0 m0 R0 e1 m1 R1
 have KA := hide (palive10_any w)
 go_enter Try.func4, Try.ntmps4
 go_wp2_with fail
 refine KA.out.mono ?_
 rintro e w1 ⟨rfl, b1⟩
 clear KA
 have B1 := hide b1
 clear b1
 go_wp2
 go_loopw [5, 6] (fun v5 p wr => ∃ (i : Nat) (lv : Value) (l : List Pr), lv = v5 ∧ i ≤ len0 ∧ i ≤ 60 ∧ p = .int .i64 i ∧ Hid (OwnP w1.heap.size wr lv l ∧ Below w1.heap.size w1 wr ∧ POk l ∧ l.length ≤ i)) (fun _ p _ => len0 - (intOf p).toNat)
 case atStart => exact ⟨0, _, [], rfl, Nat.zero_le _, Nat.zero_le _, rfl, ⟨World.ownsRow_nil _ _ _ _, Below.refl _ _, ⟨List.nodup_nil, fun y hy => by cases hy⟩, Nat.le_refl _⟩⟩
 case round =>
  obtain ⟨i, lv, l, rfl, hi, hi6, rfl, hI⟩ := hrel
  obtain ⟨la, lc, hlv⟩ := (OwnP.rd hI.out.1).slice
  obtain ⟨n, hn⟩ : ∃ n, n = l.length := ⟨_, rfl⟩
  rw [← hn] at hlv
  subst hlv
  replace hn := hide hn
  by_cases hlt : i < len0 ∧ i < 60
  ·obtain ⟨hlt, hlt4⟩ := hlt
   have hq : (i : Int) < (len0 : Int) := by omega
   have hq4 : (i : Int) < 60 := by omega
   obtain ⟨y, hy⟩ : ∃ y, ps0[i]? = some y := ⟨_, List.getElem?_eq_getElem (by rw [← hM0.out]; exact hlt)⟩
   have bwr := B1.out.trans (hI.out.2.1.mono B1.out.size)
   obtain ⟨sb, so, rfl, s1, s2⟩ := (HR.out.to0 bwr).prAt hy
   obtain ⟨key, val⟩ := y
   dsimp only at s1 s2
   have FIN : Hid (OwnP w1.heap.size wr (.slice la n lc) l ∧ Below w1.heap.size w1 wr ∧ POk l ∧ l.length ≤ i + 1) := ⟨hI.out.1, hI.out.2.1, hI.out.2.2.1, by have := hI.out.2.2.2; omega⟩
   replace hy := hide hy
   clear bwr
   by_cases k1 : 1 ≤ key.length
   ·have k1' : (key.length : Int) ≥ 1 := by omega
    by_cases k2 : key.length ≤ 32
    ·have k2' : (key.length : Int) ≤ 32 := by omega
     by_cases k3 : val.length ≤ 64
     ·have k3' : (val.length : Int) ≤ 64 := by omega
      have KH := hide (rhas10_any wr (.slice la n lc) l key (OwnP.rd hI.out.1))
      have htk : Hid (tkey key = true) := decide_eq_true ⟨k1, k2⟩
      go_wp2_with fail
      refine KH.out.mono ?_
      rintro e w9 ⟨rfl, rfl⟩
      cases hh : phas l key with
      | true =>
       replace hh := hide hh
       go_wp2
       go_roundw
       case rel => exact ⟨i + 1, _, l, rfl, by omega, by omega, by go_num, FIN⟩
       case measure => simp [intOf]; omega
      | false =>
       have hP := hide (hI.out.2.2.1.snoc (y := (key, val)) htk.out k3 hh)
       replace hh := hide hh
       obtain ⟨V, hV, D, bV, sV⟩ := boxedN wr #[st key, st val] 35
       obtain ⟨⟨C0, C1⟩, _⟩ := cells2r D
       have OW := rows_to hI.out.1 bV
       have BB := hide (hI.out.2.1.trans (bV.mono hI.out.2.1.size))
       have hnl : (l.length + 1) * 32 ≤ 140737488355328 := by have := hI.out.2.2.2; omega
       have hB2 : w1.heap.size ≤ V.heap.size := BB.out.size
       rw [hV] at C0 C1 OW hB2
       replace C0 := hide C0
       replace C1 := hide C1
       replace OW := hide OW
       clear D bV
       go_wp2_with (at_builtin; refine wpList_appP rfl _ _ rfl w1.heap.size _ l (key, val) wr.heap.size rfl rfl OW.out C0.out C1.out hnl hB2 ?_; intro v5 w3 o1 b1 _)
       have F2 : Hid (OwnP w1.heap.size w3 v5 (l ++ [(key, val)]) ∧ Below w1.heap.size w1 w3 ∧ POk (l ++ [(key, val)]) ∧ (l ++ [(key, val)]).length ≤ i + 1) := by
        rw [← hV] at b1
        exact ⟨o1, BB.out.trans b1, hP.out, by have := hI.out.2.2.2; rw [List.length_append, List.length_singleton]; omega⟩
       clear o1 b1
       go_wp2
       go_roundw
       case rel => exact ⟨i + 1, _, _, rfl, by omega, by omega, by go_num, F2⟩
       case measure => simp [intOf]; omega
     ·have k3' : ¬ (val.length : Int) ≤ 64 := by omega
      go_wp2
      go_roundw
      case rel => exact ⟨i + 1, _, l, rfl, by omega, by omega, by go_num, FIN⟩
      case measure => simp [intOf]; omega
    ·have k2' : ¬ (key.length : Int) ≤ 32 := by omega
     go_wp2
     go_roundw
     case rel => exact ⟨i + 1, _, l, rfl, by omega, by omega, by go_num, FIN⟩
     case measure => simp [intOf]; omega
   ·have k1' : ¬ (key.length : Int) ≥ 1 := by omega
    go_wp2
    go_roundw
    case rel => exact ⟨i + 1, _, l, rfl, by omega, by omega, by go_num, FIN⟩
    case measure => simp [intOf]; omega
  ·have hz : ¬ i < len0 ∨ (i < len0 ∧ ¬ i < 60) := by omega
   obtain ⟨wo, hwo⟩ : ∃ x, x = wr := ⟨_, rfl⟩
   subst hwo
   go_upto_region 5 with fail
   go_cut [30] from 23 to 67 (fun s wx => s = .bool false ∧ wo = wx)
   case first =>
    rcases hz with hz | ⟨hz, hz4⟩
    ·have hq : ¬ (i : Int) < (len0 : Int) := by omega
     go_wp2_with fail
     go_meet
     case rel => exact ⟨rfl, rfl⟩
    ·have hq : (i : Int) < (len0 : Int) := by omega
     have hq4 : ¬ (i : Int) < 60 := by omega
     go_wp2_with fail
     go_meet
     case rel => exact ⟨rfl, rfl⟩
   case rest =>
    obtain ⟨rfl, rfl⟩ := hcut
    replace hz := hide hz
    have KN0 := hide (pnew10_any wo)
    dsimp only [tv] at KN0
    go_wp2_with fail
    refine KN0.out.mono ?_
    rintro e w3 ⟨rfl, b3⟩
    have KN1 := hide (pnew10_any w3)
    dsimp only [tv] at KN1
    have B3 := hide b3
    clear b3 KN0
    go_wp2_with fail
    refine KN1.out.mono ?_
    rintro e w4 ⟨rfl, b4⟩
    obtain ⟨Y1, hY1, D1, bY1, sY1⟩ := boxedN w4 #[.int .i64 0, .int .i64 1, .slice none 0 0] 27
    obtain ⟨Y2, hY2, D2, bY2, sY2⟩ := boxedN Y1 #[.int .i64 0, .int .i64 1, .slice none 0 0] 27
    have b34 := B3.out.trans (b4.mono B3.out.size)
    have b3Y := b34.trans ((bY1.trans (bY2.mono bY1.size)).mono b34.size)
    have bel2 := hI.out.2.1.trans (b3Y.mono hI.out.2.1.size)
    have KC := hide (copyp_any Y2 (.slice la n lc) l (OwnP.rd (rows_to hI.out.1 b3Y)) (by have := hI.out.2.2.2; omega))
    have HD := hide (And.intro ((bY2.block _ (lt_of_block D1)).trans D1) (And.intro D2 (And.intro b3Y bel2)))
    rw [sY1] at HD
    have HW4 : Hid (w1.heap.size ≤ w4.heap.size) := by show _ ≤ _; have h1 := hI.out.2.1.size; have h2 := b34.size; omega
    have hsz : Hid (Y2.heap.size = w4.heap.size + 1 + 1) := by show _ = _; rw [sY2, sY1]
    rw [hY2, hY1] at KC
    clear KN1 b4 D1 D2 bY1 bY2 b34 b3Y bel2 sY1 sY2
    go_wp2_with fail
    refine KC.out.mono ?_
    rintro e w5 ⟨fv0, rfl, o5, b5⟩
    rw [← hY1, ← hY2] at o5 b5
    replace hY1 := hide hY1
    replace hY2 := hide hY2
    clear KC
    have HJ : Hid (∃ ta tb pa pb dn lf, TI w1 Y2.heap.size w5 w4.heap.size (w4.heap.size + 1) ta tb pa pb l dn lf (.slice la n lc) fv0 0) := by
     refine ⟨⟨0, 1, []⟩, ⟨0, 1, []⟩, .slice none 0 0, .slice none 0 0, [], l, ⟨OwnW.nil _ _ _, OwnW.nil _ _ _, tprs_new, tprs_new, by decide, by decide, (fun x hx => by cases hx), (fun x hx => by cases hx), rows_to (rows_to hI.out.1 HD.out.2.2.1) b5, o5, ?_, List.Perm.refl _, by simp, (b5.block _ (lt_of_block HD.out.1)).trans HD.out.1, (b5.block _ (lt_of_block HD.out.2.1)).trans HD.out.2.1, HD.out.2.2.2.trans (b5.mono HD.out.2.2.2.size), ?_⟩⟩
     ·intro b hb
      have h1 := (World.ownsRow.lt hI.out.1 b hb).2
      have h2 := HD.out.2.2.1.size
      omega
     ·have h1 := hI.out.2.1.size
      have h2 := HD.out.2.2.1.size
      have h3 := hsz.out
      have h4 := B3.out.size
      have h5 := HD.out.2.2.2.size
      have h6 := lt_of_block HD.out.1
      refine ⟨?_, ?_, by omega, h5⟩
      ·have := HW4.out; omega
      ·have := HW4.out; omega
    clear o5 b5
    obtain ⟨g8, hg8⟩ : ∃ g, g = w4.heap.size := ⟨_, rfl⟩
    obtain ⟨C, hC9⟩ : ∃ g, g = Y2.heap.size := ⟨_, rfl⟩
    rw [← hg8, ← hC9] at HJ
    clear HD hsz B3 HW4 hY1 hY2
    go_wp2
    rw [← hg8]
    clear hg8 hC9
    go_loopw [10, 11] (fun v10 p wr => ∃ (j : Nat) (fv : Value), fv = v10 ∧ j ≤ n ∧ p = .int .i64 j ∧ Hid (∃ ta tb pa pb dn lf, TI w1 C wr g8 (g8 + 1) ta tb pa pb l dn lf (.slice la n lc) fv j)) (fun _ p _ => n - (intOf p).toNat)
    case atStart => exact ⟨0, _, rfl, Nat.zero_le _, rfl, HJ⟩
    case round =>
     obtain ⟨j, fv, rfl, hj, rfl, hJ⟩ := hrel
     clear HJ
     obtain ⟨t, t2, pva, pvb, dn, lf, hB⟩ := hJ.out
     obtain ⟨pa, pc, hpv⟩ := hB.oa.shape
     obtain ⟨pn, hpn⟩ : ∃ n, n = t.pages.length := ⟨_, rfl⟩
     rw [← hpn] at hpv
     subst hpv
     obtain ⟨pa2, pc2, hpv2⟩ := hB.ob.shape
     obtain ⟨pn2, hpn2⟩ : ∃ n, n = t2.pages.length := ⟨_, rfl⟩
     rw [← hpn2] at hpv2
     subst hpv2
     obtain ⟨root, hrn⟩ : ∃ z, z = t.root := ⟨_, rfl⟩
     obtain ⟨next, hnn⟩ : ∃ z, z = t.next := ⟨_, rfl⟩
     obtain ⟨root2, hrn2⟩ : ∃ z, z = t2.root := ⟨_, rfl⟩
     obtain ⟨next2, hnn2⟩ : ∃ z, z = t2.next := ⟨_, rfl⟩
     have hTA := hB.ba
     have hTB := hB.bb
     rw [← hrn, ← hnn] at hTA
     rw [← hrn2, ← hnn2] at hTB
     obtain ⟨⟨A0, A1, A2⟩, AF⟩ := cells3p hTA
     obtain ⟨⟨Z0, Z1, Z2⟩, ZF⟩ := cells3p hTB
     replace hpn := hide hpn
     replace hpn2 := hide hpn2
     replace hrn := hide hrn
     replace hnn := hide hnn
     replace hrn2 := hide hrn2
     replace hnn2 := hide hnn2
     replace hB := hide hB
     have BZ := hide (B1.out.trans (hB.out.bel.mono B1.out.size))
     have hl60 : l.length ≤ 60 := by have := hI.out.2.2.2; omega
     clear hTA hTB hJ
     by_cases hlt : j < n
     ·have hqj : (j : Int) < (n : Int) := by omega
      have hj60 : j < 60 := by have := hn.out; omega
      obtain ⟨y, hy⟩ : ∃ y, l[j]? = some y := ⟨_, List.getElem?_eq_getElem (by rw [← hn.out]; exact hlt)⟩
      have hyok := hI.out.2.2.1.2 y (List.mem_of_getElem? hy)
      obtain ⟨sb, so, hla, s1, s2⟩ := (OwnP.rd hB.out.ol).prAt hy
      obtain ⟨key, val⟩ := y
      dsimp only at s1 s2 hyok
      have hyk := hide hyok.1
      have hyv := hide hyok.2
      have hkl : Hid (key.length ≤ 9223372036854775807) := by show _ ≤ _; have := (tkey_is hyk.out).2; omega
      have hsn := hide (take_snoc9p hy)
      replace hla := hide hla
      have HS : Hid (∀ w9, Below wr.heap.size wr w9 → w9.cell? ⟨g8, 0, none⟩ = some (.int .i64 root) ∧ w9.cell? ⟨g8, 1, none⟩ = some (.int .i64 next) ∧ w9.cell? ⟨g8, 2, none⟩ = some (.slice pa pn pc) ∧ w9.cell? ⟨sb, so + j * 2, none⟩ = some (st key) ∧ w9.cell? ⟨sb, so + j * 2 + 1, none⟩ = some (st val)) := fun w9 b9 =>
       ⟨(b9.cell (cell_lt A0)).trans A0, (b9.cell (cell_lt A1)).trans A1, (b9.cell (cell_lt A2)).trans A2, (b9.cell (cell_lt s1)).trans s1, (b9.cell (cell_lt s2)).trans s2⟩
      have hpl : Hid ((pall9 (l.take j)).length ≤ 60) := by show _ ≤ _; rw [pall9_len _ rfl (KNo.take hI.out.2.2.1.1 j)]; have := List.length_take_le' j l; omega
      have hlasub := hla.out
      subst hlasub
      replace hy := hide hy
      clear hyok hla
      go_upto_region 15 with fail
      have KU : Hid (∀ w9, Below wr.heap.size wr w9 → Calls Try.prog 16 #[.agg #[.int .i64 root, .int .i64 next, .slice pa pn pc], st key, st val] w9 fun e w6 => ∃ u ua un9 uc err, e = .returned (.tuple #[.agg #[.int .i64 u.root, .int .i64 u.next, .slice ua un9 uc], .int .i64 err]) ∧ PutB w9.heap.size w6 t key val u (.slice ua un9 uc) err ∧ Below w9.heap.size w9 w6) := fun w9 b9 => by
       have h9 := pput_any w9 t (.slice pa pn pc) key val (hB.out.to b9).oa.rd (fun x hx => by have := hB.out.sa x hx; omega) (tprs_num hB.out.qa).1.rwf hkl.out
       dsimp only [tv] at h9
       rw [← hrn.out, ← hnn.out] at h9
       exact Calls.mono h9 fun e w6 h => h.to
      go_cut [12, 13] from 72 to 146 (fun pp ee wx => ∃ (g7 : Nat) (u : Tr) (ua : Option Addr) (un9 uc : Nat) (err : Int), pp = .pointer (some ⟨g7, 0, none⟩) ∧ ee = .int .i64 err ∧ Hid (Below wr.heap.size wr wx ∧ wx.heap[g7]? = some (.cells #[.int .i64 u.root, .int .i64 u.next, .slice ua un9 uc] 27 (0, 0)) ∧ PutB wr.heap.size wx t key val u (.slice ua un9 uc) err ∧ wr.heap.size ≤ g7))
      case first =>
       have b0 : Below wr.heap.size wr wr.drew := (Below.refl _ _).drew
       refine wp_region_fan (fun w9 => w9.cell? ⟨g8, 0, none⟩ = some (.int .i64 root) ∧ w9.cell? ⟨g8, 1, none⟩ = some (.int .i64 next) ∧ w9.cell? ⟨g8, 2, none⟩ = some (.slice pa pn pc) ∧ w9.cell? ⟨sb, so + j * 2, none⟩ = some (st key) ∧ w9.cell? ⟨sb, so + j * 2 + 1, none⟩ = some (st val)) 17 mixed (by simp) ?_
       generalize wr.drew = c0 at *
       clear A0 A1 A2 AF s1 s2 Z0 Z1 Z2 ZF
       refine fan_take (i := 0) (v := ?_) rfl (by kernel_rfl) (fun _ _ _ _ h => h) (by kernel_rfl) (HS.out _ b0) ?_ ?_
       rotate_left
       ·rintro w9 ⟨t0, t1, t2, t3, t4⟩
        go_simp
        try with_reducible rfl
       try simp only [Act.put, List.setIfInBounds_toArray, List.set_cons_zero, List.set_cons_succ]
       refine fan_take (i := 1) (v := ?_) rfl (by kernel_rfl) (fun _ _ _ _ h => h) (by kernel_rfl) (HS.out _ b0) ?_ ?_
       rotate_left
       ·rintro w9 ⟨t0, t1, t2, t3, t4⟩
        go_simp
        try with_reducible rfl
       try simp only [Act.put, List.setIfInBounds_toArray, List.set_cons_zero, List.set_cons_succ]
       refine fan_take (i := 2) (v := ?_) rfl (by kernel_rfl) (fun _ _ _ _ h => h) (by kernel_rfl) (HS.out _ b0) ?_ ?_
       rotate_left
       ·rintro w9 ⟨t0, t1, t2, t3, t4⟩
        go_simp
        try with_reducible rfl
       try simp only [Act.put, List.setIfInBounds_toArray, List.set_cons_zero, List.set_cons_succ]
       refine fan_take (i := 3) (v := ?_) rfl (by kernel_rfl) (fun _ _ _ _ h => h) (by kernel_rfl) (HS.out _ b0) ?_ ?_
       rotate_left
       ·rintro w9 ⟨t0, t1, t2, t3, t4⟩
        go_simp
        try with_reducible rfl
       try simp only [Act.put, List.setIfInBounds_toArray, List.set_cons_zero, List.set_cons_succ]
       refine fan_take (i := 4) (v := ?_) rfl (by kernel_rfl) (fun _ _ _ _ h => h) (by kernel_rfl) (HS.out _ b0) ?_ ?_
       rotate_left
       ·rintro w9 ⟨t0, t1, t2, t3, t4⟩
        go_simp
        try with_reducible rfl
       try simp only [Act.put, List.setIfInBounds_toArray, List.set_cons_zero, List.set_cons_succ]
       refine fan_take (i := 5) (v := ?_) rfl (by kernel_rfl) (fun _ _ _ _ h => h) (by kernel_rfl) (HS.out _ b0) ?_ ?_
       rotate_left
       ·rintro w9 ⟨t0, t1, t2, t3, t4⟩
        go_simp
        try with_reducible rfl
       try simp only [Act.put, List.setIfInBounds_toArray, List.set_cons_zero, List.set_cons_succ]
       refine fan_take (i := 6) (v := ?_) rfl (by kernel_rfl) (fun _ _ _ _ h => h) (by kernel_rfl) (HS.out _ b0) ?_ ?_
       rotate_left
       ·rintro w9 ⟨t0, t1, t2, t3, t4⟩
        go_simp
        try with_reducible rfl
       try simp only [Act.put, List.setIfInBounds_toArray, List.set_cons_zero, List.set_cons_succ]
       refine fan_take (i := 7) (v := ?_) rfl (by kernel_rfl) (fun _ _ _ _ h => h) (by kernel_rfl) (HS.out _ b0) ?_ ?_
       rotate_left
       ·rintro w9 ⟨t0, t1, t2, t3, t4⟩
        go_simp
        try with_reducible rfl
       try simp only [Act.put, List.setIfInBounds_toArray, List.set_cons_zero, List.set_cons_succ]
       refine fan_take (i := 8) (v := ?_) rfl (by kernel_rfl) (fun _ _ _ _ h => h) (by kernel_rfl) (HS.out _ b0) ?_ ?_
       rotate_left
       ·rintro w9 ⟨t0, t1, t2, t3, t4⟩
        go_simp
        try with_reducible rfl
       try simp only [Act.put, List.setIfInBounds_toArray, List.set_cons_zero, List.set_cons_succ]
       refine fan_take (i := 9) (v := ?_) rfl (by kernel_rfl) (fun _ _ _ _ h => h) (by kernel_rfl) (HS.out _ b0) ?_ ?_
       rotate_left
       ·rintro w9 ⟨t0, t1, t2, t3, t4⟩
        go_simp
        try with_reducible rfl
       try simp only [Act.put, List.setIfInBounds_toArray, List.set_cons_zero, List.set_cons_succ]
       refine fan_take (i := 10) (v := ?_) rfl (by kernel_rfl) (fun _ _ _ _ h => h) (by kernel_rfl) (HS.out _ b0) ?_ ?_
       rotate_left
       ·rintro w9 ⟨t0, t1, t2, t3, t4⟩
        go_simp
        try with_reducible rfl
       try simp only [Act.put, List.setIfInBounds_toArray, List.set_cons_zero, List.set_cons_succ]
       refine fan_two 11 15 (by kernel_rfl) ?_ ?_
       ·
        refine fan_step rfl (by kernel_rfl) fun j hK => ?_
        refine wp_call_of 16 _ _ (by rfl) #[.agg #[.int .i64 root, .int .i64 next, .slice pa pn pc], st key, st val] (by simp [Act.eval]) (Try.call16 _ _) (KU.out _ b0) ?_
        rintro e c2 ⟨u, ua, un9, uc, err, rfl, pB, bF⟩
        have b2 := b0.trans (bF.mono b0.size)
        replace pB := pB.base (B := wr.heap.size) b0.size
        clear bF
        refine ⟨_, rfl, hK _ _ (HS.out _ b2) ?_⟩
        clear hK j
        try simp only [Act.put, List.setIfInBounds_toArray, List.set_cons_zero, List.set_cons_succ]
        refine fan_take (i := 12) (v := ?_) rfl (by kernel_rfl) (fun _ _ _ _ h => h) (by kernel_rfl) (HS.out _ b2) ?_ ?_
        rotate_left
        ·rintro w9 ⟨t0, t1, t2, t3, t4⟩
         go_simp
         try with_reducible rfl
        try simp only [Act.put, List.setIfInBounds_toArray, List.set_cons_zero, List.set_cons_succ]
        refine fan_take (i := 13) (v := ?_) rfl (by kernel_rfl) (fun _ _ _ _ h => h) (by kernel_rfl) (HS.out _ b2) ?_ ?_
        rotate_left
        ·rintro w9 ⟨t0, t1, t2, t3, t4⟩
         go_simp
         try with_reducible rfl
        try simp only [Act.put, List.setIfInBounds_toArray, List.set_cons_zero, List.set_cons_succ]
        refine fan_take (i := 14) (v := ?_) rfl (by kernel_rfl) (fun _ _ _ _ h => h) (by kernel_rfl) (HS.out _ b2) ?_ ?_
        rotate_left
        ·rintro w9 ⟨t0, t1, t2, t3, t4⟩
         go_simp
         try with_reducible rfl
        try simp only [Act.put, List.setIfInBounds_toArray, List.set_cons_zero, List.set_cons_succ]
        refine fan_one 15 (by kernel_rfl) ?_
        refine fan_step rfl (by kernel_rfl) fun j hK => ?_
        go_simp
        obtain ⟨c3, hc, h7, bc, sc⟩ := boxedN c2 #[.int .i64 0, .int .i64 0, .slice none 0 0] 27
        rw [← hc]
        have b3 := b2.trans (bc.mono b2.size)
        obtain ⟨g7, hg⟩ : ∃ g, g = c2.heap.size := ⟨_, rfl⟩
        rw [← hg] at h7
        rw [← hg]
        have lg7 : wr.heap.size ≤ g7 := by have := b2.size; omega
        replace pB := pB.to bc
        refine hK _ _ (HS.out _ b3) ?_
        clear hK j hc bc sc hg
        try simp only [Act.put, List.setIfInBounds_toArray, List.set_cons_zero, List.set_cons_succ]
        refine fan_one 16 (by kernel_rfl) ?_
        have y9 := cells3p h7
        obtain ⟨⟨y0, y1, y2⟩, yF⟩ := y9
        refine fan_step rfl (by kernel_rfl) fun j hK => ?_
        go_simp
        obtain ⟨d1, hd⟩ : ∃ d, d = ((c3.setCell ⟨g7, 0, none⟩ (.int .i64 u.root)).setCell ⟨g7, 1, none⟩ (.int .i64 u.next)).setCell ⟨g7, 2, none⟩ (.slice ua un9 uc) := ⟨_, rfl⟩
        rw [← hd]
        have e1 : Below wr.heap.size wr d1 := by rw [hd]; exact below_set3t b3 lg7 _ _ _
        have i7 : d1.heap[g7]? = some (.cells #[(.int .i64 u.root), (.int .i64 u.next), (.slice ua un9 uc)] 27 (0, 0)) := by rw [hd]; exact heap_set3t h7 _ _ _
        have kd := fun e (he : e ≠ 27) => s3_keep9 h7 (.int .i64 u.root) (.int .i64 u.next) (.slice ua un9 uc) he
        rw [← hd] at kd
        have pD := pB.keep kd
        refine hK _ _ (HS.out _ e1) ?_
        clear hK j y0 y1 y2 yF hd kd
        try simp only [Act.put, List.setIfInBounds_toArray, List.set_cons_zero, List.set_cons_succ]
        refine fan_done (by kernel_rfl) ?_
        show wpList _ _ _ _ _ _
        have FIN := hide (And.intro e1 (And.intro i7 (And.intro pD lg7)))
        clear e1 i7 pD pB lg7 h7
        go_wp2_with fail
        go_meet
        exact ⟨g7, u, _, _, _, err, rfl, rfl, FIN⟩
       ·
        refine fan_step rfl (by kernel_rfl) fun j hK => ?_
        go_simp
        obtain ⟨c2, hc, h7, bc, sc⟩ := boxedN c0 #[.int .i64 0, .int .i64 0, .slice none 0 0] 27
        rw [← hc]
        have b2 := b0.trans (bc.mono b0.size)
        obtain ⟨g7, hg⟩ : ∃ g, g = c0.heap.size := ⟨_, rfl⟩
        rw [← hg] at h7
        rw [← hg]
        have lg7 : wr.heap.size ≤ g7 := by have := b0.size; omega
        refine hK _ _ (HS.out _ b2) ?_
        clear hK j hc bc sc hg
        try simp only [Act.put, List.setIfInBounds_toArray, List.set_cons_zero, List.set_cons_succ]
        refine fan_one 11 (by kernel_rfl) ?_
        refine fan_step rfl (by kernel_rfl) fun j hK => ?_
        refine wp_call_of 16 _ _ (by rfl) #[.agg #[.int .i64 root, .int .i64 next, .slice pa pn pc], st key, st val] (by simp [Act.eval]) (Try.call16 _ _) (KU.out _ b2) ?_
        rintro e c3 ⟨u, ua, un9, uc, err, rfl, pB, bF⟩
        have b3 := b2.trans (bF.mono b2.size)
        replace pB := pB.base (B := wr.heap.size) b2.size
        replace h7 := (bF.block _ (lt_of_block h7)).trans h7
        clear bF
        refine ⟨_, rfl, hK _ _ (HS.out _ b3) ?_⟩
        clear hK j
        try simp only [Act.put, List.setIfInBounds_toArray, List.set_cons_zero, List.set_cons_succ]
        refine fan_take (i := 12) (v := ?_) rfl (by kernel_rfl) (fun _ _ _ _ h => h) (by kernel_rfl) (HS.out _ b3) ?_ ?_
        rotate_left
        ·rintro w9 ⟨t0, t1, t2, t3, t4⟩
         go_simp
         try with_reducible rfl
        try simp only [Act.put, List.setIfInBounds_toArray, List.set_cons_zero, List.set_cons_succ]
        refine fan_take (i := 13) (v := ?_) rfl (by kernel_rfl) (fun _ _ _ _ h => h) (by kernel_rfl) (HS.out _ b3) ?_ ?_
        rotate_left
        ·rintro w9 ⟨t0, t1, t2, t3, t4⟩
         go_simp
         try with_reducible rfl
        try simp only [Act.put, List.setIfInBounds_toArray, List.set_cons_zero, List.set_cons_succ]
        refine fan_take (i := 14) (v := ?_) rfl (by kernel_rfl) (fun _ _ _ _ h => h) (by kernel_rfl) (HS.out _ b3) ?_ ?_
        rotate_left
        ·rintro w9 ⟨t0, t1, t2, t3, t4⟩
         go_simp
         try with_reducible rfl
        try simp only [Act.put, List.setIfInBounds_toArray, List.set_cons_zero, List.set_cons_succ]
        refine fan_one 16 (by kernel_rfl) ?_
        have y9 := cells3p h7
        obtain ⟨⟨y0, y1, y2⟩, yF⟩ := y9
        refine fan_step rfl (by kernel_rfl) fun j hK => ?_
        go_simp
        obtain ⟨d1, hd⟩ : ∃ d, d = ((c3.setCell ⟨g7, 0, none⟩ (.int .i64 u.root)).setCell ⟨g7, 1, none⟩ (.int .i64 u.next)).setCell ⟨g7, 2, none⟩ (.slice ua un9 uc) := ⟨_, rfl⟩
        rw [← hd]
        have e1 : Below wr.heap.size wr d1 := by rw [hd]; exact below_set3t b3 lg7 _ _ _
        have i7 : d1.heap[g7]? = some (.cells #[(.int .i64 u.root), (.int .i64 u.next), (.slice ua un9 uc)] 27 (0, 0)) := by rw [hd]; exact heap_set3t h7 _ _ _
        have kd := fun e (he : e ≠ 27) => s3_keep9 h7 (.int .i64 u.root) (.int .i64 u.next) (.slice ua un9 uc) he
        rw [← hd] at kd
        have pD := pB.keep kd
        refine hK _ _ (HS.out _ e1) ?_
        clear hK j y0 y1 y2 yF hd kd
        try simp only [Act.put, List.setIfInBounds_toArray, List.set_cons_zero, List.set_cons_succ]
        refine fan_done (by kernel_rfl) ?_
        show wpList _ _ _ _ _ _
        have FIN := hide (And.intro e1 (And.intro i7 (And.intro pD lg7)))
        clear e1 i7 pD pB lg7 h7
        go_wp2_with fail
        go_meet
        exact ⟨g7, u, _, _, _, err, rfl, rfl, FIN⟩
      case rest =>
       obtain ⟨g12, u1, ua1, un1, uc1, err1, rfl, rfl, hCa⟩ := hcut
       obtain ⟨w6, hw6⟩ : ∃ x, x = wc := ⟨_, rfl⟩
       subst hw6
       have hSa := PutB.sure hCa.out.2.2.1 hB.out.qa hyk.out hyv.out (by have := hpl.out; omega) (by have := hB.out.na; omega)
       obtain ⟨rfl, oa6, ca6⟩ := hSa
       replace ca6 : Chg t u1 (pall9 (l.take (j + 1))) := by rw [hsn.out, pall9_snoc]; exact ca6
       have OA := hide (And.intro oa6 ca6)
       have T6 := hide (hB.out.to hCa.out.1)
       clear A0 A1 A2 AF s1 s2 Z0 Z1 Z2 ZF HS KU oa6 ca6
       obtain ⟨fa, fc, hfv⟩ := (OwnP.rd hB.out.off).slice
       have hlen := hB.out.ln
       obtain ⟨m', hm'⟩ : ∃ m', lf.length = m' + 1 := ⟨lf.length - 1, by rw [← hn.out] at hlen; omega⟩
       obtain ⟨m, hm⟩ : ∃ m, m = lf.length := ⟨_, rfl⟩
       rw [← hm] at hfv
       subst hfv
       have hm60 : m ≤ 60 := by rw [hm]; omega
       have hmm : m = m' + 1 := by rw [hm]; exact hm'
       replace hm := hide hm
       replace hmm := hide hmm
       replace hm' := hide hm'
       replace hlen := hide hlen
       go_upto_if 96 with fail
       go_cut [14] from 72 to 146 (fun p9 wx => ∃ K : Nat, K < m ∧ p9 = .int .i64 K ∧ w6 = wx)
       case first =>
        by_cases hjo : j < len1
        ·have hqo : (j : Int) < (len1 : Int) := by omega
         obtain ⟨o, ho⟩ : ∃ y, os[j]? = some y := ⟨_, List.getElem?_eq_getElem (by rw [← hM.out]; exact hjo)⟩
         obtain ⟨ob, oo, rfl, o1⟩ := (HR1.out.to0 (B1.out.trans (T6.out.bel.mono B1.out.size))).intAt ho
         replace ho := hide ho
         have hqd : decide ((j : Int) < (len1 : Int)) = true := decide_eq_true hqo
         have hNp : (0 : Int) < (m : Int) := by have := hmm.out; omega
         have hne : ((m : Int) == 0) = false := by simp; omega
         have hNm : (m : Int) ≤ 400 := by omega
         have l1 := Int.lt_tmod_of_pos o hNp
         have l2 := Int.tmod_lt_of_pos o hNp
         have l3 := Int.tmod_nonneg (a := o.tmod m + m) m (by omega)
         have l4 := Int.tmod_lt_of_pos (o.tmod m + m) hNp
         go_wp2_with fail
         have k1 := Int.emod_nonneg (o.tmod m + m) (b := (m : Int)) (by omega)
         have k2 := Int.emod_lt_of_pos (o.tmod m + m) hNp
         go_meet
         case rel => exact ⟨((o.tmod m + m) % m).toNat, by omega, by rw [Int.toNat_of_nonneg k1], rfl⟩
        ·have hqo : ¬ (j : Int) < (len1 : Int) := by omega
         have hqd : decide ((j : Int) < (len1 : Int)) = false := decide_eq_false hqo
         go_wp2_with fail
         go_meet
         case rel => exact ⟨0, by have := hmm.out; omega, rfl, rfl⟩
       case rest =>
        obtain ⟨K, hK, rfl, rfl⟩ := hcut
        have hqK : (K : Int) < (m : Int) := by omega
        obtain ⟨y2, hy2⟩ : ∃ y, lf[K]? = some y := ⟨_, List.getElem?_eq_getElem (by rw [← hm.out]; exact hK)⟩
        obtain ⟨z, hz9⟩ : ∃ y, lf[lf.length - 1]? = some y := ⟨_, List.getElem?_eq_getElem (by have := hm'.out; omega)⟩
        have hy2l : y2 ∈ l := (hB.out.pm.mem_iff).1 (List.mem_append.2 (.inr (List.mem_of_getElem? hy2)))
        have hyok := hI.out.2.2.1.2 y2 hy2l
        obtain ⟨sb2, so2, hfa, s1, s2⟩ := (OwnP.rd T6.out.off).prAt hy2
        obtain ⟨key2, val2⟩ := y2
        dsimp only at s1 s2 hyok
        have hyk2 := hide hyok.1
        have hyv2 := hide hyok.2
        have hkl2 : Hid (key2.length ≤ 9223372036854775807) := by show _ ≤ _; have := (tkey_is hyk2.out).2; omega
        subst hfa
        have hso : Hid (so2 = 0) := by
         obtain ⟨fg, hfg, _⟩ := OwnP.out T6.out.off (K := K) (by rw [← hm.out]; exact hK) z
         simp only [Option.some.injEq, Addr.mk.injEq, and_true] at hfg
         exact hfg.2
        have hTB := T6.out.bb
        rw [← hrn2.out, ← hnn2.out] at hTB
        obtain ⟨⟨Z0, Z1, Z2⟩, ZF⟩ := cells3p hTB
        have HS : Hid (∀ w9, Below w6.heap.size w6 w9 → w9.cell? ⟨g8 + 1, 0, none⟩ = some (.int .i64 root2) ∧ w9.cell? ⟨g8 + 1, 1, none⟩ = some (.int .i64 next2) ∧ w9.cell? ⟨g8 + 1, 2, none⟩ = some (.slice pa2 pn2 pc2) ∧ w9.cell? ⟨sb2, so2 + K * 2, none⟩ = some (st key2) ∧ w9.cell? ⟨sb2, so2 + K * 2 + 1, none⟩ = some (st val2)) := fun w9 b9 =>
         ⟨(b9.cell (cell_lt Z0)).trans Z0, (b9.cell (cell_lt Z1)).trans Z1, (b9.cell (cell_lt Z2)).trans Z2, (b9.cell (cell_lt s1)).trans s1, (b9.cell (cell_lt s2)).trans s2⟩
        have hdn : Hid (KNo dn ∧ dn.length ≤ 60) := by
         have h1 : KNo (dn ++ lf) := (hB.out.pm.map _).nodup_iff.2 hI.out.2.2.1.1
         have h2 := hB.out.pm.length_eq
         unfold KNo at h1 ⊢
         rw [List.map_append, List.nodup_append] at h1
         rw [List.length_append] at h2
         exact ⟨h1.1, by omega⟩
        have HZ := hide (And.intro hy2 hz9)
        replace hy2l := hide hy2l
        clear hyok hTB hy2 hz9
        go_upto_region 19 with fail
        have KU : Hid (∀ w9, Below w6.heap.size w6 w9 → Calls Try.prog 16 #[.agg #[.int .i64 root2, .int .i64 next2, .slice pa2 pn2 pc2], st key2, st val2] w9 fun e w6 => ∃ u ua un9 uc err, e = .returned (.tuple #[.agg #[.int .i64 u.root, .int .i64 u.next, .slice ua un9 uc], .int .i64 err]) ∧ PutB w9.heap.size w6 t2 key2 val2 u (.slice ua un9 uc) err ∧ Below w9.heap.size w9 w6) := fun w9 b9 => by
         have h9 := pput_any w9 t2 (.slice pa2 pn2 pc2) key2 val2 (T6.out.to b9).ob.rd (fun x hx => by have := hB.out.sb x hx; omega) (tprs_num hB.out.qb).1.rwf hkl2.out
         dsimp only [tv] at h9
         rw [← hrn2.out, ← hnn2.out] at h9
         exact Calls.mono h9 fun e w6 h => h.to
        go_cut [15, 16] from 72 to 146 (fun pp ee wx => ∃ (g7 : Nat) (u : Tr) (ua : Option Addr) (un9 uc : Nat) (err : Int), pp = .pointer (some ⟨g7, 0, none⟩) ∧ ee = .int .i64 err ∧ Hid (Below w6.heap.size w6 wx ∧ wx.heap[g7]? = some (.cells #[.int .i64 u.root, .int .i64 u.next, .slice ua un9 uc] 27 (0, 0)) ∧ PutB w6.heap.size wx t2 key2 val2 u (.slice ua un9 uc) err ∧ w6.heap.size ≤ g7))
        case first =>
         have b0 : Below w6.heap.size w6 w6.drew := (Below.refl _ _).drew
         refine wp_region_fan (fun w9 => w9.cell? ⟨g8 + 1, 0, none⟩ = some (.int .i64 root2) ∧ w9.cell? ⟨g8 + 1, 1, none⟩ = some (.int .i64 next2) ∧ w9.cell? ⟨g8 + 1, 2, none⟩ = some (.slice pa2 pn2 pc2) ∧ w9.cell? ⟨sb2, so2 + K * 2, none⟩ = some (st key2) ∧ w9.cell? ⟨sb2, so2 + K * 2 + 1, none⟩ = some (st val2)) 17 mixed (by simp) ?_
         generalize w6.drew = c0 at *
         clear Z0 Z1 Z2 ZF s1 s2
         refine fan_take (i := 0) (v := ?_) rfl (by kernel_rfl) (fun _ _ _ _ h => h) (by kernel_rfl) (HS.out _ b0) ?_ ?_
         rotate_left
         ·rintro w9 ⟨t0, t1, t2, t3, t4⟩
          go_simp
          try with_reducible rfl
         try simp only [Act.put, List.setIfInBounds_toArray, List.set_cons_zero, List.set_cons_succ]
         refine fan_take (i := 1) (v := ?_) rfl (by kernel_rfl) (fun _ _ _ _ h => h) (by kernel_rfl) (HS.out _ b0) ?_ ?_
         rotate_left
         ·rintro w9 ⟨t0, t1, t2, t3, t4⟩
          go_simp
          try with_reducible rfl
         try simp only [Act.put, List.setIfInBounds_toArray, List.set_cons_zero, List.set_cons_succ]
         refine fan_take (i := 2) (v := ?_) rfl (by kernel_rfl) (fun _ _ _ _ h => h) (by kernel_rfl) (HS.out _ b0) ?_ ?_
         rotate_left
         ·rintro w9 ⟨t0, t1, t2, t3, t4⟩
          go_simp
          try with_reducible rfl
         try simp only [Act.put, List.setIfInBounds_toArray, List.set_cons_zero, List.set_cons_succ]
         refine fan_take (i := 3) (v := ?_) rfl (by kernel_rfl) (fun _ _ _ _ h => h) (by kernel_rfl) (HS.out _ b0) ?_ ?_
         rotate_left
         ·rintro w9 ⟨t0, t1, t2, t3, t4⟩
          go_simp
          try with_reducible rfl
         try simp only [Act.put, List.setIfInBounds_toArray, List.set_cons_zero, List.set_cons_succ]
         refine fan_take (i := 4) (v := ?_) rfl (by kernel_rfl) (fun _ _ _ _ h => h) (by kernel_rfl) (HS.out _ b0) ?_ ?_
         rotate_left
         ·rintro w9 ⟨t0, t1, t2, t3, t4⟩
          go_simp
          try with_reducible rfl
         try simp only [Act.put, List.setIfInBounds_toArray, List.set_cons_zero, List.set_cons_succ]
         refine fan_take (i := 5) (v := ?_) rfl (by kernel_rfl) (fun _ _ _ _ h => h) (by kernel_rfl) (HS.out _ b0) ?_ ?_
         rotate_left
         ·rintro w9 ⟨t0, t1, t2, t3, t4⟩
          go_simp
          try with_reducible rfl
         try simp only [Act.put, List.setIfInBounds_toArray, List.set_cons_zero, List.set_cons_succ]
         refine fan_take (i := 6) (v := ?_) rfl (by kernel_rfl) (fun _ _ _ _ h => h) (by kernel_rfl) (HS.out _ b0) ?_ ?_
         rotate_left
         ·rintro w9 ⟨t0, t1, t2, t3, t4⟩
          go_simp
          try with_reducible rfl
         try simp only [Act.put, List.setIfInBounds_toArray, List.set_cons_zero, List.set_cons_succ]
         refine fan_take (i := 7) (v := ?_) rfl (by kernel_rfl) (fun _ _ _ _ h => h) (by kernel_rfl) (HS.out _ b0) ?_ ?_
         rotate_left
         ·rintro w9 ⟨t0, t1, t2, t3, t4⟩
          go_simp
          try with_reducible rfl
         try simp only [Act.put, List.setIfInBounds_toArray, List.set_cons_zero, List.set_cons_succ]
         refine fan_take (i := 8) (v := ?_) rfl (by kernel_rfl) (fun _ _ _ _ h => h) (by kernel_rfl) (HS.out _ b0) ?_ ?_
         rotate_left
         ·rintro w9 ⟨t0, t1, t2, t3, t4⟩
          go_simp
          try with_reducible rfl
         try simp only [Act.put, List.setIfInBounds_toArray, List.set_cons_zero, List.set_cons_succ]
         refine fan_take (i := 9) (v := ?_) rfl (by kernel_rfl) (fun _ _ _ _ h => h) (by kernel_rfl) (HS.out _ b0) ?_ ?_
         rotate_left
         ·rintro w9 ⟨t0, t1, t2, t3, t4⟩
          go_simp
          try with_reducible rfl
         try simp only [Act.put, List.setIfInBounds_toArray, List.set_cons_zero, List.set_cons_succ]
         refine fan_take (i := 10) (v := ?_) rfl (by kernel_rfl) (fun _ _ _ _ h => h) (by kernel_rfl) (HS.out _ b0) ?_ ?_
         rotate_left
         ·rintro w9 ⟨t0, t1, t2, t3, t4⟩
          go_simp
          try with_reducible rfl
         try simp only [Act.put, List.setIfInBounds_toArray, List.set_cons_zero, List.set_cons_succ]
         refine fan_two 11 15 (by kernel_rfl) ?_ ?_
         ·
          refine fan_step rfl (by kernel_rfl) fun K hK => ?_
          refine wp_call_of 16 _ _ (by rfl) #[.agg #[.int .i64 root2, .int .i64 next2, .slice pa2 pn2 pc2], st key2, st val2] (by simp [Act.eval]) (Try.call16 _ _) (KU.out _ b0) ?_
          rintro e c2 ⟨u, ua, un9, uc, err, rfl, pB, bF⟩
          have b2 := b0.trans (bF.mono b0.size)
          replace pB := pB.base (B := w6.heap.size) b0.size
          clear bF
          refine ⟨_, rfl, hK _ _ (HS.out _ b2) ?_⟩
          clear hK K
          try simp only [Act.put, List.setIfInBounds_toArray, List.set_cons_zero, List.set_cons_succ]
          refine fan_take (i := 12) (v := ?_) rfl (by kernel_rfl) (fun _ _ _ _ h => h) (by kernel_rfl) (HS.out _ b2) ?_ ?_
          rotate_left
          ·rintro w9 ⟨t0, t1, t2, t3, t4⟩
           go_simp
           try with_reducible rfl
          try simp only [Act.put, List.setIfInBounds_toArray, List.set_cons_zero, List.set_cons_succ]
          refine fan_take (i := 13) (v := ?_) rfl (by kernel_rfl) (fun _ _ _ _ h => h) (by kernel_rfl) (HS.out _ b2) ?_ ?_
          rotate_left
          ·rintro w9 ⟨t0, t1, t2, t3, t4⟩
           go_simp
           try with_reducible rfl
          try simp only [Act.put, List.setIfInBounds_toArray, List.set_cons_zero, List.set_cons_succ]
          refine fan_take (i := 14) (v := ?_) rfl (by kernel_rfl) (fun _ _ _ _ h => h) (by kernel_rfl) (HS.out _ b2) ?_ ?_
          rotate_left
          ·rintro w9 ⟨t0, t1, t2, t3, t4⟩
           go_simp
           try with_reducible rfl
          try simp only [Act.put, List.setIfInBounds_toArray, List.set_cons_zero, List.set_cons_succ]
          refine fan_one 15 (by kernel_rfl) ?_
          refine fan_step rfl (by kernel_rfl) fun K hK => ?_
          go_simp
          obtain ⟨c3, hc, h7, bc, sc⟩ := boxedN c2 #[.int .i64 0, .int .i64 0, .slice none 0 0] 27
          rw [← hc]
          have b3 := b2.trans (bc.mono b2.size)
          obtain ⟨g7, hg⟩ : ∃ g, g = c2.heap.size := ⟨_, rfl⟩
          rw [← hg] at h7
          rw [← hg]
          have lg7 : w6.heap.size ≤ g7 := by have := b2.size; omega
          replace pB := pB.to bc
          refine hK _ _ (HS.out _ b3) ?_
          clear hK K hc bc sc hg
          try simp only [Act.put, List.setIfInBounds_toArray, List.set_cons_zero, List.set_cons_succ]
          refine fan_one 16 (by kernel_rfl) ?_
          have y9 := cells3p h7
          obtain ⟨⟨y0, y1, y2⟩, yF⟩ := y9
          refine fan_step rfl (by kernel_rfl) fun K hK => ?_
          go_simp
          obtain ⟨d1, hd⟩ : ∃ d, d = ((c3.setCell ⟨g7, 0, none⟩ (.int .i64 u.root)).setCell ⟨g7, 1, none⟩ (.int .i64 u.next)).setCell ⟨g7, 2, none⟩ (.slice ua un9 uc) := ⟨_, rfl⟩
          rw [← hd]
          have e1 : Below w6.heap.size w6 d1 := by rw [hd]; exact below_set3t b3 lg7 _ _ _
          have i7 : d1.heap[g7]? = some (.cells #[(.int .i64 u.root), (.int .i64 u.next), (.slice ua un9 uc)] 27 (0, 0)) := by rw [hd]; exact heap_set3t h7 _ _ _
          have kd := fun e (he : e ≠ 27) => s3_keep9 h7 (.int .i64 u.root) (.int .i64 u.next) (.slice ua un9 uc) he
          rw [← hd] at kd
          have pD := pB.keep kd
          refine hK _ _ (HS.out _ e1) ?_
          clear hK K y0 y1 y2 yF hd kd
          try simp only [Act.put, List.setIfInBounds_toArray, List.set_cons_zero, List.set_cons_succ]
          refine fan_done (by kernel_rfl) ?_
          show wpList _ _ _ _ _ _
          have FIN := hide (And.intro e1 (And.intro i7 (And.intro pD lg7)))
          clear e1 i7 pD pB lg7 h7
          go_wp2_with fail
          go_meet
          exact ⟨g7, u, _, _, _, err, rfl, rfl, FIN⟩
         ·
          refine fan_step rfl (by kernel_rfl) fun K hK => ?_
          go_simp
          obtain ⟨c2, hc, h7, bc, sc⟩ := boxedN c0 #[.int .i64 0, .int .i64 0, .slice none 0 0] 27
          rw [← hc]
          have b2 := b0.trans (bc.mono b0.size)
          obtain ⟨g7, hg⟩ : ∃ g, g = c0.heap.size := ⟨_, rfl⟩
          rw [← hg] at h7
          rw [← hg]
          have lg7 : w6.heap.size ≤ g7 := by have := b0.size; omega
          refine hK _ _ (HS.out _ b2) ?_
          clear hK K hc bc sc hg
          try simp only [Act.put, List.setIfInBounds_toArray, List.set_cons_zero, List.set_cons_succ]
          refine fan_one 11 (by kernel_rfl) ?_
          refine fan_step rfl (by kernel_rfl) fun K hK => ?_
          refine wp_call_of 16 _ _ (by rfl) #[.agg #[.int .i64 root2, .int .i64 next2, .slice pa2 pn2 pc2], st key2, st val2] (by simp [Act.eval]) (Try.call16 _ _) (KU.out _ b2) ?_
          rintro e c3 ⟨u, ua, un9, uc, err, rfl, pB, bF⟩
          have b3 := b2.trans (bF.mono b2.size)
          replace pB := pB.base (B := w6.heap.size) b2.size
          replace h7 := (bF.block _ (lt_of_block h7)).trans h7
          clear bF
          refine ⟨_, rfl, hK _ _ (HS.out _ b3) ?_⟩
          clear hK K
          try simp only [Act.put, List.setIfInBounds_toArray, List.set_cons_zero, List.set_cons_succ]
          refine fan_take (i := 12) (v := ?_) rfl (by kernel_rfl) (fun _ _ _ _ h => h) (by kernel_rfl) (HS.out _ b3) ?_ ?_
          rotate_left
          ·rintro w9 ⟨t0, t1, t2, t3, t4⟩
           go_simp
           try with_reducible rfl
          try simp only [Act.put, List.setIfInBounds_toArray, List.set_cons_zero, List.set_cons_succ]
          refine fan_take (i := 13) (v := ?_) rfl (by kernel_rfl) (fun _ _ _ _ h => h) (by kernel_rfl) (HS.out _ b3) ?_ ?_
          rotate_left
          ·rintro w9 ⟨t0, t1, t2, t3, t4⟩
           go_simp
           try with_reducible rfl
          try simp only [Act.put, List.setIfInBounds_toArray, List.set_cons_zero, List.set_cons_succ]
          refine fan_take (i := 14) (v := ?_) rfl (by kernel_rfl) (fun _ _ _ _ h => h) (by kernel_rfl) (HS.out _ b3) ?_ ?_
          rotate_left
          ·rintro w9 ⟨t0, t1, t2, t3, t4⟩
           go_simp
           try with_reducible rfl
          try simp only [Act.put, List.setIfInBounds_toArray, List.set_cons_zero, List.set_cons_succ]
          refine fan_one 16 (by kernel_rfl) ?_
          have y9 := cells3p h7
          obtain ⟨⟨y0, y1, y2⟩, yF⟩ := y9
          refine fan_step rfl (by kernel_rfl) fun K hK => ?_
          go_simp
          obtain ⟨d1, hd⟩ : ∃ d, d = ((c3.setCell ⟨g7, 0, none⟩ (.int .i64 u.root)).setCell ⟨g7, 1, none⟩ (.int .i64 u.next)).setCell ⟨g7, 2, none⟩ (.slice ua un9 uc) := ⟨_, rfl⟩
          rw [← hd]
          have e1 : Below w6.heap.size w6 d1 := by rw [hd]; exact below_set3t b3 lg7 _ _ _
          have i7 : d1.heap[g7]? = some (.cells #[(.int .i64 u.root), (.int .i64 u.next), (.slice ua un9 uc)] 27 (0, 0)) := by rw [hd]; exact heap_set3t h7 _ _ _
          have kd := fun e (he : e ≠ 27) => s3_keep9 h7 (.int .i64 u.root) (.int .i64 u.next) (.slice ua un9 uc) he
          rw [← hd] at kd
          have pD := pB.keep kd
          refine hK _ _ (HS.out _ e1) ?_
          clear hK K y0 y1 y2 yF hd kd
          try simp only [Act.put, List.setIfInBounds_toArray, List.set_cons_zero, List.set_cons_succ]
          refine fan_done (by kernel_rfl) ?_
          show wpList _ _ _ _ _ _
          have FIN := hide (And.intro e1 (And.intro i7 (And.intro pD lg7)))
          clear e1 i7 pD pB lg7 h7
          go_wp2_with fail
          go_meet
          exact ⟨g7, u, _, _, _, err, rfl, rfl, FIN⟩
        case rest =>
         obtain ⟨g15, u2, ua2, un2, uc2, err2, rfl, rfl, hCb⟩ := hcut
         obtain ⟨w7, hw7⟩ : ∃ x, x = wc := ⟨_, rfl⟩
         subst hw7
         have hso0 := hso.out
         subst hso0
         have hSb := PutB.sure hCb.out.2.2.1 hB.out.qb hyk2.out hyv2.out (by rw [pall9_len _ rfl hdn.out.1]; have := hdn.out.2; omega) (by have := hB.out.nb; omega)
         obtain ⟨rfl, ob7, cb7⟩ := hSb
         replace cb7 : Chg t2 u2 (pall9 (dn ++ [(key2, val2)])) := by rw [pall9_snoc]; exact cb7
         have T7 := hide (T6.out.to hCb.out.1)
         have KN := hide (pnum10_any w7 0)
         have OB := hide (And.intro ob7 cb7)
         clear Z0 Z1 Z2 ZF s1 s2 HS KU ob7 cb7
         go_wp2_with fail
         refine KN.out.mono ?_
         rintro e w8 ⟨rfl, rfl⟩
         go_wp2_with fail
         refine KN.out.mono ?_
         rintro e w8 ⟨rfl, rfl⟩
         clear KN
         have G12 := (hCb.out.1.block _ (lt_of_block hCa.out.2.1)).trans hCa.out.2.1
         have G15 := hCb.out.2.1
         go_upto_region 22 with fail
         have b0 : Below w7.heap.size w7 w7.drew := (Below.refl _ _).drew
         have HX := hide (And.intro ((b0.block _ (lt_of_block G12)).trans G12) (And.intro ((b0.block _ (lt_of_block G15)).trans G15) b0))
         have T8 := hide (T7.out.to b0)
         have h12 : g8 ≠ g12 := fun e => by have := lt_of_block hB.out.ba; have := hCa.out.2.2.2; omega
         have h15 : g8 ≠ g15 := fun e => by have := lt_of_block T6.out.ba; have := hCb.out.2.2.2; omega
         obtain ⟨⟨x0, x1, x2⟩, _⟩ := cells3p HX.out.1
         obtain ⟨⟨x3, x4, x5⟩, _⟩ := cells3p HX.out.2.1
         refine wp_region_fan (fun w9 => w9.cell? ⟨g12, 0, none⟩ = some (.int .i64 u1.root) ∧ w9.cell? ⟨g12, 1, none⟩ = some (.int .i64 u1.next) ∧ w9.cell? ⟨g12, 2, none⟩ = some (.slice ua1 un1 uc1) ∧ w9.cell? ⟨g15, 0, none⟩ = some (.int .i64 u2.root) ∧ w9.cell? ⟨g15, 1, none⟩ = some (.int .i64 u2.next) ∧ w9.cell? ⟨g15, 2, none⟩ = some (.slice ua2 un2 uc2)) 3 mixed (by simp) ?_
         have S0 : Hid (w7.drew.cell? ⟨g12, 0, none⟩ = some (.int .i64 u1.root) ∧ w7.drew.cell? ⟨g12, 1, none⟩ = some (.int .i64 u1.next) ∧ w7.drew.cell? ⟨g12, 2, none⟩ = some (.slice ua1 un1 uc1) ∧ w7.drew.cell? ⟨g15, 0, none⟩ = some (.int .i64 u2.root) ∧ w7.drew.cell? ⟨g15, 1, none⟩ = some (.int .i64 u2.next) ∧ w7.drew.cell? ⟨g15, 2, none⟩ = some (.slice ua2 un2 uc2)) := ⟨x0, x1, x2, x3, x4, x5⟩
         generalize w7.drew = c0 at *
         clear x0 x1 x2 x3 x4 x5 G12 G15 b0
         refine fan_take (i := 0) (v := ?_) rfl (by kernel_rfl) (fun _ _ _ _ h => h) (by kernel_rfl) S0.out ?_ ?_
         rotate_left
         ·rintro w9 ⟨q0, q1, q2, q3, q4, q5⟩
          go_simp
          try with_reducible rfl
         try simp only [Act.put, List.setIfInBounds_toArray, List.set_cons_zero, List.set_cons_succ]
         refine fan_take (i := 1) (v := ?_) rfl (by kernel_rfl) (fun _ _ _ _ h => h) (by kernel_rfl) S0.out ?_ ?_
         rotate_left
         ·rintro w9 ⟨q0, q1, q2, q3, q4, q5⟩
          go_simp
          try with_reducible rfl
         try simp only [Act.put, List.setIfInBounds_toArray, List.set_cons_zero, List.set_cons_succ]
         refine fan_one 2 (by kernel_rfl) ?_
         have y9 := cells3p T8.out.ba
         obtain ⟨⟨y0, y1, y2⟩, yF⟩ := y9
         refine fan_step rfl (by kernel_rfl) fun K' hK' => ?_
         go_simp
         obtain ⟨c1, hc1⟩ : ∃ d, d = ((c0.setCell ⟨g8, 0, none⟩ (.int .i64 u1.root)).setCell ⟨g8, 1, none⟩ (.int .i64 u1.next)).setCell ⟨g8, 2, none⟩ (.slice ua1 un1 uc1) := ⟨_, rfl⟩
         rw [← hc1]
         have e12 : c1.heap[g12]? = some (.cells #[.int .i64 u1.root, .int .i64 u1.next, .slice ua1 un1 uc1] 27 (0, 0)) := by rw [hc1]; exact (Below.heap_setCell _ _ _ _ (Ne.symm h12)).trans ((Below.heap_setCell _ _ _ _ (Ne.symm h12)).trans ((Below.heap_setCell _ _ _ _ (Ne.symm h12)).trans HX.out.1))
         have e15 : c1.heap[g15]? = some (.cells #[.int .i64 u2.root, .int .i64 u2.next, .slice ua2 un2 uc2] 27 (0, 0)) := by rw [hc1]; exact (Below.heap_setCell _ _ _ _ (Ne.symm h15)).trans ((Below.heap_setCell _ _ _ _ (Ne.symm h15)).trans ((Below.heap_setCell _ _ _ _ (Ne.symm h15)).trans HX.out.2.1))
         have z12 := cells3p e12
         have z15 := cells3p e15
         refine hK' _ _ ⟨z12.1.1, z12.1.2.1, z12.1.2.2, z15.1.1, z15.1.2.1, z15.1.2.2⟩ ?_
         clear hK' K' y0 y1 y2 yF z12 z15 e12 e15
         try simp only [Act.put, List.setIfInBounds_toArray, List.set_cons_zero, List.set_cons_succ]
         refine fan_done (by kernel_rfl) ?_
         show wpList _ _ _ _ _ _
         have e9 : c1.heap[g8 + 1]? = some (.cells #[.int .i64 t2.root, .int .i64 t2.next, .slice pa2 pn2 pc2] 27 (0, 0)) := by rw [hc1]; exact (Below.heap_setCell _ _ _ _ (show g8 + 1 ≠ g8 by omega)).trans ((Below.heap_setCell _ _ _ _ (show g8 + 1 ≠ g8 by omega)).trans ((Below.heap_setCell _ _ _ _ (show g8 + 1 ≠ g8 by omega)).trans T8.out.bb))
         obtain ⟨zk, zv⟩ := z
         have FIN0 := T8.out.step OA.out.2 OB.out.2 (OwnPg.base ((OA.out.1.to9 hCb.out.1).to9 HX.out.2.2) hB.out.bel.size) (OwnPg.base (OB.out.1.to9 HX.out.2.2) T6.out.bel.size) HZ.out.1 HZ.out.2
         rw [← hc1] at FIN0
         have hl9 : lf.length - 1 = m' := by have := hm'.out; omega
         have hm9 : m - 1 = m' := by have := hmm.out; omega
         rw [hm9] at FIN0
         have FIN := hide FIN0
         have kc1 := fun e (he : e ≠ 27) => s3_keep9 T8.out.ba (.int .i64 u1.root) (.int .i64 u1.next) (.slice ua1 un1 uc1) he
         rw [← hc1] at kc1
         have kc2 := fun e (he : e ≠ 27) => s3_keep9 e9 (.int .i64 u2.root) (.int .i64 u2.next) (.slice ua2 un2 uc2) he
         have of2 := rows_keepT (rows_keepT T8.out.off (kc1 _ (by decide))) (kc2 _ (by decide))
         obtain ⟨b9, o9, hbo, R0, R1⟩ := (OwnP.rd of2).prAt HZ.out.2
         simp only [Option.some.injEq, Addr.mk.injEq, and_true] at hbo
         obtain ⟨rfl, rfl⟩ := hbo
         obtain ⟨b9', o9', hbo, R2, R3⟩ := (OwnP.rd of2).prAt HZ.out.1
         simp only [Option.some.injEq, Addr.mk.injEq, and_true] at hbo
         obtain ⟨rfl, rfl⟩ := hbo
         obtain ⟨_, eg, _, _, _, _, ⟨cur, hcur, _⟩, _⟩ := OwnP.out of2 (K := K) (by rw [← hm.out]; exact hK) (zk, zv)
         simp only [Option.some.injEq, Addr.mk.injEq, and_true] at eg
         subst eg
         have F0 := frozN hcur (K * 2)
         have F1 := frozN hcur (K * 2 + 1)
         rw [hl9] at R0 R1
         simp only [Nat.zero_add] at R0 R1 R2 R3
         try dsimp only at R0 R1 R2 R3
         obtain ⟨⟨J0, J1, J2⟩, JF⟩ := cells3p e9
         have hmi : (m : Int) - 1 = (m' : Int) := by have := hmm.out; omega
         have hmw : wrap64 ((m : Int) - 1) = (m' : Int) := by rw [hmi]; unfold wrap64; have := hmm.out; omega
         have hmq : (m' : Int) < (m : Int) := by omega
         have hmc : m ≤ fc := rdS_cap' T8.out.off
         have hmc' : m' ≤ fc := by have := hmm.out; omega
         clear FIN0 kc1 kc2 of2 hcur e9
         replace hc1 := hide hc1
         replace h12 := hide h12
         replace h15 := hide h15
         go_wp2
         go_roundw
         case rel => exact ⟨j + 1, _, rfl, by omega, by go_num, ⟨u1, u2, _, _, _, _, FIN.out⟩⟩
         case measure => simp [intOf]; omega
     ·have hqj : ¬ (j : Int) < (n : Int) := by omega
      have hjn : j = n := by omega
      have hlf : lf = [] := List.eq_nil_of_length_eq_zero (by have := hB.out.ln; have := hn.out; omega)
      have hqa : tprs t = some (pall9 l) := by
       have h1 := hB.out.qa
       rw [List.take_of_length_le (by have := hn.out; omega)] at h1
       exact h1
      have hpe : pall9 dn = pall9 l := by
       have h1 := hB.out.pm
       rw [hlf, List.append_nil] at h1
       exact (pall9_perm h1.symm hI.out.2.2.1.1).symm
      have hqb : tprs t2 = some (pall9 l) := by rw [← hpe]; exact hB.out.qb
      have KS := pscan10_any wr t (.slice pa pn pc) [] [] hB.out.oa.rd (tprs_num hB.out.qa).1.rwf
      rw [tscan_is hqa, pscan_all] at KS
      dsimp only [tv] at KS
      rw [← hrn.out, ← hnn.out] at KS
      replace KS := hide KS
      have hpl : (pall9 l).length = n := by rw [pall9_len _ rfl hI.out.2.2.1.1]; exact hn.out.symm
      replace hjn := hide hjn
      replace hlf := hide hlf
      replace hqa := hide hqa
      replace hqb := hide hqb
      replace hpe := hide hpe
      clear Z0 Z1 Z2 ZF
      go_wp2_with fail
      refine KS.out.mono ?_
      rintro e w6 ⟨v6, rfl, o6, b6⟩
      have T6 := hide (hB.out.to b6)
      have hTB := T6.out.bb
      rw [← hrn2.out, ← hnn2.out] at hTB
      obtain ⟨⟨Z0, Z1, Z2⟩, ZF⟩ := cells3p hTB
      have KS2 := pscan10_any w6 t2 (.slice pa2 pn2 pc2) [] [] T6.out.ob.rd (tprs_num hB.out.qb).1.rwf
      rw [tscan_is hqb.out, pscan_all] at KS2
      dsimp only [tv] at KS2
      rw [← hrn2.out, ← hnn2.out] at KS2
      replace KS2 := hide KS2
      obtain ⟨va6, vc6, hv6⟩ := (OwnP.rd o6).slice
      rw [hpl] at hv6
      subst hv6
      have O6 := hide o6
      have B6 := hide (BZ.out.trans (b6.mono BZ.out.size))
      clear o6 b6 KS A0 A1 A2 AF hTB
      dsimp only
      go_wp2_with fail
      refine KS2.out.mono ?_
      rintro e w7 ⟨v7, rfl, o7, b7⟩
      have KN := hide (pnum10_any w7 0)
      have KE := hide (samep_any w7 _ _ _ _ ((OwnP.rd O6.out).to0 b7) (OwnP.rd o7))
      rw [decide_eq_true rfl] at KE
      obtain ⟨va7, vc7, hv7⟩ := (OwnP.rd o7).slice
      rw [hpl] at hv7
      subst hv7
      have B7 := hide (B6.out.trans (b7.mono B6.out.size))
      have hnn9 : ((n : Int) == (n : Int)) = true := by simp
      clear o7 b7 KS2 Z0 Z1 Z2 ZF
      dsimp only
      go_wp2_with fail
      refine KN.out.mono ?_
      rintro e w8 ⟨rfl, rfl⟩
      go_wp2_with fail
      refine KN.out.mono ?_
      rintro e w8 ⟨rfl, rfl⟩
      go_wp2_with fail
      refine KE.out.mono ?_
      rintro e w8 ⟨rfl, b8⟩
      have B8 := hide (B7.out.trans (b8.mono B7.out.size))
      clear KN KE b8
      go_wp2
      go_ret
      exact ⟨rfl, B8.out⟩
set_option maxRecDepth 100000 in
theorem lifted (os : Os) (started : os.Started) (H : Type) (enc : TypeId × Value → H) :
  ReturnsInHanded {} Try.checked os 4 .any (Rows.treeOrderSpec.pre6 enc Try.prog Try.f4 Rows.treeOrderRow.domain false) (Rows.treeOrderSpec.post enc Try.prog Try.f4 false true false false) := by
 refine returnsInHanded_of_change_sized (C := Try.checked) own started (by kernel_rfl) Try.func4
  (ChangeSpec.witness6 (enc := enc) (C := Try.checked) false ⟨#[], #[.slice none 0 0, .slice none 0 0], []⟩ 8 (by kernel_rfl) (by kernel_rfl) (by kernel_rfl) (by kernel_rfl)) ?_
 intro W base args ds gs before hval0 hW hcnd hsz0 _
 have hsz : (DataW.weightsEach Try.prog (Try.f4.params.toList ++ Rows.treeOrderSpec.plain.varTypes Try.prog) (ds ++ gs)).all (· ≤ reachBytes) = true := hsz0
 have hval : ∀ (j : Nat) t v, Try.f4.params[j]? = some t → args[j]? = some v → Value.okWide Try.prog W .any base t v := hval0
 have hW' := hW
 obtain ⟨p, q, hA0, hV, rfl, hfz, hnd⟩ := hW
 have hA : DataW.TrodAll enc Try.prog W 0 (fun _ => true) true Try.f4.params.toList args.toList ds p := hA0
 rw [Try.params4] at hA hval hsz
 obtain ⟨v0, vs0, d0, ds0, p0, q0, hargs, rfl, rfl, h0, r0⟩ := trodAll_cons hA
 obtain ⟨v1, vs1, d1, ds1, p1, q1, rfl, rfl, rfl, h1, r1⟩ := trodAll_cons r0
 obtain ⟨rfl, rfl, rfl⟩ := trodAll_nil r1
 obtain rfl : args = #[v0, v1] := by cases args; simp_all
 obtain ⟨rfl, rfl⟩ := trodVars_none hV
 obtain ⟨a0, len0, cap0, rfl⟩ := okWide_slice Try.underlying28 (hval 0 28 v0 rfl rfl)
 have lt0 : ∀ x ∈ p0, x.block < W.heap.size := by obtain ⟨m, hm⟩ := h0; exact DataW.trod_lt m _ _ _ hm
 have hh0 := h0
 obtain ⟨fu0, hf0⟩ := hh0
 obtain ⟨x0, g0, f0, b0⟩ := open_prs9.opened hf0
 obtain ⟨a1, len1, cap1, rfl⟩ := okWide_slice Try.underlying23 (hval 1 23 v1 rfl rfl)
 have lt1 : ∀ x ∈ p1, x.block < W.heap.size := by obtain ⟨m, hm⟩ := h1; exact DataW.trod_lt m _ _ _ hm
 have hh1 := h1
 obtain ⟨fu1, hf1⟩ := hh1
 obtain ⟨x1, g1, f1, b1⟩ := open_intl.opened hf1
 have m0 := f0 (reach_of hsz (j := 0) rfl rfl)
 have m1 := f1 (reach_of hsz (j := 1) rfl rfl)
 clear hA0 hval0 hsz0 hsz
 refine (walk W a0 len0 cap0 x0 g0 m0 a1 len1 cap1 x1 g1 m1).mono fun e W' ⟨he, bel⟩ => ?_
 subst he
 exact ⟨_, rfl, _, _, _, [], _, [], hW', trodAll_mk1 (shut_bool Try.underlying4 _), (trodAll_cons_mk (Below.trod laidOut (by kernel_rfl) (of_decide_eq_true (by kernel_rfl)) h0 bel lt0) (trodAll_cons_mk (Below.trod laidOut (by kernel_rfl) (of_decide_eq_true (by kernel_rfl)) h1 bel lt1) trodAll_mk0)), rfl, bel.frame _, fun h => by cases h⟩
theorem over : Rows.treeOrderRow.holds Try.pinned (OpenSpec.ofChange Rows.treeOrderSpec) :=
 OpenClaim.holds_of_wide 4 Try.f4 rfl rfl rfl rfl rfl rfl rfl ⟨rfl, rfl, rfl, rfl, rfl⟩ rfl rfl rfl rfl rfl (by kernel_rfl) Try.func4 (by kernel_rfl)
  (of_decide_eq_true (by kernel_rfl)) (by unfold Func.isWrapper; first | (rw [if_pos (by decide +kernel)]; kernel_rfl) | (rw [if_neg (by decide +kernel)]; exact ⟨rfl, rfl⟩))
  (fun os started H enc _ => lifted os started H enc)
end Go.Proofs.Ytfpcijchnoekgaa.treeOrder
namespace Go.Proofs.Ytfpcijchnoekgaa
theorem treeOrder_holds : Rows.TreeOrderSaid := treeOrder.over
end Go.Proofs.Ytfpcijchnoekgaa
