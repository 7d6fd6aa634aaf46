/- Several texts in one: NDecT TPB TPC TGoR TPD TPrsR TGetR TPE TTree TPF TQA TQC TRk TBA TBB TBC TCut TMid TQI TRow TBr TBD. -/
import Derived.Deep.CutRange
import Derived.Test.YtmmjdacjcipgjaaGoLVKeep1
import Derived.Deep.QuietTactic
import Derived.BigQuiet
import Derived.Laws.Cover1
import Derived.Test.YtmmjdacjcipgjaaGoLVKeep2
import Derived.Deep.LoopGhost
import Derived.OwnWalkIn
import Derived.Laws.CopyOwn
import Derived.Laws.OwnMore
import Derived.Lib.AppendZerosOnto
import Derived.Lib.Overlaps
set_option linter.unusedVariables false
set_option linter.unusedSimpArgs false
namespace Go.Proofs.Ytmmjdacjcipgjaa
open Go.RowKit
theorem rstS_ok {s : Nat} {r : Rr} (h : (rstS s r).short = false) : r.short = false ∧ rstS s r = rst s r ∧ rtkS s r = rtk s r := by
 unfold rstS at h
 by_cases hs : r.short = true
 ·rw [if_pos hs, hs] at h; cases h
 ·have hs' : r.short = false := by simpa using hs
  unfold rstS rtkS
  rw [if_neg hs, if_neg hs]
  exact ⟨hs', rfl, rfl⟩
theorem rstS_eq {s : Nat} {r : Rr} (h : r.short = false) : rstS s r = rst s r ∧ rtkS s r = rtk s r ∧ rnumS s r = rnum s r := by
 have : ¬ r.short = true := by rw [h]; decide
 unfold rstS rnumS rnum rtkS
 rw [if_neg this, if_neg this]
 exact ⟨rfl, rfl, rfl⟩
def txS (r : Rr) : Str := rtkS (rnumS 1 r) (rstS 1 r)
def tsS (r : Rr) : Rr := rstS (rnumS 1 r) (rstS 1 r)
theorem tsS_ok {r : Rr} (h : (tsS r).short = false) : r.short = false ∧ tsS r = rts r ∧ txS r = rtx r := by
 unfold tsS at h
 obtain ⟨h1, h2, h3⟩ := rstS_ok h
 obtain ⟨h4, h5, h6⟩ := rstS_ok h1
 have h7 := (rstS_eq (s := 1) h4).2.2
 refine ⟨h4, ?_, ?_⟩
 ·unfold tsS rts; rw [h2, h7, h5]
 ·unfold txS rtx; rw [h3, h7, h5]
theorem tsS_bad {r : Rr} (h : r.short = false) (hb : (tsS r).short = true) : (rts r).short = true := by
 obtain ⟨e1, _, e3⟩ := rstS_eq (s := 1) h
 unfold tsS at hb
 rw [e1, e3] at hb
 unfold rts
 cases hq : (rst 1 r).short with
 | true => exact rst_short hq
 | false => rw [(rstS_eq hq).1] at hb; exact hb
def rk2 : Nat → Rr → Nd → Nd × Rr
 | 0, r, n => (n, r)
 | k + 1, r, n => rk2 k (rst 4 (rts r)) ⟨n.leaf, n.keys ++ [rtx r], n.vals, n.kids ++ [((rnum 4 (rts r) : Nat) : Int)]⟩
theorem rk2_short : ∀ (k : Nat) (r : Rr) (n : Nd), r.short = true → (rk2 k r n).2.short = true
 | 0, r, n, h => h
 | k + 1, r, n, h => rk2_short k _ _ (rst_short (rts_short h))
theorem rfin_bad {p : Nd × Rr} (h : p.2.short = true) : (rfin p).2 ≠ 0 := by unfold rfin; rw [if_pos h]; decide
def GP (xs : List UInt8) (j : Nat) (r : Rr) (n : Nd) : Prop := (r.short = false ∧ nread xs = rfin (rpairs j r n)) ∨ (r.short = true ∧ (nread xs).2 ≠ 0)
def GK (xs : List UInt8) (j : Nat) (r : Rr) (n : Nd) : Prop := (r.short = false ∧ nread xs = rfin (rk2 j r n)) ∨ (r.short = true ∧ (nread xs).2 ≠ 0)
theorem GP.next {xs : List UInt8} {j : Nat} {r : Rr} {n : Nd} (h : GP xs (j + 1) r n) (hs : r.short = false) : GP xs j (tsS (tsS r)) ⟨n.leaf, n.keys ++ [txS r], n.vals ++ [txS (tsS r)], n.kids⟩ := by
 rcases h with ⟨_, h⟩ | ⟨h, _⟩
 ·rw [rpairs] at h
  cases hq : (tsS (tsS r)).short with
  | false =>
   obtain ⟨a1, a2, a3⟩ := tsS_ok hq
   obtain ⟨b1, b2, b3⟩ := tsS_ok a1
   left
   refine ⟨hq, ?_⟩
   rw [a2, a3, b2, b3]
   exact h
  | true =>
   right
   refine ⟨hq, ?_⟩
   rw [h]
   apply rfin_bad
   apply rpairs_short
   cases hr : (tsS r).short with
   | true => exact rts_short (tsS_bad hs hr)
   | false =>
    have := tsS_bad hr hq
    rw [(tsS_ok hr).2.1] at this
    exact this
 ·rw [hs] at h; cases h
theorem GK.next {xs : List UInt8} {j : Nat} {r : Rr} {n : Nd} (h : GK xs (j + 1) r n) (hs : r.short = false) : GK xs j (rstS 4 (tsS r)) ⟨n.leaf, n.keys ++ [txS r], n.vals, n.kids ++ [((rnumS 4 (tsS r) : Nat) : Int)]⟩ := by
 rcases h with ⟨_, h⟩ | ⟨h, _⟩
 ·rw [rk2] at h
  cases hq : (rstS 4 (tsS r)).short with
  | false =>
   obtain ⟨a1, a2, _⟩ := rstS_ok hq
   have a3 := (rstS_eq (s := 4) a1).2.2
   obtain ⟨b1, b2, b3⟩ := tsS_ok a1
   left
   refine ⟨hq, ?_⟩
   rw [a2, a3, b2, b3]
   exact h
  | true =>
   right
   refine ⟨hq, ?_⟩
   rw [h]
   apply rfin_bad
   apply rk2_short
   cases hr : (tsS r).short with
   | true => exact rst_short (tsS_bad hs hr)
   | false =>
    rw [(rstS_eq hr).1, (tsS_ok hr).2.1] at hq
    exact hq
 ·rw [hs] at h; cases h
def DecR (xs : List UInt8) (n : Nd) (err : Int) : Prop := (err = 0 ∧ ndec xs = (n, 0)) ∨ (err ≠ 0 ∧ n = none9 ∧ (ndec xs).2 ≠ 0)
theorem DecR.fin {xs : List UInt8} {n : Nd} {r : Rr} (h : nread xs = rfin (n, r)) (hs : r.short = false) (hr : r.rest.length = 0) : DecR xs (if ncheck n = 0 then n else none9) (ncheck n) := by
 have e : nread xs = (n, 0) := by rw [h]; unfold rfin; dsimp only; rw [hs, if_neg (by decide), if_neg (by omega)]
 unfold DecR ndec
 rw [e]
 by_cases hz : ncheck n = 0
 ·rw [if_pos hz, hz]; left; exact ⟨rfl, by simp [hz]⟩
 ·right; exact ⟨hz, if_neg hz, by simp [hz]⟩
end Go.Proofs.Ytmmjdacjcipgjaa

namespace Go.Proofs.Ytmmjdacjcipgjaa
open Go.RowKit
abbrev sv (lo : Str) (hi : Option Str) : Value := .agg #[st lo, st (hi.getD [])]
def HiOk (hi : Option Str) : Prop := hi ≠ some []
theorem kin_ok {hi : Option Str} (h : HiOk hi) (lo x : Str) : kin lo hi x = (!slt x lo && (hi.getD [] == [] || slt x (hi.getD []))) := by
 cases hi with
 | none => simp [kin]
 | some y =>
  have : y ≠ [] := fun e => h (by rw [e])
  cases y with
  | nil => exact absurd rfl this
  | cons a r => simp [kin]
set_option maxRecDepth 100000 in
set_option maxHeartbeats 2000000 in
theorem placks_any (w : World) (lo : Str) (hi : Option Str) (k : Str) (hh : HiOk hi) : Calls Try.prog 33 #[sv lo hi, st k] w fun e w' => e = .returned (.bool (!kin lo hi k)) ∧ Below w.heap.size w w' := by
 have hk := hide (kin_ok hh lo k)
 dsimp only [sv]
 obtain ⟨h, hhi⟩ : ∃ h, h = hi.getD [] := ⟨_, rfl⟩
 rw [← hhi] at hk ⊢
 clear hhi hh
 obtain ⟨R, hR⟩ : ∃ R, R = kin lo hi k := ⟨_, rfl⟩
 rw [← hR] at hk ⊢
 clear hR hi
 obtain ⟨W, hW, D, bW, sW⟩ := boxedN w #[st lo, st h] 75
 obtain ⟨⟨D0, D1⟩, _⟩ := cells2r D
 have HB := hide bW
 rw [hW] at D0 D1 HB
 clear D bW hW sW
 go_enter Try.func33, Try.ntmps33
 cases h1 : Op.bytesLess k lo with
 | true =>
  have hr : Hid (R = false) := by show _ = _; rw [hk.out, show slt k lo = true from h1]; rfl
  go_wp2
  go_ret
  rw [hr.out]
  exact ⟨rfl, HB.out⟩
 | false =>
  cases h with
  | nil =>
   have hr : Hid (R = true) := by show _ = _; rw [hk.out, show slt k lo = false from h1]; rfl
   go_wp2
   go_ret
   rw [hr.out]
   exact ⟨rfl, HB.out⟩
  | cons a r =>
   have hr : Hid (R = Op.bytesLess k (a :: r)) := by show _ = _; rw [hk.out, show slt k lo = false from h1]; rfl
   obtain ⟨h, hh⟩ : ∃ h, h = a :: r := ⟨_, rfl⟩
   rw [← hh] at hr D1 HB ⊢
   have hem : h.isEmpty = false := by rw [hh]; rfl
   have hem2 : (h == []) = false := by rw [hh]; rfl
   have hem3 : ¬ h = [] := by rw [hh]; simp
   replace hh := hide hh
   go_wp2
   go_ret
   rw [hr.out]
   exact ⟨rfl, HB.out⟩
def SpI (w wx : World) (x y : Value) : Prop := wx.heap[w.heap.size]? = some (.cells #[x, y] 75 (0, 0)) ∧ wx.heap[w.heap.size + 1]? = some (.cells #[st [], st []] 75 (0, 0)) ∧ Below w.heap.size w wx
theorem SpI.put0 {w wx : World} {x y : Value} (h : SpI w wx x y) (z : Value) : SpI w (wx.setCell ⟨w.heap.size, 0, none⟩ z) z y :=
 ⟨(heap_set2r h.1 z).1, (Below.heap_setCell _ _ _ _ (show w.heap.size + 1 ≠ w.heap.size by omega)).trans h.2.1, h.2.2.setCell (Nat.le_refl _) _⟩
theorem SpI.put1 {w wx : World} {x y : Value} (h : SpI w wx x y) (z : Value) : SpI w (wx.setCell ⟨w.heap.size, 1, none⟩ z) x z :=
 ⟨(heap_set2r h.1 z).2, (Below.heap_setCell _ _ _ _ (show w.heap.size + 1 ≠ w.heap.size by omega)).trans h.2.1, h.2.2.setCell (Nat.le_refl _) _⟩
theorem info_sp : (Try.prog.info? 75).map (·.size) = some 2 := by kernel_rfl
set_option maxRecDepth 100000 in
set_option maxHeartbeats 2000000 in
theorem pofkid_any (w : World) (lo : Str) (hi : Option Str) (kv : Value) (nd : Nd) (i : Nat) (h : RdT w kv nd.keys) (hi9 : i ≤ nd.keys.length) : Calls Try.prog 69 #[sv lo hi, kv, .int .i64 i] w fun e w' =>
  e = .returned (sv (kidLo nd lo i) (kidHi nd hi i)) ∧ Below w.heap.size w w' := by
 obtain ⟨a, c, rfl⟩ := h.slice
 have lb := h.bd
 obtain ⟨K, hK⟩ : ∃ K, K = nd.keys.length := ⟨_, rfl⟩
 dsimp only [sv]
 obtain ⟨hs, hhs⟩ : ∃ x, x = hi.getD [] := ⟨_, rfl⟩
 rw [← hhs]
 rw [← hK] at h lb hi9 ⊢
 replace hK := hide hK
 replace hhs := hide hhs
 obtain ⟨W, hW, D, bW, sW⟩ := boxedN w #[st lo, st hs] 75
 obtain ⟨X, hX, DX, bX, sX⟩ := boxedN W #[st [], st []] 75
 have HH := hide (h.to0 (bW.trans (bX.mono bW.size)))
 have HB := hide (bW.trans (bX.mono bW.size))
 have D' := (bX.block _ (lt_of_block D)).trans D
 obtain ⟨⟨D0, D1⟩, DF⟩ := cells2r D'
 obtain ⟨⟨X0, X1⟩, XF⟩ := cells2r DX
 rw [sW] at DX X0 X1 XF
 have BX := hide (And.intro D' DX)
 have H9 : Hid (∀ w9, Below w.heap.size w w9 → RdT w9 (.slice a K c) nd.keys) := fun w9 b => h.to0 b
 have HHb : Hid (∀ {y : Str} {j b4 off4 : Nat}, nd.keys[j]? = some y → a = some ⟨b4, off4, none⟩ → b4 < w.heap.size) := fun {y j b4 off4} hy e => by
  obtain ⟨b', off', e', hc⟩ := h.strAt hy
  rw [e] at e'
  simp only [Option.some.injEq, Addr.mk.injEq, and_true] at e'
  obtain ⟨rfl, rfl⟩ := e'
  exact cell_lt hc
 clear h D bW bX D' DX
 go_enter Try.func69, Try.ntmps69
 go_upto_if 8 with fail
 rw [← hW, ← hX]
 replace hW := hide hW
 replace hX := hide hX
 replace sW := hide sW
 replace sX := hide sX
 go_cut [] from 8 to 14 (fun wx => Hid (SpI w wx (st (kidLo nd lo i)) (st hs) ∧ RdT wx (.slice a K c) nd.keys))
 case first =>
  by_cases h0 : i = 0
  ·have hq2 : ¬ (0 : Int) < (i : Int) := by omega
   have hl : Hid (kidLo nd lo i = lo) := by show _ = _; rw [kidLo, if_pos h0]
   replace h0 := hide h0
   go_wp2_with fail
   go_meet
   case rel => exact ⟨⟨by rw [hl.out]; exact BX.out.1, BX.out.2, HB.out⟩, HH.out⟩
  ·have hq2 : (0 : Int) < (i : Int) := by omega
   obtain ⟨j, hj⟩ : ∃ j, i = j + 1 := ⟨i - 1, by omega⟩
   obtain ⟨y, hy⟩ := some_el nd.keys (k := j) (by rw [← hK.out]; omega)
   have hl : Hid (kidLo nd lo i = y) := by show _ = _; rw [kidLo, if_neg h0, hj, Nat.add_sub_cancel, List.getD_eq_getElem?_getD, hy]; rfl
   obtain ⟨b4, off4, rfl, hc4⟩ := HH.out.strAt hy
   have hj1 : (i : Int) - 1 = (j : Int) := by omega
   have hj2 : IntKind.i64.wrap (j : Int) = (j : Int) := IntWalk.i64_in _ (by omega)
   have hj3 : (j : Int) < (K : Int) := by omega
   have hb4 : b4 < w.heap.size := HHb.out hy rfl
   have FF : Hid (SpI w (X.setCell ⟨w.heap.size, 0, none⟩ (st y)) (st y) (st hs) ∧ RdT (X.setCell ⟨w.heap.size, 0, none⟩ (st y)) (.slice (some ⟨b4, off4, none⟩) K c) nd.keys) := ⟨SpI.put0 ⟨BX.out.1, BX.out.2, HB.out⟩ _, H9.out _ (HB.out.setCell (Nat.le_refl _) _)⟩
   replace h0 := hide h0
   replace hj := hide hj
   replace hy := hide hy
   go_wp2_with fail
   go_meet
   case rel => rw [hl.out]; exact FF
 case rest =>
  clear HB HH BX D0 D1 DF X0 X1 XF
  obtain ⟨⟨D0, D1⟩, DF⟩ := cells2r hcut.out.1.1
  obtain ⟨⟨X0, X1⟩, XF⟩ := cells2r hcut.out.1.2.1
  go_upto_if 18 with fail
  go_cut [] from 18 to 23 (fun wx => Hid (SpI w wx (st (kidLo nd lo i)) (st ((kidHi nd hi i).getD []))))
  case first =>
   by_cases h0 : i < K
   ·have hq2 : (i : Int) < (K : Int) := by omega
    obtain ⟨y, hy⟩ := some_el nd.keys (k := i) (by rw [← hK.out]; omega)
    have hl : Hid (kidHi nd hi i = some y) := by show _ = _; rw [kidHi, if_pos (by rw [← hK.out]; exact h0), List.getD_eq_getElem?_getD, hy]; rfl
    obtain ⟨b4, off4, rfl, hc4⟩ := hcut.out.2.strAt hy
    have FF : Hid (SpI w (wc.setCell ⟨w.heap.size, 1, none⟩ (st y)) (st (kidLo nd lo i)) (st y)) := SpI.put1 hcut.out.1 _
    replace hy := hide hy
    go_wp2_with fail
    go_meet
    case rel => rw [hl.out]; exact FF
   ·have hq2 : ¬ (i : Int) < (K : Int) := by omega
    have hl : Hid (kidHi nd hi i = hi) := by show _ = _; rw [kidHi, if_neg (by rw [← hK.out]; exact h0)]
    go_wp2_with fail
    go_meet
    case rel => rw [hl.out, ← hhs.out]; exact hcut.out.1
  case rest =>
   clear D0 D1 DF X0 X1 XF
   obtain ⟨⟨D0, D1⟩, DF⟩ := cells2r hcut.out.1
   obtain ⟨⟨X0, X1⟩, XF⟩ := cells2r hcut.out.2.1
   go_wp2
   refine retN rfl rfl (w.heap.size + 1) rfl _ _ _ (heap_set2 hcut.out.2.1 _ _) _ Try.underlying75 rfl info_sp ?_
   exact ⟨rfl, below_set2 hcut.out.2.2 (show w.heap.size ≤ w.heap.size + 1 by omega) _ _⟩
theorem BoolR.no' {p : Prop} {w w' : World} {b : Bool} (hb : b = false) (h : ¬ p) (k : Below w.heap.size w w') : BoolR p w w' (.returned (.bool b)) := by subst hb; exact BoolR.no h k
theorem BoolR.yes' {p : Prop} {w w' : World} {b : Bool} (hb : b = true) (h : p) (k : Below w.heap.size w w') : BoolR p w w' (.returned (.bool b)) := by subst hb; exact BoolR.yes h k
def Outs (lo : Str) (hi : Option Str) (l : List Str) : Prop := l.all (kin lo hi) = false
def IdxR (p : Prop) (w w' : World) (e : Ending) : Prop := ∃ k : Int, e = .returned (.int .i64 k) ∧ ((0 ≤ k ∧ p) ∨ (k < 0 ∧ ¬ p)) ∧ Below w.heap.size w w'
set_option maxRecDepth 100000 in
set_option maxHeartbeats 2000000 in
theorem pidx_any (w : World) (lo : Str) (hi : Option Str) (hh : HiOk hi) (kv : Value) (l : List Str) (h : RdT w kv l) : Calls Try.prog 87 #[kv, .func (.func 33) #[sv lo hi] #[]] w fun e w' =>
  IdxR (Outs lo hi l) w w' e := by
 obtain ⟨a, c, rfl⟩ := h.slice
 have lb := h.bd
 obtain ⟨K, hK⟩ : ∃ K, K = l.length := ⟨_, rfl⟩
 rw [← hK] at h lb ⊢
 replace hK := hide hK
 have HH := hide h
 have KL := hide (fun w k => placks_any w lo hi k hh)
 dsimp only [sv] at KL ⊢
 generalize hi.getD [] = hs at *
 clear h hh
 go_enter Try.func87, Try.ntmps87
 go_wp2
 go_loopw [8] (fun p wr => ∃ i : Nat, i ≤ K ∧ p = .int .i64 i ∧ Hid (Below w.heap.size w wr ∧ ∀ j k, j < i → l[j]? = some k → kin lo hi k = true)) (fun p _ => K - (intOf p).toNat)
 case atStart => exact ⟨0, Nat.zero_le _, rfl, hide ⟨Below.refl _ _, fun j k h => by omega⟩⟩
 case round =>
  obtain ⟨i, hi9, rfl, hI⟩ := hrel
  by_cases hlt : i < K
  ·have hq : (i : Int) < (K : Int) := by omega
   obtain ⟨y, hy⟩ := some_el l (k := i) (by rw [← hK.out]; exact hlt)
   obtain ⟨b, off, rfl, hc⟩ := (HH.out.to0 hI.out.1).strAt hy
   replace hy := hide hy
   go_wp2_with fail
   refine (KL.out _ _).mono ?_
   rintro e w1 ⟨rfl, b1⟩
   have HE := hide (hI.out.1.trans (b1.mono hI.out.1.size))
   clear b1
   cases hkv : kin lo hi y with
   | false =>
    have hz : Hid (Outs lo hi l) := by
     show _ = _
     rw [List.all_eq_false]
     exact ⟨y, List.mem_of_getElem? hy.out, by simp [hkv]⟩
    replace hkv := hide hkv
    go_wp2
    go_ret
    exact ⟨_, rfl, .inl ⟨by omega, hz.out⟩, HE.out⟩
   | true =>
    have hI' : Hid (Below w.heap.size w w1 ∧ ∀ j k, j < i + 1 → l[j]? = some k → kin lo hi k = true) := ⟨HE.out, fun j k hj hk => by
     by_cases e : j = i
     ·subst e
      rw [hy.out] at hk
      simp only [Option.some.injEq] at hk
      subst hk; exact hkv
     ·exact hI.out.2 j k (by omega) hk⟩
    replace hkv := hide hkv
    go_wp2
    go_roundw
    case rel => exact ⟨i + 1, by omega, by go_num, hI'⟩
    case measure => simp [intOf]; omega
  ·have hq : ¬ (i : Int) < (K : Int) := by omega
   have hz : Hid (¬ Outs lo hi l) := fun h => by
    unfold Outs at h
    rw [all_kin fun j k hk => hI.out.2 j k (by have := (List.getElem?_eq_some_iff.1 hk).1; rw [← hK.out] at this; omega) hk] at h
    cases h
   go_wp2
   go_ret
   exact ⟨_, rfl, .inr ⟨by decide, hz.out⟩, hI.out.1⟩
set_option maxRecDepth 100000 in
set_option maxHeartbeats 2000000 in
theorem pcont_any (w : World) (lo : Str) (hi : Option Str) (hh : HiOk hi) (kv : Value) (l : List Str) (h : RdT w kv l) : Calls Try.prog 67 #[kv, .func (.func 33) #[sv lo hi] #[]] w fun e w' =>
  BoolR (Outs lo hi l) w w' e := by
 have KI := hide (pidx_any w lo hi hh kv l h)
 go_enter Try.func67, Try.ntmps67
 go_wp2_with fail
 refine KI.out.mono ?_
 rintro e w1 ⟨k, rfl, hp, b1⟩
 rcases hp with ⟨h0, hp⟩ | ⟨h0, hp⟩
 ·have HP := hide hp
  have h1 : decide (0 ≤ k) = true := decide_eq_true h0
  clear hp
  go_wp2
  go_ret
  exact BoolR.yes' rfl HP.out b1
 ·have HP := hide hp
  have h1 : decide (0 ≤ k) = false := decide_eq_false (by omega)
  clear hp
  go_wp2
  go_ret
  exact BoolR.no' rfl HP.out b1
end Go.Proofs.Ytmmjdacjcipgjaa

namespace Go.Proofs.Ytmmjdacjcipgjaa
open Go.RowKit
def KpM (g m : Nat) (w U : World) : Prop := (∀ b, b < w.heap.size → b ≠ g → b ≠ m → U.heap[b]? = w.heap[b]?) ∧ w.heap.size ≤ U.heap.size ∧ ∀ B, B ≤ g → B ≤ m → B ≤ w.heap.size → Below B w U
theorem KpM.of {g m : Nat} {w U : World} (h : Below w.heap.size w U) : KpM g m w U := ⟨fun b hb _ _ => h.block b hb, h.size, fun B _ _ hB => h.mono hB⟩
theorem KpM.refl (g m : Nat) (w : World) : KpM g m w w := KpM.of (Below.refl _ _)
theorem KpM.trans {g m : Nat} {w U V : World} (h : KpM g m w U) (k : KpM g m U V) : KpM g m w V :=
 ⟨fun b hb h1 h2 => (k.1 b (Nat.lt_of_lt_of_le hb h.2.1) h1 h2).trans (h.1 b hb h1 h2), Nat.le_trans h.2.1 k.2.1, fun B h1 h2 h3 => (h.2.2 B h1 h2 h3).trans (k.2.2 B h1 h2 (Nat.le_trans h3 h.2.1))⟩
theorem KpM.set {g m : Nat} {w U : World} (h : KpM g m w U) (i : Nat) (v : Value) : KpM g m w (U.setCell ⟨g, i, none⟩ v) :=
 ⟨fun b hb h1 h2 => (Below.heap_setCell _ _ _ _ h1).trans (h.1 b hb h1 h2), by simpa using h.2.1, fun B h1 h2 h3 => (h.2.2 B h1 h2 h3).setCell h1 _⟩
theorem KpM.map {g m : Nat} {w U V : World} (h : KpM g m w U) (k : U.grownBy V (some m)) : KpM g m w V :=
 ⟨fun b hb h1 h2 => (k.block b (Nat.lt_of_lt_of_le hb h.2.1) (fun e => h2 (by simpa using e))).trans (h.1 b hb h1 h2), Nat.le_trans h.2.1 k.size, fun B h1 h2 h3 => (h.2.2 B h1 h2 h3).grown k (Nat.le_trans h3 h.2.1) (fun j hj => by simp only [Option.some.injEq] at hj; omega)⟩
theorem KpM.row {g m : Nat} {w U : World} (h : KpM g m w U) {B T n : Nat} {v : Value} {k : Nat} {cc : List Value} (ho : w.ownsRow B T n v k cc) (hg : g < B) (hm : m < B) : U.ownsRow B T n v k cc := by
 refine ⟨ho.1, ?_⟩
 rcases ho.2 with hn | ⟨b, cap, cur, hv, hgb, hb, r⟩
 ·exact .inl hn
 ·exact .inr ⟨b, cap, cur, hv, hgb, (h.1 b (lt_of_block hb) (by omega) (by omega)).trans hb, r⟩
theorem KpM.node {g m : Nat} {w U : World} (h : KpM g m w U) {B : Nat} {kv vv dv : Value} {nd : Nd} (ho : OwnN B w kv vv dv nd) (hg : g < B) (hm : m < B) : OwnN B U kv vv dv nd := ⟨h.row ho.keys hg hm, h.row ho.vals hg hm, h.row ho.kids hg hm⟩
def NdOf (l : List Wrt) (B : Nat) (w : World) (i : Int) (v : Value) : Prop := ∃ x nd kv vv dv, tpage l i = some x ∧ ndec x = (nd, 0) ∧ v = nv nd kv vv dv ∧ OwnN B w kv vv dv nd ∧ Dj kv vv dv
def RowOf (v : Value) (b : Nat) : Prop := ∃ x y z u, v = .agg #[x, y, z, u] ∧ (y.ownBlock = some b ∨ z.ownBlock = some b ∨ u.ownBlock = some b)
theorem row_nv {nd : Nd} {kv vv dv : Value} {b : Nat} (h : RowOf (nv nd kv vv dv) b) : kv.ownBlock = some b ∨ vv.ownBlock = some b ∨ dv.ownBlock = some b := by
 obtain ⟨x, y, z, u, e, h⟩ := h
 simp only [nv, Value.agg.injEq, Array.mk.injEq, List.cons.injEq, and_true] at e
 obtain ⟨_, rfl, rfl, rfl⟩ := e
 exact h
theorem OwnN.row {B : Nat} {w : World} {kv vv dv : Value} {nd : Nd} (o : OwnN B w kv vv dv nd) {b : Nat} (h : RowOf (nv nd kv vv dv) b) : B ≤ b ∧ b < w.heap.size := by
 rcases row_nv h with h | h | h
 ·exact World.ownsRow.lt o.keys b h
 ·exact World.ownsRow.lt o.vals b h
 ·exact World.ownsRow.lt o.kids b h
theorem rows_new {l : List Wrt} {B : Nat} {w w' : World} {m : Int → Option Value} (h : ∀ i v, m i = some v → NdOf l B w i v) {nd : Nd} {kv vv dv : Value} (o : OwnN w.heap.size w' kv vv dv nd) : ∀ i u, m i = some u → ∀ b, RowOf (nv nd kv vv dv) b → ¬ RowOf u b := fun i u hu b hb hc => by
 obtain ⟨x, nd', kv', vv', dv', _, _, rfl, o', _⟩ := h i u hu
 have h1 := (o.row hb).1
 have h2 := (o'.row hc).2
 omega
abbrev pcl6 (t : Tr) (pv : Value) (bm : Nat) (s : Sw) : Array Value := #[.int .i64 t.root, .int .i64 t.next, pv, .map (some bm), .int .i64 s.prs.length, .int .i64 (sdep s)]
structure PWk (w0 w : World) (B g bm : Nat) (t : Tr) (pv : Value) (s : Sw) (m : Int → Option Value) : Prop where
 box : w.heap[g]? = some (.cells (pcl6 t pv bm s) 90 (0, 0))
 map : MapI w bm s.seen.length m
 has : ∀ i, (m i).isSome = decide (i ∈ s.seen)
 nds : ∀ i v, m i = some v → NdOf t.pages B w i v
 pg : RdC w0 pv t.pages
 ok : SwOk t.next s
 dep : s.dep = none ↔ s.prs = []
 bel : Below w0.heap.size w0 w
 hg : w0.heap.size ≤ g ∧ g < B
 hm : w0.heap.size ≤ bm ∧ bm < B
 apt : ∀ i j v u, m i = some v → m j = some u → i ≠ j → ∀ b, RowOf v b → ¬ RowOf u b
theorem PWk.to {w0 w w' : World} {B g bm : Nat} {t : Tr} {pv : Value} {s : Sw} {m : Int → Option Value} (h : PWk w0 w B g bm t pv s m) (hb : Below w.heap.size w w') : PWk w0 w' B g bm t pv s m := by
 refine ⟨(hb.block _ (lt_of_block h.box)).trans h.box, h.map.kept (hb.block _ h.map.lt), h.has, fun i v hv => ?_, h.pg, h.ok, h.dep, h.bel.trans (hb.mono h.bel.size), h.hg, h.hm, h.apt⟩
 obtain ⟨x, nd, kv, vv, dv, h1, h2, h3, h4, h5⟩ := h.nds i v hv
 exact ⟨x, nd, kv, vv, dv, h1, h2, h3, h4.to hb, h5⟩
theorem PWk.cell {w0 w : World} {B g bm : Nat} {t : Tr} {pv : Value} {s : Sw} {m : Int → Option Value} (h : PWk w0 w B g bm t pv s m) :
  (w.cell? ⟨g, 0, none⟩ = some (.int .i64 t.root) ∧ w.cell? ⟨g, 1, none⟩ = some (.int .i64 t.next) ∧ w.cell? ⟨g, 2, none⟩ = some pv ∧ w.cell? ⟨g, 3, none⟩ = some (.map (some bm))) ∧
  (w.cell? ⟨g, 4, none⟩ = some (.int .i64 s.prs.length) ∧ w.cell? ⟨g, 5, none⟩ = some (.int .i64 (sdep s))) ∧ ∀ i, w.frozen? ⟨g, i, none⟩ = false :=
 ⟨⟨cellN h.box rfl, cellN h.box rfl, cellN h.box rfl, cellN h.box rfl⟩, ⟨cellN h.box rfl, cellN h.box rfl⟩, frozN h.box⟩
theorem NdOf.keep {l : List Wrt} {B g bm : Nat} {w U : World} {i : Int} {v : Value} (h : NdOf l B w i v) (k : KpM g bm w U) (hg : g < B) (hm : bm < B) : NdOf l B U i v := by
 obtain ⟨x, nd, kv, vv, dv, h1, h2, h3, h4, h5⟩ := h
 exact ⟨x, nd, kv, vv, dv, h1, h2, h3, k.node h4 hg hm, h5⟩
theorem PWk.see {w0 w w5 : World} {B g bm : Nat} {t : Tr} {pv : Value} {s : Sw} {m : Int → Option Value} (h : PWk w0 w B g bm t pv s m) {id : Int} {v : Value} (hgr : w.grownBy w5 (some bm)) (hmap : MapI w5 bm (s.seen.length + 1) (fun j => if j = id then some v else m j))
  (hi : 1 ≤ id ∧ id < t.next) (hn : id ∉ s.seen) (hnd : NdOf t.pages B w id v) (hfr : ∀ i u, m i = some u → ∀ b, RowOf v b → ¬ RowOf u b) : PWk w0 w5 B g bm t pv ⟨id :: s.seen, s.dep, s.prs⟩ (fun j => if j = id then some v else m j) ∧ KpM g bm w w5 := by
 have k : KpM g bm w w5 := (KpM.refl g bm w).map hgr
 have hne := h.map.ne h.box
 refine ⟨⟨(hgr.block g (lt_of_block h.box) (fun e => hne (by simpa using e.symm))).trans h.box, hmap, fun i => ?_, fun i u hu => ?_, h.pg, ?_, h.dep, h.bel.trans (k.2.2 _ h.hg.1 h.hm.1 h.bel.size), h.hg, h.hm, ?_⟩, k⟩
 ·dsimp only
  by_cases e : i = id
  ·subst e; simp
  ·rw [if_neg e, h.has]; simp [e]
 ·by_cases e : i = id
  ·subst e
   rw [if_pos rfl] at hu
   simp only [Option.some.injEq] at hu
   subst hu
   exact hnd.keep k h.hg.2 h.hm.2
  ·rw [if_neg e] at hu
   exact (h.nds i u hu).keep k h.hg.2 h.hm.2
 ·have := h.ok.see hi hn s.dep (l := []) (by simp)
  simpa using this
 ·intro i j v1 u1 hv1 hu1 hij b hb1 hb2
  by_cases e1 : i = id
  ·rw [if_pos e1] at hv1
   rw [if_neg (fun e => hij (e1.trans e.symm))] at hu1
   cases hv1
   exact hfr j u1 hu1 b hb1 hb2
  ·rw [if_neg e1] at hv1
   by_cases e2 : j = id
   ·rw [if_pos e2] at hu1
    cases hu1
    exact hfr i v1 hv1 b hb2 hb1
   ·rw [if_neg e2] at hu1
    exact h.apt i j v1 u1 hv1 hu1 hij b hb1 hb2
theorem PWk.leaf {w0 w w6 : World} {B g bm : Nat} {t : Tr} {pv : Value} {s : Sw} {m : Int → Option Value} (h : PWk w0 w B g bm t pv s m) {f : Nat} {l : List Pr} (kg : KpG g w w6)
  (hb : w6.heap[g]? = some (.cells #[.int .i64 t.root, .int .i64 t.next, pv, .map (some bm), .int .i64 ((s.prs.length + l.length : Nat) : Int), .int .i64 (16 - (f : Int))] 90 (0, 0))) (hl : l ≠ []) (ok : SwOk t.next ⟨s.seen, some f, s.prs ++ l⟩) :
  PWk w0 w6 B g bm t pv ⟨s.seen, some f, s.prs ++ l⟩ m := by
 have k : KpM g bm w w6 := ⟨fun b h1 h2 _ => kg.1 b h1 h2, kg.2.1, fun C h1 _ h3 => kg.2.2 C h1 h3⟩
 have hne := h.map.ne h.box
 refine ⟨?_, h.map.kept (kg.1 bm h.map.lt hne), h.has, fun i u hu => (h.nds i u hu).keep k h.hg.2 h.hm.2, h.pg, ok, ?_, h.bel.trans (k.2.2 _ h.hg.1 h.hm.1 h.bel.size), h.hg, h.hm, h.apt⟩
 ·rw [hb]; simp [pcl6, sdep]
 ·simp [hl]
theorem zeroNd (w : World) : (zeroValue 79).run Try.prog w = .ok (.agg #[.bool false, .slice none 0 0, .slice none 0 0, .slice none 0 0]) w := by kernel_rfl
def CntR (w w' : World) (g : Nat) (c0 c1 c2 c3 : Value) (L n : Nat) (D d : Int) (e : Ending) : Prop := ∃ R : Bool, e = .returned (.bool R) ∧ KpG g w w' ∧
 w'.heap[g]? = some (.cells #[c0, c1, c2, c3, .int .i64 ((L + n : Nat) : Int), .int .i64 (if L = 0 then d else D)] 90 (0, 0)) ∧ (R = true ↔ (0 < n ∧ d = (if L = 0 then d else D) ∧ L + n ≤ 4096))
theorem CntR.no {w w' : World} {g : Nat} {c0 c1 c2 c3 : Value} {L n : Nat} {D d : Int} (h1 : KpG g w w') (h2 : w'.heap[g]? = some (.cells #[c0, c1, c2, c3, .int .i64 ((L + n : Nat) : Int), .int .i64 (if L = 0 then d else D)] 90 (0, 0))) (h3 : ¬ (0 < n ∧ d = (if L = 0 then d else D) ∧ L + n ≤ 4096)) {b : Bool} (hb : b = false) : CntR w w' g c0 c1 c2 c3 L n D d (.returned (.bool b)) := ⟨false, by rw [hb], h1, h2, ⟨fun h => (by cases h), fun h => absurd h h3⟩⟩
theorem CntR.yes {w w' : World} {g : Nat} {c0 c1 c2 c3 : Value} {L n : Nat} {D d : Int} (h1 : KpG g w w') (h2 : w'.heap[g]? = some (.cells #[c0, c1, c2, c3, .int .i64 ((L + n : Nat) : Int), .int .i64 (if L = 0 then d else D)] 90 (0, 0))) (h3 : (0 < n ∧ d = (if L = 0 then d else D) ∧ L + n ≤ 4096)) {b : Bool} (hb : b = true) : CntR w w' g c0 c1 c2 c3 L n D d (.returned (.bool b)) := ⟨true, by rw [hb], h1, h2, ⟨fun _ => h3, fun _ => rfl⟩⟩
set_option maxRecDepth 100000 in
set_option maxHeartbeats 2000000 in
theorem pcount_any (w : World) (g : Nat) (c0 c1 c2 c3 : Value) (L n : Nat) (D d : Int) (h : w.heap[g]? = some (.cells #[c0, c1, c2, c3, .int .i64 (L : Int), .int .i64 D] 90 (0, 0))) (hL : L ≤ 100000000) (hn : n ≤ 1000) :
  Calls Try.prog 68 #[.pointer (some ⟨g, 0, none⟩), .int .i64 (n : Int), .int .i64 d] w fun e w' => CntR w w' g c0 c1 c2 c3 L n D d e := by
 obtain ⟨E, hE⟩ : ∃ E : Int, E = if L = 0 then d else D := ⟨_, rfl⟩
 obtain ⟨S, hS⟩ : ∃ S : Nat, (L : Int) + (n : Int) = (S : Int) := ⟨L + n, by omega⟩
 have hS2 : IntKind.i64.wrap (S : Int) = (S : Int) := IntWalk.i64_in _ (by omega)
 have C4 : w.cell? ⟨g, 4, none⟩ = some (.int .i64 (L : Int)) := cellN h rfl
 have C5 : w.cell? ⟨g, 5, none⟩ = some (.int .i64 D) := cellN h rfl
 have CF := frozN h
 have HH := hide h
 clear h
 go_enter Try.func68, Try.ntmps68
 go_upto_if 11 with fail
 go_cut [] from 11 to 15 (fun wx => Hid (KpG g w wx ∧ wx.heap[g]? = some (.cells #[c0, c1, c2, c3, .int .i64 (L : Int), .int .i64 E] 90 (0, 0))))
 case first =>
  by_cases h0 : L = 0
  ·have hq : ((L : Int) == 0) = true := by simp [h0]
   have FF : Hid (KpG g w (w.setCell ⟨g, 5, none⟩ (.int .i64 d)) ∧ (w.setCell ⟨g, 5, none⟩ (.int .i64 d)).heap[g]? = some (.cells #[c0, c1, c2, c3, .int .i64 (L : Int), .int .i64 E] 90 (0, 0))) := by
    refine ⟨(KpG.refl g w).set 5 _, ?_⟩
    rw [hE, if_pos h0]
    have := heap_setN HH.out 5 (.int .i64 d)
    simpa using this
   replace h0 := hide h0
   go_wp2_with fail
   go_meet
   case rel => exact FF
  ·have hq : ((L : Int) == 0) = false := by simp [h0]
   have FF : Hid (KpG g w w ∧ w.heap[g]? = some (.cells #[c0, c1, c2, c3, .int .i64 (L : Int), .int .i64 E] 90 (0, 0))) := by
    refine ⟨KpG.refl g w, ?_⟩
    rw [hE, if_neg h0]
    exact HH.out
   replace h0 := hide h0
   go_wp2_with fail
   go_meet
   case rel => exact FF
 case rest =>
  clear C4 C5 CF HH
  have C4 : wc.cell? ⟨g, 4, none⟩ = some (.int .i64 (L : Int)) := cellN hcut.out.2 rfl
  have C5 : wc.cell? ⟨g, 5, none⟩ = some (.int .i64 E) := cellN hcut.out.2 rfl
  have CF := frozN hcut.out.2
  obtain ⟨X, hX⟩ : ∃ X, X = wc.setCell ⟨g, 4, none⟩ (.int .i64 (S : Int)) := ⟨_, rfl⟩
  have HX : Hid (KpG g w X ∧ X.heap[g]? = some (.cells #[c0, c1, c2, c3, .int .i64 ((L + n : Nat) : Int), .int .i64 (if L = 0 then d else D)] 90 (0, 0))) := by
   rw [hX]
   refine ⟨hcut.out.1.set 4 _, ?_⟩
   have := heap_setN hcut.out.2 4 (.int .i64 (S : Int))
   rw [← hE, show ((L + n : Nat) : Int) = (S : Int) from by omega]
   simpa using this
  have X4 : X.cell? ⟨g, 4, none⟩ = some (.int .i64 (S : Int)) := by rw [show (S : Int) = ((L + n : Nat) : Int) from by omega]; exact cellN HX.out.2 rfl
  have X5 : X.cell? ⟨g, 5, none⟩ = some (.int .i64 E) := by rw [hE]; exact cellN HX.out.2 rfl
  replace hE := hide hE
  go_upto_region 4 with fail
  rw [← hX]
  clear hX C4 C5 CF
  by_cases c1 : (n : Int) > 0
  ·by_cases c2 : d = E
   ·have hq : (d == E) = true := by simp [c2]
    by_cases c4 : (S : Int) ≤ 4096
    ·have hz : Hid (0 < n ∧ d = (if L = 0 then d else D) ∧ L + n ≤ 4096) := ⟨by omega, by rw [← hE.out]; exact c2, by omega⟩
     replace c2 := hide c2
     go_wp2
     go_ret
     exact CntR.yes HX.out.1 HX.out.2 hz.out (by first | rfl | simp [c4] | (simp; omega))
    ·have hz : Hid (¬ (0 < n ∧ d = (if L = 0 then d else D) ∧ L + n ≤ 4096)) := fun h => by have := h.2.2; omega
     replace c2 := hide c2
     go_wp2
     go_ret
     exact CntR.no HX.out.1 HX.out.2 hz.out (by first | rfl | simp [c4] | (simp; omega))
   ·have hq : (d == E) = false := by simp [c2]
    have hz : Hid (¬ (0 < n ∧ d = (if L = 0 then d else D) ∧ L + n ≤ 4096)) := fun h => by have := h.2.1; rw [← hE.out] at this; exact c2 this
    replace c2 := hide c2
    go_wp2
    go_ret
    exact CntR.no HX.out.1 HX.out.2 hz.out (by first | rfl | simp)
  ·have hz : Hid (¬ (0 < n ∧ d = (if L = 0 then d else D) ∧ L + n ≤ 4096)) := fun h => by have := h.1; omega
   go_wp2
   go_ret
   exact CntR.no HX.out.1 HX.out.2 hz.out (by first | rfl | simp)
end Go.Proofs.Ytmmjdacjcipgjaa

namespace Go.Proofs.Ytmmjdacjcipgjaa
open Go.RowKit
theorem tpage_in : ∀ {l : List Wrt} {id : Int} {x : List UInt8}, tpage l id = some x → ∃ (i : Nat) (y : Wrt), l[i]? = some y ∧ y.1 = id ∧ y.2 = x
 | [], _, _, h => by cases h
 | y :: r, id, x, h => by
  unfold tpage at h
  split at h
  ·rename_i e
   exact ⟨0, y, rfl, e, by simpa using h⟩
  ·obtain ⟨i, z, h1, h2⟩ := tpage_in h
   exact ⟨i + 1, z, by simpa using h1, h2⟩
theorem tpage_bd {next : Int} {l : List Wrt} (hu : tups next l l.length) {id : Int} {x : List UInt8} (h : tpage l id = some x) : 1 ≤ id ∧ id < next := by
 obtain ⟨i, y, h1, rfl, _⟩ := tpage_in h
 have hi := (List.getElem?_eq_some_iff.1 h1).1
 have h2 := (hu i hi).2
 have h3 := tups_ge hu i hi
 rw [tid_at h1] at h2 h3
 omega
theorem cellAl {w : World} {b i : Nat} {v : Value} (h : w.cell? ⟨b, i, none⟩ = some v) (o : Obj) : (w.alloc o).cell? ⟨b, i, none⟩ = some v :=
 (((Below.refl w.heap.size w).alloc (Nat.le_refl _) o).cell (p := ⟨b, i, none⟩) (cell_lt h)).trans h
end Go.Proofs.Ytmmjdacjcipgjaa

namespace Go.Proofs.Ytmmjdacjcipgjaa
open Go.RowKit
def RchR (w0 w w' : World) (B g bm : Nat) (t : Tr) (pv : Value) (o : Option Sw) (e : Ending) : Prop := ∃ R : Bool, e = .returned (.bool R) ∧ KpM g bm w w' ∧
 ((R = true ∧ ∃ s' m', o = some s' ∧ s'.prs.length ≤ 4096 ∧ PWk w0 w' B g bm t pv s' m') ∨ (R = false ∧ ∀ s', o = some s' → 4096 < s'.prs.length))
theorem RchR.no {w0 w w' : World} {B g bm : Nat} {t : Tr} {pv : Value} {o : Option Sw} {b : Bool} (hb : b = false) (h : KpM g bm w w') (ho : o = none) : RchR w0 w w' B g bm t pv o (.returned (.bool b)) :=
 ⟨false, by rw [hb], h, .inr ⟨rfl, fun s' e => by rw [ho] at e; cases e⟩⟩
theorem leaf_fin {o : Option Sw} {s : Sw} {nd : Nd} {f : Nat} {id d : Int} (hW : o = if nd.keys = [] ∨ (s.dep ≠ none ∧ s.dep ≠ some f) then none else some ⟨id :: s.seen, some f, s.prs ++ npr nd⟩) (hlv : nd.vals.length = nd.keys.length) (hdep : s.dep = none ↔ s.prs = [])
  (hd : d = 16 - (f : Int)) {D : Int} (hD : D = match s.dep with | none => 0 | some f => 16 - (f : Int)) :
  ((0 < nd.keys.length ∧ d = (if s.prs.length = 0 then d else D) ∧ s.prs.length + nd.keys.length ≤ 4096) → o = some ⟨id :: s.seen, some f, s.prs ++ npr nd⟩ ∧ (s.prs ++ npr nd).length ≤ 4096) ∧
  (¬ (0 < nd.keys.length ∧ d = (if s.prs.length = 0 then d else D) ∧ s.prs.length + nd.keys.length ≤ 4096) → ∀ s', o = some s' → 4096 < s'.prs.length) := by
 have hl : (s.prs ++ npr nd).length = s.prs.length + nd.keys.length := by rw [List.length_append, npr, List.length_zip, hlv, Nat.min_self]
 refine ⟨fun ⟨h1, h2, h3⟩ => ?_, fun h s' hs' => ?_⟩
 ·refine ⟨?_, by omega⟩
  rw [hW, if_neg]
  rintro (h4 | ⟨h4, h5⟩)
  ·rw [h4] at h1; simp at h1
  ·by_cases h0 : s.prs.length = 0
   ·exact h4 (hdep.2 (List.eq_nil_of_length_eq_zero h0))
   ·rw [if_neg h0] at h2
    cases hd2 : s.dep with
    | none => exact h4 hd2
    | some f' =>
     rw [hd2] at hD
     dsimp only at hD
     exact h5 (by rw [hd2]; congr 1; omega)
 ·rw [hW] at hs'
  split at hs'
  ·cases hs'
  ·rename_i hc
   simp only [Option.some.injEq] at hs'
   subst hs'
   show 4096 < (s.prs ++ npr nd).length
   rw [hl]
   apply Nat.lt_of_not_le
   intro h5
   refine h ⟨?_, ?_, h5⟩
   ·apply Nat.pos_of_ne_zero
    intro h6
    exact hc (.inl (List.eq_nil_of_length_eq_zero h6))
   ·by_cases h0 : s.prs.length = 0
    ·rw [if_pos h0]
    ·rw [if_neg h0]
     cases hd2 : s.dep with
     | none => exact absurd (by rw [hdep.1 hd2]; rfl) h0
     | some f' =>
      rw [hd2] at hD
      dsimp only at hD
      by_cases ef : f' = f
      ·subst ef; omega
      ·exact absurd (.inr ⟨by rw [hd2]; simp, by rw [hd2]; simpa using ef⟩) hc
theorem wk_outs {l : List Wrt} {f : Nat} {id : Int} {lo : Str} {hi : Option Str} {s : Sw} {x : List UInt8} (hx : tpage l id = some x) (h : (ndec x).1.keys.all (kin lo hi) = false) : wk l f id lo hi s = none := by
 cases f with
 | zero => rfl
 | succ f => unfold wk; rw [hx]; simp [h]
set_option maxRecDepth 100000 in
set_option maxHeartbeats 4000000 in
theorem preach_any (w0 : World) (t : Tr) (pv : Value) (B g bm : Nat) (hN : 1 ≤ t.next ∧ t.next ≤ 65536) (hU : tups t.next t.pages t.pages.length) :
  ∀ (f : Nat), f ≤ 16 → ∀ (w : World) (s : Sw) (m : Int → Option Value) (id : Int) (lo : Str) (hi : Option Str), PWk w0 w B g bm t pv s m → s.prs.length ≤ 4096 → B ≤ w.heap.size → HiOk hi → (Lit.int .i64 id).wf = true →
  Calls Try.prog 52 #[.pointer (some ⟨g, 0, none⟩), .int .i64 id, .int .i64 (17 - (f : Int)), sv lo hi] w fun e w' => RchR w0 w w' B g bm t pv (wk t.pages f id lo hi s) e := by
 intro f
 induction f with
 | zero =>
  intro hf w s m id lo hi H hs4 hBw hh hid
  obtain ⟨root, next, ps⟩ := t
  obtain ⟨a, c, rfl⟩ := H.pg.slice
  have lp : ps.length ≤ 65536 := by have := tups_len hU hN.1; dsimp only at this hN; omega
  obtain ⟨dep, hdep⟩ : ∃ d : Int, d = 17 - ((0 : Nat) : Int) := ⟨_, rfl⟩
  dsimp only [sv]
  obtain ⟨hs, hhs⟩ : ∃ x, x = hi.getD [] := ⟨_, rfl⟩
  rw [← hdep, ← hhs]
  have hd16 : dep > 16 := by omega
  replace hdep := hide hdep
  replace hhs := hide hhs
  obtain ⟨W, hW, DW, bW, sW⟩ := boxedN w #[st lo, st hs] 75
  have HW := H.to bW
  have KP := hide (pdata_at w0 W _ ⟨root, next, ps⟩ id HW.pg HW.bel (tups_up hU) lp)
  obtain ⟨⟨C0, C1, C2, C3⟩, ⟨C4, C5⟩, CF⟩ := HW.cell
  dsimp only at C0 C1 C2 C3 C4 C5 hN
  rw [hW] at C0 C1 C2 C3 C4 C5 CF KP
  replace H := hide H
  replace HW := hide HW
  replace hU := hide hU
  replace lp := hide lp
  replace hN := hide hN
  replace hh := hide hh
  replace hid := hide hid
  replace hBw := hide hBw
  replace hs4 := hide hs4
  have BW := hide bW
  have DW' := hide DW
  clear bW DW
  go_enter Try.func52, Try.ntmps52
  go_wp2_with fail
  refine KP.out.mono ?_
  rintro e w1 ⟨bv, ok, rfl, hp, b1⟩
  rw [← hW] at b1
  clear C0 C1 C2 C3 C4 C5 CF KP
  replace hW := hide hW
  have H1 := HW.out.to b1
  have K1 := hide (KpM.of (g := g) (m := bm) (BW.out.trans (b1.mono BW.out.size)))
  have S1 := hide ((b1.block _ (lt_of_block DW'.out)).trans DW'.out)
  obtain ⟨⟨C0, C1, C2, C3⟩, ⟨C4, C5⟩, CF⟩ := H1.cell
  dsimp only at C0 C1 C2 C3 C4 C5
  have hlk := H1.map.look Try.underlying88 (zeroNd w1) hid.out true
  simp only [if_true] at hlk
  by_cases hin : id ∈ s.seen
  ·have hs2 : (m id).isSome = true := by rw [H1.has]; exact decide_eq_true hin
   obtain ⟨v, hv⟩ := Option.isSome_iff_exists.1 hs2
   obtain ⟨x, nd, kv, vv, dv, _, _, rfl, ho, _⟩ := H1.nds id v hv
   rw [hv] at hlk
   have hz : Hid (wk ps 0 id lo hi s = none) := wk_seen hin
   dsimp only [Option.getD, Option.isSome, nv] at hlk
   obtain ⟨ka, kc, va, vc, da, dc, rfl, rfl, rfl⟩ := ho.rd.slices
   replace hin := hide hin
   replace hp := hide hp
   replace hv := hide hv
   obtain ⟨V, hV, DV, bV, sV⟩ := boxedN w1 #[.bool nd.leaf, .slice ka nd.keys.length kc, .slice va nd.vals.length vc, .slice da nd.kids.length dc] 79
   have KV := hide (K1.out.trans (KpM.of bV))
   rw [hV] at KV
   clear hs2 ho DV bV sV hV
   go_wp2
   go_ret
   exact RchR.no rfl KV.out hz.out
  ·have hs2 : m id = none := by
    have h1 := H1.has id
    rw [decide_eq_false hin] at h1
    cases hm : m id with
    | none => rfl
    | some v => rw [hm] at h1; cases h1
   rw [hs2] at hlk
   dsimp only [Option.getD, Option.isSome] at hlk
   obtain ⟨V, hV, DV, bV, sV⟩ := boxedN w1 #[.bool false, .slice none 0 0, .slice none 0 0, .slice none 0 0] 79
   have KV := hide (K1.out.trans (KpM.of bV))
   have HV := hide (H1.to bV)
   have SV := hide ((bV.block _ (lt_of_block S1.out)).trans S1.out)
   replace hs2 := hide hs2
   clear DV bV H1 K1 S1
   cases ok with
   | false =>
    have hz : Hid (wk ps 0 id lo hi s = none) := by
     refine wk_none ?_
     rcases hp with ⟨o, _⟩ | ⟨_, o, _⟩
     ·cases o
     ·exact o
    rw [hV] at KV
    clear hp
    replace hin := hide hin
    go_wp2
    go_ret
    exact RchR.no rfl KV.out hz.out
   | true =>
    replace hp := hide hp
    replace hin := hide hin
    rw [hV] at KV
    go_wp2
    go_ret
    exact RchR.no rfl KV.out rfl
 | succ f ih =>
  intro hf w s m id lo hi H hs4 hBw hh hid
  obtain ⟨root, next, ps⟩ := t
  obtain ⟨a, c, rfl⟩ := H.pg.slice
  have lp : ps.length ≤ 65536 := by have := tups_len hU hN.1; dsimp only at this hN; omega
  obtain ⟨dep, hdep⟩ : ∃ d : Int, d = 17 - ((f + 1 : Nat) : Int) := ⟨_, rfl⟩
  dsimp only [sv]
  obtain ⟨hs, hhs⟩ : ∃ x, x = hi.getD [] := ⟨_, rfl⟩
  rw [← hdep, ← hhs]
  have hd16 : ¬ dep > 16 := by omega
  replace hdep := hide hdep
  replace hhs := hide hhs
  obtain ⟨W, hW, DW, bW, sW⟩ := boxedN w #[st lo, st hs] 75
  have HW := H.to bW
  have KP := hide (pdata_at w0 W _ ⟨root, next, ps⟩ id HW.pg HW.bel (tups_up hU) lp)
  obtain ⟨⟨C0, C1, C2, C3⟩, ⟨C4, C5⟩, CF⟩ := HW.cell
  dsimp only at C0 C1 C2 C3 C4 C5 hN
  rw [hW] at C0 C1 C2 C3 C4 C5 CF KP
  replace H := hide H
  replace HW := hide HW
  replace hU := hide hU
  replace ih := hide ih
  replace lp := hide lp
  replace hN := hide hN
  replace hh := hide hh
  replace hid := hide hid
  replace hBw := hide hBw
  replace hs4 := hide hs4
  have BW := hide bW
  have DW' := hide DW
  clear bW DW
  go_enter Try.func52, Try.ntmps52
  go_wp2_with fail
  refine KP.out.mono ?_
  rintro e w1 ⟨bv, ok, rfl, hp, b1⟩
  rw [← hW] at b1
  clear C0 C1 C2 C3 C4 C5 CF KP
  replace hW := hide hW
  have H1 := HW.out.to b1
  have K1 := hide (KpM.of (g := g) (m := bm) (BW.out.trans (b1.mono BW.out.size)))
  have S1 := hide ((b1.block _ (lt_of_block DW'.out)).trans DW'.out)
  obtain ⟨⟨C0, C1, C2, C3⟩, ⟨C4, C5⟩, CF⟩ := H1.cell
  dsimp only at C0 C1 C2 C3 C4 C5
  have hlk := H1.map.look Try.underlying88 (zeroNd w1) hid.out true
  simp only [if_true] at hlk
  by_cases hin : id ∈ s.seen
  ·have hs2 : (m id).isSome = true := by rw [H1.has]; exact decide_eq_true hin
   obtain ⟨v, hv⟩ := Option.isSome_iff_exists.1 hs2
   obtain ⟨x, nd, kv, vv, dv, _, _, rfl, ho, _⟩ := H1.nds id v hv
   rw [hv] at hlk
   have hz : Hid (wk ps (f + 1) id lo hi s = none) := wk_seen hin
   dsimp only [Option.getD, Option.isSome, nv] at hlk
   obtain ⟨ka, kc, va, vc, da, dc, rfl, rfl, rfl⟩ := ho.rd.slices
   replace hin := hide hin
   replace hp := hide hp
   replace hv := hide hv
   obtain ⟨V, hV, DV, bV, sV⟩ := boxedN w1 #[.bool nd.leaf, .slice ka nd.keys.length kc, .slice va nd.vals.length vc, .slice da nd.kids.length dc] 79
   have KV := hide (K1.out.trans (KpM.of bV))
   rw [hV] at KV
   clear hs2 ho DV bV sV hV
   go_wp2
   go_ret
   exact RchR.no rfl KV.out hz.out
  ·have hs2 : m id = none := by
    have h1 := H1.has id
    rw [decide_eq_false hin] at h1
    cases hm : m id with
    | none => rfl
    | some v => rw [hm] at h1; cases h1
   rw [hs2] at hlk
   dsimp only [Option.getD, Option.isSome] at hlk
   obtain ⟨V, hV, DV, bV, sV⟩ := boxedN w1 #[.bool false, .slice none 0 0, .slice none 0 0, .slice none 0 0] 79
   have KV := hide (K1.out.trans (KpM.of bV))
   have HV := hide (H1.to bV)
   have SV := hide ((bV.block _ (lt_of_block S1.out)).trans S1.out)
   replace hs2 := hide hs2
   clear DV bV H1 K1 S1
   cases ok with
   | false =>
    have hz : Hid (wk ps (f + 1) id lo hi s = none) := by
     refine wk_none ?_
     rcases hp with ⟨o, _⟩ | ⟨_, o, _⟩
     ·cases o
     ·exact o
    rw [hV] at KV
    clear hp
    replace hin := hide hin
    go_wp2
    go_ret
    exact RchR.no rfl KV.out hz.out
   | true =>
    obtain ⟨x, hx, hr⟩ : ∃ x, tpage ps id = some x ∧ Rd w0 bv x := by
     rcases hp with ⟨_, o⟩ | ⟨o, _⟩
     ·exact o
     ·cases o
    clear hp
    replace hin := hide hin
    have KD := hide (pdecD_any V bv x (hr.to HV.out.bel))
    replace hx := hide hx
    clear hr
    rw [hV] at KD
    go_wp2_with fail
    refine KD.out.mono ?_
    rintro e w3 ⟨kv, vv, dv, rfl, hon, b3, hdj⟩
    replace hdj := hide hdj
    rw [← hV] at b3 hon
    clear C0 C1 C2 C3 C4 C5 CF hlk KD
    replace hV := hide hV
    obtain ⟨nd, hnd⟩ : ∃ nd, nd = (ndec x).1 := ⟨_, rfl⟩
    obtain ⟨err, herr⟩ : ∃ err, err = (ndec x).2 := ⟨_, rfl⟩
    rw [← hnd] at hon ⊢
    rw [← herr]
    obtain ⟨U, hUU, DU, bU, sU⟩ := boxedN w3 #[.bool nd.leaf, kv, vv, dv] 79
    have bb := b3.trans (bU.mono b3.size)
    have HU1 := hide (HV.out.to bb)
    have KU := hide (KV.out.trans (KpM.of bb))
    have SU := hide ((bb.block _ (lt_of_block SV.out)).trans SV.out)
    have hBV : B ≤ V.heap.size := Nat.le_trans hBw.out KV.out.2.1
    have ON := hide ((hon.to bU).mono hBV)
    have hnb : Hid (B ≤ w3.heap.size ∧ B ≤ w.heap.size) := ⟨Nat.le_trans hBV b3.size, hBw.out⟩
    obtain ⟨⟨E0, E1, E2, E3⟩, EF⟩ := cells4 DU
    obtain ⟨ka, kc, va, vc, da, dc, rfl, rfl, rfl⟩ := hon.rd.slices
    obtain ⟨⟨S0, S1⟩, _⟩ := cells2r SU.out
    obtain ⟨⟨C0, C1, C2, C3⟩, ⟨C4, C5⟩, CF⟩ := HU1.out.cell
    dsimp only at C0 C1 C2 C3 C4 C5
    have KC := hide (pcont_any U lo hi hh.out _ nd.keys ON.out.rd.keys)
    dsimp only [sv] at KC
    rw [← hhs.out, hUU] at KC
    have DU' := hide DU
    rw [hUU] at E0 E1 E2 E3 S0 S1 C0 C1 C2 C3 C4 C5 CF
    have hfr := hide (rows_new HV.out.nds hon)
    clear DU b3 bU bb hon KV HV SV hBV
    by_cases he : err = 0
    ·subst he
     have hd : Hid (ndec x = (nd, 0)) := by show _ = _; rw [hnd, herr]
     replace hnd := hide hnd
     replace herr := hide herr
     go_wp2_with fail
     refine KC.out.mono ?_
     rintro e w4 ⟨R, rfl, hR, b4⟩
     rw [← hUU] at b4
     clear E0 E1 E2 E3 S0 S1 C0 C1 C2 C3 C4 C5 CF KC
     replace hUU := hide hUU
     have H4 := hide (HU1.out.to b4)
     have K4 := hide (KU.out.trans (KpM.of b4))
     have N4 := hide (ON.out.to b4)
     have D4 := hide ((b4.block _ (lt_of_block DU'.out)).trans DU'.out)
     have S4 := hide ((b4.block _ (lt_of_block SU.out)).trans SU.out)
     clear HU1 KU ON DU' SU b4
     cases R with
     | true =>
      have hz : Hid (wk ps (f + 1) id lo hi s = none) := wk_outs hx.out (by rw [← hnd.out]; exact hR.1 rfl)
      clear hR
      go_wp2
      go_ret
      exact RchR.no rfl K4.out hz.out
     | false =>
      have hall : Hid (nd.keys.all (kin lo hi) = true) := by
       show _ = _
       cases hq : nd.keys.all (kin lo hi) with
       | true => rfl
       | false => have := hR.2 hq; cases this
      clear hR
      have hb1 := hide (tpage_bd hU.out hx.out)
      have hlen : Hid (s.seen.length < maxLen) := by
       have := nodup_len 65536 s.seen H4.out.ok.1 (fun i hi => by have h1 := H4.out.ok.2.1 i hi; have h2 := hN.out; dsimp only at h1; omega)
       show _ < _
       unfold maxLen; omega
      have bD : Below w4.heap.size w4 w4.drew := below_drewN' w4 1 _
      have HD := H4.out.to bD
      obtain ⟨w5, hrun, hmap, hgr⟩ := HD.map.store Try.underlying88 hlen.out hid.out (nv nd (.slice ka nd.keys.length kc) (.slice va nd.vals.length vc) (.slice da nd.kids.length dc))
      have ND : NdOf ps B w4.drew id (nv nd (.slice ka nd.keys.length kc) (.slice va nd.vals.length vc) (.slice da nd.kids.length dc)) := ⟨x, nd, _, _, _, hx.out, hd.out, rfl, N4.out.to bD, hdj.out⟩
      obtain ⟨P5, k5⟩ := HD.see hgr hmap hb1.out hin.out ND hfr.out
      have DD := (bD.block _ (lt_of_block D4.out)).trans D4.out
      obtain ⟨⟨E0, E1, E2, E3⟩, EF⟩ := cells4 DD
      obtain ⟨⟨C0, C1, C2, C3⟩, ⟨C4, C5⟩, CF⟩ := HD.cell
      have hgn : Hid (g < B ∧ bm < B) := ⟨H4.out.hg.2, H4.out.hm.2⟩
      have N5 := hide (k5.node (N4.out.to bD) hgn.out.1 hgn.out.2)
      have D5 := hide ((k5.1 _ (lt_of_block DD) (by have := hgn.out; have := hnb.out; omega) (by have := hgn.out; have := hnb.out; omega)).trans DD)
      have SD := (bD.block _ (lt_of_block S4.out)).trans S4.out
      have S5 := hide ((k5.1 _ (lt_of_block SD) (by have := hgn.out; have := hnb.out; omega) (by have := hgn.out; have := hnb.out; omega)).trans SD)
      have K5 := hide ((K4.out.trans (KpM.of bD)).trans k5)
      obtain ⟨m5, P5⟩ : ∃ m5, PWk w0 w5 B g bm ⟨root, next, ps⟩ (.slice a ps.length c) ⟨id :: s.seen, s.dep, s.prs⟩ m5 := ⟨_, P5⟩
      replace P5 := hide P5
      dsimp only [nv] at hrun
      have hrun' := hide hrun
      clear HD hmap hgr ND k5 DD SD bD hrun H4 K4 N4 D4 S4
      go_wp2
      refine wp_region_mid (fun w' => w'.cell? ⟨g, 3, none⟩ = some (.map (some bm)) ∧ w'.cell? ⟨w3.heap.size, 0, none⟩ = some (.bool nd.leaf) ∧ w'.cell? ⟨w3.heap.size, 1, none⟩ = some (.slice ka nd.keys.length kc) ∧ w'.cell? ⟨w3.heap.size, 2, none⟩ = some (.slice va nd.vals.length vc) ∧ w'.cell? ⟨w3.heap.size, 3, none⟩ = some (.slice da nd.kids.length dc)) 6 6 mixed (by kernel_rfl) (fun _ _ _ _ h => h) ⟨C3, E0, E1, E2, E3⟩ ?_
      dsimp only [List.take, List.drop]
      iterate 6
       refine take_one (v := ?_) (by rfl) ?_ ?_
       rotate_left
       ·rintro w' ⟨s1, s2, s3, s4, s5⟩
        go_simp
        try with_reducible rfl
       try simp only [Act.put, List.setIfInBounds_toArray, List.set_cons_zero, List.set_cons_succ]
      show wpList _ _ _ _ _ _
      have hrun := hrun'.out
      clear C0 C1 C2 C3 C4 C5 CF E0 E1 E2 E3 EF
      obtain ⟨⟨E0, E1, E2, E3⟩, EF⟩ := cells4 D5.out
      have hok : NOk nd := by have := (ndec_back (xs := x) (by rw [hd.out])).1; rw [hd.out] at this; exact this
      have hK3 : nd.keys.length ≤ 300 := (npr_len hok).2
      replace hok := hide hok
      cases hlf : nd.leaf with
      | true =>
       rw [hlf] at E0 hrun
       have hlv : Hid (nd.vals.length = nd.keys.length) := by
        have h1 := hok.out.2.1
        unfold ncount at h1
        rw [if_pos hlf] at h1
        exact h1.1
       have hW := wk_leaf (f := f) hx.out hin.out hd.out hall.out hlf
       have hL : s.prs.length ≤ 100000000 := by have := P5.out.ok.len hN.out.2; dsimp only at this; omega
       have hdep' : dep = 16 - (f : Int) := by have := hdep.out; omega
       have FIN := hide (leaf_fin hW hlv.out P5.out.dep hdep' (D := sdep s) (by unfold sdep; rfl))
       have KCt := hide (pcount_any w5 g _ _ _ _ s.prs.length nd.keys.length _ dep P5.out.box hL (by omega))
       replace hlf := hide hlf
       clear hW hL
       replace hdep' := hide hdep'
       go_wp2_with fail
       refine KCt.out.mono ?_
       rintro e w6 ⟨R2, rfl, kg, hbx, hR2⟩
       have K6 : KpM g bm w5 w6 := ⟨fun b h1 h2 _ => kg.1 b h1 h2, kg.2.1, fun C h1 _ h3 => kg.2.2 C h1 h3⟩
       have RR : Hid (RchR w0 w w6 B g bm ⟨root, next, ps⟩ (.slice a ps.length c) (wk ps (f + 1) id lo hi s) (.returned (.bool R2))) := by
        refine ⟨R2, rfl, K5.out.trans K6, ?_⟩
        cases hr : R2 with
        | true =>
         have hc := hR2.1 hr
         obtain ⟨f1, f2⟩ := FIN.out.1 hc
         refine .inl ⟨rfl, _, m5, f1, f2, ?_⟩
         have hnl : (npr nd).length = nd.keys.length := by rw [npr, List.length_zip, hlv.out, Nat.min_self]
         refine P5.out.leaf kg ?_ (fun h => by rw [h] at hnl; have := hc.1; simp at hnl; omega) ?_
         ·rw [hnl, ← hdep'.out, hc.2.1]
          exact hbx
         ·exact H.out.ok.see hb1.out hin.out (some f) (npr_len hok.out).1
        | false => exact .inr ⟨rfl, FIN.out.2 (fun h => by have := hR2.2 h; rw [hr] at this; cases this)⟩
       clear kg hbx hR2 K6 KCt FIN
       go_wp2
       go_ret
       exact RR.out
      | false =>
       rw [hlf] at E0 hrun
       have hW := hide (wk_inner (f := f) hx.out hin.out hd.out hall.out hlf)
       obtain ⟨s1, hs1'⟩ : ∃ s1 : Sw, s1 = ⟨id :: s.seen, s.dep, s.prs⟩ := ⟨_, rfl⟩
       rw [← hs1'] at P5 hW
       have hDK : nd.kids.length = nd.keys.length + 1 := by
        have h1 := hok.out.2.1
        unfold ncount at h1
        rw [hlf, if_neg (by decide)] at h1
        exact h1.2.2
       obtain ⟨D, hD⟩ : ∃ D, D = nd.kids.length := ⟨_, rfl⟩
       obtain ⟨KK, hKK⟩ : ∃ K, K = nd.keys.length := ⟨_, rfl⟩
       have hD3 : D ≤ 301 := by omega
       have hDK' : Hid (D = KK + 1) := by show _ = _; omega
       rw [← hD] at hrun E3 D5 N5
       rw [← hKK] at hrun E1 D5 N5
       rw [← hD, ← hKK]
       replace hDK := hide hDK
       replace hD := hide hD
       replace hKK := hide hKK
       obtain ⟨dp, hdp⟩ : ∃ d : Int, dep + 1 = d := ⟨_, rfl⟩
       have hdw : IntKind.i64.wrap dp = dp := IntWalk.i64_in _ (by have := hdep.out; omega)
       have hde : Hid (dp = 17 - (f : Int)) := by show _ = _; have := hdep.out; omega
       replace hlf := hide hlf
       replace hs1' := hide hs1'
       go_wp2
       clear hrun E0 E1 E2 E3 EF
       go_loopw [75] (fun p wr => ∃ k : Nat, k ≤ D ∧ p = .int .i64 k ∧ Hid (∃ s' m', wkK (wk ps f) nd lo hi 0 (nd.kids.take k) s1 = some s' ∧ s'.prs.length ≤ 4096 ∧ PWk w0 wr B g bm ⟨root, next, ps⟩ (.slice a ps.length c) s' m' ∧ KpM g bm w5 wr)) (fun p _ => D - (intOf p).toNat)
       case atStart => exact ⟨0, Nat.zero_le _, rfl, hide ⟨s1, m5, rfl, by rw [hs1'.out]; exact hs4.out, P5.out, KpM.refl _ _ _⟩⟩
       case round =>
        obtain ⟨k, hk, rfl, hI⟩ := hrel
        obtain ⟨s2, m2, q1, q2, q3, q4⟩ := hI.out
        clear hI
        have N6 := q4.node N5.out hgn.out.1 hgn.out.2
        have D6 := (q4.1 _ (lt_of_block D5.out) (by have := hgn.out; have := hnb.out; omega) (by have := hgn.out; have := hnb.out; omega)).trans D5.out
        have S6 := (q4.1 _ (lt_of_block S5.out) (by have := hgn.out; have := hnb.out; omega) (by have := hgn.out; have := hnb.out; omega)).trans S5.out
        obtain ⟨⟨E0, E1, E2, E3⟩, EF⟩ := cells4 D6
        obtain ⟨⟨T0, T1⟩, _⟩ := cells2r S6
        by_cases hlt : k < D
        ·have hq : (k : Int) < (D : Int) := by omega
         obtain ⟨kid, hkid⟩ := some_el nd.kids (k := k) (by rw [← hD.out]; exact hlt)
         obtain ⟨b3, off3, e3, hc3⟩ := N6.rd.kids.intAt hkid
         have KO := hide (pofkid_any wr lo hi (.slice ka KK kc) nd k N6.rd.keys (by have := hDK'.out; rw [← hKK.out]; omega))
         have hst : Hid (wkK (wk ps f) nd lo hi 0 (nd.kids.take (k + 1)) s1 = wk ps f kid (kidLo nd lo k) (kidHi nd hi k) s2) := by show _ = _; rw [wkK_take _ _ _ _ _ _ hkid, q1]; rfl
         have hkw : Hid ((Lit.int .i64 kid).wf = true) := by
          have := hok.out.2.2.2.1 k (by rw [← hD.out]; exact hlt)
          rw [hkid] at this
          simp only [Option.getD_some] at this
          exact WalkArith.wf_i64 (by omega)
         have hho : Hid (HiOk (kidHi nd hi k)) := by
          unfold kidHi
          split
          ·rename_i hlk
           have := (hok.out.1 k hlk).1
           unfold nkey at this
           intro h9
           simp only [Option.some.injEq, List.getD_eq_getElem?_getD] at h9
           rw [h9] at this
           simp at this
          ·exact hh.out
         have R3 := hide (And.intro q1 (And.intro q2 (And.intro q3 q4)))
         have hBr : Hid (B ≤ wr.heap.size) := Nat.le_trans hBw.out (Nat.le_trans K5.out.2.1 q4.2.1)
         replace hkid := hide hkid
         dsimp only [sv] at KO
         rw [← hhs.out] at KO
         clear q1 q2 q3 q4 N6 D6 S6
         subst e3
         go_wp2_with fail
         refine KO.out.mono ?_
         rintro e w7 ⟨rfl, b7⟩
         have KR := hide (ih.out (by omega) w7 s2 m2 kid (kidLo nd lo k) (kidHi nd hi k) (R3.out.2.2.1.to b7) R3.out.2.1 (Nat.le_trans hBr.out b7.size) hho.out hkw.out)
         rw [← hde.out] at KR
         have K7 := hide (R3.out.2.2.2.trans (KpM.of b7))
         clear b7 KO
         go_wp2_with fail
         refine KR.out.mono ?_
         rintro e w8 ⟨R8, rfl, k8, h8⟩
         cases R8 with
         | true =>
          have hI' : Hid (∃ s' m', wkK (wk ps f) nd lo hi 0 (nd.kids.take (k + 1)) s1 = some s' ∧ s'.prs.length ≤ 4096 ∧ PWk w0 w8 B g bm ⟨root, next, ps⟩ (.slice a ps.length c) s' m' ∧ KpM g bm w5 w8) := by
           rcases h8 with ⟨_, s', m', p1, p2, p3⟩ | ⟨p, _⟩
           ·exact ⟨s', m', by rw [hst.out]; exact p1, p2, p3, K7.out.trans k8⟩
           ·cases p
          clear h8 k8 KR
          go_wp2
          go_roundw
          case rel => exact ⟨k + 1, by omega, by go_num, hI'⟩
          case measure => simp [intOf]; omega
         | false =>
          have RR : Hid (RchR w0 w w8 B g bm ⟨root, next, ps⟩ (.slice a ps.length c) (wk ps (f + 1) id lo hi s) (.returned (.bool false))) := by
           refine ⟨false, rfl, K5.out.trans (K7.out.trans k8), .inr ⟨rfl, fun s' hs' => ?_⟩⟩
           rw [hW.out] at hs'
           obtain ⟨sk, z1, z2⟩ := wkK_at (wk_mono ps f) nd lo hi nd.kids s1 s' hs' (nd.kids.length - (k + 1)) (k + 1) (by rw [← hD.out]; omega)
           rw [hst.out] at z1
           rcases h8 with ⟨p, _⟩ | ⟨_, p⟩
           ·cases p
           ·have := p sk z1; omega
          clear h8 k8 KR
          go_wp2
          go_ret
          exact RR.out
        ·have hq : ¬ (k : Int) < (D : Int) := by omega
         have ht : nd.kids.take k = nd.kids := List.take_of_length_le (by rw [← hD.out]; omega)
         rw [ht, ← hW.out] at q1
         have RR : Hid (RchR w0 w wr B g bm ⟨root, next, ps⟩ (.slice a ps.length c) (wk ps (f + 1) id lo hi s) (.returned (.bool true))) := ⟨true, rfl, K5.out.trans q4, .inl ⟨rfl, s2, m2, q1, q2, q3⟩⟩
         clear q1 q2 q3 q4 ht N6 D6 S6
         go_wp2
         go_ret
         exact RR.out
    ·have hq : (err != 0) = true := by simpa using he
     have hz : Hid (wk ps (f + 1) id lo hi s = none) := wk_bad hx.out (by rw [← herr]; exact he)
     replace he := hide he
     replace hnd := hide hnd
     replace herr := hide herr
     rw [hUU] at KU
     go_wp2
     go_ret
     exact RchR.no rfl KU.out hz.out
end Go.Proofs.Ytmmjdacjcipgjaa

namespace Go.Proofs.Ytmmjdacjcipgjaa
open Go.RowKit
theorem SeenW.made (w : World) (n : Nat) (h : n ≤ 281474976710656) : SeenW w.heap.size n [] (w.alloc (.cells (madeCells #[.bool false] n) 4)) := by
 have := World.ownsRow_lit (base := w.heap.size) (e := 4) (size := 1) w (madeCells #[.bool false] n) n (Nat.le_refl _) (by unfold maxLen; omega) (by simp [madeCells])
 rw [toList_madeCells_one] at this
 show World.ownsRow _ _ _ _ _ _ _
 rw [useen_nil, List.map_replicate]
 exact this
end Go.Proofs.Ytmmjdacjcipgjaa

namespace Go.Proofs.Ytmmjdacjcipgjaa
open Go.RowKit
def pget (l : List Pr) (k : Str) : Option Str := (l.find? fun y => y.1 == k).map (·.2)
def pin (a b : Str) (y : Pr) : Bool := !slt y.1 a && (b == [] || slt y.1 b)
def pscan (l : List Pr) (a b : Str) : List Pr := l.filter (pin a b)
def tscan (t : Tr) (a b : Str) : List Pr × Int := match tprs t with
 | none => ([], 9)
 | some l => (pscan l a b, 0)
def tcheck (t : Tr) : Int := match tprs t with
 | none => 9
 | some _ => 0
theorem pget_hit {l : List Pr} {i : Nat} {y : Pr} {k : Str} (hy : l[i]? = some y) (h : (y.1 == k) = true) (hb : ∀ t z, t < i → l[t]? = some z → (z.1 == k) = false) : pget l k = some y.2 := by
 unfold pget
 have : l.find? (fun y => y.1 == k) = some y := by
  induction l generalizing i with
  | nil => simp at hy
  | cons x r ih =>
   cases i with
   | zero =>
    have : x = y := by simpa using hy
    subst this
    simp [List.find?, h]
   | succ i =>
    have h0 := hb 0 x (by omega) rfl
    rw [List.find?_cons, h0]
    exact ih (i := i) (by simpa using hy) (fun t z ht hz => hb (t + 1) z (by omega) (by simpa using hz))
 rw [this]; rfl
theorem pget_none {l : List Pr} {k : Str} (hb : ∀ (t : Nat) z, l[t]? = some z → (z.1 == k) = false) : pget l k = none := by
 unfold pget
 have : l.find? (fun y => y.1 == k) = none := by
  rw [List.find?_eq_none]
  intro z hz
  obtain ⟨t, ht, e⟩ := List.getElem_of_mem hz
  simp [hb t z (by rw [List.getElem?_eq_getElem ht, e])]
 rw [this]; rfl
theorem pscan_snoc (l : List Pr) (a b : Str) {i : Nat} {y : Pr} (h : l[i]? = some y) : pscan (l.take (i + 1)) a b = if pin a b y = true then pscan (l.take i) a b ++ [y] else pscan (l.take i) a b := by
 unfold pscan
 rw [List.take_add_one, h, List.filter_append]
 cases hp : pin a b y <;> simp [hp]
end Go.Proofs.Ytmmjdacjcipgjaa

namespace Go.Proofs.Ytmmjdacjcipgjaa
open Go.RowKit
theorem TNum.p {t : Tr} (h : TNum t) : PNum t := ⟨h.1, h.2.1, h.2.2.1⟩
theorem twalk_num {t : Tr} {s : Sw} (h : twalk t = some s) : t.root = 0 ∨ tpage t.pages t.root ≠ none := by
 unfold twalk at h
 by_cases e : t.root = 0
 ·exact .inl e
 ·rw [if_neg e] at h
  refine .inr fun h1 => ?_
  rw [wk_none h1] at h
  cases h
theorem tprs_of {t : Tr} {s : Sw} (hp : PNum t) (h : twalk t = some s) (hl : s.prs.length ≤ 4096) : tprs t = some s.prs := by
 unfold tprs
 rw [if_pos (show TNum t from ⟨hp.1, hp.2.1, hp.2.2, twalk_num h⟩), h]
 simp [hl]
theorem tprs_no {t : Tr} (h : ¬ PNum t) : tprs t = none := by
 unfold tprs
 rw [if_neg fun h1 => h h1.p]
theorem tprs_no2 {t : Tr} (h : ∀ s, twalk t = some s → 4096 < s.prs.length) : tprs t = none := by
 unfold tprs
 split
 ·cases hw : twalk t with
  | none => rfl
  | some s =>
   have := h s hw
   simp [show ¬ s.prs.length ≤ 4096 by omega]
 ·rfl
def WofR (w w' : World) (t : Tr) (pv : Value) (e : Ending) : Prop :=
 (∃ g bm B s m, e = .returned (.tuple #[.pointer (some ⟨g, 0, none⟩), .int .i64 0]) ∧ PNum t ∧ twalk t = some s ∧ s.prs.length ≤ 4096 ∧ PWk w w' B g bm t pv s m ∧ B ≤ w'.heap.size) ∨
 (e = .returned (.tuple #[.pointer none, .int .i64 9]) ∧ tprs t = none ∧ Below w.heap.size w w')
set_option maxRecDepth 100000 in
set_option maxHeartbeats 2000000 in
theorem pwalkof_any (w : World) (t : Tr) (pv : Value) (h : RdC w pv t.pages) (hroot : (Lit.int .i64 t.root).wf = true) : Calls Try.prog 29 #[tv t pv] w fun e w' => WofR w w' t pv e := by
 have hmm := @run_makeMap Try.prog
 obtain ⟨root, next, ps⟩ := t
 obtain ⟨a, c, rfl⟩ := h.slice
 obtain ⟨W, hW, DW, bW, sW⟩ := boxedN w #[.int .i64 root, .int .i64 next, .slice a ps.length c] 26
 obtain ⟨⟨D0, D1, D2⟩, _⟩ := cells3p DW
 dsimp only [tv] at *
 obtain ⟨M, hM⟩ : ∃ M, M = W.alloc (.map #[] 0) := ⟨_, rfl⟩
 have sM : M.heap.size = w.heap.size + 1 + 1 := by rw [hM]; simp [sW]
 have bM : Below W.heap.size W M := by rw [hM]; exact (Below.refl _ _).alloc (Nat.le_refl _) _
 obtain ⟨X, hX, DX, bX, sX⟩ := boxedN M #[.int .i64 root, .int .i64 next, .slice a ps.length c, .map (some (w.heap.size + 1)), .int .i64 0, .int .i64 0] 90
 have mI : MapI M (w.heap.size + 1) 0 fun _ => none := by rw [hM, ← sW]; exact MapI.made W
 have bw := bW.trans ((bM.mono bW.size).trans (bX.mono (by omega)))
 have P0 : PWk w X (w.heap.size + 1 + 1 + 1) (w.heap.size + 1 + 1) (w.heap.size + 1) ⟨root, next, ps⟩ (.slice a ps.length c) ⟨[], none, []⟩ (fun _ => none) :=
  ⟨by rw [← sM]; exact DX, mI.kept (bX.block _ mI.lt), (fun i => by simp), (fun i v hv => by cases hv), h, ⟨List.nodup_nil, (fun i hi => by cases hi), Nat.zero_le _⟩, by simp, bw, by omega, by omega, (fun i j v u hv => by cases hv)⟩
 have KN := hide (pnumd_any X (.slice a ps.length c) ⟨root, next, ps⟩ (h.to0 bw))
 obtain ⟨⟨C0, C1, C2, C3⟩, ⟨C4, C5⟩, CF⟩ := P0.cell
 dsimp only [tv] at KN C0 C1 C2 C3 C4 C5
 rw [hW] at D0 D1 D2
 have HP := hide P0
 rw [hX, hM, hW] at KN C0 C1 C2 C3 C4 C5 CF
 clear h DW bW DX bX bM mI bw P0
 go_enter Try.func29, Try.ntmps29
 go_wp2_with fail
 refine KN.out.mono ?_
 rintro e w1 ⟨R, rfl, hR, b1⟩
 rw [← hW, ← hM, ← hX] at b1
 clear KN C0 C1 C2 C3 C4 C5 CF D0 D1 D2
 replace hX := hide hX
 replace hM := hide hM
 replace hW := hide hW
 have P1 := HP.out.to b1
 have hBs : Hid (w.heap.size + 1 + 1 + 1 ≤ w1.heap.size) := by have := b1.size; show _ ≤ _; omega
 obtain ⟨⟨C0, C1, C2, C3⟩, ⟨C4, C5⟩, CF⟩ := P1.cell
 dsimp only at C0 C1 C2 C3 C4 C5
 clear HP b1
 cases R with
 | false =>
  have hz : Hid (tprs ⟨root, next, ps⟩ = none) := tprs_no fun h => by have := hR.2 h; cases this
  have PB := hide P1.bel
  clear hR P1
  go_wp2
  go_ret2
  exact .inr ⟨rfl, hz.out, PB.out⟩
 | true =>
  have hp : Hid (PNum ⟨root, next, ps⟩) := hR.1 rfl
  have HP1 := hide P1
  have KR := hide (preach_any w ⟨root, next, ps⟩ (.slice a ps.length c) (w.heap.size + 1 + 1 + 1) (w.heap.size + 1 + 1) (w.heap.size + 1) ⟨hp.out.1, hp.out.2.1⟩ hp.out.2.2 16 (Nat.le_refl _) w1 _ _ root [] none P1 (Nat.zero_le _) hBs.out (fun h => by cases h) hroot)
  rw [show (17 - ((16 : Nat) : Int)) = 1 from rfl] at KR
  replace hroot := hide hroot
  clear hR P1
  by_cases r0 : root = 0
  ·have hr : Hid (twalk ⟨root, next, ps⟩ = some ⟨[], none, []⟩) := by show _ = _; unfold twalk; rw [if_pos r0]
   have r1 : (root != 0) = false := by simp [r0]
   replace r0 := hide r0
   go_wp2
   go_ret2
   exact .inl ⟨_, _, _, _, _, rfl, hp.out, hr.out, Nat.zero_le _, HP1.out, hBs.out⟩
  ·have hr : Hid (twalk ⟨root, next, ps⟩ = wk ps 16 root [] none ⟨[], none, []⟩) := by show _ = _; unfold twalk; rw [if_neg r0]
   have r1 : (root != 0) = true := by simp [r0]
   replace r0 := hide r0
   go_wp2_with fail
   refine KR.out.mono ?_
   rintro e w7 ⟨R7, rfl, k7, h7⟩
   clear KR
   cases R7 with
   | true =>
    obtain ⟨s', m', q1, q2, q3⟩ : ∃ s' m', wk ps 16 root [] none ⟨[], none, []⟩ = some s' ∧ s'.prs.length ≤ 4096 ∧ PWk w w7 (w.heap.size + 1 + 1 + 1) (w.heap.size + 1 + 1) (w.heap.size + 1) ⟨root, next, ps⟩ (.slice a ps.length c) s' m' := by
     rcases h7 with ⟨_, p⟩ | ⟨p, _⟩
     ·exact p
     ·cases p
    have Q := hide (And.intro (hr.out.trans q1) (And.intro q2 (And.intro q3 (Nat.le_trans hBs.out k7.2.1))))
    clear h7 k7 q1 q2 q3
    go_wp2
    go_ret2
    exact .inl ⟨_, _, _, _, _, rfl, hp.out, Q.out.1, Q.out.2.1, Q.out.2.2.1, Q.out.2.2.2⟩
   | false =>
    have hz : Hid (tprs ⟨root, next, ps⟩ = none) := tprs_no2 fun s hs => by
     rw [hr.out] at hs
     rcases h7 with ⟨p, _⟩ | ⟨_, p⟩
     ·cases p
     ·exact p s hs
    have PB := hide (HP1.out.bel.trans (k7.2.2 w.heap.size (by omega) (by omega) HP1.out.bel.size))
    clear h7 k7
    go_wp2
    go_ret2
    exact .inr ⟨rfl, hz.out, PB.out⟩
set_option maxRecDepth 100000 in
set_option maxHeartbeats 2000000 in
theorem pcheck10_any (w : World) (t : Tr) (pv : Value) (h : RdC w pv t.pages) (hroot : (Lit.int .i64 t.root).wf = true) : Calls Try.prog 20 #[tv t pv] w fun e w' => e = .returned (.int .i64 (tcheck t)) ∧ Below w.heap.size w w' := by
 obtain ⟨W, hW, D, bW, sW⟩ := boxedN w #[.int .i64 t.root, .int .i64 t.next, pv] 26
 have KN := hide (pwalkof_any W t pv (h.to0 bW) hroot)
 obtain ⟨a, c, rfl⟩ := h.slice
 obtain ⟨⟨D0, D1, D2⟩, _⟩ := cells3p D
 have HB := hide bW
 rw [hW] at D0 D1 D2 KN
 dsimp only [tv] at KN ⊢
 clear h bW D sW hroot
 generalize t.root = root at *
 generalize t.next = next at *
 generalize t.pages.length = L at *
 go_enter Try.func20, Try.ntmps20
 go_wp2_with fail
 refine KN.out.mono ?_
 rintro e w1 hp
 rw [← hW] at hp
 rcases hp with ⟨g, bm, B, s, m, rfl, p1, p2, p3, p4, _⟩ | ⟨rfl, p1, p2⟩
 ·have hc : Hid (tcheck t = 0) := by show _ = _; unfold tcheck; rw [tprs_of p1 p2 p3]
  have B1 := hide (HB.out.trans (p4.bel.mono HB.out.size))
  clear p1 p2 p3 p4 KN HB hW D0 D1 D2
  go_wp2
  go_ret
  exact ⟨ret_i9 hc.out.symm, B1.out⟩
 ·have hc : Hid (tcheck t = 9) := by show _ = _; unfold tcheck; rw [p1]
  have B1 := hide (HB.out.trans (p2.mono HB.out.size))
  clear p1 p2 KN HB hW D0 D1 D2
  go_wp2
  go_ret
  exact ⟨ret_i9 hc.out.symm, B1.out⟩
def WforR (w w' : World) (t : Tr) (pv : Value) (k : Str) (e : Ending) : Prop :=
 (∃ g bm B s m, e = .returned (.tuple #[.pointer (some ⟨g, 0, none⟩), .int .i64 0]) ∧ tkey k = true ∧ PNum t ∧ twalk t = some s ∧ s.prs.length ≤ 4096 ∧ PWk w w' B g bm t pv s m ∧ B ≤ w'.heap.size) ∨
 (∃ err, e = .returned (.tuple #[.pointer none, .int .i64 err]) ∧ ((tprs t = none ∧ err = 9) ∨ (∃ l, tprs t = some l ∧ tkey k = false ∧ err = 91)) ∧ Below w.heap.size w w')
theorem PWk.from {w0 w v : World} {B g bm : Nat} {t : Tr} {pv : Value} {s : Sw} {m : Int → Option Value} (h : PWk w0 w B g bm t pv s m) (hb : Below v.heap.size v w0) (hr : RdC v pv t.pages) : PWk v w B g bm t pv s m :=
 ⟨h.box, h.map, h.has, h.nds, hr, h.ok, h.dep, hb.trans (h.bel.mono hb.size), ⟨Nat.le_trans hb.size h.hg.1, h.hg.2⟩, ⟨Nat.le_trans hb.size h.hm.1, h.hm.2⟩, h.apt⟩
set_option maxRecDepth 100000 in
set_option maxHeartbeats 2000000 in
theorem pwalkfor_any (w : World) (t : Tr) (pv : Value) (k : Str) (hk : k.length ≤ 9223372036854775807) (h : RdC w pv t.pages) (hroot : (Lit.int .i64 t.root).wf = true) : Calls Try.prog 34 #[tv t pv, st k] w fun e w' => WforR w w' t pv k e := by
 obtain ⟨W, hW, D, bW, sW⟩ := boxedN w #[.int .i64 t.root, .int .i64 t.next, pv] 26
 have KN := hide (pwalkof_any W t pv (h.to0 bW) hroot)
 have HH := hide h
 obtain ⟨a, c, rfl⟩ := h.slice
 obtain ⟨⟨D0, D1, D2⟩, _⟩ := cells3p D
 have HB := hide bW
 rw [hW] at D0 D1 D2 KN
 dsimp only [tv] at KN ⊢
 clear h bW D sW hroot
 go_enter Try.func34, Try.ntmps34
 go_wp2_with fail
 refine KN.out.mono ?_
 rintro e w1 hp
 rw [← hW] at hp
 rcases hp with ⟨g, bm, B, s, m, rfl, p1, p2, p3, p4, p5⟩ | ⟨rfl, p1, p2⟩
 ·have ht : Hid (tprs t = some s.prs) := tprs_of p1 p2 p3
  have P4 := hide (p4.from HB.out HH.out)
  have QQ := hide (And.intro p1 (And.intro p2 (And.intro p3 p5)))
  have hkd : Hid (tkey k = decide (1 ≤ k.length ∧ k.length ≤ 32)) := (rfl : _ = _)
  clear p1 p2 p3 p4 p5 KN hW D0 D1 D2
  by_cases c1 : (k.length : Int) < 1
  ·have hz : Hid (tkey k = false) := by show _ = _; rw [hkd.out]; exact decide_eq_false (by omega)
   go_wp2
   go_ret2
   exact .inr ⟨_, rfl, .inr ⟨_, ht.out, hz.out, rfl⟩, P4.out.bel⟩
  ·by_cases c2 : (k.length : Int) > 32
   ·have hz : Hid (tkey k = false) := by show _ = _; rw [hkd.out]; exact decide_eq_false (by omega)
    go_wp2
    go_ret2
    exact .inr ⟨_, rfl, .inr ⟨_, ht.out, hz.out, rfl⟩, P4.out.bel⟩
   ·have hz : Hid (tkey k = true) := by show _ = _; rw [hkd.out]; exact decide_eq_true (by omega)
    go_wp2
    go_ret2
    exact .inl ⟨_, _, _, _, _, rfl, hz.out, QQ.out.1, QQ.out.2.1, QQ.out.2.2.1, P4.out, QQ.out.2.2.2⟩
 ·have B1 := hide (HB.out.trans (p2.mono HB.out.size))
  replace p1 := hide p1
  clear p2 KN HB hW D0 D1 D2
  go_wp2
  go_ret2
  exact .inr ⟨_, rfl, .inl ⟨p1.out, rfl⟩, B1.out⟩
end Go.Proofs.Ytmmjdacjcipgjaa

namespace Go.Proofs.Ytmmjdacjcipgjaa
def prsOf (l : List Wrt) : Nat → Int → List Pr
 | 0, _ => []
 | f + 1, id => match tpage l id with
  | none => []
  | some x => if (ndec x).1.leaf = true then npr (ndec x).1 else (ndec x).1.kids.flatMap (prsOf l f)
def WOk (l : List Wrt) (S : List Int) : Nat → Int → Str → Option Str → Prop
 | 0, _, _, _ => False
 | f + 1, id, lo, hi => id ∈ S ∧ ∃ x nd, tpage l id = some x ∧ ndec x = (nd, 0) ∧ nd.keys.all (kin lo hi) = true ∧ (nd.leaf = true → nd.keys ≠ []) ∧
   (nd.leaf = false → ∀ (i : Nat) kid, nd.kids[i]? = some kid → WOk l S f kid (kidLo nd lo i) (kidHi nd hi i))
theorem WOk.mono {l : List Wrt} {S S' : List Int} (hS : ∀ i ∈ S, i ∈ S') : ∀ {f : Nat} {id : Int} {lo : Str} {hi : Option Str}, WOk l S f id lo hi → WOk l S' f id lo hi
 | 0, _, _, _, h => h
 | f + 1, id, lo, hi, ⟨h0, x, nd, h1, h2, h3, h4, h5⟩ => ⟨hS _ h0, x, nd, h1, h2, h3, h4, fun hl i kid hk => WOk.mono hS (h5 hl i kid hk)⟩
theorem prsOf_leaf {l : List Wrt} {f : Nat} {id : Int} {x : List UInt8} {nd : Nd} (h1 : tpage l id = some x) (h2 : ndec x = (nd, 0)) (hl : nd.leaf = true) : prsOf l (f + 1) id = npr nd := by
 conv => lhs; unfold prsOf
 rw [h1]
 simp [h2, hl]
theorem prsOf_inner {l : List Wrt} {f : Nat} {id : Int} {x : List UInt8} {nd : Nd} (h1 : tpage l id = some x) (h2 : ndec x = (nd, 0)) (hl : nd.leaf = false) : prsOf l (f + 1) id = nd.kids.flatMap (prsOf l f) := by
 conv => lhs; unfold prsOf
 rw [h1]
 simp [h2, hl]
theorem wkK_ok {l : List Wrt} {f : Nat} (ih : ∀ (id : Int) (lo : Str) (hi : Option Str) (s s' : Sw), wk l f id lo hi s = some s' → (∀ i ∈ s.seen, i ∈ s'.seen) ∧ WOk l s'.seen f id lo hi ∧ s'.prs = s.prs ++ prsOf l f id) (n : Nd) (lo : Str) (hi : Option Str) :
  ∀ (ks : List Int) (i : Nat) (s s' : Sw), wkK (wk l f) n lo hi i ks s = some s' → (∀ j ∈ s.seen, j ∈ s'.seen) ∧ (∀ (j : Nat) kid, ks[j]? = some kid → WOk l s'.seen f kid (kidLo n lo (i + j)) (kidHi n hi (i + j))) ∧ s'.prs = s.prs ++ ks.flatMap (prsOf l f)
 | [], i, s, s', h => by
  simp only [wkK, Option.some.injEq] at h
  subst h
  exact ⟨fun _ h => h, fun j kid h => by simp at h, by simp⟩
 | k :: r, i, s, s', h => by
  simp only [wkK] at h
  cases h1 : wk l f k (kidLo n lo i) (kidHi n hi i) s with
  | none => rw [h1] at h; cases h
  | some s1 =>
   rw [h1] at h
   obtain ⟨a1, a2, a3⟩ := ih _ _ _ _ _ h1
   obtain ⟨b1, b2, b3⟩ := wkK_ok ih n lo hi r (i + 1) s1 s' h
   refine ⟨fun j hj => b1 j (a1 j hj), fun j kid hk => ?_, by rw [b3, a3]; simp⟩
   cases j with
   | zero =>
    have : k = kid := by simpa using hk
    subst this
    exact a2.mono b1
   | succ j =>
    have := b2 j kid (by simpa using hk)
    rw [show i + (j + 1) = i + 1 + j from by omega]
    exact this
theorem wk_ok {l : List Wrt} : ∀ (f : Nat) (id : Int) (lo : Str) (hi : Option Str) (s s' : Sw), wk l f id lo hi s = some s' → (∀ i ∈ s.seen, i ∈ s'.seen) ∧ WOk l s'.seen f id lo hi ∧ s'.prs = s.prs ++ prsOf l f id
 | 0, id, lo, hi, s, s', h => by cases h
 | f + 1, id, lo, hi, s, s', h => by
  cases hx : tpage l id with
  | none => rw [wk_none hx] at h; cases h
  | some x =>
   by_cases hs : id ∈ s.seen
   ·rw [wk_seen hs] at h; cases h
   ·by_cases he : (ndec x).2 = 0
    ·obtain ⟨nd, hnd⟩ : ∃ nd, nd = (ndec x).1 := ⟨_, rfl⟩
     have hd : ndec x = (nd, 0) := by rw [hnd, ← he]
     cases ha : nd.keys.all (kin lo hi) with
     | false =>
      unfold wk at h
      rw [hx] at h
      simp [hs, hd, ha] at h
     | true =>
      cases hl : nd.leaf with
      | true =>
       rw [wk_leaf hx hs hd ha hl] at h
       split at h
       ·cases h
       ·rename_i hc
        simp only [Option.some.injEq] at h
        subst h
        refine ⟨fun i hi => List.mem_cons_of_mem _ hi, ⟨List.mem_cons_self .., x, nd, hx, hd, ha, fun _ h0 => hc (.inl h0), fun h0 => by rw [hl] at h0; cases h0⟩, ?_⟩
        rw [prsOf_leaf hx hd hl]
      | false =>
       rw [wk_inner hx hs hd ha hl] at h
       obtain ⟨b1, b2, b3⟩ := wkK_ok (wk_ok f) nd lo hi nd.kids 0 _ s' h
       refine ⟨fun i hi => b1 i (List.mem_cons_of_mem _ hi), ⟨b1 _ (List.mem_cons_self ..), x, nd, hx, hd, ha, (fun h0 => by rw [hl] at h0; cases h0), fun _ i kid hk => ?_⟩, ?_⟩
       ·have := b2 i kid hk
        rw [Nat.zero_add] at this
        exact this
       ·rw [b3, prsOf_inner hx hd hl]
    ·rw [wk_bad hx he] at h; cases h
abbrev Rise (l : List Str) : Prop := l.Pairwise fun a b => slt a b = true
theorem rise_of {n : Nd} (h : nkeys n n.keys.length) : Rise n.keys := by
 apply List.pairwise_iff_getElem.2
 intro i j hi hj hij
 have := keys_lt h j i hij hj
 simpa [nkey, hi, hj] using this
theorem slt_le_lt {a b c : Str} (h1 : slt b a = false) (h2 : slt b c = true) : slt a c = true := by
 rcases slt_tot a b with h | h | h
 ·exact slt_trans h h2
 ·subst h; exact h2
 ·rw [h] at h1; cases h1
theorem slt_lt_le {a b c : Str} (h1 : slt a b = true) (h2 : slt c b = false) : slt a c = true := by
 rcases slt_tot b c with h | h | h
 ·exact slt_trans h1 h
 ·subst h; exact h1
 ·rw [h] at h2; cases h2
theorem slt_ne {a b : Str} (h : slt a b = true) : (a == b) = false := by
 apply Bool.eq_false_iff.2
 intro e
 have : a = b := by simpa using e
 subst this
 rw [slt_irr] at h; cases h
theorem slt_ne' {a b : Str} (h : slt b a = true) : (a == b) = false := by
 apply Bool.eq_false_iff.2
 intro e
 have : a = b := by simpa using e
 subst this
 rw [slt_irr] at h; cases h
theorem nfnd_zero (leaf : Bool) (key : Str) : ∀ l : List Str, (∀ x ∈ l, slt key x = true) → nfnd leaf key l = 0
 | [], _ => rfl
 | k :: r, h => by
  have h1 := h k (by simp)
  have h2 := slt_asym h1
  simp only [nfnd]
  rw [nfnd_zero leaf key r fun x hx => h x (List.mem_cons_of_mem _ hx), h2, slt_ne' h1]
  simp
theorem nfnd_inner (key : Str) : ∀ l : List Str, Rise l → ∃ i : Nat, nfnd false key l = (i : Int) ∧ i ≤ l.length ∧ (∀ (j : Nat) x, j < i → l[j]? = some x → slt key x = false) ∧ (∀ (j : Nat) x, i ≤ j → l[j]? = some x → slt key x = true)
 | [], _ => ⟨0, rfl, Nat.le_refl _, fun j x h => by omega, fun j x _ h => by simp at h⟩
 | k :: r, h => by
  obtain ⟨h1, h2⟩ := List.pairwise_cons.1 h
  cases hk : slt key k with
  | true =>
   have hall : ∀ x ∈ r, slt key x = true := fun x hx => slt_trans hk (h1 x hx)
   refine ⟨0, nfnd_zero false key _ (fun x hx => ?_), Nat.zero_le _, fun j x h => by omega, fun j x _ hx => ?_⟩
   ·rcases List.mem_cons.1 hx with rfl | hx
    ·exact hk
    ·exact hall x hx
   ·rcases List.mem_cons.1 (List.mem_of_getElem? hx) with rfl | hx
    ·exact hk
    ·exact hall x hx
  | false =>
   obtain ⟨i, a1, a2, a3, a4⟩ := nfnd_inner key r h2
   refine ⟨i + 1, ?_, by simp; omega, fun j x hj hx => ?_, fun j x hj hx => ?_⟩
   ·simp only [nfnd]
    have : (slt k key || (!false && k == key)) = true := by
     rcases slt_tot k key with h | h | h
     ·simp [h]
     ·simp [h]
     ·rw [h] at hk; cases hk
    rw [if_pos this, a1]
    omega
   ·cases j with
    | zero => have : k = x := by simpa using hx
              subst this; exact hk
    | succ j => exact a3 j x (by omega) (by simpa using hx)
   ·cases j with
    | zero => omega
    | succ j => exact a4 j x (by omega) (by simpa using hx)
theorem nfnd_leaf (key : Str) : ∀ l : List Str, Rise l → ∃ i : Nat, nfnd true key l = (i : Int) ∧ i ≤ l.length ∧ (nis key l = true → l[i]? = some key) ∧ (∀ (j : Nat) x, j < i → l[j]? = some x → slt x key = true) ∧ (∀ (j : Nat) x, i ≤ j → l[j]? = some x → slt x key = false)
 | [], _ => ⟨0, rfl, Nat.le_refl _, fun h => by simp [nis] at h, fun j x h => by omega, fun j x _ h => by simp at h⟩
 | k :: r, h => by
  obtain ⟨h1, h2⟩ := List.pairwise_cons.1 h
  cases hk : slt k key with
  | true =>
   obtain ⟨i, a1, a2, a3, a4, a5⟩ := nfnd_leaf key r h2
   refine ⟨i + 1, ?_, by simp; omega, fun hn => ?_, fun j x hj hx => ?_, fun j x hj hx => ?_⟩
   ·simp only [nfnd]
    rw [if_pos (by simp [hk]), a1]
    omega
   ·have : nis key r = true := by
     simp only [nis, List.any_cons, slt_ne hk, Bool.false_or] at hn
     exact hn
    simpa using a3 this
   ·cases j with
    | zero => have : k = x := by simpa using hx
              subst this; exact hk
    | succ j => exact a4 j x (by omega) (by simpa using hx)
   ·cases j with
    | zero => omega
    | succ j => exact a5 j x (by omega) (by simpa using hx)
  | false =>
   have hall : ∀ x ∈ r, slt key x = true := fun x hx => slt_le_lt hk (h1 x hx)
   refine ⟨0, ?_, Nat.zero_le _, fun hn => ?_, fun j x h => by omega, fun j x _ hx => ?_⟩
   ·simp only [nfnd]
    rw [if_neg (by simp [hk]), nfnd_zero true key r hall]
    rfl
   ·have hkk : k = key := by
     simp only [nis, List.any_cons, Bool.or_eq_true] at hn
     rcases hn with h | h
     ·simpa using h
     ·obtain ⟨x, hx, e⟩ := List.any_eq_true.1 h
      have : x = key := by simpa using e
      subst this
      have := hall x hx
      rw [slt_irr] at this; cases this
    simp [hkk]
   ·rcases List.mem_cons.1 (List.mem_of_getElem? hx) with rfl | hx
    ·exact hk
    ·exact slt_asym (hall x hx)
theorem kin_kid {n : Nd} {lo : Str} {hi : Option Str} (ha : n.keys.all (kin lo hi) = true) {i : Nat} (hi9 : i ≤ n.keys.length) {k : Str} (h : kin (kidLo n lo i) (kidHi n hi i) k = true) : kin lo hi k = true := by
 have hall := List.all_eq_true.1 ha
 simp only [kin, Bool.and_eq_true, Bool.not_eq_true'] at h ⊢
 refine ⟨?_, ?_⟩
 ·by_cases h0 : i = 0
  ·rw [kidLo, if_pos h0] at h; exact h.1
  ·have hlt : i - 1 < n.keys.length := by omega
   have hk := hall (n.keys[i - 1]) (List.getElem_mem hlt)
   simp only [kin, Bool.and_eq_true, Bool.not_eq_true'] at hk
   have e : kidLo n lo i = n.keys[i - 1] := by rw [kidLo, if_neg h0]; simp [hlt]
   rw [e] at h
   cases hc : slt k lo with
   | false => rfl
   | true =>
    have := slt_lt_le hc hk.1
    rw [this] at h; cases h.1
 ·by_cases h0 : i < n.keys.length
  ·have hk := hall (n.keys[i]) (List.getElem_mem h0)
   simp only [kin, Bool.and_eq_true, Bool.not_eq_true'] at hk
   have e : kidHi n hi i = some n.keys[i] := by rw [kidHi, if_pos h0]; simp [h0]
   rw [e] at h
   cases hi with
   | none => rfl
   | some b => exact slt_trans h.2 hk.2
  ·rw [kidHi, if_neg h0] at h
   exact h.2
theorem kids_len {nd : Nd} (hok : NOk nd) (hl : nd.leaf = false) : nd.kids.length = nd.keys.length + 1 := by
 have h1 := hok.2.1
 unfold ncount at h1
 rw [hl, if_neg (by decide)] at h1
 exact h1.2.2
theorem ndec_ok {x : List UInt8} {nd : Nd} (h : ndec x = (nd, 0)) : NOk nd := by have := (ndec_back (xs := x) (by rw [h])).1; rw [h] at this; exact this
theorem WOk.kin {l : List Wrt} {S : List Int} : ∀ {f : Nat} {id : Int} {lo : Str} {hi : Option Str}, WOk l S f id lo hi → ∀ y ∈ prsOf l f id, kin lo hi y.1 = true
 | 0, _, _, _, h, _, _ => h.elim
 | f + 1, id, lo, hi, ⟨h0, x, nd, h1, h2, h3, h4, h5⟩, y, hy => by
  cases hl : nd.leaf with
  | true =>
   rw [prsOf_leaf h1 h2 hl] at hy
   exact List.all_eq_true.1 h3 _ (List.of_mem_zip hy).1
  | false =>
   rw [prsOf_inner h1 h2 hl] at hy
   obtain ⟨kid, hk, hy⟩ := List.mem_flatMap.1 hy
   obtain ⟨i, hi9, e⟩ := List.getElem_of_mem hk
   have hk' : nd.kids[i]? = some kid := by rw [List.getElem?_eq_getElem hi9, e]
   have := WOk.kin (h5 hl i kid hk') y hy
   exact kin_kid h3 (by rw [kids_len (ndec_ok h2) hl] at hi9; omega) this
theorem pget_app (a b : List Pr) (k : Str) (h : ∀ y ∈ a, (y.1 == k) = false) : pget (a ++ b) k = pget b k := by
 unfold pget
 rw [List.find?_append]
 have : a.find? (fun y => y.1 == k) = none := by
  rw [List.find?_eq_none]
  intro y hy
  simp [h y hy]
 rw [this]; rfl
theorem pget_app' (a b : List Pr) (k : Str) (h : ∀ y ∈ b, (y.1 == k) = false) : pget (a ++ b) k = pget a k := by
 unfold pget
 rw [List.find?_append]
 have : b.find? (fun y => y.1 == k) = none := by
  rw [List.find?_eq_none]
  intro y hy
  simp [h y hy]
 rw [this]; simp
theorem pget_flat {g : Int → List Pr} {k : Str} : ∀ (ks : List Int) (i : Nat) (kid : Int), ks[i]? = some kid → (∀ (j : Nat) kd, j ≠ i → ks[j]? = some kd → ∀ y ∈ g kd, (y.1 == k) = false) → pget (ks.flatMap g) k = pget (g kid) k
 | [], i, kid, h, _ => by simp at h
 | a :: r, 0, kid, h, hn => by
  have : a = kid := by simpa using h
  subst this
  rw [List.flatMap_cons]
  apply pget_app'
  intro y hy
  obtain ⟨kd, hk, hy⟩ := List.mem_flatMap.1 hy
  obtain ⟨j, hj, e⟩ := List.getElem_of_mem hk
  exact hn (j + 1) kd (by omega) (by simp [hj, e]) y hy
 | a :: r, i + 1, kid, h, hn => by
  rw [List.flatMap_cons, pget_app _ _ _ (hn 0 a (by omega) rfl)]
  exact pget_flat r i kid (by simpa using h) fun j kd hj hk => hn (j + 1) kd (by omega) (by simpa using hk)
theorem seek {l : List Wrt} {S : List Int} {f : Nat} {nd : Nd} {lo : Str} {hi : Option Str} (hok : NOk nd) (hl : nd.leaf = false) (key : Str) (h5 : ∀ (i : Nat) kid, nd.kids[i]? = some kid → WOk l S f kid (kidLo nd lo i) (kidHi nd hi i)) :
  ∃ (i : Nat) (kid : Int), nfind nd key = (i : Int) ∧ nd.kids[i]? = some kid ∧ i < nd.kids.length ∧ pget (nd.kids.flatMap (prsOf l f)) key = pget (prsOf l f kid) key := by
 obtain ⟨i, a1, a2, a3, a4⟩ := nfnd_inner key nd.keys (rise_of hok.1)
 have hlen := kids_len hok hl
 obtain ⟨kid, hkid⟩ : ∃ kid, nd.kids[i]? = some kid := ⟨_, List.getElem?_eq_getElem (by omega)⟩
 refine ⟨i, kid, ?_, hkid, by omega, ?_⟩
 ·rw [nfind, if_pos ((ncheck_ok nd).2 hok), hl]; exact a1
 ·refine pget_flat nd.kids i kid hkid fun j kd hj hk y hy => ?_
  have hb := (h5 j kd hk).kin y hy
  have hjl := (List.getElem?_eq_some_iff.1 hk).1
  simp only [Go.Proofs.Ytmmjdacjcipgjaa.kin, Bool.and_eq_true, Bool.not_eq_true'] at hb
  rcases Nat.lt_or_gt_of_ne hj with h | h
  ·have hjk : j < nd.keys.length := by omega
   have e : kidHi nd hi j = some nd.keys[j] := by rw [kidHi, if_pos hjk]; simp [hjk]
   rw [e] at hb
   have h1 := a3 j nd.keys[j] h (List.getElem?_eq_getElem hjk)
   exact slt_ne (slt_lt_le hb.2 h1)
  ·have hjk : j - 1 < nd.keys.length := by omega
   have e : kidLo nd lo j = nd.keys[j - 1] := by rw [kidLo, if_neg (by omega)]; simp [hjk]
   rw [e] at hb
   have h1 := a4 (j - 1) nd.keys[j - 1] (by omega) (List.getElem?_eq_getElem hjk)
   exact slt_ne' (slt_lt_le h1 hb.1)
theorem seekLeaf {nd : Nd} (hr : Rise nd.keys) (hv : nd.vals.length = nd.keys.length) (key : Str) : ∃ i : Nat, nfnd true key nd.keys = (i : Int) ∧ i ≤ nd.keys.length ∧
  ((nis key nd.keys = true ∧ i < nd.vals.length ∧ pget (npr nd) key = nd.vals[i]?) ∨ (nis key nd.keys = false ∧ pget (npr nd) key = none)) := by
 obtain ⟨i, a1, a2, a3, a4, a5⟩ := nfnd_leaf key nd.keys hr
 refine ⟨i, a1, a2, ?_⟩
 cases hn : nis key nd.keys with
 | true =>
  have hk := a3 hn
  have hil := (List.getElem?_eq_some_iff.1 hk).1
  obtain ⟨v, hv2⟩ : ∃ v, nd.vals[i]? = some v := ⟨_, List.getElem?_eq_getElem (by omega)⟩
  refine .inl ⟨rfl, by omega, ?_⟩
  rw [hv2]
  have hz : (npr nd)[i]? = some (key, v) := by simp [npr, List.getElem?_zip_eq_some, hk, hv2]
  exact pget_hit hz (by simp) fun t z ht hz2 => by
   rw [npr, List.getElem?_zip_eq_some] at hz2
   exact slt_ne (a4 t z.1 ht hz2.1)
 | false =>
  refine .inr ⟨rfl, pget_none fun t z hz => ?_⟩
  rw [npr, List.getElem?_zip_eq_some] at hz
  simp only [nis, List.any_eq_false] at hn
  have := hn z.1 (List.mem_of_getElem? hz.1)
  simpa using this
end Go.Proofs.Ytmmjdacjcipgjaa

namespace Go.Proofs.Ytmmjdacjcipgjaa
open Go.RowKit
abbrev nd0 : Nd := ⟨true, [], [], []⟩
theorem nd0_ok : NOk nd0 := by
 refine ⟨fun k hk => by simp at hk, ?_, fun k hk => by simp at hk, fun k hk => by simp at hk, by decide⟩
 simp [ncount]
def TopIs (t : Tr) (nd : Nd) : Prop := (t.root = 0 ∧ nd = nd0) ∨ (t.root ≠ 0 ∧ ∃ x, tpage t.pages t.root = some x ∧ ndec x = (nd, 0))
theorem info_nd10 : (Try.prog.info? 79).map (·.size) = some 4 := by kernel_rfl
theorem root_seen {t : Tr} {s : Sw} (h : twalk t = some s) (h0 : t.root ≠ 0) : WOk t.pages s.seen 16 t.root [] none ∧ s.prs = prsOf t.pages 16 t.root := by
 unfold twalk at h
 rw [if_neg h0] at h
 obtain ⟨_, a, b⟩ := wk_ok 16 _ _ _ _ _ h
 exact ⟨a, by simpa using b⟩
theorem PWk.node {w0 w : World} {B g bm : Nat} {t : Tr} {pv : Value} {s : Sw} {m : Int → Option Value} (h : PWk w0 w B g bm t pv s m) {id : Int} (hi : id ∈ s.seen) : ∃ v, m id = some v ∧ NdOf t.pages B w id v := by
 have h1 := h.has id
 rw [decide_eq_true hi] at h1
 obtain ⟨v, hv⟩ := Option.isSome_iff_exists.1 h1
 exact ⟨v, hv, h.nds id v hv⟩
theorem drewHeap {w : World} {b : Nat} {o : Option Obj} (h : w.heap[b]? = o) : w.drew.heap[b]? = o := h
abbrev S4 (g : Nat) (w : World) (x y z v : Value) : World := (((w.setCell ⟨g, 0, none⟩ x).setCell ⟨g, 1, none⟩ y).setCell ⟨g, 2, none⟩ z).setCell ⟨g, 3, none⟩ v
theorem s4_keep {g : Nat} {w : World} {cs : Array Value} {T : Nat} (h : w.heap[g]? = some (.cells cs T (0, 0))) (x y z v : Value) {e : Nat} (he : e ≠ T) : KeepT e w (S4 g w x y z v) :=
 (((KeepT.set (a := ⟨g, 0, none⟩) h he x).trans (KeepT.set (a := ⟨g, 1, none⟩) (heap_setN h 0 x) he y)).trans (KeepT.set (a := ⟨g, 2, none⟩) (heap_setN (heap_setN h 0 x) 1 y) he z)).trans (KeepT.set (a := ⟨g, 3, none⟩) (heap_setN (heap_setN (heap_setN h 0 x) 1 y) 2 z) he v)
theorem s4_other {g : Nat} {w : World} (x y z v : Value) {b : Nat} (h : b ≠ g) : (S4 g w x y z v).heap[b]? = w.heap[b]? := by
 rw [Below.heap_setCell _ _ _ _ h, Below.heap_setCell _ _ _ _ h, Below.heap_setCell _ _ _ _ h, Below.heap_setCell _ _ _ _ h]
theorem OwnN.keepT {B : Nat} {w w' : World} {kv vv dv : Value} {nd : Nd} (h : OwnN B w kv vv dv nd) (k1 : KeepT 9 w w') (k2 : KeepT 3 w w') : OwnN B w' kv vv dv nd := ⟨rows_keepT h.keys k1, rows_keepT h.vals k1, rows_keepT h.kids k2⟩
theorem PWk.side {w0 w w' : World} {B g bm : Nat} {t : Tr} {pv : Value} {s : Sw} {m : Int → Option Value} (h : PWk w0 w B g bm t pv s m) (k : ∀ e, e ≠ 79 → KeepT e w w') (hm : w'.heap[bm]? = w.heap[bm]?) (hb : Below w0.heap.size w0 w') : PWk w0 w' B g bm t pv s m := by
 refine ⟨k _ (by decide) _ _ _ h.box, h.map.kept hm, h.has, fun i v hv => ?_, h.pg, h.ok, h.dep, hb, h.hg, h.hm, h.apt⟩
 obtain ⟨x, nd, kv, vv, dv, h1, h2, h3, h4, h5⟩ := h.nds i v hv
 exact ⟨x, nd, kv, vv, dv, h1, h2, h3, h4.keepT (k _ (by decide)) (k _ (by decide)), h5⟩
set_option maxRecDepth 100000 in
set_option maxHeartbeats 2000000 in
theorem ptop_any (w0 w : World) (B g bm : Nat) (t : Tr) (pv : Value) (s : Sw) (m : Int → Option Value) (H : PWk w0 w B g bm t pv s m) (hroot : (Lit.int .i64 t.root).wf = true) (ht : twalk t = some s) :
  Calls Try.prog 31 #[.pointer (some ⟨g, 0, none⟩)] w fun e w' => ∃ nd kv vv dv, e = .returned (nv nd kv vv dv) ∧ TopIs t nd ∧ OwnN B w' kv vv dv nd ∧ Below w.heap.size w w' ∧ Dj kv vv dv := by
 obtain ⟨root, next, ps⟩ := t
 obtain ⟨W, hW, DW, bW, sW⟩ := boxedN w #[.bool false, .slice none 0 0, .slice none 0 0, .slice none 0 0] 79
 have HW := H.to bW
 obtain ⟨⟨C0, C1, C2, C3⟩, ⟨C4, C5⟩, CF⟩ := HW.cell
 obtain ⟨⟨E0, E1, E2, E3⟩, EF⟩ := cells4 DW
 dsimp only at C0 C1 C2 C3 C4 C5 hroot
 have HB := hide bW
 have HD := hide DW
 have HC := hide (And.intro HW.cell (cells4 DW))
 rw [hW] at C0 C1 C2 C3 C4 C5 CF E0 E1 E2 E3 EF
 by_cases r0 : root = 0
 ·have q : (root == 0) = true := by simp [r0]
  have hT : Hid (TopIs ⟨root, next, ps⟩ nd0) := .inl ⟨r0, rfl⟩
  replace r0 := hide r0
  clear DW bW
  go_enter Try.func31, Try.ntmps31
  go_wp2
  refine retN rfl rfl w.heap.size rfl _ _ _ (heap_alloc_last w _) _ Try.underlying79 rfl info_nd10 ?_
  exact ⟨nd0, _, _, _, rfl, hT.out, OwnN.nil _ _ _, (Below.refl _ _).alloc (Nat.le_refl _) _, Dj.nil⟩
 ·have q : (root == 0) = false := by simp [r0]
  obtain ⟨h1, _⟩ := root_seen ht r0
  obtain ⟨v, hv, x, nd, kv, vv, dv, n1, n2, rfl, n4, n5⟩ := HW.node h1.1
  replace n5 := hide n5
  have bD : Below W.heap.size W W.drew := below_drewN' W 1 _
  have HD2 := HW.to bD
  have hlk1 := HW.map.look Try.underlying88 (zeroNd W) hroot false
  have hlk2 := HD2.map.look Try.underlying88 (zeroNd W.drew) hroot false
  rw [hv] at hlk1 hlk2
  simp only [Option.getD_some, Bool.false_eq_true, if_false] at hlk1 hlk2
  have hT : Hid (TopIs ⟨root, next, ps⟩ nd) := .inr ⟨r0, x, n1, n2⟩
  obtain ⟨ka, kc, va, vc, da, dc, rfl, rfl, rfl⟩ := n4.rd.slices
  dsimp only [nv] at hlk1 hlk2
  have HN4 := hide n4
  replace r0 := hide r0
  have HD0 := hide DW
  clear HD DW bW
  go_enter Try.func31, Try.ntmps31
  go_upto_region 3 with fail
  rw [← hW]
  clear C0 C1 C2 C3 C4 C5 CF E0 E1 E2 E3 EF
  obtain ⟨⟨⟨C0, C1, C2, C3⟩, ⟨C4, C5⟩, CF⟩, ⟨E0, E1, E2, E3⟩, EF⟩ := HC.out
  dsimp only at C0 C1 C2 C3 C4 C5
  replace hW := hide hW
  go_region
  go_wp2
  refine retN rfl rfl w.heap.size rfl _ _ (0, 0) (drewHeap (heap_set4 HD0.out _ _ _ _)) _ Try.underlying79 rfl info_nd10 ?_
  refine ⟨nd, _, _, _, rfl, hT.out, ?_, ?_, n5.out⟩
  ·have k := fun e he => s4_keep (w := W) HD0.out (.bool nd.leaf) (.slice ka nd.keys.length kc) (.slice va nd.vals.length vc) (.slice da nd.kids.length dc) (e := e) he
   exact OwnN.to (HN4.out.keepT (k _ (by decide)) (k _ (by decide)) : OwnN B (S4 w.heap.size W _ _ _ _) _ _ _ nd) (below_drewN' _ 1 _)
  ·exact (below_set4n HB.out (Nat.le_refl _) _ _ _ _).trans (below_drewN' _ 1 _)
def SK (l : List Wrt) (S : List Int) (prs : List Pr) (key : Str) (k : Nat) (nd : Nd) : Prop := NOk nd ∧ ((nd.leaf = true ∧ pget prs key = pget (npr nd) key) ∨
 (nd.leaf = false ∧ ∃ lo hi, (∀ (i : Nat) kid, nd.kids[i]? = some kid → WOk l S k kid (kidLo nd lo i) (kidHi nd hi i)) ∧ pget prs key = pget (nd.kids.flatMap (prsOf l k)) key))
theorem SK.top {t : Tr} {s : Sw} (ht : twalk t = some s) {nd : Nd} (h : TopIs t nd) (key : Str) : SK t.pages s.seen s.prs key 15 nd := by
 rcases h with ⟨h0, rfl⟩ | ⟨h0, x, h1, h2⟩
 ·refine ⟨nd0_ok, .inl ⟨rfl, ?_⟩⟩
  unfold twalk at ht
  rw [if_pos h0] at ht
  simp only [Option.some.injEq] at ht
  subst ht
  rfl
 ·obtain ⟨⟨a1, x', nd', b1, b2, b3, b4, b5⟩, c⟩ := root_seen ht h0
  rw [h1] at b1
  simp only [Option.some.injEq] at b1
  subst b1
  rw [h2] at b2
  simp only [Prod.mk.injEq, and_true] at b2
  subst b2
  refine ⟨ndec_ok h2, ?_⟩
  cases hl : nd.leaf with
  | true => exact .inl ⟨rfl, by rw [c, prsOf_leaf h1 h2 hl]⟩
  | false => exact .inr ⟨rfl, [], none, b5 hl, by rw [c, prsOf_inner h1 h2 hl]⟩
theorem SK.step {l : List Wrt} {S : List Int} {prs : List Pr} {key : Str} {k : Nat} {nd : Nd} (h : SK l S prs key k nd) (hl : nd.leaf = false) :
  ∃ (i : Nat) (kid : Int), nfind nd key = (i : Int) ∧ nd.kids[i]? = some kid ∧ i < nd.kids.length ∧ kid ∈ S ∧ ∃ k' x nd', k = k' + 1 ∧ tpage l kid = some x ∧ ndec x = (nd', 0) ∧ SK l S prs key k' nd' := by
 obtain ⟨hok, h | ⟨_, lo, hi, h1, h2⟩⟩ := h
 ·rw [hl] at h; cases h.1
 ·obtain ⟨i, kid, a1, a2, a3, a4⟩ := seek hok hl key h1
  have hw := h1 i kid a2
  cases k with
  | zero => exact hw.elim
  | succ k' =>
   obtain ⟨b0, x, nd', b1, b2, b3, b4, b5⟩ := hw
   refine ⟨i, kid, a1, a2, a3, b0, k', x, nd', rfl, b1, b2, ndec_ok b2, ?_⟩
   cases hl' : nd'.leaf with
   | true => exact .inl ⟨rfl, by rw [h2, a4, prsOf_leaf b1 b2 hl']⟩
   | false => exact .inr ⟨rfl, _, _, b5 hl', by rw [h2, a4, prsOf_inner b1 b2 hl']⟩
theorem SK.leaf {l : List Wrt} {S : List Int} {prs : List Pr} {key : Str} {k : Nat} {nd : Nd} (h : SK l S prs key k nd) (hl : nd.leaf = true) :
  ∃ i : Nat, nfind nd key = (i : Int) ∧ ((nhas nd key = true ∧ i < nd.vals.length ∧ pget prs key = nd.vals[i]?) ∨ (nhas nd key = false ∧ pget prs key = none)) := by
 obtain ⟨hok, ⟨_, h⟩ | ⟨h, _⟩⟩ := h
 ·have hv : nd.vals.length = nd.keys.length := by
   have h1 := hok.2.1
   unfold ncount at h1
   rw [if_pos hl] at h1
   exact h1.1
  obtain ⟨i, a1, a2, a3⟩ := seekLeaf (rise_of hok.1) hv key
  refine ⟨i, by rw [nfind, if_pos ((ncheck_ok nd).2 hok), hl]; exact a1, ?_⟩
  rw [nhas, if_pos ((ncheck_ok nd).2 hok), h]
  rcases a3 with ⟨b1, b2, b3⟩ | ⟨b1, b2⟩
  ·exact .inl ⟨b1, b2, b3⟩
  ·exact .inr ⟨b1, b2⟩
 ·rw [hl] at h; cases h
theorem NOk.fit {nd : Nd} (h : NOk nd) : nfit nd := by
 have h1 := (npr_len h).2
 have h2 := h.2.1
 unfold ncount at h2
 unfold nfit
 split at h2 <;> omega
structure VI (w0 w wr : World) (B g bm : Nat) (t : Tr) (pv : Value) (s : Sw) (m : Int → Option Value) (nb : Nat) (key : Str) (k : Nat) (nd : Nd) (kv vv dv : Value) : Prop where
 box : wr.heap[nb]? = some (.cells #[.bool nd.leaf, kv, vv, dv] 79 (0, 0))
 own : OwnN B wr kv vv dv nd
 pw : PWk w0 wr B g bm t pv s m
 sk : SK t.pages s.seen s.prs key k nd
 bel : Below w.heap.size w wr
theorem VI.to {w0 w wr w' : World} {B g bm : Nat} {t : Tr} {pv : Value} {s : Sw} {m : Int → Option Value} {nb : Nat} {key : Str} {k : Nat} {nd : Nd} {kv vv dv : Value} (h : VI w0 w wr B g bm t pv s m nb key k nd kv vv dv) (b : Below wr.heap.size wr w') : VI w0 w w' B g bm t pv s m nb key k nd kv vv dv :=
 ⟨(b.block _ (lt_of_block h.box)).trans h.box, h.own.to b, h.pw.to b, h.sk, h.bel.trans (b.mono h.bel.size)⟩
theorem VI.put {w0 w wr : World} {B g bm : Nat} {t : Tr} {pv : Value} {s : Sw} {m : Int → Option Value} {nb : Nat} {key : Str} {k k' : Nat} {nd nd' : Nd} {kv vv dv kv' vv' dv' : Value} (h : VI w0 w wr B g bm t pv s m nb key k nd kv vv dv) (hnb : w.heap.size ≤ nb) (hw : w0.heap.size ≤ w.heap.size)
  (ho : OwnN B wr kv' vv' dv' nd') (hs : SK t.pages s.seen s.prs key k' nd') : VI w0 w (S4 nb wr (.bool nd'.leaf) kv' vv' dv').drew B g bm t pv s m nb key k' nd' kv' vv' dv' := by
 have kk := fun e (he : e ≠ 79) => s4_keep h.box (.bool nd'.leaf) kv' vv' dv' he
 refine VI.to (wr := S4 nb wr (.bool nd'.leaf) kv' vv' dv') ⟨heap_set4 h.box _ _ _ _, ho.keepT (kk _ (by decide)) (kk _ (by decide)), ?_, hs, below_set4n h.bel hnb _ _ _ _⟩ (below_drewN' _ 1 _)
 exact h.pw.side kk (s4_other _ _ _ _ (h.pw.map.ne h.box)) (below_set4n h.pw.bel (Nat.le_trans hw hnb) _ _ _ _)
def valOf (o : Option Str) : Str × Bool := match o with | some v => (v, true) | none => ([], false)
set_option maxRecDepth 100000 in
set_option maxHeartbeats 4000000 in
theorem pvalue_any (w0 w : World) (B g bm : Nat) (t : Tr) (pv : Value) (s : Sw) (m : Int → Option Value) (key : Str) (H : PWk w0 w B g bm t pv s m) (hB : B ≤ w.heap.size) (hroot : (Lit.int .i64 t.root).wf = true) (ht : twalk t = some s) :
  Calls Try.prog 35 #[.pointer (some ⟨g, 0, none⟩), st key] w fun e w' => e = .returned (.tuple #[st (valOf (pget s.prs key)).1, .bool (valOf (pget s.prs key)).2]) ∧ Below w.heap.size w w' := by
 have KT := hide (ptop_any w0 w B g bm t pv s m H hroot ht)
 obtain ⟨R, hR⟩ : ∃ R, R = valOf (pget s.prs key) := ⟨_, rfl⟩
 rw [← hR]
 replace hR := hide hR
 replace H := hide H
 replace ht := hide ht
 go_enter Try.func35, Try.ntmps35
 go_wp2_with fail
 refine KT.out.mono ?_
 rintro e w1 ⟨nd, kv, vv, dv, rfl, hT, ho, b1, _⟩
 obtain ⟨X, hX, DX, bX, sX⟩ := boxedN w1 #[.bool nd.leaf, kv, vv, dv] 79
 have bw := b1.trans (bX.mono b1.size)
 have HX := hide (H.out.to bw)
 have SK0 := SK.top ht.out hT key
 have KF := hide (pfind9_any X kv vv dv nd key (ho.to bX).rd SK0.1.fit)
 obtain ⟨ka, kc, va, vc, da, dc, rfl, rfl, rfl⟩ := ho.rd.slices
 obtain ⟨⟨E0, E1, E2, E3⟩, EF⟩ := cells4 DX
 rw [hX] at E0 E1 E2 E3 EF KF
 have OX := hide (ho.to bX)
 have DX' := hide DX
 have BX := hide bw
 replace SK0 := hide SK0
 have hnb : Hid (w.heap.size ≤ w1.heap.size) := b1.size
 dsimp only [nv] at KF
 clear DX bX bw ho b1 hT KT
 go_wp2_with fail
 refine KF.out.mono ?_
 rintro e w2 ⟨rfl, b2⟩
 rw [← hX] at b2
 replace hX := hide hX
 have VI0 : Hid (VI w0 w w2 B g bm t pv s m w1.heap.size key 15 nd (.slice ka nd.keys.length kc) (.slice va nd.vals.length vc) (.slice da nd.kids.length dc)) := VI.to ⟨DX'.out, OX.out, HX.out, SK0.out, BX.out⟩ b2
 have hw0 : Hid (w0.heap.size ≤ w.heap.size) := H.out.bel.size
 obtain ⟨nb, hnb'⟩ : ∃ nb, nb = w1.heap.size := ⟨_, rfl⟩
 rw [← hnb'] at VI0 hnb ⊢
 clear hnb' DX' OX HX SK0 BX KF E0 E1 E2 E3 EF b2
 go_wp2
 go_loopg [7, 8] 15 (fun k a b wr => ∃ nd kv vv dv, a = .int .i64 (nfind nd key) ∧ b = .bool (nhas nd key) ∧ Hid (VI w0 w wr B g bm t pv s m nb key k nd kv vv dv))
 case atStart => exact ⟨nd, _, _, _, rfl, rfl, VI0⟩
 case round =>
  obtain ⟨nd, kv, vv, dv, rfl, rfl, hI⟩ := hrel
  clear VI0
  obtain ⟨ka, kc, va, vc, da, dc, rfl, rfl, rfl⟩ := hI.out.own.rd.slices
  obtain ⟨⟨E0, E1, E2, E3⟩, EF⟩ := cells4 hI.out.box
  obtain ⟨⟨C0, C1, C2, C3⟩, ⟨C4, C5⟩, CF⟩ := hI.out.pw.cell
  cases hl : nd.leaf with
  | false =>
   rw [hl] at E0
   obtain ⟨i, kid, s1, s2, s3, s4, k', x, nd', rfl, n1, n2, s5⟩ := hI.out.sk.step hl
   obtain ⟨v, hv, x', nd'', kv', vv', dv', z1, z2, rfl, z4, _⟩ := hI.out.pw.node s4
   rw [n1] at z1
   simp only [Option.some.injEq] at z1
   subst z1
   rw [n2] at z2
   simp only [Prod.mk.injEq, and_true] at z2
   subst z2
   obtain ⟨b5, off5, e5, hc5⟩ := hI.out.own.rd.kids.intAt s2
   subst e5
   have hkw : (Lit.int .i64 kid).wf = true := by
    have := hI.out.sk.1.2.2.2.1 i s3
    rw [s2] at this
    simp only [Option.getD_some] at this
    exact WalkArith.wf_i64 (by omega)
   have bD : Below wr.heap.size wr wr.drew := below_drewN' wr 1 _
   have hlk1 := hI.out.pw.map.look Try.underlying88 (zeroNd wr) hkw false
   have hlk2 := (hI.out.pw.to bD).map.look Try.underlying88 (zeroNd wr.drew) hkw false
   rw [hv] at hlk1 hlk2
   simp only [Option.getD_some, Bool.false_eq_true, if_false] at hlk1 hlk2
   have VN := hide (hI.out.put (kv' := kv') (vv' := vv') (dv' := dv') hnb.out hw0.out z4 s5)
   obtain ⟨ka', kc', va', vc', da', dc', rfl, rfl, rfl⟩ := z4.rd.slices
   dsimp only [nv] at hlk1 hlk2
   have hil : (i : Int) < (nd.kids.length : Int) := by omega
   have KF := hide (pfind9_any _ _ _ _ nd' key VN.out.own.rd s5.1.fit)
   obtain ⟨⟨F0, F1, F2, F3⟩, FF⟩ := cells4 VN.out.box
   rw [s1]
   replace hl := hide hl
   clear s1 s2 s4 n1 n2 s5 hv z4 bD hkw hI
   obtain ⟨Y, hY⟩ : ∃ Y, Y = (S4 nb wr (.bool nd'.leaf) (.slice ka' nd'.keys.length kc') (.slice va' nd'.vals.length vc') (.slice da' nd'.kids.length dc')).drew := ⟨_, rfl⟩
   rw [← hY] at VN KF F0 F1 F2 F3 FF
   dsimp only [S4] at hY
   dsimp only [nv] at KF
   go_wp2
   go_region
   rw [← hY]
   clear hY hlk1 hlk2 E0 E1 E2 E3 EF C0 C1 C2 C3 C4 C5 CF
   go_wp2_with fail
   refine KF.out.mono ?_
   rintro e w5 ⟨rfl, b5⟩
   have VN5 := hide (VN.out.to b5)
   clear b5 VN KF F0 F1 F2 F3 FF
   go_wp2
   go_roundg k'
   case measure => omega
   case rel => exact ⟨nd', _, _, _, rfl, rfl, VN5⟩
  | true =>
   rw [hl] at E0
   obtain ⟨i, s1, s2⟩ := hI.out.sk.leaf hl
   have BB := hide hI.out.bel
   rw [s1]
   rcases s2 with ⟨s2, s3, s4⟩ | ⟨s2, s3⟩
   ·obtain ⟨v, hv⟩ := some_el nd.vals (k := i) s3
    have hr : Hid (R = (v, true)) := by show _ = _; rw [hR.out, s4, hv]; rfl
    obtain ⟨b5, off5, e5, hc5⟩ := hI.out.own.rd.vals.strAt hv
    subst e5
    have hil : (i : Int) < (nd.vals.length : Int) := by omega
    rw [s2]
    replace hl := hide hl
    clear s1 s2 s4 hv hI
    go_wp2
    go_ret2
    rw [hr.out]
    exact ⟨rfl, BB.out⟩
   ·have hr : Hid (R = ([], false)) := by show _ = _; rw [hR.out, s3]; rfl
    rw [s2]
    replace hl := hide hl
    clear s1 s2 s3 hI
    go_wp2
    go_ret2
    rw [hr.out]
    exact ⟨rfl, BB.out⟩
end Go.Proofs.Ytmmjdacjcipgjaa

namespace Go.Proofs.Ytmmjdacjcipgjaa
open Go.RowKit
abbrev OwnPg (B : Nat) (w : World) (v : Value) (ws : List Wrt) : Prop := OwnX 60 B w v ws
theorem infoPg : (Try.prog.info? 60).map (fun i => (i.zero, i.size, i.bytes)) = some (some (.agg #[.int .i64 0, .slice none 0 0]), 2, 32) := by kernel_rfl
theorem OwnX.shape {T B : Nat} {w : World} {v : Value} {ws : List Wrt} (h : OwnX T B w v ws) : ∃ a c, v = .slice a ws.length c := by
 obtain ⟨svs, h1, h2, h3⟩ := h
 rcases h2.2 with ⟨rfl, e⟩ | ⟨g, cap, cur, rfl, _⟩
 ·exact ⟨none, 0, by rw [e]⟩
 ·exact ⟨_, _, rfl⟩
theorem OwnX.to9 {T B : Nat} {w w' : World} {v : Value} {ws : List Wrt} (h : OwnX T B w v ws) (b : Below w.heap.size w w') : OwnX T B w' v ws := h.keepT (KeepT.below b) (KeepT.below b)
theorem wpList_appPg {ops : Array Oper} {rest : List Oper} {o : Oper} {a : Act} {w : World} {Q : Exit → Act → World → Prop} (hgd : o.guard = none) (s x : Operand)
  (ho : o.op = .call { callee := .builtin .append, args := #[s, x], argTypes := #[24, 24] }) (B : Nat) (v : Value) (ws : List Wrt) (f : Wrt) (sv : Value) (g : Nat) (hs : a.eval s = v) (hx : a.eval x = .slice (some ⟨g, 0, none⟩) 1 1)
  (hown : OwnPg B w v ws) (hsv : OwnB B w sv f.2) (hone : sv.oneCell' = true) (hc1 : w.cell? ⟨g, 0, none⟩ = some (.int .i64 f.1)) (hc2 : w.cell? ⟨g, 1, none⟩ = some sv) (hlen : (ws.length + 1) * 32 ≤ 140737488355328) (hB : B ≤ w.heap.size)
  (h : ∀ v' w', OwnPg B w' v' (ws ++ [f]) → w.grownBy w' v.ownBlock → Below B w w' → (∀ e, e ≠ 60 → KeepT e w w') → wpList Try.prog ops Q rest (a.put o.dst v') w') : wpList Try.prog ops Q (o :: rest) a w := by
 obtain ⟨i0, hi, hz0, hz1, hz2⟩ := info_parts infoPg
 obtain ⟨svs, h1, h2, h3⟩ := hown
 have n2 : ∀ j u, [Value.int .i64 f.1, sv][j]? = some u → w.cell? ((⟨g, 0, none⟩ : Addr).add j) = some u := by
  intro j u hj
  match j, hj with
  | 0, hj => simp at hj; subst hj; simpa [Addr.add] using hc1
  | 1, hj => simp at hj; subst hj; simpa [Addr.add] using hc2
  | j + 2, hj => simp at hj
 refine wpList_append_own _ hgd s x 24 ho B 60 i0 (.agg #[.int .i64 0, .slice none 0 0]) 2 32 Try.underlying24 hi hz0 hz1 hz2 rfl (by decide) v ws.length (wcells ws svs) hs h2 ⟨g, 0, none⟩ 1 1 [.int .i64 f.1, sv] hx rfl n2
  (fun u hu => by simp at hu; rcases hu with rfl | rfl; rfl; exact hone) (by rw [show maxLen = 9223372036854775807 from rfl]; omega) hlen hB ?_
 intro v' w' q1 q2 _
 exact h v' w' (OwnX.snoc (by decide) h1 h2 h3 hsv q2 (by simpa using q1)) q2 ((Below.refl _ _).grown q2 hB (fun k hk => (World.ownsRow.lt h2 k hk).1)) (fun e he => KeepT.grown h2 q2 he)
set_option maxRecDepth 100000 in
theorem bclone10 (w : World) (v : Value) (xs : List UInt8) (h : Rd w v xs) (hm : xs.length ≤ 140737488351232) :
  Calls Try.prog 44 #[v] w fun e w' => ∃ v', e = .returned v' ∧ OwnB w.heap.size w' v' xs ∧ Below w.heap.size w w' := by
 have h' := h
 obtain ⟨ao, cap, rfl, h1, h2, h3, h4⟩ := h
 cases ao with
 | none =>
  have : xs = [] := by
   rcases h4 with h4 | ⟨b, off, e, _⟩
   ·exact h4
   ·cases e
  subst this
  obtain rfl : cap = 0 := h3 rfl
  clear h' h1 h2 h3 h4
  have hnil : (binOp .eql 58 (.slice none 0 0) (.slice none 0 0)).run Try.prog w = .ok (.bool true) w := Lib.run_eql_slice_nil w 58 5 _ 0 0 0 0 Try.underlying58
  go_enter Try.func44, Try.ntmps44
  go_wp2
  go_ret
  exact ⟨_, rfl, World.ownsRow_nil _ _ _ _, Below.refl _ _⟩
 | some ad =>
  rcases h4 with h4 | ⟨b, off, e, _⟩
  ·subst h4
   obtain ⟨X, hX⟩ : ∃ u, u = w.alloc (.cells #[] 5) := ⟨_, rfl⟩
   have oX : OwnB w.heap.size X (.slice (some ⟨w.heap.size, 0, none⟩) 0 0) [] := by rw [hX]; exact own_lit w [] (by decide)
   have bX : Below w.heap.size w X := by rw [hX]; exact (Below.refl _ _).alloc (Nat.le_refl _) _
   have rX := h'.to bX
   have hl : ([] : List UInt8).length + ([] : List UInt8).length ≤ 140737488355328 := by simp
   have hsz := bX.size
   have hnil : (binOp .eql 58 (.slice (some ad) 0 cap) (.slice none 0 0)).run Try.prog w = .ok (.bool false) w := Lib.run_eql_slice_nil w 58 5 _ 0 cap 0 0 Try.underlying58
   clear h' h1 h2 h3
   go_enter Try.func44, Try.ntmps44
   go_wp2_with (at_builtin; rw [← hX]; refine wpList_append_octs rfl _ _ rfl w.heap.size _ _ _ _ rfl rfl oX rX hl hsz ?_; intro v6 w6 o6 b6 _)
   go_ret
   exact ⟨_, rfl, by simpa using o6, bX.trans b6⟩
  ·simp only [Option.some.injEq] at e
   subst e
   exact bclone_at w b off _ cap xs h' hm
theorem heap_set3t {u : World} {g : Nat} {a b c : Value} {t : TypeId} {fr : Nat × Nat} (h : u.heap[g]? = some (.cells #[a, b, c] t fr)) (x y z : Value) : (((u.setCell ⟨g, 0, none⟩ x).setCell ⟨g, 1, none⟩ y).setCell ⟨g, 2, none⟩ z).heap[g]? = some (.cells #[x, y, z] t fr) := by
 have := heap_setN (heap_setN (heap_setN h 0 x) 1 y) 2 z
 simpa using this
theorem below_set3t {B : Nat} {w u : World} (h : Below B w u) {g : Nat} (hg : B ≤ g) (x y z : Value) : Below B w (((u.setCell ⟨g, 0, none⟩ x).setCell ⟨g, 1, none⟩ y).setCell ⟨g, 2, none⟩ z) := ((h.setCell hg _).setCell hg _).setCell hg _
theorem s3_keep9 {g : Nat} {u : World} {a b c : Value} {T : TypeId} (h : u.heap[g]? = some (.cells #[a, b, c] T (0, 0))) (x y z : Value) {e : Nat} (he : e ≠ T) : KeepT e u (((u.setCell ⟨g, 0, none⟩ x).setCell ⟨g, 1, none⟩ y).setCell ⟨g, 2, none⟩ z) :=
 ((KeepT.set (a := ⟨g, 0, none⟩) h he x).trans (KeepT.set (a := ⟨g, 1, none⟩) (heap_setN h 0 x) he y)).trans (KeepT.set (a := ⟨g, 2, none⟩) (heap_setN (heap_setN h 0 x) 1 y) he z)
theorem wpList_make_run9 {P : Program} (w : World) {ops : Array Oper} {rest : List Oper} {o : Oper} {a : Act} {Q : Exit → Act → World → Prop} (hg : o.guard = none) (l c : Operand) (t : TypeId) (hop : o.op = Op.makeSlice t l c)
  (kl kc : IntKind) (C : Int) (n : Nat) (hl : a.eval l = .int kl 0) (hc : a.eval c = .int kc C) (hC : C = (n : Int)) (v : Value) (w' : World) (hr : (Instr.makeSlice t (.int kl 0) (.int kc (n : Int))).run P w = .ok v w') (h : wpList P ops Q rest (a.put o.dst v) w') : wpList P ops Q (o :: rest) a w := by
 refine wpList_plain hg fun K hK' => ?_
 subst hC
 unfold Oper.wp
 simp [execOp, hop, hl, hc, hr, Result.andThen]
 exact hK' _ _ h
theorem info_tr : (Try.prog.info? 26).map (·.size) = some 3 := by kernel_rfl
theorem take_snoc9 {l : List Wrt} {k : Nat} {y : Wrt} (h : l[k]? = some y) : l.take (k + 1) = l.take k ++ [y] := by rw [List.take_add_one, h]; rfl
theorem cellAl9 {w : World} {b i : Nat} {v : Value} (h : w.cell? ⟨b, i, none⟩ = some v) (o : Obj) : (w.alloc o).cell? ⟨b, i, none⟩ = some v :=
 (((Below.refl w.heap.size w).alloc (Nat.le_refl _) o).cell (p := ⟨b, i, none⟩) (cell_lt h)).trans h
set_option maxRecDepth 100000 in
set_option maxHeartbeats 4000000 in
theorem pcopied_any (w : World) (t : Tr) (pv : Value) (h : RdC w pv t.pages) (hl : t.pages.length ≤ 65536) (hx : ∀ x ∈ t.pages, x.2.length ≤ 140737488351232) :
  Calls Try.prog 39 #[tv t pv] w fun e w' => ∃ pv', e = .returned (tv t pv') ∧ OwnPg w.heap.size w' pv' t.pages ∧ Below w.heap.size w w' := by
 obtain ⟨j0, ji, jz0, jz1, jz2⟩ := info_parts infoPg
 obtain ⟨root, next, ps⟩ := t
 obtain ⟨a, c, rfl⟩ := h.slice
 dsimp only [tv] at *
 obtain ⟨W, hW, DW, bW, sW⟩ := boxedN w #[.int .i64 root, .int .i64 next, .slice a ps.length c] 26
 obtain ⟨X, hX, DX, bX, sX⟩ := boxedN W #[.int .i64 0, .int .i64 0, .slice none 0 0] 26
 obtain ⟨w1, hmk, own1, gr1⟩ := run_make_own (P := Try.prog) X X.heap.size 24 60 j0 _ 2 Try.underlying24 ji jz0 jz1 .i64 .i64 ps.length (by rw [jz2]; omega) (by unfold maxLen; omega) (Nat.le_refl _)
 have b1 : Below X.heap.size X w1 := (Below.refl _ _).grown gr1 (Nat.le_refl _) (fun k h => by cases h)
 have bWX := bW.trans (bX.mono bW.size)
 have D1 := (b1.block _ (by rw [sX, sW]; omega)).trans ((bX.block _ (lt_of_block DW)).trans DW)
 have X1 := (b1.block _ (lt_of_block DX)).trans DX
 have O1 : OwnPg X.heap.size w1 (.slice (some ⟨X.heap.size, 0, none⟩) 0 ps.length) [] := ⟨[], rfl, own1, fun i hi => by simp at hi⟩
 obtain ⟨⟨E0, E1, E2⟩, EF⟩ := cells3p ((bX.block _ (lt_of_block DW)).trans DW)
 obtain ⟨⟨F0, F1, F2⟩, FF⟩ := cells3p D1
 have HH := hide h
 have HX := hide bWX
 have hBX := hide ((bX.block _ (lt_of_block DW)).trans DW)
 have hRX := hide DX
 have hsl : (Value.slice (some ⟨X.heap.size, 0, none⟩) 0 ps.length) = .slice (some ⟨w.heap.size + 1 + 1, 0, none⟩) 0 ps.length := by rw [sX, sW]
 have HI : Hid (OwnPg X.heap.size w1 (.slice (some ⟨w.heap.size + 1 + 1, 0, none⟩) 0 ps.length) [] ∧ Below X.heap.size X w1) := by rw [← hsl]; exact ⟨O1, b1⟩
 have hsz : Hid (X.heap.size = w.heap.size + 1 + 1) := by show _ = _; rw [sX, sW]
 obtain ⟨L, hL⟩ : ∃ L, L = ps.length := ⟨_, rfl⟩
 rw [sW] at hRX
 rw [hX, hW] at hmk E0 E1 E2 EF
 clear h bW bX DW DX D1 X1 O1 own1 gr1 b1 bWX
 go_enter Try.func39, Try.ntmps39
 go_wp2_with (at_make; refine wpList_make_run9 _ rfl _ _ 24 rfl _ _ _ ps.length rfl rfl rfl _ _ hmk ?_)
 clear hmk E0 E1 E2 EF F0 F1 F2 FF
 replace hX := hide hX
 replace hW := hide hW
 go_loopw [3, 13] (fun o p wr => ∃ k : Nat, k ≤ ps.length ∧ p = .int .i64 k ∧ Hid (OwnPg X.heap.size wr o (ps.take k) ∧ Below X.heap.size X wr)) (fun _ p _ => ps.length - (intOf p).toNat)
 case atStart => exact ⟨0, Nat.zero_le _, rfl, HI⟩
 case round =>
  obtain ⟨k, hk, rfl, hI⟩ := hrel
  clear HI
  have BW := hide (HX.out.trans (hI.out.2.mono HX.out.size))
  by_cases hlt : k < ps.length
  ·have hq : (k : Int) < (ps.length : Int) := by omega
   obtain ⟨y, hy⟩ : ∃ y, ps[k]? = some y := ⟨_, List.getElem?_eq_getElem hlt⟩
   have hxl := hx y (List.mem_of_getElem? hy)
   have hsn := hide (take_snoc9 hy)
   obtain ⟨b, off, u, e1, hc1, hc2, hr⟩ := HH.out.wrt hy
   subst e1
   obtain ⟨z, x⟩ := y
   dsimp only at hc1 hc2 hr hxl
   obtain ⟨au, cu, rfl⟩ := hr.slice
   replace hc1 := (BW.out.cell (cell_lt hc1)).trans hc1
   replace hc2 := (BW.out.cell (cell_lt hc2)).trans hc2
   obtain ⟨V, hV, DV, bV, sV⟩ := boxedN wr #[.int .i64 z, .slice au x.length cu] 60
   have VD := DV
   obtain ⟨⟨V0, V1⟩, _⟩ := cells2r DV
   have bVd : Below V.heap.size V V.drew := below_drewN' V 1 _
   have bwV := bV.trans (bVd.mono bV.size)
   have V0d := (bVd.cell (cell_lt V0)).trans V0
   have V1d := (bVd.cell (cell_lt V1)).trans V1
   have KC := hide (bclone10 V.drew _ x (hr.to (BW.out.trans (bwV.mono BW.out.size))) hxl)
   have II := hide (And.intro (hI.out.1.to9 bwV) (hI.out.2.trans (bwV.mono hI.out.2.size)))
   obtain ⟨oa, oc, ho⟩ := hI.out.1.shape
   rw [List.length_take, Nat.min_eq_left hk] at ho
   subst ho
   have hn : (k + 1) * 32 ≤ 140737488355328 := by omega
   have hlk : Hid ((ps.take k).length = k) := by show _ = _; rw [List.length_take, Nat.min_eq_left hk]
   obtain ⟨XL, hXL⟩ : ∃ XL, XL = x.length := ⟨_, rfl⟩
   rw [← hXL] at KC hV V1 V1d hc2
   replace hXL := hide hXL
   rw [hV] at V0 V1
   clear hr bwV bVd bV DV VD hI hy
   go_upto_region 5 with fail
   rw [← hV]
   replace hV := hide hV
   clear V0 V1 hc1 hc2
   refine wp_region_mid (fun w' => w'.cell? ⟨wr.heap.size, 0, none⟩ = some (.int .i64 z) ∧ w'.cell? ⟨wr.heap.size, 1, none⟩ = some (.slice au XL cu)) 5 8 mixed (by kernel_rfl) (fun _ _ _ _ h => h) ⟨V0d, V1d⟩ ?_
   dsimp only [List.take, List.drop]
   iterate 5
    refine take_one (v := ?_) (by rfl) ?_ ?_
    rotate_left
    ·rintro w' ⟨s1, s2⟩
     go_simp
     try with_reducible rfl
    try simp only [Act.put, List.setIfInBounds_toArray, List.set_cons_zero, List.set_cons_succ]
   refine mid_one fun K hK => ?_
   refine step_call (by rfl) 44 _ _ (by rfl) #[.slice au XL cu] (by simp [Act.eval]) (Try.call44 _ _) KC.out ?_
   rintro e w2 ⟨v2, rfl, o2, b2⟩
   obtain ⟨va, vc, hv2⟩ := o2.rd.slice
   rw [← hXL.out] at hv2
   subst hv2
   have U0 := (b2.cell (cell_lt V0d)).trans V0d
   have U1 := (b2.cell (cell_lt V1d)).trans V1d
   refine ⟨_, rfl, hK _ _ ⟨U0, U1⟩ ?_⟩
   clear hK K
   have I2 := hide (And.intro (II.out.1.to9 b2) (II.out.2.trans (b2.mono II.out.2.size)))
   have O2 : Hid (OwnB X.heap.size w2 (.slice va XL vc) x) := rows_mono o2 II.out.2.size
   clear b2 o2 KC V0d V1d II
   try simp only [Act.put, List.setIfInBounds_toArray, List.set_cons_zero, List.set_cons_succ]
   refine mid_one fun K hK => ?_
   rw [if_pos (by rfl)]
   go_simp
   refine hK _ _ ⟨U0, U1⟩ ?_
   clear hK K
   refine mid_one fun K hK => ?_
   rw [if_pos (by rfl)]
   go_simp
   refine hK _ _ ⟨cellAl9 U0 _, cellAl9 U1 _⟩ ?_
   clear hK K
   show wpList _ _ _ _ _ _
   obtain ⟨Z, hZ, DZ, bZ, sZ⟩ := boxedN w2 #[.int .i64 z, .slice va XL vc] 60
   obtain ⟨⟨Z0, Z1⟩, _⟩ := cells2r DZ
   have OZ : OwnPg X.heap.size Z (.slice oa k oc) (ps.take k) := I2.out.1.to9 bZ
   have SZ : OwnB X.heap.size Z (.slice va XL vc) x := rows_to O2.out bZ
   have BZ := hide (I2.out.2.trans (bZ.mono I2.out.2.size))
   have hB : X.heap.size ≤ Z.heap.size := BZ.out.size
   rw [hZ] at Z0 Z1 OZ SZ hB
   refine wpList_appPg rfl _ _ rfl X.heap.size (.slice oa k oc) (ps.take k) (z, x) (.slice va XL vc) w2.heap.size rfl rfl OZ SZ rfl Z0 Z1 (by rw [hlk.out]; exact hn) hB ?_
   intro v5 w5 o5 g5 b5 _
   rw [← hZ] at b5
   rw [← hsn.out] at o5
   have I5 := hide (And.intro o5 (BZ.out.trans b5))
   clear o5 g5 b5 Z0 Z1 OZ SZ hB DZ bZ hZ I2 O2 U0 U1
   go_wp2
   go_roundw
   case rel => exact ⟨k + 1, by omega, by go_num, I5⟩
   case measure => simp [intOf]; omega
  ·have hq : ¬ (k : Int) < (ps.length : Int) := by omega
   have htk : ps.take k = ps := List.take_of_length_le (by omega)
   rw [htk] at hI
   have D6 := (hI.out.2.block _ (lt_of_block hBX.out)).trans hBX.out
   have R6 := (hI.out.2.block _ (lt_of_block hRX.out)).trans hRX.out
   obtain ⟨⟨E0, E1, E2⟩, EF⟩ := cells3p D6
   obtain ⟨⟨F0, F1, F2⟩, FF⟩ := cells3p R6
   obtain ⟨oa, oc, ho⟩ := hI.out.1.shape
   subst ho
   have d0 := heap_setN D6 2 (.slice oa ps.length oc)
   have D7 : (wr.setCell ⟨w.heap.size, 2, none⟩ (.slice oa ps.length oc)).heap[w.heap.size]? = some (.cells #[.int .i64 root, .int .i64 next, .slice oa ps.length oc] 26 (0, 0)) := by simpa using d0
   have R7 : (wr.setCell ⟨w.heap.size, 2, none⟩ (.slice oa ps.length oc)).heap[w.heap.size + 1]? = _ := (Below.heap_setCell _ _ _ _ (show w.heap.size + 1 ≠ w.heap.size by omega)).trans R6
   obtain ⟨⟨G0, G1, G2⟩, GF⟩ := cells3p D7
   obtain ⟨⟨J0, J1, J2⟩, JF⟩ := cells3p R7
   have HR7 := hide R7
   have k1 : ∀ e, e ≠ 26 → KeepT e wr (((((wr.setCell ⟨w.heap.size, 2, none⟩ (.slice oa ps.length oc)).setCell ⟨w.heap.size + 1, 0, none⟩ (.int .i64 root)).setCell ⟨w.heap.size + 1, 1, none⟩ (.int .i64 next)).setCell ⟨w.heap.size + 1, 2, none⟩ (.slice oa ps.length oc))) := fun e he =>
    (KeepT.set (a := ⟨w.heap.size, 2, none⟩) D6 he _).trans (s3_keep9 R7 _ _ _ he)
   have OO := hide (hI.out.1.keepT (k1 _ (by decide)) (k1 _ (by decide)))
   have bb0 : Below w.heap.size w (wr.setCell ⟨w.heap.size, 2, none⟩ (.slice oa ps.length oc)) := BW.out.setCell (Nat.le_refl _) _
   have BB := hide (below_set3t bb0 (show w.heap.size ≤ w.heap.size + 1 by omega) (.int .i64 root) (.int .i64 next) (.slice oa ps.length oc))
   have hXw : Hid (w.heap.size ≤ X.heap.size) := HX.out.size
   clear D6 R6 D7 R7 d0 k1 hI bb0
   go_wp2
   refine retN rfl rfl (w.heap.size + 1) rfl _ _ (0, 0) (heap_set3t HR7.out _ _ _) _ Try.underlying26 rfl info_tr ?_
   refine ⟨_, rfl, ?_, BB.out⟩
   exact OwnX.base OO.out hXw.out
set_option maxRecDepth 100000 in
theorem pnew10_any (w : World) : Calls Try.prog 7 #[] w fun e w' => e = .returned (tv ⟨0, 1, []⟩ (.slice none 0 0)) ∧ Below w.heap.size w w' := by
 go_enter Try.func7, Try.ntmps7
 go_wp2
 refine retN rfl rfl w.heap.size rfl _ _ _ (heap_alloc_last w _) _ Try.underlying26 rfl info_tr ?_
 exact ⟨rfl, (Below.refl _ _).alloc (Nat.le_refl _) _⟩
end Go.Proofs.Ytmmjdacjcipgjaa

namespace Go.Proofs.Ytmmjdacjcipgjaa
open Go.RowKit
abbrev NV := Nd × Value × Value × Value
def ncl (ns : List NV) : List Value := ns.flatMap fun n => [.bool n.1.leaf, n.2.1, n.2.2.1, n.2.2.2]
theorem ncl_app (a b : List NV) : ncl (a ++ b) = ncl a ++ ncl b := by unfold ncl; rw [List.flatMap_append]
theorem ncl_at : ∀ (l : List NV) (i : Nat) (y : NV), l[i]? = some y → (ncl l)[i * 4]? = some (.bool y.1.leaf) ∧ (ncl l)[i * 4 + 1]? = some y.2.1 ∧ (ncl l)[i * 4 + 2]? = some y.2.2.1 ∧ (ncl l)[i * 4 + 3]? = some y.2.2.2
 | [], i, y, h => by simp at h
 | x :: r, 0, y, h => by
  have : x = y := by simpa using h
  subst this
  exact ⟨rfl, rfl, rfl, rfl⟩
 | x :: r, i + 1, y, h => by
  have := ncl_at r i y (by simpa using h)
  rw [show (i + 1) * 4 = i * 4 + 4 from by omega, show i * 4 + 4 + 1 = i * 4 + 1 + 4 from by omega, show i * 4 + 4 + 2 = i * 4 + 2 + 4 from by omega, show i * 4 + 4 + 3 = i * 4 + 3 + 4 from by omega]
  exact this
abbrev OwnNs (B : Nat) (w : World) (v : Value) (ns : List NV) : Prop := w.ownsRow B 79 4 v ns.length (ncl ns)
theorem infoNd4 : (Try.prog.info? 79).map (fun i => (i.zero, i.size, i.bytes)) = some (some (.agg #[.bool false, .slice none 0 0, .slice none 0 0, .slice none 0 0]), 4, 80) := by kernel_rfl
theorem step_appN {ops : Array Oper} {o : Oper} {a : Act} {w : World} {K : Act → World → Prop} {Q : Exit → Act → World → Prop} {E : Prop} (hgd : o.guard = none) (s x : Operand)
  (ho : o.op = .call { callee := .builtin .append, args := #[s, x], argTypes := #[115, 115] }) (B : Nat) (v : Value) (ns : List NV) (y : NV) (g : Nat) (hs : a.eval s = v) (hx : a.eval x = .slice (some ⟨g, 0, none⟩) 1 1)
  (hown : OwnNs B w v ns) (ho1 : y.2.1.oneCell' = true ∧ y.2.2.1.oneCell' = true ∧ y.2.2.2.oneCell' = true) (hbx : w.heap[g]? = some (.cells #[.bool y.1.leaf, y.2.1, y.2.2.1, y.2.2.2] 79 (0, 0))) (hlen : (ns.length + 1) * 80 ≤ 140737488355328) (hB : B ≤ w.heap.size)
  (h : ∀ g' cap w', OwnNs B w' (.slice (some ⟨g', 0, none⟩) (ns.length + 1) cap) (ns ++ [y]) → w.grownBy w' v.ownBlock → (v.ownBlock = some g' ∨ g' = w.heap.size) → K (a.put o.dst (.slice (some ⟨g', 0, none⟩) (ns.length + 1) cap)) w') : if Region.wanted o (yielded ops a.tmps) = true then Oper.wp Try.prog o a w K Q else E := by
 obtain ⟨i0, hi, hz0, hz1, hz2⟩ := info_parts infoNd4
 have n2 : ∀ j u, (ncl [y])[j]? = some u → w.cell? ((⟨g, 0, none⟩ : Addr).add j) = some u := by
  intro j u hj
  have e : (⟨g, 0, none⟩ : Addr).add j = ⟨g, j, none⟩ := by
   by_cases h0 : j = 0
   ·subst h0; rfl
   ·simp [Addr.add, h0]
  rw [e]
  exact cellN hbx (by simpa [ncl] using hj)
 refine step_append_lies _ hgd s x 115 ho B 79 i0 (.agg #[.bool false, .slice none 0 0, .slice none 0 0, .slice none 0 0]) 4 80 Try.underlying115 hi hz0 hz1 hz2 rfl (by decide) v ns.length (ncl ns) hs hown ⟨g, 0, none⟩ 1 1 (ncl [y]) hx rfl n2
  (fun u hu => by simp [ncl] at hu; rcases hu with rfl | rfl | rfl | rfl; rfl; exact ho1.1; exact ho1.2.1; exact ho1.2.2) (by decide) (by rw [show maxLen = 9223372036854775807 from rfl]; omega) hlen hB _ rfl ?_
 intro g' cap w' h1 h2 h3 _
 refine h g' cap w' ?_ h2 h3
 show World.ownsRow _ _ _ _ _ _ _
 rw [ncl_app]
 simpa using h1
structure ChI (B : Nat) (w : World) (gc g : Nat) (next : Int) (av : Value) (ns : List NV) : Prop where
 box : w.heap[gc]? = some (.cells #[.pointer (some ⟨g, 0, none⟩), av] 117 (0, 0))
 row : OwnNs B w av ns
 nxt : w.cell? ⟨g, 1, none⟩ = some (.int .i64 next)
 hC : B ≤ gc
theorem ChI.to {B : Nat} {w w' : World} {gc g : Nat} {next : Int} {av : Value} {ns : List NV} (h : ChI B w gc g next av ns) (b : Below w.heap.size w w') : ChI B w' gc g next av ns :=
 ⟨(b.block _ (lt_of_block h.box)).trans h.box, rows_to h.row b, (b.cell (cell_lt h.nxt)).trans h.nxt, h.hC⟩
structure KCh (B gc : Nat) (av av' : Value) (w w' : World) : Prop where
 keep : ∀ b, b < w.heap.size → b ≠ gc → av.ownBlock ≠ some b → w'.heap[b]? = w.heap[b]?
 row : ∀ b, av'.ownBlock = some b → av.ownBlock = some b ∨ w.heap.size ≤ b
 size : w.heap.size ≤ w'.heap.size
 bel : Below B w w'
theorem KCh.of {B gc : Nat} {av : Value} {w w' : World} (b : Below w.heap.size w w') (hB : B ≤ w.heap.size) : KCh B gc av av w w' := ⟨fun i hi _ _ => b.block i hi, fun i h => .inl h, b.size, b.mono hB⟩
theorem KCh.trans {B gc : Nat} {a b c : Value} {u v w : World} (h : KCh B gc a b u v) (k : KCh B gc b c v w) : KCh B gc a c u w :=
 ⟨fun i h1 h2 h3 => (k.keep i (Nat.lt_of_lt_of_le h1 h.size) h2 (fun e => by
   rcases h.row i e with q | q
   ·exact h3 q
   ·omega)).trans (h.keep i h1 h2 h3),
  fun i e => by
    rcases k.row i e with q | q
    ·exact h.row i q
    ·exact .inr (Nat.le_trans h.size q),
  Nat.le_trans h.size k.size, h.bel.trans k.bel⟩
theorem ChI.app {B : Nat} {w wA w5 : World} {gc g g' cap : Nat} {next : Int} {av : Value} {ns : List NV} {y : NV} (h : ChI B w gc g next av ns) (bA : Below w.heap.size w wA) (hB : B ≤ w.heap.size) (hg : ∀ b, av.ownBlock = some b → b ≠ g) (hgc : gc ≠ g)
  (o5 : OwnNs B w5 (.slice (some ⟨g', 0, none⟩) (ns.length + 1) cap) (ns ++ [y])) (g5 : wA.grownBy w5 av.ownBlock) (l5 : av.ownBlock = some g' ∨ g' = wA.heap.size) :
  ChI B (w5.setCell ⟨gc, 1, none⟩ (.slice (some ⟨g', 0, none⟩) (ns.length + 1) cap)) gc g next (.slice (some ⟨g', 0, none⟩) (ns.length + 1) cap) (ns ++ [y]) ∧ KCh B gc av (.slice (some ⟨g', 0, none⟩) (ns.length + 1) cap) w (w5.setCell ⟨gc, 1, none⟩ (.slice (some ⟨g', 0, none⟩) (ns.length + 1) cap)) ∧
   w5.cell? ⟨gc, 0, none⟩ = some (.pointer (some ⟨g, 0, none⟩)) ∧ w5.cell? ⟨gc, 1, none⟩ = some av ∧ ∀ i, w5.frozen? ⟨gc, i, none⟩ = false := by
 have hA := h.to bA
 have hbx := KeepT.grown hA.row g5 (e := 117) (by decide) _ _ _ hA.box
 have hkeep : ∀ b, b < w.heap.size → av.ownBlock ≠ some b → w5.heap[b]? = w.heap[b]? := fun b h1 h2 => (g5.block b (Nat.lt_of_lt_of_le h1 bA.size) (fun e => h2 e.symm)).trans (bA.block b h1)
 have hgl : g < w.heap.size := cell_lt h.nxt
 refine ⟨⟨?_, rows_keepT o5 (KeepT.set (a := ⟨gc, 1, none⟩) hbx (by decide) _), ?_, h.hC⟩, ⟨fun b h1 h2 h3 => (Below.heap_setCell _ _ _ _ h2).trans (hkeep b h1 h3), fun b hb => ?_, ?_, ?_⟩, cellN hbx rfl, cellN hbx rfl, frozN hbx⟩
 ·have := heap_setN hbx 1 (.slice (some ⟨g', 0, none⟩) (ns.length + 1) cap)
  simpa using this
 ·have e1 : (w5.setCell ⟨gc, 1, none⟩ (.slice (some ⟨g', 0, none⟩) (ns.length + 1) cap)).heap[g]? = w.heap[g]? := (Below.heap_setCell _ _ _ _ (Ne.symm hgc)).trans (hkeep g hgl (fun e => hg g e rfl))
  have := h.nxt
  simp only [World.cell?] at this ⊢
  rw [e1]; exact this
 ·have : g' = b := by simpa [Value.ownBlock] using hb
  subst this
  rcases l5 with l5 | l5
  ·exact .inl l5
  ·exact .inr (by rw [l5]; exact bA.size)
 ·have := g5.size
  have := bA.size
  simp
  omega
 ·exact ((bA.mono hB).trans ((Below.refl _ _).grown g5 (Nat.le_trans hB bA.size) (fun k hk => (World.ownsRow.lt hA.row k hk).1))).setCell h.hC _
set_option maxRecDepth 100000 in
set_option maxHeartbeats 4000000 in
theorem padd_any (B : Nat) (w : World) (gc g : Nat) (next : Int) (av : Value) (ns : List NV) (nd : Nd) (kv vv dv : Value) (h : ChI B w gc g next av ns) (hB : B ≤ w.heap.size) (hg : ∀ b, av.ownBlock = some b → b ≠ g) (hgc : gc ≠ g) (hns : ns.length ≤ 1000) (hnx : 0 ≤ next ∧ next ≤ 65536)
  (ho1 : kv.oneCell' = true ∧ vv.oneCell' = true ∧ dv.oneCell' = true) :
  Calls Try.prog 74 #[.pointer (some ⟨gc, 0, none⟩), nv nd kv vv dv] w fun e w' => ∃ av', e = .returned (.int .i64 (next + (ns.length : Int))) ∧ ChI B w' gc g next av' (ns ++ [(nd, kv, vv, dv)]) ∧ KCh B gc av av' w w' := by
 obtain ⟨W, hW, DW, bW, sW⟩ := boxedN w #[.bool nd.leaf, kv, vv, dv] 79
 have hCW := h.to bW
 obtain ⟨aa, ac, hav⟩ : ∃ a c, av = .slice a ns.length c := by
  rcases h.row.2 with ⟨rfl, e⟩ | ⟨g', cap, cur, rfl, _⟩
  ·exact ⟨none, 0, by rw [e]⟩
  ·exact ⟨_, _, rfl⟩
 subst hav
 obtain ⟨Z, hZ⟩ : ∃ Z, Z = (W.alloc (.cells #[.bool nd.leaf, kv, vv, dv] 79)).drew := ⟨_, rfl⟩
 obtain ⟨za, hza, DA, bA0, sA⟩ := boxedN W #[.bool nd.leaf, kv, vv, dv] 79
 have bWZ : Below W.heap.size W Z := by rw [hZ, ← hza]; exact bA0.trans (below_drewN' za 1 _)
 have bZ : Below w.heap.size w Z := bW.trans (bWZ.mono bW.size)
 have DZ : Z.heap[W.heap.size]? = some (.cells #[.bool nd.leaf, kv, vv, dv] 79 (0, 0)) := by rw [hZ, ← hza]; exact drewHeap DA
 have hOZ : OwnNs B Z (.slice aa ns.length ac) ns := rows_to h.row bZ
 have hBZ : B ≤ Z.heap.size := Nat.le_trans hB bZ.size
 have FIN : ∀ g' cap w5, OwnNs B w5 (.slice (some ⟨g', 0, none⟩) (ns.length + 1) cap) (ns ++ [(nd, kv, vv, dv)]) → Z.grownBy w5 (Value.slice aa ns.length ac).ownBlock → ((Value.slice aa ns.length ac).ownBlock = some g' ∨ g' = Z.heap.size) → _ := fun g' cap w5 o5 g5 l5 => h.app bZ hB hg hgc o5 g5 l5
 have hK5 : ∀ w5, Z.grownBy w5 (Value.slice aa ns.length ac).ownBlock → w5.heap[w.heap.size]? = some (.cells #[.bool nd.leaf, kv, vv, dv] 79 (0, 0)) := fun w5 g5 => by
  refine (g5.block w.heap.size (by have := bWZ.size; omega) fun e => ?_).trans ((bWZ.block _ (by omega)).trans DW)
  have := (World.ownsRow.lt h.row w.heap.size e.symm).2
  omega
 have bWd : Below W.heap.size W W.drew := below_drewN' W 1 _
 have C1 : W.drew.cell? ⟨gc, 1, none⟩ = some (.slice aa ns.length ac) := cellN (drewHeap hCW.box) rfl
 have C0 : W.drew.cell? ⟨gc, 0, none⟩ = some (.pointer (some ⟨g, 0, none⟩)) := cellN (drewHeap hCW.box) rfl
 obtain ⟨⟨E0, E1, E2, E3⟩, _⟩ := cells4 (drewHeap DW)
 obtain ⟨m, hm⟩ : ∃ m : Nat, m = ns.length := ⟨_, rfl⟩
 obtain ⟨z1, hz1⟩ : ∃ z : Int, next + ((m + 1 : Nat) : Int) = z := ⟨_, rfl⟩
 have hzw : IntKind.i64.wrap z1 = z1 := IntWalk.i64_in _ (by omega)
 obtain ⟨z2, hz2⟩ : ∃ z : Int, z1 - 1 = z := ⟨_, rfl⟩
 have hzw2 : IntKind.i64.wrap z2 = z2 := IntWalk.i64_in _ (by omega)
 have hres : Hid (z2 = next + (ns.length : Int)) := by show _ = _; omega
 rw [sW] at DZ
 rw [hZ] at DZ hOZ hBZ FIN hK5
 replace DZ := hide DZ
 replace hOZ := hide hOZ
 replace hBZ := hide hBZ
 replace FIN := hide FIN
 replace hK5 := hide hK5
 have hns' : Hid ((ns.length + 1) * 80 ≤ 140737488355328) := by show _ ≤ _; omega
 have hBw := hide hB
 clear hZ hza DA bA0 sA bWZ bZ DW bW bWd hCW h hg hgc hB
 dsimp only [nv]
 go_enter Try.func74, Try.ntmps74
 go_upto_region 1 with fail
 rw [← hW]
 replace hW := hide hW
 refine wp_region_mid (fun w' => w'.cell? ⟨gc, 1, none⟩ = some (.slice aa ns.length ac) ∧ w'.cell? ⟨w.heap.size, 0, none⟩ = some (.bool nd.leaf) ∧ w'.cell? ⟨w.heap.size, 1, none⟩ = some kv ∧ w'.cell? ⟨w.heap.size, 2, none⟩ = some vv ∧ w'.cell? ⟨w.heap.size, 3, none⟩ = some dv) 6 8 mixed (by kernel_rfl) (fun _ _ _ _ h => h) ⟨C1, E0, E1, E2, E3⟩ ?_
 dsimp only [List.take, List.drop]
 iterate 6
  refine take_one (v := ?_) (by rfl) ?_ ?_
  rotate_left
  ·rintro w' ⟨s1, s2, s3, s4, s5⟩
   go_simp
   try with_reducible rfl
  try simp only [Act.put, List.setIfInBounds_toArray, List.set_cons_zero, List.set_cons_succ]
 refine mid_one fun K hK => ?_
 rw [if_pos (by rfl)]
 go_simp
 refine hK _ _ ⟨cellAl C1 _, cellAl E0 _, cellAl E1 _, cellAl E2 _, cellAl E3 _⟩ ?_
 clear hK K
 refine mid_one fun K hK => ?_
 refine step_appN rfl _ _ rfl B (.slice aa ns.length ac) ns (nd, kv, vv, dv) (w.heap.size + 1) rfl rfl hOZ.out ho1 DZ.out hns'.out hBZ.out ?_
 intro g' cap w5 o5 g5 l5
 obtain ⟨f1, f2, f3, f4, f5⟩ := FIN.out g' cap w5 o5 g5 l5
 obtain ⟨⟨H0, H1, H2, H3⟩, _⟩ := cells4 (hK5.out w5 g5)
 refine hK _ _ ⟨f4, H0, H1, H2, H3⟩ ?_
 have Q0 := cellN f1.box (i := 0) rfl
 have Q1 := cellN f1.box (i := 1) rfl
 have Q2 := f1.nxt
 have FF := hide (And.intro f1 f2)
 rw [← hm] at Q0 Q1 Q2 ⊢
 clear hK K f1 f2 o5 g5 l5 FIN hK5 DZ hOZ hBZ H0 H1 H2 H3 C0 C1 E0 E1 E2 E3
 rw [← hm] at f4
 show wpList _ _ _ _ _ _
 obtain ⟨Y, hY⟩ : ∃ Y, Y = w5.setCell ⟨gc, 1, none⟩ (.slice (some ⟨g', 0, none⟩) (m + 1) cap) := ⟨_, rfl⟩
 rw [← hm] at FF
 rw [← hY] at Q0 Q1 Q2 FF
 replace hm := hide hm
 go_upto_region 2 with fail
 rw [← hY]
 clear hY f3 f4 f5
 go_region
 go_wp2
 go_ret
 have bY : Below Y.heap.size Y Y.drew := below_drewN' Y 1 _
 exact ⟨_, ret_i9 (by have := hm.out; unfold wrap64; omega), FF.out.1.to bY, by rw [← hm.out]; exact FF.out.2.trans (KCh.of bY (Nat.le_trans hBw.out FF.out.2.size))⟩
set_option maxRecDepth 100000 in
theorem pbare_any (w : World) (nd : Nd) (kv vv dv : Value) (h : RdT w kv nd.keys) (hv : vv.oneCell' = true ∧ dv.oneCell' = true) : Calls Try.prog 72 #[nv nd kv vv dv] w fun e w' => e = .returned (.bool (!nd.leaf && decide (nd.keys.length = 0))) ∧ Below w.heap.size w w' := by
 obtain ⟨a, c, rfl⟩ := h.slice
 obtain ⟨W, hW, DW, bW, sW⟩ := boxedN w #[.bool nd.leaf, .slice a nd.keys.length c, vv, dv] 79
 obtain ⟨⟨E0, E1, E2, E3⟩, EF⟩ := cells4 DW
 have HB := hide bW
 rw [hW] at E0 E1 E2 E3 EF HB
 obtain ⟨K, hK⟩ : ∃ K, K = nd.keys.length := ⟨_, rfl⟩
 rw [← hK] at E0 E1 E2 E3 EF HB ⊢
 clear hK DW bW hW sW h
 dsimp only [nv]
 go_enter Try.func72, Try.ntmps72
 cases hl : nd.leaf with
 | true =>
  rw [hl] at E0 E1 E2 E3 EF HB
  go_wp2
  go_ret
  exact ⟨rfl, HB.out⟩
 | false =>
  rw [hl] at E0 E1 E2 E3 EF HB
  by_cases h0 : K = 0
  ·have hq : ((K : Int) == 0) = true := by simp [h0]
   have hd : Hid (decide (K = 0) = true) := decide_eq_true h0
   replace h0 := hide h0
   go_wp2
   go_ret
   exact ⟨by rw [hd.out]; rfl, HB.out⟩
  ·have hq : ((K : Int) == 0) = false := by simp [h0]
   have hd : Hid (decide (K = 0) = false) := decide_eq_false h0
   replace h0 := hide h0
   go_wp2
   go_ret
   exact ⟨by rw [hd.out]; rfl, HB.out⟩
end Go.Proofs.Ytmmjdacjcipgjaa

namespace Go.Proofs.Ytmmjdacjcipgjaa
open Go.RowKit
def TyB (w : World) (v : Value) (T : TypeId) : Prop := ∀ b, v.ownBlock = some b → ∃ cur fr, w.heap[b]? = some (.cells cur T fr)
theorem TyB.nil (w : World) (T : TypeId) (n c : Nat) : TyB w (.slice none n c) T := fun b hb => by cases hb
theorem TyB.keep {w w' : World} {v : Value} {T : TypeId} (h : TyB w v T) (k : KeepT T w w') : TyB w' v T := fun b hb => by
 obtain ⟨cur, fr, e⟩ := h b hb
 exact ⟨cur, fr, k b cur fr e⟩
theorem TyB.part {w : World} {a : Option Addr} {n c : Nat} {T : TypeId} (h : TyB w (.slice a n c) T) {b off off' n' c' : Nat} (ha : a = some ⟨b, off, none⟩) : TyB w (.slice (some ⟨b, off', none⟩) n' c') T := fun k hk => by
 subst ha
 exact h k hk
theorem TyB.same {w : World} {a : Option Addr} {n c : Nat} {T : TypeId} (h : TyB w (.slice a n c) T) (n' c' : Nat) : TyB w (.slice a n' c') T := fun k hk => h k (by cases a with | none => cases hk | some x => exact hk)
theorem TyB.own {B T n k : Nat} {w : World} {v : Value} {cc : List Value} (h : w.ownsRow B T n v k cc) : TyB w v T := fun b hb => by
 rcases h.2 with ⟨rfl, _⟩ | ⟨g, cap, cur, rfl, _, hg, _⟩
 ·cases hb
 ·have : g = b := by simpa [Value.ownBlock] using hb
  subst this
  exact ⟨cur, _, hg⟩
theorem rdT_block {w w' : World} {v : Value} {xs : List Str} (h : RdT w v xs) (hk : ∀ b, v.ownBlock = some b → w'.heap[b]? = w.heap[b]?) : RdT w' v xs := by
 obtain ⟨a, c, rfl, l1, m1, n1, r1⟩ := h
 refine ⟨a, c, rfl, l1, m1, n1, ?_⟩
 rcases r1 with r1 | ⟨b, off, e1, hc⟩
 ·exact .inl r1
 ·subst e1
  refine .inr ⟨b, off, rfl, fun i x hx => ?_⟩
  obtain ⟨cs, k1, k2⟩ := hc i x hx
  refine ⟨cs, k1, fun j u hj => ?_⟩
  have e := hk b rfl
  have := k2 j u hj
  simp only [World.cell?] at this ⊢
  rw [e]; exact this
theorem rdI_block {w w' : World} {v : Value} {xs : List Int} (h : RdI w v xs) (hk : ∀ b, v.ownBlock = some b → w'.heap[b]? = w.heap[b]?) : RdI w' v xs := by
 obtain ⟨a, c, rfl, l1, m1, n1, r1⟩ := h
 refine ⟨a, c, rfl, l1, m1, n1, ?_⟩
 rcases r1 with r1 | ⟨b, off, e1, hc⟩
 ·exact .inl r1
 ·subst e1
  refine .inr ⟨b, off, rfl, fun i x hx => ?_⟩
  obtain ⟨cs, k1, k2⟩ := hc i x hx
  refine ⟨cs, k1, fun j u hj => ?_⟩
  have e := hk b rfl
  have := k2 j u hj
  simp only [World.cell?] at this ⊢
  rw [e]; exact this
structure RdK (w : World) (kv vv dv : Value) (n : Nd) : Prop where
 rd : RdN w kv vv dv n
 tk : TyB w kv 9
 tv : TyB w vv 9
 td : TyB w dv 3
theorem RdK.keepT {w w' : World} {kv vv dv : Value} {n : Nd} (h : RdK w kv vv dv n) (k1 : KeepT 9 w w') (k2 : KeepT 3 w w') : RdK w' kv vv dv n :=
 ⟨⟨rdT_block h.rd.keys fun b hb => (by obtain ⟨cur, fr, e⟩ := h.tk b hb; rw [e]; exact k1 b cur fr e), rdT_block h.rd.vals fun b hb => (by obtain ⟨cur, fr, e⟩ := h.tv b hb; rw [e]; exact k1 b cur fr e), rdI_block h.rd.kids fun b hb => (by obtain ⟨cur, fr, e⟩ := h.td b hb; rw [e]; exact k2 b cur fr e)⟩, h.tk.keep k1, h.tv.keep k1, h.td.keep k2⟩
theorem RdK.to {w w' : World} {kv vv dv : Value} {n : Nd} (h : RdK w kv vv dv n) (b : Below w.heap.size w w') : RdK w' kv vv dv n := h.keepT (KeepT.below b) (KeepT.below b)
theorem OwnN.rdk {B : Nat} {w : World} {kv vv dv : Value} {n : Nd} (h : OwnN B w kv vv dv n) : RdK w kv vv dv n := ⟨h.rd, TyB.own h.keys, TyB.own h.vals, TyB.own h.kids⟩
theorem KCh.keepT {B gc g : Nat} {av av' : Value} {w w' : World} {next : Int} {ns : List NV} (h : KCh B gc av av' w w') (c : ChI B w gc g next av ns) {e : Nat} (h1 : e ≠ 117) (h2 : e ≠ 79) : KeepT e w w' := fun b cur fr hb => by
 refine (h.keep b (lt_of_block hb) (fun e9 => ?_) (fun e9 => ?_)).trans hb
 ·subst e9
  rw [c.box] at hb
  simp only [Option.some.injEq, Obj.cells.injEq] at hb
  exact h1 hb.2.1.symm
 ·obtain ⟨cur', fr', e8⟩ := TyB.own c.row b e9
  rw [e8] at hb
  simp only [Option.some.injEq, Obj.cells.injEq] at hb
  exact h2 hb.2.1.symm
def AllK (w : World) (ns : List NV) : Prop := ∀ y ∈ ns, RdK w y.2.1 y.2.2.1 y.2.2.2 y.1
theorem AllK.keepT {w w' : World} {ns : List NV} (h : AllK w ns) (k1 : KeepT 9 w w') (k2 : KeepT 3 w w') : AllK w' ns := fun y hy => (h y hy).keepT k1 k2
theorem AllK.to {w w' : World} {ns : List NV} (h : AllK w ns) (b : Below w.heap.size w w') : AllK w' ns := h.keepT (KeepT.below b) (KeepT.below b)
theorem AllK.snoc {w : World} {ns : List NV} {y : NV} (h : AllK w ns) (k : RdK w y.2.1 y.2.2.1 y.2.2.2 y.1) : AllK w (ns ++ [y]) := fun z hz => by
 simp only [List.mem_append, List.mem_singleton] at hz
 rcases hz with hz | rfl
 ·exact h z hz
 ·exact k
end Go.Proofs.Ytmmjdacjcipgjaa

namespace Go.Proofs.Ytmmjdacjcipgjaa
def NdIs (l : List Wrt) (id : Int) (nd : Nd) : Prop := ∃ x, tpage l id = some x ∧ ndec x = (nd, 0)
def nodeAt (l : List Wrt) (id : Int) : Nd := match tpage l id with | none => none9 | some x => (ndec x).1
theorem NdIs.at {l : List Wrt} {id : Int} {nd : Nd} (h : NdIs l id nd) : nodeAt l id = nd := by
 obtain ⟨x, h1, h2⟩ := h
 unfold nodeAt; rw [h1]; show (ndec x).1 = nd; rw [h2]
theorem NdIs.ok {l : List Wrt} {id : Int} {nd : Nd} (h : NdIs l id nd) : NOk nd := by
 obtain ⟨x, h1, h2⟩ := h
 exact ndec_ok h2
def idsOf (l : List Wrt) : Nat → Int → List Int
 | 0, id => [id]
 | d + 1, id => id :: (nodeAt l id).kids.flatMap (idsOf l d)
def pOf (l : List Wrt) : Nat → Int → List Pr
 | 0, id => npr (nodeAt l id)
 | d + 1, id => (nodeAt l id).kids.flatMap (pOf l d)
def TOk (l : List Wrt) : Nat → Int → Str → Option Str → Prop
 | 0, id, lo, hi => ∃ nd, NdIs l id nd ∧ nd.leaf = true ∧ nd.keys ≠ [] ∧ nd.keys.all (kin lo hi) = true
 | d + 1, id, lo, hi => ∃ nd, NdIs l id nd ∧ nd.leaf = false ∧ nd.keys.all (kin lo hi) = true ∧ ∀ (i : Nat) kid, nd.kids[i]? = some kid → TOk l d kid (kidLo nd lo i) (kidHi nd hi i)
theorem wkK_tok {l : List Wrt} {f : Nat} (ih : ∀ (id : Int) (lo : Str) (hi : Option Str) (s s' : Sw), wk l f id lo hi s = some s' → ∃ e d, f = e + 1 + d ∧ s'.dep = some e ∧ (s.dep = none ∨ s.dep = some e) ∧ TOk l d id lo hi ∧ s'.seen = (idsOf l d id).reverse ++ s.seen ∧ (idsOf l d id).Nodup ∧ (∀ i ∈ idsOf l d id, i ∉ s.seen) ∧ s'.prs = s.prs ++ pOf l d id) (n : Nd) (lo : Str) (hi : Option Str) :
  ∀ (ks : List Int) (i : Nat) (s s' : Sw), wkK (wk l f) n lo hi i ks s = some s' → (ks = [] ∧ s' = s) ∨ ∃ e d, f = e + 1 + d ∧ s'.dep = some e ∧ (s.dep = none ∨ s.dep = some e) ∧ (∀ (j : Nat) kid, ks[j]? = some kid → TOk l d kid (kidLo n lo (i + j)) (kidHi n hi (i + j))) ∧
   s'.seen = (ks.flatMap (idsOf l d)).reverse ++ s.seen ∧ (ks.flatMap (idsOf l d)).Nodup ∧ (∀ i ∈ ks.flatMap (idsOf l d), i ∉ s.seen) ∧ s'.prs = s.prs ++ ks.flatMap (pOf l d)
 | [], i, s, s', h => by
  simp only [wkK, Option.some.injEq] at h
  exact .inl ⟨rfl, h.symm⟩
 | k :: r, i, s, s', h => by
  simp only [wkK] at h
  cases h1 : wk l f k (kidLo n lo i) (kidHi n hi i) s with
  | none => rw [h1] at h; cases h
  | some s1 =>
   rw [h1] at h
   obtain ⟨e, d, a0, a1, a2, a3, a4, a5, a6, a7⟩ := ih _ _ _ _ _ h1
   refine .inr ?_
   rcases wkK_tok ih n lo hi r (i + 1) s1 s' h with ⟨rfl, rfl⟩ | ⟨e', d', b0, b1, b2, b3, b4, b5, b6, b7⟩
   ·refine ⟨e, d, a0, a1, a2, fun j kid hk => ?_, by simpa using a4, by simpa using a5, by simpa using a6, by simpa using a7⟩
    cases j with
    | zero => have : k = kid := by simpa using hk
              subst this; exact a3
    | succ j => simp at hk
   ·have ee : e' = e := by
     rcases b2 with b2 | b2
     ·rw [a1] at b2; cases b2
     ·rw [a1] at b2; simp at b2; exact b2.symm
    subst ee
    obtain rfl : d' = d := by omega
    refine ⟨e', d', a0, b1, a2, fun j kid hk => ?_, ?_, ?_, ?_, ?_⟩
    ·cases j with
     | zero => have : k = kid := by simpa using hk
               subst this; exact a3
     | succ j =>
      have := b3 j kid (by simpa using hk)
      rw [show i + (j + 1) = i + 1 + j from by omega]
      exact this
    ·rw [b4, a4]; simp
    ·rw [List.flatMap_cons, List.nodup_append]
     refine ⟨a5, b5, fun x hx y hy e => ?_⟩
     subst e
     apply b6 x hy
     rw [a4]; simp [hx]
    ·intro x hx
     rw [List.flatMap_cons, List.mem_append] at hx
     rcases hx with hx | hx
     ·exact a6 x hx
     ·have := b6 x hx
      rw [a4] at this
      exact fun h9 => this (by simp [h9])
    ·rw [b7, a7]; simp
theorem wk_tok {l : List Wrt} : ∀ (f : Nat) (id : Int) (lo : Str) (hi : Option Str) (s s' : Sw), wk l f id lo hi s = some s' → ∃ e d, f = e + 1 + d ∧ s'.dep = some e ∧ (s.dep = none ∨ s.dep = some e) ∧ TOk l d id lo hi ∧ s'.seen = (idsOf l d id).reverse ++ s.seen ∧ (idsOf l d id).Nodup ∧ (∀ i ∈ idsOf l d id, i ∉ s.seen) ∧ s'.prs = s.prs ++ pOf l d id
 | 0, id, lo, hi, s, s', h => by cases h
 | f + 1, id, lo, hi, s, s', h => by
  cases hx : tpage l id with
  | none => rw [wk_none hx] at h; cases h
  | some x =>
   by_cases hs : id ∈ s.seen
   ·rw [wk_seen hs] at h; cases h
   ·by_cases he : (ndec x).2 = 0
    ·obtain ⟨nd, hnd⟩ : ∃ nd, nd = (ndec x).1 := ⟨_, rfl⟩
     have hd : ndec x = (nd, 0) := by rw [hnd, ← he]
     have hN : NdIs l id nd := ⟨x, hx, hd⟩
     cases ha : nd.keys.all (kin lo hi) with
     | false =>
      unfold wk at h
      rw [hx] at h
      simp [hs, hd, ha] at h
     | true =>
      cases hl : nd.leaf with
      | true =>
       rw [wk_leaf hx hs hd ha hl] at h
       split at h
       ·cases h
       ·rename_i hc
        simp only [Option.some.injEq] at h
        subst h
        refine ⟨f, 0, by omega, rfl, ?_, ⟨nd, hN, hl, fun h0 => hc (.inl h0), ha⟩, by simp [idsOf], by simp [idsOf], by simpa [idsOf] using hs, by show _ = _; rw [pOf, hN.at]⟩
        cases hdp : s.dep with
        | none => exact .inl rfl
        | some e =>
         refine .inr ?_
         by_cases e9 : e = f
         ·rw [e9]
         ·exact absurd (.inr ⟨by rw [hdp]; simp, by rw [hdp]; simpa using e9⟩) hc
      | false =>
       rw [wk_inner hx hs hd ha hl] at h
       have hk := kids_len (ndec_ok hd) hl
       rcases wkK_tok (wk_tok f) nd lo hi nd.kids 0 _ s' h with ⟨h0, _⟩ | ⟨e, d, b0, b1, b2, b3, b4, b5, b6, b7⟩
       ·rw [h0] at hk; simp at hk
       ·refine ⟨e, d + 1, by omega, b1, b2, ⟨nd, hN, hl, ha, fun i kid hk => ?_⟩, ?_, ?_, ?_, ?_⟩
        ·have := b3 i kid hk
         rw [Nat.zero_add] at this
         exact this
        ·rw [b4, idsOf, hN.at]; simp
        ·rw [idsOf, hN.at, List.nodup_cons]
         exact ⟨fun h9 => b6 id h9 (by simp), b5⟩
        ·intro i hi9
         rw [idsOf, hN.at] at hi9
         rcases List.mem_cons.1 hi9 with h9 | h9
         ·rw [h9]; exact hs
         ·exact fun h8 => b6 i h9 (by simp [h8])
        ·rw [b7, pOf, hN.at]
    ·rw [wk_bad hx he] at h; cases h
theorem wkK_of {l : List Wrt} {d e : Nat} (ih : ∀ (id : Int) (lo : Str) (hi : Option Str) (s : Sw), TOk l d id lo hi → (idsOf l d id).Nodup → (∀ i ∈ idsOf l d id, i ∉ s.seen) → (s.dep = none ∨ s.dep = some e) → wk l (e + 1 + d) id lo hi s = some ⟨(idsOf l d id).reverse ++ s.seen, some e, s.prs ++ pOf l d id⟩) (n : Nd) (lo : Str) (hi : Option Str) :
  ∀ (ks : List Int) (i : Nat) (s : Sw), ks ≠ [] → (∀ (j : Nat) kid, ks[j]? = some kid → TOk l d kid (kidLo n lo (i + j)) (kidHi n hi (i + j))) → (ks.flatMap (idsOf l d)).Nodup → (∀ i ∈ ks.flatMap (idsOf l d), i ∉ s.seen) → (s.dep = none ∨ s.dep = some e) →
   wkK (wk l (e + 1 + d)) n lo hi i ks s = some ⟨(ks.flatMap (idsOf l d)).reverse ++ s.seen, some e, s.prs ++ ks.flatMap (pOf l d)⟩
 | [], i, s, h, _, _, _, _ => absurd rfl h
 | k :: r, i, s, _, h1, h2, h3, h4 => by
  rw [List.flatMap_cons] at h2 h3
  rw [List.nodup_append] at h2
  simp only [wkK]
  rw [ih k (kidLo n lo i) (kidHi n hi i) s (h1 0 k rfl) h2.1 (fun x hx => h3 x (by simp [hx])) h4]
  simp only [Option.bind_some]
  by_cases hr : r = []
  ·subst hr
   simp [wkK]
  ·rw [wkK_of ih n lo hi r (i + 1) _ hr (fun j kid hk => by have := h1 (j + 1) kid (by simpa using hk); rw [show i + 1 + j = i + (j + 1) from by omega]; exact this) h2.2.1 (fun x hx h9 => ?_) (.inr rfl)]
   ·simp
   ·rcases List.mem_append.1 h9 with h9 | h9
    ·exact h2.2.2 x (by simpa using h9) x hx rfl
    ·exact h3 x (by simp [hx]) h9
theorem wk_of {l : List Wrt} {e : Nat} : ∀ (d : Nat) (id : Int) (lo : Str) (hi : Option Str) (s : Sw), TOk l d id lo hi → (idsOf l d id).Nodup → (∀ i ∈ idsOf l d id, i ∉ s.seen) → (s.dep = none ∨ s.dep = some e) → wk l (e + 1 + d) id lo hi s = some ⟨(idsOf l d id).reverse ++ s.seen, some e, s.prs ++ pOf l d id⟩
 | 0, id, lo, hi, s, ⟨nd, hN, hl, h0, ha⟩, h2, h3, h4 => by
  obtain ⟨x, hx, hd⟩ := hN
  rw [show e + 1 + 0 = e + 1 from rfl, wk_leaf hx (h3 id (by simp [idsOf])) hd ha hl, if_neg]
  ·rw [pOf, NdIs.at ⟨x, hx, hd⟩]; rfl
  ·rintro (h | ⟨h, h9⟩)
   ·exact h0 h
   ·rcases h4 with h4 | h4
    ·exact h h4
    ·exact h9 h4
 | d + 1, id, lo, hi, s, ⟨nd, hN, hl, ha, hk⟩, h2, h3, h4 => by
  have hN' := hN
  obtain ⟨x, hx, hd⟩ := hN'
  rw [idsOf, hN.at] at h2 h3
  rw [List.nodup_cons] at h2
  rw [show e + 1 + (d + 1) = (e + 1 + d) + 1 from rfl, wk_inner hx (h3 id (by simp)) hd ha hl, wkK_of (wk_of d) nd lo hi nd.kids 0 ⟨id :: s.seen, s.dep, s.prs⟩ ?_ (fun j kid hj => by rw [Nat.zero_add]; exact hk j kid hj) h2.2 ?_ h4]
  ·rw [idsOf, pOf, hN.at]; simp
  ·intro h9
   have := kids_len hN.ok hl
   rw [h9] at this; simp at this
  ·intro i hi9 h8
   rcases List.mem_cons.1 h8 with h8 | h8
   ·rw [h8] at hi9; exact h2.1 hi9
   ·exact h3 i (by simp [hi9]) h8
def Ext (l l' : List Wrt) : Prop := ∀ id x, tpage l id = some x → tpage l' id = some x
theorem Ext.refl (l : List Wrt) : Ext l l := fun _ _ h => h
theorem Ext.trans {a b c : List Wrt} (h : Ext a b) (k : Ext b c) : Ext a c := fun i x hx => k i x (h i x hx)
theorem NdIs.ext {l l' : List Wrt} (h : Ext l l') {id : Int} {nd : Nd} (k : NdIs l id nd) : NdIs l' id nd := by
 obtain ⟨x, h1, h2⟩ := k
 exact ⟨x, h id x h1, h2⟩
theorem flatMap_same {α β : Type} {f g : α → List β} : ∀ (l : List α), (∀ x ∈ l, f x = g x) → l.flatMap f = l.flatMap g
 | [], _ => rfl
 | a :: r, h => by rw [List.flatMap_cons, List.flatMap_cons, h a (by simp), flatMap_same r fun x hx => h x (by simp [hx])]
theorem mem_at {α : Type} {l : List α} {x : α} (h : x ∈ l) : ∃ i : Nat, l[i]? = some x := by
 obtain ⟨i, hi, e⟩ := List.getElem_of_mem h
 exact ⟨i, by rw [List.getElem?_eq_getElem hi, e]⟩
theorem TOk.ext {l l' : List Wrt} (h : Ext l l') : ∀ {d : Nat} {id : Int} {lo : Str} {hi : Option Str}, TOk l d id lo hi → TOk l' d id lo hi ∧ idsOf l' d id = idsOf l d id ∧ pOf l' d id = pOf l d id
 | 0, id, lo, hi, ⟨nd, hN, h1, h2, h3⟩ => ⟨⟨nd, hN.ext h, h1, h2, h3⟩, rfl, by rw [pOf, pOf, hN.at, (hN.ext h).at]⟩
 | d + 1, id, lo, hi, ⟨nd, hN, h1, h2, h3⟩ => by
  refine ⟨⟨nd, hN.ext h, h1, h2, fun i kid hk => (TOk.ext h (h3 i kid hk)).1⟩, ?_, ?_⟩
  ·rw [idsOf, idsOf, hN.at, (hN.ext h).at]
   congr 1
   exact flatMap_same _ fun x hx => by obtain ⟨i, hi⟩ := mem_at hx; exact (TOk.ext h (h3 i x hi)).2.1
  ·rw [pOf, pOf, hN.at, (hN.ext h).at]
   exact flatMap_same _ fun x hx => by obtain ⟨i, hi⟩ := mem_at hx; exact (TOk.ext h (h3 i x hi)).2.2
def Wide (lo : Str) (hi : Option Str) (lo' : Str) (hi' : Option Str) : Prop := slt lo lo' = false ∧ (match hi', hi with | none, _ => True | some _, none => False | some b, some a => slt b a = false)
theorem Wide.kin {lo lo' : Str} {hi hi' : Option Str} (h : Wide lo hi lo' hi') {k : Str} (hk : kin lo hi k = true) : kin lo' hi' k = true := by
 simp only [Go.Proofs.Ytmmjdacjcipgjaa.kin, Bool.and_eq_true, Bool.not_eq_true'] at hk ⊢
 refine ⟨?_, ?_⟩
 ·cases hc : slt k lo' with
  | false => rfl
  | true =>
   have := slt_lt_le hc h.1
   rw [this] at hk; cases hk.1
 ·have h2 := h.2
  cases hi' with
  | none => rfl
  | some b =>
   cases hi with
   | none => exact h2.elim
   | some a => exact slt_lt_le hk.2 h2
theorem Wide.refl (lo : Str) (hi : Option Str) : Wide lo hi lo hi := ⟨slt_irr _, by cases hi <;> simp [slt_irr]⟩
theorem TOk.wide {l : List Wrt} : ∀ {d : Nat} {id : Int} {lo lo' : Str} {hi hi' : Option Str}, TOk l d id lo hi → Wide lo hi lo' hi' → TOk l d id lo' hi'
 | 0, id, lo, lo', hi, hi', ⟨nd, hN, h1, h2, h3⟩, hw => ⟨nd, hN, h1, h2, List.all_eq_true.2 fun k hk => hw.kin (List.all_eq_true.1 h3 k hk)⟩
 | d + 1, id, lo, lo', hi, hi', ⟨nd, hN, h1, h2, h3⟩, hw => by
  refine ⟨nd, hN, h1, List.all_eq_true.2 fun k hk => hw.kin (List.all_eq_true.1 h2 k hk), fun i kid hk => TOk.wide (h3 i kid hk) ?_⟩
  refine ⟨?_, ?_⟩
  ·unfold kidLo
   split
   ·exact hw.1
   ·exact slt_irr _
  ·by_cases h9 : i < nd.keys.length
   ·rw [kidHi, kidHi, if_pos h9, if_pos h9]; exact slt_irr _
   ·rw [kidHi, kidHi, if_neg h9, if_neg h9]; exact hw.2
theorem npr_len' {nd : Nd} (hok : NOk nd) (hl : nd.leaf = true) : (npr nd).length = nd.keys.length := by
 have h1 := hok.2.1
 unfold ncount at h1
 rw [if_pos hl] at h1
 rw [npr, List.length_zip, h1.1, Nat.min_self]
theorem TOk.many {l : List Wrt} : ∀ {d : Nat} {id : Int} {lo : Str} {hi : Option Str}, TOk l d id lo hi → 2 ^ d ≤ (pOf l d id).length
 | 0, id, lo, hi, ⟨nd, hN, h1, h2, h3⟩ => by
  rw [pOf, hN.at, npr_len' hN.ok h1]
  have : nd.keys.length ≠ 0 := fun h => h2 (List.eq_nil_of_length_eq_zero h)
  simp; omega
 | d + 1, id, lo, hi, ⟨nd, hN, h1, h2, h3⟩ => by
  rw [pOf, hN.at]
  have hk := kids_len hN.ok h1
  have hc := hN.ok.2.1
  unfold ncount at hc
  rw [h1, if_neg (by decide)] at hc
  cases hkk : nd.kids with
  | nil => rw [hkk] at hk; simp at hk
  | cons a r1 =>
   cases r1 with
   | nil => rw [hkk] at hk; simp only [List.length_cons, List.length_nil] at hk; omega
   | cons b r =>
    have ha := TOk.many (h3 0 a (by rw [hkk]; rfl))
    have hb := TOk.many (h3 1 b (by rw [hkk]; rfl))
    simp only [List.flatMap_cons, List.length_append, Nat.pow_succ]
    omega
theorem TOk.kin {l : List Wrt} : ∀ {d : Nat} {id : Int} {lo : Str} {hi : Option Str}, TOk l d id lo hi → ∀ y ∈ pOf l d id, kin lo hi y.1 = true
 | 0, id, lo, hi, ⟨nd, hN, h1, h2, h3⟩, y, hy => by
  rw [pOf, hN.at] at hy
  exact List.all_eq_true.1 h3 _ (List.of_mem_zip hy).1
 | d + 1, id, lo, hi, ⟨nd, hN, h1, h2, h3⟩, y, hy => by
  rw [pOf, hN.at] at hy
  obtain ⟨kid, hk, hy⟩ := List.mem_flatMap.1 hy
  obtain ⟨i, hi9⟩ := mem_at hk
  have := TOk.kin (h3 i kid hi9) y hy
  have hlt := (List.getElem?_eq_some_iff.1 hi9).1
  exact kin_kid h2 (by rw [kids_len hN.ok h1] at hlt; omega) this
theorem TOk.room {l : List Wrt} {d : Nat} {id : Int} {lo : Str} {b : Str} (h : TOk l d id lo (some b)) : slt lo b = true := by
 have hm := h.many
 have : 0 < (pOf l d id).length := Nat.lt_of_lt_of_le (Nat.two_pow_pos d) hm
 obtain ⟨y, hy⟩ := List.exists_mem_of_length_pos this
 have := h.kin y hy
 simp only [Go.Proofs.Ytmmjdacjcipgjaa.kin, Bool.and_eq_true, Bool.not_eq_true'] at this
 exact slt_le_lt this.1 this.2
end Go.Proofs.Ytmmjdacjcipgjaa

namespace Go.Proofs.Ytmmjdacjcipgjaa
abbrev Br := Str × Int
def lf (ps : List Pr) : Nd := ⟨true, ps.map (·.1), ps.map (·.2), []⟩
def inr (bs : List Br) : Nd := ⟨false, bs.tail.map (·.1), [], bs.map (·.2)⟩
def brs (n : Nd) : List Br := ([], n.kids.headD 0) :: n.keys.zip n.kids.tail
theorem npr_lf (ps : List Pr) : npr (lf ps) = ps := by
 unfold npr lf
 show (ps.map (·.1)).zip (ps.map (·.2)) = ps
 induction ps with
 | nil => rfl
 | cons a r ih => simp [ih]
theorem map_fst_zip' {α β : Type} : ∀ (a : List α) (b : List β), a.length = b.length → (a.zip b).map (·.1) = a ∧ (a.zip b).map (·.2) = b
 | [], [], _ => ⟨rfl, rfl⟩
 | [], _ :: _, h => by simp at h
 | _ :: _, [], h => by simp at h
 | x :: a, y :: b, h => by
  obtain ⟨h1, h2⟩ := map_fst_zip' a b (by simpa using h)
  simp [h1, h2]
theorem lf_npr {n : Nd} (hok : NOk n) (hl : n.leaf = true) : lf (npr n) = n := by
 have h1 := hok.2.1
 unfold ncount at h1
 rw [if_pos hl] at h1
 obtain ⟨leaf, keys, vals, kids⟩ := n
 obtain ⟨a, b⟩ := map_fst_zip' keys vals (by simpa using h1.1.symm)
 have hk : kids = [] := List.eq_nil_of_length_eq_zero h1.2
 dsimp only at hl
 subst hl hk
 unfold lf npr
 simp only [Nd.mk.injEq, true_and, and_true]
 exact ⟨a, b⟩
theorem inr_brs {n : Nd} (hl : n.leaf = false) (hv : n.vals = []) (hk : n.kids.length = n.keys.length + 1) : inr (brs n) = n := by
 obtain ⟨leaf, keys, vals, kids⟩ := n
 dsimp only at hl hv hk
 subst hl hv
 cases kids with
 | nil => simp at hk
 | cons d r =>
  obtain ⟨a, b⟩ := map_fst_zip' keys r (by simpa using hk.symm)
  unfold inr brs
  simp only [List.tail_cons, List.map_cons, List.headD_cons, Nd.mk.injEq, true_and, a, b]
theorem brs_len {n : Nd} (hk : n.kids.length = n.keys.length + 1) : (brs n).length = n.kids.length := by
 unfold brs
 simp only [List.length_cons, List.length_zip, List.length_tail, hk]
 omega
theorem NOk.vals0 {n : Nd} (hok : NOk n) (hl : n.leaf = false) : n.vals = [] := by
 have h1 := hok.2.1
 unfold ncount at h1
 rw [hl, if_neg (by decide)] at h1
 exact List.eq_nil_of_length_eq_zero h1.1
theorem inr_brs' {n : Nd} (hok : NOk n) (hl : n.leaf = false) : inr (brs n) = n := inr_brs hl (hok.vals0 hl) (kids_len hok hl)
def Seg (l : List Wrt) (d : Nat) : Str → Option Str → List Br → Prop
 | _, _, [] => False
 | lo, hi, [b] => TOk l d b.2 lo hi
 | lo, hi, b :: c :: r => TOk l d b.2 lo (some c.1) ∧ Seg l d c.1 hi (c :: r)
theorem Seg.ne {l : List Wrt} {d : Nat} {lo : Str} {hi : Option Str} {bs : List Br} (h : Seg l d lo hi bs) : bs ≠ [] := by
 intro e; subst e; exact h
theorem Seg.ext {l l' : List Wrt} (h : Ext l l') {d : Nat} : ∀ {bs : List Br} {lo : Str} {hi : Option Str}, Seg l d lo hi bs → Seg l' d lo hi bs
 | [], _, _, k => k
 | [b], _, _, k => (TOk.ext h k).1
 | b :: c :: r, _, _, k => ⟨(TOk.ext h k.1).1, Seg.ext h k.2⟩
theorem Seg.each {l : List Wrt} {d : Nat} : ∀ {bs : List Br} {lo : Str} {hi : Option Str}, Seg l d lo hi bs → ∀ b ∈ bs, ∃ lo' hi', TOk l d b.2 lo' hi'
 | [], _, _, k, b, hb => by cases hb
 | [c], _, _, k, b, hb => by
  have : b = c := by simpa using hb
  subst this; exact ⟨_, _, k⟩
 | c :: e :: r, _, _, k, b, hb => by
  rcases List.mem_cons.1 hb with rfl | hb
  ·exact ⟨_, _, k.1⟩
  ·exact Seg.each k.2 b hb
theorem seg_app {l : List Wrt} {d : Nat} : ∀ {a : List Br} {lo : Str} {hi : Option Str} {c : Br} {r : List Br}, a ≠ [] → (Seg l d lo hi (a ++ c :: r) ↔ Seg l d lo (some c.1) a ∧ Seg l d c.1 hi (c :: r))
 | [], _, _, _, _, h => absurd rfl h
 | [b], lo, hi, c, r, _ => Iff.rfl
 | b :: e :: a, lo, hi, c, r, _ => by
  have ih := seg_app (l := l) (d := d) (a := e :: a) (lo := e.1) (hi := hi) (c := c) (r := r) (by simp)
  show (TOk l d b.2 lo (some e.1) ∧ Seg l d e.1 hi (e :: a ++ c :: r)) ↔ (TOk l d b.2 lo (some e.1) ∧ Seg l d e.1 (some c.1) (e :: a)) ∧ _
  rw [ih, and_assoc]
theorem seg_first {l : List Wrt} {d : Nat} {lo : Str} {hi : Option Str} {b c : Br} {r : List Br} (h : b.2 = c.2) : Seg l d lo hi (b :: r) ↔ Seg l d lo hi (c :: r) := by
 cases r with
 | nil => show TOk l d b.2 lo hi ↔ TOk l d c.2 lo hi; rw [h]
 | cons e r => show (TOk l d b.2 lo _ ∧ _) ↔ (TOk l d c.2 lo _ ∧ _); rw [h]
theorem slt_trans_le {a b c : Str} (h1 : slt b a = false) (h2 : slt c b = false) : slt c a = false := by
 cases h : slt c a with
 | false => rfl
 | true =>
  have := slt_lt_le h h1
  rw [this] at h2; cases h2
theorem Seg.room {l : List Wrt} {d : Nat} : ∀ {bs : List Br} {lo : Str} {b : Str}, Seg l d lo (some b) bs → slt lo b = true
 | [], _, _, k => k.elim
 | [c], lo, b, k => TOk.room k
 | c :: e :: r, lo, b, k => slt_trans (TOk.room k.1) (Seg.room k.2)
theorem Seg.hi {l : List Wrt} {d : Nat} : ∀ {bs : List Br} {lo : Str} {hi hi' : Option Str}, Seg l d lo hi bs → (∀ lo, Wide lo hi lo hi') → Seg l d lo hi' bs
 | [], _, _, _, k, _ => k
 | [c], _, _, _, k, hw => TOk.wide k (hw _)
 | c :: e :: r, _, _, _, k, hw => ⟨k.1, Seg.hi k.2 hw⟩
theorem Seg.lo {l : List Wrt} {d : Nat} {bs : List Br} {lo lo' : Str} {hi : Option Str} (k : Seg l d lo hi bs) (hw : slt lo lo' = false) : Seg l d lo' hi bs := by
 match bs, k with
 | [c], k => exact TOk.wide k ⟨hw, (Wide.refl lo hi).2⟩
 | c :: e :: r, k => exact ⟨TOk.wide k.1 ⟨hw, slt_irr _⟩, k.2⟩
theorem Seg.keys {l : List Wrt} {d : Nat} : ∀ {bs : List Br} {lo : Str} {hi : Option Str}, Seg l d lo hi bs → Rise (bs.tail.map (·.1)) ∧ ∀ k ∈ bs.tail.map (·.1), slt lo k = true ∧ kin lo hi k = true
 | [], _, _, k => k.elim
 | [c], lo, hi, k => ⟨List.Pairwise.nil, fun k hk => by simp at hk⟩
 | c :: e :: r, lo, hi, k => by
  obtain ⟨h1, h2⟩ := Seg.keys k.2
  have hr := TOk.room k.1
  have he : kin lo hi e.1 = true := by
   simp only [Go.Proofs.Ytmmjdacjcipgjaa.kin, Bool.and_eq_true, Bool.not_eq_true']
   refine ⟨slt_asym hr, ?_⟩
   cases hi with
   | none => rfl
   | some b => exact Seg.room k.2
  refine ⟨?_, fun y hy => ?_⟩
  ·show Rise (e.1 :: (e :: r).tail.map (·.1))
   exact List.pairwise_cons.2 ⟨fun y hy => (h2 y hy).1, h1⟩
  ·have hy' : y = e.1 ∨ y ∈ (e :: r).tail.map (·.1) := by simpa using hy
   rcases hy' with rfl | hy'
   ·exact ⟨hr, he⟩
   ·obtain ⟨a, b⟩ := h2 y hy'
    refine ⟨slt_trans hr a, ?_⟩
    simp only [Go.Proofs.Ytmmjdacjcipgjaa.kin, Bool.and_eq_true, Bool.not_eq_true'] at b ⊢
    exact ⟨slt_asym (slt_trans hr a), b.2⟩
def sprs (l : List Wrt) (d : Nat) (bs : List Br) : List Pr := bs.flatMap fun b => pOf l d b.2
def sids (l : List Wrt) (d : Nat) (bs : List Br) : List Int := bs.flatMap fun b => idsOf l d b.2
theorem sprs_app (l : List Wrt) (d : Nat) (a b : List Br) : sprs l d (a ++ b) = sprs l d a ++ sprs l d b := by unfold sprs; rw [List.flatMap_append]
theorem sids_app (l : List Wrt) (d : Nat) (a b : List Br) : sids l d (a ++ b) = sids l d a ++ sids l d b := by unfold sids; rw [List.flatMap_append]
theorem sprs_inr (l : List Wrt) (d : Nat) (bs : List Br) : (inr bs).kids.flatMap (pOf l d) = sprs l d bs := by
 unfold inr sprs
 show (bs.map (·.2)).flatMap (pOf l d) = _
 rw [List.flatMap_map]
theorem sids_inr (l : List Wrt) (d : Nat) (bs : List Br) : (inr bs).kids.flatMap (idsOf l d) = sids l d bs := by
 unfold inr sids
 show (bs.map (·.2)).flatMap (idsOf l d) = _
 rw [List.flatMap_map]
theorem seg_ext {l l' : List Wrt} (h : Ext l l') {d : Nat} {bs : List Br} (k : ∀ b ∈ bs, ∃ lo' hi', TOk l d b.2 lo' hi') : sprs l' d bs = sprs l d bs ∧ sids l' d bs = sids l d bs :=
 ⟨flatMap_same _ fun b hb => by obtain ⟨_, _, q⟩ := k b hb; exact (TOk.ext h q).2.2, flatMap_same _ fun b hb => by obtain ⟨_, _, q⟩ := k b hb; exact (TOk.ext h q).2.1⟩
theorem Seg.kin {l : List Wrt} {d : Nat} : ∀ {bs : List Br} {lo : Str} {hi : Option Str}, Seg l d lo hi bs → ∀ y ∈ sprs l d bs, kin lo hi y.1 = true
 | [], _, _, k, _, _ => k.elim
 | [c], lo, hi, k, y, hy => TOk.kin k y (by simpa [sprs] using hy)
 | c :: e :: r, lo, hi, k, y, hy => by
  have hy' : y ∈ pOf l d c.2 ∨ y ∈ sprs l d (e :: r) := by simpa [sprs] using hy
  have hr := TOk.room k.1
  rcases hy' with hy | hy
  ·have := TOk.kin k.1 y hy
   simp only [Go.Proofs.Ytmmjdacjcipgjaa.kin, Bool.and_eq_true, Bool.not_eq_true'] at this ⊢
   refine ⟨this.1, ?_⟩
   cases hi with
   | none => rfl
   | some b => exact slt_trans this.2 (Seg.room k.2)
  ·have := Seg.kin k.2 y hy
   simp only [Go.Proofs.Ytmmjdacjcipgjaa.kin, Bool.and_eq_true, Bool.not_eq_true'] at this ⊢
   refine ⟨?_, this.2⟩
   exact slt_trans_le (slt_asym hr) this.1
theorem kidLo_succ {a b : Str} {ks : List Str} {vals : List Str} {d0 : Int} {ds : List Int} {lf : Bool} (lo : Str) (i : Nat) : kidLo ⟨lf, a :: ks, vals, d0 :: ds⟩ lo (i + 1) = kidLo ⟨lf, ks, vals, ds⟩ a i := by
 unfold kidLo
 rw [if_neg (by omega)]
 cases i with
 | zero => simp
 | succ i => simp
theorem kidHi_succ {a : Str} {ks : List Str} {vals : List Str} {d0 : Int} {ds : List Int} {lf : Bool} (hi : Option Str) (i : Nat) : kidHi ⟨lf, a :: ks, vals, d0 :: ds⟩ hi (i + 1) = kidHi ⟨lf, ks, vals, ds⟩ hi i := by
 unfold kidHi
 simp
theorem seg_kids {l : List Wrt} {d : Nat} : ∀ {bs : List Br} {lo : Str} {hi : Option Str}, bs ≠ [] → (Seg l d lo hi bs ↔ ∀ (i : Nat) kid, (inr bs).kids[i]? = some kid → TOk l d kid (kidLo (inr bs) lo i) (kidHi (inr bs) hi i))
 | [], _, _, h => absurd rfl h
 | [b], lo, hi, _ => by
  constructor
  ·intro h i kid hk
   cases i with
   | zero =>
    have : b.2 = kid := by simpa [inr] using hk
    subst this
    exact h
   | succ i => simp [inr] at hk
  ·intro h
   exact h 0 b.2 rfl
 | b :: c :: r, lo, hi, _ => by
  have ih := seg_kids (l := l) (d := d) (bs := c :: r) (lo := c.1) (hi := hi) (by simp)
  have e : inr (b :: c :: r) = ⟨false, c.1 :: (inr (c :: r)).keys, [], b.2 :: (inr (c :: r)).kids⟩ := rfl
  have e2 : inr (c :: r) = ⟨false, (inr (c :: r)).keys, [], (inr (c :: r)).kids⟩ := rfl
  show (TOk l d b.2 lo (some c.1) ∧ Seg l d c.1 hi (c :: r)) ↔ _
  rw [ih]
  constructor
  ·rintro ⟨h1, h2⟩ i kid hk
   cases i with
   | zero =>
    have : b.2 = kid := by simpa [inr] using hk
    subst this
    exact h1
   | succ i =>
    rw [e, kidLo_succ (b := c.1), kidHi_succ, ← e2]
    exact h2 i kid (by rw [e] at hk; simpa using hk)
  ·intro h
   refine ⟨h 0 b.2 rfl, fun i kid hk => ?_⟩
   have := h (i + 1) kid (by rw [e]; simpa using hk)
   rw [e, kidLo_succ (b := c.1), kidHi_succ, ← e2] at this
   exact this
theorem tok_seg {l : List Wrt} {d : Nat} {id : Int} {lo : Str} {hi : Option Str} (h : TOk l (d + 1) id lo hi) : ∃ nd, NdIs l id nd ∧ nd.leaf = false ∧ Seg l d lo hi (brs nd) ∧ idsOf l (d + 1) id = id :: sids l d (brs nd) ∧ pOf l (d + 1) id = sprs l d (brs nd) := by
 obtain ⟨nd, hN, h1, h2, h3⟩ := h
 have e := inr_brs' hN.ok h1
 refine ⟨nd, hN, h1, ?_, ?_, ?_⟩
 ·rw [seg_kids (by unfold brs; simp), e]; exact h3
 ·rw [idsOf, hN.at, ← sids_inr, e]
 ·rw [pOf, hN.at, ← sprs_inr, e]
theorem seg_tok {l : List Wrt} {d : Nat} {id : Int} {lo : Str} {hi : Option Str} {bs : List Br} (hN : NdIs l id (inr bs)) (h : Seg l d lo hi bs) : TOk l (d + 1) id lo hi ∧ idsOf l (d + 1) id = id :: sids l d bs ∧ pOf l (d + 1) id = sprs l d bs := by
 refine ⟨⟨_, hN, rfl, List.all_eq_true.2 fun k hk => (h.keys.2 k hk).2, (seg_kids h.ne).1 h⟩, ?_, ?_⟩
 ·rw [idsOf, hN.at, sids_inr]
 ·rw [pOf, hN.at, sprs_inr]
theorem lf_tok {l : List Wrt} {id : Int} {lo : Str} {hi : Option Str} {ps : List Pr} (hN : NdIs l id (lf ps)) (h0 : ps ≠ []) (h : ∀ y ∈ ps, kin lo hi y.1 = true) : TOk l 0 id lo hi ∧ idsOf l 0 id = [id] ∧ pOf l 0 id = ps := by
 refine ⟨⟨_, hN, rfl, by simpa [lf] using h0, List.all_eq_true.2 fun k hk => ?_⟩, rfl, by rw [pOf, hN.at, npr_lf]⟩
 obtain ⟨y, hy, rfl⟩ := List.mem_map.1 hk
 exact h y hy
end Go.Proofs.Ytmmjdacjcipgjaa

namespace Go.Proofs.Ytmmjdacjcipgjaa
def pw (y : Pr) : Nat := 2 + y.1.length + y.2.length
def bw (b : Br) : Nat := 5 + b.1.length
theorem sum_take_succ {ws : List Nat} {k : Nat} {x : Nat} (h : ws[k]? = some x) : (ws.take (k + 1)).sum = (ws.take k).sum + x := by
 rw [List.take_add_one, h]; simp
theorem nsz_lf (ps : List Pr) : ∀ k, k ≤ ps.length → nsz (lf ps) k = 2 + (((ps.map pw).take k).sum : Int)
 | 0, _ => by simp [nsz]
 | k + 1, h => by
  have ih := nsz_lf ps k (by omega)
  have hk : ps[k]? = some ps[k] := List.getElem?_eq_getElem (by omega)
  have hw : (ps.map pw)[k]? = some (pw ps[k]) := by simp [hk]
  rw [sum_take_succ hw]
  simp only [nsz, ih]
  have e1 : (lf ps).keys[k]? = some ps[k].1 := by simp [lf, hk]
  have e2 : (lf ps).vals[k]? = some ps[k].2 := by simp [lf, hk]
  have e3 : (lf ps).leaf = true := rfl
  rw [e1, e2, e3]
  simp only [Option.getD_some, if_true, pw]
  push_cast
  omega
theorem nsize_lf (ps : List Pr) : nsize (lf ps) = 2 + ((ps.map pw).sum : Int) := by
 unfold nsize
 have e : (lf ps).keys.length = ps.length := by simp [lf]
 rw [e, nsz_lf ps ps.length (Nat.le_refl _), show (lf ps).leaf = true from rfl]
 have : (ps.map pw).take ps.length = ps.map pw := List.take_of_length_le (by simp)
 rw [this]; simp
theorem nsz_inr (b : Br) (r : List Br) : ∀ k, k ≤ r.length → nsz (inr (b :: r)) k + 4 * (k : Int) = 2 + (((r.map bw).take k).sum : Int)
 | 0, _ => by simp [nsz]
 | k + 1, h => by
  have ih := nsz_inr b r k (by omega)
  have hk : r[k]? = some r[k] := List.getElem?_eq_getElem (by omega)
  have hw : (r.map bw)[k]? = some (bw r[k]) := by simp [hk]
  rw [sum_take_succ hw]
  simp only [nsz]
  have e1 : (inr (b :: r)).keys[k]? = some r[k].1 := by simp [inr, hk]
  have e3 : (inr (b :: r)).leaf = false := rfl
  rw [e1, e3]
  simp only [Option.getD_some, bw]
  push_cast
  simp
  omega
theorem nsize_inr (b : Br) (r : List Br) : nsize (inr (b :: r)) = 6 + ((r.map bw).sum : Int) := by
 unfold nsize
 have e : (inr (b :: r)).keys.length = r.length := by simp [inr]
 have e2 : (inr (b :: r)).kids.length = r.length + 1 := by simp [inr]
 have h := nsz_inr b r r.length (Nat.le_refl _)
 have : (r.map bw).take r.length = r.map bw := List.take_of_length_le (by simp)
 rw [this] at h
 rw [e, e2, show (inr (b :: r)).leaf = false from rfl]
 push_cast
 try simp
 omega
theorem nkeys_of {n : Nd} (h : Rise n.keys) (hl : ∀ k ∈ n.keys, 1 ≤ k.length ∧ k.length ≤ 32) : nkeys n n.keys.length := by
 intro k hk
 have e : ∀ j, j < n.keys.length → nkey n j = n.keys[j]?.getD [] := fun j _ => rfl
 have e1 : nkey n k = n.keys[k] := by rw [nkey, List.getElem?_eq_getElem hk]; rfl
 have hm := hl n.keys[k] (List.getElem_mem hk)
 refine ⟨by rw [e1]; exact hm.1, by rw [e1]; exact hm.2, fun h0 => ?_⟩
 have e2 : nkey n (k - 1) = n.keys[k - 1] := by rw [nkey, List.getElem?_eq_getElem (by omega)]; rfl
 rw [e1, e2]
 exact List.pairwise_iff_getElem.1 h (k - 1) k (by omega) hk (by omega)
theorem nkeys_to {n : Nd} (h : nkeys n n.keys.length) : Rise n.keys ∧ ∀ k ∈ n.keys, 1 ≤ k.length ∧ k.length ≤ 32 := by
 refine ⟨rise_of h, fun k hk => ?_⟩
 obtain ⟨i, hi, e⟩ := List.getElem_of_mem hk
 have := h i hi
 have e1 : nkey n i = k := by rw [nkey, List.getElem?_eq_getElem hi, e]; rfl
 rw [nkOk, e1] at this
 exact ⟨this.1, this.2.1⟩
def PrOk (ps : List Pr) : Prop := Rise (ps.map (·.1)) ∧ ∀ y ∈ ps, (1 ≤ y.1.length ∧ y.1.length ≤ 32) ∧ y.2.length ≤ 64
theorem lf_ok {ps : List Pr} (h : PrOk ps) (hs : nsize (lf ps) ≤ 244) : NOk (lf ps) := by
 refine ⟨nkeys_of h.1 (fun k hk => ?_), ?_, fun k hk => ?_, fun k hk => ?_, hs⟩
 ·obtain ⟨y, hy, rfl⟩ := List.mem_map.1 hk
  exact (h.2 y hy).1
 ·unfold ncount; rw [show (lf ps).leaf = true from rfl, if_pos rfl]; exact ⟨by simp [lf], rfl⟩
 ·have hk' : k < ps.length := by simpa [lf] using hk
  have : (lf ps).vals[k]? = some ps[k].2 := by simp [lf, hk']
  rw [this]
  exact (h.2 _ (List.getElem_mem hk')).2
 ·simp [lf] at hk
theorem lf_to {nd : Nd} (hok : NOk nd) (hl : nd.leaf = true) : nd = lf (npr nd) ∧ PrOk (npr nd) := by
 have e := lf_npr hok hl
 refine ⟨e.symm, ?_⟩
 obtain ⟨h1, h2⟩ := nkeys_to hok.1
 rw [← e] at h1 h2
 refine ⟨h1, fun y hy => ⟨h2 y.1 (List.mem_map.2 ⟨y, hy, rfl⟩), ?_⟩⟩
 have hv := hok.2.2.1
 have hm : y.2 ∈ nd.vals := (List.of_mem_zip hy).2
 obtain ⟨i, hi, e⟩ := List.getElem_of_mem hm
 have := hv i hi
 rw [List.getElem?_eq_getElem hi, e] at this
 exact this
def BrOk (bs : List Br) : Prop := (∀ b ∈ bs.tail, 1 ≤ b.1.length ∧ b.1.length ≤ 32) ∧ ∀ b ∈ bs, 1 ≤ b.2 ∧ b.2 ≤ 65536
theorem inr_ok {bs : List Br} (hr : Rise (bs.tail.map (·.1))) (h : BrOk bs) (h0 : bs.tail ≠ []) (hs : nsize (inr bs) ≤ 244) : NOk (inr bs) := by
 have hb : bs.length = bs.tail.length + 1 := by cases bs with | nil => exact absurd rfl h0 | cons a r => simp
 refine ⟨nkeys_of hr (fun k hk => ?_), ?_, fun k hk => ?_, fun k hk => ?_, hs⟩
 ·obtain ⟨y, hy, rfl⟩ := List.mem_map.1 hk
  exact h.1 y hy
 ·unfold ncount
  rw [show (inr bs).leaf = false from rfl, if_neg (by decide)]
  refine ⟨rfl, ?_, ?_⟩
  ·have : (inr bs).keys.length = bs.tail.length := by simp [inr]
   have h9 : bs.tail.length ≠ 0 := fun h => h0 (List.eq_nil_of_length_eq_zero h)
   omega
  ·simp only [inr, List.length_map]; exact hb
 ·simp [inr] at hk
 ·have hk' : k < bs.length := by simpa [inr] using hk
  have : (inr bs).kids[k]? = some bs[k].2 := by simp [inr, hk']
  rw [this]
  exact h.2 _ (List.getElem_mem hk')
theorem inr_to {nd : Nd} (hok : NOk nd) (hl : nd.leaf = false) : nd = inr (brs nd) ∧ BrOk (brs nd) ∧ (brs nd).tail ≠ [] := by
 have e := inr_brs' hok hl
 obtain ⟨h1, h2⟩ := nkeys_to hok.1
 have hk := kids_len hok hl
 have hc := hok.2.1
 unfold ncount at hc
 rw [hl, if_neg (by decide)] at hc
 refine ⟨e.symm, ⟨fun b hb => ?_, fun b hb => ?_⟩, fun h9 => ?_⟩
 ·have : b.1 ∈ (inr (brs nd)).keys := List.mem_map.2 ⟨b, hb, rfl⟩
  rw [e] at this
  exact h2 _ this
 ·have : b.2 ∈ (inr (brs nd)).kids := List.mem_map.2 ⟨b, hb, rfl⟩
  rw [e] at this
  obtain ⟨i, hi, e9⟩ := List.getElem_of_mem this
  have := hok.2.2.2.1 i hi
  rw [List.getElem?_eq_getElem hi, e9] at this
  exact this
 ·have : (inr (brs nd)).keys = [] := by unfold inr; rw [h9]; rfl
  rw [e] at this
  rw [this] at hc; simp at hc
def cutL (n : Nd) (k : Nat) : Nd := if n.leaf then ⟨true, n.keys.take k, n.vals.take k, []⟩ else ⟨false, n.keys.take k, [], n.kids.take (k + 1)⟩
def cutR (n : Nd) (k : Nat) : Nd := if n.leaf then ⟨true, n.keys.drop k, n.vals.drop k, []⟩ else ⟨false, n.keys.drop (k + 1), [], n.kids.drop (k + 1)⟩
def cutG (n : Nd) (k : Nat) : Int := max (nsize (cutL n k)) (nsize (cutR n k))
def midTo (n : Nd) : Nat → Nat × Int
 | 0 => (0, nsize n)
 | k + 1 => if cutG n k < (midTo n k).2 then (k, cutG n k) else midTo n k
def midOf (n : Nd) : Nat := (midTo n n.keys.length).1
theorem midTo_ok (n : Nd) : ∀ k, (∀ j, j < k → (midTo n k).2 ≤ cutG n j) ∧ (midTo n k).2 ≤ nsize n ∧ ((midTo n k).2 < nsize n → (midTo n k).1 < k ∧ cutG n (midTo n k).1 = (midTo n k).2)
 | 0 => ⟨fun j h => by omega, Int.le_refl _, fun h => by simp [midTo] at h⟩
 | k + 1 => by
  obtain ⟨h1, h2, h3⟩ := midTo_ok n k
  simp only [midTo]
  split
  ·rename_i hc
   refine ⟨fun j hj => ?_, by show cutG n k ≤ _; omega, fun _ => ⟨by show k < k + 1; omega, rfl⟩⟩
   show cutG n k ≤ cutG n j
   by_cases e : j = k
   ·subst e; exact Int.le_refl _
   ·have := h1 j (by omega); omega
  ·rename_i hc
   refine ⟨fun j hj => ?_, h2, fun h => ⟨by have := (h3 h).1; omega, (h3 h).2⟩⟩
   by_cases e : j = k
   ·subst e; omega
   ·exact h1 j (by omega)
theorem cutL_lf (ps : List Pr) (k : Nat) : cutL (lf ps) k = lf (ps.take k) := by simp [cutL, lf, List.map_take]
theorem cutR_lf (ps : List Pr) (k : Nat) : cutR (lf ps) k = lf (ps.drop k) := by simp [cutR, lf, List.map_drop]
theorem cutL_inr (b : Br) (r : List Br) (k : Nat) : cutL (inr (b :: r)) k = inr (b :: r.take k) := by simp [cutL, inr, List.map_take]
theorem cutR_inr (b : Br) (r : List Br) (k : Nat) : cutR (inr (b :: r)) k = inr (r.drop k) := by simp [cutR, inr, List.map_drop]
theorem pref (ws : List Nat) (M : Nat) (h : M < ws.sum) : ∃ j, j < ws.length ∧ (ws.take j).sum ≤ M ∧ M < (ws.take (j + 1)).sum := by
 induction ws generalizing M with
 | nil => simp at h
 | cons a r ih =>
  by_cases ha : M < a
  ·exact ⟨0, by simp, by simp, by simpa using ha⟩
  ·obtain ⟨j, h1, h2, h3⟩ := ih (M - a) (by simp at h; omega)
   refine ⟨j + 1, by simp; omega, by simp; omega, by simp at h3 ⊢; omega⟩
theorem sum_split (ws : List Nat) (j : Nat) : (ws.take j).sum + (ws.drop j).sum = ws.sum := by
 conv => rhs; rw [← List.take_append_drop j ws]
 rw [List.sum_append]
theorem leaf_cut {ps : List Pr} (hw : ∀ y ∈ ps, pw y ≤ 98) (h1 : 244 < nsize (lf ps)) (h2 : nsize (lf ps) ≤ 342) : 0 < midOf (lf ps) ∧ midOf (lf ps) < ps.length ∧ nsize (lf (ps.take (midOf (lf ps)))) ≤ 244 ∧ nsize (lf (ps.drop (midOf (lf ps)))) ≤ 244 := by
 have hk : (lf ps).keys.length = ps.length := by simp [lf]
 obtain ⟨a, b, c⟩ := midTo_ok (lf ps) ps.length
 have em : midOf (lf ps) = (midTo (lf ps) ps.length).1 := by rw [midOf, hk]
 have hs := nsize_lf ps
 obtain ⟨j, j1, j2, j3⟩ := pref (ps.map pw) 242 (by omega)
 have jl : j < ps.length := by simpa using j1
 have hwj : (ps.map pw)[j]? = some (pw ps[j]) := by simp [jl]
 have hle := hw ps[j] (List.getElem_mem jl)
 rw [sum_take_succ hwj] at j3
 have hsp := sum_split (ps.map pw) j
 have hg : cutG (lf ps) j ≤ 244 := by
  unfold cutG
  rw [cutL_lf, cutR_lf, nsize_lf, nsize_lf, List.map_take, List.map_drop]
  omega
 have hlt := a j jl
 obtain ⟨c1, c2⟩ := c (by omega)
 rw [← em] at c1 c2
 have hg2 : cutG (lf ps) (midOf (lf ps)) ≤ 244 := by omega
 unfold cutG at hg2
 rw [cutL_lf, cutR_lf] at hg2
 refine ⟨?_, c1, by omega, by omega⟩
 apply Nat.pos_of_ne_zero
 intro h0
 rw [h0] at hg2
 simp only [List.drop_zero] at hg2
 omega
theorem inr_cut {b0 : Br} {r : List Br} (hw : ∀ y ∈ r, bw y ≤ 37) (h1 : 244 < nsize (inr (b0 :: r))) (h2 : nsize (inr (b0 :: r)) ≤ 281) :
  0 < midOf (inr (b0 :: r)) ∧ midOf (inr (b0 :: r)) + 1 < r.length ∧ nsize (inr (b0 :: r.take (midOf (inr (b0 :: r))))) ≤ 244 ∧ nsize (inr (r.drop (midOf (inr (b0 :: r))))) ≤ 244 := by
 have hk : (inr (b0 :: r)).keys.length = r.length := by simp [inr]
 obtain ⟨a, b, c⟩ := midTo_ok (inr (b0 :: r)) r.length
 obtain ⟨m, em⟩ : ∃ m, m = midOf (inr (b0 :: r)) := ⟨_, rfl⟩
 have em' : m = (midTo (inr (b0 :: r)) r.length).1 := by rw [em, midOf, hk]
 rw [← em]
 have hs := nsize_inr b0 r
 have hbp : ∀ y : Br, 5 ≤ bw y := fun y => by unfold bw; omega
 -- sizes of the parts
 have hG : ∀ j, j < r.length → ∃ x : Nat, x = bw r[j]! ∧ x ≤ 37 ∧ 5 ≤ x ∧ ((r.map bw).take j).sum + x + ((r.map bw).drop (j + 1)).sum = (r.map bw).sum ∧ nsize (cutL (inr (b0 :: r)) j) = 6 + (((r.map bw).take j).sum : Int) ∧ nsize (cutR (inr (b0 :: r)) j) = 6 + (((r.map bw).drop (j + 1)).sum : Int) := by
  intro j hj
  have hwj : (r.map bw)[j]? = some (bw r[j]) := by simp [hj]
  have hsp := sum_split (r.map bw) (j + 1)
  rw [sum_take_succ hwj] at hsp
  refine ⟨bw r[j], by rw [getElem!_pos r j hj], hw _ (List.getElem_mem hj), hbp _, hsp, ?_, ?_⟩
  ·rw [cutL_inr, nsize_inr, List.map_take]
  ·rw [cutR_inr]
   have e : r.drop j = r[j] :: r.drop (j + 1) := List.drop_eq_getElem_cons hj
   rw [e, nsize_inr, List.map_drop]
 have hlen : 6 < r.length := by
  have : ∀ l : List Br, (∀ y ∈ l, bw y ≤ 37) → (l.map bw).sum ≤ 37 * l.length := by
   intro l
   induction l with
   | nil => intro _; simp
   | cons a l ih =>
    intro h
    have h1 := ih fun y hy => h y (by simp [hy])
    have h2 := h a (by simp)
    simp only [List.map_cons, List.sum_cons, List.length_cons]
    omega
  have := this r hw
  omega
 obtain ⟨j, j1, j2, j3⟩ := pref (r.map bw) 238 (by omega)
 have jl : j < r.length := by simpa using j1
 obtain ⟨x, _, x1, x2, x3, x4, x5⟩ := hG j jl
 have hwj : (r.map bw)[j]? = some (bw r[j]) := by simp [jl]
 rw [sum_take_succ hwj] at j3
 have hxj : x = bw r[j] := by
  obtain ⟨x', h9, _⟩ := hG j jl
  have : r[j]! = r[j] := getElem!_pos r j jl
  simp_all
 have hg : cutG (inr (b0 :: r)) j ≤ 244 := by unfold cutG; rw [x4, x5]; omega
 have hlt := a j jl
 obtain ⟨c1, c2⟩ := c (by omega)
 rw [← em'] at c1 c2
 have hgm : cutG (inr (b0 :: r)) m ≤ 244 := by omega
 have hmin : ∀ j, j < r.length → cutG (inr (b0 :: r)) m ≤ cutG (inr (b0 :: r)) j := fun j hj => by have := a j hj; omega
 refine ⟨?_, ?_, ?_, ?_⟩
 ·apply Nat.pos_of_ne_zero
  intro h0
  have hm1 := hmin 1 (by omega)
  rw [h0] at hm1
  obtain ⟨y, _, y1, y2, y3, y4, y5⟩ := hG 0 (by omega)
  obtain ⟨z, _, z1, z2, z3, z4, z5⟩ := hG 1 (by omega)
  have e0 : ((r.map bw).take 0).sum = 0 := by simp
  have hw0 : (r.map bw)[0]? = some (bw r[0]) := by simp [show 0 < r.length by omega]
  have e1 := sum_take_succ hw0
  have hsp0 := sum_split (r.map bw) 1
  have b1 := hw r[0] (List.getElem_mem (by omega))
  unfold cutG at hm1
  rw [y4, y5, z4, z5] at hm1
  simp only [Nat.zero_add] at *
  omega
 ·by_cases h9 : m + 1 < r.length
  ·exact h9
  ·exfalso
   have hmm : m = r.length - 1 := by omega
   have hm1 := hmin (r.length - 2) (by omega)
   rw [hmm] at hm1
   obtain ⟨y, _, y1, y2, y3, y4, y5⟩ := hG (r.length - 1) (by omega)
   obtain ⟨z, _, z1, z2, z3, z4, z5⟩ := hG (r.length - 2) (by omega)
   have ed : ((r.map bw).drop (r.length - 1 + 1)).sum = 0 := by rw [List.drop_eq_nil_of_le (by simp; omega)]; rfl
   have hwl : (r.map bw)[r.length - 2]? = some (bw r[r.length - 2]) := by simp [show r.length - 2 < r.length by omega]
   have e1 := sum_take_succ hwl
   rw [show r.length - 2 + 1 = r.length - 1 by omega] at e1 z3 z5
   have hwl2 : (r.map bw)[r.length - 1]? = some (bw r[r.length - 1]) := by simp [show r.length - 1 < r.length by omega]
   have hsp0 := sum_split (r.map bw) (r.length - 1)
   have b1 := hbp r[r.length - 2]
   unfold cutG at hm1
   rw [y4, y5, z4, z5] at hm1
   omega
 ·rw [← cutL_inr]; unfold cutG at hgm; omega
 ·rw [← cutR_inr (b := b0)]; unfold cutG at hgm; omega
end Go.Proofs.Ytmmjdacjcipgjaa

namespace Go.Proofs.Ytmmjdacjcipgjaa
open Go.RowKit
theorem retNTN {P : Program} {fn : Func} {R : Ending → World → Prop} {a : Act} {w : World} {p q u1 : Tmp} {ty ty' : TypeId} (h : fn.results = #[.cell p ty, .tmp u1, .cell q ty']) (hd : a.defers = []) (g g' : Nat) (hp : a.tmps.getD p undef = .pointer (some ⟨g, 0, none⟩)) (hq : a.tmps.getD q undef = .pointer (some ⟨g', 0, none⟩))
  (cs cs' : Array Value) (t t' : TypeId) (fr fr' : Nat × Nat) (hg : w.heap[g]? = some (.cells cs t fr)) (hg' : w.heap[g']? = some (.cells cs' t' fr')) (d d' : TypeDesc) (hu : P.underlying ty = some d) (hr : (match d with | .struct _ | .array _ _ => true | _ => false) = true) (hi : (P.info? ty).map (·.size) = some cs.size)
  (hu' : P.underlying ty' = some d') (hr' : (match d' with | .struct _ | .array _ _ => true | _ => false) = true) (hi' : (P.info? ty').map (·.size) = some cs'.size)
  (v1 : Value) (e1 : a.tmps.getD u1 undef = v1) (hR : R (.returned (.tuple #[.agg cs, v1, .agg cs'])) w) : bodyPost P fn R .ret a w := by
 refine bodyPost_ret (v := .tuple #[.agg cs, v1, .agg cs']) ?_ hd hR
 have hp' : a.tmps[p]?.getD undef = .pointer (some ⟨g, 0, none⟩) := by simpa using hp
 have hq' : a.tmps[q]?.getD undef = .pointer (some ⟨g', 0, none⟩) := by simpa using hq
 have e1' : a.tmps[u1]?.getD undef = v1 := by simpa using e1
 simp [results, h, hp', hq', e1', asAddr, run_loadVar_row w g t ty cs fr d hg hu hr hi, run_loadVar_row w g' t' ty' cs' fr' d' hg' hu' hr' hi']
abbrev CutR (w w' : World) (n : Nd) (i : Nat) (e : Ending) : Prop := ∃ k1 v1 d1 k2 v2 d2, e = .returned (.tuple #[nv (cutL n i) k1 v1 d1, st (n.keys.getD i []), nv (cutR n i) k2 v2 d2]) ∧ RdK w' k1 v1 d1 (cutL n i) ∧ RdK w' k2 v2 d2 (cutR n i) ∧ Below w.heap.size w w'
theorem rd_nilT (w : World) : RdT w (.slice none 0 0) [] := ⟨none, 0, rfl, by simp, by decide, fun _ => rfl, .inl rfl⟩
theorem rd_nilI (w : World) : RdI w (.slice none 0 0) [] := ⟨none, 0, rfl, by simp, by decide, fun _ => rfl, .inl rfl⟩
set_option maxRecDepth 100000 in
set_option maxHeartbeats 8000000 in
theorem pcut_leaf (w : World) (n : Nd) (kv vv dv : Value) (i : Nat) (h0 : RdK w kv vv dv n) (hi : i < n.keys.length) (hl : n.keys.length ≤ 1000) (hlf : n.leaf = true) (hlv : n.vals.length = n.keys.length) :
  Calls Try.prog 95 #[nv n kv vv dv, .int .i64 (i : Int)] w fun e w' => CutR w w' n i e := by
 have hr := h0.rd
 obtain ⟨ka, kc, va, vc, da, dc, rfl, rfl, rfl⟩ := hr.slices
 obtain ⟨x, hx⟩ : ∃ x, n.keys[i]? = some x := ⟨_, List.getElem?_eq_getElem hi⟩
 have hgd : n.keys.getD i [] = x := by rw [List.getD_eq_getElem?_getD, hx]; rfl
 obtain ⟨X, hX, D0, D1, D2, bX, sX⟩ := boxes4s w (.bool n.leaf) (.slice ka n.keys.length kc) (.slice va n.vals.length vc) (.slice da n.kids.length dc) 79
 have hkc := rdS_cap hr.keys
 obtain ⟨kb, ko, rfl, hcx⟩ := hr.keys.strAt hx
 have hkbw : Hid (kb < w.heap.size) := cell_lt hcx
 replace hcx := (bX.cell (cell_lt hcx)).trans hcx
 have hvc := rdS_cap hr.vals
 obtain ⟨y, hy⟩ : ∃ y, n.vals[i]? = some y := ⟨_, List.getElem?_eq_getElem (by omega)⟩
 obtain ⟨vb, vo, rfl, hvx⟩ := hr.vals.strAt hy
 have hck : ¬ kc = i := by omega
 have hcv : ¬ vc = i := by omega
 have RL : RdK w (.slice (some ⟨kb, ko, none⟩) i kc) (.slice (some ⟨vb, vo, none⟩) i vc) (.slice none 0 0) (cutL n i) := by
  unfold cutL
  rw [hlf, if_pos rfl]
  exact ⟨⟨rdS_front hr.keys (by omega), rdS_front hr.vals (by omega), rd_nilI _⟩, h0.tk.same _ _, h0.tv.same _ _, TyB.nil _ _ _ _⟩
 have RR : RdK w (.slice (some ⟨kb, ko + i, none⟩) (n.keys.length - i) (kc - i)) (.slice (some ⟨vb, vo + i, none⟩) (n.vals.length - i) (vc - i)) (.slice none 0 0) (cutR n i) := by
  unfold cutR
  rw [hlf, if_pos rfl]
  exact ⟨⟨rdS_back rfl hr.keys (by omega) hck, rdS_back rfl hr.vals (by omega) hcv, rd_nilI _⟩, h0.tk.part rfl, h0.tv.part rfl, TyB.nil _ _ _ _⟩
 have HRR := hide (And.intro RL RR)
 obtain ⟨⟨E0, E1, E2, E3⟩, EF⟩ := cells4 D0
 have HD := hide (And.intro D0 (And.intro D1 D2))
 have HB := hide bX
 have hsX := hide sX
 obtain ⟨K, hK⟩ : ∃ K, K = n.keys.length := ⟨_, rfl⟩
 obtain ⟨V, hV⟩ : ∃ K, K = n.vals.length := ⟨_, rfl⟩
 obtain ⟨Z, hZ⟩ : ∃ K, K = n.kids.length := ⟨_, rfl⟩
 rw [← hK] at hi hl hX HD E1 hkc
 (try rw [← hK] at HRR)
 simp only [← hV, ← hZ] at hX HRR HD E2 E3
 dsimp only [nv]
 rw [← hK, ← hV, ← hZ]
 have hcl := hide (show (∀ a b c, nv (cutL n i) a b c = .agg #[.bool true, a, b, c]) ∧ ∀ a b c, nv (cutR n i) a b c = .agg #[.bool true, a, b, c] by unfold cutL cutR; rw [hlf]; exact ⟨fun _ _ _ => rfl, fun _ _ _ => rfl⟩)
 have g1 : i ≤ K := by omega
 have g2 : i ≤ V := by omega
 have g3 : i ≤ kc := by omega
 have g4 : i ≤ vc := by rw [← hV] at hvc; omega
 rw [hlf] at hX HD E0 ⊢
 have hXd : Hid (Below X.heap.size X X.drew) := below_drewN' X 1 _
 rw [hX] at E0 E1 E2 E3 EF
 replace hK := hide hK
 replace hV := hide hV
 replace hZ := hide hZ
 replace hgd := hide hgd
 replace hlf := hide hlf
 replace hx := hide hx
 clear D0 D1 D2 bX hr h0 RL RR hy hvx hvc hlv
 go_enter Try.func95, Try.ntmps95
 go_upto_region 2 with fail
 rw [← hX]
 replace hX := hide hX
 clear E0 E1 E2 E3 EF
 -- the left part
 obtain ⟨⟨E0, E1, E2, E3⟩, EF⟩ := cells4 (drewHeap HD.out.1)
 refine wp_region_mid (fun w' => w'.cell? ⟨w.heap.size, 1, none⟩ = some (.slice (some ⟨kb, ko, none⟩) K kc) ∧ w'.cell? ⟨w.heap.size, 2, none⟩ = some (.slice (some ⟨vb, vo, none⟩) V vc)) 9 10 mixed (by kernel_rfl) (fun _ _ _ _ h => h) ⟨E1, E2⟩ ?_
 dsimp only [List.take, List.drop]
 iterate 9
  refine take_one (v := ?_) (by rfl) ?_ ?_
  rotate_left
  ·rintro w' ⟨s1, s2⟩
   go_simp
   try with_reducible rfl
  try simp only [Act.put, List.setIfInBounds_toArray, List.set_cons_zero, List.set_cons_succ]
 refine mid_one fun K' hK' => ?_
 rw [if_pos (by rfl)]
 go_simp
 refine hK' _ _ ⟨cellAl E1 _, cellAl E2 _⟩ ?_
 clear hK' K'
 show wpList _ _ _ _ _ _
 obtain ⟨Y, hY, DY, bY, sY⟩ := boxedN X.drew #[.bool true, (.slice (some ⟨kb, ko, none⟩) i kc), (.slice (some ⟨vb, vo, none⟩) i vc), (.slice none 0 0)] 79
 have bXY := hXd.out.trans (bY.mono hXd.out.size)
 have HY := hide (And.intro (And.intro ((bXY.block _ (lt_of_block HD.out.1)).trans HD.out.1) (And.intro ((bXY.block _ (lt_of_block HD.out.2.1)).trans HD.out.2.1) ((bXY.block _ (lt_of_block HD.out.2.2)).trans HD.out.2.2))) (And.intro DY bXY))
 have hsY : Hid (Y.heap.size = w.heap.size + 3 + 1) := by show _ = _; rw [sY]; show X.heap.size + 1 = _; rw [hsX.out]
 clear E0 E1 E2 E3 EF DY bY bXY sY
 go_upto_region 3 with fail
 have hY' : (X.alloc (.cells #[.bool true, (.slice (some ⟨kb, ko, none⟩) i kc), (.slice (some ⟨vb, vo, none⟩) i vc), (.slice none 0 0)] 79)).drew = Y := by rw [hY]; rfl
 rw [hY']
 clear hY'
 replace hY := hide hY
 -- the right part
 have hYd : Hid (Below Y.heap.size Y Y.drew) := below_drewN' Y 1 _
 obtain ⟨⟨E0, E1, E2, E3⟩, EF⟩ := cells4 (drewHeap HY.out.1.1)
 refine wp_region_mid (fun w' => w'.cell? ⟨w.heap.size, 1, none⟩ = some (.slice (some ⟨kb, ko, none⟩) K kc) ∧ w'.cell? ⟨w.heap.size, 2, none⟩ = some (.slice (some ⟨vb, vo, none⟩) V vc)) 9 10 mixed (by kernel_rfl) (fun _ _ _ _ h => h) ⟨E1, E2⟩ ?_
 dsimp only [List.take, List.drop]
 iterate 9
  refine take_one (v := ?_) (by rfl) ?_ ?_
  rotate_left
  ·rintro w' ⟨s1, s2⟩
   go_simp
   try with_reducible rfl
  try simp only [Act.put, List.setIfInBounds_toArray, List.set_cons_zero, List.set_cons_succ]
 refine mid_one fun K' hK' => ?_
 rw [if_pos (by rfl)]
 go_simp
 refine hK' _ _ ⟨cellAl E1 _, cellAl E2 _⟩ ?_
 clear hK' K'
 show wpList _ _ _ _ _ _
 obtain ⟨U, hU, DU, bU, sU⟩ := boxedN Y.drew #[.bool true, (.slice (some ⟨kb, ko + i, none⟩) (K - i) (kc - i)), (.slice (some ⟨vb, vo + i, none⟩) (V - i) (vc - i)), (.slice none 0 0)] 79
 have bYU := hYd.out.trans (bU.mono hYd.out.size)
 have bXU := HY.out.2.2.trans (bYU.mono HY.out.2.2.size)
 have DL := (bYU.block _ (lt_of_block HY.out.2.1)).trans HY.out.2.1
 have e3 : X.drew.heap.size = w.heap.size + 3 := hsX.out
 have e4 : Y.drew.heap.size = w.heap.size + 3 + 1 := hsY.out
 rw [e3] at DL
 rw [e4] at DU
 have HU := hide (And.intro (And.intro ((bYU.block _ (lt_of_block HY.out.1.1)).trans HY.out.1.1) (And.intro ((bYU.block _ (lt_of_block HY.out.1.2.1)).trans HY.out.1.2.1) ((bYU.block _ (lt_of_block HY.out.1.2.2)).trans HY.out.1.2.2))) (And.intro DL (And.intro DU bXU)))
 have hsU : Hid (U.heap.size = w.heap.size + 3 + 1 + 1) := by show _ = _; rw [sU, e4]
 clear E0 E1 E2 E3 EF DU DL bU bYU bXU sU HY
 go_upto_region 4 with fail
 have hU' : (Y.alloc (.cells #[.bool true, (.slice (some ⟨kb, ko + i, none⟩) (K - i) (kc - i)), (.slice (some ⟨vb, vo + i, none⟩) (V - i) (vc - i)), (.slice none 0 0)] 79)).drew = U := by rw [hU]; rfl
 rw [hU', hsY.out]
 clear hU'
 replace hU := hide hU
 clear e3 e4
 -- both are told
 have hUd : Hid (Below U.heap.size U U.drew) := below_drewN' U 1 _
 obtain ⟨Z', hZ'⟩ : ∃ Z, Z = U.drew := ⟨_, rfl⟩
 rw [← hZ'] at hUd
 obtain ⟨⟨E0, E1, E2, E3⟩, EF⟩ := cells4 ((hUd.out.block _ (lt_of_block HU.out.1.1)).trans HU.out.1.1)
 obtain ⟨⟨L0, L1, L2, L3⟩, LF⟩ := cells4 ((hUd.out.block _ (lt_of_block HU.out.2.1)).trans HU.out.2.1)
 obtain ⟨⟨R0, R1, R2, R3⟩, RF⟩ := cells4 ((hUd.out.block _ (lt_of_block HU.out.2.2.1)).trans HU.out.2.2.1)
 have R1' := (hUd.out.block _ (lt_of_block HU.out.1.2.1)).trans HU.out.1.2.1
 have R2' := (hUd.out.block _ (lt_of_block HU.out.1.2.2)).trans HU.out.1.2.2
 obtain ⟨⟨P0, P1, P2, P3⟩, PF⟩ := cells4 R1'
 have cx := (hUd.out.cell (Nat.lt_of_lt_of_le (cell_lt hcx) HU.out.2.2.2.size)).trans ((HU.out.2.2.2.cell (cell_lt hcx)).trans hcx)
 have hbw : kb < w.heap.size := hkbw.out
 obtain ⟨Q, hQ, q1, q2, q3⟩ := set8 (show w.heap.size + 1 ≠ w.heap.size + 2 by omega) R1' R2' ((HB.out.trans ((HU.out.2.2.2.trans (hUd.out.mono HU.out.2.2.2.size)).mono HB.out.size))) (show w.heap.size ≤ w.heap.size + 1 by omega) (show w.heap.size ≤ w.heap.size + 2 by omega) (.bool true) (.slice (some ⟨kb, ko, none⟩) i kc) (.slice (some ⟨vb, vo, none⟩) i vc) (.slice none 0 0) (.bool true) (.slice (some ⟨kb, ko + i, none⟩) (K - i) (kc - i)) (.slice (some ⟨vb, vo + i, none⟩) (V - i) (vc - i)) (.slice none 0 0)
 refine wp_region_mid (fun w' => (w'.cell? ⟨w.heap.size, 1, none⟩ = some (.slice (some ⟨kb, ko, none⟩) K kc) ∧ w'.cell? ⟨kb, ko + i, none⟩ = some (st x)) ∧ (w'.cell? ⟨w.heap.size + 3, 0, none⟩ = some (.bool true) ∧ w'.cell? ⟨w.heap.size + 3, 1, none⟩ = some (.slice (some ⟨kb, ko, none⟩) i kc) ∧ w'.cell? ⟨w.heap.size + 3, 2, none⟩ = some (.slice (some ⟨vb, vo, none⟩) i vc) ∧ w'.cell? ⟨w.heap.size + 3, 3, none⟩ = some (.slice none 0 0)) ∧
  (w'.cell? ⟨w.heap.size + 3 + 1, 0, none⟩ = some (.bool true) ∧ w'.cell? ⟨w.heap.size + 3 + 1, 1, none⟩ = some (.slice (some ⟨kb, ko + i, none⟩) (K - i) (kc - i)) ∧ w'.cell? ⟨w.heap.size + 3 + 1, 2, none⟩ = some (.slice (some ⟨vb, vo + i, none⟩) (V - i) (vc - i)) ∧ w'.cell? ⟨w.heap.size + 3 + 1, 3, none⟩ = some (.slice none 0 0))) 7 9 mixed (by kernel_rfl) (fun _ _ _ _ h => h) (by rw [← hZ']; exact ⟨⟨E1, cx⟩, ⟨L0, L1, L2, L3⟩, ⟨R0, R1, R2, R3⟩⟩) ?_
 dsimp only [List.take, List.drop]
 iterate 7
  refine take_one (v := ?_) (by rfl) ?_ ?_
  rotate_left
  ·rintro w' ⟨⟨s1, s2⟩, ⟨s3, s4, s5, s6⟩, ⟨s7, s8, s9, s10⟩⟩
   go_simp
   try with_reducible rfl
  try simp only [Act.put, List.setIfInBounds_toArray, List.set_cons_zero, List.set_cons_succ]
 rw [← hZ']
 replace hZ' := hide hZ'
 refine mid_one fun K' hK' => ?_
 rw [if_pos (by rfl)]
 go_simp
 have oth : ∀ (b j : Nat) (u : Value), Z'.cell? ⟨b, j, none⟩ = some u → b ≠ w.heap.size + 1 → (S4 (w.heap.size + 1) Z' (.bool true) (.slice (some ⟨kb, ko, none⟩) i kc) (.slice (some ⟨vb, vo, none⟩) i vc) (.slice none 0 0)).cell? ⟨b, j, none⟩ = some u := fun b j u hc hne => by
  have e9 := s4_other (w := Z') (g := w.heap.size + 1) (.bool true) (.slice (some ⟨kb, ko, none⟩) i kc) (.slice (some ⟨vb, vo, none⟩) i vc) (.slice none 0 0) hne
  simp only [World.cell?] at hc ⊢
  rw [e9]; exact hc
 refine hK' _ _ ⟨⟨oth _ _ _ E1 (by omega), oth _ _ _ cx (by omega)⟩, ⟨oth _ _ _ L0 (by omega), oth _ _ _ L1 (by omega), oth _ _ _ L2 (by omega), oth _ _ _ L3 (by omega)⟩, ⟨oth _ _ _ R0 (by omega), oth _ _ _ R1 (by omega), oth _ _ _ R2 (by omega), oth _ _ _ R3 (by omega)⟩⟩ ?_
 clear hK' K'
 refine mid_one fun K' hK' => ?_
 rw [if_pos (by rfl)]
 go_simp
 refine hK' _ _ ⟨⟨oth _ _ _ E1 (by omega), oth _ _ _ cx (by omega)⟩, ⟨oth _ _ _ L0 (by omega), oth _ _ _ L1 (by omega), oth _ _ _ L2 (by omega), oth _ _ _ L3 (by omega)⟩, ⟨oth _ _ _ R0 (by omega), oth _ _ _ R1 (by omega), oth _ _ _ R2 (by omega), oth _ _ _ R3 (by omega)⟩⟩ ?_
 clear hK' K'
 show wpList _ _ _ _ _ _
 have O2 : (S4 (w.heap.size + 1) Z' (.bool true) (.slice (some ⟨kb, ko, none⟩) i kc) (.slice (some ⟨vb, vo, none⟩) i vc) (.slice none 0 0)).heap[w.heap.size + 1 + 1]? = some (.cells #[.bool false, .slice none 0 0, .slice none 0 0, .slice none 0 0] 79 (0, 0)) := (s4_other _ _ _ _ (show w.heap.size + 1 + 1 ≠ w.heap.size + 1 by omega)).trans R2'
 obtain ⟨⟨M0, M1, M2, M3⟩, MF⟩ := cells4 O2
 have FIN : Hid (RdK Q (.slice (some ⟨kb, ko, none⟩) i kc) (.slice (some ⟨vb, vo, none⟩) i vc) (.slice none 0 0) (cutL n i) ∧ RdK Q (.slice (some ⟨kb, ko + i, none⟩) (K - i) (kc - i)) (.slice (some ⟨vb, vo + i, none⟩) (V - i) (vc - i)) (.slice none 0 0) (cutR n i)) := ⟨HRR.out.1.to q3, HRR.out.2.to q3⟩
 have HQ1 := hide q1
 have HQ2 := hide q2
 have HQ3 := hide q3
 rw [hQ] at HQ1 HQ2 HQ3 FIN
 clear E0 E1 E2 E3 EF L0 L1 L2 L3 LF R0 R1 R2 R3 RF P0 P1 P2 P3 PF R1' R2' cx oth q1 q2 q3 hQ O2
 go_wp2
 refine retNTN rfl rfl (w.heap.size + 1) (w.heap.size + 2) rfl rfl _ _ _ _ (0, 0) (0, 0) HQ1.out HQ2.out _ _ Try.underlying79 rfl info_nd10 Try.underlying79 rfl info_nd10 _ rfl ?_
 refine ⟨_, _, _, _, _, _, ?_, FIN.out.1, FIN.out.2, HQ3.out⟩
 rw [hgd.out, hcl.out.1, hcl.out.2]
 rfl
set_option maxRecDepth 100000 in
set_option maxHeartbeats 8000000 in
theorem pcut_innA (w : World) (n : Nd) (kv vv dv : Value) (i : Nat) (h0 : RdK w kv vv dv n) (hi : i < n.keys.length) (hl : n.keys.length ≤ 1000) (hlf : n.leaf = false) (hkd : n.kids.length = n.keys.length + 1) (hq : ∀ a c, kv = .slice a n.keys.length c → ¬ c = i + 1) :
  Calls Try.prog 95 #[nv n kv vv dv, .int .i64 (i : Int)] w fun e w' => CutR w w' n i e := by
 have hr := h0.rd
 obtain ⟨ka, kc, va, vc, da, dc, rfl, rfl, rfl⟩ := hr.slices
 obtain ⟨x, hx⟩ : ∃ x, n.keys[i]? = some x := ⟨_, List.getElem?_eq_getElem hi⟩
 have hgd : n.keys.getD i [] = x := by rw [List.getD_eq_getElem?_getD, hx]; rfl
 obtain ⟨X, hX, D0, D1, D2, bX, sX⟩ := boxes4s w (.bool n.leaf) (.slice ka n.keys.length kc) (.slice va n.vals.length vc) (.slice da n.kids.length dc) 79
 have hkc := rdS_cap hr.keys
 obtain ⟨kb, ko, rfl, hcx⟩ := hr.keys.strAt hx
 have hkbw : Hid (kb < w.heap.size) := cell_lt hcx
 replace hcx := (bX.cell (cell_lt hcx)).trans hcx
 have hck := hq _ _ rfl
 have hdc := rdS_cap hr.kids
 obtain ⟨y, hy⟩ : ∃ y, n.kids[0]? = some y := ⟨_, List.getElem?_eq_getElem (by omega)⟩
 obtain ⟨db, dO, rfl, hvx⟩ := hr.kids.intAt hy
 have hcv : ¬ dc = i + 1 := by omega
 have RL : RdK w (.slice (some ⟨kb, ko, none⟩) i kc) (.slice none 0 0) (.slice (some ⟨db, dO, none⟩) (i + 1) dc) (cutL n i) := by
  unfold cutL
  rw [hlf, if_neg (by decide)]
  exact ⟨⟨rdS_front hr.keys (by omega), rd_nilT _, rdS_front hr.kids (by omega)⟩, h0.tk.same _ _, TyB.nil _ _ _ _, h0.td.same _ _⟩
 have RR : RdK w (.slice (some ⟨kb, ko + (i + 1), none⟩) (n.keys.length - (i + 1)) (kc - (i + 1))) (.slice none 0 0) (.slice (some ⟨db, dO + (i + 1), none⟩) (n.kids.length - (i + 1)) (dc - (i + 1))) (cutR n i) := by
  unfold cutR
  rw [hlf, if_neg (by decide)]
  exact ⟨⟨rdS_back rfl hr.keys (by omega) hck, rd_nilT _, rdS_back rfl hr.kids (by omega) hcv⟩, h0.tk.part rfl, TyB.nil _ _ _ _, h0.td.part rfl⟩
 have HRR := hide (And.intro RL RR)
 obtain ⟨⟨E0, E1, E2, E3⟩, EF⟩ := cells4 D0
 have HD := hide (And.intro D0 (And.intro D1 D2))
 have HB := hide bX
 have hsX := hide sX
 obtain ⟨K, hK⟩ : ∃ K, K = n.keys.length := ⟨_, rfl⟩
 obtain ⟨V, hV⟩ : ∃ K, K = n.vals.length := ⟨_, rfl⟩
 obtain ⟨Z, hZ⟩ : ∃ K, K = n.kids.length := ⟨_, rfl⟩
 rw [← hK] at hi hl hX HD E1 hkc
 (try rw [← hK] at HRR)
 simp only [← hV, ← hZ] at hX HRR HD E2 E3
 dsimp only [nv]
 rw [← hK, ← hV, ← hZ]
 have hcl := hide (show (∀ a b c, nv (cutL n i) a b c = .agg #[.bool false, a, b, c]) ∧ ∀ a b c, nv (cutR n i) a b c = .agg #[.bool false, a, b, c] by unfold cutL cutR; rw [hlf]; exact ⟨fun _ _ _ => rfl, fun _ _ _ => rfl⟩)
 have g2 : i + 1 ≤ Z := by rw [hZ, hkd]; omega
 have g4 : i + 1 ≤ dc := by omega
 have g5 : IntKind.i64.wrap ((i : Int) + 1) = (i : Int) + 1 := IntWalk.i64_in _ (by omega)
 have g6 : (0 : Int) ≤ (i : Int) + 1 := by omega
 have g7 : ((i : Int) + 1).toNat = i + 1 := by omega
 have g8 : (i : Int) + 1 ≤ (Z : Int) := by omega
 have g9 : (i : Int) + 1 ≤ (dc : Int) := by omega
 have g1 : i ≤ K := by omega
 have g3 : i ≤ kc := by omega
 have g10 : (i : Int) + 1 ≤ (K : Int) := by omega
 have g11 : (i : Int) + 1 ≤ (kc : Int) := by omega
 have g12 : i + 1 ≤ K := by omega
 rw [hlf] at hX HD E0 ⊢
 have hXd : Hid (Below X.heap.size X X.drew) := below_drewN' X 1 _
 rw [hX] at E0 E1 E2 E3 EF
 replace hK := hide hK
 replace hV := hide hV
 replace hZ := hide hZ
 replace hgd := hide hgd
 replace hlf := hide hlf
 replace hx := hide hx
 clear D0 D1 D2 bX hr h0 RL RR hy hvx hdc hkd hq
 go_enter Try.func95, Try.ntmps95
 go_upto_region 5 with fail
 rw [← hX]
 replace hX := hide hX
 clear E0 E1 E2 E3 EF
 -- the left part
 obtain ⟨⟨E0, E1, E2, E3⟩, EF⟩ := cells4 (drewHeap HD.out.1)
 refine wp_region_mid (fun w' => w'.cell? ⟨w.heap.size, 1, none⟩ = some (.slice (some ⟨kb, ko, none⟩) K kc) ∧ w'.cell? ⟨w.heap.size, 3, none⟩ = some (.slice (some ⟨db, dO, none⟩) Z dc)) 10 11 mixed (by kernel_rfl) (fun _ _ _ _ h => h) ⟨E1, E3⟩ ?_
 dsimp only [List.take, List.drop]
 iterate 10
  refine take_one (v := ?_) (by rfl) ?_ ?_
  rotate_left
  ·rintro w' ⟨s1, s2⟩
   go_simp
   try with_reducible rfl
  try simp only [Act.put, List.setIfInBounds_toArray, List.set_cons_zero, List.set_cons_succ]
 refine mid_one fun K' hK' => ?_
 rw [if_pos (by rfl)]
 go_simp
 refine hK' _ _ ⟨cellAl E1 _, cellAl E3 _⟩ ?_
 clear hK' K'
 show wpList _ _ _ _ _ _
 obtain ⟨Y, hY, DY, bY, sY⟩ := boxedN X.drew #[.bool false, (.slice (some ⟨kb, ko, none⟩) i kc), (.slice none 0 0), (.slice (some ⟨db, dO, none⟩) (i + 1) dc)] 79
 have bXY := hXd.out.trans (bY.mono hXd.out.size)
 have HY := hide (And.intro (And.intro ((bXY.block _ (lt_of_block HD.out.1)).trans HD.out.1) (And.intro ((bXY.block _ (lt_of_block HD.out.2.1)).trans HD.out.2.1) ((bXY.block _ (lt_of_block HD.out.2.2)).trans HD.out.2.2))) (And.intro DY bXY))
 have hsY : Hid (Y.heap.size = w.heap.size + 3 + 1) := by show _ = _; rw [sY]; show X.heap.size + 1 = _; rw [hsX.out]
 clear E0 E1 E2 E3 EF DY bY bXY sY
 go_upto_region 6 with fail
 have hY' : (X.alloc (.cells #[.bool false, (.slice (some ⟨kb, ko, none⟩) i kc), (.slice none 0 0), (.slice (some ⟨db, dO, none⟩) (i + 1) dc)] 79)).drew = Y := by rw [hY]; rfl
 rw [hY']
 clear hY'
 replace hY := hide hY
 -- the right part
 have hYd : Hid (Below Y.heap.size Y Y.drew) := below_drewN' Y 1 _
 obtain ⟨⟨E0, E1, E2, E3⟩, EF⟩ := cells4 (drewHeap HY.out.1.1)
 refine wp_region_mid (fun w' => w'.cell? ⟨w.heap.size, 1, none⟩ = some (.slice (some ⟨kb, ko, none⟩) K kc) ∧ w'.cell? ⟨w.heap.size, 3, none⟩ = some (.slice (some ⟨db, dO, none⟩) Z dc)) 11 12 mixed (by kernel_rfl) (fun _ _ _ _ h => h) ⟨E1, E3⟩ ?_
 dsimp only [List.take, List.drop]
 iterate 11
  refine take_one (v := ?_) (by rfl) ?_ ?_
  rotate_left
  ·rintro w' ⟨s1, s2⟩
   go_simp
   try with_reducible rfl
  try simp only [Act.put, List.setIfInBounds_toArray, List.set_cons_zero, List.set_cons_succ]
 refine mid_one fun K' hK' => ?_
 rw [if_pos (by rfl)]
 go_simp
 refine hK' _ _ ⟨cellAl E1 _, cellAl E3 _⟩ ?_
 clear hK' K'
 show wpList _ _ _ _ _ _
 obtain ⟨U, hU, DU, bU, sU⟩ := boxedN Y.drew #[.bool false, (.slice (some ⟨kb, ko + (i + 1), none⟩) (K - (i + 1)) (kc - (i + 1))), (.slice none 0 0), (.slice (some ⟨db, dO + (i + 1), none⟩) (Z - (i + 1)) (dc - (i + 1)))] 79
 have bYU := hYd.out.trans (bU.mono hYd.out.size)
 have bXU := HY.out.2.2.trans (bYU.mono HY.out.2.2.size)
 have DL := (bYU.block _ (lt_of_block HY.out.2.1)).trans HY.out.2.1
 have e3 : X.drew.heap.size = w.heap.size + 3 := hsX.out
 have e4 : Y.drew.heap.size = w.heap.size + 3 + 1 := hsY.out
 rw [e3] at DL
 rw [e4] at DU
 have HU := hide (And.intro (And.intro ((bYU.block _ (lt_of_block HY.out.1.1)).trans HY.out.1.1) (And.intro ((bYU.block _ (lt_of_block HY.out.1.2.1)).trans HY.out.1.2.1) ((bYU.block _ (lt_of_block HY.out.1.2.2)).trans HY.out.1.2.2))) (And.intro DL (And.intro DU bXU)))
 have hsU : Hid (U.heap.size = w.heap.size + 3 + 1 + 1) := by show _ = _; rw [sU, e4]
 clear E0 E1 E2 E3 EF DU DL bU bYU bXU sU HY
 go_upto_region 7 with fail
 have hU' : (Y.alloc (.cells #[.bool false, (.slice (some ⟨kb, ko + (i + 1), none⟩) (K - (i + 1)) (kc - (i + 1))), (.slice none 0 0), (.slice (some ⟨db, dO + (i + 1), none⟩) (Z - (i + 1)) (dc - (i + 1)))] 79)).drew = U := by rw [hU]; rfl
 rw [hU', hsY.out]
 clear hU'
 replace hU := hide hU
 clear e3 e4
 -- both are told
 have hUd : Hid (Below U.heap.size U U.drew) := below_drewN' U 1 _
 obtain ⟨Z', hZ'⟩ : ∃ Z, Z = U.drew := ⟨_, rfl⟩
 rw [← hZ'] at hUd
 obtain ⟨⟨E0, E1, E2, E3⟩, EF⟩ := cells4 ((hUd.out.block _ (lt_of_block HU.out.1.1)).trans HU.out.1.1)
 obtain ⟨⟨L0, L1, L2, L3⟩, LF⟩ := cells4 ((hUd.out.block _ (lt_of_block HU.out.2.1)).trans HU.out.2.1)
 obtain ⟨⟨R0, R1, R2, R3⟩, RF⟩ := cells4 ((hUd.out.block _ (lt_of_block HU.out.2.2.1)).trans HU.out.2.2.1)
 have R1' := (hUd.out.block _ (lt_of_block HU.out.1.2.1)).trans HU.out.1.2.1
 have R2' := (hUd.out.block _ (lt_of_block HU.out.1.2.2)).trans HU.out.1.2.2
 obtain ⟨⟨P0, P1, P2, P3⟩, PF⟩ := cells4 R1'
 have cx := (hUd.out.cell (Nat.lt_of_lt_of_le (cell_lt hcx) HU.out.2.2.2.size)).trans ((HU.out.2.2.2.cell (cell_lt hcx)).trans hcx)
 have hbw : kb < w.heap.size := hkbw.out
 obtain ⟨Q, hQ, q1, q2, q3⟩ := set8 (show w.heap.size + 1 ≠ w.heap.size + 2 by omega) R1' R2' ((HB.out.trans ((HU.out.2.2.2.trans (hUd.out.mono HU.out.2.2.2.size)).mono HB.out.size))) (show w.heap.size ≤ w.heap.size + 1 by omega) (show w.heap.size ≤ w.heap.size + 2 by omega) (.bool false) (.slice (some ⟨kb, ko, none⟩) i kc) (.slice none 0 0) (.slice (some ⟨db, dO, none⟩) (i + 1) dc) (.bool false) (.slice (some ⟨kb, ko + (i + 1), none⟩) (K - (i + 1)) (kc - (i + 1))) (.slice none 0 0) (.slice (some ⟨db, dO + (i + 1), none⟩) (Z - (i + 1)) (dc - (i + 1)))
 refine wp_region_mid (fun w' => (w'.cell? ⟨w.heap.size, 1, none⟩ = some (.slice (some ⟨kb, ko, none⟩) K kc) ∧ w'.cell? ⟨kb, ko + i, none⟩ = some (st x)) ∧ (w'.cell? ⟨w.heap.size + 3, 0, none⟩ = some (.bool false) ∧ w'.cell? ⟨w.heap.size + 3, 1, none⟩ = some (.slice (some ⟨kb, ko, none⟩) i kc) ∧ w'.cell? ⟨w.heap.size + 3, 2, none⟩ = some (.slice none 0 0) ∧ w'.cell? ⟨w.heap.size + 3, 3, none⟩ = some (.slice (some ⟨db, dO, none⟩) (i + 1) dc)) ∧
  (w'.cell? ⟨w.heap.size + 3 + 1, 0, none⟩ = some (.bool false) ∧ w'.cell? ⟨w.heap.size + 3 + 1, 1, none⟩ = some (.slice (some ⟨kb, ko + (i + 1), none⟩) (K - (i + 1)) (kc - (i + 1))) ∧ w'.cell? ⟨w.heap.size + 3 + 1, 2, none⟩ = some (.slice none 0 0) ∧ w'.cell? ⟨w.heap.size + 3 + 1, 3, none⟩ = some (.slice (some ⟨db, dO + (i + 1), none⟩) (Z - (i + 1)) (dc - (i + 1))))) 7 9 mixed (by kernel_rfl) (fun _ _ _ _ h => h) (by rw [← hZ']; exact ⟨⟨E1, cx⟩, ⟨L0, L1, L2, L3⟩, ⟨R0, R1, R2, R3⟩⟩) ?_
 dsimp only [List.take, List.drop]
 iterate 7
  refine take_one (v := ?_) (by rfl) ?_ ?_
  rotate_left
  ·rintro w' ⟨⟨s1, s2⟩, ⟨s3, s4, s5, s6⟩, ⟨s7, s8, s9, s10⟩⟩
   go_simp
   try with_reducible rfl
  try simp only [Act.put, List.setIfInBounds_toArray, List.set_cons_zero, List.set_cons_succ]
 rw [← hZ']
 replace hZ' := hide hZ'
 refine mid_one fun K' hK' => ?_
 rw [if_pos (by rfl)]
 go_simp
 have oth : ∀ (b j : Nat) (u : Value), Z'.cell? ⟨b, j, none⟩ = some u → b ≠ w.heap.size + 1 → (S4 (w.heap.size + 1) Z' (.bool false) (.slice (some ⟨kb, ko, none⟩) i kc) (.slice none 0 0) (.slice (some ⟨db, dO, none⟩) (i + 1) dc)).cell? ⟨b, j, none⟩ = some u := fun b j u hc hne => by
  have e9 := s4_other (w := Z') (g := w.heap.size + 1) (.bool false) (.slice (some ⟨kb, ko, none⟩) i kc) (.slice none 0 0) (.slice (some ⟨db, dO, none⟩) (i + 1) dc) hne
  simp only [World.cell?] at hc ⊢
  rw [e9]; exact hc
 refine hK' _ _ ⟨⟨oth _ _ _ E1 (by omega), oth _ _ _ cx (by omega)⟩, ⟨oth _ _ _ L0 (by omega), oth _ _ _ L1 (by omega), oth _ _ _ L2 (by omega), oth _ _ _ L3 (by omega)⟩, ⟨oth _ _ _ R0 (by omega), oth _ _ _ R1 (by omega), oth _ _ _ R2 (by omega), oth _ _ _ R3 (by omega)⟩⟩ ?_
 clear hK' K'
 refine mid_one fun K' hK' => ?_
 rw [if_pos (by rfl)]
 go_simp
 refine hK' _ _ ⟨⟨oth _ _ _ E1 (by omega), oth _ _ _ cx (by omega)⟩, ⟨oth _ _ _ L0 (by omega), oth _ _ _ L1 (by omega), oth _ _ _ L2 (by omega), oth _ _ _ L3 (by omega)⟩, ⟨oth _ _ _ R0 (by omega), oth _ _ _ R1 (by omega), oth _ _ _ R2 (by omega), oth _ _ _ R3 (by omega)⟩⟩ ?_
 clear hK' K'
 show wpList _ _ _ _ _ _
 have O2 : (S4 (w.heap.size + 1) Z' (.bool false) (.slice (some ⟨kb, ko, none⟩) i kc) (.slice none 0 0) (.slice (some ⟨db, dO, none⟩) (i + 1) dc)).heap[w.heap.size + 1 + 1]? = some (.cells #[.bool false, .slice none 0 0, .slice none 0 0, .slice none 0 0] 79 (0, 0)) := (s4_other _ _ _ _ (show w.heap.size + 1 + 1 ≠ w.heap.size + 1 by omega)).trans R2'
 obtain ⟨⟨M0, M1, M2, M3⟩, MF⟩ := cells4 O2
 have FIN : Hid (RdK Q (.slice (some ⟨kb, ko, none⟩) i kc) (.slice none 0 0) (.slice (some ⟨db, dO, none⟩) (i + 1) dc) (cutL n i) ∧ RdK Q (.slice (some ⟨kb, ko + (i + 1), none⟩) (K - (i + 1)) (kc - (i + 1))) (.slice none 0 0) (.slice (some ⟨db, dO + (i + 1), none⟩) (Z - (i + 1)) (dc - (i + 1))) (cutR n i)) := ⟨HRR.out.1.to q3, HRR.out.2.to q3⟩
 have HQ1 := hide q1
 have HQ2 := hide q2
 have HQ3 := hide q3
 rw [hQ] at HQ1 HQ2 HQ3 FIN
 clear E0 E1 E2 E3 EF L0 L1 L2 L3 LF R0 R1 R2 R3 RF P0 P1 P2 P3 PF R1' R2' cx oth q1 q2 q3 hQ O2
 go_wp2
 refine retNTN rfl rfl (w.heap.size + 1) (w.heap.size + 2) rfl rfl _ _ _ _ (0, 0) (0, 0) HQ1.out HQ2.out _ _ Try.underlying79 rfl info_nd10 Try.underlying79 rfl info_nd10 _ rfl ?_
 refine ⟨_, _, _, _, _, _, ?_, FIN.out.1, FIN.out.2, HQ3.out⟩
 rw [hgd.out, hcl.out.1, hcl.out.2]
 rfl
set_option maxRecDepth 100000 in
set_option maxHeartbeats 8000000 in
theorem pcut_innB (w : World) (n : Nd) (kv vv dv : Value) (i : Nat) (h0 : RdK w kv vv dv n) (hi : i < n.keys.length) (hl : n.keys.length ≤ 1000) (hlf : n.leaf = false) (hkd : n.kids.length = n.keys.length + 1) (hq : ∃ a, kv = .slice a n.keys.length (i + 1)) :
  Calls Try.prog 95 #[nv n kv vv dv, .int .i64 (i : Int)] w fun e w' => CutR w w' n i e := by
 have hr := h0.rd
 obtain ⟨ka, kc, va, vc, da, dc, rfl, rfl, rfl⟩ := hr.slices
 obtain ⟨x, hx⟩ : ∃ x, n.keys[i]? = some x := ⟨_, List.getElem?_eq_getElem hi⟩
 have hgd : n.keys.getD i [] = x := by rw [List.getD_eq_getElem?_getD, hx]; rfl
 obtain ⟨X, hX, D0, D1, D2, bX, sX⟩ := boxes4s w (.bool n.leaf) (.slice ka n.keys.length kc) (.slice va n.vals.length vc) (.slice da n.kids.length dc) 79
 have hkc := rdS_cap hr.keys
 obtain ⟨kb, ko, rfl, hcx⟩ := hr.keys.strAt hx
 have hkbw : Hid (kb < w.heap.size) := cell_lt hcx
 replace hcx := (bX.cell (cell_lt hcx)).trans hcx
 have hkc9 : kc = i + 1 := by
  obtain ⟨a9, e9⟩ := hq
  simp only [Value.slice.injEq] at e9
  exact e9.2.2
 clear hq
 subst hkc9
 have hkl : n.keys.length = i + 1 := by omega
 have hdc := rdS_cap hr.kids
 obtain ⟨y, hy⟩ : ∃ y, n.kids[0]? = some y := ⟨_, List.getElem?_eq_getElem (by omega)⟩
 obtain ⟨db, dO, rfl, hvx⟩ := hr.kids.intAt hy
 have hcv : ¬ dc = i + 1 := by omega
 have RL : RdK w (.slice (some ⟨kb, ko, none⟩) i (i + 1)) (.slice none 0 0) (.slice (some ⟨db, dO, none⟩) (i + 1) dc) (cutL n i) := by
  unfold cutL
  rw [hlf, if_neg (by decide)]
  exact ⟨⟨rdS_front hr.keys (by omega), rd_nilT _, rdS_front hr.kids (by omega)⟩, h0.tk.same _ _, TyB.nil _ _ _ _, h0.td.same _ _⟩
 have RR : RdK w (.slice (some ⟨kb, ko, none⟩) 0 0) (.slice none 0 0) (.slice (some ⟨db, dO + (i + 1), none⟩) (n.kids.length - (i + 1)) (dc - (i + 1))) (cutR n i) := by
  unfold cutR
  rw [hlf, if_neg (by decide)]
  have e0 : n.keys.drop (i + 1) = [] := List.drop_of_length_le (by omega)
  refine ⟨⟨?_, rd_nilT _, rdS_back rfl hr.kids (by omega) hcv⟩, h0.tk.part rfl, TyB.nil _ _ _ _, h0.td.part rfl⟩
  show RdT _ _ (n.keys.drop (i + 1))
  rw [e0]
  exact ⟨_, 0, rfl, by simp, by decide, (fun h => by cases h), .inl rfl⟩
 have HRR := hide (And.intro RL RR)
 obtain ⟨⟨E0, E1, E2, E3⟩, EF⟩ := cells4 D0
 have HD := hide (And.intro D0 (And.intro D1 D2))
 have HB := hide bX
 have hsX := hide sX
 obtain ⟨K, hK⟩ : ∃ K, K = n.keys.length := ⟨_, rfl⟩
 obtain ⟨V, hV⟩ : ∃ K, K = n.vals.length := ⟨_, rfl⟩
 obtain ⟨Z, hZ⟩ : ∃ K, K = n.kids.length := ⟨_, rfl⟩
 rw [← hK] at hi hl hX HD E1 hkc
 (try rw [← hK] at HRR)
 simp only [← hV, ← hZ] at hX HRR HD E2 E3
 dsimp only [nv]
 rw [← hK, ← hV, ← hZ]
 obtain rfl : K = i + 1 := by omega
 have hcl := hide (show (∀ a b c, nv (cutL n i) a b c = .agg #[.bool false, a, b, c]) ∧ ∀ a b c, nv (cutR n i) a b c = .agg #[.bool false, a, b, c] by unfold cutL cutR; rw [hlf]; exact ⟨fun _ _ _ => rfl, fun _ _ _ => rfl⟩)
 have g2 : i + 1 ≤ Z := by rw [hZ, hkd]; omega
 have g4 : i + 1 ≤ dc := by omega
 have g5 : IntKind.i64.wrap ((i : Int) + 1) = (i : Int) + 1 := IntWalk.i64_in _ (by omega)
 have g6 : (0 : Int) ≤ (i : Int) + 1 := by omega
 have g7 : ((i : Int) + 1).toNat = i + 1 := by omega
 have g8 : (i : Int) + 1 ≤ (Z : Int) := by omega
 have g9 : (i : Int) + 1 ≤ (dc : Int) := by omega
 have g1 : (i : Int) ≤ (i : Int) + 1 := by omega
 have g3 : (i : Int) < (i : Int) + 1 := by omega
 rw [hlf] at hX HD E0 ⊢
 have hXd : Hid (Below X.heap.size X X.drew) := below_drewN' X 1 _
 rw [hX] at E0 E1 E2 E3 EF
 replace hK := hide hK
 replace hV := hide hV
 replace hZ := hide hZ
 replace hgd := hide hgd
 replace hlf := hide hlf
 replace hx := hide hx
 clear D0 D1 D2 bX hr h0 RL RR hy hvx hdc hkd hkl
 go_enter Try.func95, Try.ntmps95
 go_upto_region 5 with fail
 rw [← hX]
 replace hX := hide hX
 clear E0 E1 E2 E3 EF
 -- the left part
 obtain ⟨⟨E0, E1, E2, E3⟩, EF⟩ := cells4 (drewHeap HD.out.1)
 refine wp_region_mid (fun w' => w'.cell? ⟨w.heap.size, 1, none⟩ = some (.slice (some ⟨kb, ko, none⟩) (i + 1) (i + 1)) ∧ w'.cell? ⟨w.heap.size, 3, none⟩ = some (.slice (some ⟨db, dO, none⟩) Z dc)) 10 11 mixed (by kernel_rfl) (fun _ _ _ _ h => h) ⟨E1, E3⟩ ?_
 dsimp only [List.take, List.drop]
 iterate 10
  refine take_one (v := ?_) (by rfl) ?_ ?_
  rotate_left
  ·rintro w' ⟨s1, s2⟩
   go_simp
   try with_reducible rfl
  try simp only [Act.put, List.setIfInBounds_toArray, List.set_cons_zero, List.set_cons_succ]
 refine mid_one fun K' hK' => ?_
 rw [if_pos (by rfl)]
 go_simp
 refine hK' _ _ ⟨cellAl E1 _, cellAl E3 _⟩ ?_
 clear hK' K'
 show wpList _ _ _ _ _ _
 obtain ⟨Y, hY, DY, bY, sY⟩ := boxedN X.drew #[.bool false, (.slice (some ⟨kb, ko, none⟩) i (i + 1)), (.slice none 0 0), (.slice (some ⟨db, dO, none⟩) (i + 1) dc)] 79
 have bXY := hXd.out.trans (bY.mono hXd.out.size)
 have HY := hide (And.intro (And.intro ((bXY.block _ (lt_of_block HD.out.1)).trans HD.out.1) (And.intro ((bXY.block _ (lt_of_block HD.out.2.1)).trans HD.out.2.1) ((bXY.block _ (lt_of_block HD.out.2.2)).trans HD.out.2.2))) (And.intro DY bXY))
 have hsY : Hid (Y.heap.size = w.heap.size + 3 + 1) := by show _ = _; rw [sY]; show X.heap.size + 1 = _; rw [hsX.out]
 clear E0 E1 E2 E3 EF DY bY bXY sY
 go_upto_region 6 with fail
 have hY' : (X.alloc (.cells #[.bool false, (.slice (some ⟨kb, ko, none⟩) i (i + 1)), (.slice none 0 0), (.slice (some ⟨db, dO, none⟩) (i + 1) dc)] 79)).drew = Y := by rw [hY]; rfl
 rw [hY']
 clear hY'
 replace hY := hide hY
 -- the right part
 have hYd : Hid (Below Y.heap.size Y Y.drew) := below_drewN' Y 1 _
 obtain ⟨⟨E0, E1, E2, E3⟩, EF⟩ := cells4 (drewHeap HY.out.1.1)
 refine wp_region_mid (fun w' => w'.cell? ⟨w.heap.size, 1, none⟩ = some (.slice (some ⟨kb, ko, none⟩) (i + 1) (i + 1)) ∧ w'.cell? ⟨w.heap.size, 3, none⟩ = some (.slice (some ⟨db, dO, none⟩) Z dc)) 11 12 mixed (by kernel_rfl) (fun _ _ _ _ h => h) ⟨E1, E3⟩ ?_
 dsimp only [List.take, List.drop]
 iterate 11
  refine take_one (v := ?_) (by rfl) ?_ ?_
  rotate_left
  ·rintro w' ⟨s1, s2⟩
   go_simp
   try with_reducible rfl
  try simp only [Act.put, List.setIfInBounds_toArray, List.set_cons_zero, List.set_cons_succ]
 refine mid_one fun K' hK' => ?_
 rw [if_pos (by rfl)]
 go_simp
 refine hK' _ _ ⟨cellAl E1 _, cellAl E3 _⟩ ?_
 clear hK' K'
 show wpList _ _ _ _ _ _
 obtain ⟨U, hU, DU, bU, sU⟩ := boxedN Y.drew #[.bool false, (.slice (some ⟨kb, ko, none⟩) 0 0), (.slice none 0 0), (.slice (some ⟨db, dO + (i + 1), none⟩) (Z - (i + 1)) (dc - (i + 1)))] 79
 have bYU := hYd.out.trans (bU.mono hYd.out.size)
 have bXU := HY.out.2.2.trans (bYU.mono HY.out.2.2.size)
 have DL := (bYU.block _ (lt_of_block HY.out.2.1)).trans HY.out.2.1
 have e3 : X.drew.heap.size = w.heap.size + 3 := hsX.out
 have e4 : Y.drew.heap.size = w.heap.size + 3 + 1 := hsY.out
 rw [e3] at DL
 rw [e4] at DU
 have HU := hide (And.intro (And.intro ((bYU.block _ (lt_of_block HY.out.1.1)).trans HY.out.1.1) (And.intro ((bYU.block _ (lt_of_block HY.out.1.2.1)).trans HY.out.1.2.1) ((bYU.block _ (lt_of_block HY.out.1.2.2)).trans HY.out.1.2.2))) (And.intro DL (And.intro DU bXU)))
 have hsU : Hid (U.heap.size = w.heap.size + 3 + 1 + 1) := by show _ = _; rw [sU, e4]
 clear E0 E1 E2 E3 EF DU DL bU bYU bXU sU HY
 go_upto_region 7 with fail
 have hU' : (Y.alloc (.cells #[.bool false, (.slice (some ⟨kb, ko, none⟩) 0 0), (.slice none 0 0), (.slice (some ⟨db, dO + (i + 1), none⟩) (Z - (i + 1)) (dc - (i + 1)))] 79)).drew = U := by rw [hU]; rfl
 rw [hU', hsY.out]
 clear hU'
 replace hU := hide hU
 clear e3 e4
 -- both are told
 have hUd : Hid (Below U.heap.size U U.drew) := below_drewN' U 1 _
 obtain ⟨Z', hZ'⟩ : ∃ Z, Z = U.drew := ⟨_, rfl⟩
 rw [← hZ'] at hUd
 obtain ⟨⟨E0, E1, E2, E3⟩, EF⟩ := cells4 ((hUd.out.block _ (lt_of_block HU.out.1.1)).trans HU.out.1.1)
 obtain ⟨⟨L0, L1, L2, L3⟩, LF⟩ := cells4 ((hUd.out.block _ (lt_of_block HU.out.2.1)).trans HU.out.2.1)
 obtain ⟨⟨R0, R1, R2, R3⟩, RF⟩ := cells4 ((hUd.out.block _ (lt_of_block HU.out.2.2.1)).trans HU.out.2.2.1)
 have R1' := (hUd.out.block _ (lt_of_block HU.out.1.2.1)).trans HU.out.1.2.1
 have R2' := (hUd.out.block _ (lt_of_block HU.out.1.2.2)).trans HU.out.1.2.2
 obtain ⟨⟨P0, P1, P2, P3⟩, PF⟩ := cells4 R1'
 have cx := (hUd.out.cell (Nat.lt_of_lt_of_le (cell_lt hcx) HU.out.2.2.2.size)).trans ((HU.out.2.2.2.cell (cell_lt hcx)).trans hcx)
 have hbw : kb < w.heap.size := hkbw.out
 obtain ⟨Q, hQ, q1, q2, q3⟩ := set8 (show w.heap.size + 1 ≠ w.heap.size + 2 by omega) R1' R2' ((HB.out.trans ((HU.out.2.2.2.trans (hUd.out.mono HU.out.2.2.2.size)).mono HB.out.size))) (show w.heap.size ≤ w.heap.size + 1 by omega) (show w.heap.size ≤ w.heap.size + 2 by omega) (.bool false) (.slice (some ⟨kb, ko, none⟩) i (i + 1)) (.slice none 0 0) (.slice (some ⟨db, dO, none⟩) (i + 1) dc) (.bool false) (.slice (some ⟨kb, ko, none⟩) 0 0) (.slice none 0 0) (.slice (some ⟨db, dO + (i + 1), none⟩) (Z - (i + 1)) (dc - (i + 1)))
 refine wp_region_mid (fun w' => (w'.cell? ⟨w.heap.size, 1, none⟩ = some (.slice (some ⟨kb, ko, none⟩) (i + 1) (i + 1)) ∧ w'.cell? ⟨kb, ko + i, none⟩ = some (st x)) ∧ (w'.cell? ⟨w.heap.size + 3, 0, none⟩ = some (.bool false) ∧ w'.cell? ⟨w.heap.size + 3, 1, none⟩ = some (.slice (some ⟨kb, ko, none⟩) i (i + 1)) ∧ w'.cell? ⟨w.heap.size + 3, 2, none⟩ = some (.slice none 0 0) ∧ w'.cell? ⟨w.heap.size + 3, 3, none⟩ = some (.slice (some ⟨db, dO, none⟩) (i + 1) dc)) ∧
  (w'.cell? ⟨w.heap.size + 3 + 1, 0, none⟩ = some (.bool false) ∧ w'.cell? ⟨w.heap.size + 3 + 1, 1, none⟩ = some (.slice (some ⟨kb, ko, none⟩) 0 0) ∧ w'.cell? ⟨w.heap.size + 3 + 1, 2, none⟩ = some (.slice none 0 0) ∧ w'.cell? ⟨w.heap.size + 3 + 1, 3, none⟩ = some (.slice (some ⟨db, dO + (i + 1), none⟩) (Z - (i + 1)) (dc - (i + 1))))) 7 9 mixed (by kernel_rfl) (fun _ _ _ _ h => h) (by rw [← hZ']; exact ⟨⟨E1, cx⟩, ⟨L0, L1, L2, L3⟩, ⟨R0, R1, R2, R3⟩⟩) ?_
 dsimp only [List.take, List.drop]
 iterate 7
  refine take_one (v := ?_) (by rfl) ?_ ?_
  rotate_left
  ·rintro w' ⟨⟨s1, s2⟩, ⟨s3, s4, s5, s6⟩, ⟨s7, s8, s9, s10⟩⟩
   go_simp
   try with_reducible rfl
  try simp only [Act.put, List.setIfInBounds_toArray, List.set_cons_zero, List.set_cons_succ]
 rw [← hZ']
 replace hZ' := hide hZ'
 refine mid_one fun K' hK' => ?_
 rw [if_pos (by rfl)]
 go_simp
 have oth : ∀ (b j : Nat) (u : Value), Z'.cell? ⟨b, j, none⟩ = some u → b ≠ w.heap.size + 1 → (S4 (w.heap.size + 1) Z' (.bool false) (.slice (some ⟨kb, ko, none⟩) i (i + 1)) (.slice none 0 0) (.slice (some ⟨db, dO, none⟩) (i + 1) dc)).cell? ⟨b, j, none⟩ = some u := fun b j u hc hne => by
  have e9 := s4_other (w := Z') (g := w.heap.size + 1) (.bool false) (.slice (some ⟨kb, ko, none⟩) i (i + 1)) (.slice none 0 0) (.slice (some ⟨db, dO, none⟩) (i + 1) dc) hne
  simp only [World.cell?] at hc ⊢
  rw [e9]; exact hc
 refine hK' _ _ ⟨⟨oth _ _ _ E1 (by omega), oth _ _ _ cx (by omega)⟩, ⟨oth _ _ _ L0 (by omega), oth _ _ _ L1 (by omega), oth _ _ _ L2 (by omega), oth _ _ _ L3 (by omega)⟩, ⟨oth _ _ _ R0 (by omega), oth _ _ _ R1 (by omega), oth _ _ _ R2 (by omega), oth _ _ _ R3 (by omega)⟩⟩ ?_
 clear hK' K'
 refine mid_one fun K' hK' => ?_
 rw [if_pos (by rfl)]
 go_simp
 refine hK' _ _ ⟨⟨oth _ _ _ E1 (by omega), oth _ _ _ cx (by omega)⟩, ⟨oth _ _ _ L0 (by omega), oth _ _ _ L1 (by omega), oth _ _ _ L2 (by omega), oth _ _ _ L3 (by omega)⟩, ⟨oth _ _ _ R0 (by omega), oth _ _ _ R1 (by omega), oth _ _ _ R2 (by omega), oth _ _ _ R3 (by omega)⟩⟩ ?_
 clear hK' K'
 show wpList _ _ _ _ _ _
 have O2 : (S4 (w.heap.size + 1) Z' (.bool false) (.slice (some ⟨kb, ko, none⟩) i (i + 1)) (.slice none 0 0) (.slice (some ⟨db, dO, none⟩) (i + 1) dc)).heap[w.heap.size + 1 + 1]? = some (.cells #[.bool false, .slice none 0 0, .slice none 0 0, .slice none 0 0] 79 (0, 0)) := (s4_other _ _ _ _ (show w.heap.size + 1 + 1 ≠ w.heap.size + 1 by omega)).trans R2'
 obtain ⟨⟨M0, M1, M2, M3⟩, MF⟩ := cells4 O2
 have FIN : Hid (RdK Q (.slice (some ⟨kb, ko, none⟩) i (i + 1)) (.slice none 0 0) (.slice (some ⟨db, dO, none⟩) (i + 1) dc) (cutL n i) ∧ RdK Q (.slice (some ⟨kb, ko, none⟩) 0 0) (.slice none 0 0) (.slice (some ⟨db, dO + (i + 1), none⟩) (Z - (i + 1)) (dc - (i + 1))) (cutR n i)) := ⟨HRR.out.1.to q3, HRR.out.2.to q3⟩
 have HQ1 := hide q1
 have HQ2 := hide q2
 have HQ3 := hide q3
 rw [hQ] at HQ1 HQ2 HQ3 FIN
 clear E0 E1 E2 E3 EF L0 L1 L2 L3 LF R0 R1 R2 R3 RF P0 P1 P2 P3 PF R1' R2' cx oth q1 q2 q3 hQ O2
 go_wp2
 refine retNTN rfl rfl (w.heap.size + 1) (w.heap.size + 2) rfl rfl _ _ _ _ (0, 0) (0, 0) HQ1.out HQ2.out _ _ Try.underlying79 rfl info_nd10 Try.underlying79 rfl info_nd10 _ rfl ?_
 refine ⟨_, _, _, _, _, _, ?_, FIN.out.1, FIN.out.2, HQ3.out⟩
 rw [hgd.out, hcl.out.1, hcl.out.2]
 rfl
theorem pcut_any (w : World) (n : Nd) (kv vv dv : Value) (i : Nat) (h : RdK w kv vv dv n) (hi : i < n.keys.length) (hl : n.keys.length ≤ 1000) (hc : (n.leaf = true ∧ n.vals.length = n.keys.length) ∨ (n.leaf = false ∧ n.kids.length = n.keys.length + 1)) :
  Calls Try.prog 95 #[nv n kv vv dv, .int .i64 (i : Int)] w fun e w' => CutR w w' n i e := by
 rcases hc with ⟨h1, h2⟩ | ⟨h1, h2⟩
 ·exact pcut_leaf w n kv vv dv i h hi hl h1 h2
 ·obtain ⟨a, c, rfl⟩ := h.rd.keys.slice
  by_cases hq : c = i + 1
  ·subst hq
   exact pcut_innB w n _ vv dv i h hi hl h1 h2 ⟨a, rfl⟩
  ·refine pcut_innA w n _ vv dv i h hi hl h1 h2 fun a' c' e => ?_
   simp only [Value.slice.injEq] at e
   rw [← e.2.2]
   exact hq
end Go.Proofs.Ytmmjdacjcipgjaa

namespace Go.Proofs.Ytmmjdacjcipgjaa
open Go.RowKit
theorem midTo_succ (n : Nd) (k : Nat) : midTo n (k + 1) = if cutG n k < (midTo n k).2 then (k, cutG n k) else midTo n k := rfl
structure NBd (n : Nd) : Prop where
 self : 0 ≤ nsize n ∧ nsize n ≤ 1000000
 left : ∀ i, i < n.keys.length → 0 ≤ nsize (cutL n i) ∧ nsize (cutL n i) ≤ 1000000
 right : ∀ i, i < n.keys.length → 0 ≤ nsize (cutR n i) ∧ nsize (cutR n i) ≤ 1000000
set_option maxRecDepth 100000 in
set_option maxHeartbeats 4000000 in
theorem pmid_any (w : World) (n : Nd) (kv vv dv : Value) (h : RdK w kv vv dv n) (hl : n.keys.length ≤ 1000) (hc : (n.leaf = true ∧ n.vals.length = n.keys.length) ∨ (n.leaf = false ∧ n.kids.length = n.keys.length + 1)) (hbd : NBd n) :
  Calls Try.prog 96 #[nv n kv vv dv] w fun e w' => e = .returned (.int .i64 (midOf n : Int)) ∧ Below w.heap.size w w' := by
 obtain ⟨ka, kc, va, vc, da, dc, rfl, rfl, rfl⟩ := h.rd.slices
 obtain ⟨W, hW, DW, bW, sW⟩ := boxedN w #[.bool n.leaf, .slice ka n.keys.length kc, .slice va n.vals.length vc, .slice da n.kids.length dc] 79
 have HN := hide (h.to bW)
 have KS := hide (psize9_any W _ _ _ n HN.out.rd)
 obtain ⟨⟨E0, E1, E2, E3⟩, EF⟩ := cells4 DW
 have HD := hide DW
 have HB := hide bW
 replace hbd := hide hbd
 replace hc := hide hc
 rw [hW] at E0 E1 E2 E3 EF KS
 dsimp only [nv] at KS ⊢
 clear h DW bW
 have hmd : Hid (midOf n = (midTo n n.keys.length).1) := rfl
 have hbs := hide (And.intro hbd.out.self (And.intro hbd.out.left hbd.out.right))
 generalize hK : n.keys.length = K at *
 replace hK := hide hK
 go_enter Try.func96, Try.ntmps96
 go_wp2_with fail
 refine KS.out.mono ?_
 rintro e w1 ⟨rfl, b1⟩
 rw [← hW] at b1
 replace hW := hide hW
 clear E0 E1 E2 E3 EF KS
 have hws : wrap64 (nsize n) = nsize n := by have := hbd.out.self; unfold wrap64; omega
 rw [hws]
 have D1 := (b1.block _ (lt_of_block HD.out)).trans HD.out
 obtain ⟨⟨E0, E1, E2, E3⟩, EF⟩ := cells4 D1
 have HI : Hid (Below W.heap.size W w1) := b1
 have hm0 : Hid (midTo n 0 = (0, nsize n)) := rfl
 clear D1 b1 hws
 go_wp2_with fail
 clear E0 E1 E2 E3 EF
 go_loopw [3, 4, 15] (fun bst lst p wr => ∃ k : Nat, k ≤ K ∧ p = .int .i64 k ∧ bst = .int .i64 ((midTo n k).1 : Int) ∧ lst = .int .i64 (midTo n k).2 ∧ Hid (Below W.heap.size W wr)) (fun _ _ p _ => K - (intOf p).toNat)
 case atStart => exact ⟨0, Nat.zero_le _, rfl, rfl, rfl, HI⟩
 case round =>
  obtain ⟨k, hk, rfl, rfl, rfl, hI⟩ := hrel
  clear HI
  by_cases hlt : k < K
  ·have hq : (k : Int) < (K : Int) := by omega
   have D1 := (hI.out.block _ (lt_of_block HD.out)).trans HD.out
   obtain ⟨⟨E0, E1, E2, E3⟩, EF⟩ := cells4 D1
   have KC := hide (pcut_any wr n _ _ _ k (HN.out.to hI.out) (by rw [hK.out]; exact hlt) (by rw [hK.out]; exact hl) (by rw [hK.out]; exact hc.out))
   have gL := hbs.out.2.1 k hlt
   have gR := hbs.out.2.2 k hlt
   have hms := hide (midTo_succ n k)
   dsimp only [nv] at KC
   clear D1
   go_wp2_with fail
   refine KC.out.mono ?_
   rintro e w2 ⟨k1, v1, d1, k2, v2, d2, rfl, r1, r2, b2⟩
   clear E0 E1 E2 E3 EF KC
   have B2 := hide (hI.out.trans (b2.mono hI.out.size))
   obtain ⟨k1a, k1c, v1a, v1c, d1a, d1c, rfl, rfl, rfl⟩ := r1.rd.slices
   obtain ⟨k2a, k2c, v2a, v2c, d2a, d2c, rfl, rfl, rfl⟩ := r2.rd.slices
   obtain ⟨Y1, hY1, DY1, bY1, sY1⟩ := boxedN w2 #[.bool (cutL n k).leaf, .slice k1a (cutL n k).keys.length k1c, .slice v1a (cutL n k).vals.length v1c, .slice d1a (cutL n k).kids.length d1c] 79
   obtain ⟨Y2, hY2, DY2, bY2, sY2⟩ := boxedN Y1 #[.bool (cutR n k).leaf, .slice k2a (cutR n k).keys.length k2c, .slice v2a (cutR n k).vals.length v2c, .slice d2a (cutR n k).kids.length d2c] 79
   rw [sY1] at DY2
   have bY := bY1.trans (bY2.mono bY1.size)
   have HY := hide (And.intro ((bY2.block _ (lt_of_block DY1)).trans DY1) (And.intro DY2 (And.intro (r1.to bY) (And.intro (r2.to bY) (B2.out.trans (bY.mono B2.out.size))))))
   clear DY1 DY2 bY1 bY2 bY r1 r2 b2 hI
   dsimp only [nv]
   go_upto_region 6 with fail
   rw [← hY1, ← hY2]
   replace hY1 := hide hY1
   replace hY2 := hide hY2
   obtain ⟨D1, D2, r1, r2, bB⟩ := HY.out
   have b0 : Below Y2.heap.size Y2 Y2.drew := below_drewN' Y2 1 _
   obtain ⟨X1, hX1⟩ : ∃ X, X = Y2.drew := ⟨_, rfl⟩
   rw [← hX1] at b0
   have HR := hide (And.intro (r1.to b0) (r2.to b0))
   have HS : Hid (∀ u, Below Y2.heap.size Y2 u → (Y2.heap.size ≤ u.heap.size) ∧ u.heap[w2.heap.size]? = some (.cells #[.bool (cutL n k).leaf, .slice k1a (cutL n k).keys.length k1c, .slice v1a (cutL n k).vals.length v1c, .slice d1a (cutL n k).kids.length d1c] 79 (0, 0)) ∧ u.heap[w2.heap.size + 1]? = some (.cells #[.bool (cutR n k).leaf, .slice k2a (cutR n k).keys.length k2c, .slice v2a (cutR n k).vals.length v2c, .slice d2a (cutR n k).kids.length d2c] 79 (0, 0))) := fun u bu => ⟨bu.size, (bu.block _ (lt_of_block D1)).trans D1, (bu.block _ (lt_of_block D2)).trans D2⟩
   have K1 := hide (psize9_any X1 _ _ _ (cutL n k) HR.out.1.rd)
   have K2 : Hid (∀ u, Below X1.heap.size X1 u → _) := fun u bu => psize9_any u _ _ _ (cutR n k) (HR.out.2.to bu).rd
   dsimp only [nv] at K1 K2
   have w1s : wrap64 (nsize (cutL n k)) = nsize (cutL n k) := by unfold wrap64; omega
   have w2s : wrap64 (nsize (cutR n k)) = nsize (cutR n k) := by unfold wrap64; omega
   rw [w1s] at K1
   simp only [w2s] at K2
   have hG : Hid (cutG n k = max (nsize (cutL n k)) (nsize (cutR n k))) := rfl
   generalize nsize (cutL n k) = N1 at *
   generalize nsize (cutR n k) = N2 at *
   generalize (cutL n k).keys.length = A1 at *
   generalize (cutL n k).vals.length = A2 at *
   generalize (cutL n k).kids.length = A3 at *
   generalize (cutR n k).keys.length = B1 at *
   generalize (cutR n k).vals.length = B2 at *
   generalize (cutR n k).kids.length = B3 at *
   clear w1s w2s
   have HSS : Hid (∀ w', Below Y2.heap.size Y2 w' → (w'.cell? ⟨w2.heap.size, 0, none⟩ = some (.bool (cutL n k).leaf) ∧ w'.cell? ⟨w2.heap.size, 1, none⟩ = some (.slice k1a A1 k1c) ∧ w'.cell? ⟨w2.heap.size, 2, none⟩ = some (.slice v1a A2 v1c) ∧ w'.cell? ⟨w2.heap.size, 3, none⟩ = some (.slice d1a A3 d1c)) ∧ (w'.cell? ⟨w2.heap.size + 1, 0, none⟩ = some (.bool (cutR n k).leaf) ∧ w'.cell? ⟨w2.heap.size + 1, 1, none⟩ = some (.slice k2a B1 k2c) ∧ w'.cell? ⟨w2.heap.size + 1, 2, none⟩ = some (.slice v2a B2 v2c) ∧ w'.cell? ⟨w2.heap.size + 1, 3, none⟩ = some (.slice d2a B3 d2c))) := fun u bu => by
    obtain ⟨_, q1, q2⟩ := HS.out u bu
    exact ⟨(cells4 q1).1, (cells4 q2).1⟩
   have B3' := hide bB
   clear D1 D2 r1 r2 bB HY HS
   refine wp_region_sched (fun w' => (w'.cell? ⟨w2.heap.size, 0, none⟩ = some (.bool (cutL n k).leaf) ∧ w'.cell? ⟨w2.heap.size, 1, none⟩ = some (.slice k1a A1 k1c) ∧ w'.cell? ⟨w2.heap.size, 2, none⟩ = some (.slice v1a A2 v1c) ∧ w'.cell? ⟨w2.heap.size, 3, none⟩ = some (.slice d1a A3 d1c)) ∧ (w'.cell? ⟨w2.heap.size + 1, 0, none⟩ = some (.bool (cutR n k).leaf) ∧ w'.cell? ⟨w2.heap.size + 1, 1, none⟩ = some (.slice k2a B1 k2c) ∧ w'.cell? ⟨w2.heap.size + 1, 2, none⟩ = some (.slice v2a B2 v2c) ∧ w'.cell? ⟨w2.heap.size + 1, 3, none⟩ = some (.slice d2a B3 d2c))) [(0, true), (2, true), (1, false), (3, false)] 4 mixed (by kernel_rfl) (fun _ _ _ _ h => h) ?_
   rw [← hX1]
   replace hX1 := hide hX1
   iterate 2
    refine sched_take (v := ?_) rfl (by kernel_rfl) (HSS.out _ b0) ?_ ?_
    rotate_left
    ·rintro w' ⟨⟨s1, s2, s3, s4⟩, ⟨t1, t2, t3, t4⟩⟩
     go_simp
     try with_reducible rfl
    try simp only [Act.put, List.setIfInBounds_toArray, List.set_cons_zero, List.set_cons_succ]
   refine sched_run rfl (by kernel_rfl) fun K' hK' => ?_
   refine wp_call_of 79 _ _ (by rfl) _ (by simp [Act.eval]) (Try.call79 _ _) K1.out ?_
   rintro e w4 ⟨rfl, b4⟩
   have b04 := b0.trans (b4.mono b0.size)
   refine ⟨_, rfl, hK' _ _ (HSS.out _ b04) ?_⟩
   clear hK' K'
   try simp only [Act.put, List.setIfInBounds_toArray, List.set_cons_zero, List.set_cons_succ]
   refine sched_run rfl (by kernel_rfl) fun K' hK' => ?_
   refine wp_call_of 79 _ _ (by rfl) _ (by simp [Act.eval]) (Try.call79 _ _) (K2.out w4 b4) ?_
   rintro e w5 ⟨rfl, b5⟩
   have b05 := b04.trans (b5.mono b04.size)
   refine ⟨_, rfl, hK' _ _ (HSS.out _ b05) ?_⟩
   clear hK' K'
   try simp only [Act.put, List.setIfInBounds_toArray, List.set_cons_zero, List.set_cons_succ]
   show wpList _ _ _ _ _ _
   dsimp only [List.drop]
   have B5 := hide (B3'.out.trans (b05.mono B3'.out.size))
   clear b4 b04 b5 b05 b0 K1 K2 HSS B3' HR
   obtain ⟨⟨M1, M2⟩, hM⟩ : ∃ q, q = midTo n k := ⟨_, rfl⟩
   rw [← hM]
   dsimp only
   replace hM := hide hM.symm
   by_cases hmx : N1 ≤ N2
   ·by_cases hcp : N2 < M2
    ·have hz : Hid (midTo n (k + 1) = (k, N2)) := by
      show _ = _
      rw [hms.out, hG.out, hM.out]
      dsimp only
      rw [show max N1 N2 = N2 by omega]
      exact if_pos hcp
     go_wp2
     go_roundw
     case rel => exact ⟨k + 1, by omega, by go_num, by rw [hz.out], by first | (rw [hz.out]; done) | (rw [hz.out]; dsimp only; congr 1; split <;> omega), B5⟩
     case measure => simp [intOf]; omega
    ·skip
     have hz : Hid (midTo n (k + 1) = (M1, M2)) := by
      show _ = _
      rw [hms.out, hG.out, hM.out]
      dsimp only
      rw [show max N1 N2 = N2 by omega]
      exact if_neg hcp
     go_wp2
     go_roundw
     case rel => exact ⟨k + 1, by omega, by go_num, by rw [hz.out], by first | (rw [hz.out]; done) | (rw [hz.out]; dsimp only; congr 1; split <;> omega), B5⟩
     case measure => simp [intOf]; omega
   ·have hmx' : N2 < N1 := by omega
    by_cases hcp : N1 < M2
    ·skip
     have hz : Hid (midTo n (k + 1) = (k, N1)) := by
      show _ = _
      rw [hms.out, hG.out, hM.out]
      dsimp only
      rw [show max N1 N2 = N1 by omega]
      exact if_pos hcp
     go_wp2
     go_roundw
     case rel => exact ⟨k + 1, by omega, by go_num, by rw [hz.out], by first | (rw [hz.out]; done) | (rw [hz.out]; dsimp only; congr 1; split <;> omega), B5⟩
     case measure => simp [intOf]; omega
    ·skip
     have hz : Hid (midTo n (k + 1) = (M1, M2)) := by
      show _ = _
      rw [hms.out, hG.out, hM.out]
      dsimp only
      rw [show max N1 N2 = N1 by omega]
      exact if_neg hcp
     go_wp2
     go_roundw
     case rel => exact ⟨k + 1, by omega, by go_num, by rw [hz.out], by first | (rw [hz.out]; done) | (rw [hz.out]; dsimp only; congr 1; split <;> omega), B5⟩
     case measure => simp [intOf]; omega
  ·have hq : ¬ (k : Int) < (K : Int) := by omega
   obtain rfl : k = K := by omega
   have hr : Hid (((midTo n k).1 : Int) = (midOf n : Int)) := by show _ = _; rw [hmd.out]
   have BB := hide (HB.out.trans (hI.out.mono HB.out.size))
   go_wp2
   go_ret
   exact ⟨ret_i9 hr.out, BB.out⟩
end Go.Proofs.Ytmmjdacjcipgjaa

namespace Go.Proofs.Ytmmjdacjcipgjaa
open Go.RowKit
theorem wpList_appS {ops : Array Oper} {rest : List Oper} {o : Oper} {a : Act} {w : World} {Q : Exit → Act → World → Prop} (hgd : o.guard = none) (s x : Operand)
  (ho : o.op = .call { callee := .builtin .append, args := #[s, x], argTypes := #[77, 77] }) (B : Nat) (v : Value) (xs : List Str) (y : Str) (g : Nat) (hs : a.eval s = v) (hx : a.eval x = .slice (some ⟨g, 0, none⟩) 1 1)
  (hown : OwnT B w v xs) (hc : w.cell? ⟨g, 0, none⟩ = some (st y)) (hlen : (xs.length + 1) * 16 ≤ 140737488355328) (hB : B ≤ w.heap.size)
  (h : ∀ g' cap w', OwnT B w' (.slice (some ⟨g', 0, none⟩) (xs.length + 1) cap) (xs ++ [y]) → w.grownBy w' v.ownBlock → (v.ownBlock = some g' ∨ g' = w.heap.size) → wpList Try.prog ops Q rest (a.put o.dst (.slice (some ⟨g', 0, none⟩) (xs.length + 1) cap)) w') : wpList Try.prog ops Q (o :: rest) a w := by
 obtain ⟨i0, hi, hz0, hz1, hz2⟩ := info_parts infoT
 have n2 : ∀ j u, ([y].map st)[j]? = some u → w.cell? ((⟨g, 0, none⟩ : Addr).add j) = some u := by
  intro j u hj
  match j, hj with
  | 0, hj => simp at hj; subst hj; simpa [Addr.add] using hc
  | j + 1, hj => simp at hj
 refine wpList_append_lies _ hgd s x 77 ho B 9 i0 (.string ⟨#[]⟩) 1 16 Try.underlying77 hi hz0 hz1 hz2 rfl (by decide) v xs.length (xs.map st) hs hown ⟨g, 0, none⟩ 1 1 ([y].map st) hx rfl n2
  (fun u hu => by simp at hu; subst hu; rfl) (by decide) (by rw [show maxLen = 9223372036854775807 from rfl]; omega) hlen hB _ rfl ?_
 intro g' cap w' h1 h2 h3 _
 refine h g' cap w' ?_ h2 h3
 show World.ownsRow _ _ _ _ _ _ _
 rw [List.map_append]
 simpa using h1
def InsR (B : Nat) (w w' : World) (v : Value) (xs : List Str) (e : Ending) : Prop := ∃ g' cap, e = .returned (.slice (some ⟨g', 0, none⟩) xs.length cap) ∧ OwnT B w' (.slice (some ⟨g', 0, none⟩) xs.length cap) xs ∧ w.grownBy w' v.ownBlock ∧ (v.ownBlock = some g' ∨ g' = w.heap.size)
set_option maxRecDepth 100000 in
set_option maxHeartbeats 4000000 in
theorem pins_end (B : Nat) (w : World) (v : Value) (xs : List Str) (y : Str) (gv : Nat) (h : OwnT B w v xs) (hc : w.cell? ⟨gv, 0, none⟩ = some (st y)) (hB : B ≤ w.heap.size) (hl : xs.length ≤ 1000000) :
  Calls Try.prog 38 #[v, .int .i64 (xs.length : Int), .slice (some ⟨gv, 0, none⟩) 1 1] w fun e w' => InsR B w w' v (xs ++ [y]) e := by
 obtain ⟨a, c, hv⟩ := h.rd.slice
 subst hv
 have hcap : xs.length ≤ c := by
  rcases h.2 with ⟨e, e2⟩ | ⟨g, cap, cur, e, _, _, hn, _⟩
  ·simp only [Value.slice.injEq] at e; omega
  ·simp only [Value.slice.injEq] at e; omega
 have hn : (xs.length + 1) * 16 ≤ 140737488355328 := by omega
 have hq : ((xs.length : Int) == (xs.length : Int)) = true := by simp
 have HC := hide hc
 by_cases hcc : c = xs.length
 ·subst hcc
  have HO := hide h
  clear h
  go_enter Try.func38, Try.ntmps38
  go_upto_region 7 with fail
  go_wp2_with (at_builtin; refine wpList_appS rfl _ _ rfl B _ xs y gv rfl rfl HO.out HC.out hn hB ?_; intro g' cap w' o5 g5 l5)
  have FF := hide (And.intro o5 (And.intro g5 l5))
  clear o5 g5 l5
  go_wp2
  go_ret
  refine ⟨g', cap, ?_, ?_, FF.out.2.1, FF.out.2.2⟩
  ·rw [List.length_append]; rfl
  ·rw [List.length_append]; exact FF.out.1
 ·have HO := hide h
  clear h
  go_enter Try.func38, Try.ntmps38
  go_upto_region 7 with fail
  go_wp2_with (at_builtin; refine wpList_appS rfl _ _ rfl B _ xs y gv rfl rfl HO.out HC.out hn hB ?_; intro g' cap w' o5 g5 l5)
  have FF := hide (And.intro o5 (And.intro g5 l5))
  clear o5 g5 l5
  go_wp2
  go_ret
  refine ⟨g', cap, ?_, ?_, FF.out.2.1, FF.out.2.2⟩
  ·rw [List.length_append]; rfl
  ·rw [List.length_append]; exact FF.out.1
end Go.Proofs.Ytmmjdacjcipgjaa

namespace Go.Proofs.Ytmmjdacjcipgjaa
open Go.RowKit
def seg (L : List Value) (o : Nat) (vs : List Value) : List Value := L.take o ++ vs ++ L.drop (o + vs.length)
theorem seg_len {L : List Value} {o : Nat} {vs : List Value} (h : o + vs.length ≤ L.length) : (seg L o vs).length = L.length := by
 unfold seg; simp; omega
theorem seg_at {L : List Value} {o : Nat} {vs : List Value} (h : o + vs.length ≤ L.length) {j : Nat} (hj : j < o ∨ o + vs.length ≤ j) : (seg L o vs)[j]? = L[j]? := by
 unfold seg
 rcases hj with hj | hj
 ·rw [List.append_assoc, List.getElem?_append_left (by simp; omega), List.getElem?_take, if_pos hj]
 ·rw [List.getElem?_append_right (by simp; omega), List.getElem?_drop]
  congr 1
  simp
  omega
theorem seg_take {L : List Value} {o k : Nat} {vs : List Value} (h : o + vs.length ≤ L.length) (hk : k ≤ o) : (seg L o vs).take k = L.take k := by
 unfold seg
 rw [List.append_assoc, List.take_append_of_le_length (by simp; omega), List.take_take]
 congr 1; omega
theorem seg_two {L A V C : List Value} (hA : L.take A.length = A) (hl : A.length + V.length + C.length ≤ L.length) : (seg (seg L (A.length + V.length) C) A.length V).take (A.length + V.length + C.length) = A ++ V ++ C := by
 have e1 : seg L (A.length + V.length) C = L.take (A.length + V.length) ++ C ++ L.drop (A.length + V.length + C.length) := rfl
 have h1 : (seg L (A.length + V.length) C).take A.length = A := by rw [seg_take hl (by omega), hA]
 have h2 : (seg L (A.length + V.length) C).drop (A.length + V.length) = C ++ L.drop (A.length + V.length + C.length) := by
  rw [e1, List.append_assoc, List.drop_left' (by simp; omega)]
 have e2 : seg (seg L (A.length + V.length) C) A.length V = (A ++ V ++ C) ++ L.drop (A.length + V.length + C.length) := by
  rw [seg, h1, h2]; simp
 rw [e2, List.take_left' (by simp; omega)]
theorem seg_two' {L A V C : List Value} (hA : L.take A.length = A) (hl : A.length + V.length + C.length ≤ L.length) : (seg (seg L A.length V) (A.length + V.length) C).take (A.length + V.length + C.length) = A ++ V ++ C := by
 have h0 : (seg L A.length V).length = L.length := seg_len (by omega)
 have h1 : (seg L A.length V).take (A.length + V.length) = A ++ V := by
  rw [seg, hA, List.take_left' (by simp)]
 have e2 : seg (seg L A.length V) (A.length + V.length) C = (A ++ V ++ C) ++ (seg L A.length V).drop (A.length + V.length + C.length) := by
  rw [seg, h1]
 rw [e2, List.take_left' (by simp; omega)]
theorem run_copyN {P : Program} (w : World) (dT sT ty elem : TypeId) (n g o dLen dCap : Nat) (a : Addr) (sLen sCap : Nat) (cur : Array Value) (t : TypeId) (cs : List Value) (m : Nat)
  (hu : P.underlying dT = some (.slice elem)) (hs : (P.info? elem).map (·.size) = some n) (hg : w.heap[g]? = some (.cells cur t (0, 0))) (hm : m = Nat.min sLen dLen) (hn : cs.length = m * n)
  (hsrc : ∀ j v, cs[j]? = some v → w.cell? (a.add j) = some v) (hfit : o + cs.length ≤ cur.size) (h1 : ∀ v ∈ cs, v.oneCell' = true) :
  (Builtin.copy_ #[dT, sT] ty #[.slice (some ⟨g, o, none⟩) dLen dCap, .slice (some a) sLen sCap]).run P w = .ok (goInt m) (w.setRow g (seg cur.toList o cs).toArray) := by
 have hf := run_firstCells_some (P := P) w n m a sLen sCap cs hn hsrc
 have hst := run_storeCells_at P g o t cs 0 cur w hg (by simpa using hfit) h1
 simp only [Nat.add_zero] at hst
 cases hq : P.info? elem with
 | none => simp [hq] at hs
 | some i =>
  have hi : i.size = n := by simpa [hq] using hs
  simp [Builtin.copy_, run_underlying hu, Builtin.lenOf, sizeOf, typeInfo, hq, hi, ← hm, hf, hst, seg]
theorem run_copyN_none {P : Program} (w : World) (dT sT ty elem : TypeId) (n : Nat) (g : Addr) (dLen dCap : Nat) (hu : P.underlying dT = some (.slice elem)) (hs : (P.info? elem).map (·.size) = some n) :
  (Builtin.copy_ #[dT, sT] ty #[.slice (some g) dLen dCap, .slice none 0 0]).run P w = .ok (goInt 0) w := run_copy_nil P w dT sT ty elem g dLen dCap hu (by rw [hs]; rfl)
theorem run_clearN {P : Program} (w : World) (t e ty : TypeId) (z : Value) (n g o m c : Nat) (cur : Array Value) (T : TypeId) (ht : P.underlying t = some (.slice e)) (hv : ∀ w, (zeroValue e).run P w = .ok z w) (hz : z.cells.size = n) (h1 : ∀ v ∈ z.cells, v.oneCell' = true)
  (hg : w.heap[g]? = some (.cells cur T (0, 0))) (hfit : o + m * n ≤ cur.size) (hm : 0 < m) :
  (Builtin.clear_ #[t] ty #[.slice (some ⟨g, o, none⟩) m c]).run P w = .ok (.tuple #[]) (w.setRow g (seg cur.toList o (Builtin.zeroCells z.cells m).toList).toArray) := by
 have hl : (Builtin.zeroCells z.cells m).toList.length = m * n := by simp [Builtin.zeroCells, hz]
 have h1' : ∀ v ∈ (Builtin.zeroCells z.cells m).toList, v.oneCell' = true := by
  intro v hv'
  simp only [Builtin.zeroCells, Array.toList_map, Array.toList_range, List.mem_map, List.mem_range] at hv'
  obtain ⟨j, hj, rfl⟩ := hv'
  by_cases hn0 : z.cells.size = 0
  ·rw [hn0, Nat.mul_zero] at hj; omega
  ·have hlt : j % z.cells.size < z.cells.size := Nat.mod_lt _ (by omega)
   rw [getElem!_pos z.cells _ hlt]
   exact h1 _ (Array.getElem_mem hlt)
 have hst := run_storeCells_at P g o T (Builtin.zeroCells z.cells m).toList 0 cur w hg (by rw [hl]; simpa using hfit) h1'
 simp only [Nat.add_zero] at hst
 obtain ⟨k, rfl⟩ : ∃ k, m = k + 1 := ⟨m - 1, by omega⟩
 simp [Builtin.clear_, run_underlying ht, hv, hst, seg]
theorem run_clear_none {P : Program} (w : World) (t e ty : TypeId) (a : Option Addr) (c : Nat) (ht : P.underlying t = some (.slice e)) : (Builtin.clear_ #[t] ty #[.slice a 0 c]).run P w = .ok (.tuple #[]) w := by
 cases a <;> simp [Builtin.clear_, run_underlying ht]
theorem run_growN {P : Program} (w : World) (t tn ty e : TypeId) (i0 : TypeInfo) (z : Value) (kn : IntKind) (n by8 : Nat) (ht : P.underlying t = some (.slice e)) (htn : P.underlying tn = some (.int kn)) (hi0 : P.info? e = some i0) (hz : i0.zero = some z) (hs : i0.size = n) (hby : i0.bytes = by8) (hzs : z.cells.size = n) (hn : 0 < n)
  (g cap i k : Nat) (cur : Array Value) (A : List Value) (hg : w.heap[g]? = some (.cells cur e (0, 0))) (hA : A.length = i * n) (hct : cur.toList.take (i * n) = A) (hk : 0 < k) (hroom : cap < i + k) (hbig : (i + k) * by8 ≤ 140737488355328) (h63 : i + k ≤ 1000000000) (hk8 : k * by8 ≤ 281474976710656) :
  ∃ G ROW, (Builtin.append_ #[t, tn] ty #[.slice (some ⟨g, 0, none⟩) i cap, .int .i64 (k : Int)]).run P w = .ok (.slice (some ⟨w.heap.size, 0, none⟩) (i + k) G) (w.drew.alloc (.cells ROW e)) ∧ ROW.size = G * n ∧ ROW.toList.take A.length = A ∧ i + k ≤ G ∧ G ≤ 9223372036854775807 := by
 have hold : (Builtin.firstCells i0.size i (.slice (some ⟨g, 0, none⟩) i cap)).run P w.drew = .ok A.toArray w.drew := by
  rw [hs]
  refine run_firstCells_some w.drew n i ⟨g, 0, none⟩ i cap A hA (fun j v hj => ?_)
  have hj' := hj
  rw [← hct, List.getElem?_take] at hj'
  split at hj'
  ·have : (⟨g, 0, none⟩ : Addr).add j = ⟨g, j, none⟩ := by rw [Addr.add_lit]; simp
   rw [this]
   show w.cell? _ = _
   simp only [World.cell?, hg]
   simpa using hj'
  ·cases hj'
 have h := Lib.run_append_grow_zeros w t tn ty e i0 z .i64 kn ht htn hi0 hz (some ⟨g, 0, none⟩) i cap A hold k hk (by omega) (by omega) (by omega) (by rw [hby]; exact hk8) (by rw [hby]; exact growslice_fits hroom hbig)
 have hge := grownCap_ge w (i + k) cap e
 have hle := grownCap_le_maxLen w (i + k) cap e (by unfold maxLen; omega)
 refine ⟨_, _, h, ?_, ?_, hge, by unfold maxLen at hle; exact hle⟩
 ·rw [Array.size_append, Array.size_append, size_zeroCells, size_zeroCells, hzs, List.size_toArray, hA, ← Nat.add_mul, ← Nat.add_mul]
  congr 1
  omega
 ·rw [Array.toList_append, Array.toList_append, List.append_assoc, List.take_left']
  rfl
theorem wp_run_copy {P : Program} (w : World) {o : Oper} {a : Act} {K : Act → World → Prop} {Q : Exit → Act → World → Prop} (d s : Operand) (t t' : TypeId)
  (ho : o.op = .call { callee := .builtin .copy, args := #[d, s], argTypes := #[t, t'] }) (v u : Value) (hd : a.eval d = v) (hs : a.eval s = u) (v' : Value) (w' : World)
  (hr : (Builtin.copy_ #[t, t'] o.type #[v, u]).run P w = .ok v' w') (h : K (a.put o.dst v') w') : o.wp P a w K Q := by
 unfold Oper.wp
 simp [execOp, ho, resolve, invoke, builtin, hd, hs, hr, Result.andThen]
 exact h
theorem wpList_run_copy {P : Program} (w : World) {ops : Array Oper} {rest : List Oper} {o : Oper} {a : Act} {Q : Exit → Act → World → Prop} (hgd : o.guard = none) (d s : Operand) (t t' : TypeId)
  (ho : o.op = .call { callee := .builtin .copy, args := #[d, s], argTypes := #[t, t'] }) (v u : Value) (hd : a.eval d = v) (hs : a.eval s = u) (v' : Value) (w' : World)
  (hr : (Builtin.copy_ #[t, t'] o.type #[v, u]).run P w = .ok v' w') (h : wpList P ops Q rest (a.put o.dst v') w') : wpList P ops Q (o :: rest) a w :=
 wpList_plain hgd fun _ hK => wp_run_copy w d s t t' ho v u hd hs v' w' hr (hK _ _ h)
theorem row_set {B T n k g cap : Nat} {w : World} {cur : Array Value} {L cc : List Value} (hg : w.heap[g]? = some (.cells cur T (0, 0))) (hB : B ≤ g) (hk : k ≤ cap) (hc : cap ≤ maxLen) (hs : L.length = cap * n) (hl : cc.length = k * n) (ht : L.take (k * n) = cc) :
  (w.setRow g L.toArray).ownsRow B T n (.slice (some ⟨g, 0, none⟩) k cap) k cc ∧ w.grownBy (w.setRow g L.toArray) (some g) :=
 ⟨⟨hl, .inr ⟨g, cap, _, rfl, hB, setRow_heap w g cur _ T _ hg, hk, hc, by simpa using hs, by simpa using ht⟩⟩, ⟨rfl, rfl, rfl, by simp, fun j _ hj => setRow_other w g j _ (fun e => hj (by simp [e]))⟩⟩
theorem own_block {B T n k : Nat} {w : World} {v : Value} {cc : List Value} (h : w.ownsRow B T n v k cc) (hk : 0 < k) : ∃ g cap cur, v = .slice (some ⟨g, 0, none⟩) k cap ∧ B ≤ g ∧ w.heap[g]? = some (.cells cur T (0, 0)) ∧ k ≤ cap ∧ cap ≤ maxLen ∧ cur.size = cap * n ∧ cur.toList.take (k * n) = cc := by
 rcases h.2 with ⟨_, e⟩ | h
 ·omega
 ·exact h
end Go.Proofs.Ytmmjdacjcipgjaa

namespace Go.Proofs.Ytmmjdacjcipgjaa
open Go.RowKit
def bcl (bs : List Br) : List Value := bs.flatMap fun b => [st b.1, .int .i64 b.2]
theorem bcl_app (a b : List Br) : bcl (a ++ b) = bcl a ++ bcl b := by unfold bcl; rw [List.flatMap_append]
theorem bcl_len (l : List Br) : (bcl l).length = l.length * 2 := by
 induction l with
 | nil => rfl
 | cons y r ih => show ([_, _] ++ bcl r).length = _; rw [List.length_append, ih]; simp; omega
theorem bcl_at : ∀ (l : List Br) (i : Nat) (y : Br), l[i]? = some y → (bcl l)[i * 2]? = some (st y.1) ∧ (bcl l)[i * 2 + 1]? = some (.int .i64 y.2)
 | [], i, y, h => by simp at h
 | x :: r, 0, y, h => by
  have : x = y := by simpa using h
  subst this
  exact ⟨rfl, rfl⟩
 | x :: r, i + 1, y, h => by
  have := bcl_at r i y (by simpa using h)
  rw [show (i + 1) * 2 = i * 2 + 2 from by omega, show i * 2 + 2 + 1 = i * 2 + 1 + 2 from by omega]
  exact this
theorem bcl_one (l : List Br) : ∀ v ∈ bcl l, v.oneCell' = true := by
 intro v hv
 obtain ⟨y, _, hv⟩ := List.mem_flatMap.1 hv
 simp at hv
 rcases hv with rfl | rfl <;> rfl
theorem bcl_take (l : List Br) (k : Nat) : (bcl l).take (k * 2) = bcl (l.take k) := by
 rcases Nat.lt_or_ge k l.length with h | h
 ·have e : l = l.take k ++ l.drop k := (List.take_append_drop k l).symm
  have : bcl l = bcl (l.take k) ++ bcl (l.drop k) := by rw [← bcl_app, ← e]
  rw [this, List.take_left' (by rw [bcl_len, List.length_take]; congr 1; omega)]
 ·rw [List.take_of_length_le (by rw [bcl_len]; omega), List.take_of_length_le h]
abbrev OwnBr (B : Nat) (w : World) (v : Value) (bs : List Br) : Prop := w.ownsRow B 146 2 v bs.length (bcl bs)
theorem infoBr : (Try.prog.info? 146).map (fun i => (i.zero, i.size, i.bytes)) = some (some (.agg #[.string ⟨#[]⟩, .int .i64 0]), 2, 24) := by kernel_rfl
theorem OwnBr.slice {B : Nat} {w : World} {v : Value} {bs : List Br} (h : OwnBr B w v bs) : ∃ a c, v = .slice a bs.length c := by
 rcases h.2 with ⟨rfl, e⟩ | ⟨g, cap, cur, rfl, _⟩
 ·exact ⟨none, 0, by rw [e]⟩
 ·exact ⟨_, _, rfl⟩
theorem OwnBr.at {B : Nat} {w : World} {v : Value} {bs : List Br} (h : OwnBr B w v bs) {i : Nat} {y : Br} (hy : bs[i]? = some y) : ∃ g cap, v = .slice (some ⟨g, 0, none⟩) bs.length cap ∧ B ≤ g ∧ w.cell? ⟨g, i * 2, none⟩ = some (st y.1) ∧ w.cell? ⟨g, i * 2 + 1, none⟩ = some (.int .i64 y.2) ∧ ∀ j, w.frozen? ⟨g, j, none⟩ = false := by
 have hi := (List.getElem?_eq_some_iff.1 hy).1
 obtain ⟨g, cap, cur, e, hB, hg, hk, hm, hs, ht⟩ := own_block h (by omega)
 obtain ⟨c1, c2⟩ := bcl_at bs i y hy
 have hcell : ∀ j, j < bs.length * 2 → w.cell? ⟨g, j, none⟩ = (bcl bs)[j]? := fun j hj => by
  rw [← ht, List.getElem?_take, if_pos hj]
  simp [World.cell?, hg]
 exact ⟨g, cap, e, hB, by rw [hcell _ (by omega), c1], by rw [hcell _ (by omega), c2], frozN hg⟩
theorem wpList_appBr {ops : Array Oper} {rest : List Oper} {o : Oper} {a : Act} {w : World} {Q : Exit → Act → World → Prop} (hgd : o.guard = none) (s x : Operand)
  (ho : o.op = .call { callee := .builtin .append, args := #[s, x], argTypes := #[143, 143] }) (B : Nat) (v : Value) (bs : List Br) (y : Br) (g : Nat) (hs : a.eval s = v) (hx : a.eval x = .slice (some ⟨g, 0, none⟩) 1 1)
  (hown : OwnBr B w v bs) (hc1 : w.cell? ⟨g, 0, none⟩ = some (st y.1)) (hc2 : w.cell? ⟨g, 1, none⟩ = some (.int .i64 y.2)) (hlen : (bs.length + 1) * 24 ≤ 140737488355328) (hB : B ≤ w.heap.size)
  (h : ∀ v' w', OwnBr B w' v' (bs ++ [y]) → Below B w w' → wpList Try.prog ops Q rest (a.put o.dst v') w') : wpList Try.prog ops Q (o :: rest) a w := by
 obtain ⟨i0, hi, hz0, hz1, hz2⟩ := info_parts infoBr
 have n2 : ∀ j u, (bcl [y])[j]? = some u → w.cell? ((⟨g, 0, none⟩ : Addr).add j) = some u := by
  intro j u hj
  match j, hj with
  | 0, hj => simp [bcl] at hj; subst hj; simpa [Addr.add] using hc1
  | 1, hj => simp [bcl] at hj; subst hj; simpa [Addr.add] using hc2
  | j + 2, hj => simp [bcl] at hj
 refine wpList_append_own _ hgd s x 143 ho B 146 i0 (.agg #[.string ⟨#[]⟩, .int .i64 0]) 2 24 Try.underlying143 hi hz0 hz1 hz2 rfl (by decide) v bs.length (bcl bs) hs hown ⟨g, 0, none⟩ 1 1 (bcl [y]) hx rfl n2
  (bcl_one _) (by rw [show maxLen = 9223372036854775807 from rfl]; omega) hlen hB ?_
 intro v' w' q1 q2 _
 refine h v' w' ?_ ((Below.refl _ _).grown q2 hB (fun k hk => (World.ownsRow.lt hown k hk).1))
 show World.ownsRow _ _ _ _ _ _ _
 rw [bcl_app, List.length_append]
 exact q1
theorem own_litBr {w : World} (y : Br) : OwnBr w.heap.size (w.alloc (.cells #[st y.1, .int .i64 y.2] 146)) (.slice (some ⟨w.heap.size, 0, none⟩) 1 1) [y] :=
 ⟨rfl, .inr ⟨w.heap.size, 1, _, rfl, Nat.le_refl _, heap_alloc_last w _, Nat.le_refl _, by decide, rfl, rfl⟩⟩
set_option maxRecDepth 100000 in
set_option maxHeartbeats 4000000 in
theorem pbrs_any (w : World) (n : Nd) (kv vv dv : Value) (h : RdN w kv vv dv n) (hk : n.kids.length = n.keys.length + 1) (hl : n.keys.length ≤ 1000) :
  Calls Try.prog 77 #[nv n kv vv dv] w fun e w' => ∃ v', e = .returned v' ∧ OwnBr w.heap.size w' v' (brs n) ∧ Below w.heap.size w w' := by
 obtain ⟨ka, kc, va, vc, da, dc, rfl, rfl, rfl⟩ := h.slices
 obtain ⟨W, hW, DW, bW, sW⟩ := boxedN w #[.bool n.leaf, .slice ka n.keys.length kc, .slice va n.vals.length vc, .slice da n.kids.length dc] 79
 obtain ⟨d0, hd0⟩ : ∃ d, n.kids[0]? = some d := ⟨_, List.getElem?_eq_getElem (by omega)⟩
 obtain ⟨db, doff, rfl, hdc⟩ := (h.to bW).kids.intAt hd0
 rw [Nat.add_zero] at hdc
 obtain ⟨⟨E0, E1, E2, E3⟩, EF⟩ := cells4 DW
 have hbl : (brs n).length = n.keys.length + 1 := by rw [brs_len hk]; exact hk
 have hb0 : (brs n).take 1 = [([], d0)] := by
  unfold brs
  have : n.kids.headD 0 = d0 := by
   cases hn : n.kids with
   | nil => rw [hn] at hd0; simp at hd0
   | cons a r => rw [hn] at hd0; simpa using hd0
  rw [this]; rfl
 have hbk : ∀ (k : Nat) x d, n.keys[k]? = some x → n.kids[k + 1]? = some d → (brs n)[k + 1]? = some (x, d) := fun k x d h1 h2 => by
  unfold brs
  rw [List.getElem?_cons_succ, List.getElem?_zip_eq_some]
  exact ⟨h1, by rw [List.getElem?_tail]; exact h2⟩
 obtain ⟨X, hX⟩ : ∃ X, X = W.alloc (.cells #[st [], .int .i64 d0] 146) := ⟨_, rfl⟩
 have bX : Below W.heap.size W X := by rw [hX]; exact (Below.refl _ _).alloc (Nat.le_refl _) _
 have oX : OwnBr W.heap.size X (.slice (some ⟨W.heap.size, 0, none⟩) 1 1) ((brs n).take 1) := by rw [hb0, hX]; exact own_litBr ([], d0)
 have HI : Hid (OwnBr W.heap.size X (.slice (some ⟨w.heap.size + 1, 0, none⟩) 1 1) ((brs n).take (0 + 1)) ∧ Below W.heap.size W X) := by rw [← sW]; exact ⟨oX, bX⟩
 have HH := hide (h.to bW)
 have HD := hide DW
 have HB := hide bW
 have hkk : Hid (n.kids.length = n.keys.length + 1) := hk
 have hK0 : ¬ n.kids.length = 0 := by omega
 have X1 := (bX.cell (cell_lt E1)).trans E1
 have XF : X.frozen? ⟨w.heap.size, 0, none⟩ = false := frozN ((bX.block _ (lt_of_block DW)).trans DW) 0
 replace hbl := hide hbl
 replace hbk := hide hbk
 replace hb0 := hide hb0
 have hsW := hide sW
 rw [hW] at E0 E1 E2 E3 EF hdc
 rw [hX, hW] at X1 XF
 clear h DW bW hk oX bX
 dsimp only [nv]
 go_enter Try.func77, Try.ntmps77
 generalize hK : n.keys.length = K at *
 generalize hKd : n.kids.length = KD at *
 replace hKd := hide hKd
 go_wp2_with fail
 rw [← hW, ← hX]
 replace hW := hide hW
 replace hX := hide hX
 replace hK := hide hK
 clear E0 E1 E2 E3 EF X1 XF hdc
 go_loopw [3, 15] (fun o p wr => ∃ k : Nat, k ≤ K ∧ p = .int .i64 k ∧ Hid (OwnBr W.heap.size wr o ((brs n).take (k + 1)) ∧ Below W.heap.size W wr)) (fun _ p _ => K - (intOf p).toNat)
 case atStart => exact ⟨0, Nat.zero_le _, rfl, HI⟩
 case round =>
  obtain ⟨k, hk, rfl, hI⟩ := hrel
  clear HI
  by_cases hlt : k < K
  ·have hq : (k : Int) < (K : Int) := by omega
   obtain ⟨x, hx⟩ : ∃ x, n.keys[k]? = some x := ⟨_, List.getElem?_eq_getElem (by rw [hK.out]; exact hlt)⟩
   obtain ⟨d, hd⟩ : ∃ d, n.kids[k + 1]? = some d := ⟨_, List.getElem?_eq_getElem (by rw [hKd.out]; have := hkk.out; omega)⟩
   obtain ⟨kb, koff, rfl, hc1⟩ := (HH.out.to hI.out.2).keys.strAt hx
   obtain ⟨db', doff', e9, hc2⟩ := (HH.out.to hI.out.2).kids.intAt hd
   simp only [Option.some.injEq, Addr.mk.injEq, and_true] at e9
   obtain ⟨rfl, rfl⟩ := e9
   have D6 := (hI.out.2.block _ (lt_of_block HD.out)).trans HD.out
   obtain ⟨⟨E0, E1, E2, E3⟩, EF⟩ := cells4 D6
   have hsn : Hid ((brs n).take (k + 1 + 1) = (brs n).take (k + 1) ++ [(x, d)]) := by show _ = _; rw [List.take_add_one, hbk.out k x d hx hd]; rfl
   obtain ⟨oa, oc, ho⟩ := hI.out.1.slice
   have htl : ((brs n).take (k + 1)).length = k + 1 := by rw [List.length_take, hbl.out]; have := hK.out; omega
   rw [htl] at ho
   subst ho
   obtain ⟨V, hV, DV, bV, sV⟩ := boxedN wr #[st x, .int .i64 d] 146
   have V0 := cellN DV (i := 0) rfl
   have V1 := cellN DV (i := 1) rfl
   have OV : OwnBr W.heap.size V (.slice oa (k + 1) oc) ((brs n).take (k + 1)) := rows_to hI.out.1 bV
   have hBV : W.heap.size ≤ V.heap.size := Nat.le_trans hI.out.2.size bV.size
   have BV := hide (hI.out.2.trans (bV.mono hI.out.2.size))
   have hn8 : (((brs n).take (k + 1)).length + 1) * 24 ≤ 140737488355328 := by rw [htl]; omega
   replace htl := hide htl
   replace hx := hide hx
   replace hd := hide hd
   have hkd : (k : Int) + 1 < (KD : Int) := by have := hkk.out; omega
   have hw1 : IntKind.i64.wrap ((k : Int) + 1) = (k : Int) + 1 := IntWalk.i64_in _ (by omega)
   have htn : ((k : Int) + 1).toNat = k + 1 := by omega
   rw [hV] at V0 V1 OV hBV
   clear D6 DV bV sV hI
   go_wp2_with (at_builtin; refine wpList_appBr rfl _ _ rfl W.heap.size _ _ (x, d) wr.heap.size rfl rfl OV V0 V1 hn8 hBV ?_; intro v5 w5 o5 b5)
   rw [← hsn.out] at o5
   rw [← hV] at b5
   have I5 := hide (And.intro o5 (BV.out.trans b5))
   clear o5 b5 OV V0 V1 hBV hn8 hc1 hc2 E0 E1 E2 E3 EF
   go_wp2
   go_roundw
   case rel => exact ⟨k + 1, by omega, by go_num, I5⟩
   case measure => simp [intOf]; omega
  ·have hq : ¬ (k : Int) < (K : Int) := by omega
   have htk : (brs n).take (k + 1) = brs n := List.take_of_length_le (by rw [hbl.out]; have := hK.out; omega)
   rw [htk] at hI
   have hBB : Hid (w.heap.size ≤ W.heap.size) := HB.out.size
   go_wp2
   go_ret
   exact ⟨_, rfl, rows_mono hI.out.1 hBB.out, HB.out.trans (hI.out.2.mono hBB.out)⟩
structure ISt (X : World) (nb : Nat) (w : World) (kv dv : Value) (n : Nd) : Prop where
 bel : Below nb X w
 box : w.heap[nb]? = some (.cells #[.bool false, kv, .slice none 0 0, dv] 79 (0, 0))
 keys : OwnT (nb + 1) w kv n.keys
 kids : OwnJ (nb + 1) w dv n.kids
 hs : nb + 1 ≤ w.heap.size
theorem ISt.to {X : World} {nb : Nat} {w w' : World} {kv dv : Value} {n : Nd} (h : ISt X nb w kv dv n) (b : Below w.heap.size w w') : ISt X nb w' kv dv n :=
 ⟨h.bel.trans (b.mono (by have := h.hs; omega)), (b.block _ (lt_of_block h.box)).trans h.box, rows_to h.keys b, rows_to h.kids b, Nat.le_trans h.hs b.size⟩
theorem ISt.key {X : World} {nb : Nat} {w w' : World} {kv dv v' : Value} {n : Nd} {x : Str} (h : ISt X nb w kv dv n) (o : OwnT (nb + 1) w' v' (n.keys ++ [x])) (g : w.grownBy w' kv.ownBlock) :
  ISt X nb (w'.setCell ⟨nb, 1, none⟩ v') v' dv ⟨n.leaf, n.keys ++ [x], n.vals, n.kids⟩ := by
 have kt := fun e (he : e ≠ 9) => KeepT.grown h.keys g he
 have bx := kt _ (by decide) _ _ _ h.box
 have b1 : Below nb X w' := h.bel.grown g (by have := h.hs; have := h.bel.size; omega) (fun k hk => by have := (World.ownsRow.lt h.keys k hk).1; omega)
 refine ⟨b1.setCell (p := ⟨nb, 1, none⟩) (Nat.le_refl _) _, ?_, rows_keepT o (KeepT.set (a := ⟨nb, 1, none⟩) bx (by decide) _), rows_keepT (rows_keepT h.kids (kt _ (by decide))) (KeepT.set (a := ⟨nb, 1, none⟩) bx (by decide) _), ?_⟩
 ·have := heap_setN bx 1 v'
  simpa using this
 ·have := g.size; have := h.hs
  simp; omega
theorem ISt.kid {X : World} {nb : Nat} {w w' : World} {kv dv v' : Value} {n : Nd} {x : Int} (h : ISt X nb w kv dv n) (o : OwnJ (nb + 1) w' v' (n.kids ++ [x])) (g : w.grownBy w' dv.ownBlock) :
  ISt X nb (w'.setCell ⟨nb, 3, none⟩ v') kv v' ⟨n.leaf, n.keys, n.vals, n.kids ++ [x]⟩ := by
 have kt := fun e (he : e ≠ 3) => KeepT.grown h.kids g he
 have bx := kt _ (by decide) _ _ _ h.box
 have b1 : Below nb X w' := h.bel.grown g (by have := h.hs; have := h.bel.size; omega) (fun k hk => by have := (World.ownsRow.lt h.kids k hk).1; omega)
 refine ⟨b1.setCell (p := ⟨nb, 3, none⟩) (Nat.le_refl _) _, ?_, rows_keepT (rows_keepT h.keys (kt _ (by decide))) (KeepT.set (a := ⟨nb, 3, none⟩) bx (by decide) _), rows_keepT o (KeepT.set (a := ⟨nb, 3, none⟩) bx (by decide) _), ?_⟩
 ·have := heap_setN bx 3 v'
  simpa using this
 ·have := g.size; have := h.hs
  simp; omega
def inrTo (bs : List Br) (k : Nat) : Nd := ⟨false, (bs.take k).tail.map (·.1), [], (bs.take k).map (·.2)⟩
theorem inrTo_zero (bs : List Br) : inrTo bs 0 = ⟨false, [], [], []⟩ := by simp [inrTo]
theorem inrTo_first {bs : List Br} {y : Br} (h : bs[0]? = some y) : inrTo bs (0 + 1) = ⟨false, [], [], [y.2]⟩ := by
 cases bs with
 | nil => simp at h
 | cons a r => simp at h; subst h; simp [inrTo]
theorem inrTo_next {bs : List Br} {k : Nat} {y : Br} (h : bs[k]? = some y) (hk : 0 < k) : inrTo bs (k + 1) = ⟨false, (inrTo bs k).keys ++ [y.1], [], (inrTo bs k).kids ++ [y.2]⟩ := by
 unfold inrTo
 rw [List.take_add_one, h]
 have : (bs.take k) ≠ [] := fun e => by
  have := congrArg List.length e
  have hl := (List.getElem?_eq_some_iff.1 h).1
  simp at this
  rcases this with h9 | h9
  ·omega
  ·subst h9; simp at hl
 cases ht : bs.take k with
 | nil => exact absurd ht this
 | cons a r => simp
theorem inrTo_all (bs : List Br) : inrTo bs bs.length = inr bs := by unfold inrTo inr; rw [List.take_of_length_le (Nat.le_refl _)]
theorem inrTo_len (bs : List Br) (k : Nat) : (inrTo bs k).keys.length ≤ bs.length ∧ (inrTo bs k).kids.length ≤ bs.length := by unfold inrTo; simp; omega
theorem wpList_appI {ops : Array Oper} {rest : List Oper} {o : Oper} {a : Act} {w : World} {Q : Exit → Act → World → Prop} (hgd : o.guard = none) (s x : Operand)
  (ho : o.op = .call { callee := .builtin .append, args := #[s, x], argTypes := #[28, 28] }) (B : Nat) (v : Value) (xs : List Int) (y : Int) (g : Nat) (hs : a.eval s = v) (hx : a.eval x = .slice (some ⟨g, 0, none⟩) 1 1)
  (hown : OwnJ B w v xs) (hc : w.cell? ⟨g, 0, none⟩ = some (.int .i64 y)) (hlen : (xs.length + 1) * 8 ≤ 140737488355328) (hB : B ≤ w.heap.size)
  (h : ∀ g' cap w', OwnJ B w' (.slice (some ⟨g', 0, none⟩) (xs.length + 1) cap) (xs ++ [y]) → w.grownBy w' v.ownBlock → wpList Try.prog ops Q rest (a.put o.dst (.slice (some ⟨g', 0, none⟩) (xs.length + 1) cap)) w') : wpList Try.prog ops Q (o :: rest) a w := by
 obtain ⟨i0, hi, hz0, hz1, hz2⟩ := info_parts infoJ
 have n2 : ∀ j u, ([y].map (Value.int .i64))[j]? = some u → w.cell? ((⟨g, 0, none⟩ : Addr).add j) = some u := by
  intro j u hj
  match j, hj with
  | 0, hj => simp at hj; subst hj; simpa [Addr.add] using hc
  | j + 1, hj => simp at hj
 refine wpList_append_lies _ hgd s x 28 ho B 3 i0 (.int .i64 0) 1 8 Try.underlying28 hi hz0 hz1 hz2 rfl (by decide) v xs.length (xs.map (Value.int .i64)) hs hown ⟨g, 0, none⟩ 1 1 ([y].map (Value.int .i64)) hx rfl n2
  (fun u hu => by simp at hu; subst hu; rfl) (by decide) (by rw [show maxLen = 9223372036854775807 from rfl]; omega) hlen hB _ rfl ?_
 intro g' cap w' h1 h2 h3 _
 refine h g' cap w' ?_ h2
 show World.ownsRow _ _ _ _ _ _ _
 rw [List.map_append]
 simpa using h1
set_option maxRecDepth 100000 in
set_option maxHeartbeats 4000000 in
theorem pinr_any (B : Nat) (w : World) (v : Value) (bs : List Br) (h : OwnBr B w v bs) (hl : bs.length ≤ 1000) :
  Calls Try.prog 75 #[v] w fun e w' => ∃ kv dv, e = .returned (nv (inr bs) kv (.slice none 0 0) dv) ∧ OwnN w.heap.size w' kv (.slice none 0 0) dv (inr bs) ∧ Below w.heap.size w w' := by
 obtain ⟨a, c, rfl⟩ := h.slice
 obtain ⟨W, hW, DW, bW, sW⟩ := boxedN w #[.bool false, .slice none 0 0, .slice none 0 0, .slice none 0 0] 79
 obtain ⟨X, hX, DX, bX, sX⟩ := boxedN W #[.bool false, .slice none 0 0, .slice none 0 0, .slice none 0 0] 79
 have bWX := bW.trans (bX.mono bW.size)
 rw [sW] at DX
 have I0 : Hid (ISt X (w.heap.size + 1) X (.slice none 0 0) (.slice none 0 0) (inrTo bs 0)) := by
  show ISt _ _ _ _ _ _
  rw [inrTo_zero]
  exact ⟨Below.refl _ _, DX, World.ownsRow_nil _ _ _ _, World.ownsRow_nil _ _ _ _, by rw [sX, sW]; omega⟩
 have HO : Hid (OwnBr B X (.slice a bs.length c) bs) := rows_to h bWX
 have HR : Hid (X.heap[w.heap.size]? = some (.cells #[.bool false, .slice none 0 0, .slice none 0 0, .slice none 0 0] 79 (0, 0))) := (bX.block _ (lt_of_block DW)).trans DW
 have HB := hide bWX
 have HP : Hid (OwnBr B w (.slice a bs.length c) bs) := h
 generalize hK : bs.length = K at *
 replace hK := hide hK
 clear h DW DX bW bX bWX
 go_enter Try.func75, Try.ntmps75
 go_wp2_with fail
 rw [← hW, ← hX]
 replace hW := hide hW
 replace hX := hide hX
 go_loopw [8] (fun p wr => ∃ k : Nat, k ≤ K ∧ p = .int .i64 k ∧ Hid (∃ kv dv, ISt X (w.heap.size + 1) wr kv dv (inrTo bs k))) (fun p _ => K - (intOf p).toNat)
 case atStart => exact ⟨0, Nat.zero_le _, rfl, hide ⟨_, _, I0.out⟩⟩
 case round =>
  obtain ⟨k, hk, rfl, hI⟩ := hrel
  clear I0
  obtain ⟨kv, dv, I1⟩ := hI.out
  by_cases hlt : k < K
  ·have hq : (k : Int) < (K : Int) := by omega
   obtain ⟨⟨x, d⟩, hy⟩ : ∃ y, bs[k]? = some y := ⟨_, List.getElem?_eq_getElem (by rw [hK.out]; exact hlt)⟩
   obtain ⟨g, cap, e9, hBg, c1, c2, cf⟩ := HP.out.at hy
   simp only [Value.slice.injEq] at e9
   obtain ⟨rfl, h9, rfl⟩ := e9
   clear h9
   have bw1 : Below w.heap.size w wr := HB.out.trans (I1.bel.mono (by omega))
   replace c1 := (bw1.cell (cell_lt c1)).trans c1
   replace c2 := (bw1.cell (cell_lt c2)).trans c2
   obtain ⟨V, hV, DV, bV, sV⟩ := boxedN wr #[st x, .int .i64 d] 146
   have IV := I1.to bV
   have DV' := hide DV
   clear hI bw1 bV
   by_cases h0 : k = 0
   ·subst h0
    have hn9 : Hid (((inrTo bs 0).kids.length + 1) * 8 ≤ 140737488355328) := by show _ ≤ _; have := (inrTo_len bs 0).2; have := hK.out; omega
    have hres : Hid (inrTo bs (0 + 1) = ⟨(inrTo bs 0).leaf, (inrTo bs 0).keys, (inrTo bs 0).vals, (inrTo bs 0).kids ++ [d]⟩) := by show _ = _; rw [inrTo_first hy, inrTo_zero]; rfl
    go_upto_region 7 with fail
    rw [← hV]
    obtain ⟨Y, hY⟩ : ∃ Y, Y = V := ⟨_, rfl⟩
    have IY : ISt X (w.heap.size + 1) Y kv dv (inrTo bs 0) := by rw [hY]; exact IV
    have Y1 : Y.cell? ⟨wr.heap.size, 1, none⟩ = some (.int .i64 d) := by rw [hY]; exact cellN DV rfl
    rw [← hY]
    replace hV := hide hV
    clear IV DV DV' I1 c1 c2 hY
    -- the kid is appended
    obtain ⟨⟨E0, E1, E2, E3⟩, EF⟩ := cells4 IY.box
    obtain ⟨T, hT, DT, bT, sT⟩ := boxedN Y #[.int .i64 d] 3
    have IT := IY.to bT
    have T0 := cellN DT (i := 0) rfl
    have OT := IT.kids
    have hBT : w.heap.size + 1 + 1 ≤ T.heap.size := IT.hs
    obtain ⟨da, dc, hdv⟩ := IT.kids.rd.slice
    subst hdv
    have FIN : Hid (∀ g5 cap5 w5, OwnJ (w.heap.size + 1 + 1) w5 (.slice (some ⟨g5, 0, none⟩) ((inrTo bs 0).kids.length + 1) cap5) ((inrTo bs 0).kids ++ [d]) → T.grownBy w5 (Value.slice da (inrTo bs 0).kids.length dc).ownBlock →
      w5.cell? ⟨w.heap.size + 1, 3, none⟩ = some (.slice da (inrTo bs 0).kids.length dc) ∧ w5.frozen? ⟨w.heap.size + 1, 3, none⟩ = false ∧ Hid (∃ kv dv, ISt X (w.heap.size + 1) (w5.setCell ⟨w.heap.size + 1, 3, none⟩ (.slice (some ⟨g5, 0, none⟩) ((inrTo bs 0).kids.length + 1) cap5)) kv dv (inrTo bs (0 + 1)))) := fun g5 cap5 w5 o5 r5 => by
     have bx5 := KeepT.grown IT.kids r5 (show 79 ≠ 3 by decide) _ _ _ IT.box
     obtain ⟨⟨F0, F1, F2, F3⟩, FF⟩ := cells4 bx5
     have I5 := IT.kid o5 r5
     exact ⟨F3, FF 3, hide ⟨_, _, Eq.mp (congrArg (ISt X (w.heap.size + 1) _ _ _) hres.out.symm) I5⟩⟩
    rw [hT] at T0 OT hBT FIN
    clear IT DT bT IY
    go_wp2_with (at_builtin; refine wpList_appI rfl _ _ rfl (w.heap.size + 1 + 1) _ _ d Y.heap.size rfl rfl OT T0 hn9.out hBT ?_; intro g5 cap5 w5 o5 r5; obtain ⟨F1, F2, F3⟩ := FIN.out g5 cap5 w5 o5 r5; clear o5 r5)
    go_roundw
    case rel => exact ⟨0 + 1, by omega, by go_num, F3⟩
    case measure => simp [intOf]; omega
   ·have hp : (k : Int) > 0 := by omega
    have hn9 : Hid (((inrTo bs k).kids.length + 1) * 8 ≤ 140737488355328) := by show _ ≤ _; have := (inrTo_len bs k).2; have := hK.out; omega
    have hres : Hid (inrTo bs (k + 1) = ⟨(inrTo bs k).leaf, (inrTo bs k).keys ++ [x], (inrTo bs k).vals, (inrTo bs k).kids ++ [d]⟩) := by show _ = _; rw [inrTo_next hy (by omega)]; rfl
    obtain ⟨⟨E0, E1, E2, E3⟩, EF⟩ := cells4 IV.box
    have V0 := cellN DV (i := 0) rfl
    obtain ⟨T, hT, DT, bT, sT⟩ := boxedN V #[st x] 9
    have IT := IV.to bT
    have T0 := cellN DT (i := 0) rfl
    have DT' := (bT.block _ (lt_of_block DV)).trans DV
    have OT := IT.keys
    have hBT : w.heap.size + 1 + 1 ≤ T.heap.size := IT.hs
    have hn8 : ((inrTo bs k).keys.length + 1) * 16 ≤ 140737488355328 := by have := (inrTo_len bs k).1; have := hK.out; omega
    obtain ⟨ka, kc, hkv⟩ := IT.keys.rd.slice
    subst hkv
    have FIN : Hid (∀ g5 cap5 w5, OwnT (w.heap.size + 1 + 1) w5 (.slice (some ⟨g5, 0, none⟩) ((inrTo bs k).keys.length + 1) cap5) ((inrTo bs k).keys ++ [x]) → T.grownBy w5 (Value.slice ka (inrTo bs k).keys.length kc).ownBlock →
      w5.cell? ⟨w.heap.size + 1, 1, none⟩ = some (.slice ka (inrTo bs k).keys.length kc) ∧ w5.frozen? ⟨w.heap.size + 1, 1, none⟩ = false ∧ Hid (∃ kv, ISt X (w.heap.size + 1) (w5.setCell ⟨w.heap.size + 1, 1, none⟩ (.slice (some ⟨g5, 0, none⟩) ((inrTo bs k).keys.length + 1) cap5)) kv dv ⟨(inrTo bs k).leaf, (inrTo bs k).keys ++ [x], (inrTo bs k).vals, (inrTo bs k).kids⟩ ∧
       (w5.setCell ⟨w.heap.size + 1, 1, none⟩ (.slice (some ⟨g5, 0, none⟩) ((inrTo bs k).keys.length + 1) cap5)).cell? ⟨wr.heap.size, 1, none⟩ = some (.int .i64 d))) := fun g5 cap5 w5 o5 r5 => by
     have bx5 := KeepT.grown IT.keys r5 (show 79 ≠ 9 by decide) _ _ _ IT.box
     have br5 := KeepT.grown IT.keys r5 (show 146 ≠ 9 by decide) _ _ _ DT'
     obtain ⟨⟨F0, F1, F2, F3⟩, FF⟩ := cells4 bx5
     have I5 := IT.key o5 r5
     refine ⟨F1, FF 1, _, I5, cellN ((Below.heap_setCell _ _ _ _ (show wr.heap.size ≠ w.heap.size + 1 from ?_)).trans br5) rfl⟩
     have := I1.hs
     omega
    rw [sV] at T0
    rw [hV] at E0 E1 E2 E3 EF V0
    rw [hT, hV] at T0 OT hBT FIN
    replace h0 := hide h0
    clear IT DT bT IV DV DV' DT'
    go_upto_region 7 with (at_builtin; refine wpList_appS rfl _ _ rfl (w.heap.size + 1 + 1) _ _ x (wr.heap.size + 1) rfl rfl OT T0 hn8 hBT ?_; intro g5 cap5 w5 o5 r5 l5; obtain ⟨F1, F2, F3⟩ := FIN.out g5 cap5 w5 o5 r5; clear o5 r5 l5)
    obtain ⟨kv5, IY, Y1⟩ := F3.out
    obtain ⟨Y, hY⟩ : ∃ Y, Y = w5.setCell ⟨w.heap.size + 1, 1, none⟩ (.slice (some ⟨g5, 0, none⟩) ((inrTo bs k).keys.length + 1) cap5) := ⟨_, rfl⟩
    rw [← hY] at IY Y1 ⊢
    replace hV := hide hV
    clear E0 E1 E2 E3 EF V0 T0 OT hBT FIN I1 c1 c2 hY F1 F2 F3 hT hn8
    -- the kid is appended
    obtain ⟨⟨E0, E1, E2, E3⟩, EF⟩ := cells4 IY.box
    obtain ⟨T, hT, DT, bT, sT⟩ := boxedN Y #[.int .i64 d] 3
    have IT := IY.to bT
    have T0 := cellN DT (i := 0) rfl
    have OT := IT.kids
    have hBT : w.heap.size + 1 + 1 ≤ T.heap.size := IT.hs
    obtain ⟨da, dc, hdv⟩ := IT.kids.rd.slice
    subst hdv
    have FIN : Hid (∀ g5 cap5 w5, OwnJ (w.heap.size + 1 + 1) w5 (.slice (some ⟨g5, 0, none⟩) ((⟨(inrTo bs k).leaf, (inrTo bs k).keys ++ [x], (inrTo bs k).vals, (inrTo bs k).kids⟩ : Nd).kids.length + 1) cap5) ((⟨(inrTo bs k).leaf, (inrTo bs k).keys ++ [x], (inrTo bs k).vals, (inrTo bs k).kids⟩ : Nd).kids ++ [d]) → T.grownBy w5 (Value.slice da (⟨(inrTo bs k).leaf, (inrTo bs k).keys ++ [x], (inrTo bs k).vals, (inrTo bs k).kids⟩ : Nd).kids.length dc).ownBlock →
      w5.cell? ⟨w.heap.size + 1, 3, none⟩ = some (.slice da (⟨(inrTo bs k).leaf, (inrTo bs k).keys ++ [x], (inrTo bs k).vals, (inrTo bs k).kids⟩ : Nd).kids.length dc) ∧ w5.frozen? ⟨w.heap.size + 1, 3, none⟩ = false ∧ Hid (∃ kv dv, ISt X (w.heap.size + 1) (w5.setCell ⟨w.heap.size + 1, 3, none⟩ (.slice (some ⟨g5, 0, none⟩) ((⟨(inrTo bs k).leaf, (inrTo bs k).keys ++ [x], (inrTo bs k).vals, (inrTo bs k).kids⟩ : Nd).kids.length + 1) cap5)) kv dv (inrTo bs (k + 1)))) := fun g5 cap5 w5 o5 r5 => by
     have bx5 := KeepT.grown IT.kids r5 (show 79 ≠ 3 by decide) _ _ _ IT.box
     obtain ⟨⟨F0, F1, F2, F3⟩, FF⟩ := cells4 bx5
     have I5 := IT.kid o5 r5
     exact ⟨F3, FF 3, hide ⟨_, _, Eq.mp (congrArg (ISt X (w.heap.size + 1) _ _ _) hres.out.symm) I5⟩⟩
    rw [hT] at T0 OT hBT FIN
    clear IT DT bT IY
    go_wp2_with (at_builtin; refine wpList_appI rfl _ _ rfl (w.heap.size + 1 + 1) _ _ d Y.heap.size rfl rfl OT T0 hn9.out hBT ?_; intro g5 cap5 w5 o5 r5; obtain ⟨F1, F2, F3⟩ := FIN.out g5 cap5 w5 o5 r5; clear o5 r5)
    go_roundw
    case rel => exact ⟨k + 1, by omega, by go_num, F3⟩
    case measure => simp [intOf]; omega
  ·have hq : ¬ (k : Int) < (K : Int) := by omega
   obtain rfl : k = K := by omega
   rw [← hK.out, inrTo_all] at I1
   have R6 := (I1.bel.block _ (show w.heap.size < w.heap.size + 1 by omega)).trans HR.out
   obtain ⟨⟨E0, E1, E2, E3⟩, EF⟩ := cells4 I1.box
   obtain ⟨⟨J0, J1, J2, J3⟩, JF⟩ := cells4 R6
   have HR7 := hide R6
   obtain ⟨ka, kc, hkv⟩ := I1.keys.rd.slice
   obtain ⟨da, dc, hdv⟩ := I1.kids.rd.slice
   subst hkv hdv
   have k1 : ∀ e, e ≠ 79 → KeepT e wr (S4 w.heap.size wr (.bool false) (.slice ka (inr bs).keys.length kc) (.slice none 0 0) (.slice da (inr bs).kids.length dc)) := fun e he => s4_keep R6 _ _ _ _ he
   have OO : Hid (OwnN w.heap.size (S4 w.heap.size wr (.bool false) (.slice ka (inr bs).keys.length kc) (.slice none 0 0) (.slice da (inr bs).kids.length dc)) (.slice ka (inr bs).keys.length kc) (.slice none 0 0) (.slice da (inr bs).kids.length dc) (inr bs)) :=
    ⟨rows_mono (rows_keepT I1.keys (k1 _ (by decide))) (by omega), World.ownsRow_nil _ _ _ _, rows_mono (rows_keepT I1.kids (k1 _ (by decide))) (by omega)⟩
   have bw1 : Below w.heap.size w wr := HB.out.trans (I1.bel.mono (by omega))
   have BB := hide (below_set4n bw1 (Nat.le_refl _) (.bool false) (.slice ka (inr bs).keys.length kc) (.slice none 0 0) (.slice da (inr bs).kids.length dc))
   clear I1 R6 k1 bw1 hI
   go_wp2
   refine retN rfl rfl w.heap.size rfl _ _ (0, 0) (heap_set4 HR7.out _ _ _ _) _ Try.underlying79 rfl info_nd10 ?_
   exact ⟨_, _, rfl, OO.out, BB.out⟩
end Go.Proofs.Ytmmjdacjcipgjaa

namespace Go.Proofs.Ytmmjdacjcipgjaa
def pgs : Int → List Nd → List Wrt
 | _, [] => []
 | z, n :: r => (z, nenc n) :: pgs (z + 1) r
theorem pgs_len : ∀ (z : Int) (ad : List Nd), (pgs z ad).length = ad.length
 | _, [] => rfl
 | z, n :: r => by simp [pgs, pgs_len (z + 1) r]
theorem pgs_app : ∀ (z : Int) (a b : List Nd), pgs z (a ++ b) = pgs z a ++ pgs (z + a.length) b
 | z, [], b => by simp [pgs]
 | z, n :: a, b => by
  simp only [List.cons_append, pgs, List.length_cons]
  rw [pgs_app (z + 1) a b]
  congr 3
  push_cast
  omega
theorem tpage_app (b : List Wrt) (id : Int) : ∀ a : List Wrt, tpage (a ++ b) id = match tpage a id with | some x => some x | none => tpage b id
 | [] => rfl
 | y :: a => by
  simp only [List.cons_append, tpage]
  split
  ·rfl
  ·exact tpage_app b id a
theorem tpage_pgs_at : ∀ {z : Int} {ad : List Nd} {i : Nat} {n : Nd}, ad[i]? = some n → tpage (pgs z ad) (z + i) = some (nenc n)
 | z, [], i, n, h => by simp at h
 | z, m :: r, 0, n, h => by
  have : m = n := by simpa using h
  subst this
  simp [pgs, tpage]
 | z, m :: r, i + 1, n, h => by
  have ih := tpage_pgs_at (z := z + 1) (ad := r) (i := i) (n := n) (by simpa using h)
  simp only [pgs, tpage]
  rw [if_neg (by push_cast; omega), show z + ((i + 1 : Nat) : Int) = z + 1 + (i : Int) by push_cast; omega]
  exact ih
abbrev lp (l : List Wrt) (next : Int) (ad : List Nd) : List Wrt := l ++ pgs next ad
theorem ext_app (a b : List Wrt) : Ext a (a ++ b) := fun id x h => by rw [tpage_app, h]
theorem ext_more (l : List Wrt) (next : Int) (ad more : List Nd) : Ext (lp l next ad) (lp l next (ad ++ more)) := by
 rw [lp, lp, pgs_app, ← List.append_assoc]
 exact ext_app _ _
theorem new_is {l : List Wrt} {next : Int} {ad more : List Nd} {n : Nd} (hnl : ∀ id x, tpage l id = some x → id < next) (hok : NOk n) : NdIs (lp l next (ad ++ n :: more)) (next + ad.length) n := by
 refine ⟨nenc n, ?_, ndec_enc hok⟩
 rw [tpage_app]
 cases h : tpage l (next + (ad.length : Int)) with
 | some x => have := hnl _ _ h; omega
 | none => exact tpage_pgs_at (by simp)
def NO (l : List Wrt) : Nat → Nd → Str → Option Str → Prop
 | 0, n, lo, hi => ∃ ps, n = lf ps ∧ PrOk ps ∧ ∀ y ∈ ps, kin lo hi y.1 = true
 | d + 1, n, lo, hi => ∃ bs, n = inr bs ∧ BrOk bs ∧ Seg l d lo hi bs
def nP (l : List Wrt) : Nat → Nd → List Pr
 | 0, n => npr n
 | d + 1, n => n.kids.flatMap (pOf l d)
def nI (l : List Wrt) : Nat → Nd → List Int
 | 0, _ => []
 | d + 1, n => n.kids.flatMap (idsOf l d)
def Lim : Nat → Int
 | 0 => 342
 | _ + 1 => 281
theorem NO.ext {l l' : List Wrt} (h : Ext l l') {d : Nat} {n : Nd} {lo : Str} {hi : Option Str} (k : NO l d n lo hi) : NO l' d n lo hi ∧ nP l' d n = nP l d n ∧ nI l' d n = nI l d n := by
 cases d with
 | zero => exact ⟨k, rfl, rfl⟩
 | succ d =>
  obtain ⟨bs, rfl, h1, h2⟩ := k
  have hs := seg_ext h h2.each
  refine ⟨⟨bs, rfl, h1, h2.ext h⟩, ?_, ?_⟩
  ·rw [nP, nP, sprs_inr, sprs_inr]; exact hs.1
  ·rw [nI, nI, sids_inr, sids_inr]; exact hs.2
theorem tok_no {l : List Wrt} {d : Nat} {id : Int} {lo : Str} {hi : Option Str} (h : TOk l d id lo hi) : ∃ nd, NdIs l id nd ∧ NO l d nd lo hi ∧ idsOf l d id = id :: nI l d nd ∧ pOf l d id = nP l d nd := by
 cases d with
 | zero =>
  obtain ⟨nd, hN, h1, h2, h3⟩ := h
  obtain ⟨e, hp⟩ := lf_to hN.ok h1
  refine ⟨nd, hN, ⟨_, e, hp, fun y hy => List.all_eq_true.1 h3 _ (List.of_mem_zip hy).1⟩, rfl, by rw [pOf, hN.at]; rfl⟩
 | succ d =>
  obtain ⟨nd, hN, h1, h2, h3, h4⟩ := tok_seg h
  obtain ⟨e, hb, _⟩ := inr_to hN.ok h1
  refine ⟨nd, hN, ⟨_, e, hb, h2⟩, ?_, ?_⟩
  ·rw [h3, nI]
   conv => rhs; rw [e]
   rw [sids_inr]
  ·rw [h4, nP]
   conv => rhs; rw [e]
   rw [sprs_inr]
theorem no_tok {l : List Wrt} {d : Nat} {id : Int} {n : Nd} {lo : Str} {hi : Option Str} (h : NO l d n lo hi) (hN : NdIs l id n) (h0 : n.keys ≠ []) : TOk l d id lo hi ∧ idsOf l d id = id :: nI l d n ∧ pOf l d id = nP l d n := by
 cases d with
 | zero =>
  obtain ⟨ps, rfl, h1, h2⟩ := h
  obtain ⟨a, b, c⟩ := lf_tok hN (fun e => h0 (by subst e; rfl)) h2
  exact ⟨a, b, by rw [c, nP, npr_lf]⟩
 | succ d =>
  obtain ⟨bs, rfl, h1, h2⟩ := h
  obtain ⟨a, b, c⟩ := seg_tok hN h2
  exact ⟨a, by rw [b, nI, sids_inr], by rw [c, nP, sprs_inr]⟩
theorem NO.ok {l : List Wrt} {d : Nat} {n : Nd} {lo : Str} {hi : Option Str} (h : NO l d n lo hi) (h0 : n.keys ≠ []) (hs : nsize n ≤ 244) : NOk n := by
 cases d with
 | zero =>
  obtain ⟨ps, rfl, h1, h2⟩ := h
  exact lf_ok h1 hs
 | succ d =>
  obtain ⟨bs, rfl, h1, h2⟩ := h
  exact inr_ok h2.keys.1 h1 (fun e => h0 (by unfold inr; rw [e]; rfl)) hs
theorem NO.leaf {l : List Wrt} {d : Nat} {n : Nd} {lo : Str} {hi : Option Str} (h : NO l d n lo hi) : n.leaf = decide (d = 0) := by
 cases d with
 | zero => obtain ⟨ps, rfl, _⟩ := h; rfl
 | succ d => obtain ⟨ps, rfl, _⟩ := h; rfl
theorem TOk.there {l : List Wrt} {next : Int} (hnl : ∀ id x, tpage l id = some x → id < next) : ∀ {d : Nat} {id : Int} {lo : Str} {hi : Option Str}, TOk l d id lo hi → ∀ i ∈ idsOf l d id, i < next
 | 0, id, lo, hi, ⟨nd, ⟨x, hx, _⟩, _⟩, i, hi9 => by
  have : i = id := by simpa [idsOf] using hi9
  subst this; exact hnl _ _ hx
 | d + 1, id, lo, hi, ⟨nd, hN, h1, h2, h3⟩, i, hi9 => by
  rw [idsOf, hN.at] at hi9
  rcases List.mem_cons.1 hi9 with rfl | hi9
  ·obtain ⟨x, hx, _⟩ := hN; exact hnl _ _ hx
  ·obtain ⟨kid, hk, hi9⟩ := List.mem_flatMap.1 hi9
   obtain ⟨j, hj⟩ := mem_at hk
   exact TOk.there hnl (h3 j kid hj) i hi9
theorem Seg.there {l : List Wrt} {next : Int} (hnl : ∀ id x, tpage l id = some x → id < next) {d : Nat} {lo : Str} {hi : Option Str} {bs : List Br} (h : Seg l d lo hi bs) : ∀ i ∈ sids l d bs, i < next := by
 intro i hi9
 obtain ⟨b, hb, hi9⟩ := List.mem_flatMap.1 hi9
 obtain ⟨_, _, q⟩ := h.each b hb
 exact q.there hnl i hi9
def laidOf (next : Int) (ad : List Nd) (n : Nd) (ahead : Str) : List Br × List Nd :=
 if n.keys.length = 0 then ([], ad)
 else if nsize n ≤ 244 then ([(ahead, next + (ad.length : Int))], ad ++ [n])
 else ([(ahead, next + (ad.length : Int)), (n.keys.getD (midOf n) [], next + (ad.length : Int) + 1)], ad ++ [cutL n (midOf n), cutR n (midOf n)])
structure Laid (l : List Wrt) (next : Int) (ad ad' : List Nd) (d : Nat) (n : Nd) (ahead lo : Str) (hi : Option Str) (bs : List Br) : Prop where
 more : ∃ more, ad' = ad ++ more ∧ more.length ≤ 2 ∧ ∀ x ∈ more, NOk x
 prs : sprs (lp l next ad') d bs = nP (lp l next ad) d n
 nod : (sids (lp l next ad') d bs).Nodup
 ids : ∀ i ∈ sids (lp l next ad') d bs, i ∈ nI (lp l next ad) d n ∨ (next + (ad.length : Int) ≤ i ∧ i < next + (ad'.length : Int))
 seg : (bs = [] ∧ n.keys = []) ∨ (∃ k r, bs = (ahead, k) :: r ∧ Seg (lp l next ad') d lo hi bs)
 br : BrOk bs
 len : bs.length ≤ 2
theorem laid_len (next : Int) (ad : List Nd) (n : Nd) (ahead : Str) : ad.length ≤ (laidOf next ad n ahead).2.length ∧ (laidOf next ad n ahead).2.length ≤ ad.length + 2 := by
 unfold laidOf
 split
 ·exact ⟨Nat.le_refl _, Nat.le_add_right _ _⟩
 ·split <;> simp
theorem nodup_two {a b : Int} {x y : List Int} (h : (x ++ y).Nodup) (hab : a ≠ b) (ha : a ∉ x ++ y) (hb : b ∉ x ++ y) : ((a :: x) ++ (b :: y)).Nodup := by
 rw [List.nodup_append] at h ⊢
 simp only [List.mem_append, not_or] at ha hb
 refine ⟨List.nodup_cons.2 ⟨ha.1, h.1⟩, List.nodup_cons.2 ⟨hb.2, h.2.1⟩, fun p hp q hq e => ?_⟩
 subst e
 rcases List.mem_cons.1 hp with rfl | hp <;> rcases List.mem_cons.1 hq with h9 | hq
 ·exact hab h9
 ·exact ha.2 hq
 ·subst h9; exact hb.1 hp
 ·exact h.2.2 p hp p hq rfl
theorem laid_ok {l : List Wrt} {next : Int} {ad : List Nd} {d : Nat} {n : Nd} {ahead lo : Str} {hi : Option Str} (hnl : ∀ id x, tpage l id = some x → id < next) (hn1 : 1 ≤ next) (hN : NO (lp l next ad) d n lo hi) (hL : nsize n ≤ Lim d) (hnod : (nI (lp l next ad) d n).Nodup)
  (hold : ∀ i ∈ nI (lp l next ad) d n, i < next + (ad.length : Int)) (hM : next + ((laidOf next ad n ahead).2.length : Int) ≤ 65536) (hnb : n.leaf = true ∨ n.keys ≠ []) :
  Laid l next ad (laidOf next ad n ahead).2 d n ahead lo hi (laidOf next ad n ahead).1 := by
 unfold laidOf at hM ⊢
 by_cases h0 : n.keys.length = 0
 ·rw [if_pos h0] at hM ⊢
  have hk : n.keys = [] := List.eq_nil_of_length_eq_zero h0
  have hl : n.leaf = true := by
   rcases hnb with h | h
   ·exact h
   ·exact absurd hk h
  have hd : d = 0 := by have := hN.leaf; rw [hl] at this; simpa using this.symm
  subst hd
  refine ⟨⟨[], by simp, by simp, fun x hx => by cases hx⟩, ?_, by simp [sids], fun i hi => by simp [sids] at hi, .inl ⟨rfl, hk⟩, ⟨(fun b hb => by cases hb), (fun b hb => by cases hb)⟩, by simp⟩
  show sprs _ _ [] = npr n
  rw [npr, hk]; rfl
 ·rw [if_neg h0] at hM ⊢
  have hk : n.keys ≠ [] := fun e => h0 (by rw [e]; rfl)
  by_cases h1 : nsize n ≤ 244
  ·rw [if_pos h1] at hM ⊢
   dsimp only at hM ⊢
   have hok := hN.ok hk h1
   obtain ⟨hN2, e1, e2⟩ := hN.ext (ext_more l next ad [n])
   have his : NdIs (lp l next (ad ++ [n])) (next + ad.length) n := new_is hnl hok
   obtain ⟨t1, t2, t3⟩ := no_tok hN2 his hk
   have hM' : next + ((ad.length : Int) + 1) ≤ 65536 := by simpa using hM
   refine ⟨⟨[n], rfl, by simp, fun x hx => by simp at hx; subst hx; exact hok⟩, ?_, ?_, ?_, .inr ⟨_, [], rfl, t1⟩, ⟨(fun b hb => by cases hb), fun b hb => ?_⟩, by simp⟩
   ·simp only [sprs, List.flatMap_cons, List.flatMap_nil, List.append_nil]
    rw [t3, e1]
   ·simp only [sids, List.flatMap_cons, List.flatMap_nil, List.append_nil]
    rw [t2, e2, List.nodup_cons]
    exact ⟨fun h => by have := hold _ h; omega, hnod⟩
   ·intro i hi9
    simp only [sids, List.flatMap_cons, List.flatMap_nil, List.append_nil] at hi9
    rw [t2, e2] at hi9
    rcases List.mem_cons.1 hi9 with rfl | hi9
    ·exact .inr ⟨Int.le_refl _, by simp; omega⟩
    ·exact .inl hi9
   ·simp only [List.mem_singleton] at hb
    subst hb
    show 1 ≤ next + (ad.length : Int) ∧ next + (ad.length : Int) ≤ 65536
    omega
  ·rw [if_neg h1] at hM ⊢
   dsimp only at hM ⊢
   have hM' : next + ((ad.length : Int) + 2) ≤ 65536 := by simpa using hM
   have e9 : ad ++ [cutL n (midOf n), cutR n (midOf n)] = (ad ++ [cutL n (midOf n)]) ++ [cutR n (midOf n)] := by simp
   have e8 : (next + (ad.length : Int) + 1) = next + ((ad ++ [cutL n (midOf n)]).length : Int) := by simp; omega
   cases d with
   | zero =>
    obtain ⟨ps, rfl, hp, hin⟩ := hN
    have hw : ∀ y ∈ ps, pw y ≤ 98 := fun y hy => by have := hp.2 y hy; unfold pw; omega
    obtain ⟨m1, m2, m3, m4⟩ := leaf_cut hw (by omega) hL
    obtain ⟨m, hm⟩ : ∃ m, m = midOf (lf ps) := ⟨_, rfl⟩
    rw [← hm] at m1 m2 m3 m4 e9 e8 ⊢
    rw [cutL_lf, cutR_lf] at e9 ⊢
    rw [cutL_lf] at e8
    have hr := hp.1
    have eps : ps.take m ++ ps.drop m = ps := List.take_append_drop m ps
    have hr2 := hr
    rw [← eps, List.map_append] at hr2
    obtain ⟨r1, r2, r3⟩ := List.pairwise_append.1 hr2
    have hgk : (lf ps).keys.getD m [] = ps[m].1 := by simp [lf, m2]
    rw [hgk]
    have hdr : ps.drop m = ps[m] :: ps.drop (m + 1) := List.drop_eq_getElem_cons m2
    have okL : NOk (lf (ps.take m)) := lf_ok ⟨r1, fun y hy => hp.2 y (List.mem_of_mem_take hy)⟩ m3
    have okR : NOk (lf (ps.drop m)) := lf_ok ⟨r2, fun y hy => hp.2 y (List.mem_of_mem_drop hy)⟩ m4
    have isL : NdIs (lp l next (ad ++ [lf (ps.take m), lf (ps.drop m)])) (next + ad.length) (lf (ps.take m)) := new_is hnl okL
    have isR : NdIs (lp l next (ad ++ [lf (ps.take m), lf (ps.drop m)])) (next + (ad.length : Int) + 1) (lf (ps.drop m)) := by rw [e9, e8]; exact new_is hnl okR
    have hmm : ps[m].1 ∈ (ps.drop m).map (·.1) := List.mem_map.2 ⟨ps[m], by rw [hdr]; exact List.mem_cons_self .., rfl⟩
    obtain ⟨a1, a2, a3⟩ := lf_tok (lo := lo) (hi := some ps[m].1) isL (fun e => by have := congrArg List.length e; simp only [List.length_take, List.length_nil] at this; omega) (fun y hy => by
     have h8 := hin y (List.mem_of_mem_take hy)
     simp only [Go.Proofs.Ytmmjdacjcipgjaa.kin, Bool.and_eq_true, Bool.not_eq_true'] at h8 ⊢
     exact ⟨h8.1, r3 y.1 (List.mem_map.2 ⟨y, hy, rfl⟩) _ hmm⟩)
    obtain ⟨b1, b2, b3⟩ := lf_tok (lo := ps[m].1) (hi := hi) isR (fun e => by have := congrArg List.length e; simp only [List.length_drop, List.length_nil] at this; omega) (fun y hy => by
     have h8 := hin y (List.mem_of_mem_drop hy)
     simp only [Go.Proofs.Ytmmjdacjcipgjaa.kin, Bool.and_eq_true, Bool.not_eq_true'] at h8 ⊢
     refine ⟨?_, h8.2⟩
     rw [hdr] at hy r2
     rcases List.mem_cons.1 hy with rfl | hy
     ·exact slt_irr _
     ·rw [List.map_cons] at r2
      exact slt_asym ((List.pairwise_cons.1 r2).1 y.1 (List.mem_map.2 ⟨y, hy, rfl⟩)))
    refine ⟨⟨_, rfl, by simp, fun x hx => ?_⟩, ?_, ?_, ?_, .inr ⟨_, _, rfl, a1, b1⟩, ⟨fun b hb => ?_, fun b hb => ?_⟩, by simp⟩
    ·simp at hx; rcases hx with rfl | rfl
     ·exact okL
     ·exact okR
    ·simp only [sprs, List.flatMap_cons, List.flatMap_nil, List.append_nil]
     rw [a3, b3, eps, nP, npr_lf]
    ·simp only [sids, List.flatMap_cons, List.flatMap_nil, List.append_nil]
     rw [a2, b2]
     refine List.nodup_append.2 ⟨by simp, by simp, fun a ha b hb e => ?_⟩
     simp only [List.mem_singleton] at ha hb
     omega
    ·intro i hi9
     simp only [sids, List.flatMap_cons, List.flatMap_nil, List.append_nil] at hi9
     rw [a2, b2] at hi9
     refine .inr ?_
     simp at hi9 ⊢
     omega
    ·simp only [List.tail_cons, List.mem_singleton] at hb
     subst hb
     exact (hp.2 ps[m] (List.getElem_mem m2)).1
    ·simp only [List.mem_cons, List.not_mem_nil, or_false] at hb
     rcases hb with rfl | rfl
     ·show 1 ≤ next + (ad.length : Int) ∧ next + (ad.length : Int) ≤ 65536
      omega
     ·show 1 ≤ next + (ad.length : Int) + 1 ∧ next + (ad.length : Int) + 1 ≤ 65536
      omega
   | succ d =>
    have hNe := hN.ext (ext_more l next ad [cutL n (midOf n), cutR n (midOf n)])
    obtain ⟨bs, rfl, hb, hsg⟩ := hN
    cases bs with
    | nil => exact hsg.elim
    | cons b0 r =>
     have hw : ∀ y ∈ r, bw y ≤ 37 := fun y hy => by have := hb.1 y (by simpa using hy); unfold bw; omega
     obtain ⟨m1, m2, m3, m4⟩ := inr_cut hw (by omega) hL
     obtain ⟨m, hm⟩ : ∃ m, m = midOf (inr (b0 :: r)) := ⟨_, rfl⟩
     rw [← hm] at m1 m2 m3 m4 e9 e8 hNe ⊢
     rw [cutL_inr, cutR_inr] at e9 hNe ⊢
     rw [cutL_inr] at e8
     have hml : m < r.length := by omega
     have hgk : (inr (b0 :: r)).keys.getD m [] = r[m].1 := by simp [inr, hml]
     rw [hgk]
     have hdr : r.drop m = r[m] :: r.drop (m + 1) := List.drop_eq_getElem_cons hml
     have eb : b0 :: r = (b0 :: r.take m) ++ r[m] :: r.drop (m + 1) := by rw [List.cons_append, ← hdr, List.take_append_drop]
     obtain ⟨L2, hL2⟩ : ∃ L, L = lp l next (ad ++ [inr (b0 :: r.take m), inr (r.drop m)]) := ⟨_, rfl⟩
     rw [← hL2] at hNe
     obtain ⟨⟨bs', ebs, _, sg2⟩, e1, e2⟩ := hNe
     have sg : Seg L2 d lo hi (b0 :: r) := by rw [hL2]; exact hsg.ext (ext_more l next ad _)
     have sgk := sg.keys.1
     rw [eb, seg_app (by simp)] at sg
     have kr : Rise (r.map (·.1)) := sgk
     rw [← List.take_append_drop m r, List.map_append] at kr
     obtain ⟨r1, r2, r3⟩ := List.pairwise_append.1 kr
     have okL : NOk (inr (b0 :: r.take m)) := inr_ok r1 ⟨fun b h9 => hb.1 b (List.mem_of_mem_take h9), fun b h9 => hb.2 b (by rcases List.mem_cons.1 h9 with rfl | h9; exact List.mem_cons_self ..; exact List.mem_cons_of_mem _ (List.mem_of_mem_take h9))⟩ (fun e => by have := congrArg List.length e; simp only [List.tail_cons, List.length_take, List.length_nil] at this; omega) m3
     have okR : NOk (inr (r.drop m)) := by
      refine inr_ok ?_ ⟨fun b h9 => hb.1 b (List.mem_of_mem_drop (List.mem_of_mem_tail h9)), fun b h9 => hb.2 b (List.mem_cons_of_mem _ (List.mem_of_mem_drop h9))⟩ (fun e => by have := congrArg List.length e; simp only [List.length_tail, List.length_drop, List.length_nil] at this; omega) m4
      rw [hdr, List.map_cons] at r2
      rw [hdr]
      exact (List.pairwise_cons.1 r2).2
     have isL : NdIs L2 (next + ad.length) (inr (b0 :: r.take m)) := by rw [hL2]; exact new_is hnl okL
     have isR : NdIs L2 (next + (ad.length : Int) + 1) (inr (r.drop m)) := by rw [hL2, e9, e8]; exact new_is hnl okR
     obtain ⟨a1, a2, a3⟩ := seg_tok isL sg.1
     rw [← hdr] at sg
     obtain ⟨b1, b2, b3⟩ := seg_tok isR sg.2
     have es : sids L2 d (b0 :: r.take m) ++ sids L2 d (r.drop m) = nI (lp l next ad) (d + 1) (inr (b0 :: r)) := by
      rw [← sids_app, List.cons_append, List.take_append_drop, ← e2, nI, sids_inr]
     have ep : sprs L2 d (b0 :: r.take m) ++ sprs L2 d (r.drop m) = nP (lp l next ad) (d + 1) (inr (b0 :: r)) := by
      rw [← sprs_app, List.cons_append, List.take_append_drop, ← e1, nP, sprs_inr]
     refine ⟨⟨_, rfl, by simp, fun x hx => ?_⟩, ?_, ?_, ?_, .inr ⟨_, _, rfl, ?_⟩, ⟨fun b h9 => ?_, fun b h9 => ?_⟩, by simp⟩
     ·simp at hx; rcases hx with rfl | rfl
      ·exact okL
      ·exact okR
     ·rw [← hL2]
      simp only [sprs, List.flatMap_cons, List.flatMap_nil, List.append_nil]
      rw [a3, b3, ep]
     ·rw [← hL2]
      simp only [sids, List.flatMap_cons, List.flatMap_nil, List.append_nil]
      rw [a2, b2]
      rw [← es] at hnod hold
      exact nodup_two hnod (by omega) (fun h => by have := hold _ h; omega) (fun h => by have := hold _ h; omega)
     ·rw [← hL2]
      intro i hi9
      simp only [sids, List.flatMap_cons, List.flatMap_nil, List.append_nil] at hi9
      rw [a2, b2] at hi9
      rw [← es]
      simp only [List.cons_append, List.mem_cons, List.mem_append] at hi9
      rcases hi9 with rfl | hi9 | rfl | hi9
      ·exact .inr ⟨Int.le_refl _, by simp; omega⟩
      ·exact .inl (List.mem_append_left _ hi9)
      ·exact .inr ⟨by omega, by simp; omega⟩
      ·exact .inl (List.mem_append_right _ hi9)
     ·rw [← hL2]; exact ⟨a1, b1⟩
     ·simp only [List.tail_cons, List.mem_singleton] at h9
      subst h9
      exact hb.1 r[m] (by simp)
     ·simp only [List.mem_cons, List.not_mem_nil, or_false] at h9
      rcases h9 with rfl | rfl
      ·show 1 ≤ next + (ad.length : Int) ∧ next + (ad.length : Int) ≤ 65536
       omega
      ·show 1 ≤ next + (ad.length : Int) + 1 ∧ next + (ad.length : Int) + 1 ≤ 65536
       omega
end Go.Proofs.Ytmmjdacjcipgjaa
