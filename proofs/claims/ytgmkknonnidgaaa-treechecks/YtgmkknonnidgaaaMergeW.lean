/- Several texts in one. -/
import Derived.Deep.QuietTactic
import Derived.BigQuiet
import Derived.Laws.Cover1
import Derived.Test.YtgmkknonnidgaaaMergeA
import Derived.Test.YtgmkknonnidgaaaMergeD
import Derived.Maps.OwnSet
import Derived.Test.YtgmkknonnidgaaaNBase
import Derived.Test.YtgmkknonnidgaaaNRr
import Derived.Test.YtgmkknonnidgaaaNSame
import Derived.Test.YtgmkknonnidgaaaMergeQ
import Derived.Test.YtgmkknonnidgaaaStep
import Derived.Test.YtgmkknonnidgaaaNOf
/-
  The program's spans: lacks, ofKid, and whether a list has a key outside.
-/
namespace Go.Proofs.Ytgmkknonnidgaaa
open Go.RowKit
set_option linter.unusedVariables false
set_option linter.unusedSimpArgs false

/-- a span: no end is the empty key -/
abbrev sv (lo : Str) (hi : Option Str) : Value := .agg #[st lo, st (hi.getD [])]
def HiOk (hi : Option Str) : Prop := hi ≠ some []
theorem kin_ok {hi : Option Str} (h : HiOk hi) (lo x : Str) : kin lo hi x = (!slt x lo && (hi.getD [] == [] || slt x (hi.getD []))) := by
  cases hi with
  | none => simp [kin]
  | some y =>
    have : y ≠ [] := fun e => h (by rw [e])
    cases y with
    | nil => exact absurd rfl this
    | cons a r => simp [kin]
set_option maxRecDepth 100000 in
set_option maxHeartbeats 2000000 in
theorem placks_any (w : World) (lo : Str) (hi : Option Str) (k : Str) (hh : HiOk hi) : Calls Try.prog 33 #[sv lo hi, st k] w fun e w' => e = .returned (.bool (!kin lo hi k)) ∧ Below w.heap.size w w' := by
  have hk := hide (kin_ok hh lo k)
  dsimp only [sv]
  obtain ⟨h, hhi⟩ : ∃ h, h = hi.getD [] := ⟨_, rfl⟩
  rw [← hhi] at hk ⊢
  clear hhi hh
  obtain ⟨R, hR⟩ : ∃ R, R = kin lo hi k := ⟨_, rfl⟩
  rw [← hR] at hk ⊢
  clear hR hi
  obtain ⟨W, hW, D, bW, sW⟩ := boxedN w #[st lo, st h] 79
  obtain ⟨⟨D0, D1⟩, _⟩ := cells2r D
  have HB := hide bW
  rw [hW] at D0 D1 HB
  clear D bW hW sW
  go_enter Try.func33, Try.ntmps33
  cases h1 : Op.bytesLess k lo with
  | true =>
    have hr : Hid (R = false) := by show _ = _; rw [hk.out, show slt k lo = true from h1]; rfl
    go_wp2
    go_ret
    rw [hr.out]
    exact ⟨rfl, HB.out⟩
  | false =>
    cases h with
    | nil =>
      have hr : Hid (R = true) := by show _ = _; rw [hk.out, show slt k lo = false from h1]; rfl
      go_wp2
      go_ret
      rw [hr.out]
      exact ⟨rfl, HB.out⟩
    | cons a r =>
      have hr : Hid (R = Op.bytesLess k (a :: r)) := by show _ = _; rw [hk.out, show slt k lo = false from h1]; rfl
      obtain ⟨h, hh⟩ : ∃ h, h = a :: r := ⟨_, rfl⟩
      rw [← hh] at hr D1 HB ⊢
      have hem : h.isEmpty = false := by rw [hh]; rfl
      have hem2 : (h == []) = false := by rw [hh]; rfl
      have hem3 : ¬ h = [] := by rw [hh]; simp
      replace hh := hide hh
      go_wp2
      go_ret
      rw [hr.out]
      exact ⟨rfl, HB.out⟩

/-- a span in its box, and the box of the answer -/
def SpI (w wx : World) (x y : Value) : Prop := wx.heap[w.heap.size]? = some (.cells #[x, y] 79 (0, 0)) ∧ wx.heap[w.heap.size + 1]? = some (.cells #[st [], st []] 79 (0, 0)) ∧ Below w.heap.size w wx
theorem SpI.put0 {w wx : World} {x y : Value} (h : SpI w wx x y) (z : Value) : SpI w (wx.setCell ⟨w.heap.size, 0, none⟩ z) z y :=
  ⟨(heap_set2r h.1 z).1, (Below.heap_setCell _ _ _ _ (show w.heap.size + 1 ≠ w.heap.size by omega)).trans h.2.1, h.2.2.setCell (Nat.le_refl _) _⟩
theorem SpI.put1 {w wx : World} {x y : Value} (h : SpI w wx x y) (z : Value) : SpI w (wx.setCell ⟨w.heap.size, 1, none⟩ z) x z :=
  ⟨(heap_set2r h.1 z).2, (Below.heap_setCell _ _ _ _ (show w.heap.size + 1 ≠ w.heap.size by omega)).trans h.2.1, h.2.2.setCell (Nat.le_refl _) _⟩
theorem info_sp : (Try.prog.info? 79).map (·.size) = some 2 := by kernel_rfl
set_option maxRecDepth 100000 in
set_option maxHeartbeats 2000000 in
theorem pofkid_any (w : World) (lo : Str) (hi : Option Str) (kv : Value) (nd : Nd) (i : Nat) (h : RdT w kv nd.keys) (hi9 : i ≤ nd.keys.length) : Calls Try.prog 65 #[sv lo hi, kv, .int .i64 i] w fun e w' =>
    e = .returned (sv (kidLo nd lo i) (kidHi nd hi i)) ∧ Below w.heap.size w w' := by
  obtain ⟨a, c, rfl⟩ := h.slice
  have lb := h.bd
  obtain ⟨K, hK⟩ : ∃ K, K = nd.keys.length := ⟨_, rfl⟩
  dsimp only [sv]
  obtain ⟨hs, hhs⟩ : ∃ x, x = hi.getD [] := ⟨_, rfl⟩
  rw [← hhs]
  rw [← hK] at h lb hi9 ⊢
  replace hK := hide hK
  replace hhs := hide hhs
  obtain ⟨W, hW, D, bW, sW⟩ := boxedN w #[st lo, st hs] 79
  obtain ⟨X, hX, DX, bX, sX⟩ := boxedN W #[st [], st []] 79
  have HH := hide (h.to0 (bW.trans (bX.mono bW.size)))
  have HB := hide (bW.trans (bX.mono bW.size))
  have D' := (bX.block _ (lt_of_block D)).trans D
  obtain ⟨⟨D0, D1⟩, DF⟩ := cells2r D'
  obtain ⟨⟨X0, X1⟩, XF⟩ := cells2r DX
  rw [sW] at DX X0 X1 XF
  have BX := hide (And.intro D' DX)
  have H9 : Hid (∀ w9, Below w.heap.size w w9 → RdT w9 (.slice a K c) nd.keys) := fun w9 b => h.to0 b
  have HHb : Hid (∀ {y : Str} {j b4 off4 : Nat}, nd.keys[j]? = some y → a = some ⟨b4, off4, none⟩ → b4 < w.heap.size) := fun {y j b4 off4} hy e => by
    obtain ⟨b', off', e', hc⟩ := h.strAt hy
    rw [e] at e'
    simp only [Option.some.injEq, Addr.mk.injEq, and_true] at e'
    obtain ⟨rfl, rfl⟩ := e'
    exact cell_lt hc
  clear h D bW bX D' DX
  go_enter Try.func65, Try.ntmps65
  go_upto_if 8 with fail
  rw [← hW, ← hX]
  replace hW := hide hW
  replace hX := hide hX
  replace sW := hide sW
  replace sX := hide sX
  go_cut [] from 8 to 14 (fun wx => Hid (SpI w wx (st (kidLo nd lo i)) (st hs) ∧ RdT wx (.slice a K c) nd.keys))
  case first =>
    by_cases h0 : i = 0
    · have hq2 : ¬ (0 : Int) < (i : Int) := by omega
      have hl : Hid (kidLo nd lo i = lo) := by show _ = _; rw [kidLo, if_pos h0]
      replace h0 := hide h0
      go_wp2_with fail
      go_meet
      case rel => exact ⟨⟨by rw [hl.out]; exact BX.out.1, BX.out.2, HB.out⟩, HH.out⟩
    · have hq2 : (0 : Int) < (i : Int) := by omega
      obtain ⟨j, hj⟩ : ∃ j, i = j + 1 := ⟨i - 1, by omega⟩
      obtain ⟨y, hy⟩ := some_el nd.keys (k := j) (by rw [← hK.out]; omega)
      have hl : Hid (kidLo nd lo i = y) := by show _ = _; rw [kidLo, if_neg h0, hj, Nat.add_sub_cancel, List.getD_eq_getElem?_getD, hy]; rfl
      obtain ⟨b4, off4, rfl, hc4⟩ := HH.out.strAt hy
      have hj1 : (i : Int) - 1 = (j : Int) := by omega
      have hj2 : IntKind.i64.wrap (j : Int) = (j : Int) := IntWalk.i64_in _ (by omega)
      have hj3 : (j : Int) < (K : Int) := by omega
      have hb4 : b4 < w.heap.size := HHb.out hy rfl
      have FF : Hid (SpI w (X.setCell ⟨w.heap.size, 0, none⟩ (st y)) (st y) (st hs) ∧ RdT (X.setCell ⟨w.heap.size, 0, none⟩ (st y)) (.slice (some ⟨b4, off4, none⟩) K c) nd.keys) := ⟨SpI.put0 ⟨BX.out.1, BX.out.2, HB.out⟩ _, H9.out _ (HB.out.setCell (Nat.le_refl _) _)⟩
      replace h0 := hide h0
      replace hj := hide hj
      replace hy := hide hy
      go_wp2_with fail
      go_meet
      case rel => rw [hl.out]; exact FF
  case rest =>
    clear HB HH BX D0 D1 DF X0 X1 XF
    obtain ⟨⟨D0, D1⟩, DF⟩ := cells2r hcut.out.1.1
    obtain ⟨⟨X0, X1⟩, XF⟩ := cells2r hcut.out.1.2.1
    go_upto_if 18 with fail
    go_cut [] from 18 to 23 (fun wx => Hid (SpI w wx (st (kidLo nd lo i)) (st ((kidHi nd hi i).getD []))))
    case first =>
      by_cases h0 : i < K
      · have hq2 : (i : Int) < (K : Int) := by omega
        obtain ⟨y, hy⟩ := some_el nd.keys (k := i) (by rw [← hK.out]; omega)
        have hl : Hid (kidHi nd hi i = some y) := by show _ = _; rw [kidHi, if_pos (by rw [← hK.out]; exact h0), List.getD_eq_getElem?_getD, hy]; rfl
        obtain ⟨b4, off4, rfl, hc4⟩ := hcut.out.2.strAt hy
        have FF : Hid (SpI w (wc.setCell ⟨w.heap.size, 1, none⟩ (st y)) (st (kidLo nd lo i)) (st y)) := SpI.put1 hcut.out.1 _
        replace hy := hide hy
        go_wp2_with fail
        go_meet
        case rel => rw [hl.out]; exact FF
      · have hq2 : ¬ (i : Int) < (K : Int) := by omega
        have hl : Hid (kidHi nd hi i = hi) := by show _ = _; rw [kidHi, if_neg (by rw [← hK.out]; exact h0)]
        go_wp2_with fail
        go_meet
        case rel => rw [hl.out, ← hhs.out]; exact hcut.out.1
    case rest =>
      clear D0 D1 DF X0 X1 XF
      obtain ⟨⟨D0, D1⟩, DF⟩ := cells2r hcut.out.1
      obtain ⟨⟨X0, X1⟩, XF⟩ := cells2r hcut.out.2.1
      go_wp2
      refine retN rfl rfl (w.heap.size + 1) rfl _ _ _ (heap_set2 hcut.out.2.1 _ _) _ Try.underlying79 rfl info_sp ?_
      exact ⟨rfl, below_set2 hcut.out.2.2 (show w.heap.size ≤ w.heap.size + 1 by omega) _ _⟩

theorem BoolR.no' {p : Prop} {w w' : World} {b : Bool} (hb : b = false) (h : ¬ p) (k : Below w.heap.size w w') : BoolR p w w' (.returned (.bool b)) := by subst hb; exact BoolR.no h k
theorem BoolR.yes' {p : Prop} {w w' : World} {b : Bool} (hb : b = true) (h : p) (k : Below w.heap.size w w') : BoolR p w w' (.returned (.bool b)) := by subst hb; exact BoolR.yes h k
/-- a key of the list lies outside -/
def Outs (lo : Str) (hi : Option Str) (l : List Str) : Prop := l.all (kin lo hi) = false
/-- what IndexFunc answers -/
def IdxR (p : Prop) (w w' : World) (e : Ending) : Prop := ∃ k : Int, e = .returned (.int .i64 k) ∧ ((0 ≤ k ∧ p) ∨ (k < 0 ∧ ¬ p)) ∧ Below w.heap.size w w'
set_option maxRecDepth 100000 in
set_option maxHeartbeats 2000000 in
theorem pidx_any (w : World) (lo : Str) (hi : Option Str) (hh : HiOk hi) (kv : Value) (l : List Str) (h : RdT w kv l) : Calls Try.prog 82 #[kv, .func (.func 33) #[sv lo hi] #[]] w fun e w' =>
    IdxR (Outs lo hi l) w w' e := by
  obtain ⟨a, c, rfl⟩ := h.slice
  have lb := h.bd
  obtain ⟨K, hK⟩ : ∃ K, K = l.length := ⟨_, rfl⟩
  rw [← hK] at h lb ⊢
  replace hK := hide hK
  have HH := hide h
  have KL := hide (fun w k => placks_any w lo hi k hh)
  dsimp only [sv] at KL ⊢
  generalize hi.getD [] = hs at *
  clear h hh
  go_enter Try.func82, Try.ntmps82
  go_wp2
  go_loopw [8] (fun p wr => ∃ i : Nat, i ≤ K ∧ p = .int .i64 i ∧ Hid (Below w.heap.size w wr ∧ ∀ j k, j < i → l[j]? = some k → kin lo hi k = true)) (fun p _ => K - (intOf p).toNat)
  case atStart => exact ⟨0, Nat.zero_le _, rfl, hide ⟨Below.refl _ _, fun j k h => by omega⟩⟩
  case round =>
    obtain ⟨i, hi9, rfl, hI⟩ := hrel
    by_cases hlt : i < K
    · have hq : (i : Int) < (K : Int) := by omega
      obtain ⟨y, hy⟩ := some_el l (k := i) (by rw [← hK.out]; exact hlt)
      obtain ⟨b, off, rfl, hc⟩ := (HH.out.to0 hI.out.1).strAt hy
      replace hy := hide hy
      go_wp2_with fail
      refine (KL.out _ _).mono ?_
      rintro e w1 ⟨rfl, b1⟩
      have HE := hide (hI.out.1.trans (b1.mono hI.out.1.size))
      clear b1
      cases hkv : kin lo hi y with
      | false =>
        have hz : Hid (Outs lo hi l) := by
          show _ = _
          rw [List.all_eq_false]
          exact ⟨y, List.mem_of_getElem? hy.out, by simp [hkv]⟩
        replace hkv := hide hkv
        go_wp2
        go_ret
        exact ⟨_, rfl, .inl ⟨by omega, hz.out⟩, HE.out⟩
      | true =>
        have hI' : Hid (Below w.heap.size w w1 ∧ ∀ j k, j < i + 1 → l[j]? = some k → kin lo hi k = true) := ⟨HE.out, fun j k hj hk => by
          by_cases e : j = i
          · subst e
            rw [hy.out] at hk
            simp only [Option.some.injEq] at hk
            subst hk; exact hkv
          · exact hI.out.2 j k (by omega) hk⟩
        replace hkv := hide hkv
        go_wp2
        go_roundw
        case rel => exact ⟨i + 1, by omega, by go_num, hI'⟩
        case measure => simp [intOf]; omega
    · have hq : ¬ (i : Int) < (K : Int) := by omega
      have hz : Hid (¬ Outs lo hi l) := fun h => by
        unfold Outs at h
        rw [all_kin fun j k hk => hI.out.2 j k (by have := (List.getElem?_eq_some_iff.1 hk).1; rw [← hK.out] at this; omega) hk] at h
        cases h
      go_wp2
      go_ret
      exact ⟨_, rfl, .inr ⟨by decide, hz.out⟩, hI.out.1⟩
set_option maxRecDepth 100000 in
set_option maxHeartbeats 2000000 in
theorem pcont_any (w : World) (lo : Str) (hi : Option Str) (hh : HiOk hi) (kv : Value) (l : List Str) (h : RdT w kv l) : Calls Try.prog 63 #[kv, .func (.func 33) #[sv lo hi] #[]] w fun e w' =>
    BoolR (Outs lo hi l) w w' e := by
  have KI := hide (pidx_any w lo hi hh kv l h)
  go_enter Try.func63, Try.ntmps63
  go_wp2_with fail
  refine KI.out.mono ?_
  rintro e w1 ⟨k, rfl, hp, b1⟩
  rcases hp with ⟨h0, hp⟩ | ⟨h0, hp⟩
  · have HP := hide hp
    have h1 : decide (0 ≤ k) = true := decide_eq_true h0
    clear hp
    go_wp2
    go_ret
    exact BoolR.yes' rfl HP.out b1
  · have HP := hide hp
    have h1 : decide (0 ≤ k) = false := decide_eq_false (by omega)
    clear hp
    go_wp2
    go_ret
    exact BoolR.no' rfl HP.out b1
end Go.Proofs.Ytgmkknonnidgaaa

/-
  A map from numbers to values that a call has made: looked up and stored into.
-/
namespace Go.Proofs.Ytgmkknonnidgaaa
open Go.RowKit Go.Maps
set_option linter.unusedVariables false

/-- an element is held as it is -/
def rdH (v : Value) : Option (DataW Value × List MemPlace) := some (.held v, [])
/-- block b is a map of at most n entries, which has what m has -/
def MapI (w : World) (b n : Nat) (m : Int → Option Value) : Prop :=
  ∃ D : DataW Value, w.ownsMap Try.prog 3 rdH b n D ∧ ∀ i, (Lit.int .i64 i).wf = true → Maps.has D (.int .i64 i) = (m i).isSome ∧ ∀ z, D.atKey (.int .i64 i) z = (match m i with | some v => .held v | none => z)
theorem keyI : Keyed Try.prog 3 := int_keyed Try.underlying3
theorem keyOfI {i : Int} (h : (Lit.int .i64 i).wf = true) : keyOf Try.prog 3 (.int .i64 i) = some (.int .i64 i) := keyOf_int_mk Try.underlying3 h
theorem MapI.made (w : World) : MapI (w.alloc (.map #[] 0)) w.heap.size 0 fun _ => none :=
  ⟨.map [], World.ownsMap_made _ _ _ _, fun i _ => ⟨rfl, fun z => rfl⟩⟩
theorem MapI.kept {w w' : World} {b n : Nat} {m : Int → Option Value} (h : MapI w b n m) (e : w'.heap[b]? = w.heap[b]?) : MapI w' b n m := by
  obtain ⟨D, ⟨es, c, hb, r⟩, r2⟩ := h
  exact ⟨D, ⟨es, c, e.trans hb, r⟩, r2⟩
theorem MapI.lt {w : World} {b n : Nat} {m : Int → Option Value} (h : MapI w b n m) : b < w.heap.size := by
  obtain ⟨D, h, _⟩ := h
  exact h.lt
theorem MapI.ne {w : World} {b n : Nat} {m : Int → Option Value} (h : MapI w b n m) {g : Nat} {cs : Array Value} {t : TypeId} {fr : Nat × Nat} (hg : w.heap[g]? = some (.cells cs t fr)) : b ≠ g := by
  obtain ⟨D, ⟨es, c, hb, r⟩, _⟩ := h
  intro e
  rw [e, hg] at hb
  cases hb
theorem MapI.mono {w : World} {b n n' : Nat} {m : Int → Option Value} (h : MapI w b n m) (hn : n ≤ n') : MapI w b n' m := by
  obtain ⟨D, h, r⟩ := h
  exact ⟨D, h.mono hn, r⟩
theorem MapI.look {w : World} {b n : Nat} {m : Int → Option Value} (h : MapI w b n m) {t e : TypeId} (ht : Try.prog.underlying t = some (.map 3 e)) {z : Value} (hz : (zeroValue e).run Try.prog w = .ok z w) {i : Int} (hi : (Lit.int .i64 i).wf = true) (c : Bool) :
    (Instr.lookup t (.map (some b)) (.int .i64 i) c).run Try.prog w = .ok (if c then .tuple #[(m i).getD z, .bool (m i).isSome] else (m i).getD z) w := by
  obtain ⟨D, h, r⟩ := h
  obtain ⟨es, clock, hb, F, _, rfl⟩ := h
  obtain ⟨r1, r2⟩ := r i hi
  rcases Maps.fit_look c keyI ht hz hb F (keyOfI hi) with ⟨hrun, _, hat⟩ | ⟨e0, y, _, _, hrun, hRv, hat, _⟩
  · have hs : (m i).isSome = false := by
      cases hm : m i with
      | none => rfl
      | some v =>
        have h1 := r2 .nil
        rw [hm, hat] at h1
        cases h1
    have hm : m i = none := by simpa using hs
    rw [hrun, hm]; rfl
  · have h1 := r2 .nil
    rw [hat] at h1
    have hy : y = (.held e0.val, []) := by
      have : some (DataW.held e0.val, []) = some y := hRv
      simpa using this.symm
    rw [hy] at h1
    cases hm : m i with
    | none => rw [hm] at h1; cases h1
    | some v =>
      rw [hm] at h1
      simp only [DataW.held.injEq] at h1
      subst h1
      rw [hrun]; rfl
theorem MapI.store {w : World} {b n : Nat} {m : Int → Option Value} (h : MapI w b n m) {t e : TypeId} (ht : Try.prog.underlying t = some (.map 3 e)) (hn : n < maxLen) {i : Int} (hi : (Lit.int .i64 i).wf = true) (v : Value) :
    ∃ w', (Instr.mapUpdate t (.map (some b)) (.int .i64 i) v).run Try.prog w = .ok () w' ∧ MapI w' b (n + 1) (fun j => if j = i then some v else m j) ∧ w.grownBy w' (some b) := by
  obtain ⟨D, h, r⟩ := h
  have hm := h.isMap
  have hkl := keyI.key (keyOfI hi)
  obtain ⟨w', h1, h2, h3⟩ := h.update keyI ht hn (keyOfI hi) (show rdH v = some (.held v, []) from rfl)
  refine ⟨w', h1, ⟨_, h2, fun j hj => ?_⟩, h3⟩
  dsimp only
  by_cases e : j = i
  · subst e
    rw [if_pos rfl]
    exact ⟨has_put_same hm hkl _, fun z => atKey_put_same hm hkl _ _⟩
  · rw [if_neg e]
    have hne : (Lit.int .i64 j) ≠ .int .i64 i := fun h => e (by simpa using h)
    exact ⟨(has_put_other hne _).trans (r j hj).1, fun z => (atKey_put_other hne _ _).trans ((r j hj).2 z)⟩
end Go.Proofs.Ytgmkknonnidgaaa

/-
  Lists of pairs of the call's own; a pair is appended.
-/
namespace Go.Proofs.Ytgmkknonnidgaaa
open Go.RowKit
set_option linter.unusedVariables false
set_option linter.unusedSimpArgs false

/-- the cells of pairs -/
def pcl (l : List Pr) : List Value := l.flatMap fun y => [st y.1, st y.2]
theorem pcl_app (l m : List Pr) : pcl (l ++ m) = pcl l ++ pcl m := by unfold pcl; rw [List.flatMap_append]
theorem pcl_len (l : List Pr) : (pcl l).length = l.length * 2 := by
  induction l with
  | nil => rfl
  | cons y r ih => show ([st y.1, st y.2] ++ pcl r).length = _; rw [List.length_append, ih]; simp; omega
abbrev OwnP (B : Nat) (w : World) (v : Value) (l : List Pr) : Prop := w.ownsRow B 74 2 v l.length (pcl l)
theorem OwnP.own {B : Nat} {w : World} {v : Value} {l : List Pr} (h : OwnP B w v l) : Own (Shp.list 74 SPr) B w [v] l := by
  have each : ∀ l : List Pr, ownEach SPr w [] (pcl l) l := by
    intro l
    induction l with
    | nil => exact ⟨rfl, rfl⟩
    | cons x r ih => exact ⟨[], [], [st x.1, st x.2], pcl r, rfl, rfl, ⟨[st x.1], [st x.2], [], [], rfl, rfl, ⟨rfl, rfl⟩, ⟨rfl, rfl⟩⟩, ih⟩
  refine ⟨v.ownBlock.toList, ⟨v, _, [], rfl, ?_, each l, by simp⟩, ?_, fun b hb => (World.ownsRow.lt h b (by simpa using hb)).1⟩
  · exact rows_base h fun _ _ => Nat.zero_le _
  · cases v.ownBlock <;> simp
theorem OwnP.rd {B : Nat} {w : World} {v : Value} {l : List Pr} (h : OwnP B w v l) : RdP w v l := h.own.rdS
theorem infoP : (Try.prog.info? 74).map (fun i => (i.zero, i.size, i.bytes)) = some (some (.agg #[.string ⟨#[]⟩, .string ⟨#[]⟩]), 2, 32) := by kernel_rfl
theorem one_pcl (l : List Pr) : ∀ u ∈ pcl l, u.oneCell' = true := by
  intro u hu
  obtain ⟨y, _, hy⟩ := List.mem_flatMap.1 hu
  simp at hy
  rcases hy with rfl | rfl <;> rfl

theorem wpList_appP {ops : Array Oper} {rest : List Oper} {o : Oper} {a : Act} {w : World} {Q : Exit → Act → World → Prop} (hgd : o.guard = none) (s x : Operand)
    (ho : o.op = .call { callee := .builtin .append, args := #[s, x], argTypes := #[30, 30] }) (B : Nat) (v : Value) (xs : List Pr) (y : Pr) (g : Nat) (hs : a.eval s = v) (hx : a.eval x = .slice (some ⟨g, 0, none⟩) 1 1)
    (hown : OwnP B w v xs) (hc1 : w.cell? ⟨g, 0, none⟩ = some (st y.1)) (hc2 : w.cell? ⟨g, 1, none⟩ = some (st y.2)) (hlen : (xs.length + 1) * 32 ≤ 140737488355328) (hB : B ≤ w.heap.size)
    (h : ∀ v' w', OwnP B w' v' (xs ++ [y]) → Below B w w' → (∀ e, e ≠ 74 → KeepT e w w') → wpList Try.prog ops Q rest (a.put o.dst v') w') : wpList Try.prog ops Q (o :: rest) a w := by
  obtain ⟨i0, hi, hz0, hz1, hz2⟩ := info_parts infoP
  have n2 : ∀ j u, (pcl [y])[j]? = some u → w.cell? ((⟨g, 0, none⟩ : Addr).add j) = some u := by
    intro j u hj
    match j, hj with
    | 0, hj => simp [pcl] at hj; subst hj; simpa [Addr.add] using hc1
    | 1, hj => simp [pcl] at hj; subst hj; simpa [Addr.add] using hc2
    | j + 2, hj => simp [pcl] at hj
  refine wpList_append_own _ hgd s x 30 ho B 74 i0 (.agg #[.string ⟨#[]⟩, .string ⟨#[]⟩]) 2 32 Try.underlying30 hi hz0 hz1 hz2 rfl (by decide) v xs.length (pcl xs) hs hown ⟨g, 0, none⟩ 1 1 (pcl [y]) hx rfl n2 (one_pcl [y])
    (by rw [show maxLen = 9223372036854775807 from rfl]; omega) hlen hB ?_
  intro v' w' h1 h2 _
  refine h v' w' ?_ ((Below.refl _ _).grown h2 hB (fun k hk => (World.ownsRow.lt hown k hk).1)) (fun e he => KeepT.grown hown h2 he)
  show World.ownsRow _ _ _ _ _ _ _
  rw [pcl_app]
  simpa using h1

theorem step_appP {ops : Array Oper} {o : Oper} {a : Act} {w : World} {K : Act → World → Prop} {Q : Exit → Act → World → Prop} {E : Prop} (hgd : o.guard = none) (s x : Operand)
    (ho : o.op = .call { callee := .builtin .append, args := #[s, x], argTypes := #[30, 30] }) (B : Nat) (v : Value) (xs : List Pr) (y : Pr) (g : Nat) (hs : a.eval s = v) (hx : a.eval x = .slice (some ⟨g, 0, none⟩) 1 1)
    (hown : OwnP B w v xs) (hc1 : w.cell? ⟨g, 0, none⟩ = some (st y.1)) (hc2 : w.cell? ⟨g, 1, none⟩ = some (st y.2)) (hlen : (xs.length + 1) * 32 ≤ 140737488355328) (hB : B ≤ w.heap.size)
    (h : ∀ v' w', OwnP B w' v' (xs ++ [y]) → Below B w w' → (∀ e, e ≠ 74 → KeepT e w w') → K (a.put o.dst v') w') : if Region.wanted o (yielded ops a.tmps) = true then Oper.wp Try.prog o a w K Q else E := by
  rw [if_pos (by simp [Region.wanted, hgd])]
  obtain ⟨i0, hi, hz0, hz1, hz2⟩ := info_parts infoP
  have n2 : ∀ j u, (pcl [y])[j]? = some u → w.cell? ((⟨g, 0, none⟩ : Addr).add j) = some u := by
    intro j u hj
    match j, hj with
    | 0, hj => simp [pcl] at hj; subst hj; simpa [Addr.add] using hc1
    | 1, hj => simp [pcl] at hj; subst hj; simpa [Addr.add] using hc2
    | j + 2, hj => simp [pcl] at hj
  refine wp_append_own _ s x 30 ho B 74 i0 (.agg #[.string ⟨#[]⟩, .string ⟨#[]⟩]) 2 32 Try.underlying30 hi hz0 hz1 hz2 rfl (by decide) v xs.length (pcl xs) hs hown ⟨g, 0, none⟩ 1 1 (pcl [y]) hx rfl n2 (one_pcl [y])
    (by rw [show maxLen = 9223372036854775807 from rfl]; omega) hlen hB ?_
  intro v' w' h1 h2 _
  refine h v' w' ?_ ((Below.refl _ _).grown h2 hB (fun k hk => (World.ownsRow.lt hown k hk).1)) (fun e he => KeepT.grown hown h2 he)
  show World.ownsRow _ _ _ _ _ _ _
  rw [pcl_app]
  simpa using h1

end Go.Proofs.Ytgmkknonnidgaaa

/-
  The page's walk, as it lies in memory: a box of eight cells, the list of bools, the pairs.
-/
namespace Go.Proofs.Ytgmkknonnidgaaa
open Go.RowKit
set_option linter.unusedVariables false
set_option linter.unusedSimpArgs false

/-- which numbers below n were seen -/
def useen (n : Nat) (s : List Int) : List Bool := (List.range n).map fun (i : Nat) => decide ((i : Int) ∈ s)
theorem useen_len (n : Nat) (s : List Int) : (useen n s).length = n := by simp [useen]
theorem useen_at (n : Nat) (s : List Int) {i : Nat} (h : i < n) : (useen n s)[i]? = some (decide ((i : Int) ∈ s)) := by simp [useen, h]
theorem useen_set (n : Nat) (s : List Int) (i : Nat) : (useen n s).set i true = useen n ((i : Int) :: s) := by
  apply List.ext_getElem?
  intro j
  rw [List.getElem?_set]
  by_cases hj : j < n
  · rw [useen_at n _ hj, useen_at n _ hj, useen_len]
    by_cases e : i = j
    · subst e; simp [hj]
    · rw [if_neg e]
      have : (j : Int) ≠ (i : Int) := by omega
      simp [this]
  · have h1 : (useen n s)[j]? = none := List.getElem?_eq_none (by rw [useen_len]; omega)
    have h2 : (useen n ((i : Int) :: s))[j]? = none := List.getElem?_eq_none (by rw [useen_len]; omega)
    rw [h1, h2, useen_len]
    split
    · rw [if_neg (by omega)]
    · rfl
theorem useen_nil (n : Nat) : useen n [] = List.replicate n false := by
  apply List.ext_getElem?
  intro j
  by_cases hj : j < n
  · rw [useen_at n _ hj]; simp [List.getElem?_replicate, hj]
  · rw [List.getElem?_eq_none (by rw [useen_len]; omega), List.getElem?_eq_none (by simp; omega)]
/-- the depth of the leaves -/
def sdep (s : Sw) : Int := match s.dep with | none => 0 | some f => 16 - (f : Int)
abbrev SeenW (bs n : Nat) (s : List Int) (w : World) : Prop := w.ownsRow bs 4 1 (.slice (some ⟨bs, 0, none⟩) n n) n ((useen n s).map Value.bool)
abbrev wcl (t : Tr) (pv : Value) (bs n : Nat) (s : Sw) (bad : Bool) (prv : Value) : Array Value :=
  #[.int .i64 t.root, .int .i64 t.next, pv, .slice (some ⟨bs, 0, none⟩) n n, .bool bad, .int .i64 (sdep s), .bool s.dep.isSome, prv]
/-- how much was seen -/
def SwOk (next : Int) (s : Sw) : Prop := s.seen.Nodup ∧ (∀ i ∈ s.seen, 1 ≤ i ∧ i < next) ∧ s.prs.length ≤ 300 * s.seen.length
theorem nodup_len : ∀ (n : Nat) (l : List Int), l.Nodup → (∀ i ∈ l, 1 ≤ i ∧ i < (n : Int) + 1) → l.length ≤ n
  | 0, l, _, h => by
    cases l with
    | nil => exact Nat.le_refl _
    | cons a r => have := h a (by simp); omega
  | n + 1, l, hn, h => by
    have h1 := nodup_len n (l.erase ((n : Int) + 1)) (hn.erase _) (fun i hi => by
      have h2 := h i (List.mem_of_mem_erase hi)
      have h3 : i ≠ (n : Int) + 1 := fun e => by
        subst e
        exact (List.Nodup.not_mem_erase hn) hi
      omega)
    have h4 := List.length_erase (a := (n : Int) + 1) (l := l)
    rw [h4] at h1
    split at h1 <;> omega
theorem SwOk.len {next : Int} {s : Sw} (h : SwOk next s) (hn : next ≤ 65536) : s.prs.length ≤ 300 * 65536 := by
  have h1 := nodup_len 65536 s.seen h.1 (fun i hi => by have := h.2.1 i hi; omega)
  have h2 := h.2.2
  omega
theorem SwOk.see {next : Int} {s : Sw} (h : SwOk next s) {i : Int} (hi : 1 ≤ i ∧ i < next) (hm : i ∉ s.seen) (d : Option Nat) {l : List Pr} (hl : l.length ≤ 300) : SwOk next ⟨i :: s.seen, d, s.prs ++ l⟩ := by
  refine ⟨List.nodup_cons.2 ⟨hm, h.1⟩, fun j hj => ?_, ?_⟩
  · rcases List.mem_cons.1 hj with rfl | hj
    · exact hi
    · exact h.2.1 j hj
  · have := h.2.2
    simp only [List.length_append, List.length_cons]
    omega
theorem npr_len {n : Nd} (h : NOk n) : (npr n).length ≤ 300 ∧ n.keys.length ≤ 300 := by
  have h1 := h.2.2.2.2
  have h2 := nsz_ge n n.keys.length
  unfold nsize at h1
  have h3 : (npr n).length ≤ n.keys.length := by unfold npr; rw [List.length_zip]; exact Nat.min_le_left _ _
  have h4 : 0 ≤ (if n.leaf = true then (0 : Int) else 4 * (n.kids.length : Int)) := by split <;> omega
  omega
/-- all blocks but those of a walk are kept -/
def KeepW (w w' : World) : Prop := ∀ e, e ≠ 105 → e ≠ 4 → e ≠ 74 → KeepT e w w'
theorem KeepW.refl (w : World) : KeepW w w := fun e _ _ _ => KeepT.refl _ _
theorem KeepW.trans {a b c : World} (h : KeepW a b) (k : KeepW b c) : KeepW a c := fun e h1 h2 h3 => (h e h1 h2 h3).trans (k e h1 h2 h3)
theorem KeepW.below {w w' : World} (h : Below w.heap.size w w') : KeepW w w' := fun e _ _ _ => KeepT.below h
/-- the walk lies in blocks g (its box), bs (what was seen) and from w0 on -/
structure RWk (w0 w : World) (g bs n : Nat) (t : Tr) (pv prv : Value) (s : Sw) (bad : Bool) : Prop where
  box : w.heap[g]? = some (.cells (wcl t pv bs n s bad prv) 105 (0, 0))
  seen : SeenW bs n s.seen w
  prs : OwnP w0.heap.size w prv s.prs
  pg : RdC w0 pv t.pages
  ok : SwOk t.next s
  bel : Below w0.heap.size w0 w
  hg : w0.heap.size ≤ g
  hs : w0.heap.size ≤ bs
theorem RWk.to {w0 w w' : World} {g bs n : Nat} {t : Tr} {pv prv : Value} {s : Sw} {bad : Bool} (h : RWk w0 w g bs n t pv prv s bad) (hb : Below w.heap.size w w') : RWk w0 w' g bs n t pv prv s bad :=
  ⟨(hb.block _ (lt_of_block h.box)).trans h.box, rows_to h.seen hb, rows_to h.prs hb, h.pg, h.ok, h.bel.trans (hb.mono h.bel.size), h.hg, h.hs⟩
theorem RWk.rd {w0 w : World} {g bs n : Nat} {t : Tr} {pv prv : Value} {s : Sw} {bad : Bool} (h : RWk w0 w g bs n t pv prv s bad) : RdC w pv t.pages := h.pg.to0 h.bel
theorem KeepW.set {w : World} {g : Nat} {cs : Array Value} (h : w.heap[g]? = some (.cells cs 105 (0, 0))) (i : Nat) (x : Value) : KeepW w (w.setCell ⟨g, i, none⟩ x) := fun e h1 _ _ => KeepT.set (a := ⟨g, i, none⟩) h h1 x
/-- a cell of the box is written -/
theorem RWk.put {w0 w : World} {g bs n : Nat} {t : Tr} {pv prv : Value} {s : Sw} {bad : Bool} (h : RWk w0 w g bs n t pv prv s bad) (i : Nat) (x : Value) {s' : Sw} {bad' : Bool} {prv' : Value} (hc : (wcl t pv bs n s bad prv).setIfInBounds i x = wcl t pv bs n s' bad' prv')
    (h1 : s'.seen = s.seen) (h2 : OwnP w0.heap.size w prv' s'.prs) (h3 : SwOk t.next s') : RWk w0 (w.setCell ⟨g, i, none⟩ x) g bs n t pv prv' s' bad' ∧ KeepW w (w.setCell ⟨g, i, none⟩ x) := by
  have hk : ∀ e, e ≠ 105 → KeepT e w (w.setCell ⟨g, i, none⟩ x) := fun e he => KeepT.set (a := ⟨g, i, none⟩) h.box he x
  refine ⟨⟨?_, ?_, rows_keepT h2 (hk _ (by decide)), h.pg, h3, h.bel.setCell h.hg _, h.hg, h.hs⟩, KeepW.set h.box i x⟩
  · rw [← hc]; exact heap_setN h.box i x
  · rw [h1]; exact rows_keepT h.seen (hk _ (by decide))
/-- it went wrong -/
theorem RWk.bad {w0 w : World} {g bs n : Nat} {t : Tr} {pv prv : Value} {s : Sw} {bad : Bool} (h : RWk w0 w g bs n t pv prv s bad) : RWk w0 (w.setCell ⟨g, 4, none⟩ (.bool true)) g bs n t pv prv s true ∧ KeepW w (w.setCell ⟨g, 4, none⟩ (.bool true)) :=
  h.put 4 _ (by simp [wcl]) rfl h.prs h.ok
theorem RWk.cell {w0 w : World} {g bs n : Nat} {t : Tr} {pv prv : Value} {s : Sw} {bad : Bool} (h : RWk w0 w g bs n t pv prv s bad) :
    (w.cell? ⟨g, 0, none⟩ = some (.int .i64 t.root) ∧ w.cell? ⟨g, 1, none⟩ = some (.int .i64 t.next) ∧ w.cell? ⟨g, 2, none⟩ = some pv ∧ w.cell? ⟨g, 3, none⟩ = some (.slice (some ⟨bs, 0, none⟩) n n)) ∧
    (w.cell? ⟨g, 4, none⟩ = some (.bool bad) ∧ w.cell? ⟨g, 5, none⟩ = some (.int .i64 (sdep s)) ∧ w.cell? ⟨g, 6, none⟩ = some (.bool s.dep.isSome) ∧ w.cell? ⟨g, 7, none⟩ = some prv) ∧ ∀ i, w.frozen? ⟨g, i, none⟩ = false :=
  ⟨⟨cellN h.box rfl, cellN h.box rfl, cellN h.box rfl, cellN h.box rfl⟩, ⟨cellN h.box rfl, cellN h.box rfl, cellN h.box rfl, cellN h.box rfl⟩, frozN h.box⟩
theorem RWk.deep {w0 w : World} {g bs n : Nat} {t : Tr} {pv prv : Value} {s : Sw} {bad : Bool} (h : RWk w0 w g bs n t pv prv s bad) (f : Nat) :
    RWk w0 ((w.setCell ⟨g, 6, none⟩ (.bool true)).setCell ⟨g, 5, none⟩ (.int .i64 (16 - (f : Int)))) g bs n t pv prv ⟨s.seen, some f, s.prs⟩ bad ∧ KeepW w ((w.setCell ⟨g, 6, none⟩ (.bool true)).setCell ⟨g, 5, none⟩ (.int .i64 (16 - (f : Int)))) := by
  obtain ⟨a1, k1⟩ := h.put 6 (.bool true) (s' := ⟨s.seen, some (s.dep.getD 16), s.prs⟩) (bad' := bad) (prv' := prv) (by cases hd : s.dep <;> simp [wcl, sdep, hd]) rfl h.prs h.ok
  obtain ⟨a2, k2⟩ := a1.put 5 (.int .i64 (16 - (f : Int))) (s' := ⟨s.seen, some f, s.prs⟩) (bad' := bad) (prv' := prv) (by simp [wcl, sdep]) rfl a1.prs h.ok
  exact ⟨a2, k1.trans k2⟩
/-- a pair more -/
theorem RWk.app {w0 w wA w5 : World} {g bs n : Nat} {t : Tr} {pv prv v5 : Value} {s : Sw} {bad : Bool} (h : RWk w0 w g bs n t pv prv s bad) {l : List Pr} (bA : Below w.heap.size w wA) (o : OwnP w0.heap.size w5 v5 l) (b5 : Below w0.heap.size wA w5)
    (k5 : ∀ e, e ≠ 74 → KeepT e wA w5) (ok : SwOk t.next ⟨s.seen, s.dep, l⟩) : RWk w0 (w5.setCell ⟨g, 7, none⟩ v5) g bs n t pv v5 ⟨s.seen, s.dep, l⟩ bad ∧ KeepW w (w5.setCell ⟨g, 7, none⟩ v5) := by
  have hA := h.to bA
  have hbox := k5 _ (by decide) _ _ _ hA.box
  have hk : ∀ e, e ≠ 105 → KeepT e w5 (w5.setCell ⟨g, 7, none⟩ v5) := fun e he => KeepT.set (a := ⟨g, 7, none⟩) hbox he v5
  refine ⟨⟨?_, rows_keepT (rows_keepT hA.seen (k5 _ (by decide))) (hk _ (by decide)), rows_keepT o (hk _ (by decide)), h.pg, ok, (hA.bel.trans b5).setCell h.hg _, h.hg, h.hs⟩, ?_⟩
  · have := heap_setN hbox 7 v5
    simpa [wcl, sdep] using this
  · exact (KeepW.below bA).trans fun e h1 h2 h3 => (k5 e h3).trans (hk e h1)
/-- a number was seen -/
theorem RWk.see {w0 w : World} {g bs n : Nat} {t : Tr} {pv prv : Value} {s : Sw} {bad : Bool} (h : RWk w0 w g bs n t pv prv s bad) {i : Nat} (hi : 1 ≤ (i : Int) ∧ (i : Int) < t.next) (hm : (i : Int) ∉ s.seen) :
    RWk w0 (w.setCell ⟨bs, i, none⟩ (.bool true)) g bs n t pv prv ⟨(i : Int) :: s.seen, s.dep, s.prs⟩ bad ∧ KeepW w (w.setCell ⟨bs, i, none⟩ (.bool true)) := by
  have hbs : ∃ cur, w.heap[bs]? = some (.cells cur 4 (0, 0)) := by
    rcases h.seen.2 with ⟨hn, _⟩ | ⟨g', cap, cur, hv, _, hg', _⟩
    · cases hn
    · simp only [Value.slice.injEq, Option.some.injEq, Addr.mk.injEq] at hv
      obtain ⟨⟨rfl, _⟩, _⟩ := hv
      exact ⟨cur, hg'⟩
  obtain ⟨cur, hcur⟩ := hbs
  have hk : ∀ e, e ≠ 4 → KeepT e w (w.setCell ⟨bs, i, none⟩ (.bool true)) := fun e he => KeepT.set (a := ⟨bs, i, none⟩) hcur he _
  refine ⟨⟨hk _ (by decide) _ _ _ h.box, ?_, rows_keepT h.prs (hk _ (by decide)), h.pg, by have := h.ok.see hi hm s.dep (l := []) (by simp); simpa using this, h.bel.setCell h.hs _, h.hg, h.hs⟩, fun e _ h2 _ => hk e h2⟩
  have := (World.ownsRow.stored h.seen i (.bool true)).1
  show World.ownsRow _ _ _ _ _ _ _
  rw [← useen_set, List.map_set]
  exact this
theorem RWk.seenAt {w0 w : World} {g bs n : Nat} {t : Tr} {pv prv : Value} {s : Sw} {bad : Bool} (h : RWk w0 w g bs n t pv prv s bad) {i : Nat} (hi : i < n) : w.cell? ⟨bs, i, none⟩ = some (.bool (decide ((i : Int) ∈ s.seen))) ∧ w.frozen? ⟨bs, i, none⟩ = false :=
  ⟨rows_at (rows_base h.seen fun _ _ => Nat.zero_le _) rfl (by rw [List.getElem?_map, useen_at n _ hi]; rfl), World.ownsRow.frozenAt h.seen i⟩
/-- a node in a box, kept beside a walk -/
structure NdAt (w : World) (nb : Nat) (kv vv dv : Value) (nd : Nd) : Prop where
  box : w.heap[nb]? = some (.cells #[.bool nd.leaf, kv, vv, dv] 147 (0, 0))
  own : OwnN 0 w kv vv dv nd
theorem NdAt.keep {w w' : World} {nb : Nat} {kv vv dv : Value} {nd : Nd} (h : NdAt w nb kv vv dv nd) (k : KeepW w w') : NdAt w' nb kv vv dv nd :=
  ⟨k _ (by decide) (by decide) (by decide) _ _ _ h.box, rows_keepT h.own.keys (k _ (by decide) (by decide) (by decide)), rows_keepT h.own.vals (k _ (by decide) (by decide) (by decide)), rows_keepT h.own.kids (k _ (by decide) (by decide) (by decide))⟩
theorem NdAt.cell {w : World} {nb : Nat} {kv vv dv : Value} {nd : Nd} (h : NdAt w nb kv vv dv nd) : w.cell? ⟨nb, 0, none⟩ = some (.bool nd.leaf) ∧ w.cell? ⟨nb, 1, none⟩ = some kv ∧ w.cell? ⟨nb, 2, none⟩ = some vv ∧ w.cell? ⟨nb, 3, none⟩ = some dv :=
  ⟨cellN h.box rfl, cellN h.box rfl, cellN h.box rfl, cellN h.box rfl⟩
/-- how a walk ends -/
def WkR (o : Option Sw) (bad : Bool) (s' : Sw) (bad' : Bool) : Prop := (bad = true → bad' = true) ∧ (bad = false → (o = some s' ∧ bad' = false) ∨ (o = none ∧ bad' = true))
def WkRes (w0 w w' : World) (g bs n : Nat) (t : Tr) (pv : Value) (o : Option Sw) (bad : Bool) : Prop := ∃ prv s' bad', RWk w0 w' g bs n t pv prv s' bad' ∧ KeepW w w' ∧ WkR o bad s' bad'
theorem WkRes.no {w0 w w' : World} {g bs n : Nat} {t : Tr} {pv prv : Value} {o : Option Sw} {s : Sw} {bad : Bool} (h : RWk w0 w' g bs n t pv prv s true) (k : KeepW w w') (ho : bad = false → o = none) : WkRes w0 w w' g bs n t pv o bad :=
  ⟨_, _, _, h, k, fun _ => rfl, fun hb => .inr ⟨ho hb, rfl⟩⟩
end Go.Proofs.Ytgmkknonnidgaaa
