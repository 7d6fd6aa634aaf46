/-
  The program's first: the lowest extent that a closure says fits.
-/
import Derived.Test.YtacfcgklncckiaaEFits
namespace Go.Proofs.Ytacfcgklncckiaa
open Go.RowKit
set_option linter.unusedVariables false

/-- the extents are sectors -/
def eSec (l : List Ext) : Prop := ∀ x ∈ l, 0 ≤ x.1 ∧ 1 ≤ x.2 ∧ x.1 + x.2 ≤ 1048576
theorem eSec_of {m : EMap} (h : EOk m) : eSec m.2 := fun x hx => by have := eRow_mem h.2.2 x hx; have := h.2.1; omega
def eIdx (p : Int → Int → Bool) (l : List Ext) : Nat := l.findIdx fun x => p x.1 (x.1 + x.2)
theorem eIdx_le (p : Int → Int → Bool) (l : List Ext) : eIdx p l ≤ l.length := List.findIdx_le_length
theorem eIdx_hit {p : Int → Int → Bool} {l : List Ext} {k : Nat} {x : Ext} (hx : l[k]? = some x) (hp : p x.1 (x.1 + x.2) = true) (hn : ∀ y ∈ l.take k, p y.1 (y.1 + y.2) = false) : eIdx p l = k := by
  obtain ⟨hk, e⟩ := List.getElem?_eq_some_iff.1 hx
  refine (List.findIdx_eq hk).2 ⟨by rw [e]; exact hp, fun j hj => hn _ ?_⟩
  exact List.mem_take_iff_getElem.2 ⟨j, by omega, rfl⟩
theorem eIdx_none {p : Int → Int → Bool} {l : List Ext} (hn : ∀ y ∈ l, p y.1 (y.1 + y.2) = false) : eIdx p l = l.length := List.findIdx_eq_length.2 hn

set_option maxRecDepth 100000 in
set_option maxHeartbeats 1000000 in
theorem first_any (F : FuncId) (b : Nat) (v : Value) (p : Int → Int → Bool) (hF : Fits F b v p) (he : ∀ args u, (callFunc F args).run Try.prog u = .ok (.enter F args) u) (w : World) (fv : Value) (l : List Ext) (h : RdE w fv l) (hc : w.cell? ⟨b, 0, none⟩ = some v) (hs : eSec l) :
    Calls Try.prog 27 #[fv, .func (.func F) #[] #[.pointer (some ⟨b, 0, none⟩)]] w fun e w' => e = .returned (.int .i64 (eIdx p l)) ∧ Below w.heap.size w w' := by
  have lb := h.bd
  obtain ⟨a, c, rfl⟩ := h.slice
  have HC := hide hc
  have HF := hide hF
  have HS := hide hs
  have HH := hide h
  clear hF hs h hc
  go_enter Try.func27, Try.ntmps27
  go_wp2
  go_loopw [9] (fun i wr => ∃ k : Nat, k ≤ l.length ∧ i = .int .i64 k ∧ Hid ((∀ y ∈ l.take k, p y.1 (y.1 + y.2) = false) ∧ Below w.heap.size w wr)) (fun i _ => l.length - (intOf i).toNat)
  case atStart => exact ⟨0, Nat.zero_le _, rfl, hide ⟨fun y hy => by simp at hy, Below.refl _ _⟩⟩
  case round =>
    obtain ⟨k, hk, rfl, hH⟩ := hrel
    obtain ⟨hn, hb⟩ := hH.out
    by_cases hlt : k < l.length
    · have hq : (k : Int) < (l.length : Int) := by omega
      obtain ⟨x, hx, hxm⟩ := ext_at l hlt
      have hx1 := HS.out x hxm
      obtain ⟨b1, off, rfl, hc1, hc2⟩ := (HH.out.to0 hb).ext hx
      obtain ⟨U, hU, X0, X1, bU, sU⟩ := boxed2 wr (.int .i64 x.1) (.int .i64 x.2) 26
      have cU := hb.trans (bU.mono hb.size)
      have HN := hide hn
      have HX := hide hx
      have KK := hide (spanOf_any U x.1 x.2 (by omega))
      have CU := hide cU
      rw [hU] at X0 X1
      go_wp2_with fail
      rw [← hU]
      clear X0 X1
      refine KK.out.mono ?_
      rintro e w1 ⟨rfl, b1⟩
      have c1 := CU.out.trans (b1.mono CU.out.size)
      have K2 := hide (HF.out w1 x.1 (x.1 + x.2) (by unfold spIn; omega) ((c1.cell (cell_lt HC.out)).trans HC.out))
      replace c1 := hide c1
      clear b1 KK hx1 hU bU cU
      go_wp2_with fail
      refine K2.out.mono ?_
      rintro e w2 ⟨rfl, n, rfl⟩
      replace c1 := hide (c1.out.trans (below_drewN' w1 n _))
      clear K2
      by_cases hp : p x.1 (x.1 + x.2) = true
      · have hr := hide (eIdx_hit HX.out hp HN.out)
        rw [hp]
        go_wp2
        go_ret
        exact ⟨ret_int (by rw [hr.out]), c1.out⟩
      · have hp' : p x.1 (x.1 + x.2) = false := by simpa using hp
        have hr := hide hp'
        rw [hp']
        go_wp2
        go_roundw
        case rel =>
          refine ⟨k + 1, by omega, by go_num, hide ⟨fun y hy => ?_, c1.out⟩⟩
          rw [List.take_add_one, HX.out] at hy
          rcases List.mem_append.1 hy with hy | hy
          · exact HN.out y hy
          · simp at hy; subst hy; exact hr.out
        case measure => simp [intOf]; omega
    · have hq : ¬ (k : Int) < (l.length : Int) := by omega
      rw [List.take_of_length_le (by omega)] at hn
      have hr := hide (eIdx_none hn)
      have cU := hide hb
      clear hn hb hH
      go_wp2
      go_ret
      exact ⟨ret_int (by rw [hr.out]), cU.out⟩

end Go.Proofs.Ytacfcgklncckiaa
