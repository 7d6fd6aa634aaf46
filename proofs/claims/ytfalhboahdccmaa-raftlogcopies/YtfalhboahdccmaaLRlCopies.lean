/-
  RaftlogCopies's walk, over what the program's calls say: P15.1 tq P15.3: a log is copied by what it tells. (Written by gen15l.py.)
-/
import Derived.Test.YtfalhboahdccmaaRlL
import Derived.Test.YtfalhboahdccmaaRlR
import Derived.Test.YtfalhboahdccmaaRlB
import Derived.Deep.CutRange
namespace Go.Proofs.Ytfalhboahdccmaa.raftlogCopies
open Go.ChangeShapes Go.WideShapes Go.ChangeAt Go.RowKit
set_option linter.unusedVariables false
set_option linter.unusedSimpArgs false

set_option maxRecDepth 100000 in
set_option maxHeartbeats 8000000 in
theorem walk0 (S : LogSay) (w : World) (p0 : Option Addr) (len0 cap0 : Nat) (e0 : List Wrt) (g0 : SEntB.rd w [.slice p0 len0 cap0] e0) (m0 : esfit e0) (a1 : Int) (h1 : (Lit.int .i64 a1).wf = true) :
    Calls Try.prog 7 #[.slice p0 len0 cap0, .int .i64 a1] w fun e w' => e = .returned (.bool true) ∧ Below w.heap.size w w' := by
  clear h1
  obtain ⟨ve, q0, R0⟩ := g0
  obtain rfl : ve = .slice p0 len0 cap0 := by simpa using q0.symm
  clear q0
  have q0 : len0 = e0.length := by obtain ⟨_, _, q⟩ := R0.slice; simp only [Value.slice.injEq] at q; exact q.2.1
  subst q0
  have efit := hide (esfit_fit m0)
  clear m0
  have HE : Hid (∀ U, Below w.heap.size w U → Below w.heap.size w U) := fun U b => b
  have HN : Hid (∀ U, Below w.heap.size w U → RdC U (.slice p0 e0.length cap0) e0) := fun U b => R0.to0 b
  clear R0
  obtain ⟨g, hg1, hm3, hm1, hm2, hm6⟩ := mod_lit15 a1 (n := 9) (m := 9) rfl (by decide) (by decide)
  obtain ⟨l, hl⟩ : ∃ l : Lg, l = ⟨0, 0, e0⟩ := ⟨_, rfl⟩
  replace hl := hide hl
  have lfit : Hid (LgFit l) := by show LgFit l; rw [hl.out]; exact ⟨(by decide : I64 0), (by decide : I64 0), efit.out⟩
  obtain ⟨n, hn⟩ : ∃ n : Nat, n = 1 + g := ⟨_, rfl⟩
  have hn1 : 1 ≤ n ∧ n ≤ 9 := by omega
  replace hn := hide hn
  have hm4 : wrap64 (1 + (g : Int)) = (n : Int) := by rw [IntWalk.wrap64_in _ (by omega)]; have := hn.out; omega
  have hm5 : IntKind.i64.wrap (1 + (g : Int)) = (n : Int) := by rw [IntWalk.i64_in _ (by omega)]; have := hn.out; omega
  go_enter Try.func7, Try.ntmps7
  have K := ralive_any S w
  replace K := hide K
  go_wp2_with fail
  refine K.out.mono ?_
  rintro e wz1 ⟨rfl, bb⟩
  clear K 
  replace HE := hide (fun U (b : Below wz1.heap.size wz1 U) => HE.out U (bb.trans (b.mono bb.size)))
  replace HN := hide (fun U (b : Below wz1.heap.size wz1 U) => HN.out U (bb.trans (b.mono bb.size)))
  clear bb
  have K := centries_any _ _ e0 (HN.out _ (Below.refl _ _)) efit.out.f1 efit.out.f2
  replace K := hide K
  go_wp2_with fail
  refine K.out.mono ?_
  rintro e wz2 ⟨v1, rfl, o1, bb⟩
  obtain ⟨b1, c1, rfl⟩ := o1.rdS.slice
  clear K 
  replace HE := hide (fun U (b : Below wz2.heap.size wz2 U) => HE.out U (bb.trans (b.mono bb.size)))
  replace HN := hide (fun U (b : Below wz2.heap.size wz2 U) => HN.out U (bb.trans (b.mono bb.size)))
  have H1 : Hid (∀ U, Below wz2.heap.size wz2 U → RdC U (.slice b1 e0.length c1) e0) := fun U b => o1.rdS.to0 b
  clear o1 bb
  obtain ⟨Y3, hY3, DY3, bY3, sY3⟩ := boxedN wz2 #[.int .i64 0, .int .i64 0, .slice b1 e0.length c1] 28
  replace HE := hide (fun U (b : Below Y3.heap.size Y3 U) => HE.out U (bY3.trans (b.mono bY3.size)))
  replace HN := hide (fun U (b : Below Y3.heap.size Y3 U) => HN.out U (bY3.trans (b.mono bY3.size)))
  replace H1 := hide (fun U (b : Below Y3.heap.size Y3 U) => H1.out U (bY3.trans (b.mono bY3.size)))
  have X1 : Hid (∀ U, Below Y3.heap.size Y3 U → U.heap[wz2.heap.size]? = some (.cells #[.int .i64 0, .int .i64 0, .slice b1 e0.length c1] 28 (0, 0))) := fun U b => (b.block _ (lt_of_block DY3)).trans DY3
  clear DY3 bY3
  obtain ⟨ck, hck⟩ : ∃ c, lcheck l = c := ⟨_, rfl⟩
  replace hck := hide hck
  have K := (show Calls Try.prog 22 #[.agg #[.int .i64 0, .int .i64 0, .slice b1 e0.length c1]] Y3 _ from by have k := S.chk Y3 ⟨0, 0, e0⟩ _ (H1.out _ (Below.refl _ _)) (by have q := lfit.out; rw [hl.out] at q; exact q); rw [show lcheck ⟨0, 0, e0⟩ = ck by rw [← hl.out]; exact hck.out] at k; exact k)
  try dsimp only [lv] at K
  replace K := hide K
  clear sY3
  obtain ⟨⟨q4_0, q4_1, q4_2⟩, _⟩ := cells3l (X1.out _ (Below.refl _ _))
  try rw [hY3] at q4_0 q4_1 q4_2
  go_wp2_with fail
  rw [← hY3]
  replace hY3 := hide hY3
  refine K.out.mono ?_
  rintro e wz5 ⟨rfl, bb⟩
  clear K q4_0 q4_1 q4_2
  replace HE := hide (fun U (b : Below wz5.heap.size wz5 U) => HE.out U (bb.trans (b.mono bb.size)))
  replace HN := hide (fun U (b : Below wz5.heap.size wz5 U) => HN.out U (bb.trans (b.mono bb.size)))
  replace H1 := hide (fun U (b : Below wz5.heap.size wz5 U) => H1.out U (bb.trans (b.mono bb.size)))
  replace X1 := hide (fun U (b : Below wz5.heap.size wz5 U) => X1.out U (bb.trans (b.mono bb.size)))
  clear bb
  go_wp2_with fail
  refine (num15_any _ _).mono ?_
  rintro e w' ⟨rfl, rfl⟩
  by_cases ok : LOk l
  case neg =>
    have hc9 : ck = 9 := hck.out.symm.trans (lcheck_no ok)
    subst hc9
    have h9 : ((9 : Int) != 0) = true := by decide
    by_cases hlen : (60 : Int) < (e0.length : Int)
    case pos =>
      have HEE := hide (HE.out _ (Below.refl _ _))
      go_wp2
      go_ret
      exact ⟨rfl, HEE.out⟩
    case neg =>
      have K := (show Calls Try.prog 23 #[.agg #[.int .i64 0, .int .i64 0, .slice p0 e0.length cap0]] wz5 _ from by have k := rcheck15_any wz5 ⟨0, 0, e0⟩ _ (HN.out _ (Below.refl _ _)); rw [show lcheck ⟨0, 0, e0⟩ = 9 by rw [← hl.out]; exact hck.out] at k; exact k)
      try dsimp only [lv] at K
      replace K := hide K
      go_wp2_with fail
      refine K.out.mono ?_
      rintro e wz6 ⟨rfl, bb⟩
      clear K 
      replace HE := hide (fun U (b : Below wz6.heap.size wz6 U) => HE.out U (bb.trans (b.mono bb.size)))
      replace HN := hide (fun U (b : Below wz6.heap.size wz6 U) => HN.out U (bb.trans (b.mono bb.size)))
      replace H1 := hide (fun U (b : Below wz6.heap.size wz6 U) => H1.out U (bb.trans (b.mono bb.size)))
      replace X1 := hide (fun U (b : Below wz6.heap.size wz6 U) => X1.out U (bb.trans (b.mono bb.size)))
      clear bb
      have HEE := hide (HE.out _ (Below.refl _ _))
      go_wp2
      go_ret
      exact ⟨rfl, HEE.out⟩
  case pos =>
    have hc0 : ck = 0 := hck.out.symm.trans (lcheck_ok ok)
    subst hc0
    have h0 : ((0 : Int) != 0) = false := by decide
    by_cases hlen : (60 : Int) < (e0.length : Int)
    case pos =>
      have HEE := hide (HE.out _ (Below.refl _ _))
      go_wp2
      go_ret
      exact ⟨rfl, HEE.out⟩
    case neg =>
      have OK : Hid (LOk ⟨0, 0, e0⟩) := by show LOk _; rw [← hl.out]; exact ok
      replace ok := hide ok
      obtain ⟨N, hN⟩ : ∃ N, N = e0.length := ⟨_, rfl⟩
      have hNb : N ≤ 60 := by omega
      replace hN := hide hN
      have HEb := HE
      have HNb := HN
      have H1b := H1
      have X1b := X1
      have HC6 : Hid (∀ U, Below wz5.heap.size wz5 U → Below wz5.heap.size wz5 U) := fun U b => b
      obtain ⟨Y6, hY6, DY6, bY6, sY6⟩ := boxedN wz5 #[.int .i64 0, .int .i64 0, .slice none 0 0] 28
      replace HE := hide (fun U (b : Below Y6.heap.size Y6 U) => HE.out U (bY6.trans (b.mono bY6.size)))
      replace HN := hide (fun U (b : Below Y6.heap.size Y6 U) => HN.out U (bY6.trans (b.mono bY6.size)))
      replace H1 := hide (fun U (b : Below Y6.heap.size Y6 U) => H1.out U (bY6.trans (b.mono bY6.size)))
      replace X1 := hide (fun U (b : Below Y6.heap.size Y6 U) => X1.out U (bY6.trans (b.mono bY6.size)))
      replace HC6 := hide (fun U (b : Below Y6.heap.size Y6 U) => HC6.out U (bY6.trans (b.mono bY6.size)))
      have X6 : Hid (∀ U, Below Y6.heap.size Y6 U → U.heap[wz5.heap.size]? = some (.cells #[.int .i64 0, .int .i64 0, .slice none 0 0] 28 (0, 0))) := fun U b => (b.block _ (lt_of_block DY6)).trans DY6
      clear DY6 bY6
      have HE6 := hide (fun U (b : Below Y6.heap.size Y6 U) => (show Below wz5.heap.size wz5 U from (HC6.out U b)))
      have hgx : Hid (wz5.heap.size < Y6.heap.size ∧ wz5.heap.size ≤ wz5.heap.size) := by show _ ∧ _; omega
      have I0 := hide (And.intro (HE6.out _ (Below.refl _ _)) (And.intro (X6.out _ (Below.refl _ _)) (Own.nil 27 SWr (wz5.heap.size + 1) Y6)))
      clear sY6
      go_wp2
      rw [← hY6]
      replace hY6 := hide hY6
      go_loopw [7] (fun i wr => ∃ (k : Nat) (a6 : Option Addr) (c6 : Nat) (tk : List Wrt), i = .int .i64 k ∧ k ≤ N + 9 ∧ Hid (tk = e0.take k) ∧ Hid (Below wz5.heap.size wz5 wr ∧ wr.heap[wz5.heap.size]? = some (.cells #[.int .i64 0, .int .i64 0, .slice a6 tk.length c6] 28 (0, 0)) ∧ Own SEntB (wz5.heap.size + 1) wr [.slice a6 tk.length c6] tk)) (fun i _ => N - (intOf i).toNat)
      case atStart => exact ⟨0, none, 0, [], rfl, Nat.zero_le _, hide (by rw [List.take_zero]), I0⟩
      case round =>
        obtain ⟨k, a6, c6, tk, rfl, hk, htk, hI⟩ := hrel
        have hb0 := hI.out.1
        replace HEb := hide (fun U (b : Below wr.heap.size wr U) => HEb.out U (hb0.trans (b.mono hb0.size)))
        replace HNb := hide (fun U (b : Below wr.heap.size wr U) => HNb.out U (hb0.trans (b.mono hb0.size)))
        replace H1b := hide (fun U (b : Below wr.heap.size wr U) => H1b.out U (hb0.trans (b.mono hb0.size)))
        replace X1b := hide (fun U (b : Below wr.heap.size wr U) => X1b.out U (hb0.trans (b.mono hb0.size)))
        clear hb0
        have X6b : Hid (∀ U, Below wr.heap.size wr U → U.heap[wz5.heap.size]? = some (.cells #[.int .i64 0, .int .i64 0, .slice a6 tk.length c6] 28 (0, 0))) := fun U b => (b.block _ (lt_of_block hI.out.2.1)).trans hI.out.2.1
        have H6 : Hid (∀ U, Below wr.heap.size wr U → RdC U (.slice a6 tk.length c6) tk) := fun U b => hI.out.2.2.rdS.to0 b
        have HC : Hid (∀ U, Below wr.heap.size wr U → Below wz5.heap.size wz5 U) := fun U b => hI.out.1.trans (b.mono hI.out.1.size)
        have HG : Hid (∀ U, Below wr.heap.size wr U → wz5.heap.size < U.heap.size) := fun U b => Nat.lt_of_lt_of_le (lt_of_block hI.out.2.1) b.size
        by_cases hlt : k < N
        case pos =>
          have hq : (k : Int) < (N : Int) := by omega
          have hq0 : (k : Int) < (e0.length : Int) := by rw [← hN.out]; exact hq
          obtain ⟨tq, hto⟩ : ∃ tq, tq = min (k + n) N := ⟨_, rfl⟩
          have hto2 : (tq : Int) = min ((k : Int) + (n : Int)) (N : Int) := by omega
          have hw1 : IntKind.i64.wrap ((k : Int) + 1) = (k : Int) + 1 := IntWalk.i64_in _ (by omega)
          have hw2 : IntKind.i64.wrap ((k : Int) + (n : Int)) = (k : Int) + (n : Int) := IntWalk.i64_in _ (by omega)
          obtain ⟨TT, hT⟩ : ∃ t, t = lterm ⟨0, 0, e0⟩ k := ⟨_, rfl⟩
          obtain ⟨pk, hpk⟩ : ∃ x, x = (e0.take tq).drop k := ⟨_, rfl⟩
          obtain ⟨tn, htn⟩ : ∃ x, x = e0.take (k + n) := ⟨_, rfl⟩
          have hR1 : Hid (lfrom ⟨0, 0, e0⟩ ((k : Int) + 1) n = (pk, 0)) := by show _ = _; rw [hpk, lfrom_piece OK.out (by rw [← hN.out]; exact hlt), hto, hN.out]
          have hR2 : Hid (ltold ⟨0, 0, e0⟩ k = (TT, 0)) := by show _ = _; rw [hT]; exact ltold_ok OK.out (show (0 : Int) ≤ k by omega) (by unfold lend; dsimp only; rw [← hN.out]; omega)
          have hR3 : Hid (laccept ⟨0, 0, tk⟩ k TT pk = ((⟨0, 0, tn⟩ : Lg), (tq : Int), (0 : Int))) := by
            have ht3 : e0.take (max k tq) = e0.take (k + n) := by
              by_cases q : k + n ≤ N
              · rw [show max k tq = k + n by omega]
              · rw [List.take_of_length_le (by rw [← hN.out]; omega), List.take_of_length_le (by rw [← hN.out]; omega)]
            show _ = _
            rw [htk.out, hpk, htn, hT, laccept_piece OK.out (by rw [← hN.out]; omega) (Nat.le_refl _) (by omega) (by rw [← hN.out]; omega), ht3]
          have sfit : Hid (LgFit ⟨0, 0, e0⟩) := by have q := lfit.out; rw [hl.out] at q; exact q
          have tfit : Hid (LgFit ⟨0, 0, tk⟩) := by show LgFit _; rw [htk.out]; exact ⟨(by decide : I64 0), (by decide : I64 0), efit.out.take k⟩
          have dfit : Hid (EsFit pk) := by show EsFit pk; rw [hpk]; exact (efit.out.take tq).drop k
          have h64 : Hid (I64 TT) := by show I64 TT; rw [hT]; exact lterm_64 sfit.out _
          replace hT := hide hT
          replace hto := hide hto
          replace hto2 := hide hto2
          replace hpk := hide hpk
          replace htn := hide htn
          have K := (show Calls Try.prog 15 #[.agg #[.int .i64 0, .int .i64 0, .slice b1 e0.length c1], .int .i64 ((k : Int) + 1), .int .i64 n] wr _ from by have q := S.frm wr ⟨0, 0, e0⟩ _ ((k : Int) + 1) n (H1b.out _ (Below.refl _ _)) sfit.out ⟨by omega, by omega⟩ ⟨by omega, by omega⟩; rw [hR1.out] at q; exact q)
          try dsimp only [lv] at K
          replace K := hide K
          obtain ⟨⟨q7_0, q7_1, q7_2⟩, _⟩ := cells3l (X1b.out _ (Below.refl _ _))
          go_wp2_with fail
          refine K.out.mono ?_
          rintro e wz8 ⟨v8, rfl, o8, bb⟩
          obtain ⟨b8, c8, rfl⟩ := o8.rdS.slice
          clear K q7_0 q7_1 q7_2
          replace HEb := hide (fun U (b : Below wz8.heap.size wz8 U) => HEb.out U (bb.trans (b.mono bb.size)))
          replace HNb := hide (fun U (b : Below wz8.heap.size wz8 U) => HNb.out U (bb.trans (b.mono bb.size)))
          replace H1b := hide (fun U (b : Below wz8.heap.size wz8 U) => H1b.out U (bb.trans (b.mono bb.size)))
          replace X1b := hide (fun U (b : Below wz8.heap.size wz8 U) => X1b.out U (bb.trans (b.mono bb.size)))
          replace X6b := hide (fun U (b : Below wz8.heap.size wz8 U) => X6b.out U (bb.trans (b.mono bb.size)))
          replace H6 := hide (fun U (b : Below wz8.heap.size wz8 U) => H6.out U (bb.trans (b.mono bb.size)))
          replace HC := hide (fun U (b : Below wz8.heap.size wz8 U) => HC.out U (bb.trans (b.mono bb.size)))
          replace HG := hide (fun U (b : Below wz8.heap.size wz8 U) => HG.out U (bb.trans (b.mono bb.size)))
          have H8 : Hid (∀ U, Below wz8.heap.size wz8 U → RdC U (.slice b8 pk.length c8) pk) := fun U b => o8.rdS.to0 b
          clear o8 bb
          have K := (show Calls Try.prog 11 #[.agg #[.int .i64 0, .int .i64 0, .slice b1 e0.length c1], .int .i64 (k : Int)] wz8 _ from by have q := S.told wz8 ⟨0, 0, e0⟩ _ (k : Int) (H1b.out _ (Below.refl _ _)) sfit.out ⟨by omega, by omega⟩; rw [hR2.out] at q; exact q)
          try dsimp only [lv] at K
          replace K := hide K
          obtain ⟨⟨q9_0, q9_1, q9_2⟩, _⟩ := cells3l (X1b.out _ (Below.refl _ _))
          go_wp2_with fail
          refine K.out.mono ?_
          rintro e wz10 ⟨rfl, bb⟩
          clear K q9_0 q9_1 q9_2
          replace HEb := hide (fun U (b : Below wz10.heap.size wz10 U) => HEb.out U (bb.trans (b.mono bb.size)))
          replace HNb := hide (fun U (b : Below wz10.heap.size wz10 U) => HNb.out U (bb.trans (b.mono bb.size)))
          replace H1b := hide (fun U (b : Below wz10.heap.size wz10 U) => H1b.out U (bb.trans (b.mono bb.size)))
          replace X1b := hide (fun U (b : Below wz10.heap.size wz10 U) => X1b.out U (bb.trans (b.mono bb.size)))
          replace X6b := hide (fun U (b : Below wz10.heap.size wz10 U) => X6b.out U (bb.trans (b.mono bb.size)))
          replace H6 := hide (fun U (b : Below wz10.heap.size wz10 U) => H6.out U (bb.trans (b.mono bb.size)))
          replace HC := hide (fun U (b : Below wz10.heap.size wz10 U) => HC.out U (bb.trans (b.mono bb.size)))
          replace HG := hide (fun U (b : Below wz10.heap.size wz10 U) => HG.out U (bb.trans (b.mono bb.size)))
          replace H8 := hide (fun U (b : Below wz10.heap.size wz10 U) => H8.out U (bb.trans (b.mono bb.size)))
          clear bb
          have zG := hide (HG.out _ (Below.refl _ _))
          have K := (show Calls Try.prog 29 #[.agg #[.int .i64 0, .int .i64 0, .slice a6 tk.length c6], .int .i64 (k : Int), .int .i64 TT, .slice b8 pk.length c8] wz10 _ from by have q := S.acc wz10 ⟨0, 0, tk⟩ _ k TT _ _ (H6.out _ (Below.refl _ _)) tfit.out ⟨by omega, by omega⟩ h64.out (H8.out _ (Below.refl _ _)) dfit.out (.inl (by rw [hR3.out])); rw [hR3.out] at q; exact q)
          try dsimp only [lv] at K
          replace K := hide K
          obtain ⟨⟨q11_0, q11_1, q11_2⟩, _⟩ := cells3l (X6b.out _ (Below.refl _ _))
          go_wp2_with fail
          refine K.out.mono ?_
          rintro e wz12 ⟨v9, rfl, o9, bb⟩
          obtain ⟨b9, c9, rfl⟩ := o9.rdS.slice
          replace o9 := o9.mono (C := wz5.heap.size + 1) zG.out
          clear K q11_0 q11_1 q11_2
          replace HEb := hide (fun U (b : Below wz12.heap.size wz12 U) => HEb.out U (bb.trans (b.mono bb.size)))
          replace HNb := hide (fun U (b : Below wz12.heap.size wz12 U) => HNb.out U (bb.trans (b.mono bb.size)))
          replace H1b := hide (fun U (b : Below wz12.heap.size wz12 U) => H1b.out U (bb.trans (b.mono bb.size)))
          replace X1b := hide (fun U (b : Below wz12.heap.size wz12 U) => X1b.out U (bb.trans (b.mono bb.size)))
          replace X6b := hide (fun U (b : Below wz12.heap.size wz12 U) => X6b.out U (bb.trans (b.mono bb.size)))
          replace H6 := hide (fun U (b : Below wz12.heap.size wz12 U) => H6.out U (bb.trans (b.mono bb.size)))
          replace HC := hide (fun U (b : Below wz12.heap.size wz12 U) => HC.out U (bb.trans (b.mono bb.size)))
          replace HG := hide (fun U (b : Below wz12.heap.size wz12 U) => HG.out U (bb.trans (b.mono bb.size)))
          replace H8 := hide (fun U (b : Below wz12.heap.size wz12 U) => H8.out U (bb.trans (b.mono bb.size)))
          have O9 : Hid (∀ U, Below wz12.heap.size wz12 U → Own SEntB (wz5.heap.size + 1) U [.slice b9 tn.length c9] tn) := fun U b => o9.to b
          clear o9 bb
          obtain ⟨Y13, hY13, DY13, bY13, sY13⟩ := boxedN wz12 #[.int .i64 0, .int .i64 0, .slice b9 tn.length c9] 28
          replace HEb := hide (fun U (b : Below Y13.heap.size Y13 U) => HEb.out U (bY13.trans (b.mono bY13.size)))
          replace HNb := hide (fun U (b : Below Y13.heap.size Y13 U) => HNb.out U (bY13.trans (b.mono bY13.size)))
          replace H1b := hide (fun U (b : Below Y13.heap.size Y13 U) => H1b.out U (bY13.trans (b.mono bY13.size)))
          replace X1b := hide (fun U (b : Below Y13.heap.size Y13 U) => X1b.out U (bY13.trans (b.mono bY13.size)))
          replace X6b := hide (fun U (b : Below Y13.heap.size Y13 U) => X6b.out U (bY13.trans (b.mono bY13.size)))
          replace H6 := hide (fun U (b : Below Y13.heap.size Y13 U) => H6.out U (bY13.trans (b.mono bY13.size)))
          replace HC := hide (fun U (b : Below Y13.heap.size Y13 U) => HC.out U (bY13.trans (b.mono bY13.size)))
          replace HG := hide (fun U (b : Below Y13.heap.size Y13 U) => HG.out U (bY13.trans (b.mono bY13.size)))
          replace H8 := hide (fun U (b : Below Y13.heap.size Y13 U) => H8.out U (bY13.trans (b.mono bY13.size)))
          replace O9 := hide (fun U (b : Below Y13.heap.size Y13 U) => O9.out U (bY13.trans (b.mono bY13.size)))
          have X9 : Hid (∀ U, Below Y13.heap.size Y13 U → U.heap[wz12.heap.size]? = some (.cells #[.int .i64 0, .int .i64 0, .slice b9 tn.length c9] 28 (0, 0))) := fun U b => (b.block _ (lt_of_block DY13)).trans DY13
          clear DY13 bY13
          clear sY13
          go_wp2_with fail
          rw [← hY13]
          replace hY13 := hide hY13
          refine (num15_any _ _).mono ?_
          rintro e w' ⟨rfl, rfl⟩
          go_wp2_with fail
          refine (num15_any _ _).mono ?_
          rintro e w' ⟨rfl, rfl⟩
          go_wp2_with fail
          refine (num15_any _ _).mono ?_
          rintro e w' ⟨rfl, rfl⟩
          have FIN := hide (And.intro (below_set3l (HC.out _ (Below.refl _ _)) hgx.out.2 (.int .i64 0) (.int .i64 0) (.slice b9 tn.length c9)) (And.intro (heap_set3l (X6b.out _ (Below.refl _ _)) (.int .i64 0) (.int .i64 0) (.slice b9 tn.length c9)) (own_set3l (O9.out _ (Below.refl _ _)) (g := wz5.heap.size) (Nat.lt_succ_self _) (.int .i64 0) (.int .i64 0) (.slice b9 tn.length c9))))
          obtain ⟨⟨g0, g1, g2⟩, gf⟩ := cells3l (X6b.out _ (Below.refl _ _))
          have gf0 := gf 0
          have gf1 := gf 1
          have gf2 := gf 2
          clear gf
          obtain ⟨⟨j0, j1, j2⟩, _⟩ := cells3l (X9.out _ (Below.refl _ _))
          have hto3 : (tq : Int) = min ((k : Int) + (n : Int)) (e0.length : Int) := by rw [← hN.out]; exact hto2.out
          by_cases hm : (k : Int) + (n : Int) ≤ (e0.length : Int)
          all_goals
            first | (have hm2 : (tq : Int) = (k : Int) + (n : Int) := by omega) | (have hm2 : (tq : Int) = (e0.length : Int) := by omega)
            have hqe : ((tq : Int) != (tq : Int)) = false := by simp
            have hqh : ((tq : Int) != (k : Int) + (n : Int)) = false ∨ ((tq : Int) != (e0.length : Int)) = false := by first | (left; rw [hm2]; simp; done) | (right; rw [hm2]; simp; done)
            clear hqh
            have hqf : (((k : Int) + (n : Int)) != (k : Int) + (n : Int)) = false := by simp
            have hqg : ((e0.length : Int) != (e0.length : Int)) = false := by simp
            clear hto3
            go_wp2
            go_roundw
            case rel => exact ⟨k + n, b9, c9, tn, by first | rfl | exact congrArg (Value.int .i64) (by omega), by omega, htn, FIN⟩
            case measure => simp [intOf]; omega
        case neg =>
          have hq : ¬ (k : Int) < (N : Int) := by omega
          have hq0 : ¬ (k : Int) < (e0.length : Int) := by rw [← hN.out]; exact hq
          have het : Hid (tk = e0) := by show _ = _; rw [htk.out]; exact List.take_of_length_le (by rw [← hN.out]; omega)
          have H6c := hide (fun U (b : Below wr.heap.size wr U) => (show RdC U (.slice a6 tk.length c6) e0 from by have q := H6.out U b; rw [show RdC U (.slice a6 tk.length c6) tk = RdC U (.slice a6 tk.length c6) e0 from congrArg _ het.out] at q; exact q))
          have K := sentries_any _ _ _ e0 (H6c.out _ (Below.refl _ _)) (HNb.out _ (Below.refl _ _))
          replace K := hide K
          obtain ⟨⟨q7_0, q7_1, q7_2⟩, _⟩ := cells3l (X6b.out _ (Below.refl _ _))
          go_wp2_with fail
          refine K.out.mono ?_
          rintro e wz8 ⟨rfl, n, hn⟩
          have bb : Below wr.heap.size wr wz8 := by rw [hn]; exact below_drewN' _ _ _
          clear hn
          clear K q7_0 q7_1 q7_2
          replace HEb := hide (fun U (b : Below wz8.heap.size wz8 U) => HEb.out U (bb.trans (b.mono bb.size)))
          replace HNb := hide (fun U (b : Below wz8.heap.size wz8 U) => HNb.out U (bb.trans (b.mono bb.size)))
          replace H1b := hide (fun U (b : Below wz8.heap.size wz8 U) => H1b.out U (bb.trans (b.mono bb.size)))
          replace X1b := hide (fun U (b : Below wz8.heap.size wz8 U) => X1b.out U (bb.trans (b.mono bb.size)))
          replace X6b := hide (fun U (b : Below wz8.heap.size wz8 U) => X6b.out U (bb.trans (b.mono bb.size)))
          replace H6 := hide (fun U (b : Below wz8.heap.size wz8 U) => H6.out U (bb.trans (b.mono bb.size)))
          replace HC := hide (fun U (b : Below wz8.heap.size wz8 U) => HC.out U (bb.trans (b.mono bb.size)))
          replace HG := hide (fun U (b : Below wz8.heap.size wz8 U) => HG.out U (bb.trans (b.mono bb.size)))
          replace H6c := hide (fun U (b : Below wz8.heap.size wz8 U) => H6c.out U (bb.trans (b.mono bb.size)))
          clear bb
          have HE := HEb
          have HEE := hide (HE.out _ (Below.refl _ _))
          go_wp2
          go_ret
          exact ⟨rfl, HEE.out⟩
end Go.Proofs.Ytfalhboahdccmaa.raftlogCopies
