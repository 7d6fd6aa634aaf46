/-
  The page's reader of octets: take, num. (The page's Decode: to come.)
-/
import Derived.Deep.QuietTactic
import Derived.BigQuiet
import Derived.Test.YtgmkknonnidgaaaRefPut
import Derived.Test.YtgmkknonnidgaaaNDMath
namespace Go.Proofs.Ytgmkknonnidgaaa
open Go.RowKit
set_option linter.unusedVariables false
set_option linter.unusedSimpArgs false

/-- once it is short nothing is taken any more -/
def rtkS (s : Nat) (r : Rr) : List UInt8 := if r.short then [] else rtk s r
def rstS (s : Nat) (r : Rr) : Rr := if r.short then r else rst s r
def rnumS (s : Nat) (r : Rr) : Nat := numOf (rtkS s r)
theorem rtkS_le (s : Nat) (r : Rr) : (rtkS s r).length ≤ s := by
  unfold rtkS; split
  · simp
  · exact rtk_le s r
theorem rnumS_lt (s : Nat) (r : Rr) : rnumS s r < 2 ^ (8 * s) := by
  unfold rnumS numOf
  refine Nat.lt_of_lt_of_le (numTo_lt _ _) (Nat.pow_le_pow_right (by decide) ?_)
  have := rtkS_le s r
  omega
theorem rstS_short {s : Nat} {r : Rr} (h : r.short = true) : (rstS s r).short = true := by unfold rstS; rw [if_pos h]; exact h
theorem rst_short {s : Nat} {r : Rr} (h : r.short = true) : (rst s r).short = true := by unfold rst; split <;> simp [h]
theorem rts_short {r : Rr} (h : r.short = true) : (rts r).short = true := rst_short (rst_short h)
theorem rpairs_short : ∀ (k : Nat) (r : Rr) (n : Nd), r.short = true → (rpairs k r n).2.short = true
  | 0, r, n, h => h
  | k + 1, r, n, h => rpairs_short k _ _ (rts_short (rts_short h))
theorem rkids_short : ∀ (k : Nat) (r : Rr) (n : Nd), r.short = true → (rkids k r n).2.short = true
  | 0, r, n, h => rst_short h
  | k + 1, r, n, h => rkids_short k _ _ (rts_short (rst_short h))

/-- the page's reader at g over octets that lay there in w0 -/
structure RdrPA (w0 : World) (g : Nat) (w : World) (a : Option Addr) (c L at' : Nat) (xs : List UInt8) (r : Rr) : Prop where
  box : w.heap[g]? = some (.cells #[.slice a L c, .int .i64 (at' : Int), .bool r.short] 165 (0, 0))
  rd : Rd w0 (.slice a L c) xs
  len : xs.length = L
  le : at' ≤ L
  rest : r.rest = xs.drop at'
  bel : Below w0.heap.size w0 w
  hg : w0.heap.size ≤ g
def RdrP (w0 : World) (g : Nat) (w : World) (xs : List UInt8) (r : Rr) : Prop := ∃ a c L at', RdrPA w0 g w a c L at' xs r
theorem RdrP.to {w0 : World} {g : Nat} {w : World} {xs : List UInt8} {r : Rr} (h : RdrP w0 g w xs r) {U : World} (k : Below w.heap.size w U) : RdrP w0 g U xs r := by
  obtain ⟨a, c, L, at', h⟩ := h
  exact ⟨a, c, L, at', (k.block _ (lt_of_block h.box)).trans h.box, h.rd, h.len, h.le, h.rest, h.bel.trans (k.mono h.bel.size), h.hg⟩
theorem RdrP.bel {w0 : World} {g : Nat} {w : World} {xs : List UInt8} {r : Rr} (h : RdrP w0 g w xs r) : Below w0.heap.size w0 w := by obtain ⟨_, _, _, _, h⟩ := h; exact h.bel
theorem heap_set3p {u : World} {g : Nat} {a b c : Value} {t : TypeId} {fr : Nat × Nat} (h : u.heap[g]? = some (.cells #[a, b, c] t fr)) (x : Value) : (u.setCell ⟨g, 1, none⟩ x).heap[g]? = some (.cells #[a, x, c] t fr) ∧ (u.setCell ⟨g, 2, none⟩ x).heap[g]? = some (.cells #[a, b, x] t fr) := by
  constructor <;> simp [World.setCell, Array.getElem?_modify, h]
theorem cells3p {w : World} {g : Nat} {a b c : Value} {t : TypeId} (h : w.heap[g]? = some (.cells #[a, b, c] t (0, 0))) : (w.cell? ⟨g, 0, none⟩ = some a ∧ w.cell? ⟨g, 1, none⟩ = some b ∧ w.cell? ⟨g, 2, none⟩ = some c) ∧ ∀ i, w.frozen? ⟨g, i, none⟩ = false := by
  refine ⟨⟨?_, ?_, ?_⟩, fun i => ?_⟩
  · rw [cell_of_row _ _ 0 _ _ (0, 0) h]; rfl
  · rw [cell_of_row _ _ 1 _ _ (0, 0) h]; rfl
  · rw [cell_of_row _ _ 2 _ _ (0, 0) h]; rfl
  · simp [World.frozen?, h]

set_option maxRecDepth 100000 in
set_option maxHeartbeats 2000000 in
theorem rtake_any (w0 : World) (g : Nat) (w : World) (xs : List UInt8) (r : Rr) (s : Nat) (h : RdrP w0 g w xs r) (hs : s ≤ 1000000000000) :
    Calls Try.prog 99 #[.pointer (some ⟨g, 0, none⟩), .int .i64 (s : Int)] w fun e w' => ∃ a1 c1, e = .returned (.slice a1 (rtkS s r).length c1) ∧ Rd w0 (.slice a1 (rtkS s r).length c1) (rtkS s r) ∧ RdrP w0 g w' xs (rstS s r) ∧ KpG g w w' := by
  obtain ⟨a, c, L, at', h⟩ := h
  obtain ⟨⟨A0, A1, A2⟩, af⟩ := cells3p h.box
  have f1 := af 1
  have f2 := af 2
  have lb : L ≤ 9223372036854775807 := by obtain ⟨_, _, e, _, m1, _⟩ := h.rd; simp only [Value.slice.injEq] at e; unfold maxLen at m1; have := h.len; omega
  have hcap : L ≤ c := by obtain ⟨_, _, e, l1, _⟩ := h.rd; simp only [Value.slice.injEq] at e; have := h.len; omega
  have hle := h.le
  have HH := hide h
  clear af h
  have KW : Hid (∀ n, KpG g w (w.drewN n)) := fun n => KpG.of (below_drewN' w n _)
  cases hsh : r.short with
  | true =>
    rw [hsh] at A2
    have e1 : Hid (rtkS s r = []) := by show _ = _; unfold rtkS; rw [if_pos hsh]
    have e2 : Hid (rstS s r = r) := by show _ = _; unfold rstS; rw [if_pos hsh]
    have hsh' := hide hsh
    clear hsh
    go_enter Try.func99, Try.ntmps99
    go_wp2_with fail
    go_quiet (fail)
    go_wp2
    go_ret
    refine ⟨none, 0, by rw [e1.out]; rfl, by rw [e1.out]; exact rd_nil0 _, ?_, (KW.out nq).set 2 _⟩
    rw [e2.out]
    have bx : (w.drewN nq).heap[g]? = some (.cells #[.slice a L c, .int .i64 (at' : Int), .bool r.short] 165 (0, 0)) := HH.out.box
    refine ⟨a, c, L, at', ?_, HH.out.rd, HH.out.len, HH.out.le, HH.out.rest, (HH.out.bel.trans (below_drewN' w nq _)).setCell (p := ⟨g, 2, none⟩) HH.out.hg _, HH.out.hg⟩
    rw [hsh'.out]
    exact (heap_set3p bx _).2
  | false =>
    rw [hsh] at A2
    have hsh' := hide hsh
    clear hsh
    obtain ⟨D, hD⟩ : ∃ D, D = L - at' := ⟨_, rfl⟩
    have hd1 : (L : Int) - (at' : Int) = (D : Int) := by omega
    have hd2 : IntKind.i64.wrap (D : Int) = (D : Int) := IntWalk.i64_in _ (by omega)
    have hrl : Hid (r.rest.length = D) := by show _ = _; rw [HH.out.rest, List.length_drop, HH.out.len]; omega
    by_cases hlt : D < s
    · have g1 : decide ((D : Int) < (s : Int)) = true := decide_eq_true (by omega)
      have g2 : decide (D < s) = true := decide_eq_true hlt
      have e1 : Hid (rtkS s r = []) := by show _ = _; unfold rtkS rtk; rw [if_neg (by rw [hsh'.out]; decide), if_pos (by rw [hrl.out]; exact hlt)]
      have e2 : Hid (rstS s r = ⟨r.rest, true⟩) := by show _ = _; unfold rstS rst; rw [if_neg (by rw [hsh'.out]; decide), if_pos (by rw [hrl.out]; exact hlt)]
      replace hD := hide hD
      go_enter Try.func99, Try.ntmps99
      go_wp2_with fail
      go_quiet (fail)
      go_wp2
      go_ret
      refine ⟨none, 0, by rw [e1.out]; rfl, by rw [e1.out]; exact rd_nil0 _, ?_, (KW.out nq).set 2 _⟩
      rw [e2.out]
      have bx : (w.drewN nq).heap[g]? = some (.cells #[.slice a L c, .int .i64 (at' : Int), .bool r.short] 165 (0, 0)) := HH.out.box
      exact ⟨a, c, L, at', (heap_set3p bx _).2, HH.out.rd, HH.out.len, HH.out.le, HH.out.rest, (HH.out.bel.trans (below_drewN' w nq _)).setCell (p := ⟨g, 2, none⟩) HH.out.hg _, HH.out.hg⟩
    · have g1 : decide ((D : Int) < (s : Int)) = false := decide_eq_false (by omega)
      have g2 : decide (D < s) = false := decide_eq_false hlt
      have e1 : Hid (rtkS s r = r.rest.take s) := by show _ = _; unfold rtkS rtk; rw [if_neg (by rw [hsh'.out]; decide), if_neg (by rw [hrl.out]; exact hlt)]
      have e2 : Hid (rstS s r = ⟨r.rest.drop s, r.short⟩) := by show _ = _; unfold rstS rst; rw [if_neg (by rw [hsh'.out]; decide), if_neg (by rw [hrl.out]; exact hlt)]
      obtain ⟨E, hE⟩ : ∃ E, E = at' + s := ⟨_, rfl⟩
      have h1 : (at' : Int) + (s : Int) = (E : Int) := by omega
      have h2 : IntKind.i64.wrap (E : Int) = (E : Int) := IntWalk.i64_in _ (by omega)
      have h3 : (E : Int) - (s : Int) = (at' : Int) := by omega
      have h4 : IntKind.i64.wrap (at' : Int) = (at' : Int) := IntWalk.i64_in _ (by omega)
      have h5 : (at' : Int) ≤ (E : Int) := by omega
      have h6 : (E : Int) ≤ (c : Int) := by omega
      have h7 : (E : Int) ≤ (L : Int) := by omega
      obtain ⟨A, hA, R1⟩ := rd_cut HH.out.rd (q := at') (to := E) (by omega) (by omega)
      have hx : (xs.take E).drop at' = r.rest.take s := by rw [HH.out.rest, List.drop_take]; congr 1; omega
      rw [hx] at R1
      have hes : E - at' = s := by omega
      rw [hes] at R1
      have hls : Hid ((r.rest.take s).length = s) := by show _ = _; rw [List.length_take, hrl.out]; omega
      have hre : Hid (r.rest.drop s = xs.drop E) := by show _ = _; rw [HH.out.rest, List.drop_drop, hE]
      have hEL : Hid (E ≤ L) := by show _ ≤ _; omega
      replace hD := hide hD
      replace hE := hide hE
      replace R1 := hide R1
      clear hx
      go_enter Try.func99, Try.ntmps99
      go_wp2_with fail
      go_quiet (fail)
      go_wp2
      have bx : (w.drewN nq).heap[g]? = some (.cells #[.slice a L c, .int .i64 (at' : Int), .bool r.short] 165 (0, 0)) := HH.out.box
      obtain ⟨X, hX⟩ : ∃ X, X = (w.drewN nq).setCell ⟨g, 1, none⟩ (.int .i64 (E : Int)) := ⟨_, rfl⟩
      have bX : X.heap[g]? = some (.cells #[.slice a L c, .int .i64 (E : Int), .bool r.short] 165 (0, 0)) := by rw [hX]; exact (heap_set3p bx _).1
      have kX := hide ((KW.out nq).set 1 (.int .i64 (E : Int)))
      have lX := hide ((HH.out.bel.trans (below_drewN' w nq _)).setCell (p := ⟨g, 1, none⟩) HH.out.hg (.int .i64 (E : Int)))
      rw [← hX] at kX lX ⊢
      replace hX := hide hX
      obtain ⟨⟨C0, C1, C2⟩, _⟩ := cells3p bX
      have BX := hide bX
      clear A0 A1 A2 f1 f2 bx bX
      go_quiet (fail)
      go_wp2
      go_ret
      refine ⟨A, c - at', by rw [e1.out, hls.out]; first | rfl | (rw [← hes]; rfl), by rw [e1.out, hls.out]; exact R1.out, ?_, kX.out.trans (KpG.of (below_drewN' X _ _))⟩
      rw [e2.out]
      exact ⟨a, c, L, E, BX.out, HH.out.rd, HH.out.len, hEL.out, hre.out, lX.out.trans (below_drewN' X _ _), HH.out.hg⟩

set_option maxRecDepth 100000 in
set_option maxHeartbeats 1000000 in
theorem rnum9_any (w0 : World) (g : Nat) (w : World) (xs : List UInt8) (r : Rr) (s : Nat) (h : RdrP w0 g w xs r) (hs : s ≤ 7) :
    Calls Try.prog 98 #[.pointer (some ⟨g, 0, none⟩), .int .i64 (s : Int)] w fun e w' => e = .returned (.int .i64 (rnumS s r : Nat)) ∧ RdrP w0 g w' xs (rstS s r) ∧ KpG g w w' := by
  have KT := hide (rtake_any w0 g w xs r s h (by omega))
  have hn := rnumS_lt s r
  have hn2 : 2 ^ (8 * s) ≤ 2 ^ 56 := Nat.pow_le_pow_right (by decide) (by omega)
  have hn3 : rnumS s r < 9223372036854775808 := by
    have e56 : (2 : Nat) ^ 56 = 72057594037927936 := by decide
    omega
  have le := rtkS_le s r
  clear hn hn2 h
  go_enter Try.func98, Try.ntmps98
  go_wp2_with fail
  refine KT.out.mono ?_
  rintro e w1 ⟨a1, c1, rfl, d1, r1, k1⟩
  clear KT
  have KG := hide (refNumber_any w1 _ _ (d1.to r1.bel) (by omega))
  rw [show numOf (rtkS s r) = rnumS s r from rfl] at KG
  generalize (rtkS s r).length = TL at *
  generalize hV : rnumS s r = V at *
  replace hV := hide hV
  have hv : IntKind.i64.wrap (V : Int) = (V : Int) := IntWalk.i64_in _ (by omega)
  have R1 := hide (And.intro r1 k1)
  clear d1 r1 k1
  go_wp2_with fail
  refine KG.out.mono ?_
  rintro e w2 ⟨rfl, rfl⟩
  clear KG
  go_wp2
  go_ret
  exact ⟨ret_int (by rw [hV.out]), R1.out.1, R1.out.2⟩

end Go.Proofs.Ytgmkknonnidgaaa
