/- Several texts in one: CkE CkF CkG CkH CkK CkP CkL CkQ CkSA CkB CkSB CkD CkSC CkSD CkSE CkSR CkST CkSU CkI CkSV CkSW CkProg. -/
import Derived.Deep.QuietTactic
import Derived.BigQuiet
import Derived.Deep.CutRange
import Derived.Test.YtdjjegaodgocmaaGoLCkTells1
import Derived.Laws.AppendOwnNone
import Derived.Laws.Cover1
import Derived.ChangeMaps5
import Derived.Lib.AppendStr
import Derived.Laws.BitsAllLaws
import Derived.Laws.Bits128
import Derived.WalkMore
import Derived.ScopeJumps
import Derived.Test.YtdjjegaodgocmaaGoLCkTells0
import Derived.WalkSmall
import Derived.Defers
import Derived.Recover
set_option linter.unusedVariables false
set_option linter.unusedSimpArgs false
namespace Go.Proofs.Ytdjjegaodgocmaa
open Go.RowKit
def KpH (g : Nat) (w U : World) : Prop := (∀ b, b < w.heap.size → b ≠ g → U.heap[b]? = w.heap[b]?) ∧ w.heap.size ≤ U.heap.size ∧ ∀ B, B ≤ g → B ≤ w.heap.size → Below B w U
theorem KpH.of {g : Nat} {w U : World} (h : Below w.heap.size w U) : KpH g w U := ⟨fun b hb _ => h.block b hb, h.size, fun B _ hB => h.mono hB⟩
theorem KpH.refl (g : Nat) (w : World) : KpH g w w := KpH.of (Below.refl _ _)
theorem KpH.trans {g : Nat} {w U V : World} (h : KpH g w U) (k : KpH g U V) : KpH g w V :=
 ⟨fun b hb hn => (k.1 b (Nat.lt_of_lt_of_le hb h.2.1) hn).trans (h.1 b hb hn), Nat.le_trans h.2.1 k.2.1, fun B hB hw => (h.2.2 B hB hw).trans (k.2.2 B hB (Nat.le_trans hw h.2.1))⟩
theorem KpH.set {g : Nat} {w U : World} (h : KpH g w U) (i : Nat) (v : Value) : KpH g w (U.setCell ⟨g, i, none⟩ v) :=
 ⟨fun b hb hn => (Below.heap_setCell _ _ _ _ hn).trans (h.1 b hb hn), by simpa using h.2.1, fun B hB hw => (h.2.2 B hB hw).setCell (p := ⟨g, i, none⟩) hB v⟩
theorem heap_set3q {u : World} {g : Nat} {a b c : Value} {t : TypeId} {fr : Nat × Nat} (h : u.heap[g]? = some (.cells #[a, b, c] t fr)) (x : Value) : (u.setCell ⟨g, 1, none⟩ x).heap[g]? = some (.cells #[a, x, c] t fr) ∧ (u.setCell ⟨g, 2, none⟩ x).heap[g]? = some (.cells #[a, b, x] t fr) := by
 constructor <;> simp [World.setCell, Array.getElem?_modify, h]
theorem cells3q {w : World} {g : Nat} {a b c : Value} {t : TypeId} (h : w.heap[g]? = some (.cells #[a, b, c] t (0, 0))) : (w.cell? ⟨g, 0, none⟩ = some a ∧ w.cell? ⟨g, 1, none⟩ = some b ∧ w.cell? ⟨g, 2, none⟩ = some c) ∧ ∀ i, w.frozen? ⟨g, i, none⟩ = false := by
 refine ⟨⟨?_, ?_, ?_⟩, fun i => ?_⟩
 ·rw [cell_of_row _ _ 0 _ _ (0, 0) h]; rfl
 ·rw [cell_of_row _ _ 1 _ _ (0, 0) h]; rfl
 ·rw [cell_of_row _ _ 2 _ _ (0, 0) h]; rfl
 ·simp [World.frozen?, h]
theorem rd_nilq (w : World) : Rd w (.slice none 0 0) [] := ⟨none, 0, rfl, Nat.le_refl _, Nat.zero_le _, fun _ => rfl, .inl rfl⟩
theorem tk_le (s : Rst) (n : Nat) : (tk s n).1.length ≤ n := by
 unfold tk
 split
 ·simp
 ·split <;> simp <;> omega
theorem nm_lt (s : Rst) (n : Nat) : (nm s n).1 < 2 ^ (8 * n) := by
 unfold nm numOf
 refine Nat.lt_of_lt_of_le (numTo_lt _ _) (Nat.pow_le_pow_right (by decide) ?_)
 have := tk_le s n
 omega
structure RdCA (w0 : World) (g : Nat) (w : World) (a : Option Addr) (c L at' : Nat) (xs : List UInt8) (s : Rst) : Prop where
 box : w.heap[g]? = some (.cells #[.slice a L c, .int .i64 (at' : Int), .int .i64 s.2] 59 (0, 0))
 rd : Rd w0 (.slice a L c) xs
 len : xs.length = L
 le : at' ≤ L
 rest : s.1 = xs.drop at'
 bel : Below w0.heap.size w0 w
 hg : w0.heap.size ≤ g
def RdC13 (w0 : World) (g : Nat) (w : World) (xs : List UInt8) (s : Rst) : Prop := ∃ a c L at', RdCA w0 g w a c L at' xs s
theorem RdC13.to {w0 : World} {g : Nat} {w : World} {xs : List UInt8} {s : Rst} (h : RdC13 w0 g w xs s) {U : World} (k : Below w.heap.size w U) : RdC13 w0 g U xs s := by
 obtain ⟨a, c, L, at', h⟩ := h
 exact ⟨a, c, L, at', (k.block _ (lt_of_block h.box)).trans h.box, h.rd, h.len, h.le, h.rest, h.bel.trans (k.mono h.bel.size), h.hg⟩
theorem RdC13.bel {w0 : World} {g : Nat} {w : World} {xs : List UInt8} {s : Rst} (h : RdC13 w0 g w xs s) : Below w0.heap.size w0 w := by obtain ⟨_, _, _, _, h⟩ := h; exact h.bel
theorem RdC13.err {w0 : World} {g : Nat} {w : World} {xs : List UInt8} {s : Rst} (h : RdC13 w0 g w xs s) : w.cell? ⟨g, 2, none⟩ = some (.int .i64 s.2) ∧ w.frozen? ⟨g, 2, none⟩ = false := by
 obtain ⟨_, _, _, _, h⟩ := h
 obtain ⟨⟨_, _, k⟩, f⟩ := cells3q h.box
 exact ⟨k, f 2⟩
theorem RdC13.set {w0 : World} {g : Nat} {w : World} {xs : List UInt8} {s : Rst} (h : RdC13 w0 g w xs s) (e : Int) : RdC13 w0 g (w.setCell ⟨g, 2, none⟩ (.int .i64 e)) xs (s.1, e) := by
 obtain ⟨a, c, L, at', h⟩ := h
 exact ⟨a, c, L, at', (heap_set3q h.box _).2, h.rd, h.len, h.le, h.rest, h.bel.setCell (p := ⟨g, 2, none⟩) h.hg _, h.hg⟩
set_option maxRecDepth 100000 in
set_option maxHeartbeats 2000000 in
theorem rctake_any (w0 : World) (g : Nat) (w : World) (xs : List UInt8) (r : Rst) (s : Nat) (h : RdC13 w0 g w xs r) (hs : s ≤ 1000000000000) :
  Calls Try.prog 51 #[.pointer (some ⟨g, 0, none⟩), .int .i64 (s : Int)] w fun e w' => ∃ a1 c1, e = .returned (.slice a1 (tk r s).1.length c1) ∧ Rd w0 (.slice a1 (tk r s).1.length c1) (tk r s).1 ∧ RdC13 w0 g w' xs (tk r s).2 ∧ KpH g w w' := by
 have hfull := h
 obtain ⟨a, c, L, at', h⟩ := h
 obtain ⟨⟨A0, A1, A2⟩, af⟩ := cells3q h.box
 have f1 := af 1
 have f2 := af 2
 have lb : L ≤ 9223372036854775807 := by obtain ⟨_, _, e, _, m1, _⟩ := h.rd; simp only [Value.slice.injEq] at e; unfold maxLen at m1; have := h.len; omega
 have hcap : L ≤ c := by obtain ⟨_, _, e, l1, _⟩ := h.rd; simp only [Value.slice.injEq] at e; have := h.len; omega
 have hle := h.le
 have HH := hide h
 have HF := hide hfull
 clear af h hfull
 have KW : Hid (∀ n, KpH g w (w.drewN n)) := fun n => KpH.of (below_drewN' w n _)
 obtain ⟨rest, err⟩ := r
 dsimp only at A2
 by_cases hsh : err = 0
 rotate_left
 ·have e1 : Hid (tk (rest, err) s = ([], (rest, err))) := tk_err hsh s
  have hq : (err != 0) = true := by simpa using hsh
  replace hsh := hide hsh
  go_enter Try.func51, Try.ntmps51
  go_wp2
  go_ret
  exact ⟨none, 0, by rw [e1.out]; rfl, by rw [e1.out]; exact rd_nilq _, by rw [e1.out]; exact HF.out, KpH.refl _ _⟩
 ·subst hsh
  obtain ⟨D, hD⟩ : ∃ D, D = L - at' := ⟨_, rfl⟩
  have hd1 : (L : Int) - (at' : Int) = (D : Int) := by omega
  have hd2 : IntKind.i64.wrap (D : Int) = (D : Int) := IntWalk.i64_in _ (by omega)
  have hrl : Hid (rest.length = D) := by show _ = _; have := HH.out.rest; dsimp only at this; rw [this, List.length_drop, HH.out.len]; omega
  by_cases hlt : D < s
  ·have g0 : (D : Int) < (s : Int) := by omega
   have e1 : Hid (tk (rest, 0) s = ([], (rest, 8))) := by show _ = _; unfold tk; rw [if_neg (by simp), if_pos (by dsimp only; rw [hrl.out]; exact hlt)]
   replace hD := hide hD
   go_enter Try.func51, Try.ntmps51
   go_upto_region 3 with fail
   go_quiet (fail)
   go_wp2
   go_ret
   refine ⟨none, 0, by rw [e1.out]; rfl, by rw [e1.out]; exact rd_nilq _, ?_, (KW.out nq).set 2 _⟩
   rw [e1.out]
   exact (HF.out.to (below_drewN' w nq _)).set 8
  ·have g0 : ¬ (D : Int) < (s : Int) := by omega
   have g1 : decide ((D : Int) < (s : Int)) = false := decide_eq_false g0
   have g2 : decide (D < s) = false := decide_eq_false hlt
   have e1 : Hid (tk (rest, 0) s = (rest.take s, (rest.drop s, 0))) := by show _ = _; unfold tk; rw [if_neg (by simp), if_neg (by dsimp only; rw [hrl.out]; exact hlt)]
   obtain ⟨E, hE⟩ : ∃ E, E = at' + s := ⟨_, rfl⟩
   have h1 : (at' : Int) + (s : Int) = (E : Int) := by omega
   have h2 : IntKind.i64.wrap (E : Int) = (E : Int) := IntWalk.i64_in _ (by omega)
   have h3 : (E : Int) - (s : Int) = (at' : Int) := by omega
   have h4 : IntKind.i64.wrap (at' : Int) = (at' : Int) := IntWalk.i64_in _ (by omega)
   have h5 : (at' : Int) ≤ (E : Int) := by omega
   have h6 : (E : Int) ≤ (c : Int) := by omega
   have h7 : (E : Int) ≤ (L : Int) := by omega
   obtain ⟨A, hA, R1⟩ := rd_cut HH.out.rd (q := at') («to» := E) (by omega) (by omega)
   have hrst := HH.out.rest
   dsimp only at hrst
   have hx : (xs.take E).drop at' = rest.take s := by rw [hrst, List.drop_take]; congr 1; omega
   rw [hx] at R1
   have hes : E - at' = s := by omega
   rw [hes] at R1
   have hls : Hid ((rest.take s).length = s) := by show _ = _; rw [List.length_take, hrl.out]; omega
   have hre : Hid (rest.drop s = xs.drop E) := by show _ = _; rw [hrst, List.drop_drop, hE]
   have hEL : Hid (E ≤ L) := by show _ ≤ _; omega
   replace hD := hide hD
   replace hE := hide hE
   replace R1 := hide R1
   clear hx hrst
   go_enter Try.func51, Try.ntmps51
   go_upto_region 3 with fail
   go_quiet (fail)
   go_upto_region 7 with fail
   have bx : (w.drewN nq).heap[g]? = some (.cells #[.slice a L c, .int .i64 (at' : Int), .int .i64 0] 59 (0, 0)) := HH.out.box
   obtain ⟨X, hX⟩ : ∃ X, X = (w.drewN nq).setCell ⟨g, 1, none⟩ (.int .i64 (E : Int)) := ⟨_, rfl⟩
   have bX : X.heap[g]? = some (.cells #[.slice a L c, .int .i64 (E : Int), .int .i64 0] 59 (0, 0)) := by rw [hX]; exact (heap_set3q bx _).1
   have kX := hide ((KW.out nq).set 1 (.int .i64 (E : Int)))
   have lX := hide ((HH.out.bel.trans (below_drewN' w nq _)).setCell (p := ⟨g, 1, none⟩) HH.out.hg (.int .i64 (E : Int)))
   rw [← hX] at kX lX ⊢
   replace hX := hide hX
   obtain ⟨⟨C0, C1, C2⟩, _⟩ := cells3q bX
   have BX := hide bX
   clear A0 A1 A2 f1 f2 bx bX
   go_quiet (fail)
   go_wp2
   go_ret
   refine ⟨A, c - at', by rw [e1.out, hls.out]; first | rfl | (rw [← hes]; rfl), by rw [e1.out, hls.out]; exact R1.out, ?_, kX.out.trans (KpH.of (below_drewN' X _ _))⟩
   rw [e1.out]
   exact ⟨a, c, L, E, BX.out, HH.out.rd, HH.out.len, hEL.out, hre.out, lX.out.trans (below_drewN' X _ _), HH.out.hg⟩
set_option maxRecDepth 100000 in
set_option maxHeartbeats 1000000 in
theorem rcnum_any (w0 : World) (g : Nat) (w : World) (xs : List UInt8) (r : Rst) (s : Nat) (h : RdC13 w0 g w xs r) (hs : s ≤ 8) :
  Calls Try.prog 28 #[.pointer (some ⟨g, 0, none⟩), .int .i64 (s : Int)] w fun e w' => e = .returned (.int .u64 ((nm r s).1 : Nat)) ∧ RdC13 w0 g w' xs (nm r s).2 ∧ KpH g w w' := by
 have KT := hide (rctake_any w0 g w xs r s h (by omega))
 have le := tk_le r s
 clear h
 go_enter Try.func28, Try.ntmps28
 go_wp2_with fail
 refine KT.out.mono ?_
 rintro e w1 ⟨a1, c1, rfl, d1, r1, k1⟩
 clear KT
 have KG := hide (refNumber_any w1 _ _ (d1.to r1.bel) (by omega))
 rw [show numOf (tk r s).1 = (nm r s).1 from rfl] at KG
 generalize (tk r s).1.length = TL at *
 generalize hV : (nm r s).1 = V at *
 replace hV := hide hV
 have R1 := hide (And.intro r1 k1)
 clear d1 r1 k1
 go_wp2_with fail
 refine KG.out.mono ?_
 rintro e w2 ⟨rfl, rfl⟩
 clear KG
 go_wp2
 go_ret
 exact ⟨ret_int (by rw [hV.out]), R1.out.1, R1.out.2⟩
end Go.Proofs.Ytdjjegaodgocmaa

namespace Go.Proofs.Ytdjjegaodgocmaa
open Go.RowKit
theorem pow7_le {k : Nat} (h : k ≤ 6) : 2 ^ (7 * k) ≤ 4398046511104 := by
 have : 2 ^ (7 * k) ≤ 2 ^ 42 := Nat.pow_le_pow_right (by decide) (by omega)
 exact Nat.le_trans this (by decide)
theorem i64_join {a q k : Nat} (ha : a < 2 ^ (7 * k)) (hq : q < 128) (hk : k ≤ 5) : bits .or .i64 (a : Int) ((q * 2 ^ (7 * k) : Nat) : Int) = ((a + q * 2 ^ (7 * k) : Nat) : Int) := by
 have h6 := pow7_le (k := k + 1) (by omega)
 have e : 2 ^ (7 * (k + 1)) = 128 * 2 ^ (7 * k) := by rw [show 7 * (k + 1) = 7 * k + 7 by omega, Nat.pow_add]; omega
 have hq2 : q * 2 ^ (7 * k) ≤ 127 * 2 ^ (7 * k) := Nat.mul_le_mul_right _ (by omega)
 have key : (BitVec.ofInt 64 (a : Int) ||| BitVec.ofInt 64 ((q * 2 ^ (7 * k) : Nat) : Int)).toNat = a + q * 2 ^ (7 * k) := by
  rw [BitVec.toNat_or, BitVec.ofInt_natCast, BitVec.ofInt_natCast, BitVec.toNat_ofNat, BitVec.toNat_ofNat, Nat.mod_eq_of_lt (by omega), Nat.mod_eq_of_lt (by omega)]
  have := Nat.two_pow_add_eq_or_of_lt (i := 7 * k) (b := a) ha q
  rw [Nat.or_comm, Nat.mul_comm q, ← this, Nat.add_comm]
 show IntKind.i64.wrap ((BitVec.ofInt 64 (a : Int) ||| BitVec.ofInt 64 ((q * 2 ^ (7 * k) : Nat) : Int)).toNat : Nat) = _
 rw [key, IntKind.wrap_i64]
 omega
theorem w64_nat {n : Nat} (h : n ≤ 4398046511104) : wrap64 (n : Int) = (n : Int) := by unfold wrap64; omega
theorem grp_step {a q k : Nat} (ha : a < 2 ^ (7 * k)) (hq : q < 128) (hk : k ≤ 5) : bits .or .i64 (a : Int) (wrap64 ((q : Int) * 2 ^ (7 * k))) = ((a + q * 2 ^ (7 * k) : Nat) : Int) ∧ a + q * 2 ^ (7 * k) < 2 ^ (7 * (k + 1)) ∧ a + q * 2 ^ (7 * k) ≤ 4398046511104 := by
 have h6 := pow7_le (k := k + 1) (by omega)
 have e : 2 ^ (7 * (k + 1)) = 128 * 2 ^ (7 * k) := by rw [show 7 * (k + 1) = 7 * k + 7 by omega, Nat.pow_add]; omega
 have hq2 : q * 2 ^ (7 * k) ≤ 127 * 2 ^ (7 * k) := Nat.mul_le_mul_right _ (by omega)
 refine ⟨?_, by omega, by omega⟩
 have hc : (q : Int) * 2 ^ (7 * k) = ((q * 2 ^ (7 * k) : Nat) : Int) := by push_cast; rfl
 rw [hc, w64_nat (by omega)]
 exact i64_join ha hq hk
set_option maxRecDepth 100000 in
set_option maxHeartbeats 4000000 in
theorem rcgrp_any (w0 : World) (g : Nat) (w : World) (xs : List UInt8) (r : Rst) (h : RdC13 w0 g w xs r) :
  Calls Try.prog 29 #[.pointer (some ⟨g, 0, none⟩)] w fun e w' => e = .returned (.int .i64 ((grp 6 0 0 r).1 : Nat)) ∧ RdC13 w0 g w' xs (grp 6 0 0 r).2 ∧ KpH g w w' := by
 have HH := hide h
 clear h
 go_enter Try.func29, Try.ntmps29
 go_wp2
 go_loopw [3, 4] (fun n p wr => ∃ (k a : Nat) (s : Rst), k ≤ 6 ∧ n = .int .i64 a ∧ p = .int .i64 k ∧ Hid (RdC13 w0 g wr xs s ∧ KpH g w wr ∧ grp (6 - k) k a s = grp 6 0 0 r ∧ a < 2 ^ (7 * k))) (fun _ p _ => 6 - (intOf p).toNat)
 case atStart => exact ⟨0, 0, r, by omega, rfl, rfl, hide ⟨HH.out, KpH.refl _ _, rfl, by decide⟩⟩
 case round =>
  obtain ⟨k, a, s, hk, rfl, rfl, hI⟩ := hrel
  by_cases hlt : k < 6
  ·have hq : (k : Int) < 6 := by omega
   have KN := hide (rcnum_any w0 g wr xs s 1 hI.out.1 (by decide))
   have hm256 := nm_lt s 1
   obtain ⟨f, hf⟩ : ∃ f, 6 - k = f + 1 := ⟨5 - k, by omega⟩
   have hgr := hI.out.2.2.1
   rw [hf, grp] at hgr
   obtain ⟨m, hm⟩ : ∃ m, m = (nm s 1).1 := ⟨_, rfl⟩
   obtain ⟨s1, hs1⟩ : ∃ m, m = (nm s 1).2 := ⟨_, rfl⟩
   rw [← hm, ← hs1] at KN hgr
   rw [← hm] at hm256
   have HGR := hide hgr
   have hmw : IntKind.i64.wrap (m : Int) = (m : Int) := by rw [IntKind.wrap_i64]; omega
   replace hm := hide hm
   replace hs1 := hide hs1
   clear hgr
   go_wp2_with fail
   refine KN.out.mono ?_
   rintro e w2 ⟨rfl, r2, k2⟩
   clear KN
   have R2 := hide r2
   have K2 := hide (hI.out.2.1.trans k2)
   obtain ⟨ce, cf⟩ := r2.err
   obtain ⟨rest1, e1⟩ := s1
   dsimp only at ce HGR
   clear r2 k2
   by_cases he : e1 = 0
   rotate_left
   ·have he' : (e1 != 0) = true := by simpa using he
    have hz : Hid (grp 6 0 0 r = (0, (rest1, e1))) := by show _ = _; rw [← HGR.out, if_pos he]
    replace he := hide he
    go_wp2
    go_ret
    exact ⟨ret_int (by rw [hz.out]; rfl), by rw [hz.out]; exact R2.out, K2.out⟩
   subst he
   obtain ⟨q, hq128⟩ : ∃ q, q = m % 128 := ⟨_, rfl⟩
   have g1 : bits .and .i64 (m : Int) 127 = (q : Int) := by rw [i64_and127]; omega
   obtain ⟨a', ha'⟩ : ∃ a', a' = a + q * 2 ^ (7 * k) := ⟨_, rfl⟩
   have hst := grp_step (q := q) hI.out.2.2.2 (by omega) (show k ≤ 5 by omega)
   rw [← ha'] at hst
   have hOR := hide hst.1
   have ha9 := hide hst.2.1
   have haN := hst.2.2
   have hfk : Hid (f = 6 - (k + 1)) := by show _ = _; omega
   have haq : Hid (a' = a + (m % 128) * 2 ^ (7 * k)) := by show _ = _; rw [ha', hq128]
   replace hq128 := hide hq128
   clear hst ha'
   go_upto_region 9 with fail
   rw [hOR.out]
   by_cases hs : (m : Int) < 128
   ·have haq2 : Hid (a' = a + m * 2 ^ (7 * k)) := by show _ = _; rw [haq.out, Nat.mod_eq_of_lt (by omega)]
    by_cases hz : m = 0 ∧ 0 < k
    ·obtain ⟨hz0, hz1⟩ := hz
     have hE : Hid (grp 6 0 0 r = (a', (rest1, 4))) := by show _ = _; rw [← HGR.out, if_neg (by simp), if_pos (by omega), if_pos ⟨hz0, hz1⟩, haq2.out]
     have hk0 : (0 : Int) < (k : Int) := by omega
     have hm0 : ((m : Int) == 0) = true := by simp [hz0]
     replace hz0 := hide hz0
     go_wp2
     go_ret
     exact ⟨ret_int (by rw [hE.out]), by rw [hE.out]; exact R2.out.set 4, K2.out.set 2 _⟩
    ·have hE : Hid (grp 6 0 0 r = (a', (rest1, 0))) := by show _ = _; rw [← HGR.out, if_neg (by simp), if_pos (by omega), if_neg hz, haq2.out]
     by_cases hz0 : m = 0
     ·have hk0 : ¬ (0 : Int) < (k : Int) := by omega
      have hm0 : ((m : Int) == 0) = true := by simp [hz0]
      replace hz0 := hide hz0
      replace hz := hide hz
      go_wp2
      go_ret
      exact ⟨ret_int (by rw [hE.out]), by rw [hE.out]; exact R2.out, K2.out⟩
     ·have hm0 : ((m : Int) == 0) = false := by simpa using hz0
      replace hz0 := hide hz0
      replace hz := hide hz
      go_wp2
      go_ret
      exact ⟨ret_int (by rw [hE.out]), by rw [hE.out]; exact R2.out, K2.out⟩
   ·have hN : Hid (RdC13 w0 g w2 xs (rest1, 0) ∧ KpH g w w2 ∧ grp (6 - (k + 1)) (k + 1) a' (rest1, 0) = grp 6 0 0 r ∧ a' < 2 ^ (7 * (k + 1))) := by
     refine ⟨R2.out, K2.out, ?_, ha9.out⟩
     rw [← HGR.out, if_neg (by simp), if_neg (by omega), haq.out, ← hfk.out]
    go_wp2
    go_roundw
    case rel => exact ⟨k + 1, a', _, by omega, rfl, by go_num, hN⟩
    case measure => simp [intOf]; omega
  ·have hq : ¬ (k : Int) < 6 := by omega
   have hE : Hid (grp 6 0 0 r = (0, (s.1, 4))) := by
    show _ = _
    have h9 := hI.out.2.2.1
    rw [show 6 - k = 0 by omega] at h9
    rw [← h9]
    rfl
   obtain ⟨ce, cf⟩ := hI.out.1.err
   go_wp2
   go_ret
   exact ⟨ret_int (by rw [hE.out]; rfl), by rw [hE.out]; exact hI.out.1.set 4, hI.out.2.1.set 2 _⟩
end Go.Proofs.Ytdjjegaodgocmaa

namespace Go.Proofs.Ytdjjegaodgocmaa
open Go.RowKit
theorem convq_any {w : World} {a : Option Addr} {c : Nat} {xs : List UInt8} (h : Rd w (.slice a xs.length c) xs) : (convert 25 9 (.slice a xs.length c)).run Try.prog w = .ok (.string ⟨xs.toArray⟩) w := by
 by_cases h0 : 0 < xs.length
 ·exact conv_rd h h0
 ·have : xs = [] := List.eq_nil_of_length_eq_zero (by omega)
  subst this
  show (convert 25 9 (.slice a 0 c)).run Try.prog w = _
  rw [run_convert_bytes_string (P := Try.prog) w 25 9 5 a 0 c Try.underlying25 Try.underlying5 Try.underlying9]
  cases a <;> simp [Conv.bytesToString, loadCells]
  all_goals rfl
theorem KpH.setO {g : Nat} {w U : World} (h : KpH g w U) {p : Addr} (hp : w.heap.size ≤ p.block) (v : Value) : KpH g w (U.setCell p v) :=
 ⟨fun b hb hn => (Below.heap_setCell _ _ _ _ (by omega)).trans (h.1 b hb hn), by simpa using h.2.1, fun B hB hw => (h.2.2 B hB hw).setCell (by omega) v⟩
theorem RdC13.other {w0 : World} {g : Nat} {w : World} {xs : List UInt8} {s : Rst} (h : RdC13 w0 g w xs s) {p : Addr} (hp : w0.heap.size ≤ p.block) (hne : p.block ≠ g) (v : Value) : RdC13 w0 g (w.setCell p v) xs s := by
 obtain ⟨a, c, L, at', h⟩ := h
 exact ⟨a, c, L, at', (Below.heap_setCell _ _ _ _ (Ne.symm hne)).trans h.box, h.rd, h.len, h.le, h.rest, h.bel.setCell hp _, h.hg⟩
theorem RdC13.lt {w0 : World} {g : Nat} {w : World} {xs : List UInt8} {s : Rst} (h : RdC13 w0 g w xs s) : g < w.heap.size ∧ w0.heap.size ≤ g ∧ w0.heap.size ≤ w.heap.size := by
 obtain ⟨a, c, L, at', h⟩ := h
 exact ⟨lt_of_block h.box, h.hg, h.bel.size⟩
structure OpS (w0 : World) (g : Nat) (w : World) (g5 : Nat) (wr : World) (xs : List UInt8) (s : Rst) (x y z : Value) : Prop where
 rd : RdC13 w0 g wr xs s
 kp : KpH g w wr
 bo : wr.heap[g5]? = some (.cells #[x, y, z] 48 (0, 0))
 br : wr.heap[w.heap.size]? = some (.cells #[.int .i64 0, .string ⟨#[]⟩, .string ⟨#[]⟩] 48 (0, 0))
 h5 : w.heap.size < g5
 hg : g < w.heap.size ∧ w0.heap.size ≤ w.heap.size
theorem OpS.call {w0 : World} {g : Nat} {w : World} {g5 : Nat} {wr w' : World} {xs : List UInt8} {s s' : Rst} {x y z : Value} (h : OpS w0 g w g5 wr xs s x y z) (r : RdC13 w0 g w' xs s') (k : KpH g wr w') : OpS w0 g w g5 w' xs s' x y z := by
 have h1 := h.h5
 have h2 := h.hg
 exact ⟨r, h.kp.trans k, (k.1 _ (lt_of_block h.bo) (by omega)).trans h.bo, (k.1 _ (lt_of_block h.br) (by omega)).trans h.br, h1, h2⟩
theorem OpS.set {w0 : World} {g : Nat} {w : World} {g5 : Nat} {wr : World} {xs : List UInt8} {s : Rst} {x y z : Value} (h : OpS w0 g w g5 wr xs s x y z) (u : Value) :
  OpS w0 g w g5 (wr.setCell ⟨g5, 1, none⟩ u) xs s x u z ∧ OpS w0 g w g5 (wr.setCell ⟨g5, 2, none⟩ u) xs s x y u := by
 have h1 := h.h5
 have h2 := h.hg
 exact ⟨⟨h.rd.other (p := ⟨g5, 1, none⟩) (by show _ ≤ g5; omega) (by show g5 ≠ g; omega) _, h.kp.setO (p := ⟨g5, 1, none⟩) (by show _ ≤ g5; omega) _, (heap_set3q h.bo u).1, (Below.heap_setCell _ _ _ _ (show w.heap.size ≠ g5 by omega)).trans h.br, h1, h2⟩,
  ⟨h.rd.other (p := ⟨g5, 2, none⟩) (by show _ ≤ g5; omega) (by show g5 ≠ g; omega) _, h.kp.setO (p := ⟨g5, 2, none⟩) (by show _ ≤ g5; omega) _, (heap_set3q h.bo u).2, (Below.heap_setCell _ _ _ _ (show w.heap.size ≠ g5 by omega)).trans h.br, h1, h2⟩⟩
theorem heap_all3 {u : World} {g : Nat} {a b c : Value} {t : TypeId} {fr : Nat × Nat} (h : u.heap[g]? = some (.cells #[a, b, c] t fr)) (x y z : Value) : (((u.setCell ⟨g, 0, none⟩ x).setCell ⟨g, 1, none⟩ y).setCell ⟨g, 2, none⟩ z).heap[g]? = some (.cells #[x, y, z] t fr) := by
 simp [World.setCell, Array.getElem?_modify, h]
theorem OpS.fin {w0 : World} {g : Nat} {w : World} {g5 : Nat} {wr : World} {xs : List UInt8} {s : Rst} {x y z : Value} (h : OpS w0 g w g5 wr xs s x y z) (a b c : Value) :
  RdC13 w0 g (((wr.setCell ⟨w.heap.size, 0, none⟩ a).setCell ⟨w.heap.size, 1, none⟩ b).setCell ⟨w.heap.size, 2, none⟩ c) xs s ∧ KpH g w (((wr.setCell ⟨w.heap.size, 0, none⟩ a).setCell ⟨w.heap.size, 1, none⟩ b).setCell ⟨w.heap.size, 2, none⟩ c) := by
 have h2 := h.hg
 have q1 := fun i => (show w0.heap.size ≤ (⟨w.heap.size, i, none⟩ : Addr).block from h2.2)
 have q2 := fun i => (show (⟨w.heap.size, i, none⟩ : Addr).block ≠ g from by show w.heap.size ≠ g; omega)
 exact ⟨((h.rd.other (q1 0) (q2 0) a).other (q1 1) (q2 1) b).other (q1 2) (q2 2) c, ((h.kp.setO (p := ⟨w.heap.size, 0, none⟩) (Nat.le_refl _) a).setO (p := ⟨w.heap.size, 1, none⟩) (Nat.le_refl _) b).setO (p := ⟨w.heap.size, 2, none⟩) (Nat.le_refl _) c⟩
theorem info_op13 : (Try.prog.info? 48).map (·.size) = some 3 := by kernel_rfl
set_option maxRecDepth 100000 in
set_option maxHeartbeats 4000000 in
theorem rcop_any (w0 : World) (g : Nat) (w : World) (xs : List UInt8) (r : Rst) (v : Int) (h : RdC13 w0 g w xs r) :
  Calls Try.prog 30 #[.pointer (some ⟨g, 0, none⟩), .int .i64 v] w fun e w' => e = .returned (.agg #[.int .i64 (rop v r).1.1, st (rop v r).1.2.1, st (rop v r).1.2.2]) ∧ RdC13 w0 g w' xs (rop v r).2 ∧ KpH g w w' := by
 obtain ⟨X, hX, DX, bX, sX⟩ := boxedN w #[.int .i64 0, .string ⟨#[]⟩, .string ⟨#[]⟩] 48
 obtain ⟨hgw, hg0, hw0⟩ := h.lt
 have KN := rcnum_any w0 g X xs r 1 (h.to bX) (by decide)
 have hE := hide (show rop v r = _ from rfl)
 have hm0 := nm_lt r 1
 obtain ⟨m0, s0, hr0⟩ : ∃ m s, nm r 1 = (m, s) := ⟨_, _, rfl⟩
 rw [hr0] at KN hm0
 dsimp only at KN hm0
 obtain ⟨m1, s1, hr1⟩ : ∃ m s, nm s0 1 = (m, s) := ⟨_, _, rfl⟩
 have hm1 := nm_lt s0 1
 rw [hr1] at hm1
 dsimp only at hm1
 have KX : Hid (KpH g w X) := KpH.of bX
 have HDX := hide DX
 have c0 : IntKind.i64.wrap (m0 : Int) = (m0 : Int) := by rw [IntKind.wrap_i64]; omega
 have c1 : IntKind.i64.wrap (m1 : Int) = (m1 : Int) := by rw [IntKind.wrap_i64]; omega
 replace KN := hide KN
 have Hr0 := hide hr0
 have Hr1 := hide hr1
 rw [hX] at KN
 clear h DX bX sX hr0 hr1 hE
 go_enter Try.func30, Try.ntmps30
 go_wp2_with fail
 refine KN.out.mono ?_
 rintro e w1 ⟨rfl, r1, k1⟩
 rw [← hX] at k1
 replace hX := hide hX
 clear KN
 have hXw : Hid (X.heap.size = w.heap.size + 1) := by show _ = _; rw [hX.out]; simp
 have D1 := (k1.1 _ (lt_of_block HDX.out) (by omega)).trans HDX.out
 have K1 := hide (KX.out.trans k1)
 have hw1 : Hid (w.heap.size + 1 ≤ w1.heap.size) := by show _ ≤ _; have := k1.2.1; rw [hXw.out] at this; exact this
 obtain ⟨Y, hY, DY, bY, sY⟩ := boxedN w1 #[.int .i64 (m0 : Int), .string ⟨#[]⟩, .string ⟨#[]⟩] 48
 have KN := hide (rcnum_any w0 g Y xs s0 1 (r1.to bY) (by decide))
 rw [Hr1.out] at KN
 dsimp only at KN
 have HDY := hide DY
 have HD1 := hide ((bY.block _ (lt_of_block D1)).trans D1)
 have KY := hide (K1.out.trans (KpH.of bY))
 have hY1 : Hid (Y.heap.size = w1.heap.size + 1) := sY
 have hg1 : Hid (g < w.heap.size ∧ w0.heap.size ≤ w.heap.size) := ⟨hgw, hw0⟩
 rw [hY] at KN
 clear r1 k1 D1 DY bY sY hgw hg0 hw0
 go_wp2_with fail
 refine KN.out.mono ?_
 rintro e w2 ⟨rfl, r2, k2⟩
 rw [← hY] at k2
 replace hY := hide hY
 clear KN
 have hOS : Hid (OpS w0 g w w1.heap.size w2 xs s1 (.int .i64 (m0 : Int)) (.string ⟨#[]⟩) (.string ⟨#[]⟩)) := by
  have hgs := hg1.out
  have hws := hw1.out
  have h12 := hY1.out
  exact ⟨r2, KY.out.trans k2, (k2.1 _ (lt_of_block HDY.out) (by omega)).trans HDY.out, (k2.1 _ (lt_of_block HD1.out) (by omega)).trans HD1.out, by omega, hgs⟩
 clear r2 k2
 by_cases hv : v = 1
 ·have hv1 : (v == 1) = true := by simpa using hv
  have KT := hide (rctake_any w0 g w2 xs s1 m1 hOS.out.rd (by omega))
  obtain ⟨key, s2, hr2⟩ : ∃ m s, tk s1 m1 = (m, s) := ⟨_, _, rfl⟩
  rw [hr2] at KT
  dsimp only at KT
  have Hr2 := hide hr2
  obtain ⟨m3, s3, hr3⟩ : ∃ m s, nm s2 2 = (m, s) := ⟨_, _, rfl⟩
  have hm3 := nm_lt s2 2
  rw [hr3] at hm3
  dsimp only at hm3
  have c3 : IntKind.i64.wrap (m3 : Int) = (m3 : Int) := by rw [IntKind.wrap_i64]; omega
  obtain ⟨val, s4, hr4⟩ : ∃ m s, tk s3 m3 = (m, s) := ⟨_, _, rfl⟩
  have hE : Hid (rop v r = (((m0 : Int), (key, val)), s4)) := by
   show _ = _
   unfold rop
   dsimp only
   rw [if_pos hv, Hr0.out]
   dsimp only
   rw [Hr1.out]
   dsimp only
   rw [hr2]
   dsimp only
   rw [hr3]
   dsimp only
   rw [hr4]
  have Hr3 := hide hr3
  have Hr4 := hide hr4
  clear hr2 hr3 hr4
  replace hv := hide hv
  go_wp2_with fail
  refine KT.out.mono ?_
  rintro e w3 ⟨a3, cc3, rfl, d3, r3, k3⟩
  clear KT
  have hC := convq_any (d3.to r3.bel)
  have OS3 := hide (hOS.out.call r3 k3)
  obtain ⟨KL, hKL⟩ : ∃ L, L = key.length := ⟨_, rfl⟩
  rw [← hKL] at hC ⊢
  replace hKL := hide hKL
  obtain ⟨⟨B0, B1, B2⟩, BF⟩ := cells3q OS3.out.bo
  obtain ⟨X3, hX3⟩ : ∃ X, X = w3.setCell ⟨w1.heap.size, 1, none⟩ (st key) := ⟨_, rfl⟩
  have OSX := hide (OS3.out.set (st key)).1
  rw [← hX3] at OSX
  have KN := hide (rcnum_any w0 g X3 xs s2 2 OSX.out.rd (by decide))
  rw [Hr3.out] at KN
  dsimp only at KN
  rw [hX3] at KN
  clear d3 r3 k3
  go_wp2_with fail
  refine KN.out.mono ?_
  rintro e w4 ⟨rfl, r4, k4⟩
  rw [← hX3] at k4
  replace hX3 := hide hX3
  clear KN hC B0 B1 B2 BF
  have OS4 := hide (OSX.out.call r4 k4)
  have KT := hide (rctake_any w0 g w4 xs s3 m3 r4 (by omega))
  rw [Hr4.out] at KT
  dsimp only at KT
  clear r4 k4
  go_wp2_with fail
  refine KT.out.mono ?_
  rintro e w5 ⟨a5, cc5, rfl, d5, r5, k5⟩
  clear KT
  have hC := convq_any (d5.to r5.bel)
  have OS5 := hide (OS4.out.call r5 k5)
  obtain ⟨VL, hVL⟩ : ∃ L, L = val.length := ⟨_, rfl⟩
  rw [← hVL] at hC ⊢
  replace hVL := hide hVL
  obtain ⟨⟨B0, B1, B2⟩, BF⟩ := cells3q OS5.out.bo
  obtain ⟨X5, hX5⟩ : ∃ X, X = w5.setCell ⟨w1.heap.size, 2, none⟩ (st val) := ⟨_, rfl⟩
  have OSZ := hide (OS5.out.set (st val)).2
  rw [← hX5] at OSZ
  clear d5 r5 k5
  go_upto_region 7 with fail
  rw [← hX5]
  replace hX5 := hide hX5
  clear hC B0 B1 B2 BF
  obtain ⟨⟨B0, B1, B2⟩, _⟩ := cells3q OSZ.out.bo
  obtain ⟨⟨C0, C1, C2⟩, CF⟩ := cells3q OSZ.out.br
  go_wp2
  (try simp only [Exit.inBlock, Exit.then])
  refine retN rfl rfl w.heap.size rfl _ _ (0, 0) (heap_all3 OSZ.out.br _ _ _) _ Try.underlying48 rfl info_op13 ?_
  rw [hE.out]
  exact ⟨rfl, OSZ.out.fin _ _ _⟩
 ·have hv1 : (v == 1) = false := by simpa using hv
  obtain ⟨m3, s2, hr2⟩ : ∃ m s, nm s1 1 = (m, s) := ⟨_, _, rfl⟩
  have hm3 := nm_lt s1 1
  rw [hr2] at hm3
  dsimp only at hm3
  have c3 : IntKind.i64.wrap (m3 : Int) = (m3 : Int) := by rw [IntKind.wrap_i64]; omega
  obtain ⟨key, s3, hr3⟩ : ∃ m s, tk s2 m1 = (m, s) := ⟨_, _, rfl⟩
  obtain ⟨val, s4, hr4⟩ : ∃ m s, tk s3 m3 = (m, s) := ⟨_, _, rfl⟩
  have hE : Hid (rop v r = (((m0 : Int), (key, val)), s4)) := by
   show _ = _
   unfold rop
   dsimp only
   rw [if_neg hv, Hr0.out]
   dsimp only
   rw [Hr1.out]
   dsimp only
   rw [hr2]
   dsimp only
   rw [hr3]
   dsimp only
   rw [hr4]
  have KN := hide (rcnum_any w0 g w2 xs s1 1 hOS.out.rd (by decide))
  rw [hr2] at KN
  dsimp only at KN
  have Hr3 := hide hr3
  have Hr4 := hide hr4
  clear hr2 hr3 hr4
  replace hv := hide hv
  go_wp2_with fail
  refine KN.out.mono ?_
  rintro e w3 ⟨rfl, r3, k3⟩
  clear KN
  have OS3 := hide (hOS.out.call r3 k3)
  have KT := hide (rctake_any w0 g w3 xs s2 m1 r3 (by omega))
  rw [Hr3.out] at KT
  dsimp only at KT
  clear r3 k3
  go_wp2_with fail
  refine KT.out.mono ?_
  rintro e w4 ⟨a3, cc3, rfl, d3, r4, k4⟩
  clear KT
  have hC := convq_any (d3.to r4.bel)
  have OS4 := hide (OS3.out.call r4 k4)
  obtain ⟨KL, hKL⟩ : ∃ L, L = key.length := ⟨_, rfl⟩
  rw [← hKL] at hC ⊢
  replace hKL := hide hKL
  obtain ⟨⟨B0, B1, B2⟩, BF⟩ := cells3q OS4.out.bo
  obtain ⟨X3, hX3⟩ : ∃ X, X = w4.setCell ⟨w1.heap.size, 1, none⟩ (st key) := ⟨_, rfl⟩
  have OSX := hide (OS4.out.set (st key)).1
  rw [← hX3] at OSX
  have KT := hide (rctake_any w0 g X3 xs s3 m3 OSX.out.rd (by omega))
  rw [Hr4.out] at KT
  dsimp only at KT
  rw [hX3] at KT
  clear d3 r4 k4
  go_wp2_with fail
  refine KT.out.mono ?_
  rintro e w5 ⟨a5, cc5, rfl, d5, r5, k5⟩
  rw [← hX3] at k5
  replace hX3 := hide hX3
  clear KT hC B0 B1 B2 BF
  have hC := convq_any (d5.to r5.bel)
  have OS5 := hide (OSX.out.call r5 k5)
  obtain ⟨VL, hVL⟩ : ∃ L, L = val.length := ⟨_, rfl⟩
  rw [← hVL] at hC ⊢
  replace hVL := hide hVL
  obtain ⟨⟨B0, B1, B2⟩, BF⟩ := cells3q OS5.out.bo
  obtain ⟨X5, hX5⟩ : ∃ X, X = w5.setCell ⟨w1.heap.size, 2, none⟩ (st val) := ⟨_, rfl⟩
  have OSZ := hide (OS5.out.set (st val)).2
  rw [← hX5] at OSZ
  clear d5 r5 k5
  go_upto_region 11 with fail
  rw [← hX5]
  replace hX5 := hide hX5
  clear hC B0 B1 B2 BF
  obtain ⟨⟨B0, B1, B2⟩, _⟩ := cells3q OSZ.out.bo
  obtain ⟨⟨C0, C1, C2⟩, CF⟩ := cells3q OSZ.out.br
  go_wp2
  (try simp only [Exit.inBlock, Exit.then])
  refine retN rfl rfl w.heap.size rfl _ _ (0, 0) (heap_all3 OSZ.out.br _ _ _) _ Try.underlying48 rfl info_op13 ?_
  rw [hE.out]
  exact ⟨rfl, OSZ.out.fin _ _ _⟩
end Go.Proofs.Ytdjjegaodgocmaa

namespace Go.Proofs.Ytdjjegaodgocmaa
open Go.RowKit
def ocells (l : List Op3) : List Value := l.flatMap fun o => [.int .i64 o.1, st o.2.1, st o.2.2]
theorem ocells_app (a b : List Op3) : ocells (a ++ b) = ocells a ++ ocells b := by unfold ocells; rw [List.flatMap_append]
theorem ocells_one (l : List Op3) : ∀ u ∈ ocells l, u.oneCell' = true := by
 intro u hu
 obtain ⟨y, _, hy⟩ := List.mem_flatMap.1 hu
 simp at hy
 rcases hy with rfl | rfl | rfl <;> rfl
def OwnO (B : Nat) (w : World) (v : Value) (l : List Op3) : Prop := w.ownsRow B 48 3 v l.length (ocells l)
theorem OwnO.nil (B : Nat) (w : World) : OwnO B w (.slice none 0 0) [] := World.ownsRow_nil _ _ _ _
theorem OwnO.own {B : Nat} {w : World} {v : Value} {l : List Op3} (h : OwnO B w v l) : Own (Shp.list 48 SOp3) B w [v] l := by
 have each : ∀ l : List Op3, ownEach SOp3 w [] (ocells l) l := by
  intro l
  induction l with
  | nil => exact ⟨rfl, rfl⟩
  | cons x r ih => exact ⟨[], [], [.int .i64 x.1, st x.2.1, st x.2.2], ocells r, rfl, rfl, ⟨[.int .i64 x.1], [st x.2.1, st x.2.2], [], [], rfl, rfl, ⟨rfl, rfl⟩, ⟨[st x.2.1], [st x.2.2], [], [], rfl, rfl, ⟨rfl, rfl⟩, ⟨rfl, rfl⟩⟩⟩, ih⟩
 refine ⟨v.ownBlock.toList, ⟨v, _, [], rfl, ?_, each l, by simp⟩, ?_, fun b hb => (World.ownsRow.lt h b (by simpa using hb)).1⟩
 ·exact rows_base h fun _ _ => Nat.zero_le _
 ·cases v.ownBlock <;> simp
theorem OwnO.rd {B : Nat} {w : World} {v : Value} {l : List Op3} (h : OwnO B w v l) : RdO w v l := h.own.rdS
theorem infoO13 : (Try.prog.info? 48).map (fun i => (i.zero, i.size, i.bytes)) = some (some (.agg #[.int .i64 0, .string ⟨#[]⟩, .string ⟨#[]⟩]), 3, 40) := by kernel_rfl
theorem step_apO {ops : Array Oper} {o : Oper} {a : Act} {w : World} {K : Act → World → Prop} {Q : Exit → Act → World → Prop} {E : Prop} (hgd : o.guard = none) (s x : Operand)
  (ho : o.op = .call { callee := .builtin .append, args := #[s, x], argTypes := #[22, 22] }) (B : Nat) (v : Value) (xs : List Op3) (y : Op3) (g : Nat) (hs : a.eval s = v) (hx : a.eval x = .slice (some ⟨g, 0, none⟩) 1 1)
  (hown : OwnO B w v xs) (hc0 : w.cell? ⟨g, 0, none⟩ = some (.int .i64 y.1)) (hc1 : w.cell? ⟨g, 1, none⟩ = some (st y.2.1)) (hc2 : w.cell? ⟨g, 2, none⟩ = some (st y.2.2)) (hlen : (xs.length + 1) * 40 ≤ 140737488355328) (hB : B ≤ w.heap.size)
  (h : ∀ v' w', OwnO B w' v' (xs ++ [y]) → Below B w w' → w.grownBy w' v.ownBlock → K (a.put o.dst v') w') : if Region.wanted o (yielded ops a.tmps) = true then Oper.wp Try.prog o a w K Q else E := by
 rw [if_pos (by simp [Region.wanted, hgd])]
 obtain ⟨i0, hi, hz0, hz1, hz2⟩ := info_parts infoO13
 have n2 : ∀ j u, (ocells [y])[j]? = some u → w.cell? ((⟨g, 0, none⟩ : Addr).add j) = some u := by
  intro j u hj
  match j, hj with
  | 0, hj => simp [ocells] at hj; subst hj; simpa [Addr.add] using hc0
  | 1, hj => simp [ocells] at hj; subst hj; simpa [Addr.add] using hc1
  | 2, hj => simp [ocells] at hj; subst hj; simpa [Addr.add] using hc2
  | j + 3, hj => simp [ocells] at hj
 refine wp_append_own _ s x 22 ho B 48 i0 (.agg #[.int .i64 0, .string ⟨#[]⟩, .string ⟨#[]⟩]) 3 40 Try.underlying22 hi hz0 hz1 hz2 rfl (by decide) v xs.length (ocells xs) hs hown ⟨g, 0, none⟩ 1 1 (ocells [y]) hx rfl n2 (ocells_one [y])
  (by rw [show maxLen = 9223372036854775807 from rfl]; omega) hlen hB ?_
 intro v' w' h1 h2 _
 refine h v' w' ?_ ((Below.refl _ _).grown h2 hB (fun k hk => (World.ownsRow.lt hown k hk).1)) h2
 unfold OwnO
 rw [ocells_app, List.length_append]
 simpa using h1
theorem KpH.row {g : Nat} {w U : World} (h : KpH g w U) {B T n : Nat} {v : Value} {m : Nat} {cc : List Value} (ho : w.ownsRow B T n v m cc) (hg : g < B) : U.ownsRow B T n v m cc := by
 rcases ho with ⟨h1, h2 | ⟨k, cap, cur, hv, hB, hk, hr⟩⟩
 ·exact ⟨h1, .inl h2⟩
 ·refine ⟨h1, .inr ⟨k, cap, cur, hv, hB, ?_, hr⟩⟩
  rw [h.1 k (lt_of_block hk) (by omega)]; exact hk
theorem row_set13 {w : World} {B T n : Nat} {v : Value} {m : Nat} {cc : List Value} (h : w.ownsRow B T n v m cc) {a : Addr} (ha : a.block < B) (u : Value) : (w.setCell a u).ownsRow B T n v m cc := by
 rcases h with ⟨h1, h2 | ⟨g, cap, cur, hv, hB, hg, hr⟩⟩
 ·exact ⟨h1, .inl h2⟩
 ·refine ⟨h1, .inr ⟨g, cap, cur, hv, hB, ?_, hr⟩⟩
  rw [Below.heap_setCell _ _ _ _ (fun e => by omega)]; exact hg
theorem heap_one5 {u : World} {g : Nat} {a b c d e : Value} {t : TypeId} {fr : Nat × Nat} (h : u.heap[g]? = some (.cells #[a, b, c, d, e] t fr)) (x : Value) :
  (u.setCell ⟨g, 1, none⟩ x).heap[g]? = some (.cells #[a, x, c, d, e] t fr) ∧ (u.setCell ⟨g, 2, none⟩ x).heap[g]? = some (.cells #[a, b, x, d, e] t fr) ∧ (u.setCell ⟨g, 3, none⟩ x).heap[g]? = some (.cells #[a, b, c, x, e] t fr) ∧ (u.setCell ⟨g, 4, none⟩ x).heap[g]? = some (.cells #[a, b, c, d, x] t fr) := by
 refine ⟨?_, ?_, ?_, ?_⟩ <;> simp [World.setCell, Array.getElem?_modify, h]
theorem heap_all5 {u : World} {g : Nat} {a b c d e : Value} {t : TypeId} {fr : Nat × Nat} (h : u.heap[g]? = some (.cells #[a, b, c, d, e] t fr)) (x y z p q : Value) : (((((u.setCell ⟨g, 0, none⟩ x).setCell ⟨g, 1, none⟩ y).setCell ⟨g, 2, none⟩ z).setCell ⟨g, 3, none⟩ p).setCell ⟨g, 4, none⟩ q).heap[g]? = some (.cells #[x, y, z, p, q] t fr) := by
 simp [World.setCell, Array.getElem?_modify, h]
structure DcS (w : World) (gC : Nat) (wr : World) (b : List UInt8) (s : Rst) (kind txn home verd : Int) (ov : Value) (ops : List Op3) : Prop where
 rd : RdC13 w (w.heap.size + 1) wr b s
 bc : wr.heap[gC]? = some (.cells #[.int .i64 kind, .int .i64 txn, .int .i64 home, .int .i64 verd, ov] 24 (0, 0))
 br : wr.heap[w.heap.size]? = some (.cells #[.int .i64 0, .int .i64 0, .int .i64 0, .int .i64 0, .slice none 0 0] 24 (0, 0))
 ow : OwnO (gC + 1) wr ov ops
 hC : w.heap.size + 1 < gC
theorem DcS.call {w : World} {gC : Nat} {wr w' : World} {b : List UInt8} {s s' : Rst} {kind txn home verd : Int} {ov : Value} {ops : List Op3} (h : DcS w gC wr b s kind txn home verd ov ops) (r : RdC13 w (w.heap.size + 1) w' b s') (k : KpH (w.heap.size + 1) wr w') : DcS w gC w' b s' kind txn home verd ov ops := by
 have h1 := h.hC
 exact ⟨r, (k.1 _ (lt_of_block h.bc) (by omega)).trans h.bc, (k.1 _ (lt_of_block h.br) (by omega)).trans h.br, k.row h.ow (by omega), h1⟩
theorem DcS.to {w : World} {gC : Nat} {wr w' : World} {b : List UInt8} {s : Rst} {kind txn home verd : Int} {ov : Value} {ops : List Op3} (h : DcS w gC wr b s kind txn home verd ov ops) (bb : Below wr.heap.size wr w') : DcS w gC w' b s kind txn home verd ov ops := h.call (h.rd.to bb) (KpH.of bb)
theorem DcS.lt {w : World} {gC : Nat} {wr : World} {b : List UInt8} {s : Rst} {kind txn home verd : Int} {ov : Value} {ops : List Op3} (h : DcS w gC wr b s kind txn home verd ov ops) : gC < wr.heap.size := lt_of_block h.bc
theorem DcS.set {w : World} {gC : Nat} {wr : World} {b : List UInt8} {s : Rst} {kind txn home verd : Int} {ov : Value} {ops : List Op3} (h : DcS w gC wr b s kind txn home verd ov ops) (z : Int) :
  DcS w gC (wr.setCell ⟨gC, 1, none⟩ (.int .i64 z)) b s kind z home verd ov ops ∧ DcS w gC (wr.setCell ⟨gC, 2, none⟩ (.int .i64 z)) b s kind txn z verd ov ops ∧ DcS w gC (wr.setCell ⟨gC, 3, none⟩ (.int .i64 z)) b s kind txn home z ov ops := by
 have h1 := h.hC
 have q1 := fun i => (show w.heap.size ≤ (⟨gC, i, none⟩ : Addr).block from by show _ ≤ gC; omega)
 have q2 := fun i => (show (⟨gC, i, none⟩ : Addr).block ≠ w.heap.size + 1 from by show gC ≠ _; omega)
 have q3 : w.heap.size ≠ gC := by omega
 have ho := heap_one5 h.bc (.int .i64 z)
 exact ⟨⟨h.rd.other (q1 1) (q2 1) _, ho.1, (Below.heap_setCell _ _ _ _ q3).trans h.br, row_set13 h.ow (a := ⟨gC, 1, none⟩) (by show gC < _; omega) _, h1⟩, ⟨h.rd.other (q1 2) (q2 2) _, ho.2.1, (Below.heap_setCell _ _ _ _ q3).trans h.br, row_set13 h.ow (a := ⟨gC, 2, none⟩) (by show gC < _; omega) _, h1⟩, ⟨h.rd.other (q1 3) (q2 3) _, ho.2.2.1, (Below.heap_setCell _ _ _ _ q3).trans h.br, row_set13 h.ow (a := ⟨gC, 3, none⟩) (by show gC < _; omega) _, h1⟩⟩
theorem DcS.fin {w : World} {gC : Nat} {wr : World} {b : List UInt8} {s : Rst} {kind txn home verd : Int} {ov : Value} {ops : List Op3} (h : DcS w gC wr b s kind txn home verd ov ops) (x y z p q : Value) :
  Below w.heap.size w (((((wr.setCell ⟨w.heap.size, 0, none⟩ x).setCell ⟨w.heap.size, 1, none⟩ y).setCell ⟨w.heap.size, 2, none⟩ z).setCell ⟨w.heap.size, 3, none⟩ p).setCell ⟨w.heap.size, 4, none⟩ q) ∧ OwnO w.heap.size (((((wr.setCell ⟨w.heap.size, 0, none⟩ x).setCell ⟨w.heap.size, 1, none⟩ y).setCell ⟨w.heap.size, 2, none⟩ z).setCell ⟨w.heap.size, 3, none⟩ p).setCell ⟨w.heap.size, 4, none⟩ q) ov ops := by
 have h1 := h.hC
 have hl := fun i => (show (⟨w.heap.size, i, none⟩ : Addr).block < gC + 1 from by show w.heap.size < _; omega)
 have q1 := fun i => (show w.heap.size ≤ (⟨w.heap.size, i, none⟩ : Addr).block from Nat.le_refl _)
 refine ⟨((((h.rd.bel.setCell (q1 0) x).setCell (q1 1) y).setCell (q1 2) z).setCell (q1 3) p).setCell (q1 4) q, ?_⟩
 exact rows_base (row_set13 (row_set13 (row_set13 (row_set13 (row_set13 h.ow (hl 0) x) (hl 1) y) (hl 2) z) (hl 3) p) (hl 4) q) fun b hb => by have := (World.ownsRow.lt h.ow b hb).1; omega
end Go.Proofs.Ytdjjegaodgocmaa

namespace Go.Proofs.Ytdjjegaodgocmaa
open Go.RowKit
theorem ret_bC {a b : Bool} (h : a = b) : Ending.returned (.bool a) = .returned (.bool b) := by rw [h]
theorem ocl_len (l : List Op3) : (ocells l).length = l.length * 3 := by
 induction l with
 | nil => rfl
 | cons z r ih =>
  have e : ocells (z :: r) = .int .i64 z.1 :: st z.2.1 :: st z.2.2 :: ocells r := rfl
  rw [e]; simp only [List.length_cons, ih]; omega
theorem ocl_at (l : List Op3) : ∀ (i : Nat) (y : Op3), l[i]? = some y → (ocells l)[i * 3]? = some (.int .i64 y.1) ∧ (ocells l)[i * 3 + 1]? = some (st y.2.1) ∧ (ocells l)[i * 3 + 2]? = some (st y.2.2) := by
 induction l with
 | nil => intro i y h; cases h
 | cons z r ih =>
  intro i y h
  have e : ocells (z :: r) = .int .i64 z.1 :: st z.2.1 :: st z.2.2 :: ocells r := rfl
  rw [e]
  cases i with
  | zero =>
   simp only [List.getElem?_cons_zero, Option.some.injEq] at h
   subst h
   exact ⟨rfl, rfl, rfl⟩
  | succ i =>
   have := ih i y (by simpa using h)
   rw [show (i + 1) * 3 = i * 3 + 1 + 1 + 1 by omega]
   simpa using this
theorem news_ops {w : World} {ad : Option Addr} {n c : Nat} {l : List Op3} (h : RdO w (.slice ad n c) l) {a : Addr} (ha : ad = some a) : ∀ j u, (ocells l)[j]? = some u → w.cell? (a.add j) = some u := by
 intro j u hj
 have hlt : j < (ocells l).length := (List.getElem?_eq_some_iff.1 hj).1
 rw [ocl_len] at hlt
 obtain ⟨y, hy⟩ : ∃ y, l[j / 3]? = some y := ⟨_, List.getElem?_eq_getElem (by omega)⟩
 obtain ⟨b, off, e, h1, h2, h3⟩ := RdS.op h hy
 rw [ha] at e
 simp only [Option.some.injEq] at e
 subst e
 obtain ⟨p1, p2, p3⟩ := ocl_at l _ _ hy
 have hadd : (⟨b, off, none⟩ : Addr).add j = ⟨b, off + j, none⟩ := by simp only [Addr.add]; split <;> simp_all
 rw [hadd]
 have hm : j % 3 = 0 ∨ j % 3 = 1 ∨ j % 3 = 2 := by omega
 rcases hm with hm | hm | hm
 ·have e1 : j / 3 * 3 = j := by omega
  rw [e1] at h1 p1
  rw [p1] at hj
  rw [← Option.some.inj hj]
  exact h1
 ·have e1 : j / 3 * 3 + 1 = j := by omega
  rw [e1] at p2
  rw [p2] at hj
  rw [← Option.some.inj hj]
  have : off + j / 3 * 3 + 1 = off + j := by omega
  rw [this] at h2
  exact h2
 ·have e1 : j / 3 * 3 + 2 = j := by omega
  rw [e1] at p3
  rw [p3] at hj
  rw [← Option.some.inj hj]
  have : off + j / 3 * 3 + 2 = off + j := by omega
  rw [this] at h3
  exact h3
theorem wpList_appOs {ops : Array Oper} {rest : List Oper} {o : Oper} {a : Act} {w : World} {Q : Exit → Act → World → Prop} (hgd : o.guard = none) (s x : Operand)
  (ho : o.op = .call { callee := .builtin .append, args := #[s, x], argTypes := #[22, 22] }) (B : Nat) (v v2 : Value) (xs ys : List Op3) (hs : a.eval s = v) (hx : a.eval x = v2)
  (hown : OwnO B w v xs) (hrd : RdO w v2 ys) (hlen : (xs.length + ys.length) * 40 ≤ 140737488355328) (hB : B ≤ w.heap.size)
  (h : ∀ v' w', OwnO B w' v' (xs ++ ys) → Below B w w' → wpList Try.prog ops Q rest (a.put o.dst v') w') : wpList Try.prog ops Q (o :: rest) a w := by
 obtain ⟨i0, hi, hz0, hz1, hz2⟩ := info_parts infoO13
 have hrs := hrd
 obtain ⟨ao, c, hv⟩ := hrd.slice
 subst hv
 cases ao with
 | none =>
  have e : ys = [] := by
   cases ys with
   | nil => rfl
   | cons y r =>
    obtain ⟨b, off, e, _⟩ := RdS.op hrd (i := 0) (y := y) rfl
    cases e
  subst e
  have hc : c = 0 := by
   obtain ⟨ao, c', e, l1, m1, n1, r1⟩ := hrd
   simp only [Value.slice.injEq] at e
   obtain ⟨rfl, _, rfl⟩ := e
   exact n1 rfl
  subst hc
  refine wpList_append_own_none hgd s x 22 ho B 48 i0 3 Try.underlying22 hi v xs.length (ocells xs) hs hown hx ?_
  exact h v w (by simpa using hown) (Below.refl _ _)
 | some ad =>
  refine wpList_append_own _ hgd s x 22 ho B 48 i0 (.agg #[.int .i64 0, .string ⟨#[]⟩, .string ⟨#[]⟩]) 3 40 Try.underlying22 hi hz0 hz1 hz2 rfl (by decide) v xs.length (ocells xs) hs hown ad ys.length c (ocells ys) hx (ocl_len ys) (news_ops hrd rfl) (ocells_one ys)
   (by rw [show maxLen = 9223372036854775807 from rfl]; omega) hlen hB ?_
  intro v' w' h1 h2 _
  refine h v' w' ?_ ((Below.refl _ _).grown h2 hB (fun k hk => (World.ownsRow.lt hown k hk).1))
  show World.ownsRow _ _ _ _ _ _ _
  rw [ocells_app]
  simpa using h1
set_option maxRecDepth 100000 in
theorem copyo_any (w : World) (v : Value) (l : List Op3) (h : RdO w v l) (hl : l.length * 40 ≤ 140737488351232) :
  Calls Try.prog 9 #[v] w fun e w' => ∃ v', e = .returned v' ∧ OwnO w.heap.size w' v' l ∧ Below w.heap.size w w' := by
 obtain ⟨a, c, rfl⟩ := h.slice
 obtain ⟨L, hL⟩ : ∃ L, L = l.length := ⟨_, rfl⟩
 rw [← hL] at h hl ⊢
 have hn : (([] : List Op3).length + l.length) * 40 ≤ 140737488355328 := by rw [← hL]; simp; omega
 replace hL := hide hL
 have HH := hide h
 have HN := hide hn
 clear h hn
 go_enter Try.func9, Try.ntmps9
 go_wp2_with (at_builtin; refine wpList_appOs rfl _ _ rfl w.heap.size _ _ [] l rfl rfl (World.ownsRow_nil _ _ _ _) HH.out HN.out (Nat.le_refl _) ?_; intro v1 w3 o1 b1)
 replace o1 := hide o1
 replace b1 := hide b1
 go_wp2
 go_ret
 exact ⟨_, rfl, by simpa using o1.out, b1.out⟩
theorem neq_op (a : Int) (b c : Str) (d : Int) (e f : Str) (w : World) : (binOp .neq 48 (.agg #[.int .i64 a, st b, st c]) (.agg #[.int .i64 d, st e, st f])).run Try.prog w = .ok (.bool (!(a == d && (b == e && c == f)))) w := by
 have e1 : Try.prog.underlying 48 = some (.struct (Try.prog.fieldsOf 48)) := by kernel_rfl
 have e2 : Try.prog.stoodInHeld 48 = false := by kernel_rfl
 rw [run_neq_struct, run_equalIn_struct w 9999 _ _ _ e1 e2]
 have e3 : (Try.prog.fieldsOf 48).toList.map (fun f => (f.name == "_", f.type, f.offset)) = [(false, 3, 0), (false, 9, 1), (false, 9, 2)] := by kernel_rfl
 have e4 : Try.prog.underlying 9 = some .string := by kernel_rfl
 have e6 : Try.prog.underlying 3 = some (.int .i64) := by kernel_rfl
 have p0 : ∀ x y z : Value, (part 3 #[x, y, z] 0).run Try.prog w = .ok x w := fun x y z => by kernel_rfl
 have p1 : ∀ x y z : Value, (part 9 #[x, y, z] 1).run Try.prog w = .ok y w := fun x y z => by kernel_rfl
 have p2 : ∀ x y z : Value, (part 9 #[x, y, z] 2).run Try.prog w = .ok z w := fun x y z => by kernel_rfl
 have e5 : ∀ x y : Str, (Op.equalIn 9999 9 (st x) (st y)).run Try.prog w = .ok (x == y) w := fun x y => by
  rw [run_equalIn_string w 9998 _ _ _ e4, ByteArray.toList_eq, ByteArray.toList_eq]
 have e7 : ∀ x y : Int, (Op.equalIn 9999 3 (.int .i64 x) (.int .i64 y)).run Try.prog w = .ok (x == y) w := fun x y => by
  rw [run_equalIn_int w 9998 _ _ _ _ _ e6]
 generalize (Try.prog.fieldsOf 48).toList = fs at e3 ⊢
 rcases fs with _ | ⟨f0, _ | ⟨f1, _ | ⟨f2, _ | ⟨f3, r⟩⟩⟩⟩ <;> simp at e3
 obtain ⟨⟨a1, a2, a3⟩, ⟨b1, b2, b3⟩, c1, c2, c3⟩ := e3
 simp only [Op.eqFields, a1, a2, a3, b1, b2, b3, c1, c2, c3, ne_eq, not_false_eq_true, if_true, Sem.run_bind, p0, p1, p2, e5, e7, Result.andThen_ok, Sem.run_ite, Sem.run_pure]
 cases (a == d) <;> cases (b == e) <;> cases (c == f) <;> rfl
theorem eqg_op (op : BinOp) (x y : Operand) (a b : Array Value) (w : World) : (eqGuard op 48 x y (.agg a) (.agg b)).run Try.prog w = .ok () w :=
 run_eqGuard_agg w op _ x y a b (by kernel_rfl)
set_option maxRecDepth 100000 in
set_option maxHeartbeats 2000000 in
theorem sameo_any (w : World) (v u : Value) (l m : List Op3) (h1 : RdO w v l) (h2 : RdO w u m) : Calls Try.prog 31 #[v, u] w fun e w' => e = .returned (.bool (decide (l = m))) ∧ Below w.heap.size w w' := by
 have lb := h1.bd
 have mb := h2.bd
 obtain ⟨a, c, rfl⟩ := h1.slice
 obtain ⟨a2, c2, rfl⟩ := h2.slice
 obtain ⟨R, hR⟩ : ∃ R, R = decide (l = m) := ⟨_, rfl⟩
 rw [← hR]
 replace hR := hide hR
 obtain ⟨L, hL⟩ : ∃ L, L = l.length := ⟨_, rfl⟩
 obtain ⟨M, hM⟩ : ∃ M, M = m.length := ⟨_, rfl⟩
 rw [← hL] at h1 lb ⊢
 rw [← hM] at h2 mb ⊢
 replace hL := hide hL
 replace hM := hide hM
 have H1 := hide h1
 have H2 := hide h2
 clear h1 h2
 go_enter Try.func31, Try.ntmps31
 by_cases hl : L = M
 ·subst hl
  go_wp2
  go_loopw [5] (fun p wr => ∃ i : Nat, i ≤ L ∧ p = .int .i64 i ∧ Hid (Below w.heap.size w wr ∧ ∀ t, t < i → l[t]? = m[t]?)) (fun p _ => L - (intOf p).toNat)
  case atStart => exact ⟨0, Nat.zero_le _, rfl, hide ⟨Below.refl _ _, fun t h => by omega⟩⟩
  case round =>
   obtain ⟨i, hi, rfl, hI⟩ := hrel
   by_cases hlt : i < L
   ·have hq : (i : Int) < (L : Int) := by omega
    obtain ⟨y, hy⟩ := some_el l (k := i) (by rw [← hL.out]; exact hlt)
    obtain ⟨z, hz⟩ := some_el m (k := i) (by rw [← hM.out]; exact hlt)
    obtain ⟨b, off, rfl, hc1, hc2, hc3⟩ := RdS.op (H1.out.to0 hI.out.1) hy
    obtain ⟨b', off', rfl, hd1, hd2, hd3⟩ := RdS.op (H2.out.to0 hI.out.1) hz
    replace hy := hide hy
    replace hz := hide hz
    obtain ⟨y1, y2, y3⟩ := y
    obtain ⟨z1, z2, z3⟩ := z
    dsimp only at hc1 hc2 hc3 hd1 hd2 hd3
    have q1 := neq_op y1 y2 y3 z1 z2 z3
    have q2 := eqg_op .neq
    cases hq3 : (y1 == z1 && (y2 == z2 && y3 == z3)) with
    | true =>
     rw [hq3] at q1
     have hI' : Hid (∀ t, t < i + 1 → l[t]? = m[t]?) := fun t ht => by
      by_cases e : t = i
      ·subst e
       rw [hy.out, hz.out]
       simp at hq3
       rw [hq3.1, hq3.2.1, hq3.2.2]
      ·exact hI.out.2 t (by omega)
     replace hq3 := hide hq3
     go_wp2_with fail
     go_region
     go_wp2
     go_roundw
     case rel => exact ⟨i + 1, by omega, by go_num, hide ⟨hI.out.1.trans (below_drewN' _ 1 _), hI'.out⟩⟩
     case measure => simp [intOf]; omega
    | false =>
     rw [hq3] at q1
     have hr : Hid (R = false) := by
      show _ = _
      rw [hR.out]
      refine decide_eq_false fun e => ?_
      have := hy.out.symm.trans ((congrArg (·[i]?) e).trans hz.out)
      simp at this
      rw [this.1, this.2.1, this.2.2] at hq3
      simp at hq3
     replace hq3 := hide hq3
     go_wp2_with fail
     go_region
     go_wp2
     go_ret
     exact ⟨ret_bC hr.out.symm, hI.out.1.trans (below_drewN' _ 1 _)⟩
   ·have hq : ¬ (i : Int) < (L : Int) := by omega
    have hr : Hid (R = true) := by
     show _ = _
     rw [hR.out]
     refine decide_eq_true (List.ext_getElem? fun t => ?_)
     by_cases ht : t < i
     ·exact hI.out.2 t ht
     ·rw [List.getElem?_eq_none (by rw [← hL.out]; omega), List.getElem?_eq_none (by rw [← hM.out]; omega)]
    go_wp2
    go_ret
    exact ⟨ret_bC hr.out.symm, hI.out.1⟩
 ·have hq : ((L : Int) != (M : Int)) = true := by simp; omega
  have hr : Hid (R = false) := by
   show _ = _
   rw [hR.out]
   refine decide_eq_false fun e => hl ?_
   rw [hL.out, hM.out, e]
  replace hl := hide hl
  go_wp2
  go_ret
  exact ⟨ret_bC hr.out.symm, Below.refl _ _⟩
set_option maxRecDepth 100000 in
set_option maxHeartbeats 4000000 in
theorem samec_any (w : World) (c d : Cmd) (v u : Value) (h1 : RdO w v c.ops) (h2 : RdO w u d.ops) : Calls Try.prog 16 #[cv c v, cv d u] w fun e w' => e = .returned (.bool (decide (c = d))) ∧ Below w.heap.size w w' := by
 obtain ⟨X, hX, DX, bX, sX⟩ := boxedN w #[.int .i64 c.kind, .int .i64 c.txn, .int .i64 c.home, .int .i64 c.verd, v] 24
 obtain ⟨Y, hY, DY, bY, sY⟩ := boxedN X #[.int .i64 d.kind, .int .i64 d.txn, .int .i64 d.home, .int .i64 d.verd, u] 24
 have bXY := bX.trans (bY.mono bX.size)
 have KS := sameo_any Y v u c.ops d.ops (h1.to0 bXY) (h2.to0 bXY)
 obtain ⟨a, ca, rfl⟩ := h1.slice
 obtain ⟨a2, c2, rfl⟩ := h2.slice
 obtain ⟨kind, txn, home, verd, ops⟩ := c
 obtain ⟨kind', txn', home', verd', ops'⟩ := d
 dsimp only at KS DX DY hX hY ⊢
 obtain ⟨R, hR⟩ : ∃ R, R = decide ((⟨kind, txn, home, verd, ops⟩ : Cmd) = ⟨kind', txn', home', verd', ops'⟩) := ⟨_, rfl⟩
 rw [← hR]
 have hR2 : R = (kind == kind' && txn == txn' && home == home' && verd == verd' && decide (ops = ops')) := by
  rw [hR, Bool.eq_iff_iff]
  simp [and_assoc]
 obtain ⟨S, hS⟩ : ∃ S, S = decide (ops = ops') := ⟨_, rfl⟩
 rw [← hS] at KS hR2
 replace hR := hide hR
 replace hS := hide hS
 obtain ⟨L, hL⟩ : ∃ L, L = ops.length := ⟨_, rfl⟩
 obtain ⟨M, hM⟩ : ∃ M, M = ops'.length := ⟨_, rfl⟩
 clear h1 h2
 rw [← hL] at hX DX KS ⊢
 rw [← hM] at hY DY KS ⊢
 replace hL := hide hL
 replace hM := hide hM
 obtain ⟨⟨D0, D1, D2, D3, D4⟩, _⟩ := cells5c ((bY.block _ (lt_of_block DX)).trans DX)
 obtain ⟨⟨E0, E1, E2, E3, E4⟩, _⟩ := cells5c DY
 rw [sX] at E0 E1 E2 E3 E4
 have hxs : X.heap.size = w.heap.size + 1 := sX
 replace KS := hide KS
 replace hR2 := hide hR2
 have BXY := hide bXY
 clear DX DY bX bY bXY sX sY
 go_enter Try.func16, Try.ntmps16
 go_upto_region 1 with fail
 rw [← hX]
 rw [← hY]
 replace hX := hide hX
 replace hY := hide hY
 (try rw [hxs])
 replace hxs := hide hxs
 cases q1 : (kind == kind') with
 | false =>
  have hr : Hid (R = false) := by show _ = _; rw [hR2.out, q1]; rfl
  go_wp2
  go_ret
  exact ⟨ret_bC hr.out.symm, BXY.out⟩
 | true =>
 cases q2 : (txn == txn') with
 | false =>
  have hr : Hid (R = false) := by show _ = _; rw [hR2.out, q1, q2]; rfl
  go_wp2
  go_ret
  exact ⟨ret_bC hr.out.symm, BXY.out⟩
 | true =>
 cases q3 : (home == home') with
 | false =>
  have hr : Hid (R = false) := by show _ = _; rw [hR2.out, q1, q2, q3]; rfl
  go_wp2
  go_ret
  exact ⟨ret_bC hr.out.symm, BXY.out⟩
 | true =>
 cases q4 : (verd == verd') with
 | false =>
  have hr : Hid (R = false) := by show _ = _; rw [hR2.out, q1, q2, q3, q4]; rfl
  go_wp2
  go_ret
  exact ⟨ret_bC hr.out.symm, BXY.out⟩
 | true =>
  have hr : Hid (R = S) := by show _ = _; rw [hR2.out, q1, q2, q3, q4]; rfl
  go_wp2_with fail
  refine KS.out.mono ?_
  rintro e w' ⟨rfl, b1⟩
  replace b1 := hide (BXY.out.trans (b1.mono BXY.out.size))
  go_wp2
  go_ret
  exact ⟨ret_bC hr.out.symm, b1.out⟩
end Go.Proofs.Ytdjjegaodgocmaa

namespace Go.Proofs.Ytdjjegaodgocmaa
open Go.ChangeShapes Go.WideShapes Go.ChangeAt Go.RowKit
theorem opens_str13 : Opens Shp.str 9 (fun x => x.length ≤ maxLen) (fun _ => 1) := by
 refine ⟨by kernel_rfl, fun {H enc W fuel cs x} h => ?_⟩
 obtain ⟨s, hs, _, hl⟩ := DataW.trod_string Try.underlying9 h
 exact ⟨s.data.toList, by rw [hs]; rfl, fun _ => by simpa using hl, bulk_pos _⟩
def opfit (z : Op3) : Prop := (Lit.int .i64 z.1).wf = true ∧ (z.2.1.length ≤ maxLen ∧ z.2.2.length ≤ maxLen)
abbrev SOps13 : Shp (List Op3) := Shp.list 48 SOp3
set_option maxRecDepth 100000 in
theorem open_op13 : Opens SOp3 48 opfit (fun _ => 1 + (1 + 1)) :=
 Opens.three (opens_intw Try.underlying3 (by kernel_rfl)) opens_str13 opens_str13 Try.underlying48 (by kernel_rfl) rfl rfl rfl
set_option maxRecDepth 100000 in
theorem open_ops13 : Opens SOps13 22 (fun xs => xs.length * 40 ≤ 140737488351232 ∧ ∀ x ∈ xs, opfit x) (fun xs => (xs.map (fun _ => 1 + (1 + 1))).sum) :=
 open_op13.list Try.underlying22 (by kernel_rfl) (by kernel_rfl) (by decide)
abbrev Cm5 := Int × (Int × (Int × (Int × List Op3)))
abbrev SCm5 : Shp Cm5 := (Shp.int .i64).pair ((Shp.int .i64).pair ((Shp.int .i64).pair ((Shp.int .i64).pair SOps13)))
abbrev cmOf (z : Cm5) : Cmd := ⟨z.1, z.2.1, z.2.2.1, z.2.2.2.1, z.2.2.2.2⟩
structure CmFit (c : Cmd) : Prop where
 kind : -9223372036854775808 ≤ c.kind ∧ c.kind ≤ 9223372036854775807
 txn : -9223372036854775808 ≤ c.txn ∧ c.txn ≤ 9223372036854775807
 home : -9223372036854775808 ≤ c.home ∧ c.home ≤ 9223372036854775807
 verd : -9223372036854775808 ≤ c.verd ∧ c.verd ≤ 9223372036854775807
 len : c.ops.length * 40 ≤ 140737488351232
 ops : ∀ o ∈ c.ops, opfit o
def cm5fit (z : Cm5) : Prop := (Lit.int .i64 z.1).wf = true ∧ (Lit.int .i64 z.2.1).wf = true ∧ (Lit.int .i64 z.2.2.1).wf = true ∧ (Lit.int .i64 z.2.2.2.1).wf = true ∧ (z.2.2.2.2.length * 40 ≤ 140737488351232 ∧ ∀ x ∈ z.2.2.2.2, opfit x)
set_option maxRecDepth 100000 in
theorem Opens.fiveL {α : Type} {u : Shp α} {fa : α → Prop} {ba : α → Nat} {t : TypeId} {f0 f1 f2 f3 f4 : Field} (o0 : Opens (Shp.int .i64) f0.type (fun z => (Lit.int .i64 z).wf = true) (fun _ => 1)) (o1 : Opens (Shp.int .i64) f1.type (fun z => (Lit.int .i64 z).wf = true) (fun _ => 1)) (o2 : Opens (Shp.int .i64) f2.type (fun z => (Lit.int .i64 z).wf = true) (fun _ => 1)) (o3 : Opens (Shp.int .i64) f3.type (fun z => (Lit.int .i64 z).wf = true) (fun _ => 1)) (o4 : Opens u f4.type fa ba) (hu : u.n = 1)
  (ht : Try.prog.underlying t = some (.struct #[f0, f1, f2, f3, f4])) (hc : Try.prog.cellsOf t = 5) (h0 : f0.offset = 0) (h1 : f1.offset = 1) (h2 : f2.offset = 2) (h3 : f3.offset = 3) (h4 : f4.offset = 4) :
  Opens ((Shp.int .i64).pair ((Shp.int .i64).pair ((Shp.int .i64).pair ((Shp.int .i64).pair u)))) t (fun z => (Lit.int .i64 z.1).wf = true ∧ (Lit.int .i64 z.2.1).wf = true ∧ (Lit.int .i64 z.2.2.1).wf = true ∧ (Lit.int .i64 z.2.2.2.1).wf = true ∧ fa z.2.2.2.2) (fun z => 4 + ba z.2.2.2.2) := by
 refine ⟨by rw [hc]; show 5 = 1 + (1 + (1 + (1 + u.n))); omega, fun {H enc W fuel cs x} h => ?_⟩
 obtain ⟨xs, k, hk, hxy, hlen, hxl, hf⟩ := DataW.trod_struct ht h
 match xs, hxl with
 | [y0, y1, y2, y3, y4], _ =>
  have g0 := hf 0 f0 rfl
  have g1 := hf 1 f1 rfl
  have g2 := hf 2 f2 rfl
  have g3 := hf 3 f3 rfl
  have g4 := hf 4 f4 rfl
  rw [hc] at hlen
  match cs, hlen with
  | [c0, c1, c2, c3, c4], _ =>
   rw [h0, o0.cells] at g0
   rw [h1, o1.cells] at g1
   rw [h2, o2.cells] at g2
   rw [h3, o3.cells] at g3
   rw [h4, o4.cells, hu] at g4
   obtain ⟨a0, r0, w0, b0⟩ := o0.opened (cs := [c0]) (x := y0) g0
   obtain ⟨a1, r1, w1, b1⟩ := o1.opened (cs := [c1]) (x := y1) g1
   obtain ⟨a2, r2, w2, b2⟩ := o2.opened (cs := [c2]) (x := y2) g2
   obtain ⟨a3, r3, w3, b3⟩ := o3.opened (cs := [c3]) (x := y3) g3
   obtain ⟨a4, r4, w4, b4⟩ := o4.opened (cs := [c4]) (x := y4) g4
   obtain ⟨d, pl⟩ := x
   simp only [Prod.mk.injEq] at hxy
   obtain ⟨rfl, _⟩ := hxy
   refine ⟨(a0, a1, a2, a3, a4), ⟨[c0], [c1, c2, c3, c4], rfl, r0, ⟨[c1], [c2, c3, c4], rfl, r1, ⟨[c2], [c3, c4], rfl, r2, ⟨[c3], [c4], rfl, r3, r4⟩⟩⟩⟩, fun hw => ⟨w0 fun n hn => hw n ?_, w1 fun n hn => hw n ?_, w2 fun n hn => hw n ?_, w3 fun n hn => hw n ?_, w4 fun n hn => hw n ?_⟩, ?_⟩
   ·simp only [DataW.weights, ht]
    exact DataW.weights_mem_each (j := 0) (t := f0.type) (d := y0.1) rfl rfl n hn
   ·simp only [DataW.weights, ht]
    exact DataW.weights_mem_each (j := 1) (t := f1.type) (d := y1.1) rfl rfl n hn
   ·simp only [DataW.weights, ht]
    exact DataW.weights_mem_each (j := 2) (t := f2.type) (d := y2.1) rfl rfl n hn
   ·simp only [DataW.weights, ht]
    exact DataW.weights_mem_each (j := 3) (t := f3.type) (d := y3.1) rfl rfl n hn
   ·simp only [DataW.weights, ht]
    exact DataW.weights_mem_each (j := 4) (t := f4.type) (d := y4.1) rfl rfl n hn
   ·simp only [List.map_cons, List.map_nil, Rows.uptoBulk, Rows.uptoBulkAll]
    omega
set_option maxRecDepth 100000 in
theorem open_cmd : Opens SCm5 24 cm5fit (fun z => 4 + (z.2.2.2.2.map (fun _ => 1 + (1 + 1))).sum) :=
 Opens.fiveL (opens_intw Try.underlying3 (by kernel_rfl)) (opens_intw Try.underlying3 (by kernel_rfl)) (opens_intw Try.underlying3 (by kernel_rfl)) (opens_intw Try.underlying3 (by kernel_rfl)) open_ops13 rfl Try.underlying24 (by kernel_rfl) rfl rfl rfl rfl rfl
theorem wf_int13 {z : Int} (h : (Lit.int .i64 z).wf = true) : -9223372036854775808 ≤ z ∧ z ≤ 9223372036854775807 := by
 simpa [Lit.wf, IntKind.min, IntKind.max, IntKind.signed, IntKind.bits] using h
theorem cm_form {w : World} {cs : Array Value} {z : Cm5} (h : SCm5.rd w cs.toList z) (hf : cm5fit z) : ∃ v, Value.agg cs = cv (cmOf z) v ∧ RdO w v (cmOf z).ops ∧ CmFit (cmOf z) := by
 obtain ⟨c0, d0, hc, h0, ⟨c1, d1, e1, h1, ⟨c2, d2, e2, h2, ⟨c3, d3, e3, h3, ⟨v4, e4, r4⟩⟩⟩⟩⟩ := h
 have h0' : c0 = [Value.int .i64 z.1] := h0
 have h1' : c1 = [Value.int .i64 z.2.1] := h1
 have h2' : c2 = [Value.int .i64 z.2.2.1] := h2
 have h3' : c3 = [Value.int .i64 z.2.2.2.1] := h3
 subst h0' h1' h2' h3' e4
 subst e3
 subst e2
 subst e1
 obtain ⟨f0, f1, f2, f3, f4, f5⟩ := hf
 refine ⟨v4, ?_, r4, wf_int13 f0, wf_int13 f1, wf_int13 f2, wf_int13 f3, f4, f5⟩
 cases cs
 simp at hc ⊢
 exact hc
set_option maxRecDepth 100000 in
theorem num13_any (w : World) (n : Int) : Calls Try.prog 15 #[.int .i64 n] w fun e w' => e = .returned (.int .i64 n) ∧ w = w' := by
 go_enter Try.func15, Try.ntmps15
 go_wp2
 go_ret
 exact ⟨rfl, rfl⟩
structure CmdSay : Prop where
 chk : ∀ (w : World) (c : Cmd) (v : Value), RdO w v c.ops → CmFit c →
  Calls Try.prog 17 #[cv c v] w fun e w' => e = .returned (.int .i64 (ccheck c)) ∧ Below w.heap.size w w'
 enc : ∀ (w : World) (c : Cmd) (v : Value) (ver : Int), RdO w v c.ops → CmFit c → (-9223372036854775808 ≤ ver ∧ ver ≤ 9223372036854775807) →
  Calls Try.prog 10 #[cv c v, .int .i64 ver] w fun e w' => ∃ x, e = .returned (.tuple #[x, .int .i64 (cenc c ver).2]) ∧ OwnB w.heap.size w' x (cenc c ver).1 ∧ Below w.heap.size w w'
 dec : ∀ (w : World) (v : Value) (b : List UInt8), Rd w v b → b.length ≤ 140737488355328 →
  Calls Try.prog 12 #[v] w fun e w' => ∃ ov, e = .returned (.tuple #[cv (cdec b).1 ov, .int .i64 (cdec b).2.1, .int .i64 (cdec b).2.2]) ∧ OwnO w.heap.size w' ov (cdec b).1.ops ∧ Below w.heap.size w w'
end Go.Proofs.Ytdjjegaodgocmaa

namespace Go.Proofs.Ytdjjegaodgocmaa
open Go.RowKit
theorem cex_enc : cenc ⟨2, 300, 0, 0, []⟩ 2 = ([2, 2, 172, 2, 0, 0, 0], 0) := by
 have g : cgroups 300 = [172, 2] := by rw [cgroups_big (by decide), cgroups_small (by decide)]; rfl
 unfold cenc
 rw [if_neg (by decide), if_neg (by decide)]
 unfold cencO
 rw [if_neg (by decide), show (300 : Int).toNat = 300 from rfl, g]
 rfl
set_option maxRecDepth 100000 in
set_option maxHeartbeats 2000000 in
theorem calive_any (S : CmdSay) (w : World) : Calls Try.prog 19 #[] w fun e w' => e = .returned (.bool true) ∧ Below w.heap.size w w' := by
 have KE := S.enc w ⟨2, 300, 0, 0, []⟩ (.slice none 0 0) 2 (OwnO.nil 0 w).rd ⟨by decide, by decide, by decide, by decide, by decide, by simp⟩ (by decide)
 rw [cex_enc] at KE
 dsimp only [cv] at KE
 replace KE := hide KE
 go_enter Try.func19, Try.ntmps19
 go_wp2_with fail
 refine KE.out.mono ?_
 rintro e w1 ⟨v1, rfl, o1, b1⟩
 clear KE
 obtain ⟨av, cv', rfl⟩ := o1.rd.slice
 have rl : Rd (w1.alloc (.cells #[.int .u8 2, .int .u8 2, .int .u8 172, .int .u8 2, .int .u8 0, .int .u8 0, .int .u8 0] 5)) (.slice (some ⟨w1.heap.size, 0, none⟩) 7 7) [2, 2, 172, 2, 0, 0, 0] := rd_lit w1 [2, 2, 172, 2, 0, 0, 0] _ w1.heap.size 7 rfl rfl rfl (by decide)
 have b2 : Below w1.heap.size w1 (w1.alloc (.cells #[.int .u8 2, .int .u8 2, .int .u8 172, .int .u8 2, .int .u8 0, .int .u8 0, .int .u8 0] 5)) := (Below.refl _ _).alloc (Nat.le_refl _) _
 have KS := same_any _ _ _ _ _ (o1.below (Nat.le_refl _) b2).rd rl
 rw [show sameB [2, 2, 172, 2, 0, 0, 0] [2, 2, 172, 2, 0, 0, 0] = true from by decide] at KS
 have B2 := hide (b1.trans (b2.mono b1.size))
 obtain ⟨Y, hY⟩ : ∃ Y, Y = w1.alloc (.cells #[.int .u8 2, .int .u8 2, .int .u8 172, .int .u8 2, .int .u8 0, .int .u8 0, .int .u8 0] 5) := ⟨_, rfl⟩
 rw [← hY] at KS B2
 replace KS := hide KS
 clear rl b2 b1 o1
 go_wp2_with fail
 refine (num13_any _ _).mono ?_
 rintro e w' ⟨rfl, rfl⟩
 go_wp2_with fail
 rw [← hY]
 replace hY := hide hY
 refine KS.out.mono ?_
 rintro e w3 ⟨rfl, n, rfl⟩
 have B3 := hide (B2.out.trans (below_drewN' Y n w.heap.size))
 clear KS
 go_wp2
 go_ret
 exact ⟨rfl, B3.out⟩
end Go.Proofs.Ytdjjegaodgocmaa

namespace Go.Proofs.Ytdjjegaodgocmaa
open Go.RowKit
end Go.Proofs.Ytdjjegaodgocmaa

namespace Go.Proofs.Ytdjjegaodgocmaa
open Go.RowKit
abbrev opv (o : Op3) : Value := .agg #[.int .i64 o.1, st o.2.1, st o.2.2]
def PB (p : Prop) [Decidable p] (w w' : World) (e : Ending) : Prop := e = .returned (.bool (decide p)) ∧ Below w.heap.size w w'
theorem PB.mk {p : Prop} [Decidable p] {w w' : World} {b : Bool} (h : b = decide p) (k : Below w.heap.size w w') : PB p w w' (.returned (.bool b)) := ⟨by rw [h], k⟩
theorem PB.yes {p : Prop} [Decidable p] {w w' : World} {b : Bool} (hb : b = true) (h : p) (k : Below w.heap.size w w') : PB p w w' (.returned (.bool b)) := PB.mk (by rw [hb, decide_eq_true h]) k
theorem PB.no {p : Prop} [Decidable p] {w w' : World} {b : Bool} (hb : b = false) (h : ¬ p) (k : Below w.heap.size w w') : PB p w w' (.returned (.bool b)) := PB.mk (by rw [hb, decide_eq_false h]) k
set_option maxRecDepth 100000 in
theorem mostv_any (w : World) (k : Int) : Calls Try.prog 37 #[.int .i64 k] w fun e w' => e = .returned (.int .i64 (if k = 2 then 64 else 0)) ∧ w' = w := by
 go_enter Try.func37, Try.ntmps37
 by_cases h : k = 2
 ·subst h
  go_wp2
  go_ret
  exact ⟨rfl, rfl⟩
 ·have h' : (k == 2) = false := by simpa using h
  have hE : Hid ((if k = 2 then (64 : Int) else 0) = 0) := if_neg h
  replace h := hide h
  go_wp2
  go_ret
  exact ⟨rfl, rfl⟩
def onokind (o : Op3) : Prop := ¬ okind o
def onokey (o : Op3) : Prop := ¬ okey o
def onoval (o : Op3) : Prop := ¬ oval o
instance (o : Op3) : Decidable (onokind o) := by unfold onokind; infer_instance
instance (o : Op3) : Decidable (onokey o) := by unfold onokey; infer_instance
instance (o : Op3) : Decidable (onoval o) := by unfold onoval; infer_instance
def SomeOp (P : Op3 → Prop) (l : List Op3) : Prop := ∃ o ∈ l, P o
instance (l : List Op3) (P : Op3 → Prop) [DecidablePred P] : Decidable (SomeOp P l) := List.decidableBEx P l
set_option maxRecDepth 100000 in
theorem ck2_any (w : World) (o : Op3) : Calls Try.prog 34 #[opv o] w fun e w' => PB (onokind o) w w' e := by
 obtain ⟨X, hX, DX, bX, sX⟩ := boxedN w #[.int .i64 o.1, st o.2.1, st o.2.2] 48
 obtain ⟨⟨X0, X1, X2⟩, _⟩ := cells3q DX
 have BX := hide bX
 clear DX bX sX
 obtain ⟨k, key, val⟩ := o
 dsimp only [opv] at *
 rw [hX] at X0 X1 X2 BX
 go_enter Try.func34, Try.ntmps34
 by_cases h1 : k < 1
 ·have hp : Hid (onokind (k, key, val)) := fun q => by have := q.1; dsimp only at this; omega
  go_wp2
  go_ret
  exact PB.yes (by simp) hp.out BX.out
 ·by_cases h2 : (3 : Int) < k
  ·have hp : Hid (onokind (k, key, val)) := fun q => by have := q.2; dsimp only at this; omega
   go_wp2
   go_ret
   exact PB.yes (by simp [h2]) hp.out BX.out
  ·have hp : Hid (¬ onokind (k, key, val)) := fun q => q ⟨by dsimp only; omega, by dsimp only; omega⟩
   go_wp2
   go_ret
   exact PB.no (by first | (simp; done) | (simp; omega)) hp.out BX.out
def IdxP (w w' : World) (p : Prop) (e : Ending) : Prop := ∃ k : Int, e = .returned (.int .i64 k) ∧ ((0 ≤ k ∧ p) ∨ (k < 0 ∧ ¬ p)) ∧ Below w.heap.size w w'
set_option maxRecDepth 100000 in
set_option maxHeartbeats 2000000 in
theorem pidx2_any (w : World) (v : Value) (l : List Op3) (h : RdO w v l) : Calls Try.prog 52 #[v, .func (.func 34) #[] #[]] w fun e w' =>
  IdxP w w' (SomeOp onokind l) e := by
 have lb := h.bd
 obtain ⟨a, c, rfl⟩ := h.slice
 obtain ⟨K, hK⟩ : ∃ K, K = l.length := ⟨_, rfl⟩
 rw [← hK] at h lb ⊢
 replace hK := hide hK
 have HH := hide h
 have KL := hide (fun w o => ck2_any w o)
 clear h
 go_enter Try.func52, Try.ntmps52
 go_wp2
 go_loopw [8] (fun p wr => ∃ i : Nat, i ≤ K ∧ p = .int .i64 i ∧ Hid (Below w.heap.size w wr ∧ ∀ o ∈ l.take i, ¬ onokind o)) (fun p _ => K - (intOf p).toNat)
 case atStart => exact ⟨0, Nat.zero_le _, rfl, hide ⟨Below.refl _ _, fun o ho => by simp at ho⟩⟩
 case round =>
  obtain ⟨i, hi9, rfl, hI⟩ := hrel
  by_cases hlt : i < K
  ·have hq : (i : Int) < (K : Int) := by omega
   obtain ⟨y, hy⟩ := some_el l (k := i) (by rw [← hK.out]; exact hlt)
   obtain ⟨b, off, rfl, c1, c2, c3⟩ := (HH.out.to0 hI.out.1).op hy
   have HY := hide hy
   clear hy
   obtain ⟨yk, yq, yv⟩ := y
   dsimp only at c1 c2 c3
   have KY := hide (KL.out wr (yk, yq, yv))
   dsimp only [opv] at KY
   go_wp2_with fail
   refine KY.out.mono ?_
   rintro e w1 ⟨rfl, b1⟩
   have HE := hide (hI.out.1.trans (b1.mono hI.out.1.size))
   clear b1 KY
   by_cases hkv : onokind (yk, yq, yv)
   ·have hz : Hid (SomeOp onokind l) := ⟨_, List.mem_of_getElem? HY.out, hkv⟩
    have hd : decide (onokind (yk, yq, yv)) = true := decide_eq_true hkv
    replace hkv := hide hkv
    go_wp2
    go_ret
    exact ⟨_, rfl, .inl ⟨by omega, hz.out⟩, HE.out⟩
   ·have hI' : Hid (Below w.heap.size w w1 ∧ ∀ o ∈ l.take (i + 1), ¬ onokind o) := ⟨HE.out, take_all hI.out.2 HY.out hkv⟩
    have hd : decide (onokind (yk, yq, yv)) = false := decide_eq_false hkv
    replace hkv := hide hkv
    go_wp2
    go_roundw
    case rel => exact ⟨i + 1, by omega, by go_num, hI'⟩
    case measure => simp [intOf]; omega
  ·have hq : ¬ (i : Int) < (K : Int) := by omega
   have hz : Hid (¬ SomeOp onokind l) := fun ⟨o, ho, hp⟩ => by
    have := hI.out.2
    rw [List.take_of_length_le (by rw [← hK.out]; omega)] at this
    exact this o ho hp
   go_wp2
   go_ret
   exact ⟨_, rfl, .inr ⟨by decide, hz.out⟩, hI.out.1⟩
set_option maxRecDepth 100000 in
set_option maxHeartbeats 2000000 in
theorem pcont2_any (w : World) (v : Value) (l : List Op3) (h : RdO w v l) : Calls Try.prog 33 #[v, .func (.func 34) #[] #[]] w fun e w' =>
  PB (SomeOp onokind l) w w' e := by
 have KI := hide (pidx2_any w v l h)
 go_enter Try.func33, Try.ntmps33
 go_wp2_with fail
 refine KI.out.mono ?_
 rintro e w1 ⟨k, rfl, hp, b1⟩
 rcases hp with ⟨h0, hp⟩ | ⟨h0, hp⟩
 ·have HP := hide hp
  have h1 : decide (0 ≤ k) = true := decide_eq_true h0
  clear hp
  go_wp2
  go_ret
  exact PB.yes rfl HP.out b1
 ·have HP := hide hp
  have h1 : decide (0 ≤ k) = false := decide_eq_false (by omega)
  clear hp
  go_wp2
  go_ret
  exact PB.no rfl HP.out b1
set_option maxRecDepth 100000 in
theorem psome2_any (w : World) (g : Nat) (x y z q v : Value) (l : List Op3) (hc : w.cell? ⟨g, 4, none⟩ = some v) (h : RdO w v l) : Calls Try.prog 32 #[.func (.func 34) #[] #[], .pointer (some ⟨g, 0, none⟩)] w fun e w' =>
  PB (SomeOp onokind l) w w' e := by
 have KI := hide (pcont2_any w v l h)
 obtain ⟨a, c, rfl⟩ := h.slice
 go_enter Try.func32, Try.ntmps32
 go_wp2_with fail
 refine KI.out.mono ?_
 rintro e w1 ⟨rfl, b1⟩
 have B1 := hide b1
 clear b1 KI
 generalize hD : decide (SomeOp onokind l) = D
 have HD := hide hD
 clear hD
 go_wp2
 go_ret
 exact PB.mk HD.out.symm B1.out
set_option maxRecDepth 100000 in
theorem ck3_any (w : World) (o : Op3) : Calls Try.prog 35 #[opv o] w fun e w' => PB (onokey o) w w' e := by
 obtain ⟨X, hX, DX, bX, sX⟩ := boxedN w #[.int .i64 o.1, st o.2.1, st o.2.2] 48
 obtain ⟨⟨X0, X1, X2⟩, _⟩ := cells3q DX
 have BX := hide bX
 clear DX bX sX
 obtain ⟨k, key, val⟩ := o
 dsimp only [opv] at *
 rw [hX] at X0 X1 X2 BX
 go_enter Try.func35, Try.ntmps35
 by_cases h1 : (key.length : Int) < 1
 ·have hp : Hid (onokey (k, key, val)) := fun q => by have := q.1; dsimp only at this; omega
  go_wp2
  go_ret
  exact PB.yes (by simp) hp.out BX.out
 ·by_cases h2 : (32 : Int) < (key.length : Int)
  ·have hp : Hid (onokey (k, key, val)) := fun q => by have := q.2; dsimp only at this; omega
   go_wp2
   go_ret
   exact PB.yes (by simp [h2]) hp.out BX.out
  ·have hp : Hid (¬ onokey (k, key, val)) := fun q => q ⟨by dsimp only; omega, by dsimp only; omega⟩
   go_wp2
   go_ret
   exact PB.no (by first | (simp; done) | (simp; omega)) hp.out BX.out
set_option maxRecDepth 100000 in
set_option maxHeartbeats 2000000 in
theorem pidx3_any (w : World) (v : Value) (l : List Op3) (h : RdO w v l) : Calls Try.prog 52 #[v, .func (.func 35) #[] #[]] w fun e w' =>
  IdxP w w' (SomeOp onokey l) e := by
 have lb := h.bd
 obtain ⟨a, c, rfl⟩ := h.slice
 obtain ⟨K, hK⟩ : ∃ K, K = l.length := ⟨_, rfl⟩
 rw [← hK] at h lb ⊢
 replace hK := hide hK
 have HH := hide h
 have KL := hide (fun w o => ck3_any w o)
 clear h
 go_enter Try.func52, Try.ntmps52
 go_wp2
 go_loopw [8] (fun p wr => ∃ i : Nat, i ≤ K ∧ p = .int .i64 i ∧ Hid (Below w.heap.size w wr ∧ ∀ o ∈ l.take i, ¬ onokey o)) (fun p _ => K - (intOf p).toNat)
 case atStart => exact ⟨0, Nat.zero_le _, rfl, hide ⟨Below.refl _ _, fun o ho => by simp at ho⟩⟩
 case round =>
  obtain ⟨i, hi9, rfl, hI⟩ := hrel
  by_cases hlt : i < K
  ·have hq : (i : Int) < (K : Int) := by omega
   obtain ⟨y, hy⟩ := some_el l (k := i) (by rw [← hK.out]; exact hlt)
   obtain ⟨b, off, rfl, c1, c2, c3⟩ := (HH.out.to0 hI.out.1).op hy
   have HY := hide hy
   clear hy
   obtain ⟨yk, yq, yv⟩ := y
   dsimp only at c1 c2 c3
   have KY := hide (KL.out wr (yk, yq, yv))
   dsimp only [opv] at KY
   go_wp2_with fail
   refine KY.out.mono ?_
   rintro e w1 ⟨rfl, b1⟩
   have HE := hide (hI.out.1.trans (b1.mono hI.out.1.size))
   clear b1 KY
   by_cases hkv : onokey (yk, yq, yv)
   ·have hz : Hid (SomeOp onokey l) := ⟨_, List.mem_of_getElem? HY.out, hkv⟩
    have hd : decide (onokey (yk, yq, yv)) = true := decide_eq_true hkv
    replace hkv := hide hkv
    go_wp2
    go_ret
    exact ⟨_, rfl, .inl ⟨by omega, hz.out⟩, HE.out⟩
   ·have hI' : Hid (Below w.heap.size w w1 ∧ ∀ o ∈ l.take (i + 1), ¬ onokey o) := ⟨HE.out, take_all hI.out.2 HY.out hkv⟩
    have hd : decide (onokey (yk, yq, yv)) = false := decide_eq_false hkv
    replace hkv := hide hkv
    go_wp2
    go_roundw
    case rel => exact ⟨i + 1, by omega, by go_num, hI'⟩
    case measure => simp [intOf]; omega
  ·have hq : ¬ (i : Int) < (K : Int) := by omega
   have hz : Hid (¬ SomeOp onokey l) := fun ⟨o, ho, hp⟩ => by
    have := hI.out.2
    rw [List.take_of_length_le (by rw [← hK.out]; omega)] at this
    exact this o ho hp
   go_wp2
   go_ret
   exact ⟨_, rfl, .inr ⟨by decide, hz.out⟩, hI.out.1⟩
set_option maxRecDepth 100000 in
set_option maxHeartbeats 2000000 in
theorem pcont3_any (w : World) (v : Value) (l : List Op3) (h : RdO w v l) : Calls Try.prog 33 #[v, .func (.func 35) #[] #[]] w fun e w' =>
  PB (SomeOp onokey l) w w' e := by
 have KI := hide (pidx3_any w v l h)
 go_enter Try.func33, Try.ntmps33
 go_wp2_with fail
 refine KI.out.mono ?_
 rintro e w1 ⟨k, rfl, hp, b1⟩
 rcases hp with ⟨h0, hp⟩ | ⟨h0, hp⟩
 ·have HP := hide hp
  have h1 : decide (0 ≤ k) = true := decide_eq_true h0
  clear hp
  go_wp2
  go_ret
  exact PB.yes rfl HP.out b1
 ·have HP := hide hp
  have h1 : decide (0 ≤ k) = false := decide_eq_false (by omega)
  clear hp
  go_wp2
  go_ret
  exact PB.no rfl HP.out b1
set_option maxRecDepth 100000 in
theorem psome3_any (w : World) (g : Nat) (x y z q v : Value) (l : List Op3) (hc : w.cell? ⟨g, 4, none⟩ = some v) (h : RdO w v l) : Calls Try.prog 32 #[.func (.func 35) #[] #[], .pointer (some ⟨g, 0, none⟩)] w fun e w' =>
  PB (SomeOp onokey l) w w' e := by
 have KI := hide (pcont3_any w v l h)
 obtain ⟨a, c, rfl⟩ := h.slice
 go_enter Try.func32, Try.ntmps32
 go_wp2_with fail
 refine KI.out.mono ?_
 rintro e w1 ⟨rfl, b1⟩
 have B1 := hide b1
 clear b1 KI
 generalize hD : decide (SomeOp onokey l) = D
 have HD := hide hD
 clear hD
 go_wp2
 go_ret
 exact PB.mk HD.out.symm B1.out
set_option maxRecDepth 100000 in
theorem ck4_any (w : World) (o : Op3) : Calls Try.prog 36 #[opv o] w fun e w' => PB (onoval o) w w' e := by
 obtain ⟨X, hX, DX, bX, sX⟩ := boxedN w #[.int .i64 o.1, st o.2.1, st o.2.2] 48
 obtain ⟨⟨X0, X1, X2⟩, _⟩ := cells3q DX
 have BX := hide bX
 clear DX bX sX
 obtain ⟨k, key, val⟩ := o
 dsimp only [opv] at *
 have KM := hide (fun n => mostv_any (X.drewN n) k)
 obtain ⟨M, hM⟩ : ∃ M : Int, M = if k = 2 then 64 else 0 := ⟨_, rfl⟩
 rw [← hM] at KM
 have hp : Hid (M < (val.length : Int) ↔ onoval (k, key, val)) := by
  show _ ↔ ¬ _
  unfold oval
  dsimp only
  rw [hM]
  by_cases h2 : k = 2
  ·rw [if_pos h2]
   exact ⟨fun a b => by have := b.1; omega, fun a => Decidable.byContradiction fun b => a ⟨by omega, .inl h2⟩⟩
  ·rw [if_neg h2]
   exact ⟨fun a b => by rcases b.2 with c | c; exact h2 c; rw [c] at a; simp at a, fun a => Decidable.byContradiction fun b => a ⟨by omega, .inr (List.eq_nil_of_length_eq_zero (by omega))⟩⟩
 replace hM := hide hM
 go_enter Try.func36, Try.ntmps36
 by_cases h1 : M < (val.length : Int)
 ·have hq := hide (hp.out.1 h1)
  go_upto_region 1 with fail
  rw [← hX]
  replace hX := hide hX
  go_quiet ((go_at_call 37; exact Calls.quiet_of_same (KM.out _)))
  go_wp2
  go_ret
  exact PB.yes (by simp [h1]) hq.out (BX.out.trans (below_drewN' X nq _))
 ·have hq := hide (fun h => h1 (hp.out.2 h))
  go_upto_region 1 with fail
  rw [← hX]
  replace hX := hide hX
  go_quiet ((go_at_call 37; exact Calls.quiet_of_same (KM.out _)))
  go_wp2
  go_ret
  exact PB.no (by first | (simp; done) | (simp; omega)) hq.out (BX.out.trans (below_drewN' X nq _))
set_option maxRecDepth 100000 in
set_option maxHeartbeats 2000000 in
theorem pidx4_any (w : World) (v : Value) (l : List Op3) (h : RdO w v l) : Calls Try.prog 52 #[v, .func (.func 36) #[] #[]] w fun e w' =>
  IdxP w w' (SomeOp onoval l) e := by
 have lb := h.bd
 obtain ⟨a, c, rfl⟩ := h.slice
 obtain ⟨K, hK⟩ : ∃ K, K = l.length := ⟨_, rfl⟩
 rw [← hK] at h lb ⊢
 replace hK := hide hK
 have HH := hide h
 have KL := hide (fun w o => ck4_any w o)
 clear h
 go_enter Try.func52, Try.ntmps52
 go_wp2
 go_loopw [8] (fun p wr => ∃ i : Nat, i ≤ K ∧ p = .int .i64 i ∧ Hid (Below w.heap.size w wr ∧ ∀ o ∈ l.take i, ¬ onoval o)) (fun p _ => K - (intOf p).toNat)
 case atStart => exact ⟨0, Nat.zero_le _, rfl, hide ⟨Below.refl _ _, fun o ho => by simp at ho⟩⟩
 case round =>
  obtain ⟨i, hi9, rfl, hI⟩ := hrel
  by_cases hlt : i < K
  ·have hq : (i : Int) < (K : Int) := by omega
   obtain ⟨y, hy⟩ := some_el l (k := i) (by rw [← hK.out]; exact hlt)
   obtain ⟨b, off, rfl, c1, c2, c3⟩ := (HH.out.to0 hI.out.1).op hy
   have HY := hide hy
   clear hy
   obtain ⟨yk, yq, yv⟩ := y
   dsimp only at c1 c2 c3
   have KY := hide (KL.out wr (yk, yq, yv))
   dsimp only [opv] at KY
   go_wp2_with fail
   refine KY.out.mono ?_
   rintro e w1 ⟨rfl, b1⟩
   have HE := hide (hI.out.1.trans (b1.mono hI.out.1.size))
   clear b1 KY
   by_cases hkv : onoval (yk, yq, yv)
   ·have hz : Hid (SomeOp onoval l) := ⟨_, List.mem_of_getElem? HY.out, hkv⟩
    have hd : decide (onoval (yk, yq, yv)) = true := decide_eq_true hkv
    replace hkv := hide hkv
    go_wp2
    go_ret
    exact ⟨_, rfl, .inl ⟨by omega, hz.out⟩, HE.out⟩
   ·have hI' : Hid (Below w.heap.size w w1 ∧ ∀ o ∈ l.take (i + 1), ¬ onoval o) := ⟨HE.out, take_all hI.out.2 HY.out hkv⟩
    have hd : decide (onoval (yk, yq, yv)) = false := decide_eq_false hkv
    replace hkv := hide hkv
    go_wp2
    go_roundw
    case rel => exact ⟨i + 1, by omega, by go_num, hI'⟩
    case measure => simp [intOf]; omega
  ·have hq : ¬ (i : Int) < (K : Int) := by omega
   have hz : Hid (¬ SomeOp onoval l) := fun ⟨o, ho, hp⟩ => by
    have := hI.out.2
    rw [List.take_of_length_le (by rw [← hK.out]; omega)] at this
    exact this o ho hp
   go_wp2
   go_ret
   exact ⟨_, rfl, .inr ⟨by decide, hz.out⟩, hI.out.1⟩
set_option maxRecDepth 100000 in
set_option maxHeartbeats 2000000 in
theorem pcont4_any (w : World) (v : Value) (l : List Op3) (h : RdO w v l) : Calls Try.prog 33 #[v, .func (.func 36) #[] #[]] w fun e w' =>
  PB (SomeOp onoval l) w w' e := by
 have KI := hide (pidx4_any w v l h)
 go_enter Try.func33, Try.ntmps33
 go_wp2_with fail
 refine KI.out.mono ?_
 rintro e w1 ⟨k, rfl, hp, b1⟩
 rcases hp with ⟨h0, hp⟩ | ⟨h0, hp⟩
 ·have HP := hide hp
  have h1 : decide (0 ≤ k) = true := decide_eq_true h0
  clear hp
  go_wp2
  go_ret
  exact PB.yes rfl HP.out b1
 ·have HP := hide hp
  have h1 : decide (0 ≤ k) = false := decide_eq_false (by omega)
  clear hp
  go_wp2
  go_ret
  exact PB.no rfl HP.out b1
set_option maxRecDepth 100000 in
theorem psome4_any (w : World) (g : Nat) (x y z q v : Value) (l : List Op3) (hc : w.cell? ⟨g, 4, none⟩ = some v) (h : RdO w v l) : Calls Try.prog 32 #[.func (.func 36) #[] #[], .pointer (some ⟨g, 0, none⟩)] w fun e w' =>
  PB (SomeOp onoval l) w w' e := by
 have KI := hide (pcont4_any w v l h)
 obtain ⟨a, c, rfl⟩ := h.slice
 go_enter Try.func32, Try.ntmps32
 go_wp2_with fail
 refine KI.out.mono ?_
 rintro e w1 ⟨rfl, b1⟩
 have B1 := hide b1
 clear b1 KI
 generalize hD : decide (SomeOp onoval l) = D
 have HD := hide hD
 clear hD
 go_wp2
 go_ret
 exact PB.mk HD.out.symm B1.out
end Go.Proofs.Ytdjjegaodgocmaa

namespace Go.Proofs.Ytdjjegaodgocmaa
open Go.RowKit
set_option maxRecDepth 100000 in
set_option maxHeartbeats 8000000 in
theorem rccheck_any (w : World) (c : Cmd) (v : Value) (h : RdO w v c.ops) : Calls Try.prog 18 #[cv c v] w fun e w' => e = .returned (.int .i64 (ccheck c)) ∧ Below w.heap.size w w' := by
 have lb := h.bd
 obtain ⟨a, cp, rfl⟩ := h.slice
 obtain ⟨kind, txn, home, verd, ops⟩ := c
 dsimp only at h lb ⊢
 obtain ⟨n, hn⟩ : ∃ n, n = ops.length := ⟨_, rfl⟩
 dsimp only [cv]
 rw [← hn] at h lb ⊢
 obtain ⟨W, hW, D, bW, sW⟩ := boxedN w #[.int .i64 kind, .int .i64 txn, .int .i64 home, .int .i64 verd, .slice a n cp] 24
 have HH := hide (h.to0 bW)
 have BW := hide bW
 obtain ⟨⟨D0, D1, D2, D3, D4⟩, _⟩ := cells5c D
 obtain ⟨C, hC⟩ : ∃ C : Cmd, C = ⟨kind, txn, home, verd, ops⟩ := ⟨_, rfl⟩
 rw [← hC]
 have hc1 : Hid (C.kind = kind ∧ C.txn = txn ∧ C.home = home ∧ C.verd = verd ∧ C.ops = ops) := by rw [hC]; exact ⟨rfl, rfl, rfl, rfl, rfl⟩
 clear hC
 obtain ⟨e1, e2, e3, e4, e5⟩ := hc1.out
 have KO := hide (rcops_any W (.slice a n cp) ops HH.out)
 replace hn := hide hn
 have K1 : Hid (¬ (1 ≤ kind ∧ kind ≤ 6) → ccheck C = 22) := fun q => ccheck_k (by rw [e1]; exact q)
 have K2 : Hid ((1 ≤ kind ∧ kind ≤ 6) → ∀ o ∈ ops, ¬ okind o → ccheck C = 22) := fun q o ho hk => ccheck_o (by rw [e1]; exact q) (by rw [e5]; exact ho) hk
 have K3 : Hid ((1 ≤ kind ∧ kind ≤ 6) → (∀ o ∈ ops, okind o) → ¬ ctxn C → ccheck C = 4) := fun q r s => ccheck_t (by rw [e1]; exact q) (by rw [e5]; exact r) s
 have K4 : Hid ((1 ≤ kind ∧ kind ≤ 6) → (∀ o ∈ ops, okind o) → ctxn C → ¬ (0 ≤ home ∧ home < 4) → ccheck C = 4) := fun q r s t => ccheck_h (by rw [e1]; exact q) (by rw [e5]; exact r) s (by rw [e3]; exact t)
 have K5 : Hid ((1 ≤ kind ∧ kind ≤ 6) → (∀ o ∈ ops, okind o) → ctxn C → (0 ≤ home ∧ home < 4) → ¬ cverd C → ccheck C = 4) := fun q r s t u => ccheck_v (by rw [e1]; exact q) (by rw [e5]; exact r) s (by rw [e3]; exact t) u
 have K6 : Hid ((1 ≤ kind ∧ kind ≤ 6) → (∀ o ∈ ops, okind o) → ctxn C → (0 ≤ home ∧ home < 4) → cverd C → (kind ≠ 1 ∧ ops ≠ []) → ccheck C = 3) := fun q r s t u x => ccheck_c (by rw [e1]; exact q) (by rw [e5]; exact r) s (by rw [e3]; exact t) u (by rw [e1, e5]; exact x)
 have K7 : Hid ((1 ≤ kind ∧ kind ≤ 6) → (∀ o ∈ ops, okind o) → ctxn C → (0 ≤ home ∧ home < 4) → cverd C → ¬ (kind ≠ 1 ∧ ops ≠ []) → ccheck C = copsE ops) := fun q r s t u x => by rw [← e5]; exact ccheck_r (by rw [e1]; exact q) (by rw [e5]; exact r) s (by rw [e3]; exact t) u (by rw [e1, e5]; exact x)
 have KT : Hid (ctxn C ↔ if cnone kind then txn = 0 else 1 ≤ txn ∧ txn ≤ 1099511627776) := by show _ ↔ _; unfold ctxn; rw [e1, e2]
 have KV : Hid (cverd C ↔ if kind = 4 then verd = 1 ∨ verd = 2 else verd = 0) := by show _ ↔ _; unfold cverd; rw [e1, e4]
 clear e1 e2 e3 e4 e5 h bW D sW
 rw [hW] at D0 D1 D2 D3 D4 KO
 go_enter Try.func18, Try.ntmps18
 by_cases g1 : kind < 1
 ·have hE := hide (K1.out (by omega))
  go_wp2
  go_ret
  exact ⟨ret_int hE.out.symm, by rw [← hW]; exact BW.out⟩
 by_cases g2 : (6 : Int) < kind
 ·have hE := hide (K1.out (by omega))
  go_wp2
  go_ret
  exact ⟨ret_int hE.out.symm, by rw [← hW]; exact BW.out⟩
 have hk : Hid (1 ≤ kind ∧ kind ≤ 6) := ⟨by omega, by omega⟩
 go_wp2
 rw [← hW]
 rw [← hW] at D0 D1 D2 D3 D4 KO
 replace hW := hide hW
 go_loopw [3] (fun p wr => ∃ k : Nat, k ≤ n ∧ p = .int .i64 k ∧ Hid (∀ o ∈ ops.take k, okind o) ∧ W = wr) (fun p _ => n - (intOf p).toNat)
 case atStart => exact ⟨0, Nat.zero_le _, rfl, hide (fun o ho => by simp at ho), rfl⟩
 case round =>
  obtain ⟨k, hkn, rfl, hI, rfl⟩ := hrel
  by_cases hlt : k < n
  ·have hq : (k : Int) < (n : Int) := by omega
   obtain ⟨y, hy⟩ := some_el ops (k := k) (by rw [← hn.out]; exact hlt)
   obtain ⟨b, off, rfl, c1, c2, c3⟩ := HH.out.op hy
   have hmem := hide (List.mem_of_getElem? hy)
   have hst : Hid (okind y → ∀ o ∈ ops.take (k + 1), okind o) := fun hp => take_all hI.out hy hp
   replace hy := hide hy
   by_cases g3 : y.1 < 1
   ·have hE := hide (K2.out hk.out y hmem.out (fun q => by have := q.1; omega))
    go_wp2
    go_ret
    exact ⟨ret_int hE.out.symm, BW.out⟩
   ·by_cases g4 : (3 : Int) < y.1
    ·have hE := hide (K2.out hk.out y hmem.out (fun q => by have := q.2; omega))
     go_wp2
     go_ret
     exact ⟨ret_int hE.out.symm, BW.out⟩
    ·have hE := hide (hst.out ⟨by omega, by omega⟩)
     go_wp2
     go_roundw
     case rel => exact ⟨k + 1, by omega, by go_num, hE, trivial⟩
     case measure => simp [intOf]; omega
  ·have hq : ¬ (k : Int) < (n : Int) := by omega
   have hok : Hid (∀ o ∈ ops, okind o) := by
    have := hI.out
    rw [List.take_of_length_le (by rw [← hn.out]; omega)] at this
    exact this
   go_upto_region 8 with fail
   go_cut [4] from 36 to 43 (fun b wx => b = .bool (decide (cnone kind)) ∧ W = wx)
   case first =>
    by_cases q5 : kind = 5
    ·subst q5
     go_wp2_with fail
     go_meet
     exact ⟨by simp [cnone], rfl⟩
    ·have q5' : (kind == 5) = false := by simpa using q5
     by_cases q6 : kind = 6
     ·subst q6
      go_wp2_with fail
      go_meet
      exact ⟨by simp [cnone], rfl⟩
     ·have q6' : (kind == 6) = false := by simpa using q6
      have hd : Hid (decide (cnone kind) = false) := decide_eq_false (by rintro (q | q); exact q5 q; exact q6 q)
      replace q5 := hide q5
      replace q6 := hide q6
      go_wp2_with fail
      go_meet
      exact ⟨by rw [hd.out], rfl⟩
   case rest =>
   obtain ⟨rfl, rfl⟩ := hcut
   clear hq
   obtain ⟨bn, hbn⟩ : ∃ b, b = decide (cnone kind) := ⟨_, rfl⟩
   rw [← hbn]
   replace hbn := hide hbn
   go_upto_region 9 with fail
   go_cut [44] from 45 to 64 (fun b wx => b = .bool (decide (¬ ctxn C)) ∧ W = wx)
   case first =>
    cases bn with
    | true =>
     have qn : cnone kind := of_decide_eq_true hbn.out.symm
     have KT2 : Hid (ctxn C ↔ txn = 0) := by have := KT.out; rw [if_pos qn] at this; exact this
     replace qn := hide qn
     by_cases q0 : txn = 0
     ·have hd : Hid (decide (¬ ctxn C) = false) := decide_eq_false (fun k => k (KT2.out.2 q0))
      have q0' : (txn != 0) = false := by simpa using q0
      replace q0 := hide q0
      go_wp2_with fail
      go_meet
      exact ⟨by rw [hd.out], rfl⟩
     ·have hd : Hid (decide (¬ ctxn C) = true) := decide_eq_true (fun k => q0 (KT2.out.1 k))
      have q0' : (txn != 0) = true := by simpa using q0
      replace q0 := hide q0
      go_wp2_with fail
      go_meet
      exact ⟨by rw [hd.out], rfl⟩
    | false =>
     have qn : ¬ cnone kind := of_decide_eq_false hbn.out.symm
     have KT2 : Hid (ctxn C ↔ 1 ≤ txn ∧ txn ≤ 1099511627776) := by have := KT.out; rw [if_neg qn] at this; exact this
     replace qn := hide qn
     by_cases q0 : txn < 1
     ·have hd : Hid (decide (¬ ctxn C) = true) := decide_eq_true (fun k => by have := (KT2.out.1 k).1; omega)
      go_wp2_with fail
      go_meet
      exact ⟨by rw [hd.out], rfl⟩
     ·by_cases q1 : (1099511627776 : Int) < txn
      ·have hd : Hid (decide (¬ ctxn C) = true) := decide_eq_true (fun k => by have := (KT2.out.1 k).2; omega)
       go_wp2_with fail
       go_meet
       exact ⟨by rw [hd.out], rfl⟩
      ·have hd : Hid (decide (¬ ctxn C) = false) := decide_eq_false (fun k => k (KT2.out.2 ⟨by omega, by omega⟩))
       go_wp2_with fail
       go_meet
       exact ⟨by rw [hd.out], rfl⟩
   case rest =>
   obtain ⟨rfl, rfl⟩ := hcut
   by_cases gt : ctxn C
   rotate_left
   ·have hE := hide (K3.out hk.out hok.out gt)
    rw [decide_eq_true (show ¬ ctxn C from gt)]
    replace gt := hide gt
    go_wp2
    go_ret
    exact ⟨ret_int hE.out.symm, BW.out⟩
   rw [decide_eq_false (show ¬ ¬ ctxn C from fun k => k gt)]
   replace gt := hide gt
   by_cases gh1 : home < 0
   ·have hE := hide (K4.out hk.out hok.out gt.out (by omega))
    go_wp2
    go_ret
    exact ⟨ret_int hE.out.symm, BW.out⟩
   by_cases gh2 : (4 : Int) ≤ home
   ·have hE := hide (K4.out hk.out hok.out gt.out (by omega))
    go_wp2
    go_ret
    exact ⟨ret_int hE.out.symm, BW.out⟩
   have hh : Hid (0 ≤ home ∧ home < 4) := ⟨by omega, by omega⟩
   go_upto_region 13 with fail
   go_cut [74] from 75 to 97 (fun b wx => b = .bool (decide (¬ cverd C)) ∧ W = wx)
   case first =>
    by_cases q4 : kind = 4
    ·have KV2 : Hid (cverd C ↔ verd = 1 ∨ verd = 2) := by have := KV.out; rw [if_pos q4] at this; exact this
     have q4' : (kind == 4) = true := by simpa using q4
     have q4'' : (kind != 4) = false := by simpa using q4
     replace q4 := hide q4
     by_cases v1 : verd = 1
     ·have hd : Hid (decide (¬ cverd C) = false) := decide_eq_false (fun k => k (KV2.out.2 (.inl v1)))
      have v1' : (verd != 1) = false := by simpa using v1
      replace v1 := hide v1
      go_wp2_with fail
      go_meet
      exact ⟨by rw [hd.out], rfl⟩
     ·have v1' : (verd != 1) = true := by simpa using v1
      by_cases v2 : verd = 2
      ·have hd : Hid (decide (¬ cverd C) = false) := decide_eq_false (fun k => k (KV2.out.2 (.inr v2)))
       have v2' : (verd != 2) = false := by simpa using v2
       replace v1 := hide v1
       replace v2 := hide v2
       go_wp2_with fail
       go_meet
       exact ⟨by rw [hd.out], rfl⟩
      ·have v2' : (verd != 2) = true := by simpa using v2
       have hd : Hid (decide (¬ cverd C) = true) := decide_eq_true (fun k => by rcases KV2.out.1 k with q | q; exact v1 q; exact v2 q)
       replace v1 := hide v1
       replace v2 := hide v2
       go_wp2_with fail
       go_meet
       exact ⟨by rw [hd.out], rfl⟩
    ·have KV2 : Hid (cverd C ↔ verd = 0) := by have := KV.out; rw [if_neg q4] at this; exact this
     have q4' : (kind == 4) = false := by simpa using q4
     have q4'' : (kind != 4) = true := by simpa using q4
     replace q4 := hide q4
     by_cases v0 : verd = 0
     ·have hd : Hid (decide (¬ cverd C) = false) := decide_eq_false (fun k => k (KV2.out.2 v0))
      have v0' : (verd != 0) = false := by simpa using v0
      replace v0 := hide v0
      go_wp2_with fail
      go_meet
      exact ⟨by rw [hd.out], rfl⟩
     ·have v0' : (verd != 0) = true := by simpa using v0
      have hd : Hid (decide (¬ cverd C) = true) := decide_eq_true (fun k => v0 (KV2.out.1 k))
      replace v0 := hide v0
      go_wp2_with fail
      go_meet
      exact ⟨by rw [hd.out], rfl⟩
   case rest =>
   obtain ⟨rfl, rfl⟩ := hcut
   by_cases gv : cverd C
   rotate_left
   ·have hE := hide (K5.out hk.out hok.out gt.out hh.out gv)
    rw [decide_eq_true (show ¬ cverd C from gv)]
    replace gv := hide gv
    go_wp2
    go_ret
    exact ⟨ret_int hE.out.symm, BW.out⟩
   rw [decide_eq_false (show ¬ ¬ cverd C from fun k => k gv)]
   replace gv := hide gv
   have KO2 := hide (fun (hE : ccheck C = copsE ops) => KO.out)
   by_cases q1 : kind = 1
   ·have hE := hide (K7.out hk.out hok.out gt.out hh.out gv.out (fun k => k.1 q1))
    subst q1
    go_wp2_with fail
    refine KO.out.mono ?_
    rintro e w' ⟨rfl, rfl⟩
    go_wp2
    go_ret
    exact ⟨ret_int hE.out.symm, BW.out⟩
   ·have q1' : (kind != 1) = true := by simpa using q1
    by_cases q0 : n = 0
    ·have hE := hide (K7.out hk.out hok.out gt.out hh.out gv.out (fun k => k.2 (List.eq_nil_of_length_eq_zero (by rw [← hn.out]; exact q0))))
     have q0' : ¬ (0 : Int) < (n : Int) := by omega
     replace q1 := hide q1
     replace q0 := hide q0
     go_wp2_with fail
     refine KO.out.mono ?_
     rintro e w' ⟨rfl, rfl⟩
     go_wp2
     go_ret
     exact ⟨ret_int hE.out.symm, BW.out⟩
    ·have hE := hide (K6.out hk.out hok.out gt.out hh.out gv.out ⟨q1, fun k => q0 (by rw [hn.out, k]; rfl)⟩)
     have q0' : (0 : Int) < (n : Int) := by omega
     replace q1 := hide q1
     replace q0 := hide q0
     go_wp2
     go_ret
     exact ⟨ret_int hE.out.symm, BW.out⟩
end Go.Proofs.Ytdjjegaodgocmaa

namespace Go.Proofs.Ytdjjegaodgocmaa
open Go.RowKit
set_option maxRecDepth 100000 in
theorem mosto_any (w : World) (k : Int) : Calls Try.prog 41 #[.int .i64 k] w fun e w' => e = .returned (.int .i64 (if k = 1 then 16 else 0)) ∧ w' = w := by
 go_enter Try.func41, Try.ntmps41
 by_cases h : k = 1
 ·subst h
  go_wp2
  go_ret
  exact ⟨rfl, rfl⟩
 ·have h' : (k == 1) = false := by simpa using h
  replace h := hide h
  go_wp2
  go_ret
  exact ⟨rfl, rfl⟩
set_option maxRecDepth 100000 in
theorem txnmb_any (w : World) (c : Cmd) (v : Value) : Calls Try.prog 38 #[cv c v] w fun e w' => PB (ctxn c) w w' e := by
 obtain ⟨W, hW, D, bW, sW⟩ := boxedN w #[.int .i64 c.kind, .int .i64 c.txn, .int .i64 c.home, .int .i64 c.verd, v] 24
 obtain ⟨⟨D0, D1, D2, D3, D4⟩, _⟩ := cells5c D
 have BW := hide bW
 clear D bW sW
 have KT : Hid (ctxn c ↔ if cnone c.kind then c.txn = 0 else 1 ≤ c.txn ∧ c.txn ≤ 1099511627776) := Iff.rfl
 obtain ⟨kind, hkind⟩ : ∃ z, z = c.kind := ⟨_, rfl⟩
 obtain ⟨txn, htxn⟩ : ∃ z, z = c.txn := ⟨_, rfl⟩
 dsimp only [cv]
 rw [← hkind] at KT D0 hW ⊢
 rw [← htxn] at KT D1 hW ⊢
 replace hkind := hide hkind
 replace htxn := hide htxn
 rw [hW] at D0 D1 D2 D3 D4 BW
 clear D2 D3 D4
 go_enter Try.func38, Try.ntmps38
 by_cases hn : cnone kind
 ·have KT2 : Hid (ctxn c ↔ txn = 0) := by have := KT.out; rw [if_pos hn] at this; exact this
  by_cases q0 : txn = 0
  ·have hp := hide (KT2.out.2 q0)
   by_cases q5 : kind = 5
   ·subst q5 q0
    go_wp2
    go_ret
    exact PB.yes (by simp) hp.out BW.out
   ·have q6 : kind = 6 := by rcases hn with r | r; exact absurd r q5; exact r
    subst q6 q0
    go_wp2
    go_ret
    exact PB.yes (by simp) hp.out BW.out
  ·have hp := hide (fun h => q0 (KT2.out.1 h))
   have q0' : (txn == 0) = false := by simpa using q0
   replace q0 := hide q0
   by_cases q5 : kind = 5
   ·subst q5
    go_wp2
    go_ret
    exact PB.no (by first | (simp; done) | simp [q0']) hp.out BW.out
   ·have q6 : kind = 6 := by rcases hn with r | r; exact absurd r q5; exact r
    subst q6
    go_wp2
    go_ret
    exact PB.no (by first | (simp; done) | simp [q0']) hp.out BW.out
 ·have KT2 : Hid (ctxn c ↔ 1 ≤ txn ∧ txn ≤ 1099511627776) := by have := KT.out; rw [if_neg hn] at this; exact this
  have q5' : (kind == 5) = false := by simpa using fun q => hn (.inl q)
  have q6' : (kind == 6) = false := by simpa using fun q => hn (.inr q)
  replace hn := hide hn
  by_cases q0 : (1 : Int) ≤ txn
  ·by_cases q1 : txn ≤ 1099511627776
   ·have hp := hide (KT2.out.2 ⟨q0, q1⟩)
    go_wp2
    go_ret
    exact PB.yes (by simp [q1]) hp.out BW.out
   ·have hp : Hid (¬ ctxn c) := fun h => q1 (KT2.out.1 h).2
    go_wp2
    go_ret
    exact PB.no (by first | (simp; done) | (simp; omega)) hp.out BW.out
  ·have hp : Hid (¬ ctxn c) := fun h => q0 (KT2.out.1 h).1
   go_wp2
   go_ret
   exact PB.no (by first | (simp; done) | (simp; omega)) hp.out BW.out
def chome (c : Cmd) : Prop := 0 ≤ c.home ∧ c.home < 4
instance (c : Cmd) : Decidable (chome c) := by unfold chome; infer_instance
set_option maxRecDepth 100000 in
theorem homemb_any (w : World) (c : Cmd) (v : Value) : Calls Try.prog 39 #[cv c v] w fun e w' => PB (chome c) w w' e := by
 obtain ⟨W, hW, D, bW, sW⟩ := boxedN w #[.int .i64 c.kind, .int .i64 c.txn, .int .i64 c.home, .int .i64 c.verd, v] 24
 obtain ⟨⟨D0, D1, D2, D3, D4⟩, _⟩ := cells5c D
 have BW := hide bW
 clear D bW sW D0 D1 D3 D4
 have KT : Hid (chome c ↔ 0 ≤ c.home ∧ c.home < 4) := Iff.rfl
 obtain ⟨home, hhome⟩ : ∃ z, z = c.home := ⟨_, rfl⟩
 dsimp only [cv]
 rw [← hhome] at KT D2 hW ⊢
 replace hhome := hide hhome
 rw [hW] at D2 BW
 go_enter Try.func39, Try.ntmps39
 by_cases q0 : (0 : Int) ≤ home
 ·by_cases q1 : home < 4
  ·have hp := hide (KT.out.2 ⟨q0, q1⟩)
   go_wp2
   go_ret
   exact PB.yes (by simp [q1]) hp.out BW.out
  ·have hp : Hid (¬ chome c) := fun h => q1 (KT.out.1 h).2
   go_wp2
   go_ret
   exact PB.no (by first | (simp; done) | (simp; omega)) hp.out BW.out
 ·have hp : Hid (¬ chome c) := fun h => q0 (KT.out.1 h).1
  go_wp2
  go_ret
  exact PB.no (by first | (simp; done) | (simp; omega)) hp.out BW.out
set_option maxRecDepth 100000 in
theorem verdmb_any (w : World) (c : Cmd) (v : Value) : Calls Try.prog 40 #[cv c v] w fun e w' => PB (cverd c) w w' e := by
 obtain ⟨W, hW, D, bW, sW⟩ := boxedN w #[.int .i64 c.kind, .int .i64 c.txn, .int .i64 c.home, .int .i64 c.verd, v] 24
 obtain ⟨⟨D0, D1, D2, D3, D4⟩, _⟩ := cells5c D
 have BW := hide bW
 clear D bW sW D1 D2 D4
 have KT : Hid (cverd c ↔ if c.kind = 4 then c.verd = 1 ∨ c.verd = 2 else c.verd = 0) := Iff.rfl
 obtain ⟨kind, hkind⟩ : ∃ z, z = c.kind := ⟨_, rfl⟩
 obtain ⟨verd, hverd⟩ : ∃ z, z = c.verd := ⟨_, rfl⟩
 dsimp only [cv]
 rw [← hkind] at KT D0 hW ⊢
 rw [← hverd] at KT D3 hW ⊢
 replace hkind := hide hkind
 replace hverd := hide hverd
 rw [hW] at D0 D3 BW
 go_enter Try.func40, Try.ntmps40
 by_cases q4 : kind = 4
 ·have KT2 : Hid (cverd c ↔ verd = 1 ∨ verd = 2) := by have := KT.out; rw [if_pos q4] at this; exact this
  subst q4
  by_cases v1 : verd = 1
  ·have hp := hide (KT2.out.2 (.inl v1))
   subst v1
   go_wp2
   go_ret
   exact PB.yes (by simp) hp.out BW.out
  ·have v1' : (verd == 1) = false := by simpa using v1
   by_cases v2 : verd = 2
   ·have hp := hide (KT2.out.2 (.inr v2))
    subst v2
    go_wp2
    go_ret
    exact PB.yes (by simp) hp.out BW.out
   ·have hp : Hid (¬ cverd c) := fun h => by rcases KT2.out.1 h with r | r; exact v1 r; exact v2 r
    have v2' : (verd == 2) = false := by simpa using v2
    replace v1 := hide v1
    replace v2 := hide v2
    go_wp2
    go_ret
    exact PB.no (by first | (simp; done) | simp [v2']) hp.out BW.out
 ·have KT2 : Hid (cverd c ↔ verd = 0) := by have := KT.out; rw [if_neg q4] at this; exact this
  have q4' : (kind == 4) = false := by simpa using q4
  have q4'' : (kind != 4) = true := by simpa using q4
  replace q4 := hide q4
  by_cases v0 : verd = 0
  ·have hp := hide (KT2.out.2 v0)
   subst v0
   go_wp2
   go_ret
   exact PB.yes (by simp) hp.out BW.out
  ·have hp := hide (fun h => v0 (KT2.out.1 h))
   have v0' : (verd == 0) = false := by simpa using v0
   replace v0 := hide v0
   go_wp2
   go_ret
   exact PB.no (by first | (simp; done) | simp [v0']) hp.out BW.out
set_option maxRecDepth 100000 in
set_option maxHeartbeats 8000000 in
theorem pcheck13_any (w : World) (c : Cmd) (v : Value) (h : RdO w v c.ops) : Calls Try.prog 17 #[cv c v] w fun e w' => e = .returned (.int .i64 (ccheck c)) ∧ Below w.heap.size w w' := by
 have hmf : ∀ (fn : Fn) (first cap : Array Value) (w : World), (Instr.makeFunc fn first cap).run Try.prog w = .ok (.func fn first cap) w := fun _ _ _ _ => rfl
 obtain ⟨W, hW, D, bW, sW⟩ := boxedN w #[.int .i64 c.kind, .int .i64 c.txn, .int .i64 c.home, .int .i64 c.verd, v] 24
 obtain ⟨⟨D0, D1, D2, D3, D4⟩, _⟩ := cells5c D
 have HD := hide D
 have HH := hide h
 have BW := hide bW
 have K1 := hide (psome2_any W w.heap.size .nilIface .nilIface .nilIface .nilIface v c.ops D4 (h.to0 bW))
 have lb := h.bd
 obtain ⟨a, cp, hv⟩ := h.slice
 obtain ⟨n, hn⟩ : ∃ n, n = c.ops.length := ⟨_, rfl⟩
 rw [← hn] at hv lb
 have hsz : Hid (w.heap.size < W.heap.size) := by show _ < _; omega
 clear h bW D sW
 subst hv
 dsimp only [cv]
 obtain ⟨kind, hkind⟩ : ∃ z, z = c.kind := ⟨_, rfl⟩
 rw [← hkind] at HD D0 hW ⊢
 replace hn := hide hn
 have Q1 : Hid (kind < 1 → ccheck c = 22) := fun q => ccheck_k (by omega)
 have Q2 : Hid (6 < kind → ccheck c = 22) := fun q => ccheck_k (by omega)
 have Q3 : Hid (¬ kind < 1 → ¬ 6 < kind → 1 ≤ c.kind ∧ c.kind ≤ 6) := fun q r => ⟨by omega, by omega⟩
 replace hkind := hide hkind
 rw [hW] at D0 D1 D2 D3 D4 K1
 go_enter Try.func17, Try.ntmps17
 by_cases g1 : kind < 1
 ·have hE := hide (Q1.out g1)
  go_wp2
  go_ret
  exact ⟨ret_int hE.out.symm, by rw [← hW]; exact BW.out⟩
 by_cases g2 : (6 : Int) < kind
 ·have hE := hide (Q2.out g2)
  go_wp2
  go_ret
  exact ⟨ret_int hE.out.symm, by rw [← hW]; exact BW.out⟩
 have hk := hide (Q3.out g1 g2)
 go_wp2_with fail
 refine K1.out.mono ?_
 rintro e w1 ⟨rfl, b1⟩
 rw [← hW] at b1
 replace hW := hide hW
 clear K1 D0 D1 D2 D3 D4
 have L1 : Hid (w.heap.size < w1.heap.size) := Nat.lt_of_lt_of_le hsz.out b1.size
 have H1 := hide ((b1.block _ hsz.out).trans HD.out)
 have B1 := hide (BW.out.trans (b1.mono BW.out.size))
 clear b1
 by_cases gk : SomeOp onokind c.ops
 ·rw [decide_eq_true gk]
  have hE : Hid (ccheck c = 22) := by obtain ⟨o, ho, hp⟩ := gk; exact ccheck_o hk.out ho hp
  replace gk := hide gk
  go_wp2
  go_ret
  exact ⟨ret_int hE.out.symm, B1.out⟩
 rw [decide_eq_false gk]
 have hok : Hid (∀ o ∈ c.ops, okind o) := fun o ho => Decidable.byContradiction fun q => gk ⟨o, ho, q⟩
 replace gk := hide gk
 have KT := hide (txnmb_any w1 c (.slice a n cp))
 dsimp only [cv] at KT
 rw [← hkind.out] at KT
 obtain ⟨⟨D0, D1, D2, D3, D4⟩, _⟩ := cells5c H1.out
 go_wp2_with fail
 refine KT.out.mono ?_
 rintro e w2 ⟨rfl, b2⟩
 have L2 : Hid (w.heap.size < w2.heap.size) := Nat.lt_of_lt_of_le L1.out b2.size
 have H2 := hide ((b2.block _ L1.out).trans H1.out)
 have B2 := hide (B1.out.trans (b2.mono B1.out.size))
 clear b2 KT D0 D1 D2 D3 D4
 by_cases gt : ctxn c
 rotate_left
 ·rw [decide_eq_false gt]
  have hE : Hid (ccheck c = 4) := ccheck_t hk.out hok.out gt
  replace gt := hide gt
  go_wp2
  go_ret
  exact ⟨ret_int hE.out.symm, B2.out⟩
 rw [decide_eq_true gt]
 replace gt := hide gt
 have KT := hide (homemb_any w2 c (.slice a n cp))
 dsimp only [cv] at KT
 rw [← hkind.out] at KT
 obtain ⟨⟨D0, D1, D2, D3, D4⟩, _⟩ := cells5c H2.out
 go_wp2_with fail
 refine KT.out.mono ?_
 rintro e w3 ⟨rfl, b3⟩
 have L3 : Hid (w.heap.size < w3.heap.size) := Nat.lt_of_lt_of_le L2.out b3.size
 have H3 := hide ((b3.block _ L2.out).trans H2.out)
 have B3 := hide (B2.out.trans (b3.mono B2.out.size))
 clear b3 KT D0 D1 D2 D3 D4
 by_cases gh : chome c
 rotate_left
 ·rw [decide_eq_false gh]
  have hE : Hid (ccheck c = 4) := ccheck_h hk.out hok.out gt.out gh
  replace gh := hide gh
  go_wp2
  go_ret
  exact ⟨ret_int hE.out.symm, B3.out⟩
 rw [decide_eq_true gh]
 replace gh := hide gh
 have KT := hide (verdmb_any w3 c (.slice a n cp))
 dsimp only [cv] at KT
 rw [← hkind.out] at KT
 obtain ⟨⟨D0, D1, D2, D3, D4⟩, _⟩ := cells5c H3.out
 go_wp2_with fail
 refine KT.out.mono ?_
 rintro e w4 ⟨rfl, b4⟩
 have L4 : Hid (w.heap.size < w4.heap.size) := Nat.lt_of_lt_of_le L3.out b4.size
 have H4 := hide ((b4.block _ L3.out).trans H3.out)
 have B4 := hide (B3.out.trans (b4.mono B3.out.size))
 clear b4 KT D0 D1 D2 D3 D4
 by_cases gv : cverd c
 rotate_left
 ·rw [decide_eq_false gv]
  have hE : Hid (ccheck c = 4) := ccheck_v hk.out hok.out gt.out gh.out gv
  replace gv := hide gv
  go_wp2
  go_ret
  exact ⟨ret_int hE.out.symm, B4.out⟩
 rw [decide_eq_true gv]
 replace gv := hide gv
 have KM := hide (fun m => mosto_any (w4.drewN m) kind)
 obtain ⟨M, hM⟩ : ∃ M : Int, M = if kind = 1 then 16 else 0 := ⟨_, rfl⟩
 rw [← hM] at KM
 have hC : Hid (M < (n : Int) → ccheck c = 3) := fun q => by
  by_cases q1 : c.kind = 1
  ·rw [hM, if_pos (by rw [hkind.out]; exact q1)] at q
   rw [ccheck_r hk.out hok.out gt.out gh.out gv.out (fun r => r.1 q1)]
   exact copsE_3 (by rw [← hn.out]; omega)
  ·exact ccheck_c hk.out hok.out gt.out gh.out gv.out ⟨q1, fun r => by rw [hM, if_neg (by rw [hkind.out]; exact q1)] at q; have := hn.out; rw [r] at this; simp at this; omega⟩
 have hR : Hid (¬ M < (n : Int) → ccheck c = copsE c.ops ∧ ¬ 16 < c.ops.length) := fun q => by
  by_cases q1 : c.kind = 1
  ·rw [hM, if_pos (by rw [hkind.out]; exact q1)] at q
   exact ⟨ccheck_r hk.out hok.out gt.out gh.out gv.out (fun r => r.1 q1), by rw [← hn.out]; omega⟩
  ·rw [hM, if_neg (by rw [hkind.out]; exact q1)] at q
   have h0 : c.ops = [] := List.eq_nil_of_length_eq_zero (by rw [← hn.out]; omega)
   exact ⟨ccheck_r hk.out hok.out gt.out gh.out gv.out (fun r => r.2 h0), by rw [h0]; simp⟩
 replace hM := hide hM
 obtain ⟨⟨D0, D1, D2, D3, D4⟩, _⟩ := cells5c H4.out
 by_cases gm : M < (n : Int)
 ·have hE := hide (hC.out gm)
  go_upto_region 9 with fail
  go_quiet ((go_at_call 41; exact Calls.quiet_of_same (KM.out _)))
  go_wp2
  go_ret
  exact ⟨ret_int hE.out.symm, B4.out.trans ((below_drewN' w4 nq _).mono B4.out.size)⟩
 have hE := hide (hR.out gm)
 go_upto_region 9 with fail
 go_quiet ((go_at_call 41; exact Calls.quiet_of_same (KM.out _)))
 clear D0 D1 D2 D3 D4 KM hC hR
 obtain ⟨w5, hw5⟩ : ∃ u, u = w4.drewN nq := ⟨_, rfl⟩
 have bq := below_drewN' w4 nq w4.heap.size
 rw [← hw5] at bq ⊢
 have L5 : Hid (w.heap.size < w5.heap.size) := Nat.lt_of_lt_of_le L4.out bq.size
 have H5 := hide ((bq.block _ L4.out).trans H4.out)
 have B5 := hide (B4.out.trans (bq.mono B4.out.size))
 replace hw5 := hide hw5
 clear bq
 obtain ⟨⟨D0, D1, D2, D3, D4⟩, _⟩ := cells5c H5.out
 have K3 := hide (psome3_any w5 w.heap.size .nilIface .nilIface .nilIface .nilIface (.slice a n cp) c.ops D4 (HH.out.to0 B5.out))
 go_wp2_with fail
 refine K3.out.mono ?_
 rintro e w6 ⟨rfl, b6⟩
 have L6 : Hid (w.heap.size < w6.heap.size) := Nat.lt_of_lt_of_le L5.out b6.size
 have H6 := hide ((b6.block _ L5.out).trans H5.out)
 have B6 := hide (B5.out.trans (b6.mono B5.out.size))
 clear b6 K3 D0 D1 D2 D3 D4
 by_cases gk3 : SomeOp onokey c.ops
 ·rw [decide_eq_true gk3]
  have hE2 : Hid (ccheck c = 91) := by obtain ⟨o, ho, hp⟩ := gk3; exact hE.out.1.trans (copsE_91 hE.out.2 ho hp)
  replace gk3 := hide gk3
  go_wp2
  go_ret
  exact ⟨ret_int hE2.out.symm, B6.out⟩
 rw [decide_eq_false gk3]
 have hkey : Hid (∀ o ∈ c.ops, okey o) := fun o ho => Decidable.byContradiction fun q => gk3 ⟨o, ho, q⟩
 replace gk3 := hide gk3
 obtain ⟨⟨D0, D1, D2, D3, D4⟩, _⟩ := cells5c H6.out
 have K4 := hide (psome4_any w6 w.heap.size .nilIface .nilIface .nilIface .nilIface (.slice a n cp) c.ops D4 (HH.out.to0 B6.out))
 go_wp2_with fail
 refine K4.out.mono ?_
 rintro e w7 ⟨rfl, b7⟩
 have B7 := hide (B6.out.trans (b7.mono B6.out.size))
 clear b7 K4 D0 D1 D2 D3 D4
 by_cases gk4 : SomeOp onoval c.ops
 ·rw [decide_eq_true gk4]
  have hE2 : Hid (ccheck c = 5) := by obtain ⟨o, ho, hp⟩ := gk4; exact hE.out.1.trans (copsE_5 hE.out.2 hkey.out ho hp)
  replace gk4 := hide gk4
  go_wp2
  go_ret
  exact ⟨ret_int hE2.out.symm, B7.out⟩
 rw [decide_eq_false gk4]
 have hE2 : Hid (ccheck c = 0) := hE.out.1.trans (copsE_0 hE.out.2 hkey.out fun o ho => Decidable.byContradiction fun q => gk4 ⟨o, ho, q⟩)
 replace gk4 := hide gk4
 go_wp2
 go_ret
 exact ⟨ret_int hE2.out.symm, B7.out⟩
end Go.Proofs.Ytdjjegaodgocmaa

namespace Go.Proofs.Ytdjjegaodgocmaa
open Go.RowKit
theorem u8_b8 {n : Int} (h : 0 ≤ n) : IntKind.u8.wrap n = ((b8 n).toNat : Int) := by
 obtain ⟨m, rfl⟩ := Int.eq_ofNat_of_zero_le h
 unfold b8
 rw [u8_is]
 simp
theorem strc_enc (x : Str) : Lib.strCells ⟨x.toArray⟩ = x.map enc := by
 unfold Lib.strCells enc
 rfl
theorem wpList_append_st {ops : Array Oper} {rest : List Oper} {o : Oper} {a : Act} {w : World} {Q : Exit → Act → World → Prop} (hgd : o.guard = none) (s x : Operand)
  (ho : o.op = .call { callee := .builtin .append, args := #[s, x], argTypes := #[25, 9] }) (B : Nat) (v : Value) (xs : List UInt8) (y : Str) (hs : a.eval s = v) (hx : a.eval x = st y)
  (hown : OwnB B w v xs) (hlen : xs.length + y.length ≤ 140737488355328) (hB : B ≤ w.heap.size)
  (h : ∀ v' w', OwnB B w' v' (xs ++ y) → Below B w w' → w.grownBy w' v.ownBlock → wpList Try.prog ops Q rest (a.put o.dst v') w') : wpList Try.prog ops Q (o :: rest) a w := by
 obtain ⟨i0, hi, hz0, hz1, hz2⟩ := info_parts info8
 have fr := hown.from
 refine Lib.wpList_append_own_string _ hgd _ _ 25 9 ho B 5 i0 Try.underlying25 Try.underlying9 hi hz0 hz1 hz2 _ _ _ hs hown _ hx (by rw [size_st, show maxLen = 9223372036854775807 from rfl]; omega) (by rw [size_st]; exact hlen) hB ?_
 intro v6 w6 o6 g6 _
 refine h v6 w6 ?_ ((Below.refl _ _).grown g6 hB fr) g6
 rw [strc_enc, size_st] at o6
 unfold OwnB
 simpa using o6
theorem opO_bd {v : Int} {o : Op3} (h1 : okey o) (h2 : oval o) : (opO v o).length ≤ 100 := by
 have := h1.2
 have := h2.1
 unfold opO
 split <;> simp <;> omega
theorem ops_bd {v : Int} : ∀ {l : List Op3}, (∀ o ∈ l, okey o ∧ oval o) → (l.flatMap (opO v)).length ≤ 100 * l.length
 | [], _ => by simp
 | o :: l, h => by
  have h1 := ops_bd (v := v) (l := l) fun q hq => h q (by simp [hq])
  have h2 := opO_bd (v := v) (h o (by simp)).1 (h o (by simp)).2
  rw [List.flatMap_cons, List.length_append, List.length_cons]
  omega
set_option maxRecDepth 100000 in
set_option maxHeartbeats 8000000 in
theorem rcencode_any (w : World) (c : Cmd) (v : Value) (ver : Int) (h : RdO w v c.ops) : Calls Try.prog 11 #[cv c v, .int .i64 ver] w fun e w' => ∃ x, e = .returned (.tuple #[x, .int .i64 (cenc c ver).2]) ∧ OwnB w.heap.size w' x (cenc c ver).1 ∧ Below w.heap.size w w' := by
 obtain ⟨W, hW, D, bW, sW⟩ := boxedN w #[.int .i64 c.kind, .int .i64 c.txn, .int .i64 c.home, .int .i64 c.verd, v] 24
 have KC := hide (rccheck_any W c v (h.to0 bW))
 have lb := h.bd
 obtain ⟨a, cp, rfl⟩ := h.slice
 obtain ⟨n, hn⟩ : ∃ n, n = c.ops.length := ⟨_, rfl⟩
 have HH := hide h
 have BW := hide bW
 have HD := hide D
 obtain ⟨⟨D0, D1, D2, D3, D4⟩, _⟩ := cells5c D
 obtain ⟨kind, hkind⟩ : ∃ z, z = c.kind := ⟨_, rfl⟩
 obtain ⟨txn, htxn⟩ : ∃ z, z = c.txn := ⟨_, rfl⟩
 obtain ⟨home, hhome⟩ : ∃ z, z = c.home := ⟨_, rfl⟩
 obtain ⟨verd, hverd⟩ : ∃ z, z = c.verd := ⟨_, rfl⟩
 dsimp only [cv] at KC ⊢
 rw [← hn] at lb HH HD D4 hW KC ⊢
 rw [← hkind] at HD D0 hW KC ⊢
 rw [← htxn] at HD D1 hW KC ⊢
 rw [← hhome] at HD D2 hW KC ⊢
 rw [← hverd] at HD D3 hW KC ⊢
 replace hn := hide hn
 replace hkind := hide hkind
 replace htxn := hide htxn
 replace hhome := hide hhome
 replace hverd := hide hverd
 obtain ⟨er, her⟩ : ∃ z, z = ccheck c := ⟨_, rfl⟩
 rw [← her] at KC
 replace her := hide her
 rw [hW] at D0 D1 D2 D3 D4 KC
 clear h bW D sW
 go_enter Try.func11, Try.ntmps11
 go_wp2_with fail
 refine KC.out.mono ?_
 rintro e w1 ⟨rfl, b1⟩
 rw [← hW] at b1
 replace hW := hide hW
 clear KC D0 D1 D2 D3 D4
 have B1 := hide (BW.out.trans (b1.mono BW.out.size))
 have HD1 := hide ((b1.block _ (lt_of_block HD.out)).trans HD.out)
 clear b1
 obtain ⟨⟨D0, D1, D2, D3, D4⟩, _⟩ := cells5c HD1.out
 by_cases he : er = 0
 rotate_left
 ·have hE : Hid (cenc c ver = ([], er)) := by
   show _ = _
   unfold cenc
   rw [if_pos (by rw [← her.out]; exact he), ← her.out]
  have he' : (er != 0) = true := by simpa using he
  replace he := hide he
  go_wp2
  go_ret2
  exact ⟨_, by rw [hE.out]; rfl, by rw [hE.out]; exact World.ownsRow_nil _ _ _ _, B1.out⟩
 have hc0 : Hid (ccheck c = 0) := her.out.symm.trans he
 have hok := hide (ccheck_ok.1 hc0.out)
 subst he
 have hver : Hid (cver c ver ↔ (ver = 1 ∨ ver = 2) ∧ (ver = 1 → kind ≠ 5 ∧ n ≤ 4)) := by show _ ↔ _; unfold cver; rw [hkind.out, hn.out]
 go_upto_region 4 with fail
 go_cut [16] from 17 to 37 (fun b wx => b = .bool (decide (¬ cver c ver)) ∧ w1 = wx)
 case first =>
  by_cases v1 : ver = 1
  ·have a1 : (ver != 1) = false := by simpa using v1
   have a1' : (ver == 1) = true := by simpa using v1
   by_cases k5 : kind = 5
   ·have a2 : (kind == 5) = true := by simpa using k5
    have hd : Hid (decide (¬ cver c ver) = true) := decide_eq_true (fun q => ((hver.out.1 q).2 v1).1 k5)
    replace v1 := hide v1
    replace k5 := hide k5
    go_wp2_with fail
    go_meet
    exact ⟨by rw [hd.out], rfl⟩
   ·have a2 : (kind == 5) = false := by simpa using k5
    by_cases n4 : (4 : Int) < (n : Int)
    ·have hd : Hid (decide (¬ cver c ver) = true) := decide_eq_true (fun q => by have := ((hver.out.1 q).2 v1).2; omega)
     replace v1 := hide v1
     replace k5 := hide k5
     go_wp2_with fail
     go_meet
     exact ⟨by rw [hd.out], rfl⟩
    ·have hd : Hid (decide (¬ cver c ver) = false) := decide_eq_false (fun q => q (hver.out.2 ⟨.inl v1, fun _ => ⟨k5, by omega⟩⟩))
     replace v1 := hide v1
     replace k5 := hide k5
     go_wp2_with fail
     go_meet
     exact ⟨by rw [hd.out], rfl⟩
  ·have a1 : (ver != 1) = true := by simpa using v1
   have a1' : (ver == 1) = false := by simpa using v1
   by_cases v2 : ver = 2
   ·have a2 : (ver != 2) = false := by simpa using v2
    have hd : Hid (decide (¬ cver c ver) = false) := decide_eq_false (fun q => q (hver.out.2 ⟨.inr v2, fun r => absurd r v1⟩))
    replace v1 := hide v1
    replace v2 := hide v2
    go_wp2_with fail
    go_meet
    exact ⟨by rw [hd.out], rfl⟩
   ·have a2 : (ver != 2) = true := by simpa using v2
    have hd : Hid (decide (¬ cver c ver) = true) := decide_eq_true (fun q => by rcases (hver.out.1 q).1 with r | r; exact v1 r; exact v2 r)
    replace v1 := hide v1
    replace v2 := hide v2
    go_wp2_with fail
    go_meet
    exact ⟨by rw [hd.out], rfl⟩
 case rest =>
 obtain ⟨rfl, rfl⟩ := hcut
 by_cases gv : cver c ver
 rotate_left
 ·have hE : Hid (cenc c ver = ([], 131)) := by
   show _ = _
   unfold cenc
   rw [if_neg (by rw [hc0.out]; simp), if_pos gv]
  rw [decide_eq_true (show ¬ cver c ver from gv)]
  replace gv := hide gv
  go_wp2
  go_ret2
  exact ⟨_, by rw [hE.out]; rfl, by rw [hE.out]; exact World.ownsRow_nil _ _ _ _, B1.out⟩
 rw [decide_eq_false (show ¬ ¬ cver c ver from fun k => k gv)]
 have hE := hide (cenc_yes hok.out gv)
 have hvv : ver = 1 ∨ ver = 2 := gv.1
 replace gv := hide gv
 have hkb : 1 ≤ kind ∧ kind ≤ 6 := by rw [hkind.out]; exact hok.out.kind
 obtain ⟨tN, htN, htB⟩ : ∃ t : Nat, txn = (t : Int) ∧ t ≤ 1099511627776 := by
  have := hok.out.txn
  unfold ctxn at this
  rw [← htxn.out] at this
  refine ⟨txn.toNat, ?_, ?_⟩ <;> split at this <;> omega
 have hhb : 0 ≤ home ∧ home < 4 := by rw [hhome.out]; exact hok.out.home
 have hvb : 0 ≤ verd := by
  have := hok.out.verd
  unfold cverd at this
  rw [← hverd.out] at this
  split at this <;> omega
 have hnb : n ≤ 16 := by rw [hn.out]; exact hok.out.len
 have w1' : IntKind.u8.wrap ver = (((b8 ver).toNat : Nat) : Int) := u8_b8 (by omega)
 have w2' : IntKind.u8.wrap kind = (((b8 kind).toNat : Nat) : Int) := u8_b8 (by omega)
 have w3' : IntKind.u8.wrap home = (((b8 home).toNat : Nat) : Int) := u8_b8 (by omega)
 have w4' : IntKind.u8.wrap verd = (((b8 verd).toNat : Nat) : Int) := u8_b8 (by omega)
 have w5' : IntKind.u8.wrap (n : Int) = (((b8 (n : Int)).toNat : Nat) : Int) := u8_b8 (by omega)
 have w6' : IntKind.u64.wrap (tN : Int) = (tN : Int) := by rw [IntKind.wrap_u64]; omega
 subst htN
 generalize hzv : b8 ver = zv at *
 generalize hzk : b8 kind = zk at *
 generalize hzh : b8 home = zh at *
 generalize hze : b8 verd = ze at *
 generalize hzn : b8 (n : Int) = zn at *
 obtain ⟨X, hX, DX, bX, sX⟩ := boxedN w1 #[.int .u8 (zv.toNat : Int), .int .u8 (zk.toNat : Int)] 5
 have OX : Hid (OwnB w1.heap.size X (.slice (some ⟨w1.heap.size, 0, none⟩) 2 2) [zv, zk]) := by rw [hX]; exact own_lit w1 [zv, zk] (by simp)
 have BX := hide bX
 have HDX := hide ((bX.block _ (lt_of_block HD1.out)).trans HD1.out)
 have hzz := hide (And.intro hzv (And.intro hzk (And.intro hzh (And.intro hze hzn))))
 clear DX bX sX hzv hzk hzh hze hzn
 obtain ⟨tx, htx⟩ : ∃ t, t = if ver = 1 then oc tN 8 else cgroups tN := ⟨_, rfl⟩
 have htl : Hid (tx.length ≤ 8) := by
  show _ ≤ _
  rw [htx]
  split
  ·rw [oc_length]; exact Nat.le_refl _
  ·have := cgroups_len 6 tN (by omega) (by omega); omega
 replace htx := hide htx
 go_upto_if 45 with fail
 rw [← hX]
 replace hX := hide hX
 clear D0 D1 D2 D3 D4
 obtain ⟨⟨D0, D1, D2, D3, D4⟩, _⟩ := cells5c HDX.out
 go_cut [7] from 44 to 56 (fun s wx => Hid (OwnB w1.heap.size wx s ([zv, zk] ++ tx) ∧ Below w1.heap.size w1 wx))
 case first =>
  rcases hvv with v1 | v2
  ·have a1 : (ver == 1) = true := by simpa using v1
   have hx : Hid (tx = oc tN 8) := by show _ = _; rw [htx.out, if_pos v1]
   have KO := hide (refOctets_any X tN 8 (by omega) (by omega))
   replace v1 := hide v1
   go_wp2_with fail
   refine KO.out.mono ?_
   rintro e w2 ⟨v2, rfl, o2, b2⟩
   rw [← hx.out] at o2
   have O2 := hide (OX.out.below (Nat.le_refl _) b2)
   have R2 := hide o2.rd
   obtain ⟨sa, sc, hs⟩ := o2.rd.slice
   obtain ⟨TL, hTL⟩ : ∃ L, L = tx.length := ⟨_, rfl⟩
   rw [← hTL] at hs
   subst hs
   have hB : Hid (w1.heap.size ≤ w2.heap.size) := Nat.le_trans BX.out.size b2.size
   have B2 := hide (BX.out.trans (b2.mono BX.out.size))
   replace hTL := hide hTL
   clear o2 b2 KO
   go_wp2_with (at_builtin; refine wpList_append_octs rfl _ _ rfl w1.heap.size _ _ [zv, zk] tx rfl rfl O2.out R2.out (by have := htl.out; simp; omega) hB.out ?_; intro v6 w6 o6 b6 _; have F : Hid (OwnB w1.heap.size w6 v6 ([zv, zk] ++ tx) ∧ Below w1.heap.size w1 w6) := ⟨o6, B2.out.trans b6⟩; clear o6 b6)
   go_meet
   exact F
  ·have a1 : (ver == 1) = false := by simp [v2]
   have hx : Hid (tx = cgroups tN) := by show _ = _; rw [htx.out, if_neg (by omega)]
   have KO := hide (rcgroups_any X tN htB)
   replace v2 := hide v2
   go_wp2_with fail
   refine KO.out.mono ?_
   rintro e w2 ⟨v2, rfl, o2, b2⟩
   rw [← hx.out] at o2
   have O2 := hide (OX.out.below (Nat.le_refl _) b2)
   have R2 := hide o2.rd
   obtain ⟨sa, sc, hs⟩ := o2.rd.slice
   obtain ⟨TL, hTL⟩ : ∃ L, L = tx.length := ⟨_, rfl⟩
   rw [← hTL] at hs
   subst hs
   have hB : Hid (w1.heap.size ≤ w2.heap.size) := Nat.le_trans BX.out.size b2.size
   have B2 := hide (BX.out.trans (b2.mono BX.out.size))
   replace hTL := hide hTL
   clear o2 b2 KO
   go_wp2_with (at_builtin; refine wpList_append_octs rfl _ _ rfl w1.heap.size _ _ [zv, zk] tx rfl rfl O2.out R2.out (by have := htl.out; simp; omega) hB.out ?_; intro v6 w6 o6 b6 _; have F : Hid (OwnB w1.heap.size w6 v6 ([zv, zk] ++ tx) ∧ Below w1.heap.size w1 w6) := ⟨o6, B2.out.trans b6⟩; clear o6 b6)
   go_meet
   exact F
 case rest =>
 clear D0 D1 D2 D3 D4
 have HDC := hide ((hcut.out.2.block _ (lt_of_block HD1.out)).trans HD1.out)
 obtain ⟨⟨D0, D1, D2, D3, D4⟩, _⟩ := cells5c HDC.out
 obtain ⟨ta, tc, hts⟩ := hcut.out.1.rd.slice
 obtain ⟨TL, hTL⟩ : ∃ L, L = ([zv, zk] ++ tx).length := ⟨_, rfl⟩
 have hTL10 : Hid (TL ≤ 10) := by show _ ≤ _; rw [hTL]; have := htl.out; simp; omega
 rw [← hTL] at hts
 subst hts
 replace hTL := hide hTL
 obtain ⟨Y, hY, DY, bY, sY⟩ := boxedN wc #[.int .u8 (zh.toNat : Int), .int .u8 (ze.toNat : Int), .int .u8 (zn.toNat : Int)] 5
 have OY := hide (rows_to hcut.out.1 bY)
 have RY := hide (rd_lit wc [zh, ze, zn] #[.int .u8 (zh.toNat : Int), .int .u8 (ze.toNat : Int), .int .u8 (zn.toNat : Int)] wc.heap.size 3 rfl rfl rfl (by simp))
 have BY := hide (hcut.out.2.trans (bY.mono hcut.out.2.size))
 rw [hY] at OY BY
 clear DY bY sY hY
 obtain ⟨H0, hH0⟩ : ∃ h, h = [zv, zk] ++ tx ++ [zh, ze, zn] := ⟨_, rfl⟩
 have hH13 : Hid (H0.length ≤ 13) := by show _ ≤ _; rw [hH0]; have := htl.out; simp; omega
 replace hH0 := hide hH0
 go_upto_region 11 with (at_builtin; refine wpList_append_octs rfl _ _ rfl w1.heap.size _ _ ([zv, zk] ++ tx) [zh, ze, zn] rfl rfl OY.out RY.out (by have := htl.out; simp; omega) BY.out.size ?_; intro v6 w6 o6 b6 _; rw [← hH0.out] at o6; have F : Hid (OwnB w1.heap.size w6 v6 (H0 ++ (c.ops.take 0).flatMap (opO ver)) ∧ Below w1.heap.size w1 w6) := ⟨by simpa using o6, BY.out.trans b6⟩; clear o6 b6)
 go_wp2
 clear D0 D1 D2 D3 D4
 go_loopw [7, 8] (fun s p wr => ∃ (k : Nat) (v9 : Value), v9 = s ∧ k ≤ n ∧ p = .int .i64 k ∧ Hid (OwnB w1.heap.size wr v9 (H0 ++ (c.ops.take k).flatMap (opO ver)) ∧ Below w1.heap.size w1 wr)) (fun _ p _ => n - (intOf p).toNat)
 case atStart => exact ⟨0, _, rfl, Nat.zero_le _, rfl, F⟩
 case round =>
  obtain ⟨k, v9, rfl, hk, rfl, hI⟩ := hrel
  have HDR := hide ((hI.out.2.block _ (lt_of_block HD1.out)).trans HD1.out)
  obtain ⟨⟨D0, D1, D2, D3, D4⟩, _⟩ := cells5c HDR.out
  obtain ⟨PB, hPB⟩ : ∃ l, l = H0 ++ (c.ops.take k).flatMap (opO ver) := ⟨_, rfl⟩
  have hPl : Hid (PB.length ≤ 1613) := by
   show _ ≤ _
   rw [hPB, List.length_append]
   have h1 := ops_bd (v := ver) (l := c.ops.take k) fun o ho => ⟨hok.out.keys o (List.mem_of_mem_take ho), hok.out.vals o (List.mem_of_mem_take ho)⟩
   have h2 := hH13.out
   rw [List.length_take] at h1
   omega
  have hO : Hid (OwnB w1.heap.size wr v9 PB) := by rw [hPB]; exact hI.out.1
  obtain ⟨ta, tc, hts⟩ := hO.out.rd.slice
  obtain ⟨PL, hPL⟩ : ∃ L, L = PB.length := ⟨_, rfl⟩
  rw [← hPL] at hts
  subst hts
  replace hPL := hide hPL
  replace hPB := hide hPB
  by_cases hlt : k < n
  ·have hq : (k : Int) < (n : Int) := by omega
   obtain ⟨y, hy⟩ := some_el c.ops (k := k) (by rw [← hn.out]; exact hlt)
   have Br := B1.out.trans (hI.out.2.mono B1.out.size)
   obtain ⟨b, off, rfl, c1, c2, c3⟩ := HH.out.op hy
   replace c1 := (Br.cell (cell_lt c1)).trans c1
   replace c2 := (Br.cell (cell_lt c2)).trans c2
   replace c3 := (Br.cell (cell_lt c3)).trans c3
   have hmem := List.mem_of_getElem? hy
   have hok1 := hok.out.okind y hmem
   have hok2 := hok.out.keys y hmem
   have hok3 := hok.out.vals y hmem
   have hnext : Hid (H0 ++ (c.ops.take (k + 1)).flatMap (opO ver) = PB ++ opO ver y) := by
    show _ = _
    rw [hPB.out, List.take_add_one, hy, List.flatMap_append, List.append_assoc]
    simp
   obtain ⟨yk, key, val⟩ := y
   unfold okind at hok1
   unfold okey at hok2
   unfold oval at hok3
   dsimp only at hok1 hok2 hok3 c1 c2 c3
   obtain ⟨KL, hKL⟩ : ∃ L, L = key.length := ⟨_, rfl⟩
   obtain ⟨VL, hVL⟩ : ∃ L, L = val.length := ⟨_, rfl⟩
   have hKb : KL ≤ 32 := by omega
   have hVb : VL ≤ 64 := by omega
   have u1 : IntKind.u8.wrap yk = (((b8 yk).toNat : Nat) : Int) := u8_b8 (by omega)
   have u2 : IntKind.u8.wrap (key.length : Int) = (((b8 (key.length : Int)).toNat : Nat) : Int) := u8_b8 (by omega)
   have u3 : IntKind.u8.wrap (val.length : Int) = (((b8 (val.length : Int)).toNat : Nat) : Int) := u8_b8 (by omega)
   have hop : Hid (opO ver (yk, (key, val)) = [b8 yk, b8 (key.length : Int)] ++ (if ver = 1 then key ++ [0, b8 (val.length : Int)] else b8 (val.length : Int) :: key) ++ val) := rfl
   generalize hz1 : b8 yk = z1 at *
   generalize hz2 : b8 (key.length : Int) = z2 at *
   generalize hz3 : b8 (val.length : Int) = z3 at *
   obtain ⟨Y, hY, DY, bY, sY⟩ := boxedN wr #[.int .i64 yk, st key, st val] 48
   obtain ⟨⟨Y0, Y1, Y2⟩, _⟩ : (Y.cell? ⟨wr.heap.size, 0, none⟩ = some (.int .i64 yk) ∧ Y.cell? ⟨wr.heap.size, 1, none⟩ = some (st key) ∧ Y.cell? ⟨wr.heap.size, 2, none⟩ = some (st val)) ∧ True := ⟨⟨by rw [cell_of_row _ _ 0 _ _ (0, 0) DY]; rfl, by rw [cell_of_row _ _ 1 _ _ (0, 0) DY]; rfl, by rw [cell_of_row _ _ 2 _ _ (0, 0) DY]; rfl⟩, trivial⟩
   have OY := hide (rows_to hO.out bY)
   have BYb := hide (hI.out.2.trans (bY.mono hI.out.2.size))
   obtain ⟨Z, hZ, DZ, bZ, sZ⟩ := boxedN Y #[.int .u8 (z1.toNat : Int), .int .u8 (z2.toNat : Int)] 5
   have OZ := hide (rows_to OY.out bZ)
   have RZ := hide (rd_lit Y [z1, z2] #[.int .u8 (z1.toNat : Int), .int .u8 (z2.toNat : Int)] (wr.heap.size + 1) 2 rfl sY.symm rfl (by simp))
   have BZ := hide (BYb.out.trans (bZ.mono BYb.out.size))
   have HZ := hide ((bZ.block _ (lt_of_block DY)).trans DY)
   have hyz := hide (And.intro hz1 (And.intro hz2 hz3))
   rw [hZ, hY] at OZ BZ HZ
   rw [hY] at RZ Y0 Y1 Y2
   clear hz1 hz2 hz3 DY bY sY DZ bZ sZ hZ hY OY BYb hmem hok1 hok2 hok3 Br D0 D1 D2 D3
   replace hKL := hide hKL
   replace hVL := hide hVL
   go_upto_region 16 with (at_builtin; refine wpList_append_octs rfl _ _ rfl w1.heap.size _ _ PB [z1, z2] rfl rfl OZ.out RZ.out (by have := hPl.out; simp; omega) BZ.out.size ?_; intro v6 w6 o6 b6 g6; have H6 : Hid (OwnB w1.heap.size w6 v6 (PB ++ [z1, z2]) ∧ Below w1.heap.size w1 w6 ∧ w6.heap[wr.heap.size]? = some (.cells #[.int .i64 yk, st key, st val] 48 (0, 0))) := ⟨o6, BZ.out.trans b6, KeepT.grown OZ.out g6 (by decide) _ _ _ HZ.out⟩; clear o6 b6 g6)
   clear Y0 Y1 Y2 OZ RZ BZ HZ
   obtain ⟨MID, hMID⟩ : ∃ m, m = if ver = 1 then key ++ [0, z3] else z3 :: key := ⟨_, rfl⟩
   have hMl : Hid (MID.length ≤ 34) := by
    show _ ≤ _
    rw [hMID]
    have := hKL.out
    split <;> simp <;> omega
   replace hMID := hide hMID
   obtain ⟨P2, hP2⟩ : ∃ m, m = PB ++ [z1, z2] := ⟨_, rfl⟩
   rw [← hP2] at H6
   have hP2l : Hid (P2.length ≤ 1615) := by show _ ≤ _; rw [hP2]; have := hPl.out; simp; omega
   replace hP2 := hide hP2
   obtain ⟨ta6, tc6, hts6⟩ := H6.out.1.rd.slice
   obtain ⟨L6, hL6⟩ : ∃ L, L = P2.length := ⟨_, rfl⟩
   rw [← hL6] at hts6
   subst hts6
   replace hL6 := hide hL6
   have Y0 : w6.cell? ⟨wr.heap.size, 0, none⟩ = some (.int .i64 yk) := by rw [cell_of_row _ _ 0 _ _ (0, 0) H6.out.2.2]; rfl
   have Y1 : w6.cell? ⟨wr.heap.size, 1, none⟩ = some (st key) := by rw [cell_of_row _ _ 1 _ _ (0, 0) H6.out.2.2]; rfl
   have Y2 : w6.cell? ⟨wr.heap.size, 2, none⟩ = some (st val) := by rw [cell_of_row _ _ 2 _ _ (0, 0) H6.out.2.2]; rfl
   have hs6 : Hid (w1.heap.size ≤ w6.heap.size) := H6.out.2.1.size
   go_upto_if 93 with fail
   go_cut [7] from 70 to 119 (fun s wx => Hid (OwnB w1.heap.size wx s (P2 ++ MID) ∧ Below w1.heap.size w1 wx ∧ wx.heap[wr.heap.size]? = some (.cells #[.int .i64 yk, st key, st val] 48 (0, 0))))
   case first =>
    by_cases v1 : ver = 1
    ·have a1 : (ver == 1) = true := by simpa using v1
     have hx : Hid (MID = key ++ [0, z3]) := by show _ = _; rw [hMID.out, if_pos v1]
     replace v1 := hide v1
     go_upto_region 18 with (at_builtin; refine wpList_append_st rfl _ _ rfl w1.heap.size _ P2 key rfl rfl H6.out.1 (by have := hP2l.out; have := hKL.out; omega) hs6.out ?_; intro v7 w7 o7 b7 g7; have H7 : Hid (OwnB w1.heap.size w7 v7 (P2 ++ key) ∧ Below w1.heap.size w1 w7 ∧ w7.heap[wr.heap.size]? = some (.cells #[.int .i64 yk, st key, st val] 48 (0, 0))) := ⟨o7, H6.out.2.1.trans b7, KeepT.grown H6.out.1 g7 (by decide) _ _ _ H6.out.2.2⟩; clear o7 b7 g7)
     clear Y0 Y1 Y2
     obtain ⟨ta7, tc7, hts7⟩ := H7.out.1.rd.slice
     obtain ⟨L7, hL7⟩ : ∃ L, L = (P2 ++ key).length := ⟨_, rfl⟩
     have hl7 : Hid ((P2 ++ key).length ≤ 1650) := by show _ ≤ _; rw [List.length_append]; have := hP2l.out; have := hKL.out; omega
     rw [← hL7] at hts7
     subst hts7
     replace hL7 := hide hL7
     have Y2 : w7.cell? ⟨wr.heap.size, 2, none⟩ = some (st val) := by rw [cell_of_row _ _ 2 _ _ (0, 0) H7.out.2.2]; rfl
     obtain ⟨Z, hZ, DZ, bZ, sZ⟩ := boxedN w7 #[.int .u8 0, .int .u8 (z3.toNat : Int)] 5
     have OZ := hide (rows_to H7.out.1 bZ)
     have RZ := hide (rd_lit w7 [0, z3] #[.int .u8 0, .int .u8 (z3.toNat : Int)] w7.heap.size 2 rfl rfl rfl (by simp))
     have BZ := hide (H7.out.2.1.trans (bZ.mono H7.out.2.1.size))
     have HZ := hide ((bZ.block _ (lt_of_block H7.out.2.2)).trans H7.out.2.2)
     rw [hZ] at OZ BZ HZ
     clear DZ bZ sZ hZ
     go_wp2_with (at_builtin; refine wpList_append_octs rfl _ _ rfl w1.heap.size _ _ (P2 ++ key) [0, z3] rfl rfl OZ.out RZ.out (by have := hl7.out; rw [show ([0, z3] : List UInt8).length = 2 from rfl]; omega) BZ.out.size ?_; intro v8 w8 o8 b8' g8; have F8 : Hid (OwnB w1.heap.size w8 v8 (P2 ++ MID) ∧ Below w1.heap.size w1 w8 ∧ w8.heap[wr.heap.size]? = some (.cells #[.int .i64 yk, st key, st val] 48 (0, 0))) := ⟨by rw [hx.out, ← List.append_assoc]; exact o8, BZ.out.trans b8', KeepT.grown OZ.out g8 (by decide) _ _ _ HZ.out⟩; clear o8 b8' g8)
     go_meet
     exact F8
    ·have a1 : (ver == 1) = false := by simpa using v1
     have hx : Hid (MID = z3 :: key) := by show _ = _; rw [hMID.out, if_neg v1]
     replace v1 := hide v1
     obtain ⟨Z, hZ, DZ, bZ, sZ⟩ := boxedN w6 #[.int .u8 (z3.toNat : Int)] 5
     have OZ := hide (rows_to H6.out.1 bZ)
     have RZ := hide (rd_lit w6 [z3] #[.int .u8 (z3.toNat : Int)] w6.heap.size 1 rfl rfl rfl (by simp))
     have BZ := hide (H6.out.2.1.trans (bZ.mono H6.out.2.1.size))
     have HZ := hide ((bZ.block _ (lt_of_block H6.out.2.2)).trans H6.out.2.2)
     rw [hZ] at OZ BZ HZ
     clear DZ bZ sZ hZ
     go_upto_region 20 with (at_builtin; refine wpList_append_octs rfl _ _ rfl w1.heap.size _ _ P2 [z3] rfl rfl OZ.out RZ.out (by have := hP2l.out; simp; omega) BZ.out.size ?_; intro v7 w7 o7 b7 g7; have H7 : Hid (OwnB w1.heap.size w7 v7 (P2 ++ [z3]) ∧ Below w1.heap.size w1 w7 ∧ w7.heap[wr.heap.size]? = some (.cells #[.int .i64 yk, st key, st val] 48 (0, 0))) := ⟨o7, BZ.out.trans b7, KeepT.grown OZ.out g7 (by decide) _ _ _ HZ.out⟩; clear o7 b7 g7)
     clear Y0 Y1 Y2 OZ RZ BZ HZ
     obtain ⟨ta7, tc7, hts7⟩ := H7.out.1.rd.slice
     obtain ⟨L7, hL7⟩ : ∃ L, L = (P2 ++ [z3]).length := ⟨_, rfl⟩
     have hl7 : Hid ((P2 ++ [z3]).length ≤ 1620) := by show _ ≤ _; rw [List.length_append, List.length_singleton]; have := hP2l.out; omega
     rw [← hL7] at hts7
     subst hts7
     replace hL7 := hide hL7
     have Y1 : w7.cell? ⟨wr.heap.size, 1, none⟩ = some (st key) := by rw [cell_of_row _ _ 1 _ _ (0, 0) H7.out.2.2]; rfl
     have hs7 : Hid (w1.heap.size ≤ w7.heap.size) := H7.out.2.1.size
     go_wp2_with (at_builtin; refine wpList_append_st rfl _ _ rfl w1.heap.size _ (P2 ++ [z3]) key rfl rfl H7.out.1 (by have := hl7.out; have := hKL.out; omega) hs7.out ?_; intro v8 w8 o8 b8' g8; have F8 : Hid (OwnB w1.heap.size w8 v8 (P2 ++ MID) ∧ Below w1.heap.size w1 w8 ∧ w8.heap[wr.heap.size]? = some (.cells #[.int .i64 yk, st key, st val] 48 (0, 0))) := ⟨by rw [hx.out]; rw [List.append_assoc, List.singleton_append] at o8; exact o8, H7.out.2.1.trans b8', KeepT.grown H7.out.1 g8 (by decide) _ _ _ H7.out.2.2⟩; clear o8 b8' g8)
     go_meet
     exact F8
   case rest =>
   clear Y0 Y1 Y2
   obtain ⟨ta9, tc9, hts9⟩ := hcut.out.1.rd.slice
   obtain ⟨L9, hL9⟩ : ∃ L, L = (P2 ++ MID).length := ⟨_, rfl⟩
   have hl9 : Hid ((P2 ++ MID).length ≤ 1650) := by show _ ≤ _; rw [List.length_append]; have := hP2l.out; have := hMl.out; omega
   rw [← hL9] at hts9
   subst hts9
   replace hL9 := hide hL9
   have Y2 : wc.cell? ⟨wr.heap.size, 2, none⟩ = some (st val) := by rw [cell_of_row _ _ 2 _ _ (0, 0) hcut.out.2.2]; rfl
   have hs9 : Hid (w1.heap.size ≤ wc.heap.size) := hcut.out.2.1.size
   have hfin : Hid (P2 ++ MID ++ val = H0 ++ (c.ops.take (k + 1)).flatMap (opO ver)) := by show _ = _; rw [hnext.out, hop.out, hP2.out, hMID.out]; simp only [List.append_assoc]
   go_wp2_with (at_builtin; refine wpList_append_st rfl _ _ rfl w1.heap.size _ (P2 ++ MID) val rfl rfl hcut.out.1 (by have := hl9.out; have := hVL.out; omega) hs9.out ?_; intro v8 w8 o8 b8' g8; have F8 : Hid (OwnB w1.heap.size w8 v8 (H0 ++ (c.ops.take (k + 1)).flatMap (opO ver)) ∧ Below w1.heap.size w1 w8) := ⟨by rw [← hfin.out]; exact o8, hcut.out.2.1.trans b8'⟩; clear o8 b8' g8)
   go_roundw
   case rel => exact ⟨k + 1, _, rfl, by omega, by go_num, F8⟩
   case measure => simp [intOf]; omega
  ·have hq : ¬ (k : Int) < (n : Int) := by omega
   have hEnd : Hid (PB = cencO c ver) := by
    show _ = _
    have hkn : k = n := by omega
    rw [hPB.out, List.take_of_length_le (by rw [← hn.out]; omega), hH0.out, htx.out]
    obtain ⟨z1, z2, z3, z4, z5⟩ := hzz.out
    unfold cencO
    rw [← z1, ← z2, ← z3, ← z4, ← z5, ← hkind.out, ← htxn.out, ← hhome.out, ← hverd.out, ← hn.out, Int.toNat_natCast]
   have FIN : Hid (OwnB w.heap.size wr (.slice ta PL tc) (cencO c ver) ∧ Below w.heap.size w wr) := ⟨by rw [← hEnd.out]; exact hO.out.mono B1.out.size, B1.out.trans (hI.out.2.mono B1.out.size)⟩
   go_wp2
   go_ret2
   exact ⟨_, by rw [hE.out]; rfl, by rw [hE.out]; exact FIN.out.1, FIN.out.2⟩
end Go.Proofs.Ytdjjegaodgocmaa

namespace Go.Proofs.Ytdjjegaodgocmaa
open Go.RowKit
theorem oc_one {n : Nat} : oc n 1 = [UInt8.ofNat n] := by
 simp [oc, ob]
theorem oc_two {n : Nat} (h : n < 256) : oc n 2 = [0, UInt8.ofNat n] := by
 have : n / 256 = 0 := Nat.div_eq_of_lt h
 simp [oc, ob, List.range, List.range.loop, this]
def AppR (B : Nat) (w : World) (xs : List UInt8) (e : Ending) (w' : World) : Prop := ∃ v, e = .returned v ∧ OwnB B w' v xs ∧ Below B w w'
def AppK (B : Nat) (w : World) (v0 : Value) (xs : List UInt8) (e : Ending) (w' : World) : Prop := ∃ v, e = .returned v ∧ OwnB B w' v xs ∧ Below B w w' ∧ ∀ b, b < w.heap.size → some b ≠ v0.ownBlock → w'.heap[b]? = w.heap[b]?
theorem own_ne {B : Nat} {w : World} {v : Value} {xs : List UInt8} (h : OwnB B w v xs) {g : Nat} {cs : Array Value} {T : TypeId} {fr : Nat × Nat} (hg : w.heap[g]? = some (.cells cs T fr)) (hT : T ≠ 5) : some g ≠ v.ownBlock := by
 intro e
 obtain ⟨k, cap, cur, hv, hB, hk, hr⟩ : ∃ k cap cur, v = .slice (some ⟨k, 0, none⟩) xs.length cap ∧ B ≤ k ∧ w.heap[k]? = some (.cells cur 5 (0, 0)) ∧ True := by
  rcases h.2 with h2 | ⟨k, cap, cur, hv, hB, hk, hr⟩
  ·rw [h2.1] at e; cases e
  ·exact ⟨k, cap, cur, hv, hB, hk, trivial⟩
 rw [hv] at e
 have : g = k := by injection e
 subst this
 rw [hk] at hg
 injection hg with hg
 injection hg with _ q _
 exact hT q.symm
set_option maxRecDepth 100000 in
set_option maxHeartbeats 1000000 in
theorem appnum_any (w : World) (B : Nat) (v : Value) (xs : List UInt8) (n s : Nat) (ho : OwnB B w v xs) (hB : B ≤ w.heap.size) (hl : xs.length ≤ 1000000) (h1 : 1 ≤ s) (h8 : s ≤ 8) (hn : n < 2 ^ (8 * s)) (h62 : n ≤ 4611686018427387904) :
  Calls Try.prog 22 #[v, .int .i64 (n : Int), .int .i64 (s : Int)] w fun e w' => AppK B w v (xs ++ oc n s) e w' := by
 have KP := hide (put_yes n s w h1 h8 hn (by omega))
 have hw : IntKind.u64.wrap (n : Int) = (n : Int) := by rw [IntKind.wrap_u64]; omega
 obtain ⟨va, vc, rfl⟩ := ho.rd.slice
 have HO := hide ho
 obtain ⟨oB, hoB⟩ : ∃ oB, oB = (Value.slice va xs.length vc).ownBlock := ⟨_, rfl⟩
 obtain ⟨L, hL⟩ : ∃ L, L = xs.length := ⟨_, rfl⟩
 rw [← hL] at HO hl hoB ⊢
 replace hL := hide hL
 replace hoB := hide hoB
 have ocl : Hid ((oc n s).length ≤ 8) := by show _ ≤ _; rw [oc_length]; exact h8
 generalize oc n s = ys at *
 clear ho
 go_enter Try.func22, Try.ntmps22
 go_wp2_with fail
 refine KP.out.mono ?_
 rintro e w2 ⟨v2, rfl, o2, b2⟩
 clear KP
 have O2 := hide (rows_to HO.out b2)
 have R2 := hide o2.rd
 obtain ⟨sa, sc, hs⟩ := o2.rd.slice
 obtain ⟨TL, hTL⟩ : ∃ L, L = ys.length := ⟨_, rfl⟩
 rw [← hTL] at hs
 subst hs
 have hBq : Hid (B ≤ w2.heap.size) := Nat.le_trans hB b2.size
 have B2 := hide (b2.mono hB)
 have C2 := hide b2
 replace hTL := hide hTL
 clear o2 b2
 go_wp2_with (at_builtin; refine wpList_append_octs rfl _ _ rfl B _ _ xs ys rfl rfl O2.out R2.out (by have := ocl.out; rw [← hL.out]; omega) hBq.out ?_; intro v6 w6 o6 b6 g6; have F : Hid (OwnB B w6 v6 (xs ++ ys) ∧ Below B w w6 ∧ ∀ b, b < w.heap.size → some b ≠ oB → w6.heap[b]? = w.heap[b]?) := ⟨o6, B2.out.trans b6, fun b hb hne => (g6.block b (Nat.lt_of_lt_of_le hb C2.out.size) (by rw [hoB.out] at hne; exact hne)).trans (C2.out.block b hb)⟩; clear o6 b6 g6)
 go_ret
 exact ⟨_, rfl, F.out.1, F.out.2.1, fun b hb hne => F.out.2.2 b hb (by rw [hoB.out]; exact hne)⟩
theorem u8_or128 (y : Nat) (h : y < 128) : bits .or .u8 (y : Int) 128 = ((y + 128 : Nat) : Int) := by
 have key : (BitVec.ofInt 8 (y : Int) ||| BitVec.ofInt 8 128).toNat = y + 128 := by
  rw [BitVec.toNat_or, show (BitVec.ofInt 8 (128 : Int)).toNat = 128 by decide, BitVec.ofInt_natCast, BitVec.toNat_ofNat, Nat.mod_eq_of_lt (by omega)]
  have := Nat.two_pow_add_eq_or_of_lt (i := 7) (b := y) (by omega) 1
  simp only [Nat.mul_one] at this
  rw [Nat.or_comm, show (128 : Nat) = 2 ^ 7 from rfl, ← this, Nat.add_comm]
 show IntKind.u8.wrap ((BitVec.ofInt 8 (y : Int) ||| BitVec.ofInt 8 128).toNat : Nat) = _
 rw [key, IntKind.wrap_u8']
 omega
theorem wp_scope_head {P : Program} {a : Act} {w : World} {Q : Exit → Act → World → Prop} {rest : Code} (l : Nat) (J : Act → World → Prop) (μ : Act → World → Nat) (h0 : J a w)
  (pass : ∀ a w, J a w → rest.wp P (Exit.jump l (fun a' w' => J a' w' ∧ μ a' w' < μ a w) Q) a w) : (Code.scope ((Code.label l).seq rest)).wp P Q a w := by
 refine wp_scope_jumps (rest := Code.skip.seq rest) l J μ (by simp [findLabel]) (wp_seq (wp_label ?_)) (fun a w h => wp_seq (wp_skip (pass a w h)))
 refine wp_mono (pass a w h0) ?_
 intro e a' w' h
 cases e with
 | goto l' => exact ⟨h.1, h.2.1⟩
 | _ => exact h
def GrpJ (B : Nat) (w : World) (zs : List UInt8) (n : Nat) (a : Act) (wr : World) : Prop :=
 ∃ (m : Nat) (bs : List UInt8) (v u2 u3 u5 u6 u7 u8 u9 u10 u11 u12 u13 u14 u15 u16 u17 u18 u19 u20 : Value), a = { tmps := #[v, .int .i64 (m : Int), u2, u3, .slice none 0 0, u5, u6, u7, u8, u9, u10, u11, u12, u13, u14, u15, u16, u17, u18, u19, u20], defers := [] } ∧ m ≤ n ∧ Hid (OwnB B wr v bs ∧ Below B w wr ∧ bs ++ cgroups m = zs ∧ bs.length + m ≤ 1000000 + n)
set_option maxRecDepth 100000 in
set_option maxHeartbeats 4000000 in
theorem appgrp_any (w : World) (B : Nat) (v : Value) (xs : List UInt8) (n : Nat) (ho : OwnB B w v xs) (hB : B ≤ w.heap.size) (hl : xs.length ≤ 1000000) (hn : n ≤ 1099511627776) :
  Calls Try.prog 23 #[v, .int .i64 (n : Int)] w fun e w' => AppR B w (xs ++ cgroups n) e w' := by
 obtain ⟨zs, hz⟩ : ∃ zs, zs = xs ++ cgroups n := ⟨_, rfl⟩
 have H0 : Hid (OwnB B w v xs ∧ Below B w w ∧ xs ++ cgroups n = zs ∧ xs.length + n ≤ 1000000 + n) := ⟨ho, Below.refl _ _, hz.symm, by omega⟩
 rw [← hz]
 clear ho hl hz
 go_enter Try.func23, Try.ntmps23
 go_wp2
 refine wp_scope_head 0 (GrpJ B w zs n) (fun a' _ => (intOf (a'.tmps.getD 1 undef)).toNat) ⟨n, xs, _, _, _, _, _, _, _, _, _, _, _, _, _, _, _, _, _, _, _, rfl, Nat.le_refl _, H0⟩ ?_
 rintro a' wr ⟨m, bs, v, u2, u3, u5, u6, u7, u8, u9, u10, u11, u12, u13, u14, u15, u16, u17, u18, u19, u20, rfl, hm, hI⟩
 obtain ⟨av, cap, hv⟩ := hI.out.1.rd.slice
 obtain ⟨BL, hBL⟩ : ∃ L, L = bs.length := ⟨_, rfl⟩
 have hbl : BL + m ≤ 1000000 + n := by rw [hBL]; exact hI.out.2.2.2
 rw [← hBL] at hv
 replace hBL := hide hBL
 subst hv
 have hwr : Hid (B ≤ wr.heap.size) := Nat.le_trans hB hI.out.2.1.size
 by_cases hb : (m : Int) < 128
 ·obtain ⟨z, hz⟩ : ∃ z, z = UInt8.ofNat m := ⟨_, rfl⟩
  have g3 : IntKind.u8.wrap (m : Int) = ((z.toNat : Nat) : Int) := by rw [hz]; exact u8_is _
  have hgr : Hid (cgroups m = [z]) := by show _ = _; rw [cgroups_small (by omega), hz]
  obtain ⟨X, hX, DX, bX, sX⟩ := boxedN wr #[.int .u8 (z.toNat : Int)] 5
  have O := hide (rows_to hI.out.1 bX)
  have R := hide (rd_lit wr [z] #[.int .u8 (z.toNat : Int)] wr.heap.size 1 rfl rfl rfl (by simp))
  have BX := hide (hI.out.2.1.trans (bX.mono hwr.out))
  have SX : Hid (B ≤ X.heap.size) := Nat.le_trans hB BX.out.size
  rw [hX] at O BX SX
  clear DX bX sX hX hz
  go_wp2_with (at_builtin; refine wpList_append_octs rfl _ _ rfl B _ _ bs [z] rfl rfl O.out R.out (by rw [← hBL.out]; simp; omega) SX.out ?_; intro v6 w6 o6 b6 _; have F : Hid (OwnB B w6 v6 zs ∧ Below B w w6) := ⟨by rw [← hI.out.2.2.1, hgr.out]; exact o6, BX.out.trans b6⟩; clear o6 b6)
  simp only [Exit.jump]
  go_ret
  exact ⟨_, rfl, F.out.1, F.out.2⟩
 ·obtain ⟨q, hq⟩ : ∃ q, q = m % 128 := ⟨_, rfl⟩
  obtain ⟨z, hz⟩ : ∃ z, z = UInt8.ofNat (q + 128) := ⟨_, rfl⟩
  obtain ⟨d, hd⟩ : ∃ d, d = m / 128 := ⟨_, rfl⟩
  have g0 : (m : Int).tmod 128 = (q : Int) := by rw [Int.tmod_eq_emod_of_nonneg (by omega)]; omega
  have g1 : IntKind.u8.wrap (q : Int) = (q : Int) := by rw [IntKind.wrap_u8']; omega
  have g2 : bits .or .u8 (q : Int) 128 = ((z.toNat : Nat) : Int) := by rw [u8_or128 q (by omega), hz, ← u8_is, IntKind.wrap_u8']; omega
  have hgr : Hid (cgroups m = z :: cgroups d) := by show _ = _; rw [cgroups_big (by omega), ← hq, ← hd, hz]
  have hdm : d < m := by omega
  have hdi : (m : Int) / 128 = (d : Int) := by omega
  obtain ⟨X, hX, DX, bX, sX⟩ := boxedN wr #[.int .u8 (z.toNat : Int)] 5
  have O := hide (rows_to hI.out.1 bX)
  have R := hide (rd_lit wr [z] #[.int .u8 (z.toNat : Int)] wr.heap.size 1 rfl rfl rfl (by simp))
  have BX := hide (hI.out.2.1.trans (bX.mono hwr.out))
  have SX : Hid (B ≤ X.heap.size) := Nat.le_trans hB BX.out.size
  rw [hX] at O BX SX
  have hq9 := hide (And.intro hq hz)
  replace hd := hide hd
  clear DX bX sX hX hq hz
  go_wp2_with (at_builtin; refine wpList_append_octs rfl _ _ rfl B _ _ bs [z] rfl rfl O.out R.out (by rw [← hBL.out]; simp; omega) SX.out ?_; intro v6 w6 o6 b6 _; have F : Hid (OwnB B w6 v6 (bs ++ [z]) ∧ Below B w w6 ∧ (bs ++ [z]) ++ cgroups d = zs ∧ (bs ++ [z]).length + d ≤ 1000000 + n) := ⟨o6, BX.out.trans b6, by rw [List.append_assoc, List.singleton_append, ← hgr.out]; exact hI.out.2.2.1, by have := hBL.out; simp; omega⟩; clear o6 b6)
  go_step3
  refine ⟨rfl, ⟨d, _, _, _, _, _, _, _, _, _, _, _, _, _, _, _, _, _, _, _, _, rfl, by omega, F⟩, ?_⟩
  simp [intOf]; omega
end Go.Proofs.Ytdjjegaodgocmaa

namespace Go.Proofs.Ytdjjegaodgocmaa
open Go.RowKit
set_option maxRecDepth 100000 in
set_option maxHeartbeats 4000000 in
theorem appop_any (w : World) (B : Nat) (v : Value) (xs : List UInt8) (o : Op3) (ver : Int) (ho : OwnB B w v xs) (hB : B ≤ w.heap.size) (hl : xs.length ≤ 100000) (k1 : okind o) (k2 : okey o) (k3 : oval o) :
  Calls Try.prog 24 #[v, opv o, .int .i64 ver] w fun e w' => AppR B w (xs ++ opO ver o) e w' := by
 obtain ⟨k, key, val⟩ := o
 unfold okind at k1
 unfold okey at k2
 unfold oval at k3
 dsimp only [opv] at k1 k2 k3 ⊢
 obtain ⟨kN, rfl⟩ : ∃ m : Nat, k = (m : Int) := ⟨k.toNat, by omega⟩
 obtain ⟨X, hX, DX, bX, sX⟩ := boxedN w #[.int .i64 (kN : Int), st key, st val] 48
 obtain ⟨⟨X0, X1, X2⟩, _⟩ := cells3q DX
 have K3 := hide k3
 have hkl : key.length ≤ 32 := k2.2
 have hvl : val.length ≤ 64 := k3.1
 have o1 : OwnB B X v xs := rows_to ho bX
 have KA := hide (appnum_any X B v xs kN 1 o1 (Nat.le_trans hB bX.size) (by omega) (by decide) (by decide) (by omega) (by omega))
 have hne := hide (own_ne o1 DX (by decide))
 have HD := hide DX
 have BX := hide (bX.mono hB)
 have SX : Hid (B ≤ X.heap.size) := Nat.le_trans hB bX.size
 have LX : Hid (w.heap.size < X.heap.size) := by show _ < _; omega
 have LXs : Hid (xs.length ≤ 100000) := hl
 obtain ⟨KL, hKL⟩ : ∃ L, L = key.length := ⟨_, rfl⟩
 obtain ⟨VL, hVL⟩ : ∃ L, L = val.length := ⟨_, rfl⟩
 have hE : Hid (xs ++ opO ver ((kN : Int), (key, val)) = if ver = 1 then (((((xs ++ oc kN 1) ++ oc KL 1) ++ key) ++ oc VL 2) ++ val) else (((((xs ++ oc kN 1) ++ oc KL 1) ++ oc VL 1) ++ key) ++ val)) := by
  show _ = _
  have q2 : oc VL 2 = [0, UInt8.ofNat VL] := oc_two (by omega)
  unfold opO
  rw [q2, oc_one, oc_one, oc_one]
  dsimp only
  rw [show b8 ((kN : Nat) : Int) = UInt8.ofNat kN by unfold b8; rw [Int.toNat_natCast], show b8 ((key.length : Nat) : Int) = UInt8.ofNat KL by unfold b8; rw [Int.toNat_natCast, hKL], show b8 ((val.length : Nat) : Int) = UInt8.ofNat VL by unfold b8; rw [Int.toNat_natCast, hVL]]
  by_cases q : ver = 1
  ·rw [if_pos q, if_pos q]; simp
  ·rw [if_neg q, if_neg q]; simp
 obtain ⟨zs, hz⟩ : ∃ zs, zs = xs ++ opO ver ((kN : Int), (key, val)) := ⟨_, rfl⟩
 rw [← hz] at hE ⊢
 have HE1 : Hid (ver = 1 → (((((xs ++ oc kN 1) ++ oc KL 1) ++ key) ++ oc VL 2) ++ val) = zs) := fun q => by rw [hE.out, if_pos q]
 have HE2 : Hid (¬ ver = 1 → (((((xs ++ oc kN 1) ++ oc KL 1) ++ oc VL 1) ++ key) ++ val) = zs) := fun q => by rw [hE.out, if_neg q]
 clear hz
 rw [← hKL] at hkl
 rw [← hVL] at hvl
 have HKL := hide hKL
 have HVL := hide hVL
 rw [hX] at X0 X1 X2 KA
 clear DX bX sX ho hl k1 k2 k3 o1 hB hE hKL hVL
 go_enter Try.func24, Try.ntmps24
 go_wp2_with fail
 refine KA.out.mono ?_
 rintro e w1 ⟨v1, rfl, o1, b1, c1⟩
 rw [← hX] at b1 c1
 replace hX := hide hX
 clear KA X0 X1 X2
 have S1 : Hid (B ≤ w1.heap.size) := Nat.le_trans SX.out b1.size
 have D1 := (c1 _ LX.out hne.out).trans HD.out
 have LL1 : Hid (w.heap.size < w1.heap.size) := lt_of_block D1
 have B1 := hide (BX.out.trans b1)
 have hn1 := hide (own_ne o1 D1 (by decide))
 have HD1 := hide D1
 have KA := hide (appnum_any w1 B v1 _ KL 1 o1 S1.out (by rw [List.length_append, oc_length]; have := LXs.out; omega) (by decide) (by decide) (by omega) (by omega))
 clear b1 c1 o1 D1
 obtain ⟨⟨X0, X1, X2⟩, _⟩ := cells3q HD1.out
 rw [show KL = key.length from HKL.out] at KA
 go_wp2_with fail
 refine KA.out.mono ?_
 rintro e w2 ⟨v2, rfl, o2, b2, c2⟩
 rw [← show KL = key.length from HKL.out] at o2
 clear KA X0 X1 X2
 have S2 : Hid (B ≤ w2.heap.size) := Nat.le_trans S1.out b2.size
 have D2 := (c2 _ LL1.out hn1.out).trans HD1.out
 have LL2 : Hid (w.heap.size < w2.heap.size) := lt_of_block D2
 have B2 := hide (B1.out.trans b2)
 have hn2 := hide (own_ne o2 D2 (by decide))
 have HD2 := hide D2
 obtain ⟨P2, hP2⟩ : ∃ P, P = (xs ++ oc kN 1) ++ oc KL 1 := ⟨_, rfl⟩
 have LP2 : Hid (P2.length ≤ 100002) := by show _ ≤ _; rw [hP2, List.length_append, List.length_append, oc_length, oc_length]; have := LXs.out; omega
 rw [← hP2] at o2 HE1 HE2
 replace hP2 := hide hP2
 have O2 := hide o2
 clear b2 c2 D2
 by_cases hv : ver = 1
 ·have a1 : (ver == 1) = true := by simpa using hv
  have HZ := hide (HE1.out hv)
  clear HE1 HE2
  replace hv := hide hv
  obtain ⟨⟨X0, X1, X2⟩, _⟩ := cells3q HD2.out
  obtain ⟨va, vc, hvs⟩ := o2.rd.slice
  obtain ⟨L2, hL2⟩ : ∃ L, L = P2.length := ⟨_, rfl⟩
  rw [← hL2] at hvs
  subst hvs
  replace hL2 := hide hL2
  clear o2
  go_upto_region 5 with (at_builtin; refine wpList_append_st rfl _ _ rfl B _ P2 key rfl rfl O2.out (by have := LP2.out; rw [← HKL.out]; omega) S2.out ?_; intro v3 w3 o3 b3 g3; have F3 : Hid (OwnB B w3 v3 (P2 ++ key) ∧ Below B w2 w3 ∧ w3.heap[w.heap.size]? = w2.heap[w.heap.size]?) := ⟨o3, b3, g3.block _ LL2.out hn2.out⟩; clear o3 b3 g3)
  clear X0 X1 X2
  have D3 := F3.out.2.2.trans HD2.out
  have S3 : Hid (B ≤ w3.heap.size) := Nat.le_trans S2.out F3.out.2.1.size
  have LL3 : Hid (w.heap.size < w3.heap.size) := lt_of_block D3
  have hn3 := hide (own_ne F3.out.1 D3 (by decide))
  have HD3 := hide D3
  have KA := hide (appnum_any w3 B v3 _ VL 2 F3.out.1 S3.out (by rw [List.length_append]; have := LP2.out; have := HKL.out; omega) (by decide) (by decide) (by omega) (by omega))
  rw [show VL = val.length from HVL.out] at KA
  obtain ⟨⟨X0, X1, X2⟩, _⟩ := cells3q D3
  clear D3
  go_wp2_with fail
  refine KA.out.mono ?_
  rintro e w4 ⟨v4, rfl, o4, b4, c4⟩
  rw [← show VL = val.length from HVL.out] at o4
  clear KA X0 X1 X2
  have S4 : Hid (B ≤ w4.heap.size) := Nat.le_trans S3.out b4.size
  have D4 := (c4 _ LL3.out hn3.out).trans HD3.out
  have B4 := hide (B2.out.trans (F3.out.2.1.trans b4))
  have O4 := hide o4
  obtain ⟨⟨X0, X1, X2⟩, _⟩ := cells3q D4
  obtain ⟨P4, hP4⟩ : ∃ P, P = P2 ++ key ++ oc VL 2 := ⟨_, rfl⟩
  have LP4 : Hid (P4.length ≤ 100100) := by show _ ≤ _; rw [hP4, List.length_append, List.length_append, oc_length]; have := LP2.out; have := HKL.out; omega
  rw [← hP4] at O4 o4 HZ
  replace hP4 := hide hP4
  obtain ⟨va, vc, hvs⟩ := o4.rd.slice
  obtain ⟨L4, hL4⟩ : ∃ L, L = P4.length := ⟨_, rfl⟩
  rw [← hL4] at hvs
  subst hvs
  replace hL4 := hide hL4
  clear o4 b4 c4 D4
  go_wp2_with (at_builtin; refine wpList_append_st rfl _ _ rfl B _ P4 val rfl rfl O4.out (by have := LP4.out; rw [← HVL.out]; omega) S4.out ?_; intro v5 w5 o5 b5 _; have F5 : Hid (OwnB B w5 v5 (P4 ++ val) ∧ Below B w4 w5) := ⟨o5, b5⟩; clear o5 b5)
  go_ret
  exact ⟨_, rfl, by rw [← HZ.out]; exact F5.out.1, B4.out.trans F5.out.2⟩
 ·have a1 : (ver == 1) = false := by simpa using hv
  have HZ := hide (HE2.out hv)
  clear HE1 HE2
  replace hv := hide hv
  have KA := hide (appnum_any w2 B v2 _ VL 1 o2 S2.out (by have := LP2.out; omega) (by decide) (by decide) (by omega) (by omega))
  rw [show VL = val.length from HVL.out] at KA
  obtain ⟨⟨X0, X1, X2⟩, _⟩ := cells3q HD2.out
  clear o2
  go_wp2_with fail
  refine KA.out.mono ?_
  rintro e w3 ⟨v3, rfl, o3, b3, c3⟩
  rw [← show VL = val.length from HVL.out] at o3
  clear KA X0 X1 X2
  have S3 : Hid (B ≤ w3.heap.size) := Nat.le_trans S2.out b3.size
  have D3 := (c3 _ LL2.out hn2.out).trans HD2.out
  have LL3 : Hid (w.heap.size < w3.heap.size) := lt_of_block D3
  have hn3 := hide (own_ne o3 D3 (by decide))
  have B3 := hide (B2.out.trans b3)
  have HD3 := hide D3
  have O3 := hide o3
  obtain ⟨P3, hP3⟩ : ∃ P, P = P2 ++ oc VL 1 := ⟨_, rfl⟩
  have LP3 : Hid (P3.length ≤ 100003) := by show _ ≤ _; rw [hP3, List.length_append, oc_length]; have := LP2.out; omega
  rw [← hP3] at O3 o3 HZ
  replace hP3 := hide hP3
  obtain ⟨va, vc, hvs⟩ := o3.rd.slice
  obtain ⟨L3, hL3⟩ : ∃ L, L = P3.length := ⟨_, rfl⟩
  rw [← hL3] at hvs
  subst hvs
  replace hL3 := hide hL3
  obtain ⟨⟨X0, X1, X2⟩, _⟩ := cells3q D3
  clear o3 b3 c3 D3
  go_upto_region 9 with (at_builtin; refine wpList_append_st rfl _ _ rfl B _ P3 key rfl rfl O3.out (by have := LP3.out; rw [← HKL.out]; omega) S3.out ?_; intro v4 w4 o4 b4 g4; have F4 : Hid (OwnB B w4 v4 (P3 ++ key) ∧ Below B w3 w4 ∧ w4.heap[w.heap.size]? = w3.heap[w.heap.size]?) := ⟨o4, b4, g4.block _ LL3.out hn3.out⟩; clear o4 b4 g4)
  clear X0 X1 X2
  have D4 := F4.out.2.2.trans HD3.out
  have S4 : Hid (B ≤ w4.heap.size) := Nat.le_trans S3.out F4.out.2.1.size
  have B4 := hide (B3.out.trans F4.out.2.1)
  obtain ⟨P4, hP4⟩ : ∃ P, P = P3 ++ key := ⟨_, rfl⟩
  have LP4 : Hid (P4.length ≤ 100100) := by show _ ≤ _; rw [hP4, List.length_append]; have := LP3.out; have := HKL.out; omega
  have O4 : Hid (OwnB B w4 v4 P4) := by rw [hP4]; exact F4.out.1
  rw [← hP4] at HZ
  replace hP4 := hide hP4
  obtain ⟨va, vc, hvs⟩ := O4.out.rd.slice
  obtain ⟨L4, hL4⟩ : ∃ L, L = P4.length := ⟨_, rfl⟩
  rw [← hL4] at hvs
  subst hvs
  replace hL4 := hide hL4
  obtain ⟨⟨X0, X1, X2⟩, _⟩ := cells3q D4
  clear D4 F4
  go_wp2_with (at_builtin; refine wpList_append_st rfl _ _ rfl B _ P4 val rfl rfl O4.out (by have := LP4.out; rw [← HVL.out]; omega) S4.out ?_; intro v5 w5 o5 b5 _; have F5 : Hid (OwnB B w5 v5 (P4 ++ val) ∧ Below B w4 w5) := ⟨o5, b5⟩; clear o5 b5)
  go_ret
  exact ⟨_, rfl, by rw [← HZ.out]; exact F5.out.1, B4.out.trans F5.out.2⟩
set_option maxRecDepth 100000 in
theorem hasform_any (w : World) (c : Cmd) (v : Value) (ver : Int) (h : RdO w v c.ops) : Calls Try.prog 21 #[cv c v, .int .i64 ver] w fun e w' => PB (cver c ver) w w' e := by
 obtain ⟨W, hW, D, bW, sW⟩ := boxedN w #[.int .i64 c.kind, .int .i64 c.txn, .int .i64 c.home, .int .i64 c.verd, v] 24
 obtain ⟨⟨D0, D1, D2, D3, D4⟩, _⟩ := cells5c D
 have BW := hide bW
 have lb := h.bd
 obtain ⟨a, cp, rfl⟩ := h.slice
 obtain ⟨n, hn⟩ : ∃ n, n = c.ops.length := ⟨_, rfl⟩
 obtain ⟨kind, hkind⟩ : ∃ z, z = c.kind := ⟨_, rfl⟩
 have hver : Hid (cver c ver ↔ (ver = 1 ∨ ver = 2) ∧ (ver = 1 → kind ≠ 5 ∧ n ≤ 4)) := by show _ ↔ _; unfold cver; rw [hkind, hn]
 dsimp only [cv]
 rw [← hkind] at D0 hW ⊢
 rw [← hn] at D4 hW lb ⊢
 replace hn := hide hn
 replace hkind := hide hkind
 rw [hW] at D0 D4 BW
 clear D bW sW D1 D2 D3 h
 go_enter Try.func21, Try.ntmps21
 by_cases v1 : ver = 1
 ·by_cases k5 : kind = 5
  ·have hp : Hid (¬ cver c ver) := fun q => ((hver.out.1 q).2 v1).1 k5
   have b1 : (ver == 1) = true := by simpa using v1
   have b5 : (kind != 5) = false := by simpa using k5
   replace v1 := hide v1
   replace k5 := hide k5
   go_wp2
   go_ret
   exact PB.no (by first | rfl | (simp; done) | (simp; omega)) hp.out BW.out
  ·have b1 : (ver == 1) = true := by simpa using v1
   have b5 : (kind != 5) = true := by simpa using k5
   by_cases n4 : (n : Int) ≤ 4
   ·have hp := hide (hver.out.2 ⟨.inl v1, fun _ => ⟨k5, by omega⟩⟩)
    replace v1 := hide v1
    replace k5 := hide k5
    go_wp2
    go_ret
    exact PB.yes (by first | rfl | (simp; done) | (simp; omega)) hp.out BW.out
   ·have hp : Hid (¬ cver c ver) := fun q => by have := ((hver.out.1 q).2 v1).2; omega
    replace v1 := hide v1
    replace k5 := hide k5
    go_wp2
    go_ret
    exact PB.no (by first | rfl | (simp; done) | (simp; omega)) hp.out BW.out
 ·have b1 : (ver == 1) = false := by simpa using v1
  by_cases v2 : ver = 2
  ·have hp := hide (hver.out.2 ⟨.inr v2, fun r => absurd r v1⟩)
   have b2 : (ver == 2) = true := by simpa using v2
   replace v1 := hide v1
   replace v2 := hide v2
   go_wp2
   go_ret
   exact PB.yes (by first | rfl | (simp; done) | (simp; omega)) hp.out BW.out
  ·have hp : Hid (¬ cver c ver) := fun q => by rcases (hver.out.1 q).1 with r | r; exact v1 r; exact v2 r
   have b2 : (ver == 2) = false := by simpa using v2
   replace v1 := hide v1
   replace v2 := hide v2
   go_wp2
   go_ret
   exact PB.no (by first | rfl | (simp; done) | (simp; omega)) hp.out BW.out
end Go.Proofs.Ytdjjegaodgocmaa

namespace Go.Proofs.Ytdjjegaodgocmaa
open Go.RowKit
theorem natOf {z : Int} (h : 0 ≤ z) : ∃ n : Nat, z = (n : Int) := ⟨z.toNat, by omega⟩
set_option maxRecDepth 100000 in
set_option maxHeartbeats 8000000 in
theorem pencode13_any (w : World) (c : Cmd) (v : Value) (ver : Int) (h : RdO w v c.ops) : Calls Try.prog 10 #[cv c v, .int .i64 ver] w fun e w' => ∃ x, e = .returned (.tuple #[x, .int .i64 (cenc c ver).2]) ∧ OwnB w.heap.size w' x (cenc c ver).1 ∧ Below w.heap.size w w' := by
 obtain ⟨W, hW, D, bW, sW⟩ := boxedN w #[.int .i64 c.kind, .int .i64 c.txn, .int .i64 c.home, .int .i64 c.verd, v] 24
 have KC := hide (pcheck13_any W c v (h.to0 bW))
 have lb := h.bd
 obtain ⟨a, cp, rfl⟩ := h.slice
 obtain ⟨n, hn⟩ : ∃ n, n = c.ops.length := ⟨_, rfl⟩
 have HH := hide h
 have BW := hide bW
 have HD := hide D
 have LW : Hid (w.heap.size < W.heap.size) := by show _ < _; omega
 obtain ⟨⟨D0, D1, D2, D3, D4⟩, _⟩ := cells5c D
 dsimp only [cv] at KC ⊢
 obtain ⟨kind, hkind⟩ : ∃ z, z = c.kind := ⟨_, rfl⟩
 obtain ⟨txn, htxn⟩ : ∃ z, z = c.txn := ⟨_, rfl⟩
 obtain ⟨home, hhome⟩ : ∃ z, z = c.home := ⟨_, rfl⟩
 obtain ⟨verd, hverd⟩ : ∃ z, z = c.verd := ⟨_, rfl⟩
 rw [← hn] at lb HH HD D4 hW KC ⊢
 rw [← hkind] at HD D0 hW KC ⊢
 rw [← htxn] at HD D1 hW KC ⊢
 rw [← hhome] at HD D2 hW KC ⊢
 rw [← hverd] at HD D3 hW KC ⊢
 replace hn := hide hn
 replace hkind := hide hkind
 replace htxn := hide htxn
 replace hhome := hide hhome
 replace hverd := hide hverd
 obtain ⟨er, her⟩ : ∃ z, z = ccheck c := ⟨_, rfl⟩
 rw [← her] at KC
 replace her := hide her
 rw [hW] at D0 D1 D2 D3 D4 KC
 clear h bW D sW
 go_enter Try.func10, Try.ntmps10
 go_wp2_with fail
 refine KC.out.mono ?_
 rintro e w1 ⟨rfl, b1⟩
 rw [← hW] at b1
 replace hW := hide hW
 clear KC D0 D1 D2 D3 D4
 have B1 := hide (BW.out.trans (b1.mono BW.out.size))
 have HD1 := hide ((b1.block _ LW.out).trans HD.out)
 have L1 : Hid (w.heap.size < w1.heap.size) := Nat.lt_of_lt_of_le LW.out b1.size
 clear b1
 by_cases he : er = 0
 rotate_left
 ·have hE : Hid (cenc c ver = ([], er)) := by
   show _ = _
   unfold cenc
   rw [if_pos (by rw [← her.out]; exact he), ← her.out]
  have he' : (er != 0) = true := by simpa using he
  replace he := hide he
  go_wp2
  go_ret2
  exact ⟨_, by rw [hE.out]; rfl, by rw [hE.out]; exact World.ownsRow_nil _ _ _ _, B1.out⟩
 have hc0 : Hid (ccheck c = 0) := her.out.symm.trans he
 have hok := hide (ccheck_ok.1 hc0.out)
 subst he
 have KF := hide (hasform_any w1 c (.slice a n cp) ver (HH.out.to0 B1.out))
 dsimp only [cv] at KF
 rw [← hkind.out, ← htxn.out, ← hhome.out, ← hverd.out] at KF
 obtain ⟨⟨D0, D1, D2, D3, D4⟩, _⟩ := cells5c HD1.out
 go_wp2_with fail
 refine KF.out.mono ?_
 rintro e w2 ⟨rfl, b2⟩
 clear KF D0 D1 D2 D3 D4
 have B2 := hide (B1.out.trans (b2.mono B1.out.size))
 have HD2 := hide ((b2.block _ L1.out).trans HD1.out)
 have L2 : Hid (w.heap.size < w2.heap.size) := Nat.lt_of_lt_of_le L1.out b2.size
 clear b2
 by_cases gv : cver c ver
 rotate_left
 ·have hE : Hid (cenc c ver = ([], 131)) := by
   show _ = _
   unfold cenc
   rw [if_neg (by rw [hc0.out]; simp), if_pos gv]
  rw [decide_eq_false gv]
  replace gv := hide gv
  go_wp2
  go_ret2
  exact ⟨_, by rw [hE.out]; rfl, by rw [hE.out]; exact World.ownsRow_nil _ _ _ _, B2.out⟩
 rw [decide_eq_true gv]
 have hE := hide (cenc_yes hok.out gv)
 have hvv : ver = 1 ∨ ver = 2 := gv.1
 replace gv := hide gv
 obtain ⟨vN, hvN⟩ := natOf (z := ver) (by omega)
 have hvb : vN = 1 ∨ vN = 2 := by omega
 have hkb : 1 ≤ kind ∧ kind ≤ 6 := by rw [hkind.out]; exact hok.out.kind
 obtain ⟨kN, hkN⟩ := natOf (z := kind) (by omega)
 obtain ⟨tN, htN⟩ := natOf (z := txn) (by have := hok.out.txn; unfold ctxn at this; rw [← htxn.out] at this; split at this <;> omega)
 have htB : tN ≤ 1099511627776 := by have := hok.out.txn; unfold ctxn at this; rw [← htxn.out] at this; split at this <;> omega
 obtain ⟨hN, hhN⟩ := natOf (z := home) (by rw [hhome.out]; exact hok.out.home.1)
 have hhB : hN < 4 := by have := hok.out.home.2; rw [← hhome.out] at this; omega
 obtain ⟨eN, heN⟩ := natOf (z := verd) (by have := hok.out.verd; unfold cverd at this; rw [← hverd.out] at this; split at this <;> omega)
 have heB : eN ≤ 2 := by have := hok.out.verd; unfold cverd at this; rw [← hverd.out] at this; split at this <;> omega
 have hnb : n ≤ 16 := by rw [hn.out]; exact hok.out.len
 subst hvN hkN htN hhN heN
 have hkB : kN ≤ 6 := by omega
 clear hkb
 obtain ⟨B, hB⟩ : ∃ B, B = w2.heap.size := ⟨_, rfl⟩
 have LB : Hid (w.heap.size < B) := by show _ < _; rw [hB]; exact L2.out
 have LBw : Hid (B ≤ w2.heap.size) := by show _ ≤ _; omega
 replace hB := hide hB
 have O0 : Hid (OwnB B w2 (.slice none 0 0) []) := World.ownsRow_nil _ _ _ _
 have R0 := hide (Below.refl B w2)
 have KA := hide (appnum_any w2 B (.slice none 0 0) [] vN 1 O0.out (Nat.le_trans LBw.out R0.out.size) (by simp) (by decide) (by decide) (by omega) (by omega))
 go_wp2_with fail
 refine KA.out.mono ?_
 rintro e w3 ⟨v1, rfl, o1, b1, -⟩
 clear KA
 have R1 := hide (R0.out.trans b1)
 obtain ⟨P1, hP1⟩ : ∃ P, P = ([] : List UInt8) ++ oc vN 1 := ⟨_, rfl⟩
 have LP1 : Hid (P1.length ≤ 1) := by show _ ≤ _; rw [hP1, List.length_append]; rw [oc_length]; simp
 rw [← hP1] at o1
 have O1 := hide o1
 replace hP1 := hide hP1
 clear o1 b1
 obtain ⟨⟨D0, D1, D2, D3, D4⟩, _⟩ := cells5c ((R1.out.block _ LB.out).trans HD2.out)
 have KA := hide (appnum_any w3 B v1 P1 kN 1 O1.out (Nat.le_trans LBw.out R1.out.size) (by have := LP1.out; omega) (by decide) (by decide) (by omega) (by omega))
 go_wp2_with fail
 refine KA.out.mono ?_
 rintro e w4 ⟨v2, rfl, o2, b2, -⟩
 clear KA
 clear D0 D1 D2 D3 D4
 have R2 := hide (R1.out.trans b2)
 obtain ⟨P2, hP2⟩ : ∃ P, P = P1 ++ oc kN 1 := ⟨_, rfl⟩
 have LP2 : Hid (P2.length ≤ 2) := by show _ ≤ _; rw [hP2, List.length_append]; first | (rw [oc_length]; have := LP1.out; omega) | (have := LP1.out; omega)
 rw [← hP2] at o2
 have O2 := hide o2
 replace hP2 := hide hP2
 clear o2 b2
 obtain ⟨tx, htx⟩ : ∃ t, t = if vN = 1 then oc tN 8 else cgroups tN := ⟨_, rfl⟩
 have htl : Hid (tx.length ≤ 8) := by
  show _ ≤ _
  rw [htx]
  split
  ·rw [oc_length]; exact Nat.le_refl _
  ·have := cgroups_len 6 tN (by omega) (by omega); omega
 replace htx := hide htx
 obtain ⟨⟨D0, D1, D2, D3, D4⟩, _⟩ := cells5c ((R2.out.block _ LB.out).trans HD2.out)
 go_upto_if 26 with fail
 go_cut [7] from 26 to 34 (fun s wx => Hid (OwnB B wx s (P2 ++ tx) ∧ Below B w2 wx))
 case first =>
  rcases hvb with q1 | q2
  ·have a1 : ((vN : Int) == 1) = true := by rw [q1]; rfl
   have hx : Hid (tx = oc tN 8) := by show _ = _; rw [htx.out, if_pos q1]
   have KA := hide (appnum_any w4 B v2 P2 tN 8 O2.out (Nat.le_trans LBw.out R2.out.size) (by have := LP2.out; omega) (by decide) (by decide) (by omega) (by omega))
   rw [← hx.out] at KA
   replace q1 := hide q1
   go_wp2_with fail
   refine KA.out.mono ?_
   rintro e w5 ⟨v3, rfl, o3, b3, -⟩
   have F := hide (And.intro o3 (R2.out.trans b3))
   clear KA o3 b3
   go_wp2_with fail
   go_meet
   exact F
  ·have a1 : ((vN : Int) == 1) = false := by rw [q2]; rfl
   have hx : Hid (tx = cgroups tN) := by show _ = _; rw [htx.out, if_neg (by omega)]
   have KA := hide (appgrp_any w4 B v2 P2 tN O2.out (Nat.le_trans LBw.out R2.out.size) (by have := LP2.out; omega) htB)
   rw [← hx.out] at KA
   replace q2 := hide q2
   go_wp2_with fail
   refine KA.out.mono ?_
   rintro e w5 ⟨v3, rfl, o3, b3⟩
   have F := hide (And.intro o3 (R2.out.trans b3))
   clear KA o3 b3
   go_wp2_with fail
   go_meet
   exact F
 case rest =>
 clear D0 D1 D2 D3 D4
 have R3 := hide hcut.out.2
 obtain ⟨P3, hP3⟩ : ∃ P, P = P2 ++ tx := ⟨_, rfl⟩
 have LP3 : Hid (P3.length ≤ 10) := by show _ ≤ _; rw [hP3, List.length_append]; have := LP2.out; have := htl.out; omega
 have O3 : Hid (OwnB B wc u7 P3) := by rw [hP3]; exact hcut.out.1
 replace hP3 := hide hP3
 clear hcut
 obtain ⟨⟨D0, D1, D2, D3, D4⟩, _⟩ := cells5c ((R3.out.block _ LB.out).trans HD2.out)
 have KA := hide (appnum_any wc B u7 P3 hN 1 O3.out (Nat.le_trans LBw.out R3.out.size) (by have := LP3.out; omega) (by decide) (by decide) (by omega) (by omega))
 go_wp2_with fail
 refine KA.out.mono ?_
 rintro e w6 ⟨v4, rfl, o4, b4, -⟩
 clear KA
 clear D0 D1 D2 D3 D4
 have R4 := hide (R3.out.trans b4)
 obtain ⟨P4, hP4⟩ : ∃ P, P = P3 ++ oc hN 1 := ⟨_, rfl⟩
 have LP4 : Hid (P4.length ≤ 11) := by show _ ≤ _; rw [hP4, List.length_append]; first | (rw [oc_length]; have := LP3.out; omega) | (have := LP3.out; omega)
 rw [← hP4] at o4
 have O4 := hide o4
 replace hP4 := hide hP4
 clear o4 b4
 obtain ⟨⟨D0, D1, D2, D3, D4⟩, _⟩ := cells5c ((R4.out.block _ LB.out).trans HD2.out)
 have KA := hide (appnum_any w6 B v4 P4 eN 1 O4.out (Nat.le_trans LBw.out R4.out.size) (by have := LP4.out; omega) (by decide) (by decide) (by omega) (by omega))
 go_wp2_with fail
 refine KA.out.mono ?_
 rintro e w7 ⟨v5, rfl, o5, b5, -⟩
 clear KA
 clear D0 D1 D2 D3 D4
 have R5 := hide (R4.out.trans b5)
 obtain ⟨P5, hP5⟩ : ∃ P, P = P4 ++ oc eN 1 := ⟨_, rfl⟩
 have LP5 : Hid (P5.length ≤ 12) := by show _ ≤ _; rw [hP5, List.length_append]; first | (rw [oc_length]; have := LP4.out; omega) | (have := LP4.out; omega)
 rw [← hP5] at o5
 have O5 := hide o5
 replace hP5 := hide hP5
 clear o5 b5
 obtain ⟨⟨D0, D1, D2, D3, D4⟩, _⟩ := cells5c ((R5.out.block _ LB.out).trans HD2.out)
 have KA := hide (appnum_any w7 B v5 P5 n 1 O5.out (Nat.le_trans LBw.out R5.out.size) (by have := LP5.out; omega) (by decide) (by decide) (by omega) (by omega))
 go_wp2_with fail
 refine KA.out.mono ?_
 rintro e w8 ⟨v6, rfl, o6, b6, -⟩
 clear KA
 clear D0 D1 D2 D3 D4
 have R6 := hide (R5.out.trans b6)
 obtain ⟨P6, hP6⟩ : ∃ P, P = P5 ++ oc n 1 := ⟨_, rfl⟩
 have LP6 : Hid (P6.length ≤ 13) := by show _ ≤ _; rw [hP6, List.length_append]; first | (rw [oc_length]; have := LP5.out; omega) | (have := LP5.out; omega)
 rw [← hP6] at o6
 have O6 := hide o6
 replace hP6 := hide hP6
 clear o6 b6
 obtain ⟨⟨D0, D1, D2, D3, D4⟩, _⟩ := cells5c ((R6.out.block _ LB.out).trans HD2.out)
 have hHead : Hid (∀ l, P6 ++ l = [b8 (vN : Int), b8 (kN : Int)] ++ (if (vN : Int) = 1 then oc tN 8 else cgroups tN) ++ [b8 (hN : Int), b8 (eN : Int), b8 (n : Int)] ++ l) := fun l => by
  rw [hP6.out, hP5.out, hP4.out, hP3.out, hP2.out, hP1.out, htx.out, oc_one, oc_one, oc_one, oc_one, oc_one]
  have q : ((vN : Int) = 1) = (vN = 1) := by apply propext; omega
  simp only [q]
  simp [b8]
 go_wp2
 clear D0 D1 D2 D3 D4
 go_loopw [7, 51] (fun s p wr => ∃ (k : Nat) (v9 : Value), v9 = s ∧ k ≤ n ∧ p = .int .i64 k ∧ Hid (OwnB B wr v9 (P6 ++ (c.ops.take k).flatMap (opO (vN : Int))) ∧ Below B w2 wr)) (fun _ p _ => n - (intOf p).toNat)
 case atStart => exact ⟨0, _, rfl, Nat.zero_le _, rfl, hide ⟨by simpa using O6.out, R6.out⟩⟩
 case round =>
  obtain ⟨k, v9, rfl, hk, rfl, hI⟩ := hrel
  obtain ⟨⟨D0, D1, D2, D3, D4⟩, _⟩ := cells5c ((hI.out.2.block _ LB.out).trans HD2.out)
  obtain ⟨PB, hPB⟩ : ∃ l, l = P6 ++ (c.ops.take k).flatMap (opO (vN : Int)) := ⟨_, rfl⟩
  have hPl : Hid (PB.length ≤ 1613) := by
   show _ ≤ _
   rw [hPB, List.length_append]
   have h1 := ops_bd (v := (vN : Int)) (l := c.ops.take k) fun o ho => ⟨hok.out.keys o (List.mem_of_mem_take ho), hok.out.vals o (List.mem_of_mem_take ho)⟩
   have h2 := LP6.out
   rw [List.length_take] at h1
   omega
  have hO : Hid (OwnB B wr v9 PB) := by rw [hPB]; exact hI.out.1
  replace hPB := hide hPB
  by_cases hlt : k < n
  ·have hq : (k : Int) < (n : Int) := by omega
   obtain ⟨y, hy⟩ := some_el c.ops (k := k) (by rw [← hn.out]; exact hlt)
   have Br := B2.out.trans (hI.out.2.mono (Nat.le_trans B2.out.size (by have := LBw.out; have := hB.out; omega)))
   obtain ⟨b, off, rfl, c1, c2, c3⟩ := HH.out.op hy
   replace c1 := (Br.cell (cell_lt c1)).trans c1
   replace c2 := (Br.cell (cell_lt c2)).trans c2
   replace c3 := (Br.cell (cell_lt c3)).trans c3
   have hmem := List.mem_of_getElem? hy
   have hnext : Hid (P6 ++ (c.ops.take (k + 1)).flatMap (opO (vN : Int)) = PB ++ opO (vN : Int) y) := by
    show _ = _
    rw [hPB.out, List.take_add_one, hy, List.flatMap_append, List.append_assoc]
    simp
   obtain ⟨Y, hY, DY, bY, sY⟩ := boxedN wr #[.int .i64 y.1, st y.2.1, st y.2.2] 48
   obtain ⟨⟨Y0, Y1, Y2⟩, _⟩ := cells3q DY
   have LBr : Hid (B ≤ wr.heap.size) := Nat.le_trans LBw.out hI.out.2.size
   have KA := hide (appop_any Y B v9 PB y (vN : Int) (rows_to hO.out bY) (Nat.le_trans LBr.out bY.size) (by have := hPl.out; omega) (hok.out.okind y hmem) (hok.out.keys y hmem) (hok.out.vals y hmem))
   have BY := hide (hI.out.2.trans (bY.mono LBr.out))
   rw [hY] at Y0 Y1 Y2 KA
   clear hmem hy Br DY bY sY
   obtain ⟨yk, key, val⟩ := y
   dsimp only [opv] at *
   go_wp2_with fail
   refine KA.out.mono ?_
   rintro e w8 ⟨v8, rfl, o8, b8⟩
   rw [← hY] at b8
   replace hY := hide hY
   rw [← hnext.out] at o8
   have F := hide (And.intro o8 (BY.out.trans b8))
   clear KA o8 b8 Y0 Y1 Y2 c1 c2 c3
   go_wp2
   go_roundw
   case rel => exact ⟨k + 1, _, rfl, by omega, by go_num, F⟩
   case measure => simp [intOf]; omega
  ·have hq : ¬ (k : Int) < (n : Int) := by omega
   have hfin : Hid (PB = cencO c (vN : Int)) := by
    show _ = _
    have e := hHead.out ((c.ops.take k).flatMap (opO (vN : Int)))
    rw [hPB.out, e, List.take_of_length_le (by rw [← hn.out]; omega)]
    unfold cencO
    rw [← hkind.out, ← htxn.out, ← hhome.out, ← hverd.out, ← hn.out, Int.toNat_natCast]
   have hO2 := hide (hfin.out ▸ hO.out)
   go_wp2
   go_ret2
   refine ⟨_, by rw [hE.out]; rfl, ?_, B2.out.trans (hI.out.2.mono (Nat.le_trans B2.out.size (by have := LBw.out; have := hB.out; omega)))⟩
   rw [hE.out]
   exact rows_base hO2.out (fun b hb => by have := (World.ownsRow.lt hO2.out b hb).1; have := LB.out; omega)
end Go.Proofs.Ytdjjegaodgocmaa

namespace Go.Proofs.Ytdjjegaodgocmaa
open Go.RowKit
abbrev stopP (e : Int) : Ending := .panicked [{ v := .iface 72 (.agg #[.int .i64 e]), recovered := false }]
structure PRd (w0 : World) (g : Nat) (w : World) (s : List UInt8) : Prop where
 box : ∃ a c, w.heap[g]? = some (.cells #[.slice a s.length c] 74 (0, 0)) ∧ Rd w0 (.slice a s.length c) s
 bel : Below w0.heap.size w0 w
 hg : w0.heap.size ≤ g
theorem PRd.to {w0 : World} {g : Nat} {w : World} {s : List UInt8} (h : PRd w0 g w s) {U : World} (k : Below w.heap.size w U) : PRd w0 g U s := by
 obtain ⟨a, c, h1, h2⟩ := h.box
 exact ⟨⟨a, c, (k.block _ (lt_of_block h1)).trans h1, h2⟩, h.bel.trans (k.mono h.bel.size), h.hg⟩
theorem PRd.other {w0 : World} {g : Nat} {w : World} {s : List UInt8} (h : PRd w0 g w s) {p : Addr} (hp : w0.heap.size ≤ p.block) (hne : p.block ≠ g) (v : Value) : PRd w0 g (w.setCell p v) s := by
 obtain ⟨a, c, h1, h2⟩ := h.box
 exact ⟨⟨a, c, (Below.heap_setCell _ _ _ _ (Ne.symm hne)).trans h1, h2⟩, h.bel.setCell hp _, h.hg⟩
theorem PRd.lt {w0 : World} {g : Nat} {w : World} {s : List UInt8} (h : PRd w0 g w s) : g < w.heap.size ∧ w0.heap.size ≤ g ∧ w0.heap.size ≤ w.heap.size := by
 obtain ⟨a, c, h1, h2⟩ := h.box
 exact ⟨lt_of_block h1, h.hg, h.bel.size⟩
def PEnd (w0 : World) (g : Nat) (w : World) (x : Value) (r : Rst) (e : Ending) (w' : World) : Prop :=
 KpH g w w' ∧ Below w0.heap.size w0 w' ∧ ((r.2 = 0 ∧ e = .returned x ∧ PRd w0 g w' r.1) ∨ (r.2 ≠ 0 ∧ e = stopP r.2))
theorem PEnd.ok {w0 : World} {g : Nat} {w : World} {x y : Value} {r : Rst} {w' : World} {s : List UInt8} (hr : r = (s, 0)) (hx : x = y) (k : KpH g w w') (d : PRd w0 g w' s) : PEnd w0 g w y r (.returned x) w' := by
 subst hr hx
 exact ⟨k, d.bel, .inl ⟨rfl, rfl, d⟩⟩
theorem PEnd.stop {w0 : World} {g : Nat} {w : World} {y : Value} {r : Rst} {w' : World} {e : Int} (hr : r.2 = e) (he : e ≠ 0) (k : KpH g w w') (b : Below w0.heap.size w0 w') : PEnd w0 g w y r (stopP e) w' := by
 subst hr
 exact ⟨k, b, .inr ⟨he, rfl⟩⟩
set_option maxRecDepth 100000 in
set_option maxHeartbeats 2000000 in
theorem ptake_any (w0 : World) (g : Nat) (w : World) (s : List UInt8) (n : Nat) (h : PRd w0 g w s) (hn : n ≤ 1000000000000) :
  Calls Try.prog 55 #[.pointer (some ⟨g, 0, none⟩), .int .i64 (n : Int)] w fun e w' => ∃ a1 c1, PEnd w0 g w (.slice a1 (tk (s, 0) n).1.length c1) (tk (s, 0) n).2 e w' ∧ Rd w0 (.slice a1 (tk (s, 0) n).1.length c1) (tk (s, 0) n).1 := by
 obtain ⟨a, c, hb, hr⟩ := h.box
 obtain ⟨L, hL⟩ : ∃ L, L = s.length := ⟨_, rfl⟩
 rw [← hL] at hb hr
 have D0 : w.cell? ⟨g, 0, none⟩ = some (.slice a L c) := by rw [cell_of_row _ _ 0 _ _ (0, 0) hb]; rfl
 have F0 : w.frozen? ⟨g, 0, none⟩ = false := by simp [World.frozen?, hb]
 have lb : L ≤ 9223372036854775807 := by obtain ⟨_, _, e, _, m1, _⟩ := hr; simp only [Value.slice.injEq] at e; unfold maxLen at m1; omega
 have hcap : L ≤ c := by obtain ⟨_, _, e, l1, _⟩ := hr; simp only [Value.slice.injEq] at e; omega
 have HB := hide hb
 have HR := hide hr
 have HF := hide h
 clear hb hr h
 go_enter Try.func55, Try.ntmps55
 by_cases hlt : (L : Int) < (n : Int)
 ·have e1 : Hid (tk (s, 0) n = ([], (s, 8))) := by show _ = _; unfold tk; rw [if_neg (by simp), if_pos (by dsimp only; omega)]
  replace hL := hide hL
  go_wp2
  exact ⟨rfl, none, 0, PEnd.stop (by rw [e1.out]) (by decide) (KpH.refl _ _) HF.out.bel, by rw [e1.out]; exact rd_nilq _⟩
 ·have e1 : Hid (tk (s, 0) n = (s.take n, (s.drop n, 0))) := by show _ = _; unfold tk; rw [if_neg (by simp), if_neg (by dsimp only; omega)]
  have R1 : Rd w0 (.slice a n c) (s.take n) := by
   obtain ⟨A1, hA1, R1⟩ := rd_cut HR.out (q := 0) («to» := n) (by omega) (by omega)
   have ha : Option.map (fun x : Addr => x.add 0) a = a := by cases a <;> rfl
   rw [ha] at hA1
   have : A1 = a := by rw [← hA1]; split <;> rfl
   rw [this] at R1
   simpa using R1
  obtain ⟨A2, hA2, R2⟩ := rd_cut HR.out (q := n) («to» := L) (by omega) (by omega)
  have hls : Hid ((s.take n).length = n) := by show _ = _; rw [List.length_take]; omega
  have hld : Hid ((s.drop n).length = L - n) := by show _ = _; rw [List.length_drop]; omega
  rw [List.take_of_length_le (by omega)] at R2
  replace R1 := hide R1
  replace R2 := hide R2
  have h6 : (n : Int) ≤ (c : Int) := by omega
  have h7 : (n : Int) ≤ (L : Int) := by omega
  replace hL := hide hL
  go_wp2
  go_ret
  refine ⟨a, c, PEnd.ok (s := s.drop n) (by rw [e1.out]) (by rw [e1.out, hls.out]; rfl) ((KpH.refl g w).set 0 _) ⟨⟨A2, c - n, ?_, by rw [hld.out]; exact R2.out⟩, HF.out.bel.setCell (p := ⟨g, 0, none⟩) HF.out.hg _, HF.out.hg⟩, by rw [e1.out, hls.out]; exact R1.out⟩
  rw [hld.out]
  have := HB.out
  simp [World.setCell, Array.getElem?_modify, this]
set_option maxRecDepth 100000 in
set_option maxHeartbeats 1000000 in
theorem pnum_any (w0 : World) (g : Nat) (w : World) (s : List UInt8) (n : Nat) (h : PRd w0 g w s) (h1 : 1 ≤ n) (hn : n ≤ 8) :
  Calls Try.prog 46 #[.pointer (some ⟨g, 0, none⟩), .int .i64 (n : Int)] w fun e w' => PEnd w0 g w (.int .i64 (wrap64 ((nm (s, 0) n).1 : Nat))) (nm (s, 0) n).2 e w' := by
 have KT := hide (ptake_any w0 g w s n h (by omega))
 have le := tk_le (s, 0) n
 have e2 : Hid ((nm (s, 0) n).1 = numOf (tk (s, 0) n).1 ∧ (nm (s, 0) n).2 = (tk (s, 0) n).2) := ⟨rfl, rfl⟩
 have ln : Hid ((tk (s, 0) n).2.2 = 0 → (tk (s, 0) n).1.length = n) := fun q => by
  unfold tk at q ⊢
  rw [if_neg (by simp)] at q ⊢
  split at q
  ·simp at q
  ·rename_i q2
   rw [if_neg q2]
   dsimp only at q2 ⊢
   rw [List.length_take]; omega
 clear h
 rw [e2.out.1, e2.out.2]
 generalize (tk (s, 0) n).1 = T at *
 generalize (tk (s, 0) n).2 = R at *
 clear e2
 obtain ⟨V, hV⟩ : ∃ V, V = numOf T := ⟨_, rfl⟩
 rw [← hV]
 replace hV := hide hV
 go_enter Try.func46, Try.ntmps46
 go_wp2_with fail
 refine KT.out.mono ?_
 rintro e w1 ⟨a1, c1, ⟨k1, b1, hc⟩, d1⟩
 clear KT
 rcases hc with ⟨hr0, rfl, p1⟩ | ⟨hr0, rfl⟩
 ·have hl := ln.out hr0
  have KG := hide (get_yes w1 _ _ (d1.to b1) (by omega) (by omega))
  rw [← hV.out] at KG
  have R1 := hide (And.intro k1 (And.intro p1 hr0))
  replace hl := hide hl
  clear k1 b1 d1 p1 hr0 ln
  generalize T.length = TL at *
  go_wp2_with fail
  refine KG.out.mono ?_
  rintro e w2 ⟨rfl, b2⟩
  have B2 := hide b2
  clear KG b2
  go_wp2
  go_ret
  exact PEnd.ok (s := R.1) (by rw [← R1.out.2.2]) rfl (R1.out.1.trans (KpH.of B2.out)) (R1.out.2.1.to B2.out)
 ·have R1 := hide (And.intro k1 (And.intro b1 hr0))
  clear k1 b1 d1 hr0 ln
  go_wp2
  exact ⟨rfl, PEnd.stop rfl R1.out.2.2 R1.out.1 R1.out.2.1⟩
set_option maxRecDepth 100000 in
set_option maxHeartbeats 1000000 in
theorem ptext_any (w0 : World) (g : Nat) (w : World) (s : List UInt8) (n : Nat) (h : PRd w0 g w s) (hn : n ≤ 1000000000000) :
  Calls Try.prog 56 #[.pointer (some ⟨g, 0, none⟩), .int .i64 (n : Int)] w fun e w' => PEnd w0 g w (st (tk (s, 0) n).1) (tk (s, 0) n).2 e w' := by
 have KT := hide (ptake_any w0 g w s n h hn)
 clear h
 generalize (tk (s, 0) n).1 = T at *
 generalize (tk (s, 0) n).2 = R at *
 go_enter Try.func56, Try.ntmps56
 go_wp2_with fail
 refine KT.out.mono ?_
 rintro e w1 ⟨a1, c1, ⟨k1, b1, hc⟩, d1⟩
 clear KT
 rcases hc with ⟨hr0, rfl, p1⟩ | ⟨hr0, rfl⟩
 ·have KC := convq_any (d1.to b1)
  have R1 := hide (And.intro k1 (And.intro p1 hr0))
  clear k1 b1 d1 p1 hr0
  generalize T.length = TL at *
  go_wp2_with fail
  go_ret
  exact PEnd.ok (s := R.1) (by rw [← R1.out.2.2]) rfl R1.out.1 R1.out.2.1
 ·have R1 := hide (And.intro k1 (And.intro b1 hr0))
  clear k1 b1 d1 hr0
  go_wp2
  exact ⟨rfl, PEnd.stop rfl R1.out.2.2 R1.out.1 R1.out.2.1⟩
theorem wrap_small {m : Nat} (h : m < 65536) : wrap64 (m : Int) = (m : Int) := by unfold wrap64; omega
theorem nm1_lt (s : Rst) : (nm s 1).1 < 256 := nm_lt s 1
set_option maxRecDepth 100000 in
set_option maxHeartbeats 1000000 in
theorem pversion_any (w0 : World) (g : Nat) (w : World) (s : List UInt8) (h : PRd w0 g w s) :
  Calls Try.prog 45 #[.pointer (some ⟨g, 0, none⟩)] w fun e w' => PEnd w0 g w (.int .i64 ((pver s).1 : Nat)) (pver s).2 e w' := by
 have KN := hide (pnum_any w0 g w s 1 h (by decide) (by decide))
 have hm := nm1_lt (s, 0)
 have hP : Hid (pver s = if (nm (s, 0) 1).2.2 = 0 ∧ (nm (s, 0) 1).1 ≠ 1 ∧ (nm (s, 0) 1).1 ≠ 2 then (0, ((nm (s, 0) 1).2.1, 131)) else ((nm (s, 0) 1).1, (nm (s, 0) 1).2)) := rfl
 clear h
 generalize (nm (s, 0) 1).1 = m at *
 generalize (nm (s, 0) 1).2 = R at *
 rw [wrap_small (by omega)] at KN
 generalize pver s = PV at *
 go_enter Try.func45, Try.ntmps45
 go_wp2_with fail
 refine KN.out.mono ?_
 rintro e w1 ⟨k1, b1, hc⟩
 clear KN
 rcases hc with ⟨hr0, rfl, p1⟩ | ⟨hr0, rfl⟩
 ·have R1 := hide (And.intro k1 (And.intro p1 hr0))
  have hR : R = (R.1, 0) := by rw [← hr0]
  by_cases q1 : m = 1
  ·have hE : Hid (PV = (m, R)) := by show _ = _; rw [hP.out, if_neg (by rintro ⟨_, q, _⟩; exact q q1)]
   have a1 : ((m : Int) != 1) = false := by rw [q1]; rfl
   replace q1 := hide q1
   replace hR := hide hR
   clear k1 b1 p1 hr0
   go_wp2
   go_ret
   exact PEnd.ok (s := R.1) (by rw [hE.out]; exact hR.out) (by rw [hE.out]; rfl) R1.out.1 R1.out.2.1
  ·have a1 : ((m : Int) != 1) = true := by simp; omega
   by_cases q2 : m = 2
   ·have hE : Hid (PV = (m, R)) := by show _ = _; rw [hP.out, if_neg (by rintro ⟨_, _, q⟩; exact q q2)]
    have a2 : ((m : Int) != 2) = false := by rw [q2]; rfl
    replace q1 := hide q1
    replace q2 := hide q2
    replace hR := hide hR
    clear k1 b1 p1 hr0
    go_wp2
    go_ret
    exact PEnd.ok (s := R.1) (by rw [hE.out]; exact hR.out) (by rw [hE.out]; rfl) R1.out.1 R1.out.2.1
   ·have hE : Hid (PV.2.2 = 131) := by show _ = _; rw [hP.out, if_pos ⟨hr0, q1, q2⟩]
    have a2 : ((m : Int) != 2) = true := by simp; omega
    have HB := hide b1
    replace q1 := hide q1
    replace q2 := hide q2
    replace hR := hide hR
    clear k1 b1 p1 hr0
    go_wp2
    exact ⟨rfl, PEnd.stop hE.out (by decide) R1.out.1 HB.out⟩
 ·have R1 := hide (And.intro k1 (And.intro b1 hr0))
  have hE : Hid (PV = (m, R)) := by show _ = _; rw [hP.out, if_neg (by rintro ⟨q, _⟩; exact hr0 q)]
  clear k1 b1 hr0
  go_wp2
  exact ⟨rfl, PEnd.stop (by rw [hE.out]) R1.out.2.2 R1.out.1 R1.out.2.1⟩
set_option maxRecDepth 100000 in
theorem pend_any (w0 : World) (g : Nat) (w : World) (s : List UInt8) (h : PRd w0 g w s) :
  Calls Try.prog 49 #[.pointer (some ⟨g, 0, none⟩)] w fun e w' => w = w' ∧ ((s = [] ∧ e = .returned (.tuple #[])) ∨ (0 < s.length ∧ e = stopP 23)) := by
 obtain ⟨a, c, hb, hr⟩ := h.box
 obtain ⟨L, hL⟩ : ∃ L, L = s.length := ⟨_, rfl⟩
 rw [← hL] at hb hr
 have D0 : w.cell? ⟨g, 0, none⟩ = some (.slice a L c) := by rw [cell_of_row _ _ 0 _ _ (0, 0) hb]; rfl
 clear hb hr h
 go_enter Try.func49, Try.ntmps49
 by_cases hlt : (0 : Int) < (L : Int)
 ·have h1 : Hid (0 < s.length) := by show _ < _; omega
  replace hL := hide hL
  go_wp2
  exact ⟨rfl, rfl, .inr ⟨h1.out, rfl⟩⟩
 ·have h1 : Hid (s = []) := List.eq_nil_of_length_eq_zero (by omega)
  replace hL := hide hL
  go_wp2
  go_end0
  exact ⟨rfl, .inl ⟨h1.out, rfl⟩⟩
end Go.Proofs.Ytdjjegaodgocmaa

namespace Go.Proofs.Ytdjjegaodgocmaa
open Go.RowKit
set_option maxRecDepth 100000 in
set_option maxHeartbeats 4000000 in
theorem pgroups_any (w0 : World) (g : Nat) (w : World) (s0 : List UInt8) (h : PRd w0 g w s0) :
  Calls Try.prog 47 #[.pointer (some ⟨g, 0, none⟩)] w fun e w' => PEnd w0 g w (.int .i64 ((grp 6 0 0 (s0, 0)).1 : Nat)) (grp 6 0 0 (s0, 0)).2 e w' := by
 have HH := hide h
 clear h
 obtain ⟨GR, hGR⟩ : ∃ G, G = grp 6 0 0 (s0, 0) := ⟨_, rfl⟩
 rw [← hGR]
 replace hGR := hide hGR
 go_enter Try.func47, Try.ntmps47
 go_wp2
 go_loopw [3, 6] (fun n p wr => ∃ (k a : Nat) (s : List UInt8), k ≤ 6 ∧ n = .int .i64 a ∧ p = .int .i64 k ∧ Hid (PRd w0 g wr s ∧ KpH g w wr ∧ grp (6 - k) k a (s, 0) = GR ∧ a < 2 ^ (7 * k))) (fun _ p _ => 6 - (intOf p).toNat)
 case atStart => exact ⟨0, 0, s0, by omega, rfl, rfl, hide ⟨HH.out, KpH.refl _ _, hGR.out.symm, by decide⟩⟩
 case round =>
  obtain ⟨k, a, s, hk, rfl, rfl, hI⟩ := hrel
  by_cases hlt : k < 6
  ·have hq : (k : Int) < 6 := by omega
   have KN := hide (pnum_any w0 g wr s 1 hI.out.1 (by decide) (by decide))
   have hm256 := nm1_lt (s, 0)
   obtain ⟨f, hf⟩ : ∃ f, 6 - k = f + 1 := ⟨5 - k, by omega⟩
   have hgr := hI.out.2.2.1
   rw [hf, grp] at hgr
   rw [wrap_small (by omega)] at KN
   obtain ⟨m, hm⟩ : ∃ m, m = (nm (s, 0) 1).1 := ⟨_, rfl⟩
   obtain ⟨s1, hs1⟩ : ∃ m, m = (nm (s, 0) 1).2 := ⟨_, rfl⟩
   rw [← hm, ← hs1] at KN hgr
   rw [← hm] at hm256
   have HGR := hide hgr
   replace hm := hide hm
   replace hs1 := hide hs1
   clear hgr
   go_wp2_with fail
   refine KN.out.mono ?_
   rintro e w2 ⟨k2, b2, hc⟩
   clear KN
   rcases hc with ⟨hr0, rfl, p2⟩ | ⟨hr0, rfl⟩
   rotate_left
   ·have R1 := hide (And.intro (hI.out.2.1.trans k2) (And.intro b2 hr0))
    have hE : Hid (GR = (0, s1)) := by show _ = _; rw [← HGR.out, if_pos hr0]
    clear k2 b2 hr0
    go_wp2
    exact ⟨rfl, PEnd.stop (by rw [hE.out]) R1.out.2.2 R1.out.1 R1.out.2.1⟩
   have R2 := hide p2
   have K2 := hide (hI.out.2.1.trans k2)
   obtain ⟨rest1, e1⟩ := s1
   dsimp only at hr0 HGR R2
   subst hr0
   clear k2 b2 p2
   obtain ⟨q, hq128⟩ : ∃ q, q = m % 128 := ⟨_, rfl⟩
   have g1 : (m : Int).tmod 128 = (q : Int) := by rw [Int.tmod_eq_emod_of_nonneg (by omega)]; omega
   obtain ⟨a', ha'⟩ : ∃ a', a' = a + q * 2 ^ (7 * k) := ⟨_, rfl⟩
   have hst := grp_step (q := q) hI.out.2.2.2 (by omega) (show k ≤ 5 by omega)
   rw [← ha'] at hst
   have hOR := hide hst.1
   have ha9 := hide hst.2.1
   have haN := hst.2.2
   have hfk : Hid (f = 6 - (k + 1)) := by show _ = _; omega
   have haq : Hid (a' = a + (m % 128) * 2 ^ (7 * k)) := by show _ = _; rw [ha', hq128]
   replace hq128 := hide hq128
   clear hst ha'
   go_upto_region 7 with fail
   rw [hOR.out]
   by_cases hs : (m : Int) < 128
   ·have haq2 : Hid (a' = a + m * 2 ^ (7 * k)) := by show _ = _; rw [haq.out, Nat.mod_eq_of_lt (by omega)]
    by_cases hz : m = 0 ∧ 0 < k
    ·obtain ⟨hz0, hz1⟩ := hz
     have hE : Hid (GR = (a', (rest1, 4))) := by show _ = _; rw [← HGR.out, if_neg (by simp), if_pos (by omega), if_pos ⟨hz0, hz1⟩, haq2.out]
     have hk0 : (0 : Int) < (k : Int) := by omega
     have hm0 : ((m : Int) == 0) = true := by simp [hz0]
     replace hz0 := hide hz0
     go_wp2
     exact ⟨rfl, PEnd.stop (by rw [hE.out]) (by decide) K2.out R2.out.bel⟩
    ·have hE : Hid (GR = (a', (rest1, 0))) := by show _ = _; rw [← HGR.out, if_neg (by simp), if_pos (by omega), if_neg hz, haq2.out]
     by_cases hz0 : m = 0
     ·have hk0 : ¬ (0 : Int) < (k : Int) := by omega
      have hm0 : ((m : Int) == 0) = true := by simp [hz0]
      replace hz0 := hide hz0
      replace hz := hide hz
      go_wp2
      go_ret
      exact PEnd.ok (s := rest1) (by rw [hE.out]) (by rw [hE.out]; rfl) K2.out R2.out
     ·have hm0 : ((m : Int) == 0) = false := by simpa using hz0
      replace hz0 := hide hz0
      replace hz := hide hz
      go_wp2
      go_ret
      exact PEnd.ok (s := rest1) (by rw [hE.out]) (by rw [hE.out]; rfl) K2.out R2.out
   ·have hN : Hid (PRd w0 g w2 rest1 ∧ KpH g w w2 ∧ grp (6 - (k + 1)) (k + 1) a' (rest1, 0) = GR ∧ a' < 2 ^ (7 * (k + 1))) := by
     refine ⟨R2.out, K2.out, ?_, ha9.out⟩
     rw [← HGR.out, if_neg (by simp), if_neg (by omega), haq.out, ← hfk.out]
    have hm0 : ((m : Int) == 0) = false := by simp; omega
    go_wp2
    go_roundw
    case rel => exact ⟨k + 1, a', _, by omega, rfl, by go_num, hN⟩
    case measure => simp [intOf]; omega
  ·have hq : ¬ (k : Int) < 6 := by omega
   have hE : Hid (GR = (0, (s, 4))) := by
    show _ = _
    have h9 := hI.out.2.2.1
    rw [show 6 - k = 0 by omega] at h9
    rw [← h9]
    rfl
   go_wp2
   exact ⟨rfl, PEnd.stop (by rw [hE.out]) (by decide) hI.out.2.1 hI.out.1.bel⟩
end Go.Proofs.Ytdjjegaodgocmaa

namespace Go.Proofs.Ytdjjegaodgocmaa
open Go.RowKit
structure POpS (w0 : World) (g : Nat) (w : World) (g5 : Nat) (wr : World) (s : List UInt8) (x y z : Value) : Prop where
 rd : PRd w0 g wr s
 kp : KpH g w wr
 bo : wr.heap[g5]? = some (.cells #[x, y, z] 48 (0, 0))
 br : wr.heap[w.heap.size]? = some (.cells #[.int .i64 0, .string ⟨#[]⟩, .string ⟨#[]⟩] 48 (0, 0))
 h5 : w.heap.size < g5
 hg : g < w.heap.size ∧ w0.heap.size ≤ w.heap.size
theorem POpS.call {w0 : World} {g : Nat} {w : World} {g5 : Nat} {wr w' : World} {s s' : List UInt8} {x y z : Value} (h : POpS w0 g w g5 wr s x y z) (r : PRd w0 g w' s') (k : KpH g wr w') : POpS w0 g w g5 w' s' x y z := by
 have h1 := h.h5
 have h2 := h.hg
 exact ⟨r, h.kp.trans k, (k.1 _ (lt_of_block h.bo) (by omega)).trans h.bo, (k.1 _ (lt_of_block h.br) (by omega)).trans h.br, h1, h2⟩
theorem POpS.set {w0 : World} {g : Nat} {w : World} {g5 : Nat} {wr : World} {s : List UInt8} {x y z : Value} (h : POpS w0 g w g5 wr s x y z) (u : Value) :
  POpS w0 g w g5 (wr.setCell ⟨g5, 1, none⟩ u) s x u z ∧ POpS w0 g w g5 (wr.setCell ⟨g5, 2, none⟩ u) s x y u := by
 have h1 := h.h5
 have h2 := h.hg
 exact ⟨⟨h.rd.other (p := ⟨g5, 1, none⟩) (by show _ ≤ g5; omega) (by show g5 ≠ g; omega) _, h.kp.setO (p := ⟨g5, 1, none⟩) (by show _ ≤ g5; omega) _, (heap_set3q h.bo u).1, (Below.heap_setCell _ _ _ _ (show w.heap.size ≠ g5 by omega)).trans h.br, h1, h2⟩,
  ⟨h.rd.other (p := ⟨g5, 2, none⟩) (by show _ ≤ g5; omega) (by show g5 ≠ g; omega) _, h.kp.setO (p := ⟨g5, 2, none⟩) (by show _ ≤ g5; omega) _, (heap_set3q h.bo u).2, (Below.heap_setCell _ _ _ _ (show w.heap.size ≠ g5 by omega)).trans h.br, h1, h2⟩⟩
theorem POpS.fin {w0 : World} {g : Nat} {w : World} {g5 : Nat} {wr : World} {s : List UInt8} {x y z : Value} (h : POpS w0 g w g5 wr s x y z) (a b c : Value) :
  PRd w0 g (((wr.setCell ⟨w.heap.size, 0, none⟩ a).setCell ⟨w.heap.size, 1, none⟩ b).setCell ⟨w.heap.size, 2, none⟩ c) s ∧ KpH g w (((wr.setCell ⟨w.heap.size, 0, none⟩ a).setCell ⟨w.heap.size, 1, none⟩ b).setCell ⟨w.heap.size, 2, none⟩ c) := by
 have h2 := h.hg
 have q1 := fun i => (show w0.heap.size ≤ (⟨w.heap.size, i, none⟩ : Addr).block from h2.2)
 have q2 := fun i => (show (⟨w.heap.size, i, none⟩ : Addr).block ≠ g from by show w.heap.size ≠ g; omega)
 exact ⟨((h.rd.other (q1 0) (q2 0) a).other (q1 1) (q2 1) b).other (q1 2) (q2 2) c, ((h.kp.setO (p := ⟨w.heap.size, 0, none⟩) (Nat.le_refl _) a).setO (p := ⟨w.heap.size, 1, none⟩) (Nat.le_refl _) b).setO (p := ⟨w.heap.size, 2, none⟩) (Nat.le_refl _) c⟩
set_option maxRecDepth 100000 in
set_option maxHeartbeats 4000000 in
theorem pop_any (w0 : World) (g : Nat) (w : World) (s : List UInt8) (v : Int) (h : PRd w0 g w s) :
  Calls Try.prog 48 #[.pointer (some ⟨g, 0, none⟩), .int .i64 v] w fun e w' => PEnd w0 g w (.agg #[.int .i64 (rop v (s, 0)).1.1, st (rop v (s, 0)).1.2.1, st (rop v (s, 0)).1.2.2]) (rop v (s, 0)).2 e w' := by
 obtain ⟨X, hX, DX, bX, sX⟩ := boxedN w #[.int .i64 0, .string ⟨#[]⟩, .string ⟨#[]⟩] 48
 obtain ⟨hgw, hg0, hw0⟩ := h.lt
 have KN := pnum_any w0 g X s 1 (h.to bX) (by decide) (by decide)
 obtain ⟨RO, hRO⟩ : ∃ R, R = rop v (s, 0) := ⟨_, rfl⟩
 rw [← hRO]
 have hE := hide hRO
 have hm0 := nm1_lt (s, 0)
 rw [wrap_small (by omega)] at KN
 obtain ⟨m0, ⟨s0, e0⟩, hr0⟩ : ∃ m s', nm (s, 0) 1 = (m, s') := ⟨_, _, rfl⟩
 rw [hr0] at KN hm0
 dsimp only at KN hm0
 have KX : Hid (KpH g w X) := KpH.of bX
 have HDX := hide DX
 replace KN := hide KN
 have Hr0 := hide hr0
 rw [hX] at KN
 clear h DX bX sX hr0 hRO
 go_enter Try.func48, Try.ntmps48
 go_wp2_with fail
 refine KN.out.mono ?_
 rintro e w1 ⟨k1, b1, hc⟩
 rw [← hX] at k1
 replace hX := hide hX
 clear KN
 rcases hc with ⟨hq0, rfl, p1⟩ | ⟨hq0, rfl⟩
 rotate_left
 ·have RX := hide (And.intro (KX.out.trans k1) (And.intro b1 hq0))
  have hEE : Hid (RO.2.2 = e0) := by
   show _ = _
   rw [hE.out]
   unfold rop
   dsimp only
   rw [Hr0.out]
   try dsimp only
   all_goals try simp [nm_err (s := (s0, e0)) hq0, tk_err (s := (s0, e0)) hq0]
  clear k1 b1 hq0
  go_wp2
  exact ⟨rfl, PEnd.stop hEE.out RX.out.2.2 RX.out.1 RX.out.2.1⟩
 dsimp only at hq0 p1
 subst hq0
 have hXw : Hid (X.heap.size = w.heap.size + 1) := by show _ = _; rw [hX.out]; simp
 have D1 := (k1.1 _ (lt_of_block HDX.out) (by omega)).trans HDX.out
 have K1 := hide (KX.out.trans k1)
 have hw1 : Hid (w.heap.size + 1 ≤ w1.heap.size) := by show _ ≤ _; have := k1.2.1; rw [hXw.out] at this; exact this
 obtain ⟨Y, hY, DY, bY, sY⟩ := boxedN w1 #[.int .i64 (m0 : Int), .string ⟨#[]⟩, .string ⟨#[]⟩] 48
 have KN := hide (pnum_any w0 g Y s0 1 (p1.to bY) (by decide) (by decide))
 have hm1 := nm1_lt (s0, 0)
 rw [wrap_small (by omega)] at KN
 obtain ⟨m1, ⟨s1, e1⟩, hr1⟩ : ∃ m s', nm (s0, 0) 1 = (m, s') := ⟨_, _, rfl⟩
 rw [hr1] at KN hm1
 dsimp only at KN hm1
 have Hr1 := hide hr1
 have HDY := hide DY
 have HD1 := hide ((bY.block _ (lt_of_block D1)).trans D1)
 have KY := hide (K1.out.trans (KpH.of bY))
 have hY1 : Hid (Y.heap.size = w1.heap.size + 1) := sY
 have hg1 : Hid (g < w.heap.size ∧ w0.heap.size ≤ w.heap.size) := ⟨hgw, hw0⟩
 rw [hY] at KN
 clear k1 p1 b1 D1 DY bY sY hgw hg0 hw0 hr1
 go_wp2_with fail
 refine KN.out.mono ?_
 rintro e w2 ⟨k2, b2, hc⟩
 rw [← hY] at k2
 replace hY := hide hY
 clear KN
 rcases hc with ⟨hq0, rfl, p2⟩ | ⟨hq0, rfl⟩
 rotate_left
 ·have RX := hide (And.intro (KY.out.trans k2) (And.intro b2 hq0))
  have hEE : Hid (RO.2.2 = e1) := by
   show _ = _
   rw [hE.out]
   unfold rop
   dsimp only
   rw [Hr0.out]
   try dsimp only
   rw [Hr1.out]
   try dsimp only
   all_goals try simp [nm_err (s := (s1, e1)) hq0, tk_err (s := (s1, e1)) hq0]
  clear k2 b2 hq0
  go_wp2
  exact ⟨rfl, PEnd.stop hEE.out RX.out.2.2 RX.out.1 RX.out.2.1⟩
 dsimp only at hq0 p2
 subst hq0
 have hOS : Hid (POpS w0 g w w1.heap.size w2 s1 (.int .i64 (m0 : Int)) (.string ⟨#[]⟩) (.string ⟨#[]⟩)) := by
  have hgs := hg1.out
  have hws := hw1.out
  have h12 := hY1.out
  exact ⟨p2, KY.out.trans k2, (k2.1 _ (lt_of_block HDY.out) (by omega)).trans HDY.out, (k2.1 _ (lt_of_block HD1.out) (by omega)).trans HD1.out, by omega, hgs⟩
 clear k2 b2 p2
 by_cases hv : v = 1
 ·have hv1 : (v == 1) = true := by simpa using hv
  have KT := hide (ptext_any w0 g w2 s1 m1 hOS.out.rd (by omega))
  obtain ⟨key, ⟨s2, e2⟩, hr2⟩ : ∃ m s', tk (s1, 0) m1 = (m, s') := ⟨_, _, rfl⟩
  rw [hr2] at KT
  dsimp only at KT
  have Hr2 := hide hr2
  have HV := hide hv
  clear hr2 hv
  go_wp2_with fail
  refine KT.out.mono ?_
  rintro e w3 ⟨k3, b3, hc⟩
  clear KT
  rcases hc with ⟨hq0, rfl, p3⟩ | ⟨hq0, rfl⟩
  rotate_left
  ·have RX := hide (And.intro (hOS.out.kp.trans k3) (And.intro b3 hq0))
   have hEE : Hid (RO.2.2 = e2) := by
    show _ = _
    rw [hE.out]
    unfold rop
    dsimp only
    rw [if_pos HV.out]
    try dsimp only
    rw [Hr0.out]
    try dsimp only
    rw [Hr1.out]
    try dsimp only
    rw [Hr2.out]
    try dsimp only
    all_goals try simp [nm_err (s := (s2, e2)) hq0, tk_err (s := (s2, e2)) hq0]
   clear k3 b3 hq0
   go_wp2
   exact ⟨rfl, PEnd.stop hEE.out RX.out.2.2 RX.out.1 RX.out.2.1⟩
  dsimp only at hq0 p3
  subst hq0
  have OS3 := hide (hOS.out.call p3 k3)
  obtain ⟨⟨B0, B1, B2⟩, BF⟩ := cells3q OS3.out.bo
  obtain ⟨X3, hX3⟩ : ∃ X, X = w3.setCell ⟨w1.heap.size, 1, none⟩ (st key) := ⟨_, rfl⟩
  have OSX := hide (OS3.out.set (st key)).1
  rw [← hX3] at OSX
  have KN := hide (pnum_any w0 g X3 s2 2 OSX.out.rd (by decide) (by decide))
  have hm3 : (nm (s2, 0) 2).1 < 65536 := nm_lt (s2, 0) 2
  rw [wrap_small (by omega)] at KN
  obtain ⟨m3, ⟨s3, e3⟩, hr3⟩ : ∃ m s', nm (s2, 0) 2 = (m, s') := ⟨_, _, rfl⟩
  rw [hr3] at KN hm3
  dsimp only at KN hm3
  have Hr3 := hide hr3
  rw [hX3] at KN
  clear k3 b3 p3 hr3
  go_wp2_with fail
  refine KN.out.mono ?_
  rintro e w4 ⟨k4, b4, hc⟩
  rw [← hX3] at k4
  replace hX3 := hide hX3
  clear KN B0 B1 B2 BF
  rcases hc with ⟨hq0, rfl, p4⟩ | ⟨hq0, rfl⟩
  rotate_left
  ·have RX := hide (And.intro (OSX.out.kp.trans k4) (And.intro b4 hq0))
   have hEE : Hid (RO.2.2 = e3) := by
    show _ = _
    rw [hE.out]
    unfold rop
    dsimp only
    rw [if_pos HV.out]
    try dsimp only
    rw [Hr0.out]
    try dsimp only
    rw [Hr1.out]
    try dsimp only
    rw [Hr2.out]
    try dsimp only
    rw [Hr3.out]
    try dsimp only
    all_goals try simp [nm_err (s := (s3, e3)) hq0, tk_err (s := (s3, e3)) hq0]
   clear k4 b4 hq0
   go_wp2
   exact ⟨rfl, PEnd.stop hEE.out RX.out.2.2 RX.out.1 RX.out.2.1⟩
  dsimp only at hq0 p4
  subst hq0
  have OS4 := hide (OSX.out.call p4 k4)
  have KT := hide (ptext_any w0 g w4 s3 m3 p4 (by omega))
  obtain ⟨val, ⟨s4, e4⟩, hr4⟩ : ∃ m s', tk (s3, 0) m3 = (m, s') := ⟨_, _, rfl⟩
  rw [hr4] at KT
  dsimp only at KT
  have Hr4 := hide hr4
  clear k4 b4 p4 hr4
  go_wp2_with fail
  refine KT.out.mono ?_
  rintro e w5 ⟨k5, b5, hc⟩
  clear KT
  rcases hc with ⟨hq0, rfl, p5⟩ | ⟨hq0, rfl⟩
  rotate_left
  ·have RX := hide (And.intro (OS4.out.kp.trans k5) (And.intro b5 hq0))
   have hEE : Hid (RO.2.2 = e4) := by
    show _ = _
    rw [hE.out]
    unfold rop
    dsimp only
    rw [if_pos HV.out]
    try dsimp only
    rw [Hr0.out]
    try dsimp only
    rw [Hr1.out]
    try dsimp only
    rw [Hr2.out]
    try dsimp only
    rw [Hr3.out]
    try dsimp only
    rw [Hr4.out]
    try dsimp only
    all_goals try simp [nm_err (s := (s4, e4)) hq0, tk_err (s := (s4, e4)) hq0]
   clear k5 b5 hq0
   go_wp2
   exact ⟨rfl, PEnd.stop hEE.out RX.out.2.2 RX.out.1 RX.out.2.1⟩
  dsimp only at hq0 p5
  subst hq0
  have hZ : Hid (RO = (((m0 : Int), (key, val)), (s4, 0))) := by
   show _ = _
   rw [hE.out]
   unfold rop
   dsimp only
   rw [if_pos HV.out]
   try dsimp only
   rw [Hr0.out]
   try dsimp only
   rw [Hr1.out]
   try dsimp only
   rw [Hr2.out]
   try dsimp only
   rw [Hr3.out]
   try dsimp only
   rw [Hr4.out]
   try dsimp only
  have OS5 := hide (OS4.out.call p5 k5)
  obtain ⟨⟨B0, B1, B2⟩, BF⟩ := cells3q OS5.out.bo
  obtain ⟨X5, hX5⟩ : ∃ X, X = w5.setCell ⟨w1.heap.size, 2, none⟩ (st val) := ⟨_, rfl⟩
  have OSZ := hide (OS5.out.set (st val)).2
  rw [← hX5] at OSZ
  clear k5 b5 p5
  go_upto_region 6 with fail
  rw [← hX5]
  replace hX5 := hide hX5
  clear B0 B1 B2 BF
  obtain ⟨⟨B0, B1, B2⟩, _⟩ := cells3q OSZ.out.bo
  obtain ⟨⟨C0, C1, C2⟩, CF⟩ := cells3q OSZ.out.br
  go_wp2
  (try simp only [Exit.inBlock, Exit.then])
  refine retN rfl rfl w.heap.size rfl _ _ (0, 0) (heap_all3 OSZ.out.br _ _ _) _ Try.underlying48 rfl info_op13 ?_
  exact PEnd.ok (s := s4) (by rw [hZ.out]) (by rw [hZ.out]) (OSZ.out.fin _ _ _).2 (OSZ.out.fin _ _ _).1
 ·have hv1 : (v == 1) = false := by simpa using hv
  have KN := hide (pnum_any w0 g w2 s1 1 hOS.out.rd (by decide) (by decide))
  have hm3 := nm1_lt (s1, 0)
  rw [wrap_small (by omega)] at KN
  obtain ⟨m3, ⟨s2, e2⟩, hr2⟩ : ∃ m s', nm (s1, 0) 1 = (m, s') := ⟨_, _, rfl⟩
  rw [hr2] at KN hm3
  dsimp only at KN hm3
  have Hr2 := hide hr2
  have HV := hide hv
  clear hr2 hv
  go_wp2_with fail
  refine KN.out.mono ?_
  rintro e w3 ⟨k3, b3, hc⟩
  clear KN
  rcases hc with ⟨hq0, rfl, p3⟩ | ⟨hq0, rfl⟩
  rotate_left
  ·have RX := hide (And.intro (hOS.out.kp.trans k3) (And.intro b3 hq0))
   have hEE : Hid (RO.2.2 = e2) := by
    show _ = _
    rw [hE.out]
    unfold rop
    dsimp only
    rw [if_neg HV.out]
    try dsimp only
    rw [Hr0.out]
    try dsimp only
    rw [Hr1.out]
    try dsimp only
    rw [Hr2.out]
    try dsimp only
    all_goals try simp [nm_err (s := (s2, e2)) hq0, tk_err (s := (s2, e2)) hq0]
   clear k3 b3 hq0
   go_wp2
   exact ⟨rfl, PEnd.stop hEE.out RX.out.2.2 RX.out.1 RX.out.2.1⟩
  dsimp only at hq0 p3
  subst hq0
  have OS3 := hide (hOS.out.call p3 k3)
  have KT := hide (ptext_any w0 g w3 s2 m1 p3 (by omega))
  obtain ⟨key, ⟨s3, e3⟩, hr3⟩ : ∃ m s', tk (s2, 0) m1 = (m, s') := ⟨_, _, rfl⟩
  rw [hr3] at KT
  dsimp only at KT
  have Hr3 := hide hr3
  clear k3 b3 p3 hr3
  go_wp2_with fail
  refine KT.out.mono ?_
  rintro e w4 ⟨k4, b4, hc⟩
  clear KT
  rcases hc with ⟨hq0, rfl, p4⟩ | ⟨hq0, rfl⟩
  rotate_left
  ·have RX := hide (And.intro (OS3.out.kp.trans k4) (And.intro b4 hq0))
   have hEE : Hid (RO.2.2 = e3) := by
    show _ = _
    rw [hE.out]
    unfold rop
    dsimp only
    rw [if_neg HV.out]
    try dsimp only
    rw [Hr0.out]
    try dsimp only
    rw [Hr1.out]
    try dsimp only
    rw [Hr2.out]
    try dsimp only
    rw [Hr3.out]
    try dsimp only
    all_goals try simp [nm_err (s := (s3, e3)) hq0, tk_err (s := (s3, e3)) hq0]
   clear k4 b4 hq0
   go_wp2
   exact ⟨rfl, PEnd.stop hEE.out RX.out.2.2 RX.out.1 RX.out.2.1⟩
  dsimp only at hq0 p4
  subst hq0
  have OS3b := hide (OS3.out.call p4 k4)
  obtain ⟨⟨B0, B1, B2⟩, BF⟩ := cells3q OS3b.out.bo
  obtain ⟨X3, hX3⟩ : ∃ X, X = w4.setCell ⟨w1.heap.size, 1, none⟩ (st key) := ⟨_, rfl⟩
  have OS4 := hide (OS3b.out.set (st key)).1
  rw [← hX3] at OS4
  have KT := hide (ptext_any w0 g X3 s3 m3 OS4.out.rd (by omega))
  obtain ⟨val, ⟨s4, e4⟩, hr4⟩ : ∃ m s', tk (s3, 0) m3 = (m, s') := ⟨_, _, rfl⟩
  rw [hr4] at KT
  dsimp only at KT
  have Hr4 := hide hr4
  rw [hX3] at KT
  clear k4 b4 p4 hr4
  go_wp2_with fail
  refine KT.out.mono ?_
  rintro e w5 ⟨k5, b5, hc⟩
  rw [← hX3] at k5
  replace hX3 := hide hX3
  clear KT B0 B1 B2 BF
  rcases hc with ⟨hq0, rfl, p5⟩ | ⟨hq0, rfl⟩
  rotate_left
  ·have RX := hide (And.intro (OS4.out.kp.trans k5) (And.intro b5 hq0))
   have hEE : Hid (RO.2.2 = e4) := by
    show _ = _
    rw [hE.out]
    unfold rop
    dsimp only
    rw [if_neg HV.out]
    try dsimp only
    rw [Hr0.out]
    try dsimp only
    rw [Hr1.out]
    try dsimp only
    rw [Hr2.out]
    try dsimp only
    rw [Hr3.out]
    try dsimp only
    rw [Hr4.out]
    try dsimp only
    all_goals try simp [nm_err (s := (s4, e4)) hq0, tk_err (s := (s4, e4)) hq0]
   clear k5 b5 hq0
   go_wp2
   exact ⟨rfl, PEnd.stop hEE.out RX.out.2.2 RX.out.1 RX.out.2.1⟩
  dsimp only at hq0 p5
  subst hq0
  have hZ : Hid (RO = (((m0 : Int), (key, val)), (s4, 0))) := by
   show _ = _
   rw [hE.out]
   unfold rop
   dsimp only
   rw [if_neg HV.out]
   try dsimp only
   rw [Hr0.out]
   try dsimp only
   rw [Hr1.out]
   try dsimp only
   rw [Hr2.out]
   try dsimp only
   rw [Hr3.out]
   try dsimp only
   rw [Hr4.out]
   try dsimp only
  have OS5 := hide (OS4.out.call p5 k5)
  obtain ⟨⟨B0, B1, B2⟩, BF⟩ := cells3q OS5.out.bo
  obtain ⟨X5, hX5⟩ : ∃ X, X = w5.setCell ⟨w1.heap.size, 2, none⟩ (st val) := ⟨_, rfl⟩
  have OSZ := hide (OS5.out.set (st val)).2
  rw [← hX5] at OSZ
  clear k5 b5 p5
  go_upto_region 10 with fail
  rw [← hX5]
  replace hX5 := hide hX5
  clear B0 B1 B2 BF
  obtain ⟨⟨B0, B1, B2⟩, _⟩ := cells3q OSZ.out.bo
  obtain ⟨⟨C0, C1, C2⟩, CF⟩ := cells3q OSZ.out.br
  go_wp2
  (try simp only [Exit.inBlock, Exit.then])
  refine retN rfl rfl w.heap.size rfl _ _ (0, 0) (heap_all3 OSZ.out.br _ _ _) _ Try.underlying48 rfl info_op13 ?_
  exact PEnd.ok (s := s4) (by rw [hZ.out]) (by rw [hZ.out]) (OSZ.out.fin _ _ _).2 (OSZ.out.fin _ _ _).1
end Go.Proofs.Ytdjjegaodgocmaa

namespace Go.Proofs.Ytdjjegaodgocmaa
open Go.RowKit
theorem info_cm13 : (Try.prog.info? 24).map (·.size) = some 5 := by kernel_rfl
theorem rit_len (v : Int) (s : Rst) : ∀ k, (rit v s k).1.length ≤ k
 | 0 => by simp [rit]
 | k + 1 => by
  have := rit_len v s k
  rw [rit]
  split
  ·omega
  ·rw [List.length_append, List.length_singleton]; omega
theorem rit_stop {v : Int} {s : Rst} {k : Nat} (h : (rit v s k).2.2 ≠ 0) : ∀ n, rit v s (k + n) = rit v s k
 | 0 => rfl
 | n + 1 => by
  have := rit_stop h n
  rw [show k + (n + 1) = k + n + 1 by omega, rit, this, if_pos h]
theorem u64_and62 (M : Nat) (h : M < 18446744073709551616) : bits .and .u64 (M : Int) 4611686018427387903 = ((M % 2 ^ 62 : Nat) : Int) := by
 have key : (BitVec.ofInt 64 (M : Int) &&& BitVec.ofInt 64 4611686018427387903).toNat = M % 2 ^ 62 := by
  rw [BitVec.toNat_and, show (BitVec.ofInt 64 (4611686018427387903 : Int)).toNat = 2 ^ 62 - 1 by decide, BitVec.ofInt_natCast, BitVec.toNat_ofNat, Nat.mod_eq_of_lt (show M < 2 ^ 64 by omega), Nat.and_two_pow_sub_one_eq_mod]
 show IntKind.u64.wrap ((BitVec.ofInt 64 (M : Int) &&& BitVec.ofInt 64 4611686018427387903).toNat : Nat) = _
 rw [key, IntKind.wrap_u64]
 have := Nat.mod_lt M (show 0 < 2 ^ 62 by decide)
 omega
theorem DcS.grow {w : World} {gC : Nat} {wr w7 : World} {b : List UInt8} {s : Rst} {kind txn home verd : Int} {ov v7 : Value} {ops ops' : List Op3} (h : DcS w gC wr b s kind txn home verd ov ops) (b7 : Below (gC + 1) wr w7) (o7 : OwnO (gC + 1) w7 v7 ops') : DcS w gC (w7.setCell ⟨gC, 4, none⟩ v7) b s kind txn home verd v7 ops' := by
 have h1 := h.hC
 obtain ⟨a, c, L, at', r⟩ := h.rd
 have hbC := (b7.block gC (by omega)).trans h.bc
 refine ⟨⟨a, c, L, at', ?_, r.rd, r.len, r.le, r.rest, (r.bel.trans (b7.mono (by omega))).setCell (p := ⟨gC, 4, none⟩) (by show _ ≤ gC; omega) _, r.hg⟩, (heap_one5 hbC v7).2.2.2, ?_, row_set13 o7 (a := ⟨gC, 4, none⟩) (by show gC < _; omega) _, h1⟩
 ·exact (Below.heap_setCell _ _ _ _ (show w.heap.size + 1 ≠ gC by omega)).trans ((b7.block _ (by omega)).trans r.box)
 ·exact (Below.heap_setCell _ _ _ _ (show w.heap.size ≠ gC by omega)).trans ((b7.block _ (by omega)).trans h.br)
def RcD (w w' : World) (b : List UInt8) (e : Ending) : Prop := ∃ ov, e = .returned (.tuple #[cv (cdec b).1 ov, .int .i64 (cdec b).2.1, .int .i64 (cdec b).2.2]) ∧ OwnO w.heap.size w' ov (cdec b).1.ops ∧ Below w.heap.size w w'
theorem RcD.bad {w w' : World} {b : List UInt8} {er : Int} (h : cdec b = (czero, 0, er)) (bb : Below w.heap.size w w') : RcD w w' b (.returned (.tuple #[.agg #[.int .i64 0, .int .i64 0, .int .i64 0, .int .i64 0, .slice none 0 0], .int .i64 0, .int .i64 er])) :=
 ⟨.slice none 0 0, by rw [h]; rfl, by rw [h]; exact OwnO.nil _ _, bb⟩
theorem cvend_err {a : Nat × Cmd × Bool} {rest : List UInt8} {er : Int} (h : er ≠ 0) : cvend (a, (rest, er)) = (czero, 0, er) := by
 unfold cvend; exact if_pos h
theorem cvend_tail {a : Nat × Cmd × Bool} {rest : List UInt8} (h : 0 < rest.length) : cvend (a, (rest, 0)) = (czero, 0, 23) := by
 unfold cvend; rw [if_neg (by simp), if_pos h]
theorem cvend_fin {ver : Nat} {c : Cmd} {big : Bool} {rest : List UInt8} {d : Cmd} (h : rest.length = 0) (hd : cfin ((ver, c, big), (rest, 0)) = d) :
  cvend ((ver, c, big), (rest, 0)) = if ccheck d ≠ 0 then (czero, 0, ccheck d) else if (cenc d ver).2 ≠ 0 then (czero, 0, (cenc d ver).2) else (d, (ver : Int), 0) := by
 unfold cvend
 rw [if_neg (by simp), if_neg (by dsimp only; omega), hd]
theorem cfin_is (ver : Nat) (kind tx home verd : Int) (ops : List Op3) (big : Bool) (s : Rst) : cfin ((ver, ⟨kind, tx, home, verd, ops⟩, big), s) = ⟨kind, if big = true then 1099511627777 else tx, home, verd, ops⟩ := by
 unfold cfin
 cases big <;> rfl
set_option maxRecDepth 100000 in
set_option maxHeartbeats 16000000 in
theorem rcdec_any (w : World) (v : Value) (b : List UInt8) (h : Rd w v b) : Calls Try.prog 13 #[v] w fun e w' => RcD w w' b e := by
 obtain ⟨va, vc, rfl⟩ := h.slice
 obtain ⟨X, hX, DX, bX, sX⟩ := boxedN w #[.int .i64 0, .int .i64 0, .int .i64 0, .int .i64 0, .slice none 0 0] 24
 obtain ⟨L, hL⟩ : ∃ L, L = b.length := ⟨_, rfl⟩
 rw [← hL] at h ⊢
 obtain ⟨Y, hY, DY, bY, sY⟩ := boxedN X #[.slice va L vc, .int .i64 0, .int .i64 0] 59
 have r0 : RdC13 w (w.heap.size + 1) Y b (b, 0) := ⟨va, vc, L, 0, by rw [← sX]; exact DY, h, hL.symm, Nat.zero_le _, by simp, bX.trans (bY.mono bX.size), Nat.le_succ _⟩
 have KN := rcnum_any w (w.heap.size + 1) Y b (b, 0) 1 r0 (by decide)
 have hm0 := nm_lt (b, 0) 1
 obtain ⟨ver, s0, hr0⟩ : ∃ m s, nm (b, 0) 1 = (m, s) := ⟨_, _, rfl⟩
 rw [hr0] at KN hm0
 dsimp only at KN hm0
 have Hr0 := hide hr0
 have HDX := hide ((bY.block _ (lt_of_block DX)).trans DX)
 have hYs : Hid (Y.heap.size = w.heap.size + 1 + 1) := by show _ = _; rw [sY, sX]
 have c0 : IntKind.i64.wrap (ver : Int) = (ver : Int) := by rw [IntKind.wrap_i64]; omega
 replace KN := hide KN
 replace hL := hide hL
 rw [hY, hX] at KN
 clear h DX bX sX DY bY sY r0 hr0
 go_enter Try.func13, Try.ntmps13
 go_wp2_with fail
 refine KN.out.mono ?_
 rintro e w1 ⟨rfl, r1, k1⟩
 rw [← hX, ← hY] at k1
 replace hX := hide hX
 replace hY := hide hY
 clear KN
 have hlY := hYs.out
 have HD1 := hide ((k1.1 _ (lt_of_block HDX.out) (by omega)).trans HDX.out)
 have hw1 : Hid (w.heap.size + 1 < w1.heap.size) := by show _ < _; have := k1.2.1; omega
 obtain ⟨rest0, e0⟩ := s0
 have R1 := hide r1
 obtain ⟨ce, cf⟩ := r1.err
 dsimp only at ce
 clear r1 k1 hlY
 have BAD : Hid (∀ (wr : World) (er : Int), cdec b = (czero, 0, er) → Below w.heap.size w wr → RcD w (((((wr.setCell ⟨w.heap.size, 0, none⟩ (.int .i64 0)).setCell ⟨w.heap.size, 1, none⟩ (.int .i64 0)).setCell ⟨w.heap.size, 2, none⟩ (.int .i64 0)).setCell ⟨w.heap.size, 3, none⟩ (.int .i64 0)).setCell ⟨w.heap.size, 4, none⟩ (.slice none 0 0)) b (.returned (.tuple #[.agg #[.int .i64 0, .int .i64 0, .int .i64 0, .int .i64 0, .slice none 0 0], .int .i64 0, .int .i64 er]))) := fun wr er hc hb =>
  RcD.bad hc (by
   have q1 := fun i => (show w.heap.size ≤ (⟨w.heap.size, i, none⟩ : Addr).block from Nat.le_refl _)
   exact ((((hb.setCell (q1 0) _).setCell (q1 1) _).setCell (q1 2) _).setCell (q1 3) _).setCell (q1 4) _)
 -- an odd version
 by_cases hver : e0 = 0 ∧ ver ≠ 1 ∧ ver ≠ 2
 ·obtain ⟨q0, q1, q2⟩ := hver
  have hE : Hid (cdec b = (czero, 0, 131)) := by show _ = _; unfold cdec; rw [Hr0.out]; exact if_pos ⟨q0, q1, q2⟩
  subst q0
  have q1' : ((ver : Int) != 1) = true := by simp; omega
  have q2' : ((ver : Int) != 2) = true := by simp; omega
  replace q1 := hide q1
  replace q2 := hide q2
  obtain ⟨⟨A0, A1, A2, A3, A4⟩, AF⟩ := cells5c HD1.out
  go_wp2
  (try simp only [Exit.inBlock, Exit.then])
  refine retNTT (p := 2) (u1 := 3) (u2 := 4) (ty := 24) (by rfl) (by rfl) w.heap.size (by rfl) _ _ (0, 0) (heap_all5 HD1.out _ _ _ _ _) _ Try.underlying24 rfl info_cm13 (.int .i64 0) (by rfl) (.int .i64 131) (by rfl) ?_
  exact BAD.out _ _ hE.out R1.out.bel
 have hE0 : Hid (cdec b = cvend (crd0 (b, 0))) := by show _ = _; unfold cdec; rw [Hr0.out]; exact if_neg hver
 go_upto_region 3 with fail
 go_cut [31] from 19 to 31 (fun t wx => t = .bool false ∧ w1 = wx)
 case first =>
  by_cases q0 : e0 = 0
  ·subst q0
   by_cases q1 : ver = 1
   ·have q1' : ((ver : Int) != 1) = false := by simp [q1]
    replace q1 := hide q1
    replace hver := hide hver
    go_wp2_with fail
    go_meet
    exact ⟨rfl, rfl⟩
   ·have q1' : ((ver : Int) != 1) = true := by simp; omega
    have q2' : ((ver : Int) != 2) = false := by
     have : ver = 2 := Decidable.byContradiction fun k => hver ⟨rfl, q1, k⟩
     simp [this]
    replace q1 := hide q1
    replace hver := hide hver
    go_wp2_with fail
    go_meet
    exact ⟨rfl, rfl⟩
  ·have q0' : (e0 == 0) = false := by simpa using q0
   replace q0 := hide q0
   replace hver := hide hver
   go_wp2_with fail
   go_meet
   exact ⟨rfl, rfl⟩
 case rest =>
 obtain ⟨rfl, rfl⟩ := hcut
 clear ce cf
 -- the kind
 have KN := rcnum_any w (w.heap.size + 1) w1 b (rest0, e0) 1 R1.out (by decide)
 have hm1 := nm_lt (rest0, e0) 1
 obtain ⟨kind, s1, hr1⟩ : ∃ m s, nm (rest0, e0) 1 = (m, s) := ⟨_, _, rfl⟩
 rw [hr1] at KN hm1
 dsimp only at KN hm1
 have Hr1 := hide hr1
 have c1 : IntKind.i64.wrap (kind : Int) = (kind : Int) := by rw [IntKind.wrap_i64]; omega
 replace KN := hide KN
 clear hr1
 go_wp2_with fail
 refine KN.out.mono ?_
 rintro e w2 ⟨rfl, r2, k2⟩
 clear KN
 have hlw := hw1.out
 obtain ⟨Z, hZ, DZ, bZ, sZ⟩ := boxedN w2 #[.int .i64 (kind : Int), .int .i64 0, .int .i64 0, .int .i64 0, .slice none 0 0] 24
 have hS : Hid (DcS w w2.heap.size Z b s1 kind 0 0 0 (.slice none 0 0) []) :=
  ⟨r2.to bZ, DZ, (bZ.block _ (by have := k2.2.1; omega)).trans ((k2.1 _ (lt_of_block HD1.out) (by omega)).trans HD1.out), OwnO.nil _ _, by have := k2.2.1; omega⟩
 obtain ⟨gC, hgC⟩ : ∃ g, g = w2.heap.size := ⟨_, rfl⟩
 rw [← hgC] at hS
 obtain ⟨⟨tN, big⟩, s2, hr2⟩ : ∃ t s, ctx ver s1 = (t, s) := ⟨_, _, rfl⟩
 clear r2 k2 DZ bZ sZ hlw
 go_upto_if 38 with fail
 rw [← hZ, ← hgC]
 replace hZ := hide hZ
 replace hgC := hide hgC
 obtain ⟨⟨C0, C1, C2, C3, C4⟩, CF⟩ := cells5c hS.out.bc
 go_cut [8, 9] from 37 to 49 (fun bg n9 wx => bg = .bool big ∧ Hid (DcS w gC wx b s2 kind tN 0 0 (.slice none 0 0) []))
 case first =>
  by_cases v1 : ver = 1
  ·have v1' : ((ver : Int) == 1) = true := by simp [v1]
   have KN := rcnum_any w (w.heap.size + 1) Z b s1 8 hS.out.rd (by decide)
   have hm2 := nm_lt s1 8
   obtain ⟨M, s2', hr3⟩ : ∃ m s, nm s1 8 = (m, s) := ⟨_, _, rfl⟩
   rw [hr3] at KN hm2
   dsimp only at KN hm2
   have hM64 : M < 18446744073709551616 := by have e64 : (2 : Nat) ^ (8 * 8) = 18446744073709551616 := by decide
                                              omega
   have hcx : tN = M % 2 ^ 62 ∧ big = decide (2 ^ 40 < M) ∧ s2 = s2' := by
    unfold ctx at hr2
    rw [if_pos v1, hr3] at hr2
    simp only [Prod.mk.injEq] at hr2
    exact ⟨hr2.1.1.symm, hr2.1.2.symm, hr2.2.symm⟩
   obtain ⟨q1, q2, rfl⟩ := hcx
   have hT62 : tN < 4611686018427387904 := by rw [q1]; exact Nat.mod_lt M (by decide)
   have g1 : bits .and .u64 (M : Int) 4611686018427387903 = (tN : Int) := by rw [q1]; exact u64_and62 M hM64
   have g2 : IntKind.i64.wrap (tN : Int) = (tN : Int) := by rw [IntKind.wrap_i64]; omega
   replace KN := hide KN
   replace q1 := hide q1
   replace q2 := hide q2
   replace v1 := hide v1
   clear hr2 hr3
   go_wp2_with fail
   refine KN.out.mono ?_
   rintro e w3 ⟨rfl, r3, k3⟩
   clear KN C0 C1 C2 C3 C4 CF
   have S3 := hide (hS.out.call r3 k3)
   obtain ⟨⟨C0, C1, C2, C3, C4⟩, CF⟩ := cells5c S3.out.bc
   have F3 := hide (S3.out.set (tN : Int)).1
   clear r3 k3
   by_cases hb : (1099511627776 : Int) < (M : Int)
   ·have hbig : Hid (big = true) := by show _ = _; rw [q2.out]; exact decide_eq_true (by omega)
    go_wp2_with fail
    go_meet
    exact ⟨by rw [hbig.out], F3⟩
   ·have hbig : Hid (big = false) := by show _ = _; rw [q2.out]; exact decide_eq_false (by omega)
    go_wp2_with fail
    go_meet
    exact ⟨by rw [hbig.out]; first | rfl | (congr 1; exact decide_eq_false (by omega)), F3⟩
  ·have v1' : ((ver : Int) == 1) = false := by simp; omega
   have KG := rcgrp_any w (w.heap.size + 1) Z b s1 hS.out.rd
   have hcx : (grp 6 0 0 s1).1 = tN ∧ big = false ∧ (grp 6 0 0 s1).2 = s2 := by
    unfold ctx at hr2
    rw [if_neg v1] at hr2
    simp only [Prod.mk.injEq] at hr2
    exact ⟨hr2.1.1, hr2.1.2.symm, hr2.2⟩
   obtain ⟨q1, q2, q3⟩ := hcx
   rw [q1, q3] at KG
   replace KG := hide KG
   replace q1 := hide q1
   replace q2 := hide q2
   replace q3 := hide q3
   replace v1 := hide v1
   clear hr2
   go_wp2_with fail
   refine KG.out.mono ?_
   rintro e w3 ⟨rfl, r3, k3⟩
   clear KG C0 C1 C2 C3 C4 CF
   have S3 := hide (hS.out.call r3 k3)
   obtain ⟨⟨C0, C1, C2, C3, C4⟩, CF⟩ := cells5c S3.out.bc
   have F3 := hide (S3.out.set (tN : Int)).1
   clear r3 k3
   go_wp2_with fail
   go_meet
   exact ⟨by rw [q2.out], F3⟩
 case rest =>
 obtain ⟨rfl, hS2⟩ := hcut
 have Hr2 := hide hr2
 clear hr2 C0 C1 C2 C3 C4 CF
 -- home, verdict
 have KN := rcnum_any w (w.heap.size + 1) wc b s2 1 hS2.out.rd (by decide)
 have hm3 := nm_lt s2 1
 obtain ⟨home, s3, hr3⟩ : ∃ m s, nm s2 1 = (m, s) := ⟨_, _, rfl⟩
 rw [hr3] at KN hm3
 dsimp only at KN hm3
 have Hr3 := hide hr3
 have c3 : IntKind.i64.wrap (home : Int) = (home : Int) := by rw [IntKind.wrap_i64]; omega
 replace KN := hide KN
 clear hr3
 go_wp2_with fail
 refine KN.out.mono ?_
 rintro e w3 ⟨rfl, r3, k3⟩
 clear KN
 have S3 := hide (hS2.out.call r3 k3)
 obtain ⟨⟨C0, C1, C2, C3, C4⟩, CF⟩ := cells5c S3.out.bc
 have F3 := hide (S3.out.set (home : Int)).2.1
 obtain ⟨X3, hX3⟩ : ∃ X, X = w3.setCell ⟨gC, 2, none⟩ (.int .i64 (home : Int)) := ⟨_, rfl⟩
 rw [← hX3] at F3
 have KN := rcnum_any w (w.heap.size + 1) X3 b s3 1 F3.out.rd (by decide)
 have hm4 := nm_lt s3 1
 obtain ⟨verd, s4, hr4⟩ : ∃ m s, nm s3 1 = (m, s) := ⟨_, _, rfl⟩
 rw [hr4] at KN hm4
 dsimp only at KN hm4
 have Hr4 := hide hr4
 have c4 : IntKind.i64.wrap (verd : Int) = (verd : Int) := by rw [IntKind.wrap_i64]; omega
 rw [hX3] at KN
 replace KN := hide KN
 clear hr4 r3 k3
 go_wp2_with fail
 refine KN.out.mono ?_
 rintro e w4 ⟨rfl, r4, k4⟩
 rw [← hX3] at k4
 replace hX3 := hide hX3
 clear KN C0 C1 C2 C3 C4 CF
 have S4 := hide (F3.out.call r4 k4)
 obtain ⟨⟨C0, C1, C2, C3, C4⟩, CF⟩ := cells5c S4.out.bc
 have F4 := hide (S4.out.set (verd : Int)).2.2
 obtain ⟨X4, hX4⟩ : ∃ X, X = w4.setCell ⟨gC, 3, none⟩ (.int .i64 (verd : Int)) := ⟨_, rfl⟩
 rw [← hX4] at F4
 have KN := rcnum_any w (w.heap.size + 1) X4 b s4 1 F4.out.rd (by decide)
 have hm5 := nm_lt s4 1
 obtain ⟨cnt, s5, hr5⟩ : ∃ m s, nm s4 1 = (m, s) := ⟨_, _, rfl⟩
 rw [hr5] at KN hm5
 dsimp only at KN hm5
 have Hr5 := hide hr5
 have c5 : IntKind.i64.wrap (cnt : Int) = (cnt : Int) := by rw [IntKind.wrap_i64]; omega
 rw [hX4] at KN
 replace KN := hide KN
 clear hr5 r4 k4
 go_wp2_with fail
 refine KN.out.mono ?_
 rintro e w5 ⟨rfl, r5, k5⟩
 rw [← hX4] at k5
 replace hX4 := hide hX4
 clear KN C0 C1 C2 C3 C4 CF
 have S5 := hide (F4.out.call r5 k5)
 clear r5 k5
 go_wp2
 go_loopw [11] (fun p wr => ∃ (k : Nat) (ov : Value) (ops : List Op3) (s : Rst), k ≤ cnt ∧ p = .int .i64 k ∧ Hid (DcS w gC wr b s kind tN home verd ov ops ∧ rit (ver : Int) s5 k = (ops, s))) (fun p _ => cnt - (intOf p).toNat)
 case atStart => exact ⟨0, _, _, _, Nat.zero_le _, rfl, hide ⟨S5.out, rfl⟩⟩
 case round =>
  obtain ⟨k, ov, ops, s, hk, rfl, hI⟩ := hrel
  obtain ⟨ce, cf⟩ := hI.out.1.rd.err
  go_upto_region 16 with fail
  go_cut [70] from 61 to 80 (fun t wx => t = .bool (decide (k < cnt ∧ s.2 = 0)) ∧ wr = wx)
  case first =>
   by_cases hlt : k < cnt
   ·have hq : (k : Int) < (cnt : Int) := by omega
    by_cases he : s.2 = 0
    ·have he' : (s.2 == 0) = true := by simpa using he
     have hd := hide (show decide (k < cnt ∧ s.2 = 0) = true from decide_eq_true ⟨hlt, he⟩)
     replace he := hide he
     go_wp2_with fail
     go_meet
     exact ⟨by rw [hd.out], rfl⟩
    ·have he' : (s.2 == 0) = false := by simpa using he
     have hd := hide (show decide (k < cnt ∧ s.2 = 0) = false from decide_eq_false (fun q => he q.2))
     replace he := hide he
     go_wp2_with fail
     go_meet
     exact ⟨by rw [hd.out], rfl⟩
   ·have hq : ¬ (k : Int) < (cnt : Int) := by omega
    have hd := hide (show decide (k < cnt ∧ s.2 = 0) = false from decide_eq_false (fun q => hlt q.1))
    go_wp2_with fail
    go_meet
    exact ⟨by rw [hd.out], rfl⟩
  case rest =>
  obtain ⟨rfl, rfl⟩ := hcut
  by_cases hgo : k < cnt ∧ s.2 = 0
  ·rw [decide_eq_true hgo]
   obtain ⟨hlt, he⟩ := hgo
   have hl := rit_len (ver : Int) s5 k
   rw [hI.out.2] at hl
   dsimp only at hl
   have hnx : Hid (rit (ver : Int) s5 (k + 1) = (ops ++ [(rop (ver : Int) s).1], (rop (ver : Int) s).2)) := by
    show _ = _
    rw [rit, hI.out.2]
    dsimp only
    rw [if_neg (by rw [he]; simp)]
   obtain ⟨⟨yk, key, val⟩, s6, hro⟩ : ∃ y s', rop (ver : Int) s = (y, s') := ⟨_, _, rfl⟩
   rw [hro] at hnx
   have bd : Below wr.heap.size wr wr.drew := below_drewN' wr 1 _
   have ID := hide (hI.out.1.to bd)
   have KO := rcop_any w (w.heap.size + 1) wr.drew b s (ver : Int) ID.out.rd
   rw [hro] at KO
   dsimp only at KO
   replace KO := hide KO
   obtain ⟨⟨_, _, _, _, c4⟩, _⟩ := cells5c ID.out.bc
   have HC := hide c4
   have hon : Hid (ops.length ≤ 255) := by show _ ≤ _; omega
   replace he := hide he
   clear hro c4 bd ce cf
   go_upto_region 18 with fail
   refine wp_region_mid (fun w' => w'.cell? ⟨gC, 4, none⟩ = some ov) 4 7 mixed (by kernel_rfl) (fun _ _ _ _ h => h) HC.out ?_
   dsimp only [List.take, List.drop]
   obtain ⟨U, hU⟩ : ∃ U, U = wr.drew := ⟨_, rfl⟩
   rw [← hU] at ID HC KO ⊢
   replace hU := hide hU
   iterate 4
    refine take_one (v := ?_) (by rfl) ?_ ?_
    rotate_left
    ·rintro w' s1
     go_simp
     try with_reducible rfl
    try simp only [Act.put, List.setIfInBounds_toArray, List.set_cons_zero, List.set_cons_succ]
   refine mid_one fun K hK => ?_
   refine step_call (by rfl) 30 _ _ (by rfl) #[.pointer (some ⟨w.heap.size + 1, 0, none⟩), .int .i64 (ver : Int)] (by simp [Act.eval]) (Try.call30 _ _) KO.out ?_
   rintro e w6 ⟨rfl, r6, k6⟩
   have S6 := hide (ID.out.call r6 k6)
   obtain ⟨⟨_, _, _, _, x4⟩, _⟩ := cells5c S6.out.bc
   refine ⟨_, rfl, hK _ _ x4 ?_⟩
   clear hK K r6 k6 KO
   try simp only [Act.put, List.setIfInBounds_toArray, List.set_cons_zero, List.set_cons_succ]
   refine mid_one fun K hK => ?_
   rw [if_pos (by rfl)]
   go_simp
   obtain ⟨Z, hZ, DZ, bZ, sZ⟩ := boxedN w6 #[.int .i64 yk, st key, st val] 48
   rw [← hZ]
   have SZ := hide (S6.out.to bZ)
   obtain ⟨⟨_, _, _, _, z4⟩, _⟩ := cells5c SZ.out.bc
   obtain ⟨⟨Z0, Z1, Z2⟩, _⟩ := cells3q DZ
   refine hK _ _ z4 ?_
   clear hK K x4
   try simp only [Act.put, List.setIfInBounds_toArray, List.set_cons_zero, List.set_cons_succ]
   refine mid_one fun K hK => ?_
   refine step_apO rfl _ _ rfl (gC + 1) ov ops (yk, (key, val)) w6.heap.size rfl rfl SZ.out.ow Z0 Z1 Z2 (by have := hon.out; omega) SZ.out.lt ?_
   intro v7 w7 o7 b7 q7
   obtain ⟨n7, hn7⟩ : ∃ n, n = (ops ++ [(yk, (key, val))]).length := ⟨_, rfl⟩
   obtain ⟨a7, p7, e7⟩ := o7.rd.slice
   rw [← hn7] at e7
   subst e7
   replace hn7 := hide hn7
   have F7 := hide (SZ.out.grow b7 o7)
   have c7 : w7.cell? ⟨gC, 4, none⟩ = some ov := (b7.cell (p := ⟨gC, 4, none⟩) (show gC < gC + 1 by omega)).trans z4
   have f7 : w7.frozen? ⟨gC, 4, none⟩ = false := by
    have := (b7.block gC (by omega)).trans SZ.out.bc
    exact (cells5c this).2 4
   refine hK _ _ c7 ?_
   clear hK K z4 Z0 Z1 Z2 DZ bZ sZ hZ o7 b7 q7
   try simp only [Act.put, List.setIfInBounds_toArray, List.set_cons_zero, List.set_cons_succ]
   show wpList _ _ _ _ _ _
   have hq : (k : Int) < (cnt : Int) := by omega
   go_wp2
   go_roundw
   case rel => exact ⟨k + 1, _, _, _, by omega, by go_num, hide ⟨F7.out, hnx.out⟩⟩
   case measure => simp [intOf]; omega
  ·rw [decide_eq_false hgo]
   have hrit : rit (ver : Int) s5 cnt = (ops, s) := by
    by_cases hkc : k = cnt
    ·rw [← hkc]; exact hI.out.2
    ·have he : s.2 ≠ 0 := fun q => hgo ⟨by omega, q⟩
     have := rit_stop (v := (ver : Int)) (s := s5) (k := k) (by rw [hI.out.2]; exact he) (cnt - k)
     rw [show k + (cnt - k) = cnt by omega, hI.out.2] at this
     exact this
   have hcrd : Hid (crd0 (b, 0) = ((ver, ⟨kind, tN, home, verd, ops⟩, big), s)) := by
    show _ = _
    unfold crd0
    rw [Hr0.out]
    dsimp only
    unfold crd1
    rw [Hr1.out]
    dsimp only
    unfold crd2
    rw [Hr2.out]
    dsimp only
    unfold crd3
    rw [Hr3.out]
    dsimp only
    unfold crd4
    rw [Hr4.out]
    dsimp only
    unfold crd5
    rw [Hr5.out]
    dsimp only
    unfold crd6
    rw [hrit]
   clear hrit hgo hk
   have hS := hide hI.out.1
   obtain ⟨rest, er⟩ := s
   dsimp only at ce
   have hE1 := hide (hE0.out.trans (congrArg cvend hcrd.out))
   clear hcrd hE0 Hr0 Hr1 Hr2 Hr3 Hr4 Hr5
   obtain ⟨⟨A0, A1, A2, A3, A4⟩, AF⟩ := cells5c hS.out.br
   by_cases he : er ≠ 0
   ·have hE : Hid (cdec b = (czero, 0, er)) := by show _ = _; rw [hE1.out]; exact cvend_err he
    have he' : (er != 0) = true := by simpa using he
    replace he := hide he
    obtain ⟨ra, rc, rL, at', RA⟩ := hS.out.rd
    have HC := hide RA.box
    have HD := hide (hS.out.to (below_drewN' wr 1 _))
    have HX := hide ((below_drewN' wr 1 _).block _ (lt_of_block RA.box))
    clear cf A0 A1 A2 A3 A4 AF RA
    go_upto_region 20 with fail
    clear ce
    refine wp_region_mid (fun w' => w'.heap[w.heap.size + 1]? = some (.cells #[.slice ra rL rc, .int .i64 (at' : Int), .int .i64 er] 59 (0, 0))) 5 7 mixed (by kernel_rfl) (fun _ _ _ _ h => h) HC.out ?_
    dsimp only [List.take, List.drop]
    have HU := hide (HX.out.trans HC.out)
    obtain ⟨U, hU⟩ : ∃ U, U = wr.drew := ⟨_, rfl⟩
    have hUU : Hid (Below w.heap.size w U ∧ U.heap[w.heap.size]? = some (.cells #[.int .i64 0, .int .i64 0, .int .i64 0, .int .i64 0, .slice none 0 0] 24 (0, 0)) ∧ U.heap[w.heap.size + 1]? = some (.cells #[.slice ra rL rc, .int .i64 (at' : Int), .int .i64 er] 59 (0, 0))) := by rw [hU]; exact ⟨HD.out.rd.bel, HD.out.br, HU.out⟩
    rw [← hU]
    replace hU := hide hU
    clear HD HX HU HC
    iterate 5
     refine take_one (v := ?_) (by rfl) ?_ ?_
     rotate_left
     ·rintro w' s1
      obtain ⟨⟨E0, E1, E2⟩, EF⟩ := cells3q s1
      clear s1
      go_simp
      try with_reducible rfl
     try simp only [Act.put, List.setIfInBounds_toArray, List.set_cons_zero, List.set_cons_succ]
    obtain ⟨⟨A0, A1, A2, A3, A4⟩, AF⟩ := cells5c hUU.out.2.1
    have hne : w.heap.size + 1 ≠ w.heap.size := by omega
    replace hne := hide hne
    refine mid_one fun K hK => ?_
    rw [if_pos (by rfl)]
    go_simp
    have hq : ((((((U.setCell ⟨w.heap.size, 0, none⟩ (.int .i64 0)).setCell ⟨w.heap.size, 1, none⟩ (.int .i64 0)).setCell ⟨w.heap.size, 2, none⟩ (.int .i64 0)).setCell ⟨w.heap.size, 3, none⟩ (.int .i64 0)).setCell ⟨w.heap.size, 4, none⟩ (.slice none 0 0)).heap[w.heap.size + 1]? = some (.cells #[.slice ra rL rc, .int .i64 (at' : Int), .int .i64 er] 59 (0, 0))) :=
     (Below.heap_setCell _ _ _ _ hne.out).trans ((Below.heap_setCell _ _ _ _ hne.out).trans ((Below.heap_setCell _ _ _ _ hne.out).trans ((Below.heap_setCell _ _ _ _ hne.out).trans ((Below.heap_setCell _ _ _ _ hne.out).trans hUU.out.2.2))))
    replace hq := hide hq
    refine hK _ _ hq.out ?_
    clear hK K A0 A1 A2 A3 A4 AF
    refine mid_one fun K hK => ?_
    rw [if_pos (by rfl)]
    go_simp
    refine hK _ _ hq.out ?_
    clear hK K
    show wpList _ _ _ _ _ _
    go_wp2
    (try simp only [Exit.inBlock, Exit.then])
    refine retNTT (p := 2) (u1 := 3) (u2 := 4) (ty := 24) (by rfl) (by rfl) w.heap.size (by rfl) _ _ (0, 0) (heap_all5 hUU.out.2.1 _ _ _ _ _) _ Try.underlying24 rfl info_cm13 (.int .i64 0) (by rfl) (.int .i64 er) (by rfl) ?_
    exact BAD.out _ _ hE.out hUU.out.1
   have he : er = 0 := Decidable.byContradiction he
   subst he
   obtain ⟨ra, rc, rL, at', RA⟩ := hS.out.rd
   obtain ⟨⟨_, B1, _⟩, BF⟩ := cells3q RA.box
   have hrL : rL = L := by rw [← RA.len, hL.out]
   have hrl : rest.length = L - at' := by
    have := RA.rest
    dsimp only at this
    rw [this, List.length_drop, RA.len, hrL]
   replace RA := hide RA
   by_cases ht : (at' : Int) < (L : Int)
   ·have hE : Hid (cdec b = (czero, 0, 23)) := by show _ = _; rw [hE1.out]; exact cvend_tail (by omega)
    go_wp2
    (try simp only [Exit.inBlock, Exit.then])
    refine retNTT (p := 2) (u1 := 3) (u2 := 4) (ty := 24) (by rfl) (by rfl) w.heap.size (by rfl) _ _ (0, 0) (heap_all5 hS.out.br _ _ _ _ _) _ Try.underlying24 rfl info_cm13 (.int .i64 0) (by rfl) (.int .i64 23) (by rfl) ?_
    exact BAD.out _ _ hE.out hS.out.rd.bel
   have hr0 : rest.length = 0 := by omega
   obtain ⟨T, hT⟩ : ∃ T : Int, T = if big = true then 1099511627777 else (tN : Int) := ⟨_, rfl⟩
   have hF : Hid (cfin ((ver, (⟨kind, tN, home, verd, ops⟩ : Cmd), big), (rest, 0)) = ⟨kind, T, home, verd, ops⟩) := by show _ = _; rw [hT]; exact cfin_is _ _ _ _ _ _ _ _
   replace hE1 := hide (hE1.out.trans (cvend_fin hr0 hF.out))
   clear hr0 hrl hF
   replace hT := hide hT
   obtain ⟨⟨C0, C1, C2, C3, C4⟩, CF⟩ := cells5c hS.out.bc
   obtain ⟨oa, oc, ho4⟩ := hS.out.ow.rd.slice
   subst ho4
   go_upto_if 101 with fail
   go_cut [101] from 101 to 102 (fun t wx => t = .bool big ∧ Hid (DcS w gC wx b (rest, 0) kind T home verd (.slice oa ops.length oc) ops))
   case first =>
    cases big
    ·have hTT := hide (show T = (tN : Int) by simpa using hT.out)
     replace hT := hide hT
     go_wp2_with fail
     go_meet
     exact ⟨rfl, by rw [hTT.out]; exact hS⟩
    ·have hTT := hide (show T = 1099511627777 by simpa using hT.out)
     replace hT := hide hT
     go_wp2_with fail
     go_meet
     exact ⟨rfl, by rw [hTT.out]; exact hide (hS.out.set 1099511627777).1⟩
   case rest =>
   obtain ⟨rfl, hS6⟩ := hcut
   clear C0 C1 C2 C3 C4 CF
   have KC := rccheck_any wc ⟨kind, T, home, verd, ops⟩ (.slice oa ops.length oc) hS6.out.ow.rd
   obtain ⟨cc, hcc⟩ : ∃ z, z = ccheck ⟨kind, T, home, verd, ops⟩ := ⟨_, rfl⟩
   rw [← hcc] at KC
   dsimp only [cv] at KC
   replace KC := hide KC
   replace hcc := hide hcc
   obtain ⟨⟨C0, C1, C2, C3, C4⟩, CF⟩ := cells5c hS6.out.bc
   go_wp2_with fail
   refine KC.out.mono ?_
   rintro e w7 ⟨rfl, b7⟩
   clear KC C0 C1 C2 C3 C4 CF
   have S7 := hide (hS6.out.to b7)
   clear b7 A0 A1 A2 A3 A4 AF
   by_cases hc : cc ≠ 0
   ·have hE : Hid (cdec b = (czero, 0, cc)) := by show _ = _; rw [hE1.out, ← hcc.out]; exact if_pos hc
    have hc' : (cc != 0) = true := by simpa using hc
    replace hc := hide hc
    obtain ⟨⟨A0, A1, A2, A3, A4⟩, AF⟩ := cells5c S7.out.br
    go_wp2
    (try simp only [Exit.inBlock, Exit.then])
    refine retNTT (p := 2) (u1 := 3) (u2 := 4) (ty := 24) (by rfl) (by rfl) w.heap.size (by rfl) _ _ (0, 0) (heap_all5 S7.out.br _ _ _ _ _) _ Try.underlying24 rfl info_cm13 (.int .i64 0) (by rfl) (.int .i64 cc) (by rfl) ?_
    exact BAD.out _ _ hE.out S7.out.rd.bel
   have hc : cc = 0 := Decidable.byContradiction hc
   replace hE1 := hide (hE1.out.trans (if_neg (by rw [← hcc.out, hc]; simp)))
   have hc' : (cc != 0) = false := by simp [hc]
   replace hc := hide hc
   have KE := rcencode_any w7 ⟨kind, T, home, verd, ops⟩ (.slice oa ops.length oc) ver S7.out.ow.rd
   obtain ⟨ce', hce⟩ : ∃ z, z = (cenc ⟨kind, T, home, verd, ops⟩ ver).2 := ⟨_, rfl⟩
   rw [← hce] at KE
   dsimp only [cv] at KE
   replace KE := hide KE
   replace hce := hide hce
   obtain ⟨⟨C0, C1, C2, C3, C4⟩, CF⟩ := cells5c S7.out.bc
   go_wp2_with fail
   refine KE.out.mono ?_
   rintro e w8 ⟨x8, rfl, -, b8⟩
   clear KE C0 C1 C2 C3 C4 CF
   have S8 := hide (S7.out.to b8)
   clear b8
   by_cases hd : ce' ≠ 0
   ·have hE : Hid (cdec b = (czero, 0, ce')) := by show _ = _; rw [hE1.out, ← hce.out]; exact if_pos hd
    have hd' : (ce' != 0) = true := by simpa using hd
    replace hd := hide hd
    obtain ⟨⟨A0, A1, A2, A3, A4⟩, AF⟩ := cells5c S8.out.br
    go_wp2
    (try simp only [Exit.inBlock, Exit.then])
    refine retNTT (p := 2) (u1 := 3) (u2 := 4) (ty := 24) (by rfl) (by rfl) w.heap.size (by rfl) _ _ (0, 0) (heap_all5 S8.out.br _ _ _ _ _) _ Try.underlying24 rfl info_cm13 (.int .i64 0) (by rfl) (.int .i64 ce') (by rfl) ?_
    exact BAD.out _ _ hE.out S8.out.rd.bel
   have hd : ce' = 0 := Decidable.byContradiction hd
   replace hE1 := hide (hE1.out.trans (if_neg (by rw [← hce.out, hd]; simp)))
   have hd' : (ce' != 0) = false := by simp [hd]
   replace hd := hide hd
   obtain ⟨⟨C0, C1, C2, C3, C4⟩, CF⟩ := cells5c S8.out.bc
   obtain ⟨⟨A0, A1, A2, A3, A4⟩, AF⟩ := cells5c S8.out.br
   go_wp2
   (try simp only [Exit.inBlock, Exit.then])
   refine retNTT (p := 2) (u1 := 3) (u2 := 4) (ty := 24) (by rfl) (by rfl) w.heap.size (by rfl) _ _ (0, 0) (heap_all5 S8.out.br _ _ _ _ _) _ Try.underlying24 rfl info_cm13 (.int .i64 ver) (by rfl) (.int .i64 0) (by rfl) ?_
   obtain ⟨f1, f2⟩ := S8.out.fin (.int .i64 kind) (.int .i64 T) (.int .i64 home) (.int .i64 verd) (.slice oa ops.length oc)
   refine ⟨.slice oa ops.length oc, ?_, ?_, f1⟩
   ·rw [hE1.out]
   ·rw [hE1.out]; exact f2
end Go.Proofs.Ytdjjegaodgocmaa

namespace Go.Proofs.Ytdjjegaodgocmaa
open Go.RowKit
theorem assert_stop (W : World) (v : Value) : (Instr.typeAssert (.iface 72 v) 20 72 false).run Try.prog W = .ok v W := by kernel_rfl
theorem field_stop (W : World) (v : Value) : (Instr.field 72 (.agg #[v]) 0).run Try.prog W = .ok v W := by kernel_rfl
set_option maxRecDepth 100000 in
theorem pcatch_stop (g : Nat) (x : Value) (er : Int) (older : List PanicEntry) (w : World) (hc : w.heap[g]? = some (.cells #[x] 28 (0, 0))) :
  CallsD Try.prog 44 #[.pointer (some ⟨g, 0, none⟩)] (.panicking ({ v := .iface 72 (.agg #[.int .i64 er]), recovered := false } :: older)) w fun e u' w' =>
   e = .returned (.tuple #[]) ∧ u' = .panicking ({ v := .iface 72 (.agg #[.int .i64 er]), recovered := true } :: older) ∧ w' = w.setCell ⟨g, 0, none⟩ (.int .i64 er) := by
 have c0 : w.cell? ⟨g, 0, none⟩ = some x := by rw [cell_of_row _ _ 0 _ _ (0, 0) hc]; rfl
 have z0 : w.frozen? ⟨g, 0, none⟩ = false := by simp [World.frozen?, hc]
 refine callsD_of_wpS Try.func44 rfl fun c₀ cs hu => ?_
 apply wpS_seq
 apply wpS_region
 simp [wpOpsS, go_sem, recoverD, hu, Try.ntmps44, Exit.thenS]
 refine wpS_of_wp ?_
 have hta := fun W v => assert_stop W v
 have htf := fun W v => field_stop W v
 go_wp2
 simp_all [bodyPostS, results, Try.results44]
set_option maxRecDepth 100000 in
theorem pcatch_idle (p : Addr) (w : World) :
  CallsD Try.prog 44 #[.pointer (some p)] .returning w fun e u' w' => e = .returned (.tuple #[]) ∧ u' = .returning ∧ w' = w := by
 refine callsD_of_wpS Try.func44 rfl fun c₀ cs hu => ?_
 apply wpS_seq
 apply wpS_region
 simp [wpOpsS, go_sem, recoverD, hu, Try.ntmps44, Exit.thenS]
 refine wpS_of_wp ?_
 go_wp2
 cases c₀
 simp_all [bodyPostS, results, Try.results44]
set_option maxRecDepth 100000 in
theorem pdoor_stop {R : Ending → World → Prop} {tmps : Array Value} {w' : World} {gR gE : Nat} {ver er : Int} {a b c d e x : Value} (h2 : tmps.getD 2 undef = .pointer (some ⟨gR, 0, none⟩)) (h3 : tmps.getD 3 undef = .int .i64 ver) (h4 : tmps.getD 4 undef = .pointer (some ⟨gE, 0, none⟩))
  (bc : w'.heap[gR]? = some (.cells #[a, b, c, d, e] 24 (0, 0))) (be : w'.heap[gE]? = some (.cells #[x] 28 (0, 0))) (hne : gR ≠ gE)
  (hR : R (.returned (.tuple #[.agg #[a, b, c, d, e], .int .i64 ver, .int .i64 er])) (w'.setCell ⟨gE, 0, none⟩ (.int .i64 er))) :
  bodyPostD Try.prog Try.f27 R (.panic [{ v := .iface 72 (.agg #[.int .i64 er]), recovered := false }]) { tmps := tmps, defers := [{ target := Target.fn (Fn.func 44) #[.pointer (some ⟨gE, 0, none⟩)], args := #[] }] } w' := by
 refine leaves_cons (f := 44) (args := #[.pointer (some ⟨gE, 0, none⟩)]) (by simp) (by simp [go_sem]) ?_
 refine (pcatch_stop gE x er [] w' be).mono ?_
 rintro e u' w'' ⟨rfl, rfl, rfl⟩
 have k2 : tmps[2]?.getD undef = .pointer (some ⟨gR, 0, none⟩) := by simpa using h2
 have k3 : tmps[3]?.getD undef = .int .i64 ver := by simpa using h3
 have k4 : tmps[4]?.getD undef = .pointer (some ⟨gE, 0, none⟩) := by simpa using h4
 have hb : (w'.setCell ⟨gE, 0, none⟩ (.int .i64 er)).heap[gR]? = some (.cells #[a, b, c, d, e] 24 (0, 0)) := (Below.heap_setCell _ _ _ _ hne).trans bc
 have hx : (w'.setCell ⟨gE, 0, none⟩ (.int .i64 er)).cell? ⟨gE, 0, none⟩ = some (.int .i64 er) := by
  have : (w'.setCell ⟨gE, 0, none⟩ (.int .i64 er)).heap[gE]? = some (.cells #[.int .i64 er] 28 (0, 0)) := by simp [World.setCell, Array.getElem?_modify, be]
  rw [cell_of_row _ _ 0 _ _ (0, 0) this]; rfl
 obtain ⟨⟨C0, C1, C2, C3, C4⟩, _⟩ := cells5c hb
 generalize w'.setCell ⟨gE, 0, none⟩ (.int .i64 er) = z at *
 show ∃ v, (results Try.f27 tmps).run Try.prog z = .ok v z ∧ R (.returned v) z
 refine ⟨_, ?_, hR⟩
 simp [results, Try.results27, k2, k3, k4, asAddr, go_sem, hx, C0, C1, C2, C3, C4]
set_option maxRecDepth 100000 in
theorem pdoor_ok {R : Ending → World → Prop} {tmps : Array Value} {w' : World} {gR gE : Nat} {ver er : Int} {a b c d e : Value} (h2 : tmps.getD 2 undef = .pointer (some ⟨gR, 0, none⟩)) (h3 : tmps.getD 3 undef = .int .i64 ver) (h4 : tmps.getD 4 undef = .pointer (some ⟨gE, 0, none⟩))
  (bc : w'.heap[gR]? = some (.cells #[a, b, c, d, e] 24 (0, 0))) (be : w'.heap[gE]? = some (.cells #[.int .i64 er] 28 (0, 0)))
  (hR : R (.returned (.tuple #[.agg #[a, b, c, d, e], .int .i64 ver, .int .i64 er])) w') :
  bodyPostD Try.prog Try.f27 R .ret { tmps := tmps, defers := [{ target := Target.fn (Fn.func 44) #[.pointer (some ⟨gE, 0, none⟩)], args := #[] }] } w' := by
 refine leaves_cons (f := 44) (args := #[.pointer (some ⟨gE, 0, none⟩)]) (by simp) (by simp [go_sem]) ?_
 have hx : w'.cell? ⟨gE, 0, none⟩ = some (.int .i64 er) := by rw [cell_of_row _ _ 0 _ _ (0, 0) be]; rfl
 obtain ⟨⟨C0, C1, C2, C3, C4⟩, _⟩ := cells5c bc
 refine (pcatch_idle ⟨gE, 0, none⟩ w').mono ?_
 rintro e u' w'' ⟨rfl, rfl, rfl⟩
 have k2 : tmps[2]?.getD undef = .pointer (some ⟨gR, 0, none⟩) := by simpa using h2
 have k3 : tmps[3]?.getD undef = .int .i64 ver := by simpa using h3
 have k4 : tmps[4]?.getD undef = .pointer (some ⟨gE, 0, none⟩) := by simpa using h4
 show ∃ v, (results Try.f27 tmps).run Try.prog _ = .ok v _ ∧ R (.returned v) _
 refine ⟨_, ?_, hR⟩
 simp [results, Try.results27, k2, k3, k4, asAddr, go_sem, hx, C0, C1, C2, C3, C4]
end Go.Proofs.Ytdjjegaodgocmaa

namespace Go.Proofs.Ytdjjegaodgocmaa
open Go.RowKit
theorem heap_first5 {u : World} {g : Nat} {a b c d e : Value} {t : TypeId} {fr : Nat × Nat} (h : u.heap[g]? = some (.cells #[a, b, c, d, e] t fr)) (x : Value) : (u.setCell ⟨g, 0, none⟩ x).heap[g]? = some (.cells #[x, b, c, d, e] t fr) := by
 simp [World.setCell, Array.getElem?_modify, h]
structure PDc (w wr : World) (s : List UInt8) (kind txn home verd : Int) (ov : Value) (ops : List Op3) : Prop where
 rd : PRd w (w.heap.size + 1 + 1) wr s
 bc : wr.heap[w.heap.size]? = some (.cells #[.int .i64 kind, .int .i64 txn, .int .i64 home, .int .i64 verd, ov] 24 (0, 0))
 be : wr.heap[w.heap.size + 1]? = some (.cells #[.int .i64 0] 28 (0, 0))
 ow : OwnO (w.heap.size + 3) wr ov ops
theorem PDc.call {w wr w' : World} {s s' : List UInt8} {kind txn home verd : Int} {ov : Value} {ops : List Op3} (h : PDc w wr s kind txn home verd ov ops) (r : PRd w (w.heap.size + 1 + 1) w' s') (k : KpH (w.heap.size + 1 + 1) wr w') : PDc w w' s' kind txn home verd ov ops :=
 ⟨r, (k.1 _ (lt_of_block h.bc) (by omega)).trans h.bc, (k.1 _ (lt_of_block h.be) (by omega)).trans h.be, k.row h.ow (by omega)⟩
theorem PDc.to {w wr w' : World} {s : List UInt8} {kind txn home verd : Int} {ov : Value} {ops : List Op3} (h : PDc w wr s kind txn home verd ov ops) (bb : Below wr.heap.size wr w') : PDc w w' s kind txn home verd ov ops := h.call (h.rd.to bb) (KpH.of bb)
theorem PDc.set {w wr : World} {s : List UInt8} {kind txn home verd : Int} {ov : Value} {ops : List Op3} (h : PDc w wr s kind txn home verd ov ops) (z : Int) :
  PDc w (wr.setCell ⟨w.heap.size, 0, none⟩ (.int .i64 z)) s z txn home verd ov ops ∧ PDc w (wr.setCell ⟨w.heap.size, 1, none⟩ (.int .i64 z)) s kind z home verd ov ops ∧ PDc w (wr.setCell ⟨w.heap.size, 2, none⟩ (.int .i64 z)) s kind txn z verd ov ops ∧ PDc w (wr.setCell ⟨w.heap.size, 3, none⟩ (.int .i64 z)) s kind txn home z ov ops := by
 have q1 := fun i => (show w.heap.size ≤ (⟨w.heap.size, i, none⟩ : Addr).block from Nat.le_refl _)
 have q2 := fun i => (show (⟨w.heap.size, i, none⟩ : Addr).block ≠ w.heap.size + 1 + 1 from by show w.heap.size ≠ _; omega)
 have q3 : w.heap.size + 1 ≠ w.heap.size := by omega
 have q4 := fun i => (show (⟨w.heap.size, i, none⟩ : Addr).block < w.heap.size + 3 from by show w.heap.size < _; omega)
 have ho := heap_one5 h.bc (.int .i64 z)
 exact ⟨⟨h.rd.other (q1 0) (q2 0) _, heap_first5 h.bc _, (Below.heap_setCell _ _ _ _ q3).trans h.be, row_set13 h.ow (q4 0) _⟩,
  ⟨h.rd.other (q1 1) (q2 1) _, ho.1, (Below.heap_setCell _ _ _ _ q3).trans h.be, row_set13 h.ow (q4 1) _⟩,
  ⟨h.rd.other (q1 2) (q2 2) _, ho.2.1, (Below.heap_setCell _ _ _ _ q3).trans h.be, row_set13 h.ow (q4 2) _⟩,
  ⟨h.rd.other (q1 3) (q2 3) _, ho.2.2.1, (Below.heap_setCell _ _ _ _ q3).trans h.be, row_set13 h.ow (q4 3) _⟩⟩
theorem PDc.grow {w wr w' : World} {s : List UInt8} {kind txn home verd : Int} {ov v' : Value} {ops ops' : List Op3} (h : PDc w wr s kind txn home verd ov ops) (b : Below (w.heap.size + 3) wr w') (o : OwnO (w.heap.size + 3) w' v' ops') : PDc w (w'.setCell ⟨w.heap.size, 4, none⟩ v') s kind txn home verd v' ops' := by
 have q3 : w.heap.size + 1 ≠ w.heap.size := by omega
 obtain ⟨a, c, h1, h2⟩ := h.rd.box
 have r1 : PRd w (w.heap.size + 1 + 1) w' s := ⟨⟨a, c, (b.block _ (by omega)).trans h1, h2⟩, h.rd.bel.trans (b.mono (by omega)), h.rd.hg⟩
 refine ⟨r1.other (p := ⟨w.heap.size, 4, none⟩) (Nat.le_refl _) (by show w.heap.size ≠ _; omega) _, (heap_one5 ((b.block _ (by omega)).trans h.bc) v').2.2.2, (Below.heap_setCell _ _ _ _ q3).trans ((b.block _ (by omega)).trans h.be), row_set13 o (a := ⟨w.heap.size, 4, none⟩) (by show w.heap.size < _; omega) _⟩
def PReadR (w : World) (b : List UInt8) (e : Ending) (w' : World) : Prop := ∃ (c : Cmd) (a : Option Addr) (n cp : Nat) (vv : Int), e = .returned (.tuple #[cv c (.slice a n cp), .int .i64 vv, .int .i64 (pr0 b).2]) ∧ Below w.heap.size w w' ∧ ((pr0 b).2 = 0 → c = (pr0 b).1 ∧ vv = ((pver b).1 : Nat) ∧ OwnO w.heap.size w' (.slice a n cp) c.ops)
theorem PDc.stop {w wr w' : World} {b s : List UInt8} {kind txn home verd : Int} {ov : Value} {ops : List Op3} (h : PDc w wr s kind txn home verd ov ops) (k : KpH (w.heap.size + 1 + 1) wr w') (bl : Below w.heap.size w w') {er : Int} (he : er ≠ 0) (hE : (pr0 b).2 = er) {tmps : Array Value} {ver : Int}
  (h2 : tmps.getD 2 undef = .pointer (some ⟨w.heap.size, 0, none⟩)) (h3 : tmps.getD 3 undef = .int .i64 ver) (h4 : tmps.getD 4 undef = .pointer (some ⟨w.heap.size + 1, 0, none⟩)) :
  bodyPostD Try.prog Try.f27 (PReadR w b) (.panic [{ v := .iface 72 (.agg #[.int .i64 er]), recovered := false }]) { tmps := tmps, defers := [{ target := Target.fn (Fn.func 44) #[.pointer (some ⟨w.heap.size + 1, 0, none⟩)], args := #[] }] } w' := by
 obtain ⟨a, cp, hv⟩ := h.ow.rd.slice
 subst hv
 refine pdoor_stop h2 h3 h4 ((k.1 _ (lt_of_block h.bc) (by omega)).trans h.bc) ((k.1 _ (lt_of_block h.be) (by omega)).trans h.be) (by omega) ?_
 refine ⟨⟨kind, txn, home, verd, ops⟩, a, _, cp, ver, by rw [hE], bl.setCell (p := ⟨w.heap.size + 1, 0, none⟩) (Nat.le_succ _) _, fun q => absurd (hE.symm.trans q) he⟩
set_option maxRecDepth 100000 in
set_option maxHeartbeats 8000000 in
theorem pread_any (w : World) (v : Value) (b : List UInt8) (h : Rd w v b) : Calls Try.prog 27 #[v] w fun e w' => PReadR w b e w' := by
 have hmf : ∀ (fn : Fn) (first cap : Array Value) (w : World), (Instr.makeFunc fn first cap).run Try.prog w = .ok (.func fn first cap) w := fun _ _ _ _ => rfl
 obtain ⟨va, vc, rfl⟩ := h.slice
 obtain ⟨W1, hW1, D1, b1, s1⟩ := boxedN w #[.int .i64 0, .int .i64 0, .int .i64 0, .int .i64 0, .slice none 0 0] 24
 obtain ⟨W2, hW2, D2, b2, s2⟩ := boxedN W1 #[.int .i64 0] 28
 obtain ⟨W3, hW3, D3, b3, s3⟩ := boxedN W2 #[.slice va b.length vc] 74
 have hS0 : Hid (PDc w W3 b 0 0 0 0 (.slice none 0 0) []) := by
  rw [s1] at D2
  rw [s2, s1] at D3
  have bb := (b1.trans (b2.mono b1.size)).trans (b3.mono (Nat.le_trans b1.size b2.size))
  exact ⟨⟨⟨va, vc, D3, h⟩, bb, by omega⟩, (b3.block _ (by omega)).trans ((b2.block _ (by omega)).trans D1), (b3.block _ (by omega)).trans D2, OwnO.nil _ _⟩
 have KV := hide (pversion_any w (w.heap.size + 1 + 1) W3 b hS0.out.rd)
 obtain ⟨ver, ⟨t1, x1⟩, hr0⟩ : ∃ m s', pver b = (m, s') := ⟨_, _, rfl⟩
 rw [hr0] at KV
 dsimp only at KV
 have Hr0 := hide hr0
 have hE0 : Hid (pr0 b = if x1 ≠ 0 then (czero, x1) else pr1 ver t1) := by show _ = _; unfold pr0; rw [hr0]
 rw [hW3, hW2, hW1] at KV
 generalize b.length = BL at *
 clear h D1 D2 D3 b1 b2 b3 s1 s2 s3 hr0
 go_enter_defers Try.func27, Try.ntmps27
 go_wp2_with fail
 refine KV.out.mono ?_
 rintro e w1 ⟨k1, b1, hc⟩
 rw [← hW1, ← hW2, ← hW3] at k1
 replace hW1 := hide hW1
 replace hW2 := hide hW2
 replace hW3 := hide hW3
 clear KV
 rcases hc with ⟨hq0, rfl, p1⟩ | ⟨hq0, rfl⟩
 rotate_left
 ·have RX := hide (And.intro k1 (And.intro b1 hq0))
  have hEE : Hid ((pr0 b).2 = x1) := by show _ = _; rw [hE0.out, if_pos hq0]
  clear k1 b1 hq0
  go_wp2
  exact hS0.out.stop RX.out.1 RX.out.2.1 RX.out.2.2 hEE.out (by rfl) (by rfl) (by rfl)
 dsimp only at hq0 p1
 subst hq0
 have hEP := hide (hE0.out.trans (if_neg (by simp)))
 have S1 := hide (hS0.out.call p1 k1)
 clear k1 b1 p1
 have KN := hide (pnum_any w (w.heap.size + 1 + 1) w1 t1 1 S1.out.rd (by decide) (by decide))
 have hm2 := nm1_lt (t1, 0)
 rw [wrap_small (by omega)] at KN
 obtain ⟨kind, ⟨t2, x2⟩, hr2⟩ : ∃ m s', nm (t1, 0) 1 = (m, s') := ⟨_, _, rfl⟩
 rw [hr2] at KN hm2
 dsimp only at KN hm2
 have hE2 : Hid (pr0 b = if x2 ≠ 0 then (czero, x2) else pr2 ver kind t2) := by show _ = _; rw [hEP.out]; unfold pr1; rw [hr2]
 clear hr2
 go_wp2_with fail
 refine KN.out.mono ?_
 rintro e w2 ⟨k2, b2, hc⟩
 clear KN
 rcases hc with ⟨hq0, rfl, p2⟩ | ⟨hq0, rfl⟩
 rotate_left
 ·have RX := hide (And.intro k2 (And.intro b2 hq0))
  have hEE : Hid ((pr0 b).2 = x2) := by show _ = _; rw [hE2.out, if_pos hq0]
  clear k2 b2 hq0
  go_wp2
  exact S1.out.stop RX.out.1 RX.out.2.1 RX.out.2.2 hEE.out (by rfl) (by rfl) (by rfl)
 dsimp only at hq0 p2
 subst hq0
 replace hEP := hide (hE2.out.trans (if_neg (by simp)))
 have S2a := hide (S1.out.call p2 k2)
 obtain ⟨⟨C0, C1, C2, C3, C4⟩, CF⟩ := cells5c S2a.out.bc
 obtain ⟨X2, hX2⟩ : ∃ X, X = w2.setCell ⟨w.heap.size, 0, none⟩ (.int .i64 (kind : Int)) := ⟨_, rfl⟩
 have S2 := hide (S2a.out.set (kind : Int)).1
 rw [← hX2] at S2
 obtain ⟨T, ⟨t3, x3⟩, hr3⟩ : ∃ m s', ptx ver t2 = (m, s') := ⟨_, _, rfl⟩
 have hE3 : Hid (pr0 b = if x3 ≠ 0 then (czero, x3) else pr3 ver kind T t3) := by show _ = _; rw [hEP.out]; unfold pr2; rw [hr3]
 have Hr3 := hide hr3
 clear k2 b2 p2 hr3
 go_upto_if 13 with fail
 rw [← hX2]
 replace hX2 := hide hX2
 clear C0 C1 C2 C3 C4 CF
 go_cut [13] from 13 to 17 (fun s wx => Hid (x3 = 0 ∧ PDc w wx t3 kind T 0 0 (.slice none 0 0) []))
 case first =>
  by_cases hv : ver = 1
  ·have a1 : ((ver : Int) == 1) = true := by rw [hv]; rfl
   have KN := pnum_any w (w.heap.size + 1 + 1) X2 t2 8 S2.out.rd (by decide) (by decide)
   have hp := Hr3.out
   unfold ptx at hp
   rw [if_pos hv] at hp
   obtain ⟨hp1, hp2⟩ := Prod.mk.injEq _ _ _ _ ▸ hp
   rw [hp1, hp2] at KN
   replace KN := hide KN
   replace hv := hide hv
   clear hp hp1 hp2
   go_wp2_with fail
   refine KN.out.mono ?_
   rintro e w3 ⟨k3, b3, hc⟩
   clear KN
   rcases hc with ⟨hq0, rfl, p3⟩ | ⟨hq0, rfl⟩
   rotate_left
   ·have RX := hide (And.intro k3 (And.intro b3 hq0))
    have hEE : Hid ((pr0 b).2 = x3) := by show _ = _; rw [hE3.out, if_pos hq0]
    clear k3 b3 hq0
    go_wp2
    exact S2.out.stop RX.out.1 RX.out.2.1 RX.out.2.2 hEE.out (by rfl) (by rfl) (by rfl)
   dsimp only at hq0 p3
   subst hq0
   have S3a := hide (S2.out.call p3 k3)
   obtain ⟨⟨C0, C1, C2, C3, C4⟩, CF⟩ := cells5c S3a.out.bc
   have F : Hid ((0 : Int) = 0 ∧ PDc w (w3.setCell ⟨w.heap.size, 1, none⟩ (.int .i64 T)) t3 kind T 0 0 (.slice none 0 0) []) := ⟨rfl, (S3a.out.set T).2.1⟩
   clear k3 b3 p3
   go_wp2_with fail
   go_meet
   exact F
  ·have a1 : ((ver : Int) == 1) = false := by simp; omega
   have KN := pgroups_any w (w.heap.size + 1 + 1) X2 t2 S2.out.rd
   have hp := Hr3.out
   unfold ptx at hp
   rw [if_neg hv] at hp
   obtain ⟨hp1, hp2⟩ := Prod.mk.injEq _ _ _ _ ▸ hp
   rw [hp1, hp2] at KN
   replace KN := hide KN
   replace hv := hide hv
   clear hp hp1 hp2
   go_wp2_with fail
   refine KN.out.mono ?_
   rintro e w3 ⟨k3, b3, hc⟩
   clear KN
   rcases hc with ⟨hq0, rfl, p3⟩ | ⟨hq0, rfl⟩
   rotate_left
   ·have RX := hide (And.intro k3 (And.intro b3 hq0))
    have hEE : Hid ((pr0 b).2 = x3) := by show _ = _; rw [hE3.out, if_pos hq0]
    clear k3 b3 hq0
    go_wp2
    exact S2.out.stop RX.out.1 RX.out.2.1 RX.out.2.2 hEE.out (by rfl) (by rfl) (by rfl)
   dsimp only at hq0 p3
   subst hq0
   have S3a := hide (S2.out.call p3 k3)
   obtain ⟨⟨C0, C1, C2, C3, C4⟩, CF⟩ := cells5c S3a.out.bc
   have F : Hid ((0 : Int) = 0 ∧ PDc w (w3.setCell ⟨w.heap.size, 1, none⟩ (.int .i64 T)) t3 kind T 0 0 (.slice none 0 0) []) := ⟨rfl, (S3a.out.set T).2.1⟩
   clear k3 b3 p3
   go_wp2_with fail
   go_meet
   exact F
 case rest =>
 obtain ⟨hx3, hS3⟩ := hcut.out
 subst hx3
 have S3 := hide hS3
 replace hEP := hide (hE3.out.trans (if_neg (by simp)))
 clear hcut hS3
 have KN := hide (pnum_any w (w.heap.size + 1 + 1) wc t3 1 S3.out.rd (by decide) (by decide))
 have hm4 := nm1_lt (t3, 0)
 rw [wrap_small (by omega)] at KN
 obtain ⟨home, ⟨t4, x4⟩, hr4⟩ : ∃ m s', nm (t3, 0) 1 = (m, s') := ⟨_, _, rfl⟩
 rw [hr4] at KN hm4
 dsimp only at KN hm4
 have hE4 : Hid (pr0 b = if x4 ≠ 0 then (czero, x4) else pr4 ver kind T home t4) := by show _ = _; rw [hEP.out]; unfold pr3; rw [hr4]
 clear hr4
 go_wp2_with fail
 refine KN.out.mono ?_
 rintro e w4 ⟨k4, b4, hc⟩
 clear KN
 rcases hc with ⟨hq0, rfl, p4⟩ | ⟨hq0, rfl⟩
 rotate_left
 ·have RX := hide (And.intro k4 (And.intro b4 hq0))
  have hEE : Hid ((pr0 b).2 = x4) := by show _ = _; rw [hE4.out, if_pos hq0]
  clear k4 b4 hq0
  go_wp2
  exact S3.out.stop RX.out.1 RX.out.2.1 RX.out.2.2 hEE.out (by rfl) (by rfl) (by rfl)
 dsimp only at hq0 p4
 subst hq0
 replace hEP := hide (hE4.out.trans (if_neg (by simp)))
 have S4a := hide (S3.out.call p4 k4)
 obtain ⟨⟨C0, C1, C2, C3, C4⟩, CF⟩ := cells5c S4a.out.bc
 obtain ⟨X4, hX4⟩ : ∃ X, X = w4.setCell ⟨w.heap.size, 2, none⟩ (.int .i64 (home : Int)) := ⟨_, rfl⟩
 have S4 := hide (S4a.out.set (home : Int)).2.2.1
 rw [← hX4] at S4
 clear k4 b4 p4
 go_upto_region 9 with fail
 rw [← hX4]
 replace hX4 := hide hX4
 clear C0 C1 C2 C3 C4 CF
 have KN := hide (pnum_any w (w.heap.size + 1 + 1) X4 t4 1 S4.out.rd (by decide) (by decide))
 have hm5 := nm1_lt (t4, 0)
 rw [wrap_small (by omega)] at KN
 obtain ⟨verd, ⟨t5, x5⟩, hr5⟩ : ∃ m s', nm (t4, 0) 1 = (m, s') := ⟨_, _, rfl⟩
 rw [hr5] at KN hm5
 dsimp only at KN hm5
 have hE5 : Hid (pr0 b = if x5 ≠ 0 then (czero, x5) else pr5 ver kind T home verd t5) := by show _ = _; rw [hEP.out]; unfold pr4; rw [hr5]
 clear hr5
 go_wp2_with fail
 refine KN.out.mono ?_
 rintro e w5 ⟨k5, b5, hc⟩
 clear KN
 rcases hc with ⟨hq0, rfl, p5⟩ | ⟨hq0, rfl⟩
 rotate_left
 ·have RX := hide (And.intro k5 (And.intro b5 hq0))
  have hEE : Hid ((pr0 b).2 = x5) := by show _ = _; rw [hE5.out, if_pos hq0]
  clear k5 b5 hq0
  go_wp2
  exact S4.out.stop RX.out.1 RX.out.2.1 RX.out.2.2 hEE.out (by rfl) (by rfl) (by rfl)
 dsimp only at hq0 p5
 subst hq0
 replace hEP := hide (hE5.out.trans (if_neg (by simp)))
 have S5a := hide (S4.out.call p5 k5)
 obtain ⟨⟨C0, C1, C2, C3, C4⟩, CF⟩ := cells5c S5a.out.bc
 obtain ⟨X5, hX5⟩ : ∃ X, X = w5.setCell ⟨w.heap.size, 3, none⟩ (.int .i64 (verd : Int)) := ⟨_, rfl⟩
 have S5 := hide (S5a.out.set (verd : Int)).2.2.2
 rw [← hX5] at S5
 clear k5 b5 p5
 go_upto_region 10 with fail
 rw [← hX5]
 replace hX5 := hide hX5
 clear C0 C1 C2 C3 C4 CF
 have KN := hide (pnum_any w (w.heap.size + 1 + 1) X5 t5 1 S5.out.rd (by decide) (by decide))
 have hm6 := nm1_lt (t5, 0)
 rw [wrap_small (by omega)] at KN
 obtain ⟨cnt, ⟨t6, x6⟩, hr6⟩ : ∃ m s', nm (t5, 0) 1 = (m, s') := ⟨_, _, rfl⟩
 rw [hr6] at KN hm6
 dsimp only at KN hm6
 have hE6 : Hid (pr0 b = if x6 ≠ 0 then (czero, x6) else pr6 ver kind T home verd cnt t6) := by show _ = _; rw [hEP.out]; unfold pr5; rw [hr6]
 clear hr6
 go_wp2_with fail
 refine KN.out.mono ?_
 rintro e w6 ⟨k6, b6, hc⟩
 clear KN
 rcases hc with ⟨hq0, rfl, p6⟩ | ⟨hq0, rfl⟩
 rotate_left
 ·have RX := hide (And.intro k6 (And.intro b6 hq0))
  have hEE : Hid ((pr0 b).2 = x6) := by show _ = _; rw [hE6.out, if_pos hq0]
  clear k6 b6 hq0
  go_wp2
  exact S5.out.stop RX.out.1 RX.out.2.1 RX.out.2.2 hEE.out (by rfl) (by rfl) (by rfl)
 dsimp only at hq0 p6
 subst hq0
 replace hEP := hide (hE6.out.trans (if_neg (by simp)))
 have S6 := hide (S5.out.call p6 k6)
 clear k6 b6 p6
 go_wp2
 go_loopw [23] (fun p wr => ∃ (k : Nat) (ov : Value) (ops : List Op3) (s : List UInt8), k ≤ cnt ∧ p = .int .i64 k ∧ Hid (PDc w wr s kind T home verd ov ops ∧ rit (ver : Int) (t6, 0) k = (ops, (s, 0)))) (fun p _ => cnt - (intOf p).toNat)
 case atStart => exact ⟨0, _, _, _, Nat.zero_le _, rfl, hide ⟨S6.out, rfl⟩⟩
 case round =>
  obtain ⟨k, ov, ops, s, hk, rfl, hI⟩ := hrel
  by_cases hlt : k < cnt
  ·have hq : (k : Int) < (cnt : Int) := by omega
   have hl := rit_len (ver : Int) (t6, 0) k
   rw [hI.out.2] at hl
   dsimp only at hl
   obtain ⟨⟨yk, key, val⟩, ⟨s7, x7⟩, hro⟩ : ∃ y s', rop (ver : Int) (s, 0) = (y, s') := ⟨_, _, rfl⟩
   have hnx : Hid (rit (ver : Int) (t6, 0) (k + 1) = (ops ++ [(yk, (key, val))], (s7, x7))) := by
    show _ = _
    rw [rit, hI.out.2]
    dsimp only
    rw [if_neg (by simp), hro]
   have hE7 : Hid (x7 ≠ 0 → (pr0 b).2 = x7) := fun q => by
    rw [hEP.out]
    unfold pr6
    have := rit_stop (v := (ver : Int)) (s := (t6, 0)) (k := k + 1) (by rw [hnx.out]; exact q) (cnt - (k + 1))
    rw [show k + 1 + (cnt - (k + 1)) = cnt by omega, hnx.out] at this
    rw [this]
    dsimp only
    rw [if_pos q]
   have bd : Below wr.heap.size wr wr.drew := below_drewN' wr 1 _
   have ID := hide (hI.out.1.to bd)
   have KO := pop_any w (w.heap.size + 1 + 1) wr.drew s (ver : Int) ID.out.rd
   rw [hro] at KO
   dsimp only at KO
   replace KO := hide KO
   obtain ⟨⟨_, _, _, _, c4⟩, _⟩ := cells5c ID.out.bc
   have HC := hide c4
   have hon : Hid (ops.length ≤ 255) := by show _ ≤ _; omega
   clear hro c4 bd
   go_upto_region 12 with fail
   refine wp_region_midP (fun w' => w'.cell? ⟨w.heap.size, 4, none⟩ = some ov) 3 6 mixed (by kernel_rfl) ?_ HC.out ?_
   ·intro o ho c a9 v9 w9 h9
    simp only [List.take, List.mem_cons, List.not_mem_nil, or_false] at ho
    have hres : results Try.f27 (a9.put o.dst v9).tmps = results Try.f27 a9.tmps := by
     rcases ho with rfl | rfl | rfl <;> simp [results, Try.results27, Act.put, Array.getElem?_setIfInBounds]
    have hdf : (a9.put o.dst v9).defers = a9.defers := by rcases ho with rfl | rfl | rfl <;> rfl
    change Leaves Try.prog Try.f27 (a9.put o.dst v9).tmps (fun e w' => PReadR w b e w') (a9.put o.dst v9).defers (.panicking c) w9 at h9
    rw [hdf] at h9
    change Leaves Try.prog Try.f27 a9.tmps (fun e w' => PReadR w b e w') a9.defers (.panicking c) w9
    exact leaves_congr hres _ _ _ h9
   dsimp only [List.take, List.drop]
   obtain ⟨U, hU⟩ : ∃ U, U = wr.drew := ⟨_, rfl⟩
   rw [← hU] at ID HC KO ⊢
   replace hU := hide hU
   iterate 3
    refine take_one (v := ?_) (by rfl) ?_ ?_
    rotate_left
    ·rintro w' s1
     go_simp
     try with_reducible rfl
    try simp only [Act.put, List.setIfInBounds_toArray, List.set_cons_zero, List.set_cons_succ]
   refine mid_one fun K hK => ?_
   refine step_callP (by rfl) 48 _ _ (by rfl) #[.pointer (some ⟨w.heap.size + 1 + 1, 0, none⟩), .int .i64 (ver : Int)] (by simp [Act.eval]) (Try.call48 _ _) KO.out ?_
   rintro e w6 ⟨k7, b7, hc⟩
   rcases hc with ⟨hq0, rfl, p7⟩ | ⟨hq0, rfl⟩
   rotate_left
   ·refine .inr ⟨_, rfl, ?_⟩
    exact ID.out.stop k7 b7 hq0 (hE7.out hq0) (by rfl) (by rfl) (by rfl)
   dsimp only at hq0 p7
   subst hq0
   refine .inl ⟨_, rfl, ?_⟩
   have S7 := hide (ID.out.call p7 k7)
   obtain ⟨⟨_, _, _, _, x4⟩, _⟩ := cells5c S7.out.bc
   refine hK _ _ x4 ?_
   clear hK K p7 k7 b7 KO
   try simp only [Act.put, List.setIfInBounds_toArray, List.set_cons_zero, List.set_cons_succ]
   refine mid_one fun K hK => ?_
   rw [if_pos (by rfl)]
   go_simp
   obtain ⟨Z, hZ, DZ, bZ, sZ⟩ := boxedN w6 #[.int .i64 yk, st key, st val] 48
   rw [← hZ]
   have SZ := hide (S7.out.to bZ)
   obtain ⟨⟨_, _, _, _, z4⟩, _⟩ := cells5c SZ.out.bc
   obtain ⟨⟨Z0, Z1, Z2⟩, _⟩ := cells3q DZ
   refine hK _ _ z4 ?_
   clear hK K x4
   try simp only [Act.put, List.setIfInBounds_toArray, List.set_cons_zero, List.set_cons_succ]
   refine mid_one fun K hK => ?_
   refine step_apO rfl _ _ rfl (w.heap.size + 3) ov ops (yk, (key, val)) w6.heap.size rfl rfl SZ.out.ow Z0 Z1 Z2 (by have := hon.out; omega) (by have := (SZ.out.rd).lt; omega) ?_
   intro v7 w7 o7 b7 q7
   obtain ⟨n7, hn7⟩ : ∃ n, n = (ops ++ [(yk, (key, val))]).length := ⟨_, rfl⟩
   obtain ⟨a7, p7, e7⟩ := o7.rd.slice
   rw [← hn7] at e7
   subst e7
   replace hn7 := hide hn7
   have F7 := hide (SZ.out.grow b7 o7)
   have c7 : w7.cell? ⟨w.heap.size, 4, none⟩ = some ov := (b7.cell (p := ⟨w.heap.size, 4, none⟩) (show w.heap.size < w.heap.size + 3 by omega)).trans z4
   have f7 : w7.frozen? ⟨w.heap.size, 4, none⟩ = false := by
    have := (b7.block w.heap.size (by omega)).trans SZ.out.bc
    exact (cells5c this).2 4
   refine hK _ _ c7 ?_
   clear hK K z4 Z0 Z1 Z2 DZ bZ sZ hZ o7 b7 q7
   try simp only [Act.put, List.setIfInBounds_toArray, List.set_cons_zero, List.set_cons_succ]
   show wpList _ _ _ _ _ _
   go_wp2
   go_roundw
   case rel => exact ⟨k + 1, _, _, _, by omega, by go_num, hide ⟨F7.out, hnx.out⟩⟩
   case measure => simp [intOf]; omega
  ·have hq : ¬ (k : Int) < (cnt : Int) := by omega
   have hkc : k = cnt := by omega
   have hEQ : Hid (pr0 b = if 0 < s.length then (czero, 23) else (⟨kind, T, home, verd, ops⟩, 0)) := by
    show _ = _
    rw [hEP.out]
    unfold pr6
    rw [← hkc, hI.out.2]
    dsimp only
    rw [if_neg (by simp)]
   have HS := hide hI.out.1
   have KE := hide (pend_any w (w.heap.size + 1 + 1) wr s HS.out.rd)
   go_wp2_with fail
   refine KE.out.mono ?_
   rintro e w8 ⟨rfl, hc⟩
   clear KE
   rcases hc with ⟨hs, rfl⟩ | ⟨hs, rfl⟩
   rotate_left
   ·have hEE : Hid ((pr0 b).2 = 23) := by show _ = _; rw [hEQ.out, if_pos hs]
    replace hs := hide hs
    go_wp2
    exact HS.out.stop (KpH.refl _ _) HS.out.rd.bel (by decide) hEE.out (by rfl) (by rfl) (by rfl)
   have hEE : Hid (pr0 b = (⟨kind, T, home, verd, ops⟩, 0)) := by show _ = _; rw [hEQ.out, if_neg (by rw [hs]; simp)]
   replace hs := hide hs
   obtain ⟨⟨C0, C1, C2, C3, C4⟩, CF⟩ := cells5c HS.out.bc
   have E0 : wr.cell? ⟨w.heap.size + 1, 0, none⟩ = some (.int .i64 0) := by rw [cell_of_row _ _ 0 _ _ (0, 0) HS.out.be]; rfl
   have E1 : wr.frozen? ⟨w.heap.size + 1, 0, none⟩ = false := by have := HS.out.be; simp [World.frozen?, this]
   obtain ⟨oa, oc, ho⟩ := HS.out.ow.rd.slice
   obtain ⟨OL, hOL⟩ : ∃ L, L = ops.length := ⟨_, rfl⟩
   rw [← hOL] at ho
   subst ho
   replace hOL := hide hOL
   go_wp2
   have q3 : w.heap.size + 1 ≠ w.heap.size := by omega
   have q1 := fun i => (show w.heap.size ≤ (⟨w.heap.size, i, none⟩ : Addr).block from Nat.le_refl _)
   have q4 := fun i => (show (⟨w.heap.size, i, none⟩ : Addr).block < w.heap.size + 3 from by show w.heap.size < _; omega)
   have hb := heap_all5 HS.out.bc (.int .i64 kind) (.int .i64 T) (.int .i64 home) (.int .i64 verd) (.slice oa OL oc)
   have hbe := (Below.heap_setCell (((((wr.setCell ⟨w.heap.size, 0, none⟩ (.int .i64 kind)).setCell ⟨w.heap.size, 1, none⟩ (.int .i64 T)).setCell ⟨w.heap.size, 2, none⟩ (.int .i64 home)).setCell ⟨w.heap.size, 3, none⟩ (.int .i64 verd))) ⟨w.heap.size, 4, none⟩ (.slice oa OL oc) _ q3).trans ((Below.heap_setCell _ ⟨w.heap.size, 3, none⟩ _ _ q3).trans ((Below.heap_setCell _ ⟨w.heap.size, 2, none⟩ _ _ q3).trans ((Below.heap_setCell _ ⟨w.heap.size, 1, none⟩ _ _ q3).trans ((Below.heap_setCell _ ⟨w.heap.size, 0, none⟩ _ _ q3).trans HS.out.be))))
   have hbl := ((((HS.out.rd.bel.setCell (q1 0) (.int .i64 kind)).setCell (q1 1) (.int .i64 T)).setCell (q1 2) (.int .i64 home)).setCell (q1 3) (.int .i64 verd)).setCell (q1 4) (.slice oa OL oc)
   have how := row_set13 (row_set13 (row_set13 (row_set13 (row_set13 HS.out.ow (q4 0) (.int .i64 kind)) (q4 1) (.int .i64 T)) (q4 2) (.int .i64 home)) (q4 3) (.int .i64 verd)) (q4 4) (.slice oa OL oc)
   obtain ⟨Z, hZ⟩ : ∃ Z, Z = ((((wr.setCell ⟨w.heap.size, 0, none⟩ (.int .i64 kind)).setCell ⟨w.heap.size, 1, none⟩ (.int .i64 T)).setCell ⟨w.heap.size, 2, none⟩ (.int .i64 home)).setCell ⟨w.heap.size, 3, none⟩ (.int .i64 verd)).setCell ⟨w.heap.size, 4, none⟩ (.slice oa OL oc) := ⟨_, rfl⟩
   rw [← hZ] at hb hbe hbl how ⊢
   refine pdoor_ok (by rfl) (by rfl) (by rfl) ((Below.heap_setCell Z ⟨w.heap.size + 1, 0, none⟩ _ _ (Ne.symm q3)).trans hb) (show (Z.setCell ⟨w.heap.size + 1, 0, none⟩ (.int .i64 0)).heap[w.heap.size + 1]? = some (.cells #[.int .i64 0] 28 (0, 0)) by simp [World.setCell, Array.getElem?_modify, hbe]) ?_
   refine ⟨⟨kind, T, home, verd, ops⟩, oa, OL, oc, ver, by rw [hEE.out], hbl.setCell (p := ⟨w.heap.size + 1, 0, none⟩) (Nat.le_succ _) _, fun _ => ⟨by rw [hEE.out], by rw [Hr0.out], ?_⟩⟩
   exact rows_base (row_set13 how (a := ⟨w.heap.size + 1, 0, none⟩) (by show w.heap.size + 1 < _; omega) _) (fun b hb => by have := (World.ownsRow.lt how b hb).1; omega)
end Go.Proofs.Ytdjjegaodgocmaa

namespace Go.Proofs.Ytdjjegaodgocmaa
open Go.RowKit
def PDecR (w : World) (b : List UInt8) (e : Ending) (w' : World) : Prop := ∃ ov, e = .returned (.tuple #[cv (cdec b).1 ov, .int .i64 (cdec b).2.1, .int .i64 (cdec b).2.2]) ∧ OwnO w.heap.size w' ov (cdec b).1.ops ∧ Below w.heap.size w w'
theorem PDecR.bad {w Z : World} {b : List UInt8} {er : Int} (h : cdec b = (czero, 0, er)) (hb : Below w.heap.size w Z) (x y z p q : Value) : PDecR w b (.returned (.tuple #[.agg #[.int .i64 0, .int .i64 0, .int .i64 0, .int .i64 0, .slice none 0 0], .int .i64 0, .int .i64 er])) (((((Z.setCell ⟨w.heap.size, 0, none⟩ x).setCell ⟨w.heap.size, 1, none⟩ y).setCell ⟨w.heap.size, 2, none⟩ z).setCell ⟨w.heap.size, 3, none⟩ p).setCell ⟨w.heap.size, 4, none⟩ q) := by
 have q1 := fun i => (show w.heap.size ≤ (⟨w.heap.size, i, none⟩ : Addr).block from Nat.le_refl _)
 exact ⟨.slice none 0 0, by rw [h]; rfl, by rw [h]; exact OwnO.nil _ _, ((((hb.setCell (q1 0) x).setCell (q1 1) y).setCell (q1 2) z).setCell (q1 3) p).setCell (q1 4) q⟩
set_option maxRecDepth 100000 in
set_option maxHeartbeats 8000000 in
theorem pdecode13_any (w : World) (v : Value) (b : List UInt8) (h : Rd w v b) : Calls Try.prog 12 #[v] w fun e w' => PDecR w b e w' := by
 obtain ⟨W, hW, D, bW, sW⟩ := boxedN w #[.int .i64 0, .int .i64 0, .int .i64 0, .int .i64 0, .slice none 0 0] 24
 have KR := hide (pread_any W v b (h.to bW))
 obtain ⟨va, vc, rfl⟩ := h.slice
 generalize hBL : b.length = BL at *
 have BW := hide bW
 have HD := hide D
 have LW : Hid (w.heap.size < W.heap.size) := by show _ < _; omega
 have hC := hide (cdec_pr b)
 rw [hW] at KR
 clear h bW D sW hBL
 go_enter Try.func12, Try.ntmps12
 go_wp2_with fail
 refine KR.out.mono ?_
 rintro e w2 ⟨c, ca, cn, cp, vv, rfl, b2, hok⟩
 rw [← hW] at b2 hok
 replace hW := hide hW
 clear KR
 have HOK := hide hok
 have B2 := hide (BW.out.trans (b2.mono BW.out.size))
 have D2 := (b2.block _ LW.out).trans HD.out
 have L2 : Hid (w.heap.size < w2.heap.size) := lt_of_block D2
 obtain ⟨kind, txn, home, verd, ops⟩ := c
 obtain ⟨Y, hY, DY, bY, sY⟩ := boxedN w2 #[.int .i64 kind, .int .i64 txn, .int .i64 home, .int .i64 verd, .slice ca cn cp] 24
 have HD3 := hide ((bY.block _ L2.out).trans D2)
 have B3 := hide (B2.out.trans (bY.mono B2.out.size))
 have HY := hide DY
 have bYh := hide bY
 have hne2 : Hid (w.heap.size ≠ w2.heap.size) := by have := L2.out; show _ ≠ _; omega
 obtain ⟨E, hEq⟩ : ∃ E, E = (pr0 b).2 := ⟨_, rfl⟩
 dsimp only [cv]
 rw [← hEq]
 replace hEq := hide hEq
 clear hok b2 D2 bY DY sY
 go_upto_region 2 with fail
 rw [← hY]
 replace hY := hide hY
 by_cases he : E ≠ 0
 ·have hE : Hid (cdec b = (czero, 0, E)) := by show _ = _; rw [hC.out]; exact pfin_err hEq.out.symm he
  have he' : (E != 0) = true := by simpa using he
  replace he := hide he
  obtain ⟨⟨F0, F1, F2, F3, F4⟩, FF⟩ := cells5c HD3.out
  go_wp2
  (try simp only [Exit.inBlock, Exit.then])
  refine retNTT (p := 2) (u1 := 3) (u2 := 4) (ty := 24) (by rfl) (by rfl) w.heap.size (by rfl) _ _ (0, 0) (heap_all5 HD3.out _ _ _ _ _) _ Try.underlying24 rfl info_cm13 (.int .i64 0) (by rfl) (.int .i64 E) (by rfl) ?_
  exact PDecR.bad hE.out B3.out _ _ _ _ _
 have he0 : E = 0 := Decidable.not_not.1 he
 obtain ⟨hc1, hc2, hc3⟩ := HOK.out (hEq.out.symm.trans he0)
 subst he0
 have hOW : Hid (OwnO W.heap.size Y (.slice ca cn cp) ops) := rows_to hc3 bYh.out
 have hC2 : Hid (cdec b = if ccheck ⟨kind, txn, home, verd, ops⟩ ≠ 0 then (czero, 0, ccheck ⟨kind, txn, home, verd, ops⟩) else if ¬ cver ⟨kind, txn, home, verd, ops⟩ vv then (czero, 0, 131) else (⟨kind, txn, home, verd, ops⟩, vv, 0)) := by
  show _ = _
  rw [hC.out, show pr0 b = (⟨kind, txn, home, verd, ops⟩, 0) from Prod.ext hc1.symm hEq.out.symm, hc2]
  exact pfin_ok
 have KC := pcheck13_any Y ⟨kind, txn, home, verd, ops⟩ (.slice ca cn cp) hOW.out.rd
 have HRD := hide hOW.out.rd
 dsimp only [cv] at KC
 replace KC := hide KC
 obtain ⟨er, her⟩ : ∃ z, z = ccheck ⟨kind, txn, home, verd, ops⟩ := ⟨_, rfl⟩
 rw [← her] at KC hC2
 replace her := hide her
 obtain ⟨⟨Y0, Y1, Y2, Y3, Y4⟩, YF⟩ := cells5c HY.out
 clear he hc1 hc2 hc3 HOK hC hEq
 go_wp2_with fail
 refine KC.out.mono ?_
 rintro e w4 ⟨rfl, b4⟩
 clear KC Y0 Y1 Y2 Y3 Y4 YF
 have LY : Hid (w2.heap.size < Y.heap.size) := lt_of_block HY.out
 have HD4 := hide ((b4.block _ (lt_of_block HD3.out)).trans HD3.out)
 have HY4 := hide ((b4.block _ LY.out).trans HY.out)
 have B4 := hide (B3.out.trans (b4.mono B3.out.size))
 have HO4 : Hid (OwnO W.heap.size w4 (.slice ca cn cp) ops) := rows_to hOW.out b4
 clear b4
 by_cases hk : er ≠ 0
 ·have hE : Hid (cdec b = (czero, 0, er)) := by show _ = _; rw [hC2.out, if_pos hk]
  have hk' : (er != 0) = true := by simpa using hk
  replace hk := hide hk
  obtain ⟨⟨F0, F1, F2, F3, F4⟩, FF⟩ := cells5c HD4.out
  go_wp2
  (try simp only [Exit.inBlock, Exit.then])
  refine retNTT (p := 2) (u1 := 3) (u2 := 4) (ty := 24) (by rfl) (by rfl) w.heap.size (by rfl) _ _ (0, 0) (heap_all5 HD4.out _ _ _ _ _) _ Try.underlying24 rfl info_cm13 (.int .i64 0) (by rfl) (.int .i64 er) (by rfl) ?_
  exact PDecR.bad hE.out B4.out _ _ _ _ _
 have hC3 := hide (hC2.out.trans (if_neg hk))
 have hk0 : er = 0 := Decidable.not_not.1 hk
 subst hk0
 clear hk hC2
 have KF := hasform_any w4 ⟨kind, txn, home, verd, ops⟩ (.slice ca cn cp) vv HO4.out.rd
 dsimp only [cv] at KF
 replace KF := hide KF
 obtain ⟨⟨Y0, Y1, Y2, Y3, Y4⟩, YF⟩ := cells5c HY4.out
 go_wp2_with fail
 refine KF.out.mono ?_
 rintro e w5 ⟨rfl, b5⟩
 clear KF Y0 Y1 Y2 Y3 Y4 YF
 have HD5 := hide ((b5.block _ (lt_of_block HD4.out)).trans HD4.out)
 have HY5 := hide ((b5.block _ (lt_of_block HY4.out)).trans HY4.out)
 have B5 := hide (B4.out.trans (b5.mono B4.out.size))
 have HO5 : Hid (OwnO W.heap.size w5 (.slice ca cn cp) ops) := rows_to HO4.out b5
 clear b5
 obtain ⟨⟨F0, F1, F2, F3, F4⟩, FF⟩ := cells5c HD5.out
 by_cases hv : cver ⟨kind, txn, home, verd, ops⟩ vv
 rotate_left
 ·rw [decide_eq_false hv]
  have hE : Hid (cdec b = (czero, 0, 131)) := by show _ = _; rw [hC3.out, if_pos hv]
  replace hv := hide hv
  go_wp2
  (try simp only [Exit.inBlock, Exit.then])
  refine retNTT (p := 2) (u1 := 3) (u2 := 4) (ty := 24) (by rfl) (by rfl) w.heap.size (by rfl) _ _ (0, 0) (heap_all5 HD5.out _ _ _ _ _) _ Try.underlying24 rfl info_cm13 (.int .i64 0) (by rfl) (.int .i64 131) (by rfl) ?_
  exact PDecR.bad hE.out B5.out _ _ _ _ _
 rw [decide_eq_true hv]
 have hE : Hid (cdec b = (⟨kind, txn, home, verd, ops⟩, vv, 0)) := by show _ = _; rw [hC3.out, if_neg (fun q => q hv)]
 replace hv := hide hv
 obtain ⟨⟨Y0, Y1, Y2, Y3, Y4⟩, YF⟩ := cells5c HY5.out
 go_wp2
 (try simp only [Exit.inBlock, Exit.then])
 refine retNTT (p := 2) (u1 := 3) (u2 := 4) (ty := 24) (by rfl) (by rfl) w.heap.size (by rfl) _ _ (0, 0) (heap_all5 HD5.out _ _ _ _ _) _ Try.underlying24 rfl info_cm13 (.int .i64 vv) (by rfl) (.int .i64 0) (by rfl) ?_
 have q1 := fun i => (show w.heap.size ≤ (⟨w.heap.size, i, none⟩ : Addr).block from Nat.le_refl _)
 have q2 := fun i => (show (⟨w.heap.size, i, none⟩ : Addr).block < W.heap.size from LW.out)
 refine ⟨.slice ca cn cp, by rw [hE.out], ?_, ((((B5.out.setCell (q1 0) _).setCell (q1 1) _).setCell (q1 2) _).setCell (q1 3) _).setCell (q1 4) _⟩
 rw [hE.out]
 exact rows_base (row_set13 (row_set13 (row_set13 (row_set13 (row_set13 HO5.out (q2 0) _) (q2 1) _) (q2 2) _) (q2 3) _) (q2 4) _) (fun k hk => by have := (World.ownsRow.lt HO5.out k hk).1; have := LW.out; omega)
theorem cmd_say : CmdSay := ⟨fun w c v h _ => pcheck13_any w c v h, fun w c v ver h _ _ => pencode13_any w c v ver h, fun w v b h _ => pdecode13_any w v b h⟩
end Go.Proofs.Ytdjjegaodgocmaa
