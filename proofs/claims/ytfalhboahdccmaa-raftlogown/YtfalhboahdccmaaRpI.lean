/-
  The program's Append, Compact and From of logs. (Written by gen15q.py.)
-/
import Derived.Test.YtfalhboahdccmaaRpG
import Derived.Test.YtfalhboahdccmaaRpH
import Derived.Test.YtfalhboahdccmaaRlF
namespace Go.Proofs.Ytfalhboahdccmaa
open Go.RowKit
set_option linter.unusedVariables false
set_option linter.unusedSimpArgs false

theorem rd_one15 {w : World} {g : Nat} {y : Wrt} {u : Value} {T : TypeId} {fr : Nat × Nat} (hg : w.heap[g]? = some (.cells #[.int .i64 y.1, u] T fr)) (hu : Rd w u y.2) : RdC w (.slice (some ⟨g, 0, none⟩) 1 1) [y] := by
  refine ⟨_, 1, rfl, Nat.le_refl _, by decide, (fun e => by cases e), .inr ⟨g, 0, rfl, fun i z hz => ?_⟩⟩
  have hi : i = 0 := by have := (List.getElem?_eq_some_iff.1 hz).1; simpa using this
  subst hi
  simp only [List.getElem?_cons_zero, Option.some.injEq] at hz
  subst hz
  refine ⟨[.int .i64 y.1, u], ⟨[.int .i64 y.1], [u], rfl, rfl, u, rfl, hu⟩, fun j x hj => ?_⟩
  show w.cell? ⟨g, 0 + 0 * 2 + j, none⟩ = _
  match j, hj with
  | 0, hj => simp only [List.getElem?_cons_zero, Option.some.injEq] at hj; subst hj; rw [cell_of_row w g _ _ _ _ hg]; rfl
  | 1, hj => simp only [List.getElem?_cons_succ, List.getElem?_cons_zero, Option.some.injEq] at hj; subst hj; rw [cell_of_row w g _ _ _ _ hg]; rfl
  | j + 2, hj => simp at hj
theorem ljoin_app {l : Lg} (ok : LOk l) (y : Wrt) : ljoin (ltk l l.es.length) [y] = lapp l y := by
  have e : ltk l l.es.length = l := by unfold ltk; rw [List.take_length]
  rw [e, lapp_ref ok y]
  by_cases h : lref l y = 0
  · rw [if_pos h, ljoin_yes h]; rfl
  · rw [if_neg h, ljoin_no h]
set_option maxRecDepth 100000 in
set_option maxHeartbeats 8000000 in
theorem papp15_any (w : World) (l : Lg) (v : Value) (y : Wrt) (dv : Value) (h : RdC w v l.es) (hfit : l.es.length * 32 ≤ 140737488351232) (hd : Rd w dv y.2) : Calls Try.prog 13 #[lv l v, ev y dv] w fun e w' =>
    ∃ v', e = .returned (.tuple #[lv (lapp l y).1 v', .int .i64 (lapp l y).2]) ∧ Own SEntB w.heap.size w' [v'] (lapp l y).1.es ∧ Below w.heap.size w w' := by
  obtain ⟨W0, hW0, D, bW0, sW0⟩ := boxedN w #[.int .i64 l.base, .int .i64 l.bt, v] 28
  obtain ⟨W1, hW1, DE, bW1, sW1⟩ := boxedN W0 #[.int .i64 y.1, dv] 27
  obtain ⟨W, hW, DZ, bW2, sW2⟩ := boxedN W1 #[.int .i64 0, .int .i64 0, .slice none 0 0] 28
  have bWa := bW0.trans (bW1.mono bW0.size)
  have bW := bWa.trans (bW2.mono bWa.size)
  replace D := ((bW2.mono (show w.heap.size + 1 ≤ W1.heap.size by omega)).block w.heap.size (by omega)).trans ((bW1.block w.heap.size (lt_of_block D)).trans D)
  rw [sW0] at DE
  replace DE := (bW2.block _ (by omega)).trans DE
  have sW : W.heap.size = w.heap.size + 3 := by omega
  rw [sW1, sW0] at DZ
  have HR : Hid (∀ U, Below W.heap.size W U → RdC U v l.es) := fun U b => (h.to0 bW).to0 b
  have KC := hide (pcheck15_any W l v (HR.out W (Below.refl _ _)) hfit)
  have KJ : Hid (LOk l → ∀ U, Below W.heap.size W U → Calls Try.prog 35 #[lv l v, .int .i64 l.es.length, .slice (some ⟨U.heap.size, 0, none⟩) 1 1] (U.alloc (.cells #[.int .i64 y.1, dv] 27)) fun e w' =>
      ∃ v', e = .returned (.tuple #[lv (lapp l y).1 v', .int .i64 (lapp l y).2]) ∧ Own SEntB (U.heap.size + 1) w' [v'] (lapp l y).1.es ∧ Below U.heap.size U w') := fun ok U b => by
    have b2 : Below U.heap.size U (U.alloc (.cells #[.int .i64 y.1, dv] 27)) := (Below.refl _ _).alloc (Nat.le_refl _) _
    have := pjoined15_any (U.alloc (.cells #[.int .i64 y.1, dv] 27)) l v l.es.length [y] _ (HR.out _ (b.trans (b2.mono b.size))) ok (Nat.le_refl _) (rd_one15 (heap_alloc_last U _) ((hd.to bW).to (b.trans (b2.mono b.size))))
    rw [ljoin_app ok] at this
    refine this.mono ?_
    rintro e w' ⟨v', e1, o1, b1⟩
    have es : (U.alloc (.cells #[.int .i64 y.1, dv] 27)).heap.size = U.heap.size + 1 := by simp
    rw [es] at o1 b1
    exact ⟨v', e1, o1, b2.trans (b1.mono (by omega))⟩
  obtain ⟨a, cp, rfl⟩ := h.slice
  obtain ⟨da, dc, rfl⟩ := hd.slice
  obtain ⟨⟨D0, D1, D2⟩, Df⟩ := cells3l D
  obtain ⟨⟨E0, E1⟩, _⟩ := cells2l DE
  have HS : Hid (∀ U, Below W.heap.size W U → ((U.cell? ⟨w.heap.size, 0, none⟩ = some (.int .i64 l.base) ∧ U.cell? ⟨w.heap.size, 1, none⟩ = some (.int .i64 l.bt) ∧ U.cell? ⟨w.heap.size, 2, none⟩ = some (.slice a l.es.length cp)) ∧
      (U.cell? ⟨w.heap.size + 1, 0, none⟩ = some (.int .i64 y.1) ∧ U.cell? ⟨w.heap.size + 1, 1, none⟩ = some (.slice da y.2.length dc)))) := fun U b =>
    ⟨⟨(b.cell (cell_lt D0)).trans D0, (b.cell (cell_lt D1)).trans D1, (b.cell (cell_lt D2)).trans D2⟩, (b.cell (cell_lt E0)).trans E0, (b.cell (cell_lt E1)).trans E1⟩
  have HZ : Hid (∀ U, Below W.heap.size W U → U.heap[w.heap.size + 1 + 1]? = some (.cells #[.int .i64 0, .int .i64 0, .slice none 0 0] 28 (0, 0))) := fun U b => (b.block _ (lt_of_block DZ)).trans DZ
  have HF : Hid (∀ U x y z, Below W.heap.size W U → ((((U.setCell ⟨w.heap.size + 1 + 1, 0, none⟩ x).setCell ⟨w.heap.size + 1 + 1, 1, none⟩ y).setCell ⟨w.heap.size + 1 + 1, 2, none⟩ z).heap[w.heap.size + 1 + 1]? = some (.cells #[x, y, z] 28 (0, 0)) ∧
      Below w.heap.size w (((U.setCell ⟨w.heap.size + 1 + 1, 0, none⟩ x).setCell ⟨w.heap.size + 1 + 1, 1, none⟩ y).setCell ⟨w.heap.size + 1 + 1, 2, none⟩ z))) := fun U x y z b =>
    ⟨heap_set3l (HZ.out U b) x y z, below_set3l (bW.trans (b.mono bW.size)) (by omega) x y z⟩
  have SW : Hid (W.heap.size = w.heap.size + 3) := sW
  obtain ⟨RR, hRR⟩ : ∃ R, R = lapp l y := ⟨_, rfl⟩
  rw [← hRR] at KJ ⊢
  have RN : Hid (¬ LOk l → RR = (lnil, 9)) := fun k => hRR.trans (lapp_no k)
  have lbx : y.2.length ≤ 9223372036854775807 := by
    obtain ⟨_, _, _, q1, q2, _⟩ := hd
    exact Nat.le_trans q1 q2
  have hWW : Hid (W = ((w.alloc (.cells #[.int .i64 l.base, .int .i64 l.bt, .slice a l.es.length cp] 28)).alloc (.cells #[.int .i64 y.1, .slice da y.2.length dc] 27)).alloc (.cells #[.int .i64 0, .int .i64 0, .slice none 0 0] 28)) := by
    rw [hW1, hW0] at hW; exact hW
  clear hRR h hd bW D D0 D1 D2 E0 E1 DE bW0 bW1 bW2 bWa sW0 DZ sW sW1 sW2 hW hW0 hW1 Df HR
  obtain ⟨rl, re⟩ := RR
  dsimp only [lv, ev] at KC KJ ⊢
  obtain ⟨⟨D0, D1, D2⟩, E0, E1⟩ := HS.out W (Below.refl _ _)
  rw [hWW.out] at D0 D1 D2 E0 E1 KC
  go_enter Try.func13, Try.ntmps13
  go_wp2_with fail
  refine KC.out.mono ?_
  rintro e w1 ⟨rfl, b1⟩
  rw [← hWW.out] at b1
  have B1 := hide b1
  clear b1 KC hWW D0 D1 D2 E0 E1
  obtain ⟨⟨D0, D1, D2⟩, E0, E1⟩ := HS.out w1 B1.out
  by_cases ok : LOk l
  case neg =>
    have hc := hide (lcheck_no ok)
    have hr := hide (RN.out ok)
    rw [hc.out]
    obtain ⟨⟨Q0, Q1, Q2⟩, Rf⟩ := cells3l (HZ.out _ B1.out)
    have Rf0 := Rf 0
    have Rf1 := Rf 1
    have Rf2 := Rf 2
    clear Rf KJ
    go_wp2
    refine retNT rfl rfl (w.heap.size + 1 + 1) rfl _ _ (0, 0) (HF.out _ _ _ _ B1.out).1 _ Try.underlying28 rfl info_lgP (.int .i64 9) rfl ?_
    have e1 := hr.out
    simp only [Prod.mk.injEq] at e1
    obtain ⟨rfl, rfl⟩ := e1
    exact ⟨.slice none 0 0, rfl, Own.nil _ _ _ _, (HF.out _ _ _ _ B1.out).2⟩
  have hc := hide (lcheck_ok ok)
  rw [hc.out]
  have KJ2 := hide (KJ.out ok w1 B1.out)
  clear KJ hc ok RN
  obtain ⟨base, bt, es⟩ := l
  obtain ⟨t, x⟩ := y
  dsimp only at KJ2 HS D0 D1 D2 E0 E1 lbx
  generalize es.length = n at *
  generalize x.length = m at *
  go_wp2_with fail
  refine KJ2.out.mono ?_
  rintro e w2 ⟨v', rfl, o2, b2⟩
  have B2 := B1.out.trans (b2.mono B1.out.size)
  have hs := B1.out.size
  have O2 := hide ((own_set3l o2 (g := w.heap.size + 1 + 1) (by have := SW.out; omega) (.int .i64 rl.base) (.int .i64 rl.bt) v').mono (show w.heap.size ≤ w1.heap.size + 1 by have := SW.out; omega))
  obtain ⟨va, vc, rfl⟩ := o2.rdS.slice
  have HF2 := hide (HF.out w2 (.int .i64 rl.base) (.int .i64 rl.bt) (.slice va rl.es.length vc) B2)
  obtain ⟨⟨Q0, Q1, Q2⟩, Rf⟩ := cells3l (HZ.out _ B2)
  have Rf0 := Rf 0
  have Rf1 := Rf 1
  have Rf2 := Rf 2
  clear Rf KJ2 o2 b2 B2 D0 D1 D2 E0 E1
  generalize rl.es.length = rn at *
  go_wp2
  refine retNT rfl rfl (w.heap.size + 1 + 1) rfl _ _ (0, 0) HF2.out.1 _ Try.underlying28 rfl info_lgP (.int .i64 re) rfl ?_
  exact ⟨_, rfl, O2.out, HF2.out.2⟩
set_option maxRecDepth 100000 in
set_option maxHeartbeats 8000000 in
theorem pcomp15_any (w : World) (l : Lg) (v : Value) (i : Int) (h : RdC w v l.es) (hfit : l.es.length * 32 ≤ 140737488351232) : Calls Try.prog 17 #[lv l v, .int .i64 i] w fun e w' =>
    ∃ v', e = .returned (.tuple #[lv (lcomp l i).1 v', .int .i64 (lcomp l i).2]) ∧ Own SEntB w.heap.size w' [v'] (lcomp l i).1.es ∧ Below w.heap.size w w' := by
  obtain ⟨W, hW, D, Z, bW, sW⟩ := boxesP w l.base l.bt v
  have HR : Hid (∀ U, Below W.heap.size W U → RdC U v l.es) := fun U b => (h.to0 bW).to0 b
  have KC := hide (ptold15_any W l v i (HR.out W (Below.refl _ _)) hfit)
  have HO : Hid (LOk l → ∀ U k T a cp, v = .slice a l.es.length cp → Below W.heap.size W U → k ≤ l.es.length → Calls Try.prog 39 #[.agg #[.int .i64 i, .int .i64 T, .slice (if cp = k then a else Option.map (fun x => x.add (k * 2)) a) (l.es.length - k) (cp - k)]] U fun e w' =>
      ∃ v', e = .returned (.agg #[.int .i64 i, .int .i64 T, v']) ∧ Own SEntB U.heap.size w' [v'] (l.es.drop k) ∧ Below U.heap.size U w') := fun ok U k T a cp hv b hk => by
    subst hv
    obtain ⟨A', hA', hr⟩ := rdS_cut15 (HR.out U b) hk (Nat.le_refl _)
    rw [List.take_of_length_le (Nat.le_refl _)] at hr
    have hA2 : (if cp = k then a else Option.map (fun x => x.add (k * 2)) a) = A' := hA'
    rw [hA2]
    exact pcopy15_any U ⟨i, T, l.es.drop k⟩ _ hr (by dsimp only; rw [List.length_drop]; omega) (fun x hx => by have := ok.len x (List.mem_of_mem_drop hx); omega)
  obtain ⟨a, cp, rfl⟩ := h.slice
  obtain ⟨⟨D0, D1, D2⟩, _⟩ := cells3l D
  have HS : Hid (∀ U, Below W.heap.size W U → (U.cell? ⟨w.heap.size, 0, none⟩ = some (.int .i64 l.base) ∧ U.cell? ⟨w.heap.size, 1, none⟩ = some (.int .i64 l.bt) ∧ U.cell? ⟨w.heap.size, 2, none⟩ = some (.slice a l.es.length cp))) := fun U b =>
    ⟨(b.cell (cell_lt D0)).trans D0, (b.cell (cell_lt D1)).trans D1, (b.cell (cell_lt D2)).trans D2⟩
  have HE : Hid (∀ U, Below W.heap.size W U → Below w.heap.size w U) := fun U b => bW.trans (b.mono bW.size)
  have HZ : Hid (∀ U, Below W.heap.size W U → U.heap[w.heap.size + 1]? = some (.cells #[.int .i64 0, .int .i64 0, .slice none 0 0] 28 (0, 0))) := fun U b => (b.block _ (lt_of_block Z)).trans Z
  have HF : Hid (∀ U x y z, Below W.heap.size W U → ((((U.setCell ⟨w.heap.size + 1, 0, none⟩ x).setCell ⟨w.heap.size + 1, 1, none⟩ y).setCell ⟨w.heap.size + 1, 2, none⟩ z).heap[w.heap.size + 1]? = some (.cells #[x, y, z] 28 (0, 0)) ∧
      Below w.heap.size w (((U.setCell ⟨w.heap.size + 1, 0, none⟩ x).setCell ⟨w.heap.size + 1, 1, none⟩ y).setCell ⟨w.heap.size + 1, 2, none⟩ z))) := fun U x y z b =>
    ⟨heap_set3l (HZ.out U b) x y z, below_set3l (bW.trans (b.mono bW.size)) (by omega) x y z⟩
  have SW : Hid (W.heap.size = w.heap.size + 1 + 1) := sW
  obtain ⟨RR, hRR⟩ : ∃ R, R = lcomp l i := ⟨_, rfl⟩
  rw [← hRR]
  have RN : Hid (¬ LOk l → RR = (lnil, 9) ∧ ltold l i = (0, 9)) := fun k => ⟨hRR.trans (if_neg k), if_neg k⟩
  have RO : Hid (LOk l → (i < l.base ∨ lend l < i) → RR = (lnil, 71) ∧ ltold l i = (0, 71)) := fun k q => ⟨hRR.trans ((if_pos k).trans (if_pos q)), (if_pos k).trans (if_pos q)⟩
  have RY : Hid (LOk l → ¬ (i < l.base ∨ lend l < i) → RR = (⟨i, lterm l i, l.es.drop (i - l.base).toNat⟩, 0) ∧ ltold l i = (lterm l i, 0)) := fun k q => ⟨hRR.trans ((if_pos k).trans (if_neg q)), (if_pos k).trans (if_neg q)⟩
  clear hRR
  have BD : Hid (LOk l → (0 ≤ l.base ∧ l.base ≤ 1099511627776) ∧ (0 ≤ l.bt ∧ l.bt ≤ 1099511627776) ∧ l.es.length ≤ 4096 ∧ l.base + l.es.length ≤ 1099511627776) := fun ok => ok.bd
  have LE : Hid (lend l = l.base + l.es.length) := rfl
  replace HO : Hid (LOk l → ∀ U k T, Below W.heap.size W U → k ≤ l.es.length → Calls Try.prog 39 #[.agg #[.int .i64 i, .int .i64 T, .slice (if cp = k then a else Option.map (fun x => x.add (k * 2)) a) (l.es.length - k) (cp - k)]] U fun e w' =>
      ∃ v', e = .returned (.agg #[.int .i64 i, .int .i64 T, v']) ∧ Own SEntB U.heap.size w' [v'] (l.es.drop k) ∧ Below U.heap.size U w') := fun ok U k T b hk => HO.out ok U k T a cp rfl b hk
  have HC : Hid (l.es.length ≤ cp) := by
    obtain ⟨_, _, q0, q1, _⟩ := h
    simp only [Value.slice.injEq] at q0
    show _ ≤ _
    omega
  clear h bW D sW D0 D1 D2 Z HR
  dsimp only [lv] at KC ⊢
  obtain ⟨D0, D1, D2⟩ := HS.out W (Below.refl _ _)
  rw [hW] at D0 D1 D2 KC
  go_enter Try.func17, Try.ntmps17
  go_wp2_with fail
  refine KC.out.mono ?_
  rintro e w1 ⟨rfl, b1⟩
  rw [← hW] at b1
  have B1 := hide b1
  obtain ⟨E0, E1, E2⟩ := HS.out w1 b1
  clear b1 KC hW D0 D1 D2
  by_cases ok : LOk l
  case neg =>
    have hr := hide (RN.out ok)
    rw [congrArg Prod.fst hr.out.2, congrArg Prod.snd hr.out.2]
    obtain ⟨⟨Q0, Q1, Q2⟩, Rf⟩ := cells3l (HZ.out _ B1.out)
    have Rf0 := Rf 0
    have Rf1 := Rf 1
    have Rf2 := Rf 2
    clear Rf HO
    go_wp2
    refine retNT rfl rfl (w.heap.size + 1) rfl _ _ (0, 0) (HF.out _ _ _ _ B1.out).1 _ Try.underlying28 rfl info_lgP (.int .i64 9) rfl ?_
    rw [hr.out.1]
    exact ⟨.slice none 0 0, rfl, Own.nil _ _ _ _, (HF.out _ _ _ _ B1.out).2⟩
  by_cases g : i < l.base ∨ lend l < i
  case pos =>
    have hr := hide (RO.out ok g)
    rw [congrArg Prod.fst hr.out.2, congrArg Prod.snd hr.out.2]
    obtain ⟨⟨Q0, Q1, Q2⟩, Rf⟩ := cells3l (HZ.out _ B1.out)
    have Rf0 := Rf 0
    have Rf1 := Rf 1
    have Rf2 := Rf 2
    clear Rf HO
    go_wp2
    refine retNT rfl rfl (w.heap.size + 1) rfl _ _ (0, 0) (HF.out _ _ _ _ B1.out).1 _ Try.underlying28 rfl info_lgP (.int .i64 71) rfl ?_
    rw [hr.out.1]
    exact ⟨.slice none 0 0, rfl, Own.nil _ _ _ _, (HF.out _ _ _ _ B1.out).2⟩
  have hr := hide (RY.out ok g)
  rw [congrArg Prod.fst hr.out.2, congrArg Prod.snd hr.out.2]
  obtain ⟨k1, k2, k3, k4⟩ := BD.out ok
  have hle : lend l = l.base + l.es.length := LE.out
  have hc := HC.out
  replace HO := hide (HO.out ok)
  obtain ⟨k, hk⟩ : ∃ k : Nat, i - l.base = k := ⟨(i - l.base).toNat, by omega⟩
  have hkn : k ≤ l.es.length := by omega
  have hr1 := hide hr.out.1
  rw [show (i - l.base).toNat = k by omega] at hr1
  have KY : Hid (∀ A c, (if cp = k then a else Option.map (fun x => x.add (k * 2)) a) = A → c = cp - k → Calls Try.prog 39 #[.agg #[.int .i64 i, .int .i64 (lterm l i), .slice A (l.es.length - k) c]] w1 fun e w' =>
      ∃ v', e = .returned (.agg #[.int .i64 i, .int .i64 (lterm l i), v']) ∧ Own SEntB w1.heap.size w' [v'] (l.es.drop k) ∧ Below w1.heap.size w1 w') := fun A c q1 q2 => by
    have := HO.out w1 k (lterm l i) B1.out hkn
    rw [q1, ← q2] at this
    exact this
  clear RN RO RY BD LE HC hr HO k2 hle
  generalize lterm l i = T at *
  obtain ⟨base, bt, es⟩ := l
  dsimp only at KY HS E0 E1 E2 hr1 k1 k3 k4 hk hkn hc
  generalize hn : es.length = n at *
  replace hn := hide hn
  have hk1 : (0 : Int) ≤ (k : Int) := by omega
  have hk2 : (k : Int) ≤ (n : Int) := by omega
  have hk3 : (n : Int) ≤ (cp : Int) := by omega
  have hwk : IntKind.i64.wrap (k : Int) = (k : Int) := IntWalk.i64_in _ (by omega)
  clear g ok
  by_cases hck : cp = k
  · subst hck
    have KY2 := hide (KY.out a 0 (if_pos rfl) (by omega))
    rw [show n - cp = 0 by omega] at KY2
    clear KY
    go_wp2_with fail
    refine KY2.out.mono ?_
    rintro e w2 ⟨v', rfl, o2, b2⟩
    have B2 := B1.out.trans (b2.mono B1.out.size)
    have hs := B1.out.size
    have O2 := hide ((own_set3l o2 (g := w.heap.size + 1) (by have := SW.out; omega) (.int .i64 i) (.int .i64 T) v').mono (show w.heap.size ≤ w1.heap.size by have := SW.out; omega))
    obtain ⟨va, vc, rfl⟩ := o2.rdS.slice
    have HF2 := hide (HF.out w2 (.int .i64 i) (.int .i64 T) (.slice va (es.drop cp).length vc) B2)
    obtain ⟨⟨Q0, Q1, Q2⟩, Rf⟩ := cells3l (HZ.out _ B2)
    have Rf0 := Rf 0
    have Rf1 := Rf 1
    have Rf2 := Rf 2
    clear Rf KY2 o2 b2 B2 E0 E1 E2
    generalize (es.drop cp).length = rn at *
    go_wp2
    refine retNT rfl rfl (w.heap.size + 1) rfl _ _ (0, 0) HF2.out.1 _ Try.underlying28 rfl info_lgP (.int .i64 0) rfl ?_
    rw [hr1.out]
    exact ⟨_, rfl, O2.out, HF2.out.2⟩
  · have KY2 := hide (KY.out _ _ (if_neg hck) rfl)
    clear KY
    go_wp2_with fail
    refine KY2.out.mono ?_
    rintro e w2 ⟨v', rfl, o2, b2⟩
    have B2 := B1.out.trans (b2.mono B1.out.size)
    have hs := B1.out.size
    have O2 := hide ((own_set3l o2 (g := w.heap.size + 1) (by have := SW.out; omega) (.int .i64 i) (.int .i64 T) v').mono (show w.heap.size ≤ w1.heap.size by have := SW.out; omega))
    obtain ⟨va, vc, rfl⟩ := o2.rdS.slice
    have HF2 := hide (HF.out w2 (.int .i64 i) (.int .i64 T) (.slice va (es.drop k).length vc) B2)
    obtain ⟨⟨Q0, Q1, Q2⟩, Rf⟩ := cells3l (HZ.out _ B2)
    have Rf0 := Rf 0
    have Rf1 := Rf 1
    have Rf2 := Rf 2
    clear Rf KY2 o2 b2 B2 E0 E1 E2
    generalize (es.drop k).length = rn at *
    go_wp2
    refine retNT rfl rfl (w.heap.size + 1) rfl _ _ (0, 0) HF2.out.1 _ Try.underlying28 rfl info_lgP (.int .i64 0) rfl ?_
    rw [hr1.out]
    exact ⟨_, rfl, O2.out, HF2.out.2⟩
end Go.Proofs.Ytfalhboahdccmaa
