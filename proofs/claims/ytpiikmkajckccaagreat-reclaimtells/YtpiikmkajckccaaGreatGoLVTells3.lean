/- Several texts in one: NDecT TPB TPC TGoR TPrsR TGetR TTree TBA TBB TBC TBD TBE TBF TBG TBH VMath VPA VPB TQA. -/
import Derived.Deep.CutRange
import Derived.Test.YtpiikmkajckccaaGreatGoLVTells1
import Derived.Deep.QuietTactic
import Derived.BigQuiet
import Derived.Laws.Cover1
import Derived.Test.YtpiikmkajckccaaGreatGoLVTells2
import Derived.OwnWalkIn
set_option linter.unusedVariables false
set_option linter.unusedSimpArgs false
namespace Go.Proofs.YtpiikmkajckccaaGreat
open Go.RowKit
theorem rstS_ok {s : Nat} {r : Rr} (h : (rstS s r).short = false) : r.short = false ∧ rstS s r = rst s r ∧ rtkS s r = rtk s r := by
 unfold rstS at h
 by_cases hs : r.short = true
 ·rw [if_pos hs, hs] at h; cases h
 ·have hs' : r.short = false := by simpa using hs
  unfold rstS rtkS
  rw [if_neg hs, if_neg hs]
  exact ⟨hs', rfl, rfl⟩
theorem rstS_eq {s : Nat} {r : Rr} (h : r.short = false) : rstS s r = rst s r ∧ rtkS s r = rtk s r ∧ rnumS s r = rnum s r := by
 have : ¬ r.short = true := by rw [h]; decide
 unfold rstS rnumS rnum rtkS
 rw [if_neg this, if_neg this]
 exact ⟨rfl, rfl, rfl⟩
theorem frz9 {w : World} {g : Nat} {cs : Array Value} {t : TypeId} (h : w.heap[g]? = some (.cells cs t (0, 0))) (i : Nat) : w.frozen? ⟨g, i, none⟩ = false := by simp [World.frozen?, h]
def txS (r : Rr) : Str := rtkS (rnumS 1 r) (rstS 1 r)
def tsS (r : Rr) : Rr := rstS (rnumS 1 r) (rstS 1 r)
theorem tsS_ok {r : Rr} (h : (tsS r).short = false) : r.short = false ∧ tsS r = rts r ∧ txS r = rtx r := by
 unfold tsS at h
 obtain ⟨h1, h2, h3⟩ := rstS_ok h
 obtain ⟨h4, h5, h6⟩ := rstS_ok h1
 have h7 := (rstS_eq (s := 1) h4).2.2
 refine ⟨h4, ?_, ?_⟩
 ·unfold tsS rts; rw [h2, h7, h5]
 ·unfold txS rtx; rw [h3, h7, h5]
theorem tsS_bad {r : Rr} (h : r.short = false) (hb : (tsS r).short = true) : (rts r).short = true := by
 obtain ⟨e1, _, e3⟩ := rstS_eq (s := 1) h
 unfold tsS at hb
 rw [e1, e3] at hb
 unfold rts
 cases hq : (rst 1 r).short with
 | true => exact rst_short hq
 | false => rw [(rstS_eq hq).1] at hb; exact hb
def rk2 : Nat → Rr → Nd → Nd × Rr
 | 0, r, n => (n, r)
 | k + 1, r, n => rk2 k (rst 4 (rts r)) ⟨n.leaf, n.keys ++ [rtx r], n.vals, n.kids ++ [((rnum 4 (rts r) : Nat) : Int)]⟩
theorem rkids_rk2 : ∀ (k : Nat) (r : Rr) (n : Nd), rkids k r n = rk2 k (rst 4 r) ⟨n.leaf, n.keys, n.vals, n.kids ++ [((rnum 4 r : Nat) : Int)]⟩
 | 0, r, n => rfl
 | k + 1, r, n => by
  rw [rkids, rkids_rk2 k]
  rfl
theorem rk2_short : ∀ (k : Nat) (r : Rr) (n : Nd), r.short = true → (rk2 k r n).2.short = true
 | 0, r, n, h => h
 | k + 1, r, n, h => rk2_short k _ _ (rst_short (rts_short h))
theorem rfin_bad {p : Nd × Rr} (h : p.2.short = true) : (rfin p).2 ≠ 0 := by unfold rfin; rw [if_pos h]; decide
def GP (xs : List UInt8) (j : Nat) (r : Rr) (n : Nd) : Prop := (r.short = false ∧ nread xs = rfin (rpairs j r n)) ∨ (r.short = true ∧ (nread xs).2 ≠ 0)
def GK (xs : List UInt8) (j : Nat) (r : Rr) (n : Nd) : Prop := (r.short = false ∧ nread xs = rfin (rk2 j r n)) ∨ (r.short = true ∧ (nread xs).2 ≠ 0)
theorem GP.next {xs : List UInt8} {j : Nat} {r : Rr} {n : Nd} (h : GP xs (j + 1) r n) (hs : r.short = false) : GP xs j (tsS (tsS r)) ⟨n.leaf, n.keys ++ [txS r], n.vals ++ [txS (tsS r)], n.kids⟩ := by
 rcases h with ⟨_, h⟩ | ⟨h, _⟩
 ·rw [rpairs] at h
  cases hq : (tsS (tsS r)).short with
  | false =>
   obtain ⟨a1, a2, a3⟩ := tsS_ok hq
   obtain ⟨b1, b2, b3⟩ := tsS_ok a1
   left
   refine ⟨hq, ?_⟩
   rw [a2, a3, b2, b3]
   exact h
  | true =>
   right
   refine ⟨hq, ?_⟩
   rw [h]
   apply rfin_bad
   apply rpairs_short
   cases hr : (tsS r).short with
   | true => exact rts_short (tsS_bad hs hr)
   | false =>
    have := tsS_bad hr hq
    rw [(tsS_ok hr).2.1] at this
    exact this
 ·rw [hs] at h; cases h
theorem GK.next {xs : List UInt8} {j : Nat} {r : Rr} {n : Nd} (h : GK xs (j + 1) r n) (hs : r.short = false) : GK xs j (rstS 4 (tsS r)) ⟨n.leaf, n.keys ++ [txS r], n.vals, n.kids ++ [((rnumS 4 (tsS r) : Nat) : Int)]⟩ := by
 rcases h with ⟨_, h⟩ | ⟨h, _⟩
 ·rw [rk2] at h
  cases hq : (rstS 4 (tsS r)).short with
  | false =>
   obtain ⟨a1, a2, _⟩ := rstS_ok hq
   have a3 := (rstS_eq (s := 4) a1).2.2
   obtain ⟨b1, b2, b3⟩ := tsS_ok a1
   left
   refine ⟨hq, ?_⟩
   rw [a2, a3, b2, b3]
   exact h
  | true =>
   right
   refine ⟨hq, ?_⟩
   rw [h]
   apply rfin_bad
   apply rk2_short
   cases hr : (tsS r).short with
   | true => exact rst_short (tsS_bad hs hr)
   | false =>
    rw [(rstS_eq hr).1, (tsS_ok hr).2.1] at hq
    exact hq
 ·rw [hs] at h; cases h
theorem GP.start {xs : List UInt8} (hm : rnum 1 ⟨xs, false⟩ = 1) : GP xs (rnumS 1 (rstS 1 ⟨xs, false⟩)) (rstS 1 (rstS 1 ⟨xs, false⟩)) ⟨true, [], [], []⟩ := by
 have e1 := rstS_eq (s := 1) (r := ⟨xs, false⟩) rfl
 rw [e1.1]
 cases hq : (rstS 1 (rst 1 ⟨xs, false⟩)).short with
 | false =>
  obtain ⟨a1, a2, _⟩ := rstS_ok hq
  have a3 := (rstS_eq (s := 1) a1).2.2
  left
  refine ⟨hq, ?_⟩
  rw [a2] at hq ⊢
  rw [a3]
  exact nread_leaf hq hm
 | true =>
  right
  refine ⟨hq, ?_⟩
  have : (rst 1 (rst 1 ⟨xs, false⟩)).short = true := by
   cases hr : (rst 1 ⟨xs, false⟩).short with
   | true => exact rst_short hr
   | false => rw [(rstS_eq hr).1] at hq; exact hq
  rw [nread_short this]
  decide
theorem GK.start {xs : List UInt8} (hm : rnum 1 ⟨xs, false⟩ = 0) : GK xs (rnumS 1 (rstS 1 ⟨xs, false⟩)) (rstS 4 (rstS 1 (rstS 1 ⟨xs, false⟩))) ⟨false, [], [], [((rnumS 4 (rstS 1 (rstS 1 ⟨xs, false⟩)) : Nat) : Int)]⟩ := by
 have e1 := rstS_eq (s := 1) (r := ⟨xs, false⟩) rfl
 rw [e1.1]
 cases hp : (rstS 1 (rst 1 ⟨xs, false⟩)).short with
 | false =>
  obtain ⟨a1, a2, _⟩ := rstS_ok hp
  have a3 := (rstS_eq (s := 1) a1).2.2
  obtain ⟨c1, _, c3⟩ := rstS_eq (s := 4) hp
  rw [c1, c3, a2, a3]
  rw [a2] at hp
  have hn := nread_inner hp hm
  rw [rkids_rk2] at hn
  cases hq : (rst 4 (rst 1 (rst 1 ⟨xs, false⟩))).short with
  | false => exact .inl ⟨hq, hn⟩
  | true => exact .inr ⟨hq, by rw [hn]; exact rfin_bad (rk2_short _ _ _ hq)⟩
 | true =>
  right
  refine ⟨rstS_short hp, ?_⟩
  have : (rst 1 (rst 1 ⟨xs, false⟩)).short = true := by
   cases hr : (rst 1 ⟨xs, false⟩).short with
   | true => exact rst_short hr
   | false => rw [(rstS_eq hr).1] at hp; exact hp
  rw [nread_short this]
  decide
theorem kind_bad {xs : List UInt8} (h : 1 < rnum 1 ⟨xs, false⟩) : (ndec xs).2 ≠ 0 := by
 have : (nread xs).2 ≠ 0 := by
  cases hs : (rst 1 (rst 1 ⟨xs, false⟩)).short with
  | true => rw [nread_short hs]; decide
  | false => rw [nread_kind hs (by omega) (by omega)]; decide
 unfold ndec
 rw [if_neg this]
 exact this
theorem ndec_no {xs : List UInt8} (h : (nread xs).2 ≠ 0) : (ndec xs).2 ≠ 0 := by unfold ndec; rw [if_neg h]; exact h
def DecR (xs : List UInt8) (n : Nd) (err : Int) : Prop := (err = 0 ∧ ndec xs = (n, 0)) ∨ (err ≠ 0 ∧ n = none9 ∧ (ndec xs).2 ≠ 0)
theorem DecR.fin {xs : List UInt8} {n : Nd} {r : Rr} (h : nread xs = rfin (n, r)) (hs : r.short = false) (hr : r.rest.length = 0) : DecR xs (if ncheck n = 0 then n else none9) (ncheck n) := by
 have e : nread xs = (n, 0) := by rw [h]; unfold rfin; dsimp only; rw [hs, if_neg (by decide), if_neg (by omega)]
 unfold DecR ndec
 rw [e]
 by_cases hz : ncheck n = 0
 ·rw [if_pos hz, hz]; left; exact ⟨rfl, by simp [hz]⟩
 ·right; exact ⟨hz, if_neg hz, by simp [hz]⟩
set_option maxRecDepth 100000 in
set_option maxHeartbeats 8000000 in
theorem rdec9_any (w : World) (v : Value) (xs : List UInt8) (h : Rd w v xs) :
  Calls Tryz.prog 74 #[v] w fun e w' => ∃ n err kv vv dv, e = .returned (.tuple #[nv n kv vv dv, .int .i64 err]) ∧ DecR xs n err ∧ OwnN w.heap.size w' kv vv dv n ∧ Below w.heap.size w w' := by
 obtain ⟨a, c, rfl⟩ := h.slice
 obtain ⟨i0, ii, iz0, iz1, iz2⟩ := info_parts infoT
 obtain ⟨j0, ji, jz0, jz1, jz2⟩ := info_parts infoJ
 have lxs : xs.length ≤ 9223372036854775807 := by obtain ⟨_, _, e, _, m1, _⟩ := h; simp only [Value.slice.injEq] at e; unfold maxLen at m1; omega
 have HH := hide h
 obtain ⟨X, hX⟩ : ∃ X, X = ((w.alloc (.cells #[.bool false, nil9, nil9, nil9] 145)).alloc (.cells #[.slice a xs.length c, .int .i64 0, .bool false] 185)) := ⟨_, rfl⟩
 have bX : Below w.heap.size w X := by rw [hX]; exact ((Below.refl _ _).alloc (Nat.le_refl _) _).alloc (by simp) _
 have sX : X.heap.size = w.heap.size + 1 + 1 := by rw [hX]; simp
 have gX : X.heap[w.heap.size + 1]? = some (.cells #[.slice a xs.length c, .int .i64 0, .bool false] 185 (0, 0)) := by
  rw [hX]
  have := heap_alloc_last (w.alloc (.cells #[.bool false, nil9, nil9, nil9] 145)) (.cells #[.slice a xs.length c, .int .i64 0, .bool false] 185)
  simpa using this
 have rX : X.heap[w.heap.size]? = some (.cells #[.bool false, nil9, nil9, nil9] 145 (0, 0)) := by
  rw [hX, Below.heap_alloc _ _ _ (by simp)]; exact heap_alloc_last w _
 obtain ⟨r0, hr0⟩ : ∃ r : Rr, r = ⟨xs, false⟩ := ⟨_, rfl⟩
 have x0 : RdrP w (w.heap.size + 1) X xs r0 := by subst hr0; exact ⟨a, c, xs.length, 0, gX, h, rfl, Nat.zero_le _, by simp, bX, by omega⟩
 have K1 := hide (rnum9_any w (w.heap.size + 1) X xs r0 1 x0 (by decide))
 rw [(rstS_eq (s := 1) (r := r0) (by rw [hr0])).2.2] at K1
 have RX := hide (And.intro rX sX)
 have HR := hide hr0
 clear bX gX rX x0 hr0 h sX
 go_enter Tryz.func74, Tryz.ntmps74
 go_wp2_with fail
 rw [← hX]
 replace hX := hide hX
 refine K1.out.mono ?_
 rintro e w1 ⟨rfl, r1, k1⟩
 clear K1
 have RY : Hid (w1.heap[w.heap.size]? = some (.cells #[.bool false, nil9, nil9, nil9] 145 (0, 0)) ∧ w.heap.size + 1 + 1 ≤ w1.heap.size) := ⟨(k1.1 _ (by have := RX.out.2; omega) (by omega)).trans RX.out.1, by have := k1.2.1; have := RX.out.2; omega⟩
 obtain ⟨M, hM⟩ : ∃ M, M = rnum 1 r0 := ⟨_, rfl⟩
 rw [← hM]
 replace hM := hide hM
 have R1 := hide r1
 have hML : M < 256 := by rw [hM.out]; exact rnum_lt 1 _
 obtain ⟨ra, rc, rL, rat, hrd⟩ := r1
 have C2 := (cells3p hrd.box).1.2.2
 have B1 := hide hrd.bel
 clear hrd k1 RX
 by_cases m2 : 1 < M
 ·have hs1 : (rstS 1 r0).short = false := by
   rw [(rstS_eq (s := 1) (r := r0) (by rw [HR.out])).1]
   unfold rst
   by_cases hl : r0.rest.length < 1
   ·exfalso
    have : rnum 1 r0 = 0 := by unfold rnum rtk; rw [if_pos hl]; rfl
    have := hM.out
    omega
   ·rw [if_neg hl, HR.out]
  rw [hs1] at C2
  have g1 : decide ((1 : Int) < (M : Int)) = true := decide_eq_true (by omega)
  have g2 : decide (1 < M) = true := decide_eq_true m2
  have e : Hid (DecR xs none9 22) := .inr ⟨by decide, rfl, kind_bad (by rw [← HR.out, ← hM.out]; exact m2)⟩
  obtain ⟨⟨Q0, Q1, Q2, Q3⟩, Rf⟩ := cells4 RY.out.1
  have Rf0 := Rf 0
  have Rf1 := Rf 1
  have Rf2 := Rf 2
  have Rf3 := Rf 3
  clear Rf hs1
  go_wp2
  refine retNT rfl rfl w.heap.size rfl _ _ (0, 0) (heap_set4 (u := w1) RY.out.1 _ _ _ _) _ Tryz.underlying145 rfl info_ndR (.int .i64 22) rfl ?_
  exact ⟨none9, 22, nil9, nil9, nil9, rfl, e.out, OwnN.nil _ _ _, below_set4n B1.out (Nat.le_refl _) _ _ _ _⟩
 go_upto_region 3 with fail
 go_cut [28] from 20 to 28 (fun s wx => s = .bool false ∧ w1 = wx)
 case first =>
  have g1 : decide ((1 : Int) < (M : Int)) = false := decide_eq_false (by omega)
  have g2 : decide (1 < M) = false := decide_eq_false m2
  cases hb : (rstS 1 r0).short
  all_goals
   rw [hb] at C2
   replace hb := hide hb
   go_wp2_with fail
   all_goals (go_meet; exact ⟨rfl, rfl⟩)
 case rest =>
 obtain ⟨rfl, rfl⟩ := hcut
 clear C2
 have K2 := hide (rnum9_any w (w.heap.size + 1) w1 xs (rstS 1 r0) 1 R1.out (by decide))
 go_wp2_with fail
 refine K2.out.mono ?_
 rintro e w2 ⟨rfl, r2, k2⟩
 clear K2
 have RZ : Hid (w2.heap[w.heap.size]? = some (.cells #[.bool false, nil9, nil9, nil9] 145 (0, 0)) ∧ w.heap.size + 1 + 1 ≤ w2.heap.size) := ⟨(k2.1 _ (by have := RY.out.2; omega) (by omega)).trans RY.out.1, by have := k2.2.1; have := RY.out.2; omega⟩
 have hL : rnumS 1 (rstS 1 r0) < 256 := rnumS_lt 1 _
 obtain ⟨left, hleft⟩ : ∃ L, L = rnumS 1 (rstS 1 r0) := ⟨_, rfl⟩
 rw [← hleft] at hL ⊢
 replace hleft := hide hleft
 obtain ⟨r, hr⟩ : ∃ q, q = rstS 1 (rstS 1 r0) := ⟨_, rfl⟩
 rw [← hr] at r2
 replace hr := hide hr
 obtain ⟨nb, hnb⟩ : ∃ nb, nb = w2.heap.size := ⟨_, rfl⟩
 have ST : Hid (∀ b : Bool, RStP w xs nb (w2.alloc (.cells #[.bool b, nil9, nil9, nil9] 145)) nil9 nil9 nil9 ⟨b, [], [], []⟩ r) := fun b => by
  have bb : Below w2.heap.size w2 (w2.alloc (.cells #[.bool b, nil9, nil9, nil9] 145)) := (Below.refl _ _).alloc (Nat.le_refl _) _
  refine ⟨r2.to bb, (bb.block _ (lt_of_block RZ.out.1)).trans RZ.out.1, by rw [hnb]; exact heap_alloc_last w2 _, OwnN.nil _ _ _, by have := RZ.out.2; omega, ?_, ?_, ?_⟩ <;> (intro k e; cases e)
 clear r2 k2 RY
 rcases (show M = 1 ∨ M = 0 by omega) with m1 | m1
 ·subst m1
  have S0 : Hid (RStP w xs nb (w2.alloc (.cells #[.bool true, nil9, nil9, nil9] 145)) nil9 nil9 nil9 ⟨true, [], [], []⟩ r) := hide (ST.out true)
  clear ST
  obtain ⟨V, hV⟩ : ∃ V, V = w2.alloc (.cells #[.bool true, nil9, nil9, nil9] 145) := ⟨_, rfl⟩
  rw [← hV] at S0
  have N0 := (cells4 S0.out.box).1.1
  have G0 : Hid (GP xs left r ⟨true, [], [], []⟩) := by
   rw [hleft.out, hr.out, HR.out]
   exact GP.start (by rw [← HR.out, ← hM.out])
  rw [hV, hnb] at N0
  go_wp2
  rw [← hV, ← hnb]
  replace hV := hide hV
  replace hnb := hide hnb
  clear N0
  go_loopw [8] (fun p wr => ∃ i : Nat, i ≤ left ∧ p = .int .i64 i ∧ Hid (∃ (kv vv dv : Value) (n : Nd) (r : Rr), RStP w xs nb wr kv vv dv n r ∧ GP xs (left - i) r n ∧ n.leaf = true ∧ n.keys.length + (left - i) ≤ 256 ∧ n.vals.length + (left - i) ≤ 256 ∧ n.kids.length + (left - i) ≤ 257)) (fun p _ => left - (intOf p).toNat)
  case atStart => exact ⟨0, Nat.zero_le _, rfl, ⟨_, _, _, _, _, S0.out, G0.out, rfl, by simp; omega, by simp; omega, by simp; omega⟩⟩
  case round =>
   obtain ⟨i, hi, rfl, hI⟩ := hrel
   obtain ⟨kv, vv, dv, n, r, hs, hg, hlf, hb1, hb2, hb3⟩ := hI.out
   obtain ⟨ak, ck, av, cv, ad, cd, rfl, rfl, rfl⟩ := hs.own.rd.slices
   have S0 := hide hs
   replace hlf := hide hlf
   obtain ⟨ra, rc, rL, rat, hrd⟩ := hs.rdr
   have C2 := (cells3p hrd.box).1.2.2
   clear hs hI
   cases hsh : r.short with
   | true =>
    rw [hsh] at C2
    have hG : Hid ((nread xs).2 ≠ 0) := by
     rcases hg with ⟨h, _⟩ | ⟨_, h⟩
     ·rw [hsh] at h; cases h
     ·exact h
    clear hg hrd
    replace hsh := hide hsh
    by_cases hlt : i < left
    ·have hq : (i : Int) < (left : Int) := by omega
     have RES := hide S0.out.res
     have BEL := hide S0.out.rdr.bel
     obtain ⟨⟨Q0, Q1, Q2, Q3⟩, Rf⟩ := cells4 RES.out
     have Rf0 := Rf 0
     have Rf1 := Rf 1
     have Rf2 := Rf 2
     have Rf3 := Rf 3
     clear Rf
     have e : Hid (DecR xs none9 8) := .inr ⟨by decide, rfl, ndec_no hG.out⟩
     go_wp2
     refine retNT rfl rfl w.heap.size rfl _ _ (0, 0) (heap_set4 (u := wr) RES.out _ _ _ _) _ Tryz.underlying145 rfl info_ndR (.int .i64 8) rfl ?_
     exact ⟨none9, 8, nil9, nil9, nil9, rfl, e.out, OwnN.nil _ _ _, below_set4n BEL.out (Nat.le_refl _) _ _ _ _⟩
    ·have hq : ¬ (i : Int) < (left : Int) := by omega
     have RES := hide S0.out.res
     have BEL := hide S0.out.rdr.bel
     obtain ⟨⟨Q0, Q1, Q2, Q3⟩, Rf⟩ := cells4 RES.out
     have Rf0 := Rf 0
     have Rf1 := Rf 1
     have Rf2 := Rf 2
     have Rf3 := Rf 3
     clear Rf
     have e : Hid (DecR xs none9 8) := .inr ⟨by decide, rfl, ndec_no hG.out⟩
     go_wp2
     refine retNT rfl rfl w.heap.size rfl _ _ (0, 0) (heap_set4 (u := wr) RES.out _ _ _ _) _ Tryz.underlying145 rfl info_ndR (.int .i64 8) rfl ?_
     exact ⟨none9, 8, nil9, nil9, nil9, rfl, e.out, OwnN.nil _ _ _, below_set4n BEL.out (Nat.le_refl _) _ _ _ _⟩
   | false =>
    rw [hsh] at C2
    replace hsh := hide hsh
    by_cases hlt : i < left
    ·have hq : (i : Int) < (left : Int) := by omega
     have g1 : decide (i < left) = true := decide_eq_true hlt
     obtain ⟨j, hj⟩ : ∃ j, left - i = j + 1 := ⟨left - i - 1, by omega⟩
     rw [hj] at hg
     have HG := hide (GP.next hg hsh.out)
     clear hg hrd
     replace hj := hide hj
     go_wp2_with fail
     clear C2
     have KN1 := hide (rnum9_any w (w.heap.size + 1) wr xs r 1 S0.out.rdr (by decide))
     obtain ⟨m1, hm1⟩ : ∃ m, m = rnumS 1 r := ⟨_, rfl⟩
     have hz1 : m1 < 256 := by rw [hm1]; exact rnumS_lt 1 _
     obtain ⟨q1, hq1⟩ : ∃ q, q = rstS 1 r := ⟨_, rfl⟩
     rw [← hm1, ← hq1] at KN1
     replace hm1 := hide hm1
     replace hq1 := hide hq1
     refine KN1.out.mono ?_
     rintro e wn1 ⟨rfl, rn1, kn1⟩
     clear KN1
     have ST1 : Hid (RStP w xs nb wn1 (.slice ak n.keys.length ck) (.slice av n.vals.length cv) (.slice ad n.kids.length cd) (⟨n.leaf, n.keys, n.vals, n.kids⟩ : Nd) q1) := hide (S0.out.call kn1 rn1)
     clear rn1 kn1
     have KN2 := hide (rtake_any w (w.heap.size + 1) wn1 xs q1 m1 ST1.out.rdr (by omega))
     obtain ⟨x2, hx2⟩ : ∃ x, x = rtkS m1 q1 := ⟨_, rfl⟩
     obtain ⟨q2, hq2⟩ : ∃ q, q = rstS m1 q1 := ⟨_, rfl⟩
     rw [← hx2, ← hq2] at KN2
     replace hx2 := hide hx2
     replace hq2 := hide hq2
     go_wp2_with fail
     refine KN2.out.mono ?_
     rintro e wn2 ⟨ta2, tc2, rfl, td2, rn2, kn2⟩
     clear KN2
     have ST2 : Hid (RStP w xs nb wn2 (.slice ak n.keys.length ck) (.slice av n.vals.length cv) (.slice ad n.kids.length cd) (⟨n.leaf, n.keys, n.vals, n.kids⟩ : Nd) q2) := hide (ST1.out.call kn2 rn2)
     have cv2 := conv_any (td2.to rn2.bel)
     clear rn2 kn2 td2
     have sb3 := ST2.out.below ((Below.refl wn2.heap.size wn2).alloc (Nat.le_refl _) (.cells #[(st x2)] 9))
     have ca3 := (cells4 ST2.out.box).1.2.1
     have FI3 : Hid (∀ (g cp : Nat) (U : World), U.ownsRow (nb + 1) 9 1 (.slice (some ⟨g, 0, none⟩) (n.keys.length + 1) cp) (n.keys.length + 1) (n.keys.map st ++ [(st x2)]) → (wn2.alloc (.cells #[(st x2)] 9)).grownBy U (Value.ownBlock (.slice ak n.keys.length ck)) → (Value.ownBlock (.slice ak n.keys.length ck) = some g ∨ g = wn2.heap.size + 1) → U.cell? ⟨nb, 1, none⟩ = some (.slice ak n.keys.length ck) ∧ U.frozen? ⟨nb, 1, none⟩ = false ∧ Hid (RStP w xs nb (U.setCell ⟨nb, 1, none⟩ (.slice (some ⟨g, 0, none⟩) (n.keys.length + 1) cp)) (.slice (some ⟨g, 0, none⟩) (n.keys.length + 1) cp) (.slice av n.vals.length cv) (.slice ad n.kids.length cd) (⟨n.leaf, (n.keys ++ [x2]), n.vals, n.kids⟩ : Nd) q2)) := fun g cp U ob kb hb => by
      have sb := sb3
      have nbl := (kb.block nb (lt_of_block sb.box) (fun e => by have := (row_from sb.own.keys nb e.symm).1; omega)).trans sb.box
      have oo : OwnT (nb + 1) U (.slice (some ⟨g, 0, none⟩) (n.keys.length + 1) cp) (n.keys ++ [x2]) := by show World.ownsRow _ _ _ _ _ _ _; simpa using ob
      exact ⟨(cells4 nbl).1.2.1, frz9 nbl 1, hide (sb.keys rfl oo kb (by rcases hb with h | h; exact .inl h; exact .inr (by simpa using h)))⟩
     have own3 := sb3.own.keys
     dsimp only at own3
     have lt3 := lt_of_block ST2.out.box
     clear sb3
     go_wp2_with (at_builtin; refine wpList_append_lies _ rfl _ _ 96 rfl (nb + 1) 9 _ (.string ⟨#[]⟩) 1 16 Tryz.underlying96 ii iz0 iz1 iz2 rfl (by decide) (.slice ak n.keys.length ck) n.keys.length (n.keys.map st) rfl own3 ⟨wn2.heap.size, 0, none⟩ 1 1 [(st x2)] rfl rfl (World.news_of_block (heap_alloc_last wn2 _)) (by simp [Value.oneCell']) (by decide) (by rw [show maxLen = 9223372036854775807 from rfl]; first | omega | (simp; omega)) (by first | omega | (simp; omega)) (by first | omega | (simp; omega)) (wn2.heap.size + 1) (by simp) ?_; intro ga3 cb3 wb3 ob3 kb3 hb3 _; obtain ⟨cc3, fz3, ST3⟩ := FI3.out ga3 cb3 wb3 ob3 kb3 hb3; clear ob3 kb3 hb3 FI3 own3 lt3; have N9 : (wb3.setCell ⟨nb, 1, none⟩ (.slice (some ⟨ga3, 0, none⟩) (n.keys.length + 1) cb3)).cell? ⟨nb, 0, none⟩ = some (.bool true) := (by have q9 := (cells4 ST3.out.box).1.1; rw [hlf.out] at q9; exact q9))
     clear cc3 fz3 ca3
     clear cv2 N9
     obtain ⟨V4, hV4⟩ : ∃ U, U = (wb3.setCell ⟨nb, 1, none⟩ (.slice (some ⟨ga3, 0, none⟩) (n.keys.length + 1) cb3)) := ⟨_, rfl⟩
     rw [← hV4] at ST3
     rw [← hV4]
     replace hV4 := hide hV4
     have KN5 := hide (rnum9_any w (w.heap.size + 1) V4 xs q2 1 ST3.out.rdr (by decide))
     obtain ⟨m5, hm5⟩ : ∃ m, m = rnumS 1 q2 := ⟨_, rfl⟩
     have hz5 : m5 < 256 := by rw [hm5]; exact rnumS_lt 1 _
     obtain ⟨q5, hq5⟩ : ∃ q, q = rstS 1 q2 := ⟨_, rfl⟩
     rw [← hm5, ← hq5] at KN5
     replace hm5 := hide hm5
     replace hq5 := hide hq5
     refine KN5.out.mono ?_
     rintro e wn5 ⟨rfl, rn5, kn5⟩
     clear KN5
     have ST5 : Hid (RStP w xs nb wn5 (.slice (some ⟨ga3, 0, none⟩) (n.keys.length + 1) cb3) (.slice av n.vals.length cv) (.slice ad n.kids.length cd) (⟨n.leaf, (n.keys ++ [x2]), n.vals, n.kids⟩ : Nd) q5) := hide (ST3.out.call kn5 rn5)
     clear rn5 kn5
     have KN6 := hide (rtake_any w (w.heap.size + 1) wn5 xs q5 m5 ST5.out.rdr (by omega))
     obtain ⟨x6, hx6⟩ : ∃ x, x = rtkS m5 q5 := ⟨_, rfl⟩
     obtain ⟨q6, hq6⟩ : ∃ q, q = rstS m5 q5 := ⟨_, rfl⟩
     rw [← hx6, ← hq6] at KN6
     replace hx6 := hide hx6
     replace hq6 := hide hq6
     go_wp2_with fail
     refine KN6.out.mono ?_
     rintro e wn6 ⟨ta6, tc6, rfl, td6, rn6, kn6⟩
     clear KN6
     have ST6 : Hid (RStP w xs nb wn6 (.slice (some ⟨ga3, 0, none⟩) (n.keys.length + 1) cb3) (.slice av n.vals.length cv) (.slice ad n.kids.length cd) (⟨n.leaf, (n.keys ++ [x2]), n.vals, n.kids⟩ : Nd) q6) := hide (ST5.out.call kn6 rn6)
     have cv6 := conv_any (td6.to rn6.bel)
     clear rn6 kn6 td6
     have sb7 := ST6.out.below ((Below.refl wn6.heap.size wn6).alloc (Nat.le_refl _) (.cells #[(st x6)] 9))
     have ca7 := (cells4 ST6.out.box).1.2.2.1
     have FI7 : Hid (∀ (g cp : Nat) (U : World), U.ownsRow (nb + 1) 9 1 (.slice (some ⟨g, 0, none⟩) (n.vals.length + 1) cp) (n.vals.length + 1) (n.vals.map st ++ [(st x6)]) → (wn6.alloc (.cells #[(st x6)] 9)).grownBy U (Value.ownBlock (.slice av n.vals.length cv)) → (Value.ownBlock (.slice av n.vals.length cv) = some g ∨ g = wn6.heap.size + 1) → U.cell? ⟨nb, 2, none⟩ = some (.slice av n.vals.length cv) ∧ U.frozen? ⟨nb, 2, none⟩ = false ∧ Hid (RStP w xs nb (U.setCell ⟨nb, 2, none⟩ (.slice (some ⟨g, 0, none⟩) (n.vals.length + 1) cp)) (.slice (some ⟨ga3, 0, none⟩) (n.keys.length + 1) cb3) (.slice (some ⟨g, 0, none⟩) (n.vals.length + 1) cp) (.slice ad n.kids.length cd) (⟨n.leaf, (n.keys ++ [x2]), (n.vals ++ [x6]), n.kids⟩ : Nd) q6)) := fun g cp U ob kb hb => by
      have sb := sb7
      have nbl := (kb.block nb (lt_of_block sb.box) (fun e => by have := (row_from sb.own.vals nb e.symm).1; omega)).trans sb.box
      have oo : OwnT (nb + 1) U (.slice (some ⟨g, 0, none⟩) (n.vals.length + 1) cp) (n.vals ++ [x6]) := by show World.ownsRow _ _ _ _ _ _ _; simpa using ob
      exact ⟨(cells4 nbl).1.2.2.1, frz9 nbl 2, hide (sb.vals rfl oo kb (by rcases hb with h | h; exact .inl h; exact .inr (by simpa using h)))⟩
     have own7 := sb7.own.vals
     dsimp only at own7
     have lt7 := lt_of_block ST6.out.box
     clear sb7
     go_wp2_with (at_builtin; refine wpList_append_lies _ rfl _ _ 96 rfl (nb + 1) 9 _ (.string ⟨#[]⟩) 1 16 Tryz.underlying96 ii iz0 iz1 iz2 rfl (by decide) (.slice av n.vals.length cv) n.vals.length (n.vals.map st) rfl own7 ⟨wn6.heap.size, 0, none⟩ 1 1 [(st x6)] rfl rfl (World.news_of_block (heap_alloc_last wn6 _)) (by simp [Value.oneCell']) (by decide) (by rw [show maxLen = 9223372036854775807 from rfl]; first | omega | (simp; omega)) (by first | omega | (simp; omega)) (by first | omega | (simp; omega)) (wn6.heap.size + 1) (by simp) ?_; intro ga7 cb7 wb7 ob7 kb7 hb7 _; obtain ⟨cc7, fz7, ST7⟩ := FI7.out ga7 cb7 wb7 ob7 kb7 hb7; clear ob7 kb7 hb7 FI7 own7 lt7)
     clear cc7 fz7 ca7
     clear cv6
     have HG2 : Hid (GP xs (left - (i + 1)) q6 (⟨n.leaf, (n.keys ++ [x2]), (n.vals ++ [x6]), n.kids⟩ : Nd)) := by
      rw [show left - (i + 1) = j by have := hj.out; omega, hq6.out, hx6.out, hq5.out, hm5.out, hq2.out, hx2.out, hq1.out, hm1.out]
      exact HG.out
     go_roundw
     case rel => exact ⟨i + 1, by omega, by go_num, hide ⟨_, _, _, _, _, ST7.out, HG2.out, hlf.out, by have := hj.out; simp; omega, by have := hj.out; simp; omega, by have := hj.out; simp; omega⟩⟩
     case measure => simp [intOf]; omega
    ·have hq : ¬ (i : Int) < (left : Int) := by omega
     have hG : Hid (nread xs = rfin (n, r)) := by
      rw [show left - i = 0 by omega] at hg
      rcases hg with ⟨_, h⟩ | ⟨h, _⟩
      ·exact h
      ·rw [hsh.out] at h; cases h
     clear hg
     have RES := hide S0.out.res
     have BEL := hide S0.out.rdr.bel
     obtain ⟨⟨Q0, Q1, Q2, Q3⟩, Rf⟩ := cells4 RES.out
     have Rf0 := Rf 0
     have Rf1 := Rf 1
     have Rf2 := Rf 2
     have Rf3 := Rf 3
     clear Rf
     obtain ⟨⟨N0, N1, N2, N3⟩, _⟩ := cells4 S0.out.box
     have C1 := (cells3p hrd.box).1.2.1
     have hrl : r.rest.length = rL - rat := by rw [hrd.rest, List.length_drop, hrd.len]
     have hrle := hrd.le
     have hlen := hrd.len
     by_cases hl : rat < rL
     ·have hq : (rat : Int) < (xs.length : Int) := by omega
      have e : Hid (DecR xs none9 23) := .inr ⟨by decide, rfl, ndec_no (by rw [hG.out]; unfold rfin; dsimp only; rw [hsh.out, if_neg (by decide), if_pos (by omega)]; decide)⟩
      replace hrl := hide hrl
      clear hrle
      replace hlen := hide hlen
      go_wp2
      refine retNT rfl rfl w.heap.size rfl _ _ (0, 0) (heap_set4 (u := wr) RES.out _ _ _ _) _ Tryz.underlying145 rfl info_ndR (.int .i64 23) rfl ?_
      exact ⟨none9, 23, nil9, nil9, nil9, rfl, e.out, OwnN.nil _ _ _, below_set4n BEL.out (Nat.le_refl _) _ _ _ _⟩
     ·have hq : ¬ (rat : Int) < (xs.length : Int) := by omega
      have e := hide (DecR.fin hG.out hsh.out (by omega))
      have fit : nfit n := by unfold nfit; omega
      have KC := hide (rcheck9_any wr _ _ _ n S0.out.own.rd fit)
      dsimp only [nv] at KC
      obtain ⟨Z, hZ⟩ : ∃ Z, Z = ncheck n := ⟨_, rfl⟩
      rw [← hZ] at KC e
      replace hZ := hide hZ
      replace hrl := hide hrl
      clear hrle fit hrd
      replace hlen := hide hlen
      go_wp2_with fail
      clear N0 N1 N2 N3 Q0 Q1 Q2 Q3 Rf0 Rf1 Rf2 Rf3 C1
      refine KC.out.mono ?_
      rintro e' we ⟨rfl, be⟩
      clear KC
      have RE := hide ((be.block _ (lt_of_block RES.out)).trans RES.out)
      have BE := hide (BEL.out.trans (be.mono BEL.out.size))
      have OE := hide (S0.out.own.to be)
      have hnb9 := hide S0.out.hnb
      have Q0 := (cells4 RE.out).1.1
      have Q1 := (cells4 RE.out).1.2.1
      have Q2 := (cells4 RE.out).1.2.2.1
      have Q3 := (cells4 RE.out).1.2.2.2
      have Rf0 := (cells4 RE.out).2 0
      have Rf1 := (cells4 RE.out).2 1
      have Rf2 := (cells4 RE.out).2 2
      have Rf3 := (cells4 RE.out).2 3
      have BO := hide ((be.block _ (lt_of_block S0.out.box)).trans S0.out.box)
      have N0 := (cells4 BO.out).1.1
      have N1 := (cells4 BO.out).1.2.1
      have N2 := (cells4 BO.out).1.2.2.1
      have N3 := (cells4 BO.out).1.2.2.2
      clear be
      by_cases hz : Z = 0
      ·subst hz
       rw [if_pos rfl] at e
       go_wp2
       refine retNT rfl rfl w.heap.size rfl _ _ (0, 0) (heap_set4 (u := we) RE.out _ _ _ _) _ Tryz.underlying145 rfl info_ndR (.int .i64 0) rfl ?_
       have hlt' : w.heap.size < nb + 1 := by have := hnb9.out; omega
       exact ⟨n, 0, _, _, _, rfl, e.out, ((((OE.out.set hlt' 0 _).set hlt' 1 _).set hlt' 2 _).set hlt' 3 _).mono (by omega), below_set4n BE.out (Nat.le_refl _) _ _ _ _⟩
      ·rw [if_neg hz] at e
       go_wp2
       refine retNT rfl rfl w.heap.size rfl _ _ (0, 0) (heap_set4 (u := we) RE.out _ _ _ _) _ Tryz.underlying145 rfl info_ndR (.int .i64 Z) rfl ?_
       exact ⟨none9, Z, nil9, nil9, nil9, rfl, e.out, OwnN.nil _ _ _, below_set4n BE.out (Nat.le_refl _) _ _ _ _⟩
 ·subst m1
  have S0 : Hid (RStP w xs nb (w2.alloc (.cells #[.bool false, nil9, nil9, nil9] 145)) nil9 nil9 nil9 ⟨false, [], [], []⟩ r) := hide (ST.out false)
  clear ST
  obtain ⟨V, hV⟩ : ∃ V, V = w2.alloc (.cells #[.bool false, nil9, nil9, nil9] 145) := ⟨_, rfl⟩
  rw [← hV] at S0
  have N0 := (cells4 S0.out.box).1.1
  have G0 : Hid (GK xs left (rstS 4 r) ⟨false, [], [], [((rnumS 4 r : Nat) : Int)]⟩) := by
   rw [hleft.out, hr.out, HR.out]
   exact GK.start (by rw [← HR.out, ← hM.out])
  rw [hV, hnb] at N0
  go_wp2
  rw [← hV, ← hnb]
  replace hV := hide hV
  replace hnb := hide hnb
  clear N0
  obtain ⟨n, hn⟩ : ∃ n : Nd, n = ⟨false, [], [], []⟩ := ⟨_, rfl⟩
  rw [← hn] at S0
  have SD : Hid (RStP w xs nb V.drew nil9 nil9 nil9 n r) := hide (S0.out.below ((Below.refl V.heap.size V).drew))
  have KT := hide (rnum9_any w (w.heap.size + 1) V.drew xs r 4 SD.out.rdr (by decide))
  obtain ⟨m9, hm9⟩ : ∃ m, m = rnumS 4 r := ⟨_, rfl⟩
  obtain ⟨q9, hq9⟩ : ∃ q, q = rstS 4 r := ⟨_, rfl⟩
  rw [← hm9, ← hq9] at KT G0
  replace hm9 := hide hm9
  replace hq9 := hide hq9
  have CB : Hid (∀ (U : World) (q : Rr), RStP w xs nb U nil9 nil9 nil9 n q → U.cell? ⟨nb, 3, none⟩ = some nil9) := fun U q h => (cells4 h.box).1.2.2.2
  have HN := hide hn
  clear hn
  refine wp_region_sched (fun w9 => w9.cell? ⟨nb, 3, none⟩ = some nil9) [(0, true), (1, true), (2, true), (3, false), (4, false)] 5 mixed (by kernel_rfl) (fun _ _ _ _ h => h) ?_
  iterate 3
   refine sched_take (v := ?_) rfl (by kernel_rfl) (CB.out _ _ SD.out) ?_ ?_
   rotate_left
   ·intro w9 r1
    go_simp
    try with_reducible rfl
   try simp only [Act.put, List.setIfInBounds_toArray, List.set_cons_zero, List.set_cons_succ]
  refine sched_run rfl (by kernel_rfl) fun K hK => ?_
  refine wp_call_of 107 _ _ (by rfl) #[.pointer (some ⟨w.heap.size + 1, 0, none⟩), .int .i64 4] (by simp [Act.eval]) (Tryz.call107 _ _) KT.out ?_
  rintro e wa ⟨rfl, ra, ka⟩
  have SA : Hid (RStP w xs nb wa nil9 nil9 nil9 n q9) := hide (SD.out.call ka ra)
  refine ⟨_, rfl, hK _ _ (CB.out _ _ SA.out) ?_⟩
  clear hK K ra ka
  try simp only [Act.put, List.setIfInBounds_toArray, List.set_cons_zero, List.set_cons_succ]
  refine sched_run rfl (by kernel_rfl) fun K hK => ?_
  have sb := SA.out.below ((Below.refl wa.heap.size wa).alloc (Nat.le_refl _) (.cells #[.int .i64 (m9 : Int)] 3))
  go_simp
  refine hK _ _ (CB.out _ _ sb) ?_
  clear hK K
  try simp only [Act.put, List.setIfInBounds_toArray, List.set_cons_zero, List.set_cons_succ]
  show wpList _ _ _ _ _ _
  dsimp only [List.drop]
  have FI : Hid (∀ (g cp : Nat) (U : World), U.ownsRow (nb + 1) 3 1 (.slice (some ⟨g, 0, none⟩) 1 cp) 1 [.int .i64 (m9 : Int)] → (wa.alloc (.cells #[.int .i64 (m9 : Int)] 3)).grownBy U (Value.ownBlock nil9) → (Value.ownBlock nil9 = some g ∨ g = wa.heap.size + 1) → U.cell? ⟨nb, 3, none⟩ = some nil9 ∧ U.frozen? ⟨nb, 3, none⟩ = false ∧ Hid (RStP w xs nb (U.setCell ⟨nb, 3, none⟩ (.slice (some ⟨g, 0, none⟩) 1 cp)) nil9 nil9 (.slice (some ⟨g, 0, none⟩) 1 cp) ⟨false, [], [], [(m9 : Int)]⟩ q9)) := fun g cp U ob kb hb => by
   have sb := sb
   have nbl := (kb.block nb (lt_of_block sb.box) (fun e => by have := (row_from sb.own.kids nb e.symm).1; omega)).trans sb.box
   have oo : OwnJ (nb + 1) U (.slice (some ⟨g, 0, none⟩) 1 cp) (n.kids ++ [(m9 : Int)]) := by rw [HN.out]; exact ob
   have st := sb.kids rfl oo kb (by rcases hb with h | h; exact .inl h; exact .inr (by simpa using h))
   rw [HN.out] at st
   exact ⟨(cells4 nbl).1.2.2.2, frz9 nbl 3, hide st⟩
  have own0 : (wa.alloc (.cells #[.int .i64 (m9 : Int)] 3)).ownsRow (nb + 1) 3 1 nil9 0 [] := World.ownsRow_nil _ _ _ _
  have lt0 := lt_of_block SA.out.box
  clear sb KT CB SD SA
  go_wp2_with (at_builtin; refine wpList_append_lies _ rfl _ _ 25 rfl (nb + 1) 3 _ (.int .i64 0) 1 8 Tryz.underlying25 ji jz0 jz1 jz2 rfl (by decide) nil9 0 [] rfl own0 ⟨wa.heap.size, 0, none⟩ 1 1 [.int .i64 (m9 : Int)] rfl rfl (World.news_of_block (heap_alloc_last wa _)) (by simp [Value.oneCell']) (by decide) (by rw [show maxLen = 9223372036854775807 from rfl]; omega) (by omega) (by first | omega | (simp; omega)) (wa.heap.size + 1) (by simp) ?_; intro ga cb wb ob kb hb _; obtain ⟨cc, fz, STK⟩ := FI.out ga cb wb ob kb hb; clear ob kb hb FI own0 lt0)
  clear cc fz
  go_loopw [8] (fun p wr => ∃ i : Nat, i ≤ left ∧ p = .int .i64 i ∧ Hid (∃ (kv vv dv : Value) (n : Nd) (r : Rr), RStP w xs nb wr kv vv dv n r ∧ GK xs (left - i) r n ∧ n.leaf = false ∧ n.keys.length + (left - i) ≤ 256 ∧ n.vals.length + (left - i) ≤ 256 ∧ n.kids.length + (left - i) ≤ 257)) (fun p _ => left - (intOf p).toNat)
  case atStart => exact ⟨0, Nat.zero_le _, rfl, ⟨_, _, _, _, _, STK.out, G0.out, rfl, by simp; omega, by simp; omega, by simp; omega⟩⟩
  case round =>
   obtain ⟨i, hi, rfl, hI⟩ := hrel
   obtain ⟨kv, vv, dv, n, r, hs, hg, hlf, hb1, hb2, hb3⟩ := hI.out
   obtain ⟨ak, ck, av, cv, ad, cd, rfl, rfl, rfl⟩ := hs.own.rd.slices
   have S0 := hide hs
   replace hlf := hide hlf
   obtain ⟨ra, rc, rL, rat, hrd⟩ := hs.rdr
   have C2 := (cells3p hrd.box).1.2.2
   clear hs hI
   cases hsh : r.short with
   | true =>
    rw [hsh] at C2
    have hG : Hid ((nread xs).2 ≠ 0) := by
     rcases hg with ⟨h, _⟩ | ⟨_, h⟩
     ·rw [hsh] at h; cases h
     ·exact h
    clear hg hrd
    replace hsh := hide hsh
    by_cases hlt : i < left
    ·have hq : (i : Int) < (left : Int) := by omega
     have RES := hide S0.out.res
     have BEL := hide S0.out.rdr.bel
     obtain ⟨⟨Q0, Q1, Q2, Q3⟩, Rf⟩ := cells4 RES.out
     have Rf0 := Rf 0
     have Rf1 := Rf 1
     have Rf2 := Rf 2
     have Rf3 := Rf 3
     clear Rf
     have e : Hid (DecR xs none9 8) := .inr ⟨by decide, rfl, ndec_no hG.out⟩
     go_wp2
     refine retNT rfl rfl w.heap.size rfl _ _ (0, 0) (heap_set4 (u := wr) RES.out _ _ _ _) _ Tryz.underlying145 rfl info_ndR (.int .i64 8) rfl ?_
     exact ⟨none9, 8, nil9, nil9, nil9, rfl, e.out, OwnN.nil _ _ _, below_set4n BEL.out (Nat.le_refl _) _ _ _ _⟩
    ·have hq : ¬ (i : Int) < (left : Int) := by omega
     have RES := hide S0.out.res
     have BEL := hide S0.out.rdr.bel
     obtain ⟨⟨Q0, Q1, Q2, Q3⟩, Rf⟩ := cells4 RES.out
     have Rf0 := Rf 0
     have Rf1 := Rf 1
     have Rf2 := Rf 2
     have Rf3 := Rf 3
     clear Rf
     have e : Hid (DecR xs none9 8) := .inr ⟨by decide, rfl, ndec_no hG.out⟩
     go_wp2
     refine retNT rfl rfl w.heap.size rfl _ _ (0, 0) (heap_set4 (u := wr) RES.out _ _ _ _) _ Tryz.underlying145 rfl info_ndR (.int .i64 8) rfl ?_
     exact ⟨none9, 8, nil9, nil9, nil9, rfl, e.out, OwnN.nil _ _ _, below_set4n BEL.out (Nat.le_refl _) _ _ _ _⟩
   | false =>
    rw [hsh] at C2
    replace hsh := hide hsh
    by_cases hlt : i < left
    ·have hq : (i : Int) < (left : Int) := by omega
     have g1 : decide (i < left) = true := decide_eq_true hlt
     obtain ⟨j, hj⟩ : ∃ j, left - i = j + 1 := ⟨left - i - 1, by omega⟩
     rw [hj] at hg
     have HG := hide (GK.next hg hsh.out)
     clear hg hrd
     replace hj := hide hj
     go_wp2_with fail
     clear C2
     have KN8 := hide (rnum9_any w (w.heap.size + 1) wr xs r 1 S0.out.rdr (by decide))
     obtain ⟨m8, hm8⟩ : ∃ m, m = rnumS 1 r := ⟨_, rfl⟩
     have hz8 : m8 < 256 := by rw [hm8]; exact rnumS_lt 1 _
     obtain ⟨q8, hq8⟩ : ∃ q, q = rstS 1 r := ⟨_, rfl⟩
     rw [← hm8, ← hq8] at KN8
     replace hm8 := hide hm8
     replace hq8 := hide hq8
     refine KN8.out.mono ?_
     rintro e wn8 ⟨rfl, rn8, kn8⟩
     clear KN8
     have ST8 : Hid (RStP w xs nb wn8 (.slice ak n.keys.length ck) (.slice av n.vals.length cv) (.slice ad n.kids.length cd) (⟨n.leaf, n.keys, n.vals, n.kids⟩ : Nd) q8) := hide (S0.out.call kn8 rn8)
     clear rn8 kn8
     have KN9 := hide (rtake_any w (w.heap.size + 1) wn8 xs q8 m8 ST8.out.rdr (by omega))
     obtain ⟨x9, hx9⟩ : ∃ x, x = rtkS m8 q8 := ⟨_, rfl⟩
     obtain ⟨q9, hq9⟩ : ∃ q, q = rstS m8 q8 := ⟨_, rfl⟩
     rw [← hx9, ← hq9] at KN9
     replace hx9 := hide hx9
     replace hq9 := hide hq9
     go_wp2_with fail
     refine KN9.out.mono ?_
     rintro e wn9 ⟨ta9, tc9, rfl, td9, rn9, kn9⟩
     clear KN9
     have ST9 : Hid (RStP w xs nb wn9 (.slice ak n.keys.length ck) (.slice av n.vals.length cv) (.slice ad n.kids.length cd) (⟨n.leaf, n.keys, n.vals, n.kids⟩ : Nd) q9) := hide (ST8.out.call kn9 rn9)
     have cv9 := conv_any (td9.to rn9.bel)
     clear rn9 kn9 td9
     have sb10 := ST9.out.below ((Below.refl wn9.heap.size wn9).alloc (Nat.le_refl _) (.cells #[(st x9)] 9))
     have ca10 := (cells4 ST9.out.box).1.2.1
     have FI10 : Hid (∀ (g cp : Nat) (U : World), U.ownsRow (nb + 1) 9 1 (.slice (some ⟨g, 0, none⟩) (n.keys.length + 1) cp) (n.keys.length + 1) (n.keys.map st ++ [(st x9)]) → (wn9.alloc (.cells #[(st x9)] 9)).grownBy U (Value.ownBlock (.slice ak n.keys.length ck)) → (Value.ownBlock (.slice ak n.keys.length ck) = some g ∨ g = wn9.heap.size + 1) → U.cell? ⟨nb, 1, none⟩ = some (.slice ak n.keys.length ck) ∧ U.frozen? ⟨nb, 1, none⟩ = false ∧ Hid (RStP w xs nb (U.setCell ⟨nb, 1, none⟩ (.slice (some ⟨g, 0, none⟩) (n.keys.length + 1) cp)) (.slice (some ⟨g, 0, none⟩) (n.keys.length + 1) cp) (.slice av n.vals.length cv) (.slice ad n.kids.length cd) (⟨n.leaf, (n.keys ++ [x9]), n.vals, n.kids⟩ : Nd) q9)) := fun g cp U ob kb hb => by
      have sb := sb10
      have nbl := (kb.block nb (lt_of_block sb.box) (fun e => by have := (row_from sb.own.keys nb e.symm).1; omega)).trans sb.box
      have oo : OwnT (nb + 1) U (.slice (some ⟨g, 0, none⟩) (n.keys.length + 1) cp) (n.keys ++ [x9]) := by show World.ownsRow _ _ _ _ _ _ _; simpa using ob
      exact ⟨(cells4 nbl).1.2.1, frz9 nbl 1, hide (sb.keys rfl oo kb (by rcases hb with h | h; exact .inl h; exact .inr (by simpa using h)))⟩
     have own10 := sb10.own.keys
     dsimp only at own10
     have lt10 := lt_of_block ST9.out.box
     clear sb10
     go_wp2_with (at_builtin; refine wpList_append_lies _ rfl _ _ 96 rfl (nb + 1) 9 _ (.string ⟨#[]⟩) 1 16 Tryz.underlying96 ii iz0 iz1 iz2 rfl (by decide) (.slice ak n.keys.length ck) n.keys.length (n.keys.map st) rfl own10 ⟨wn9.heap.size, 0, none⟩ 1 1 [(st x9)] rfl rfl (World.news_of_block (heap_alloc_last wn9 _)) (by simp [Value.oneCell']) (by decide) (by rw [show maxLen = 9223372036854775807 from rfl]; first | omega | (simp; omega)) (by first | omega | (simp; omega)) (by first | omega | (simp; omega)) (wn9.heap.size + 1) (by simp) ?_; intro ga10 cb10 wb10 ob10 kb10 hb10 _; obtain ⟨cc10, fz10, ST10⟩ := FI10.out ga10 cb10 wb10 ob10 kb10 hb10; clear ob10 kb10 hb10 FI10 own10 lt10; have N9 : (wb10.setCell ⟨nb, 1, none⟩ (.slice (some ⟨ga10, 0, none⟩) (n.keys.length + 1) cb10)).cell? ⟨nb, 0, none⟩ = some (.bool false) := (by have q9 := (cells4 ST10.out.box).1.1; rw [hlf.out] at q9; exact q9))
     clear cc10 fz10 ca10
     clear cv9 N9
     obtain ⟨V11, hV11⟩ : ∃ U, U = (wb10.setCell ⟨nb, 1, none⟩ (.slice (some ⟨ga10, 0, none⟩) (n.keys.length + 1) cb10)) := ⟨_, rfl⟩
     rw [← hV11] at ST10
     rw [← hV11]
     replace hV11 := hide hV11
     have KN12 := hide (rnum9_any w (w.heap.size + 1) V11 xs q9 4 ST10.out.rdr (by decide))
     obtain ⟨m12, hm12⟩ : ∃ m, m = rnumS 4 q9 := ⟨_, rfl⟩
     have hz12 : m12 < 4294967296 := by rw [hm12]; exact rnumS_lt 4 _
     obtain ⟨q12, hq12⟩ : ∃ q, q = rstS 4 q9 := ⟨_, rfl⟩
     rw [← hm12, ← hq12] at KN12
     replace hm12 := hide hm12
     replace hq12 := hide hq12
     refine KN12.out.mono ?_
     rintro e wn12 ⟨rfl, rn12, kn12⟩
     clear KN12
     have ST12 : Hid (RStP w xs nb wn12 (.slice (some ⟨ga10, 0, none⟩) (n.keys.length + 1) cb10) (.slice av n.vals.length cv) (.slice ad n.kids.length cd) (⟨n.leaf, (n.keys ++ [x9]), n.vals, n.kids⟩ : Nd) q12) := hide (ST10.out.call kn12 rn12)
     clear rn12 kn12
     have sb13 := ST12.out.below ((Below.refl wn12.heap.size wn12).alloc (Nat.le_refl _) (.cells #[(.int .i64 (m12 : Int))] 3))
     have ca13 := (cells4 ST12.out.box).1.2.2.2
     have FI13 : Hid (∀ (g cp : Nat) (U : World), U.ownsRow (nb + 1) 3 1 (.slice (some ⟨g, 0, none⟩) (n.kids.length + 1) cp) (n.kids.length + 1) (n.kids.map (Value.int .i64) ++ [(.int .i64 (m12 : Int))]) → (wn12.alloc (.cells #[(.int .i64 (m12 : Int))] 3)).grownBy U (Value.ownBlock (.slice ad n.kids.length cd)) → (Value.ownBlock (.slice ad n.kids.length cd) = some g ∨ g = wn12.heap.size + 1) → U.cell? ⟨nb, 3, none⟩ = some (.slice ad n.kids.length cd) ∧ U.frozen? ⟨nb, 3, none⟩ = false ∧ Hid (RStP w xs nb (U.setCell ⟨nb, 3, none⟩ (.slice (some ⟨g, 0, none⟩) (n.kids.length + 1) cp)) (.slice (some ⟨ga10, 0, none⟩) (n.keys.length + 1) cb10) (.slice av n.vals.length cv) (.slice (some ⟨g, 0, none⟩) (n.kids.length + 1) cp) (⟨n.leaf, (n.keys ++ [x9]), n.vals, (n.kids ++ [(m12 : Int)])⟩ : Nd) q12)) := fun g cp U ob kb hb => by
      have sb := sb13
      have nbl := (kb.block nb (lt_of_block sb.box) (fun e => by have := (row_from sb.own.kids nb e.symm).1; omega)).trans sb.box
      have oo : OwnJ (nb + 1) U (.slice (some ⟨g, 0, none⟩) (n.kids.length + 1) cp) (n.kids ++ [(m12 : Int)]) := by show World.ownsRow _ _ _ _ _ _ _; simpa using ob
      exact ⟨(cells4 nbl).1.2.2.2, frz9 nbl 3, hide (sb.kids rfl oo kb (by rcases hb with h | h; exact .inl h; exact .inr (by simpa using h)))⟩
     have own13 := sb13.own.kids
     dsimp only at own13
     have lt13 := lt_of_block ST12.out.box
     clear sb13
     go_wp2_with (at_builtin; refine wpList_append_lies _ rfl _ _ 25 rfl (nb + 1) 3 _ (.int .i64 0) 1 8 Tryz.underlying25 ji jz0 jz1 jz2 rfl (by decide) (.slice ad n.kids.length cd) n.kids.length (n.kids.map (Value.int .i64)) rfl own13 ⟨wn12.heap.size, 0, none⟩ 1 1 [(.int .i64 (m12 : Int))] rfl rfl (World.news_of_block (heap_alloc_last wn12 _)) (by simp [Value.oneCell']) (by decide) (by rw [show maxLen = 9223372036854775807 from rfl]; first | omega | (simp; omega)) (by first | omega | (simp; omega)) (by first | omega | (simp; omega)) (wn12.heap.size + 1) (by simp) ?_; intro ga13 cb13 wb13 ob13 kb13 hb13 _; obtain ⟨cc13, fz13, ST13⟩ := FI13.out ga13 cb13 wb13 ob13 kb13 hb13; clear ob13 kb13 hb13 FI13 own13 lt13)
     clear cc13 fz13 ca13
     have HG2 : Hid (GK xs (left - (i + 1)) q12 (⟨n.leaf, (n.keys ++ [x9]), n.vals, (n.kids ++ [(m12 : Int)])⟩ : Nd)) := by
      rw [show left - (i + 1) = j by have := hj.out; omega, hq12.out, hm12.out, hq9.out, hx9.out, hq8.out, hm8.out]
      exact HG.out
     go_roundw
     case rel => exact ⟨i + 1, by omega, by go_num, hide ⟨_, _, _, _, _, ST13.out, HG2.out, hlf.out, by have := hj.out; simp; omega, by have := hj.out; simp; omega, by have := hj.out; simp; omega⟩⟩
     case measure => simp [intOf]; omega
    ·have hq : ¬ (i : Int) < (left : Int) := by omega
     have hG : Hid (nread xs = rfin (n, r)) := by
      rw [show left - i = 0 by omega] at hg
      rcases hg with ⟨_, h⟩ | ⟨h, _⟩
      ·exact h
      ·rw [hsh.out] at h; cases h
     clear hg
     have RES := hide S0.out.res
     have BEL := hide S0.out.rdr.bel
     obtain ⟨⟨Q0, Q1, Q2, Q3⟩, Rf⟩ := cells4 RES.out
     have Rf0 := Rf 0
     have Rf1 := Rf 1
     have Rf2 := Rf 2
     have Rf3 := Rf 3
     clear Rf
     obtain ⟨⟨N0, N1, N2, N3⟩, _⟩ := cells4 S0.out.box
     have C1 := (cells3p hrd.box).1.2.1
     have hrl : r.rest.length = rL - rat := by rw [hrd.rest, List.length_drop, hrd.len]
     have hrle := hrd.le
     have hlen := hrd.len
     by_cases hl : rat < rL
     ·have hq : (rat : Int) < (xs.length : Int) := by omega
      have e : Hid (DecR xs none9 23) := .inr ⟨by decide, rfl, ndec_no (by rw [hG.out]; unfold rfin; dsimp only; rw [hsh.out, if_neg (by decide), if_pos (by omega)]; decide)⟩
      replace hrl := hide hrl
      clear hrle
      replace hlen := hide hlen
      go_wp2
      refine retNT rfl rfl w.heap.size rfl _ _ (0, 0) (heap_set4 (u := wr) RES.out _ _ _ _) _ Tryz.underlying145 rfl info_ndR (.int .i64 23) rfl ?_
      exact ⟨none9, 23, nil9, nil9, nil9, rfl, e.out, OwnN.nil _ _ _, below_set4n BEL.out (Nat.le_refl _) _ _ _ _⟩
     ·have hq : ¬ (rat : Int) < (xs.length : Int) := by omega
      have e := hide (DecR.fin hG.out hsh.out (by omega))
      have fit : nfit n := by unfold nfit; omega
      have KC := hide (rcheck9_any wr _ _ _ n S0.out.own.rd fit)
      dsimp only [nv] at KC
      obtain ⟨Z, hZ⟩ : ∃ Z, Z = ncheck n := ⟨_, rfl⟩
      rw [← hZ] at KC e
      replace hZ := hide hZ
      replace hrl := hide hrl
      clear hrle fit hrd
      replace hlen := hide hlen
      go_wp2_with fail
      clear N0 N1 N2 N3 Q0 Q1 Q2 Q3 Rf0 Rf1 Rf2 Rf3 C1
      refine KC.out.mono ?_
      rintro e' we ⟨rfl, be⟩
      clear KC
      have RE := hide ((be.block _ (lt_of_block RES.out)).trans RES.out)
      have BE := hide (BEL.out.trans (be.mono BEL.out.size))
      have OE := hide (S0.out.own.to be)
      have hnb9 := hide S0.out.hnb
      have Q0 := (cells4 RE.out).1.1
      have Q1 := (cells4 RE.out).1.2.1
      have Q2 := (cells4 RE.out).1.2.2.1
      have Q3 := (cells4 RE.out).1.2.2.2
      have Rf0 := (cells4 RE.out).2 0
      have Rf1 := (cells4 RE.out).2 1
      have Rf2 := (cells4 RE.out).2 2
      have Rf3 := (cells4 RE.out).2 3
      have BO := hide ((be.block _ (lt_of_block S0.out.box)).trans S0.out.box)
      have N0 := (cells4 BO.out).1.1
      have N1 := (cells4 BO.out).1.2.1
      have N2 := (cells4 BO.out).1.2.2.1
      have N3 := (cells4 BO.out).1.2.2.2
      clear be
      by_cases hz : Z = 0
      ·subst hz
       rw [if_pos rfl] at e
       go_wp2
       refine retNT rfl rfl w.heap.size rfl _ _ (0, 0) (heap_set4 (u := we) RE.out _ _ _ _) _ Tryz.underlying145 rfl info_ndR (.int .i64 0) rfl ?_
       have hlt' : w.heap.size < nb + 1 := by have := hnb9.out; omega
       exact ⟨n, 0, _, _, _, rfl, e.out, ((((OE.out.set hlt' 0 _).set hlt' 1 _).set hlt' 2 _).set hlt' 3 _).mono (by omega), below_set4n BE.out (Nat.le_refl _) _ _ _ _⟩
      ·rw [if_neg hz] at e
       go_wp2
       refine retNT rfl rfl w.heap.size rfl _ _ (0, 0) (heap_set4 (u := we) RE.out _ _ _ _) _ Tryz.underlying145 rfl info_ndR (.int .i64 Z) rfl ?_
       exact ⟨none9, Z, nil9, nil9, nil9, rfl, e.out, OwnN.nil _ _ _, below_set4n BE.out (Nat.le_refl _) _ _ _ _⟩
end Go.Proofs.YtpiikmkajckccaaGreat

namespace Go.Proofs.YtpiikmkajckccaaGreat
open Go.RowKit
abbrev sv (lo : Str) (hi : Option Str) : Value := .agg #[st lo, st (hi.getD [])]
def HiOk (hi : Option Str) : Prop := hi ≠ some []
theorem kin_ok {hi : Option Str} (h : HiOk hi) (lo x : Str) : kin lo hi x = (!slt x lo && (hi.getD [] == [] || slt x (hi.getD []))) := by
 cases hi with
 | none => simp [kin]
 | some y =>
  have : y ≠ [] := fun e => h (by rw [e])
  cases y with
  | nil => exact absurd rfl this
  | cons a r => simp [kin]
set_option maxRecDepth 100000 in
set_option maxHeartbeats 2000000 in
theorem placks_any (w : World) (lo : Str) (hi : Option Str) (k : Str) (hh : HiOk hi) : Calls Tryz.prog 40 #[sv lo hi, st k] w fun e w' => e = .returned (.bool (!kin lo hi k)) ∧ Below w.heap.size w w' := by
 have hk := hide (kin_ok hh lo k)
 dsimp only [sv]
 obtain ⟨h, hhi⟩ : ∃ h, h = hi.getD [] := ⟨_, rfl⟩
 rw [← hhi] at hk ⊢
 clear hhi hh
 obtain ⟨R, hR⟩ : ∃ R, R = kin lo hi k := ⟨_, rfl⟩
 rw [← hR] at hk ⊢
 clear hR hi
 obtain ⟨W, hW, D, bW, sW⟩ := boxedN w #[st lo, st h] 94
 obtain ⟨⟨D0, D1⟩, _⟩ := cells2r D
 have HB := hide bW
 rw [hW] at D0 D1 HB
 clear D bW hW sW
 go_enter Tryz.func40, Tryz.ntmps40
 cases h1 : Op.bytesLess k lo with
 | true =>
  have hr : Hid (R = false) := by show _ = _; rw [hk.out, show slt k lo = true from h1]; rfl
  go_wp2
  go_ret
  rw [hr.out]
  exact ⟨rfl, HB.out⟩
 | false =>
  cases h with
  | nil =>
   have hr : Hid (R = true) := by show _ = _; rw [hk.out, show slt k lo = false from h1]; rfl
   go_wp2
   go_ret
   rw [hr.out]
   exact ⟨rfl, HB.out⟩
  | cons a r =>
   have hr : Hid (R = Op.bytesLess k (a :: r)) := by show _ = _; rw [hk.out, show slt k lo = false from h1]; rfl
   obtain ⟨h, hh⟩ : ∃ h, h = a :: r := ⟨_, rfl⟩
   rw [← hh] at hr D1 HB ⊢
   have hem : h.isEmpty = false := by rw [hh]; rfl
   have hem2 : (h == []) = false := by rw [hh]; rfl
   have hem3 : ¬ h = [] := by rw [hh]; simp
   replace hh := hide hh
   go_wp2
   go_ret
   rw [hr.out]
   exact ⟨rfl, HB.out⟩
def SpI (w wx : World) (x y : Value) : Prop := wx.heap[w.heap.size]? = some (.cells #[x, y] 94 (0, 0)) ∧ wx.heap[w.heap.size + 1]? = some (.cells #[st [], st []] 94 (0, 0)) ∧ Below w.heap.size w wx
theorem SpI.put0 {w wx : World} {x y : Value} (h : SpI w wx x y) (z : Value) : SpI w (wx.setCell ⟨w.heap.size, 0, none⟩ z) z y :=
 ⟨(heap_set2r h.1 z).1, (Below.heap_setCell _ _ _ _ (show w.heap.size + 1 ≠ w.heap.size by omega)).trans h.2.1, h.2.2.setCell (Nat.le_refl _) _⟩
theorem SpI.put1 {w wx : World} {x y : Value} (h : SpI w wx x y) (z : Value) : SpI w (wx.setCell ⟨w.heap.size, 1, none⟩ z) x z :=
 ⟨(heap_set2r h.1 z).2, (Below.heap_setCell _ _ _ _ (show w.heap.size + 1 ≠ w.heap.size by omega)).trans h.2.1, h.2.2.setCell (Nat.le_refl _) _⟩
theorem info_sp : (Tryz.prog.info? 94).map (·.size) = some 2 := by kernel_rfl
set_option maxRecDepth 100000 in
set_option maxHeartbeats 2000000 in
theorem pofkid_any (w : World) (lo : Str) (hi : Option Str) (kv : Value) (nd : Nd) (i : Nat) (h : RdT w kv nd.keys) (hi9 : i ≤ nd.keys.length) : Calls Tryz.prog 79 #[sv lo hi, kv, .int .i64 i] w fun e w' =>
  e = .returned (sv (kidLo nd lo i) (kidHi nd hi i)) ∧ Below w.heap.size w w' := by
 obtain ⟨a, c, rfl⟩ := h.slice
 have lb := h.bd
 obtain ⟨K, hK⟩ : ∃ K, K = nd.keys.length := ⟨_, rfl⟩
 dsimp only [sv]
 obtain ⟨hs, hhs⟩ : ∃ x, x = hi.getD [] := ⟨_, rfl⟩
 rw [← hhs]
 rw [← hK] at h lb hi9 ⊢
 replace hK := hide hK
 replace hhs := hide hhs
 obtain ⟨W, hW, D, bW, sW⟩ := boxedN w #[st lo, st hs] 94
 obtain ⟨X, hX, DX, bX, sX⟩ := boxedN W #[st [], st []] 94
 have HH := hide (h.to0 (bW.trans (bX.mono bW.size)))
 have HB := hide (bW.trans (bX.mono bW.size))
 have D' := (bX.block _ (lt_of_block D)).trans D
 obtain ⟨⟨D0, D1⟩, DF⟩ := cells2r D'
 obtain ⟨⟨X0, X1⟩, XF⟩ := cells2r DX
 rw [sW] at DX X0 X1 XF
 have BX := hide (And.intro D' DX)
 have H9 : Hid (∀ w9, Below w.heap.size w w9 → RdT w9 (.slice a K c) nd.keys) := fun w9 b => h.to0 b
 have HHb : Hid (∀ {y : Str} {j b4 off4 : Nat}, nd.keys[j]? = some y → a = some ⟨b4, off4, none⟩ → b4 < w.heap.size) := fun {y j b4 off4} hy e => by
  obtain ⟨b', off', e', hc⟩ := h.strAt hy
  rw [e] at e'
  simp only [Option.some.injEq, Addr.mk.injEq, and_true] at e'
  obtain ⟨rfl, rfl⟩ := e'
  exact cell_lt hc
 clear h D bW bX D' DX
 go_enter Tryz.func79, Tryz.ntmps79
 go_upto_if 8 with fail
 rw [← hW, ← hX]
 replace hW := hide hW
 replace hX := hide hX
 replace sW := hide sW
 replace sX := hide sX
 go_cut [] from 8 to 14 (fun wx => Hid (SpI w wx (st (kidLo nd lo i)) (st hs) ∧ RdT wx (.slice a K c) nd.keys))
 case first =>
  by_cases h0 : i = 0
  ·have hq2 : ¬ (0 : Int) < (i : Int) := by omega
   have hl : Hid (kidLo nd lo i = lo) := by show _ = _; rw [kidLo, if_pos h0]
   replace h0 := hide h0
   go_wp2_with fail
   go_meet
   case rel => exact ⟨⟨by rw [hl.out]; exact BX.out.1, BX.out.2, HB.out⟩, HH.out⟩
  ·have hq2 : (0 : Int) < (i : Int) := by omega
   obtain ⟨j, hj⟩ : ∃ j, i = j + 1 := ⟨i - 1, by omega⟩
   obtain ⟨y, hy⟩ := some_el nd.keys (k := j) (by rw [← hK.out]; omega)
   have hl : Hid (kidLo nd lo i = y) := by show _ = _; rw [kidLo, if_neg h0, hj, Nat.add_sub_cancel, List.getD_eq_getElem?_getD, hy]; rfl
   obtain ⟨b4, off4, rfl, hc4⟩ := HH.out.strAt hy
   have hj1 : (i : Int) - 1 = (j : Int) := by omega
   have hj2 : IntKind.i64.wrap (j : Int) = (j : Int) := IntWalk.i64_in _ (by omega)
   have hj3 : (j : Int) < (K : Int) := by omega
   have hb4 : b4 < w.heap.size := HHb.out hy rfl
   have FF : Hid (SpI w (X.setCell ⟨w.heap.size, 0, none⟩ (st y)) (st y) (st hs) ∧ RdT (X.setCell ⟨w.heap.size, 0, none⟩ (st y)) (.slice (some ⟨b4, off4, none⟩) K c) nd.keys) := ⟨SpI.put0 ⟨BX.out.1, BX.out.2, HB.out⟩ _, H9.out _ (HB.out.setCell (Nat.le_refl _) _)⟩
   replace h0 := hide h0
   replace hj := hide hj
   replace hy := hide hy
   go_wp2_with fail
   go_meet
   case rel => rw [hl.out]; exact FF
 case rest =>
  clear HB HH BX D0 D1 DF X0 X1 XF
  obtain ⟨⟨D0, D1⟩, DF⟩ := cells2r hcut.out.1.1
  obtain ⟨⟨X0, X1⟩, XF⟩ := cells2r hcut.out.1.2.1
  go_upto_if 18 with fail
  go_cut [] from 18 to 23 (fun wx => Hid (SpI w wx (st (kidLo nd lo i)) (st ((kidHi nd hi i).getD []))))
  case first =>
   by_cases h0 : i < K
   ·have hq2 : (i : Int) < (K : Int) := by omega
    obtain ⟨y, hy⟩ := some_el nd.keys (k := i) (by rw [← hK.out]; omega)
    have hl : Hid (kidHi nd hi i = some y) := by show _ = _; rw [kidHi, if_pos (by rw [← hK.out]; exact h0), List.getD_eq_getElem?_getD, hy]; rfl
    obtain ⟨b4, off4, rfl, hc4⟩ := hcut.out.2.strAt hy
    have FF : Hid (SpI w (wc.setCell ⟨w.heap.size, 1, none⟩ (st y)) (st (kidLo nd lo i)) (st y)) := SpI.put1 hcut.out.1 _
    replace hy := hide hy
    go_wp2_with fail
    go_meet
    case rel => rw [hl.out]; exact FF
   ·have hq2 : ¬ (i : Int) < (K : Int) := by omega
    have hl : Hid (kidHi nd hi i = hi) := by show _ = _; rw [kidHi, if_neg (by rw [← hK.out]; exact h0)]
    go_wp2_with fail
    go_meet
    case rel => rw [hl.out, ← hhs.out]; exact hcut.out.1
  case rest =>
   clear D0 D1 DF X0 X1 XF
   obtain ⟨⟨D0, D1⟩, DF⟩ := cells2r hcut.out.1
   obtain ⟨⟨X0, X1⟩, XF⟩ := cells2r hcut.out.2.1
   go_wp2
   refine retN rfl rfl (w.heap.size + 1) rfl _ _ _ (heap_set2 hcut.out.2.1 _ _) _ Tryz.underlying94 rfl info_sp ?_
   exact ⟨rfl, below_set2 hcut.out.2.2 (show w.heap.size ≤ w.heap.size + 1 by omega) _ _⟩
theorem BoolR.no' {p : Prop} {w w' : World} {b : Bool} (hb : b = false) (h : ¬ p) (k : Below w.heap.size w w') : BoolR p w w' (.returned (.bool b)) := by subst hb; exact BoolR.no h k
theorem BoolR.yes' {p : Prop} {w w' : World} {b : Bool} (hb : b = true) (h : p) (k : Below w.heap.size w w') : BoolR p w w' (.returned (.bool b)) := by subst hb; exact BoolR.yes h k
def Outs (lo : Str) (hi : Option Str) (l : List Str) : Prop := l.all (kin lo hi) = false
def IdxR (p : Prop) (w w' : World) (e : Ending) : Prop := ∃ k : Int, e = .returned (.int .i64 k) ∧ ((0 ≤ k ∧ p) ∨ (k < 0 ∧ ¬ p)) ∧ Below w.heap.size w w'
set_option maxRecDepth 100000 in
set_option maxHeartbeats 2000000 in
theorem pidx_any (w : World) (lo : Str) (hi : Option Str) (hh : HiOk hi) (kv : Value) (l : List Str) (h : RdT w kv l) : Calls Tryz.prog 112 #[kv, .func (.func 40) #[sv lo hi] #[]] w fun e w' =>
  IdxR (Outs lo hi l) w w' e := by
 obtain ⟨a, c, rfl⟩ := h.slice
 have lb := h.bd
 obtain ⟨K, hK⟩ : ∃ K, K = l.length := ⟨_, rfl⟩
 rw [← hK] at h lb ⊢
 replace hK := hide hK
 have HH := hide h
 have KL := hide (fun w k => placks_any w lo hi k hh)
 dsimp only [sv] at KL ⊢
 generalize hi.getD [] = hs at *
 clear h hh
 go_enter Tryz.func112, Tryz.ntmps112
 go_wp2
 go_loopw [8] (fun p wr => ∃ i : Nat, i ≤ K ∧ p = .int .i64 i ∧ Hid (Below w.heap.size w wr ∧ ∀ j k, j < i → l[j]? = some k → kin lo hi k = true)) (fun p _ => K - (intOf p).toNat)
 case atStart => exact ⟨0, Nat.zero_le _, rfl, hide ⟨Below.refl _ _, fun j k h => by omega⟩⟩
 case round =>
  obtain ⟨i, hi9, rfl, hI⟩ := hrel
  by_cases hlt : i < K
  ·have hq : (i : Int) < (K : Int) := by omega
   obtain ⟨y, hy⟩ := some_el l (k := i) (by rw [← hK.out]; exact hlt)
   obtain ⟨b, off, rfl, hc⟩ := (HH.out.to0 hI.out.1).strAt hy
   replace hy := hide hy
   go_wp2_with fail
   refine (KL.out _ _).mono ?_
   rintro e w1 ⟨rfl, b1⟩
   have HE := hide (hI.out.1.trans (b1.mono hI.out.1.size))
   clear b1
   cases hkv : kin lo hi y with
   | false =>
    have hz : Hid (Outs lo hi l) := by
     show _ = _
     rw [List.all_eq_false]
     exact ⟨y, List.mem_of_getElem? hy.out, by simp [hkv]⟩
    replace hkv := hide hkv
    go_wp2
    go_ret
    exact ⟨_, rfl, .inl ⟨by omega, hz.out⟩, HE.out⟩
   | true =>
    have hI' : Hid (Below w.heap.size w w1 ∧ ∀ j k, j < i + 1 → l[j]? = some k → kin lo hi k = true) := ⟨HE.out, fun j k hj hk => by
     by_cases e : j = i
     ·subst e
      rw [hy.out] at hk
      simp only [Option.some.injEq] at hk
      subst hk; exact hkv
     ·exact hI.out.2 j k (by omega) hk⟩
    replace hkv := hide hkv
    go_wp2
    go_roundw
    case rel => exact ⟨i + 1, by omega, by go_num, hI'⟩
    case measure => simp [intOf]; omega
  ·have hq : ¬ (i : Int) < (K : Int) := by omega
   have hz : Hid (¬ Outs lo hi l) := fun h => by
    unfold Outs at h
    rw [all_kin fun j k hk => hI.out.2 j k (by have := (List.getElem?_eq_some_iff.1 hk).1; rw [← hK.out] at this; omega) hk] at h
    cases h
   go_wp2
   go_ret
   exact ⟨_, rfl, .inr ⟨by decide, hz.out⟩, hI.out.1⟩
set_option maxRecDepth 100000 in
set_option maxHeartbeats 2000000 in
theorem pcont_any (w : World) (lo : Str) (hi : Option Str) (hh : HiOk hi) (kv : Value) (l : List Str) (h : RdT w kv l) : Calls Tryz.prog 77 #[kv, .func (.func 40) #[sv lo hi] #[]] w fun e w' =>
  BoolR (Outs lo hi l) w w' e := by
 have KI := hide (pidx_any w lo hi hh kv l h)
 go_enter Tryz.func77, Tryz.ntmps77
 go_wp2_with fail
 refine KI.out.mono ?_
 rintro e w1 ⟨k, rfl, hp, b1⟩
 rcases hp with ⟨h0, hp⟩ | ⟨h0, hp⟩
 ·have HP := hide hp
  have h1 : decide (0 ≤ k) = true := decide_eq_true h0
  clear hp
  go_wp2
  go_ret
  exact BoolR.yes' rfl HP.out b1
 ·have HP := hide hp
  have h1 : decide (0 ≤ k) = false := decide_eq_false (by omega)
  clear hp
  go_wp2
  go_ret
  exact BoolR.no' rfl HP.out b1
end Go.Proofs.YtpiikmkajckccaaGreat

namespace Go.Proofs.YtpiikmkajckccaaGreat
open Go.RowKit
def KpM (g m : Nat) (w U : World) : Prop := (∀ b, b < w.heap.size → b ≠ g → b ≠ m → U.heap[b]? = w.heap[b]?) ∧ w.heap.size ≤ U.heap.size ∧ ∀ B, B ≤ g → B ≤ m → B ≤ w.heap.size → Below B w U
theorem KpM.of {g m : Nat} {w U : World} (h : Below w.heap.size w U) : KpM g m w U := ⟨fun b hb _ _ => h.block b hb, h.size, fun B _ _ hB => h.mono hB⟩
theorem KpM.refl (g m : Nat) (w : World) : KpM g m w w := KpM.of (Below.refl _ _)
theorem KpM.trans {g m : Nat} {w U V : World} (h : KpM g m w U) (k : KpM g m U V) : KpM g m w V :=
 ⟨fun b hb h1 h2 => (k.1 b (Nat.lt_of_lt_of_le hb h.2.1) h1 h2).trans (h.1 b hb h1 h2), Nat.le_trans h.2.1 k.2.1, fun B h1 h2 h3 => (h.2.2 B h1 h2 h3).trans (k.2.2 B h1 h2 (Nat.le_trans h3 h.2.1))⟩
theorem KpM.set {g m : Nat} {w U : World} (h : KpM g m w U) (i : Nat) (v : Value) : KpM g m w (U.setCell ⟨g, i, none⟩ v) :=
 ⟨fun b hb h1 h2 => (Below.heap_setCell _ _ _ _ h1).trans (h.1 b hb h1 h2), by simpa using h.2.1, fun B h1 h2 h3 => (h.2.2 B h1 h2 h3).setCell h1 _⟩
theorem KpM.map {g m : Nat} {w U V : World} (h : KpM g m w U) (k : U.grownBy V (some m)) : KpM g m w V :=
 ⟨fun b hb h1 h2 => (k.block b (Nat.lt_of_lt_of_le hb h.2.1) (fun e => h2 (by simpa using e))).trans (h.1 b hb h1 h2), Nat.le_trans h.2.1 k.size, fun B h1 h2 h3 => (h.2.2 B h1 h2 h3).grown k (Nat.le_trans h3 h.2.1) (fun j hj => by simp only [Option.some.injEq] at hj; omega)⟩
theorem KpM.row {g m : Nat} {w U : World} (h : KpM g m w U) {B T n : Nat} {v : Value} {k : Nat} {cc : List Value} (ho : w.ownsRow B T n v k cc) (hg : g < B) (hm : m < B) : U.ownsRow B T n v k cc := by
 refine ⟨ho.1, ?_⟩
 rcases ho.2 with hn | ⟨b, cap, cur, hv, hgb, hb, r⟩
 ·exact .inl hn
 ·exact .inr ⟨b, cap, cur, hv, hgb, (h.1 b (lt_of_block hb) (by omega) (by omega)).trans hb, r⟩
theorem KpM.node {g m : Nat} {w U : World} (h : KpM g m w U) {B : Nat} {kv vv dv : Value} {nd : Nd} (ho : OwnN B w kv vv dv nd) (hg : g < B) (hm : m < B) : OwnN B U kv vv dv nd := ⟨h.row ho.keys hg hm, h.row ho.vals hg hm, h.row ho.kids hg hm⟩
def NdOf (l : List Wrt) (B : Nat) (w : World) (i : Int) (v : Value) : Prop := ∃ x nd kv vv dv, tpage l i = some x ∧ ndec x = (nd, 0) ∧ v = nv nd kv vv dv ∧ OwnN B w kv vv dv nd ∧ Dj kv vv dv
def RowOf (v : Value) (b : Nat) : Prop := ∃ x y z u, v = .agg #[x, y, z, u] ∧ (y.ownBlock = some b ∨ z.ownBlock = some b ∨ u.ownBlock = some b)
theorem row_nv {nd : Nd} {kv vv dv : Value} {b : Nat} (h : RowOf (nv nd kv vv dv) b) : kv.ownBlock = some b ∨ vv.ownBlock = some b ∨ dv.ownBlock = some b := by
 obtain ⟨x, y, z, u, e, h⟩ := h
 simp only [nv, Value.agg.injEq, Array.mk.injEq, List.cons.injEq, and_true] at e
 obtain ⟨_, rfl, rfl, rfl⟩ := e
 exact h
theorem OwnN.row {B : Nat} {w : World} {kv vv dv : Value} {nd : Nd} (o : OwnN B w kv vv dv nd) {b : Nat} (h : RowOf (nv nd kv vv dv) b) : B ≤ b ∧ b < w.heap.size := by
 rcases row_nv h with h | h | h
 ·exact World.ownsRow.lt o.keys b h
 ·exact World.ownsRow.lt o.vals b h
 ·exact World.ownsRow.lt o.kids b h
theorem rows_new {l : List Wrt} {B : Nat} {w w' : World} {m : Int → Option Value} (h : ∀ i v, m i = some v → NdOf l B w i v) {nd : Nd} {kv vv dv : Value} (o : OwnN w.heap.size w' kv vv dv nd) : ∀ i u, m i = some u → ∀ b, RowOf (nv nd kv vv dv) b → ¬ RowOf u b := fun i u hu b hb hc => by
 obtain ⟨x, nd', kv', vv', dv', _, _, rfl, o', _⟩ := h i u hu
 have h1 := (o.row hb).1
 have h2 := (o'.row hc).2
 omega
abbrev pcl6 (t : Tr) (pv : Value) (bm : Nat) (s : Sw) : Array Value := #[.int .i64 t.root, .int .i64 t.next, pv, .map (some bm), .int .i64 s.prs.length, .int .i64 (sdep s)]
structure PWk (w0 w : World) (B g bm : Nat) (t : Tr) (pv : Value) (s : Sw) (m : Int → Option Value) : Prop where
 box : w.heap[g]? = some (.cells (pcl6 t pv bm s) 109 (0, 0))
 map : MapI w bm s.seen.length m
 has : ∀ i, (m i).isSome = decide (i ∈ s.seen)
 nds : ∀ i v, m i = some v → NdOf t.pages B w i v
 pg : RdC w0 pv t.pages
 ok : SwOk t.next s
 dep : s.dep = none ↔ s.prs = []
 bel : Below w0.heap.size w0 w
 hg : w0.heap.size ≤ g ∧ g < B
 hm : w0.heap.size ≤ bm ∧ bm < B
 apt : ∀ i j v u, m i = some v → m j = some u → i ≠ j → ∀ b, RowOf v b → ¬ RowOf u b
theorem PWk.to {w0 w w' : World} {B g bm : Nat} {t : Tr} {pv : Value} {s : Sw} {m : Int → Option Value} (h : PWk w0 w B g bm t pv s m) (hb : Below w.heap.size w w') : PWk w0 w' B g bm t pv s m := by
 refine ⟨(hb.block _ (lt_of_block h.box)).trans h.box, h.map.kept (hb.block _ h.map.lt), h.has, fun i v hv => ?_, h.pg, h.ok, h.dep, h.bel.trans (hb.mono h.bel.size), h.hg, h.hm, h.apt⟩
 obtain ⟨x, nd, kv, vv, dv, h1, h2, h3, h4, h5⟩ := h.nds i v hv
 exact ⟨x, nd, kv, vv, dv, h1, h2, h3, h4.to hb, h5⟩
theorem PWk.cell {w0 w : World} {B g bm : Nat} {t : Tr} {pv : Value} {s : Sw} {m : Int → Option Value} (h : PWk w0 w B g bm t pv s m) :
  (w.cell? ⟨g, 0, none⟩ = some (.int .i64 t.root) ∧ w.cell? ⟨g, 1, none⟩ = some (.int .i64 t.next) ∧ w.cell? ⟨g, 2, none⟩ = some pv ∧ w.cell? ⟨g, 3, none⟩ = some (.map (some bm))) ∧
  (w.cell? ⟨g, 4, none⟩ = some (.int .i64 s.prs.length) ∧ w.cell? ⟨g, 5, none⟩ = some (.int .i64 (sdep s))) ∧ ∀ i, w.frozen? ⟨g, i, none⟩ = false :=
 ⟨⟨cellN h.box rfl, cellN h.box rfl, cellN h.box rfl, cellN h.box rfl⟩, ⟨cellN h.box rfl, cellN h.box rfl⟩, frozN h.box⟩
theorem NdOf.keep {l : List Wrt} {B g bm : Nat} {w U : World} {i : Int} {v : Value} (h : NdOf l B w i v) (k : KpM g bm w U) (hg : g < B) (hm : bm < B) : NdOf l B U i v := by
 obtain ⟨x, nd, kv, vv, dv, h1, h2, h3, h4, h5⟩ := h
 exact ⟨x, nd, kv, vv, dv, h1, h2, h3, k.node h4 hg hm, h5⟩
theorem PWk.see {w0 w w5 : World} {B g bm : Nat} {t : Tr} {pv : Value} {s : Sw} {m : Int → Option Value} (h : PWk w0 w B g bm t pv s m) {id : Int} {v : Value} (hgr : w.grownBy w5 (some bm)) (hmap : MapI w5 bm (s.seen.length + 1) (fun j => if j = id then some v else m j))
  (hi : 1 ≤ id ∧ id < t.next) (hn : id ∉ s.seen) (hnd : NdOf t.pages B w id v) (hfr : ∀ i u, m i = some u → ∀ b, RowOf v b → ¬ RowOf u b) : PWk w0 w5 B g bm t pv ⟨id :: s.seen, s.dep, s.prs⟩ (fun j => if j = id then some v else m j) ∧ KpM g bm w w5 := by
 have k : KpM g bm w w5 := (KpM.refl g bm w).map hgr
 have hne := h.map.ne h.box
 refine ⟨⟨(hgr.block g (lt_of_block h.box) (fun e => hne (by simpa using e.symm))).trans h.box, hmap, fun i => ?_, fun i u hu => ?_, h.pg, ?_, h.dep, h.bel.trans (k.2.2 _ h.hg.1 h.hm.1 h.bel.size), h.hg, h.hm, ?_⟩, k⟩
 ·dsimp only
  by_cases e : i = id
  ·subst e; simp
  ·rw [if_neg e, h.has]; simp [e]
 ·by_cases e : i = id
  ·subst e
   rw [if_pos rfl] at hu
   simp only [Option.some.injEq] at hu
   subst hu
   exact hnd.keep k h.hg.2 h.hm.2
  ·rw [if_neg e] at hu
   exact (h.nds i u hu).keep k h.hg.2 h.hm.2
 ·have := h.ok.see hi hn s.dep (l := []) (by simp)
  simpa using this
 ·intro i j v1 u1 hv1 hu1 hij b hb1 hb2
  by_cases e1 : i = id
  ·rw [if_pos e1] at hv1
   rw [if_neg (fun e => hij (e1.trans e.symm))] at hu1
   cases hv1
   exact hfr j u1 hu1 b hb1 hb2
  ·rw [if_neg e1] at hv1
   by_cases e2 : j = id
   ·rw [if_pos e2] at hu1
    cases hu1
    exact hfr i v1 hv1 b hb2 hb1
   ·rw [if_neg e2] at hu1
    exact h.apt i j v1 u1 hv1 hu1 hij b hb1 hb2
theorem PWk.leaf {w0 w w6 : World} {B g bm : Nat} {t : Tr} {pv : Value} {s : Sw} {m : Int → Option Value} (h : PWk w0 w B g bm t pv s m) {f : Nat} {l : List Pr} (kg : KpG g w w6)
  (hb : w6.heap[g]? = some (.cells #[.int .i64 t.root, .int .i64 t.next, pv, .map (some bm), .int .i64 ((s.prs.length + l.length : Nat) : Int), .int .i64 (16 - (f : Int))] 109 (0, 0))) (hl : l ≠ []) (ok : SwOk t.next ⟨s.seen, some f, s.prs ++ l⟩) :
  PWk w0 w6 B g bm t pv ⟨s.seen, some f, s.prs ++ l⟩ m := by
 have k : KpM g bm w w6 := ⟨fun b h1 h2 _ => kg.1 b h1 h2, kg.2.1, fun C h1 _ h3 => kg.2.2 C h1 h3⟩
 have hne := h.map.ne h.box
 refine ⟨?_, h.map.kept (kg.1 bm h.map.lt hne), h.has, fun i u hu => (h.nds i u hu).keep k h.hg.2 h.hm.2, h.pg, ok, ?_, h.bel.trans (k.2.2 _ h.hg.1 h.hm.1 h.bel.size), h.hg, h.hm, h.apt⟩
 ·rw [hb]; simp [pcl6, sdep]
 ·simp [hl]
theorem zeroNd (w : World) : (zeroValue 98).run Tryz.prog w = .ok (.agg #[.bool false, .slice none 0 0, .slice none 0 0, .slice none 0 0]) w := by kernel_rfl
def CntR (w w' : World) (g : Nat) (c0 c1 c2 c3 : Value) (L n : Nat) (D d : Int) (e : Ending) : Prop := ∃ R : Bool, e = .returned (.bool R) ∧ KpG g w w' ∧
 w'.heap[g]? = some (.cells #[c0, c1, c2, c3, .int .i64 ((L + n : Nat) : Int), .int .i64 (if L = 0 then d else D)] 109 (0, 0)) ∧ (R = true ↔ (0 < n ∧ d = (if L = 0 then d else D) ∧ L + n ≤ 4096))
theorem CntR.no {w w' : World} {g : Nat} {c0 c1 c2 c3 : Value} {L n : Nat} {D d : Int} (h1 : KpG g w w') (h2 : w'.heap[g]? = some (.cells #[c0, c1, c2, c3, .int .i64 ((L + n : Nat) : Int), .int .i64 (if L = 0 then d else D)] 109 (0, 0))) (h3 : ¬ (0 < n ∧ d = (if L = 0 then d else D) ∧ L + n ≤ 4096)) {b : Bool} (hb : b = false) : CntR w w' g c0 c1 c2 c3 L n D d (.returned (.bool b)) := ⟨false, by rw [hb], h1, h2, ⟨fun h => (by cases h), fun h => absurd h h3⟩⟩
theorem CntR.yes {w w' : World} {g : Nat} {c0 c1 c2 c3 : Value} {L n : Nat} {D d : Int} (h1 : KpG g w w') (h2 : w'.heap[g]? = some (.cells #[c0, c1, c2, c3, .int .i64 ((L + n : Nat) : Int), .int .i64 (if L = 0 then d else D)] 109 (0, 0))) (h3 : (0 < n ∧ d = (if L = 0 then d else D) ∧ L + n ≤ 4096)) {b : Bool} (hb : b = true) : CntR w w' g c0 c1 c2 c3 L n D d (.returned (.bool b)) := ⟨true, by rw [hb], h1, h2, ⟨fun _ => h3, fun _ => rfl⟩⟩
set_option maxRecDepth 100000 in
set_option maxHeartbeats 2000000 in
theorem pcount_any (w : World) (g : Nat) (c0 c1 c2 c3 : Value) (L n : Nat) (D d : Int) (h : w.heap[g]? = some (.cells #[c0, c1, c2, c3, .int .i64 (L : Int), .int .i64 D] 109 (0, 0))) (hL : L ≤ 100000000) (hn : n ≤ 1000) :
  Calls Tryz.prog 78 #[.pointer (some ⟨g, 0, none⟩), .int .i64 (n : Int), .int .i64 d] w fun e w' => CntR w w' g c0 c1 c2 c3 L n D d e := by
 obtain ⟨E, hE⟩ : ∃ E : Int, E = if L = 0 then d else D := ⟨_, rfl⟩
 obtain ⟨S, hS⟩ : ∃ S : Nat, (L : Int) + (n : Int) = (S : Int) := ⟨L + n, by omega⟩
 have hS2 : IntKind.i64.wrap (S : Int) = (S : Int) := IntWalk.i64_in _ (by omega)
 have C4 : w.cell? ⟨g, 4, none⟩ = some (.int .i64 (L : Int)) := cellN h rfl
 have C5 : w.cell? ⟨g, 5, none⟩ = some (.int .i64 D) := cellN h rfl
 have CF := frozN h
 have HH := hide h
 clear h
 go_enter Tryz.func78, Tryz.ntmps78
 go_upto_if 11 with fail
 go_cut [] from 11 to 15 (fun wx => Hid (KpG g w wx ∧ wx.heap[g]? = some (.cells #[c0, c1, c2, c3, .int .i64 (L : Int), .int .i64 E] 109 (0, 0))))
 case first =>
  by_cases h0 : L = 0
  ·have hq : ((L : Int) == 0) = true := by simp [h0]
   have FF : Hid (KpG g w (w.setCell ⟨g, 5, none⟩ (.int .i64 d)) ∧ (w.setCell ⟨g, 5, none⟩ (.int .i64 d)).heap[g]? = some (.cells #[c0, c1, c2, c3, .int .i64 (L : Int), .int .i64 E] 109 (0, 0))) := by
    refine ⟨(KpG.refl g w).set 5 _, ?_⟩
    rw [hE, if_pos h0]
    have := heap_setN HH.out 5 (.int .i64 d)
    simpa using this
   replace h0 := hide h0
   go_wp2_with fail
   go_meet
   case rel => exact FF
  ·have hq : ((L : Int) == 0) = false := by simp [h0]
   have FF : Hid (KpG g w w ∧ w.heap[g]? = some (.cells #[c0, c1, c2, c3, .int .i64 (L : Int), .int .i64 E] 109 (0, 0))) := by
    refine ⟨KpG.refl g w, ?_⟩
    rw [hE, if_neg h0]
    exact HH.out
   replace h0 := hide h0
   go_wp2_with fail
   go_meet
   case rel => exact FF
 case rest =>
  clear C4 C5 CF HH
  have C4 : wc.cell? ⟨g, 4, none⟩ = some (.int .i64 (L : Int)) := cellN hcut.out.2 rfl
  have C5 : wc.cell? ⟨g, 5, none⟩ = some (.int .i64 E) := cellN hcut.out.2 rfl
  have CF := frozN hcut.out.2
  obtain ⟨X, hX⟩ : ∃ X, X = wc.setCell ⟨g, 4, none⟩ (.int .i64 (S : Int)) := ⟨_, rfl⟩
  have HX : Hid (KpG g w X ∧ X.heap[g]? = some (.cells #[c0, c1, c2, c3, .int .i64 ((L + n : Nat) : Int), .int .i64 (if L = 0 then d else D)] 109 (0, 0))) := by
   rw [hX]
   refine ⟨hcut.out.1.set 4 _, ?_⟩
   have := heap_setN hcut.out.2 4 (.int .i64 (S : Int))
   rw [← hE, show ((L + n : Nat) : Int) = (S : Int) from by omega]
   simpa using this
  have X4 : X.cell? ⟨g, 4, none⟩ = some (.int .i64 (S : Int)) := by rw [show (S : Int) = ((L + n : Nat) : Int) from by omega]; exact cellN HX.out.2 rfl
  have X5 : X.cell? ⟨g, 5, none⟩ = some (.int .i64 E) := by rw [hE]; exact cellN HX.out.2 rfl
  replace hE := hide hE
  go_upto_region 4 with fail
  rw [← hX]
  clear hX C4 C5 CF
  by_cases c1 : (n : Int) > 0
  ·by_cases c2 : d = E
   ·have hq : (d == E) = true := by simp [c2]
    by_cases c4 : (S : Int) ≤ 4096
    ·have hz : Hid (0 < n ∧ d = (if L = 0 then d else D) ∧ L + n ≤ 4096) := ⟨by omega, by rw [← hE.out]; exact c2, by omega⟩
     replace c2 := hide c2
     go_wp2
     go_ret
     exact CntR.yes HX.out.1 HX.out.2 hz.out (by first | rfl | simp [c4] | (simp; omega))
    ·have hz : Hid (¬ (0 < n ∧ d = (if L = 0 then d else D) ∧ L + n ≤ 4096)) := fun h => by have := h.2.2; omega
     replace c2 := hide c2
     go_wp2
     go_ret
     exact CntR.no HX.out.1 HX.out.2 hz.out (by first | rfl | simp [c4] | (simp; omega))
   ·have hq : (d == E) = false := by simp [c2]
    have hz : Hid (¬ (0 < n ∧ d = (if L = 0 then d else D) ∧ L + n ≤ 4096)) := fun h => by have := h.2.1; rw [← hE.out] at this; exact c2 this
    replace c2 := hide c2
    go_wp2
    go_ret
    exact CntR.no HX.out.1 HX.out.2 hz.out (by first | rfl | simp)
  ·have hz : Hid (¬ (0 < n ∧ d = (if L = 0 then d else D) ∧ L + n ≤ 4096)) := fun h => by have := h.1; omega
   go_wp2
   go_ret
   exact CntR.no HX.out.1 HX.out.2 hz.out (by first | rfl | simp)
end Go.Proofs.YtpiikmkajckccaaGreat

namespace Go.Proofs.YtpiikmkajckccaaGreat
open Go.RowKit
theorem tpage_in : ∀ {l : List Wrt} {id : Int} {x : List UInt8}, tpage l id = some x → ∃ (i : Nat) (y : Wrt), l[i]? = some y ∧ y.1 = id ∧ y.2 = x
 | [], _, _, h => by cases h
 | y :: r, id, x, h => by
  unfold tpage at h
  split at h
  ·rename_i e
   exact ⟨0, y, rfl, e, by simpa using h⟩
  ·obtain ⟨i, z, h1, h2⟩ := tpage_in h
   exact ⟨i + 1, z, by simpa using h1, h2⟩
theorem tpage_bd {next : Int} {l : List Wrt} (hu : tups next l l.length) {id : Int} {x : List UInt8} (h : tpage l id = some x) : 1 ≤ id ∧ id < next := by
 obtain ⟨i, y, h1, rfl, _⟩ := tpage_in h
 have hi := (List.getElem?_eq_some_iff.1 h1).1
 have h2 := (hu i hi).2
 have h3 := tups_ge hu i hi
 rw [tid_at h1] at h2 h3
 omega
theorem cellAl {w : World} {b i : Nat} {v : Value} (h : w.cell? ⟨b, i, none⟩ = some v) (o : Obj) : (w.alloc o).cell? ⟨b, i, none⟩ = some v :=
 (((Below.refl w.heap.size w).alloc (Nat.le_refl _) o).cell (p := ⟨b, i, none⟩) (cell_lt h)).trans h
set_option maxRecDepth 100000 in
set_option maxHeartbeats 2000000 in
theorem rgo_any (w0 : World) (t : Tr) (pv : Value) (g bs n : Nat) (hn : (n : Int) = t.next + 1) (hN : 1 ≤ t.next ∧ t.next ≤ 65536) (hU : tups t.next t.pages t.pages.length) :
  ∀ (f : Nat), f ≤ 16 → ∀ (w : World) (prv : Value) (s : Sw) (bad : Bool) (id : Int) (lo : Str) (hi : Option Str), RWk w0 w g bs n t pv prv s bad →
  Calls Tryz.prog 55 #[.pointer (some ⟨g, 0, none⟩), .int .i64 id, .int .i64 (17 - (f : Int)), st lo, st (hi.getD []), .bool hi.isSome] w fun e w' =>
   e = .returned (.tuple #[]) ∧ WkRes w0 w w' g bs n t pv (wk t.pages f id lo hi s) bad := by
 intro f
 induction f with
 | zero =>
  intro hf w prv s bad id lo hi H
  obtain ⟨root, next, ps⟩ := t
  obtain ⟨a, c, rfl⟩ := H.pg.slice
  have lp : ps.length ≤ 65536 := by have := tups_len hU hN.1; dsimp only at this hN; omega
  have KP := hide (rpage_at w0 w _ ⟨root, next, ps⟩ id H.pg H.bel (tups_up hU) lp)
  obtain ⟨dep, hdep⟩ : ∃ d : Int, d = 17 - ((0 : Nat) : Int) := ⟨_, rfl⟩
  obtain ⟨hs, hhs⟩ : ∃ x, x = hi.getD [] := ⟨_, rfl⟩
  obtain ⟨hb, hhb⟩ : ∃ x, x = hi.isSome := ⟨_, rfl⟩
  rw [← hdep, ← hhs, ← hhb]
  have hd16 : dep > 16 := by omega
  replace hdep := hide hdep
  replace hhs := hide hhs
  replace hhb := hide hhb
  obtain ⟨⟨C0, C1, C2, C3⟩, ⟨C4, C5, C6, C7⟩, CF⟩ := H.cell
  have hsok := hide H.ok
  replace H := hide H
  replace hU := hide hU
  dsimp only at C0 C1 C2 C3 C4 C5 C6 C7 hn hN
  replace lp := hide lp
  replace hn := hide hn
  replace hN := hide hN
  go_enter Tryz.func55, Tryz.ntmps55
  go_wp2_with fail
  refine KP.out.mono ?_
  rintro e w1 ⟨bv, ok, rfl, hp, b1⟩
  clear C0 C1 C2 C3 C4 C5 C6 C7 CF
  have H1 := H.out.to b1
  have k1 := KeepW.below b1
  obtain ⟨⟨C0, C1, C2, C3⟩, ⟨C4, C5, C6, C7⟩, CF⟩ := H1.cell
  replace H1 := hide (And.intro H1 k1)
  dsimp only at C0 C1 C2 C3 C4 C5 C6 C7
  clear KP H b1 k1
  cases bad with
  | true =>
   replace hp := hide hp
   go_wp2
   (try simp only [Exit.inBlock, Exit.then])
   refine bodyPost_ret (results_none rfl _ _ _) rfl ?_
   obtain ⟨r1, r2⟩ := H1.out.1.bad
   exact ⟨rfl, WkRes.no r1 (H1.out.2.trans r2) (fun h => by cases h)⟩
  | false =>
   cases ok with
   | false =>
    have hx : Hid (tpage ps id = none) := by
     rcases hp with ⟨o, _⟩ | ⟨_, o, _⟩
     ·cases o
     ·exact o
    clear hp
    go_wp2
    (try simp only [Exit.inBlock, Exit.then])
    refine bodyPost_ret (results_none rfl _ _ _) rfl ?_
    obtain ⟨r1, r2⟩ := H1.out.1.bad
    exact ⟨rfl, WkRes.no r1 (H1.out.2.trans r2) (fun _ => wk_none hx.out)⟩
   | true =>
    replace hp := hide hp
    go_wp2
    (try simp only [Exit.inBlock, Exit.then])
    refine bodyPost_ret (results_none rfl _ _ _) rfl ?_
    obtain ⟨r1, r2⟩ := H1.out.1.bad
    exact ⟨rfl, WkRes.no r1 (H1.out.2.trans r2) (fun _ => rfl)⟩
 | succ f ih =>
  intro hf w prv s bad id lo hi H
  obtain ⟨root, next, ps⟩ := t
  obtain ⟨a, c, rfl⟩ := H.pg.slice
  have lp : ps.length ≤ 65536 := by have := tups_len hU hN.1; dsimp only at this hN; omega
  have KP := hide (rpage_at w0 w _ ⟨root, next, ps⟩ id H.pg H.bel (tups_up hU) lp)
  obtain ⟨dep, hdep⟩ : ∃ d : Int, d = 17 - ((f + 1 : Nat) : Int) := ⟨_, rfl⟩
  obtain ⟨hs, hhs⟩ : ∃ x, x = hi.getD [] := ⟨_, rfl⟩
  obtain ⟨hb, hhb⟩ : ∃ x, x = hi.isSome := ⟨_, rfl⟩
  rw [← hdep, ← hhs, ← hhb]
  have hd16 : ¬ dep > 16 := by omega
  replace hdep := hide hdep
  replace hhs := hide hhs
  replace hhb := hide hhb
  obtain ⟨⟨C0, C1, C2, C3⟩, ⟨C4, C5, C6, C7⟩, CF⟩ := H.cell
  have hsok := hide H.ok
  replace H := hide H
  replace hU := hide hU
  dsimp only at C0 C1 C2 C3 C4 C5 C6 C7 hn hN
  replace ih := hide ih
  replace lp := hide lp
  replace hn := hide hn
  replace hN := hide hN
  go_enter Tryz.func55, Tryz.ntmps55
  go_wp2_with fail
  refine KP.out.mono ?_
  rintro e w1 ⟨bv, ok, rfl, hp, b1⟩
  clear C0 C1 C2 C3 C4 C5 C6 C7 CF
  have H1 := H.out.to b1
  have k1 := KeepW.below b1
  obtain ⟨⟨C0, C1, C2, C3⟩, ⟨C4, C5, C6, C7⟩, CF⟩ := H1.cell
  replace H1 := hide (And.intro H1 k1)
  dsimp only at C0 C1 C2 C3 C4 C5 C6 C7
  clear KP H b1 k1
  cases bad with
  | true =>
   replace hp := hide hp
   go_wp2
   (try simp only [Exit.inBlock, Exit.then])
   refine bodyPost_ret (results_none rfl _ _ _) rfl ?_
   obtain ⟨r1, r2⟩ := H1.out.1.bad
   exact ⟨rfl, WkRes.no r1 (H1.out.2.trans r2) (fun h => by cases h)⟩
  | false =>
   cases ok with
   | false =>
    have hx : Hid (tpage ps id = none) := by
     rcases hp with ⟨o, _⟩ | ⟨_, o, _⟩
     ·cases o
     ·exact o
    clear hp
    go_wp2
    (try simp only [Exit.inBlock, Exit.then])
    refine bodyPost_ret (results_none rfl _ _ _) rfl ?_
    obtain ⟨r1, r2⟩ := H1.out.1.bad
    exact ⟨rfl, WkRes.no r1 (H1.out.2.trans r2) (fun _ => wk_none hx.out)⟩
   | true =>
    obtain ⟨x, hx, hr⟩ : ∃ x, tpage ps id = some x ∧ Rd w0 bv x := by
     rcases hp with ⟨_, o⟩ | ⟨o, _⟩
     ·exact o
     ·cases o
    clear hp
    have hb1 := tpage_bd hU.out hx
    obtain ⟨ni, hni⟩ : ∃ ni : Nat, id = (ni : Int) := ⟨id.toNat, by omega⟩
    subst hni
    have hnn : ni < n := by have := hn.out; omega
    obtain ⟨S1, S2⟩ := H1.out.1.seenAt hnn
    have hin : (ni : Int) < (n : Int) := by omega
    replace hx := hide hx
    replace hr := hide hr
    by_cases hs1 : (ni : Int) ∈ s.seen
    ·rw [decide_eq_true hs1] at S1
     have hz : Hid (wk ps (f + 1) (ni : Int) lo hi s = none) := wk_seen hs1
     replace hs1 := hide hs1
     go_wp2
     (try simp only [Exit.inBlock, Exit.then])
     refine bodyPost_ret (results_none rfl _ _ _) rfl ?_
     obtain ⟨r1, r2⟩ := H1.out.1.bad
     exact ⟨rfl, WkRes.no r1 (H1.out.2.trans r2) (fun _ => hz.out)⟩
    ·rw [decide_eq_false hs1] at S1
     replace hs1 := hide hs1
     obtain ⟨r1, r2⟩ := H1.out.1.see hb1 hs1.out
     have H2 := hide (And.intro r1 (H1.out.2.trans r2))
     have KD := hide (rdec9_any _ bv x (hr.out.to H2.out.1.bel))
     clear r1 r2
     go_wp2_with fail
     refine KD.out.mono ?_
     rintro e w3 ⟨nd, err, kv, vv, dv, rfl, hd, hon, b3⟩
     obtain ⟨U, hUU, DU, bU, sU⟩ := boxedN w3 #[.bool nd.leaf, kv, vv, dv] 145
     have bb := b3.trans (bU.mono b3.size)
     have H3 := hide (And.intro (H2.out.1.to bb) (H2.out.2.trans (KeepW.below bb)))
     have HN : Hid (NdAt U w3.heap.size kv vv dv nd) := ⟨DU, (hon.to bU).mono (Nat.zero_le _)⟩
     obtain ⟨⟨C0, C1, C2, C3⟩, ⟨C4, C5, C6, C7⟩, CF⟩ := H3.out.1.cell
     obtain ⟨E0, E1, E2, E3⟩ := HN.out.cell
     obtain ⟨ka, kc, va, vc, da, dc, rfl, rfl, rfl⟩ := hon.rd.slices
     rw [hUU] at C0 C1 C2 C3 C4 C5 C6 C7 CF E0 E1 E2 E3
     dsimp only at C0 C1 C2 C3 C4 C5 C6 C7
     clear KD bb b3 bU hon H2 H1 DU sU S1 S2 hr
     rcases hd with ⟨rfl, hd⟩ | ⟨he, rfl, hd⟩
     rotate_left
     ·have hz : Hid (wk ps (f + 1) (ni : Int) lo hi s = none) := wk_bad hx.out hd
      have hq : (err != 0) = true := by simpa using he
      replace he := hide he
      replace hd := hide hd
      go_wp2
      (try simp only [Exit.inBlock, Exit.then])
      refine bodyPost_ret (results_none rfl _ _ _) rfl ?_
      rw [← hUU]
      obtain ⟨r1, r2⟩ := H3.out.1.bad
      exact ⟨rfl, WkRes.no r1 (H3.out.2.trans r2) (fun _ => hz.out)⟩
     have hok : NOk nd := by have := (ndec_back (xs := x) (by rw [hd])).1; rw [hd] at this; exact this
     replace hd := hide hd
     replace hok := hide hok
     go_wp2
     rw [← hUU]
     replace hUU := hide hUU
     clear C0 C1 C2 C3 C4 C5 C6 C7 CF E0 E1 E2 E3
     obtain ⟨E0, E1, E2, E3⟩ := HN.out.cell
     obtain ⟨⟨C0, C1, C2, C3⟩, ⟨C4, C5, C6, C7⟩, CF⟩ := H3.out.1.cell
     dsimp only at C0 C1 C2 C3 C4 C5 C6 C7
     obtain ⟨K, hK⟩ : ∃ K, K = nd.keys.length := ⟨_, rfl⟩
     obtain ⟨V, hV⟩ : ∃ V, V = nd.vals.length := ⟨_, rfl⟩
     obtain ⟨D, hD⟩ : ∃ D, D = nd.kids.length := ⟨_, rfl⟩
     rw [← hK] at E1 HN
     rw [← hV] at E2 HN
     rw [← hD] at E3 HN
     have hK3 : K ≤ 300 := by have := (npr_len hok.out).2; omega
     replace hK := hide hK
     replace hV := hide hV
     replace hD := hide hD
     obtain ⟨nb, hnb⟩ : ∃ nb, nb = w3.heap.size := ⟨_, rfl⟩
     rw [← hnb] at HN E0 E1 E2 E3 ⊢
     clear hnb
     have hkf : Hid (∀ x, kin lo hi x = (!slt x lo && (!hb || slt x hs))) := fun x => by
      rw [hhb.out, hhs.out]
      cases hi <;> simp [kin]
     go_loopw [16] (fun p wr => ∃ i : Nat, i ≤ K ∧ p = .int .i64 i ∧ U = wr ∧ Hid (∀ j k, j < i → nd.keys[j]? = some k → kin lo hi k = true)) (fun p _ => K - (intOf p).toNat)
     case atStart => exact ⟨0, Nat.zero_le _, rfl, rfl, hide fun j k h => by omega⟩
     case round =>
      obtain ⟨i, hi2, rfl, rfl, hI⟩ := hrel
      by_cases hlt : i < K
      ·have hq : (i : Int) < (K : Int) := by omega
       obtain ⟨y, hy⟩ := some_el nd.keys (k := i) (by rw [← hK.out]; exact hlt)
       obtain ⟨b, off, rfl, hc⟩ := HN.out.own.keys.rd.strAt hy
       replace hy := hide hy
       go_upto_region 10 with fail
       go_cut [96] from 71 to 99 (fun s wx => s = .bool (!kin lo hi y) ∧ U = wx)
       case first =>
        cases hl : Op.bytesLess y lo with
        | true =>
         have hkv : Hid (kin lo hi y = false) := by show _ = _; rw [hkf.out y, show slt y lo = true from hl]; rfl
         go_wp2_with fail
         go_meet
         case rel => exact ⟨by rw [hkv.out]; rfl, rfl⟩
        | false =>
         cases hb with
         | false =>
          have hkv : Hid (kin lo hi y = true) := by show _ = _; rw [hkf.out y, show slt y lo = false from hl]; rfl
          go_wp2_with fail
          go_meet
          case rel => exact ⟨by rw [hkv.out]; rfl, rfl⟩
         | true =>
          have hkv : Hid (kin lo hi y = Op.bytesLess y hs) := by show _ = _; rw [hkf.out y, show slt y lo = false from hl]; rfl
          go_wp2_with fail
          go_meet
          case rel => exact ⟨by rw [hkv.out], rfl⟩
       case rest =>
        obtain ⟨rfl, rfl⟩ := hcut
        cases hkv : kin lo hi y with
        | false =>
         have hz : Hid (wk ps (f + 1) (ni : Int) lo hi s = none) := wk_out hx.out (by rw [hd.out]; exact hy.out) hkv
         go_wp2
         (try simp only [Exit.inBlock, Exit.then])
         refine bodyPost_ret (results_none rfl _ _ _) rfl ?_
         obtain ⟨r1, r2⟩ := H3.out.1.bad
         exact ⟨rfl, WkRes.no r1 (H3.out.2.trans r2) (fun _ => hz.out)⟩
        | true =>
         have hI' : Hid (∀ j k, j < i + 1 → nd.keys[j]? = some k → kin lo hi k = true) := fun j k hj hk => by
          by_cases e : j = i
          ·subst e
           rw [hy.out] at hk
           simp only [Option.some.injEq] at hk
           subst hk; exact hkv
          ·exact hI.out j k (by omega) hk
         replace hkv := hide hkv
         go_wp2
         go_roundw
         case rel => exact ⟨i + 1, by omega, by go_num, trivial, hI'⟩
         case measure => simp [intOf]; omega
      ·have hq : ¬ (i : Int) < (K : Int) := by omega
       have hall : Hid (nd.keys.all (kin lo hi) = true) := all_kin fun j k hk => hI.out j k (by have := (List.getElem?_eq_some_iff.1 hk).1; rw [← hK.out] at this; omega) hk
       clear hI hkf
       cases hlf : nd.leaf with
       | true =>
        have hW := hide (wk_leaf (f := f) hx.out hs1.out hd.out hall.out hlf)
        obtain ⟨s1, hs1'⟩ : ∃ s1 : Sw, s1 = ⟨(ni : Int) :: s.seen, s.dep, s.prs⟩ := ⟨_, rfl⟩
        rw [hlf] at E0
        rw [← hs1'] at H3 C5
        obtain ⟨sd, hsd⟩ : ∃ d : Int, d = sdep s1 := ⟨_, rfl⟩
        obtain ⟨sa, hsa⟩ : ∃ b : Bool, b = s.dep.isSome := ⟨_, rfl⟩
        rw [← hsd] at C5
        rw [← hsa] at C6
        obtain ⟨cnd, hcnd⟩ : ∃ c : Bool, c = decide (nd.keys = [] ∨ (s.dep ≠ none ∧ s.dep ≠ some f)) := ⟨_, rfl⟩
        have hde : Hid (s1.dep = s.dep) := by show _ = _; rw [hs1']
        replace hsd : Hid (sd = match s.dep with | none => 0 | some f => 16 - (f : Int)) := by show _ = _; rw [hsd, sdep, hde.out]; cases s.dep <;> rfl
        replace hlf := hide hlf
        replace hsa := hide hsa
        replace hs1' := hide hs1'
        replace hcnd := hide hcnd
        replace hall := hide hall
        go_upto_region 13 with fail
        go_cut [119] from 71 to 99 (fun s wx => s = .bool cnd ∧ U = wx)
        case first =>
         by_cases hK0 : K = 0
         ·have hq2 : ((K : Int) == 0) = true := by simp [hK0]
          have hc1 : Hid (cnd = true) := by
           show _ = _
           rw [hcnd.out]
           exact decide_eq_true (.inl (List.eq_nil_of_length_eq_zero (by rw [← hK.out]; exact hK0)))
          replace hK0 := hide hK0
          go_wp2_with fail
          go_meet
          case rel => exact ⟨by rw [hc1.out], rfl⟩
         ·have hq2 : ((K : Int) == 0) = false := by simp [hK0]
          have hne : Hid (nd.keys ≠ []) := fun h => hK0 (by rw [hK.out, h]; rfl)
          replace hK0 := hide hK0
          cases sa with
          | false =>
           have hc1 : Hid (cnd = false) := by
            show _ = _
            rw [hcnd.out]
            refine decide_eq_false fun h => ?_
            rcases h with h | ⟨h, _⟩
            ·exact hne.out h
            ·have := hsa.out; cases hd2 : s.dep <;> simp [hd2] at h this
           go_wp2_with fail
           go_meet
           case rel => exact ⟨by rw [hc1.out], rfl⟩
          | true =>
           have hc1 : Hid (cnd = (sd != dep)) := by
            show _ = _
            have e1 := hsa.out
            have e2 := hsd.out
            have e3 := hdep.out
            rw [hcnd.out]
            cases hd2 : s.dep with
            | none => rw [hd2] at e1; cases e1
            | some f' =>
             rw [hd2] at e2
             dsimp only at e2
             have hn := hne.out
             by_cases ef : f' = f
             ·subst ef
              have : sd = dep := by omega
              simp [hn, this]
             ·have : sd ≠ dep := by omega
              simp [hn, this, ef]
           go_wp2_with fail
           go_meet
           case rel => exact ⟨by rw [hc1.out], rfl⟩
        case rest =>
         obtain ⟨rfl, rfl⟩ := hcut
         go_upto_if 119 with fail
         clear C5 C6 C7
         go_cut [] from 71 to 99 (fun wx => Hid (RWk w0 wx g bs n ⟨root, next, ps⟩ (.slice a ps.length c) prv s1 cnd ∧ KeepW U wx))
         case first =>
          cases cnd with
          | true =>
           go_wp2_with fail
           go_meet
           case rel => exact H3.out.1.bad
          | false =>
           go_wp2_with fail
           go_meet
           case rel => exact ⟨H3.out.1, KeepW.refl _⟩
         case rest =>
          replace H3 := hide H3.out.2
          obtain ⟨⟨C0, C1, C2, C3⟩, ⟨C4, C5, C6, C7⟩, CF⟩ := hcut.out.1.cell
          dsimp only at C0 C1 C2 C3 C4 C5 C6 C7
          have hX : Hid (RWk w0 ((wc.setCell ⟨g, 6, none⟩ (.bool true)).setCell ⟨g, 5, none⟩ (.int .i64 dep)) g bs n ⟨root, next, ps⟩ (.slice a ps.length c) prv ⟨s1.seen, some f, s1.prs ++ (npr nd).take 0⟩ cnd ∧
            KeepW U ((wc.setCell ⟨g, 6, none⟩ (.bool true)).setCell ⟨g, 5, none⟩ (.int .i64 dep))) := by
           have e : dep = 16 - (f : Int) := by have := hdep.out; omega
           obtain ⟨a1, a2⟩ := hcut.out.1.deep f
           rw [e]
           exact ⟨by simpa using a1, hcut.out.2.trans a2⟩
          go_wp2
          clear C0 C1 C2 C3 C4 C5 C6 C7 CF hcut
          generalize (wc.setCell ⟨g, 6, none⟩ (.bool true)).setCell ⟨g, 5, none⟩ (.int .i64 dep) = W6 at *
          have hlv : Hid (V = K) := by
           have h1 := hok.out.2.1
           have h2 := hlf.out
           show V = K
           rw [hV.out, hK.out]
           unfold ncount at h1
           rw [if_pos h2] at h1
           exact h1.1
          go_loopw [17] (fun p wr => ∃ k : Nat, k ≤ K ∧ p = .int .i64 k ∧ Hid (∃ prv', RWk w0 wr g bs n ⟨root, next, ps⟩ (.slice a ps.length c) prv' ⟨s1.seen, some f, s1.prs ++ (npr nd).take k⟩ cnd ∧ KeepW U wr)) (fun p _ => K - (intOf p).toNat)
          case atStart => exact ⟨0, Nat.zero_le _, rfl, hide ⟨_, hX.out⟩⟩
          case round =>
           obtain ⟨k, hk, rfl, hI⟩ := hrel
           obtain ⟨pv2, r1, r2⟩ := hI.out
           clear hI
           have HN2 := HN.out.keep r2
           obtain ⟨E0, E1, E2, E3⟩ := HN2.cell
           obtain ⟨pa, pc, hpv⟩ := r1.prs.rd.slice
           subst hpv
           obtain ⟨⟨_, _, _, _⟩, ⟨_, _, _, C7⟩, CF⟩ := r1.cell
           dsimp only at C7
           by_cases hlt : k < K
           ·have hq : (k : Int) < (K : Int) := by omega
            obtain ⟨y1, hy1⟩ := some_el nd.keys (k := k) (by rw [← hK.out]; exact hlt)
            obtain ⟨y2, hy2⟩ := some_el nd.vals (k := k) (by rw [← hV.out, hlv.out]; exact hlt)
            obtain ⟨b, off, rfl, hc⟩ := HN2.own.keys.rd.strAt hy1
            obtain ⟨b2, off2, rfl, hc2⟩ := HN2.own.vals.rd.strAt hy2
            have hq2 : (k : Int) < (V : Int) := by have := hlv.out; omega
            have hpr : Hid ((npr nd).take (k + 1) = (npr nd).take k ++ [(y1, y2)]) := by
             show _ = _
             rw [List.take_add_one]
             congr 1
             simp [npr, List.getElem?_zip_eq_some, hy1, hy2]
            replace hy1 := hide hy1
            replace hy2 := hide hy2
            have R1 := hide (And.intro r1 r2)
            obtain ⟨lp2, hlp2⟩ : ∃ m, m = (s1.prs ++ (npr nd).take k).length := ⟨_, rfl⟩
            rw [← hlp2] at C7
            clear HN2 r2 r1
            have hok2 : Hid (SwOk next ⟨s1.seen, some f, s1.prs ++ (npr nd).take k ++ [(y1, y2)]⟩) := by
             have e := hs1'.out
             rw [List.append_assoc, ← hpr.out, e]
             exact hsok.out.see hb1 hs1.out (some f) (by have := (npr_len hok.out).1; rw [List.length_take]; omega)
            have hbd : (lp2 + 1) * 32 ≤ 140737488355328 := by
             have h1 := R1.out.1.ok.len hN.out.2
             dsimp only at h1
             omega
            obtain ⟨WA, hWA⟩ : ∃ WA, WA = (wr.alloc (.cells #[st y1, st y2] 102)).drew := ⟨_, rfl⟩
            obtain ⟨wa, hwa, DA, bA0, sA⟩ := boxedN wr #[st y1, st y2] 102
            have bA : Below wr.heap.size wr WA := by rw [hWA, ← hwa]; exact bA0.trans (below_drewN' wa 1 _)
            have nc0 : WA.cell? ⟨wr.heap.size, 0, none⟩ = some (st y1) := by rw [hWA, ← hwa]; exact ((below_drewN' wa 1 wa.heap.size).cell (p := ⟨wr.heap.size, _, none⟩) (lt_of_block DA)).trans (cellN DA rfl)
            have nc1 : WA.cell? ⟨wr.heap.size, 1, none⟩ = some (st y2) := by rw [hWA, ← hwa]; exact ((below_drewN' wa 1 wa.heap.size).cell (p := ⟨wr.heap.size, _, none⟩) (lt_of_block DA)).trans (cellN DA rfl)
            have hOW : OwnP w0.heap.size WA (.slice pa lp2 pc) (s1.prs ++ (npr nd).take k) := by
             rw [hlp2]
             exact rows_to R1.out.1.prs bA
            have hsz : w0.heap.size ≤ WA.heap.size := (R1.out.1.to bA).bel.size
            have hbd2 : ((s1.prs ++ (npr nd).take k).length + 1) * 32 ≤ 140737488355328 := by rw [← hlp2]; exact hbd
            have FIN : ∀ v5 w5, OwnP w0.heap.size w5 v5 (s1.prs ++ (npr nd).take k ++ [(y1, y2)]) → Below w0.heap.size WA w5 → (∀ e, e ≠ 102 → KeepT e WA w5) →
              Hid (∃ prv', RWk w0 (w5.setCell ⟨g, 7, none⟩ v5) g bs n ⟨root, next, ps⟩ (.slice a ps.length c) prv' ⟨s1.seen, some f, s1.prs ++ (npr nd).take (k + 1)⟩ cnd ∧ KeepW U (w5.setCell ⟨g, 7, none⟩ v5)) ∧ w5.frozen? ⟨g, 7, none⟩ = false ∧ w5.cell? ⟨g, 7, none⟩ = some (.slice pa lp2 pc) ∧ w5.cell? ⟨nb, 1, none⟩ = some (.slice (some ⟨b, off, none⟩) K kc) ∧ w5.cell? ⟨b, off + k, none⟩ = some (st y1) ∧ w5.cell? ⟨nb, 2, none⟩ = some (.slice (some ⟨b2, off2, none⟩) V vc) ∧ w5.cell? ⟨b2, off2 + k, none⟩ = some (st y2) := fun v5 w5 o5 b5 k5 => by
             have N5 := HN.out.keep (R1.out.2.trans ((KeepW.below bA).trans fun e _ _ h3 => k5 e h3))
             obtain ⟨_, n1, n2, _⟩ := N5.cell
             obtain ⟨b', off', e', hc'⟩ := N5.own.keys.rd.strAt hy1.out
             obtain ⟨b2', off2', e2', hc2'⟩ := N5.own.vals.rd.strAt hy2.out
             simp only [Option.some.injEq, Addr.mk.injEq, and_true] at e' e2'
             obtain ⟨rfl, rfl⟩ := e'
             obtain ⟨rfl, rfl⟩ := e2'
             obtain ⟨a1, a2⟩ := R1.out.1.app bA o5 b5 k5 hok2.out
             have hbx := k5 _ (by decide) _ _ _ (R1.out.1.to bA).box
             refine ⟨⟨v5, ?_, R1.out.2.trans a2⟩, frozN hbx 7, ?_, n1, hc', n2, hc2'⟩
             ·rw [hpr.out, ← List.append_assoc]; exact a1
             ·rw [hlp2]; exact cellN hbx rfl
            rw [hWA] at nc0 nc1 hOW hsz FIN
            replace nc0 := hide nc0
            replace nc1 := hide nc1
            replace hOW := hide hOW
            replace hsz := hide hsz
            replace FIN := hide FIN
            replace hbd2 := hide hbd2
            clear hWA hwa DA bA0 sA bA hbd
            replace hlp2 := hide hlp2
            go_wp2
            refine wp_region_mid (fun w' => w'.cell? ⟨g, 7, none⟩ = some (.slice pa lp2 pc) ∧ w'.cell? ⟨nb, 1, none⟩ = some (.slice (some ⟨b, off, none⟩) K kc) ∧ w'.cell? ⟨b, off + k, none⟩ = some (st y1) ∧ w'.cell? ⟨nb, 2, none⟩ = some (.slice (some ⟨b2, off2, none⟩) V vc) ∧ w'.cell? ⟨b2, off2 + k, none⟩ = some (st y2)) 15 18 mixed (by kernel_rfl) (fun _ _ _ _ h => h) ⟨C7, E1, hc, E2, hc2⟩ ?_
            dsimp only [List.take, List.drop]
            iterate 15
             refine take_one (v := ?_) (by rfl) ?_ ?_
             rotate_left
             ·rintro w' ⟨s1, s2, s3, s4, s5⟩
              go_simp
              try with_reducible rfl
             try simp only [Act.put, List.setIfInBounds_toArray, List.set_cons_zero, List.set_cons_succ]
            refine mid_one fun K hK => ?_
            rw [if_pos (by rfl)]
            go_simp
            refine hK _ _ ⟨C7, E1, hc, E2, hc2⟩ ?_
            clear hK K
            refine mid_one fun K hK => ?_
            rw [if_pos (by rfl)]
            go_simp
            refine hK _ _ ⟨cellAl C7 _, cellAl E1 _, cellAl hc _, cellAl E2 _, cellAl hc2 _⟩ ?_
            clear hK K
            refine mid_one fun K hK => ?_
            refine step_appP rfl _ _ rfl w0.heap.size (.slice pa lp2 pc) (s1.prs ++ (npr nd).take k) (y1, y2) wr.heap.size rfl rfl hOW.out nc0.out nc1.out hbd2.out hsz.out ?_
            intro v5 w5 o5 b5 k5
            obtain ⟨a5, c5, h5⟩ := (OwnP.rd o5).slice
            subst h5
            obtain ⟨F1, F2, F3, F4, F5, F6, F7⟩ := FIN.out _ w5 o5 b5 k5
            generalize (s1.prs ++ (npr nd).take k ++ [(y1, y2)]).length = m5 at *
            refine hK _ _ ⟨F3, F4, F5, F6, F7⟩ ?_
            clear hK K o5 b5 k5 FIN
            show wpList _ _ _ _ _ _
            go_wp2
            go_roundw
            case rel => exact ⟨k + 1, by omega, by go_num, F1⟩
            case measure => simp [intOf]; omega
           ·have hq : ¬ (k : Int) < (K : Int) := by omega
            have ht : (npr nd).take k = npr nd := List.take_of_length_le (by unfold npr; rw [List.length_zip, ← hK.out]; omega)
            rw [ht] at r1
            have R1 := hide (And.intro r1 r2)
            clear ht r1 r2 HN2
            go_wp2
            (try simp only [Exit.inBlock, Exit.then])
            refine bodyPost_ret (results_none rfl _ _ _) rfl ?_
            refine ⟨rfl, _, _, _, R1.out.1, H3.out.trans R1.out.2, (fun h => by cases h), fun _ => ?_⟩
            rw [hW.out, hs1'.out]
            cases hcc : cnd with
            | true => exact .inr ⟨if_pos (of_decide_eq_true (hcnd.out.symm.trans hcc)), rfl⟩
            | false => exact .inl ⟨if_neg (of_decide_eq_false (hcnd.out.symm.trans hcc)), rfl⟩
       | false =>
        have hW := hide (wk_inner (f := f) hx.out hs1.out hd.out hall.out hlf)
        obtain ⟨s1, hs1'⟩ : ∃ s1 : Sw, s1 = ⟨(ni : Int) :: s.seen, s.dep, s.prs⟩ := ⟨_, rfl⟩
        rw [hlf] at E0
        rw [← hs1'] at H3 hW
        have hDK : Hid (D = K + 1 ∧ 1 ≤ K) := by
         have h1 := hok.out.2.1
         unfold ncount at h1
         rw [hlf, if_neg (by decide), ← hK.out, ← hD.out] at h1
         exact ⟨h1.2.2, h1.2.1⟩
        have hD3 : D ≤ 301 := by have := hDK.out; omega
        obtain ⟨dp, hdp⟩ : ∃ d : Int, dep + 1 = d := ⟨_, rfl⟩
        have hdw : IntKind.i64.wrap dp = dp := IntWalk.i64_in _ (by have := hdep.out; omega)
        have hde : Hid (dp = 17 - (f : Int)) := by show _ = _; have := hdep.out; omega
        replace hlf := hide hlf
        replace hs1' := hide hs1'
        replace hall := hide hall
        clear C0 C1 C2 C3 C4 C5 C6 C7 CF
        go_wp2
        go_loopw [18] (fun p wr => ∃ k : Nat, k ≤ D ∧ p = .int .i64 k ∧ Hid (∃ prv' s' bad', RWk w0 wr g bs n ⟨root, next, ps⟩ (.slice a ps.length c) prv' s' bad' ∧ KeepW U wr ∧ WkR (wkK (wk ps f) nd lo hi 0 (nd.kids.take k) s1) false s' bad')) (fun p _ => D - (intOf p).toNat)
        case atStart => exact ⟨0, Nat.zero_le _, rfl, hide ⟨_, _, _, H3.out.1, KeepW.refl _, ⟨(fun h => by cases h), fun _ => .inl ⟨rfl, rfl⟩⟩⟩⟩
        case round =>
         obtain ⟨k, hk, rfl, hI⟩ := hrel
         obtain ⟨pv2, s2, bad2, r1, r2, r3⟩ := hI.out
         clear hI
         have HN2 := HN.out.keep r2
         clear E0 E1 E2 E3
         obtain ⟨E0, E1, E2, E3⟩ := HN2.cell
         by_cases hlt : k < D
         ·have hq : (k : Int) < (D : Int) := by omega
          obtain ⟨kid, hkid⟩ := some_el nd.kids (k := k) (by rw [← hD.out]; exact hlt)
          obtain ⟨b3, off3, rfl, hc3⟩ := HN2.own.kids.rd.intAt hkid
          have KC := hide (ih.out (by omega) wr pv2 s2 bad2 kid (kidLo nd lo k) (kidHi nd hi k) r1)
          have hst : Hid (wkK (wk ps f) nd lo hi 0 (nd.kids.take (k + 1)) s1 = (wkK (wk ps f) nd lo hi 0 (nd.kids.take k) s1).bind (wk ps f kid (kidLo nd lo k) (kidHi nd hi k))) := wkK_take _ _ _ _ _ _ hkid
          replace hkid := hide hkid
          have R3 := hide (And.intro r2 r3)
          have HN2' := hide HN2
          clear r1 r2 r3 HN2
          go_upto_if 168 with fail
          go_cut [19] from 157 to 196 (fun v wx => v = st (kidLo nd lo k) ∧ wr = wx)
          case first =>
           by_cases hk0 : k = 0
           ·have hq2 : ¬ (0 : Int) < (k : Int) := by omega
            have hl : Hid (kidLo nd lo k = lo) := by show _ = _; rw [kidLo, if_pos hk0]
            replace hk0 := hide hk0
            go_wp2_with fail
            go_meet
            case rel => exact ⟨by rw [hl.out], rfl⟩
           ·have hq2 : (0 : Int) < (k : Int) := by omega
            obtain ⟨j, hj⟩ : ∃ j, k = j + 1 := ⟨k - 1, by omega⟩
            obtain ⟨y, hy⟩ := some_el nd.keys (k := j) (by have := hDK.out; rw [← hK.out]; omega)
            obtain ⟨b4, off4, rfl, hc4⟩ := HN2'.out.own.keys.rd.strAt hy
            have hl : Hid (kidLo nd lo k = y) := by show _ = _; rw [kidLo, if_neg hk0, hj, Nat.add_sub_cancel, List.getD_eq_getElem?_getD, hy]; rfl
            have hj1 : (k : Int) - 1 = (j : Int) := by omega
            have hj2 : IntKind.i64.wrap (j : Int) = (j : Int) := IntWalk.i64_in _ (by have := hDK.out; omega)
            have hj3 : (j : Int) < (K : Int) := by have := hDK.out; omega
            replace hk0 := hide hk0
            replace hj := hide hj
            replace hy := hide hy
            go_wp2_with fail
            go_meet
            case rel => exact ⟨by rw [hl.out], rfl⟩
          case rest =>
           obtain ⟨rfl, rfl⟩ := hcut
           go_upto_if 179 with fail
           go_cut [20, 21] from 157 to 196 (fun v v2 wx => v = st ((kidHi nd hi k).getD []) ∧ v2 = .bool (kidHi nd hi k).isSome ∧ wr = wx)
           case first =>
            by_cases hkK : k < K
            ·have hq2 : (k : Int) < (K : Int) := by omega
             obtain ⟨y, hy⟩ := some_el nd.keys (k := k) (by rw [← hK.out]; exact hkK)
             obtain ⟨b4, off4, rfl, hc4⟩ := HN2'.out.own.keys.rd.strAt hy
             have hl : Hid (kidHi nd hi k = some y) := by show _ = _; rw [kidHi, if_pos (by rw [← hK.out]; exact hkK), List.getD_eq_getElem?_getD, hy]; rfl
             replace hy := hide hy
             go_wp2_with fail
             go_meet
             case rel => exact ⟨by rw [hl.out]; rfl, by rw [hl.out]; rfl, rfl⟩
            ·have hq2 : ¬ (k : Int) < (K : Int) := by omega
             have hl : Hid (kidHi nd hi k = hi) := by show _ = _; rw [kidHi, if_neg (by rw [← hK.out]; exact hkK)]
             go_wp2_with fail
             go_meet
             case rel => exact ⟨by rw [hl.out, hhs.out], by rw [hl.out, hhb.out], rfl⟩
           case rest =>
            obtain ⟨rfl, rfl, rfl⟩ := hcut
            rw [← hde.out] at KC
            go_wp2_with fail
            refine KC.out.mono ?_
            rintro e w7 ⟨rfl, pv7, s7, bad7, r1, r2, r3⟩
            have hI' : Hid (∃ prv' s' bad', RWk w0 w7 g bs n ⟨root, next, ps⟩ (.slice a ps.length c) prv' s' bad' ∧ KeepW U w7 ∧ WkR (wkK (wk ps f) nd lo hi 0 (nd.kids.take (k + 1)) s1) false s' bad') := by
             refine ⟨_, _, _, r1, R3.out.1.trans r2, fun h => (by cases h), fun _ => ?_⟩
             rw [hst.out]
             rcases R3.out.2.2 rfl with ⟨h1, h2⟩ | ⟨h1, h2⟩
             ·rw [h1]; exact r3.2 h2
             ·rw [h1]; exact .inr ⟨rfl, r3.1 h2⟩
            clear r1 r2 r3 KC
            go_wp2
            go_roundw
            case rel => exact ⟨k + 1, by omega, by go_num, hI'⟩
            case measure => simp [intOf]; omega
         ·have hq : ¬ (k : Int) < (D : Int) := by omega
          have ht : nd.kids.take k = nd.kids := List.take_of_length_le (by rw [← hD.out]; omega)
          rw [ht, ← hW.out] at r3
          have R1 := hide (And.intro r1 (And.intro r2 r3))
          clear r1 r2 r3 ht HN2
          go_wp2
          (try simp only [Exit.inBlock, Exit.then])
          first
           | refine bodyPost_ret (results_none rfl _ _ _) rfl ?_
           | refine bodyPost_end (results_none rfl _ _ _) rfl ?_
          exact ⟨rfl, _, _, _, R1.out.1, H3.out.2.trans R1.out.2.1, R1.out.2.2⟩
end Go.Proofs.YtpiikmkajckccaaGreat

namespace Go.Proofs.YtpiikmkajckccaaGreat
open Go.RowKit
theorem infoBoolT : (Tryz.prog.info? 4).map (fun i => (i.zero, i.size, i.bytes)) = some (some (.bool false), 1, 1) := by kernel_rfl
theorem make_boolsT {n : Nat} (hn : n ≤ 281474976710656) (u : World) : (Instr.makeSlice 77 (.int .i64 (n : Int)) (.int .i64 (n : Int))).run Tryz.prog u =
      .ok (.slice (some ⟨u.heap.size, 0, none⟩) n n) (u.alloc (.cells (madeCells #[.bool false] n) 4)) := by
 obtain ⟨i0, hi, hz0, hz1, hz2⟩ := info_parts infoBoolT
 have h := run_make (P := Tryz.prog) u 77 4 i0 (.bool false) Tryz.underlying77 hi hz0 .i64 .i64 (n : Int) (n : Int) (by omega) (Int.le_refl _) (by rw [hz2]; omega) (by omega)
 simpa [hz1, Value.cells] using h
theorem SeenW.made (w : World) (n : Nat) (h : n ≤ 281474976710656) : SeenW w.heap.size n [] (w.alloc (.cells (madeCells #[.bool false] n) 4)) := by
 have := World.ownsRow_lit (base := w.heap.size) (e := 4) (size := 1) w (madeCells #[.bool false] n) n (Nat.le_refl _) (by unfold maxLen; omega) (by simp [madeCells])
 rw [toList_madeCells_one] at this
 show World.ownsRow _ _ _ _ _ _ _
 rw [useen_nil, List.map_replicate]
 exact this
def WksR (w w' : World) (t : Tr) (pv : Value) (n : Nat) (e : Ending) : Prop :=
 ∃ g bs prv s bad, e = .returned (.pointer (some ⟨g, 0, none⟩)) ∧ RWk w w' g bs n t pv prv s bad ∧ ((twalk t = some s ∧ bad = false) ∨ (twalk t = none ∧ bad = true))
set_option maxRecDepth 100000 in
set_option maxHeartbeats 2000000 in
theorem rwalks_any (w : World) (t : Tr) (pv : Value) (n : Nat) (hn : (n : Int) = t.next + 1) (hN : 1 ≤ t.next ∧ t.next ≤ 65536) (hU : tups t.next t.pages t.pages.length) (h : RdC w pv t.pages) :
  Calls Tryz.prog 27 #[tv t pv] w fun e w' => WksR w w' t pv n e := by
 have hmk := fun u => make_boolsT (n := n) (by omega) u
 have KG := hide (rgo_any w t pv)
 obtain ⟨root, next, ps⟩ := t
 obtain ⟨a, c, rfl⟩ := h.slice
 obtain ⟨W, hW, D, bW, sW⟩ := boxedN w #[.int .i64 root, .int .i64 next, .slice a ps.length c] 24
 obtain ⟨⟨D0, D1, D2⟩, _⟩ := cells3p D
 dsimp only [tv] at *
 have hnw : IntKind.i64.wrap (n : Int) = (n : Int) := IntWalk.i64_in _ (by omega)
 have hE := hide (And.intro D0 (And.intro D1 D2))
 rw [hW] at D0 D1 D2
 have hn2 : next + 1 = (n : Int) := hn.symm
 replace hn := hide hn
 go_enter Tryz.func27, Tryz.ntmps27
 go_wp2
 rw [← hW]
 replace hW := hide hW
 obtain ⟨D0, D1, D2⟩ := hE.out
 go_region
 obtain ⟨X1, hX1⟩ : ∃ X, X = W.alloc (.cells (madeCells #[.bool false] n) 4) := ⟨_, rfl⟩
 obtain ⟨X2, hX2, DX, bX2, sX2⟩ := boxedN X1 #[.int .i64 root, .int .i64 next, .slice a ps.length c, .slice (some ⟨w.heap.size + 1, 0, none⟩) n n, .bool false, .int .i64 0, .bool false, .slice none 0 0] 79
 have s1 : X1.heap.size = w.heap.size + 1 + 1 := by rw [hX1]; simp [sW]
 have b1 : Below W.heap.size W X1 := by rw [hX1]; exact (Below.refl _ _).alloc (Nat.le_refl _) _
 have sw0 : SeenW (w.heap.size + 1) n [] X1 := by rw [hX1, ← sW]; exact SeenW.made W n (by have := hn.out; omega)
 have bw := bW.trans ((b1.mono bW.size).trans (bX2.mono (by omega)))
 have R0 : RWk w X2 (w.heap.size + 1 + 1) (w.heap.size + 1) n ⟨root, next, ps⟩ (.slice a ps.length c) (.slice none 0 0) ⟨[], none, []⟩ false :=
  ⟨by rw [← s1]; exact DX, rows_to sw0 bX2, World.ownsRow_nil _ _ _ _, h, ⟨List.nodup_nil, (fun i hi => by cases hi), Nat.zero_le _⟩, bw, by omega, by omega⟩
 have bd : Below X2.heap.size X2 X2.drew := below_drewN' X2 1 _
 replace R0 := R0.to bd
 have HB := hide (bw.trans (bd.mono bw.size))
 have e0 := (HB.out.cell (p := ⟨w.heap.size, 0, none⟩))
 have E0 : X2.drew.cell? ⟨w.heap.size, 0, none⟩ = some (.int .i64 root) := by
  have q : Below W.heap.size W X2.drew := (b1.trans (bX2.mono b1.size)).trans (bd.mono (b1.trans (bX2.mono b1.size)).size)
  exact (q.cell (cell_lt D0)).trans D0
 rw [← hX1]
 rw [← hX2]
 clear e0 D0 D1 D2 hE
 have RR := hide R0
 have KC := hide (KG.out (w.heap.size + 1 + 1) (w.heap.size + 1) n hn.out hN hU 16 (Nat.le_refl _) X2.drew _ _ false root [] none R0)
 clear R0 bw bd DX bX2 sX2 s1 b1 sw0 hX1 hX2 KG hmk D bW sW hn2 hnw
 generalize X2.drew = Y at *
 replace hU := hide hU
 replace h := hide h
 replace hN := hide hN
 by_cases r0 : root = 0
 ·have hr : Hid (twalk ⟨root, next, ps⟩ = some ⟨[], none, []⟩) := by show _ = _; unfold twalk; rw [if_pos r0]
  have r1 : (root != 0) = false := by simp [r0]
  replace r0 := hide r0
  go_wp2
  go_ret
  exact ⟨_, _, _, _, _, rfl, RR.out, .inl ⟨hr.out, rfl⟩⟩
 ·have hr : Hid (twalk ⟨root, next, ps⟩ = wk ps 16 root [] none ⟨[], none, []⟩) := by show _ = _; unfold twalk; rw [if_neg r0]
  have r1 : (root != 0) = true := by simp [r0]
  replace r0 := hide r0
  go_wp2_with fail
  refine KC.out.mono ?_
  rintro e w7 ⟨rfl, pv7, s7, bad7, q1, q2, q3⟩
  have Q := hide (And.intro q1 q3)
  clear q1 q2 q3 KC
  go_wp2
  go_ret
  refine ⟨_, _, _, _, _, rfl, Q.out.1, ?_⟩
  rw [hr.out]
  exact Q.out.2.2 rfl
def PrsR (B : Nat) (w' : World) (o : Option (List Pr)) (v : Value) (err : Int) : Prop := (∃ l, o = some l ∧ err = 0 ∧ OwnP B w' v l) ∨ (o = none ∧ err = 9 ∧ v = .slice none 0 0)
set_option maxRecDepth 100000 in
set_option maxHeartbeats 2000000 in
theorem rprs_any (w : World) (t : Tr) (pv : Value) (h : RdC w pv t.pages) :
  Calls Tryz.prog 54 #[tv t pv] w fun e w' => ∃ v err, e = .returned (.tuple #[v, .int .i64 err]) ∧ PrsR w.heap.size w' (tprs t) v err ∧ Below w.heap.size w w' := by
 obtain ⟨root, next, ps⟩ := t
 obtain ⟨a, c, rfl⟩ := h.slice
 obtain ⟨W, hW, D, bW, sW⟩ := boxedN w #[.int .i64 root, .int .i64 next, .slice a ps.length c] 24
 dsimp only [tv] at *
 have KN := hide (rnumbers_any W (.slice a ps.length c) ⟨root, next, ps⟩ (h.to0 bW))
 obtain ⟨⟨D0, D1, D2⟩, _⟩ := cells3p D
 have hE := hide (And.intro D0 (And.intro D1 D2))
 have HB := hide bW
 have HH := hide h
 rw [hW] at D0 D1 D2 KN
 dsimp only [tv] at KN
 clear h bW D sW
 go_enter Tryz.func54, Tryz.ntmps54
 go_wp2_with fail
 refine KN.out.mono ?_
 rintro e w1 ⟨rfl, b1⟩
 rw [← hW] at b1
 replace hW := hide hW
 have B1 := hide (HB.out.trans (b1.mono HB.out.size))
 have E1 : Hid (w1.cell? ⟨w.heap.size, 0, none⟩ = some (.int .i64 root) ∧ w1.cell? ⟨w.heap.size, 1, none⟩ = some (.int .i64 next) ∧ w1.cell? ⟨w.heap.size, 2, none⟩ = some (.slice a ps.length c)) :=
  ⟨(b1.cell (cell_lt hE.out.1)).trans hE.out.1, (b1.cell (cell_lt hE.out.2.1)).trans hE.out.2.1, (b1.cell (cell_lt hE.out.2.2)).trans hE.out.2.2⟩
 clear b1 KN hE D0 D1 D2
 by_cases hT : TNum ⟨root, next, ps⟩
 ·have q1 : decide (TNum ⟨root, next, ps⟩) = true := decide_eq_true hT
  have hr : Hid (tprs ⟨root, next, ps⟩ = (twalk ⟨root, next, ps⟩).bind fun s => if s.prs.length ≤ 4096 then some s.prs else none) := by show _ = _; unfold tprs; rw [if_pos hT]
  obtain ⟨n, hn⟩ : ∃ n : Nat, (n : Int) = next + 1 := ⟨(next + 1).toNat, by have := hT.1; dsimp only at this; omega⟩
  have KW := hide (rwalks_any w1 ⟨root, next, ps⟩ (.slice a ps.length c) n hn ⟨hT.1, hT.2.1⟩ hT.2.2.1 (HH.out.to0 B1.out))
  dsimp only [tv] at KW
  replace hT := hide hT
  replace hn := hide hn
  obtain ⟨D0, D1, D2⟩ := E1.out
  rw [q1]
  clear q1
  go_wp2_with fail
  refine KW.out.mono ?_
  rintro e w2 ⟨g, bs, prv, s, bad, rfl, q1, q2⟩
  have Q := hide (And.intro q1 q2)
  have B2 := hide (B1.out.trans (q1.bel.mono B1.out.size))
  obtain ⟨⟨_, _, _, _⟩, ⟨C4, _, _, C7⟩, CF⟩ := q1.cell
  obtain ⟨pa, pc, hpv⟩ := q1.prs.rd.slice
  subst hpv
  clear q1 q2 KW
  cases bad with
  | true =>
   have hz : Hid (tprs ⟨root, next, ps⟩ = none) := by
    show _ = _
    rw [hr.out]
    rcases Q.out.2 with ⟨_, q⟩ | ⟨q, _⟩
    ·cases q
    ·rw [q]; rfl
   go_wp2
   go_ret2
   exact ⟨_, _, rfl, .inr ⟨hz.out, rfl, rfl⟩, B2.out⟩
  | false =>
   have hs : Hid (twalk ⟨root, next, ps⟩ = some s) := by
    rcases Q.out.2 with ⟨q, _⟩ | ⟨_, q⟩
    ·exact q
    ·cases q
   obtain ⟨m, hm⟩ : ∃ m, m = s.prs.length := ⟨_, rfl⟩
   rw [← hm] at C7
   replace hm := hide hm
   by_cases hgt : (m : Int) > 4096
   ·have hz : Hid (tprs ⟨root, next, ps⟩ = none) := by
     show _ = _
     rw [hr.out, hs.out]
     show (if s.prs.length ≤ 4096 then _ else _) = _
     rw [if_neg (by rw [← hm.out]; omega)]
    go_wp2
    go_ret2
    exact ⟨_, _, rfl, .inr ⟨hz.out, rfl, rfl⟩, B2.out⟩
   ·have hz : Hid (tprs ⟨root, next, ps⟩ = some s.prs) := by
     show _ = _
     rw [hr.out, hs.out]
     show (if s.prs.length ≤ 4096 then _ else _) = _
     rw [if_pos (by rw [← hm.out]; omega)]
    have O2 : Hid (OwnP w.heap.size w2 (.slice pa m pc) s.prs) := by rw [hm.out]; exact rows_mono Q.out.1.prs B1.out.size
    go_wp2
    go_ret2
    exact ⟨_, _, rfl, .inl ⟨_, hz.out, rfl, O2.out⟩, B2.out⟩
 ·have q1 : decide (TNum ⟨root, next, ps⟩) = false := decide_eq_false hT
  have hr : Hid (tprs ⟨root, next, ps⟩ = none) := by show _ = _; unfold tprs; rw [if_neg hT]
  replace hT := hide hT
  rw [q1]
  clear q1
  go_wp2
  go_ret2
  exact ⟨_, _, rfl, .inr ⟨hr.out, rfl, rfl⟩, B1.out⟩
end Go.Proofs.YtpiikmkajckccaaGreat

namespace Go.Proofs.YtpiikmkajckccaaGreat
open Go.RowKit
def pget (l : List Pr) (k : Str) : Option Str := (l.find? fun y => y.1 == k).map (·.2)
def tcheck (t : Tr) : Int := match tprs t with
 | none => 9
 | some _ => 0
theorem ret_i {a b : Int} (h : a = b) : Ending.returned (.int .i64 a) = .returned (.int .i64 b) := by rw [h]
theorem pget_hit {l : List Pr} {i : Nat} {y : Pr} {k : Str} (hy : l[i]? = some y) (h : (y.1 == k) = true) (hb : ∀ t z, t < i → l[t]? = some z → (z.1 == k) = false) : pget l k = some y.2 := by
 unfold pget
 have : l.find? (fun y => y.1 == k) = some y := by
  induction l generalizing i with
  | nil => simp at hy
  | cons x r ih =>
   cases i with
   | zero =>
    have : x = y := by simpa using hy
    subst this
    simp [List.find?, h]
   | succ i =>
    have h0 := hb 0 x (by omega) rfl
    rw [List.find?_cons, h0]
    exact ih (i := i) (by simpa using hy) (fun t z ht hz => hb (t + 1) z (by omega) (by simpa using hz))
 rw [this]; rfl
theorem pget_none {l : List Pr} {k : Str} (hb : ∀ (t : Nat) z, l[t]? = some z → (z.1 == k) = false) : pget l k = none := by
 unfold pget
 have : l.find? (fun y => y.1 == k) = none := by
  rw [List.find?_eq_none]
  intro z hz
  obtain ⟨t, ht, e⟩ := List.getElem_of_mem hz
  simp [hb t z (by rw [List.getElem?_eq_getElem ht, e])]
 rw [this]; rfl
set_option maxRecDepth 100000 in
set_option maxHeartbeats 2000000 in
theorem rcheck10_any (w : World) (t : Tr) (pv : Value) (h : RdC w pv t.pages) : Calls Tryz.prog 26 #[tv t pv] w fun e w' => e = .returned (.int .i64 (tcheck t)) ∧ Below w.heap.size w w' := by
 obtain ⟨W, hW, D, bW, sW⟩ := boxedN w #[.int .i64 t.root, .int .i64 t.next, pv] 24
 have KN := hide (rprs_any W t pv (h.to0 bW))
 obtain ⟨a, c, rfl⟩ := h.slice
 obtain ⟨⟨D0, D1, D2⟩, _⟩ := cells3p D
 have HB := hide bW
 rw [hW] at D0 D1 D2 KN
 dsimp only [tv] at KN ⊢
 clear h bW D sW
 generalize t.root = root at *
 generalize t.next = next at *
 generalize t.pages.length = L at *
 go_enter Tryz.func26, Tryz.ntmps26
 go_wp2_with fail
 refine KN.out.mono ?_
 rintro e w1 ⟨v, err, rfl, hp, b1⟩
 rw [← hW] at b1
 have B1 := hide (HB.out.trans (b1.mono HB.out.size))
 have hc : Hid (err = tcheck t) := by
  show _ = _
  unfold tcheck
  rcases hp with ⟨l, h1, h2, _⟩ | ⟨h1, h2, _⟩
  ·rw [h1, h2]
  ·rw [h1, h2]
 clear b1 hp KN HB hW D0 D1 D2
 go_wp2
 go_ret
 exact ⟨ret_i hc.out, B1.out⟩
end Go.Proofs.YtpiikmkajckccaaGreat

namespace Go.Proofs.YtpiikmkajckccaaGreat
def prsOf (l : List Wrt) : Nat → Int → List Pr
 | 0, _ => []
 | f + 1, id => match tpage l id with
  | none => []
  | some x => if (ndec x).1.leaf = true then npr (ndec x).1 else (ndec x).1.kids.flatMap (prsOf l f)
def WOk (l : List Wrt) (S : List Int) : Nat → Int → Str → Option Str → Prop
 | 0, _, _, _ => False
 | f + 1, id, lo, hi => id ∈ S ∧ ∃ x nd, tpage l id = some x ∧ ndec x = (nd, 0) ∧ nd.keys.all (kin lo hi) = true ∧ (nd.leaf = true → nd.keys ≠ []) ∧
   (nd.leaf = false → ∀ (i : Nat) kid, nd.kids[i]? = some kid → WOk l S f kid (kidLo nd lo i) (kidHi nd hi i))
theorem WOk.mono {l : List Wrt} {S S' : List Int} (hS : ∀ i ∈ S, i ∈ S') : ∀ {f : Nat} {id : Int} {lo : Str} {hi : Option Str}, WOk l S f id lo hi → WOk l S' f id lo hi
 | 0, _, _, _, h => h
 | f + 1, id, lo, hi, ⟨h0, x, nd, h1, h2, h3, h4, h5⟩ => ⟨hS _ h0, x, nd, h1, h2, h3, h4, fun hl i kid hk => WOk.mono hS (h5 hl i kid hk)⟩
theorem prsOf_leaf {l : List Wrt} {f : Nat} {id : Int} {x : List UInt8} {nd : Nd} (h1 : tpage l id = some x) (h2 : ndec x = (nd, 0)) (hl : nd.leaf = true) : prsOf l (f + 1) id = npr nd := by
 conv => lhs; unfold prsOf
 rw [h1]
 simp [h2, hl]
theorem prsOf_inner {l : List Wrt} {f : Nat} {id : Int} {x : List UInt8} {nd : Nd} (h1 : tpage l id = some x) (h2 : ndec x = (nd, 0)) (hl : nd.leaf = false) : prsOf l (f + 1) id = nd.kids.flatMap (prsOf l f) := by
 conv => lhs; unfold prsOf
 rw [h1]
 simp [h2, hl]
theorem wkK_ok {l : List Wrt} {f : Nat} (ih : ∀ (id : Int) (lo : Str) (hi : Option Str) (s s' : Sw), wk l f id lo hi s = some s' → (∀ i ∈ s.seen, i ∈ s'.seen) ∧ WOk l s'.seen f id lo hi ∧ s'.prs = s.prs ++ prsOf l f id) (n : Nd) (lo : Str) (hi : Option Str) :
  ∀ (ks : List Int) (i : Nat) (s s' : Sw), wkK (wk l f) n lo hi i ks s = some s' → (∀ j ∈ s.seen, j ∈ s'.seen) ∧ (∀ (j : Nat) kid, ks[j]? = some kid → WOk l s'.seen f kid (kidLo n lo (i + j)) (kidHi n hi (i + j))) ∧ s'.prs = s.prs ++ ks.flatMap (prsOf l f)
 | [], i, s, s', h => by
  simp only [wkK, Option.some.injEq] at h
  subst h
  exact ⟨fun _ h => h, fun j kid h => by simp at h, by simp⟩
 | k :: r, i, s, s', h => by
  simp only [wkK] at h
  cases h1 : wk l f k (kidLo n lo i) (kidHi n hi i) s with
  | none => rw [h1] at h; cases h
  | some s1 =>
   rw [h1] at h
   obtain ⟨a1, a2, a3⟩ := ih _ _ _ _ _ h1
   obtain ⟨b1, b2, b3⟩ := wkK_ok ih n lo hi r (i + 1) s1 s' h
   refine ⟨fun j hj => b1 j (a1 j hj), fun j kid hk => ?_, by rw [b3, a3]; simp⟩
   cases j with
   | zero =>
    have : k = kid := by simpa using hk
    subst this
    exact a2.mono b1
   | succ j =>
    have := b2 j kid (by simpa using hk)
    rw [show i + (j + 1) = i + 1 + j from by omega]
    exact this
theorem wk_ok {l : List Wrt} : ∀ (f : Nat) (id : Int) (lo : Str) (hi : Option Str) (s s' : Sw), wk l f id lo hi s = some s' → (∀ i ∈ s.seen, i ∈ s'.seen) ∧ WOk l s'.seen f id lo hi ∧ s'.prs = s.prs ++ prsOf l f id
 | 0, id, lo, hi, s, s', h => by cases h
 | f + 1, id, lo, hi, s, s', h => by
  cases hx : tpage l id with
  | none => rw [wk_none hx] at h; cases h
  | some x =>
   by_cases hs : id ∈ s.seen
   ·rw [wk_seen hs] at h; cases h
   ·by_cases he : (ndec x).2 = 0
    ·obtain ⟨nd, hnd⟩ : ∃ nd, nd = (ndec x).1 := ⟨_, rfl⟩
     have hd : ndec x = (nd, 0) := by rw [hnd, ← he]
     cases ha : nd.keys.all (kin lo hi) with
     | false =>
      unfold wk at h
      rw [hx] at h
      simp [hs, hd, ha] at h
     | true =>
      cases hl : nd.leaf with
      | true =>
       rw [wk_leaf hx hs hd ha hl] at h
       split at h
       ·cases h
       ·rename_i hc
        simp only [Option.some.injEq] at h
        subst h
        refine ⟨fun i hi => List.mem_cons_of_mem _ hi, ⟨List.mem_cons_self .., x, nd, hx, hd, ha, fun _ h0 => hc (.inl h0), fun h0 => by rw [hl] at h0; cases h0⟩, ?_⟩
        rw [prsOf_leaf hx hd hl]
      | false =>
       rw [wk_inner hx hs hd ha hl] at h
       obtain ⟨b1, b2, b3⟩ := wkK_ok (wk_ok f) nd lo hi nd.kids 0 _ s' h
       refine ⟨fun i hi => b1 i (List.mem_cons_of_mem _ hi), ⟨b1 _ (List.mem_cons_self ..), x, nd, hx, hd, ha, (fun h0 => by rw [hl] at h0; cases h0), fun _ i kid hk => ?_⟩, ?_⟩
       ·have := b2 i kid hk
        rw [Nat.zero_add] at this
        exact this
       ·rw [b3, prsOf_inner hx hd hl]
    ·rw [wk_bad hx he] at h; cases h
abbrev Rise (l : List Str) : Prop := l.Pairwise fun a b => slt a b = true
theorem rise_of {n : Nd} (h : nkeys n n.keys.length) : Rise n.keys := by
 apply List.pairwise_iff_getElem.2
 intro i j hi hj hij
 have := keys_lt h j i hij hj
 simpa [nkey, hi, hj] using this
theorem slt_le_lt {a b c : Str} (h1 : slt b a = false) (h2 : slt b c = true) : slt a c = true := by
 rcases slt_tot a b with h | h | h
 ·exact slt_trans h h2
 ·subst h; exact h2
 ·rw [h] at h1; cases h1
theorem slt_lt_le {a b c : Str} (h1 : slt a b = true) (h2 : slt c b = false) : slt a c = true := by
 rcases slt_tot b c with h | h | h
 ·exact slt_trans h1 h
 ·subst h; exact h1
 ·rw [h] at h2; cases h2
theorem slt_ne {a b : Str} (h : slt a b = true) : (a == b) = false := by
 apply Bool.eq_false_iff.2
 intro e
 have : a = b := by simpa using e
 subst this
 rw [slt_irr] at h; cases h
theorem slt_ne' {a b : Str} (h : slt b a = true) : (a == b) = false := by
 apply Bool.eq_false_iff.2
 intro e
 have : a = b := by simpa using e
 subst this
 rw [slt_irr] at h; cases h
theorem nfnd_zero (leaf : Bool) (key : Str) : ∀ l : List Str, (∀ x ∈ l, slt key x = true) → nfnd leaf key l = 0
 | [], _ => rfl
 | k :: r, h => by
  have h1 := h k (by simp)
  have h2 := slt_asym h1
  simp only [nfnd]
  rw [nfnd_zero leaf key r fun x hx => h x (List.mem_cons_of_mem _ hx), h2, slt_ne' h1]
  simp
theorem nfnd_inner (key : Str) : ∀ l : List Str, Rise l → ∃ i : Nat, nfnd false key l = (i : Int) ∧ i ≤ l.length ∧ (∀ (j : Nat) x, j < i → l[j]? = some x → slt key x = false) ∧ (∀ (j : Nat) x, i ≤ j → l[j]? = some x → slt key x = true)
 | [], _ => ⟨0, rfl, Nat.le_refl _, fun j x h => by omega, fun j x _ h => by simp at h⟩
 | k :: r, h => by
  obtain ⟨h1, h2⟩ := List.pairwise_cons.1 h
  cases hk : slt key k with
  | true =>
   have hall : ∀ x ∈ r, slt key x = true := fun x hx => slt_trans hk (h1 x hx)
   refine ⟨0, nfnd_zero false key _ (fun x hx => ?_), Nat.zero_le _, fun j x h => by omega, fun j x _ hx => ?_⟩
   ·rcases List.mem_cons.1 hx with rfl | hx
    ·exact hk
    ·exact hall x hx
   ·rcases List.mem_cons.1 (List.mem_of_getElem? hx) with rfl | hx
    ·exact hk
    ·exact hall x hx
  | false =>
   obtain ⟨i, a1, a2, a3, a4⟩ := nfnd_inner key r h2
   refine ⟨i + 1, ?_, by simp; omega, fun j x hj hx => ?_, fun j x hj hx => ?_⟩
   ·simp only [nfnd]
    have : (slt k key || (!false && k == key)) = true := by
     rcases slt_tot k key with h | h | h
     ·simp [h]
     ·simp [h]
     ·rw [h] at hk; cases hk
    rw [if_pos this, a1]
    omega
   ·cases j with
    | zero => have : k = x := by simpa using hx
              subst this; exact hk
    | succ j => exact a3 j x (by omega) (by simpa using hx)
   ·cases j with
    | zero => omega
    | succ j => exact a4 j x (by omega) (by simpa using hx)
theorem nfnd_leaf (key : Str) : ∀ l : List Str, Rise l → ∃ i : Nat, nfnd true key l = (i : Int) ∧ i ≤ l.length ∧ (nis key l = true → l[i]? = some key) ∧ (∀ (j : Nat) x, j < i → l[j]? = some x → slt x key = true) ∧ (∀ (j : Nat) x, i ≤ j → l[j]? = some x → slt x key = false)
 | [], _ => ⟨0, rfl, Nat.le_refl _, fun h => by simp [nis] at h, fun j x h => by omega, fun j x _ h => by simp at h⟩
 | k :: r, h => by
  obtain ⟨h1, h2⟩ := List.pairwise_cons.1 h
  cases hk : slt k key with
  | true =>
   obtain ⟨i, a1, a2, a3, a4, a5⟩ := nfnd_leaf key r h2
   refine ⟨i + 1, ?_, by simp; omega, fun hn => ?_, fun j x hj hx => ?_, fun j x hj hx => ?_⟩
   ·simp only [nfnd]
    rw [if_pos (by simp [hk]), a1]
    omega
   ·have : nis key r = true := by
     simp only [nis, List.any_cons, slt_ne hk, Bool.false_or] at hn
     exact hn
    simpa using a3 this
   ·cases j with
    | zero => have : k = x := by simpa using hx
              subst this; exact hk
    | succ j => exact a4 j x (by omega) (by simpa using hx)
   ·cases j with
    | zero => omega
    | succ j => exact a5 j x (by omega) (by simpa using hx)
  | false =>
   have hall : ∀ x ∈ r, slt key x = true := fun x hx => slt_le_lt hk (h1 x hx)
   refine ⟨0, ?_, Nat.zero_le _, fun hn => ?_, fun j x h => by omega, fun j x _ hx => ?_⟩
   ·simp only [nfnd]
    rw [if_neg (by simp [hk]), nfnd_zero true key r hall]
    rfl
   ·have hkk : k = key := by
     simp only [nis, List.any_cons, Bool.or_eq_true] at hn
     rcases hn with h | h
     ·simpa using h
     ·obtain ⟨x, hx, e⟩ := List.any_eq_true.1 h
      have : x = key := by simpa using e
      subst this
      have := hall x hx
      rw [slt_irr] at this; cases this
    simp [hkk]
   ·rcases List.mem_cons.1 (List.mem_of_getElem? hx) with rfl | hx
    ·exact hk
    ·exact slt_asym (hall x hx)
theorem kin_kid {n : Nd} {lo : Str} {hi : Option Str} (ha : n.keys.all (kin lo hi) = true) {i : Nat} (hi9 : i ≤ n.keys.length) {k : Str} (h : kin (kidLo n lo i) (kidHi n hi i) k = true) : kin lo hi k = true := by
 have hall := List.all_eq_true.1 ha
 simp only [kin, Bool.and_eq_true, Bool.not_eq_true'] at h ⊢
 refine ⟨?_, ?_⟩
 ·by_cases h0 : i = 0
  ·rw [kidLo, if_pos h0] at h; exact h.1
  ·have hlt : i - 1 < n.keys.length := by omega
   have hk := hall (n.keys[i - 1]) (List.getElem_mem hlt)
   simp only [kin, Bool.and_eq_true, Bool.not_eq_true'] at hk
   have e : kidLo n lo i = n.keys[i - 1] := by rw [kidLo, if_neg h0]; simp [hlt]
   rw [e] at h
   cases hc : slt k lo with
   | false => rfl
   | true =>
    have := slt_lt_le hc hk.1
    rw [this] at h; cases h.1
 ·by_cases h0 : i < n.keys.length
  ·have hk := hall (n.keys[i]) (List.getElem_mem h0)
   simp only [kin, Bool.and_eq_true, Bool.not_eq_true'] at hk
   have e : kidHi n hi i = some n.keys[i] := by rw [kidHi, if_pos h0]; simp [h0]
   rw [e] at h
   cases hi with
   | none => rfl
   | some b => exact slt_trans h.2 hk.2
  ·rw [kidHi, if_neg h0] at h
   exact h.2
theorem kids_len {nd : Nd} (hok : NOk nd) (hl : nd.leaf = false) : nd.kids.length = nd.keys.length + 1 := by
 have h1 := hok.2.1
 unfold ncount at h1
 rw [hl, if_neg (by decide)] at h1
 exact h1.2.2
theorem ndec_ok {x : List UInt8} {nd : Nd} (h : ndec x = (nd, 0)) : NOk nd := by have := (ndec_back (xs := x) (by rw [h])).1; rw [h] at this; exact this
theorem WOk.kin {l : List Wrt} {S : List Int} : ∀ {f : Nat} {id : Int} {lo : Str} {hi : Option Str}, WOk l S f id lo hi → ∀ y ∈ prsOf l f id, kin lo hi y.1 = true
 | 0, _, _, _, h, _, _ => h.elim
 | f + 1, id, lo, hi, ⟨h0, x, nd, h1, h2, h3, h4, h5⟩, y, hy => by
  cases hl : nd.leaf with
  | true =>
   rw [prsOf_leaf h1 h2 hl] at hy
   exact List.all_eq_true.1 h3 _ (List.of_mem_zip hy).1
  | false =>
   rw [prsOf_inner h1 h2 hl] at hy
   obtain ⟨kid, hk, hy⟩ := List.mem_flatMap.1 hy
   obtain ⟨i, hi9, e⟩ := List.getElem_of_mem hk
   have hk' : nd.kids[i]? = some kid := by rw [List.getElem?_eq_getElem hi9, e]
   have := WOk.kin (h5 hl i kid hk') y hy
   exact kin_kid h3 (by rw [kids_len (ndec_ok h2) hl] at hi9; omega) this
theorem pget_app (a b : List Pr) (k : Str) (h : ∀ y ∈ a, (y.1 == k) = false) : pget (a ++ b) k = pget b k := by
 unfold pget
 rw [List.find?_append]
 have : a.find? (fun y => y.1 == k) = none := by
  rw [List.find?_eq_none]
  intro y hy
  simp [h y hy]
 rw [this]; rfl
theorem pget_app' (a b : List Pr) (k : Str) (h : ∀ y ∈ b, (y.1 == k) = false) : pget (a ++ b) k = pget a k := by
 unfold pget
 rw [List.find?_append]
 have : b.find? (fun y => y.1 == k) = none := by
  rw [List.find?_eq_none]
  intro y hy
  simp [h y hy]
 rw [this]; simp
theorem pget_flat {g : Int → List Pr} {k : Str} : ∀ (ks : List Int) (i : Nat) (kid : Int), ks[i]? = some kid → (∀ (j : Nat) kd, j ≠ i → ks[j]? = some kd → ∀ y ∈ g kd, (y.1 == k) = false) → pget (ks.flatMap g) k = pget (g kid) k
 | [], i, kid, h, _ => by simp at h
 | a :: r, 0, kid, h, hn => by
  have : a = kid := by simpa using h
  subst this
  rw [List.flatMap_cons]
  apply pget_app'
  intro y hy
  obtain ⟨kd, hk, hy⟩ := List.mem_flatMap.1 hy
  obtain ⟨j, hj, e⟩ := List.getElem_of_mem hk
  exact hn (j + 1) kd (by omega) (by simp [hj, e]) y hy
 | a :: r, i + 1, kid, h, hn => by
  rw [List.flatMap_cons, pget_app _ _ _ (hn 0 a (by omega) rfl)]
  exact pget_flat r i kid (by simpa using h) fun j kd hj hk => hn (j + 1) kd (by omega) (by simpa using hk)
theorem seek {l : List Wrt} {S : List Int} {f : Nat} {nd : Nd} {lo : Str} {hi : Option Str} (hok : NOk nd) (hl : nd.leaf = false) (key : Str) (h5 : ∀ (i : Nat) kid, nd.kids[i]? = some kid → WOk l S f kid (kidLo nd lo i) (kidHi nd hi i)) :
  ∃ (i : Nat) (kid : Int), nfind nd key = (i : Int) ∧ nd.kids[i]? = some kid ∧ i < nd.kids.length ∧ pget (nd.kids.flatMap (prsOf l f)) key = pget (prsOf l f kid) key := by
 obtain ⟨i, a1, a2, a3, a4⟩ := nfnd_inner key nd.keys (rise_of hok.1)
 have hlen := kids_len hok hl
 obtain ⟨kid, hkid⟩ : ∃ kid, nd.kids[i]? = some kid := ⟨_, List.getElem?_eq_getElem (by omega)⟩
 refine ⟨i, kid, ?_, hkid, by omega, ?_⟩
 ·rw [nfind, if_pos ((ncheck_ok nd).2 hok), hl]; exact a1
 ·refine pget_flat nd.kids i kid hkid fun j kd hj hk y hy => ?_
  have hb := (h5 j kd hk).kin y hy
  have hjl := (List.getElem?_eq_some_iff.1 hk).1
  simp only [Go.Proofs.YtpiikmkajckccaaGreat.kin, Bool.and_eq_true, Bool.not_eq_true'] at hb
  rcases Nat.lt_or_gt_of_ne hj with h | h
  ·have hjk : j < nd.keys.length := by omega
   have e : kidHi nd hi j = some nd.keys[j] := by rw [kidHi, if_pos hjk]; simp [hjk]
   rw [e] at hb
   have h1 := a3 j nd.keys[j] h (List.getElem?_eq_getElem hjk)
   exact slt_ne (slt_lt_le hb.2 h1)
  ·have hjk : j - 1 < nd.keys.length := by omega
   have e : kidLo nd lo j = nd.keys[j - 1] := by rw [kidLo, if_neg (by omega)]; simp [hjk]
   rw [e] at hb
   have h1 := a4 (j - 1) nd.keys[j - 1] (by omega) (List.getElem?_eq_getElem hjk)
   exact slt_ne' (slt_lt_le h1 hb.1)
theorem seekLeaf {nd : Nd} (hr : Rise nd.keys) (hv : nd.vals.length = nd.keys.length) (key : Str) : ∃ i : Nat, nfnd true key nd.keys = (i : Int) ∧ i ≤ nd.keys.length ∧
  ((nis key nd.keys = true ∧ i < nd.vals.length ∧ pget (npr nd) key = nd.vals[i]?) ∨ (nis key nd.keys = false ∧ pget (npr nd) key = none)) := by
 obtain ⟨i, a1, a2, a3, a4, a5⟩ := nfnd_leaf key nd.keys hr
 refine ⟨i, a1, a2, ?_⟩
 cases hn : nis key nd.keys with
 | true =>
  have hk := a3 hn
  have hil := (List.getElem?_eq_some_iff.1 hk).1
  obtain ⟨v, hv2⟩ : ∃ v, nd.vals[i]? = some v := ⟨_, List.getElem?_eq_getElem (by omega)⟩
  refine .inl ⟨rfl, by omega, ?_⟩
  rw [hv2]
  have hz : (npr nd)[i]? = some (key, v) := by simp [npr, List.getElem?_zip_eq_some, hk, hv2]
  exact pget_hit hz (by simp) fun t z ht hz2 => by
   rw [npr, List.getElem?_zip_eq_some] at hz2
   exact slt_ne (a4 t z.1 ht hz2.1)
 | false =>
  refine .inr ⟨rfl, pget_none fun t z hz => ?_⟩
  rw [npr, List.getElem?_zip_eq_some] at hz
  simp only [nis, List.any_eq_false] at hn
  have := hn z.1 (List.mem_of_getElem? hz.1)
  simpa using this
end Go.Proofs.YtpiikmkajckccaaGreat

namespace Go.Proofs.YtpiikmkajckccaaGreat
def NdIs (l : List Wrt) (id : Int) (nd : Nd) : Prop := ∃ x, tpage l id = some x ∧ ndec x = (nd, 0)
def nodeAt (l : List Wrt) (id : Int) : Nd := match tpage l id with | none => none9 | some x => (ndec x).1
theorem NdIs.at {l : List Wrt} {id : Int} {nd : Nd} (h : NdIs l id nd) : nodeAt l id = nd := by
 obtain ⟨x, h1, h2⟩ := h
 unfold nodeAt; rw [h1]; show (ndec x).1 = nd; rw [h2]
theorem NdIs.ok {l : List Wrt} {id : Int} {nd : Nd} (h : NdIs l id nd) : NOk nd := by
 obtain ⟨x, h1, h2⟩ := h
 exact ndec_ok h2
def idsOf (l : List Wrt) : Nat → Int → List Int
 | 0, id => [id]
 | d + 1, id => id :: (nodeAt l id).kids.flatMap (idsOf l d)
def pOf (l : List Wrt) : Nat → Int → List Pr
 | 0, id => npr (nodeAt l id)
 | d + 1, id => (nodeAt l id).kids.flatMap (pOf l d)
def TOk (l : List Wrt) : Nat → Int → Str → Option Str → Prop
 | 0, id, lo, hi => ∃ nd, NdIs l id nd ∧ nd.leaf = true ∧ nd.keys ≠ [] ∧ nd.keys.all (kin lo hi) = true
 | d + 1, id, lo, hi => ∃ nd, NdIs l id nd ∧ nd.leaf = false ∧ nd.keys.all (kin lo hi) = true ∧ ∀ (i : Nat) kid, nd.kids[i]? = some kid → TOk l d kid (kidLo nd lo i) (kidHi nd hi i)
theorem wkK_tok {l : List Wrt} {f : Nat} (ih : ∀ (id : Int) (lo : Str) (hi : Option Str) (s s' : Sw), wk l f id lo hi s = some s' → ∃ e d, f = e + 1 + d ∧ s'.dep = some e ∧ (s.dep = none ∨ s.dep = some e) ∧ TOk l d id lo hi ∧ s'.seen = (idsOf l d id).reverse ++ s.seen ∧ (idsOf l d id).Nodup ∧ (∀ i ∈ idsOf l d id, i ∉ s.seen) ∧ s'.prs = s.prs ++ pOf l d id) (n : Nd) (lo : Str) (hi : Option Str) :
  ∀ (ks : List Int) (i : Nat) (s s' : Sw), wkK (wk l f) n lo hi i ks s = some s' → (ks = [] ∧ s' = s) ∨ ∃ e d, f = e + 1 + d ∧ s'.dep = some e ∧ (s.dep = none ∨ s.dep = some e) ∧ (∀ (j : Nat) kid, ks[j]? = some kid → TOk l d kid (kidLo n lo (i + j)) (kidHi n hi (i + j))) ∧
   s'.seen = (ks.flatMap (idsOf l d)).reverse ++ s.seen ∧ (ks.flatMap (idsOf l d)).Nodup ∧ (∀ i ∈ ks.flatMap (idsOf l d), i ∉ s.seen) ∧ s'.prs = s.prs ++ ks.flatMap (pOf l d)
 | [], i, s, s', h => by
  simp only [wkK, Option.some.injEq] at h
  exact .inl ⟨rfl, h.symm⟩
 | k :: r, i, s, s', h => by
  simp only [wkK] at h
  cases h1 : wk l f k (kidLo n lo i) (kidHi n hi i) s with
  | none => rw [h1] at h; cases h
  | some s1 =>
   rw [h1] at h
   obtain ⟨e, d, a0, a1, a2, a3, a4, a5, a6, a7⟩ := ih _ _ _ _ _ h1
   refine .inr ?_
   rcases wkK_tok ih n lo hi r (i + 1) s1 s' h with ⟨rfl, rfl⟩ | ⟨e', d', b0, b1, b2, b3, b4, b5, b6, b7⟩
   ·refine ⟨e, d, a0, a1, a2, fun j kid hk => ?_, by simpa using a4, by simpa using a5, by simpa using a6, by simpa using a7⟩
    cases j with
    | zero => have : k = kid := by simpa using hk
              subst this; exact a3
    | succ j => simp at hk
   ·have ee : e' = e := by
     rcases b2 with b2 | b2
     ·rw [a1] at b2; cases b2
     ·rw [a1] at b2; simp at b2; exact b2.symm
    subst ee
    obtain rfl : d' = d := by omega
    refine ⟨e', d', a0, b1, a2, fun j kid hk => ?_, ?_, ?_, ?_, ?_⟩
    ·cases j with
     | zero => have : k = kid := by simpa using hk
               subst this; exact a3
     | succ j =>
      have := b3 j kid (by simpa using hk)
      rw [show i + (j + 1) = i + 1 + j from by omega]
      exact this
    ·rw [b4, a4]; simp
    ·rw [List.flatMap_cons, List.nodup_append]
     refine ⟨a5, b5, fun x hx y hy e => ?_⟩
     subst e
     apply b6 x hy
     rw [a4]; simp [hx]
    ·intro x hx
     rw [List.flatMap_cons, List.mem_append] at hx
     rcases hx with hx | hx
     ·exact a6 x hx
     ·have := b6 x hx
      rw [a4] at this
      exact fun h9 => this (by simp [h9])
    ·rw [b7, a7]; simp
theorem wk_tok {l : List Wrt} : ∀ (f : Nat) (id : Int) (lo : Str) (hi : Option Str) (s s' : Sw), wk l f id lo hi s = some s' → ∃ e d, f = e + 1 + d ∧ s'.dep = some e ∧ (s.dep = none ∨ s.dep = some e) ∧ TOk l d id lo hi ∧ s'.seen = (idsOf l d id).reverse ++ s.seen ∧ (idsOf l d id).Nodup ∧ (∀ i ∈ idsOf l d id, i ∉ s.seen) ∧ s'.prs = s.prs ++ pOf l d id
 | 0, id, lo, hi, s, s', h => by cases h
 | f + 1, id, lo, hi, s, s', h => by
  cases hx : tpage l id with
  | none => rw [wk_none hx] at h; cases h
  | some x =>
   by_cases hs : id ∈ s.seen
   ·rw [wk_seen hs] at h; cases h
   ·by_cases he : (ndec x).2 = 0
    ·obtain ⟨nd, hnd⟩ : ∃ nd, nd = (ndec x).1 := ⟨_, rfl⟩
     have hd : ndec x = (nd, 0) := by rw [hnd, ← he]
     have hN : NdIs l id nd := ⟨x, hx, hd⟩
     cases ha : nd.keys.all (kin lo hi) with
     | false =>
      unfold wk at h
      rw [hx] at h
      simp [hs, hd, ha] at h
     | true =>
      cases hl : nd.leaf with
      | true =>
       rw [wk_leaf hx hs hd ha hl] at h
       split at h
       ·cases h
       ·rename_i hc
        simp only [Option.some.injEq] at h
        subst h
        refine ⟨f, 0, by omega, rfl, ?_, ⟨nd, hN, hl, fun h0 => hc (.inl h0), ha⟩, by simp [idsOf], by simp [idsOf], by simpa [idsOf] using hs, by show _ = _; rw [pOf, hN.at]⟩
        cases hdp : s.dep with
        | none => exact .inl rfl
        | some e =>
         refine .inr ?_
         by_cases e9 : e = f
         ·rw [e9]
         ·exact absurd (.inr ⟨by rw [hdp]; simp, by rw [hdp]; simpa using e9⟩) hc
      | false =>
       rw [wk_inner hx hs hd ha hl] at h
       have hk := kids_len (ndec_ok hd) hl
       rcases wkK_tok (wk_tok f) nd lo hi nd.kids 0 _ s' h with ⟨h0, _⟩ | ⟨e, d, b0, b1, b2, b3, b4, b5, b6, b7⟩
       ·rw [h0] at hk; simp at hk
       ·refine ⟨e, d + 1, by omega, b1, b2, ⟨nd, hN, hl, ha, fun i kid hk => ?_⟩, ?_, ?_, ?_, ?_⟩
        ·have := b3 i kid hk
         rw [Nat.zero_add] at this
         exact this
        ·rw [b4, idsOf, hN.at]; simp
        ·rw [idsOf, hN.at, List.nodup_cons]
         exact ⟨fun h9 => b6 id h9 (by simp), b5⟩
        ·intro i hi9
         rw [idsOf, hN.at] at hi9
         rcases List.mem_cons.1 hi9 with h9 | h9
         ·rw [h9]; exact hs
         ·exact fun h8 => b6 i h9 (by simp [h8])
        ·rw [b7, pOf, hN.at]
    ·rw [wk_bad hx he] at h; cases h
theorem wkK_of {l : List Wrt} {d e : Nat} (ih : ∀ (id : Int) (lo : Str) (hi : Option Str) (s : Sw), TOk l d id lo hi → (idsOf l d id).Nodup → (∀ i ∈ idsOf l d id, i ∉ s.seen) → (s.dep = none ∨ s.dep = some e) → wk l (e + 1 + d) id lo hi s = some ⟨(idsOf l d id).reverse ++ s.seen, some e, s.prs ++ pOf l d id⟩) (n : Nd) (lo : Str) (hi : Option Str) :
  ∀ (ks : List Int) (i : Nat) (s : Sw), ks ≠ [] → (∀ (j : Nat) kid, ks[j]? = some kid → TOk l d kid (kidLo n lo (i + j)) (kidHi n hi (i + j))) → (ks.flatMap (idsOf l d)).Nodup → (∀ i ∈ ks.flatMap (idsOf l d), i ∉ s.seen) → (s.dep = none ∨ s.dep = some e) →
   wkK (wk l (e + 1 + d)) n lo hi i ks s = some ⟨(ks.flatMap (idsOf l d)).reverse ++ s.seen, some e, s.prs ++ ks.flatMap (pOf l d)⟩
 | [], i, s, h, _, _, _, _ => absurd rfl h
 | k :: r, i, s, _, h1, h2, h3, h4 => by
  rw [List.flatMap_cons] at h2 h3
  rw [List.nodup_append] at h2
  simp only [wkK]
  rw [ih k (kidLo n lo i) (kidHi n hi i) s (h1 0 k rfl) h2.1 (fun x hx => h3 x (by simp [hx])) h4]
  simp only [Option.bind_some]
  by_cases hr : r = []
  ·subst hr
   simp [wkK]
  ·rw [wkK_of ih n lo hi r (i + 1) _ hr (fun j kid hk => by have := h1 (j + 1) kid (by simpa using hk); rw [show i + 1 + j = i + (j + 1) from by omega]; exact this) h2.2.1 (fun x hx h9 => ?_) (.inr rfl)]
   ·simp
   ·rcases List.mem_append.1 h9 with h9 | h9
    ·exact h2.2.2 x (by simpa using h9) x hx rfl
    ·exact h3 x (by simp [hx]) h9
theorem wk_of {l : List Wrt} {e : Nat} : ∀ (d : Nat) (id : Int) (lo : Str) (hi : Option Str) (s : Sw), TOk l d id lo hi → (idsOf l d id).Nodup → (∀ i ∈ idsOf l d id, i ∉ s.seen) → (s.dep = none ∨ s.dep = some e) → wk l (e + 1 + d) id lo hi s = some ⟨(idsOf l d id).reverse ++ s.seen, some e, s.prs ++ pOf l d id⟩
 | 0, id, lo, hi, s, ⟨nd, hN, hl, h0, ha⟩, h2, h3, h4 => by
  obtain ⟨x, hx, hd⟩ := hN
  rw [show e + 1 + 0 = e + 1 from rfl, wk_leaf hx (h3 id (by simp [idsOf])) hd ha hl, if_neg]
  ·rw [pOf, NdIs.at ⟨x, hx, hd⟩]; rfl
  ·rintro (h | ⟨h, h9⟩)
   ·exact h0 h
   ·rcases h4 with h4 | h4
    ·exact h h4
    ·exact h9 h4
 | d + 1, id, lo, hi, s, ⟨nd, hN, hl, ha, hk⟩, h2, h3, h4 => by
  have hN' := hN
  obtain ⟨x, hx, hd⟩ := hN'
  rw [idsOf, hN.at] at h2 h3
  rw [List.nodup_cons] at h2
  rw [show e + 1 + (d + 1) = (e + 1 + d) + 1 from rfl, wk_inner hx (h3 id (by simp)) hd ha hl, wkK_of (wk_of d) nd lo hi nd.kids 0 ⟨id :: s.seen, s.dep, s.prs⟩ ?_ (fun j kid hj => by rw [Nat.zero_add]; exact hk j kid hj) h2.2 ?_ h4]
  ·rw [idsOf, pOf, hN.at]; simp
  ·intro h9
   have := kids_len hN.ok hl
   rw [h9] at this; simp at this
  ·intro i hi9 h8
   rcases List.mem_cons.1 h8 with h8 | h8
   ·rw [h8] at hi9; exact h2.1 hi9
   ·exact h3 i (by simp [hi9]) h8
def Ext (l l' : List Wrt) : Prop := ∀ id x, tpage l id = some x → tpage l' id = some x
theorem Ext.refl (l : List Wrt) : Ext l l := fun _ _ h => h
theorem Ext.trans {a b c : List Wrt} (h : Ext a b) (k : Ext b c) : Ext a c := fun i x hx => k i x (h i x hx)
theorem NdIs.ext {l l' : List Wrt} (h : Ext l l') {id : Int} {nd : Nd} (k : NdIs l id nd) : NdIs l' id nd := by
 obtain ⟨x, h1, h2⟩ := k
 exact ⟨x, h id x h1, h2⟩
theorem flatMap_same {α β : Type} {f g : α → List β} : ∀ (l : List α), (∀ x ∈ l, f x = g x) → l.flatMap f = l.flatMap g
 | [], _ => rfl
 | a :: r, h => by rw [List.flatMap_cons, List.flatMap_cons, h a (by simp), flatMap_same r fun x hx => h x (by simp [hx])]
theorem mem_at {α : Type} {l : List α} {x : α} (h : x ∈ l) : ∃ i : Nat, l[i]? = some x := by
 obtain ⟨i, hi, e⟩ := List.getElem_of_mem h
 exact ⟨i, by rw [List.getElem?_eq_getElem hi, e]⟩
theorem TOk.ext {l l' : List Wrt} (h : Ext l l') : ∀ {d : Nat} {id : Int} {lo : Str} {hi : Option Str}, TOk l d id lo hi → TOk l' d id lo hi ∧ idsOf l' d id = idsOf l d id ∧ pOf l' d id = pOf l d id
 | 0, id, lo, hi, ⟨nd, hN, h1, h2, h3⟩ => ⟨⟨nd, hN.ext h, h1, h2, h3⟩, rfl, by rw [pOf, pOf, hN.at, (hN.ext h).at]⟩
 | d + 1, id, lo, hi, ⟨nd, hN, h1, h2, h3⟩ => by
  refine ⟨⟨nd, hN.ext h, h1, h2, fun i kid hk => (TOk.ext h (h3 i kid hk)).1⟩, ?_, ?_⟩
  ·rw [idsOf, idsOf, hN.at, (hN.ext h).at]
   congr 1
   exact flatMap_same _ fun x hx => by obtain ⟨i, hi⟩ := mem_at hx; exact (TOk.ext h (h3 i x hi)).2.1
  ·rw [pOf, pOf, hN.at, (hN.ext h).at]
   exact flatMap_same _ fun x hx => by obtain ⟨i, hi⟩ := mem_at hx; exact (TOk.ext h (h3 i x hi)).2.2
def Wide (lo : Str) (hi : Option Str) (lo' : Str) (hi' : Option Str) : Prop := slt lo lo' = false ∧ (match hi', hi with | none, _ => True | some _, none => False | some b, some a => slt b a = false)
theorem Wide.kin {lo lo' : Str} {hi hi' : Option Str} (h : Wide lo hi lo' hi') {k : Str} (hk : kin lo hi k = true) : kin lo' hi' k = true := by
 simp only [Go.Proofs.YtpiikmkajckccaaGreat.kin, Bool.and_eq_true, Bool.not_eq_true'] at hk ⊢
 refine ⟨?_, ?_⟩
 ·cases hc : slt k lo' with
  | false => rfl
  | true =>
   have := slt_lt_le hc h.1
   rw [this] at hk; cases hk.1
 ·have h2 := h.2
  cases hi' with
  | none => rfl
  | some b =>
   cases hi with
   | none => exact h2.elim
   | some a => exact slt_lt_le hk.2 h2
theorem Wide.refl (lo : Str) (hi : Option Str) : Wide lo hi lo hi := ⟨slt_irr _, by cases hi <;> simp [slt_irr]⟩
theorem TOk.wide {l : List Wrt} : ∀ {d : Nat} {id : Int} {lo lo' : Str} {hi hi' : Option Str}, TOk l d id lo hi → Wide lo hi lo' hi' → TOk l d id lo' hi'
 | 0, id, lo, lo', hi, hi', ⟨nd, hN, h1, h2, h3⟩, hw => ⟨nd, hN, h1, h2, List.all_eq_true.2 fun k hk => hw.kin (List.all_eq_true.1 h3 k hk)⟩
 | d + 1, id, lo, lo', hi, hi', ⟨nd, hN, h1, h2, h3⟩, hw => by
  refine ⟨nd, hN, h1, List.all_eq_true.2 fun k hk => hw.kin (List.all_eq_true.1 h2 k hk), fun i kid hk => TOk.wide (h3 i kid hk) ?_⟩
  refine ⟨?_, ?_⟩
  ·unfold kidLo
   split
   ·exact hw.1
   ·exact slt_irr _
  ·by_cases h9 : i < nd.keys.length
   ·rw [kidHi, kidHi, if_pos h9, if_pos h9]; exact slt_irr _
   ·rw [kidHi, kidHi, if_neg h9, if_neg h9]; exact hw.2
theorem npr_len' {nd : Nd} (hok : NOk nd) (hl : nd.leaf = true) : (npr nd).length = nd.keys.length := by
 have h1 := hok.2.1
 unfold ncount at h1
 rw [if_pos hl] at h1
 rw [npr, List.length_zip, h1.1, Nat.min_self]
theorem TOk.many {l : List Wrt} : ∀ {d : Nat} {id : Int} {lo : Str} {hi : Option Str}, TOk l d id lo hi → 2 ^ d ≤ (pOf l d id).length
 | 0, id, lo, hi, ⟨nd, hN, h1, h2, h3⟩ => by
  rw [pOf, hN.at, npr_len' hN.ok h1]
  have : nd.keys.length ≠ 0 := fun h => h2 (List.eq_nil_of_length_eq_zero h)
  simp; omega
 | d + 1, id, lo, hi, ⟨nd, hN, h1, h2, h3⟩ => by
  rw [pOf, hN.at]
  have hk := kids_len hN.ok h1
  have hc := hN.ok.2.1
  unfold ncount at hc
  rw [h1, if_neg (by decide)] at hc
  cases hkk : nd.kids with
  | nil => rw [hkk] at hk; simp at hk
  | cons a r1 =>
   cases r1 with
   | nil => rw [hkk] at hk; simp only [List.length_cons, List.length_nil] at hk; omega
   | cons b r =>
    have ha := TOk.many (h3 0 a (by rw [hkk]; rfl))
    have hb := TOk.many (h3 1 b (by rw [hkk]; rfl))
    simp only [List.flatMap_cons, List.length_append, Nat.pow_succ]
    omega
theorem TOk.kin {l : List Wrt} : ∀ {d : Nat} {id : Int} {lo : Str} {hi : Option Str}, TOk l d id lo hi → ∀ y ∈ pOf l d id, kin lo hi y.1 = true
 | 0, id, lo, hi, ⟨nd, hN, h1, h2, h3⟩, y, hy => by
  rw [pOf, hN.at] at hy
  exact List.all_eq_true.1 h3 _ (List.of_mem_zip hy).1
 | d + 1, id, lo, hi, ⟨nd, hN, h1, h2, h3⟩, y, hy => by
  rw [pOf, hN.at] at hy
  obtain ⟨kid, hk, hy⟩ := List.mem_flatMap.1 hy
  obtain ⟨i, hi9⟩ := mem_at hk
  have := TOk.kin (h3 i kid hi9) y hy
  have hlt := (List.getElem?_eq_some_iff.1 hi9).1
  exact kin_kid h2 (by rw [kids_len hN.ok h1] at hlt; omega) this
theorem TOk.room {l : List Wrt} {d : Nat} {id : Int} {lo : Str} {b : Str} (h : TOk l d id lo (some b)) : slt lo b = true := by
 have hm := h.many
 have : 0 < (pOf l d id).length := Nat.lt_of_lt_of_le (Nat.two_pow_pos d) hm
 obtain ⟨y, hy⟩ := List.exists_mem_of_length_pos this
 have := h.kin y hy
 simp only [Go.Proofs.YtpiikmkajckccaaGreat.kin, Bool.and_eq_true, Bool.not_eq_true'] at this
 exact slt_le_lt this.1 this.2
end Go.Proofs.YtpiikmkajckccaaGreat

namespace Go.Proofs.YtpiikmkajckccaaGreat
abbrev Br := Str × Int
def lf (ps : List Pr) : Nd := ⟨true, ps.map (·.1), ps.map (·.2), []⟩
def inr (bs : List Br) : Nd := ⟨false, bs.tail.map (·.1), [], bs.map (·.2)⟩
def brs (n : Nd) : List Br := ([], n.kids.headD 0) :: n.keys.zip n.kids.tail
theorem npr_lf (ps : List Pr) : npr (lf ps) = ps := by
 unfold npr lf
 show (ps.map (·.1)).zip (ps.map (·.2)) = ps
 induction ps with
 | nil => rfl
 | cons a r ih => simp [ih]
theorem map_fst_zip' {α β : Type} : ∀ (a : List α) (b : List β), a.length = b.length → (a.zip b).map (·.1) = a ∧ (a.zip b).map (·.2) = b
 | [], [], _ => ⟨rfl, rfl⟩
 | [], _ :: _, h => by simp at h
 | _ :: _, [], h => by simp at h
 | x :: a, y :: b, h => by
  obtain ⟨h1, h2⟩ := map_fst_zip' a b (by simpa using h)
  simp [h1, h2]
theorem lf_npr {n : Nd} (hok : NOk n) (hl : n.leaf = true) : lf (npr n) = n := by
 have h1 := hok.2.1
 unfold ncount at h1
 rw [if_pos hl] at h1
 obtain ⟨leaf, keys, vals, kids⟩ := n
 obtain ⟨a, b⟩ := map_fst_zip' keys vals (by simpa using h1.1.symm)
 have hk : kids = [] := List.eq_nil_of_length_eq_zero h1.2
 dsimp only at hl
 subst hl hk
 unfold lf npr
 simp only [Nd.mk.injEq, true_and, and_true]
 exact ⟨a, b⟩
theorem inr_brs {n : Nd} (hl : n.leaf = false) (hv : n.vals = []) (hk : n.kids.length = n.keys.length + 1) : inr (brs n) = n := by
 obtain ⟨leaf, keys, vals, kids⟩ := n
 dsimp only at hl hv hk
 subst hl hv
 cases kids with
 | nil => simp at hk
 | cons d r =>
  obtain ⟨a, b⟩ := map_fst_zip' keys r (by simpa using hk.symm)
  unfold inr brs
  simp only [List.tail_cons, List.map_cons, List.headD_cons, Nd.mk.injEq, true_and, a, b]
theorem brs_len {n : Nd} (hk : n.kids.length = n.keys.length + 1) : (brs n).length = n.kids.length := by
 unfold brs
 simp only [List.length_cons, List.length_zip, List.length_tail, hk]
 omega
theorem NOk.vals0 {n : Nd} (hok : NOk n) (hl : n.leaf = false) : n.vals = [] := by
 have h1 := hok.2.1
 unfold ncount at h1
 rw [hl, if_neg (by decide)] at h1
 exact List.eq_nil_of_length_eq_zero h1.1
theorem inr_brs' {n : Nd} (hok : NOk n) (hl : n.leaf = false) : inr (brs n) = n := inr_brs hl (hok.vals0 hl) (kids_len hok hl)
def Seg (l : List Wrt) (d : Nat) : Str → Option Str → List Br → Prop
 | _, _, [] => False
 | lo, hi, [b] => TOk l d b.2 lo hi
 | lo, hi, b :: c :: r => TOk l d b.2 lo (some c.1) ∧ Seg l d c.1 hi (c :: r)
theorem Seg.ne {l : List Wrt} {d : Nat} {lo : Str} {hi : Option Str} {bs : List Br} (h : Seg l d lo hi bs) : bs ≠ [] := by
 intro e; subst e; exact h
theorem Seg.ext {l l' : List Wrt} (h : Ext l l') {d : Nat} : ∀ {bs : List Br} {lo : Str} {hi : Option Str}, Seg l d lo hi bs → Seg l' d lo hi bs
 | [], _, _, k => k
 | [b], _, _, k => (TOk.ext h k).1
 | b :: c :: r, _, _, k => ⟨(TOk.ext h k.1).1, Seg.ext h k.2⟩
theorem Seg.each {l : List Wrt} {d : Nat} : ∀ {bs : List Br} {lo : Str} {hi : Option Str}, Seg l d lo hi bs → ∀ b ∈ bs, ∃ lo' hi', TOk l d b.2 lo' hi'
 | [], _, _, k, b, hb => by cases hb
 | [c], _, _, k, b, hb => by
  have : b = c := by simpa using hb
  subst this; exact ⟨_, _, k⟩
 | c :: e :: r, _, _, k, b, hb => by
  rcases List.mem_cons.1 hb with rfl | hb
  ·exact ⟨_, _, k.1⟩
  ·exact Seg.each k.2 b hb
theorem seg_app {l : List Wrt} {d : Nat} : ∀ {a : List Br} {lo : Str} {hi : Option Str} {c : Br} {r : List Br}, a ≠ [] → (Seg l d lo hi (a ++ c :: r) ↔ Seg l d lo (some c.1) a ∧ Seg l d c.1 hi (c :: r))
 | [], _, _, _, _, h => absurd rfl h
 | [b], lo, hi, c, r, _ => Iff.rfl
 | b :: e :: a, lo, hi, c, r, _ => by
  have ih := seg_app (l := l) (d := d) (a := e :: a) (lo := e.1) (hi := hi) (c := c) (r := r) (by simp)
  show (TOk l d b.2 lo (some e.1) ∧ Seg l d e.1 hi (e :: a ++ c :: r)) ↔ (TOk l d b.2 lo (some e.1) ∧ Seg l d e.1 (some c.1) (e :: a)) ∧ _
  rw [ih, and_assoc]
theorem seg_first {l : List Wrt} {d : Nat} {lo : Str} {hi : Option Str} {b c : Br} {r : List Br} (h : b.2 = c.2) : Seg l d lo hi (b :: r) ↔ Seg l d lo hi (c :: r) := by
 cases r with
 | nil => show TOk l d b.2 lo hi ↔ TOk l d c.2 lo hi; rw [h]
 | cons e r => show (TOk l d b.2 lo _ ∧ _) ↔ (TOk l d c.2 lo _ ∧ _); rw [h]
theorem slt_trans_le {a b c : Str} (h1 : slt b a = false) (h2 : slt c b = false) : slt c a = false := by
 cases h : slt c a with
 | false => rfl
 | true =>
  have := slt_lt_le h h1
  rw [this] at h2; cases h2
theorem Seg.room {l : List Wrt} {d : Nat} : ∀ {bs : List Br} {lo : Str} {b : Str}, Seg l d lo (some b) bs → slt lo b = true
 | [], _, _, k => k.elim
 | [c], lo, b, k => TOk.room k
 | c :: e :: r, lo, b, k => slt_trans (TOk.room k.1) (Seg.room k.2)
theorem Seg.hi {l : List Wrt} {d : Nat} : ∀ {bs : List Br} {lo : Str} {hi hi' : Option Str}, Seg l d lo hi bs → (∀ lo, Wide lo hi lo hi') → Seg l d lo hi' bs
 | [], _, _, _, k, _ => k
 | [c], _, _, _, k, hw => TOk.wide k (hw _)
 | c :: e :: r, _, _, _, k, hw => ⟨k.1, Seg.hi k.2 hw⟩
theorem Seg.lo {l : List Wrt} {d : Nat} {bs : List Br} {lo lo' : Str} {hi : Option Str} (k : Seg l d lo hi bs) (hw : slt lo lo' = false) : Seg l d lo' hi bs := by
 match bs, k with
 | [c], k => exact TOk.wide k ⟨hw, (Wide.refl lo hi).2⟩
 | c :: e :: r, k => exact ⟨TOk.wide k.1 ⟨hw, slt_irr _⟩, k.2⟩
theorem Seg.keys {l : List Wrt} {d : Nat} : ∀ {bs : List Br} {lo : Str} {hi : Option Str}, Seg l d lo hi bs → Rise (bs.tail.map (·.1)) ∧ ∀ k ∈ bs.tail.map (·.1), slt lo k = true ∧ kin lo hi k = true
 | [], _, _, k => k.elim
 | [c], lo, hi, k => ⟨List.Pairwise.nil, fun k hk => by simp at hk⟩
 | c :: e :: r, lo, hi, k => by
  obtain ⟨h1, h2⟩ := Seg.keys k.2
  have hr := TOk.room k.1
  have he : kin lo hi e.1 = true := by
   simp only [Go.Proofs.YtpiikmkajckccaaGreat.kin, Bool.and_eq_true, Bool.not_eq_true']
   refine ⟨slt_asym hr, ?_⟩
   cases hi with
   | none => rfl
   | some b => exact Seg.room k.2
  refine ⟨?_, fun y hy => ?_⟩
  ·show Rise (e.1 :: (e :: r).tail.map (·.1))
   exact List.pairwise_cons.2 ⟨fun y hy => (h2 y hy).1, h1⟩
  ·have hy' : y = e.1 ∨ y ∈ (e :: r).tail.map (·.1) := by simpa using hy
   rcases hy' with rfl | hy'
   ·exact ⟨hr, he⟩
   ·obtain ⟨a, b⟩ := h2 y hy'
    refine ⟨slt_trans hr a, ?_⟩
    simp only [Go.Proofs.YtpiikmkajckccaaGreat.kin, Bool.and_eq_true, Bool.not_eq_true'] at b ⊢
    exact ⟨slt_asym (slt_trans hr a), b.2⟩
def sprs (l : List Wrt) (d : Nat) (bs : List Br) : List Pr := bs.flatMap fun b => pOf l d b.2
def sids (l : List Wrt) (d : Nat) (bs : List Br) : List Int := bs.flatMap fun b => idsOf l d b.2
theorem sprs_app (l : List Wrt) (d : Nat) (a b : List Br) : sprs l d (a ++ b) = sprs l d a ++ sprs l d b := by unfold sprs; rw [List.flatMap_append]
theorem sids_app (l : List Wrt) (d : Nat) (a b : List Br) : sids l d (a ++ b) = sids l d a ++ sids l d b := by unfold sids; rw [List.flatMap_append]
theorem sprs_inr (l : List Wrt) (d : Nat) (bs : List Br) : (inr bs).kids.flatMap (pOf l d) = sprs l d bs := by
 unfold inr sprs
 show (bs.map (·.2)).flatMap (pOf l d) = _
 rw [List.flatMap_map]
theorem sids_inr (l : List Wrt) (d : Nat) (bs : List Br) : (inr bs).kids.flatMap (idsOf l d) = sids l d bs := by
 unfold inr sids
 show (bs.map (·.2)).flatMap (idsOf l d) = _
 rw [List.flatMap_map]
theorem seg_ext {l l' : List Wrt} (h : Ext l l') {d : Nat} {bs : List Br} (k : ∀ b ∈ bs, ∃ lo' hi', TOk l d b.2 lo' hi') : sprs l' d bs = sprs l d bs ∧ sids l' d bs = sids l d bs :=
 ⟨flatMap_same _ fun b hb => by obtain ⟨_, _, q⟩ := k b hb; exact (TOk.ext h q).2.2, flatMap_same _ fun b hb => by obtain ⟨_, _, q⟩ := k b hb; exact (TOk.ext h q).2.1⟩
theorem Seg.kin {l : List Wrt} {d : Nat} : ∀ {bs : List Br} {lo : Str} {hi : Option Str}, Seg l d lo hi bs → ∀ y ∈ sprs l d bs, kin lo hi y.1 = true
 | [], _, _, k, _, _ => k.elim
 | [c], lo, hi, k, y, hy => TOk.kin k y (by simpa [sprs] using hy)
 | c :: e :: r, lo, hi, k, y, hy => by
  have hy' : y ∈ pOf l d c.2 ∨ y ∈ sprs l d (e :: r) := by simpa [sprs] using hy
  have hr := TOk.room k.1
  rcases hy' with hy | hy
  ·have := TOk.kin k.1 y hy
   simp only [Go.Proofs.YtpiikmkajckccaaGreat.kin, Bool.and_eq_true, Bool.not_eq_true'] at this ⊢
   refine ⟨this.1, ?_⟩
   cases hi with
   | none => rfl
   | some b => exact slt_trans this.2 (Seg.room k.2)
  ·have := Seg.kin k.2 y hy
   simp only [Go.Proofs.YtpiikmkajckccaaGreat.kin, Bool.and_eq_true, Bool.not_eq_true'] at this ⊢
   refine ⟨?_, this.2⟩
   exact slt_trans_le (slt_asym hr) this.1
theorem kidLo_succ {a b : Str} {ks : List Str} {vals : List Str} {d0 : Int} {ds : List Int} {lf : Bool} (lo : Str) (i : Nat) : kidLo ⟨lf, a :: ks, vals, d0 :: ds⟩ lo (i + 1) = kidLo ⟨lf, ks, vals, ds⟩ a i := by
 unfold kidLo
 rw [if_neg (by omega)]
 cases i with
 | zero => simp
 | succ i => simp
theorem kidHi_succ {a : Str} {ks : List Str} {vals : List Str} {d0 : Int} {ds : List Int} {lf : Bool} (hi : Option Str) (i : Nat) : kidHi ⟨lf, a :: ks, vals, d0 :: ds⟩ hi (i + 1) = kidHi ⟨lf, ks, vals, ds⟩ hi i := by
 unfold kidHi
 simp
theorem seg_kids {l : List Wrt} {d : Nat} : ∀ {bs : List Br} {lo : Str} {hi : Option Str}, bs ≠ [] → (Seg l d lo hi bs ↔ ∀ (i : Nat) kid, (inr bs).kids[i]? = some kid → TOk l d kid (kidLo (inr bs) lo i) (kidHi (inr bs) hi i))
 | [], _, _, h => absurd rfl h
 | [b], lo, hi, _ => by
  constructor
  ·intro h i kid hk
   cases i with
   | zero =>
    have : b.2 = kid := by simpa [inr] using hk
    subst this
    exact h
   | succ i => simp [inr] at hk
  ·intro h
   exact h 0 b.2 rfl
 | b :: c :: r, lo, hi, _ => by
  have ih := seg_kids (l := l) (d := d) (bs := c :: r) (lo := c.1) (hi := hi) (by simp)
  have e : inr (b :: c :: r) = ⟨false, c.1 :: (inr (c :: r)).keys, [], b.2 :: (inr (c :: r)).kids⟩ := rfl
  have e2 : inr (c :: r) = ⟨false, (inr (c :: r)).keys, [], (inr (c :: r)).kids⟩ := rfl
  show (TOk l d b.2 lo (some c.1) ∧ Seg l d c.1 hi (c :: r)) ↔ _
  rw [ih]
  constructor
  ·rintro ⟨h1, h2⟩ i kid hk
   cases i with
   | zero =>
    have : b.2 = kid := by simpa [inr] using hk
    subst this
    exact h1
   | succ i =>
    rw [e, kidLo_succ (b := c.1), kidHi_succ, ← e2]
    exact h2 i kid (by rw [e] at hk; simpa using hk)
  ·intro h
   refine ⟨h 0 b.2 rfl, fun i kid hk => ?_⟩
   have := h (i + 1) kid (by rw [e]; simpa using hk)
   rw [e, kidLo_succ (b := c.1), kidHi_succ, ← e2] at this
   exact this
theorem tok_seg {l : List Wrt} {d : Nat} {id : Int} {lo : Str} {hi : Option Str} (h : TOk l (d + 1) id lo hi) : ∃ nd, NdIs l id nd ∧ nd.leaf = false ∧ Seg l d lo hi (brs nd) ∧ idsOf l (d + 1) id = id :: sids l d (brs nd) ∧ pOf l (d + 1) id = sprs l d (brs nd) := by
 obtain ⟨nd, hN, h1, h2, h3⟩ := h
 have e := inr_brs' hN.ok h1
 refine ⟨nd, hN, h1, ?_, ?_, ?_⟩
 ·rw [seg_kids (by unfold brs; simp), e]; exact h3
 ·rw [idsOf, hN.at, ← sids_inr, e]
 ·rw [pOf, hN.at, ← sprs_inr, e]
theorem seg_tok {l : List Wrt} {d : Nat} {id : Int} {lo : Str} {hi : Option Str} {bs : List Br} (hN : NdIs l id (inr bs)) (h : Seg l d lo hi bs) : TOk l (d + 1) id lo hi ∧ idsOf l (d + 1) id = id :: sids l d bs ∧ pOf l (d + 1) id = sprs l d bs := by
 refine ⟨⟨_, hN, rfl, List.all_eq_true.2 fun k hk => (h.keys.2 k hk).2, (seg_kids h.ne).1 h⟩, ?_, ?_⟩
 ·rw [idsOf, hN.at, sids_inr]
 ·rw [pOf, hN.at, sprs_inr]
theorem lf_tok {l : List Wrt} {id : Int} {lo : Str} {hi : Option Str} {ps : List Pr} (hN : NdIs l id (lf ps)) (h0 : ps ≠ []) (h : ∀ y ∈ ps, kin lo hi y.1 = true) : TOk l 0 id lo hi ∧ idsOf l 0 id = [id] ∧ pOf l 0 id = ps := by
 refine ⟨⟨_, hN, rfl, by simpa [lf] using h0, List.all_eq_true.2 fun k hk => ?_⟩, rfl, by rw [pOf, hN.at, npr_lf]⟩
 obtain ⟨y, hy, rfl⟩ := List.mem_map.1 hk
 exact h y hy
end Go.Proofs.YtpiikmkajckccaaGreat

namespace Go.Proofs.YtpiikmkajckccaaGreat
def pw (y : Pr) : Nat := 2 + y.1.length + y.2.length
def bw (b : Br) : Nat := 5 + b.1.length
theorem sum_take_succ {ws : List Nat} {k : Nat} {x : Nat} (h : ws[k]? = some x) : (ws.take (k + 1)).sum = (ws.take k).sum + x := by
 rw [List.take_add_one, h]; simp
theorem nsz_lf (ps : List Pr) : ∀ k, k ≤ ps.length → nsz (lf ps) k = 2 + (((ps.map pw).take k).sum : Int)
 | 0, _ => by simp [nsz]
 | k + 1, h => by
  have ih := nsz_lf ps k (by omega)
  have hk : ps[k]? = some ps[k] := List.getElem?_eq_getElem (by omega)
  have hw : (ps.map pw)[k]? = some (pw ps[k]) := by simp [hk]
  rw [sum_take_succ hw]
  simp only [nsz, ih]
  have e1 : (lf ps).keys[k]? = some ps[k].1 := by simp [lf, hk]
  have e2 : (lf ps).vals[k]? = some ps[k].2 := by simp [lf, hk]
  have e3 : (lf ps).leaf = true := rfl
  rw [e1, e2, e3]
  simp only [Option.getD_some, if_true, pw]
  push_cast
  omega
theorem nsize_lf (ps : List Pr) : nsize (lf ps) = 2 + ((ps.map pw).sum : Int) := by
 unfold nsize
 have e : (lf ps).keys.length = ps.length := by simp [lf]
 rw [e, nsz_lf ps ps.length (Nat.le_refl _), show (lf ps).leaf = true from rfl]
 have : (ps.map pw).take ps.length = ps.map pw := List.take_of_length_le (by simp)
 rw [this]; simp
theorem nsz_inr (b : Br) (r : List Br) : ∀ k, k ≤ r.length → nsz (inr (b :: r)) k + 4 * (k : Int) = 2 + (((r.map bw).take k).sum : Int)
 | 0, _ => by simp [nsz]
 | k + 1, h => by
  have ih := nsz_inr b r k (by omega)
  have hk : r[k]? = some r[k] := List.getElem?_eq_getElem (by omega)
  have hw : (r.map bw)[k]? = some (bw r[k]) := by simp [hk]
  rw [sum_take_succ hw]
  simp only [nsz]
  have e1 : (inr (b :: r)).keys[k]? = some r[k].1 := by simp [inr, hk]
  have e3 : (inr (b :: r)).leaf = false := rfl
  rw [e1, e3]
  simp only [Option.getD_some, bw]
  push_cast
  simp
  omega
theorem nsize_inr (b : Br) (r : List Br) : nsize (inr (b :: r)) = 6 + ((r.map bw).sum : Int) := by
 unfold nsize
 have e : (inr (b :: r)).keys.length = r.length := by simp [inr]
 have e2 : (inr (b :: r)).kids.length = r.length + 1 := by simp [inr]
 have h := nsz_inr b r r.length (Nat.le_refl _)
 have : (r.map bw).take r.length = r.map bw := List.take_of_length_le (by simp)
 rw [this] at h
 rw [e, e2, show (inr (b :: r)).leaf = false from rfl]
 push_cast
 try simp
 omega
theorem nkeys_of {n : Nd} (h : Rise n.keys) (hl : ∀ k ∈ n.keys, 1 ≤ k.length ∧ k.length ≤ 32) : nkeys n n.keys.length := by
 intro k hk
 have e : ∀ j, j < n.keys.length → nkey n j = n.keys[j]?.getD [] := fun j _ => rfl
 have e1 : nkey n k = n.keys[k] := by rw [nkey, List.getElem?_eq_getElem hk]; rfl
 have hm := hl n.keys[k] (List.getElem_mem hk)
 refine ⟨by rw [e1]; exact hm.1, by rw [e1]; exact hm.2, fun h0 => ?_⟩
 have e2 : nkey n (k - 1) = n.keys[k - 1] := by rw [nkey, List.getElem?_eq_getElem (by omega)]; rfl
 rw [e1, e2]
 exact List.pairwise_iff_getElem.1 h (k - 1) k (by omega) hk (by omega)
theorem nkeys_to {n : Nd} (h : nkeys n n.keys.length) : Rise n.keys ∧ ∀ k ∈ n.keys, 1 ≤ k.length ∧ k.length ≤ 32 := by
 refine ⟨rise_of h, fun k hk => ?_⟩
 obtain ⟨i, hi, e⟩ := List.getElem_of_mem hk
 have := h i hi
 have e1 : nkey n i = k := by rw [nkey, List.getElem?_eq_getElem hi, e]; rfl
 rw [nkOk, e1] at this
 exact ⟨this.1, this.2.1⟩
def PrOk (ps : List Pr) : Prop := Rise (ps.map (·.1)) ∧ ∀ y ∈ ps, (1 ≤ y.1.length ∧ y.1.length ≤ 32) ∧ y.2.length ≤ 64
theorem lf_ok {ps : List Pr} (h : PrOk ps) (hs : nsize (lf ps) ≤ 244) : NOk (lf ps) := by
 refine ⟨nkeys_of h.1 (fun k hk => ?_), ?_, fun k hk => ?_, fun k hk => ?_, hs⟩
 ·obtain ⟨y, hy, rfl⟩ := List.mem_map.1 hk
  exact (h.2 y hy).1
 ·unfold ncount; rw [show (lf ps).leaf = true from rfl, if_pos rfl]; exact ⟨by simp [lf], rfl⟩
 ·have hk' : k < ps.length := by simpa [lf] using hk
  have : (lf ps).vals[k]? = some ps[k].2 := by simp [lf, hk']
  rw [this]
  exact (h.2 _ (List.getElem_mem hk')).2
 ·simp [lf] at hk
theorem lf_to {nd : Nd} (hok : NOk nd) (hl : nd.leaf = true) : nd = lf (npr nd) ∧ PrOk (npr nd) := by
 have e := lf_npr hok hl
 refine ⟨e.symm, ?_⟩
 obtain ⟨h1, h2⟩ := nkeys_to hok.1
 rw [← e] at h1 h2
 refine ⟨h1, fun y hy => ⟨h2 y.1 (List.mem_map.2 ⟨y, hy, rfl⟩), ?_⟩⟩
 have hv := hok.2.2.1
 have hm : y.2 ∈ nd.vals := (List.of_mem_zip hy).2
 obtain ⟨i, hi, e⟩ := List.getElem_of_mem hm
 have := hv i hi
 rw [List.getElem?_eq_getElem hi, e] at this
 exact this
def BrOk (bs : List Br) : Prop := (∀ b ∈ bs.tail, 1 ≤ b.1.length ∧ b.1.length ≤ 32) ∧ ∀ b ∈ bs, 1 ≤ b.2 ∧ b.2 ≤ 65536
theorem inr_ok {bs : List Br} (hr : Rise (bs.tail.map (·.1))) (h : BrOk bs) (h0 : bs.tail ≠ []) (hs : nsize (inr bs) ≤ 244) : NOk (inr bs) := by
 have hb : bs.length = bs.tail.length + 1 := by cases bs with | nil => exact absurd rfl h0 | cons a r => simp
 refine ⟨nkeys_of hr (fun k hk => ?_), ?_, fun k hk => ?_, fun k hk => ?_, hs⟩
 ·obtain ⟨y, hy, rfl⟩ := List.mem_map.1 hk
  exact h.1 y hy
 ·unfold ncount
  rw [show (inr bs).leaf = false from rfl, if_neg (by decide)]
  refine ⟨rfl, ?_, ?_⟩
  ·have : (inr bs).keys.length = bs.tail.length := by simp [inr]
   have h9 : bs.tail.length ≠ 0 := fun h => h0 (List.eq_nil_of_length_eq_zero h)
   omega
  ·simp only [inr, List.length_map]; exact hb
 ·simp [inr] at hk
 ·have hk' : k < bs.length := by simpa [inr] using hk
  have : (inr bs).kids[k]? = some bs[k].2 := by simp [inr, hk']
  rw [this]
  exact h.2 _ (List.getElem_mem hk')
theorem inr_to {nd : Nd} (hok : NOk nd) (hl : nd.leaf = false) : nd = inr (brs nd) ∧ BrOk (brs nd) ∧ (brs nd).tail ≠ [] := by
 have e := inr_brs' hok hl
 obtain ⟨h1, h2⟩ := nkeys_to hok.1
 have hk := kids_len hok hl
 have hc := hok.2.1
 unfold ncount at hc
 rw [hl, if_neg (by decide)] at hc
 refine ⟨e.symm, ⟨fun b hb => ?_, fun b hb => ?_⟩, fun h9 => ?_⟩
 ·have : b.1 ∈ (inr (brs nd)).keys := List.mem_map.2 ⟨b, hb, rfl⟩
  rw [e] at this
  exact h2 _ this
 ·have : b.2 ∈ (inr (brs nd)).kids := List.mem_map.2 ⟨b, hb, rfl⟩
  rw [e] at this
  obtain ⟨i, hi, e9⟩ := List.getElem_of_mem this
  have := hok.2.2.2.1 i hi
  rw [List.getElem?_eq_getElem hi, e9] at this
  exact this
 ·have : (inr (brs nd)).keys = [] := by unfold inr; rw [h9]; rfl
  rw [e] at this
  rw [this] at hc; simp at hc
def cutL (n : Nd) (k : Nat) : Nd := if n.leaf then ⟨true, n.keys.take k, n.vals.take k, []⟩ else ⟨false, n.keys.take k, [], n.kids.take (k + 1)⟩
def cutR (n : Nd) (k : Nat) : Nd := if n.leaf then ⟨true, n.keys.drop k, n.vals.drop k, []⟩ else ⟨false, n.keys.drop (k + 1), [], n.kids.drop (k + 1)⟩
def cutG (n : Nd) (k : Nat) : Int := max (nsize (cutL n k)) (nsize (cutR n k))
def midTo (n : Nd) : Nat → Nat × Int
 | 0 => (0, nsize n)
 | k + 1 => if cutG n k < (midTo n k).2 then (k, cutG n k) else midTo n k
def midOf (n : Nd) : Nat := (midTo n n.keys.length).1
theorem midTo_ok (n : Nd) : ∀ k, (∀ j, j < k → (midTo n k).2 ≤ cutG n j) ∧ (midTo n k).2 ≤ nsize n ∧ ((midTo n k).2 < nsize n → (midTo n k).1 < k ∧ cutG n (midTo n k).1 = (midTo n k).2)
 | 0 => ⟨fun j h => by omega, Int.le_refl _, fun h => by simp [midTo] at h⟩
 | k + 1 => by
  obtain ⟨h1, h2, h3⟩ := midTo_ok n k
  simp only [midTo]
  split
  ·rename_i hc
   refine ⟨fun j hj => ?_, by show cutG n k ≤ _; omega, fun _ => ⟨by show k < k + 1; omega, rfl⟩⟩
   show cutG n k ≤ cutG n j
   by_cases e : j = k
   ·subst e; exact Int.le_refl _
   ·have := h1 j (by omega); omega
  ·rename_i hc
   refine ⟨fun j hj => ?_, h2, fun h => ⟨by have := (h3 h).1; omega, (h3 h).2⟩⟩
   by_cases e : j = k
   ·subst e; omega
   ·exact h1 j (by omega)
theorem cutL_lf (ps : List Pr) (k : Nat) : cutL (lf ps) k = lf (ps.take k) := by simp [cutL, lf, List.map_take]
theorem cutR_lf (ps : List Pr) (k : Nat) : cutR (lf ps) k = lf (ps.drop k) := by simp [cutR, lf, List.map_drop]
theorem cutL_inr (b : Br) (r : List Br) (k : Nat) : cutL (inr (b :: r)) k = inr (b :: r.take k) := by simp [cutL, inr, List.map_take]
theorem cutR_inr (b : Br) (r : List Br) (k : Nat) : cutR (inr (b :: r)) k = inr (r.drop k) := by simp [cutR, inr, List.map_drop]
theorem pref (ws : List Nat) (M : Nat) (h : M < ws.sum) : ∃ j, j < ws.length ∧ (ws.take j).sum ≤ M ∧ M < (ws.take (j + 1)).sum := by
 induction ws generalizing M with
 | nil => simp at h
 | cons a r ih =>
  by_cases ha : M < a
  ·exact ⟨0, by simp, by simp, by simpa using ha⟩
  ·obtain ⟨j, h1, h2, h3⟩ := ih (M - a) (by simp at h; omega)
   refine ⟨j + 1, by simp; omega, by simp; omega, by simp at h3 ⊢; omega⟩
theorem sum_split (ws : List Nat) (j : Nat) : (ws.take j).sum + (ws.drop j).sum = ws.sum := by
 conv => rhs; rw [← List.take_append_drop j ws]
 rw [List.sum_append]
theorem leaf_cut {ps : List Pr} (hw : ∀ y ∈ ps, pw y ≤ 98) (h1 : 244 < nsize (lf ps)) (h2 : nsize (lf ps) ≤ 342) : 0 < midOf (lf ps) ∧ midOf (lf ps) < ps.length ∧ nsize (lf (ps.take (midOf (lf ps)))) ≤ 244 ∧ nsize (lf (ps.drop (midOf (lf ps)))) ≤ 244 := by
 have hk : (lf ps).keys.length = ps.length := by simp [lf]
 obtain ⟨a, b, c⟩ := midTo_ok (lf ps) ps.length
 have em : midOf (lf ps) = (midTo (lf ps) ps.length).1 := by rw [midOf, hk]
 have hs := nsize_lf ps
 obtain ⟨j, j1, j2, j3⟩ := pref (ps.map pw) 242 (by omega)
 have jl : j < ps.length := by simpa using j1
 have hwj : (ps.map pw)[j]? = some (pw ps[j]) := by simp [jl]
 have hle := hw ps[j] (List.getElem_mem jl)
 rw [sum_take_succ hwj] at j3
 have hsp := sum_split (ps.map pw) j
 have hg : cutG (lf ps) j ≤ 244 := by
  unfold cutG
  rw [cutL_lf, cutR_lf, nsize_lf, nsize_lf, List.map_take, List.map_drop]
  omega
 have hlt := a j jl
 obtain ⟨c1, c2⟩ := c (by omega)
 rw [← em] at c1 c2
 have hg2 : cutG (lf ps) (midOf (lf ps)) ≤ 244 := by omega
 unfold cutG at hg2
 rw [cutL_lf, cutR_lf] at hg2
 refine ⟨?_, c1, by omega, by omega⟩
 apply Nat.pos_of_ne_zero
 intro h0
 rw [h0] at hg2
 simp only [List.drop_zero] at hg2
 omega
theorem inr_cut {b0 : Br} {r : List Br} (hw : ∀ y ∈ r, bw y ≤ 37) (h1 : 244 < nsize (inr (b0 :: r))) (h2 : nsize (inr (b0 :: r)) ≤ 281) :
  0 < midOf (inr (b0 :: r)) ∧ midOf (inr (b0 :: r)) + 1 < r.length ∧ nsize (inr (b0 :: r.take (midOf (inr (b0 :: r))))) ≤ 244 ∧ nsize (inr (r.drop (midOf (inr (b0 :: r))))) ≤ 244 := by
 have hk : (inr (b0 :: r)).keys.length = r.length := by simp [inr]
 obtain ⟨a, b, c⟩ := midTo_ok (inr (b0 :: r)) r.length
 obtain ⟨m, em⟩ : ∃ m, m = midOf (inr (b0 :: r)) := ⟨_, rfl⟩
 have em' : m = (midTo (inr (b0 :: r)) r.length).1 := by rw [em, midOf, hk]
 rw [← em]
 have hs := nsize_inr b0 r
 have hbp : ∀ y : Br, 5 ≤ bw y := fun y => by unfold bw; omega
 -- sizes of the parts
 have hG : ∀ j, j < r.length → ∃ x : Nat, x = bw r[j]! ∧ x ≤ 37 ∧ 5 ≤ x ∧ ((r.map bw).take j).sum + x + ((r.map bw).drop (j + 1)).sum = (r.map bw).sum ∧ nsize (cutL (inr (b0 :: r)) j) = 6 + (((r.map bw).take j).sum : Int) ∧ nsize (cutR (inr (b0 :: r)) j) = 6 + (((r.map bw).drop (j + 1)).sum : Int) := by
  intro j hj
  have hwj : (r.map bw)[j]? = some (bw r[j]) := by simp [hj]
  have hsp := sum_split (r.map bw) (j + 1)
  rw [sum_take_succ hwj] at hsp
  refine ⟨bw r[j], by rw [getElem!_pos r j hj], hw _ (List.getElem_mem hj), hbp _, hsp, ?_, ?_⟩
  ·rw [cutL_inr, nsize_inr, List.map_take]
  ·rw [cutR_inr]
   have e : r.drop j = r[j] :: r.drop (j + 1) := List.drop_eq_getElem_cons hj
   rw [e, nsize_inr, List.map_drop]
 have hlen : 6 < r.length := by
  have : ∀ l : List Br, (∀ y ∈ l, bw y ≤ 37) → (l.map bw).sum ≤ 37 * l.length := by
   intro l
   induction l with
   | nil => intro _; simp
   | cons a l ih =>
    intro h
    have h1 := ih fun y hy => h y (by simp [hy])
    have h2 := h a (by simp)
    simp only [List.map_cons, List.sum_cons, List.length_cons]
    omega
  have := this r hw
  omega
 obtain ⟨j, j1, j2, j3⟩ := pref (r.map bw) 238 (by omega)
 have jl : j < r.length := by simpa using j1
 obtain ⟨x, _, x1, x2, x3, x4, x5⟩ := hG j jl
 have hwj : (r.map bw)[j]? = some (bw r[j]) := by simp [jl]
 rw [sum_take_succ hwj] at j3
 have hxj : x = bw r[j] := by
  obtain ⟨x', h9, _⟩ := hG j jl
  have : r[j]! = r[j] := getElem!_pos r j jl
  simp_all
 have hg : cutG (inr (b0 :: r)) j ≤ 244 := by unfold cutG; rw [x4, x5]; omega
 have hlt := a j jl
 obtain ⟨c1, c2⟩ := c (by omega)
 rw [← em'] at c1 c2
 have hgm : cutG (inr (b0 :: r)) m ≤ 244 := by omega
 have hmin : ∀ j, j < r.length → cutG (inr (b0 :: r)) m ≤ cutG (inr (b0 :: r)) j := fun j hj => by have := a j hj; omega
 refine ⟨?_, ?_, ?_, ?_⟩
 ·apply Nat.pos_of_ne_zero
  intro h0
  have hm1 := hmin 1 (by omega)
  rw [h0] at hm1
  obtain ⟨y, _, y1, y2, y3, y4, y5⟩ := hG 0 (by omega)
  obtain ⟨z, _, z1, z2, z3, z4, z5⟩ := hG 1 (by omega)
  have e0 : ((r.map bw).take 0).sum = 0 := by simp
  have hw0 : (r.map bw)[0]? = some (bw r[0]) := by simp [show 0 < r.length by omega]
  have e1 := sum_take_succ hw0
  have hsp0 := sum_split (r.map bw) 1
  have b1 := hw r[0] (List.getElem_mem (by omega))
  unfold cutG at hm1
  rw [y4, y5, z4, z5] at hm1
  simp only [Nat.zero_add] at *
  omega
 ·by_cases h9 : m + 1 < r.length
  ·exact h9
  ·exfalso
   have hmm : m = r.length - 1 := by omega
   have hm1 := hmin (r.length - 2) (by omega)
   rw [hmm] at hm1
   obtain ⟨y, _, y1, y2, y3, y4, y5⟩ := hG (r.length - 1) (by omega)
   obtain ⟨z, _, z1, z2, z3, z4, z5⟩ := hG (r.length - 2) (by omega)
   have ed : ((r.map bw).drop (r.length - 1 + 1)).sum = 0 := by rw [List.drop_eq_nil_of_le (by simp; omega)]; rfl
   have hwl : (r.map bw)[r.length - 2]? = some (bw r[r.length - 2]) := by simp [show r.length - 2 < r.length by omega]
   have e1 := sum_take_succ hwl
   rw [show r.length - 2 + 1 = r.length - 1 by omega] at e1 z3 z5
   have hwl2 : (r.map bw)[r.length - 1]? = some (bw r[r.length - 1]) := by simp [show r.length - 1 < r.length by omega]
   have hsp0 := sum_split (r.map bw) (r.length - 1)
   have b1 := hbp r[r.length - 2]
   unfold cutG at hm1
   rw [y4, y5, z4, z5] at hm1
   omega
 ·rw [← cutL_inr]; unfold cutG at hgm; omega
 ·rw [← cutR_inr (b := b0)]; unfold cutG at hgm; omega
end Go.Proofs.YtpiikmkajckccaaGreat

namespace Go.Proofs.YtpiikmkajckccaaGreat
def pgs : Int → List Nd → List Wrt
 | _, [] => []
 | z, n :: r => (z, nenc n) :: pgs (z + 1) r
theorem pgs_len : ∀ (z : Int) (ad : List Nd), (pgs z ad).length = ad.length
 | _, [] => rfl
 | z, n :: r => by simp [pgs, pgs_len (z + 1) r]
theorem pgs_app : ∀ (z : Int) (a b : List Nd), pgs z (a ++ b) = pgs z a ++ pgs (z + a.length) b
 | z, [], b => by simp [pgs]
 | z, n :: a, b => by
  simp only [List.cons_append, pgs, List.length_cons]
  rw [pgs_app (z + 1) a b]
  congr 3
  push_cast
  omega
theorem tpage_app (b : List Wrt) (id : Int) : ∀ a : List Wrt, tpage (a ++ b) id = match tpage a id with | some x => some x | none => tpage b id
 | [] => rfl
 | y :: a => by
  simp only [List.cons_append, tpage]
  split
  ·rfl
  ·exact tpage_app b id a
theorem tpage_pgs_at : ∀ {z : Int} {ad : List Nd} {i : Nat} {n : Nd}, ad[i]? = some n → tpage (pgs z ad) (z + i) = some (nenc n)
 | z, [], i, n, h => by simp at h
 | z, m :: r, 0, n, h => by
  have : m = n := by simpa using h
  subst this
  simp [pgs, tpage]
 | z, m :: r, i + 1, n, h => by
  have ih := tpage_pgs_at (z := z + 1) (ad := r) (i := i) (n := n) (by simpa using h)
  simp only [pgs, tpage]
  rw [if_neg (by push_cast; omega), show z + ((i + 1 : Nat) : Int) = z + 1 + (i : Int) by push_cast; omega]
  exact ih
abbrev lp (l : List Wrt) (next : Int) (ad : List Nd) : List Wrt := l ++ pgs next ad
theorem ext_app (a b : List Wrt) : Ext a (a ++ b) := fun id x h => by rw [tpage_app, h]
theorem ext_more (l : List Wrt) (next : Int) (ad more : List Nd) : Ext (lp l next ad) (lp l next (ad ++ more)) := by
 rw [lp, lp, pgs_app, ← List.append_assoc]
 exact ext_app _ _
theorem new_is {l : List Wrt} {next : Int} {ad more : List Nd} {n : Nd} (hnl : ∀ id x, tpage l id = some x → id < next) (hok : NOk n) : NdIs (lp l next (ad ++ n :: more)) (next + ad.length) n := by
 refine ⟨nenc n, ?_, ndec_enc hok⟩
 rw [tpage_app]
 cases h : tpage l (next + (ad.length : Int)) with
 | some x => have := hnl _ _ h; omega
 | none => exact tpage_pgs_at (by simp)
def NO (l : List Wrt) : Nat → Nd → Str → Option Str → Prop
 | 0, n, lo, hi => ∃ ps, n = lf ps ∧ PrOk ps ∧ ∀ y ∈ ps, kin lo hi y.1 = true
 | d + 1, n, lo, hi => ∃ bs, n = inr bs ∧ BrOk bs ∧ Seg l d lo hi bs
def nP (l : List Wrt) : Nat → Nd → List Pr
 | 0, n => npr n
 | d + 1, n => n.kids.flatMap (pOf l d)
def nI (l : List Wrt) : Nat → Nd → List Int
 | 0, _ => []
 | d + 1, n => n.kids.flatMap (idsOf l d)
def Lim : Nat → Int
 | 0 => 342
 | _ + 1 => 281
theorem NO.ext {l l' : List Wrt} (h : Ext l l') {d : Nat} {n : Nd} {lo : Str} {hi : Option Str} (k : NO l d n lo hi) : NO l' d n lo hi ∧ nP l' d n = nP l d n ∧ nI l' d n = nI l d n := by
 cases d with
 | zero => exact ⟨k, rfl, rfl⟩
 | succ d =>
  obtain ⟨bs, rfl, h1, h2⟩ := k
  have hs := seg_ext h h2.each
  refine ⟨⟨bs, rfl, h1, h2.ext h⟩, ?_, ?_⟩
  ·rw [nP, nP, sprs_inr, sprs_inr]; exact hs.1
  ·rw [nI, nI, sids_inr, sids_inr]; exact hs.2
theorem tok_no {l : List Wrt} {d : Nat} {id : Int} {lo : Str} {hi : Option Str} (h : TOk l d id lo hi) : ∃ nd, NdIs l id nd ∧ NO l d nd lo hi ∧ idsOf l d id = id :: nI l d nd ∧ pOf l d id = nP l d nd := by
 cases d with
 | zero =>
  obtain ⟨nd, hN, h1, h2, h3⟩ := h
  obtain ⟨e, hp⟩ := lf_to hN.ok h1
  refine ⟨nd, hN, ⟨_, e, hp, fun y hy => List.all_eq_true.1 h3 _ (List.of_mem_zip hy).1⟩, rfl, by rw [pOf, hN.at]; rfl⟩
 | succ d =>
  obtain ⟨nd, hN, h1, h2, h3, h4⟩ := tok_seg h
  obtain ⟨e, hb, _⟩ := inr_to hN.ok h1
  refine ⟨nd, hN, ⟨_, e, hb, h2⟩, ?_, ?_⟩
  ·rw [h3, nI]
   conv => rhs; rw [e]
   rw [sids_inr]
  ·rw [h4, nP]
   conv => rhs; rw [e]
   rw [sprs_inr]
theorem no_tok {l : List Wrt} {d : Nat} {id : Int} {n : Nd} {lo : Str} {hi : Option Str} (h : NO l d n lo hi) (hN : NdIs l id n) (h0 : n.keys ≠ []) : TOk l d id lo hi ∧ idsOf l d id = id :: nI l d n ∧ pOf l d id = nP l d n := by
 cases d with
 | zero =>
  obtain ⟨ps, rfl, h1, h2⟩ := h
  obtain ⟨a, b, c⟩ := lf_tok hN (fun e => h0 (by subst e; rfl)) h2
  exact ⟨a, b, by rw [c, nP, npr_lf]⟩
 | succ d =>
  obtain ⟨bs, rfl, h1, h2⟩ := h
  obtain ⟨a, b, c⟩ := seg_tok hN h2
  exact ⟨a, by rw [b, nI, sids_inr], by rw [c, nP, sprs_inr]⟩
theorem NO.ok {l : List Wrt} {d : Nat} {n : Nd} {lo : Str} {hi : Option Str} (h : NO l d n lo hi) (h0 : n.keys ≠ []) (hs : nsize n ≤ 244) : NOk n := by
 cases d with
 | zero =>
  obtain ⟨ps, rfl, h1, h2⟩ := h
  exact lf_ok h1 hs
 | succ d =>
  obtain ⟨bs, rfl, h1, h2⟩ := h
  exact inr_ok h2.keys.1 h1 (fun e => h0 (by unfold inr; rw [e]; rfl)) hs
theorem NO.leaf {l : List Wrt} {d : Nat} {n : Nd} {lo : Str} {hi : Option Str} (h : NO l d n lo hi) : n.leaf = decide (d = 0) := by
 cases d with
 | zero => obtain ⟨ps, rfl, _⟩ := h; rfl
 | succ d => obtain ⟨ps, rfl, _⟩ := h; rfl
theorem TOk.there {l : List Wrt} {next : Int} (hnl : ∀ id x, tpage l id = some x → id < next) : ∀ {d : Nat} {id : Int} {lo : Str} {hi : Option Str}, TOk l d id lo hi → ∀ i ∈ idsOf l d id, i < next
 | 0, id, lo, hi, ⟨nd, ⟨x, hx, _⟩, _⟩, i, hi9 => by
  have : i = id := by simpa [idsOf] using hi9
  subst this; exact hnl _ _ hx
 | d + 1, id, lo, hi, ⟨nd, hN, h1, h2, h3⟩, i, hi9 => by
  rw [idsOf, hN.at] at hi9
  rcases List.mem_cons.1 hi9 with rfl | hi9
  ·obtain ⟨x, hx, _⟩ := hN; exact hnl _ _ hx
  ·obtain ⟨kid, hk, hi9⟩ := List.mem_flatMap.1 hi9
   obtain ⟨j, hj⟩ := mem_at hk
   exact TOk.there hnl (h3 j kid hj) i hi9
theorem Seg.there {l : List Wrt} {next : Int} (hnl : ∀ id x, tpage l id = some x → id < next) {d : Nat} {lo : Str} {hi : Option Str} {bs : List Br} (h : Seg l d lo hi bs) : ∀ i ∈ sids l d bs, i < next := by
 intro i hi9
 obtain ⟨b, hb, hi9⟩ := List.mem_flatMap.1 hi9
 obtain ⟨_, _, q⟩ := h.each b hb
 exact q.there hnl i hi9
def laidOf (next : Int) (ad : List Nd) (n : Nd) (ahead : Str) : List Br × List Nd :=
 if n.keys.length = 0 then ([], ad)
 else if nsize n ≤ 244 then ([(ahead, next + (ad.length : Int))], ad ++ [n])
 else ([(ahead, next + (ad.length : Int)), (n.keys.getD (midOf n) [], next + (ad.length : Int) + 1)], ad ++ [cutL n (midOf n), cutR n (midOf n)])
structure Laid (l : List Wrt) (next : Int) (ad ad' : List Nd) (d : Nat) (n : Nd) (ahead lo : Str) (hi : Option Str) (bs : List Br) : Prop where
 more : ∃ more, ad' = ad ++ more ∧ more.length ≤ 2 ∧ ∀ x ∈ more, NOk x
 prs : sprs (lp l next ad') d bs = nP (lp l next ad) d n
 nod : (sids (lp l next ad') d bs).Nodup
 ids : ∀ i ∈ sids (lp l next ad') d bs, i ∈ nI (lp l next ad) d n ∨ (next + (ad.length : Int) ≤ i ∧ i < next + (ad'.length : Int))
 seg : (bs = [] ∧ n.keys = []) ∨ (∃ k r, bs = (ahead, k) :: r ∧ Seg (lp l next ad') d lo hi bs)
 br : BrOk bs
 len : bs.length ≤ 2
theorem laid_len (next : Int) (ad : List Nd) (n : Nd) (ahead : Str) : ad.length ≤ (laidOf next ad n ahead).2.length ∧ (laidOf next ad n ahead).2.length ≤ ad.length + 2 := by
 unfold laidOf
 split
 ·exact ⟨Nat.le_refl _, Nat.le_add_right _ _⟩
 ·split <;> simp
theorem nodup_two {a b : Int} {x y : List Int} (h : (x ++ y).Nodup) (hab : a ≠ b) (ha : a ∉ x ++ y) (hb : b ∉ x ++ y) : ((a :: x) ++ (b :: y)).Nodup := by
 rw [List.nodup_append] at h ⊢
 simp only [List.mem_append, not_or] at ha hb
 refine ⟨List.nodup_cons.2 ⟨ha.1, h.1⟩, List.nodup_cons.2 ⟨hb.2, h.2.1⟩, fun p hp q hq e => ?_⟩
 subst e
 rcases List.mem_cons.1 hp with rfl | hp <;> rcases List.mem_cons.1 hq with h9 | hq
 ·exact hab h9
 ·exact ha.2 hq
 ·subst h9; exact hb.1 hp
 ·exact h.2.2 p hp p hq rfl
theorem laid_ok {l : List Wrt} {next : Int} {ad : List Nd} {d : Nat} {n : Nd} {ahead lo : Str} {hi : Option Str} (hnl : ∀ id x, tpage l id = some x → id < next) (hn1 : 1 ≤ next) (hN : NO (lp l next ad) d n lo hi) (hL : nsize n ≤ Lim d) (hnod : (nI (lp l next ad) d n).Nodup)
  (hold : ∀ i ∈ nI (lp l next ad) d n, i < next + (ad.length : Int)) (hM : next + ((laidOf next ad n ahead).2.length : Int) ≤ 65536) (hnb : n.leaf = true ∨ n.keys ≠ []) :
  Laid l next ad (laidOf next ad n ahead).2 d n ahead lo hi (laidOf next ad n ahead).1 := by
 unfold laidOf at hM ⊢
 by_cases h0 : n.keys.length = 0
 ·rw [if_pos h0] at hM ⊢
  have hk : n.keys = [] := List.eq_nil_of_length_eq_zero h0
  have hl : n.leaf = true := by
   rcases hnb with h | h
   ·exact h
   ·exact absurd hk h
  have hd : d = 0 := by have := hN.leaf; rw [hl] at this; simpa using this.symm
  subst hd
  refine ⟨⟨[], by simp, by simp, fun x hx => by cases hx⟩, ?_, by simp [sids], fun i hi => by simp [sids] at hi, .inl ⟨rfl, hk⟩, ⟨(fun b hb => by cases hb), (fun b hb => by cases hb)⟩, by simp⟩
  show sprs _ _ [] = npr n
  rw [npr, hk]; rfl
 ·rw [if_neg h0] at hM ⊢
  have hk : n.keys ≠ [] := fun e => h0 (by rw [e]; rfl)
  by_cases h1 : nsize n ≤ 244
  ·rw [if_pos h1] at hM ⊢
   dsimp only at hM ⊢
   have hok := hN.ok hk h1
   obtain ⟨hN2, e1, e2⟩ := hN.ext (ext_more l next ad [n])
   have his : NdIs (lp l next (ad ++ [n])) (next + ad.length) n := new_is hnl hok
   obtain ⟨t1, t2, t3⟩ := no_tok hN2 his hk
   have hM' : next + ((ad.length : Int) + 1) ≤ 65536 := by simpa using hM
   refine ⟨⟨[n], rfl, by simp, fun x hx => by simp at hx; subst hx; exact hok⟩, ?_, ?_, ?_, .inr ⟨_, [], rfl, t1⟩, ⟨(fun b hb => by cases hb), fun b hb => ?_⟩, by simp⟩
   ·simp only [sprs, List.flatMap_cons, List.flatMap_nil, List.append_nil]
    rw [t3, e1]
   ·simp only [sids, List.flatMap_cons, List.flatMap_nil, List.append_nil]
    rw [t2, e2, List.nodup_cons]
    exact ⟨fun h => by have := hold _ h; omega, hnod⟩
   ·intro i hi9
    simp only [sids, List.flatMap_cons, List.flatMap_nil, List.append_nil] at hi9
    rw [t2, e2] at hi9
    rcases List.mem_cons.1 hi9 with rfl | hi9
    ·exact .inr ⟨Int.le_refl _, by simp; omega⟩
    ·exact .inl hi9
   ·simp only [List.mem_singleton] at hb
    subst hb
    show 1 ≤ next + (ad.length : Int) ∧ next + (ad.length : Int) ≤ 65536
    omega
  ·rw [if_neg h1] at hM ⊢
   dsimp only at hM ⊢
   have hM' : next + ((ad.length : Int) + 2) ≤ 65536 := by simpa using hM
   have e9 : ad ++ [cutL n (midOf n), cutR n (midOf n)] = (ad ++ [cutL n (midOf n)]) ++ [cutR n (midOf n)] := by simp
   have e8 : (next + (ad.length : Int) + 1) = next + ((ad ++ [cutL n (midOf n)]).length : Int) := by simp; omega
   cases d with
   | zero =>
    obtain ⟨ps, rfl, hp, hin⟩ := hN
    have hw : ∀ y ∈ ps, pw y ≤ 98 := fun y hy => by have := hp.2 y hy; unfold pw; omega
    obtain ⟨m1, m2, m3, m4⟩ := leaf_cut hw (by omega) hL
    obtain ⟨m, hm⟩ : ∃ m, m = midOf (lf ps) := ⟨_, rfl⟩
    rw [← hm] at m1 m2 m3 m4 e9 e8 ⊢
    rw [cutL_lf, cutR_lf] at e9 ⊢
    rw [cutL_lf] at e8
    have hr := hp.1
    have eps : ps.take m ++ ps.drop m = ps := List.take_append_drop m ps
    have hr2 := hr
    rw [← eps, List.map_append] at hr2
    obtain ⟨r1, r2, r3⟩ := List.pairwise_append.1 hr2
    have hgk : (lf ps).keys.getD m [] = ps[m].1 := by simp [lf, m2]
    rw [hgk]
    have hdr : ps.drop m = ps[m] :: ps.drop (m + 1) := List.drop_eq_getElem_cons m2
    have okL : NOk (lf (ps.take m)) := lf_ok ⟨r1, fun y hy => hp.2 y (List.mem_of_mem_take hy)⟩ m3
    have okR : NOk (lf (ps.drop m)) := lf_ok ⟨r2, fun y hy => hp.2 y (List.mem_of_mem_drop hy)⟩ m4
    have isL : NdIs (lp l next (ad ++ [lf (ps.take m), lf (ps.drop m)])) (next + ad.length) (lf (ps.take m)) := new_is hnl okL
    have isR : NdIs (lp l next (ad ++ [lf (ps.take m), lf (ps.drop m)])) (next + (ad.length : Int) + 1) (lf (ps.drop m)) := by rw [e9, e8]; exact new_is hnl okR
    have hmm : ps[m].1 ∈ (ps.drop m).map (·.1) := List.mem_map.2 ⟨ps[m], by rw [hdr]; exact List.mem_cons_self .., rfl⟩
    obtain ⟨a1, a2, a3⟩ := lf_tok (lo := lo) (hi := some ps[m].1) isL (fun e => by have := congrArg List.length e; simp only [List.length_take, List.length_nil] at this; omega) (fun y hy => by
     have h8 := hin y (List.mem_of_mem_take hy)
     simp only [Go.Proofs.YtpiikmkajckccaaGreat.kin, Bool.and_eq_true, Bool.not_eq_true'] at h8 ⊢
     exact ⟨h8.1, r3 y.1 (List.mem_map.2 ⟨y, hy, rfl⟩) _ hmm⟩)
    obtain ⟨b1, b2, b3⟩ := lf_tok (lo := ps[m].1) (hi := hi) isR (fun e => by have := congrArg List.length e; simp only [List.length_drop, List.length_nil] at this; omega) (fun y hy => by
     have h8 := hin y (List.mem_of_mem_drop hy)
     simp only [Go.Proofs.YtpiikmkajckccaaGreat.kin, Bool.and_eq_true, Bool.not_eq_true'] at h8 ⊢
     refine ⟨?_, h8.2⟩
     rw [hdr] at hy r2
     rcases List.mem_cons.1 hy with rfl | hy
     ·exact slt_irr _
     ·rw [List.map_cons] at r2
      exact slt_asym ((List.pairwise_cons.1 r2).1 y.1 (List.mem_map.2 ⟨y, hy, rfl⟩)))
    refine ⟨⟨_, rfl, by simp, fun x hx => ?_⟩, ?_, ?_, ?_, .inr ⟨_, _, rfl, a1, b1⟩, ⟨fun b hb => ?_, fun b hb => ?_⟩, by simp⟩
    ·simp at hx; rcases hx with rfl | rfl
     ·exact okL
     ·exact okR
    ·simp only [sprs, List.flatMap_cons, List.flatMap_nil, List.append_nil]
     rw [a3, b3, eps, nP, npr_lf]
    ·simp only [sids, List.flatMap_cons, List.flatMap_nil, List.append_nil]
     rw [a2, b2]
     refine List.nodup_append.2 ⟨by simp, by simp, fun a ha b hb e => ?_⟩
     simp only [List.mem_singleton] at ha hb
     omega
    ·intro i hi9
     simp only [sids, List.flatMap_cons, List.flatMap_nil, List.append_nil] at hi9
     rw [a2, b2] at hi9
     refine .inr ?_
     simp at hi9 ⊢
     omega
    ·simp only [List.tail_cons, List.mem_singleton] at hb
     subst hb
     exact (hp.2 ps[m] (List.getElem_mem m2)).1
    ·simp only [List.mem_cons, List.not_mem_nil, or_false] at hb
     rcases hb with rfl | rfl
     ·show 1 ≤ next + (ad.length : Int) ∧ next + (ad.length : Int) ≤ 65536
      omega
     ·show 1 ≤ next + (ad.length : Int) + 1 ∧ next + (ad.length : Int) + 1 ≤ 65536
      omega
   | succ d =>
    have hNe := hN.ext (ext_more l next ad [cutL n (midOf n), cutR n (midOf n)])
    obtain ⟨bs, rfl, hb, hsg⟩ := hN
    cases bs with
    | nil => exact hsg.elim
    | cons b0 r =>
     have hw : ∀ y ∈ r, bw y ≤ 37 := fun y hy => by have := hb.1 y (by simpa using hy); unfold bw; omega
     obtain ⟨m1, m2, m3, m4⟩ := inr_cut hw (by omega) hL
     obtain ⟨m, hm⟩ : ∃ m, m = midOf (inr (b0 :: r)) := ⟨_, rfl⟩
     rw [← hm] at m1 m2 m3 m4 e9 e8 hNe ⊢
     rw [cutL_inr, cutR_inr] at e9 hNe ⊢
     rw [cutL_inr] at e8
     have hml : m < r.length := by omega
     have hgk : (inr (b0 :: r)).keys.getD m [] = r[m].1 := by simp [inr, hml]
     rw [hgk]
     have hdr : r.drop m = r[m] :: r.drop (m + 1) := List.drop_eq_getElem_cons hml
     have eb : b0 :: r = (b0 :: r.take m) ++ r[m] :: r.drop (m + 1) := by rw [List.cons_append, ← hdr, List.take_append_drop]
     obtain ⟨L2, hL2⟩ : ∃ L, L = lp l next (ad ++ [inr (b0 :: r.take m), inr (r.drop m)]) := ⟨_, rfl⟩
     rw [← hL2] at hNe
     obtain ⟨⟨bs', ebs, _, sg2⟩, e1, e2⟩ := hNe
     have sg : Seg L2 d lo hi (b0 :: r) := by rw [hL2]; exact hsg.ext (ext_more l next ad _)
     have sgk := sg.keys.1
     rw [eb, seg_app (by simp)] at sg
     have kr : Rise (r.map (·.1)) := sgk
     rw [← List.take_append_drop m r, List.map_append] at kr
     obtain ⟨r1, r2, r3⟩ := List.pairwise_append.1 kr
     have okL : NOk (inr (b0 :: r.take m)) := inr_ok r1 ⟨fun b h9 => hb.1 b (List.mem_of_mem_take h9), fun b h9 => hb.2 b (by rcases List.mem_cons.1 h9 with rfl | h9; exact List.mem_cons_self ..; exact List.mem_cons_of_mem _ (List.mem_of_mem_take h9))⟩ (fun e => by have := congrArg List.length e; simp only [List.tail_cons, List.length_take, List.length_nil] at this; omega) m3
     have okR : NOk (inr (r.drop m)) := by
      refine inr_ok ?_ ⟨fun b h9 => hb.1 b (List.mem_of_mem_drop (List.mem_of_mem_tail h9)), fun b h9 => hb.2 b (List.mem_cons_of_mem _ (List.mem_of_mem_drop h9))⟩ (fun e => by have := congrArg List.length e; simp only [List.length_tail, List.length_drop, List.length_nil] at this; omega) m4
      rw [hdr, List.map_cons] at r2
      rw [hdr]
      exact (List.pairwise_cons.1 r2).2
     have isL : NdIs L2 (next + ad.length) (inr (b0 :: r.take m)) := by rw [hL2]; exact new_is hnl okL
     have isR : NdIs L2 (next + (ad.length : Int) + 1) (inr (r.drop m)) := by rw [hL2, e9, e8]; exact new_is hnl okR
     obtain ⟨a1, a2, a3⟩ := seg_tok isL sg.1
     rw [← hdr] at sg
     obtain ⟨b1, b2, b3⟩ := seg_tok isR sg.2
     have es : sids L2 d (b0 :: r.take m) ++ sids L2 d (r.drop m) = nI (lp l next ad) (d + 1) (inr (b0 :: r)) := by
      rw [← sids_app, List.cons_append, List.take_append_drop, ← e2, nI, sids_inr]
     have ep : sprs L2 d (b0 :: r.take m) ++ sprs L2 d (r.drop m) = nP (lp l next ad) (d + 1) (inr (b0 :: r)) := by
      rw [← sprs_app, List.cons_append, List.take_append_drop, ← e1, nP, sprs_inr]
     refine ⟨⟨_, rfl, by simp, fun x hx => ?_⟩, ?_, ?_, ?_, .inr ⟨_, _, rfl, ?_⟩, ⟨fun b h9 => ?_, fun b h9 => ?_⟩, by simp⟩
     ·simp at hx; rcases hx with rfl | rfl
      ·exact okL
      ·exact okR
     ·rw [← hL2]
      simp only [sprs, List.flatMap_cons, List.flatMap_nil, List.append_nil]
      rw [a3, b3, ep]
     ·rw [← hL2]
      simp only [sids, List.flatMap_cons, List.flatMap_nil, List.append_nil]
      rw [a2, b2]
      rw [← es] at hnod hold
      exact nodup_two hnod (by omega) (fun h => by have := hold _ h; omega) (fun h => by have := hold _ h; omega)
     ·rw [← hL2]
      intro i hi9
      simp only [sids, List.flatMap_cons, List.flatMap_nil, List.append_nil] at hi9
      rw [a2, b2] at hi9
      rw [← es]
      simp only [List.cons_append, List.mem_cons, List.mem_append] at hi9
      rcases hi9 with rfl | hi9 | rfl | hi9
      ·exact .inr ⟨Int.le_refl _, by simp; omega⟩
      ·exact .inl (List.mem_append_left _ hi9)
      ·exact .inr ⟨by omega, by simp; omega⟩
      ·exact .inl (List.mem_append_right _ hi9)
     ·rw [← hL2]; exact ⟨a1, b1⟩
     ·simp only [List.tail_cons, List.mem_singleton] at h9
      subst h9
      exact hb.1 r[m] (by simp)
     ·simp only [List.mem_cons, List.not_mem_nil, or_false] at h9
      rcases h9 with rfl | rfl
      ·show 1 ≤ next + (ad.length : Int) ∧ next + (ad.length : Int) ≤ 65536
       omega
      ·show 1 ≤ next + (ad.length : Int) + 1 ∧ next + (ad.length : Int) + 1 ≤ 65536
       omega
end Go.Proofs.YtpiikmkajckccaaGreat

namespace Go.Proofs.YtpiikmkajckccaaGreat
def loY (P : List Br) (a lo : Str) : Str := if P = [] then lo else a
def hiS : List Br → Option Str → Option Str
 | [], hi => hi
 | c :: _, _ => some c.1
theorem seg3 {l : List Wrt} {d : Nat} {lo : Str} {hi : Option Str} {P S Y : List Br} {y : Br} :
  Seg l d lo hi (P ++ (y :: Y) ++ S) ↔ (P = [] ∨ Seg l d lo (some y.1) P) ∧ Seg l d (loY P y.1 lo) (hiS S hi) (y :: Y) ∧ (S = [] ∨ ∃ c r, S = c :: r ∧ Seg l d c.1 hi S) := by
 cases P with
 | nil =>
  simp only [List.nil_append, loY, if_true, true_or, true_and]
  cases S with
  | nil => simp [hiS]
  | cons c r =>
   rw [seg_app (by simp)]
   constructor
   ·rintro ⟨h1, h2⟩; exact ⟨h1, .inr ⟨c, r, rfl, h2⟩⟩
   ·rintro ⟨h1, h2 | ⟨c', r', e, h2⟩⟩
    ·cases h2
    ·cases e; exact ⟨h1, h2⟩
 | cons p P =>
  have e : loY (p :: P) y.1 lo = y.1 := by simp [loY]
  rw [e, List.append_assoc, List.cons_append (a := y), seg_app (by simp)]
  have hp : (p :: P = [] ∨ Seg l d lo (some y.1) (p :: P)) ↔ Seg l d lo (some y.1) (p :: P) := by simp
  rw [hp]
  refine and_congr_right fun _ => ?_
  cases S with
  | nil => simp [hiS]
  | cons c r =>
   rw [← List.cons_append, seg_app (by simp)]
   constructor
   ·rintro ⟨h1, h2⟩; exact ⟨h1, .inr ⟨c, r, rfl, h2⟩⟩
   ·rintro ⟨h1, h2 | ⟨c', r', e, h2⟩⟩
    ·cases h2
    ·cases e; exact ⟨h1, h2⟩
theorem wide_hi {l : List Wrt} {d : Nat} {a : Str} {hi : Option Str} {Y : List Br} (h : Seg l d a hi Y) (lo : Str) : Wide lo (some a) lo hi := by
 refine ⟨slt_irr _, ?_⟩
 cases hi with
 | none => trivial
 | some b => exact slt_asym h.room
theorem seg_gone {l : List Wrt} {d : Nat} {lo : Str} {hi : Option Str} {P S Y : List Br} {y : Br} (h : Seg l d lo hi (P ++ (y :: Y) ++ S)) (h0 : P ++ S ≠ []) : Seg l d lo hi (P ++ S) := by
 obtain ⟨h1, h2, h3⟩ := seg3.1 h
 cases P with
 | nil =>
  cases S with
  | nil => simp at h0
  | cons c r =>
   rcases h3 with h3 | ⟨c', r', e, h3⟩
   ·cases h3
   ·cases e
    simp only [loY, if_true, hiS] at h2
    exact h3.lo (slt_asym h2.room)
 | cons p P =>
  have e : loY (p :: P) y.1 lo = y.1 := by simp [loY]
  rw [e] at h2
  have hP : Seg l d lo (some y.1) (p :: P) := by
   rcases h1 with h1 | h1
   ·cases h1
   ·exact h1
  cases S with
  | nil => rw [List.append_nil]; exact hP.hi (fun lo => wide_hi h2 lo)
  | cons c r =>
   rcases h3 with h3 | ⟨c', r', e, h3⟩
   ·cases h3
   ·cases e
    rw [seg_app (by simp)]
    exact ⟨hP.hi (fun lo => wide_hi h2 lo), h3⟩
def tw (bs : List Br) : Nat := (bs.map bw).sum
theorem tw_app (a b : List Br) : tw (a ++ b) = tw a + tw b := by simp [tw]
theorem tw_le {bs : List Br} (h : ∀ b ∈ bs, b.1.length ≤ 32) : tw bs ≤ 37 * bs.length := by
 induction bs with
 | nil => simp [tw]
 | cons b r ih =>
  have h1 := ih fun x hx => h x (by simp [hx])
  have h2 := h b (by simp)
  simp only [tw, List.map_cons, List.sum_cons, List.length_cons, bw] at h1 ⊢
  omega
theorem nsize_tail {bs : List Br} (h : bs ≠ []) : nsize (inr bs) = 6 + (tw bs.tail : Int) := by
 cases bs with
 | nil => exact absurd rfl h
 | cons b r => rw [nsize_inr]; rfl
structure Now (l : List Wrt) (d : Nat) (y : Br) (lo : Str) (hi : Option Str) (now : List Br) : Prop where
 seg : now = [] ∨ ∃ k r, now = (y.1, k) :: r ∧ Seg l d lo hi now
 br : BrOk now
 len : now.length ≤ 2
theorem put_now {l : List Wrt} {d : Nat} {lo : Str} {hi : Option Str} {P S Y now : List Br} {y : Br} (h : Seg l d lo hi (P ++ (y :: Y) ++ S)) (h0 : P ++ S ≠ [] ∨ now ≠ []) (hN : Now l d y (loY P y.1 lo) (hiS S hi) now) (hb : BrOk (P ++ (y :: Y) ++ S)) :
  Seg l d lo hi (P ++ now ++ S) ∧ BrOk (P ++ now ++ S) ∧ nsize (inr (P ++ now ++ S)) ≤ nsize (inr (P ++ (y :: Y) ++ S)) + 37 := by
 have hpn : P ++ (y :: Y) ++ S ≠ [] := by simp
 rcases hN.seg with rfl | ⟨k, r, rfl, hs⟩
 ·rw [List.append_nil]
  have h9 : P ++ S ≠ [] := by rcases h0 with h0 | h0; exact h0; exact absurd rfl h0
  refine ⟨seg_gone h h9, ⟨fun b hb9 => ?_, fun b hb9 => hb.2 b (by simp only [List.mem_append] at hb9 ⊢; rcases hb9 with h | h <;> simp [h])⟩, ?_⟩
  ·refine hb.1 b ?_
   cases P with
   | nil => simp only [List.nil_append] at hb9; simp [List.mem_of_mem_tail hb9]
   | cons p P =>
    simp only [List.cons_append, List.tail_cons, List.mem_append] at hb9 ⊢
    rcases hb9 with h | h <;> simp [h]
  ·rw [nsize_tail h9, nsize_tail hpn]
   cases P with
   | nil =>
    have : tw S.tail ≤ tw S := by cases S with | nil => simp [tw] | cons a r => simp [tw]
    simp only [List.nil_append, List.cons_append, List.tail_cons, tw_app]
    push_cast; omega
   | cons p P => simp only [List.cons_append, List.tail_cons, tw_app]; push_cast; omega
 ·have hr : tw r ≤ 37 := by
   have h1 := tw_le (bs := r) (fun b hb9 => (hN.br.1 b (by simpa using hb9)).2)
   have h2 := hN.len
   simp only [List.length_cons] at h2
   have : 37 * r.length ≤ 37 := by omega
   omega
  obtain ⟨a1, a2, a3⟩ := seg3.1 h
  refine ⟨seg3.2 ⟨a1, hs, a3⟩, ⟨fun b hb9 => ?_, fun b hb9 => ?_⟩, ?_⟩
  ·cases P with
   | nil =>
    simp only [List.nil_append, List.cons_append, List.tail_cons, List.mem_append] at hb9
    rcases hb9 with h9 | h9
    ·exact hN.br.1 b (by simpa using h9)
    ·exact hb.1 b (by simp [h9])
   | cons p P =>
    simp only [List.cons_append, List.tail_cons, List.mem_append, List.mem_cons] at hb9
    rcases hb9 with (h9 | rfl | h9) | h9
    ·exact hb.1 b (by simp [h9])
    ·exact hb.1 y (by simp)
    ·exact hN.br.1 b (by simpa using h9)
    ·exact hb.1 b (by simp [h9])
  ·simp only [List.mem_append] at hb9
   rcases hb9 with (h9 | h9) | h9
   ·exact hb.2 b (by simp [h9])
   ·exact hN.br.2 b h9
   ·exact hb.2 b (by simp [h9])
  ·rw [nsize_tail (by simp), nsize_tail hpn]
   cases P with
   | nil => simp only [List.nil_append, List.cons_append, List.tail_cons, tw_app]; push_cast; omega
   | cons p P =>
    have e1 : tw ((y.1, k) :: r) = bw y + tw r := by simp [tw, bw]
    have e2 : tw (y :: Y) = bw y + tw Y := by simp [tw, bw]
    simp only [List.cons_append, List.tail_cons, tw_app, e1, e2]; push_cast; omega
def bareB (n : Nd) : Bool := !n.leaf && decide (n.keys.length = 0)
def joinOf (l : List Wrt) (n : Nd) (fr k : Nat) (now : Nd) : Nd :=
 inr (brs (if fr = k then now else nodeAt l (n.kids.getD fr 0)) ++
  (n.keys.getD fr [], (if fr = k then nodeAt l (n.kids.getD (fr + 1) 0) else now).kids.headD 0) :: (brs (if fr = k then nodeAt l (n.kids.getD (fr + 1) 0) else now)).tail)
def rplc (bs : List Br) (i j : Nat) (now : List Br) : List Br := bs.take i ++ now ++ bs.drop j
def rebOf (l : List Wrt) (next : Int) (key : Str) (ed : Nd → Nd) : Nat → Nd → List Nd → Nd × List Nd
 | 0, n, ad => (ed n, ad)
 | d + 1, n, ad =>
  let k := (nfind n key).toNat
  let p := rebOf l next key ed d (nodeAt l (n.kids.getD k 0)) ad
  if bareB p.1 = true then
   let q := laidOf next p.2 (joinOf l n (k - 1) k p.1) ((brs n).getD (k - 1) ([], 0)).1
   (inr (rplc (brs n) (k - 1) (k - 1 + 2) q.1), q.2)
  else
   let q := laidOf next p.2 p.1 ((brs n).getD k ([], 0)).1
   (inr (rplc (brs n) k (k + 1) q.1), q.2)
theorem reb_len (l : List Wrt) (next : Int) (key : Str) (ed : Nd → Nd) : ∀ (d : Nat) (n : Nd) (ad : List Nd), ad.length ≤ (rebOf l next key ed d n ad).2.length ∧ (rebOf l next key ed d n ad).2.length ≤ ad.length + 2 * d
 | 0, n, ad => ⟨Nat.le_refl _, Nat.le_refl _⟩
 | d + 1, n, ad => by
  have ih := reb_len l next key ed d (nodeAt l (n.kids.getD (nfind n key).toNat 0)) ad
  simp only [rebOf]
  split
  ·have := laid_len next (rebOf l next key ed d (nodeAt l (n.kids.getD (nfind n key).toNat 0)) ad).2 (joinOf l n ((nfind n key).toNat - 1) (nfind n key).toNat (rebOf l next key ed d (nodeAt l (n.kids.getD (nfind n key).toNat 0)) ad).1) ((brs n).getD ((nfind n key).toNat - 1) ([], 0)).1
   dsimp only
   omega
  ·have := laid_len next (rebOf l next key ed d (nodeAt l (n.kids.getD (nfind n key).toNat 0)) ad).2 (rebOf l next key ed d (nodeAt l (n.kids.getD (nfind n key).toNat 0)) ad).1 ((brs n).getD (nfind n key).toNat ([], 0)).1
   dsimp only
   omega
structure EdOk (key : Str) (upd : List Pr → List Pr) (ed : Nd → Nd) : Prop where
 leaf : ∀ ps, PrOk ps → nsize (lf ps) ≤ 244 → ed (lf ps) = lf (upd ps) ∧ PrOk (upd ps) ∧ nsize (lf (upd ps)) ≤ 342 ∧ ∀ y ∈ upd ps, y ∈ ps ∨ y.1 = key
 loc : ∀ A X C, (∀ y ∈ A, slt y.1 key = true) → (∀ y ∈ C, slt key y.1 = true) → upd (A ++ X ++ C) = A ++ upd X ++ C
structure Reb (l : List Wrt) (next : Int) (upd : List Pr → List Pr) (d : Nat) (n : Nd) (lo : Str) (hi : Option Str) (ad : List Nd) (n' : Nd) (ad' : List Nd) : Prop where
 more : ∃ more, ad' = ad ++ more ∧ ∀ x ∈ more, NOk x
 no : NO (lp l next ad') d n' lo hi
 prs : nP (lp l next ad') d n' = upd (nP l d n)
 nod : (nI (lp l next ad') d n').Nodup
 ids : ∀ i ∈ nI (lp l next ad') d n', i ∈ nI l d n ∨ (next + (ad.length : Int) ≤ i ∧ i < next + (ad'.length : Int))
 siz : nsize n' ≤ Lim d
theorem brs_inr (bs : List Br) (h : bs ≠ []) : ∃ b r, bs = b :: r ∧ brs (inr bs) = ([], b.2) :: r := by
 cases bs with
 | nil => exact absurd rfl h
 | cons b r =>
  refine ⟨b, r, rfl, ?_⟩
  unfold brs inr
  simp only [List.tail_cons, List.map_cons, List.headD_cons]
  congr 1
  exact zip_map r
where zip_map : ∀ r : List Br, (r.map (·.1)).zip (r.map (·.2)) = r
 | [] => rfl
 | a :: r => by simp [zip_map r]
theorem no_brs {l : List Wrt} {d : Nat} {n : Nd} {lo : Str} {hi : Option Str} (h : NO l (d + 1) n lo hi) : n = inr (brs n) ∧ BrOk (brs n) ∧ Seg l d lo hi (brs n) ∧ nP l (d + 1) n = sprs l d (brs n) ∧ nI l (d + 1) n = sids l d (brs n) := by
 obtain ⟨bs, rfl, h1, h2⟩ := h
 obtain ⟨b, r, rfl, e⟩ := brs_inr bs h2.ne
 have h1' : BrOk (([], b.2) :: r) := ⟨h1.1, fun x hx => by
  rcases List.mem_cons.1 hx with rfl | hx
  ·exact h1.2 b (List.mem_cons_self ..)
  ·exact h1.2 x (List.mem_cons_of_mem _ hx)⟩
 rw [e]
 refine ⟨rfl, h1', (seg_first (b := b) (c := ([], b.2)) rfl).1 h2, ?_, ?_⟩
 ·rw [nP, sprs_inr]; rfl
 ·rw [nI, sids_inr]; rfl
end Go.Proofs.YtpiikmkajckccaaGreat

namespace Go.Proofs.YtpiikmkajckccaaGreat
theorem nodup_mid {A B C N : List Int} {T : Int} (h : (A ++ B ++ C).Nodup) (hN : N.Nodup) (hd : ∀ i ∈ N, i ∈ B ∨ T ≤ i) (hlt : ∀ i ∈ A ++ B ++ C, i < T) : (A ++ N ++ C).Nodup := by
 rw [List.nodup_append] at h ⊢
 obtain ⟨h1, h2, h3⟩ := h
 rw [List.nodup_append] at h1
 obtain ⟨h4, h5, h6⟩ := h1
 refine ⟨?_, h2, ?_⟩
 ·rw [List.nodup_append]
  refine ⟨h4, hN, fun a ha b hb e => ?_⟩
  subst e
  rcases hd a hb with hb | hb
  ·exact h6 a ha a hb rfl
  ·have := hlt a (by simp [ha]); omega
 ·intro a ha b hb e
  subst e
  rcases List.mem_append.1 ha with ha | ha
  ·exact h3 a (by simp [ha]) a hb rfl
  ·rcases hd a ha with ha | ha
   ·exact h3 a (by simp [ha]) a hb rfl
   ·have := hlt a (by simp [hb]); omega
theorem reb_fin {l : List Wrt} {next : Int} {upd : List Pr → List Pr} {d : Nat} {lo : Str} {hi : Option Str} {P S Y : List Br} {y : Br} {ad ad1 : List Nd} {m : Nd}
  (hnl : ∀ id x, tpage l id = some x → id < next) (hn1 : 1 ≤ next)
  (hs : Seg l d lo hi (P ++ (y :: Y) ++ S)) (hb : BrOk (P ++ (y :: Y) ++ S)) (hsz : nsize (inr (P ++ (y :: Y) ++ S)) ≤ 244)
  (hnod : (sids l d (P ++ (y :: Y) ++ S)).Nodup)
  (had : ∃ more, ad1 = ad ++ more ∧ ∀ x ∈ more, NOk x)
  (hm : NO (lp l next ad1) d m (loY P y.1 lo) (hiS S hi)) (hml : nsize m ≤ Lim d) (hmb : m.leaf = true ∨ m.keys ≠ [])
  (hmn : (nI (lp l next ad1) d m).Nodup)
  (hmi : ∀ i ∈ nI (lp l next ad1) d m, i ∈ sids l d (y :: Y) ∨ (next + (ad.length : Int) ≤ i ∧ i < next + (ad1.length : Int)))
  (h0 : P ++ S ≠ [] ∨ m.keys ≠ [])
  (hZ : sprs l d P ++ nP (lp l next ad1) d m ++ sprs l d S = upd (sprs l d (P ++ (y :: Y) ++ S)))
  (hM : next + ((laidOf next ad1 m y.1).2.length : Int) ≤ 65536) :
  Reb l next upd (d + 1) (inr (P ++ (y :: Y) ++ S)) lo hi ad (inr (P ++ (laidOf next ad1 m y.1).1 ++ S)) (laidOf next ad1 m y.1).2 := by
 obtain ⟨more, rfl, hmok⟩ := had
 have hth := hs.there hnl
 have hsub : ∀ i ∈ sids l d (y :: Y), i ∈ sids l d (P ++ (y :: Y) ++ S) := fun i hi9 => by
  rw [sids_app, sids_app]; simp [hi9]
 have hla : ((ad ++ more).length : Int) = ad.length + more.length := by simp
 have La := laid_ok (ahead := y.1) hnl hn1 hm hml hmn (fun i hi9 => by
  rcases hmi i hi9 with h | h
  ·have := hth i (hsub i h); omega
  ·omega) hM hmb
 obtain ⟨⟨bs, ad2⟩, hq⟩ : ∃ q, q = laidOf next (ad ++ more) m y.1 := ⟨_, rfl⟩
 rw [← hq] at La hM ⊢
 dsimp only at La hM ⊢
 obtain ⟨more2, rfl, hl2, hok2⟩ := La.more
 have hx : Ext l (lp l next (ad ++ more ++ more2)) := ext_app _ _
 have hs2 := hs.ext hx
 have h0' : P ++ S ≠ [] ∨ bs ≠ [] := by
  rcases h0 with h0 | h0
  ·exact .inl h0
  ·rcases La.seg with h | ⟨k, r, rfl, _⟩
   ·exact absurd h.2 h0
   ·exact .inr (by simp)
 obtain ⟨p1, p2, p3⟩ := put_now hs2 h0' ⟨La.seg.elim (fun h => .inl h.1) .inr, La.br, La.len⟩ hb
 have eP := seg_ext hx (bs := P) (fun b hb9 => hs.each b (by simp [hb9]))
 have eS := seg_ext hx (bs := S) (fun b hb9 => hs.each b (by simp [hb9]))
 refine ⟨⟨more ++ more2, by rw [List.append_assoc], fun x hx9 => ?_⟩, ⟨_, rfl, p2, p1⟩, ?_, ?_, ?_, ?_⟩
 ·rcases List.mem_append.1 hx9 with h | h
  ·exact hmok x h
  ·exact hok2 x h
 ·rw [nP, sprs_inr, nP, sprs_inr, sprs_app, sprs_app, eP.1, eS.1, La.prs]
  exact hZ
 ·rw [nI, sids_inr, sids_app, sids_app, eP.2, eS.2]
  rw [sids_app, sids_app] at hnod
  refine nodup_mid (T := next) hnod La.nod (fun i hi9 => ?_) (fun i hi9 => hth i (by rw [sids_app, sids_app]; exact hi9))
  rcases La.ids i hi9 with h | h
  ·rcases hmi i h with h | h
   ·exact .inl h
   ·exact .inr (by omega)
  ·exact .inr (by omega)
 ·rw [nI, sids_inr, nI, sids_inr, sids_app, sids_app, eP.2, eS.2, sids_app, sids_app]
  intro i hi9
  have hl3 : ((ad ++ more ++ more2).length : Int) = ad.length + more.length + more2.length := by simp; omega
  simp only [List.mem_append] at hi9 ⊢
  rcases hi9 with (h | h) | h
  ·exact .inl (.inl (.inl h))
  ·rcases La.ids i h with h | h
   ·rcases hmi i h with h | h
    ·exact .inl (.inl (.inr h))
    ·exact .inr (by omega)
   ·exact .inr (by omega)
  ·exact .inl (.inr h)
 ·show nsize _ ≤ 281
  omega
theorem seg_join {l : List Wrt} {d : Nat} {lo m : Str} {hi : Option Str} {a b : List Br} (ha : Seg l d lo (some m) a) (hb : Seg l d m hi b) :
  Seg l d lo hi (a ++ (m, (b.headD ([], 0)).2) :: b.tail) ∧ sprs l d (a ++ (m, (b.headD ([], 0)).2) :: b.tail) = sprs l d a ++ sprs l d b ∧ sids l d (a ++ (m, (b.headD ([], 0)).2) :: b.tail) = sids l d a ++ sids l d b := by
 cases b with
 | nil => exact hb.elim
 | cons x r =>
  refine ⟨?_, ?_, ?_⟩
  ·rw [seg_app ha.ne]
   exact ⟨ha, (seg_first (b := x) (c := (m, x.2)) rfl).1 hb⟩
  ·rw [sprs_app]; rfl
  ·rw [sids_app]; rfl
theorem split_at {α : Type} {bs : List α} {k : Nat} (h : k < bs.length) : bs = bs.take k ++ bs[k] :: bs.drop (k + 1) := by
 rw [← List.drop_eq_getElem_cons h, List.take_append_drop]
end Go.Proofs.YtpiikmkajckccaaGreat

namespace Go.Proofs.YtpiikmkajckccaaGreat
theorem bare_one {L : List Wrt} {d : Nat} {m : Nd} {lo : Str} {hi : Option Str} (h : NO L d m lo hi) (hb : bareB m = true) : ∃ e b, d = e + 1 ∧ m.kids.headD 0 = b ∧ brs m = [([], b)] ∧ TOk L e b lo hi ∧ nP L d m = pOf L e b ∧ nI L d m = idsOf L e b ∧ 1 ≤ b ∧ b ≤ 65536 := by
 unfold bareB at hb
 simp only [Bool.and_eq_true, Bool.not_eq_true', decide_eq_true_eq] at hb
 cases d with
 | zero => have := h.leaf; rw [hb.1] at this; simp at this
 | succ e =>
  obtain ⟨en, h1, h2, h3, h4⟩ := no_brs h
  have hk : m.keys = [] := List.eq_nil_of_length_eq_zero hb.2
  have e1 : brs m = [([], m.kids.headD 0)] := by unfold brs; rw [hk]; rfl
  rw [e1] at h1 h2 h3 h4
  refine ⟨e, _, rfl, rfl, e1, h2, ?_, ?_, (h1.2 _ (List.mem_cons_self ..))⟩
  ·rw [h3]; simp [sprs]
  ·rw [h4]; simp [sids]
theorem rplc_mid {P Y S now : List Br} {i j : Nat} (hi : P.length = i) (hj : P.length + Y.length = j) : rplc (P ++ Y ++ S) i j now = P ++ now ++ S := by
 subst hi hj
 unfold rplc
 congr 1
 ·congr 1
  rw [List.append_assoc, List.take_left' rfl]
 ·rw [List.drop_left' (by simp)]
theorem reb_ok {l : List Wrt} {next : Int} {key : Str} {upd : List Pr → List Pr} {ed : Nd → Nd} (hnl : ∀ id x, tpage l id = some x → id < next) (hn1 : 1 ≤ next) (hE : EdOk key upd ed) :
  ∀ (d : Nat) (n : Nd) (lo : Str) (hi : Option Str) (ad : List Nd), NO l d n lo hi → nsize n ≤ 244 → (d ≠ 0 → n.keys ≠ []) → kin lo hi key = true → (nI l d n).Nodup → next + ((rebOf l next key ed d n ad).2.length : Int) ≤ 65536 → Reb l next upd d n lo hi ad (rebOf l next key ed d n ad).1 (rebOf l next key ed d n ad).2
 | 0, n, lo, hi, ad, hN, hsz, _, hkin, _, _ => by
  obtain ⟨ps, rfl, hp, hin⟩ := hN
  obtain ⟨e, a1, a2, a3⟩ := hE.leaf ps hp hsz
  show Reb l next upd 0 (lf ps) lo hi ad (ed (lf ps)) ad
  rw [e]
  refine ⟨⟨[], by simp, fun x hx => by cases hx⟩, ⟨_, rfl, a1, fun y hy => ?_⟩, ?_, List.nodup_nil, (fun i hi9 => by cases hi9), a2⟩
  ·rcases a3 y hy with h | h
   ·exact hin y h
   ·rw [h]; exact hkin
  ·rw [nP, nP, npr_lf, npr_lf]
 | d + 1, n, lo, hi, ad, hN, hsz, hk0, hkin, hnod, hM => by
  have hkn := hk0 (by omega)
  have hok : NOk n := hN.ok hkn hsz
  obtain ⟨en, hb, hs, e1, e2⟩ := no_brs hN
  have hz := (ncheck_ok n).2 hok
  have hrise := (nkeys_to hok.1).1
  obtain ⟨k, f1, f2, f3, f4⟩ := nfnd_inner key n.keys hrise
  have hlf : n.leaf = false := by have := hN.leaf; simpa using this
  have hfk : (nfind n key).toNat = k := by unfold nfind; rw [if_pos hz, hlf, f1]; simp
  simp only [rebOf] at hM ⊢
  rw [hfk] at hM ⊢
  obtain ⟨bs, hbs⟩ : ∃ bs, bs = brs n := ⟨_, rfl⟩
  rw [← hbs] at hM hb hs e1 e2 en ⊢
  have hkl : k < bs.length := by rw [hbs]; unfold brs; have := kids_len hok hlf; simp only [List.length_cons, List.length_zip, List.length_tail]; omega
  have hkeys : n.keys = bs.tail.map (·.1) := by rw [en]; rfl
  have hkids : n.kids = bs.map (·.2) := by rw [en]; rfl
  have hkid : n.kids.getD k 0 = bs[k].2 := by rw [hkids]; simp [hkl]
  have hgk : bs.getD k ([], 0) = bs[k] := by simp [hkl]
  have hXX : ∀ j c, bs[j + 1]? = some c → n.keys[j]? = some c.1 := fun j c h => by rw [hkeys, List.getElem?_map, List.getElem?_tail, h]; rfl
  rw [hkid] at hM ⊢
  rw [hgk] at hM ⊢
  have eb := split_at hkl
  obtain ⟨X, hX⟩ : ∃ X, X = bs[k] := ⟨_, rfl⟩
  obtain ⟨P, hP⟩ : ∃ P, P = bs.take k := ⟨_, rfl⟩
  obtain ⟨S, hS⟩ : ∃ S, S = bs.drop (k + 1) := ⟨_, rfl⟩
  have hPl : P.length = k := by rw [hP, List.length_take]; omega
  rw [← hX, ← hP, ← hS] at eb
  rw [← hX] at hM ⊢
  have eb' : bs = P ++ [X] ++ S := by rw [eb]; simp
  have hbX : bs[k]? = some X := by rw [hX]; simp [hkl]
  have hn2 : 2 ≤ bs.length := by
   have : n.keys.length ≠ 0 := fun h => hkn (List.eq_nil_of_length_eq_zero h)
   rw [hkeys] at this; simp at this; omega
  clear hX hP hS hkl hgk hkid
  -- the order
  have hXk : P ≠ [] → slt key X.1 = false := fun hp => by
   have : k - 1 + 1 = k := by have : P.length ≠ 0 := fun h => hp (List.eq_nil_of_length_eq_zero h); omega
   exact f3 (k - 1) X.1 (by omega) (hXX _ _ (by rw [this]; exact hbX))
  have hSk : ∀ c r, S = c :: r → slt key c.1 = true := fun c r e => f4 k c.1 (Nat.le_refl _) (hXX k c (by rw [eb, e, List.getElem?_append_right (by omega), hPl]; simp))
  have hs3 := hs
  rw [eb', seg3] at hs3
  obtain ⟨s1, s2, s3⟩ := hs3
  have hA : ∀ y ∈ sprs l d P, slt y.1 key = true := fun y hy => by
   rcases s1 with rfl | s1
   ·simp [sprs] at hy
   ·have h9 := Seg.kin s1 y hy
    simp only [Go.Proofs.YtpiikmkajckccaaGreat.kin, Bool.and_eq_true] at h9
    exact slt_lt_le h9.2 (hXk s1.ne)
  have hC : ∀ y ∈ sprs l d S, slt key y.1 = true := fun y hy => by
   rcases s3 with rfl | ⟨c, r, rfl, s3⟩
   ·simp [sprs] at hy
   ·have h9 := Seg.kin s3 y hy
    simp only [Go.Proofs.YtpiikmkajckccaaGreat.kin, Bool.and_eq_true, Bool.not_eq_true'] at h9
    exact slt_lt_le (hSk c r rfl) h9.1
  have hkX : kin (loY P X.1 lo) (hiS S hi) key = true := by
   simp only [Go.Proofs.YtpiikmkajckccaaGreat.kin, Bool.and_eq_true, Bool.not_eq_true'] at hkin ⊢
   refine ⟨?_, ?_⟩
   ·unfold loY
    split
    ·exact hkin.1
    ·exact hXk ‹_›
   ·cases S with
    | nil => exact hkin.2
    | cons c r => exact hSk c r rfl
  have hT : TOk l d X.2 (loY P X.1 lo) (hiS S hi) := s2
  obtain ⟨nd, hNd, hNO, ei, ep⟩ := tok_no hT
  rw [hNd.at] at hM ⊢
  have hndk : d ≠ 0 → nd.keys ≠ [] := fun h9 => by
   have hl9 : nd.leaf = false := by rw [hNO.leaf]; simpa using h9
   obtain ⟨a, b, c⟩ := inr_to hNd.ok hl9
   rw [a]
   intro h
   have h7 : (brs nd).tail.map (·.1) = [] := h
   exact c (List.map_eq_nil_iff.1 h7)
  have hth := hs.there hnl
  have hsid : sids l d bs = sids l d P ++ (X.2 :: nI l d nd) ++ sids l d S := by rw [eb', sids_app, sids_app]; simp [sids, ei]
  have hspr : sprs l d bs = sprs l d P ++ nP l d nd ++ sprs l d S := by rw [eb', sprs_app, sprs_app]; simp [sprs, ep]
  rw [e2] at hnod
  have hnod2 := hnod
  rw [hsid, List.nodup_append, List.nodup_append] at hnod2
  obtain ⟨⟨n1, n2, n3⟩, n4, n5⟩ := hnod2
  have hnn := (List.nodup_cons.1 n2).2
  have hthn : ∀ i ∈ nI l d nd, i < next := fun i h9 => hth i (by rw [hsid]; simp [h9])
  have ih := reb_ok hnl hn1 hE d nd (loY P X.1 lo) (hiS S hi) ad hNO hNd.ok.2.2.2.2 hndk hkX hnn
  obtain ⟨⟨m, ad1⟩, hp⟩ : ∃ p, p = rebOf l next key ed d nd ad := ⟨_, rfl⟩
  rw [← hp] at ih hM ⊢
  dsimp only at ih hM ⊢
  rw [en] at hsz
  have hupd : upd (sprs l d bs) = sprs l d P ++ upd (nP l d nd) ++ sprs l d S := by rw [hspr]; exact hE.loc _ _ _ hA hC
  by_cases hbare : bareB m = true
  ·rw [if_pos hbare] at hM ⊢
   dsimp only at hM ⊢
   have R := ih (by have := (laid_len next ad1 (joinOf l n (k - 1) k m) (bs.getD (k - 1) ([], 0)).1).1; omega)
   clear ih
   obtain ⟨e, b, rfl, hb0, hb1, hb2, hb3, hb4, hb5, hb6⟩ := bare_one R.no hbare
   have hx : Ext l (lp l next ad1) := ext_app _ _
   by_cases hk1 : k = 0
   ·-- joined with what lies behind it
    subst hk1
    have hP0 : P = [] := List.eq_nil_of_length_eq_zero hPl
    subst hP0
    cases S with
    | nil => rw [eb] at hn2; simp at hn2
    | cons c r =>
     have ebs : bs = [] ++ (X :: [c]) ++ r := by rw [eb]; rfl
     have hc1 : bs[1]? = some c := by rw [ebs]; rfl
     have hjn : joinOf l n (0 - 1) 0 m = inr ([([], b)] ++ (c.1, (nodeAt l c.2).kids.headD 0) :: (brs (nodeAt l c.2)).tail) := by
      unfold joinOf
      simp only [Nat.zero_sub, if_true, Nat.zero_add]
      have q1 : n.kids.getD 1 0 = c.2 := by rw [hkids, List.getD_eq_getElem?_getD, List.getElem?_map, hc1]; rfl
      have q2 : n.keys.getD 0 [] = c.1 := by rw [List.getD_eq_getElem?_getD, hXX 0 c hc1]; rfl
      rw [q1, q2, hb1]
     have hg0 : (bs.getD (0 - 1) ([], 0)).1 = X.1 := by rw [ebs]; rfl
     rw [hjn, hg0] at hM ⊢
     rcases s3 with s3 | ⟨c', r', e', s3⟩
     ·cases s3
     cases e'
     have hsc := s3
     rw [show c :: r = [] ++ (c :: []) ++ r from rfl, seg3] at hsc
     obtain ⟨_, hTc, _⟩ := hsc
     obtain ⟨ndc, hNc, hlc, sgc, idc, pc⟩ := tok_seg (l := l) (d := e) (id := c.2) hTc
     rw [hNc.at] at hM ⊢
     obtain ⟨g1, g2, g3⟩ := inr_to hNc.ok hlc
     have hrpl : rplc bs (0 - 1) (0 - 1 + 2) (laidOf next ad1 (inr ([([], b)] ++ (c.1, ndc.kids.headD 0) :: (brs ndc).tail)) X.1).1 = [] ++ (laidOf next ad1 (inr ([([], b)] ++ (c.1, ndc.kids.headD 0) :: (brs ndc).tail)) X.1).1 ++ r := by
      rw [ebs]; exact rplc_mid rfl rfl
     rw [hrpl]
     have hlo : loY ([] : List Br) c.1 c.1 = c.1 := rfl
     rw [hlo] at sgc
     have hb2' : Seg (lp l next ad1) e lo (some c.1) [([], b)] := hb2
     obtain ⟨j1, j2, j3⟩ := seg_join hb2' (sgc.ext hx)
     have hhd : ((brs ndc).headD ([], 0)).2 = ndc.kids.headD 0 := rfl
     rw [hhd] at j1 j2 j3
     have ec := seg_ext hx sgc.each
     have hnI : nI (lp l next ad1) (e + 1) (inr ([([], b)] ++ (c.1, ndc.kids.headD 0) :: (brs ndc).tail)) = nI (lp l next ad1) (e + 1) m ++ sids l e (brs ndc) := by
      rw [nI, sids_inr, j3, ec.2, hb4]; simp [sids]
     have hnP : nP (lp l next ad1) (e + 1) (inr ([([], b)] ++ (c.1, ndc.kids.headD 0) :: (brs ndc).tail)) = nP (lp l next ad1) (e + 1) m ++ pOf l (e + 1) c.2 := by
      rw [nP, sprs_inr, j2, ec.1, hb3, pc]; simp [sprs]
     have hcb : 1 ≤ c.1.length ∧ c.1.length ≤ 32 := hb.1 c (by rw [ebs]; simp)
     have hcs : sids l e (brs ndc) = (idsOf l (e + 1) c.2).tail := by rw [idc]; rfl
     have hcin : ∀ i ∈ sids l e (brs ndc), i ∈ sids l (e + 1) (c :: r) := fun i h9 => by
      simp only [sids, List.flatMap_cons, List.mem_append]; exact .inl (by rw [idc]; exact List.mem_cons_of_mem _ h9)
     rw [en, ebs]
     rw [ebs] at hs hb hsz hnod hupd
     refine reb_fin hnl hn1 hs hb hsz hnod R.more ⟨_, rfl, ⟨fun x hx9 => ?_, fun x hx9 => ?_⟩, j1⟩ ?_ (.inr ?_) ?_ ?_ (.inr ?_) ?_ hM
     ·simp only [List.cons_append, List.nil_append, List.tail_cons, List.mem_cons] at hx9
      rcases hx9 with rfl | hx9
      ·exact hcb
      ·exact g2.1 x hx9
     ·simp only [List.cons_append, List.nil_append, List.mem_cons] at hx9
      rcases hx9 with rfl | rfl | hx9
      ·exact ⟨hb5, hb6⟩
      ·exact g2.2 ([], ndc.kids.headD 0) (by unfold brs; simp)
      ·exact g2.2 x (List.mem_of_mem_tail hx9)
     ·show nsize _ ≤ 281
      rw [List.cons_append, List.nil_append, nsize_tail (by simp)]
      have h7 := hNc.ok.2.2.2.2
      rw [g1, nsize_tail (by unfold brs; simp)] at h7
      simp only [List.tail_cons, tw, List.map_cons, List.sum_cons, bw] at h7 ⊢
      push_cast
      omega
     ·simp [inr]
     ·rw [hnI, List.nodup_append]
      refine ⟨R.nod, ?_, fun a ha q hq e9 => ?_⟩
      ·have h8 := n4
       simp only [sids, List.flatMap_cons] at h8
       rw [hcs]
       have := (List.nodup_append.1 h8).1
       exact this.sublist (List.tail_sublist _)
      ·subst e9
       have hq2 := hcin a hq
       rcases R.ids a ha with h8 | h8
       ·exact n5 a (by simp [h8]) a hq2 rfl
       ·have := hth a (by rw [hsid]; simp [hq2]); omega
     ·intro i hi9
      rw [hnI] at hi9
      rcases List.mem_append.1 hi9 with h8 | h8
      ·rcases R.ids i h8 with h8 | h8
       ·refine .inl ?_
        simp only [sids, List.flatMap_cons, List.mem_append]
        exact .inl (by rw [ei]; exact List.mem_cons_of_mem _ h8)
       ·exact .inr h8
      ·refine .inl ?_
       simp only [sids, List.flatMap_cons, List.flatMap_nil, List.append_nil, List.mem_append]
       exact .inr (by rw [idc]; exact List.mem_cons_of_mem _ h8)
     ·simp [inr]
     ·rw [hupd, hnP, R.prs]
      simp [sprs]
   ·-- joined with what lies ahead of it
    obtain ⟨P', c, rfl⟩ : ∃ P' c, P = P' ++ [c] := by
     rcases List.eq_nil_or_concat P with h | ⟨P', c, h⟩
     ·subst h; simp at hPl; omega
     ·exact ⟨P', c, by simpa using h⟩
    have hPl' : P'.length = k - 1 := by simp at hPl; omega
    have ebs : bs = P' ++ (c :: [X]) ++ S := by rw [eb]; simp
    have hc1 : bs[k - 1]? = some c := by rw [ebs, List.append_assoc, List.getElem?_append_right (by omega), hPl']; simp
    have hk2 : k - 1 + 1 = k := by omega
    have hjn : joinOf l n (k - 1) k m = inr (brs (nodeAt l c.2) ++ [(X.1, b)]) := by
     unfold joinOf
     rw [if_neg (by omega), if_neg (by omega)]
     have q1 : n.kids.getD (k - 1) 0 = c.2 := by rw [hkids, List.getD_eq_getElem?_getD, List.getElem?_map, hc1]; rfl
     have q2 : n.keys.getD (k - 1) [] = X.1 := by rw [List.getD_eq_getElem?_getD, hXX (k - 1) X (by rw [hk2]; exact hbX)]; rfl
     rw [q1, q2, hb1, hb0]; rfl
    have hg0 : (bs.getD (k - 1) ([], 0)).1 = c.1 := by rw [List.getD_eq_getElem?_getD, hc1]; rfl
    rw [hjn, hg0] at hM ⊢
    rcases s1 with s1 | s1
    ·simp at s1
    have hsc := s1
    rw [show P' ++ [c] = P' ++ (c :: []) ++ [] by simp, seg3] at hsc
    obtain ⟨_, hTc, _⟩ := hsc
    obtain ⟨ndc, hNc, hlc, sgc, idc, pc⟩ := tok_seg (l := l) (d := e) (id := c.2) hTc
    rw [hNc.at] at hM ⊢
    obtain ⟨g1, g2, g3⟩ := inr_to hNc.ok hlc
    have hrpl : rplc bs (k - 1) (k - 1 + 2) (laidOf next ad1 (inr (brs ndc ++ [(X.1, b)])) c.1).1 = P' ++ (laidOf next ad1 (inr (brs ndc ++ [(X.1, b)])) c.1).1 ++ S := by
     rw [ebs]; exact rplc_mid hPl' (by rw [hPl']; rfl)
    rw [hrpl]
    have hlX : loY (P' ++ [c]) X.1 lo = X.1 := by simp [loY]
    rw [hlX] at hb2
    have hb2' : Seg (lp l next ad1) e X.1 (hiS S hi) [([], b)] := hb2
    have hhi : hiS ([] : List Br) (some X.1) = some X.1 := rfl
    rw [hhi] at sgc
    obtain ⟨j1, j2, j3⟩ := seg_join (sgc.ext hx) hb2'
    have hhd : ((brs ndc) ++ (X.1, (([([], b)] : List Br).headD ([], 0)).2) :: ([([], b)] : List Br).tail) = brs ndc ++ [(X.1, b)] := rfl
    rw [hhd] at j1 j2 j3
    have ec := seg_ext hx sgc.each
    have hnI : nI (lp l next ad1) (e + 1) (inr (brs ndc ++ [(X.1, b)])) = sids l e (brs ndc) ++ nI (lp l next ad1) (e + 1) m := by
     rw [nI, sids_inr, j3, ec.2, hb4]; simp [sids]
    have hnP : nP (lp l next ad1) (e + 1) (inr (brs ndc ++ [(X.1, b)])) = pOf l (e + 1) c.2 ++ nP (lp l next ad1) (e + 1) m := by
     rw [nP, sprs_inr, j2, ec.1, hb3, pc]; simp [sprs]
    have hXb : 1 ≤ X.1.length ∧ X.1.length ≤ 32 := hb.1 X (by rw [ebs]; cases P' <;> simp)
    have hcs : sids l e (brs ndc) = (idsOf l (e + 1) c.2).tail := by rw [idc]; rfl
    have hcin : ∀ i ∈ sids l e (brs ndc), i ∈ sids l (e + 1) (P' ++ [c]) := fun i h9 => by
     rw [sids_app]
     simp only [sids, List.flatMap_cons, List.flatMap_nil, List.append_nil, List.mem_append]; exact .inr (by rw [idc]; exact List.mem_cons_of_mem _ h9)
    rw [en, ebs]
    rw [ebs] at hs hb hsz hnod hupd
    refine reb_fin hnl hn1 hs hb hsz hnod R.more ⟨_, rfl, ⟨fun x hx9 => ?_, fun x hx9 => ?_⟩, j1⟩ ?_ (.inr ?_) ?_ ?_ (.inr ?_) ?_ hM
    ·have hx8 : x ∈ (brs ndc).tail ∨ x = (X.1, b) := by
      unfold brs at hx9 ⊢
      simpa using hx9
     rcases hx8 with hx8 | rfl
     ·exact g2.1 x hx8
     ·exact hXb
    ·rcases List.mem_append.1 hx9 with hx9 | hx9
     ·exact g2.2 x hx9
     ·simp only [List.mem_singleton] at hx9
      subst hx9
      exact ⟨hb5, hb6⟩
    ·show nsize _ ≤ 281
     rw [nsize_tail (by simp)]
     have h7 := hNc.ok.2.2.2.2
     rw [g1, nsize_tail (by unfold brs; simp)] at h7
     have h6 : (brs ndc ++ [(X.1, b)]).tail = (brs ndc).tail ++ [(X.1, b)] := by unfold brs; simp
     rw [h6, tw_app]
     simp only [tw, List.map_cons, List.map_nil, List.sum_cons, List.sum_nil, bw] at h7 ⊢
     push_cast
     omega
    ·unfold brs; simp [inr]
    ·rw [hnI, List.nodup_append]
     refine ⟨?_, R.nod, fun a ha q hq e9 => ?_⟩
     ·have h8 := n1
      rw [sids_app] at h8
      simp only [sids, List.flatMap_cons, List.flatMap_nil, List.append_nil] at h8
      rw [hcs]
      have := (List.nodup_append.1 h8).2.1
      exact this.sublist (List.tail_sublist _)
     ·subst e9
      have hq2 := hcin a ha
      rcases R.ids a hq with h8 | h8
      ·exact n3 a hq2 a (by simp [h8]) rfl
      ·have := hth a (by rw [hsid]; simp [hq2]); omega
    ·intro i hi9
     rw [hnI] at hi9
     simp only [sids, List.flatMap_cons, List.flatMap_nil, List.append_nil, List.mem_append]
     rcases List.mem_append.1 hi9 with h8 | h8
     ·exact .inl (.inl (by rw [idc]; exact List.mem_cons_of_mem _ h8))
     ·rcases R.ids i h8 with h8 | h8
      ·exact .inl (.inr (by rw [ei]; exact List.mem_cons_of_mem _ h8))
      ·exact .inr h8
    ·unfold brs; simp [inr]
    ·rw [hupd, hnP, R.prs, sprs_app]
     simp [sprs]
  ·rw [if_neg hbare] at hM ⊢
   dsimp only at hM ⊢
   have R := ih (by have := (laid_len next ad1 m X.1).1; omega)
   have hrpl : rplc bs k (k + 1) (laidOf next ad1 m X.1).1 = P ++ (laidOf next ad1 m X.1).1 ++ S := by
    rw [eb']; exact rplc_mid hPl (by rw [hPl]; rfl)
   rw [hrpl]
   have hPS : P ++ S ≠ [] := fun h => by
    obtain ⟨h8, h9⟩ := List.append_eq_nil_iff.1 h
    rw [eb', h8, h9] at hn2
    simp at hn2
   rw [en, eb']
   rw [eb'] at hs hb hsz hnod hupd
   refine reb_fin hnl hn1 hs hb hsz hnod R.more R.no R.siz ?_ R.nod (fun i hi9 => ?_) (.inl hPS) ?_ hM
   ·unfold bareB at hbare
    cases hml : m.leaf with
    | true => exact .inl rfl
    | false => exact .inr fun h => by rw [hml, h] at hbare; simp at hbare
   ·rcases R.ids i hi9 with h8 | h8
    ·refine .inl ?_
     simp only [sids, List.flatMap_cons, List.flatMap_nil, List.append_nil]
     rw [ei]; exact List.mem_cons_of_mem _ h8
    ·exact .inr h8
   ·rw [hupd, R.prs]
end Go.Proofs.YtpiikmkajckccaaGreat

namespace Go.Proofs.YtpiikmkajckccaaGreat
def rootOf (next : Int) (ad : List Nd) (top : Nd) : Int × List Nd :=
 if bareB top = true then (top.kids.headD 0, ad)
 else match (laidOf next ad top []).1 with
  | [] => (0, (laidOf next ad top []).2)
  | [b] => (b.2, (laidOf next ad top []).2)
  | b :: c :: r => (next + ((laidOf next ad top []).2.length : Int), (laidOf next ad top []).2 ++ [inr (b :: c :: r)])
def topOf (t : Tr) : Nd := if t.root = 0 then lf [] else nodeAt t.pages t.root
def chgR (t : Tr) (key : Str) (ed : Nd → Nd) (d : Nat) : Int × List Nd := rootOf t.next (rebOf t.pages t.next key ed d (topOf t) []).2 (rebOf t.pages t.next key ed d (topOf t) []).1
def chgT (t : Tr) (key : Str) (ed : Nd → Nd) (d : Nat) : Tr := ⟨(chgR t key ed d).1, t.next + ((chgR t key ed d).2.length : Int), t.pages ++ pgs t.next (chgR t key ed d).2⟩
theorem root_len (next : Int) (ad : List Nd) (top : Nd) : ad.length ≤ (rootOf next ad top).2.length ∧ (rootOf next ad top).2.length ≤ ad.length + 3 := by
 have h := laid_len next ad top []
 unfold rootOf
 split
 ·exact ⟨Nat.le_refl _, by simp⟩
 ·split <;> simp <;> omega
def TTop (t : Tr) (d : Nat) (ps : List Pr) : Prop := (t.root = 0 ∧ d = 0 ∧ ps = []) ∨ (t.root ≠ 0 ∧ d ≤ 15 ∧ TOk t.pages d t.root [] none ∧ (idsOf t.pages d t.root).Nodup ∧ ps = pOf t.pages d t.root)
theorem ttop_of {t : Tr} {s : Sw} (h : twalk t = some s) : ∃ d, TTop t d s.prs := by
 unfold twalk at h
 split at h
 ·rename_i h0
  have : s = ⟨[], none, []⟩ := (Option.some.inj h).symm
  subst this
  exact ⟨0, .inl ⟨h0, rfl, rfl⟩⟩
 ·rename_i h0
  obtain ⟨e, d, h1, h2, h3, h4, h5, h6, h7, h8⟩ := wk_tok 16 t.root [] none _ s h
  exact ⟨d, .inr ⟨h0, by omega, h4, h6, by simpa using h8⟩⟩
theorem ttop_to {t : Tr} {d : Nat} {ps : List Pr} (h : TTop t d ps) : ∃ s, twalk t = some s ∧ s.prs = ps := by
 unfold twalk
 rcases h with ⟨h0, _, rfl⟩ | ⟨h0, hd, h1, h2, rfl⟩
 ·rw [if_pos h0]; exact ⟨_, rfl, rfl⟩
 ·rw [if_neg h0]
  have := wk_of (l := t.pages) (e := 15 - d) d t.root [] none ⟨[], none, []⟩ h1 h2 (fun i _ => by simp) (.inl rfl)
  rw [show 15 - d + 1 + d = 16 by omega] at this
  exact ⟨_, this, by simp⟩
theorem ttop_deep {t : Tr} {d : Nat} {ps : List Pr} (h : TTop t d ps) (hl : ps.length ≤ 4096) : d ≤ 12 := by
 rcases h with ⟨_, rfl, _⟩ | ⟨h0, hd, h1, h2, rfl⟩
 ·omega
 ·have h3 := h1.many
  have h4 : 2 ^ d ≤ 2 ^ 12 := by omega
  exact (Nat.pow_le_pow_iff_right (by omega)).1 h4
theorem kin_all (k : Str) : kin [] none k = true := by simp [kin, slt_nil]
theorem top_no {t : Tr} {d : Nat} {ps : List Pr} (h : TTop t d ps) : NO t.pages d (topOf t) [] none ∧ nsize (topOf t) ≤ 244 ∧ (d ≠ 0 → (topOf t).keys ≠ []) ∧ (nI t.pages d (topOf t)).Nodup ∧ nP t.pages d (topOf t) = ps := by
 unfold topOf
 rcases h with ⟨h0, rfl, rfl⟩ | ⟨h0, hd, h1, h2, rfl⟩
 ·rw [if_pos h0]
  refine ⟨⟨[], rfl, ⟨List.Pairwise.nil, (fun y hy => by cases hy)⟩, (fun y hy => by cases hy)⟩, by rw [nsize_lf]; simp, fun h => absurd rfl h, List.nodup_nil, rfl⟩
 ·rw [if_neg h0]
  obtain ⟨nd, hN, h3, h4, h5⟩ := tok_no h1
  rw [hN.at]
  refine ⟨h3, hN.ok.2.2.2.2, fun h9 => ?_, ?_, h5.symm⟩
  ·have hl9 : nd.leaf = false := by rw [h3.leaf]; simpa using h9
   obtain ⟨a, b, c⟩ := inr_to hN.ok hl9
   rw [a]
   intro h
   have h7 : (brs nd).tail.map (·.1) = [] := h
   exact c (List.map_eq_nil_iff.1 h7)
  ·rw [h4] at h2; exact (List.nodup_cons.1 h2).2
theorem TOk.is {l : List Wrt} {d : Nat} {id : Int} {lo : Str} {hi : Option Str} (h : TOk l d id lo hi) : tpage l id ≠ none := by
 obtain ⟨nd, ⟨x, hx, _⟩, _⟩ := tok_no h
 rw [hx]; simp
theorem tid_pgs : ∀ {z : Int} {ad : List Nd} {i : Nat}, i < ad.length → tid (pgs z ad) i = z + i
 | z, [], i, h => by simp at h
 | z, n :: r, 0, h => by simp [pgs, tid]
 | z, n :: r, i + 1, h => by
  have ih := tid_pgs (z := z + 1) (ad := r) (i := i) (by simpa using h)
  have : tid (pgs z (n :: r)) (i + 1) = tid (pgs (z + 1) r) i := by simp [pgs, tid]
  rw [this, ih]; push_cast; omega
theorem tid_app1 {a b : List Wrt} {i : Nat} (h : i < a.length) : tid (a ++ b) i = tid a i := by unfold tid; rw [List.getElem?_append_left h]
theorem tid_app2 {a b : List Wrt} {i : Nat} : tid (a ++ b) (a.length + i) = tid b i := by unfold tid; rw [List.getElem?_append_right (by omega)]; congr 3; omega
theorem tups_more {next : Int} {l : List Wrt} (h : tups next l l.length) (h1 : 1 ≤ next) (ad : List Nd) : tups (next + ad.length) (l ++ pgs next ad) (l ++ pgs next ad).length := by
 intro i hi
 rw [List.length_append, pgs_len] at hi
 by_cases hl : i < l.length
 ·rw [tid_app1 hl]
  obtain ⟨a, b⟩ := h i hl
  refine ⟨?_, by omega⟩
  by_cases e : i = 0
  ·rw [if_pos e] at a ⊢; exact a
  ·rw [if_neg e] at a ⊢
   rw [tid_app1 (by omega)]; exact a
 ·obtain ⟨j, rfl⟩ : ∃ j, i = l.length + j := ⟨i - l.length, by omega⟩
  rw [tid_app2, tid_pgs (by omega)]
  refine ⟨?_, by omega⟩
  by_cases e : l.length + j = 0
  ·rw [if_pos e]; omega
  ·rw [if_neg e]
   by_cases hj : j = 0
   ·subst hj
    rw [Nat.add_zero, tid_app1 (by omega)]
    have := (h (l.length - 1) (by omega)).2
    omega
   ·rw [show l.length + j - 1 = l.length + (j - 1) by omega, tid_app2, tid_pgs (by omega)]
    omega
theorem chg_ok {t : Tr} {d : Nat} {ps : List Pr} {key : Str} {upd : List Pr → List Pr} {ed : Nd → Nd} (hT : TNum t) (h : TTop t d ps) (hps : ps.length ≤ 4096) (hE : EdOk key upd ed) (hM : t.next + ((chgR t key ed d).2.length : Int) ≤ 65536) :
  (∀ x ∈ (chgR t key ed d).2, NOk x) ∧ (chgR t key ed d).2.length ≤ 2 * d + 3 ∧ TNum (chgT t key ed d) ∧ ∃ d', TTop (chgT t key ed d) d' (upd ps) := by
 have hnl : ∀ id x, tpage t.pages id = some x → id < t.next := fun id x h9 => (tpage_bd hT.2.2.1 h9).2
 obtain ⟨q1, q2, q3, q4, q5⟩ := top_no h
 have hd := ttop_deep h hps
 have hl1 := reb_len t.pages t.next key ed d (topOf t) []
 have R := reb_ok hnl hT.1 hE d (topOf t) [] none [] q1 q2 q3 (kin_all key) q4
 unfold chgT
 unfold chgR at hM ⊢
 obtain ⟨⟨top, ad⟩, hp⟩ : ∃ p, p = rebOf t.pages t.next key ed d (topOf t) [] := ⟨_, rfl⟩
 rw [← hp] at hM R hl1 ⊢
 dsimp only at hM R hl1 ⊢
 have hl2 := root_len t.next ad top
 replace R := R (by omega)
 obtain ⟨more, e1, hmok⟩ := R.more
 rw [List.nil_append] at e1
 subst e1
 have hups : ∀ ad9 : List Nd, t.next + (ad9.length : Int) ≤ 65536 → ∀ r, (r = 0 ∨ tpage (t.pages ++ pgs t.next ad9) r ≠ none) → TNum ⟨r, t.next + (ad9.length : Int), t.pages ++ pgs t.next ad9⟩ := fun ad9 h9 r hr => ⟨by have := hT.1; dsimp only; omega, h9, tups_more hT.2.2.1 hT.1 ad9, hr⟩
 have hlenr : (rootOf t.next ad top).2.length ≤ 2 * d + 3 := by simp only [List.length_nil] at hl1; omega
 have hold : ∀ i ∈ nI (lp t.pages t.next ad) d top, i < t.next + (ad.length : Int) := fun i hi => by
  rcases R.ids i hi with h8 | h8
  ·have hth : ∀ i ∈ nI t.pages d (topOf t), i < t.next := by
    cases d with
    | zero => intro i hi; cases hi
    | succ d =>
     obtain ⟨en, hb, hs, e1, e2⟩ := no_brs q1
     rw [e2]; exact hs.there hnl
   have := hth i h8; omega
  ·omega
 by_cases hb : bareB top = true
 ·have er : rootOf t.next ad top = (top.kids.headD 0, ad) := by unfold rootOf; rw [if_pos hb]
  rw [er] at hM hlenr ⊢
  dsimp only at hM hlenr ⊢
  obtain ⟨e, b, rfl, hb0, hb1, hb2, hb3, hb4, hb5, hb6⟩ := bare_one R.no hb
  rw [hb0]
  refine ⟨hmok, hlenr, hups ad hM b (.inr hb2.is), e, .inr ⟨?_, by omega, hb2, ?_, ?_⟩⟩
  ·show b ≠ 0; omega
  ·show (idsOf (lp t.pages t.next ad) e b).Nodup
   rw [← hb4]; exact R.nod
  ·show upd ps = pOf (lp t.pages t.next ad) e b
   rw [← hb3, R.prs, q5]
 ·have hnb : top.leaf = true ∨ top.keys ≠ [] := by
   unfold bareB at hb
   cases hml : top.leaf with
   | true => exact .inl rfl
   | false => exact .inr fun h => by rw [hml, h] at hb; simp at hb
  have er : rootOf t.next ad top = match (laidOf t.next ad top []).1 with
   | [] => (0, (laidOf t.next ad top []).2)
   | [b] => (b.2, (laidOf t.next ad top []).2)
   | b :: c :: r => (t.next + ((laidOf t.next ad top []).2.length : Int), (laidOf t.next ad top []).2 ++ [inr (b :: c :: r)]) := by unfold rootOf; rw [if_neg hb]
  have La := laid_ok (ahead := []) hnl hT.1 R.no R.siz R.nod hold
  rw [er] at hM hlenr hl2 ⊢
  obtain ⟨⟨bs, ad2⟩, hq⟩ : ∃ q, q = laidOf t.next ad top [] := ⟨_, rfl⟩
  rw [← hq] at hM La hlenr hl2 ⊢
  dsimp only at hM La hlenr hl2 ⊢
  have hprs : nP (lp t.pages t.next ad) d top = upd ps := by rw [R.prs, q5]
  rw [hprs.symm]
  match bs, hM, La, hlenr, hl2 with
  | [], hM, La, hlenr, hl2 =>
   dsimp only at hM hlenr ⊢
   have L := La hM hnb
   obtain ⟨m2, rfl, _, hok2⟩ := L.more
   refine ⟨fun x hx => ?_, hlenr, hups _ hM 0 (.inl rfl), 0, .inl ⟨rfl, rfl, ?_⟩⟩
   ·rcases List.mem_append.1 hx with h9 | h9
    ·exact hmok x h9
    ·exact hok2 x h9
   ·rw [← L.prs]; rfl
  | [b], hM, La, hlenr, hl2 =>
   dsimp only at hM hlenr ⊢
   have L := La hM hnb
   obtain ⟨m2, rfl, _, hok2⟩ := L.more
   have hs : TOk (lp t.pages t.next (ad ++ m2)) d b.2 [] none := by
    rcases L.seg with h9 | ⟨k, r, e, h9⟩
    ·cases h9.1
    ·exact h9
   have hb9 := L.br.2 b (List.mem_cons_self ..)
   have hn9 := L.nod
   have hp9 := L.prs
   simp only [sids, sprs, List.flatMap_cons, List.flatMap_nil, List.append_nil] at hn9 hp9
   refine ⟨fun x hx => ?_, hlenr, hups _ hM b.2 (.inr hs.is), d, .inr ⟨?_, by omega, hs, hn9, hp9.symm⟩⟩
   ·rcases List.mem_append.1 hx with h9 | h9
    ·exact hmok x h9
    ·exact hok2 x h9
   ·show b.2 ≠ 0; omega
  | b :: c :: r, hM, La, hlenr, hl2 =>
   dsimp only at hM hlenr ⊢
   have hM2 : t.next + (ad2.length : Int) + 1 ≤ 65536 := by simp at hM; omega
   have L := La (by omega) hnb
   obtain ⟨m2, rfl, _, hok2⟩ := L.more
   have hr : r = [] := by have := L.len; simp at this; exact this
   subst hr
   have hs : Seg (lp t.pages t.next (ad ++ m2)) d [] none [b, c] := by
    rcases L.seg with h9 | ⟨k, r, e, h9⟩
    ·cases h9.1
    ·exact h9
   have hc := L.br.1 c (by simp)
   have hok : NOk (inr [b, c]) := inr_ok hs.keys.1 L.br (by simp) (by rw [nsize_inr]; simp [bw]; omega)
   have hx := ext_more t.pages t.next (ad ++ m2) [inr [b, c]]
   have his : NdIs (lp t.pages t.next (ad ++ m2 ++ [inr [b, c]])) (t.next + ((ad ++ m2).length : Int)) (inr [b, c]) := new_is hnl hok
   obtain ⟨t1, t2, t3⟩ := seg_tok his (hs.ext hx)
   have es := seg_ext hx hs.each
   rw [es.1, L.prs] at t3
   rw [es.2] at t2
   refine ⟨fun x hx => ?_, hlenr, hups _ hM _ (.inr t1.is), d + 1, .inr ⟨?_, by omega, t1, ?_, t3.symm⟩⟩
   ·simp only [List.mem_append, List.mem_singleton] at hx
    rcases hx with (h9 | h9) | h9
    ·exact hmok x h9
    ·exact hok2 x h9
    ·subst h9; exact hok
   ·have := hT.1
    dsimp only; omega
   ·dsimp only
    rw [t2, List.nodup_cons]
    refine ⟨fun h9 => ?_, L.nod⟩
    rcases L.ids _ h9 with h8 | h8
    ·have := hold _ h8
     simp only [List.length_append] at this
     omega
    ·omega
end Go.Proofs.YtpiikmkajckccaaGreat

namespace Go.Proofs.YtpiikmkajckccaaGreat
def frm (l : List Wrt) : Nat → Int → List Int → List Int
 | 0, id, R => if id ∈ R then R else id :: R
 | d + 1, id, R => if id ∈ R then R else (nodeAt l id).kids.foldl (fun R k => frm l d k R) (id :: R)
theorem frm_in {l : List Wrt} {d : Nat} {id : Int} {R : List Int} (h : id ∈ R) : frm l d id R = R := by
 cases d <;> simp [frm, h]
theorem fold_kids {g : Int → List Int → List Int} (S : Int → List Int) (hg : ∀ k R, k ∈ R → g k R = R) :
  ∀ (ks : List Int) (R : List Int), (∀ k ∈ ks, ∀ R', (∀ p ∈ S k, p ∈ R' → p ∈ R) → (∀ x ∈ R, x ∈ R') → ∀ x, x ∈ g k R' ↔ x ∈ R' ∨ x ∈ S k) → (ks.flatMap S).Nodup → (Q : List Int) → (∀ x ∈ R, x ∈ Q) → (∀ k ∈ ks, ∀ p ∈ S k, p ∈ Q → p ∈ R) →
   ∀ x, x ∈ ks.foldl (fun R k => g k R) Q ↔ x ∈ Q ∨ x ∈ ks.flatMap S
 | [], R, _, _, Q, _, _, x => by simp
 | k :: r, R, h, hn, Q, hQ, hp, x => by
  rw [List.flatMap_cons, List.nodup_append] at hn
  obtain ⟨n1, n2, n3⟩ := hn
  rw [List.foldl_cons]
  have h1 := h k (by simp) Q (hp k (by simp)) hQ
  rw [fold_kids S hg r R (fun k' hk' => h k' (by simp [hk'])) n2 (g k Q) (fun y hy => (h1 y).2 (.inl (hQ y hy))) ?_ x, h1 x, List.flatMap_cons, List.mem_append, or_assoc]
  intro k' hk' p hp1 hp2
  rcases (h1 p).1 hp2 with h2 | h2
  ·exact hp k' (by simp [hk']) p hp1 h2
  ·exact absurd rfl (n3 p h2 p (List.mem_flatMap.2 ⟨k', hk', hp1⟩))
theorem nodup_kid {S : Int → List Int} : ∀ {ks : List Int} {k : Int}, (ks.flatMap S).Nodup → k ∈ ks → (S k).Nodup
 | [], k, _, h => by cases h
 | a :: r, k, hn, h => by
  rw [List.flatMap_cons, List.nodup_append] at hn
  rcases List.mem_cons.1 h with rfl | h
  ·exact hn.1
  ·exact nodup_kid hn.2.1 h
theorem ids_self (l : List Wrt) (d : Nat) (id : Int) : id ∈ idsOf l d id := by cases d <;> simp [idsOf]
theorem ids_closed {l : List Wrt} {R : List Int} : ∀ {d : Nat} {id : Int} {lo : Str} {hi : Option Str}, TOk l d id lo hi → (∀ p ∈ idsOf l d id, p ∈ R → ∀ k ∈ (nodeAt l p).kids, k ∈ R) → id ∈ R → ∀ x ∈ idsOf l d id, x ∈ R
 | 0, id, lo, hi, _, _, h, x, hx => by
  simp only [idsOf, List.mem_singleton] at hx
  rw [hx]; exact h
 | d + 1, id, lo, hi, ⟨nd, hN, h1, h2, h3⟩, hc, h, x, hx => by
  rw [idsOf, List.mem_cons] at hx
  rcases hx with rfl | hx
  ·exact h
  ·obtain ⟨k, hk, hx⟩ := List.mem_flatMap.1 hx
   have hkR := hc id (ids_self l _ id) h k hk
   rw [hN.at] at hk
   obtain ⟨i, hi9⟩ := mem_at hk
   exact ids_closed (h3 i k hi9) (fun p hp => hc p (by rw [idsOf, hN.at]; exact List.mem_cons_of_mem _ (List.mem_flatMap.2 ⟨k, hk, hp⟩))) hkR x hx
theorem frm_mem {l : List Wrt} : ∀ {d : Nat} {id : Int} {lo : Str} {hi : Option Str} {R : List Int}, TOk l d id lo hi → (idsOf l d id).Nodup → (∀ p ∈ idsOf l d id, p ∈ R → ∀ k ∈ (nodeAt l p).kids, k ∈ R) → ∀ x, x ∈ frm l d id R ↔ x ∈ R ∨ x ∈ idsOf l d id
 | 0, id, lo, hi, R, h, hn, hc, x => by
  by_cases e : id ∈ R
  ·rw [frm_in e, idsOf, List.mem_singleton]
   exact ⟨.inl, fun h => h.elim (fun h => h) fun h => by rw [h]; exact e⟩
  ·rw [frm, if_neg e, idsOf, List.mem_cons, List.mem_singleton, Or.comm]
 | d + 1, id, lo, hi, R, h, hn, hc, x => by
  by_cases e : id ∈ R
  ·rw [frm_in e]
   exact ⟨.inl, fun h9 => h9.elim (fun h => h) fun h9 => ids_closed h hc e x h9⟩
  ·obtain ⟨nd, hN, h1, h2, h3⟩ := h
   have hn' := hn
   rw [idsOf, List.nodup_cons] at hn'
   rw [frm, if_neg e, fold_kids (g := fun k R => frm l d k R) (idsOf l d) (fun k R hk => frm_in hk) _ (id :: R) ?_ hn'.2 (id :: R) (fun y hy => hy) (fun k hk p hp h => h) x, idsOf, List.mem_cons, List.mem_cons]
   ·rw [or_assoc, or_left_comm]
   ·intro k hk R' hp hR x
    have hk' := hk
    rw [hN.at] at hk'
    obtain ⟨i, hi9⟩ := mem_at hk'
    have hnk : (idsOf l d k).Nodup := nodup_kid hn'.2 hk
    refine frm_mem (h3 i k hi9) hnk (fun p hp1 hp2 q hq => ?_) x
    have h5 := hp p hp1 hp2
    have h6 : p ∈ (nodeAt l id).kids.flatMap (idsOf l d) := List.mem_flatMap.2 ⟨k, hk, hp1⟩
    rcases List.mem_cons.1 h5 with h5 | h5
    ·rw [h5] at h6; exact absurd h6 hn'.1
    ·exact hR q (List.mem_cons_of_mem _ (hc p (by rw [idsOf]; exact List.mem_cons_of_mem _ h6) h5 q hq))
def seenOf (t : Tr) : List Int := ((twalk t).map (·.seen)).getD []
abbrev atR (t : Tr) (r : Int) : Tr := ⟨r, t.next, t.pages⟩
def Lv (t : Tr) (rs : List Int) (x : Int) : Prop := x ∈ seenOf t ∨ ∃ r ∈ rs, x ∈ seenOf (atR t r)
theorem seen_top {t : Tr} {d : Nat} {ps : List Pr} (h : TTop t d ps) : ∀ x, x ∈ seenOf t ↔ t.root ≠ 0 ∧ x ∈ idsOf t.pages d t.root := by
 intro x
 unfold seenOf twalk
 rcases h with ⟨h0, _, rfl⟩ | ⟨h0, hd, h1, h2, rfl⟩
 ·rw [if_pos h0]; simp [h0]
 ·rw [if_neg h0]
  have := wk_of (l := t.pages) (e := 15 - d) d t.root [] none ⟨[], none, []⟩ h1 h2 (fun i _ => by simp) (.inl rfl)
  rw [show 15 - d + 1 + d = 16 by omega] at this
  rw [this]
  simp [h0]
theorem ids_kids {l : List Wrt} : ∀ {d : Nat} {id : Int} {lo : Str} {hi : Option Str}, TOk l d id lo hi → ∀ p ∈ idsOf l d id, ∀ k ∈ (nodeAt l p).kids, k ∈ idsOf l d id
 | 0, id, lo, hi, ⟨nd, hN, h1, h2, h3⟩, p, hp, k, hk => by
  simp only [idsOf, List.mem_singleton] at hp
  rw [hp, hN.at] at hk
  have hc := hN.ok.2.1
  unfold ncount at hc
  rw [if_pos h1] at hc
  rw [List.eq_nil_of_length_eq_zero hc.2] at hk
  cases hk
 | d + 1, id, lo, hi, ⟨nd, hN, h1, h2, h3⟩, p, hp, k, hk => by
  rw [idsOf, List.mem_cons] at hp ⊢
  rcases hp with rfl | hp
  ·exact .inr (List.mem_flatMap.2 ⟨k, hk, ids_self l d k⟩)
  ·obtain ⟨q, hq, hp⟩ := List.mem_flatMap.1 hp
   have hq' := hq
   rw [hN.at] at hq'
   obtain ⟨i, hi9⟩ := mem_at hq'
   exact .inr (List.mem_flatMap.2 ⟨q, hq, ids_kids (h3 i q hi9) p hp k hk⟩)
theorem ids_page {l : List Wrt} : ∀ {d : Nat} {id : Int} {lo : Str} {hi : Option Str}, TOk l d id lo hi → ∀ p ∈ idsOf l d id, tpage l p ≠ none
 | 0, id, lo, hi, h, p, hp => by
  simp only [idsOf, List.mem_singleton] at hp
  rw [hp]; exact h.is
 | d + 1, id, lo, hi, h, p, hp => by
  have his := h.is
  obtain ⟨nd, hN, h1, h2, h3⟩ := h
  rw [idsOf, List.mem_cons] at hp
  rcases hp with rfl | hp
  ·exact his
  ·obtain ⟨q, hq, hp⟩ := List.mem_flatMap.1 hp
   rw [hN.at] at hq
   obtain ⟨i, hi9⟩ := mem_at hq
   exact ids_page (h3 i q hi9) p hp
def Clo (l : List Wrt) (R : List Int) : Prop := ∀ p ∈ R, ∀ k ∈ (nodeAt l p).kids, k ∈ R
theorem frm_top {t : Tr} {d : Nat} {ps : List Pr} (h : TTop t d ps) (h0 : t.root ≠ 0) {R : List Int} (hc : Clo t.pages R) : (∀ x, x ∈ frm t.pages d t.root R ↔ x ∈ R ∨ x ∈ seenOf t) ∧ Clo t.pages (frm t.pages d t.root R) := by
 have hs := seen_top h
 rcases h with ⟨h9, _⟩ | ⟨_, hd, h1, h2, rfl⟩
 ·exact absurd h9 h0
 ·have hm : ∀ x, x ∈ frm t.pages d t.root R ↔ x ∈ R ∨ x ∈ idsOf t.pages d t.root := frm_mem h1 h2 fun p _ hp k hk => hc p hp k hk
  refine ⟨fun x => by rw [hm x, hs x]; simp [h0], fun p hp k hk => ?_⟩
  rw [hm] at hp ⊢
  rcases hp with hp | hp
  ·exact .inl (hc p hp k hk)
  ·exact .inr (ids_kids h1 p hp k hk)
theorem seen_page {t : Tr} {d : Nat} {ps : List Pr} (h : TTop t d ps) : ∀ x ∈ seenOf t, tpage t.pages x ≠ none := by
 intro x hx
 have hs := (seen_top h x).1 hx
 rcases h with ⟨h9, _⟩ | ⟨_, hd, h1, h2, rfl⟩
 ·exact absurd h9 hs.1
 ·exact ids_page h1 x hs.2
theorem ndp_len {α : Type} [BEq α] [LawfulBEq α] : ∀ {a b : List α}, a.Nodup → (∀ x ∈ a, x ∈ b) → a.length ≤ b.length
 | [], b, _, _ => Nat.zero_le _
 | x :: r, b, hn, h => by
  rw [List.nodup_cons] at hn
  have hx := h x (by simp)
  have := ndp_len (a := r) (b := b.erase x) hn.2 fun y hy => by
   rw [List.mem_erase_of_ne]
   ·exact h y (by simp [hy])
   ·rintro rfl; exact hn.1 hy
  rw [List.length_erase_of_mem hx] at this
  have hp := List.length_pos_of_mem hx
  simp only [List.length_cons]
  omega
theorem rise_eq : ∀ {a b : List Int}, a.Pairwise (· < ·) → b.Pairwise (· < ·) → (∀ x, x ∈ a ↔ x ∈ b) → a = b
 | [], [], _, _, _ => rfl
 | [], y :: r, _, _, h => by have := (h y).2 (by simp); cases this
 | y :: r, [], _, _, h => by have := (h y).1 (by simp); cases this
 | x :: a, y :: b, ha, hb, h => by
  rw [List.pairwise_cons] at ha hb
  have e : x = y := by
   have h1 := (h x).1 (by simp)
   have h2 := (h y).2 (by simp)
   rcases List.mem_cons.1 h1 with h1 | h1
   ·exact h1
   ·rcases List.mem_cons.1 h2 with h2 | h2
    ·exact h2.symm
    ·have := hb.1 x h1; have := ha.1 y h2; omega
  subst e
  congr 1
  refine rise_eq ha.2 hb.2 fun z => ?_
  have hz := h z
  simp only [List.mem_cons] at hz
  constructor
  ·intro h1
   rcases hz.1 (.inr h1) with h2 | h2
   ·have := ha.1 z h1; omega
   ·exact h2
  ·intro h1
   rcases hz.2 (.inr h1) with h2 | h2
   ·have := hb.1 z h1; omega
   ·exact h2
def LvR (t : Tr) (rs : List Int) (a : List Int) : Prop := a.Pairwise (· < ·) ∧ ∀ x, x ∈ a ↔ Lv t rs x
theorem LvR.eq {t : Tr} {rs a b : List Int} (h : LvR t rs a) (k : LvR t rs b) : a = b := rise_eq h.1 k.1 fun x => (h.2 x).trans (k.2 x).symm
def LvOk (t : Tr) (rs : List Int) : Prop := (∃ ps, tprs t = some ps) ∧ ∀ r ∈ rs, ∃ ps, tprs (atR t r) = some ps
theorem tprs_top {t : Tr} {ps : List Pr} (h : tprs t = some ps) : ∃ d, TTop t d ps ∧ TNum t ∧ ps.length ≤ 4096 := by
 unfold tprs at h
 split at h
 ·rename_i hT
  cases hw : twalk t with
  | none => rw [hw] at h; cases h
  | some s =>
   rw [hw] at h
   simp only [Option.bind_some] at h
   split at h
   ·rename_i hl
    have e := Option.some.inj h
    obtain ⟨d, hd⟩ := ttop_of hw
    rw [e] at hd
    exact ⟨d, hd, hT, by rw [← e]; exact hl⟩
   ·cases h
 ·cases h
theorem lv_page {t : Tr} {rs : List Int} (h : LvOk t rs) {x : Int} (hx : Lv t rs x) : tpage t.pages x ≠ none := by
 rcases hx with hx | ⟨r, hr, hx⟩
 ·obtain ⟨ps, h1⟩ := h.1
  obtain ⟨d, h2, _⟩ := tprs_top h1
  exact seen_page h2 x hx
 ·obtain ⟨ps, h1⟩ := h.2 r hr
  obtain ⟨d, h2, _⟩ := tprs_top h1
  exact seen_page h2 x hx
theorem tpage_mem : ∀ {l : List Wrt} {id : Int} {x : List UInt8}, tpage l id = some x → (id, x) ∈ l
 | [], id, x, h => by cases h
 | y :: r, id, x, h => by
  unfold tpage at h
  split at h
  ·rename_i e
   cases h; subst e; exact List.mem_cons_self ..
  ·exact List.mem_cons_of_mem _ (tpage_mem h)
theorem tpage_ne : ∀ {l : List Wrt} {y : Wrt}, y ∈ l → tpage l y.1 ≠ none
 | a :: r, y, h => by
  unfold tpage
  split
  ·intro h; cases h
  ·rename_i e
   rcases List.mem_cons.1 h with rfl | h
   ·exact absurd rfl e
   ·exact tpage_ne h
theorem tups_rise {next : Int} {l : List Wrt} (h : tups next l l.length) : (l.map (·.1)).Pairwise (· < ·) := by
 have hu := tups_up h
 rw [List.pairwise_iff_getElem]
 intro i j hi hj hij
 rw [List.length_map] at hi hj
 have := hu i j hij hj
 rw [tid_at (List.getElem?_eq_getElem hi), tid_at (List.getElem?_eq_getElem hj)] at this
 simpa using this
theorem tups_of {next : Int} {l : List Wrt} (h1 : (l.map (·.1)).Pairwise (· < ·)) (h2 : ∀ y ∈ l, 0 < y.1 ∧ y.1 < next) : tups next l l.length := by
 intro i hi
 rw [tid_at (List.getElem?_eq_getElem hi)]
 refine ⟨?_, (h2 _ (List.getElem_mem hi)).2⟩
 split
 ·exact (h2 _ (List.getElem_mem hi)).1
 ·rename_i h0
  have hi' : i - 1 < l.length := by omega
  rw [tid_at (List.getElem?_eq_getElem hi')]
  have := List.pairwise_iff_getElem.1 h1 (i - 1) i (by simpa using hi') (by simpa using hi) (by omega)
  simpa using this
theorem tups_bd {next : Int} {l : List Wrt} (h : tups next l l.length) : ∀ y ∈ l, 0 < y.1 ∧ y.1 < next := by
 intro y hy
 obtain ⟨i, hi⟩ := mem_at hy
 have hl := (List.getElem?_eq_some_iff.1 hi).1
 have h1 := (h i hl).2
 have h2 := tups_ge h i hl
 rw [tid_at hi] at h1 h2
 omega
def keepP (a : List Int) (l : List Wrt) : List Wrt := l.filter fun y => decide (y.1 ∈ a)
abbrev swT (t : Tr) (a : List Int) : Tr := ⟨t.root, t.next, keepP a t.pages⟩
theorem tups_keep {next : Int} {l : List Wrt} (a : List Int) (h : tups next l l.length) : tups next (keepP a l) (keepP a l).length :=
 tups_of ((tups_rise h).sublist ((List.filter_sublist).map _)) fun y hy => tups_bd h y (List.mem_filter.1 hy).1
theorem TOk.part {l l' : List Wrt} : ∀ {d : Nat} {id : Int} {lo : Str} {hi : Option Str}, TOk l d id lo hi → (∀ p ∈ idsOf l d id, tpage l' p = tpage l p) → TOk l' d id lo hi ∧ idsOf l' d id = idsOf l d id ∧ pOf l' d id = pOf l d id
 | 0, id, lo, hi, ⟨nd, hN, h1, h2, h3⟩, h => by
  have hN' : NdIs l' id nd := by
   obtain ⟨x, a, b⟩ := hN
   exact ⟨x, (h id (ids_self _ _ _)).trans a, b⟩
  exact ⟨⟨nd, hN', h1, h2, h3⟩, rfl, by rw [pOf, pOf, hN.at, hN'.at]⟩
 | d + 1, id, lo, hi, ⟨nd, hN, h1, h2, h3⟩, h => by
  have hN' : NdIs l' id nd := by
   obtain ⟨x, a, b⟩ := hN
   exact ⟨x, (h id (ids_self _ _ _)).trans a, b⟩
  have hk : ∀ (i : Nat) kid, nd.kids[i]? = some kid → ∀ p ∈ idsOf l d kid, tpage l' p = tpage l p := fun i kid hk p hp =>
   h p (by rw [idsOf, hN.at]; exact List.mem_cons_of_mem _ (List.mem_flatMap.2 ⟨kid, List.mem_of_getElem? hk, hp⟩))
  refine ⟨⟨nd, hN', h1, h2, fun i kid hi => (TOk.part (h3 i kid hi) (hk i kid hi)).1⟩, ?_, ?_⟩
  ·rw [idsOf, idsOf, hN.at, hN'.at]
   congr 1
   exact flatMap_same _ fun x hx => by obtain ⟨i, hi⟩ := mem_at hx; exact (TOk.part (h3 i x hi) (hk i x hi)).2.1
  ·rw [pOf, pOf, hN.at, hN'.at]
   exact flatMap_same _ fun x hx => by obtain ⟨i, hi⟩ := mem_at hx; exact (TOk.part (h3 i x hi) (hk i x hi)).2.2
theorem keep_len {t : Tr} {rs a : List Int} (hA : LvR t rs a) (h : LvOk t rs) : (keepP a t.pages).length = a.length := by
 obtain ⟨ps, h1⟩ := h.1
 obtain ⟨d, h2, h3, _⟩ := tprs_top h1
 have hk := tups_rise (tups_keep a h3.2.2.1)
 have e : (keepP a t.pages).map (·.1) = a := by
  refine rise_eq hk hA.1 fun x => ?_
  constructor
  ·intro hx
   obtain ⟨y, hy, rfl⟩ := List.mem_map.1 hx
   simpa using (List.mem_filter.1 hy).2
  ·intro hx
   have := lv_page h ((hA.2 x).1 hx)
   cases hp : tpage t.pages x with
   | none => exact absurd hp this
   | some z => exact List.mem_map.2 ⟨(x, z), List.mem_filter.2 ⟨tpage_mem hp, by simpa using hx⟩, rfl⟩
 have := congrArg List.length e
 simpa using this
theorem keep_le (a : List Int) (l : List Wrt) : (keepP a l).length ≤ l.length := List.length_filter_le _ _
end Go.Proofs.YtpiikmkajckccaaGreat

namespace Go.Proofs.YtpiikmkajckccaaGreat
open Go.RowKit
set_option maxRecDepth 100000 in
set_option maxHeartbeats 2000000 in
theorem vdcl_any (w : World) (a b : Int) (u : Value) (hu : u.oneCell' = true) : Calls Tryz.prog 94 #[.agg #[.int .i64 a, u], .int .i64 b] w fun e w' => e = .returned (.int .i64 (icmp a b)) ∧ Below w.heap.size w w' := by
 obtain ⟨W, hW, D, bW, sW⟩ := boxedN w #[.int .i64 a, u] 44
 obtain ⟨⟨D0, D1⟩, _⟩ := cells2r D
 have K1 := hide (pcmpi_any W a b)
 have HB := hide bW
 rw [hW] at D0 D1 K1 HB
 clear D bW
 go_enter Tryz.func94, Tryz.ntmps94
 go_wp2_with fail
 refine K1.out.mono ?_
 rintro e w1 ⟨rfl, rfl⟩
 go_wp2
 go_ret
 exact ⟨rfl, HB.out⟩
set_option maxRecDepth 100000 in
set_option maxHeartbeats 2000000 in
theorem vbsf_at (w0 w : World) (pv : Value) (ps : List Wrt) (id : Int) (h : RdC w0 pv ps) (h0 : Below w0.heap.size w0 w) (hu : tUp ps) (hl : ps.length ≤ 65536) :
  Calls Tryz.prog 93 #[pv, .int .i64 id, .func (.func 94) #[] #[]] w fun e w' => BsR w w' ps id e := by
 obtain ⟨a, c, rfl⟩ := h.slice
 obtain ⟨L, hL⟩ : ∃ L, L = ps.length := ⟨_, rfl⟩
 rw [← hL] at hl
 have HH := hide h
 have H0 := hide h0
 rw [← hL] at HH ⊢
 replace hL := hide hL
 have HK : Hid (∀ t s, t < s → s < L → tid ps t < tid ps s) := fun t s h1 h2 => hu t s h1 (by rw [← hL.out]; exact h2)
 have KC := hide (fun w a u hu => vdcl_any w a id u hu)
 clear hu h h0
 go_enter Tryz.func93, Tryz.ntmps93
 go_wp2
 go_loopw [9, 10] (fun p q wr => ∃ i j : Nat, i ≤ j ∧ j ≤ L ∧ p = .int .i64 i ∧ q = .int .i64 j ∧ Hid (Below w.heap.size w wr ∧ (∀ t, t < i → tid ps t < id) ∧ ∀ t, j ≤ t → t < L → id ≤ tid ps t)) (fun p q _ => (intOf q).toNat - (intOf p).toNat)
 case atStart => exact ⟨0, L, Nat.zero_le _, Nat.le_refl _, rfl, rfl, hide ⟨Below.refl _ _, fun t h => by omega, fun t h1 h2 => by omega⟩⟩
 case round =>
  obtain ⟨i, j, hij, hjL, rfl, rfl, hI⟩ := hrel
  have HW := hide (H0.out.trans (hI.out.1.mono H0.out.size))
  by_cases hlt : i < j
  ·have hq : (i : Int) < (j : Int) := by omega
   obtain ⟨s, hs⟩ : ∃ s : Nat, (i : Int) + (j : Int) = (s : Int) := ⟨i + j, by omega⟩
   have hs1 : IntKind.i64.wrap (s : Int) = (s : Int) := IntWalk.i64_in _ (by omega)
   obtain ⟨m, hm⟩ : ∃ m : Nat, (s : Int) / 2 = (m : Int) := ⟨s / 2, by omega⟩
   have hm2 : (m : Int) < (L : Int) := by omega
   have hmi : Hid (i ≤ m ∧ m < j) := by show _ ∧ _; omega
   obtain ⟨y, hy⟩ := some_el ps (k := m) (by rw [← hL.out]; omega)
   have hny := hide (tid_at hy)
   obtain ⟨b, off, u, rfl, hc1, hc2, hr⟩ := HH.out.wrt hy
   obtain ⟨au, cu, rfl⟩ := hr.slice
   replace hc1 := (HW.out.cell (cell_lt hc1)).trans hc1
   replace hc2 := (HW.out.cell (cell_lt hc2)).trans hc2
   replace hy := hide hy
   obtain ⟨z, hz⟩ : ∃ z, z = y.1 := ⟨_, rfl⟩
   rw [← hz] at hc1
   replace hz := hide hz
   clear hr
   go_wp2_with fail
   refine (KC.out _ _ _ rfl).mono ?_
   rintro e w1 ⟨rfl, b1⟩
   by_cases hlx : z < id
   ·have hI' : Hid (Below w.heap.size w w1 ∧ (∀ t, t < m + 1 → tid ps t < id) ∧ ∀ t, j ≤ t → t < L → id ≤ tid ps t) := ⟨hI.out.1.trans (b1.mono hI.out.1.size), fun t ht => by
     by_cases e : t = m
     ·subst e; rw [hny.out, ← hz.out]; exact hlx
     ·have h1 := HK.out t m (by omega) (by omega)
      rw [hny.out, ← hz.out] at h1
      omega, hI.out.2.2⟩
    have hcm : icmp z id = -1 := by rw [icmp, if_pos hlx]
    rw [hcm]
    clear b1 hcm
    replace hlx := hide hlx
    go_wp2
    go_roundw
    case rel => exact ⟨m + 1, j, by have := hmi.out; omega, hjL, by go_num, rfl, hI'⟩
    case measure => have := hmi.out; simp [intOf]; omega
   ·have hI' : Hid (Below w.heap.size w w1 ∧ (∀ t, t < i → tid ps t < id) ∧ ∀ t, m ≤ t → t < L → id ≤ tid ps t) := ⟨hI.out.1.trans (b1.mono hI.out.1.size), hI.out.2.1, fun t h1 h2 => by
     by_cases e : t = m
     ·subst e; rw [hny.out, ← hz.out]; omega
     ·have h3 := HK.out m t (by omega) h2
      rw [hny.out, ← hz.out] at h3
      omega⟩
    obtain ⟨q, hq9⟩ : ∃ q, q = icmp z id := ⟨_, rfl⟩
    have hcm : ¬ q < 0 := by rw [hq9, icmp, if_neg hlx]; split <;> omega
    rw [← hq9]
    clear b1 hq9
    replace hlx := hide hlx
    go_wp2
    go_roundw
    case rel => exact ⟨i, m, hmi.out.1, by have := hmi.out; omega, rfl, rfl, hI'⟩
    case measure => have := hmi.out; simp [intOf]; omega
  ·have hq : ¬ (i : Int) < (j : Int) := by omega
   obtain rfl : i = j := by omega
   by_cases hiL : i < L
   ·have hq2 : (i : Int) < (L : Int) := by omega
    obtain ⟨y, hy⟩ := some_el ps (k := i) (by rw [← hL.out]; omega)
    have hny := hide (tid_at hy)
    obtain ⟨b, off, u, rfl, hc1, hc2, hr⟩ := HH.out.wrt hy
    obtain ⟨au, cu, rfl⟩ := hr.slice
    replace hc1 := (HW.out.cell (cell_lt hc1)).trans hc1
    replace hc2 := (HW.out.cell (cell_lt hc2)).trans hc2
    replace hy := hide hy
    obtain ⟨z, hz⟩ : ∃ z, z = y.1 := ⟨_, rfl⟩
    rw [← hz] at hc1
    replace hz := hide hz
    clear hr
    go_wp2_with fail
    refine (KC.out _ _ _ rfl).mono ?_
    rintro e w1 ⟨rfl, b1⟩
    have HE := hide (hI.out.1.trans (b1.mono hI.out.1.size))
    by_cases he : z = id
    ·have hcm : icmp z id = 0 := by rw [icmp, if_neg (by omega), if_neg (by omega)]
     have hR : Hid (∃ y, ps[i]? = some y ∧ y.1 = id) := ⟨y, hy.out, by rw [← hz.out]; exact he⟩
     rw [hcm]
     clear b1 hcm
     replace he := hide he
     go_wp2
     go_ret2
     exact ⟨i, true, rfl, .inl ⟨rfl, hR.out⟩, HE.out⟩
    ·have hp : Hid (tpage ps id = none) := tpage_none fun t ht => by
      by_cases h1 : t < i
      ·have := hI.out.2.1 t h1; omega
      ·by_cases h2 : t = i
       ·subst h2; rw [hny.out, ← hz.out]; exact he
       ·have h3 := HK.out i t (by omega) (by rw [hL.out]; exact ht)
        have h4 := hI.out.2.2 i (Nat.le_refl _) hiL
        omega
     obtain ⟨q, hq9⟩ : ∃ q, q = icmp z id := ⟨_, rfl⟩
     have hcm : (q == 0) = false := by
      have : q ≠ 0 := by
       rw [hq9, icmp]
       split
       ·omega
       ·split <;> omega
      simpa using this
     rw [← hq9]
     clear b1 hq9
     replace he := hide he
     go_wp2
     go_ret2
     exact ⟨i, false, rfl, .inr ⟨rfl, hp.out⟩, HE.out⟩
   ·have hq2 : ¬ (i : Int) < (L : Int) := by omega
    have hp : Hid (tpage ps id = none) := tpage_none fun t ht => by have := hI.out.2.1 t (by rw [← hL.out] at ht; omega); omega
    go_wp2
    go_ret2
    exact ⟨i, false, rfl, .inr ⟨rfl, hp.out⟩, hI.out.1⟩
abbrev sev (pv : Value) (bm : Nat) : Value := .agg #[pv, .map (some bm)]
set_option maxRecDepth 100000 in
set_option maxHeartbeats 2000000 in
theorem vkids_at (w0 w : World) (pv : Value) (ps : List Wrt) (bm : Nat) (id : Int) (h : RdC w0 pv ps) (h0 : Below w0.heap.size w0 w) (hu : tUp ps) (hl : ps.length ≤ 65536) {x : List UInt8} {nd : Nd} (hx : tpage ps id = some x) (hd : ndec x = (nd, 0)) :
  Calls Tryz.prog 68 #[sev pv bm, .int .i64 id] w fun e w' => ∃ dv, e = .returned dv ∧ OwnJ w.heap.size w' dv nd.kids ∧ Below w.heap.size w w' := by
 obtain ⟨W, hW, D, bW, sW⟩ := boxedN w #[pv, .map (some bm)] 68
 have KB := hide (vbsf_at w0 W pv ps id h (h0.trans (bW.mono h0.size)) hu hl)
 obtain ⟨⟨D0, D1⟩, _⟩ := cells2r D
 obtain ⟨a, c, rfl⟩ := h.slice
 have HH := hide h
 have H0 := hide (h0.trans (bW.mono h0.size))
 have HB := hide bW
 have E0 := hide D0
 dsimp only [sev] at *
 rw [hW] at D0 D1 KB
 replace hu := hide hu
 obtain ⟨L, hL⟩ : ∃ L, L = ps.length := ⟨_, rfl⟩
 rw [← hL] at D0 E0 KB hW ⊢
 replace hL := hide hL
 replace hx := hide hx
 replace hd := hide hd
 clear h h0 bW D
 go_enter Tryz.func68, Tryz.ntmps68
 go_wp2_with fail
 refine KB.out.mono ?_
 rintro e w1 ⟨i, ok, rfl, hp, b1⟩
 rw [← hW] at b1
 have B1 := hide (HB.out.trans (b1.mono HB.out.size))
 have H1 := hide (H0.out.trans (b1.mono H0.out.size))
 have D0' : w1.cell? ⟨w.heap.size, 0, none⟩ = some (.slice a L c) := (b1.cell (cell_lt E0.out)).trans E0.out
 clear b1 KB HB H0 E0 D0 D1
 have hp2 : ∃ y, ps[i]? = some y ∧ y.1 = id := by
  rcases hp with ⟨_, q⟩ | ⟨_, q⟩
  ·exact q
  ·rw [hx.out] at q; cases q
 clear hp
 obtain ⟨y, hy, he⟩ := hp2
 have hil : (i : Int) < (L : Int) := by rw [hL.out]; have := (List.getElem?_eq_some_iff.1 hy).1; omega
 obtain ⟨b, off, u, rfl, hc1, hc2, hr⟩ := HH.out.wrt hy
 have hyx : y.2 = x := by have := tpage_hit hu.out hy he; rw [hx.out] at this; exact (Option.some.inj this).symm
 rw [hyx] at hr
 have KD := hide (pdec_any w1 u x (Rd.to hr H1.out))
 obtain ⟨au, cu, rfl⟩ := hr.slice
 replace hc1 := (H1.out.cell (cell_lt hc1)).trans hc1
 replace hc2 := (H1.out.cell (cell_lt hc2)).trans hc2
 replace hyx := hide hyx
 replace hr := hide hr
 replace hy := hide hy
 replace he := hide he
 rw [hd.out] at KD
 dsimp only at KD
 obtain ⟨xl, hxl⟩ : ∃ n, n = x.length := ⟨_, rfl⟩
 rw [← hxl] at KD hc2
 replace hxl := hide hxl
 go_wp2_with fail
 refine KD.out.mono ?_
 rintro e w2 ⟨kv, vv, dv, rfl, o2, b2⟩
 obtain ⟨ka, kc, va, vc, da, dc, rfl, rfl, rfl⟩ := o2.rd.slices
 have O2 := hide o2
 have B2 := hide (B1.out.trans (b2.mono B1.out.size))
 have hs2 := hide B1.out.size
 obtain ⟨Y, hY, DY, bY, sY⟩ := boxedN w2 #[.bool nd.leaf, .slice ka nd.keys.length kc, .slice va nd.vals.length vc, .slice da nd.kids.length dc] 98
 have C3 := cellN (i := 3) DY rfl
 have BY := hide bY
 rw [hY] at C3
 clear DY bY o2 b2 D0' hc1 hc2 KD
 go_wp2
 go_ret
 rw [← hY]
 exact ⟨_, rfl, rows_mono (rows_to O2.out.kids BY.out) hs2.out, B2.out.trans (BY.out.mono B2.out.size)⟩
theorem zeroE (w : World) : (zeroValue 75).run Tryz.prog w = .ok (.agg #[]) w := by kernel_rfl
set_option maxRecDepth 100000 in
set_option maxHeartbeats 2000000 in
theorem vhas_any (w : World) (pv : Value) (bm n : Nat) (m : Int → Option Value) (id : Int) (h : MapI w bm n m) (hv : ∀ i v, m i = some v → v = .agg #[]) (hid : (Lit.int .i64 id).wf = true) (hp : pv.oneCell' = true) :
  Calls Tryz.prog 29 #[sev pv bm, .int .i64 id] w fun e w' => e = .returned (.bool (m id).isSome) ∧ Below w.heap.size w w' := by
 obtain ⟨W, hW, D, bW, sW⟩ := boxedN w #[pv, .map (some bm)] 68
 obtain ⟨⟨D0, D1⟩, _⟩ := cells2r D
 have hM := h.kept (bW.block _ h.lt)
 have hlk := hM.look Tryz.underlying66 (zeroE W) hid true
 simp only [if_true] at hlk
 have hg : (m id).getD (.agg #[]) = .agg #[] := by
  cases hm : m id with
  | none => rfl
  | some v => exact hv id v hm
 rw [hg] at hlk
 obtain ⟨R, hR⟩ : ∃ R, R = (m id).isSome := ⟨_, rfl⟩
 rw [← hR] at hlk ⊢
 have HB := hide bW
 dsimp only [sev] at *
 rw [hW] at D0 D1 hlk
 clear D bW hM hg hR
 replace h := hide h
 replace hv := hide hv
 replace hid := hide hid
 go_enter Tryz.func29, Tryz.ntmps29
 go_wp2
 go_ret
 rw [← hW]
 exact ⟨rfl, HB.out.alloc HB.out.size _⟩
end Go.Proofs.YtpiikmkajckccaaGreat

namespace Go.Proofs.YtpiikmkajckccaaGreat
open Go.RowKit
structure VSt (w0 w : World) (bm : Nat) (ps : List Wrt) (R : List Int) : Prop where
 map : ∃ m, MapI w bm R.length m ∧ (∀ i, (m i).isSome = decide (i ∈ R)) ∧ ∀ i v, m i = some v → v = .agg #[]
 nod : R.Nodup
 pg : ∀ x ∈ R, tpage ps x ≠ none
 bel : Below w0.heap.size w0 w
 bm : w0.heap.size ≤ bm
theorem VSt.lt {w0 w : World} {bm : Nat} {ps : List Wrt} {R : List Int} (h : VSt w0 w bm ps R) : bm < w.heap.size := by
 obtain ⟨m, h1, _⟩ := h.map
 exact h1.lt
theorem VSt.to {w0 w w' : World} {bm : Nat} {ps : List Wrt} {R : List Int} (h : VSt w0 w bm ps R) (b : Below w.heap.size w w') : VSt w0 w' bm ps R := by
 obtain ⟨m, h1, h2⟩ := h.map
 exact ⟨⟨m, h1.kept (b.block _ h1.lt), h2⟩, h.nod, h.pg, h.bel.trans (b.mono h.bel.size), h.bm⟩
theorem VSt.len {w0 w : World} {bm : Nat} {ps : List Wrt} {R : List Int} (h : VSt w0 w bm ps R) : R.length ≤ ps.length := by
 have := ndp_len (b := ps.map (·.1)) h.nod fun x hx => by
  have := h.pg x hx
  cases hp : tpage ps x with
  | none => exact absurd hp this
  | some z => exact List.mem_map.2 ⟨(x, z), tpage_mem hp, rfl⟩
 simpa using this
def FrR (w0 w w' : World) (bm : Nat) (ps : List Wrt) (R : List Int) (e : Ending) : Prop := e = .returned (.tuple #[]) ∧ VSt w0 w' bm ps R ∧ KpM bm bm w w'
set_option maxRecDepth 100000 in
set_option maxHeartbeats 2000000 in
theorem vfrom_zero (w : World) (pv : Value) (bm : Nat) (hp : pv.oneCell' = true) : Calls Tryz.prog 50 #[sev pv bm, .int .i64 0] w fun e w' => e = .returned (.tuple #[]) ∧ Below w.heap.size w w' := by
 obtain ⟨W, hW, D, bW, sW⟩ := boxedN w #[pv, .map (some bm)] 68
 have HB := hide bW
 dsimp only [sev] at *
 clear D bW
 go_enter Tryz.func50, Tryz.ntmps50
 go_wp2
 (try simp only [Exit.inBlock, Exit.then])
 refine bodyPost_ret (results_none rfl _ _ _) rfl ?_
 exact ⟨rfl, by rw [← hW]; exact HB.out⟩
set_option maxRecDepth 100000 in
set_option maxHeartbeats 2000000 in
theorem vfrom_in (w0 w : World) (pv : Value) (bm : Nat) (ps : List Wrt) (R : List Int) (id : Int) (hp : pv.oneCell' = true) (h : VSt w0 w bm ps R) (hin : id ∈ R) (h0 : id ≠ 0) (hid : (Lit.int .i64 id).wf = true) :
  Calls Tryz.prog 50 #[sev pv bm, .int .i64 id] w fun e w' => FrR w0 w w' bm ps R e := by
 obtain ⟨W, hW, D, bW, sW⟩ := boxedN w #[pv, .map (some bm)] 68
 obtain ⟨⟨D0, D1⟩, DF⟩ := cells2r D
 have hV := h.to bW
 obtain ⟨m, h1, h2, h3⟩ := hV.map
 have KH := hide (vhas_any W pv bm _ m id h1 h3 hid hp)
 rw [h2 id, decide_eq_true hin] at KH
 have HB := hide bW
 have HV := hide hV
 dsimp only [sev] at *
 rw [hW] at D0 D1 DF KH
 replace hin := hide hin
 replace hid := hide hid
 replace h := hide h
 clear D bW hV h1 h2 h3
 go_enter Tryz.func50, Tryz.ntmps50
 go_wp2_with fail
 refine KH.out.mono ?_
 rintro e w1 ⟨rfl, b1⟩
 rw [← hW] at b1
 have H1 := hide (HV.out.to b1)
 have K1 := hide (KpM.of (g := bm) (m := bm) (HB.out.trans (b1.mono HB.out.size)))
 clear b1 KH HB HV D0 D1 DF
 go_wp2
 (try simp only [Exit.inBlock, Exit.then])
 refine bodyPost_ret (results_none rfl _ _ _) rfl ?_
 exact ⟨rfl, H1.out, K1.out⟩
theorem fold_take (g : Int → List Int → List Int) (ks : List Int) (R : List Int) {k : Nat} {x : Int} (h : ks[k]? = some x) : (ks.take (k + 1)).foldl (fun R k => g k R) R = g x ((ks.take k).foldl (fun R k => g k R) R) := by
 rw [List.take_add_one, h]
 simp
set_option maxRecDepth 100000 in
set_option maxHeartbeats 4000000 in
theorem vfrom_step (w0 : World) (pv : Value) (bm : Nat) (ps : List Wrt) (id : Int) (hpg : RdC w0 pv ps) (hu : tUp ps) (hl : ps.length ≤ 65536) (nd : Nd) (hN : NdIs ps id nd) (h0 : id ≠ 0) (hid : (Lit.int .i64 id).wf = true) (g : Int → List Int → List Int)
  (ih : ∀ kid ∈ nd.kids, ∀ (w : World) (R : List Int), VSt w0 w bm ps R → Calls Tryz.prog 50 #[sev pv bm, .int .i64 kid] w fun e w' => FrR w0 w w' bm ps (g kid R) e) :
  ∀ (w : World) (R : List Int), VSt w0 w bm ps R → id ∉ R → Calls Tryz.prog 50 #[sev pv bm, .int .i64 id] w fun e w' => FrR w0 w w' bm ps (nd.kids.foldl (fun R k => g k R) (id :: R)) e := by
 intro w R h hin
 obtain ⟨x, hx, hd⟩ := hN
 have hp : pv.oneCell' = true := by obtain ⟨a, c, rfl⟩ := hpg.slice; rfl
 obtain ⟨W, hW, D, bW, sW⟩ := boxedN w #[pv, .map (some bm)] 68
 obtain ⟨⟨D0, D1⟩, DF⟩ := cells2r D
 have hV := h.to bW
 obtain ⟨m, h1, h2, h3⟩ := hV.map
 have KH := hide (vhas_any W pv bm _ m id h1 h3 hid hp)
 rw [h2 id, decide_eq_false hin] at KH
 have hbmw := h.lt
 have HB := hide bW
 have HV := hide hV
 have HD := hide D
 have HPG := hide hpg
 have IH := hide ih
 obtain ⟨a, c, rfl⟩ := hpg.slice
 dsimp only [sev] at *
 obtain ⟨L, hL⟩ : ∃ L, L = ps.length := ⟨_, rfl⟩
 rw [← hL] at D0 HD KH hW HPG IH ⊢
 rw [hW] at D0 D1 DF KH
 replace hin := hide hin
 replace hid := hide hid
 replace hx := hide hx
 replace hd := hide hd
 replace h0 := hide h0
 have h00 : ¬ id = 0 := h0.out
 replace hu := hide hu
 have hl' := hide hl
 replace hL := hide hL
 replace hbmw := hide hbmw
 replace h := hide h
 have hm := hide (And.intro h2 h3)
 clear D bW hV h1 h2 h3 hpg ih hl
 go_enter Tryz.func50, Tryz.ntmps50
 go_wp2_with fail
 refine KH.out.mono ?_
 rintro e w1 ⟨rfl, b1⟩
 rw [← hW] at b1
 have D2 := (b1.block _ (lt_of_block HD.out)).trans HD.out
 clear sW
 have H1 := HV.out.to b1
 have K1 := KpM.of (g := bm) (m := bm) (HB.out.trans (b1.mono HB.out.size))
 have s1 : W.heap.size ≤ w1.heap.size := b1.size
 clear b1 KH HV D0 D1 DF
 obtain ⟨m1, g1, g2, g3⟩ := H1.map
 have hR1 := H1.len
 obtain ⟨w2, hrun, g4, g5⟩ := g1.store Tryz.underlying66 (by rw [maxLen]; have := hl'.out; omega) hid.out (.agg #[])
 have hne : w.heap.size ≠ bm := by have := hbmw.out; omega
 have D3 := (g5.block _ (lt_of_block D2) (by simpa using hne)).trans D2
 have K2 := hide (K1.map g5)
 have H2 : Hid (VSt w0 w2 bm ps (id :: R)) := by
  refine ⟨⟨_, g4, fun i => ?_, fun i v hv => ?_⟩, List.nodup_cons.2 ⟨hin.out, H1.nod⟩, fun y hy => ?_, ?_, H1.bm⟩
  ·by_cases e : i = id
   ·subst e; simp
   ·simp only [if_neg e, List.mem_cons, e, false_or]; exact g2 i
  ·by_cases e : i = id
   ·rw [if_pos e] at hv; exact (Option.some.inj hv).symm
   ·rw [if_neg e] at hv; exact g3 i v hv
  ·rcases List.mem_cons.1 hy with rfl | hy
   ·rw [hx.out]; intro h; cases h
   ·exact H1.pg y hy
  ·exact H1.bel.grown g5 H1.bel.size (fun j hj => by simp only [Option.some.injEq] at hj; have := H1.bm; omega)
 have KK := hide (vkids_at w0 w2 (.slice a L c) ps bm id HPG.out H2.out.bel hu.out hl'.out hx.out hd.out)
 obtain ⟨⟨C0, C1⟩, CF⟩ := cells2r D2
 obtain ⟨⟨E0, E1⟩, EF⟩ := cells2r D3
 dsimp only [sev] at KK
 have HD3 := hide D3
 have hs2 : Hid (w1.heap.size ≤ w2.heap.size) := g5.size
 clear D2 D3 K1 H1 g1 g2 g3 g4 g5 hR1
 go_wp2_with fail
 refine KK.out.mono ?_
 rintro e w3 ⟨dv, rfl, o3, b3⟩
 obtain ⟨da, dc, rfl⟩ := o3.rd.slice
 have D4 := hide ((b3.block _ (lt_of_block HD3.out)).trans HD3.out)
 have H3 := hide (H2.out.to b3)
 have K3 := hide (K2.out.trans (KpM.of b3))
 have O3 := hide o3
 have hb3 : Hid (bm < w2.heap.size) := H2.out.lt
 obtain ⟨DL, hDL⟩ : ∃ n, n = nd.kids.length := ⟨_, rfl⟩
 rw [← hDL] at O3 ⊢
 have hok := ndec_ok hd.out
 have hD3 : DL ≤ 301 := by
  rw [hDL]
  have h1 := (npr_len hok).2
  cases hlf : nd.leaf with
  | true =>
   have h2 := hok.2.1
   unfold ncount at h2
   rw [if_pos hlf] at h2
   omega
  | false => rw [kids_len hok hlf]; omega
 replace hDL := hide hDL
 clear o3 b3 KK C0 C1 CF E0 E1 EF hrun hok HD3
 go_wp2
 go_loopw [21] (fun p wr => ∃ k : Nat, k ≤ DL ∧ p = .int .i64 k ∧ Hid (VSt w0 wr bm ps ((nd.kids.take k).foldl (fun R k => g k R) (id :: R)) ∧ KpM bm bm w3 wr)) (fun p _ => DL - (intOf p).toNat)
 case atStart => exact ⟨0, Nat.zero_le _, rfl, hide ⟨H3.out, KpM.refl _ _ _⟩⟩
 case round =>
  obtain ⟨k, hk, rfl, hI⟩ := hrel
  have O6 := hI.out.2.row O3.out hb3.out hb3.out
  have D6 := (hI.out.2.1 _ (lt_of_block D4.out) hne hne).trans D4.out
  obtain ⟨⟨E0, E1⟩, EF⟩ := cells2r D6
  by_cases hlt : k < DL
  ·have hq : (k : Int) < (DL : Int) := by omega
   obtain ⟨kid, hkid⟩ := some_el nd.kids (k := k) (by rw [← hDL.out]; exact hlt)
   obtain ⟨b3, off3, e3, hc3⟩ := (OwnJ.rd O6).intAt hkid
   have KR := hide (IH.out kid (List.mem_of_getElem? hkid) wr _ hI.out.1)
   rw [← fold_take g nd.kids (id :: R) hkid] at KR
   replace hkid := hide hkid
   clear O6 D6
   subst e3
   go_wp2_with fail
   refine KR.out.mono ?_
   rintro e w8 ⟨rfl, h8, k8⟩
   have hI' := hide (And.intro h8 (hI.out.2.trans k8))
   clear h8 k8 KR E0 E1 EF hc3
   go_wp2
   go_roundw
   case rel => exact ⟨k + 1, by omega, by go_num, hI'⟩
   case measure => simp [intOf]; omega
  ·have hq : ¬ (k : Int) < (DL : Int) := by omega
   have ht : nd.kids.take k = nd.kids := List.take_of_length_le (by rw [← hDL.out]; omega)
   have hF : Hid (FrR w0 w wr bm ps (nd.kids.foldl (fun R k => g k R) (id :: R)) (.returned (.tuple #[]))) := by
    refine ⟨rfl, ?_, K3.out.trans hI.out.2⟩
    have := hI.out.1
    rw [ht] at this
    exact this
   clear O6 D6 E0 E1 EF ht hI
   go_wp2
   (try simp only [Exit.inBlock, Exit.then])
   first
    | refine bodyPost_ret (results_none rfl _ _ _) rfl ?_
    | refine bodyPost_end (results_none rfl _ _ _) rfl ?_
   exact hF.out
theorem tpage_id {next : Int} {ps : List Wrt} (hU : tups next ps ps.length) (hn : next ≤ 65536) {id : Int} {x : List UInt8} (h : tpage ps id = some x) : id ≠ 0 ∧ (Lit.int .i64 id).wf = true := by
 have := tpage_bd hU h
 exact ⟨by omega, WalkArith.wf_i64 (by omega)⟩
theorem vfrom_any (w0 : World) (pv : Value) (bm : Nat) (ps : List Wrt) (hpg : RdC w0 pv ps) {next : Int} (hU : tups next ps ps.length) (hn : 1 ≤ next ∧ next ≤ 65536) :
  ∀ (d : Nat) (id : Int) (lo : Str) (hi : Option Str), TOk ps d id lo hi → ∀ (w : World) (R : List Int), VSt w0 w bm ps R →
  Calls Tryz.prog 50 #[sev pv bm, .int .i64 id] w fun e w' => FrR w0 w w' bm ps (frm ps d id R) e := by
 have hl : ps.length ≤ 65536 := by have := tups_len hU hn.1; omega
 have hp : pv.oneCell' = true := by obtain ⟨a, c, rfl⟩ := hpg.slice; rfl
 intro d
 induction d with
 | zero =>
  intro id lo hi h w R hV
  obtain ⟨nd, hN, h1, h2, h3⟩ := h
  obtain ⟨x, hx, hd⟩ := hN
  obtain ⟨i0, iw⟩ := tpage_id hU hn.2 hx
  by_cases hin : id ∈ R
  ·rw [frm_in hin]
   exact vfrom_in w0 w pv bm ps R id hp hV hin i0 iw
  ·have hk : nd.kids = [] := by
    have hc := (ndec_ok hd).2.1
    unfold ncount at hc
    rw [if_pos h1] at hc
    exact List.eq_nil_of_length_eq_zero hc.2
   have := vfrom_step w0 pv bm ps id hpg (tups_up hU) hl nd ⟨x, hx, hd⟩ i0 iw (fun _ R => R) (fun kid hkid => by rw [hk] at hkid; cases hkid) w R hV hin
   rw [hk] at this
   rw [frm, if_neg hin]
   exact this
 | succ d ih =>
  intro id lo hi h w R hV
  obtain ⟨nd, hN, h1, h2, h3⟩ := h
  obtain ⟨x, hx, hd⟩ := hN
  obtain ⟨i0, iw⟩ := tpage_id hU hn.2 hx
  by_cases hin : id ∈ R
  ·rw [frm_in hin]
   exact vfrom_in w0 w pv bm ps R id hp hV hin i0 iw
  ·have := vfrom_step w0 pv bm ps id hpg (tups_up hU) hl nd ⟨x, hx, hd⟩ i0 iw (frm ps d) (fun kid hkid w R hV => by
    obtain ⟨i, hi9⟩ := mem_at hkid
    exact ih kid _ _ (h3 i kid hi9) w R hV) w R hV hin
   rw [frm, if_neg hin, NdIs.at ⟨x, hx, hd⟩]
   exact this
end Go.Proofs.YtpiikmkajckccaaGreat

namespace Go.Proofs.YtpiikmkajckccaaGreat
open Go.RowKit
abbrev OwnPg (B : Nat) (w : World) (v : Value) (ws : List Wrt) : Prop := OwnX 44 B w v ws
theorem infoPg : (Tryz.prog.info? 44).map (fun i => (i.zero, i.size, i.bytes)) = some (some (.agg #[.int .i64 0, .slice none 0 0]), 2, 32) := by kernel_rfl
theorem OwnX.shape {T B : Nat} {w : World} {v : Value} {ws : List Wrt} (h : OwnX T B w v ws) : ∃ a c, v = .slice a ws.length c := by
 obtain ⟨svs, h1, h2, h3⟩ := h
 rcases h2.2 with ⟨rfl, e⟩ | ⟨g, cap, cur, rfl, _⟩
 ·exact ⟨none, 0, by rw [e]⟩
 ·exact ⟨_, _, rfl⟩
theorem OwnX.to9 {T B : Nat} {w w' : World} {v : Value} {ws : List Wrt} (h : OwnX T B w v ws) (b : Below w.heap.size w w') : OwnX T B w' v ws := h.keepT (KeepT.below b) (KeepT.below b)
theorem wpList_appPg {ops : Array Oper} {rest : List Oper} {o : Oper} {a : Act} {w : World} {Q : Exit → Act → World → Prop} (hgd : o.guard = none) (s x : Operand)
  (ho : o.op = .call { callee := .builtin .append, args := #[s, x], argTypes := #[26, 26] }) (B : Nat) (v : Value) (ws : List Wrt) (f : Wrt) (sv : Value) (g : Nat) (hs : a.eval s = v) (hx : a.eval x = .slice (some ⟨g, 0, none⟩) 1 1)
  (hown : OwnPg B w v ws) (hsv : OwnB B w sv f.2) (hone : sv.oneCell' = true) (hc1 : w.cell? ⟨g, 0, none⟩ = some (.int .i64 f.1)) (hc2 : w.cell? ⟨g, 1, none⟩ = some sv) (hlen : (ws.length + 1) * 32 ≤ 140737488355328) (hB : B ≤ w.heap.size)
  (h : ∀ v' w', OwnPg B w' v' (ws ++ [f]) → w.grownBy w' v.ownBlock → Below B w w' → (∀ e, e ≠ 44 → KeepT e w w') → wpList Tryz.prog ops Q rest (a.put o.dst v') w') : wpList Tryz.prog ops Q (o :: rest) a w := by
 obtain ⟨i0, hi, hz0, hz1, hz2⟩ := info_parts infoPg
 obtain ⟨svs, h1, h2, h3⟩ := hown
 have n2 : ∀ j u, [Value.int .i64 f.1, sv][j]? = some u → w.cell? ((⟨g, 0, none⟩ : Addr).add j) = some u := by
  intro j u hj
  match j, hj with
  | 0, hj => simp at hj; subst hj; simpa [Addr.add] using hc1
  | 1, hj => simp at hj; subst hj; simpa [Addr.add] using hc2
  | j + 2, hj => simp at hj
 refine wpList_append_own _ hgd s x 26 ho B 44 i0 (.agg #[.int .i64 0, .slice none 0 0]) 2 32 Tryz.underlying26 hi hz0 hz1 hz2 rfl (by decide) v ws.length (wcells ws svs) hs h2 ⟨g, 0, none⟩ 1 1 [.int .i64 f.1, sv] hx rfl n2
  (fun u hu => by simp at hu; rcases hu with rfl | rfl; rfl; exact hone) (by rw [show maxLen = 9223372036854775807 from rfl]; omega) hlen hB ?_
 intro v' w' q1 q2 _
 exact h v' w' (OwnX.snoc (by decide) h1 h2 h3 hsv q2 (by simpa using q1)) q2 ((Below.refl _ _).grown q2 hB (fun k hk => (World.ownsRow.lt h2 k hk).1)) (fun e he => KeepT.grown h2 q2 he)
set_option maxRecDepth 100000 in
theorem bclone10 (w : World) (v : Value) (xs : List UInt8) (h : Rd w v xs) (hm : xs.length ≤ 140737488351232) :
  Calls Tryz.prog 30 #[v] w fun e w' => ∃ v', e = .returned v' ∧ OwnB w.heap.size w' v' xs ∧ Below w.heap.size w w' := by
 have h' := h
 obtain ⟨ao, cap, rfl, h1, h2, h3, h4⟩ := h
 cases ao with
 | none =>
  have : xs = [] := by
   rcases h4 with h4 | ⟨b, off, e, _⟩
   ·exact h4
   ·cases e
  subst this
  obtain rfl : cap = 0 := h3 rfl
  clear h' h1 h2 h3 h4
  have hnil : (binOp .eql 42 (.slice none 0 0) (.slice none 0 0)).run Tryz.prog w = .ok (.bool true) w := Lib.run_eql_slice_nil w 42 5 _ 0 0 0 0 Tryz.underlying42
  go_enter Tryz.func30, Tryz.ntmps30
  go_wp2
  go_ret
  exact ⟨_, rfl, World.ownsRow_nil _ _ _ _, Below.refl _ _⟩
 | some ad =>
  rcases h4 with h4 | ⟨b, off, e, _⟩
  ·subst h4
   obtain ⟨X, hX⟩ : ∃ u, u = w.alloc (.cells #[] 5) := ⟨_, rfl⟩
   have oX : OwnB w.heap.size X (.slice (some ⟨w.heap.size, 0, none⟩) 0 0) [] := by rw [hX]; exact own_lit w [] (by decide)
   have bX : Below w.heap.size w X := by rw [hX]; exact (Below.refl _ _).alloc (Nat.le_refl _) _
   have rX := h'.to bX
   have hl : ([] : List UInt8).length + ([] : List UInt8).length ≤ 140737488355328 := by simp
   have hsz := bX.size
   have hnil : (binOp .eql 42 (.slice (some ad) 0 cap) (.slice none 0 0)).run Tryz.prog w = .ok (.bool false) w := Lib.run_eql_slice_nil w 42 5 _ 0 cap 0 0 Tryz.underlying42
   clear h' h1 h2 h3
   go_enter Tryz.func30, Tryz.ntmps30
   go_wp2_with (at_builtin; rw [← hX]; refine wpList_append_octs rfl _ _ rfl w.heap.size _ _ _ _ rfl rfl oX rX hl hsz ?_; intro v6 w6 o6 b6 _)
   go_ret
   exact ⟨_, rfl, by simpa using o6, bX.trans b6⟩
  ·simp only [Option.some.injEq] at e
   subst e
   exact bclone_at w b off _ cap xs h' hm
theorem heap_set3t {u : World} {g : Nat} {a b c : Value} {t : TypeId} {fr : Nat × Nat} (h : u.heap[g]? = some (.cells #[a, b, c] t fr)) (x y z : Value) : (((u.setCell ⟨g, 0, none⟩ x).setCell ⟨g, 1, none⟩ y).setCell ⟨g, 2, none⟩ z).heap[g]? = some (.cells #[x, y, z] t fr) := by
 have := heap_setN (heap_setN (heap_setN h 0 x) 1 y) 2 z
 simpa using this
theorem below_set3t {B : Nat} {w u : World} (h : Below B w u) {g : Nat} (hg : B ≤ g) (x y z : Value) : Below B w (((u.setCell ⟨g, 0, none⟩ x).setCell ⟨g, 1, none⟩ y).setCell ⟨g, 2, none⟩ z) := ((h.setCell hg _).setCell hg _).setCell hg _
theorem s3_keep9 {g : Nat} {u : World} {a b c : Value} {T : TypeId} (h : u.heap[g]? = some (.cells #[a, b, c] T (0, 0))) (x y z : Value) {e : Nat} (he : e ≠ T) : KeepT e u (((u.setCell ⟨g, 0, none⟩ x).setCell ⟨g, 1, none⟩ y).setCell ⟨g, 2, none⟩ z) :=
 ((KeepT.set (a := ⟨g, 0, none⟩) h he x).trans (KeepT.set (a := ⟨g, 1, none⟩) (heap_setN h 0 x) he y)).trans (KeepT.set (a := ⟨g, 2, none⟩) (heap_setN (heap_setN h 0 x) 1 y) he z)
theorem wpList_make_run9 {P : Program} (w : World) {ops : Array Oper} {rest : List Oper} {o : Oper} {a : Act} {Q : Exit → Act → World → Prop} (hg : o.guard = none) (l c : Operand) (t : TypeId) (hop : o.op = Op.makeSlice t l c)
  (kl kc : IntKind) (C : Int) (n : Nat) (hl : a.eval l = .int kl 0) (hc : a.eval c = .int kc C) (hC : C = (n : Int)) (v : Value) (w' : World) (hr : (Instr.makeSlice t (.int kl 0) (.int kc (n : Int))).run P w = .ok v w') (h : wpList P ops Q rest (a.put o.dst v) w') : wpList P ops Q (o :: rest) a w := by
 refine wpList_plain hg fun K hK' => ?_
 subst hC
 unfold Oper.wp
 simp [execOp, hop, hl, hc, hr, Result.andThen]
 exact hK' _ _ h
theorem info_tr : (Tryz.prog.info? 28).map (·.size) = some 3 := by kernel_rfl
theorem take_snoc9 {l : List Wrt} {k : Nat} {y : Wrt} (h : l[k]? = some y) : l.take (k + 1) = l.take k ++ [y] := by rw [List.take_add_one, h]; rfl
theorem cellAl9 {w : World} {b i : Nat} {v : Value} (h : w.cell? ⟨b, i, none⟩ = some v) (o : Obj) : (w.alloc o).cell? ⟨b, i, none⟩ = some v :=
 (((Below.refl w.heap.size w).alloc (Nat.le_refl _) o).cell (p := ⟨b, i, none⟩) (cell_lt h)).trans h
set_option maxRecDepth 100000 in
set_option maxHeartbeats 4000000 in
theorem pcopied_any (w : World) (t : Tr) (pv : Value) (h : RdC w pv t.pages) (hl : t.pages.length ≤ 65536) (hx : ∀ x ∈ t.pages, x.2.length ≤ 140737488351232) :
  Calls Tryz.prog 46 #[tv t pv] w fun e w' => ∃ pv', e = .returned (tv t pv') ∧ OwnPg w.heap.size w' pv' t.pages ∧ Below w.heap.size w w' := by
 obtain ⟨j0, ji, jz0, jz1, jz2⟩ := info_parts infoPg
 obtain ⟨root, next, ps⟩ := t
 obtain ⟨a, c, rfl⟩ := h.slice
 dsimp only [tv] at *
 obtain ⟨W, hW, DW, bW, sW⟩ := boxedN w #[.int .i64 root, .int .i64 next, .slice a ps.length c] 28
 obtain ⟨X, hX, DX, bX, sX⟩ := boxedN W #[.int .i64 0, .int .i64 0, .slice none 0 0] 28
 obtain ⟨w1, hmk, own1, gr1⟩ := run_make_own (P := Tryz.prog) X X.heap.size 26 44 j0 _ 2 Tryz.underlying26 ji jz0 jz1 .i64 .i64 ps.length (by rw [jz2]; omega) (by unfold maxLen; omega) (Nat.le_refl _)
 have b1 : Below X.heap.size X w1 := (Below.refl _ _).grown gr1 (Nat.le_refl _) (fun k h => by cases h)
 have bWX := bW.trans (bX.mono bW.size)
 have D1 := (b1.block _ (by rw [sX, sW]; omega)).trans ((bX.block _ (lt_of_block DW)).trans DW)
 have X1 := (b1.block _ (lt_of_block DX)).trans DX
 have O1 : OwnPg X.heap.size w1 (.slice (some ⟨X.heap.size, 0, none⟩) 0 ps.length) [] := ⟨[], rfl, own1, fun i hi => by simp at hi⟩
 obtain ⟨⟨E0, E1, E2⟩, EF⟩ := cells3p ((bX.block _ (lt_of_block DW)).trans DW)
 obtain ⟨⟨F0, F1, F2⟩, FF⟩ := cells3p D1
 have HH := hide h
 have HX := hide bWX
 have hBX := hide ((bX.block _ (lt_of_block DW)).trans DW)
 have hRX := hide DX
 have hsl : (Value.slice (some ⟨X.heap.size, 0, none⟩) 0 ps.length) = .slice (some ⟨w.heap.size + 1 + 1, 0, none⟩) 0 ps.length := by rw [sX, sW]
 have HI : Hid (OwnPg X.heap.size w1 (.slice (some ⟨w.heap.size + 1 + 1, 0, none⟩) 0 ps.length) [] ∧ Below X.heap.size X w1) := by rw [← hsl]; exact ⟨O1, b1⟩
 have hsz : Hid (X.heap.size = w.heap.size + 1 + 1) := by show _ = _; rw [sX, sW]
 obtain ⟨L, hL⟩ : ∃ L, L = ps.length := ⟨_, rfl⟩
 rw [sW] at hRX
 rw [hX, hW] at hmk E0 E1 E2 EF
 clear h bW bX DW DX D1 X1 O1 own1 gr1 b1 bWX
 go_enter Tryz.func46, Tryz.ntmps46
 go_wp2_with (at_make; refine wpList_make_run9 _ rfl _ _ 26 rfl _ _ _ ps.length rfl rfl rfl _ _ hmk ?_)
 clear hmk E0 E1 E2 EF F0 F1 F2 FF
 replace hX := hide hX
 replace hW := hide hW
 go_loopw [3, 13] (fun o p wr => ∃ k : Nat, k ≤ ps.length ∧ p = .int .i64 k ∧ Hid (OwnPg X.heap.size wr o (ps.take k) ∧ Below X.heap.size X wr)) (fun _ p _ => ps.length - (intOf p).toNat)
 case atStart => exact ⟨0, Nat.zero_le _, rfl, HI⟩
 case round =>
  obtain ⟨k, hk, rfl, hI⟩ := hrel
  clear HI
  have BW := hide (HX.out.trans (hI.out.2.mono HX.out.size))
  by_cases hlt : k < ps.length
  ·have hq : (k : Int) < (ps.length : Int) := by omega
   obtain ⟨y, hy⟩ : ∃ y, ps[k]? = some y := ⟨_, List.getElem?_eq_getElem hlt⟩
   have hxl := hx y (List.mem_of_getElem? hy)
   have hsn := hide (take_snoc9 hy)
   obtain ⟨b, off, u, e1, hc1, hc2, hr⟩ := HH.out.wrt hy
   subst e1
   obtain ⟨z, x⟩ := y
   dsimp only at hc1 hc2 hr hxl
   obtain ⟨au, cu, rfl⟩ := hr.slice
   replace hc1 := (BW.out.cell (cell_lt hc1)).trans hc1
   replace hc2 := (BW.out.cell (cell_lt hc2)).trans hc2
   obtain ⟨V, hV, DV, bV, sV⟩ := boxedN wr #[.int .i64 z, .slice au x.length cu] 44
   have VD := DV
   obtain ⟨⟨V0, V1⟩, _⟩ := cells2r DV
   have bVd : Below V.heap.size V V.drew := below_drewN' V 1 _
   have bwV := bV.trans (bVd.mono bV.size)
   have V0d := (bVd.cell (cell_lt V0)).trans V0
   have V1d := (bVd.cell (cell_lt V1)).trans V1
   have KC := hide (bclone10 V.drew _ x (hr.to (BW.out.trans (bwV.mono BW.out.size))) hxl)
   have II := hide (And.intro (hI.out.1.to9 bwV) (hI.out.2.trans (bwV.mono hI.out.2.size)))
   obtain ⟨oa, oc, ho⟩ := hI.out.1.shape
   rw [List.length_take, Nat.min_eq_left hk] at ho
   subst ho
   have hn : (k + 1) * 32 ≤ 140737488355328 := by omega
   have hlk : Hid ((ps.take k).length = k) := by show _ = _; rw [List.length_take, Nat.min_eq_left hk]
   obtain ⟨XL, hXL⟩ : ∃ XL, XL = x.length := ⟨_, rfl⟩
   rw [← hXL] at KC hV V1 V1d hc2
   replace hXL := hide hXL
   rw [hV] at V0 V1
   clear hr bwV bVd bV DV VD hI hy
   go_upto_region 5 with fail
   rw [← hV]
   replace hV := hide hV
   clear V0 V1 hc1 hc2
   refine wp_region_mid (fun w' => w'.cell? ⟨wr.heap.size, 0, none⟩ = some (.int .i64 z) ∧ w'.cell? ⟨wr.heap.size, 1, none⟩ = some (.slice au XL cu)) 5 8 mixed (by kernel_rfl) (fun _ _ _ _ h => h) ⟨V0d, V1d⟩ ?_
   dsimp only [List.take, List.drop]
   iterate 5
    refine take_one (v := ?_) (by rfl) ?_ ?_
    rotate_left
    ·rintro w' ⟨s1, s2⟩
     go_simp
     try with_reducible rfl
    try simp only [Act.put, List.setIfInBounds_toArray, List.set_cons_zero, List.set_cons_succ]
   refine mid_one fun K hK => ?_
   refine step_call (by rfl) 30 _ _ (by rfl) #[.slice au XL cu] (by simp [Act.eval]) (Tryz.call30 _ _) KC.out ?_
   rintro e w2 ⟨v2, rfl, o2, b2⟩
   obtain ⟨va, vc, hv2⟩ := o2.rd.slice
   rw [← hXL.out] at hv2
   subst hv2
   have U0 := (b2.cell (cell_lt V0d)).trans V0d
   have U1 := (b2.cell (cell_lt V1d)).trans V1d
   refine ⟨_, rfl, hK _ _ ⟨U0, U1⟩ ?_⟩
   clear hK K
   have I2 := hide (And.intro (II.out.1.to9 b2) (II.out.2.trans (b2.mono II.out.2.size)))
   have O2 : Hid (OwnB X.heap.size w2 (.slice va XL vc) x) := rows_mono o2 II.out.2.size
   clear b2 o2 KC V0d V1d II
   try simp only [Act.put, List.setIfInBounds_toArray, List.set_cons_zero, List.set_cons_succ]
   refine mid_one fun K hK => ?_
   rw [if_pos (by rfl)]
   go_simp
   refine hK _ _ ⟨U0, U1⟩ ?_
   clear hK K
   refine mid_one fun K hK => ?_
   rw [if_pos (by rfl)]
   go_simp
   refine hK _ _ ⟨cellAl9 U0 _, cellAl9 U1 _⟩ ?_
   clear hK K
   show wpList _ _ _ _ _ _
   obtain ⟨Z, hZ, DZ, bZ, sZ⟩ := boxedN w2 #[.int .i64 z, .slice va XL vc] 44
   obtain ⟨⟨Z0, Z1⟩, _⟩ := cells2r DZ
   have OZ : OwnPg X.heap.size Z (.slice oa k oc) (ps.take k) := I2.out.1.to9 bZ
   have SZ : OwnB X.heap.size Z (.slice va XL vc) x := rows_to O2.out bZ
   have BZ := hide (I2.out.2.trans (bZ.mono I2.out.2.size))
   have hB : X.heap.size ≤ Z.heap.size := BZ.out.size
   rw [hZ] at Z0 Z1 OZ SZ hB
   refine wpList_appPg rfl _ _ rfl X.heap.size (.slice oa k oc) (ps.take k) (z, x) (.slice va XL vc) w2.heap.size rfl rfl OZ SZ rfl Z0 Z1 (by rw [hlk.out]; exact hn) hB ?_
   intro v5 w5 o5 g5 b5 _
   rw [← hZ] at b5
   rw [← hsn.out] at o5
   have I5 := hide (And.intro o5 (BZ.out.trans b5))
   clear o5 g5 b5 Z0 Z1 OZ SZ hB DZ bZ hZ I2 O2 U0 U1
   go_wp2
   go_roundw
   case rel => exact ⟨k + 1, by omega, by go_num, I5⟩
   case measure => simp [intOf]; omega
  ·have hq : ¬ (k : Int) < (ps.length : Int) := by omega
   have htk : ps.take k = ps := List.take_of_length_le (by omega)
   rw [htk] at hI
   have D6 := (hI.out.2.block _ (lt_of_block hBX.out)).trans hBX.out
   have R6 := (hI.out.2.block _ (lt_of_block hRX.out)).trans hRX.out
   obtain ⟨⟨E0, E1, E2⟩, EF⟩ := cells3p D6
   obtain ⟨⟨F0, F1, F2⟩, FF⟩ := cells3p R6
   obtain ⟨oa, oc, ho⟩ := hI.out.1.shape
   subst ho
   have d0 := heap_setN D6 2 (.slice oa ps.length oc)
   have D7 : (wr.setCell ⟨w.heap.size, 2, none⟩ (.slice oa ps.length oc)).heap[w.heap.size]? = some (.cells #[.int .i64 root, .int .i64 next, .slice oa ps.length oc] 28 (0, 0)) := by simpa using d0
   have R7 : (wr.setCell ⟨w.heap.size, 2, none⟩ (.slice oa ps.length oc)).heap[w.heap.size + 1]? = _ := (Below.heap_setCell _ _ _ _ (show w.heap.size + 1 ≠ w.heap.size by omega)).trans R6
   obtain ⟨⟨G0, G1, G2⟩, GF⟩ := cells3p D7
   obtain ⟨⟨J0, J1, J2⟩, JF⟩ := cells3p R7
   have HR7 := hide R7
   have k1 : ∀ e, e ≠ 28 → KeepT e wr (((((wr.setCell ⟨w.heap.size, 2, none⟩ (.slice oa ps.length oc)).setCell ⟨w.heap.size + 1, 0, none⟩ (.int .i64 root)).setCell ⟨w.heap.size + 1, 1, none⟩ (.int .i64 next)).setCell ⟨w.heap.size + 1, 2, none⟩ (.slice oa ps.length oc))) := fun e he =>
    (KeepT.set (a := ⟨w.heap.size, 2, none⟩) D6 he _).trans (s3_keep9 R7 _ _ _ he)
   have OO := hide (hI.out.1.keepT (k1 _ (by decide)) (k1 _ (by decide)))
   have bb0 : Below w.heap.size w (wr.setCell ⟨w.heap.size, 2, none⟩ (.slice oa ps.length oc)) := BW.out.setCell (Nat.le_refl _) _
   have BB := hide (below_set3t bb0 (show w.heap.size ≤ w.heap.size + 1 by omega) (.int .i64 root) (.int .i64 next) (.slice oa ps.length oc))
   have hXw : Hid (w.heap.size ≤ X.heap.size) := HX.out.size
   clear D6 R6 D7 R7 d0 k1 hI bb0
   go_wp2
   refine retN rfl rfl (w.heap.size + 1) rfl _ _ (0, 0) (heap_set3t HR7.out _ _ _) _ Tryz.underlying28 rfl info_tr ?_
   refine ⟨_, rfl, ?_, BB.out⟩
   exact OwnX.base OO.out hXw.out
set_option maxRecDepth 100000 in
theorem pnew10_any (w : World) : Calls Tryz.prog 19 #[] w fun e w' => e = .returned (tv ⟨0, 1, []⟩ (.slice none 0 0)) ∧ Below w.heap.size w w' := by
 go_enter Tryz.func19, Tryz.ntmps19
 go_wp2
 refine retN rfl rfl w.heap.size rfl _ _ _ (heap_alloc_last w _) _ Tryz.underlying28 rfl info_tr ?_
 exact ⟨rfl, (Below.refl _ _).alloc (Nat.le_refl _) _⟩
end Go.Proofs.YtpiikmkajckccaaGreat
