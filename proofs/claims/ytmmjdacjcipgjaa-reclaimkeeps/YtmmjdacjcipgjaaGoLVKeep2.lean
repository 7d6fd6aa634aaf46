/- Several texts in one: NPH NFindR NPI RowW RowX BEq RFan Fr ShpIn NIn TIn TSt. -/
import Derived.Test.YtmmjdacjcipgjaaGoLVKeep1
import Derived.Deep.QuietTactic
import Derived.BigQuiet
import Derived.Laws.Cover1
import Derived.Test.YtmmjdacjcipgjaaGoLVKeep0
import Derived.Laws.IdiomStrings
import Derived.Lib.SliceRun
import Derived.Test.YtmmjdacjcipgjaaRows
import Derived.ProofKit
import Derived.OpenShut
import Derived.ShutString
import Derived.ChangeOld
import Derived.Below
import Derived.SizedLaws
import Derived.JoinedCond
import Derived.Deep.Slices
import Derived.ChangeSame
import Derived.WideShapes
import Derived.ChangeArms
import Derived.ChangeMaps5
set_option linter.unusedVariables false
set_option linter.unusedSimpArgs false
namespace Go.Proofs.Ytmmjdacjcipgjaa
open Go.RowKit
theorem rfin_small (p : Nd × Rr) : (rfin p).1 = p.1 ∨ (rfin p).1 = none9 := by
 unfold rfin
 split
 ·exact .inr rfl
 ·split
  ·exact .inr rfl
  ·exact .inl rfl
theorem rpairs_len : ∀ (k : Nat) (r : Rr) (n : Nd), (rpairs k r n).1.keys.length = n.keys.length + k ∧ (rpairs k r n).1.vals.length = n.vals.length + k ∧ (rpairs k r n).1.kids.length = n.kids.length
 | 0, r, n => ⟨rfl, rfl, rfl⟩
 | k + 1, r, n => by
  have := rpairs_len k (rts (rts r)) ⟨n.leaf, n.keys ++ [rtx r], n.vals ++ [rtx (rts r)], n.kids⟩
  simp only [rpairs] at this ⊢
  simp at this
  omega
theorem rkids_len : ∀ (k : Nat) (r : Rr) (n : Nd), (rkids k r n).1.keys.length = n.keys.length + k ∧ (rkids k r n).1.vals.length = n.vals.length ∧ (rkids k r n).1.kids.length = n.kids.length + k + 1
 | 0, r, n => by simp [rkids]
 | k + 1, r, n => by
  have := rkids_len k (rts (rst 4 r)) ⟨n.leaf, n.keys ++ [rtx (rst 4 r)], n.vals, n.kids ++ [((rnum 4 r : Nat) : Int)]⟩
  simp only [rkids] at this ⊢
  simp at this
  omega
theorem nread_fit (xs : List UInt8) : nfit (nread xs).1 := by
 have hl : rnum 1 (rst 1 ⟨xs, false⟩) < 256 := rnum_lt 1 _
 have hn : nfit none9 := ⟨by simp [none9], by simp [none9], by simp [none9]⟩
 unfold nread
 dsimp only
 split
 ·exact hn
 ·split
  ·rcases rfin_small (rpairs (rnum 1 (rst 1 ⟨xs, false⟩)) (rst 1 (rst 1 ⟨xs, false⟩)) ⟨true, [], [], []⟩) with e | e
   ·rw [e]
    obtain ⟨p, q, r⟩ := rpairs_len (rnum 1 (rst 1 ⟨xs, false⟩)) (rst 1 (rst 1 ⟨xs, false⟩)) ⟨true, [], [], []⟩
    unfold nfit
    rw [p, q, r]
    simp
    omega
   ·rw [e]; exact hn
  ·split
   ·rcases rfin_small (rkids (rnum 1 (rst 1 ⟨xs, false⟩)) (rst 1 (rst 1 ⟨xs, false⟩)) ⟨false, [], [], []⟩) with e | e
    ·rw [e]
     obtain ⟨p, q, r⟩ := rkids_len (rnum 1 (rst 1 ⟨xs, false⟩)) (rst 1 (rst 1 ⟨xs, false⟩)) ⟨false, [], [], []⟩
     unfold nfit
     rw [p, q, r]
     simp
     omega
    ·rw [e]; exact hn
   ·exact hn
set_option maxRecDepth 100000 in
set_option maxHeartbeats 4000000 in
theorem pdecD_any (w : World) (v : Value) (xs : List UInt8) (h : Rd w v xs) :
  Calls Try.prog 66 #[v] w fun e w' => ∃ kv vv dv, e = .returned (.tuple #[nv (ndec xs).1 kv vv dv, .int .i64 (ndec xs).2]) ∧ OwnN w.heap.size w' kv vv dv (ndec xs).1 ∧ Below w.heap.size w w' ∧ Dj kv vv dv := by
 obtain ⟨X, hX, D, bX, sX⟩ := boxedN w #[.bool false, nil9, nil9, nil9] 79
 obtain ⟨a, c, rfl⟩ := h.slice
 have KR := hide (preadD_any X _ xs (h.to bX))
 have hfit := hide (nread_fit xs)
 have RX := hide (And.intro D sX)
 have BX := hide bX
 obtain ⟨nr, hnr⟩ : ∃ p, p = nread xs := ⟨_, rfl⟩
 have hd : Hid (ndec xs = if nr.2 = 0 then if ncheck nr.1 = 0 then nr else (none9, ncheck nr.1) else (none9, nr.2)) := by show _ = _; unfold ndec; rw [hnr]
 rw [← hnr] at KR hfit
 generalize ndec xs = dd at *
 clear h D bX sX hnr
 go_enter Try.func66, Try.ntmps66
 go_wp2_with fail
 rw [← hX]
 replace hX := hide hX
 refine KR.out.mono ?_
 rintro e w1 ⟨kv, vv, dv, rfl, o1, b1, dj1⟩
 have HJ := hide dj1
 clear KR dj1
 obtain ⟨n, err⟩ := nr
 dsimp only at *
 obtain ⟨ak, ck, av, cv, ad, cd, rfl, rfl, rfl⟩ := o1.rd.slices
 -- the node's box
 obtain ⟨V, hV⟩ : ∃ V, V = w1.alloc (.cells #[.bool n.leaf, .slice ak n.keys.length ck, .slice av n.vals.length cv, .slice ad n.kids.length cd] 79) := ⟨_, rfl⟩
 have bV : Below w1.heap.size w1 V := by rw [hV]; exact (Below.refl _ _).alloc (Nat.le_refl _) _
 have gV : V.heap[w1.heap.size]? = some (.cells #[.bool n.leaf, .slice ak n.keys.length ck, .slice av n.vals.length cv, .slice ad n.kids.length cd] 79 (0, 0)) := by rw [hV]; exact heap_alloc_last w1 _
 have o2 := o1.to bV
 have KC := hide (pcheck9_any V _ _ _ n o2.rd hfit.out)
 have b2 : Below X.heap.size X V := b1.trans (bV.mono b1.size)
 have RES : Hid (∀ U, Below V.heap.size V U → U.heap[w.heap.size]? = some (.cells #[.bool false, nil9, nil9, nil9] 79 (0, 0))) := fun U b => ((b2.trans (b.mono b2.size)).block _ (by have := RX.out.2; omega)).trans RX.out.1
 have BB : Hid (∀ U, Below V.heap.size V U → Below w.heap.size w U) := fun U b => BX.out.trans ((b2.trans (b.mono b2.size)).mono BX.out.size)
 have BOX : Hid (∀ U, Below V.heap.size V U → U.heap[w1.heap.size]? = some (.cells #[.bool n.leaf, .slice ak n.keys.length ck, .slice av n.vals.length cv, .slice ad n.kids.length cd] 79 (0, 0))) := fun U b => (b.block _ (lt_of_block gV)).trans gV
 have OO : Hid (∀ U, Below V.heap.size V U → OwnN (w.heap.size + 1) U (.slice ak n.keys.length ck) (.slice av n.vals.length cv) (.slice ad n.kids.length cd) n) := fun U b => (o2.to b).mono (by have := RX.out.2; omega)
 have D1 := (cells4 (RES.out V (Below.refl _ _)))
 obtain ⟨⟨R0, R1, R2, R3⟩, Rf⟩ := D1
 have Rf0 := Rf 0
 have Rf1 := Rf 1
 have Rf2 := Rf 2
 have Rf3 := Rf 3
 obtain ⟨⟨N0, N1, N2, N3⟩, _⟩ := cells4 gV
 clear o1 o2 b1 b2 bV gV Rf RX BX
 by_cases he : err = 0
 ·subst he
  rw [if_pos rfl] at hd
  rw [hV] at N0 N1 N2 N3
  go_wp2_with fail
  rw [← hV]
  clear N0 N1 N2 N3 R0 R1 R2 R3 Rf0 Rf1 Rf2 Rf3
  replace hV := hide hV
  refine KC.out.mono ?_
  rintro e w2 ⟨rfl, b2⟩
  clear KC
  obtain ⟨⟨R0, R1, R2, R3⟩, Rf⟩ := cells4 (RES.out w2 b2)
  have Rf0 := Rf 0
  have Rf1 := Rf 1
  have Rf2 := Rf 2
  have Rf3 := Rf 3
  obtain ⟨⟨N0, N1, N2, N3⟩, _⟩ := cells4 (BOX.out w2 b2)
  have B2 := hide b2
  clear Rf b2
  by_cases hz : ncheck n = 0
  ·rw [if_pos hz] at hd
   rw [hz]
   replace hz := hide hz
   go_wp2
   refine retNT rfl rfl w.heap.size rfl _ _ (0, 0) (heap_set4 (u := w2) (RES.out w2 B2.out) _ _ _ _) _ Try.underlying79 rfl info_ndP (.int .i64 0) rfl ?_
   have hlt : w.heap.size < w.heap.size + 1 := by omega
   exact ⟨_, _, _, by rw [hd.out], by rw [hd.out]; exact (((((OO.out w2 B2.out).set hlt 0 _).set hlt 1 _).set hlt 2 _).set hlt 3 _).mono (by omega), below_set4n (BB.out w2 B2.out) (Nat.le_refl _) _ _ _ _, HJ.out⟩
  ·rw [if_neg hz] at hd
   generalize ncheck n = Z at *
   go_wp2
   refine retNT rfl rfl w.heap.size rfl _ _ (0, 0) (heap_set4 (u := w2) (RES.out w2 B2.out) _ _ _ _) _ Try.underlying79 rfl info_ndP (.int .i64 Z) rfl ?_
   exact ⟨nil9, nil9, nil9, by rw [hd.out]; rfl, by rw [hd.out]; exact OwnN.nil _ _ _, below_set4n (BB.out w2 B2.out) (Nat.le_refl _) _ _ _ _, Dj.nil⟩
 ·rw [if_neg he] at hd
  rw [hV] at R0 R1 R2 R3 Rf0 Rf1 Rf2 Rf3
  go_wp2
  rw [← hV]
  refine retNT rfl rfl w.heap.size rfl _ _ (0, 0) (heap_set4 (u := V) (RES.out V (Below.refl _ _)) _ _ _ _) _ Try.underlying79 rfl info_ndP (.int .i64 err) rfl ?_
  exact ⟨nil9, nil9, nil9, by rw [hd.out]; rfl, by rw [hd.out]; exact OwnN.nil _ _ _, below_set4n (BB.out V (Below.refl _ _)) (Nat.le_refl _) _ _ _ _, Dj.nil⟩
theorem pdec_any (w : World) (v : Value) (xs : List UInt8) (h : Rd w v xs) :
  Calls Try.prog 66 #[v] w fun e w' => ∃ kv vv dv, e = .returned (.tuple #[nv (ndec xs).1 kv vv dv, .int .i64 (ndec xs).2]) ∧ OwnN w.heap.size w' kv vv dv (ndec xs).1 ∧ Below w.heap.size w w' :=
 (pdecD_any w v xs h).mono fun e w' ⟨kv, vv, dv, a, b, c, _⟩ => ⟨kv, vv, dv, a, b, c⟩
end Go.Proofs.Ytmmjdacjcipgjaa

namespace Go.Proofs.Ytmmjdacjcipgjaa
open Go.RowKit
def nfind (n : Nd) (key : Str) : Int := if ncheck n = 0 then nfnd n.leaf key n.keys else 0
def nhas (n : Nd) (key : Str) : Bool := if ncheck n = 0 then nis key n.keys else false
theorem ret_ibi {a b : Int} {x y : Bool} {c d : Int} (h1 : a = b) (h2 : x = y) (h3 : c = d) : Ending.returned (.tuple #[.int .i64 a, .bool x, .int .i64 c]) = Ending.returned (.tuple #[.int .i64 b, .bool y, .int .i64 d]) := by rw [h1, h2, h3]
end Go.Proofs.Ytmmjdacjcipgjaa

namespace Go.Proofs.Ytmmjdacjcipgjaa
open Go.RowKit
theorem ret_si9 {a b c d : Value} (h1 : a = c) (h2 : b = d) : Ending.returned (.tuple #[a, b]) = .returned (.tuple #[c, d]) := by rw [h1, h2]
theorem keys_lt {n : Nd} (h : nkeys n n.keys.length) : ∀ (j i : Nat), i < j → j < n.keys.length → slt (nkey n i) (nkey n j) = true
 | 0, i, hi, _ => by omega
 | j + 1, i, hi, hj => by
  have hs := (h (j + 1) hj).2.2 (by omega)
  rw [Nat.add_sub_cancel] at hs
  by_cases e : i = j
  ·subst e; exact hs
  ·exact slt_trans (keys_lt h j i (by omega) (by omega)) hs
theorem nkey_at {n : Nd} {k : Nat} {x : Str} (h : n.keys[k]? = some x) : nkey n k = x := by unfold nkey; rw [h]; rfl
theorem nfnd_cut (leaf : Bool) (key : Str) : ∀ (l : List Str) (i : Nat), i ≤ l.length → (∀ j x, j < i → l[j]? = some x → slt x key = true) → (∀ j x, i ≤ j → l[j]? = some x → slt x key = false ∧ (x == key) = false) → nfnd leaf key l = i ∧ nis key l = false
 | [], i, hi, _, _ => by
  have : i = 0 := by simpa using hi
  subst this; exact ⟨rfl, rfl⟩
 | x :: r, 0, _, h1, h2 => by
  have hx := h2 0 x (Nat.le_refl _) rfl
  obtain ⟨a, b⟩ := nfnd_cut leaf key r 0 (Nat.zero_le _) (fun j y hj => by omega) (fun j y _ hy => h2 (j + 1) y (by omega) (by simpa using hy))
  refine ⟨?_, ?_⟩
  ·simp only [nfnd, hx.1, hx.2, a]; simp
  ·unfold nis at b ⊢; rw [List.any_cons, hx.2, b]; rfl
 | x :: r, i + 1, hi, h1, h2 => by
  have hx := h1 0 x (by omega) rfl
  obtain ⟨a, b⟩ := nfnd_cut leaf key r i (by simpa using hi) (fun j y hj hy => h1 (j + 1) y (by omega) (by simpa using hy)) (fun j y hj hy => h2 (j + 1) y (by omega) (by simpa using hy))
  have hne : (x == key) = false := by
   apply Bool.eq_false_iff.2
   intro e
   have : x = key := by simpa using e
   subst this; rw [slt_irr] at hx; cases hx
  refine ⟨?_, ?_⟩
  ·simp only [nfnd, hx, a]; simp; omega
  ·unfold nis at b ⊢; rw [List.any_cons, hne, b]; rfl
theorem nfnd_hit (leaf : Bool) (key : Str) : ∀ (l : List Str) (i : Nat), l[i]? = some key → (∀ j x, j < i → l[j]? = some x → slt x key = true) → (∀ j x, i < j → l[j]? = some x → slt key x = true) → nfnd leaf key l = (i : Int) + (if leaf then 0 else 1) ∧ nis key l = true
 | [], i, h, _, _ => by simp at h
 | x :: r, 0, h, h1, h2 => by
  have hx : x = key := by simpa using h
  subst hx
  obtain ⟨a, _⟩ := nfnd_cut leaf x r 0 (Nat.zero_le _) (fun j y hj => by omega) (fun j y _ hy => by
   have := h2 (j + 1) y (by omega) (by simpa using hy)
   refine ⟨slt_asym this, ?_⟩
   apply Bool.eq_false_iff.2
   intro e
   have e' : y = x := by simpa using e
   subst e'; rw [slt_irr] at this; cases this)
  refine ⟨?_, ?_⟩
  ·simp only [nfnd, slt_irr, a]; cases leaf <;> simp
  ·unfold nis; simp
 | x :: r, i + 1, h, h1, h2 => by
  have hx := h1 0 x (by omega) rfl
  obtain ⟨a, b⟩ := nfnd_hit leaf key r i (by simpa using h) (fun j y hj hy => h1 (j + 1) y (by omega) (by simpa using hy)) (fun j y hj hy => h2 (j + 1) y (by omega) (by simpa using hy))
  refine ⟨?_, ?_⟩
  ·simp only [nfnd, hx, a]; simp; omega
  ·unfold nis at b ⊢; simp at b ⊢; exact .inr b
set_option maxRecDepth 100000 in
theorem pnan_any (w : World) (x : Str) : Calls Try.prog 110 #[st x] w fun e w' => e = .returned (.bool false) ∧ w = w' := by
 have h : (x != x) = false := by simp
 have h' : (x == x) = true := by simp
 go_enter Try.func110, Try.ntmps110
 go_wp2
 go_ret
 exact ⟨by first | rfl | simp, rfl⟩
set_option maxRecDepth 100000 in
theorem psnan_any (w : World) (x : Str) : Calls Try.prog 94 #[st x] w fun e w' => e = .returned (.bool false) ∧ w = w' := by
 have h : (x != x) = false := by simp
 have h' : (x == x) = true := by simp
 go_enter Try.func94, Try.ntmps94
 go_wp2
 go_ret
 exact ⟨by first | rfl | simp, rfl⟩
set_option maxRecDepth 100000 in
theorem pless_any (w : World) (x y : Str) : Calls Try.prog 93 #[st x, st y] w fun e w' => e = .returned (.bool (slt x y)) ∧ w = w' := by
 have K := hide (pnan_any w x)
 go_enter Try.func93, Try.ntmps93
 go_wp2_with fail
 refine K.out.mono ?_
 rintro e w1 ⟨rfl, rfl⟩
 go_wp2
 go_ret
 exact ⟨rfl, rfl⟩
structure Low (n : Nd) (key : Str) (i : Nat) : Prop where
 le : i ≤ n.keys.length
 lo : ∀ t, t < i → slt (nkey n t) key = true
 hi : ∀ t, i ≤ t → t < n.keys.length → slt (nkey n t) key = false
set_option maxRecDepth 100000 in
set_option maxHeartbeats 2000000 in
theorem pbs_any (w : World) (v : Value) (N : Nd) (key : Str) (h : RdT w v N.keys) (hk : nkeys N N.keys.length) (hl : N.keys.length ≤ 1000) :
  Calls Try.prog 71 #[v, st key] w fun e w' => ∃ i : Nat, e = .returned (.tuple #[.int .i64 i, .bool (decide (i < N.keys.length) && (nkey N i == key))]) ∧ Low N key i ∧ w = w' := by
 obtain ⟨a, c, rfl⟩ := h.slice
 obtain ⟨keys, hkeys⟩ : ∃ l, l = N.keys := ⟨_, rfl⟩
 obtain ⟨L, hL⟩ : ∃ L, L = N.keys.length := ⟨_, rfl⟩
 have HK : Hid (∀ t s, t < s → s < L → slt (nkey N t) (nkey N s) = true) := fun t s h1 h2 => keys_lt hk s t h1 (by omega)
 have HH := hide h
 rw [← hL] at hl ⊢
 replace hL := hide hL
 have KL := hide (fun x => pless_any w x key)
 clear h hk hkeys
 go_enter Try.func71, Try.ntmps71
 go_wp2
 go_loopw [7, 8] (fun p q wr => ∃ i j : Nat, i ≤ j ∧ j ≤ L ∧ p = .int .i64 i ∧ q = .int .i64 j ∧ w = wr ∧ Hid ((∀ t, t < i → slt (nkey N t) key = true) ∧ ∀ t, j ≤ t → t < L → slt (nkey N t) key = false)) (fun p q _ => (intOf q).toNat - (intOf p).toNat)
 case atStart => exact ⟨0, L, Nat.zero_le _, Nat.le_refl _, rfl, rfl, rfl, hide ⟨fun t h => by omega, fun t h1 h2 => by omega⟩⟩
 case round =>
  obtain ⟨i, j, hij, hjL, rfl, rfl, rfl, hI⟩ := hrel
  by_cases hlt : i < j
  ·have hq : (i : Int) < (j : Int) := by omega
   obtain ⟨s, hs⟩ : ∃ s : Nat, (i : Int) + (j : Int) = (s : Int) := ⟨i + j, by omega⟩
   have hs1 : IntKind.i64.wrap (s : Int) = (s : Int) := IntWalk.i64_in _ (by omega)
   obtain ⟨m, hm⟩ : ∃ m : Nat, (s : Int) / 2 = (m : Int) := ⟨s / 2, by omega⟩
   have hm2 : (m : Int) < (L : Int) := by omega
   have hmi : Hid (i ≤ m ∧ m < j) := by show _ ∧ _; omega
   obtain ⟨x, hx⟩ := some_el N.keys (k := m) (by rw [← hL.out]; omega)
   have hnx := hide (nkey_at hx)
   obtain ⟨b, off, rfl, hc1⟩ := HH.out.strAt hx
   replace hx := hide hx
   go_wp2_with fail
   refine (KL.out x).mono ?_
   rintro e w1 ⟨rfl, rfl⟩
   cases hlx : slt x key with
   | true =>
    have hI' : Hid ((∀ t, t < m + 1 → slt (nkey N t) key = true) ∧ ∀ t, j ≤ t → t < L → slt (nkey N t) key = false) := ⟨fun t ht => by
     by_cases e : t = m
     ·subst e; rw [hnx.out]; exact hlx
     ·have h1 := HK.out t m (by omega) (by omega)
      rw [hnx.out] at h1
      exact slt_trans h1 hlx, hI.out.2⟩
    replace hlx := hide hlx
    go_wp2
    go_roundw
    case rel => exact ⟨m + 1, j, by have := hmi.out; omega, hjL, by go_num, rfl, trivial, hI'⟩
    case measure => have := hmi.out; simp [intOf]; omega
   | false =>
    have hI' : Hid ((∀ t, t < i → slt (nkey N t) key = true) ∧ ∀ t, m ≤ t → t < L → slt (nkey N t) key = false) := ⟨hI.out.1, fun t h1 h2 => by
     by_cases e : t = m
     ·subst e; rw [hnx.out]; exact hlx
     ·have h3 := HK.out m t (by omega) h2
      rw [hnx.out] at h3
      cases h4 : slt (nkey N t) key
      ·rfl
      ·rw [slt_trans h3 h4] at hlx; cases hlx⟩
    replace hlx := hide hlx
    go_wp2
    go_roundw
    case rel => exact ⟨i, m, hmi.out.1, by have := hmi.out; omega, rfl, rfl, trivial, hI'⟩
    case measure => have := hmi.out; simp [intOf]; omega
  ·have hq : ¬ (i : Int) < (j : Int) := by omega
   obtain rfl : i = j := by omega
   have LO : Hid (Low N key i) := ⟨by rw [← hL.out]; omega, hI.out.1, fun t h1 h2 => hI.out.2 t h1 (by rw [hL.out]; exact h2)⟩
   clear hI
   by_cases hiL : i < L
   ·have hq2 : (i : Int) < (L : Int) := by omega
    have hd : decide (i < L) = true := decide_eq_true hiL
    obtain ⟨x, hx⟩ := some_el N.keys (k := i) (by rw [← hL.out]; omega)
    have hnx := hide (nkey_at hx)
    obtain ⟨b, off, rfl, hc1⟩ := HH.out.strAt hx
    replace hx := hide hx
    cases he : (x == key) with
    | true =>
     have hr : Hid ((decide (i < L) && nkey N i == key) = true) := by show _ = _; rw [hd, hnx.out, he]; rfl
     clear hd
     go_wp2
     go_ret2
     exact ⟨i, ret_si9 rfl (congrArg Value.bool hr.out.symm), LO.out, rfl⟩
    | false =>
     have hr : Hid ((decide (i < L) && nkey N i == key) = false) := by show _ = _; rw [hd, hnx.out, he]; rfl
     have KS := hide (psnan_any w x)
     clear hd
     go_wp2_with fail
     refine KS.out.mono ?_
     rintro e w1 ⟨rfl, rfl⟩
     go_wp2
     go_ret2
     exact ⟨i, ret_si9 rfl (congrArg Value.bool hr.out.symm), LO.out, rfl⟩
   ·have hq2 : ¬ (i : Int) < (L : Int) := by omega
    have hr : Hid ((decide (i < L) && nkey N i == key) = false) := by show _ = _; rw [decide_eq_false hiL]; rfl
    go_wp2
    go_ret2
    exact ⟨i, ret_si9 rfl (congrArg Value.bool hr.out.symm), LO.out, rfl⟩
theorem low_find {n : Nd} {key : Str} {i : Nat} (h : Low n key i) (hk : nkeys n n.keys.length) : nis key n.keys = (decide (i < n.keys.length) && (nkey n i == key)) ∧ nfnd n.leaf key n.keys = if (decide (i < n.keys.length) && (nkey n i == key)) = true ∧ n.leaf = false then (i : Int) + 1 else (i : Int) := by
 cases hb : (decide (i < n.keys.length) && (nkey n i == key)) with
 | true =>
  rw [Bool.and_eq_true, decide_eq_true_eq] at hb
  have hkey : nkey n i = key := by simpa using hb.2
  obtain ⟨x, hx⟩ := some_el n.keys hb.1
  have hx' := nkey_at hx
  rw [hkey] at hx'
  subst hx'
  obtain ⟨p, q⟩ := nfnd_hit n.leaf key n.keys i hx (fun j y hj hy => by have := h.lo j hj; rw [nkey_at hy] at this; exact this) (fun j y hj hy => by
   have := keys_lt hk j i hj ((List.getElem?_eq_some_iff.1 hy).1)
   rw [hkey, nkey_at hy] at this
   exact this)
  rw [p, q]
  refine ⟨rfl, ?_⟩
  cases n.leaf <;> simp
 | false =>
  obtain ⟨p, q⟩ := nfnd_cut n.leaf key n.keys i h.le (fun j y hj hy => by have := h.lo j hj; rw [nkey_at hy] at this; exact this) (fun j y hj hy => by
   have hjl := (List.getElem?_eq_some_iff.1 hy).1
   have h1 := h.hi j hj hjl
   rw [nkey_at hy] at h1
   refine ⟨h1, ?_⟩
   apply Bool.eq_false_iff.2
   intro e
   have e' : y = key := by simpa using e
   by_cases hji : j = i
   ·subst hji
    rw [nkey_at hy, e', decide_eq_true hjl] at hb
    simp at hb
   ·have h2 := keys_lt hk j i (by omega) hjl
    rw [nkey_at hy, e'] at h2
    have h3 := h.hi i (Nat.le_refl _) (by omega)
    rw [h2] at h3; cases h3)
  rw [p, q]
  simp
set_option maxRecDepth 100000 in
set_option maxHeartbeats 2000000 in
theorem pfind9_any (w : World) (kv vv dv : Value) (n : Nd) (key : Str) (h : RdN w kv vv dv n) (hf : nfit n) :
  Calls Try.prog 53 #[nv n kv vv dv, st key] w fun e w' => e = .returned (.tuple #[.int .i64 (nfind n key), .bool (nhas n key), .int .i64 (ncheck n)]) ∧ Below w.heap.size w w' := by
 obtain ⟨W, hW, D, bW, sW⟩ := boxedN w #[.bool n.leaf, kv, vv, dv] 79
 replace h := h.to bW
 have KC := hide (pcheck9_any W kv vv dv n h hf)
 have HN := hide (fun w1 (b : Below W.heap.size W w1) => h.to b)
 obtain ⟨D4, _⟩ := cells4 D
 have HD : Hid (∀ w1, Below W.heap.size W w1 → w1.cell? ⟨w.heap.size, 0, none⟩ = some (.bool n.leaf) ∧ w1.cell? ⟨w.heap.size, 1, none⟩ = some kv ∧ w1.cell? ⟨w.heap.size, 2, none⟩ = some vv ∧ w1.cell? ⟨w.heap.size, 3, none⟩ = some dv) := fun w1 b =>
  ⟨(b.cell (p := ⟨w.heap.size, 0, none⟩) (cell_lt D4.1)).trans D4.1, (b.cell (p := ⟨w.heap.size, 1, none⟩) (cell_lt D4.2.1)).trans D4.2.1, (b.cell (p := ⟨w.heap.size, 2, none⟩) (cell_lt D4.2.2.1)).trans D4.2.2.1, (b.cell (p := ⟨w.heap.size, 3, none⟩) (cell_lt D4.2.2.2)).trans D4.2.2.2⟩
 have HE : Hid (∀ w1, Below W.heap.size W w1 → Below w.heap.size w w1) := fun w1 b => bW.trans (b.mono bW.size)
 obtain ⟨D0, D1, D2, D3⟩ := D4
 obtain ⟨a, c, a', c', a'', c'', rfl, rfl, rfl⟩ := h.slices
 dsimp only [nv] at *
 clear h bW D hf
 rw [hW] at D0 D1 D2 D3
 generalize hlK : n.keys.length = lK at *
 generalize hlV : n.vals.length = lV at *
 generalize hlD : n.kids.length = lD at *
 generalize hleaf : n.leaf = leaf at *
 replace hlK := hide hlK
 replace hlV := hide hlV
 replace hlD := hide hlD
 replace hleaf := hide hleaf
 go_enter Try.func53, Try.ntmps53
 go_wp2_with fail
 rw [← hW]
 replace hW := hide hW
 clear D0 D1 D2 D3
 refine KC.out.mono ?_
 rintro e w1 ⟨rfl, b1⟩
 clear KC
 by_cases hz : ncheck n = 0
 ·have hok := (ncheck_ok n).1 hz
  have hfind : Hid (nfind n key = nfnd n.leaf key n.keys ∧ nhas n key = nis key n.keys) := by
   show _ ∧ _
   unfold nfind nhas
   rw [if_pos hz, if_pos hz]
   exact ⟨rfl, rfl⟩
  have few : n.keys.length ≤ 1000 := by
   have h1 := nsz_ge n n.keys.length
   have h2 := hok.2.2.2.2
   unfold nsize at h2
   split at h2 <;> omega
  have KB := hide (pbs_any w1 (.slice a lK c) n key (HN.out w1 b1).keys hok.1 few)
  have LF := hide (fun (i : Nat) (hl : Low n key i) => low_find hl hok.1)
  obtain ⟨D0, D1, D2, D3⟩ := HD.out w1 b1
  have hzz := hide hz
  rw [hz]
  have B1 := hide (HE.out w1 b1)
  rw [hlK.out] at few
  clear hz hok b1
  go_wp2_with fail
  refine KB.out.mono ?_
  rintro e w2 ⟨i, rfl, lo, rfl⟩
  clear KB
  obtain ⟨f1, f2⟩ := LF.out i lo
  have hib : i < 9223372036854775807 := by have := lo.le; rw [hlK.out] at this; omega
  rw [hlK.out] at f1 f2 ⊢
  rw [hleaf.out] at f2
  generalize hbb : (decide (i < lK) && nkey n i == key) = BB at *
  replace hbb := hide hbb
  have F1 : Hid (nhas n key = BB) := by show _ = _; rw [hfind.out.2]; exact f1
  have F2 : Hid (nfind n key = if BB = true ∧ leaf = false then (i : Int) + 1 else (i : Int)) := by show _ = _; rw [hfind.out.1, hleaf.out]; exact f2
  clear f1 f2 lo hfind LF
  cases BB <;> cases leaf
  all_goals
   have g := F2.out
   simp at g
   replace g := hide g
   go_wp2
   go_ret3
   exact ⟨ret_ibi g.out.symm F1.out.symm hzz.out.symm, B1.out⟩
 ·have hr : Hid (nfind n key = 0 ∧ nhas n key = false) := by
   show _ ∧ _
   unfold nfind nhas
   rw [if_neg hz, if_neg hz]
   exact ⟨rfl, rfl⟩
  obtain ⟨Z, hZ⟩ : ∃ Z, Z = ncheck n := ⟨_, rfl⟩
  rw [← hZ] at hz ⊢
  replace hZ := hide hZ
  have bb := hide (HE.out _ b1)
  clear b1
  go_wp2
  go_ret3
  exact ⟨ret_ibi hr.out.1.symm hr.out.2.symm hZ.out, bb.out⟩
end Go.Proofs.Ytmmjdacjcipgjaa

namespace Go.Proofs.Ytmmjdacjcipgjaa
open Go.RowKit
def wcells : List Wrt → List Value → List Value
 | f :: fs, sv :: svs => .int .i64 f.1 :: sv :: wcells fs svs
 | _, _ => []
theorem wcells_snoc : ∀ (fs : List Wrt) (svs : List Value) (f : Wrt) (sv : Value), svs.length = fs.length → wcells (fs ++ [f]) (svs ++ [sv]) = wcells fs svs ++ [.int .i64 f.1, sv]
 | [], svs, f, sv, h => by
  have : svs = [] := List.eq_nil_of_length_eq_zero (by simpa using h)
  subst this; rfl
 | g :: fs, [], f, sv, h => by simp at h
 | g :: fs, s :: svs, f, sv, h => by
  have := wcells_snoc fs svs f sv (by simpa using h)
  simp only [List.cons_append, wcells, this]
theorem wcells_at : ∀ (fs : List Wrt) (svs : List Value) (i : Nat), svs.length = fs.length → i < fs.length →
  (wcells fs svs)[i * 2]? = some (.int .i64 (fs.getD i (0, [])).1) ∧ (wcells fs svs)[i * 2 + 1]? = some (svs.getD i undef)
 | [], _, i, _, hi => by simp at hi
 | f :: fs, [], i, h, hi => by simp at h
 | f :: fs, sv :: svs, 0, h, hi => by simp [wcells]
 | f :: fs, sv :: svs, i + 1, h, hi => by
  have := wcells_at fs svs i (by simpa using h) (by simpa using hi)
  rw [show (i + 1) * 2 = i * 2 + 1 + 1 from by omega, show i * 2 + 1 + 1 + 1 = (i * 2 + 1) + 1 + 1 from rfl]
  simpa [wcells] using this
def OwnW (T B : Nat) (w : World) (v : Value) (ws : List Wrt) : Prop :=
 ∃ svs : List Value, svs.length = ws.length ∧ w.ownsRow B T 2 v ws.length (wcells ws svs) ∧ ∀ i, i < ws.length → OwnB 0 w (svs.getD i undef) (ws.getD i (0, [])).2
theorem OwnW.nil (T B : Nat) (w : World) : OwnW T B w (.slice none 0 0) [] := ⟨[], rfl, World.ownsRow_nil _ _ _ _, fun i hi => by simp at hi⟩
theorem OwnW.keepT {T B : Nat} {w w' : World} {v : Value} {ws : List Wrt} (h : OwnW T B w v ws) (k1 : KeepT 5 w w') (k2 : KeepT T w w') : OwnW T B w' v ws := by
 obtain ⟨vs, h1, h2, h3⟩ := h
 exact ⟨vs, h1, rows_keepT h2 k2, fun i hi => rows_keepT (h3 i hi) k1⟩
theorem OwnW.snoc {T B : Nat} {w w' : World} {v v' : Value} {ws : List Wrt} {f : Wrt} {sv : Value} (hT : T ≠ 5) {svs : List Value} (h1 : svs.length = ws.length) (h2 : w.ownsRow B T 2 v ws.length (wcells ws svs))
  (h3 : ∀ i, i < ws.length → OwnB 0 w (svs.getD i undef) (ws.getD i (0, [])).2) (hs : OwnB 0 w sv f.2)
  (hg : w.grownBy w' v.ownBlock) (hw : w'.ownsRow B T 2 v' (ws.length + 1) (wcells ws svs ++ [.int .i64 f.1, sv])) : OwnW T B w' v' (ws ++ [f]) := by
 refine ⟨svs ++ [sv], by simp [h1], ?_, ?_⟩
 ·rw [wcells_snoc ws svs f sv h1, List.length_append]
  exact hw
 ·intro i hi
  simp only [List.length_append, List.length_cons, List.length_nil] at hi
  by_cases hlt : i < ws.length
  ·have e1 : (svs ++ [sv]).getD i undef = svs.getD i undef := by simp [List.getD_eq_getElem?_getD, List.getElem?_append_left (show i < svs.length by omega)]
   have e2 : (ws ++ [f]).getD i (0, []) = ws.getD i (0, []) := by simp [List.getD_eq_getElem?_getD, List.getElem?_append_left hlt]
   rw [e1, e2]
   exact rows_keepT (h3 i hlt) (KeepT.grown h2 hg (Ne.symm hT))
  ·obtain rfl : i = ws.length := by omega
   have e1 : (svs ++ [sv]).getD ws.length undef = sv := by rw [← h1]; simp [List.getD_eq_getElem?_getD]
   have e2 : (ws ++ [f]).getD ws.length (0, []) = f := by simp [List.getD_eq_getElem?_getD]
   rw [e1, e2]
   exact rows_keepT hs (KeepT.grown h2 hg (Ne.symm hT))
theorem OwnW.rd {T B : Nat} {w : World} {v : Value} {ws : List Wrt} (h : OwnW T B w v ws) : RdC w v ws := by
 obtain ⟨svs, h1, h2, h3⟩ := h
 rcases h2.2 with ⟨rfl, h0⟩ | ⟨g, cap, cur, rfl, hgb, hg, hn, hm, hs, ht⟩
 ·have : ws = [] := List.eq_nil_of_length_eq_zero h0
  subst this
  exact RdS.nil _ _
 ·refine ⟨_, cap, rfl, hn, hm, (fun h => by cases h), .inr ⟨g, 0, rfl, fun i x hx => ?_⟩⟩
  have hi : i < ws.length := (List.getElem?_eq_some_iff.1 hx).1
  obtain ⟨c1, c2⟩ := wcells_at ws svs i h1 hi
  have hr := (h3 i hi).rd
  rw [getD_some hx] at c1 hr
  refine ⟨[.int .i64 x.1, svs.getD i undef], ⟨[_], [_], rfl, rfl, _, rfl, hr⟩, fun j u hj => ?_⟩
  match j, hj with
  | 0, hj =>
   simp only [List.getElem?_cons_zero, Option.some.injEq] at hj
   subst hj
   show w.cell? ⟨g, 0 + i * 2 + 0, none⟩ = _
   rw [Nat.zero_add, Nat.add_zero, h2.cellAt (i * 2) (by omega)]; exact c1
  | 1, hj =>
   simp only [List.getElem?_cons_succ, List.getElem?_cons_zero, Option.some.injEq] at hj
   subst hj
   show w.cell? ⟨g, 0 + i * 2 + 1, none⟩ = _
   rw [Nat.zero_add, h2.cellAt (i * 2 + 1) (by omega)]; exact c2
  | j + 2, hj => simp at hj
end Go.Proofs.Ytmmjdacjcipgjaa

namespace Go.Proofs.Ytmmjdacjcipgjaa
open Go.RowKit
def OwnX (T B : Nat) (w : World) (v : Value) (ws : List Wrt) : Prop :=
 ∃ svs : List Value, svs.length = ws.length ∧ w.ownsRow B T 2 v ws.length (wcells ws svs) ∧ ∀ i, i < ws.length → OwnB B w (svs.getD i undef) (ws.getD i (0, [])).2
theorem OwnX.nil (T B : Nat) (w : World) : OwnX T B w (.slice none 0 0) [] := ⟨[], rfl, World.ownsRow_nil _ _ _ _, fun i hi => by simp at hi⟩
theorem OwnX.keepT {T B : Nat} {w w' : World} {v : Value} {ws : List Wrt} (h : OwnX T B w v ws) (k1 : KeepT 5 w w') (k2 : KeepT T w w') : OwnX T B w' v ws := by
 obtain ⟨vs, h1, h2, h3⟩ := h
 exact ⟨vs, h1, rows_keepT h2 k2, fun i hi => rows_keepT (h3 i hi) k1⟩
theorem OwnX.snoc {T B : Nat} {w w' : World} {v v' : Value} {ws : List Wrt} {f : Wrt} {sv : Value} (hT : T ≠ 5) {svs : List Value} (h1 : svs.length = ws.length) (h2 : w.ownsRow B T 2 v ws.length (wcells ws svs))
  (h3 : ∀ i, i < ws.length → OwnB B w (svs.getD i undef) (ws.getD i (0, [])).2) (hs : OwnB B w sv f.2)
  (hg : w.grownBy w' v.ownBlock) (hw : w'.ownsRow B T 2 v' (ws.length + 1) (wcells ws svs ++ [.int .i64 f.1, sv])) : OwnX T B w' v' (ws ++ [f]) := by
 refine ⟨svs ++ [sv], by simp [h1], ?_, ?_⟩
 ·rw [wcells_snoc ws svs f sv h1, List.length_append]
  exact hw
 ·intro i hi
  simp only [List.length_append, List.length_cons, List.length_nil] at hi
  by_cases hlt : i < ws.length
  ·have e1 : (svs ++ [sv]).getD i undef = svs.getD i undef := by simp [List.getD_eq_getElem?_getD, List.getElem?_append_left (show i < svs.length by omega)]
   have e2 : (ws ++ [f]).getD i (0, []) = ws.getD i (0, []) := by simp [List.getD_eq_getElem?_getD, List.getElem?_append_left hlt]
   rw [e1, e2]
   exact rows_keepT (h3 i hlt) (KeepT.grown h2 hg (Ne.symm hT))
  ·obtain rfl : i = ws.length := by omega
   have e1 : (svs ++ [sv]).getD ws.length undef = sv := by rw [← h1]; simp [List.getD_eq_getElem?_getD]
   have e2 : (ws ++ [f]).getD ws.length (0, []) = f := by simp [List.getD_eq_getElem?_getD]
   rw [e1, e2]
   exact rows_keepT hs (KeepT.grown h2 hg (Ne.symm hT))
theorem OwnX.rd {T B : Nat} {w : World} {v : Value} {ws : List Wrt} (h : OwnX T B w v ws) : RdC w v ws := by
 obtain ⟨svs, h1, h2, h3⟩ := h
 rcases h2.2 with ⟨rfl, h0⟩ | ⟨g, cap, cur, rfl, hgb, hg, hn, hm, hs, ht⟩
 ·have : ws = [] := List.eq_nil_of_length_eq_zero h0
  subst this
  exact RdS.nil _ _
 ·refine ⟨_, cap, rfl, hn, hm, (fun h => by cases h), .inr ⟨g, 0, rfl, fun i x hx => ?_⟩⟩
  have hi : i < ws.length := (List.getElem?_eq_some_iff.1 hx).1
  obtain ⟨c1, c2⟩ := wcells_at ws svs i h1 hi
  have hr := (h3 i hi).rd
  rw [getD_some hx] at c1 hr
  refine ⟨[.int .i64 x.1, svs.getD i undef], ⟨[_], [_], rfl, rfl, _, rfl, hr⟩, fun j u hj => ?_⟩
  match j, hj with
  | 0, hj =>
   simp only [List.getElem?_cons_zero, Option.some.injEq] at hj
   subst hj
   show w.cell? ⟨g, 0 + i * 2 + 0, none⟩ = _
   rw [Nat.zero_add, Nat.add_zero, h2.cellAt (i * 2) (by omega)]; exact c1
  | 1, hj =>
   simp only [List.getElem?_cons_succ, List.getElem?_cons_zero, Option.some.injEq] at hj
   subst hj
   show w.cell? ⟨g, 0 + i * 2 + 1, none⟩ = _
   rw [Nat.zero_add, h2.cellAt (i * 2 + 1) (by omega)]; exact c2
  | j + 2, hj => simp at hj
theorem OwnX.base {T B C : Nat} {w : World} {v : Value} {ws : List Wrt} (h : OwnX T C w v ws) (hBC : B ≤ C) : OwnX T B w v ws := by
 obtain ⟨svs, q1, q2, q3⟩ := h
 exact ⟨svs, q1, rows_base q2 (fun b hb => Nat.le_trans hBC (World.ownsRow.lt q2 b hb).1), fun i hi => rows_base (q3 i hi) (fun b hb => Nat.le_trans hBC (World.ownsRow.lt (q3 i hi) b hb).1)⟩
end Go.Proofs.Ytmmjdacjcipgjaa

namespace Go.Proofs.Ytmmjdacjcipgjaa
open Go.RowKit
set_option maxRecDepth 100000 in
theorem bclone_at (w : World) (b o n c : Nat) (xs : List UInt8) (h : Rd w (.slice (some ⟨b, o, none⟩) n c) xs) (hm : xs.length ≤ 140737488351232) :
  Calls Try.prog 44 #[.slice (some ⟨b, o, none⟩) n c] w fun e w' => ∃ v', e = .returned v' ∧ OwnB w.heap.size w' v' xs ∧ Below w.heap.size w w' := by
 obtain ⟨X, hX⟩ : ∃ u, u = w.alloc (.cells #[] 5) := ⟨_, rfl⟩
 have oX : OwnB w.heap.size X (.slice (some ⟨w.heap.size, 0, none⟩) 0 0) [] := by rw [hX]; exact own_lit w [] (by decide)
 have bX : Below w.heap.size w X := by rw [hX]; exact (Below.refl _ _).alloc (Nat.le_refl _) _
 have rX := h.to bX
 have hl : ([] : List UInt8).length + xs.length ≤ 140737488355328 := by simp; omega
 have hsz := bX.size
 have hnil : (binOp .eql 58 (.slice (some ⟨b, o, none⟩) n c) (.slice none 0 0)).run Try.prog w = .ok (.bool false) w := Lib.run_eql_slice_nil w 58 5 _ n c 0 0 Try.underlying58
 clear h
 go_enter Try.func44, Try.ntmps44
 go_wp2_with (at_builtin; rw [← hX]; refine wpList_append_octs rfl _ _ rfl w.heap.size _ _ _ _ rfl rfl oX rX hl hsz ?_; intro v6 w6 o6 b6 _)
 go_ret
 exact ⟨_, rfl, by simpa using o6, bX.trans b6⟩
end Go.Proofs.Ytmmjdacjcipgjaa

namespace Go.Proofs.Ytmmjdacjcipgjaa
open Go.RowKit
section
variable {P : Program} {ops : Array Oper} {Q : Exit → Act → World → Prop} {S : World → Prop} {Z : Act → World → Prop} {m : Nat}
def Fan (P : Program) (ops : Array Oper) (Q : Exit → Act → World → Prop) (S : World → Prop) (Z : Act → World → Prop) (m n : Nat) (listed : Array Bool) (a : Act) (w : World) : Prop :=
 HeadInv .any ops m listed → wpAnyM P .any ops Q S m (fun listed' a' w' => Region.seqB .any ops (ops.size - m) m listed' = true ∧ Z a' w') n listed a w
def fanStep (P : Program) (ops : Array Oper) (Q : Exit → Act → World → Prop) (S : World → Prop) (Z : Act → World → Prop) (m n i : Nat) (listed : Array Bool) (a : Act) (w : World) : Prop :=
 ∃ o, ops[i]? = some o ∧ ∀ K : Act → World → Prop, (∀ a' w', S w' → Fan P ops Q S Z m n (listed.setIfInBounds i true) a' w' → K a' w') → if Region.wanted o (yielded ops a.tmps) = true then o.wp P a w K Q else K (a.put o.dst undef) w
def fanOk (ops : Array Oper) (m : Nat) : Bool := Region.noSelect ops && decide (m < ops.size) && Region.sinkB .any ops m && Region.chainB .any ops m
def takeOk (ops : Array Oper) (m i : Nat) (listed : Array Bool) : Bool := fanOk ops m && decide (i < m) && (Region.ready .any ops listed).contains i && Region.free .any ops listed i
def readyOk (ops : Array Oper) (m : Nat) (is : List Nat) (listed : Array Bool) : Bool := decide (Region.ready .any ops listed = is) && is.all (fun i => decide (i < m)) && !is.isEmpty
theorem fan_take {i n : Nat} {listed : Array Bool} {a : Act} {w : World} {o : Oper} {v : Value} (ho : ops[i]? = some o) (hB : takeOk ops m i listed = true) (hQ : ∀ c (a : Act) t w, Q (.panic c) { a with tmps := t } w → Q (.panic c) a w) (hw : Region.wanted o (yielded ops a.tmps) = true) (hS : S w)
  (hy : ∀ w, S w → (execOp a.eval o).run P w = .ok (.value v) w) (h : Fan P ops Q S Z m n (listed.setIfInBounds i true) (a.put o.dst v) w) : Fan P ops Q S Z m (n + 1) listed a w := by
 intro inv
 simp only [takeOk, fanOk, Bool.and_eq_true, decide_eq_true_eq] at hB
 obtain ⟨⟨⟨⟨⟨⟨hsel, hm⟩, hs⟩, hc⟩, him⟩, hr⟩, hf⟩ := hB
 have hr' : i ∈ Region.ready .any ops listed := by simpa using hr
 exact wpAnyM_first ho (Region.noSelect_spec hsel) hs hc hm him (fun c a w h => hQ c a (a.put o.dst v).tmps w (by rw [← put_tmps]; exact h)) (fun listed a w hL => seqB_ready hL.1) _ listed a w inv (Region.free_spec ho hf) hr' (.inl ⟨hw, hy⟩) hS (h (inv.set hr' him))
theorem fan_all {is : List Nat} {n : Nat} {listed : Array Bool} {a : Act} {w : World} (hB : readyOk ops m is listed = true) (h : ∀ i ∈ is, fanStep P ops Q S Z m n i listed a w) : Fan P ops Q S Z m (n + 1) listed a w := by
 intro inv
 simp only [readyOk, Bool.and_eq_true, decide_eq_true_eq, List.all_eq_true] at hB
 obtain ⟨⟨hr, hlt⟩, hne⟩ := hB
 refine ⟨fun h1 => ?_, fun j hj => ?_⟩
 ·rw [hr] at h1; subst h1; simp at hne
 ·have hj0 := hj
  rw [hr] at hj
  have him := hlt j hj
  refine ⟨him, ?_⟩
  obtain ⟨o, ho, hK⟩ := h j hj
  have := hK (fun a' w' => S w' ∧ Fan P ops Q S Z m n (listed.setIfInBounds j true) a' w') (fun a' w' h1 h2 => ⟨h1, h2⟩)
  have hw : wpOp P ops Q j (fun a' w' => S w' ∧ Fan P ops Q S Z m n (listed.setIfInBounds j true) a' w') a w := by
   unfold wpOp
   simp only [ho]
   split
   ·rename_i hwd; rw [if_pos hwd] at this; exact .inl this
   ·rename_i hwd; rw [if_neg hwd] at this; exact this
  exact wpOp_mono (fun a' w' h' => ⟨h'.1, h'.2 (inv.set hj0 him)⟩) hw
theorem fan_one {n : Nat} {listed : Array Bool} {a : Act} {w : World} (i : Nat) (hB : readyOk ops m [i] listed = true) (h : fanStep P ops Q S Z m n i listed a w) : Fan P ops Q S Z m (n + 1) listed a w :=
 fan_all hB fun j hj => by simp at hj; subst hj; exact h
theorem fan_two {n : Nat} {listed : Array Bool} {a : Act} {w : World} (i j : Nat) (hB : readyOk ops m [i, j] listed = true) (h1 : fanStep P ops Q S Z m n i listed a w) (h2 : fanStep P ops Q S Z m n j listed a w) : Fan P ops Q S Z m (n + 1) listed a w :=
 fan_all hB fun k hk => by
  simp at hk
  rcases hk with rfl | rfl
  ·exact h1
  ·exact h2
theorem fan_three {n : Nat} {listed : Array Bool} {a : Act} {w : World} (i j k : Nat) (hB : readyOk ops m [i, j, k] listed = true) (h1 : fanStep P ops Q S Z m n i listed a w) (h2 : fanStep P ops Q S Z m n j listed a w) (h3 : fanStep P ops Q S Z m n k listed a w) : Fan P ops Q S Z m (n + 1) listed a w :=
 fan_all hB fun q hq => by
  simp at hq
  rcases hq with rfl | rfl | rfl
  ·exact h1
  ·exact h2
  ·exact h3
theorem fan_step {i n : Nat} {listed : Array Bool} {a : Act} {w : World} {o : Oper} (ho : ops[i]? = some o) (hw : Region.wanted o (yielded ops a.tmps) = true) (h : ∀ K : Act → World → Prop, (∀ a' w', S w' → Fan P ops Q S Z m n (listed.setIfInBounds i true) a' w' → K a' w') → o.wp P a w K Q) : fanStep P ops Q S Z m n i listed a w :=
 ⟨o, ho, fun K hK => by rw [if_pos hw]; exact h K hK⟩
theorem fan_done {listed : Array Bool} {a : Act} {w : World} (hB : Region.seqB .any ops (ops.size - m) m listed = true) (h : Z a w) : Fan P ops Q S Z m 0 listed a w := fun _ => ⟨hB, h⟩
theorem wp_region_fan {id : Nat} {a : Act} {w : World} {l : List Oper} (S : World → Prop) (m : Nat) (hf : P.follows .mixedOrders = true) (hm : m < l.length)
  (h : Fan P l.toArray Q S (fun a'' w'' => wpList P l.toArray Q (l.drop m) a'' w'') m m (Array.replicate l.toArray.size false) a w.drew) : (Code.region id l.toArray true).wp P Q a w := by
 have hld : (l.drop m).length = l.length - m := by simp
 have inv0 : HeadInv .any l.toArray m (Array.replicate l.toArray.size false) :=
  ⟨by simp, fun j oj _ hl => (by rw [getD_replicate_false] at hl; cases hl), fun t _ ht => getD_in (by simpa using ht) (getD_replicate_false _ _)⟩
 have H := h inv0
 refine wp_region_any hf ?_
 have := wpAny_of_mid (Q := Q) (g := l.length - m) (fun listed a' w' hL => by
  have := wpAny_of_seq (md := .any) (Q' := Q) (l.drop m) m listed a' w' (fun j => by simp [List.getElem?_drop]) (by rw [hld]; simpa using hL.1) hL.2
  rwa [hld] at this) _ _ _ _ H
 rw [show m + (l.length - m) = l.toArray.size by simp; omega] at this
 exact this
end
end Go.Proofs.Ytmmjdacjcipgjaa

namespace Go.Proofs.Ytmmjdacjcipgjaa
open Go.ChangeShapes Go.WideShapes Go.ChangeAt Go.RowKit
theorem own : ownKnob Try.prog.godebug = none := by kernel_rfl
theorem laidOut : laidOutB Try.prog = true := by kernel_rfl
def octs (zs : List Int) : List UInt8 := zs.map fun z => UInt8.ofNat z.toNat
theorem bulk_pos {H : Type} (d : DataW H) : 1 ≤ Rows.uptoBulk d := by
 cases d with
 | lit l => cases l <;> simp [Rows.uptoBulk]
 | nil => simp [Rows.uptoBulk]
 | ptr d => simp [Rows.uptoBulk]
 | slice el sp => simp [Rows.uptoBulk]
 | agg ps => simp [Rows.uptoBulk]
 | iface t d => simp [Rows.uptoBulk]
 | map es => simp [Rows.uptoBulk]
 | held h => simp [Rows.uptoBulk]
end Go.Proofs.Ytmmjdacjcipgjaa

namespace Go.Proofs.Ytmmjdacjcipgjaa
open Go.ChangeShapes Go.WideShapes Go.ChangeAt Go.RowKit
structure Opens {α : Type} (s : Shp α) (t : TypeId) (fits : α → Prop) (bulk : α → Nat) : Prop where
 cells : Try.prog.cellsOf t = s.n
 opened : ∀ {H : Type} {enc : TypeId × Value → H} {W : World} {fuel : Nat} {cs : List Value} {x : DataW H × List MemPlace}, DataW.trod enc Try.prog W 0 (fun _ => true) true fuel t cs = some x →
  ∃ a, s.rd W cs a ∧ ((∀ n ∈ x.1.weights Try.prog t, n ≤ reachBytes) → fits a) ∧ bulk a ≤ Rows.uptoBulk x.1
theorem opens_int {k : IntKind} {t : TypeId} (ht : Try.prog.underlying t = some (.int k)) (hc : Try.prog.cellsOf t = 1) : Opens (Shp.int k) t (fun _ => True) (fun _ => 1) := by
 refine ⟨hc, fun {H enc W fuel cs x} h => ?_⟩
 obtain ⟨z, hz, _, _⟩ := DataW.trod_int ht h
 exact ⟨z, hz, fun _ => trivial, bulk_pos _⟩
theorem choose_list {α : Type} {p : Nat → α → Prop} : ∀ n : Nat, (∀ i, i < n → ∃ x, p i x) → ∃ xs : List α, xs.length = n ∧ ∀ i x, xs[i]? = some x → p i x
 | 0, _ => ⟨[], rfl, fun i x h => by simp at h⟩
 | n + 1, h => by
  obtain ⟨xs, h1, h2⟩ := choose_list n fun i hi => h i (by omega)
  obtain ⟨x, hx⟩ := h n (by omega)
  refine ⟨xs ++ [x], by simp [h1], fun i y hy => ?_⟩
  by_cases e : i < n
  ·rw [List.getElem?_append_left (by omega)] at hy
   exact h2 i y hy
  ·rw [List.getElem?_append_right (by omega)] at hy
   have hi : i - xs.length = 0 := by
    have := (List.getElem?_eq_some_iff.1 hy).1
    simp at this; omega
   rw [hi] at hy
   simp at hy; subst hy
   obtain rfl : i = n := by omega
   exact hx
theorem weightsAll_mem {H : Type} {e : TypeId} {d : DataW H} {l : List (DataW H)} (hd : d ∈ l) {n : Nat} (hn : n ∈ d.weights Try.prog e) : n ∈ DataW.weightsAll Try.prog e l := by
 induction l with
 | nil => cases hd
 | cons x r ih =>
  simp only [DataW.weightsAll, List.mem_append]
  rcases List.mem_cons.1 hd with h | h
  ·subst h; exact .inl hn
  ·exact .inr (ih h)
theorem bulk_sum {H α : Type} (bulk : α → Nat) : ∀ (xs : List α) (D : Nat → DataW H), (∀ i x, xs[i]? = some x → bulk x ≤ Rows.uptoBulk (D i)) → (xs.map bulk).sum ≤ Rows.uptoBulkAll ((List.range xs.length).map D)
 | [], _, _ => by simp
 | x :: xs, D, h => by
  simp only [List.length_cons, List.range_succ_eq_map, List.map_cons, List.map_map, List.sum_cons, Rows.uptoBulkAll]
  have h0 := h 0 x rfl
  have := bulk_sum bulk xs (D ∘ Nat.succ) fun i y hy => h (i + 1) y (by simpa using hy)
  omega
theorem Opens.list {α : Type} {s : Shp α} {e t T bts : Nat} {fits : α → Prop} {bulk : α → Nat} (o : Opens s e fits bulk) (ht : Try.prog.underlying t = some (.slice e)) (hc : Try.prog.cellsOf t = 1) (hb : Try.prog.bytesOf e = bts) (hn : 0 < s.n) :
  Opens (Shp.list T s) t (fun xs => xs.length * bts ≤ 140737488351232 ∧ ∀ x ∈ xs, fits x) (fun xs => (xs.map bulk).sum) := by
 refine ⟨hc, fun {H enc W fuel cs x} h => ?_⟩
 rcases Deep.open_slice ht h with ⟨rfl, rfl⟩ | ⟨a, len, cap, m, n, D, Pl, rfl, _, hl, hm, hmm, rfl, hx⟩
 ·exact ⟨[], ⟨_, rfl, RdS.nil _ _⟩, fun _ => ⟨by simp, fun x hx => by cases hx⟩, by simp⟩
 simp only [if_true] at hmm
 subst hmm
 have each : ∀ i, i < len → ∃ x, (∃ c, s.rd W c x ∧ ∀ j u, c[j]? = some u → W.cell? ((a.add (i * s.n)).add j) = some u) ∧ ((∀ n ∈ (D i).weights Try.prog e, n ≤ reachBytes) → fits x) ∧ bulk x ≤ Rows.uptoBulk (D i) := by
  intro i hi
  obtain ⟨cs', h1, h2⟩ := hx i (by omega)
  obtain ⟨x, hr, hf, hbk⟩ := o.opened h2
  rw [o.cells] at h1
  obtain ⟨_, hlen, hcell⟩ := World.cells?_some h1
  refine ⟨x, ⟨cs', hr, fun j u hj => ?_⟩, hf, hbk⟩
  have hjl : j < cs'.length := (List.getElem?_eq_some_iff.1 hj).1
  have := hcell j (by omega)
  rw [this]; exact hj
 obtain ⟨xs, h1, h2⟩ := choose_list len each
 refine ⟨xs, ⟨_, rfl, some a, m, by rw [h1], by omega, hm, (fun h => by cases h), ?_⟩, fun hw => ⟨?_, fun x hx' => ?_⟩, ?_⟩
 ·by_cases h0 : len = 0
  ·left; exact List.eq_nil_of_length_eq_zero (by omega)
  ·right
   obtain ⟨b, off, spot⟩ := a
   obtain ⟨x0, hx0⟩ : ∃ x0, xs[0]? = some x0 := ⟨_, List.getElem?_eq_getElem (by omega)⟩
   obtain ⟨⟨c, hr, hc'⟩, _⟩ := h2 0 x0 hx0
   have hcl := s.rd_n hr
   obtain ⟨u0, hu0⟩ : ∃ u0, c[0]? = some u0 := ⟨_, List.getElem?_eq_getElem (by omega)⟩
   have hspot : spot = none := by
    have := World.cell?_spot (hc' 0 u0 hu0)
    simpa [Addr.add] using this
   subst hspot
   refine ⟨b, off, rfl, fun i x hxi => ?_⟩
   obtain ⟨⟨c, hr, hc'⟩, _⟩ := h2 i x hxi
   refine ⟨c, hr, fun j u hj => ?_⟩
   have := hc' j u hj
   have ea : ((⟨b, off, none⟩ : Addr).add (i * s.n)).add j = ⟨b, off + i * s.n + j, none⟩ := by
    rw [Deep.add_add]
    unfold Addr.add
    split <;> simp_all [Nat.add_assoc]
   rw [ea] at this
   exact this
 ·have := hw ((len + (m - len)) * bts) (by simp [DataW.weights, ht, hb])
  simp only [reachBytes] at this
  rw [h1]
  have h3 : len * bts ≤ (len + (m - len)) * bts := Nat.mul_le_mul_right _ (by omega)
  omega
 ·obtain ⟨i, hi, e⟩ := List.getElem_of_mem hx'
  have hxi : xs[i]? = some x := by rw [List.getElem?_eq_getElem hi, e]
  refine (h2 i x hxi).2.1 fun n hn => hw n ?_
  simp only [DataW.weights, ht, List.mem_cons, List.mem_append]
  right; left
  exact weightsAll_mem (d := D i) (List.mem_map.2 ⟨i, List.mem_range.2 (by omega), rfl⟩) hn
 ·have := bulk_sum bulk xs D fun i x hxi => (h2 i x hxi).2.2
  rw [h1] at this
  simp only [Rows.uptoBulk]
  omega
theorem Opens.pair {α β : Type} {s : Shp α} {r : Shp β} {t : TypeId} {f0 f1 : Field} {fa : α → Prop} {fb : β → Prop} {ba : α → Nat} {bb : β → Nat} (o : Opens s f0.type fa ba) (q : Opens r f1.type fb bb) (ht : Try.prog.underlying t = some (.struct #[f0, f1])) (hc : Try.prog.cellsOf t = s.n + r.n) (h0 : f0.offset = 0) (h1 : f1.offset = s.n) :
  Opens (s.pair r) t (fun z => fa z.1 ∧ fb z.2) (fun z => ba z.1 + bb z.2) := by
 refine ⟨hc, fun {H enc W fuel cs x} h => ?_⟩
 obtain ⟨xs, k, hk, hxy, hlen, hxl, hf⟩ := DataW.trod_struct ht h
 match xs, hxl with
 | [y0, y1], _ =>
  have g0 := hf 0 f0 rfl
  have g1 := hf 1 f1 rfl
  rw [h0, o.cells, List.drop_zero] at g0
  rw [h1, q.cells] at g1
  obtain ⟨a, ra, fa', ba'⟩ := o.opened (x := y0) (by simpa using g0)
  obtain ⟨b, rb, fb', bb'⟩ := q.opened (x := y1) (by simpa using g1)
  have hcs : cs = cs.take s.n ++ (cs.drop s.n).take r.n := by
   have : (cs.drop s.n).take r.n = cs.drop s.n := List.take_of_length_le (by rw [List.length_drop, hlen, hc]; omega)
   rw [this, List.take_append_drop]
  obtain ⟨d, p⟩ := x
  simp only [Prod.mk.injEq] at hxy
  obtain ⟨rfl, _⟩ := hxy
  refine ⟨(a, b), ⟨_, _, hcs, ra, rb⟩, fun hw => ⟨fa' fun n hn => hw n ?_, fb' fun n hn => hw n ?_⟩, ?_⟩
  ·simp only [DataW.weights, ht]
   exact DataW.weights_mem_each (j := 0) (t := f0.type) (d := y0.1) rfl rfl n hn
  ·simp only [DataW.weights, ht]
   exact DataW.weights_mem_each (j := 1) (t := f1.type) (d := y1.1) rfl rfl n hn
  ·simp only [List.map_cons, List.map_nil, Rows.uptoBulk, Rows.uptoBulkAll]
   omega
theorem reach_of {H : Type} {ts : List TypeId} {ds : List (DataW H)} (hsz : (DataW.weightsEach Try.prog ts ds).all (· ≤ reachBytes) = true) {j : Nat} {t : TypeId} {d : DataW H} (ht : ts[j]? = some t) (hd : ds[j]? = some d) : ∀ n ∈ d.weights Try.prog t, n ≤ reachBytes := by
 intro n hn
 have := List.all_eq_true.1 hsz _ (DataW.weights_mem_each ht hd _ hn)
 simpa using this
theorem Opens.three {α β γ : Type} {s : Shp α} {r : Shp β} {u : Shp γ} {t : TypeId} {f0 f1 f2 : Field} {fa : α → Prop} {fb : β → Prop} {fc : γ → Prop} {ba : α → Nat} {bb : β → Nat} {bc : γ → Nat} (o : Opens s f0.type fa ba) (q : Opens r f1.type fb bb) (p : Opens u f2.type fc bc)
  (ht : Try.prog.underlying t = some (.struct #[f0, f1, f2])) (hc : Try.prog.cellsOf t = s.n + (r.n + u.n)) (h0 : f0.offset = 0) (h1 : f1.offset = s.n) (h2 : f2.offset = s.n + r.n) :
  Opens (s.pair (r.pair u)) t (fun z => fa z.1 ∧ (fb z.2.1 ∧ fc z.2.2)) (fun z => ba z.1 + (bb z.2.1 + bc z.2.2)) := by
 refine ⟨hc, fun {H enc W fuel cs x} h => ?_⟩
 obtain ⟨xs, k, hk, hxy, hlen, hxl, hf⟩ := DataW.trod_struct ht h
 match xs, hxl with
 | [y0, y1, y2], _ =>
  have g0 := hf 0 f0 rfl
  have g1 := hf 1 f1 rfl
  have g2 := hf 2 f2 rfl
  rw [h0, o.cells, List.drop_zero] at g0
  rw [h1, q.cells] at g1
  rw [h2, p.cells] at g2
  obtain ⟨a, ra, fa', ba'⟩ := o.opened (x := y0) (by simpa using g0)
  obtain ⟨b, rb, fb', bb'⟩ := q.opened (x := y1) (by simpa using g1)
  obtain ⟨c, rc, fc', bc'⟩ := p.opened (x := y2) (by simpa using g2)
  have hcs : cs = cs.take s.n ++ ((cs.drop s.n).take r.n ++ (cs.drop (s.n + r.n)).take u.n) := by
   have e1 : (cs.drop (s.n + r.n)).take u.n = cs.drop (s.n + r.n) := List.take_of_length_le (by rw [List.length_drop, hlen, hc]; omega)
   rw [e1, ← List.drop_drop, List.take_append_drop, List.take_append_drop]
  obtain ⟨d, pl⟩ := x
  simp only [Prod.mk.injEq] at hxy
  obtain ⟨rfl, _⟩ := hxy
  refine ⟨(a, (b, c)), ⟨_, _, hcs, ra, ⟨_, _, rfl, rb, rc⟩⟩, fun hw => ⟨fa' fun n hn => hw n ?_, fb' fun n hn => hw n ?_, fc' fun n hn => hw n ?_⟩, ?_⟩
  ·simp only [DataW.weights, ht]
   exact DataW.weights_mem_each (j := 0) (t := f0.type) (d := y0.1) rfl rfl n hn
  ·simp only [DataW.weights, ht]
   exact DataW.weights_mem_each (j := 1) (t := f1.type) (d := y1.1) rfl rfl n hn
  ·simp only [DataW.weights, ht]
   exact DataW.weights_mem_each (j := 2) (t := f2.type) (d := y2.1) rfl rfl n hn
  ·simp only [List.map_cons, List.map_nil, Rows.uptoBulk, Rows.uptoBulkAll]
   omega
end Go.Proofs.Ytmmjdacjcipgjaa

namespace Go.Proofs.Ytmmjdacjcipgjaa
open Go.ChangeShapes Go.WideShapes Go.ChangeAt Go.RowKit
end Go.Proofs.Ytmmjdacjcipgjaa

namespace Go.Proofs.Ytmmjdacjcipgjaa
open Go.ChangeShapes Go.WideShapes Go.ChangeAt Go.RowKit
end Go.Proofs.Ytmmjdacjcipgjaa

namespace Go.Proofs.Ytmmjdacjcipgjaa
open Go.ChangeShapes Go.WideShapes Go.ChangeAt Go.RowKit
abbrev Sp3 := Int × (Str × Str)
abbrev SStep10 : Shp Sp3 := (Shp.int .i64).pair (Shp.str.pair Shp.str)
abbrev SSteps10 : Shp (List Sp3) := Shp.list 36 SStep10
theorem opens_strb : Opens Shp.str 9 (fun x => x.length ≤ maxLen) (fun _ => 1) := by
 refine ⟨by kernel_rfl, fun {H enc W fuel cs x} h => ?_⟩
 obtain ⟨s, hs, _, hl⟩ := DataW.trod_string Try.underlying9 h
 exact ⟨s.data.toList, by rw [hs]; rfl, fun _ => by simpa using hl, bulk_pos _⟩
def sp3fit (z : Sp3) : Prop := True ∧ (z.2.1.length ≤ maxLen ∧ z.2.2.length ≤ maxLen)
set_option maxRecDepth 100000 in
theorem open_step10 : Opens SStep10 36 sp3fit (fun _ => 1 + (1 + 1)) :=
 Opens.three (opens_int Try.underlying3 (by kernel_rfl)) opens_strb opens_strb Try.underlying36 (by kernel_rfl) rfl rfl rfl
set_option maxRecDepth 100000 in
theorem open_steps10 : Opens SSteps10 22 (fun xs => xs.length * 40 ≤ 140737488351232 ∧ ∀ x ∈ xs, sp3fit x) (fun xs => (xs.map (fun _ => 1 + (1 + 1))).sum) :=
 open_step10.list Try.underlying22 (by kernel_rfl) (by kernel_rfl) (by decide)
abbrev RdSt (w : World) (v : Value) (l : List Sp3) : Prop := RdS SStep10 w v l
theorem RdS.spAt {w : World} {a : Option Addr} {n cap : Nat} {l : List Sp3} (h : RdSt w (.slice a n cap) l) {i : Nat} {y : Sp3} (hy : l[i]? = some y) :
  ∃ b off, a = some ⟨b, off, none⟩ ∧ w.cell? ⟨b, off + i * 3, none⟩ = some (.int .i64 y.1) ∧ w.cell? ⟨b, off + i * 3 + 1, none⟩ = some (st y.2.1) ∧ w.cell? ⟨b, off + i * 3 + 2, none⟩ = some (st y.2.2) := by
 obtain ⟨ao, c, e, h1, h2, h3, h4⟩ := h
 cases e
 rcases h4 with rfl | ⟨b, off, rfl, hc⟩
 ·simp at hy
 ·obtain ⟨c, ⟨c1, c2, rfl, k1, ⟨c3, c4, rfl, k3, k4⟩⟩, k2⟩ := hc i y hy
  have e1 : c1 = [Value.int .i64 y.1] := k1
  have e3 : c3 = [st y.2.1] := k3
  have e4 : c4 = [st y.2.2] := k4
  subst e1 e3 e4
  rw [show SStep10.n = 3 from rfl] at k2
  exact ⟨b, off, rfl, by simpa using k2 0 _ rfl, by simpa using k2 1 _ rfl, by simpa using k2 2 _ rfl⟩
end Go.Proofs.Ytmmjdacjcipgjaa
