/-
  The program's Find: slices.BinarySearch of strings.
-/
import Derived.Deep.QuietTactic
import Derived.BigQuiet
import Derived.Laws.Cover1
import Derived.Test.YtgmkknonnidgaaaNFindR
import Derived.Test.YtgmkknonnidgaaaNPB
namespace Go.Proofs.Ytgmkknonnidgaaa
open Go.RowKit
set_option linter.unusedVariables false
set_option linter.unusedSimpArgs false

theorem ret_si9 {a b c d : Value} (h1 : a = c) (h2 : b = d) : Ending.returned (.tuple #[a, b]) = .returned (.tuple #[c, d]) := by rw [h1, h2]

/-! keys in order -/
theorem keys_lt {n : Nd} (h : nkeys n n.keys.length) : ∀ (j i : Nat), i < j → j < n.keys.length → slt (nkey n i) (nkey n j) = true
  | 0, i, hi, _ => by omega
  | j + 1, i, hi, hj => by
    have hs := (h (j + 1) hj).2.2 (by omega)
    rw [Nat.add_sub_cancel] at hs
    by_cases e : i = j
    · subst e; exact hs
    · exact slt_trans (keys_lt h j i (by omega) (by omega)) hs
theorem nkey_at {n : Nd} {k : Nat} {x : Str} (h : n.keys[k]? = some x) : nkey n k = x := by unfold nkey; rw [h]; rfl
/-- so many are below, if those ahead are, and those behind are not -/
theorem nfnd_cut (leaf : Bool) (key : Str) : ∀ (l : List Str) (i : Nat), i ≤ l.length → (∀ j x, j < i → l[j]? = some x → slt x key = true) → (∀ j x, i ≤ j → l[j]? = some x → slt x key = false ∧ (x == key) = false) → nfnd leaf key l = i ∧ nis key l = false
  | [], i, hi, _, _ => by
    have : i = 0 := by simpa using hi
    subst this; exact ⟨rfl, rfl⟩
  | x :: r, 0, _, h1, h2 => by
    have hx := h2 0 x (Nat.le_refl _) rfl
    obtain ⟨a, b⟩ := nfnd_cut leaf key r 0 (Nat.zero_le _) (fun j y hj => by omega) (fun j y _ hy => h2 (j + 1) y (by omega) (by simpa using hy))
    refine ⟨?_, ?_⟩
    · simp only [nfnd, hx.1, hx.2, a]; simp
    · unfold nis at b ⊢; rw [List.any_cons, hx.2, b]; rfl
  | x :: r, i + 1, hi, h1, h2 => by
    have hx := h1 0 x (by omega) rfl
    obtain ⟨a, b⟩ := nfnd_cut leaf key r i (by simpa using hi) (fun j y hj hy => h1 (j + 1) y (by omega) (by simpa using hy)) (fun j y hj hy => h2 (j + 1) y (by omega) (by simpa using hy))
    have hne : (x == key) = false := by
      apply Bool.eq_false_iff.2
      intro e
      have : x = key := by simpa using e
      subst this; rw [slt_irr] at hx; cases hx
    refine ⟨?_, ?_⟩
    · simp only [nfnd, hx, a]; simp; omega
    · unfold nis at b ⊢; rw [List.any_cons, hne, b]; rfl
theorem nfnd_hit (leaf : Bool) (key : Str) : ∀ (l : List Str) (i : Nat), l[i]? = some key → (∀ j x, j < i → l[j]? = some x → slt x key = true) → (∀ j x, i < j → l[j]? = some x → slt key x = true) → nfnd leaf key l = (i : Int) + (if leaf then 0 else 1) ∧ nis key l = true
  | [], i, h, _, _ => by simp at h
  | x :: r, 0, h, h1, h2 => by
    have hx : x = key := by simpa using h
    subst hx
    obtain ⟨a, _⟩ := nfnd_cut leaf x r 0 (Nat.zero_le _) (fun j y hj => by omega) (fun j y _ hy => by
      have := h2 (j + 1) y (by omega) (by simpa using hy)
      refine ⟨slt_asym this, ?_⟩
      apply Bool.eq_false_iff.2
      intro e
      have e' : y = x := by simpa using e
      subst e'; rw [slt_irr] at this; cases this)
    refine ⟨?_, ?_⟩
    · simp only [nfnd, slt_irr, a]; cases leaf <;> simp
    · unfold nis; simp
  | x :: r, i + 1, h, h1, h2 => by
    have hx := h1 0 x (by omega) rfl
    obtain ⟨a, b⟩ := nfnd_hit leaf key r i (by simpa using h) (fun j y hj hy => h1 (j + 1) y (by omega) (by simpa using hy)) (fun j y hj hy => h2 (j + 1) y (by omega) (by simpa using hy))
    refine ⟨?_, ?_⟩
    · simp only [nfnd, hx, a]; simp; omega
    · unfold nis at b ⊢; simp at b ⊢; exact .inr b

set_option maxRecDepth 100000 in
theorem pnan_any (w : World) (x : Str) : Calls Try.prog 104 #[st x] w fun e w' => e = .returned (.bool false) ∧ w = w' := by
  have h : (x != x) = false := by simp
  have h' : (x == x) = true := by simp
  go_enter Try.func104, Try.ntmps104
  go_wp2
  go_ret
  exact ⟨by first | rfl | simp, rfl⟩
set_option maxRecDepth 100000 in
theorem psnan_any (w : World) (x : Str) : Calls Try.prog 89 #[st x] w fun e w' => e = .returned (.bool false) ∧ w = w' := by
  have h : (x != x) = false := by simp
  have h' : (x == x) = true := by simp
  go_enter Try.func89, Try.ntmps89
  go_wp2
  go_ret
  exact ⟨by first | rfl | simp, rfl⟩
set_option maxRecDepth 100000 in
theorem pless_any (w : World) (x y : Str) : Calls Try.prog 88 #[st x, st y] w fun e w' => e = .returned (.bool (slt x y)) ∧ w = w' := by
  have K := hide (pnan_any w x)
  go_enter Try.func88, Try.ntmps88
  go_wp2_with fail
  refine K.out.mono ?_
  rintro e w1 ⟨rfl, rfl⟩
  go_wp2
  go_ret
  exact ⟨rfl, rfl⟩

/-- so many keys lie below -/
structure Low (n : Nd) (key : Str) (i : Nat) : Prop where
  le : i ≤ n.keys.length
  lo : ∀ t, t < i → slt (nkey n t) key = true
  hi : ∀ t, i ≤ t → t < n.keys.length → slt (nkey n t) key = false

set_option maxRecDepth 100000 in
set_option maxHeartbeats 2000000 in
theorem pbs_any (w : World) (v : Value) (N : Nd) (key : Str) (h : RdT w v N.keys) (hk : nkeys N N.keys.length) (hl : N.keys.length ≤ 1000) :
    Calls Try.prog 67 #[v, st key] w fun e w' => ∃ i : Nat, e = .returned (.tuple #[.int .i64 i, .bool (decide (i < N.keys.length) && (nkey N i == key))]) ∧ Low N key i ∧ w = w' := by
  obtain ⟨a, c, rfl⟩ := h.slice
  obtain ⟨keys, hkeys⟩ : ∃ l, l = N.keys := ⟨_, rfl⟩
  obtain ⟨L, hL⟩ : ∃ L, L = N.keys.length := ⟨_, rfl⟩
  have HK : Hid (∀ t s, t < s → s < L → slt (nkey N t) (nkey N s) = true) := fun t s h1 h2 => keys_lt hk s t h1 (by omega)
  have HH := hide h
  rw [← hL] at hl ⊢
  replace hL := hide hL
  have KL := hide (fun x => pless_any w x key)
  clear h hk hkeys
  go_enter Try.func67, Try.ntmps67
  go_wp2
  go_loopw [7, 8] (fun p q wr => ∃ i j : Nat, i ≤ j ∧ j ≤ L ∧ p = .int .i64 i ∧ q = .int .i64 j ∧ w = wr ∧ Hid ((∀ t, t < i → slt (nkey N t) key = true) ∧ ∀ t, j ≤ t → t < L → slt (nkey N t) key = false)) (fun p q _ => (intOf q).toNat - (intOf p).toNat)
  case atStart => exact ⟨0, L, Nat.zero_le _, Nat.le_refl _, rfl, rfl, rfl, hide ⟨fun t h => by omega, fun t h1 h2 => by omega⟩⟩
  case round =>
    obtain ⟨i, j, hij, hjL, rfl, rfl, rfl, hI⟩ := hrel
    by_cases hlt : i < j
    · have hq : (i : Int) < (j : Int) := by omega
      obtain ⟨s, hs⟩ : ∃ s : Nat, (i : Int) + (j : Int) = (s : Int) := ⟨i + j, by omega⟩
      have hs1 : IntKind.i64.wrap (s : Int) = (s : Int) := IntWalk.i64_in _ (by omega)
      obtain ⟨m, hm⟩ : ∃ m : Nat, (s : Int) / 2 = (m : Int) := ⟨s / 2, by omega⟩
      have hm2 : (m : Int) < (L : Int) := by omega
      have hmi : Hid (i ≤ m ∧ m < j) := by show _ ∧ _; omega
      obtain ⟨x, hx⟩ := some_el N.keys (k := m) (by rw [← hL.out]; omega)
      have hnx := hide (nkey_at hx)
      obtain ⟨b, off, rfl, hc1⟩ := HH.out.strAt hx
      replace hx := hide hx
      go_wp2_with fail
      refine (KL.out x).mono ?_
      rintro e w1 ⟨rfl, rfl⟩
      cases hlx : slt x key with
      | true =>
        have hI' : Hid ((∀ t, t < m + 1 → slt (nkey N t) key = true) ∧ ∀ t, j ≤ t → t < L → slt (nkey N t) key = false) := ⟨fun t ht => by
          by_cases e : t = m
          · subst e; rw [hnx.out]; exact hlx
          · have h1 := HK.out t m (by omega) (by omega)
            rw [hnx.out] at h1
            exact slt_trans h1 hlx, hI.out.2⟩
        replace hlx := hide hlx
        go_wp2
        go_roundw
        case rel => exact ⟨m + 1, j, by have := hmi.out; omega, hjL, by go_num, rfl, trivial, hI'⟩
        case measure => have := hmi.out; simp [intOf]; omega
      | false =>
        have hI' : Hid ((∀ t, t < i → slt (nkey N t) key = true) ∧ ∀ t, m ≤ t → t < L → slt (nkey N t) key = false) := ⟨hI.out.1, fun t h1 h2 => by
          by_cases e : t = m
          · subst e; rw [hnx.out]; exact hlx
          · have h3 := HK.out m t (by omega) h2
            rw [hnx.out] at h3
            cases h4 : slt (nkey N t) key
            · rfl
            · rw [slt_trans h3 h4] at hlx; cases hlx⟩
        replace hlx := hide hlx
        go_wp2
        go_roundw
        case rel => exact ⟨i, m, hmi.out.1, by have := hmi.out; omega, rfl, rfl, trivial, hI'⟩
        case measure => have := hmi.out; simp [intOf]; omega
    · have hq : ¬ (i : Int) < (j : Int) := by omega
      obtain rfl : i = j := by omega
      have LO : Hid (Low N key i) := ⟨by rw [← hL.out]; omega, hI.out.1, fun t h1 h2 => hI.out.2 t h1 (by rw [hL.out]; exact h2)⟩
      clear hI
      by_cases hiL : i < L
      · have hq2 : (i : Int) < (L : Int) := by omega
        have hd : decide (i < L) = true := decide_eq_true hiL
        obtain ⟨x, hx⟩ := some_el N.keys (k := i) (by rw [← hL.out]; omega)
        have hnx := hide (nkey_at hx)
        obtain ⟨b, off, rfl, hc1⟩ := HH.out.strAt hx
        replace hx := hide hx
        cases he : (x == key) with
        | true =>
          have hr : Hid ((decide (i < L) && nkey N i == key) = true) := by show _ = _; rw [hd, hnx.out, he]; rfl
          clear hd
          go_wp2
          go_ret2
          exact ⟨i, ret_si9 rfl (congrArg Value.bool hr.out.symm), LO.out, rfl⟩
        | false =>
          have hr : Hid ((decide (i < L) && nkey N i == key) = false) := by show _ = _; rw [hd, hnx.out, he]; rfl
          have KS := hide (psnan_any w x)
          clear hd
          go_wp2_with fail
          refine KS.out.mono ?_
          rintro e w1 ⟨rfl, rfl⟩
          go_wp2
          go_ret2
          exact ⟨i, ret_si9 rfl (congrArg Value.bool hr.out.symm), LO.out, rfl⟩
      · have hq2 : ¬ (i : Int) < (L : Int) := by omega
        have hr : Hid ((decide (i < L) && nkey N i == key) = false) := by show _ = _; rw [decide_eq_false hiL]; rfl
        go_wp2
        go_ret2
        exact ⟨i, ret_si9 rfl (congrArg Value.bool hr.out.symm), LO.out, rfl⟩

/-- where it is found is where the page finds it -/
theorem low_find {n : Nd} {key : Str} {i : Nat} (h : Low n key i) (hk : nkeys n n.keys.length) : nis key n.keys = (decide (i < n.keys.length) && (nkey n i == key)) ∧ nfnd n.leaf key n.keys = if (decide (i < n.keys.length) && (nkey n i == key)) = true ∧ n.leaf = false then (i : Int) + 1 else (i : Int) := by
  cases hb : (decide (i < n.keys.length) && (nkey n i == key)) with
  | true =>
    rw [Bool.and_eq_true, decide_eq_true_eq] at hb
    have hkey : nkey n i = key := by simpa using hb.2
    obtain ⟨x, hx⟩ := some_el n.keys hb.1
    have hx' := nkey_at hx
    rw [hkey] at hx'
    subst hx'
    obtain ⟨p, q⟩ := nfnd_hit n.leaf key n.keys i hx (fun j y hj hy => by have := h.lo j hj; rw [nkey_at hy] at this; exact this) (fun j y hj hy => by
      have := keys_lt hk j i hj ((List.getElem?_eq_some_iff.1 hy).1)
      rw [hkey, nkey_at hy] at this
      exact this)
    rw [p, q]
    refine ⟨rfl, ?_⟩
    cases n.leaf <;> simp
  | false =>
    obtain ⟨p, q⟩ := nfnd_cut n.leaf key n.keys i h.le (fun j y hj hy => by have := h.lo j hj; rw [nkey_at hy] at this; exact this) (fun j y hj hy => by
      have hjl := (List.getElem?_eq_some_iff.1 hy).1
      have h1 := h.hi j hj hjl
      rw [nkey_at hy] at h1
      refine ⟨h1, ?_⟩
      apply Bool.eq_false_iff.2
      intro e
      have e' : y = key := by simpa using e
      by_cases hji : j = i
      · subst hji
        rw [nkey_at hy, e', decide_eq_true hjl] at hb
        simp at hb
      · have h2 := keys_lt hk j i (by omega) hjl
        rw [nkey_at hy, e'] at h2
        have h3 := h.hi i (Nat.le_refl _) (by omega)
        rw [h2] at h3; cases h3)
    rw [p, q]
    simp

set_option maxRecDepth 100000 in
set_option maxHeartbeats 2000000 in
theorem pfind9_any (w : World) (kv vv dv : Value) (n : Nd) (key : Str) (h : RdN w kv vv dv n) (hf : nfit n) :
    Calls Try.prog 50 #[nv n kv vv dv, st key] w fun e w' => e = .returned (.tuple #[.int .i64 (nfind n key), .bool (nhas n key), .int .i64 (ncheck n)]) ∧ Below w.heap.size w w' := by
  obtain ⟨W, hW, D, bW, sW⟩ := boxedN w #[.bool n.leaf, kv, vv, dv] 83
  replace h := h.to bW
  have KC := hide (pcheck9_any W kv vv dv n h hf)
  have HN := hide (fun w1 (b : Below W.heap.size W w1) => h.to b)
  obtain ⟨D4, _⟩ := cells4 D
  have HD : Hid (∀ w1, Below W.heap.size W w1 → w1.cell? ⟨w.heap.size, 0, none⟩ = some (.bool n.leaf) ∧ w1.cell? ⟨w.heap.size, 1, none⟩ = some kv ∧ w1.cell? ⟨w.heap.size, 2, none⟩ = some vv ∧ w1.cell? ⟨w.heap.size, 3, none⟩ = some dv) := fun w1 b =>
    ⟨(b.cell (p := ⟨w.heap.size, 0, none⟩) (cell_lt D4.1)).trans D4.1, (b.cell (p := ⟨w.heap.size, 1, none⟩) (cell_lt D4.2.1)).trans D4.2.1, (b.cell (p := ⟨w.heap.size, 2, none⟩) (cell_lt D4.2.2.1)).trans D4.2.2.1, (b.cell (p := ⟨w.heap.size, 3, none⟩) (cell_lt D4.2.2.2)).trans D4.2.2.2⟩
  have HE : Hid (∀ w1, Below W.heap.size W w1 → Below w.heap.size w w1) := fun w1 b => bW.trans (b.mono bW.size)
  obtain ⟨D0, D1, D2, D3⟩ := D4
  obtain ⟨a, c, a', c', a'', c'', rfl, rfl, rfl⟩ := h.slices
  dsimp only [nv] at *
  clear h bW D hf
  rw [hW] at D0 D1 D2 D3
  generalize hlK : n.keys.length = lK at *
  generalize hlV : n.vals.length = lV at *
  generalize hlD : n.kids.length = lD at *
  generalize hleaf : n.leaf = leaf at *
  replace hlK := hide hlK
  replace hlV := hide hlV
  replace hlD := hide hlD
  replace hleaf := hide hleaf
  go_enter Try.func50, Try.ntmps50
  go_wp2_with fail
  rw [← hW]
  replace hW := hide hW
  clear D0 D1 D2 D3
  refine KC.out.mono ?_
  rintro e w1 ⟨rfl, b1⟩
  clear KC
  by_cases hz : ncheck n = 0
  · have hok := (ncheck_ok n).1 hz
    have hfind : Hid (nfind n key = nfnd n.leaf key n.keys ∧ nhas n key = nis key n.keys) := by
      show _ ∧ _
      unfold nfind nhas
      rw [if_pos hz, if_pos hz]
      exact ⟨rfl, rfl⟩
    have few : n.keys.length ≤ 1000 := by
      have h1 := nsz_ge n n.keys.length
      have h2 := hok.2.2.2.2
      unfold nsize at h2
      split at h2 <;> omega
    have KB := hide (pbs_any w1 (.slice a lK c) n key (HN.out w1 b1).keys hok.1 few)
    have LF := hide (fun (i : Nat) (hl : Low n key i) => low_find hl hok.1)
    obtain ⟨D0, D1, D2, D3⟩ := HD.out w1 b1
    have hzz := hide hz
    rw [hz]
    have B1 := hide (HE.out w1 b1)
    rw [hlK.out] at few
    clear hz hok b1
    go_wp2_with fail
    refine KB.out.mono ?_
    rintro e w2 ⟨i, rfl, lo, rfl⟩
    clear KB
    obtain ⟨f1, f2⟩ := LF.out i lo
    have hib : i < 9223372036854775807 := by have := lo.le; rw [hlK.out] at this; omega
    rw [hlK.out] at f1 f2 ⊢
    rw [hleaf.out] at f2
    generalize hbb : (decide (i < lK) && nkey n i == key) = BB at *
    replace hbb := hide hbb
    have F1 : Hid (nhas n key = BB) := by show _ = _; rw [hfind.out.2]; exact f1
    have F2 : Hid (nfind n key = if BB = true ∧ leaf = false then (i : Int) + 1 else (i : Int)) := by show _ = _; rw [hfind.out.1, hleaf.out]; exact f2
    clear f1 f2 lo hfind LF
    cases BB <;> cases leaf
    all_goals
      have g := F2.out
      simp at g
      replace g := hide g
      go_wp2
      go_ret3
      exact ⟨ret_ibi g.out.symm F1.out.symm hzz.out.symm, B1.out⟩
  · have hr : Hid (nfind n key = 0 ∧ nhas n key = false) := by
      show _ ∧ _
      unfold nfind nhas
      rw [if_neg hz, if_neg hz]
      exact ⟨rfl, rfl⟩
    obtain ⟨Z, hZ⟩ : ∃ Z, Z = ncheck n := ⟨_, rfl⟩
    rw [← hZ] at hz ⊢
    replace hZ := hide hZ
    have bb := hide (HE.out _ b1)
    clear b1
    go_wp2
    go_ret3
    exact ⟨ret_ibi hr.out.1.symm hr.out.2.symm hZ.out, bb.out⟩

end Go.Proofs.Ytgmkknonnidgaaa
