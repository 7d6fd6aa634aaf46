/-
  The program's small functions of nodes: keysMayBe, countsMayBe, noPage, what finds values that are too long and pages that are none.
-/
import Derived.Deep.QuietTactic
import Derived.BigQuiet
import Derived.Laws.Cover1
import Derived.Test.YtgmkknonnidgaaaNCheckR
namespace Go.Proofs.Ytgmkknonnidgaaa
open Go.RowKit
set_option linter.unusedVariables false

theorem ieq_t {a b : Int} (h : a = b) : (a == b) = true := by simp [h]
theorem ieq_f {a b : Int} (h : a ≠ b) : (a == b) = false := by simp [h]

set_option maxRecDepth 100000 in
set_option maxHeartbeats 2000000 in
theorem pkeys_any (w : World) (v : Value) (N : Nd) (h : RdT w v N.keys) :
    Calls Try.prog 84 #[v] w fun e w' => e = .returned (.bool (decide (nkeys N N.keys.length))) ∧ w = w' := by
  have lk := h.bd
  obtain ⟨a, c, rfl⟩ := h.slice
  obtain ⟨keys, hkeys⟩ : ∃ l, l = N.keys := ⟨_, rfl⟩
  rw [← hkeys] at h lk ⊢
  obtain ⟨R, hR⟩ : ∃ R, R = decide (nkeys N keys.length) := ⟨_, rfl⟩
  rw [← hR]
  replace hR := hide hR
  have HH := hide h
  replace hkeys := hide hkeys
  clear h
  go_enter Try.func84, Try.ntmps84
  go_wp2
  go_loopw [7] (fun i wr => ∃ k : Nat, k ≤ keys.length ∧ i = .int .i64 k ∧ w = wr ∧ Hid (nkeys N k)) (fun i _ => keys.length - (intOf i).toNat)
  case atStart => exact ⟨0, Nat.zero_le _, rfl, rfl, hide (fun k hk => by omega)⟩
  case round =>
    obtain ⟨k, hk, rfl, rfl, hb⟩ := hrel
    by_cases hlt : k < keys.length
    · have hq : (k : Int) < (keys.length : Int) := by omega
      obtain ⟨x, hx⟩ := some_el keys hlt
      have hnk : Hid (nkey N k = x) := by show _ = _; unfold nkey; rw [← hkeys.out, hx]; rfl
      have hbad : Hid (¬ nkOk N k → R = false) := fun hn => by rw [hR.out]; exact decide_eq_false fun hh => hn (hh k hlt)
      obtain ⟨b, off, rfl, hc1⟩ := HH.out.strAt hx
      replace hx := hide hx
      by_cases c1 : (x.length : Int) < 1
      · have g1 : decide ((x.length : Int) < 1) = true := decide_eq_true c1
        have hr : Hid (R = false) := hbad.out fun hn => by have := hn.1; rw [hnk.out] at this; omega
        go_wp2
        go_ret
        exact ⟨ret_bool hr.out.symm, rfl⟩
      have g1 : decide ((x.length : Int) < 1) = false := decide_eq_false c1
      by_cases c2 : (32 : Int) < (x.length : Int)
      · have g2 : decide ((32 : Int) < (x.length : Int)) = true := decide_eq_true c2
        have hr : Hid (R = false) := hbad.out fun hn => by have := hn.2.1; rw [hnk.out] at this; omega
        go_wp2
        go_ret
        exact ⟨ret_bool hr.out.symm, rfl⟩
      have g2 : decide ((32 : Int) < (x.length : Int)) = false := decide_eq_false c2
      by_cases c3 : k = 0
      · have g3 : decide (0 < k) = false := decide_eq_false (by omega)
        have hr : Hid (nkeys N (k + 1)) := (nkeys_succ N k).2 ⟨hb.out, by rw [nkOk, hnk.out]; exact ⟨by omega, by omega, fun h => by omega⟩⟩
        replace c3 := hide c3
        go_wp2
        go_roundw
        case rel => exact ⟨k + 1, by omega, by go_num, trivial, hr⟩
        case measure => simp [intOf]; omega
      obtain ⟨j, hj⟩ : ∃ j, k = j + 1 := ⟨k - 1, by omega⟩
      have g3 : decide (0 < k) = true := decide_eq_true (by omega)
      have hj1 : (k : Int) - 1 = (j : Int) := by omega
      have hj2 : (j : Int) < (keys.length : Int) := by omega
      have hj3 : IntKind.i64.wrap (j : Int) = (j : Int) := IntWalk.i64_in _ (by omega)
      obtain ⟨y, hy⟩ := some_el keys (k := j) (by omega)
      have hny : Hid (nkey N j = y) := by show _ = _; unfold nkey; rw [← hkeys.out, hy]; rfl
      obtain ⟨b', off', e, hc0⟩ := HH.out.strAt hy
      simp only [Option.some.injEq, Addr.mk.injEq, and_true] at e
      obtain ⟨rfl, rfl⟩ := e
      replace hy := hide hy
      have hj' : Hid (k - 1 = j) := by show _ = _; omega
      replace hj := hide hj
      by_cases c4 : slt y x = true
      · have e1 : Op.bytesLess x y = false := slt_asym c4
        have e2 : (x == y) = false := by
          apply Bool.eq_false_iff.2
          intro e
          have : x = y := by simpa using e
          subst this; rw [slt_irr] at c4; cases c4
        have hr : Hid (nkeys N (k + 1)) := (nkeys_succ N k).2 ⟨hb.out, by rw [nkOk, hnk.out, hj'.out, hny.out]; exact ⟨by omega, by omega, fun h => c4⟩⟩
        clear c4
        go_wp2
        go_roundw
        case rel => exact ⟨k + 1, by omega, by go_num, trivial, hr⟩
        case measure => simp [intOf]; omega
      · have hr : Hid (R = false) := hbad.out fun hn => by have := hn.2.2 (by omega); rw [hnk.out, hj'.out, hny.out] at this; exact c4 this
        have hle : (Op.bytesLess x y || x == y) = true := by rw [sle_iff]; simpa using c4
        clear c4
        cases e1 : Op.bytesLess x y with
        | true =>
          clear hle
          go_wp2
          go_ret
          exact ⟨ret_bool hr.out.symm, rfl⟩
        | false =>
          have e2 : (x == y) = true := by simpa [e1] using hle
          clear hle
          go_wp2
          go_ret
          exact ⟨ret_bool hr.out.symm, rfl⟩
    · have hq : ¬ (k : Int) < (keys.length : Int) := by omega
      obtain rfl : k = keys.length := by omega
      have hr : Hid (R = true) := by show _ = _; rw [hR.out]; exact decide_eq_true hb.out
      go_wp2
      go_ret
      exact ⟨ret_bool hr.out.symm, rfl⟩

set_option maxRecDepth 100000 in
set_option maxHeartbeats 1000000 in
theorem pcounts_any (w : World) (kv vv dv : Value) (n : Nd) (h : RdN w kv vv dv n) :
    Calls Try.prog 85 #[nv n kv vv dv] w fun e w' => e = .returned (.bool (decide (ncount n))) ∧ Below w.heap.size w w' := by
  have lk := h.keys.bd
  have lv := h.vals.bd
  have ld := h.kids.bd
  obtain ⟨a, c, a', c', a'', c'', rfl, rfl, rfl⟩ := h.slices
  obtain ⟨leaf, keys, vals, kids⟩ := n
  dsimp only [nv] at *
  obtain ⟨W, hW, D, bW, sW⟩ := boxedN w #[.bool leaf, .slice a keys.length c, .slice a' vals.length c', .slice a'' kids.length c''] 83
  obtain ⟨⟨D0, D1, D2, D3⟩, _⟩ := cells4 D
  have HB := hide bW
  clear bW D h
  rw [hW] at D0 D1 D2 D3
  rw [hW] at HB
  clear hW sW
  cases leaf with
  | true =>
    have hr : Hid (decide (ncount ⟨true, keys, vals, kids⟩) = (decide (vals.length = keys.length) && decide (kids.length = 0))) := by
      show _ = _; unfold ncount; simp
    rw [hr.out]
    clear hr
    by_cases c1 : vals.length = keys.length
    · have c1' : ((vals.length : Int) == (keys.length : Int)) = true := ieq_t (by omega)
      by_cases c2 : kids.length = 0
      · have c2' : ((kids.length : Int) == 0) = true := ieq_t (by omega)
        rw [decide_eq_true c1, decide_eq_true c2]
        clear c1 c2
        go_enter Try.func85, Try.ntmps85
        go_wp2
        go_ret
        exact ⟨rfl, HB.out⟩
      · have c2' : ((kids.length : Int) == 0) = false := ieq_f (by omega)
        rw [decide_eq_true c1, decide_eq_false c2]
        clear c1 c2
        go_enter Try.func85, Try.ntmps85
        go_wp2
        go_ret
        exact ⟨rfl, HB.out⟩
    · have c1' : ((vals.length : Int) == (keys.length : Int)) = false := ieq_f (by omega)
      rw [decide_eq_false c1]
      clear c1
      go_enter Try.func85, Try.ntmps85
      go_wp2
      go_ret
      exact ⟨rfl, HB.out⟩
  | false =>
    have hr : Hid (decide (ncount ⟨false, keys, vals, kids⟩) = (decide (vals.length = 0) && (decide (1 ≤ keys.length) && decide (kids.length = keys.length + 1)))) := by
      show _ = _; unfold ncount; simp
    rw [hr.out]
    clear hr
    by_cases c1 : vals.length = 0
    · have c1' : ((vals.length : Int) == 0) = true := ieq_t (by omega)
      by_cases c2 : 1 ≤ keys.length
      · have c2' : decide (0 < keys.length) = true := decide_eq_true (by omega)
        by_cases c3 : kids.length = keys.length + 1
        · have c3' : ((kids.length : Int) == wrap64 ((keys.length : Int) + 1)) = true := by rw [IntWalk.wrap64_in _ (by omega)]; exact ieq_t (by omega)
          rw [decide_eq_true c1, decide_eq_true c2, decide_eq_true c3]
          clear c1 c2 c3
          go_enter Try.func85, Try.ntmps85
          go_wp2
          go_ret
          exact ⟨rfl, HB.out⟩
        · have c3' : ((kids.length : Int) == wrap64 ((keys.length : Int) + 1)) = false := ieq_f (by unfold wrap64; omega)
          rw [decide_eq_true c1, decide_eq_true c2, decide_eq_false c3]
          clear c1 c2 c3
          go_enter Try.func85, Try.ntmps85
          go_wp2
          go_ret
          exact ⟨rfl, HB.out⟩
      · have c2' : decide (0 < keys.length) = false := decide_eq_false (by omega)
        rw [decide_eq_true c1, decide_eq_false c2]
        clear c1 c2
        go_enter Try.func85, Try.ntmps85
        go_wp2
        go_ret
        exact ⟨rfl, HB.out⟩
    · have c1' : ((vals.length : Int) == 0) = false := ieq_f (by omega)
      rw [decide_eq_false c1]
      clear c1
      go_enter Try.func85, Try.ntmps85
      go_wp2
      go_ret
      exact ⟨rfl, HB.out⟩

set_option maxRecDepth 100000 in
theorem pnopage_any (w : World) (x : Int) : Calls Try.prog 87 #[.int .i64 x] w fun e w' => e = .returned (.bool (decide (¬ (1 ≤ x ∧ x ≤ 65536)))) ∧ w = w' := by
  by_cases c1 : x < 1
  · have g1 : decide (x < 1) = true := decide_eq_true c1
    rw [decide_eq_true (show ¬ (1 ≤ x ∧ x ≤ 65536) by omega)]
    clear c1
    go_enter Try.func87, Try.ntmps87
    go_wp2
    go_ret
    exact ⟨rfl, rfl⟩
  · have g1 : decide (x < 1) = false := decide_eq_false c1
    by_cases c2 : 65536 < x
    · have g2 : decide (65536 < x) = true := decide_eq_true c2
      rw [decide_eq_true (show ¬ (1 ≤ x ∧ x ≤ 65536) by omega)]
      clear c1 c2
      go_enter Try.func87, Try.ntmps87
      go_wp2
      go_ret
      exact ⟨rfl, rfl⟩
    · have g2 : decide (65536 < x) = false := decide_eq_false c2
      rw [decide_eq_false (show ¬ ¬ (1 ≤ x ∧ x ≤ 65536) by omega)]
      clear c1 c2
      go_enter Try.func87, Try.ntmps87
      go_wp2
      go_ret
      exact ⟨rfl, rfl⟩

set_option maxRecDepth 100000 in
theorem plong9_any (w : World) (x : Str) : Calls Try.prog 83 #[st x] w fun e w' => e = .returned (.bool (decide (64 < x.length))) ∧ w = w' := by
  by_cases c1 : 64 < x.length
  · have g1 : decide ((64 : Int) < (x.length : Int)) = true := decide_eq_true (by omega)
    rw [decide_eq_true c1]
    clear c1
    go_enter Try.func83, Try.ntmps83
    go_wp2
    go_ret
    exact ⟨by first | rfl | (apply ret_bool; simpa using g1), rfl⟩
  · have g1 : decide ((64 : Int) < (x.length : Int)) = false := decide_eq_false (by omega)
    rw [decide_eq_false c1]
    clear c1
    go_enter Try.func83, Try.ntmps83
    go_wp2
    go_ret
    exact ⟨by first | rfl | (apply ret_bool; simpa using g1), rfl⟩

set_option maxRecDepth 100000 in
set_option maxHeartbeats 1000000 in
theorem pidxT_any (w : World) (v : Value) (N : Nd) (h : RdT w v N.vals) :
    Calls Try.prog 82 #[v, .func (.func 83) #[] #[]] w fun e w' => ∃ k : Int, e = .returned (.int .i64 k) ∧ (0 ≤ k ↔ ¬ nvals N N.vals.length) ∧ w = w' := by
  have lb := h.bd
  obtain ⟨a, c, rfl⟩ := h.slice
  obtain ⟨ws, hws⟩ : ∃ l, l = N.vals := ⟨_, rfl⟩
  rw [← hws] at h lb ⊢
  have HH := hide h
  replace hws := hide hws
  clear h
  go_enter Try.func82, Try.ntmps82
  go_wp2
  go_loopw [8] (fun i wr => ∃ k : Nat, k ≤ ws.length ∧ i = .int .i64 k ∧ w = wr ∧ Hid (nvals N k)) (fun i _ => ws.length - (intOf i).toNat)
  case atStart => exact ⟨0, Nat.zero_le _, rfl, rfl, hide (fun j hj => by omega)⟩
  case round =>
    obtain ⟨k, hk, rfl, rfl, hI⟩ := hrel
    by_cases hlt : k < ws.length
    · have hq : (k : Int) < (ws.length : Int) := by omega
      obtain ⟨x, hx⟩ := some_el ws hlt
      have hnx : Hid (N.vals[k]?.getD [] = x) := by show _ = _; rw [← hws.out, hx]; rfl
      obtain ⟨b1, o1, rfl, hc1⟩ := HH.out.strAt hx
      have KK := hide (plong9_any w x)
      replace hx := hide hx
      go_wp2_with fail
      refine KK.out.mono ?_
      rintro e w' ⟨rfl, rfl⟩
      clear KK
      by_cases hl : 64 < x.length
      · rw [decide_eq_true hl]
        have hE : Hid ((0 : Int) ≤ (k : Int) ↔ ¬ nvals N ws.length) := ⟨fun _ q => by have := q k hlt; rw [hnx.out] at this; omega, fun _ => by omega⟩
        replace hl := hide hl
        go_wp2
        go_ret
        exact ⟨_, rfl, hE.out, rfl⟩
      · rw [decide_eq_false hl]
        have hI' : Hid (nvals N (k + 1)) := (nvals_succ N k).2 ⟨hI.out, by rw [hnx.out]; omega⟩
        replace hl := hide hl
        go_wp2
        go_roundw
        case rel => exact ⟨k + 1, by omega, by go_num, trivial, hI'⟩
        case measure => simp [intOf]; omega
    · have hq : ¬ (k : Int) < (ws.length : Int) := by omega
      obtain rfl : k = ws.length := by omega
      have hE : Hid ((0 : Int) ≤ -1 ↔ ¬ nvals N ws.length) := ⟨fun q => by omega, fun q => absurd hI.out q⟩
      go_wp2
      go_ret
      exact ⟨_, rfl, hE.out, rfl⟩

set_option maxRecDepth 100000 in
theorem pconT_any (w : World) (v : Value) (N : Nd) (h : RdT w v N.vals) :
    Calls Try.prog 63 #[v, .func (.func 83) #[] #[]] w fun e w' => e = .returned (.bool (decide (¬ nvals N N.vals.length))) ∧ w = w' := by
  have KK := hide (pidxT_any w v N h)
  obtain ⟨a, c, rfl⟩ := h.slice
  obtain ⟨R, hR⟩ : ∃ R, R = decide (¬ nvals N N.vals.length) := ⟨_, rfl⟩
  rw [← hR]
  replace hR := hide hR
  clear h
  go_enter Try.func63, Try.ntmps63
  go_wp2_with fail
  refine KK.out.mono ?_
  rintro e w' ⟨k, rfl, hk, rfl⟩
  clear KK
  by_cases h0 : 0 ≤ k
  · have hE : Hid (R = true) := by show _ = _; rw [hR.out]; exact decide_eq_true (hk.1 h0)
    clear hk
    go_wp2
    go_ret
    exact ⟨ret_bool (by rw [hE.out]; try (first | rfl | simpa using h0)), rfl⟩
  · have hE : Hid (R = false) := by show _ = _; rw [hR.out]; exact decide_eq_false fun q => h0 (hk.2 q)
    clear hk
    go_wp2
    go_ret
    exact ⟨ret_bool (by rw [hE.out]; try (first | rfl | simpa using h0)), rfl⟩

set_option maxRecDepth 100000 in
set_option maxHeartbeats 1000000 in
theorem pidxI_any (w : World) (v : Value) (N : Nd) (h : RdI w v N.kids) :
    Calls Try.prog 103 #[v, .func (.func 87) #[] #[]] w fun e w' => ∃ k : Int, e = .returned (.int .i64 k) ∧ (0 ≤ k ↔ ¬ nkids N N.kids.length) ∧ w = w' := by
  have lb := h.bd
  obtain ⟨a, c, rfl⟩ := h.slice
  obtain ⟨ws, hws⟩ : ∃ l, l = N.kids := ⟨_, rfl⟩
  rw [← hws] at h lb ⊢
  have HH := hide h
  replace hws := hide hws
  clear h
  go_enter Try.func103, Try.ntmps103
  go_wp2
  go_loopw [8] (fun i wr => ∃ k : Nat, k ≤ ws.length ∧ i = .int .i64 k ∧ w = wr ∧ Hid (nkids N k)) (fun i _ => ws.length - (intOf i).toNat)
  case atStart => exact ⟨0, Nat.zero_le _, rfl, rfl, hide (fun j hj => by omega)⟩
  case round =>
    obtain ⟨k, hk, rfl, rfl, hI⟩ := hrel
    by_cases hlt : k < ws.length
    · have hq : (k : Int) < (ws.length : Int) := by omega
      obtain ⟨x, hx⟩ := some_el ws hlt
      have hnx : Hid (N.kids[k]?.getD 0 = x) := by show _ = _; rw [← hws.out, hx]; rfl
      obtain ⟨b1, o1, rfl, hc1⟩ := HH.out.intAt hx
      have KK := hide (pnopage_any w x)
      replace hx := hide hx
      go_wp2_with fail
      refine KK.out.mono ?_
      rintro e w' ⟨rfl, rfl⟩
      clear KK
      by_cases hl : (1 ≤ x ∧ x ≤ 65536)
      · rw [decide_eq_false (show ¬ ¬ (1 ≤ x ∧ x ≤ 65536) from fun q => q hl)]
        have hI' : Hid (nkids N (k + 1)) := (nkids_succ N k).2 ⟨hI.out, by rw [hnx.out]; exact hl⟩
        replace hl := hide hl
        go_wp2
        go_roundw
        case rel => exact ⟨k + 1, by omega, by go_num, trivial, hI'⟩
        case measure => simp [intOf]; omega
      · rw [decide_eq_true hl]
        have hE : Hid ((0 : Int) ≤ (k : Int) ↔ ¬ nkids N ws.length) := ⟨fun _ q => by have := q k hlt; rw [hnx.out] at this; exact hl this, fun _ => by omega⟩
        replace hl := hide hl
        go_wp2
        go_ret
        exact ⟨_, rfl, hE.out, rfl⟩
    · have hq : ¬ (k : Int) < (ws.length : Int) := by omega
      obtain rfl : k = ws.length := by omega
      have hE : Hid ((0 : Int) ≤ -1 ↔ ¬ nkids N ws.length) := ⟨fun q => by omega, fun q => absurd hI.out q⟩
      go_wp2
      go_ret
      exact ⟨_, rfl, hE.out, rfl⟩

set_option maxRecDepth 100000 in
theorem pconI_any (w : World) (v : Value) (N : Nd) (h : RdI w v N.kids) :
    Calls Try.prog 86 #[v, .func (.func 87) #[] #[]] w fun e w' => e = .returned (.bool (decide (¬ nkids N N.kids.length))) ∧ w = w' := by
  have KK := hide (pidxI_any w v N h)
  obtain ⟨a, c, rfl⟩ := h.slice
  obtain ⟨R, hR⟩ : ∃ R, R = decide (¬ nkids N N.kids.length) := ⟨_, rfl⟩
  rw [← hR]
  replace hR := hide hR
  clear h
  go_enter Try.func86, Try.ntmps86
  go_wp2_with fail
  refine KK.out.mono ?_
  rintro e w' ⟨k, rfl, hk, rfl⟩
  clear KK
  by_cases h0 : 0 ≤ k
  · have hE : Hid (R = true) := by show _ = _; rw [hR.out]; exact decide_eq_true (hk.1 h0)
    clear hk
    go_wp2
    go_ret
    exact ⟨ret_bool (by rw [hE.out]; try (first | rfl | simpa using h0)), rfl⟩
  · have hE : Hid (R = false) := by show _ = _; rw [hR.out]; exact decide_eq_false fun q => h0 (hk.2 q)
    clear hk
    go_wp2
    go_ret
    exact ⟨ret_bool (by rw [hE.out]; try (first | rfl | simpa using h0)), rfl⟩

end Go.Proofs.Ytgmkknonnidgaaa
