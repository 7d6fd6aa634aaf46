/-
  Lists of strings and of ints that the call owns; transeptplain's copies of them and whether they are the same; the page's copies.
-/
import Derived.Laws.AppendOwnNone
import Derived.BigQuiet
import Derived.Test.YtjkpldmmijfebaaNBase
namespace Go.Proofs.Ytjkpldmmijfebaa
open Go.RowKit
set_option linter.unusedVariables false

/-- a list of one cell each, in a block from B on, that the call may write -/
abbrev OwnT (B : Nat) (w : World) (v : Value) (l : List Str) : Prop := w.ownsRow B 9 1 v l.length (l.map st)
abbrev OwnJ (B : Nat) (w : World) (v : Value) (l : List Int) : Prop := w.ownsRow B 3 1 v l.length (l.map (Value.int .i64))
abbrev SStrs : Shp (List Str) := Shp.list 9 Shp.str
abbrev SIntL : Shp (List Int) := Shp.list 3 (Shp.int .i64)
theorem own_one {α : Type} {T : Nat} {s : Shp α} {f : α → Value} (hs : ∀ (w : World) x, s.own [] w [f x] x) {B : Nat} {w : World} {v : Value} {l : List α} (h : w.ownsRow B T s.n v l.length (l.map f)) : Own (Shp.list T s) B w [v] l := by
  have each : ∀ l : List α, ownEach s w [] (l.map f) l := by
    intro l
    induction l with
    | nil => exact ⟨rfl, rfl⟩
    | cons x r ih => exact ⟨[], [], [f x], r.map f, rfl, rfl, hs w x, ih⟩
  refine ⟨v.ownBlock.toList, ⟨v, _, [], rfl, ?_, each l, by simp⟩, ?_, fun b hb => (World.ownsRow.lt h b (by simpa using hb)).1⟩
  · exact rows_base h fun _ _ => Nat.zero_le _
  · cases v.ownBlock <;> simp
theorem OwnT.own {B : Nat} {w : World} {v : Value} {l : List Str} (h : OwnT B w v l) : Own SStrs B w [v] l := own_one (s := Shp.str) (f := st) (fun _ _ => ⟨rfl, rfl⟩) h
theorem OwnJ.own {B : Nat} {w : World} {v : Value} {l : List Int} (h : OwnJ B w v l) : Own SIntL B w [v] l := own_one (s := Shp.int .i64) (f := Value.int .i64) (fun _ _ => ⟨rfl, rfl⟩) h
theorem OwnT.rd {B : Nat} {w : World} {v : Value} {l : List Str} (h : OwnT B w v l) : RdT w v l := h.own.rdS
theorem OwnJ.rd {B : Nat} {w : World} {v : Value} {l : List Int} (h : OwnJ B w v l) : RdI w v l := h.own.rdS
theorem infoT : (Try.prog.info? 9).map (fun i => (i.zero, i.size, i.bytes)) = some (some (.string ⟨#[]⟩), 1, 16) := by kernel_rfl
theorem infoJ : (Try.prog.info? 3).map (fun i => (i.zero, i.size, i.bytes)) = some (some (.int .i64 0), 1, 8) := by kernel_rfl
theorem one_st (l : List Str) : ∀ u ∈ l.map st, u.oneCell' = true := by
  intro u hu
  obtain ⟨x, _, rfl⟩ := List.mem_map.1 hu
  rfl
theorem one_int (l : List Int) : ∀ u ∈ l.map (Value.int .i64), u.oneCell' = true := by
  intro u hu
  obtain ⟨x, _, rfl⟩ := List.mem_map.1 hu
  rfl

set_option maxRecDepth 100000 in
set_option maxHeartbeats 400000 in
theorem copyStr_any (w : World) (v : Value) (l : List Str) (h : RdT w v l) (hm : l.length * 16 ≤ 140737488355328) :
    Calls Try.prog 19 #[v] w fun e w' => ∃ v', e = .returned v' ∧ OwnT w.heap.size w' v' l ∧ Below w.heap.size w w' := by
  obtain ⟨a, c, rfl, l1, m1, n1, r1⟩ := id h
  obtain ⟨i0, hi, hz0, hz1, hz2⟩ := info_parts infoT
  cases a with
  | none =>
    have : l = [] := by
      rcases r1 with r1 | ⟨b, off, h, _⟩
      · exact r1
      · cases h
    subst this
    obtain rfl : c = 0 := n1 rfl
    go_enter Try.func19, Try.ntmps19
    go_wp2_with (at_builtin; refine wpList_append_own_none rfl _ _ 22 rfl w.heap.size 9 i0 1 Try.underlying22 hi (.slice none 0 0) 0 [] rfl (World.ownsRow_nil _ _ _ _) rfl ?_)
    go_ret
    exact ⟨_, rfl, World.ownsRow_nil _ _ _ _, Below.refl _ _⟩
  | some ad =>
    have n2 : ∀ j u, (l.map st)[j]? = some u → w.cell? (ad.add j) = some u := by
      intro j u hj
      rw [List.getElem?_map] at hj
      obtain ⟨x, hx, rfl⟩ := Option.map_eq_some_iff.1 hj
      obtain ⟨b, off, e, h1⟩ := h.strAt hx
      obtain rfl : ad = ⟨b, off, none⟩ := by simpa using e
      have ea : (⟨b, off, none⟩ : Addr).add j = ⟨b, off + j, none⟩ := by
        by_cases h0 : j = 0
        · subst h0; simp [Addr.add]
        · simp [Addr.add, h0]
      rw [ea]
      exact h1
    have n1 : (l.map st).length = l.length * 1 := by simp
    have n3 := one_st l
    have n4 : 0 + l.length ≤ maxLen := by rw [show maxLen = 9223372036854775807 from rfl]; omega
    have n5 : (0 + l.length) * 16 ≤ 140737488355328 := by omega
    have N2 := hide n2
    clear n2 r1 h
    go_enter Try.func19, Try.ntmps19
    go_wp2_with (at_builtin; refine wpList_append_own _ rfl _ _ 22 rfl w.heap.size 9 i0 (.string ⟨#[]⟩) 1 16 Try.underlying22 hi hz0 hz1 hz2 rfl (by decide) (.slice none 0 0) 0 [] rfl (World.ownsRow_nil _ _ _ _) ad l.length c (l.map st) rfl n1 N2.out n3 n4 n5 (Nat.le_refl _) ?_; intro v1 w3 hown1 hgrow1 hnil1)
    go_ret
    refine ⟨_, rfl, ?_, (Below.refl _ _).grown hgrow1 (Nat.le_refl _) (fun k h => by cases h)⟩
    simpa using hown1

set_option maxRecDepth 100000 in
set_option maxHeartbeats 400000 in
theorem copyInt_any (w : World) (v : Value) (l : List Int) (h : RdI w v l) (hm : l.length * 8 ≤ 140737488355328) :
    Calls Try.prog 20 #[v] w fun e w' => ∃ v', e = .returned v' ∧ OwnJ w.heap.size w' v' l ∧ Below w.heap.size w w' := by
  obtain ⟨a, c, rfl, l1, m1, n1, r1⟩ := id h
  obtain ⟨i0, hi, hz0, hz1, hz2⟩ := info_parts infoJ
  cases a with
  | none =>
    have : l = [] := by
      rcases r1 with r1 | ⟨b, off, h, _⟩
      · exact r1
      · cases h
    subst this
    obtain rfl : c = 0 := n1 rfl
    go_enter Try.func20, Try.ntmps20
    go_wp2_with (at_builtin; refine wpList_append_own_none rfl _ _ 23 rfl w.heap.size 3 i0 1 Try.underlying23 hi (.slice none 0 0) 0 [] rfl (World.ownsRow_nil _ _ _ _) rfl ?_)
    go_ret
    exact ⟨_, rfl, World.ownsRow_nil _ _ _ _, Below.refl _ _⟩
  | some ad =>
    have n2 : ∀ j u, (l.map (Value.int .i64))[j]? = some u → w.cell? (ad.add j) = some u := by
      intro j u hj
      rw [List.getElem?_map] at hj
      obtain ⟨x, hx, rfl⟩ := Option.map_eq_some_iff.1 hj
      obtain ⟨b, off, e, h1⟩ := h.intAt hx
      obtain rfl : ad = ⟨b, off, none⟩ := by simpa using e
      have ea : (⟨b, off, none⟩ : Addr).add j = ⟨b, off + j, none⟩ := by
        by_cases h0 : j = 0
        · subst h0; simp [Addr.add]
        · simp [Addr.add, h0]
      rw [ea]
      exact h1
    have n1 : (l.map (Value.int .i64)).length = l.length * 1 := by simp
    have n3 := one_int l
    have n4 : 0 + l.length ≤ maxLen := by rw [show maxLen = 9223372036854775807 from rfl]; omega
    have n5 : (0 + l.length) * 8 ≤ 140737488355328 := by omega
    have N2 := hide n2
    clear n2 r1 h
    go_enter Try.func20, Try.ntmps20
    go_wp2_with (at_builtin; refine wpList_append_own _ rfl _ _ 23 rfl w.heap.size 3 i0 (.int .i64 0) 1 8 Try.underlying23 hi hz0 hz1 hz2 rfl (by decide) (.slice none 0 0) 0 [] rfl (World.ownsRow_nil _ _ _ _) ad l.length c (l.map (Value.int .i64)) rfl n1 N2.out n3 n4 n5 (Nat.le_refl _) ?_; intro v1 w3 hown1 hgrow1 hnil1)
    go_ret
    refine ⟨_, rfl, ?_, (Below.refl _ _).grown hgrow1 (Nat.le_refl _) (fun k h => by cases h)⟩
    simpa using hown1

set_option maxRecDepth 100000 in
set_option maxHeartbeats 400000 in
theorem rstrings_any (w : World) (v : Value) (l : List Str) (h : RdT w v l) (hm : l.length * 16 ≤ 140737488355328) :
    Calls Try.prog 29 #[v] w fun e w' => ∃ v', e = .returned v' ∧ OwnT w.heap.size w' v' l ∧ Below w.heap.size w w' := by
  obtain ⟨a, c, rfl, l1, m1, n1, r1⟩ := id h
  obtain ⟨i0, hi, hz0, hz1, hz2⟩ := info_parts infoT
  cases a with
  | none =>
    have : l = [] := by
      rcases r1 with r1 | ⟨b, off, h, _⟩
      · exact r1
      · cases h
    subst this
    obtain rfl : c = 0 := n1 rfl
    go_enter Try.func29, Try.ntmps29
    go_wp2_with (at_builtin; refine wpList_append_own_none rfl _ _ 22 rfl w.heap.size 9 i0 1 Try.underlying22 hi (.slice none 0 0) 0 [] rfl (World.ownsRow_nil _ _ _ _) rfl ?_)
    go_ret
    exact ⟨_, rfl, World.ownsRow_nil _ _ _ _, Below.refl _ _⟩
  | some ad =>
    have n2 : ∀ j u, (l.map st)[j]? = some u → w.cell? (ad.add j) = some u := by
      intro j u hj
      rw [List.getElem?_map] at hj
      obtain ⟨x, hx, rfl⟩ := Option.map_eq_some_iff.1 hj
      obtain ⟨b, off, e, h1⟩ := h.strAt hx
      obtain rfl : ad = ⟨b, off, none⟩ := by simpa using e
      have ea : (⟨b, off, none⟩ : Addr).add j = ⟨b, off + j, none⟩ := by
        by_cases h0 : j = 0
        · subst h0; simp [Addr.add]
        · simp [Addr.add, h0]
      rw [ea]
      exact h1
    have n1 : (l.map st).length = l.length * 1 := by simp
    have n3 := one_st l
    have n4 : 0 + l.length ≤ maxLen := by rw [show maxLen = 9223372036854775807 from rfl]; omega
    have n5 : (0 + l.length) * 16 ≤ 140737488355328 := by omega
    have N2 := hide n2
    clear n2 r1 h
    go_enter Try.func29, Try.ntmps29
    go_wp2_with (at_builtin; refine wpList_append_own _ rfl _ _ 22 rfl w.heap.size 9 i0 (.string ⟨#[]⟩) 1 16 Try.underlying22 hi hz0 hz1 hz2 rfl (by decide) (.slice none 0 0) 0 [] rfl (World.ownsRow_nil _ _ _ _) ad l.length c (l.map st) rfl n1 N2.out n3 n4 n5 (Nat.le_refl _) ?_; intro v1 w3 hown1 hgrow1 hnil1)
    go_ret
    refine ⟨_, rfl, ?_, (Below.refl _ _).grown hgrow1 (Nat.le_refl _) (fun k h => by cases h)⟩
    simpa using hown1

set_option maxRecDepth 100000 in
set_option maxHeartbeats 400000 in
theorem rints_any (w : World) (v : Value) (l : List Int) (h : RdI w v l) (hm : l.length * 8 ≤ 140737488355328) :
    Calls Try.prog 30 #[v] w fun e w' => ∃ v', e = .returned v' ∧ OwnJ w.heap.size w' v' l ∧ Below w.heap.size w w' := by
  obtain ⟨a, c, rfl, l1, m1, n1, r1⟩ := id h
  obtain ⟨i0, hi, hz0, hz1, hz2⟩ := info_parts infoJ
  cases a with
  | none =>
    have : l = [] := by
      rcases r1 with r1 | ⟨b, off, h, _⟩
      · exact r1
      · cases h
    subst this
    obtain rfl : c = 0 := n1 rfl
    go_enter Try.func30, Try.ntmps30
    go_wp2_with (at_builtin; refine wpList_append_own_none rfl _ _ 23 rfl w.heap.size 3 i0 1 Try.underlying23 hi (.slice none 0 0) 0 [] rfl (World.ownsRow_nil _ _ _ _) rfl ?_)
    go_ret
    exact ⟨_, rfl, World.ownsRow_nil _ _ _ _, Below.refl _ _⟩
  | some ad =>
    have n2 : ∀ j u, (l.map (Value.int .i64))[j]? = some u → w.cell? (ad.add j) = some u := by
      intro j u hj
      rw [List.getElem?_map] at hj
      obtain ⟨x, hx, rfl⟩ := Option.map_eq_some_iff.1 hj
      obtain ⟨b, off, e, h1⟩ := h.intAt hx
      obtain rfl : ad = ⟨b, off, none⟩ := by simpa using e
      have ea : (⟨b, off, none⟩ : Addr).add j = ⟨b, off + j, none⟩ := by
        by_cases h0 : j = 0
        · subst h0; simp [Addr.add]
        · simp [Addr.add, h0]
      rw [ea]
      exact h1
    have n1 : (l.map (Value.int .i64)).length = l.length * 1 := by simp
    have n3 := one_int l
    have n4 : 0 + l.length ≤ maxLen := by rw [show maxLen = 9223372036854775807 from rfl]; omega
    have n5 : (0 + l.length) * 8 ≤ 140737488355328 := by omega
    have N2 := hide n2
    clear n2 r1 h
    go_enter Try.func30, Try.ntmps30
    go_wp2_with (at_builtin; refine wpList_append_own _ rfl _ _ 23 rfl w.heap.size 3 i0 (.int .i64 0) 1 8 Try.underlying23 hi hz0 hz1 hz2 rfl (by decide) (.slice none 0 0) 0 [] rfl (World.ownsRow_nil _ _ _ _) ad l.length c (l.map (Value.int .i64)) rfl n1 N2.out n3 n4 n5 (Nat.le_refl _) ?_; intro v1 w3 hown1 hgrow1 hnil1)
    go_ret
    refine ⟨_, rfl, ?_, (Below.refl _ _).grown hgrow1 (Nat.le_refl _) (fun k h => by cases h)⟩
    simpa using hown1

set_option maxRecDepth 100000 in
set_option maxHeartbeats 1000000 in
theorem sameStr_any (w : World) (v1 v2 : Value) (l1 l2 : List Str) (h1 : RdT w v1 l1) (h2 : RdT w v2 l2) :
    Calls Try.prog 22 #[v1, v2] w fun e w' => e = .returned (.bool (decide (l1 = l2))) ∧ ∃ n, w' = w.drewN n := by
  have b1 := h1.bd
  have b2 := h2.bd
  obtain ⟨a1, c1, rfl⟩ := h1.slice
  obtain ⟨a2, c2, rfl⟩ := h2.slice
  obtain ⟨R, hR⟩ : ∃ R, R = decide (l1 = l2) := ⟨_, rfl⟩
  rw [← hR]
  replace hR := hide hR
  by_cases hl : l1.length = l2.length
  · have HL := hide hl
    have hne : ((l1.length : Int) != (l2.length : Int)) = false := by simp; omega
    go_enter Try.func22, Try.ntmps22
    go_wp2
    clear hl hne
    go_loopw [5] (fun i wr => ∃ k n : Nat, k ≤ l1.length ∧ i = .int .i64 k ∧ Hid (l1.take k = l2.take k) ∧ Hid (wr = w.drewN n)) (fun i _ => l1.length - (intOf i).toNat)
    case atStart => exact ⟨0, 0, Nat.zero_le _, rfl, hide rfl, hide rfl⟩
    case round =>
      obtain ⟨k, n, hk, rfl, ht, hw⟩ := hrel
      by_cases hlt : k < l1.length
      · have hq : (k : Int) < (l1.length : Int) := by omega
        have hq2 : (k : Int) < (l2.length : Int) := by have := HL.out; omega
        obtain ⟨x, hx⟩ := some_el l1 hlt
        obtain ⟨y, hy⟩ := some_el l2 (k := k) (by have := HL.out; omega)
        have bd := below_drewN' w n w.heap.size
        rw [← hw.out] at bd
        obtain ⟨p1, o1, rfl, x1⟩ := (h1.to0 bd).strAt hx
        obtain ⟨p2, o2, rfl, y1⟩ := (h2.to0 bd).strAt hy
        have e1 := hide (show l1.take (k + 1) = l1.take k ++ [x] by rw [List.take_add_one, hx]; rfl)
        have e2 := hide (show l2.take (k + 1) = l2.take k ++ [y] by rw [List.take_add_one, hy]; rfl)
        have HX := hide (And.intro hx hy)
        clear bd hx hy h1 h2
        by_cases c1 : x = y
        · subst c1
          go_wp2
          go_region
          go_wp2
          go_roundw
          case rel => exact ⟨k + 1, n + 1, by omega, by go_num, hide (by rw [e1.out, e2.out, ht.out]), hide (by rw [hw.out]; rfl)⟩
          case measure => simp [intOf]; omega
        · have c1' : (x == y) = false := by simpa using c1
          have hr : Hid (R = false) := by show _ = _; rw [hR.out]; apply decide_eq_false; rintro rfl; have := HX.out; rw [this.1] at this; simp at this; exact c1 this
          go_wp2
          go_region
          go_wp2
          go_ret
          exact ⟨ret_bool hr.out.symm, n + 1, by rw [hw.out]; rfl⟩
      · have hq : ¬ (k : Int) < (l1.length : Int) := by omega
        have hr : Hid (R = true) := by
          show _ = _
          have := ht.out
          rw [List.take_of_length_le (by omega), List.take_of_length_le (by have := HL.out; omega)] at this
          rw [hR.out, this]; simp
        go_wp2
        go_ret
        exact ⟨ret_bool hr.out.symm, n, hw.out⟩
  · have hr : Hid (R = false) := by show _ = _; rw [hR.out]; apply decide_eq_false; rintro rfl; exact hl rfl
    have hne : ((l1.length : Int) != (l2.length : Int)) = true := by simp; omega
    go_enter Try.func22, Try.ntmps22
    go_wp2
    go_ret
    exact ⟨ret_bool hr.out.symm, 0, rfl⟩

set_option maxRecDepth 100000 in
set_option maxHeartbeats 1000000 in
theorem sameInt_any (w : World) (v1 v2 : Value) (l1 l2 : List Int) (h1 : RdI w v1 l1) (h2 : RdI w v2 l2) :
    Calls Try.prog 23 #[v1, v2] w fun e w' => e = .returned (.bool (decide (l1 = l2))) ∧ ∃ n, w' = w.drewN n := by
  have b1 := h1.bd
  have b2 := h2.bd
  obtain ⟨a1, c1, rfl⟩ := h1.slice
  obtain ⟨a2, c2, rfl⟩ := h2.slice
  obtain ⟨R, hR⟩ : ∃ R, R = decide (l1 = l2) := ⟨_, rfl⟩
  rw [← hR]
  replace hR := hide hR
  by_cases hl : l1.length = l2.length
  · have HL := hide hl
    have hne : ((l1.length : Int) != (l2.length : Int)) = false := by simp; omega
    go_enter Try.func23, Try.ntmps23
    go_wp2
    clear hl hne
    go_loopw [5] (fun i wr => ∃ k n : Nat, k ≤ l1.length ∧ i = .int .i64 k ∧ Hid (l1.take k = l2.take k) ∧ Hid (wr = w.drewN n)) (fun i _ => l1.length - (intOf i).toNat)
    case atStart => exact ⟨0, 0, Nat.zero_le _, rfl, hide rfl, hide rfl⟩
    case round =>
      obtain ⟨k, n, hk, rfl, ht, hw⟩ := hrel
      by_cases hlt : k < l1.length
      · have hq : (k : Int) < (l1.length : Int) := by omega
        have hq2 : (k : Int) < (l2.length : Int) := by have := HL.out; omega
        obtain ⟨x, hx⟩ := some_el l1 hlt
        obtain ⟨y, hy⟩ := some_el l2 (k := k) (by have := HL.out; omega)
        have bd := below_drewN' w n w.heap.size
        rw [← hw.out] at bd
        obtain ⟨p1, o1, rfl, x1⟩ := (h1.to0 bd).intAt hx
        obtain ⟨p2, o2, rfl, y1⟩ := (h2.to0 bd).intAt hy
        have e1 := hide (show l1.take (k + 1) = l1.take k ++ [x] by rw [List.take_add_one, hx]; rfl)
        have e2 := hide (show l2.take (k + 1) = l2.take k ++ [y] by rw [List.take_add_one, hy]; rfl)
        have HX := hide (And.intro hx hy)
        clear bd hx hy h1 h2
        by_cases c1 : x = y
        · subst c1
          go_wp2
          go_region
          go_wp2
          go_roundw
          case rel => exact ⟨k + 1, n + 1, by omega, by go_num, hide (by rw [e1.out, e2.out, ht.out]), hide (by rw [hw.out]; rfl)⟩
          case measure => simp [intOf]; omega
        · have c1' : (x == y) = false := by simpa using c1
          have hr : Hid (R = false) := by show _ = _; rw [hR.out]; apply decide_eq_false; rintro rfl; have := HX.out; rw [this.1] at this; simp at this; exact c1 this
          go_wp2
          go_region
          go_wp2
          go_ret
          exact ⟨ret_bool hr.out.symm, n + 1, by rw [hw.out]; rfl⟩
      · have hq : ¬ (k : Int) < (l1.length : Int) := by omega
        have hr : Hid (R = true) := by
          show _ = _
          have := ht.out
          rw [List.take_of_length_le (by omega), List.take_of_length_le (by have := HL.out; omega)] at this
          rw [hR.out, this]; simp
        go_wp2
        go_ret
        exact ⟨ret_bool hr.out.symm, n, hw.out⟩
  · have hr : Hid (R = false) := by show _ = _; rw [hR.out]; apply decide_eq_false; rintro rfl; exact hl rfl
    have hne : ((l1.length : Int) != (l2.length : Int)) = true := by simp; omega
    go_enter Try.func23, Try.ntmps23
    go_wp2
    go_ret
    exact ⟨ret_bool hr.out.symm, 0, rfl⟩

end Go.Proofs.Ytjkpldmmijfebaa
