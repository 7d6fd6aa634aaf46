/-
  The program's halves of nodes: slices.Clone of strings and ints, leafOf, innerOf.
-/
import Derived.Lib.SliceRun
import Derived.Test.YtjkpldmmijfebaaNPD
namespace Go.Proofs.Ytjkpldmmijfebaa
open Go.RowKit
set_option linter.unusedVariables false
set_option linter.unusedSimpArgs false

set_option maxRecDepth 100000 in
set_option maxHeartbeats 400000 in
theorem pclT_any (w : World) (v : Value) (l : List Str) (h : RdT w v l) (hm : l.length * 16 ≤ 140737488355328) :
    Calls Try.prog 43 #[v] w fun e w' => ∃ a c, e = .returned (.slice a l.length c) ∧ OwnT w.heap.size w' (.slice a l.length c) l ∧ Below w.heap.size w w' := by
  obtain ⟨a, c, rfl, l1, m1, n1, r1⟩ := id h
  obtain ⟨i0, hi, hz0, hz1, hz2⟩ := info_parts infoT
  cases a with
  | none =>
    have : l = [] := by
      rcases r1 with r1 | ⟨b, off, h, _⟩
      · exact r1
      · cases h
    subst this
    obtain rfl : c = 0 := n1 rfl
    have hnil : (binOp .eql 22 (.slice none 0 0) (.slice none 0 0)).run Try.prog w = .ok (.bool true) w := Lib.run_eql_slice_nil w 22 9 _ 0 0 0 0 Try.underlying22
    go_enter Try.func43, Try.ntmps43
    go_wp2
    go_ret
    exact ⟨none, 0, rfl, World.ownsRow_nil _ _ _ _, Below.refl _ _⟩
  | some ad =>
    obtain ⟨X, hX⟩ : ∃ u, u = w.alloc (.cells #[] 9) := ⟨_, rfl⟩
    have oX : X.ownsRow w.heap.size 9 1 (.slice (some ⟨w.heap.size, 0, none⟩) 0 0) 0 [] := by
      rw [hX]
      have := World.ownsRow_lit (base := w.heap.size) (e := 9) (size := 1) w #[] 0 (Nat.le_refl _) (by unfold maxLen; omega) (by simp)
      simpa using this
    have bX : Below w.heap.size w X := by rw [hX]; exact (Below.refl _ _).alloc (Nat.le_refl _) _
    have n3 : ∀ j u, (l.map st)[j]? = some u → X.cell? (ad.add j) = some u := by
      intro j u hj
      rw [List.getElem?_map] at hj
      obtain ⟨x, hx, rfl⟩ := Option.map_eq_some_iff.1 hj
      obtain ⟨b, off, e, h1⟩ := (h.to0 bX).strAt hx
      obtain rfl : ad = ⟨b, off, none⟩ := by simpa using e
      have ea : (⟨b, off, none⟩ : Addr).add j = ⟨b, off + j, none⟩ := by
        by_cases h0 : j = 0
        · subst h0; simp [Addr.add]
        · simp [Addr.add, h0]
      rw [ea]
      exact h1
    have N2 := hide n3
    have l0 : (l.map st).length = l.length * 1 := by simp
    have n4 : 0 + l.length ≤ maxLen := by rw [show maxLen = 9223372036854775807 from rfl]; omega
    have n5 : (0 + l.length) * 16 ≤ 140737488355328 := by omega
    have o3 := one_st l
    have hsz := bX.size
    have BX := hide bX
    have hnil : (binOp .eql 22 (.slice (some ad) l.length c) (.slice none 0 0)).run Try.prog w = .ok (.bool false) w := Lib.run_eql_slice_nil w 22 9 _ l.length c 0 0 Try.underlying22
    clear n3 r1 h bX
    go_enter Try.func43, Try.ntmps43
    go_wp2_with (at_builtin; rw [← hX]; refine wpList_append_own _ rfl _ _ 22 rfl w.heap.size 9 i0 (.string ⟨#[]⟩) 1 16 Try.underlying22 hi hz0 hz1 hz2 rfl (by decide) (.slice (some ⟨w.heap.size, 0, none⟩) 0 0) 0 [] rfl oX ad l.length c (l.map st) rfl l0 N2.out o3 n4 n5 hsz ?_; intro v1 w3 hown1 hgrow1 hnil1)
    go_ret
    have ho : OwnT w.heap.size w3 v1 l := by show World.ownsRow _ _ _ _ _ _ _; simpa using hown1
    obtain ⟨a', c', rfl⟩ := (OwnT.rd ho).slice
    exact ⟨a', c', rfl, ho, BX.out.trans ((Below.refl _ _).grown hgrow1 hsz (fun k h => by simp only [Value.ownBlock, Option.some.injEq] at h; omega))⟩

set_option maxRecDepth 100000 in
set_option maxHeartbeats 400000 in
theorem pclJ_any (w : World) (v : Value) (l : List Int) (h : RdI w v l) (hm : l.length * 8 ≤ 140737488355328) :
    Calls Try.prog 44 #[v] w fun e w' => ∃ a c, e = .returned (.slice a l.length c) ∧ OwnJ w.heap.size w' (.slice a l.length c) l ∧ Below w.heap.size w w' := by
  obtain ⟨a, c, rfl, l1, m1, n1, r1⟩ := id h
  obtain ⟨i0, hi, hz0, hz1, hz2⟩ := info_parts infoJ
  cases a with
  | none =>
    have : l = [] := by
      rcases r1 with r1 | ⟨b, off, h, _⟩
      · exact r1
      · cases h
    subst this
    obtain rfl : c = 0 := n1 rfl
    have hnil : (binOp .eql 23 (.slice none 0 0) (.slice none 0 0)).run Try.prog w = .ok (.bool true) w := Lib.run_eql_slice_nil w 23 3 _ 0 0 0 0 Try.underlying23
    go_enter Try.func44, Try.ntmps44
    go_wp2
    go_ret
    exact ⟨none, 0, rfl, World.ownsRow_nil _ _ _ _, Below.refl _ _⟩
  | some ad =>
    obtain ⟨X, hX⟩ : ∃ u, u = w.alloc (.cells #[] 3) := ⟨_, rfl⟩
    have oX : X.ownsRow w.heap.size 3 1 (.slice (some ⟨w.heap.size, 0, none⟩) 0 0) 0 [] := by
      rw [hX]
      have := World.ownsRow_lit (base := w.heap.size) (e := 3) (size := 1) w #[] 0 (Nat.le_refl _) (by unfold maxLen; omega) (by simp)
      simpa using this
    have bX : Below w.heap.size w X := by rw [hX]; exact (Below.refl _ _).alloc (Nat.le_refl _) _
    have n3 : ∀ j u, (l.map (Value.int .i64))[j]? = some u → X.cell? (ad.add j) = some u := by
      intro j u hj
      rw [List.getElem?_map] at hj
      obtain ⟨x, hx, rfl⟩ := Option.map_eq_some_iff.1 hj
      obtain ⟨b, off, e, h1⟩ := (h.to0 bX).intAt hx
      obtain rfl : ad = ⟨b, off, none⟩ := by simpa using e
      have ea : (⟨b, off, none⟩ : Addr).add j = ⟨b, off + j, none⟩ := by
        by_cases h0 : j = 0
        · subst h0; simp [Addr.add]
        · simp [Addr.add, h0]
      rw [ea]
      exact h1
    have N2 := hide n3
    have l0 : (l.map (Value.int .i64)).length = l.length * 1 := by simp
    have n4 : 0 + l.length ≤ maxLen := by rw [show maxLen = 9223372036854775807 from rfl]; omega
    have n5 : (0 + l.length) * 8 ≤ 140737488355328 := by omega
    have o3 := one_int l
    have hsz := bX.size
    have BX := hide bX
    have hnil : (binOp .eql 23 (.slice (some ad) l.length c) (.slice none 0 0)).run Try.prog w = .ok (.bool false) w := Lib.run_eql_slice_nil w 23 3 _ l.length c 0 0 Try.underlying23
    clear n3 r1 h bX
    go_enter Try.func44, Try.ntmps44
    go_wp2_with (at_builtin; rw [← hX]; refine wpList_append_own _ rfl _ _ 23 rfl w.heap.size 3 i0 (.int .i64 0) 1 8 Try.underlying23 hi hz0 hz1 hz2 rfl (by decide) (.slice (some ⟨w.heap.size, 0, none⟩) 0 0) 0 [] rfl oX ad l.length c (l.map (Value.int .i64)) rfl l0 N2.out o3 n4 n5 hsz ?_; intro v1 w3 hown1 hgrow1 hnil1)
    go_ret
    have ho : OwnJ w.heap.size w3 v1 l := by show World.ownsRow _ _ _ _ _ _ _; simpa using hown1
    obtain ⟨a', c', rfl⟩ := (OwnJ.rd ho).slice
    exact ⟨a', c', rfl, ho, BX.out.trans ((Below.refl _ _).grown hgrow1 hsz (fun k h => by simp only [Value.ownBlock, Option.some.injEq] at h; omega))⟩

theorem rdS_piece {α : Type} {s : Shp α} (hs : s.n = 1) {w : World} {a : Option Addr} {len cap : Nat} {xs : List α} (h : RdS s w (.slice a len cap) xs) {q e : Nat} (h1 : q ≤ e) (h2 : e ≤ len) : ∃ A, (if cap = q then a else Option.map (fun x => x.add q) a) = A ∧ RdS s w (.slice A (e - q) (cap - q)) ((xs.take e).drop q) := by
  obtain ⟨A, hA, p⟩ := rdS_part h h1 h2
  rw [hs] at hA
  simp only [Nat.mul_one] at hA
  exact ⟨A, hA, p⟩

set_option maxRecDepth 100000 in
set_option maxHeartbeats 2000000 in
theorem pleaf_any (w : World) (kv vv dv : Value) (n : Nd) (q e : Nat) (h : RdN w kv vv dv n) (hqe : q ≤ e) (he : e ≤ n.keys.length) (he2 : e ≤ n.vals.length) (hs : n.keys.length ≤ 1000 ∧ n.vals.length ≤ 1000) :
    Calls Try.prog 27 #[nv n kv vv dv, .int .i64 (q : Int), .int .i64 (e : Int)] w fun x w' => ∃ t1 d1 t2 d2, x = .returned (nv ⟨true, (n.keys.take e).drop q, (n.vals.take e).drop q, []⟩ (.slice t1 (e - q) d1) (.slice t2 (e - q) d2) (.slice none 0 0)) ∧ OwnN w.heap.size w' (.slice t1 (e - q) d1) (.slice t2 (e - q) d2) (.slice none 0 0) ⟨true, (n.keys.take e).drop q, (n.vals.take e).drop q, []⟩ ∧ Below w.heap.size w w' := by
  obtain ⟨hs1, hs2⟩ := hs
  obtain ⟨a, c, a', c', a'', c'', rfl, rfl, rfl⟩ := h.slices
  obtain ⟨leaf, keys, vals, kids⟩ := n
  dsimp only [nv] at *
  obtain ⟨W, hW, hA, hZ, bW, sW⟩ := boxes4 w (.bool leaf) (.slice a keys.length c) (.slice a' vals.length c') (.slice a'' kids.length c'') 26 26
  obtain ⟨⟨D0, D1, D2, D3⟩, _⟩ := cells4 hA
  have b0 : Below W.heap.size W W.drew := (Below.refl _ _).drew
  have hc1 : keys.length ≤ c := rdS_cap h.keys
  have hc2 : vals.length ≤ c' := rdS_cap h.vals
  obtain ⟨A1, hA1, P1⟩ := rdS_piece rfl h.keys (q := q) (e := e) hqe he
  obtain ⟨A2, hA2, P2⟩ := rdS_piece rfl h.vals (q := q) (e := e) (by omega) he2
  dsimp only at P1 P2
  have l1 : ((keys.take e).drop q).length = e - q := by simp; omega
  have l2 : ((vals.take e).drop q).length = e - q := by simp; omega
  have KK := hide (fun w1 (b1 : Below W.heap.size W w1) => pclT_any w1 _ _ (P1.to0 (bW.trans (b1.mono bW.size))) (by rw [l1]; omega))
  have KV := hide (fun w1 (b1 : Below W.heap.size W w1) => pclT_any w1 _ _ (P2.to0 (bW.trans (b1.mono bW.size))) (by rw [l2]; omega))
  rw [l1] at KK
  rw [l2] at KV
  have HS : Hid (∀ w9, Below W.heap.size W w9 → w9.cell? ⟨w.heap.size, 1, none⟩ = some (.slice a keys.length c) ∧ w9.cell? ⟨w.heap.size, 2, none⟩ = some (.slice a' vals.length c')) := fun w9 b9 =>
    ⟨(b9.cell (p := ⟨w.heap.size, 1, none⟩) (cell_lt D1)).trans D1, (b9.cell (p := ⟨w.heap.size, 2, none⟩) (cell_lt D2)).trans D2⟩
  have HZ := hide hZ
  have BW := hide bW
  have q1 : (q : Int) ≤ (e : Int) := by omega
  have q2 : (e : Int) ≤ (c : Int) := by omega
  have q3 : (e : Int) ≤ (keys.length : Int) := by omega
  have q4 : (e : Int) ≤ (c' : Int) := by omega
  have q5 : (e : Int) ≤ (vals.length : Int) := by omega
  have L1 := hide l1
  have L2 := hide l2
  clear D0 D1 D2 D3 hA hZ bW h P1 P2 l1 l2
  go_enter Try.func27, Try.ntmps27
  go_wp2
  rw [← hW]
  replace hW := hide hW
  refine wp_region_sched (fun w9 => w9.cell? ⟨w.heap.size, 1, none⟩ = some (.slice a keys.length c) ∧ w9.cell? ⟨w.heap.size, 2, none⟩ = some (.slice a' vals.length c')) [(0, true), (1, true), (2, true), (3, true), (4, true), (6, true), (7, true), (8, true), (9, true), (10, true), (5, false), (11, false)] 12 mixed (by kernel_rfl) (fun _ _ _ _ h => h) ?_
  iterate 10
    refine sched_take (v := ?_) rfl (by kernel_rfl) (HS.out _ b0) ?_ ?_
    rotate_left
    · rintro w9 ⟨r1, r2⟩
      go_simp
      try with_reducible rfl
    try simp only [Act.put, List.setIfInBounds_toArray, List.set_cons_zero, List.set_cons_succ]
  refine sched_run rfl (by kernel_rfl) fun K hK => ?_
  refine wp_call_of 43 _ _ (by rfl) #[.slice A1 (e - q) (c - q)] (by simp [Act.eval]) (Try.call43 _ _) (KK.out W.drew b0) ?_
  rintro x w1 ⟨t1, d1, rfl, o1, b1⟩
  have e1 : Below W.heap.size W w1 := b0.trans (b1.mono b0.size)
  refine ⟨_, rfl, hK _ _ (HS.out _ e1) ?_⟩
  clear hK K
  try simp only [Act.put, List.setIfInBounds_toArray, List.set_cons_zero, List.set_cons_succ]
  refine sched_run rfl (by kernel_rfl) fun K hK => ?_
  refine wp_call_of 43 _ _ (by rfl) #[.slice A2 (e - q) (c' - q)] (by simp [Act.eval]) (Try.call43 _ _) (KV.out w1 e1) ?_
  rintro x w3 ⟨t2, d2, rfl, o2, b2⟩
  have e3 : Below W.heap.size W w3 := e1.trans (b2.mono e1.size)
  refine ⟨_, rfl, hK _ _ (HS.out _ e3) ?_⟩
  clear hK K
  try simp only [Act.put, List.setIfInBounds_toArray, List.set_cons_zero, List.set_cons_succ]
  have s1 := b1.size
  have s0 : W.heap.size ≤ W.drew.heap.size := b0.size
  have OO : OwnN (w.heap.size + 2) w3 (.slice t1 (e - q) d1) (.slice t2 (e - q) d2) (.slice none 0 0) ⟨true, (keys.take e).drop q, (vals.take e).drop q, []⟩ := by
    refine ⟨?_, ?_, ?_⟩
    · exact rows_mono (rows_to o1 b2) (by omega)
    · exact rows_mono o2 (by omega)
    · exact World.ownsRow_nil _ _ _ _
  have hg : w.heap.size + 1 < w.heap.size + 2 := by omega
  have O4 := hide ((((OO.set hg 0 (.bool true)).set hg 1 (.slice t1 (e - q) d1)).set hg 2 (.slice t2 (e - q) d2)).set hg 3 (.slice none 0 0))
  have Z2 := hide ((e3.block _ (lt_of_block HZ.out)).trans HZ.out)
  have z0 := (cells4 Z2.out).1.1
  have z1 := (cells4 Z2.out).1.2.1
  have z2 := (cells4 Z2.out).1.2.2.1
  have z3 := (cells4 Z2.out).1.2.2.2
  have y0 := (cells4 Z2.out).2 0
  have y1 := (cells4 Z2.out).2 1
  have y2 := (cells4 Z2.out).2 2
  have y3 := (cells4 Z2.out).2 3
  have CC := hide (BW.out.trans (e3.mono BW.out.size))
  clear o1 o2 b1 b2 e1 e3 OO KK KV HS
  show wpList _ _ _ _ _ _
  dsimp only [List.drop]
  go_wp2
  refine retN rfl rfl (w.heap.size + 1) rfl _ _ (0, 0) (heap_set4 (u := w3) Z2.out _ _ _ _) _ Try.underlying26 rfl info_ndP ?_
  exact ⟨_, _, _, _, rfl, O4.out.mono (by omega), below_set4n CC.out (show w.heap.size ≤ w.heap.size + 1 by omega) _ _ _ _⟩

set_option maxRecDepth 100000 in
set_option maxHeartbeats 2000000 in
theorem pinner_any (w : World) (kv vv dv : Value) (n : Nd) (q e : Nat) (h : RdN w kv vv dv n) (hqe : q ≤ e) (he : e ≤ n.keys.length) (he2 : (e + 1) ≤ n.kids.length) (hs : n.keys.length ≤ 1000 ∧ n.kids.length ≤ 1000) :
    Calls Try.prog 28 #[nv n kv vv dv, .int .i64 (q : Int), .int .i64 (e : Int)] w fun x w' => ∃ t1 d1 t2 d2, x = .returned (nv ⟨false, (n.keys.take e).drop q, [], (n.kids.take (e + 1)).drop q⟩ (.slice t1 (e - q) d1) (.slice none 0 0) (.slice t2 (e + 1 - q) d2)) ∧ OwnN w.heap.size w' (.slice t1 (e - q) d1) (.slice none 0 0) (.slice t2 (e + 1 - q) d2) ⟨false, (n.keys.take e).drop q, [], (n.kids.take (e + 1)).drop q⟩ ∧ Below w.heap.size w w' := by
  obtain ⟨hs1, hs2⟩ := hs
  obtain ⟨a, c, a', c', a'', c'', rfl, rfl, rfl⟩ := h.slices
  obtain ⟨leaf, keys, vals, kids⟩ := n
  dsimp only [nv] at *
  obtain ⟨W, hW, hA, hZ, bW, sW⟩ := boxes4 w (.bool leaf) (.slice a keys.length c) (.slice a' vals.length c') (.slice a'' kids.length c'') 26 26
  obtain ⟨⟨D0, D1, D2, D3⟩, _⟩ := cells4 hA
  have b0 : Below W.heap.size W W.drew := (Below.refl _ _).drew
  have hc1 : keys.length ≤ c := rdS_cap h.keys
  have hc2 : kids.length ≤ c'' := rdS_cap h.kids
  obtain ⟨A1, hA1, P1⟩ := rdS_piece rfl h.keys (q := q) (e := e) hqe he
  obtain ⟨A2, hA2, P2⟩ := rdS_piece rfl h.kids (q := q) (e := (e + 1)) (by omega) he2
  dsimp only at P1 P2
  have l1 : ((keys.take e).drop q).length = e - q := by simp; omega
  have l2 : ((kids.take (e + 1)).drop q).length = (e + 1) - q := by simp; omega
  have KK := hide (fun w1 (b1 : Below W.heap.size W w1) => pclT_any w1 _ _ (P1.to0 (bW.trans (b1.mono bW.size))) (by rw [l1]; omega))
  have KV := hide (fun w1 (b1 : Below W.heap.size W w1) => pclJ_any w1 _ _ (P2.to0 (bW.trans (b1.mono bW.size))) (by rw [l2]; omega))
  rw [l1] at KK
  rw [l2] at KV
  have HS : Hid (∀ w9, Below W.heap.size W w9 → w9.cell? ⟨w.heap.size, 1, none⟩ = some (.slice a keys.length c) ∧ w9.cell? ⟨w.heap.size, 3, none⟩ = some (.slice a'' kids.length c'')) := fun w9 b9 =>
    ⟨(b9.cell (p := ⟨w.heap.size, 1, none⟩) (cell_lt D1)).trans D1, (b9.cell (p := ⟨w.heap.size, 3, none⟩) (cell_lt D3)).trans D3⟩
  have HZ := hide hZ
  have BW := hide bW
  have q1 : (q : Int) ≤ (e : Int) := by omega
  have q2 : (e : Int) ≤ (c : Int) := by omega
  have q3 : (e : Int) ≤ (keys.length : Int) := by omega
  obtain ⟨e2, he2'⟩ : ∃ e2, e2 = e + 1 := ⟨_, rfl⟩
  rw [← he2'] at KV l2
  have q0 : (e : Int) + 1 = (e2 : Int) := by omega
  have q0' : IntKind.i64.wrap (e2 : Int) = (e2 : Int) := IntWalk.i64_in _ (by omega)
  have q4 : (e2 : Int) ≤ (c'' : Int) := by omega
  have q5 : (e2 : Int) ≤ (kids.length : Int) := by omega
  have q6 : (q : Int) ≤ (e2 : Int) := by omega
  rw [← he2']
  replace he2' := hide he2'
  have L1 := hide l1
  have L2 := hide l2
  clear D0 D1 D2 D3 hA hZ bW h P1 P2 l1 l2
  go_enter Try.func28, Try.ntmps28
  go_wp2
  rw [← hW]
  replace hW := hide hW
  refine wp_region_sched (fun w9 => w9.cell? ⟨w.heap.size, 1, none⟩ = some (.slice a keys.length c) ∧ w9.cell? ⟨w.heap.size, 3, none⟩ = some (.slice a'' kids.length c'')) [(0, true), (1, true), (2, true), (3, true), (4, true), (6, true), (7, true), (8, true), (9, true), (10, true), (11, true), (5, false), (12, false)] 13 mixed (by kernel_rfl) (fun _ _ _ _ h => h) ?_
  iterate 11
    refine sched_take (v := ?_) rfl (by kernel_rfl) (HS.out _ b0) ?_ ?_
    rotate_left
    · rintro w9 ⟨r1, r2⟩
      go_simp
      try with_reducible rfl
    try simp only [Act.put, List.setIfInBounds_toArray, List.set_cons_zero, List.set_cons_succ]
  refine sched_run rfl (by kernel_rfl) fun K hK => ?_
  refine wp_call_of 43 _ _ (by rfl) #[.slice A1 (e - q) (c - q)] (by simp [Act.eval]) (Try.call43 _ _) (KK.out W.drew b0) ?_
  rintro x w1 ⟨t1, d1, rfl, o1, b1⟩
  have e1 : Below W.heap.size W w1 := b0.trans (b1.mono b0.size)
  refine ⟨_, rfl, hK _ _ (HS.out _ e1) ?_⟩
  clear hK K
  try simp only [Act.put, List.setIfInBounds_toArray, List.set_cons_zero, List.set_cons_succ]
  refine sched_run rfl (by kernel_rfl) fun K hK => ?_
  refine wp_call_of 44 _ _ (by rfl) #[.slice A2 (e2 - q) (c'' - q)] (by simp [Act.eval]) (Try.call44 _ _) (KV.out w1 e1) ?_
  rintro x w3 ⟨t2, d2, rfl, o2, b2⟩
  have e3 : Below W.heap.size W w3 := e1.trans (b2.mono e1.size)
  refine ⟨_, rfl, hK _ _ (HS.out _ e3) ?_⟩
  clear hK K
  try simp only [Act.put, List.setIfInBounds_toArray, List.set_cons_zero, List.set_cons_succ]
  have s1 := b1.size
  have s0 : W.heap.size ≤ W.drew.heap.size := b0.size
  have OO : OwnN (w.heap.size + 2) w3 (.slice t1 (e - q) d1) (.slice none 0 0) (.slice t2 (e2 - q) d2) ⟨false, (keys.take e).drop q, [], (kids.take e2).drop q⟩ := by
    refine ⟨?_, ?_, ?_⟩
    · exact rows_mono (rows_to o1 b2) (by omega)
    · exact World.ownsRow_nil _ _ _ _
    · exact rows_mono o2 (by omega)
  have hg : w.heap.size + 1 < w.heap.size + 2 := by omega
  have O4 := hide ((((OO.set hg 0 (.bool false)).set hg 1 (.slice t1 (e - q) d1)).set hg 2 (.slice none 0 0)).set hg 3 (.slice t2 (e2 - q) d2))
  have Z2 := hide ((e3.block _ (lt_of_block HZ.out)).trans HZ.out)
  have z0 := (cells4 Z2.out).1.1
  have z1 := (cells4 Z2.out).1.2.1
  have z2 := (cells4 Z2.out).1.2.2.1
  have z3 := (cells4 Z2.out).1.2.2.2
  have y0 := (cells4 Z2.out).2 0
  have y1 := (cells4 Z2.out).2 1
  have y2 := (cells4 Z2.out).2 2
  have y3 := (cells4 Z2.out).2 3
  have CC := hide (BW.out.trans (e3.mono BW.out.size))
  clear o1 o2 b1 b2 e1 e3 OO KK KV HS
  show wpList _ _ _ _ _ _
  dsimp only [List.drop]
  go_wp2
  refine retN rfl rfl (w.heap.size + 1) rfl _ _ (0, 0) (heap_set4 (u := w3) Z2.out _ _ _ _) _ Try.underlying26 rfl info_ndP ?_
  exact ⟨_, _, _, _, rfl, O4.out.mono (by omega), below_set4n CC.out (show w.heap.size ≤ w.heap.size + 1 by omega) _ _ _ _⟩

end Go.Proofs.Ytjkpldmmijfebaa
