/-
  append of any strings, or ints, onto some that the call owns; a node's halves, plain: each may be, and together they are the node.
-/
import Derived.Laws.AppendOwnNone
import Derived.Test.YtjkpldmmijfebaaNPI
import Derived.Test.YtjkpldmmijfebaaNPK
namespace Go.Proofs.Ytjkpldmmijfebaa
open Go.RowKit
set_option linter.unusedVariables false
set_option linter.unusedSimpArgs false

theorem wpList_appT {ops : Array Oper} {rest : List Oper} {o : Oper} {a : Act} {w : World} {Q : Exit → Act → World → Prop} (hgd : o.guard = none) (s x : Operand)
    (ho : o.op = .call { callee := .builtin .append, args := #[s, x], argTypes := #[22, 22] }) (B : Nat) (v v2 : Value) (xs ys : List Str) (hs : a.eval s = v) (hx : a.eval x = v2)
    (hown : OwnT B w v xs) (hrd : RdT w v2 ys) (hlen : (xs.length + ys.length) * 16 ≤ 140737488355328) (hB : B ≤ w.heap.size)
    (h : ∀ v' w', OwnT B w' v' (xs ++ ys) → Below B w w' → wpList Try.prog ops Q rest (a.put o.dst v') w') : wpList Try.prog ops Q (o :: rest) a w := by
  obtain ⟨i0, hi, hz0, hz1, hz2⟩ := info_parts infoT
  obtain ⟨ao, c, rfl, l1, m1, n1, r1⟩ := id hrd
  cases ao with
  | none =>
    have : ys = [] := by
      rcases r1 with r1 | ⟨b, off, h, _⟩
      · exact r1
      · cases h
    subst this
    obtain rfl : c = 0 := n1 rfl
    refine wpList_append_own_none hgd s x 22 ho B 9 i0 1 Try.underlying22 hi v xs.length (xs.map st) hs hown hx ?_
    exact h v w (by simpa using hown) (Below.refl _ _)
  | some ad =>
    have n2 : ∀ j u, (ys.map st)[j]? = some u → w.cell? (ad.add j) = some u := by
      intro j u hj
      rw [List.getElem?_map] at hj
      obtain ⟨x, hx, rfl⟩ := Option.map_eq_some_iff.1 hj
      obtain ⟨b, off, e, h1⟩ := hrd.strAt hx
      obtain rfl : ad = ⟨b, off, none⟩ := by simpa using e
      have ea : (⟨b, off, none⟩ : Addr).add j = ⟨b, off + j, none⟩ := by
        by_cases h0 : j = 0
        · subst h0; simp [Addr.add]
        · simp [Addr.add, h0]
      rw [ea]
      exact h1
    refine wpList_append_own _ hgd s x 22 ho B 9 i0 (.string ⟨#[]⟩) 1 16 Try.underlying22 hi hz0 hz1 hz2 rfl (by decide) v xs.length (xs.map st) hs hown ad ys.length c (ys.map st) hx (by simp) n2 (one_st ys)
      (by rw [show maxLen = 9223372036854775807 from rfl]; omega) hlen hB ?_
    intro v' w' h1 h2 _
    refine h v' w' ?_ ((Below.refl _ _).grown h2 hB (fun k hk => (World.ownsRow.lt hown k hk).1))
    show World.ownsRow _ _ _ _ _ _ _
    simpa using h1

theorem wpList_appJ {ops : Array Oper} {rest : List Oper} {o : Oper} {a : Act} {w : World} {Q : Exit → Act → World → Prop} (hgd : o.guard = none) (s x : Operand)
    (ho : o.op = .call { callee := .builtin .append, args := #[s, x], argTypes := #[23, 23] }) (B : Nat) (v v2 : Value) (xs ys : List Int) (hs : a.eval s = v) (hx : a.eval x = v2)
    (hown : OwnJ B w v xs) (hrd : RdI w v2 ys) (hlen : (xs.length + ys.length) * 8 ≤ 140737488355328) (hB : B ≤ w.heap.size)
    (h : ∀ v' w', OwnJ B w' v' (xs ++ ys) → Below B w w' → wpList Try.prog ops Q rest (a.put o.dst v') w') : wpList Try.prog ops Q (o :: rest) a w := by
  obtain ⟨i0, hi, hz0, hz1, hz2⟩ := info_parts infoJ
  obtain ⟨ao, c, rfl, l1, m1, n1, r1⟩ := id hrd
  cases ao with
  | none =>
    have : ys = [] := by
      rcases r1 with r1 | ⟨b, off, h, _⟩
      · exact r1
      · cases h
    subst this
    obtain rfl : c = 0 := n1 rfl
    refine wpList_append_own_none hgd s x 23 ho B 3 i0 1 Try.underlying23 hi v xs.length (xs.map (Value.int .i64)) hs hown hx ?_
    exact h v w (by simpa using hown) (Below.refl _ _)
  | some ad =>
    have n2 : ∀ j u, (ys.map (Value.int .i64))[j]? = some u → w.cell? (ad.add j) = some u := by
      intro j u hj
      rw [List.getElem?_map] at hj
      obtain ⟨x, hx, rfl⟩ := Option.map_eq_some_iff.1 hj
      obtain ⟨b, off, e, h1⟩ := hrd.intAt hx
      obtain rfl : ad = ⟨b, off, none⟩ := by simpa using e
      have ea : (⟨b, off, none⟩ : Addr).add j = ⟨b, off + j, none⟩ := by
        by_cases h0 : j = 0
        · subst h0; simp [Addr.add]
        · simp [Addr.add, h0]
      rw [ea]
      exact h1
    refine wpList_append_own _ hgd s x 23 ho B 3 i0 (.int .i64 0) 1 8 Try.underlying23 hi hz0 hz1 hz2 rfl (by decide) v xs.length (xs.map (Value.int .i64)) hs hown ad ys.length c (ys.map (Value.int .i64)) hx (by simp) n2 (one_int ys)
      (by rw [show maxLen = 9223372036854775807 from rfl]; omega) hlen hB ?_
    intro v' w' h1 h2 _
    refine h v' w' ?_ ((Below.refl _ _).grown h2 hB (fun k hk => (World.ownsRow.lt hown k hk).1))
    show World.ownsRow _ _ _ _ _ _ _
    simpa using h1

/-! the halves -/
theorem ksum_nn : ∀ l : List Str, 0 ≤ ksum l
  | [] => by simp [ksum]
  | x :: r => by have := ksum_nn r; simp only [ksum]; omega
theorem vsum_nn : ∀ l : List Str, 0 ≤ vsum l
  | [] => by simp [vsum]
  | x :: r => by have := vsum_nn r; simp only [vsum]; omega
theorem nsize_sum (n : Nd) : nsize n = 2 + ksum n.keys + if n.leaf then (n.keys.length : Int) + vsum (n.vals.take n.keys.length) else 4 * (n.kids.length : Int) := by
  unfold nsize
  rw [nsz_sum n _ (Nat.le_refl _), List.take_length]
  split <;> omega
theorem ksum_cut (l : List Str) (h : Nat) : ksum l = ksum (l.take h) + ksum (l.drop h) := by
  rw [← ksum_app, List.take_append_drop]
theorem vsum_cut (l : List Str) (h : Nat) : vsum l = vsum (l.take h) + vsum (l.drop h) := by
  rw [← vsum_app, List.take_append_drop]
theorem nkeys_part {n : Nd} (hn : nkeys n n.keys.length) (lf : Bool) (a b : Nat) (V : List Str) (D : List Int) : nkeys ⟨lf, (n.keys.take b).drop a, V, D⟩ ((n.keys.take b).drop a).length := by
  intro k hk
  have hl : ((n.keys.take b).drop a).length ≤ n.keys.length - a := by simp; omega
  have hb : a + k < b := by simp at hk; omega
  have e : ∀ j, j ≤ k → nkey ⟨lf, (n.keys.take b).drop a, V, D⟩ j = nkey n (a + j) := fun j hj => by
    unfold nkey
    dsimp only
    rw [List.getElem?_drop, List.getElem?_take, if_pos (by omega)]
  have h1 := hn (a + k) (by omega)
  unfold nkOk at h1 ⊢
  rw [e k (Nat.le_refl _)]
  refine ⟨h1.1, h1.2.1, fun h0 => ?_⟩
  rw [e (k - 1) (by omega), show a + (k - 1) = a + k - 1 by omega]
  exact h1.2.2 (by omega)
theorem part_at {α : Type} {l : List α} {a b k : Nat} (hk : k < ((l.take b).drop a).length) : ((l.take b).drop a)[k]? = l[a + k]? ∧ a + k < l.length := by
  simp at hk
  rw [List.getElem?_drop, List.getElem?_take, if_pos (by omega)]
  exact ⟨rfl, by omega⟩
theorem leaf_part {n : Nd} (h : NOk n) (hl : n.leaf = true) (a b : Nat) (hb : b ≤ n.keys.length) (hab : a ≤ b) : NOk ⟨true, (n.keys.take b).drop a, (n.vals.take b).drop a, []⟩ := by
  obtain ⟨h1, h2, h3, h4, h5⟩ := h
  unfold ncount at h2
  rw [hl, if_pos rfl] at h2
  refine ⟨nkeys_part h1 _ _ _ _ _, ?_, ?_, ?_, ?_⟩
  · unfold ncount
    rw [if_pos rfl]
    refine ⟨?_, rfl⟩
    simp; omega
  · intro k hk
    dsimp only at hk ⊢
    obtain ⟨p, q⟩ := part_at hk
    rw [p]
    exact h3 _ q
  · intro k hk; simp at hk
  · rw [nsize_sum] at h5 ⊢
    dsimp only
    rw [hl, if_pos rfl] at h5
    rw [if_pos rfl]
    have l1 : ((n.keys.take b).drop a).length = b - a := by simp; omega
    have l2 : ((n.vals.take b).drop a).length = b - a := by simp; omega
    rw [l1, List.take_of_length_le (l := (n.vals.take b).drop a) (i := b - a) (by omega)]
    rw [List.take_of_length_le (l := n.vals) (i := n.keys.length) (by omega)] at h5
    have k1 := ksum_cut n.keys b
    have k2 := ksum_cut (n.keys.take b) a
    have k3 := ksum_nn ((n.keys.take b).take a)
    have k4 := ksum_nn (n.keys.drop b)
    have v1 := vsum_cut n.vals b
    have v2 := vsum_cut (n.vals.take b) a
    have v3 := vsum_nn ((n.vals.take b).take a)
    have v4 := vsum_nn (n.vals.drop b)
    omega
theorem inner_part {n : Nd} (h : NOk n) (hl : n.leaf = false) (a b : Nat) (hb : b ≤ n.keys.length) (hab : a < b) : NOk ⟨false, (n.keys.take b).drop a, [], (n.kids.take (b + 1)).drop a⟩ := by
  obtain ⟨h1, h2, h3, h4, h5⟩ := h
  unfold ncount at h2
  rw [hl, if_neg (by decide)] at h2
  have l1 : ((n.keys.take b).drop a).length = b - a := by simp; omega
  have l2 : ((n.kids.take (b + 1)).drop a).length = b - a + 1 := by simp; omega
  refine ⟨nkeys_part h1 _ _ _ _ _, ?_, ?_, ?_, ?_⟩
  · unfold ncount
    rw [if_neg (by simp)]
    dsimp only
    rw [l1, l2]
    exact ⟨rfl, by omega, rfl⟩
  · intro k hk; simp at hk
  · intro k hk
    dsimp only at hk ⊢
    obtain ⟨p, q⟩ := part_at hk
    rw [p]
    exact h4 _ q
  · rw [nsize_sum] at h5 ⊢
    dsimp only
    rw [hl, if_neg (by decide)] at h5
    rw [if_neg (by decide), l2]
    have k1 := ksum_cut n.keys b
    have k2 := ksum_cut (n.keys.take b) a
    have k3 := ksum_nn ((n.keys.take b).take a)
    have k4 := ksum_nn (n.keys.drop b)
    omega
/-- what Split's answer is good for -/
structure Halves (n P Q : Nd) (M : Str) : Prop where
  ok1 : ncheck P = 0
  ok2 : ncheck Q = 0
  keys : (if n.leaf then P.keys else P.keys ++ [M]) ++ Q.keys = n.keys
  kids : P.kids ++ Q.kids = n.kids
  vals : P.vals ++ Q.vals = n.vals
  mid : n.leaf = true → Q.keys[0]? = some M
  fit1 : nfit P
  fit2 : nfit Q
theorem NOk.fit9 {n : Nd} (h : NOk n) : nfit n := by
  have f1 := h.few
  have f2 := h.2.1
  unfold ncount at f2
  unfold nfit
  split at f2 <;> omega
theorem halves {n : Nd} (hs : nsplit n = 0) : Halves n (nlow' n) (nhigh' n) (nmid' n) := by
  have hz : ncheck n = 0 := by
    unfold nsplit at hs
    by_cases hz : ncheck n = 0
    · exact hz
    · rw [if_neg hz] at hs; exact hs
  have hf : ¬ nfew n := by
    intro hf
    unfold nsplit at hs
    rw [if_pos hz, if_pos hf] at hs
    cases hs
  have ok := (ncheck_ok n).1 hz
  have hc := ok.2.1
  unfold ncount at hc
  unfold nfew at hf
  have e1 : nlow' n = nlow n := if_pos hs
  have e2 : nhigh' n = nhigh n := if_pos hs
  have e3 : nmid' n = nkey n (n.keys.length / 2) := if_pos hs
  rw [e1, e2, e3]
  obtain ⟨H, hH⟩ : ∃ H, H = n.keys.length / 2 := ⟨_, rfl⟩
  have hHl : H < n.keys.length := by omega
  have hkey : n.keys[H]? = some (nkey n H) := by
    obtain ⟨x, hx⟩ := some_el n.keys hHl
    rw [nkey_at hx, hx]
  cases hl : n.leaf with
  | true =>
    rw [hl, if_pos rfl] at hc
    have p1 : nlow n = ⟨true, (n.keys.take H).drop 0, (n.vals.take H).drop 0, []⟩ := by unfold nlow; simp [hl, ← hH]
    have p2 : nhigh n = ⟨true, (n.keys.take n.keys.length).drop H, (n.vals.take n.keys.length).drop H, []⟩ := by
      unfold nhigh; simp [hl, ← hH, List.take_of_length_le (l := n.vals) (i := n.keys.length) (by omega)]
    have o1 := leaf_part ok hl 0 H (by omega) (by omega)
    have o2 := leaf_part ok hl H n.keys.length (Nat.le_refl _) (by omega)
    rw [← p1] at o1
    rw [← p2] at o2
    refine ⟨(ncheck_ok _).2 o1, (ncheck_ok _).2 o2, ?_, ?_, ?_, ?_, o1.fit9, o2.fit9⟩
    · rw [p1, p2]; simp [hl]
    · rw [p1, p2]
      simp [List.eq_nil_of_length_eq_zero hc.2]
    · rw [p1, p2]
      simp [List.take_of_length_le (l := n.vals) (i := n.keys.length) (by omega)]
    · intro _
      rw [p2, ← hH]
      simp [hkey]
  | false =>
    rw [hl, if_neg (by decide)] at hc
    have h3 : 3 ≤ n.keys.length := by
      rcases Nat.lt_or_ge n.keys.length 3 with h | h
      · exact absurd (.inr ⟨hl, h⟩) hf
      · exact h
    have p1 : nlow n = ⟨false, (n.keys.take H).drop 0, [], (n.kids.take (H + 1)).drop 0⟩ := by unfold nlow; simp [hl, ← hH]
    have p2 : nhigh n = ⟨false, (n.keys.take n.keys.length).drop (H + 1), [], (n.kids.take (n.keys.length + 1)).drop (H + 1)⟩ := by
      unfold nhigh; simp [hl, ← hH, List.take_of_length_le (l := n.kids) (i := n.keys.length + 1) (by omega)]
    have o1 := inner_part ok hl 0 H (by omega) (by omega)
    have o2 := inner_part ok hl (H + 1) n.keys.length (Nat.le_refl _) (by omega)
    rw [← p1] at o1
    rw [← p2] at o2
    refine ⟨(ncheck_ok _).2 o1, (ncheck_ok _).2 o2, ?_, ?_, ?_, (fun h => by rw [hl] at h; cases h), o1.fit9, o2.fit9⟩
    · rw [p1, p2, ← hH]
      have ed : n.keys.drop H = nkey n H :: n.keys.drop (H + 1) := by
        rw [List.drop_eq_getElem_cons hHl]
        congr 1
        rw [List.getElem?_eq_getElem hHl] at hkey
        simpa using hkey
      have := List.take_append_drop H n.keys
      rw [ed] at this
      simpa [hl] using this
    · rw [p1, p2]
      simp [List.take_of_length_le (l := n.kids) (i := n.keys.length + 1) (by omega)]
    · rw [p1, p2]
      simp [List.eq_nil_of_length_eq_zero hc.1]

end Go.Proofs.Ytjkpldmmijfebaa
