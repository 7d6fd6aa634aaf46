/-
  A list of entries whose octets were there: its row was there and has no room, or is the call's own: append.
-/
import Derived.Lib.AppendZeros
import Derived.Test.YtfalhboahdccmaaRpD
namespace Go.Proofs.Ytfalhboahdccmaa
open Go.RowKit
set_option linter.unusedVariables false
set_option linter.unusedSimpArgs false

/-- the cells of entries -/
def ECs (w0 : World) (cs : List Value) (xs : List Wrt) : Prop := cs.length = xs.length * 2 ∧ ∀ i y, xs[i]? = some y → ∃ u, cs[i * 2]? = some (.int .i64 y.1) ∧ cs[i * 2 + 1]? = some u ∧ Rd w0 u y.2
theorem ECs.nil (w0 : World) : ECs w0 [] [] := ⟨rfl, fun i y h => by simp at h⟩
theorem ECs.app {w0 : World} {cs : List Value} {xs : List Wrt} (h : ECs w0 cs xs) {y : Wrt} {u : Value} (hu : Rd w0 u y.2) : ECs w0 (cs ++ [.int .i64 y.1, u]) (xs ++ [y]) := by
  obtain ⟨h1, h2⟩ := h
  refine ⟨by simp [h1]; omega, fun i z hz => ?_⟩
  rcases Nat.lt_or_ge i xs.length with q | q
  · rw [List.getElem?_append_left q] at hz
    obtain ⟨v, a, b, c⟩ := h2 i z hz
    exact ⟨v, by rw [List.getElem?_append_left (by omega)]; exact a, by rw [List.getElem?_append_left (by omega)]; exact b, c⟩
  · have hi : i = xs.length := by
      have := (List.getElem?_eq_some_iff.1 hz).1
      simp at this; omega
    subst hi
    rw [List.getElem?_append_right (Nat.le_refl _)] at hz
    simp only [Nat.sub_self, List.getElem?_cons_zero, Option.some.injEq] at hz
    subst hz
    exact ⟨u, by rw [List.getElem?_append_right (by omega), h1]; simp, by rw [List.getElem?_append_right (by omega), h1]; simp, hu⟩
/-- the cells of entries that are read at a place -/
theorem ecs_at {w0 : World} {b off n c : Nat} {xs : List Wrt} (h : RdC w0 (.slice (some ⟨b, off, none⟩) n c) xs) : ∀ k, k ≤ xs.length → ∃ cs, ECs w0 cs (xs.take k) ∧ ∀ j u, cs[j]? = some u → w0.cell? ⟨b, off + j, none⟩ = some u := by
  intro k
  induction k with
  | zero => intro _; exact ⟨[], ECs.nil _, fun j u hj => by simp at hj⟩
  | succ k ih =>
    intro hk
    obtain ⟨cs, h1, h2⟩ := ih (by omega)
    have hy : xs[k]? = some xs[k] := List.getElem?_eq_getElem (by omega)
    obtain ⟨b', o', u, e, c1, c2, hr⟩ := h.wrt hy
    simp only [Option.some.injEq, Addr.mk.injEq, and_true] at e
    obtain ⟨rfl, rfl⟩ := e
    refine ⟨cs ++ [.int .i64 xs[k].1, u], by rw [List.take_add_one, hy]; exact h1.app hr, fun j v hj => ?_⟩
    have hl : cs.length = k * 2 := by have := h1.1; rw [List.length_take] at this; omega
    rcases Nat.lt_or_ge j cs.length with q | q
    · rw [List.getElem?_append_left q] at hj
      exact h2 j v hj
    · rw [List.getElem?_append_right q] at hj
      have hj2 : j - cs.length < 2 := (List.getElem?_eq_some_iff.1 hj).1
      rcases (show j = k * 2 ∨ j = k * 2 + 1 by omega) with rfl | rfl
      · rw [show k * 2 - cs.length = 0 by omega] at hj
        simp only [List.getElem?_cons_zero, Option.some.injEq] at hj
        subst hj
        exact c1
      · rw [show k * 2 + 1 - cs.length = 1 by omega] at hj
        simp only [List.getElem?_cons_succ, List.getElem?_cons_zero, Option.some.injEq] at hj
        subst hj
        exact c2
def EvA (w0 : World) (B : Nat) (w : World) (v : Value) (xs : List Wrt) : Prop :=
  (∃ a, v = .slice a xs.length xs.length ∧ RdC w0 v xs) ∨ ∃ cs, w.ownsRow B 27 2 v xs.length cs ∧ ECs w0 cs xs
theorem EvA.rd {w0 w : World} {B : Nat} {v : Value} {xs : List Wrt} (h : EvA w0 B w v xs) (hb : Below w0.heap.size w0 w) : RdC w v xs := by
  rcases h with ⟨a, rfl, h⟩ | ⟨cs, ⟨_, ⟨rfl, h0⟩ | ⟨g, cap, cur, rfl, hgb, hg, hn, hm, hs, ht⟩⟩, hl, he⟩
  · exact h.to0 hb
  · have : xs = [] := List.eq_nil_of_length_eq_zero h0
    subst this
    exact RdS.nil _ _
  · refine ⟨_, cap, rfl, hn, hm, (fun e => by cases e), .inr ⟨g, 0, rfl, fun i y hy => ?_⟩⟩
    have hi : i < xs.length := (List.getElem?_eq_some_iff.1 hy).1
    obtain ⟨u, c1, c2, hr⟩ := he i y hy
    refine ⟨[.int .i64 y.1, u], ⟨[.int .i64 y.1], [u], rfl, rfl, u, rfl, hr.to hb⟩, fun j x hj => ?_⟩
    have hcell : ∀ m, m < xs.length * 2 → w.cell? ⟨g, m, none⟩ = cs[m]? := fun m hm2 => by
      rw [cell_of_row w g _ cur _ (0, 0) hg, ← ht, List.getElem?_take, if_pos hm2]
      simp
    show w.cell? ⟨g, 0 + i * 2 + j, none⟩ = _
    match j, hj with
    | 0, hj =>
      simp only [List.getElem?_cons_zero, Option.some.injEq] at hj
      subst hj
      rw [show 0 + i * 2 + 0 = i * 2 by omega, hcell _ (by omega)]
      exact c1
    | 1, hj =>
      simp only [List.getElem?_cons_succ, List.getElem?_cons_zero, Option.some.injEq] at hj
      subst hj
      rw [show 0 + i * 2 + 1 = i * 2 + 1 by omega, hcell _ (by omega)]
      exact c2
    | j + 2, hj => simp at hj
theorem EvA.keep {w0 w w' : World} {B : Nat} {v : Value} {xs : List Wrt} (h : EvA w0 B w v xs) (hk : ∀ b, B ≤ b → b < w.heap.size → w'.heap[b]? = w.heap[b]?) : EvA w0 B w' v xs := by
  rcases h with h | ⟨cs, ⟨h1, h2⟩, h3⟩
  · exact .inl h
  · refine .inr ⟨cs, ⟨h1, ?_⟩, h3⟩
    rcases h2 with h2 | ⟨g, cap, cur, q1, q2, q3, q4⟩
    · exact .inl h2
    · exact .inr ⟨g, cap, cur, q1, q2, (hk g q2 (lt_of_block q3)).trans q3, q4⟩
theorem EvA.to {w0 w w' : World} {B : Nat} {v : Value} {xs : List Wrt} (h : EvA w0 B w v xs) (hb : Below w.heap.size w w') : EvA w0 B w' v xs := h.keep fun b _ h2 => hb.block b h2
/-- an entry is put behind it -/
theorem EvA.app {w0 w : World} {B : Nat} {v : Value} {xs : List Wrt} (h : EvA w0 B w v xs) (hb : Below w0.heap.size w0 w) (hB : B ≤ w.heap.size) (ty : TypeId) {g c : Nat} {y : Wrt} {u : Value} {T : TypeId} {fr : Nat × Nat} (hg : w.heap[g]? = some (.cells #[.int .i64 y.1, u] T fr)) (hu : Rd w0 u y.2) (hn : (xs.length + 1) * 32 ≤ 140737488355328) :
    ∃ v' w', (Builtin.append_ #[22, 22] ty #[v, .slice (some ⟨g, 0, none⟩) 1 c]).run Try.prog w = .ok v' w' ∧ EvA w0 B w' v' (xs ++ [y]) ∧ Below B w w' := by
  obtain ⟨j0, ji, jz0, jz1, jz2⟩ := info_parts infoEn
  have hnews := World.news_of_block hg
  have h1 : ∀ z ∈ (#[.int .i64 y.1, u] : Array Value).toList, z.oneCell' = true := by
    obtain ⟨ua, uc, rfl⟩ := hu.slice
    simp [Value.oneCell']
  have own : ∀ cs, w.ownsRow B 27 2 v xs.length cs → ECs w0 cs xs → ∃ v' w', (Builtin.append_ #[22, 22] ty #[v, .slice (some ⟨g, 0, none⟩) 1 c]).run Try.prog w = .ok v' w' ∧ EvA w0 B w' v' (xs ++ [y]) ∧ Below B w w' := fun cs o e => by
    obtain ⟨v', w', r1, r2, r3, _⟩ := run_append_own (P := Try.prog) w B 22 ty 27 j0 _ 2 32 Try.underlying22 ji jz0 jz1 jz2 rfl (by decide) v xs.length cs o ⟨g, 0, none⟩ 1 c _ rfl hnews h1 (by rw [show maxLen = 9223372036854775807 from rfl]; omega) hn hB
    exact ⟨v', w', r1, .inr ⟨_, by rw [List.length_append]; exact r2, e.app hu⟩, (Below.refl _ _).grown r3 hB (fun k hk => (o.lt k hk).1)⟩
  rcases h with ⟨a, hv, h⟩ | ⟨cs, o, e⟩
  · cases a with
    | none =>
      have hz : xs.length = 0 := by
        obtain ⟨_, _, e, _, _, q, _⟩ := h
        rw [hv] at e
        simp only [Value.slice.injEq] at e
        obtain ⟨e1, e2, e3⟩ := e
        subst e1
        have := q rfl
        omega
      have hx : xs = [] := List.eq_nil_of_length_eq_zero hz
      subst hx
      exact own [] (by rw [hv]; exact World.ownsRow_nil _ _ _ _) (ECs.nil _)
    | some ad =>
      obtain ⟨olds, e, hc⟩ : ∃ olds, ECs w0 olds xs ∧ ∀ j z, olds[j]? = some z → w.cell? (ad.add j) = some z := by
        obtain ⟨_, _, e, _, _, _, r⟩ := id h
        rw [hv] at e
        simp only [Value.slice.injEq] at e
        obtain ⟨e1, -, -⟩ := e
        rcases r with rfl | ⟨b, off, e2, _⟩
        · exact ⟨[], ECs.nil _, fun j z hj => by simp at hj⟩
        · rw [← e1] at e2
          simp only [Option.some.injEq] at e2
          subst e2
          rw [hv] at h
          obtain ⟨cs, k1, k2⟩ := ecs_at h xs.length (Nat.le_refl _)
          rw [List.take_length] at k1
          refine ⟨cs, k1, fun j z hj => ?_⟩
          have ea : (⟨b, off, none⟩ : Addr).add j = ⟨b, off + j, none⟩ := by
            by_cases h0 : j = 0
            · subst h0; simp [Addr.add]
            · simp [Addr.add, h0]
          have := k2 j z hj
          rw [ea, (hb.cell (cell_lt this)).trans this]
      have hsz : j0.size = 2 := jz1
      have hr := run_append_grow (P := Try.prog) w 22 ty 27 j0 _ Try.underlying22 ji jz0 ad xs.length xs.length olds (by rw [hsz]; exact e.1) hc ⟨g, 0, none⟩ 1 c _ (by rw [hsz]; rfl) hnews (by omega) (by omega) (growslice_fits (by omega) (by rw [jz2]; exact hn))
      rw [hv]
      refine ⟨_, _, hr, .inr ⟨_, ⟨?_, .inr ⟨w.heap.size, _, _, by rw [List.length_append]; rfl, hB, heap_alloc_new w.drew _, ?_, ?_, ?_, ?_⟩⟩, e.app hu⟩, ((Below.refl _ _).drew.alloc hB _)⟩
      · simp [e.1]; omega
      · rw [List.length_append]; exact grownCap_ge _ _ _ _
      · exact grownCap_le_maxLen _ _ _ _ (by rw [show maxLen = 9223372036854775807 from rfl]; omega)
      · have hge := grownCap_ge w (xs.length + 1) xs.length 27
        simp only [Array.size_append, List.size_toArray, size_zeroCells, e.1]
        simp [Value.cells]
        omega
      · have hl : (olds ++ [Value.int .i64 y.1, u]).length = (xs ++ [y]).length * 2 := by simp [e.1]; omega
        rw [← hl]
        simp only [Array.toList_append, List.append_assoc]
        rw [← List.append_assoc]
        exact List.take_left
  · exact own cs o e
end Go.Proofs.Ytfalhboahdccmaa
