/-
  Votes that are given, plainly and as they lie in memory (VoteOnce).
-/
import Derived.Laws.MakeOwn
import Derived.Test.YtccklmhagabkaaaVtJ
namespace Go.Proofs.Ytccklmhagabkaaa
open Go.ChangeShapes Go.WideShapes Go.ChangeAt Go.RowKit
set_option linter.unusedVariables false

theorem infoInt16 : (Try.prog.info? 3).map (fun i => (i.zero, i.size, i.bytes)) = some (some (.int .i64 0), 1, 8) := by kernel_rfl
def GRow (g n : Nat) (G : List Int) (w : World) : Prop := w.ownsRow g 3 1 (.slice (some ⟨g, 0, none⟩) n n) n (G.map (Value.int .i64))
/-- make([]int, n) -/
theorem make16 {n : Nat} (hn : n ≤ 4398046511104) (u : World) : (Instr.makeSlice 42 (.int .i64 (n : Int)) (.int .i64 (n : Int))).run Try.prog u =
      .ok (.slice (some ⟨u.heap.size, 0, none⟩) n n) (u.alloc (.cells (madeCells #[.int .i64 0] n) 3)) := by
  obtain ⟨i0, hi, hz0, hz1, hz2⟩ := info_parts infoInt16
  have h := run_make (P := Try.prog) u 42 3 i0 (.int .i64 0) Try.underlying42 hi hz0 .i64 .i64 (n : Int) (n : Int) (by omega) (Int.le_refl _) (by rw [hz2]; omega) (by omega)
  simpa [hz1, Value.cells] using h
theorem GRow.made (w : World) (n : Nat) (h : n ≤ 4398046511104) : GRow w.heap.size n (List.replicate n 0) (w.alloc (.cells (madeCells #[.int .i64 0] n) 3)) := by
  have := World.ownsRow_lit (base := w.heap.size) (e := 3) (size := 1) w (madeCells #[.int .i64 0] n) n (Nat.le_refl _) (by unfold maxLen; omega) (by simp [madeCells])
  rw [toList_madeCells_one] at this
  unfold GRow
  rw [List.map_replicate]
  exact this
theorem GRow.len {g n : Nat} {G : List Int} {w : World} (h : GRow g n G w) : G.length = n := by
  have := h.1
  simpa using this
theorem GRow.lt {g n : Nat} {G : List Int} {w : World} (h : GRow g n G w) : g < w.heap.size := (World.ownsRow.lt h g rfl).2
theorem GRow.cell {g n : Nat} {G : List Int} {w : World} (h : GRow g n G w) {k : Nat} {b : Int} (hk : G[k]? = some b) : w.cell? ⟨g, k, none⟩ = some (.int .i64 b) :=
  rows_at (rows_base h fun _ _ => Nat.zero_le _) rfl (by rw [List.getElem?_map, hk]; rfl)
theorem GRow.frozen {g n : Nat} {G : List Int} {w : World} (h : GRow g n G w) (k : Nat) : w.frozen? ⟨g, k, none⟩ = false := World.ownsRow.frozenAt h k
theorem GRow.put {g n : Nat} {G : List Int} {w : World} (h : GRow g n G w) (k : Nat) (z : Int) : GRow g n (G.set k z) (w.setCell ⟨g, k, none⟩ (.int .i64 z)) := by
  have := (World.ownsRow.stored h k (.int .i64 z)).1
  unfold GRow
  rw [List.map_set]
  exact this
theorem GRow.keep {g n : Nat} {G : List Int} {w w' : World} (h : GRow g n G w) (hk : w'.heap[g]? = w.heap[g]?) : GRow g n G w' := by
  refine ⟨h.1, ?_⟩
  rcases h.2 with h2 | ⟨g', cap, cur, q1, q2, q3, q4⟩
  · exact .inl h2
  · simp only [Value.slice.injEq, Option.some.injEq, Addr.mk.injEq, and_true, true_and] at q1
    obtain ⟨rfl, rfl⟩ := q1
    exact .inr ⟨g, n, cur, rfl, q2, hk.trans q3, q4⟩
/-- what was given is for the one that the state names -/
def VInv (l : List Vq4) (k : Nat) (s : Vs) (G : List Int) : Prop := ∀ (j : Nat) (y : Vq4), j < k → l[j]? = some y → G[j]? = some 1 → y.1 ≤ s.term ∧ (y.1 = s.term → s.has = true ∧ s.who = y.2.1)
theorem vinv_zero (l : List Vq4) (s : Vs) (G : List Int) : VInv l 0 s G := fun j y h => absurd h (by omega)
theorem vdec_zero {s : Vs} {own ot : Int} {a : Vq} (h : (vdec s own ot a).2.2 = 0) : VOk s ∧ vask a ∧ vdec s own ot a = if vno (vto s a.term) own ot a then (vto s a.term, false, 0) else (⟨(vto s a.term).term, true, a.from_⟩, true, 0) := by
  unfold vdec at h ⊢
  by_cases k : VOk s
  · rw [if_pos k] at h ⊢
    by_cases q : vask a
    · rw [if_pos q]; exact ⟨k, q, rfl⟩
    · rw [if_neg q] at h; exact absurd h (show ¬ (4 : Int) = 0 by decide)
  · rw [if_neg k] at h; exact absurd h (show ¬ (9 : Int) = 0 by decide)
theorem vok_fit {s : Vs} (h : VOk s) : VsFit s := by
  obtain ⟨h1, h2, h3, h4, _⟩ := h
  exact ⟨by omega, by omega⟩
/-- a question that is answered: the state that follows, and what was given ahead of it -/
theorem vdec_said {s t : Vs} {own ot : Int} {a : Vq} {ok : Bool} (h : vdec s own ot a = (t, ok, 0)) : VsFit t ∧ s.term ≤ t.term ∧ (ok = true → a.term = t.term ∧ t.has = true ∧ t.who = a.from_ ∧ vnewer a.last a.lterm own ot = true) := by
  obtain ⟨k1, k2, k3⟩ := vdec_zero (s := s) (own := own) (ot := ot) (a := a) (by rw [h])
  obtain ⟨q1, q2, q3, q4⟩ := k2
  have ko := vto_ok (t := a.term) k1 (by omega) q2
  have kl := @vto_le s a.term
  rw [h] at k3
  by_cases n : vno (vto s a.term) own ot a
  · rw [if_pos n] at k3
    simp only [Prod.mk.injEq] at k3
    obtain ⟨rfl, rfl, -⟩ := k3
    exact ⟨vok_fit ko, kl.2, fun z => absurd z (by decide)⟩
  · rw [if_neg n] at k3
    simp only [Prod.mk.injEq] at k3
    obtain ⟨rfl, rfl, -⟩ := k3
    obtain ⟨p1, p2, p3, p4, _⟩ := ko
    refine ⟨⟨by dsimp only; omega, by dsimp only; omega⟩, kl.2, fun _ => ⟨?_, rfl, rfl, ?_⟩⟩
    · have : ¬ a.term < (vto s a.term).term := fun z => n (.inl z)
      dsimp only
      omega
    · cases hh : vnewer a.last a.lterm own ot with
      | true => rfl
      | false => exact absurd (.inr (.inr hh)) n
theorem vinv_step {l : List Vq4} {k : Nat} {s t : Vs} {own ot : Int} {y : Vq4} {ok : Bool} {G : List Int} (hl : l[k]? = some y) (hk : k < G.length) (hi : VInv l k s G) (h : vdec s own ot ⟨y.1, y.2.1, y.2.2.1, y.2.2.2⟩ = (t, ok, 0)) (hz : G[k]? = some 0) :
    VInv l k t G ∧ (ok = false → VInv l (k + 1) t G) ∧ (ok = true → VInv l (k + 1) t (G.set k 1)) := by
  obtain ⟨k1, k2, k3⟩ := vdec_zero (s := s) (own := own) (ot := ot) (a := ⟨y.1, y.2.1, y.2.2.1, y.2.2.2⟩) (by rw [h])
  obtain ⟨f1, f2, f3⟩ := vdec_said h
  have kl := @vto_le s y.1
  rw [h] at k3
  have base : VInv l k t G := by
    intro j x hj hx hg
    obtain ⟨i1, i2⟩ := hi j x hj hx hg
    refine ⟨by omega, fun e => ?_⟩
    have hs : s.term = t.term := by omega
    obtain ⟨i3, i4⟩ := i2 (by omega)
    dsimp only at k3
    by_cases n : vno (vto s y.1) own ot ⟨y.1, y.2.1, y.2.2.1, y.2.2.2⟩
    · rw [if_pos n] at k3
      simp only [Prod.mk.injEq] at k3
      obtain ⟨e1, -, -⟩ := k3
      have : vto s y.1 = s := by
        unfold vto at e1 ⊢
        split
        · rename_i q
          rw [if_pos q] at e1
          have : t.term = y.1 := by rw [e1]
          omega
        · rfl
      rw [e1, this]
      exact ⟨i3, i4⟩
    · rw [if_neg n] at k3
      simp only [Prod.mk.injEq] at k3
      obtain ⟨e1, -, -⟩ := k3
      have ht : (vto s y.1).term = t.term := by rw [e1]
      have : vto s y.1 = s := by
        unfold vto at ht ⊢
        split
        · rename_i q
          rw [if_pos q] at ht
          dsimp only at ht
          omega
        · rfl
      rw [this] at n e1
      refine ⟨by rw [e1], ?_⟩
      rw [e1]
      dsimp only
      by_cases w : s.who = y.2.1
      · omega
      · exact absurd (.inr (.inl ⟨i3, w⟩)) n
  refine ⟨base, fun _ => ?_, fun e => ?_⟩
  · intro j x hj hx hg
    rcases Nat.lt_or_ge j k with q | q
    · exact base j x q hx hg
    · have : j = k := by omega
      subst this
      rw [hz] at hg
      simp at hg
  · obtain ⟨a1, a2, a3, _⟩ := f3 e
    dsimp only at a1 a3
    intro j x hj hx hg
    rcases Nat.lt_or_ge j k with q | q
    · rw [List.getElem?_set_ne (by omega)] at hg
      exact base j x q hx hg
    · have : j = k := by omega
      subst this
      rw [hl] at hx
      simp only [Option.some.injEq] at hx
      subst hx
      exact ⟨by omega, fun _ => ⟨a2, a3⟩⟩
/-- a vote that was given in this term was for the same -/
theorem vinv_same {l : List Vq4} {k j : Nat} {t : Vs} {G : List Int} {x : Vq4} {a : Int} (h : VInv l (k + 1) t G) (hj : j < k) (hx : l[j]? = some x) (hg : G[j]? = some 1) (ht : x.1 = t.term) (ha : t.who = a) : x.2.1 = a := by
  obtain ⟨_, h2⟩ := h j x (by omega) hx hg
  rw [← ha]
  exact (h2 ht).2.symm
end Go.Proofs.Ytccklmhagabkaaa
