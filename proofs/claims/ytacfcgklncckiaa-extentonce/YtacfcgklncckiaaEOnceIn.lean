/-
  What a law's walk is told of a list of steps that came in (ExtentOnce); a list of extents of one's own that is cut short; sectors that are used.
-/
import Derived.Test.YtacfcgklncckiaaEIn
import Derived.Test.YtacfcgklncckiaaEAlive
import Derived.Test.YtacfcgklncckiaaEMore
namespace Go.Proofs.Ytacfcgklncckiaa
open Go.ChangeShapes Go.WideShapes Go.ChangeAt Go.RowKit
set_option linter.unusedVariables false

theorem Opens.three {α β γ : Type} {s : Shp α} {r : Shp β} {u : Shp γ} {t : TypeId} {f0 f1 f2 : Field} {fa : α → Prop} {fb : β → Prop} {fc : γ → Prop} {ba : α → Nat} {bb : β → Nat} {bc : γ → Nat} (o : Opens s f0.type fa ba) (q : Opens r f1.type fb bb) (p : Opens u f2.type fc bc)
    (ht : Try.prog.underlying t = some (.struct #[f0, f1, f2])) (hc : Try.prog.cellsOf t = s.n + (r.n + u.n)) (h0 : f0.offset = 0) (h1 : f1.offset = s.n) (h2 : f2.offset = s.n + r.n) :
    Opens (s.pair (r.pair u)) t (fun z => fa z.1 ∧ (fb z.2.1 ∧ fc z.2.2)) (fun z => ba z.1 + (bb z.2.1 + bc z.2.2)) := by
  refine ⟨hc, fun {H enc W fuel cs x} h => ?_⟩
  obtain ⟨xs, k, hk, hxy, hlen, hxl, hf⟩ := DataW.trod_struct ht h
  match xs, hxl with
  | [y0, y1, y2], _ =>
    have g0 := hf 0 f0 rfl
    have g1 := hf 1 f1 rfl
    have g2 := hf 2 f2 rfl
    rw [h0, o.cells, List.drop_zero] at g0
    rw [h1, q.cells] at g1
    rw [h2, p.cells] at g2
    obtain ⟨a, ra, fa', ba'⟩ := o.opened (x := y0) (by simpa using g0)
    obtain ⟨b, rb, fb', bb'⟩ := q.opened (x := y1) (by simpa using g1)
    obtain ⟨c, rc, fc', bc'⟩ := p.opened (x := y2) (by simpa using g2)
    have hcs : cs = cs.take s.n ++ ((cs.drop s.n).take r.n ++ (cs.drop (s.n + r.n)).take u.n) := by
      have e1 : (cs.drop (s.n + r.n)).take u.n = cs.drop (s.n + r.n) := List.take_of_length_le (by rw [List.length_drop, hlen, hc]; omega)
      rw [e1, ← List.drop_drop, List.take_append_drop, List.take_append_drop]
    obtain ⟨d, pl⟩ := x
    simp only [Prod.mk.injEq] at hxy
    obtain ⟨rfl, _⟩ := hxy
    refine ⟨(a, (b, c)), ⟨_, _, hcs, ra, ⟨_, _, rfl, rb, rc⟩⟩, fun hw => ⟨fa' fun n hn => hw n ?_, fb' fun n hn => hw n ?_, fc' fun n hn => hw n ?_⟩, ?_⟩
    · simp only [DataW.weights, ht]
      exact DataW.weights_mem_each (j := 0) (t := f0.type) (d := y0.1) rfl rfl n hn
    · simp only [DataW.weights, ht]
      exact DataW.weights_mem_each (j := 1) (t := f1.type) (d := y1.1) rfl rfl n hn
    · simp only [DataW.weights, ht]
      exact DataW.weights_mem_each (j := 2) (t := f2.type) (d := y2.1) rfl rfl n hn
    · simp only [List.map_cons, List.map_nil, Rows.uptoBulk, Rows.uptoBulkAll]
      omega
abbrev SStep : Shp (Int × (Int × Int)) := (Shp.int .i64).pair ((Shp.int .i64).pair (Shp.int .i64))
abbrev SSteps : Shp (List (Int × (Int × Int))) := Shp.list 54 SStep
theorem open_step : Opens SStep 54 (fun z => (Lit.int .i64 z.1).wf = true ∧ ((Lit.int .i64 z.2.1).wf = true ∧ (Lit.int .i64 z.2.2).wf = true)) (fun _ => 1 + (1 + 1)) :=
  Opens.three (opens_intw Try.underlying3 (by kernel_rfl)) (opens_intw Try.underlying3 (by kernel_rfl)) (opens_intw Try.underlying3 (by kernel_rfl)) Try.underlying54 (by kernel_rfl) rfl rfl rfl
theorem open_steps : Opens SSteps 52 (fun xs => xs.length * 24 ≤ 140737488351232 ∧ ∀ z ∈ xs, (Lit.int .i64 z.1).wf = true ∧ ((Lit.int .i64 z.2.1).wf = true ∧ (Lit.int .i64 z.2.2).wf = true)) (fun xs => (xs.map (fun _ => 1 + (1 + 1))).sum) :=
  open_step.list Try.underlying52 (by kernel_rfl) (by kernel_rfl) (by decide)
theorem RdS.step {w : World} {a : Option Addr} {n cap : Nat} {l : List (Int × (Int × Int))} (h : RdS SStep w (.slice a n cap) l) {i : Nat} {x : Int × (Int × Int)} (hx : l[i]? = some x) :
    ∃ b off, a = some ⟨b, off, none⟩ ∧ w.cell? ⟨b, off + i * 3, none⟩ = some (.int .i64 x.1) ∧ w.cell? ⟨b, off + i * 3 + 1, none⟩ = some (.int .i64 x.2.1) ∧ w.cell? ⟨b, off + i * 3 + 2, none⟩ = some (.int .i64 x.2.2) := by
  obtain ⟨ao, c, e, h1, h2, h3, h4⟩ := h
  cases e
  rcases h4 with rfl | ⟨b, off, rfl, hc⟩
  · simp at hx
  · obtain ⟨c, ⟨c1, c2, rfl, k1, ⟨c3, c4, rfl, k3, k4⟩⟩, k2⟩ := hc i x hx
    have e1 : c1 = [Value.int .i64 x.1] := k1
    have e3 : c3 = [Value.int .i64 x.2.1] := k3
    have e4 : c4 = [Value.int .i64 x.2.2] := k4
    subst e1 e3 e4
    have hn : SStep.n = 3 := rfl
    rw [hn] at k2
    exact ⟨b, off, rfl, by simpa using k2 0 _ rfl, by simpa using k2 1 _ rfl, by simpa using k2 2 _ rfl⟩

/-- given[:n] -/
theorem OwnE.short {B : Nat} {w : World} {a : Option Addr} {n c : Nat} {l : List Ext} (h : OwnE B w (.slice a n c) l) {k : Nat} (hk : k ≤ l.length) : OwnE B w (.slice a k c) (l.take k) := by
  have hl : (l.take k).length = k := by simp; omega
  unfold OwnE at *
  rw [hl]
  rcases h.2 with ⟨h1, h2⟩ | ⟨g, cap, cur, hv, hb, hg, hn, hm, hs, ht⟩
  · simp only [Value.slice.injEq] at h1
    obtain ⟨rfl, rfl, rfl⟩ := h1
    have : k = 0 := by omega
    subst this
    exact World.ownsRow_nil _ _ _ _
  · simp only [Value.slice.injEq] at hv
    obtain ⟨rfl, _, rfl⟩ := hv
    refine ⟨by rw [ecells_len, hl], .inr ⟨g, c, cur, rfl, hb, hg, by omega, hm, hs, ?_⟩⟩
    have e : ecells (l.take k) = (ecells l).take (k * 2) := by
      conv => rhs; rw [← List.take_append_drop k l, ecells_app]
      exact (List.take_left' (by rw [ecells_len, hl])).symm
    rw [e, ← ht, List.take_take, Nat.min_eq_left (by omega)]
/-- given[k] = x: both cells -/
theorem ecells_set (l : List Ext) (k : Nat) (x : Ext) (h : k < l.length) : ((ecells l).set (k * 2) (.int .i64 x.1)).set (k * 2 + 1) (.int .i64 x.2) = ecells (l.set k x) := by
  induction l generalizing k with
  | nil => simp at h
  | cons y r ih =>
    cases k with
    | zero => rfl
    | succ k =>
      have := ih k (by simpa using h)
      rw [List.set_cons_succ, ecells_cons, ecells_cons, ← this, show (k + 1) * 2 = k * 2 + 1 + 1 by omega]
      rfl
theorem OwnE.put {B : Nat} {w : World} {g n c : Nat} {l : List Ext} (h : OwnE B w (.slice (some ⟨g, 0, none⟩) n c) l) {k : Nat} (hk : k < l.length) (x : Ext) : OwnE B ((w.setCell ⟨g, k * 2, none⟩ (.int .i64 x.1)).setCell ⟨g, k * 2 + 1, none⟩ (.int .i64 x.2)) (.slice (some ⟨g, 0, none⟩) n c) (l.set k x) := by
  have hn : n = l.length := by
    rcases h.2 with ⟨h1, _⟩ | ⟨g', cap, cur, hv, _⟩
    · cases h1
    · simp only [Value.slice.injEq] at hv; exact hv.2.1
  subst hn
  unfold OwnE at *
  rw [List.length_set, ← ecells_set l k x hk]
  exact (((World.ownsRow.stored h (k * 2) (.int .i64 x.1)).1).stored (k * 2 + 1) (.int .i64 x.2)).1

/-- which sectors are used -/
def UInv (n : Nat) (g : List Ext) (lo hi : Int) (us : List Bool) : Prop := us.length = n ∧ ∀ j : Nat, j < n → (us[j]? = some true ↔ cov g (j : Int) ∨ (lo ≤ (j : Int) ∧ (j : Int) < hi))
theorem UInv.start (n : Nat) (lo : Int) : UInv n [] lo lo (List.replicate n false) := by
  refine ⟨by simp, fun j hj => ?_⟩
  rw [List.getElem?_replicate, if_pos hj]
  constructor
  · intro h; simp at h
  · rintro (h | h)
    · exact absurd h (cov_nil _)
    · omega
theorem UInv.round {n : Nat} {g : List Ext} {lo : Int} {us : List Bool} (h : UInv n g lo lo us) (lo' : Int) : UInv n g lo' lo' us := by
  refine ⟨h.1, fun j hj => (h.2 j hj).trans ?_⟩
  constructor
  · rintro (h | h)
    · exact .inl h
    · omega
  · rintro (h | h)
    · exact .inl h
    · omega
theorem UInv.step {n : Nat} {g : List Ext} {lo : Int} {k : Nat} {us : List Bool} (h : UInv n g lo (k : Int) us) (hk : k < n) (hl : lo ≤ (k : Int)) : UInv n g lo ((k : Int) + 1) (us.set k true) := by
  refine ⟨by rw [List.length_set]; exact h.1, fun j hj => ?_⟩
  by_cases hjk : j = k
  · subst hjk
    rw [List.getElem?_set_self (by rw [h.1]; exact hj)]
    simp; right; omega
  · rw [List.getElem?_set_ne (by omega), h.2 j hj]
    constructor
    · rintro (h | h)
      · exact .inl h
      · exact .inr (by omega)
    · rintro (h | h)
      · exact .inl h
      · exact .inr (by omega)
theorem UInv.next {n : Nat} {g : List Ext} {x : Ext} {us : List Bool} (h : UInv n g x.1 (x.1 + x.2) us) (lo : Int) : UInv n (g ++ [x]) lo lo us := by
  refine ⟨h.1, fun j hj => (h.2 j hj).trans ?_⟩
  rw [cov_app, cov_cons]
  constructor
  · rintro (h | h)
    · exact .inl (.inl h)
    · exact .inl (.inr (.inl h))
  · rintro ((h | h | h) | h)
    · exact .inl h
    · exact .inr h
    · exact absurd h (cov_nil _)
    · omega
/-- no sector twice -/
theorem UInv.free {n : Nat} {g : List Ext} {x : Ext} {k : Nat} {us : List Bool} (h : UInv n g x.1 (k : Int) us) (hk : k < n) (hx : (k : Int) < x.1 + x.2) (hx1 : x.1 ≤ (k : Int)) (hg : ∀ y ∈ g, eApart y x) : us[k]? = some false := by
  have h1 := h.2 k hk
  have hlt : k < us.length := by rw [h.1]; exact hk
  rw [List.getElem?_eq_getElem hlt] at h1 ⊢
  cases hb : us[k] with
  | false => rfl
  | true =>
    rw [hb] at h1
    rcases h1.1 rfl with ⟨y, hy, hc⟩ | hc
    · have := hg y hy
      unfold eApart at this
      omega
    · omega

end Go.Proofs.Ytacfcgklncckiaa
