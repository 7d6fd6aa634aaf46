/-
  Data that comes in, opened by its shape ('Opens'): what it is, as it is read; what the first form's reach says of it; its bulk.
-/
import Derived.Deep.Slices
import Derived.ChangeSame
import Derived.WideShapes
import Derived.ChangeArms
import Derived.Test.YtccklmhagabkaaaFr
import Derived.Test.YtccklmhagabkaaaShp
namespace Go.Proofs.Ytccklmhagabkaaa
open Go.ChangeShapes Go.WideShapes Go.ChangeAt Go.RowKit
set_option linter.unusedVariables false

structure Opens {α : Type} (s : Shp α) (t : TypeId) (fits : α → Prop) (bulk : α → Nat) : Prop where
  cells : Try.prog.cellsOf t = s.n
  opened : ∀ {H : Type} {enc : TypeId × Value → H} {W : World} {fuel : Nat} {cs : List Value} {x : DataW H × List MemPlace}, DataW.trod enc Try.prog W 0 (fun _ => true) true fuel t cs = some x →
    ∃ a, s.rd W cs a ∧ ((∀ n ∈ x.1.weights Try.prog t, n ≤ reachBytes) → fits a) ∧ bulk a ≤ Rows.uptoBulk x.1

theorem opens_int {k : IntKind} {t : TypeId} (ht : Try.prog.underlying t = some (.int k)) (hc : Try.prog.cellsOf t = 1) : Opens (Shp.int k) t (fun _ => True) (fun _ => 1) := by
  refine ⟨hc, fun {H enc W fuel cs x} h => ?_⟩
  obtain ⟨z, hz, _, _⟩ := DataW.trod_int ht h
  exact ⟨z, hz, fun _ => trivial, bulk_pos _⟩
theorem opens_bool {t : TypeId} (ht : Try.prog.underlying t = some .bool) (hc : Try.prog.cellsOf t = 1) : Opens Shp.bool t (fun _ => True) (fun _ => 1) := by
  refine ⟨hc, fun {H enc W fuel cs x} h => ?_⟩
  obtain ⟨b, hb, _⟩ := DataW.trod_bool ht h
  exact ⟨b, hb, fun _ => trivial, bulk_pos _⟩
/-- an int that is one of its kind -/
theorem opens_intw {k : IntKind} {t : TypeId} (ht : Try.prog.underlying t = some (.int k)) (hc : Try.prog.cellsOf t = 1) : Opens (Shp.int k) t (fun z => (Lit.int k z).wf = true) (fun _ => 1) := by
  refine ⟨hc, fun {H enc W fuel cs x} h => ?_⟩
  obtain ⟨z, hz, _, hw⟩ := DataW.trod_int ht h
  exact ⟨z, hz, fun _ => hw, bulk_pos _⟩

theorem choose_list {α : Type} {p : Nat → α → Prop} : ∀ n : Nat, (∀ i, i < n → ∃ x, p i x) → ∃ xs : List α, xs.length = n ∧ ∀ i x, xs[i]? = some x → p i x
  | 0, _ => ⟨[], rfl, fun i x h => by simp at h⟩
  | n + 1, h => by
    obtain ⟨xs, h1, h2⟩ := choose_list n fun i hi => h i (by omega)
    obtain ⟨x, hx⟩ := h n (by omega)
    refine ⟨xs ++ [x], by simp [h1], fun i y hy => ?_⟩
    by_cases e : i < n
    · rw [List.getElem?_append_left (by omega)] at hy
      exact h2 i y hy
    · rw [List.getElem?_append_right (by omega)] at hy
      have hi : i - xs.length = 0 := by
        have := (List.getElem?_eq_some_iff.1 hy).1
        simp at this; omega
      rw [hi] at hy
      simp at hy; subst hy
      obtain rfl : i = n := by omega
      exact hx
theorem weightsAll_mem {H : Type} {e : TypeId} {d : DataW H} {l : List (DataW H)} (hd : d ∈ l) {n : Nat} (hn : n ∈ d.weights Try.prog e) : n ∈ DataW.weightsAll Try.prog e l := by
  induction l with
  | nil => cases hd
  | cons x r ih =>
    simp only [DataW.weightsAll, List.mem_append]
    rcases List.mem_cons.1 hd with h | h
    · subst h; exact .inl hn
    · exact .inr (ih h)
theorem bulk_sum {H α : Type} (bulk : α → Nat) : ∀ (xs : List α) (D : Nat → DataW H), (∀ i x, xs[i]? = some x → bulk x ≤ Rows.uptoBulk (D i)) → (xs.map bulk).sum ≤ Rows.uptoBulkAll ((List.range xs.length).map D)
  | [], _, _ => by simp
  | x :: xs, D, h => by
    simp only [List.length_cons, List.range_succ_eq_map, List.map_cons, List.map_map, List.sum_cons, Rows.uptoBulkAll]
    have h0 := h 0 x rfl
    have := bulk_sum bulk xs (D ∘ Nat.succ) fun i y hy => h (i + 1) y (by simpa using hy)
    omega

theorem Opens.list {α : Type} {s : Shp α} {e t T bts : Nat} {fits : α → Prop} {bulk : α → Nat} (o : Opens s e fits bulk) (ht : Try.prog.underlying t = some (.slice e)) (hc : Try.prog.cellsOf t = 1) (hb : Try.prog.bytesOf e = bts) (hn : 0 < s.n) :
    Opens (Shp.list T s) t (fun xs => xs.length * bts ≤ 140737488351232 ∧ ∀ x ∈ xs, fits x) (fun xs => (xs.map bulk).sum) := by
  refine ⟨hc, fun {H enc W fuel cs x} h => ?_⟩
  rcases Deep.open_slice ht h with ⟨rfl, rfl⟩ | ⟨a, len, cap, m, n, D, Pl, rfl, _, hl, hm, hmm, rfl, hx⟩
  · exact ⟨[], ⟨_, rfl, RdS.nil _ _⟩, fun _ => ⟨by simp, fun x hx => by cases hx⟩, by simp⟩
  simp only [if_true] at hmm
  subst hmm
  have each : ∀ i, i < len → ∃ x, (∃ c, s.rd W c x ∧ ∀ j u, c[j]? = some u → W.cell? ((a.add (i * s.n)).add j) = some u) ∧ ((∀ n ∈ (D i).weights Try.prog e, n ≤ reachBytes) → fits x) ∧ bulk x ≤ Rows.uptoBulk (D i) := by
    intro i hi
    obtain ⟨cs', h1, h2⟩ := hx i (by omega)
    obtain ⟨x, hr, hf, hbk⟩ := o.opened h2
    rw [o.cells] at h1
    obtain ⟨_, hlen, hcell⟩ := World.cells?_some h1
    refine ⟨x, ⟨cs', hr, fun j u hj => ?_⟩, hf, hbk⟩
    have hjl : j < cs'.length := (List.getElem?_eq_some_iff.1 hj).1
    have := hcell j (by omega)
    rw [this]; exact hj
  obtain ⟨xs, h1, h2⟩ := choose_list len each
  refine ⟨xs, ⟨_, rfl, some a, m, by rw [h1], by omega, hm, (fun h => by cases h), ?_⟩, fun hw => ⟨?_, fun x hx' => ?_⟩, ?_⟩
  · by_cases h0 : len = 0
    · left; exact List.eq_nil_of_length_eq_zero (by omega)
    · right
      obtain ⟨b, off, spot⟩ := a
      obtain ⟨x0, hx0⟩ : ∃ x0, xs[0]? = some x0 := ⟨_, List.getElem?_eq_getElem (by omega)⟩
      obtain ⟨⟨c, hr, hc'⟩, _⟩ := h2 0 x0 hx0
      have hcl := s.rd_n hr
      obtain ⟨u0, hu0⟩ : ∃ u0, c[0]? = some u0 := ⟨_, List.getElem?_eq_getElem (by omega)⟩
      have hspot : spot = none := by
        have := World.cell?_spot (hc' 0 u0 hu0)
        simpa [Addr.add] using this
      subst hspot
      refine ⟨b, off, rfl, fun i x hxi => ?_⟩
      obtain ⟨⟨c, hr, hc'⟩, _⟩ := h2 i x hxi
      refine ⟨c, hr, fun j u hj => ?_⟩
      have := hc' j u hj
      have ea : ((⟨b, off, none⟩ : Addr).add (i * s.n)).add j = ⟨b, off + i * s.n + j, none⟩ := by
        rw [Deep.add_add]
        unfold Addr.add
        split <;> simp_all [Nat.add_assoc]
      rw [ea] at this
      exact this
  · have := hw ((len + (m - len)) * bts) (by simp [DataW.weights, ht, hb])
    simp only [reachBytes] at this
    rw [h1]
    have h3 : len * bts ≤ (len + (m - len)) * bts := Nat.mul_le_mul_right _ (by omega)
    omega
  · obtain ⟨i, hi, e⟩ := List.getElem_of_mem hx'
    have hxi : xs[i]? = some x := by rw [List.getElem?_eq_getElem hi, e]
    refine (h2 i x hxi).2.1 fun n hn => hw n ?_
    simp only [DataW.weights, ht, List.mem_cons, List.mem_append]
    right; left
    exact weightsAll_mem (d := D i) (List.mem_map.2 ⟨i, List.mem_range.2 (by omega), rfl⟩) hn
  · have := bulk_sum bulk xs D fun i x hxi => (h2 i x hxi).2.2
    rw [h1] at this
    simp only [Rows.uptoBulk]
    omega

theorem Opens.pair {α β : Type} {s : Shp α} {r : Shp β} {t : TypeId} {f0 f1 : Field} {fa : α → Prop} {fb : β → Prop} {ba : α → Nat} {bb : β → Nat} (o : Opens s f0.type fa ba) (q : Opens r f1.type fb bb) (ht : Try.prog.underlying t = some (.struct #[f0, f1])) (hc : Try.prog.cellsOf t = s.n + r.n) (h0 : f0.offset = 0) (h1 : f1.offset = s.n) :
    Opens (s.pair r) t (fun z => fa z.1 ∧ fb z.2) (fun z => ba z.1 + bb z.2) := by
  refine ⟨hc, fun {H enc W fuel cs x} h => ?_⟩
  obtain ⟨xs, k, hk, hxy, hlen, hxl, hf⟩ := DataW.trod_struct ht h
  match xs, hxl with
  | [y0, y1], _ =>
    have g0 := hf 0 f0 rfl
    have g1 := hf 1 f1 rfl
    rw [h0, o.cells, List.drop_zero] at g0
    rw [h1, q.cells] at g1
    obtain ⟨a, ra, fa', ba'⟩ := o.opened (x := y0) (by simpa using g0)
    obtain ⟨b, rb, fb', bb'⟩ := q.opened (x := y1) (by simpa using g1)
    have hcs : cs = cs.take s.n ++ (cs.drop s.n).take r.n := by
      have : (cs.drop s.n).take r.n = cs.drop s.n := List.take_of_length_le (by rw [List.length_drop, hlen, hc]; omega)
      rw [this, List.take_append_drop]
    obtain ⟨d, p⟩ := x
    simp only [Prod.mk.injEq] at hxy
    obtain ⟨rfl, _⟩ := hxy
    refine ⟨(a, b), ⟨_, _, hcs, ra, rb⟩, fun hw => ⟨fa' fun n hn => hw n ?_, fb' fun n hn => hw n ?_⟩, ?_⟩
    · simp only [DataW.weights, ht]
      exact DataW.weights_mem_each (j := 0) (t := f0.type) (d := y0.1) rfl rfl n hn
    · simp only [DataW.weights, ht]
      exact DataW.weights_mem_each (j := 1) (t := f1.type) (d := y1.1) rfl rfl n hn
    · simp only [List.map_cons, List.map_nil, Rows.uptoBulk, Rows.uptoBulkAll]
      omega

theorem reach_of {H : Type} {ts : List TypeId} {ds : List (DataW H)} (hsz : (DataW.weightsEach Try.prog ts ds).all (· ≤ reachBytes) = true) {j : Nat} {t : TypeId} {d : DataW H} (ht : ts[j]? = some t) (hd : ds[j]? = some d) : ∀ n ∈ d.weights Try.prog t, n ≤ reachBytes := by
  intro n hn
  have := List.all_eq_true.1 hsz _ (DataW.weights_mem_each ht hd _ hn)
  simpa using this
theorem small_of {H : Type} {ds : List (DataW H)} (hk : Rows.uptoSmall H ds = true) {d : DataW H} {n : Nat} (hd : d ∈ ds) (h : n ≤ Rows.uptoBulk d) : n ≤ 1048576 := by
  have h1 : Rows.uptoBulkAll ds ≤ 1048576 := of_decide_eq_true hk
  have h2 := bulk_mem hd
  omega
theorem Opens.three {α β γ : Type} {s : Shp α} {r : Shp β} {u : Shp γ} {t : TypeId} {f0 f1 f2 : Field} {fa : α → Prop} {fb : β → Prop} {fc : γ → Prop} {ba : α → Nat} {bb : β → Nat} {bc : γ → Nat} (o : Opens s f0.type fa ba) (q : Opens r f1.type fb bb) (p : Opens u f2.type fc bc)
    (ht : Try.prog.underlying t = some (.struct #[f0, f1, f2])) (hc : Try.prog.cellsOf t = s.n + (r.n + u.n)) (h0 : f0.offset = 0) (h1 : f1.offset = s.n) (h2 : f2.offset = s.n + r.n) :
    Opens (s.pair (r.pair u)) t (fun z => fa z.1 ∧ (fb z.2.1 ∧ fc z.2.2)) (fun z => ba z.1 + (bb z.2.1 + bc z.2.2)) := by
  refine ⟨hc, fun {H enc W fuel cs x} h => ?_⟩
  obtain ⟨xs, k, hk, hxy, hlen, hxl, hf⟩ := DataW.trod_struct ht h
  match xs, hxl with
  | [y0, y1, y2], _ =>
    have g0 := hf 0 f0 rfl
    have g1 := hf 1 f1 rfl
    have g2 := hf 2 f2 rfl
    rw [h0, o.cells, List.drop_zero] at g0
    rw [h1, q.cells] at g1
    rw [h2, p.cells] at g2
    obtain ⟨a, ra, fa', ba'⟩ := o.opened (x := y0) (by simpa using g0)
    obtain ⟨b, rb, fb', bb'⟩ := q.opened (x := y1) (by simpa using g1)
    obtain ⟨c, rc, fc', bc'⟩ := p.opened (x := y2) (by simpa using g2)
    have hcs : cs = cs.take s.n ++ ((cs.drop s.n).take r.n ++ (cs.drop (s.n + r.n)).take u.n) := by
      have e1 : (cs.drop (s.n + r.n)).take u.n = cs.drop (s.n + r.n) := List.take_of_length_le (by rw [List.length_drop, hlen, hc]; omega)
      rw [e1, ← List.drop_drop, List.take_append_drop, List.take_append_drop]
    obtain ⟨d, pl⟩ := x
    simp only [Prod.mk.injEq] at hxy
    obtain ⟨rfl, _⟩ := hxy
    refine ⟨(a, (b, c)), ⟨_, _, hcs, ra, ⟨_, _, rfl, rb, rc⟩⟩, fun hw => ⟨fa' fun n hn => hw n ?_, fb' fun n hn => hw n ?_, fc' fun n hn => hw n ?_⟩, ?_⟩
    · simp only [DataW.weights, ht]
      exact DataW.weights_mem_each (j := 0) (t := f0.type) (d := y0.1) rfl rfl n hn
    · simp only [DataW.weights, ht]
      exact DataW.weights_mem_each (j := 1) (t := f1.type) (d := y1.1) rfl rfl n hn
    · simp only [DataW.weights, ht]
      exact DataW.weights_mem_each (j := 2) (t := f2.type) (d := y2.1) rfl rfl n hn
    · simp only [List.map_cons, List.map_nil, Rows.uptoBulk, Rows.uptoBulkAll]
      omega

end Go.Proofs.Ytccklmhagabkaaa
