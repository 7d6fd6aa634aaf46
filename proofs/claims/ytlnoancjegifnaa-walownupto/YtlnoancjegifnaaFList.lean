/-
  Lists of frames that the call itself makes ('OwnFs'), and lists of frames as they are read ('RdFs').
-/
import Derived.Test.YtlnoancjegifnaaFMath
import Derived.Test.YtlnoancjegifnaaStep
import Derived.Deep.AppendLies
import Derived.Deep.WholeRow
namespace Go.Proofs.Ytlnoancjegifnaa
open Go.RowKit
set_option linter.unusedVariables false

/-- the cells of a list of frames, their data at 'svs' -/
def fcells : List Frm → List Value → List Value
  | f :: fs, sv :: svs => .int .u8 (f.1.toNat : Int) :: sv :: fcells fs svs
  | _, _ => []
theorem fcells_len : ∀ (fs : List Frm) (svs : List Value), svs.length = fs.length → (fcells fs svs).length = fs.length * 2
  | [], _, _ => by simp [fcells]
  | f :: fs, [], h => by simp at h
  | f :: fs, sv :: svs, h => by
    have := fcells_len fs svs (by simpa using h)
    simp only [fcells, List.length_cons, this]; omega
theorem fcells_snoc : ∀ (fs : List Frm) (svs : List Value) (f : Frm) (sv : Value), svs.length = fs.length → fcells (fs ++ [f]) (svs ++ [sv]) = fcells fs svs ++ [.int .u8 (f.1.toNat : Int), sv]
  | [], svs, f, sv, h => by
    have : svs = [] := List.eq_nil_of_length_eq_zero (by simpa using h)
    subst this; rfl
  | g :: fs, [], f, sv, h => by simp at h
  | g :: fs, s :: svs, f, sv, h => by
    have := fcells_snoc fs svs f sv (by simpa using h)
    simp only [List.cons_append, fcells, this]
theorem fcells_at : ∀ (fs : List Frm) (svs : List Value) (i : Nat), svs.length = fs.length → i < fs.length →
    (fcells fs svs)[i * 2]? = some (.int .u8 ((fs.getD i (0, [])).1.toNat : Int)) ∧ (fcells fs svs)[i * 2 + 1]? = some (svs.getD i undef)
  | [], _, i, _, hi => by simp at hi
  | f :: fs, [], i, h, hi => by simp at h
  | f :: fs, sv :: svs, 0, h, hi => by simp [fcells]
  | f :: fs, sv :: svs, i + 1, h, hi => by
    have := fcells_at fs svs i (by simpa using h) (by simpa using hi)
    rw [show (i + 1) * 2 = i * 2 + 1 + 1 from by omega, show i * 2 + 1 + 1 + 1 = (i * 2 + 1) + 1 + 1 from rfl]
    simpa [fcells] using this

def OwnFs (T B : Nat) (w : World) (v : Value) (fs : List Frm) : Prop :=
  ∃ svs : List Value, svs.length = fs.length ∧ w.ownsRow B T 2 v fs.length (fcells fs svs) ∧ ∀ i, i < fs.length → OwnB B w (svs.getD i undef) (fs.getD i (0, [])).2

theorem OwnFs.nil (T B : Nat) (w : World) : OwnFs T B w (.slice none 0 0) [] := ⟨[], rfl, World.ownsRow_nil _ _ _ _, fun i hi => by simp at hi⟩
theorem OwnFs.below {T B : Nat} {w w' : World} {v : Value} {fs : List Frm} (h : OwnFs T B w v fs) {C : Nat} (hC : w.heap.size ≤ C) (hb : Below C w w') : OwnFs T B w' v fs := by
  obtain ⟨svs, h1, h2, h3⟩ := h
  refine ⟨svs, h1, ⟨h2.1, ?_⟩, fun i hi => (h3 i hi).below hC hb⟩
  rcases h2.2 with hn | ⟨g, cap, cur, hv, hgb, hg, r⟩
  · exact .inl hn
  · refine .inr ⟨g, cap, cur, hv, hgb, ?_, r⟩
    rw [hb.block g (by
      by_cases hlt : g < w.heap.size
      · omega
      · have : w.heap[g]? = none := by simp; omega
        rw [this] at hg; cases hg)]
    exact hg
theorem OwnFs.mono {T B C : Nat} {w : World} {v : Value} {fs : List Frm} (h : OwnFs T B w v fs) (hC : C ≤ B) : OwnFs T C w v fs := by
  obtain ⟨svs, h1, h2, h3⟩ := h
  refine ⟨svs, h1, ⟨h2.1, ?_⟩, fun i hi => (h3 i hi).mono hC⟩
  rcases h2.2 with hn | ⟨g, cap, cur, hv, hgb, r⟩
  · exact .inl hn
  · exact .inr ⟨g, cap, cur, hv, by omega, r⟩
theorem rows_ne {w : World} {B B' e e' s s' n n' : Nat} {v v' : Value} {xs xs' : List Value} (hne : e ≠ e') (h : w.ownsRow B e s v n xs) (h' : w.ownsRow B' e' s' v' n' xs') : v.ownBlock = none ∨ v.ownBlock ≠ v'.ownBlock := by
  rcases h.2 with ⟨rfl, _⟩ | ⟨g, cap, cur, rfl, _, hg, _⟩
  · exact .inl rfl
  rcases h'.2 with ⟨rfl, _⟩ | ⟨g', cap', cur', rfl, _, hg', _⟩
  · right; simp [Value.ownBlock]
  · right
    simp only [Value.ownBlock, ne_eq, Option.some.injEq]
    rintro rfl
    rw [hg] at hg'
    simp only [Option.some.injEq, Obj.cells.injEq] at hg'
    exact hne hg'.2.1
theorem OwnFs.snoc {T B : Nat} {w w' : World} {v v' : Value} {fs : List Frm} {f : Frm} {sv : Value} (hT : T ≠ 5) {svs : List Value} (h1 : svs.length = fs.length) (h2 : w.ownsRow B T 2 v fs.length (fcells fs svs))
    (h3 : ∀ i, i < fs.length → OwnB B w (svs.getD i undef) (fs.getD i (0, [])).2) (hs : OwnB B w sv f.2)
    (hg : w.grownBy w' v.ownBlock) (hw : w'.ownsRow B T 2 v' (fs.length + 1) (fcells fs svs ++ [.int .u8 (f.1.toNat : Int), sv])) : OwnFs T B w' v' (fs ++ [f]) := by
  refine ⟨svs ++ [sv], by simp [h1], ?_, ?_⟩
  · rw [fcells_snoc fs svs f sv h1, List.length_append]
    exact hw
  · intro i hi
    simp only [List.length_append, List.length_cons, List.length_nil] at hi
    by_cases hlt : i < fs.length
    · have e1 : (svs ++ [sv]).getD i undef = svs.getD i undef := by simp [List.getD_eq_getElem?_getD, List.getElem?_append_left (show i < svs.length by omega)]
      have e2 : (fs ++ [f]).getD i (0, []) = fs.getD i (0, []) := by simp [List.getD_eq_getElem?_getD, List.getElem?_append_left hlt]
      rw [e1, e2]
      exact World.ownsRow.kept (h3 i hlt) hg (rows_ne (Ne.symm hT) (h3 i hlt) h2)
    · obtain rfl : i = fs.length := by omega
      have e1 : (svs ++ [sv]).getD fs.length undef = sv := by rw [← h1]; simp [List.getD_eq_getElem?_getD]
      have e2 : (fs ++ [f]).getD fs.length (0, []) = f := by simp [List.getD_eq_getElem?_getD]
      rw [e1, e2]
      exact World.ownsRow.kept hs hg (rows_ne (Ne.symm hT) hs h2)

theorem OwnFs.from {T B : Nat} {w : World} {v : Value} {n : Nat} {xs : List Value} (h : w.ownsRow B T 2 v n xs) : ∀ k, v.ownBlock = some k → B ≤ k := by
  intro k hk
  rcases h.2 with ⟨rfl, _⟩ | ⟨g, cap, cur, rfl, hb, _⟩
  · cases hk
  · simp only [Value.ownBlock, Option.some.injEq] at hk
    omega
theorem two_cells (w : World) (x y : Value) (t : TypeId) (g : Nat) (hg : g = w.heap.size) : ∀ j u, ([x, y] : List Value)[j]? = some u → (w.alloc (.cells #[x, y] t)).cell? ((⟨g, 0, none⟩ : Addr).add j) = some u := by
  subst hg
  intro j u hj
  match j, hj with
  | 0, hj =>
    simp at hj; subst hj
    show (w.alloc (.cells #[x, y] t)).cell? ⟨w.heap.size, 0, none⟩ = _
    rw [cell_of_row _ _ 0 _ _ (0, 0) (heap_alloc_last w _)]; rfl
  | 1, hj =>
    simp at hj; subst hj
    show (w.alloc (.cells #[x, y] t)).cell? ⟨w.heap.size, 1, none⟩ = _
    rw [cell_of_row _ _ 1 _ _ (0, 0) (heap_alloc_last w _)]; rfl
  | j + 2, hj => simp at hj

/-- the value v is a list of the frames fs in the world w -/
def RdFs (w : World) (v : Value) (fs : List Frm) : Prop :=
  ∃ ao cap, v = .slice ao fs.length cap ∧ fs.length ≤ cap ∧ cap ≤ maxLen ∧ (ao = none → cap = 0) ∧
    (fs = [] ∨ ∃ b off, ao = some ⟨b, off, none⟩ ∧ ∀ i, i < fs.length → w.cell? ⟨b, off + i * 2, none⟩ = some (.int .u8 ((fs.getD i (0, [])).1.toNat : Int)) ∧
      ∃ sv, w.cell? ⟨b, off + i * 2 + 1, none⟩ = some sv ∧ Rd w sv (fs.getD i (0, [])).2)
theorem RdFs.below {w w' : World} {v : Value} {fs : List Frm} (h : RdFs w v fs) {B : Nat} (hB : w.heap.size ≤ B) (hb : Below B w w') : RdFs w' v fs := by
  obtain ⟨ao, cap, rfl, h1, h2, h3, h4⟩ := h
  refine ⟨ao, cap, rfl, h1, h2, h3, ?_⟩
  rcases h4 with h4 | ⟨b, off, rfl, hc⟩
  · exact .inl h4
  · refine .inr ⟨b, off, rfl, fun i hi => ?_⟩
    obtain ⟨c1, sv, c2, c3⟩ := hc i hi
    exact ⟨(hb.cell (p := ⟨b, off + i * 2, none⟩) (by have := cell_lt c1; show b < B; omega)).trans c1, sv, (hb.cell (p := ⟨b, off + i * 2 + 1, none⟩) (by have := cell_lt c2; show b < B; omega)).trans c2, c3.below hB hb⟩
theorem RdFs.to {w w' : World} {v : Value} {fs : List Frm} (h : RdFs w v fs) (hb : Below w.heap.size w w') : RdFs w' v fs := h.below (Nat.le_refl _) hb
theorem RdFs.slice {w : World} {v : Value} {fs : List Frm} (h : RdFs w v fs) : ∃ ao cap, v = .slice ao fs.length cap := by
  obtain ⟨ao, cap, rfl, _⟩ := h; exact ⟨_, _, rfl⟩
theorem OwnFs.rd {T B : Nat} {w : World} {v : Value} {fs : List Frm} (h : OwnFs T B w v fs) : RdFs w v fs := by
  obtain ⟨svs, h1, h2, h3⟩ := h
  rcases h2.2 with ⟨rfl, h0⟩ | ⟨g, cap, cur, rfl, hgb, hg, hn, hm, hs, ht⟩
  · have : fs = [] := List.eq_nil_of_length_eq_zero h0
    subst this
    exact ⟨none, 0, rfl, Nat.le_refl _, Nat.zero_le _, fun _ => rfl, .inl rfl⟩
  · refine ⟨_, cap, rfl, hn, hm, (fun h => by cases h), .inr ⟨g, 0, rfl, fun i hi => ?_⟩⟩
    obtain ⟨c1, c2⟩ := fcells_at fs svs i h1 hi
    refine ⟨?_, svs.getD i undef, ?_, (h3 i hi).rd⟩
    · rw [Nat.zero_add, h2.cellAt (i * 2) (by omega)]; exact c1
    · rw [Nat.zero_add, h2.cellAt (i * 2 + 1) (by omega)]; exact c2

end Go.Proofs.Ytlnoancjegifnaa
