/-
  Frames laid one behind the other, plain: 'layG', where each ends ('ends'), and what is scanned of them, whole or cut off. Nothing of the program is named.
-/
import Derived.Test.YtlnoancjegifnaaFMath
namespace Go.Proofs.Ytlnoancjegifnaa
set_option linter.unusedVariables false

noncomputable def layG : List Frm → List UInt8
  | [] => []
  | f :: r => fseal f.1 f.2 ++ layG r
theorem layG_app (a b : List Frm) : layG (a ++ b) = layG a ++ layG b := by
  induction a with
  | nil => rfl
  | cons f r ih => simp only [List.cons_append, layG, ih, List.append_assoc]
theorem layG_one (f : Frm) : layG [f] = fseal f.1 f.2 := by simp [layG]
/-- how far the first k go -/
noncomputable def eAt (gs : List Frm) (k : Nat) : Nat := (layG (gs.take k)).length
theorem eAt_zero (gs : List Frm) : eAt gs 0 = 0 := rfl
theorem eAt_all (gs : List Frm) : eAt gs gs.length = (layG gs).length := by simp [eAt]
theorem take_succ' {α : Type} (l : List α) (k : Nat) (d : α) (h : k < l.length) : l.take (k + 1) = l.take k ++ [l.getD k d] := by
  rw [List.take_succ_eq_append_getElem h]; simp [List.getD_eq_getElem?_getD, h]
theorem eAt_succ (gs : List Frm) (k : Nat) (h : k < gs.length) : eAt gs (k + 1) = eAt gs k + (gs.getD k (0, [])).2.length + 8 := by
  unfold eAt
  rw [take_succ' gs k (0, []) h, layG_app, layG_one, List.length_append, fseal_len]; omega
theorem eAt_le (gs : List Frm) (k : Nat) : eAt gs k ≤ (layG gs).length := by
  unfold eAt
  conv => rhs; rw [← List.take_append_drop k gs, layG_app, List.length_append]
  omega
theorem eAt_mono (gs : List Frm) {j k : Nat} (h : j ≤ k) (hk : k ≤ gs.length) : eAt gs j ≤ eAt gs k := by
  induction k with
  | zero => rw [show j = 0 from by omega]; exact Nat.le_refl _
  | succ k ih =>
    by_cases e : j = k + 1
    · subst e; exact Nat.le_refl _
    · have := ih (by omega) (by omega)
      rw [eAt_succ gs k (by omega)]; omega
noncomputable def ends (gs : List Frm) : List Int := (List.range gs.length).map fun i => (eAt gs (i + 1) : Int)
theorem ends_length (gs : List Frm) : (ends gs).length = gs.length := by simp [ends]
theorem ends_at (gs : List Frm) (i : Nat) (h : i < gs.length) : (ends gs)[i]? = some (eAt gs (i + 1) : Int) := by simp [ends, h]
theorem ends_snoc (gs : List Frm) (g : Frm) : ends (gs ++ [g]) = ends gs ++ [((layG (gs ++ [g])).length : Int)] := by
  unfold ends
  rw [List.length_append, List.length_singleton, List.range_succ, List.map_append]
  congr 1
  · apply List.map_congr_left
    intro i hi
    have hi' := List.mem_range.1 hi
    unfold eAt
    rw [List.take_append_of_le_length (by omega)]
  · simp [eAt, List.take_of_length_le]

def okF (f : Frm) : Bool := decide (f.2.length ≤ 4096)
/-- those that can be sealed -/
def goodF (fs : List Frm) : List Frm := fs.filter okF
theorem goodF_ok {fs : List Frm} {f : Frm} (h : f ∈ goodF fs) : f.2.length ≤ 4096 := by
  have := (List.mem_filter.1 h).2; simpa [okF] using this
theorem goodF_succ (fs : List Frm) (k : Nat) (h : k < fs.length) : goodF (fs.take (k + 1)) = goodF (fs.take k) ++ (if okF (fs.getD k (0, [])) then [fs.getD k (0, [])] else []) := by
  unfold goodF
  rw [take_succ' fs k (0, []) h, List.filter_append]
  congr 1
  by_cases e : okF (fs.getD k (0, [])) = true
  · rw [if_pos e, List.filter_cons_of_pos e]; rfl
  · rw [if_neg e, List.filter_cons_of_neg e]; rfl
/-- the bulk of a list of frames -/
def fbulk : List Frm → Nat
  | [] => 0
  | f :: r => f.2.length + 3 + fbulk r
theorem lay_le (fs : List Frm) : (layG (goodF fs)).length ≤ 3 * fbulk fs ∧ fs.length ≤ fbulk fs ∧ (goodF fs).length ≤ fs.length := by
  refine ⟨?_, ?_, List.length_filter_le _ _⟩
  · induction fs with
    | nil => simp [goodF, layG, fbulk]
    | cons f r ih =>
      unfold goodF at *
      by_cases e : okF f = true
      · rw [List.filter_cons_of_pos e]; simp only [layG, List.length_append, fseal_len, fbulk]; omega
      · rw [List.filter_cons_of_neg e]; simp only [fbulk]; omega
  · induction fs with
    | nil => simp
    | cons f r ih => simp only [List.length_cons, fbulk]; omega
theorem fbulk_mem {fs : List Frm} {f : Frm} (h : f ∈ fs) : f.2.length ≤ fbulk fs := by
  induction fs with
  | nil => cases h
  | cons g r ih =>
    simp only [fbulk]
    rcases List.mem_cons.1 h with e | e
    · subst e; omega
    · have := ih e; omega

/-- what is scanned of frames with whatever behind them -/
theorem stt_lay (gs : List Frm) (c : List UInt8) (hg : ∀ g ∈ gs, g.2.length ≤ 4096) (k : Nat) (hk : k ≤ gs.length) : stt (layG gs ++ c) k = some (gs.take k, eAt gs k) := by
  induction k with
  | zero => simp [stt, eAt, layG]
  | succ k ih =>
    have i := ih (by omega)
    have e1 : (layG gs ++ c).drop (eAt gs k) = fseal (gs.getD k (0, [])).1 (gs.getD k (0, [])).2 ++ (layG (gs.drop (k + 1)) ++ c) := by
      have e : gs = gs.take k ++ (gs.getD k (0, []) :: gs.drop (k + 1)) := by
        conv => lhs; rw [← List.take_append_drop (k + 1) gs, take_succ' gs k (0, []) (by omega)]
        simp
      have hl : layG gs ++ c = layG (gs.take k) ++ (fseal (gs.getD k (0, [])).1 (gs.getD k (0, [])).2 ++ (layG (gs.drop (k + 1)) ++ c)) := by
        conv => lhs; rw [e, layG_app]
        simp only [layG, List.append_assoc]
      rw [hl]
      unfold eAt
      rw [List.drop_left]
    have hm : gs.getD k (0, []) ∈ gs := by
      simp only [List.getD_eq_getElem?_getD, List.getElem?_eq_getElem (show k < gs.length by omega), Option.getD_some]
      exact List.getElem_mem _
    have f := fopen_seal (gs.getD k (0, [])).1 (gs.getD k (0, [])).2 (layG (gs.drop (k + 1)) ++ c) (hg _ hm)
    have := stt_step i (by rw [e1, f])
    rw [this, e1, f, take_succ' gs k (0, []) (by omega), eAt_succ gs k (by omega)]
    rfl
theorem sc_lay (gs : List Frm) (hg : ∀ g ∈ gs, g.2.length ≤ 4096) : ScEnd (layG gs) gs (layG gs).length := by
  have h := stt_lay gs [] hg gs.length (Nat.le_refl _)
  rw [List.append_nil, List.take_length, eAt_all] at h
  refine ⟨h, ?_⟩
  rw [List.drop_of_length_le (Nat.le_refl _)]
  simp [fopen]
theorem sc_torn (gs : List Frm) (hg : ∀ g ∈ gs, g.2.length ≤ 4096) (cut n : Nat) (hn : n ≤ gs.length) (h1 : eAt gs n ≤ cut) (h2 : n = gs.length ∨ cut < eAt gs (n + 1)) : ScEnd ((layG gs).take cut) (gs.take n) (eAt gs n) := by
  have e : layG gs = layG (gs.take n) ++ layG (gs.drop n) := by rw [← layG_app, List.take_append_drop]
  have el : (layG (gs.take n)).length = eAt gs n := rfl
  have et : (layG gs).take cut = layG (gs.take n) ++ (layG (gs.drop n)).take (cut - eAt gs n) := by
    rw [e, List.take_append, List.take_of_length_le (by rw [el]; exact h1), el]
  have hgt : ∀ g ∈ gs.take n, g.2.length ≤ 4096 := fun g h => hg g (List.mem_of_mem_take h)
  have ln : (gs.take n).length = n := by simp; omega
  have s := stt_lay (gs.take n) ((layG (gs.drop n)).take (cut - eAt gs n)) hgt n (by omega)
  rw [← et] at s
  have ea : eAt (gs.take n) n = eAt gs n := by unfold eAt; rw [List.take_take, Nat.min_self]
  rw [List.take_take, Nat.min_self, ea] at s
  refine ⟨by rw [ln]; exact s, ?_⟩
  have ed : ((layG gs).take cut).drop (eAt gs n) = (layG (gs.drop n)).take (cut - eAt gs n) := by rw [et, ← el, List.drop_left]
  rw [ed]
  rcases h2 with h2 | h2
  · rw [h2, List.drop_of_length_le (Nat.le_refl _)]; simp [layG, fopen]
  · by_cases hlt : n < gs.length
    · rw [eAt_succ gs n hlt] at h2
      have e2 : gs.drop n = gs.getD n (0, []) :: gs.drop (n + 1) := by
        rw [List.drop_eq_getElem_cons hlt]; simp [List.getD_eq_getElem?_getD, hlt]
      have hm : gs.getD n (0, []) ∈ gs := by
        simp only [List.getD_eq_getElem?_getD, List.getElem?_eq_getElem hlt, Option.getD_some]
        exact List.getElem_mem _
      rw [e2]
      exact fopen_torn _ _ _ (hg _ hm) _ (by omega)
    · have : n = gs.length := by omega
      rw [this, List.drop_of_length_le (Nat.le_refl _)]; simp [layG, fopen]

end Go.Proofs.Ytlnoancjegifnaa
