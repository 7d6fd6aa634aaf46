/-
  Lists of octets of the call's own whose pieces may lie in one another's blocks ('OwnV': enough to be read and to be appended to); blocks of three cells; the shapes of a log. Nothing of the program's functions is named.
-/
import Derived.Test.YtlnoancjegifnaaWMath
import Derived.Test.YtlnoancjegifnaaFList
import Derived.Test.YtlnoancjegifnaaDOwnR
import Derived.Test.YtlnoancjegifnaaBx
namespace Go.Proofs.Ytlnoancjegifnaa
open Go.RowKit
set_option linter.unusedVariables false

/-- the row from block B on, the pieces from block C on -/
def OwnV (B C : Nat) (w : World) (v : Value) (xss : List (List UInt8)) : Prop :=
  ∃ vs : List Value, vs.length = xss.length ∧ w.ownsRow B 54 1 v xss.length vs ∧ ∀ i, i < xss.length → OwnB C w (vs.getD i undef) (xss.getD i [])
theorem OwnV.nil (B C : Nat) (w : World) : OwnV B C w (.slice none 0 0) [] := ⟨[], rfl, World.ownsRow_nil _ _ _ _, fun i hi => by simp at hi⟩
theorem rows_below {w w' : World} {B e s n : Nat} {v : Value} {xs : List Value} (h : w.ownsRow B e s v n xs) {C : Nat} (hC : w.heap.size ≤ C) (hb : Below C w w') : w'.ownsRow B e s v n xs := by
  refine ⟨h.1, ?_⟩
  rcases h.2 with hn | ⟨g, cap, cur, hv, hgb, hg, r⟩
  · exact .inl hn
  · exact .inr ⟨g, cap, cur, hv, hgb, (hb.block g (by have := lt_of_block hg; omega)).trans hg, r⟩
theorem rows_mono {w : World} {B C e s n : Nat} {v : Value} {xs : List Value} (h : w.ownsRow B e s v n xs) (hC : C ≤ B) : w.ownsRow C e s v n xs := by
  refine ⟨h.1, ?_⟩
  rcases h.2 with hn | ⟨g, cap, cur, hv, hgb, r⟩
  · exact .inl hn
  · exact .inr ⟨g, cap, cur, hv, by omega, r⟩
theorem rows_from {w : World} {B e s n : Nat} {v : Value} {xs : List Value} (h : w.ownsRow B e s v n xs) : ∀ k, v.ownBlock = some k → B ≤ k := by
  intro k hk
  rcases h.2 with ⟨rfl, _⟩ | ⟨g, cap, cur, rfl, hb, _⟩
  · cases hk
  · simp only [Value.ownBlock, Option.some.injEq] at hk
    omega
theorem OwnV.below {B C : Nat} {w w' : World} {v : Value} {xss : List (List UInt8)} (h : OwnV B C w v xss) (hb : Below w.heap.size w w') : OwnV B C w' v xss := by
  obtain ⟨vs, h1, h2, h3⟩ := h
  exact ⟨vs, h1, rows_below h2 (Nat.le_refl _) hb, fun i hi => (h3 i hi).below (Nat.le_refl _) hb⟩
theorem OwnV.mono {B C B' C' : Nat} {w : World} {v : Value} {xss : List (List UInt8)} (h : OwnV B C w v xss) (hB : B' ≤ B) (hC : C' ≤ C) : OwnV B' C' w v xss := by
  obtain ⟨vs, h1, h2, h3⟩ := h
  exact ⟨vs, h1, rows_mono h2 hB, fun i hi => (h3 i hi).mono hC⟩
theorem OwnV.rd {B C : Nat} {w : World} {v : Value} {xss : List (List UInt8)} (h : OwnV B C w v xss) : RdSec w v xss := by
  obtain ⟨vs, hl, ⟨_, ⟨rfl, h0⟩ | ⟨g, cap, cur, rfl, hb, hg, hn, hm, hs, ht⟩⟩, he⟩ := h
  · have : xss = [] := List.eq_nil_of_length_eq_zero h0
    subst this
    exact RdS.nil _ _
  · refine ⟨_, cap, rfl, hn, hm, (fun e => by cases e), .inr ⟨g, 0, rfl, fun i x hx => ?_⟩⟩
    have hi : i < xss.length := (List.getElem?_eq_some_iff.1 hx).1
    have hr := (he i hi).rd
    rw [getD_some hx] at hr
    refine ⟨[vs.getD i undef], ⟨_, rfl, hr⟩, fun j u hj => ?_⟩
    match j, hj with
    | 0, hj =>
      simp only [List.getElem?_cons_zero, Option.some.injEq] at hj
      subst hj
      show w.cell? ⟨g, 0 + i * 1 + 0, none⟩ = _
      rw [cell_of_row w g _ cur _ (0, 0) hg]
      have e : cur[0 + i * 1 + 0]? = (cur.toList.take (xss.length * 1))[i]? := by
        rw [List.getElem?_take, if_pos (by omega)]; simp
      rw [e, ht]
      simp [hl, hi]
    | j + 1, hj => simp at hj
/-- some pieces more -/
theorem OwnV.app {B C : Nat} {w w' : World} {v v' : Value} {xss yss : List (List UInt8)} {us vs : List Value} (h1 : vs.length = xss.length) (h2 : w.ownsRow B 54 1 v xss.length vs) (h3 : ∀ i, i < xss.length → OwnB C w (vs.getD i undef) (xss.getD i []))
    (k1 : us.length = yss.length) (k3 : ∀ i, i < yss.length → OwnB C w (us.getD i undef) (yss.getD i [])) (hg : w.grownBy w' v.ownBlock) (hw : w'.ownsRow B 54 1 v' (xss.length + yss.length) (vs ++ us)) : OwnV B C w' v' (xss ++ yss) := by
  refine ⟨vs ++ us, by simp [h1, k1], by rw [List.length_append]; exact hw, fun i hi => ?_⟩
  rw [List.length_append] at hi
  by_cases hlt : i < xss.length
  · have e1 : (vs ++ us).getD i undef = vs.getD i undef := by simp [List.getD_eq_getElem?_getD, List.getElem?_append_left (show i < vs.length by omega)]
    have e2 : (xss ++ yss).getD i [] = xss.getD i [] := by simp [List.getD_eq_getElem?_getD, List.getElem?_append_left hlt]
    rw [e1, e2]
    exact World.ownsRow.kept (h3 i hlt) hg (rows_ne (by decide) (h3 i hlt) h2)
  · have e1 : (vs ++ us).getD i undef = us.getD (i - xss.length) undef := by simp [List.getD_eq_getElem?_getD, List.getElem?_append_right (show vs.length ≤ i by omega), h1]
    have e2 : (xss ++ yss).getD i [] = yss.getD (i - xss.length) [] := by simp [List.getD_eq_getElem?_getD, List.getElem?_append_right (show xss.length ≤ i by omega)]
    rw [e1, e2]
    exact World.ownsRow.kept (k3 _ (by omega)) hg (rows_ne (by decide) (k3 _ (by omega)) h2)

/-- a frame where it lies -/
theorem OwnFs.at {T B : Nat} {w : World} {v : Value} {fs : List Frm} (h : OwnFs T B w v fs) {K : Nat} {f : Frm} (hK : fs[K]? = some f) :
    ∃ g cap sv, v = .slice (some ⟨g, 0, none⟩) fs.length cap ∧ w.cell? ⟨g, K * 2, none⟩ = some (.int .u8 (f.1.toNat : Int)) ∧ w.cell? ⟨g, K * 2 + 1, none⟩ = some sv ∧ OwnB B w sv f.2 := by
  obtain ⟨svs, h1, h2, h3⟩ := h
  have hi : K < fs.length := (List.getElem?_eq_some_iff.1 hK).1
  obtain ⟨c0, c1⟩ := fcells_at fs svs K h1 hi
  have h3' := h3 K hi
  rw [getD_some hK] at c0 h3'
  rcases h2.2 with ⟨_, h0⟩ | ⟨g, cap, cur, hv, hb, hg, hn, hm, hs, ht⟩
  · omega
  · subst hv
    refine ⟨g, cap, svs.getD K undef, rfl, ?_, ?_, h3'⟩
    · rw [h2.cellAt (K * 2) (by omega)]; exact c0
    · rw [h2.cellAt (K * 2 + 1) (by omega)]; exact c1

end Go.Proofs.Ytlnoancjegifnaa
