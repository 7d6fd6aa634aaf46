/-
  Logs that were laid: segments of groups of records; what Flush makes of them. Nothing of the program is named.
-/
import Derived.Test.YtlnoancjegifnaaWMath
namespace Go.Proofs.Ytlnoancjegifnaa
set_option linter.unusedVariables false

noncomputable def wdata (g : List (List UInt8)) : List UInt8 := layG (g.map fun r => ((1 : UInt8), r))
theorem wdata_nil : wdata [] = [] := rfl
theorem wdata_snoc (g : List (List UInt8)) (r : List UInt8) : wdata (g ++ [r]) = wdata g ++ fseal 1 r := by
  unfold wdata; rw [List.map_append, layG_app]; simp [layG_one]
theorem wdata_len (g : List (List UInt8)) : (wdata g).length = wsz g := by
  unfold wdata
  induction g with
  | nil => rfl
  | cons r g ih =>
    rw [List.map_cons, show ((1 : UInt8), r) :: g.map (fun r => ((1 : UInt8), r)) = [((1 : UInt8), r)] ++ g.map (fun r => ((1 : UInt8), r)) from rfl, layG_app, layG_one, List.length_append, ih, fseal_len, wsz]
theorem wdata_scan {g : List (List UInt8)} (hg : ∀ r ∈ g, r.length ≤ 4096) : ScEnd (wdata g) (g.map fun r => ((1 : UInt8), r)) (wdata g).length :=
  sc_lay _ fun f hf => by obtain ⟨r, hr, rfl⟩ := List.mem_map.1 hf; exact hg r hr
theorem wones_one (g : List (List UInt8)) : wones (g.map fun r => ((1 : UInt8), r)) = g.map fun r => ((1 : UInt8), r) := by
  unfold wones
  induction g with
  | nil => rfl
  | cons r g ih => rw [List.map_cons, List.takeWhile_cons, if_pos (by rfl), ih]
theorem wrecs_data {g : List (List UInt8)} (hg : ∀ r ∈ g, r.length ≤ 4096) : wrecs (wdata g) = g := by
  unfold wrecs
  rw [wscan_of (wdata_scan hg), wones_one, List.map_map]
  have : (Prod.snd ∘ fun r : List UInt8 => ((1 : UInt8), r)) = id := rfl
  rw [this, List.map_id]
theorem wn_data {g : List (List UInt8)} (hg : ∀ r ∈ g, r.length ≤ 4096) : wn (wdata g) = (wdata g).length := by
  unfold wn; rw [wrecs_data hg, wdata_len]

/-- the segments of groups, numbered from n on -/
noncomputable def wsegs : Int → List (List (List UInt8)) → List Wrt
  | _, [] => []
  | n, g :: gs => (n, wdata g) :: wsegs (n + (g.length : Nat)) gs
theorem wsegs_len : ∀ (gs : List (List (List UInt8))) (n : Int), (wsegs n gs).length = gs.length
  | [], _ => rfl
  | g :: gs, n => by simp [wsegs, wsegs_len gs]
theorem wsegs_at : ∀ (gs : List (List (List UInt8))) (n : Int) (k : Nat) (g : List (List UInt8)), gs[k]? = some g → (wsegs n gs)[k]? = some (n + ((gs.take k).flatten.length : Nat), wdata g)
  | [], _, _, _, h => by simp at h
  | g' :: gs, n, 0, g, h => by
    simp only [List.getElem?_cons_zero, Option.some.injEq] at h
    subst h; simp [wsegs]
  | g' :: gs, n, k + 1, g, h => by
    have := wsegs_at gs (n + (g'.length : Nat)) k g (by simpa using h)
    simp only [wsegs, List.getElem?_cons_succ, this, List.take_succ_cons, List.flatten_cons, List.length_append]
    congr 2
    push_cast
    omega
theorem wsegs_snoc : ∀ (gs : List (List (List UInt8))) (n : Int) (g : List (List UInt8)), wsegs n (gs ++ [g]) = wsegs n gs ++ [(n + (gs.flatten.length : Nat), wdata g)]
  | [], n, g => by simp [wsegs]
  | g' :: gs, n, g => by
    simp only [List.cons_append, wsegs, wsegs_snoc gs, List.flatten_cons, List.length_append]
    congr 4
    push_cast
    omega

/-- a laid log is one that may be -/
theorem wok_laid {gs : List (List (List UInt8))} {wait : List (List UInt8)} (hl : gs.length ≤ 4096) (hr : ∀ g ∈ gs, ∀ r ∈ g, r.length ≤ 4096) (hn : gs.flatten.length ≤ 1099511627776) (hw : wait.length ≤ 4096) (hwo : wwaitOk wait) : WOk (wsegs 0 gs, (gs.flatten.length : Nat), wait) := by
  have hst : ∀ k, k ≤ gs.length → 0 < k → wst (wsegs 0 gs) (gs.flatten.length : Nat) k = ((gs.take k).flatten.length : Nat) := by
    intro k hk h0
    obtain ⟨j, rfl⟩ : ∃ j, k = j + 1 := ⟨k - 1, by omega⟩
    obtain ⟨g, hg⟩ : ∃ g, gs[j]? = some g := ⟨gs[j], List.getElem?_eq_getElem (by omega)⟩
    have hs := wsegs_at gs 0 j g hg
    have hgm := List.mem_of_getElem? hg
    simp only [wst, List.getD_eq_getElem?_getD, hs, Option.getD_some]
    rw [wrecs_data (hr g hgm)]
    have : gs.take (j + 1) = gs.take j ++ [g] := by rw [List.take_add_one, hg]; rfl
    rw [this, List.flatten_append, List.length_append]
    simp
  refine ⟨⟨by rw [wsegs_len]; exact hl, ⟨by show 0 ≤ ((gs.flatten.length : Nat) : Int); omega, by show ((gs.flatten.length : Nat) : Int) ≤ _; omega⟩, hw⟩, hwo, fun k s hs => ?_, ?_⟩
  · have hk : k < gs.length := by
      have := (List.getElem?_eq_some_iff.1 hs).1
      rwa [wsegs_len] at this
    obtain ⟨g, hg⟩ : ∃ g, gs[k]? = some g := ⟨gs[k], List.getElem?_eq_getElem hk⟩
    have hs' := wsegs_at gs 0 k g hg
    dsimp only at hs
    rw [hs'] at hs
    simp only [Option.some.injEq] at hs
    subst hs
    have hle : (gs.take k).flatten.length ≤ gs.flatten.length := by
      conv => rhs; rw [← List.take_append_drop k gs, List.flatten_append, List.length_append]
      omega
    refine ⟨⟨⟨by dsimp only; omega, by dsimp only; omega⟩, fun h0 => ?_⟩, wn_data (hr g (List.mem_of_getElem? hg))⟩
    dsimp only
    rw [hst k (by omega) h0]
    omega
  · dsimp only
    rw [wsegs_len]
    by_cases h0 : gs.length = 0
    · rw [h0]; rfl
    · rw [hst _ (Nat.le_refl _) (by omega), List.take_of_length_le (Nat.le_refl _)]

/-- a record more -/
noncomputable def gput (limit : Int) (gs : List (List (List UInt8))) (r : List UInt8) : List (List (List UInt8)) :=
  if gs.length = 0 ∨ limit ≤ ((wdata (gs.getLastD [])).length : Nat) then gs ++ [[r]] else gs.dropLast ++ [gs.getLastD [] ++ [r]]
theorem last_split (gs : List (List (List UInt8))) (h : ¬ gs.length = 0) : gs = gs.dropLast ++ [gs.getLastD []] := by
  have hne : gs ≠ [] := fun e => h (by rw [e]; rfl)
  conv => lhs; rw [← List.dropLast_concat_getLast hne]
  rw [List.getLastD_eq_getLast?, List.getLast?_eq_some_getLast hne]; rfl
theorem gput_flat (limit : Int) (gs : List (List (List UInt8))) (r : List UInt8) : (gput limit gs r).flatten = gs.flatten ++ [r] := by
  unfold gput
  split
  · simp
  · rename_i h
    have h0 : ¬ gs.length = 0 := fun e => h (.inl e)
    conv => rhs; rw [last_split gs h0]
    simp
theorem gput_len (limit : Int) (gs : List (List (List UInt8))) (r : List UInt8) : (gput limit gs r).length ≤ gs.length + 1 := by
  unfold gput
  split
  · simp
  · simp
theorem wlast_snoc (xs : List Wrt) (y : Wrt) : wlast (xs ++ [y]) = y := by
  unfold wlast; simp
theorem wlay_laid (gs : List (List (List UInt8))) (g : List (List UInt8)) (r : List UInt8) (n : Int) : wlay (wsegs n (gs ++ [g])) r = wsegs n (gs ++ [g ++ [r]]) := by
  unfold wlay
  rw [wsegs_snoc, wlast_snoc, wsegs_snoc, wdata_snoc]
  simp
theorem wone_laid {limit : Int} {gs : List (List (List UInt8))} {r : List UInt8} (h1 : gs.flatten.length < 1099511627776) (h2 : gs.length < 4096) : wone limit (wsegs 0 gs, (gs.flatten.length : Nat)) r = some (wsegs 0 (gput limit gs r), (((gput limit gs r).flatten.length : Nat) : Int)) := by
  have hroom : ∃ hs g, wroom limit (wsegs 0 gs) (gs.flatten.length : Nat) = wsegs 0 (hs ++ [g]) ∧ gput limit gs r = hs ++ [g ++ [r]] ∧ hs.length + 1 ≤ 4096 := by
    by_cases h0 : gs.length = 0
    · refine ⟨gs, [], ?_, ?_, by omega⟩
      · rw [wsegs_snoc]
        unfold wroom
        rw [if_pos (.inl (by rw [wsegs_len]; exact h0)), wdata_nil]
        simp
      · unfold gput; rw [if_pos (.inl h0)]; rfl
    · have hl : (wlast (wsegs 0 gs)).2 = wdata (gs.getLastD []) := by
        conv => lhs; rw [last_split gs h0]
        rw [wsegs_snoc, wlast_snoc]
      by_cases hc : limit ≤ ((wdata (gs.getLastD [])).length : Nat)
      · refine ⟨gs, [], ?_, ?_, by omega⟩
        · rw [wsegs_snoc]
          unfold wroom
          rw [hl, if_pos (.inr hc), wdata_nil]
          simp
        · unfold gput; rw [if_pos (.inr hc)]; rfl
      · refine ⟨gs.dropLast, gs.getLastD [], ?_, ?_, by simp; omega⟩
        · rw [← last_split gs h0]
          unfold wroom
          rw [hl, if_neg (fun h => h.elim (fun h => h0 (by rwa [wsegs_len] at h)) hc)]
        · unfold gput; rw [if_neg (fun h => h.elim h0 hc)]
  obtain ⟨hs, g, e1, e2, e3⟩ := hroom
  have e4 : ((gput limit gs r).flatten.length : Nat) = gs.flatten.length + 1 := by rw [gput_flat]; simp
  unfold wone
  dsimp only
  rw [e1, if_neg (by rw [wsegs_len]; simp only [List.length_append, List.length_singleton]; omega), wlay_laid, ← e2, e4]
  simp
theorem gfold_flat (limit : Int) : ∀ (rs : List (List UInt8)) (gs : List (List (List UInt8))), (rs.foldl (gput limit) gs).flatten = gs.flatten ++ rs
  | [], gs => by simp
  | r :: rs, gs => by rw [List.foldl_cons, gfold_flat limit rs, gput_flat]; simp
theorem gfold_len (limit : Int) : ∀ (rs : List (List UInt8)) (gs : List (List (List UInt8))), (rs.foldl (gput limit) gs).length ≤ gs.length + rs.length
  | [], gs => by simp
  | r :: rs, gs => by
    rw [List.foldl_cons]
    have := gfold_len limit rs (gput limit gs r)
    have := gput_len limit gs r
    simp only [List.length_cons]
    omega
theorem wfs_laid {limit : Int} {gs : List (List (List UInt8))} {rs : List (List UInt8)} (h1 : gs.flatten.length + rs.length ≤ 1099511627776) (h2 : gs.length + rs.length ≤ 4096) :
    ∀ k, k ≤ rs.length → wfs limit (wsegs 0 gs, (gs.flatten.length : Nat), rs) k = some (wsegs 0 ((rs.take k).foldl (gput limit) gs), ((((rs.take k).foldl (gput limit) gs).flatten.length : Nat) : Int))
  | 0, _ => by simp [wfs]
  | k + 1, hk => by
    obtain ⟨r, hr⟩ : ∃ r, rs[k]? = some r := ⟨rs[k], List.getElem?_eq_getElem (by omega)⟩
    have ih := wfs_laid (limit := limit) h1 h2 k (by omega)
    have hf := gfold_flat limit (rs.take k) gs
    have hl := gfold_len limit (rs.take k) gs
    have e : rs.take (k + 1) = rs.take k ++ [r] := by rw [List.take_add_one, hr]; rfl
    rw [wfs_next ih hr, wone_laid (by rw [hf, List.length_append, List.length_take]; omega) (by rw [List.length_take] at hl; omega), e, List.foldl_append]
    rfl
/-- what Flush makes of a laid log -/
theorem wflush_laid {limit : Int} {gs : List (List (List UInt8))} {rs : List (List UInt8)} (hl : 1 ≤ limit ∧ limit ≤ 1048576) (h1 : gs.flatten.length + rs.length ≤ 1099511627776) (h2 : gs.length + rs.length ≤ 4096) (hr : ∀ g ∈ gs, ∀ r ∈ g, r.length ≤ 4096) (hw : wwaitOk rs) :
    wflush (wsegs 0 gs, (gs.flatten.length : Nat), rs) limit = ((wsegs 0 (rs.foldl (gput limit) gs), (((rs.foldl (gput limit) gs).flatten.length : Nat) : Int), []), 0) := by
  have := wfs_laid (limit := limit) h1 h2 rs.length (Nat.le_refl _)
  rw [List.take_of_length_le (Nat.le_refl _)] at this
  exact wflush_0 (wok_laid (by omega) hr (by omega) (by omega) hw) (by omega) this

end Go.Proofs.Ytlnoancjegifnaa
