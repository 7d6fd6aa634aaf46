/-
  Logs that were laid: what Recover and Records tell of them. Nothing of the program is named.
-/
import Derived.Test.YtlnoancjegifnaaWLaid
namespace Go.Proofs.Ytlnoancjegifnaa
set_option linter.unusedVariables false

theorem wall_laid : ∀ (gs : List (List (List UInt8))) (n : Int), (∀ g ∈ gs, ∀ r ∈ g, r.length ≤ 4096) → wall (wsegs n gs) = gs.flatten
  | [], _, _ => rfl
  | g :: gs, n, h => by
    have ih := wall_laid gs (n + (g.length : Nat)) fun x hx => h x (List.mem_cons_of_mem _ hx)
    unfold wall at ih ⊢
    rw [wsegs, List.flatMap_cons, ih, wrecs_data (h g (List.mem_cons_self ..)), List.flatten_cons]
theorem take_snoc {α : Type} {xs : List α} {k : Nat} {x : α} (h : xs[k]? = some x) : xs.take (k + 1) = xs.take k ++ [x] := by rw [List.take_add_one, h]; rfl
theorem flat_take_le (gs : List (List (List UInt8))) (k : Nat) : (gs.take k).flatten.length ≤ gs.flatten.length := by
  conv => rhs; rw [← List.take_append_drop k gs, List.flatten_append, List.length_append]
  omega
theorem wrecords_laid {gs : List (List (List UInt8))} (hl : gs.length ≤ 4096) (hr : ∀ g ∈ gs, ∀ r ∈ g, r.length ≤ 4096) (hn : gs.flatten.length ≤ 1099511627776) : wrecords (wsegs 0 gs, (gs.flatten.length : Nat), []) = (gs.flatten, 0, 0) := by
  unfold wrecords
  rw [if_pos (wok_laid hl hr hn (by decide) (fun r hr => by cases hr))]
  dsimp only
  rw [wall_laid gs 0 hr]
  simp
theorem wrs_laid {gs : List (List (List UInt8))} (hr : ∀ g ∈ gs, ∀ r ∈ g, r.length ≤ 4096) (hne : ∀ g ∈ gs, g ≠ []) (hn : gs.flatten.length ≤ 1099511627776) :
    ∀ k, k ≤ gs.length → wrs (wsegs 0 gs) k = .inl ((wsegs 0 (gs.take k), (((gs.take k).flatten.length : Nat) : Int)), (gs.take k).flatten)
  | 0, _ => by
    have : ((wsegs 0 gs).getD 0 (0, [])).1 = 0 := by
      cases gs with
      | nil => rfl
      | cons g gs => rfl
    show Sum.inl (([], ((wsegs 0 gs).getD 0 (0, [])).1), []) = _
    rw [this]; rfl
  | k + 1, hk => by
    obtain ⟨g, hg⟩ : ∃ g, gs[k]? = some g := ⟨gs[k], List.getElem?_eq_getElem (by omega)⟩
    have hgm := List.mem_of_getElem? hg
    have ih := wrs_laid hr hne hn k (by omega)
    have hs := wsegs_at gs 0 k g hg
    have hle := flat_take_le gs (k + 1)
    have e := take_snoc hg
    have hfl : (gs.take (k + 1)).flatten = (gs.take k).flatten ++ g := by rw [e, List.flatten_append]; simp
    rw [hfl, List.length_append] at hle
    rw [wrs_next ih hs]
    have hrd := wrecs_data (hr g hgm)
    have hwn := wn_data (hr g hgm)
    have hpos : 0 < wn (wdata g) := by
      rw [hwn, wdata_len]
      cases g with
      | nil => exact absurd rfl (hne _ hgm)
      | cons r g => simp only [wsz]; omega
    unfold wrone
    dsimp only
    rw [hrd, if_neg (by simp), if_neg (by omega), if_neg (fun h => h.1 hwn)]
    unfold wgone
    dsimp only
    rw [if_pos (.inl hpos), hwn, List.take_of_length_le (Nat.le_refl _), hfl, e, wsegs_snoc, List.length_append]
    congr 3
/-- what was laid is recovered -/
theorem wrecover_laid {gs : List (List (List UInt8))} (hl : gs.length ≤ 4096) (hr : ∀ g ∈ gs, ∀ r ∈ g, r.length ≤ 4096) (hne : ∀ g ∈ gs, g ≠ []) (hn : gs.flatten.length ≤ 1099511627776) : wrecover (wsegs 0 gs) = ((wsegs 0 gs, ((gs.flatten.length : Nat) : Int), []), gs.flatten, 0) := by
  cases gs with
  | nil => rfl
  | cons g gs =>
    have h := wrs_laid hr hne hn (g :: gs).length (Nat.le_refl _)
    rw [List.take_of_length_le (Nat.le_refl _)] at h
    unfold wrecover
    rw [if_neg (by rw [wsegs_len]; simp), if_neg (fun h => by
      rcases h with h | h
      · rw [wsegs_len] at h; omega
      · exact h ⟨Int.le_refl _, by show (0 : Int) ≤ 1099511627776; decide⟩), wsegs_len, h]
theorem gput_ne {limit : Int} {gs : List (List (List UInt8))} {r : List UInt8} (h : ∀ g ∈ gs, g ≠ []) : ∀ g ∈ gput limit gs r, g ≠ [] := by
  intro g hg
  unfold gput at hg
  split at hg
  · rcases List.mem_append.1 hg with hg | hg
    · exact h g hg
    · simp only [List.mem_singleton] at hg; subst hg; simp
  · rcases List.mem_append.1 hg with hg | hg
    · exact h g (List.dropLast_subset _ hg)
    · simp only [List.mem_singleton] at hg; subst hg; simp
theorem gfold_ne (limit : Int) : ∀ (rs : List (List UInt8)) (gs : List (List (List UInt8))), (∀ g ∈ gs, g ≠ []) → ∀ g ∈ rs.foldl (gput limit) gs, g ≠ []
  | [], gs, h => h
  | r :: rs, gs, h => by rw [List.foldl_cons]; exact gfold_ne limit rs _ (gput_ne h)
theorem short_flat {gs : List (List (List UInt8))} : (∀ g ∈ gs, ∀ r ∈ g, r.length ≤ 4096) ↔ ∀ r ∈ gs.flatten, r.length ≤ 4096 := by
  constructor
  · intro h r hr
    obtain ⟨g, hg, hrg⟩ := List.mem_flatten.1 hr
    exact h g hg r hrg
  · intro h g hg r hr
    exact h r (List.mem_flatten.2 ⟨g, hg, hr⟩)

/-- the first segments laid, whatever comes behind them -/
theorem wrs_first {segs : List Wrt} {gs : List (List (List UInt8))} (h0 : (segs.getD 0 (0, [])).1 = 0) (hat : ∀ k g, gs[k]? = some g → segs[k]? = some (0 + (((gs.take k).flatten.length : Nat) : Int), wdata g)) (hr : ∀ g ∈ gs, ∀ r ∈ g, r.length ≤ 4096) (hne : ∀ g ∈ gs, g ≠ []) (hn : gs.flatten.length ≤ 1099511627776) :
    ∀ k, k ≤ gs.length → wrs segs k = .inl ((wsegs 0 (gs.take k), (((gs.take k).flatten.length : Nat) : Int)), (gs.take k).flatten)
  | 0, _ => by
    show Sum.inl (([], (segs.getD 0 (0, [])).1), []) = _
    rw [h0]; rfl
  | k + 1, hk => by
    obtain ⟨g, hg⟩ : ∃ g, gs[k]? = some g := ⟨gs[k], List.getElem?_eq_getElem (by omega)⟩
    have hgm := List.mem_of_getElem? hg
    have ih := wrs_first h0 hat hr hne hn k (by omega)
    have hs := hat k g hg
    have hle := flat_take_le gs (k + 1)
    have e := take_snoc hg
    have hfl : (gs.take (k + 1)).flatten = (gs.take k).flatten ++ g := by rw [e, List.flatten_append]; simp
    rw [hfl, List.length_append] at hle
    rw [wrs_next ih hs]
    have hrd := wrecs_data (hr g hgm)
    have hwn := wn_data (hr g hgm)
    have hpos : 0 < wn (wdata g) := by
      rw [hwn, wdata_len]
      cases g with
      | nil => exact absurd rfl (hne _ hgm)
      | cons r g => simp only [wsz]; omega
    unfold wrone
    dsimp only
    rw [hrd, if_neg (by simp), if_neg (by omega), if_neg (fun h => h.1 hwn)]
    unfold wgone
    dsimp only
    rw [if_pos (.inl hpos), hwn, List.take_of_length_le (Nat.le_refl _), hfl, e, wsegs_snoc, List.length_append]
    congr 3
theorem eAt_wsz (g : List (List UInt8)) (m : Nat) : eAt (g.map fun r => ((1 : UInt8), r)) m = wsz (g.take m) := by
  unfold eAt
  rw [← List.map_take]
  exact wdata_len (g.take m)
/-- a segment that is cut off -/
theorem wrecs_torn {g : List (List UInt8)} (hg : ∀ r ∈ g, r.length ≤ 4096) {cut m : Nat} (hm : m ≤ g.length) (h1 : wsz (g.take m) ≤ cut) (h2 : m = g.length ∨ cut < wsz (g.take (m + 1))) : wrecs ((wdata g).take cut) = g.take m := by
  have h := sc_torn (g.map fun r => ((1 : UInt8), r)) (fun f hf => by obtain ⟨r, hr, rfl⟩ := List.mem_map.1 hf; exact hg r hr) cut m (by simpa using hm) (by rw [eAt_wsz]; exact h1) (by rw [eAt_wsz]; simpa using h2)
  unfold wrecs
  rw [show (wdata g).take cut = (layG (g.map fun r => ((1 : UInt8), r))).take cut from rfl, wscan_of h, ← List.map_take, wones_one, List.map_map]
  have : (Prod.snd ∘ fun r : List UInt8 => ((1 : UInt8), r)) = id := rfl
  rw [this, List.map_id]
/-- where the last segment is cut off, what lies ahead of the cut is recovered -/
theorem wrecover_torn {hs : List (List (List UInt8))} {g : List (List UInt8)} (hl : hs.length + 1 ≤ 4096) (hr : ∀ x ∈ hs ++ [g], ∀ r ∈ x, r.length ≤ 4096) (hne : ∀ x ∈ hs, x ≠ []) (hn : (hs ++ [g]).flatten.length ≤ 1099511627776) {cut m : Nat} (hm : m ≤ g.length) (h1 : wsz (g.take m) ≤ cut) (h2 : m = g.length ∨ cut < wsz (g.take (m + 1))) :
    (wrecover (wsegs 0 hs ++ [(((hs.flatten.length : Nat) : Int), (wdata g).take cut)])).2 = (hs.flatten ++ g.take m, 0) := by
  have hgr : ∀ r ∈ g, r.length ≤ 4096 := hr g (by simp)
  have hhr : ∀ x ∈ hs, ∀ r ∈ x, r.length ≤ 4096 := fun x hx => hr x (List.mem_append_left _ hx)
  obtain ⟨segs, hsg⟩ : ∃ segs, segs = wsegs 0 hs ++ [(((hs.flatten.length : Nat) : Int), (wdata g).take cut)] := ⟨_, rfl⟩
  have hlen : segs.length = hs.length + 1 := by rw [hsg, List.length_append, wsegs_len]; rfl
  have hat : ∀ k x, hs[k]? = some x → segs[k]? = some (0 + (((hs.take k).flatten.length : Nat) : Int), wdata x) := fun k x hx => by
    have hk : k < hs.length := (List.getElem?_eq_some_iff.1 hx).1
    rw [hsg, List.getElem?_append_left (by rw [wsegs_len]; exact hk)]
    exact wsegs_at hs 0 k x hx
  have hlast : segs[hs.length]? = some (((hs.flatten.length : Nat) : Int), (wdata g).take cut) := by
    rw [hsg, List.getElem?_append_right (by rw [wsegs_len]; exact Nat.le_refl _), wsegs_len]; simp
  have h0 : (segs.getD 0 (0, [])).1 = 0 := by
    rw [hsg]
    cases hs with
    | nil => rfl
    | cons x hs => rfl
  have hfl : (hs ++ [g]).flatten.length = hs.flatten.length + g.length := by simp
  have hk := wrs_first h0 hat hhr hne (by omega) hs.length (Nat.le_refl _)
  rw [List.take_of_length_le (Nat.le_refl _)] at hk
  have hstep := wrs_next hk hlast
  have htr := wrecs_torn hgr hm h1 h2
  have hml : (g.take m).length ≤ g.length := by rw [List.length_take]; omega
  unfold wrone at hstep
  dsimp only at hstep
  rw [htr, if_neg (by simp), if_neg (by omega), if_neg (fun h => by have := h.2; omega)] at hstep
  rw [← hsg]
  unfold wrecover
  rw [if_neg (by omega), if_neg (fun h => by
    rcases h with h | h
    · omega
    · exact h (by rw [h0]; exact ⟨Int.le_refl _, by decide⟩)), hlen, hstep]
  rfl

end Go.Proofs.Ytlnoancjegifnaa
