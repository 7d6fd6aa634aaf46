/-
  What a law's walk is told of a list of the page's frames that came in ('RdFs'), and its bulk.
-/
import Derived.Deep.SlicePairs
import Derived.Test.YtmdbgmnohdeoeaaFrF
import Derived.Test.YtmdbgmnohdeoeaaFList
import Derived.Test.YtmdbgmnohdeoeaaFLay
namespace Go.Proofs.Ytmdbgmnohdeoeaa
open Go.ChangeShapes Go.WideShapes Go.ChangeAt Go.RowKit
set_option linter.unusedVariables false

theorem choose_upto {α : Type} [Inhabited α] {p : Nat → α → Prop} : ∀ n : Nat, (∀ i, i < n → ∃ x, p i x) → ∃ xs : List α, xs.length = n ∧ ∀ i, i < n → p i (xs.getD i default)
  | 0, _ => ⟨[], rfl, fun i hi => absurd hi (Nat.not_lt_zero _)⟩
  | n + 1, h => by
    obtain ⟨xs, h1, h2⟩ := choose_upto n fun i hi => h i (by omega)
    obtain ⟨x, hx⟩ := h n (by omega)
    refine ⟨xs ++ [x], by simp [h1], fun i hi => ?_⟩
    by_cases e : i < n
    · have : (xs ++ [x]).getD i default = xs.getD i default := by simp [List.getD_eq_getElem?_getD, List.getElem?_append_left (show i < xs.length by omega)]
      rw [this]; exact h2 i e
    · obtain rfl : i = n := by omega
      have : (xs ++ [x]).getD i default = x := by rw [← h1]; simp [List.getD_eq_getElem?_getD]
      rw [this]; exact hx
theorem fbulk_range {H : Type} (D : Nat → DataW H) (fs : List Frm) (h : ∀ i, i < fs.length → (fs.getD i default).2.length + 3 ≤ Rows.uptoBulk (D i)) : fbulk fs ≤ Rows.uptoBulkAll ((List.range fs.length).map D) := by
  induction fs generalizing D with
  | nil => simp [fbulk]
  | cons f r ih =>
    rw [List.length_cons, List.range_succ_eq_map, List.map_cons, List.map_map]
    simp only [fbulk, Rows.uptoBulkAll]
    have h0 := h 0 (by simp)
    have := ih (D ∘ Nat.succ) fun i hi => by
      have := h (i + 1) (by simp; omega)
      simpa [List.getD_eq_getElem?_getD] using this
    simp [List.getD_eq_getElem?_getD] at h0
    omega

theorem open_frames {H : Type} {enc : TypeId × Value → H} {W : World} {a : Option Addr} {len cap : Nat} {d : DataW H} {p : List MemPlace}
    (h : DataW.Trod enc Try.prog W 0 (fun _ => true) true 39 (.slice a len cap) d p) :
    ∃ fs : List Frm, fs.length = len ∧ RdFs W (.slice a len cap) fs ∧ fbulk fs ≤ Rows.uptoBulk d := by
  obtain ⟨fuel, hf⟩ := h
  rcases Deep.open_slice_pairs Try.underlying39 Try.underlying24 (by kernel_rfl) rfl rfl (by kernel_rfl) (by kernel_rfl) hf with ⟨hcs, hx⟩ | ⟨x, l, c, m, n, V0, V1, D0, D1, P0, P1, hcs, _, hl, hm, hmm, hx, hc⟩
  · simp [Value.cells] at hcs
    obtain ⟨rfl, rfl, rfl⟩ := hcs
    exact ⟨[], rfl, ⟨none, 0, rfl, Nat.le_refl _, Nat.zero_le _, fun _ => rfl, .inl rfl⟩, Nat.zero_le _⟩
  · simp [Value.cells] at hcs
    obtain ⟨rfl, rfl, rfl⟩ := hcs
    simp only [if_true] at hmm
    subst hmm
    simp only [Prod.mk.injEq] at hx
    have each : ∀ i, i < len → ∃ f : Frm, W.cell? (x.add (i * 2)) = some (.int .u8 (f.1.toNat : Int)) ∧ W.cell? (x.add (i * 2 + 1)) = some (V1 i) ∧ Rd W (V1 i) f.2 ∧ f.2.length + 3 ≤ Rows.uptoBulk (.agg [D0 i, D1 i]) := by
      intro i hi
      obtain ⟨c0, c1, t0, t1⟩ := hc i (by omega)
      obtain ⟨z, hz, _, wz⟩ := DataW.trod_int Try.underlying5 t0
      obtain ⟨xs, r, s⟩ := open_octs_cell (sv := V1 i) t1
      have hb : 0 ≤ z ∧ z ≤ 255 := by simpa [Lit.wf, IntKind.min, IntKind.max, IntKind.signed, IntKind.bits] using wz
      simp at hz
      refine ⟨(UInt8.ofNat z.toNat, xs), ?_, c1, r, ?_⟩
      · rw [c0, hz]
        rw [UInt8.toNat_ofNat_of_lt' (by show _ < 256; omega), Int.toNat_of_nonneg hb.1]
      · simp only [Rows.uptoBulk, Rows.uptoBulkAll]
        have p0 := bulk_pos (D0 i)
        rcases s with s | ⟨el, sp, e, hel⟩
        · have := bulk_pos (D1 i); omega
        · have e' : D1 i = .slice el sp := e
          rw [e']
          simp only [Rows.uptoBulk]
          have := bulk_len el
          omega
    obtain ⟨fs, h1, h2⟩ := choose_upto len each
    refine ⟨fs, h1, ⟨some x, m, by rw [h1], by omega, hm, (fun h => by cases h), ?_⟩, ?_⟩
    · by_cases h0 : len = 0
      · left; exact List.eq_nil_of_length_eq_zero (by omega)
      · right
        obtain ⟨b, off, spot⟩ := x
        have hc0 := (h2 0 (by omega)).1
        have hspot : spot = none := by simpa [Addr.add] using World.cell?_spot hc0
        subst hspot
        refine ⟨b, off, rfl, fun i hi => ?_⟩
        obtain ⟨k1, k2, k3, _⟩ := h2 i (by omega)
        have ea : ∀ j, (⟨b, off, none⟩ : Addr).add j = ⟨b, off + j, none⟩ := by
          intro j
          by_cases hj : j = 0
          · subst hj; simp [Addr.add]
          · simp [Addr.add, hj]
        rw [ea] at k1 k2
        exact ⟨k1, V1 i, by rw [Nat.add_assoc]; exact k2, k3⟩
    · rw [hx.1]
      simp only [Rows.uptoBulk]
      have := fbulk_range (fun i => .agg [D0 i, D1 i]) fs (fun i hi => (h2 i (by omega)).2.2.2)
      rw [h1] at this
      omega

theorem small_frames {H : Type} {ds : List (DataW H)} (hk : Rows.uptoSmall H ds = true) {d : DataW H} {fs : List Frm} (hd : d ∈ ds) (h : fbulk fs ≤ Rows.uptoBulk d) : fbulk fs ≤ 1048576 := by
  have h1 : Rows.uptoBulkAll ds ≤ 1048576 := of_decide_eq_true hk
  have h2 := bulk_mem hd
  omega

end Go.Proofs.Ytmdbgmnohdeoeaa
