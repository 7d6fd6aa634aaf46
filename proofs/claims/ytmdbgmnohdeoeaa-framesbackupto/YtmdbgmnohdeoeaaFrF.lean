/-
  What a law's walk is told of a frame of the page's that came in: its kind, its octets.
-/
import Derived.Test.YtmdbgmnohdeoeaaFr
import Derived.ChangeSame
import Derived.WideShapes
import Derived.ChangeSlices
import Derived.ChangeArms
namespace Go.Proofs.Ytmdbgmnohdeoeaa
open Go.ChangeShapes Go.WideShapes Go.ChangeAt Go.RowKit
set_option linter.unusedVariables false

theorem open_octs_cell {H : Type} {enc : TypeId × Value → H} {W : World} {fuel : Nat} {sv : Value} {x : DataW H × List MemPlace} (hf : DataW.trod enc Try.prog W 0 (fun _ => true) true fuel 22 [sv] = some x) :
    ∃ xs : List UInt8, Rd W sv xs ∧ (xs.length = 0 ∨ ∃ el sp, x.1 = .slice el sp ∧ el.length = xs.length) := by
  obtain ⟨d, p⟩ := x
  obtain ⟨a, len, cap, rfl⟩ : ∃ a len cap, sv = .slice a len cap := by
    rcases open_ints Try.underlying22 Try.underlying5 (by kernel_rfl) hf with ⟨hcs, _⟩ | ⟨x, l, c, zs, hcs, _⟩
    · simp at hcs; exact ⟨_, _, _, hcs⟩
    · simp at hcs; exact ⟨_, _, _, hcs⟩
  obtain ⟨xs, e, r, s⟩ := open_octs (d := d) (p := p) ⟨fuel, hf⟩
  subst e
  exact ⟨xs, r, s⟩

theorem open_frame {H : Type} {enc : TypeId × Value → H} {W : World} {base : Nat} {v : Value} {d : DataW H} {p : List MemPlace}
    (h : DataW.Trod enc Try.prog W 0 (fun _ => true) true 24 v d p) (hv : Value.okWide Try.prog W .any base 24 v) :
    ∃ (k : UInt8) (sv : Value) (xs : List UInt8), v = .agg #[.int .u8 (k.toNat : Int), sv] ∧ Rd W sv xs ∧ ∃ d0 d1, d = .agg [d0, d1] ∧ (xs.length = 0 ∨ ∃ el sp, d1 = .slice el sp ∧ el.length = xs.length) := by
  obtain ⟨cs, rfl, hs⟩ := okWide_struct Try.underlying24 hv
  obtain ⟨fuel, hf⟩ := h
  obtain ⟨y0, y1, n, hx, hl, h0, h1⟩ := trod_struct2 Try.underlying24 hf
  have hc : Try.prog.cellsOf 24 = 2 := by kernel_rfl
  rw [hc] at hs
  obtain ⟨c0, c1, rfl⟩ : ∃ c0 c1, cs = #[c0, c1] := by
    match cs, hs with
    | ⟨[c0, c1]⟩, _ => exact ⟨c0, c1, rfl⟩
  have e0 : Try.prog.cellsOf 5 = 1 := by kernel_rfl
  have e1 : Try.prog.cellsOf 22 = 1 := by kernel_rfl
  simp only [Value.cells, e0, e1] at h0 h1
  obtain ⟨z, hz, _, wz⟩ := DataW.trod_int Try.underlying5 h0
  obtain ⟨xs, r, s⟩ := open_octs_cell (sv := c1) h1
  have hb : 0 ≤ z ∧ z ≤ 255 := by simpa [Lit.wf, IntKind.min, IntKind.max, IntKind.signed, IntKind.bits] using wz
  simp at hz
  subst hz
  simp only [Prod.mk.injEq] at hx
  refine ⟨UInt8.ofNat z.toNat, c1, xs, ?_, r, y0.1, y1.1, hx.1, s⟩
  rw [UInt8.toNat_ofNat_of_lt' (by show _ < 256; omega), Int.toNat_of_nonneg hb.1]

theorem reach_frame {H : Type} {ts : List TypeId} {ds : List (DataW H)} (hsz : (DataW.weightsEach Try.prog ts ds).all (· ≤ reachBytes) = true) {j : Nat} {d : DataW H} {len : Nat}
    (ht : ts[j]? = some 24) (hd : ds[j]? = some d) (h : ∃ d0 d1, d = .agg [d0, d1] ∧ (len = 0 ∨ ∃ el sp, d1 = .slice el sp ∧ el.length = len)) : len ≤ 140737488351232 := by
  obtain ⟨d0, d1, rfl, h⟩ := h
  rcases h with rfl | ⟨el, sp, rfl, rfl⟩
  · omega
  · have hw : (el.length + sp.length) * Try.prog.bytesOf 5 ∈ (DataW.agg [d0, .slice el sp]).weights Try.prog 24 := by
      simp [DataW.weights, Try.underlying24]
      exact DataW.weights_mem_each (j := 1) rfl rfl _ (by simp [DataW.weights, Try.underlying22])
    have := List.all_eq_true.1 hsz _ (DataW.weights_mem_each ht hd _ hw)
    rw [bytes8] at this
    simp [reachBytes] at this
    omega

theorem small_frame {H : Type} {ds : List (DataW H)} (hk : Rows.uptoSmall H ds = true) {d : DataW H} {len : Nat} (hd : d ∈ ds) (h : ∃ d0 d1, d = .agg [d0, d1] ∧ (len = 0 ∨ ∃ el sp, d1 = .slice el sp ∧ el.length = len)) : len ≤ 1048576 := by
  obtain ⟨d0, d1, rfl, h⟩ := h
  rcases h with rfl | ⟨el, sp, rfl, rfl⟩
  · omega
  · have h1 : Rows.uptoBulkAll ds ≤ 1048576 := of_decide_eq_true hk
    have h2 := bulk_mem hd
    have h3 := bulk_len el
    simp only [Rows.uptoBulk, Rows.uptoBulkAll] at h2
    omega

end Go.Proofs.Ytmdbgmnohdeoeaa
