/-
  What a law's walk is told of a log, of segments and of batches that came in.
-/
import Derived.Test.YtibkanmboglcgaaShpIn
import Derived.Test.YtibkanmboglcgaaWAlive
namespace Go.Proofs.Ytibkanmboglcgaa
open Go.ChangeShapes Go.WideShapes Go.ChangeAt Go.RowKit
set_option linter.unusedVariables false

theorem opens_octs1 : Opens Shp.octs 54 (fun x => x.length ≤ 140737488351232) (fun x => x.length + 1) := by
  refine ⟨by kernel_rfl, fun {H enc W fuel cs x} h => ?_⟩
  obtain ⟨d, p⟩ := x
  obtain ⟨a, len, cap, rfl⟩ : ∃ a len cap, cs = [.slice a len cap] := by
    rcases open_ints Try.underlying54 Try.underlying5 (by kernel_rfl) h with ⟨hcs, _⟩ | ⟨x, l, c, zs, hcs, _⟩
    · exact ⟨_, _, _, hcs⟩
    · exact ⟨_, _, _, hcs⟩
  obtain ⟨xs, e, r, s⟩ := open_octs (d := d) (p := p) ⟨fuel, h⟩
  refine ⟨xs, ⟨_, rfl, r⟩, fun hw => ?_, ?_⟩
  · rcases s with s | ⟨el, sp, rfl, hel⟩
    · omega
    · have := hw ((el.length + sp.length) * Try.prog.bytesOf 5) (by simp [DataW.weights, Try.underlying54])
      rw [bytes8] at this
      simp only [reachBytes] at this
      omega
  · rcases s with s | ⟨el, sp, rfl, hel⟩
    · have := bulk_pos d
      dsimp only
      omega
    · have := bulk_len el
      simp only [Rows.uptoBulk]
      omega
theorem open_sectors : Opens SSec 23 (fun xs => xs.length * 24 ≤ 140737488351232 ∧ ∀ x ∈ xs, x.length ≤ 140737488351232) (fun xs => (xs.map (fun x => x.length + 1)).sum) :=
  opens_octs1.list Try.underlying23 (by kernel_rfl) (by kernel_rfl) (by decide)
theorem open_seg : Opens SWr 57 (fun z => True ∧ z.2.length ≤ 140737488351232) (fun z => 1 + z.2.length) :=
  (opens_int Try.underlying3 (by kernel_rfl)).pair opens_octs Try.underlying57 (by kernel_rfl) rfl rfl
abbrev SSegs : Shp (List Wrt) := Shp.list 57 SWr
theorem open_wsegs : Opens SSegs 22 (fun xs => xs.length * 32 ≤ 140737488351232 ∧ ∀ z ∈ xs, True ∧ z.2.length ≤ 140737488351232) (fun xs => (xs.map (fun z => 1 + z.2.length)).sum) :=
  open_seg.list Try.underlying22 (by kernel_rfl) (by kernel_rfl) (by decide)
theorem open_i64 : Opens (Shp.int .i64) 3 (fun _ => True) (fun _ => 1) := opens_int Try.underlying3 (by kernel_rfl)
set_option maxRecDepth 100000 in
theorem open_wlog : Opens SLogR 25 (fun z => (z.1.length * 32 ≤ 140737488351232 ∧ ∀ y ∈ z.1, True ∧ y.2.length ≤ 140737488351232) ∧ (True ∧ (z.2.2.length * 24 ≤ 140737488351232 ∧ ∀ x ∈ z.2.2, x.length ≤ 140737488351232))) (fun z => (z.1.map (fun y => 1 + y.2.length)).sum + (1 + (z.2.2.map (fun x => x.length + 1)).sum)) :=
  open_wsegs.three open_i64 open_sectors Try.underlying25 (by kernel_rfl) rfl rfl rfl
abbrev SBat : Shp (List (List (List UInt8))) := Shp.list 23 SSec
theorem open_batches : Opens SBat 60 (fun xs => xs.length * 24 ≤ 140737488351232 ∧ ∀ z ∈ xs, z.length * 24 ≤ 140737488351232 ∧ ∀ x ∈ z, x.length ≤ 140737488351232) (fun xs => (xs.map (fun z => (z.map (fun x => x.length + 1)).sum)).sum) :=
  open_sectors.list Try.underlying60 (by kernel_rfl) (by kernel_rfl) (by decide)

theorem wlog_fit {l : Wlg} (h : (l.1.length * 32 ≤ 140737488351232 ∧ ∀ y ∈ l.1, True ∧ y.2.length ≤ 140737488351232) ∧ (True ∧ (l.2.2.length * 24 ≤ 140737488351232 ∧ ∀ x ∈ l.2.2, x.length ≤ 140737488351232))) : wfit l :=
  ⟨h.1.1, fun y hy => (h.1.2 y hy).2, h.2.2.1, h.2.2.2⟩
theorem wlog_form {w : World} {cs : Array Value} {l : Wlg} (h : SLogR.rd w cs.toList l) : ∃ sv wv, cs = #[sv, .int .i64 l.2.1, wv] ∧ RdC w sv l.1 ∧ RdSec w wv l.2.2 := by
  obtain ⟨c, e, hc, ⟨v1, rfl, r1⟩, ⟨c2, e2, rfl, rfl, ⟨v2, rfl, r2⟩⟩⟩ := h
  refine ⟨v1, v2, ?_, r1, r2⟩
  cases cs
  simpa using hc
theorem bulk_lists : ∀ {xs : List (List UInt8)} {n : Nat}, (xs.map (fun x => x.length + 1)).sum ≤ n → xs.length ≤ n ∧ ∀ x ∈ xs, x.length ≤ n
  | [], n, h => ⟨Nat.zero_le _, fun x hx => by cases hx⟩
  | y :: xs, n, h => by
    simp only [List.map_cons, List.sum_cons] at h
    obtain ⟨i1, i2⟩ := bulk_lists (xs := xs) (n := n - (y.length + 1)) (by omega)
    refine ⟨by simp only [List.length_cons]; omega, fun x hx => ?_⟩
    rcases List.mem_cons.1 hx with rfl | hx
    · omega
    · have := i2 x hx; omega
theorem bulk_segs : ∀ {segs : List Wrt} {n : Nat}, (segs.map (fun y => 1 + y.2.length)).sum ≤ n → segs.length ≤ n ∧ ∀ s ∈ segs, s.2.length ≤ n
  | [], n, h => ⟨Nat.zero_le _, fun x hx => by cases hx⟩
  | y :: xs, n, h => by
    simp only [List.map_cons, List.sum_cons] at h
    obtain ⟨i1, i2⟩ := bulk_segs (segs := xs) (n := n - (1 + y.2.length)) (by omega)
    refine ⟨by simp only [List.length_cons]; omega, fun x hx => ?_⟩
    rcases List.mem_cons.1 hx with rfl | hx
    · omega
    · have := i2 x hx; omega
/-- a log of small bulk fits -/
theorem wlog_small {l : Wlg} (h : (l.1.map (fun y => 1 + y.2.length)).sum + (1 + (l.2.2.map (fun x => x.length + 1)).sum) ≤ 1048576) : wfit l ∧ wshort l.1 := by
  obtain ⟨a1, a2⟩ := bulk_segs (segs := l.1) (n := 1048576) (by omega)
  obtain ⟨b1, b2⟩ := bulk_lists (xs := l.2.2) (n := 1048576) (by omega)
  exact ⟨⟨by omega, fun x hx => by have := a2 x hx; omega, by omega, fun y hy => by have := b2 y hy; omega⟩, fun s hs => by have := a2 s hs; omega⟩
/-- a log of small bulk has short segments -/
theorem wshort_bulk : ∀ {segs : List Wrt} {n : Nat}, (segs.map (fun y => 1 + y.2.length)).sum ≤ n → ∀ s ∈ segs, s.2.length ≤ n
  | [], n, h, s, hs => by cases hs
  | y :: segs, n, h, s, hs => by
    simp only [List.map_cons, List.sum_cons] at h
    rcases List.mem_cons.1 hs with rfl | hs
    · omega
    · exact wshort_bulk (segs := segs) (n := n) (by omega) s hs

end Go.Proofs.Ytibkanmboglcgaa
