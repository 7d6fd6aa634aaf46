/-
  What the program's functions of logs answer, as the laws need it: the structure WalSay. The page's example, plainly.
-/
import Derived.Test.YtibkanmboglcgaaWLaid
import Derived.Test.YtibkanmboglcgaaWSame
import Derived.Test.YtibkanmboglcgaaWLg
namespace Go.Proofs.Ytibkanmboglcgaa
open Go.RowKit
set_option linter.unusedVariables false

def wshort (segs : List Wrt) : Prop := ∀ s ∈ segs, s.2.length ≤ 16777216
/-- the program's contracts -/
structure WalSay : Prop where
  checkS : ∀ (w : World) (sv wv : Value) (l : Wlg), RdC w sv l.1 → RdSec w wv l.2.2 → wshort l.1 →
    Calls Try.prog 22 #[.agg #[sv, .int .i64 l.2.1, wv]] w fun e w' => e = .returned (.int .i64 (wcheck l)) ∧ Below w.heap.size w w'
  appendS : ∀ (w : World) (sv wv rv : Value) (l : Wlg) (rs : List (List UInt8)), RdC w sv l.1 → RdSec w wv l.2.2 → RdSec w rv rs → wshort l.1 → rs.length ≤ 10000000000000 →
    Calls Try.prog 11 #[.agg #[sv, .int .i64 l.2.1, wv], rv] w fun e w' => ∃ sv' wv', e = .returned (.tuple #[.agg #[sv', .int .i64 (wappend l rs).1.2.1, wv'], .int .i64 (wappend l rs).2]) ∧ LgF 56 w.heap.size w' sv' wv' (wappend l rs).1 ∧ Below w.heap.size w w'
  flushS : ∀ (w : World) (sv wv : Value) (l : Wlg) (limit : Int), RdC w sv l.1 → RdSec w wv l.2.2 → wshort l.1 →
    Calls Try.prog 13 #[.agg #[sv, .int .i64 l.2.1, wv], .int .i64 limit] w fun e w' => ∃ sv' wv', e = .returned (.tuple #[.agg #[sv', .int .i64 (wflush l limit).1.2.1, wv'], .int .i64 (wflush l limit).2]) ∧ LgF 56 w.heap.size w' sv' wv' (wflush l limit).1 ∧ Below w.heap.size w w'
  recordsS : ∀ (w : World) (sv wv : Value) (l : Wlg), RdC w sv l.1 → RdSec w wv l.2.2 → wshort l.1 →
    Calls Try.prog 17 #[.agg #[sv, .int .i64 l.2.1, wv]] w fun e w' => ∃ v', e = .returned (.tuple #[v', .int .i64 (wrecords l).2.1, .int .i64 (wrecords l).2.2]) ∧ RdSec w' v' (wrecords l).1 ∧ Below w.heap.size w w'
  recoverS : ∀ (w : World) (sv : Value) (segs : List Wrt), RdC w sv segs → wshort segs →
    Calls Try.prog 26 #[sv] w fun e w' => ∃ sv' wv' rv, e = .returned (.tuple #[.agg #[sv', .int .i64 (wrecover segs).1.2.1, wv'], rv, .int .i64 (wrecover segs).2.2]) ∧ (RdC w' sv' (wrecover segs).1.1 ∧ RdSec w' wv' (wrecover segs).1.2.2 ∧ RdSec w' rv (wrecover segs).2.1) ∧ Below w.heap.size w w'

/-- the page's example -/
theorem al1 : wappend wzero [[97], [98]] = ((wsegs 0 [], 0, [[97], [98]]), 0) := by
  have h : WOk wzero := wok_laid (gs := []) (wait := []) (by decide) (fun g hg => by cases hg) (by decide) (by decide) (fun r hr => by cases hr)
  rw [wappend_0 h (by intro r hr; simp at hr; rcases hr with rfl | rfl <;> decide) (by decide)]
  rfl
theorem al_g1 : ([[97], [98]] : List (List UInt8)).foldl (gput 10) [] = [[[97], [98]]] := by
  have e1 : gput 10 [] [97] = [[[97]]] := by unfold gput; rw [if_pos (.inl rfl)]; rfl
  have e2 : gput 10 [[[97]]] [98] = [[[97], [98]]] := by
    unfold gput
    rw [if_neg (fun h => by
      rcases h with h | h
      · cases h
      · rw [show ([[[97]]] : List (List (List UInt8))).getLastD [] = [[97]] from rfl, wdata_len] at h
        simp [wsz] at h)]
    rfl
  simp only [List.foldl_cons, List.foldl_nil, e1, e2]
theorem al2 : wflush (wsegs 0 [], 0, [[97], [98]]) 10 = ((wsegs 0 [[[97], [98]]], 2, []), 0) := by
  have := wflush_laid (limit := 10) (gs := []) (rs := [[97], [98]]) (by decide) (by decide) (by decide) (fun g hg => by cases hg) (by intro r hr; simp at hr; rcases hr with rfl | rfl <;> decide)
  rw [al_g1] at this
  exact this
theorem al3 : wappend (wsegs 0 [[[97], [98]]], 2, []) [[99]] = ((wsegs 0 [[[97], [98]]], 2, [[99]]), 0) := by
  have h : WOk (wsegs 0 [[[97], [98]]], 2, []) := wok_laid (gs := [[[97], [98]]]) (wait := []) (by decide) (by intro g hg r hr; simp at hg; subst hg; simp at hr; rcases hr with rfl | rfl <;> decide) (by decide) (by decide) (fun r hr => by cases hr)
  rw [wappend_0 h (by intro r hr; simp at hr; subst hr; decide) (by decide)]
  rfl
theorem al_g2 : ([[99]] : List (List UInt8)).foldl (gput 10) [[[97], [98]]] = [[[97], [98]], [[99]]] := by
  have e2 : gput 10 [[[97], [98]]] [99] = [[[97], [98]], [[99]]] := by
    unfold gput
    rw [if_pos (.inr (by
      rw [show ([[[97], [98]]] : List (List (List UInt8))).getLastD [] = [[97], [98]] from rfl, wdata_len]
      simp [wsz]))]
    rfl
  simp only [List.foldl_cons, List.foldl_nil, e2]
theorem al4 : wflush (wsegs 0 [[[97], [98]]], 2, [[99]]) 10 = ((wsegs 0 [[[97], [98]], [[99]]], 3, []), 0) := by
  have := wflush_laid (limit := 10) (gs := [[[97], [98]]]) (rs := [[99]]) (by decide) (by decide) (by decide) (by intro g hg r hr; simp at hg; subst hg; simp at hr; rcases hr with rfl | rfl <;> decide) (by intro r hr; simp at hr; subst hr; decide)
  rw [al_g2] at this
  exact this
theorem al_short1 : wshort (wsegs 0 [[[97], [98]]]) := by
  intro s hs
  simp only [wsegs, List.mem_cons, List.not_mem_nil, or_false] at hs
  subst hs
  dsimp only
  rw [wdata_len]; simp [wsz]

end Go.Proofs.Ytibkanmboglcgaa
