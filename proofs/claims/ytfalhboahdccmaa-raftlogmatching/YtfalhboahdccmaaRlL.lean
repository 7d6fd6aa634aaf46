/-
  The law's own 'alive' (the page's example of raftlog) answers true; it makes memory of its own and changes none that was there.
-/
import Derived.Test.YtfalhboahdccmaaRlP
namespace Go.Proofs.Ytfalhboahdccmaa
open Go.RowKit
set_option linter.unusedVariables false
set_option linter.unusedSimpArgs false

/-- entries without data, as they are written out -/
theorem rd_lit1 {w : World} {g : Nat} {t : Int} {T : TypeId} (h : w.heap[g]? = some (.cells #[.int .i64 t, .slice none 0 0] T (0, 0))) : RdC w (.slice (some ⟨g, 0, none⟩) 1 1) [(t, [])] := by
  obtain ⟨⟨c0, c1⟩, _⟩ := cells2l h
  refine ⟨_, 1, rfl, by simp, by decide, by simp, .inr ⟨g, 0, rfl, fun i x hx => ?_⟩⟩
  match i with
  | 0 =>
    obtain rfl : x = (t, []) := by simpa using hx.symm
    refine ⟨[.int .i64 t, .slice none 0 0], ⟨[.int .i64 t], [.slice none 0 0], rfl, rfl, _, rfl, rd_nil15 w⟩, fun j u hj => ?_⟩
    match j with
    | 0 => obtain rfl : u = .int .i64 t := by simpa using hj.symm
           exact c0
    | 1 => obtain rfl : u = .slice none 0 0 := by simpa using hj.symm
           exact c1
    | j + 2 => simp at hj
  | i + 1 => simp at hx
theorem rd_lit3 {w : World} {g : Nat} {a b c : Int} {T : TypeId} (h : w.heap[g]? = some (.cells #[.int .i64 a, .slice none 0 0, .int .i64 b, .slice none 0 0, .int .i64 c, .slice none 0 0] T (0, 0))) : RdC w (.slice (some ⟨g, 0, none⟩) 3 3) [(a, []), (b, []), (c, [])] := by
  have cc : ∀ j v, #[Value.int .i64 a, .slice none 0 0, .int .i64 b, .slice none 0 0, .int .i64 c, .slice none 0 0][j]? = some v → w.cell? ⟨g, j, none⟩ = some v := fun j v hv => by
    rw [cell_of_row _ _ j _ _ (0, 0) h]; exact hv
  have one : ∀ (k : Nat) (t : Int), #[Value.int .i64 a, .slice none 0 0, .int .i64 b, .slice none 0 0, .int .i64 c, .slice none 0 0][k * 2]? = some (.int .i64 t) → #[Value.int .i64 a, .slice none 0 0, .int .i64 b, .slice none 0 0, .int .i64 c, .slice none 0 0][k * 2 + 1]? = some (.slice none 0 0) →
      ∃ cs, SWr.rd w cs (t, []) ∧ ∀ j u, cs[j]? = some u → w.cell? ⟨g, 0 + k * 2 + j, none⟩ = some u := fun k t h1 h2 =>
    ⟨[.int .i64 t, .slice none 0 0], ⟨[.int .i64 t], [.slice none 0 0], rfl, rfl, _, rfl, rd_nil15 w⟩, fun j u hj => by
      match j with
      | 0 => obtain rfl : u = .int .i64 t := by simpa using hj.symm
             rw [show 0 + k * 2 + 0 = k * 2 by omega]; exact cc _ _ h1
      | 1 => obtain rfl : u = .slice none 0 0 := by simpa using hj.symm
             rw [show 0 + k * 2 + 1 = k * 2 + 1 by omega]; exact cc _ _ h2
      | j + 2 => simp at hj⟩
  refine ⟨_, 3, rfl, by simp, by decide, by simp, .inr ⟨g, 0, rfl, fun i x hx => ?_⟩⟩
  match i with
  | 0 => obtain rfl : x = (a, []) := by simpa using hx.symm
         exact one 0 a rfl rfl
  | 1 => obtain rfl : x = (b, []) := by simpa using hx.symm
         exact one 1 b rfl rfl
  | 2 => obtain rfl : x = (c, []) := by simpa using hx.symm
         exact one 2 c rfl rfl
  | i + 3 => simp at hx
theorem ex15 : laccept ⟨0, 0, [(1, []), (1, []), (2, [])]⟩ 2 1 [(3, [])] = (⟨0, 0, [(1, []), (1, []), (3, [])]⟩, 3, 0) := by rfl
set_option maxRecDepth 100000 in
set_option maxHeartbeats 4000000 in
theorem ralive_any (S : LogSay) (w : World) : Calls Try.prog 24 #[] w fun e w' => e = .returned (.bool true) ∧ Below w.heap.size w w' := by
  obtain ⟨W1, hW1, D1, bW1, sW1⟩ := boxedN w #[.int .i64 1, .slice none 0 0, .int .i64 1, .slice none 0 0, .int .i64 2, .slice none 0 0] 27
  obtain ⟨W2, hW2, D2, bW2, sW2⟩ := boxedN W1 #[.int .i64 0, .int .i64 0, .slice (some ⟨w.heap.size, 0, none⟩) 3 3] 28
  obtain ⟨W, hW, D3, bW3, sW3⟩ := boxedN W2 #[.int .i64 3, .slice none 0 0] 27
  have b12 := bW1.trans (bW2.mono bW1.size)
  have bW := b12.trans (bW3.mono b12.size)
  have r1 : RdC W (.slice (some ⟨w.heap.size, 0, none⟩) 3 3) [(1, []), (1, []), (2, [])] := rd_lit3 ((bW3.block _ (by omega)).trans ((bW2.block _ (lt_of_block D1)).trans D1))
  have r2 : RdC W (.slice (some ⟨w.heap.size + 1 + 1, 0, none⟩) 1 1) [(3, [])] := rd_lit1 (by rw [show w.heap.size + 1 + 1 = W2.heap.size by omega]; exact D3)
  have KA := S.acc W ⟨0, 0, [(1, []), (1, []), (2, [])]⟩ _ 2 1 [(3, [])] _ r1 ⟨by decide, by decide, by decide, by simp; refine ⟨⟨by decide, by decide⟩, ⟨by decide, by decide⟩⟩⟩ (by decide) (by decide) r2 ⟨by decide, by simp; exact ⟨by decide, by decide⟩⟩ (.inl (by rw [ex15]))
  rw [ex15] at KA
  dsimp only [lv] at KA
  rw [hW2, hW1] at hW
  rw [hW] at KA
  replace KA := hide KA
  have BW := hide bW
  clear r1 r2 b12 bW D1 D2 D3 bW1 bW2 bW3 sW1 sW2 sW3 hW1 hW2
  go_enter Try.func24, Try.ntmps24
  go_wp2_with fail
  refine KA.out.mono ?_
  rintro e w1 ⟨v8, rfl, o8, b8⟩
  rw [← hW] at b8
  have B1 := hide (BW.out.trans (b8.mono BW.out.size))
  clear b8 KA hW BW
  obtain ⟨ua, uc, rfl⟩ := o8.rdS.slice
  obtain ⟨b, off, u, rfl, c1, c2, -⟩ := (o8.rdS).wrt (i := 2) rfl
  obtain ⟨Y, hY, DY, bY, sY⟩ := boxedN w1 #[.int .i64 0, .int .i64 0, .slice (some ⟨b, off, none⟩) 3 uc] 28
  have e1 := (bY.cell (cell_lt c1)).trans c1
  obtain ⟨⟨Y0, Y1, Y2⟩, _⟩ := cells3l DY
  have BY := hide (B1.out.trans (bY.mono B1.out.size))
  clear DY bY sY c1 c2 o8
  go_wp2_with fail
  rw [← hY]
  replace hY := hide hY
  refine (num15_any _ _).mono ?_
  rintro e w' ⟨rfl, rfl⟩
  go_wp2
  go_ret
  exact ⟨rfl, BY.out⟩
end Go.Proofs.Ytfalhboahdccmaa
