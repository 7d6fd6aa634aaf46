/-
  The law's num and of: a node for the program, in memory of its own.
-/
import Derived.Test.YtjkpldmmijfebaaNSame
import Derived.Test.YtjkpldmmijfebaaNCheckR
import Derived.Test.YtjkpldmmijfebaaRSched
import Derived.Test.YtjkpldmmijfebaaStep
import Derived.Test.YtjkpldmmijfebaaTail
namespace Go.Proofs.Ytjkpldmmijfebaa
open Go.RowKit
set_option linter.unusedVariables false
set_option linter.unusedSimpArgs false

/-- a node whose lists the call made -/
structure OwnN (B : Nat) (w : World) (kv vv dv : Value) (n : Nd) : Prop where
  keys : OwnT B w kv n.keys
  vals : OwnT B w vv n.vals
  kids : OwnJ B w dv n.kids
theorem OwnN.to {B : Nat} {w w' : World} {kv vv dv : Value} {n : Nd} (h : OwnN B w kv vv dv n) (hb : Below w.heap.size w w') : OwnN B w' kv vv dv n := ⟨rows_to h.keys hb, rows_to h.vals hb, rows_to h.kids hb⟩
theorem OwnN.rd {B : Nat} {w : World} {kv vv dv : Value} {n : Nd} (h : OwnN B w kv vv dv n) : RdN w kv vv dv n := ⟨h.keys.rd, h.vals.rd, h.kids.rd⟩
theorem rows_mono {w : World} {T n B C : Nat} {v : Value} {m : Nat} {cc : List Value} (h : w.ownsRow B T n v m cc) (hC : C ≤ B) : w.ownsRow C T n v m cc :=
  rows_base h fun b hb => Nat.le_trans hC (World.ownsRow.lt h b hb).1
theorem OwnN.mono {B C : Nat} {w : World} {kv vv dv : Value} {n : Nd} (h : OwnN B w kv vv dv n) (hC : C ≤ B) : OwnN C w kv vv dv n := ⟨rows_mono h.keys hC, rows_mono h.vals hC, rows_mono h.kids hC⟩
theorem OwnN.nil (B : Nat) (w : World) (l : Bool) : OwnN B w (.slice none 0 0) (.slice none 0 0) (.slice none 0 0) ⟨l, [], [], []⟩ := ⟨World.ownsRow_nil _ _ _ _, World.ownsRow_nil _ _ _ _, World.ownsRow_nil _ _ _ _⟩
theorem rows_set {w : World} {T n B : Nat} {v : Value} {m : Nat} {cc : List Value} (h : w.ownsRow B T n v m cc) {g : Nat} (hg : g < B) (i : Nat) (x : Value) : (w.setCell ⟨g, i, none⟩ x).ownsRow B T n v m cc := ownsRow_setCell_below h (a := ⟨g, i, none⟩) hg x
theorem OwnN.set {B : Nat} {w : World} {kv vv dv : Value} {n : Nd} (h : OwnN B w kv vv dv n) {g : Nat} (hg : g < B) (i : Nat) (x : Value) : OwnN B (w.setCell ⟨g, i, none⟩ x) kv vv dv n := ⟨rows_set h.keys hg i x, rows_set h.vals hg i x, rows_set h.kids hg i x⟩
theorem heap_set4 {u : World} {g : Nat} {a b c d : Value} {t : TypeId} {fr : Nat × Nat} (h : u.heap[g]? = some (.cells #[a, b, c, d] t fr)) (x y z v : Value) : ((((u.setCell ⟨g, 0, none⟩ x).setCell ⟨g, 1, none⟩ y).setCell ⟨g, 2, none⟩ z).setCell ⟨g, 3, none⟩ v).heap[g]? = some (.cells #[x, y, z, v] t fr) := by
  simp [World.setCell, Array.getElem?_modify, h]
theorem below_set4n {B : Nat} {w u : World} (h : Below B w u) {g : Nat} (hg : B ≤ g) (x y z v : Value) : Below B w ((((u.setCell ⟨g, 0, none⟩ x).setCell ⟨g, 1, none⟩ y).setCell ⟨g, 2, none⟩ z).setCell ⟨g, 3, none⟩ v) :=
  (((h.setCell (p := ⟨g, 0, none⟩) hg x).setCell (p := ⟨g, 1, none⟩) hg y).setCell (p := ⟨g, 2, none⟩) hg z).setCell (p := ⟨g, 3, none⟩) hg v
/-- no more of each than memory holds: as it comes in -/
def nbig (n : Nd) : Prop := n.keys.length * 16 ≤ 140737488351232 ∧ n.vals.length * 16 ≤ 140737488351232 ∧ n.kids.length * 8 ≤ 140737488351232
theorem nbig.fit {n : Nd} (h : nbig n) : nfit n := by unfold nbig at h; unfold nfit; omega

set_option maxRecDepth 100000 in
theorem num9_any (w : World) (n : Int) : Calls Try.prog 13 #[.int .i64 n] w fun e w' => e = .returned (.int .i64 n) ∧ w = w' := by
  go_enter Try.func13, Try.ntmps13
  go_wp2
  go_ret
  exact ⟨rfl, rfl⟩
theorem info_ndP : (Try.prog.info? 26).map (·.size) = some 4 := by kernel_rfl
theorem boxes4 (w : World) (x y z v : Value) (t t' : TypeId) : ∃ W, W = (w.alloc (.cells #[x, y, z, v] t)).alloc (.cells #[.bool false, .slice none 0 0, .slice none 0 0, .slice none 0 0] t') ∧ W.heap[w.heap.size]? = some (.cells #[x, y, z, v] t (0, 0)) ∧ W.heap[w.heap.size + 1]? = some (.cells #[.bool false, .slice none 0 0, .slice none 0 0, .slice none 0 0] t' (0, 0)) ∧ Below w.heap.size w W ∧ W.heap.size = w.heap.size + 2 := by
  refine ⟨_, rfl, ?_, ?_, ((Below.refl _ _).alloc (Nat.le_refl _) _).alloc (by simp) _, by simp⟩
  · rw [Below.heap_alloc _ _ _ (by simp)]; exact heap_alloc_last w _
  · have := heap_alloc_last (w.alloc (.cells #[x, y, z, v] t)) (.cells #[.bool false, .slice none 0 0, .slice none 0 0, .slice none 0 0] t'); simpa using this

theorem copyStr_sl (w : World) (v : Value) (l : List Str) (h : RdT w v l) (hm : l.length * 16 ≤ 140737488355328) :
    Calls Try.prog 19 #[v] w fun e w' => ∃ a c, e = .returned (.slice a l.length c) ∧ OwnT w.heap.size w' (.slice a l.length c) l ∧ Below w.heap.size w w' :=
  (copyStr_any w v l h hm).mono fun _ _ ⟨v', e, o, b⟩ => by
    obtain ⟨a, c, rfl⟩ := OwnT.rd o |>.slice
    exact ⟨a, c, e, o, b⟩
theorem copyInt_sl (w : World) (v : Value) (l : List Int) (h : RdI w v l) (hm : l.length * 8 ≤ 140737488355328) :
    Calls Try.prog 20 #[v] w fun e w' => ∃ a c, e = .returned (.slice a l.length c) ∧ OwnJ w.heap.size w' (.slice a l.length c) l ∧ Below w.heap.size w w' :=
  (copyInt_any w v l h hm).mono fun _ _ ⟨v', e, o, b⟩ => by
    obtain ⟨a, c, rfl⟩ := OwnJ.rd o |>.slice
    exact ⟨a, c, e, o, b⟩

set_option maxRecDepth 100000 in
set_option maxHeartbeats 2000000 in
theorem of9_any (w : World) (kv vv dv : Value) (n : Nd) (h : RdN w kv vv dv n) (hf : nbig n) :
    Calls Try.prog 8 #[nv n kv vv dv] w fun e w' => ∃ kv' vv' dv', e = .returned (nv n kv' vv' dv') ∧ OwnN w.heap.size w' kv' vv' dv' n ∧ Below w.heap.size w w' := by
  obtain ⟨f1, f2, f3⟩ := hf
  obtain ⟨a, c, a', c', a'', c'', rfl, rfl, rfl⟩ := h.slices
  obtain ⟨leaf, keys, vals, kids⟩ := n
  dsimp only [nv] at *
  obtain ⟨W, hW, hA, hZ, bW, sW⟩ := boxes4 w (.bool leaf) (.slice a keys.length c) (.slice a' vals.length c') (.slice a'' kids.length c'') 25 26
  obtain ⟨⟨A0, A1, A2, A3⟩, _⟩ := cells4 hA
  have b0 : Below W.heap.size W W.drew := (Below.refl _ _).drew
  have KK := hide (fun w1 (b1 : Below W.heap.size W w1) => copyStr_sl w1 _ keys (h.keys.to0 (bW.trans (b1.mono bW.size))) (by omega))
  have KV := hide (fun w1 (b1 : Below W.heap.size W w1) => copyStr_sl w1 _ vals (h.vals.to0 (bW.trans (b1.mono bW.size))) (by omega))
  have KD := hide (fun w1 (b1 : Below W.heap.size W w1) => copyInt_sl w1 _ kids (h.kids.to0 (bW.trans (b1.mono bW.size))) (by omega))
  have HS : Hid (∀ w9, Below W.heap.size W w9 → w9.cell? ⟨w.heap.size, 0, none⟩ = some (.bool leaf) ∧ w9.cell? ⟨w.heap.size, 1, none⟩ = some (.slice a keys.length c) ∧ w9.cell? ⟨w.heap.size, 2, none⟩ = some (.slice a' vals.length c') ∧ w9.cell? ⟨w.heap.size, 3, none⟩ = some (.slice a'' kids.length c'')) := fun w9 b9 =>
    ⟨(b9.cell (p := ⟨w.heap.size, 0, none⟩) (cell_lt A0)).trans A0, (b9.cell (p := ⟨w.heap.size, 1, none⟩) (cell_lt A1)).trans A1, (b9.cell (p := ⟨w.heap.size, 2, none⟩) (cell_lt A2)).trans A2, (b9.cell (p := ⟨w.heap.size, 3, none⟩) (cell_lt A3)).trans A3⟩
  have HZ := hide hZ
  have BW := hide bW
  clear A0 A1 A2 A3 hA hZ bW h f1 f2 f3
  go_enter Try.func8, Try.ntmps8
  go_wp2
  rw [← hW]
  replace hW := hide hW
  refine wp_region_sched (fun w9 => w9.cell? ⟨w.heap.size, 0, none⟩ = some (.bool leaf) ∧ w9.cell? ⟨w.heap.size, 1, none⟩ = some (.slice a keys.length c) ∧ w9.cell? ⟨w.heap.size, 2, none⟩ = some (.slice a' vals.length c') ∧ w9.cell? ⟨w.heap.size, 3, none⟩ = some (.slice a'' kids.length c'')) [(0, true), (1, true), (2, true), (3, true), (5, true), (6, true), (8, true), (9, true), (4, false), (7, false), (10, false)] 11 mixed (by kernel_rfl) (fun _ _ _ _ h => h) ?_
  iterate 8
    refine sched_take (v := ?_) rfl (by kernel_rfl) (HS.out _ b0) ?_ ?_
    rotate_left
    · rintro w9 ⟨q0, q1, q2, q3⟩
      go_simp
      try with_reducible rfl
    try simp only [Act.put, List.setIfInBounds_toArray, List.set_cons_zero, List.set_cons_succ]
  refine sched_run rfl (by kernel_rfl) fun K hK => ?_
  refine wp_call_of 19 _ _ (by rfl) #[.slice a keys.length c] (by simp [Act.eval]) (Try.call19 _ _) (KK.out W.drew b0) ?_
  rintro e w1 ⟨ta, tc, rfl, o1, b1⟩
  have d1 : Below W.heap.size W w1 := b0.trans (b1.mono b0.size)
  refine ⟨_, rfl, hK _ _ (HS.out _ d1) ?_⟩
  clear hK K
  try simp only [Act.put, List.setIfInBounds_toArray, List.set_cons_zero, List.set_cons_succ]
  refine sched_run rfl (by kernel_rfl) fun K hK => ?_
  refine wp_call_of 19 _ _ (by rfl) #[.slice a' vals.length c'] (by simp [Act.eval]) (Try.call19 _ _) (KV.out w1 d1) ?_
  rintro e w2 ⟨tb, td, rfl, o2, b2⟩
  have d2 : Below W.heap.size W w2 := d1.trans (b2.mono d1.size)
  refine ⟨_, rfl, hK _ _ (HS.out _ d2) ?_⟩
  clear hK K
  try simp only [Act.put, List.setIfInBounds_toArray, List.set_cons_zero, List.set_cons_succ]
  refine sched_run rfl (by kernel_rfl) fun K hK => ?_
  refine wp_call_of 20 _ _ (by rfl) #[.slice a'' kids.length c''] (by simp [Act.eval]) (Try.call20 _ _) (KD.out w2 d2) ?_
  rintro e w3 ⟨te, tf, rfl, o3, b3⟩
  have d3 : Below W.heap.size W w3 := d2.trans (b3.mono d2.size)
  refine ⟨_, rfl, hK _ _ (HS.out _ d3) ?_⟩
  clear hK K
  try simp only [Act.put, List.setIfInBounds_toArray, List.set_cons_zero, List.set_cons_succ]
  have s1 := b1.size
  have s2 := b2.size
  have s0 : W.heap.size ≤ W.drew.heap.size := b0.size
  have OO : OwnN (w.heap.size + 2) w3 (.slice ta keys.length tc) (.slice tb vals.length td) (.slice te kids.length tf) ⟨leaf, keys, vals, kids⟩ := ⟨rows_mono (rows_to (rows_to o1 b2) b3) (by omega), rows_mono (rows_to o2 b3) (by omega), rows_mono o3 (by omega)⟩
  have hg : w.heap.size + 1 < w.heap.size + 2 := by omega
  have O4 := hide ((((OO.set hg 0 (.bool leaf)).set hg 1 (.slice ta keys.length tc)).set hg 2 (.slice tb vals.length td)).set hg 3 (.slice te kids.length tf))
  have Z2 := hide ((d3.block _ (lt_of_block HZ.out)).trans HZ.out)
  obtain ⟨⟨z0, z1, z2, z3⟩, zf⟩ := cells4 Z2.out
  have y0 := zf 0
  have y1 := zf 1
  have y2 := zf 2
  have y3 := zf 3
  have CC := hide (BW.out.trans (d3.mono BW.out.size))
  clear o1 o2 o3 b1 b2 b3 d1 d2 d3 OO KK KV KD HS zf
  show wpList _ _ _ _ _ _
  dsimp only [List.drop]
  go_wp2
  refine retN rfl rfl (w.heap.size + 1) rfl _ _ (0, 0) (heap_set4 (u := w3) Z2.out _ _ _ _) _ Try.underlying26 rfl info_ndP ?_
  exact ⟨_, _, _, rfl, O4.out.mono (by omega), below_set4n CC.out (show w.heap.size ≤ w.heap.size + 1 by omega) _ _ _ _⟩

end Go.Proofs.Ytjkpldmmijfebaa
