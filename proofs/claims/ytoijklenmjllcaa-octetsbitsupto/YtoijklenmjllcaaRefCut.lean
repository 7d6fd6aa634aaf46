/-
  The contract of transeptref01.Cut: octet by octet it comes to the same pieces as octets.Cut. (Of at most 1048576 octets.)
-/
import Derived.Deep.RegionHeld3
import Derived.Deep.AppendLies
import Derived.Deep.RegionLaw
import Derived.Test.YtoijklenmjllcaaCut
import Derived.Test.YtoijklenmjllcaaCopy
namespace Go.Proofs.Ytoijklenmjllcaa
open Go.RowKit
set_option linter.unusedVariables false

/-- piece i behind k octets -/
def pieceK (xs : List UInt8) (s k i : Nat) : List UInt8 := (xs.drop (i * s)).take (min s (k - i * s))
/-- the first M pieces behind k octets -/
def rcL (xs : List UInt8) (s k M : Nat) : List (List UInt8) := (List.range M).map (pieceK xs s k)
theorem rcL_length (xs : List UInt8) (s k M : Nat) : (rcL xs s k M).length = M := by simp [rcL]
theorem rcL_getD (xs : List UInt8) (s k M i : Nat) (h : i < M) : (rcL xs s k M).getD i [] = pieceK xs s k i := by simp [rcL, h]
theorem cutN_succ (k s : Nat) (hs : 1 ≤ s) : cutN (k + 1) s = k / s + 1 := by
  unfold cutN
  rw [show k + 1 + s - 1 = k + s from by omega, Nat.add_div_right _ (by omega)]
theorem cutN_mod {k s : Nat} (hs : 1 ≤ s) (h : k % s = 0) : cutN k s = k / s := by
  unfold cutN
  have e := Nat.div_add_mod k s
  rw [h, Nat.add_zero] at e
  have : k + s - 1 = (s - 1) + s * (k / s) := by omega
  rw [this, Nat.add_mul_div_left _ _ (by omega), Nat.div_eq_of_lt (by omega)]
  omega
theorem cutN_mod' {k s : Nat} (hs : 1 ≤ s) (h : k % s ≠ 0) : cutN k s = k / s + 1 := by
  unfold cutN
  have e := Nat.div_add_mod k s
  have : k + s - 1 = (k % s - 1) + s * (k / s + 1) := by rw [Nat.mul_add]; omega
  have hlt := Nat.mod_lt k (show 0 < s by omega)
  rw [this, Nat.add_mul_div_left _ _ (by omega), Nat.div_eq_of_lt (by omega)]
  omega
theorem pieceK_last (xs : List UInt8) (s k : Nat) (hs : 1 ≤ s) (hk : k < xs.length) : pieceK xs s (k + 1) (k / s) = pieceK xs s k (k / s) ++ [xs[k]] := by
  have e := Nat.div_add_mod k s
  have hlt := Nat.mod_lt k (show 0 < s by omega)
  rw [Nat.mul_comm] at e
  unfold pieceK
  rw [show min s (k + 1 - k / s * s) = k % s + 1 from by omega, show min s (k - k / s * s) = k % s from by omega, List.take_add_one]
  congr 1
  simp [show k / s * s + k % s = k from by omega, hk]
theorem pieceK_other (xs : List UInt8) (s k i : Nat) (hs : 1 ≤ s) (hi : i < k / s) : pieceK xs s (k + 1) i = pieceK xs s k i := by
  have h1 : (i + 1) * s ≤ k := Nat.le_trans (Nat.mul_le_mul_right s (show i + 1 ≤ k / s by omega)) (Nat.div_mul_le_self k s)
  rw [Nat.add_mul] at h1
  unfold pieceK
  rw [show min s (k + 1 - i * s) = s from by omega, show min s (k - i * s) = s from by omega]
theorem rcL_step (xs : List UInt8) (s k : Nat) (hs : 1 ≤ s) (hk : k < xs.length) : (rcL xs s k (k / s + 1)).set (k / s) (pieceK xs s k (k / s) ++ [xs[k]]) = rcL xs s (k + 1) (cutN (k + 1) s) := by
  rw [cutN_succ k s hs]
  apply List.ext_getElem
  · simp [rcL]
  · intro i h1 h2
    rw [List.getElem_set]
    by_cases h : k / s = i
    · rw [if_pos h]; subst h; simp [rcL, pieceK_last xs s k hs hk]
    · rw [if_neg h]
      simp only [List.length_set, rcL_length] at h1
      simp [rcL, pieceK_other xs s k i hs (by omega)]
theorem rcL_new (xs : List UInt8) (s k : Nat) (hs : 1 ≤ s) (h : k % s = 0) : rcL xs s k (cutN k s) ++ [[]] = rcL xs s k (k / s + 1) := by
  rw [cutN_mod hs h]
  unfold rcL
  rw [List.range_succ, List.map_append]
  congr 1
  have e := Nat.div_add_mod k s
  rw [h, Nat.add_zero, Nat.mul_comm] at e
  simp [pieceK, e]
theorem rcL_all (xs : List UInt8) (s : Nat) : rcL xs s xs.length (cutN xs.length s) = cutL xs s := by
  unfold rcL cutL
  apply List.map_congr_left
  intro i hi
  unfold pieceK piece
  by_cases h : s ≤ xs.length - i * s
  · rw [Nat.min_eq_left h]
  · rw [Nat.min_eq_right (by omega), List.take_of_length_le (by simp), List.take_of_length_le (by simp; omega)]

/-- the outer row holds vs, each of which holds its piece, no two in one block -/
def RCV (B : Nat) (W : World) (v : Value) (L : List (List UInt8)) (vs : List Value) : Prop :=
  vs.length = L.length ∧ W.ownsRow B 22 1 v L.length vs ∧ (∀ i, i < L.length → OwnB B W (vs.getD i undef) (L.getD i [])) ∧
    ∀ i j, i < j → j < L.length → ∀ g, (vs.getD i undef).ownBlock = some g → (vs.getD j undef).ownBlock ≠ some g

theorem getD_append_lt {α : Type} (l r : List α) (i : Nat) (d : α) (h : i < l.length) : (l ++ r).getD i d = l.getD i d := by
  simp [List.getElem?_append_left h]
theorem getD_append_at {α : Type} (l : List α) (x : α) (i : Nat) (d : α) (h : i = l.length) : (l ++ [x]).getD i d = x := by
  subst h; simp
theorem getD_set_ne' {α : Type} (l : List α) (x : α) (i m : Nat) (d : α) (h : m ≠ i) : (l.set m x).getD i d = l.getD i d := by
  simp [List.getElem?_set_ne h]
theorem getD_set_at {α : Type} (l : List α) (x : α) (m : Nat) (d : α) (h : m < l.length) : (l.set m x).getD m d = x := by
  simp [h]

/-- 'out = append(out, nil)' -/
theorem rc_new {B : Nat} {W w1 : World} {v v' : Value} {L : List (List UInt8)} {vs : List Value} {tmp : Obj} (h : RCV B W v L vs)
    (hown : w1.ownsRow B 22 1 v' (L.length + 1) (vs ++ [.slice none 0 0])) (hgrow : (W.alloc tmp).grownBy w1 v.ownBlock) : RCV B w1 v' (L ++ [[]]) (vs ++ [.slice none 0 0]) := by
  obtain ⟨h1, h2, h3, h4⟩ := h
  refine ⟨by simp [h1], by rw [List.length_append, List.length_singleton]; exact hown, fun i hi => ?_, fun i j hij hj g hg => ?_⟩
  · rw [List.length_append, List.length_singleton] at hi
    by_cases hl : i < L.length
    · rw [getD_append_lt _ _ _ _ (by omega), getD_append_lt _ _ _ _ hl]
      have hi' := h3 i hl
      refine World.ownsRow.kept (World.ownsRow.alloc hi' tmp) hgrow ?_
      cases hb : (vs.getD i undef).ownBlock with
      | none => left; rfl
      | some g =>
        right
        intro e
        exact row_ne (by decide) hi' h2 e.symm hb
    · rw [getD_append_at _ _ _ _ (by omega), getD_append_at _ _ _ _ (by omega)]
      exact World.ownsRow_nil _ _ _ _
  · rw [List.length_append, List.length_singleton] at hj
    by_cases hl : j < L.length
    · rw [getD_append_lt _ _ _ _ (by omega)] at hg ⊢
      exact h4 i j hij hl g hg
    · rw [getD_append_at _ _ _ _ (by omega)]
      simp [Value.ownBlock]

/-- 'out[m] = append(out[m], x)' -/
theorem rc_put {B m n g gg cap M0 cap0 : Nat} {W w1 : World} {L : List (List UInt8)} {vs : List Value} {tmp : Obj} {x : UInt8} (h : RCV B W (.slice (some ⟨g, 0, none⟩) M0 cap0) L vs) (hM : M0 = L.length) (hm : m < L.length) (hn : (L.getD m []).length = n)
    (hown : w1.ownsRow B 5 1 (.slice (some ⟨gg, 0, none⟩) (n + 1) cap) (n + 1) ((L.getD m []).map enc ++ [enc x])) (hgrow : (W.alloc tmp).drew.grownBy w1 (vs.getD m undef).ownBlock) (hat : (vs.getD m undef).ownBlock = some gg ∨ gg = W.heap.size + 1) :
    RCV B (w1.setCell ⟨g, m, none⟩ (.slice (some ⟨gg, 0, none⟩) (n + 1) cap)) (.slice (some ⟨g, 0, none⟩) M0 cap0) (L.set m (L.getD m [] ++ [x])) (vs.set m (.slice (some ⟨gg, 0, none⟩) (n + 1) cap)) := by
  obtain ⟨h1, h2, h3, h4⟩ := h
  subst hM
  have hm' := h3 m hm
  have hob : w1.ownsRow B 22 1 (.slice (some ⟨g, 0, none⟩) L.length cap0) L.length vs := by
    refine World.ownsRow.kept (World.ownsRow.drew (h2.alloc tmp)) hgrow ?_
    right
    exact (row_ne (by decide) hm' h2 rfl).symm
  have hgg : ¬ gg = g := by
    intro e
    have := row_ne (e := 5) (by decide) hown hob (g := g) rfl
    exact this (by simp [Value.ownBlock, e])
  refine ⟨by simp [h1], ?_, fun i hi => ?_, fun i j hij hj g' hg' => ?_⟩
  · rw [List.length_set]
    exact (hob.stored m _).1
  · rw [List.length_set] at hi
    by_cases him : m = i
    · subst him
      rw [getD_set_at _ _ _ _ (by omega), getD_set_at _ _ _ _ (by omega)]
      unfold OwnB
      rw [List.length_append, List.length_singleton, hn, List.map_append]
      exact ownsRow_setCell_other hown (by simp [Value.ownBlock]; exact hgg) _
    · rw [getD_set_ne' _ _ _ _ _ him, getD_set_ne' _ _ _ _ _ him]
      have hi' := h3 i hi
      have hk : w1.ownsRow B 5 1 (vs.getD i undef) (L.getD i []).length ((L.getD i []).map enc) := by
        refine World.ownsRow.kept (World.ownsRow.drew (World.ownsRow.alloc hi' tmp)) hgrow ?_
        cases hb : (vs.getD i undef).ownBlock with
        | none => left; rfl
        | some b =>
          right
          intro e
          rcases Nat.lt_or_gt_of_ne him with hlt | hlt
          · exact h4 m i hlt hi b e.symm hb
          · exact h4 i m hlt hm b hb e.symm
      exact ownsRow_setCell_other (a := ⟨g, m, none⟩) hk (row_ne (by decide) hi' h2 rfl) _
  · rw [List.length_set] at hj
    by_cases him : m = i
    · subst him
      rw [getD_set_at _ _ _ _ (by omega)] at hg'
      rw [getD_set_ne' _ _ _ _ _ (by omega)]
      obtain rfl : gg = g' := by simpa [Value.ownBlock] using hg'
      intro e
      rcases hat with hat | hat
      · exact h4 m j hij hj gg hat e
      · have := (World.ownsRow.lt (h3 j hj) gg e).2; omega
    · rw [getD_set_ne' _ _ _ _ _ him] at hg'
      by_cases hjm : m = j
      · subst hjm
        rw [getD_set_at _ _ _ _ (by omega)]
        intro e
        obtain rfl : gg = g' := by simpa [Value.ownBlock] using e
        rcases hat with hat | hat
        · exact h4 i m hij hj gg hg' hat
        · have := (World.ownsRow.lt (h3 i (by omega)) gg hg').2; omega
      · rw [getD_set_ne' _ _ _ _ _ hjm]
        exact h4 i j hij hj g' hg'

set_option maxHeartbeats 400000 in
theorem refCut_no (w : World) (v : Value) (xs : List UInt8) (h : Rd w v xs) (size : Int) (hs : size < 1 ∨ 65536 < size) :
    Calls Try.prog 12 #[v, .int .i64 size] w fun e w' => e = .returned (.tuple #[.slice none 0 0, .int .i64 4]) ∧ w = w' := by
  obtain ⟨a, c, rfl, l1, m1, n1, r1⟩ := h
  by_cases h0 : size < 1
  · go_enter Try.func12, Try.ntmps12
    go_wp2
    go_ret2
    exact ⟨rfl, rfl⟩
  · have h' : 65536 < size := by omega
    go_enter Try.func12, Try.ntmps12
    go_wp2
    go_ret2
    exact ⟨rfl, rfl⟩

set_option maxRecDepth 100000 in
set_option maxHeartbeats 2000000 in
theorem refCut_yes (w : World) (v : Value) (xs : List UInt8) (h : Rd w v xs) (s : Nat) (hs1 : 1 ≤ s) (hs2 : s ≤ 65536) (hm : xs.length ≤ 1048576) :
    Calls Try.prog 12 #[v, .int .i64 (s : Int)] w fun e w' => ∃ v', e = .returned (.tuple #[v', .int .i64 0]) ∧ OwnL w.heap.size w' v' (cutL xs s) ∧ Below w.heap.size w w' := by
  obtain ⟨a, c, rfl, l1, m1, n1, r1⟩ := h
  rw [show maxLen = 9223372036854775807 from rfl] at m1
  obtain ⟨i0, hi, hz0, hz1, hz2⟩ := info_parts info8
  obtain ⟨j0, hj, hy0, hy1, hy2⟩ := info_parts info22
  have hd1 : decide ((s : Int) < 1) = false := by simp; omega
  have hd2 : decide (65536 < (s : Int)) = false := by simp; omega
  go_enter Try.func12, Try.ntmps12
  go_wp2
  go_loopw [6, 7] (fun v i wr => ∃ k : Nat, k ≤ xs.length ∧ i = .int .i64 k ∧ (∃ vs, RCV w.heap.size wr v (rcL xs s k (cutN k s)) vs) ∧ Below w.heap.size w wr) (fun _ i _ => xs.length - (intOf i).toNat)
  case atStart =>
    have e0 : cutN 0 s = 0 := Nat.div_eq_of_lt (by omega)
    refine ⟨0, Nat.zero_le _, rfl, ⟨[], ?_⟩, Below.refl _ _⟩
    rw [e0]
    exact ⟨rfl, World.ownsRow_nil _ _ _ _, fun i hi => absurd hi (Nat.not_lt_zero _), fun i j _ hj => absurd hj (Nat.not_lt_zero _)⟩
  case round =>
    obtain ⟨k, hk, rfl, ⟨vs, hrc⟩, hb⟩ := hrel
    by_cases hlt : k < xs.length
    · rcases r1 with r1 | ⟨b1, o1, rfl, hc1⟩
      · rw [r1] at hlt; simp at hlt
      have hc := hc1 k hlt
      have hbl := cell_lt hc
      have hcw : wr.cell? ⟨b1, o1 + k, none⟩ = some (.int .u8 (bt xs k)) := (hb.cell (p := ⟨b1, o1 + k, none⟩) hbl).trans hc
      have hNk : cutN k s ≤ k := cutN_le hs1
      have hks : k / s ≤ k := Nat.div_le_self _ _
      have hq : (k : Int) < (xs.length : Int) := by omega
      have hbx : Value.int .u8 (bt xs k) = enc xs[k] := by simp [enc, bt, hlt]
      have HSTEP := hide (rcL_step xs s k hs1 hlt)
      -- what is to be shown of the region, in whatever world it begins
      by_cases hmod : k % s = 0
      · have hme : (((k : Int) % (s : Int)) == 0) = true := by simp; exact_mod_cast hmod
        have HNEW := hide (rcL_new xs s k hs1 hmod)
        have hown := hrc.2.1
        rw [rcL_length] at hown
        have n1 : ([Value.slice none 0 0] : List Value).length = 1 * 1 := rfl
        have n3 : ∀ u ∈ ([Value.slice none 0 0] : List Value), u.oneCell' = true := by intro u hu; simp at hu; subst hu; rfl
        have n4 : cutN k s + 1 ≤ maxLen := by rw [show maxLen = 9223372036854775807 from rfl]; omega
        have n5 : (cutN k s + 1) * 24 ≤ 140737488355328 := by omega
        have n6 := hb.size
        have HOWN := hide hown
        have HRC := hide hrc
        have HB := hide hb
        have HN2 : Hid (∀ j u, ([Value.slice none 0 0] : List Value)[j]? = some u → (wr.alloc (.cells #[.slice none 0 0] 22)).cell? ((⟨wr.heap.size, 0, none⟩ : Addr).add j) = some u) :=
          World.news_of_block (cs := #[.slice none 0 0]) (t := 22) (fr := (0, 0)) (heap_new wr _)
        clear hown hrc hb
        go_wp2_with (at_builtin; refine wpList_append_own _ rfl _ _ 29 rfl w.heap.size 22 j0 (.slice none 0 0) 1 24 Try.underlying29 hj hy0 hy1 hy2 rfl (by decide) _ _ _ rfl (HOWN.out.alloc _) ⟨wr.heap.size, 0, none⟩ 1 1 [.slice none 0 0] rfl n1 HN2.out n3 n4 n5 (by simp; omega) ?_; intro v1 W hown1 hgrow1 hnil1)
        have hrc1 := rc_new HRC.out (by rw [rcL_length]; exact hown1) hgrow1
        have hb1 : Below w.heap.size w W := (HB.out.alloc HB.out.size _).grown hgrow1 (by have := HB.out.size; simp; omega) (fun j hj => (HOWN.out.lt j hj).1)
        rw [HNEW.out] at hrc1
        clear HRC HB HOWN HNEW HN2 hown1 hgrow1 hnil1 hcw n1 n3 n4 n5 n6 hj hy0 hy1 hy2
        obtain ⟨vs1, hvs1⟩ : ∃ vs1, vs ++ [Value.slice none 0 0] = vs1 := ⟨_, rfl⟩
        rw [hvs1] at hrc1
        clear hvs1
        obtain ⟨m, hme0⟩ : ∃ m, k / s = m := ⟨_, rfl⟩
        rw [hme0] at hrc1 hks HSTEP
        obtain ⟨M, hM⟩ : ∃ M, m + 1 = M := ⟨_, rfl⟩
        rw [hM] at hrc1 HSTEP
        obtain ⟨hv1, hv2, hv3, hv4⟩ := hrc1
        have hv2' := hv2
        rw [rcL_length] at hv2'
        obtain ⟨g, cap, rfl⟩ : ∃ g cap, v1 = .slice (some ⟨g, 0, none⟩) M cap := by
          rcases hv2'.2 with ⟨_, h0⟩ | ⟨g, cap, _, h, _⟩
          · omega
          · exact ⟨g, cap, h⟩
        rw [rcL_length] at hv1
        have hl0 := hv3 m (by rw [rcL_length]; omega)
        rw [rcL_getD _ _ _ _ _ (show m < M by omega)] at hl0
        obtain ⟨l, hlv⟩ : ∃ l, vs1.getD m undef = l := ⟨_, rfl⟩
        have hgl : g < W.heap.size := (hv2'.lt g rfl).2
        have hBg : w.heap.size ≤ g := (hv2'.lt g rfl).1
        have hclg : W.cell? ⟨g, m, none⟩ = some l := by
          rw [hv2'.cellAt m (by omega), ← hlv]
          simp [hv1, show m < M by omega]
        have hfzg := hv2'.frozenAt m
        rw [hlv] at hl0
        have ag : l.ownBlock ≠ some g := row_ne (by decide) hl0 hv2' rfl
        have ab : l.ownBlock ≠ some b1 := by
          intro e
          have := (World.ownsRow.lt hl0 b1 e).1
          omega
        have hcW : W.cell? ⟨b1, o1 + k, none⟩ = some (.int .u8 (bt xs k)) := (hb1.cell (p := ⟨b1, o1 + k, none⟩) hbl).trans hc
        have hb1W : b1 < W.heap.size := Nat.lt_of_lt_of_le hbl hb1.size
        obtain ⟨Lm, hLm⟩ : ∃ Lm, pieceK xs s k m = Lm := ⟨_, rfl⟩
        rw [hLm] at hl0
        have hLl : Lm.length ≤ 1048576 := by rw [← hLm]; simp [pieceK]; omega
        obtain ⟨n, hn⟩ : ∃ n, Lm.length = n := ⟨_, rfl⟩
        unfold OwnB at hl0
        rw [hn] at hl0
        rw [hn] at hLl
        have wM : (M : Int) - 1 = (m : Int) := by omega
        have wm : IntKind.i64.wrap (m : Int) = (m : Int) := IntWalk.i64_in _ (by omega)
        have hmM : (m : Int) < (M : Int) := by omega
        have hm0 : (0 : Int) ≤ (m : Int) := by omega
        have hk0 : (0 : Int) ≤ (k : Int) := by omega
        have h63 : n + 1 ≤ maxLen := by rw [show maxLen = 9223372036854775807 from rfl]; omega
        have hby : (n + 1) * 1 ≤ 140737488355328 := by omega
        have HFIN : Hid (∀ gg cp w5, w5.ownsRow w.heap.size 5 1 (.slice (some ⟨gg, 0, none⟩) (n + 1) cp) (n + 1) (Lm.map enc ++ [.int .u8 (bt xs k)]) → (W.alloc (.cells #[.int .u8 (bt xs k)] 5)).drew.grownBy w5 l.ownBlock → (l.ownBlock = some gg ∨ gg = W.heap.size + 1) →
            (∃ vs', RCV w.heap.size (w5.setCell ⟨g, m, none⟩ (.slice (some ⟨gg, 0, none⟩) (n + 1) cp)) (.slice (some ⟨g, 0, none⟩) M cap) (rcL xs s (k + 1) (cutN (k + 1) s)) vs') ∧ Below w.heap.size w (w5.setCell ⟨g, m, none⟩ (.slice (some ⟨gg, 0, none⟩) (n + 1) cp))) := fun gg cp w5 ho5 hg5 hat5 => by
          have e1 : (rcL xs s k M).getD m [] = Lm := by rw [rcL_getD _ _ _ _ _ (show m < M by omega), hLm]
          refine ⟨⟨vs1.set m (.slice (some ⟨gg, 0, none⟩) (n + 1) cp), ?_⟩, ?_⟩
          · have := rc_put (W := W) (B := w.heap.size) (x := xs[k]) (L := rcL xs s k M) (vs := vs1) (g := g) (cap0 := cap) ⟨by rw [rcL_length]; exact hv1, hv2, hv3, hv4⟩ (rcL_length xs s k M).symm (m := m) (n := n) (gg := gg) (cap := cp) (w1 := w5) (tmp := .cells #[.int .u8 (bt xs k)] 5) (by rw [rcL_length]; omega) (by rw [e1]; exact hn) (by rw [e1, ← hbx]; exact ho5) (by rw [hlv]; exact hg5) (by rw [hlv]; exact hat5)
            rw [e1, ← hLm, HSTEP.out] at this
            exact this
          · exact (((hb1.alloc hb1.size _).drew).grown hg5 (by have := hb1.size; simp; omega) (fun j hj => (World.ownsRow.lt hl0 j hj).1)).setCell (p := ⟨g, m, none⟩) hBg _
        have HL0 := hide hl0
        have HNB := hide (World.news_of_block (cs := #[.int .u8 (bt xs k)]) (t := 5) (fr := (0, 0)) (heap_new W (.cells #[.int .u8 (bt xs k)] 5)))
        have hbW := hb1.size
        have hfa : ∀ o : Obj, (W.alloc o).frozen? ⟨g, m, none⟩ = false := fun o => by rw [World.frozen?_alloc_old _ _ _ (by show g ≠ _; omega)]; exact hfzg
        have hfb : ∀ o : Obj, (W.alloc o).drew.frozen? ⟨g, m, none⟩ = false := hfa
        clear hl0 hv2 hv2' hv3 hv4 hb1 hLm hn hlv hv1 HSTEP hbx hc hc1
        generalize bt xs k = y at *
        have hca : ∀ o : Obj, (W.alloc o).cell? ⟨g, m, none⟩ = some l := fun o => (World.cell?_of_block (a := ⟨g, m, none⟩) (Below.heap_alloc W o g hgl)).trans hclg
        have hcg5 : ∀ w5, (W.alloc (.cells #[.int .u8 y] 5)).drew.grownBy w5 l.ownBlock → w5.cell? ⟨g, m, none⟩ = some l ∧ w5.frozen? ⟨g, m, none⟩ = false := fun w5 hg5 =>
          ⟨(hg5.cell_far ⟨g, m, none⟩ (by simp; omega) (Ne.symm ag)).trans (hca _), (hg5.frozen_far ⟨g, m, none⟩ (by simp; omega) (Ne.symm ag)).trans (hfa _)⟩
        have HCG5 := hide hcg5
        clear hcg5
        go_region_law
          ((refine step_append_lies _ (by rfl) _ _ _ (by rfl) w.heap.size 5 i0 _ 1 1 Try.underlying22 hi hz0 hz1 hz2 rfl (by omega) l n (Lm.map enc) (by rfl) ((HL0.out.alloc _).drew)
              ⟨W.heap.size, 0, none⟩ 1 1 [.int .u8 y] (by rfl) (by rfl) HNB.out (by simp [Value.oneCell'])
              (by omega) h63 hby (by simp; omega) (W.heap.size + 1) (by simp) ?_; intro gg cp w5 ho5 hgrow hat5 hlt5; have hx5 := HCG5.out w5 hgrow; obtain ⟨hx6, hx7⟩ := hx5))
        all_goals
          have HF := hide (HFIN.out gg cp w5 ho5 hgrow hat5)
          clear ho5 hgrow hat5 HFIN HCG5 HL0 HNB
          go_wp2
          go_roundw
          case rel => exact ⟨k + 1, by omega, by go_num, HF.out.1, HF.out.2⟩
          case measure => simp [intOf]; omega
      · have hme : (((k : Int) % (s : Int)) == 0) = false := by simp; exact_mod_cast hmod
        rw [cutN_mod' hs1 hmod] at hrc
        have HRC := hide hrc
        have HB := hide hb
        clear hrc hb hcw
        go_wp2
        have hrc := HRC.out
        have hb := HB.out
        clear HRC HB hj hy0 hy1 hy2
        obtain ⟨m, hme0⟩ : ∃ m, k / s = m := ⟨_, rfl⟩
        rw [hme0] at hrc hks HSTEP
        obtain ⟨M, hM⟩ : ∃ M, m + 1 = M := ⟨_, rfl⟩
        rw [hM] at hrc HSTEP
        obtain ⟨hv1, hv2, hv3, hv4⟩ := hrc
        have hv2' := hv2
        rw [rcL_length] at hv2'
        obtain ⟨g, cap, rfl⟩ : ∃ g cap, u6 = .slice (some ⟨g, 0, none⟩) M cap := by
          rcases hv2'.2 with ⟨_, h0⟩ | ⟨g, cap, _, h, _⟩
          · omega
          · exact ⟨g, cap, h⟩
        rw [rcL_length] at hv1
        have hl0 := hv3 m (by rw [rcL_length]; omega)
        rw [rcL_getD _ _ _ _ _ (show m < M by omega)] at hl0
        obtain ⟨l, hlv⟩ : ∃ l, vs.getD m undef = l := ⟨_, rfl⟩
        have hgl : g < wr.heap.size := (hv2'.lt g rfl).2
        have hBg : w.heap.size ≤ g := (hv2'.lt g rfl).1
        have hclg : wr.cell? ⟨g, m, none⟩ = some l := by
          rw [hv2'.cellAt m (by omega), ← hlv]
          simp [hv1, show m < M by omega]
        have hfzg := hv2'.frozenAt m
        rw [hlv] at hl0
        have ag : l.ownBlock ≠ some g := row_ne (by decide) hl0 hv2' rfl
        have ab : l.ownBlock ≠ some b1 := by
          intro e
          have := (World.ownsRow.lt hl0 b1 e).1
          omega
        have hcW : wr.cell? ⟨b1, o1 + k, none⟩ = some (.int .u8 (bt xs k)) := (hb.cell (p := ⟨b1, o1 + k, none⟩) hbl).trans hc
        have hb1W : b1 < wr.heap.size := Nat.lt_of_lt_of_le hbl hb.size
        obtain ⟨Lm, hLm⟩ : ∃ Lm, pieceK xs s k m = Lm := ⟨_, rfl⟩
        rw [hLm] at hl0
        have hLl : Lm.length ≤ 1048576 := by rw [← hLm]; simp [pieceK]; omega
        obtain ⟨n, hn⟩ : ∃ n, Lm.length = n := ⟨_, rfl⟩
        unfold OwnB at hl0
        rw [hn] at hl0
        rw [hn] at hLl
        have wM : (M : Int) - 1 = (m : Int) := by omega
        have wm : IntKind.i64.wrap (m : Int) = (m : Int) := IntWalk.i64_in _ (by omega)
        have hmM : (m : Int) < (M : Int) := by omega
        have hm0 : (0 : Int) ≤ (m : Int) := by omega
        have hk0 : (0 : Int) ≤ (k : Int) := by omega
        have h63 : n + 1 ≤ maxLen := by rw [show maxLen = 9223372036854775807 from rfl]; omega
        have hby : (n + 1) * 1 ≤ 140737488355328 := by omega
        have HFIN : Hid (∀ gg cp w5, w5.ownsRow w.heap.size 5 1 (.slice (some ⟨gg, 0, none⟩) (n + 1) cp) (n + 1) (Lm.map enc ++ [.int .u8 (bt xs k)]) → (wr.alloc (.cells #[.int .u8 (bt xs k)] 5)).drew.grownBy w5 l.ownBlock → (l.ownBlock = some gg ∨ gg = wr.heap.size + 1) →
            (∃ vs', RCV w.heap.size (w5.setCell ⟨g, m, none⟩ (.slice (some ⟨gg, 0, none⟩) (n + 1) cp)) (.slice (some ⟨g, 0, none⟩) M cap) (rcL xs s (k + 1) (cutN (k + 1) s)) vs') ∧ Below w.heap.size w (w5.setCell ⟨g, m, none⟩ (.slice (some ⟨gg, 0, none⟩) (n + 1) cp))) := fun gg cp w5 ho5 hg5 hat5 => by
          have e1 : (rcL xs s k M).getD m [] = Lm := by rw [rcL_getD _ _ _ _ _ (show m < M by omega), hLm]
          refine ⟨⟨vs.set m (.slice (some ⟨gg, 0, none⟩) (n + 1) cp), ?_⟩, ?_⟩
          · have := rc_put (W := wr) (B := w.heap.size) (x := xs[k]) (L := rcL xs s k M) (vs := vs) (g := g) (cap0 := cap) ⟨by rw [rcL_length]; exact hv1, hv2, hv3, hv4⟩ (rcL_length xs s k M).symm (m := m) (n := n) (gg := gg) (cap := cp) (w1 := w5) (tmp := .cells #[.int .u8 (bt xs k)] 5) (by rw [rcL_length]; omega) (by rw [e1]; exact hn) (by rw [e1, ← hbx]; exact ho5) (by rw [hlv]; exact hg5) (by rw [hlv]; exact hat5)
            rw [e1, ← hLm, HSTEP.out] at this
            exact this
          · exact (((hb.alloc hb.size _).drew).grown hg5 (by have := hb.size; simp; omega) (fun j hj => (World.ownsRow.lt hl0 j hj).1)).setCell (p := ⟨g, m, none⟩) hBg _
        have HL0 := hide hl0
        have HNB := hide (World.news_of_block (cs := #[.int .u8 (bt xs k)]) (t := 5) (fr := (0, 0)) (heap_new wr (.cells #[.int .u8 (bt xs k)] 5)))
        have hbW := hb.size
        have hfa : ∀ o : Obj, (wr.alloc o).frozen? ⟨g, m, none⟩ = false := fun o => by rw [World.frozen?_alloc_old _ _ _ (by show g ≠ _; omega)]; exact hfzg
        have hfb : ∀ o : Obj, (wr.alloc o).drew.frozen? ⟨g, m, none⟩ = false := hfa
        clear hl0 hv2 hv2' hv3 hv4 hb hLm hn hlv hv1 HSTEP hbx hc hc1
        generalize bt xs k = y at *
        have hca : ∀ o : Obj, (wr.alloc o).cell? ⟨g, m, none⟩ = some l := fun o => (World.cell?_of_block (a := ⟨g, m, none⟩) (Below.heap_alloc wr o g hgl)).trans hclg
        have hcg5 : ∀ w5, (wr.alloc (.cells #[.int .u8 y] 5)).drew.grownBy w5 l.ownBlock → w5.cell? ⟨g, m, none⟩ = some l ∧ w5.frozen? ⟨g, m, none⟩ = false := fun w5 hg5 =>
          ⟨(hg5.cell_far ⟨g, m, none⟩ (by simp; omega) (Ne.symm ag)).trans (hca _), (hg5.frozen_far ⟨g, m, none⟩ (by simp; omega) (Ne.symm ag)).trans (hfa _)⟩
        have HCG5 := hide hcg5
        clear hcg5
        go_region_law
          ((refine step_append_lies _ (by rfl) _ _ _ (by rfl) w.heap.size 5 i0 _ 1 1 Try.underlying22 hi hz0 hz1 hz2 rfl (by omega) l n (Lm.map enc) (by rfl) ((HL0.out.alloc _).drew)
              ⟨wr.heap.size, 0, none⟩ 1 1 [.int .u8 y] (by rfl) (by rfl) HNB.out (by simp [Value.oneCell'])
              (by omega) h63 hby (by simp; omega) (wr.heap.size + 1) (by simp) ?_; intro gg cp w5 ho5 hgrow hat5 hlt5; have hx5 := HCG5.out w5 hgrow; obtain ⟨hx6, hx7⟩ := hx5))
        all_goals
          have HF := hide (HFIN.out gg cp w5 ho5 hgrow hat5)
          clear ho5 hgrow hat5 HFIN HCG5 HL0 HNB
          go_wp2
          go_roundw
          case rel => exact ⟨k + 1, by omega, by go_num, HF.out.1, HF.out.2⟩
          case measure => simp [intOf]; omega
    · go_wp2
      go_ret2
      obtain rfl : k = xs.length := by omega
      rw [rcL_all] at hrc
      exact ⟨_, rfl, ⟨vs, hrc.1, hrc.2.1, hrc.2.2.1⟩, hb⟩

end Go.Proofs.Ytoijklenmjllcaa
