/-
  Lists of extents that the call owns; transeptplain's SameExtents and CopyExtents.
-/
import Derived.Test.YtacfcgklncckiaaECheckR
import Derived.Laws.AppendOwnNone
import Derived.BigQuiet
namespace Go.Proofs.Ytacfcgklncckiaa
open Go.RowKit
set_option linter.unusedVariables false

abbrev SExtL : Shp (List Ext) := Shp.list 26 SExt
def ecells (l : List Ext) : List Value := l.flatMap fun x => [.int .i64 x.1, .int .i64 x.2]
theorem ecells_cons (x : Ext) (l : List Ext) : ecells (x :: l) = [Value.int .i64 x.1, .int .i64 x.2] ++ ecells l := rfl
theorem ecells_len (l : List Ext) : (ecells l).length = l.length * 2 := by
  induction l with
  | nil => rfl
  | cons x r ih => rw [ecells_cons, List.length_append, ih, List.length_cons]; simp; omega
theorem ecells_one (l : List Ext) : ∀ u ∈ ecells l, u.oneCell' = true := by
  intro u hu
  obtain ⟨x, _, hx⟩ := List.mem_flatMap.1 hu
  rcases List.mem_cons.1 hx with rfl | hx
  · rfl
  · rcases List.mem_cons.1 hx with rfl | hx
    · rfl
    · cases hx
theorem ecells_at : ∀ (l : List Ext) (j : Nat) (u : Value), (ecells l)[j]? = some u → ∃ i x, l[i]? = some x ∧ ((j = i * 2 ∧ u = .int .i64 x.1) ∨ (j = i * 2 + 1 ∧ u = .int .i64 x.2))
  | [], j, u, h => by simp [ecells] at h
  | x :: r, j, u, h => by
    rw [ecells_cons] at h
    match j, h with
    | 0, h => exact ⟨0, x, rfl, .inl ⟨rfl, by simpa using h.symm⟩⟩
    | 1, h => exact ⟨0, x, rfl, .inr ⟨rfl, by simpa using h.symm⟩⟩
    | j + 2, h =>
      obtain ⟨i, y, hi, hc⟩ := ecells_at r j u (by simpa using h)
      refine ⟨i + 1, y, by simpa using hi, ?_⟩
      rcases hc with ⟨a, b⟩ | ⟨a, b⟩
      · exact .inl ⟨by omega, b⟩
      · exact .inr ⟨by omega, b⟩
theorem own_ext {B : Nat} {w : World} {v : Value} {l : List Ext} (h : w.ownsRow B 26 2 v l.length (ecells l)) : Own SExtL B w [v] l := by
  have each : ∀ l : List Ext, ownEach SExt w [] (ecells l) l := by
    intro l
    induction l with
    | nil => exact ⟨rfl, rfl⟩
    | cons x r ih => exact ⟨[], [], [.int .i64 x.1, .int .i64 x.2], ecells r, rfl, rfl, ⟨[.int .i64 x.1], [.int .i64 x.2], [], [], rfl, rfl, ⟨rfl, rfl⟩, ⟨rfl, rfl⟩⟩, ih⟩
  refine ⟨v.ownBlock.toList, ⟨v, _, [], rfl, ?_, each l, by simp⟩, ?_, fun b hb => (World.ownsRow.lt h b (by simpa using hb)).1⟩
  · exact rows_base h fun _ _ => Nat.zero_le _
  · cases v.ownBlock <;> simp
theorem infoE : (Try.prog.info? 26).map (fun i => (i.zero, i.size, i.bytes)) = some (some (.agg #[.int .i64 0, .int .i64 0]), 2, 16) := by kernel_rfl

set_option maxRecDepth 100000 in
set_option maxHeartbeats 400000 in
theorem copyExt_any (w : World) (v : Value) (l : List Ext) (h : RdE w v l) (hm : l.length * 16 ≤ 140737488355328) :
    Calls Try.prog 26 #[v] w fun e w' => ∃ v', e = .returned v' ∧ Own SExtL w.heap.size w' [v'] l ∧ Below w.heap.size w w' := by
  obtain ⟨a, c, rfl, l1, m1, n1, r1⟩ := id h
  obtain ⟨i0, hi, hz0, hz1, hz2⟩ := info_parts infoE
  cases a with
  | none =>
    have : l = [] := by
      rcases r1 with r1 | ⟨b, off, h, _⟩
      · exact r1
      · cases h
    subst this
    obtain rfl : c = 0 := n1 rfl
    go_enter Try.func26, Try.ntmps26
    go_wp2_with (at_builtin; refine wpList_append_own_none rfl _ _ 22 rfl w.heap.size 26 i0 2 Try.underlying22 hi (.slice none 0 0) 0 [] rfl (World.ownsRow_nil _ _ _ _) rfl ?_)
    go_ret
    exact ⟨_, rfl, own_ext (World.ownsRow_nil _ _ _ _), Below.refl _ _⟩
  | some ad =>
    have n2 : ∀ j u, (ecells l)[j]? = some u → w.cell? (ad.add j) = some u := by
      intro j u hj
      obtain ⟨i, x, hx, hc⟩ := ecells_at l j u hj
      obtain ⟨b, off, e, h1, h2⟩ := h.ext hx
      obtain rfl : ad = ⟨b, off, none⟩ := by simpa using e
      have ea : (⟨b, off, none⟩ : Addr).add j = ⟨b, off + j, none⟩ := by
        by_cases h0 : j = 0
        · subst h0; simp [Addr.add]
        · simp [Addr.add, h0]
      rw [ea]
      rcases hc with ⟨rfl, rfl⟩ | ⟨rfl, rfl⟩
      · exact h1
      · exact h2
    have n1 : (ecells l).length = l.length * 2 := ecells_len l
    have n3 := ecells_one l
    have n4 : 0 + l.length ≤ maxLen := by rw [show maxLen = 9223372036854775807 from rfl]; omega
    have n5 : (0 + l.length) * 16 ≤ 140737488355328 := by omega
    have N2 := hide n2
    clear n2 r1 h
    go_enter Try.func26, Try.ntmps26
    go_wp2_with (at_builtin; refine wpList_append_own _ rfl _ _ 22 rfl w.heap.size 26 i0 (.agg #[.int .i64 0, .int .i64 0]) 2 16 Try.underlying22 hi hz0 hz1 hz2 rfl (by decide) (.slice none 0 0) 0 [] rfl (World.ownsRow_nil _ _ _ _) ad l.length c (ecells l) rfl n1 N2.out n3 n4 n5 (Nat.le_refl _) ?_; intro v1 w3 hown1 hgrow1 hnil1)
    go_ret
    refine ⟨_, rfl, own_ext ?_, (Below.refl _ _).grown hgrow1 (Nat.le_refl _) (fun k h => by cases h)⟩
    simpa using hown1

def sameE (a b : List Ext) : Bool := decide (a = b)
set_option maxRecDepth 100000 in
set_option maxHeartbeats 1000000 in
theorem sameExt_any (w : World) (v1 v2 : Value) (l1 l2 : List Ext) (h1 : RdE w v1 l1) (h2 : RdE w v2 l2) :
    Calls Try.prog 25 #[v1, v2] w fun e w' => e = .returned (.bool (sameE l1 l2)) ∧ ∃ n, w' = w.drewN n := by
  have b1 := h1.bd
  have b2 := h2.bd
  obtain ⟨a1, c1, rfl⟩ := h1.slice
  obtain ⟨a2, c2, rfl⟩ := h2.slice
  by_cases hl : l1.length = l2.length
  · have HL := hide hl
    have hne : ((l1.length : Int) != (l2.length : Int)) = false := by simp; omega
    go_enter Try.func25, Try.ntmps25
    go_wp2
    clear hl hne
    go_loopw [5] (fun i wr => ∃ k n : Nat, k ≤ l1.length ∧ i = .int .i64 k ∧ Hid (l1.take k = l2.take k) ∧ Hid (wr = w.drewN n)) (fun i _ => l1.length - (intOf i).toNat)
    case atStart => exact ⟨0, 0, Nat.zero_le _, rfl, hide rfl, hide rfl⟩
    case round =>
      obtain ⟨k, n, hk, rfl, ht, hw⟩ := hrel
      by_cases hlt : k < l1.length
      · have hq : (k : Int) < (l1.length : Int) := by omega
        have hq2 : (k : Int) < (l2.length : Int) := by have := HL.out; omega
        obtain ⟨x, hx, _⟩ := ext_at l1 hlt
        obtain ⟨y, hy, _⟩ := ext_at l2 (k := k) (by have := HL.out; omega)
        have bd := below_drewN' w n w.heap.size
        rw [← hw.out] at bd
        obtain ⟨p1, o1, rfl, x1, x2⟩ := (h1.to0 bd).ext hx
        obtain ⟨p2, o2, rfl, y1, y2⟩ := (h2.to0 bd).ext hy
        have e1 := hide (show l1.take (k + 1) = l1.take k ++ [x] by rw [List.take_add_one, hx]; rfl)
        have e2 := hide (show l2.take (k + 1) = l2.take k ++ [y] by rw [List.take_add_one, hy]; rfl)
        have HX := hide (And.intro hx hy)
        clear bd hx hy h1 h2
        obtain ⟨xa, xb⟩ := x
        obtain ⟨ya, yb⟩ := y
        dsimp only at x1 x2 y1 y2
        by_cases c1 : xa = ya
        · by_cases c2 : xb = yb
          · subst c1 c2
            go_wp2
            go_region
            go_wp2
            go_roundw
            case rel => exact ⟨k + 1, n + 1, by omega, by go_num, hide (by rw [e1.out, e2.out, ht.out]), hide (by rw [hw.out]; rfl)⟩
            case measure => simp [intOf]; omega
          · have c2' : (xb == yb) = false := by simpa using c2
            have hr : Hid (sameE l1 l2 = false) := by show _ = _; unfold sameE; simp; rintro rfl; have := HX.out; rw [this.1] at this; simp at this; exact c2 this.2
            subst c1
            go_wp2
            go_region
            go_wp2
            go_ret
            exact ⟨ret_bool hr.out.symm, n + 1, by rw [hw.out]; rfl⟩
        · have c1' : (xa == ya) = false := by simpa using c1
          have hr : Hid (sameE l1 l2 = false) := by show _ = _; unfold sameE; simp; rintro rfl; have := HX.out; rw [this.1] at this; simp at this; exact c1 this.1
          go_wp2
          go_region
          go_wp2
          go_ret
          exact ⟨ret_bool hr.out.symm, n + 1, by rw [hw.out]; rfl⟩
      · have hq : ¬ (k : Int) < (l1.length : Int) := by omega
        have hr : Hid (sameE l1 l2 = true) := by
          show _ = _
          have := ht.out
          rw [List.take_of_length_le (by omega), List.take_of_length_le (by have := HL.out; omega)] at this
          simp [sameE, this]
        go_wp2
        go_ret
        exact ⟨ret_bool hr.out.symm, n, hw.out⟩
  · have hr : Hid (sameE l1 l2 = false) := by show _ = _; unfold sameE; simp; rintro rfl; exact hl rfl
    have hne : ((l1.length : Int) != (l2.length : Int)) = true := by simp; omega
    go_enter Try.func25, Try.ntmps25
    go_wp2
    go_ret
    exact ⟨ret_bool hr.out.symm, 0, rfl⟩

end Go.Proofs.Ytacfcgklncckiaa
