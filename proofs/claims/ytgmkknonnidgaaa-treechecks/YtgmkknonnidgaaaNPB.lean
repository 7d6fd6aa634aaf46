/-
  The program's Size and Check of nodes.
-/
import Derived.Test.YtgmkknonnidgaaaNPA
import Derived.Test.YtgmkknonnidgaaaNSplitR
namespace Go.Proofs.Ytgmkknonnidgaaa
open Go.RowKit
set_option linter.unusedVariables false
set_option linter.unusedSimpArgs false

/-! how long, reckoned as the program does -/
def ksum : List Str → Int
  | [] => 0
  | x :: r => 1 + (x.length : Int) + ksum r
def vsum : List Str → Int
  | [] => 0
  | x :: r => (x.length : Int) + vsum r
theorem ksum_app : ∀ a b : List Str, ksum (a ++ b) = ksum a + ksum b
  | [], b => by simp [ksum]
  | x :: r, b => by simp only [List.cons_append, ksum, ksum_app r b]; omega
theorem vsum_app : ∀ a b : List Str, vsum (a ++ b) = vsum a + vsum b
  | [], b => by simp [vsum]
  | x :: r, b => by simp only [List.cons_append, vsum, vsum_app r b]; omega
theorem ksum_take {l : List Str} {k : Nat} {x : Str} (h : l[k]? = some x) : ksum (l.take (k + 1)) = ksum (l.take k) + (1 + (x.length : Int)) := by
  rw [List.take_add_one, h, ksum_app]; simp [ksum]
theorem vsum_take {l : List Str} {k : Nat} {x : Str} (h : l[k]? = some x) : vsum (l.take (k + 1)) = vsum (l.take k) + (x.length : Int) := by
  rw [List.take_add_one, h, vsum_app]; simp [vsum]
theorem nsz_sum (n : Nd) : ∀ k, k ≤ n.keys.length → nsz n k = 2 + ksum (n.keys.take k) + if n.leaf then (k : Int) + vsum (n.vals.take k) else 0
  | 0, _ => by simp [nsz, ksum, vsum]
  | k + 1, hk => by
    obtain ⟨x, hx⟩ := some_el n.keys (k := k) (by omega)
    rw [nsz, nsz_sum n k (by omega), ksum_take hx, hx]
    simp only [Option.getD_some]
    split
    · by_cases hv : k < n.vals.length
      · obtain ⟨y, hy⟩ := some_el n.vals hv
        rw [vsum_take hy, hy]
        simp only [Option.getD_some]
        omega
      · rw [List.getElem?_eq_none (by omega), List.take_of_length_le (l := n.vals) (i := k) (by omega), List.take_of_length_le (l := n.vals) (i := k + 1) (by omega)]
        simp only [Option.getD_none, List.length_nil]
        omega
    · omega

set_option maxRecDepth 100000 in
set_option maxHeartbeats 2000000 in
theorem psize9_any (w : World) (kv vv dv : Value) (n : Nd) (h : RdN w kv vv dv n) :
    Calls Try.prog 75 #[nv n kv vv dv] w fun e w' => e = .returned (.int .i64 (wrap64 (nsize n))) ∧ Below w.heap.size w w' := by
  have lk := h.keys.bd
  have lv := h.vals.bd
  have ld := h.kids.bd
  obtain ⟨R, hR⟩ : ∃ R, R = wrap64 (nsize n) := ⟨_, rfl⟩
  rw [← hR]
  obtain ⟨a, c, a', c', a'', c'', rfl, rfl, rfl⟩ := h.slices
  obtain ⟨leaf, keys, vals, kids⟩ := n
  dsimp only [nv] at *
  obtain ⟨W, hW, D, bW, sW⟩ := boxedN w #[.bool leaf, .slice a keys.length c, .slice a' vals.length c', .slice a'' kids.length c''] 83
  replace h := h.to bW
  have HK := hide h.keys
  have HV := hide h.vals
  dsimp only at HK HV
  have HB := hide bW
  obtain ⟨⟨D0, D1, D2, D3⟩, _⟩ := cells4 D
  have HD := hide (And.intro D0 (And.intro D1 (And.intro D2 D3)))
  replace hR := hide hR
  clear h bW D
  rw [hW] at D0 D1 D2 D3
  go_enter Try.func75, Try.ntmps75
  go_wp2
  rw [← hW]
  replace hW := hide hW
  clear D0 D1 D2 D3
  go_loopw [3, 11] (fun p i wr => ∃ k : Nat, k ≤ keys.length ∧ i = .int .i64 k ∧ p = .int .i64 (wrap64 (2 + ksum (keys.take k))) ∧ wr = W) (fun _ i _ => keys.length - (intOf i).toNat)
  case atStart => exact ⟨0, Nat.zero_le _, rfl, by simp [ksum, wrap64], rfl⟩
  case round =>
    obtain ⟨k, hk, rfl, rfl, rfl⟩ := hrel
    by_cases hlt : k < keys.length
    · have hq : (k : Int) < (keys.length : Int) := by omega
      obtain ⟨x, hx⟩ := some_el keys hlt
      obtain ⟨b, off, rfl, hc1⟩ := HK.out.strAt hx
      have t1 := hide (ksum_take hx)
      replace hx := hide hx
      generalize ksum (keys.take k) = Z at *
      go_wp2
      go_roundw
      case rel => exact ⟨k + 1, by omega, by go_num, by rw [t1.out]; simp only [w64_add, w64_add']; congr 2; omega, trivial⟩
      case measure => simp [intOf]; omega
    · have hq : ¬ (k : Int) < (keys.length : Int) := by omega
      obtain rfl : k = keys.length := by omega
      rw [List.take_length]
      obtain ⟨D0, D1, D2, D3⟩ := HD.out
      cases leaf with
      | false =>
        have hr : Hid (wrap64 (wrap64 (2 + ksum keys) + wrap64 (4 * (kids.length : Int))) = R) := by
          show _ = _
          rw [hR.out, w64_add, w64_add', nsize, nsz_sum _ _ (Nat.le_refl _)]
          dsimp only
          rw [List.take_length, if_neg (by decide), if_neg (by decide)]
          congr 1; omega
        generalize ksum keys = Z at *
        go_wp2
        go_ret
        exact ⟨ret_int hr.out, HB.out⟩
      | true =>
        obtain ⟨m, hm⟩ : ∃ m : Nat, m = min vals.length keys.length := ⟨_, rfl⟩
        have hm1 : m ≤ vals.length := by omega
        have hmc : m ≤ c' := by have := rdS_cap HV.out; omega
        have hmI : min (vals.length : Int) (keys.length : Int) = (m : Int) := by omega
        have hr : Hid (∀ S : Int, S = vsum (vals.take m) → wrap64 (2 + ksum keys + (keys.length : Int) + S) = R) := by
          intro S hS
          rw [hR.out, nsize, nsz_sum _ _ (Nat.le_refl _)]
          dsimp only
          rw [List.take_length, if_pos rfl, if_pos rfl, hS]
          have : vals.take m = vals.take keys.length := by
            by_cases q : vals.length ≤ keys.length
            · rw [List.take_of_length_le (by omega), List.take_of_length_le (by omega)]
            · congr 1; omega
          rw [this]
          congr 1; omega
        replace hm := hide hm
        generalize ksum keys = Z at *
        go_wp2
        · clear D0 D1 D2 D3
          have hM : Hid (keys.length = m) := by show _ = _; have := hm.out; omega
          go_loopw [3, 47] (fun p i wx => ∃ k : Nat, k ≤ keys.length ∧ i = .int .i64 k ∧ p = .int .i64 (wrap64 (2 + Z + (keys.length : Int) + vsum (vals.take k))) ∧ wx = wr) (fun _ i _ => keys.length - (intOf i).toNat)
          case atStart => exact ⟨0, Nat.zero_le _, rfl, by simp only [vsum, List.take_zero, w64_add, w64_add']; congr 2; omega, rfl⟩
          case round =>
            obtain ⟨k, hk, rfl, rfl, rfl⟩ := hrel
            by_cases hlt : k < keys.length
            · have hq : (k : Int) < (keys.length : Int) := by omega
              obtain ⟨x, hx⟩ := some_el vals (k := k) (by have := hM.out; omega)
              obtain ⟨b, off, rfl, hc1⟩ := HV.out.strAt hx
              have t1 := hide (vsum_take hx)
              replace hx := hide hx
              generalize vsum (vals.take k) = Y at *
              go_wp2
              go_roundw
              case rel => exact ⟨k + 1, by omega, by go_num, by rw [t1.out]; simp only [w64_add, w64_add']; congr 2; omega, trivial⟩
              case measure => simp [intOf]; omega
            · have hq : ¬ (k : Int) < (keys.length : Int) := by omega
              have e2 := hide (hr.out (vsum (vals.take k)) (by rw [show k = m by have := hM.out; omega]))
              generalize vsum (vals.take k) = Y at *
              go_wp2
              go_ret
              exact ⟨ret_int e2.out, HB.out⟩
        · clear D0 D1 D2 D3
          have hM : Hid (vals.length = m) := by show _ = _; have := hm.out; omega
          go_loopw [3, 47] (fun p i wx => ∃ k : Nat, k ≤ vals.length ∧ i = .int .i64 k ∧ p = .int .i64 (wrap64 (2 + Z + (keys.length : Int) + vsum (vals.take k))) ∧ wx = wr) (fun _ i _ => vals.length - (intOf i).toNat)
          case atStart => exact ⟨0, Nat.zero_le _, rfl, by simp only [vsum, List.take_zero, w64_add, w64_add']; congr 2; omega, rfl⟩
          case round =>
            obtain ⟨k, hk, rfl, rfl, rfl⟩ := hrel
            by_cases hlt : k < vals.length
            · have hq : (k : Int) < (vals.length : Int) := by omega
              obtain ⟨x, hx⟩ := some_el vals (k := k) (by have := hM.out; omega)
              obtain ⟨b, off, rfl, hc1⟩ := HV.out.strAt hx
              have t1 := hide (vsum_take hx)
              replace hx := hide hx
              generalize vsum (vals.take k) = Y at *
              go_wp2
              go_roundw
              case rel => exact ⟨k + 1, by omega, by go_num, by rw [t1.out]; simp only [w64_add, w64_add']; congr 2; omega, trivial⟩
              case measure => simp [intOf]; omega
            · have hq : ¬ (k : Int) < (vals.length : Int) := by omega
              have e2 := hide (hr.out (vsum (vals.take k)) (by rw [show k = m by have := hM.out; omega]))
              generalize vsum (vals.take k) = Y at *
              go_wp2
              go_ret
              exact ⟨ret_int e2.out, HB.out⟩

theorem ncheck_of (n : Nd) : ncheck n = if nkeys n n.keys.length then if ncount n then if ¬ nvals n n.vals.length then 5 else if ¬ nkids n n.kids.length then 4 else if 244 < nsize n then 51 else 0 else 3 else 91 := by
  unfold ncheck
  by_cases h1 : nkeys n n.keys.length <;> by_cases h2 : ncount n <;> by_cases h3 : nvals n n.vals.length <;> by_cases h4 : nkids n n.kids.length <;> simp [h1, h2, h3, h4]

set_option maxRecDepth 100000 in
set_option maxHeartbeats 2000000 in
theorem pcheck9_any (w : World) (kv vv dv : Value) (n : Nd) (h : RdN w kv vv dv n) (hf : nfit n) :
    Calls Try.prog 66 #[nv n kv vv dv] w fun e w' => e = .returned (.int .i64 (ncheck n)) ∧ Below w.heap.size w w' := by
  obtain ⟨W, hW, D, bW, sW⟩ := boxedN w #[.bool n.leaf, kv, vv, dv] 83
  replace h := h.to bW
  have KA := hide (pkeys_any W kv n h.keys)
  have KB := hide (pcounts_any W kv vv dv n h)
  have KC := hide (fun w1 (b : Below W.heap.size W w1) => pconT_any w1 vv n (h.to b).vals)
  have KD := hide (fun w1 (b : Below W.heap.size W w1) => pconI_any w1 dv n (h.to b).kids)
  have KE := hide (fun w1 (b : Below W.heap.size W w1) => psize9_any w1 kv vv dv n (h.to b))
  have hz : Hid (nkeys n n.keys.length → ncount n → nvals n n.vals.length → wrap64 (nsize n) = nsize n) := fun h1 h2 h3 => by
    have := nsize_le hf h1 h2 h3
    exact IntWalk.wrap64_in _ (by omega)
  have hR := hide (ncheck_of n)
  obtain ⟨D4, _⟩ := cells4 D
  have HD : Hid (∀ w1, Below W.heap.size W w1 → w1.cell? ⟨w.heap.size, 0, none⟩ = some (.bool n.leaf) ∧ w1.cell? ⟨w.heap.size, 1, none⟩ = some kv ∧ w1.cell? ⟨w.heap.size, 2, none⟩ = some vv ∧ w1.cell? ⟨w.heap.size, 3, none⟩ = some dv) := fun w1 b =>
    ⟨(b.cell (p := ⟨w.heap.size, 0, none⟩) (cell_lt D4.1)).trans D4.1, (b.cell (p := ⟨w.heap.size, 1, none⟩) (cell_lt D4.2.1)).trans D4.2.1, (b.cell (p := ⟨w.heap.size, 2, none⟩) (cell_lt D4.2.2.1)).trans D4.2.2.1, (b.cell (p := ⟨w.heap.size, 3, none⟩) (cell_lt D4.2.2.2)).trans D4.2.2.2⟩
  have HE : Hid (∀ w1, Below W.heap.size W w1 → Below w.heap.size w w1) := fun w1 b => bW.trans (b.mono bW.size)
  obtain ⟨D0, D1, D2, D3⟩ := D4
  obtain ⟨a, c, a', c', a'', c'', rfl, rfl, rfl⟩ := h.slices
  dsimp only [nv] at *
  generalize n.keys.length = lk at *
  generalize n.vals.length = lv at *
  generalize n.kids.length = ld at *
  generalize n.leaf = leaf at *
  clear h bW D hf
  rw [hW] at D0 D1 D2 D3
  go_enter Try.func66, Try.ntmps66
  go_wp2_with fail
  rw [← hW]
  replace hW := hide hW
  clear D0 D1 D2 D3
  refine KA.out.mono ?_
  rintro e w1 ⟨rfl, rfl⟩
  clear KA
  obtain ⟨D0, D1, D2, D3⟩ := HD.out W (Below.refl _ _)
  by_cases c1 : nkeys n lk
  · rw [decide_eq_true c1]
    replace c1 := hide c1
    go_wp2_with fail
    clear D0 D1 D2 D3
    refine KB.out.mono ?_
    rintro e w1 ⟨rfl, b1⟩
    obtain ⟨D0, D1, D2, D3⟩ := HD.out w1 b1
    replace b1 := hide b1
    clear KB
    by_cases c2 : ncount n
    · rw [decide_eq_true c2]
      replace c2 := hide c2
      go_wp2_with fail
      refine (KC.out _ b1.out).mono ?_
      rintro e w2 ⟨rfl, rfl⟩
      clear KC
      by_cases c3 : nvals n lv
      · rw [decide_eq_false (not_not_intro c3)]
        replace c3 := hide c3
        go_wp2_with fail
        refine (KD.out _ b1.out).mono ?_
        rintro e w2 ⟨rfl, rfl⟩
        clear KD
        by_cases c4 : nkids n ld
        · rw [decide_eq_false (not_not_intro c4)]
          replace c4 := hide c4
          go_wp2_with fail
          refine (KE.out _ b1.out).mono ?_
          rintro e w2 ⟨rfl, b2⟩
          replace b2 := hide b2
          clear KE D0 D1 D2 D3
          rw [hz.out c1.out c2.out c3.out]
          have r := hR.out
          rw [if_pos c1.out, if_pos c2.out, if_neg (not_not_intro c3.out), if_neg (not_not_intro c4.out)] at r
          replace r := hide r
          have bb := hide (HE.out _ (b1.out.trans (b2.out.mono b1.out.size)))
          generalize nsize n = Z at *
          by_cases c5 : 244 < Z
          · go_wp2
            go_ret
            exact ⟨ret_int (by rw [r.out, if_pos c5]), bb.out⟩
          · go_wp2
            go_ret
            exact ⟨ret_int (by rw [r.out, if_neg (by omega)]), bb.out⟩
        · rw [decide_eq_true c4]
          have r : Hid (ncheck n = 4) := by show _ = _; rw [hR.out, if_pos c1.out, if_pos c2.out, if_neg (not_not_intro c3.out), if_pos c4]
          replace c4 := hide c4
          go_wp2
          go_ret
          exact ⟨ret_int r.out.symm, HE.out _ b1.out⟩
      · rw [decide_eq_true c3]
        have r : Hid (ncheck n = 5) := by show _ = _; rw [hR.out, if_pos c1.out, if_pos c2.out, if_pos c3]
        replace c3 := hide c3
        go_wp2
        go_ret
        exact ⟨ret_int r.out.symm, HE.out _ b1.out⟩
    · rw [decide_eq_false c2]
      have r : Hid (ncheck n = 3) := by show _ = _; rw [hR.out, if_pos c1.out, if_neg c2]
      replace c2 := hide c2
      go_wp2
      go_ret
      exact ⟨ret_int r.out.symm, HE.out _ b1.out⟩
  · rw [decide_eq_false c1]
    have r : Hid (ncheck n = 91) := by show _ = _; rw [hR.out, if_neg c1]
    replace c1 := hide c1
    go_wp2
    go_ret
    exact ⟨ret_int r.out.symm, HE.out _ (Below.refl _ _)⟩

end Go.Proofs.Ytgmkknonnidgaaa
