/-
  The page's Size of nodes.
-/
import Derived.Test.YtgmkknonnidgaaaNBase
namespace Go.Proofs.Ytgmkknonnidgaaa
open Go.RowKit
set_option linter.unusedVariables false

set_option maxRecDepth 100000 in
set_option maxHeartbeats 1000000 in
theorem rsize_any (w : World) (kv vv dv : Value) (n : Nd) (h : RdN w kv vv dv n) :
    Calls Try.prog 108 #[nv n kv vv dv] w fun e w' => e = .returned (.int .i64 (wrap64 (nsize n))) ∧ Below w.heap.size w w' := by
  have lk := h.keys.bd
  have lv := h.vals.bd
  have ld := h.kids.bd
  obtain ⟨a, c, a', c', a'', c'', rfl, rfl, rfl⟩ := h.slices
  obtain ⟨leaf, keys, vals, kids⟩ := n
  dsimp only [nv] at *
  obtain ⟨W, hW, D, bW, sW⟩ := boxedN w #[.bool leaf, .slice a keys.length c, .slice a' vals.length c', .slice a'' kids.length c''] 147
  replace h := h.to bW
  have HH := hide h
  have HB := hide bW
  obtain ⟨⟨D0, D1, D2, D3⟩, _⟩ := cells4 D
  have HD := hide (And.intro D0 (And.intro D1 (And.intro D2 D3)))
  clear h bW D
  rw [hW] at D0 D1 D2 D3
  generalize hN : (⟨leaf, keys, vals, kids⟩ : Nd) = N at *
  have N1 : Hid (N.keys = keys ∧ N.vals = vals ∧ N.kids = kids ∧ N.leaf = leaf) := by subst hN; exact ⟨rfl, rfl, rfl, rfl⟩
  replace hN := hide hN
  go_enter Try.func108, Try.ntmps108
  go_wp2
  rw [← hW]
  replace hW := hide hW
  clear D0 D1 D2 D3
  go_loopw [3, 4] (fun a b wr => ∃ k : Nat, k ≤ keys.length ∧ b = .int .i64 k ∧ a = .int .i64 (wrap64 (nsz N k)) ∧ Hid (Below W.heap.size W wr)) (fun _ b _ => keys.length - (intOf b).toNat)
  case atStart => exact ⟨0, Nat.zero_le _, rfl, by rw [show nsz N 0 = 2 from rfl, IntWalk.wrap64_in 2 (by omega)], hide (Below.refl _ _)⟩
  case round =>
    obtain ⟨k, hk, rfl, rfl, hb⟩ := hrel
    have D0 := (hb.out.cell (cell_lt HD.out.1)).trans HD.out.1
    have D1 := (hb.out.cell (cell_lt HD.out.2.1)).trans HD.out.2.1
    have D2 := (hb.out.cell (cell_lt HD.out.2.2.1)).trans HD.out.2.2.1
    have D3 := (hb.out.cell (cell_lt HD.out.2.2.2)).trans HD.out.2.2.2
    by_cases hlt : k < keys.length
    · have hq : (k : Int) < (keys.length : Int) := by omega
      obtain ⟨x, hx⟩ := some_el keys hlt
      have hs := hide (show nsz N (k + 1) = nsz N k + (1 + (x.length : Int) + if leaf then 1 + ((vals[k]?.getD []).length : Int) else 0) by simp only [nsz, N1.out.1, N1.out.2.1, N1.out.2.2.2, hx]; rfl)
      obtain ⟨b, off, rfl, hc1⟩ := (HH.out.to hb.out).keys.strAt (N1.out.1 ▸ hx)
      have hx' := hide hx
      clear hx
      generalize nsz N k = Z at *
      cases leaf with
      | false =>
        go_wp2
        go_roundw
        case rel => exact ⟨k + 1, by omega, by go_num, by rw [hs.out]; simp only [w64_add]; congr 2; rw [if_neg (by decide)]; omega, hb⟩
        case measure => simp [intOf]; omega
      | true =>
        by_cases hv : k < vals.length
        · have hq' : (k : Int) < (vals.length : Int) := by omega
          obtain ⟨y, hy⟩ := some_el vals hv
          obtain ⟨b', off', rfl, hc2⟩ := (HH.out.to hb.out).vals.strAt (N1.out.2.1 ▸ hy)
          replace hy := hide hy
          go_wp2
          go_roundw
          case rel => exact ⟨k + 1, by omega, by go_num, by rw [hs.out]; simp only [w64_add]; congr 2; rw [if_pos trivial, hy.out]; simp only [Option.getD_some]; omega, hb⟩
          case measure => simp [intOf]; omega
        · have hq' : ¬ (k : Int) < (vals.length : Int) := by omega
          go_wp2
          go_roundw
          case rel => exact ⟨k + 1, by omega, by go_num, by rw [hs.out]; simp only [w64_add]; congr 2; rw [if_pos trivial, List.getElem?_eq_none (by omega)]; simp only [Option.getD_none, List.length_nil]; omega, hb⟩
          case measure => simp [intOf]; omega
    · have hq : ¬ (k : Int) < (keys.length : Int) := by omega
      obtain rfl : k = keys.length := by omega
      cases leaf with
      | false =>
        have hr := hide (show wrap64 (wrap64 (nsz N keys.length) + wrap64 (4 * (kids.length : Int))) = wrap64 (nsize N) by rw [w64_add, w64_add']; unfold nsize; rw [N1.out.1, N1.out.2.2.1, N1.out.2.2.2]; rfl)
        go_wp2
        go_ret
        exact ⟨ret_int hr.out, HB.out.trans (hb.out.mono HB.out.size)⟩
      | true =>
        have hr := hide (show wrap64 (nsz N keys.length) = wrap64 (nsize N) by unfold nsize; rw [N1.out.1, N1.out.2.2.1, N1.out.2.2.2]; simp)
        go_wp2
        go_ret
        exact ⟨ret_int hr.out, HB.out.trans (hb.out.mono HB.out.size)⟩

end Go.Proofs.Ytgmkknonnidgaaa
