/-
  The page's Check of nodes.
-/
import Derived.Deep.QuietTactic
import Derived.BigQuiet
import Derived.Laws.Cover1
import Derived.Test.YtgmkknonnidgaaaNSizeR
namespace Go.Proofs.Ytgmkknonnidgaaa
open Go.RowKit
set_option linter.unusedVariables false

theorem ncheck_key {n : Nd} {k : Nat} (hk : k < n.keys.length) (h : ¬ nkOk n k) : ncheck n = 91 := by
  unfold ncheck
  rw [if_neg fun hh => h (hh k hk)]
theorem ncheck_count {n : Nd} (h1 : nkeys n n.keys.length) (h : ¬ ncount n) : ncheck n = 3 := by
  unfold ncheck
  rw [if_pos h1, if_neg h]
theorem ncheck_val {n : Nd} (h1 : nkeys n n.keys.length) (h2 : ncount n) {k : Nat} (hk : k < n.vals.length) (h : ¬ (n.vals[k]?.getD []).length ≤ 64) : ncheck n = 5 := by
  unfold ncheck
  rw [if_pos h1, if_pos h2, if_neg fun hh => h (hh k hk)]
theorem ncheck_kid {n : Nd} (h1 : nkeys n n.keys.length) (h2 : ncount n) (h3 : nvals n n.vals.length) {k : Nat} (hk : k < n.kids.length) (h : ¬ (1 ≤ n.kids[k]?.getD 0 ∧ n.kids[k]?.getD 0 ≤ 65536)) : ncheck n = 4 := by
  unfold ncheck
  rw [if_pos h1, if_pos h2, if_pos h3, if_neg fun hh => h (hh k hk)]
theorem ncheck_full {n : Nd} (h1 : nkeys n n.keys.length) (h2 : ncount n) (h3 : nvals n n.vals.length) (h4 : nkids n n.kids.length) : ncheck n = if 244 < nsize n then 51 else 0 := by
  unfold ncheck
  rw [if_pos h1, if_pos h2, if_pos h3, if_pos h4]
/-- no more keys and pages than memory holds -/
def nfit (n : Nd) : Prop := n.keys.length ≤ 140737488355328 ∧ n.vals.length ≤ 140737488355328 ∧ n.kids.length ≤ 140737488355328
theorem nsize_le {n : Nd} (h0 : nfit n) (h1 : nkeys n n.keys.length) (h2 : ncount n) (h3 : nvals n n.vals.length) : 0 ≤ nsize n ∧ nsize n ≤ 18014398509481984 := by
  have a := nsz_le n n.keys.length (fun k hk => (h1 k hk).2.1) (fun hl k hk => h3 k (by unfold ncount at h2; rw [if_pos hl] at h2; omega)) n.keys.length (Nat.le_refl _)
  have b := nsz_ge n n.keys.length
  unfold nsize
  unfold nfit at h0
  split <;> omega

/-- the last part: its length -/
def NInv (w W : World) (n : Nd) (kv vv dv : Value) (wr : World) : Prop := Below W.heap.size W wr ∧ (wr.cell? ⟨w.heap.size, 0, none⟩ = some (.bool n.leaf) ∧ wr.cell? ⟨w.heap.size, 1, none⟩ = some kv ∧ wr.cell? ⟨w.heap.size, 2, none⟩ = some vv ∧ wr.cell? ⟨w.heap.size, 3, none⟩ = some dv) ∧ RdN wr kv vv dv n
theorem NInv.to {w W : World} {n : Nd} {kv vv dv : Value} {wr w' : World} (h : NInv w W n kv vv dv wr) (hb : Below wr.heap.size wr w') : NInv w W n kv vv dv w' :=
  ⟨h.1.trans (hb.mono h.1.size), ⟨(hb.cell (cell_lt h.2.1.1)).trans h.2.1.1, (hb.cell (cell_lt h.2.1.2.1)).trans h.2.1.2.1, (hb.cell (cell_lt h.2.1.2.2.1)).trans h.2.1.2.2.1, (hb.cell (cell_lt h.2.1.2.2.2)).trans h.2.1.2.2.2⟩, h.2.2.to hb⟩

set_option maxRecDepth 100000 in
set_option maxHeartbeats 4000000 in
theorem rcheck9_any (w : World) (kv vv dv : Value) (n : Nd) (h : RdN w kv vv dv n) (hf : nfit n) :
    Calls Try.prog 100 #[nv n kv vv dv] w fun e w' => e = .returned (.int .i64 (ncheck n)) ∧ Below w.heap.size w w' := by
  have lk := h.keys.bd
  have lv := h.vals.bd
  have ld := h.kids.bd
  obtain ⟨a, c, a', c', a'', c'', rfl, rfl, rfl⟩ := h.slices
  obtain ⟨leaf, keys, vals, kids⟩ := n
  dsimp only [nv] at *
  obtain ⟨W, hW, D, bW, sW⟩ := boxedN w #[.bool leaf, .slice a keys.length c, .slice a' vals.length c', .slice a'' kids.length c''] 147
  replace h := h.to bW
  have HB := hide bW
  obtain ⟨D4, _⟩ := cells4 D
  have HI : Hid (NInv w W _ _ _ _ W) := hide ⟨Below.refl _ _, D4, h⟩
  obtain ⟨D0, D1, D2, D3⟩ := D4
  clear h bW D
  rw [hW] at D0 D1 D2 D3
  generalize hN : (⟨leaf, keys, vals, kids⟩ : Nd) = N at *
  have N1 : Hid (N.keys = keys ∧ N.vals = vals ∧ N.kids = kids ∧ N.leaf = leaf) := by subst hN; exact ⟨rfl, rfl, rfl, rfl⟩
  replace hN := hide hN
  replace hf := hide hf
  go_enter Try.func100, Try.ntmps100
  go_wp2
  rw [← hW]
  replace hW := hide hW
  clear D0 D1 D2 D3
  go_loopw [3] (fun b wr => ∃ k : Nat, k ≤ keys.length ∧ b = .int .i64 k ∧ Hid (nkeys N k ∧ NInv w W N (.slice a keys.length c) (.slice a' vals.length c') (.slice a'' kids.length c'') wr)) (fun b _ => keys.length - (intOf b).toNat)
  case atStart => exact ⟨0, Nat.zero_le _, rfl, hide ⟨fun k hk => by omega, HI.out⟩⟩
  case round =>
    obtain ⟨k, hk, rfl, hb⟩ := hrel
    obtain ⟨D0, D1, D2, D3⟩ := hb.out.2.2.1
    rw [N1.out.2.2.2] at D0
    have hE : Hid (∀ w', Below wr.heap.size wr w' → Below w.heap.size w w') := fun w' b => HB.out.trans ((hb.out.2.to b).1.mono HB.out.size)
    by_cases hlt : k < keys.length
    · have hq : (k : Int) < (keys.length : Int) := by omega
      obtain ⟨x, hx⟩ := some_el keys hlt
      have hnk : Hid (nkey N k = x) := by show _ = _; unfold nkey; rw [N1.out.1, hx]; rfl
      have hbad : Hid (¬ nkOk N k → ncheck N = 91) := fun hn => ncheck_key (by rw [N1.out.1]; exact hlt) hn
      obtain ⟨b, off, rfl, hc1⟩ := hb.out.2.2.2.keys.strAt (N1.out.1 ▸ hx)
      have hx' := hide hx
      clear hx
      by_cases c1 : (x.length : Int) < 1
      · have g1 : decide ((x.length : Int) < 1) = true := decide_eq_true c1
        have hr : Hid (ncheck N = 91) := hbad.out fun hn => by have := hn.1; rw [hnk.out] at this; omega
        go_wp2_with fail
        go_quiet (fail)
        go_wp2
        go_ret
        exact ⟨ret_int hr.out.symm, hE.out _ (below_drewN' wr _ _)⟩
      have g1 : decide ((x.length : Int) < 1) = false := decide_eq_false c1
      by_cases c2 : (32 : Int) < (x.length : Int)
      · have g2 : decide ((32 : Int) < (x.length : Int)) = true := decide_eq_true c2
        have hr : Hid (ncheck N = 91) := hbad.out fun hn => by have := hn.2.1; rw [hnk.out] at this; omega
        go_wp2_with fail
        go_quiet (fail)
        go_wp2
        go_ret
        exact ⟨ret_int hr.out.symm, hE.out _ (below_drewN' wr _ _)⟩
      have g2 : decide ((32 : Int) < (x.length : Int)) = false := decide_eq_false c2
      by_cases c3 : k = 0
      · have g3 : decide (0 < k) = false := decide_eq_false (by omega)
        have hr : Hid (nkeys N (k + 1)) := (nkeys_succ N k).2 ⟨hb.out.1, by rw [nkOk, hnk.out]; exact ⟨by omega, by omega, fun h => by omega⟩⟩
        replace c3 := hide c3
        go_wp2_with fail
        go_quiet (fail)
        go_wp2
        go_roundw
        case rel => exact ⟨k + 1, by omega, by go_num, hide ⟨hr.out, hb.out.2.to (below_drewN' wr _ _)⟩⟩
        case measure => simp [intOf]; omega
      obtain ⟨j, hj⟩ : ∃ j, k = j + 1 := ⟨k - 1, by omega⟩
      have g3 : decide (0 < k) = true := decide_eq_true (by omega)
      have hj1 : (k : Int) - 1 = (j : Int) := by omega
      have hj2 : (j : Int) < (keys.length : Int) := by omega
      have hj3 : IntKind.i64.wrap (j : Int) = (j : Int) := IntWalk.i64_in _ (by omega)
      obtain ⟨y, hy⟩ := some_el keys (k := j) (by omega)
      have hny : Hid (nkey N j = y) := by show _ = _; unfold nkey; rw [N1.out.1, hy]; rfl
      obtain ⟨b', off', e, hc0⟩ := hb.out.2.2.2.keys.strAt (N1.out.1 ▸ hy)
      simp only [Option.some.injEq, Addr.mk.injEq, and_true] at e
      obtain ⟨rfl, rfl⟩ := e
      replace hy := hide hy
      have hj' : Hid (k - 1 = j) := by show _ = _; omega
      replace hj := hide hj
      by_cases c4 : slt y x = true
      · have e1 : Op.bytesLess x y = false := slt_asym c4
        have e2 : (x == y) = false := by
          apply Bool.eq_false_iff.2
          intro e
          have : x = y := by simpa using e
          subst this; rw [slt_irr] at c4; cases c4
        have hr : Hid (nkeys N (k + 1)) := (nkeys_succ N k).2 ⟨hb.out.1, by rw [nkOk, hnk.out, hj'.out, hny.out]; exact ⟨by omega, by omega, fun h => c4⟩⟩
        clear c4
        go_wp2_with fail
        go_quiet (fail)
        go_wp2
        go_roundw
        case rel => exact ⟨k + 1, by omega, by go_num, hide ⟨hr.out, hb.out.2.to (below_drewN' wr _ _)⟩⟩
        case measure => simp [intOf]; omega
      · have hr : Hid (ncheck N = 91) := hbad.out fun hn => by have := hn.2.2 (by omega); rw [hnk.out, hj'.out, hny.out] at this; exact c4 this
        have hle : (Op.bytesLess x y || x == y) = true := by rw [sle_iff]; simpa using c4
        clear c4
        cases e1 : Op.bytesLess x y with
        | true =>
          clear hle
          go_wp2_with fail
          go_quiet (fail)
          go_wp2
          go_ret
          exact ⟨ret_int hr.out.symm, hE.out _ (below_drewN' wr _ _)⟩
        | false =>
          have e2 : (x == y) = true := by simpa [e1] using hle
          clear hle
          go_wp2_with fail
          go_quiet (fail)
          go_wp2
          go_ret
          exact ⟨ret_int hr.out.symm, hE.out _ (below_drewN' wr _ _)⟩
    · have hq : ¬ (k : Int) < (keys.length : Int) := by omega
      obtain rfl : k = keys.length := by omega
      have hK : Hid (nkeys N N.keys.length) := by show nkeys _ _; rw [N1.out.1]; exact hb.out.1
      have hI := hide hb.out.2
      clear hb
      by_cases hc : ncount N
      · replace hc := hide hc
        cases leaf with
        | false =>
          have q := hc.out
          unfold ncount at q
          rw [N1.out.1, N1.out.2.1, N1.out.2.2.1, N1.out.2.2.2, if_neg (by decide)] at q
          have g1 : decide (0 < vals.length) = false := decide_eq_false (by omega)
          have g2 : decide ((keys.length : Int) < 1) = false := decide_eq_false (by omega)
          have g3 : ((kids.length : Int) != wrap64 ((keys.length : Int) + 1)) = false := by rw [IntWalk.wrap64_in _ (by omega)]; simp; omega
          clear q
          go_wp2
          clear D0 D1 D2 D3 g1 g2 g3 hE
          go_loopw [4] (fun b wr => ∃ k : Nat, k ≤ vals.length ∧ b = .int .i64 k ∧ Hid (nvals N k ∧ NInv w W N (.slice a keys.length c) (.slice a' vals.length c') (.slice a'' kids.length c'') wr)) (fun b _ => vals.length - (intOf b).toNat)
          case atStart => exact ⟨0, Nat.zero_le _, rfl, hide ⟨fun k hk => by omega, hI.out⟩⟩
          case round =>
            obtain ⟨k, hk, rfl, hb⟩ := hrel
            obtain ⟨D0, D1, D2, D3⟩ := hb.out.2.2.1
            rw [N1.out.2.2.2] at D0
            have hE : Hid (∀ w', Below wr.heap.size wr w' → Below w.heap.size w w') := fun w' b => HB.out.trans ((hb.out.2.to b).1.mono HB.out.size)
            by_cases hlt : k < vals.length
            · have hq : (k : Int) < (vals.length : Int) := by omega
              obtain ⟨x, hx⟩ := some_el vals hlt
              have hnx : Hid (N.vals[k]?.getD [] = x) := by show _ = _; rw [N1.out.2.1, hx]; rfl
              obtain ⟨b, off, rfl, hc1⟩ := hb.out.2.2.2.vals.strAt (N1.out.2.1 ▸ hx)
              replace hx := hide hx
              by_cases c1 : (64 : Int) < (x.length : Int)
              · have hr : Hid (ncheck N = 5) := ncheck_val hK.out hc.out (k := k) (by rw [N1.out.2.1]; exact hlt) (by rw [hnx.out]; omega)
                go_wp2
                go_ret
                exact ⟨ret_int hr.out.symm, hE.out _ (Below.refl _ _)⟩
              · have hr : Hid (nvals N (k + 1)) := (nvals_succ N k).2 ⟨hb.out.1, by rw [hnx.out]; omega⟩
                go_wp2
                go_roundw
                case rel => exact ⟨k + 1, by omega, by go_num, hide ⟨hr.out, hb.out.2⟩⟩
                case measure => simp [intOf]; omega
            · have hq : ¬ (k : Int) < (vals.length : Int) := by omega
              obtain rfl : k = vals.length := by omega
              have hV : Hid (nvals N N.vals.length) := by show nvals _ _; rw [N1.out.2.1]; exact hb.out.1
              have hI := hide hb.out.2
              clear hb
              go_wp2
              clear D0 D1 D2 D3 hE
              go_loopw [5] (fun b wr => ∃ k : Nat, k ≤ kids.length ∧ b = .int .i64 k ∧ Hid (nkids N k ∧ NInv w W N (.slice a keys.length c) (.slice a' vals.length c') (.slice a'' kids.length c'') wr)) (fun b _ => kids.length - (intOf b).toNat)
              case atStart => exact ⟨0, Nat.zero_le _, rfl, hide ⟨fun k hk => by omega, hI.out⟩⟩
              case round =>
                obtain ⟨k, hk, rfl, hb⟩ := hrel
                obtain ⟨D0, D1, D2, D3⟩ := hb.out.2.2.1
                rw [N1.out.2.2.2] at D0
                have hE : Hid (∀ w', Below wr.heap.size wr w' → Below w.heap.size w w') := fun w' b => HB.out.trans ((hb.out.2.to b).1.mono HB.out.size)
                by_cases hlt : k < kids.length
                · have hq : (k : Int) < (kids.length : Int) := by omega
                  obtain ⟨x, hx⟩ := some_el kids hlt
                  have hnx : Hid (N.kids[k]?.getD 0 = x) := by show _ = _; rw [N1.out.2.2.1, hx]; rfl
                  obtain ⟨b, off, rfl, hc1⟩ := hb.out.2.2.2.kids.intAt (N1.out.2.2.1 ▸ hx)
                  replace hx := hide hx
                  by_cases c1 : x < 1
                  · have hr : Hid (ncheck N = 4) := ncheck_kid hK.out hc.out hV.out (k := k) (by rw [N1.out.2.2.1]; exact hlt) (by rw [hnx.out]; omega)
                    go_wp2
                    go_ret
                    exact ⟨ret_int hr.out.symm, hE.out _ (Below.refl _ _)⟩
                  by_cases c2 : 65536 < x
                  · have hr : Hid (ncheck N = 4) := ncheck_kid hK.out hc.out hV.out (k := k) (by rw [N1.out.2.2.1]; exact hlt) (by rw [hnx.out]; omega)
                    go_wp2
                    go_ret
                    exact ⟨ret_int hr.out.symm, hE.out _ (Below.refl _ _)⟩
                  · have hr : Hid (nkids N (k + 1)) := (nkids_succ N k).2 ⟨hb.out.1, by rw [hnx.out]; omega⟩
                    go_wp2
                    go_roundw
                    case rel => exact ⟨k + 1, by omega, by go_num, hide ⟨hr.out, hb.out.2⟩⟩
                    case measure => simp [intOf]; omega
                · have hq : ¬ (k : Int) < (kids.length : Int) := by omega
                  obtain rfl : k = kids.length := by omega
                  have hD : Hid (nkids N N.kids.length) := by show nkids _ _; rw [N1.out.2.2.1]; exact hb.out.1
                  have KK := hide (rsize_any wr _ _ _ N hb.out.2.2.2)
                  rw [nv, N1.out.2.2.2] at KK
                  have hz := nsize_le hf.out hK.out hc.out hV.out
                  rw [IntWalk.wrap64_in _ (by omega)] at KK
                  have hr := hide (ncheck_full hK.out hc.out hV.out hD.out)
                  generalize nsize N = Z at *
                  clear hb
                  go_wp2_with fail
                  refine KK.out.mono ?_
                  rintro e w2 ⟨rfl, b2⟩
                  replace b2 := hide b2
                  by_cases hz2 : 244 < Z
                  · go_wp2
                    go_ret
                    exact ⟨ret_int (by rw [hr.out, if_pos hz2]), hE.out _ b2.out⟩
                  · go_wp2
                    go_ret
                    exact ⟨ret_int (by rw [hr.out, if_neg (by omega)]), hE.out _ b2.out⟩
        | true =>
          have q := hc.out
          unfold ncount at q
          rw [N1.out.1, N1.out.2.1, N1.out.2.2.1, N1.out.2.2.2, if_pos rfl] at q
          have g1 : ((vals.length : Int) != (keys.length : Int)) = false := by simp; omega
          have g2 : decide (0 < kids.length) = false := decide_eq_false (by omega)
          clear q
          go_wp2
          clear D0 D1 D2 D3 g1 g2 hE
          go_loopw [4] (fun b wr => ∃ k : Nat, k ≤ vals.length ∧ b = .int .i64 k ∧ Hid (nvals N k ∧ NInv w W N (.slice a keys.length c) (.slice a' vals.length c') (.slice a'' kids.length c'') wr)) (fun b _ => vals.length - (intOf b).toNat)
          case atStart => exact ⟨0, Nat.zero_le _, rfl, hide ⟨fun k hk => by omega, hI.out⟩⟩
          case round =>
            obtain ⟨k, hk, rfl, hb⟩ := hrel
            obtain ⟨D0, D1, D2, D3⟩ := hb.out.2.2.1
            rw [N1.out.2.2.2] at D0
            have hE : Hid (∀ w', Below wr.heap.size wr w' → Below w.heap.size w w') := fun w' b => HB.out.trans ((hb.out.2.to b).1.mono HB.out.size)
            by_cases hlt : k < vals.length
            · have hq : (k : Int) < (vals.length : Int) := by omega
              obtain ⟨x, hx⟩ := some_el vals hlt
              have hnx : Hid (N.vals[k]?.getD [] = x) := by show _ = _; rw [N1.out.2.1, hx]; rfl
              obtain ⟨b, off, rfl, hc1⟩ := hb.out.2.2.2.vals.strAt (N1.out.2.1 ▸ hx)
              replace hx := hide hx
              by_cases c1 : (64 : Int) < (x.length : Int)
              · have hr : Hid (ncheck N = 5) := ncheck_val hK.out hc.out (k := k) (by rw [N1.out.2.1]; exact hlt) (by rw [hnx.out]; omega)
                go_wp2
                go_ret
                exact ⟨ret_int hr.out.symm, hE.out _ (Below.refl _ _)⟩
              · have hr : Hid (nvals N (k + 1)) := (nvals_succ N k).2 ⟨hb.out.1, by rw [hnx.out]; omega⟩
                go_wp2
                go_roundw
                case rel => exact ⟨k + 1, by omega, by go_num, hide ⟨hr.out, hb.out.2⟩⟩
                case measure => simp [intOf]; omega
            · have hq : ¬ (k : Int) < (vals.length : Int) := by omega
              obtain rfl : k = vals.length := by omega
              have hV : Hid (nvals N N.vals.length) := by show nvals _ _; rw [N1.out.2.1]; exact hb.out.1
              have hI := hide hb.out.2
              clear hb
              go_wp2
              clear D0 D1 D2 D3 hE
              go_loopw [5] (fun b wr => ∃ k : Nat, k ≤ kids.length ∧ b = .int .i64 k ∧ Hid (nkids N k ∧ NInv w W N (.slice a keys.length c) (.slice a' vals.length c') (.slice a'' kids.length c'') wr)) (fun b _ => kids.length - (intOf b).toNat)
              case atStart => exact ⟨0, Nat.zero_le _, rfl, hide ⟨fun k hk => by omega, hI.out⟩⟩
              case round =>
                obtain ⟨k, hk, rfl, hb⟩ := hrel
                obtain ⟨D0, D1, D2, D3⟩ := hb.out.2.2.1
                rw [N1.out.2.2.2] at D0
                have hE : Hid (∀ w', Below wr.heap.size wr w' → Below w.heap.size w w') := fun w' b => HB.out.trans ((hb.out.2.to b).1.mono HB.out.size)
                by_cases hlt : k < kids.length
                · have hq : (k : Int) < (kids.length : Int) := by omega
                  obtain ⟨x, hx⟩ := some_el kids hlt
                  have hnx : Hid (N.kids[k]?.getD 0 = x) := by show _ = _; rw [N1.out.2.2.1, hx]; rfl
                  obtain ⟨b, off, rfl, hc1⟩ := hb.out.2.2.2.kids.intAt (N1.out.2.2.1 ▸ hx)
                  replace hx := hide hx
                  by_cases c1 : x < 1
                  · have hr : Hid (ncheck N = 4) := ncheck_kid hK.out hc.out hV.out (k := k) (by rw [N1.out.2.2.1]; exact hlt) (by rw [hnx.out]; omega)
                    go_wp2
                    go_ret
                    exact ⟨ret_int hr.out.symm, hE.out _ (Below.refl _ _)⟩
                  by_cases c2 : 65536 < x
                  · have hr : Hid (ncheck N = 4) := ncheck_kid hK.out hc.out hV.out (k := k) (by rw [N1.out.2.2.1]; exact hlt) (by rw [hnx.out]; omega)
                    go_wp2
                    go_ret
                    exact ⟨ret_int hr.out.symm, hE.out _ (Below.refl _ _)⟩
                  · have hr : Hid (nkids N (k + 1)) := (nkids_succ N k).2 ⟨hb.out.1, by rw [hnx.out]; omega⟩
                    go_wp2
                    go_roundw
                    case rel => exact ⟨k + 1, by omega, by go_num, hide ⟨hr.out, hb.out.2⟩⟩
                    case measure => simp [intOf]; omega
                · have hq : ¬ (k : Int) < (kids.length : Int) := by omega
                  obtain rfl : k = kids.length := by omega
                  have hD : Hid (nkids N N.kids.length) := by show nkids _ _; rw [N1.out.2.2.1]; exact hb.out.1
                  have KK := hide (rsize_any wr _ _ _ N hb.out.2.2.2)
                  rw [nv, N1.out.2.2.2] at KK
                  have hz := nsize_le hf.out hK.out hc.out hV.out
                  rw [IntWalk.wrap64_in _ (by omega)] at KK
                  have hr := hide (ncheck_full hK.out hc.out hV.out hD.out)
                  generalize nsize N = Z at *
                  clear hb
                  go_wp2_with fail
                  refine KK.out.mono ?_
                  rintro e w2 ⟨rfl, b2⟩
                  replace b2 := hide b2
                  by_cases hz2 : 244 < Z
                  · go_wp2
                    go_ret
                    exact ⟨ret_int (by rw [hr.out, if_pos hz2]), hE.out _ b2.out⟩
                  · go_wp2
                    go_ret
                    exact ⟨ret_int (by rw [hr.out, if_neg (by omega)]), hE.out _ b2.out⟩
      · have hr : Hid (ncheck N = 3) := ncheck_count hK.out hc
        unfold ncount at hc
        rw [N1.out.1, N1.out.2.1, N1.out.2.2.1, N1.out.2.2.2] at hc
        clear hI
        cases leaf with
        | false =>
          rw [if_neg (by decide)] at hc
          by_cases c1 : 0 < vals.length
          · have g1 : decide (0 < vals.length) = true := decide_eq_true c1
            clear hc c1
            go_wp2
            go_ret
            exact ⟨ret_int hr.out.symm, hE.out _ (Below.refl _ _)⟩
          have g1 : decide (0 < vals.length) = false := decide_eq_false c1
          by_cases c2 : (keys.length : Int) < 1
          · have g2 : decide ((keys.length : Int) < 1) = true := decide_eq_true c2
            clear hc c1
            go_wp2
            go_ret
            exact ⟨ret_int hr.out.symm, hE.out _ (Below.refl _ _)⟩
          have g2 : decide ((keys.length : Int) < 1) = false := decide_eq_false c2
          have g3 : ((kids.length : Int) != wrap64 ((keys.length : Int) + 1)) = true := by rw [IntWalk.wrap64_in _ (by have := hf.out.1; rw [N1.out.1] at this; omega)]; simp; omega
          clear hc c1 c2
          go_wp2
          go_ret
          exact ⟨ret_int hr.out.symm, hE.out _ (Below.refl _ _)⟩
        | true =>
          rw [if_pos rfl] at hc
          by_cases c1 : vals.length = keys.length
          · have g1 : ((vals.length : Int) != (keys.length : Int)) = false := by simp; omega
            have g2 : decide (0 < kids.length) = true := decide_eq_true (by omega)
            clear hc c1
            go_wp2
            go_ret
            exact ⟨ret_int hr.out.symm, hE.out _ (Below.refl _ _)⟩
          · have g1 : ((vals.length : Int) != (keys.length : Int)) = true := by simp; omega
            clear hc c1
            go_wp2
            go_ret
            exact ⟨ret_int hr.out.symm, hE.out _ (Below.refl _ _)⟩

end Go.Proofs.Ytgmkknonnidgaaa
