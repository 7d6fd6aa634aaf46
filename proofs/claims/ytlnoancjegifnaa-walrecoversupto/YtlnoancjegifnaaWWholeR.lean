/-
  The page's Whole and index of logs.
-/
import Derived.Test.YtlnoancjegifnaaWBase
import Derived.Test.YtlnoancjegifnaaFRefS
namespace Go.Proofs.Ytlnoancjegifnaa
open Go.RowKit
set_option linter.unusedVariables false

set_option maxRecDepth 100000 in
theorem rindex_any (w : World) (n : Int) : Calls Try.prog 46 #[.int .i64 n] w fun e w' => e = .returned (.bool (decide (widx n))) ∧ w = w' := by
  by_cases h1 : 0 ≤ n
  · by_cases h2 : n ≤ 1099511627776
    · rw [decide_eq_true (show widx n from ⟨h1, h2⟩)]
      go_enter Try.func46, Try.ntmps46
      go_wp2
      go_ret
      exact ⟨rfl, rfl⟩
    · rw [decide_eq_false (show ¬ widx n from fun h => h2 h.2)]
      have h2' : (decide (n ≤ 1099511627776)) = false := decide_eq_false h2
      go_enter Try.func46, Try.ntmps46
      go_wp2
      go_ret
      exact ⟨rfl, rfl⟩
  · rw [decide_eq_false (show ¬ widx n from fun h => h1 h.1)]
    have h1' : (decide (0 ≤ n)) = false := decide_eq_false h1
    go_enter Try.func46, Try.ntmps46
    go_wp2
    go_ret
    exact ⟨rfl, rfl⟩

set_option maxRecDepth 100000 in
set_option maxHeartbeats 2000000 in
theorem rwhole_any (w : World) (v : Value) (b : List UInt8) (hrd : Rd w v b) (hm : b.length ≤ 16777216) :
    Calls Try.prog 44 #[v] w fun e w' => ∃ v', e = .returned (.tuple #[v', .int .i64 (wn b : Nat)]) ∧ OwnV w.heap.size w.heap.size w' v' (wrecs b) ∧ Below w.heap.size w w' := by
  obtain ⟨i0, hi, hz0, hz1, hz2⟩ := info_parts infoB
  obtain ⟨ao, cap, rfl⟩ := hrd.slice
  have KS := hide (rscan_any w _ b hrd hm)
  go_enter Try.func44, Try.ntmps44
  go_wp2_with fail
  refine KS.out.mono ?_
  rintro e w1 ⟨lv, fs, p, rfl, hsc, o1, b1⟩
  clear KS
  have hfl := hsc.le
  obtain ⟨hz, _⟩ := stt_snds _ hsc.1
  have hpl := (stt_len b _ hsc.1).2.1
  obtain ⟨la, lc, hlv⟩ := o1.rd.slice
  subst hlv
  have HS := hide hsc
  have O1 := hide o1
  have HZ : Hid (wsz (fs.map Prod.snd) ≤ 16777216) := by show _ ≤ _; omega
  have hfl2 : fs.length ≤ 2097152 := by omega
  clear hsc o1 hz
  go_wp2
  go_loopw [6, 7, 8] (fun o n i wr => ∃ K : Nat, K ≤ fs.length ∧ i = .int .i64 K ∧ n = .int .i64 ((wsz ((fs.take K).map Prod.snd) : Nat) : Int) ∧ Hid ((∀ j f, j < K → fs[j]? = some f → f.1 = 1) ∧ OwnV w1.heap.size w.heap.size wr o ((fs.take K).map Prod.snd) ∧ Below w1.heap.size w1 wr)) (fun _ _ i _ => fs.length - (intOf i).toNat)
  case atStart => exact ⟨0, Nat.zero_le _, rfl, rfl, hide ⟨fun j f hj => by omega, OwnV.nil _ _ _, Below.refl _ _⟩⟩
  case round =>
    obtain ⟨K, hK, rfl, rfl, hI⟩ := hrel
    have hw : wsz ((fs.take K).map Prod.snd) ≤ 16777216 := by
      have := wsz_take (fs.map Prod.snd) K
      rw [← List.map_take] at this
      exact Nat.le_trans this HZ.out
    obtain ⟨N, hN⟩ : ∃ N, N = wsz ((fs.take K).map Prod.snd) := ⟨_, rfl⟩
    rw [← hN] at hw ⊢
    replace hN := hide hN
    by_cases hlt : K < fs.length
    · have hq : (K : Int) < (fs.length : Int) := by omega
      obtain ⟨f, hf, hfm⟩ := some_at fs hlt
      obtain ⟨g, cap', sv, hv, c0, c1, os⟩ := (O1.out.below (Nat.le_refl _) hI.out.2.2).at hf
      simp only [Value.slice.injEq, true_and] at hv
      obtain ⟨rfl, rfl⟩ := hv
      by_cases hk1 : f.1 = 1
      · have hfl4 := (stt_snds _ HS.out.1).2 f hfm
        have htk : Hid ((fs.take (K + 1)).map Prod.snd = (fs.take K).map Prod.snd ++ [f.2]) := by
          show _ = _; rw [← snoc_take fs hf, List.map_append]; rfl
        have hN1 : Hid (wsz ((fs.take (K + 1)).map Prod.snd) = N + (f.2.length + 8)) := by
          show _ = _; rw [htk.out, wsz_app, hN.out]; rfl
        obtain ⟨vs, v1, v2, v3⟩ := hI.out.2.1
        have hlK : ((fs.take K).map Prod.snd).length = K := by simp; omega
        rw [hlK] at v2
        obtain ⟨sa, sc, hsv⟩ := os.rd.slice
        subst hsv
        have hkk : f.1.toNat = 1 := by rw [hk1]; rfl
        rw [hkk] at c0
        have kk0 : ((1 : Nat) : Int) = 1 := rfl
        rw [kk0] at c0
        obtain ⟨DL, hDL⟩ : ∃ DL, DL = f.2.length := ⟨_, rfl⟩
        rw [← hDL] at c1 hN1 hfl4
        have V2 := hide (World.ownsRow.alloc v2 (.cells #[.slice sa DL sc] 54))
        have h63 : K + 1 ≤ maxLen := by rw [show maxLen = 9223372036854775807 from rfl]; omega
        have hby : (K + 1) * 24 ≤ 140737488355328 := by omega
        have hbs : w1.heap.size ≤ (wr.alloc (.cells #[.slice sa DL sc] 54)).heap.size := by have := hI.out.2.2.size; simp; omega
        have FIN : Hid (∀ v' w', (wr.alloc (.cells #[.slice sa DL sc] 54)).grownBy w' u6.ownBlock → w'.ownsRow w1.heap.size 54 1 v' (K + 1) (vs ++ [.slice sa DL sc]) →
            w'.cell? ⟨g, K * 2 + 1, none⟩ = some (.slice sa DL sc) ∧ Hid ((∀ j f, j < K + 1 → fs[j]? = some f → f.1 = 1) ∧ OwnV w1.heap.size w.heap.size w' v' ((fs.take (K + 1)).map Prod.snd) ∧ Below w1.heap.size w1 w')) := fun v' w' hg hw' => by
          have al : Below wr.heap.size wr (wr.alloc (.cells #[.slice sa DL sc] 54)) := (Below.refl _ _).alloc (Nat.le_refl _) _
          have bw := (hI.out.2.2.trans (al.mono hI.out.2.2.size)).grown hg hbs (rows_from V2.out)
          obtain ⟨g', cap', sv', hv', _, cc1, _⟩ := (O1.out.below (Nat.le_refl _) bw).at hf
          obtain ⟨g'', cap'', sv'', hv'', _, cc2, _⟩ := O1.out.at hf
          have e2 := (hI.out.2.2.cell (cell_lt cc2)).trans cc2
          have e3 := (bw.cell (cell_lt cc2)).trans cc2
          simp only [Value.slice.injEq, Option.some.injEq, Addr.mk.injEq, and_true, true_and] at hv''
          obtain ⟨rfl, rfl⟩ := hv''
          rw [e2] at c1
          rw [c1] at e3
          refine ⟨e3, fun j f' hj hf' => ?_, ?_, (hI.out.2.2.trans (al.mono hI.out.2.2.size)).grown hg hbs (rows_from V2.out)⟩
          · by_cases e : j = K
            · subst e; rw [hf] at hf'; cases hf'; exact hk1
            · exact hI.out.1 j f' (by omega) hf'
          · rw [htk.out]
            refine OwnV.app (w := wr.alloc (.cells #[.slice sa DL sc] 54)) v1 (by rw [hlK]; exact V2.out) (fun i hi => (v3 i hi).below (Nat.le_refl _) al) (us := [.slice sa DL sc]) rfl (fun i hi => ?_) hg (by rw [hlK]; exact hw')
            have hi0 : i = 0 := by simpa using hi
            subst hi0
            have := os.below (Nat.le_refl _) al
            rw [← hDL] at this
            exact this
        replace hDL := hide hDL
        clear v1 v2 v3 os
        go_wp2_with (at_builtin; refine wpList_append_own _ rfl _ _ 23 rfl w1.heap.size 54 i0 _ 1 24 Try.underlying23 hi hz0 hz1 hz2 rfl (by decide) u6 K vs rfl V2.out ⟨wr.heap.size, 0, none⟩ 1 1 [.slice sa DL sc] rfl rfl (World.news_of_block (heap_alloc_last wr _)) (by simp [Value.oneCell']) h63 hby hbs ?_; intro v5 w5 hown5 hgrow5 _; obtain ⟨c5, F5⟩ := FIN.out v5 w5 hgrow5 hown5; clear hown5 hgrow5 c0 c1)
        go_roundw
        case rel => exact ⟨K + 1, by omega, by go_num, by rw [hN1.out]; go_num, F5⟩
        case measure => simp [intOf]; omega
      · have hkb : ((f.1.toNat : Int) == 1) = false := by
          simp only [beq_eq_false_iff_ne]
          intro h
          exact hk1 (UInt8.toNat_inj.1 (by show f.1.toNat = 1; omega))
        have hW := wones_eq hI.out.1 (fun f' hf' => by rw [hf] at hf'; cases hf'; exact hk1) HS.out
        have hWn : Hid (wn b = N) := by show wsz (wrecs b) = N; rw [hW, hN.out]
        have FIN : Hid (OwnV w.heap.size w.heap.size wr u6 (wrecs b) ∧ Below w.heap.size w wr) := ⟨by rw [hW]; exact hI.out.2.1.mono b1.size (Nat.le_refl _), b1.trans (hI.out.2.2.mono b1.size)⟩
        clear os hW
        go_wp2
        go_ret2
        exact ⟨_, by rw [hWn.out]; rfl, FIN.out⟩
    · have hq : ¬ (K : Int) < (fs.length : Int) := by omega
      obtain rfl : K = fs.length := by omega
      have hW := wones_eq hI.out.1 (fun f' hf' => by simp at hf') HS.out
      have hWn : Hid (wn b = N) := by show wsz (wrecs b) = N; rw [hW, hN.out]
      have FIN : Hid (OwnV w.heap.size w.heap.size wr u6 (wrecs b) ∧ Below w.heap.size w wr) := ⟨by rw [hW]; exact hI.out.2.1.mono b1.size (Nat.le_refl _), b1.trans (hI.out.2.2.mono b1.size)⟩
      clear hW
      go_wp2
      go_ret2
      exact ⟨_, by rw [hWn.out]; rfl, FIN.out⟩

end Go.Proofs.Ytlnoancjegifnaa
