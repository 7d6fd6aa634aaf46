/-
  Crash and Flush of disks, the page's.
-/
import Derived.Test.YtliileemelcllaaDRot
import Derived.Test.YtliileemelcllaaDCrashP
namespace Go.Proofs.Ytliileemelcllaa
open Go.RowKit
set_option linter.unusedVariables false

/-- one octet of one sector -/
theorem OwnF.pokeS {F : List Nat} {w : World} {sv : Value} {ss : List (List UInt8)} (h : OwnF SSec F w [sv] ss) {k : Nat} {x : List UInt8} (hx : ss[k]? = some x) {j : Nat} (hj : j < x.length) :
    ∃ g cap gu capu, sv = .slice (some ⟨g, 0, none⟩) ss.length cap ∧ ss.length ≤ cap ∧ w.cell? ⟨g, k, none⟩ = some (.slice (some ⟨gu, 0, none⟩) x.length capu) ∧ x.length ≤ capu ∧ w.cell? ⟨gu, j, none⟩ = some (.int .u8 (bt x j)) ∧ w.frozen? ⟨gu, j, none⟩ = false ∧ gu ∈ F ∧
      ∀ b : UInt8, OwnF SSec F (w.setCell ⟨gu, j, none⟩ (.int .u8 (b.toNat : Int))) [sv] (ss.set k (x.set j b)) := by
  obtain ⟨g, cap, u, hv, hcap, hc, ho, hgF, huF, fin⟩ := h.sector hx
  obtain ⟨gu, capu, rfl, _, hgl⟩ := World.ownsRow.form ho (by omega)
  have hcu : x.length ≤ capu := by
    rcases ho.2 with ⟨e, _⟩ | ⟨g', cap', cur, e, _, _, hn, _⟩
    · cases e
    · cases e; exact hn
  have hgu := (huF gu rfl).1
  refine ⟨g, cap, gu, capu, hv, hcap, hc, hcu, ?_, World.ownsRow.frozenAt ho j, hgu, fun b => ?_⟩
  · rw [World.ownsRow.cellAt ho j (by omega)]
    simp [enc, bt, hj]
  · refine fin _ _ ?_ fun q hq hne => ?_
    · have := (World.ownsRow.stored ho j (enc b)).1
      unfold OwnB
      rw [List.length_set, List.map_set]
      exact this
    · exact Below.heap_setCell _ _ _ _ (fun e => hne (by rw [e]; rfl))
/-- one write where it lies -/
theorem OwnF.wrtAt {T : Nat} {F : List Nat} {w : World} {cv : Value} {ws : List Wrt} (h : OwnF (Shp.list T SWr) F w [cv] ws) {k : Nat} {y : Wrt} (hy : ws[k]? = some y) :
    ∃ g cap u, cv = .slice (some ⟨g, 0, none⟩) ws.length cap ∧ ws.length ≤ cap ∧ w.cell? ⟨g, k * 2, none⟩ = some (.int .i64 y.1) ∧ w.cell? ⟨g, k * 2 + 1, none⟩ = some u ∧ OwnB 0 w u y.2 ∧ g ∈ F ∧ ∀ b, u.ownBlock = some b → b ∈ F := by
  obtain ⟨g, cap, F2, c, hv, hcap, _, hgF, ⟨c1, c2, G, H, rfl, rfl, ⟨rfl, rfl⟩, u, rfl, ho, rfl⟩, hF2, hc, _⟩ := OwnF.at h hy
  refine ⟨g, cap, u, hv, hcap, ?_, ?_, ho, hgF, fun b hb => (hF2 b (by simp [hb])).1⟩
  · have := hc 0 _ rfl
    rw [show (SWr).n = 2 from rfl] at this
    simpa using this
  · have := hc 1 _ rfl
    rw [show (SWr).n = 2 from rfl] at this
    simpa using this
theorem over_take {s x : List UInt8} (h : s.length = x.length) {j : Nat} (hj : j ≤ x.length) : over s (x.take j) = x.take j ++ s.drop j := by
  unfold over
  have : (x.take j).length = j := by rw [List.length_take]; omega
  rw [List.take_of_length_le (by omega), this]
theorem over_step {s x : List UInt8} (h : s.length = x.length) {j : Nat} {b : UInt8} (hb : x[j]? = some b) : (over s (x.take j)).set j b = over s (x.take (j + 1)) := by
  have hj : j < x.length := (List.getElem?_eq_some_iff.1 hb).1
  rw [over_take h (by omega), over_take h (by omega)]
  have e1 : (x.take j).length = j := by rw [List.length_take]; omega
  rw [List.set_append_right _ _ (by omega), e1, Nat.sub_self, List.take_add_one, hb]
  have : s.drop j = s.getD j 0 :: s.drop (j + 1) := by
    rw [List.drop_eq_getElem_cons (by omega)]
    simp [List.getD_eq_getElem?_getD, List.getElem?_eq_getElem (show j < s.length by omega)]
  rw [this, List.set_cons_zero]
  simp
theorem lands_zero {f : Nat → Nat} {d : Dsk} (hok : DOk d) {k : Nat} (hf : f k = 0) : lands f d.1 d.2 (k + 1) = lands f d.1 d.2 k := by
  conv => lhs; unfold lands
  cases h : d.2[k]? with
  | none => rfl
  | some y =>
    show (lands f d.1 d.2 k).set y.1.toNat (over ((lands f d.1 d.2 k).getD y.1.toNat []) (y.2.take (f k))) = _
    have := (hok.2.2.2.2 y (List.mem_of_getElem? h)).1
    rw [hf, List.take_zero, over_nil, set_self (by rw [lands_len]; omega)]
theorem lands_stop {f : Nat → Nat} {d : Dsk} (hok : DOk d) {k : Nat} (hf : ∀ i, k ≤ i → f i = 0) : ∀ m, lands f d.1 d.2 (k + m) = lands f d.1 d.2 k
  | 0 => rfl
  | m + 1 => by rw [← Nat.add_assoc, lands_zero hok (hf (k + m) (by omega)), lands_stop hok hf m]
theorem set_set' {α : Type} (xs : List α) (i : Nat) (a b : α) : (xs.set i a).set i b = xs.set i b := by simp
theorem OwnB.set {B : Nat} {w : World} {v : Value} {xs : List UInt8} (h : OwnB B w v xs) {a : Addr} (ha : v.ownBlock ≠ some a.block) (u : Value) : OwnB B (w.setCell a u) v xs := by
  refine ⟨h.1, ?_⟩
  rcases h.2 with hn | ⟨g', cap, cur, hv, hb, hgg, r⟩
  · exact .inl hn
  · refine .inr ⟨g', cap, cur, hv, hb, (Below.heap_setCell _ _ _ _ (fun e => ha (by rw [hv]; simp [Value.ownBlock, e]))).trans hgg, r⟩

set_option maxRecDepth 100000 in
set_option maxHeartbeats 4000000 in
theorem rcrash_any (w : World) (sv cv kv : Value) (d : Dsk) (keep : List Bool) (torn cut : Int) (h1 : RdSec w sv d.1) (h2 : RdC w cv d.2) (hk : RdK w kv keep) :
    Calls Try.prog 28 #[.agg #[sv, cv], kv, .int .i64 torn, .int .i64 cut] w fun e w' => ∃ sv' cv', e = .returned (.tuple #[.agg #[sv', cv'], .int .i64 (dcrash d keep torn cut).2]) ∧ Own SStR w.heap.size w' [sv', cv'] (dcrash d keep torn cut).1 ∧ Below w.heap.size w w' := by
  obtain ⟨a1, c1, rfl⟩ := h1.slice
  obtain ⟨a2, c2, rfl⟩ := h2.slice
  obtain ⟨a3, c3, rfl⟩ := hk.slice
  have lk := hk.bd
  obtain ⟨W, hW, hA, hZ, bW, sW⟩ := boxes w (.slice a1 d.1.length c1) (.slice a2 d.2.length c2) 40
  replace h1 := h1.to0 bW
  replace h2 := h2.to0 bW
  obtain ⟨A0, A1, _, _⟩ := row2_cells hA
  go_enter Try.func28, Try.ntmps28
  go_wp2_with fail
  rw [← hW]
  replace hW := hide hW
  refine (rcheck_any _ _ _ d h1 h2).mono ?_
  rintro e w1 ⟨rfl, b1⟩
  have c1w := bW.trans (b1.mono bW.size)
  have Z1 := (b1.block (w.heap.size + 1) (by omega)).trans hZ
  by_cases hok : DOk d
  · rw [dcheck_ok hok]
    have hR : Hid (dcrash d keep torn cut = ((lands (crashF keep torn cut) d.1 d.2 d.2.length, []), 0)) := if_pos hok
    have A0' := (b1.cell (cell_lt A0)).trans A0
    have A1' := (b1.cell (cell_lt A1)).trans A1
    have g1 := h1.to0 b1
    have g2 := h2.to0 b1
    have HFT := hide (DOk.fit hok)
    have HOK := hide hok
    have hlen1 := hok.2.1
    have hlen2 := hok.2.2.1
    clear hok
    go_wp2_with fail
    refine (rown_any _ _ _ d g1 g2 HFT.out).mono ?_
    rintro e w3 ⟨sv', cv', rfl, o3, b3⟩
    have c3w := c1w.trans (b3.mono c1w.size)
    have b13 := b1.trans (b3.mono b1.size)
    obtain ⟨F, hF, hFB⟩ := o3.foot
    obtain ⟨al, cl, ac, cc', rfl, rfl⟩ := own_form hF
    obtain ⟨X, hX, X0, X1, bX, sX⟩ := boxed2 w3 (.slice al d.1.length cl) (.slice ac d.2.length cc') 40
    have hT : X.heap[w3.heap.size]? = some (.cells #[.slice al d.1.length cl, .slice ac d.2.length cc'] 40 (0, 0)) := by rw [hX]; exact heap_alloc_last w3 _
    obtain ⟨gb, hgb⟩ : ∃ gb, gb = w3.heap.size := ⟨_, rfl⟩
    rw [← hgb] at hT
    have hgF : gb ∉ F := fun hm => by have := hF.lt gb hm; omega
    have Z3 := ((b13.trans (bX.mono b13.size)).block (w.heap.size + 1) (by omega)).trans hZ
    have hs3 : w.heap.size + 1 + 1 ≤ gb := by have := b13.size; omega
    have hs2 : w.heap.size + 1 + 1 ≤ w1.heap.size := by have := b1.size; omega
    have cX := c3w.trans (bX.mono c3w.size)
    obtain ⟨F1, F2, rfl, p1, p2, hdj⟩ := OwnF.split (c := [.slice al d.1.length cl]) (d := [.slice ac d.2.length cc']) (hF.to bX) rfl
    have HP := hide (And.intro hT (And.intro p1 p2))
    have HFB := hide hFB
    have HDJ := hide hdj
    have HGF := hide hgF
    have ZX := hide Z3
    have CX := hide cX
    replace hgb := hide hgb
    clear p1 p2 hF hFB hdj hgF hT Z3 cX X0 X1 bX o3 b3 c3w b13 c1w b1 A0' A1' g1 g2 h1 h2 hA hZ bW A0 A1 Z1
    go_wp2
    rw [← hX, ← hgb.out]
    replace hX := hide hX
    go_loopw [11] (fun i wr => ∃ k : Nat, k ≤ d.2.length ∧ i = .int .i64 k ∧ wr.heap[gb]? = some (.cells #[.slice al d.1.length cl, .slice ac d.2.length cc'] 40 (0, 0)) ∧ OwnF SSec F1 wr [.slice al d.1.length cl] (lands (crashF keep torn cut) d.1 d.2 k) ∧ OwnF SCacheR F2 wr [.slice ac d.2.length cc'] d.2 ∧ Below (w.heap.size + 1 + 1) X wr) (fun i _ => d.2.length - (intOf i).toNat)
    case atStart => exact ⟨0, Nat.zero_le _, rfl, HP.out.1, HP.out.2.1, HP.out.2.2, Below.refl _ _⟩
    case round =>
      obtain ⟨k, hkk, rfl, hT, p1, p2, hb⟩ := hrel
      clear HP
      obtain ⟨T0, T1, T2, T3⟩ := row2_cells hT
      have hgl : gb < wr.heap.size := lt_of_block hT
      by_cases hend : k < d.2.length ∧ k < keep.length
      · obtain ⟨hlt, hlk⟩ := hend
        have hqk : (k : Int) < (d.2.length : Int) := by omega
        have hqk2 : (k : Int) < (keep.length : Int) := by omega
        have cw := CX.out.trans (hb.mono (show w.heap.size ≤ w.heap.size + 1 + 1 by omega))
        obtain ⟨kb, hkb, _⟩ := some_at keep hlk
        obtain ⟨bk, ok, rfl, hck⟩ := (hk.to0 cw).bl hkb
        cases kb with
        | false =>
          have hz : crashF keep torn cut k = 0 := by unfold crashF; rw [hkb]; rfl
          have hls := lands_zero (f := crashF keep torn cut) HOK.out hz
          rw [← hls] at p1
          have H1 := hide (And.intro hT (And.intro p1 (And.intro p2 hb)))
          clear p1 p2 hb hT hls hz hkb cw
          go_wp2
          go_roundw
          case rel => exact ⟨k + 1, by omega, by go_num, H1.out⟩
          case measure => simp [intOf]; omega
        | true =>
          obtain ⟨y, hy, hym⟩ := some_at d.2 hlt
          have hyk := HOK.out.2.2.2.2 y hym
          have hls := lands_succ (f := crashF keep torn cut) (ss := d.1) hy
          obtain ⟨gc, capc, u, evc, hcapc, hc1, hc2, hou, hgcF, huF⟩ := p2.wrtAt hy
          obtain ⟨z, x⟩ := y
          dsimp only at hyk hls hc1 hc2 hou
          simp only [Value.slice.injEq, true_and] at evc
          obtain ⟨rfl, rfl⟩ := evc
          obtain ⟨kz, rfl⟩ : ∃ kz : Nat, z = (kz : Int) := ⟨z.toNat, by omega⟩
          rw [show ((kz : Int)).toNat = kz from by omega] at hls
          obtain ⟨s, hs, hsm⟩ := some_at (lands (crashF keep torn cut) d.1 d.2 k) (k := kz) (by rw [lands_len]; omega)
          rw [getD_some hs] at hls
          have hs64 := lands_64 (f := crashF keep torn cut) (ws := d.2) HOK.out.2.2.2.1 k s hsm
          have hx64 := hyk.2
          obtain ⟨gu, capu, rfl, _, _⟩ := World.ownsRow.form hou (by omega)
          rw [hx64] at hc2
          have hq6 : (kz : Int) < (d.1.length : Int) := by omega
          have hkz : kz < (lands (crashF keep torn cut) d.1 d.2 k).length := by rw [lands_len]; omega
          obtain ⟨V, hV, V0, V1, bV, sV⟩ := boxed2 wr (.int .i64 (kz : Int)) (.slice (some ⟨gu, 0, none⟩) 64 capu) 78
          have hTV := (bV.block gb hgl).trans hT
          have hbV := hb.trans (bV.mono (by have := hs3; omega))
          have pV : OwnF SSec F1 V [.slice al d.1.length cl] ((lands (crashF keep torn cut) d.1 d.2 k).set kz (over s (x.take 0))) := by
            rw [List.take_zero, over_nil]
            have e : (lands (crashF keep torn cut) d.1 d.2 k).set kz s = lands (crashF keep torn cut) d.1 d.2 k := by
              rw [← getD_some (d := []) hs, set_self hkz]
            rw [e]; exact p1.to bV
          have ouV : OwnB 0 V (.slice (some ⟨gu, 0, none⟩) x.length capu) x := hou.below (Nat.le_refl _) bV
          have hgu := huF gu rfl
          have vl : V.heap[wr.heap.size]? = some (.cells #[.int .i64 (kz : Int), .slice (some ⟨gu, 0, none⟩) 64 capu] 78 (0, 0)) := by rw [hV]; exact heap_alloc_last wr _
          have hnl1 : wr.heap.size ∉ F1 := fun hm => by have := p1.lt _ hm; omega
          have HV := hide (And.intro hTV (And.intro pV (And.intro (p2.to bV) (And.intro hbV (And.intro ouV vl)))))
          have HLS := hide hls
          have HGU := hide hgu
          have HNL := hide hnl1
          have HX := hide (And.intro hs64 hx64)
          have KB := hide hkb
          clear pV ouV vl hTV hbV p1 p2 hb hT hls hgu hnl1 bV hou huF hs hsm hyk hy hym cw hs64 hx64 hgcF hkb V0 V1 T2 T3
          by_cases ht : (k : Int) = torn
          · have hbe : ((k : Int) == torn) = true := by simp [ht]
            by_cases hcl : cut ≤ 0
            · have hfk : crashF keep torn cut k = 0 := by unfold crashF clamp; rw [KB.out, if_pos rfl, if_pos ht]; omega
              have hcl2 : ¬ (64 : Int) < cut := by omega
              have HFK := hide hfk
              clear hfk ht
              go_wp2
              rw [← hV]
              generalize wr = U at *
              go_loopw [14] (fun i W => ∃ j : Nat, j ≤ 0 ∧ i = .int .i64 j ∧ W.heap[gb]? = some (.cells #[.slice al d.1.length cl, .slice (some ⟨gc, 0, none⟩) d.2.length cc'] 40 (0, 0)) ∧ OwnF SSec F1 W [.slice al d.1.length cl] ((lands (crashF keep torn cut) d.1 d.2 k).set kz (over s (x.take j))) ∧ OwnF SCacheR F2 W [.slice (some ⟨gc, 0, none⟩) d.2.length cc'] d.2 ∧ Below (w.heap.size + 1 + 1) X W ∧ OwnB 0 W (.slice (some ⟨gu, 0, none⟩) x.length capu) x ∧ W.heap[U.heap.size]? = some (.cells #[.int .i64 (kz : Int), .slice (some ⟨gu, 0, none⟩) 64 capu] 78 (0, 0))) (fun i _ => 0 - (intOf i).toNat)
              case atStart => exact ⟨0, Nat.zero_le _, rfl, HV.out.1, HV.out.2.1, HV.out.2.2.1, HV.out.2.2.2.1, HV.out.2.2.2.2.1, HV.out.2.2.2.2.2⟩
              case round =>
                obtain ⟨j, hj, rfl, iT, i1, i2, ib, iu, il⟩ := hrel
                clear HV
                by_cases hjn : j < 0
                · omega
                · obtain rfl : j = 0 := by omega
                  rw [HFK.out] at HLS
                  rw [← HLS.out] at i1
                  have H1 := hide (And.intro iT (And.intro i1 (And.intro i2 ib)))
                  clear iT i1 i2 ib iu il
                  go_wp2
                  go_roundw
                  case rel => exact ⟨k + 1, by omega, by go_num, H1.out⟩
                  case measure => simp [intOf]; omega
            by_cases hcg : 64 < cut
            · have hfk : crashF keep torn cut k = 64 := by unfold crashF clamp; rw [KB.out, if_pos rfl, if_pos ht]; omega
              have HFK := hide hfk
              clear hfk ht
              go_wp2
              rw [← hV]
              generalize wr = U at *
              go_loopw [14] (fun i W => ∃ j : Nat, j ≤ 64 ∧ i = .int .i64 j ∧ W.heap[gb]? = some (.cells #[.slice al d.1.length cl, .slice (some ⟨gc, 0, none⟩) d.2.length cc'] 40 (0, 0)) ∧ OwnF SSec F1 W [.slice al d.1.length cl] ((lands (crashF keep torn cut) d.1 d.2 k).set kz (over s (x.take j))) ∧ OwnF SCacheR F2 W [.slice (some ⟨gc, 0, none⟩) d.2.length cc'] d.2 ∧ Below (w.heap.size + 1 + 1) X W ∧ OwnB 0 W (.slice (some ⟨gu, 0, none⟩) x.length capu) x ∧ W.heap[U.heap.size]? = some (.cells #[.int .i64 (kz : Int), .slice (some ⟨gu, 0, none⟩) 64 capu] 78 (0, 0))) (fun i _ => 64 - (intOf i).toNat)
              case atStart => exact ⟨0, Nat.zero_le _, rfl, HV.out.1, HV.out.2.1, HV.out.2.2.1, HV.out.2.2.2.1, HV.out.2.2.2.2.1, HV.out.2.2.2.2.2⟩
              case round =>
                obtain ⟨j, hj, rfl, iT, i1, i2, ib, iu, il⟩ := hrel
                clear HV
                by_cases hjn : j < 64
                · have hqj : (j : Int) < 64 := by omega
                  have hqj2 : (j : Int) < 64 := by omega
                  obtain ⟨t0, _, _, _⟩ := row2_cells iT
                  obtain ⟨l0, l1, _, _⟩ := row2_cells il
                  obtain ⟨bx, hbx⟩ : ∃ bx, x[j]? = some bx := ⟨_, List.getElem?_eq_getElem (by have := HX.out.2; omega)⟩
                  have hos := over_step (s := s) (by rw [HX.out.1, HX.out.2]) hbx
                  have hso : (over s (x.take j)).length = 64 := by rw [over_length]; exact HX.out.1
                  obtain ⟨g, cap, gs, caps, ev, hcap, hcg, hcaps, hcs, hfs, hgsF, fin⟩ := i1.pokeS (k := kz) (x := over s (x.take j)) (by rw [List.getElem?_set_self hkz]) (j := j) (by omega)
                  rw [List.length_set, lands_len] at ev hcap
                  simp only [Value.slice.injEq, true_and] at ev
                  obtain ⟨rfl, rfl⟩ := ev
                  rw [hso] at hcg hcaps
                  have fin' := fin bx
                  rw [set_set', hos] at fin'
                  have hgs2 : gs ∉ F2 := HDJ.out gs hgsF
                  have hcx : wr.cell? ⟨gu, j, none⟩ = some (.int .u8 (bx.toNat : Int)) := by
                    rw [World.ownsRow.cellAt iu j (by have := HX.out.2; omega)]
                    simp [enc, hbx]
                  have hgsB := HFB.out gs (by simp [hgsF])
                  have FI : Hid ((wr.setCell ⟨gs, j, none⟩ (.int .u8 (bx.toNat : Int))).heap[gb]? = some (.cells #[.slice (some ⟨g, 0, none⟩) d.1.length cl, .slice (some ⟨gc, 0, none⟩) d.2.length cc'] 40 (0, 0)) ∧ OwnF SSec F1 (wr.setCell ⟨gs, j, none⟩ (.int .u8 (bx.toNat : Int))) [.slice (some ⟨g, 0, none⟩) d.1.length cl] ((lands (crashF keep torn cut) d.1 d.2 k).set kz (over s (x.take (j + 1)))) ∧ OwnF SCacheR F2 (wr.setCell ⟨gs, j, none⟩ (.int .u8 (bx.toNat : Int))) [.slice (some ⟨gc, 0, none⟩) d.2.length cc'] d.2 ∧ Below (w.heap.size + 1 + 1) X (wr.setCell ⟨gs, j, none⟩ (.int .u8 (bx.toNat : Int))) ∧ OwnB 0 (wr.setCell ⟨gs, j, none⟩ (.int .u8 (bx.toNat : Int))) (.slice (some ⟨gu, 0, none⟩) x.length capu) x ∧ (wr.setCell ⟨gs, j, none⟩ (.int .u8 (bx.toNat : Int))).heap[U.heap.size]? = some (.cells #[.int .i64 (kz : Int), .slice (some ⟨gu, 0, none⟩) 64 capu] 78 (0, 0))) := by
                    refine ⟨(Below.heap_setCell _ _ _ _ (fun e => ?_)).trans iT, fin', i2.set hgs2 _, ib.setCell (p := ⟨gs, j, none⟩) (by show w.heap.size + 1 + 1 ≤ gs; omega) _, OwnB.set iu (fun e => ?_) _, (Below.heap_setCell _ _ _ _ (fun e => ?_)).trans il⟩
                    · have e' : gb = gs := e
                      exact HGF.out (by rw [e']; simp [hgsF])
                    · simp only [Value.ownBlock, Option.some.injEq] at e
                      exact hgs2 (by rw [← e]; exact HGU.out)
                    · have e' : U.heap.size = gs := e
                      exact HNL.out (by rw [e']; exact hgsF)
                  clear iT i1 i2 ib iu il fin fin' hos hso hgs2 hgsB hgsF hbx
                  generalize bx.toNat = bn at *
                  generalize bt (over s (x.take j)) j = ob at *
                  go_wp2
                  refine wp_region_mid (fun w' => w'.cell? ⟨gb, 0, none⟩ = some (.slice (some ⟨g, 0, none⟩) d.1.length cl) ∧ w'.cell? ⟨U.heap.size, 0, none⟩ = some (.int .i64 (kz : Int)) ∧ w'.cell? ⟨U.heap.size, 1, none⟩ = some (.slice (some ⟨gu, 0, none⟩) 64 capu) ∧ w'.cell? ⟨g, kz, none⟩ = some (.slice (some ⟨gs, 0, none⟩) 64 caps) ∧ w'.cell? ⟨gu, j, none⟩ = some (.int .u8 (bn : Int))) 13 13 mixed (by kernel_rfl) (fun _ _ _ _ h => h) ⟨t0, l0, l1, hcg, hcx⟩ ?_
                  dsimp only [List.take, List.drop]
                  iterate 13
                    refine take_one (v := ?_) (by rfl) ?_ ?_
                    rotate_left
                    · rintro w' ⟨s1, s2, s3, s4, s5⟩
                      go_simp
                      try with_reducible rfl
                    try simp only [Act.put, List.setIfInBounds_toArray, List.set_cons_zero, List.set_cons_succ]
                  show wpList _ _ _ _ _ _
                  go_wp2
                  go_roundw
                  case rel => exact ⟨j + 1, by omega, by go_num, FI.out.1, FI.out.2.1.keep fun _ _ => rfl, FI.out.2.2.1.keep fun _ _ => rfl, FI.out.2.2.2.1.drew, FI.out.2.2.2.2.1, FI.out.2.2.2.2.2⟩
                  case measure => simp [intOf]; omega
                · obtain rfl : j = 64 := by omega
                  rw [HFK.out] at HLS
                  rw [← HLS.out] at i1
                  have H1 := hide (And.intro iT (And.intro i1 (And.intro i2 ib)))
                  clear iT i1 i2 ib iu il
                  go_wp2
                  go_roundw
                  case rel => exact ⟨k + 1, by omega, by go_num, H1.out⟩
                  case measure => simp [intOf]; omega
            obtain ⟨cn, rfl⟩ : ∃ cn : Nat, cut = (cn : Int) := ⟨cut.toNat, by omega⟩
            have hfk : crashF keep torn cn k = cn := by unfold crashF clamp; rw [KB.out, if_pos rfl, if_pos ht]; omega
            have HFK := hide hfk
            have hcn : cn ≤ 64 := by omega
            have hcn0 : 0 < cn := by omega
            clear hfk ht
            go_wp2
            rw [← hV]
            generalize wr = U at *
            go_loopw [14] (fun i W => ∃ j : Nat, j ≤ cn ∧ i = .int .i64 j ∧ W.heap[gb]? = some (.cells #[.slice al d.1.length cl, .slice (some ⟨gc, 0, none⟩) d.2.length cc'] 40 (0, 0)) ∧ OwnF SSec F1 W [.slice al d.1.length cl] ((lands (crashF keep torn cn) d.1 d.2 k).set kz (over s (x.take j))) ∧ OwnF SCacheR F2 W [.slice (some ⟨gc, 0, none⟩) d.2.length cc'] d.2 ∧ Below (w.heap.size + 1 + 1) X W ∧ OwnB 0 W (.slice (some ⟨gu, 0, none⟩) x.length capu) x ∧ W.heap[U.heap.size]? = some (.cells #[.int .i64 (kz : Int), .slice (some ⟨gu, 0, none⟩) 64 capu] 78 (0, 0))) (fun i _ => cn - (intOf i).toNat)
            case atStart => exact ⟨0, Nat.zero_le _, rfl, HV.out.1, HV.out.2.1, HV.out.2.2.1, HV.out.2.2.2.1, HV.out.2.2.2.2.1, HV.out.2.2.2.2.2⟩
            case round =>
              obtain ⟨j, hj, rfl, iT, i1, i2, ib, iu, il⟩ := hrel
              clear HV
              by_cases hjn : j < cn
              · have hqj : (j : Int) < (cn : Int) := by omega
                have hqj2 : (j : Int) < 64 := by omega
                obtain ⟨t0, _, _, _⟩ := row2_cells iT
                obtain ⟨l0, l1, _, _⟩ := row2_cells il
                obtain ⟨bx, hbx⟩ : ∃ bx, x[j]? = some bx := ⟨_, List.getElem?_eq_getElem (by have := HX.out.2; omega)⟩
                have hos := over_step (s := s) (by rw [HX.out.1, HX.out.2]) hbx
                have hso : (over s (x.take j)).length = 64 := by rw [over_length]; exact HX.out.1
                obtain ⟨g, cap, gs, caps, ev, hcap, hcg, hcaps, hcs, hfs, hgsF, fin⟩ := i1.pokeS (k := kz) (x := over s (x.take j)) (by rw [List.getElem?_set_self hkz]) (j := j) (by omega)
                rw [List.length_set, lands_len] at ev hcap
                simp only [Value.slice.injEq, true_and] at ev
                obtain ⟨rfl, rfl⟩ := ev
                rw [hso] at hcg hcaps
                have fin' := fin bx
                rw [set_set', hos] at fin'
                have hgs2 : gs ∉ F2 := HDJ.out gs hgsF
                have hcx : wr.cell? ⟨gu, j, none⟩ = some (.int .u8 (bx.toNat : Int)) := by
                  rw [World.ownsRow.cellAt iu j (by have := HX.out.2; omega)]
                  simp [enc, hbx]
                have hgsB := HFB.out gs (by simp [hgsF])
                have FI : Hid ((wr.setCell ⟨gs, j, none⟩ (.int .u8 (bx.toNat : Int))).heap[gb]? = some (.cells #[.slice (some ⟨g, 0, none⟩) d.1.length cl, .slice (some ⟨gc, 0, none⟩) d.2.length cc'] 40 (0, 0)) ∧ OwnF SSec F1 (wr.setCell ⟨gs, j, none⟩ (.int .u8 (bx.toNat : Int))) [.slice (some ⟨g, 0, none⟩) d.1.length cl] ((lands (crashF keep torn cn) d.1 d.2 k).set kz (over s (x.take (j + 1)))) ∧ OwnF SCacheR F2 (wr.setCell ⟨gs, j, none⟩ (.int .u8 (bx.toNat : Int))) [.slice (some ⟨gc, 0, none⟩) d.2.length cc'] d.2 ∧ Below (w.heap.size + 1 + 1) X (wr.setCell ⟨gs, j, none⟩ (.int .u8 (bx.toNat : Int))) ∧ OwnB 0 (wr.setCell ⟨gs, j, none⟩ (.int .u8 (bx.toNat : Int))) (.slice (some ⟨gu, 0, none⟩) x.length capu) x ∧ (wr.setCell ⟨gs, j, none⟩ (.int .u8 (bx.toNat : Int))).heap[U.heap.size]? = some (.cells #[.int .i64 (kz : Int), .slice (some ⟨gu, 0, none⟩) 64 capu] 78 (0, 0))) := by
                  refine ⟨(Below.heap_setCell _ _ _ _ (fun e => ?_)).trans iT, fin', i2.set hgs2 _, ib.setCell (p := ⟨gs, j, none⟩) (by show w.heap.size + 1 + 1 ≤ gs; omega) _, OwnB.set iu (fun e => ?_) _, (Below.heap_setCell _ _ _ _ (fun e => ?_)).trans il⟩
                  · have e' : gb = gs := e
                    exact HGF.out (by rw [e']; simp [hgsF])
                  · simp only [Value.ownBlock, Option.some.injEq] at e
                    exact hgs2 (by rw [← e]; exact HGU.out)
                  · have e' : U.heap.size = gs := e
                    exact HNL.out (by rw [e']; exact hgsF)
                clear iT i1 i2 ib iu il fin fin' hos hso hgs2 hgsB hgsF hbx
                generalize bx.toNat = bn at *
                generalize bt (over s (x.take j)) j = ob at *
                go_wp2
                refine wp_region_mid (fun w' => w'.cell? ⟨gb, 0, none⟩ = some (.slice (some ⟨g, 0, none⟩) d.1.length cl) ∧ w'.cell? ⟨U.heap.size, 0, none⟩ = some (.int .i64 (kz : Int)) ∧ w'.cell? ⟨U.heap.size, 1, none⟩ = some (.slice (some ⟨gu, 0, none⟩) 64 capu) ∧ w'.cell? ⟨g, kz, none⟩ = some (.slice (some ⟨gs, 0, none⟩) 64 caps) ∧ w'.cell? ⟨gu, j, none⟩ = some (.int .u8 (bn : Int))) 13 13 mixed (by kernel_rfl) (fun _ _ _ _ h => h) ⟨t0, l0, l1, hcg, hcx⟩ ?_
                dsimp only [List.take, List.drop]
                iterate 13
                  refine take_one (v := ?_) (by rfl) ?_ ?_
                  rotate_left
                  · rintro w' ⟨s1, s2, s3, s4, s5⟩
                    go_simp
                    try with_reducible rfl
                  try simp only [Act.put, List.setIfInBounds_toArray, List.set_cons_zero, List.set_cons_succ]
                show wpList _ _ _ _ _ _
                go_wp2
                go_roundw
                case rel => exact ⟨j + 1, by omega, by go_num, FI.out.1, FI.out.2.1.keep fun _ _ => rfl, FI.out.2.2.1.keep fun _ _ => rfl, FI.out.2.2.2.1.drew, FI.out.2.2.2.2.1, FI.out.2.2.2.2.2⟩
                case measure => simp [intOf]; omega
              · obtain rfl : j = cn := by omega
                rw [HFK.out] at HLS
                rw [← HLS.out] at i1
                have H1 := hide (And.intro iT (And.intro i1 (And.intro i2 ib)))
                clear iT i1 i2 ib iu il
                go_wp2
                go_roundw
                case rel => exact ⟨k + 1, by omega, by go_num, H1.out⟩
                case measure => simp [intOf]; omega
          · have hbe : ((k : Int) == torn) = false := by simpa using ht
            have hfk : crashF keep torn cut k = 64 := by unfold crashF; rw [KB.out, if_pos rfl, if_neg ht]
            have HFK := hide hfk
            clear hfk ht
            go_wp2
            rw [← hV]
            generalize wr = U at *
            go_loopw [14] (fun i W => ∃ j : Nat, j ≤ 64 ∧ i = .int .i64 j ∧ W.heap[gb]? = some (.cells #[.slice al d.1.length cl, .slice (some ⟨gc, 0, none⟩) d.2.length cc'] 40 (0, 0)) ∧ OwnF SSec F1 W [.slice al d.1.length cl] ((lands (crashF keep torn cut) d.1 d.2 k).set kz (over s (x.take j))) ∧ OwnF SCacheR F2 W [.slice (some ⟨gc, 0, none⟩) d.2.length cc'] d.2 ∧ Below (w.heap.size + 1 + 1) X W ∧ OwnB 0 W (.slice (some ⟨gu, 0, none⟩) x.length capu) x ∧ W.heap[U.heap.size]? = some (.cells #[.int .i64 (kz : Int), .slice (some ⟨gu, 0, none⟩) 64 capu] 78 (0, 0))) (fun i _ => 64 - (intOf i).toNat)
            case atStart => exact ⟨0, Nat.zero_le _, rfl, HV.out.1, HV.out.2.1, HV.out.2.2.1, HV.out.2.2.2.1, HV.out.2.2.2.2.1, HV.out.2.2.2.2.2⟩
            case round =>
              obtain ⟨j, hj, rfl, iT, i1, i2, ib, iu, il⟩ := hrel
              clear HV
              by_cases hjn : j < 64
              · have hqj : (j : Int) < 64 := by omega
                have hqj2 : (j : Int) < 64 := by omega
                obtain ⟨t0, _, _, _⟩ := row2_cells iT
                obtain ⟨l0, l1, _, _⟩ := row2_cells il
                obtain ⟨bx, hbx⟩ : ∃ bx, x[j]? = some bx := ⟨_, List.getElem?_eq_getElem (by have := HX.out.2; omega)⟩
                have hos := over_step (s := s) (by rw [HX.out.1, HX.out.2]) hbx
                have hso : (over s (x.take j)).length = 64 := by rw [over_length]; exact HX.out.1
                obtain ⟨g, cap, gs, caps, ev, hcap, hcg, hcaps, hcs, hfs, hgsF, fin⟩ := i1.pokeS (k := kz) (x := over s (x.take j)) (by rw [List.getElem?_set_self hkz]) (j := j) (by omega)
                rw [List.length_set, lands_len] at ev hcap
                simp only [Value.slice.injEq, true_and] at ev
                obtain ⟨rfl, rfl⟩ := ev
                rw [hso] at hcg hcaps
                have fin' := fin bx
                rw [set_set', hos] at fin'
                have hgs2 : gs ∉ F2 := HDJ.out gs hgsF
                have hcx : wr.cell? ⟨gu, j, none⟩ = some (.int .u8 (bx.toNat : Int)) := by
                  rw [World.ownsRow.cellAt iu j (by have := HX.out.2; omega)]
                  simp [enc, hbx]
                have hgsB := HFB.out gs (by simp [hgsF])
                have FI : Hid ((wr.setCell ⟨gs, j, none⟩ (.int .u8 (bx.toNat : Int))).heap[gb]? = some (.cells #[.slice (some ⟨g, 0, none⟩) d.1.length cl, .slice (some ⟨gc, 0, none⟩) d.2.length cc'] 40 (0, 0)) ∧ OwnF SSec F1 (wr.setCell ⟨gs, j, none⟩ (.int .u8 (bx.toNat : Int))) [.slice (some ⟨g, 0, none⟩) d.1.length cl] ((lands (crashF keep torn cut) d.1 d.2 k).set kz (over s (x.take (j + 1)))) ∧ OwnF SCacheR F2 (wr.setCell ⟨gs, j, none⟩ (.int .u8 (bx.toNat : Int))) [.slice (some ⟨gc, 0, none⟩) d.2.length cc'] d.2 ∧ Below (w.heap.size + 1 + 1) X (wr.setCell ⟨gs, j, none⟩ (.int .u8 (bx.toNat : Int))) ∧ OwnB 0 (wr.setCell ⟨gs, j, none⟩ (.int .u8 (bx.toNat : Int))) (.slice (some ⟨gu, 0, none⟩) x.length capu) x ∧ (wr.setCell ⟨gs, j, none⟩ (.int .u8 (bx.toNat : Int))).heap[U.heap.size]? = some (.cells #[.int .i64 (kz : Int), .slice (some ⟨gu, 0, none⟩) 64 capu] 78 (0, 0))) := by
                  refine ⟨(Below.heap_setCell _ _ _ _ (fun e => ?_)).trans iT, fin', i2.set hgs2 _, ib.setCell (p := ⟨gs, j, none⟩) (by show w.heap.size + 1 + 1 ≤ gs; omega) _, OwnB.set iu (fun e => ?_) _, (Below.heap_setCell _ _ _ _ (fun e => ?_)).trans il⟩
                  · have e' : gb = gs := e
                    exact HGF.out (by rw [e']; simp [hgsF])
                  · simp only [Value.ownBlock, Option.some.injEq] at e
                    exact hgs2 (by rw [← e]; exact HGU.out)
                  · have e' : U.heap.size = gs := e
                    exact HNL.out (by rw [e']; exact hgsF)
                clear iT i1 i2 ib iu il fin fin' hos hso hgs2 hgsB hgsF hbx
                generalize bx.toNat = bn at *
                generalize bt (over s (x.take j)) j = ob at *
                go_wp2
                refine wp_region_mid (fun w' => w'.cell? ⟨gb, 0, none⟩ = some (.slice (some ⟨g, 0, none⟩) d.1.length cl) ∧ w'.cell? ⟨U.heap.size, 0, none⟩ = some (.int .i64 (kz : Int)) ∧ w'.cell? ⟨U.heap.size, 1, none⟩ = some (.slice (some ⟨gu, 0, none⟩) 64 capu) ∧ w'.cell? ⟨g, kz, none⟩ = some (.slice (some ⟨gs, 0, none⟩) 64 caps) ∧ w'.cell? ⟨gu, j, none⟩ = some (.int .u8 (bn : Int))) 13 13 mixed (by kernel_rfl) (fun _ _ _ _ h => h) ⟨t0, l0, l1, hcg, hcx⟩ ?_
                dsimp only [List.take, List.drop]
                iterate 13
                  refine take_one (v := ?_) (by rfl) ?_ ?_
                  rotate_left
                  · rintro w' ⟨s1, s2, s3, s4, s5⟩
                    go_simp
                    try with_reducible rfl
                  try simp only [Act.put, List.setIfInBounds_toArray, List.set_cons_zero, List.set_cons_succ]
                show wpList _ _ _ _ _ _
                go_wp2
                go_roundw
                case rel => exact ⟨j + 1, by omega, by go_num, FI.out.1, FI.out.2.1.keep fun _ _ => rfl, FI.out.2.2.1.keep fun _ _ => rfl, FI.out.2.2.2.1.drew, FI.out.2.2.2.2.1, FI.out.2.2.2.2.2⟩
                case measure => simp [intOf]; omega
              · obtain rfl : j = 64 := by omega
                rw [HFK.out] at HLS
                rw [← HLS.out] at i1
                have H1 := hide (And.intro iT (And.intro i1 (And.intro i2 ib)))
                clear iT i1 i2 ib iu il
                go_wp2
                go_roundw
                case rel => exact ⟨k + 1, by omega, by go_num, H1.out⟩
                case measure => simp [intOf]; omega
      · have hstop : lands (crashF keep torn cut) d.1 d.2 d.2.length = lands (crashF keep torn cut) d.1 d.2 k := by
          by_cases hl2 : k < d.2.length
          · have hl3 : keep.length ≤ k := by omega
            have := lands_stop (f := crashF keep torn cut) (k := k) HOK.out (fun i hi => by unfold crashF; rw [List.getElem?_eq_none (by omega)]; rfl) (d.2.length - k)
            rwa [show k + (d.2.length - k) = d.2.length from by omega] at this
          · rw [show d.2.length = k from by omega]
        rw [hstop] at hR
        have nF : w.heap.size + 1 ∉ F1 ++ F2 := fun hm => by have := HFB.out _ hm; omega
        have nF1 : w.heap.size + 1 ∉ F1 := fun hm => nF (by simp [hm])
        have nG1 : gb ∉ F1 := fun hm => HGF.out (by simp [hm])
        have Z4 := (hb.block (w.heap.size + 1) (by omega)).trans ZX.out
        have T7 := set_row1 hT (.slice none 0 0)
        obtain ⟨e0, e1, e2, e3⟩ := row2_cells T7
        have Z7 := (Below.heap_setCell wr ⟨gb, 1, none⟩ (.slice none 0 0) (w.heap.size + 1) (by show w.heap.size + 1 ≠ gb; omega)).trans Z4
        obtain ⟨i0', i1, i2, i3⟩ := row2_cells Z7
        have cw := CX.out.trans (hb.mono (show w.heap.size ≤ w.heap.size + 1 + 1 by omega))
        have OO := hide (((((p1.cacheNil 78).set (a := ⟨gb, 1, none⟩) nG1 (.slice none 0 0)).set (a := ⟨w.heap.size + 1, 0, none⟩) nF1 (.slice al d.1.length cl)).set (a := ⟨w.heap.size + 1, 1, none⟩) nF1 (.slice none 0 0)).own (B := w.heap.size) (fun b hb => by have := HFB.out b (by simp [hb]); omega))
        have ZZ := hide Z7
        have CC := hide (cw.setCell (p := ⟨gb, 1, none⟩) (by show w.heap.size ≤ gb; omega) (.slice none 0 0))
        have hcond : ¬ ((k : Int) < (d.2.length : Int) ∧ (k : Int) < (keep.length : Int)) := by omega
        clear p1 p2 hb cw hT hstop nF nF1 nG1 Z4 T7 Z7
        by_cases hc1 : (k : Int) < (d.2.length : Int)
        · have hc2 : ¬ (k : Int) < (keep.length : Int) := by omega
          clear hcond hend
          go_wp2
          refine ret_cellT rfl rfl (w.heap.size + 1) rfl _ _ _ _ (heap_set2 ZZ.out _ _) _ Try.underlying40 rfl info_stR _ rfl ?_
          rw [hR.out]
          exact ⟨_, _, rfl, OO.out, below_set2 CC.out (show w.heap.size ≤ w.heap.size + 1 by omega) _ _⟩
        · clear hcond hend
          go_wp2
          refine ret_cellT rfl rfl (w.heap.size + 1) rfl _ _ _ _ (heap_set2 ZZ.out _ _) _ Try.underlying40 rfl info_stR _ rfl ?_
          rw [hR.out]
          exact ⟨_, _, rfl, OO.out, below_set2 CC.out (show w.heap.size ≤ w.heap.size + 1 by omega) _ _⟩
  · rw [dcheck_no hok]
    have hR : Hid (dcrash d keep torn cut = (([], []), 9)) := if_neg hok
    obtain ⟨y0, y1, y2, y3⟩ := row2_cells Z1
    go_wp2
    refine ret_cellT rfl rfl (w.heap.size + 1) rfl _ _ _ _ (heap_set2 Z1 _ _) _ Try.underlying40 rfl info_stR _ rfl ?_
    rw [hR.out]
    exact ⟨_, _, rfl, own_none _ _ _, below_set2 c1w (show w.heap.size ≤ w.heap.size + 1 by omega) _ _⟩

end Go.Proofs.Ytliileemelcllaa
