/-
  Pages on a disk: the page's own sectors, Write and Read.
-/
import Derived.Deep.CutRange
import Derived.Test.YtliileemelcllaaPgDecR
import Derived.Test.YtliileemelcllaaDPutR
import Derived.Test.YtliileemelcllaaDGetR
import Derived.Test.YtliileemelcllaaDCheckR
import Derived.Test.YtliileemelcllaaRMid
import Derived.Test.YtliileemelcllaaStep
namespace Go.Proofs.Ytliileemelcllaa
open Go.RowKit
set_option linter.unusedVariables false

theorem pgsect_9 {d : Dsk} {at' : Int} (h : ¬ DOk d) : pgsect d at' = 9 := if_pos h
theorem pgsect_41 {d : Dsk} {at' : Int} (h : DOk d) (h2 : at' < 0 ∨ (d.1.length : Int) - 4 < at') : pgsect d at' = 41 := by unfold pgsect; rw [if_neg (fun k => k h), if_pos h2]
theorem pgwrite_sect {d : Dsk} {at' id : Int} {x : List UInt8} (h : pgsect d at' ≠ 0) : pgwrite d at' id x = (([], []), pgsect d at') := if_pos h
theorem pgwrite_enc {d : Dsk} {at' id : Int} {x : List UInt8} (h : pgsect d at' = 0) (h2 : (pgenc id x).2 ≠ 0) : pgwrite d at' id x = (([], []), (pgenc id x).2) := by
  unfold pgwrite; rw [if_neg (fun k => k h), if_pos h2]
theorem pgwrite_full {d : Dsk} {at' id : Int} {x : List UInt8} (h : pgsect d at' = 0) (h2 : (pgenc id x).2 = 0) (h3 : 4092 < d.2.length) : pgwrite d at' id x = (([], []), 51) := by
  unfold pgwrite; rw [if_neg (fun k => k h), if_neg (fun k => k h2), if_pos h3]
theorem pgwrite_0 {d : Dsk} {at' id : Int} {x : List UInt8} (h : pgsect d at' = 0) (h2 : (pgenc id x).2 = 0) (h3 : ¬ 4092 < d.2.length) : pgwrite d at' id x = ((d.1, d.2 ++ pws at' (pgenc id x).1 4), 0) := by
  unfold pgwrite; rw [if_neg (fun k => k h), if_neg (fun k => k h2), if_neg h3]
theorem dok_pws {d : Dsk} (h : DOk d) {at' : Int} {b : List UInt8} (hb : b.length = 256) (h0 : 0 ≤ at') (h1 : at' ≤ (d.1.length : Int) - 4) {k : Nat} (hk : k ≤ 4) (hc : d.2.length ≤ 4092) : DOk (d.1, d.2 ++ pws at' b k) := by
  refine ⟨h.1, h.2.1, ?_, h.2.2.2.1, ?_⟩
  · show (d.2 ++ _).length ≤ _
    rw [List.length_append, pws_len]; omega
  · intro y hy
    rcases List.mem_append.1 hy with hy | hy
    · exact h.2.2.2.2 y hy
    · obtain ⟨i, hi, rfl⟩ := pws_mem hy
      exact ⟨⟨by dsimp only; omega, by dsimp only; omega⟩, psec_len hb (by omega)⟩
/-- one more sector is put -/
theorem dput_pws {d : Dsk} (h : DOk d) {at' : Int} {b : List UInt8} (hb : b.length = 256) (h0 : 0 ≤ at') (h1 : at' ≤ (d.1.length : Int) - 4) {k : Nat} (hk : k < 4) (hc : d.2.length ≤ 4092) : dput (d.1, d.2 ++ pws at' b k) (at' + k) (psec b k) = ((d.1, d.2 ++ pws at' b (k + 1)), 0) := by
  have hs : dsect (d.1, d.2 ++ pws at' b k) (at' + k) = 0 := dsect_zero.2 ⟨dok_pws h hb h0 h1 (by omega) hc, by show 0 ≤ at' + (k : Int) ∧ at' + (k : Int) < (d.1.length : Int); omega⟩
  have hl := psec_len hb hk
  unfold dput
  rw [if_neg (fun e => e hs), if_neg (by omega), if_neg (by show ¬ 4096 ≤ (d.2 ++ _).length; rw [List.length_append, pws_len]; omega), pad_id hl]
  show ((d.1, d.2 ++ pws at' b k ++ [(at' + k, psec b k)]), 0) = _
  rw [List.append_assoc]
  rfl
set_option maxRecDepth 100000 in
set_option maxHeartbeats 1000000 in
theorem rpgsect_any (w : World) (sv cv : Value) (d : Dsk) (at' : Int) (h1 : RdSec w sv d.1) (h2 : RdC w cv d.2) :
    Calls Try.prog 44 #[.agg #[sv, cv], .int .i64 at'] w fun e w' => e = .returned (.int .i64 (pgsect d at')) ∧ Below w.heap.size w w' := by
  have lb := h1.bd
  obtain ⟨a1, c1, rfl⟩ := h1.slice
  obtain ⟨a2, c2, rfl⟩ := h2.slice
  obtain ⟨X, hX, X0, bX, sX⟩ := boxedN w #[.slice a1 d.1.length c1, .slice a2 d.2.length c2] 40
  obtain ⟨A0, A1, _, _⟩ := row2_cells X0
  have KC := hide (rcheck_any X _ _ d (h1.to0 bX) (h2.to0 bX))
  rw [hX] at A0 A1
  go_enter Try.func44, Try.ntmps44
  by_cases hok : DOk d
  · rw [dcheck_ok hok] at KC
    go_wp2_with fail
    rw [← hX]
    rw [← hX] at A0 A1
    replace hX := hide hX
    refine KC.out.mono ?_
    rintro e w1 ⟨rfl, b1⟩
    replace A0 := (b1.cell (cell_lt A0)).trans A0
    by_cases hl : at' < 0
    · have hE := hide (pgsect_41 hok (.inl hl))
      replace hok := hide hok
      go_wp2
      go_ret
      exact ⟨ret_int hE.out.symm, bX.trans (b1.mono bX.size)⟩
    · by_cases hl2 : (d.1.length : Int) - 4 < at'
      · have hE := hide (pgsect_41 hok (.inr hl2))
        replace hok := hide hok
        go_wp2
        go_ret
        exact ⟨ret_int hE.out.symm, bX.trans (b1.mono bX.size)⟩
      · have hE := hide (pgsect_0.2 ⟨hok, by omega, by omega⟩ : pgsect d at' = 0)
        replace hok := hide hok
        go_wp2
        go_ret
        exact ⟨ret_int hE.out.symm, bX.trans (b1.mono bX.size)⟩
  · rw [dcheck_no hok] at KC
    have hE := hide (pgsect_9 (at' := at') hok)
    replace hok := hide hok
    go_wp2_with fail
    rw [← hX]
    replace hX := hide hX
    refine KC.out.mono ?_
    rintro e w1 ⟨rfl, b1⟩
    go_wp2
    go_ret
    exact ⟨ret_int hE.out.symm, bX.trans (b1.mono bX.size)⟩

/-- in Write's loop: the disk in its box, the answer's box, the page's octets -/
def WInv7 (w : World) (d : Dsk) (at' : Int) (b : List UInt8) (v : Value) (K : Nat) (s c : Value) (wr : World) : Prop :=
  Below w.heap.size w wr ∧ wr.heap[w.heap.size]? = some (.cells #[s, c] 40 (0, 0)) ∧ wr.heap[w.heap.size + 1]? = some (.cells #[.slice none 0 0, .slice none 0 0] 40 (0, 0)) ∧ OwnB (w.heap.size + 1 + 1) wr v b ∧
    RdSec wr s d.1 ∧ RdC wr c (d.2 ++ pws at' b K) ∧ (1 ≤ K → Own SStR (w.heap.size + 1 + 1) wr [s, c] (d.1, d.2 ++ pws at' b K))
set_option maxRecDepth 100000 in
set_option maxHeartbeats 4000000 in
theorem rpgwrite_any (w : World) (sv cv v : Value) (d : Dsk) (at' id : Int) (x : List UInt8) (h1 : RdSec w sv d.1) (h2 : RdC w cv d.2) (hx : Rd w v x) (hat : -9223372036854775808 ≤ at' ∧ at' ≤ 9223372036854775807) :
    Calls Try.prog 19 #[.agg #[sv, cv], .int .i64 at', .int .i64 id, v] w fun e w' => ∃ sv' cv', e = .returned (.tuple #[.agg #[sv', cv'], .int .i64 (pgwrite d at' id x).2]) ∧ Own SStR w.heap.size w' [sv', cv'] (pgwrite d at' id x).1 ∧ Below w.heap.size w w' := by
  have sD := hide (fun h => @pgwrite_sect d at' id x h)
  have sE := hide (fun h h2 => @pgwrite_enc d at' id x h h2)
  have sF := hide (fun h h2 h3 => @pgwrite_full d at' id x h h2 h3)
  have sY := hide (fun h h2 h3 => @pgwrite_0 d at' id x h h2 h3)
  have KE := hide (fun u h => rpgenc_any u id v x h)
  have hbl := hide (fun (h : (pgenc id x).2 = 0) => show (pgenc id x).1.length = 256 by rw [(pgenc_zero h).2.2]; exact pgenc_len _ (pgenc_zero h).2.1)
  obtain ⟨bb, er, hb⟩ : ∃ bb er, pgenc id x = (bb, er) := ⟨_, _, rfl⟩
  rw [hb] at sE sF sY KE hbl
  dsimp only at sE sF sY KE hbl
  generalize hST : pgwrite d at' id x = ST at *
  clear hb hST
  obtain ⟨a0, c0, hv⟩ := hx.slice
  subst hv
  obtain ⟨a1, c1, rfl⟩ := h1.slice
  obtain ⟨a2, c2, rfl⟩ := h2.slice
  obtain ⟨V, hV, V0, bV, sV⟩ := boxedN w #[.slice a1 d.1.length c1, .slice a2 d.2.length c2] 40
  obtain ⟨X, hX, X0, bX, sX⟩ := boxedN V #[.slice none 0 0, .slice none 0 0] 40
  have V1 : X.heap[w.heap.size]? = _ := (bX.block _ (by omega)).trans V0
  rw [sV] at X0
  have cX := bV.trans (bX.mono bV.size)
  have H1 := hide (h1.to0 cX)
  have H2 := hide (h2.to0 cX)
  have HX := hide (hx.to cX)
  have KC := hide (rpgsect_any X _ _ d at' H1.out H2.out)
  obtain ⟨E, hE⟩ : ∃ E, E = pgsect d at' := ⟨_, rfl⟩
  rw [← hE] at KC
  obtain ⟨A0, A1, _, _⟩ := row2_cells V1
  rw [hX, hV] at A0 A1
  go_enter Try.func19, Try.ntmps19
  go_wp2_with fail
  rw [← hV, ← hX]
  clear A0 A1
  replace hX := hide hX
  replace hV := hide hV
  refine KC.out.mono ?_
  rintro e w1 ⟨rfl, b1⟩
  clear KC V0 bV bX h1 h2 hx
  by_cases h0 : E = 0
  · have hsec : Hid (pgsect d at' = 0) := by show _ = _; rw [← hE]; exact h0
    subst h0
    replace hE := hide hE
    go_wp2_with fail
    refine (KE.out w1 (HX.out.to b1)).mono ?_
    rintro e w2 ⟨v2, rfl, o2, b2⟩
    clear KE
    have b12 := b1.trans (b2.mono b1.size)
    have V2 := (b12.block _ (lt_of_block V1)).trans V1
    have X2 := (b12.block _ (lt_of_block X0)).trans X0
    have c2w := hide (cX.trans (b12.mono cX.size))
    have hsz2 : w.heap.size + 1 + 1 ≤ w2.heap.size := lt_of_block X2
    have hsz1 : w.heap.size + 1 + 1 ≤ w1.heap.size := by have := b1.size; omega
    replace H1 := hide (H1.out.to0 b12)
    replace H2 := hide (H2.out.to0 b12)
    clear HX V1 X0 cX b1 b2 b12
    by_cases he : er = 0
    · subst he
      by_cases hf : 4092 < d.2.length
      · have hq : (4092 : Int) < (d.2.length : Int) := by omega
        have hS := hide (sF.out hsec.out (by trivial) hf)
        obtain ⟨s2, t2, hv2⟩ := o2.rd.slice
        subst hv2
        obtain ⟨A0, A1, _, _⟩ := row2_cells V2
        replace hf := hide hf
        clear o2
        obtain ⟨r0, r1, f0, f1⟩ := row2_cells X2
        go_wp2
        refine ret_cellT rfl rfl (w.heap.size + 1) rfl _ _ _ _ (heap_set2 (u := w2) X2 _ _) _ Try.underlying40 rfl info_stR _ rfl ?_
        rw [hS.out]
        exact ⟨_, _, rfl, own_none _ _ _, below_set2 c2w.out (by omega) _ _⟩
      · have hq : ¬ (4092 : Int) < (d.2.length : Int) := by omega
        have hS := hide (sY.out hsec.out (by trivial) hf)
        obtain ⟨hok, hp0, hp1⟩ := pgsect_0.1 hsec.out
        have hbL := hide (hbl.out (by trivial))
        have hsl := hok.2.1
        obtain ⟨gb, go, gc, hv2, hgc, hgm, _, _⟩ := rdN o2.rd hbL.out (by decide)
        subst hv2
        have I0 : Hid (WInv7 w d at' bb (.slice (some ⟨gb, go, none⟩) 256 gc) 0 (.slice a1 d.1.length c1) (.slice a2 d.2.length c2) w2) := ⟨c2w.out, V2, X2, o2.mono hsz1, H1.out, by simpa [pws] using H2.out, fun h => by omega⟩
        have hok' := hide hok
        obtain ⟨A0, A1, _, _⟩ := row2_cells V2
        have hq64 : (256 : Int) ≤ (gc : Int) := by omega
        clear o2 V2 X2 H1 H2 hok
        go_wp2
        clear A0 A1
        go_loopw [13] (fun i wr => ∃ (K : Nat) (s c : Value), K ≤ 4 ∧ i = .int .i64 K ∧ Hid (WInv7 w d at' bb (.slice (some ⟨gb, go, none⟩) 256 gc) K s c wr)) (fun i _ => 4 - (intOf i).toNat)
        case atStart => exact ⟨0, _, _, by omega, rfl, I0⟩
        case round =>
          obtain ⟨K, s, c, hK, rfl, hI⟩ := hrel
          clear I0
          obtain ⟨q0, q1, q2, q3⟩ := row2_cells hI.out.2.1
          obtain ⟨sa, sc, hs⟩ := hI.out.2.2.2.2.1.slice
          obtain ⟨ca, cc, hcv⟩ := hI.out.2.2.2.2.2.1.slice
          have hcl : (d.2 ++ pws at' bb K).length = d.2.length + K := by rw [List.length_append, pws_len]
          rw [hcl] at hcv
          subst hs hcv
          have hcases : K = 0 ∨ K = 1 ∨ K = 2 ∨ K = 3 ∨ K = 4 := by omega
          rcases hcases with rfl | rfl | rfl | rfl | rfl
          · have hqa : at' + 4 ≤ 9223372036854775807 := by omega
            have hn0 : ¬ gc = 0 := by omega
            have hqh : (64 : Int) ≤ (gc : Int) := by omega
            have x0 : IntKind.i64.wrap (0 : Int) = 0 := by decide
            have x1 : IntKind.i64.wrap (64 : Int) = 64 := by decide
            have x2 : IntKind.i64.wrap (at') = at' := by rw [IntKind.wrap_i64]; omega
            obtain ⟨gb', go', gc', hv', _, _, hR, _⟩ := rdN hI.out.2.2.2.1.rd hbL.out (by decide)
            simp only [Value.slice.injEq, Option.some.injEq, Addr.mk.injEq, and_true, true_and] at hv'
            obtain ⟨⟨rfl, rfl⟩, rfl⟩ := hv'
            have hP := hide (dput_pws hok'.out hbL.out hp0 hp1 (k := 0) (by decide) (by omega))
            have KP' := hide (rput_any wr.drew (.slice sa d.1.length sc) (.slice ca d.2.length cc) (.slice (some ⟨gb, go, none⟩) 64 gc) (d.1, d.2 ++ pws at' bb 0) (at' + ((0 : Nat) : Int)) (psec bb 0) hI.out.2.2.2.2.1 hI.out.2.2.2.2.2.1 (by simpa [psec] using (hR 0 64 (by omega) (by omega)).to (Below.refl _ _).drew))
            rw [hP.out] at KP'
            rw [show at' + ((0 : Nat) : Int) = at' by omega] at KP'
            dsimp only at KP'
            have ALL : Hid (∀ u, Below wr.heap.size wr u → u.cell? ⟨w.heap.size, 0, none⟩ = some (.slice sa d.1.length sc) ∧ u.cell? ⟨w.heap.size, 1, none⟩ = some (.slice ca d.2.length cc) ∧ u.frozen? ⟨w.heap.size, 0, none⟩ = false ∧ u.frozen? ⟨w.heap.size, 1, none⟩ = false) := fun u bu => row2_cells ((bu.block _ (lt_of_block hI.out.2.1)).trans hI.out.2.1)
            have hszr : w.heap.size + 1 < wr.heap.size := lt_of_block hI.out.2.2.1
            clear hR q2 q3
            go_wp2_with fail
            go_region_law (refine step_call (by rfl) 45 _ _ (by rfl) #[.agg #[.slice sa d.1.length sc, .slice ca d.2.length cc], .int .i64 (at'), .slice (some ⟨gb, go, none⟩) 64 gc] ?_ (Try.call45 _ _) KP'.out ?_; (focus (simp [Act.eval]; done)); rintro e w4 ⟨ys, yc, rfl, o4, b4⟩; obtain ⟨y0, y1, y2, y3⟩ := ALL.out w4 ((Below.refl _ _).drew.trans b4); obtain ⟨P1, P2⟩ := Own.fst (c := [ys]) (d := [yc]) o4 rfl; obtain ⟨ya, yx, hs⟩ := P1.rdS.slice; obtain ⟨yb, yy, hc⟩ := P2.rdS.slice; replace hc : yc = .slice yb (d.2.length + 1) yy := (by rw [hc, List.length_append, pws_len]); subst hs hc; clear P1 P2; replace o4 := hide o4; replace b4 := hide b4; refine ⟨_, rfl, ?_⟩)
            all_goals
              have b4' : Below wr.heap.size wr w4 := (Below.refl _ _).drew.trans b4.out
              have FIN : Hid (WInv7 w d at' bb (.slice (some ⟨gb, go, none⟩) 256 gc) (0 + 1) (.slice ya d.1.length yx) (.slice yb (d.2.length + 1) yy) ((w4.setCell ⟨w.heap.size, 0, none⟩ (.slice ya d.1.length yx)).setCell ⟨w.heap.size, 1, none⟩ (.slice yb (d.2.length + 1) yy))) := by
                have V4 := (b4'.block _ (lt_of_block hI.out.2.1)).trans hI.out.2.1
                have X4 := (b4'.block _ (lt_of_block hI.out.2.2.1)).trans hI.out.2.2.1
                have hlt : w.heap.size < wr.drew.heap.size := by show w.heap.size < wr.heap.size; omega
                have oN := (o4.out.set (a := ⟨w.heap.size, 0, none⟩) hlt (.slice ya d.1.length yx)).set (a := ⟨w.heap.size, 1, none⟩) hlt (.slice yb (d.2.length + 1) yy)
                obtain ⟨P1, P2⟩ := Own.fst (c := [.slice ya d.1.length yx]) (d := [.slice yb (d.2.length + 1) yy]) oN rfl
                refine ⟨below_set2 (hI.out.1.trans (b4'.mono hI.out.1.size)) (Nat.le_refl _) _ _, heap_set2 V4 _ _, ?_, own_set (own_set (hI.out.2.2.2.1.below (Nat.le_refl _) b4') (by omega) _ _) (by omega) _ _, P1.rdS, P2.rdS, fun _ => oN.mono (by show w.heap.size + 1 + 1 ≤ wr.heap.size; omega)⟩
                rw [Below.heap_setCell _ _ _ _ (by show w.heap.size + 1 ≠ w.heap.size; omega), Below.heap_setCell _ _ _ _ (by show w.heap.size + 1 ≠ w.heap.size; omega)]; exact X4
              go_wp2
              go_roundw
              case rel => exact ⟨0 + 1, _, _, by omega, by go_num, FIN⟩
              case measure => simp [intOf]
          · have hqa : at' + 4 ≤ 9223372036854775807 := by omega
            have hn1 : ¬ gc = 64 := by omega
            have hqh : (128 : Int) ≤ (gc : Int) := by omega
            have x0 : IntKind.i64.wrap (64 : Int) = 64 := by decide
            have x1 : IntKind.i64.wrap (128 : Int) = 128 := by decide
            have x2 : IntKind.i64.wrap (at' + 1) = at' + 1 := by rw [IntKind.wrap_i64]; omega
            obtain ⟨gb', go', gc', hv', _, _, hR, _⟩ := rdN hI.out.2.2.2.1.rd hbL.out (by decide)
            simp only [Value.slice.injEq, Option.some.injEq, Addr.mk.injEq, and_true, true_and] at hv'
            obtain ⟨⟨rfl, rfl⟩, rfl⟩ := hv'
            have hP := hide (dput_pws hok'.out hbL.out hp0 hp1 (k := 1) (by decide) (by omega))
            have KP' := hide (rput_any wr.drew (.slice sa d.1.length sc) (.slice ca (d.2.length + 1) cc) (.slice (some ⟨gb, go + 64, none⟩) 64 (gc - 64)) (d.1, d.2 ++ pws at' bb 1) (at' + ((1 : Nat) : Int)) (psec bb 1) hI.out.2.2.2.2.1 hI.out.2.2.2.2.2.1 (by simpa [psec] using (hR 64 128 (by omega) (by omega)).to (Below.refl _ _).drew))
            rw [hP.out] at KP'
            rw [show at' + ((1 : Nat) : Int) = at' + 1 by omega] at KP'
            dsimp only at KP'
            have ALL : Hid (∀ u, Below wr.heap.size wr u → u.cell? ⟨w.heap.size, 0, none⟩ = some (.slice sa d.1.length sc) ∧ u.cell? ⟨w.heap.size, 1, none⟩ = some (.slice ca (d.2.length + 1) cc) ∧ u.frozen? ⟨w.heap.size, 0, none⟩ = false ∧ u.frozen? ⟨w.heap.size, 1, none⟩ = false) := fun u bu => row2_cells ((bu.block _ (lt_of_block hI.out.2.1)).trans hI.out.2.1)
            have hszr : w.heap.size + 1 < wr.heap.size := lt_of_block hI.out.2.2.1
            clear hR q2 q3
            go_wp2_with fail
            go_region_law (refine step_call (by rfl) 45 _ _ (by rfl) #[.agg #[.slice sa d.1.length sc, .slice ca (d.2.length + 1) cc], .int .i64 (at' + 1), .slice (some ⟨gb, go + 64, none⟩) 64 (gc - 64)] ?_ (Try.call45 _ _) KP'.out ?_; (focus (simp [Act.eval]; done)); rintro e w4 ⟨ys, yc, rfl, o4, b4⟩; obtain ⟨y0, y1, y2, y3⟩ := ALL.out w4 ((Below.refl _ _).drew.trans b4); obtain ⟨P1, P2⟩ := Own.fst (c := [ys]) (d := [yc]) o4 rfl; obtain ⟨ya, yx, hs⟩ := P1.rdS.slice; obtain ⟨yb, yy, hc⟩ := P2.rdS.slice; replace hc : yc = .slice yb (d.2.length + 2) yy := (by rw [hc, List.length_append, pws_len]); subst hs hc; clear P1 P2; replace o4 := hide o4; replace b4 := hide b4; refine ⟨_, rfl, ?_⟩)
            all_goals
              have b4' : Below wr.heap.size wr w4 := (Below.refl _ _).drew.trans b4.out
              have FIN : Hid (WInv7 w d at' bb (.slice (some ⟨gb, go, none⟩) 256 gc) (1 + 1) (.slice ya d.1.length yx) (.slice yb (d.2.length + 2) yy) ((w4.setCell ⟨w.heap.size, 0, none⟩ (.slice ya d.1.length yx)).setCell ⟨w.heap.size, 1, none⟩ (.slice yb (d.2.length + 2) yy))) := by
                have V4 := (b4'.block _ (lt_of_block hI.out.2.1)).trans hI.out.2.1
                have X4 := (b4'.block _ (lt_of_block hI.out.2.2.1)).trans hI.out.2.2.1
                have hlt : w.heap.size < wr.drew.heap.size := by show w.heap.size < wr.heap.size; omega
                have oN := (o4.out.set (a := ⟨w.heap.size, 0, none⟩) hlt (.slice ya d.1.length yx)).set (a := ⟨w.heap.size, 1, none⟩) hlt (.slice yb (d.2.length + 2) yy)
                obtain ⟨P1, P2⟩ := Own.fst (c := [.slice ya d.1.length yx]) (d := [.slice yb (d.2.length + 2) yy]) oN rfl
                refine ⟨below_set2 (hI.out.1.trans (b4'.mono hI.out.1.size)) (Nat.le_refl _) _ _, heap_set2 V4 _ _, ?_, own_set (own_set (hI.out.2.2.2.1.below (Nat.le_refl _) b4') (by omega) _ _) (by omega) _ _, P1.rdS, P2.rdS, fun _ => oN.mono (by show w.heap.size + 1 + 1 ≤ wr.heap.size; omega)⟩
                rw [Below.heap_setCell _ _ _ _ (by show w.heap.size + 1 ≠ w.heap.size; omega), Below.heap_setCell _ _ _ _ (by show w.heap.size + 1 ≠ w.heap.size; omega)]; exact X4
              go_wp2
              go_roundw
              case rel => exact ⟨1 + 1, _, _, by omega, by go_num, FIN⟩
              case measure => simp [intOf]
          · have hqa : at' + 4 ≤ 9223372036854775807 := by omega
            have hn2 : ¬ gc = 128 := by omega
            have hqh : (192 : Int) ≤ (gc : Int) := by omega
            have x0 : IntKind.i64.wrap (128 : Int) = 128 := by decide
            have x1 : IntKind.i64.wrap (192 : Int) = 192 := by decide
            have x2 : IntKind.i64.wrap (at' + 2) = at' + 2 := by rw [IntKind.wrap_i64]; omega
            obtain ⟨gb', go', gc', hv', _, _, hR, _⟩ := rdN hI.out.2.2.2.1.rd hbL.out (by decide)
            simp only [Value.slice.injEq, Option.some.injEq, Addr.mk.injEq, and_true, true_and] at hv'
            obtain ⟨⟨rfl, rfl⟩, rfl⟩ := hv'
            have hP := hide (dput_pws hok'.out hbL.out hp0 hp1 (k := 2) (by decide) (by omega))
            have KP' := hide (rput_any wr.drew (.slice sa d.1.length sc) (.slice ca (d.2.length + 2) cc) (.slice (some ⟨gb, go + 128, none⟩) 64 (gc - 128)) (d.1, d.2 ++ pws at' bb 2) (at' + ((2 : Nat) : Int)) (psec bb 2) hI.out.2.2.2.2.1 hI.out.2.2.2.2.2.1 (by simpa [psec] using (hR 128 192 (by omega) (by omega)).to (Below.refl _ _).drew))
            rw [hP.out] at KP'
            rw [show at' + ((2 : Nat) : Int) = at' + 2 by omega] at KP'
            dsimp only at KP'
            have ALL : Hid (∀ u, Below wr.heap.size wr u → u.cell? ⟨w.heap.size, 0, none⟩ = some (.slice sa d.1.length sc) ∧ u.cell? ⟨w.heap.size, 1, none⟩ = some (.slice ca (d.2.length + 2) cc) ∧ u.frozen? ⟨w.heap.size, 0, none⟩ = false ∧ u.frozen? ⟨w.heap.size, 1, none⟩ = false) := fun u bu => row2_cells ((bu.block _ (lt_of_block hI.out.2.1)).trans hI.out.2.1)
            have hszr : w.heap.size + 1 < wr.heap.size := lt_of_block hI.out.2.2.1
            clear hR q2 q3
            go_wp2_with fail
            go_region_law (refine step_call (by rfl) 45 _ _ (by rfl) #[.agg #[.slice sa d.1.length sc, .slice ca (d.2.length + 2) cc], .int .i64 (at' + 2), .slice (some ⟨gb, go + 128, none⟩) 64 (gc - 128)] ?_ (Try.call45 _ _) KP'.out ?_; (focus (simp [Act.eval]; done)); rintro e w4 ⟨ys, yc, rfl, o4, b4⟩; obtain ⟨y0, y1, y2, y3⟩ := ALL.out w4 ((Below.refl _ _).drew.trans b4); obtain ⟨P1, P2⟩ := Own.fst (c := [ys]) (d := [yc]) o4 rfl; obtain ⟨ya, yx, hs⟩ := P1.rdS.slice; obtain ⟨yb, yy, hc⟩ := P2.rdS.slice; replace hc : yc = .slice yb (d.2.length + 3) yy := (by rw [hc, List.length_append, pws_len]); subst hs hc; clear P1 P2; replace o4 := hide o4; replace b4 := hide b4; refine ⟨_, rfl, ?_⟩)
            all_goals
              have b4' : Below wr.heap.size wr w4 := (Below.refl _ _).drew.trans b4.out
              have FIN : Hid (WInv7 w d at' bb (.slice (some ⟨gb, go, none⟩) 256 gc) (2 + 1) (.slice ya d.1.length yx) (.slice yb (d.2.length + 3) yy) ((w4.setCell ⟨w.heap.size, 0, none⟩ (.slice ya d.1.length yx)).setCell ⟨w.heap.size, 1, none⟩ (.slice yb (d.2.length + 3) yy))) := by
                have V4 := (b4'.block _ (lt_of_block hI.out.2.1)).trans hI.out.2.1
                have X4 := (b4'.block _ (lt_of_block hI.out.2.2.1)).trans hI.out.2.2.1
                have hlt : w.heap.size < wr.drew.heap.size := by show w.heap.size < wr.heap.size; omega
                have oN := (o4.out.set (a := ⟨w.heap.size, 0, none⟩) hlt (.slice ya d.1.length yx)).set (a := ⟨w.heap.size, 1, none⟩) hlt (.slice yb (d.2.length + 3) yy)
                obtain ⟨P1, P2⟩ := Own.fst (c := [.slice ya d.1.length yx]) (d := [.slice yb (d.2.length + 3) yy]) oN rfl
                refine ⟨below_set2 (hI.out.1.trans (b4'.mono hI.out.1.size)) (Nat.le_refl _) _ _, heap_set2 V4 _ _, ?_, own_set (own_set (hI.out.2.2.2.1.below (Nat.le_refl _) b4') (by omega) _ _) (by omega) _ _, P1.rdS, P2.rdS, fun _ => oN.mono (by show w.heap.size + 1 + 1 ≤ wr.heap.size; omega)⟩
                rw [Below.heap_setCell _ _ _ _ (by show w.heap.size + 1 ≠ w.heap.size; omega), Below.heap_setCell _ _ _ _ (by show w.heap.size + 1 ≠ w.heap.size; omega)]; exact X4
              go_wp2
              go_roundw
              case rel => exact ⟨2 + 1, _, _, by omega, by go_num, FIN⟩
              case measure => simp [intOf]
          · have hqa : at' + 4 ≤ 9223372036854775807 := by omega
            have hn3 : ¬ gc = 192 := by omega
            have hqh : (256 : Int) ≤ (gc : Int) := by omega
            have x0 : IntKind.i64.wrap (192 : Int) = 192 := by decide
            have x1 : IntKind.i64.wrap (256 : Int) = 256 := by decide
            have x2 : IntKind.i64.wrap (at' + 3) = at' + 3 := by rw [IntKind.wrap_i64]; omega
            obtain ⟨gb', go', gc', hv', _, _, hR, _⟩ := rdN hI.out.2.2.2.1.rd hbL.out (by decide)
            simp only [Value.slice.injEq, Option.some.injEq, Addr.mk.injEq, and_true, true_and] at hv'
            obtain ⟨⟨rfl, rfl⟩, rfl⟩ := hv'
            have hP := hide (dput_pws hok'.out hbL.out hp0 hp1 (k := 3) (by decide) (by omega))
            have KP' := hide (rput_any wr.drew (.slice sa d.1.length sc) (.slice ca (d.2.length + 3) cc) (.slice (some ⟨gb, go + 192, none⟩) 64 (gc - 192)) (d.1, d.2 ++ pws at' bb 3) (at' + ((3 : Nat) : Int)) (psec bb 3) hI.out.2.2.2.2.1 hI.out.2.2.2.2.2.1 (by simpa [psec] using (hR 192 256 (by omega) (by omega)).to (Below.refl _ _).drew))
            rw [hP.out] at KP'
            rw [show at' + ((3 : Nat) : Int) = at' + 3 by omega] at KP'
            dsimp only at KP'
            have ALL : Hid (∀ u, Below wr.heap.size wr u → u.cell? ⟨w.heap.size, 0, none⟩ = some (.slice sa d.1.length sc) ∧ u.cell? ⟨w.heap.size, 1, none⟩ = some (.slice ca (d.2.length + 3) cc) ∧ u.frozen? ⟨w.heap.size, 0, none⟩ = false ∧ u.frozen? ⟨w.heap.size, 1, none⟩ = false) := fun u bu => row2_cells ((bu.block _ (lt_of_block hI.out.2.1)).trans hI.out.2.1)
            have hszr : w.heap.size + 1 < wr.heap.size := lt_of_block hI.out.2.2.1
            clear hR q2 q3
            go_wp2_with fail
            go_region_law (refine step_call (by rfl) 45 _ _ (by rfl) #[.agg #[.slice sa d.1.length sc, .slice ca (d.2.length + 3) cc], .int .i64 (at' + 3), .slice (some ⟨gb, go + 192, none⟩) 64 (gc - 192)] ?_ (Try.call45 _ _) KP'.out ?_; (focus (simp [Act.eval]; done)); rintro e w4 ⟨ys, yc, rfl, o4, b4⟩; obtain ⟨y0, y1, y2, y3⟩ := ALL.out w4 ((Below.refl _ _).drew.trans b4); obtain ⟨P1, P2⟩ := Own.fst (c := [ys]) (d := [yc]) o4 rfl; obtain ⟨ya, yx, hs⟩ := P1.rdS.slice; obtain ⟨yb, yy, hc⟩ := P2.rdS.slice; replace hc : yc = .slice yb (d.2.length + 4) yy := (by rw [hc, List.length_append, pws_len]); subst hs hc; clear P1 P2; replace o4 := hide o4; replace b4 := hide b4; refine ⟨_, rfl, ?_⟩)
            all_goals
              have b4' : Below wr.heap.size wr w4 := (Below.refl _ _).drew.trans b4.out
              have FIN : Hid (WInv7 w d at' bb (.slice (some ⟨gb, go, none⟩) 256 gc) (3 + 1) (.slice ya d.1.length yx) (.slice yb (d.2.length + 4) yy) ((w4.setCell ⟨w.heap.size, 0, none⟩ (.slice ya d.1.length yx)).setCell ⟨w.heap.size, 1, none⟩ (.slice yb (d.2.length + 4) yy))) := by
                have V4 := (b4'.block _ (lt_of_block hI.out.2.1)).trans hI.out.2.1
                have X4 := (b4'.block _ (lt_of_block hI.out.2.2.1)).trans hI.out.2.2.1
                have hlt : w.heap.size < wr.drew.heap.size := by show w.heap.size < wr.heap.size; omega
                have oN := (o4.out.set (a := ⟨w.heap.size, 0, none⟩) hlt (.slice ya d.1.length yx)).set (a := ⟨w.heap.size, 1, none⟩) hlt (.slice yb (d.2.length + 4) yy)
                obtain ⟨P1, P2⟩ := Own.fst (c := [.slice ya d.1.length yx]) (d := [.slice yb (d.2.length + 4) yy]) oN rfl
                refine ⟨below_set2 (hI.out.1.trans (b4'.mono hI.out.1.size)) (Nat.le_refl _) _ _, heap_set2 V4 _ _, ?_, own_set (own_set (hI.out.2.2.2.1.below (Nat.le_refl _) b4') (by omega) _ _) (by omega) _ _, P1.rdS, P2.rdS, fun _ => oN.mono (by show w.heap.size + 1 + 1 ≤ wr.heap.size; omega)⟩
                rw [Below.heap_setCell _ _ _ _ (by show w.heap.size + 1 ≠ w.heap.size; omega), Below.heap_setCell _ _ _ _ (by show w.heap.size + 1 ≠ w.heap.size; omega)]; exact X4
              go_wp2
              go_roundw
              case rel => exact ⟨3 + 1, _, _, by omega, by go_num, FIN⟩
              case measure => simp [intOf]
          · have oF := hide (hI.out.2.2.2.2.2.2 (by omega))
            have XF := hI.out.2.2.1
            have cF := hide hI.out.1
            obtain ⟨r0, r1, f0, f1⟩ := row2_cells XF
            have XF' := hide XF
            clear hI XF
            go_wp2
            refine ret_cellT rfl rfl (w.heap.size + 1) rfl _ _ _ _ (heap_set2 (u := wr) XF'.out _ _) _ Try.underlying40 rfl info_stR _ rfl ?_
            rw [hS.out]
            refine ⟨_, _, rfl, ?_, below_set2 cF.out (by omega) _ _⟩
            exact ((oF.out.set (a := ⟨w.heap.size + 1, 0, none⟩) (by show w.heap.size + 1 < w.heap.size + 1 + 1; omega) _).set (a := ⟨w.heap.size + 1, 1, none⟩) (by show w.heap.size + 1 < w.heap.size + 1 + 1; omega) _).mono (by omega)
    · have hS := hide (sE.out hsec.out he)
      have hee : (er != 0) = true := by simpa using he
      replace he := hide he
      obtain ⟨s2, t2, hv2⟩ := o2.rd.slice
      subst hv2
      clear o2 V2
      obtain ⟨r0, r1, f0, f1⟩ := row2_cells X2
      go_wp2
      refine ret_cellT rfl rfl (w.heap.size + 1) rfl _ _ _ _ (heap_set2 (u := w2) X2 _ _) _ Try.underlying40 rfl info_stR _ rfl ?_
      rw [hS.out]
      exact ⟨_, _, rfl, own_none _ _ _, below_set2 c2w.out (by omega) _ _⟩
  · have hS := hide (sD.out (by rw [← hE]; exact h0))
    have hbe : (E != 0) = true := by simpa using h0
    replace h0 := hide h0
    replace hE := hide hE
    have X2 := (b1.block _ (lt_of_block X0)).trans X0
    have c2w := hide (cX.trans (b1.mono cX.size))
    clear X0 V1 cX b1
    obtain ⟨r0, r1, f0, f1⟩ := row2_cells X2
    go_wp2
    refine ret_cellT rfl rfl (w.heap.size + 1) rfl _ _ _ _ (heap_set2 (u := w1) X2 _ _) _ Try.underlying40 rfl info_stR _ rfl ?_
    rw [hS.out]
    exact ⟨_, _, by rw [← hE.out]; rfl, own_none _ _ _, below_set2 c2w.out (by omega) _ _⟩

theorem lastOf_len {k : Int} {x : List UInt8} {ws : List Wrt} (hx : x.length = 64) (hw : ∀ y ∈ ws, y.2.length = 64) : (lastOf k x ws).length = 64 := by
  unfold lastOf
  induction ws generalizing x with
  | nil => exact hx
  | cons y r ih =>
    rw [List.foldl_cons]
    exact ih (by split; exact hw y (List.mem_cons_self ..); exact hx) fun z hz => hw z (List.mem_cons_of_mem _ hz)
theorem dget_len {d : Dsk} {k : Int} (h : DOk d) (h0 : 0 ≤ k) (h1 : k < d.1.length) : (dget d k).1.length = 64 := by
  rw [dget_at h h0 h1]
  exact lastOf_len (h.2.2.2.1 _ (getD_mem (by omega))) fun y hy => (h.2.2.2.2 y hy).2
theorem pgot_len {d : Dsk} {at' : Int} (h : DOk d) (h0 : 0 ≤ at') (h1 : at' ≤ (d.1.length : Int) - 4) : ∀ K, K ≤ 4 → (pgot d at' K).length = 64 * K
  | 0, _ => rfl
  | K + 1, hK => by
    rw [pgot, List.length_append, pgot_len h h0 h1 K (by omega), dget_len h (by omega) (by omega)]; omega
theorem pgread_sect {d : Dsk} {at' id : Int} (h : pgsect d at' ≠ 0) : pgread d at' id = ([], pgsect d at') := if_pos h
theorem pgread_no {d : Dsk} {at' id : Int} (h : pgsect d at' = 0) (h2 : (pgdec (pgot d at' 4)).2.2 ≠ 0 ∨ (pgdec (pgot d at' 4)).1 ≠ id) : pgread d at' id = ([], 21) := by
  unfold pgread; rw [if_neg (fun k => k h), if_pos h2]
theorem pgread_0 {d : Dsk} {at' id : Int} (h : pgsect d at' = 0) (h2 : (pgdec (pgot d at' 4)).2.2 = 0) (h3 : (pgdec (pgot d at' 4)).1 = id) : pgread d at' id = ((pgdec (pgot d at' 4)).2.1, 0) := by
  unfold pgread; rw [if_neg (fun k => k h), if_neg]
  rintro (k | k)
  · exact k h2
  · exact k h3
set_option maxRecDepth 100000 in
set_option maxHeartbeats 4000000 in
theorem rpgread_any (w : World) (sv cv : Value) (d : Dsk) (at' id : Int) (h1 : RdSec w sv d.1) (h2 : RdC w cv d.2) :
    Calls Try.prog 21 #[.agg #[sv, cv], .int .i64 at', .int .i64 id] w fun e w' => ∃ v', e = .returned (.tuple #[v', .int .i64 (pgread d at' id).2]) ∧ OwnB w.heap.size w' v' (pgread d at' id).1 ∧ Below w.heap.size w w' := by
  obtain ⟨a1, c1, rfl⟩ := h1.slice
  obtain ⟨a2, c2, rfl⟩ := h2.slice
  obtain ⟨X, hX, X0, bX, sX⟩ := boxedN w #[.slice a1 d.1.length c1, .slice a2 d.2.length c2] 40
  have H1 := hide (h1.to0 bX)
  have H2 := hide (h2.to0 bX)
  have KC := hide (rpgsect_any X _ _ d at' H1.out H2.out)
  obtain ⟨E, hE⟩ : ∃ E, E = pgsect d at' := ⟨_, rfl⟩
  rw [← hE] at KC
  obtain ⟨A0, A1, _, _⟩ := row2_cells X0
  rw [hX] at A0 A1
  go_enter Try.func21, Try.ntmps21
  go_wp2_with fail
  rw [← hX]
  clear A0 A1
  replace hX := hide hX
  refine KC.out.mono ?_
  rintro e w1 ⟨rfl, b1⟩
  clear KC h1 h2
  have X1 := hide ((b1.block _ (lt_of_block X0)).trans X0)
  have c1w := hide (bX.trans (b1.mono bX.size))
  replace H1 := hide (H1.out.to0 b1)
  replace H2 := hide (H2.out.to0 b1)
  have hlt : w.heap.size < w1.heap.size := lt_of_block X1.out
  clear X0 bX b1
  by_cases h0 : E = 0
  · have hsec : Hid (pgsect d at' = 0) := by show _ = _; rw [← hE]; exact h0
    subst h0
    replace hE := hide hE
    obtain ⟨hok, hp0, hp1⟩ := pgsect_0.1 hsec.out
    have hsl := hok.2.1
    have hgl := hide (pgot_len hok hp0 hp1)
    have hdl := hide (fun k p q => @dget_len d k hok p q)
    have hok' := hide hok
    clear hok
    go_wp2
    go_loopw [9, 10] (fun v i wr => ∃ K : Nat, K ≤ 4 ∧ i = .int .i64 K ∧ Hid (OwnB w1.heap.size wr v (pgot d at' K) ∧ Below w1.heap.size w1 wr)) (fun _ i _ => 4 - (intOf i).toNat)
    case atStart => exact ⟨0, by omega, rfl, hide ⟨World.ownsRow_nil _ _ _ _, Below.refl _ _⟩⟩
    case round =>
      obtain ⟨K, hK, rfl, hI⟩ := hrel
      by_cases hlk : K < 4
      · have hqk : (K : Int) < 4 := by omega
        obtain ⟨A0, A1, _, _⟩ := row2_cells ((hI.out.2.block _ hlt).trans X1.out)
        have KG := hide (rget_any wr _ _ d (at' + K) (H1.out.to0 hI.out.2) (H2.out.to0 hI.out.2))
        have hl64 := hide (hdl.out (at' + K) (by omega) (by omega))
        have hnx : Hid (pgot d at' (K + 1) = pgot d at' K ++ (dget d (at' + K)).1) := rfl
        obtain ⟨g, ge, hg⟩ : ∃ g ge, dget d (at' + K) = (g, ge) := ⟨_, _, rfl⟩
        rw [hg] at KG hl64 hnx
        dsimp only at KG hl64 hnx
        clear hg
        obtain ⟨Y, hY⟩ : ∃ Y, Y = pgot d at' K := ⟨_, rfl⟩
        have hYl : Hid (Y.length = 64 * K) := by show _ = _; rw [hY]; exact hgl.out K (by omega)
        rw [← hY] at hnx hI
        replace hY := hide hY
        obtain ⟨s9, t9, h9⟩ := hI.out.1.rd.slice
        subst h9
        go_wp2_with fail
        refine KG.out.mono ?_
        rintro e w3 ⟨v3, rfl, o3, b3⟩
        clear KG A0 A1
        have oA := hI.out.1.below (Nat.le_refl _) b3
        have bA := hide (hI.out.2.trans (b3.mono hI.out.2.size))
        have r3 := o3.rd
        obtain ⟨s3, t3, h3⟩ := r3.slice
        subst h3
        have hl : Y.length + g.length ≤ 140737488355328 := by rw [hYl.out, hl64.out]; omega
        have hsz := bA.out.size
        clear o3 b3 hI
        go_wp2_with (at_builtin; refine wpList_append_octs rfl _ _ rfl w1.heap.size _ _ Y g rfl rfl oA r3 hl hsz ?_; intro v6 w6 o6 b6 _)
        go_roundw
        case rel => exact ⟨K + 1, by omega, by go_num, hide ⟨by rw [hnx.out]; exact o6, bA.out.trans b6⟩⟩
        case measure => simp [intOf]; omega
      · have hqk : ¬ (K : Int) < 4 := by omega
        obtain rfl : K = 4 := by omega
        have oH := hI.out.1
        have bH := hide hI.out.2
        have KD := hide (rpgdec_any wr _ _ oH.rd)
        have sN := hide (fun h => @pgread_no d at' id hsec.out h)
        have sY := hide (fun h h2 => @pgread_0 d at' id hsec.out h h2)
        obtain ⟨Y, hY⟩ : ∃ Y, Y = pgot d at' 4 := ⟨_, rfl⟩
        rw [← hY] at KD sN sY oH
        obtain ⟨n, x, er, hD⟩ : ∃ n x er, pgdec Y = (n, x, er) := ⟨_, _, _, rfl⟩
        rw [hD] at KD sN sY
        dsimp only at KD sN sY
        obtain ⟨s9, t9, h9⟩ := oH.rd.slice
        subst h9
        clear hD hY hI oH
        go_wp2_with fail
        refine KD.out.mono ?_
        rintro e w3 ⟨v3, rfl, o3, b3⟩
        have c3 := hide (c1w.out.trans (((bH.out).trans (b3.mono bH.out.size)).mono c1w.out.size))
        obtain ⟨s3, t3, h3⟩ := o3.rd.slice
        subst h3
        have hb3 : Hid (w.heap.size ≤ wr.heap.size) := Nat.le_trans c1w.out.size bH.out.size
        replace o3 := hide o3
        clear b3 KD
        by_cases he : er = 0
        · subst he
          by_cases hn : n = id
          · have hS := hide (sY.out (by trivial) hn)
            subst hn
            go_wp2
            go_ret2
            rw [hS.out]
            exact ⟨_, rfl, o3.out.mono hb3.out, c3.out⟩
          · have hS := hide (sN.out (.inr hn))
            have hne : (n != id) = true := by simpa using hn
            replace hn := hide hn
            go_wp2
            go_ret2
            rw [hS.out]
            exact ⟨_, rfl, World.ownsRow_nil _ _ _ _, c3.out⟩
        · have hS := hide (sN.out (.inl he))
          have hee : (er != 0) = true := by simpa using he
          replace he := hide he
          go_wp2
          go_ret2
          rw [hS.out]
          exact ⟨_, rfl, World.ownsRow_nil _ _ _ _, c3.out⟩
  · have hS := hide (pgread_sect (d := d) (at' := at') (id := id) (by rw [← hE]; exact h0))
    have hbe : (E != 0) = true := by simpa using h0
    replace h0 := hide h0
    replace hE := hide hE
    go_wp2
    go_ret2
    rw [hS.out]
    exact ⟨_, by rw [← hE.out]; rfl, World.ownsRow_nil _ _ _ _, c1w.out⟩

end Go.Proofs.Ytliileemelcllaa
