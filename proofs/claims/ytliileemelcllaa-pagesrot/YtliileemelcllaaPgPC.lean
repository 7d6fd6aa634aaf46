/-
  Pages, the program's: whether a page has a place (checkPlace), and Read.
-/
import Derived.Test.YtliileemelcllaaPgPB
import Derived.Test.YtliileemelcllaaPgDiskR
import Derived.Test.YtliileemelcllaaDGetP
import Derived.Test.YtliileemelcllaaDCheckP
namespace Go.Proofs.Ytliileemelcllaa
open Go.RowKit
set_option linter.unusedVariables false

set_option maxRecDepth 100000 in
set_option maxHeartbeats 1000000 in
theorem ppgsect_any (w : World) (sv cv : Value) (d : Dsk) (at' : Int) (h1 : RdSec w sv d.1) (h2 : RdC w cv d.2) :
    Calls Try.prog 41 #[.agg #[sv, cv], .int .i64 at'] w fun e w' => e = .returned (.int .i64 (pgsect d at')) ∧ Below w.heap.size w w' := by
  have lb := h1.bd
  obtain ⟨a1, c1, rfl⟩ := h1.slice
  obtain ⟨a2, c2, rfl⟩ := h2.slice
  obtain ⟨X, hX, X0, bX, sX⟩ := boxedN w #[.slice a1 d.1.length c1, .slice a2 d.2.length c2] 43
  obtain ⟨A0, A1, _, _⟩ := row2_cells X0
  have KC := hide (dcheck_any X _ _ d (h1.to0 bX) (h2.to0 bX))
  rw [hX] at A0 A1
  go_enter Try.func41, Try.ntmps41
  by_cases hok : DOk d
  · rw [dcheck_ok hok] at KC
    go_wp2_with fail
    rw [← hX]
    rw [← hX] at A0 A1
    replace hX := hide hX
    refine KC.out.mono ?_
    rintro e w1 ⟨rfl, b1⟩
    replace A0 := (b1.cell (cell_lt A0)).trans A0
    by_cases hl : at' < 0
    · have hE := hide (pgsect_41 hok (.inl hl))
      replace hok := hide hok
      go_wp2
      go_ret
      exact ⟨ret_int hE.out.symm, bX.trans (b1.mono bX.size)⟩
    · by_cases hl2 : (d.1.length : Int) - 4 < at'
      · have hE := hide (pgsect_41 hok (.inr hl2))
        replace hok := hide hok
        go_wp2
        go_ret
        exact ⟨ret_int hE.out.symm, bX.trans (b1.mono bX.size)⟩
      · have hE := hide (pgsect_0.2 ⟨hok, by omega, by omega⟩ : pgsect d at' = 0)
        replace hok := hide hok
        go_wp2
        go_ret
        exact ⟨ret_int hE.out.symm, bX.trans (b1.mono bX.size)⟩
  · rw [dcheck_no hok] at KC
    have hE := hide (pgsect_9 (at' := at') hok)
    replace hok := hide hok
    go_wp2_with fail
    rw [← hX]
    replace hX := hide hX
    refine KC.out.mono ?_
    rintro e w1 ⟨rfl, b1⟩
    go_wp2
    go_ret
    exact ⟨ret_int hE.out.symm, bX.trans (b1.mono bX.size)⟩

set_option maxRecDepth 100000 in
set_option maxHeartbeats 4000000 in
theorem ppgread_any (w : World) (sv cv : Value) (d : Dsk) (at' id : Int) (h1 : RdSec w sv d.1) (h2 : RdC w cv d.2) :
    Calls Try.prog 20 #[.agg #[sv, cv], .int .i64 at', .int .i64 id] w fun e w' => ∃ v', e = .returned (.tuple #[v', .int .i64 (pgread d at' id).2]) ∧ OwnB w.heap.size w' v' (pgread d at' id).1 ∧ Below w.heap.size w w' := by
  obtain ⟨a1, c1, rfl⟩ := h1.slice
  obtain ⟨a2, c2, rfl⟩ := h2.slice
  obtain ⟨X, hX, X0, bX, sX⟩ := boxedN w #[.slice a1 d.1.length c1, .slice a2 d.2.length c2] 43
  have H1 := hide (h1.to0 bX)
  have H2 := hide (h2.to0 bX)
  have KC := hide (ppgsect_any X _ _ d at' H1.out H2.out)
  obtain ⟨E, hE⟩ : ∃ E, E = pgsect d at' := ⟨_, rfl⟩
  rw [← hE] at KC
  obtain ⟨A0, A1, _, _⟩ := row2_cells X0
  rw [hX] at A0 A1
  go_enter Try.func20, Try.ntmps20
  go_wp2_with fail
  rw [← hX]
  clear A0 A1
  replace hX := hide hX
  refine KC.out.mono ?_
  rintro e w1 ⟨rfl, b1⟩
  clear KC h1 h2
  have X1 := hide ((b1.block _ (lt_of_block X0)).trans X0)
  have c1w := hide (bX.trans (b1.mono bX.size))
  replace H1 := hide (H1.out.to0 b1)
  replace H2 := hide (H2.out.to0 b1)
  have hlt : w.heap.size < w1.heap.size := lt_of_block X1.out
  clear X0 bX b1
  by_cases h0 : E = 0
  · have hsec : Hid (pgsect d at' = 0) := by show _ = _; rw [← hE]; exact h0
    subst h0
    replace hE := hide hE
    obtain ⟨hok, hp0, hp1⟩ := pgsect_0.1 hsec.out
    have hsl := hok.2.1
    have hgl := hide (pgot_len hok hp0 hp1)
    have hdl := hide (fun k p q => @dget_len d k hok p q)
    have hok' := hide hok
    clear hok
    go_wp2
    go_loopw [9, 22] (fun v i wr => ∃ K : Nat, K ≤ 4 ∧ i = .int .i64 K ∧ Hid (OwnB w1.heap.size wr v (pgot d at' K) ∧ Below w1.heap.size w1 wr)) (fun _ i _ => 4 - (intOf i).toNat)
    case atStart => exact ⟨0, by omega, rfl, hide ⟨World.ownsRow_nil _ _ _ _, Below.refl _ _⟩⟩
    case round =>
      obtain ⟨K, hK, rfl, hI⟩ := hrel
      by_cases hlk : K < 4
      · have hqk : (K : Int) < 4 := by omega
        obtain ⟨A0, A1, _, _⟩ := row2_cells ((hI.out.2.block _ hlt).trans X1.out)
        have KG := hide (dget_any wr _ _ d (at' + K) (H1.out.to0 hI.out.2) (H2.out.to0 hI.out.2))
        have hl64 := hide (hdl.out (at' + K) (by omega) (by omega))
        have hnx : Hid (pgot d at' (K + 1) = pgot d at' K ++ (dget d (at' + K)).1) := rfl
        obtain ⟨g, ge, hg⟩ : ∃ g ge, dget d (at' + K) = (g, ge) := ⟨_, _, rfl⟩
        rw [hg] at KG hl64 hnx
        dsimp only at KG hl64 hnx
        clear hg
        obtain ⟨Y, hY⟩ : ∃ Y, Y = pgot d at' K := ⟨_, rfl⟩
        have hYl : Hid (Y.length = 64 * K) := by show _ = _; rw [hY]; exact hgl.out K (by omega)
        rw [← hY] at hnx hI
        replace hY := hide hY
        obtain ⟨s9, t9, h9⟩ := hI.out.1.rd.slice
        subst h9
        go_wp2_with fail
        refine KG.out.mono ?_
        rintro e w3 ⟨v3, rfl, o3, b3⟩
        clear KG A0 A1
        have oA := hI.out.1.below (Nat.le_refl _) b3
        have bA := hide (hI.out.2.trans (b3.mono hI.out.2.size))
        have r3 := o3.rd
        obtain ⟨s3, t3, h3⟩ := r3.slice
        subst h3
        have hl : Y.length + g.length ≤ 140737488355328 := by rw [hYl.out, hl64.out]; omega
        have hsz := bA.out.size
        clear o3 b3 hI
        go_wp2_with (at_builtin; refine wpList_append_octs rfl _ _ rfl w1.heap.size _ _ Y g rfl rfl oA r3 hl hsz ?_; intro v6 w6 o6 b6 _)
        go_roundw
        case rel => exact ⟨K + 1, by omega, by go_num, hide ⟨by rw [hnx.out]; exact o6, bA.out.trans b6⟩⟩
        case measure => simp [intOf]; omega
      · have hqk : ¬ (K : Int) < 4 := by omega
        obtain rfl : K = 4 := by omega
        have oH := hI.out.1
        have bH := hide hI.out.2
        have KD := hide (pgdecP_any wr _ _ oH.rd)
        have sN := hide (fun h => @pgread_no d at' id hsec.out h)
        have sY := hide (fun h h2 => @pgread_0 d at' id hsec.out h h2)
        obtain ⟨Y, hY⟩ : ∃ Y, Y = pgot d at' 4 := ⟨_, rfl⟩
        rw [← hY] at KD sN sY oH
        obtain ⟨n, x, er, hD⟩ : ∃ n x er, pgdec Y = (n, x, er) := ⟨_, _, _, rfl⟩
        rw [hD] at KD sN sY
        dsimp only at KD sN sY
        obtain ⟨s9, t9, h9⟩ := oH.rd.slice
        subst h9
        clear hD hY hI oH
        go_wp2_with fail
        refine KD.out.mono ?_
        rintro e w3 ⟨v3, rfl, o3, b3⟩
        have c3 := hide (c1w.out.trans (((bH.out).trans (b3.mono bH.out.size)).mono c1w.out.size))
        obtain ⟨s3, t3, h3⟩ := o3.rd.slice
        subst h3
        have hb3 : Hid (w.heap.size ≤ wr.heap.size) := Nat.le_trans c1w.out.size bH.out.size
        replace o3 := hide o3
        clear b3 KD
        by_cases he : er = 0
        · subst he
          by_cases hn : n = id
          · have hS := hide (sY.out (by trivial) hn)
            subst hn
            go_wp2
            go_ret2
            rw [hS.out]
            exact ⟨_, rfl, o3.out.mono hb3.out, c3.out⟩
          · have hS := hide (sN.out (.inr hn))
            have hne : (n != id) = true := by simpa using hn
            replace hn := hide hn
            go_wp2
            go_ret2
            rw [hS.out]
            exact ⟨_, rfl, World.ownsRow_nil _ _ _ _, c3.out⟩
        · have hS := hide (sN.out (.inl he))
          have hee : (er != 0) = true := by simpa using he
          replace he := hide he
          go_wp2
          go_ret2
          rw [hS.out]
          exact ⟨_, rfl, World.ownsRow_nil _ _ _ _, c3.out⟩
  · have hS := hide (pgread_sect (d := d) (at' := at') (id := id) (by rw [← hE]; exact h0))
    have hbe : (E != 0) = true := by simpa using h0
    replace h0 := hide h0
    replace hE := hide hE
    go_wp2
    go_ret2
    rw [hS.out]
    exact ⟨_, by rw [← hE.out]; rfl, World.ownsRow_nil _ _ _ _, c1w.out⟩

end Go.Proofs.Ytliileemelcllaa
