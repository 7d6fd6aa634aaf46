/-
  Store of a superblock on a disk: the program's and the page's.
-/
import Derived.Test.YtpebgepjohlklaaSLoad
import Derived.Test.YtpebgepjohlklaaDPutP
import Derived.Test.YtpebgepjohlklaaDPutR
import Derived.Test.YtpebgepjohlklaaDCrashP
import Derived.Test.YtpebgepjohlklaaDFlushR
namespace Go.Proofs.Ytpebgepjohlklaa
open Go.RowKit
set_option linter.unusedVariables false

theorem sstore_disk {d : Dsk} {b : Blk} (h : sdisk d ≠ 0) : sstore d b = (([], []), sdisk d) := if_pos h
theorem sstore_enc {d : Dsk} {b : Blk} (h : sdisk d = 0) (h2 : (senc b).2 ≠ 0) : sstore d b = (([], []), (senc b).2) := by
  unfold sstore; rw [if_neg (fun k => k h), if_pos h2]
theorem sstore_put {d : Dsk} {b : Blk} (h : sdisk d = 0) (h2 : (senc b).2 = 0) (h3 : (dput d (b.1.tmod 2) (senc b).1).2 ≠ 0) : sstore d b = (([], []), (dput d (b.1.tmod 2) (senc b).1).2) := by
  unfold sstore; rw [if_neg (fun k => k h), if_neg (fun k => k h2), if_pos h3]
theorem sstore_yes {d : Dsk} {b : Blk} (h : sdisk d = 0) (h2 : (senc b).2 = 0) (h3 : (dput d (b.1.tmod 2) (senc b).1).2 = 0) : sstore d b = dflush (dput d (b.1.tmod 2) (senc b).1).1 := by
  unfold sstore; rw [if_neg (fun k => k h), if_neg (fun k => k h2), if_neg (fun k => k h3)]
theorem dput_len (d : Dsk) (k : Int) (x : List UInt8) : (dput d k x).1.2.length ≤ 4096 := by
  unfold dput
  split
  · simp
  · split
    · simp
    · split
      · simp
      · simp; omega

set_option maxRecDepth 100000 in
set_option maxHeartbeats 4000000 in
theorem pstore_any (w : World) (sv cv : Value) (d : Dsk) (b : Blk) (h1 : RdSec w sv d.1) (h2 : RdC w cv d.2) : Calls Try.prog 22 #[.agg #[sv, cv], .agg #[.int .i64 b.1, .int .i64 b.2.1, .int .i64 b.2.2.1, .int .i64 b.2.2.2.1, .int .i64 b.2.2.2.2]] w fun e w' => ∃ sv' cv', e = .returned (.tuple #[.agg #[sv', cv'], .int .i64 (sstore d b).2]) ∧ Own SStP w.heap.size w' [sv', cv'] (sstore d b).1 ∧ Below w.heap.size w w' := by
  have sD := hide (fun h => @sstore_disk d b h)
  have sE := hide (fun h h2 => @sstore_enc d b h h2)
  have sP := hide (fun h h2 h3 => @sstore_put d b h h2 h3)
  have sY := hide (fun h h2 h3 => @sstore_yes d b h h2 h3)
  have KE := fun u => pencode_any u b
  obtain ⟨x, er, hx⟩ : ∃ x er, senc b = (x, er) := ⟨_, _, rfl⟩
  rw [hx] at sE sP sY KE
  dsimp only at sE sP sY KE
  generalize hST : sstore d b = ST at *
  obtain ⟨n0, n1, n2, n3, n4⟩ := b
  dsimp only at sE sP sY KE ⊢
  obtain ⟨pd, gr, hpd⟩ : ∃ pd gr, dput d (n0.tmod 2) x = (pd, gr) := ⟨_, _, rfl⟩
  have hpl : Hid (pd.2.length ≤ 4096) := by have := dput_len d (n0.tmod 2) x; rw [hpd] at this; exact this
  rw [hpd] at sP sY
  dsimp only at sP sY
  replace KE := hide KE
  clear hx hST
  obtain ⟨a1, c1, rfl⟩ := h1.slice
  obtain ⟨a2, c2, rfl⟩ := h2.slice
  obtain ⟨V, hV, V0, bV, sV⟩ := box2N w (.slice a1 d.1.length c1) (.slice a2 d.2.length c2) 51
  obtain ⟨U, hU, U0, bU, sU⟩ := boxedN V #[.int .i64 n0, .int .i64 n1, .int .i64 n2, .int .i64 n3, .int .i64 n4] 28
  obtain ⟨X, hX, X0, bX, sX⟩ := box2N U (.slice none 0 0) (.slice none 0 0) 51
  have bVX := bU.trans (bX.mono bU.size)
  have V1 : X.heap[w.heap.size]? = _ := (bVX.block _ (by omega)).trans V0
  have U1 : X.heap[V.heap.size]? = _ := (bX.block _ (by omega)).trans U0
  rw [sV] at U1
  have hX0 : U.heap.size = w.heap.size + 1 + 1 := by omega
  rw [hX0] at X0
  have cX := bV.trans (bVX.mono bV.size)
  have H1 := hide (h1.to0 cX)
  have H2 := hide (h2.to0 cX)
  obtain ⟨A0, A1, _, _⟩ := row2_cells V1
  rw [hX, hU, hV] at A0 A1
  have KC := hide (checkDisk_any X _ _ d H1.out H2.out)
  obtain ⟨E, hE⟩ : ∃ E, E = sdisk d := ⟨_, rfl⟩
  rw [← hE] at KC
  go_enter Try.func22, Try.ntmps22
  go_wp2_with fail
  rw [← hV, ← hU, ← hX]
  clear A0 A1
  replace hX := hide hX
  replace hU := hide hU
  replace hV := hide hV
  refine KC.out.mono ?_
  rintro e w1 ⟨rfl, b1⟩
  clear KC V0 U0 bV bU bX bVX hX0
  by_cases h0 : E = 0
  · have hd : Hid (sdisk d = 0) := by show _ = _; rw [← hE]; exact h0
    subst h0
    replace hE := hide hE
    have V2 := (b1.block _ (lt_of_block V1)).trans V1
    have U2 := (b1.block _ (lt_of_block U1)).trans U1
    have X2 := (b1.block _ (lt_of_block X0)).trans X0
    have c2w := hide (cX.trans (b1.mono cX.size))
    obtain ⟨⟨m0, m1, m2, m3, m4⟩, _⟩ := cells5 U2
    replace H1 := hide (H1.out.to0 b1)
    replace H2 := hide (H2.out.to0 b1)
    clear b1 V1 U1 X0 cX
    go_wp2_with fail
    refine (KE.out w1).mono ?_
    rintro e w2 ⟨v2, rfl, o2, b2⟩
    clear KE m0 m1 m2 m3 m4
    have V3 := (b2.block _ (lt_of_block V2)).trans V2
    have U3 := (b2.block _ (lt_of_block U2)).trans U2
    have X3 := (b2.block _ (lt_of_block X2)).trans X2
    have c3w := hide (c2w.out.trans (b2.mono c2w.out.size))
    have KP := hide (dput_any w2 _ _ _ d (n0.tmod 2) x (H1.out.to0 b2) (H2.out.to0 b2) o2.rd)
    rw [hpd] at KP
    dsimp only at KP
    obtain ⟨s2, t2, hv2⟩ := o2.rd.slice
    subst hv2
    clear b2 V2 U2 X2 c2w H1 H2 o2 hpd
    by_cases he : er = 0
    · subst he
      obtain ⟨A0, A1, _, _⟩ := row2_cells V3
      obtain ⟨⟨m0, m1, m2, m3, m4⟩, _⟩ := cells5 U3
      replace X3 := hide X3
      clear V3 U3
      generalize x.length = xl at *
      go_wp2_with fail
      refine KP.out.mono ?_
      rintro e w3 ⟨ps, pc, rfl, o3, b3⟩
      clear KP A0 A1 m0 m1 m2 m3 m4
      obtain ⟨P1, P2⟩ := Own.fst (c := [ps]) (d := [pc]) o3 rfl
      obtain ⟨a3, c3, hps⟩ := P1.rdS.slice
      obtain ⟨a4, c4, hpc⟩ := P2.rdS.slice
      subst hps hpc
      obtain ⟨Y, hY, Y0, bY, sY'⟩ := box2N w3 (.slice a3 pd.1.length c3) (.slice a4 pd.2.length c4) 51
      have b3Y := b3.trans (bY.mono b3.size)
      have X4 := (b3Y.block _ (lt_of_block X3.out)).trans X3.out
      have c4w := hide (c3w.out.trans (b3Y.mono c3w.out.size))
      have KF := hide (dflush_any Y _ _ pd (P1.rdS.to0 bY) (P2.rdS.to0 bY))
      obtain ⟨g3, hg3⟩ : ∃ g, g = w3.heap.size := ⟨_, rfl⟩
      rw [← hg3] at Y0
      obtain ⟨B0, B1, _, _⟩ := row2_cells Y0
      clear P1 P2 o3 b3 bY b3Y X3 c3w Y0
      by_cases hg : gr = 0
      · have hS := hide (sY.out hd.out (by trivial) hg)
        subst hg
        obtain ⟨fd, fe, hfd⟩ : ∃ fd fe, dflush pd = (fd, fe) := ⟨_, _, rfl⟩
        rw [hfd] at KF hS
        dsimp only at KF
        clear hfd
        replace X4 := hide X4
        rw [hY] at B0 B1
        rw [hg3] at B0 B1
        go_wp2_with fail
        rw [← hY]
        clear B0 B1
        replace hY := hide hY
        replace hg3 := hide hg3
        refine KF.out.mono ?_
        rintro e w5 ⟨fs, fc, rfl, o5, b5⟩
        obtain ⟨P1, P2⟩ := Own.fst (c := [fs]) (d := [fc]) o5 rfl
        obtain ⟨a5, c5, hfs⟩ := P1.rdS.slice
        obtain ⟨a6, c6, hfc⟩ := P2.rdS.slice
        subst hfs hfc
        have X5 := (b5.block _ (lt_of_block X4.out)).trans X4.out
        have c5w := hide (c4w.out.trans (b5.mono c4w.out.size))
        have hXlt : w.heap.size + 1 + 1 < Y.heap.size := lt_of_block X4.out
        replace o5 := hide o5
        clear P1 P2 KF b5
        obtain ⟨r0, r1, f0, f1⟩ := row2_cells X5
        go_wp2
        refine ret_cellT rfl rfl (w.heap.size + 1 + 1) rfl _ _ _ _ (heap_set2 (u := w5) X5 _ _) _ Try.underlying51 rfl info_stP _ rfl ?_
        rw [hS.out]
        refine ⟨_, _, rfl, ?_, below_set2 c5w.out (by omega) _ _⟩
        exact ((o5.out.set (a := ⟨w.heap.size + 1 + 1, 0, none⟩) hXlt _).set (a := ⟨w.heap.size + 1 + 1, 1, none⟩) hXlt _).mono c4w.out.size
      · have hS := hide (sP.out hd.out (by trivial) hg)
        have hge : (gr != 0) = true := by simpa using hg
        replace hg := hide hg
        clear KF
        go_upto_region 8 with fail
        rw [← hY]
        clear B0 B1
        replace hY := hide hY
        replace hg3 := hide hg3
        obtain ⟨r0, r1, f0, f1⟩ := row2_cells X4
        go_wp2
        refine ret_cellT rfl rfl (w.heap.size + 1 + 1) rfl _ _ _ _ (heap_set2 (u := Y) X4 _ _) _ Try.underlying51 rfl info_stP _ rfl ?_
        rw [hS.out]
        exact ⟨_, _, rfl, own_none _ _ _, below_set2 c4w.out (by omega) _ _⟩
    · have hS := hide (sE.out hd.out he)
      have hee : (er != 0) = true := by simpa using he
      replace he := hide he
      clear KP V3 U3
      obtain ⟨r0, r1, f0, f1⟩ := row2_cells X3
      go_wp2
      refine ret_cellT rfl rfl (w.heap.size + 1 + 1) rfl _ _ _ _ (heap_set2 (u := w2) X3 _ _) _ Try.underlying51 rfl info_stP _ rfl ?_
      rw [hS.out]
      exact ⟨_, _, rfl, own_none _ _ _, below_set2 c3w.out (by omega) _ _⟩
  · have hS := hide (sD.out (by rw [← hE]; exact h0))
    have hbe : (E != 0) = true := by simpa using h0
    replace h0 := hide h0
    replace hE := hide hE
    have X2 := (b1.block _ (lt_of_block X0)).trans X0
    have c2w := hide (cX.trans (b1.mono cX.size))
    clear X0 V1 U1 cX b1
    obtain ⟨r0, r1, f0, f1⟩ := row2_cells X2
    go_wp2
    refine ret_cellT rfl rfl (w.heap.size + 1 + 1) rfl _ _ _ _ (heap_set2 (u := w1) X2 _ _) _ Try.underlying51 rfl info_stP _ rfl ?_
    rw [hS.out]
    exact ⟨_, _, by rw [← hE.out]; rfl, own_none _ _ _, below_set2 c2w.out (by omega) _ _⟩

set_option maxRecDepth 100000 in
set_option maxHeartbeats 4000000 in
theorem rstore_any (w : World) (sv cv : Value) (d : Dsk) (b : Blk) (h1 : RdSec w sv d.1) (h2 : RdC w cv d.2) : Calls Try.prog 23 #[.agg #[sv, cv], .agg #[.int .i64 b.1, .int .i64 b.2.1, .int .i64 b.2.2.1, .int .i64 b.2.2.2.1, .int .i64 b.2.2.2.2]] w fun e w' => ∃ sv' cv', e = .returned (.tuple #[.agg #[sv', cv'], .int .i64 (sstore d b).2]) ∧ Own SStR w.heap.size w' [sv', cv'] (sstore d b).1 ∧ Below w.heap.size w w' := by
  have sD := hide (fun h => @sstore_disk d b h)
  have sE := hide (fun h h2 => @sstore_enc d b h h2)
  have sP := hide (fun h h2 h3 => @sstore_put d b h h2 h3)
  have sY := hide (fun h h2 h3 => @sstore_yes d b h h2 h3)
  have KE := fun u => rencode_any u b
  obtain ⟨x, er, hx⟩ : ∃ x er, senc b = (x, er) := ⟨_, _, rfl⟩
  rw [hx] at sE sP sY KE
  dsimp only at sE sP sY KE
  generalize hST : sstore d b = ST at *
  obtain ⟨n0, n1, n2, n3, n4⟩ := b
  dsimp only at sE sP sY KE ⊢
  obtain ⟨pd, gr, hpd⟩ : ∃ pd gr, dput d (n0.tmod 2) x = (pd, gr) := ⟨_, _, rfl⟩
  have hpl : Hid (pd.2.length ≤ 4096) := by have := dput_len d (n0.tmod 2) x; rw [hpd] at this; exact this
  rw [hpd] at sP sY
  dsimp only at sP sY
  replace KE := hide KE
  clear hx hST
  obtain ⟨a1, c1, rfl⟩ := h1.slice
  obtain ⟨a2, c2, rfl⟩ := h2.slice
  obtain ⟨V, hV, V0, bV, sV⟩ := box2N w (.slice a1 d.1.length c1) (.slice a2 d.2.length c2) 48
  obtain ⟨U, hU, U0, bU, sU⟩ := boxedN V #[.int .i64 n0, .int .i64 n1, .int .i64 n2, .int .i64 n3, .int .i64 n4] 23
  obtain ⟨X, hX, X0, bX, sX⟩ := box2N U (.slice none 0 0) (.slice none 0 0) 48
  have bVX := bU.trans (bX.mono bU.size)
  have V1 : X.heap[w.heap.size]? = _ := (bVX.block _ (by omega)).trans V0
  have U1 : X.heap[V.heap.size]? = _ := (bX.block _ (by omega)).trans U0
  rw [sV] at U1
  have hX0 : U.heap.size = w.heap.size + 1 + 1 := by omega
  rw [hX0] at X0
  have cX := bV.trans (bVX.mono bV.size)
  have H1 := hide (h1.to0 cX)
  have H2 := hide (h2.to0 cX)
  obtain ⟨A0, A1, _, _⟩ := row2_cells V1
  rw [hX, hU, hV] at A0 A1
  have KC := hide (rcheck_any X _ _ d H1.out H2.out)
  go_enter Try.func23, Try.ntmps23
  go_wp2_with fail
  rw [← hV, ← hU, ← hX]
  clear A0 A1
  replace hX := hide hX
  replace hU := hide hU
  replace hV := hide hV
  by_cases hok : DOk d
  · rw [dcheck_ok hok] at KC
    refine KC.out.mono ?_
    rintro e w1 ⟨rfl, b1⟩
    clear KC V0 U0 bV bU bX bVX hX0
    have VA := (b1.block _ (lt_of_block V1)).trans V1
    obtain ⟨A0, A1, _, _⟩ := row2_cells VA
    clear VA
    by_cases hl : d.1.length < 2
    · have hS := hide (sD.out (by rw [sdisk_41 hok hl]; decide))
      rw [sdisk_41 hok hl] at hS
      have hq : (d.1.length : Int) < 2 := by omega
      replace hok := hide hok
      replace hl := hide hl
      have X2 := (b1.block _ (lt_of_block X0)).trans X0
      have c2w := hide (cX.trans (b1.mono cX.size))
      clear X0 V1 U1 cX b1
      obtain ⟨r0, r1, f0, f1⟩ := row2_cells X2
      go_wp2
      refine ret_cellT rfl rfl (w.heap.size + 1 + 1) rfl _ _ _ _ (heap_set2 (u := w1) X2 _ _) _ Try.underlying48 rfl info_stR _ rfl ?_
      rw [hS.out]
      exact ⟨_, _, rfl, own_none _ _ _, below_set2 c2w.out (by omega) _ _⟩
    · have hd := hide (sdisk_0 hok hl)
      have hq : ¬ (d.1.length : Int) < 2 := by omega
      replace hok := hide hok
      replace hl := hide hl
      have V2 := (b1.block _ (lt_of_block V1)).trans V1
      have U2 := (b1.block _ (lt_of_block U1)).trans U1
      have X2 := (b1.block _ (lt_of_block X0)).trans X0
      have c2w := hide (cX.trans (b1.mono cX.size))
      obtain ⟨⟨m0, m1, m2, m3, m4⟩, _⟩ := cells5 U2
      replace H1 := hide (H1.out.to0 b1)
      replace H2 := hide (H2.out.to0 b1)
      clear b1 V1 U1 X0 cX
      go_wp2_with fail
      refine (KE.out w1).mono ?_
      rintro e w2 ⟨v2, rfl, o2, b2⟩
      clear KE m0 m1 m2 m3 m4
      have V3 := (b2.block _ (lt_of_block V2)).trans V2
      have U3 := (b2.block _ (lt_of_block U2)).trans U2
      have X3 := (b2.block _ (lt_of_block X2)).trans X2
      have c3w := hide (c2w.out.trans (b2.mono c2w.out.size))
      have KP := hide (rput_any w2 _ _ _ d (n0.tmod 2) x (H1.out.to0 b2) (H2.out.to0 b2) o2.rd)
      rw [hpd] at KP
      dsimp only at KP
      obtain ⟨s2, t2, hv2⟩ := o2.rd.slice
      subst hv2
      clear b2 V2 U2 X2 c2w H1 H2 o2 hpd
      by_cases he : er = 0
      · subst he
        obtain ⟨A0, A1, _, _⟩ := row2_cells V3
        obtain ⟨⟨m0, m1, m2, m3, m4⟩, _⟩ := cells5 U3
        replace X3 := hide X3
        clear V3 U3
        generalize x.length = xl at *
        go_wp2_with fail
        refine KP.out.mono ?_
        rintro e w3 ⟨ps, pc, rfl, o3, b3⟩
        clear KP A0 A1 m0 m1 m2 m3 m4
        obtain ⟨P1, P2⟩ := Own.fst (c := [ps]) (d := [pc]) o3 rfl
        obtain ⟨a3, c3, hps⟩ := P1.rdS.slice
        obtain ⟨a4, c4, hpc⟩ := P2.rdS.slice
        subst hps hpc
        obtain ⟨Y, hY, Y0, bY, sY'⟩ := box2N w3 (.slice a3 pd.1.length c3) (.slice a4 pd.2.length c4) 48
        have b3Y := b3.trans (bY.mono b3.size)
        have X4 := (b3Y.block _ (lt_of_block X3.out)).trans X3.out
        have c4w := hide (c3w.out.trans (b3Y.mono c3w.out.size))
        have KF := hide (rflush_any Y _ _ pd (P1.rdS.to0 bY) (P2.rdS.to0 bY) (by have := hpl.out; omega))
        obtain ⟨g3, hg3⟩ : ∃ g, g = w3.heap.size := ⟨_, rfl⟩
        rw [← hg3] at Y0
        obtain ⟨B0, B1, _, _⟩ := row2_cells Y0
        clear P1 P2 o3 b3 bY b3Y X3 c3w Y0
        by_cases hg : gr = 0
        · have hS := hide (sY.out hd.out (by trivial) hg)
          subst hg
          obtain ⟨fd, fe, hfd⟩ : ∃ fd fe, dflush pd = (fd, fe) := ⟨_, _, rfl⟩
          rw [hfd] at KF hS
          dsimp only at KF
          clear hfd
          replace X4 := hide X4
          rw [hY] at B0 B1
          rw [hg3] at B0 B1
          go_wp2_with fail
          rw [← hY]
          clear B0 B1
          replace hY := hide hY
          replace hg3 := hide hg3
          refine KF.out.mono ?_
          rintro e w5 ⟨fs, fc, rfl, o5, b5⟩
          obtain ⟨P1, P2⟩ := Own.fst (c := [fs]) (d := [fc]) o5 rfl
          obtain ⟨a5, c5, hfs⟩ := P1.rdS.slice
          obtain ⟨a6, c6, hfc⟩ := P2.rdS.slice
          subst hfs hfc
          have X5 := (b5.block _ (lt_of_block X4.out)).trans X4.out
          have c5w := hide (c4w.out.trans (b5.mono c4w.out.size))
          have hXlt : w.heap.size + 1 + 1 < Y.heap.size := lt_of_block X4.out
          replace o5 := hide o5
          clear P1 P2 KF b5
          obtain ⟨r0, r1, f0, f1⟩ := row2_cells X5
          go_wp2
          refine ret_cellT rfl rfl (w.heap.size + 1 + 1) rfl _ _ _ _ (heap_set2 (u := w5) X5 _ _) _ Try.underlying48 rfl info_stR _ rfl ?_
          rw [hS.out]
          refine ⟨_, _, rfl, ?_, below_set2 c5w.out (by omega) _ _⟩
          exact ((o5.out.set (a := ⟨w.heap.size + 1 + 1, 0, none⟩) hXlt _).set (a := ⟨w.heap.size + 1 + 1, 1, none⟩) hXlt _).mono c4w.out.size
        · have hS := hide (sP.out hd.out (by trivial) hg)
          have hge : (gr != 0) = true := by simpa using hg
          replace hg := hide hg
          clear KF
          go_upto_region 10 with fail
          rw [← hY]
          clear B0 B1
          replace hY := hide hY
          replace hg3 := hide hg3
          obtain ⟨r0, r1, f0, f1⟩ := row2_cells X4
          go_wp2
          refine ret_cellT rfl rfl (w.heap.size + 1 + 1) rfl _ _ _ _ (heap_set2 (u := Y) X4 _ _) _ Try.underlying48 rfl info_stR _ rfl ?_
          rw [hS.out]
          exact ⟨_, _, rfl, own_none _ _ _, below_set2 c4w.out (by omega) _ _⟩
      · have hS := hide (sE.out hd.out he)
        have hee : (er != 0) = true := by simpa using he
        replace he := hide he
        clear KP V3 U3
        obtain ⟨r0, r1, f0, f1⟩ := row2_cells X3
        go_wp2
        refine ret_cellT rfl rfl (w.heap.size + 1 + 1) rfl _ _ _ _ (heap_set2 (u := w2) X3 _ _) _ Try.underlying48 rfl info_stR _ rfl ?_
        rw [hS.out]
        exact ⟨_, _, rfl, own_none _ _ _, below_set2 c3w.out (by omega) _ _⟩
  · rw [dcheck_no hok] at KC
    refine KC.out.mono ?_
    rintro e w1 ⟨rfl, b1⟩
    clear KC V0 U0 bV bU bX bVX hX0
    have hS := hide (sD.out (by rw [sdisk_9 hok]; decide))
    rw [sdisk_9 hok] at hS
    replace hok := hide hok
    have X2 := (b1.block _ (lt_of_block X0)).trans X0
    have c2w := hide (cX.trans (b1.mono cX.size))
    clear X0 V1 U1 cX b1
    obtain ⟨r0, r1, f0, f1⟩ := row2_cells X2
    go_wp2
    refine ret_cellT rfl rfl (w.heap.size + 1 + 1) rfl _ _ _ _ (heap_set2 (u := w1) X2 _ _) _ Try.underlying48 rfl info_stR _ rfl ?_
    rw [hS.out]
    exact ⟨_, _, rfl, own_none _ _ _, below_set2 c2w.out (by omega) _ _⟩

end Go.Proofs.Ytpebgepjohlklaa
