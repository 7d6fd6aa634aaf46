/-
  PROVED: whatever number, octets, place and bits come in, transeptlaw07.PagesRot returns true and leaves them as they were: the statement of P7.5 (one octet of a page that rots: it is not read).
-/
import Derived.Deep.CutRange
import Derived.Test.YtliileemelcllaaPgSay
import Derived.Test.YtliileemelcllaaPgRMath
import Derived.Test.YtliileemelcllaaDCrashP
import Derived.Test.YtliileemelcllaaDRot
import Derived.Test.YtliileemelcllaaFr
import Derived.Test.YtliileemelcllaaPgProg
namespace Go.Proofs.Ytliileemelcllaa.pagesRot
open Go.ChangeShapes Go.WideShapes Go.ChangeAt Go.RowKit
set_option linter.unusedVariables false

theorem dnew4 : dnew 4 = ((z64s 4, []), 0) := dnew_yes (n := 4) (by decide) (by decide)
theorem u8_of {a : Int} (h : (Lit.int .u8 a).wf = true) : ∃ c : UInt8, a = (c.toNat : Int) := by
  have : 0 ≤ a ∧ a ≤ 255 := by simpa [Lit.wf, IntKind.min, IntKind.max, IntKind.signed, IntKind.bits] using h
  exact ⟨UInt8.ofNat a.toNat, by rw [UInt8.toNat_ofNat_of_lt' (by show a.toNat < 256; omega)]; omega⟩
set_option maxRecDepth 100000 in
set_option linter.unusedSimpArgs false in
set_option maxHeartbeats 8000000 in
theorem walkS (S : PagesSay) (w : World) (a0 : Int) (w0' : (Lit.int .i64 a0).wf = true) (a1 : Option Addr) (len1 cap1 : Nat) (x1 : List UInt8) (e1 : x1.length = len1) (g1 : Rd w (.slice a1 len1 cap1) x1) (m1 : len1 ≤ 140737488351232) (a2 : Int) (w2' : (Lit.int .i64 a2).wf = true) (a3 : Int) (w3' : (Lit.int .u8 a3).wf = true) :
    Calls Try.prog 7 #[.int .i64 a0, .slice a1 len1 cap1, .int .i64 a2, .int .u8 a3] w fun e w' => e = .returned (.bool true) ∧ Below w.heap.size w w' := by
  have hid : -9223372036854775808 ≤ a0 ∧ a0 ≤ 9223372036854775807 := by simpa [Lit.wf, IntKind.min, IntKind.max, IntKind.signed, IntKind.bits] using w0'
  have hia : -9223372036854775808 ≤ a2 ∧ a2 ≤ 9223372036854775807 := by simpa [Lit.wf, IntKind.min, IntKind.max, IntKind.signed, IntKind.bits] using w2'
  obtain ⟨c, rfl⟩ := u8_of w3'
  clear w0' w2' w3'
  subst e1
  have ht0 : 0 ≤ a2.tmod 256 % 256 := Int.emod_nonneg _ (by decide)
  have ht1 : a2.tmod 256 % 256 < 256 := Int.emod_lt_of_pos _ (by decide)
  have hs1 : -256 < a2.tmod 256 := Int.lt_tmod_of_pos a2 (by decide)
  have hs2 : a2.tmod 256 < 256 := Int.tmod_lt_of_pos a2 (by decide)
  have ok4 := hide (dok_new (n := 4) (by decide) (by decide))
  have hwr := hide (fun h => @pgwrite_yes (z64s 4, []) 0 a0 x1 ok4.out (by decide) (by rw [z64s_len]; decide) h (by decide))
  have hen := hide (fun h => @pgwrite_enc (z64s 4, []) 0 a0 x1 (pgsect_0.2 ⟨ok4.out, by decide, by rw [z64s_len]; decide⟩) h)
  have hz := hide (@pgenc_zero a0 x1)
  obtain ⟨er, he⟩ : ∃ er, (pgenc a0 x1).2 = er := ⟨_, rfl⟩
  obtain ⟨td, tr, hT⟩ : ∃ td tr, pgwrite (z64s 4, []) 0 a0 x1 = (td, tr) := ⟨_, _, rfl⟩
  rw [hT] at hwr hen
  rw [he] at hwr hen hz
  have htr : tr = er := by
    by_cases h0 : er = 0
    · have := hwr.out h0; rw [Prod.mk.injEq] at this; rw [this.2, h0]
    · have := hen.out h0; rw [Prod.mk.injEq] at this; exact this.2
  subst htr
  replace hT := hide hT
  have CC := hide (Below.refl w.heap.size w)
  have G1 := hide g1
  go_enter Try.func7, Try.ntmps7
  go_wp2_with fail
  refine (pgalive_any S w).mono ?_
  rintro e w1 ⟨rfl, b⟩
  replace CC := hide (CC.out.trans (b.mono CC.out.size))
  clear b
  have KN := hide (dnew_any w1 4)
  rw [dnew4] at KN
  dsimp only at KN
  go_wp2_with fail
  refine KN.out.mono ?_
  rintro e w2 ⟨ds, dc, rfl, o, b⟩
  clear KN
  replace CC := hide (CC.out.trans (b.mono CC.out.size))
  clear b
  obtain ⟨P1, P2⟩ := Own.fst (c := [ds]) (d := [dc]) o rfl
  obtain ⟨da, dx, hs⟩ := P1.rdS.slice
  obtain ⟨db, dy, hc⟩ := P2.rdS.slice
  rw [z64s_len] at hs
  replace hc : dc = .slice db 0 dy := hc
  subst hs hc
  have d1 := hide P1.rdS
  have d2 := hide P2.rdS
  clear P1 P2 o
  have hw2le := hide CC.out.size
  obtain ⟨Y1, hY1, HD, bY1, _⟩ := boxedN w2 #[.slice da 4 dx, .slice db 0 dy] 43
  obtain ⟨gD, hgD⟩ : ∃ g, g = w2.heap.size := ⟨_, rfl⟩
  rw [← hgD] at HD
  replace HD := hide HD
  replace d1 := hide (d1.out.to0 bY1)
  replace d2 := hide (d2.out.to0 bY1)
  replace CC := hide (CC.out.trans (bY1.mono CC.out.size))
  clear bY1
  have hleD0 : w.heap.size ≤ gD := by rw [hgD]; exact hw2le.out
  have K := hide (S.writeS Y1 _ _ _ (z64s 4, []) 0 a0 x1 d1.out d2.out (G1.out.to CC.out) (by decide) hid m1)
  rw [hT.out] at K
  dsimp only at K
  obtain ⟨d_0, d_1, _, _⟩ := row2_cells HD.out
  rw [hY1] at d_0 d_1
  rw [hgD] at d_0 d_1
  go_wp2_with fail
  clear d_0 d_1
  rw [← hY1, ← hgD]
  replace hY1 := hide hY1
  replace hgD := hide hgD
  refine K.out.mono ?_
  rintro e w3 ⟨es, ec, rfl, o, b⟩
  clear K
  have hltD : gD < Y1.heap.size := lt_of_block HD.out
  have hleD : w.heap.size ≤ gD := hleD0
  replace HD := hide ((b.block _ (lt_of_block HD.out)).trans HD.out)
  replace d1 := hide (d1.out.to0 b)
  replace d2 := hide (d2.out.to0 b)
  replace CC := hide (CC.out.trans (b.mono CC.out.size))
  clear b
  obtain ⟨P1, P2⟩ := Own.fst (c := [es]) (d := [ec]) o rfl
  obtain ⟨ea, ex, hs⟩ := P1.rdS.slice
  obtain ⟨eb, ey, hc⟩ := P2.rdS.slice
  subst hs hc
  clear P1 P2
  replace o := hide o
  obtain ⟨z0, z1, z2, z3⟩ := row2_cells HD.out
  obtain ⟨U1, hU1⟩ : ∃ U, U = (w3.setCell ⟨gD, 0, none⟩ (.slice ea td.1.length ex)).setCell ⟨gD, 1, none⟩ (.slice eb td.2.length ey) := ⟨_, rfl⟩
  have HDn : Hid (U1.heap[gD]? = some (.cells #[.slice ea td.1.length ex, .slice eb td.2.length ey] 43 (0, 0))) := by
    show _ = _
    rw [hU1]; exact heap_set2 HD.out _ _
  replace o : Hid (Own SStP Y1.heap.size U1 [.slice ea td.1.length ex, .slice eb td.2.length ey] td) := by
    show Own _ _ _ _ _
    rw [hU1]; exact (o.out.set (a := ⟨gD, 0, none⟩) hltD _).set (a := ⟨gD, 1, none⟩) hltD _
  have CCn : Hid (Below w.heap.size w U1) := by
    show Below _ _ _
    rw [hU1]; exact below_set2 CC.out hleD _ _
  go_upto_region 5 with fail
  rw [← hU1]
  replace hU1 := hide hU1
  clear z0 z1 z2 z3 HD CC
  have HD := HDn
  have CC := CCn
  clear HDn CCn
  clear d1 d2
  go_wp2_with fail
  refine (num7_any _ _).mono ?_
  rintro e w' ⟨rfl, rfl⟩
  by_cases h0 : tr = 0
  ·
    by_cases hc0 : c = 0
    ·
      subst hc0
      subst h0
      have hz8 : ((UInt8.toNat 0 : Nat) : Int) = 0 := rfl
      go_wp2_with fail
      refine (num7_any _ _).mono ?_
      rintro e w' ⟨rfl, rfl⟩
      go_wp2_with fail
      refine (num7_any _ _).mono ?_
      rintro e w' ⟨rfl, rfl⟩
      go_wp2
      go_ret
      exact ⟨rfl, CC.out⟩
    ·
      obtain ⟨⟨i0, i1⟩, hlen, _⟩ := hz.out h0
      have htd := hide (hwr.out h0)
      obtain ⟨B, hB⟩ : ∃ B, B = pgencO a0.toNat x1 := ⟨_, rfl⟩
      have hBl : B.length = 256 := by rw [hB]; exact pgenc_len _ hlen
      have htd2 : td = ([List.replicate 64 0, List.replicate 64 0, List.replicate 64 0, List.replicate 64 0], pws 0 B 4) := by
        have := htd.out
        rw [Prod.mk.injEq] at this
        rw [this.1, hB]; rfl
      have hF : Hid (dflush td = (([psec B 0, psec B 1, psec B 2, psec B 3], []), 0)) := by
        show _ = _
        rw [htd2]; exact flush4 (by simp) (by simp) (by simp) (by simp) hBl
      obtain ⟨p, hp⟩ : ∃ p : Nat, a2.tmod 256 % 256 = (p : Int) := ⟨(a2.tmod 256 % 256).toNat, by omega⟩
      have hpl : p < 256 := by omega
      obtain ⟨t0, t1, t2, t3, hR, q0, q1, q2, q3, hfx⟩ := rot4 hBl hpl c
      have hRd := hide (pgread_rot hlen hB hpl hc0 a0 q0 q1 q2 q3 hfx)
      have hcb : ((c.toNat : Int) == 0) = false := by have := c_ne hc0; simp only [beq_eq_false_iff_ne]; omega
      obtain ⟨kz, hkz⟩ : ∃ kz, kz = p / 64 := ⟨_, rfl⟩
      obtain ⟨jz, hjz⟩ : ∃ jz, jz = p % 64 := ⟨_, rfl⟩
      rw [← hkz, ← hjz] at hR
      have j2 : (p : Int) / 64 = (kz : Int) := by omega
      have j3 : (p : Int) % 64 = (jz : Int) := by omega
      obtain ⟨fd, hfd⟩ : ∃ fd : Dsk, fd = ([psec B 0, psec B 1, psec B 2, psec B 3], []) := ⟨_, rfl⟩
      obtain ⟨rd', hrd'⟩ : ∃ rd' : Dsk, rd' = ([t0, t1, t2, t3], []) := ⟨_, rfl⟩
      rw [← hfd] at hF hR
      rw [← hrd'] at hR hRd
      replace hR := hide hR
      have hpb : (p : Int) ≤ 255 := by omega
      replace hpl := hide hpl
      clear htd htd2 hfd hrd' hfx q0 q1 q2 q3 hBl hB hkz hjz i0 i1 hlen ht0 ht1
      subst h0
      replace hc0 := hide hc0
      go_wp2_with fail
      refine (num7_any _ _).mono ?_
      rintro e w' ⟨rfl, rfl⟩
      obtain ⟨P1, P2⟩ := Own.fst (c := [.slice ea td.1.length ex]) (d := [.slice eb td.2.length ey]) o.out rfl
      have K := hide (dflush_any U1 _ _ td P1.rdS P2.rdS)
      rw [hF.out] at K
      dsimp only at K
      obtain ⟨d_0, d_1, _, _⟩ := row2_cells HD.out
      go_wp2_with fail
      clear d_0 d_1
      refine K.out.mono ?_
      rintro e w4 ⟨fs, fc, rfl, o, b⟩
      clear K
      have hltD : gD < U1.heap.size := lt_of_block HD.out
      have hleD : w.heap.size ≤ gD := hleD0
      replace HD := hide ((b.block _ (lt_of_block HD.out)).trans HD.out)
      replace CC := hide (CC.out.trans (b.mono CC.out.size))
      clear b
      obtain ⟨P1, P2⟩ := Own.fst (c := [fs]) (d := [fc]) o rfl
      obtain ⟨fa, fx, hs⟩ := P1.rdS.slice
      obtain ⟨fb, fy, hc⟩ := P2.rdS.slice
      subst hs hc
      clear P1 P2
      replace o := hide o
      obtain ⟨z0, z1, z2, z3⟩ := row2_cells HD.out
      obtain ⟨U2, hU2⟩ : ∃ U, U = (w4.setCell ⟨gD, 0, none⟩ (.slice fa fd.1.length fx)).setCell ⟨gD, 1, none⟩ (.slice fb fd.2.length fy) := ⟨_, rfl⟩
      have HDn : Hid (U2.heap[gD]? = some (.cells #[.slice fa fd.1.length fx, .slice fb fd.2.length fy] 43 (0, 0))) := by
        show _ = _
        rw [hU2]; exact heap_set2 HD.out _ _
      replace o : Hid (Own SStP U1.heap.size U2 [.slice fa fd.1.length fx, .slice fb fd.2.length fy] fd) := by
        show Own _ _ _ _ _
        rw [hU2]; exact (o.out.set (a := ⟨gD, 0, none⟩) hltD _).set (a := ⟨gD, 1, none⟩) hltD _
      have CCn : Hid (Below w.heap.size w U2) := by
        show Below _ _ _
        rw [hU2]; exact below_set2 CC.out hleD _ _
      go_upto_region 9 with fail
      rw [← hU2]
      replace hU2 := hide hU2
      clear z0 z1 z2 z3 HD CC
      have HD := HDn
      have CC := CCn
      clear HDn CCn
      simp only [Int.add_emod_right, hp]
      obtain ⟨P1, P2⟩ := Own.fst (c := [.slice fa fd.1.length fx]) (d := [.slice fb fd.2.length fy]) o.out rfl
      have K := hide (drot_any U2 _ _ fd (kz : Int) (jz : Int) c P1.rdS P2.rdS)
      rw [hR.out] at K
      dsimp only at K
      clear P1 P2
      obtain ⟨d_0, d_1, _, _⟩ := row2_cells HD.out
      go_wp2_with fail
      clear d_0 d_1
      refine K.out.mono ?_
      rintro e w5 ⟨ys, yc, rfl, o, b⟩
      clear K
      replace HD := hide ((b.block _ (lt_of_block HD.out)).trans HD.out)
      replace CC := hide (CC.out.trans (b.mono CC.out.size))
      clear b
      obtain ⟨P1, P2⟩ := Own.fst (c := [ys]) (d := [yc]) o rfl
      obtain ⟨ya, yx, hs⟩ := P1.rdS.slice
      obtain ⟨yb, yy, hc⟩ := P2.rdS.slice
      subst hs hc
      clear P1 P2
      replace o := hide o
      obtain ⟨P1, P2⟩ := Own.fst (c := [.slice ya rd'.1.length yx]) (d := [.slice yb rd'.2.length yy]) o.out rfl
      have y1 := hide P1.rdS
      have y2 := hide P2.rdS
      clear P1 P2 o
      obtain ⟨Y2, hY2, HT, bY2, _⟩ := boxedN w5 #[.slice ya rd'.1.length yx, .slice yb rd'.2.length yy] 43
      obtain ⟨gT, hgT⟩ : ∃ g, g = w5.heap.size := ⟨_, rfl⟩
      rw [← hgT] at HT
      replace HT := hide HT
      replace HD := hide ((bY2.block _ (lt_of_block HD.out)).trans HD.out)
      replace y1 := hide (y1.out.to0 bY2)
      replace y2 := hide (y2.out.to0 bY2)
      replace CC := hide (CC.out.trans (bY2.mono CC.out.size))
      clear bY2
      have K := hide (S.readS Y2 _ _ rd' 0 a0 y1.out y2.out (by decide) hid)
      rw [hRd.out] at K
      dsimp only at K
      obtain ⟨t_0, t_1, _, _⟩ := row2_cells HT.out
      rw [hY2] at t_0 t_1
      rw [hgT] at t_0 t_1
      go_wp2_with fail
      clear t_0 t_1
      rw [← hY2, ← hgT]
      replace hY2 := hide hY2
      replace hgT := hide hgT
      refine K.out.mono ?_
      rintro e w6 ⟨v, rfl, o, b⟩
      clear K
      replace HD := hide ((b.block _ (lt_of_block HD.out)).trans HD.out)
      replace HT := hide ((b.block _ (lt_of_block HT.out)).trans HT.out)
      replace y1 := hide (y1.out.to0 b)
      replace y2 := hide (y2.out.to0 b)
      replace CC := hide (CC.out.trans (b.mono CC.out.size))
      clear b
      have RA := hide o.rd
      obtain ⟨s4, t4, hv4⟩ := o.rd.slice
      subst hv4
      clear o RA
      go_wp2_with fail
      refine (num7_any _ _).mono ?_
      rintro e w' ⟨rfl, rfl⟩
      go_wp2_with fail
      refine (num7_any _ _).mono ?_
      rintro e w' ⟨rfl, rfl⟩
      go_wp2_with fail
      refine (num7_any _ _).mono ?_
      rintro e w' ⟨rfl, rfl⟩
      go_wp2
      go_ret
      exact ⟨rfl, CC.out⟩
  ·
    have hne : (tr != 0) = true := by simpa using h0
    replace h0 := hide h0
    go_wp2_with fail
    refine (num7_any _ _).mono ?_
    rintro e w' ⟨rfl, rfl⟩
    go_wp2_with fail
    refine (num7_any _ _).mono ?_
    rintro e w' ⟨rfl, rfl⟩
    go_wp2
    go_ret
    exact ⟨rfl, CC.out⟩

theorem walk (w : World) (a0 : Int) (w0' : (Lit.int .i64 a0).wf = true) (a1 : Option Addr) (len1 cap1 : Nat) (x1 : List UInt8) (e1 : x1.length = len1) (g1 : Rd w (.slice a1 len1 cap1) x1) (m1 : len1 ≤ 140737488351232) (a2 : Int) (w2' : (Lit.int .i64 a2).wf = true) (a3 : Int) (w3' : (Lit.int .u8 a3).wf = true) :
    Calls Try.prog 7 #[.int .i64 a0, .slice a1 len1 cap1, .int .i64 a2, .int .u8 a3] w fun e w' => e = .returned (.bool true) ∧ Below w.heap.size w w' :=
  walkS pages_say w a0 w0' a1 len1 cap1 x1 e1 g1 m1 a2 w2' a3 w3'

set_option maxRecDepth 100000 in
theorem lifted (os : Os) (started : os.Started) (H : Type) (enc : TypeId × Value → H) :
    ReturnsInHanded {} Try.checked os 7 .any (Rows.pagesRotSpec.pre6 enc Try.prog Try.f7 Rows.pagesRotRow.domain false) (Rows.pagesRotSpec.post enc Try.prog Try.f7 false true false false) := by
  refine returnsInHanded_of_change_sized (C := Try.checked) own started (by kernel_rfl) Try.func7
    (ChangeSpec.witness6 (enc := enc) (C := Try.checked) false ⟨#[], #[.int .i64 0, .slice none 0 0, .int .i64 0, .int .u8 0], []⟩ 8 (by kernel_rfl) (by kernel_rfl) (by kernel_rfl) (by kernel_rfl)) ?_
  intro W base args ds gs before hval0 hW hcnd hsz0 _
  have hsz : (DataW.weightsEach Try.prog (Try.f7.params.toList ++ Rows.pagesRotSpec.plain.varTypes Try.prog) (ds ++ gs)).all (· ≤ reachBytes) = true := hsz0
  have hval : ∀ (j : Nat) t v, Try.f7.params[j]? = some t → args[j]? = some v → Value.okWide Try.prog W .any base t v := hval0
  have hW' := hW
  obtain ⟨p, q, hA0, hV, rfl, hfz, hnd⟩ := hW
  have hA : DataW.TrodAll enc Try.prog W 0 (fun _ => true) true Try.f7.params.toList args.toList ds p := hA0
  rw [Try.params7] at hA hval hsz
  obtain ⟨v0, vs0, d0, ds0, p0, q0, hargs, rfl, rfl, h0, r0⟩ := trodAll_cons hA
  obtain ⟨v1, vs1, d1, ds1, p1, q1, rfl, rfl, rfl, h1, r1⟩ := trodAll_cons r0
  obtain ⟨v2, vs2, d2, ds2, p2, q2, rfl, rfl, rfl, h2, r2⟩ := trodAll_cons r1
  obtain ⟨v3, vs3, d3, ds3, p3, q3, rfl, rfl, rfl, h3, r3⟩ := trodAll_cons r2
  obtain ⟨rfl, rfl, rfl⟩ := trodAll_nil r3
  obtain rfl : args = #[v0, v1, v2, v3] := by cases args; simp_all
  obtain ⟨rfl, rfl⟩ := trodVars_none hV
  obtain ⟨a0, rfl, rfl, rfl, w0⟩ := open_int Try.underlying3 (hval 0 3 v0 rfl rfl) h0
  obtain ⟨a1, len1, cap1, rfl⟩ := okWide_slice Try.underlying22 (hval 1 22 v1 rfl rfl)
  have lt1 : ∀ x ∈ p1, x.block < W.heap.size := by obtain ⟨m, hm⟩ := h1; exact DataW.trod_lt m _ _ _ hm
  obtain ⟨x1, e1, g1, s1⟩ := open_octs h1
  obtain ⟨a2, rfl, rfl, rfl, w2⟩ := open_int Try.underlying3 (hval 2 3 v2 rfl rfl) h2
  obtain ⟨a3, rfl, rfl, rfl, w3⟩ := open_int Try.underlying5 (hval 3 5 v3 rfl rfl) h3
  have m1 := reach_octs hsz (j := 1) rfl rfl s1
  clear hA0 hval0 hsz0 hsz
  refine (walk W a0 w0 a1 len1 cap1 x1 e1 g1 m1 a2 w2 a3 w3).mono fun e W' ⟨he, bel⟩ => ?_
  subst he
  exact ⟨_, rfl, _, _, _, [], _, [], hW', trodAll_mk1 (shut_bool Try.underlying4 _), (trodAll_cons_mk (shut_int Try.underlying3 w0) (trodAll_cons_mk (Below.trod laidOut (by kernel_rfl) (of_decide_eq_true (by kernel_rfl)) h1 bel lt1) (trodAll_cons_mk (shut_int Try.underlying3 w2) (trodAll_cons_mk (shut_int Try.underlying5 w3) trodAll_mk0)))), rfl, bel.frame _, fun h => by cases h⟩

theorem over : Rows.pagesRotRow.holds Try.pinned (OpenSpec.ofChange Rows.pagesRotSpec) :=
  OpenClaim.holds_of_wide 7 Try.f7 rfl rfl rfl rfl rfl rfl rfl ⟨rfl, rfl, rfl, rfl, rfl⟩ rfl rfl rfl rfl rfl (by kernel_rfl) Try.func7 (by kernel_rfl)
    (of_decide_eq_true (by kernel_rfl)) (by unfold Func.isWrapper; first | (rw [if_pos (by decide +kernel)]; kernel_rfl) | (rw [if_neg (by decide +kernel)]; exact ⟨rfl, rfl⟩))
    (fun os started H enc _ => lifted os started H enc)

end Go.Proofs.Ytliileemelcllaa.pagesRot
namespace Go.Proofs.Ytliileemelcllaa
/-- THE STATEMENT -/
theorem pagesRot_holds : Rows.PagesRotSaid := pagesRot.over
end Go.Proofs.Ytliileemelcllaa
