/-
  The page's Flush of logs.
-/
import Derived.Deep.CutRange
import Derived.Test.YtlnoancjegifnaaWAppR
import Derived.Test.YtlnoancjegifnaaWSeg
namespace Go.Proofs.Ytlnoancjegifnaa
open Go.RowKit
set_option linter.unusedVariables false

theorem OwnF.num {T : Nat} {F : List Nat} {w : World} {a b : Value} {n : Int} {s : List Wrt} {wt : List (List UInt8)} (h : OwnF (SLg T) F w [a, .int .i64 n, b] (s, n, wt)) (m : Int) : OwnF (SLg T) F w [a, .int .i64 m, b] (s, m, wt) := by
  obtain ⟨FA, FB, rfl, hA, hB, hd⟩ := OwnF.split (c := [a]) (d := [.int .i64 n, b]) h rfl
  obtain ⟨FC, FD, rfl, hC, hD, hd2⟩ := OwnF.split (c := [.int .i64 n]) (d := [b]) hB rfl
  obtain ⟨⟨rfl, _⟩, _⟩ := hC
  exact OwnF.join (c := [a]) (d := [.int .i64 m, b]) hA (OwnF.join (c := [.int .i64 m]) (d := [b]) (s := Shp.int .i64) ⟨⟨rfl, rfl⟩, List.nodup_nil⟩ hD (fun b hb => by cases hb)) hd
theorem OwnF.noWait {T : Nat} {F : List Nat} {w : World} {a b : Value} {n : Int} {s : List Wrt} {wt : List (List UInt8)} (h : OwnF (SLg T) F w [a, .int .i64 n, b] (s, n, wt)) : ∃ F', OwnF (SLg T) F' w [a, .int .i64 n, .slice none 0 0] (s, n, []) ∧ ∀ b, b ∈ F' → b ∈ F := by
  obtain ⟨FA, FB, rfl, hA, hB, hd⟩ := OwnF.split (c := [a]) (d := [.int .i64 n, b]) h rfl
  refine ⟨FA ++ [], OwnF.join (c := [a]) (d := [.int .i64 n, .slice none 0 0]) hA ⟨⟨[.int .i64 n], [.slice none 0 0], [], [], rfl, rfl, ⟨rfl, rfl⟩, ⟨_, [], [], rfl, World.ownsRow_nil _ _ _ _, ⟨rfl, rfl⟩, by simp [Value.ownBlock]⟩⟩, List.nodup_nil⟩ (fun b _ hb => by cases hb), fun b hb => by simp at hb; simp [hb]⟩
theorem OwnF.waits {T : Nat} {F : List Nat} {w : World} {a b : Value} {n : Int} {s : List Wrt} {wt : List (List UInt8)} (h : OwnF (SLg T) F w [a, .int .i64 n, b] (s, n, wt)) : RdSec w b wt ∧ RdC w a s := by
  obtain ⟨FA, FB, rfl, hA, hB, hd⟩ := OwnF.split (c := [a]) (d := [.int .i64 n, b]) h rfl
  obtain ⟨FC, FD, rfl, hC, hD, hd2⟩ := OwnF.split (c := [.int .i64 n]) (d := [b]) hB rfl
  obtain ⟨v, e, r⟩ := hD.rd
  obtain ⟨v', e', r'⟩ := hA.rd
  simp at e e'; subst e e'
  exact ⟨r, r'⟩
theorem wroom_push {limit : Int} {segs : List Wrt} {next : Int} (h : segs.length = 0 ∨ limit ≤ ((wlast segs).2.length : Nat)) : wroom limit segs next = segs ++ [(next, [])] := if_pos h
theorem wroom_keep {limit : Int} {segs : List Wrt} {next : Int} (h : ¬ (segs.length = 0 ∨ limit ≤ ((wlast segs).2.length : Nat))) : wroom limit segs next = segs := if_neg h
theorem wone_full {limit : Int} {segs : List Wrt} {next : Int} {r : List UInt8} (h : 1099511627776 ≤ next ∨ 4096 < (wroom limit segs next).length) : wone limit (segs, next) r = none := if_pos h
theorem wone_put {limit : Int} {segs : List Wrt} {next : Int} {r : List UInt8} (h : ¬ (1099511627776 ≤ next ∨ 4096 < (wroom limit segs next).length)) : wone limit (segs, next) r = some (wlay (wroom limit segs next) r, next + 1) := if_neg h
theorem wlast_at {segs : List Wrt} {q : Nat} {s : Wrt} (h : segs.length = q + 1) (hs : segs[q]? = some s) : wlast segs = s := by
  unfold wlast; rw [h, Nat.add_sub_cancel, getD_some hs]
theorem wlay_at {segs : List Wrt} {q : Nat} {z : Int} {x r : List UInt8} (h : segs.length = q + 1) (hs : segs[q]? = some (z, x)) : wlay segs r = segs.set q (z, x ++ fseal 1 r) := by
  unfold wlay; rw [wlast_at h hs, h, Nat.add_sub_cancel]

/-- what Flush's loop keeps -/
def FInv (w1 : World) (g6 : Nat) (tw : Value) (l : Wlg) (k : Nat) (sv : Value) (st : List Wrt × Int) (wr : World) : Prop :=
  BoxLg SLogR 25 g6 w1.heap.size wr sv tw (st.1, st.2, l.2.2) ∧ Below w1.heap.size w1 wr ∧ st.1.length ≤ 4096 ∧ (∀ s ∈ st.1, s.2.length ≤ 16777216 + 4104 * k) ∧ widx st.2

set_option maxRecDepth 100000 in
set_option maxHeartbeats 8000000 in
theorem rwflush_any (w : World) (sv wv : Value) (l : Wlg) (limit : Int) (h1 : RdC w sv l.1) (h2 : RdSec w wv l.2.2) (hm : ∀ s ∈ l.1, s.2.length ≤ 16777216) :
    Calls Try.prog 14 #[.agg #[sv, .int .i64 l.2.1, wv], .int .i64 limit] w fun e w' => ∃ sv' wv', e = .returned (.tuple #[.agg #[sv', .int .i64 (wflush l limit).1.2.1, wv'], .int .i64 (wflush l limit).2]) ∧ Own SLogR w.heap.size w' [sv', .int .i64 (wflush l limit).1.2.1, wv'] (wflush l limit).1 ∧ Below w.heap.size w w' := by
  obtain ⟨i0, hi, hz0, hz1, hz2⟩ := info_parts infoB
  obtain ⟨j0, ji, jz0, jz1, jz2⟩ := info_parts infoSR
  obtain ⟨a1, c1, rfl⟩ := h1.slice
  obtain ⟨a2, c2, rfl⟩ := h2.slice
  obtain ⟨W, hW, hA, hZ, bW, sW⟩ := boxes3 w (.slice a1 l.1.length c1) (.int .i64 l.2.1) (.slice a2 l.2.2.length c2) 25
  have KC := hide (rwcheck_any W _ _ l (h1.to0 bW) (h2.to0 bW) hm)
  obtain ⟨⟨A0, A1, A2⟩, _⟩ := cells3 hA
  rw [hW] at A0 A1 A2
  go_enter Try.func14, Try.ntmps14
  by_cases hok : WOk l
  · rw [wcheck_ok hok] at KC
    go_wp2_with fail
    rw [← hW]
    replace hW := hide hW
    refine KC.out.mono ?_
    rintro e w1 ⟨rfl, b1⟩
    clear KC A0 A1 A2
    have c1w := hide (bW.trans (b1.mono bW.size))
    have A' := hide ((b1.block _ (lt_of_block hA)).trans hA)
    have Z' := hide ((b1.block _ (lt_of_block hZ)).trans hZ)
    have H1 := hide (h1.to0 c1w.out)
    have H2 := hide (h2.to0 c1w.out)
    have s1 : w.heap.size + 1 + 1 ≤ w1.heap.size := by have := b1.size; omega
    have HOK := hide hok
    clear hA hZ bW b1 h1 h2 hok
    by_cases hlim : limit < 1 ∨ 1048576 < limit
    · have hE := hide (wflush_4 HOK.out hlim)
      have Z1 := Z'.out
      obtain ⟨⟨z0, z1, z2⟩, zf⟩ := cells3 Z1
      have y0 := zf 0
      have y1 := zf 1
      have y2 := zf 2
      by_cases hl1 : limit < 1
      · replace hlim := hide hlim
        go_wp2
        refine retNT rfl rfl (w.heap.size + 1) rfl _ _ (0, 0) (heap_set3 (u := w1) Z1 _ _ _) _ Try.underlying25 rfl info_lgR _ rfl ?_
        rw [hE.out]
        exact ⟨_, _, rfl, own_wzero _ _ _, below_set3 c1w.out (show w.heap.size ≤ w.heap.size + 1 by omega) _ _ _⟩
      · have hl2 : 1048576 < limit := by omega
        replace hlim := hide hlim
        go_wp2
        refine retNT rfl rfl (w.heap.size + 1) rfl _ _ (0, 0) (heap_set3 (u := w1) Z1 _ _ _) _ Try.underlying25 rfl info_lgR _ rfl ?_
        rw [hE.out]
        exact ⟨_, _, rfl, own_wzero _ _ _, below_set3 c1w.out (show w.heap.size ≤ w.heap.size + 1 by omega) _ _ _⟩
    · have hl1 : ¬ limit < 1 := by omega
      have hl2 : ¬ 1048576 < limit := by omega
      obtain ⟨⟨A0, A1, A2⟩, _⟩ := cells3 A'.out
      have KO := hide (rwown_any w1 _ _ l H1.out H2.out (HOK.out.fit hm))
      have hnone := hide (fun h => @wflush_51 l limit HOK.out hlim h)
      have hsome := hide (fun st h => @wflush_0 l limit HOK.out hlim st h)
      have hwl : l.2.2.length ≤ 4096 := HOK.out.1.2.2
      replace hlim := hide hlim
      go_wp2_with fail
      refine KO.out.mono ?_
      rintro e w2 ⟨ts, tw, rfl, o2, b2⟩
      clear KO A0 A1 A2
      obtain ⟨F0, hF0, hFB0⟩ := o2.foot
      obtain ⟨r1, r2⟩ := OwnF.waits hF0
      obtain ⟨ta, tc, hts⟩ := r2.slice
      obtain ⟨tb, td, htw⟩ := r1.slice
      subst hts htw
      obtain ⟨X, hX, X0, bX, sX⟩ := boxedN w2 #[.slice ta l.1.length tc, .int .i64 l.2.1, .slice tb l.2.2.length td] 25
      obtain ⟨g6, hg6⟩ : ∃ g, g = w2.heap.size := ⟨_, rfl⟩
      have s2 := b2.size
      rw [← hg6] at X0
      have ST0 : Hid (FInv w1 g6 (.slice tb l.2.2.length td) l 0 (.slice ta l.1.length tc) (l.1, l.2.1) X) :=
        ⟨⟨X0, F0, hF0.to bX, hFB0, fun h => by have := hF0.lt _ h; omega⟩, b2.trans (bX.mono s2), HOK.out.1.1, fun s hs => by have := hm s hs; omega, HOK.out.1.2.1⟩
      have hl6 : w1.heap.size ≤ g6 := by omega
      clear hF0 hFB0 o2 b2 bX X0 r1 r2
      go_wp2
      rw [← hX, ← hg6]
      replace hX := hide hX
      replace hg6 := hide hg6
      go_loopw [7] (fun i wr => ∃ (k : Nat) (c : Value) (st : List Wrt × Int), k ≤ l.2.2.length ∧ i = .int .i64 k ∧ Hid (wfs limit l k = some st) ∧ Hid (FInv w1 g6 (.slice tb l.2.2.length td) l k c st wr)) (fun i _ => l.2.2.length - (intOf i).toNat)
      case atStart => exact ⟨0, _, _, Nat.zero_le _, rfl, hide rfl, ST0⟩
      case round =>
        obtain ⟨k, c, ⟨segs, nx⟩, hk, rfl, hfs, hI⟩ := hrel
        clear ST0
        obtain ⟨⟨hT, F, hF, hFB, hgF⟩, hb, hsl, hsd, hnx⟩ := hI.out
        dsimp only at hT hF hsl hsd hnx
        obtain ⟨⟨T0, T1, T2⟩, tf⟩ := cells3 hT
        have hsz : g6 < wr.heap.size := lt_of_block hT
        obtain ⟨ca, cc0, hcs⟩ := (OwnF.waits hF).2.slice
        by_cases hlt : k < l.2.2.length
        · have hq : (k : Int) < (l.2.2.length : Int) := by omega
          obtain ⟨r, hr, hrm⟩ := some_at l.2.2 hlt
          have hrl := HOK.out.2.1 r hrm
          have HR := hide hr
          have hnext := hide (wfs_next hfs.out hr)
          clear hr hrm
          obtain ⟨m', hm'⟩ : ∃ m', m' = segs.length := ⟨_, rfl⟩
          rw [← hm'] at hcs
          subst hcs
          by_cases hz : m' = 0
          · have hb0 : ((m' : Int) == 0) = true := by simp [hz]
            replace hz := hide hz
            obtain ⟨cc, rowT, fin⟩ := OwnF.litFst (c0 := [.int .i64 nx, .slice tb l.2.2.length td]) hF (n := m') hm'.symm
            have hRm : Hid (wroom limit segs nx = segs ++ [(nx, [])]) := wroom_push (.inl (by rw [← hm']; exact hz.out))
            have FIN : Hid (∀ (w5 : World) (g cap : Nat), (wr.alloc (.cells #[.int .i64 nx, .slice none 0 0] 57)).grownBy w5 (Value.slice ca m' cc0).ownBlock → w5.ownsRow 0 57 2 (.slice (some ⟨g, 0, none⟩) (m' + 1) cap) (m' + 1) (cc ++ [.int .i64 nx, .slice none 0 0]) → ((Value.slice ca m' cc0).ownBlock = some g ∨ g = wr.heap.size + 1) →
                (w5.cell? ⟨g6, 0, none⟩ = some (.slice ca m' cc0) ∧ w5.frozen? ⟨g6, 0, none⟩ = false) ∧ Hid (BoxLg SLogR 25 g6 w1.heap.size (w5.setCell ⟨g6, 0, none⟩ (.slice (some ⟨g, 0, none⟩) (m' + 1) cap)) (.slice (some ⟨g, 0, none⟩) (m' + 1) cap) (.slice tb l.2.2.length td) (segs ++ [(nx, [])], nx, l.2.2) ∧ Below w1.heap.size w1 (w5.setCell ⟨g6, 0, none⟩ (.slice (some ⟨g, 0, none⟩) (m' + 1) cap)))) := fun w5 g cap k3 k4 k5 => by
              obtain ⟨⟨F', q1, q2⟩, q3, q4⟩ := fin wr [.int .i64 nx, .slice none 0 0] (nx, []) 57 _ w5 g cap (Below.refl _ _) (own_wrt (World.ownsRow_nil _ _ _ _)) rfl rfl rfl rfl k3 k4 k5
              have hT5 := (q4 _ hsz hgF).trans hT
              obtain ⟨⟨t0, _, _⟩, tf⟩ := cells3 hT5
              have hgF' : g6 ∉ F' := fun hm => (q2 _ hm).elim hgF (fun h => by omega)
              refine ⟨⟨t0, tf 0⟩, ⟨set3_0 hT5 _, F', q1.set hgF' _, fun b hb' => (q2 b hb').elim (hFB b) (fun h => by have := hb.size; omega), hgF'⟩, ?_⟩
              exact (hb.trans (q3 w1.heap.size hFB hb.size)).setCell (p := ⟨g6, 0, none⟩) hl6 _
            have ROW := hide (rowT _ ((Below.refl _ _).alloc (Nat.le_refl _) (.cells #[.int .i64 nx, .slice none 0 0] 57)))
            have h63 : m' + 1 ≤ maxLen := by rw [show maxLen = 9223372036854775807 from rfl]; omega
            have hby : (m' + 1) * 32 ≤ 140737488355328 := by omega
            have hRl : Hid ((segs ++ [(nx, [])] : List Wrt).length = m' + 1) := by show _ = _; rw [List.length_append, ← hm']; rfl
            have hRd : Hid (∀ s ∈ (segs ++ [(nx, [])] : List Wrt), s.2.length ≤ 16777216 + 4104 * k) := fun s hs => by
              rcases List.mem_append.1 hs with hs | hs
              · exact hsd s hs
              · simp only [List.mem_singleton] at hs; subst hs; simp
            have hRq : Hid ((segs ++ [(nx, [])] : List Wrt)[m']? = some (nx, [])) := by show _ = _; rw [hm']; simp
            clear fin rowT hF hFB hgF hT hI hb
            replace hm' := hide hm'
            go_upto_region 13 with (at_builtin; refine wpList_append_lies _ rfl _ _ 22 rfl 0 57 j0 _ 2 32 Try.underlying22 ji jz0 jz1 jz2 rfl (by decide) (.slice ca m' cc0) m' cc rfl ROW.out ⟨wr.heap.size, 0, none⟩ 1 1 [.int .i64 nx, .slice none 0 0] rfl rfl (World.news_of_block (heap_alloc_last wr _)) (by simp [Value.oneCell']) (by decide) h63 hby (Nat.zero_le _) (wr.heap.size + 1) (by simp) ?_; intro gR capR w5 ho5 hg5 hat5 hlt5; obtain ⟨⟨y5, y6⟩, HB⟩ := FIN.out w5 gR capR hg5 ho5 hat5; clear ho5 hg5 hat5 T0 T1 T2)
            clear FIN ROW y5 y6
            obtain ⟨U, hU⟩ : ∃ U, U = w5.setCell ⟨g6, 0, none⟩ (.slice (some ⟨gR, 0, none⟩) (m' + 1) capR) := ⟨_, rfl⟩
            rw [← hU] at HB ⊢
            replace hU := hide hU
            obtain ⟨R, hR⟩ : ∃ R, R = (segs ++ [(nx, [])] : List Wrt) := ⟨_, rfl⟩
            rw [← hR] at HB hRl hRd hRq hRm
            replace hR := hide hR
            obtain ⟨⟨hT, F, hF, hFB, hgF⟩, hb⟩ := HB.out
            dsimp only at hT hF
            obtain ⟨⟨T0, T1, T2⟩, tf⟩ := cells3 hT
            have hsz : g6 < U.heap.size := lt_of_block hT
            have Z2 := hide ((hb.block (w.heap.size + 1) (by omega)).trans Z'.out)
            have CU := hide (c1w.out.trans (hb.mono c1w.out.size))
            by_cases hfull : 1099511627776 ≤ nx ∨ 4096 < R.length
            · have hE := hide (hnone.out (wfs_none (n := k + 1) (by rw [hnext.out]; exact wone_full (by rw [hRm.out]; exact hfull)) _ (by omega)))
              obtain ⟨⟨z0, z1, z2⟩, zf⟩ := cells3 Z2.out
              have y0 := zf 0
              have y1 := zf 1
              have y2 := zf 2
              by_cases f1 : (1099511627776 : Int) ≤ nx
              · replace hfull := hide hfull
                clear hT hF hFB hgF hb HB
                go_wp2
                refine retNT rfl rfl (w.heap.size + 1) rfl _ _ (0, 0) (heap_set3 (u := U) Z2.out _ _ _) _ Try.underlying25 rfl info_lgR _ rfl ?_
                rw [hE.out]
                exact ⟨_, _, rfl, own_wzero _ _ _, below_set3 CU.out (show w.heap.size ≤ w.heap.size + 1 by omega) _ _ _⟩
              · have f2 : (4096 : Int) < (m' : Int) + 1 := by
                  rcases hfull with h | h
                  · exact absurd h f1
                  · have := hRl.out; omega
                replace hfull := hide hfull
                clear hT hF hFB hgF hb HB
                go_wp2
                refine retNT rfl rfl (w.heap.size + 1) rfl _ _ (0, 0) (heap_set3 (u := U) Z2.out _ _ _) _ Try.underlying25 rfl info_lgR _ rfl ?_
                rw [hE.out]
                exact ⟨_, _, rfl, own_wzero _ _ _, below_set3 CU.out (show w.heap.size ≤ w.heap.size + 1 by omega) _ _ _⟩
            · have f1 : ¬ (1099511627776 : Int) ≤ nx := fun h => hfull (.inl h)
              have f2 : ¬ (4096 : Int) < (m' : Int) + 1 := fun h => hfull (.inr (by have := hRl.out; omega))
              have hR4 : R.length ≤ 4096 := by omega
              have hput := hnext.out.trans (wone_put (r := r) (by rw [hRm.out]; exact hfull))
              rw [hRm.out] at hput
              replace hput := hide hput
              replace hfull := hide hfull
              obtain ⟨z, x, hRx⟩ : ∃ z x, Hid (R[m']? = some (z, x)) := ⟨_, _, hRq⟩
              have hxl := hRd.out _ (List.mem_of_getElem? hRx.out)
              have hlay := hide (wlay_at (r := r) hRl.out hRx.out)
              dsimp only at hxl
              obtain ⟨bw, ow, rv, rfl, hcr, hrd⟩ := (OwnF.waits hF).1.oct HR.out
              obtain ⟨ra, rc, rfl⟩ := hrd.slice
              have KS := hide (rseal_any U 1 _ r hrd (by omega))
              rw [show fsealO 1 r = fseal 1 r from if_neg (by omega), show fsealE r = 0 from if_neg (by omega), show (((1 : UInt8).toNat : Nat) : Int) = 1 from rfl] at KS
              have hfl := fseal_len 1 r
              obtain ⟨B, hB⟩ : ∃ B, B = fseal 1 r := ⟨_, rfl⟩
              rw [← hB] at KS hfl
              replace hB := hide hB
              obtain ⟨RL, hRL⟩ : ∃ RL, RL = r.length := ⟨_, rfl⟩
              rw [← hRL] at hcr KS hfl hrl
              replace hRL := hide hRL
              clear hRq
              go_wp2_with fail
              refine KS.out.mono ?_
              rintro e w6 ⟨bv, rfl, ob, bb⟩
              clear KS hrd hcr
              have bd : Below U.heap.size U w6.drew := bb.drew
              have hT6 := (bd.block g6 hsz).trans hT
              have hb6 := hb.trans (bd.mono hb.size)
              have obr := hide (ob.rd.to (Below.refl _ _).drew)
              obtain ⟨gR', capR', dv, hsR, hgR, e0, e1, ef, od, fin⟩ := OwnF.seg (hF.to bd) hRx.out
              simp only [Value.slice.injEq, Option.some.injEq, Addr.mk.injEq, and_true] at hsR
              obtain ⟨rfl, hlR, rfl⟩ := hsR
              clear hlR
              have hwm : IntKind.i64.wrap (m' : Int) = (m' : Int) := by rw [IntKind.wrap_i64]; have := hRl.out; omega
              have hqq : (m' : Int) < (m' : Int) + 1 := by have := hRl.out; omega
              obtain ⟨da, dc, hdv⟩ := od.rd.slice
              obtain ⟨ba, bc, hbv⟩ := ob.rd.slice
              subst hbv
              obtain ⟨BL, hBL⟩ : ∃ BL, BL = B.length := ⟨_, rfl⟩
              obtain ⟨XL, hXL⟩ : ∃ XL, XL = x.length := ⟨_, rfl⟩
              rw [← hXL] at hdv hxl
              rw [← hBL] at obr hfl
              rw [← hBL]
              subst hdv
              have hfs6 : g6 ≠ gR := fun e => hgF (by rw [e]; exact hgR)
              have hs6 : U.heap.size ≤ w6.drew.heap.size := bd.size
              have FIN : Hid (∀ (g' cap' : Nat) (w7 : World), OwnB 0 w7 (.slice (some ⟨g', 0, none⟩) (XL + BL) cap') (x ++ B) → w6.drew.grownBy w7 (Value.slice da XL dc).ownBlock → ((Value.slice da XL dc).ownBlock = some g' ∨ g' = w6.drew.heap.size) →
                  (w7.cell? ⟨gR, m' * 2 + 1, none⟩ = some (.slice da XL dc) ∧ w7.frozen? ⟨gR, m' * 2 + 1, none⟩ = false) ∧ ((w7.setCell ⟨gR, m' * 2 + 1, none⟩ (.slice (some ⟨g', 0, none⟩) (XL + BL) cap')).cell? ⟨g6, 1, none⟩ = some (.int .i64 nx) ∧ (w7.setCell ⟨gR, m' * 2 + 1, none⟩ (.slice (some ⟨g', 0, none⟩) (XL + BL) cap')).frozen? ⟨g6, 1, none⟩ = false) ∧ w7.cell? ⟨g6, 0, none⟩ = some (.slice (some ⟨gR, 0, none⟩) (m' + 1) capR) ∧
                    Hid (FInv w1 g6 (.slice (some ⟨bw, ow, none⟩) l.2.2.length td) l (k + 1) (.slice (some ⟨gR, 0, none⟩) (m' + 1) capR) (wlay R r, nx + 1) ((w7.setCell ⟨gR, m' * 2 + 1, none⟩ (.slice (some ⟨g', 0, none⟩) (XL + BL) cap')).setCell ⟨g6, 1, none⟩ (.int .i64 (nx + 1))))) := fun g' cap' w7 o7 k3 k5 => by
                have hlen : (x ++ B).length = XL + BL := by rw [List.length_append, hXL, hBL]
                rw [← hlen] at o7
                obtain ⟨q0, F', q1, q2, q3, q4⟩ := fin w7 g' cap' (x ++ B) o7 k3 k5
                rw [hlen] at q1 q3 q4
                have hT7 := (q4 g6 (by omega) hgF).trans hT6
                obtain ⟨⟨_, t1, _⟩, tf7⟩ := cells3 hT7
                have hgF' : g6 ∉ F' := fun hm => (q2 _ hm).elim hgF (fun h => by omega)
                have h60 : w7.cell? ⟨g6, 0, none⟩ = some (.slice (some ⟨gR, 0, none⟩) (m' + 1) capR) := by
                  have : w7.heap[g6]? = _ := (Below.heap_setCell w7 ⟨gR, m' * 2 + 1, none⟩ (.slice (some ⟨g', 0, none⟩) (XL + BL) cap') g6 hfs6).symm.trans hT7
                  exact (cells3 this).1.1
                refine ⟨q0, ⟨t1, tf7 1⟩, h60, ⟨set3_1 hT7 _, F', ?_, fun b hb' => (q2 b hb').elim (hFB b) (fun h => by have := hb.size; omega), hgF'⟩, ?_, ?_, ?_, ?_⟩
                · have := (q1.num (nx + 1)).set (a := ⟨g6, 1, none⟩) hgF' (.int .i64 (nx + 1))
                  rw [hlay.out, ← hB.out]
                  exact this
                · exact (hb6.trans (q3 w1.heap.size hFB (by have := hb.size; omega))).setCell (p := ⟨g6, 1, none⟩) hl6 _
                · show (wlay R r).length ≤ 4096
                  rw [hlay.out, List.length_set]; exact hR4
                · intro s hs
                  rw [hlay.out] at hs
                  rcases List.mem_or_eq_of_mem_set hs with hs | hs
                  · have := hRd.out s hs; omega
                  · subst hs
                    show (x ++ fseal 1 r).length ≤ _
                    rw [← hB.out, hlen]
                    omega
                · have := hnx.1
                  have := hnx.2
                  exact ⟨by show 0 ≤ nx + 1; omega, by show nx + 1 ≤ 1099511627776; omega⟩
              have T0' := (bd.cell (p := ⟨g6, 0, none⟩) (cell_lt T0)).trans T0
              have hbp : 0 < B.length := by omega
              have hbl : x.length + B.length ≤ 140737488355328 := by omega
              replace hXL := hide hXL
              replace hBL := hide hBL
              replace hfl := hide hfl
              clear hT hF hFB hb HB hT6 hb6 fin T0 T1 T2 tf ob bb
              replace od := hide od
              have hnb0 := hnx.1
              have hnb1 := hnx.2
              go_wp2_with fail
              refine wp_region_mid (fun w' => w'.cell? ⟨g6, 0, none⟩ = some (.slice (some ⟨gR, 0, none⟩) (m' + 1) capR) ∧ w'.cell? ⟨gR, m' * 2 + 1, none⟩ = some (.slice da XL dc)) 12 13 mixed (by kernel_rfl) (fun _ _ _ _ h => h) ⟨T0', e1⟩ ?_
              dsimp only [List.take, List.drop]
              iterate 12
                refine take_one (v := ?_) (by rfl) ?_ ?_
                rotate_left
                · rintro w' ⟨s1, s2⟩
                  go_simp
                  try with_reducible rfl
                try simp only [Act.put, List.setIfInBounds_toArray, List.set_cons_zero, List.set_cons_succ]
              refine mid_one fun K hK => ?_
              rw [if_pos (by rfl)]
              refine wp_append_octs_lies _ _ rfl (.slice da XL dc) (.slice ba BL bc) x B (by rfl) (by rfl) od.out obr.out hbp hbl ?_
              intro g' cap' w7 o7 k3 k5
              rw [← hXL.out, ← hBL.out] at o7 ⊢
              obtain ⟨⟨y5, y6⟩, ⟨y7, y8⟩, y9, FF⟩ := FIN.out g' cap' w7 o7 k3 k5
              refine hK _ _ ⟨y9, y5⟩ ?_
              clear hK K o7 k3 k5 FIN
              try simp only [Act.put, List.setIfInBounds_toArray, List.set_cons_zero, List.set_cons_succ]
              show wpList _ _ _ _ _ _
              go_wp2
              go_roundw
              case rel => exact ⟨k + 1, _, _, by omega, by go_num, hput, FF⟩
              case measure => simp [intOf]; omega
          · obtain ⟨m, hmm⟩ : ∃ m, m' = m + 1 := ⟨m' - 1, by omega⟩
            have hb0 : ((m' : Int) == 0) = false := by simp only [beq_eq_false_iff_ne]; omega
            have hidx : (m' : Int) - 1 = (m : Int) := by omega
            have hzn : ¬ m' = 0 := hz
            have hzi : ¬ (m' : Int) = 0 := by omega
            have hm4 : m' ≤ 4096 := by rw [hm']; exact hsl
            have hwm0 : IntKind.i64.wrap (m : Int) = (m : Int) := by rw [IntKind.wrap_i64]; omega
            have hqq0 : (m : Int) < (m' : Int) := by omega
            have hsm : segs.length = m + 1 := by rw [← hm', hmm]
            obtain ⟨⟨lz, lx⟩, hlx, hlm⟩ := some_at segs (k := m) (by omega)
            have hlast := hide (wlast_at hsm hlx)
            have hlb := hsd _ hlm
            obtain ⟨gL, capL, ldv, hsL, hgL, e0L, e1L, efL, odL, _⟩ := OwnF.seg hF hlx
            simp only [Value.slice.injEq] at hsL
            obtain ⟨rfl, hxx, rfl⟩ := hsL
            clear hxx
            obtain ⟨la, lc, rfl⟩ := odL.rd.slice
            obtain ⟨LL, hLL⟩ : ∃ LL, LL = lx.length := ⟨_, rfl⟩
            dsimp only at hlb
            rw [← hLL] at e1L hlb
            replace hz := hide hz
            replace hmm := hide hmm
            have hsm' := hide hsm
            have hlx' := hide hlx
            clear hsm hlx hlm e0L efL odL
            by_cases hfl2 : limit ≤ (LL : Int)
            · have hroom : Hid (limit ≤ ((wlast segs).2.length : Nat)) := by show _ ≤ _; rw [hlast.out, ← hLL]; exact hfl2
              replace hLL := hide hLL
              obtain ⟨cc, rowT, fin⟩ := OwnF.litFst (c0 := [.int .i64 nx, .slice tb l.2.2.length td]) hF (n := m') hm'.symm
              have hRm : Hid (wroom limit segs nx = segs ++ [(nx, [])]) := wroom_push (.inr hroom.out)
              have FIN : Hid (∀ (w5 : World) (g cap : Nat), (wr.alloc (.cells #[.int .i64 nx, .slice none 0 0] 57)).grownBy w5 (Value.slice (some ⟨gL, 0, none⟩) m' cc0).ownBlock → w5.ownsRow 0 57 2 (.slice (some ⟨g, 0, none⟩) (m' + 1) cap) (m' + 1) (cc ++ [.int .i64 nx, .slice none 0 0]) → ((Value.slice (some ⟨gL, 0, none⟩) m' cc0).ownBlock = some g ∨ g = wr.heap.size + 1) →
                  (w5.cell? ⟨g6, 0, none⟩ = some (.slice (some ⟨gL, 0, none⟩) m' cc0) ∧ w5.frozen? ⟨g6, 0, none⟩ = false) ∧ Hid (BoxLg SLogR 25 g6 w1.heap.size (w5.setCell ⟨g6, 0, none⟩ (.slice (some ⟨g, 0, none⟩) (m' + 1) cap)) (.slice (some ⟨g, 0, none⟩) (m' + 1) cap) (.slice tb l.2.2.length td) (segs ++ [(nx, [])], nx, l.2.2) ∧ Below w1.heap.size w1 (w5.setCell ⟨g6, 0, none⟩ (.slice (some ⟨g, 0, none⟩) (m' + 1) cap)))) := fun w5 g cap k3 k4 k5 => by
                obtain ⟨⟨F', q1, q2⟩, q3, q4⟩ := fin wr [.int .i64 nx, .slice none 0 0] (nx, []) 57 _ w5 g cap (Below.refl _ _) (own_wrt (World.ownsRow_nil _ _ _ _)) rfl rfl rfl rfl k3 k4 k5
                have hT5 := (q4 _ hsz hgF).trans hT
                obtain ⟨⟨t0, _, _⟩, tf⟩ := cells3 hT5
                have hgF' : g6 ∉ F' := fun hm => (q2 _ hm).elim hgF (fun h => by omega)
                refine ⟨⟨t0, tf 0⟩, ⟨set3_0 hT5 _, F', q1.set hgF' _, fun b hb' => (q2 b hb').elim (hFB b) (fun h => by have := hb.size; omega), hgF'⟩, ?_⟩
                exact (hb.trans (q3 w1.heap.size hFB hb.size)).setCell (p := ⟨g6, 0, none⟩) hl6 _
              have ROW := hide (rowT _ ((Below.refl _ _).alloc (Nat.le_refl _) (.cells #[.int .i64 nx, .slice none 0 0] 57)))
              have h63 : m' + 1 ≤ maxLen := by rw [show maxLen = 9223372036854775807 from rfl]; omega
              have hby : (m' + 1) * 32 ≤ 140737488355328 := by omega
              have hRl : Hid ((segs ++ [(nx, [])] : List Wrt).length = m' + 1) := by show _ = _; rw [List.length_append, ← hm']; rfl
              have hRd : Hid (∀ s ∈ (segs ++ [(nx, [])] : List Wrt), s.2.length ≤ 16777216 + 4104 * k) := fun s hs => by
                rcases List.mem_append.1 hs with hs | hs
                · exact hsd s hs
                · simp only [List.mem_singleton] at hs; subst hs; simp
              have hRq : Hid ((segs ++ [(nx, [])] : List Wrt)[m']? = some (nx, [])) := by show _ = _; rw [hm']; simp
              clear fin rowT hF hFB hgF hT hI hb
              replace hm' := hide hm'
              go_upto_region 13 with (at_builtin; refine wpList_append_lies _ rfl _ _ 22 rfl 0 57 j0 _ 2 32 Try.underlying22 ji jz0 jz1 jz2 rfl (by decide) (.slice (some ⟨gL, 0, none⟩) m' cc0) m' cc rfl ROW.out ⟨wr.heap.size, 0, none⟩ 1 1 [.int .i64 nx, .slice none 0 0] rfl rfl (World.news_of_block (heap_alloc_last wr _)) (by simp [Value.oneCell']) (by decide) h63 hby (Nat.zero_le _) (wr.heap.size + 1) (by simp) ?_; intro gR capR w5 ho5 hg5 hat5 hlt5; obtain ⟨⟨y5, y6⟩, HB⟩ := FIN.out w5 gR capR hg5 ho5 hat5; clear ho5 hg5 hat5 T0 T1 T2)
              clear FIN ROW y5 y6
              obtain ⟨U, hU⟩ : ∃ U, U = w5.setCell ⟨g6, 0, none⟩ (.slice (some ⟨gR, 0, none⟩) (m' + 1) capR) := ⟨_, rfl⟩
              rw [← hU] at HB ⊢
              replace hU := hide hU
              obtain ⟨R, hR⟩ : ∃ R, R = (segs ++ [(nx, [])] : List Wrt) := ⟨_, rfl⟩
              rw [← hR] at HB hRl hRd hRq hRm
              replace hR := hide hR
              obtain ⟨⟨hT, F, hF, hFB, hgF⟩, hb⟩ := HB.out
              dsimp only at hT hF
              obtain ⟨⟨T0, T1, T2⟩, tf⟩ := cells3 hT
              have hsz : g6 < U.heap.size := lt_of_block hT
              have Z2 := hide ((hb.block (w.heap.size + 1) (by omega)).trans Z'.out)
              have CU := hide (c1w.out.trans (hb.mono c1w.out.size))
              by_cases hfull : 1099511627776 ≤ nx ∨ 4096 < R.length
              · have hE := hide (hnone.out (wfs_none (n := k + 1) (by rw [hnext.out]; exact wone_full (by rw [hRm.out]; exact hfull)) _ (by omega)))
                obtain ⟨⟨z0, z1, z2⟩, zf⟩ := cells3 Z2.out
                have y0 := zf 0
                have y1 := zf 1
                have y2 := zf 2
                by_cases f1 : (1099511627776 : Int) ≤ nx
                · replace hfull := hide hfull
                  clear hT hF hFB hgF hb HB
                  go_wp2
                  refine retNT rfl rfl (w.heap.size + 1) rfl _ _ (0, 0) (heap_set3 (u := U) Z2.out _ _ _) _ Try.underlying25 rfl info_lgR _ rfl ?_
                  rw [hE.out]
                  exact ⟨_, _, rfl, own_wzero _ _ _, below_set3 CU.out (show w.heap.size ≤ w.heap.size + 1 by omega) _ _ _⟩
                · have f2 : (4096 : Int) < (m' : Int) + 1 := by
                    rcases hfull with h | h
                    · exact absurd h f1
                    · have := hRl.out; omega
                  replace hfull := hide hfull
                  clear hT hF hFB hgF hb HB
                  go_wp2
                  refine retNT rfl rfl (w.heap.size + 1) rfl _ _ (0, 0) (heap_set3 (u := U) Z2.out _ _ _) _ Try.underlying25 rfl info_lgR _ rfl ?_
                  rw [hE.out]
                  exact ⟨_, _, rfl, own_wzero _ _ _, below_set3 CU.out (show w.heap.size ≤ w.heap.size + 1 by omega) _ _ _⟩
              · have f1 : ¬ (1099511627776 : Int) ≤ nx := fun h => hfull (.inl h)
                have f2 : ¬ (4096 : Int) < (m' : Int) + 1 := fun h => hfull (.inr (by have := hRl.out; omega))
                have hR4 : R.length ≤ 4096 := by omega
                have hput := hnext.out.trans (wone_put (r := r) (by rw [hRm.out]; exact hfull))
                rw [hRm.out] at hput
                replace hput := hide hput
                replace hfull := hide hfull
                obtain ⟨z, x, hRx⟩ : ∃ z x, Hid (R[m']? = some (z, x)) := ⟨_, _, hRq⟩
                have hxl := hRd.out _ (List.mem_of_getElem? hRx.out)
                have hlay := hide (wlay_at (r := r) hRl.out hRx.out)
                dsimp only at hxl
                obtain ⟨bw, ow, rv, rfl, hcr, hrd⟩ := (OwnF.waits hF).1.oct HR.out
                obtain ⟨ra, rc, rfl⟩ := hrd.slice
                have KS := hide (rseal_any U 1 _ r hrd (by omega))
                rw [show fsealO 1 r = fseal 1 r from if_neg (by omega), show fsealE r = 0 from if_neg (by omega), show (((1 : UInt8).toNat : Nat) : Int) = 1 from rfl] at KS
                have hfl := fseal_len 1 r
                obtain ⟨B, hB⟩ : ∃ B, B = fseal 1 r := ⟨_, rfl⟩
                rw [← hB] at KS hfl
                replace hB := hide hB
                obtain ⟨RL, hRL⟩ : ∃ RL, RL = r.length := ⟨_, rfl⟩
                rw [← hRL] at hcr KS hfl hrl
                replace hRL := hide hRL
                clear hRq
                go_wp2_with fail
                refine KS.out.mono ?_
                rintro e w6 ⟨bv, rfl, ob, bb⟩
                clear KS hrd hcr
                have bd : Below U.heap.size U w6.drew := bb.drew
                have hT6 := (bd.block g6 hsz).trans hT
                have hb6 := hb.trans (bd.mono hb.size)
                have obr := hide (ob.rd.to (Below.refl _ _).drew)
                obtain ⟨gR', capR', dv, hsR, hgR, e0, e1, ef, od, fin⟩ := OwnF.seg (hF.to bd) hRx.out
                simp only [Value.slice.injEq, Option.some.injEq, Addr.mk.injEq, and_true] at hsR
                obtain ⟨rfl, hlR, rfl⟩ := hsR
                clear hlR
                have hwm : IntKind.i64.wrap (m' : Int) = (m' : Int) := by rw [IntKind.wrap_i64]; have := hRl.out; omega
                have hqq : (m' : Int) < (m' : Int) + 1 := by have := hRl.out; omega
                obtain ⟨da, dc, hdv⟩ := od.rd.slice
                obtain ⟨ba, bc, hbv⟩ := ob.rd.slice
                subst hbv
                obtain ⟨BL, hBL⟩ : ∃ BL, BL = B.length := ⟨_, rfl⟩
                obtain ⟨XL, hXL⟩ : ∃ XL, XL = x.length := ⟨_, rfl⟩
                rw [← hXL] at hdv hxl
                rw [← hBL] at obr hfl
                rw [← hBL]
                subst hdv
                have hfs6 : g6 ≠ gR := fun e => hgF (by rw [e]; exact hgR)
                have hs6 : U.heap.size ≤ w6.drew.heap.size := bd.size
                have FIN : Hid (∀ (g' cap' : Nat) (w7 : World), OwnB 0 w7 (.slice (some ⟨g', 0, none⟩) (XL + BL) cap') (x ++ B) → w6.drew.grownBy w7 (Value.slice da XL dc).ownBlock → ((Value.slice da XL dc).ownBlock = some g' ∨ g' = w6.drew.heap.size) →
                    (w7.cell? ⟨gR, m' * 2 + 1, none⟩ = some (.slice da XL dc) ∧ w7.frozen? ⟨gR, m' * 2 + 1, none⟩ = false) ∧ ((w7.setCell ⟨gR, m' * 2 + 1, none⟩ (.slice (some ⟨g', 0, none⟩) (XL + BL) cap')).cell? ⟨g6, 1, none⟩ = some (.int .i64 nx) ∧ (w7.setCell ⟨gR, m' * 2 + 1, none⟩ (.slice (some ⟨g', 0, none⟩) (XL + BL) cap')).frozen? ⟨g6, 1, none⟩ = false) ∧ w7.cell? ⟨g6, 0, none⟩ = some (.slice (some ⟨gR, 0, none⟩) (m' + 1) capR) ∧
                      Hid (FInv w1 g6 (.slice (some ⟨bw, ow, none⟩) l.2.2.length td) l (k + 1) (.slice (some ⟨gR, 0, none⟩) (m' + 1) capR) (wlay R r, nx + 1) ((w7.setCell ⟨gR, m' * 2 + 1, none⟩ (.slice (some ⟨g', 0, none⟩) (XL + BL) cap')).setCell ⟨g6, 1, none⟩ (.int .i64 (nx + 1))))) := fun g' cap' w7 o7 k3 k5 => by
                  have hlen : (x ++ B).length = XL + BL := by rw [List.length_append, hXL, hBL]
                  rw [← hlen] at o7
                  obtain ⟨q0, F', q1, q2, q3, q4⟩ := fin w7 g' cap' (x ++ B) o7 k3 k5
                  rw [hlen] at q1 q3 q4
                  have hT7 := (q4 g6 (by omega) hgF).trans hT6
                  obtain ⟨⟨_, t1, _⟩, tf7⟩ := cells3 hT7
                  have hgF' : g6 ∉ F' := fun hm => (q2 _ hm).elim hgF (fun h => by omega)
                  have h60 : w7.cell? ⟨g6, 0, none⟩ = some (.slice (some ⟨gR, 0, none⟩) (m' + 1) capR) := by
                    have : w7.heap[g6]? = _ := (Below.heap_setCell w7 ⟨gR, m' * 2 + 1, none⟩ (.slice (some ⟨g', 0, none⟩) (XL + BL) cap') g6 hfs6).symm.trans hT7
                    exact (cells3 this).1.1
                  refine ⟨q0, ⟨t1, tf7 1⟩, h60, ⟨set3_1 hT7 _, F', ?_, fun b hb' => (q2 b hb').elim (hFB b) (fun h => by have := hb.size; omega), hgF'⟩, ?_, ?_, ?_, ?_⟩
                  · have := (q1.num (nx + 1)).set (a := ⟨g6, 1, none⟩) hgF' (.int .i64 (nx + 1))
                    rw [hlay.out, ← hB.out]
                    exact this
                  · exact (hb6.trans (q3 w1.heap.size hFB (by have := hb.size; omega))).setCell (p := ⟨g6, 1, none⟩) hl6 _
                  · show (wlay R r).length ≤ 4096
                    rw [hlay.out, List.length_set]; exact hR4
                  · intro s hs
                    rw [hlay.out] at hs
                    rcases List.mem_or_eq_of_mem_set hs with hs | hs
                    · have := hRd.out s hs; omega
                    · subst hs
                      show (x ++ fseal 1 r).length ≤ _
                      rw [← hB.out, hlen]
                      omega
                  · have := hnx.1
                    have := hnx.2
                    exact ⟨by show 0 ≤ nx + 1; omega, by show nx + 1 ≤ 1099511627776; omega⟩
                have T0' := (bd.cell (p := ⟨g6, 0, none⟩) (cell_lt T0)).trans T0
                have hbp : 0 < B.length := by omega
                have hbl : x.length + B.length ≤ 140737488355328 := by omega
                replace hXL := hide hXL
                replace hBL := hide hBL
                replace hfl := hide hfl
                clear hT hF hFB hb HB hT6 hb6 fin T0 T1 T2 tf ob bb
                replace od := hide od
                have hnb0 := hnx.1
                have hnb1 := hnx.2
                go_wp2_with fail
                refine wp_region_mid (fun w' => w'.cell? ⟨g6, 0, none⟩ = some (.slice (some ⟨gR, 0, none⟩) (m' + 1) capR) ∧ w'.cell? ⟨gR, m' * 2 + 1, none⟩ = some (.slice da XL dc)) 12 13 mixed (by kernel_rfl) (fun _ _ _ _ h => h) ⟨T0', e1⟩ ?_
                dsimp only [List.take, List.drop]
                iterate 12
                  refine take_one (v := ?_) (by rfl) ?_ ?_
                  rotate_left
                  · rintro w' ⟨s1, s2⟩
                    go_simp
                    try with_reducible rfl
                  try simp only [Act.put, List.setIfInBounds_toArray, List.set_cons_zero, List.set_cons_succ]
                refine mid_one fun K hK => ?_
                rw [if_pos (by rfl)]
                refine wp_append_octs_lies _ _ rfl (.slice da XL dc) (.slice ba BL bc) x B (by rfl) (by rfl) od.out obr.out hbp hbl ?_
                intro g' cap' w7 o7 k3 k5
                rw [← hXL.out, ← hBL.out] at o7 ⊢
                obtain ⟨⟨y5, y6⟩, ⟨y7, y8⟩, y9, FF⟩ := FIN.out g' cap' w7 o7 k3 k5
                refine hK _ _ ⟨y9, y5⟩ ?_
                clear hK K o7 k3 k5 FIN
                try simp only [Act.put, List.setIfInBounds_toArray, List.set_cons_zero, List.set_cons_succ]
                show wpList _ _ _ _ _ _
                go_wp2
                go_roundw
                case rel => exact ⟨k + 1, _, _, by omega, by go_num, hput, FF⟩
                case measure => simp [intOf]; omega
            · have hroom : Hid (wroom limit segs nx = segs) := wroom_keep (fun h => h.elim (fun h => by have := hsm'.out; omega) (fun h => hfl2 (by rw [hLL]; rw [hlast.out] at h; exact h)))
              replace hLL := hide hLL
              have HB : Hid (BoxLg SLogR 25 g6 w1.heap.size wr (.slice (some ⟨gL, 0, none⟩) m' cc0) (.slice tb l.2.2.length td) (segs, nx, l.2.2) ∧ Below w1.heap.size w1 wr) := ⟨⟨hT, F, hF, hFB, hgF⟩, hb⟩
              have hRm := hroom
              have hRl : Hid (segs.length = m + 1) := hsm'
              have hRd : Hid (∀ s ∈ segs, s.2.length ≤ 16777216 + 4104 * k) := hsd
              have hRq : Hid (segs[m]? = some (lz, lx)) := hlx'
              clear hT hF hFB hgF hb hI hroom
              replace hm' := hide hm'
              go_upto_region 13 with fail
              obtain ⟨U, hU⟩ : ∃ U, U = wr := ⟨_, rfl⟩
              rw [← hU] at HB ⊢
              replace hU := hide hU
              obtain ⟨R, hR⟩ : ∃ R, R = segs := ⟨_, rfl⟩
              rw [← hR] at HB hRl hRd hRq
              replace hRm : Hid (wroom limit segs nx = R) := by show _ = _; rw [hR]; exact hRm.out
              replace hR := hide hR
              clear T0 T1 T2 tf e1L
              obtain ⟨⟨hT, F, hF, hFB, hgF⟩, hb⟩ := HB.out
              dsimp only at hT hF
              obtain ⟨⟨T0, T1, T2⟩, tf⟩ := cells3 hT
              have hsz : g6 < U.heap.size := lt_of_block hT
              have Z2 := hide ((hb.block (w.heap.size + 1) (by omega)).trans Z'.out)
              have CU := hide (c1w.out.trans (hb.mono c1w.out.size))
              by_cases hfull : 1099511627776 ≤ nx ∨ 4096 < R.length
              · have hE := hide (hnone.out (wfs_none (n := k + 1) (by rw [hnext.out]; exact wone_full (by rw [hRm.out]; exact hfull)) _ (by omega)))
                obtain ⟨⟨z0, z1, z2⟩, zf⟩ := cells3 Z2.out
                have y0 := zf 0
                have y1 := zf 1
                have y2 := zf 2
                by_cases f1 : (1099511627776 : Int) ≤ nx
                · replace hfull := hide hfull
                  clear hT hF hFB hgF hb HB
                  go_wp2
                  refine retNT rfl rfl (w.heap.size + 1) rfl _ _ (0, 0) (heap_set3 (u := U) Z2.out _ _ _) _ Try.underlying25 rfl info_lgR _ rfl ?_
                  rw [hE.out]
                  exact ⟨_, _, rfl, own_wzero _ _ _, below_set3 CU.out (show w.heap.size ≤ w.heap.size + 1 by omega) _ _ _⟩
                · have f2 : (4096 : Int) < (m' : Int) := by
                    rcases hfull with h | h
                    · exact absurd h f1
                    · have := hRl.out; have := hmm.out; omega
                  exfalso
                  omega
              · have f1 : ¬ (1099511627776 : Int) ≤ nx := fun h => hfull (.inl h)
                have f2 : ¬ (4096 : Int) < (m' : Int) := fun h => hfull (.inr (by have := hRl.out; have := hmm.out; omega))
                have hR4 : R.length ≤ 4096 := by omega
                have hput := hnext.out.trans (wone_put (r := r) (by rw [hRm.out]; exact hfull))
                rw [hRm.out] at hput
                replace hput := hide hput
                replace hfull := hide hfull
                obtain ⟨z, x, hRx⟩ : ∃ z x, Hid (R[m]? = some (z, x)) := ⟨_, _, hRq⟩
                have hxl := hRd.out _ (List.mem_of_getElem? hRx.out)
                have hlay := hide (wlay_at (r := r) hRl.out hRx.out)
                dsimp only at hxl
                obtain ⟨bw, ow, rv, rfl, hcr, hrd⟩ := (OwnF.waits hF).1.oct HR.out
                obtain ⟨ra, rc, rfl⟩ := hrd.slice
                have KS := hide (rseal_any U 1 _ r hrd (by omega))
                rw [show fsealO 1 r = fseal 1 r from if_neg (by omega), show fsealE r = 0 from if_neg (by omega), show (((1 : UInt8).toNat : Nat) : Int) = 1 from rfl] at KS
                have hfl := fseal_len 1 r
                obtain ⟨B, hB⟩ : ∃ B, B = fseal 1 r := ⟨_, rfl⟩
                rw [← hB] at KS hfl
                replace hB := hide hB
                obtain ⟨RL, hRL⟩ : ∃ RL, RL = r.length := ⟨_, rfl⟩
                rw [← hRL] at hcr KS hfl hrl
                replace hRL := hide hRL
                clear hRq
                go_wp2_with fail
                refine KS.out.mono ?_
                rintro e w6 ⟨bv, rfl, ob, bb⟩
                clear KS hrd hcr
                have bd : Below U.heap.size U w6.drew := bb.drew
                have hT6 := (bd.block g6 hsz).trans hT
                have hb6 := hb.trans (bd.mono hb.size)
                have obr := hide (ob.rd.to (Below.refl _ _).drew)
                obtain ⟨gR', capR', dv, hsR, hgR, e0, e1, ef, od, fin⟩ := OwnF.seg (hF.to bd) hRx.out
                simp only [Value.slice.injEq, Option.some.injEq, Addr.mk.injEq, and_true] at hsR
                obtain ⟨rfl, hlR, rfl⟩ := hsR
                clear hlR
                have hwm : IntKind.i64.wrap (m : Int) = (m : Int) := by rw [IntKind.wrap_i64]; have := hRl.out; have := hmm.out; omega
                have hqq : (m : Int) < (m' : Int) := by have := hRl.out; have := hmm.out; omega
                obtain ⟨da, dc, hdv⟩ := od.rd.slice
                obtain ⟨ba, bc, hbv⟩ := ob.rd.slice
                subst hbv
                obtain ⟨BL, hBL⟩ : ∃ BL, BL = B.length := ⟨_, rfl⟩
                obtain ⟨XL, hXL⟩ : ∃ XL, XL = x.length := ⟨_, rfl⟩
                rw [← hXL] at hdv hxl
                rw [← hBL] at obr hfl
                rw [← hBL]
                subst hdv
                have hfs6 : g6 ≠ gL := fun e => hgF (by rw [e]; exact hgR)
                have hs6 : U.heap.size ≤ w6.drew.heap.size := bd.size
                have FIN : Hid (∀ (g' cap' : Nat) (w7 : World), OwnB 0 w7 (.slice (some ⟨g', 0, none⟩) (XL + BL) cap') (x ++ B) → w6.drew.grownBy w7 (Value.slice da XL dc).ownBlock → ((Value.slice da XL dc).ownBlock = some g' ∨ g' = w6.drew.heap.size) →
                    (w7.cell? ⟨gL, m * 2 + 1, none⟩ = some (.slice da XL dc) ∧ w7.frozen? ⟨gL, m * 2 + 1, none⟩ = false) ∧ ((w7.setCell ⟨gL, m * 2 + 1, none⟩ (.slice (some ⟨g', 0, none⟩) (XL + BL) cap')).cell? ⟨g6, 1, none⟩ = some (.int .i64 nx) ∧ (w7.setCell ⟨gL, m * 2 + 1, none⟩ (.slice (some ⟨g', 0, none⟩) (XL + BL) cap')).frozen? ⟨g6, 1, none⟩ = false) ∧ w7.cell? ⟨g6, 0, none⟩ = some (.slice (some ⟨gL, 0, none⟩) m' cc0) ∧
                      Hid (FInv w1 g6 (.slice (some ⟨bw, ow, none⟩) l.2.2.length td) l (k + 1) (.slice (some ⟨gL, 0, none⟩) m' cc0) (wlay R r, nx + 1) ((w7.setCell ⟨gL, m * 2 + 1, none⟩ (.slice (some ⟨g', 0, none⟩) (XL + BL) cap')).setCell ⟨g6, 1, none⟩ (.int .i64 (nx + 1))))) := fun g' cap' w7 o7 k3 k5 => by
                  have hlen : (x ++ B).length = XL + BL := by rw [List.length_append, hXL, hBL]
                  rw [← hlen] at o7
                  obtain ⟨q0, F', q1, q2, q3, q4⟩ := fin w7 g' cap' (x ++ B) o7 k3 k5
                  rw [hlen] at q1 q3 q4
                  have hT7 := (q4 g6 (by omega) hgF).trans hT6
                  obtain ⟨⟨_, t1, _⟩, tf7⟩ := cells3 hT7
                  have hgF' : g6 ∉ F' := fun hm => (q2 _ hm).elim hgF (fun h => by omega)
                  have h60 : w7.cell? ⟨g6, 0, none⟩ = some (.slice (some ⟨gL, 0, none⟩) m' cc0) := by
                    have : w7.heap[g6]? = _ := (Below.heap_setCell w7 ⟨gL, m * 2 + 1, none⟩ (.slice (some ⟨g', 0, none⟩) (XL + BL) cap') g6 hfs6).symm.trans hT7
                    exact (cells3 this).1.1
                  refine ⟨q0, ⟨t1, tf7 1⟩, h60, ⟨set3_1 hT7 _, F', ?_, fun b hb' => (q2 b hb').elim (hFB b) (fun h => by have := hb.size; omega), hgF'⟩, ?_, ?_, ?_, ?_⟩
                  · have := (q1.num (nx + 1)).set (a := ⟨g6, 1, none⟩) hgF' (.int .i64 (nx + 1))
                    rw [hlay.out, ← hB.out]
                    exact this
                  · exact (hb6.trans (q3 w1.heap.size hFB (by have := hb.size; omega))).setCell (p := ⟨g6, 1, none⟩) hl6 _
                  · show (wlay R r).length ≤ 4096
                    rw [hlay.out, List.length_set]; exact hR4
                  · intro s hs
                    rw [hlay.out] at hs
                    rcases List.mem_or_eq_of_mem_set hs with hs | hs
                    · have := hRd.out s hs; omega
                    · subst hs
                      show (x ++ fseal 1 r).length ≤ _
                      rw [← hB.out, hlen]
                      omega
                  · have := hnx.1
                    have := hnx.2
                    exact ⟨by show 0 ≤ nx + 1; omega, by show nx + 1 ≤ 1099511627776; omega⟩
                have T0' := (bd.cell (p := ⟨g6, 0, none⟩) (cell_lt T0)).trans T0
                have hbp : 0 < B.length := by omega
                have hbl : x.length + B.length ≤ 140737488355328 := by omega
                replace hXL := hide hXL
                replace hBL := hide hBL
                replace hfl := hide hfl
                clear hT hF hFB hb HB hT6 hb6 fin T0 T1 T2 tf ob bb
                replace od := hide od
                have hnb0 := hnx.1
                have hnb1 := hnx.2
                go_wp2_with fail
                refine wp_region_mid (fun w' => w'.cell? ⟨g6, 0, none⟩ = some (.slice (some ⟨gL, 0, none⟩) m' cc0) ∧ w'.cell? ⟨gL, m * 2 + 1, none⟩ = some (.slice da XL dc)) 12 13 mixed (by kernel_rfl) (fun _ _ _ _ h => h) ⟨T0', e1⟩ ?_
                dsimp only [List.take, List.drop]
                iterate 12
                  refine take_one (v := ?_) (by rfl) ?_ ?_
                  rotate_left
                  · rintro w' ⟨s1, s2⟩
                    go_simp
                    try with_reducible rfl
                  try simp only [Act.put, List.setIfInBounds_toArray, List.set_cons_zero, List.set_cons_succ]
                refine mid_one fun K hK => ?_
                rw [if_pos (by rfl)]
                refine wp_append_octs_lies _ _ rfl (.slice da XL dc) (.slice ba BL bc) x B (by rfl) (by rfl) od.out obr.out hbp hbl ?_
                intro g' cap' w7 o7 k3 k5
                rw [← hXL.out, ← hBL.out] at o7 ⊢
                obtain ⟨⟨y5, y6⟩, ⟨y7, y8⟩, y9, FF⟩ := FIN.out g' cap' w7 o7 k3 k5
                refine hK _ _ ⟨y9, y5⟩ ?_
                clear hK K o7 k3 k5 FIN
                try simp only [Act.put, List.setIfInBounds_toArray, List.set_cons_zero, List.set_cons_succ]
                show wpList _ _ _ _ _ _
                go_wp2
                go_roundw
                case rel => exact ⟨k + 1, _, _, by omega, by go_num, hput, FF⟩
                case measure => simp [intOf]; omega
        · have hq : ¬ (k : Int) < (l.2.2.length : Int) := by omega
          obtain rfl : k = l.2.2.length := by omega
          have hE := hide (hsome.out (segs, nx) hfs.out)
          have Z2 := (hb.block (w.heap.size + 1) (by omega)).trans Z'.out
          obtain ⟨F', hF', hFs⟩ := OwnF.noWait hF
          have hgF' : g6 ∉ F' := fun h => hgF (hFs _ h)
          have hgF2 : w.heap.size + 1 ∉ F' := fun h => by have := hFB _ (hFs _ h); omega
          subst hcs
          obtain ⟨SL, hSL⟩ : ∃ SL, SL = segs.length := ⟨_, rfl⟩
          rw [← hSL] at hT hF' T0
          have OO := hide ((((hF'.set (a := ⟨g6, 2, none⟩) hgF' (.slice none 0 0)).set (a := ⟨w.heap.size + 1, 0, none⟩) hgF2 (.slice ca SL cc0)).set (a := ⟨w.heap.size + 1, 1, none⟩) hgF2 (.int .i64 nx)).set (a := ⟨w.heap.size + 1, 2, none⟩) hgF2 (.slice none 0 0))
          have hne : w.heap.size + 1 ≠ g6 := by omega
          have Z3 : (wr.setCell ⟨g6, 2, none⟩ (.slice none 0 0)).heap[w.heap.size + 1]? = some (.cells #[.slice none 0 0, .int .i64 0, .slice none 0 0] 25 (0, 0)) := by
            rw [Below.heap_setCell _ _ _ _ hne]; exact Z2
          have T3 := set3_2 hT (.slice none 0 0)
          obtain ⟨⟨v0, v1, v2⟩, _⟩ := cells3 T3
          obtain ⟨⟨z0, z1, z2⟩, zf⟩ := cells3 Z3
          have y0 := zf 0
          have y1 := zf 1
          have y2 := zf 2
          have t2f := tf 2
          have CC := hide ((c1w.out.trans (hb.mono c1w.out.size)).setCell (p := ⟨g6, 2, none⟩) (by show w.heap.size ≤ g6; omega) (.slice none 0 0))
          have FB := hide (fun b hb' => hFB b (hFs b hb'))
          have ZZ := hide Z3
          replace hSL := hide hSL
          clear hT hF hFB hgF hb hI hF' hFs Z2 Z3 T3
          obtain ⟨V, hV⟩ : ∃ V, V = wr.setCell ⟨g6, 2, none⟩ (.slice none 0 0) := ⟨_, rfl⟩
          rw [← hV] at v0 v1 v2 z0 z1 z2 y0 y1 y2 OO CC ZZ
          go_upto_region 19 with fail
          rw [← hV]
          replace hV := hide hV
          go_wp2
          refine retNT rfl rfl (w.heap.size + 1) rfl _ _ (0, 0) (heap_set3 (u := V) ZZ.out _ _ _) _ Try.underlying25 rfl info_lgR _ rfl ?_
          rw [hE.out]
          exact ⟨_, _, rfl, OO.out.own fun b hb => by have := FB.out b hb; omega, below_set3 CC.out (show w.heap.size ≤ w.heap.size + 1 by omega) _ _ _⟩
  · rw [wcheck_no hok] at KC
    have hE := hide (wflush_9 (limit := limit) hok)
    replace hok := hide hok
    go_wp2_with fail
    rw [← hW]
    replace hW := hide hW
    refine KC.out.mono ?_
    rintro e w1 ⟨rfl, b1⟩
    have Z1 := (b1.block _ (lt_of_block hZ)).trans hZ
    obtain ⟨⟨z0, z1, z2⟩, zf⟩ := cells3 Z1
    have y0 := zf 0
    have y1 := zf 1
    have y2 := zf 2
    have cw := bW.trans (b1.mono bW.size)
    clear KC A0 A1 A2
    go_wp2
    refine retNT rfl rfl (w.heap.size + 1) rfl _ _ (0, 0) (heap_set3 (u := w1) Z1 _ _ _) _ Try.underlying25 rfl info_lgR _ rfl ?_
    rw [hE.out]
    exact ⟨_, _, rfl, own_wzero _ _ _, below_set3 cw (show w.heap.size ≤ w.heap.size + 1 by omega) _ _ _⟩

end Go.Proofs.Ytlnoancjegifnaa
