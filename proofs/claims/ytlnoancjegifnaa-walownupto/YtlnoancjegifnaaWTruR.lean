/-
  The page's Truncate of logs: the segments that are left lie behind an offset, so the answer is told by its readings.
-/
import Derived.Test.YtlnoancjegifnaaWFlushR
namespace Go.Proofs.Ytlnoancjegifnaa
open Go.RowKit
set_option linter.unusedVariables false

theorem addr_add0 (b off n : Nat) : (⟨b, off, none⟩ : Addr).add n = ⟨b, off + n, none⟩ := by
  by_cases h : n = 0
  · subst h; simp [Addr.add]
  · simp [Addr.add, h]
/-- a list's rest behind its first -/
theorem rdS_rest {α : Type} {s : Shp α} {w : World} {b o cap : Nat} {x : α} {xs : List α} (h : RdS s w (.slice (some ⟨b, o, none⟩) (xs.length + 1) cap) (x :: xs)) (hc : cap ≠ 1) : RdS s w (.slice (some ⟨b, o + s.n, none⟩) xs.length (cap - 1)) xs := by
  obtain ⟨ao, c, e, l1, m1, n1, r1⟩ := h
  simp only [List.length_cons, Value.slice.injEq] at e l1
  obtain ⟨rfl, _, rfl⟩ := e
  refine ⟨_, cap - 1, rfl, by omega, by omega, by simp, ?_⟩
  rcases r1 with h0 | ⟨b', off, e, hcc⟩
  · cases h0
  · right
    simp only [Option.some.injEq, Addr.mk.injEq, and_true] at e
    obtain ⟨rfl, rfl⟩ := e
    refine ⟨b, o + s.n, rfl, fun i y hy => ?_⟩
    obtain ⟨c, k1, k2⟩ := hcc (i + 1) y (by simpa using hy)
    refine ⟨c, k1, fun j u hj => ?_⟩
    have := k2 j u hj
    rw [show o + s.n + i * s.n + j = o + (i + 1) * s.n + j by rw [Nat.add_mul]; omega]
    exact this
theorem wtr_go {below : Int} {s t : Wrt} {r : List Wrt} (h : t.1 ≤ below) : wtr below (s :: t :: r) = wtr below (t :: r) := if_pos h
theorem wtr_stay {below : Int} {s t : Wrt} {r : List Wrt} (h : ¬ t.1 ≤ below) : wtr below (s :: t :: r) = s :: t :: r := if_neg h
theorem wtr_one {below : Int} {ss : List Wrt} (h : ¬ 1 < ss.length) : wtr below ss = ss := by
  match ss, h with
  | [], _ => rfl
  | [s], _ => rfl
  | s :: t :: r, h => simp at h
theorem wtrunc_9 {l : Wlg} {below : Int} (h : ¬ WOk l) : wtrunc l below = (wzero, 9) := if_neg h
theorem wtrunc_0 {l : Wlg} {below : Int} (h : WOk l) : wtrunc l below = ((wtr below l.1, l.2.1, l.2.2), 0) := if_pos h
def cellLen (w : World) (p : Addr) : Nat := match w.cell? p with | some (.slice _ n _) => n | _ => 0
theorem cellLen_of {w : World} {p : Addr} {a : Option Addr} {n c : Nat} (h : w.cell? p = some (.slice a n c)) : cellLen w p = n := by unfold cellLen; rw [h]

/-- three cells of a block, written -/
abbrev S3 (g : Nat) (w : World) (x y z : Value) : World := ((w.setCell ⟨g, 0, none⟩ x).setCell ⟨g, 1, none⟩ y).setCell ⟨g, 2, none⟩ z
theorem below_both {B : Nat} {w w' : World} (h : Below B w w') (p : Addr) (u : Value) : Below B (w.setCell p u) (w'.setCell p u) := by
  refine ⟨?_, ?_, ?_, ?_, fun k hk => ?_⟩
  · exact h.os
  · simpa using h.tape
  · exact h.output
  · simpa using h.size
  · simp only [World.setCell, Array.getElem?_modify, h.block k hk]
theorem S3.both {g B : Nat} {w w' : World} (h : Below B w w') (x y z : Value) : Below B (S3 g w x y z) (S3 g w' x y z) := below_both (below_both (below_both h _ _) _ _) _ _
theorem S3.size (g : Nat) (w : World) (x y z : Value) : (S3 g w x y z).heap.size = w.heap.size := by simp

set_option maxRecDepth 100000 in
set_option maxHeartbeats 4000000 in
theorem rwtrunc_any (w : World) (sv wv : Value) (l : Wlg) (below : Int) (h1 : RdC w sv l.1) (h2 : RdSec w wv l.2.2) (hm : ∀ s ∈ l.1, s.2.length ≤ 16777216) :
    Calls Try.prog 16 #[.agg #[sv, .int .i64 l.2.1, wv], .int .i64 below] w fun e w' => ∃ sv' wv', e = .returned (.tuple #[.agg #[sv', .int .i64 (wtrunc l below).1.2.1, wv'], .int .i64 (wtrunc l below).2]) ∧ (RdC w' sv' (wtrunc l below).1.1 ∧ RdSec w' wv' (wtrunc l below).1.2.2) ∧ Below w.heap.size w w' := by
  obtain ⟨a1, c1, rfl⟩ := h1.slice
  obtain ⟨a2, c2, rfl⟩ := h2.slice
  obtain ⟨W, hW, hA, hZ, bW, sW⟩ := boxes3 w (.slice a1 l.1.length c1) (.int .i64 l.2.1) (.slice a2 l.2.2.length c2) 25
  have KC := hide (rwcheck_any W _ _ l (h1.to0 bW) (h2.to0 bW) hm)
  obtain ⟨⟨A0, A1, A2⟩, _⟩ := cells3 hA
  rw [hW] at A0 A1 A2
  go_enter Try.func16, Try.ntmps16
  by_cases hok : WOk l
  · rw [wcheck_ok hok] at KC
    go_wp2_with fail
    rw [← hW]
    replace hW := hide hW
    refine KC.out.mono ?_
    rintro e w1 ⟨rfl, b1⟩
    clear KC A0 A1 A2
    have c1w := hide (bW.trans (b1.mono bW.size))
    have A' := (b1.block _ (lt_of_block hA)).trans hA
    have Z' := hide ((b1.block _ (lt_of_block hZ)).trans hZ)
    have s1 : w.heap.size + 1 + 1 ≤ w1.heap.size := by have := b1.size; omega
    have KO := hide (rwown_any w1 _ _ l (h1.to0 c1w.out) (h2.to0 c1w.out) (hok.fit hm))
    have hE := hide (wtrunc_0 (below := below) hok)
    obtain ⟨⟨A0, A1, A2⟩, _⟩ := cells3 A'
    clear hA hZ bW b1 h1 h2 hok
    go_wp2_with fail
    refine KO.out.mono ?_
    rintro e w2 ⟨ts, tw, rfl, o2, b2⟩
    clear KO A0 A1 A2 A'
    obtain ⟨F0, hF0, hFB0⟩ := o2.foot
    obtain ⟨r1, r2⟩ := OwnF.waits hF0
    obtain ⟨ta, tc, hts⟩ := r2.slice
    obtain ⟨tb, td, htw⟩ := r1.slice
    subst hts htw
    obtain ⟨X, hX, X0, bX, sX⟩ := boxedN w2 #[.slice ta l.1.length tc, .int .i64 l.2.1, .slice tb l.2.2.length td] 25
    have c2w := hide (c1w.out.trans (b2.mono c1w.out.size))
    have Z2 := hide ((b2.block _ (lt_of_block Z'.out)).trans Z'.out)
    have s2 : w.heap.size + 1 + 1 ≤ w2.heap.size := by have := b2.size; omega
    have hgF : w.heap.size + 1 ∉ F0 := fun h => by have := hFB0 _ h; omega
    have RS : ∀ x y z, RdSec (S3 (w.heap.size + 1) w2 x y z) (.slice tb l.2.2.length td) l.2.2 ∧ RdC (S3 (w.heap.size + 1) w2 x y z) (.slice ta l.1.length tc) l.1 := fun x y z =>
      OwnF.waits (((hF0.set (a := ⟨w.heap.size + 1, 0, none⟩) hgF x).set (a := ⟨w.heap.size + 1, 1, none⟩) hgF y).set (a := ⟨w.heap.size + 1, 2, none⟩) hgF z)
    have R1 := hide (fun x y z => (RS x y z).1)
    have ST0 : Hid ((RdC w2 (.slice ta l.1.length tc) l.1 ∧ ∀ x y z, RdC (S3 (w.heap.size + 1) w2 x y z) (.slice ta l.1.length tc) l.1) ∧ X.heap[w2.heap.size]? = some (.cells #[.slice ta l.1.length tc, .int .i64 l.2.1, .slice tb l.2.2.length td] 25 (0, 0)) ∧ Below w2.heap.size w2 X) := ⟨⟨r2, fun x y z => (RS x y z).2⟩, X0, bX⟩
    clear RS hF0 hFB0 o2 b2 bX X0 r1 r2 Z' c1w
    go_wp2
    rw [← hX]
    replace hX := hide hX
    go_loopw [] (fun wr => ∃ (ss : List Wrt) (A : Option Addr) (c : Nat), Hid ((RdC w2 (.slice A ss.length c) ss ∧ ∀ x y z, RdC (S3 (w.heap.size + 1) w2 x y z) (.slice A ss.length c) ss) ∧ wr.heap[w2.heap.size]? = some (.cells #[.slice A ss.length c, .int .i64 l.2.1, .slice tb l.2.2.length td] 25 (0, 0)) ∧ Below w2.heap.size w2 wr) ∧ Hid (wtr below ss = wtr below l.1)) (fun wr => cellLen wr ⟨w2.heap.size, 0, none⟩)
    case atStart => exact ⟨l.1, ta, tc, ST0, hide rfl⟩
    case round =>
      obtain ⟨ss, A, c, hI, hS⟩ := hrel
      clear ST0
      obtain ⟨⟨hR, hRx⟩, hT, hb⟩ := hI.out
      obtain ⟨⟨T0, T1, T2⟩, tf⟩ := cells3 hT
      have f0 := tf 0
      have FIN : Hid (wtr below ss = ss → ∀ x y z, RdC (S3 (w.heap.size + 1) wr x y z) (.slice A ss.length c) (wtr below l.1) ∧ RdSec (S3 (w.heap.size + 1) wr x y z) (.slice tb l.2.2.length td) l.2.2) := fun h x y z => by
        have hb3 := S3.both (g := w.heap.size + 1) hb x y z
        rw [← hS.out, h]
        exact ⟨(hRx x y z).to (by rw [S3.size]; exact Nat.le_refl _) hb3, (R1.out x y z).to (by rw [S3.size]; exact Nat.le_refl _) hb3⟩
      have Z3 := hide ((hb.block _ (show w.heap.size + 1 < w2.heap.size by omega)).trans Z2.out)
      obtain ⟨⟨z0, z1, z2⟩, zf⟩ := cells3 Z3.out
      have y0 := zf 0
      have y1 := zf 1
      have y2 := zf 2
      have HB := hide hb
      have HT := hide hT
      by_cases hlt : 1 < ss.length
      · obtain ⟨s, t, r, rfl⟩ : ∃ s t r, ss = s :: t :: r := by
          match ss, hlt with
          | s :: t :: r, _ => exact ⟨s, t, r, rfl⟩
        obtain ⟨b1, o1, u, rfl, hc0, hc1, hru⟩ := (hR.to0 hb).wrt (y := t) (show (s :: t :: r)[1]? = some t from rfl)
        have hcap : r.length + 1 + 1 ≤ c := by
          obtain ⟨_, _, e, l1, _⟩ := hR
          simp only [Value.slice.injEq, List.length_cons] at e l1
          omega
        have hc1' : c ≠ 1 := by omega
        obtain ⟨m, hm2⟩ : ∃ m, m = r.length + 1 := ⟨_, rfl⟩
        have el : (s :: t :: r).length = m + 1 := by rw [hm2]; rfl
        rw [el] at T0 FIN hR hRx hT HT
        have hR2 := hide (rdS_rest (x := s) (xs := t :: r) (by rw [show (t :: r).length = m by rw [hm2]; rfl]; exact hR) hc1')
        have hR3 : Hid (∀ x y z, RdC (S3 (w.heap.size + 1) w2 x y z) (.slice (some ⟨b1, o1 + 2, none⟩) (t :: r).length (c - 1)) (t :: r)) := fun x y z => rdS_rest (x := s) (xs := t :: r) (by rw [show (t :: r).length = m by rw [hm2]; rfl]; exact hRx x y z) hc1'
        have hq : (1 : Int) < ((m : Int) + 1) := by omega
        by_cases hle : t.1 ≤ below
        · have hS' : Hid (wtr below (t :: r) = wtr below l.1) := by have := hS.out; rw [wtr_go hle] at this; exact this
          have hT' := hide (set3_0 hT (.slice (some ⟨b1, o1 + 2, none⟩) m (c - 1)))
          have hb' := hide (hb.setCell (p := ⟨w2.heap.size, 0, none⟩) (Nat.le_refl _) (.slice (some ⟨b1, o1 + 2, none⟩) m (c - 1)))
          replace hm2 := hide hm2
          clear el
          replace hcap := hide hcap
          clear hI hS hT hb hR hRx FIN hru hc1
          go_wp2
          go_roundw
          case rel => exact ⟨t :: r, some ⟨b1, o1 + 2, none⟩, c - 1, hide ⟨⟨hR2.out, hR3.out⟩, by rw [show (t :: r).length = m by rw [hm2.out]; rfl]; exact hT'.out, hb'.out⟩, hS'⟩
          case measure => rw [cellLen_of T0, cellLen_of (cells3 hT'.out).1.1]; omega
        · have hE2 := hide (FIN.out (wtr_stay hle))
          replace hm2 := hide hm2
          clear el hI hS hT hb hR hRx hru hc1 hR2 hR3 FIN
          go_wp2
          refine retNT rfl rfl (w.heap.size + 1) rfl _ _ (0, 0) (heap_set3 (u := wr) Z3.out _ _ _) _ Try.underlying25 rfl info_lgR _ rfl ?_
          rw [hE.out]
          exact ⟨_, _, rfl, hE2.out _ _ _, below_set3 (c2w.out.trans (HB.out.mono c2w.out.size)) (show w.heap.size ≤ w.heap.size + 1 by omega) _ _ _⟩
      · have hE2 := hide (FIN.out (wtr_one hlt))
        obtain ⟨m, hm2⟩ : ∃ m, m = ss.length := ⟨_, rfl⟩
        have hq : ¬ (1 : Int) < (m : Int) := by omega
        rw [← hm2] at T0 hE2 HT
        replace hm2 := hide hm2
        clear hI hS hT hb hR hRx FIN hlt
        go_wp2
        refine retNT rfl rfl (w.heap.size + 1) rfl _ _ (0, 0) (heap_set3 (u := wr) Z3.out _ _ _) _ Try.underlying25 rfl info_lgR _ rfl ?_
        rw [hE.out]
        exact ⟨_, _, rfl, hE2.out _ _ _, below_set3 (c2w.out.trans (HB.out.mono c2w.out.size)) (show w.heap.size ≤ w.heap.size + 1 by omega) _ _ _⟩
  · rw [wcheck_no hok] at KC
    have hE := hide (wtrunc_9 (below := below) hok)
    replace hok := hide hok
    go_wp2_with fail
    rw [← hW]
    replace hW := hide hW
    refine KC.out.mono ?_
    rintro e w1 ⟨rfl, b1⟩
    have Z1 := (b1.block _ (lt_of_block hZ)).trans hZ
    obtain ⟨⟨z0, z1, z2⟩, zf⟩ := cells3 Z1
    have y0 := zf 0
    have y1 := zf 1
    have y2 := zf 2
    have cw := bW.trans (b1.mono bW.size)
    clear KC A0 A1 A2
    go_wp2
    refine retNT rfl rfl (w.heap.size + 1) rfl _ _ (0, 0) (heap_set3 (u := w1) Z1 _ _ _) _ Try.underlying25 rfl info_lgR _ rfl ?_
    rw [hE.out]
    exact ⟨_, _, rfl, ⟨RdS.nil _ _, RdS.nil _ _⟩, below_set3 cw (show w.heap.size ≤ w.heap.size + 1 by omega) _ _ _⟩

end Go.Proofs.Ytlnoancjegifnaa
