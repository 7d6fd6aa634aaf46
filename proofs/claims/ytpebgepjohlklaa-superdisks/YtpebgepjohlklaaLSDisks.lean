/-
  PROVED: whatever disk and block come in, transeptlaw06.SuperDisks returns true and leaves them as they were: the statement of P6.2 (on any disk: what is loaded, and the disk behind a store, are the page's; the disk that was handed in stays).
-/
import Derived.Test.YtpebgepjohlklaaShpIn
import Derived.Test.YtpebgepjohlklaaSDecR
import Derived.Test.YtpebgepjohlklaaDFlushR
import Derived.Test.YtpebgepjohlklaaDOwnR
import Derived.Test.YtpebgepjohlklaaProg
import Derived.Test.YtpebgepjohlklaaBase
import Derived.Test.YtpebgepjohlklaaDMath
import Derived.Deep.CutRange
import Derived.Test.YtpebgepjohlklaaSStore
/-
  What a law's walk is told of a superblock, and of a bool, that came in; the law's own num.
-/
namespace Go.Proofs.Ytpebgepjohlklaa
open Go.ChangeShapes Go.WideShapes Go.ChangeAt Go.RowKit
set_option linter.unusedVariables false

abbrev SBlk : Shp Blk := (Shp.int .i64).pair ((Shp.int .i64).pair ((Shp.int .i64).pair ((Shp.int .i64).pair (Shp.int .i64))))
def bwf (z : Blk) : Prop := (Lit.int .i64 z.1).wf = true ∧ (Lit.int .i64 z.2.1).wf = true ∧ (Lit.int .i64 z.2.2.1).wf = true ∧ (Lit.int .i64 z.2.2.2.1).wf = true ∧ (Lit.int .i64 z.2.2.2.2).wf = true
set_option maxRecDepth 100000 in
theorem Opens.five {t : TypeId} {f0 f1 f2 f3 f4 : Field} (o0 : Opens (Shp.int .i64) f0.type (fun z => (Lit.int .i64 z).wf = true) (fun _ => 1)) (o1 : Opens (Shp.int .i64) f1.type (fun z => (Lit.int .i64 z).wf = true) (fun _ => 1)) (o2 : Opens (Shp.int .i64) f2.type (fun z => (Lit.int .i64 z).wf = true) (fun _ => 1)) (o3 : Opens (Shp.int .i64) f3.type (fun z => (Lit.int .i64 z).wf = true) (fun _ => 1)) (o4 : Opens (Shp.int .i64) f4.type (fun z => (Lit.int .i64 z).wf = true) (fun _ => 1))
    (ht : Try.prog.underlying t = some (.struct #[f0, f1, f2, f3, f4])) (hc : Try.prog.cellsOf t = 5) (h0 : f0.offset = 0) (h1 : f1.offset = 1) (h2 : f2.offset = 2) (h3 : f3.offset = 3) (h4 : f4.offset = 4) :
    Opens SBlk t bwf (fun _ => 5) := by
  refine ⟨hc, fun {H enc W fuel cs x} h => ?_⟩
  obtain ⟨xs, k, hk, hxy, hlen, hxl, hf⟩ := DataW.trod_struct ht h
  match xs, hxl with
  | [y0, y1, y2, y3, y4], _ =>
    have g0 := hf 0 f0 rfl
    have g1 := hf 1 f1 rfl
    have g2 := hf 2 f2 rfl
    have g3 := hf 3 f3 rfl
    have g4 := hf 4 f4 rfl
    rw [hc] at hlen
    match cs, hlen with
    | [c0, c1, c2, c3, c4], _ =>
      rw [h0, o0.cells] at g0
      rw [h1, o1.cells] at g1
      rw [h2, o2.cells] at g2
      rw [h3, o3.cells] at g3
      rw [h4, o4.cells] at g4
      obtain ⟨a0, r0, w0, b0⟩ := o0.opened (cs := [c0]) (x := y0) g0
      obtain ⟨a1, r1, w1, b1⟩ := o1.opened (cs := [c1]) (x := y1) g1
      obtain ⟨a2, r2, w2, b2⟩ := o2.opened (cs := [c2]) (x := y2) g2
      obtain ⟨a3, r3, w3, b3⟩ := o3.opened (cs := [c3]) (x := y3) g3
      obtain ⟨a4, r4, w4, b4⟩ := o4.opened (cs := [c4]) (x := y4) g4
      obtain ⟨d, pl⟩ := x
      simp only [Prod.mk.injEq] at hxy
      obtain ⟨rfl, _⟩ := hxy
      refine ⟨(a0, a1, a2, a3, a4), ⟨[c0], [c1, c2, c3, c4], rfl, r0, ⟨[c1], [c2, c3, c4], rfl, r1, ⟨[c2], [c3, c4], rfl, r2, ⟨[c3], [c4], rfl, r3, r4⟩⟩⟩⟩, fun hw => ⟨w0 fun n hn => hw n ?_, w1 fun n hn => hw n ?_, w2 fun n hn => hw n ?_, w3 fun n hn => hw n ?_, w4 fun n hn => hw n ?_⟩, ?_⟩
      · simp only [DataW.weights, ht]
        exact DataW.weights_mem_each (j := 0) (t := f0.type) (d := y0.1) rfl rfl n hn
      · simp only [DataW.weights, ht]
        exact DataW.weights_mem_each (j := 1) (t := f1.type) (d := y1.1) rfl rfl n hn
      · simp only [DataW.weights, ht]
        exact DataW.weights_mem_each (j := 2) (t := f2.type) (d := y2.1) rfl rfl n hn
      · simp only [DataW.weights, ht]
        exact DataW.weights_mem_each (j := 3) (t := f3.type) (d := y3.1) rfl rfl n hn
      · simp only [DataW.weights, ht]
        exact DataW.weights_mem_each (j := 4) (t := f4.type) (d := y4.1) rfl rfl n hn
      · simp only [List.map_cons, List.map_nil, Rows.uptoBulk, Rows.uptoBulkAll]
        omega
set_option maxRecDepth 100000 in
theorem open_blk : Opens SBlk 23 bwf (fun _ => 5) :=
  Opens.five (opens_intw Try.underlying3 (by kernel_rfl)) (opens_intw Try.underlying3 (by kernel_rfl)) (opens_intw Try.underlying3 (by kernel_rfl)) (opens_intw Try.underlying3 (by kernel_rfl)) (opens_intw Try.underlying3 (by kernel_rfl)) Try.underlying23 (by kernel_rfl) rfl rfl rfl rfl rfl
theorem blk_form {w : World} {cs : Array Value} {b : Blk} (h : SBlk.rd w cs.toList b) : cs = #[.int .i64 b.1, .int .i64 b.2.1, .int .i64 b.2.2.1, .int .i64 b.2.2.2.1, .int .i64 b.2.2.2.2] := by
  obtain ⟨c0, d0, hc, h0, ⟨c1, d1, e1, h1, ⟨c2, d2, e2, h2, ⟨c3, d3, e3, h3, h4⟩⟩⟩⟩ := h
  have h0' : c0 = [Value.int .i64 b.1] := h0
  have h1' : c1 = [Value.int .i64 b.2.1] := h1
  have h2' : c2 = [Value.int .i64 b.2.2.1] := h2
  have h3' : c3 = [Value.int .i64 b.2.2.2.1] := h3
  have h4' : d3 = [Value.int .i64 b.2.2.2.2] := h4
  subst h0' h1' h2' h3' h4'
  subst e3
  subst e2
  subst e1
  cases cs
  simpa using hc
theorem wf_int6 {z : Int} (h : (Lit.int .i64 z).wf = true) : -9223372036854775808 ≤ z ∧ z ≤ 9223372036854775807 := by
  simpa [Lit.wf, IntKind.min, IntKind.max, IntKind.signed, IntKind.bits] using h
/-- a bool that came in -/
theorem open_flag {H : Type} {enc : TypeId × Value → H} {P : Program} {w : World} {base : Nat} {spare : Nat → Bool} {held : Bool} {r : Reach} {b0 : Nat} {t : TypeId} {v : Value} {d : DataW H} {ps : List MemPlace} (ht : P.underlying t = some .bool) (hval : Value.okWide P w r b0 t v) (hd : DataW.Trod enc P w base spare held t v d ps) :
    ∃ b, v = .bool b ∧ d = .lit (.bool b) ∧ ps = [] := by
  obtain ⟨b, rfl⟩ := okWide_bool ht hval
  obtain ⟨fuel, hf⟩ := hd
  obtain ⟨b', h, hx⟩ := DataW.trod_bool ht hf
  simp [Value.cells] at h
  subst h
  simp only [Prod.mk.injEq] at hx
  exact ⟨b, rfl, hx.1, hx.2⟩
set_option maxRecDepth 100000 in
theorem num6_any (w : World) (n : Int) : Calls Try.prog 15 #[.int .i64 n] w fun e w' => e = .returned (.int .i64 n) ∧ w = w' := by
  go_enter Try.func15, Try.ntmps15
  go_wp2
  go_ret
  exact ⟨rfl, rfl⟩

end Go.Proofs.Ytpebgepjohlklaa

/-
  The law's own 'alive' (the page's example of super) answers true; it makes memory of its own and changes none that was there.
-/
namespace Go.Proofs.Ytpebgepjohlklaa
open Go.RowKit
set_option linter.unusedVariables false

theorem bok_zero : bok (0, 0, 0, 0, 0) := by decide
set_option maxRecDepth 100000 in
set_option maxHeartbeats 2000000 in
theorem salive_any (w : World) : Calls Try.prog 18 #[] w fun e w' => e = .returned (.bool true) ∧ Below w.heap.size w w' := by
  have KE := hide (pencode_any w (0, 0, 0, 0, 0))
  rw [senc_ok bok_zero] at KE
  dsimp only at KE
  obtain ⟨Y, hY⟩ : ∃ Y, Y = sencO (0, 0, 0, 0, 0) := ⟨_, rfl⟩
  have hYl : Y.length = 64 := by rw [hY]; exact sencO_len _
  have hY4 : Y.take 4 = smark := by rw [hY]; exact senc_take4 _
  have hYd : sdec Y = ((0, 0, 0, 0, 0), 0) := by rw [hY]; exact sdec_enc bok_zero
  rw [← hY] at KE
  clear hY
  go_enter Try.func18, Try.ntmps18
  go_wp2_with fail
  refine KE.out.mono ?_
  rintro e w1 ⟨v1, rfl, o1, b1⟩
  clear KE
  obtain ⟨b, o, c, rfl, hc, hcm, hR⟩ := rd64 o1.rd hYl
  have KD := hide (pdecode_any w1 _ Y o1.rd)
  rw [hYd] at KD
  dsimp only at KD
  have r4 : Rd w1 (.slice (some ⟨b, o, none⟩) 4 c) (Y.take 4) := by simpa using hR 0 4 (by omega) (by omega)
  rw [hY4] at r4
  clear hR o1 hYl hY4 hYd
  go_wp2_with fail
  refine KD.out.mono ?_
  rintro e w2 ⟨rfl, b2⟩
  clear KD
  have k4 := conv_rd (r4.to b2) (by decide)
  have hq4 : (4 : Int) ≤ (c : Int) := by omega
  obtain ⟨X, hX, X0, bX, sX⟩ := boxedN w2 #[.int .i64 0, .int .i64 0, .int .i64 0, .int .i64 0, .int .i64 0] 28
  have k4' := conv_rd ((r4.to b2).to bX) (by decide)
  have c2 := b1.trans (b2.mono b1.size)
  have cX := hide (c2.trans (bX.mono c2.size))
  obtain ⟨⟨r0, r1, r2, r3, r4'⟩, _⟩ := cells5 X0
  clear b1 b2 c2 bX r4 k4
  go_upto_region 3 with fail
  rw [← hX]
  obtain ⟨gx, hgx⟩ : ∃ g, g = w2.heap.size := ⟨_, rfl⟩
  rw [← hgx] at r0 r1 r2 r3 r4' ⊢
  replace hX := hide hX
  replace hgx := hide hgx
  go_wp2_with fail
  refine (num6_any _ _).mono ?_
  rintro e w' ⟨rfl, rfl⟩
  go_wp2_with fail
  refine (num6_any _ _).mono ?_
  rintro e w' ⟨rfl, rfl⟩
  go_wp2
  go_ret
  exact ⟨rfl, cX.out⟩

end Go.Proofs.Ytpebgepjohlklaa

/-
  What a law's walk is told of a disk's state, of marks and of lists that came in.
-/
namespace Go.Proofs.Ytpebgepjohlklaa
open Go.ChangeShapes Go.WideShapes Go.ChangeAt Go.RowKit
set_option linter.unusedVariables false

theorem open_sectors : Opens SSec 45 (fun xs => xs.length * 24 ≤ 140737488351232 ∧ ∀ x ∈ xs, x.length ≤ 140737488351232) (fun xs => (xs.map (fun x => x.length)).sum) :=
  opens_octs.list Try.underlying45 (by kernel_rfl) (by kernel_rfl) (by decide)
theorem open_write : Opens SWr 86 (fun z => True ∧ z.2.length ≤ 140737488351232) (fun z => 1 + z.2.length) :=
  (opens_int Try.underlying3 (by kernel_rfl)).pair opens_octs Try.underlying86 (by kernel_rfl) rfl rfl
theorem open_cache : Opens SCacheR 46 (fun xs => xs.length * 32 ≤ 140737488351232 ∧ ∀ z ∈ xs, True ∧ z.2.length ≤ 140737488351232) (fun xs => (xs.map (fun z => 1 + z.2.length)).sum) :=
  open_write.list Try.underlying46 (by kernel_rfl) (by kernel_rfl) (by decide)
theorem open_state : Opens SStR 48 (fun z => (z.1.length * 24 ≤ 140737488351232 ∧ ∀ x ∈ z.1, x.length ≤ 140737488351232) ∧ (z.2.length * 32 ≤ 140737488351232 ∧ ∀ y ∈ z.2, True ∧ y.2.length ≤ 140737488351232)) (fun z => (z.1.map (fun x => x.length)).sum + (z.2.map (fun y => 1 + y.2.length)).sum) :=
  open_sectors.pair open_cache Try.underlying48 (by kernel_rfl) rfl rfl
theorem open_bools : Opens SKeep 111 (fun xs => xs.length * 1 ≤ 140737488351232 ∧ ∀ x ∈ xs, True) (fun xs => (xs.map (fun _ => 1)).sum) :=
  (opens_bool Try.underlying4 (by kernel_rfl)).list Try.underlying111 (by kernel_rfl) (by kernel_rfl) (by decide)
abbrev SInts : Shp (List Int) := Shp.list 3 (Shp.int .i64)

theorem state_fit {d : Dsk} (h : (d.1.length * 24 ≤ 140737488351232 ∧ ∀ x ∈ d.1, x.length ≤ 140737488351232) ∧ (d.2.length * 32 ≤ 140737488351232 ∧ ∀ y ∈ d.2, True ∧ y.2.length ≤ 140737488351232)) : dfit d :=
  ⟨h.1.1, h.1.2, h.2.1, fun y hy => (h.2.2 y hy).2⟩
theorem state_form {w : World} {cs : Array Value} {d : Dsk} (h : SStR.rd w cs.toList d) : ∃ sv cv, cs = #[sv, cv] ∧ RdSec w sv d.1 ∧ RdC w cv d.2 := by
  obtain ⟨c, e, hc, ⟨v1, rfl, r1⟩, ⟨v2, rfl, r2⟩⟩ := h
  refine ⟨v1, v2, ?_, r1, r2⟩
  cases cs
  simpa using hc

end Go.Proofs.Ytpebgepjohlklaa

/-
  The law's Of: the page's state for the program, in memory of its own.
-/
namespace Go.Proofs.Ytpebgepjohlklaa
open Go.RowKit
set_option linter.unusedVariables false

set_option maxRecDepth 100000 in
set_option maxHeartbeats 2000000 in
theorem of_any (w : World) (sv cv : Value) (d : Dsk) (h1 : RdSec w sv d.1) (h2 : RdC w cv d.2) (hf : dfit d) :
    Calls Try.prog 19 #[.agg #[sv, cv]] w fun e w' => ∃ sv' cv', e = .returned (.agg #[sv', cv']) ∧ Own SStP w.heap.size w' [sv', cv'] d ∧ Below w.heap.size w w' := by
  obtain ⟨j0, ji, jz0, jz1, jz2⟩ := info_parts infoW
  obtain ⟨f1, f2, f3, f4⟩ := hf
  obtain ⟨a1, c1, rfl⟩ := h1.slice
  obtain ⟨a2, c2, rfl⟩ := h2.slice
  obtain ⟨W, hW⟩ : ∃ W, W = (w.alloc (.cells #[.slice a1 d.1.length c1, .slice a2 d.2.length c2] 48)).alloc (.cells #[.slice none 0 0, .slice none 0 0] 51) := ⟨_, rfl⟩
  have bW : Below w.heap.size w W := by rw [hW]; exact ((Below.refl _ _).alloc (Nat.le_refl _) _).alloc (by simp) _
  have sW : W.heap.size = w.heap.size + 1 + 1 := by rw [hW]; simp
  have hA : W.heap[w.heap.size]? = some (.cells #[.slice a1 d.1.length c1, .slice a2 d.2.length c2] 48 (0, 0)) := by
    rw [hW, Below.heap_alloc _ _ _ (by simp)]; exact heap_alloc_last w _
  have hZ : W.heap[w.heap.size + 1]? = some (.cells #[.slice none 0 0, .slice none 0 0] 51 (0, 0)) := by
    rw [hW]; have := heap_alloc_last (w.alloc (.cells #[.slice a1 d.1.length c1, .slice a2 d.2.length c2] 48)) (.cells #[.slice none 0 0, .slice none 0 0] 51); simpa using this
  have q1 := h1.to0 bW
  obtain ⟨A0, _, _, _⟩ := row2_cells hA
  have HA := hide hA
  have HZ := hide hZ
  have BW := hide bW
  clear hA hZ bW
  go_enter Try.func19, Try.ntmps19
  go_wp2_with fail
  rw [← hW]
  replace hW := hide hW
  refine (copyLists_any _ _ d.1 q1 f1 f2).mono ?_
  rintro e w1 ⟨v1, rfl, o1, b1⟩
  obtain ⟨al, cl, rfl⟩ := o1.rdS.slice
  obtain ⟨X, hX, X0, X1, bX, sX⟩ := boxed2 w1 (.slice al d.1.length cl) (.slice none 0 0) 51
  have hTX : X.heap[w1.heap.size]? = some (.cells #[.slice al d.1.length cl, .slice none 0 0] 51 (0, 0)) := by rw [hX]; exact heap_alloc_last w1 _
  obtain ⟨gb, hgbe⟩ : ∃ gb, gb = w1.heap.size := ⟨_, rfl⟩
  have hgb : w.heap.size + 1 + 1 ≤ gb := by have := b1.size; omega
  rw [← hgbe] at hTX
  obtain ⟨F1, p1, p2⟩ := o1.foot
  have hnF : gb ∉ F1 := fun hm => by have := p1.lt gb hm; omega
  have nilF : OwnF SCacheP [] X [.slice none 0 0] [] := ⟨⟨_, [], [], rfl, World.ownsRow_nil _ _ _ _, ⟨rfl, rfl⟩, by simp [Value.ownBlock]⟩, List.nodup_nil⟩
  have st1 : BoxSt SStP 51 gb (w.heap.size + 1 + 1) X (.slice al d.1.length cl) (.slice none 0 0) (d.1, []) :=
    ⟨hTX, F1 ++ [], OwnF.join (p1.to bX) nilF (fun b _ h => by cases h), fun b hb => by rw [List.append_nil] at hb; have := p2 b hb; omega, by rw [List.append_nil]; exact hnF⟩
  have ST1 := hide st1
  have HB : Hid (Below (w.heap.size + 1 + 1) W X) := (b1.mono (by omega)).trans (bX.mono (by omega))
  replace hgbe := hide hgbe
  clear st1 nilF p1 p2 hnF o1 b1 hTX X0 X1 bX
  go_wp2
  rw [← hX, ← hgbe.out]
  replace hX := hide hX
  go_loopw [4] (fun i wr => ∃ (k : Nat) (c : Value), k ≤ d.2.length ∧ i = .int .i64 k ∧ BoxSt SStP 51 gb (w.heap.size + 1 + 1) wr (.slice al d.1.length cl) c (d.1, d.2.take k) ∧ Below (w.heap.size + 1 + 1) W wr) (fun i _ => d.2.length - (intOf i).toNat)
  case atStart => exact ⟨0, _, Nat.zero_le _, rfl, ST1.out, HB.out⟩
  case round =>
    obtain ⟨k, c, hk, rfl, ⟨hT, F, hF, hFB, hgF⟩, hb⟩ := hrel
    clear ST1 HB
    have hA := (hb.block w.heap.size (by omega)).trans HA.out
    obtain ⟨A0, A1, _, _⟩ := row2_cells hA
    obtain ⟨T0, T1, _, _⟩ := row2_cells hT
    have hsz : gb < wr.heap.size := lt_of_block hT
    have cw := BW.out.trans (hb.mono (show w.heap.size ≤ w.heap.size + 1 + 1 by omega))
    by_cases hlt : k < d.2.length
    · have hq : (k : Int) < (d.2.length : Int) := by omega
      obtain ⟨y, hyk, hym⟩ := some_at d.2 hlt
      obtain ⟨b1, o1, u, rfl, hc1, hc2, hr⟩ := (h2.to0 cw).wrt hyk
      obtain ⟨_, _, _, e', hcw, _, _⟩ := h2.wrt hyk
      cases e'
      obtain ⟨au, cu, rfl⟩ := hr.slice
      obtain ⟨cc, rowT, fin⟩ := OwnF.litSnd (c0 := [.slice al d.1.length cl]) hF rfl (n := k) (by simp; omega)
      have hsn := snoc_take d.2 hyk
      have hxl := f4 y hym
      obtain ⟨z, x⟩ := y
      dsimp only at hc1 hc2 hr hxl
      have FIN : Hid (∀ (w2 : World) (v2 : Value) (w5 : World) (g cap : Nat), Below wr.heap.size wr.drew w2 → OwnB wr.heap.size w2 v2 x → (w2.alloc (.cells #[.int .i64 z, v2] 87)).grownBy w5 c.ownBlock →
          w5.ownsRow 0 87 2 (.slice (some ⟨g, 0, none⟩) (k + 1) cap) (k + 1) (cc ++ [.int .i64 z, v2]) → (c.ownBlock = some g ∨ g = w2.heap.size + 1) →
          (w5.cell? ⟨gb, 1, none⟩ = some c ∧ w5.frozen? ⟨gb, 1, none⟩ = false ∧ Below (w.heap.size + 1 + 1) wr w5) ∧ Hid (BoxSt SStP 51 gb (w.heap.size + 1 + 1) (w5.setCell ⟨gb, 1, none⟩ (.slice (some ⟨g, 0, none⟩) (k + 1) cap)) (.slice al d.1.length cl) (.slice (some ⟨g, 0, none⟩) (k + 1) cap) (d.1, d.2.take (k + 1)) ∧ Below (w.heap.size + 1 + 1) W (w5.setCell ⟨gb, 1, none⟩ (.slice (some ⟨g, 0, none⟩) (k + 1) cap)))) := fun w2 v2 w5 g cap k1 k2 k3 k4 k5 => by
        obtain ⟨⟨F', q1, q2⟩, q3, q4⟩ := fin w2 [.int .i64 z, v2] (z, x) 87 _ w5 g cap ((Below.refl _ _).drew.trans k1) (own_wrt k2) rfl rfl rfl rfl k3 k4 k5
        rw [hsn] at q1
        have hT5 := (q4 _ hsz hgF).trans hT
        obtain ⟨_, t0, _, t2⟩ := row2_cells hT5
        have hgF' : gb ∉ F' := fun hm => (q2 _ hm).elim hgF (fun h => by omega)
        refine ⟨⟨t0, t2, q3 (w.heap.size + 1 + 1) hFB (by omega)⟩, ⟨set_row1 hT5 _, F', q1.set hgF' _, fun b hb' => (q2 b hb').elim (hFB b) (fun h => by omega), hgF'⟩, ?_⟩
        exact (hb.trans (q3 (w.heap.size + 1 + 1) hFB (by omega))).setCell (p := ⟨gb, 1, none⟩) hgb _
      have ROW : Hid (∀ u, Below wr.heap.size wr.drew u → ∀ o : Obj, (u.alloc o).ownsRow 0 87 2 c k cc) := fun u hu o => rowT _ (((Below.refl _ _).drew.trans hu).alloc hu.size o)
      have KS := hide (copy_any wr.drew _ x (hr.to (Below.refl _ _).drew) (by omega))
      have h63 : k + 1 ≤ maxLen := by rw [show maxLen = 9223372036854775807 from rfl]; omega
      have hby : (k + 1) * 32 ≤ 140737488355328 := by omega
      clear fin rowT hsn hF hFB hr hb hyk hym hT hA cw
      obtain ⟨ll, lc, hl⟩ : ∃ ll lc, c = .slice ll k lc := by
        rcases (ROW.out wr.drew (Below.refl _ _) (.cells #[] 0)).2 with ⟨rfl, rfl⟩ | ⟨g, cap, cur, rfl, _⟩
        · exact ⟨_, _, rfl⟩
        · exact ⟨_, _, rfl⟩
      subst hl
      have hbl : b1 < w.heap.size := cell_lt hcw
      generalize x.length = L at *
      go_wp2
      refine wp_region_mid (fun w' => w'.cell? ⟨w.heap.size, 1, none⟩ = some (.slice (some ⟨b1, o1, none⟩) d.2.length c2) ∧ w'.cell? ⟨b1, o1 + k * 2, none⟩ = some (.int .i64 z) ∧ w'.cell? ⟨b1, o1 + k * 2 + 1, none⟩ = some (.slice au L cu) ∧ w'.cell? ⟨gb, 1, none⟩ = some (.slice ll k lc)) 14 17 mixed (by kernel_rfl) (fun _ _ _ _ h => h) ⟨A1, hc1, hc2, T1⟩ ?_
      dsimp only [List.take, List.drop]
      iterate 14
        refine take_one (v := ?_) (by rfl) ?_ ?_
        rotate_left
        · rintro w' ⟨s1, s2, s3, s4⟩
          go_simp
          try with_reducible rfl
        try simp only [Act.put, List.setIfInBounds_toArray, List.set_cons_zero, List.set_cons_succ]
      refine mid_one fun K hK => ?_
      refine step_call (by rfl) 27 _ _ (by rfl) #[.slice au L cu] (by simp [Act.eval]) (Try.call27 _ _) KS.out ?_
      rintro e w2 ⟨v2, rfl, o2, b2⟩
      obtain ⟨av, cv2, hv2⟩ := o2.rd.slice
      subst hv2
      have x0 := (b2.cell (p := ⟨w.heap.size, 1, none⟩) (cell_lt A1)).trans A1
      have x1 := (b2.cell (p := ⟨b1, o1 + k * 2, none⟩) (cell_lt hc1)).trans hc1
      have x2 := (b2.cell (p := ⟨b1, o1 + k * 2 + 1, none⟩) (cell_lt hc2)).trans hc2
      have x3 := (b2.cell (p := ⟨gb, 1, none⟩) (cell_lt T1)).trans T1
      refine ⟨_, rfl, hK _ _ ⟨x0, x1, x2, x3⟩ ?_⟩
      clear hK K
      try simp only [Act.put, List.setIfInBounds_toArray, List.set_cons_zero, List.set_cons_succ]
      refine mid_one fun K hK => ?_
      rw [if_pos (by rfl)]
      go_simp
      refine hK _ _ ⟨x0, x1, x2, x3⟩ ?_
      clear hK K
      refine mid_one fun K hK => ?_
      rw [if_pos (by rfl)]
      go_simp
      refine hK _ _ ⟨cell_alloc x0 _, cell_alloc x1 _, cell_alloc x2 _, cell_alloc x3 _⟩ ?_
      clear hK K
      show wpList _ _ _ _ _ _
      go_wp2_with (at_builtin; refine wpList_append_lies _ rfl _ _ 49 rfl 0 87 j0 _ 2 32 Try.underlying49 ji jz0 jz1 jz2 rfl (by decide) (.slice ll k lc) k cc rfl (ROW.out w2 b2 _) ⟨w2.heap.size, 0, none⟩ 1 1 [.int .i64 z, .slice av x.length cv2] rfl rfl (World.news_of_block (heap_alloc_last w2 _)) (by simp [Value.oneCell']) (by decide) h63 hby (Nat.zero_le _) (w2.heap.size + 1) (by simp) ?_; intro g cap w5 ho5 hg5 hat5 hlt5; obtain ⟨⟨y5, y6, _⟩, HF⟩ := FIN.out w2 _ w5 g cap b2 o2 hg5 ho5 hat5; clear ho5 hg5 hat5 FIN ROW KS o2 b2)
      go_roundw
      case rel => exact ⟨k + 1, _, by omega, by go_num, HF.out⟩
      case measure => simp [intOf]; omega
    · obtain rfl : k = d.2.length := by omega
      rw [List.take_of_length_le (Nat.le_refl _)] at hF
      have Z2 := (hb.block (w.heap.size + 1) (by omega)).trans HZ.out
      obtain ⟨z0, z1, z2, z3⟩ := row2_cells Z2
      obtain ⟨p2, e2, r2⟩ : ∃ v, [c] = [v] ∧ RdS SWr wr v d.2 := by
        obtain ⟨F1, F2, _, o1, o2, _⟩ := OwnF.split (c := [.slice al d.1.length cl]) (d := [c]) hF rfl
        exact o2.rd
      simp at e2; subst e2
      obtain ⟨ac, cc', rfl⟩ := r2.slice
      have hgF2 : w.heap.size + 1 ∉ F := fun hm => by have := hFB _ hm; omega
      have OO := hide ((hF.set (a := ⟨w.heap.size + 1, 0, none⟩) hgF2 (.slice al d.1.length cl)).set (a := ⟨w.heap.size + 1, 1, none⟩) hgF2 (.slice ac d.2.length cc'))
      have ZZ := hide Z2
      have FB := hide hFB
      have CC := hide cw
      clear hF hFB hgF hT hA hb cw Z2 r2
      go_wp2
      refine ret_cell rfl rfl (w.heap.size + 1) rfl _ _ _ _ (heap_set2 ZZ.out _ _) _ Try.underlying51 rfl info_stP ?_
      exact ⟨_, _, rfl, OO.out.own fun b hb => by have := FB.out b hb; omega, below_set2 CC.out (show w.heap.size ≤ w.heap.size + 1 by omega) _ _⟩

end Go.Proofs.Ytpebgepjohlklaa

/-
  The contract of transeptplain.SameBytes: it tells whether two slices hold the same octets; it only reads.
-/
namespace Go.Proofs.Ytpebgepjohlklaa
open Go.RowKit
set_option linter.unusedVariables false

set_option maxRecDepth 100000 in
set_option maxHeartbeats 400000 in
theorem same_any (w : World) (v1 v2 : Value) (xs ys : List UInt8) (h1 : Rd w v1 xs) (h2 : Rd w v2 ys) :
    Calls Try.prog 14 #[v1, v2] w fun e w' => e = .returned (.bool (sameB xs ys)) ∧ ∃ n, w' = w.drewN n := by
  obtain ⟨a1, c1, rfl, l1, m1, n1, r1⟩ := h1
  obtain ⟨a2, c2, rfl, l2, m2, n2, r2⟩ := h2
  unfold maxLen at m1 m2
  by_cases hl : xs.length = ys.length
  · have hne : ((xs.length : Int) != (ys.length : Int)) = false := by simp; omega
    go_enter Try.func14, Try.ntmps14
    go_wp2
    go_loopw [5] (fun i wr => ∃ k n : Nat, k ≤ xs.length ∧ i = .int .i64 k ∧ sameTo xs ys k ∧ wr = w.drewN n) (fun i _ => xs.length - (intOf i).toNat)
    case atStart => exact ⟨0, 0, Nat.zero_le _, rfl, sameTo_zero _ _, rfl⟩
    case round =>
      obtain ⟨k, n, hk, rfl, hs, rfl⟩ := hrel
      by_cases hlt : k < xs.length
      · rcases r1 with r1 | ⟨b1, o1, rfl, hc1⟩
        · rw [r1] at hlt; simp at hlt
        rcases r2 with r2 | ⟨b2, o2, rfl, hc2⟩
        · rw [hl, r2] at hlt; simp at hlt
        have g1 := hc1 k hlt
        have g2 := hc2 k (by omega)
        have HL : Hid (xs.length = ys.length) := hl
        have hq : (k : Int) < (xs.length : Int) := by omega
        have hq2 : (k : Int) < (ys.length : Int) := by omega
        clear hc1 hc2 hl
        by_cases he : bt xs k = bt ys k
        · have hb : (bt xs k != bt ys k) = false := by simp [he]
          have HE : Hid (bt xs k = bt ys k) := he
          clear he
          go_wp2
          go_quiet (fail)
          go_wp2
          go_roundw
          case rel => exact ⟨k + 1, _, by omega, by go_num, sameTo_succ hs HE.out, rfl⟩
          case measure => simp [intOf]; omega
        · have hb : (bt xs k != bt ys k) = true := by simp [he]
          go_wp2
          go_quiet (fail)
          go_wp2
          go_ret
          exact ⟨ret_bool (sameB_no HL.out hlt he).symm, _, World.drewN_drewN _ _ _⟩
      · have HL : Hid (xs.length = ys.length) := hl
        clear hl
        go_wp2
        go_ret
        exact ⟨ret_bool (sameB_of HL.out (by rw [show xs.length = k from by omega]; exact hs)).symm, _, rfl⟩
  · have hne : ((xs.length : Int) != (ys.length : Int)) = true := by simp; omega
    go_enter Try.func14, Try.ntmps14
    go_wp2
    go_ret
    exact ⟨ret_bool (sameB_len hl).symm, 0, rfl⟩

end Go.Proofs.Ytpebgepjohlklaa

/-
  The law's SameLists and Alike, where both sides are one.
-/
namespace Go.Proofs.Ytpebgepjohlklaa
open Go.RowKit
set_option linter.unusedVariables false

set_option maxRecDepth 100000 in
set_option maxHeartbeats 400000 in
theorem dsameLists_any (w : World) (v1 v2 : Value) (ss : List (List UInt8)) (h1 : RdSec w v1 ss) (h2 : RdSec w v2 ss) :
    Calls Try.prog 47 #[v1, v2] w fun e w' => e = .returned (.bool true) ∧ ∃ n, w' = w.drewN n := by
  have lb := h1.bd
  obtain ⟨a1, c1, rfl⟩ := h1.slice
  obtain ⟨a2, c2, rfl⟩ := h2.slice
  go_enter Try.func47, Try.ntmps47
  go_wp2
  go_loopw [5] (fun i wr => ∃ k n : Nat, k ≤ ss.length ∧ i = .int .i64 k ∧ wr = w.drewN n) (fun i _ => ss.length - (intOf i).toNat)
  case atStart => exact ⟨0, 0, Nat.zero_le _, rfl, rfl⟩
  case round =>
    obtain ⟨k, n, hk, rfl, hwr⟩ := hrel
    have hb : Below w.heap.size w wr := by rw [hwr]; exact below_drewN' _ _ _
    have HW : Hid (wr = w.drewN n) := hwr
    clear hwr
    by_cases hlt : k < ss.length
    · have hq : (k : Int) < (ss.length : Int) := by omega
      obtain ⟨x, hx, _⟩ := some_at ss hlt
      obtain ⟨b1, o1, u1, rfl, g1, q1⟩ := (h1.to0 hb).oct hx
      obtain ⟨b2, o2, u2, rfl, g2, q2⟩ := (h2.to0 hb).oct hx
      obtain ⟨aa, ca, rfl⟩ := q1.slice
      obtain ⟨ab, cb, rfl⟩ := q2.slice
      have KS := hide (fun n => same_any (wr.drewN n) _ _ _ _ (q1.drewN n) (q2.drewN n))
      rw [sameB_self] at KS
      clear q1 q2 hb hx
      generalize x.length = LX at *
      go_wp2
      go_quiet ((go_at_call 14; exact Calls.quiet_of (KS.out _)))
      go_wp2
      go_roundw
      case rel => exact ⟨k + 1, n + nq, by omega, by go_num, by rw [HW.out, World.drewN_drewN]⟩
      case measure => simp [intOf]; omega
    · go_wp2
      go_ret
      exact ⟨rfl, _, HW.out⟩

set_option maxRecDepth 100000 in
set_option maxHeartbeats 2000000 in
theorem alike_any (w : World) (sv cv sv2 cv2 : Value) (d : Dsk) (h1 : RdSec w sv d.1) (h2 : RdC w cv d.2) (k1 : RdSec w sv2 d.1) (k2 : RdC w cv2 d.2) :
    Calls Try.prog 24 #[.agg #[sv, cv], .agg #[sv2, cv2]] w fun e w' => e = .returned (.int .i64 0) ∧ Below w.heap.size w w' := by
  have lb := h2.bd
  obtain ⟨a1, c1, rfl⟩ := h1.slice
  obtain ⟨a2, c2, rfl⟩ := h2.slice
  obtain ⟨a3, c3, rfl⟩ := k1.slice
  obtain ⟨a4, c4, rfl⟩ := k2.slice
  obtain ⟨W1, hW1, A0, A1, bW1, sW1⟩ := boxed2 w (.slice a1 d.1.length c1) (.slice a2 d.2.length c2) 51
  obtain ⟨W, hW, B0, B1, bW2, sW⟩ := boxed2 W1 (.slice a3 d.1.length c3) (.slice a4 d.2.length c4) 48
  rw [sW1] at B0 B1
  rw [hW1] at hW
  replace A0 := (bW2.cell (cell_lt A0)).trans A0
  replace A1 := (bW2.cell (cell_lt A1)).trans A1
  have bW := bW1.trans (bW2.mono bW1.size)
  replace h1 := h1.to0 bW
  replace h2 := h2.to0 bW
  replace k1 := k1.to0 bW
  replace k2 := k2.to0 bW
  replace hW1 := hide hW1
  clear bW1 bW2
  go_enter Try.func24, Try.ntmps24
  go_wp2_with fail
  rw [← hW]
  replace hW := hide hW
  refine (dsameLists_any _ _ _ d.1 h1 k1).mono ?_
  rintro e w1 ⟨rfl, n1, hw1⟩
  have b1 : Below W.heap.size W w1 := by rw [hw1]; exact below_drewN' _ _ _
  replace A1 := (b1.cell (cell_lt A1)).trans A1
  replace B1 := (b1.cell (cell_lt B1)).trans B1
  replace h2 := h2.to0 b1
  replace k2 := k2.to0 b1
  have cc := bW.trans (b1.mono bW.size)
  clear hw1 b1 bW A0 B0 h1 k1
  go_wp2
  go_loopw [5] (fun i wr => ∃ k : Nat, k ≤ d.2.length ∧ i = .int .i64 k ∧ Below w1.heap.size w1 wr) (fun i _ => d.2.length - (intOf i).toNat)
  case atStart => exact ⟨0, Nat.zero_le _, rfl, Below.refl _ _⟩
  case round =>
    obtain ⟨k, hk, rfl, hb⟩ := hrel
    replace A1 := (hb.cell (cell_lt A1)).trans A1
    replace B1 := (hb.cell (cell_lt B1)).trans B1
    by_cases hlt : k < d.2.length
    · have hq : (k : Int) < (d.2.length : Int) := by omega
      obtain ⟨y, hy, _⟩ := some_at d.2 hlt
      obtain ⟨b1, o1, u1, rfl, g1, g2, q1⟩ := (h2.to0 hb).wrt hy
      obtain ⟨b2, o2, u2, rfl, g3, g4, q2⟩ := (k2.to0 hb).wrt hy
      obtain ⟨aa, ca, rfl⟩ := q1.slice
      obtain ⟨ab, cb, rfl⟩ := q2.slice
      have KS := hide (fun n => same_any (wr.drewN n) _ _ _ _ (q1.drewN n) (q2.drewN n))
      rw [sameB_self] at KS
      have HB := hide hb
      clear q1 q2 hb hy
      obtain ⟨z, x⟩ := y
      dsimp only at g1 g2 g3 g4 KS
      generalize x.length = LX at *
      have hne : (z != z) = false := by simp
      go_wp2
      go_quiet ((go_at_call 14; exact Calls.quiet_of (KS.out _)))
      have HB2 : Hid (Below w1.heap.size w1 (wr.drewN nq)) := HB.out.trans (below_drewN' _ _ _)
      go_wp2
      go_roundw
      case rel => exact ⟨k + 1, by omega, by go_num, HB2.out⟩
      case measure => simp [intOf]; omega
    · go_wp2
      go_ret
      exact ⟨rfl, cc.trans (hb.mono cc.size)⟩

end Go.Proofs.Ytpebgepjohlklaa

namespace Go.Proofs.Ytpebgepjohlklaa.superDisks
open Go.ChangeShapes Go.WideShapes Go.ChangeAt Go.RowKit
set_option linter.unusedVariables false

set_option maxRecDepth 100000 in
set_option linter.unusedSimpArgs false in
set_option maxHeartbeats 8000000 in
theorem walk (w : World) (cs0 : Array Value) (x0 : Dsk) (g0 : SStR.rd w cs0.toList x0) (m0 : (x0.1.length * 24 ≤ 140737488351232 ∧ ∀ x ∈ x0.1, x.length ≤ 140737488351232) ∧ (x0.2.length * 32 ≤ 140737488351232 ∧ ∀ y ∈ x0.2, True ∧ y.2.length ≤ 140737488351232)) (cs1 : Array Value) (x1 : Blk) (g1 : SBlk.rd w cs1.toList x1) (m1 : bwf x1) :
    Calls Try.prog 4 #[.agg cs0, .agg cs1] w fun e w' => e = .returned (.bool true) ∧ Below w.heap.size w w' := by
  obtain rfl := blk_form g1
  obtain ⟨sv, cv, rfl, r1, r2⟩ := state_form g0
  have hfit := hide (state_fit m0)
  clear g0 m0 g1 m1
  have KL := fun u s c h k => pload_any u s c x0 h k
  have KM := fun u s c h k => rload_any u s c x0 h k
  have KS := fun u s c h k => pstore_any u s c x0 x1 h k
  have KT := fun u s c h k => rstore_any u s c x0 x1 h k
  obtain ⟨p0, p1, p2, p3, p4, nr, lr, hL⟩ : ∃ p0 p1 p2 p3 p4 nr er, sload x0 = ((p0, p1, p2, p3, p4), nr, er) := ⟨_, _, _, _, _, _, _, rfl⟩
  rw [hL] at KL KM
  obtain ⟨sd, sr, hS⟩ : ∃ sd sr, sstore x0 x1 = (sd, sr) := ⟨_, _, rfl⟩
  rw [hS] at KS KT
  clear hL hS
  obtain ⟨n0, n1, n2, n3, n4⟩ := x1
  dsimp only at KL KM KS KT ⊢
  replace KL := hide KL
  replace KM := hide KM
  replace KS := hide KS
  replace KT := hide KT
  obtain ⟨sa, sc, rfl⟩ := r1.slice
  obtain ⟨ca, cc0, rfl⟩ := r2.slice
  obtain ⟨V, hV, HD, bV, sV⟩ := boxedN w #[.slice sa x0.1.length sc, .slice ca x0.2.length cc0] 48
  obtain ⟨X, hX, HM, bX, sX⟩ := boxedN V #[.int .i64 n0, .int .i64 n1, .int .i64 n2, .int .i64 n3, .int .i64 n4] 23
  rw [sV] at HM
  replace HD := hide ((bX.block _ (lt_of_block HD)).trans HD)
  replace HM := hide HM
  have CC := hide (bV.trans (bX.mono bV.size))
  replace r1 := hide (r1.to0 CC.out)
  replace r2 := hide (r2.to0 CC.out)
  clear bV bX
  obtain ⟨d_0, d_1, _, _⟩ := row2_cells HD.out
  rw [hX, hV] at d_0 d_1
  go_enter Try.func4, Try.ntmps4
  go_wp2_with fail
  rw [← hV, ← hX]
  clear d_0 d_1
  replace hX := hide hX
  replace hV := hide hV
  refine (of_any X _ _ x0 r1.out r2.out hfit.out).mono ?_
  rintro e w1 ⟨os, oc, rfl, o, b⟩
  replace HD := hide ((b.block _ (lt_of_block HD.out)).trans HD.out)
  replace HM := hide ((b.block _ (lt_of_block HM.out)).trans HM.out)
  replace r1 := hide (r1.out.to0 b)
  replace r2 := hide (r2.out.to0 b)
  replace CC := hide (CC.out.trans (b.mono CC.out.size))
  clear b
  obtain ⟨P1, P2⟩ := Own.fst (c := [os]) (d := [oc]) o rfl
  obtain ⟨oa, ox, hs⟩ := P1.rdS.slice
  obtain ⟨ob, oy, hc⟩ := P2.rdS.slice
  subst hs hc
  have o1 := hide P1.rdS
  have o2 := hide P2.rdS
  clear P1 P2 o
  obtain ⟨Y1, hY1, HO, bY1, _⟩ := boxedN w1 #[.slice oa x0.1.length ox, .slice ob x0.2.length oy] 51
  obtain ⟨gO, hgO⟩ : ∃ g, g = w1.heap.size := ⟨_, rfl⟩
  rw [← hgO] at HO
  replace HO := hide HO
  replace HD := hide ((bY1.block _ (lt_of_block HD.out)).trans HD.out)
  replace HM := hide ((bY1.block _ (lt_of_block HM.out)).trans HM.out)
  replace r1 := hide (r1.out.to0 bY1)
  replace r2 := hide (r2.out.to0 bY1)
  replace o1 := hide (o1.out.to0 bY1)
  replace o2 := hide (o2.out.to0 bY1)
  replace CC := hide (CC.out.trans (bY1.mono CC.out.size))
  clear bY1
  obtain ⟨o_0, o_1, _, _⟩ := row2_cells HO.out
  rw [hY1] at o_0 o_1
  rw [hgO] at o_0 o_1
  go_wp2_with fail
  clear o_0 o_1
  rw [← hY1, ← hgO]
  replace hY1 := hide hY1
  replace hgO := hide hgO
  refine (KL.out Y1 _ _ o1.out o2.out).mono ?_
  rintro e w2 ⟨rfl, b⟩
  replace HD := hide ((b.block _ (lt_of_block HD.out)).trans HD.out)
  replace HM := hide ((b.block _ (lt_of_block HM.out)).trans HM.out)
  replace HO := hide ((b.block _ (lt_of_block HO.out)).trans HO.out)
  replace r1 := hide (r1.out.to0 b)
  replace r2 := hide (r2.out.to0 b)
  replace o1 := hide (o1.out.to0 b)
  replace o2 := hide (o2.out.to0 b)
  replace CC := hide (CC.out.trans (b.mono CC.out.size))
  clear b KL
  obtain ⟨Y2, hY2, HA, bY2, _⟩ := boxedN w2 #[.int .i64 p0, .int .i64 p1, .int .i64 p2, .int .i64 p3, .int .i64 p4] 28
  obtain ⟨gA, hgA⟩ : ∃ g, g = w2.heap.size := ⟨_, rfl⟩
  rw [← hgA] at HA
  replace HA := hide HA
  replace HD := hide ((bY2.block _ (lt_of_block HD.out)).trans HD.out)
  replace HM := hide ((bY2.block _ (lt_of_block HM.out)).trans HM.out)
  replace HO := hide ((bY2.block _ (lt_of_block HO.out)).trans HO.out)
  replace r1 := hide (r1.out.to0 bY2)
  replace r2 := hide (r2.out.to0 bY2)
  replace o1 := hide (o1.out.to0 bY2)
  replace o2 := hide (o2.out.to0 bY2)
  replace CC := hide (CC.out.trans (bY2.mono CC.out.size))
  clear bY2
  obtain ⟨d_0, d_1, _, _⟩ := row2_cells HD.out
  rw [hY2] at d_0 d_1
  go_wp2_with fail
  clear d_0 d_1
  rw [← hY2, ← hgA]
  replace hY2 := hide hY2
  replace hgA := hide hgA
  refine (KM.out Y2 _ _ r1.out r2.out).mono ?_
  rintro e w3 ⟨rfl, b⟩
  replace HD := hide ((b.block _ (lt_of_block HD.out)).trans HD.out)
  replace HM := hide ((b.block _ (lt_of_block HM.out)).trans HM.out)
  replace HO := hide ((b.block _ (lt_of_block HO.out)).trans HO.out)
  replace HA := hide ((b.block _ (lt_of_block HA.out)).trans HA.out)
  replace r1 := hide (r1.out.to0 b)
  replace r2 := hide (r2.out.to0 b)
  replace o1 := hide (o1.out.to0 b)
  replace o2 := hide (o2.out.to0 b)
  replace CC := hide (CC.out.trans (b.mono CC.out.size))
  clear b KM
  obtain ⟨Y3, hY3, HB, bY3, _⟩ := boxedN w3 #[.int .i64 p0, .int .i64 p1, .int .i64 p2, .int .i64 p3, .int .i64 p4] 23
  obtain ⟨gB, hgB⟩ : ∃ g, g = w3.heap.size := ⟨_, rfl⟩
  rw [← hgB] at HB
  replace HB := hide HB
  replace HD := hide ((bY3.block _ (lt_of_block HD.out)).trans HD.out)
  replace HM := hide ((bY3.block _ (lt_of_block HM.out)).trans HM.out)
  replace HO := hide ((bY3.block _ (lt_of_block HO.out)).trans HO.out)
  replace HA := hide ((bY3.block _ (lt_of_block HA.out)).trans HA.out)
  replace r1 := hide (r1.out.to0 bY3)
  replace r2 := hide (r2.out.to0 bY3)
  replace o1 := hide (o1.out.to0 bY3)
  replace o2 := hide (o2.out.to0 bY3)
  replace CC := hide (CC.out.trans (bY3.mono CC.out.size))
  clear bY3
  obtain ⟨o_0, o_1, _, _⟩ := row2_cells HO.out
  obtain ⟨⟨m_0, m_1, m_2, m_3, m_4⟩, _⟩ := cells5 HM.out
  rw [hY3] at o_0 o_1 m_0 m_1 m_2 m_3 m_4
  go_wp2_with fail
  clear o_0 o_1 m_0 m_1 m_2 m_3 m_4
  rw [← hY3, ← hgB]
  replace hY3 := hide hY3
  replace hgB := hide hgB
  refine (KS.out Y3 _ _ o1.out o2.out).mono ?_
  rintro e w4 ⟨ys, yc, rfl, o, b⟩
  replace HD := hide ((b.block _ (lt_of_block HD.out)).trans HD.out)
  replace HM := hide ((b.block _ (lt_of_block HM.out)).trans HM.out)
  replace HO := hide ((b.block _ (lt_of_block HO.out)).trans HO.out)
  replace HA := hide ((b.block _ (lt_of_block HA.out)).trans HA.out)
  replace HB := hide ((b.block _ (lt_of_block HB.out)).trans HB.out)
  replace r1 := hide (r1.out.to0 b)
  replace r2 := hide (r2.out.to0 b)
  replace o1 := hide (o1.out.to0 b)
  replace o2 := hide (o2.out.to0 b)
  replace CC := hide (CC.out.trans (b.mono CC.out.size))
  clear b KS
  obtain ⟨P1, P2⟩ := Own.fst (c := [ys]) (d := [yc]) o rfl
  obtain ⟨ya, yx, hs⟩ := P1.rdS.slice
  obtain ⟨yb, yy, hc⟩ := P2.rdS.slice
  subst hs hc
  have y1 := hide P1.rdS
  have y2 := hide P2.rdS
  clear P1 P2 o
  obtain ⟨Y4, hY4, HY, bY4, _⟩ := boxedN w4 #[.slice ya sd.1.length yx, .slice yb sd.2.length yy] 51
  obtain ⟨gY, hgY⟩ : ∃ g, g = w4.heap.size := ⟨_, rfl⟩
  rw [← hgY] at HY
  replace HY := hide HY
  replace HD := hide ((bY4.block _ (lt_of_block HD.out)).trans HD.out)
  replace HM := hide ((bY4.block _ (lt_of_block HM.out)).trans HM.out)
  replace HO := hide ((bY4.block _ (lt_of_block HO.out)).trans HO.out)
  replace HA := hide ((bY4.block _ (lt_of_block HA.out)).trans HA.out)
  replace HB := hide ((bY4.block _ (lt_of_block HB.out)).trans HB.out)
  replace r1 := hide (r1.out.to0 bY4)
  replace r2 := hide (r2.out.to0 bY4)
  replace o1 := hide (o1.out.to0 bY4)
  replace o2 := hide (o2.out.to0 bY4)
  replace y1 := hide (y1.out.to0 bY4)
  replace y2 := hide (y2.out.to0 bY4)
  replace CC := hide (CC.out.trans (bY4.mono CC.out.size))
  clear bY4
  obtain ⟨d_0, d_1, _, _⟩ := row2_cells HD.out
  obtain ⟨⟨m_0, m_1, m_2, m_3, m_4⟩, _⟩ := cells5 HM.out
  rw [hY4] at d_0 d_1 m_0 m_1 m_2 m_3 m_4
  go_wp2_with fail
  clear d_0 d_1 m_0 m_1 m_2 m_3 m_4
  rw [← hY4, ← hgY]
  replace hY4 := hide hY4
  replace hgY := hide hgY
  refine (KT.out Y4 _ _ r1.out r2.out).mono ?_
  rintro e w5 ⟨zs, zc, rfl, o, b⟩
  replace HD := hide ((b.block _ (lt_of_block HD.out)).trans HD.out)
  replace HM := hide ((b.block _ (lt_of_block HM.out)).trans HM.out)
  replace HO := hide ((b.block _ (lt_of_block HO.out)).trans HO.out)
  replace HA := hide ((b.block _ (lt_of_block HA.out)).trans HA.out)
  replace HB := hide ((b.block _ (lt_of_block HB.out)).trans HB.out)
  replace HY := hide ((b.block _ (lt_of_block HY.out)).trans HY.out)
  replace r1 := hide (r1.out.to0 b)
  replace r2 := hide (r2.out.to0 b)
  replace o1 := hide (o1.out.to0 b)
  replace o2 := hide (o2.out.to0 b)
  replace y1 := hide (y1.out.to0 b)
  replace y2 := hide (y2.out.to0 b)
  replace CC := hide (CC.out.trans (b.mono CC.out.size))
  clear b KT
  obtain ⟨P1, P2⟩ := Own.fst (c := [zs]) (d := [zc]) o rfl
  obtain ⟨za, zx, hs⟩ := P1.rdS.slice
  obtain ⟨zb, zy, hc⟩ := P2.rdS.slice
  subst hs hc
  have z1 := hide P1.rdS
  have z2 := hide P2.rdS
  clear P1 P2 o
  obtain ⟨Y5, hY5, HZ, bY5, _⟩ := boxedN w5 #[.slice za sd.1.length zx, .slice zb sd.2.length zy] 48
  obtain ⟨gZ, hgZ⟩ : ∃ g, g = w5.heap.size := ⟨_, rfl⟩
  rw [← hgZ] at HZ
  replace HZ := hide HZ
  replace HD := hide ((bY5.block _ (lt_of_block HD.out)).trans HD.out)
  replace HM := hide ((bY5.block _ (lt_of_block HM.out)).trans HM.out)
  replace HO := hide ((bY5.block _ (lt_of_block HO.out)).trans HO.out)
  replace HA := hide ((bY5.block _ (lt_of_block HA.out)).trans HA.out)
  replace HB := hide ((bY5.block _ (lt_of_block HB.out)).trans HB.out)
  replace HY := hide ((bY5.block _ (lt_of_block HY.out)).trans HY.out)
  replace r1 := hide (r1.out.to0 bY5)
  replace r2 := hide (r2.out.to0 bY5)
  replace o1 := hide (o1.out.to0 bY5)
  replace o2 := hide (o2.out.to0 bY5)
  replace y1 := hide (y1.out.to0 bY5)
  replace y2 := hide (y2.out.to0 bY5)
  replace z1 := hide (z1.out.to0 bY5)
  replace z2 := hide (z2.out.to0 bY5)
  replace CC := hide (CC.out.trans (bY5.mono CC.out.size))
  clear bY5
  go_upto_region 6 with fail
  rw [← hY5, ← hgZ]
  replace hY5 := hide hY5
  replace hgZ := hide hgZ
  obtain ⟨⟨a_0, a_1, a_2, a_3, a_4⟩, _⟩ := cells5 HA.out
  obtain ⟨⟨b_0, b_1, b_2, b_3, b_4⟩, _⟩ := cells5 HB.out
  go_wp2_with fail
  refine (num6_any _ _).mono ?_
  rintro e w' ⟨rfl, rfl⟩
  clear a_0 a_1 a_2 a_3 a_4 b_0 b_1 b_2 b_3 b_4
  obtain ⟨y_0, y_1, _, _⟩ := row2_cells HY.out
  obtain ⟨z_0, z_1, _, _⟩ := row2_cells HZ.out
  have KA := hide (alike_any Y5 _ _ _ _ sd y1.out y2.out z1.out z2.out)
  go_wp2_with fail
  clear y_0 y_1 z_0 z_1
  refine KA.out.mono ?_
  rintro e w6 ⟨rfl, b⟩
  clear KA
  replace HD := hide ((b.block _ (lt_of_block HD.out)).trans HD.out)
  replace HM := hide ((b.block _ (lt_of_block HM.out)).trans HM.out)
  replace HO := hide ((b.block _ (lt_of_block HO.out)).trans HO.out)
  replace HA := hide ((b.block _ (lt_of_block HA.out)).trans HA.out)
  replace HB := hide ((b.block _ (lt_of_block HB.out)).trans HB.out)
  replace HY := hide ((b.block _ (lt_of_block HY.out)).trans HY.out)
  replace HZ := hide ((b.block _ (lt_of_block HZ.out)).trans HZ.out)
  replace r1 := hide (r1.out.to0 b)
  replace r2 := hide (r2.out.to0 b)
  replace o1 := hide (o1.out.to0 b)
  replace o2 := hide (o2.out.to0 b)
  replace y1 := hide (y1.out.to0 b)
  replace y2 := hide (y2.out.to0 b)
  replace z1 := hide (z1.out.to0 b)
  replace z2 := hide (z2.out.to0 b)
  replace CC := hide (CC.out.trans (b.mono CC.out.size))
  clear b
  go_wp2_with fail
  refine (num6_any _ _).mono ?_
  rintro e w' ⟨rfl, rfl⟩
  obtain ⟨o_0, o_1, _, _⟩ := row2_cells HO.out
  obtain ⟨d_0, d_1, _, _⟩ := row2_cells HD.out
  have KA := hide (alike_any w6 _ _ _ _ x0 o1.out o2.out r1.out r2.out)
  go_wp2_with fail
  clear o_0 o_1 d_0 d_1
  refine KA.out.mono ?_
  rintro e w7 ⟨rfl, b⟩
  clear KA
  replace HD := hide ((b.block _ (lt_of_block HD.out)).trans HD.out)
  replace HM := hide ((b.block _ (lt_of_block HM.out)).trans HM.out)
  replace HO := hide ((b.block _ (lt_of_block HO.out)).trans HO.out)
  replace HA := hide ((b.block _ (lt_of_block HA.out)).trans HA.out)
  replace HB := hide ((b.block _ (lt_of_block HB.out)).trans HB.out)
  replace HY := hide ((b.block _ (lt_of_block HY.out)).trans HY.out)
  replace HZ := hide ((b.block _ (lt_of_block HZ.out)).trans HZ.out)
  replace r1 := hide (r1.out.to0 b)
  replace r2 := hide (r2.out.to0 b)
  replace o1 := hide (o1.out.to0 b)
  replace o2 := hide (o2.out.to0 b)
  replace y1 := hide (y1.out.to0 b)
  replace y2 := hide (y2.out.to0 b)
  replace z1 := hide (z1.out.to0 b)
  replace z2 := hide (z2.out.to0 b)
  replace CC := hide (CC.out.trans (b.mono CC.out.size))
  clear b
  go_wp2_with fail
  refine (salive_any w7).mono ?_
  rintro e w8 ⟨rfl, b⟩
  go_wp2
  go_ret
  exact ⟨rfl, CC.out.trans (b.mono CC.out.size)⟩

set_option maxRecDepth 100000 in
theorem lifted (os : Os) (started : os.Started) (H : Type) (enc : TypeId × Value → H) :
    ReturnsInHanded {} Try.checked os 4 .any (Rows.superDisksSpec.pre6 enc Try.prog Try.f4 Rows.superDisksRow.domain false) (Rows.superDisksSpec.post enc Try.prog Try.f4 false true false false) := by
  refine returnsInHanded_of_change_sized (C := Try.checked) own started (by kernel_rfl) Try.func4
    (ChangeSpec.witness6 (enc := enc) (C := Try.checked) false ⟨#[], #[.agg #[.slice none 0 0, .slice none 0 0], .agg #[.int .i64 0, .int .i64 0, .int .i64 0, .int .i64 0, .int .i64 0]], []⟩ 8 (by kernel_rfl) (by kernel_rfl) (by kernel_rfl) (by kernel_rfl)) ?_
  intro W base args ds gs before hval0 hW hcnd hsz0 _
  have hsz : (DataW.weightsEach Try.prog (Try.f4.params.toList ++ Rows.superDisksSpec.plain.varTypes Try.prog) (ds ++ gs)).all (· ≤ reachBytes) = true := hsz0
  have hval : ∀ (j : Nat) t v, Try.f4.params[j]? = some t → args[j]? = some v → Value.okWide Try.prog W .any base t v := hval0
  have hW' := hW
  obtain ⟨p, q, hA0, hV, rfl, hfz, hnd⟩ := hW
  have hA : DataW.TrodAll enc Try.prog W 0 (fun _ => true) true Try.f4.params.toList args.toList ds p := hA0
  rw [Try.params4] at hA hval hsz
  obtain ⟨v0, vs0, d0, ds0, p0, q0, hargs, rfl, rfl, h0, r0⟩ := trodAll_cons hA
  obtain ⟨v1, vs1, d1, ds1, p1, q1, rfl, rfl, rfl, h1, r1⟩ := trodAll_cons r0
  obtain ⟨rfl, rfl, rfl⟩ := trodAll_nil r1
  obtain rfl : args = #[v0, v1] := by cases args; simp_all
  obtain ⟨rfl, rfl⟩ := trodVars_none hV
  obtain ⟨cs0, rfl, _⟩ := okWide_struct Try.underlying48 (hval 0 48 v0 rfl rfl)
  have lt0 : ∀ x ∈ p0, x.block < W.heap.size := by obtain ⟨m, hm⟩ := h0; exact DataW.trod_lt m _ _ _ hm
  have hh0 := h0
  obtain ⟨fu0, hf0⟩ := hh0
  obtain ⟨x0, g0, f0, b0⟩ := open_state.opened hf0
  obtain ⟨cs1, rfl, _⟩ := okWide_struct Try.underlying23 (hval 1 23 v1 rfl rfl)
  have lt1 : ∀ x ∈ p1, x.block < W.heap.size := by obtain ⟨m, hm⟩ := h1; exact DataW.trod_lt m _ _ _ hm
  have hh1 := h1
  obtain ⟨fu1, hf1⟩ := hh1
  obtain ⟨x1, g1, f1, b1⟩ := open_blk.opened hf1
  have m0 := f0 (reach_of hsz (j := 0) rfl rfl)
  have m1 := f1 (reach_of hsz (j := 1) rfl rfl)
  clear hA0 hval0 hsz0 hsz
  refine (walk W cs0 x0 g0 m0 cs1 x1 g1 m1).mono fun e W' ⟨he, bel⟩ => ?_
  subst he
  exact ⟨_, rfl, _, _, _, [], _, [], hW', trodAll_mk1 (shut_bool Try.underlying4 _), (trodAll_cons_mk (Below.trod laidOut (by kernel_rfl) (of_decide_eq_true (by kernel_rfl)) h0 bel lt0) (trodAll_cons_mk (Below.trod laidOut (by kernel_rfl) (of_decide_eq_true (by kernel_rfl)) h1 bel lt1) trodAll_mk0)), rfl, bel.frame _, fun h => by cases h⟩

theorem over : Rows.superDisksRow.holds Try.pinned (OpenSpec.ofChange Rows.superDisksSpec) :=
  OpenClaim.holds_of_wide 4 Try.f4 rfl rfl rfl rfl rfl rfl rfl ⟨rfl, rfl, rfl, rfl, rfl⟩ rfl rfl rfl rfl rfl (by kernel_rfl) Try.func4 (by kernel_rfl)
    (of_decide_eq_true (by kernel_rfl)) (by unfold Func.isWrapper; first | (rw [if_pos (by decide +kernel)]; kernel_rfl) | (rw [if_neg (by decide +kernel)]; exact ⟨rfl, rfl⟩))
    (fun os started H enc _ => lifted os started H enc)

end Go.Proofs.Ytpebgepjohlklaa.superDisks
namespace Go.Proofs.Ytpebgepjohlklaa
/-- THE STATEMENT -/
theorem superDisks_holds : Rows.SuperDisksSaid := superDisks.over
end Go.Proofs.Ytpebgepjohlklaa
