/-
  PROVED: whatever two blocks, place and bits come in, transeptlaw06.SuperRot returns true and leaves them as they were: the statement of P6.5 (whatever becomes of the sector of one of two blocks, some block is loaded that was stored).
-/
import Derived.Test.YtpebgepjohlklaaShpIn
import Derived.Test.YtpebgepjohlklaaSDecR
import Derived.Test.YtpebgepjohlklaaSMath
import Derived.Test.YtpebgepjohlklaaSPick
import Derived.Deep.CutRange
import Derived.Test.YtpebgepjohlklaaSStore
import Derived.Test.YtpebgepjohlklaaDRot
/-
  What a law's walk is told of a superblock, and of a bool, that came in; the law's own num.
-/
namespace Go.Proofs.Ytpebgepjohlklaa
open Go.ChangeShapes Go.WideShapes Go.ChangeAt Go.RowKit
set_option linter.unusedVariables false

abbrev SBlk : Shp Blk := (Shp.int .i64).pair ((Shp.int .i64).pair ((Shp.int .i64).pair ((Shp.int .i64).pair (Shp.int .i64))))
def bwf (z : Blk) : Prop := (Lit.int .i64 z.1).wf = true ∧ (Lit.int .i64 z.2.1).wf = true ∧ (Lit.int .i64 z.2.2.1).wf = true ∧ (Lit.int .i64 z.2.2.2.1).wf = true ∧ (Lit.int .i64 z.2.2.2.2).wf = true
set_option maxRecDepth 100000 in
theorem Opens.five {t : TypeId} {f0 f1 f2 f3 f4 : Field} (o0 : Opens (Shp.int .i64) f0.type (fun z => (Lit.int .i64 z).wf = true) (fun _ => 1)) (o1 : Opens (Shp.int .i64) f1.type (fun z => (Lit.int .i64 z).wf = true) (fun _ => 1)) (o2 : Opens (Shp.int .i64) f2.type (fun z => (Lit.int .i64 z).wf = true) (fun _ => 1)) (o3 : Opens (Shp.int .i64) f3.type (fun z => (Lit.int .i64 z).wf = true) (fun _ => 1)) (o4 : Opens (Shp.int .i64) f4.type (fun z => (Lit.int .i64 z).wf = true) (fun _ => 1))
    (ht : Try.prog.underlying t = some (.struct #[f0, f1, f2, f3, f4])) (hc : Try.prog.cellsOf t = 5) (h0 : f0.offset = 0) (h1 : f1.offset = 1) (h2 : f2.offset = 2) (h3 : f3.offset = 3) (h4 : f4.offset = 4) :
    Opens SBlk t bwf (fun _ => 5) := by
  refine ⟨hc, fun {H enc W fuel cs x} h => ?_⟩
  obtain ⟨xs, k, hk, hxy, hlen, hxl, hf⟩ := DataW.trod_struct ht h
  match xs, hxl with
  | [y0, y1, y2, y3, y4], _ =>
    have g0 := hf 0 f0 rfl
    have g1 := hf 1 f1 rfl
    have g2 := hf 2 f2 rfl
    have g3 := hf 3 f3 rfl
    have g4 := hf 4 f4 rfl
    rw [hc] at hlen
    match cs, hlen with
    | [c0, c1, c2, c3, c4], _ =>
      rw [h0, o0.cells] at g0
      rw [h1, o1.cells] at g1
      rw [h2, o2.cells] at g2
      rw [h3, o3.cells] at g3
      rw [h4, o4.cells] at g4
      obtain ⟨a0, r0, w0, b0⟩ := o0.opened (cs := [c0]) (x := y0) g0
      obtain ⟨a1, r1, w1, b1⟩ := o1.opened (cs := [c1]) (x := y1) g1
      obtain ⟨a2, r2, w2, b2⟩ := o2.opened (cs := [c2]) (x := y2) g2
      obtain ⟨a3, r3, w3, b3⟩ := o3.opened (cs := [c3]) (x := y3) g3
      obtain ⟨a4, r4, w4, b4⟩ := o4.opened (cs := [c4]) (x := y4) g4
      obtain ⟨d, pl⟩ := x
      simp only [Prod.mk.injEq] at hxy
      obtain ⟨rfl, _⟩ := hxy
      refine ⟨(a0, a1, a2, a3, a4), ⟨[c0], [c1, c2, c3, c4], rfl, r0, ⟨[c1], [c2, c3, c4], rfl, r1, ⟨[c2], [c3, c4], rfl, r2, ⟨[c3], [c4], rfl, r3, r4⟩⟩⟩⟩, fun hw => ⟨w0 fun n hn => hw n ?_, w1 fun n hn => hw n ?_, w2 fun n hn => hw n ?_, w3 fun n hn => hw n ?_, w4 fun n hn => hw n ?_⟩, ?_⟩
      · simp only [DataW.weights, ht]
        exact DataW.weights_mem_each (j := 0) (t := f0.type) (d := y0.1) rfl rfl n hn
      · simp only [DataW.weights, ht]
        exact DataW.weights_mem_each (j := 1) (t := f1.type) (d := y1.1) rfl rfl n hn
      · simp only [DataW.weights, ht]
        exact DataW.weights_mem_each (j := 2) (t := f2.type) (d := y2.1) rfl rfl n hn
      · simp only [DataW.weights, ht]
        exact DataW.weights_mem_each (j := 3) (t := f3.type) (d := y3.1) rfl rfl n hn
      · simp only [DataW.weights, ht]
        exact DataW.weights_mem_each (j := 4) (t := f4.type) (d := y4.1) rfl rfl n hn
      · simp only [List.map_cons, List.map_nil, Rows.uptoBulk, Rows.uptoBulkAll]
        omega
set_option maxRecDepth 100000 in
theorem open_blk : Opens SBlk 23 bwf (fun _ => 5) :=
  Opens.five (opens_intw Try.underlying3 (by kernel_rfl)) (opens_intw Try.underlying3 (by kernel_rfl)) (opens_intw Try.underlying3 (by kernel_rfl)) (opens_intw Try.underlying3 (by kernel_rfl)) (opens_intw Try.underlying3 (by kernel_rfl)) Try.underlying23 (by kernel_rfl) rfl rfl rfl rfl rfl
theorem blk_form {w : World} {cs : Array Value} {b : Blk} (h : SBlk.rd w cs.toList b) : cs = #[.int .i64 b.1, .int .i64 b.2.1, .int .i64 b.2.2.1, .int .i64 b.2.2.2.1, .int .i64 b.2.2.2.2] := by
  obtain ⟨c0, d0, hc, h0, ⟨c1, d1, e1, h1, ⟨c2, d2, e2, h2, ⟨c3, d3, e3, h3, h4⟩⟩⟩⟩ := h
  have h0' : c0 = [Value.int .i64 b.1] := h0
  have h1' : c1 = [Value.int .i64 b.2.1] := h1
  have h2' : c2 = [Value.int .i64 b.2.2.1] := h2
  have h3' : c3 = [Value.int .i64 b.2.2.2.1] := h3
  have h4' : d3 = [Value.int .i64 b.2.2.2.2] := h4
  subst h0' h1' h2' h3' h4'
  subst e3
  subst e2
  subst e1
  cases cs
  simpa using hc
theorem wf_int6 {z : Int} (h : (Lit.int .i64 z).wf = true) : -9223372036854775808 ≤ z ∧ z ≤ 9223372036854775807 := by
  simpa [Lit.wf, IntKind.min, IntKind.max, IntKind.signed, IntKind.bits] using h
/-- a bool that came in -/
theorem open_flag {H : Type} {enc : TypeId × Value → H} {P : Program} {w : World} {base : Nat} {spare : Nat → Bool} {held : Bool} {r : Reach} {b0 : Nat} {t : TypeId} {v : Value} {d : DataW H} {ps : List MemPlace} (ht : P.underlying t = some .bool) (hval : Value.okWide P w r b0 t v) (hd : DataW.Trod enc P w base spare held t v d ps) :
    ∃ b, v = .bool b ∧ d = .lit (.bool b) ∧ ps = [] := by
  obtain ⟨b, rfl⟩ := okWide_bool ht hval
  obtain ⟨fuel, hf⟩ := hd
  obtain ⟨b', h, hx⟩ := DataW.trod_bool ht hf
  simp [Value.cells] at h
  subst h
  simp only [Prod.mk.injEq] at hx
  exact ⟨b, rfl, hx.1, hx.2⟩
set_option maxRecDepth 100000 in
theorem num6_any (w : World) (n : Int) : Calls Try.prog 15 #[.int .i64 n] w fun e w' => e = .returned (.int .i64 n) ∧ w = w' := by
  go_enter Try.func15, Try.ntmps15
  go_wp2
  go_ret
  exact ⟨rfl, rfl⟩

end Go.Proofs.Ytpebgepjohlklaa

/-
  The law's own 'alive' (the page's example of super) answers true; it makes memory of its own and changes none that was there.
-/
namespace Go.Proofs.Ytpebgepjohlklaa
open Go.RowKit
set_option linter.unusedVariables false

theorem bok_zero : bok (0, 0, 0, 0, 0) := by decide
set_option maxRecDepth 100000 in
set_option maxHeartbeats 2000000 in
theorem salive_any (w : World) : Calls Try.prog 18 #[] w fun e w' => e = .returned (.bool true) ∧ Below w.heap.size w w' := by
  have KE := hide (pencode_any w (0, 0, 0, 0, 0))
  rw [senc_ok bok_zero] at KE
  dsimp only at KE
  obtain ⟨Y, hY⟩ : ∃ Y, Y = sencO (0, 0, 0, 0, 0) := ⟨_, rfl⟩
  have hYl : Y.length = 64 := by rw [hY]; exact sencO_len _
  have hY4 : Y.take 4 = smark := by rw [hY]; exact senc_take4 _
  have hYd : sdec Y = ((0, 0, 0, 0, 0), 0) := by rw [hY]; exact sdec_enc bok_zero
  rw [← hY] at KE
  clear hY
  go_enter Try.func18, Try.ntmps18
  go_wp2_with fail
  refine KE.out.mono ?_
  rintro e w1 ⟨v1, rfl, o1, b1⟩
  clear KE
  obtain ⟨b, o, c, rfl, hc, hcm, hR⟩ := rd64 o1.rd hYl
  have KD := hide (pdecode_any w1 _ Y o1.rd)
  rw [hYd] at KD
  dsimp only at KD
  have r4 : Rd w1 (.slice (some ⟨b, o, none⟩) 4 c) (Y.take 4) := by simpa using hR 0 4 (by omega) (by omega)
  rw [hY4] at r4
  clear hR o1 hYl hY4 hYd
  go_wp2_with fail
  refine KD.out.mono ?_
  rintro e w2 ⟨rfl, b2⟩
  clear KD
  have k4 := conv_rd (r4.to b2) (by decide)
  have hq4 : (4 : Int) ≤ (c : Int) := by omega
  obtain ⟨X, hX, X0, bX, sX⟩ := boxedN w2 #[.int .i64 0, .int .i64 0, .int .i64 0, .int .i64 0, .int .i64 0] 28
  have k4' := conv_rd ((r4.to b2).to bX) (by decide)
  have c2 := b1.trans (b2.mono b1.size)
  have cX := hide (c2.trans (bX.mono c2.size))
  obtain ⟨⟨r0, r1, r2, r3, r4'⟩, _⟩ := cells5 X0
  clear b1 b2 c2 bX r4 k4
  go_upto_region 3 with fail
  rw [← hX]
  obtain ⟨gx, hgx⟩ : ∃ g, g = w2.heap.size := ⟨_, rfl⟩
  rw [← hgx] at r0 r1 r2 r3 r4' ⊢
  replace hX := hide hX
  replace hgx := hide hgx
  go_wp2_with fail
  refine (num6_any _ _).mono ?_
  rintro e w' ⟨rfl, rfl⟩
  go_wp2_with fail
  refine (num6_any _ _).mono ?_
  rintro e w' ⟨rfl, rfl⟩
  go_wp2
  go_ret
  exact ⟨rfl, cX.out⟩

end Go.Proofs.Ytpebgepjohlklaa

/-
  Two superblocks stored on a disk of two sectors; one octet of it rots: the other is loaded, or both are as they were. Plain: nothing of the program is named.
-/
namespace Go.Proofs.Ytpebgepjohlklaa
set_option linter.unusedVariables false

theorem over_same {x y : List UInt8} (h : x.length = y.length) : over x y = y := over_all h
theorem dok_two {s0 s1 : List UInt8} (h0 : s0.length = 64) (h1 : s1.length = 64) {ws : List Wrt} (hw : ws.length ≤ 4096) (hy : ∀ y ∈ ws, (0 ≤ y.1 ∧ y.1 < 2) ∧ y.2.length = 64) : DOk ([s0, s1], ws) := by
  refine ⟨by simp, by simp, hw, ?_, hy⟩
  intro x hx
  simp only [List.mem_cons, List.not_mem_nil, or_false] at hx
  rcases hx with rfl | rfl
  · exact h0
  · exact h1
theorem sdisk_two {s0 s1 : List UInt8} (h0 : s0.length = 64) (h1 : s1.length = 64) : sdisk ([s0, s1], []) = 0 := by
  unfold sdisk
  rw [dcheck_ok (dok_two h0 h1 (by simp) (fun y hy => by cases hy)), if_neg (by decide), if_neg (by simp)]
theorem tmod2 {n : Int} (h : 0 ≤ n) : n.tmod 2 = 0 ∨ n.tmod 2 = 1 := by
  rw [Int.tmod_eq_emod_of_nonneg h]; omega
theorem store_two {s0 s1 : List UInt8} (h0 : s0.length = 64) (h1 : s1.length = 64) {b : Blk} (hb : bok b) : sstore ([s0, s1], []) b = (([s0, s1].set (b.1.tmod 2).toNat (sencO b), []), 0) := by
  have hn : 0 ≤ b.1 := (hb b.1 (by simp [bls])).1
  have hl := sencO_len b
  have hk := tmod2 hn
  have ok0 : DOk ([s0, s1], []) := dok_two h0 h1 (by simp) (fun y hy => by cases hy)
  have hp : dput ([s0, s1], []) (b.1.tmod 2) (sencO b) = (([s0, s1], [(b.1.tmod 2, sencO b)]), 0) := by
    have hs : dsect ([s0, s1], []) (b.1.tmod 2) = 0 := dsect_zero.2 ⟨ok0, by unfold dhas; simp only [List.length_cons, List.length_nil]; omega⟩
    unfold dput
    rw [if_neg (fun h => h hs), if_neg (by omega), if_neg (by simp), pad_id hl]
    rfl
  unfold sstore
  rw [if_neg (fun h => h (sdisk_two h0 h1)), senc_ok hb]
  dsimp only
  rw [if_neg (fun h => h rfl), hp]
  dsimp only
  rw [if_neg (fun h => h rfl)]
  have ok1 : DOk ([s0, s1], [(b.1.tmod 2, sencO b)]) := dok_two h0 h1 (by simp) (fun y hy => by
    simp only [List.mem_singleton] at hy
    subst hy
    exact ⟨by dsimp only; omega, hl⟩)
  unfold dflush dland
  rw [if_pos ok1]
  dsimp only
  show ((lands _ [s0, s1] [(b.1.tmod 2, sencO b)] 1, []), 0) = _
  rw [lands_succ (k := 0) (y := (b.1.tmod 2, sencO b)) rfl]
  dsimp only [lands]
  rw [List.take_of_length_le (by omega)]
  congr 2
  congr 1
  rcases hk with h | h
  · rw [h]; exact over_all (show s0.length = _ by omega)
  · rw [h]; exact over_all (show s1.length = _ by omega)
theorem sstore_bad {d : Dsk} {b : Blk} (h : sdisk d = 0) (hb : ¬ bok b) : sstore d b = (([], []), 4) := by
  unfold sstore
  rw [if_neg (fun k => k h), senc_no hb]
  rfl
theorem fx_zero (xs : List UInt8) (k : Nat) : fx xs k 0 = xs := by
  unfold fx
  by_cases h : k < xs.length
  · rw [UInt8.xor_zero]
    apply List.ext_getElem?
    intro i
    by_cases e : i = k
    · subst e; rw [List.getElem?_set_self h, List.getElem?_eq_getElem h]; simp [List.getD_eq_getElem?_getD, h]
    · rw [List.getElem?_set_ne (by omega)]
  · rw [List.set_eq_of_length_le (by omega)]
theorem load_two {s0 s1 : List UInt8} (h0 : s0.length = 64) (h1 : s1.length = 64) : sload ([s0, s1], []) = spick s0 s1 := by
  have ok0 : DOk ([s0, s1], []) := dok_two h0 h1 (by simp) (fun y hy => by cases hy)
  unfold sload
  rw [if_neg (fun h => h (sdisk_two h0 h1))]
  have e0 : dget ([s0, s1], []) 0 = (s0, 0) := by
    have hs : dsect ([s0, s1], []) 0 = 0 := dsect_zero.2 ⟨ok0, by unfold dhas; simp⟩
    unfold dget; rw [if_neg (fun h => h hs)]; rfl
  have e1 : dget ([s0, s1], []) 1 = (s1, 0) := by
    have hs : dsect ([s0, s1], []) 1 = 0 := dsect_zero.2 ⟨ok0, by unfold dhas; simp⟩
    unfold dget; rw [if_neg (fun h => h hs)]; rfl
  rw [e0, e1]
theorem rot_two {s0 s1 : List UInt8} (h0 : s0.length = 64) (h1 : s1.length = 64) (k p : Nat) (hk : k < 2) (hp : p < 64) (c : UInt8) : drot ([s0, s1], []) k p c = (([s0, s1].set k (fx ([s0, s1].getD k []) p c), []), 0) := by
  have ok0 : DOk ([s0, s1], []) := dok_two h0 h1 (by simp) (fun y hy => by cases hy)
  have hs : dsect ([s0, s1], []) (k : Int) = 0 := dsect_zero.2 ⟨ok0, by unfold dhas; simp only [List.length_cons, List.length_nil]; omega⟩
  unfold drot
  rw [if_neg (fun h => h hs), if_neg (by omega)]
  simp only [Int.toNat_natCast]
  rfl
/-- which block is loaded -/
theorem rot_pick {a b : Blk} (ha : bok a) (hb : bok b) (hE : b.1 = a.1 + 1) (k p : Nat) (hk : k < 2) (hp : p < 64) (c : UInt8) :
    ∃ t0 t1 n, drot (([List.replicate 64 0, List.replicate 64 0].set (a.1.tmod 2).toNat (sencO a)).set (b.1.tmod 2).toNat (sencO b), []) k p c = (([t0, t1], []), 0) ∧ sload ([t0, t1], []) = ((if (k : Int) = b.1.tmod 2 ∧ c ≠ 0 then a else b), n, 0) := by
  have hn : 0 ≤ a.1 := (ha a.1 (by simp [bls])).1
  have la := sencO_len a
  have lb := sencO_len b
  have da := sdec_enc ha
  have db := sdec_enc hb
  have ta := fun (h : c ≠ 0) => sdec_turned a hp h
  have tb := fun (h : c ≠ 0) => sdec_turned b hp h
  have fa := fx_zero (sencO a) p
  have fb := fx_zero (sencO b) p
  have lfa := fx_len (sencO a) p c
  have lfb := fx_len (sencO b) p c
  have hk2 : k = 0 ∨ k = 1 := by omega
  rcases tmod2 hn with he | he
  · have he2 : b.1.tmod 2 = 1 := by rw [hE, Int.tmod_eq_emod_of_nonneg (by omega)]; rw [Int.tmod_eq_emod_of_nonneg hn] at he; omega
    rw [he, he2]
    show ∃ t0 t1 n, drot ([sencO a, sencO b], []) k p c = _ ∧ _
    rw [rot_two la lb k p hk hp c]
    rcases hk2 with rfl | rfl
    · refine ⟨fx (sencO a) p c, sencO b, 1, rfl, ?_⟩
      rw [load_two (by omega) lb, if_neg (by simp)]
      rw [spick_b (by rw [db]) ?_, db]
      by_cases hc : c = 0
      · subst hc
        right; rw [fa, da, db]; dsimp only; omega
      · exact .inl (ta hc)
    · by_cases hc : c = 0
      · subst hc
        refine ⟨sencO a, fx (sencO b) p 0, 1, rfl, ?_⟩
        rw [load_two la (by omega), if_neg (by simp), fb]
        rw [spick_b (by rw [db]) (.inr (by rw [da, db]; dsimp only; omega)), db]
      · refine ⟨sencO a, fx (sencO b) p c, 0, rfl, ?_⟩
        rw [load_two la (by omega), if_pos ⟨rfl, hc⟩]
        rw [spick_a (by rw [da]) (.inl (tb hc)), da]
  · have he2 : b.1.tmod 2 = 0 := by rw [hE, Int.tmod_eq_emod_of_nonneg (by omega)]; rw [Int.tmod_eq_emod_of_nonneg hn] at he; omega
    rw [he, he2]
    show ∃ t0 t1 n, drot ([sencO b, sencO a], []) k p c = _ ∧ _
    rw [rot_two lb la k p hk hp c]
    rcases hk2 with rfl | rfl
    · by_cases hc : c = 0
      · subst hc
        refine ⟨fx (sencO b) p 0, sencO a, 0, rfl, ?_⟩
        rw [load_two (by omega) la, if_neg (by simp), fb]
        rw [spick_a (by rw [db]) (.inr (by rw [da, db]; dsimp only; omega)), db]
      · refine ⟨fx (sencO b) p c, sencO a, 1, rfl, ?_⟩
        rw [load_two (by omega) la, if_pos ⟨rfl, hc⟩]
        rw [spick_b (by rw [da]) (.inl (tb hc)), da]
    · refine ⟨sencO b, fx (sencO a) p c, 0, rfl, ?_⟩
      rw [load_two lb (by omega), if_neg (by simp)]
      rw [spick_a (by rw [db]) ?_, db]
      by_cases hc : c = 0
      · subst hc
        right; rw [fa, da, db]; dsimp only; omega
      · exact .inl (ta hc)

end Go.Proofs.Ytpebgepjohlklaa

namespace Go.Proofs.Ytpebgepjohlklaa.superRot
open Go.ChangeShapes Go.WideShapes Go.ChangeAt Go.RowKit
set_option linter.unusedVariables false

theorem dnew2 : dnew 2 = (([List.replicate 64 0, List.replicate 64 0], []), 0) := rfl
theorem heap_set1 {u : World} {g : Nat} {a b c d e : Value} {t : TypeId} (h : u.heap[g]? = some (.cells #[a, b, c, d, e] t (0, 0))) (x : Value) : (u.setCell ⟨g, 0, none⟩ x).heap[g]? = some (.cells #[x, b, c, d, e] t (0, 0)) := by
  simp [World.setCell, Array.getElem?_modify, h]
theorem u8_of {a : Int} (h : (Lit.int .u8 a).wf = true) : ∃ c : UInt8, a = (c.toNat : Int) := by
  have : 0 ≤ a ∧ a ≤ 255 := by simpa [Lit.wf, IntKind.min, IntKind.max, IntKind.signed, IntKind.bits] using h
  exact ⟨UInt8.ofNat a.toNat, by rw [UInt8.toNat_ofNat_of_lt' (by show a.toNat < 256; omega)]; omega⟩
set_option maxRecDepth 100000 in
set_option linter.unusedSimpArgs false in
set_option maxHeartbeats 8000000 in
theorem walk (w : World) (cs0 : Array Value) (x0 : Blk) (g0 : SBlk.rd w cs0.toList x0) (m0 : bwf x0) (cs1 : Array Value) (x1 : Blk) (g1 : SBlk.rd w cs1.toList x1) (m1 : bwf x1) (a2 : Bool) (a3 : Int) (w3' : (Lit.int .i64 a3).wf = true) (a4 : Int) (w4' : (Lit.int .u8 a4).wf = true) :
    Calls Try.prog 6 #[.agg cs0, .agg cs1, .bool a2, .int .i64 a3, .int .u8 a4] w fun e w' => e = .returned (.bool true) ∧ Below w.heap.size w w' := by
  obtain rfl := blk_form g0
  obtain rfl := blk_form g1
  have hn0 := wf_int6 m0.1
  have ha3 := wf_int6 w3'
  obtain ⟨c, rfl⟩ := u8_of w4'
  clear g0 m0 g1 m1 w3' w4'
  obtain ⟨n0, n1, n2, n3, n4⟩ := x0
  obtain ⟨k0, k1, k2, k3, k4⟩ := x1
  dsimp only at hn0 ⊢
  have hu0 : 0 ≤ n0.tmod 1000 % 1000 := Int.emod_nonneg _ (by decide)
  have hu1 : n0.tmod 1000 % 1000 < 1000 := Int.emod_lt_of_pos _ (by decide)
  have hr1 : -1000 < n0.tmod 1000 := Int.lt_tmod_of_pos n0 (by decide)
  have hr2 : n0.tmod 1000 < 1000 := Int.tmod_lt_of_pos n0 (by decide)
  have ht0 : 0 ≤ a3.tmod 64 % 64 := Int.emod_nonneg _ (by decide)
  have ht1 : a3.tmod 64 % 64 < 64 := Int.emod_lt_of_pos _ (by decide)
  have hs1 : -64 < a3.tmod 64 := Int.lt_tmod_of_pos a3 (by decide)
  have hs2 : a3.tmod 64 < 64 := Int.tmod_lt_of_pos a3 (by decide)
  obtain ⟨V, hV, HA, bV, sV⟩ := boxedN w #[.int .i64 n0, .int .i64 n1, .int .i64 n2, .int .i64 n3, .int .i64 n4] 23
  obtain ⟨X, hX, HB, bX, sX⟩ := boxedN V #[.int .i64 k0, .int .i64 k1, .int .i64 k2, .int .i64 k3, .int .i64 k4] 23
  rw [sV] at HB
  replace HA := hide ((bX.block _ (lt_of_block HA)).trans HA)
  replace HB := hide HB
  have CC := hide (bV.trans (bX.mono bV.size))
  clear bV bX
  go_enter Try.func6, Try.ntmps6
  go_wp2_with fail
  rw [← hV, ← hX]
  replace hX := hide hX
  replace hV := hide hV
  refine (salive_any X).mono ?_
  rintro e w1 ⟨rfl, b⟩
  replace HA := hide ((b.block _ (lt_of_block HA.out)).trans HA.out)
  replace HB := hide ((b.block _ (lt_of_block HB.out)).trans HB.out)
  replace CC := hide (CC.out.trans (b.mono CC.out.size))
  clear b
  have KN := hide (dnew_any w1 2)
  rw [dnew2] at KN
  dsimp only at KN
  go_wp2_with fail
  refine KN.out.mono ?_
  rintro e w2 ⟨ds, dc, rfl, o, b⟩
  clear KN
  have hw12 := hide b.size
  have hwA : w.heap.size < w1.heap.size := lt_of_block HA.out
  have hwB : w.heap.size + 1 < w1.heap.size := lt_of_block HB.out
  replace HA := hide ((b.block _ (lt_of_block HA.out)).trans HA.out)
  replace HB := hide ((b.block _ (lt_of_block HB.out)).trans HB.out)
  replace CC := hide (CC.out.trans (b.mono CC.out.size))
  clear b
  obtain ⟨P1, P2⟩ := Own.fst (c := [ds]) (d := [dc]) o rfl
  obtain ⟨da, dx, hs⟩ := P1.rdS.slice
  obtain ⟨db, dy, hc⟩ := P2.rdS.slice
  subst hs hc
  clear P1 P2
  replace o := hide o
  replace o : Hid (Own SStP w1.heap.size w2 [.slice da 2 dx, .slice db 0 dy] ([List.replicate 64 0, List.replicate 64 0], [])) := o
  obtain ⟨Y, hY, HD, bY, _⟩ := boxedN w2 #[.slice da 2 dx, .slice db 0 dy] 51
  obtain ⟨gD, hgD⟩ : ∃ g, g = w2.heap.size := ⟨_, rfl⟩
  rw [← hgD] at HD
  replace HD := hide HD
  replace HA := hide ((bY.block _ (lt_of_block HA.out)).trans HA.out)
  replace HB := hide ((bY.block _ (lt_of_block HB.out)).trans HB.out)
  replace o := hide (o.out.to bY)
  replace CC := hide (CC.out.trans (bY.mono CC.out.size))
  clear bY
  have hwD : w1.heap.size ≤ gD := by rw [hgD]; exact hw12.out
  go_upto_region 4 with fail
  have hYe : w2.alloc (.cells #[.slice da 2 dx, .slice db 0 dy] 51) = Y := hY.symm
  rw [← hgD]
  try rw [hYe]
  replace hY := hide hY
  replace hYe := hide hYe
  replace hgD := hide hgD
  obtain ⟨⟨a_0, a_1, a_2, a_3, a_4⟩, _⟩ := cells5 HA.out
  obtain ⟨⟨b_0, b_1, b_2, b_3, b_4⟩, _⟩ := cells5 HB.out
  have fA := (cells5 HA.out).2 0
  have fB := (cells5 HB.out).2 0
  go_upto_region 6 with fail
  clear a_0 a_1 a_2 a_3 a_4 b_0 b_1 b_2 b_3 b_4 fA fB
  obtain ⟨E, hE⟩ : ∃ E, n0.tmod 1000 % 1000 = E := ⟨_, rfl⟩
  simp only [Int.add_emod_right, hE]
  rw [hE] at hu0 hu1
  clear hr1 hr2 hn0
  replace hE := hide hE
  have nAB : w.heap.size ≠ w.heap.size + 1 := by omega
  obtain ⟨U, hU⟩ : ∃ U, U = (Y.setCell ⟨w.heap.size, 0, none⟩ (.int .i64 E)).setCell ⟨w.heap.size + 1, 0, none⟩ (.int .i64 (E + 1)) := ⟨_, rfl⟩
  rw [← hU]
  replace HA : Hid (U.heap[w.heap.size]? = some (.cells #[.int .i64 E, .int .i64 n1, .int .i64 n2, .int .i64 n3, .int .i64 n4] 23 (0, 0))) := by
    show _ = _
    rw [hU, Below.heap_setCell _ _ _ _ (by show w.heap.size ≠ w.heap.size + 1; omega)]; exact heap_set1 HA.out _
  replace HB : Hid (U.heap[w.heap.size + 1]? = some (.cells #[.int .i64 (E + 1), .int .i64 k1, .int .i64 k2, .int .i64 k3, .int .i64 k4] 23 (0, 0))) := by
    show _ = _
    rw [hU]; exact heap_set1 (by rw [Below.heap_setCell _ _ _ _ (by show w.heap.size + 1 ≠ w.heap.size; omega)]; exact HB.out) _
  replace HD : Hid (U.heap[gD]? = some (.cells #[.slice da 2 dx, .slice db 0 dy] 51 (0, 0))) := by
    show _ = _
    rw [hU, Below.heap_setCell _ _ _ _ (by show gD ≠ w.heap.size + 1; omega), Below.heap_setCell _ _ _ _ (by show gD ≠ w.heap.size; omega)]; exact HD.out
  replace o : Hid (Own SStP w1.heap.size U [.slice da 2 dx, .slice db 0 dy] ([List.replicate 64 0, List.replicate 64 0], [])) := by
    show Own _ _ _ _ _
    rw [hU]; exact (o.out.set (a := ⟨w.heap.size, 0, none⟩) hwA _).set (a := ⟨w.heap.size + 1, 0, none⟩) hwB _
  replace CC : Hid (Below w.heap.size w U) := by
    show Below _ _ _
    rw [hU]; exact (CC.out.setCell (p := ⟨w.heap.size, 0, none⟩) (Nat.le_refl _) _).setCell (p := ⟨w.heap.size + 1, 0, none⟩) (Nat.le_succ _) _
  replace hU := hide hU
  have sz := hide (sdisk_two (s0 := List.replicate 64 0) (s1 := List.replicate 64 0) (by simp) (by simp))
  have NUM : True := trivial
  by_cases hA : bok (E, n1, n2, n3, n4)
  ·
    obtain ⟨s0, s1, hS1, l0, l1⟩ : ∃ s0 s1, sstore ([List.replicate 64 0, List.replicate 64 0], []) (E, n1, n2, n3, n4) = (([s0, s1], []), 0) ∧ s0.length = 64 ∧ s1.length = 64 := by
      rw [store_two (by simp) (by simp) hA]
      rcases tmod2 (n := E) hu0 with h | h
      · rw [h]; exact ⟨sencO (E, n1, n2, n3, n4), List.replicate 64 0, rfl, sencO_len _, by simp⟩
      · rw [h]; exact ⟨List.replicate 64 0, sencO (E, n1, n2, n3, n4), rfl, by simp, sencO_len _⟩
    have hD1 : Hid (([s0, s1], ([] : List Wrt)) = ([List.replicate 64 0, List.replicate 64 0].set (E.tmod 2).toNat (sencO (E, n1, n2, n3, n4)), [])) := by
      show _ = _
      have h := store_two (s0 := List.replicate 64 0) (s1 := List.replicate 64 0) (by simp) (by simp) hA
      rw [hS1] at h
      exact congrArg Prod.fst h
    obtain ⟨P1, P2⟩ := Own.fst (c := [.slice da 2 dx]) (d := [.slice db 0 dy]) o.out rfl
    have KS := hide (pstore_any U _ _ ([List.replicate 64 0, List.replicate 64 0], []) (E, n1, n2, n3, n4) P1.rdS P2.rdS)
    rw [hS1] at KS
    dsimp only at KS
    clear P1 P2 o
    obtain ⟨d_0, d_1, _, _⟩ := row2_cells HD.out
    obtain ⟨⟨a_0, a_1, a_2, a_3, a_4⟩, _⟩ := cells5 HA.out
    go_wp2_with fail
    clear d_0 d_1 a_0 a_1 a_2 a_3 a_4
    refine KS.out.mono ?_
    rintro e w3 ⟨es, ec, rfl, o, b⟩
    clear KS
    have hszD : gD < U.heap.size := lt_of_block HD.out
    replace HA := hide ((b.block _ (lt_of_block HA.out)).trans HA.out)
    replace HB := hide ((b.block _ (lt_of_block HB.out)).trans HB.out)
    replace HD := hide ((b.block _ (lt_of_block HD.out)).trans HD.out)
    replace CC := hide (CC.out.trans (b.mono CC.out.size))
    clear b
    obtain ⟨P1, P2⟩ := Own.fst (c := [es]) (d := [ec]) o rfl
    obtain ⟨ea, ex, hs⟩ := P1.rdS.slice
    obtain ⟨eb, ey, hc⟩ := P2.rdS.slice
    subst hs hc
    clear P1 P2
    replace o : Own SStP U.heap.size w3 [.slice ea 2 ex, .slice eb 0 ey] ([s0, s1], []) := o
    obtain ⟨z0, z1, z2, z3⟩ := row2_cells HD.out
    obtain ⟨U2, hU2⟩ : ∃ U, U = (w3.setCell ⟨gD, 0, none⟩ (.slice ea 2 ex)).setCell ⟨gD, 1, none⟩ (.slice eb 0 ey) := ⟨_, rfl⟩
    have HA2 : Hid (U2.heap[w.heap.size]? = some (.cells #[.int .i64 E, .int .i64 n1, .int .i64 n2, .int .i64 n3, .int .i64 n4] 23 (0, 0))) := by
      show _ = _
      rw [hU2, Below.heap_setCell _ _ _ _ (by show w.heap.size ≠ gD; omega), Below.heap_setCell _ _ _ _ (by show w.heap.size ≠ gD; omega)]; exact HA.out
    have HB2 : Hid (U2.heap[w.heap.size + 1]? = some (.cells #[.int .i64 (E + 1), .int .i64 k1, .int .i64 k2, .int .i64 k3, .int .i64 k4] 23 (0, 0))) := by
      show _ = _
      rw [hU2, Below.heap_setCell _ _ _ _ (by show w.heap.size + 1 ≠ gD; omega), Below.heap_setCell _ _ _ _ (by show w.heap.size + 1 ≠ gD; omega)]; exact HB.out
    have HD2 : Hid (U2.heap[gD]? = some (.cells #[.slice ea 2 ex, .slice eb 0 ey] 51 (0, 0))) := by
      show _ = _
      rw [hU2]; exact heap_set2 HD.out _ _
    replace o : Hid (Own SStP U.heap.size U2 [.slice ea 2 ex, .slice eb 0 ey] ([s0, s1], [])) := by
      show Own _ _ _ _ _
      rw [hU2]; exact (o.set (a := ⟨gD, 0, none⟩) hszD _).set (a := ⟨gD, 1, none⟩) hszD _
    have CC2 : Hid (Below w.heap.size w U2) := by
      show Below _ _ _
      rw [hU2]; exact below_set2 CC.out (by omega) _ _
    go_upto_region 7 with fail
    rw [← hU2]
    replace hU2 := hide hU2
    clear z0 z1 z2 z3 HA HB HD CC
    have HA := HA2
    have HB := HB2
    have HD := HD2
    have CC := CC2
    clear HA2 HB2 HD2 CC2
    go_wp2_with fail
    refine (num6_any _ _).mono ?_
    rintro e w' ⟨rfl, rfl⟩
    go_wp2_with fail
    refine (num6_any _ _).mono ?_
    rintro e w' ⟨rfl, rfl⟩
    by_cases hB : bok (E + 1, k1, k2, k3, k4)
    ·
      obtain ⟨u0, u1, hS2, v0, v1⟩ : ∃ t0 t1, sstore ([s0, s1], []) (E + 1, k1, k2, k3, k4) = (([t0, t1], []), 0) ∧ t0.length = 64 ∧ t1.length = 64 := by
        rw [store_two l0 l1 hB]
        rcases tmod2 (n := E + 1) (by omega) with h | h
        · rw [h]; exact ⟨sencO (E + 1, k1, k2, k3, k4), s1, rfl, sencO_len _, l1⟩
        · rw [h]; exact ⟨s0, sencO (E + 1, k1, k2, k3, k4), rfl, l0, sencO_len _⟩
      have hD2 : Hid (([u0, u1], ([] : List Wrt)) = (([List.replicate 64 0, List.replicate 64 0].set (E.tmod 2).toNat (sencO (E, n1, n2, n3, n4))).set ((E + 1).tmod 2).toNat (sencO (E + 1, k1, k2, k3, k4)), [])) := by
        show _ = _
        have h := store_two l0 l1 hB
        rw [hS2] at h
        have h3 := congrArg Prod.fst h
        have h4 := congrArg Prod.fst hD1.out
        dsimp only at h3 h4
        rw [h3, h4]
      obtain ⟨P1, P2⟩ := Own.fst (c := [.slice ea 2 ex]) (d := [.slice eb 0 ey]) o.out rfl
      have KS := hide (pstore_any U2 _ _ ([s0, s1], []) (E + 1, k1, k2, k3, k4) P1.rdS P2.rdS)
      rw [hS2] at KS
      dsimp only at KS
      clear P1 P2 o
      obtain ⟨d_0, d_1, _, _⟩ := row2_cells HD.out
      obtain ⟨⟨b_0, b_1, b_2, b_3, b_4⟩, _⟩ := cells5 HB.out
      go_wp2_with fail
      clear d_0 d_1 b_0 b_1 b_2 b_3 b_4
      refine KS.out.mono ?_
      rintro e w4 ⟨fs, fc, rfl, o, b⟩
      clear KS
      have hszD : gD < U2.heap.size := lt_of_block HD.out
      replace HA := hide ((b.block _ (lt_of_block HA.out)).trans HA.out)
      replace HB := hide ((b.block _ (lt_of_block HB.out)).trans HB.out)
      replace HD := hide ((b.block _ (lt_of_block HD.out)).trans HD.out)
      replace CC := hide (CC.out.trans (b.mono CC.out.size))
      clear b
      obtain ⟨P1, P2⟩ := Own.fst (c := [fs]) (d := [fc]) o rfl
      obtain ⟨fa, fx, hs⟩ := P1.rdS.slice
      obtain ⟨fb, fy, hc⟩ := P2.rdS.slice
      subst hs hc
      clear P1 P2
      replace o : Own SStP U2.heap.size w4 [.slice fa 2 fx, .slice fb 0 fy] ([u0, u1], []) := o
      obtain ⟨z0, z1, z2, z3⟩ := row2_cells HD.out
      obtain ⟨U3, hU3⟩ : ∃ U, U = (w4.setCell ⟨gD, 0, none⟩ (.slice fa 2 fx)).setCell ⟨gD, 1, none⟩ (.slice fb 0 fy) := ⟨_, rfl⟩
      have HA2 : Hid (U3.heap[w.heap.size]? = some (.cells #[.int .i64 E, .int .i64 n1, .int .i64 n2, .int .i64 n3, .int .i64 n4] 23 (0, 0))) := by
        show _ = _
        rw [hU3, Below.heap_setCell _ _ _ _ (by show w.heap.size ≠ gD; omega), Below.heap_setCell _ _ _ _ (by show w.heap.size ≠ gD; omega)]; exact HA.out
      have HB2 : Hid (U3.heap[w.heap.size + 1]? = some (.cells #[.int .i64 (E + 1), .int .i64 k1, .int .i64 k2, .int .i64 k3, .int .i64 k4] 23 (0, 0))) := by
        show _ = _
        rw [hU3, Below.heap_setCell _ _ _ _ (by show w.heap.size + 1 ≠ gD; omega), Below.heap_setCell _ _ _ _ (by show w.heap.size + 1 ≠ gD; omega)]; exact HB.out
      have HD2 : Hid (U3.heap[gD]? = some (.cells #[.slice fa 2 fx, .slice fb 0 fy] 51 (0, 0))) := by
        show _ = _
        rw [hU3]; exact heap_set2 HD.out _ _
      replace o : Hid (Own SStP U2.heap.size U3 [.slice fa 2 fx, .slice fb 0 fy] ([u0, u1], [])) := by
        show Own _ _ _ _ _
        rw [hU3]; exact (o.set (a := ⟨gD, 0, none⟩) hszD _).set (a := ⟨gD, 1, none⟩) hszD _
      have CC2 : Hid (Below w.heap.size w U3) := by
        show Below _ _ _
        rw [hU3]; exact below_set2 CC.out (by omega) _ _
      go_upto_region 10 with fail
      rw [← hU3]
      replace hU3 := hide hU3
      clear z0 z1 z2 z3 HA HB HD CC
      have HA := HA2
      have HB := HB2
      have HD := HD2
      have CC := CC2
      clear HA2 HB2 HD2 CC2
      go_wp2_with fail
      refine (num6_any _ _).mono ?_
      rintro e w' ⟨rfl, rfl⟩
      obtain ⟨p, hp⟩ : ∃ p : Nat, a3.tmod 64 % 64 = (p : Int) := ⟨(a3.tmod 64 % 64).toNat, by omega⟩
      have hpl : p < 64 := by omega
      replace hA := hide hA
      replace hB := hide hB
      replace hS1 := hide hS1
      replace hS2 := hide hS2
      replace l0 := hide l0
      replace l1 := hide l1
      replace v0 := hide v0
      replace v1 := hide v1
      clear ht0 ht1
      cases a2 with
      | false =>
        obtain ⟨t0, t1, nl, hR, hL⟩ := rot_pick hA.out hB.out rfl 0 p (by decide) hpl c
        dsimp only at hR hL
        rw [← hD2.out] at hR
        obtain ⟨P1, P2⟩ := Own.fst (c := [.slice fa 2 fx]) (d := [.slice fb 0 fy]) o.out rfl
        have KR := hide (drot_any U3 _ _ ([u0, u1], []) 0 p c P1.rdS P2.rdS)
        replace hR : drot ([u0, u1], []) 0 p c = (([t0, t1], []), 0) := hR
        rw [hR] at KR
        dsimp only at KR
        clear P1 P2 hR
        obtain ⟨d_0, d_1, _, _⟩ := row2_cells HD.out
        go_wp2_with fail
        clear d_0 d_1
        simp only [Int.add_emod_right, hp]
        refine KR.out.mono ?_
        rintro e w5 ⟨hs, hc, rfl, o5, b⟩
        clear KR
        clear o
        replace HA := hide ((b.block _ (lt_of_block HA.out)).trans HA.out)
        replace HB := hide ((b.block _ (lt_of_block HB.out)).trans HB.out)
        replace HD := hide ((b.block _ (lt_of_block HD.out)).trans HD.out)
        replace CC := hide (CC.out.trans (b.mono CC.out.size))
        clear b
        obtain ⟨P1, P2⟩ := Own.fst (c := [hs]) (d := [hc]) o5 rfl
        obtain ⟨ha, hx, hs1⟩ := P1.rdS.slice
        obtain ⟨hb, hy, hc1⟩ := P2.rdS.slice
        subst hs1 hc1
        have h1 := hide P1.rdS
        have h2 := hide P2.rdS
        clear P1 P2 o5
        replace h1 : Hid (RdSec w5 (.slice ha 2 hx) [t0, t1]) := h1
        replace h2 : Hid (RdC w5 (.slice hb 0 hy) []) := h2
        obtain ⟨Y1, hY1, HT, bY1, _⟩ := boxedN w5 #[.slice ha 2 hx, .slice hb 0 hy] 51
        obtain ⟨gT, hgT⟩ : ∃ g, g = w5.heap.size := ⟨_, rfl⟩
        rw [← hgT] at HT
        replace HT := hide HT
        replace HA := hide ((bY1.block _ (lt_of_block HA.out)).trans HA.out)
        replace HB := hide ((bY1.block _ (lt_of_block HB.out)).trans HB.out)
        replace HD := hide ((bY1.block _ (lt_of_block HD.out)).trans HD.out)
        replace h1 := hide (h1.out.to0 bY1)
        replace h2 := hide (h2.out.to0 bY1)
        replace CC := hide (CC.out.trans (bY1.mono CC.out.size))
        clear bY1
        have KL := hide (pload_any Y1 _ _ ([t0, t1], []) h1.out h2.out)
        rw [hL] at KL
        dsimp only at KL
        clear hL
        obtain ⟨t_0, t_1, _, _⟩ := row2_cells HT.out
        rw [hY1] at t_0 t_1
        rw [hgT] at t_0 t_1
        by_cases hit : ((0 : Nat) : Int) = (E + 1).tmod 2 ∧ c ≠ 0
        ·
          rw [if_pos hit] at KL
          dsimp only at KL
          go_wp2_with fail
          clear t_0 t_1
          rw [← hY1, ← hgT]
          replace hY1 := hide hY1
          replace hgT := hide hgT
          refine KL.out.mono ?_
          rintro e w6 ⟨rfl, b⟩
          clear KL
          replace HA := hide ((b.block _ (lt_of_block HA.out)).trans HA.out)
          replace HB := hide ((b.block _ (lt_of_block HB.out)).trans HB.out)
          replace HD := hide ((b.block _ (lt_of_block HD.out)).trans HD.out)
          replace HT := hide ((b.block _ (lt_of_block HT.out)).trans HT.out)
          replace h1 := hide (h1.out.to0 b)
          replace h2 := hide (h2.out.to0 b)
          replace CC := hide (CC.out.trans (b.mono CC.out.size))
          clear b
          obtain ⟨Y2, hY2, HY, bY2, _⟩ := boxedN w6 #[.int .i64 E, .int .i64 n1, .int .i64 n2, .int .i64 n3, .int .i64 n4] 28
          obtain ⟨gY, hgY⟩ : ∃ g, g = w6.heap.size := ⟨_, rfl⟩
          rw [← hgY] at HY
          replace HY := hide HY
          replace HA := hide ((bY2.block _ (lt_of_block HA.out)).trans HA.out)
          replace HB := hide ((bY2.block _ (lt_of_block HB.out)).trans HB.out)
          replace HD := hide ((bY2.block _ (lt_of_block HD.out)).trans HD.out)
          replace HT := hide ((bY2.block _ (lt_of_block HT.out)).trans HT.out)
          replace h1 := hide (h1.out.to0 bY2)
          replace h2 := hide (h2.out.to0 bY2)
          replace CC := hide (CC.out.trans (bY2.mono CC.out.size))
          clear bY2
          go_upto_region 17 with fail
          rw [← hY2, ← hgY]
          replace hY2 := hide hY2
          replace hgY := hide hgY
          obtain ⟨⟨a_0, a_1, a_2, a_3, a_4⟩, _⟩ := cells5 HA.out
          obtain ⟨⟨b_0, b_1, b_2, b_3, b_4⟩, _⟩ := cells5 HB.out
          obtain ⟨⟨y_0, y_1, y_2, y_3, y_4⟩, _⟩ := cells5 HY.out
          obtain ⟨hi1, hi2⟩ := hit
          have hE2 : (E + 1).tmod 2 = 0 := hi1.symm
          have hcb : (((c.toNat : Nat) : Int) != 0) = true := by have := c_ne hi2; simp only [bne_iff_ne]; omega
          have hEb : (E == E + 1) = false := beq_eq_false_iff_ne.2 (by omega)
          replace hi1 := hide hi1
          replace hi2 := hide hi2
          go_wp2_with fail
          refine (num6_any _ _).mono ?_
          rintro e w' ⟨rfl, rfl⟩
          go_wp2_with fail
          refine (num6_any _ _).mono ?_
          rintro e w' ⟨rfl, rfl⟩
          go_wp2
          go_ret
          exact ⟨rfl, CC.out⟩
        ·
          rw [if_neg hit] at KL
          dsimp only at KL
          go_wp2_with fail
          clear t_0 t_1
          rw [← hY1, ← hgT]
          replace hY1 := hide hY1
          replace hgT := hide hgT
          refine KL.out.mono ?_
          rintro e w6 ⟨rfl, b⟩
          clear KL
          replace HA := hide ((b.block _ (lt_of_block HA.out)).trans HA.out)
          replace HB := hide ((b.block _ (lt_of_block HB.out)).trans HB.out)
          replace HD := hide ((b.block _ (lt_of_block HD.out)).trans HD.out)
          replace HT := hide ((b.block _ (lt_of_block HT.out)).trans HT.out)
          replace h1 := hide (h1.out.to0 b)
          replace h2 := hide (h2.out.to0 b)
          replace CC := hide (CC.out.trans (b.mono CC.out.size))
          clear b
          obtain ⟨Y3, hY3, HY, bY3, _⟩ := boxedN w6 #[.int .i64 (E + 1), .int .i64 k1, .int .i64 k2, .int .i64 k3, .int .i64 k4] 28
          obtain ⟨gY, hgY⟩ : ∃ g, g = w6.heap.size := ⟨_, rfl⟩
          rw [← hgY] at HY
          replace HY := hide HY
          replace HA := hide ((bY3.block _ (lt_of_block HA.out)).trans HA.out)
          replace HB := hide ((bY3.block _ (lt_of_block HB.out)).trans HB.out)
          replace HD := hide ((bY3.block _ (lt_of_block HD.out)).trans HD.out)
          replace HT := hide ((bY3.block _ (lt_of_block HT.out)).trans HT.out)
          replace h1 := hide (h1.out.to0 bY3)
          replace h2 := hide (h2.out.to0 bY3)
          replace CC := hide (CC.out.trans (bY3.mono CC.out.size))
          clear bY3
          go_upto_region 17 with fail
          rw [← hY3, ← hgY]
          replace hY3 := hide hY3
          replace hgY := hide hgY
          obtain ⟨⟨a_0, a_1, a_2, a_3, a_4⟩, _⟩ := cells5 HA.out
          obtain ⟨⟨b_0, b_1, b_2, b_3, b_4⟩, _⟩ := cells5 HB.out
          obtain ⟨⟨y_0, y_1, y_2, y_3, y_4⟩, _⟩ := cells5 HY.out
          obtain ⟨rm, hrm⟩ : ∃ rm, (E + 1).tmod 2 = rm := ⟨_, rfl⟩
          rw [hrm] at hit
          by_cases hk : rm = 0
          ·
            have hc0 : c = 0 := Decidable.not_not.1 fun h => hit ⟨by rw [hk]; rfl, h⟩
            subst hk
            subst hc0
            clear hit
            have hz : ((UInt8.toNat 0 : Nat) : Int) = 0 := rfl
            go_wp2_with fail
            refine (num6_any _ _).mono ?_
            rintro e w' ⟨rfl, rfl⟩
            go_wp2_with fail
            refine (num6_any _ _).mono ?_
            rintro e w' ⟨rfl, rfl⟩
            go_wp2
            go_ret
            exact ⟨rfl, CC.out⟩
          ·
            have hkb : (0 == rm) = false := by simp; omega
            replace hk := hide hk
            clear hit
            go_wp2_with fail
            refine (num6_any _ _).mono ?_
            rintro e w' ⟨rfl, rfl⟩
            go_wp2_with fail
            refine (num6_any _ _).mono ?_
            rintro e w' ⟨rfl, rfl⟩
            go_wp2
            go_ret
            exact ⟨rfl, CC.out⟩
      | true =>
        obtain ⟨t0, t1, nl, hR, hL⟩ := rot_pick hA.out hB.out rfl 1 p (by decide) hpl c
        dsimp only at hR hL
        rw [← hD2.out] at hR
        obtain ⟨P1, P2⟩ := Own.fst (c := [.slice fa 2 fx]) (d := [.slice fb 0 fy]) o.out rfl
        have KR := hide (drot_any U3 _ _ ([u0, u1], []) 1 p c P1.rdS P2.rdS)
        replace hR : drot ([u0, u1], []) 1 p c = (([t0, t1], []), 0) := hR
        rw [hR] at KR
        dsimp only at KR
        clear P1 P2 hR
        obtain ⟨d_0, d_1, _, _⟩ := row2_cells HD.out
        go_wp2_with fail
        clear d_0 d_1
        simp only [Int.add_emod_right, hp]
        refine KR.out.mono ?_
        rintro e w5 ⟨hs, hc, rfl, o5, b⟩
        clear KR
        clear o
        replace HA := hide ((b.block _ (lt_of_block HA.out)).trans HA.out)
        replace HB := hide ((b.block _ (lt_of_block HB.out)).trans HB.out)
        replace HD := hide ((b.block _ (lt_of_block HD.out)).trans HD.out)
        replace CC := hide (CC.out.trans (b.mono CC.out.size))
        clear b
        obtain ⟨P1, P2⟩ := Own.fst (c := [hs]) (d := [hc]) o5 rfl
        obtain ⟨ha, hx, hs1⟩ := P1.rdS.slice
        obtain ⟨hb, hy, hc1⟩ := P2.rdS.slice
        subst hs1 hc1
        have h1 := hide P1.rdS
        have h2 := hide P2.rdS
        clear P1 P2 o5
        replace h1 : Hid (RdSec w5 (.slice ha 2 hx) [t0, t1]) := h1
        replace h2 : Hid (RdC w5 (.slice hb 0 hy) []) := h2
        obtain ⟨Y4, hY4, HT, bY4, _⟩ := boxedN w5 #[.slice ha 2 hx, .slice hb 0 hy] 51
        obtain ⟨gT, hgT⟩ : ∃ g, g = w5.heap.size := ⟨_, rfl⟩
        rw [← hgT] at HT
        replace HT := hide HT
        replace HA := hide ((bY4.block _ (lt_of_block HA.out)).trans HA.out)
        replace HB := hide ((bY4.block _ (lt_of_block HB.out)).trans HB.out)
        replace HD := hide ((bY4.block _ (lt_of_block HD.out)).trans HD.out)
        replace h1 := hide (h1.out.to0 bY4)
        replace h2 := hide (h2.out.to0 bY4)
        replace CC := hide (CC.out.trans (bY4.mono CC.out.size))
        clear bY4
        have KL := hide (pload_any Y4 _ _ ([t0, t1], []) h1.out h2.out)
        rw [hL] at KL
        dsimp only at KL
        clear hL
        obtain ⟨t_0, t_1, _, _⟩ := row2_cells HT.out
        rw [hY4] at t_0 t_1
        rw [hgT] at t_0 t_1
        by_cases hit : ((1 : Nat) : Int) = (E + 1).tmod 2 ∧ c ≠ 0
        ·
          rw [if_pos hit] at KL
          dsimp only at KL
          go_wp2_with fail
          clear t_0 t_1
          rw [← hY4, ← hgT]
          replace hY4 := hide hY4
          replace hgT := hide hgT
          refine KL.out.mono ?_
          rintro e w6 ⟨rfl, b⟩
          clear KL
          replace HA := hide ((b.block _ (lt_of_block HA.out)).trans HA.out)
          replace HB := hide ((b.block _ (lt_of_block HB.out)).trans HB.out)
          replace HD := hide ((b.block _ (lt_of_block HD.out)).trans HD.out)
          replace HT := hide ((b.block _ (lt_of_block HT.out)).trans HT.out)
          replace h1 := hide (h1.out.to0 b)
          replace h2 := hide (h2.out.to0 b)
          replace CC := hide (CC.out.trans (b.mono CC.out.size))
          clear b
          obtain ⟨Y5, hY5, HY, bY5, _⟩ := boxedN w6 #[.int .i64 E, .int .i64 n1, .int .i64 n2, .int .i64 n3, .int .i64 n4] 28
          obtain ⟨gY, hgY⟩ : ∃ g, g = w6.heap.size := ⟨_, rfl⟩
          rw [← hgY] at HY
          replace HY := hide HY
          replace HA := hide ((bY5.block _ (lt_of_block HA.out)).trans HA.out)
          replace HB := hide ((bY5.block _ (lt_of_block HB.out)).trans HB.out)
          replace HD := hide ((bY5.block _ (lt_of_block HD.out)).trans HD.out)
          replace HT := hide ((bY5.block _ (lt_of_block HT.out)).trans HT.out)
          replace h1 := hide (h1.out.to0 bY5)
          replace h2 := hide (h2.out.to0 bY5)
          replace CC := hide (CC.out.trans (bY5.mono CC.out.size))
          clear bY5
          go_upto_region 17 with fail
          rw [← hY5, ← hgY]
          replace hY5 := hide hY5
          replace hgY := hide hgY
          obtain ⟨⟨a_0, a_1, a_2, a_3, a_4⟩, _⟩ := cells5 HA.out
          obtain ⟨⟨b_0, b_1, b_2, b_3, b_4⟩, _⟩ := cells5 HB.out
          obtain ⟨⟨y_0, y_1, y_2, y_3, y_4⟩, _⟩ := cells5 HY.out
          obtain ⟨hi1, hi2⟩ := hit
          have hE2 : (E + 1).tmod 2 = 1 := hi1.symm
          have hcb : (((c.toNat : Nat) : Int) != 0) = true := by have := c_ne hi2; simp only [bne_iff_ne]; omega
          have hEb : (E == E + 1) = false := beq_eq_false_iff_ne.2 (by omega)
          replace hi1 := hide hi1
          replace hi2 := hide hi2
          go_wp2_with fail
          refine (num6_any _ _).mono ?_
          rintro e w' ⟨rfl, rfl⟩
          go_wp2_with fail
          refine (num6_any _ _).mono ?_
          rintro e w' ⟨rfl, rfl⟩
          go_wp2
          go_ret
          exact ⟨rfl, CC.out⟩
        ·
          rw [if_neg hit] at KL
          dsimp only at KL
          go_wp2_with fail
          clear t_0 t_1
          rw [← hY4, ← hgT]
          replace hY4 := hide hY4
          replace hgT := hide hgT
          refine KL.out.mono ?_
          rintro e w6 ⟨rfl, b⟩
          clear KL
          replace HA := hide ((b.block _ (lt_of_block HA.out)).trans HA.out)
          replace HB := hide ((b.block _ (lt_of_block HB.out)).trans HB.out)
          replace HD := hide ((b.block _ (lt_of_block HD.out)).trans HD.out)
          replace HT := hide ((b.block _ (lt_of_block HT.out)).trans HT.out)
          replace h1 := hide (h1.out.to0 b)
          replace h2 := hide (h2.out.to0 b)
          replace CC := hide (CC.out.trans (b.mono CC.out.size))
          clear b
          obtain ⟨Y6, hY6, HY, bY6, _⟩ := boxedN w6 #[.int .i64 (E + 1), .int .i64 k1, .int .i64 k2, .int .i64 k3, .int .i64 k4] 28
          obtain ⟨gY, hgY⟩ : ∃ g, g = w6.heap.size := ⟨_, rfl⟩
          rw [← hgY] at HY
          replace HY := hide HY
          replace HA := hide ((bY6.block _ (lt_of_block HA.out)).trans HA.out)
          replace HB := hide ((bY6.block _ (lt_of_block HB.out)).trans HB.out)
          replace HD := hide ((bY6.block _ (lt_of_block HD.out)).trans HD.out)
          replace HT := hide ((bY6.block _ (lt_of_block HT.out)).trans HT.out)
          replace h1 := hide (h1.out.to0 bY6)
          replace h2 := hide (h2.out.to0 bY6)
          replace CC := hide (CC.out.trans (bY6.mono CC.out.size))
          clear bY6
          go_upto_region 17 with fail
          rw [← hY6, ← hgY]
          replace hY6 := hide hY6
          replace hgY := hide hgY
          obtain ⟨⟨a_0, a_1, a_2, a_3, a_4⟩, _⟩ := cells5 HA.out
          obtain ⟨⟨b_0, b_1, b_2, b_3, b_4⟩, _⟩ := cells5 HB.out
          obtain ⟨⟨y_0, y_1, y_2, y_3, y_4⟩, _⟩ := cells5 HY.out
          obtain ⟨rm, hrm⟩ : ∃ rm, (E + 1).tmod 2 = rm := ⟨_, rfl⟩
          rw [hrm] at hit
          by_cases hk : rm = 1
          ·
            have hc0 : c = 0 := Decidable.not_not.1 fun h => hit ⟨by rw [hk]; rfl, h⟩
            subst hk
            subst hc0
            clear hit
            have hz : ((UInt8.toNat 0 : Nat) : Int) = 0 := rfl
            go_wp2_with fail
            refine (num6_any _ _).mono ?_
            rintro e w' ⟨rfl, rfl⟩
            go_wp2_with fail
            refine (num6_any _ _).mono ?_
            rintro e w' ⟨rfl, rfl⟩
            go_wp2
            go_ret
            exact ⟨rfl, CC.out⟩
          ·
            have hkb : (1 == rm) = false := by simp; omega
            replace hk := hide hk
            clear hit
            go_wp2_with fail
            refine (num6_any _ _).mono ?_
            rintro e w' ⟨rfl, rfl⟩
            go_wp2_with fail
            refine (num6_any _ _).mono ?_
            rintro e w' ⟨rfl, rfl⟩
            go_wp2
            go_ret
            exact ⟨rfl, CC.out⟩
    ·
      obtain ⟨P1, P2⟩ := Own.fst (c := [.slice ea 2 ex]) (d := [.slice eb 0 ey]) o.out rfl
      have KS := hide (pstore_any U2 _ _ ([s0, s1], []) (E + 1, k1, k2, k3, k4) P1.rdS P2.rdS)
      rw [sstore_bad (sdisk_two l0 l1) hB] at KS
      dsimp only at KS
      clear P1 P2 o
      have KQ := hide (fun u => rcheck6_any u (E + 1, k1, k2, k3, k4))
      rw [scheck_no hB] at KQ
      dsimp only at KQ
      obtain ⟨d_0, d_1, _, _⟩ := row2_cells HD.out
      obtain ⟨⟨b_0, b_1, b_2, b_3, b_4⟩, _⟩ := cells5 HB.out
      go_wp2_with fail
      clear d_0 d_1 b_0 b_1 b_2 b_3 b_4
      refine KS.out.mono ?_
      rintro e w4 ⟨ys, yc, rfl, o, b⟩
      clear KS
      obtain ⟨P1, P2⟩ := Own.fst (c := [ys]) (d := [yc]) o rfl
      obtain ⟨ya, yx, hs⟩ := P1.rdS.slice
      obtain ⟨yb, yy, hc⟩ := P2.rdS.slice
      subst hs hc
      clear P1 P2 o
      replace HA := hide ((b.block _ (lt_of_block HA.out)).trans HA.out)
      replace HB := hide ((b.block _ (lt_of_block HB.out)).trans HB.out)
      replace HD := hide ((b.block _ (lt_of_block HD.out)).trans HD.out)
      replace CC := hide (CC.out.trans (b.mono CC.out.size))
      clear b
      obtain ⟨z0, z1, z2, z3⟩ := row2_cells HD.out
      obtain ⟨U9, hU9⟩ : ∃ U, U = (w4.setCell ⟨gD, 0, none⟩ (.slice ya 0 yx)).setCell ⟨gD, 1, none⟩ (.slice yb 0 yy) := ⟨_, rfl⟩
      have HQ : U9.heap[(w.heap.size + 1)]? = some (.cells #[.int .i64 (E + 1), .int .i64 k1, .int .i64 k2, .int .i64 k3, .int .i64 k4] 23 (0, 0)) := by
        rw [hU9, Below.heap_setCell _ _ _ _ (by show (w.heap.size + 1) ≠ gD; omega), Below.heap_setCell _ _ _ _ (by show (w.heap.size + 1) ≠ gD; omega)]; exact HB.out
      have CC2 : Hid (Below w.heap.size w U9) := by
        show Below _ _ _
        rw [hU9]; exact below_set2 CC.out (by omega) _ _
      go_upto_region 10 with fail
      try simp only [List.length_nil]
      rw [← hU9]
      replace hU9 := hide hU9
      clear z0 z1 z2 z3
      obtain ⟨⟨x0, x1, x2, x3, x4⟩, _⟩ := cells5 HQ
      go_wp2_with fail
      refine (num6_any _ _).mono ?_
      rintro e w' ⟨rfl, rfl⟩
      go_wp2_with fail
      refine (KQ.out U9).mono ?_
      rintro e w9 ⟨rfl, b⟩
      go_wp2
      go_ret
      exact ⟨rfl, CC2.out.trans (b.mono CC2.out.size)⟩
  ·
    obtain ⟨P1, P2⟩ := Own.fst (c := [.slice da 2 dx]) (d := [.slice db 0 dy]) o.out rfl
    have KS := hide (pstore_any U _ _ ([List.replicate 64 0, List.replicate 64 0], []) (E, n1, n2, n3, n4) P1.rdS P2.rdS)
    rw [sstore_bad sz.out hA] at KS
    dsimp only at KS
    clear P1 P2 o
    have KQ := hide (fun u => rcheck6_any u (E, n1, n2, n3, n4))
    rw [scheck_no hA] at KQ
    dsimp only at KQ
    obtain ⟨d_0, d_1, _, _⟩ := row2_cells HD.out
    obtain ⟨⟨a_0, a_1, a_2, a_3, a_4⟩, _⟩ := cells5 HA.out
    go_wp2_with fail
    clear d_0 d_1 a_0 a_1 a_2 a_3 a_4
    refine KS.out.mono ?_
    rintro e w3 ⟨ys, yc, rfl, o, b⟩
    clear KS
    obtain ⟨P1, P2⟩ := Own.fst (c := [ys]) (d := [yc]) o rfl
    obtain ⟨ya, yx, hs⟩ := P1.rdS.slice
    obtain ⟨yb, yy, hc⟩ := P2.rdS.slice
    subst hs hc
    clear P1 P2 o
    replace HA := hide ((b.block _ (lt_of_block HA.out)).trans HA.out)
    replace HB := hide ((b.block _ (lt_of_block HB.out)).trans HB.out)
    replace HD := hide ((b.block _ (lt_of_block HD.out)).trans HD.out)
    replace CC := hide (CC.out.trans (b.mono CC.out.size))
    clear b
    obtain ⟨z0, z1, z2, z3⟩ := row2_cells HD.out
    obtain ⟨U9, hU9⟩ : ∃ U, U = (w3.setCell ⟨gD, 0, none⟩ (.slice ya 0 yx)).setCell ⟨gD, 1, none⟩ (.slice yb 0 yy) := ⟨_, rfl⟩
    have HQ : U9.heap[w.heap.size]? = some (.cells #[.int .i64 E, .int .i64 n1, .int .i64 n2, .int .i64 n3, .int .i64 n4] 23 (0, 0)) := by
      rw [hU9, Below.heap_setCell _ _ _ _ (by show w.heap.size ≠ gD; omega), Below.heap_setCell _ _ _ _ (by show w.heap.size ≠ gD; omega)]; exact HA.out
    have CC2 : Hid (Below w.heap.size w U9) := by
      show Below _ _ _
      rw [hU9]; exact below_set2 CC.out (by omega) _ _
    go_upto_region 7 with fail
    try simp only [List.length_nil]
    rw [← hU9]
    replace hU9 := hide hU9
    clear z0 z1 z2 z3
    obtain ⟨⟨x0, x1, x2, x3, x4⟩, _⟩ := cells5 HQ
    go_wp2_with fail
    refine (num6_any _ _).mono ?_
    rintro e w' ⟨rfl, rfl⟩
    go_wp2_with fail
    refine (num6_any _ _).mono ?_
    rintro e w' ⟨rfl, rfl⟩
    go_wp2_with fail
    refine (KQ.out U9).mono ?_
    rintro e w9 ⟨rfl, b⟩
    go_wp2
    go_ret
    exact ⟨rfl, CC2.out.trans (b.mono CC2.out.size)⟩

set_option maxRecDepth 100000 in
theorem lifted (os : Os) (started : os.Started) (H : Type) (enc : TypeId × Value → H) :
    ReturnsInHanded {} Try.checked os 6 .any (Rows.superRotSpec.pre6 enc Try.prog Try.f6 Rows.superRotRow.domain false) (Rows.superRotSpec.post enc Try.prog Try.f6 false true false false) := by
  refine returnsInHanded_of_change_sized (C := Try.checked) own started (by kernel_rfl) Try.func6
    (ChangeSpec.witness6 (enc := enc) (C := Try.checked) false ⟨#[], #[.agg #[.int .i64 0, .int .i64 0, .int .i64 0, .int .i64 0, .int .i64 0], .agg #[.int .i64 0, .int .i64 0, .int .i64 0, .int .i64 0, .int .i64 0], .bool false, .int .i64 0, .int .u8 0], []⟩ 8 (by kernel_rfl) (by kernel_rfl) (by kernel_rfl) (by kernel_rfl)) ?_
  intro W base args ds gs before hval0 hW hcnd hsz0 _
  have hsz : (DataW.weightsEach Try.prog (Try.f6.params.toList ++ Rows.superRotSpec.plain.varTypes Try.prog) (ds ++ gs)).all (· ≤ reachBytes) = true := hsz0
  have hval : ∀ (j : Nat) t v, Try.f6.params[j]? = some t → args[j]? = some v → Value.okWide Try.prog W .any base t v := hval0
  have hW' := hW
  obtain ⟨p, q, hA0, hV, rfl, hfz, hnd⟩ := hW
  have hA : DataW.TrodAll enc Try.prog W 0 (fun _ => true) true Try.f6.params.toList args.toList ds p := hA0
  rw [Try.params6] at hA hval hsz
  obtain ⟨v0, vs0, d0, ds0, p0, q0, hargs, rfl, rfl, h0, r0⟩ := trodAll_cons hA
  obtain ⟨v1, vs1, d1, ds1, p1, q1, rfl, rfl, rfl, h1, r1⟩ := trodAll_cons r0
  obtain ⟨v2, vs2, d2, ds2, p2, q2, rfl, rfl, rfl, h2, r2⟩ := trodAll_cons r1
  obtain ⟨v3, vs3, d3, ds3, p3, q3, rfl, rfl, rfl, h3, r3⟩ := trodAll_cons r2
  obtain ⟨v4, vs4, d4, ds4, p4, q4, rfl, rfl, rfl, h4, r4⟩ := trodAll_cons r3
  obtain ⟨rfl, rfl, rfl⟩ := trodAll_nil r4
  obtain rfl : args = #[v0, v1, v2, v3, v4] := by cases args; simp_all
  obtain ⟨rfl, rfl⟩ := trodVars_none hV
  obtain ⟨cs0, rfl, _⟩ := okWide_struct Try.underlying23 (hval 0 23 v0 rfl rfl)
  have lt0 : ∀ x ∈ p0, x.block < W.heap.size := by obtain ⟨m, hm⟩ := h0; exact DataW.trod_lt m _ _ _ hm
  have hh0 := h0
  obtain ⟨fu0, hf0⟩ := hh0
  obtain ⟨x0, g0, f0, b0⟩ := open_blk.opened hf0
  obtain ⟨cs1, rfl, _⟩ := okWide_struct Try.underlying23 (hval 1 23 v1 rfl rfl)
  have lt1 : ∀ x ∈ p1, x.block < W.heap.size := by obtain ⟨m, hm⟩ := h1; exact DataW.trod_lt m _ _ _ hm
  have hh1 := h1
  obtain ⟨fu1, hf1⟩ := hh1
  obtain ⟨x1, g1, f1, b1⟩ := open_blk.opened hf1
  obtain ⟨a2, rfl, rfl, rfl⟩ := open_flag Try.underlying4 (hval 2 4 v2 rfl rfl) h2
  obtain ⟨a3, rfl, rfl, rfl, w3⟩ := open_int Try.underlying3 (hval 3 3 v3 rfl rfl) h3
  obtain ⟨a4, rfl, rfl, rfl, w4⟩ := open_int Try.underlying5 (hval 4 5 v4 rfl rfl) h4
  have m0 := f0 (reach_of hsz (j := 0) rfl rfl)
  have m1 := f1 (reach_of hsz (j := 1) rfl rfl)
  clear hA0 hval0 hsz0 hsz
  refine (walk W cs0 x0 g0 m0 cs1 x1 g1 m1 a2 a3 w3 a4 w4).mono fun e W' ⟨he, bel⟩ => ?_
  subst he
  exact ⟨_, rfl, _, _, _, [], _, [], hW', trodAll_mk1 (shut_bool Try.underlying4 _), (trodAll_cons_mk (Below.trod laidOut (by kernel_rfl) (of_decide_eq_true (by kernel_rfl)) h0 bel lt0) (trodAll_cons_mk (Below.trod laidOut (by kernel_rfl) (of_decide_eq_true (by kernel_rfl)) h1 bel lt1) (trodAll_cons_mk (shut_bool Try.underlying4 a2) (trodAll_cons_mk (shut_int Try.underlying3 w3) (trodAll_cons_mk (shut_int Try.underlying5 w4) trodAll_mk0))))), rfl, bel.frame _, fun h => by cases h⟩

theorem over : Rows.superRotRow.holds Try.pinned (OpenSpec.ofChange Rows.superRotSpec) :=
  OpenClaim.holds_of_wide 6 Try.f6 rfl rfl rfl rfl rfl rfl rfl ⟨rfl, rfl, rfl, rfl, rfl⟩ rfl rfl rfl rfl rfl (by kernel_rfl) Try.func6 (by kernel_rfl)
    (of_decide_eq_true (by kernel_rfl)) (by unfold Func.isWrapper; first | (rw [if_pos (by decide +kernel)]; kernel_rfl) | (rw [if_neg (by decide +kernel)]; exact ⟨rfl, rfl⟩))
    (fun os started H enc _ => lifted os started H enc)

end Go.Proofs.Ytpebgepjohlklaa.superRot
namespace Go.Proofs.Ytpebgepjohlklaa
/-- THE STATEMENT -/
theorem superRot_holds : Rows.SuperRotSaid := superRot.over
end Go.Proofs.Ytpebgepjohlklaa
