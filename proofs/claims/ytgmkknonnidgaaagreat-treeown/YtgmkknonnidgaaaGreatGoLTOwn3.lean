/- Several texts in one: TQA TOf NDecT TPB TPC TGoR TPD TPrsR TGetR TPE TTree TPF TQC TQI TQD TQE TQF TQB. -/
import Derived.Deep.QuietTactic
import Derived.BigQuiet
import Derived.Laws.Cover1
import Derived.OwnWalkIn
import Derived.Deep.CutRange
import Derived.Test.YtgmkknonnidgaaaGreatGoLTOwn1
import Derived.Test.YtgmkknonnidgaaaGreatGoLTOwn2
import Derived.Deep.LoopGhost
set_option linter.unusedVariables false
set_option linter.unusedSimpArgs false
namespace Go.Proofs.YtgmkknonnidgaaaGreat
open Go.RowKit
abbrev OwnPg (B : Nat) (w : World) (v : Value) (ws : List Wrt) : Prop := OwnX 56 B w v ws
theorem infoPg : (Tryz.prog.info? 56).map (fun i => (i.zero, i.size, i.bytes)) = some (some (.agg #[.int .i64 0, .slice none 0 0]), 2, 32) := by kernel_rfl
theorem OwnX.shape {T B : Nat} {w : World} {v : Value} {ws : List Wrt} (h : OwnX T B w v ws) : ∃ a c, v = .slice a ws.length c := by
 obtain ⟨svs, h1, h2, h3⟩ := h
 rcases h2.2 with ⟨rfl, e⟩ | ⟨g, cap, cur, rfl, _⟩
 ·exact ⟨none, 0, by rw [e]⟩
 ·exact ⟨_, _, rfl⟩
theorem OwnX.to9 {T B : Nat} {w w' : World} {v : Value} {ws : List Wrt} (h : OwnX T B w v ws) (b : Below w.heap.size w w') : OwnX T B w' v ws := h.keepT (KeepT.below b) (KeepT.below b)
theorem wpList_appPg {ops : Array Oper} {rest : List Oper} {o : Oper} {a : Act} {w : World} {Q : Exit → Act → World → Prop} (hgd : o.guard = none) (s x : Operand)
  (ho : o.op = .call { callee := .builtin .append, args := #[s, x], argTypes := #[25, 25] }) (B : Nat) (v : Value) (ws : List Wrt) (f : Wrt) (sv : Value) (g : Nat) (hs : a.eval s = v) (hx : a.eval x = .slice (some ⟨g, 0, none⟩) 1 1)
  (hown : OwnPg B w v ws) (hsv : OwnB B w sv f.2) (hone : sv.oneCell' = true) (hc1 : w.cell? ⟨g, 0, none⟩ = some (.int .i64 f.1)) (hc2 : w.cell? ⟨g, 1, none⟩ = some sv) (hlen : (ws.length + 1) * 32 ≤ 140737488355328) (hB : B ≤ w.heap.size)
  (h : ∀ v' w', OwnPg B w' v' (ws ++ [f]) → w.grownBy w' v.ownBlock → Below B w w' → (∀ e, e ≠ 56 → KeepT e w w') → wpList Tryz.prog ops Q rest (a.put o.dst v') w') : wpList Tryz.prog ops Q (o :: rest) a w := by
 obtain ⟨i0, hi, hz0, hz1, hz2⟩ := info_parts infoPg
 obtain ⟨svs, h1, h2, h3⟩ := hown
 have n2 : ∀ j u, [Value.int .i64 f.1, sv][j]? = some u → w.cell? ((⟨g, 0, none⟩ : Addr).add j) = some u := by
  intro j u hj
  match j, hj with
  | 0, hj => simp at hj; subst hj; simpa [Addr.add] using hc1
  | 1, hj => simp at hj; subst hj; simpa [Addr.add] using hc2
  | j + 2, hj => simp at hj
 refine wpList_append_own _ hgd s x 25 ho B 56 i0 (.agg #[.int .i64 0, .slice none 0 0]) 2 32 Tryz.underlying25 hi hz0 hz1 hz2 rfl (by decide) v ws.length (wcells ws svs) hs h2 ⟨g, 0, none⟩ 1 1 [.int .i64 f.1, sv] hx rfl n2
  (fun u hu => by simp at hu; rcases hu with rfl | rfl; rfl; exact hone) (by rw [show maxLen = 9223372036854775807 from rfl]; omega) hlen hB ?_
 intro v' w' q1 q2 _
 exact h v' w' (OwnX.snoc (by decide) h1 h2 h3 hsv q2 (by simpa using q1)) q2 ((Below.refl _ _).grown q2 hB (fun k hk => (World.ownsRow.lt h2 k hk).1)) (fun e he => KeepT.grown h2 q2 he)
set_option maxRecDepth 100000 in
theorem bclone10 (w : World) (v : Value) (xs : List UInt8) (h : Rd w v xs) (hm : xs.length ≤ 140737488351232) :
  Calls Tryz.prog 55 #[v] w fun e w' => ∃ v', e = .returned v' ∧ OwnB w.heap.size w' v' xs ∧ Below w.heap.size w w' := by
 have h' := h
 obtain ⟨ao, cap, rfl, h1, h2, h3, h4⟩ := h
 cases ao with
 | none =>
  have : xs = [] := by
   rcases h4 with h4 | ⟨b, off, e, _⟩
   ·exact h4
   ·cases e
  subst this
  obtain rfl : cap = 0 := h3 rfl
  clear h' h1 h2 h3 h4
  have hnil : (binOp .eql 54 (.slice none 0 0) (.slice none 0 0)).run Tryz.prog w = .ok (.bool true) w := Lib.run_eql_slice_nil w 54 5 _ 0 0 0 0 Tryz.underlying54
  go_enter Tryz.func55, Tryz.ntmps55
  go_wp2
  go_ret
  exact ⟨_, rfl, World.ownsRow_nil _ _ _ _, Below.refl _ _⟩
 | some ad =>
  rcases h4 with h4 | ⟨b, off, e, _⟩
  ·subst h4
   obtain ⟨X, hX⟩ : ∃ u, u = w.alloc (.cells #[] 5) := ⟨_, rfl⟩
   have oX : OwnB w.heap.size X (.slice (some ⟨w.heap.size, 0, none⟩) 0 0) [] := by rw [hX]; exact own_lit w [] (by decide)
   have bX : Below w.heap.size w X := by rw [hX]; exact (Below.refl _ _).alloc (Nat.le_refl _) _
   have rX := h'.to bX
   have hl : ([] : List UInt8).length + ([] : List UInt8).length ≤ 140737488355328 := by simp
   have hsz := bX.size
   have hnil : (binOp .eql 54 (.slice (some ad) 0 cap) (.slice none 0 0)).run Tryz.prog w = .ok (.bool false) w := Lib.run_eql_slice_nil w 54 5 _ 0 cap 0 0 Tryz.underlying54
   clear h' h1 h2 h3
   go_enter Tryz.func55, Tryz.ntmps55
   go_wp2_with (at_builtin; rw [← hX]; refine wpList_append_octs rfl _ _ rfl w.heap.size _ _ _ _ rfl rfl oX rX hl hsz ?_; intro v6 w6 o6 b6 _)
   go_ret
   exact ⟨_, rfl, by simpa using o6, bX.trans b6⟩
  ·simp only [Option.some.injEq] at e
   subst e
   exact bclone_at w b off _ cap xs h' hm
theorem heap_set3t {u : World} {g : Nat} {a b c : Value} {t : TypeId} {fr : Nat × Nat} (h : u.heap[g]? = some (.cells #[a, b, c] t fr)) (x y z : Value) : (((u.setCell ⟨g, 0, none⟩ x).setCell ⟨g, 1, none⟩ y).setCell ⟨g, 2, none⟩ z).heap[g]? = some (.cells #[x, y, z] t fr) := by
 have := heap_setN (heap_setN (heap_setN h 0 x) 1 y) 2 z
 simpa using this
theorem below_set3t {B : Nat} {w u : World} (h : Below B w u) {g : Nat} (hg : B ≤ g) (x y z : Value) : Below B w (((u.setCell ⟨g, 0, none⟩ x).setCell ⟨g, 1, none⟩ y).setCell ⟨g, 2, none⟩ z) := ((h.setCell hg _).setCell hg _).setCell hg _
theorem s3_keep9 {g : Nat} {u : World} {a b c : Value} {T : TypeId} (h : u.heap[g]? = some (.cells #[a, b, c] T (0, 0))) (x y z : Value) {e : Nat} (he : e ≠ T) : KeepT e u (((u.setCell ⟨g, 0, none⟩ x).setCell ⟨g, 1, none⟩ y).setCell ⟨g, 2, none⟩ z) :=
 ((KeepT.set (a := ⟨g, 0, none⟩) h he x).trans (KeepT.set (a := ⟨g, 1, none⟩) (heap_setN h 0 x) he y)).trans (KeepT.set (a := ⟨g, 2, none⟩) (heap_setN (heap_setN h 0 x) 1 y) he z)
theorem wpList_make_run9 {P : Program} (w : World) {ops : Array Oper} {rest : List Oper} {o : Oper} {a : Act} {Q : Exit → Act → World → Prop} (hg : o.guard = none) (l c : Operand) (t : TypeId) (hop : o.op = Op.makeSlice t l c)
  (kl kc : IntKind) (C : Int) (n : Nat) (hl : a.eval l = .int kl 0) (hc : a.eval c = .int kc C) (hC : C = (n : Int)) (v : Value) (w' : World) (hr : (Instr.makeSlice t (.int kl 0) (.int kc (n : Int))).run P w = .ok v w') (h : wpList P ops Q rest (a.put o.dst v) w') : wpList P ops Q (o :: rest) a w := by
 refine wpList_plain hg fun K hK' => ?_
 subst hC
 unfold Oper.wp
 simp [execOp, hop, hl, hc, hr, Result.andThen]
 exact hK' _ _ h
theorem info_tr : (Tryz.prog.info? 27).map (·.size) = some 3 := by kernel_rfl
theorem take_snoc9 {l : List Wrt} {k : Nat} {y : Wrt} (h : l[k]? = some y) : l.take (k + 1) = l.take k ++ [y] := by rw [List.take_add_one, h]; rfl
theorem cellAl9 {w : World} {b i : Nat} {v : Value} (h : w.cell? ⟨b, i, none⟩ = some v) (o : Obj) : (w.alloc o).cell? ⟨b, i, none⟩ = some v :=
 (((Below.refl w.heap.size w).alloc (Nat.le_refl _) o).cell (p := ⟨b, i, none⟩) (cell_lt h)).trans h
set_option maxRecDepth 100000 in
set_option maxHeartbeats 4000000 in
theorem pcopied_any (w : World) (t : Tr) (pv : Value) (h : RdC w pv t.pages) (hl : t.pages.length ≤ 65536) (hx : ∀ x ∈ t.pages, x.2.length ≤ 140737488351232) :
  Calls Tryz.prog 39 #[tv t pv] w fun e w' => ∃ pv', e = .returned (tv t pv') ∧ OwnPg w.heap.size w' pv' t.pages ∧ Below w.heap.size w w' := by
 obtain ⟨j0, ji, jz0, jz1, jz2⟩ := info_parts infoPg
 obtain ⟨root, next, ps⟩ := t
 obtain ⟨a, c, rfl⟩ := h.slice
 dsimp only [tv] at *
 obtain ⟨W, hW, DW, bW, sW⟩ := boxedN w #[.int .i64 root, .int .i64 next, .slice a ps.length c] 27
 obtain ⟨X, hX, DX, bX, sX⟩ := boxedN W #[.int .i64 0, .int .i64 0, .slice none 0 0] 27
 obtain ⟨w1, hmk, own1, gr1⟩ := run_make_own (P := Tryz.prog) X X.heap.size 25 56 j0 _ 2 Tryz.underlying25 ji jz0 jz1 .i64 .i64 ps.length (by rw [jz2]; omega) (by unfold maxLen; omega) (Nat.le_refl _)
 have b1 : Below X.heap.size X w1 := (Below.refl _ _).grown gr1 (Nat.le_refl _) (fun k h => by cases h)
 have bWX := bW.trans (bX.mono bW.size)
 have D1 := (b1.block _ (by rw [sX, sW]; omega)).trans ((bX.block _ (lt_of_block DW)).trans DW)
 have X1 := (b1.block _ (lt_of_block DX)).trans DX
 have O1 : OwnPg X.heap.size w1 (.slice (some ⟨X.heap.size, 0, none⟩) 0 ps.length) [] := ⟨[], rfl, own1, fun i hi => by simp at hi⟩
 obtain ⟨⟨E0, E1, E2⟩, EF⟩ := cells3p ((bX.block _ (lt_of_block DW)).trans DW)
 obtain ⟨⟨F0, F1, F2⟩, FF⟩ := cells3p D1
 have HH := hide h
 have HX := hide bWX
 have hBX := hide ((bX.block _ (lt_of_block DW)).trans DW)
 have hRX := hide DX
 have hsl : (Value.slice (some ⟨X.heap.size, 0, none⟩) 0 ps.length) = .slice (some ⟨w.heap.size + 1 + 1, 0, none⟩) 0 ps.length := by rw [sX, sW]
 have HI : Hid (OwnPg X.heap.size w1 (.slice (some ⟨w.heap.size + 1 + 1, 0, none⟩) 0 ps.length) [] ∧ Below X.heap.size X w1) := by rw [← hsl]; exact ⟨O1, b1⟩
 have hsz : Hid (X.heap.size = w.heap.size + 1 + 1) := by show _ = _; rw [sX, sW]
 obtain ⟨L, hL⟩ : ∃ L, L = ps.length := ⟨_, rfl⟩
 rw [sW] at hRX
 rw [hX, hW] at hmk E0 E1 E2 EF
 clear h bW bX DW DX D1 X1 O1 own1 gr1 b1 bWX
 go_enter Tryz.func39, Tryz.ntmps39
 go_wp2_with (at_make; refine wpList_make_run9 _ rfl _ _ 25 rfl _ _ _ ps.length rfl rfl rfl _ _ hmk ?_)
 clear hmk E0 E1 E2 EF F0 F1 F2 FF
 replace hX := hide hX
 replace hW := hide hW
 go_loopw [3, 13] (fun o p wr => ∃ k : Nat, k ≤ ps.length ∧ p = .int .i64 k ∧ Hid (OwnPg X.heap.size wr o (ps.take k) ∧ Below X.heap.size X wr)) (fun _ p _ => ps.length - (intOf p).toNat)
 case atStart => exact ⟨0, Nat.zero_le _, rfl, HI⟩
 case round =>
  obtain ⟨k, hk, rfl, hI⟩ := hrel
  clear HI
  have BW := hide (HX.out.trans (hI.out.2.mono HX.out.size))
  by_cases hlt : k < ps.length
  ·have hq : (k : Int) < (ps.length : Int) := by omega
   obtain ⟨y, hy⟩ : ∃ y, ps[k]? = some y := ⟨_, List.getElem?_eq_getElem hlt⟩
   have hxl := hx y (List.mem_of_getElem? hy)
   have hsn := hide (take_snoc9 hy)
   obtain ⟨b, off, u, e1, hc1, hc2, hr⟩ := HH.out.wrt hy
   subst e1
   obtain ⟨z, x⟩ := y
   dsimp only at hc1 hc2 hr hxl
   obtain ⟨au, cu, rfl⟩ := hr.slice
   replace hc1 := (BW.out.cell (cell_lt hc1)).trans hc1
   replace hc2 := (BW.out.cell (cell_lt hc2)).trans hc2
   obtain ⟨V, hV, DV, bV, sV⟩ := boxedN wr #[.int .i64 z, .slice au x.length cu] 56
   have VD := DV
   obtain ⟨⟨V0, V1⟩, _⟩ := cells2r DV
   have bVd : Below V.heap.size V V.drew := below_drewN' V 1 _
   have bwV := bV.trans (bVd.mono bV.size)
   have V0d := (bVd.cell (cell_lt V0)).trans V0
   have V1d := (bVd.cell (cell_lt V1)).trans V1
   have KC := hide (bclone10 V.drew _ x (hr.to (BW.out.trans (bwV.mono BW.out.size))) hxl)
   have II := hide (And.intro (hI.out.1.to9 bwV) (hI.out.2.trans (bwV.mono hI.out.2.size)))
   obtain ⟨oa, oc, ho⟩ := hI.out.1.shape
   rw [List.length_take, Nat.min_eq_left hk] at ho
   subst ho
   have hn : (k + 1) * 32 ≤ 140737488355328 := by omega
   have hlk : Hid ((ps.take k).length = k) := by show _ = _; rw [List.length_take, Nat.min_eq_left hk]
   obtain ⟨XL, hXL⟩ : ∃ XL, XL = x.length := ⟨_, rfl⟩
   rw [← hXL] at KC hV V1 V1d hc2
   replace hXL := hide hXL
   rw [hV] at V0 V1
   clear hr bwV bVd bV DV VD hI hy
   go_upto_region 5 with fail
   rw [← hV]
   replace hV := hide hV
   clear V0 V1 hc1 hc2
   refine wp_region_mid (fun w' => w'.cell? ⟨wr.heap.size, 0, none⟩ = some (.int .i64 z) ∧ w'.cell? ⟨wr.heap.size, 1, none⟩ = some (.slice au XL cu)) 5 8 mixed (by kernel_rfl) (fun _ _ _ _ h => h) ⟨V0d, V1d⟩ ?_
   dsimp only [List.take, List.drop]
   iterate 5
    refine take_one (v := ?_) (by rfl) ?_ ?_
    rotate_left
    ·rintro w' ⟨s1, s2⟩
     go_simp
     try with_reducible rfl
    try simp only [Act.put, List.setIfInBounds_toArray, List.set_cons_zero, List.set_cons_succ]
   refine mid_one fun K hK => ?_
   refine step_call (by rfl) 55 _ _ (by rfl) #[.slice au XL cu] (by simp [Act.eval]) (Tryz.call55 _ _) KC.out ?_
   rintro e w2 ⟨v2, rfl, o2, b2⟩
   obtain ⟨va, vc, hv2⟩ := o2.rd.slice
   rw [← hXL.out] at hv2
   subst hv2
   have U0 := (b2.cell (cell_lt V0d)).trans V0d
   have U1 := (b2.cell (cell_lt V1d)).trans V1d
   refine ⟨_, rfl, hK _ _ ⟨U0, U1⟩ ?_⟩
   clear hK K
   have I2 := hide (And.intro (II.out.1.to9 b2) (II.out.2.trans (b2.mono II.out.2.size)))
   have O2 : Hid (OwnB X.heap.size w2 (.slice va XL vc) x) := rows_mono o2 II.out.2.size
   clear b2 o2 KC V0d V1d II
   try simp only [Act.put, List.setIfInBounds_toArray, List.set_cons_zero, List.set_cons_succ]
   refine mid_one fun K hK => ?_
   rw [if_pos (by rfl)]
   go_simp
   refine hK _ _ ⟨U0, U1⟩ ?_
   clear hK K
   refine mid_one fun K hK => ?_
   rw [if_pos (by rfl)]
   go_simp
   refine hK _ _ ⟨cellAl9 U0 _, cellAl9 U1 _⟩ ?_
   clear hK K
   show wpList _ _ _ _ _ _
   obtain ⟨Z, hZ, DZ, bZ, sZ⟩ := boxedN w2 #[.int .i64 z, .slice va XL vc] 56
   obtain ⟨⟨Z0, Z1⟩, _⟩ := cells2r DZ
   have OZ : OwnPg X.heap.size Z (.slice oa k oc) (ps.take k) := I2.out.1.to9 bZ
   have SZ : OwnB X.heap.size Z (.slice va XL vc) x := rows_to O2.out bZ
   have BZ := hide (I2.out.2.trans (bZ.mono I2.out.2.size))
   have hB : X.heap.size ≤ Z.heap.size := BZ.out.size
   rw [hZ] at Z0 Z1 OZ SZ hB
   refine wpList_appPg rfl _ _ rfl X.heap.size (.slice oa k oc) (ps.take k) (z, x) (.slice va XL vc) w2.heap.size rfl rfl OZ SZ rfl Z0 Z1 (by rw [hlk.out]; exact hn) hB ?_
   intro v5 w5 o5 g5 b5 _
   rw [← hZ] at b5
   rw [← hsn.out] at o5
   have I5 := hide (And.intro o5 (BZ.out.trans b5))
   clear o5 g5 b5 Z0 Z1 OZ SZ hB DZ bZ hZ I2 O2 U0 U1
   go_wp2
   go_roundw
   case rel => exact ⟨k + 1, by omega, by go_num, I5⟩
   case measure => simp [intOf]; omega
  ·have hq : ¬ (k : Int) < (ps.length : Int) := by omega
   have htk : ps.take k = ps := List.take_of_length_le (by omega)
   rw [htk] at hI
   have D6 := (hI.out.2.block _ (lt_of_block hBX.out)).trans hBX.out
   have R6 := (hI.out.2.block _ (lt_of_block hRX.out)).trans hRX.out
   obtain ⟨⟨E0, E1, E2⟩, EF⟩ := cells3p D6
   obtain ⟨⟨F0, F1, F2⟩, FF⟩ := cells3p R6
   obtain ⟨oa, oc, ho⟩ := hI.out.1.shape
   subst ho
   have d0 := heap_setN D6 2 (.slice oa ps.length oc)
   have D7 : (wr.setCell ⟨w.heap.size, 2, none⟩ (.slice oa ps.length oc)).heap[w.heap.size]? = some (.cells #[.int .i64 root, .int .i64 next, .slice oa ps.length oc] 27 (0, 0)) := by simpa using d0
   have R7 : (wr.setCell ⟨w.heap.size, 2, none⟩ (.slice oa ps.length oc)).heap[w.heap.size + 1]? = _ := (Below.heap_setCell _ _ _ _ (show w.heap.size + 1 ≠ w.heap.size by omega)).trans R6
   obtain ⟨⟨G0, G1, G2⟩, GF⟩ := cells3p D7
   obtain ⟨⟨J0, J1, J2⟩, JF⟩ := cells3p R7
   have HR7 := hide R7
   have k1 : ∀ e, e ≠ 27 → KeepT e wr (((((wr.setCell ⟨w.heap.size, 2, none⟩ (.slice oa ps.length oc)).setCell ⟨w.heap.size + 1, 0, none⟩ (.int .i64 root)).setCell ⟨w.heap.size + 1, 1, none⟩ (.int .i64 next)).setCell ⟨w.heap.size + 1, 2, none⟩ (.slice oa ps.length oc))) := fun e he =>
    (KeepT.set (a := ⟨w.heap.size, 2, none⟩) D6 he _).trans (s3_keep9 R7 _ _ _ he)
   have OO := hide (hI.out.1.keepT (k1 _ (by decide)) (k1 _ (by decide)))
   have bb0 : Below w.heap.size w (wr.setCell ⟨w.heap.size, 2, none⟩ (.slice oa ps.length oc)) := BW.out.setCell (Nat.le_refl _) _
   have BB := hide (below_set3t bb0 (show w.heap.size ≤ w.heap.size + 1 by omega) (.int .i64 root) (.int .i64 next) (.slice oa ps.length oc))
   have hXw : Hid (w.heap.size ≤ X.heap.size) := HX.out.size
   clear D6 R6 D7 R7 d0 k1 hI bb0
   go_wp2
   refine retN rfl rfl (w.heap.size + 1) rfl _ _ (0, 0) (heap_set3t HR7.out _ _ _) _ Tryz.underlying27 rfl info_tr ?_
   refine ⟨_, rfl, ?_, BB.out⟩
   exact OwnX.base OO.out hXw.out
set_option maxRecDepth 100000 in
theorem pnew10_any (w : World) : Calls Tryz.prog 19 #[] w fun e w' => e = .returned (tv ⟨0, 1, []⟩ (.slice none 0 0)) ∧ Below w.heap.size w w' := by
 go_enter Tryz.func19, Tryz.ntmps19
 go_wp2
 refine retN rfl rfl w.heap.size rfl _ _ _ (heap_alloc_last w _) _ Tryz.underlying27 rfl info_tr ?_
 exact ⟨rfl, (Below.refl _ _).alloc (Nat.le_refl _) _⟩
end Go.Proofs.YtgmkknonnidgaaaGreat

namespace Go.Proofs.YtgmkknonnidgaaaGreat
open Go.RowKit
set_option maxRecDepth 100000 in
set_option maxHeartbeats 4000000 in
theorem pof10_any (w : World) (t : Tr) (pv : Value) (h : RdC w pv t.pages) (hl : (t.pages.length + 1) * 32 ≤ 140737488355328) (hx : ∀ x ∈ t.pages, x.2.length ≤ 140737488351232) :
  Calls Tryz.prog 15 #[tv t pv] w fun e w' => ∃ pv', e = .returned (tv t pv') ∧ OwnPg w.heap.size w' pv' t.pages ∧ Below w.heap.size w w' := by
 obtain ⟨root, next, ps⟩ := t
 obtain ⟨a, c, rfl⟩ := h.slice
 dsimp only [tv] at *
 obtain ⟨W, hW, DW, bW, sW⟩ := boxedN w #[.int .i64 root, .int .i64 next, .slice a ps.length c] 40
 obtain ⟨X, hX, DX, bX, sX⟩ := boxedN W #[.int .i64 0, .int .i64 0, .slice none 0 0] 27
 obtain ⟨Y, hY, DY, bY, sY⟩ := boxedN X #[.int .i64 root, .int .i64 next, .slice none 0 0] 27
 have bWX := bW.trans (bX.mono bW.size)
 have bWY := bWX.trans (bY.mono bWX.size)
 have O1 : OwnPg Y.heap.size Y (.slice none 0 0) [] := ⟨[], rfl, World.ownsRow_nil _ _ _ _, fun i hi => by simp at hi⟩
 have D0 := (bX.block _ (lt_of_block DW)).trans DW
 obtain ⟨⟨E0, E1, E2⟩, EF⟩ := cells3p D0
 have D1 := (bY.block _ (lt_of_block D0)).trans D0
 have X1 := (bY.block _ (lt_of_block DX)).trans DX
 have HH := hide h
 have HY := hide bWY
 have hBX := hide D1
 have hRX := hide X1
 have hOX := hide DY
 rw [sW] at hRX
 rw [sX, sW] at hOX
 have hsz : Hid (Y.heap.size = w.heap.size + 1 + 1 + 1) := by show _ = _; rw [sY, sX, sW]
 have HI : Hid (OwnPg Y.heap.size Y (.slice none 0 0) (ps.take 0) ∧ Y.heap[w.heap.size + 1 + 1]? = some (.cells #[.int .i64 root, .int .i64 next, .slice none 0 0] 27 (0, 0)) ∧ Y.heap[w.heap.size]? = some (.cells #[.int .i64 root, .int .i64 next, .slice a ps.length c] 40 (0, 0)) ∧ Y.heap[w.heap.size + 1]? = some (.cells #[.int .i64 0, .int .i64 0, .slice none 0 0] 27 (0, 0)) ∧ Below w.heap.size w Y) := ⟨O1, hOX.out, hBX.out, hRX.out, bWY⟩
 rw [hX, hW] at E0 E1 E2 EF
 clear h bW bX DW DX D1 X1 O1 bWX bWY DY D0 bY
 go_enter Tryz.func15, Tryz.ntmps15
 go_wp2
 rw [← hW, ← hX, ← hY]
 replace hX := hide hX
 replace hW := hide hW
 replace hY := hide hY
 clear E0 E1 E2 EF hBX hRX hOX
 go_loopw [4] (fun p wr => ∃ k : Nat, k ≤ ps.length ∧ p = .int .i64 k ∧ ∃ v, Hid (OwnPg Y.heap.size wr v (ps.take k) ∧ wr.heap[w.heap.size + 1 + 1]? = some (.cells #[.int .i64 root, .int .i64 next, v] 27 (0, 0)) ∧ wr.heap[w.heap.size]? = some (.cells #[.int .i64 root, .int .i64 next, .slice a ps.length c] 40 (0, 0)) ∧ wr.heap[w.heap.size + 1]? = some (.cells #[.int .i64 0, .int .i64 0, .slice none 0 0] 27 (0, 0)) ∧ Below w.heap.size w wr)) (fun p _ => ps.length - (intOf p).toNat)
 case atStart => exact ⟨0, Nat.zero_le _, rfl, _, HI⟩
 case round =>
  obtain ⟨k, hk, rfl, v, hI⟩ := hrel
  clear HI
  obtain ⟨oa, oc, ho⟩ := hI.out.1.shape
  rw [List.length_take, Nat.min_eq_left hk] at ho
  subst ho
  obtain ⟨⟨A0, A1, A2⟩, AF⟩ := cells3p hI.out.2.2.1
  obtain ⟨⟨T0, T1, T2⟩, TF⟩ := cells3p hI.out.2.1
  by_cases hlt : k < ps.length
  ·have hq : (k : Int) < (ps.length : Int) := by omega
   obtain ⟨y, hy⟩ : ∃ y, ps[k]? = some y := ⟨_, List.getElem?_eq_getElem hlt⟩
   have hxl := hx y (List.mem_of_getElem? hy)
   have hsn := hide (take_snoc9 hy)
   obtain ⟨b, off, u, e1, hc1, hc2, hr⟩ := HH.out.wrt hy
   subst e1
   obtain ⟨z, x⟩ := y
   dsimp only at hc1 hc2 hr hxl
   obtain ⟨au, cu, rfl⟩ := hr.slice
   replace hc1 := (hI.out.2.2.2.2.cell (cell_lt hc1)).trans hc1
   replace hc2 := (hI.out.2.2.2.2.cell (cell_lt hc2)).trans hc2
   have bd : Below wr.heap.size wr wr.drew := below_drewN' wr 1 _
   have KC := hide (copy_any wr.drew _ x ((hr.to hI.out.2.2.2.2).to bd) (by omega))
   have hn : (k + 1) * 32 ≤ 140737488355328 := by omega
   have hlk : Hid ((ps.take k).length = k) := by show _ = _; rw [List.length_take, Nat.min_eq_left hk]
   obtain ⟨XL, hXL⟩ : ∃ XL, XL = x.length := ⟨_, rfl⟩
   rw [← hXL] at KC hc2
   replace hXL := hide hXL
   have d1 := (bd.cell (cell_lt hc1)).trans hc1
   have d2 := (bd.cell (cell_lt hc2)).trans hc2
   have d3 := (bd.cell (cell_lt A2)).trans A2
   have d4 := (bd.cell (cell_lt T2)).trans T2
   clear hr hy A0 A1 T0 T1
   go_upto_region 5 with fail
   clear A2 AF T2 TF hc1 hc2
   refine wp_region_mid (fun w' => w'.cell? ⟨b, off + k * 2, none⟩ = some (.int .i64 z) ∧ w'.cell? ⟨b, off + k * 2 + 1, none⟩ = some (.slice au XL cu) ∧ w'.cell? ⟨w.heap.size, 2, none⟩ = some (.slice (some ⟨b, off, none⟩) ps.length c) ∧ w'.cell? ⟨w.heap.size + 1 + 1, 2, none⟩ = some (.slice oa k oc)) 14 17 mixed (by kernel_rfl) (fun _ _ _ _ h => h) ⟨d1, d2, d3, d4⟩ ?_
   dsimp only [List.take, List.drop]
   iterate 14
    refine take_one (v := ?_) (by rfl) ?_ ?_
    rotate_left
    ·rintro w' ⟨s1, s2, s3, s4⟩
     go_simp
     try with_reducible rfl
    try simp only [Act.put, List.setIfInBounds_toArray, List.set_cons_zero, List.set_cons_succ]
   refine mid_one fun K hK => ?_
   refine step_call (by rfl) 30 _ _ (by rfl) #[.slice au XL cu] (by simp [Act.eval]) (Tryz.call30 _ _) KC.out ?_
   rintro e w2 ⟨v2, rfl, o2, b2⟩
   obtain ⟨va, vc, hv2⟩ := o2.rd.slice
   rw [← hXL.out] at hv2
   subst hv2
   have x1 := (b2.cell (cell_lt d1)).trans d1
   have x2 := (b2.cell (cell_lt d2)).trans d2
   have x3 := (b2.cell (cell_lt d3)).trans d3
   have x4 := (b2.cell (cell_lt d4)).trans d4
   refine ⟨_, rfl, hK _ _ ⟨x1, x2, x3, x4⟩ ?_⟩
   clear hK K
   have bw2 := bd.trans (b2.mono bd.size)
   have I2 := hide (And.intro (hI.out.1.to9 bw2) (And.intro ((bw2.block _ (lt_of_block hI.out.2.1)).trans hI.out.2.1) (And.intro ((bw2.block _ (lt_of_block hI.out.2.2.1)).trans hI.out.2.2.1) (And.intro ((bw2.block _ (lt_of_block hI.out.2.2.2.1)).trans hI.out.2.2.2.1) (hI.out.2.2.2.2.trans (bw2.mono hI.out.2.2.2.2.size))))))
   have O2 : Hid (OwnB Y.heap.size w2 (.slice va XL vc) x) := rows_mono o2 (by rw [hsz.out]; have := lt_of_block hI.out.2.1; have := bd.size; omega)
   have HS : Hid (Y.heap.size ≤ w2.heap.size) := by
    show _ ≤ _
    rw [hsz.out]
    have := lt_of_block hI.out.2.1
    have := bw2.size
    omega
   clear b2 o2 KC d1 d2 d3 d4 hI bw2 bd
   try simp only [Act.put, List.setIfInBounds_toArray, List.set_cons_zero, List.set_cons_succ]
   refine mid_one fun K hK => ?_
   rw [if_pos (by rfl)]
   go_simp
   refine hK _ _ ⟨x1, x2, x3, x4⟩ ?_
   clear hK K
   refine mid_one fun K hK => ?_
   rw [if_pos (by rfl)]
   go_simp
   refine hK _ _ ⟨cellAl9 x1 _, cellAl9 x2 _, cellAl9 x3 _, cellAl9 x4 _⟩ ?_
   clear hK K x1 x2 x3 x4
   show wpList _ _ _ _ _ _
   obtain ⟨Z, hZ, DZ, bZ, sZ⟩ := boxedN w2 #[.int .i64 z, .slice va XL vc] 56
   obtain ⟨⟨Z0, Z1⟩, _⟩ := cells2r DZ
   have OZ : OwnPg Y.heap.size Z (.slice oa k oc) (ps.take k) := I2.out.1.to9 bZ
   have SZ : OwnB Y.heap.size Z (.slice va XL vc) x := rows_to O2.out bZ
   have hB : Y.heap.size ≤ Z.heap.size := by have := HS.out; have := bZ.size; omega
   rw [hZ] at Z0 Z1 OZ SZ hB
   refine wpList_appPg rfl _ _ rfl Y.heap.size (.slice oa k oc) (ps.take k) (z, x) (.slice va XL vc) w2.heap.size rfl rfl OZ SZ rfl Z0 Z1 (by rw [hlk.out]; exact hn) hB ?_
   intro v5 w5 o5 g5 b5 _
   rw [← hZ] at b5
   rw [← hsn.out] at o5
   obtain ⟨na, nc, hv5⟩ := o5.shape
   generalize (ps.take (k + 1)).length = nl at hv5
   subst hv5
   have bZ2 := hide bZ
   have blk : ∀ j, j < Y.heap.size → ∀ o, w2.heap[j]? = some o → w5.heap[j]? = some o := fun j hj o ho => (b5.block j hj).trans ((bZ2.out.block j (lt_of_block ho)).trans ho)
   have T5 := blk _ (by rw [hsz.out]; omega) _ I2.out.2.1
   have A5 := blk _ (by rw [hsz.out]; omega) _ I2.out.2.2.1
   have R5 := blk _ (by rw [hsz.out]; omega) _ I2.out.2.2.2.1
   have bb5 : Below w.heap.size w w5 := (I2.out.2.2.2.2.trans (bZ2.out.mono I2.out.2.2.2.2.size)).trans (b5.mono (by rw [hsz.out]; omega))
   obtain ⟨⟨T0, T1, T2⟩, TF⟩ := cells3p T5
   have d0 := heap_setN T5 2 (.slice na nl nc)
   have D7 : (w5.setCell ⟨w.heap.size + 1 + 1, 2, none⟩ (.slice na nl nc)).heap[w.heap.size + 1 + 1]? = some (.cells #[.int .i64 root, .int .i64 next, (.slice na nl nc)] 27 (0, 0)) := by simpa using d0
   have A7 : (w5.setCell ⟨w.heap.size + 1 + 1, 2, none⟩ (.slice na nl nc)).heap[w.heap.size]? = _ := (Below.heap_setCell _ _ _ _ (show w.heap.size ≠ w.heap.size + 1 + 1 by omega)).trans A5
   have R7 : (w5.setCell ⟨w.heap.size + 1 + 1, 2, none⟩ (.slice na nl nc)).heap[w.heap.size + 1]? = _ := (Below.heap_setCell _ _ _ _ (show w.heap.size + 1 ≠ w.heap.size + 1 + 1 by omega)).trans R5
   have kk : ∀ e, e ≠ 27 → KeepT e w5 (w5.setCell ⟨w.heap.size + 1 + 1, 2, none⟩ (.slice na nl nc)) := fun e he => KeepT.set (a := ⟨w.heap.size + 1 + 1, 2, none⟩) T5 he _
   have I5 := hide (And.intro (o5.keepT (kk _ (by decide)) (kk _ (by decide))) (And.intro D7 (And.intro A7 (And.intro R7 (bb5.setCell (p := ⟨w.heap.size + 1 + 1, 2, none⟩) (show w.heap.size ≤ w.heap.size + 1 + 1 by omega) (.slice na nl nc))))))
   clear o5 g5 b5 Z0 Z1 OZ SZ hB DZ bZ hZ I2 O2 blk A5 R5 bb5 d0 D7 A7 R7 kk bZ2 T5 HS
   go_wp2
   go_roundw
   case rel => exact ⟨k + 1, by omega, by go_num, _, I5⟩
   case measure => simp [intOf]; omega
  ·have hq : ¬ (k : Int) < (ps.length : Int) := by omega
   obtain rfl : k = ps.length := by omega
   have htk : ps.take ps.length = ps := List.take_of_length_le (by omega)
   rw [htk] at hI
   have R6 := hI.out.2.2.2.1
   obtain ⟨⟨F0, F1, F2⟩, FF⟩ := cells3p R6
   have HR := hide R6
   have OO := hide (hI.out.1.keepT (s3_keep9 R6 (.int .i64 root) (.int .i64 next) (.slice oa ps.length oc) (by decide)) (s3_keep9 R6 (.int .i64 root) (.int .i64 next) (.slice oa ps.length oc) (by decide)))
   have BB := hide (below_set3t hI.out.2.2.2.2 (show w.heap.size ≤ w.heap.size + 1 by omega) (.int .i64 root) (.int .i64 next) (.slice oa ps.length oc))
   have hYw : Hid (w.heap.size ≤ Y.heap.size) := HY.out.size
   clear hI R6
   go_wp2
   refine retN rfl rfl (w.heap.size + 1) rfl _ _ (0, 0) (heap_set3t HR.out _ _ _) _ Tryz.underlying27 rfl info_tr ?_
   refine ⟨_, rfl, ?_, BB.out⟩
   exact OwnX.base OO.out hYw.out
end Go.Proofs.YtgmkknonnidgaaaGreat

namespace Go.Proofs.YtgmkknonnidgaaaGreat
open Go.RowKit
theorem rstS_ok {s : Nat} {r : Rr} (h : (rstS s r).short = false) : r.short = false ∧ rstS s r = rst s r ∧ rtkS s r = rtk s r := by
 unfold rstS at h
 by_cases hs : r.short = true
 ·rw [if_pos hs, hs] at h; cases h
 ·have hs' : r.short = false := by simpa using hs
  unfold rstS rtkS
  rw [if_neg hs, if_neg hs]
  exact ⟨hs', rfl, rfl⟩
theorem rstS_eq {s : Nat} {r : Rr} (h : r.short = false) : rstS s r = rst s r ∧ rtkS s r = rtk s r ∧ rnumS s r = rnum s r := by
 have : ¬ r.short = true := by rw [h]; decide
 unfold rstS rnumS rnum rtkS
 rw [if_neg this, if_neg this]
 exact ⟨rfl, rfl, rfl⟩
theorem frz9 {w : World} {g : Nat} {cs : Array Value} {t : TypeId} (h : w.heap[g]? = some (.cells cs t (0, 0))) (i : Nat) : w.frozen? ⟨g, i, none⟩ = false := by simp [World.frozen?, h]
def txS (r : Rr) : Str := rtkS (rnumS 1 r) (rstS 1 r)
def tsS (r : Rr) : Rr := rstS (rnumS 1 r) (rstS 1 r)
theorem tsS_ok {r : Rr} (h : (tsS r).short = false) : r.short = false ∧ tsS r = rts r ∧ txS r = rtx r := by
 unfold tsS at h
 obtain ⟨h1, h2, h3⟩ := rstS_ok h
 obtain ⟨h4, h5, h6⟩ := rstS_ok h1
 have h7 := (rstS_eq (s := 1) h4).2.2
 refine ⟨h4, ?_, ?_⟩
 ·unfold tsS rts; rw [h2, h7, h5]
 ·unfold txS rtx; rw [h3, h7, h5]
theorem tsS_bad {r : Rr} (h : r.short = false) (hb : (tsS r).short = true) : (rts r).short = true := by
 obtain ⟨e1, _, e3⟩ := rstS_eq (s := 1) h
 unfold tsS at hb
 rw [e1, e3] at hb
 unfold rts
 cases hq : (rst 1 r).short with
 | true => exact rst_short hq
 | false => rw [(rstS_eq hq).1] at hb; exact hb
def rk2 : Nat → Rr → Nd → Nd × Rr
 | 0, r, n => (n, r)
 | k + 1, r, n => rk2 k (rst 4 (rts r)) ⟨n.leaf, n.keys ++ [rtx r], n.vals, n.kids ++ [((rnum 4 (rts r) : Nat) : Int)]⟩
theorem rkids_rk2 : ∀ (k : Nat) (r : Rr) (n : Nd), rkids k r n = rk2 k (rst 4 r) ⟨n.leaf, n.keys, n.vals, n.kids ++ [((rnum 4 r : Nat) : Int)]⟩
 | 0, r, n => rfl
 | k + 1, r, n => by
  rw [rkids, rkids_rk2 k]
  rfl
theorem rk2_short : ∀ (k : Nat) (r : Rr) (n : Nd), r.short = true → (rk2 k r n).2.short = true
 | 0, r, n, h => h
 | k + 1, r, n, h => rk2_short k _ _ (rst_short (rts_short h))
theorem rfin_bad {p : Nd × Rr} (h : p.2.short = true) : (rfin p).2 ≠ 0 := by unfold rfin; rw [if_pos h]; decide
def GP (xs : List UInt8) (j : Nat) (r : Rr) (n : Nd) : Prop := (r.short = false ∧ nread xs = rfin (rpairs j r n)) ∨ (r.short = true ∧ (nread xs).2 ≠ 0)
def GK (xs : List UInt8) (j : Nat) (r : Rr) (n : Nd) : Prop := (r.short = false ∧ nread xs = rfin (rk2 j r n)) ∨ (r.short = true ∧ (nread xs).2 ≠ 0)
theorem GP.next {xs : List UInt8} {j : Nat} {r : Rr} {n : Nd} (h : GP xs (j + 1) r n) (hs : r.short = false) : GP xs j (tsS (tsS r)) ⟨n.leaf, n.keys ++ [txS r], n.vals ++ [txS (tsS r)], n.kids⟩ := by
 rcases h with ⟨_, h⟩ | ⟨h, _⟩
 ·rw [rpairs] at h
  cases hq : (tsS (tsS r)).short with
  | false =>
   obtain ⟨a1, a2, a3⟩ := tsS_ok hq
   obtain ⟨b1, b2, b3⟩ := tsS_ok a1
   left
   refine ⟨hq, ?_⟩
   rw [a2, a3, b2, b3]
   exact h
  | true =>
   right
   refine ⟨hq, ?_⟩
   rw [h]
   apply rfin_bad
   apply rpairs_short
   cases hr : (tsS r).short with
   | true => exact rts_short (tsS_bad hs hr)
   | false =>
    have := tsS_bad hr hq
    rw [(tsS_ok hr).2.1] at this
    exact this
 ·rw [hs] at h; cases h
theorem GK.next {xs : List UInt8} {j : Nat} {r : Rr} {n : Nd} (h : GK xs (j + 1) r n) (hs : r.short = false) : GK xs j (rstS 4 (tsS r)) ⟨n.leaf, n.keys ++ [txS r], n.vals, n.kids ++ [((rnumS 4 (tsS r) : Nat) : Int)]⟩ := by
 rcases h with ⟨_, h⟩ | ⟨h, _⟩
 ·rw [rk2] at h
  cases hq : (rstS 4 (tsS r)).short with
  | false =>
   obtain ⟨a1, a2, _⟩ := rstS_ok hq
   have a3 := (rstS_eq (s := 4) a1).2.2
   obtain ⟨b1, b2, b3⟩ := tsS_ok a1
   left
   refine ⟨hq, ?_⟩
   rw [a2, a3, b2, b3]
   exact h
  | true =>
   right
   refine ⟨hq, ?_⟩
   rw [h]
   apply rfin_bad
   apply rk2_short
   cases hr : (tsS r).short with
   | true => exact rst_short (tsS_bad hs hr)
   | false =>
    rw [(rstS_eq hr).1, (tsS_ok hr).2.1] at hq
    exact hq
 ·rw [hs] at h; cases h
theorem GP.start {xs : List UInt8} (hm : rnum 1 ⟨xs, false⟩ = 1) : GP xs (rnumS 1 (rstS 1 ⟨xs, false⟩)) (rstS 1 (rstS 1 ⟨xs, false⟩)) ⟨true, [], [], []⟩ := by
 have e1 := rstS_eq (s := 1) (r := ⟨xs, false⟩) rfl
 rw [e1.1]
 cases hq : (rstS 1 (rst 1 ⟨xs, false⟩)).short with
 | false =>
  obtain ⟨a1, a2, _⟩ := rstS_ok hq
  have a3 := (rstS_eq (s := 1) a1).2.2
  left
  refine ⟨hq, ?_⟩
  rw [a2] at hq ⊢
  rw [a3]
  exact nread_leaf hq hm
 | true =>
  right
  refine ⟨hq, ?_⟩
  have : (rst 1 (rst 1 ⟨xs, false⟩)).short = true := by
   cases hr : (rst 1 ⟨xs, false⟩).short with
   | true => exact rst_short hr
   | false => rw [(rstS_eq hr).1] at hq; exact hq
  rw [nread_short this]
  decide
theorem GK.start {xs : List UInt8} (hm : rnum 1 ⟨xs, false⟩ = 0) : GK xs (rnumS 1 (rstS 1 ⟨xs, false⟩)) (rstS 4 (rstS 1 (rstS 1 ⟨xs, false⟩))) ⟨false, [], [], [((rnumS 4 (rstS 1 (rstS 1 ⟨xs, false⟩)) : Nat) : Int)]⟩ := by
 have e1 := rstS_eq (s := 1) (r := ⟨xs, false⟩) rfl
 rw [e1.1]
 cases hp : (rstS 1 (rst 1 ⟨xs, false⟩)).short with
 | false =>
  obtain ⟨a1, a2, _⟩ := rstS_ok hp
  have a3 := (rstS_eq (s := 1) a1).2.2
  obtain ⟨c1, _, c3⟩ := rstS_eq (s := 4) hp
  rw [c1, c3, a2, a3]
  rw [a2] at hp
  have hn := nread_inner hp hm
  rw [rkids_rk2] at hn
  cases hq : (rst 4 (rst 1 (rst 1 ⟨xs, false⟩))).short with
  | false => exact .inl ⟨hq, hn⟩
  | true => exact .inr ⟨hq, by rw [hn]; exact rfin_bad (rk2_short _ _ _ hq)⟩
 | true =>
  right
  refine ⟨rstS_short hp, ?_⟩
  have : (rst 1 (rst 1 ⟨xs, false⟩)).short = true := by
   cases hr : (rst 1 ⟨xs, false⟩).short with
   | true => exact rst_short hr
   | false => rw [(rstS_eq hr).1] at hp; exact hp
  rw [nread_short this]
  decide
theorem kind_bad {xs : List UInt8} (h : 1 < rnum 1 ⟨xs, false⟩) : (ndec xs).2 ≠ 0 := by
 have : (nread xs).2 ≠ 0 := by
  cases hs : (rst 1 (rst 1 ⟨xs, false⟩)).short with
  | true => rw [nread_short hs]; decide
  | false => rw [nread_kind hs (by omega) (by omega)]; decide
 unfold ndec
 rw [if_neg this]
 exact this
theorem ndec_no {xs : List UInt8} (h : (nread xs).2 ≠ 0) : (ndec xs).2 ≠ 0 := by unfold ndec; rw [if_neg h]; exact h
def DecR (xs : List UInt8) (n : Nd) (err : Int) : Prop := (err = 0 ∧ ndec xs = (n, 0)) ∨ (err ≠ 0 ∧ n = none9 ∧ (ndec xs).2 ≠ 0)
theorem DecR.fin {xs : List UInt8} {n : Nd} {r : Rr} (h : nread xs = rfin (n, r)) (hs : r.short = false) (hr : r.rest.length = 0) : DecR xs (if ncheck n = 0 then n else none9) (ncheck n) := by
 have e : nread xs = (n, 0) := by rw [h]; unfold rfin; dsimp only; rw [hs, if_neg (by decide), if_neg (by omega)]
 unfold DecR ndec
 rw [e]
 by_cases hz : ncheck n = 0
 ·rw [if_pos hz, hz]; left; exact ⟨rfl, by simp [hz]⟩
 ·right; exact ⟨hz, if_neg hz, by simp [hz]⟩
set_option maxRecDepth 100000 in
set_option maxHeartbeats 8000000 in
theorem rdec9_any (w : World) (v : Value) (xs : List UInt8) (h : Rd w v xs) :
  Calls Tryz.prog 78 #[v] w fun e w' => ∃ n err kv vv dv, e = .returned (.tuple #[nv n kv vv dv, .int .i64 err]) ∧ DecR xs n err ∧ OwnN w.heap.size w' kv vv dv n ∧ Below w.heap.size w w' := by
 obtain ⟨a, c, rfl⟩ := h.slice
 obtain ⟨i0, ii, iz0, iz1, iz2⟩ := info_parts infoT
 obtain ⟨j0, ji, jz0, jz1, jz2⟩ := info_parts infoJ
 have lxs : xs.length ≤ 9223372036854775807 := by obtain ⟨_, _, e, _, m1, _⟩ := h; simp only [Value.slice.injEq] at e; unfold maxLen at m1; omega
 have HH := hide h
 obtain ⟨X, hX⟩ : ∃ X, X = ((w.alloc (.cells #[.bool false, nil9, nil9, nil9] 143)).alloc (.cells #[.slice a xs.length c, .int .i64 0, .bool false] 164)) := ⟨_, rfl⟩
 have bX : Below w.heap.size w X := by rw [hX]; exact ((Below.refl _ _).alloc (Nat.le_refl _) _).alloc (by simp) _
 have sX : X.heap.size = w.heap.size + 1 + 1 := by rw [hX]; simp
 have gX : X.heap[w.heap.size + 1]? = some (.cells #[.slice a xs.length c, .int .i64 0, .bool false] 164 (0, 0)) := by
  rw [hX]
  have := heap_alloc_last (w.alloc (.cells #[.bool false, nil9, nil9, nil9] 143)) (.cells #[.slice a xs.length c, .int .i64 0, .bool false] 164)
  simpa using this
 have rX : X.heap[w.heap.size]? = some (.cells #[.bool false, nil9, nil9, nil9] 143 (0, 0)) := by
  rw [hX, Below.heap_alloc _ _ _ (by simp)]; exact heap_alloc_last w _
 obtain ⟨r0, hr0⟩ : ∃ r : Rr, r = ⟨xs, false⟩ := ⟨_, rfl⟩
 have x0 : RdrP w (w.heap.size + 1) X xs r0 := by subst hr0; exact ⟨a, c, xs.length, 0, gX, h, rfl, Nat.zero_le _, by simp, bX, by omega⟩
 have K1 := hide (rnum9_any w (w.heap.size + 1) X xs r0 1 x0 (by decide))
 rw [(rstS_eq (s := 1) (r := r0) (by rw [hr0])).2.2] at K1
 have RX := hide (And.intro rX sX)
 have HR := hide hr0
 clear bX gX rX x0 hr0 h sX
 go_enter Tryz.func78, Tryz.ntmps78
 go_wp2_with fail
 rw [← hX]
 replace hX := hide hX
 refine K1.out.mono ?_
 rintro e w1 ⟨rfl, r1, k1⟩
 clear K1
 have RY : Hid (w1.heap[w.heap.size]? = some (.cells #[.bool false, nil9, nil9, nil9] 143 (0, 0)) ∧ w.heap.size + 1 + 1 ≤ w1.heap.size) := ⟨(k1.1 _ (by have := RX.out.2; omega) (by omega)).trans RX.out.1, by have := k1.2.1; have := RX.out.2; omega⟩
 obtain ⟨M, hM⟩ : ∃ M, M = rnum 1 r0 := ⟨_, rfl⟩
 rw [← hM]
 replace hM := hide hM
 have R1 := hide r1
 have hML : M < 256 := by rw [hM.out]; exact rnum_lt 1 _
 obtain ⟨ra, rc, rL, rat, hrd⟩ := r1
 have C2 := (cells3p hrd.box).1.2.2
 have B1 := hide hrd.bel
 clear hrd k1 RX
 by_cases m2 : 1 < M
 ·have hs1 : (rstS 1 r0).short = false := by
   rw [(rstS_eq (s := 1) (r := r0) (by rw [HR.out])).1]
   unfold rst
   by_cases hl : r0.rest.length < 1
   ·exfalso
    have : rnum 1 r0 = 0 := by unfold rnum rtk; rw [if_pos hl]; rfl
    have := hM.out
    omega
   ·rw [if_neg hl, HR.out]
  rw [hs1] at C2
  have g1 : decide ((1 : Int) < (M : Int)) = true := decide_eq_true (by omega)
  have g2 : decide (1 < M) = true := decide_eq_true m2
  have e : Hid (DecR xs none9 22) := .inr ⟨by decide, rfl, kind_bad (by rw [← HR.out, ← hM.out]; exact m2)⟩
  obtain ⟨⟨Q0, Q1, Q2, Q3⟩, Rf⟩ := cells4 RY.out.1
  have Rf0 := Rf 0
  have Rf1 := Rf 1
  have Rf2 := Rf 2
  have Rf3 := Rf 3
  clear Rf hs1
  go_wp2
  refine retNT rfl rfl w.heap.size rfl _ _ (0, 0) (heap_set4 (u := w1) RY.out.1 _ _ _ _) _ Tryz.underlying143 rfl info_ndR (.int .i64 22) rfl ?_
  exact ⟨none9, 22, nil9, nil9, nil9, rfl, e.out, OwnN.nil _ _ _, below_set4n B1.out (Nat.le_refl _) _ _ _ _⟩
 go_upto_region 3 with fail
 go_cut [28] from 20 to 28 (fun s wx => s = .bool false ∧ w1 = wx)
 case first =>
  have g1 : decide ((1 : Int) < (M : Int)) = false := decide_eq_false (by omega)
  have g2 : decide (1 < M) = false := decide_eq_false m2
  cases hb : (rstS 1 r0).short
  all_goals
   rw [hb] at C2
   replace hb := hide hb
   go_wp2_with fail
   all_goals (go_meet; exact ⟨rfl, rfl⟩)
 case rest =>
 obtain ⟨rfl, rfl⟩ := hcut
 clear C2
 have K2 := hide (rnum9_any w (w.heap.size + 1) w1 xs (rstS 1 r0) 1 R1.out (by decide))
 go_wp2_with fail
 refine K2.out.mono ?_
 rintro e w2 ⟨rfl, r2, k2⟩
 clear K2
 have RZ : Hid (w2.heap[w.heap.size]? = some (.cells #[.bool false, nil9, nil9, nil9] 143 (0, 0)) ∧ w.heap.size + 1 + 1 ≤ w2.heap.size) := ⟨(k2.1 _ (by have := RY.out.2; omega) (by omega)).trans RY.out.1, by have := k2.2.1; have := RY.out.2; omega⟩
 have hL : rnumS 1 (rstS 1 r0) < 256 := rnumS_lt 1 _
 obtain ⟨left, hleft⟩ : ∃ L, L = rnumS 1 (rstS 1 r0) := ⟨_, rfl⟩
 rw [← hleft] at hL ⊢
 replace hleft := hide hleft
 obtain ⟨r, hr⟩ : ∃ q, q = rstS 1 (rstS 1 r0) := ⟨_, rfl⟩
 rw [← hr] at r2
 replace hr := hide hr
 obtain ⟨nb, hnb⟩ : ∃ nb, nb = w2.heap.size := ⟨_, rfl⟩
 have ST : Hid (∀ b : Bool, RStP w xs nb (w2.alloc (.cells #[.bool b, nil9, nil9, nil9] 143)) nil9 nil9 nil9 ⟨b, [], [], []⟩ r) := fun b => by
  have bb : Below w2.heap.size w2 (w2.alloc (.cells #[.bool b, nil9, nil9, nil9] 143)) := (Below.refl _ _).alloc (Nat.le_refl _) _
  refine ⟨r2.to bb, (bb.block _ (lt_of_block RZ.out.1)).trans RZ.out.1, by rw [hnb]; exact heap_alloc_last w2 _, OwnN.nil _ _ _, by have := RZ.out.2; omega, ?_, ?_, ?_⟩ <;> (intro k e; cases e)
 clear r2 k2 RY
 rcases (show M = 1 ∨ M = 0 by omega) with m1 | m1
 ·subst m1
  have S0 : Hid (RStP w xs nb (w2.alloc (.cells #[.bool true, nil9, nil9, nil9] 143)) nil9 nil9 nil9 ⟨true, [], [], []⟩ r) := hide (ST.out true)
  clear ST
  obtain ⟨V, hV⟩ : ∃ V, V = w2.alloc (.cells #[.bool true, nil9, nil9, nil9] 143) := ⟨_, rfl⟩
  rw [← hV] at S0
  have N0 := (cells4 S0.out.box).1.1
  have G0 : Hid (GP xs left r ⟨true, [], [], []⟩) := by
   rw [hleft.out, hr.out, HR.out]
   exact GP.start (by rw [← HR.out, ← hM.out])
  rw [hV, hnb] at N0
  go_wp2
  rw [← hV, ← hnb]
  replace hV := hide hV
  replace hnb := hide hnb
  clear N0
  go_loopw [8] (fun p wr => ∃ i : Nat, i ≤ left ∧ p = .int .i64 i ∧ Hid (∃ (kv vv dv : Value) (n : Nd) (r : Rr), RStP w xs nb wr kv vv dv n r ∧ GP xs (left - i) r n ∧ n.leaf = true ∧ n.keys.length + (left - i) ≤ 256 ∧ n.vals.length + (left - i) ≤ 256 ∧ n.kids.length + (left - i) ≤ 257)) (fun p _ => left - (intOf p).toNat)
  case atStart => exact ⟨0, Nat.zero_le _, rfl, ⟨_, _, _, _, _, S0.out, G0.out, rfl, by simp; omega, by simp; omega, by simp; omega⟩⟩
  case round =>
   obtain ⟨i, hi, rfl, hI⟩ := hrel
   obtain ⟨kv, vv, dv, n, r, hs, hg, hlf, hb1, hb2, hb3⟩ := hI.out
   obtain ⟨ak, ck, av, cv, ad, cd, rfl, rfl, rfl⟩ := hs.own.rd.slices
   have S0 := hide hs
   replace hlf := hide hlf
   obtain ⟨ra, rc, rL, rat, hrd⟩ := hs.rdr
   have C2 := (cells3p hrd.box).1.2.2
   clear hs hI
   cases hsh : r.short with
   | true =>
    rw [hsh] at C2
    have hG : Hid ((nread xs).2 ≠ 0) := by
     rcases hg with ⟨h, _⟩ | ⟨_, h⟩
     ·rw [hsh] at h; cases h
     ·exact h
    clear hg hrd
    replace hsh := hide hsh
    by_cases hlt : i < left
    ·have hq : (i : Int) < (left : Int) := by omega
     have RES := hide S0.out.res
     have BEL := hide S0.out.rdr.bel
     obtain ⟨⟨Q0, Q1, Q2, Q3⟩, Rf⟩ := cells4 RES.out
     have Rf0 := Rf 0
     have Rf1 := Rf 1
     have Rf2 := Rf 2
     have Rf3 := Rf 3
     clear Rf
     have e : Hid (DecR xs none9 8) := .inr ⟨by decide, rfl, ndec_no hG.out⟩
     go_wp2
     refine retNT rfl rfl w.heap.size rfl _ _ (0, 0) (heap_set4 (u := wr) RES.out _ _ _ _) _ Tryz.underlying143 rfl info_ndR (.int .i64 8) rfl ?_
     exact ⟨none9, 8, nil9, nil9, nil9, rfl, e.out, OwnN.nil _ _ _, below_set4n BEL.out (Nat.le_refl _) _ _ _ _⟩
    ·have hq : ¬ (i : Int) < (left : Int) := by omega
     have RES := hide S0.out.res
     have BEL := hide S0.out.rdr.bel
     obtain ⟨⟨Q0, Q1, Q2, Q3⟩, Rf⟩ := cells4 RES.out
     have Rf0 := Rf 0
     have Rf1 := Rf 1
     have Rf2 := Rf 2
     have Rf3 := Rf 3
     clear Rf
     have e : Hid (DecR xs none9 8) := .inr ⟨by decide, rfl, ndec_no hG.out⟩
     go_wp2
     refine retNT rfl rfl w.heap.size rfl _ _ (0, 0) (heap_set4 (u := wr) RES.out _ _ _ _) _ Tryz.underlying143 rfl info_ndR (.int .i64 8) rfl ?_
     exact ⟨none9, 8, nil9, nil9, nil9, rfl, e.out, OwnN.nil _ _ _, below_set4n BEL.out (Nat.le_refl _) _ _ _ _⟩
   | false =>
    rw [hsh] at C2
    replace hsh := hide hsh
    by_cases hlt : i < left
    ·have hq : (i : Int) < (left : Int) := by omega
     have g1 : decide (i < left) = true := decide_eq_true hlt
     obtain ⟨j, hj⟩ : ∃ j, left - i = j + 1 := ⟨left - i - 1, by omega⟩
     rw [hj] at hg
     have HG := hide (GP.next hg hsh.out)
     clear hg hrd
     replace hj := hide hj
     go_wp2_with fail
     clear C2
     have KN1 := hide (rnum9_any w (w.heap.size + 1) wr xs r 1 S0.out.rdr (by decide))
     obtain ⟨m1, hm1⟩ : ∃ m, m = rnumS 1 r := ⟨_, rfl⟩
     have hz1 : m1 < 256 := by rw [hm1]; exact rnumS_lt 1 _
     obtain ⟨q1, hq1⟩ : ∃ q, q = rstS 1 r := ⟨_, rfl⟩
     rw [← hm1, ← hq1] at KN1
     replace hm1 := hide hm1
     replace hq1 := hide hq1
     refine KN1.out.mono ?_
     rintro e wn1 ⟨rfl, rn1, kn1⟩
     clear KN1
     have ST1 : Hid (RStP w xs nb wn1 (.slice ak n.keys.length ck) (.slice av n.vals.length cv) (.slice ad n.kids.length cd) (⟨n.leaf, n.keys, n.vals, n.kids⟩ : Nd) q1) := hide (S0.out.call kn1 rn1)
     clear rn1 kn1
     have KN2 := hide (rtake_any w (w.heap.size + 1) wn1 xs q1 m1 ST1.out.rdr (by omega))
     obtain ⟨x2, hx2⟩ : ∃ x, x = rtkS m1 q1 := ⟨_, rfl⟩
     obtain ⟨q2, hq2⟩ : ∃ q, q = rstS m1 q1 := ⟨_, rfl⟩
     rw [← hx2, ← hq2] at KN2
     replace hx2 := hide hx2
     replace hq2 := hide hq2
     go_wp2_with fail
     refine KN2.out.mono ?_
     rintro e wn2 ⟨ta2, tc2, rfl, td2, rn2, kn2⟩
     clear KN2
     have ST2 : Hid (RStP w xs nb wn2 (.slice ak n.keys.length ck) (.slice av n.vals.length cv) (.slice ad n.kids.length cd) (⟨n.leaf, n.keys, n.vals, n.kids⟩ : Nd) q2) := hide (ST1.out.call kn2 rn2)
     have cv2 := conv_any (td2.to rn2.bel)
     clear rn2 kn2 td2
     have sb3 := ST2.out.below ((Below.refl wn2.heap.size wn2).alloc (Nat.le_refl _) (.cells #[(st x2)] 9))
     have ca3 := (cells4 ST2.out.box).1.2.1
     have FI3 : Hid (∀ (g cp : Nat) (U : World), U.ownsRow (nb + 1) 9 1 (.slice (some ⟨g, 0, none⟩) (n.keys.length + 1) cp) (n.keys.length + 1) (n.keys.map st ++ [(st x2)]) → (wn2.alloc (.cells #[(st x2)] 9)).grownBy U (Value.ownBlock (.slice ak n.keys.length ck)) → (Value.ownBlock (.slice ak n.keys.length ck) = some g ∨ g = wn2.heap.size + 1) → U.cell? ⟨nb, 1, none⟩ = some (.slice ak n.keys.length ck) ∧ U.frozen? ⟨nb, 1, none⟩ = false ∧ Hid (RStP w xs nb (U.setCell ⟨nb, 1, none⟩ (.slice (some ⟨g, 0, none⟩) (n.keys.length + 1) cp)) (.slice (some ⟨g, 0, none⟩) (n.keys.length + 1) cp) (.slice av n.vals.length cv) (.slice ad n.kids.length cd) (⟨n.leaf, (n.keys ++ [x2]), n.vals, n.kids⟩ : Nd) q2)) := fun g cp U ob kb hb => by
      have sb := sb3
      have nbl := (kb.block nb (lt_of_block sb.box) (fun e => by have := (row_from sb.own.keys nb e.symm).1; omega)).trans sb.box
      have oo : OwnT (nb + 1) U (.slice (some ⟨g, 0, none⟩) (n.keys.length + 1) cp) (n.keys ++ [x2]) := by show World.ownsRow _ _ _ _ _ _ _; simpa using ob
      exact ⟨(cells4 nbl).1.2.1, frz9 nbl 1, hide (sb.keys rfl oo kb (by rcases hb with h | h; exact .inl h; exact .inr (by simpa using h)))⟩
     have own3 := sb3.own.keys
     dsimp only at own3
     have lt3 := lt_of_block ST2.out.box
     clear sb3
     go_wp2_with (at_builtin; refine wpList_append_lies _ rfl _ _ 23 rfl (nb + 1) 9 _ (.string ⟨#[]⟩) 1 16 Tryz.underlying23 ii iz0 iz1 iz2 rfl (by decide) (.slice ak n.keys.length ck) n.keys.length (n.keys.map st) rfl own3 ⟨wn2.heap.size, 0, none⟩ 1 1 [(st x2)] rfl rfl (World.news_of_block (heap_alloc_last wn2 _)) (by simp [Value.oneCell']) (by decide) (by rw [show maxLen = 9223372036854775807 from rfl]; first | omega | (simp; omega)) (by first | omega | (simp; omega)) (by first | omega | (simp; omega)) (wn2.heap.size + 1) (by simp) ?_; intro ga3 cb3 wb3 ob3 kb3 hb3 _; obtain ⟨cc3, fz3, ST3⟩ := FI3.out ga3 cb3 wb3 ob3 kb3 hb3; clear ob3 kb3 hb3 FI3 own3 lt3; have N9 : (wb3.setCell ⟨nb, 1, none⟩ (.slice (some ⟨ga3, 0, none⟩) (n.keys.length + 1) cb3)).cell? ⟨nb, 0, none⟩ = some (.bool true) := (by have q9 := (cells4 ST3.out.box).1.1; rw [hlf.out] at q9; exact q9))
     clear cc3 fz3 ca3
     clear cv2 N9
     obtain ⟨V4, hV4⟩ : ∃ U, U = (wb3.setCell ⟨nb, 1, none⟩ (.slice (some ⟨ga3, 0, none⟩) (n.keys.length + 1) cb3)) := ⟨_, rfl⟩
     rw [← hV4] at ST3
     rw [← hV4]
     replace hV4 := hide hV4
     have KN5 := hide (rnum9_any w (w.heap.size + 1) V4 xs q2 1 ST3.out.rdr (by decide))
     obtain ⟨m5, hm5⟩ : ∃ m, m = rnumS 1 q2 := ⟨_, rfl⟩
     have hz5 : m5 < 256 := by rw [hm5]; exact rnumS_lt 1 _
     obtain ⟨q5, hq5⟩ : ∃ q, q = rstS 1 q2 := ⟨_, rfl⟩
     rw [← hm5, ← hq5] at KN5
     replace hm5 := hide hm5
     replace hq5 := hide hq5
     refine KN5.out.mono ?_
     rintro e wn5 ⟨rfl, rn5, kn5⟩
     clear KN5
     have ST5 : Hid (RStP w xs nb wn5 (.slice (some ⟨ga3, 0, none⟩) (n.keys.length + 1) cb3) (.slice av n.vals.length cv) (.slice ad n.kids.length cd) (⟨n.leaf, (n.keys ++ [x2]), n.vals, n.kids⟩ : Nd) q5) := hide (ST3.out.call kn5 rn5)
     clear rn5 kn5
     have KN6 := hide (rtake_any w (w.heap.size + 1) wn5 xs q5 m5 ST5.out.rdr (by omega))
     obtain ⟨x6, hx6⟩ : ∃ x, x = rtkS m5 q5 := ⟨_, rfl⟩
     obtain ⟨q6, hq6⟩ : ∃ q, q = rstS m5 q5 := ⟨_, rfl⟩
     rw [← hx6, ← hq6] at KN6
     replace hx6 := hide hx6
     replace hq6 := hide hq6
     go_wp2_with fail
     refine KN6.out.mono ?_
     rintro e wn6 ⟨ta6, tc6, rfl, td6, rn6, kn6⟩
     clear KN6
     have ST6 : Hid (RStP w xs nb wn6 (.slice (some ⟨ga3, 0, none⟩) (n.keys.length + 1) cb3) (.slice av n.vals.length cv) (.slice ad n.kids.length cd) (⟨n.leaf, (n.keys ++ [x2]), n.vals, n.kids⟩ : Nd) q6) := hide (ST5.out.call kn6 rn6)
     have cv6 := conv_any (td6.to rn6.bel)
     clear rn6 kn6 td6
     have sb7 := ST6.out.below ((Below.refl wn6.heap.size wn6).alloc (Nat.le_refl _) (.cells #[(st x6)] 9))
     have ca7 := (cells4 ST6.out.box).1.2.2.1
     have FI7 : Hid (∀ (g cp : Nat) (U : World), U.ownsRow (nb + 1) 9 1 (.slice (some ⟨g, 0, none⟩) (n.vals.length + 1) cp) (n.vals.length + 1) (n.vals.map st ++ [(st x6)]) → (wn6.alloc (.cells #[(st x6)] 9)).grownBy U (Value.ownBlock (.slice av n.vals.length cv)) → (Value.ownBlock (.slice av n.vals.length cv) = some g ∨ g = wn6.heap.size + 1) → U.cell? ⟨nb, 2, none⟩ = some (.slice av n.vals.length cv) ∧ U.frozen? ⟨nb, 2, none⟩ = false ∧ Hid (RStP w xs nb (U.setCell ⟨nb, 2, none⟩ (.slice (some ⟨g, 0, none⟩) (n.vals.length + 1) cp)) (.slice (some ⟨ga3, 0, none⟩) (n.keys.length + 1) cb3) (.slice (some ⟨g, 0, none⟩) (n.vals.length + 1) cp) (.slice ad n.kids.length cd) (⟨n.leaf, (n.keys ++ [x2]), (n.vals ++ [x6]), n.kids⟩ : Nd) q6)) := fun g cp U ob kb hb => by
      have sb := sb7
      have nbl := (kb.block nb (lt_of_block sb.box) (fun e => by have := (row_from sb.own.vals nb e.symm).1; omega)).trans sb.box
      have oo : OwnT (nb + 1) U (.slice (some ⟨g, 0, none⟩) (n.vals.length + 1) cp) (n.vals ++ [x6]) := by show World.ownsRow _ _ _ _ _ _ _; simpa using ob
      exact ⟨(cells4 nbl).1.2.2.1, frz9 nbl 2, hide (sb.vals rfl oo kb (by rcases hb with h | h; exact .inl h; exact .inr (by simpa using h)))⟩
     have own7 := sb7.own.vals
     dsimp only at own7
     have lt7 := lt_of_block ST6.out.box
     clear sb7
     go_wp2_with (at_builtin; refine wpList_append_lies _ rfl _ _ 23 rfl (nb + 1) 9 _ (.string ⟨#[]⟩) 1 16 Tryz.underlying23 ii iz0 iz1 iz2 rfl (by decide) (.slice av n.vals.length cv) n.vals.length (n.vals.map st) rfl own7 ⟨wn6.heap.size, 0, none⟩ 1 1 [(st x6)] rfl rfl (World.news_of_block (heap_alloc_last wn6 _)) (by simp [Value.oneCell']) (by decide) (by rw [show maxLen = 9223372036854775807 from rfl]; first | omega | (simp; omega)) (by first | omega | (simp; omega)) (by first | omega | (simp; omega)) (wn6.heap.size + 1) (by simp) ?_; intro ga7 cb7 wb7 ob7 kb7 hb7 _; obtain ⟨cc7, fz7, ST7⟩ := FI7.out ga7 cb7 wb7 ob7 kb7 hb7; clear ob7 kb7 hb7 FI7 own7 lt7)
     clear cc7 fz7 ca7
     clear cv6
     have HG2 : Hid (GP xs (left - (i + 1)) q6 (⟨n.leaf, (n.keys ++ [x2]), (n.vals ++ [x6]), n.kids⟩ : Nd)) := by
      rw [show left - (i + 1) = j by have := hj.out; omega, hq6.out, hx6.out, hq5.out, hm5.out, hq2.out, hx2.out, hq1.out, hm1.out]
      exact HG.out
     go_roundw
     case rel => exact ⟨i + 1, by omega, by go_num, hide ⟨_, _, _, _, _, ST7.out, HG2.out, hlf.out, by have := hj.out; simp; omega, by have := hj.out; simp; omega, by have := hj.out; simp; omega⟩⟩
     case measure => simp [intOf]; omega
    ·have hq : ¬ (i : Int) < (left : Int) := by omega
     have hG : Hid (nread xs = rfin (n, r)) := by
      rw [show left - i = 0 by omega] at hg
      rcases hg with ⟨_, h⟩ | ⟨h, _⟩
      ·exact h
      ·rw [hsh.out] at h; cases h
     clear hg
     have RES := hide S0.out.res
     have BEL := hide S0.out.rdr.bel
     obtain ⟨⟨Q0, Q1, Q2, Q3⟩, Rf⟩ := cells4 RES.out
     have Rf0 := Rf 0
     have Rf1 := Rf 1
     have Rf2 := Rf 2
     have Rf3 := Rf 3
     clear Rf
     obtain ⟨⟨N0, N1, N2, N3⟩, _⟩ := cells4 S0.out.box
     have C1 := (cells3p hrd.box).1.2.1
     have hrl : r.rest.length = rL - rat := by rw [hrd.rest, List.length_drop, hrd.len]
     have hrle := hrd.le
     have hlen := hrd.len
     by_cases hl : rat < rL
     ·have hq : (rat : Int) < (xs.length : Int) := by omega
      have e : Hid (DecR xs none9 23) := .inr ⟨by decide, rfl, ndec_no (by rw [hG.out]; unfold rfin; dsimp only; rw [hsh.out, if_neg (by decide), if_pos (by omega)]; decide)⟩
      replace hrl := hide hrl
      clear hrle
      replace hlen := hide hlen
      go_wp2
      refine retNT rfl rfl w.heap.size rfl _ _ (0, 0) (heap_set4 (u := wr) RES.out _ _ _ _) _ Tryz.underlying143 rfl info_ndR (.int .i64 23) rfl ?_
      exact ⟨none9, 23, nil9, nil9, nil9, rfl, e.out, OwnN.nil _ _ _, below_set4n BEL.out (Nat.le_refl _) _ _ _ _⟩
     ·have hq : ¬ (rat : Int) < (xs.length : Int) := by omega
      have e := hide (DecR.fin hG.out hsh.out (by omega))
      have fit : nfit n := by unfold nfit; omega
      have KC := hide (rcheck9_any wr _ _ _ n S0.out.own.rd fit)
      dsimp only [nv] at KC
      obtain ⟨Z, hZ⟩ : ∃ Z, Z = ncheck n := ⟨_, rfl⟩
      rw [← hZ] at KC e
      replace hZ := hide hZ
      replace hrl := hide hrl
      clear hrle fit hrd
      replace hlen := hide hlen
      go_wp2_with fail
      clear N0 N1 N2 N3 Q0 Q1 Q2 Q3 Rf0 Rf1 Rf2 Rf3 C1
      refine KC.out.mono ?_
      rintro e' we ⟨rfl, be⟩
      clear KC
      have RE := hide ((be.block _ (lt_of_block RES.out)).trans RES.out)
      have BE := hide (BEL.out.trans (be.mono BEL.out.size))
      have OE := hide (S0.out.own.to be)
      have hnb9 := hide S0.out.hnb
      have Q0 := (cells4 RE.out).1.1
      have Q1 := (cells4 RE.out).1.2.1
      have Q2 := (cells4 RE.out).1.2.2.1
      have Q3 := (cells4 RE.out).1.2.2.2
      have Rf0 := (cells4 RE.out).2 0
      have Rf1 := (cells4 RE.out).2 1
      have Rf2 := (cells4 RE.out).2 2
      have Rf3 := (cells4 RE.out).2 3
      have BO := hide ((be.block _ (lt_of_block S0.out.box)).trans S0.out.box)
      have N0 := (cells4 BO.out).1.1
      have N1 := (cells4 BO.out).1.2.1
      have N2 := (cells4 BO.out).1.2.2.1
      have N3 := (cells4 BO.out).1.2.2.2
      clear be
      by_cases hz : Z = 0
      ·subst hz
       rw [if_pos rfl] at e
       go_wp2
       refine retNT rfl rfl w.heap.size rfl _ _ (0, 0) (heap_set4 (u := we) RE.out _ _ _ _) _ Tryz.underlying143 rfl info_ndR (.int .i64 0) rfl ?_
       have hlt' : w.heap.size < nb + 1 := by have := hnb9.out; omega
       exact ⟨n, 0, _, _, _, rfl, e.out, ((((OE.out.set hlt' 0 _).set hlt' 1 _).set hlt' 2 _).set hlt' 3 _).mono (by omega), below_set4n BE.out (Nat.le_refl _) _ _ _ _⟩
      ·rw [if_neg hz] at e
       go_wp2
       refine retNT rfl rfl w.heap.size rfl _ _ (0, 0) (heap_set4 (u := we) RE.out _ _ _ _) _ Tryz.underlying143 rfl info_ndR (.int .i64 Z) rfl ?_
       exact ⟨none9, Z, nil9, nil9, nil9, rfl, e.out, OwnN.nil _ _ _, below_set4n BE.out (Nat.le_refl _) _ _ _ _⟩
 ·subst m1
  have S0 : Hid (RStP w xs nb (w2.alloc (.cells #[.bool false, nil9, nil9, nil9] 143)) nil9 nil9 nil9 ⟨false, [], [], []⟩ r) := hide (ST.out false)
  clear ST
  obtain ⟨V, hV⟩ : ∃ V, V = w2.alloc (.cells #[.bool false, nil9, nil9, nil9] 143) := ⟨_, rfl⟩
  rw [← hV] at S0
  have N0 := (cells4 S0.out.box).1.1
  have G0 : Hid (GK xs left (rstS 4 r) ⟨false, [], [], [((rnumS 4 r : Nat) : Int)]⟩) := by
   rw [hleft.out, hr.out, HR.out]
   exact GK.start (by rw [← HR.out, ← hM.out])
  rw [hV, hnb] at N0
  go_wp2
  rw [← hV, ← hnb]
  replace hV := hide hV
  replace hnb := hide hnb
  clear N0
  obtain ⟨n, hn⟩ : ∃ n : Nd, n = ⟨false, [], [], []⟩ := ⟨_, rfl⟩
  rw [← hn] at S0
  have SD : Hid (RStP w xs nb V.drew nil9 nil9 nil9 n r) := hide (S0.out.below ((Below.refl V.heap.size V).drew))
  have KT := hide (rnum9_any w (w.heap.size + 1) V.drew xs r 4 SD.out.rdr (by decide))
  obtain ⟨m9, hm9⟩ : ∃ m, m = rnumS 4 r := ⟨_, rfl⟩
  obtain ⟨q9, hq9⟩ : ∃ q, q = rstS 4 r := ⟨_, rfl⟩
  rw [← hm9, ← hq9] at KT G0
  replace hm9 := hide hm9
  replace hq9 := hide hq9
  have CB : Hid (∀ (U : World) (q : Rr), RStP w xs nb U nil9 nil9 nil9 n q → U.cell? ⟨nb, 3, none⟩ = some nil9) := fun U q h => (cells4 h.box).1.2.2.2
  have HN := hide hn
  clear hn
  refine wp_region_sched (fun w9 => w9.cell? ⟨nb, 3, none⟩ = some nil9) [(0, true), (1, true), (2, true), (3, false), (4, false)] 5 mixed (by kernel_rfl) (fun _ _ _ _ h => h) ?_
  iterate 3
   refine sched_take (v := ?_) rfl (by kernel_rfl) (CB.out _ _ SD.out) ?_ ?_
   rotate_left
   ·intro w9 r1
    go_simp
    try with_reducible rfl
   try simp only [Act.put, List.setIfInBounds_toArray, List.set_cons_zero, List.set_cons_succ]
  refine sched_run rfl (by kernel_rfl) fun K hK => ?_
  refine wp_call_of 96 _ _ (by rfl) #[.pointer (some ⟨w.heap.size + 1, 0, none⟩), .int .i64 4] (by simp [Act.eval]) (Tryz.call96 _ _) KT.out ?_
  rintro e wa ⟨rfl, ra, ka⟩
  have SA : Hid (RStP w xs nb wa nil9 nil9 nil9 n q9) := hide (SD.out.call ka ra)
  refine ⟨_, rfl, hK _ _ (CB.out _ _ SA.out) ?_⟩
  clear hK K ra ka
  try simp only [Act.put, List.setIfInBounds_toArray, List.set_cons_zero, List.set_cons_succ]
  refine sched_run rfl (by kernel_rfl) fun K hK => ?_
  have sb := SA.out.below ((Below.refl wa.heap.size wa).alloc (Nat.le_refl _) (.cells #[.int .i64 (m9 : Int)] 3))
  go_simp
  refine hK _ _ (CB.out _ _ sb) ?_
  clear hK K
  try simp only [Act.put, List.setIfInBounds_toArray, List.set_cons_zero, List.set_cons_succ]
  show wpList _ _ _ _ _ _
  dsimp only [List.drop]
  have FI : Hid (∀ (g cp : Nat) (U : World), U.ownsRow (nb + 1) 3 1 (.slice (some ⟨g, 0, none⟩) 1 cp) 1 [.int .i64 (m9 : Int)] → (wa.alloc (.cells #[.int .i64 (m9 : Int)] 3)).grownBy U (Value.ownBlock nil9) → (Value.ownBlock nil9 = some g ∨ g = wa.heap.size + 1) → U.cell? ⟨nb, 3, none⟩ = some nil9 ∧ U.frozen? ⟨nb, 3, none⟩ = false ∧ Hid (RStP w xs nb (U.setCell ⟨nb, 3, none⟩ (.slice (some ⟨g, 0, none⟩) 1 cp)) nil9 nil9 (.slice (some ⟨g, 0, none⟩) 1 cp) ⟨false, [], [], [(m9 : Int)]⟩ q9)) := fun g cp U ob kb hb => by
   have sb := sb
   have nbl := (kb.block nb (lt_of_block sb.box) (fun e => by have := (row_from sb.own.kids nb e.symm).1; omega)).trans sb.box
   have oo : OwnJ (nb + 1) U (.slice (some ⟨g, 0, none⟩) 1 cp) (n.kids ++ [(m9 : Int)]) := by rw [HN.out]; exact ob
   have st := sb.kids rfl oo kb (by rcases hb with h | h; exact .inl h; exact .inr (by simpa using h))
   rw [HN.out] at st
   exact ⟨(cells4 nbl).1.2.2.2, frz9 nbl 3, hide st⟩
  have own0 : (wa.alloc (.cells #[.int .i64 (m9 : Int)] 3)).ownsRow (nb + 1) 3 1 nil9 0 [] := World.ownsRow_nil _ _ _ _
  have lt0 := lt_of_block SA.out.box
  clear sb KT CB SD SA
  go_wp2_with (at_builtin; refine wpList_append_lies _ rfl _ _ 74 rfl (nb + 1) 3 _ (.int .i64 0) 1 8 Tryz.underlying74 ji jz0 jz1 jz2 rfl (by decide) nil9 0 [] rfl own0 ⟨wa.heap.size, 0, none⟩ 1 1 [.int .i64 (m9 : Int)] rfl rfl (World.news_of_block (heap_alloc_last wa _)) (by simp [Value.oneCell']) (by decide) (by rw [show maxLen = 9223372036854775807 from rfl]; omega) (by omega) (by first | omega | (simp; omega)) (wa.heap.size + 1) (by simp) ?_; intro ga cb wb ob kb hb _; obtain ⟨cc, fz, STK⟩ := FI.out ga cb wb ob kb hb; clear ob kb hb FI own0 lt0)
  clear cc fz
  go_loopw [8] (fun p wr => ∃ i : Nat, i ≤ left ∧ p = .int .i64 i ∧ Hid (∃ (kv vv dv : Value) (n : Nd) (r : Rr), RStP w xs nb wr kv vv dv n r ∧ GK xs (left - i) r n ∧ n.leaf = false ∧ n.keys.length + (left - i) ≤ 256 ∧ n.vals.length + (left - i) ≤ 256 ∧ n.kids.length + (left - i) ≤ 257)) (fun p _ => left - (intOf p).toNat)
  case atStart => exact ⟨0, Nat.zero_le _, rfl, ⟨_, _, _, _, _, STK.out, G0.out, rfl, by simp; omega, by simp; omega, by simp; omega⟩⟩
  case round =>
   obtain ⟨i, hi, rfl, hI⟩ := hrel
   obtain ⟨kv, vv, dv, n, r, hs, hg, hlf, hb1, hb2, hb3⟩ := hI.out
   obtain ⟨ak, ck, av, cv, ad, cd, rfl, rfl, rfl⟩ := hs.own.rd.slices
   have S0 := hide hs
   replace hlf := hide hlf
   obtain ⟨ra, rc, rL, rat, hrd⟩ := hs.rdr
   have C2 := (cells3p hrd.box).1.2.2
   clear hs hI
   cases hsh : r.short with
   | true =>
    rw [hsh] at C2
    have hG : Hid ((nread xs).2 ≠ 0) := by
     rcases hg with ⟨h, _⟩ | ⟨_, h⟩
     ·rw [hsh] at h; cases h
     ·exact h
    clear hg hrd
    replace hsh := hide hsh
    by_cases hlt : i < left
    ·have hq : (i : Int) < (left : Int) := by omega
     have RES := hide S0.out.res
     have BEL := hide S0.out.rdr.bel
     obtain ⟨⟨Q0, Q1, Q2, Q3⟩, Rf⟩ := cells4 RES.out
     have Rf0 := Rf 0
     have Rf1 := Rf 1
     have Rf2 := Rf 2
     have Rf3 := Rf 3
     clear Rf
     have e : Hid (DecR xs none9 8) := .inr ⟨by decide, rfl, ndec_no hG.out⟩
     go_wp2
     refine retNT rfl rfl w.heap.size rfl _ _ (0, 0) (heap_set4 (u := wr) RES.out _ _ _ _) _ Tryz.underlying143 rfl info_ndR (.int .i64 8) rfl ?_
     exact ⟨none9, 8, nil9, nil9, nil9, rfl, e.out, OwnN.nil _ _ _, below_set4n BEL.out (Nat.le_refl _) _ _ _ _⟩
    ·have hq : ¬ (i : Int) < (left : Int) := by omega
     have RES := hide S0.out.res
     have BEL := hide S0.out.rdr.bel
     obtain ⟨⟨Q0, Q1, Q2, Q3⟩, Rf⟩ := cells4 RES.out
     have Rf0 := Rf 0
     have Rf1 := Rf 1
     have Rf2 := Rf 2
     have Rf3 := Rf 3
     clear Rf
     have e : Hid (DecR xs none9 8) := .inr ⟨by decide, rfl, ndec_no hG.out⟩
     go_wp2
     refine retNT rfl rfl w.heap.size rfl _ _ (0, 0) (heap_set4 (u := wr) RES.out _ _ _ _) _ Tryz.underlying143 rfl info_ndR (.int .i64 8) rfl ?_
     exact ⟨none9, 8, nil9, nil9, nil9, rfl, e.out, OwnN.nil _ _ _, below_set4n BEL.out (Nat.le_refl _) _ _ _ _⟩
   | false =>
    rw [hsh] at C2
    replace hsh := hide hsh
    by_cases hlt : i < left
    ·have hq : (i : Int) < (left : Int) := by omega
     have g1 : decide (i < left) = true := decide_eq_true hlt
     obtain ⟨j, hj⟩ : ∃ j, left - i = j + 1 := ⟨left - i - 1, by omega⟩
     rw [hj] at hg
     have HG := hide (GK.next hg hsh.out)
     clear hg hrd
     replace hj := hide hj
     go_wp2_with fail
     clear C2
     have KN8 := hide (rnum9_any w (w.heap.size + 1) wr xs r 1 S0.out.rdr (by decide))
     obtain ⟨m8, hm8⟩ : ∃ m, m = rnumS 1 r := ⟨_, rfl⟩
     have hz8 : m8 < 256 := by rw [hm8]; exact rnumS_lt 1 _
     obtain ⟨q8, hq8⟩ : ∃ q, q = rstS 1 r := ⟨_, rfl⟩
     rw [← hm8, ← hq8] at KN8
     replace hm8 := hide hm8
     replace hq8 := hide hq8
     refine KN8.out.mono ?_
     rintro e wn8 ⟨rfl, rn8, kn8⟩
     clear KN8
     have ST8 : Hid (RStP w xs nb wn8 (.slice ak n.keys.length ck) (.slice av n.vals.length cv) (.slice ad n.kids.length cd) (⟨n.leaf, n.keys, n.vals, n.kids⟩ : Nd) q8) := hide (S0.out.call kn8 rn8)
     clear rn8 kn8
     have KN9 := hide (rtake_any w (w.heap.size + 1) wn8 xs q8 m8 ST8.out.rdr (by omega))
     obtain ⟨x9, hx9⟩ : ∃ x, x = rtkS m8 q8 := ⟨_, rfl⟩
     obtain ⟨q9, hq9⟩ : ∃ q, q = rstS m8 q8 := ⟨_, rfl⟩
     rw [← hx9, ← hq9] at KN9
     replace hx9 := hide hx9
     replace hq9 := hide hq9
     go_wp2_with fail
     refine KN9.out.mono ?_
     rintro e wn9 ⟨ta9, tc9, rfl, td9, rn9, kn9⟩
     clear KN9
     have ST9 : Hid (RStP w xs nb wn9 (.slice ak n.keys.length ck) (.slice av n.vals.length cv) (.slice ad n.kids.length cd) (⟨n.leaf, n.keys, n.vals, n.kids⟩ : Nd) q9) := hide (ST8.out.call kn9 rn9)
     have cv9 := conv_any (td9.to rn9.bel)
     clear rn9 kn9 td9
     have sb10 := ST9.out.below ((Below.refl wn9.heap.size wn9).alloc (Nat.le_refl _) (.cells #[(st x9)] 9))
     have ca10 := (cells4 ST9.out.box).1.2.1
     have FI10 : Hid (∀ (g cp : Nat) (U : World), U.ownsRow (nb + 1) 9 1 (.slice (some ⟨g, 0, none⟩) (n.keys.length + 1) cp) (n.keys.length + 1) (n.keys.map st ++ [(st x9)]) → (wn9.alloc (.cells #[(st x9)] 9)).grownBy U (Value.ownBlock (.slice ak n.keys.length ck)) → (Value.ownBlock (.slice ak n.keys.length ck) = some g ∨ g = wn9.heap.size + 1) → U.cell? ⟨nb, 1, none⟩ = some (.slice ak n.keys.length ck) ∧ U.frozen? ⟨nb, 1, none⟩ = false ∧ Hid (RStP w xs nb (U.setCell ⟨nb, 1, none⟩ (.slice (some ⟨g, 0, none⟩) (n.keys.length + 1) cp)) (.slice (some ⟨g, 0, none⟩) (n.keys.length + 1) cp) (.slice av n.vals.length cv) (.slice ad n.kids.length cd) (⟨n.leaf, (n.keys ++ [x9]), n.vals, n.kids⟩ : Nd) q9)) := fun g cp U ob kb hb => by
      have sb := sb10
      have nbl := (kb.block nb (lt_of_block sb.box) (fun e => by have := (row_from sb.own.keys nb e.symm).1; omega)).trans sb.box
      have oo : OwnT (nb + 1) U (.slice (some ⟨g, 0, none⟩) (n.keys.length + 1) cp) (n.keys ++ [x9]) := by show World.ownsRow _ _ _ _ _ _ _; simpa using ob
      exact ⟨(cells4 nbl).1.2.1, frz9 nbl 1, hide (sb.keys rfl oo kb (by rcases hb with h | h; exact .inl h; exact .inr (by simpa using h)))⟩
     have own10 := sb10.own.keys
     dsimp only at own10
     have lt10 := lt_of_block ST9.out.box
     clear sb10
     go_wp2_with (at_builtin; refine wpList_append_lies _ rfl _ _ 23 rfl (nb + 1) 9 _ (.string ⟨#[]⟩) 1 16 Tryz.underlying23 ii iz0 iz1 iz2 rfl (by decide) (.slice ak n.keys.length ck) n.keys.length (n.keys.map st) rfl own10 ⟨wn9.heap.size, 0, none⟩ 1 1 [(st x9)] rfl rfl (World.news_of_block (heap_alloc_last wn9 _)) (by simp [Value.oneCell']) (by decide) (by rw [show maxLen = 9223372036854775807 from rfl]; first | omega | (simp; omega)) (by first | omega | (simp; omega)) (by first | omega | (simp; omega)) (wn9.heap.size + 1) (by simp) ?_; intro ga10 cb10 wb10 ob10 kb10 hb10 _; obtain ⟨cc10, fz10, ST10⟩ := FI10.out ga10 cb10 wb10 ob10 kb10 hb10; clear ob10 kb10 hb10 FI10 own10 lt10; have N9 : (wb10.setCell ⟨nb, 1, none⟩ (.slice (some ⟨ga10, 0, none⟩) (n.keys.length + 1) cb10)).cell? ⟨nb, 0, none⟩ = some (.bool false) := (by have q9 := (cells4 ST10.out.box).1.1; rw [hlf.out] at q9; exact q9))
     clear cc10 fz10 ca10
     clear cv9 N9
     obtain ⟨V11, hV11⟩ : ∃ U, U = (wb10.setCell ⟨nb, 1, none⟩ (.slice (some ⟨ga10, 0, none⟩) (n.keys.length + 1) cb10)) := ⟨_, rfl⟩
     rw [← hV11] at ST10
     rw [← hV11]
     replace hV11 := hide hV11
     have KN12 := hide (rnum9_any w (w.heap.size + 1) V11 xs q9 4 ST10.out.rdr (by decide))
     obtain ⟨m12, hm12⟩ : ∃ m, m = rnumS 4 q9 := ⟨_, rfl⟩
     have hz12 : m12 < 4294967296 := by rw [hm12]; exact rnumS_lt 4 _
     obtain ⟨q12, hq12⟩ : ∃ q, q = rstS 4 q9 := ⟨_, rfl⟩
     rw [← hm12, ← hq12] at KN12
     replace hm12 := hide hm12
     replace hq12 := hide hq12
     refine KN12.out.mono ?_
     rintro e wn12 ⟨rfl, rn12, kn12⟩
     clear KN12
     have ST12 : Hid (RStP w xs nb wn12 (.slice (some ⟨ga10, 0, none⟩) (n.keys.length + 1) cb10) (.slice av n.vals.length cv) (.slice ad n.kids.length cd) (⟨n.leaf, (n.keys ++ [x9]), n.vals, n.kids⟩ : Nd) q12) := hide (ST10.out.call kn12 rn12)
     clear rn12 kn12
     have sb13 := ST12.out.below ((Below.refl wn12.heap.size wn12).alloc (Nat.le_refl _) (.cells #[(.int .i64 (m12 : Int))] 3))
     have ca13 := (cells4 ST12.out.box).1.2.2.2
     have FI13 : Hid (∀ (g cp : Nat) (U : World), U.ownsRow (nb + 1) 3 1 (.slice (some ⟨g, 0, none⟩) (n.kids.length + 1) cp) (n.kids.length + 1) (n.kids.map (Value.int .i64) ++ [(.int .i64 (m12 : Int))]) → (wn12.alloc (.cells #[(.int .i64 (m12 : Int))] 3)).grownBy U (Value.ownBlock (.slice ad n.kids.length cd)) → (Value.ownBlock (.slice ad n.kids.length cd) = some g ∨ g = wn12.heap.size + 1) → U.cell? ⟨nb, 3, none⟩ = some (.slice ad n.kids.length cd) ∧ U.frozen? ⟨nb, 3, none⟩ = false ∧ Hid (RStP w xs nb (U.setCell ⟨nb, 3, none⟩ (.slice (some ⟨g, 0, none⟩) (n.kids.length + 1) cp)) (.slice (some ⟨ga10, 0, none⟩) (n.keys.length + 1) cb10) (.slice av n.vals.length cv) (.slice (some ⟨g, 0, none⟩) (n.kids.length + 1) cp) (⟨n.leaf, (n.keys ++ [x9]), n.vals, (n.kids ++ [(m12 : Int)])⟩ : Nd) q12)) := fun g cp U ob kb hb => by
      have sb := sb13
      have nbl := (kb.block nb (lt_of_block sb.box) (fun e => by have := (row_from sb.own.kids nb e.symm).1; omega)).trans sb.box
      have oo : OwnJ (nb + 1) U (.slice (some ⟨g, 0, none⟩) (n.kids.length + 1) cp) (n.kids ++ [(m12 : Int)]) := by show World.ownsRow _ _ _ _ _ _ _; simpa using ob
      exact ⟨(cells4 nbl).1.2.2.2, frz9 nbl 3, hide (sb.kids rfl oo kb (by rcases hb with h | h; exact .inl h; exact .inr (by simpa using h)))⟩
     have own13 := sb13.own.kids
     dsimp only at own13
     have lt13 := lt_of_block ST12.out.box
     clear sb13
     go_wp2_with (at_builtin; refine wpList_append_lies _ rfl _ _ 74 rfl (nb + 1) 3 _ (.int .i64 0) 1 8 Tryz.underlying74 ji jz0 jz1 jz2 rfl (by decide) (.slice ad n.kids.length cd) n.kids.length (n.kids.map (Value.int .i64)) rfl own13 ⟨wn12.heap.size, 0, none⟩ 1 1 [(.int .i64 (m12 : Int))] rfl rfl (World.news_of_block (heap_alloc_last wn12 _)) (by simp [Value.oneCell']) (by decide) (by rw [show maxLen = 9223372036854775807 from rfl]; first | omega | (simp; omega)) (by first | omega | (simp; omega)) (by first | omega | (simp; omega)) (wn12.heap.size + 1) (by simp) ?_; intro ga13 cb13 wb13 ob13 kb13 hb13 _; obtain ⟨cc13, fz13, ST13⟩ := FI13.out ga13 cb13 wb13 ob13 kb13 hb13; clear ob13 kb13 hb13 FI13 own13 lt13)
     clear cc13 fz13 ca13
     have HG2 : Hid (GK xs (left - (i + 1)) q12 (⟨n.leaf, (n.keys ++ [x9]), n.vals, (n.kids ++ [(m12 : Int)])⟩ : Nd)) := by
      rw [show left - (i + 1) = j by have := hj.out; omega, hq12.out, hm12.out, hq9.out, hx9.out, hq8.out, hm8.out]
      exact HG.out
     go_roundw
     case rel => exact ⟨i + 1, by omega, by go_num, hide ⟨_, _, _, _, _, ST13.out, HG2.out, hlf.out, by have := hj.out; simp; omega, by have := hj.out; simp; omega, by have := hj.out; simp; omega⟩⟩
     case measure => simp [intOf]; omega
    ·have hq : ¬ (i : Int) < (left : Int) := by omega
     have hG : Hid (nread xs = rfin (n, r)) := by
      rw [show left - i = 0 by omega] at hg
      rcases hg with ⟨_, h⟩ | ⟨h, _⟩
      ·exact h
      ·rw [hsh.out] at h; cases h
     clear hg
     have RES := hide S0.out.res
     have BEL := hide S0.out.rdr.bel
     obtain ⟨⟨Q0, Q1, Q2, Q3⟩, Rf⟩ := cells4 RES.out
     have Rf0 := Rf 0
     have Rf1 := Rf 1
     have Rf2 := Rf 2
     have Rf3 := Rf 3
     clear Rf
     obtain ⟨⟨N0, N1, N2, N3⟩, _⟩ := cells4 S0.out.box
     have C1 := (cells3p hrd.box).1.2.1
     have hrl : r.rest.length = rL - rat := by rw [hrd.rest, List.length_drop, hrd.len]
     have hrle := hrd.le
     have hlen := hrd.len
     by_cases hl : rat < rL
     ·have hq : (rat : Int) < (xs.length : Int) := by omega
      have e : Hid (DecR xs none9 23) := .inr ⟨by decide, rfl, ndec_no (by rw [hG.out]; unfold rfin; dsimp only; rw [hsh.out, if_neg (by decide), if_pos (by omega)]; decide)⟩
      replace hrl := hide hrl
      clear hrle
      replace hlen := hide hlen
      go_wp2
      refine retNT rfl rfl w.heap.size rfl _ _ (0, 0) (heap_set4 (u := wr) RES.out _ _ _ _) _ Tryz.underlying143 rfl info_ndR (.int .i64 23) rfl ?_
      exact ⟨none9, 23, nil9, nil9, nil9, rfl, e.out, OwnN.nil _ _ _, below_set4n BEL.out (Nat.le_refl _) _ _ _ _⟩
     ·have hq : ¬ (rat : Int) < (xs.length : Int) := by omega
      have e := hide (DecR.fin hG.out hsh.out (by omega))
      have fit : nfit n := by unfold nfit; omega
      have KC := hide (rcheck9_any wr _ _ _ n S0.out.own.rd fit)
      dsimp only [nv] at KC
      obtain ⟨Z, hZ⟩ : ∃ Z, Z = ncheck n := ⟨_, rfl⟩
      rw [← hZ] at KC e
      replace hZ := hide hZ
      replace hrl := hide hrl
      clear hrle fit hrd
      replace hlen := hide hlen
      go_wp2_with fail
      clear N0 N1 N2 N3 Q0 Q1 Q2 Q3 Rf0 Rf1 Rf2 Rf3 C1
      refine KC.out.mono ?_
      rintro e' we ⟨rfl, be⟩
      clear KC
      have RE := hide ((be.block _ (lt_of_block RES.out)).trans RES.out)
      have BE := hide (BEL.out.trans (be.mono BEL.out.size))
      have OE := hide (S0.out.own.to be)
      have hnb9 := hide S0.out.hnb
      have Q0 := (cells4 RE.out).1.1
      have Q1 := (cells4 RE.out).1.2.1
      have Q2 := (cells4 RE.out).1.2.2.1
      have Q3 := (cells4 RE.out).1.2.2.2
      have Rf0 := (cells4 RE.out).2 0
      have Rf1 := (cells4 RE.out).2 1
      have Rf2 := (cells4 RE.out).2 2
      have Rf3 := (cells4 RE.out).2 3
      have BO := hide ((be.block _ (lt_of_block S0.out.box)).trans S0.out.box)
      have N0 := (cells4 BO.out).1.1
      have N1 := (cells4 BO.out).1.2.1
      have N2 := (cells4 BO.out).1.2.2.1
      have N3 := (cells4 BO.out).1.2.2.2
      clear be
      by_cases hz : Z = 0
      ·subst hz
       rw [if_pos rfl] at e
       go_wp2
       refine retNT rfl rfl w.heap.size rfl _ _ (0, 0) (heap_set4 (u := we) RE.out _ _ _ _) _ Tryz.underlying143 rfl info_ndR (.int .i64 0) rfl ?_
       have hlt' : w.heap.size < nb + 1 := by have := hnb9.out; omega
       exact ⟨n, 0, _, _, _, rfl, e.out, ((((OE.out.set hlt' 0 _).set hlt' 1 _).set hlt' 2 _).set hlt' 3 _).mono (by omega), below_set4n BE.out (Nat.le_refl _) _ _ _ _⟩
      ·rw [if_neg hz] at e
       go_wp2
       refine retNT rfl rfl w.heap.size rfl _ _ (0, 0) (heap_set4 (u := we) RE.out _ _ _ _) _ Tryz.underlying143 rfl info_ndR (.int .i64 Z) rfl ?_
       exact ⟨none9, Z, nil9, nil9, nil9, rfl, e.out, OwnN.nil _ _ _, below_set4n BE.out (Nat.le_refl _) _ _ _ _⟩
end Go.Proofs.YtgmkknonnidgaaaGreat

namespace Go.Proofs.YtgmkknonnidgaaaGreat
open Go.RowKit
abbrev sv (lo : Str) (hi : Option Str) : Value := .agg #[st lo, st (hi.getD [])]
def HiOk (hi : Option Str) : Prop := hi ≠ some []
theorem kin_ok {hi : Option Str} (h : HiOk hi) (lo x : Str) : kin lo hi x = (!slt x lo && (hi.getD [] == [] || slt x (hi.getD []))) := by
 cases hi with
 | none => simp [kin]
 | some y =>
  have : y ≠ [] := fun e => h (by rw [e])
  cases y with
  | nil => exact absurd rfl this
  | cons a r => simp [kin]
set_option maxRecDepth 100000 in
set_option maxHeartbeats 2000000 in
theorem placks_any (w : World) (lo : Str) (hi : Option Str) (k : Str) (hh : HiOk hi) : Calls Tryz.prog 28 #[sv lo hi, st k] w fun e w' => e = .returned (.bool (!kin lo hi k)) ∧ Below w.heap.size w w' := by
 have hk := hide (kin_ok hh lo k)
 dsimp only [sv]
 obtain ⟨h, hhi⟩ : ∃ h, h = hi.getD [] := ⟨_, rfl⟩
 rw [← hhi] at hk ⊢
 clear hhi hh
 obtain ⟨R, hR⟩ : ∃ R, R = kin lo hi k := ⟨_, rfl⟩
 rw [← hR] at hk ⊢
 clear hR hi
 obtain ⟨W, hW, D, bW, sW⟩ := boxedN w #[st lo, st h] 72
 obtain ⟨⟨D0, D1⟩, _⟩ := cells2r D
 have HB := hide bW
 rw [hW] at D0 D1 HB
 clear D bW hW sW
 go_enter Tryz.func28, Tryz.ntmps28
 cases h1 : Op.bytesLess k lo with
 | true =>
  have hr : Hid (R = false) := by show _ = _; rw [hk.out, show slt k lo = true from h1]; rfl
  go_wp2
  go_ret
  rw [hr.out]
  exact ⟨rfl, HB.out⟩
 | false =>
  cases h with
  | nil =>
   have hr : Hid (R = true) := by show _ = _; rw [hk.out, show slt k lo = false from h1]; rfl
   go_wp2
   go_ret
   rw [hr.out]
   exact ⟨rfl, HB.out⟩
  | cons a r =>
   have hr : Hid (R = Op.bytesLess k (a :: r)) := by show _ = _; rw [hk.out, show slt k lo = false from h1]; rfl
   obtain ⟨h, hh⟩ : ∃ h, h = a :: r := ⟨_, rfl⟩
   rw [← hh] at hr D1 HB ⊢
   have hem : h.isEmpty = false := by rw [hh]; rfl
   have hem2 : (h == []) = false := by rw [hh]; rfl
   have hem3 : ¬ h = [] := by rw [hh]; simp
   replace hh := hide hh
   go_wp2
   go_ret
   rw [hr.out]
   exact ⟨rfl, HB.out⟩
def SpI (w wx : World) (x y : Value) : Prop := wx.heap[w.heap.size]? = some (.cells #[x, y] 72 (0, 0)) ∧ wx.heap[w.heap.size + 1]? = some (.cells #[st [], st []] 72 (0, 0)) ∧ Below w.heap.size w wx
theorem SpI.put0 {w wx : World} {x y : Value} (h : SpI w wx x y) (z : Value) : SpI w (wx.setCell ⟨w.heap.size, 0, none⟩ z) z y :=
 ⟨(heap_set2r h.1 z).1, (Below.heap_setCell _ _ _ _ (show w.heap.size + 1 ≠ w.heap.size by omega)).trans h.2.1, h.2.2.setCell (Nat.le_refl _) _⟩
theorem SpI.put1 {w wx : World} {x y : Value} (h : SpI w wx x y) (z : Value) : SpI w (wx.setCell ⟨w.heap.size, 1, none⟩ z) x z :=
 ⟨(heap_set2r h.1 z).2, (Below.heap_setCell _ _ _ _ (show w.heap.size + 1 ≠ w.heap.size by omega)).trans h.2.1, h.2.2.setCell (Nat.le_refl _) _⟩
theorem info_sp : (Tryz.prog.info? 72).map (·.size) = some 2 := by kernel_rfl
set_option maxRecDepth 100000 in
set_option maxHeartbeats 2000000 in
theorem pofkid_any (w : World) (lo : Str) (hi : Option Str) (kv : Value) (nd : Nd) (i : Nat) (h : RdT w kv nd.keys) (hi9 : i ≤ nd.keys.length) : Calls Tryz.prog 59 #[sv lo hi, kv, .int .i64 i] w fun e w' =>
  e = .returned (sv (kidLo nd lo i) (kidHi nd hi i)) ∧ Below w.heap.size w w' := by
 obtain ⟨a, c, rfl⟩ := h.slice
 have lb := h.bd
 obtain ⟨K, hK⟩ : ∃ K, K = nd.keys.length := ⟨_, rfl⟩
 dsimp only [sv]
 obtain ⟨hs, hhs⟩ : ∃ x, x = hi.getD [] := ⟨_, rfl⟩
 rw [← hhs]
 rw [← hK] at h lb hi9 ⊢
 replace hK := hide hK
 replace hhs := hide hhs
 obtain ⟨W, hW, D, bW, sW⟩ := boxedN w #[st lo, st hs] 72
 obtain ⟨X, hX, DX, bX, sX⟩ := boxedN W #[st [], st []] 72
 have HH := hide (h.to0 (bW.trans (bX.mono bW.size)))
 have HB := hide (bW.trans (bX.mono bW.size))
 have D' := (bX.block _ (lt_of_block D)).trans D
 obtain ⟨⟨D0, D1⟩, DF⟩ := cells2r D'
 obtain ⟨⟨X0, X1⟩, XF⟩ := cells2r DX
 rw [sW] at DX X0 X1 XF
 have BX := hide (And.intro D' DX)
 have H9 : Hid (∀ w9, Below w.heap.size w w9 → RdT w9 (.slice a K c) nd.keys) := fun w9 b => h.to0 b
 have HHb : Hid (∀ {y : Str} {j b4 off4 : Nat}, nd.keys[j]? = some y → a = some ⟨b4, off4, none⟩ → b4 < w.heap.size) := fun {y j b4 off4} hy e => by
  obtain ⟨b', off', e', hc⟩ := h.strAt hy
  rw [e] at e'
  simp only [Option.some.injEq, Addr.mk.injEq, and_true] at e'
  obtain ⟨rfl, rfl⟩ := e'
  exact cell_lt hc
 clear h D bW bX D' DX
 go_enter Tryz.func59, Tryz.ntmps59
 go_upto_if 8 with fail
 rw [← hW, ← hX]
 replace hW := hide hW
 replace hX := hide hX
 replace sW := hide sW
 replace sX := hide sX
 go_cut [] from 8 to 14 (fun wx => Hid (SpI w wx (st (kidLo nd lo i)) (st hs) ∧ RdT wx (.slice a K c) nd.keys))
 case first =>
  by_cases h0 : i = 0
  ·have hq2 : ¬ (0 : Int) < (i : Int) := by omega
   have hl : Hid (kidLo nd lo i = lo) := by show _ = _; rw [kidLo, if_pos h0]
   replace h0 := hide h0
   go_wp2_with fail
   go_meet
   case rel => exact ⟨⟨by rw [hl.out]; exact BX.out.1, BX.out.2, HB.out⟩, HH.out⟩
  ·have hq2 : (0 : Int) < (i : Int) := by omega
   obtain ⟨j, hj⟩ : ∃ j, i = j + 1 := ⟨i - 1, by omega⟩
   obtain ⟨y, hy⟩ := some_el nd.keys (k := j) (by rw [← hK.out]; omega)
   have hl : Hid (kidLo nd lo i = y) := by show _ = _; rw [kidLo, if_neg h0, hj, Nat.add_sub_cancel, List.getD_eq_getElem?_getD, hy]; rfl
   obtain ⟨b4, off4, rfl, hc4⟩ := HH.out.strAt hy
   have hj1 : (i : Int) - 1 = (j : Int) := by omega
   have hj2 : IntKind.i64.wrap (j : Int) = (j : Int) := IntWalk.i64_in _ (by omega)
   have hj3 : (j : Int) < (K : Int) := by omega
   have hb4 : b4 < w.heap.size := HHb.out hy rfl
   have FF : Hid (SpI w (X.setCell ⟨w.heap.size, 0, none⟩ (st y)) (st y) (st hs) ∧ RdT (X.setCell ⟨w.heap.size, 0, none⟩ (st y)) (.slice (some ⟨b4, off4, none⟩) K c) nd.keys) := ⟨SpI.put0 ⟨BX.out.1, BX.out.2, HB.out⟩ _, H9.out _ (HB.out.setCell (Nat.le_refl _) _)⟩
   replace h0 := hide h0
   replace hj := hide hj
   replace hy := hide hy
   go_wp2_with fail
   go_meet
   case rel => rw [hl.out]; exact FF
 case rest =>
  clear HB HH BX D0 D1 DF X0 X1 XF
  obtain ⟨⟨D0, D1⟩, DF⟩ := cells2r hcut.out.1.1
  obtain ⟨⟨X0, X1⟩, XF⟩ := cells2r hcut.out.1.2.1
  go_upto_if 18 with fail
  go_cut [] from 18 to 23 (fun wx => Hid (SpI w wx (st (kidLo nd lo i)) (st ((kidHi nd hi i).getD []))))
  case first =>
   by_cases h0 : i < K
   ·have hq2 : (i : Int) < (K : Int) := by omega
    obtain ⟨y, hy⟩ := some_el nd.keys (k := i) (by rw [← hK.out]; omega)
    have hl : Hid (kidHi nd hi i = some y) := by show _ = _; rw [kidHi, if_pos (by rw [← hK.out]; exact h0), List.getD_eq_getElem?_getD, hy]; rfl
    obtain ⟨b4, off4, rfl, hc4⟩ := hcut.out.2.strAt hy
    have FF : Hid (SpI w (wc.setCell ⟨w.heap.size, 1, none⟩ (st y)) (st (kidLo nd lo i)) (st y)) := SpI.put1 hcut.out.1 _
    replace hy := hide hy
    go_wp2_with fail
    go_meet
    case rel => rw [hl.out]; exact FF
   ·have hq2 : ¬ (i : Int) < (K : Int) := by omega
    have hl : Hid (kidHi nd hi i = hi) := by show _ = _; rw [kidHi, if_neg (by rw [← hK.out]; exact h0)]
    go_wp2_with fail
    go_meet
    case rel => rw [hl.out, ← hhs.out]; exact hcut.out.1
  case rest =>
   clear D0 D1 DF X0 X1 XF
   obtain ⟨⟨D0, D1⟩, DF⟩ := cells2r hcut.out.1
   obtain ⟨⟨X0, X1⟩, XF⟩ := cells2r hcut.out.2.1
   go_wp2
   refine retN rfl rfl (w.heap.size + 1) rfl _ _ _ (heap_set2 hcut.out.2.1 _ _) _ Tryz.underlying72 rfl info_sp ?_
   exact ⟨rfl, below_set2 hcut.out.2.2 (show w.heap.size ≤ w.heap.size + 1 by omega) _ _⟩
theorem BoolR.no' {p : Prop} {w w' : World} {b : Bool} (hb : b = false) (h : ¬ p) (k : Below w.heap.size w w') : BoolR p w w' (.returned (.bool b)) := by subst hb; exact BoolR.no h k
theorem BoolR.yes' {p : Prop} {w w' : World} {b : Bool} (hb : b = true) (h : p) (k : Below w.heap.size w w') : BoolR p w w' (.returned (.bool b)) := by subst hb; exact BoolR.yes h k
def Outs (lo : Str) (hi : Option Str) (l : List Str) : Prop := l.all (kin lo hi) = false
def IdxR (p : Prop) (w w' : World) (e : Ending) : Prop := ∃ k : Int, e = .returned (.int .i64 k) ∧ ((0 ≤ k ∧ p) ∨ (k < 0 ∧ ¬ p)) ∧ Below w.heap.size w w'
set_option maxRecDepth 100000 in
set_option maxHeartbeats 2000000 in
theorem pidx_any (w : World) (lo : Str) (hi : Option Str) (hh : HiOk hi) (kv : Value) (l : List Str) (h : RdT w kv l) : Calls Tryz.prog 77 #[kv, .func (.func 28) #[sv lo hi] #[]] w fun e w' =>
  IdxR (Outs lo hi l) w w' e := by
 obtain ⟨a, c, rfl⟩ := h.slice
 have lb := h.bd
 obtain ⟨K, hK⟩ : ∃ K, K = l.length := ⟨_, rfl⟩
 rw [← hK] at h lb ⊢
 replace hK := hide hK
 have HH := hide h
 have KL := hide (fun w k => placks_any w lo hi k hh)
 dsimp only [sv] at KL ⊢
 generalize hi.getD [] = hs at *
 clear h hh
 go_enter Tryz.func77, Tryz.ntmps77
 go_wp2
 go_loopw [8] (fun p wr => ∃ i : Nat, i ≤ K ∧ p = .int .i64 i ∧ Hid (Below w.heap.size w wr ∧ ∀ j k, j < i → l[j]? = some k → kin lo hi k = true)) (fun p _ => K - (intOf p).toNat)
 case atStart => exact ⟨0, Nat.zero_le _, rfl, hide ⟨Below.refl _ _, fun j k h => by omega⟩⟩
 case round =>
  obtain ⟨i, hi9, rfl, hI⟩ := hrel
  by_cases hlt : i < K
  ·have hq : (i : Int) < (K : Int) := by omega
   obtain ⟨y, hy⟩ := some_el l (k := i) (by rw [← hK.out]; exact hlt)
   obtain ⟨b, off, rfl, hc⟩ := (HH.out.to0 hI.out.1).strAt hy
   replace hy := hide hy
   go_wp2_with fail
   refine (KL.out _ _).mono ?_
   rintro e w1 ⟨rfl, b1⟩
   have HE := hide (hI.out.1.trans (b1.mono hI.out.1.size))
   clear b1
   cases hkv : kin lo hi y with
   | false =>
    have hz : Hid (Outs lo hi l) := by
     show _ = _
     rw [List.all_eq_false]
     exact ⟨y, List.mem_of_getElem? hy.out, by simp [hkv]⟩
    replace hkv := hide hkv
    go_wp2
    go_ret
    exact ⟨_, rfl, .inl ⟨by omega, hz.out⟩, HE.out⟩
   | true =>
    have hI' : Hid (Below w.heap.size w w1 ∧ ∀ j k, j < i + 1 → l[j]? = some k → kin lo hi k = true) := ⟨HE.out, fun j k hj hk => by
     by_cases e : j = i
     ·subst e
      rw [hy.out] at hk
      simp only [Option.some.injEq] at hk
      subst hk; exact hkv
     ·exact hI.out.2 j k (by omega) hk⟩
    replace hkv := hide hkv
    go_wp2
    go_roundw
    case rel => exact ⟨i + 1, by omega, by go_num, hI'⟩
    case measure => simp [intOf]; omega
  ·have hq : ¬ (i : Int) < (K : Int) := by omega
   have hz : Hid (¬ Outs lo hi l) := fun h => by
    unfold Outs at h
    rw [all_kin fun j k hk => hI.out.2 j k (by have := (List.getElem?_eq_some_iff.1 hk).1; rw [← hK.out] at this; omega) hk] at h
    cases h
   go_wp2
   go_ret
   exact ⟨_, rfl, .inr ⟨by decide, hz.out⟩, hI.out.1⟩
set_option maxRecDepth 100000 in
set_option maxHeartbeats 2000000 in
theorem pcont_any (w : World) (lo : Str) (hi : Option Str) (hh : HiOk hi) (kv : Value) (l : List Str) (h : RdT w kv l) : Calls Tryz.prog 57 #[kv, .func (.func 28) #[sv lo hi] #[]] w fun e w' =>
  BoolR (Outs lo hi l) w w' e := by
 have KI := hide (pidx_any w lo hi hh kv l h)
 go_enter Tryz.func57, Tryz.ntmps57
 go_wp2_with fail
 refine KI.out.mono ?_
 rintro e w1 ⟨k, rfl, hp, b1⟩
 rcases hp with ⟨h0, hp⟩ | ⟨h0, hp⟩
 ·have HP := hide hp
  have h1 : decide (0 ≤ k) = true := decide_eq_true h0
  clear hp
  go_wp2
  go_ret
  exact BoolR.yes' rfl HP.out b1
 ·have HP := hide hp
  have h1 : decide (0 ≤ k) = false := decide_eq_false (by omega)
  clear hp
  go_wp2
  go_ret
  exact BoolR.no' rfl HP.out b1
end Go.Proofs.YtgmkknonnidgaaaGreat

namespace Go.Proofs.YtgmkknonnidgaaaGreat
open Go.RowKit
def KpM (g m : Nat) (w U : World) : Prop := (∀ b, b < w.heap.size → b ≠ g → b ≠ m → U.heap[b]? = w.heap[b]?) ∧ w.heap.size ≤ U.heap.size ∧ ∀ B, B ≤ g → B ≤ m → B ≤ w.heap.size → Below B w U
theorem KpM.of {g m : Nat} {w U : World} (h : Below w.heap.size w U) : KpM g m w U := ⟨fun b hb _ _ => h.block b hb, h.size, fun B _ _ hB => h.mono hB⟩
theorem KpM.refl (g m : Nat) (w : World) : KpM g m w w := KpM.of (Below.refl _ _)
theorem KpM.trans {g m : Nat} {w U V : World} (h : KpM g m w U) (k : KpM g m U V) : KpM g m w V :=
 ⟨fun b hb h1 h2 => (k.1 b (Nat.lt_of_lt_of_le hb h.2.1) h1 h2).trans (h.1 b hb h1 h2), Nat.le_trans h.2.1 k.2.1, fun B h1 h2 h3 => (h.2.2 B h1 h2 h3).trans (k.2.2 B h1 h2 (Nat.le_trans h3 h.2.1))⟩
theorem KpM.set {g m : Nat} {w U : World} (h : KpM g m w U) (i : Nat) (v : Value) : KpM g m w (U.setCell ⟨g, i, none⟩ v) :=
 ⟨fun b hb h1 h2 => (Below.heap_setCell _ _ _ _ h1).trans (h.1 b hb h1 h2), by simpa using h.2.1, fun B h1 h2 h3 => (h.2.2 B h1 h2 h3).setCell h1 _⟩
theorem KpM.map {g m : Nat} {w U V : World} (h : KpM g m w U) (k : U.grownBy V (some m)) : KpM g m w V :=
 ⟨fun b hb h1 h2 => (k.block b (Nat.lt_of_lt_of_le hb h.2.1) (fun e => h2 (by simpa using e))).trans (h.1 b hb h1 h2), Nat.le_trans h.2.1 k.size, fun B h1 h2 h3 => (h.2.2 B h1 h2 h3).grown k (Nat.le_trans h3 h.2.1) (fun j hj => by simp only [Option.some.injEq] at hj; omega)⟩
theorem KpM.row {g m : Nat} {w U : World} (h : KpM g m w U) {B T n : Nat} {v : Value} {k : Nat} {cc : List Value} (ho : w.ownsRow B T n v k cc) (hg : g < B) (hm : m < B) : U.ownsRow B T n v k cc := by
 refine ⟨ho.1, ?_⟩
 rcases ho.2 with hn | ⟨b, cap, cur, hv, hgb, hb, r⟩
 ·exact .inl hn
 ·exact .inr ⟨b, cap, cur, hv, hgb, (h.1 b (lt_of_block hb) (by omega) (by omega)).trans hb, r⟩
theorem KpM.node {g m : Nat} {w U : World} (h : KpM g m w U) {B : Nat} {kv vv dv : Value} {nd : Nd} (ho : OwnN B w kv vv dv nd) (hg : g < B) (hm : m < B) : OwnN B U kv vv dv nd := ⟨h.row ho.keys hg hm, h.row ho.vals hg hm, h.row ho.kids hg hm⟩
def NdOf (l : List Wrt) (B : Nat) (w : World) (i : Int) (v : Value) : Prop := ∃ x nd kv vv dv, tpage l i = some x ∧ ndec x = (nd, 0) ∧ v = nv nd kv vv dv ∧ OwnN B w kv vv dv nd ∧ Dj kv vv dv
def RowOf (v : Value) (b : Nat) : Prop := ∃ x y z u, v = .agg #[x, y, z, u] ∧ (y.ownBlock = some b ∨ z.ownBlock = some b ∨ u.ownBlock = some b)
theorem row_nv {nd : Nd} {kv vv dv : Value} {b : Nat} (h : RowOf (nv nd kv vv dv) b) : kv.ownBlock = some b ∨ vv.ownBlock = some b ∨ dv.ownBlock = some b := by
 obtain ⟨x, y, z, u, e, h⟩ := h
 simp only [nv, Value.agg.injEq, Array.mk.injEq, List.cons.injEq, and_true] at e
 obtain ⟨_, rfl, rfl, rfl⟩ := e
 exact h
theorem OwnN.row {B : Nat} {w : World} {kv vv dv : Value} {nd : Nd} (o : OwnN B w kv vv dv nd) {b : Nat} (h : RowOf (nv nd kv vv dv) b) : B ≤ b ∧ b < w.heap.size := by
 rcases row_nv h with h | h | h
 ·exact World.ownsRow.lt o.keys b h
 ·exact World.ownsRow.lt o.vals b h
 ·exact World.ownsRow.lt o.kids b h
theorem rows_new {l : List Wrt} {B : Nat} {w w' : World} {m : Int → Option Value} (h : ∀ i v, m i = some v → NdOf l B w i v) {nd : Nd} {kv vv dv : Value} (o : OwnN w.heap.size w' kv vv dv nd) : ∀ i u, m i = some u → ∀ b, RowOf (nv nd kv vv dv) b → ¬ RowOf u b := fun i u hu b hb hc => by
 obtain ⟨x, nd', kv', vv', dv', _, _, rfl, o', _⟩ := h i u hu
 have h1 := (o.row hb).1
 have h2 := (o'.row hc).2
 omega
abbrev pcl6 (t : Tr) (pv : Value) (bm : Nat) (s : Sw) : Array Value := #[.int .i64 t.root, .int .i64 t.next, pv, .map (some bm), .int .i64 s.prs.length, .int .i64 (sdep s)]
structure PWk (w0 w : World) (B g bm : Nat) (t : Tr) (pv : Value) (s : Sw) (m : Int → Option Value) : Prop where
 box : w.heap[g]? = some (.cells (pcl6 t pv bm s) 88 (0, 0))
 map : MapI w bm s.seen.length m
 has : ∀ i, (m i).isSome = decide (i ∈ s.seen)
 nds : ∀ i v, m i = some v → NdOf t.pages B w i v
 pg : RdC w0 pv t.pages
 ok : SwOk t.next s
 dep : s.dep = none ↔ s.prs = []
 bel : Below w0.heap.size w0 w
 hg : w0.heap.size ≤ g ∧ g < B
 hm : w0.heap.size ≤ bm ∧ bm < B
 apt : ∀ i j v u, m i = some v → m j = some u → i ≠ j → ∀ b, RowOf v b → ¬ RowOf u b
theorem PWk.to {w0 w w' : World} {B g bm : Nat} {t : Tr} {pv : Value} {s : Sw} {m : Int → Option Value} (h : PWk w0 w B g bm t pv s m) (hb : Below w.heap.size w w') : PWk w0 w' B g bm t pv s m := by
 refine ⟨(hb.block _ (lt_of_block h.box)).trans h.box, h.map.kept (hb.block _ h.map.lt), h.has, fun i v hv => ?_, h.pg, h.ok, h.dep, h.bel.trans (hb.mono h.bel.size), h.hg, h.hm, h.apt⟩
 obtain ⟨x, nd, kv, vv, dv, h1, h2, h3, h4, h5⟩ := h.nds i v hv
 exact ⟨x, nd, kv, vv, dv, h1, h2, h3, h4.to hb, h5⟩
theorem PWk.cell {w0 w : World} {B g bm : Nat} {t : Tr} {pv : Value} {s : Sw} {m : Int → Option Value} (h : PWk w0 w B g bm t pv s m) :
  (w.cell? ⟨g, 0, none⟩ = some (.int .i64 t.root) ∧ w.cell? ⟨g, 1, none⟩ = some (.int .i64 t.next) ∧ w.cell? ⟨g, 2, none⟩ = some pv ∧ w.cell? ⟨g, 3, none⟩ = some (.map (some bm))) ∧
  (w.cell? ⟨g, 4, none⟩ = some (.int .i64 s.prs.length) ∧ w.cell? ⟨g, 5, none⟩ = some (.int .i64 (sdep s))) ∧ ∀ i, w.frozen? ⟨g, i, none⟩ = false :=
 ⟨⟨cellN h.box rfl, cellN h.box rfl, cellN h.box rfl, cellN h.box rfl⟩, ⟨cellN h.box rfl, cellN h.box rfl⟩, frozN h.box⟩
theorem NdOf.keep {l : List Wrt} {B g bm : Nat} {w U : World} {i : Int} {v : Value} (h : NdOf l B w i v) (k : KpM g bm w U) (hg : g < B) (hm : bm < B) : NdOf l B U i v := by
 obtain ⟨x, nd, kv, vv, dv, h1, h2, h3, h4, h5⟩ := h
 exact ⟨x, nd, kv, vv, dv, h1, h2, h3, k.node h4 hg hm, h5⟩
theorem PWk.see {w0 w w5 : World} {B g bm : Nat} {t : Tr} {pv : Value} {s : Sw} {m : Int → Option Value} (h : PWk w0 w B g bm t pv s m) {id : Int} {v : Value} (hgr : w.grownBy w5 (some bm)) (hmap : MapI w5 bm (s.seen.length + 1) (fun j => if j = id then some v else m j))
  (hi : 1 ≤ id ∧ id < t.next) (hn : id ∉ s.seen) (hnd : NdOf t.pages B w id v) (hfr : ∀ i u, m i = some u → ∀ b, RowOf v b → ¬ RowOf u b) : PWk w0 w5 B g bm t pv ⟨id :: s.seen, s.dep, s.prs⟩ (fun j => if j = id then some v else m j) ∧ KpM g bm w w5 := by
 have k : KpM g bm w w5 := (KpM.refl g bm w).map hgr
 have hne := h.map.ne h.box
 refine ⟨⟨(hgr.block g (lt_of_block h.box) (fun e => hne (by simpa using e.symm))).trans h.box, hmap, fun i => ?_, fun i u hu => ?_, h.pg, ?_, h.dep, h.bel.trans (k.2.2 _ h.hg.1 h.hm.1 h.bel.size), h.hg, h.hm, ?_⟩, k⟩
 ·dsimp only
  by_cases e : i = id
  ·subst e; simp
  ·rw [if_neg e, h.has]; simp [e]
 ·by_cases e : i = id
  ·subst e
   rw [if_pos rfl] at hu
   simp only [Option.some.injEq] at hu
   subst hu
   exact hnd.keep k h.hg.2 h.hm.2
  ·rw [if_neg e] at hu
   exact (h.nds i u hu).keep k h.hg.2 h.hm.2
 ·have := h.ok.see hi hn s.dep (l := []) (by simp)
  simpa using this
 ·intro i j v1 u1 hv1 hu1 hij b hb1 hb2
  by_cases e1 : i = id
  ·rw [if_pos e1] at hv1
   rw [if_neg (fun e => hij (e1.trans e.symm))] at hu1
   cases hv1
   exact hfr j u1 hu1 b hb1 hb2
  ·rw [if_neg e1] at hv1
   by_cases e2 : j = id
   ·rw [if_pos e2] at hu1
    cases hu1
    exact hfr i v1 hv1 b hb2 hb1
   ·rw [if_neg e2] at hu1
    exact h.apt i j v1 u1 hv1 hu1 hij b hb1 hb2
theorem PWk.leaf {w0 w w6 : World} {B g bm : Nat} {t : Tr} {pv : Value} {s : Sw} {m : Int → Option Value} (h : PWk w0 w B g bm t pv s m) {f : Nat} {l : List Pr} (kg : KpG g w w6)
  (hb : w6.heap[g]? = some (.cells #[.int .i64 t.root, .int .i64 t.next, pv, .map (some bm), .int .i64 ((s.prs.length + l.length : Nat) : Int), .int .i64 (16 - (f : Int))] 88 (0, 0))) (hl : l ≠ []) (ok : SwOk t.next ⟨s.seen, some f, s.prs ++ l⟩) :
  PWk w0 w6 B g bm t pv ⟨s.seen, some f, s.prs ++ l⟩ m := by
 have k : KpM g bm w w6 := ⟨fun b h1 h2 _ => kg.1 b h1 h2, kg.2.1, fun C h1 _ h3 => kg.2.2 C h1 h3⟩
 have hne := h.map.ne h.box
 refine ⟨?_, h.map.kept (kg.1 bm h.map.lt hne), h.has, fun i u hu => (h.nds i u hu).keep k h.hg.2 h.hm.2, h.pg, ok, ?_, h.bel.trans (k.2.2 _ h.hg.1 h.hm.1 h.bel.size), h.hg, h.hm, h.apt⟩
 ·rw [hb]; simp [pcl6, sdep]
 ·simp [hl]
theorem zeroNd (w : World) : (zeroValue 76).run Tryz.prog w = .ok (.agg #[.bool false, .slice none 0 0, .slice none 0 0, .slice none 0 0]) w := by kernel_rfl
def CntR (w w' : World) (g : Nat) (c0 c1 c2 c3 : Value) (L n : Nat) (D d : Int) (e : Ending) : Prop := ∃ R : Bool, e = .returned (.bool R) ∧ KpG g w w' ∧
 w'.heap[g]? = some (.cells #[c0, c1, c2, c3, .int .i64 ((L + n : Nat) : Int), .int .i64 (if L = 0 then d else D)] 88 (0, 0)) ∧ (R = true ↔ (0 < n ∧ d = (if L = 0 then d else D) ∧ L + n ≤ 4096))
theorem CntR.no {w w' : World} {g : Nat} {c0 c1 c2 c3 : Value} {L n : Nat} {D d : Int} (h1 : KpG g w w') (h2 : w'.heap[g]? = some (.cells #[c0, c1, c2, c3, .int .i64 ((L + n : Nat) : Int), .int .i64 (if L = 0 then d else D)] 88 (0, 0))) (h3 : ¬ (0 < n ∧ d = (if L = 0 then d else D) ∧ L + n ≤ 4096)) {b : Bool} (hb : b = false) : CntR w w' g c0 c1 c2 c3 L n D d (.returned (.bool b)) := ⟨false, by rw [hb], h1, h2, ⟨fun h => (by cases h), fun h => absurd h h3⟩⟩
theorem CntR.yes {w w' : World} {g : Nat} {c0 c1 c2 c3 : Value} {L n : Nat} {D d : Int} (h1 : KpG g w w') (h2 : w'.heap[g]? = some (.cells #[c0, c1, c2, c3, .int .i64 ((L + n : Nat) : Int), .int .i64 (if L = 0 then d else D)] 88 (0, 0))) (h3 : (0 < n ∧ d = (if L = 0 then d else D) ∧ L + n ≤ 4096)) {b : Bool} (hb : b = true) : CntR w w' g c0 c1 c2 c3 L n D d (.returned (.bool b)) := ⟨true, by rw [hb], h1, h2, ⟨fun _ => h3, fun _ => rfl⟩⟩
set_option maxRecDepth 100000 in
set_option maxHeartbeats 2000000 in
theorem pcount_any (w : World) (g : Nat) (c0 c1 c2 c3 : Value) (L n : Nat) (D d : Int) (h : w.heap[g]? = some (.cells #[c0, c1, c2, c3, .int .i64 (L : Int), .int .i64 D] 88 (0, 0))) (hL : L ≤ 100000000) (hn : n ≤ 1000) :
  Calls Tryz.prog 58 #[.pointer (some ⟨g, 0, none⟩), .int .i64 (n : Int), .int .i64 d] w fun e w' => CntR w w' g c0 c1 c2 c3 L n D d e := by
 obtain ⟨E, hE⟩ : ∃ E : Int, E = if L = 0 then d else D := ⟨_, rfl⟩
 obtain ⟨S, hS⟩ : ∃ S : Nat, (L : Int) + (n : Int) = (S : Int) := ⟨L + n, by omega⟩
 have hS2 : IntKind.i64.wrap (S : Int) = (S : Int) := IntWalk.i64_in _ (by omega)
 have C4 : w.cell? ⟨g, 4, none⟩ = some (.int .i64 (L : Int)) := cellN h rfl
 have C5 : w.cell? ⟨g, 5, none⟩ = some (.int .i64 D) := cellN h rfl
 have CF := frozN h
 have HH := hide h
 clear h
 go_enter Tryz.func58, Tryz.ntmps58
 go_upto_if 11 with fail
 go_cut [] from 11 to 15 (fun wx => Hid (KpG g w wx ∧ wx.heap[g]? = some (.cells #[c0, c1, c2, c3, .int .i64 (L : Int), .int .i64 E] 88 (0, 0))))
 case first =>
  by_cases h0 : L = 0
  ·have hq : ((L : Int) == 0) = true := by simp [h0]
   have FF : Hid (KpG g w (w.setCell ⟨g, 5, none⟩ (.int .i64 d)) ∧ (w.setCell ⟨g, 5, none⟩ (.int .i64 d)).heap[g]? = some (.cells #[c0, c1, c2, c3, .int .i64 (L : Int), .int .i64 E] 88 (0, 0))) := by
    refine ⟨(KpG.refl g w).set 5 _, ?_⟩
    rw [hE, if_pos h0]
    have := heap_setN HH.out 5 (.int .i64 d)
    simpa using this
   replace h0 := hide h0
   go_wp2_with fail
   go_meet
   case rel => exact FF
  ·have hq : ((L : Int) == 0) = false := by simp [h0]
   have FF : Hid (KpG g w w ∧ w.heap[g]? = some (.cells #[c0, c1, c2, c3, .int .i64 (L : Int), .int .i64 E] 88 (0, 0))) := by
    refine ⟨KpG.refl g w, ?_⟩
    rw [hE, if_neg h0]
    exact HH.out
   replace h0 := hide h0
   go_wp2_with fail
   go_meet
   case rel => exact FF
 case rest =>
  clear C4 C5 CF HH
  have C4 : wc.cell? ⟨g, 4, none⟩ = some (.int .i64 (L : Int)) := cellN hcut.out.2 rfl
  have C5 : wc.cell? ⟨g, 5, none⟩ = some (.int .i64 E) := cellN hcut.out.2 rfl
  have CF := frozN hcut.out.2
  obtain ⟨X, hX⟩ : ∃ X, X = wc.setCell ⟨g, 4, none⟩ (.int .i64 (S : Int)) := ⟨_, rfl⟩
  have HX : Hid (KpG g w X ∧ X.heap[g]? = some (.cells #[c0, c1, c2, c3, .int .i64 ((L + n : Nat) : Int), .int .i64 (if L = 0 then d else D)] 88 (0, 0))) := by
   rw [hX]
   refine ⟨hcut.out.1.set 4 _, ?_⟩
   have := heap_setN hcut.out.2 4 (.int .i64 (S : Int))
   rw [← hE, show ((L + n : Nat) : Int) = (S : Int) from by omega]
   simpa using this
  have X4 : X.cell? ⟨g, 4, none⟩ = some (.int .i64 (S : Int)) := by rw [show (S : Int) = ((L + n : Nat) : Int) from by omega]; exact cellN HX.out.2 rfl
  have X5 : X.cell? ⟨g, 5, none⟩ = some (.int .i64 E) := by rw [hE]; exact cellN HX.out.2 rfl
  replace hE := hide hE
  go_upto_region 4 with fail
  rw [← hX]
  clear hX C4 C5 CF
  by_cases c1 : (n : Int) > 0
  ·by_cases c2 : d = E
   ·have hq : (d == E) = true := by simp [c2]
    by_cases c4 : (S : Int) ≤ 4096
    ·have hz : Hid (0 < n ∧ d = (if L = 0 then d else D) ∧ L + n ≤ 4096) := ⟨by omega, by rw [← hE.out]; exact c2, by omega⟩
     replace c2 := hide c2
     go_wp2
     go_ret
     exact CntR.yes HX.out.1 HX.out.2 hz.out (by first | rfl | simp [c4] | (simp; omega))
    ·have hz : Hid (¬ (0 < n ∧ d = (if L = 0 then d else D) ∧ L + n ≤ 4096)) := fun h => by have := h.2.2; omega
     replace c2 := hide c2
     go_wp2
     go_ret
     exact CntR.no HX.out.1 HX.out.2 hz.out (by first | rfl | simp [c4] | (simp; omega))
   ·have hq : (d == E) = false := by simp [c2]
    have hz : Hid (¬ (0 < n ∧ d = (if L = 0 then d else D) ∧ L + n ≤ 4096)) := fun h => by have := h.2.1; rw [← hE.out] at this; exact c2 this
    replace c2 := hide c2
    go_wp2
    go_ret
    exact CntR.no HX.out.1 HX.out.2 hz.out (by first | rfl | simp)
  ·have hz : Hid (¬ (0 < n ∧ d = (if L = 0 then d else D) ∧ L + n ≤ 4096)) := fun h => by have := h.1; omega
   go_wp2
   go_ret
   exact CntR.no HX.out.1 HX.out.2 hz.out (by first | rfl | simp)
end Go.Proofs.YtgmkknonnidgaaaGreat

namespace Go.Proofs.YtgmkknonnidgaaaGreat
open Go.RowKit
theorem tpage_in : ∀ {l : List Wrt} {id : Int} {x : List UInt8}, tpage l id = some x → ∃ (i : Nat) (y : Wrt), l[i]? = some y ∧ y.1 = id ∧ y.2 = x
 | [], _, _, h => by cases h
 | y :: r, id, x, h => by
  unfold tpage at h
  split at h
  ·rename_i e
   exact ⟨0, y, rfl, e, by simpa using h⟩
  ·obtain ⟨i, z, h1, h2⟩ := tpage_in h
   exact ⟨i + 1, z, by simpa using h1, h2⟩
theorem tpage_bd {next : Int} {l : List Wrt} (hu : tups next l l.length) {id : Int} {x : List UInt8} (h : tpage l id = some x) : 1 ≤ id ∧ id < next := by
 obtain ⟨i, y, h1, rfl, _⟩ := tpage_in h
 have hi := (List.getElem?_eq_some_iff.1 h1).1
 have h2 := (hu i hi).2
 have h3 := tups_ge hu i hi
 rw [tid_at h1] at h2 h3
 omega
theorem cellAl {w : World} {b i : Nat} {v : Value} (h : w.cell? ⟨b, i, none⟩ = some v) (o : Obj) : (w.alloc o).cell? ⟨b, i, none⟩ = some v :=
 (((Below.refl w.heap.size w).alloc (Nat.le_refl _) o).cell (p := ⟨b, i, none⟩) (cell_lt h)).trans h
set_option maxRecDepth 100000 in
set_option maxHeartbeats 2000000 in
theorem rgo_any (w0 : World) (t : Tr) (pv : Value) (g bs n : Nat) (hn : (n : Int) = t.next + 1) (hN : 1 ≤ t.next ∧ t.next ≤ 65536) (hU : tups t.next t.pages t.pages.length) :
  ∀ (f : Nat), f ≤ 16 → ∀ (w : World) (prv : Value) (s : Sw) (bad : Bool) (id : Int) (lo : Str) (hi : Option Str), RWk w0 w g bs n t pv prv s bad →
  Calls Tryz.prog 61 #[.pointer (some ⟨g, 0, none⟩), .int .i64 id, .int .i64 (17 - (f : Int)), st lo, st (hi.getD []), .bool hi.isSome] w fun e w' =>
   e = .returned (.tuple #[]) ∧ WkRes w0 w w' g bs n t pv (wk t.pages f id lo hi s) bad := by
 intro f
 induction f with
 | zero =>
  intro hf w prv s bad id lo hi H
  obtain ⟨root, next, ps⟩ := t
  obtain ⟨a, c, rfl⟩ := H.pg.slice
  have lp : ps.length ≤ 65536 := by have := tups_len hU hN.1; dsimp only at this hN; omega
  have KP := hide (rpage_at w0 w _ ⟨root, next, ps⟩ id H.pg H.bel (tups_up hU) lp)
  obtain ⟨dep, hdep⟩ : ∃ d : Int, d = 17 - ((0 : Nat) : Int) := ⟨_, rfl⟩
  obtain ⟨hs, hhs⟩ : ∃ x, x = hi.getD [] := ⟨_, rfl⟩
  obtain ⟨hb, hhb⟩ : ∃ x, x = hi.isSome := ⟨_, rfl⟩
  rw [← hdep, ← hhs, ← hhb]
  have hd16 : dep > 16 := by omega
  replace hdep := hide hdep
  replace hhs := hide hhs
  replace hhb := hide hhb
  obtain ⟨⟨C0, C1, C2, C3⟩, ⟨C4, C5, C6, C7⟩, CF⟩ := H.cell
  have hsok := hide H.ok
  replace H := hide H
  replace hU := hide hU
  dsimp only at C0 C1 C2 C3 C4 C5 C6 C7 hn hN
  replace lp := hide lp
  replace hn := hide hn
  replace hN := hide hN
  go_enter Tryz.func61, Tryz.ntmps61
  go_wp2_with fail
  refine KP.out.mono ?_
  rintro e w1 ⟨bv, ok, rfl, hp, b1⟩
  clear C0 C1 C2 C3 C4 C5 C6 C7 CF
  have H1 := H.out.to b1
  have k1 := KeepW.below b1
  obtain ⟨⟨C0, C1, C2, C3⟩, ⟨C4, C5, C6, C7⟩, CF⟩ := H1.cell
  replace H1 := hide (And.intro H1 k1)
  dsimp only at C0 C1 C2 C3 C4 C5 C6 C7
  clear KP H b1 k1
  cases bad with
  | true =>
   replace hp := hide hp
   go_wp2
   (try simp only [Exit.inBlock, Exit.then])
   refine bodyPost_ret (results_none rfl _ _ _) rfl ?_
   obtain ⟨r1, r2⟩ := H1.out.1.bad
   exact ⟨rfl, WkRes.no r1 (H1.out.2.trans r2) (fun h => by cases h)⟩
  | false =>
   cases ok with
   | false =>
    have hx : Hid (tpage ps id = none) := by
     rcases hp with ⟨o, _⟩ | ⟨_, o, _⟩
     ·cases o
     ·exact o
    clear hp
    go_wp2
    (try simp only [Exit.inBlock, Exit.then])
    refine bodyPost_ret (results_none rfl _ _ _) rfl ?_
    obtain ⟨r1, r2⟩ := H1.out.1.bad
    exact ⟨rfl, WkRes.no r1 (H1.out.2.trans r2) (fun _ => wk_none hx.out)⟩
   | true =>
    replace hp := hide hp
    go_wp2
    (try simp only [Exit.inBlock, Exit.then])
    refine bodyPost_ret (results_none rfl _ _ _) rfl ?_
    obtain ⟨r1, r2⟩ := H1.out.1.bad
    exact ⟨rfl, WkRes.no r1 (H1.out.2.trans r2) (fun _ => rfl)⟩
 | succ f ih =>
  intro hf w prv s bad id lo hi H
  obtain ⟨root, next, ps⟩ := t
  obtain ⟨a, c, rfl⟩ := H.pg.slice
  have lp : ps.length ≤ 65536 := by have := tups_len hU hN.1; dsimp only at this hN; omega
  have KP := hide (rpage_at w0 w _ ⟨root, next, ps⟩ id H.pg H.bel (tups_up hU) lp)
  obtain ⟨dep, hdep⟩ : ∃ d : Int, d = 17 - ((f + 1 : Nat) : Int) := ⟨_, rfl⟩
  obtain ⟨hs, hhs⟩ : ∃ x, x = hi.getD [] := ⟨_, rfl⟩
  obtain ⟨hb, hhb⟩ : ∃ x, x = hi.isSome := ⟨_, rfl⟩
  rw [← hdep, ← hhs, ← hhb]
  have hd16 : ¬ dep > 16 := by omega
  replace hdep := hide hdep
  replace hhs := hide hhs
  replace hhb := hide hhb
  obtain ⟨⟨C0, C1, C2, C3⟩, ⟨C4, C5, C6, C7⟩, CF⟩ := H.cell
  have hsok := hide H.ok
  replace H := hide H
  replace hU := hide hU
  dsimp only at C0 C1 C2 C3 C4 C5 C6 C7 hn hN
  replace ih := hide ih
  replace lp := hide lp
  replace hn := hide hn
  replace hN := hide hN
  go_enter Tryz.func61, Tryz.ntmps61
  go_wp2_with fail
  refine KP.out.mono ?_
  rintro e w1 ⟨bv, ok, rfl, hp, b1⟩
  clear C0 C1 C2 C3 C4 C5 C6 C7 CF
  have H1 := H.out.to b1
  have k1 := KeepW.below b1
  obtain ⟨⟨C0, C1, C2, C3⟩, ⟨C4, C5, C6, C7⟩, CF⟩ := H1.cell
  replace H1 := hide (And.intro H1 k1)
  dsimp only at C0 C1 C2 C3 C4 C5 C6 C7
  clear KP H b1 k1
  cases bad with
  | true =>
   replace hp := hide hp
   go_wp2
   (try simp only [Exit.inBlock, Exit.then])
   refine bodyPost_ret (results_none rfl _ _ _) rfl ?_
   obtain ⟨r1, r2⟩ := H1.out.1.bad
   exact ⟨rfl, WkRes.no r1 (H1.out.2.trans r2) (fun h => by cases h)⟩
  | false =>
   cases ok with
   | false =>
    have hx : Hid (tpage ps id = none) := by
     rcases hp with ⟨o, _⟩ | ⟨_, o, _⟩
     ·cases o
     ·exact o
    clear hp
    go_wp2
    (try simp only [Exit.inBlock, Exit.then])
    refine bodyPost_ret (results_none rfl _ _ _) rfl ?_
    obtain ⟨r1, r2⟩ := H1.out.1.bad
    exact ⟨rfl, WkRes.no r1 (H1.out.2.trans r2) (fun _ => wk_none hx.out)⟩
   | true =>
    obtain ⟨x, hx, hr⟩ : ∃ x, tpage ps id = some x ∧ Rd w0 bv x := by
     rcases hp with ⟨_, o⟩ | ⟨o, _⟩
     ·exact o
     ·cases o
    clear hp
    have hb1 := tpage_bd hU.out hx
    obtain ⟨ni, hni⟩ : ∃ ni : Nat, id = (ni : Int) := ⟨id.toNat, by omega⟩
    subst hni
    have hnn : ni < n := by have := hn.out; omega
    obtain ⟨S1, S2⟩ := H1.out.1.seenAt hnn
    have hin : (ni : Int) < (n : Int) := by omega
    replace hx := hide hx
    replace hr := hide hr
    by_cases hs1 : (ni : Int) ∈ s.seen
    ·rw [decide_eq_true hs1] at S1
     have hz : Hid (wk ps (f + 1) (ni : Int) lo hi s = none) := wk_seen hs1
     replace hs1 := hide hs1
     go_wp2
     (try simp only [Exit.inBlock, Exit.then])
     refine bodyPost_ret (results_none rfl _ _ _) rfl ?_
     obtain ⟨r1, r2⟩ := H1.out.1.bad
     exact ⟨rfl, WkRes.no r1 (H1.out.2.trans r2) (fun _ => hz.out)⟩
    ·rw [decide_eq_false hs1] at S1
     replace hs1 := hide hs1
     obtain ⟨r1, r2⟩ := H1.out.1.see hb1 hs1.out
     have H2 := hide (And.intro r1 (H1.out.2.trans r2))
     have KD := hide (rdec9_any _ bv x (hr.out.to H2.out.1.bel))
     clear r1 r2
     go_wp2_with fail
     refine KD.out.mono ?_
     rintro e w3 ⟨nd, err, kv, vv, dv, rfl, hd, hon, b3⟩
     obtain ⟨U, hUU, DU, bU, sU⟩ := boxedN w3 #[.bool nd.leaf, kv, vv, dv] 143
     have bb := b3.trans (bU.mono b3.size)
     have H3 := hide (And.intro (H2.out.1.to bb) (H2.out.2.trans (KeepW.below bb)))
     have HN : Hid (NdAt U w3.heap.size kv vv dv nd) := ⟨DU, (hon.to bU).mono (Nat.zero_le _)⟩
     obtain ⟨⟨C0, C1, C2, C3⟩, ⟨C4, C5, C6, C7⟩, CF⟩ := H3.out.1.cell
     obtain ⟨E0, E1, E2, E3⟩ := HN.out.cell
     obtain ⟨ka, kc, va, vc, da, dc, rfl, rfl, rfl⟩ := hon.rd.slices
     rw [hUU] at C0 C1 C2 C3 C4 C5 C6 C7 CF E0 E1 E2 E3
     dsimp only at C0 C1 C2 C3 C4 C5 C6 C7
     clear KD bb b3 bU hon H2 H1 DU sU S1 S2 hr
     rcases hd with ⟨rfl, hd⟩ | ⟨he, rfl, hd⟩
     rotate_left
     ·have hz : Hid (wk ps (f + 1) (ni : Int) lo hi s = none) := wk_bad hx.out hd
      have hq : (err != 0) = true := by simpa using he
      replace he := hide he
      replace hd := hide hd
      go_wp2
      (try simp only [Exit.inBlock, Exit.then])
      refine bodyPost_ret (results_none rfl _ _ _) rfl ?_
      rw [← hUU]
      obtain ⟨r1, r2⟩ := H3.out.1.bad
      exact ⟨rfl, WkRes.no r1 (H3.out.2.trans r2) (fun _ => hz.out)⟩
     have hok : NOk nd := by have := (ndec_back (xs := x) (by rw [hd])).1; rw [hd] at this; exact this
     replace hd := hide hd
     replace hok := hide hok
     go_wp2
     rw [← hUU]
     replace hUU := hide hUU
     clear C0 C1 C2 C3 C4 C5 C6 C7 CF E0 E1 E2 E3
     obtain ⟨E0, E1, E2, E3⟩ := HN.out.cell
     obtain ⟨⟨C0, C1, C2, C3⟩, ⟨C4, C5, C6, C7⟩, CF⟩ := H3.out.1.cell
     dsimp only at C0 C1 C2 C3 C4 C5 C6 C7
     obtain ⟨K, hK⟩ : ∃ K, K = nd.keys.length := ⟨_, rfl⟩
     obtain ⟨V, hV⟩ : ∃ V, V = nd.vals.length := ⟨_, rfl⟩
     obtain ⟨D, hD⟩ : ∃ D, D = nd.kids.length := ⟨_, rfl⟩
     rw [← hK] at E1 HN
     rw [← hV] at E2 HN
     rw [← hD] at E3 HN
     have hK3 : K ≤ 300 := by have := (npr_len hok.out).2; omega
     replace hK := hide hK
     replace hV := hide hV
     replace hD := hide hD
     obtain ⟨nb, hnb⟩ : ∃ nb, nb = w3.heap.size := ⟨_, rfl⟩
     rw [← hnb] at HN E0 E1 E2 E3 ⊢
     clear hnb
     have hkf : Hid (∀ x, kin lo hi x = (!slt x lo && (!hb || slt x hs))) := fun x => by
      rw [hhb.out, hhs.out]
      cases hi <;> simp [kin]
     go_loopw [16] (fun p wr => ∃ i : Nat, i ≤ K ∧ p = .int .i64 i ∧ U = wr ∧ Hid (∀ j k, j < i → nd.keys[j]? = some k → kin lo hi k = true)) (fun p _ => K - (intOf p).toNat)
     case atStart => exact ⟨0, Nat.zero_le _, rfl, rfl, hide fun j k h => by omega⟩
     case round =>
      obtain ⟨i, hi2, rfl, rfl, hI⟩ := hrel
      by_cases hlt : i < K
      ·have hq : (i : Int) < (K : Int) := by omega
       obtain ⟨y, hy⟩ := some_el nd.keys (k := i) (by rw [← hK.out]; exact hlt)
       obtain ⟨b, off, rfl, hc⟩ := HN.out.own.keys.rd.strAt hy
       replace hy := hide hy
       go_upto_region 10 with fail
       go_cut [96] from 71 to 99 (fun s wx => s = .bool (!kin lo hi y) ∧ U = wx)
       case first =>
        cases hl : Op.bytesLess y lo with
        | true =>
         have hkv : Hid (kin lo hi y = false) := by show _ = _; rw [hkf.out y, show slt y lo = true from hl]; rfl
         go_wp2_with fail
         go_meet
         case rel => exact ⟨by rw [hkv.out]; rfl, rfl⟩
        | false =>
         cases hb with
         | false =>
          have hkv : Hid (kin lo hi y = true) := by show _ = _; rw [hkf.out y, show slt y lo = false from hl]; rfl
          go_wp2_with fail
          go_meet
          case rel => exact ⟨by rw [hkv.out]; rfl, rfl⟩
         | true =>
          have hkv : Hid (kin lo hi y = Op.bytesLess y hs) := by show _ = _; rw [hkf.out y, show slt y lo = false from hl]; rfl
          go_wp2_with fail
          go_meet
          case rel => exact ⟨by rw [hkv.out], rfl⟩
       case rest =>
        obtain ⟨rfl, rfl⟩ := hcut
        cases hkv : kin lo hi y with
        | false =>
         have hz : Hid (wk ps (f + 1) (ni : Int) lo hi s = none) := wk_out hx.out (by rw [hd.out]; exact hy.out) hkv
         go_wp2
         (try simp only [Exit.inBlock, Exit.then])
         refine bodyPost_ret (results_none rfl _ _ _) rfl ?_
         obtain ⟨r1, r2⟩ := H3.out.1.bad
         exact ⟨rfl, WkRes.no r1 (H3.out.2.trans r2) (fun _ => hz.out)⟩
        | true =>
         have hI' : Hid (∀ j k, j < i + 1 → nd.keys[j]? = some k → kin lo hi k = true) := fun j k hj hk => by
          by_cases e : j = i
          ·subst e
           rw [hy.out] at hk
           simp only [Option.some.injEq] at hk
           subst hk; exact hkv
          ·exact hI.out j k (by omega) hk
         replace hkv := hide hkv
         go_wp2
         go_roundw
         case rel => exact ⟨i + 1, by omega, by go_num, trivial, hI'⟩
         case measure => simp [intOf]; omega
      ·have hq : ¬ (i : Int) < (K : Int) := by omega
       have hall : Hid (nd.keys.all (kin lo hi) = true) := all_kin fun j k hk => hI.out j k (by have := (List.getElem?_eq_some_iff.1 hk).1; rw [← hK.out] at this; omega) hk
       clear hI hkf
       cases hlf : nd.leaf with
       | true =>
        have hW := hide (wk_leaf (f := f) hx.out hs1.out hd.out hall.out hlf)
        obtain ⟨s1, hs1'⟩ : ∃ s1 : Sw, s1 = ⟨(ni : Int) :: s.seen, s.dep, s.prs⟩ := ⟨_, rfl⟩
        rw [hlf] at E0
        rw [← hs1'] at H3 C5
        obtain ⟨sd, hsd⟩ : ∃ d : Int, d = sdep s1 := ⟨_, rfl⟩
        obtain ⟨sa, hsa⟩ : ∃ b : Bool, b = s.dep.isSome := ⟨_, rfl⟩
        rw [← hsd] at C5
        rw [← hsa] at C6
        obtain ⟨cnd, hcnd⟩ : ∃ c : Bool, c = decide (nd.keys = [] ∨ (s.dep ≠ none ∧ s.dep ≠ some f)) := ⟨_, rfl⟩
        have hde : Hid (s1.dep = s.dep) := by show _ = _; rw [hs1']
        replace hsd : Hid (sd = match s.dep with | none => 0 | some f => 16 - (f : Int)) := by show _ = _; rw [hsd, sdep, hde.out]; cases s.dep <;> rfl
        replace hlf := hide hlf
        replace hsa := hide hsa
        replace hs1' := hide hs1'
        replace hcnd := hide hcnd
        replace hall := hide hall
        go_upto_region 13 with fail
        go_cut [119] from 71 to 99 (fun s wx => s = .bool cnd ∧ U = wx)
        case first =>
         by_cases hK0 : K = 0
         ·have hq2 : ((K : Int) == 0) = true := by simp [hK0]
          have hc1 : Hid (cnd = true) := by
           show _ = _
           rw [hcnd.out]
           exact decide_eq_true (.inl (List.eq_nil_of_length_eq_zero (by rw [← hK.out]; exact hK0)))
          replace hK0 := hide hK0
          go_wp2_with fail
          go_meet
          case rel => exact ⟨by rw [hc1.out], rfl⟩
         ·have hq2 : ((K : Int) == 0) = false := by simp [hK0]
          have hne : Hid (nd.keys ≠ []) := fun h => hK0 (by rw [hK.out, h]; rfl)
          replace hK0 := hide hK0
          cases sa with
          | false =>
           have hc1 : Hid (cnd = false) := by
            show _ = _
            rw [hcnd.out]
            refine decide_eq_false fun h => ?_
            rcases h with h | ⟨h, _⟩
            ·exact hne.out h
            ·have := hsa.out; cases hd2 : s.dep <;> simp [hd2] at h this
           go_wp2_with fail
           go_meet
           case rel => exact ⟨by rw [hc1.out], rfl⟩
          | true =>
           have hc1 : Hid (cnd = (sd != dep)) := by
            show _ = _
            have e1 := hsa.out
            have e2 := hsd.out
            have e3 := hdep.out
            rw [hcnd.out]
            cases hd2 : s.dep with
            | none => rw [hd2] at e1; cases e1
            | some f' =>
             rw [hd2] at e2
             dsimp only at e2
             have hn := hne.out
             by_cases ef : f' = f
             ·subst ef
              have : sd = dep := by omega
              simp [hn, this]
             ·have : sd ≠ dep := by omega
              simp [hn, this, ef]
           go_wp2_with fail
           go_meet
           case rel => exact ⟨by rw [hc1.out], rfl⟩
        case rest =>
         obtain ⟨rfl, rfl⟩ := hcut
         go_upto_if 119 with fail
         clear C5 C6 C7
         go_cut [] from 71 to 99 (fun wx => Hid (RWk w0 wx g bs n ⟨root, next, ps⟩ (.slice a ps.length c) prv s1 cnd ∧ KeepW U wx))
         case first =>
          cases cnd with
          | true =>
           go_wp2_with fail
           go_meet
           case rel => exact H3.out.1.bad
          | false =>
           go_wp2_with fail
           go_meet
           case rel => exact ⟨H3.out.1, KeepW.refl _⟩
         case rest =>
          replace H3 := hide H3.out.2
          obtain ⟨⟨C0, C1, C2, C3⟩, ⟨C4, C5, C6, C7⟩, CF⟩ := hcut.out.1.cell
          dsimp only at C0 C1 C2 C3 C4 C5 C6 C7
          have hX : Hid (RWk w0 ((wc.setCell ⟨g, 6, none⟩ (.bool true)).setCell ⟨g, 5, none⟩ (.int .i64 dep)) g bs n ⟨root, next, ps⟩ (.slice a ps.length c) prv ⟨s1.seen, some f, s1.prs ++ (npr nd).take 0⟩ cnd ∧
            KeepW U ((wc.setCell ⟨g, 6, none⟩ (.bool true)).setCell ⟨g, 5, none⟩ (.int .i64 dep))) := by
           have e : dep = 16 - (f : Int) := by have := hdep.out; omega
           obtain ⟨a1, a2⟩ := hcut.out.1.deep f
           rw [e]
           exact ⟨by simpa using a1, hcut.out.2.trans a2⟩
          go_wp2
          clear C0 C1 C2 C3 C4 C5 C6 C7 CF hcut
          generalize (wc.setCell ⟨g, 6, none⟩ (.bool true)).setCell ⟨g, 5, none⟩ (.int .i64 dep) = W6 at *
          have hlv : Hid (V = K) := by
           have h1 := hok.out.2.1
           have h2 := hlf.out
           show V = K
           rw [hV.out, hK.out]
           unfold ncount at h1
           rw [if_pos h2] at h1
           exact h1.1
          go_loopw [17] (fun p wr => ∃ k : Nat, k ≤ K ∧ p = .int .i64 k ∧ Hid (∃ prv', RWk w0 wr g bs n ⟨root, next, ps⟩ (.slice a ps.length c) prv' ⟨s1.seen, some f, s1.prs ++ (npr nd).take k⟩ cnd ∧ KeepW U wr)) (fun p _ => K - (intOf p).toNat)
          case atStart => exact ⟨0, Nat.zero_le _, rfl, hide ⟨_, hX.out⟩⟩
          case round =>
           obtain ⟨k, hk, rfl, hI⟩ := hrel
           obtain ⟨pv2, r1, r2⟩ := hI.out
           clear hI
           have HN2 := HN.out.keep r2
           obtain ⟨E0, E1, E2, E3⟩ := HN2.cell
           obtain ⟨pa, pc, hpv⟩ := r1.prs.rd.slice
           subst hpv
           obtain ⟨⟨_, _, _, _⟩, ⟨_, _, _, C7⟩, CF⟩ := r1.cell
           dsimp only at C7
           by_cases hlt : k < K
           ·have hq : (k : Int) < (K : Int) := by omega
            obtain ⟨y1, hy1⟩ := some_el nd.keys (k := k) (by rw [← hK.out]; exact hlt)
            obtain ⟨y2, hy2⟩ := some_el nd.vals (k := k) (by rw [← hV.out, hlv.out]; exact hlt)
            obtain ⟨b, off, rfl, hc⟩ := HN2.own.keys.rd.strAt hy1
            obtain ⟨b2, off2, rfl, hc2⟩ := HN2.own.vals.rd.strAt hy2
            have hq2 : (k : Int) < (V : Int) := by have := hlv.out; omega
            have hpr : Hid ((npr nd).take (k + 1) = (npr nd).take k ++ [(y1, y2)]) := by
             show _ = _
             rw [List.take_add_one]
             congr 1
             simp [npr, List.getElem?_zip_eq_some, hy1, hy2]
            replace hy1 := hide hy1
            replace hy2 := hide hy2
            have R1 := hide (And.intro r1 r2)
            obtain ⟨lp2, hlp2⟩ : ∃ m, m = (s1.prs ++ (npr nd).take k).length := ⟨_, rfl⟩
            rw [← hlp2] at C7
            clear HN2 r2 r1
            have hok2 : Hid (SwOk next ⟨s1.seen, some f, s1.prs ++ (npr nd).take k ++ [(y1, y2)]⟩) := by
             have e := hs1'.out
             rw [List.append_assoc, ← hpr.out, e]
             exact hsok.out.see hb1 hs1.out (some f) (by have := (npr_len hok.out).1; rw [List.length_take]; omega)
            have hbd : (lp2 + 1) * 32 ≤ 140737488355328 := by
             have h1 := R1.out.1.ok.len hN.out.2
             dsimp only at h1
             omega
            obtain ⟨WA, hWA⟩ : ∃ WA, WA = (wr.alloc (.cells #[st y1, st y2] 62)).drew := ⟨_, rfl⟩
            obtain ⟨wa, hwa, DA, bA0, sA⟩ := boxedN wr #[st y1, st y2] 62
            have bA : Below wr.heap.size wr WA := by rw [hWA, ← hwa]; exact bA0.trans (below_drewN' wa 1 _)
            have nc0 : WA.cell? ⟨wr.heap.size, 0, none⟩ = some (st y1) := by rw [hWA, ← hwa]; exact ((below_drewN' wa 1 wa.heap.size).cell (p := ⟨wr.heap.size, _, none⟩) (lt_of_block DA)).trans (cellN DA rfl)
            have nc1 : WA.cell? ⟨wr.heap.size, 1, none⟩ = some (st y2) := by rw [hWA, ← hwa]; exact ((below_drewN' wa 1 wa.heap.size).cell (p := ⟨wr.heap.size, _, none⟩) (lt_of_block DA)).trans (cellN DA rfl)
            have hOW : OwnP w0.heap.size WA (.slice pa lp2 pc) (s1.prs ++ (npr nd).take k) := by
             rw [hlp2]
             exact rows_to R1.out.1.prs bA
            have hsz : w0.heap.size ≤ WA.heap.size := (R1.out.1.to bA).bel.size
            have hbd2 : ((s1.prs ++ (npr nd).take k).length + 1) * 32 ≤ 140737488355328 := by rw [← hlp2]; exact hbd
            have FIN : ∀ v5 w5, OwnP w0.heap.size w5 v5 (s1.prs ++ (npr nd).take k ++ [(y1, y2)]) → Below w0.heap.size WA w5 → (∀ e, e ≠ 62 → KeepT e WA w5) →
              Hid (∃ prv', RWk w0 (w5.setCell ⟨g, 7, none⟩ v5) g bs n ⟨root, next, ps⟩ (.slice a ps.length c) prv' ⟨s1.seen, some f, s1.prs ++ (npr nd).take (k + 1)⟩ cnd ∧ KeepW U (w5.setCell ⟨g, 7, none⟩ v5)) ∧ w5.frozen? ⟨g, 7, none⟩ = false ∧ w5.cell? ⟨g, 7, none⟩ = some (.slice pa lp2 pc) ∧ w5.cell? ⟨nb, 1, none⟩ = some (.slice (some ⟨b, off, none⟩) K kc) ∧ w5.cell? ⟨b, off + k, none⟩ = some (st y1) ∧ w5.cell? ⟨nb, 2, none⟩ = some (.slice (some ⟨b2, off2, none⟩) V vc) ∧ w5.cell? ⟨b2, off2 + k, none⟩ = some (st y2) := fun v5 w5 o5 b5 k5 => by
             have N5 := HN.out.keep (R1.out.2.trans ((KeepW.below bA).trans fun e _ _ h3 => k5 e h3))
             obtain ⟨_, n1, n2, _⟩ := N5.cell
             obtain ⟨b', off', e', hc'⟩ := N5.own.keys.rd.strAt hy1.out
             obtain ⟨b2', off2', e2', hc2'⟩ := N5.own.vals.rd.strAt hy2.out
             simp only [Option.some.injEq, Addr.mk.injEq, and_true] at e' e2'
             obtain ⟨rfl, rfl⟩ := e'
             obtain ⟨rfl, rfl⟩ := e2'
             obtain ⟨a1, a2⟩ := R1.out.1.app bA o5 b5 k5 hok2.out
             have hbx := k5 _ (by decide) _ _ _ (R1.out.1.to bA).box
             refine ⟨⟨v5, ?_, R1.out.2.trans a2⟩, frozN hbx 7, ?_, n1, hc', n2, hc2'⟩
             ·rw [hpr.out, ← List.append_assoc]; exact a1
             ·rw [hlp2]; exact cellN hbx rfl
            rw [hWA] at nc0 nc1 hOW hsz FIN
            replace nc0 := hide nc0
            replace nc1 := hide nc1
            replace hOW := hide hOW
            replace hsz := hide hsz
            replace FIN := hide FIN
            replace hbd2 := hide hbd2
            clear hWA hwa DA bA0 sA bA hbd
            replace hlp2 := hide hlp2
            go_wp2
            refine wp_region_mid (fun w' => w'.cell? ⟨g, 7, none⟩ = some (.slice pa lp2 pc) ∧ w'.cell? ⟨nb, 1, none⟩ = some (.slice (some ⟨b, off, none⟩) K kc) ∧ w'.cell? ⟨b, off + k, none⟩ = some (st y1) ∧ w'.cell? ⟨nb, 2, none⟩ = some (.slice (some ⟨b2, off2, none⟩) V vc) ∧ w'.cell? ⟨b2, off2 + k, none⟩ = some (st y2)) 15 18 mixed (by kernel_rfl) (fun _ _ _ _ h => h) ⟨C7, E1, hc, E2, hc2⟩ ?_
            dsimp only [List.take, List.drop]
            iterate 15
             refine take_one (v := ?_) (by rfl) ?_ ?_
             rotate_left
             ·rintro w' ⟨s1, s2, s3, s4, s5⟩
              go_simp
              try with_reducible rfl
             try simp only [Act.put, List.setIfInBounds_toArray, List.set_cons_zero, List.set_cons_succ]
            refine mid_one fun K hK => ?_
            rw [if_pos (by rfl)]
            go_simp
            refine hK _ _ ⟨C7, E1, hc, E2, hc2⟩ ?_
            clear hK K
            refine mid_one fun K hK => ?_
            rw [if_pos (by rfl)]
            go_simp
            refine hK _ _ ⟨cellAl C7 _, cellAl E1 _, cellAl hc _, cellAl E2 _, cellAl hc2 _⟩ ?_
            clear hK K
            refine mid_one fun K hK => ?_
            refine step_appP rfl _ _ rfl w0.heap.size (.slice pa lp2 pc) (s1.prs ++ (npr nd).take k) (y1, y2) wr.heap.size rfl rfl hOW.out nc0.out nc1.out hbd2.out hsz.out ?_
            intro v5 w5 o5 b5 k5
            obtain ⟨a5, c5, h5⟩ := (OwnP.rd o5).slice
            subst h5
            obtain ⟨F1, F2, F3, F4, F5, F6, F7⟩ := FIN.out _ w5 o5 b5 k5
            generalize (s1.prs ++ (npr nd).take k ++ [(y1, y2)]).length = m5 at *
            refine hK _ _ ⟨F3, F4, F5, F6, F7⟩ ?_
            clear hK K o5 b5 k5 FIN
            show wpList _ _ _ _ _ _
            go_wp2
            go_roundw
            case rel => exact ⟨k + 1, by omega, by go_num, F1⟩
            case measure => simp [intOf]; omega
           ·have hq : ¬ (k : Int) < (K : Int) := by omega
            have ht : (npr nd).take k = npr nd := List.take_of_length_le (by unfold npr; rw [List.length_zip, ← hK.out]; omega)
            rw [ht] at r1
            have R1 := hide (And.intro r1 r2)
            clear ht r1 r2 HN2
            go_wp2
            (try simp only [Exit.inBlock, Exit.then])
            refine bodyPost_ret (results_none rfl _ _ _) rfl ?_
            refine ⟨rfl, _, _, _, R1.out.1, H3.out.trans R1.out.2, (fun h => by cases h), fun _ => ?_⟩
            rw [hW.out, hs1'.out]
            cases hcc : cnd with
            | true => exact .inr ⟨if_pos (of_decide_eq_true (hcnd.out.symm.trans hcc)), rfl⟩
            | false => exact .inl ⟨if_neg (of_decide_eq_false (hcnd.out.symm.trans hcc)), rfl⟩
       | false =>
        have hW := hide (wk_inner (f := f) hx.out hs1.out hd.out hall.out hlf)
        obtain ⟨s1, hs1'⟩ : ∃ s1 : Sw, s1 = ⟨(ni : Int) :: s.seen, s.dep, s.prs⟩ := ⟨_, rfl⟩
        rw [hlf] at E0
        rw [← hs1'] at H3 hW
        have hDK : Hid (D = K + 1 ∧ 1 ≤ K) := by
         have h1 := hok.out.2.1
         unfold ncount at h1
         rw [hlf, if_neg (by decide), ← hK.out, ← hD.out] at h1
         exact ⟨h1.2.2, h1.2.1⟩
        have hD3 : D ≤ 301 := by have := hDK.out; omega
        obtain ⟨dp, hdp⟩ : ∃ d : Int, dep + 1 = d := ⟨_, rfl⟩
        have hdw : IntKind.i64.wrap dp = dp := IntWalk.i64_in _ (by have := hdep.out; omega)
        have hde : Hid (dp = 17 - (f : Int)) := by show _ = _; have := hdep.out; omega
        replace hlf := hide hlf
        replace hs1' := hide hs1'
        replace hall := hide hall
        clear C0 C1 C2 C3 C4 C5 C6 C7 CF
        go_wp2
        go_loopw [18] (fun p wr => ∃ k : Nat, k ≤ D ∧ p = .int .i64 k ∧ Hid (∃ prv' s' bad', RWk w0 wr g bs n ⟨root, next, ps⟩ (.slice a ps.length c) prv' s' bad' ∧ KeepW U wr ∧ WkR (wkK (wk ps f) nd lo hi 0 (nd.kids.take k) s1) false s' bad')) (fun p _ => D - (intOf p).toNat)
        case atStart => exact ⟨0, Nat.zero_le _, rfl, hide ⟨_, _, _, H3.out.1, KeepW.refl _, ⟨(fun h => by cases h), fun _ => .inl ⟨rfl, rfl⟩⟩⟩⟩
        case round =>
         obtain ⟨k, hk, rfl, hI⟩ := hrel
         obtain ⟨pv2, s2, bad2, r1, r2, r3⟩ := hI.out
         clear hI
         have HN2 := HN.out.keep r2
         clear E0 E1 E2 E3
         obtain ⟨E0, E1, E2, E3⟩ := HN2.cell
         by_cases hlt : k < D
         ·have hq : (k : Int) < (D : Int) := by omega
          obtain ⟨kid, hkid⟩ := some_el nd.kids (k := k) (by rw [← hD.out]; exact hlt)
          obtain ⟨b3, off3, rfl, hc3⟩ := HN2.own.kids.rd.intAt hkid
          have KC := hide (ih.out (by omega) wr pv2 s2 bad2 kid (kidLo nd lo k) (kidHi nd hi k) r1)
          have hst : Hid (wkK (wk ps f) nd lo hi 0 (nd.kids.take (k + 1)) s1 = (wkK (wk ps f) nd lo hi 0 (nd.kids.take k) s1).bind (wk ps f kid (kidLo nd lo k) (kidHi nd hi k))) := wkK_take _ _ _ _ _ _ hkid
          replace hkid := hide hkid
          have R3 := hide (And.intro r2 r3)
          have HN2' := hide HN2
          clear r1 r2 r3 HN2
          go_upto_if 168 with fail
          go_cut [19] from 157 to 196 (fun v wx => v = st (kidLo nd lo k) ∧ wr = wx)
          case first =>
           by_cases hk0 : k = 0
           ·have hq2 : ¬ (0 : Int) < (k : Int) := by omega
            have hl : Hid (kidLo nd lo k = lo) := by show _ = _; rw [kidLo, if_pos hk0]
            replace hk0 := hide hk0
            go_wp2_with fail
            go_meet
            case rel => exact ⟨by rw [hl.out], rfl⟩
           ·have hq2 : (0 : Int) < (k : Int) := by omega
            obtain ⟨j, hj⟩ : ∃ j, k = j + 1 := ⟨k - 1, by omega⟩
            obtain ⟨y, hy⟩ := some_el nd.keys (k := j) (by have := hDK.out; rw [← hK.out]; omega)
            obtain ⟨b4, off4, rfl, hc4⟩ := HN2'.out.own.keys.rd.strAt hy
            have hl : Hid (kidLo nd lo k = y) := by show _ = _; rw [kidLo, if_neg hk0, hj, Nat.add_sub_cancel, List.getD_eq_getElem?_getD, hy]; rfl
            have hj1 : (k : Int) - 1 = (j : Int) := by omega
            have hj2 : IntKind.i64.wrap (j : Int) = (j : Int) := IntWalk.i64_in _ (by have := hDK.out; omega)
            have hj3 : (j : Int) < (K : Int) := by have := hDK.out; omega
            replace hk0 := hide hk0
            replace hj := hide hj
            replace hy := hide hy
            go_wp2_with fail
            go_meet
            case rel => exact ⟨by rw [hl.out], rfl⟩
          case rest =>
           obtain ⟨rfl, rfl⟩ := hcut
           go_upto_if 179 with fail
           go_cut [20, 21] from 157 to 196 (fun v v2 wx => v = st ((kidHi nd hi k).getD []) ∧ v2 = .bool (kidHi nd hi k).isSome ∧ wr = wx)
           case first =>
            by_cases hkK : k < K
            ·have hq2 : (k : Int) < (K : Int) := by omega
             obtain ⟨y, hy⟩ := some_el nd.keys (k := k) (by rw [← hK.out]; exact hkK)
             obtain ⟨b4, off4, rfl, hc4⟩ := HN2'.out.own.keys.rd.strAt hy
             have hl : Hid (kidHi nd hi k = some y) := by show _ = _; rw [kidHi, if_pos (by rw [← hK.out]; exact hkK), List.getD_eq_getElem?_getD, hy]; rfl
             replace hy := hide hy
             go_wp2_with fail
             go_meet
             case rel => exact ⟨by rw [hl.out]; rfl, by rw [hl.out]; rfl, rfl⟩
            ·have hq2 : ¬ (k : Int) < (K : Int) := by omega
             have hl : Hid (kidHi nd hi k = hi) := by show _ = _; rw [kidHi, if_neg (by rw [← hK.out]; exact hkK)]
             go_wp2_with fail
             go_meet
             case rel => exact ⟨by rw [hl.out, hhs.out], by rw [hl.out, hhb.out], rfl⟩
           case rest =>
            obtain ⟨rfl, rfl, rfl⟩ := hcut
            rw [← hde.out] at KC
            go_wp2_with fail
            refine KC.out.mono ?_
            rintro e w7 ⟨rfl, pv7, s7, bad7, r1, r2, r3⟩
            have hI' : Hid (∃ prv' s' bad', RWk w0 w7 g bs n ⟨root, next, ps⟩ (.slice a ps.length c) prv' s' bad' ∧ KeepW U w7 ∧ WkR (wkK (wk ps f) nd lo hi 0 (nd.kids.take (k + 1)) s1) false s' bad') := by
             refine ⟨_, _, _, r1, R3.out.1.trans r2, fun h => (by cases h), fun _ => ?_⟩
             rw [hst.out]
             rcases R3.out.2.2 rfl with ⟨h1, h2⟩ | ⟨h1, h2⟩
             ·rw [h1]; exact r3.2 h2
             ·rw [h1]; exact .inr ⟨rfl, r3.1 h2⟩
            clear r1 r2 r3 KC
            go_wp2
            go_roundw
            case rel => exact ⟨k + 1, by omega, by go_num, hI'⟩
            case measure => simp [intOf]; omega
         ·have hq : ¬ (k : Int) < (D : Int) := by omega
          have ht : nd.kids.take k = nd.kids := List.take_of_length_le (by rw [← hD.out]; omega)
          rw [ht, ← hW.out] at r3
          have R1 := hide (And.intro r1 (And.intro r2 r3))
          clear r1 r2 r3 ht HN2
          go_wp2
          (try simp only [Exit.inBlock, Exit.then])
          first
           | refine bodyPost_ret (results_none rfl _ _ _) rfl ?_
           | refine bodyPost_end (results_none rfl _ _ _) rfl ?_
          exact ⟨rfl, _, _, _, R1.out.1, H3.out.2.trans R1.out.2.1, R1.out.2.2⟩
end Go.Proofs.YtgmkknonnidgaaaGreat

namespace Go.Proofs.YtgmkknonnidgaaaGreat
open Go.RowKit
def RchR (w0 w w' : World) (B g bm : Nat) (t : Tr) (pv : Value) (o : Option Sw) (e : Ending) : Prop := ∃ R : Bool, e = .returned (.bool R) ∧ KpM g bm w w' ∧
 ((R = true ∧ ∃ s' m', o = some s' ∧ s'.prs.length ≤ 4096 ∧ PWk w0 w' B g bm t pv s' m') ∨ (R = false ∧ ∀ s', o = some s' → 4096 < s'.prs.length))
theorem RchR.no {w0 w w' : World} {B g bm : Nat} {t : Tr} {pv : Value} {o : Option Sw} {b : Bool} (hb : b = false) (h : KpM g bm w w') (ho : o = none) : RchR w0 w w' B g bm t pv o (.returned (.bool b)) :=
 ⟨false, by rw [hb], h, .inr ⟨rfl, fun s' e => by rw [ho] at e; cases e⟩⟩
theorem leaf_fin {o : Option Sw} {s : Sw} {nd : Nd} {f : Nat} {id d : Int} (hW : o = if nd.keys = [] ∨ (s.dep ≠ none ∧ s.dep ≠ some f) then none else some ⟨id :: s.seen, some f, s.prs ++ npr nd⟩) (hlv : nd.vals.length = nd.keys.length) (hdep : s.dep = none ↔ s.prs = [])
  (hd : d = 16 - (f : Int)) {D : Int} (hD : D = match s.dep with | none => 0 | some f => 16 - (f : Int)) :
  ((0 < nd.keys.length ∧ d = (if s.prs.length = 0 then d else D) ∧ s.prs.length + nd.keys.length ≤ 4096) → o = some ⟨id :: s.seen, some f, s.prs ++ npr nd⟩ ∧ (s.prs ++ npr nd).length ≤ 4096) ∧
  (¬ (0 < nd.keys.length ∧ d = (if s.prs.length = 0 then d else D) ∧ s.prs.length + nd.keys.length ≤ 4096) → ∀ s', o = some s' → 4096 < s'.prs.length) := by
 have hl : (s.prs ++ npr nd).length = s.prs.length + nd.keys.length := by rw [List.length_append, npr, List.length_zip, hlv, Nat.min_self]
 refine ⟨fun ⟨h1, h2, h3⟩ => ?_, fun h s' hs' => ?_⟩
 ·refine ⟨?_, by omega⟩
  rw [hW, if_neg]
  rintro (h4 | ⟨h4, h5⟩)
  ·rw [h4] at h1; simp at h1
  ·by_cases h0 : s.prs.length = 0
   ·exact h4 (hdep.2 (List.eq_nil_of_length_eq_zero h0))
   ·rw [if_neg h0] at h2
    cases hd2 : s.dep with
    | none => exact h4 hd2
    | some f' =>
     rw [hd2] at hD
     dsimp only at hD
     exact h5 (by rw [hd2]; congr 1; omega)
 ·rw [hW] at hs'
  split at hs'
  ·cases hs'
  ·rename_i hc
   simp only [Option.some.injEq] at hs'
   subst hs'
   show 4096 < (s.prs ++ npr nd).length
   rw [hl]
   apply Nat.lt_of_not_le
   intro h5
   refine h ⟨?_, ?_, h5⟩
   ·apply Nat.pos_of_ne_zero
    intro h6
    exact hc (.inl (List.eq_nil_of_length_eq_zero h6))
   ·by_cases h0 : s.prs.length = 0
    ·rw [if_pos h0]
    ·rw [if_neg h0]
     cases hd2 : s.dep with
     | none => exact absurd (by rw [hdep.1 hd2]; rfl) h0
     | some f' =>
      rw [hd2] at hD
      dsimp only at hD
      by_cases ef : f' = f
      ·subst ef; omega
      ·exact absurd (.inr ⟨by rw [hd2]; simp, by rw [hd2]; simpa using ef⟩) hc
theorem wk_outs {l : List Wrt} {f : Nat} {id : Int} {lo : Str} {hi : Option Str} {s : Sw} {x : List UInt8} (hx : tpage l id = some x) (h : (ndec x).1.keys.all (kin lo hi) = false) : wk l f id lo hi s = none := by
 cases f with
 | zero => rfl
 | succ f => unfold wk; rw [hx]; simp [h]
set_option maxRecDepth 100000 in
set_option maxHeartbeats 4000000 in
theorem preach_any (w0 : World) (t : Tr) (pv : Value) (B g bm : Nat) (hN : 1 ≤ t.next ∧ t.next ≤ 65536) (hU : tups t.next t.pages t.pages.length) :
  ∀ (f : Nat), f ≤ 16 → ∀ (w : World) (s : Sw) (m : Int → Option Value) (id : Int) (lo : Str) (hi : Option Str), PWk w0 w B g bm t pv s m → s.prs.length ≤ 4096 → B ≤ w.heap.size → HiOk hi → (Lit.int .i64 id).wf = true →
  Calls Tryz.prog 43 #[.pointer (some ⟨g, 0, none⟩), .int .i64 id, .int .i64 (17 - (f : Int)), sv lo hi] w fun e w' => RchR w0 w w' B g bm t pv (wk t.pages f id lo hi s) e := by
 intro f
 induction f with
 | zero =>
  intro hf w s m id lo hi H hs4 hBw hh hid
  obtain ⟨root, next, ps⟩ := t
  obtain ⟨a, c, rfl⟩ := H.pg.slice
  have lp : ps.length ≤ 65536 := by have := tups_len hU hN.1; dsimp only at this hN; omega
  obtain ⟨dep, hdep⟩ : ∃ d : Int, d = 17 - ((0 : Nat) : Int) := ⟨_, rfl⟩
  dsimp only [sv]
  obtain ⟨hs, hhs⟩ : ∃ x, x = hi.getD [] := ⟨_, rfl⟩
  rw [← hdep, ← hhs]
  have hd16 : dep > 16 := by omega
  replace hdep := hide hdep
  replace hhs := hide hhs
  obtain ⟨W, hW, DW, bW, sW⟩ := boxedN w #[st lo, st hs] 72
  have HW := H.to bW
  have KP := hide (pdata_at w0 W _ ⟨root, next, ps⟩ id HW.pg HW.bel (tups_up hU) lp)
  obtain ⟨⟨C0, C1, C2, C3⟩, ⟨C4, C5⟩, CF⟩ := HW.cell
  dsimp only at C0 C1 C2 C3 C4 C5 hN
  rw [hW] at C0 C1 C2 C3 C4 C5 CF KP
  replace H := hide H
  replace HW := hide HW
  replace hU := hide hU
  replace lp := hide lp
  replace hN := hide hN
  replace hh := hide hh
  replace hid := hide hid
  replace hBw := hide hBw
  replace hs4 := hide hs4
  have BW := hide bW
  have DW' := hide DW
  clear bW DW
  go_enter Tryz.func43, Tryz.ntmps43
  go_wp2_with fail
  refine KP.out.mono ?_
  rintro e w1 ⟨bv, ok, rfl, hp, b1⟩
  rw [← hW] at b1
  clear C0 C1 C2 C3 C4 C5 CF KP
  replace hW := hide hW
  have H1 := HW.out.to b1
  have K1 := hide (KpM.of (g := g) (m := bm) (BW.out.trans (b1.mono BW.out.size)))
  have S1 := hide ((b1.block _ (lt_of_block DW'.out)).trans DW'.out)
  obtain ⟨⟨C0, C1, C2, C3⟩, ⟨C4, C5⟩, CF⟩ := H1.cell
  dsimp only at C0 C1 C2 C3 C4 C5
  have hlk := H1.map.look Tryz.underlying86 (zeroNd w1) hid.out true
  simp only [if_true] at hlk
  by_cases hin : id ∈ s.seen
  ·have hs2 : (m id).isSome = true := by rw [H1.has]; exact decide_eq_true hin
   obtain ⟨v, hv⟩ := Option.isSome_iff_exists.1 hs2
   obtain ⟨x, nd, kv, vv, dv, _, _, rfl, ho, _⟩ := H1.nds id v hv
   rw [hv] at hlk
   have hz : Hid (wk ps 0 id lo hi s = none) := wk_seen hin
   dsimp only [Option.getD, Option.isSome, nv] at hlk
   obtain ⟨ka, kc, va, vc, da, dc, rfl, rfl, rfl⟩ := ho.rd.slices
   replace hin := hide hin
   replace hp := hide hp
   replace hv := hide hv
   obtain ⟨V, hV, DV, bV, sV⟩ := boxedN w1 #[.bool nd.leaf, .slice ka nd.keys.length kc, .slice va nd.vals.length vc, .slice da nd.kids.length dc] 76
   have KV := hide (K1.out.trans (KpM.of bV))
   rw [hV] at KV
   clear hs2 ho DV bV sV hV
   go_wp2
   go_ret
   exact RchR.no rfl KV.out hz.out
  ·have hs2 : m id = none := by
    have h1 := H1.has id
    rw [decide_eq_false hin] at h1
    cases hm : m id with
    | none => rfl
    | some v => rw [hm] at h1; cases h1
   rw [hs2] at hlk
   dsimp only [Option.getD, Option.isSome] at hlk
   obtain ⟨V, hV, DV, bV, sV⟩ := boxedN w1 #[.bool false, .slice none 0 0, .slice none 0 0, .slice none 0 0] 76
   have KV := hide (K1.out.trans (KpM.of bV))
   have HV := hide (H1.to bV)
   have SV := hide ((bV.block _ (lt_of_block S1.out)).trans S1.out)
   replace hs2 := hide hs2
   clear DV bV H1 K1 S1
   cases ok with
   | false =>
    have hz : Hid (wk ps 0 id lo hi s = none) := by
     refine wk_none ?_
     rcases hp with ⟨o, _⟩ | ⟨_, o, _⟩
     ·cases o
     ·exact o
    rw [hV] at KV
    clear hp
    replace hin := hide hin
    go_wp2
    go_ret
    exact RchR.no rfl KV.out hz.out
   | true =>
    replace hp := hide hp
    replace hin := hide hin
    rw [hV] at KV
    go_wp2
    go_ret
    exact RchR.no rfl KV.out rfl
 | succ f ih =>
  intro hf w s m id lo hi H hs4 hBw hh hid
  obtain ⟨root, next, ps⟩ := t
  obtain ⟨a, c, rfl⟩ := H.pg.slice
  have lp : ps.length ≤ 65536 := by have := tups_len hU hN.1; dsimp only at this hN; omega
  obtain ⟨dep, hdep⟩ : ∃ d : Int, d = 17 - ((f + 1 : Nat) : Int) := ⟨_, rfl⟩
  dsimp only [sv]
  obtain ⟨hs, hhs⟩ : ∃ x, x = hi.getD [] := ⟨_, rfl⟩
  rw [← hdep, ← hhs]
  have hd16 : ¬ dep > 16 := by omega
  replace hdep := hide hdep
  replace hhs := hide hhs
  obtain ⟨W, hW, DW, bW, sW⟩ := boxedN w #[st lo, st hs] 72
  have HW := H.to bW
  have KP := hide (pdata_at w0 W _ ⟨root, next, ps⟩ id HW.pg HW.bel (tups_up hU) lp)
  obtain ⟨⟨C0, C1, C2, C3⟩, ⟨C4, C5⟩, CF⟩ := HW.cell
  dsimp only at C0 C1 C2 C3 C4 C5 hN
  rw [hW] at C0 C1 C2 C3 C4 C5 CF KP
  replace H := hide H
  replace HW := hide HW
  replace hU := hide hU
  replace ih := hide ih
  replace lp := hide lp
  replace hN := hide hN
  replace hh := hide hh
  replace hid := hide hid
  replace hBw := hide hBw
  replace hs4 := hide hs4
  have BW := hide bW
  have DW' := hide DW
  clear bW DW
  go_enter Tryz.func43, Tryz.ntmps43
  go_wp2_with fail
  refine KP.out.mono ?_
  rintro e w1 ⟨bv, ok, rfl, hp, b1⟩
  rw [← hW] at b1
  clear C0 C1 C2 C3 C4 C5 CF KP
  replace hW := hide hW
  have H1 := HW.out.to b1
  have K1 := hide (KpM.of (g := g) (m := bm) (BW.out.trans (b1.mono BW.out.size)))
  have S1 := hide ((b1.block _ (lt_of_block DW'.out)).trans DW'.out)
  obtain ⟨⟨C0, C1, C2, C3⟩, ⟨C4, C5⟩, CF⟩ := H1.cell
  dsimp only at C0 C1 C2 C3 C4 C5
  have hlk := H1.map.look Tryz.underlying86 (zeroNd w1) hid.out true
  simp only [if_true] at hlk
  by_cases hin : id ∈ s.seen
  ·have hs2 : (m id).isSome = true := by rw [H1.has]; exact decide_eq_true hin
   obtain ⟨v, hv⟩ := Option.isSome_iff_exists.1 hs2
   obtain ⟨x, nd, kv, vv, dv, _, _, rfl, ho, _⟩ := H1.nds id v hv
   rw [hv] at hlk
   have hz : Hid (wk ps (f + 1) id lo hi s = none) := wk_seen hin
   dsimp only [Option.getD, Option.isSome, nv] at hlk
   obtain ⟨ka, kc, va, vc, da, dc, rfl, rfl, rfl⟩ := ho.rd.slices
   replace hin := hide hin
   replace hp := hide hp
   replace hv := hide hv
   obtain ⟨V, hV, DV, bV, sV⟩ := boxedN w1 #[.bool nd.leaf, .slice ka nd.keys.length kc, .slice va nd.vals.length vc, .slice da nd.kids.length dc] 76
   have KV := hide (K1.out.trans (KpM.of bV))
   rw [hV] at KV
   clear hs2 ho DV bV sV hV
   go_wp2
   go_ret
   exact RchR.no rfl KV.out hz.out
  ·have hs2 : m id = none := by
    have h1 := H1.has id
    rw [decide_eq_false hin] at h1
    cases hm : m id with
    | none => rfl
    | some v => rw [hm] at h1; cases h1
   rw [hs2] at hlk
   dsimp only [Option.getD, Option.isSome] at hlk
   obtain ⟨V, hV, DV, bV, sV⟩ := boxedN w1 #[.bool false, .slice none 0 0, .slice none 0 0, .slice none 0 0] 76
   have KV := hide (K1.out.trans (KpM.of bV))
   have HV := hide (H1.to bV)
   have SV := hide ((bV.block _ (lt_of_block S1.out)).trans S1.out)
   replace hs2 := hide hs2
   clear DV bV H1 K1 S1
   cases ok with
   | false =>
    have hz : Hid (wk ps (f + 1) id lo hi s = none) := by
     refine wk_none ?_
     rcases hp with ⟨o, _⟩ | ⟨_, o, _⟩
     ·cases o
     ·exact o
    rw [hV] at KV
    clear hp
    replace hin := hide hin
    go_wp2
    go_ret
    exact RchR.no rfl KV.out hz.out
   | true =>
    obtain ⟨x, hx, hr⟩ : ∃ x, tpage ps id = some x ∧ Rd w0 bv x := by
     rcases hp with ⟨_, o⟩ | ⟨o, _⟩
     ·exact o
     ·cases o
    clear hp
    replace hin := hide hin
    have KD := hide (pdecD_any V bv x (hr.to HV.out.bel))
    replace hx := hide hx
    clear hr
    rw [hV] at KD
    go_wp2_with fail
    refine KD.out.mono ?_
    rintro e w3 ⟨kv, vv, dv, rfl, hon, b3, hdj⟩
    replace hdj := hide hdj
    rw [← hV] at b3 hon
    clear C0 C1 C2 C3 C4 C5 CF hlk KD
    replace hV := hide hV
    obtain ⟨nd, hnd⟩ : ∃ nd, nd = (ndec x).1 := ⟨_, rfl⟩
    obtain ⟨err, herr⟩ : ∃ err, err = (ndec x).2 := ⟨_, rfl⟩
    rw [← hnd] at hon ⊢
    rw [← herr]
    obtain ⟨U, hUU, DU, bU, sU⟩ := boxedN w3 #[.bool nd.leaf, kv, vv, dv] 76
    have bb := b3.trans (bU.mono b3.size)
    have HU1 := hide (HV.out.to bb)
    have KU := hide (KV.out.trans (KpM.of bb))
    have SU := hide ((bb.block _ (lt_of_block SV.out)).trans SV.out)
    have hBV : B ≤ V.heap.size := Nat.le_trans hBw.out KV.out.2.1
    have ON := hide ((hon.to bU).mono hBV)
    have hnb : Hid (B ≤ w3.heap.size ∧ B ≤ w.heap.size) := ⟨Nat.le_trans hBV b3.size, hBw.out⟩
    obtain ⟨⟨E0, E1, E2, E3⟩, EF⟩ := cells4 DU
    obtain ⟨ka, kc, va, vc, da, dc, rfl, rfl, rfl⟩ := hon.rd.slices
    obtain ⟨⟨S0, S1⟩, _⟩ := cells2r SU.out
    obtain ⟨⟨C0, C1, C2, C3⟩, ⟨C4, C5⟩, CF⟩ := HU1.out.cell
    dsimp only at C0 C1 C2 C3 C4 C5
    have KC := hide (pcont_any U lo hi hh.out _ nd.keys ON.out.rd.keys)
    dsimp only [sv] at KC
    rw [← hhs.out, hUU] at KC
    have DU' := hide DU
    rw [hUU] at E0 E1 E2 E3 S0 S1 C0 C1 C2 C3 C4 C5 CF
    have hfr := hide (rows_new HV.out.nds hon)
    clear DU b3 bU bb hon KV HV SV hBV
    by_cases he : err = 0
    ·subst he
     have hd : Hid (ndec x = (nd, 0)) := by show _ = _; rw [hnd, herr]
     replace hnd := hide hnd
     replace herr := hide herr
     go_wp2_with fail
     refine KC.out.mono ?_
     rintro e w4 ⟨R, rfl, hR, b4⟩
     rw [← hUU] at b4
     clear E0 E1 E2 E3 S0 S1 C0 C1 C2 C3 C4 C5 CF KC
     replace hUU := hide hUU
     have H4 := hide (HU1.out.to b4)
     have K4 := hide (KU.out.trans (KpM.of b4))
     have N4 := hide (ON.out.to b4)
     have D4 := hide ((b4.block _ (lt_of_block DU'.out)).trans DU'.out)
     have S4 := hide ((b4.block _ (lt_of_block SU.out)).trans SU.out)
     clear HU1 KU ON DU' SU b4
     cases R with
     | true =>
      have hz : Hid (wk ps (f + 1) id lo hi s = none) := wk_outs hx.out (by rw [← hnd.out]; exact hR.1 rfl)
      clear hR
      go_wp2
      go_ret
      exact RchR.no rfl K4.out hz.out
     | false =>
      have hall : Hid (nd.keys.all (kin lo hi) = true) := by
       show _ = _
       cases hq : nd.keys.all (kin lo hi) with
       | true => rfl
       | false => have := hR.2 hq; cases this
      clear hR
      have hb1 := hide (tpage_bd hU.out hx.out)
      have hlen : Hid (s.seen.length < maxLen) := by
       have := nodup_len 65536 s.seen H4.out.ok.1 (fun i hi => by have h1 := H4.out.ok.2.1 i hi; have h2 := hN.out; dsimp only at h1; omega)
       show _ < _
       unfold maxLen; omega
      have bD : Below w4.heap.size w4 w4.drew := below_drewN' w4 1 _
      have HD := H4.out.to bD
      obtain ⟨w5, hrun, hmap, hgr⟩ := HD.map.store Tryz.underlying86 hlen.out hid.out (nv nd (.slice ka nd.keys.length kc) (.slice va nd.vals.length vc) (.slice da nd.kids.length dc))
      have ND : NdOf ps B w4.drew id (nv nd (.slice ka nd.keys.length kc) (.slice va nd.vals.length vc) (.slice da nd.kids.length dc)) := ⟨x, nd, _, _, _, hx.out, hd.out, rfl, N4.out.to bD, hdj.out⟩
      obtain ⟨P5, k5⟩ := HD.see hgr hmap hb1.out hin.out ND hfr.out
      have DD := (bD.block _ (lt_of_block D4.out)).trans D4.out
      obtain ⟨⟨E0, E1, E2, E3⟩, EF⟩ := cells4 DD
      obtain ⟨⟨C0, C1, C2, C3⟩, ⟨C4, C5⟩, CF⟩ := HD.cell
      have hgn : Hid (g < B ∧ bm < B) := ⟨H4.out.hg.2, H4.out.hm.2⟩
      have N5 := hide (k5.node (N4.out.to bD) hgn.out.1 hgn.out.2)
      have D5 := hide ((k5.1 _ (lt_of_block DD) (by have := hgn.out; have := hnb.out; omega) (by have := hgn.out; have := hnb.out; omega)).trans DD)
      have SD := (bD.block _ (lt_of_block S4.out)).trans S4.out
      have S5 := hide ((k5.1 _ (lt_of_block SD) (by have := hgn.out; have := hnb.out; omega) (by have := hgn.out; have := hnb.out; omega)).trans SD)
      have K5 := hide ((K4.out.trans (KpM.of bD)).trans k5)
      obtain ⟨m5, P5⟩ : ∃ m5, PWk w0 w5 B g bm ⟨root, next, ps⟩ (.slice a ps.length c) ⟨id :: s.seen, s.dep, s.prs⟩ m5 := ⟨_, P5⟩
      replace P5 := hide P5
      dsimp only [nv] at hrun
      have hrun' := hide hrun
      clear HD hmap hgr ND k5 DD SD bD hrun H4 K4 N4 D4 S4
      go_wp2
      refine wp_region_mid (fun w' => w'.cell? ⟨g, 3, none⟩ = some (.map (some bm)) ∧ w'.cell? ⟨w3.heap.size, 0, none⟩ = some (.bool nd.leaf) ∧ w'.cell? ⟨w3.heap.size, 1, none⟩ = some (.slice ka nd.keys.length kc) ∧ w'.cell? ⟨w3.heap.size, 2, none⟩ = some (.slice va nd.vals.length vc) ∧ w'.cell? ⟨w3.heap.size, 3, none⟩ = some (.slice da nd.kids.length dc)) 6 6 mixed (by kernel_rfl) (fun _ _ _ _ h => h) ⟨C3, E0, E1, E2, E3⟩ ?_
      dsimp only [List.take, List.drop]
      iterate 6
       refine take_one (v := ?_) (by rfl) ?_ ?_
       rotate_left
       ·rintro w' ⟨s1, s2, s3, s4, s5⟩
        go_simp
        try with_reducible rfl
       try simp only [Act.put, List.setIfInBounds_toArray, List.set_cons_zero, List.set_cons_succ]
      show wpList _ _ _ _ _ _
      have hrun := hrun'.out
      clear C0 C1 C2 C3 C4 C5 CF E0 E1 E2 E3 EF
      obtain ⟨⟨E0, E1, E2, E3⟩, EF⟩ := cells4 D5.out
      have hok : NOk nd := by have := (ndec_back (xs := x) (by rw [hd.out])).1; rw [hd.out] at this; exact this
      have hK3 : nd.keys.length ≤ 300 := (npr_len hok).2
      replace hok := hide hok
      cases hlf : nd.leaf with
      | true =>
       rw [hlf] at E0 hrun
       have hlv : Hid (nd.vals.length = nd.keys.length) := by
        have h1 := hok.out.2.1
        unfold ncount at h1
        rw [if_pos hlf] at h1
        exact h1.1
       have hW := wk_leaf (f := f) hx.out hin.out hd.out hall.out hlf
       have hL : s.prs.length ≤ 100000000 := by have := P5.out.ok.len hN.out.2; dsimp only at this; omega
       have hdep' : dep = 16 - (f : Int) := by have := hdep.out; omega
       have FIN := hide (leaf_fin hW hlv.out P5.out.dep hdep' (D := sdep s) (by unfold sdep; rfl))
       have KCt := hide (pcount_any w5 g _ _ _ _ s.prs.length nd.keys.length _ dep P5.out.box hL (by omega))
       replace hlf := hide hlf
       clear hW hL
       replace hdep' := hide hdep'
       go_wp2_with fail
       refine KCt.out.mono ?_
       rintro e w6 ⟨R2, rfl, kg, hbx, hR2⟩
       have K6 : KpM g bm w5 w6 := ⟨fun b h1 h2 _ => kg.1 b h1 h2, kg.2.1, fun C h1 _ h3 => kg.2.2 C h1 h3⟩
       have RR : Hid (RchR w0 w w6 B g bm ⟨root, next, ps⟩ (.slice a ps.length c) (wk ps (f + 1) id lo hi s) (.returned (.bool R2))) := by
        refine ⟨R2, rfl, K5.out.trans K6, ?_⟩
        cases hr : R2 with
        | true =>
         have hc := hR2.1 hr
         obtain ⟨f1, f2⟩ := FIN.out.1 hc
         refine .inl ⟨rfl, _, m5, f1, f2, ?_⟩
         have hnl : (npr nd).length = nd.keys.length := by rw [npr, List.length_zip, hlv.out, Nat.min_self]
         refine P5.out.leaf kg ?_ (fun h => by rw [h] at hnl; have := hc.1; simp at hnl; omega) ?_
         ·rw [hnl, ← hdep'.out, hc.2.1]
          exact hbx
         ·exact H.out.ok.see hb1.out hin.out (some f) (npr_len hok.out).1
        | false => exact .inr ⟨rfl, FIN.out.2 (fun h => by have := hR2.2 h; rw [hr] at this; cases this)⟩
       clear kg hbx hR2 K6 KCt FIN
       go_wp2
       go_ret
       exact RR.out
      | false =>
       rw [hlf] at E0 hrun
       have hW := hide (wk_inner (f := f) hx.out hin.out hd.out hall.out hlf)
       obtain ⟨s1, hs1'⟩ : ∃ s1 : Sw, s1 = ⟨id :: s.seen, s.dep, s.prs⟩ := ⟨_, rfl⟩
       rw [← hs1'] at P5 hW
       have hDK : nd.kids.length = nd.keys.length + 1 := by
        have h1 := hok.out.2.1
        unfold ncount at h1
        rw [hlf, if_neg (by decide)] at h1
        exact h1.2.2
       obtain ⟨D, hD⟩ : ∃ D, D = nd.kids.length := ⟨_, rfl⟩
       obtain ⟨KK, hKK⟩ : ∃ K, K = nd.keys.length := ⟨_, rfl⟩
       have hD3 : D ≤ 301 := by omega
       have hDK' : Hid (D = KK + 1) := by show _ = _; omega
       rw [← hD] at hrun E3 D5 N5
       rw [← hKK] at hrun E1 D5 N5
       rw [← hD, ← hKK]
       replace hDK := hide hDK
       replace hD := hide hD
       replace hKK := hide hKK
       obtain ⟨dp, hdp⟩ : ∃ d : Int, dep + 1 = d := ⟨_, rfl⟩
       have hdw : IntKind.i64.wrap dp = dp := IntWalk.i64_in _ (by have := hdep.out; omega)
       have hde : Hid (dp = 17 - (f : Int)) := by show _ = _; have := hdep.out; omega
       replace hlf := hide hlf
       replace hs1' := hide hs1'
       go_wp2
       clear hrun E0 E1 E2 E3 EF
       go_loopw [75] (fun p wr => ∃ k : Nat, k ≤ D ∧ p = .int .i64 k ∧ Hid (∃ s' m', wkK (wk ps f) nd lo hi 0 (nd.kids.take k) s1 = some s' ∧ s'.prs.length ≤ 4096 ∧ PWk w0 wr B g bm ⟨root, next, ps⟩ (.slice a ps.length c) s' m' ∧ KpM g bm w5 wr)) (fun p _ => D - (intOf p).toNat)
       case atStart => exact ⟨0, Nat.zero_le _, rfl, hide ⟨s1, m5, rfl, by rw [hs1'.out]; exact hs4.out, P5.out, KpM.refl _ _ _⟩⟩
       case round =>
        obtain ⟨k, hk, rfl, hI⟩ := hrel
        obtain ⟨s2, m2, q1, q2, q3, q4⟩ := hI.out
        clear hI
        have N6 := q4.node N5.out hgn.out.1 hgn.out.2
        have D6 := (q4.1 _ (lt_of_block D5.out) (by have := hgn.out; have := hnb.out; omega) (by have := hgn.out; have := hnb.out; omega)).trans D5.out
        have S6 := (q4.1 _ (lt_of_block S5.out) (by have := hgn.out; have := hnb.out; omega) (by have := hgn.out; have := hnb.out; omega)).trans S5.out
        obtain ⟨⟨E0, E1, E2, E3⟩, EF⟩ := cells4 D6
        obtain ⟨⟨T0, T1⟩, _⟩ := cells2r S6
        by_cases hlt : k < D
        ·have hq : (k : Int) < (D : Int) := by omega
         obtain ⟨kid, hkid⟩ := some_el nd.kids (k := k) (by rw [← hD.out]; exact hlt)
         obtain ⟨b3, off3, e3, hc3⟩ := N6.rd.kids.intAt hkid
         have KO := hide (pofkid_any wr lo hi (.slice ka KK kc) nd k N6.rd.keys (by have := hDK'.out; rw [← hKK.out]; omega))
         have hst : Hid (wkK (wk ps f) nd lo hi 0 (nd.kids.take (k + 1)) s1 = wk ps f kid (kidLo nd lo k) (kidHi nd hi k) s2) := by show _ = _; rw [wkK_take _ _ _ _ _ _ hkid, q1]; rfl
         have hkw : Hid ((Lit.int .i64 kid).wf = true) := by
          have := hok.out.2.2.2.1 k (by rw [← hD.out]; exact hlt)
          rw [hkid] at this
          simp only [Option.getD_some] at this
          exact WalkArith.wf_i64 (by omega)
         have hho : Hid (HiOk (kidHi nd hi k)) := by
          unfold kidHi
          split
          ·rename_i hlk
           have := (hok.out.1 k hlk).1
           unfold nkey at this
           intro h9
           simp only [Option.some.injEq, List.getD_eq_getElem?_getD] at h9
           rw [h9] at this
           simp at this
          ·exact hh.out
         have R3 := hide (And.intro q1 (And.intro q2 (And.intro q3 q4)))
         have hBr : Hid (B ≤ wr.heap.size) := Nat.le_trans hBw.out (Nat.le_trans K5.out.2.1 q4.2.1)
         replace hkid := hide hkid
         dsimp only [sv] at KO
         rw [← hhs.out] at KO
         clear q1 q2 q3 q4 N6 D6 S6
         subst e3
         go_wp2_with fail
         refine KO.out.mono ?_
         rintro e w7 ⟨rfl, b7⟩
         have KR := hide (ih.out (by omega) w7 s2 m2 kid (kidLo nd lo k) (kidHi nd hi k) (R3.out.2.2.1.to b7) R3.out.2.1 (Nat.le_trans hBr.out b7.size) hho.out hkw.out)
         rw [← hde.out] at KR
         have K7 := hide (R3.out.2.2.2.trans (KpM.of b7))
         clear b7 KO
         go_wp2_with fail
         refine KR.out.mono ?_
         rintro e w8 ⟨R8, rfl, k8, h8⟩
         cases R8 with
         | true =>
          have hI' : Hid (∃ s' m', wkK (wk ps f) nd lo hi 0 (nd.kids.take (k + 1)) s1 = some s' ∧ s'.prs.length ≤ 4096 ∧ PWk w0 w8 B g bm ⟨root, next, ps⟩ (.slice a ps.length c) s' m' ∧ KpM g bm w5 w8) := by
           rcases h8 with ⟨_, s', m', p1, p2, p3⟩ | ⟨p, _⟩
           ·exact ⟨s', m', by rw [hst.out]; exact p1, p2, p3, K7.out.trans k8⟩
           ·cases p
          clear h8 k8 KR
          go_wp2
          go_roundw
          case rel => exact ⟨k + 1, by omega, by go_num, hI'⟩
          case measure => simp [intOf]; omega
         | false =>
          have RR : Hid (RchR w0 w w8 B g bm ⟨root, next, ps⟩ (.slice a ps.length c) (wk ps (f + 1) id lo hi s) (.returned (.bool false))) := by
           refine ⟨false, rfl, K5.out.trans (K7.out.trans k8), .inr ⟨rfl, fun s' hs' => ?_⟩⟩
           rw [hW.out] at hs'
           obtain ⟨sk, z1, z2⟩ := wkK_at (wk_mono ps f) nd lo hi nd.kids s1 s' hs' (nd.kids.length - (k + 1)) (k + 1) (by rw [← hD.out]; omega)
           rw [hst.out] at z1
           rcases h8 with ⟨p, _⟩ | ⟨_, p⟩
           ·cases p
           ·have := p sk z1; omega
          clear h8 k8 KR
          go_wp2
          go_ret
          exact RR.out
        ·have hq : ¬ (k : Int) < (D : Int) := by omega
         have ht : nd.kids.take k = nd.kids := List.take_of_length_le (by rw [← hD.out]; omega)
         rw [ht, ← hW.out] at q1
         have RR : Hid (RchR w0 w wr B g bm ⟨root, next, ps⟩ (.slice a ps.length c) (wk ps (f + 1) id lo hi s) (.returned (.bool true))) := ⟨true, rfl, K5.out.trans q4, .inl ⟨rfl, s2, m2, q1, q2, q3⟩⟩
         clear q1 q2 q3 q4 ht N6 D6 S6
         go_wp2
         go_ret
         exact RR.out
    ·have hq : (err != 0) = true := by simpa using he
     have hz : Hid (wk ps (f + 1) id lo hi s = none) := wk_bad hx.out (by rw [← herr]; exact he)
     replace he := hide he
     replace hnd := hide hnd
     replace herr := hide herr
     rw [hUU] at KU
     go_wp2
     go_ret
     exact RchR.no rfl KU.out hz.out
end Go.Proofs.YtgmkknonnidgaaaGreat

namespace Go.Proofs.YtgmkknonnidgaaaGreat
open Go.RowKit
theorem infoBoolT : (Tryz.prog.info? 4).map (fun i => (i.zero, i.size, i.bytes)) = some (some (.bool false), 1, 1) := by kernel_rfl
theorem make_boolsT {n : Nat} (hn : n ≤ 281474976710656) (u : World) : (Instr.makeSlice 100 (.int .i64 (n : Int)) (.int .i64 (n : Int))).run Tryz.prog u =
      .ok (.slice (some ⟨u.heap.size, 0, none⟩) n n) (u.alloc (.cells (madeCells #[.bool false] n) 4)) := by
 obtain ⟨i0, hi, hz0, hz1, hz2⟩ := info_parts infoBoolT
 have h := run_make (P := Tryz.prog) u 100 4 i0 (.bool false) Tryz.underlying100 hi hz0 .i64 .i64 (n : Int) (n : Int) (by omega) (Int.le_refl _) (by rw [hz2]; omega) (by omega)
 simpa [hz1, Value.cells] using h
theorem SeenW.made (w : World) (n : Nat) (h : n ≤ 281474976710656) : SeenW w.heap.size n [] (w.alloc (.cells (madeCells #[.bool false] n) 4)) := by
 have := World.ownsRow_lit (base := w.heap.size) (e := 4) (size := 1) w (madeCells #[.bool false] n) n (Nat.le_refl _) (by unfold maxLen; omega) (by simp [madeCells])
 rw [toList_madeCells_one] at this
 show World.ownsRow _ _ _ _ _ _ _
 rw [useen_nil, List.map_replicate]
 exact this
def WksR (w w' : World) (t : Tr) (pv : Value) (n : Nat) (e : Ending) : Prop :=
 ∃ g bs prv s bad, e = .returned (.pointer (some ⟨g, 0, none⟩)) ∧ RWk w w' g bs n t pv prv s bad ∧ ((twalk t = some s ∧ bad = false) ∨ (twalk t = none ∧ bad = true))
set_option maxRecDepth 100000 in
set_option maxHeartbeats 2000000 in
theorem rwalks_any (w : World) (t : Tr) (pv : Value) (n : Nat) (hn : (n : Int) = t.next + 1) (hN : 1 ≤ t.next ∧ t.next ≤ 65536) (hU : tups t.next t.pages t.pages.length) (h : RdC w pv t.pages) :
  Calls Tryz.prog 45 #[tv t pv] w fun e w' => WksR w w' t pv n e := by
 have hmk := fun u => make_boolsT (n := n) (by omega) u
 have KG := hide (rgo_any w t pv)
 obtain ⟨root, next, ps⟩ := t
 obtain ⟨a, c, rfl⟩ := h.slice
 obtain ⟨W, hW, D, bW, sW⟩ := boxedN w #[.int .i64 root, .int .i64 next, .slice a ps.length c] 40
 obtain ⟨⟨D0, D1, D2⟩, _⟩ := cells3p D
 dsimp only [tv] at *
 have hnw : IntKind.i64.wrap (n : Int) = (n : Int) := IntWalk.i64_in _ (by omega)
 have hE := hide (And.intro D0 (And.intro D1 D2))
 rw [hW] at D0 D1 D2
 have hn2 : next + 1 = (n : Int) := hn.symm
 replace hn := hide hn
 go_enter Tryz.func45, Tryz.ntmps45
 go_wp2
 rw [← hW]
 replace hW := hide hW
 obtain ⟨D0, D1, D2⟩ := hE.out
 go_region
 obtain ⟨X1, hX1⟩ : ∃ X, X = W.alloc (.cells (madeCells #[.bool false] n) 4) := ⟨_, rfl⟩
 obtain ⟨X2, hX2, DX, bX2, sX2⟩ := boxedN X1 #[.int .i64 root, .int .i64 next, .slice a ps.length c, .slice (some ⟨w.heap.size + 1, 0, none⟩) n n, .bool false, .int .i64 0, .bool false, .slice none 0 0] 102
 have s1 : X1.heap.size = w.heap.size + 1 + 1 := by rw [hX1]; simp [sW]
 have b1 : Below W.heap.size W X1 := by rw [hX1]; exact (Below.refl _ _).alloc (Nat.le_refl _) _
 have sw0 : SeenW (w.heap.size + 1) n [] X1 := by rw [hX1, ← sW]; exact SeenW.made W n (by have := hn.out; omega)
 have bw := bW.trans ((b1.mono bW.size).trans (bX2.mono (by omega)))
 have R0 : RWk w X2 (w.heap.size + 1 + 1) (w.heap.size + 1) n ⟨root, next, ps⟩ (.slice a ps.length c) (.slice none 0 0) ⟨[], none, []⟩ false :=
  ⟨by rw [← s1]; exact DX, rows_to sw0 bX2, World.ownsRow_nil _ _ _ _, h, ⟨List.nodup_nil, (fun i hi => by cases hi), Nat.zero_le _⟩, bw, by omega, by omega⟩
 have bd : Below X2.heap.size X2 X2.drew := below_drewN' X2 1 _
 replace R0 := R0.to bd
 have HB := hide (bw.trans (bd.mono bw.size))
 have e0 := (HB.out.cell (p := ⟨w.heap.size, 0, none⟩))
 have E0 : X2.drew.cell? ⟨w.heap.size, 0, none⟩ = some (.int .i64 root) := by
  have q : Below W.heap.size W X2.drew := (b1.trans (bX2.mono b1.size)).trans (bd.mono (b1.trans (bX2.mono b1.size)).size)
  exact (q.cell (cell_lt D0)).trans D0
 rw [← hX1]
 rw [← hX2]
 clear e0 D0 D1 D2 hE
 have RR := hide R0
 have KC := hide (KG.out (w.heap.size + 1 + 1) (w.heap.size + 1) n hn.out hN hU 16 (Nat.le_refl _) X2.drew _ _ false root [] none R0)
 clear R0 bw bd DX bX2 sX2 s1 b1 sw0 hX1 hX2 KG hmk D bW sW hn2 hnw
 generalize X2.drew = Y at *
 replace hU := hide hU
 replace h := hide h
 replace hN := hide hN
 by_cases r0 : root = 0
 ·have hr : Hid (twalk ⟨root, next, ps⟩ = some ⟨[], none, []⟩) := by show _ = _; unfold twalk; rw [if_pos r0]
  have r1 : (root != 0) = false := by simp [r0]
  replace r0 := hide r0
  go_wp2
  go_ret
  exact ⟨_, _, _, _, _, rfl, RR.out, .inl ⟨hr.out, rfl⟩⟩
 ·have hr : Hid (twalk ⟨root, next, ps⟩ = wk ps 16 root [] none ⟨[], none, []⟩) := by show _ = _; unfold twalk; rw [if_neg r0]
  have r1 : (root != 0) = true := by simp [r0]
  replace r0 := hide r0
  go_wp2_with fail
  refine KC.out.mono ?_
  rintro e w7 ⟨rfl, pv7, s7, bad7, q1, q2, q3⟩
  have Q := hide (And.intro q1 q3)
  clear q1 q2 q3 KC
  go_wp2
  go_ret
  refine ⟨_, _, _, _, _, rfl, Q.out.1, ?_⟩
  rw [hr.out]
  exact Q.out.2.2 rfl
def PrsR (B : Nat) (w' : World) (o : Option (List Pr)) (v : Value) (err : Int) : Prop := (∃ l, o = some l ∧ err = 0 ∧ OwnP B w' v l) ∨ (o = none ∧ err = 9 ∧ v = .slice none 0 0)
set_option maxRecDepth 100000 in
set_option maxHeartbeats 2000000 in
theorem rprs_any (w : World) (t : Tr) (pv : Value) (h : RdC w pv t.pages) :
  Calls Tryz.prog 29 #[tv t pv] w fun e w' => ∃ v err, e = .returned (.tuple #[v, .int .i64 err]) ∧ PrsR w.heap.size w' (tprs t) v err ∧ Below w.heap.size w w' := by
 obtain ⟨root, next, ps⟩ := t
 obtain ⟨a, c, rfl⟩ := h.slice
 obtain ⟨W, hW, D, bW, sW⟩ := boxedN w #[.int .i64 root, .int .i64 next, .slice a ps.length c] 40
 dsimp only [tv] at *
 have KN := hide (rnumbers_any W (.slice a ps.length c) ⟨root, next, ps⟩ (h.to0 bW))
 obtain ⟨⟨D0, D1, D2⟩, _⟩ := cells3p D
 have hE := hide (And.intro D0 (And.intro D1 D2))
 have HB := hide bW
 have HH := hide h
 rw [hW] at D0 D1 D2 KN
 dsimp only [tv] at KN
 clear h bW D sW
 go_enter Tryz.func29, Tryz.ntmps29
 go_wp2_with fail
 refine KN.out.mono ?_
 rintro e w1 ⟨rfl, b1⟩
 rw [← hW] at b1
 replace hW := hide hW
 have B1 := hide (HB.out.trans (b1.mono HB.out.size))
 have E1 : Hid (w1.cell? ⟨w.heap.size, 0, none⟩ = some (.int .i64 root) ∧ w1.cell? ⟨w.heap.size, 1, none⟩ = some (.int .i64 next) ∧ w1.cell? ⟨w.heap.size, 2, none⟩ = some (.slice a ps.length c)) :=
  ⟨(b1.cell (cell_lt hE.out.1)).trans hE.out.1, (b1.cell (cell_lt hE.out.2.1)).trans hE.out.2.1, (b1.cell (cell_lt hE.out.2.2)).trans hE.out.2.2⟩
 clear b1 KN hE D0 D1 D2
 by_cases hT : TNum ⟨root, next, ps⟩
 ·have q1 : decide (TNum ⟨root, next, ps⟩) = true := decide_eq_true hT
  have hr : Hid (tprs ⟨root, next, ps⟩ = (twalk ⟨root, next, ps⟩).bind fun s => if s.prs.length ≤ 4096 then some s.prs else none) := by show _ = _; unfold tprs; rw [if_pos hT]
  obtain ⟨n, hn⟩ : ∃ n : Nat, (n : Int) = next + 1 := ⟨(next + 1).toNat, by have := hT.1; dsimp only at this; omega⟩
  have KW := hide (rwalks_any w1 ⟨root, next, ps⟩ (.slice a ps.length c) n hn ⟨hT.1, hT.2.1⟩ hT.2.2.1 (HH.out.to0 B1.out))
  dsimp only [tv] at KW
  replace hT := hide hT
  replace hn := hide hn
  obtain ⟨D0, D1, D2⟩ := E1.out
  rw [q1]
  clear q1
  go_wp2_with fail
  refine KW.out.mono ?_
  rintro e w2 ⟨g, bs, prv, s, bad, rfl, q1, q2⟩
  have Q := hide (And.intro q1 q2)
  have B2 := hide (B1.out.trans (q1.bel.mono B1.out.size))
  obtain ⟨⟨_, _, _, _⟩, ⟨C4, _, _, C7⟩, CF⟩ := q1.cell
  obtain ⟨pa, pc, hpv⟩ := q1.prs.rd.slice
  subst hpv
  clear q1 q2 KW
  cases bad with
  | true =>
   have hz : Hid (tprs ⟨root, next, ps⟩ = none) := by
    show _ = _
    rw [hr.out]
    rcases Q.out.2 with ⟨_, q⟩ | ⟨q, _⟩
    ·cases q
    ·rw [q]; rfl
   go_wp2
   go_ret2
   exact ⟨_, _, rfl, .inr ⟨hz.out, rfl, rfl⟩, B2.out⟩
  | false =>
   have hs : Hid (twalk ⟨root, next, ps⟩ = some s) := by
    rcases Q.out.2 with ⟨q, _⟩ | ⟨_, q⟩
    ·exact q
    ·cases q
   obtain ⟨m, hm⟩ : ∃ m, m = s.prs.length := ⟨_, rfl⟩
   rw [← hm] at C7
   replace hm := hide hm
   by_cases hgt : (m : Int) > 4096
   ·have hz : Hid (tprs ⟨root, next, ps⟩ = none) := by
     show _ = _
     rw [hr.out, hs.out]
     show (if s.prs.length ≤ 4096 then _ else _) = _
     rw [if_neg (by rw [← hm.out]; omega)]
    go_wp2
    go_ret2
    exact ⟨_, _, rfl, .inr ⟨hz.out, rfl, rfl⟩, B2.out⟩
   ·have hz : Hid (tprs ⟨root, next, ps⟩ = some s.prs) := by
     show _ = _
     rw [hr.out, hs.out]
     show (if s.prs.length ≤ 4096 then _ else _) = _
     rw [if_pos (by rw [← hm.out]; omega)]
    have O2 : Hid (OwnP w.heap.size w2 (.slice pa m pc) s.prs) := by rw [hm.out]; exact rows_mono Q.out.1.prs B1.out.size
    go_wp2
    go_ret2
    exact ⟨_, _, rfl, .inl ⟨_, hz.out, rfl, O2.out⟩, B2.out⟩
 ·have q1 : decide (TNum ⟨root, next, ps⟩) = false := decide_eq_false hT
  have hr : Hid (tprs ⟨root, next, ps⟩ = none) := by show _ = _; unfold tprs; rw [if_neg hT]
  replace hT := hide hT
  rw [q1]
  clear q1
  go_wp2
  go_ret2
  exact ⟨_, _, rfl, .inr ⟨hr.out, rfl, rfl⟩, B1.out⟩
end Go.Proofs.YtgmkknonnidgaaaGreat

namespace Go.Proofs.YtgmkknonnidgaaaGreat
open Go.RowKit
def pget (l : List Pr) (k : Str) : Option Str := (l.find? fun y => y.1 == k).map (·.2)
def pin (a b : Str) (y : Pr) : Bool := !slt y.1 a && (b == [] || slt y.1 b)
def pscan (l : List Pr) (a b : Str) : List Pr := l.filter (pin a b)
def tscan (t : Tr) (a b : Str) : List Pr × Int := match tprs t with
 | none => ([], 9)
 | some l => (pscan l a b, 0)
def tcheck (t : Tr) : Int := match tprs t with
 | none => 9
 | some _ => 0
theorem ret_i {a b : Int} (h : a = b) : Ending.returned (.int .i64 a) = .returned (.int .i64 b) := by rw [h]
theorem pget_hit {l : List Pr} {i : Nat} {y : Pr} {k : Str} (hy : l[i]? = some y) (h : (y.1 == k) = true) (hb : ∀ t z, t < i → l[t]? = some z → (z.1 == k) = false) : pget l k = some y.2 := by
 unfold pget
 have : l.find? (fun y => y.1 == k) = some y := by
  induction l generalizing i with
  | nil => simp at hy
  | cons x r ih =>
   cases i with
   | zero =>
    have : x = y := by simpa using hy
    subst this
    simp [List.find?, h]
   | succ i =>
    have h0 := hb 0 x (by omega) rfl
    rw [List.find?_cons, h0]
    exact ih (i := i) (by simpa using hy) (fun t z ht hz => hb (t + 1) z (by omega) (by simpa using hz))
 rw [this]; rfl
theorem pget_none {l : List Pr} {k : Str} (hb : ∀ (t : Nat) z, l[t]? = some z → (z.1 == k) = false) : pget l k = none := by
 unfold pget
 have : l.find? (fun y => y.1 == k) = none := by
  rw [List.find?_eq_none]
  intro z hz
  obtain ⟨t, ht, e⟩ := List.getElem_of_mem hz
  simp [hb t z (by rw [List.getElem?_eq_getElem ht, e])]
 rw [this]; rfl
theorem pscan_snoc (l : List Pr) (a b : Str) {i : Nat} {y : Pr} (h : l[i]? = some y) : pscan (l.take (i + 1)) a b = if pin a b y = true then pscan (l.take i) a b ++ [y] else pscan (l.take i) a b := by
 unfold pscan
 rw [List.take_add_one, h, List.filter_append]
 cases hp : pin a b y <;> simp [hp]
end Go.Proofs.YtgmkknonnidgaaaGreat

namespace Go.Proofs.YtgmkknonnidgaaaGreat
open Go.RowKit
theorem TNum.p {t : Tr} (h : TNum t) : PNum t := ⟨h.1, h.2.1, h.2.2.1⟩
theorem twalk_num {t : Tr} {s : Sw} (h : twalk t = some s) : t.root = 0 ∨ tpage t.pages t.root ≠ none := by
 unfold twalk at h
 by_cases e : t.root = 0
 ·exact .inl e
 ·rw [if_neg e] at h
  refine .inr fun h1 => ?_
  rw [wk_none h1] at h
  cases h
theorem tprs_of {t : Tr} {s : Sw} (hp : PNum t) (h : twalk t = some s) (hl : s.prs.length ≤ 4096) : tprs t = some s.prs := by
 unfold tprs
 rw [if_pos (show TNum t from ⟨hp.1, hp.2.1, hp.2.2, twalk_num h⟩), h]
 simp [hl]
theorem tprs_no {t : Tr} (h : ¬ PNum t) : tprs t = none := by
 unfold tprs
 rw [if_neg fun h1 => h h1.p]
theorem tprs_no2 {t : Tr} (h : ∀ s, twalk t = some s → 4096 < s.prs.length) : tprs t = none := by
 unfold tprs
 split
 ·cases hw : twalk t with
  | none => rfl
  | some s =>
   have := h s hw
   simp [show ¬ s.prs.length ≤ 4096 by omega]
 ·rfl
def WofR (w w' : World) (t : Tr) (pv : Value) (e : Ending) : Prop :=
 (∃ g bm B s m, e = .returned (.tuple #[.pointer (some ⟨g, 0, none⟩), .int .i64 0]) ∧ PNum t ∧ twalk t = some s ∧ s.prs.length ≤ 4096 ∧ PWk w w' B g bm t pv s m ∧ B ≤ w'.heap.size) ∨
 (e = .returned (.tuple #[.pointer none, .int .i64 9]) ∧ tprs t = none ∧ Below w.heap.size w w')
set_option maxRecDepth 100000 in
set_option maxHeartbeats 2000000 in
theorem pwalkof_any (w : World) (t : Tr) (pv : Value) (h : RdC w pv t.pages) (hroot : (Lit.int .i64 t.root).wf = true) : Calls Tryz.prog 24 #[tv t pv] w fun e w' => WofR w w' t pv e := by
 have hmm := @run_makeMap Tryz.prog
 obtain ⟨root, next, ps⟩ := t
 obtain ⟨a, c, rfl⟩ := h.slice
 obtain ⟨W, hW, DW, bW, sW⟩ := boxedN w #[.int .i64 root, .int .i64 next, .slice a ps.length c] 27
 obtain ⟨⟨D0, D1, D2⟩, _⟩ := cells3p DW
 dsimp only [tv] at *
 obtain ⟨M, hM⟩ : ∃ M, M = W.alloc (.map #[] 0) := ⟨_, rfl⟩
 have sM : M.heap.size = w.heap.size + 1 + 1 := by rw [hM]; simp [sW]
 have bM : Below W.heap.size W M := by rw [hM]; exact (Below.refl _ _).alloc (Nat.le_refl _) _
 obtain ⟨X, hX, DX, bX, sX⟩ := boxedN M #[.int .i64 root, .int .i64 next, .slice a ps.length c, .map (some (w.heap.size + 1)), .int .i64 0, .int .i64 0] 88
 have mI : MapI M (w.heap.size + 1) 0 fun _ => none := by rw [hM, ← sW]; exact MapI.made W
 have bw := bW.trans ((bM.mono bW.size).trans (bX.mono (by omega)))
 have P0 : PWk w X (w.heap.size + 1 + 1 + 1) (w.heap.size + 1 + 1) (w.heap.size + 1) ⟨root, next, ps⟩ (.slice a ps.length c) ⟨[], none, []⟩ (fun _ => none) :=
  ⟨by rw [← sM]; exact DX, mI.kept (bX.block _ mI.lt), (fun i => by simp), (fun i v hv => by cases hv), h, ⟨List.nodup_nil, (fun i hi => by cases hi), Nat.zero_le _⟩, by simp, bw, by omega, by omega, (fun i j v u hv => by cases hv)⟩
 have KN := hide (pnumd_any X (.slice a ps.length c) ⟨root, next, ps⟩ (h.to0 bw))
 obtain ⟨⟨C0, C1, C2, C3⟩, ⟨C4, C5⟩, CF⟩ := P0.cell
 dsimp only [tv] at KN C0 C1 C2 C3 C4 C5
 rw [hW] at D0 D1 D2
 have HP := hide P0
 rw [hX, hM, hW] at KN C0 C1 C2 C3 C4 C5 CF
 clear h DW bW DX bX bM mI bw P0
 go_enter Tryz.func24, Tryz.ntmps24
 go_wp2_with fail
 refine KN.out.mono ?_
 rintro e w1 ⟨R, rfl, hR, b1⟩
 rw [← hW, ← hM, ← hX] at b1
 clear KN C0 C1 C2 C3 C4 C5 CF D0 D1 D2
 replace hX := hide hX
 replace hM := hide hM
 replace hW := hide hW
 have P1 := HP.out.to b1
 have hBs : Hid (w.heap.size + 1 + 1 + 1 ≤ w1.heap.size) := by have := b1.size; show _ ≤ _; omega
 obtain ⟨⟨C0, C1, C2, C3⟩, ⟨C4, C5⟩, CF⟩ := P1.cell
 dsimp only at C0 C1 C2 C3 C4 C5
 clear HP b1
 cases R with
 | false =>
  have hz : Hid (tprs ⟨root, next, ps⟩ = none) := tprs_no fun h => by have := hR.2 h; cases this
  have PB := hide P1.bel
  clear hR P1
  go_wp2
  go_ret2
  exact .inr ⟨rfl, hz.out, PB.out⟩
 | true =>
  have hp : Hid (PNum ⟨root, next, ps⟩) := hR.1 rfl
  have HP1 := hide P1
  have KR := hide (preach_any w ⟨root, next, ps⟩ (.slice a ps.length c) (w.heap.size + 1 + 1 + 1) (w.heap.size + 1 + 1) (w.heap.size + 1) ⟨hp.out.1, hp.out.2.1⟩ hp.out.2.2 16 (Nat.le_refl _) w1 _ _ root [] none P1 (Nat.zero_le _) hBs.out (fun h => by cases h) hroot)
  rw [show (17 - ((16 : Nat) : Int)) = 1 from rfl] at KR
  replace hroot := hide hroot
  clear hR P1
  by_cases r0 : root = 0
  ·have hr : Hid (twalk ⟨root, next, ps⟩ = some ⟨[], none, []⟩) := by show _ = _; unfold twalk; rw [if_pos r0]
   have r1 : (root != 0) = false := by simp [r0]
   replace r0 := hide r0
   go_wp2
   go_ret2
   exact .inl ⟨_, _, _, _, _, rfl, hp.out, hr.out, Nat.zero_le _, HP1.out, hBs.out⟩
  ·have hr : Hid (twalk ⟨root, next, ps⟩ = wk ps 16 root [] none ⟨[], none, []⟩) := by show _ = _; unfold twalk; rw [if_neg r0]
   have r1 : (root != 0) = true := by simp [r0]
   replace r0 := hide r0
   go_wp2_with fail
   refine KR.out.mono ?_
   rintro e w7 ⟨R7, rfl, k7, h7⟩
   clear KR
   cases R7 with
   | true =>
    obtain ⟨s', m', q1, q2, q3⟩ : ∃ s' m', wk ps 16 root [] none ⟨[], none, []⟩ = some s' ∧ s'.prs.length ≤ 4096 ∧ PWk w w7 (w.heap.size + 1 + 1 + 1) (w.heap.size + 1 + 1) (w.heap.size + 1) ⟨root, next, ps⟩ (.slice a ps.length c) s' m' := by
     rcases h7 with ⟨_, p⟩ | ⟨p, _⟩
     ·exact p
     ·cases p
    have Q := hide (And.intro (hr.out.trans q1) (And.intro q2 (And.intro q3 (Nat.le_trans hBs.out k7.2.1))))
    clear h7 k7 q1 q2 q3
    go_wp2
    go_ret2
    exact .inl ⟨_, _, _, _, _, rfl, hp.out, Q.out.1, Q.out.2.1, Q.out.2.2.1, Q.out.2.2.2⟩
   | false =>
    have hz : Hid (tprs ⟨root, next, ps⟩ = none) := tprs_no2 fun s hs => by
     rw [hr.out] at hs
     rcases h7 with ⟨p, _⟩ | ⟨_, p⟩
     ·cases p
     ·exact p s hs
    have PB := hide (HP1.out.bel.trans (k7.2.2 w.heap.size (by omega) (by omega) HP1.out.bel.size))
    clear h7 k7
    go_wp2
    go_ret2
    exact .inr ⟨rfl, hz.out, PB.out⟩
set_option maxRecDepth 100000 in
set_option maxHeartbeats 2000000 in
theorem pcheck10_any (w : World) (t : Tr) (pv : Value) (h : RdC w pv t.pages) (hroot : (Lit.int .i64 t.root).wf = true) : Calls Tryz.prog 37 #[tv t pv] w fun e w' => e = .returned (.int .i64 (tcheck t)) ∧ Below w.heap.size w w' := by
 obtain ⟨W, hW, D, bW, sW⟩ := boxedN w #[.int .i64 t.root, .int .i64 t.next, pv] 27
 have KN := hide (pwalkof_any W t pv (h.to0 bW) hroot)
 obtain ⟨a, c, rfl⟩ := h.slice
 obtain ⟨⟨D0, D1, D2⟩, _⟩ := cells3p D
 have HB := hide bW
 rw [hW] at D0 D1 D2 KN
 dsimp only [tv] at KN ⊢
 clear h bW D sW hroot
 generalize t.root = root at *
 generalize t.next = next at *
 generalize t.pages.length = L at *
 go_enter Tryz.func37, Tryz.ntmps37
 go_wp2_with fail
 refine KN.out.mono ?_
 rintro e w1 hp
 rw [← hW] at hp
 rcases hp with ⟨g, bm, B, s, m, rfl, p1, p2, p3, p4, _⟩ | ⟨rfl, p1, p2⟩
 ·have hc : Hid (tcheck t = 0) := by show _ = _; unfold tcheck; rw [tprs_of p1 p2 p3]
  have B1 := hide (HB.out.trans (p4.bel.mono HB.out.size))
  clear p1 p2 p3 p4 KN HB hW D0 D1 D2
  go_wp2
  go_ret
  exact ⟨ret_i9 hc.out.symm, B1.out⟩
 ·have hc : Hid (tcheck t = 9) := by show _ = _; unfold tcheck; rw [p1]
  have B1 := hide (HB.out.trans (p2.mono HB.out.size))
  clear p1 p2 KN HB hW D0 D1 D2
  go_wp2
  go_ret
  exact ⟨ret_i9 hc.out.symm, B1.out⟩
def WforR (w w' : World) (t : Tr) (pv : Value) (k : Str) (e : Ending) : Prop :=
 (∃ g bm B s m, e = .returned (.tuple #[.pointer (some ⟨g, 0, none⟩), .int .i64 0]) ∧ tkey k = true ∧ PNum t ∧ twalk t = some s ∧ s.prs.length ≤ 4096 ∧ PWk w w' B g bm t pv s m ∧ B ≤ w'.heap.size) ∨
 (∃ err, e = .returned (.tuple #[.pointer none, .int .i64 err]) ∧ ((tprs t = none ∧ err = 9) ∨ (∃ l, tprs t = some l ∧ tkey k = false ∧ err = 91)) ∧ Below w.heap.size w w')
theorem PWk.from {w0 w v : World} {B g bm : Nat} {t : Tr} {pv : Value} {s : Sw} {m : Int → Option Value} (h : PWk w0 w B g bm t pv s m) (hb : Below v.heap.size v w0) (hr : RdC v pv t.pages) : PWk v w B g bm t pv s m :=
 ⟨h.box, h.map, h.has, h.nds, hr, h.ok, h.dep, hb.trans (h.bel.mono hb.size), ⟨Nat.le_trans hb.size h.hg.1, h.hg.2⟩, ⟨Nat.le_trans hb.size h.hm.1, h.hm.2⟩, h.apt⟩
set_option maxRecDepth 100000 in
set_option maxHeartbeats 2000000 in
theorem pwalkfor_any (w : World) (t : Tr) (pv : Value) (k : Str) (hk : k.length ≤ 9223372036854775807) (h : RdC w pv t.pages) (hroot : (Lit.int .i64 t.root).wf = true) : Calls Tryz.prog 31 #[tv t pv, st k] w fun e w' => WforR w w' t pv k e := by
 obtain ⟨W, hW, D, bW, sW⟩ := boxedN w #[.int .i64 t.root, .int .i64 t.next, pv] 27
 have KN := hide (pwalkof_any W t pv (h.to0 bW) hroot)
 have HH := hide h
 obtain ⟨a, c, rfl⟩ := h.slice
 obtain ⟨⟨D0, D1, D2⟩, _⟩ := cells3p D
 have HB := hide bW
 rw [hW] at D0 D1 D2 KN
 dsimp only [tv] at KN ⊢
 clear h bW D sW hroot
 go_enter Tryz.func31, Tryz.ntmps31
 go_wp2_with fail
 refine KN.out.mono ?_
 rintro e w1 hp
 rw [← hW] at hp
 rcases hp with ⟨g, bm, B, s, m, rfl, p1, p2, p3, p4, p5⟩ | ⟨rfl, p1, p2⟩
 ·have ht : Hid (tprs t = some s.prs) := tprs_of p1 p2 p3
  have P4 := hide (p4.from HB.out HH.out)
  have QQ := hide (And.intro p1 (And.intro p2 (And.intro p3 p5)))
  have hkd : Hid (tkey k = decide (1 ≤ k.length ∧ k.length ≤ 32)) := (rfl : _ = _)
  clear p1 p2 p3 p4 p5 KN hW D0 D1 D2
  by_cases c1 : (k.length : Int) < 1
  ·have hz : Hid (tkey k = false) := by show _ = _; rw [hkd.out]; exact decide_eq_false (by omega)
   go_wp2
   go_ret2
   exact .inr ⟨_, rfl, .inr ⟨_, ht.out, hz.out, rfl⟩, P4.out.bel⟩
  ·by_cases c2 : (k.length : Int) > 32
   ·have hz : Hid (tkey k = false) := by show _ = _; rw [hkd.out]; exact decide_eq_false (by omega)
    go_wp2
    go_ret2
    exact .inr ⟨_, rfl, .inr ⟨_, ht.out, hz.out, rfl⟩, P4.out.bel⟩
   ·have hz : Hid (tkey k = true) := by show _ = _; rw [hkd.out]; exact decide_eq_true (by omega)
    go_wp2
    go_ret2
    exact .inl ⟨_, _, _, _, _, rfl, hz.out, QQ.out.1, QQ.out.2.1, QQ.out.2.2.1, P4.out, QQ.out.2.2.2⟩
 ·have B1 := hide (HB.out.trans (p2.mono HB.out.size))
  replace p1 := hide p1
  clear p2 KN HB hW D0 D1 D2
  go_wp2
  go_ret2
  exact .inr ⟨_, rfl, .inl ⟨p1.out, rfl⟩, B1.out⟩
end Go.Proofs.YtgmkknonnidgaaaGreat

namespace Go.Proofs.YtgmkknonnidgaaaGreat
def prsOf (l : List Wrt) : Nat → Int → List Pr
 | 0, _ => []
 | f + 1, id => match tpage l id with
  | none => []
  | some x => if (ndec x).1.leaf = true then npr (ndec x).1 else (ndec x).1.kids.flatMap (prsOf l f)
def WOk (l : List Wrt) (S : List Int) : Nat → Int → Str → Option Str → Prop
 | 0, _, _, _ => False
 | f + 1, id, lo, hi => id ∈ S ∧ ∃ x nd, tpage l id = some x ∧ ndec x = (nd, 0) ∧ nd.keys.all (kin lo hi) = true ∧ (nd.leaf = true → nd.keys ≠ []) ∧
   (nd.leaf = false → ∀ (i : Nat) kid, nd.kids[i]? = some kid → WOk l S f kid (kidLo nd lo i) (kidHi nd hi i))
theorem WOk.mono {l : List Wrt} {S S' : List Int} (hS : ∀ i ∈ S, i ∈ S') : ∀ {f : Nat} {id : Int} {lo : Str} {hi : Option Str}, WOk l S f id lo hi → WOk l S' f id lo hi
 | 0, _, _, _, h => h
 | f + 1, id, lo, hi, ⟨h0, x, nd, h1, h2, h3, h4, h5⟩ => ⟨hS _ h0, x, nd, h1, h2, h3, h4, fun hl i kid hk => WOk.mono hS (h5 hl i kid hk)⟩
theorem prsOf_leaf {l : List Wrt} {f : Nat} {id : Int} {x : List UInt8} {nd : Nd} (h1 : tpage l id = some x) (h2 : ndec x = (nd, 0)) (hl : nd.leaf = true) : prsOf l (f + 1) id = npr nd := by
 conv => lhs; unfold prsOf
 rw [h1]
 simp [h2, hl]
theorem prsOf_inner {l : List Wrt} {f : Nat} {id : Int} {x : List UInt8} {nd : Nd} (h1 : tpage l id = some x) (h2 : ndec x = (nd, 0)) (hl : nd.leaf = false) : prsOf l (f + 1) id = nd.kids.flatMap (prsOf l f) := by
 conv => lhs; unfold prsOf
 rw [h1]
 simp [h2, hl]
theorem wkK_ok {l : List Wrt} {f : Nat} (ih : ∀ (id : Int) (lo : Str) (hi : Option Str) (s s' : Sw), wk l f id lo hi s = some s' → (∀ i ∈ s.seen, i ∈ s'.seen) ∧ WOk l s'.seen f id lo hi ∧ s'.prs = s.prs ++ prsOf l f id) (n : Nd) (lo : Str) (hi : Option Str) :
  ∀ (ks : List Int) (i : Nat) (s s' : Sw), wkK (wk l f) n lo hi i ks s = some s' → (∀ j ∈ s.seen, j ∈ s'.seen) ∧ (∀ (j : Nat) kid, ks[j]? = some kid → WOk l s'.seen f kid (kidLo n lo (i + j)) (kidHi n hi (i + j))) ∧ s'.prs = s.prs ++ ks.flatMap (prsOf l f)
 | [], i, s, s', h => by
  simp only [wkK, Option.some.injEq] at h
  subst h
  exact ⟨fun _ h => h, fun j kid h => by simp at h, by simp⟩
 | k :: r, i, s, s', h => by
  simp only [wkK] at h
  cases h1 : wk l f k (kidLo n lo i) (kidHi n hi i) s with
  | none => rw [h1] at h; cases h
  | some s1 =>
   rw [h1] at h
   obtain ⟨a1, a2, a3⟩ := ih _ _ _ _ _ h1
   obtain ⟨b1, b2, b3⟩ := wkK_ok ih n lo hi r (i + 1) s1 s' h
   refine ⟨fun j hj => b1 j (a1 j hj), fun j kid hk => ?_, by rw [b3, a3]; simp⟩
   cases j with
   | zero =>
    have : k = kid := by simpa using hk
    subst this
    exact a2.mono b1
   | succ j =>
    have := b2 j kid (by simpa using hk)
    rw [show i + (j + 1) = i + 1 + j from by omega]
    exact this
theorem wk_ok {l : List Wrt} : ∀ (f : Nat) (id : Int) (lo : Str) (hi : Option Str) (s s' : Sw), wk l f id lo hi s = some s' → (∀ i ∈ s.seen, i ∈ s'.seen) ∧ WOk l s'.seen f id lo hi ∧ s'.prs = s.prs ++ prsOf l f id
 | 0, id, lo, hi, s, s', h => by cases h
 | f + 1, id, lo, hi, s, s', h => by
  cases hx : tpage l id with
  | none => rw [wk_none hx] at h; cases h
  | some x =>
   by_cases hs : id ∈ s.seen
   ·rw [wk_seen hs] at h; cases h
   ·by_cases he : (ndec x).2 = 0
    ·obtain ⟨nd, hnd⟩ : ∃ nd, nd = (ndec x).1 := ⟨_, rfl⟩
     have hd : ndec x = (nd, 0) := by rw [hnd, ← he]
     cases ha : nd.keys.all (kin lo hi) with
     | false =>
      unfold wk at h
      rw [hx] at h
      simp [hs, hd, ha] at h
     | true =>
      cases hl : nd.leaf with
      | true =>
       rw [wk_leaf hx hs hd ha hl] at h
       split at h
       ·cases h
       ·rename_i hc
        simp only [Option.some.injEq] at h
        subst h
        refine ⟨fun i hi => List.mem_cons_of_mem _ hi, ⟨List.mem_cons_self .., x, nd, hx, hd, ha, fun _ h0 => hc (.inl h0), fun h0 => by rw [hl] at h0; cases h0⟩, ?_⟩
        rw [prsOf_leaf hx hd hl]
      | false =>
       rw [wk_inner hx hs hd ha hl] at h
       obtain ⟨b1, b2, b3⟩ := wkK_ok (wk_ok f) nd lo hi nd.kids 0 _ s' h
       refine ⟨fun i hi => b1 i (List.mem_cons_of_mem _ hi), ⟨b1 _ (List.mem_cons_self ..), x, nd, hx, hd, ha, (fun h0 => by rw [hl] at h0; cases h0), fun _ i kid hk => ?_⟩, ?_⟩
       ·have := b2 i kid hk
        rw [Nat.zero_add] at this
        exact this
       ·rw [b3, prsOf_inner hx hd hl]
    ·rw [wk_bad hx he] at h; cases h
abbrev Rise (l : List Str) : Prop := l.Pairwise fun a b => slt a b = true
theorem rise_of {n : Nd} (h : nkeys n n.keys.length) : Rise n.keys := by
 apply List.pairwise_iff_getElem.2
 intro i j hi hj hij
 have := keys_lt h j i hij hj
 simpa [nkey, hi, hj] using this
theorem slt_le_lt {a b c : Str} (h1 : slt b a = false) (h2 : slt b c = true) : slt a c = true := by
 rcases slt_tot a b with h | h | h
 ·exact slt_trans h h2
 ·subst h; exact h2
 ·rw [h] at h1; cases h1
theorem slt_lt_le {a b c : Str} (h1 : slt a b = true) (h2 : slt c b = false) : slt a c = true := by
 rcases slt_tot b c with h | h | h
 ·exact slt_trans h1 h
 ·subst h; exact h1
 ·rw [h] at h2; cases h2
theorem slt_ne {a b : Str} (h : slt a b = true) : (a == b) = false := by
 apply Bool.eq_false_iff.2
 intro e
 have : a = b := by simpa using e
 subst this
 rw [slt_irr] at h; cases h
theorem slt_ne' {a b : Str} (h : slt b a = true) : (a == b) = false := by
 apply Bool.eq_false_iff.2
 intro e
 have : a = b := by simpa using e
 subst this
 rw [slt_irr] at h; cases h
theorem nfnd_zero (leaf : Bool) (key : Str) : ∀ l : List Str, (∀ x ∈ l, slt key x = true) → nfnd leaf key l = 0
 | [], _ => rfl
 | k :: r, h => by
  have h1 := h k (by simp)
  have h2 := slt_asym h1
  simp only [nfnd]
  rw [nfnd_zero leaf key r fun x hx => h x (List.mem_cons_of_mem _ hx), h2, slt_ne' h1]
  simp
theorem nfnd_inner (key : Str) : ∀ l : List Str, Rise l → ∃ i : Nat, nfnd false key l = (i : Int) ∧ i ≤ l.length ∧ (∀ (j : Nat) x, j < i → l[j]? = some x → slt key x = false) ∧ (∀ (j : Nat) x, i ≤ j → l[j]? = some x → slt key x = true)
 | [], _ => ⟨0, rfl, Nat.le_refl _, fun j x h => by omega, fun j x _ h => by simp at h⟩
 | k :: r, h => by
  obtain ⟨h1, h2⟩ := List.pairwise_cons.1 h
  cases hk : slt key k with
  | true =>
   have hall : ∀ x ∈ r, slt key x = true := fun x hx => slt_trans hk (h1 x hx)
   refine ⟨0, nfnd_zero false key _ (fun x hx => ?_), Nat.zero_le _, fun j x h => by omega, fun j x _ hx => ?_⟩
   ·rcases List.mem_cons.1 hx with rfl | hx
    ·exact hk
    ·exact hall x hx
   ·rcases List.mem_cons.1 (List.mem_of_getElem? hx) with rfl | hx
    ·exact hk
    ·exact hall x hx
  | false =>
   obtain ⟨i, a1, a2, a3, a4⟩ := nfnd_inner key r h2
   refine ⟨i + 1, ?_, by simp; omega, fun j x hj hx => ?_, fun j x hj hx => ?_⟩
   ·simp only [nfnd]
    have : (slt k key || (!false && k == key)) = true := by
     rcases slt_tot k key with h | h | h
     ·simp [h]
     ·simp [h]
     ·rw [h] at hk; cases hk
    rw [if_pos this, a1]
    omega
   ·cases j with
    | zero => have : k = x := by simpa using hx
              subst this; exact hk
    | succ j => exact a3 j x (by omega) (by simpa using hx)
   ·cases j with
    | zero => omega
    | succ j => exact a4 j x (by omega) (by simpa using hx)
theorem nfnd_leaf (key : Str) : ∀ l : List Str, Rise l → ∃ i : Nat, nfnd true key l = (i : Int) ∧ i ≤ l.length ∧ (nis key l = true → l[i]? = some key) ∧ (∀ (j : Nat) x, j < i → l[j]? = some x → slt x key = true) ∧ (∀ (j : Nat) x, i ≤ j → l[j]? = some x → slt x key = false)
 | [], _ => ⟨0, rfl, Nat.le_refl _, fun h => by simp [nis] at h, fun j x h => by omega, fun j x _ h => by simp at h⟩
 | k :: r, h => by
  obtain ⟨h1, h2⟩ := List.pairwise_cons.1 h
  cases hk : slt k key with
  | true =>
   obtain ⟨i, a1, a2, a3, a4, a5⟩ := nfnd_leaf key r h2
   refine ⟨i + 1, ?_, by simp; omega, fun hn => ?_, fun j x hj hx => ?_, fun j x hj hx => ?_⟩
   ·simp only [nfnd]
    rw [if_pos (by simp [hk]), a1]
    omega
   ·have : nis key r = true := by
     simp only [nis, List.any_cons, slt_ne hk, Bool.false_or] at hn
     exact hn
    simpa using a3 this
   ·cases j with
    | zero => have : k = x := by simpa using hx
              subst this; exact hk
    | succ j => exact a4 j x (by omega) (by simpa using hx)
   ·cases j with
    | zero => omega
    | succ j => exact a5 j x (by omega) (by simpa using hx)
  | false =>
   have hall : ∀ x ∈ r, slt key x = true := fun x hx => slt_le_lt hk (h1 x hx)
   refine ⟨0, ?_, Nat.zero_le _, fun hn => ?_, fun j x h => by omega, fun j x _ hx => ?_⟩
   ·simp only [nfnd]
    rw [if_neg (by simp [hk]), nfnd_zero true key r hall]
    rfl
   ·have hkk : k = key := by
     simp only [nis, List.any_cons, Bool.or_eq_true] at hn
     rcases hn with h | h
     ·simpa using h
     ·obtain ⟨x, hx, e⟩ := List.any_eq_true.1 h
      have : x = key := by simpa using e
      subst this
      have := hall x hx
      rw [slt_irr] at this; cases this
    simp [hkk]
   ·rcases List.mem_cons.1 (List.mem_of_getElem? hx) with rfl | hx
    ·exact hk
    ·exact slt_asym (hall x hx)
theorem kin_kid {n : Nd} {lo : Str} {hi : Option Str} (ha : n.keys.all (kin lo hi) = true) {i : Nat} (hi9 : i ≤ n.keys.length) {k : Str} (h : kin (kidLo n lo i) (kidHi n hi i) k = true) : kin lo hi k = true := by
 have hall := List.all_eq_true.1 ha
 simp only [kin, Bool.and_eq_true, Bool.not_eq_true'] at h ⊢
 refine ⟨?_, ?_⟩
 ·by_cases h0 : i = 0
  ·rw [kidLo, if_pos h0] at h; exact h.1
  ·have hlt : i - 1 < n.keys.length := by omega
   have hk := hall (n.keys[i - 1]) (List.getElem_mem hlt)
   simp only [kin, Bool.and_eq_true, Bool.not_eq_true'] at hk
   have e : kidLo n lo i = n.keys[i - 1] := by rw [kidLo, if_neg h0]; simp [hlt]
   rw [e] at h
   cases hc : slt k lo with
   | false => rfl
   | true =>
    have := slt_lt_le hc hk.1
    rw [this] at h; cases h.1
 ·by_cases h0 : i < n.keys.length
  ·have hk := hall (n.keys[i]) (List.getElem_mem h0)
   simp only [kin, Bool.and_eq_true, Bool.not_eq_true'] at hk
   have e : kidHi n hi i = some n.keys[i] := by rw [kidHi, if_pos h0]; simp [h0]
   rw [e] at h
   cases hi with
   | none => rfl
   | some b => exact slt_trans h.2 hk.2
  ·rw [kidHi, if_neg h0] at h
   exact h.2
theorem kids_len {nd : Nd} (hok : NOk nd) (hl : nd.leaf = false) : nd.kids.length = nd.keys.length + 1 := by
 have h1 := hok.2.1
 unfold ncount at h1
 rw [hl, if_neg (by decide)] at h1
 exact h1.2.2
theorem ndec_ok {x : List UInt8} {nd : Nd} (h : ndec x = (nd, 0)) : NOk nd := by have := (ndec_back (xs := x) (by rw [h])).1; rw [h] at this; exact this
theorem WOk.kin {l : List Wrt} {S : List Int} : ∀ {f : Nat} {id : Int} {lo : Str} {hi : Option Str}, WOk l S f id lo hi → ∀ y ∈ prsOf l f id, kin lo hi y.1 = true
 | 0, _, _, _, h, _, _ => h.elim
 | f + 1, id, lo, hi, ⟨h0, x, nd, h1, h2, h3, h4, h5⟩, y, hy => by
  cases hl : nd.leaf with
  | true =>
   rw [prsOf_leaf h1 h2 hl] at hy
   exact List.all_eq_true.1 h3 _ (List.of_mem_zip hy).1
  | false =>
   rw [prsOf_inner h1 h2 hl] at hy
   obtain ⟨kid, hk, hy⟩ := List.mem_flatMap.1 hy
   obtain ⟨i, hi9, e⟩ := List.getElem_of_mem hk
   have hk' : nd.kids[i]? = some kid := by rw [List.getElem?_eq_getElem hi9, e]
   have := WOk.kin (h5 hl i kid hk') y hy
   exact kin_kid h3 (by rw [kids_len (ndec_ok h2) hl] at hi9; omega) this
theorem pget_app (a b : List Pr) (k : Str) (h : ∀ y ∈ a, (y.1 == k) = false) : pget (a ++ b) k = pget b k := by
 unfold pget
 rw [List.find?_append]
 have : a.find? (fun y => y.1 == k) = none := by
  rw [List.find?_eq_none]
  intro y hy
  simp [h y hy]
 rw [this]; rfl
theorem pget_app' (a b : List Pr) (k : Str) (h : ∀ y ∈ b, (y.1 == k) = false) : pget (a ++ b) k = pget a k := by
 unfold pget
 rw [List.find?_append]
 have : b.find? (fun y => y.1 == k) = none := by
  rw [List.find?_eq_none]
  intro y hy
  simp [h y hy]
 rw [this]; simp
theorem pget_flat {g : Int → List Pr} {k : Str} : ∀ (ks : List Int) (i : Nat) (kid : Int), ks[i]? = some kid → (∀ (j : Nat) kd, j ≠ i → ks[j]? = some kd → ∀ y ∈ g kd, (y.1 == k) = false) → pget (ks.flatMap g) k = pget (g kid) k
 | [], i, kid, h, _ => by simp at h
 | a :: r, 0, kid, h, hn => by
  have : a = kid := by simpa using h
  subst this
  rw [List.flatMap_cons]
  apply pget_app'
  intro y hy
  obtain ⟨kd, hk, hy⟩ := List.mem_flatMap.1 hy
  obtain ⟨j, hj, e⟩ := List.getElem_of_mem hk
  exact hn (j + 1) kd (by omega) (by simp [hj, e]) y hy
 | a :: r, i + 1, kid, h, hn => by
  rw [List.flatMap_cons, pget_app _ _ _ (hn 0 a (by omega) rfl)]
  exact pget_flat r i kid (by simpa using h) fun j kd hj hk => hn (j + 1) kd (by omega) (by simpa using hk)
theorem seek {l : List Wrt} {S : List Int} {f : Nat} {nd : Nd} {lo : Str} {hi : Option Str} (hok : NOk nd) (hl : nd.leaf = false) (key : Str) (h5 : ∀ (i : Nat) kid, nd.kids[i]? = some kid → WOk l S f kid (kidLo nd lo i) (kidHi nd hi i)) :
  ∃ (i : Nat) (kid : Int), nfind nd key = (i : Int) ∧ nd.kids[i]? = some kid ∧ i < nd.kids.length ∧ pget (nd.kids.flatMap (prsOf l f)) key = pget (prsOf l f kid) key := by
 obtain ⟨i, a1, a2, a3, a4⟩ := nfnd_inner key nd.keys (rise_of hok.1)
 have hlen := kids_len hok hl
 obtain ⟨kid, hkid⟩ : ∃ kid, nd.kids[i]? = some kid := ⟨_, List.getElem?_eq_getElem (by omega)⟩
 refine ⟨i, kid, ?_, hkid, by omega, ?_⟩
 ·rw [nfind, if_pos ((ncheck_ok nd).2 hok), hl]; exact a1
 ·refine pget_flat nd.kids i kid hkid fun j kd hj hk y hy => ?_
  have hb := (h5 j kd hk).kin y hy
  have hjl := (List.getElem?_eq_some_iff.1 hk).1
  simp only [Go.Proofs.YtgmkknonnidgaaaGreat.kin, Bool.and_eq_true, Bool.not_eq_true'] at hb
  rcases Nat.lt_or_gt_of_ne hj with h | h
  ·have hjk : j < nd.keys.length := by omega
   have e : kidHi nd hi j = some nd.keys[j] := by rw [kidHi, if_pos hjk]; simp [hjk]
   rw [e] at hb
   have h1 := a3 j nd.keys[j] h (List.getElem?_eq_getElem hjk)
   exact slt_ne (slt_lt_le hb.2 h1)
  ·have hjk : j - 1 < nd.keys.length := by omega
   have e : kidLo nd lo j = nd.keys[j - 1] := by rw [kidLo, if_neg (by omega)]; simp [hjk]
   rw [e] at hb
   have h1 := a4 (j - 1) nd.keys[j - 1] (by omega) (List.getElem?_eq_getElem hjk)
   exact slt_ne' (slt_lt_le h1 hb.1)
theorem seekLeaf {nd : Nd} (hr : Rise nd.keys) (hv : nd.vals.length = nd.keys.length) (key : Str) : ∃ i : Nat, nfnd true key nd.keys = (i : Int) ∧ i ≤ nd.keys.length ∧
  ((nis key nd.keys = true ∧ i < nd.vals.length ∧ pget (npr nd) key = nd.vals[i]?) ∨ (nis key nd.keys = false ∧ pget (npr nd) key = none)) := by
 obtain ⟨i, a1, a2, a3, a4, a5⟩ := nfnd_leaf key nd.keys hr
 refine ⟨i, a1, a2, ?_⟩
 cases hn : nis key nd.keys with
 | true =>
  have hk := a3 hn
  have hil := (List.getElem?_eq_some_iff.1 hk).1
  obtain ⟨v, hv2⟩ : ∃ v, nd.vals[i]? = some v := ⟨_, List.getElem?_eq_getElem (by omega)⟩
  refine .inl ⟨rfl, by omega, ?_⟩
  rw [hv2]
  have hz : (npr nd)[i]? = some (key, v) := by simp [npr, List.getElem?_zip_eq_some, hk, hv2]
  exact pget_hit hz (by simp) fun t z ht hz2 => by
   rw [npr, List.getElem?_zip_eq_some] at hz2
   exact slt_ne (a4 t z.1 ht hz2.1)
 | false =>
  refine .inr ⟨rfl, pget_none fun t z hz => ?_⟩
  rw [npr, List.getElem?_zip_eq_some] at hz
  simp only [nis, List.any_eq_false] at hn
  have := hn z.1 (List.mem_of_getElem? hz.1)
  simpa using this
end Go.Proofs.YtgmkknonnidgaaaGreat

namespace Go.Proofs.YtgmkknonnidgaaaGreat
open Go.RowKit
abbrev nd0 : Nd := ⟨true, [], [], []⟩
theorem nd0_ok : NOk nd0 := by
 refine ⟨fun k hk => by simp at hk, ?_, fun k hk => by simp at hk, fun k hk => by simp at hk, by decide⟩
 simp [ncount]
def TopIs (t : Tr) (nd : Nd) : Prop := (t.root = 0 ∧ nd = nd0) ∨ (t.root ≠ 0 ∧ ∃ x, tpage t.pages t.root = some x ∧ ndec x = (nd, 0))
theorem info_nd10 : (Tryz.prog.info? 76).map (·.size) = some 4 := by kernel_rfl
theorem root_seen {t : Tr} {s : Sw} (h : twalk t = some s) (h0 : t.root ≠ 0) : WOk t.pages s.seen 16 t.root [] none ∧ s.prs = prsOf t.pages 16 t.root := by
 unfold twalk at h
 rw [if_neg h0] at h
 obtain ⟨_, a, b⟩ := wk_ok 16 _ _ _ _ _ h
 exact ⟨a, by simpa using b⟩
theorem PWk.node {w0 w : World} {B g bm : Nat} {t : Tr} {pv : Value} {s : Sw} {m : Int → Option Value} (h : PWk w0 w B g bm t pv s m) {id : Int} (hi : id ∈ s.seen) : ∃ v, m id = some v ∧ NdOf t.pages B w id v := by
 have h1 := h.has id
 rw [decide_eq_true hi] at h1
 obtain ⟨v, hv⟩ := Option.isSome_iff_exists.1 h1
 exact ⟨v, hv, h.nds id v hv⟩
theorem drewHeap {w : World} {b : Nat} {o : Option Obj} (h : w.heap[b]? = o) : w.drew.heap[b]? = o := h
abbrev S4 (g : Nat) (w : World) (x y z v : Value) : World := (((w.setCell ⟨g, 0, none⟩ x).setCell ⟨g, 1, none⟩ y).setCell ⟨g, 2, none⟩ z).setCell ⟨g, 3, none⟩ v
theorem s4_keep {g : Nat} {w : World} {cs : Array Value} {T : Nat} (h : w.heap[g]? = some (.cells cs T (0, 0))) (x y z v : Value) {e : Nat} (he : e ≠ T) : KeepT e w (S4 g w x y z v) :=
 (((KeepT.set (a := ⟨g, 0, none⟩) h he x).trans (KeepT.set (a := ⟨g, 1, none⟩) (heap_setN h 0 x) he y)).trans (KeepT.set (a := ⟨g, 2, none⟩) (heap_setN (heap_setN h 0 x) 1 y) he z)).trans (KeepT.set (a := ⟨g, 3, none⟩) (heap_setN (heap_setN (heap_setN h 0 x) 1 y) 2 z) he v)
theorem s4_other {g : Nat} {w : World} (x y z v : Value) {b : Nat} (h : b ≠ g) : (S4 g w x y z v).heap[b]? = w.heap[b]? := by
 rw [Below.heap_setCell _ _ _ _ h, Below.heap_setCell _ _ _ _ h, Below.heap_setCell _ _ _ _ h, Below.heap_setCell _ _ _ _ h]
theorem OwnN.keepT {B : Nat} {w w' : World} {kv vv dv : Value} {nd : Nd} (h : OwnN B w kv vv dv nd) (k1 : KeepT 9 w w') (k2 : KeepT 3 w w') : OwnN B w' kv vv dv nd := ⟨rows_keepT h.keys k1, rows_keepT h.vals k1, rows_keepT h.kids k2⟩
theorem PWk.side {w0 w w' : World} {B g bm : Nat} {t : Tr} {pv : Value} {s : Sw} {m : Int → Option Value} (h : PWk w0 w B g bm t pv s m) (k : ∀ e, e ≠ 76 → KeepT e w w') (hm : w'.heap[bm]? = w.heap[bm]?) (hb : Below w0.heap.size w0 w') : PWk w0 w' B g bm t pv s m := by
 refine ⟨k _ (by decide) _ _ _ h.box, h.map.kept hm, h.has, fun i v hv => ?_, h.pg, h.ok, h.dep, hb, h.hg, h.hm, h.apt⟩
 obtain ⟨x, nd, kv, vv, dv, h1, h2, h3, h4, h5⟩ := h.nds i v hv
 exact ⟨x, nd, kv, vv, dv, h1, h2, h3, h4.keepT (k _ (by decide)) (k _ (by decide)), h5⟩
set_option maxRecDepth 100000 in
set_option maxHeartbeats 2000000 in
theorem ptop_any (w0 w : World) (B g bm : Nat) (t : Tr) (pv : Value) (s : Sw) (m : Int → Option Value) (H : PWk w0 w B g bm t pv s m) (hroot : (Lit.int .i64 t.root).wf = true) (ht : twalk t = some s) :
  Calls Tryz.prog 26 #[.pointer (some ⟨g, 0, none⟩)] w fun e w' => ∃ nd kv vv dv, e = .returned (nv nd kv vv dv) ∧ TopIs t nd ∧ OwnN B w' kv vv dv nd ∧ Below w.heap.size w w' ∧ Dj kv vv dv := by
 obtain ⟨root, next, ps⟩ := t
 obtain ⟨W, hW, DW, bW, sW⟩ := boxedN w #[.bool false, .slice none 0 0, .slice none 0 0, .slice none 0 0] 76
 have HW := H.to bW
 obtain ⟨⟨C0, C1, C2, C3⟩, ⟨C4, C5⟩, CF⟩ := HW.cell
 obtain ⟨⟨E0, E1, E2, E3⟩, EF⟩ := cells4 DW
 dsimp only at C0 C1 C2 C3 C4 C5 hroot
 have HB := hide bW
 have HD := hide DW
 have HC := hide (And.intro HW.cell (cells4 DW))
 rw [hW] at C0 C1 C2 C3 C4 C5 CF E0 E1 E2 E3 EF
 by_cases r0 : root = 0
 ·have q : (root == 0) = true := by simp [r0]
  have hT : Hid (TopIs ⟨root, next, ps⟩ nd0) := .inl ⟨r0, rfl⟩
  replace r0 := hide r0
  clear DW bW
  go_enter Tryz.func26, Tryz.ntmps26
  go_wp2
  refine retN rfl rfl w.heap.size rfl _ _ _ (heap_alloc_last w _) _ Tryz.underlying76 rfl info_nd10 ?_
  exact ⟨nd0, _, _, _, rfl, hT.out, OwnN.nil _ _ _, (Below.refl _ _).alloc (Nat.le_refl _) _, Dj.nil⟩
 ·have q : (root == 0) = false := by simp [r0]
  obtain ⟨h1, _⟩ := root_seen ht r0
  obtain ⟨v, hv, x, nd, kv, vv, dv, n1, n2, rfl, n4, n5⟩ := HW.node h1.1
  replace n5 := hide n5
  have bD : Below W.heap.size W W.drew := below_drewN' W 1 _
  have HD2 := HW.to bD
  have hlk1 := HW.map.look Tryz.underlying86 (zeroNd W) hroot false
  have hlk2 := HD2.map.look Tryz.underlying86 (zeroNd W.drew) hroot false
  rw [hv] at hlk1 hlk2
  simp only [Option.getD_some, Bool.false_eq_true, if_false] at hlk1 hlk2
  have hT : Hid (TopIs ⟨root, next, ps⟩ nd) := .inr ⟨r0, x, n1, n2⟩
  obtain ⟨ka, kc, va, vc, da, dc, rfl, rfl, rfl⟩ := n4.rd.slices
  dsimp only [nv] at hlk1 hlk2
  have HN4 := hide n4
  replace r0 := hide r0
  have HD0 := hide DW
  clear HD DW bW
  go_enter Tryz.func26, Tryz.ntmps26
  go_upto_region 3 with fail
  rw [← hW]
  clear C0 C1 C2 C3 C4 C5 CF E0 E1 E2 E3 EF
  obtain ⟨⟨⟨C0, C1, C2, C3⟩, ⟨C4, C5⟩, CF⟩, ⟨E0, E1, E2, E3⟩, EF⟩ := HC.out
  dsimp only at C0 C1 C2 C3 C4 C5
  replace hW := hide hW
  go_region
  go_wp2
  refine retN rfl rfl w.heap.size rfl _ _ (0, 0) (drewHeap (heap_set4 HD0.out _ _ _ _)) _ Tryz.underlying76 rfl info_nd10 ?_
  refine ⟨nd, _, _, _, rfl, hT.out, ?_, ?_, n5.out⟩
  ·have k := fun e he => s4_keep (w := W) HD0.out (.bool nd.leaf) (.slice ka nd.keys.length kc) (.slice va nd.vals.length vc) (.slice da nd.kids.length dc) (e := e) he
   exact OwnN.to (HN4.out.keepT (k _ (by decide)) (k _ (by decide)) : OwnN B (S4 w.heap.size W _ _ _ _) _ _ _ nd) (below_drewN' _ 1 _)
  ·exact (below_set4n HB.out (Nat.le_refl _) _ _ _ _).trans (below_drewN' _ 1 _)
def SK (l : List Wrt) (S : List Int) (prs : List Pr) (key : Str) (k : Nat) (nd : Nd) : Prop := NOk nd ∧ ((nd.leaf = true ∧ pget prs key = pget (npr nd) key) ∨
 (nd.leaf = false ∧ ∃ lo hi, (∀ (i : Nat) kid, nd.kids[i]? = some kid → WOk l S k kid (kidLo nd lo i) (kidHi nd hi i)) ∧ pget prs key = pget (nd.kids.flatMap (prsOf l k)) key))
theorem SK.top {t : Tr} {s : Sw} (ht : twalk t = some s) {nd : Nd} (h : TopIs t nd) (key : Str) : SK t.pages s.seen s.prs key 15 nd := by
 rcases h with ⟨h0, rfl⟩ | ⟨h0, x, h1, h2⟩
 ·refine ⟨nd0_ok, .inl ⟨rfl, ?_⟩⟩
  unfold twalk at ht
  rw [if_pos h0] at ht
  simp only [Option.some.injEq] at ht
  subst ht
  rfl
 ·obtain ⟨⟨a1, x', nd', b1, b2, b3, b4, b5⟩, c⟩ := root_seen ht h0
  rw [h1] at b1
  simp only [Option.some.injEq] at b1
  subst b1
  rw [h2] at b2
  simp only [Prod.mk.injEq, and_true] at b2
  subst b2
  refine ⟨ndec_ok h2, ?_⟩
  cases hl : nd.leaf with
  | true => exact .inl ⟨rfl, by rw [c, prsOf_leaf h1 h2 hl]⟩
  | false => exact .inr ⟨rfl, [], none, b5 hl, by rw [c, prsOf_inner h1 h2 hl]⟩
theorem SK.step {l : List Wrt} {S : List Int} {prs : List Pr} {key : Str} {k : Nat} {nd : Nd} (h : SK l S prs key k nd) (hl : nd.leaf = false) :
  ∃ (i : Nat) (kid : Int), nfind nd key = (i : Int) ∧ nd.kids[i]? = some kid ∧ i < nd.kids.length ∧ kid ∈ S ∧ ∃ k' x nd', k = k' + 1 ∧ tpage l kid = some x ∧ ndec x = (nd', 0) ∧ SK l S prs key k' nd' := by
 obtain ⟨hok, h | ⟨_, lo, hi, h1, h2⟩⟩ := h
 ·rw [hl] at h; cases h.1
 ·obtain ⟨i, kid, a1, a2, a3, a4⟩ := seek hok hl key h1
  have hw := h1 i kid a2
  cases k with
  | zero => exact hw.elim
  | succ k' =>
   obtain ⟨b0, x, nd', b1, b2, b3, b4, b5⟩ := hw
   refine ⟨i, kid, a1, a2, a3, b0, k', x, nd', rfl, b1, b2, ndec_ok b2, ?_⟩
   cases hl' : nd'.leaf with
   | true => exact .inl ⟨rfl, by rw [h2, a4, prsOf_leaf b1 b2 hl']⟩
   | false => exact .inr ⟨rfl, _, _, b5 hl', by rw [h2, a4, prsOf_inner b1 b2 hl']⟩
theorem SK.leaf {l : List Wrt} {S : List Int} {prs : List Pr} {key : Str} {k : Nat} {nd : Nd} (h : SK l S prs key k nd) (hl : nd.leaf = true) :
  ∃ i : Nat, nfind nd key = (i : Int) ∧ ((nhas nd key = true ∧ i < nd.vals.length ∧ pget prs key = nd.vals[i]?) ∨ (nhas nd key = false ∧ pget prs key = none)) := by
 obtain ⟨hok, ⟨_, h⟩ | ⟨h, _⟩⟩ := h
 ·have hv : nd.vals.length = nd.keys.length := by
   have h1 := hok.2.1
   unfold ncount at h1
   rw [if_pos hl] at h1
   exact h1.1
  obtain ⟨i, a1, a2, a3⟩ := seekLeaf (rise_of hok.1) hv key
  refine ⟨i, by rw [nfind, if_pos ((ncheck_ok nd).2 hok), hl]; exact a1, ?_⟩
  rw [nhas, if_pos ((ncheck_ok nd).2 hok), h]
  rcases a3 with ⟨b1, b2, b3⟩ | ⟨b1, b2⟩
  ·exact .inl ⟨b1, b2, b3⟩
  ·exact .inr ⟨b1, b2⟩
 ·rw [hl] at h; cases h
theorem NOk.fit {nd : Nd} (h : NOk nd) : nfit nd := by
 have h1 := (npr_len h).2
 have h2 := h.2.1
 unfold ncount at h2
 unfold nfit
 split at h2 <;> omega
structure VI (w0 w wr : World) (B g bm : Nat) (t : Tr) (pv : Value) (s : Sw) (m : Int → Option Value) (nb : Nat) (key : Str) (k : Nat) (nd : Nd) (kv vv dv : Value) : Prop where
 box : wr.heap[nb]? = some (.cells #[.bool nd.leaf, kv, vv, dv] 76 (0, 0))
 own : OwnN B wr kv vv dv nd
 pw : PWk w0 wr B g bm t pv s m
 sk : SK t.pages s.seen s.prs key k nd
 bel : Below w.heap.size w wr
theorem VI.to {w0 w wr w' : World} {B g bm : Nat} {t : Tr} {pv : Value} {s : Sw} {m : Int → Option Value} {nb : Nat} {key : Str} {k : Nat} {nd : Nd} {kv vv dv : Value} (h : VI w0 w wr B g bm t pv s m nb key k nd kv vv dv) (b : Below wr.heap.size wr w') : VI w0 w w' B g bm t pv s m nb key k nd kv vv dv :=
 ⟨(b.block _ (lt_of_block h.box)).trans h.box, h.own.to b, h.pw.to b, h.sk, h.bel.trans (b.mono h.bel.size)⟩
theorem VI.put {w0 w wr : World} {B g bm : Nat} {t : Tr} {pv : Value} {s : Sw} {m : Int → Option Value} {nb : Nat} {key : Str} {k k' : Nat} {nd nd' : Nd} {kv vv dv kv' vv' dv' : Value} (h : VI w0 w wr B g bm t pv s m nb key k nd kv vv dv) (hnb : w.heap.size ≤ nb) (hw : w0.heap.size ≤ w.heap.size)
  (ho : OwnN B wr kv' vv' dv' nd') (hs : SK t.pages s.seen s.prs key k' nd') : VI w0 w (S4 nb wr (.bool nd'.leaf) kv' vv' dv').drew B g bm t pv s m nb key k' nd' kv' vv' dv' := by
 have kk := fun e (he : e ≠ 76) => s4_keep h.box (.bool nd'.leaf) kv' vv' dv' he
 refine VI.to (wr := S4 nb wr (.bool nd'.leaf) kv' vv' dv') ⟨heap_set4 h.box _ _ _ _, ho.keepT (kk _ (by decide)) (kk _ (by decide)), ?_, hs, below_set4n h.bel hnb _ _ _ _⟩ (below_drewN' _ 1 _)
 exact h.pw.side kk (s4_other _ _ _ _ (h.pw.map.ne h.box)) (below_set4n h.pw.bel (Nat.le_trans hw hnb) _ _ _ _)
def valOf (o : Option Str) : Str × Bool := match o with | some v => (v, true) | none => ([], false)
set_option maxRecDepth 100000 in
set_option maxHeartbeats 4000000 in
theorem pvalue_any (w0 w : World) (B g bm : Nat) (t : Tr) (pv : Value) (s : Sw) (m : Int → Option Value) (key : Str) (H : PWk w0 w B g bm t pv s m) (hB : B ≤ w.heap.size) (hroot : (Lit.int .i64 t.root).wf = true) (ht : twalk t = some s) :
  Calls Tryz.prog 32 #[.pointer (some ⟨g, 0, none⟩), st key] w fun e w' => e = .returned (.tuple #[st (valOf (pget s.prs key)).1, .bool (valOf (pget s.prs key)).2]) ∧ Below w.heap.size w w' := by
 have KT := hide (ptop_any w0 w B g bm t pv s m H hroot ht)
 obtain ⟨R, hR⟩ : ∃ R, R = valOf (pget s.prs key) := ⟨_, rfl⟩
 rw [← hR]
 replace hR := hide hR
 replace H := hide H
 replace ht := hide ht
 go_enter Tryz.func32, Tryz.ntmps32
 go_wp2_with fail
 refine KT.out.mono ?_
 rintro e w1 ⟨nd, kv, vv, dv, rfl, hT, ho, b1, _⟩
 obtain ⟨X, hX, DX, bX, sX⟩ := boxedN w1 #[.bool nd.leaf, kv, vv, dv] 76
 have bw := b1.trans (bX.mono b1.size)
 have HX := hide (H.out.to bw)
 have SK0 := SK.top ht.out hT key
 have KF := hide (pfind9_any X kv vv dv nd key (ho.to bX).rd SK0.1.fit)
 obtain ⟨ka, kc, va, vc, da, dc, rfl, rfl, rfl⟩ := ho.rd.slices
 obtain ⟨⟨E0, E1, E2, E3⟩, EF⟩ := cells4 DX
 rw [hX] at E0 E1 E2 E3 EF KF
 have OX := hide (ho.to bX)
 have DX' := hide DX
 have BX := hide bw
 replace SK0 := hide SK0
 have hnb : Hid (w.heap.size ≤ w1.heap.size) := b1.size
 dsimp only [nv] at KF
 clear DX bX bw ho b1 hT KT
 go_wp2_with fail
 refine KF.out.mono ?_
 rintro e w2 ⟨rfl, b2⟩
 rw [← hX] at b2
 replace hX := hide hX
 have VI0 : Hid (VI w0 w w2 B g bm t pv s m w1.heap.size key 15 nd (.slice ka nd.keys.length kc) (.slice va nd.vals.length vc) (.slice da nd.kids.length dc)) := VI.to ⟨DX'.out, OX.out, HX.out, SK0.out, BX.out⟩ b2
 have hw0 : Hid (w0.heap.size ≤ w.heap.size) := H.out.bel.size
 obtain ⟨nb, hnb'⟩ : ∃ nb, nb = w1.heap.size := ⟨_, rfl⟩
 rw [← hnb'] at VI0 hnb ⊢
 clear hnb' DX' OX HX SK0 BX KF E0 E1 E2 E3 EF b2
 go_wp2
 go_loopg [7, 8] 15 (fun k a b wr => ∃ nd kv vv dv, a = .int .i64 (nfind nd key) ∧ b = .bool (nhas nd key) ∧ Hid (VI w0 w wr B g bm t pv s m nb key k nd kv vv dv))
 case atStart => exact ⟨nd, _, _, _, rfl, rfl, VI0⟩
 case round =>
  obtain ⟨nd, kv, vv, dv, rfl, rfl, hI⟩ := hrel
  clear VI0
  obtain ⟨ka, kc, va, vc, da, dc, rfl, rfl, rfl⟩ := hI.out.own.rd.slices
  obtain ⟨⟨E0, E1, E2, E3⟩, EF⟩ := cells4 hI.out.box
  obtain ⟨⟨C0, C1, C2, C3⟩, ⟨C4, C5⟩, CF⟩ := hI.out.pw.cell
  cases hl : nd.leaf with
  | false =>
   rw [hl] at E0
   obtain ⟨i, kid, s1, s2, s3, s4, k', x, nd', rfl, n1, n2, s5⟩ := hI.out.sk.step hl
   obtain ⟨v, hv, x', nd'', kv', vv', dv', z1, z2, rfl, z4, _⟩ := hI.out.pw.node s4
   rw [n1] at z1
   simp only [Option.some.injEq] at z1
   subst z1
   rw [n2] at z2
   simp only [Prod.mk.injEq, and_true] at z2
   subst z2
   obtain ⟨b5, off5, e5, hc5⟩ := hI.out.own.rd.kids.intAt s2
   subst e5
   have hkw : (Lit.int .i64 kid).wf = true := by
    have := hI.out.sk.1.2.2.2.1 i s3
    rw [s2] at this
    simp only [Option.getD_some] at this
    exact WalkArith.wf_i64 (by omega)
   have bD : Below wr.heap.size wr wr.drew := below_drewN' wr 1 _
   have hlk1 := hI.out.pw.map.look Tryz.underlying86 (zeroNd wr) hkw false
   have hlk2 := (hI.out.pw.to bD).map.look Tryz.underlying86 (zeroNd wr.drew) hkw false
   rw [hv] at hlk1 hlk2
   simp only [Option.getD_some, Bool.false_eq_true, if_false] at hlk1 hlk2
   have VN := hide (hI.out.put (kv' := kv') (vv' := vv') (dv' := dv') hnb.out hw0.out z4 s5)
   obtain ⟨ka', kc', va', vc', da', dc', rfl, rfl, rfl⟩ := z4.rd.slices
   dsimp only [nv] at hlk1 hlk2
   have hil : (i : Int) < (nd.kids.length : Int) := by omega
   have KF := hide (pfind9_any _ _ _ _ nd' key VN.out.own.rd s5.1.fit)
   obtain ⟨⟨F0, F1, F2, F3⟩, FF⟩ := cells4 VN.out.box
   rw [s1]
   replace hl := hide hl
   clear s1 s2 s4 n1 n2 s5 hv z4 bD hkw hI
   obtain ⟨Y, hY⟩ : ∃ Y, Y = (S4 nb wr (.bool nd'.leaf) (.slice ka' nd'.keys.length kc') (.slice va' nd'.vals.length vc') (.slice da' nd'.kids.length dc')).drew := ⟨_, rfl⟩
   rw [← hY] at VN KF F0 F1 F2 F3 FF
   dsimp only [S4] at hY
   dsimp only [nv] at KF
   go_wp2
   go_region
   rw [← hY]
   clear hY hlk1 hlk2 E0 E1 E2 E3 EF C0 C1 C2 C3 C4 C5 CF
   go_wp2_with fail
   refine KF.out.mono ?_
   rintro e w5 ⟨rfl, b5⟩
   have VN5 := hide (VN.out.to b5)
   clear b5 VN KF F0 F1 F2 F3 FF
   go_wp2
   go_roundg k'
   case measure => omega
   case rel => exact ⟨nd', _, _, _, rfl, rfl, VN5⟩
  | true =>
   rw [hl] at E0
   obtain ⟨i, s1, s2⟩ := hI.out.sk.leaf hl
   have BB := hide hI.out.bel
   rw [s1]
   rcases s2 with ⟨s2, s3, s4⟩ | ⟨s2, s3⟩
   ·obtain ⟨v, hv⟩ := some_el nd.vals (k := i) s3
    have hr : Hid (R = (v, true)) := by show _ = _; rw [hR.out, s4, hv]; rfl
    obtain ⟨b5, off5, e5, hc5⟩ := hI.out.own.rd.vals.strAt hv
    subst e5
    have hil : (i : Int) < (nd.vals.length : Int) := by omega
    rw [s2]
    replace hl := hide hl
    clear s1 s2 s4 hv hI
    go_wp2
    go_ret2
    rw [hr.out]
    exact ⟨rfl, BB.out⟩
   ·have hr : Hid (R = ([], false)) := by show _ = _; rw [hR.out, s3]; rfl
    rw [s2]
    replace hl := hide hl
    clear s1 s2 s3 hI
    go_wp2
    go_ret2
    rw [hr.out]
    exact ⟨rfl, BB.out⟩
end Go.Proofs.YtgmkknonnidgaaaGreat

namespace Go.Proofs.YtgmkknonnidgaaaGreat
open Go.RowKit
abbrev NV := Nd × Value × Value × Value
def ncl (ns : List NV) : List Value := ns.flatMap fun n => [.bool n.1.leaf, n.2.1, n.2.2.1, n.2.2.2]
theorem ncl_app (a b : List NV) : ncl (a ++ b) = ncl a ++ ncl b := by unfold ncl; rw [List.flatMap_append]
theorem ncl_at : ∀ (l : List NV) (i : Nat) (y : NV), l[i]? = some y → (ncl l)[i * 4]? = some (.bool y.1.leaf) ∧ (ncl l)[i * 4 + 1]? = some y.2.1 ∧ (ncl l)[i * 4 + 2]? = some y.2.2.1 ∧ (ncl l)[i * 4 + 3]? = some y.2.2.2
 | [], i, y, h => by simp at h
 | x :: r, 0, y, h => by
  have : x = y := by simpa using h
  subst this
  exact ⟨rfl, rfl, rfl, rfl⟩
 | x :: r, i + 1, y, h => by
  have := ncl_at r i y (by simpa using h)
  rw [show (i + 1) * 4 = i * 4 + 4 from by omega, show i * 4 + 4 + 1 = i * 4 + 1 + 4 from by omega, show i * 4 + 4 + 2 = i * 4 + 2 + 4 from by omega, show i * 4 + 4 + 3 = i * 4 + 3 + 4 from by omega]
  exact this
abbrev OwnNs (B : Nat) (w : World) (v : Value) (ns : List NV) : Prop := w.ownsRow B 76 4 v ns.length (ncl ns)
theorem infoNd4 : (Tryz.prog.info? 76).map (fun i => (i.zero, i.size, i.bytes)) = some (some (.agg #[.bool false, .slice none 0 0, .slice none 0 0, .slice none 0 0]), 4, 80) := by kernel_rfl
theorem step_appN {ops : Array Oper} {o : Oper} {a : Act} {w : World} {K : Act → World → Prop} {Q : Exit → Act → World → Prop} {E : Prop} (hgd : o.guard = none) (s x : Operand)
  (ho : o.op = .call { callee := .builtin .append, args := #[s, x], argTypes := #[106, 106] }) (B : Nat) (v : Value) (ns : List NV) (y : NV) (g : Nat) (hs : a.eval s = v) (hx : a.eval x = .slice (some ⟨g, 0, none⟩) 1 1)
  (hown : OwnNs B w v ns) (ho1 : y.2.1.oneCell' = true ∧ y.2.2.1.oneCell' = true ∧ y.2.2.2.oneCell' = true) (hbx : w.heap[g]? = some (.cells #[.bool y.1.leaf, y.2.1, y.2.2.1, y.2.2.2] 76 (0, 0))) (hlen : (ns.length + 1) * 80 ≤ 140737488355328) (hB : B ≤ w.heap.size)
  (h : ∀ g' cap w', OwnNs B w' (.slice (some ⟨g', 0, none⟩) (ns.length + 1) cap) (ns ++ [y]) → w.grownBy w' v.ownBlock → (v.ownBlock = some g' ∨ g' = w.heap.size) → K (a.put o.dst (.slice (some ⟨g', 0, none⟩) (ns.length + 1) cap)) w') : if Region.wanted o (yielded ops a.tmps) = true then Oper.wp Tryz.prog o a w K Q else E := by
 obtain ⟨i0, hi, hz0, hz1, hz2⟩ := info_parts infoNd4
 have n2 : ∀ j u, (ncl [y])[j]? = some u → w.cell? ((⟨g, 0, none⟩ : Addr).add j) = some u := by
  intro j u hj
  have e : (⟨g, 0, none⟩ : Addr).add j = ⟨g, j, none⟩ := by
   by_cases h0 : j = 0
   ·subst h0; rfl
   ·simp [Addr.add, h0]
  rw [e]
  exact cellN hbx (by simpa [ncl] using hj)
 refine step_append_lies _ hgd s x 106 ho B 76 i0 (.agg #[.bool false, .slice none 0 0, .slice none 0 0, .slice none 0 0]) 4 80 Tryz.underlying106 hi hz0 hz1 hz2 rfl (by decide) v ns.length (ncl ns) hs hown ⟨g, 0, none⟩ 1 1 (ncl [y]) hx rfl n2
  (fun u hu => by simp [ncl] at hu; rcases hu with rfl | rfl | rfl | rfl; rfl; exact ho1.1; exact ho1.2.1; exact ho1.2.2) (by decide) (by rw [show maxLen = 9223372036854775807 from rfl]; omega) hlen hB _ rfl ?_
 intro g' cap w' h1 h2 h3 _
 refine h g' cap w' ?_ h2 h3
 show World.ownsRow _ _ _ _ _ _ _
 rw [ncl_app]
 simpa using h1
structure ChI (B : Nat) (w : World) (gc g : Nat) (next : Int) (av : Value) (ns : List NV) : Prop where
 box : w.heap[gc]? = some (.cells #[.pointer (some ⟨g, 0, none⟩), av] 108 (0, 0))
 row : OwnNs B w av ns
 nxt : w.cell? ⟨g, 1, none⟩ = some (.int .i64 next)
 hC : B ≤ gc
theorem ChI.to {B : Nat} {w w' : World} {gc g : Nat} {next : Int} {av : Value} {ns : List NV} (h : ChI B w gc g next av ns) (b : Below w.heap.size w w') : ChI B w' gc g next av ns :=
 ⟨(b.block _ (lt_of_block h.box)).trans h.box, rows_to h.row b, (b.cell (cell_lt h.nxt)).trans h.nxt, h.hC⟩
structure KCh (B gc : Nat) (av av' : Value) (w w' : World) : Prop where
 keep : ∀ b, b < w.heap.size → b ≠ gc → av.ownBlock ≠ some b → w'.heap[b]? = w.heap[b]?
 row : ∀ b, av'.ownBlock = some b → av.ownBlock = some b ∨ w.heap.size ≤ b
 size : w.heap.size ≤ w'.heap.size
 bel : Below B w w'
theorem KCh.of {B gc : Nat} {av : Value} {w w' : World} (b : Below w.heap.size w w') (hB : B ≤ w.heap.size) : KCh B gc av av w w' := ⟨fun i hi _ _ => b.block i hi, fun i h => .inl h, b.size, b.mono hB⟩
theorem KCh.trans {B gc : Nat} {a b c : Value} {u v w : World} (h : KCh B gc a b u v) (k : KCh B gc b c v w) : KCh B gc a c u w :=
 ⟨fun i h1 h2 h3 => (k.keep i (Nat.lt_of_lt_of_le h1 h.size) h2 (fun e => by
   rcases h.row i e with q | q
   ·exact h3 q
   ·omega)).trans (h.keep i h1 h2 h3),
  fun i e => by
    rcases k.row i e with q | q
    ·exact h.row i q
    ·exact .inr (Nat.le_trans h.size q),
  Nat.le_trans h.size k.size, h.bel.trans k.bel⟩
theorem ChI.app {B : Nat} {w wA w5 : World} {gc g g' cap : Nat} {next : Int} {av : Value} {ns : List NV} {y : NV} (h : ChI B w gc g next av ns) (bA : Below w.heap.size w wA) (hB : B ≤ w.heap.size) (hg : ∀ b, av.ownBlock = some b → b ≠ g) (hgc : gc ≠ g)
  (o5 : OwnNs B w5 (.slice (some ⟨g', 0, none⟩) (ns.length + 1) cap) (ns ++ [y])) (g5 : wA.grownBy w5 av.ownBlock) (l5 : av.ownBlock = some g' ∨ g' = wA.heap.size) :
  ChI B (w5.setCell ⟨gc, 1, none⟩ (.slice (some ⟨g', 0, none⟩) (ns.length + 1) cap)) gc g next (.slice (some ⟨g', 0, none⟩) (ns.length + 1) cap) (ns ++ [y]) ∧ KCh B gc av (.slice (some ⟨g', 0, none⟩) (ns.length + 1) cap) w (w5.setCell ⟨gc, 1, none⟩ (.slice (some ⟨g', 0, none⟩) (ns.length + 1) cap)) ∧
   w5.cell? ⟨gc, 0, none⟩ = some (.pointer (some ⟨g, 0, none⟩)) ∧ w5.cell? ⟨gc, 1, none⟩ = some av ∧ ∀ i, w5.frozen? ⟨gc, i, none⟩ = false := by
 have hA := h.to bA
 have hbx := KeepT.grown hA.row g5 (e := 108) (by decide) _ _ _ hA.box
 have hkeep : ∀ b, b < w.heap.size → av.ownBlock ≠ some b → w5.heap[b]? = w.heap[b]? := fun b h1 h2 => (g5.block b (Nat.lt_of_lt_of_le h1 bA.size) (fun e => h2 e.symm)).trans (bA.block b h1)
 have hgl : g < w.heap.size := cell_lt h.nxt
 refine ⟨⟨?_, rows_keepT o5 (KeepT.set (a := ⟨gc, 1, none⟩) hbx (by decide) _), ?_, h.hC⟩, ⟨fun b h1 h2 h3 => (Below.heap_setCell _ _ _ _ h2).trans (hkeep b h1 h3), fun b hb => ?_, ?_, ?_⟩, cellN hbx rfl, cellN hbx rfl, frozN hbx⟩
 ·have := heap_setN hbx 1 (.slice (some ⟨g', 0, none⟩) (ns.length + 1) cap)
  simpa using this
 ·have e1 : (w5.setCell ⟨gc, 1, none⟩ (.slice (some ⟨g', 0, none⟩) (ns.length + 1) cap)).heap[g]? = w.heap[g]? := (Below.heap_setCell _ _ _ _ (Ne.symm hgc)).trans (hkeep g hgl (fun e => hg g e rfl))
  have := h.nxt
  simp only [World.cell?] at this ⊢
  rw [e1]; exact this
 ·have : g' = b := by simpa [Value.ownBlock] using hb
  subst this
  rcases l5 with l5 | l5
  ·exact .inl l5
  ·exact .inr (by rw [l5]; exact bA.size)
 ·have := g5.size
  have := bA.size
  simp
  omega
 ·exact ((bA.mono hB).trans ((Below.refl _ _).grown g5 (Nat.le_trans hB bA.size) (fun k hk => (World.ownsRow.lt hA.row k hk).1))).setCell h.hC _
set_option maxRecDepth 100000 in
set_option maxHeartbeats 4000000 in
theorem padd_any (B : Nat) (w : World) (gc g : Nat) (next : Int) (av : Value) (ns : List NV) (nd : Nd) (kv vv dv : Value) (h : ChI B w gc g next av ns) (hB : B ≤ w.heap.size) (hg : ∀ b, av.ownBlock = some b → b ≠ g) (hgc : gc ≠ g) (hns : ns.length ≤ 1000) (hnx : 0 ≤ next ∧ next ≤ 65536)
  (ho1 : kv.oneCell' = true ∧ vv.oneCell' = true ∧ dv.oneCell' = true) :
  Calls Tryz.prog 66 #[.pointer (some ⟨gc, 0, none⟩), nv nd kv vv dv] w fun e w' => ∃ av', e = .returned (.int .i64 (next + (ns.length : Int))) ∧ ChI B w' gc g next av' (ns ++ [(nd, kv, vv, dv)]) ∧ KCh B gc av av' w w' := by
 obtain ⟨W, hW, DW, bW, sW⟩ := boxedN w #[.bool nd.leaf, kv, vv, dv] 76
 have hCW := h.to bW
 obtain ⟨aa, ac, hav⟩ : ∃ a c, av = .slice a ns.length c := by
  rcases h.row.2 with ⟨rfl, e⟩ | ⟨g', cap, cur, rfl, _⟩
  ·exact ⟨none, 0, by rw [e]⟩
  ·exact ⟨_, _, rfl⟩
 subst hav
 obtain ⟨Z, hZ⟩ : ∃ Z, Z = (W.alloc (.cells #[.bool nd.leaf, kv, vv, dv] 76)).drew := ⟨_, rfl⟩
 obtain ⟨za, hza, DA, bA0, sA⟩ := boxedN W #[.bool nd.leaf, kv, vv, dv] 76
 have bWZ : Below W.heap.size W Z := by rw [hZ, ← hza]; exact bA0.trans (below_drewN' za 1 _)
 have bZ : Below w.heap.size w Z := bW.trans (bWZ.mono bW.size)
 have DZ : Z.heap[W.heap.size]? = some (.cells #[.bool nd.leaf, kv, vv, dv] 76 (0, 0)) := by rw [hZ, ← hza]; exact drewHeap DA
 have hOZ : OwnNs B Z (.slice aa ns.length ac) ns := rows_to h.row bZ
 have hBZ : B ≤ Z.heap.size := Nat.le_trans hB bZ.size
 have FIN : ∀ g' cap w5, OwnNs B w5 (.slice (some ⟨g', 0, none⟩) (ns.length + 1) cap) (ns ++ [(nd, kv, vv, dv)]) → Z.grownBy w5 (Value.slice aa ns.length ac).ownBlock → ((Value.slice aa ns.length ac).ownBlock = some g' ∨ g' = Z.heap.size) → _ := fun g' cap w5 o5 g5 l5 => h.app bZ hB hg hgc o5 g5 l5
 have hK5 : ∀ w5, Z.grownBy w5 (Value.slice aa ns.length ac).ownBlock → w5.heap[w.heap.size]? = some (.cells #[.bool nd.leaf, kv, vv, dv] 76 (0, 0)) := fun w5 g5 => by
  refine (g5.block w.heap.size (by have := bWZ.size; omega) fun e => ?_).trans ((bWZ.block _ (by omega)).trans DW)
  have := (World.ownsRow.lt h.row w.heap.size e.symm).2
  omega
 have bWd : Below W.heap.size W W.drew := below_drewN' W 1 _
 have C1 : W.drew.cell? ⟨gc, 1, none⟩ = some (.slice aa ns.length ac) := cellN (drewHeap hCW.box) rfl
 have C0 : W.drew.cell? ⟨gc, 0, none⟩ = some (.pointer (some ⟨g, 0, none⟩)) := cellN (drewHeap hCW.box) rfl
 obtain ⟨⟨E0, E1, E2, E3⟩, _⟩ := cells4 (drewHeap DW)
 obtain ⟨m, hm⟩ : ∃ m : Nat, m = ns.length := ⟨_, rfl⟩
 obtain ⟨z1, hz1⟩ : ∃ z : Int, next + ((m + 1 : Nat) : Int) = z := ⟨_, rfl⟩
 have hzw : IntKind.i64.wrap z1 = z1 := IntWalk.i64_in _ (by omega)
 obtain ⟨z2, hz2⟩ : ∃ z : Int, z1 - 1 = z := ⟨_, rfl⟩
 have hzw2 : IntKind.i64.wrap z2 = z2 := IntWalk.i64_in _ (by omega)
 have hres : Hid (z2 = next + (ns.length : Int)) := by show _ = _; omega
 rw [sW] at DZ
 rw [hZ] at DZ hOZ hBZ FIN hK5
 replace DZ := hide DZ
 replace hOZ := hide hOZ
 replace hBZ := hide hBZ
 replace FIN := hide FIN
 replace hK5 := hide hK5
 have hns' : Hid ((ns.length + 1) * 80 ≤ 140737488355328) := by show _ ≤ _; omega
 have hBw := hide hB
 clear hZ hza DA bA0 sA bWZ bZ DW bW bWd hCW h hg hgc hB
 dsimp only [nv]
 go_enter Tryz.func66, Tryz.ntmps66
 go_upto_region 1 with fail
 rw [← hW]
 replace hW := hide hW
 refine wp_region_mid (fun w' => w'.cell? ⟨gc, 1, none⟩ = some (.slice aa ns.length ac) ∧ w'.cell? ⟨w.heap.size, 0, none⟩ = some (.bool nd.leaf) ∧ w'.cell? ⟨w.heap.size, 1, none⟩ = some kv ∧ w'.cell? ⟨w.heap.size, 2, none⟩ = some vv ∧ w'.cell? ⟨w.heap.size, 3, none⟩ = some dv) 6 8 mixed (by kernel_rfl) (fun _ _ _ _ h => h) ⟨C1, E0, E1, E2, E3⟩ ?_
 dsimp only [List.take, List.drop]
 iterate 6
  refine take_one (v := ?_) (by rfl) ?_ ?_
  rotate_left
  ·rintro w' ⟨s1, s2, s3, s4, s5⟩
   go_simp
   try with_reducible rfl
  try simp only [Act.put, List.setIfInBounds_toArray, List.set_cons_zero, List.set_cons_succ]
 refine mid_one fun K hK => ?_
 rw [if_pos (by rfl)]
 go_simp
 refine hK _ _ ⟨cellAl C1 _, cellAl E0 _, cellAl E1 _, cellAl E2 _, cellAl E3 _⟩ ?_
 clear hK K
 refine mid_one fun K hK => ?_
 refine step_appN rfl _ _ rfl B (.slice aa ns.length ac) ns (nd, kv, vv, dv) (w.heap.size + 1) rfl rfl hOZ.out ho1 DZ.out hns'.out hBZ.out ?_
 intro g' cap w5 o5 g5 l5
 obtain ⟨f1, f2, f3, f4, f5⟩ := FIN.out g' cap w5 o5 g5 l5
 obtain ⟨⟨H0, H1, H2, H3⟩, _⟩ := cells4 (hK5.out w5 g5)
 refine hK _ _ ⟨f4, H0, H1, H2, H3⟩ ?_
 have Q0 := cellN f1.box (i := 0) rfl
 have Q1 := cellN f1.box (i := 1) rfl
 have Q2 := f1.nxt
 have FF := hide (And.intro f1 f2)
 rw [← hm] at Q0 Q1 Q2 ⊢
 clear hK K f1 f2 o5 g5 l5 FIN hK5 DZ hOZ hBZ H0 H1 H2 H3 C0 C1 E0 E1 E2 E3
 rw [← hm] at f4
 show wpList _ _ _ _ _ _
 obtain ⟨Y, hY⟩ : ∃ Y, Y = w5.setCell ⟨gc, 1, none⟩ (.slice (some ⟨g', 0, none⟩) (m + 1) cap) := ⟨_, rfl⟩
 rw [← hm] at FF
 rw [← hY] at Q0 Q1 Q2 FF
 replace hm := hide hm
 go_upto_region 2 with fail
 rw [← hY]
 clear hY f3 f4 f5
 go_region
 go_wp2
 go_ret
 have bY : Below Y.heap.size Y Y.drew := below_drewN' Y 1 _
 exact ⟨_, ret_i9 (by have := hm.out; unfold wrap64; omega), FF.out.1.to bY, by rw [← hm.out]; exact FF.out.2.trans (KCh.of bY (Nat.le_trans hBw.out FF.out.2.size))⟩
set_option maxRecDepth 100000 in
theorem pbare_any (w : World) (nd : Nd) (kv vv dv : Value) (h : RdT w kv nd.keys) (hv : vv.oneCell' = true ∧ dv.oneCell' = true) : Calls Tryz.prog 64 #[nv nd kv vv dv] w fun e w' => e = .returned (.bool (!nd.leaf && decide (nd.keys.length = 0))) ∧ Below w.heap.size w w' := by
 obtain ⟨a, c, rfl⟩ := h.slice
 obtain ⟨W, hW, DW, bW, sW⟩ := boxedN w #[.bool nd.leaf, .slice a nd.keys.length c, vv, dv] 76
 obtain ⟨⟨E0, E1, E2, E3⟩, EF⟩ := cells4 DW
 have HB := hide bW
 rw [hW] at E0 E1 E2 E3 EF HB
 obtain ⟨K, hK⟩ : ∃ K, K = nd.keys.length := ⟨_, rfl⟩
 rw [← hK] at E0 E1 E2 E3 EF HB ⊢
 clear hK DW bW hW sW h
 dsimp only [nv]
 go_enter Tryz.func64, Tryz.ntmps64
 cases hl : nd.leaf with
 | true =>
  rw [hl] at E0 E1 E2 E3 EF HB
  go_wp2
  go_ret
  exact ⟨rfl, HB.out⟩
 | false =>
  rw [hl] at E0 E1 E2 E3 EF HB
  by_cases h0 : K = 0
  ·have hq : ((K : Int) == 0) = true := by simp [h0]
   have hd : Hid (decide (K = 0) = true) := decide_eq_true h0
   replace h0 := hide h0
   go_wp2
   go_ret
   exact ⟨by rw [hd.out]; rfl, HB.out⟩
  ·have hq : ((K : Int) == 0) = false := by simp [h0]
   have hd : Hid (decide (K = 0) = false) := decide_eq_false h0
   replace h0 := hide h0
   go_wp2
   go_ret
   exact ⟨by rw [hd.out]; rfl, HB.out⟩
set_option maxRecDepth 100000 in
set_option maxHeartbeats 4000000 in
theorem plaid_any (B : Nat) (w : World) (gc g : Nat) (next : Int) (av : Value) (ns : List NV) (nd : Nd) (kv vv dv : Value) (ahead : Str) (h : ChI B w gc g next av ns) (hB : B ≤ w.heap.size) (hg : ∀ b, av.ownBlock = some b → b ≠ g) (hgc : gc ≠ g) (hns : ns.length ≤ 1000) (hnx : 0 ≤ next ∧ next ≤ 65536)
  (hr : RdN w kv vv dv nd) (hfit : nfit nd) (hk0 : nd.keys.length ≠ 0) (hsz : nsize nd ≤ 244) (hsz0 : 0 ≤ nsize nd) :
  Calls Tryz.prog 65 #[.pointer (some ⟨gc, 0, none⟩), nv nd kv vv dv, st ahead] w fun e w' => ∃ av' gb, e = .returned (.slice (some ⟨gb, 0, none⟩) 1 1) ∧ w'.cell? ⟨gb, 0, none⟩ = some (st ahead) ∧ w'.cell? ⟨gb, 1, none⟩ = some (.int .i64 (next + (ns.length : Int))) ∧
   ChI B w' gc g next av' (ns ++ [(nd, kv, vv, dv)]) ∧ KCh B gc av av' w w' := by
 obtain ⟨ka, kc, va, vc, da, dc, rfl, rfl, rfl⟩ := hr.slices
 obtain ⟨W, hW, DW, bW, sW⟩ := boxedN w #[.bool nd.leaf, .slice ka nd.keys.length kc, .slice va nd.vals.length vc, .slice da nd.kids.length dc] 76
 obtain ⟨⟨E0, E1, E2, E3⟩, EF⟩ := cells4 DW
 have KS := hide (psize9_any W _ _ _ nd (hr.to bW))
 have HW := hide (h.to bW)
 have HK := hide (KCh.of (gc := gc) (av := av) bW hB)
 have HD := hide DW
 have hBW : Hid (B ≤ W.heap.size) := Nat.le_trans hB bW.size
 have hq0 : ((nd.keys.length : Int) == 0) = false := by simpa using hk0
 replace hsz := hide hsz
 replace hsz0 := hide hsz0
 replace hg := hide hg
 replace hgc := hide hgc
 replace hk0 := hide hk0
 rw [hW] at E0 E1 E2 E3 EF KS
 dsimp only [nv] at KS ⊢
 clear DW bW h hr hB hfit
 go_enter Tryz.func65, Tryz.ntmps65
 go_wp2_with fail
 refine KS.out.mono ?_
 rintro e w1 ⟨rfl, b1⟩
 rw [← hW] at b1
 clear E0 E1 E2 E3 EF KS
 replace hW := hide hW
 have hws : wrap64 (nsize nd) = nsize nd := by have := hsz.out; have := hsz0.out; unfold wrap64; omega
 rw [hws]
 have hle : nsize nd ≤ 244 := hsz.out
 have H1 := hide (HW.out.to b1)
 have K1 := hide (HK.out.trans (KCh.of (gc := gc) (av := av) b1 hBW.out))
 have D1 := (b1.block _ (lt_of_block HD.out)).trans HD.out
 obtain ⟨⟨E0, E1, E2, E3⟩, EF⟩ := cells4 D1
 have hB1 : Hid (B ≤ w1.heap.size) := Nat.le_trans hBW.out b1.size
 have KA := hide (padd_any B w1 gc g next av ns nd (.slice ka nd.keys.length kc) (.slice va nd.vals.length vc) (.slice da nd.kids.length dc) H1.out hB1.out hg.out hgc.out hns hnx ⟨rfl, rfl, rfl⟩)
 dsimp only [nv] at KA
 clear b1 HW HK HD hws D1
 generalize nsize nd = sz at *
 go_wp2_with fail
 refine KA.out.mono ?_
 rintro e w2 ⟨av2, rfl, c2, k2⟩
 have C2 := hide c2
 have K2 := hide (K1.out.trans k2)
 have hB2 : Hid (B ≤ w2.heap.size) := Nat.le_trans hB1.out k2.size
 obtain ⟨kid, hkid⟩ : ∃ k : Int, k = next + (ns.length : Int) := ⟨_, rfl⟩
 rw [← hkid]
 obtain ⟨Y, hY, DY, bY, sY⟩ := boxedN w2 #[st ahead, .int .i64 kid] 133
 have FIN : Hid (Y.cell? ⟨w2.heap.size, 0, none⟩ = some (st ahead) ∧ Y.cell? ⟨w2.heap.size, 1, none⟩ = some (.int .i64 kid) ∧ ChI B Y gc g next av2 (ns ++ [(nd, .slice ka nd.keys.length kc, .slice va nd.vals.length vc, .slice da nd.kids.length dc)]) ∧ KCh B gc av av2 w Y) :=
  ⟨cellN DY rfl, cellN DY rfl, C2.out.to bY, K2.out.trans (KCh.of bY hB2.out)⟩
 rw [hY] at FIN
 replace hkid := hide hkid
 clear c2 k2 KA E0 E1 E2 E3 EF DY bY hY
 go_wp2
 go_ret
 exact ⟨_, _, rfl, FIN.out.1, by rw [← hkid.out]; exact FIN.out.2.1, FIN.out.2.2⟩
set_option maxRecDepth 100000 in
set_option maxHeartbeats 4000000 in
theorem proot_any (B : Nat) (w : World) (gc g : Nat) (next : Int) (av : Value) (ns : List NV) (nd : Nd) (kv vv dv : Value) (h : ChI B w gc g next av ns) (hB : B ≤ w.heap.size) (hg : ∀ b, av.ownBlock = some b → b ≠ g) (hgc : gc ≠ g) (hns : ns.length ≤ 1000) (hnx : 0 ≤ next ∧ next ≤ 65536)
  (hr : RdN w kv vv dv nd) (hfit : nfit nd) (hl : nd.leaf = true) (hk0 : nd.keys.length ≠ 0) (hsz : nsize nd ≤ 244) (hsz0 : 0 ≤ nsize nd) :
  Calls Tryz.prog 47 #[.pointer (some ⟨gc, 0, none⟩), nv nd kv vv dv] w fun e w' => ∃ av', e = .returned (.int .i64 (next + (ns.length : Int))) ∧ ChI B w' gc g next av' (ns ++ [(nd, kv, vv, dv)]) ∧ KCh B gc av av' w w' := by
 obtain ⟨ka, kc, va, vc, da, dc, rfl, rfl, rfl⟩ := hr.slices
 obtain ⟨W, hW, DW, bW, sW⟩ := boxedN w #[.bool nd.leaf, .slice ka nd.keys.length kc, .slice va nd.vals.length vc, .slice da nd.kids.length dc] 76
 obtain ⟨⟨E0, E1, E2, E3⟩, EF⟩ := cells4 DW
 have KB := hide (pbare_any W nd _ (.slice va nd.vals.length vc) (.slice da nd.kids.length dc) (hr.to bW).keys ⟨rfl, rfl⟩)
 have HW := hide (h.to bW)
 have HK := hide (KCh.of (gc := gc) (av := av) bW hB)
 have HD := hide DW
 have HR := hide (hr.to bW)
 have hBW : Hid (B ≤ W.heap.size) := Nat.le_trans hB bW.size
 replace hsz := hide hsz
 replace hsz0 := hide hsz0
 replace hg := hide hg
 replace hgc := hide hgc
 replace hk0 := hide hk0
 replace hfit := hide hfit
 have HL := hide hl
 dsimp only [nv] at KB ⊢
 rw [hl] at KB E0 hW HD ⊢
 rw [hW] at E0 E1 E2 E3 EF KB
 clear DW bW h hr hB
 go_enter Tryz.func47, Tryz.ntmps47
 go_wp2_with fail
 refine KB.out.mono ?_
 rintro e w1 ⟨rfl, b1⟩
 rw [← hW] at b1
 clear E0 E1 E2 E3 EF KB
 replace hW := hide hW
 have H1 := hide (HW.out.to b1)
 have K1 := hide (HK.out.trans (KCh.of (gc := gc) (av := av) b1 hBW.out))
 have D1 := (b1.block _ (lt_of_block HD.out)).trans HD.out
 obtain ⟨⟨E0, E1, E2, E3⟩, EF⟩ := cells4 D1
 have hB1 : Hid (B ≤ w1.heap.size) := Nat.le_trans hBW.out b1.size
 have KL := hide (plaid_any B w1 gc g next av ns nd (.slice ka nd.keys.length kc) (.slice va nd.vals.length vc) (.slice da nd.kids.length dc) [] H1.out hB1.out hg.out hgc.out hns hnx (HR.out.to b1) hfit.out hk0.out hsz.out hsz0.out)
 dsimp only [nv] at KL
 rw [HL.out] at KL
 clear b1 D1
 go_wp2_with fail
 refine KL.out.mono ?_
 rintro e w2 ⟨av2, gb, rfl, q0, q1, c2, k2⟩
 have C2 := hide (And.intro c2 (K1.out.trans k2))
 obtain ⟨kid, hkid⟩ : ∃ k : Int, k = next + (ns.length : Int) := ⟨_, rfl⟩
 rw [← hkid] at q1
 replace hkid := hide hkid
 clear c2 k2 KL E0 E1 E2 E3 EF
 go_wp2
 go_ret
 exact ⟨_, ret_i9 hkid.out, C2.out.1, C2.out.2⟩
end Go.Proofs.YtgmkknonnidgaaaGreat

namespace Go.Proofs.YtgmkknonnidgaaaGreat
open Go.RowKit
theorem wpList_appS {ops : Array Oper} {rest : List Oper} {o : Oper} {a : Act} {w : World} {Q : Exit → Act → World → Prop} (hgd : o.guard = none) (s x : Operand)
  (ho : o.op = .call { callee := .builtin .append, args := #[s, x], argTypes := #[23, 23] }) (B : Nat) (v : Value) (xs : List Str) (y : Str) (g : Nat) (hs : a.eval s = v) (hx : a.eval x = .slice (some ⟨g, 0, none⟩) 1 1)
  (hown : OwnT B w v xs) (hc : w.cell? ⟨g, 0, none⟩ = some (st y)) (hlen : (xs.length + 1) * 16 ≤ 140737488355328) (hB : B ≤ w.heap.size)
  (h : ∀ g' cap w', OwnT B w' (.slice (some ⟨g', 0, none⟩) (xs.length + 1) cap) (xs ++ [y]) → w.grownBy w' v.ownBlock → (v.ownBlock = some g' ∨ g' = w.heap.size) → wpList Tryz.prog ops Q rest (a.put o.dst (.slice (some ⟨g', 0, none⟩) (xs.length + 1) cap)) w') : wpList Tryz.prog ops Q (o :: rest) a w := by
 obtain ⟨i0, hi, hz0, hz1, hz2⟩ := info_parts infoT
 have n2 : ∀ j u, ([y].map st)[j]? = some u → w.cell? ((⟨g, 0, none⟩ : Addr).add j) = some u := by
  intro j u hj
  match j, hj with
  | 0, hj => simp at hj; subst hj; simpa [Addr.add] using hc
  | j + 1, hj => simp at hj
 refine wpList_append_lies _ hgd s x 23 ho B 9 i0 (.string ⟨#[]⟩) 1 16 Tryz.underlying23 hi hz0 hz1 hz2 rfl (by decide) v xs.length (xs.map st) hs hown ⟨g, 0, none⟩ 1 1 ([y].map st) hx rfl n2
  (fun u hu => by simp at hu; subst hu; rfl) (by decide) (by rw [show maxLen = 9223372036854775807 from rfl]; omega) hlen hB _ rfl ?_
 intro g' cap w' h1 h2 h3 _
 refine h g' cap w' ?_ h2 h3
 show World.ownsRow _ _ _ _ _ _ _
 rw [List.map_append]
 simpa using h1
def InsR (B : Nat) (w w' : World) (v : Value) (xs : List Str) (e : Ending) : Prop := ∃ g' cap, e = .returned (.slice (some ⟨g', 0, none⟩) xs.length cap) ∧ OwnT B w' (.slice (some ⟨g', 0, none⟩) xs.length cap) xs ∧ w.grownBy w' v.ownBlock ∧ (v.ownBlock = some g' ∨ g' = w.heap.size)
set_option maxRecDepth 100000 in
set_option maxHeartbeats 4000000 in
theorem pins_end (B : Nat) (w : World) (v : Value) (xs : List Str) (y : Str) (gv : Nat) (h : OwnT B w v xs) (hc : w.cell? ⟨gv, 0, none⟩ = some (st y)) (hB : B ≤ w.heap.size) (hl : xs.length ≤ 1000000) :
  Calls Tryz.prog 36 #[v, .int .i64 (xs.length : Int), .slice (some ⟨gv, 0, none⟩) 1 1] w fun e w' => InsR B w w' v (xs ++ [y]) e := by
 obtain ⟨a, c, hv⟩ := h.rd.slice
 subst hv
 have hcap : xs.length ≤ c := by
  rcases h.2 with ⟨e, e2⟩ | ⟨g, cap, cur, e, _, _, hn, _⟩
  ·simp only [Value.slice.injEq] at e; omega
  ·simp only [Value.slice.injEq] at e; omega
 have hn : (xs.length + 1) * 16 ≤ 140737488355328 := by omega
 have hq : ((xs.length : Int) == (xs.length : Int)) = true := by simp
 have HC := hide hc
 by_cases hcc : c = xs.length
 ·subst hcc
  have HO := hide h
  clear h
  go_enter Tryz.func36, Tryz.ntmps36
  go_upto_region 7 with fail
  go_wp2_with (at_builtin; refine wpList_appS rfl _ _ rfl B _ xs y gv rfl rfl HO.out HC.out hn hB ?_; intro g' cap w' o5 g5 l5)
  have FF := hide (And.intro o5 (And.intro g5 l5))
  clear o5 g5 l5
  go_wp2
  go_ret
  refine ⟨g', cap, ?_, ?_, FF.out.2.1, FF.out.2.2⟩
  ·rw [List.length_append]; rfl
  ·rw [List.length_append]; exact FF.out.1
 ·have HO := hide h
  clear h
  go_enter Tryz.func36, Tryz.ntmps36
  go_upto_region 7 with fail
  go_wp2_with (at_builtin; refine wpList_appS rfl _ _ rfl B _ xs y gv rfl rfl HO.out HC.out hn hB ?_; intro g' cap w' o5 g5 l5)
  have FF := hide (And.intro o5 (And.intro g5 l5))
  clear o5 g5 l5
  go_wp2
  go_ret
  refine ⟨g', cap, ?_, ?_, FF.out.2.1, FF.out.2.2⟩
  ·rw [List.length_append]; rfl
  ·rw [List.length_append]; exact FF.out.1
end Go.Proofs.YtgmkknonnidgaaaGreat

namespace Go.Proofs.YtgmkknonnidgaaaGreat
open Go.RowKit
def pnew (nd : Nd) (key val : Str) (at9 : Nat) (there : Bool) : Nd := if there = true then ⟨nd.leaf, nd.keys, nd.vals.set at9 val, nd.kids⟩ else ⟨nd.leaf, nd.keys ++ [key], nd.vals ++ [val], nd.kids⟩
structure KS9 (B : Nat) (w w' : World) : Prop where
 typ : ∀ e, e ≠ 9 → KeepT e w w'
 bel : Below B w w'
 size : w.heap.size ≤ w'.heap.size
theorem KS9.of {B : Nat} {w w' : World} (b : Below w.heap.size w w') (hB : B ≤ w.heap.size) : KS9 B w w' := ⟨fun e _ => KeepT.below b, b.mono hB, b.size⟩
theorem KS9.trans {B : Nat} {a b c : World} (h : KS9 B a b) (k : KS9 B b c) : KS9 B a c := ⟨fun e he => (h.typ e he).trans (k.typ e he), h.bel.trans k.bel, Nat.le_trans h.size k.size⟩
theorem KS9.grown {B : Nat} {w w' : World} {v : Value} {xs : List Str} (h : OwnT B w v xs) (g : w.grownBy w' v.ownBlock) (hB : B ≤ w.heap.size) : KS9 B w w' :=
 ⟨fun e he => KeepT.grown h g he, (Below.refl _ _).grown g hB (fun k hk => (World.ownsRow.lt h k hk).1), g.size⟩
set_option maxRecDepth 100000 in
set_option maxHeartbeats 4000000 in
theorem pputcl_end (B : Nat) (w : World) (nd : Nd) (kv vv dv : Value) (key val : Str) (at9 : Nat) (there : Bool) (gk gl : Nat) (hN : OwnN B w kv vv dv nd) (hD : Dj kv vv dv) (hB : B ≤ w.heap.size) (hlen : nd.keys.length ≤ 1000) (hlv : nd.vals.length = nd.keys.length)
  (hk : w.heap[gk]? = some (.cells #[st key] 9 (0, 0))) (hgk : gk < B) (hv : w.heap[gl]? = some (.cells #[st val] 9 (0, 0))) (hgl : gl < B) (ha : there = false ∧ at9 = nd.keys.length) :
  Calls Tryz.prog 35 #[nv nd kv vv dv, .int .i64 (at9 : Int), .bool there, .pointer (some ⟨gl, 0, none⟩), .pointer (some ⟨gk, 0, none⟩)] w fun e w' => ∃ kv' vv', e = .returned (nv (pnew nd key val at9 there) kv' vv' dv) ∧ OwnN B w' kv' vv' dv (pnew nd key val at9 there) ∧ KS9 B w w' := by
 obtain ⟨W, hW, DW, bW, sW⟩ := boxedN w #[.bool nd.leaf, kv, vv, dv] 76
 obtain ⟨X, hX, DX, bX, sX⟩ := boxedN W #[.bool false, .slice none 0 0, .slice none 0 0, .slice none 0 0] 76
 have bWX := bW.trans (bX.mono bW.size)
 have NX := hN.to bWX
 have D1 := (bX.block _ (lt_of_block DW)).trans DW
 rw [sW] at DX
 have kX := (bWX.block _ (lt_of_block hk)).trans hk
 have vX := (bWX.block _ (lt_of_block hv)).trans hv
 have K0 := hide (KS9.of bWX hB)
 have hBX : B ≤ X.heap.size := Nat.le_trans hB bWX.size
 obtain ⟨ka, kc, va, vc, da, dc, rfl, rfl, rfl⟩ := hN.rd.slices
 obtain ⟨⟨E0, E1, E2, E3⟩, EF⟩ := cells4 D1
 obtain ⟨⟨F0, F1, F2, F3⟩, FF⟩ := cells4 DX
 have G0 := cellN kX (i := 0) rfl
 have L0 := cellN vX (i := 0) rfl
 dsimp only [nv]
 replace hlv := hide hlv
 replace hD := hide hD
 obtain ⟨rfl, rfl⟩ := ha
 ·have hpn : Hid (pnew nd key val nd.keys.length false = ⟨nd.leaf, nd.keys ++ [key], nd.vals ++ [val], nd.kids⟩) := rfl
  obtain ⟨Y, hY, DY, bY, sY⟩ := boxedN X #[st key] 9
  have KI := hide (pins_end B Y (.slice ka nd.keys.length kc) nd.keys key X.heap.size (rows_to NX.keys bY) (cellN DY rfl) (Nat.le_trans hBX bY.size) (by omega))
  have HY := hide (And.intro bY (And.intro NX (And.intro D1 DX)))
  have kY := hide ((bY.block _ (lt_of_block vX)).trans vX)
  have hsX : Hid (X.heap.size = w.heap.size + 1 + 1) := by show _ = _; rw [sX, sW]
  rw [sX, sW] at KI
  rw [hY, hX, hW] at KI
  rw [hX, hW] at E0 E1 E2 E3 EF F0 F1 F2 F3 FF G0 L0
  clear DY bY NX D1 DX kX vX DW bW bX bWX hk hv hN
  go_enter Tryz.func35, Tryz.ntmps35
  go_wp2_with fail
  refine KI.out.mono ?_
  rintro e w2 ⟨g2, c2, rfl, o2, r2, l2⟩
  rw [← hW, ← hX, ← hY] at r2 l2
  clear E0 E1 E2 E3 EF F0 F1 F2 F3 FF G0 L0 KI
  have o2' : OwnT B w2 (.slice (some ⟨g2, 0, none⟩) (nd.keys ++ [key]).length c2) (nd.keys ++ [key]) := o2
  clear o2
  obtain ⟨KL, hKL⟩ : ∃ n, n = (nd.keys ++ [key]).length := ⟨_, rfl⟩
  have o2 : OwnT B w2 (.slice (some ⟨g2, 0, none⟩) KL c2) (nd.keys ++ [key]) := by rw [hKL]; exact o2'
  rw [← hKL]
  replace hKL := hide hKL
  clear o2'
  obtain ⟨bY, NX, D1, DX⟩ := HY.out
  have hE : Hid (∀ b, b < X.heap.size → (Value.slice ka nd.keys.length kc).ownBlock ≠ some b → w2.heap[b]? = X.heap[b]?) := fun b hb hne => (r2.block b (Nat.lt_of_lt_of_le hb bY.size) (fun e => hne e.symm)).trans (bY.block b hb)
  have kk := KS9.grown (rows_to NX.keys bY) r2 (Nat.le_trans hBX bY.size)
  have K2 := hide ((K0.out.trans (KS9.of bY hBX)).trans kk)
  have V2 : OwnT B w2 (.slice va nd.vals.length vc) nd.vals := row_kept r2 (rows_to NX.vals bY) hD.out.1
  have J2 : OwnJ B w2 (.slice da nd.kids.length dc) nd.kids := row_kept r2 (rows_to NX.kids bY) hD.out.2.1
  have D2 := kk.typ _ (by decide) _ _ _ ((bY.block _ (lt_of_block D1)).trans D1)
  have R2 := kk.typ _ (by decide) _ _ _ ((bY.block _ (lt_of_block DX)).trans DX)
  have L2 := (kk.bel.block gl hgl).trans kY.out
  have hdj : Hid (∀ b, (Value.slice (some ⟨g2, 0, none⟩) KL c2).ownBlock = some b → (Value.slice va nd.vals.length vc).ownBlock ≠ some b) := fun b hb hb2 => by
   have : g2 = b := by simpa [Value.ownBlock] using hb
   subst this
   rcases l2 with l2 | l2
   ·exact hD.out.1 _ l2 hb2
   ·have := (World.ownsRow.lt NX.vals _ hb2).2
    have := bY.size
    omega
  have hBs : Hid (B ≤ w2.heap.size) := Nat.le_trans (Nat.le_trans hBX bY.size) kk.size
  -- the keys are stored
  obtain ⟨U, hU⟩ : ∃ U, U = w2.setCell ⟨w.heap.size, 1, none⟩ (.slice (some ⟨g2, 0, none⟩) KL c2) := ⟨_, rfl⟩
  have kU : ∀ e, e ≠ 76 → KeepT e w2 U := fun e he => by rw [hU]; exact KeepT.set (a := ⟨w.heap.size, 1, none⟩) D2 he _
  have DU : U.heap[w.heap.size]? = some (.cells #[.bool nd.leaf, .slice (some ⟨g2, 0, none⟩) KL c2, .slice va nd.vals.length vc, .slice da nd.kids.length dc] 76 (0, 0)) := by
   rw [hU]; have := heap_setN D2 1 (.slice (some ⟨g2, 0, none⟩) KL c2); simpa using this
  have RU : U.heap[w.heap.size + 1]? = some (.cells #[.bool false, .slice none 0 0, .slice none 0 0, .slice none 0 0] 76 (0, 0)) := by rw [hU]; exact (Below.heap_setCell _ _ _ _ (show w.heap.size + 1 ≠ w.heap.size by omega)).trans R2
  have LU : U.heap[gl]? = some (.cells #[st val] 9 (0, 0)) := kU _ (by decide) _ _ _ L2
  obtain ⟨⟨E0, E1, E2, E3⟩, EF⟩ := cells4 D2
  obtain ⟨⟨P0, P1, P2, P3⟩, PF⟩ := cells4 DU
  have L0 := cellN LU (i := 0) rfl
  have sU : U.heap.size = w2.heap.size := by rw [hU]; simp
  have KU := hide (rows_keepT o2 (kU _ (by decide)))
  have VU := rows_keepT V2 (kU _ (by decide))
  have JU := hide (rows_keepT J2 (kU _ (by decide)))
  have bU2 : Below B w2 U := by rw [hU]; exact (Below.refl _ _).setCell (show B ≤ w.heap.size from hB) _
  have K2U := hide (K2.out.bel.trans bU2)
  have hBU : B ≤ U.heap.size := by rw [sU]; exact hBs.out
  obtain ⟨Z, hZ, DZ, bZ, sZ⟩ := boxedN U #[st val] 9
  have KI2 : Hid (Calls Tryz.prog 36 #[.slice va nd.vals.length vc, .int .i64 (nd.keys.length : Int), .slice (some ⟨U.heap.size, 0, none⟩) 1 1] Z fun e w' => InsR B Z w' (.slice va nd.vals.length vc) (nd.vals ++ [val]) e) := by
   have h9 := pins_end B Z (.slice va nd.vals.length vc) nd.vals val U.heap.size (rows_to VU bZ) (cellN DZ rfl) (Nat.le_trans hBU bZ.size) (by have := hlv.out; omega)
   have e9 : (nd.keys.length : Int) = (nd.vals.length : Int) := by rw [hlv.out]
   rw [e9]
   exact h9
  have HZ := hide (And.intro bZ (And.intro VU (And.intro DU RU)))
  have K2t := hide (fun e (h1 : e ≠ 9) (h2 : e ≠ 76) => (K2.out.typ e h1).trans (kU e h2))
  rw [hZ, sU, hU] at KI2
  rw [hU] at P0 P1 P2 P3 PF L0
  clear DZ bZ VU DU RU D2 R2 L2 LU V2 J2 o2 r2 l2 kk D1 DX NX bY HY kY hE kU bU2
  go_wp2_with fail
  refine KI2.out.mono ?_
  rintro e w3 ⟨g3, c3, rfl, o3', r3, l3⟩
  obtain ⟨VL, hVL⟩ : ∃ n, n = (nd.vals ++ [val]).length := ⟨_, rfl⟩
  have o3 : OwnT B w3 (.slice (some ⟨g3, 0, none⟩) VL c3) (nd.vals ++ [val]) := by rw [hVL]; exact o3'
  rw [← hVL]
  replace hVL := hide hVL
  clear o3'
  rw [← hU, ← hZ] at r3 l3
  clear E0 E1 E2 E3 EF P0 P1 P2 P3 PF L0 KI2
  obtain ⟨bZ, VU, DU, RU⟩ := HZ.out
  have kk := KS9.grown (rows_to VU bZ) r3 (Nat.le_trans hBU bZ.size)
  have D3 := kk.typ _ (by decide) _ _ _ ((bZ.block _ (lt_of_block DU)).trans DU)
  have R3 := kk.typ _ (by decide) _ _ _ ((bZ.block _ (lt_of_block RU)).trans RU)
  have K3 : OwnT B w3 (.slice (some ⟨g2, 0, none⟩) KL c2) (nd.keys ++ [key]) := row_kept r3 (rows_to KU.out bZ) (fun k hk hk2 => hdj.out k hk2 hk)
  have J3 : OwnJ B w3 (.slice da nd.kids.length dc) nd.kids := rows_keepT (rows_to JU.out bZ) (kk.typ _ (by decide))
  have d9 := heap_setN D3 2 (.slice (some ⟨g3, 0, none⟩) VL c3)
  have D4 : (w3.setCell ⟨w.heap.size, 2, none⟩ (.slice (some ⟨g3, 0, none⟩) VL c3)).heap[w.heap.size]? = some (.cells #[.bool nd.leaf, .slice (some ⟨g2, 0, none⟩) KL c2, .slice (some ⟨g3, 0, none⟩) VL c3, .slice da nd.kids.length dc] 76 (0, 0)) := by simpa using d9
  have R4 : (w3.setCell ⟨w.heap.size, 2, none⟩ (.slice (some ⟨g3, 0, none⟩) VL c3)).heap[w.heap.size + 1]? = some (.cells #[.bool false, .slice none 0 0, .slice none 0 0, .slice none 0 0] 76 (0, 0)) := (Below.heap_setCell _ _ _ _ (show w.heap.size + 1 ≠ w.heap.size by omega)).trans R3
  obtain ⟨⟨E0, E1, E2, E3⟩, EF⟩ := cells4 D3
  obtain ⟨⟨P0, P1, P2, P3⟩, PF⟩ := cells4 D4
  obtain ⟨⟨F0, F1, F2, F3⟩, FF⟩ := cells4 R4
  have k4 : ∀ e, e ≠ 76 → KeepT e w3 (S4 (w.heap.size + 1) (w3.setCell ⟨w.heap.size, 2, none⟩ (.slice (some ⟨g3, 0, none⟩) VL c3)) (.bool nd.leaf) (.slice (some ⟨g2, 0, none⟩) KL c2) (.slice (some ⟨g3, 0, none⟩) VL c3) (.slice da nd.kids.length dc)) := fun e he =>
   (KeepT.set (a := ⟨w.heap.size, 2, none⟩) D3 he _).trans (s4_keep R4 _ _ _ _ he)
  have b4 : Below B w (w3.setCell ⟨w.heap.size, 2, none⟩ (.slice (some ⟨g3, 0, none⟩) VL c3)) := ((K2U.out.trans (bZ.mono hBU)).trans kk.bel).setCell (show B ≤ w.heap.size from hB) _
  have FN : Hid (OwnN B (S4 (w.heap.size + 1) (w3.setCell ⟨w.heap.size, 2, none⟩ (.slice (some ⟨g3, 0, none⟩) VL c3)) (.bool nd.leaf) (.slice (some ⟨g2, 0, none⟩) KL c2) (.slice (some ⟨g3, 0, none⟩) VL c3) (.slice da nd.kids.length dc)) (.slice (some ⟨g2, 0, none⟩) KL c2) (.slice (some ⟨g3, 0, none⟩) VL c3) (.slice da nd.kids.length dc) ⟨nd.leaf, nd.keys ++ [key], nd.vals ++ [val], nd.kids⟩) :=
   ⟨rows_keepT K3 (k4 _ (by decide)), rows_keepT o3 (k4 _ (by decide)), rows_keepT J3 (k4 _ (by decide))⟩
  have FB := hide (below_set4n b4 (show B ≤ w.heap.size + 1 by omega) (.bool nd.leaf) (.slice (some ⟨g2, 0, none⟩) KL c2) (.slice (some ⟨g3, 0, none⟩) VL c3) (.slice da nd.kids.length dc))
  have TY : Hid (∀ e, e ≠ 9 → KeepT e w (S4 (w.heap.size + 1) (w3.setCell ⟨w.heap.size, 2, none⟩ (.slice (some ⟨g3, 0, none⟩) VL c3)) (.bool nd.leaf) (.slice (some ⟨g2, 0, none⟩) KL c2) (.slice (some ⟨g3, 0, none⟩) VL c3) (.slice da nd.kids.length dc))) := fun e he b cur fr hb => by
   have hbl := lt_of_block hb
   have h1 := K2.out.typ e he b cur fr hb
   have h2 : U.heap[b]? = some (.cells cur e fr) := by rw [hU]; exact (Below.heap_setCell _ _ _ _ (show b ≠ w.heap.size by omega)).trans h1
   have h3 := kk.typ e he _ _ _ ((bZ.block _ (lt_of_block h2)).trans h2)
   exact (s4_other _ _ _ _ (show b ≠ w.heap.size + 1 by omega)).trans ((Below.heap_setCell _ _ _ _ (show b ≠ w.heap.size by omega)).trans h3)
  have HR4 := hide R4
  clear D3 R3 K3 J3 D4 R4 d9 k4 b4 o3 r3 l3 kk DU RU VU bZ
  go_wp2
  refine retN rfl rfl (w.heap.size + 1) rfl _ _ (0, 0) (heap_set4 HR4.out _ _ _ _) _ Tryz.underlying76 rfl info_nd10 ?_
  exact ⟨_, _, rfl, FN.out, ⟨TY.out, FB.out, FB.out.size⟩⟩
set_option maxRecDepth 100000 in
set_option maxHeartbeats 4000000 in
theorem prebuilt_leaf (B C : Nat) (w : World) (gc : Nat) (nd : Nd) (kv vv dv : Value) (key : Str) (F : Nat) (caps : Array Value) (hB : B ≤ w.heap.size) (hr : RdN w kv vv dv nd) (hfit : nfit nd) (hl : nd.leaf = true) (nd' : Nd)
  (hF : ∀ u, Below w.heap.size w u → Calls Tryz.prog F (#[nv nd kv vv dv, .int .i64 (nfind nd key), .bool (nhas nd key)] ++ caps) u fun e u' => ∃ kv' vv' dv', e = .returned (nv nd' kv' vv' dv') ∧ OwnN B u' kv' vv' dv' nd' ∧ KS9 B u u')
  (he : ∀ args u, (callFunc F args).run Tryz.prog u = .ok (.enter F args) u) :
  Calls Tryz.prog 48 #[.pointer (some ⟨gc, 0, none⟩), nv nd kv vv dv, st key, .func (.func F) #[] caps] w fun e w' => ∃ kv' vv' dv', e = .returned (nv nd' kv' vv' dv') ∧ OwnN B w' kv' vv' dv' nd' ∧ KS9 B w w' := by
 obtain ⟨W, hW, DW, bW, sW⟩ := boxedN w #[.bool nd.leaf, kv, vv, dv] 76
 obtain ⟨X, hX, DX, bX, sX⟩ := boxedN W #[.bool false, .slice none 0 0, .slice none 0 0, .slice none 0 0] 76
 have bWX := bW.trans (bX.mono bW.size)
 have KF := hide (pfind9_any X kv vv dv nd key (hr.to bWX) hfit)
 have D1 := (bX.block _ (lt_of_block DW)).trans DW
 rw [sW] at DX
 have HD := hide (And.intro D1 DX)
 have BX := hide bWX
 obtain ⟨ka, kc, va, vc, da, dc, rfl, rfl, rfl⟩ := hr.slices
 obtain ⟨⟨E0, E1, E2, E3⟩, EF⟩ := cells4 D1
 obtain ⟨⟨F0, F1, F2, F3⟩, FF⟩ := cells4 DX
 dsimp only [nv] at KF ⊢
 rw [hX, hW] at E0 E1 E2 E3 EF F0 F1 F2 F3 FF KF
 replace hF := hide hF
 have HL := hide hl
 clear hl DW DX bW bX bWX D1 hr
 go_enter Tryz.func48, Tryz.ntmps48
 go_wp2_with fail
 refine KF.out.mono ?_
 rintro e w1 ⟨rfl, b1⟩
 rw [← hW, ← hX] at b1
 clear E0 E1 E2 E3 EF F0 F1 F2 F3 FF KF
 have B1 := hide (BX.out.trans (b1.mono BX.out.size))
 have D1 := (b1.block _ (lt_of_block HD.out.1)).trans HD.out.1
 have R1 := (b1.block _ (lt_of_block HD.out.2)).trans HD.out.2
 have HR := hide R1
 obtain ⟨⟨E0, E1, E2, E3⟩, EF⟩ := cells4 D1
 rw [HL.out] at E0
 have KF2 := hide (hF.out w1 B1.out)
 dsimp only [nv] at KF2
 rw [HL.out] at KF2
 replace hX := hide hX
 replace hW := hide hW
 clear D1 R1 b1 HD
 go_wp2_with fail
 refine KF2.out.mono ?_
 rintro e w2 ⟨kv', vv', dv', rfl, o2, k2⟩
 obtain ⟨ka', kc', va', vc', da', dc', rfl, rfl, rfl⟩ := o2.rd.slices
 have R2 := k2.typ _ (by decide) _ _ _ HR.out
 have HR2 := hide R2
 obtain ⟨⟨F0, F1, F2, F3⟩, FF⟩ := cells4 R2
 have O2 := hide o2
 have K2 := hide ((KS9.of B1.out hB).trans k2)
 clear o2 k2 R2 E0 E1 E2 E3 EF KF2 hF
 dsimp only [nv]
 go_wp2
 refine retN rfl rfl (w.heap.size + 1) rfl _ _ (0, 0) (heap_set4 HR2.out _ _ _ _) _ Tryz.underlying76 rfl info_nd10 ?_
 have k := fun e (he : e ≠ 76) => s4_keep HR2.out (.bool nd'.leaf) (.slice ka' nd'.keys.length kc') (.slice va' nd'.vals.length vc') (.slice da' nd'.kids.length dc') he
 have fb := below_set4n K2.out.bel (show B ≤ w.heap.size + 1 by omega) (.bool nd'.leaf) (.slice ka' nd'.keys.length kc') (.slice va' nd'.vals.length vc') (.slice da' nd'.kids.length dc')
 refine ⟨_, _, _, rfl, O2.out.keepT (k _ (by decide)) (k _ (by decide)), ⟨fun e he b cur fr hb => ?_, fb, fb.size⟩⟩
 have hbl := lt_of_block hb
 exact (s4_other _ _ _ _ (show b ≠ w.heap.size + 1 by omega)).trans (K2.out.typ e he b cur fr hb)
end Go.Proofs.YtgmkknonnidgaaaGreat

namespace Go.Proofs.YtgmkknonnidgaaaGreat
open Go.RowKit
theorem TopIs.uniq {t : Tr} {a b : Nd} (h : TopIs t a) (k : TopIs t b) : a = b := by
 rcases h with ⟨h0, rfl⟩ | ⟨h0, x, h1, h2⟩ <;> rcases k with ⟨k0, rfl⟩ | ⟨k0, y, k1, k2⟩
 ·rfl
 ·exact absurd h0 k0
 ·exact absurd k0 h0
 ·rw [h1] at k1
  simp only [Option.some.injEq] at k1
  subst k1
  rw [h2] at k2
  simpa using k2
theorem TopIs.ok {t : Tr} {a : Nd} (h : TopIs t a) : NOk a := by
 rcases h with ⟨h0, rfl⟩ | ⟨h0, x, h1, h2⟩
 ·exact nd0_ok
 ·exact ndec_ok h2
theorem nsize_bd {n : Nd} (h : NOk n) : nsize n ≤ 244 ∧ 0 ≤ nsize n := by
 refine ⟨h.2.2.2.2, ?_⟩
 have h2 := nsz_ge n n.keys.length
 unfold nsize
 split <;> omega
theorem nout_ok {n : Nd} (h : NOk n) : nout n = nenc n ∧ ncheck n = 0 := by
 have := (ncheck_ok n).2 h
 exact ⟨by unfold nout; rw [if_pos this], this⟩
set_option maxRecDepth 100000 in
set_option maxHeartbeats 4000000 in
theorem pchanged_one (w0 w : World) (B g bm : Nat) (t : Tr) (pv : Value) (s : Sw) (m : Int → Option Value) (key : Str) (F : Nat) (caps : Array Value) (nd nd' : Nd) (H : PWk w0 w B g bm t pv s m) (hB : B ≤ w.heap.size) (hroot : (Lit.int .i64 t.root).wf = true) (ht : twalk t = some s) (hpn : PNum t)
  (hT : TopIs t nd) (hl : nd.leaf = true) (hx : ∀ x ∈ t.pages, x.2.length ≤ 140737488351232) (hnext : t.next + 1 ≤ 65536)
  (hF : ∀ kv vv dv u, OwnN B u kv vv dv nd → Dj kv vv dv → Below w.heap.size w u → B ≤ u.heap.size → Calls Tryz.prog F (#[nv nd kv vv dv, .int .i64 (nfind nd key), .bool (nhas nd key)] ++ caps) u fun e u' => ∃ kv' vv' dv', e = .returned (nv nd' kv' vv' dv') ∧ OwnN B u' kv' vv' dv' nd' ∧ KS9 B u u')
  (he : ∀ args u, (callFunc F args).run Tryz.prog u = .ok (.enter F args) u) (hok : NOk nd') (hl' : nd'.leaf = true) (hk0 : nd'.keys.length ≠ 0) :
  Calls Tryz.prog 34 #[.pointer (some ⟨g, 0, none⟩), st key, .func (.func F) #[] caps] w fun e w' => ∃ pv', e = .returned (.tuple #[tv ⟨t.next, t.next + 1, t.pages ++ [(t.next, nenc nd')]⟩ pv', .int .i64 0]) ∧ OwnPg w0.heap.size w' pv' (t.pages ++ [(t.next, nenc nd')]) ∧ Below w0.heap.size w0 w' := by
 obtain ⟨W, hW, DW, bW, sW⟩ := boxedN w #[.int .i64 0, .int .i64 0, .slice none 0 0] 27
 obtain ⟨X, hX, DX, bX, sX⟩ := boxedN W #[.pointer (some ⟨g, 0, none⟩), .slice none 0 0] 108
 have bWX := bW.trans (bX.mono bW.size)
 have PX := H.to bWX
 have KT := hide (ptop_any w0 X B g bm t pv s m PX hroot ht)
 have D1 := (bX.block _ (lt_of_block DW)).trans DW
 rw [sW] at DX
 have HX := hide (And.intro bWX (And.intro PX (And.intro D1 DX)))
 rw [hX, hW] at KT
 replace H := hide H
 replace hF := hide hF
 replace hl := hide hl
 replace hl' := hide hl'
 replace hk0 := hide hk0
 replace ht := hide ht
 replace hpn := hide hpn
 replace hok := hide hok
 replace hx := hide hx
 clear D1 DX bWX PX DW bW bX
 go_enter Tryz.func34, Tryz.ntmps34
 go_wp2_with fail
 refine KT.out.mono ?_
 rintro e w1 ⟨nd9, kv, vv, dv, rfl, hT9, ho, b1, hdj⟩
 obtain rfl := TopIs.uniq hT9 hT
 rw [← hW, ← hX] at b1
 obtain ⟨bWX, PX, D1, DX⟩ := HX.out
 have P1 := PX.to b1
 have hnb : Hid (w.heap.size ≤ w1.heap.size) := Nat.le_trans bWX.size b1.size
 have hB1 : B ≤ w1.heap.size := Nat.le_trans hB hnb.out
 have bw1 := bWX.trans (b1.mono bWX.size)
 have KR := hide (prebuilt_leaf B 0 w1 (w.heap.size + 1) nd9 kv vv dv key F caps hB1 ho.rd hT9.ok.fit hl.out nd' (fun u bu => hF.out kv vv dv u (ho.to bu) hdj (bw1.trans (bu.mono bw1.size)) (Nat.le_trans hB1 bu.size)) he)
 have D2 := (b1.block _ (lt_of_block D1)).trans D1
 have C2 := (b1.block _ (lt_of_block DX)).trans DX
 have H1 := hide (And.intro P1 (And.intro D2 C2))
 obtain ⟨ka, kc, va, vc, da, dc, rfl, rfl, rfl⟩ := ho.rd.slices
 dsimp only [nv] at KR
 replace hX := hide hX
 replace hW := hide hW
 clear KT ho b1 hT9 hT bWX PX D1 DX P1 D2 C2 bw1 HX
 go_wp2_with fail
 refine KR.out.mono ?_
 rintro e w2 ⟨kv', vv', dv', rfl, o2, k2⟩
 obtain ⟨P1, D1, C1⟩ := H1.out
 have D2 := k2.typ _ (by decide) _ _ _ D1
 have C2 := k2.typ _ (by decide) _ _ _ C1
 have G2 := k2.typ _ (by decide) _ _ _ P1.box
 have hB2 : B ≤ w2.heap.size := Nat.le_trans hB1 k2.size
 have hBg : B ≤ w.heap.size + 1 := by omega
 have Ch : ChI B w2 (w.heap.size + 1) g t.next (.slice none 0 0) [] := ⟨C2, World.ownsRow_nil _ _ _ _, cellN G2 rfl, hBg⟩
 have hgg : w.heap.size + 1 ≠ g := by have := P1.hg.2; omega
 have KO := hide (proot_any B w2 (w.heap.size + 1) g t.next (.slice none 0 0) [] nd' kv' vv' dv' Ch hB2 (fun b hb => by cases hb) hgg (Nat.zero_le _) ⟨by have := hpn.out.1; omega, hpn.out.2.1⟩ o2.rd hok.out.fit hl'.out hk0.out (nsize_bd hok.out).1 (nsize_bd hok.out).2)
 have bel2 : Below w0.heap.size w0 w2 := P1.bel.trans (k2.bel.mono (by have := P1.hg; omega))
 have H2 := hide (And.intro D2 (And.intro G2 (And.intro o2 (And.intro bel2 C2))))
 have hw0B : Hid (w0.heap.size ≤ B) := by have := P1.hg; show _ ≤ _; omega
 obtain ⟨ka', kc', va', vc', da', dc', rfl, rfl, rfl⟩ := o2.rd.slices
 dsimp only [nv] at KO
 have hgB : Hid (g < B) := P1.hg.2
 clear o2 k2 P1 D1 C1 D2 C2 G2 Ch KR H1 bel2
 dsimp only [nv]
 go_wp2_with fail
 refine KO.out.mono ?_
 rintro e w3 ⟨av3, rfl, c3, k3⟩
 obtain ⟨D2, G2, o2, bel2, C2⟩ := H2.out
 have hnob : ∀ b, (Value.slice none 0 0).ownBlock ≠ some b := fun b hb => by cases hb
 have D3 := (k3.keep _ (lt_of_block D2) (by omega) (hnob _)).trans D2
 have G3 := (k3.keep _ (lt_of_block G2) (by have := hgB.out; omega) (hnob _)).trans G2
 obtain ⟨g3, cap3, hav⟩ : ∃ g3 cap3, av3 = .slice (some ⟨g3, 0, none⟩) 1 cap3 := by
  rcases c3.row.2 with ⟨_, e⟩ | ⟨g', cap, cur, hv, _⟩
  ·simp at e
  ·exact ⟨g', cap, by simpa using hv⟩
 subst hav
 have N3 : OwnN B w3 (.slice ka' nd'.keys.length kc') (.slice va' nd'.vals.length vc') (.slice da' nd'.kids.length dc') nd' := by
  have kp : ∀ {T n : Nat} {v : Value} {q : Nat} {cc : List Value}, w2.ownsRow B T n v q cc → T ≠ 108 → w3.ownsRow B T n v q cc := fun {T n v q cc} hrow hT => by
   refine ⟨hrow.1, ?_⟩
   rcases hrow.2 with hn | ⟨b, cap, cur, hv, hgb, hb, r⟩
   ·exact .inl hn
   ·refine .inr ⟨b, cap, cur, hv, hgb, (k3.keep b (lt_of_block hb) (fun e9 => ?_) (hnob b)).trans hb, r⟩
    subst e9
    rw [C2] at hb
    simp only [Option.some.injEq, Obj.cells.injEq] at hb
    exact hT hb.2.1.symm
  exact ⟨kp o2.keys (by decide), kp o2.vals (by decide), kp o2.kids (by decide)⟩
 have bel3 : Below w0.heap.size w0 w3 := bel2.trans (k3.bel.mono hw0B.out)
 have bD : Below w3.heap.size w3 w3.drew := below_drewN' w3 1 _
 have c4 := c3.to bD
 have D4 := (bD.block _ (lt_of_block D3)).trans D3
 have G4 := (bD.block _ (lt_of_block G3)).trans G3
 have N4 := N3.to bD
 have bel4 := bel3.trans (bD.mono bel3.size)
 have hlen : t.pages.length ≤ 65536 := by have := tups_len hpn.out.2.2 hpn.out.1; have := hpn.out.2.1; omega
 have KC := hide (pcopied_any w3.drew t pv (H.out.pg.to0 bel4) hlen hx.out)
 obtain ⟨pa, pc, hpv⟩ := H.out.pg.slice
 subst hpv
 have Q0 := cellN c3.box (i := 0) rfl
 have Q1 := cellN c3.box (i := 1) rfl
 have Q2 := c3.nxt
 have U0 := cellN c4.box (i := 0) rfl
 have U1 := cellN c4.box (i := 1) rfl
 have X0 := cellN G4 (i := 0) rfl
 have X1 := cellN G4 (i := 1) rfl
 have X2 := cellN G4 (i := 2) rfl
 have H4 := hide (And.intro c4 (And.intro D4 (And.intro G4 (And.intro N4 bel4))))
 have hB4 : Hid (B ≤ w3.drew.heap.size) := Nat.le_trans (Nat.le_trans hB2 k3.size) bD.size
 have hfin : ¬ wrap64 (t.next + 1) > 65536 := by have := hpn.out.1; unfold wrap64; omega
 have hwz : wrap64 (t.next + 1) = t.next + 1 := by have := hpn.out.1; have := hpn.out.2.1; unfold wrap64; omega
 dsimp only [tv] at KC
 clear c3 k3 D2 G2 o2 bel2 C2 D3 G3 N3 bel3 c4 D4 G4 N4 bel4 bD KO H2 hnob
 go_upto_region 3 with fail
 go_region
 rw [hwz]
 clear hwz Q0 Q1 Q2
 obtain ⟨V, hV⟩ : ∃ V, V = w3.drew := ⟨_, rfl⟩
 rw [← hV] at KC U0 U1 X0 X1 X2 H4 hB4 ⊢
 clear hV hfin
 have hfin : ¬ t.next + 1 > 65536 := by omega
 go_wp2_with fail
 refine KC.out.mono ?_
 rintro e w5 ⟨pv5, rfl, o5, b5⟩
 obtain ⟨c4, D4, G4, N4, bel4⟩ := H4.out
 obtain ⟨a5, q5, h5⟩ := o5.shape
 subst h5
 obtain ⟨Y, hY, DY, bY, sY⟩ := boxedN w5 #[.int .i64 t.root, .int .i64 t.next, .slice a5 t.pages.length q5] 27
 have bVY := b5.trans (bY.mono b5.size)
 have OY : OwnPg V.heap.size Y (.slice a5 t.pages.length q5) t.pages := o5.to9 bY
 have cY := c4.to bVY
 have U1' := cellN cY.box (i := 1) rfl
 have HY := hide (And.intro cY (And.intro ((bVY.block _ (lt_of_block D4)).trans D4) (And.intro ((bVY.block _ (lt_of_block G4)).trans G4) (And.intro (N4.to bVY) (And.intro (bel4.trans (bVY.mono bel4.size)) (And.intro OY (And.intro DY bVY)))))))
 rw [hY] at U1'
 have hyb : Hid (V.heap.size ≤ w5.heap.size) := b5.size
 have CI0 : Hid (∃ pv', Y.heap[w5.heap.size]? = some (.cells #[.int .i64 t.root, .int .i64 t.next, pv'] 27 (0, 0)) ∧ OwnPg V.heap.size Y pv' (t.pages ++ [(t.next, nenc nd')].take 0) ∧ Below V.heap.size V Y) := ⟨_, DY, by simpa using OY, bVY⟩
 clear KC o5 b5 c4 D4 G4 N4 bel4 DY bY OY cY bVY U0 U1 X0 X1 X2 HY
 dsimp only [tv]
 go_wp2_with fail
 rw [← hY]
 clear U1'
 replace hY := hide hY
 go_loopw [46] (fun p wr => ∃ k : Nat, k ≤ 1 ∧ p = .int .i64 k ∧ Hid (∃ pv', wr.heap[w5.heap.size]? = some (.cells #[.int .i64 t.root, .int .i64 t.next, pv'] 27 (0, 0)) ∧ OwnPg V.heap.size wr pv' (t.pages ++ [(t.next, nenc nd')].take k) ∧ Below V.heap.size V wr)) (fun p _ => 1 - (intOf p).toNat)
 case atStart => exact ⟨0, Nat.zero_le _, rfl, CI0⟩
 case round =>
  obtain ⟨k, hk, rfl, hI⟩ := hrel
  clear CI0
  obtain ⟨pv6, d6, o6, b6⟩ := hI.out
  obtain ⟨c4, D4, G4, N4, bel4⟩ := H4.out
  by_cases hlt : k < 1
  ·obtain rfl : k = 0 := by omega
   have hq : ((0 : Nat) : Int) < 1 := by omega
   have C6 := (b6.block _ (lt_of_block c4.box)).trans c4.box
   have G6 := (b6.block _ (lt_of_block G4)).trans G4
   have N6 := N4.to b6
   have r6 := rows_to c4.row b6
   have R0 := rows_at (rows_base r6 fun _ _ => Nat.zero_le _) rfl (j := 0) (u := .bool nd'.leaf) rfl
   have R1 := rows_at (rows_base r6 fun _ _ => Nat.zero_le _) rfl (j := 1) (u := .slice ka' nd'.keys.length kc') rfl
   have R2 := rows_at (rows_base r6 fun _ _ => Nat.zero_le _) rfl (j := 2) (u := .slice va' nd'.vals.length vc') rfl
   have R3 := rows_at (rows_base r6 fun _ _ => Nat.zero_le _) rfl (j := 3) (u := .slice da' nd'.kids.length dc') rfl
   obtain ⟨Z, hZ, DZ, bZ, sZ⟩ := boxedN wr #[.bool nd'.leaf, .slice ka' nd'.keys.length kc', .slice va' nd'.vals.length vc', .slice da' nd'.kids.length dc'] 76
   have KE := hide (penc_any Z _ _ _ nd' (N6.to bZ).rd hok.out.fit)
   obtain ⟨⟨E0, E1, E2, E3⟩, EF⟩ := cells4 DZ
   rw [hZ] at KE E0 E1 E2 E3 EF
   dsimp only [nv] at KE
   rw [(nout_ok hok.out).1, (nout_ok hok.out).2] at KE
   have HQ := hide (And.intro d6 (And.intro o6 (And.intro b6 (And.intro C6 (And.intro G6 bZ)))))
   clear d6 o6 b6 C6 G6 bZ DZ N6 r6 hI c4 D4 G4 N4 bel4
   go_wp2_with fail
   refine KE.out.mono ?_
   rintro e w7 ⟨v7, rfl, o7, b7⟩
   rw [← hZ] at b7 o7
   obtain ⟨d6, o6, b6, C6, G6, bZ⟩ := HQ.out
   have bz7 := bZ.trans (b7.mono bZ.size)
   have bD : Below w7.heap.size w7 w7.drew := below_drewN' w7 1 _
   have bb := bz7.trans (bD.mono bz7.size)
   have d7 := (bz7.block _ (lt_of_block d6)).trans d6
   have O7 : OwnPg V.heap.size w7 pv6 t.pages := by have := o6.to9 bz7; simpa using this
   have C7 := (bb.block _ (lt_of_block C6)).trans C6
   have G7 := (bb.block _ (lt_of_block G6)).trans G6
   have B7 := b6.trans (bz7.mono b6.size)
   have S7 : OwnB V.heap.size w7 v7 (nenc nd') := rows_mono o7 (Nat.le_trans b6.size bZ.size)
   obtain ⟨va7, vc7, hv7⟩ := o7.rd.slice
   subst hv7
   obtain ⟨pa6, pc6, hp6⟩ := O7.shape
   subst hp6
   have Y2 := cellN (drewHeap d7) (i := 2) rfl
   have Y0 := cellN C7 (i := 0) rfl
   have Y1 := cellN G7 (i := 1) rfl
   have hnz : wrap64 (t.next + 0) = t.next := by have := hpn.out.1; unfold wrap64; omega
   obtain ⟨EL, hEL⟩ : ∃ n, n = (nenc nd').length := ⟨_, rfl⟩
   have S7' : OwnB V.heap.size w7 (.slice va7 EL vc7) (nenc nd') := by rw [hEL]; exact S7
   rw [← hEL]
   have H7 := hide (And.intro d7 (And.intro O7 (And.intro B7 S7')))
   replace hEL := hide hEL
   replace hZ := hide hZ
   clear d6 o6 b6 C6 G6 bZ b7 bz7 bD bb d7 O7 C7 G7 B7 S7 S7' o7 E0 E1 E2 E3 EF R0 R1 R2 R3 KE
   go_upto_region 11 with fail
   refine wp_region_mid (fun w' => w'.cell? ⟨w5.heap.size, 2, none⟩ = some (.slice pa6 t.pages.length pc6) ∧ w'.cell? ⟨w.heap.size + 1, 0, none⟩ = some (.pointer (some ⟨g, 0, none⟩)) ∧ w'.cell? ⟨g, 1, none⟩ = some (.int .i64 t.next)) 11 13 mixed (by kernel_rfl) (fun _ _ _ _ h => h) ⟨Y2, Y0, Y1⟩ ?_
   dsimp only [List.take, List.drop]
   iterate 11
    refine take_one (v := ?_) (by rfl) ?_ ?_
    rotate_left
    ·rintro w' ⟨s1, s2, s3⟩
     go_simp
     try with_reducible rfl
    try simp only [Act.put, List.setIfInBounds_toArray, List.set_cons_zero, List.set_cons_succ]
   refine mid_one fun K hK => ?_
   rw [if_pos (by rfl)]
   go_simp
   refine hK _ _ ⟨Y2, Y0, Y1⟩ ?_
   clear hK K
   refine mid_one fun K hK => ?_
   rw [if_pos (by rfl)]
   go_simp
   refine hK _ _ ⟨cellAl Y2 _, cellAl Y0 _, cellAl Y1 _⟩ ?_
   clear hK K
   show wpList _ _ _ _ _ _
   have hnz2 : IntKind.i64.wrap t.next = t.next := IntWalk.i64_in _ (by have := hpn.out.1; omega)
   simp only [hnz2]
   obtain ⟨d7, O7, B7, S7⟩ := H7.out
   obtain ⟨Qa, hQa, DQa, bQa, sQ⟩ := boxedN w7 #[.int .i64 t.next, .slice va7 EL vc7] 56
   obtain ⟨Q, hQ⟩ : ∃ Q, Q = (w7.alloc (.cells #[.int .i64 t.next, .slice va7 EL vc7] 56)).drew := ⟨_, rfl⟩
   have bQ : Below w7.heap.size w7 Q := by rw [hQ, ← hQa]; exact bQa.trans (below_drewN' Qa 1 _)
   have DQ : Q.heap[w7.heap.size]? = some (.cells #[.int .i64 t.next, .slice va7 EL vc7] 56 (0, 0)) := by rw [hQ, ← hQa]; exact drewHeap DQa
   obtain ⟨⟨Z0, Z1⟩, _⟩ := cells2r DQ
   have OZ := O7.to9 bQ
   have SZ : OwnB V.heap.size Q (.slice va7 EL vc7) (nenc nd') := rows_to S7 bQ
   have BQ := B7.trans (bQ.mono B7.size)
   have hBq : V.heap.size ≤ Q.heap.size := BQ.size
   have dQ := (bQ.block _ (lt_of_block d7)).trans d7
   have FIN : ∀ v5 w6, OwnPg V.heap.size w6 v5 (t.pages ++ [(t.next, nenc nd')]) → Below V.heap.size Q w6 → (∀ e, e ≠ 56 → KeepT e Q w6) →
     Hid (∃ pv', (w6.setCell ⟨w5.heap.size, 2, none⟩ v5).heap[w5.heap.size]? = some (.cells #[.int .i64 t.root, .int .i64 t.next, pv'] 27 (0, 0)) ∧ OwnPg V.heap.size (w6.setCell ⟨w5.heap.size, 2, none⟩ v5) pv' (t.pages ++ [(t.next, nenc nd')].take 1) ∧ Below V.heap.size V (w6.setCell ⟨w5.heap.size, 2, none⟩ v5)) ∧
     w6.cell? ⟨w5.heap.size, 2, none⟩ = some (.slice pa6 t.pages.length pc6) ∧ w6.frozen? ⟨w5.heap.size, 2, none⟩ = false := fun v5 w6 o5 b5 k5 => by
    have d8 := k5 _ (by decide) _ _ _ dQ
    have d9 := heap_setN d8 2 v5
    have kk := fun e (he : e ≠ 27) => KeepT.set (a := ⟨w5.heap.size, 2, none⟩) d8 he v5
    exact ⟨⟨v5, by simpa using d9, by simpa using o5.keepT (kk _ (by decide)) (kk _ (by decide)), (BQ.trans b5).setCell hyb.out _⟩, cellN d8 rfl, frozN d8 2⟩
   rw [hQ] at Z0 Z1 OZ SZ hBq FIN
   replace FIN := hide FIN
   have hpl : (t.pages.length + 1) * 32 ≤ 140737488355328 := by omega
   clear d7 O7 B7 S7 DQ bQ hQ dQ BQ H7 Y2 Y0 Y1 hnz hnz2 hQa DQa bQa sQ
   refine wpList_appPg rfl _ _ rfl V.heap.size (.slice pa6 t.pages.length pc6) t.pages (t.next, nenc nd') (.slice va7 EL vc7) w7.heap.size rfl rfl OZ SZ rfl Z0 Z1 hpl hBq ?_
   intro v5 w6 o5 _ b5 k5
   obtain ⟨a9, c9, h9⟩ := o5.shape
   subst h9
   obtain ⟨F1, F2, F3⟩ := FIN.out _ w6 o5 b5 k5
   generalize (t.pages ++ [(t.next, nenc nd')]).length = L9 at *
   clear o5 b5 k5 FIN Z0 Z1 OZ SZ hBq hpl
   go_wp2
   go_roundw
   case rel => exact ⟨1, Nat.le_refl _, by go_num, F1⟩
   case measure => simp [intOf]
  ·obtain rfl : k = 1 := by omega
   have hq : ¬ ((1 : Nat) : Int) < 1 := by omega
   have D6 := (b6.block _ (lt_of_block D4)).trans D4
   obtain ⟨pa6, pc6, hp6⟩ := o6.shape
   subst hp6
   have htk : [(t.next, nenc nd')].take 1 = [(t.next, nenc nd')] := rfl
   rw [htk] at o6 d6
   obtain ⟨L9, hL9⟩ : ∃ n, n = (t.pages ++ [(t.next, nenc nd')]).length := ⟨_, rfl⟩
   have o6' : OwnPg V.heap.size wr (.slice pa6 L9 pc6) (t.pages ++ [(t.next, nenc nd')]) := by rw [hL9]; exact o6
   rw [← hL9] at d6
   obtain ⟨⟨E0, E1, E2⟩, EF⟩ := cells3p d6
   have hne : w5.heap.size ≠ w.heap.size := by have := hyb.out; have := lt_of_block D4; omega
   obtain ⟨Q, hQ⟩ : ∃ Q, Q = (wr.setCell ⟨w5.heap.size, 0, none⟩ (.int .i64 t.next)).setCell ⟨w5.heap.size, 1, none⟩ (.int .i64 (t.next + 1)) := ⟨_, rfl⟩
   have dq := heap_setN (heap_setN d6 0 (.int .i64 t.next)) 1 (.int .i64 (t.next + 1))
   have DQ : Q.heap[w5.heap.size]? = some (.cells #[.int .i64 t.next, .int .i64 (t.next + 1), .slice pa6 L9 pc6] 27 (0, 0)) := by rw [hQ]; simpa using dq
   have DR : Q.heap[w.heap.size]? = some (.cells #[.int .i64 0, .int .i64 0, .slice none 0 0] 27 (0, 0)) := by
    rw [hQ]; exact (Below.heap_setCell _ _ _ _ (Ne.symm hne)).trans ((Below.heap_setCell _ _ _ _ (Ne.symm hne)).trans D6)
   have kq : ∀ e, e ≠ 27 → KeepT e wr Q := fun e he => by
    rw [hQ]; exact (KeepT.set (a := ⟨w5.heap.size, 0, none⟩) d6 he _).trans (KeepT.set (a := ⟨w5.heap.size, 1, none⟩) (heap_setN d6 0 _) he _)
   have bq : Below w0.heap.size w0 Q := by
    rw [hQ]
    have b9 := bel4.trans (b6.mono (Nat.le_trans bel4.size (Nat.le_refl _)))
    have h9 : w0.heap.size ≤ w5.heap.size := Nat.le_trans bel4.size hyb.out
    exact (b9.setCell h9 _).setCell h9 _
   have ks := fun e (he : e ≠ 27) => s3_keep9 DR (.int .i64 t.next) (.int .i64 (t.next + 1)) (.slice pa6 L9 pc6) he
   have OF := hide ((o6'.keepT (kq _ (by decide)) (kq _ (by decide))).keepT (ks _ (by decide)) (ks _ (by decide)))
   have h0w : w0.heap.size ≤ w.heap.size := H.out.bel.size
   have BF := hide (below_set3t bq h0w (.int .i64 t.next) (.int .i64 (t.next + 1)) (.slice pa6 L9 pc6))
   obtain ⟨⟨P0, P1, P2⟩, PF⟩ := cells3p DQ
   obtain ⟨⟨J0, J1, J2⟩, JF⟩ := cells3p DR
   have HDR := hide DR
   have hVb : Hid (w0.heap.size ≤ V.heap.size) := bel4.size
   rw [hQ] at P0 P1 P2 PF J0 J1 J2 JF HDR OF BF
   clear dq DQ DR kq bq ks o6 o6' d6 b6 hI D6 c4 D4 G4 N4 bel4 hQ hL9 htk
   go_wp2
   refine retNT rfl rfl w.heap.size rfl _ _ (0, 0) (heap_set3t HDR.out _ _ _) _ Tryz.underlying27 rfl info_tr _ rfl ?_
   refine ⟨_, rfl, ?_, BF.out⟩
   exact OwnX.base (OF.out) hVb.out
end Go.Proofs.YtgmkknonnidgaaaGreat

namespace Go.Proofs.YtgmkknonnidgaaaGreat
open Go.RowKit
set_option maxRecDepth 100000 in
set_option maxHeartbeats 4000000 in
theorem pput_end (w : World) (t : Tr) (pv : Value) (s : Sw) (key val : Str) (nd : Nd) (h : RdC w pv t.pages) (hx : ∀ x ∈ t.pages, x.2.length ≤ 140737488351232) (hroot : (Lit.int .i64 t.root).wf = true) (hkey : tkey key = true) (hval : val.length ≤ 64)
  (hpn : PNum t) (ht : twalk t = some s) (hs4 : s.prs.length < 4096) (hT : TopIs t nd) (hl : nd.leaf = true) (hnext : t.next + 1 ≤ 65536) (hfi : nfind nd key = (nd.keys.length : Int)) (hha : nhas nd key = false) (hg : pget s.prs key = none)
  (hok : NOk ⟨nd.leaf, nd.keys ++ [key], nd.vals ++ [val], nd.kids⟩) :
  Calls Tryz.prog 16 #[tv t pv, st key, st val] w fun e w' => ∃ pv', e = .returned (.tuple #[tv ⟨t.next, t.next + 1, t.pages ++ [(t.next, nenc ⟨nd.leaf, nd.keys ++ [key], nd.vals ++ [val], nd.kids⟩)]⟩ pv', .int .i64 0]) ∧
   OwnPg w.heap.size w' pv' (t.pages ++ [(t.next, nenc ⟨nd.leaf, nd.keys ++ [key], nd.vals ++ [val], nd.kids⟩)]) ∧ Below w.heap.size w w' := by
 have hkl : key.length ≤ 9223372036854775807 := by unfold tkey at hkey; have := of_decide_eq_true hkey; omega
 obtain ⟨W1, hW1, D1, b1, s1⟩ := boxedN w #[.int .i64 t.root, .int .i64 t.next, pv] 27
 obtain ⟨W2, hW2, D2, b2, s2⟩ := boxedN W1 #[st key] 9
 obtain ⟨W3, hW3, D3, b3, s3⟩ := boxedN W2 #[st val] 9
 obtain ⟨X, hX, D4, b4, s4⟩ := boxedN W3 #[.int .i64 0, .int .i64 0, .slice none 0 0] 27
 have b34 := b3.trans (b4.mono b3.size)
 have b24 := b2.trans (b34.mono b2.size)
 have bX := b1.trans (b24.mono b1.size)
 have E1 := (b24.block _ (lt_of_block D1)).trans D1
 have E2 := (b34.block _ (lt_of_block D2)).trans D2
 have E3 := (b4.block _ (lt_of_block D3)).trans D3
 rw [s1] at E2
 rw [s2, s1] at E3
 rw [s3, s2, s1] at D4
 have sX : X.heap.size = w.heap.size + 1 + 1 + 1 + 1 := by rw [s4, s3, s2, s1]
 have KW := hide (pwalkfor_any X t pv key hkl (h.to0 bX) hroot)
 obtain ⟨pa, pc, rfl⟩ := h.slice
 have HE := hide (And.intro E1 (And.intro E2 (And.intro E3 D4)))
 have BX := hide bX
 obtain ⟨⟨A0, A1, A2⟩, AF⟩ := cells3p E1
 have A3 := cellN E2 (i := 0) rfl
 have A4 := cellN E3 (i := 0) rfl
 rw [hX, hW3, hW2, hW1] at A0 A1 A2 AF A3 A4 KW
 dsimp only [tv] at KW ⊢
 replace hx := hide hx
 replace ht := hide ht
 replace hl := hide hl
 replace hfi := hide hfi
 replace hha := hide hha
 replace hg := hide hg
 replace hok := hide hok
 replace hkey := hide hkey
 replace hpn := hide hpn
 replace hT := hide hT
 replace sX := hide sX
 have hv64 : ¬ (val.length : Int) > 64 := by omega
 clear D1 b1 D2 b2 D3 b3 D4 b4 b34 b24 bX E1 E2 E3 h s1 s2 s3 s4
 go_enter Tryz.func16, Tryz.ntmps16
 go_wp2_with fail
 refine KW.out.mono ?_
 rintro e w1 hp
 rw [← hW1, ← hW2, ← hW3, ← hX] at hp
 clear A0 A1 A2 AF A3 A4 KW
 have hgood : ∃ g bm B s' m, e = .returned (.tuple #[.pointer (some ⟨g, 0, none⟩), .int .i64 0]) ∧ s' = s ∧ PWk X w1 B g bm t (.slice pa t.pages.length pc) s m ∧ B ≤ w1.heap.size := by
  rcases hp with ⟨g, bm, B, s', m, r1, r2, r3, r4, r5, r6, r7⟩ | ⟨err, r1, r2, r3⟩
  ·rw [ht.out] at r4
   simp only [Option.some.injEq] at r4
   subst r4
   exact ⟨g, bm, B, s, m, r1, rfl, r6, r7⟩
  ·exfalso
   rcases r2 with ⟨q, _⟩ | ⟨l, _, q, _⟩
   ·rw [tprs_of hpn.out ht.out (by omega)] at q; cases q
   ·rw [hkey.out] at q; cases q
 obtain ⟨g, bm, B, s', m, rfl, _, P1, hB1⟩ := hgood
 clear hp
 have KV := hide (pvalue_any X w1 B g bm t _ s m key P1 hB1 hroot ht.out)
 rw [hg.out] at KV
 obtain ⟨E1, E2, E3, D4⟩ := HE.out
 have F2 := (P1.bel.block _ (lt_of_block E2)).trans E2
 have F3 := (P1.bel.block _ (lt_of_block E3)).trans E3
 have F4 := (P1.bel.block _ (lt_of_block D4)).trans D4
 have A3 := cellN F2 (i := 0) rfl
 have A4 := cellN F3 (i := 0) rfl
 have HP := hide (And.intro P1 (And.intro hB1 (And.intro F2 (And.intro F3 F4))))
 replace hX := hide hX
 replace hW1 := hide hW1
 replace hW2 := hide hW2
 replace hW3 := hide hW3
 have HD4 := hide D4
 clear E1 E2 E3 D4 F2 F3 F4 P1 HE
 go_wp2_with fail
 refine KV.out.mono ?_
 rintro e w2 ⟨rfl, b2⟩
 obtain ⟨P1, hB1', F2, F3, F4⟩ := HP.out
 have P2 := P1.to b2
 have G2 := (b2.block _ (lt_of_block F2)).trans F2
 have G3 := (b2.block _ (lt_of_block F3)).trans F3
 have G4 := (b2.block _ (lt_of_block F4)).trans F4
 have hB2 : B ≤ w2.heap.size := Nat.le_trans hB1 b2.size
 have hgB : X.heap.size ≤ g ∧ g < B := P2.hg
 have hlv : nd.vals.length = nd.keys.length := by
  have h1 := hT.out.ok.2.1
  unfold ncount at h1
  rw [if_pos hl.out] at h1
  exact h1.1
 have hkl3 : nd.keys.length ≤ 1000 := by have := (npr_len hT.out.ok).2; omega
 have KG := hide (pchanged_one X w2 B g bm t (.slice pa t.pages.length pc) s m key 35 #[.pointer (some ⟨w.heap.size + 1 + 1, 0, none⟩), .pointer (some ⟨w.heap.size + 1, 0, none⟩)] nd ⟨nd.leaf, nd.keys ++ [key], nd.vals ++ [val], nd.kids⟩ P2 hB2 hroot ht.out hpn.out hT.out hl.out hx.out hnext
  (fun kv vv dv u ho hdj bu hBu => by
   have k1 := (bu.block _ (lt_of_block G2)).trans G2
   have k2 := (bu.block _ (lt_of_block G3)).trans G3
   have hh := pputcl_end B u nd kv vv dv key val nd.keys.length false (w.heap.size + 1) (w.heap.size + 1 + 1) ho hdj hBu hkl3 hlv k1 (by have := sX.out; omega) k2 (by have := sX.out; omega) ⟨rfl, rfl⟩
   rw [hfi.out, hha.out]
   refine Calls.mono hh ?_
   rintro e u' ⟨kv', vv', r1, r2, r3⟩
   exact ⟨kv', vv', dv, r1, r2, r3⟩)
  (fun args u => Tryz.call35 args u) hok.out hl.out (by simp))
 obtain ⟨⟨C0, C1, C2, C3⟩, ⟨C4, C5⟩, CF⟩ := P2.cell
 have hnf : ¬ ((s.prs.length : Nat) : Int) ≥ 4096 := by omega
 have B4 := cellN G2 (i := 0) rfl
 have B5 := cellN G3 (i := 0) rfl
 dsimp only [tv] at KG
 replace hlv := hide hlv
 clear P1 F2 F3 F4 HP KV A3 A4 b2 P2 G2 G3 G4 C0 C1 C2 C3 C5
 dsimp only [valOf]
 go_wp2_with fail
 refine KG.out.mono ?_
 rintro e w3 ⟨pv3, rfl, o3, b3⟩
 obtain ⟨a3, c3, h3⟩ := o3.shape
 subst h3
 have D3 := (b3.block _ (lt_of_block HD4.out)).trans HD4.out
 have HD3 := hide D3
 obtain ⟨⟨J0, J1, J2⟩, JF⟩ := cells3p D3
 have O3 := hide o3
 have B3 := hide (BX.out.trans (b3.mono BX.out.size))
 obtain ⟨L9, hL9⟩ : ∃ n, n = (t.pages ++ [(t.next, nenc ⟨nd.leaf, nd.keys ++ [key], nd.vals ++ [val], nd.kids⟩)]).length := ⟨_, rfl⟩
 rw [← hL9]
 replace hL9 := hide hL9
 clear KG o3 b3 D3 C4 CF B4 B5
 go_wp2
 (try simp only [Exit.inBlock, Exit.then])
 refine retNT rfl rfl (w.heap.size + 1 + 1 + 1) rfl _ _ (0, 0) (heap_set3t HD3.out _ _ _) _ Tryz.underlying27 rfl info_tr _ rfl ?_
 have ks := fun e (he : e ≠ 27) => s3_keep9 HD3.out (.int .i64 t.next) (.int .i64 (t.next + 1)) (.slice a3 L9 c3) he
 refine ⟨_, rfl, ?_, below_set3t B3.out (show w.heap.size ≤ w.heap.size + 1 + 1 + 1 by omega) _ _ _⟩
 have O3' : OwnPg X.heap.size w3 (.slice a3 L9 c3) (t.pages ++ [(t.next, nenc ⟨nd.leaf, nd.keys ++ [key], nd.vals ++ [val], nd.kids⟩)]) := by rw [hL9.out]; exact O3.out
 exact OwnX.base (O3'.keepT (ks _ (by decide)) (ks _ (by decide))) BX.out.size
end Go.Proofs.YtgmkknonnidgaaaGreat

namespace Go.Proofs.YtgmkknonnidgaaaGreat
open Go.RowKit
def tatE (t : Tr) (root : Int) : Int := if tcheck t ≠ 0 then tcheck t else if root ≠ 0 ∧ tpage t.pages root = none then 71 else tcheck ⟨root, t.next, t.pages⟩
def AtR (w w' : World) (t : Tr) (root : Int) (e : Ending) : Prop :=
 (tatE t root = 0 ∧ ∃ pv', e = .returned (.tuple #[tv ⟨root, t.next, t.pages⟩ pv', .int .i64 0]) ∧ OwnPg w.heap.size w' pv' t.pages ∧ Below w.heap.size w w') ∨
 (tatE t root ≠ 0 ∧ e = .returned (.tuple #[tv ⟨0, 0, []⟩ (.slice none 0 0), .int .i64 (tatE t root)]) ∧ Below w.heap.size w w')
theorem tcheck_num {t : Tr} (h : tcheck t = 0) : PNum t := by
 unfold tcheck at h
 cases ht : tprs t with
 | none => rw [ht] at h; cases h
 | some l =>
  unfold tprs at ht
  split at ht
  ·rename_i hn; exact hn.p
  ·cases ht
set_option maxRecDepth 100000 in
set_option maxHeartbeats 4000000 in
theorem pat_any (w : World) (t : Tr) (pv : Value) (root : Int) (h : RdC w pv t.pages) (hx : ∀ x ∈ t.pages, x.2.length ≤ 140737488351232) (hroot : (Lit.int .i64 t.root).wf = true) (hroot2 : (Lit.int .i64 root).wf = true) :
  Calls Tryz.prog 20 #[tv t pv, .int .i64 root] w fun e w' => AtR w w' t root e := by
 obtain ⟨W, hW, DW, bW, sW⟩ := boxedN w #[.int .i64 t.root, .int .i64 t.next, pv] 27
 obtain ⟨X, hX, DX, bX, sX⟩ := boxedN W #[.int .i64 0, .int .i64 0, .slice none 0 0] 27
 have bWX := bW.trans (bX.mono bW.size)
 have KC := hide (pcheck10_any X t pv (h.to0 bWX) hroot)
 obtain ⟨a, c, rfl⟩ := h.slice
 have BX := hide bWX
 have D1 := (bX.block _ (lt_of_block DW)).trans DW
 rw [sW] at DX
 have HD := hide (And.intro D1 DX)
 obtain ⟨⟨E0, E1, E2⟩, EF⟩ := cells3p D1
 obtain ⟨⟨F0, F1, F2⟩, FF⟩ := cells3p DX
 have HH := hide h
 rw [hX, hW] at E0 E1 E2 EF F0 F1 F2 FF KC
 dsimp only [tv] at KC ⊢
 clear h bW bX DW DX D1 bWX
 replace hroot := hide hroot
 replace hroot2 := hide hroot2
 replace hx := hide hx
 go_enter Tryz.func20, Tryz.ntmps20
 go_wp2_with fail
 refine KC.out.mono ?_
 rintro e w1 ⟨rfl, b1⟩
 rw [← hW, ← hX] at b1
 clear E0 E1 E2 EF F0 F1 F2 FF KC
 replace hX := hide hX
 replace hW := hide hW
 have B1 := hide (BX.out.trans (b1.mono BX.out.size))
 have D1 := (b1.block _ (lt_of_block HD.out.1)).trans HD.out.1
 have R1 := (b1.block _ (lt_of_block HD.out.2)).trans HD.out.2
 obtain ⟨⟨E0, E1, E2⟩, EF⟩ := cells3p D1
 obtain ⟨⟨F0, F1, F2⟩, FF⟩ := cells3p R1
 have HD1 := hide (And.intro D1 R1)
 clear D1 R1 b1 HD BX
 obtain ⟨err, herr⟩ : ∃ err, err = tcheck t := ⟨_, rfl⟩
 rw [← herr]
 by_cases he : err = 0
 ·have hpn := tcheck_num (herr.symm.trans he)
  have hlen : t.pages.length ≤ 65536 := by have := tups_len hpn.2.2 hpn.1; have := hpn.2.1; omega
  have KD := hide (pdata_at w1 w1 (.slice a t.pages.length c) t root (HH.out.to0 B1.out) (Below.refl _ _) (tups_up hpn.2.2) hlen)
  dsimp only [tv] at KD
  have hc0 : Hid (tcheck t = 0) := herr.symm.trans he
  subst he
  clear herr
  replace hpn := hide hpn
  replace hlen := hide hlen
  go_wp2_with fail
  refine KD.out.mono ?_
  rintro e w2 ⟨bv, ok, rfl, hp, b2⟩
  have B2 := hide (B1.out.trans (b2.mono B1.out.size))
  have D2 := (b2.block _ (lt_of_block HD1.out.1)).trans HD1.out.1
  have R2 := (b2.block _ (lt_of_block HD1.out.2)).trans HD1.out.2
  clear E0 E1 E2 EF F0 F1 F2 FF KD b2
  obtain ⟨⟨E0, E1, E2⟩, EF⟩ := cells3p D2
  obtain ⟨⟨F0, F1, F2⟩, FF⟩ := cells3p R2
  by_cases hn : root ≠ 0 ∧ tpage t.pages root = none
  ·have hz : Hid (tatE t root = 71) := by show _ = _; unfold tatE; rw [if_neg (by rw [hc0.out]; simp), if_pos hn]
   have hok : ok = false := by
    rcases hp with ⟨_, x, q, _⟩ | ⟨q, _⟩
    ·rw [hn.2] at q; cases q
    ·exact q
   subst hok
   have hr0 : (root != 0) = true := by simpa using hn.1
   replace hn := hide hn
   replace hp := hide hp
   have HR := hide R2
   clear D2 R2
   go_wp2
   (try simp only [Exit.inBlock, Exit.then])
   refine retNT rfl rfl (w.heap.size + 1) rfl _ _ (0, 0) (heap_set3t HR.out _ _ _) _ Tryz.underlying27 rfl info_tr _ rfl ?_
   refine .inr ⟨by rw [hz.out]; decide, by rw [hz.out]; rfl, below_set3t B2.out (show w.heap.size ≤ w.heap.size + 1 by omega) _ _ _⟩
  ·have hgo : ((root != 0) && !ok) = false := by
    by_cases r0 : root = 0
    ·simp [r0]
    ·rcases hp with ⟨q, _⟩ | ⟨_, q, _⟩
     ·simp [q]
     ·exact absurd ⟨r0, q⟩ hn
   have hz : Hid (tatE t root = tcheck ⟨root, t.next, t.pages⟩) := by show _ = _; unfold tatE; rw [if_neg (by rw [hc0.out]; simp), if_neg hn]
   obtain ⟨V, hV⟩ : ∃ V, V = w2.setCell ⟨w.heap.size, 0, none⟩ (.int .i64 root) := ⟨_, rfl⟩
   have d0 := heap_setN D2 0 (.int .i64 root)
   have D3 : V.heap[w.heap.size]? = some (.cells #[.int .i64 root, .int .i64 t.next, .slice a t.pages.length c] 27 (0, 0)) := by rw [hV]; simpa using d0
   have R3 : V.heap[w.heap.size + 1]? = some (.cells #[.int .i64 0, .int .i64 0, .slice none 0 0] 27 (0, 0)) := by rw [hV]; exact (Below.heap_setCell _ _ _ _ (show w.heap.size + 1 ≠ w.heap.size by omega)).trans R2
   have B3 : Below w.heap.size w V := by rw [hV]; exact B2.out.setCell (Nat.le_refl _) _
   have KC2 := hide (pcheck10_any V ⟨root, t.next, t.pages⟩ (.slice a t.pages.length c) (HH.out.to0 B3) hroot2.out)
   dsimp only [tv] at KC2
   obtain ⟨⟨G0, G1, G2⟩, GF⟩ := cells3p D3
   have HD3 := hide (And.intro D3 R3)
   have HB3 := hide B3
   rw [hV] at KC2 G0 G1 G2 GF
   replace hn := hide hn
   replace hp := hide hp
   clear D2 R2 D3 R3 B3 d0
   cases hrr : (root != 0) with
   | true =>
    have hokk : ok = true := by rw [hrr] at hgo; simpa using hgo
    subst hokk
    clear hgo
    go_wp2_with fail
    refine KC2.out.mono ?_
    rintro e w4 ⟨rfl, b4⟩
    rw [← hV] at b4
    have B4 := hide (HB3.out.trans (b4.mono HB3.out.size))
    have D4 := (b4.block _ (lt_of_block HD3.out.1)).trans HD3.out.1
    have R4 := (b4.block _ (lt_of_block HD3.out.2)).trans HD3.out.2
    clear E0 E1 E2 EF F0 F1 F2 FF G0 G1 G2 GF KC2 b4
    replace hV := hide hV
    obtain ⟨⟨E0, E1, E2⟩, EF⟩ := cells3p D4
    obtain ⟨⟨F0, F1, F2⟩, FF⟩ := cells3p R4
    have HR := hide R4
    have HD4 := hide D4
    obtain ⟨er2, her2⟩ : ∃ er, er = tcheck ⟨root, t.next, t.pages⟩ := ⟨_, rfl⟩
    rw [← her2] at hz ⊢
    clear her2
    by_cases he2 : er2 = 0
    ·subst he2
     have KP := hide (pcopied_any w4 ⟨root, t.next, t.pages⟩ (.slice a t.pages.length c) (HH.out.to0 B4.out) hlen.out hx.out)
     dsimp only [tv] at KP
     clear D4 R4
     go_wp2_with fail
     refine KP.out.mono ?_
     rintro e w5 ⟨pv5, rfl, o5, b5⟩
     obtain ⟨a5, c5, h5⟩ := o5.shape
     subst h5
     have R5 := (b5.block _ (lt_of_block HR.out)).trans HR.out
     have HR5 := hide R5
     obtain ⟨⟨F0, F1, F2⟩, FF⟩ := cells3p R5
     have B5 := hide (B4.out.trans (b5.mono B4.out.size))
     have O5 := hide o5
     clear o5 b5 KP R5
     go_wp2
     (try simp only [Exit.inBlock, Exit.then])
     refine retNT rfl rfl (w.heap.size + 1) rfl _ _ (0, 0) (heap_set3t HR5.out _ _ _) _ Tryz.underlying27 rfl info_tr _ rfl ?_
     refine .inl ⟨hz.out, _, rfl, ?_, below_set3t B5.out (show w.heap.size ≤ w.heap.size + 1 by omega) _ _ _⟩
     have k := fun e (he : e ≠ 27) => s3_keep9 HR5.out (.int .i64 root) (.int .i64 t.next) (.slice a5 t.pages.length c5) he
     exact OwnX.base (O5.out.keepT (k _ (by decide)) (k _ (by decide))) B4.out.size
    ·have hq : (er2 != 0) = true := by simpa using he2
     have HE : Hid (er2 ≠ 0) := he2
     replace he2 := hide he2
     clear D4 R4
     go_wp2
     (try simp only [Exit.inBlock, Exit.then])
     refine retNT rfl rfl (w.heap.size + 1) rfl _ _ (0, 0) (heap_set3t HR.out _ _ _) _ Tryz.underlying27 rfl info_tr _ rfl ?_
     refine .inr ⟨by rw [hz.out]; exact HE.out, by rw [hz.out]; rfl, below_set3t B4.out (show w.heap.size ≤ w.heap.size + 1 by omega) _ _ _⟩
   | false =>
    clear hgo
    go_wp2_with fail
    refine KC2.out.mono ?_
    rintro e w4 ⟨rfl, b4⟩
    rw [← hV] at b4
    have B4 := hide (HB3.out.trans (b4.mono HB3.out.size))
    have D4 := (b4.block _ (lt_of_block HD3.out.1)).trans HD3.out.1
    have R4 := (b4.block _ (lt_of_block HD3.out.2)).trans HD3.out.2
    clear E0 E1 E2 EF F0 F1 F2 FF G0 G1 G2 GF KC2 b4
    replace hV := hide hV
    obtain ⟨⟨E0, E1, E2⟩, EF⟩ := cells3p D4
    obtain ⟨⟨F0, F1, F2⟩, FF⟩ := cells3p R4
    have HR := hide R4
    have HD4 := hide D4
    obtain ⟨er2, her2⟩ : ∃ er, er = tcheck ⟨root, t.next, t.pages⟩ := ⟨_, rfl⟩
    rw [← her2] at hz ⊢
    clear her2
    by_cases he2 : er2 = 0
    ·subst he2
     have KP := hide (pcopied_any w4 ⟨root, t.next, t.pages⟩ (.slice a t.pages.length c) (HH.out.to0 B4.out) hlen.out hx.out)
     dsimp only [tv] at KP
     clear D4 R4
     go_wp2_with fail
     refine KP.out.mono ?_
     rintro e w5 ⟨pv5, rfl, o5, b5⟩
     obtain ⟨a5, c5, h5⟩ := o5.shape
     subst h5
     have R5 := (b5.block _ (lt_of_block HR.out)).trans HR.out
     have HR5 := hide R5
     obtain ⟨⟨F0, F1, F2⟩, FF⟩ := cells3p R5
     have B5 := hide (B4.out.trans (b5.mono B4.out.size))
     have O5 := hide o5
     clear o5 b5 KP R5
     go_wp2
     (try simp only [Exit.inBlock, Exit.then])
     refine retNT rfl rfl (w.heap.size + 1) rfl _ _ (0, 0) (heap_set3t HR5.out _ _ _) _ Tryz.underlying27 rfl info_tr _ rfl ?_
     refine .inl ⟨hz.out, _, rfl, ?_, below_set3t B5.out (show w.heap.size ≤ w.heap.size + 1 by omega) _ _ _⟩
     have k := fun e (he : e ≠ 27) => s3_keep9 HR5.out (.int .i64 root) (.int .i64 t.next) (.slice a5 t.pages.length c5) he
     exact OwnX.base (O5.out.keepT (k _ (by decide)) (k _ (by decide))) B4.out.size
    ·have hq : (er2 != 0) = true := by simpa using he2
     have HE : Hid (er2 ≠ 0) := he2
     replace he2 := hide he2
     clear D4 R4
     go_wp2
     (try simp only [Exit.inBlock, Exit.then])
     refine retNT rfl rfl (w.heap.size + 1) rfl _ _ (0, 0) (heap_set3t HR.out _ _ _) _ Tryz.underlying27 rfl info_tr _ rfl ?_
     refine .inr ⟨by rw [hz.out]; exact HE.out, by rw [hz.out]; rfl, below_set3t B4.out (show w.heap.size ≤ w.heap.size + 1 by omega) _ _ _⟩
 ·have hz : Hid (tatE t root = err) := by show _ = _; unfold tatE; rw [if_pos (by rw [← herr]; exact he), ← herr]
  have hq : (err != 0) = true := by simpa using he
  have HE : Hid (err ≠ 0) := he
  clear herr
  replace he := hide he
  have HR := hide HD1.out.2
  go_wp2
  (try simp only [Exit.inBlock, Exit.then])
  refine retNT rfl rfl (w.heap.size + 1) rfl _ _ (0, 0) (heap_set3t HR.out _ _ _) _ Tryz.underlying27 rfl info_tr _ rfl ?_
  refine .inr ⟨by rw [hz.out]; exact HE.out, by rw [hz.out]; rfl, below_set3t B1.out (show w.heap.size ≤ w.heap.size + 1 by omega) _ _ _⟩
end Go.Proofs.YtgmkknonnidgaaaGreat
