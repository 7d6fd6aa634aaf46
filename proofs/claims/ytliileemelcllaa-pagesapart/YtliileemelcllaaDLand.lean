/-
  The program's landed of disks, its closures, Flush, Crash and New.
-/
import Derived.Test.YtliileemelcllaaDPutP
import Derived.Test.YtliileemelcllaaSub
namespace Go.Proofs.Ytliileemelcllaa
open Go.RowKit
set_option linter.unusedVariables false

/-- a call of a function value -/
theorem wp_call_fv {P : Program} {o : Oper} {a : Act} {w : World} {K : Act → World → Prop} {Q : Exit → Act → World → Prop} (n : FuncId) (c : Operand) (xs : Array Operand) (ts : Array TypeId) (lb : Array Value)
    (ho : o.op = .call { callee := .value c, args := xs, argTypes := ts }) (hc : a.eval c = .func (.func n) #[] lb) (vals : Array Value) (hv : xs.map a.eval = vals) (hent : (callFunc n (vals ++ lb)).run P w = .ok (.enter n (vals ++ lb)) w) {R : Ending → World → Prop} (hcall : Calls P n (vals ++ lb) w R)
    (h : ∀ e w', R e w' → ∃ v, e = .returned v ∧ K (a.put o.dst v) w') : o.wp P a w K Q := by
  unfold Oper.wp
  simp [execOp, ho, resolve, invoke, hv, hc, Deferred.ofValue]
  rw [hent, Oper.upon_enter]
  refine hcall.mono ?_
  intro e w' hr
  obtain ⟨v, rfl, hk⟩ := h e w' hr
  exact hk
theorem step_call_fv {P : Program} {ops : Array Oper} {o : Oper} {a : Act} {w : World} {K : Act → World → Prop} {Q : Exit → Act → World → Prop} {E : Prop} (hgd : o.guard = none) (n : FuncId) (c : Operand) (xs : Array Operand) (ts : Array TypeId) (lb : Array Value)
    (ho : o.op = .call { callee := .value c, args := xs, argTypes := ts }) (hc : a.eval c = .func (.func n) #[] lb) (vals : Array Value) (hv : xs.map a.eval = vals) (hent : (callFunc n (vals ++ lb)).run P w = .ok (.enter n (vals ++ lb)) w) {R : Ending → World → Prop} (hcall : Calls P n (vals ++ lb) w R)
    (h : ∀ e w', R e w' → ∃ v, e = .returned v ∧ K (a.put o.dst v) w') : if Region.wanted o (yielded ops a.tmps) = true then Oper.wp P o a w K Q else E := by
  rw [if_pos (by simp [Region.wanted, hgd])]
  exact wp_call_fv n c xs ts lb ho hc vals hv hent hcall h
theorem rd_take {w : World} {a : Option Addr} {len cap : Nat} {xs : List UInt8} (h : Rd w (.slice a len cap) xs) {n : Nat} (hn : n ≤ len) : Rd w (.slice a n cap) (xs.take n) := by
  obtain ⟨ao, c, e, l1, m1, n1, r1⟩ := h
  simp only [Value.slice.injEq] at e
  obtain ⟨rfl, rfl, rfl⟩ := e
  have el : (xs.take n).length = n := by simp; omega
  refine ⟨a, cap, by rw [el], by rw [el]; omega, m1, n1, ?_⟩
  rcases r1 with rfl | ⟨b, off, rfl, hc⟩
  · left; simp
  · right
    refine ⟨b, off, rfl, fun i hi => ?_⟩
    rw [el] at hi
    rw [hc i (by omega)]
    simp only [bt]
    congr 3
    simp only [List.getD_eq_getElem?_getD, List.getElem?_take]
    rw [if_pos hi]

theorem rd_cap {w : World} {a : Option Addr} {n c : Nat} {xs : List UInt8} (h : Rd w (.slice a n c) xs) : n ≤ c := by
  obtain ⟨_, _, e, l, _⟩ := h
  simp only [Value.slice.injEq] at e
  omega

theorem OwnF.cacheNil {F : List Nat} {w : World} {sv : Value} {ss : List (List UInt8)} (T : Nat) (h : OwnF SSec F w [sv] ss) : OwnF (SSec.pair (Shp.list T SWr)) F w [sv, .slice none 0 0] (ss, []) := by
  have := OwnF.join (t := Shp.list T SWr) (F2 := []) (d := [.slice none 0 0]) (y := []) h ⟨⟨_, [], [], rfl, World.ownsRow_nil _ _ _ _, ⟨rfl, rfl⟩, by simp [Value.ownBlock]⟩, List.nodup_nil⟩ (fun b _ h => by cases h)
  rw [List.append_nil] at this
  exact this

set_option maxRecDepth 100000 in
set_option maxHeartbeats 2000000 in
theorem landed_any (w : World) (sv cv : Value) (d : Dsk) (fn : Nat) (lb : Array Value) (f : Nat → Nat) (h1 : RdSec w sv d.1) (h2 : RdC w cv d.2) (hok : DOk d) (hf : ∀ i, f i ≤ 64) (hent : ∀ args u, (callFunc fn args).run Try.prog u = .ok (.enter fn args) u)
    (hcl : ∀ (W : World) (i : Nat), Below w.heap.size w W → Calls Try.prog fn (#[.int .i64 (i : Int)] ++ lb) W fun e w' => e = .returned (.int .i64 (f i : Nat)) ∧ W = w') :
    Calls Try.prog 51 #[.agg #[sv, cv], .func (.func fn) #[] lb] w fun e w' => ∃ sv', e = .returned (.agg #[sv', .slice none 0 0]) ∧ Own SStP w.heap.size w' [sv', .slice none 0 0] (lands f d.1 d.2 d.2.length, []) ∧ Below w.heap.size w w' := by
  obtain ⟨a1, c1, rfl⟩ := h1.slice
  obtain ⟨a2, c2, rfl⟩ := h2.slice
  obtain ⟨W, hW, hA, hZ, bW, sW⟩ := boxes w (.slice a1 d.1.length c1) (.slice a2 d.2.length c2) 43
  obtain ⟨A0, A1, _, _⟩ := row2_cells hA
  have q1 := h1.to0 bW
  have hlen1 := hok.2.1
  have hlen2 := hok.2.2.1
  obtain ⟨pd1, _⟩ := padW_id hok
  have PD := hide pd1
  have HOK := hide hok
  have HCL := hide hcl
  clear pd1 hok hcl
  go_enter Try.func51, Try.ntmps51
  go_wp2_with fail
  rw [← hW]
  replace hW := hide hW
  refine (sectorsOf_any _ _ d.1 q1 (by omega)).mono ?_
  rintro e w1 ⟨v1, rfl, o1, b1⟩
  rw [PD.out] at o1
  obtain ⟨F, hF, hFB⟩ := o1.foot
  obtain ⟨g, hg, rfl⟩ : ∃ al cl, v1 = .slice al d.1.length cl := o1.rdS.slice
  have Z1 := (b1.block (w.heap.size + 1) (by omega)).trans hZ
  have A1' := (b1.cell (cell_lt A1)).trans A1
  have c1w := bW.trans (b1.mono bW.size)
  have HF := hide (And.intro hF hFB)
  have ZZ := hide Z1
  have hw1 : w.heap.size + 1 + 1 ≤ w1.heap.size := by have := b1.size; omega
  have AA := hide ((b1.block w.heap.size (by omega)).trans hA)
  clear o1 hF hFB b1 bW hA hZ A0 A1 q1 Z1
  go_wp2
  go_loopw [14] (fun i wr => ∃ k : Nat, k ≤ d.2.length ∧ i = .int .i64 k ∧ OwnF SSec F wr [.slice g d.1.length hg] (lands f d.1 d.2 k) ∧ Below (w.heap.size + 1 + 1) w1 wr) (fun i _ => d.2.length - (intOf i).toNat)
  case atStart => exact ⟨0, Nat.zero_le _, rfl, HF.out.1, Below.refl _ _⟩
  case round =>
    obtain ⟨k, hk, rfl, hF, hb⟩ := hrel
    have cw := c1w.trans (hb.mono (show w.heap.size ≤ w.heap.size + 1 + 1 by omega))
    by_cases hlt : k < d.2.length
    · have hqk : (k : Int) < (d.2.length : Int) := by omega
      obtain ⟨y, hy, hym⟩ := some_at d.2 hlt
      obtain ⟨b1, o1, u, rfl, hc1, hc2, hr⟩ := (h2.to0 cw).wrt hy
      have hyk := HOK.out.2.2.2.2 y hym
      have hls := lands_succ (f := f) (ss := d.1) hy
      obtain ⟨z, x⟩ := y
      dsimp only at hc1 hc2 hr hyk hls
      obtain ⟨kz, rfl⟩ : ∃ kz : Nat, z = (kz : Int) := ⟨z.toNat, by omega⟩
      rw [show ((kz : Int)).toNat = kz from by omega] at hls
      obtain ⟨s, hs, hsm⟩ := some_at (lands f d.1 d.2 k) (k := kz) (by rw [lands_len]; omega)
      rw [getD_some hs] at hls
      have hs64 := lands_64 (f := f) (ws := d.2) HOK.out.2.2.2.1 k s hsm
      obtain ⟨au, cu, rfl⟩ := hr.slice
      rw [hyk.2] at hc2 hr
      obtain ⟨V, hV, V0, V1, bV, sV⟩ := boxed2 wr (.int .i64 (kz : Int)) (.slice au 64 cu) 79
      obtain ⟨gs, cap, us, ev, hcap, hcs, hos, hgsF, husF, fin⟩ := (hF.to bV).sector hs
      rw [lands_len] at ev hcap
      cases ev
      obtain ⟨asx, cs, rfl⟩ := hos.rd.slice
      rw [hs64] at hcs hos husF fin
      have hrV := hr.to bV
      have hfk := hf k
      have KC := hide (HCL.out V.drew k (cw.trans (bV.mono cw.size)).drew)
      have hsB : OwnB (w.heap.size + 1 + 1) V.drew (.slice asx 64 cs) s := by
        refine ⟨by rw [List.length_map, Nat.mul_one], ?_⟩
        rcases hos.2 with ⟨e, h0⟩ | ⟨g', cap', cur, e, _, r⟩
        · exact .inl ⟨e, h0⟩
        · refine .inr ⟨g', cap', cur, e, ?_, r⟩
          rw [hs64] at e
          cases e
          have := HF.out.2 g' (husF g' rfl).1
          omega
      obtain ⟨w5, hrun, o5, b5, g5⟩ := run_copy_octs 3 hsB (rd_take (hrV.to (Below.refl _ _).drew) (n := f k) (by omega))
      have hxl : (x.take (f k)).length = f k := by rw [List.length_take]; omega
      rw [hxl, hs64] at hrun
      have hmn : Nat.min (f k) 64 = f k := Nat.min_eq_left (by omega)
      rw [hmn] at hrun
      have f5 : Hid (OwnF SSec F w5 [.slice (some ⟨gs, 0, none⟩) d.1.length hg] (lands f d.1 d.2 (k + 1))) := by
        rw [hls]
        exact fin w5 _ (o5.mono (Nat.zero_le _)) (fun b hb' hne => g5.block b (by have := hF.lt b hb'; have := bV.size; show b < V.heap.size; omega) hne)
      have B5 : Hid (Below (w.heap.size + 1 + 1) w1 w5) := (hb.trans (bV.mono (by have := hb.size; omega))).trans ((Below.refl _ _).drew.trans b5)
      have hcap0 : f k ≤ cu := by have := rd_cap hr; omega
      have hq5 : (f k : Int) ≤ (cu : Int) := by omega
      have hq6 : (kz : Int) < (d.1.length : Int) := by omega
      have hxr : (x.take (f k)).length = f k := hxl
      clear hos husF fin hF hr hrV hb cw bV hls hs hsm hy hym hyk hgsF hsB o5 b5 g5 hxl hxr
      generalize hfkn : f k = n at *
      replace hfkn := hide hfkn
      go_wp2
      rw [← hV]
      refine wp_region_mid (fun w' => w'.cell? ⟨wr.heap.size, 0, none⟩ = some (.int .i64 (kz : Int)) ∧ w'.cell? ⟨wr.heap.size, 1, none⟩ = some (.slice au 64 cu) ∧ w'.cell? ⟨gs, kz, none⟩ = some (.slice asx 64 cs)) 9 11 mixed (by kernel_rfl) (fun _ _ _ _ h => h) ⟨V0, V1, hcs⟩ ?_
      replace hV := hide hV
      dsimp only [List.take, List.drop]
      iterate 9
        refine take_one (v := ?_) (by rfl) ?_ ?_
        rotate_left
        · rintro w' ⟨s1, s2, s3⟩
          go_simp
          try with_reducible rfl
        try simp only [Act.put, List.setIfInBounds_toArray, List.set_cons_zero, List.set_cons_succ]
      refine mid_one fun K hK => ?_
      refine step_call_fv (by rfl) fn _ _ _ lb (by rfl) (by rfl) #[.int .i64 (k : Int)] (by simp [Act.eval]) (hent _ _) KC.out ?_
      rintro e w' ⟨rfl, rfl⟩
      refine ⟨_, rfl, hK _ _ ⟨V0, V1, hcs⟩ ?_⟩
      clear hK K
      try simp only [Act.put, List.setIfInBounds_toArray, List.set_cons_zero, List.set_cons_succ]
      refine mid_one fun K hK => ?_
      rw [if_pos (by rfl)]
      go_simp
      refine hK _ _ ⟨V0, V1, hcs⟩ ?_
      clear hK K
      show wpList _ _ _ _ _ _
      go_wp2
      go_roundw
      case rel => exact ⟨k + 1, by omega, by go_num, f5.out, B5.out⟩
      case measure => simp [intOf]; omega
    · obtain rfl : k = d.2.length := by omega
      have Z2 := (hb.block (w.heap.size + 1) (by omega)).trans ZZ.out
      obtain ⟨y0, y1, y2, y3⟩ := row2_cells Z2
      have hgF2 : w.heap.size + 1 ∉ F := fun hm => by have := HF.out.2 _ hm; omega
      have OO := hide (((hF.cacheNil 79).set (a := ⟨w.heap.size + 1, 0, none⟩) hgF2 (.slice g d.1.length hg)).set (a := ⟨w.heap.size + 1, 1, none⟩) hgF2 (.slice none 0 0))
      have Z3 := hide Z2
      clear hF hb Z2
      go_wp2
      refine ret_cell rfl rfl (w.heap.size + 1) rfl _ _ _ _ (heap_set2 Z3.out _ _) _ Try.underlying43 rfl info_stP ?_
      exact ⟨_, rfl, OO.out.own (fun b hb => by have := HF.out.2 b hb; omega), below_set2 cw (show w.heap.size ≤ w.heap.size + 1 by omega) _ _⟩

end Go.Proofs.Ytliileemelcllaa
