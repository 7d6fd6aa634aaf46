/-
  The program's Encode of nodes.
-/
import Derived.Test.YtgmkknonnidgaaaNPC
import Derived.Test.YtgmkknonnidgaaaRSched
import Derived.Test.YtgmkknonnidgaaaStep
namespace Go.Proofs.Ytgmkknonnidgaaa
open Go.RowKit
set_option linter.unusedVariables false
set_option linter.unusedSimpArgs false

theorem nparts_len (n : Nd) : ∀ k : Nat, ((nhead n ++ nparts n k).length : Int) = nsz n k + if n.leaf then 0 else 4 * ((k : Int) + 1)
  | 0 => by
    unfold nhead nparts nsz
    cases n.leaf <;> simp [n4]
  | k + 1 => by
    have := nparts_len n k
    simp only [nparts, nsz, npart, List.length_append] at this ⊢
    unfold nkey
    cases hl : n.leaf
    · simp [hl, n4] at this ⊢; omega
    · simp [hl] at this ⊢; omega
theorem nenc_len {n : Nd} (h : NOk n) : ((nenc n).length : Int) = nsize n := by
  unfold nenc nsize
  rw [nparts_len]
  have h2 := h.2.1
  unfold ncount at h2
  cases hl : n.leaf
  · rw [hl, if_neg (by decide)] at h2
    simp; omega
  · simp
theorem NOk.few {n : Nd} (h : NOk n) : n.keys.length ≤ 242 := by
  have h1 := nsz_ge n n.keys.length
  have h2 := h.2.2.2.2
  unfold nsize at h2
  split at h2 <;> omega
theorem NOk.val {n : Nd} (h : NOk n) (k : Nat) : (n.vals[k]?.getD []).length ≤ 64 := by
  by_cases hk : k < n.vals.length
  · exact h.2.2.1 k hk
  · rw [List.getElem?_eq_none (by omega)]; simp
theorem NOk.key {n : Nd} (h : NOk n) (k : Nat) : (nkey n k).length ≤ 32 := by
  by_cases hk : k < n.keys.length
  · exact (h.1 k hk).2.1
  · unfold nkey; rw [List.getElem?_eq_none (by omega)]; simp
theorem NOk.len {n : Nd} (h : NOk n) {k : Nat} (hk : k ≤ n.keys.length) : (nhead n ++ nparts n k).length ≤ 500000 := by
  have h0 := nparts_len n k
  have h1 := nsz_le n n.keys.length (fun k _ => h.key k) (fun _ k _ => h.val k) k hk
  have h2 := h.few
  split at h0 <;> omega
theorem NOk.size {n : Nd} (h : NOk n) : 2 ≤ nsize n ∧ nsize n ≤ 244 := by
  refine ⟨?_, h.2.2.2.2⟩
  have h1 := nsz_ge n n.keys.length
  unfold nsize
  split <;> omega

theorem ret_si {a b c d : Value} (h1 : a = c) (h2 : b = d) : Ending.returned (.tuple #[a, b]) = .returned (.tuple #[c, d]) := by rw [h1, h2]
/-- what Encode answers -/
def nout (n : Nd) : List UInt8 := if ncheck n = 0 then nenc n else []

set_option maxRecDepth 100000 in
set_option maxHeartbeats 4000000 in
theorem penc_any (w : World) (kv vv dv : Value) (n : Nd) (h : RdN w kv vv dv n) (hf : nfit n) :
    Calls Try.prog 53 #[nv n kv vv dv] w fun e w' => ∃ v', e = .returned (.tuple #[v', .int .i64 (ncheck n)]) ∧ OwnB w.heap.size w' v' (nout n) ∧ Below w.heap.size w w' := by
  have lk := h.keys.bd
  have lv := h.vals.bd
  have ld := h.kids.bd
  obtain ⟨W, hW, D, bW, sW⟩ := boxedN w #[.bool n.leaf, kv, vv, dv] 83
  replace h := h.to bW
  have KC := hide (pcheck9_any W kv vv dv n h hf)
  have KE := hide (fun w1 (b : Below W.heap.size W w1) => psize9_any w1 kv vv dv n (h.to b))
  have HN := hide (fun w1 (b : Below W.heap.size W w1) => h.to b)
  obtain ⟨D4, _⟩ := cells4 D
  have HD : Hid (∀ w1, Below W.heap.size W w1 → w1.cell? ⟨w.heap.size, 0, none⟩ = some (.bool n.leaf) ∧ w1.cell? ⟨w.heap.size, 1, none⟩ = some kv ∧ w1.cell? ⟨w.heap.size, 2, none⟩ = some vv ∧ w1.cell? ⟨w.heap.size, 3, none⟩ = some dv) := fun w1 b =>
    ⟨(b.cell (p := ⟨w.heap.size, 0, none⟩) (cell_lt D4.1)).trans D4.1, (b.cell (p := ⟨w.heap.size, 1, none⟩) (cell_lt D4.2.1)).trans D4.2.1, (b.cell (p := ⟨w.heap.size, 2, none⟩) (cell_lt D4.2.2.1)).trans D4.2.2.1, (b.cell (p := ⟨w.heap.size, 3, none⟩) (cell_lt D4.2.2.2)).trans D4.2.2.2⟩
  have HE : Hid (∀ w1, Below W.heap.size W w1 → Below w.heap.size w w1) := fun w1 b => bW.trans (b.mono bW.size)
  obtain ⟨D0, D1, D2, D3⟩ := D4
  obtain ⟨a, c, a', c', a'', c'', rfl, rfl, rfl⟩ := h.slices
  obtain ⟨i0, hi, hz0, hz1, hz2⟩ := info_parts info8
  dsimp only [nv] at *
  clear h bW D hf
  rw [hW] at D0 D1 D2 D3
  generalize hlK : n.keys.length = lK at *
  generalize hlV : n.vals.length = lV at *
  generalize hlD : n.kids.length = lD at *
  generalize hleaf : n.leaf = leaf at *
  replace hlK := hide hlK
  replace hlV := hide hlV
  replace hlD := hide hlD
  replace hleaf := hide hleaf
  go_enter Try.func53, Try.ntmps53
  go_wp2_with fail
  rw [← hW]
  replace hW := hide hW
  clear D0 D1 D2 D3
  refine KC.out.mono ?_
  rintro e w1 ⟨rfl, b1⟩
  clear KC
  by_cases hz : ncheck n = 0
  · have hok := hide ((ncheck_ok n).1 hz)
    have ho : Hid (nout n = nenc n) := if_pos hz
    have hzz := hide hz
    rw [hz]
    clear hz
    obtain ⟨D0, D1, D2, D3⟩ := HD.out w1 b1
    have B1 := hide b1
    clear b1
    go_wp2_with fail
    clear D0 D1 D2 D3
    refine (KE.out w1 B1.out).mono ?_
    rintro e w2 ⟨rfl, b2⟩
    clear KE
    have hs := hok.out.size
    rw [IntWalk.wrap64_in _ (by omega)]
    obtain ⟨S, hS⟩ : ∃ S : Nat, nsize n = (S : Int) := ⟨(nsize n).toNat, by omega⟩
    rw [hS] at hs ⊢
    have b3 : Below W.heap.size W w2 := B1.out.trans (b2.mono B1.out.size)
    obtain ⟨D0, D1, D2, D3⟩ := HD.out w2 b3
    have B3 := hide b3
    clear b2 B1 b3
    obtain ⟨w3, hmk, own3, gr3⟩ := run_make_own (P := Try.prog) w2 w2.heap.size 41 5 i0 (.int .u8 0) 1 Try.underlying41 hi hz0 hz1 .i64 .i64 S (by rw [hz2]; omega) (by unfold maxLen; omega) (Nat.le_refl _)
    have b3 : Below w2.heap.size w2 w3 := (Below.refl _ _).grown gr3 (Nat.le_refl _) (fun k h => by cases h)
    have O3 : Hid (OwnB w2.heap.size w3 (.slice (some ⟨w2.heap.size, 0, none⟩) 0 S) []) := own3
    have s3 := b3.size
    have B4 := hide b3
    have B5 := hide (B3.out.trans (b3.mono B3.out.size))
    obtain ⟨E0, E1, E2, E3⟩ := HD.out w3 B5.out
    have hf2 := hok.out.few
    rw [hlK.out] at hf2
    have hcn := hok.out.2.1
    unfold ncount at hcn
    rw [hlK.out, hlV.out, hlD.out, hleaf.out] at hcn
    have HL : Hid (∀ w9, Below w2.heap.size w2 w9 → Below W.heap.size W w9) := fun w9 b => B3.out.trans (b.mono B3.out.size)
    clear own3 gr3 b3 D0 D1 D2 D3
    cases leaf with
    | true =>
      rw [if_pos rfl] at hcn
      obtain ⟨hc1, hc2⟩ := hcn
      replace hc2 := hide hc2
      replace hc1 := hide hc1
      have rl : Rd (w3.alloc (.cells #[.int .u8 1] 5)) (.slice (some ⟨w3.heap.size, 0, none⟩) 1 1) [1] := rd_lit w3 [1] #[.int .u8 1] w3.heap.size 1 rfl rfl rfl (by decide)
      have bX : Below w2.heap.size w2 (w3.alloc (.cells #[.int .u8 1] 5)) := B4.out.alloc s3 _
      have oX : OwnB w2.heap.size (w3.alloc (.cells #[.int .u8 1] 5)) (.slice (some ⟨w2.heap.size, 0, none⟩) 0 S) [] := O3.out.below (Nat.le_refl _) ((Below.refl _ _).alloc (Nat.le_refl _) _)
      have hLX : ([] : List UInt8).length + ([1] : List UInt8).length ≤ 140737488355328 := by simp
      have hsX := bX.size
      have BX := hide bX
      clear bX
      go_wp2_with (at_builtin; refine wpList_append_octs rfl _ _ rfl w2.heap.size _ _ _ _ rfl rfl oX rl hLX hsX ?_; intro v6 w6 o6 b6 _; have B6 := hide (BX.out.trans b6); obtain ⟨F0, F1, F2, F3⟩ := HD.out w6 (HL.out _ B6.out))
      clear oX rl E0 E1 E2 E3 F0 F1 F2 F3 hLX
      have KN := hide (pnum_any w6 w2.heap.size v6 [1] lK 1 o6 B6.out.size (by decide) (by decide) (by omega) (by omega) (by simp))
      clear o6 b6
      refine KN.out.mono ?_
      rintro e w7 ⟨v7, rfl, o7, b7⟩
      clear KN
      have B7 := hide (B6.out.trans b7)
      obtain ⟨F0, F1, F2, F3⟩ := HD.out w7 (HL.out _ B7.out)
      have O7 : Hid (OwnB w2.heap.size w7 v7 (nhead n ++ nparts n 0) ∧ Below w2.heap.size w2 w7) := ⟨by
        have e : nhead n ++ nparts n 0 = [1] ++ oc lK 1 := by unfold nhead nparts; rw [hleaf.out, hlK.out, oc_one]; simp
        rw [e]; exact o7, B7.out⟩
      clear o7 b7 B7
      go_wp2
      clear F0 F1 F2 F3
      go_loopw [5, 31] (fun v i wr => ∃ k : Nat, k ≤ lK ∧ i = .int .i64 k ∧ Hid (OwnB w2.heap.size wr v (nhead n ++ nparts n k) ∧ Below w2.heap.size w2 wr)) (fun _ i _ => lK - (intOf i).toNat)
      case atStart => exact ⟨0, Nat.zero_le _, rfl, O7⟩
      case round =>
        obtain ⟨k, hk, rfl, hI⟩ := hrel
        clear O7
        by_cases hlt : k < lK
        · have hq : (k : Int) < (lK : Int) := by omega
          have hqv : (k : Int) < (lV : Int) := by have := hc1.out; omega
          obtain ⟨x, hx⟩ := some_el n.keys (k := k) (by rw [hlK.out]; exact hlt)
          obtain ⟨y, hy⟩ := some_el n.vals (k := k) (by rw [hlV.out, hc1.out]; exact hlt)
          have R2 := HN.out w2 B3.out
          obtain ⟨b, off, rfl, g1⟩ := R2.keys.strAt hx
          obtain ⟨b', off', rfl, g2⟩ := R2.vals.strAt hy
          have hc9 := (hI.out.2.cell (p := ⟨b, off + k, none⟩) (cell_lt g1)).trans g1
          have g3 := (HD.out w2 B3.out).2.2.1
          have HS : Hid (∀ w9, Below w2.heap.size w2 w9 → w9.cell? ⟨w.heap.size, 2, none⟩ = some (.slice (some ⟨b', off', none⟩) lV c') ∧ w9.cell? ⟨b', off' + k, none⟩ = some (st y)) := fun w9 b9 =>
            ⟨(b9.cell (p := ⟨w.heap.size, 2, none⟩) (cell_lt g3)).trans g3, (b9.cell (p := ⟨b', off' + k, none⟩) (cell_lt g2)).trans g2⟩
          have hxl := hok.out.key k
          have hyl := hok.out.val k
          have ek : Hid (nkey n k = x) := by show _ = _; unfold nkey; rw [hx]; rfl
          have ev : Hid (n.vals[k]?.getD [] = y) := by show _ = _; rw [hy]; rfl
          rw [ek.out] at hxl
          rw [ev.out] at hyl
          have hll := hok.out.len (k := k) (by rw [hlK.out]; omega)
          have eN : Hid (nhead n ++ nparts n k ++ [UInt8.ofNat x.length] ++ x ++ [UInt8.ofNat y.length] ++ y = nhead n ++ nparts n (k + 1)) := by
            show _ = _
            rw [nparts, npart, ek.out, ev.out, hleaf.out]
            simp
          have b0 : Below w2.heap.size wr wr.drew := (Below.refl _ _).drew
          have bD := hI.out.2.trans b0
          have K1 := hide (ptext_any wr.drew w2.heap.size u5 (nhead n ++ nparts n k) x (hI.out.1.below (Nat.le_refl _) ((Below.refl _ _).drew)) bD.size (by omega) (by omega))
          have BD := hide bD
          clear R2 g1 g2 g3 hx hy bD b0 hI
          generalize nhead n ++ nparts n k = X at *
          go_wp2
          refine wp_region_sched (fun w9 => w9.cell? ⟨w.heap.size, 2, none⟩ = some (.slice (some ⟨b', off', none⟩) lV c') ∧ w9.cell? ⟨b', off' + k, none⟩ = some (st y)) [(0, true), (1, true), (3, true), (4, true), (5, true), (6, true), (7, true), (2, false), (8, false)] 9 mixed (by kernel_rfl) (fun _ _ _ _ h => h) ?_
          iterate 7
            refine sched_take (v := ?_) rfl (by kernel_rfl) (HS.out _ BD.out) ?_ ?_
            rotate_left
            · rintro w9 ⟨r1, r2⟩
              go_simp
              try with_reducible rfl
            try simp only [Act.put, List.setIfInBounds_toArray, List.set_cons_zero, List.set_cons_succ]
          refine sched_run rfl (by kernel_rfl) fun K hK => ?_
          refine wp_call_of 77 _ _ (by rfl) #[u5, st x] (by simp [Act.eval]) (Try.call77 _ _) K1.out ?_
          rintro e w8 ⟨v8, rfl, o8, b8⟩
          have d8 : Below w2.heap.size w2 w8 := BD.out.trans b8
          refine ⟨_, rfl, hK _ _ (HS.out _ d8) ?_⟩
          clear hK K
          have K2 := hide (ptext_any w8 w2.heap.size v8 _ y o8 d8.size (by omega) (by simp; omega))
          try simp only [Act.put, List.setIfInBounds_toArray, List.set_cons_zero, List.set_cons_succ]
          refine sched_run rfl (by kernel_rfl) fun K hK => ?_
          refine wp_call_of 77 _ _ (by rfl) #[v8, st y] (by simp [Act.eval]) (Try.call77 _ _) K2.out ?_
          rintro e w9 ⟨v9, rfl, o9, b9⟩
          have d9 : Below w2.heap.size w2 w9 := d8.trans b9
          refine ⟨_, rfl, hK _ _ (HS.out _ d9) ?_⟩
          clear hK K
          try simp only [Act.put, List.setIfInBounds_toArray, List.set_cons_zero, List.set_cons_succ]
          rw [eN.out] at o9
          have I9 := hide (And.intro o9 d9)
          clear o8 b8 d8 o9 b9 d9 K1 K2
          show wpList _ _ _ _ _ _
          dsimp only [List.drop]
          go_wp2
          go_roundw
          case rel => exact ⟨k + 1, by omega, by go_num, I9⟩
          case measure => simp [intOf]; omega
        · have hq : ¬ (k : Int) < (lK : Int) := by omega
          have e : Hid (nout n = nhead n ++ nparts n k) := by show _ = _; rw [ho.out, nenc, hlK.out, show k = lK by omega]
          go_wp2
          go_ret2
          refine ⟨u5, ret_si rfl (congrArg (Value.int .i64) hzz.out.symm), ?_, HE.out _ (HL.out _ hI.out.2)⟩
          rw [e.out]
          exact hI.out.1.mono (HE.out _ B3.out).size
    | false =>
      rw [if_neg (by decide)] at hcn
      obtain ⟨hc1, hc2, hc3⟩ := hcn
      replace hc1 := hide hc1
      replace hc3 := hide hc3
      have rl : Rd (w3.alloc (.cells #[.int .u8 0] 5)) (.slice (some ⟨w3.heap.size, 0, none⟩) 1 1) [0] := rd_lit w3 [0] #[.int .u8 0] w3.heap.size 1 rfl rfl rfl (by decide)
      have bX : Below w2.heap.size w2 (w3.alloc (.cells #[.int .u8 0] 5)) := B4.out.alloc s3 _
      have oX : OwnB w2.heap.size (w3.alloc (.cells #[.int .u8 0] 5)) (.slice (some ⟨w2.heap.size, 0, none⟩) 0 S) [] := O3.out.below (Nat.le_refl _) ((Below.refl _ _).alloc (Nat.le_refl _) _)
      have hLX : ([] : List UInt8).length + ([0] : List UInt8).length ≤ 140737488355328 := by simp
      have hsX := bX.size
      have BX := hide bX
      clear bX
      go_wp2_with (at_builtin; refine wpList_append_octs rfl _ _ rfl w2.heap.size _ _ _ _ rfl rfl oX rl hLX hsX ?_; intro v6 w6 o6 b6 _; have B6 := hide (BX.out.trans b6); obtain ⟨F0, F1, F2, F3⟩ := HD.out w6 (HL.out _ B6.out))
      clear oX rl E0 E1 E2 E3 F0 F1 F2 F3 hLX
      have KN := hide (pnum_any w6 w2.heap.size v6 [0] lK 1 o6 B6.out.size (by decide) (by decide) (by omega) (by omega) (by simp))
      clear o6 b6
      refine KN.out.mono ?_
      rintro e w7 ⟨v7, rfl, o7, b7⟩
      clear KN
      have B7 := hide (B6.out.trans b7)
      obtain ⟨F0, F1, F2, F3⟩ := HD.out w7 (HL.out _ B7.out)
      have hD0 : 0 < n.kids.length := by rw [hlD.out, hc3.out]; omega
      obtain ⟨z, hzd⟩ := some_el n.kids hD0
      obtain ⟨bd, od, rfl, gd⟩ := (HN.out w2 B3.out).kids.intAt hzd
      have hzr := hok.out.2.2.2.1 0 hD0
      have ez : Hid (n.kids[0]?.getD 0 = z) := by show _ = _; rw [hzd]; rfl
      rw [ez.out] at hzr
      obtain ⟨Zn, hZn⟩ : ∃ Zn : Nat, z = (Zn : Int) := ⟨z.toNat, by omega⟩
      subst hZn
      have q7 := (B7.out.cell (p := ⟨bd, od + 0, none⟩) (cell_lt gd)).trans gd
      have qd : (0 : Int) < (lD : Int) := by have := hc3.out; omega
      rw [Nat.add_zero] at q7
      have KM := hide (pnum_any w7 w2.heap.size v7 ([0] ++ oc lK 1) Zn 4 o7 B7.out.size (by decide) (by decide) (by omega) (by omega) (by rw [oc_one]; simp))
      clear o7 b7 gd hzd hD0
      go_wp2_with fail
      clear F0 F1 F2 F3 q7
      refine KM.out.mono ?_
      rintro e w8 ⟨v8, rfl, o8, b8⟩
      clear KM
      have B8 := hide (B7.out.trans b8)
      obtain ⟨F0, F1, F2, F3⟩ := HD.out w8 (HL.out _ B8.out)
      have O7 : Hid (OwnB w2.heap.size w8 v8 (nhead n ++ nparts n 0) ∧ Below w2.heap.size w2 w8) := ⟨by
        have e : nhead n ++ nparts n 0 = [0] ++ oc lK 1 ++ oc Zn 4 := by unfold nhead nparts; rw [hleaf.out, hlK.out, oc_one, ez.out, ← oc_four]; simp
        rw [e]; exact o8, B8.out⟩
      clear o8 b8 B7 B8
      go_wp2
      clear F0 F1 F2 F3
      go_loopw [5, 64] (fun v i wr => ∃ k : Nat, k ≤ lK ∧ i = .int .i64 k ∧ Hid (OwnB w2.heap.size wr v (nhead n ++ nparts n k) ∧ Below w2.heap.size w2 wr)) (fun _ i _ => lK - (intOf i).toNat)
      case atStart => exact ⟨0, Nat.zero_le _, rfl, O7⟩
      case round =>
        obtain ⟨k, hk, rfl, hI⟩ := hrel
        clear O7
        by_cases hlt : k < lK
        · have hq : (k : Int) < (lK : Int) := by omega
          obtain ⟨j, hj⟩ : ∃ j, j = k + 1 := ⟨_, rfl⟩
          have hj1 : (k : Int) + 1 = (j : Int) := by omega
          have hj2 : (j : Int) < (lD : Int) := by have := hc3.out; omega
          have hj3 : IntKind.i64.wrap (j : Int) = (j : Int) := IntWalk.i64_in _ (by omega)
          replace hj := hide hj
          obtain ⟨x, hx⟩ := some_el n.keys (k := k) (by rw [hlK.out]; exact hlt)
          obtain ⟨y0, hy⟩ := some_el n.kids (k := j) (by rw [hlD.out, hc3.out, hj.out]; omega)
          have R2 := HN.out w2 B3.out
          obtain ⟨b, off, rfl, g1⟩ := R2.keys.strAt hx
          obtain ⟨b', off', e', g2⟩ := R2.kids.intAt hy
          obtain ⟨rfl, rfl⟩ : b' = bd ∧ off' = od := by simp only [Option.some.injEq, Addr.mk.injEq, and_true] at e'; exact ⟨e'.1.symm, e'.2.symm⟩
          clear e'
          have hc9 := (hI.out.2.cell (p := ⟨b, off + k, none⟩) (cell_lt g1)).trans g1
          have g3 := (HD.out w2 B3.out).2.2.2
          have hxl := hok.out.key k
          have hyr := hok.out.2.2.2.1 j (by rw [hlD.out, hc3.out, hj.out]; omega)
          have ev : Hid (n.kids[j]?.getD 0 = y0) := by show _ = _; rw [hy]; rfl
          rw [ev.out] at hyr
          obtain ⟨y, hyn⟩ : ∃ y : Nat, y0 = (y : Int) := ⟨y0.toNat, by omega⟩
          subst hyn
          have ek : Hid (nkey n k = x) := by show _ = _; unfold nkey; rw [hx]; rfl
          rw [ek.out] at hxl
          have hll := hok.out.len (k := k) (by rw [hlK.out]; omega)
          have HS : Hid (∀ w9, Below w2.heap.size w2 w9 → w9.cell? ⟨w.heap.size, 3, none⟩ = some (.slice (some ⟨b', off', none⟩) lD c'') ∧ w9.cell? ⟨b', off' + j, none⟩ = some (.int .i64 (y : Int))) := fun w9 b9 =>
            ⟨(b9.cell (p := ⟨w.heap.size, 3, none⟩) (cell_lt g3)).trans g3, (b9.cell (p := ⟨b', off' + j, none⟩) (cell_lt g2)).trans g2⟩
          have eN : Hid (nhead n ++ nparts n k ++ [UInt8.ofNat x.length] ++ x ++ oc y 4 = nhead n ++ nparts n (k + 1)) := by
            show _ = _
            rw [nparts, npart, ek.out, ← hj.out, ev.out, hleaf.out, ← oc_four]
            simp
          have b0 : Below w2.heap.size wr wr.drew := (Below.refl _ _).drew
          have bD := hI.out.2.trans b0
          have K1 := hide (ptext_any wr.drew w2.heap.size u5 (nhead n ++ nparts n k) x (hI.out.1.below (Nat.le_refl _) ((Below.refl _ _).drew)) bD.size (by omega) (by omega))
          have BD := hide bD
          clear R2 g1 g2 g3 hx hy bD b0 hI
          generalize nhead n ++ nparts n k = X at *
          go_wp2
          refine wp_region_sched (fun w9 => w9.cell? ⟨w.heap.size, 3, none⟩ = some (.slice (some ⟨b', off', none⟩) lD c'') ∧ w9.cell? ⟨b', off' + j, none⟩ = some (.int .i64 (y : Int))) [(0, true), (1, true), (3, true), (4, true), (5, true), (6, true), (7, true), (8, true), (2, false), (9, false)] 10 mixed (by kernel_rfl) (fun _ _ _ _ h => h) ?_
          iterate 8
            refine sched_take (v := ?_) rfl (by kernel_rfl) (HS.out _ BD.out) ?_ ?_
            rotate_left
            · rintro w9 ⟨r1, r2⟩
              go_simp
              try with_reducible rfl
            try simp only [Act.put, List.setIfInBounds_toArray, List.set_cons_zero, List.set_cons_succ]
          refine sched_run rfl (by kernel_rfl) fun K hK => ?_
          refine wp_call_of 77 _ _ (by rfl) #[u5, st x] (by simp [Act.eval]) (Try.call77 _ _) K1.out ?_
          rintro e w8 ⟨v8, rfl, o8, b8⟩
          have d8 : Below w2.heap.size w2 w8 := BD.out.trans b8
          refine ⟨_, rfl, hK _ _ (HS.out _ d8) ?_⟩
          clear hK K
          have K2 := hide (pnum_any w8 w2.heap.size v8 _ y 4 o8 d8.size (by decide) (by decide) (by omega) (by omega) (by simp; omega))
          try simp only [Act.put, List.setIfInBounds_toArray, List.set_cons_zero, List.set_cons_succ]
          refine sched_run rfl (by kernel_rfl) fun K hK => ?_
          refine wp_call_of 76 _ _ (by rfl) #[v8, .int .i64 (y : Int), .int .i64 4] (by simp [Act.eval]) (Try.call76 _ _) K2.out ?_
          rintro e w9 ⟨v9, rfl, o9, b9⟩
          have d9 : Below w2.heap.size w2 w9 := d8.trans b9
          refine ⟨_, rfl, hK _ _ (HS.out _ d9) ?_⟩
          clear hK K
          try simp only [Act.put, List.setIfInBounds_toArray, List.set_cons_zero, List.set_cons_succ]
          rw [eN.out] at o9
          have I9 := hide (And.intro o9 d9)
          clear o8 b8 d8 o9 b9 d9 K1 K2
          show wpList _ _ _ _ _ _
          dsimp only [List.drop]
          clear hj1 hj2 hj3
          go_wp2
          go_roundw
          case rel => exact ⟨k + 1, by omega, by go_num, I9⟩
          case measure => simp [intOf]; omega
        · have hq : ¬ (k : Int) < (lK : Int) := by omega
          have e : Hid (nout n = nhead n ++ nparts n k) := by show _ = _; rw [ho.out, nenc, hlK.out, show k = lK by omega]
          go_wp2
          go_ret2
          refine ⟨u5, ret_si rfl (congrArg (Value.int .i64) hzz.out.symm), ?_, HE.out _ (HL.out _ hI.out.2)⟩
          rw [e.out]
          exact hI.out.1.mono (HE.out _ B3.out).size
  · have ho : Hid (nout n = []) := if_neg hz
    obtain ⟨Z, hZ⟩ : ∃ Z, Z = ncheck n := ⟨_, rfl⟩
    rw [← hZ] at hz ⊢
    replace hZ := hide hZ
    have bb := hide (HE.out _ b1)
    clear b1
    go_wp2
    go_ret2
    refine ⟨.slice none 0 0, ret_si rfl (congrArg (Value.int .i64) hZ.out), ?_, bb.out⟩
    rw [ho.out]
    exact World.ownsRow_nil _ _ _ _

end Go.Proofs.Ytgmkknonnidgaaa
