/-
  Encode of a superblock: the program's and the page's.
-/
import Derived.ArgAppend
import Derived.Lib.AppendStr
import Derived.Test.YtpebgepjohlklaaSCheck
import Derived.Test.YtpebgepjohlklaaPut
import Derived.Test.YtpebgepjohlklaaRefPut
import Derived.Test.YtpebgepjohlklaaCExt
import Derived.Test.YtpebgepjohlklaaApp
import Derived.Test.YtpebgepjohlklaaAppZ
import Derived.Test.YtpebgepjohlklaaConv
namespace Go.Proofs.Ytpebgepjohlklaa
open Go.RowKit
set_option linter.unusedVariables false

theorem sum64 (xs : List UInt8) : IntKind.u64.wrap ((sum xs : Nat) : Int) = ((sum xs : Nat) : Int) := by
  have hS := sum_lt xs
  unfold M32 at hS; rw [IntKind.wrap_u64]; omega
theorem wrap_u64_nat (n : Nat) (h : n ≤ 1099511627776) : IntKind.u64.wrap (n : Int) = (n : Int) := by rw [IntKind.wrap_u64]; omega
set_option maxRecDepth 100000 in
theorem sumOf_any (w : World) (v : Value) (xs : List UInt8) (h : Rd w v xs) (hm : xs.length ≤ 1000) :
    Calls Try.prog 31 #[v] w fun e w' => ∃ v', e = .returned v' ∧ OwnB w.heap.size w' v' (oc (sum xs) 4) ∧ Below w.heap.size w w' := by
  obtain ⟨a, c, rfl⟩ := h.slice
  have hS := sum_lt xs
  have hws := sum64 xs
  unfold M32 at hS
  go_enter Try.func31, Try.ntmps31
  go_wp2_with fail
  refine (sum_any w _ xs h (by omega)).mono ?_
  rintro e w1 ⟨rfl, b1⟩
  have KP := hide (put_yes (sum xs) 4 w1 (by decide) (by decide) (by omega) (by omega))
  generalize hSe : sum xs = S at *
  replace hSe := hide hSe
  go_wp2_with fail
  refine KP.out.mono ?_
  rintro e w2 ⟨v2, rfl, o2, b2⟩
  go_wp2
  go_ret
  exact ⟨_, rfl, by rw [hSe.out]; exact o2.mono b1.size, b1.trans (b2.mono b1.size)⟩
/-- append of the mark, a string -/
theorem strCells_mark : Lib.strCells ⟨#[116, 115, 98, 49]⟩ = smark.map enc := by rfl
theorem fit_nat {n : Int} (h : bfit n) : ∃ m : Nat, n = (m : Int) ∧ m ≤ 1099511627776 := by
  unfold bfit at h
  exact ⟨n.toNat, by omega, by omega⟩
theorem ocs_take {l : List Int} {K m : Nat} (h : l[K]? = some (m : Int)) : ocs (l.take (K + 1)) = ocs (l.take K) ++ oc m 8 := by
  rw [List.take_add_one, h, ocs_app]
  show _ ++ ocs [(m : Int)] = _
  rw [ocs_cons, Int.toNat_natCast]
  show _ ++ (_ ++ []) = _
  rw [List.append_nil]
theorem ocs_take_len (b : Blk) (K : Nat) (h : K ≤ 5) : (smark ++ ocs ((bls b).take K)).length = 4 + 8 * K := by
  rw [List.length_append, ocs_len, List.length_take]
  show 4 + 8 * min K 5 = _
  omega

set_option maxRecDepth 100000 in
set_option maxHeartbeats 4000000 in
theorem pencode_any (w : World) (b : Blk) : Calls Try.prog 8 #[.agg #[.int .i64 b.1, .int .i64 b.2.1, .int .i64 b.2.2.1, .int .i64 b.2.2.2.1, .int .i64 b.2.2.2.2]] w fun e w' => ∃ v', e = .returned (.tuple #[v', .int .i64 (senc b).2]) ∧ OwnB w.heap.size w' v' (senc b).1 ∧ Below w.heap.size w w' := by
  obtain ⟨i0, hi, hz0, hz1, hz2⟩ := info_parts info8
  by_cases hok : bok b
  · have KC := fun u => pcheck_any u b
    rw [scheck_ok hok] at KC
    rw [senc_ok hok]
    obtain ⟨n0, n1, n2, n3, n4⟩ := b
    dsimp only at KC ⊢
    obtain ⟨m0, rfl, hm0⟩ := fit_nat (hok n0 (by simp [bls]))
    obtain ⟨m1, rfl, hm1⟩ := fit_nat (hok n1 (by simp [bls]))
    obtain ⟨m2, rfl, hm2⟩ := fit_nat (hok n2 (by simp [bls]))
    obtain ⟨m3, rfl, hm3⟩ := fit_nat (hok n3 (by simp [bls]))
    obtain ⟨m4, rfl, hm4⟩ := fit_nat (hok n4 (by simp [bls]))
    replace KC := hide KC
    clear hok
    obtain ⟨X, hX, X0, bX, sX⟩ := boxedN w #[.int .i64 (m0 : Int), .int .i64 (m1 : Int), .int .i64 (m2 : Int), .int .i64 (m3 : Int), .int .i64 (m4 : Int)] 28
    obtain ⟨⟨d0, d1, d2, d3, d4⟩, _⟩ := cells5 X0
    rw [hX] at d0 d1 d2 d3 d4
    go_enter Try.func8, Try.ntmps8
    go_wp2_with fail
    rw [← hX]
    clear d0 d1 d2 d3 d4
    replace hX := hide hX
    refine (KC.out X).mono ?_
    rintro e w1 ⟨rfl, b1⟩
    have c1 := bX.trans (b1.mono bX.size)
    have X1 : w1.heap[w.heap.size]? = _ := (b1.block _ (by omega)).trans X0
    have hg1 : w.heap.size < w1.heap.size := lt_of_block X1
    obtain ⟨w2, hmk, own2, gr2⟩ := run_make_own (P := Try.prog) w1 w1.heap.size 24 5 i0 (.int .u8 0) 1 Try.underlying24 hi hz0 hz1 .i64 .i64 64 (by rw [hz2]; decide) (by decide) (Nat.le_refl _)
    replace hmk : (Instr.makeSlice 24 (.int .i64 0) (.int .i64 64)).run Try.prog w1 = .ok (.slice (some ⟨w1.heap.size, 0, none⟩) 0 64) w2 := hmk
    have b2 : Below w1.heap.size w1 w2 := (Below.refl _ _).grown gr2 (Nat.le_refl _) (fun k hk => by cases hk)
    clear X0 bX b1
    replace c1 := hide c1
    replace X1 := hide X1
    have hw2 := b2.size
    go_wp2_with (at_builtin; refine Lib.wpList_append_own_string _ rfl _ _ 24 9 rfl w1.heap.size 5 i0 Try.underlying24 Try.underlying9 hi hz0 hz1 hz2 _ 0 [] rfl own2 ⟨#[116, 115, 98, 49]⟩ rfl (by decide) (by decide) hw2 ?_; intro v3 w3 own3 gr3 _)
    have o3 : OwnB w1.heap.size w3 v3 smark := by
      have := own3
      rw [strCells_mark] at this
      exact this
    have b3 : Below w1.heap.size w1 w3 := b2.grown gr3 (by exact hw2) (fun k hk => (World.ownsRow.lt own2 k hk).1)
    clear own2 own3 gr2 gr3 hmk b2 hw2
    refine (numbersOf_any w3 w.heap.size).mono ?_
    rintro e w4 ⟨rfl, b4⟩
    have I0 := hide (And.intro (o3.below (Nat.le_refl _) b4) (b3.trans (b4.mono b3.size)))
    clear o3 b3 b4

    have ix0 := fun u => idx0 (.pointer (some ⟨w.heap.size, 0, none⟩)) (.pointer (some ⟨w.heap.size, 1, none⟩)) (.pointer (some ⟨w.heap.size, 2, none⟩)) (.pointer (some ⟨w.heap.size, 3, none⟩)) (.pointer (some ⟨w.heap.size, 4, none⟩)) u
    have ix1 := fun u => idx1 (.pointer (some ⟨w.heap.size, 0, none⟩)) (.pointer (some ⟨w.heap.size, 1, none⟩)) (.pointer (some ⟨w.heap.size, 2, none⟩)) (.pointer (some ⟨w.heap.size, 3, none⟩)) (.pointer (some ⟨w.heap.size, 4, none⟩)) u
    have ix2 := fun u => idx2 (.pointer (some ⟨w.heap.size, 0, none⟩)) (.pointer (some ⟨w.heap.size, 1, none⟩)) (.pointer (some ⟨w.heap.size, 2, none⟩)) (.pointer (some ⟨w.heap.size, 3, none⟩)) (.pointer (some ⟨w.heap.size, 4, none⟩)) u
    have ix3 := fun u => idx3 (.pointer (some ⟨w.heap.size, 0, none⟩)) (.pointer (some ⟨w.heap.size, 1, none⟩)) (.pointer (some ⟨w.heap.size, 2, none⟩)) (.pointer (some ⟨w.heap.size, 3, none⟩)) (.pointer (some ⟨w.heap.size, 4, none⟩)) u
    have ix4 := fun u => idx4 (.pointer (some ⟨w.heap.size, 0, none⟩)) (.pointer (some ⟨w.heap.size, 1, none⟩)) (.pointer (some ⟨w.heap.size, 2, none⟩)) (.pointer (some ⟨w.heap.size, 3, none⟩)) (.pointer (some ⟨w.heap.size, 4, none⟩)) u
    go_wp2
    go_loopw [5, 19] (fun v i wr => ∃ K : Nat, K ≤ 5 ∧ i = .int .i64 K ∧ Hid (OwnB w1.heap.size wr v (smark ++ ocs ((bls ((m0 : Int), (m1 : Int), (m2 : Int), (m3 : Int), (m4 : Int))).take K)) ∧ Below w1.heap.size w1 wr)) (fun _ i _ => 5 - (intOf i).toNat)
    case atStart => exact ⟨0, by omega, rfl, hide ⟨by simpa [ocs] using I0.out.1, I0.out.2⟩⟩
    case round =>
      obtain ⟨K, hK, rfl, hI⟩ := hrel
      clear I0
      obtain ⟨⟨d0, d1, d2, d3, d4⟩, _⟩ := cells5 ((hI.out.2.block _ hg1).trans X1.out)
      have hcases : K = 0 ∨ K = 1 ∨ K = 2 ∨ K = 3 ∨ K = 4 ∨ K = 5 := by omega
      rcases hcases with rfl | rfl | rfl | rfl | rfl | rfl
      · have hwr := wrap_u64_nat m0 hm0
        go_wp2_with fail
        refine (put_yes m0 8 wr (by decide) (by decide) (by omega) (by omega)).mono ?_
        rintro e w5 ⟨v5, rfl, o5, b5⟩
        have bA := hI.out.2.trans (b5.mono hI.out.2.size)
        obtain ⟨Y, hY, oA⟩ : ∃ Y, Y = smark ++ ocs ((bls ((m0 : Int), (m1 : Int), (m2 : Int), (m3 : Int), (m4 : Int))).take 0) ∧ OwnB w1.heap.size w5 u5 Y := ⟨_, rfl, hI.out.1.below (Nat.le_refl _) b5⟩
        obtain ⟨Z, hZ, r5⟩ : ∃ Z, Z = oc m0 8 ∧ Rd w5 v5 Z := ⟨_, rfl, o5.rd⟩
        have hl : Y.length + Z.length ≤ 140737488355328 := by rw [hY, hZ, ocs_take_len _ _ (by omega), oc_length]; omega
        have hsz := bA.size
        obtain ⟨ha, hc, rfl⟩ := oA.rd.slice
        obtain ⟨hb, hd, rfl⟩ := r5.slice
        replace hY := hide hY
        replace hZ := hide hZ
        replace bA := hide bA
        clear d0 d1 d2 d3 d4 o5 b5 hI
        go_wp2_with (at_builtin; refine wpList_append_octs rfl _ _ rfl w1.heap.size _ _ _ _ rfl rfl oA r5 hl hsz ?_; intro v6 w6 o6 b6 _)
        go_roundw
        case rel => exact ⟨0 + 1, by omega, by go_num, hide ⟨by rw [ocs_take (K := 0) (m := m0) rfl, ← List.append_assoc, ← hY.out, ← hZ.out]; exact o6, bA.out.trans b6⟩⟩
        case measure => simp [intOf]
      · have hwr := wrap_u64_nat m1 hm1
        go_wp2_with fail
        refine (put_yes m1 8 wr (by decide) (by decide) (by omega) (by omega)).mono ?_
        rintro e w5 ⟨v5, rfl, o5, b5⟩
        have bA := hI.out.2.trans (b5.mono hI.out.2.size)
        obtain ⟨Y, hY, oA⟩ : ∃ Y, Y = smark ++ ocs ((bls ((m0 : Int), (m1 : Int), (m2 : Int), (m3 : Int), (m4 : Int))).take 1) ∧ OwnB w1.heap.size w5 u5 Y := ⟨_, rfl, hI.out.1.below (Nat.le_refl _) b5⟩
        obtain ⟨Z, hZ, r5⟩ : ∃ Z, Z = oc m1 8 ∧ Rd w5 v5 Z := ⟨_, rfl, o5.rd⟩
        have hl : Y.length + Z.length ≤ 140737488355328 := by rw [hY, hZ, ocs_take_len _ _ (by omega), oc_length]; omega
        have hsz := bA.size
        obtain ⟨ha, hc, rfl⟩ := oA.rd.slice
        obtain ⟨hb, hd, rfl⟩ := r5.slice
        replace hY := hide hY
        replace hZ := hide hZ
        replace bA := hide bA
        clear d0 d1 d2 d3 d4 o5 b5 hI
        go_wp2_with (at_builtin; refine wpList_append_octs rfl _ _ rfl w1.heap.size _ _ _ _ rfl rfl oA r5 hl hsz ?_; intro v6 w6 o6 b6 _)
        go_roundw
        case rel => exact ⟨1 + 1, by omega, by go_num, hide ⟨by rw [ocs_take (K := 1) (m := m1) rfl, ← List.append_assoc, ← hY.out, ← hZ.out]; exact o6, bA.out.trans b6⟩⟩
        case measure => simp [intOf]
      · have hwr := wrap_u64_nat m2 hm2
        go_wp2_with fail
        refine (put_yes m2 8 wr (by decide) (by decide) (by omega) (by omega)).mono ?_
        rintro e w5 ⟨v5, rfl, o5, b5⟩
        have bA := hI.out.2.trans (b5.mono hI.out.2.size)
        obtain ⟨Y, hY, oA⟩ : ∃ Y, Y = smark ++ ocs ((bls ((m0 : Int), (m1 : Int), (m2 : Int), (m3 : Int), (m4 : Int))).take 2) ∧ OwnB w1.heap.size w5 u5 Y := ⟨_, rfl, hI.out.1.below (Nat.le_refl _) b5⟩
        obtain ⟨Z, hZ, r5⟩ : ∃ Z, Z = oc m2 8 ∧ Rd w5 v5 Z := ⟨_, rfl, o5.rd⟩
        have hl : Y.length + Z.length ≤ 140737488355328 := by rw [hY, hZ, ocs_take_len _ _ (by omega), oc_length]; omega
        have hsz := bA.size
        obtain ⟨ha, hc, rfl⟩ := oA.rd.slice
        obtain ⟨hb, hd, rfl⟩ := r5.slice
        replace hY := hide hY
        replace hZ := hide hZ
        replace bA := hide bA
        clear d0 d1 d2 d3 d4 o5 b5 hI
        go_wp2_with (at_builtin; refine wpList_append_octs rfl _ _ rfl w1.heap.size _ _ _ _ rfl rfl oA r5 hl hsz ?_; intro v6 w6 o6 b6 _)
        go_roundw
        case rel => exact ⟨2 + 1, by omega, by go_num, hide ⟨by rw [ocs_take (K := 2) (m := m2) rfl, ← List.append_assoc, ← hY.out, ← hZ.out]; exact o6, bA.out.trans b6⟩⟩
        case measure => simp [intOf]
      · have hwr := wrap_u64_nat m3 hm3
        go_wp2_with fail
        refine (put_yes m3 8 wr (by decide) (by decide) (by omega) (by omega)).mono ?_
        rintro e w5 ⟨v5, rfl, o5, b5⟩
        have bA := hI.out.2.trans (b5.mono hI.out.2.size)
        obtain ⟨Y, hY, oA⟩ : ∃ Y, Y = smark ++ ocs ((bls ((m0 : Int), (m1 : Int), (m2 : Int), (m3 : Int), (m4 : Int))).take 3) ∧ OwnB w1.heap.size w5 u5 Y := ⟨_, rfl, hI.out.1.below (Nat.le_refl _) b5⟩
        obtain ⟨Z, hZ, r5⟩ : ∃ Z, Z = oc m3 8 ∧ Rd w5 v5 Z := ⟨_, rfl, o5.rd⟩
        have hl : Y.length + Z.length ≤ 140737488355328 := by rw [hY, hZ, ocs_take_len _ _ (by omega), oc_length]; omega
        have hsz := bA.size
        obtain ⟨ha, hc, rfl⟩ := oA.rd.slice
        obtain ⟨hb, hd, rfl⟩ := r5.slice
        replace hY := hide hY
        replace hZ := hide hZ
        replace bA := hide bA
        clear d0 d1 d2 d3 d4 o5 b5 hI
        go_wp2_with (at_builtin; refine wpList_append_octs rfl _ _ rfl w1.heap.size _ _ _ _ rfl rfl oA r5 hl hsz ?_; intro v6 w6 o6 b6 _)
        go_roundw
        case rel => exact ⟨3 + 1, by omega, by go_num, hide ⟨by rw [ocs_take (K := 3) (m := m3) rfl, ← List.append_assoc, ← hY.out, ← hZ.out]; exact o6, bA.out.trans b6⟩⟩
        case measure => simp [intOf]
      · have hwr := wrap_u64_nat m4 hm4
        go_wp2_with fail
        refine (put_yes m4 8 wr (by decide) (by decide) (by omega) (by omega)).mono ?_
        rintro e w5 ⟨v5, rfl, o5, b5⟩
        have bA := hI.out.2.trans (b5.mono hI.out.2.size)
        obtain ⟨Y, hY, oA⟩ : ∃ Y, Y = smark ++ ocs ((bls ((m0 : Int), (m1 : Int), (m2 : Int), (m3 : Int), (m4 : Int))).take 4) ∧ OwnB w1.heap.size w5 u5 Y := ⟨_, rfl, hI.out.1.below (Nat.le_refl _) b5⟩
        obtain ⟨Z, hZ, r5⟩ : ∃ Z, Z = oc m4 8 ∧ Rd w5 v5 Z := ⟨_, rfl, o5.rd⟩
        have hl : Y.length + Z.length ≤ 140737488355328 := by rw [hY, hZ, ocs_take_len _ _ (by omega), oc_length]; omega
        have hsz := bA.size
        obtain ⟨ha, hc, rfl⟩ := oA.rd.slice
        obtain ⟨hb, hd, rfl⟩ := r5.slice
        replace hY := hide hY
        replace hZ := hide hZ
        replace bA := hide bA
        clear d0 d1 d2 d3 d4 o5 b5 hI
        go_wp2_with (at_builtin; refine wpList_append_octs rfl _ _ rfl w1.heap.size _ _ _ _ rfl rfl oA r5 hl hsz ?_; intro v6 w6 o6 b6 _)
        go_roundw
        case rel => exact ⟨4 + 1, by omega, by go_num, hide ⟨by rw [ocs_take (K := 4) (m := m4) rfl, ← List.append_assoc, ← hY.out, ← hZ.out]; exact o6, bA.out.trans b6⟩⟩
        case measure => simp [intOf]
      · have oH : OwnB w1.heap.size wr u5 (shead ((m0 : Int), (m1 : Int), (m2 : Int), (m3 : Int), (m4 : Int))) := hI.out.1
        have bH := hI.out.2
        obtain ⟨ha, hc, rfl⟩ := oH.rd.slice
        have hsl := shead_len ((m0 : Int), (m1 : Int), (m2 : Int), (m3 : Int), (m4 : Int))
        have KS := hide (sumOf_any wr _ _ oH.rd (by omega))
        generalize hhd : shead ((m0 : Int), (m1 : Int), (m2 : Int), (m3 : Int), (m4 : Int)) = H at *
        replace hhd := hide hhd
        replace hsl := hide hsl
        replace oH := hide oH
        replace bH := hide bH
        clear d0 d1 d2 d3 d4 hI
        go_wp2_with fail
        refine KS.out.mono ?_
        rintro e w5 ⟨v5, rfl, o5, b5⟩
        have oA := oH.out.below (Nat.le_refl _) b5
        have bA := bH.out.trans (b5.mono bH.out.size)
        obtain ⟨Z, hZ, r5⟩ : ∃ Z, Z = oc (sum H) 4 ∧ Rd w5 v5 Z := ⟨_, rfl, o5.rd⟩
        have hzl : Z.length = 4 := by rw [hZ, oc_length]
        have hl : H.length + Z.length ≤ 140737488355328 := by rw [hzl, hsl.out]; omega
        have hsz := bA.size
        obtain ⟨hb, hd, rfl⟩ := r5.slice
        replace hZ := hide hZ
        replace hzl := hide hzl
        clear o5 b5 KS
        have hzr : ∀ v6 w6, OwnB w1.heap.size w6 v6 (H ++ Z) → Below w1.heap.size w5 w6 → ∃ v7 w7, (Builtin.append_ #[24, 3] 24 #[v6, .int .i64 16]).run Try.prog w6 = .ok v7 w7 ∧ OwnB w1.heap.size w7 v7 (H ++ Z ++ List.replicate 16 0) ∧ Below w1.heap.size w1 w7 := fun v6 w6 o6 b6 => by
          have bB := bA.trans b6
          have hl6 : (H ++ Z).length = 48 := by rw [List.length_append, hzl.out, hsl.out]
          obtain ⟨v7, w7, hr7, o7, gr7⟩ := run_append_zeros w6 24 o6 16 (by omega) bB.size
          exact ⟨v7, w7, hr7, o7, bB.grown gr7 (by exact bB.size) o6.from⟩
        replace hzr := hide hzr
        go_wp2_with (first
          | (at_builtin; refine wpList_append_octs rfl _ _ rfl w1.heap.size _ _ _ _ rfl rfl oA r5 hl hsz ?_; intro v6 w6 o6 b6 _; obtain ⟨v7, w7, hr7, o7, b7⟩ := hzr.out v6 w6 o6 b6)
          | (at_builtin; refine Lib.wpList_append_run _ rfl _ _ _ _ rfl _ _ rfl rfl _ _ hr7 ?_))
        go_ret2
        refine ⟨_, rfl, ?_, c1.out.trans (b7.mono c1.out.size)⟩
        unfold sencO
        rw [hhd.out, ← hZ.out]
        exact o7.mono c1.out.size
  · have KC := fun u => pcheck_any u b
    rw [scheck_no hok] at KC
    rw [senc_no hok]
    obtain ⟨n0, n1, n2, n3, n4⟩ := b
    dsimp only at KC ⊢
    replace KC := hide KC
    clear hok
    obtain ⟨X, hX, X0, bX, sX⟩ := boxedN w #[.int .i64 n0, .int .i64 n1, .int .i64 n2, .int .i64 n3, .int .i64 n4] 28
    obtain ⟨⟨d0, d1, d2, d3, d4⟩, _⟩ := cells5 X0
    rw [hX] at d0 d1 d2 d3 d4
    go_enter Try.func8, Try.ntmps8
    go_wp2_with fail
    rw [← hX]
    clear d0 d1 d2 d3 d4
    replace hX := hide hX
    refine (KC.out X).mono ?_
    rintro e w1 ⟨rfl, b1⟩
    go_wp2
    go_ret2
    exact ⟨_, rfl, World.ownsRow_nil _ _ _ _, bX.trans (b1.mono bX.size)⟩

end Go.Proofs.Ytpebgepjohlklaa
