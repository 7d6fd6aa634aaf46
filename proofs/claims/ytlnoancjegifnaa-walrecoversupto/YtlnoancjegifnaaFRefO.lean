/-
  The contract of the page's Open of frames.
-/
import Derived.Deep.RegionWith
import Derived.Test.YtlnoancjegifnaaFRef
import Derived.Test.YtlnoancjegifnaaRCop
namespace Go.Proofs.Ytlnoancjegifnaa
open Go.RowKit
set_option linter.unusedVariables false

/-- a struct of two cells, handed back with two numbers -/
theorem _root_.Go.Proofs.Ytlnoancjegifnaa.Rd.drew {w : World} {v : Value} {xs : List UInt8} (h : Rd w v xs) : Rd w.drew v xs := by
  obtain ⟨ao, cap, rfl, h1, h2, h3, h4⟩ := h
  exact ⟨ao, cap, rfl, h1, h2, h3, h4⟩
theorem ret_frame {P : Program} {fn : Func} {R : Ending → World → Prop} {a : Act} {w : World} {p u1 u2 : Tmp} {ty : TypeId} (h : fn.results = #[.cell p ty, .tmp u1, .tmp u2]) (hd : a.defers = []) (g : Nat) (hp : a.tmps.getD p undef = .pointer (some ⟨g, 0, none⟩))
    (x y : Value) (t : TypeId) (fr : Nat × Nat) (hg : w.heap[g]? = some (.cells #[x, y] t fr)) (d : TypeDesc) (hu : P.underlying ty = some d) (hr : (match d with | .struct _ | .array _ _ => true | _ => false) = true) (hi : (P.info? ty).map (·.size) = some 2)
    (v1 v2 : Value) (e1 : a.tmps.getD u1 undef = v1) (e2 : a.tmps.getD u2 undef = v2) (hR : R (.returned (.tuple #[.agg #[x, y], v1, v2])) w) : bodyPost P fn R .ret a w := by
  refine bodyPost_ret (v := .tuple #[.agg #[x, y], v1, v2]) ?_ hd hR
  have hp' : a.tmps[p]?.getD undef = .pointer (some ⟨g, 0, none⟩) := by simpa using hp
  have e1' : a.tmps[u1]?.getD undef = v1 := by simpa using e1
  have e2' : a.tmps[u2]?.getD undef = v2 := by simpa using e2
  simp [results, h, hp', e1', e2', asAddr, run_loadVar_row w g t ty #[x, y] fr d hg hu hr hi]

theorem wr4 (n : Nat) (h : n ≤ 4096) : wrap64 ((n : Int) + 4) = (n : Int) + 4 ∧ wrap64 ((n : Int) + 8) = (n : Int) + 8 ∧ IntKind.i64.wrap ((n : Int) + 4) = (n : Int) + 4 ∧ IntKind.i64.wrap ((n : Int) + 8) = (n : Int) + 8 := by
  refine ⟨IntWalk.wrap64_in _ (by omega), IntWalk.wrap64_in _ (by omega), ?_, ?_⟩
  · rw [IntKind.wrap_i64]; omega
  · rw [IntKind.wrap_i64]; omega
theorem frame_info : (Try.prog.info? 77).map (·.size) = some 2 := by kernel_rfl

theorem told_int (b : List UInt8) (h : 8 ≤ b.length) : bits .or .i64 (bt b 2 * 256) (bt b 3) = ((ftold b : Nat) : Int) ∧ ftold b < 65536 := by
  have e : ftold b = (b.getD 2 0).toNat * 256 + (b.getD 3 0).toNat := by
    unfold ftold numOf
    have hl : ((b.drop 2).take 2).length = 2 := by simp; omega
    rw [hl]
    simp only [numTo]
    have g : ∀ i, i < 2 → ((b.drop 2).take 2).getD i 0 = b.getD (2 + i) 0 := by
      intro i hi
      simp [List.getD_eq_getElem?_getD, hi]
    rw [g 0 (by decide), g 1 (by decide)]
    show (0 * 256 + (b.getD 2 0).toNat) * 256 + (b.getD 3 0).toNat = _
    omega
  have h2 := (b.getD 2 0).toNat_lt
  have h3 := (b.getD 3 0).toNat_lt
  refine ⟨?_, by omega⟩
  unfold bt
  rw [e, show ((b.getD 2 0).toNat : Int) * 256 = (((b.getD 2 0).toNat * 256 : Nat) : Int) from by rw [Int.natCast_mul]; rfl]
  generalize (b.getD 2 0).toNat = p at *
  generalize (b.getD 3 0).toNat = q at *
  have key : (BitVec.ofInt 64 ((p * 256 : Nat) : Int) ||| BitVec.ofInt 64 (q : Int)).toNat = p * 256 + q := by
    rw [BitVec.toNat_or, BitVec.ofInt_natCast, BitVec.ofInt_natCast, BitVec.toNat_ofNat, BitVec.toNat_ofNat, Nat.mod_eq_of_lt (by omega), Nat.mod_eq_of_lt (by omega)]
    exact nat_join 8 (p * 256) q (by simp) (by omega)
  show IntKind.i64.wrap (((BitVec.ofInt 64 ((p * 256 : Nat) : Int) ||| BitVec.ofInt 64 (q : Int)).toNat : Nat) : Int) = _
  rw [key, IntKind.wrap_i64]
  omega

set_option maxRecDepth 100000 in
set_option maxHeartbeats 1000000 in
theorem ropen_any (w : World) (v : Value) (b : List UInt8) (hrd : Rd w v b) (hm : b.length ≤ 1000000000000000) :
    Calls Try.prog 61 #[v] w fun e w' => ∃ sv, e = .returned (.tuple #[.agg #[.int .u8 ((fopen b).2.1.1.toNat : Int), sv], .int .i64 ((fopen b).2.2 : Nat), .int .i64 ((fopen b).1 : Nat)]) ∧ OwnB w.heap.size w' sv (fopen b).2.1.2 ∧ Below w.heap.size w w' := by
  obtain ⟨ao, cap, rfl⟩ := hrd.slice
  have hz := heap_alloc_last w (.cells #[.int .u8 0, .slice none 0 0] 77)
  have hb1 : Below w.heap.size w (w.alloc (.cells #[.int .u8 0, .slice none 0 0] 77)) := (Below.refl _ _).alloc (Nat.le_refl _) _
  by_cases h1 : b.length < 8
  · have hq : (b.length : Int) < 8 := by omega
    have hF : Hid (fopen b = (8, (0, []), 0)) := by show _ = _; unfold fopen; rw [if_pos h1]
    go_enter Try.func61, Try.ntmps61
    go_wp2
    refine ret_frame rfl rfl w.heap.size rfl _ _ _ _ hz _ Try.underlying77 rfl frame_info _ _ rfl rfl ?_
    rw [hF.out]
    exact ⟨_, rfl, World.ownsRow_nil _ _ _ _, hb1⟩
  have hq : ¬ (b.length : Int) < 8 := by omega
  obtain ⟨a1, c1, e1, l1, m1, n1, r1⟩ := hrd.to hb1
  cases e1
  rcases r1 with r1 | ⟨b1, o1, rfl, hc1⟩
  · rw [r1] at h1; simp at h1
  have t0 := hc1 0 (by omega)
  have t1 := hc1 1 (by omega)
  have t2 := hc1 2 (by omega)
  have t3 := hc1 3 (by omega)
  have q1 : (1 : Int) < (b.length : Int) := by omega
  have q2 : (2 : Int) < (b.length : Int) := by omega
  have q3 : (3 : Int) < (b.length : Int) := by omega
  have q0 : (0 : Int) < (b.length : Int) := by omega
  have v2 := bt_bd b 2
  have v3 := bt_bd b 3
  obtain ⟨hn, hn2⟩ := told_int b (by omega)
  obtain ⟨W, hW⟩ : ∃ W, W = w.alloc (.cells #[.int .u8 0, .slice none 0 0] 77) := ⟨_, rfl⟩
  rw [← hW] at hb1 t0 t1 t2 t3 hz hc1
  replace hc1 := hide hc1
  simp only [Nat.add_zero] at t0
  have cz0 : W.cell? ⟨w.heap.size, 0, none⟩ = some (.int .u8 0) := by rw [cell_of_row _ _ 0 _ _ (0, 0) hz]; rfl
  have cz1 : W.cell? ⟨w.heap.size, 1, none⟩ = some (.slice none 0 0) := by rw [cell_of_row _ _ 1 _ _ (0, 0) hz]; rfl
  have fz0 : W.frozen? ⟨w.heap.size, 0, none⟩ = false := frozen_of_row W w.heap.size 0 _ _ hz
  have fz1 : W.frozen? ⟨w.heap.size, 1, none⟩ = false := frozen_of_row W w.heap.size 1 _ _ hz
  by_cases h2 : b.getD 0 0 ≠ 167
  · have hF : Hid (fopen b = (22, (0, []), 0)) := by show _ = _; unfold fopen; rw [if_neg h1, if_pos h2]
    have hd : (bt b 0 != 167) = true := by
      simp only [bne_iff_ne]
      intro e; apply h2; unfold bt at e
      exact UInt8.toNat_inj.1 (show (b.getD 0 0).toNat = 167 by omega)
    go_enter Try.func61, Try.ntmps61
    go_wp2
    rw [← hW]
    replace hW := hide hW
    go_quiet (fail)
    go_wp2
    refine ret_frame rfl rfl w.heap.size rfl _ _ _ _ (heap_set2 (u := W.drewN nq) hz _ _) _ Try.underlying77 rfl frame_info _ _ rfl rfl ?_
    rw [hF.out]
    exact ⟨_, rfl, World.ownsRow_nil _ _ _ _, below_set2 (hb1.trans (below_drewN' _ _ _)) (Nat.le_refl _) _ _⟩
  have hd : (bt b 0 != 167) = false := by
    have : b.getD 0 0 = 167 := Decidable.not_not.1 h2
    unfold bt; rw [this]; rfl
  by_cases h3 : 4096 < ftold b
  · have hF : Hid (fopen b = (5, (0, []), 0)) := by show _ = _; unfold fopen; rw [if_neg h1, if_neg h2, if_pos h3]
    have hd3 : (4096 : Int) < (ftold b : Int) := by omega
    go_enter Try.func61, Try.ntmps61
    go_wp2
    rw [← hW]
    replace hW := hide hW
    go_quiet (fail)
    go_wp2
    refine ret_frame rfl rfl w.heap.size rfl _ _ _ _ (heap_set2 (u := W.drewN nq) hz _ _) _ Try.underlying77 rfl frame_info _ _ rfl rfl ?_
    rw [hF.out]
    exact ⟨_, rfl, World.ownsRow_nil _ _ _ _, below_set2 (hb1.trans (below_drewN' _ _ _)) (Nat.le_refl _) _ _⟩
  have hd3 : ¬ (4096 : Int) < (ftold b : Int) := by omega
  by_cases h4 : b.length < ftold b + 8
  · have hF : Hid (fopen b = (8, (0, []), 0)) := by show _ = _; unfold fopen; rw [if_neg h1, if_neg h2, if_neg h3, if_pos h4]
    have hd4 : (b.length : Int) < (ftold b : Int) + 8 := by omega
    go_enter Try.func61, Try.ntmps61
    go_wp2
    rw [← hW]
    replace hW := hide hW
    go_quiet (fail)
    go_wp2
    refine ret_frame rfl rfl w.heap.size rfl _ _ _ _ (heap_set2 (u := W.drewN nq) hz _ _) _ Try.underlying77 rfl frame_info _ _ rfl rfl ?_
    rw [hF.out]
    exact ⟨_, rfl, World.ownsRow_nil _ _ _ _, below_set2 (hb1.trans (below_drewN' _ _ _)) (Nat.le_refl _) _ _⟩
  have hd4 : ¬ (b.length : Int) < (ftold b : Int) + 8 := by omega
  obtain ⟨n, hne⟩ : ∃ n, ftold b = n := ⟨_, rfl⟩
  rw [hne] at hn hd3 hd4 h3 h4
  have hR := (Rd.to hrd hb1)
  have rN : Rd W (.slice (some ⟨b1, o1 + (n + 4), none⟩) 4 (cap - (n + 4))) ((b.drop (n + 4)).take 4) := by
    have := (rd_sub hR (q := n + 4) (to := n + 8) (by omega) (by omega)).1
    rw [List.drop_take, show n + 8 - (n + 4) = 4 from by omega] at this
    simpa [Addr.add] using this
  have rS : Rd W (.slice (some ⟨b1, o1, none⟩) (n + 4) cap) (b.take (n + 4)) := by
    have := (rd_sub hR (q := 0) (to := n + 4) (by omega) (by omega)).1
    simpa [Addr.add] using this
  have kN : ∀ u, Rd u (.slice (some ⟨b1, o1 + (n + 4), none⟩) 4 (cap - (n + 4))) ((b.drop (n + 4)).take 4) → Calls Try.prog 66 #[.slice (some ⟨b1, o1 + (n + 4), none⟩) 4 (cap - (n + 4))] u fun e w' => e = .returned (.int .u64 (numOf ((b.drop (n + 4)).take 4) : Nat)) ∧ w' = u :=
    fun u h => (refNumber_any u _ _ h (by simp; omega)).mono fun e w' h => ⟨h.1, h.2.symm⟩
  have kS : ∀ u, Rd u (.slice (some ⟨b1, o1, none⟩) (n + 4) cap) (b.take (n + 4)) → Calls Try.prog 53 #[.slice (some ⟨b1, o1, none⟩) (n + 4) cap] u fun e w' => e = .returned (.int .u32 (sum (b.take (n + 4)) : Nat)) ∧ w' = u :=
    fun u h => (psum_any u _ _ h (by simp; omega)).mono fun e w' h => ⟨h.1, h.2.symm⟩
  have x1 : (n : Int) + 4 ≤ (n : Int) + 8 := by omega
  have x2 : (n : Int) + 8 ≤ (cap : Int) := by omega
  have x3 : (n : Int) + 4 ≤ (cap : Int) := by omega
  have x4 : ¬ cap = n + 4 := by omega
  have hsl := sum_lt (b.take (n + 4))
  have hwr : IntKind.u64.wrap ((sum (b.take (n + 4)) : Nat) : Int) = ((sum (b.take (n + 4)) : Nat) : Int) := by unfold M32 at hsl; rw [IntKind.wrap_u64]; omega
  by_cases h5 : numOf ((b.drop (n + 4)).take 4) ≠ sum (b.take (n + 4))
  · have hF : Hid (fopen b = (21, (0, []), 0)) := by show _ = _; unfold fopen; rw [hne, if_neg h1, if_neg h2, if_neg h3, if_neg h4, if_pos h5]
    have hd5 : (((numOf ((b.drop (n + 4)).take 4) : Nat) : Int) != ((sum (b.take (n + 4)) : Nat) : Int)) = true := by
      simp only [bne_iff_ne]; omega
    generalize numOf ((b.drop (n + 4)).take 4) = N at *
    generalize sum (b.take (n + 4)) = S at *
    go_enter Try.func61, Try.ntmps61
    go_wp2
    rw [← hW]
    replace hW := hide hW
    go_quiet (fail)
    go_wp2
    obtain ⟨W2, hW2⟩ : ∃ W2, W2 = W.drewN nq := ⟨_, rfl⟩
    rw [← hW2]
    replace rN := rN.drewN nq
    replace rS := rS.drewN nq
    rw [← hW2] at rN rS
    have dz0 : W2.cell? ⟨w.heap.size, 0, none⟩ = some (.int .u8 0) := by rw [hW2]; exact cz0
    have dz1 : W2.cell? ⟨w.heap.size, 1, none⟩ = some (.slice none 0 0) := by rw [hW2]; exact cz1
    have gz0 : W2.frozen? ⟨w.heap.size, 0, none⟩ = false := by rw [hW2]; exact fz0
    have gz1 : W2.frozen? ⟨w.heap.size, 1, none⟩ = false := by rw [hW2]; exact fz1
    have hz2 : W2.heap[w.heap.size]? = some (.cells #[.int .u8 0, .slice none 0 0] 77 (0, 0)) := by rw [hW2]; exact hz
    have hb2 : Below w.heap.size w W2 := by rw [hW2]; exact hb1.trans (below_drewN' _ _ _)
    clear cz0 cz1 fz0 fz1 hz hb1 hW2
    have RN := hide rN
    have RS := hide rS
    clear rN rS hR hrd
    have KN := hide kN
    have KS := hide kS
    clear kN kS
    go_quiet (first | (go_at_call 66; exact Calls.quiet_of_same (KN.out _ (RN.out.drewN _))) | (go_at_call 53; exact Calls.quiet_of_same (KS.out _ (RS.out.drewN _))))
    go_wp2
    refine ret_frame rfl rfl w.heap.size rfl _ _ _ _ (heap_set2 (u := W2.drewN _) hz2 _ _) _ Try.underlying77 rfl frame_info _ _ rfl rfl ?_
    rw [hF.out]
    exact ⟨_, rfl, World.ownsRow_nil _ _ _ _, below_set2 (hb2.trans (below_drewN' _ _ _)) (Nat.le_refl _) _ _⟩
  have hF : Hid (fopen b = (0, (b.getD 1 0, (b.drop 4).take n), n + 8)) := by show _ = _; unfold fopen; rw [hne, if_neg h1, if_neg h2, if_neg h3, if_neg h4, if_neg h5]
  have hd5 : (((numOf ((b.drop (n + 4)).take 4) : Nat) : Int) != ((sum (b.take (n + 4)) : Nat) : Int)) = false := by
    rw [Decidable.not_not.1 h5]; simp
  have rC : Rd W (.slice (some ⟨b1, o1 + 4, none⟩) n (cap - 4)) ((b.drop 4).take n) := by
    have := (rd_sub hR (q := 4) (to := n + 4) (by omega) (by omega)).1
    rw [List.drop_take, show n + 4 - 4 = n from by omega] at this
    simpa [Addr.add] using this
  have x5 : (4 : Int) ≤ (n : Int) + 4 := by omega
  have x6 : ¬ cap = 4 := by omega
  have T1 := hide t1
  · generalize numOf ((b.drop (n + 4)).take 4) = N at *
    generalize sum (b.take (n + 4)) = S at *
    go_enter Try.func61, Try.ntmps61
    go_wp2
    rw [← hW]
    replace hW := hide hW
    go_quiet (fail)
    go_wp2
    obtain ⟨W2, hW2⟩ : ∃ W2, W2 = W.drewN nq := ⟨_, rfl⟩
    rw [← hW2]
    replace rN := rN.drewN nq
    replace rS := rS.drewN nq
    rw [← hW2] at rN rS
    have dz0 : W2.cell? ⟨w.heap.size, 0, none⟩ = some (.int .u8 0) := by rw [hW2]; exact cz0
    have dz1 : W2.cell? ⟨w.heap.size, 1, none⟩ = some (.slice none 0 0) := by rw [hW2]; exact cz1
    have gz0 : W2.frozen? ⟨w.heap.size, 0, none⟩ = false := by rw [hW2]; exact fz0
    have gz1 : W2.frozen? ⟨w.heap.size, 1, none⟩ = false := by rw [hW2]; exact fz1
    have hz2 : W2.heap[w.heap.size]? = some (.cells #[.int .u8 0, .slice none 0 0] 77 (0, 0)) := by rw [hW2]; exact hz
    have hb2 : Below w.heap.size w W2 := by rw [hW2]; exact hb1.trans (below_drewN' _ _ _)
    have s1 : W2.cell? ⟨b1, o1 + 1, none⟩ = some (.int .u8 (bt b 1)) := by rw [hW2]; exact T1.out
    replace rC := rC.drewN nq
    rw [← hW2] at rC
    have RC := hide rC
    clear rC T1
    clear cz0 cz1 fz0 fz1 hz hb1 hW2
    have RN := hide rN
    have RS := hide rS
    clear rN rS hR hrd
    have KN := hide kN
    have KS := hide kS
    clear kN kS
    go_quiet (first | (go_at_call 66; exact Calls.quiet_of_same (KN.out _ (RN.out.drewN _))) | (go_at_call 53; exact Calls.quiet_of_same (KS.out _ (RS.out.drewN _))))
    go_wp2
    obtain ⟨W4, hW4⟩ : ∃ W4, W4 = W2.drewN nq := ⟨_, rfl⟩
    rw [← hW4]
    have u1 : W4.cell? ⟨b1, o1 + 1, none⟩ = some (.int .u8 (bt b 1)) := by rw [hW4]; exact s1
    have dz0' : W4.cell? ⟨w.heap.size, 0, none⟩ = some (.int .u8 0) := by rw [hW4]; exact dz0
    have dz1' : W4.cell? ⟨w.heap.size, 1, none⟩ = some (.slice none 0 0) := by rw [hW4]; exact dz1
    have hz4 : W4.heap[w.heap.size]? = some (.cells #[.int .u8 0, .slice none 0 0] 77 (0, 0)) := by rw [hW4]; exact hz2
    have hb4 : Below w.heap.size w W4 := by rw [hW4]; exact hb2.trans (below_drewN' _ _ _)
    have rc : Rd W4 (.slice (some ⟨b1, o1 + 4, none⟩) n (cap - 4)) ((b.drop 4).take n) := by rw [hW4]; exact RC.out.drewN _
    have hgl : w.heap.size < W4.heap.size := cell_lt dz0'
    have KEEP : Hid (∀ w5, Below W4.drew.heap.size W4.drew w5 → w5.cell? ⟨b1, o1 + 1, none⟩ = some (.int .u8 (bt b 1)) ∧ w5.cell? ⟨w.heap.size, 0, none⟩ = some (.int .u8 0) ∧ w5.cell? ⟨w.heap.size, 1, none⟩ = some (.slice none 0 0) ∧ w5.frozen? ⟨w.heap.size, 0, none⟩ = false ∧ w5.frozen? ⟨w.heap.size, 1, none⟩ = false ∧ w5.heap[w.heap.size]? = some (.cells #[.int .u8 0, .slice none 0 0] 77 (0, 0)) ∧ Below w.heap.size w w5) := by
      intro w5 hb
      have hg5 : w5.heap[w.heap.size]? = some (.cells #[.int .u8 0, .slice none 0 0] 77 (0, 0)) := (hb.block w.heap.size hgl).trans hz4
      exact ⟨(hb.cell (p := ⟨b1, o1 + 1, none⟩) (cell_lt u1)).trans u1, (hb.cell (p := ⟨w.heap.size, 0, none⟩) hgl).trans dz0', (hb.cell (p := ⟨w.heap.size, 1, none⟩) hgl).trans dz1', frozen_of_row _ _ 0 _ _ hg5, frozen_of_row _ _ 1 _ _ hg5, hg5,
        (below_drew hb4).trans (hb.mono hb4.size)⟩
    have HG : Hid (w.heap.size < W4.drew.heap.size) := hgl
    have HL : Hid (w.heap.size ≤ W4.drew.heap.size) := Nat.le_of_lt hgl
    have hcp : ((b.drop 4).take n).length ≤ 140737488355328 := by simp; omega
    have RCC := hide rc.drew
    clear s1 dz0 dz1 gz0 gz1 hz2 hb2 RC rc hW4 dz0' dz1' hz4 hb4 hgl RN RS KN KS
    have y1 : (4 : Int) ≤ (cap : Int) := by omega
    have y2 : (0 : Int) ≤ (n : Int) + 4 := by omega
    have y3 : ((n : Int) + 4).toNat = n + 4 := by omega
    obtain ⟨z1, z2, z3, z4⟩ := wr4 n (by omega)
    go_region_with (go_at_call 37; refine (rcopied_any _ _ _ RCC.out hcp).mono ?_; rintro e w5 ⟨v5, rfl, o5, b5⟩; obtain ⟨k1, k2, k3, k4, k5, k6, k7⟩ := KEEP.out w5 b5; obtain ⟨ao5, cap5, rfl⟩ := o5.rd.slice)
    all_goals
      have e5 : ((b.drop 4).take n).length = min n (b.length - 4) := by simp
      rw [e5] at o5
      have o6 := hide (own_set (own_set o5 (g := w.heap.size) HG.out 0 (.int .u8 (bt b 1))) (g := w.heap.size) HG.out 1 (.slice ao5 (min n (b.length - 4)) cap5))
      have K6 := hide k6
      have K7 := hide k7
      clear o5 k1 k2 k3 k4 k5 k6 k7 KEEP RCC b5 e5
      go_wp2
      refine ret_frame rfl rfl w.heap.size rfl _ _ _ _ (heap_set2 K6.out _ _) _ Try.underlying77 rfl frame_info _ _ rfl rfl ?_
      rw [hF.out]
      exact ⟨_, rfl, o6.out.mono HL.out, below_set2 K7.out (Nat.le_refl _) _ _⟩

end Go.Proofs.Ytlnoancjegifnaa
