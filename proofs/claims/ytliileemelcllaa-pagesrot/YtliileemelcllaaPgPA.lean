/-
  Pages, the program's: the checksum as octets, and Encode.
-/
import Derived.ArgAppend
import Derived.Lib.AppendStr
import Derived.Test.YtliileemelcllaaPgEncR
import Derived.Test.YtliileemelcllaaPut
import Derived.Test.YtliileemelcllaaApp
import Derived.Test.YtliileemelcllaaBEq
namespace Go.Proofs.Ytliileemelcllaa
open Go.RowKit
set_option linter.unusedVariables false

set_option maxRecDepth 100000 in
theorem pgsumOf_any (w : World) (v : Value) (xs : List UInt8) (h : Rd w v xs) (hm : xs.length ≤ 1000) :
    Calls Try.prog 31 #[v] w fun e w' => ∃ v', e = .returned v' ∧ OwnB w.heap.size w' v' (oc (sum xs) 4) ∧ Below w.heap.size w w' := by
  obtain ⟨a, c, rfl⟩ := h.slice
  have hS := sum_lt xs
  have hws := psum64 xs
  unfold M32 at hS
  go_enter Try.func31, Try.ntmps31
  go_wp2_with fail
  refine (sum_any w _ xs h (by omega)).mono ?_
  rintro e w1 ⟨rfl, b1⟩
  have KP := hide (put_yes (sum xs) 4 w1 (by decide) (by decide) (by omega) (by omega))
  generalize hSe : sum xs = S at *
  replace hSe := hide hSe
  go_wp2_with fail
  refine KP.out.mono ?_
  rintro e w2 ⟨v2, rfl, o2, b2⟩
  go_wp2
  go_ret
  exact ⟨_, rfl, by rw [hSe.out]; exact o2.mono b1.size, b1.trans (b2.mono b1.size)⟩
theorem strCells_pg : Lib.strCells ⟨#[112, 103]⟩ = pgmark.map enc := by rfl

set_option maxRecDepth 100000 in
set_option maxHeartbeats 4000000 in
theorem pgencP_any (w : World) (id : Int) (v : Value) (d : List UInt8) (hrd : Rd w v d) :
    Calls Try.prog 10 #[.int .i64 id, v] w fun e w' => ∃ v', e = .returned (.tuple #[v', .int .i64 (pgenc id d).2]) ∧ OwnB w.heap.size w' v' (pgenc id d).1 ∧ Below w.heap.size w w' := by
  obtain ⟨i0, hi, hz0, hz1, hz2⟩ := info_parts info8
  obtain ⟨a, c, rfl⟩ := hrd.slice
  by_cases h1 : id < 0
  · rw [pgenc_range (.inl h1)]
    go_enter Try.func10, Try.ntmps10
    go_wp2
    go_ret2
    exact ⟨_, rfl, World.ownsRow_nil _ _ _ _, Below.refl _ _⟩
  · by_cases h2 : 2147483647 < id
    · rw [pgenc_range (.inr h2)]
      go_enter Try.func10, Try.ntmps10
      go_wp2
      go_ret2
      exact ⟨_, rfl, World.ownsRow_nil _ _ _ _, Below.refl _ _⟩
    · by_cases h3 : 244 < d.length
      · have hq : (244 : Int) < (d.length : Int) := by omega
        rw [pgenc_long (by omega) h3]
        go_enter Try.func10, Try.ntmps10
        go_wp2
        go_ret2
        exact ⟨_, rfl, World.ownsRow_nil _ _ _ _, Below.refl _ _⟩
      · have hq : ¬ (244 : Int) < (d.length : Int) := by omega
        rw [pgenc_yes (by omega) h3]
        obtain ⟨m, rfl⟩ : ∃ m : Nat, id = (m : Int) := ⟨id.toNat, by omega⟩
        rw [Int.toNat_natCast]
        have hm : m ≤ 2147483647 := by omega
        have hwl : IntKind.u64.wrap (d.length : Int) = (d.length : Int) := by rw [IntKind.wrap_u64]; omega
        have hwm : IntKind.u64.wrap (m : Int) = (m : Int) := by rw [IntKind.wrap_u64]; omega
        have KP1 := hide (put_yes d.length 2 w (by decide) (by decide) (by omega) (by omega))
        have KP2 := hide (fun u => put_yes m 4 u (by decide) (by decide) (by omega) (by omega))
        have gd := hide hrd
        clear hrd
        go_enter Try.func10, Try.ntmps10
        go_wp2_with fail
        refine KP1.out.mono ?_
        rintro e w1 ⟨v1, rfl, o1, b1⟩
        go_wp2_with fail
        refine (KP2.out w1).mono ?_
        rintro e w2 ⟨v2, rfl, o2, b2⟩
        clear KP1 KP2
        have c2 := b1.trans (b2.mono b1.size)
        have o1' := o1.below (Nat.le_refl _) b2
        have hle1 := c2.size
        obtain ⟨w3, hmk, own3, gr3⟩ := run_make_own (P := Try.prog) w2 w2.heap.size 22 5 i0 (.int .u8 0) 1 Try.underlying22 hi hz0 hz1 .i64 .i64 256 (by rw [hz2]; decide) (by decide) (Nat.le_refl _)
        replace hmk : (Instr.makeSlice 22 (.int .i64 0) (.int .i64 256)).run Try.prog w2 = .ok (.slice (some ⟨w2.heap.size, 0, none⟩) 0 256) w3 := hmk
        have b3 : Below w2.heap.size w2 w3 := (Below.refl _ _).grown gr3 (Nat.le_refl _) (fun k hk => by cases hk)
        have r1 := hide o1'.rd
        have r2 := hide o2.rd
        have r3 := hide (gd.out.to c2)
        have hw3 := b3.size
        have C2 := hide c2
        have l5 : pgmark.length + (oc d.length 2).length ≤ 140737488355328 := by rw [oc_length]; decide
        have l6 : (pgmark ++ oc d.length 2).length + (oc m 4).length ≤ 140737488355328 := by rw [List.length_append, oc_length, oc_length]; decide
        have e6 : (pgmark ++ oc d.length 2 ++ oc m 4).length = 8 := by rw [List.length_append, List.length_append, oc_length, oc_length]; rfl
        have l7 : (pgmark ++ oc d.length 2 ++ oc m 4).length + d.length ≤ 140737488355328 := by omega
        obtain ⟨K, hK⟩ : ∃ K, K = 8 + d.length := ⟨_, rfl⟩
        have e7 : (pgmark ++ oc d.length 2 ++ oc m 4 ++ d).length = K := by rw [List.length_append, e6, hK]
        have hKq : (K : Int) ≤ 252 := by omega
        have hz : Hid (∀ v7 w7, OwnB w2.heap.size w7 v7 (pgmark ++ oc d.length 2 ++ oc m 4 ++ d) → Below w2.heap.size w2 w7 → ∃ v8 w8, (Builtin.append_ #[22, 3] 22 #[v7, .int .i64 (252 - (K : Int))]).run Try.prog w7 = .ok v8 w8 ∧ OwnB w2.heap.size w8 v8 (pghead m d) ∧ Below w2.heap.size w2 w8) := fun v7 w7 o7 b7 => by
          obtain ⟨v8, w8, hr8, o8, gr8⟩ := run_append_zeros w7 22 o7 (244 - d.length) (by omega) b7.size
          refine ⟨v8, w8, ?_, o8, b7.grown gr8 (by exact b7.size) o7.from⟩
          rw [show (252 - (K : Int)) = ((244 - d.length : Nat) : Int) by omega]
          exact hr8
        have hpl := hide (pghead_len m (d := d) (by omega))
        replace hK := hide hK
        replace e6 := hide e6
        replace e7 := hide e7
        clear o1 o1' o2 b1 b2 c2 gd
        go_wp2_with (first
          | (at_builtin; refine Lib.wpList_append_own_string _ rfl _ _ 22 9 rfl w2.heap.size 5 i0 Try.underlying22 Try.underlying9 hi hz0 hz1 hz2 _ 0 [] rfl own3 ⟨#[112, 103]⟩ rfl (by decide) (by decide) hw3 ?_; intro v4 w4 own4 gr4 _; rw [strCells_pg] at own4; have o4 : OwnB w2.heap.size w4 v4 pgmark := own4; have b4 := b3.grown gr4 (by exact hw3) (fun k hk => (World.ownsRow.lt own3 k hk).1); clear own4 gr4)
          | (at_builtin; refine wpList_append_octs rfl _ _ rfl w2.heap.size _ _ _ _ rfl rfl o4 (r1.out.to b4) l5 b4.size ?_; intro v5 w5 o5 g5 _; have b5 := b4.trans g5)
          | (at_builtin; refine wpList_append_octs rfl _ _ rfl w2.heap.size _ _ _ _ rfl rfl o5 (r2.out.to b5) l6 b5.size ?_; intro v6 w6 o6 g6 _; have b6 := b5.trans g6)
          | (at_builtin; refine wpList_append_octs rfl _ _ rfl w2.heap.size _ _ _ _ rfl rfl o6 (r3.out.to b6) l7 b6.size ?_; intro v7 w7 o7 g7 _; obtain ⟨v8, w8, hr8, o8, b8⟩ := hz.out v7 w7 o7 (b6.trans g7); obtain ⟨ha, hc, hv⟩ := o7.rd.slice; rw [e7.out] at hv; subst hv; clear o4 o5 o6 o7 g5 g6 g7 b4 b5 b6)
          | (at_builtin; refine Lib.wpList_append_run _ rfl _ _ _ _ rfl _ _ rfl rfl _ _ hr8 ?_))
        clear hr8 hmk own3 gr3 b3 hw3 hz r1 r2 r3 l5 l6 l7
        have KS := hide (pgsumOf_any w8 _ _ o8.rd (by rw [hpl.out]; decide))
        refine KS.out.mono ?_
        rintro e w9 ⟨v9, rfl, o9, b9⟩
        clear KS
        have oA := o8.below (Nat.le_refl _) b9
        have bA := b8.trans (b9.mono b8.size)
        have lA : (pghead m d).length + (oc (sum (pghead m d)) 4).length ≤ 140737488355328 := by rw [hpl.out, oc_length]; decide
        go_wp2_with (at_builtin; refine wpList_append_octs rfl _ _ rfl w2.heap.size _ _ _ _ rfl rfl oA o9.rd lA bA.size ?_; intro v10 w10 o10 g10 _)
        go_ret2
        exact ⟨_, rfl, by unfold pgencO; exact o10.mono C2.out.size, C2.out.trans ((bA.trans g10).mono C2.out.size)⟩

end Go.Proofs.Ytliileemelcllaa
