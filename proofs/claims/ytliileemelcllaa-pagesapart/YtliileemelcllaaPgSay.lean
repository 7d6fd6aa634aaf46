/-
  What the program's pages say (proved apart), the law's num, and its 'alive'.
-/
import Derived.Test.YtliileemelcllaaPgDiskR
import Derived.Test.YtliileemelcllaaDRenew
namespace Go.Proofs.Ytliileemelcllaa
open Go.RowKit
set_option linter.unusedVariables false

structure PagesSay : Prop where
  encS : ∀ (w : World) (id : Int) (v : Value) (d : List UInt8), Rd w v d → (-9223372036854775808 ≤ id ∧ id ≤ 9223372036854775807) → d.length ≤ 140737488351232 →
    Calls Try.prog 10 #[.int .i64 id, v] w fun e w' => ∃ v', e = .returned (.tuple #[v', .int .i64 (pgenc id d).2]) ∧ OwnB w.heap.size w' v' (pgenc id d).1 ∧ Below w.heap.size w w'
  decS : ∀ (w : World) (v : Value) (x : List UInt8), Rd w v x → x.length ≤ 140737488351232 →
    Calls Try.prog 12 #[v] w fun e w' => ∃ v', e = .returned (.tuple #[.int .i64 (pgdec x).1, v', .int .i64 (pgdec x).2.2]) ∧ OwnB w.heap.size w' v' (pgdec x).2.1 ∧ Below w.heap.size w w'
  writeS : ∀ (w : World) (sv cv v : Value) (d : Dsk) (at' id : Int) (x : List UInt8), RdSec w sv d.1 → RdC w cv d.2 → Rd w v x → (-9223372036854775808 ≤ at' ∧ at' ≤ 9223372036854775807) → (-9223372036854775808 ≤ id ∧ id ≤ 9223372036854775807) → x.length ≤ 140737488351232 →
    Calls Try.prog 18 #[.agg #[sv, cv], .int .i64 at', .int .i64 id, v] w fun e w' => ∃ sv' cv', e = .returned (.tuple #[.agg #[sv', cv'], .int .i64 (pgwrite d at' id x).2]) ∧ Own SStP w.heap.size w' [sv', cv'] (pgwrite d at' id x).1 ∧ Below w.heap.size w w'
  readS : ∀ (w : World) (sv cv : Value) (d : Dsk) (at' id : Int), RdSec w sv d.1 → RdC w cv d.2 → (-9223372036854775808 ≤ at' ∧ at' ≤ 9223372036854775807) → (-9223372036854775808 ≤ id ∧ id ≤ 9223372036854775807) →
    Calls Try.prog 20 #[.agg #[sv, cv], .int .i64 at', .int .i64 id] w fun e w' => ∃ v', e = .returned (.tuple #[v', .int .i64 (pgread d at' id).2]) ∧ OwnB w.heap.size w' v' (pgread d at' id).1 ∧ Below w.heap.size w w'
set_option maxRecDepth 100000 in
theorem num7_any (w : World) (n : Int) : Calls Try.prog 15 #[.int .i64 n] w fun e w' => e = .returned (.int .i64 n) ∧ w = w' := by
  go_enter Try.func15, Try.ntmps15
  go_wp2
  go_ret
  exact ⟨rfl, rfl⟩
theorem pg_first : ∃ rest, pgencO 7 [120] = [112, 103, 0, 1, 0, 0, 0, 7] ++ rest := ⟨_, by rw [pg_shape]; rfl⟩
theorem pg_bt : bt (pgencO 7 [120]) 0 = 112 ∧ bt (pgencO 7 [120]) 3 = 1 ∧ bt (pgencO 7 [120]) 7 = 7 := by
  obtain ⟨r, h⟩ := pg_first
  rw [h]
  exact ⟨rfl, rfl, rfl⟩
set_option maxRecDepth 100000 in
set_option maxHeartbeats 2000000 in
theorem pgalive_any (S : PagesSay) (w : World) : Calls Try.prog 16 #[] w fun e w' => e = .returned (.bool true) ∧ Below w.heap.size w w' := by
  obtain ⟨u, hu⟩ : ∃ u, u = w.alloc (.cells #[.int .u8 120] 5) := ⟨_, rfl⟩
  have hr : Rd (u.freeze ⟨w.heap.size, 1, none⟩ 1) (.slice (some ⟨w.heap.size, 0, none⟩) 1 1) [120] :=
    Rd.freeze (by rw [hu]; exact rd_lit w [120] _ _ _ rfl rfl rfl (by decide)) _ _
  have hb0 : Below w.heap.size w u := by rw [hu]; exact (Below.refl _ _).alloc (Nat.le_refl _) _
  have hb : Below w.heap.size w (u.freeze ⟨w.heap.size, 1, none⟩ 1) := Lib.below_freeze hb0 (p := ⟨w.heap.size, 1, none⟩) (Nat.le_refl _) 1
  have hcv := conv_same u w.heap.size 1 1 5 1 (by rw [hu, World.shape?, heap_alloc_last]; rfl)
  obtain ⟨w0, hw0⟩ : ∃ x, x = u.freeze ⟨w.heap.size, 1, none⟩ 1 := ⟨_, rfl⟩
  rw [← hw0] at hr hb hcv
  rw [hu] at hcv
  replace hw0 := hide hw0
  have KE := hide (S.encS w0 7 _ [120] hr (by decide) (by decide))
  rw [pgenc_yes (id := 7) (d := [120]) (by decide) (by decide), show (7 : Int).toNat = 7 from rfl] at KE
  dsimp only at KE
  obtain ⟨t0, t3, t7⟩ := pg_bt
  obtain ⟨Y, hY⟩ : ∃ Y, Y = pgencO 7 [120] := ⟨_, rfl⟩
  have hYl : Y.length = 256 := by rw [hY]; exact pgenc_len _ (by decide)
  have hYd : pgdec Y = (7, [120], 0) := by rw [hY]; exact pgdec_enc (id := 7) (by decide) (by decide)
  rw [← hY] at KE t0 t3 t7
  clear hY hr hb0 hu
  go_enter Try.func16, Try.ntmps16
  go_wp2_with fail
  clear hcv
  refine KE.out.mono ?_
  rintro e w1 ⟨v1, rfl, o1, b1⟩
  clear KE
  obtain ⟨b, o, c, rfl, hc, hcm, hR, hC⟩ := rdN o1.rd hYl (by decide)
  have KD := hide (S.decS w1 _ Y o1.rd (by omega))
  rw [hYd] at KD
  dsimp only at KD
  have g0 := hC 0 (by decide)
  have g3 := hC 3 (by decide)
  have g7 := hC 7 (by decide)
  rw [t0, Nat.add_zero] at g0
  rw [t3] at g3
  rw [t7] at g7
  have c1 := hide (hb.trans (b1.mono hb.size))
  clear hR hC o1 hYl hYd t0 t3 t7 hb b1
  go_wp2_with fail
  refine KD.out.mono ?_
  rintro e w2 ⟨v2, rfl, o2, b2⟩
  clear KD
  have k2 := conv_rd o2.rd (by decide)
  replace g0 := (b2.cell (cell_lt g0)).trans g0
  replace g3 := (b2.cell (cell_lt g3)).trans g3
  replace g7 := (b2.cell (cell_lt g7)).trans g7
  have c2 := hide (c1.out.trans (b2.mono c1.out.size))
  obtain ⟨s2, q2, hv⟩ := o2.rd.slice
  replace hv : v2 = .slice s2 1 q2 := hv
  subst hv
  replace k2 : (convert 22 9 (.slice s2 1 q2)).run Try.prog w2 = .ok (.string ⟨#[120]⟩) w2 := k2
  clear b2 o2
  go_wp2_with fail
  refine (num7_any _ _).mono ?_
  rintro e w' ⟨rfl, rfl⟩
  go_wp2_with fail
  refine (num7_any _ _).mono ?_
  rintro e w' ⟨rfl, rfl⟩
  go_wp2
  go_ret
  exact ⟨rfl, c2.out⟩

end Go.Proofs.Ytliileemelcllaa
