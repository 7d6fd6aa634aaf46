/-
  The law's own 'alive' (the page's example of nodes) answers true; it makes memory of its own and changes none that was there.
-/
import Derived.Test.YtjkpldmmijfebaaNPH
import Derived.Test.YtjkpldmmijfebaaSame
namespace Go.Proofs.Ytjkpldmmijfebaa
open Go.RowKit
set_option linter.unusedVariables false
set_option linter.unusedSimpArgs false

def N1 : Nd := ⟨true, [[97]], [[120]], []⟩
theorem n1_ok : ncheck N1 = 0 := by decide
theorem n1_out : nout N1 = [1, 1, 1, 97, 1, 120] := by
  unfold nout; rw [if_pos n1_ok]; decide
theorem n1_read : nread [1, 1, 1, 97, 1, 120] = (N1, 0) := by decide
theorem n1_dec : ndec [1, 1, 1, 97, 1, 120] = (N1, 0) := by
  unfold ndec; rw [n1_read]; simp [n1_ok]
theorem n1_fit : nfit N1 := by unfold nfit; simp [N1]
theorem own_str1 (w : World) (x : Str) : OwnT w.heap.size (w.alloc (.cells #[st x] 9)) (.slice (some ⟨w.heap.size, 0, none⟩) 1 1) [x] := by
  have := World.ownsRow_lit (base := w.heap.size) (e := 9) (size := 1) w #[st x] 1 (Nat.le_refl _) (by unfold maxLen; omega) (by simp)
  show World.ownsRow _ _ _ _ _ _ _
  simpa using this

set_option maxRecDepth 100000 in
set_option maxHeartbeats 2000000 in
theorem alive9_any (w : World) : Calls Try.prog 15 #[] w fun e w' => e = .returned (.bool true) ∧ Below w.heap.size w w' := by
  obtain ⟨X, hX⟩ : ∃ X, X = (w.alloc (.cells #[st [97]] 9)).alloc (.cells #[st [120]] 9) := ⟨_, rfl⟩
  have bX : Below w.heap.size w X := by rw [hX]; exact ((Below.refl _ _).alloc (Nat.le_refl _) _).alloc (by simp) _
  have r1 : RdN X (.slice (some ⟨w.heap.size, 0, none⟩) 1 1) (.slice (some ⟨w.heap.size + 1, 0, none⟩) 1 1) (.slice none 0 0) N1 := by
    have h1 := rows_to (own_str1 w [97]) ((Below.refl (w.alloc (.cells #[st [97]] 9)).heap.size _).alloc (Nat.le_refl _) (.cells #[st [120]] 9))
    have h2 := own_str1 (w.alloc (.cells #[st [97]] 9)) [120]
    rw [show (w.alloc (.cells #[st [97]] 9)).heap.size = w.heap.size + 1 by simp] at h2
    rw [hX]
    exact ⟨OwnT.rd h1, OwnT.rd h2, ((OwnN.nil w.heap.size _ true).rd).kids⟩
  have KE := hide (penc_any X _ _ _ N1 r1 n1_fit)
  rw [n1_ok, n1_out] at KE
  dsimp only [nv] at KE
  rw [show N1.leaf = true from rfl] at KE
  have BX := hide bX
  clear r1 bX
  go_enter Try.func15, Try.ntmps15
  go_wp2_with fail
  rw [show (ByteArray.mk #[97]) = ⟨([97] : Str).toArray⟩ from rfl, show (ByteArray.mk #[120]) = ⟨([120] : Str).toArray⟩ from rfl]
  rw [← hX]
  replace hX := hide hX
  refine KE.out.mono ?_
  rintro e w1 ⟨v1, rfl, o1, b1⟩
  clear KE
  have KD := hide (pdec_any w1 v1 _ o1.rd)
  rw [n1_dec] at KD
  dsimp only [nv] at KD
  rw [show N1.leaf = true from rfl] at KD
  have O1 := hide o1
  obtain ⟨a1, c1, hv1⟩ := o1.rd.slice
  change v1 = .slice a1 6 c1 at hv1
  subst hv1
  have B1 := hide (BX.out.trans (b1.mono BX.out.size))
  clear o1 b1
  go_wp2_with fail
  refine KD.out.mono ?_
  rintro e w2 ⟨kv, vv, dv, rfl, o2, b2⟩
  clear KD
  obtain ⟨ak, ck, av, cv, ad, cd, hk, hv, hd⟩ := o2.rd.slices
  change kv = .slice ak 1 ck at hk
  change vv = .slice av 1 cv at hv
  change dv = .slice ad 0 cd at hd
  subst hk hv hd
  have rd2 := (O1.out.below (Nat.le_refl _) b2)
  have B2 := hide (B1.out.trans (b2.mono B1.out.size))
  obtain ⟨V, hV, D, bV, sV⟩ := boxedN w2 #[.bool true, .slice ak 1 ck, .slice av 1 cv, .slice ad 0 cd] 26
  obtain ⟨⟨N0, N1', N2, N3⟩, _⟩ := cells4 D
  have rl : ∀ U : World, Rd (U.alloc (.cells #[.int .u8 1, .int .u8 1, .int .u8 1, .int .u8 97, .int .u8 1, .int .u8 120] 5)) (.slice (some ⟨U.heap.size, 0, none⟩) 6 6) [1, 1, 1, 97, 1, 120] := fun U => rd_lit U [1, 1, 1, 97, 1, 120] _ U.heap.size 6 rfl rfl rfl (by decide)
  have o3 := rd2.below (Nat.le_refl _) bV
  have b3 : Below V.heap.size V (V.alloc (.cells #[.int .u8 1, .int .u8 1, .int .u8 1, .int .u8 97, .int .u8 1, .int .u8 120] 5)) := (Below.refl _ _).alloc (Nat.le_refl _) _
  have KS := hide (same_any _ _ _ _ _ (o3.below (Nat.le_refl _) b3).rd (rl V))
  have n0 := (b3.cell (p := ⟨w2.heap.size, 0, none⟩) (cell_lt N0)).trans N0
  have n1 := (b3.cell (p := ⟨w2.heap.size, 1, none⟩) (cell_lt N1')).trans N1'
  have B4 := hide (B2.out.trans ((bV.trans (b3.mono bV.size)).mono B2.out.size))
  clear o2 b2 rd2 rl o3 D N0 N1' N2 N3 bV b3
  rw [show sameB [1, 1, 1, 97, 1, 120] [1, 1, 1, 97, 1, 120] = true from by decide] at KS
  obtain ⟨Y, hY⟩ : ∃ Y, Y = V.alloc (.cells #[.int .u8 1, .int .u8 1, .int .u8 1, .int .u8 97, .int .u8 1, .int .u8 120] 5) := ⟨_, rfl⟩
  rw [← hY] at n0 n1 B4 KS
  clear sV
  go_wp2_with fail
  rw [← hV]
  replace hV := hide hV
  refine (num9_any _ _).mono ?_
  rintro e w' ⟨rfl, rfl⟩
  go_wp2_with fail
  refine (num9_any _ _).mono ?_
  rintro e w' ⟨rfl, rfl⟩
  go_wp2_with fail
  rw [← hY]
  replace hY := hide hY
  refine KS.out.mono ?_
  rintro e w5 ⟨rfl, nn, rfl⟩
  have m0 : (Y.drewN nn).cell? ⟨w2.heap.size, 0, none⟩ = some (.bool true) := n0
  have m1 : (Y.drewN nn).cell? ⟨w2.heap.size, 1, none⟩ = some (.slice ak 1 ck) := n1
  have B5 := hide (B4.out.trans (below_drewN' Y nn w.heap.size))
  clear KS
  go_wp2
  go_ret
  exact ⟨rfl, B5.out⟩

end Go.Proofs.Ytjkpldmmijfebaa
