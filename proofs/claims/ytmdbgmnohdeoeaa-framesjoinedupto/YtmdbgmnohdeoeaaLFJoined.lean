/-
  PROVED: whatever two texts come in (together at most 1048576 octets: the second form), transeptlaw03.FramesJoined returns true and leaves both as they were: the statement of P3.2 (what is scanned of two texts, one behind the other).
-/
import Derived.Test.YtmdbgmnohdeoeaaFrF
import Derived.Test.YtmdbgmnohdeoeaaFAlive
import Derived.Test.YtmdbgmnohdeoeaaFProg
namespace Go.Proofs.Ytmdbgmnohdeoeaa.framesJoined
open Go.ChangeShapes Go.WideShapes Go.ChangeAt Go.RowKit
set_option linter.unusedVariables false

set_option maxHeartbeats 2000000 in
theorem walkS (S : FramesSay) (w : World) (a0 : Option Addr) (len0 cap0 : Nat) (x0 : List UInt8) (e0 : x0.length = len0) (g0 : Rd w (.slice a0 len0 cap0) x0) (m0 : len0 ≤ 1048576) (a1 : Option Addr) (len1 cap1 : Nat) (x1 : List UInt8) (e1 : x1.length = len1) (g1 : Rd w (.slice a1 len1 cap1) x1) (m1 : len1 ≤ 1048576) :
    Calls Try.prog 8 #[.slice a0 len0 cap0, .slice a1 len1 cap1] w fun e w' => e = .returned (.bool true) ∧ Below w.heap.size w w' := by
  have hm0 : x0.length ≤ 1048576 := by rw [e0]; exact m0
  have hm1 : x1.length ≤ 1048576 := by rw [e1]; exact m1
  replace e0 := hide e0
  replace e1 := hide e1
  go_enter Try.func8, Try.ntmps8
  go_wp2_with fail
  refine (falive_any S w).mono ?_
  rintro e w1 ⟨rfl, cc⟩
  replace g0 := g0.to cc
  replace g1 := g1.to cc
  go_wp2_with fail
  refine (S.scanS _ _ x0 g0 (by omega)).mono ?_
  rintro e w2 ⟨v2, fs, p, rfl, s1, o2, b2⟩
  have r2 := o2.rd
  clear o2
  replace g0 := g0.to b2
  replace g1 := g1.to b2
  replace cc := cc.trans (b2.mono cc.size)
  clear b2
  go_wp2_with fail
  refine (S.scanS _ _ x1 g1 (by omega)).mono ?_
  rintro e w3 ⟨v3, gs, q, rfl, s2, o3, b3⟩
  have r3 := o3.rd
  clear o3
  replace g0 := g0.to b3
  replace g1 := g1.to b3
  replace r2 := r2.to b3
  replace cc := cc.trans (b3.mono cc.size)
  clear b3
  go_wp2_with fail
  refine (copy_any _ _ x0 g0 (by omega)).mono ?_
  rintro e w4 ⟨v4, rfl, o4, b4⟩
  have d4 := g1.to b4
  go_wp2_with (at_builtin; refine wpList_append_octs rfl _ _ rfl w3.heap.size _ _ x0 x1 rfl rfl o4 d4 (by omega) b4.size ?_; intro v5 w5 o5 b5 _)
  have b6 : Below w3.heap.size w3 w5 := b4.trans b5
  have r5 := o5.rd
  clear b4 b5 o4 o5 d4
  replace g0 := g0.to b6
  replace g1 := g1.to b6
  replace r2 := r2.to b6
  replace r3 := r3.to b6
  replace cc := cc.trans (b6.mono cc.size)
  clear b6
  refine (S.scanS _ _ (x0 ++ x1) r5 (by rw [List.length_append]; omega)).mono ?_
  rintro e w6 ⟨v6, hs, k, rfl, s3, o6, b7⟩
  have r6 := o6.rd
  clear o6 r5 g0 g1
  replace r2 := r2.to b7
  replace r3 := r3.to b7
  replace cc := cc.trans (b7.mono cc.size)
  clear b7
  obtain ⟨z1, z2, z3⟩ := sc_prefix s1 s3
  have HT := hide z3
  have l1 := s1.le
  have l2 := s2.le
  have l3 := s3.le
  rw [List.length_append] at l3
  have y1 : decide ((k : Int) < (p : Int)) = false := by simp; omega
  have y2 : decide ((hs.length : Int) < (fs.length : Int)) = false := by simp; omega
  obtain ⟨a2, p2, rfl⟩ := r2.slice
  obtain ⟨a3, p3, rfl⟩ := r3.slice
  obtain ⟨a6, p6, rfl⟩ := r6.slice
  have E0 := e0.out
  by_cases hp : p = len0
  · have hj := s3.one (sc_join (by rw [← hp] at E0; rw [E0]; exact s1) s2)
    have hk : (k : Int) = (p : Int) + (q : Int) := by rw [hj.2]; push_cast; omega
    have hh : (hs.length : Int) = (fs.length : Int) + (gs.length : Int) := by rw [hj.1, List.length_append]; push_cast; rfl
    have t1 : (((p : Nat) : Int) == ((len0 : Nat) : Int)) = true := by rw [hp]; simp
    have t2 : ((k : Int) != (p : Int) + (q : Int)) = false := by rw [hk]; simp
    have t3 : ((hs.length : Int) != (fs.length : Int) + (gs.length : Int)) = false := by rw [hh]; simp
    clear s1 s2 s3 hj hk hh z3 E0 hp r3
    go_wp2
    go_loopw [12] (fun i wr => ∃ n : Nat, n ≤ fs.length ∧ i = .int .i64 n ∧ Below w6.heap.size w6 wr) (fun i _ => fs.length - (intOf i).toNat)
    case atStart => exact ⟨0, Nat.zero_le _, rfl, Below.refl _ _⟩
    case round =>
      obtain ⟨n, hn, rfl, hb⟩ := hrel
      by_cases hlt : n < fs.length
      · have hq : (n : Int) < (fs.length : Int) := by omega
        have hq2 : (n : Int) < (hs.length : Int) := by omega
        obtain ⟨_, _, ee7, _, _, _, q7⟩ := r6.to hb
        obtain ⟨_, _, ee8, _, _, _, q8⟩ := r2.to hb
        cases ee7
        cases ee8
        rcases q7 with q7 | ⟨b7, o7, rfl, h7⟩
        · rw [q7] at hq2; simp at hq2; omega
        rcases q8 with q8 | ⟨b8, o8, rfl, h8⟩
        · rw [q8] at hlt; simp at hlt
        obtain ⟨u7, s7, t7, z7⟩ := h7 n (by omega)
        obtain ⟨u8', s8, t8, z8⟩ := h8 n hlt
        have hsame : hs.getD n (0, []) = fs.getD n (0, []) := by
          conv => rhs; rw [← HT.out]
          simp [List.getD_eq_getElem?_getD, hlt]
        rw [hsame] at u7 z7
        obtain ⟨as7, cs7, rfl⟩ := z7.slice
        obtain ⟨as8, cs8, rfl⟩ := z8.slice
        have KS := hide (fun m => same_any (wr.drewN m) _ _ _ _ (z7.drewN m) (z8.drewN m))
        rw [sameB_self] at KS
        have HB := hide hb
        clear h7 h8 z7 z8 hb hsame
        generalize fs.getD n (0, []) = f at *
        generalize f.2.length = LF at *
        have hkk : (((f.1.toNat : Nat) : Int) != ((f.1.toNat : Nat) : Int)) = false := by simp
        go_wp2
        go_quiet ((go_at_call 16; exact Calls.quiet_of (KS.out _)))
        go_wp2
        go_roundw
        case rel => exact ⟨n + 1, by omega, by go_num, HB.out.trans (below_drewN' _ _ _)⟩
        case measure => simp [intOf]; omega
      · go_wp2
        go_ret
        exact ⟨rfl, cc.trans (hb.mono cc.size)⟩
  · have t1 : (((p : Nat) : Int) == ((len0 : Nat) : Int)) = false := by simp; omega
    clear s1 s2 s3 z3 E0 r3
    go_wp2
    go_loopw [12] (fun i wr => ∃ n : Nat, n ≤ fs.length ∧ i = .int .i64 n ∧ Below w6.heap.size w6 wr) (fun i _ => fs.length - (intOf i).toNat)
    case atStart => exact ⟨0, Nat.zero_le _, rfl, Below.refl _ _⟩
    case round =>
      obtain ⟨n, hn, rfl, hb⟩ := hrel
      by_cases hlt : n < fs.length
      · have hq : (n : Int) < (fs.length : Int) := by omega
        have hq2 : (n : Int) < (hs.length : Int) := by omega
        obtain ⟨_, _, ee7, _, _, _, q7⟩ := r6.to hb
        obtain ⟨_, _, ee8, _, _, _, q8⟩ := r2.to hb
        cases ee7
        cases ee8
        rcases q7 with q7 | ⟨b7, o7, rfl, h7⟩
        · rw [q7] at hq2; simp at hq2; omega
        rcases q8 with q8 | ⟨b8, o8, rfl, h8⟩
        · rw [q8] at hlt; simp at hlt
        obtain ⟨u7, s7, t7, z7⟩ := h7 n (by omega)
        obtain ⟨u8', s8, t8, z8⟩ := h8 n hlt
        have hsame : hs.getD n (0, []) = fs.getD n (0, []) := by
          conv => rhs; rw [← HT.out]
          simp [List.getD_eq_getElem?_getD, hlt]
        rw [hsame] at u7 z7
        obtain ⟨as7, cs7, rfl⟩ := z7.slice
        obtain ⟨as8, cs8, rfl⟩ := z8.slice
        have KS := hide (fun m => same_any (wr.drewN m) _ _ _ _ (z7.drewN m) (z8.drewN m))
        rw [sameB_self] at KS
        have HB := hide hb
        clear h7 h8 z7 z8 hb hsame
        generalize fs.getD n (0, []) = f at *
        generalize f.2.length = LF at *
        have hkk : (((f.1.toNat : Nat) : Int) != ((f.1.toNat : Nat) : Int)) = false := by simp
        go_wp2
        go_quiet ((go_at_call 16; exact Calls.quiet_of (KS.out _)))
        go_wp2
        go_roundw
        case rel => exact ⟨n + 1, by omega, by go_num, HB.out.trans (below_drewN' _ _ _)⟩
        case measure => simp [intOf]; omega
      · go_wp2
        go_ret
        exact ⟨rfl, cc.trans (hb.mono cc.size)⟩

theorem walk (w : World) (a0 : Option Addr) (len0 cap0 : Nat) (x0 : List UInt8) (e0 : x0.length = len0) (g0 : Rd w (.slice a0 len0 cap0) x0) (m0 : len0 ≤ 1048576) (a1 : Option Addr) (len1 cap1 : Nat) (x1 : List UInt8) (e1 : x1.length = len1) (g1 : Rd w (.slice a1 len1 cap1) x1) (m1 : len1 ≤ 1048576) :
    Calls Try.prog 8 #[.slice a0 len0 cap0, .slice a1 len1 cap1] w fun e w' => e = .returned (.bool true) ∧ Below w.heap.size w w' :=
  walkS frames_say w a0 len0 cap0 x0 e0 g0 m0 a1 len1 cap1 x1 e1 g1 m1

set_option maxRecDepth 100000 in
theorem lifted (os : Os) (started : os.Started) (H : Type) (enc : TypeId × Value → H) (F : Stop.Interp) :
    ReturnsInHanded {} Try.checked os 8 .any ((Rows.OpenSpec.upto Rows.framesJoinedSpec).pre6 enc Try.prog Try.f8 Rows.framesJoinedUptoRow.domain false) (((Rows.OpenSpec.upto Rows.framesJoinedSpec).at F).post enc Try.prog Try.f8 false true false false) := by
  refine returnsInHanded_of_cond (C := Try.checked) (s := Rows.OpenSpec.upto Rows.framesJoinedSpec) (k := Rows.uptoSmall) rfl own started (by kernel_rfl) Try.func8
    (OpenSpec.witness (enc := enc) (C := Try.checked) (s := Rows.OpenSpec.upto Rows.framesJoinedSpec) (k := Rows.uptoSmall) rfl false ⟨#[], #[.slice none 0 0, .slice none 0 0], []⟩ 8 (by kernel_rfl) (by kernel_rfl) (by kernel_rfl)
      (x := ([.nil, .nil], [], [])) (by kernel_rfl) rfl (by kernel_rfl)) ?_
  intro W base args ds gs before hval0 hW _ hk _
  have hval : ∀ (j : Nat) t v, Try.f8.params[j]? = some t → args[j]? = some v → Value.okWide Try.prog W .any base t v := hval0
  have hW' := hW
  obtain ⟨p, q, hA0, hV, rfl, hfz, hnd⟩ := hW
  have hA : DataW.TrodAll enc Try.prog W 0 (fun _ => true) true Try.f8.params.toList args.toList ds p := hA0
  rw [Try.params8] at hA hval
  obtain ⟨v0, vs0, d0, ds0, p0, q0, hargs, rfl, rfl, h0, r0⟩ := trodAll_cons hA
  obtain ⟨v1, vs1, d1, ds1, p1, q1, rfl, rfl, rfl, h1, r1⟩ := trodAll_cons r0
  obtain ⟨rfl, rfl, rfl⟩ := trodAll_nil r1
  obtain rfl : args = #[v0, v1] := by cases args; simp_all
  obtain ⟨rfl, rfl⟩ := trodVars_none hV
  obtain ⟨a0, len0, cap0, rfl⟩ := okWide_slice Try.underlying22 (hval 0 22 v0 rfl rfl)
  have lt0 : ∀ x ∈ p0, x.block < W.heap.size := by obtain ⟨m, hm⟩ := h0; exact DataW.trod_lt m _ _ _ hm
  obtain ⟨x0, e0, g0, s0⟩ := open_octs h0
  obtain ⟨a1, len1, cap1, rfl⟩ := okWide_slice Try.underlying22 (hval 1 22 v1 rfl rfl)
  have lt1 : ∀ x ∈ p1, x.block < W.heap.size := by obtain ⟨m, hm⟩ := h1; exact DataW.trod_lt m _ _ _ hm
  obtain ⟨x1, e1, g1, s1⟩ := open_octs h1
  simp only [List.append_nil] at hk
  have m0 := small_octs hk (d := d0) (by simp) s0
  have m1 := small_octs hk (d := d1) (by simp) s1
  clear hA0 hval0
  refine (walk W a0 len0 cap0 x0 e0 g0 m0 a1 len1 cap1 x1 e1 g1 m1).mono fun e W' ⟨he, bel⟩ => ?_
  subst he
  exact ⟨_, rfl, _, _, _, [], _, [], hW', trodAll_mk1 (shut_bool Try.underlying4 _), (trodAll_cons_mk (Below.trod laidOut (by kernel_rfl) (of_decide_eq_true (by kernel_rfl)) h0 bel lt0) (trodAll_cons_mk (Below.trod laidOut (by kernel_rfl) (of_decide_eq_true (by kernel_rfl)) h1 bel lt1) trodAll_mk0)), rfl, bel.frame _, fun h => by cases h⟩

theorem over : Rows.framesJoinedUptoRow.holds Try.pinned (Rows.OpenSpec.upto Rows.framesJoinedSpec) :=
  OpenClaim.holds_of_cond 8 Try.f8 rfl rfl rfl rfl rfl rfl rfl ⟨rfl, rfl, rfl, rfl, rfl⟩ rfl rfl rfl rfl rfl (by kernel_rfl) Try.func8 (by kernel_rfl)
    (of_decide_eq_true (by kernel_rfl)) (by unfold Func.isWrapper; first | (rw [if_pos (by decide +kernel)]; kernel_rfl) | (rw [if_neg (by decide +kernel)]; exact ⟨rfl, rfl⟩))
    (fun os started H enc _ F => lifted os started H enc F)

end Go.Proofs.Ytmdbgmnohdeoeaa.framesJoined
namespace Go.Proofs.Ytmdbgmnohdeoeaa
/-- THE STATEMENT -/
theorem framesJoined_holds : Rows.FramesJoinedUptoSaid := framesJoined.over
end Go.Proofs.Ytmdbgmnohdeoeaa
