/-
  Lists of octets' lists in memory ('RdL'; 'OwnL': made by the call itself, each piece in memory of its own), and the contract of transeptplain.SameLists.
-/
import Derived.Test.YtoijklenmjllcaaTurn
import Derived.Test.YtoijklenmjllcaaSame
namespace Go.Proofs.Ytoijklenmjllcaa
open Go.RowKit
set_option linter.unusedVariables false

/-- the value v is a slice of slices, whose octets are xss, in the world w -/
def RdL (w : World) (v : Value) (xss : List (List UInt8)) : Prop :=
  ∃ ao cap, v = .slice ao xss.length cap ∧ xss.length ≤ cap ∧ cap ≤ maxLen ∧
    (xss = [] ∨ ∃ b off, ao = some ⟨b, off, none⟩ ∧ ∀ i, i < xss.length → ∃ u, w.cell? ⟨b, off + i, none⟩ = some u ∧ Rd w u (xss.getD i []))

theorem RdL.below {w w' : World} {v : Value} {xss : List (List UInt8)} (h : RdL w v xss) {B : Nat} (hB : w.heap.size ≤ B) (hb : Below B w w') : RdL w' v xss := by
  obtain ⟨ao, cap, rfl, h1, h2, h4⟩ := h
  refine ⟨ao, cap, rfl, h1, h2, ?_⟩
  rcases h4 with h4 | ⟨b, off, rfl, hc⟩
  · exact .inl h4
  · refine .inr ⟨b, off, rfl, fun i hi => ?_⟩
    obtain ⟨u, hu, hr⟩ := hc i hi
    refine ⟨u, ?_, hr.below hB hb⟩
    rw [hb.cell (p := ⟨b, off + i, none⟩) (by have := cell_lt hu; show b < B; omega)]
    exact hu
theorem RdL.to {w w' : World} {v : Value} {xss : List (List UInt8)} (h : RdL w v xss) (hb : Below w.heap.size w w') : RdL w' v xss := h.below (Nat.le_refl _) hb

/-- v is a slice of slices that lies from block B on, each of its pieces too -/
def OwnL (B : Nat) (w : World) (v : Value) (xss : List (List UInt8)) : Prop :=
  ∃ vs : List Value, vs.length = xss.length ∧ w.ownsRow B 22 1 v xss.length vs ∧ ∀ i, i < xss.length → OwnB B w (vs.getD i undef) (xss.getD i [])

theorem OwnL.rd {B : Nat} {w : World} {v : Value} {xss : List (List UInt8)} (h : OwnL B w v xss) : RdL w v xss := by
  obtain ⟨vs, hl, ⟨_, ⟨rfl, h0⟩ | ⟨g, cap, cur, rfl, hb, hg, hn, hm, hs, ht⟩⟩, he⟩ := h
  · have : xss = [] := List.eq_nil_of_length_eq_zero h0
    subst this
    exact ⟨none, 0, rfl, Nat.le_refl _, Nat.zero_le _, .inl rfl⟩
  · refine ⟨_, cap, rfl, hn, hm, .inr ⟨g, 0, rfl, fun i hi => ⟨vs.getD i undef, ?_, (he i hi).rd⟩⟩⟩
    rw [cell_of_row w g (0 + i) cur _ (0, 0) hg]
    have e : cur[0 + i]? = (cur.toList.take (xss.length * 1))[i]? := by
      rw [List.getElem?_take, if_pos (by omega)]; simp
    rw [e, ht]
    simp [hl, hi]

def sameLB (xss yss : List (List UInt8)) : Bool := decide (xss = yss)
theorem sameLB_eq {xss yss : List (List UInt8)} (h : xss = yss) : sameLB xss yss = true := by simp [sameLB, h]
theorem sameLB_of {xss yss : List (List UInt8)} (hl : xss.length = yss.length) (h : ∀ i, i < xss.length → xss.getD i [] = yss.getD i []) : sameLB xss yss = true := by
  apply sameLB_eq
  apply List.ext_getElem hl
  intro i h1 h2
  have := h i h1
  simpa [h1, h2] using this

set_option maxHeartbeats 400000 in
theorem sameLists_any (w : World) (v1 v2 : Value) (xss yss : List (List UInt8)) (h1 : RdL w v1 xss) (h2 : RdL w v2 yss) :
    Calls Try.prog 19 #[v1, v2] w fun e w' => e = .returned (.bool (sameLB xss yss)) ∧ ∃ n, w' = w.drewN n := by
  obtain ⟨a1, c1, rfl, l1, m1, r1⟩ := h1
  obtain ⟨a2, c2, rfl, l2, m2, r2⟩ := h2
  rw [show maxLen = 9223372036854775807 from rfl] at m1 m2
  by_cases hl : xss.length = yss.length
  · have hne : ((xss.length : Int) != (yss.length : Int)) = false := by simp; omega
    have HL : Hid (xss.length = yss.length) := hl
    clear hl
    go_enter Try.func19, Try.ntmps19
    go_wp2
    go_loopw [5] (fun i wr => ∃ k n : Nat, k ≤ xss.length ∧ i = .int .i64 k ∧ (∀ i, i < k → xss.getD i [] = yss.getD i []) ∧ wr = w.drewN n) (fun i _ => xss.length - (intOf i).toNat)
    case atStart => exact ⟨0, 0, Nat.zero_le _, rfl, fun i h => absurd h (Nat.not_lt_zero _), rfl⟩
    case round =>
      obtain ⟨k, n, hk, rfl, hs, hwr⟩ := hrel
      have HW : Hid (wr = w.drewN n) := hwr
      have HSS := hide hs
      clear hwr hs
      by_cases hlt : k < xss.length
      · rcases r1 with r1 | ⟨b1, o1, rfl, hc1⟩
        · rw [r1] at hlt; simp at hlt
        rcases r2 with r2 | ⟨b2, o2, rfl, hc2⟩
        · rw [HL.out, r2] at hlt; simp at hlt
        obtain ⟨u1, g1, q1⟩ := hc1 k hlt
        obtain ⟨u2, g2, q2⟩ := hc2 k (by have := HL.out; omega)
        have g1' : wr.cell? ⟨b1, o1 + k, none⟩ = some u1 := by rw [HW.out]; exact g1
        have g2' : wr.cell? ⟨b2, o2 + k, none⟩ = some u2 := by rw [HW.out]; exact g2
        have q1' : Rd wr u1 (xss.getD k []) := by rw [HW.out]; exact q1.drewN _
        have q2' : Rd wr u2 (yss.getD k []) := by rw [HW.out]; exact q2.drewN _
        have hq : (k : Int) < (xss.length : Int) := by omega
        have hq2 : (k : Int) < (yss.length : Int) := by have := HL.out; omega
        clear hc1 hc2 g1 g2 q1 q2
        by_cases he : xss.getD k [] = yss.getD k []
        · have HE := hide he
          rw [← he] at q2'
          obtain ⟨X, hX⟩ : ∃ X, xss.getD k [] = X := ⟨_, rfl⟩
          rw [hX] at q1' q2'
          clear he hX
          obtain ⟨aa, ca, rfl⟩ := q1'.slice
          obtain ⟨ab, cb, rfl⟩ := q2'.slice
          have KS := hide (fun n => same_any (wr.drewN n) _ _ _ _ (q1'.drewN n) (q2'.drewN n))
          rw [sameB_self] at KS
          clear q1' q2'
          generalize X.length = LX at *
          go_wp2
          go_quiet ((go_at_call 13; exact Calls.quiet_of (KS.out _)))
          go_wp2
          go_roundw
          case rel => exact ⟨k + 1, n + nq, by omega, by go_num, fun i hi => by
            by_cases h : i = k
            · subst h; exact HE.out
            · exact HSS.out i (by omega), by rw [HW.out, World.drewN_drewN]⟩
          case measure => simp [intOf]; omega
        · have HE := hide he
          obtain ⟨X, hX⟩ : ∃ X, xss.getD k [] = X := ⟨_, rfl⟩
          obtain ⟨Y, hY⟩ : ∃ Y, yss.getD k [] = Y := ⟨_, rfl⟩
          rw [hX] at q1' he
          rw [hY] at q2' he
          clear hX hY
          obtain ⟨aa, ca, rfl⟩ := q1'.slice
          obtain ⟨ab, cb, rfl⟩ := q2'.slice
          have KS := hide (fun n => same_any (wr.drewN n) _ _ _ _ (q1'.drewN n) (q2'.drewN n))
          rw [show sameB X Y = false from by simp only [sameB, decide_eq_false_iff_not]; exact he] at KS
          clear q1' q2' he
          generalize X.length = LX at *
          generalize Y.length = LY at *
          go_wp2
          go_quiet ((go_at_call 13; exact Calls.quiet_of (KS.out _)))
          go_wp2
          go_ret
          refine ⟨ret_bool ?_, n + nq, by rw [HW.out, World.drewN_drewN]⟩
          symm
          simp only [sameLB, decide_eq_false_iff_not]
          rintro rfl
          exact HE.out rfl
      · go_wp2
        go_ret
        exact ⟨ret_bool (sameLB_of HL.out (by rw [show xss.length = k from by omega]; exact HSS.out)).symm, _, HW.out⟩
  · have hne : ((xss.length : Int) != (yss.length : Int)) = true := by simp; omega
    go_enter Try.func19, Try.ntmps19
    go_wp2
    go_ret
    refine ⟨ret_bool ?_, 0, rfl⟩
    symm
    simp only [sameLB, decide_eq_false_iff_not]
    rintro rfl
    exact hl rfl

end Go.Proofs.Ytoijklenmjllcaa
