/-
  The walk of the law VoteNewer, over what the program's calls say.
-/
import Derived.Deep.CutRange
import Derived.Test.YtccklmhagabkaaaVtP
namespace Go.Proofs.Ytccklmhagabkaaa.voteNewer
open Go.RowKit
set_option linter.unusedVariables false
set_option linter.unusedSimpArgs false

theorem wfv {z : Int} (h : (Lit.int .i64 z).wf = true) : J64 z := by
  simpa [J64, Lit.wf, IntKind.min, IntKind.max, IntKind.signed, IntKind.bits] using h
theorem vn_total {a t b u : Int} (h : vnewer a t b u = false) : vnewer b u a t = true := by
  simp only [vnewer, decide_eq_true_eq, decide_eq_false_iff_not] at *
  omega
theorem vn_both {a t b u : Int} (h : vnewer a t b u = true) (k : vnewer b u a t = true) : a = b ∧ t = u := by
  simp only [vnewer, decide_eq_true_eq, decide_eq_false_iff_not] at *
  omega
theorem vn_same {a t b u : Int} (h : a = b ∧ t = u) : vnewer b u a t = true := by
  simp only [vnewer, decide_eq_true_eq, decide_eq_false_iff_not] at *
  omega
theorem vn_trans {a t b u c v : Int} (h : vnewer a t b u = true) (k : vnewer b u c v = true) : vnewer a t c v = true := by
  simp only [vnewer, decide_eq_true_eq, decide_eq_false_iff_not] at *
  omega
set_option maxRecDepth 100000 in
set_option maxHeartbeats 4000000 in
theorem walk0 (S : VoteSay) (w : World) (a : Int) (h0 : (Lit.int .i64 a).wf = true) (t : Int) (h1 : (Lit.int .i64 t).wf = true) (b : Int) (h2 : (Lit.int .i64 b).wf = true) (u : Int) (h3 : (Lit.int .i64 u).wf = true) (c : Int) (h4 : (Lit.int .i64 c).wf = true) (v : Int) (h5 : (Lit.int .i64 v).wf = true) :
    Calls Try.prog 5 #[.int .i64 a, .int .i64 t, .int .i64 b, .int .i64 u, .int .i64 c, .int .i64 v] w fun e w' => e = .returned (.bool true) ∧ Below w.heap.size w w' := by
  have KA := hide (vtalive_any S w)
  have K1 := hide (fun w => S.newer w a t b u (wfv h0) (wfv h1) (wfv h2) (wfv h3))
  have K2 := hide (fun w => S.newer w b u a t (wfv h2) (wfv h3) (wfv h0) (wfv h1))
  have K3 := hide (fun w => S.newer w b u c v (wfv h2) (wfv h3) (wfv h4) (wfv h5))
  have K4 := hide (fun w => S.newer w a t c v (wfv h0) (wfv h1) (wfv h4) (wfv h5))
  have T1 := hide (@vn_total a t b u)
  have T2 := hide (@vn_both a t b u)
  have T3 := hide (@vn_same a t b u)
  have T4 := hide (@vn_trans a t b u c v)
  clear S h0 h1 h2 h3 h4 h5
  obtain ⟨x, hx⟩ : ∃ x, x = vnewer a t b u := ⟨_, rfl⟩
  obtain ⟨y, hy⟩ : ∃ y, y = vnewer b u a t := ⟨_, rfl⟩
  obtain ⟨z, hz⟩ : ∃ z, z = vnewer b u c v := ⟨_, rfl⟩
  obtain ⟨r, hr⟩ : ∃ r, r = vnewer a t c v := ⟨_, rfl⟩
  simp only [← hx, ← hy, ← hz, ← hr] at K1 K2 K3 K4 T1 T2 T3 T4
  clear hx hy hz hr
  go_enter Try.func5, Try.ntmps5
  go_wp2_with fail
  refine KA.out.mono ?_
  rintro e w1 ⟨rfl, b1⟩
  replace b1 := hide b1
  go_wp2_with fail
  refine (K1.out _).mono ?_
  rintro e w2 ⟨rfl, b2⟩
  replace b2 := hide (b1.out.trans (b2.mono b1.out.size))
  go_wp2_with fail
  refine (K2.out _).mono ?_
  rintro e w3 ⟨rfl, b3⟩
  replace b3 := hide (b2.out.trans (b3.mono b2.out.size))
  clear KA K1 K2 b1 b2
  cases x with
  | false =>
    obtain rfl := T1.out rfl
    clear T1 T2 T3 T4
    go_wp2
    go_ret
    exact ⟨rfl, b3.out⟩
  | true =>
    have hc : y = (decide (a = b) && decide (t = u)) := by
      cases y with
      | true => obtain ⟨p, q⟩ := T2.out rfl rfl; simp [p, q]
      | false =>
        by_cases e : a = b ∧ t = u
        · exact absurd (T3.out e) (by decide)
        · by_cases p : a = b
          · by_cases q : t = u
            · exact absurd ⟨p, q⟩ e
            · simp [q]
          · simp [p]
    clear T1 T2 T3
    by_cases p : a = b
    · subst p
      by_cases q : t = u
      · subst q
        obtain rfl : y = true := by rw [hc]; simp
        clear hc
        go_wp2_with fail
        refine (K3.out _).mono ?_
        rintro e w4 ⟨rfl, b4⟩
        replace b4 := hide (b3.out.trans (b4.mono b3.out.size))
        clear K3
        cases z with
        | false =>
          go_wp2
          go_ret
          exact ⟨rfl, b4.out⟩
        | true =>
          obtain rfl := T4.out (by first | exact trivial | rfl) (by first | exact trivial | rfl)
          go_wp2_with fail
          refine (K4.out _).mono ?_
          rintro e w5 ⟨rfl, b5⟩
          replace b5 := hide (b4.out.trans (b5.mono b4.out.size))
          go_wp2
          go_ret
          exact ⟨rfl, b5.out⟩
      · obtain rfl : y = false := by rw [hc]; simp [q]
        have q' : (t == u) = false := by simpa using q
        replace q := hide q
        clear hc
        go_wp2_with fail
        refine (K3.out _).mono ?_
        rintro e w4 ⟨rfl, b4⟩
        replace b4 := hide (b3.out.trans (b4.mono b3.out.size))
        clear K3
        cases z with
        | false =>
          go_wp2
          go_ret
          exact ⟨rfl, b4.out⟩
        | true =>
          obtain rfl := T4.out (by first | exact trivial | rfl) (by first | exact trivial | rfl)
          go_wp2_with fail
          refine (K4.out _).mono ?_
          rintro e w5 ⟨rfl, b5⟩
          replace b5 := hide (b4.out.trans (b5.mono b4.out.size))
          go_wp2
          go_ret
          exact ⟨rfl, b5.out⟩
    · obtain rfl : y = false := by rw [hc]; simp [p]
      have p' : (a == b) = false := by simpa using p
      replace p := hide p
      clear hc
      go_wp2_with fail
      refine (K3.out _).mono ?_
      rintro e w4 ⟨rfl, b4⟩
      replace b4 := hide (b3.out.trans (b4.mono b3.out.size))
      clear K3
      cases z with
      | false =>
        go_wp2
        go_ret
        exact ⟨rfl, b4.out⟩
      | true =>
        obtain rfl := T4.out (by first | exact trivial | rfl) (by first | exact trivial | rfl)
        go_wp2_with fail
        refine (K4.out _).mono ?_
        rintro e w5 ⟨rfl, b5⟩
        replace b5 := hide (b4.out.trans (b5.mono b4.out.size))
        go_wp2
        go_ret
        exact ⟨rfl, b5.out⟩
end Go.Proofs.Ytccklmhagabkaaa.voteNewer
