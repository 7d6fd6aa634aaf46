/- Several texts in one: LQOrder. -/
import Derived.Deep.Cut
import Derived.Deep.CutRange
import Derived.Test.YtnkbolgbpdjpcaaGoLQOrder1
import Derived.Test.YtnkbolgbpdjpcaaGoLQOrder0
set_option linter.unusedVariables false
set_option linter.unusedSimpArgs false
namespace Go.Proofs.Ytnkbolgbpdjpcaa.quorumOrder
open Go.ChangeShapes Go.WideShapes Go.ChangeAt Go.RowKit
theorem swap_perm : ∀ {q : List Int} {p : Nat} {a b : Int}, q[p]? = some a → q[p + 1]? = some b → ((q.set p b).set (p + 1) a).Perm q
 | [], _, _, _, h, _ => by simp at h
 | [_], 0, _, _, _, h => by simp at h
 | x :: y :: r, 0, a, b, h, k => by
  simp at h k
  subst h k
  simpa using List.Perm.swap _ _ r
 | x :: r, p + 1, a, b, h, k => by
  rw [List.getElem?_cons_succ] at h k
  rw [List.set_cons_succ, List.set_cons_succ]
  exact (swap_perm h k).cons x
theorem swap_at (x : Int) {N : Nat} (h : 0 < N) : ∃ p : Nat, p < N ∧ (x.tmod (N : Int) + (N : Int)).tmod (N : Int) = (p : Int) ∧ -(N : Int) < x.tmod (N : Int) ∧ x.tmod (N : Int) < (N : Int) := by
 have j3 : (0 : Int) < (N : Int) := by omega
 have y1 := Int.lt_tmod_of_pos x j3
 have y2 := Int.tmod_lt_of_pos x j3
 have y3 := Int.emod_nonneg (x.tmod N) (b := (N : Int)) (by omega)
 have y4 := Int.emod_lt_of_pos (x.tmod N) j3
 refine ⟨(x.tmod N % N).toNat, by omega, ?_, y1, y2⟩
 rw [Int.tmod_eq_emod_of_nonneg (by omega), Int.add_emod_right]; omega
theorem ownJ_set {B : Nat} {w : World} {g n cap : Nat} {l : List Int} (h : OwnJ B w (.slice (some ⟨g, 0, none⟩) n cap) l) (hn : n = l.length) (k : Nat) (y : Int) : OwnJ B (w.setCell ⟨g, k, none⟩ (.int .i64 y)) (.slice (some ⟨g, 0, none⟩) n cap) (l.set k y) := by
 subst hn
 have := (World.ownsRow.stored h k (.int .i64 y)).1
 show World.ownsRow _ _ _ _ _ _ _
 rw [List.map_set, List.length_set]
 exact this
theorem ownJ_at {B : Nat} {w : World} {g n cap : Nat} {l : List Int} (h : OwnJ B w (.slice (some ⟨g, 0, none⟩) n cap) l) {k : Nat} {y : Int} (hy : l[k]? = some y) : w.cell? ⟨g, k, none⟩ = some (.int .i64 y) ∧ ∀ i, w.frozen? ⟨g, i, none⟩ = false := by
 obtain ⟨b, off, e, h1⟩ := (OwnJ.rd h).intAt hy
 have h2 := h
 rcases h.2 with ⟨e0, _⟩ | ⟨g', cap', cur, hv, hb, hg, _⟩
 ·cases e0
 ·simp only [Value.slice.injEq, Option.some.injEq, Addr.mk.injEq, and_true] at hv
  obtain ⟨rfl, _⟩ := hv
  simp only [Option.some.injEq, Addr.mk.injEq, and_true] at e
  obtain ⟨rfl, rfl⟩ := e
  exact ⟨by simpa using h1, fun i => by simp [World.frozen?, hg]⟩
theorem nxt_at {p L : Nat} (h : p + 1 < L) (hL : L ≤ 1000000000000000) : ∃ P : Nat, P = p + 1 ∧ (p : Int) + 1 = (P : Int) ∧ wrap64 (P : Int) = (P : Int) ∧ IntKind.i64.wrap (P : Int) = (P : Int) ∧ (P : Int) < (L : Int) :=
 ⟨p + 1, rfl, by omega, by unfold wrap64; omega, by rw [IntKind.wrap_i64]; omega, by omega⟩
theorem is_next {l : List Int} {k : Nat} {y a : Int} {C : Bool} {E : Prop} (hy : l[k]? = some y) (h : C = true ↔ E ∨ a ∈ l.take k) : ((C || (y == a)) = true) ↔ E ∨ a ∈ l.take (k + 1) := by
 rw [List.take_add_one, hy, Bool.or_eq_true, h]
 simp only [Option.toList_some, List.mem_append, List.mem_singleton, beq_iff_eq]
 rw [or_assoc]
 exact or_congr Iff.rfl (or_congr Iff.rfl eq_comm)
set_option maxRecDepth 100000 in
set_option maxHeartbeats 4000000 in
theorem walk (w : World) (a0 : Option Addr) (len0 cap0 : Nat) (l : List Int) (g0 : SIntL.rd w [.slice a0 len0 cap0] l) (m0 : l.length * 8 ≤ 140737488351232 ∧ ∀ x ∈ l, (Lit.int .i64 x).wf = true) (a1 : Option Addr) (len1 cap1 : Nat) (t : List Int) (g1 : SIntL.rd w [.slice a1 len1 cap1] t) (m1 : t.length * 8 ≤ 140737488351232 ∧ ∀ x ∈ t, (Lit.int .i64 x).wf = true) :
  Calls Try.prog 6 #[.slice a0 len0 cap0, .slice a1 len1 cap1] w fun e w' => e = .returned (.bool true) ∧ Below w.heap.size w w' := by
 obtain ⟨v0, e0, R0⟩ := g0
 obtain rfl : v0 = .slice a0 len0 cap0 := by simpa using e0.symm
 obtain ⟨v1, e1, R1⟩ := g1
 obtain rfl : v1 = .slice a1 len1 cap1 := by simpa using e1.symm
 obtain ⟨_, _, e⟩ := R0.slice
 simp only [Value.slice.injEq] at e
 obtain ⟨rfl, rfl, rfl⟩ := e
 obtain ⟨_, _, e⟩ := R1.slice
 simp only [Value.slice.injEq] at e
 obtain ⟨rfl, rfl, rfl⟩ := e
 have q0 := m0.1
 have q1 := m1.1
 have hw1 := hide m1.2
 clear e0 e1 m0 m1
 have H0 := hide R0
 have H1 := hide R1
 have KV := hide (qalive_any w)
 have KS := hide (fun (u : World) (bu : Below w.heap.size w u) => pagreed_any u _ l (R0.to0 bu))
 obtain ⟨a, e, hae⟩ : ∃ a e, qag l = (a, e) := ⟨_, _, rfl⟩
 have HAE := hide hae
 rw [hae] at KS
 dsimp only at KS
 clear R0 R1 hae
 go_enter Try.func6, Try.ntmps6
 go_wp2_with fail
 refine KV.out.mono ?_
 rintro e' w1 ⟨rfl, b1⟩
 have B1 := hide b1
 have KA := hide (KS.out w1 b1)
 clear b1 KV
 go_wp2_with fail
 refine KA.out.mono ?_
 rintro e' w2 ⟨rfl, b2⟩
 have B2 := hide (B1.out.trans (b2.mono B1.out.size))
 have KC := hide (copyInt_any w2 _ l (H0.out.to0 B2.out) (by omega))
 clear b2 KA B1
 go_wp2_with fail
 refine KC.out.mono ?_
 rintro e' w3 ⟨v3, rfl, o3, b3⟩
 have B3 := hide (B2.out.trans (b3.mono B2.out.size))
 have S2 := B2.out.size
 obtain ⟨ao, oc, rfl, ol, om, hgo⟩ := (show OwnI w2.heap.size w3 v3 l from o3).slice
 have HG : Hid (l = [] ∨ ∃ g, ao = some ⟨g, 0, none⟩ ∧ w2.heap.size ≤ g) := by
  rcases o3.2 with ⟨_, h0⟩ | ⟨g, cap, cur, hv, hb, _⟩
  ·exact .inl (List.eq_nil_of_length_eq_zero h0)
  ·simp only [Value.slice.injEq] at hv
   exact .inr ⟨g, hv.1, hb⟩
 have O3 := hide o3
 have b3s := b3.size
 clear o3 b3 hgo KC
 go_wp2
 go_loopw [8, 9] (fun i k wr => ∃ (j : Nat) (q : List Int), j ≤ t.length ∧ i = .int .i64 j ∧ Hid (q.Perm l) ∧ Hid (OwnJ w2.heap.size wr (.slice ao l.length oc) q) ∧ Hid (Below w2.heap.size w3 wr)) (fun i _ _ => t.length - (intOf i).toNat)
 case atStart => exact ⟨0, l, Nat.zero_le _, rfl, hide (List.Perm.refl _), O3, hide (Below.refl _ _)⟩
 case round =>
  obtain ⟨j, q, hj, rfl, hp, ho, hb⟩ := hrel
  by_cases c1 : j < t.length ∧ j < 40 ∧ 1 < l.length
  ·obtain ⟨c1, c2, c3⟩ := c1
   have d1 : (j : Int) < (t.length : Int) := by omega
   have d2 : (j : Int) < 40 := by omega
   have d3 : (1 : Int) < (l.length : Int) := by omega
   obtain ⟨x, hx⟩ := some_el t c1
   obtain ⟨N, hN⟩ : ∃ N, l.length = N + 1 := ⟨l.length - 1, by omega⟩
   obtain ⟨p, hpN, hp1, hp2, hp3⟩ := swap_at x (N := N) (by omega)
   have hql : q.length = l.length := hp.out.length_eq
   obtain ⟨ya, hya⟩ := some_el q (k := p) (by omega)
   obtain ⟨yb, hyb⟩ := some_el q (k := p + 1) (by omega)
   obtain ⟨g, rfl, hg⟩ := HG.out.resolve_left (fun h => by rw [h] at c3; simp at c3)
   obtain ⟨tb, to9, rfl, hc9⟩ := (H1.out.to0 (B3.out.trans (hb.out.mono S2))).intAt hx
   obtain ⟨d, hd⟩ : ∃ d, d = x.tmod (N : Int) := ⟨_, rfl⟩
   rw [← hd] at hp1 hp2 hp3
   have xa := ownJ_at ho.out hya
   have xb := (ownJ_at ho.out hyb).1
   have f1 : wrap64 ((l.length : Int) - 1) = (N : Int) := by unfold wrap64; omega
   have f1' : (l.length : Int) - 1 = (N : Int) := by omega
   have f2 : wrap64 (d + (l.length : Int)) = d + (l.length : Int) := by unfold wrap64; omega
   have f3 : wrap64 (d + (l.length : Int) - 1) = d + (N : Int) := by unfold wrap64; omega
   have f3' : d + (l.length : Int) - 1 = d + (N : Int) := by omega
   have f4 : (p : Int) < (l.length : Int) := by omega
   have f5 : (p : Int) + 1 < (l.length : Int) := by omega
   have f6 : ¬ (N : Int) = 0 := by omega
   have hpL : p + 1 < l.length := by omega
   have hLL : l.length ≤ 1000000000000000 := by omega
   replace hd := hd.symm
   have HN := hide hN
   have HQL := hide hql
   have HYA := hide hya
   have HYB := hide hyb
   clear hN hql hya hyb hx hpN
   have oD : OwnJ w2.heap.size wr.drew (.slice (some ⟨g, 0, none⟩) l.length oc) q := OwnI.below (show OwnI w2.heap.size wr _ q from ho.out) (Nat.le_refl _) ((Below.refl _ _).drew)
   have bD : Below w2.heap.size w3 wr.drew := hb.out.drew
   obtain ⟨P, hP, g1, g2, g3, g4⟩ := nxt_at hpL hLL
   clear f5
   replace HYB := hide (show q[P]? = some yb by rw [hP]; exact HYB.out)
   have HSW := hide (show ((q.set p yb).set P ya).Perm l by rw [hP]; rw [hP] at HYB; exact (swap_perm HYA.out HYB.out).trans hp.out)
   replace hP := hide hP
   go_upto_region 9 with fail
   refine wp_region_fan (fun _ => True) 17 mixed (by simp) ?_
   generalize wr.drew = c0 at *
   obtain ⟨xa, xf⟩ := ownJ_at oD HYA.out
   have xb := (ownJ_at oD HYB.out).1
   have FIN : Hid (OwnJ w2.heap.size ((c0.setCell ⟨g, p, none⟩ (.int .i64 yb)).setCell ⟨g, P, none⟩ (.int .i64 ya)) (.slice (some ⟨g, 0, none⟩) l.length oc) ((q.set p yb).set P ya) ∧ Below w2.heap.size w3 ((c0.setCell ⟨g, p, none⟩ (.int .i64 yb)).setCell ⟨g, P, none⟩ (.int .i64 ya)) ∧ ((q.set p yb).set P ya).Perm l) := ⟨ownJ_set (ownJ_set oD HQL.out.symm p yb) (by rw [List.length_set]; exact HQL.out.symm) P ya, (bD.setCell (p := ⟨g, p, none⟩) hg _).setCell (p := ⟨g, P, none⟩) hg _, HSW.out⟩
   have xf2 : ∀ i, (c0.setCell ⟨g, p, none⟩ (.int .i64 yb)).frozen? ⟨g, i, none⟩ = false := (ownJ_at (ownJ_set oD HQL.out.symm p yb) (k := p) (y := yb) (List.getElem?_set_self (List.getElem?_eq_some_iff.1 HYA.out).1)).2
   clear oD bD
   refine fan_take (i := 0) (v := ?_) rfl (by kernel_rfl) (fun _ _ _ _ h => h) (by kernel_rfl) trivial ?_ ?_
   rotate_left
   ·rintro w9 -
    go_simp
    try with_reducible rfl
   try simp only [List.getElem_toArray, List.getElem_cons_succ, List.getElem_cons_zero, List.getElem?_toArray, List.getElem?_cons_succ, List.getElem?_cons_zero, Act.put, List.setIfInBounds_toArray, List.set_cons_zero, List.set_cons_succ]
   refine fan_take (i := 1) (v := ?_) rfl (by kernel_rfl) (fun _ _ _ _ h => h) (by kernel_rfl) trivial ?_ ?_
   rotate_left
   ·rintro w9 -
    go_simp
    try with_reducible rfl
   try simp only [List.getElem_toArray, List.getElem_cons_succ, List.getElem_cons_zero, List.getElem?_toArray, List.getElem?_cons_succ, List.getElem?_cons_zero, Act.put, List.setIfInBounds_toArray, List.set_cons_zero, List.set_cons_succ]
   refine fan_take (i := 2) (v := ?_) rfl (by kernel_rfl) (fun _ _ _ _ h => h) (by kernel_rfl) trivial ?_ ?_
   rotate_left
   ·rintro w9 -
    go_simp
    try with_reducible rfl
   try simp only [List.getElem_toArray, List.getElem_cons_succ, List.getElem_cons_zero, List.getElem?_toArray, List.getElem?_cons_succ, List.getElem?_cons_zero, Act.put, List.setIfInBounds_toArray, List.set_cons_zero, List.set_cons_succ]
   refine fan_take (i := 3) (v := ?_) rfl (by kernel_rfl) (fun _ _ _ _ h => h) (by kernel_rfl) trivial ?_ ?_
   rotate_left
   ·rintro w9 -
    go_simp
    try with_reducible rfl
   try simp only [List.getElem_toArray, List.getElem_cons_succ, List.getElem_cons_zero, List.getElem?_toArray, List.getElem?_cons_succ, List.getElem?_cons_zero, Act.put, List.setIfInBounds_toArray, List.set_cons_zero, List.set_cons_succ]
   refine fan_take (i := 4) (v := ?_) rfl (by kernel_rfl) (fun _ _ _ _ h => h) (by kernel_rfl) trivial ?_ ?_
   rotate_left
   ·rintro w9 -
    go_simp
    try with_reducible rfl
   try simp only [List.getElem_toArray, List.getElem_cons_succ, List.getElem_cons_zero, List.getElem?_toArray, List.getElem?_cons_succ, List.getElem?_cons_zero, Act.put, List.setIfInBounds_toArray, List.set_cons_zero, List.set_cons_succ]
   refine fan_take (i := 5) (v := ?_) rfl (by kernel_rfl) (fun _ _ _ _ h => h) (by kernel_rfl) trivial ?_ ?_
   rotate_left
   ·rintro w9 -
    go_simp
    try with_reducible rfl
   try simp only [List.getElem_toArray, List.getElem_cons_succ, List.getElem_cons_zero, List.getElem?_toArray, List.getElem?_cons_succ, List.getElem?_cons_zero, Act.put, List.setIfInBounds_toArray, List.set_cons_zero, List.set_cons_succ]
   refine fan_take (i := 6) (v := ?_) rfl (by kernel_rfl) (fun _ _ _ _ h => h) (by kernel_rfl) trivial ?_ ?_
   rotate_left
   ·rintro w9 -
    go_simp
    try with_reducible rfl
   try simp only [List.getElem_toArray, List.getElem_cons_succ, List.getElem_cons_zero, List.getElem?_toArray, List.getElem?_cons_succ, List.getElem?_cons_zero, Act.put, List.setIfInBounds_toArray, List.set_cons_zero, List.set_cons_succ]
   refine fan_take (i := 7) (v := ?_) rfl (by kernel_rfl) (fun _ _ _ _ h => h) (by kernel_rfl) trivial ?_ ?_
   rotate_left
   ·rintro w9 -
    go_simp
    try with_reducible rfl
   try simp only [List.getElem_toArray, List.getElem_cons_succ, List.getElem_cons_zero, List.getElem?_toArray, List.getElem?_cons_succ, List.getElem?_cons_zero, Act.put, List.setIfInBounds_toArray, List.set_cons_zero, List.set_cons_succ]
   refine fan_take (i := 8) (v := ?_) rfl (by kernel_rfl) (fun _ _ _ _ h => h) (by kernel_rfl) trivial ?_ ?_
   rotate_left
   ·rintro w9 -
    go_simp
    try with_reducible rfl
   try simp only [List.getElem_toArray, List.getElem_cons_succ, List.getElem_cons_zero, List.getElem?_toArray, List.getElem?_cons_succ, List.getElem?_cons_zero, Act.put, List.setIfInBounds_toArray, List.set_cons_zero, List.set_cons_succ]
   refine fan_take (i := 10) (v := ?_) rfl (by kernel_rfl) (fun _ _ _ _ h => h) (by kernel_rfl) trivial ?_ ?_
   rotate_left
   ·rintro w9 -
    go_simp
    try with_reducible rfl
   try simp only [List.getElem_toArray, List.getElem_cons_succ, List.getElem_cons_zero, List.getElem?_toArray, List.getElem?_cons_succ, List.getElem?_cons_zero, Act.put, List.setIfInBounds_toArray, List.set_cons_zero, List.set_cons_succ]
   refine fan_take (i := 11) (v := ?_) rfl (by kernel_rfl) (fun _ _ _ _ h => h) (by kernel_rfl) trivial ?_ ?_
   rotate_left
   ·rintro w9 -
    go_simp
    try with_reducible rfl
   try simp only [List.getElem_toArray, List.getElem_cons_succ, List.getElem_cons_zero, List.getElem?_toArray, List.getElem?_cons_succ, List.getElem?_cons_zero, Act.put, List.setIfInBounds_toArray, List.set_cons_zero, List.set_cons_succ]
   refine fan_take (i := 12) (v := ?_) rfl (by kernel_rfl) (fun _ _ _ _ h => h) (by kernel_rfl) trivial ?_ ?_
   rotate_left
   ·rintro w9 -
    go_simp
    try with_reducible rfl
   try simp only [List.getElem_toArray, List.getElem_cons_succ, List.getElem_cons_zero, List.getElem?_toArray, List.getElem?_cons_succ, List.getElem?_cons_zero, Act.put, List.setIfInBounds_toArray, List.set_cons_zero, List.set_cons_succ]
   refine fan_two 9 13 (by kernel_rfl) ?_ ?_
   ·refine fan_step rfl (by kernel_rfl) fun K hK => ?_
    go_simp
    refine hK _ _ trivial ?_
    clear hK K
    try simp only [List.getElem_toArray, List.getElem_cons_succ, List.getElem_cons_zero, List.getElem?_toArray, List.getElem?_cons_succ, List.getElem?_cons_zero, Act.put, List.setIfInBounds_toArray, List.set_cons_zero, List.set_cons_succ]
    refine fan_one 13 (by kernel_rfl) ?_
    refine fan_step rfl (by kernel_rfl) fun K hK => ?_
    go_simp
    refine hK _ _ trivial ?_
    clear hK K
    try simp only [List.getElem_toArray, List.getElem_cons_succ, List.getElem_cons_zero, List.getElem?_toArray, List.getElem?_cons_succ, List.getElem?_cons_zero, Act.put, List.setIfInBounds_toArray, List.set_cons_zero, List.set_cons_succ]
    refine fan_one 14 (by kernel_rfl) ?_
    refine fan_step rfl (by kernel_rfl) fun K hK => ?_
    go_simp
    refine hK _ _ trivial ?_
    clear hK K
    try simp only [List.getElem_toArray, List.getElem_cons_succ, List.getElem_cons_zero, List.getElem?_toArray, List.getElem?_cons_succ, List.getElem?_cons_zero, Act.put, List.setIfInBounds_toArray, List.set_cons_zero, List.set_cons_succ]
    refine fan_one 15 (by kernel_rfl) ?_
    refine fan_step rfl (by kernel_rfl) fun K hK => ?_
    go_simp
    refine hK _ _ trivial ?_
    clear hK K
    try simp only [List.getElem_toArray, List.getElem_cons_succ, List.getElem_cons_zero, List.getElem?_toArray, List.getElem?_cons_succ, List.getElem?_cons_zero, Act.put, List.setIfInBounds_toArray, List.set_cons_zero, List.set_cons_succ]
    refine fan_one 16 (by kernel_rfl) ?_
    refine fan_step rfl (by kernel_rfl) fun K hK => ?_
    go_simp
    refine hK _ _ trivial ?_
    clear hK K
    try simp only [List.getElem_toArray, List.getElem_cons_succ, List.getElem_cons_zero, List.getElem?_toArray, List.getElem?_cons_succ, List.getElem?_cons_zero, Act.put, List.setIfInBounds_toArray, List.set_cons_zero, List.set_cons_succ]
    refine fan_done (by kernel_rfl) ?_
    show wpList _ _ _ _ _ _
    go_wp2
    go_roundw
    case rel => exact ⟨j + 1, _, by omega, by go_num, hide FIN.out.2.2, hide FIN.out.1, hide FIN.out.2.1⟩
    case measure => simp [intOf]; omega
   ·refine fan_step rfl (by kernel_rfl) fun K hK => ?_
    go_simp
    refine hK _ _ trivial ?_
    clear hK K
    try simp only [List.getElem_toArray, List.getElem_cons_succ, List.getElem_cons_zero, List.getElem?_toArray, List.getElem?_cons_succ, List.getElem?_cons_zero, Act.put, List.setIfInBounds_toArray, List.set_cons_zero, List.set_cons_succ]
    refine fan_one 9 (by kernel_rfl) ?_
    refine fan_step rfl (by kernel_rfl) fun K hK => ?_
    go_simp
    refine hK _ _ trivial ?_
    clear hK K
    try simp only [List.getElem_toArray, List.getElem_cons_succ, List.getElem_cons_zero, List.getElem?_toArray, List.getElem?_cons_succ, List.getElem?_cons_zero, Act.put, List.setIfInBounds_toArray, List.set_cons_zero, List.set_cons_succ]
    refine fan_one 14 (by kernel_rfl) ?_
    refine fan_step rfl (by kernel_rfl) fun K hK => ?_
    go_simp
    refine hK _ _ trivial ?_
    clear hK K
    try simp only [List.getElem_toArray, List.getElem_cons_succ, List.getElem_cons_zero, List.getElem?_toArray, List.getElem?_cons_succ, List.getElem?_cons_zero, Act.put, List.setIfInBounds_toArray, List.set_cons_zero, List.set_cons_succ]
    refine fan_one 15 (by kernel_rfl) ?_
    refine fan_step rfl (by kernel_rfl) fun K hK => ?_
    go_simp
    refine hK _ _ trivial ?_
    clear hK K
    try simp only [List.getElem_toArray, List.getElem_cons_succ, List.getElem_cons_zero, List.getElem?_toArray, List.getElem?_cons_succ, List.getElem?_cons_zero, Act.put, List.setIfInBounds_toArray, List.set_cons_zero, List.set_cons_succ]
    refine fan_one 16 (by kernel_rfl) ?_
    refine fan_step rfl (by kernel_rfl) fun K hK => ?_
    go_simp
    refine hK _ _ trivial ?_
    clear hK K
    try simp only [List.getElem_toArray, List.getElem_cons_succ, List.getElem_cons_zero, List.getElem?_toArray, List.getElem?_cons_succ, List.getElem?_cons_zero, Act.put, List.setIfInBounds_toArray, List.set_cons_zero, List.set_cons_succ]
    refine fan_done (by kernel_rfl) ?_
    show wpList _ _ _ _ _ _
    go_wp2
    go_roundw
    case rel => exact ⟨j + 1, _, by omega, by go_num, hide FIN.out.2.2, hide FIN.out.1, hide FIN.out.2.1⟩
    case measure => simp [intOf]; omega
  ·have hx9 : Hid (¬ (j < t.length ∧ j < 40 ∧ 1 < l.length)) := c1
   have KT := hide (pagreed_any wr _ q (OwnJ.rd ho.out))
   have hq : qag q = (a, e) := by rw [qag_perm hp.out]; exact HAE.out
   rw [hq] at KT
   dsimp only at KT
   have hql : q.length = l.length := hp.out.length_eq
   have B4 := hide (B3.out.trans (hb.out.mono S2))
   go_upto_region 6 with fail
   go_cut [35] from 23 to 35 (fun s wx => s = .bool false ∧ wr = wx)
   case first =>
    have hx := hx9.out
    by_cases d1 : j < t.length
    ·by_cases d2 : j < 40
     ·have e1 : (j : Int) < (t.length : Int) := by omega
      have e2 : (j : Int) < 40 := by omega
      have e3 : ¬ (1 : Int) < (l.length : Int) := by omega
      clear c1 hx
      go_wp2_with fail
      go_meet
      exact ⟨rfl, rfl⟩
     ·have e1 : (j : Int) < (t.length : Int) := by omega
      have e2 : ¬ (j : Int) < 40 := by omega
      clear c1 hx
      go_wp2_with fail
      go_meet
      exact ⟨rfl, rfl⟩
    ·have e1 : ¬ (j : Int) < (t.length : Int) := by omega
     clear c1 hx
     go_wp2_with fail
     go_meet
     exact ⟨rfl, rfl⟩
   case rest =>
   obtain ⟨rfl, rfl⟩ := hcut
   clear c1 hx9 hq
   go_wp2_with fail
   refine KT.out.mono ?_
   rintro e' w4 ⟨rfl, b4⟩
   have B5 := hide (B4.out.trans (b4.mono B4.out.size))
   have KN := hide (qnum_any w4 e)
   clear b4 KT
   go_wp2_with fail
   refine KN.out.mono ?_
   rintro e' w5 ⟨rfl, rfl⟩
   clear KN
   obtain ⟨E0, hE0⟩ : ∃ E0, E0 = (e != 0) := ⟨_, rfl⟩
   have hE9 : (e != 0) = E0 := hE0.symm
   replace hE0 := hide hE0
   go_wp2
   go_loopw [12, 13] (fun c i wx => ∃ (k : Nat) (C : Bool), k ≤ l.length ∧ i = .int .i64 k ∧ c = .bool C ∧ Hid (C = true ↔ E0 = true ∨ a ∈ l.take k) ∧ Hid (Below w4.heap.size w4 wx)) (fun _ i _ => l.length - (intOf i).toNat)
   case atStart => exact ⟨0, E0, Nat.zero_le _, rfl, rfl, hide (by simp), hide (Below.refl _ _)⟩
   case round =>
    obtain ⟨k, C, hk, rfl, rfl, hC, hw⟩ := hrel
    by_cases hlt : k < l.length
    ·have hq : (k : Int) < (l.length : Int) := by omega
     obtain ⟨y, hy⟩ := some_el l hlt
     have bw := B5.out.trans (hw.out.mono B5.out.size)
     obtain ⟨p0, o0, rfl, y0⟩ := (H0.out.to0 bw).intAt hy
     have HN := hide (is_next hy hC.out)
     clear hy bw
     cases C
     ·obtain ⟨D, hD⟩ : ∃ D, D = (y == a) := ⟨_, rfl⟩
      rw [Bool.false_or, ← hD] at HN
      cases D
      ·have hd : (y == a) = false := hD.symm
       clear hD
       go_wp2
       go_roundw
       case rel => exact ⟨k + 1, false, by omega, by go_num, rfl, HN, hw⟩
       case measure => simp [intOf]; omega
      ·have hd : y = a := by simpa using hD.symm
       clear hD
       subst hd
       go_wp2
       go_roundw
       case rel => exact ⟨k + 1, true, by omega, by go_num, rfl, HN, hw⟩
       case measure => simp [intOf]; omega
     ·rw [Bool.true_or] at HN
      go_wp2
      go_roundw
      case rel => exact ⟨k + 1, true, by omega, by go_num, rfl, HN, hw⟩
      case measure => simp [intOf]; omega
    ·have hq : ¬ (k : Int) < (l.length : Int) := by omega
     have hCt : C = true := by
      rw [hC.out, List.take_of_length_le (by omega)]
      by_cases he : e = 0
      ·obtain ⟨hb1, _, h3⟩ := qag_ok (l := l) (by rw [HAE.out]; exact he)
       rw [HAE.out] at h3
       have := qagr_mem hb1
       rw [(Prod.mk.inj h3).1]
       exact .inr this
      ·exact .inl (by rw [hE0.out]; simpa using he)
     subst hCt
     have BF := hide (B5.out.trans (hw.out.mono B5.out.size))
     go_wp2
     go_ret
     exact ⟨rfl, BF.out⟩
set_option maxRecDepth 100000 in
theorem lifted (os : Os) (started : os.Started) (H : Type) (enc : TypeId × Value → H) :
  ReturnsInHanded {} Try.checked os 6 .any (Rows.quorumOrderSpec.pre6 enc Try.prog Try.f6 Rows.quorumOrderRow.domain false) (Rows.quorumOrderSpec.post enc Try.prog Try.f6 false true false false) := by
 refine returnsInHanded_of_change_sized (C := Try.checked) own started (by kernel_rfl) Try.func6
  (ChangeSpec.witness6 (enc := enc) (C := Try.checked) false ⟨#[], #[.slice none 0 0, .slice none 0 0], []⟩ 8 (by kernel_rfl) (by kernel_rfl) (by kernel_rfl) (by kernel_rfl)) ?_
 intro W base args ds gs before hval0 hW hcnd hsz0 _
 have hsz : (DataW.weightsEach Try.prog (Try.f6.params.toList ++ Rows.quorumOrderSpec.plain.varTypes Try.prog) (ds ++ gs)).all (· ≤ reachBytes) = true := hsz0
 have hval : ∀ (j : Nat) t v, Try.f6.params[j]? = some t → args[j]? = some v → Value.okWide Try.prog W .any base t v := hval0
 have hW' := hW
 obtain ⟨p, q, hA0, hV, rfl, hfz, hnd⟩ := hW
 have hA : DataW.TrodAll enc Try.prog W 0 (fun _ => true) true Try.f6.params.toList args.toList ds p := hA0
 rw [Try.params6] at hA hval hsz
 obtain ⟨v0, vs0, d0, ds0, p0, q0, hargs, rfl, rfl, h0, r0⟩ := trodAll_cons hA
 obtain ⟨v1, vs1, d1, ds1, p1, q1, rfl, rfl, rfl, h1, r1⟩ := trodAll_cons r0
 obtain ⟨rfl, rfl, rfl⟩ := trodAll_nil r1
 obtain rfl : args = #[v0, v1] := by cases args; simp_all
 obtain ⟨rfl, rfl⟩ := trodVars_none hV
 obtain ⟨a0, len0, cap0, rfl⟩ := okWide_slice Try.underlying22 (hval 0 22 v0 rfl rfl)
 have lt0 : ∀ x ∈ p0, x.block < W.heap.size := by obtain ⟨m, hm⟩ := h0; exact DataW.trod_lt m _ _ _ hm
 have hh0 := h0
 obtain ⟨fu0, hf0⟩ := hh0
 obtain ⟨x0, g0, f0, b0⟩ := open_int14.opened hf0
 obtain ⟨a1, len1, cap1, rfl⟩ := okWide_slice Try.underlying22 (hval 1 22 v1 rfl rfl)
 have lt1 : ∀ x ∈ p1, x.block < W.heap.size := by obtain ⟨m, hm⟩ := h1; exact DataW.trod_lt m _ _ _ hm
 have hh1 := h1
 obtain ⟨fu1, hf1⟩ := hh1
 obtain ⟨x1, g1, f1, b1⟩ := open_int14.opened hf1
 have m0 := f0 (reach_of hsz (j := 0) rfl rfl)
 have m1 := f1 (reach_of hsz (j := 1) rfl rfl)
 clear hA0 hval0 hsz0 hsz
 refine (walk W a0 len0 cap0 x0 g0 m0 a1 len1 cap1 x1 g1 m1).mono fun e W' ⟨he, bel⟩ => ?_
 subst he
 exact ⟨_, rfl, _, _, _, [], _, [], hW', trodAll_mk1 (shut_bool Try.underlying4 _), (trodAll_cons_mk (Below.trod laidOut (by kernel_rfl) (of_decide_eq_true (by kernel_rfl)) h0 bel lt0) (trodAll_cons_mk (Below.trod laidOut (by kernel_rfl) (of_decide_eq_true (by kernel_rfl)) h1 bel lt1) trodAll_mk0)), rfl, bel.frame _, fun h => by cases h⟩
theorem over : Rows.quorumOrderRow.holds Try.pinned (OpenSpec.ofChange Rows.quorumOrderSpec) :=
 OpenClaim.holds_of_wide 6 Try.f6 rfl rfl rfl rfl rfl rfl rfl ⟨rfl, rfl, rfl, rfl, rfl⟩ rfl rfl rfl rfl rfl (by kernel_rfl) Try.func6 (by kernel_rfl)
  (of_decide_eq_true (by kernel_rfl)) (by unfold Func.isWrapper; first | (rw [if_pos (by decide +kernel)]; kernel_rfl) | (rw [if_neg (by decide +kernel)]; exact ⟨rfl, rfl⟩))
  (fun os started H enc _ => lifted os started H enc)
end Go.Proofs.Ytnkbolgbpdjpcaa.quorumOrder
namespace Go.Proofs.Ytnkbolgbpdjpcaa
theorem quorumOrder_holds : Rows.QuorumOrderSaid := quorumOrder.over
end Go.Proofs.Ytnkbolgbpdjpcaa
