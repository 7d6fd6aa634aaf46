/-
  The program's read of octets as a node, from label to label.
-/
import Derived.Test.YtgmkknonnidgaaaNPF
import Derived.Test.YtgmkknonnidgaaaRSched
namespace Go.Proofs.Ytgmkknonnidgaaa
open Go.RowKit
set_option linter.unusedVariables false
set_option linter.unusedSimpArgs false

theorem jumpN_ret {J : Nat → Act → World → Prop} {Q : Exit → Act → World → Prop} {a : Act} {w : World} : jumpN J Q Exit.ret a w = Q Exit.ret a w := rfl
/-- the frame at a label -/
def Fr9 (w0 : World) (left nb : Nat) (a' : Act) : Prop := ∃ u0 u1 u5 u8 u9 u10 u11 u12 u13 u14 u15 u16 u17 u18 u19 u20 u21 u22 u23 u24 u25 u26 u27 u28 u29 u30 u31 u32 u33 u34 u35 u36 u37 u38 u39 u40 u41 u42 u43 u44 u45 u46 u47 u48 u49 u50 u51 u52 u53 u54 u55 u56 u57 u58 u59 u60 u61 u62 u63 u64 u65 u66 u67 u68 u69 u70 u71 u72 : Value, a' = { tmps := #[u0, u1, .pointer (some ⟨w0.heap.size, 0, none⟩), .int .i64 0, .pointer (some ⟨w0.heap.size + 1, 0, none⟩), u5, .int .i64 (left : Int), .pointer (some ⟨nb, 0, none⟩), u8, u9, u10, u11, u12, u13, u14, u15, u16, u17, u18, u19, u20, u21, u22, u23, u24, u25, u26, u27, u28, u29, u30, u31, u32, u33, u34, u35, u36, u37, u38, u39, u40, u41, u42, u43, u44, u45, u46, u47, u48, u49, u50, u51, u52, u53, u54, u55, u56, u57, u58, u59, u60, u61, u62, u63, u64, u65, u66, u67, u68, u69, u70, u71, u72], defers := [] }
def G9 (xs : List UInt8) (l left : Nat) (n : Nd) (r : Rr) : Prop :=
  (l = 0 ∧ nread xs = rfin (rpairs left r n) ∨ l = 1 ∧ nread xs = rfin (rkids left r n) ∨ l = 2 ∧ nread xs = rfin (n, r)) ∧ (l = 2 ∨ n.keys.length + left ≤ 256 ∧ n.vals.length + left ≤ 256 ∧ n.kids.length + left ≤ 256)
def J9 (w0 : World) (xs : List UInt8) (l : Nat) (a' : Act) (w' : World) : Prop := ∃ (left nb : Nat) (kv vv dv : Value) (n : Nd) (r : Rr), Fr9 w0 left nb a' ∧ RSt w0 nb w' kv vv dv n r ∧ G9 xs l left n r
theorem sl_ok {B : Nat} {w : World} {kv vv dv : Value} {n : Nd} (h : OwnN B w kv vv dv n) : ∃ a c a' c' a'' c'', kv = .slice a n.keys.length c ∧ vv = .slice a' n.vals.length c' ∧ dv = .slice a'' n.kids.length c'' := h.rd.slices
theorem frz {w : World} {g : Nat} {cs : Array Value} {t : TypeId} (h : w.heap[g]? = some (.cells cs t (0, 0))) (i : Nat) : w.frozen? ⟨g, i, none⟩ = false := by simp [World.frozen?, h]

set_option maxRecDepth 100000 in
set_option maxHeartbeats 8000000 in
theorem preadD_any (w : World) (v : Value) (xs : List UInt8) (h : Rd w v xs) :
    Calls Try.prog 81 #[v] w fun e w' => ∃ kv vv dv, e = .returned (.tuple #[nv (nread xs).1 kv vv dv, .int .i64 (nread xs).2]) ∧ OwnN w.heap.size w' kv vv dv (nread xs).1 ∧ Below w.heap.size w w' ∧ Dj kv vv dv := by
  obtain ⟨a, c, rfl⟩ := h.slice
  obtain ⟨i0, ii, iz0, iz1, iz2⟩ := info_parts infoT
  obtain ⟨j0, ji, jz0, jz1, jz2⟩ := info_parts infoJ
  have HH := hide h
  clear h
  go_enter Try.func81, Try.ntmps81
  go_wp2
  refine wp_scope_labels (J9 w xs) (fun l a' _ => if l = 2 then 0 else (intOf (a'.tmps.getD 6 undef)).toNat + 1) ?_ ?_ ?_
  · rintro l a' w' ⟨left, nb, kv, vv, dv, n, r, _, _, hg, _⟩
    rcases hg with ⟨rfl, _⟩ | ⟨rfl, _⟩ | ⟨rfl, _⟩ <;> kernel_rfl
  · obtain ⟨X, hX⟩ : ∃ X, X = ((w.alloc (.cells #[.bool false, nil9, nil9, nil9] 83)).alloc (.cells #[.slice a xs.length c, .bool false] 170)) := ⟨_, rfl⟩
    have bX : Below w.heap.size w X := by rw [hX]; exact ((Below.refl _ _).alloc (Nat.le_refl _) _).alloc (by simp) _
    have sX : X.heap.size = w.heap.size + 1 + 1 := by rw [hX]; simp
    have gX : X.heap[w.heap.size + 1]? = some (.cells #[.slice a xs.length c, .bool false] 170 (0, 0)) := by
      rw [hX]
      have := heap_alloc_last (w.alloc (.cells #[.bool false, nil9, nil9, nil9] 83)) (.cells #[.slice a xs.length c, .bool false] 170)
      simpa using this
    have rX : X.heap[w.heap.size]? = some (.cells #[.bool false, nil9, nil9, nil9] 83 (0, 0)) := by
      rw [hX, Below.heap_alloc _ _ _ (by simp)]; exact heap_alloc_last w _
    obtain ⟨r0, hr0⟩ : ∃ r : Rr, r = ⟨xs, false⟩ := ⟨_, rfl⟩
    have x0 : RdrX w (w.heap.size + 1) X r0 := by subst hr0; exact ⟨a, c, gX, HH.out, bX, by omega⟩
    have K1 := hide (pnumber_any w (w.heap.size + 1) X r0 1 x0 (by decide) (by decide))
    have RX := hide (And.intro rX sX)
    have HR := hide hr0
    clear bX gX rX x0 hr0
    go_wp2_with fail
    rw [← hX]
    replace hX := hide hX
    refine K1.out.mono ?_
    rintro e w1 ⟨rfl, r1, k1⟩
    clear K1
    have K2 := hide (pnumber_any w (w.heap.size + 1) w1 (rst 1 r0) 1 r1 (by decide) (by decide))
    have RY : Hid (w1.heap[w.heap.size]? = some (.cells #[.bool false, nil9, nil9, nil9] 83 (0, 0)) ∧ w.heap.size + 1 + 1 ≤ w1.heap.size) := ⟨(k1.1 _ (by have := RX.out.2; omega) (by omega)).trans RX.out.1, by have := k1.2.1; have := RX.out.2; omega⟩
    obtain ⟨M, hM⟩ : ∃ M, M = rnum 1 r0 := ⟨_, rfl⟩
    rw [← hM]
    replace hM := hide hM
    clear r1 k1 RX
    go_wp2_with fail
    refine K2.out.mono ?_
    rintro e w2 ⟨rfl, r2, k2⟩
    clear K2
    have RZ : Hid (w2.heap[w.heap.size]? = some (.cells #[.bool false, nil9, nil9, nil9] 83 (0, 0)) ∧ w.heap.size + 1 + 1 ≤ w2.heap.size) := ⟨(k2.1 _ (by have := RY.out.2; omega) (by omega)).trans RY.out.1, by have := k2.2.1; have := RY.out.2; omega⟩
    have hL : rnum 1 (rst 1 r0) < 256 := rnum_lt 1 _
    obtain ⟨left, hleft⟩ : ∃ L, L = rnum 1 (rst 1 r0) := ⟨_, rfl⟩
    rw [← hleft] at hL ⊢
    replace hleft := hide hleft
    obtain ⟨r, hr⟩ : ∃ q, q = rst 1 (rst 1 r0) := ⟨_, rfl⟩
    rw [← hr] at r2
    replace hr := hide hr
    obtain ⟨nb, hnb⟩ : ∃ nb, nb = w2.heap.size := ⟨_, rfl⟩
    have ST : Hid (∀ b : Bool, RSt w nb (w2.alloc (.cells #[.bool b, nil9, nil9, nil9] 83)) nil9 nil9 nil9 ⟨b, [], [], []⟩ r) := fun b => by
      have bb : Below w2.heap.size w2 (w2.alloc (.cells #[.bool b, nil9, nil9, nil9] 83)) := (Below.refl _ _).alloc (Nat.le_refl _) _
      refine ⟨r2.to bb, (bb.block _ (lt_of_block RZ.out.1)).trans RZ.out.1, by rw [hnb]; exact heap_alloc_last w2 _, OwnN.nil _ _ _, by have := RZ.out.2; omega, ?_, ?_, ?_⟩ <;> (intro k e; cases e)
    clear r2 k2 RY
    by_cases m1 : M = 1
    · subst m1
      have S0 := hide (ST.out true)
      clear ST
      have hM1 := hM
      clear hM
      obtain ⟨V, hV⟩ : ∃ V, V = w2.alloc (.cells #[.bool true, nil9, nil9, nil9] 83) := ⟨_, rfl⟩
      rw [← hV] at S0
      obtain ⟨ra, rc, hrd⟩ := S0.out.rdr
      obtain ⟨⟨A0, A1⟩, _⟩ := cells2r hrd.box
      have RES := hide S0.out.res
      have BEL := hide hrd.bel
      clear hrd
      obtain ⟨⟨R0, R1, R2, R3⟩, Rf⟩ := cells4 RES.out
      have Rf0 := Rf 0
      have Rf1 := Rf 1
      have Rf2 := Rf 2
      have Rf3 := Rf 3
      clear Rf
      have N0 := (cells4 S0.out.box).1.1
      rw [hnb] at N0
      cases hsh : r.short with
      | true =>
        rw [hsh] at A1
        have e : Hid (nread xs = (none9, 8)) := nread_short (by rw [← HR.out, ← hr.out]; exact hsh)
        replace hsh := hide hsh
        rw [hV] at A0 A1 N0 R0 R1 R2 R3 Rf0 Rf1 Rf2 Rf3
        go_wp2
        rw [← hV]
        rw [jumpN_ret]
        refine retNT rfl rfl w.heap.size rfl _ _ (0, 0) (heap_set4 (u := V) RES.out _ _ _ _) _ Try.underlying83 rfl info_ndP (.int .i64 8) rfl ?_
        exact ⟨nil9, nil9, nil9, by rw [e.out]; rfl, by rw [e.out]; exact OwnN.nil _ _ _, below_set4n BEL.out (Nat.le_refl _) _ _ _ _, Dj.nil⟩
      | false =>
        rw [hsh] at A1
        have hs0 : Hid ((rst 1 (rst 1 ⟨xs, false⟩)).short = false) := by show _ = _; rw [← HR.out, ← hr.out]; exact hsh
        replace hsh := hide hsh
        rw [hV] at A0 A1 N0 R0 R1 R2 R3 Rf0 Rf1 Rf2 Rf3
        go_wp2
        go_step3
        rw [← hV]
        exact ⟨left, nb, _, _, _, ⟨true, [], [], []⟩, r, by rw [hnb]; exact ⟨_, _, _, _, _, _, _, _, _, _, _, _, _, _, _, _, _, _, _, _, _, _, _, _, _, _, _, _, _, _, _, _, _, _, _, _, _, _, _, _, _, _, _, _, _, _, _, _, _, _, _, _, _, _, _, _, _, _, _, _, _, _, _, _, _, _, _, _, rfl⟩, S0.out, .inl ⟨rfl, by rw [hleft.out, hr.out, HR.out]; exact nread_leaf hs0.out (by rw [← HR.out, ← hM1.out])⟩, .inr ⟨by simp; omega, by simp; omega, by simp; omega⟩⟩
    · by_cases m0 : M = 0
      · subst m0
        have S0 := hide (ST.out false)
        clear ST m1
        have hM1 := hM
        clear hM
        obtain ⟨V, hV⟩ : ∃ V, V = w2.alloc (.cells #[.bool false, nil9, nil9, nil9] 83) := ⟨_, rfl⟩
        rw [← hV] at S0
        obtain ⟨ra, rc, hrd⟩ := S0.out.rdr
        obtain ⟨⟨A0, A1⟩, _⟩ := cells2r hrd.box
        have RES := hide S0.out.res
        have BEL := hide hrd.bel
        clear hrd
        obtain ⟨⟨R0, R1, R2, R3⟩, Rf⟩ := cells4 RES.out
        have Rf0 := Rf 0
        have Rf1 := Rf 1
        have Rf2 := Rf 2
        have Rf3 := Rf 3
        clear Rf
        have N0 := (cells4 S0.out.box).1.1
        rw [hnb] at N0
        cases hsh : r.short with
        | true =>
          rw [hsh] at A1
          have e : Hid (nread xs = (none9, 8)) := nread_short (by rw [← HR.out, ← hr.out]; exact hsh)
          replace hsh := hide hsh
          rw [hV] at A0 A1 N0 R0 R1 R2 R3 Rf0 Rf1 Rf2 Rf3
          go_wp2
          rw [← hV]
          rw [jumpN_ret]
          refine retNT rfl rfl w.heap.size rfl _ _ (0, 0) (heap_set4 (u := V) RES.out _ _ _ _) _ Try.underlying83 rfl info_ndP (.int .i64 8) rfl ?_
          exact ⟨nil9, nil9, nil9, by rw [e.out]; rfl, by rw [e.out]; exact OwnN.nil _ _ _, below_set4n BEL.out (Nat.le_refl _) _ _ _ _, Dj.nil⟩
        | false =>
          rw [hsh] at A1
          have hs0 : Hid ((rst 1 (rst 1 ⟨xs, false⟩)).short = false) := by show _ = _; rw [← HR.out, ← hr.out]; exact hsh
          replace hsh := hide hsh
          rw [hV] at A0 A1 N0 R0 R1 R2 R3 Rf0 Rf1 Rf2 Rf3
          go_wp2
          go_step3
          rw [← hV]
          obtain ⟨n, hn⟩ : ∃ n : Nd, n = ⟨false, [], [], []⟩ := ⟨_, rfl⟩
          rw [← hn] at S0
          have hb1 : n.keys.length + left ≤ 256 := by rw [hn]; simp; omega
          have hb2 : n.vals.length + left ≤ 256 := by rw [hn]; simp; omega
          have hb3 : n.kids.length + left ≤ 256 := by rw [hn]; simp; omega
          have hG : Hid (nread xs = rfin (rkids left r n)) := by
            show _ = _
            rw [hn, hleft.out, hr.out, HR.out]
            exact nread_inner hs0.out (by rw [← HR.out, ← hM1.out])
          replace hn := hide hn
          rw [← hnb]
          replace hnb := hide hnb
          replace hV := hide hV
          clear A0 A1 N0 R0 R1 R2 R3 Rf0 Rf1 Rf2 Rf3
          by_cases h0 : left = 0
          · subst h0
            have hG2 : Hid (nread xs = rfin (rkids 0 r n)) := hG
            clear hG
            go_wp2
            have SD6 : Hid (RSt w nb V.drew nil9 nil9 nil9 (⟨n.leaf, n.keys, n.vals, n.kids⟩ : Nd) r) := hide (S0.out.below ((Below.refl V.heap.size V).drew))
            have KT6 := hide (pnumber_any w (w.heap.size + 1) V.drew r 4 SD6.out.rdr (by decide) (by decide))
            have CB6 : Hid (∀ (U : World) (q : Rr), RSt w nb U nil9 nil9 nil9 (⟨n.leaf, n.keys, n.vals, n.kids⟩ : Nd) q → U.cell? ⟨nb, 3, none⟩ = some nil9) := fun U q h => (cells4 h.box).1.2.2.2
            refine wp_region_sched (fun w9 => w9.cell? ⟨nb, 3, none⟩ = some nil9) [(0, true), (1, true), (2, false), (3, false)] 4 mixed (by kernel_rfl) (fun _ _ _ _ h => h) ?_
            iterate 2
              refine sched_take (v := ?_) rfl (by kernel_rfl) (CB6.out _ _ SD6.out) ?_ ?_
              rotate_left
              · intro w9 r1
                go_simp
                try with_reducible rfl
              try simp only [Act.put, List.setIfInBounds_toArray, List.set_cons_zero, List.set_cons_succ]
            refine sched_run rfl (by kernel_rfl) fun K hK => ?_
            refine wp_call_of 101 _ _ (by rfl) #[.pointer (some ⟨w.heap.size + 1, 0, none⟩), .int .i64 4] (by simp [Act.eval]) (Try.call101 _ _) KT6.out ?_
            rintro e wa6 ⟨rfl, ra6, ka6⟩
            have sa6 := SD6.out.call ka6 ra6
            refine ⟨_, rfl, hK _ _ (CB6.out _ _ sa6) ?_⟩
            clear hK K
            have SA6 := hide sa6
            clear sa6 ra6 ka6
            try simp only [Act.put, List.setIfInBounds_toArray, List.set_cons_zero, List.set_cons_succ]
            refine sched_run rfl (by kernel_rfl) fun K hK => ?_
            have sb6 := SA6.out.below ((Below.refl wa6.heap.size wa6).alloc (Nat.le_refl _) (.cells #[(.int .i64 ((rnum 4 r : Nat) : Int))] 3))
            go_simp
            refine hK _ _ (CB6.out _ _ sb6) ?_
            clear hK K
            try simp only [Act.put, List.setIfInBounds_toArray, List.set_cons_zero, List.set_cons_succ]
            show wpList _ _ _ _ _ _
            dsimp only [List.drop]
            have FI6 : Hid (∀ (g cp : Nat) (U : World), U.ownsRow (nb + 1) 3 1 (.slice (some ⟨g, 0, none⟩) (n.kids.length + 1) cp) (n.kids.length + 1) (n.kids.map (Value.int .i64) ++ [(.int .i64 ((rnum 4 r : Nat) : Int))]) → (wa6.alloc (.cells #[(.int .i64 ((rnum 4 r : Nat) : Int))] 3)).grownBy U (Value.ownBlock nil9) → (Value.ownBlock nil9 = some g ∨ g = wa6.heap.size + 1) → U.cell? ⟨nb, 3, none⟩ = some nil9 ∧ U.frozen? ⟨nb, 3, none⟩ = false ∧ Hid (RSt w nb (U.setCell ⟨nb, 3, none⟩ (.slice (some ⟨g, 0, none⟩) (n.kids.length + 1) cp)) nil9 nil9 (.slice (some ⟨g, 0, none⟩) (n.kids.length + 1) cp) (⟨n.leaf, n.keys, n.vals, (n.kids ++ [((rnum 4 r : Nat) : Int)])⟩ : Nd) (rst 4 r))) := fun g cp U ob kb hb => by
              have sb := sb6
              have nbl := (kb.block nb (lt_of_block sb.box) (fun e => by have := (row_from sb.own.kids nb e.symm).1; omega)).trans sb.box
              have oo : OwnJ (nb + 1) U (.slice (some ⟨g, 0, none⟩) (n.kids.length + 1) cp) (n.kids ++ [((rnum 4 r : Nat) : Int)]) := by show World.ownsRow _ _ _ _ _ _ _; simpa using ob
              exact ⟨(cells4 nbl).1.2.2.2, frz nbl 3, hide (sb.kids rfl oo kb (by rcases hb with h | h; exact .inl h; exact .inr (by simpa using h)))⟩
            have own6 := sb6.own.kids
            dsimp only at own6
            have lt6 := lt_of_block sb6.box
            clear sb6 KT6 CB6 SD6 SA6
            go_wp2_with (at_builtin; refine wpList_append_lies _ rfl _ _ 28 rfl (nb + 1) 3 _ (.int .i64 0) 1 8 Try.underlying28 ji jz0 jz1 jz2 rfl (by decide) nil9 n.kids.length (n.kids.map (Value.int .i64)) rfl own6 ⟨wa6.heap.size, 0, none⟩ 1 1 [(.int .i64 ((rnum 4 r : Nat) : Int))] rfl rfl (World.news_of_block (heap_alloc_last wa6 _)) (by simp [Value.oneCell']) (by decide) (by rw [show maxLen = 9223372036854775807 from rfl]; first | omega | (simp; omega)) (by first | omega | (simp; omega)) (by omega) (wa6.heap.size + 1) (by simp) ?_; intro ga6 ca6 wb6 ob6 kb6 hb6 _; obtain ⟨cc6, fz6, ST6⟩ := FI6.out ga6 ca6 wb6 ob6 kb6 hb6; clear ob6 kb6 hb6 FI6 own6 lt6)
            clear cc6 fz6
            go_step3
            exact ⟨0, nb, _, _, _, (⟨n.leaf, n.keys, n.vals, (n.kids ++ [((rnum 4 r : Nat) : Int)])⟩ : Nd), (rst 4 r), ⟨_, _, _, _, _, _, _, _, _, _, _, _, _, _, _, _, _, _, _, _, _, _, _, _, _, _, _, _, _, _, _, _, _, _, _, _, _, _, _, _, _, _, _, _, _, _, _, _, _, _, _, _, _, _, _, _, _, _, _, _, _, _, _, _, _, _, _, _, rfl⟩, ST6.out, ⟨.inr (.inr ⟨rfl, hG2.out⟩), .inl rfl⟩⟩
          · skip
            obtain ⟨j, hj⟩ : ∃ j, left = j + 1 := ⟨left - 1, by omega⟩
            have hj1 : (left : Int) - 1 = (j : Int) := by omega
            have hj3 : IntKind.i64.wrap (j : Int) = (j : Int) := IntWalk.i64_in _ (by omega)
            have hj4 : ((left : Int) == 0) = false := ieq_f (by omega)
            replace hj := hide hj
            clear h0
            have hG2 : Hid (nread xs = rfin (rkids (j + 1) r n)) := by show _ = _; rw [← hj.out]; exact hG.out
            clear hG
            go_wp2
            have SD7 : Hid (RSt w nb V.drew nil9 nil9 nil9 (⟨n.leaf, n.keys, n.vals, n.kids⟩ : Nd) r) := hide (S0.out.below ((Below.refl V.heap.size V).drew))
            have KT7 := hide (pnumber_any w (w.heap.size + 1) V.drew r 4 SD7.out.rdr (by decide) (by decide))
            have CB7 : Hid (∀ (U : World) (q : Rr), RSt w nb U nil9 nil9 nil9 (⟨n.leaf, n.keys, n.vals, n.kids⟩ : Nd) q → U.cell? ⟨nb, 3, none⟩ = some nil9) := fun U q h => (cells4 h.box).1.2.2.2
            refine wp_region_sched (fun w9 => w9.cell? ⟨nb, 3, none⟩ = some nil9) [(0, true), (1, true), (2, false), (3, false)] 4 mixed (by kernel_rfl) (fun _ _ _ _ h => h) ?_
            iterate 2
              refine sched_take (v := ?_) rfl (by kernel_rfl) (CB7.out _ _ SD7.out) ?_ ?_
              rotate_left
              · intro w9 r1
                go_simp
                try with_reducible rfl
              try simp only [Act.put, List.setIfInBounds_toArray, List.set_cons_zero, List.set_cons_succ]
            refine sched_run rfl (by kernel_rfl) fun K hK => ?_
            refine wp_call_of 101 _ _ (by rfl) #[.pointer (some ⟨w.heap.size + 1, 0, none⟩), .int .i64 4] (by simp [Act.eval]) (Try.call101 _ _) KT7.out ?_
            rintro e wa7 ⟨rfl, ra7, ka7⟩
            have sa7 := SD7.out.call ka7 ra7
            refine ⟨_, rfl, hK _ _ (CB7.out _ _ sa7) ?_⟩
            clear hK K
            have SA7 := hide sa7
            clear sa7 ra7 ka7
            try simp only [Act.put, List.setIfInBounds_toArray, List.set_cons_zero, List.set_cons_succ]
            refine sched_run rfl (by kernel_rfl) fun K hK => ?_
            have sb7 := SA7.out.below ((Below.refl wa7.heap.size wa7).alloc (Nat.le_refl _) (.cells #[(.int .i64 ((rnum 4 r : Nat) : Int))] 3))
            go_simp
            refine hK _ _ (CB7.out _ _ sb7) ?_
            clear hK K
            try simp only [Act.put, List.setIfInBounds_toArray, List.set_cons_zero, List.set_cons_succ]
            show wpList _ _ _ _ _ _
            dsimp only [List.drop]
            have FI7 : Hid (∀ (g cp : Nat) (U : World), U.ownsRow (nb + 1) 3 1 (.slice (some ⟨g, 0, none⟩) (n.kids.length + 1) cp) (n.kids.length + 1) (n.kids.map (Value.int .i64) ++ [(.int .i64 ((rnum 4 r : Nat) : Int))]) → (wa7.alloc (.cells #[(.int .i64 ((rnum 4 r : Nat) : Int))] 3)).grownBy U (Value.ownBlock nil9) → (Value.ownBlock nil9 = some g ∨ g = wa7.heap.size + 1) → U.cell? ⟨nb, 3, none⟩ = some nil9 ∧ U.frozen? ⟨nb, 3, none⟩ = false ∧ Hid (RSt w nb (U.setCell ⟨nb, 3, none⟩ (.slice (some ⟨g, 0, none⟩) (n.kids.length + 1) cp)) nil9 nil9 (.slice (some ⟨g, 0, none⟩) (n.kids.length + 1) cp) (⟨n.leaf, n.keys, n.vals, (n.kids ++ [((rnum 4 r : Nat) : Int)])⟩ : Nd) (rst 4 r))) := fun g cp U ob kb hb => by
              have sb := sb7
              have nbl := (kb.block nb (lt_of_block sb.box) (fun e => by have := (row_from sb.own.kids nb e.symm).1; omega)).trans sb.box
              have oo : OwnJ (nb + 1) U (.slice (some ⟨g, 0, none⟩) (n.kids.length + 1) cp) (n.kids ++ [((rnum 4 r : Nat) : Int)]) := by show World.ownsRow _ _ _ _ _ _ _; simpa using ob
              exact ⟨(cells4 nbl).1.2.2.2, frz nbl 3, hide (sb.kids rfl oo kb (by rcases hb with h | h; exact .inl h; exact .inr (by simpa using h)))⟩
            have own7 := sb7.own.kids
            dsimp only at own7
            have lt7 := lt_of_block sb7.box
            clear sb7 KT7 CB7 SD7 SA7
            go_wp2_with (at_builtin; refine wpList_append_lies _ rfl _ _ 28 rfl (nb + 1) 3 _ (.int .i64 0) 1 8 Try.underlying28 ji jz0 jz1 jz2 rfl (by decide) nil9 n.kids.length (n.kids.map (Value.int .i64)) rfl own7 ⟨wa7.heap.size, 0, none⟩ 1 1 [(.int .i64 ((rnum 4 r : Nat) : Int))] rfl rfl (World.news_of_block (heap_alloc_last wa7 _)) (by simp [Value.oneCell']) (by decide) (by rw [show maxLen = 9223372036854775807 from rfl]; first | omega | (simp; omega)) (by first | omega | (simp; omega)) (by omega) (wa7.heap.size + 1) (by simp) ?_; intro ga7 ca7 wb7 ob7 kb7 hb7 _; obtain ⟨cc7, fz7, ST7⟩ := FI7.out ga7 ca7 wb7 ob7 kb7 hb7; clear ob7 kb7 hb7 FI7 own7 lt7)
            clear cc7 fz7
            obtain ⟨V8, hV8⟩ : ∃ U, U = (wb7.setCell ⟨nb, 3, none⟩ (.slice (some ⟨ga7, 0, none⟩) (n.kids.length + 1) ca7)) := ⟨_, rfl⟩
            rw [← hV8]
            rw [← hV8] at ST7
            replace hV8 := hide hV8
            have SD8 : Hid (RSt w nb V8.drew nil9 nil9 (.slice (some ⟨ga7, 0, none⟩) (n.kids.length + 1) ca7) (⟨n.leaf, n.keys, n.vals, (n.kids ++ [((rnum 4 r : Nat) : Int)])⟩ : Nd) (rst 4 r)) := hide (ST7.out.below ((Below.refl V8.heap.size V8).drew))
            have KT8 := hide (ptxt_any w (w.heap.size + 1) V8.drew (rst 4 r) SD8.out.rdr)
            have CB8 : Hid (∀ (U : World) (q : Rr), RSt w nb U nil9 nil9 (.slice (some ⟨ga7, 0, none⟩) (n.kids.length + 1) ca7) (⟨n.leaf, n.keys, n.vals, (n.kids ++ [((rnum 4 r : Nat) : Int)])⟩ : Nd) q → U.cell? ⟨nb, 1, none⟩ = some nil9) := fun U q h => (cells4 h.box).1.2.1
            refine wp_region_sched (fun w9 => w9.cell? ⟨nb, 1, none⟩ = some nil9) [(0, true), (1, true), (2, false), (3, false)] 4 mixed (by kernel_rfl) (fun _ _ _ _ h => h) ?_
            iterate 2
              refine sched_take (v := ?_) rfl (by kernel_rfl) (CB8.out _ _ SD8.out) ?_ ?_
              rotate_left
              · intro w9 r1
                go_simp
                try with_reducible rfl
              try simp only [Act.put, List.setIfInBounds_toArray, List.set_cons_zero, List.set_cons_succ]
            refine sched_run rfl (by kernel_rfl) fun K hK => ?_
            refine wp_call_of 102 _ _ (by rfl) #[.pointer (some ⟨w.heap.size + 1, 0, none⟩)] (by simp [Act.eval]) (Try.call102 _ _) KT8.out ?_
            rintro e wa8 ⟨rfl, ra8, ka8⟩
            have sa8 := SD8.out.call ka8 ra8
            refine ⟨_, rfl, hK _ _ (CB8.out _ _ sa8) ?_⟩
            clear hK K
            have SA8 := hide sa8
            clear sa8 ra8 ka8
            try simp only [Act.put, List.setIfInBounds_toArray, List.set_cons_zero, List.set_cons_succ]
            refine sched_run rfl (by kernel_rfl) fun K hK => ?_
            have sb8 := SA8.out.below ((Below.refl wa8.heap.size wa8).alloc (Nat.le_refl _) (.cells #[(st (rtx (rst 4 r)))] 9))
            go_simp
            refine hK _ _ (CB8.out _ _ sb8) ?_
            clear hK K
            try simp only [Act.put, List.setIfInBounds_toArray, List.set_cons_zero, List.set_cons_succ]
            show wpList _ _ _ _ _ _
            dsimp only [List.drop]
            have FI8 : Hid (∀ (g cp : Nat) (U : World), U.ownsRow (nb + 1) 9 1 (.slice (some ⟨g, 0, none⟩) (n.keys.length + 1) cp) (n.keys.length + 1) (n.keys.map st ++ [(st (rtx (rst 4 r)))]) → (wa8.alloc (.cells #[(st (rtx (rst 4 r)))] 9)).grownBy U (Value.ownBlock nil9) → (Value.ownBlock nil9 = some g ∨ g = wa8.heap.size + 1) → U.cell? ⟨nb, 1, none⟩ = some nil9 ∧ U.frozen? ⟨nb, 1, none⟩ = false ∧ Hid (RSt w nb (U.setCell ⟨nb, 1, none⟩ (.slice (some ⟨g, 0, none⟩) (n.keys.length + 1) cp)) (.slice (some ⟨g, 0, none⟩) (n.keys.length + 1) cp) nil9 (.slice (some ⟨ga7, 0, none⟩) (n.kids.length + 1) ca7) (⟨n.leaf, (n.keys ++ [(rtx (rst 4 r))]), n.vals, (n.kids ++ [((rnum 4 r : Nat) : Int)])⟩ : Nd) (rts (rst 4 r)))) := fun g cp U ob kb hb => by
              have sb := sb8
              have nbl := (kb.block nb (lt_of_block sb.box) (fun e => by have := (row_from sb.own.keys nb e.symm).1; omega)).trans sb.box
              have oo : OwnT (nb + 1) U (.slice (some ⟨g, 0, none⟩) (n.keys.length + 1) cp) (n.keys ++ [(rtx (rst 4 r))]) := by show World.ownsRow _ _ _ _ _ _ _; simpa using ob
              exact ⟨(cells4 nbl).1.2.1, frz nbl 1, hide (sb.keys rfl oo kb (by rcases hb with h | h; exact .inl h; exact .inr (by simpa using h)))⟩
            have own8 := sb8.own.keys
            dsimp only at own8
            have lt8 := lt_of_block sb8.box
            clear sb8 KT8 CB8 SD8 SA8
            go_wp2_with (at_builtin; refine wpList_append_lies _ rfl _ _ 81 rfl (nb + 1) 9 _ (.string ⟨#[]⟩) 1 16 Try.underlying81 ii iz0 iz1 iz2 rfl (by decide) nil9 n.keys.length (n.keys.map st) rfl own8 ⟨wa8.heap.size, 0, none⟩ 1 1 [(st (rtx (rst 4 r)))] rfl rfl (World.news_of_block (heap_alloc_last wa8 _)) (by simp [Value.oneCell']) (by decide) (by rw [show maxLen = 9223372036854775807 from rfl]; first | omega | (simp; omega)) (by first | omega | (simp; omega)) (by omega) (wa8.heap.size + 1) (by simp) ?_; intro ga8 ca8 wb8 ob8 kb8 hb8 _; obtain ⟨cc8, fz8, ST8⟩ := FI8.out ga8 ca8 wb8 ob8 kb8 hb8; clear ob8 kb8 hb8 FI8 own8 lt8)
            clear cc8 fz8
            go_step3
            exact ⟨j, nb, _, _, _, (⟨n.leaf, (n.keys ++ [(rtx (rst 4 r))]), n.vals, (n.kids ++ [((rnum 4 r : Nat) : Int)])⟩ : Nd), (rts (rst 4 r)), ⟨_, _, _, _, _, _, _, _, _, _, _, _, _, _, _, _, _, _, _, _, _, _, _, _, _, _, _, _, _, _, _, _, _, _, _, _, _, _, _, _, _, _, _, _, _, _, _, _, _, _, _, _, _, _, _, _, _, _, _, _, _, _, _, _, _, _, _, _, rfl⟩, ST8.out, ⟨.inr (.inl ⟨rfl, hG2.out⟩), .inr ⟨by have := hj.out; simp; omega, by have := hj.out; simp; omega, by have := hj.out; simp; omega⟩⟩⟩
      · have S0 := hide (ST.out ((M : Int) == 1))
        clear ST
        have hM1 := hM
        clear hM
        obtain ⟨V, hV⟩ : ∃ V, V = w2.alloc (.cells #[.bool ((M : Int) == 1), nil9, nil9, nil9] 83) := ⟨_, rfl⟩
        rw [← hV] at S0
        obtain ⟨ra, rc, hrd⟩ := S0.out.rdr
        obtain ⟨⟨A0, A1⟩, _⟩ := cells2r hrd.box
        have RES := hide S0.out.res
        have BEL := hide hrd.bel
        clear hrd
        obtain ⟨⟨R0, R1, R2, R3⟩, Rf⟩ := cells4 RES.out
        have Rf0 := Rf 0
        have Rf1 := Rf 1
        have Rf2 := Rf 2
        have Rf3 := Rf 3
        clear Rf
        have N0 := (cells4 S0.out.box).1.1
        rw [hnb] at N0
        cases hsh : r.short with
        | true =>
          rw [hsh] at A1
          have e : Hid (nread xs = (none9, 8)) := nread_short (by rw [← HR.out, ← hr.out]; exact hsh)
          replace hsh := hide hsh
          rw [hV] at A0 A1 N0 R0 R1 R2 R3 Rf0 Rf1 Rf2 Rf3
          go_wp2
          rw [← hV]
          rw [jumpN_ret]
          refine retNT rfl rfl w.heap.size rfl _ _ (0, 0) (heap_set4 (u := V) RES.out _ _ _ _) _ Try.underlying83 rfl info_ndP (.int .i64 8) rfl ?_
          exact ⟨nil9, nil9, nil9, by rw [e.out]; rfl, by rw [e.out]; exact OwnN.nil _ _ _, below_set4n BEL.out (Nat.le_refl _) _ _ _ _, Dj.nil⟩
        | false =>
          rw [hsh] at A1
          have hs0 : Hid ((rst 1 (rst 1 ⟨xs, false⟩)).short = false) := by show _ = _; rw [← HR.out, ← hr.out]; exact hsh
          replace hsh := hide hsh
          rw [hV] at A0 A1 N0 R0 R1 R2 R3 Rf0 Rf1 Rf2 Rf3
          have e : Hid (nread xs = (none9, 22)) := nread_kind hs0.out (by rw [← HR.out, ← hM1.out]; exact m1) (by rw [← HR.out, ← hM1.out]; exact m0)
          have g2 : ((M : Int) != 1) = true := by simp; omega
          have g3 : ((M : Int) != 0) = true := by simp; omega
          go_wp2
          rw [← hV]
          rw [jumpN_ret]
          refine retNT rfl rfl w.heap.size rfl _ _ (0, 0) (heap_set4 (u := V) RES.out _ _ _ _) _ Try.underlying83 rfl info_ndP (.int .i64 22) rfl ?_
          exact ⟨nil9, nil9, nil9, by rw [e.out]; rfl, by rw [e.out]; exact OwnN.nil _ _ _, below_set4n BEL.out (Nat.le_refl _) _ _ _ _, Dj.nil⟩
  · rintro l a' w' ⟨left, nb, kv, vv, dv, n, r, ⟨u0, u1, u5, u8, u9, u10, u11, u12, u13, u14, u15, u16, u17, u18, u19, u20, u21, u22, u23, u24, u25, u26, u27, u28, u29, u30, u31, u32, u33, u34, u35, u36, u37, u38, u39, u40, u41, u42, u43, u44, u45, u46, u47, u48, u49, u50, u51, u52, u53, u54, u55, u56, u57, u58, u59, u60, u61, u62, u63, u64, u65, u66, u67, u68, u69, u70, u71, u72, rfl⟩, hs, hg, hbd⟩
    obtain ⟨ak, ck, av, cv, ad, cd, rfl, rfl, rfl⟩ := sl_ok hs.own
    have S0 := hide hs
    clear hs
    rcases hg with ⟨rfl, hg⟩ | ⟨rfl, hg⟩ | ⟨rfl, hg⟩
    · obtain ⟨hb1, hb2, hb3⟩ : n.keys.length + left ≤ 256 ∧ n.vals.length + left ≤ 256 ∧ n.kids.length + left ≤ 256 := by rcases hbd with h | h; cases h; exact h
      have hG := hide hg
      clear hg hbd
      simp only [findLabel]
      by_cases h0 : left = 0
      · subst h0
        have hG2 : Hid (nread xs = rfin (rpairs 0 r n)) := hG
        clear hG
        go_wp2
        go_step3
        exact And.intro ⟨0, nb, _, _, _, (⟨n.leaf, n.keys, n.vals, n.kids⟩ : Nd), r, ⟨_, _, _, _, _, _, _, _, _, _, _, _, _, _, _, _, _, _, _, _, _, _, _, _, _, _, _, _, _, _, _, _, _, _, _, _, _, _, _, _, _, _, _, _, _, _, _, _, _, _, _, _, _, _, _, _, _, _, _, _, _, _, _, _, _, _, _, _, rfl⟩, S0.out, ⟨.inr (.inr ⟨rfl, hG2.out⟩), .inl rfl⟩⟩ (by simp [intOf])
      · skip
        obtain ⟨j, hj⟩ : ∃ j, left = j + 1 := ⟨left - 1, by omega⟩
        have hj1 : (left : Int) - 1 = (j : Int) := by omega
        have hj3 : IntKind.i64.wrap (j : Int) = (j : Int) := IntWalk.i64_in _ (by omega)
        have hj4 : ((left : Int) == 0) = false := ieq_f (by omega)
        replace hj := hide hj
        clear h0
        have hG2 : Hid (nread xs = rfin (rpairs (j + 1) r n)) := by show _ = _; rw [← hj.out]; exact hG.out
        clear hG
        go_wp2
        have SD1 : Hid (RSt w nb w'.drew (.slice ak n.keys.length ck) (.slice av n.vals.length cv) (.slice ad n.kids.length cd) (⟨n.leaf, n.keys, n.vals, n.kids⟩ : Nd) r) := hide (S0.out.below ((Below.refl w'.heap.size w').drew))
        have KT1 := hide (ptxt_any w (w.heap.size + 1) w'.drew r SD1.out.rdr)
        have CB1 : Hid (∀ (U : World) (q : Rr), RSt w nb U (.slice ak n.keys.length ck) (.slice av n.vals.length cv) (.slice ad n.kids.length cd) (⟨n.leaf, n.keys, n.vals, n.kids⟩ : Nd) q → U.cell? ⟨nb, 1, none⟩ = some (.slice ak n.keys.length ck)) := fun U q h => (cells4 h.box).1.2.1
        refine wp_region_sched (fun w9 => w9.cell? ⟨nb, 1, none⟩ = some (.slice ak n.keys.length ck)) [(0, true), (1, true), (2, false), (3, false)] 4 mixed (by kernel_rfl) (fun _ _ _ _ h => h) ?_
        iterate 2
          refine sched_take (v := ?_) rfl (by kernel_rfl) (CB1.out _ _ SD1.out) ?_ ?_
          rotate_left
          · intro w9 r1
            go_simp
            try with_reducible rfl
          try simp only [Act.put, List.setIfInBounds_toArray, List.set_cons_zero, List.set_cons_succ]
        refine sched_run rfl (by kernel_rfl) fun K hK => ?_
        refine wp_call_of 102 _ _ (by rfl) #[.pointer (some ⟨w.heap.size + 1, 0, none⟩)] (by simp [Act.eval]) (Try.call102 _ _) KT1.out ?_
        rintro e wa1 ⟨rfl, ra1, ka1⟩
        have sa1 := SD1.out.call ka1 ra1
        refine ⟨_, rfl, hK _ _ (CB1.out _ _ sa1) ?_⟩
        clear hK K
        have SA1 := hide sa1
        clear sa1 ra1 ka1
        try simp only [Act.put, List.setIfInBounds_toArray, List.set_cons_zero, List.set_cons_succ]
        refine sched_run rfl (by kernel_rfl) fun K hK => ?_
        have sb1 := SA1.out.below ((Below.refl wa1.heap.size wa1).alloc (Nat.le_refl _) (.cells #[(st (rtx r))] 9))
        go_simp
        refine hK _ _ (CB1.out _ _ sb1) ?_
        clear hK K
        try simp only [Act.put, List.setIfInBounds_toArray, List.set_cons_zero, List.set_cons_succ]
        show wpList _ _ _ _ _ _
        dsimp only [List.drop]
        have FI1 : Hid (∀ (g cp : Nat) (U : World), U.ownsRow (nb + 1) 9 1 (.slice (some ⟨g, 0, none⟩) (n.keys.length + 1) cp) (n.keys.length + 1) (n.keys.map st ++ [(st (rtx r))]) → (wa1.alloc (.cells #[(st (rtx r))] 9)).grownBy U (Value.ownBlock (.slice ak n.keys.length ck)) → (Value.ownBlock (.slice ak n.keys.length ck) = some g ∨ g = wa1.heap.size + 1) → U.cell? ⟨nb, 1, none⟩ = some (.slice ak n.keys.length ck) ∧ U.frozen? ⟨nb, 1, none⟩ = false ∧ Hid (RSt w nb (U.setCell ⟨nb, 1, none⟩ (.slice (some ⟨g, 0, none⟩) (n.keys.length + 1) cp)) (.slice (some ⟨g, 0, none⟩) (n.keys.length + 1) cp) (.slice av n.vals.length cv) (.slice ad n.kids.length cd) (⟨n.leaf, (n.keys ++ [(rtx r)]), n.vals, n.kids⟩ : Nd) (rts r))) := fun g cp U ob kb hb => by
          have sb := sb1
          have nbl := (kb.block nb (lt_of_block sb.box) (fun e => by have := (row_from sb.own.keys nb e.symm).1; omega)).trans sb.box
          have oo : OwnT (nb + 1) U (.slice (some ⟨g, 0, none⟩) (n.keys.length + 1) cp) (n.keys ++ [(rtx r)]) := by show World.ownsRow _ _ _ _ _ _ _; simpa using ob
          exact ⟨(cells4 nbl).1.2.1, frz nbl 1, hide (sb.keys rfl oo kb (by rcases hb with h | h; exact .inl h; exact .inr (by simpa using h)))⟩
        have own1 := sb1.own.keys
        dsimp only at own1
        have lt1 := lt_of_block sb1.box
        clear sb1 KT1 CB1 SD1 SA1
        go_wp2_with (at_builtin; refine wpList_append_lies _ rfl _ _ 81 rfl (nb + 1) 9 _ (.string ⟨#[]⟩) 1 16 Try.underlying81 ii iz0 iz1 iz2 rfl (by decide) (.slice ak n.keys.length ck) n.keys.length (n.keys.map st) rfl own1 ⟨wa1.heap.size, 0, none⟩ 1 1 [(st (rtx r))] rfl rfl (World.news_of_block (heap_alloc_last wa1 _)) (by simp [Value.oneCell']) (by decide) (by rw [show maxLen = 9223372036854775807 from rfl]; first | omega | (simp; omega)) (by first | omega | (simp; omega)) (by omega) (wa1.heap.size + 1) (by simp) ?_; intro ga1 ca1 wb1 ob1 kb1 hb1 _; obtain ⟨cc1, fz1, ST1⟩ := FI1.out ga1 ca1 wb1 ob1 kb1 hb1; clear ob1 kb1 hb1 FI1 own1 lt1)
        clear cc1 fz1
        obtain ⟨V2, hV2⟩ : ∃ U, U = (wb1.setCell ⟨nb, 1, none⟩ (.slice (some ⟨ga1, 0, none⟩) (n.keys.length + 1) ca1)) := ⟨_, rfl⟩
        rw [← hV2]
        rw [← hV2] at ST1
        replace hV2 := hide hV2
        have SD2 : Hid (RSt w nb V2.drew (.slice (some ⟨ga1, 0, none⟩) (n.keys.length + 1) ca1) (.slice av n.vals.length cv) (.slice ad n.kids.length cd) (⟨n.leaf, (n.keys ++ [(rtx r)]), n.vals, n.kids⟩ : Nd) (rts r)) := hide (ST1.out.below ((Below.refl V2.heap.size V2).drew))
        have KT2 := hide (ptxt_any w (w.heap.size + 1) V2.drew (rts r) SD2.out.rdr)
        have CB2 : Hid (∀ (U : World) (q : Rr), RSt w nb U (.slice (some ⟨ga1, 0, none⟩) (n.keys.length + 1) ca1) (.slice av n.vals.length cv) (.slice ad n.kids.length cd) (⟨n.leaf, (n.keys ++ [(rtx r)]), n.vals, n.kids⟩ : Nd) q → U.cell? ⟨nb, 2, none⟩ = some (.slice av n.vals.length cv)) := fun U q h => (cells4 h.box).1.2.2.1
        refine wp_region_sched (fun w9 => w9.cell? ⟨nb, 2, none⟩ = some (.slice av n.vals.length cv)) [(0, true), (1, true), (2, false), (3, false)] 4 mixed (by kernel_rfl) (fun _ _ _ _ h => h) ?_
        iterate 2
          refine sched_take (v := ?_) rfl (by kernel_rfl) (CB2.out _ _ SD2.out) ?_ ?_
          rotate_left
          · intro w9 r1
            go_simp
            try with_reducible rfl
          try simp only [Act.put, List.setIfInBounds_toArray, List.set_cons_zero, List.set_cons_succ]
        refine sched_run rfl (by kernel_rfl) fun K hK => ?_
        refine wp_call_of 102 _ _ (by rfl) #[.pointer (some ⟨w.heap.size + 1, 0, none⟩)] (by simp [Act.eval]) (Try.call102 _ _) KT2.out ?_
        rintro e wa2 ⟨rfl, ra2, ka2⟩
        have sa2 := SD2.out.call ka2 ra2
        refine ⟨_, rfl, hK _ _ (CB2.out _ _ sa2) ?_⟩
        clear hK K
        have SA2 := hide sa2
        clear sa2 ra2 ka2
        try simp only [Act.put, List.setIfInBounds_toArray, List.set_cons_zero, List.set_cons_succ]
        refine sched_run rfl (by kernel_rfl) fun K hK => ?_
        have sb2 := SA2.out.below ((Below.refl wa2.heap.size wa2).alloc (Nat.le_refl _) (.cells #[(st (rtx (rts r)))] 9))
        go_simp
        refine hK _ _ (CB2.out _ _ sb2) ?_
        clear hK K
        try simp only [Act.put, List.setIfInBounds_toArray, List.set_cons_zero, List.set_cons_succ]
        show wpList _ _ _ _ _ _
        dsimp only [List.drop]
        have FI2 : Hid (∀ (g cp : Nat) (U : World), U.ownsRow (nb + 1) 9 1 (.slice (some ⟨g, 0, none⟩) (n.vals.length + 1) cp) (n.vals.length + 1) (n.vals.map st ++ [(st (rtx (rts r)))]) → (wa2.alloc (.cells #[(st (rtx (rts r)))] 9)).grownBy U (Value.ownBlock (.slice av n.vals.length cv)) → (Value.ownBlock (.slice av n.vals.length cv) = some g ∨ g = wa2.heap.size + 1) → U.cell? ⟨nb, 2, none⟩ = some (.slice av n.vals.length cv) ∧ U.frozen? ⟨nb, 2, none⟩ = false ∧ Hid (RSt w nb (U.setCell ⟨nb, 2, none⟩ (.slice (some ⟨g, 0, none⟩) (n.vals.length + 1) cp)) (.slice (some ⟨ga1, 0, none⟩) (n.keys.length + 1) ca1) (.slice (some ⟨g, 0, none⟩) (n.vals.length + 1) cp) (.slice ad n.kids.length cd) (⟨n.leaf, (n.keys ++ [(rtx r)]), (n.vals ++ [(rtx (rts r))]), n.kids⟩ : Nd) (rts (rts r)))) := fun g cp U ob kb hb => by
          have sb := sb2
          have nbl := (kb.block nb (lt_of_block sb.box) (fun e => by have := (row_from sb.own.vals nb e.symm).1; omega)).trans sb.box
          have oo : OwnT (nb + 1) U (.slice (some ⟨g, 0, none⟩) (n.vals.length + 1) cp) (n.vals ++ [(rtx (rts r))]) := by show World.ownsRow _ _ _ _ _ _ _; simpa using ob
          exact ⟨(cells4 nbl).1.2.2.1, frz nbl 2, hide (sb.vals rfl oo kb (by rcases hb with h | h; exact .inl h; exact .inr (by simpa using h)))⟩
        have own2 := sb2.own.vals
        dsimp only at own2
        have lt2 := lt_of_block sb2.box
        clear sb2 KT2 CB2 SD2 SA2
        go_wp2_with (at_builtin; refine wpList_append_lies _ rfl _ _ 81 rfl (nb + 1) 9 _ (.string ⟨#[]⟩) 1 16 Try.underlying81 ii iz0 iz1 iz2 rfl (by decide) (.slice av n.vals.length cv) n.vals.length (n.vals.map st) rfl own2 ⟨wa2.heap.size, 0, none⟩ 1 1 [(st (rtx (rts r)))] rfl rfl (World.news_of_block (heap_alloc_last wa2 _)) (by simp [Value.oneCell']) (by decide) (by rw [show maxLen = 9223372036854775807 from rfl]; first | omega | (simp; omega)) (by first | omega | (simp; omega)) (by omega) (wa2.heap.size + 1) (by simp) ?_; intro ga2 ca2 wb2 ob2 kb2 hb2 _; obtain ⟨cc2, fz2, ST2⟩ := FI2.out ga2 ca2 wb2 ob2 kb2 hb2; clear ob2 kb2 hb2 FI2 own2 lt2)
        clear cc2 fz2
        go_step3
        exact And.intro ⟨j, nb, _, _, _, (⟨n.leaf, (n.keys ++ [(rtx r)]), (n.vals ++ [(rtx (rts r))]), n.kids⟩ : Nd), (rts (rts r)), ⟨_, _, _, _, _, _, _, _, _, _, _, _, _, _, _, _, _, _, _, _, _, _, _, _, _, _, _, _, _, _, _, _, _, _, _, _, _, _, _, _, _, _, _, _, _, _, _, _, _, _, _, _, _, _, _, _, _, _, _, _, _, _, _, _, _, _, _, _, rfl⟩, ST2.out, ⟨.inl ⟨rfl, hG2.out⟩, .inr ⟨by have := hj.out; simp; omega, by have := hj.out; simp; omega, by have := hj.out; simp; omega⟩⟩⟩ (by have := hj.out; simp [intOf]; omega)
    · obtain ⟨hb1, hb2, hb3⟩ : n.keys.length + left ≤ 256 ∧ n.vals.length + left ≤ 256 ∧ n.kids.length + left ≤ 256 := by rcases hbd with h | h; cases h; exact h
      have hG := hide hg
      clear hg hbd
      simp only [findLabel]
      by_cases h0 : left = 0
      · subst h0
        have hG2 : Hid (nread xs = rfin (rkids 0 r n)) := hG
        clear hG
        go_wp2
        have SD3 : Hid (RSt w nb w'.drew (.slice ak n.keys.length ck) (.slice av n.vals.length cv) (.slice ad n.kids.length cd) (⟨n.leaf, n.keys, n.vals, n.kids⟩ : Nd) r) := hide (S0.out.below ((Below.refl w'.heap.size w').drew))
        have KT3 := hide (pnumber_any w (w.heap.size + 1) w'.drew r 4 SD3.out.rdr (by decide) (by decide))
        have CB3 : Hid (∀ (U : World) (q : Rr), RSt w nb U (.slice ak n.keys.length ck) (.slice av n.vals.length cv) (.slice ad n.kids.length cd) (⟨n.leaf, n.keys, n.vals, n.kids⟩ : Nd) q → U.cell? ⟨nb, 3, none⟩ = some (.slice ad n.kids.length cd)) := fun U q h => (cells4 h.box).1.2.2.2
        refine wp_region_sched (fun w9 => w9.cell? ⟨nb, 3, none⟩ = some (.slice ad n.kids.length cd)) [(0, true), (1, true), (2, false), (3, false)] 4 mixed (by kernel_rfl) (fun _ _ _ _ h => h) ?_
        iterate 2
          refine sched_take (v := ?_) rfl (by kernel_rfl) (CB3.out _ _ SD3.out) ?_ ?_
          rotate_left
          · intro w9 r1
            go_simp
            try with_reducible rfl
          try simp only [Act.put, List.setIfInBounds_toArray, List.set_cons_zero, List.set_cons_succ]
        refine sched_run rfl (by kernel_rfl) fun K hK => ?_
        refine wp_call_of 101 _ _ (by rfl) #[.pointer (some ⟨w.heap.size + 1, 0, none⟩), .int .i64 4] (by simp [Act.eval]) (Try.call101 _ _) KT3.out ?_
        rintro e wa3 ⟨rfl, ra3, ka3⟩
        have sa3 := SD3.out.call ka3 ra3
        refine ⟨_, rfl, hK _ _ (CB3.out _ _ sa3) ?_⟩
        clear hK K
        have SA3 := hide sa3
        clear sa3 ra3 ka3
        try simp only [Act.put, List.setIfInBounds_toArray, List.set_cons_zero, List.set_cons_succ]
        refine sched_run rfl (by kernel_rfl) fun K hK => ?_
        have sb3 := SA3.out.below ((Below.refl wa3.heap.size wa3).alloc (Nat.le_refl _) (.cells #[(.int .i64 ((rnum 4 r : Nat) : Int))] 3))
        go_simp
        refine hK _ _ (CB3.out _ _ sb3) ?_
        clear hK K
        try simp only [Act.put, List.setIfInBounds_toArray, List.set_cons_zero, List.set_cons_succ]
        show wpList _ _ _ _ _ _
        dsimp only [List.drop]
        have FI3 : Hid (∀ (g cp : Nat) (U : World), U.ownsRow (nb + 1) 3 1 (.slice (some ⟨g, 0, none⟩) (n.kids.length + 1) cp) (n.kids.length + 1) (n.kids.map (Value.int .i64) ++ [(.int .i64 ((rnum 4 r : Nat) : Int))]) → (wa3.alloc (.cells #[(.int .i64 ((rnum 4 r : Nat) : Int))] 3)).grownBy U (Value.ownBlock (.slice ad n.kids.length cd)) → (Value.ownBlock (.slice ad n.kids.length cd) = some g ∨ g = wa3.heap.size + 1) → U.cell? ⟨nb, 3, none⟩ = some (.slice ad n.kids.length cd) ∧ U.frozen? ⟨nb, 3, none⟩ = false ∧ Hid (RSt w nb (U.setCell ⟨nb, 3, none⟩ (.slice (some ⟨g, 0, none⟩) (n.kids.length + 1) cp)) (.slice ak n.keys.length ck) (.slice av n.vals.length cv) (.slice (some ⟨g, 0, none⟩) (n.kids.length + 1) cp) (⟨n.leaf, n.keys, n.vals, (n.kids ++ [((rnum 4 r : Nat) : Int)])⟩ : Nd) (rst 4 r))) := fun g cp U ob kb hb => by
          have sb := sb3
          have nbl := (kb.block nb (lt_of_block sb.box) (fun e => by have := (row_from sb.own.kids nb e.symm).1; omega)).trans sb.box
          have oo : OwnJ (nb + 1) U (.slice (some ⟨g, 0, none⟩) (n.kids.length + 1) cp) (n.kids ++ [((rnum 4 r : Nat) : Int)]) := by show World.ownsRow _ _ _ _ _ _ _; simpa using ob
          exact ⟨(cells4 nbl).1.2.2.2, frz nbl 3, hide (sb.kids rfl oo kb (by rcases hb with h | h; exact .inl h; exact .inr (by simpa using h)))⟩
        have own3 := sb3.own.kids
        dsimp only at own3
        have lt3 := lt_of_block sb3.box
        clear sb3 KT3 CB3 SD3 SA3
        go_wp2_with (at_builtin; refine wpList_append_lies _ rfl _ _ 28 rfl (nb + 1) 3 _ (.int .i64 0) 1 8 Try.underlying28 ji jz0 jz1 jz2 rfl (by decide) (.slice ad n.kids.length cd) n.kids.length (n.kids.map (Value.int .i64)) rfl own3 ⟨wa3.heap.size, 0, none⟩ 1 1 [(.int .i64 ((rnum 4 r : Nat) : Int))] rfl rfl (World.news_of_block (heap_alloc_last wa3 _)) (by simp [Value.oneCell']) (by decide) (by rw [show maxLen = 9223372036854775807 from rfl]; first | omega | (simp; omega)) (by first | omega | (simp; omega)) (by omega) (wa3.heap.size + 1) (by simp) ?_; intro ga3 ca3 wb3 ob3 kb3 hb3 _; obtain ⟨cc3, fz3, ST3⟩ := FI3.out ga3 ca3 wb3 ob3 kb3 hb3; clear ob3 kb3 hb3 FI3 own3 lt3)
        clear cc3 fz3
        go_step3
        exact And.intro ⟨0, nb, _, _, _, (⟨n.leaf, n.keys, n.vals, (n.kids ++ [((rnum 4 r : Nat) : Int)])⟩ : Nd), (rst 4 r), ⟨_, _, _, _, _, _, _, _, _, _, _, _, _, _, _, _, _, _, _, _, _, _, _, _, _, _, _, _, _, _, _, _, _, _, _, _, _, _, _, _, _, _, _, _, _, _, _, _, _, _, _, _, _, _, _, _, _, _, _, _, _, _, _, _, _, _, _, _, rfl⟩, ST3.out, ⟨.inr (.inr ⟨rfl, hG2.out⟩), .inl rfl⟩⟩ (by simp [intOf])
      · skip
        obtain ⟨j, hj⟩ : ∃ j, left = j + 1 := ⟨left - 1, by omega⟩
        have hj1 : (left : Int) - 1 = (j : Int) := by omega
        have hj3 : IntKind.i64.wrap (j : Int) = (j : Int) := IntWalk.i64_in _ (by omega)
        have hj4 : ((left : Int) == 0) = false := ieq_f (by omega)
        replace hj := hide hj
        clear h0
        have hG2 : Hid (nread xs = rfin (rkids (j + 1) r n)) := by show _ = _; rw [← hj.out]; exact hG.out
        clear hG
        go_wp2
        have SD4 : Hid (RSt w nb w'.drew (.slice ak n.keys.length ck) (.slice av n.vals.length cv) (.slice ad n.kids.length cd) (⟨n.leaf, n.keys, n.vals, n.kids⟩ : Nd) r) := hide (S0.out.below ((Below.refl w'.heap.size w').drew))
        have KT4 := hide (pnumber_any w (w.heap.size + 1) w'.drew r 4 SD4.out.rdr (by decide) (by decide))
        have CB4 : Hid (∀ (U : World) (q : Rr), RSt w nb U (.slice ak n.keys.length ck) (.slice av n.vals.length cv) (.slice ad n.kids.length cd) (⟨n.leaf, n.keys, n.vals, n.kids⟩ : Nd) q → U.cell? ⟨nb, 3, none⟩ = some (.slice ad n.kids.length cd)) := fun U q h => (cells4 h.box).1.2.2.2
        refine wp_region_sched (fun w9 => w9.cell? ⟨nb, 3, none⟩ = some (.slice ad n.kids.length cd)) [(0, true), (1, true), (2, false), (3, false)] 4 mixed (by kernel_rfl) (fun _ _ _ _ h => h) ?_
        iterate 2
          refine sched_take (v := ?_) rfl (by kernel_rfl) (CB4.out _ _ SD4.out) ?_ ?_
          rotate_left
          · intro w9 r1
            go_simp
            try with_reducible rfl
          try simp only [Act.put, List.setIfInBounds_toArray, List.set_cons_zero, List.set_cons_succ]
        refine sched_run rfl (by kernel_rfl) fun K hK => ?_
        refine wp_call_of 101 _ _ (by rfl) #[.pointer (some ⟨w.heap.size + 1, 0, none⟩), .int .i64 4] (by simp [Act.eval]) (Try.call101 _ _) KT4.out ?_
        rintro e wa4 ⟨rfl, ra4, ka4⟩
        have sa4 := SD4.out.call ka4 ra4
        refine ⟨_, rfl, hK _ _ (CB4.out _ _ sa4) ?_⟩
        clear hK K
        have SA4 := hide sa4
        clear sa4 ra4 ka4
        try simp only [Act.put, List.setIfInBounds_toArray, List.set_cons_zero, List.set_cons_succ]
        refine sched_run rfl (by kernel_rfl) fun K hK => ?_
        have sb4 := SA4.out.below ((Below.refl wa4.heap.size wa4).alloc (Nat.le_refl _) (.cells #[(.int .i64 ((rnum 4 r : Nat) : Int))] 3))
        go_simp
        refine hK _ _ (CB4.out _ _ sb4) ?_
        clear hK K
        try simp only [Act.put, List.setIfInBounds_toArray, List.set_cons_zero, List.set_cons_succ]
        show wpList _ _ _ _ _ _
        dsimp only [List.drop]
        have FI4 : Hid (∀ (g cp : Nat) (U : World), U.ownsRow (nb + 1) 3 1 (.slice (some ⟨g, 0, none⟩) (n.kids.length + 1) cp) (n.kids.length + 1) (n.kids.map (Value.int .i64) ++ [(.int .i64 ((rnum 4 r : Nat) : Int))]) → (wa4.alloc (.cells #[(.int .i64 ((rnum 4 r : Nat) : Int))] 3)).grownBy U (Value.ownBlock (.slice ad n.kids.length cd)) → (Value.ownBlock (.slice ad n.kids.length cd) = some g ∨ g = wa4.heap.size + 1) → U.cell? ⟨nb, 3, none⟩ = some (.slice ad n.kids.length cd) ∧ U.frozen? ⟨nb, 3, none⟩ = false ∧ Hid (RSt w nb (U.setCell ⟨nb, 3, none⟩ (.slice (some ⟨g, 0, none⟩) (n.kids.length + 1) cp)) (.slice ak n.keys.length ck) (.slice av n.vals.length cv) (.slice (some ⟨g, 0, none⟩) (n.kids.length + 1) cp) (⟨n.leaf, n.keys, n.vals, (n.kids ++ [((rnum 4 r : Nat) : Int)])⟩ : Nd) (rst 4 r))) := fun g cp U ob kb hb => by
          have sb := sb4
          have nbl := (kb.block nb (lt_of_block sb.box) (fun e => by have := (row_from sb.own.kids nb e.symm).1; omega)).trans sb.box
          have oo : OwnJ (nb + 1) U (.slice (some ⟨g, 0, none⟩) (n.kids.length + 1) cp) (n.kids ++ [((rnum 4 r : Nat) : Int)]) := by show World.ownsRow _ _ _ _ _ _ _; simpa using ob
          exact ⟨(cells4 nbl).1.2.2.2, frz nbl 3, hide (sb.kids rfl oo kb (by rcases hb with h | h; exact .inl h; exact .inr (by simpa using h)))⟩
        have own4 := sb4.own.kids
        dsimp only at own4
        have lt4 := lt_of_block sb4.box
        clear sb4 KT4 CB4 SD4 SA4
        go_wp2_with (at_builtin; refine wpList_append_lies _ rfl _ _ 28 rfl (nb + 1) 3 _ (.int .i64 0) 1 8 Try.underlying28 ji jz0 jz1 jz2 rfl (by decide) (.slice ad n.kids.length cd) n.kids.length (n.kids.map (Value.int .i64)) rfl own4 ⟨wa4.heap.size, 0, none⟩ 1 1 [(.int .i64 ((rnum 4 r : Nat) : Int))] rfl rfl (World.news_of_block (heap_alloc_last wa4 _)) (by simp [Value.oneCell']) (by decide) (by rw [show maxLen = 9223372036854775807 from rfl]; first | omega | (simp; omega)) (by first | omega | (simp; omega)) (by omega) (wa4.heap.size + 1) (by simp) ?_; intro ga4 ca4 wb4 ob4 kb4 hb4 _; obtain ⟨cc4, fz4, ST4⟩ := FI4.out ga4 ca4 wb4 ob4 kb4 hb4; clear ob4 kb4 hb4 FI4 own4 lt4)
        clear cc4 fz4
        obtain ⟨V5, hV5⟩ : ∃ U, U = (wb4.setCell ⟨nb, 3, none⟩ (.slice (some ⟨ga4, 0, none⟩) (n.kids.length + 1) ca4)) := ⟨_, rfl⟩
        rw [← hV5]
        rw [← hV5] at ST4
        replace hV5 := hide hV5
        have SD5 : Hid (RSt w nb V5.drew (.slice ak n.keys.length ck) (.slice av n.vals.length cv) (.slice (some ⟨ga4, 0, none⟩) (n.kids.length + 1) ca4) (⟨n.leaf, n.keys, n.vals, (n.kids ++ [((rnum 4 r : Nat) : Int)])⟩ : Nd) (rst 4 r)) := hide (ST4.out.below ((Below.refl V5.heap.size V5).drew))
        have KT5 := hide (ptxt_any w (w.heap.size + 1) V5.drew (rst 4 r) SD5.out.rdr)
        have CB5 : Hid (∀ (U : World) (q : Rr), RSt w nb U (.slice ak n.keys.length ck) (.slice av n.vals.length cv) (.slice (some ⟨ga4, 0, none⟩) (n.kids.length + 1) ca4) (⟨n.leaf, n.keys, n.vals, (n.kids ++ [((rnum 4 r : Nat) : Int)])⟩ : Nd) q → U.cell? ⟨nb, 1, none⟩ = some (.slice ak n.keys.length ck)) := fun U q h => (cells4 h.box).1.2.1
        refine wp_region_sched (fun w9 => w9.cell? ⟨nb, 1, none⟩ = some (.slice ak n.keys.length ck)) [(0, true), (1, true), (2, false), (3, false)] 4 mixed (by kernel_rfl) (fun _ _ _ _ h => h) ?_
        iterate 2
          refine sched_take (v := ?_) rfl (by kernel_rfl) (CB5.out _ _ SD5.out) ?_ ?_
          rotate_left
          · intro w9 r1
            go_simp
            try with_reducible rfl
          try simp only [Act.put, List.setIfInBounds_toArray, List.set_cons_zero, List.set_cons_succ]
        refine sched_run rfl (by kernel_rfl) fun K hK => ?_
        refine wp_call_of 102 _ _ (by rfl) #[.pointer (some ⟨w.heap.size + 1, 0, none⟩)] (by simp [Act.eval]) (Try.call102 _ _) KT5.out ?_
        rintro e wa5 ⟨rfl, ra5, ka5⟩
        have sa5 := SD5.out.call ka5 ra5
        refine ⟨_, rfl, hK _ _ (CB5.out _ _ sa5) ?_⟩
        clear hK K
        have SA5 := hide sa5
        clear sa5 ra5 ka5
        try simp only [Act.put, List.setIfInBounds_toArray, List.set_cons_zero, List.set_cons_succ]
        refine sched_run rfl (by kernel_rfl) fun K hK => ?_
        have sb5 := SA5.out.below ((Below.refl wa5.heap.size wa5).alloc (Nat.le_refl _) (.cells #[(st (rtx (rst 4 r)))] 9))
        go_simp
        refine hK _ _ (CB5.out _ _ sb5) ?_
        clear hK K
        try simp only [Act.put, List.setIfInBounds_toArray, List.set_cons_zero, List.set_cons_succ]
        show wpList _ _ _ _ _ _
        dsimp only [List.drop]
        have FI5 : Hid (∀ (g cp : Nat) (U : World), U.ownsRow (nb + 1) 9 1 (.slice (some ⟨g, 0, none⟩) (n.keys.length + 1) cp) (n.keys.length + 1) (n.keys.map st ++ [(st (rtx (rst 4 r)))]) → (wa5.alloc (.cells #[(st (rtx (rst 4 r)))] 9)).grownBy U (Value.ownBlock (.slice ak n.keys.length ck)) → (Value.ownBlock (.slice ak n.keys.length ck) = some g ∨ g = wa5.heap.size + 1) → U.cell? ⟨nb, 1, none⟩ = some (.slice ak n.keys.length ck) ∧ U.frozen? ⟨nb, 1, none⟩ = false ∧ Hid (RSt w nb (U.setCell ⟨nb, 1, none⟩ (.slice (some ⟨g, 0, none⟩) (n.keys.length + 1) cp)) (.slice (some ⟨g, 0, none⟩) (n.keys.length + 1) cp) (.slice av n.vals.length cv) (.slice (some ⟨ga4, 0, none⟩) (n.kids.length + 1) ca4) (⟨n.leaf, (n.keys ++ [(rtx (rst 4 r))]), n.vals, (n.kids ++ [((rnum 4 r : Nat) : Int)])⟩ : Nd) (rts (rst 4 r)))) := fun g cp U ob kb hb => by
          have sb := sb5
          have nbl := (kb.block nb (lt_of_block sb.box) (fun e => by have := (row_from sb.own.keys nb e.symm).1; omega)).trans sb.box
          have oo : OwnT (nb + 1) U (.slice (some ⟨g, 0, none⟩) (n.keys.length + 1) cp) (n.keys ++ [(rtx (rst 4 r))]) := by show World.ownsRow _ _ _ _ _ _ _; simpa using ob
          exact ⟨(cells4 nbl).1.2.1, frz nbl 1, hide (sb.keys rfl oo kb (by rcases hb with h | h; exact .inl h; exact .inr (by simpa using h)))⟩
        have own5 := sb5.own.keys
        dsimp only at own5
        have lt5 := lt_of_block sb5.box
        clear sb5 KT5 CB5 SD5 SA5
        go_wp2_with (at_builtin; refine wpList_append_lies _ rfl _ _ 81 rfl (nb + 1) 9 _ (.string ⟨#[]⟩) 1 16 Try.underlying81 ii iz0 iz1 iz2 rfl (by decide) (.slice ak n.keys.length ck) n.keys.length (n.keys.map st) rfl own5 ⟨wa5.heap.size, 0, none⟩ 1 1 [(st (rtx (rst 4 r)))] rfl rfl (World.news_of_block (heap_alloc_last wa5 _)) (by simp [Value.oneCell']) (by decide) (by rw [show maxLen = 9223372036854775807 from rfl]; first | omega | (simp; omega)) (by first | omega | (simp; omega)) (by omega) (wa5.heap.size + 1) (by simp) ?_; intro ga5 ca5 wb5 ob5 kb5 hb5 _; obtain ⟨cc5, fz5, ST5⟩ := FI5.out ga5 ca5 wb5 ob5 kb5 hb5; clear ob5 kb5 hb5 FI5 own5 lt5)
        clear cc5 fz5
        go_step3
        exact And.intro ⟨j, nb, _, _, _, (⟨n.leaf, (n.keys ++ [(rtx (rst 4 r))]), n.vals, (n.kids ++ [((rnum 4 r : Nat) : Int)])⟩ : Nd), (rts (rst 4 r)), ⟨_, _, _, _, _, _, _, _, _, _, _, _, _, _, _, _, _, _, _, _, _, _, _, _, _, _, _, _, _, _, _, _, _, _, _, _, _, _, _, _, _, _, _, _, _, _, _, _, _, _, _, _, _, _, _, _, _, _, _, _, _, _, _, _, _, _, _, _, rfl⟩, ST5.out, ⟨.inr (.inl ⟨rfl, hG2.out⟩), .inr ⟨by have := hj.out; simp; omega, by have := hj.out; simp; omega, by have := hj.out; simp; omega⟩⟩⟩ (by have := hj.out; simp [intOf]; omega)
    · have hG := hide hg
      clear hg hbd
      simp only [findLabel]
      obtain ⟨ra, rc, hr⟩ := S0.out.rdr
      obtain ⟨⟨A0, A1⟩, _⟩ := cells2r hr.box
      have RES := hide S0.out.res
      have BEL := hide hr.bel
      clear hr
      obtain ⟨⟨R0, R1, R2, R3⟩, Rf⟩ := cells4 RES.out
      have Rf0 := Rf 0
      have Rf1 := Rf 1
      have Rf2 := Rf 2
      have Rf3 := Rf 3
      clear Rf
      obtain ⟨⟨N0, N1, N2, N3⟩, _⟩ := cells4 S0.out.box
      cases hsh : r.short with
      | true =>
        rw [hsh] at A1
        have e : Hid (nread xs = (none9, 8)) := by show _ = _; rw [hG.out]; unfold rfin; rw [hsh]; rfl
        replace hsh := hide hsh
        go_wp2
        rw [jumpN_ret]
        refine retNT rfl rfl w.heap.size rfl _ _ (0, 0) (heap_set4 (u := w') RES.out _ _ _ _) _ Try.underlying83 rfl info_ndP (.int .i64 8) rfl ?_
        exact ⟨nil9, nil9, nil9, by rw [e.out]; rfl, by rw [e.out]; exact OwnN.nil _ _ _, below_set4n BEL.out (Nat.le_refl _) _ _ _ _, Dj.nil⟩
      | false =>
        rw [hsh] at A1
        by_cases hl : 0 < r.rest.length
        · have e : Hid (nread xs = (none9, 23)) := by show _ = _; rw [hG.out]; unfold rfin; rw [hsh, if_neg (by decide), if_pos hl]
          have hq : (0 : Int) < (r.rest.length : Int) := by omega
          replace hsh := hide hsh
          go_wp2
          rw [jumpN_ret]
          refine retNT rfl rfl w.heap.size rfl _ _ (0, 0) (heap_set4 (u := w') RES.out _ _ _ _) _ Try.underlying83 rfl info_ndP (.int .i64 23) rfl ?_
          exact ⟨nil9, nil9, nil9, by rw [e.out]; rfl, by rw [e.out]; exact OwnN.nil _ _ _, below_set4n BEL.out (Nat.le_refl _) _ _ _ _, Dj.nil⟩
        · have e : Hid (nread xs = (n, 0)) := by show _ = _; rw [hG.out]; unfold rfin; rw [hsh, if_neg (by decide), if_neg hl]
          have hq : ¬ (0 : Int) < (r.rest.length : Int) := by omega
          have hq2 : r.rest.length = 0 := by omega
          rw [hq2] at A0
          replace hsh := hide hsh
          replace hq2 := hide hq2
          clear hq hl
          go_wp2
          rw [jumpN_ret]
          refine retNT rfl rfl w.heap.size rfl _ _ (0, 0) (heap_set4 (u := w') RES.out _ _ _ _) _ Try.underlying83 rfl info_ndP (.int .i64 0) rfl ?_
          have hnb := S0.out.hnb
          have hlt : w.heap.size < nb + 1 := by omega
          exact ⟨_, _, _, by rw [e.out], by rw [e.out]; exact ((((S0.out.own.set hlt 0 _).set hlt 1 _).set hlt 2 _).set hlt 3 _).mono (by omega), below_set4n BEL.out (Nat.le_refl _) _ _ _ _, ⟨S0.out.d1, S0.out.d2, S0.out.d3⟩⟩

theorem pread_any (w : World) (v : Value) (xs : List UInt8) (h : Rd w v xs) :
    Calls Try.prog 81 #[v] w fun e w' => ∃ kv vv dv, e = .returned (.tuple #[nv (nread xs).1 kv vv dv, .int .i64 (nread xs).2]) ∧ OwnN w.heap.size w' kv vv dv (nread xs).1 ∧ Below w.heap.size w w' :=
  (preadD_any w v xs h).mono fun e w' ⟨kv, vv, dv, a, b, c, _⟩ => ⟨kv, vv, dv, a, b, c⟩

end Go.Proofs.Ytgmkknonnidgaaa
