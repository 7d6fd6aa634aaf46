/- Several texts in one: NPG NPH NFindR NPI RowW RowX BEq Fr ShpIn NIn TIn TSt RFan Same. -/
import Derived.Test.YtpiikmkajckccaaGreatGoLVTells1
import Derived.Deep.QuietTactic
import Derived.BigQuiet
import Derived.Laws.Cover1
import Derived.Test.YtpiikmkajckccaaGreatGoLVTells0
import Derived.Laws.IdiomStrings
import Derived.Lib.SliceRun
import Derived.Test.YtpiikmkajckccaaGreatRows
import Derived.ProofKit
import Derived.OpenShut
import Derived.ShutString
import Derived.ChangeOld
import Derived.Below
import Derived.SizedLaws
import Derived.JoinedCond
import Derived.Deep.Slices
import Derived.ChangeSame
import Derived.WideShapes
import Derived.ChangeArms
import Derived.ChangeMaps5
import Derived.Test.YtpiikmkajckccaaGreatProg
set_option linter.unusedVariables false
set_option linter.unusedSimpArgs false
namespace Go.Proofs.YtpiikmkajckccaaGreat
open Go.RowKit
theorem jumpN_ret {J : Nat → Act → World → Prop} {Q : Exit → Act → World → Prop} {a : Act} {w : World} : jumpN J Q Exit.ret a w = Q Exit.ret a w := rfl
def Fr9 (w0 : World) (left nb : Nat) (a' : Act) : Prop := ∃ u0 u1 u5 u8 u9 u10 u11 u12 u13 u14 u15 u16 u17 u18 u19 u20 u21 u22 u23 u24 u25 u26 u27 u28 u29 u30 u31 u32 u33 u34 u35 u36 u37 u38 u39 u40 u41 u42 u43 u44 u45 u46 u47 u48 u49 u50 u51 u52 u53 u54 u55 u56 u57 u58 u59 u60 u61 u62 u63 u64 u65 u66 u67 u68 u69 u70 u71 u72 : Value, a' = { tmps := #[u0, u1, .pointer (some ⟨w0.heap.size, 0, none⟩), .int .i64 0, .pointer (some ⟨w0.heap.size + 1, 0, none⟩), u5, .int .i64 (left : Int), .pointer (some ⟨nb, 0, none⟩), u8, u9, u10, u11, u12, u13, u14, u15, u16, u17, u18, u19, u20, u21, u22, u23, u24, u25, u26, u27, u28, u29, u30, u31, u32, u33, u34, u35, u36, u37, u38, u39, u40, u41, u42, u43, u44, u45, u46, u47, u48, u49, u50, u51, u52, u53, u54, u55, u56, u57, u58, u59, u60, u61, u62, u63, u64, u65, u66, u67, u68, u69, u70, u71, u72], defers := [] }
def G9 (xs : List UInt8) (l left : Nat) (n : Nd) (r : Rr) : Prop :=
 (l = 0 ∧ nread xs = rfin (rpairs left r n) ∨ l = 1 ∧ nread xs = rfin (rkids left r n) ∨ l = 2 ∧ nread xs = rfin (n, r)) ∧ (l = 2 ∨ n.keys.length + left ≤ 256 ∧ n.vals.length + left ≤ 256 ∧ n.kids.length + left ≤ 256)
def J9 (w0 : World) (xs : List UInt8) (l : Nat) (a' : Act) (w' : World) : Prop := ∃ (left nb : Nat) (kv vv dv : Value) (n : Nd) (r : Rr), Fr9 w0 left nb a' ∧ RSt w0 nb w' kv vv dv n r ∧ G9 xs l left n r
theorem sl_ok {B : Nat} {w : World} {kv vv dv : Value} {n : Nd} (h : OwnN B w kv vv dv n) : ∃ a c a' c' a'' c'', kv = .slice a n.keys.length c ∧ vv = .slice a' n.vals.length c' ∧ dv = .slice a'' n.kids.length c'' := h.rd.slices
theorem frz {w : World} {g : Nat} {cs : Array Value} {t : TypeId} (h : w.heap[g]? = some (.cells cs t (0, 0))) (i : Nat) : w.frozen? ⟨g, i, none⟩ = false := by simp [World.frozen?, h]
set_option maxRecDepth 100000 in
set_option maxHeartbeats 8000000 in
theorem preadD_any (w : World) (v : Value) (xs : List UInt8) (h : Rd w v xs) :
  Calls Tryz.prog 111 #[v] w fun e w' => ∃ kv vv dv, e = .returned (.tuple #[nv (nread xs).1 kv vv dv, .int .i64 (nread xs).2]) ∧ OwnN w.heap.size w' kv vv dv (nread xs).1 ∧ Below w.heap.size w w' ∧ Dj kv vv dv := by
 obtain ⟨a, c, rfl⟩ := h.slice
 obtain ⟨i0, ii, iz0, iz1, iz2⟩ := info_parts infoT
 obtain ⟨j0, ji, jz0, jz1, jz2⟩ := info_parts infoJ
 have HH := hide h
 clear h
 go_enter Tryz.func111, Tryz.ntmps111
 go_wp2
 refine wp_scope_labels (J9 w xs) (fun l a' _ => if l = 2 then 0 else (intOf (a'.tmps.getD 6 undef)).toNat + 1) ?_ ?_ ?_
 ·rintro l a' w' ⟨left, nb, kv, vv, dv, n, r, _, _, hg, _⟩
  rcases hg with ⟨rfl, _⟩ | ⟨rfl, _⟩ | ⟨rfl, _⟩ <;> kernel_rfl
 ·obtain ⟨X, hX⟩ : ∃ X, X = ((w.alloc (.cells #[.bool false, nil9, nil9, nil9] 98)).alloc (.cells #[.slice a xs.length c, .bool false] 209)) := ⟨_, rfl⟩
  have bX : Below w.heap.size w X := by rw [hX]; exact ((Below.refl _ _).alloc (Nat.le_refl _) _).alloc (by simp) _
  have sX : X.heap.size = w.heap.size + 1 + 1 := by rw [hX]; simp
  have gX : X.heap[w.heap.size + 1]? = some (.cells #[.slice a xs.length c, .bool false] 209 (0, 0)) := by
   rw [hX]
   have := heap_alloc_last (w.alloc (.cells #[.bool false, nil9, nil9, nil9] 98)) (.cells #[.slice a xs.length c, .bool false] 209)
   simpa using this
  have rX : X.heap[w.heap.size]? = some (.cells #[.bool false, nil9, nil9, nil9] 98 (0, 0)) := by
   rw [hX, Below.heap_alloc _ _ _ (by simp)]; exact heap_alloc_last w _
  obtain ⟨r0, hr0⟩ : ∃ r : Rr, r = ⟨xs, false⟩ := ⟨_, rfl⟩
  have x0 : RdrX w (w.heap.size + 1) X r0 := by subst hr0; exact ⟨a, c, gX, HH.out, bX, by omega⟩
  have K1 := hide (pnumber_any w (w.heap.size + 1) X r0 1 x0 (by decide) (by decide))
  have RX := hide (And.intro rX sX)
  have HR := hide hr0
  clear bX gX rX x0 hr0
  go_wp2_with fail
  rw [← hX]
  replace hX := hide hX
  refine K1.out.mono ?_
  rintro e w1 ⟨rfl, r1, k1⟩
  clear K1
  have K2 := hide (pnumber_any w (w.heap.size + 1) w1 (rst 1 r0) 1 r1 (by decide) (by decide))
  have RY : Hid (w1.heap[w.heap.size]? = some (.cells #[.bool false, nil9, nil9, nil9] 98 (0, 0)) ∧ w.heap.size + 1 + 1 ≤ w1.heap.size) := ⟨(k1.1 _ (by have := RX.out.2; omega) (by omega)).trans RX.out.1, by have := k1.2.1; have := RX.out.2; omega⟩
  obtain ⟨M, hM⟩ : ∃ M, M = rnum 1 r0 := ⟨_, rfl⟩
  rw [← hM]
  replace hM := hide hM
  clear r1 k1 RX
  go_wp2_with fail
  refine K2.out.mono ?_
  rintro e w2 ⟨rfl, r2, k2⟩
  clear K2
  have RZ : Hid (w2.heap[w.heap.size]? = some (.cells #[.bool false, nil9, nil9, nil9] 98 (0, 0)) ∧ w.heap.size + 1 + 1 ≤ w2.heap.size) := ⟨(k2.1 _ (by have := RY.out.2; omega) (by omega)).trans RY.out.1, by have := k2.2.1; have := RY.out.2; omega⟩
  have hL : rnum 1 (rst 1 r0) < 256 := rnum_lt 1 _
  obtain ⟨left, hleft⟩ : ∃ L, L = rnum 1 (rst 1 r0) := ⟨_, rfl⟩
  rw [← hleft] at hL ⊢
  replace hleft := hide hleft
  obtain ⟨r, hr⟩ : ∃ q, q = rst 1 (rst 1 r0) := ⟨_, rfl⟩
  rw [← hr] at r2
  replace hr := hide hr
  obtain ⟨nb, hnb⟩ : ∃ nb, nb = w2.heap.size := ⟨_, rfl⟩
  have ST : Hid (∀ b : Bool, RSt w nb (w2.alloc (.cells #[.bool b, nil9, nil9, nil9] 98)) nil9 nil9 nil9 ⟨b, [], [], []⟩ r) := fun b => by
   have bb : Below w2.heap.size w2 (w2.alloc (.cells #[.bool b, nil9, nil9, nil9] 98)) := (Below.refl _ _).alloc (Nat.le_refl _) _
   refine ⟨r2.to bb, (bb.block _ (lt_of_block RZ.out.1)).trans RZ.out.1, by rw [hnb]; exact heap_alloc_last w2 _, OwnN.nil _ _ _, by have := RZ.out.2; omega, ?_, ?_, ?_⟩ <;> (intro k e; cases e)
  clear r2 k2 RY
  by_cases m1 : M = 1
  ·subst m1
   have S0 := hide (ST.out true)
   clear ST
   have hM1 := hM
   clear hM
   obtain ⟨V, hV⟩ : ∃ V, V = w2.alloc (.cells #[.bool true, nil9, nil9, nil9] 98) := ⟨_, rfl⟩
   rw [← hV] at S0
   obtain ⟨ra, rc, hrd⟩ := S0.out.rdr
   obtain ⟨⟨A0, A1⟩, _⟩ := cells2r hrd.box
   have RES := hide S0.out.res
   have BEL := hide hrd.bel
   clear hrd
   obtain ⟨⟨R0, R1, R2, R3⟩, Rf⟩ := cells4 RES.out
   have Rf0 := Rf 0
   have Rf1 := Rf 1
   have Rf2 := Rf 2
   have Rf3 := Rf 3
   clear Rf
   have N0 := (cells4 S0.out.box).1.1
   rw [hnb] at N0
   cases hsh : r.short with
   | true =>
    rw [hsh] at A1
    have e : Hid (nread xs = (none9, 8)) := nread_short (by rw [← HR.out, ← hr.out]; exact hsh)
    replace hsh := hide hsh
    rw [hV] at A0 A1 N0 R0 R1 R2 R3 Rf0 Rf1 Rf2 Rf3
    go_wp2
    rw [← hV]
    rw [jumpN_ret]
    refine retNT rfl rfl w.heap.size rfl _ _ (0, 0) (heap_set4 (u := V) RES.out _ _ _ _) _ Tryz.underlying98 rfl info_ndP (.int .i64 8) rfl ?_
    exact ⟨nil9, nil9, nil9, by rw [e.out]; rfl, by rw [e.out]; exact OwnN.nil _ _ _, below_set4n BEL.out (Nat.le_refl _) _ _ _ _, Dj.nil⟩
   | false =>
    rw [hsh] at A1
    have hs0 : Hid ((rst 1 (rst 1 ⟨xs, false⟩)).short = false) := by show _ = _; rw [← HR.out, ← hr.out]; exact hsh
    replace hsh := hide hsh
    rw [hV] at A0 A1 N0 R0 R1 R2 R3 Rf0 Rf1 Rf2 Rf3
    go_wp2
    go_step3
    rw [← hV]
    exact ⟨left, nb, _, _, _, ⟨true, [], [], []⟩, r, by rw [hnb]; exact ⟨_, _, _, _, _, _, _, _, _, _, _, _, _, _, _, _, _, _, _, _, _, _, _, _, _, _, _, _, _, _, _, _, _, _, _, _, _, _, _, _, _, _, _, _, _, _, _, _, _, _, _, _, _, _, _, _, _, _, _, _, _, _, _, _, _, _, _, _, rfl⟩, S0.out, .inl ⟨rfl, by rw [hleft.out, hr.out, HR.out]; exact nread_leaf hs0.out (by rw [← HR.out, ← hM1.out])⟩, .inr ⟨by simp; omega, by simp; omega, by simp; omega⟩⟩
  ·by_cases m0 : M = 0
   ·subst m0
    have S0 := hide (ST.out false)
    clear ST m1
    have hM1 := hM
    clear hM
    obtain ⟨V, hV⟩ : ∃ V, V = w2.alloc (.cells #[.bool false, nil9, nil9, nil9] 98) := ⟨_, rfl⟩
    rw [← hV] at S0
    obtain ⟨ra, rc, hrd⟩ := S0.out.rdr
    obtain ⟨⟨A0, A1⟩, _⟩ := cells2r hrd.box
    have RES := hide S0.out.res
    have BEL := hide hrd.bel
    clear hrd
    obtain ⟨⟨R0, R1, R2, R3⟩, Rf⟩ := cells4 RES.out
    have Rf0 := Rf 0
    have Rf1 := Rf 1
    have Rf2 := Rf 2
    have Rf3 := Rf 3
    clear Rf
    have N0 := (cells4 S0.out.box).1.1
    rw [hnb] at N0
    cases hsh : r.short with
    | true =>
     rw [hsh] at A1
     have e : Hid (nread xs = (none9, 8)) := nread_short (by rw [← HR.out, ← hr.out]; exact hsh)
     replace hsh := hide hsh
     rw [hV] at A0 A1 N0 R0 R1 R2 R3 Rf0 Rf1 Rf2 Rf3
     go_wp2
     rw [← hV]
     rw [jumpN_ret]
     refine retNT rfl rfl w.heap.size rfl _ _ (0, 0) (heap_set4 (u := V) RES.out _ _ _ _) _ Tryz.underlying98 rfl info_ndP (.int .i64 8) rfl ?_
     exact ⟨nil9, nil9, nil9, by rw [e.out]; rfl, by rw [e.out]; exact OwnN.nil _ _ _, below_set4n BEL.out (Nat.le_refl _) _ _ _ _, Dj.nil⟩
    | false =>
     rw [hsh] at A1
     have hs0 : Hid ((rst 1 (rst 1 ⟨xs, false⟩)).short = false) := by show _ = _; rw [← HR.out, ← hr.out]; exact hsh
     replace hsh := hide hsh
     rw [hV] at A0 A1 N0 R0 R1 R2 R3 Rf0 Rf1 Rf2 Rf3
     go_wp2
     go_step3
     rw [← hV]
     obtain ⟨n, hn⟩ : ∃ n : Nd, n = ⟨false, [], [], []⟩ := ⟨_, rfl⟩
     rw [← hn] at S0
     have hb1 : n.keys.length + left ≤ 256 := by rw [hn]; simp; omega
     have hb2 : n.vals.length + left ≤ 256 := by rw [hn]; simp; omega
     have hb3 : n.kids.length + left ≤ 256 := by rw [hn]; simp; omega
     have hG : Hid (nread xs = rfin (rkids left r n)) := by
      show _ = _
      rw [hn, hleft.out, hr.out, HR.out]
      exact nread_inner hs0.out (by rw [← HR.out, ← hM1.out])
     replace hn := hide hn
     rw [← hnb]
     replace hnb := hide hnb
     replace hV := hide hV
     clear A0 A1 N0 R0 R1 R2 R3 Rf0 Rf1 Rf2 Rf3
     by_cases h0 : left = 0
     ·subst h0
      have hG2 : Hid (nread xs = rfin (rkids 0 r n)) := hG
      clear hG
      go_wp2
      have SD6 : Hid (RSt w nb V.drew nil9 nil9 nil9 (⟨n.leaf, n.keys, n.vals, n.kids⟩ : Nd) r) := hide (S0.out.below ((Below.refl V.heap.size V).drew))
      have KT6 := hide (pnumber_any w (w.heap.size + 1) V.drew r 4 SD6.out.rdr (by decide) (by decide))
      have CB6 : Hid (∀ (U : World) (q : Rr), RSt w nb U nil9 nil9 nil9 (⟨n.leaf, n.keys, n.vals, n.kids⟩ : Nd) q → U.cell? ⟨nb, 3, none⟩ = some nil9) := fun U q h => (cells4 h.box).1.2.2.2
      refine wp_region_sched (fun w9 => w9.cell? ⟨nb, 3, none⟩ = some nil9) [(0, true), (1, true), (2, false), (3, false)] 4 mixed (by kernel_rfl) (fun _ _ _ _ h => h) ?_
      iterate 2
       refine sched_take (v := ?_) rfl (by kernel_rfl) (CB6.out _ _ SD6.out) ?_ ?_
       rotate_left
       ·intro w9 r1
        go_simp
        try with_reducible rfl
       try simp only [Act.put, List.setIfInBounds_toArray, List.set_cons_zero, List.set_cons_succ]
      refine sched_run rfl (by kernel_rfl) fun K hK => ?_
      refine wp_call_of 136 _ _ (by rfl) #[.pointer (some ⟨w.heap.size + 1, 0, none⟩), .int .i64 4] (by simp [Act.eval]) (Tryz.call136 _ _) KT6.out ?_
      rintro e wa6 ⟨rfl, ra6, ka6⟩
      have sa6 := SD6.out.call ka6 ra6
      refine ⟨_, rfl, hK _ _ (CB6.out _ _ sa6) ?_⟩
      clear hK K
      have SA6 := hide sa6
      clear sa6 ra6 ka6
      try simp only [Act.put, List.setIfInBounds_toArray, List.set_cons_zero, List.set_cons_succ]
      refine sched_run rfl (by kernel_rfl) fun K hK => ?_
      have sb6 := SA6.out.below ((Below.refl wa6.heap.size wa6).alloc (Nat.le_refl _) (.cells #[(.int .i64 ((rnum 4 r : Nat) : Int))] 3))
      go_simp
      refine hK _ _ (CB6.out _ _ sb6) ?_
      clear hK K
      try simp only [Act.put, List.setIfInBounds_toArray, List.set_cons_zero, List.set_cons_succ]
      show wpList _ _ _ _ _ _
      dsimp only [List.drop]
      have FI6 : Hid (∀ (g cp : Nat) (U : World), U.ownsRow (nb + 1) 3 1 (.slice (some ⟨g, 0, none⟩) (n.kids.length + 1) cp) (n.kids.length + 1) (n.kids.map (Value.int .i64) ++ [(.int .i64 ((rnum 4 r : Nat) : Int))]) → (wa6.alloc (.cells #[(.int .i64 ((rnum 4 r : Nat) : Int))] 3)).grownBy U (Value.ownBlock nil9) → (Value.ownBlock nil9 = some g ∨ g = wa6.heap.size + 1) → U.cell? ⟨nb, 3, none⟩ = some nil9 ∧ U.frozen? ⟨nb, 3, none⟩ = false ∧ Hid (RSt w nb (U.setCell ⟨nb, 3, none⟩ (.slice (some ⟨g, 0, none⟩) (n.kids.length + 1) cp)) nil9 nil9 (.slice (some ⟨g, 0, none⟩) (n.kids.length + 1) cp) (⟨n.leaf, n.keys, n.vals, (n.kids ++ [((rnum 4 r : Nat) : Int)])⟩ : Nd) (rst 4 r))) := fun g cp U ob kb hb => by
       have sb := sb6
       have nbl := (kb.block nb (lt_of_block sb.box) (fun e => by have := (row_from sb.own.kids nb e.symm).1; omega)).trans sb.box
       have oo : OwnJ (nb + 1) U (.slice (some ⟨g, 0, none⟩) (n.kids.length + 1) cp) (n.kids ++ [((rnum 4 r : Nat) : Int)]) := by show World.ownsRow _ _ _ _ _ _ _; simpa using ob
       exact ⟨(cells4 nbl).1.2.2.2, frz nbl 3, hide (sb.kids rfl oo kb (by rcases hb with h | h; exact .inl h; exact .inr (by simpa using h)))⟩
      have own6 := sb6.own.kids
      dsimp only at own6
      have lt6 := lt_of_block sb6.box
      clear sb6 KT6 CB6 SD6 SA6
      go_wp2_with (at_builtin; refine wpList_append_lies _ rfl _ _ 25 rfl (nb + 1) 3 _ (.int .i64 0) 1 8 Tryz.underlying25 ji jz0 jz1 jz2 rfl (by decide) nil9 n.kids.length (n.kids.map (Value.int .i64)) rfl own6 ⟨wa6.heap.size, 0, none⟩ 1 1 [(.int .i64 ((rnum 4 r : Nat) : Int))] rfl rfl (World.news_of_block (heap_alloc_last wa6 _)) (by simp [Value.oneCell']) (by decide) (by rw [show maxLen = 9223372036854775807 from rfl]; first | omega | (simp; omega)) (by first | omega | (simp; omega)) (by omega) (wa6.heap.size + 1) (by simp) ?_; intro ga6 ca6 wb6 ob6 kb6 hb6 _; obtain ⟨cc6, fz6, ST6⟩ := FI6.out ga6 ca6 wb6 ob6 kb6 hb6; clear ob6 kb6 hb6 FI6 own6 lt6)
      clear cc6 fz6
      go_step3
      exact ⟨0, nb, _, _, _, (⟨n.leaf, n.keys, n.vals, (n.kids ++ [((rnum 4 r : Nat) : Int)])⟩ : Nd), (rst 4 r), ⟨_, _, _, _, _, _, _, _, _, _, _, _, _, _, _, _, _, _, _, _, _, _, _, _, _, _, _, _, _, _, _, _, _, _, _, _, _, _, _, _, _, _, _, _, _, _, _, _, _, _, _, _, _, _, _, _, _, _, _, _, _, _, _, _, _, _, _, _, rfl⟩, ST6.out, ⟨.inr (.inr ⟨rfl, hG2.out⟩), .inl rfl⟩⟩
     ·skip
      obtain ⟨j, hj⟩ : ∃ j, left = j + 1 := ⟨left - 1, by omega⟩
      have hj1 : (left : Int) - 1 = (j : Int) := by omega
      have hj3 : IntKind.i64.wrap (j : Int) = (j : Int) := IntWalk.i64_in _ (by omega)
      have hj4 : ((left : Int) == 0) = false := ieq_f (by omega)
      replace hj := hide hj
      clear h0
      have hG2 : Hid (nread xs = rfin (rkids (j + 1) r n)) := by show _ = _; rw [← hj.out]; exact hG.out
      clear hG
      go_wp2
      have SD7 : Hid (RSt w nb V.drew nil9 nil9 nil9 (⟨n.leaf, n.keys, n.vals, n.kids⟩ : Nd) r) := hide (S0.out.below ((Below.refl V.heap.size V).drew))
      have KT7 := hide (pnumber_any w (w.heap.size + 1) V.drew r 4 SD7.out.rdr (by decide) (by decide))
      have CB7 : Hid (∀ (U : World) (q : Rr), RSt w nb U nil9 nil9 nil9 (⟨n.leaf, n.keys, n.vals, n.kids⟩ : Nd) q → U.cell? ⟨nb, 3, none⟩ = some nil9) := fun U q h => (cells4 h.box).1.2.2.2
      refine wp_region_sched (fun w9 => w9.cell? ⟨nb, 3, none⟩ = some nil9) [(0, true), (1, true), (2, false), (3, false)] 4 mixed (by kernel_rfl) (fun _ _ _ _ h => h) ?_
      iterate 2
       refine sched_take (v := ?_) rfl (by kernel_rfl) (CB7.out _ _ SD7.out) ?_ ?_
       rotate_left
       ·intro w9 r1
        go_simp
        try with_reducible rfl
       try simp only [Act.put, List.setIfInBounds_toArray, List.set_cons_zero, List.set_cons_succ]
      refine sched_run rfl (by kernel_rfl) fun K hK => ?_
      refine wp_call_of 136 _ _ (by rfl) #[.pointer (some ⟨w.heap.size + 1, 0, none⟩), .int .i64 4] (by simp [Act.eval]) (Tryz.call136 _ _) KT7.out ?_
      rintro e wa7 ⟨rfl, ra7, ka7⟩
      have sa7 := SD7.out.call ka7 ra7
      refine ⟨_, rfl, hK _ _ (CB7.out _ _ sa7) ?_⟩
      clear hK K
      have SA7 := hide sa7
      clear sa7 ra7 ka7
      try simp only [Act.put, List.setIfInBounds_toArray, List.set_cons_zero, List.set_cons_succ]
      refine sched_run rfl (by kernel_rfl) fun K hK => ?_
      have sb7 := SA7.out.below ((Below.refl wa7.heap.size wa7).alloc (Nat.le_refl _) (.cells #[(.int .i64 ((rnum 4 r : Nat) : Int))] 3))
      go_simp
      refine hK _ _ (CB7.out _ _ sb7) ?_
      clear hK K
      try simp only [Act.put, List.setIfInBounds_toArray, List.set_cons_zero, List.set_cons_succ]
      show wpList _ _ _ _ _ _
      dsimp only [List.drop]
      have FI7 : Hid (∀ (g cp : Nat) (U : World), U.ownsRow (nb + 1) 3 1 (.slice (some ⟨g, 0, none⟩) (n.kids.length + 1) cp) (n.kids.length + 1) (n.kids.map (Value.int .i64) ++ [(.int .i64 ((rnum 4 r : Nat) : Int))]) → (wa7.alloc (.cells #[(.int .i64 ((rnum 4 r : Nat) : Int))] 3)).grownBy U (Value.ownBlock nil9) → (Value.ownBlock nil9 = some g ∨ g = wa7.heap.size + 1) → U.cell? ⟨nb, 3, none⟩ = some nil9 ∧ U.frozen? ⟨nb, 3, none⟩ = false ∧ Hid (RSt w nb (U.setCell ⟨nb, 3, none⟩ (.slice (some ⟨g, 0, none⟩) (n.kids.length + 1) cp)) nil9 nil9 (.slice (some ⟨g, 0, none⟩) (n.kids.length + 1) cp) (⟨n.leaf, n.keys, n.vals, (n.kids ++ [((rnum 4 r : Nat) : Int)])⟩ : Nd) (rst 4 r))) := fun g cp U ob kb hb => by
       have sb := sb7
       have nbl := (kb.block nb (lt_of_block sb.box) (fun e => by have := (row_from sb.own.kids nb e.symm).1; omega)).trans sb.box
       have oo : OwnJ (nb + 1) U (.slice (some ⟨g, 0, none⟩) (n.kids.length + 1) cp) (n.kids ++ [((rnum 4 r : Nat) : Int)]) := by show World.ownsRow _ _ _ _ _ _ _; simpa using ob
       exact ⟨(cells4 nbl).1.2.2.2, frz nbl 3, hide (sb.kids rfl oo kb (by rcases hb with h | h; exact .inl h; exact .inr (by simpa using h)))⟩
      have own7 := sb7.own.kids
      dsimp only at own7
      have lt7 := lt_of_block sb7.box
      clear sb7 KT7 CB7 SD7 SA7
      go_wp2_with (at_builtin; refine wpList_append_lies _ rfl _ _ 25 rfl (nb + 1) 3 _ (.int .i64 0) 1 8 Tryz.underlying25 ji jz0 jz1 jz2 rfl (by decide) nil9 n.kids.length (n.kids.map (Value.int .i64)) rfl own7 ⟨wa7.heap.size, 0, none⟩ 1 1 [(.int .i64 ((rnum 4 r : Nat) : Int))] rfl rfl (World.news_of_block (heap_alloc_last wa7 _)) (by simp [Value.oneCell']) (by decide) (by rw [show maxLen = 9223372036854775807 from rfl]; first | omega | (simp; omega)) (by first | omega | (simp; omega)) (by omega) (wa7.heap.size + 1) (by simp) ?_; intro ga7 ca7 wb7 ob7 kb7 hb7 _; obtain ⟨cc7, fz7, ST7⟩ := FI7.out ga7 ca7 wb7 ob7 kb7 hb7; clear ob7 kb7 hb7 FI7 own7 lt7)
      clear cc7 fz7
      obtain ⟨V8, hV8⟩ : ∃ U, U = (wb7.setCell ⟨nb, 3, none⟩ (.slice (some ⟨ga7, 0, none⟩) (n.kids.length + 1) ca7)) := ⟨_, rfl⟩
      rw [← hV8]
      rw [← hV8] at ST7
      replace hV8 := hide hV8
      have SD8 : Hid (RSt w nb V8.drew nil9 nil9 (.slice (some ⟨ga7, 0, none⟩) (n.kids.length + 1) ca7) (⟨n.leaf, n.keys, n.vals, (n.kids ++ [((rnum 4 r : Nat) : Int)])⟩ : Nd) (rst 4 r)) := hide (ST7.out.below ((Below.refl V8.heap.size V8).drew))
      have KT8 := hide (ptxt_any w (w.heap.size + 1) V8.drew (rst 4 r) SD8.out.rdr)
      have CB8 : Hid (∀ (U : World) (q : Rr), RSt w nb U nil9 nil9 (.slice (some ⟨ga7, 0, none⟩) (n.kids.length + 1) ca7) (⟨n.leaf, n.keys, n.vals, (n.kids ++ [((rnum 4 r : Nat) : Int)])⟩ : Nd) q → U.cell? ⟨nb, 1, none⟩ = some nil9) := fun U q h => (cells4 h.box).1.2.1
      refine wp_region_sched (fun w9 => w9.cell? ⟨nb, 1, none⟩ = some nil9) [(0, true), (1, true), (2, false), (3, false)] 4 mixed (by kernel_rfl) (fun _ _ _ _ h => h) ?_
      iterate 2
       refine sched_take (v := ?_) rfl (by kernel_rfl) (CB8.out _ _ SD8.out) ?_ ?_
       rotate_left
       ·intro w9 r1
        go_simp
        try with_reducible rfl
       try simp only [Act.put, List.setIfInBounds_toArray, List.set_cons_zero, List.set_cons_succ]
      refine sched_run rfl (by kernel_rfl) fun K hK => ?_
      refine wp_call_of 137 _ _ (by rfl) #[.pointer (some ⟨w.heap.size + 1, 0, none⟩)] (by simp [Act.eval]) (Tryz.call137 _ _) KT8.out ?_
      rintro e wa8 ⟨rfl, ra8, ka8⟩
      have sa8 := SD8.out.call ka8 ra8
      refine ⟨_, rfl, hK _ _ (CB8.out _ _ sa8) ?_⟩
      clear hK K
      have SA8 := hide sa8
      clear sa8 ra8 ka8
      try simp only [Act.put, List.setIfInBounds_toArray, List.set_cons_zero, List.set_cons_succ]
      refine sched_run rfl (by kernel_rfl) fun K hK => ?_
      have sb8 := SA8.out.below ((Below.refl wa8.heap.size wa8).alloc (Nat.le_refl _) (.cells #[(st (rtx (rst 4 r)))] 9))
      go_simp
      refine hK _ _ (CB8.out _ _ sb8) ?_
      clear hK K
      try simp only [Act.put, List.setIfInBounds_toArray, List.set_cons_zero, List.set_cons_succ]
      show wpList _ _ _ _ _ _
      dsimp only [List.drop]
      have FI8 : Hid (∀ (g cp : Nat) (U : World), U.ownsRow (nb + 1) 9 1 (.slice (some ⟨g, 0, none⟩) (n.keys.length + 1) cp) (n.keys.length + 1) (n.keys.map st ++ [(st (rtx (rst 4 r)))]) → (wa8.alloc (.cells #[(st (rtx (rst 4 r)))] 9)).grownBy U (Value.ownBlock nil9) → (Value.ownBlock nil9 = some g ∨ g = wa8.heap.size + 1) → U.cell? ⟨nb, 1, none⟩ = some nil9 ∧ U.frozen? ⟨nb, 1, none⟩ = false ∧ Hid (RSt w nb (U.setCell ⟨nb, 1, none⟩ (.slice (some ⟨g, 0, none⟩) (n.keys.length + 1) cp)) (.slice (some ⟨g, 0, none⟩) (n.keys.length + 1) cp) nil9 (.slice (some ⟨ga7, 0, none⟩) (n.kids.length + 1) ca7) (⟨n.leaf, (n.keys ++ [(rtx (rst 4 r))]), n.vals, (n.kids ++ [((rnum 4 r : Nat) : Int)])⟩ : Nd) (rts (rst 4 r)))) := fun g cp U ob kb hb => by
       have sb := sb8
       have nbl := (kb.block nb (lt_of_block sb.box) (fun e => by have := (row_from sb.own.keys nb e.symm).1; omega)).trans sb.box
       have oo : OwnT (nb + 1) U (.slice (some ⟨g, 0, none⟩) (n.keys.length + 1) cp) (n.keys ++ [(rtx (rst 4 r))]) := by show World.ownsRow _ _ _ _ _ _ _; simpa using ob
       exact ⟨(cells4 nbl).1.2.1, frz nbl 1, hide (sb.keys rfl oo kb (by rcases hb with h | h; exact .inl h; exact .inr (by simpa using h)))⟩
      have own8 := sb8.own.keys
      dsimp only at own8
      have lt8 := lt_of_block sb8.box
      clear sb8 KT8 CB8 SD8 SA8
      go_wp2_with (at_builtin; refine wpList_append_lies _ rfl _ _ 96 rfl (nb + 1) 9 _ (.string ⟨#[]⟩) 1 16 Tryz.underlying96 ii iz0 iz1 iz2 rfl (by decide) nil9 n.keys.length (n.keys.map st) rfl own8 ⟨wa8.heap.size, 0, none⟩ 1 1 [(st (rtx (rst 4 r)))] rfl rfl (World.news_of_block (heap_alloc_last wa8 _)) (by simp [Value.oneCell']) (by decide) (by rw [show maxLen = 9223372036854775807 from rfl]; first | omega | (simp; omega)) (by first | omega | (simp; omega)) (by omega) (wa8.heap.size + 1) (by simp) ?_; intro ga8 ca8 wb8 ob8 kb8 hb8 _; obtain ⟨cc8, fz8, ST8⟩ := FI8.out ga8 ca8 wb8 ob8 kb8 hb8; clear ob8 kb8 hb8 FI8 own8 lt8)
      clear cc8 fz8
      go_step3
      exact ⟨j, nb, _, _, _, (⟨n.leaf, (n.keys ++ [(rtx (rst 4 r))]), n.vals, (n.kids ++ [((rnum 4 r : Nat) : Int)])⟩ : Nd), (rts (rst 4 r)), ⟨_, _, _, _, _, _, _, _, _, _, _, _, _, _, _, _, _, _, _, _, _, _, _, _, _, _, _, _, _, _, _, _, _, _, _, _, _, _, _, _, _, _, _, _, _, _, _, _, _, _, _, _, _, _, _, _, _, _, _, _, _, _, _, _, _, _, _, _, rfl⟩, ST8.out, ⟨.inr (.inl ⟨rfl, hG2.out⟩), .inr ⟨by have := hj.out; simp; omega, by have := hj.out; simp; omega, by have := hj.out; simp; omega⟩⟩⟩
   ·have S0 := hide (ST.out ((M : Int) == 1))
    clear ST
    have hM1 := hM
    clear hM
    obtain ⟨V, hV⟩ : ∃ V, V = w2.alloc (.cells #[.bool ((M : Int) == 1), nil9, nil9, nil9] 98) := ⟨_, rfl⟩
    rw [← hV] at S0
    obtain ⟨ra, rc, hrd⟩ := S0.out.rdr
    obtain ⟨⟨A0, A1⟩, _⟩ := cells2r hrd.box
    have RES := hide S0.out.res
    have BEL := hide hrd.bel
    clear hrd
    obtain ⟨⟨R0, R1, R2, R3⟩, Rf⟩ := cells4 RES.out
    have Rf0 := Rf 0
    have Rf1 := Rf 1
    have Rf2 := Rf 2
    have Rf3 := Rf 3
    clear Rf
    have N0 := (cells4 S0.out.box).1.1
    rw [hnb] at N0
    cases hsh : r.short with
    | true =>
     rw [hsh] at A1
     have e : Hid (nread xs = (none9, 8)) := nread_short (by rw [← HR.out, ← hr.out]; exact hsh)
     replace hsh := hide hsh
     rw [hV] at A0 A1 N0 R0 R1 R2 R3 Rf0 Rf1 Rf2 Rf3
     go_wp2
     rw [← hV]
     rw [jumpN_ret]
     refine retNT rfl rfl w.heap.size rfl _ _ (0, 0) (heap_set4 (u := V) RES.out _ _ _ _) _ Tryz.underlying98 rfl info_ndP (.int .i64 8) rfl ?_
     exact ⟨nil9, nil9, nil9, by rw [e.out]; rfl, by rw [e.out]; exact OwnN.nil _ _ _, below_set4n BEL.out (Nat.le_refl _) _ _ _ _, Dj.nil⟩
    | false =>
     rw [hsh] at A1
     have hs0 : Hid ((rst 1 (rst 1 ⟨xs, false⟩)).short = false) := by show _ = _; rw [← HR.out, ← hr.out]; exact hsh
     replace hsh := hide hsh
     rw [hV] at A0 A1 N0 R0 R1 R2 R3 Rf0 Rf1 Rf2 Rf3
     have e : Hid (nread xs = (none9, 22)) := nread_kind hs0.out (by rw [← HR.out, ← hM1.out]; exact m1) (by rw [← HR.out, ← hM1.out]; exact m0)
     have g2 : ((M : Int) != 1) = true := by simp; omega
     have g3 : ((M : Int) != 0) = true := by simp; omega
     go_wp2
     rw [← hV]
     rw [jumpN_ret]
     refine retNT rfl rfl w.heap.size rfl _ _ (0, 0) (heap_set4 (u := V) RES.out _ _ _ _) _ Tryz.underlying98 rfl info_ndP (.int .i64 22) rfl ?_
     exact ⟨nil9, nil9, nil9, by rw [e.out]; rfl, by rw [e.out]; exact OwnN.nil _ _ _, below_set4n BEL.out (Nat.le_refl _) _ _ _ _, Dj.nil⟩
 ·rintro l a' w' ⟨left, nb, kv, vv, dv, n, r, ⟨u0, u1, u5, u8, u9, u10, u11, u12, u13, u14, u15, u16, u17, u18, u19, u20, u21, u22, u23, u24, u25, u26, u27, u28, u29, u30, u31, u32, u33, u34, u35, u36, u37, u38, u39, u40, u41, u42, u43, u44, u45, u46, u47, u48, u49, u50, u51, u52, u53, u54, u55, u56, u57, u58, u59, u60, u61, u62, u63, u64, u65, u66, u67, u68, u69, u70, u71, u72, rfl⟩, hs, hg, hbd⟩
  obtain ⟨ak, ck, av, cv, ad, cd, rfl, rfl, rfl⟩ := sl_ok hs.own
  have S0 := hide hs
  clear hs
  rcases hg with ⟨rfl, hg⟩ | ⟨rfl, hg⟩ | ⟨rfl, hg⟩
  ·obtain ⟨hb1, hb2, hb3⟩ : n.keys.length + left ≤ 256 ∧ n.vals.length + left ≤ 256 ∧ n.kids.length + left ≤ 256 := by rcases hbd with h | h; cases h; exact h
   have hG := hide hg
   clear hg hbd
   simp only [findLabel]
   by_cases h0 : left = 0
   ·subst h0
    have hG2 : Hid (nread xs = rfin (rpairs 0 r n)) := hG
    clear hG
    go_wp2
    go_step3
    exact And.intro ⟨0, nb, _, _, _, (⟨n.leaf, n.keys, n.vals, n.kids⟩ : Nd), r, ⟨_, _, _, _, _, _, _, _, _, _, _, _, _, _, _, _, _, _, _, _, _, _, _, _, _, _, _, _, _, _, _, _, _, _, _, _, _, _, _, _, _, _, _, _, _, _, _, _, _, _, _, _, _, _, _, _, _, _, _, _, _, _, _, _, _, _, _, _, rfl⟩, S0.out, ⟨.inr (.inr ⟨rfl, hG2.out⟩), .inl rfl⟩⟩ (by simp [intOf])
   ·skip
    obtain ⟨j, hj⟩ : ∃ j, left = j + 1 := ⟨left - 1, by omega⟩
    have hj1 : (left : Int) - 1 = (j : Int) := by omega
    have hj3 : IntKind.i64.wrap (j : Int) = (j : Int) := IntWalk.i64_in _ (by omega)
    have hj4 : ((left : Int) == 0) = false := ieq_f (by omega)
    replace hj := hide hj
    clear h0
    have hG2 : Hid (nread xs = rfin (rpairs (j + 1) r n)) := by show _ = _; rw [← hj.out]; exact hG.out
    clear hG
    go_wp2
    have SD1 : Hid (RSt w nb w'.drew (.slice ak n.keys.length ck) (.slice av n.vals.length cv) (.slice ad n.kids.length cd) (⟨n.leaf, n.keys, n.vals, n.kids⟩ : Nd) r) := hide (S0.out.below ((Below.refl w'.heap.size w').drew))
    have KT1 := hide (ptxt_any w (w.heap.size + 1) w'.drew r SD1.out.rdr)
    have CB1 : Hid (∀ (U : World) (q : Rr), RSt w nb U (.slice ak n.keys.length ck) (.slice av n.vals.length cv) (.slice ad n.kids.length cd) (⟨n.leaf, n.keys, n.vals, n.kids⟩ : Nd) q → U.cell? ⟨nb, 1, none⟩ = some (.slice ak n.keys.length ck)) := fun U q h => (cells4 h.box).1.2.1
    refine wp_region_sched (fun w9 => w9.cell? ⟨nb, 1, none⟩ = some (.slice ak n.keys.length ck)) [(0, true), (1, true), (2, false), (3, false)] 4 mixed (by kernel_rfl) (fun _ _ _ _ h => h) ?_
    iterate 2
     refine sched_take (v := ?_) rfl (by kernel_rfl) (CB1.out _ _ SD1.out) ?_ ?_
     rotate_left
     ·intro w9 r1
      go_simp
      try with_reducible rfl
     try simp only [Act.put, List.setIfInBounds_toArray, List.set_cons_zero, List.set_cons_succ]
    refine sched_run rfl (by kernel_rfl) fun K hK => ?_
    refine wp_call_of 137 _ _ (by rfl) #[.pointer (some ⟨w.heap.size + 1, 0, none⟩)] (by simp [Act.eval]) (Tryz.call137 _ _) KT1.out ?_
    rintro e wa1 ⟨rfl, ra1, ka1⟩
    have sa1 := SD1.out.call ka1 ra1
    refine ⟨_, rfl, hK _ _ (CB1.out _ _ sa1) ?_⟩
    clear hK K
    have SA1 := hide sa1
    clear sa1 ra1 ka1
    try simp only [Act.put, List.setIfInBounds_toArray, List.set_cons_zero, List.set_cons_succ]
    refine sched_run rfl (by kernel_rfl) fun K hK => ?_
    have sb1 := SA1.out.below ((Below.refl wa1.heap.size wa1).alloc (Nat.le_refl _) (.cells #[(st (rtx r))] 9))
    go_simp
    refine hK _ _ (CB1.out _ _ sb1) ?_
    clear hK K
    try simp only [Act.put, List.setIfInBounds_toArray, List.set_cons_zero, List.set_cons_succ]
    show wpList _ _ _ _ _ _
    dsimp only [List.drop]
    have FI1 : Hid (∀ (g cp : Nat) (U : World), U.ownsRow (nb + 1) 9 1 (.slice (some ⟨g, 0, none⟩) (n.keys.length + 1) cp) (n.keys.length + 1) (n.keys.map st ++ [(st (rtx r))]) → (wa1.alloc (.cells #[(st (rtx r))] 9)).grownBy U (Value.ownBlock (.slice ak n.keys.length ck)) → (Value.ownBlock (.slice ak n.keys.length ck) = some g ∨ g = wa1.heap.size + 1) → U.cell? ⟨nb, 1, none⟩ = some (.slice ak n.keys.length ck) ∧ U.frozen? ⟨nb, 1, none⟩ = false ∧ Hid (RSt w nb (U.setCell ⟨nb, 1, none⟩ (.slice (some ⟨g, 0, none⟩) (n.keys.length + 1) cp)) (.slice (some ⟨g, 0, none⟩) (n.keys.length + 1) cp) (.slice av n.vals.length cv) (.slice ad n.kids.length cd) (⟨n.leaf, (n.keys ++ [(rtx r)]), n.vals, n.kids⟩ : Nd) (rts r))) := fun g cp U ob kb hb => by
     have sb := sb1
     have nbl := (kb.block nb (lt_of_block sb.box) (fun e => by have := (row_from sb.own.keys nb e.symm).1; omega)).trans sb.box
     have oo : OwnT (nb + 1) U (.slice (some ⟨g, 0, none⟩) (n.keys.length + 1) cp) (n.keys ++ [(rtx r)]) := by show World.ownsRow _ _ _ _ _ _ _; simpa using ob
     exact ⟨(cells4 nbl).1.2.1, frz nbl 1, hide (sb.keys rfl oo kb (by rcases hb with h | h; exact .inl h; exact .inr (by simpa using h)))⟩
    have own1 := sb1.own.keys
    dsimp only at own1
    have lt1 := lt_of_block sb1.box
    clear sb1 KT1 CB1 SD1 SA1
    go_wp2_with (at_builtin; refine wpList_append_lies _ rfl _ _ 96 rfl (nb + 1) 9 _ (.string ⟨#[]⟩) 1 16 Tryz.underlying96 ii iz0 iz1 iz2 rfl (by decide) (.slice ak n.keys.length ck) n.keys.length (n.keys.map st) rfl own1 ⟨wa1.heap.size, 0, none⟩ 1 1 [(st (rtx r))] rfl rfl (World.news_of_block (heap_alloc_last wa1 _)) (by simp [Value.oneCell']) (by decide) (by rw [show maxLen = 9223372036854775807 from rfl]; first | omega | (simp; omega)) (by first | omega | (simp; omega)) (by omega) (wa1.heap.size + 1) (by simp) ?_; intro ga1 ca1 wb1 ob1 kb1 hb1 _; obtain ⟨cc1, fz1, ST1⟩ := FI1.out ga1 ca1 wb1 ob1 kb1 hb1; clear ob1 kb1 hb1 FI1 own1 lt1)
    clear cc1 fz1
    obtain ⟨V2, hV2⟩ : ∃ U, U = (wb1.setCell ⟨nb, 1, none⟩ (.slice (some ⟨ga1, 0, none⟩) (n.keys.length + 1) ca1)) := ⟨_, rfl⟩
    rw [← hV2]
    rw [← hV2] at ST1
    replace hV2 := hide hV2
    have SD2 : Hid (RSt w nb V2.drew (.slice (some ⟨ga1, 0, none⟩) (n.keys.length + 1) ca1) (.slice av n.vals.length cv) (.slice ad n.kids.length cd) (⟨n.leaf, (n.keys ++ [(rtx r)]), n.vals, n.kids⟩ : Nd) (rts r)) := hide (ST1.out.below ((Below.refl V2.heap.size V2).drew))
    have KT2 := hide (ptxt_any w (w.heap.size + 1) V2.drew (rts r) SD2.out.rdr)
    have CB2 : Hid (∀ (U : World) (q : Rr), RSt w nb U (.slice (some ⟨ga1, 0, none⟩) (n.keys.length + 1) ca1) (.slice av n.vals.length cv) (.slice ad n.kids.length cd) (⟨n.leaf, (n.keys ++ [(rtx r)]), n.vals, n.kids⟩ : Nd) q → U.cell? ⟨nb, 2, none⟩ = some (.slice av n.vals.length cv)) := fun U q h => (cells4 h.box).1.2.2.1
    refine wp_region_sched (fun w9 => w9.cell? ⟨nb, 2, none⟩ = some (.slice av n.vals.length cv)) [(0, true), (1, true), (2, false), (3, false)] 4 mixed (by kernel_rfl) (fun _ _ _ _ h => h) ?_
    iterate 2
     refine sched_take (v := ?_) rfl (by kernel_rfl) (CB2.out _ _ SD2.out) ?_ ?_
     rotate_left
     ·intro w9 r1
      go_simp
      try with_reducible rfl
     try simp only [Act.put, List.setIfInBounds_toArray, List.set_cons_zero, List.set_cons_succ]
    refine sched_run rfl (by kernel_rfl) fun K hK => ?_
    refine wp_call_of 137 _ _ (by rfl) #[.pointer (some ⟨w.heap.size + 1, 0, none⟩)] (by simp [Act.eval]) (Tryz.call137 _ _) KT2.out ?_
    rintro e wa2 ⟨rfl, ra2, ka2⟩
    have sa2 := SD2.out.call ka2 ra2
    refine ⟨_, rfl, hK _ _ (CB2.out _ _ sa2) ?_⟩
    clear hK K
    have SA2 := hide sa2
    clear sa2 ra2 ka2
    try simp only [Act.put, List.setIfInBounds_toArray, List.set_cons_zero, List.set_cons_succ]
    refine sched_run rfl (by kernel_rfl) fun K hK => ?_
    have sb2 := SA2.out.below ((Below.refl wa2.heap.size wa2).alloc (Nat.le_refl _) (.cells #[(st (rtx (rts r)))] 9))
    go_simp
    refine hK _ _ (CB2.out _ _ sb2) ?_
    clear hK K
    try simp only [Act.put, List.setIfInBounds_toArray, List.set_cons_zero, List.set_cons_succ]
    show wpList _ _ _ _ _ _
    dsimp only [List.drop]
    have FI2 : Hid (∀ (g cp : Nat) (U : World), U.ownsRow (nb + 1) 9 1 (.slice (some ⟨g, 0, none⟩) (n.vals.length + 1) cp) (n.vals.length + 1) (n.vals.map st ++ [(st (rtx (rts r)))]) → (wa2.alloc (.cells #[(st (rtx (rts r)))] 9)).grownBy U (Value.ownBlock (.slice av n.vals.length cv)) → (Value.ownBlock (.slice av n.vals.length cv) = some g ∨ g = wa2.heap.size + 1) → U.cell? ⟨nb, 2, none⟩ = some (.slice av n.vals.length cv) ∧ U.frozen? ⟨nb, 2, none⟩ = false ∧ Hid (RSt w nb (U.setCell ⟨nb, 2, none⟩ (.slice (some ⟨g, 0, none⟩) (n.vals.length + 1) cp)) (.slice (some ⟨ga1, 0, none⟩) (n.keys.length + 1) ca1) (.slice (some ⟨g, 0, none⟩) (n.vals.length + 1) cp) (.slice ad n.kids.length cd) (⟨n.leaf, (n.keys ++ [(rtx r)]), (n.vals ++ [(rtx (rts r))]), n.kids⟩ : Nd) (rts (rts r)))) := fun g cp U ob kb hb => by
     have sb := sb2
     have nbl := (kb.block nb (lt_of_block sb.box) (fun e => by have := (row_from sb.own.vals nb e.symm).1; omega)).trans sb.box
     have oo : OwnT (nb + 1) U (.slice (some ⟨g, 0, none⟩) (n.vals.length + 1) cp) (n.vals ++ [(rtx (rts r))]) := by show World.ownsRow _ _ _ _ _ _ _; simpa using ob
     exact ⟨(cells4 nbl).1.2.2.1, frz nbl 2, hide (sb.vals rfl oo kb (by rcases hb with h | h; exact .inl h; exact .inr (by simpa using h)))⟩
    have own2 := sb2.own.vals
    dsimp only at own2
    have lt2 := lt_of_block sb2.box
    clear sb2 KT2 CB2 SD2 SA2
    go_wp2_with (at_builtin; refine wpList_append_lies _ rfl _ _ 96 rfl (nb + 1) 9 _ (.string ⟨#[]⟩) 1 16 Tryz.underlying96 ii iz0 iz1 iz2 rfl (by decide) (.slice av n.vals.length cv) n.vals.length (n.vals.map st) rfl own2 ⟨wa2.heap.size, 0, none⟩ 1 1 [(st (rtx (rts r)))] rfl rfl (World.news_of_block (heap_alloc_last wa2 _)) (by simp [Value.oneCell']) (by decide) (by rw [show maxLen = 9223372036854775807 from rfl]; first | omega | (simp; omega)) (by first | omega | (simp; omega)) (by omega) (wa2.heap.size + 1) (by simp) ?_; intro ga2 ca2 wb2 ob2 kb2 hb2 _; obtain ⟨cc2, fz2, ST2⟩ := FI2.out ga2 ca2 wb2 ob2 kb2 hb2; clear ob2 kb2 hb2 FI2 own2 lt2)
    clear cc2 fz2
    go_step3
    exact And.intro ⟨j, nb, _, _, _, (⟨n.leaf, (n.keys ++ [(rtx r)]), (n.vals ++ [(rtx (rts r))]), n.kids⟩ : Nd), (rts (rts r)), ⟨_, _, _, _, _, _, _, _, _, _, _, _, _, _, _, _, _, _, _, _, _, _, _, _, _, _, _, _, _, _, _, _, _, _, _, _, _, _, _, _, _, _, _, _, _, _, _, _, _, _, _, _, _, _, _, _, _, _, _, _, _, _, _, _, _, _, _, _, rfl⟩, ST2.out, ⟨.inl ⟨rfl, hG2.out⟩, .inr ⟨by have := hj.out; simp; omega, by have := hj.out; simp; omega, by have := hj.out; simp; omega⟩⟩⟩ (by have := hj.out; simp [intOf]; omega)
  ·obtain ⟨hb1, hb2, hb3⟩ : n.keys.length + left ≤ 256 ∧ n.vals.length + left ≤ 256 ∧ n.kids.length + left ≤ 256 := by rcases hbd with h | h; cases h; exact h
   have hG := hide hg
   clear hg hbd
   simp only [findLabel]
   by_cases h0 : left = 0
   ·subst h0
    have hG2 : Hid (nread xs = rfin (rkids 0 r n)) := hG
    clear hG
    go_wp2
    have SD3 : Hid (RSt w nb w'.drew (.slice ak n.keys.length ck) (.slice av n.vals.length cv) (.slice ad n.kids.length cd) (⟨n.leaf, n.keys, n.vals, n.kids⟩ : Nd) r) := hide (S0.out.below ((Below.refl w'.heap.size w').drew))
    have KT3 := hide (pnumber_any w (w.heap.size + 1) w'.drew r 4 SD3.out.rdr (by decide) (by decide))
    have CB3 : Hid (∀ (U : World) (q : Rr), RSt w nb U (.slice ak n.keys.length ck) (.slice av n.vals.length cv) (.slice ad n.kids.length cd) (⟨n.leaf, n.keys, n.vals, n.kids⟩ : Nd) q → U.cell? ⟨nb, 3, none⟩ = some (.slice ad n.kids.length cd)) := fun U q h => (cells4 h.box).1.2.2.2
    refine wp_region_sched (fun w9 => w9.cell? ⟨nb, 3, none⟩ = some (.slice ad n.kids.length cd)) [(0, true), (1, true), (2, false), (3, false)] 4 mixed (by kernel_rfl) (fun _ _ _ _ h => h) ?_
    iterate 2
     refine sched_take (v := ?_) rfl (by kernel_rfl) (CB3.out _ _ SD3.out) ?_ ?_
     rotate_left
     ·intro w9 r1
      go_simp
      try with_reducible rfl
     try simp only [Act.put, List.setIfInBounds_toArray, List.set_cons_zero, List.set_cons_succ]
    refine sched_run rfl (by kernel_rfl) fun K hK => ?_
    refine wp_call_of 136 _ _ (by rfl) #[.pointer (some ⟨w.heap.size + 1, 0, none⟩), .int .i64 4] (by simp [Act.eval]) (Tryz.call136 _ _) KT3.out ?_
    rintro e wa3 ⟨rfl, ra3, ka3⟩
    have sa3 := SD3.out.call ka3 ra3
    refine ⟨_, rfl, hK _ _ (CB3.out _ _ sa3) ?_⟩
    clear hK K
    have SA3 := hide sa3
    clear sa3 ra3 ka3
    try simp only [Act.put, List.setIfInBounds_toArray, List.set_cons_zero, List.set_cons_succ]
    refine sched_run rfl (by kernel_rfl) fun K hK => ?_
    have sb3 := SA3.out.below ((Below.refl wa3.heap.size wa3).alloc (Nat.le_refl _) (.cells #[(.int .i64 ((rnum 4 r : Nat) : Int))] 3))
    go_simp
    refine hK _ _ (CB3.out _ _ sb3) ?_
    clear hK K
    try simp only [Act.put, List.setIfInBounds_toArray, List.set_cons_zero, List.set_cons_succ]
    show wpList _ _ _ _ _ _
    dsimp only [List.drop]
    have FI3 : Hid (∀ (g cp : Nat) (U : World), U.ownsRow (nb + 1) 3 1 (.slice (some ⟨g, 0, none⟩) (n.kids.length + 1) cp) (n.kids.length + 1) (n.kids.map (Value.int .i64) ++ [(.int .i64 ((rnum 4 r : Nat) : Int))]) → (wa3.alloc (.cells #[(.int .i64 ((rnum 4 r : Nat) : Int))] 3)).grownBy U (Value.ownBlock (.slice ad n.kids.length cd)) → (Value.ownBlock (.slice ad n.kids.length cd) = some g ∨ g = wa3.heap.size + 1) → U.cell? ⟨nb, 3, none⟩ = some (.slice ad n.kids.length cd) ∧ U.frozen? ⟨nb, 3, none⟩ = false ∧ Hid (RSt w nb (U.setCell ⟨nb, 3, none⟩ (.slice (some ⟨g, 0, none⟩) (n.kids.length + 1) cp)) (.slice ak n.keys.length ck) (.slice av n.vals.length cv) (.slice (some ⟨g, 0, none⟩) (n.kids.length + 1) cp) (⟨n.leaf, n.keys, n.vals, (n.kids ++ [((rnum 4 r : Nat) : Int)])⟩ : Nd) (rst 4 r))) := fun g cp U ob kb hb => by
     have sb := sb3
     have nbl := (kb.block nb (lt_of_block sb.box) (fun e => by have := (row_from sb.own.kids nb e.symm).1; omega)).trans sb.box
     have oo : OwnJ (nb + 1) U (.slice (some ⟨g, 0, none⟩) (n.kids.length + 1) cp) (n.kids ++ [((rnum 4 r : Nat) : Int)]) := by show World.ownsRow _ _ _ _ _ _ _; simpa using ob
     exact ⟨(cells4 nbl).1.2.2.2, frz nbl 3, hide (sb.kids rfl oo kb (by rcases hb with h | h; exact .inl h; exact .inr (by simpa using h)))⟩
    have own3 := sb3.own.kids
    dsimp only at own3
    have lt3 := lt_of_block sb3.box
    clear sb3 KT3 CB3 SD3 SA3
    go_wp2_with (at_builtin; refine wpList_append_lies _ rfl _ _ 25 rfl (nb + 1) 3 _ (.int .i64 0) 1 8 Tryz.underlying25 ji jz0 jz1 jz2 rfl (by decide) (.slice ad n.kids.length cd) n.kids.length (n.kids.map (Value.int .i64)) rfl own3 ⟨wa3.heap.size, 0, none⟩ 1 1 [(.int .i64 ((rnum 4 r : Nat) : Int))] rfl rfl (World.news_of_block (heap_alloc_last wa3 _)) (by simp [Value.oneCell']) (by decide) (by rw [show maxLen = 9223372036854775807 from rfl]; first | omega | (simp; omega)) (by first | omega | (simp; omega)) (by omega) (wa3.heap.size + 1) (by simp) ?_; intro ga3 ca3 wb3 ob3 kb3 hb3 _; obtain ⟨cc3, fz3, ST3⟩ := FI3.out ga3 ca3 wb3 ob3 kb3 hb3; clear ob3 kb3 hb3 FI3 own3 lt3)
    clear cc3 fz3
    go_step3
    exact And.intro ⟨0, nb, _, _, _, (⟨n.leaf, n.keys, n.vals, (n.kids ++ [((rnum 4 r : Nat) : Int)])⟩ : Nd), (rst 4 r), ⟨_, _, _, _, _, _, _, _, _, _, _, _, _, _, _, _, _, _, _, _, _, _, _, _, _, _, _, _, _, _, _, _, _, _, _, _, _, _, _, _, _, _, _, _, _, _, _, _, _, _, _, _, _, _, _, _, _, _, _, _, _, _, _, _, _, _, _, _, rfl⟩, ST3.out, ⟨.inr (.inr ⟨rfl, hG2.out⟩), .inl rfl⟩⟩ (by simp [intOf])
   ·skip
    obtain ⟨j, hj⟩ : ∃ j, left = j + 1 := ⟨left - 1, by omega⟩
    have hj1 : (left : Int) - 1 = (j : Int) := by omega
    have hj3 : IntKind.i64.wrap (j : Int) = (j : Int) := IntWalk.i64_in _ (by omega)
    have hj4 : ((left : Int) == 0) = false := ieq_f (by omega)
    replace hj := hide hj
    clear h0
    have hG2 : Hid (nread xs = rfin (rkids (j + 1) r n)) := by show _ = _; rw [← hj.out]; exact hG.out
    clear hG
    go_wp2
    have SD4 : Hid (RSt w nb w'.drew (.slice ak n.keys.length ck) (.slice av n.vals.length cv) (.slice ad n.kids.length cd) (⟨n.leaf, n.keys, n.vals, n.kids⟩ : Nd) r) := hide (S0.out.below ((Below.refl w'.heap.size w').drew))
    have KT4 := hide (pnumber_any w (w.heap.size + 1) w'.drew r 4 SD4.out.rdr (by decide) (by decide))
    have CB4 : Hid (∀ (U : World) (q : Rr), RSt w nb U (.slice ak n.keys.length ck) (.slice av n.vals.length cv) (.slice ad n.kids.length cd) (⟨n.leaf, n.keys, n.vals, n.kids⟩ : Nd) q → U.cell? ⟨nb, 3, none⟩ = some (.slice ad n.kids.length cd)) := fun U q h => (cells4 h.box).1.2.2.2
    refine wp_region_sched (fun w9 => w9.cell? ⟨nb, 3, none⟩ = some (.slice ad n.kids.length cd)) [(0, true), (1, true), (2, false), (3, false)] 4 mixed (by kernel_rfl) (fun _ _ _ _ h => h) ?_
    iterate 2
     refine sched_take (v := ?_) rfl (by kernel_rfl) (CB4.out _ _ SD4.out) ?_ ?_
     rotate_left
     ·intro w9 r1
      go_simp
      try with_reducible rfl
     try simp only [Act.put, List.setIfInBounds_toArray, List.set_cons_zero, List.set_cons_succ]
    refine sched_run rfl (by kernel_rfl) fun K hK => ?_
    refine wp_call_of 136 _ _ (by rfl) #[.pointer (some ⟨w.heap.size + 1, 0, none⟩), .int .i64 4] (by simp [Act.eval]) (Tryz.call136 _ _) KT4.out ?_
    rintro e wa4 ⟨rfl, ra4, ka4⟩
    have sa4 := SD4.out.call ka4 ra4
    refine ⟨_, rfl, hK _ _ (CB4.out _ _ sa4) ?_⟩
    clear hK K
    have SA4 := hide sa4
    clear sa4 ra4 ka4
    try simp only [Act.put, List.setIfInBounds_toArray, List.set_cons_zero, List.set_cons_succ]
    refine sched_run rfl (by kernel_rfl) fun K hK => ?_
    have sb4 := SA4.out.below ((Below.refl wa4.heap.size wa4).alloc (Nat.le_refl _) (.cells #[(.int .i64 ((rnum 4 r : Nat) : Int))] 3))
    go_simp
    refine hK _ _ (CB4.out _ _ sb4) ?_
    clear hK K
    try simp only [Act.put, List.setIfInBounds_toArray, List.set_cons_zero, List.set_cons_succ]
    show wpList _ _ _ _ _ _
    dsimp only [List.drop]
    have FI4 : Hid (∀ (g cp : Nat) (U : World), U.ownsRow (nb + 1) 3 1 (.slice (some ⟨g, 0, none⟩) (n.kids.length + 1) cp) (n.kids.length + 1) (n.kids.map (Value.int .i64) ++ [(.int .i64 ((rnum 4 r : Nat) : Int))]) → (wa4.alloc (.cells #[(.int .i64 ((rnum 4 r : Nat) : Int))] 3)).grownBy U (Value.ownBlock (.slice ad n.kids.length cd)) → (Value.ownBlock (.slice ad n.kids.length cd) = some g ∨ g = wa4.heap.size + 1) → U.cell? ⟨nb, 3, none⟩ = some (.slice ad n.kids.length cd) ∧ U.frozen? ⟨nb, 3, none⟩ = false ∧ Hid (RSt w nb (U.setCell ⟨nb, 3, none⟩ (.slice (some ⟨g, 0, none⟩) (n.kids.length + 1) cp)) (.slice ak n.keys.length ck) (.slice av n.vals.length cv) (.slice (some ⟨g, 0, none⟩) (n.kids.length + 1) cp) (⟨n.leaf, n.keys, n.vals, (n.kids ++ [((rnum 4 r : Nat) : Int)])⟩ : Nd) (rst 4 r))) := fun g cp U ob kb hb => by
     have sb := sb4
     have nbl := (kb.block nb (lt_of_block sb.box) (fun e => by have := (row_from sb.own.kids nb e.symm).1; omega)).trans sb.box
     have oo : OwnJ (nb + 1) U (.slice (some ⟨g, 0, none⟩) (n.kids.length + 1) cp) (n.kids ++ [((rnum 4 r : Nat) : Int)]) := by show World.ownsRow _ _ _ _ _ _ _; simpa using ob
     exact ⟨(cells4 nbl).1.2.2.2, frz nbl 3, hide (sb.kids rfl oo kb (by rcases hb with h | h; exact .inl h; exact .inr (by simpa using h)))⟩
    have own4 := sb4.own.kids
    dsimp only at own4
    have lt4 := lt_of_block sb4.box
    clear sb4 KT4 CB4 SD4 SA4
    go_wp2_with (at_builtin; refine wpList_append_lies _ rfl _ _ 25 rfl (nb + 1) 3 _ (.int .i64 0) 1 8 Tryz.underlying25 ji jz0 jz1 jz2 rfl (by decide) (.slice ad n.kids.length cd) n.kids.length (n.kids.map (Value.int .i64)) rfl own4 ⟨wa4.heap.size, 0, none⟩ 1 1 [(.int .i64 ((rnum 4 r : Nat) : Int))] rfl rfl (World.news_of_block (heap_alloc_last wa4 _)) (by simp [Value.oneCell']) (by decide) (by rw [show maxLen = 9223372036854775807 from rfl]; first | omega | (simp; omega)) (by first | omega | (simp; omega)) (by omega) (wa4.heap.size + 1) (by simp) ?_; intro ga4 ca4 wb4 ob4 kb4 hb4 _; obtain ⟨cc4, fz4, ST4⟩ := FI4.out ga4 ca4 wb4 ob4 kb4 hb4; clear ob4 kb4 hb4 FI4 own4 lt4)
    clear cc4 fz4
    obtain ⟨V5, hV5⟩ : ∃ U, U = (wb4.setCell ⟨nb, 3, none⟩ (.slice (some ⟨ga4, 0, none⟩) (n.kids.length + 1) ca4)) := ⟨_, rfl⟩
    rw [← hV5]
    rw [← hV5] at ST4
    replace hV5 := hide hV5
    have SD5 : Hid (RSt w nb V5.drew (.slice ak n.keys.length ck) (.slice av n.vals.length cv) (.slice (some ⟨ga4, 0, none⟩) (n.kids.length + 1) ca4) (⟨n.leaf, n.keys, n.vals, (n.kids ++ [((rnum 4 r : Nat) : Int)])⟩ : Nd) (rst 4 r)) := hide (ST4.out.below ((Below.refl V5.heap.size V5).drew))
    have KT5 := hide (ptxt_any w (w.heap.size + 1) V5.drew (rst 4 r) SD5.out.rdr)
    have CB5 : Hid (∀ (U : World) (q : Rr), RSt w nb U (.slice ak n.keys.length ck) (.slice av n.vals.length cv) (.slice (some ⟨ga4, 0, none⟩) (n.kids.length + 1) ca4) (⟨n.leaf, n.keys, n.vals, (n.kids ++ [((rnum 4 r : Nat) : Int)])⟩ : Nd) q → U.cell? ⟨nb, 1, none⟩ = some (.slice ak n.keys.length ck)) := fun U q h => (cells4 h.box).1.2.1
    refine wp_region_sched (fun w9 => w9.cell? ⟨nb, 1, none⟩ = some (.slice ak n.keys.length ck)) [(0, true), (1, true), (2, false), (3, false)] 4 mixed (by kernel_rfl) (fun _ _ _ _ h => h) ?_
    iterate 2
     refine sched_take (v := ?_) rfl (by kernel_rfl) (CB5.out _ _ SD5.out) ?_ ?_
     rotate_left
     ·intro w9 r1
      go_simp
      try with_reducible rfl
     try simp only [Act.put, List.setIfInBounds_toArray, List.set_cons_zero, List.set_cons_succ]
    refine sched_run rfl (by kernel_rfl) fun K hK => ?_
    refine wp_call_of 137 _ _ (by rfl) #[.pointer (some ⟨w.heap.size + 1, 0, none⟩)] (by simp [Act.eval]) (Tryz.call137 _ _) KT5.out ?_
    rintro e wa5 ⟨rfl, ra5, ka5⟩
    have sa5 := SD5.out.call ka5 ra5
    refine ⟨_, rfl, hK _ _ (CB5.out _ _ sa5) ?_⟩
    clear hK K
    have SA5 := hide sa5
    clear sa5 ra5 ka5
    try simp only [Act.put, List.setIfInBounds_toArray, List.set_cons_zero, List.set_cons_succ]
    refine sched_run rfl (by kernel_rfl) fun K hK => ?_
    have sb5 := SA5.out.below ((Below.refl wa5.heap.size wa5).alloc (Nat.le_refl _) (.cells #[(st (rtx (rst 4 r)))] 9))
    go_simp
    refine hK _ _ (CB5.out _ _ sb5) ?_
    clear hK K
    try simp only [Act.put, List.setIfInBounds_toArray, List.set_cons_zero, List.set_cons_succ]
    show wpList _ _ _ _ _ _
    dsimp only [List.drop]
    have FI5 : Hid (∀ (g cp : Nat) (U : World), U.ownsRow (nb + 1) 9 1 (.slice (some ⟨g, 0, none⟩) (n.keys.length + 1) cp) (n.keys.length + 1) (n.keys.map st ++ [(st (rtx (rst 4 r)))]) → (wa5.alloc (.cells #[(st (rtx (rst 4 r)))] 9)).grownBy U (Value.ownBlock (.slice ak n.keys.length ck)) → (Value.ownBlock (.slice ak n.keys.length ck) = some g ∨ g = wa5.heap.size + 1) → U.cell? ⟨nb, 1, none⟩ = some (.slice ak n.keys.length ck) ∧ U.frozen? ⟨nb, 1, none⟩ = false ∧ Hid (RSt w nb (U.setCell ⟨nb, 1, none⟩ (.slice (some ⟨g, 0, none⟩) (n.keys.length + 1) cp)) (.slice (some ⟨g, 0, none⟩) (n.keys.length + 1) cp) (.slice av n.vals.length cv) (.slice (some ⟨ga4, 0, none⟩) (n.kids.length + 1) ca4) (⟨n.leaf, (n.keys ++ [(rtx (rst 4 r))]), n.vals, (n.kids ++ [((rnum 4 r : Nat) : Int)])⟩ : Nd) (rts (rst 4 r)))) := fun g cp U ob kb hb => by
     have sb := sb5
     have nbl := (kb.block nb (lt_of_block sb.box) (fun e => by have := (row_from sb.own.keys nb e.symm).1; omega)).trans sb.box
     have oo : OwnT (nb + 1) U (.slice (some ⟨g, 0, none⟩) (n.keys.length + 1) cp) (n.keys ++ [(rtx (rst 4 r))]) := by show World.ownsRow _ _ _ _ _ _ _; simpa using ob
     exact ⟨(cells4 nbl).1.2.1, frz nbl 1, hide (sb.keys rfl oo kb (by rcases hb with h | h; exact .inl h; exact .inr (by simpa using h)))⟩
    have own5 := sb5.own.keys
    dsimp only at own5
    have lt5 := lt_of_block sb5.box
    clear sb5 KT5 CB5 SD5 SA5
    go_wp2_with (at_builtin; refine wpList_append_lies _ rfl _ _ 96 rfl (nb + 1) 9 _ (.string ⟨#[]⟩) 1 16 Tryz.underlying96 ii iz0 iz1 iz2 rfl (by decide) (.slice ak n.keys.length ck) n.keys.length (n.keys.map st) rfl own5 ⟨wa5.heap.size, 0, none⟩ 1 1 [(st (rtx (rst 4 r)))] rfl rfl (World.news_of_block (heap_alloc_last wa5 _)) (by simp [Value.oneCell']) (by decide) (by rw [show maxLen = 9223372036854775807 from rfl]; first | omega | (simp; omega)) (by first | omega | (simp; omega)) (by omega) (wa5.heap.size + 1) (by simp) ?_; intro ga5 ca5 wb5 ob5 kb5 hb5 _; obtain ⟨cc5, fz5, ST5⟩ := FI5.out ga5 ca5 wb5 ob5 kb5 hb5; clear ob5 kb5 hb5 FI5 own5 lt5)
    clear cc5 fz5
    go_step3
    exact And.intro ⟨j, nb, _, _, _, (⟨n.leaf, (n.keys ++ [(rtx (rst 4 r))]), n.vals, (n.kids ++ [((rnum 4 r : Nat) : Int)])⟩ : Nd), (rts (rst 4 r)), ⟨_, _, _, _, _, _, _, _, _, _, _, _, _, _, _, _, _, _, _, _, _, _, _, _, _, _, _, _, _, _, _, _, _, _, _, _, _, _, _, _, _, _, _, _, _, _, _, _, _, _, _, _, _, _, _, _, _, _, _, _, _, _, _, _, _, _, _, _, rfl⟩, ST5.out, ⟨.inr (.inl ⟨rfl, hG2.out⟩), .inr ⟨by have := hj.out; simp; omega, by have := hj.out; simp; omega, by have := hj.out; simp; omega⟩⟩⟩ (by have := hj.out; simp [intOf]; omega)
  ·have hG := hide hg
   clear hg hbd
   simp only [findLabel]
   obtain ⟨ra, rc, hr⟩ := S0.out.rdr
   obtain ⟨⟨A0, A1⟩, _⟩ := cells2r hr.box
   have RES := hide S0.out.res
   have BEL := hide hr.bel
   clear hr
   obtain ⟨⟨R0, R1, R2, R3⟩, Rf⟩ := cells4 RES.out
   have Rf0 := Rf 0
   have Rf1 := Rf 1
   have Rf2 := Rf 2
   have Rf3 := Rf 3
   clear Rf
   obtain ⟨⟨N0, N1, N2, N3⟩, _⟩ := cells4 S0.out.box
   cases hsh : r.short with
   | true =>
    rw [hsh] at A1
    have e : Hid (nread xs = (none9, 8)) := by show _ = _; rw [hG.out]; unfold rfin; rw [hsh]; rfl
    replace hsh := hide hsh
    go_wp2
    rw [jumpN_ret]
    refine retNT rfl rfl w.heap.size rfl _ _ (0, 0) (heap_set4 (u := w') RES.out _ _ _ _) _ Tryz.underlying98 rfl info_ndP (.int .i64 8) rfl ?_
    exact ⟨nil9, nil9, nil9, by rw [e.out]; rfl, by rw [e.out]; exact OwnN.nil _ _ _, below_set4n BEL.out (Nat.le_refl _) _ _ _ _, Dj.nil⟩
   | false =>
    rw [hsh] at A1
    by_cases hl : 0 < r.rest.length
    ·have e : Hid (nread xs = (none9, 23)) := by show _ = _; rw [hG.out]; unfold rfin; rw [hsh, if_neg (by decide), if_pos hl]
     have hq : (0 : Int) < (r.rest.length : Int) := by omega
     replace hsh := hide hsh
     go_wp2
     rw [jumpN_ret]
     refine retNT rfl rfl w.heap.size rfl _ _ (0, 0) (heap_set4 (u := w') RES.out _ _ _ _) _ Tryz.underlying98 rfl info_ndP (.int .i64 23) rfl ?_
     exact ⟨nil9, nil9, nil9, by rw [e.out]; rfl, by rw [e.out]; exact OwnN.nil _ _ _, below_set4n BEL.out (Nat.le_refl _) _ _ _ _, Dj.nil⟩
    ·have e : Hid (nread xs = (n, 0)) := by show _ = _; rw [hG.out]; unfold rfin; rw [hsh, if_neg (by decide), if_neg hl]
     have hq : ¬ (0 : Int) < (r.rest.length : Int) := by omega
     have hq2 : r.rest.length = 0 := by omega
     rw [hq2] at A0
     replace hsh := hide hsh
     replace hq2 := hide hq2
     clear hq hl
     go_wp2
     rw [jumpN_ret]
     refine retNT rfl rfl w.heap.size rfl _ _ (0, 0) (heap_set4 (u := w') RES.out _ _ _ _) _ Tryz.underlying98 rfl info_ndP (.int .i64 0) rfl ?_
     have hnb := S0.out.hnb
     have hlt : w.heap.size < nb + 1 := by omega
     exact ⟨_, _, _, by rw [e.out], by rw [e.out]; exact ((((S0.out.own.set hlt 0 _).set hlt 1 _).set hlt 2 _).set hlt 3 _).mono (by omega), below_set4n BEL.out (Nat.le_refl _) _ _ _ _, ⟨S0.out.d1, S0.out.d2, S0.out.d3⟩⟩
end Go.Proofs.YtpiikmkajckccaaGreat

namespace Go.Proofs.YtpiikmkajckccaaGreat
open Go.RowKit
theorem rfin_small (p : Nd × Rr) : (rfin p).1 = p.1 ∨ (rfin p).1 = none9 := by
 unfold rfin
 split
 ·exact .inr rfl
 ·split
  ·exact .inr rfl
  ·exact .inl rfl
theorem rpairs_len : ∀ (k : Nat) (r : Rr) (n : Nd), (rpairs k r n).1.keys.length = n.keys.length + k ∧ (rpairs k r n).1.vals.length = n.vals.length + k ∧ (rpairs k r n).1.kids.length = n.kids.length
 | 0, r, n => ⟨rfl, rfl, rfl⟩
 | k + 1, r, n => by
  have := rpairs_len k (rts (rts r)) ⟨n.leaf, n.keys ++ [rtx r], n.vals ++ [rtx (rts r)], n.kids⟩
  simp only [rpairs] at this ⊢
  simp at this
  omega
theorem rkids_len : ∀ (k : Nat) (r : Rr) (n : Nd), (rkids k r n).1.keys.length = n.keys.length + k ∧ (rkids k r n).1.vals.length = n.vals.length ∧ (rkids k r n).1.kids.length = n.kids.length + k + 1
 | 0, r, n => by simp [rkids]
 | k + 1, r, n => by
  have := rkids_len k (rts (rst 4 r)) ⟨n.leaf, n.keys ++ [rtx (rst 4 r)], n.vals, n.kids ++ [((rnum 4 r : Nat) : Int)]⟩
  simp only [rkids] at this ⊢
  simp at this
  omega
theorem nread_fit (xs : List UInt8) : nfit (nread xs).1 := by
 have hl : rnum 1 (rst 1 ⟨xs, false⟩) < 256 := rnum_lt 1 _
 have hn : nfit none9 := ⟨by simp [none9], by simp [none9], by simp [none9]⟩
 unfold nread
 dsimp only
 split
 ·exact hn
 ·split
  ·rcases rfin_small (rpairs (rnum 1 (rst 1 ⟨xs, false⟩)) (rst 1 (rst 1 ⟨xs, false⟩)) ⟨true, [], [], []⟩) with e | e
   ·rw [e]
    obtain ⟨p, q, r⟩ := rpairs_len (rnum 1 (rst 1 ⟨xs, false⟩)) (rst 1 (rst 1 ⟨xs, false⟩)) ⟨true, [], [], []⟩
    unfold nfit
    rw [p, q, r]
    simp
    omega
   ·rw [e]; exact hn
  ·split
   ·rcases rfin_small (rkids (rnum 1 (rst 1 ⟨xs, false⟩)) (rst 1 (rst 1 ⟨xs, false⟩)) ⟨false, [], [], []⟩) with e | e
    ·rw [e]
     obtain ⟨p, q, r⟩ := rkids_len (rnum 1 (rst 1 ⟨xs, false⟩)) (rst 1 (rst 1 ⟨xs, false⟩)) ⟨false, [], [], []⟩
     unfold nfit
     rw [p, q, r]
     simp
     omega
    ·rw [e]; exact hn
   ·exact hn
set_option maxRecDepth 100000 in
set_option maxHeartbeats 4000000 in
theorem pdecD_any (w : World) (v : Value) (xs : List UInt8) (h : Rd w v xs) :
  Calls Tryz.prog 76 #[v] w fun e w' => ∃ kv vv dv, e = .returned (.tuple #[nv (ndec xs).1 kv vv dv, .int .i64 (ndec xs).2]) ∧ OwnN w.heap.size w' kv vv dv (ndec xs).1 ∧ Below w.heap.size w w' ∧ Dj kv vv dv := by
 obtain ⟨X, hX, D, bX, sX⟩ := boxedN w #[.bool false, nil9, nil9, nil9] 98
 obtain ⟨a, c, rfl⟩ := h.slice
 have KR := hide (preadD_any X _ xs (h.to bX))
 have hfit := hide (nread_fit xs)
 have RX := hide (And.intro D sX)
 have BX := hide bX
 obtain ⟨nr, hnr⟩ : ∃ p, p = nread xs := ⟨_, rfl⟩
 have hd : Hid (ndec xs = if nr.2 = 0 then if ncheck nr.1 = 0 then nr else (none9, ncheck nr.1) else (none9, nr.2)) := by show _ = _; unfold ndec; rw [hnr]
 rw [← hnr] at KR hfit
 generalize ndec xs = dd at *
 clear h D bX sX hnr
 go_enter Tryz.func76, Tryz.ntmps76
 go_wp2_with fail
 rw [← hX]
 replace hX := hide hX
 refine KR.out.mono ?_
 rintro e w1 ⟨kv, vv, dv, rfl, o1, b1, dj1⟩
 have HJ := hide dj1
 clear KR dj1
 obtain ⟨n, err⟩ := nr
 dsimp only at *
 obtain ⟨ak, ck, av, cv, ad, cd, rfl, rfl, rfl⟩ := o1.rd.slices
 -- the node's box
 obtain ⟨V, hV⟩ : ∃ V, V = w1.alloc (.cells #[.bool n.leaf, .slice ak n.keys.length ck, .slice av n.vals.length cv, .slice ad n.kids.length cd] 98) := ⟨_, rfl⟩
 have bV : Below w1.heap.size w1 V := by rw [hV]; exact (Below.refl _ _).alloc (Nat.le_refl _) _
 have gV : V.heap[w1.heap.size]? = some (.cells #[.bool n.leaf, .slice ak n.keys.length ck, .slice av n.vals.length cv, .slice ad n.kids.length cd] 98 (0, 0)) := by rw [hV]; exact heap_alloc_last w1 _
 have o2 := o1.to bV
 have KC := hide (pcheck9_any V _ _ _ n o2.rd hfit.out)
 have b2 : Below X.heap.size X V := b1.trans (bV.mono b1.size)
 have RES : Hid (∀ U, Below V.heap.size V U → U.heap[w.heap.size]? = some (.cells #[.bool false, nil9, nil9, nil9] 98 (0, 0))) := fun U b => ((b2.trans (b.mono b2.size)).block _ (by have := RX.out.2; omega)).trans RX.out.1
 have BB : Hid (∀ U, Below V.heap.size V U → Below w.heap.size w U) := fun U b => BX.out.trans ((b2.trans (b.mono b2.size)).mono BX.out.size)
 have BOX : Hid (∀ U, Below V.heap.size V U → U.heap[w1.heap.size]? = some (.cells #[.bool n.leaf, .slice ak n.keys.length ck, .slice av n.vals.length cv, .slice ad n.kids.length cd] 98 (0, 0))) := fun U b => (b.block _ (lt_of_block gV)).trans gV
 have OO : Hid (∀ U, Below V.heap.size V U → OwnN (w.heap.size + 1) U (.slice ak n.keys.length ck) (.slice av n.vals.length cv) (.slice ad n.kids.length cd) n) := fun U b => (o2.to b).mono (by have := RX.out.2; omega)
 have D1 := (cells4 (RES.out V (Below.refl _ _)))
 obtain ⟨⟨R0, R1, R2, R3⟩, Rf⟩ := D1
 have Rf0 := Rf 0
 have Rf1 := Rf 1
 have Rf2 := Rf 2
 have Rf3 := Rf 3
 obtain ⟨⟨N0, N1, N2, N3⟩, _⟩ := cells4 gV
 clear o1 o2 b1 b2 bV gV Rf RX BX
 by_cases he : err = 0
 ·subst he
  rw [if_pos rfl] at hd
  rw [hV] at N0 N1 N2 N3
  go_wp2_with fail
  rw [← hV]
  clear N0 N1 N2 N3 R0 R1 R2 R3 Rf0 Rf1 Rf2 Rf3
  replace hV := hide hV
  refine KC.out.mono ?_
  rintro e w2 ⟨rfl, b2⟩
  clear KC
  obtain ⟨⟨R0, R1, R2, R3⟩, Rf⟩ := cells4 (RES.out w2 b2)
  have Rf0 := Rf 0
  have Rf1 := Rf 1
  have Rf2 := Rf 2
  have Rf3 := Rf 3
  obtain ⟨⟨N0, N1, N2, N3⟩, _⟩ := cells4 (BOX.out w2 b2)
  have B2 := hide b2
  clear Rf b2
  by_cases hz : ncheck n = 0
  ·rw [if_pos hz] at hd
   rw [hz]
   replace hz := hide hz
   go_wp2
   refine retNT rfl rfl w.heap.size rfl _ _ (0, 0) (heap_set4 (u := w2) (RES.out w2 B2.out) _ _ _ _) _ Tryz.underlying98 rfl info_ndP (.int .i64 0) rfl ?_
   have hlt : w.heap.size < w.heap.size + 1 := by omega
   exact ⟨_, _, _, by rw [hd.out], by rw [hd.out]; exact (((((OO.out w2 B2.out).set hlt 0 _).set hlt 1 _).set hlt 2 _).set hlt 3 _).mono (by omega), below_set4n (BB.out w2 B2.out) (Nat.le_refl _) _ _ _ _, HJ.out⟩
  ·rw [if_neg hz] at hd
   generalize ncheck n = Z at *
   go_wp2
   refine retNT rfl rfl w.heap.size rfl _ _ (0, 0) (heap_set4 (u := w2) (RES.out w2 B2.out) _ _ _ _) _ Tryz.underlying98 rfl info_ndP (.int .i64 Z) rfl ?_
   exact ⟨nil9, nil9, nil9, by rw [hd.out]; rfl, by rw [hd.out]; exact OwnN.nil _ _ _, below_set4n (BB.out w2 B2.out) (Nat.le_refl _) _ _ _ _, Dj.nil⟩
 ·rw [if_neg he] at hd
  rw [hV] at R0 R1 R2 R3 Rf0 Rf1 Rf2 Rf3
  go_wp2
  rw [← hV]
  refine retNT rfl rfl w.heap.size rfl _ _ (0, 0) (heap_set4 (u := V) (RES.out V (Below.refl _ _)) _ _ _ _) _ Tryz.underlying98 rfl info_ndP (.int .i64 err) rfl ?_
  exact ⟨nil9, nil9, nil9, by rw [hd.out]; rfl, by rw [hd.out]; exact OwnN.nil _ _ _, below_set4n (BB.out V (Below.refl _ _)) (Nat.le_refl _) _ _ _ _, Dj.nil⟩
theorem pdec_any (w : World) (v : Value) (xs : List UInt8) (h : Rd w v xs) :
  Calls Tryz.prog 76 #[v] w fun e w' => ∃ kv vv dv, e = .returned (.tuple #[nv (ndec xs).1 kv vv dv, .int .i64 (ndec xs).2]) ∧ OwnN w.heap.size w' kv vv dv (ndec xs).1 ∧ Below w.heap.size w w' :=
 (pdecD_any w v xs h).mono fun e w' ⟨kv, vv, dv, a, b, c, _⟩ => ⟨kv, vv, dv, a, b, c⟩
end Go.Proofs.YtpiikmkajckccaaGreat

namespace Go.Proofs.YtpiikmkajckccaaGreat
open Go.RowKit
def nfind (n : Nd) (key : Str) : Int := if ncheck n = 0 then nfnd n.leaf key n.keys else 0
def nhas (n : Nd) (key : Str) : Bool := if ncheck n = 0 then nis key n.keys else false
theorem ret_ibi {a b : Int} {x y : Bool} {c d : Int} (h1 : a = b) (h2 : x = y) (h3 : c = d) : Ending.returned (.tuple #[.int .i64 a, .bool x, .int .i64 c]) = Ending.returned (.tuple #[.int .i64 b, .bool y, .int .i64 d]) := by rw [h1, h2, h3]
end Go.Proofs.YtpiikmkajckccaaGreat

namespace Go.Proofs.YtpiikmkajckccaaGreat
open Go.RowKit
theorem ret_si9 {a b c d : Value} (h1 : a = c) (h2 : b = d) : Ending.returned (.tuple #[a, b]) = .returned (.tuple #[c, d]) := by rw [h1, h2]
theorem keys_lt {n : Nd} (h : nkeys n n.keys.length) : ∀ (j i : Nat), i < j → j < n.keys.length → slt (nkey n i) (nkey n j) = true
 | 0, i, hi, _ => by omega
 | j + 1, i, hi, hj => by
  have hs := (h (j + 1) hj).2.2 (by omega)
  rw [Nat.add_sub_cancel] at hs
  by_cases e : i = j
  ·subst e; exact hs
  ·exact slt_trans (keys_lt h j i (by omega) (by omega)) hs
theorem nkey_at {n : Nd} {k : Nat} {x : Str} (h : n.keys[k]? = some x) : nkey n k = x := by unfold nkey; rw [h]; rfl
theorem nfnd_cut (leaf : Bool) (key : Str) : ∀ (l : List Str) (i : Nat), i ≤ l.length → (∀ j x, j < i → l[j]? = some x → slt x key = true) → (∀ j x, i ≤ j → l[j]? = some x → slt x key = false ∧ (x == key) = false) → nfnd leaf key l = i ∧ nis key l = false
 | [], i, hi, _, _ => by
  have : i = 0 := by simpa using hi
  subst this; exact ⟨rfl, rfl⟩
 | x :: r, 0, _, h1, h2 => by
  have hx := h2 0 x (Nat.le_refl _) rfl
  obtain ⟨a, b⟩ := nfnd_cut leaf key r 0 (Nat.zero_le _) (fun j y hj => by omega) (fun j y _ hy => h2 (j + 1) y (by omega) (by simpa using hy))
  refine ⟨?_, ?_⟩
  ·simp only [nfnd, hx.1, hx.2, a]; simp
  ·unfold nis at b ⊢; rw [List.any_cons, hx.2, b]; rfl
 | x :: r, i + 1, hi, h1, h2 => by
  have hx := h1 0 x (by omega) rfl
  obtain ⟨a, b⟩ := nfnd_cut leaf key r i (by simpa using hi) (fun j y hj hy => h1 (j + 1) y (by omega) (by simpa using hy)) (fun j y hj hy => h2 (j + 1) y (by omega) (by simpa using hy))
  have hne : (x == key) = false := by
   apply Bool.eq_false_iff.2
   intro e
   have : x = key := by simpa using e
   subst this; rw [slt_irr] at hx; cases hx
  refine ⟨?_, ?_⟩
  ·simp only [nfnd, hx, a]; simp; omega
  ·unfold nis at b ⊢; rw [List.any_cons, hne, b]; rfl
theorem nfnd_hit (leaf : Bool) (key : Str) : ∀ (l : List Str) (i : Nat), l[i]? = some key → (∀ j x, j < i → l[j]? = some x → slt x key = true) → (∀ j x, i < j → l[j]? = some x → slt key x = true) → nfnd leaf key l = (i : Int) + (if leaf then 0 else 1) ∧ nis key l = true
 | [], i, h, _, _ => by simp at h
 | x :: r, 0, h, h1, h2 => by
  have hx : x = key := by simpa using h
  subst hx
  obtain ⟨a, _⟩ := nfnd_cut leaf x r 0 (Nat.zero_le _) (fun j y hj => by omega) (fun j y _ hy => by
   have := h2 (j + 1) y (by omega) (by simpa using hy)
   refine ⟨slt_asym this, ?_⟩
   apply Bool.eq_false_iff.2
   intro e
   have e' : y = x := by simpa using e
   subst e'; rw [slt_irr] at this; cases this)
  refine ⟨?_, ?_⟩
  ·simp only [nfnd, slt_irr, a]; cases leaf <;> simp
  ·unfold nis; simp
 | x :: r, i + 1, h, h1, h2 => by
  have hx := h1 0 x (by omega) rfl
  obtain ⟨a, b⟩ := nfnd_hit leaf key r i (by simpa using h) (fun j y hj hy => h1 (j + 1) y (by omega) (by simpa using hy)) (fun j y hj hy => h2 (j + 1) y (by omega) (by simpa using hy))
  refine ⟨?_, ?_⟩
  ·simp only [nfnd, hx, a]; simp; omega
  ·unfold nis at b ⊢; simp at b ⊢; exact .inr b
set_option maxRecDepth 100000 in
theorem pnan_any (w : World) (x : Str) : Calls Tryz.prog 139 #[st x] w fun e w' => e = .returned (.bool false) ∧ w = w' := by
 have h : (x != x) = false := by simp
 have h' : (x == x) = true := by simp
 go_enter Tryz.func139, Tryz.ntmps139
 go_wp2
 go_ret
 exact ⟨by first | rfl | simp, rfl⟩
set_option maxRecDepth 100000 in
theorem psnan_any (w : World) (x : Str) : Calls Tryz.prog 119 #[st x] w fun e w' => e = .returned (.bool false) ∧ w = w' := by
 have h : (x != x) = false := by simp
 have h' : (x == x) = true := by simp
 go_enter Tryz.func119, Tryz.ntmps119
 go_wp2
 go_ret
 exact ⟨by first | rfl | simp, rfl⟩
set_option maxRecDepth 100000 in
theorem pless_any (w : World) (x y : Str) : Calls Tryz.prog 118 #[st x, st y] w fun e w' => e = .returned (.bool (slt x y)) ∧ w = w' := by
 have K := hide (pnan_any w x)
 go_enter Tryz.func118, Tryz.ntmps118
 go_wp2_with fail
 refine K.out.mono ?_
 rintro e w1 ⟨rfl, rfl⟩
 go_wp2
 go_ret
 exact ⟨rfl, rfl⟩
structure Low (n : Nd) (key : Str) (i : Nat) : Prop where
 le : i ≤ n.keys.length
 lo : ∀ t, t < i → slt (nkey n t) key = true
 hi : ∀ t, i ≤ t → t < n.keys.length → slt (nkey n t) key = false
set_option maxRecDepth 100000 in
set_option maxHeartbeats 2000000 in
theorem pbs_any (w : World) (v : Value) (N : Nd) (key : Str) (h : RdT w v N.keys) (hk : nkeys N N.keys.length) (hl : N.keys.length ≤ 1000) :
  Calls Tryz.prog 81 #[v, st key] w fun e w' => ∃ i : Nat, e = .returned (.tuple #[.int .i64 i, .bool (decide (i < N.keys.length) && (nkey N i == key))]) ∧ Low N key i ∧ w = w' := by
 obtain ⟨a, c, rfl⟩ := h.slice
 obtain ⟨keys, hkeys⟩ : ∃ l, l = N.keys := ⟨_, rfl⟩
 obtain ⟨L, hL⟩ : ∃ L, L = N.keys.length := ⟨_, rfl⟩
 have HK : Hid (∀ t s, t < s → s < L → slt (nkey N t) (nkey N s) = true) := fun t s h1 h2 => keys_lt hk s t h1 (by omega)
 have HH := hide h
 rw [← hL] at hl ⊢
 replace hL := hide hL
 have KL := hide (fun x => pless_any w x key)
 clear h hk hkeys
 go_enter Tryz.func81, Tryz.ntmps81
 go_wp2
 go_loopw [7, 8] (fun p q wr => ∃ i j : Nat, i ≤ j ∧ j ≤ L ∧ p = .int .i64 i ∧ q = .int .i64 j ∧ w = wr ∧ Hid ((∀ t, t < i → slt (nkey N t) key = true) ∧ ∀ t, j ≤ t → t < L → slt (nkey N t) key = false)) (fun p q _ => (intOf q).toNat - (intOf p).toNat)
 case atStart => exact ⟨0, L, Nat.zero_le _, Nat.le_refl _, rfl, rfl, rfl, hide ⟨fun t h => by omega, fun t h1 h2 => by omega⟩⟩
 case round =>
  obtain ⟨i, j, hij, hjL, rfl, rfl, rfl, hI⟩ := hrel
  by_cases hlt : i < j
  ·have hq : (i : Int) < (j : Int) := by omega
   obtain ⟨s, hs⟩ : ∃ s : Nat, (i : Int) + (j : Int) = (s : Int) := ⟨i + j, by omega⟩
   have hs1 : IntKind.i64.wrap (s : Int) = (s : Int) := IntWalk.i64_in _ (by omega)
   obtain ⟨m, hm⟩ : ∃ m : Nat, (s : Int) / 2 = (m : Int) := ⟨s / 2, by omega⟩
   have hm2 : (m : Int) < (L : Int) := by omega
   have hmi : Hid (i ≤ m ∧ m < j) := by show _ ∧ _; omega
   obtain ⟨x, hx⟩ := some_el N.keys (k := m) (by rw [← hL.out]; omega)
   have hnx := hide (nkey_at hx)
   obtain ⟨b, off, rfl, hc1⟩ := HH.out.strAt hx
   replace hx := hide hx
   go_wp2_with fail
   refine (KL.out x).mono ?_
   rintro e w1 ⟨rfl, rfl⟩
   cases hlx : slt x key with
   | true =>
    have hI' : Hid ((∀ t, t < m + 1 → slt (nkey N t) key = true) ∧ ∀ t, j ≤ t → t < L → slt (nkey N t) key = false) := ⟨fun t ht => by
     by_cases e : t = m
     ·subst e; rw [hnx.out]; exact hlx
     ·have h1 := HK.out t m (by omega) (by omega)
      rw [hnx.out] at h1
      exact slt_trans h1 hlx, hI.out.2⟩
    replace hlx := hide hlx
    go_wp2
    go_roundw
    case rel => exact ⟨m + 1, j, by have := hmi.out; omega, hjL, by go_num, rfl, trivial, hI'⟩
    case measure => have := hmi.out; simp [intOf]; omega
   | false =>
    have hI' : Hid ((∀ t, t < i → slt (nkey N t) key = true) ∧ ∀ t, m ≤ t → t < L → slt (nkey N t) key = false) := ⟨hI.out.1, fun t h1 h2 => by
     by_cases e : t = m
     ·subst e; rw [hnx.out]; exact hlx
     ·have h3 := HK.out m t (by omega) h2
      rw [hnx.out] at h3
      cases h4 : slt (nkey N t) key
      ·rfl
      ·rw [slt_trans h3 h4] at hlx; cases hlx⟩
    replace hlx := hide hlx
    go_wp2
    go_roundw
    case rel => exact ⟨i, m, hmi.out.1, by have := hmi.out; omega, rfl, rfl, trivial, hI'⟩
    case measure => have := hmi.out; simp [intOf]; omega
  ·have hq : ¬ (i : Int) < (j : Int) := by omega
   obtain rfl : i = j := by omega
   have LO : Hid (Low N key i) := ⟨by rw [← hL.out]; omega, hI.out.1, fun t h1 h2 => hI.out.2 t h1 (by rw [hL.out]; exact h2)⟩
   clear hI
   by_cases hiL : i < L
   ·have hq2 : (i : Int) < (L : Int) := by omega
    have hd : decide (i < L) = true := decide_eq_true hiL
    obtain ⟨x, hx⟩ := some_el N.keys (k := i) (by rw [← hL.out]; omega)
    have hnx := hide (nkey_at hx)
    obtain ⟨b, off, rfl, hc1⟩ := HH.out.strAt hx
    replace hx := hide hx
    cases he : (x == key) with
    | true =>
     have hr : Hid ((decide (i < L) && nkey N i == key) = true) := by show _ = _; rw [hd, hnx.out, he]; rfl
     clear hd
     go_wp2
     go_ret2
     exact ⟨i, ret_si9 rfl (congrArg Value.bool hr.out.symm), LO.out, rfl⟩
    | false =>
     have hr : Hid ((decide (i < L) && nkey N i == key) = false) := by show _ = _; rw [hd, hnx.out, he]; rfl
     have KS := hide (psnan_any w x)
     clear hd
     go_wp2_with fail
     refine KS.out.mono ?_
     rintro e w1 ⟨rfl, rfl⟩
     go_wp2
     go_ret2
     exact ⟨i, ret_si9 rfl (congrArg Value.bool hr.out.symm), LO.out, rfl⟩
   ·have hq2 : ¬ (i : Int) < (L : Int) := by omega
    have hr : Hid ((decide (i < L) && nkey N i == key) = false) := by show _ = _; rw [decide_eq_false hiL]; rfl
    go_wp2
    go_ret2
    exact ⟨i, ret_si9 rfl (congrArg Value.bool hr.out.symm), LO.out, rfl⟩
theorem low_find {n : Nd} {key : Str} {i : Nat} (h : Low n key i) (hk : nkeys n n.keys.length) : nis key n.keys = (decide (i < n.keys.length) && (nkey n i == key)) ∧ nfnd n.leaf key n.keys = if (decide (i < n.keys.length) && (nkey n i == key)) = true ∧ n.leaf = false then (i : Int) + 1 else (i : Int) := by
 cases hb : (decide (i < n.keys.length) && (nkey n i == key)) with
 | true =>
  rw [Bool.and_eq_true, decide_eq_true_eq] at hb
  have hkey : nkey n i = key := by simpa using hb.2
  obtain ⟨x, hx⟩ := some_el n.keys hb.1
  have hx' := nkey_at hx
  rw [hkey] at hx'
  subst hx'
  obtain ⟨p, q⟩ := nfnd_hit n.leaf key n.keys i hx (fun j y hj hy => by have := h.lo j hj; rw [nkey_at hy] at this; exact this) (fun j y hj hy => by
   have := keys_lt hk j i hj ((List.getElem?_eq_some_iff.1 hy).1)
   rw [hkey, nkey_at hy] at this
   exact this)
  rw [p, q]
  refine ⟨rfl, ?_⟩
  cases n.leaf <;> simp
 | false =>
  obtain ⟨p, q⟩ := nfnd_cut n.leaf key n.keys i h.le (fun j y hj hy => by have := h.lo j hj; rw [nkey_at hy] at this; exact this) (fun j y hj hy => by
   have hjl := (List.getElem?_eq_some_iff.1 hy).1
   have h1 := h.hi j hj hjl
   rw [nkey_at hy] at h1
   refine ⟨h1, ?_⟩
   apply Bool.eq_false_iff.2
   intro e
   have e' : y = key := by simpa using e
   by_cases hji : j = i
   ·subst hji
    rw [nkey_at hy, e', decide_eq_true hjl] at hb
    simp at hb
   ·have h2 := keys_lt hk j i (by omega) hjl
    rw [nkey_at hy, e'] at h2
    have h3 := h.hi i (Nat.le_refl _) (by omega)
    rw [h2] at h3; cases h3)
  rw [p, q]
  simp
set_option maxRecDepth 100000 in
set_option maxHeartbeats 2000000 in
theorem pfind9_any (w : World) (kv vv dv : Value) (n : Nd) (key : Str) (h : RdN w kv vv dv n) (hf : nfit n) :
  Calls Tryz.prog 60 #[nv n kv vv dv, st key] w fun e w' => e = .returned (.tuple #[.int .i64 (nfind n key), .bool (nhas n key), .int .i64 (ncheck n)]) ∧ Below w.heap.size w w' := by
 obtain ⟨W, hW, D, bW, sW⟩ := boxedN w #[.bool n.leaf, kv, vv, dv] 98
 replace h := h.to bW
 have KC := hide (pcheck9_any W kv vv dv n h hf)
 have HN := hide (fun w1 (b : Below W.heap.size W w1) => h.to b)
 obtain ⟨D4, _⟩ := cells4 D
 have HD : Hid (∀ w1, Below W.heap.size W w1 → w1.cell? ⟨w.heap.size, 0, none⟩ = some (.bool n.leaf) ∧ w1.cell? ⟨w.heap.size, 1, none⟩ = some kv ∧ w1.cell? ⟨w.heap.size, 2, none⟩ = some vv ∧ w1.cell? ⟨w.heap.size, 3, none⟩ = some dv) := fun w1 b =>
  ⟨(b.cell (p := ⟨w.heap.size, 0, none⟩) (cell_lt D4.1)).trans D4.1, (b.cell (p := ⟨w.heap.size, 1, none⟩) (cell_lt D4.2.1)).trans D4.2.1, (b.cell (p := ⟨w.heap.size, 2, none⟩) (cell_lt D4.2.2.1)).trans D4.2.2.1, (b.cell (p := ⟨w.heap.size, 3, none⟩) (cell_lt D4.2.2.2)).trans D4.2.2.2⟩
 have HE : Hid (∀ w1, Below W.heap.size W w1 → Below w.heap.size w w1) := fun w1 b => bW.trans (b.mono bW.size)
 obtain ⟨D0, D1, D2, D3⟩ := D4
 obtain ⟨a, c, a', c', a'', c'', rfl, rfl, rfl⟩ := h.slices
 dsimp only [nv] at *
 clear h bW D hf
 rw [hW] at D0 D1 D2 D3
 generalize hlK : n.keys.length = lK at *
 generalize hlV : n.vals.length = lV at *
 generalize hlD : n.kids.length = lD at *
 generalize hleaf : n.leaf = leaf at *
 replace hlK := hide hlK
 replace hlV := hide hlV
 replace hlD := hide hlD
 replace hleaf := hide hleaf
 go_enter Tryz.func60, Tryz.ntmps60
 go_wp2_with fail
 rw [← hW]
 replace hW := hide hW
 clear D0 D1 D2 D3
 refine KC.out.mono ?_
 rintro e w1 ⟨rfl, b1⟩
 clear KC
 by_cases hz : ncheck n = 0
 ·have hok := (ncheck_ok n).1 hz
  have hfind : Hid (nfind n key = nfnd n.leaf key n.keys ∧ nhas n key = nis key n.keys) := by
   show _ ∧ _
   unfold nfind nhas
   rw [if_pos hz, if_pos hz]
   exact ⟨rfl, rfl⟩
  have few : n.keys.length ≤ 1000 := by
   have h1 := nsz_ge n n.keys.length
   have h2 := hok.2.2.2.2
   unfold nsize at h2
   split at h2 <;> omega
  have KB := hide (pbs_any w1 (.slice a lK c) n key (HN.out w1 b1).keys hok.1 few)
  have LF := hide (fun (i : Nat) (hl : Low n key i) => low_find hl hok.1)
  obtain ⟨D0, D1, D2, D3⟩ := HD.out w1 b1
  have hzz := hide hz
  rw [hz]
  have B1 := hide (HE.out w1 b1)
  rw [hlK.out] at few
  clear hz hok b1
  go_wp2_with fail
  refine KB.out.mono ?_
  rintro e w2 ⟨i, rfl, lo, rfl⟩
  clear KB
  obtain ⟨f1, f2⟩ := LF.out i lo
  have hib : i < 9223372036854775807 := by have := lo.le; rw [hlK.out] at this; omega
  rw [hlK.out] at f1 f2 ⊢
  rw [hleaf.out] at f2
  generalize hbb : (decide (i < lK) && nkey n i == key) = BB at *
  replace hbb := hide hbb
  have F1 : Hid (nhas n key = BB) := by show _ = _; rw [hfind.out.2]; exact f1
  have F2 : Hid (nfind n key = if BB = true ∧ leaf = false then (i : Int) + 1 else (i : Int)) := by show _ = _; rw [hfind.out.1, hleaf.out]; exact f2
  clear f1 f2 lo hfind LF
  cases BB <;> cases leaf
  all_goals
   have g := F2.out
   simp at g
   replace g := hide g
   go_wp2
   go_ret3
   exact ⟨ret_ibi g.out.symm F1.out.symm hzz.out.symm, B1.out⟩
 ·have hr : Hid (nfind n key = 0 ∧ nhas n key = false) := by
   show _ ∧ _
   unfold nfind nhas
   rw [if_neg hz, if_neg hz]
   exact ⟨rfl, rfl⟩
  obtain ⟨Z, hZ⟩ : ∃ Z, Z = ncheck n := ⟨_, rfl⟩
  rw [← hZ] at hz ⊢
  replace hZ := hide hZ
  have bb := hide (HE.out _ b1)
  clear b1
  go_wp2
  go_ret3
  exact ⟨ret_ibi hr.out.1.symm hr.out.2.symm hZ.out, bb.out⟩
end Go.Proofs.YtpiikmkajckccaaGreat

namespace Go.Proofs.YtpiikmkajckccaaGreat
open Go.RowKit
def wcells : List Wrt → List Value → List Value
 | f :: fs, sv :: svs => .int .i64 f.1 :: sv :: wcells fs svs
 | _, _ => []
theorem wcells_snoc : ∀ (fs : List Wrt) (svs : List Value) (f : Wrt) (sv : Value), svs.length = fs.length → wcells (fs ++ [f]) (svs ++ [sv]) = wcells fs svs ++ [.int .i64 f.1, sv]
 | [], svs, f, sv, h => by
  have : svs = [] := List.eq_nil_of_length_eq_zero (by simpa using h)
  subst this; rfl
 | g :: fs, [], f, sv, h => by simp at h
 | g :: fs, s :: svs, f, sv, h => by
  have := wcells_snoc fs svs f sv (by simpa using h)
  simp only [List.cons_append, wcells, this]
theorem wcells_at : ∀ (fs : List Wrt) (svs : List Value) (i : Nat), svs.length = fs.length → i < fs.length →
  (wcells fs svs)[i * 2]? = some (.int .i64 (fs.getD i (0, [])).1) ∧ (wcells fs svs)[i * 2 + 1]? = some (svs.getD i undef)
 | [], _, i, _, hi => by simp at hi
 | f :: fs, [], i, h, hi => by simp at h
 | f :: fs, sv :: svs, 0, h, hi => by simp [wcells]
 | f :: fs, sv :: svs, i + 1, h, hi => by
  have := wcells_at fs svs i (by simpa using h) (by simpa using hi)
  rw [show (i + 1) * 2 = i * 2 + 1 + 1 from by omega, show i * 2 + 1 + 1 + 1 = (i * 2 + 1) + 1 + 1 from rfl]
  simpa [wcells] using this
def OwnW (T B : Nat) (w : World) (v : Value) (ws : List Wrt) : Prop :=
 ∃ svs : List Value, svs.length = ws.length ∧ w.ownsRow B T 2 v ws.length (wcells ws svs) ∧ ∀ i, i < ws.length → OwnB 0 w (svs.getD i undef) (ws.getD i (0, [])).2
theorem OwnW.nil (T B : Nat) (w : World) : OwnW T B w (.slice none 0 0) [] := ⟨[], rfl, World.ownsRow_nil _ _ _ _, fun i hi => by simp at hi⟩
theorem OwnW.keepT {T B : Nat} {w w' : World} {v : Value} {ws : List Wrt} (h : OwnW T B w v ws) (k1 : KeepT 5 w w') (k2 : KeepT T w w') : OwnW T B w' v ws := by
 obtain ⟨vs, h1, h2, h3⟩ := h
 exact ⟨vs, h1, rows_keepT h2 k2, fun i hi => rows_keepT (h3 i hi) k1⟩
theorem OwnW.snoc {T B : Nat} {w w' : World} {v v' : Value} {ws : List Wrt} {f : Wrt} {sv : Value} (hT : T ≠ 5) {svs : List Value} (h1 : svs.length = ws.length) (h2 : w.ownsRow B T 2 v ws.length (wcells ws svs))
  (h3 : ∀ i, i < ws.length → OwnB 0 w (svs.getD i undef) (ws.getD i (0, [])).2) (hs : OwnB 0 w sv f.2)
  (hg : w.grownBy w' v.ownBlock) (hw : w'.ownsRow B T 2 v' (ws.length + 1) (wcells ws svs ++ [.int .i64 f.1, sv])) : OwnW T B w' v' (ws ++ [f]) := by
 refine ⟨svs ++ [sv], by simp [h1], ?_, ?_⟩
 ·rw [wcells_snoc ws svs f sv h1, List.length_append]
  exact hw
 ·intro i hi
  simp only [List.length_append, List.length_cons, List.length_nil] at hi
  by_cases hlt : i < ws.length
  ·have e1 : (svs ++ [sv]).getD i undef = svs.getD i undef := by simp [List.getD_eq_getElem?_getD, List.getElem?_append_left (show i < svs.length by omega)]
   have e2 : (ws ++ [f]).getD i (0, []) = ws.getD i (0, []) := by simp [List.getD_eq_getElem?_getD, List.getElem?_append_left hlt]
   rw [e1, e2]
   exact rows_keepT (h3 i hlt) (KeepT.grown h2 hg (Ne.symm hT))
  ·obtain rfl : i = ws.length := by omega
   have e1 : (svs ++ [sv]).getD ws.length undef = sv := by rw [← h1]; simp [List.getD_eq_getElem?_getD]
   have e2 : (ws ++ [f]).getD ws.length (0, []) = f := by simp [List.getD_eq_getElem?_getD]
   rw [e1, e2]
   exact rows_keepT hs (KeepT.grown h2 hg (Ne.symm hT))
theorem OwnW.rd {T B : Nat} {w : World} {v : Value} {ws : List Wrt} (h : OwnW T B w v ws) : RdC w v ws := by
 obtain ⟨svs, h1, h2, h3⟩ := h
 rcases h2.2 with ⟨rfl, h0⟩ | ⟨g, cap, cur, rfl, hgb, hg, hn, hm, hs, ht⟩
 ·have : ws = [] := List.eq_nil_of_length_eq_zero h0
  subst this
  exact RdS.nil _ _
 ·refine ⟨_, cap, rfl, hn, hm, (fun h => by cases h), .inr ⟨g, 0, rfl, fun i x hx => ?_⟩⟩
  have hi : i < ws.length := (List.getElem?_eq_some_iff.1 hx).1
  obtain ⟨c1, c2⟩ := wcells_at ws svs i h1 hi
  have hr := (h3 i hi).rd
  rw [getD_some hx] at c1 hr
  refine ⟨[.int .i64 x.1, svs.getD i undef], ⟨[_], [_], rfl, rfl, _, rfl, hr⟩, fun j u hj => ?_⟩
  match j, hj with
  | 0, hj =>
   simp only [List.getElem?_cons_zero, Option.some.injEq] at hj
   subst hj
   show w.cell? ⟨g, 0 + i * 2 + 0, none⟩ = _
   rw [Nat.zero_add, Nat.add_zero, h2.cellAt (i * 2) (by omega)]; exact c1
  | 1, hj =>
   simp only [List.getElem?_cons_succ, List.getElem?_cons_zero, Option.some.injEq] at hj
   subst hj
   show w.cell? ⟨g, 0 + i * 2 + 1, none⟩ = _
   rw [Nat.zero_add, h2.cellAt (i * 2 + 1) (by omega)]; exact c2
  | j + 2, hj => simp at hj
end Go.Proofs.YtpiikmkajckccaaGreat

namespace Go.Proofs.YtpiikmkajckccaaGreat
open Go.RowKit
def OwnX (T B : Nat) (w : World) (v : Value) (ws : List Wrt) : Prop :=
 ∃ svs : List Value, svs.length = ws.length ∧ w.ownsRow B T 2 v ws.length (wcells ws svs) ∧ ∀ i, i < ws.length → OwnB B w (svs.getD i undef) (ws.getD i (0, [])).2
theorem OwnX.nil (T B : Nat) (w : World) : OwnX T B w (.slice none 0 0) [] := ⟨[], rfl, World.ownsRow_nil _ _ _ _, fun i hi => by simp at hi⟩
theorem OwnX.keepT {T B : Nat} {w w' : World} {v : Value} {ws : List Wrt} (h : OwnX T B w v ws) (k1 : KeepT 5 w w') (k2 : KeepT T w w') : OwnX T B w' v ws := by
 obtain ⟨vs, h1, h2, h3⟩ := h
 exact ⟨vs, h1, rows_keepT h2 k2, fun i hi => rows_keepT (h3 i hi) k1⟩
theorem OwnX.snoc {T B : Nat} {w w' : World} {v v' : Value} {ws : List Wrt} {f : Wrt} {sv : Value} (hT : T ≠ 5) {svs : List Value} (h1 : svs.length = ws.length) (h2 : w.ownsRow B T 2 v ws.length (wcells ws svs))
  (h3 : ∀ i, i < ws.length → OwnB B w (svs.getD i undef) (ws.getD i (0, [])).2) (hs : OwnB B w sv f.2)
  (hg : w.grownBy w' v.ownBlock) (hw : w'.ownsRow B T 2 v' (ws.length + 1) (wcells ws svs ++ [.int .i64 f.1, sv])) : OwnX T B w' v' (ws ++ [f]) := by
 refine ⟨svs ++ [sv], by simp [h1], ?_, ?_⟩
 ·rw [wcells_snoc ws svs f sv h1, List.length_append]
  exact hw
 ·intro i hi
  simp only [List.length_append, List.length_cons, List.length_nil] at hi
  by_cases hlt : i < ws.length
  ·have e1 : (svs ++ [sv]).getD i undef = svs.getD i undef := by simp [List.getD_eq_getElem?_getD, List.getElem?_append_left (show i < svs.length by omega)]
   have e2 : (ws ++ [f]).getD i (0, []) = ws.getD i (0, []) := by simp [List.getD_eq_getElem?_getD, List.getElem?_append_left hlt]
   rw [e1, e2]
   exact rows_keepT (h3 i hlt) (KeepT.grown h2 hg (Ne.symm hT))
  ·obtain rfl : i = ws.length := by omega
   have e1 : (svs ++ [sv]).getD ws.length undef = sv := by rw [← h1]; simp [List.getD_eq_getElem?_getD]
   have e2 : (ws ++ [f]).getD ws.length (0, []) = f := by simp [List.getD_eq_getElem?_getD]
   rw [e1, e2]
   exact rows_keepT hs (KeepT.grown h2 hg (Ne.symm hT))
theorem OwnX.rd {T B : Nat} {w : World} {v : Value} {ws : List Wrt} (h : OwnX T B w v ws) : RdC w v ws := by
 obtain ⟨svs, h1, h2, h3⟩ := h
 rcases h2.2 with ⟨rfl, h0⟩ | ⟨g, cap, cur, rfl, hgb, hg, hn, hm, hs, ht⟩
 ·have : ws = [] := List.eq_nil_of_length_eq_zero h0
  subst this
  exact RdS.nil _ _
 ·refine ⟨_, cap, rfl, hn, hm, (fun h => by cases h), .inr ⟨g, 0, rfl, fun i x hx => ?_⟩⟩
  have hi : i < ws.length := (List.getElem?_eq_some_iff.1 hx).1
  obtain ⟨c1, c2⟩ := wcells_at ws svs i h1 hi
  have hr := (h3 i hi).rd
  rw [getD_some hx] at c1 hr
  refine ⟨[.int .i64 x.1, svs.getD i undef], ⟨[_], [_], rfl, rfl, _, rfl, hr⟩, fun j u hj => ?_⟩
  match j, hj with
  | 0, hj =>
   simp only [List.getElem?_cons_zero, Option.some.injEq] at hj
   subst hj
   show w.cell? ⟨g, 0 + i * 2 + 0, none⟩ = _
   rw [Nat.zero_add, Nat.add_zero, h2.cellAt (i * 2) (by omega)]; exact c1
  | 1, hj =>
   simp only [List.getElem?_cons_succ, List.getElem?_cons_zero, Option.some.injEq] at hj
   subst hj
   show w.cell? ⟨g, 0 + i * 2 + 1, none⟩ = _
   rw [Nat.zero_add, h2.cellAt (i * 2 + 1) (by omega)]; exact c2
  | j + 2, hj => simp at hj
theorem OwnX.base {T B C : Nat} {w : World} {v : Value} {ws : List Wrt} (h : OwnX T C w v ws) (hBC : B ≤ C) : OwnX T B w v ws := by
 obtain ⟨svs, q1, q2, q3⟩ := h
 exact ⟨svs, q1, rows_base q2 (fun b hb => Nat.le_trans hBC (World.ownsRow.lt q2 b hb).1), fun i hi => rows_base (q3 i hi) (fun b hb => Nat.le_trans hBC (World.ownsRow.lt (q3 i hi) b hb).1)⟩
end Go.Proofs.YtpiikmkajckccaaGreat

namespace Go.Proofs.YtpiikmkajckccaaGreat
open Go.RowKit
set_option maxRecDepth 100000 in
theorem bclone_at (w : World) (b o n c : Nat) (xs : List UInt8) (h : Rd w (.slice (some ⟨b, o, none⟩) n c) xs) (hm : xs.length ≤ 140737488351232) :
  Calls Tryz.prog 30 #[.slice (some ⟨b, o, none⟩) n c] w fun e w' => ∃ v', e = .returned v' ∧ OwnB w.heap.size w' v' xs ∧ Below w.heap.size w w' := by
 obtain ⟨X, hX⟩ : ∃ u, u = w.alloc (.cells #[] 5) := ⟨_, rfl⟩
 have oX : OwnB w.heap.size X (.slice (some ⟨w.heap.size, 0, none⟩) 0 0) [] := by rw [hX]; exact own_lit w [] (by decide)
 have bX : Below w.heap.size w X := by rw [hX]; exact (Below.refl _ _).alloc (Nat.le_refl _) _
 have rX := h.to bX
 have hl : ([] : List UInt8).length + xs.length ≤ 140737488355328 := by simp; omega
 have hsz := bX.size
 have hnil : (binOp .eql 42 (.slice (some ⟨b, o, none⟩) n c) (.slice none 0 0)).run Tryz.prog w = .ok (.bool false) w := Lib.run_eql_slice_nil w 42 5 _ n c 0 0 Tryz.underlying42
 clear h
 go_enter Tryz.func30, Tryz.ntmps30
 go_wp2_with (at_builtin; rw [← hX]; refine wpList_append_octs rfl _ _ rfl w.heap.size _ _ _ _ rfl rfl oX rX hl hsz ?_; intro v6 w6 o6 b6 _)
 go_ret
 exact ⟨_, rfl, by simpa using o6, bX.trans b6⟩
end Go.Proofs.YtpiikmkajckccaaGreat

namespace Go.Proofs.YtpiikmkajckccaaGreat
open Go.ChangeShapes Go.WideShapes Go.ChangeAt Go.RowKit
theorem own : ownKnob Tryz.prog.godebug = none := by kernel_rfl
theorem laidOut : laidOutB Tryz.prog = true := by kernel_rfl
theorem bytes8 : Tryz.prog.bytesOf 5 = 1 := by kernel_rfl
def octs (zs : List Int) : List UInt8 := zs.map fun z => UInt8.ofNat z.toNat
theorem bt_octs {zs : List Int} (hw : ∀ n ∈ zs, (Lit.int .u8 n).wf = true) {len i : Nat} (h : i < len) (hl : len ≤ zs.length) : bt (octs (zs.take len)) i = zs.getD i 0 := by
 have hi : i < zs.length := by omega
 have hb : 0 ≤ zs[i] ∧ zs[i] ≤ 255 := by
  have := hw zs[i] (List.getElem_mem hi)
  simpa [Lit.wf, IntKind.min, IntKind.max, IntKind.signed, IntKind.bits] using this
 have e : (octs (zs.take len)).getD i 0 = UInt8.ofNat zs[i].toNat := by
  simp [octs, h, hi]
 unfold bt
 rw [e, UInt8.toNat_ofNat_of_lt' (by show _ < 256; omega)]
 simp [hi]; omega
theorem open_octs {H : Type} {enc : TypeId × Value → H} {W : World} {a : Option Addr} {len cap : Nat} {d : DataW H} {p : List MemPlace}
  (h : DataW.Trod enc Tryz.prog W 0 (fun _ => true) true 42 (.slice a len cap) d p) :
  ∃ xs : List UInt8, xs.length = len ∧ Rd W (.slice a len cap) xs ∧ (len = 0 ∨ ∃ el sp, d = .slice el sp ∧ el.length = len) := by
 obtain ⟨fuel, hf⟩ := h
 rcases open_ints Tryz.underlying42 Tryz.underlying5 (by kernel_rfl) hf with ⟨hcs, _⟩ | ⟨x, l, c, zs, hcs, _, hl, hm, hz, hx, hcell, hwz⟩
 ·simp [Value.cells] at hcs
  obtain ⟨rfl, rfl, rfl⟩ := hcs
  exact ⟨[], rfl, ⟨none, 0, rfl, Nat.le_refl _, Nat.zero_le _, fun _ => rfl, .inl rfl⟩, .inl rfl⟩
 ·simp [Value.cells] at hcs
  obtain ⟨rfl, rfl, rfl⟩ := hcs
  simp only [if_true] at hz
  simp only [Prod.mk.injEq] at hx
  have el : (octs (zs.take len)).length = len := by simp [octs]; omega
  refine ⟨octs (zs.take len), el, ⟨some x, cap, by rw [el], by rw [el]; exact hl, hm, (fun h => by cases h), ?_⟩, .inr ⟨_, _, hx.1, by simp [lits]; omega⟩⟩
  by_cases h0 : len = 0
  ·left; exact List.eq_nil_of_length_eq_zero (by rw [el]; exact h0)
  ·right
   obtain ⟨b, off, spot⟩ := x
   have hc := hcell 0 (by omega)
   have hspot : spot = none := by simpa [Addr.add] using World.cell?_spot hc
   subst hspot
   refine ⟨b, off, rfl, fun i hi => ?_⟩
   rw [el] at hi
   have := hcell i (by omega)
   rw [bt_octs hwz hi (by omega), ← this]
   by_cases hi0 : i = 0
   ·subst hi0; simp [Addr.add]
   ·simp [Addr.add, hi0]
theorem bulk_pos {H : Type} (d : DataW H) : 1 ≤ Rows.uptoBulk d := by
 cases d with
 | lit l => cases l <;> simp [Rows.uptoBulk]
 | nil => simp [Rows.uptoBulk]
 | ptr d => simp [Rows.uptoBulk]
 | slice el sp => simp [Rows.uptoBulk]
 | agg ps => simp [Rows.uptoBulk]
 | iface t d => simp [Rows.uptoBulk]
 | map es => simp [Rows.uptoBulk]
 | held h => simp [Rows.uptoBulk]
theorem bulk_len {H : Type} (l : List (DataW H)) : l.length ≤ Rows.uptoBulkAll l := by
 induction l with
 | nil => simp [Rows.uptoBulkAll]
 | cons x r ih => have := bulk_pos x; simp only [Rows.uptoBulkAll, List.length_cons]; omega
end Go.Proofs.YtpiikmkajckccaaGreat

namespace Go.Proofs.YtpiikmkajckccaaGreat
open Go.ChangeShapes Go.WideShapes Go.ChangeAt Go.RowKit
structure Opens {α : Type} (s : Shp α) (t : TypeId) (fits : α → Prop) (bulk : α → Nat) : Prop where
 cells : Tryz.prog.cellsOf t = s.n
 opened : ∀ {H : Type} {enc : TypeId × Value → H} {W : World} {fuel : Nat} {cs : List Value} {x : DataW H × List MemPlace}, DataW.trod enc Tryz.prog W 0 (fun _ => true) true fuel t cs = some x →
  ∃ a, s.rd W cs a ∧ ((∀ n ∈ x.1.weights Tryz.prog t, n ≤ reachBytes) → fits a) ∧ bulk a ≤ Rows.uptoBulk x.1
theorem opens_intw {k : IntKind} {t : TypeId} (ht : Tryz.prog.underlying t = some (.int k)) (hc : Tryz.prog.cellsOf t = 1) : Opens (Shp.int k) t (fun z => (Lit.int k z).wf = true) (fun _ => 1) := by
 refine ⟨hc, fun {H enc W fuel cs x} h => ?_⟩
 obtain ⟨z, hz, _, hw⟩ := DataW.trod_int ht h
 exact ⟨z, hz, fun _ => hw, bulk_pos _⟩
theorem opens_octs : Opens Shp.octs 42 (fun x => x.length ≤ 140737488351232) (fun x => x.length) := by
 refine ⟨by kernel_rfl, fun {H enc W fuel cs x} h => ?_⟩
 obtain ⟨d, p⟩ := x
 obtain ⟨a, len, cap, rfl⟩ : ∃ a len cap, cs = [.slice a len cap] := by
  rcases open_ints Tryz.underlying42 Tryz.underlying5 (by kernel_rfl) h with ⟨hcs, _⟩ | ⟨x, l, c, zs, hcs, _⟩
  ·exact ⟨_, _, _, hcs⟩
  ·exact ⟨_, _, _, hcs⟩
 obtain ⟨xs, e, r, s⟩ := open_octs (d := d) (p := p) ⟨fuel, h⟩
 refine ⟨xs, ⟨_, rfl, r⟩, fun hw => ?_, ?_⟩
 ·rcases s with s | ⟨el, sp, rfl, hel⟩
  ·omega
  ·have := hw ((el.length + sp.length) * Tryz.prog.bytesOf 5) (by simp [DataW.weights, Tryz.underlying42])
   rw [bytes8] at this
   simp only [reachBytes] at this
   omega
 ·rcases s with s | ⟨el, sp, rfl, hel⟩
  ·omega
  ·have := bulk_len el
   simp only [Rows.uptoBulk]
   omega
theorem choose_list {α : Type} {p : Nat → α → Prop} : ∀ n : Nat, (∀ i, i < n → ∃ x, p i x) → ∃ xs : List α, xs.length = n ∧ ∀ i x, xs[i]? = some x → p i x
 | 0, _ => ⟨[], rfl, fun i x h => by simp at h⟩
 | n + 1, h => by
  obtain ⟨xs, h1, h2⟩ := choose_list n fun i hi => h i (by omega)
  obtain ⟨x, hx⟩ := h n (by omega)
  refine ⟨xs ++ [x], by simp [h1], fun i y hy => ?_⟩
  by_cases e : i < n
  ·rw [List.getElem?_append_left (by omega)] at hy
   exact h2 i y hy
  ·rw [List.getElem?_append_right (by omega)] at hy
   have hi : i - xs.length = 0 := by
    have := (List.getElem?_eq_some_iff.1 hy).1
    simp at this; omega
   rw [hi] at hy
   simp at hy; subst hy
   obtain rfl : i = n := by omega
   exact hx
theorem weightsAll_mem {H : Type} {e : TypeId} {d : DataW H} {l : List (DataW H)} (hd : d ∈ l) {n : Nat} (hn : n ∈ d.weights Tryz.prog e) : n ∈ DataW.weightsAll Tryz.prog e l := by
 induction l with
 | nil => cases hd
 | cons x r ih =>
  simp only [DataW.weightsAll, List.mem_append]
  rcases List.mem_cons.1 hd with h | h
  ·subst h; exact .inl hn
  ·exact .inr (ih h)
theorem bulk_sum {H α : Type} (bulk : α → Nat) : ∀ (xs : List α) (D : Nat → DataW H), (∀ i x, xs[i]? = some x → bulk x ≤ Rows.uptoBulk (D i)) → (xs.map bulk).sum ≤ Rows.uptoBulkAll ((List.range xs.length).map D)
 | [], _, _ => by simp
 | x :: xs, D, h => by
  simp only [List.length_cons, List.range_succ_eq_map, List.map_cons, List.map_map, List.sum_cons, Rows.uptoBulkAll]
  have h0 := h 0 x rfl
  have := bulk_sum bulk xs (D ∘ Nat.succ) fun i y hy => h (i + 1) y (by simpa using hy)
  omega
theorem Opens.list {α : Type} {s : Shp α} {e t T bts : Nat} {fits : α → Prop} {bulk : α → Nat} (o : Opens s e fits bulk) (ht : Tryz.prog.underlying t = some (.slice e)) (hc : Tryz.prog.cellsOf t = 1) (hb : Tryz.prog.bytesOf e = bts) (hn : 0 < s.n) :
  Opens (Shp.list T s) t (fun xs => xs.length * bts ≤ 140737488351232 ∧ ∀ x ∈ xs, fits x) (fun xs => (xs.map bulk).sum) := by
 refine ⟨hc, fun {H enc W fuel cs x} h => ?_⟩
 rcases Deep.open_slice ht h with ⟨rfl, rfl⟩ | ⟨a, len, cap, m, n, D, Pl, rfl, _, hl, hm, hmm, rfl, hx⟩
 ·exact ⟨[], ⟨_, rfl, RdS.nil _ _⟩, fun _ => ⟨by simp, fun x hx => by cases hx⟩, by simp⟩
 simp only [if_true] at hmm
 subst hmm
 have each : ∀ i, i < len → ∃ x, (∃ c, s.rd W c x ∧ ∀ j u, c[j]? = some u → W.cell? ((a.add (i * s.n)).add j) = some u) ∧ ((∀ n ∈ (D i).weights Tryz.prog e, n ≤ reachBytes) → fits x) ∧ bulk x ≤ Rows.uptoBulk (D i) := by
  intro i hi
  obtain ⟨cs', h1, h2⟩ := hx i (by omega)
  obtain ⟨x, hr, hf, hbk⟩ := o.opened h2
  rw [o.cells] at h1
  obtain ⟨_, hlen, hcell⟩ := World.cells?_some h1
  refine ⟨x, ⟨cs', hr, fun j u hj => ?_⟩, hf, hbk⟩
  have hjl : j < cs'.length := (List.getElem?_eq_some_iff.1 hj).1
  have := hcell j (by omega)
  rw [this]; exact hj
 obtain ⟨xs, h1, h2⟩ := choose_list len each
 refine ⟨xs, ⟨_, rfl, some a, m, by rw [h1], by omega, hm, (fun h => by cases h), ?_⟩, fun hw => ⟨?_, fun x hx' => ?_⟩, ?_⟩
 ·by_cases h0 : len = 0
  ·left; exact List.eq_nil_of_length_eq_zero (by omega)
  ·right
   obtain ⟨b, off, spot⟩ := a
   obtain ⟨x0, hx0⟩ : ∃ x0, xs[0]? = some x0 := ⟨_, List.getElem?_eq_getElem (by omega)⟩
   obtain ⟨⟨c, hr, hc'⟩, _⟩ := h2 0 x0 hx0
   have hcl := s.rd_n hr
   obtain ⟨u0, hu0⟩ : ∃ u0, c[0]? = some u0 := ⟨_, List.getElem?_eq_getElem (by omega)⟩
   have hspot : spot = none := by
    have := World.cell?_spot (hc' 0 u0 hu0)
    simpa [Addr.add] using this
   subst hspot
   refine ⟨b, off, rfl, fun i x hxi => ?_⟩
   obtain ⟨⟨c, hr, hc'⟩, _⟩ := h2 i x hxi
   refine ⟨c, hr, fun j u hj => ?_⟩
   have := hc' j u hj
   have ea : ((⟨b, off, none⟩ : Addr).add (i * s.n)).add j = ⟨b, off + i * s.n + j, none⟩ := by
    rw [Deep.add_add]
    unfold Addr.add
    split <;> simp_all [Nat.add_assoc]
   rw [ea] at this
   exact this
 ·have := hw ((len + (m - len)) * bts) (by simp [DataW.weights, ht, hb])
  simp only [reachBytes] at this
  rw [h1]
  have h3 : len * bts ≤ (len + (m - len)) * bts := Nat.mul_le_mul_right _ (by omega)
  omega
 ·obtain ⟨i, hi, e⟩ := List.getElem_of_mem hx'
  have hxi : xs[i]? = some x := by rw [List.getElem?_eq_getElem hi, e]
  refine (h2 i x hxi).2.1 fun n hn => hw n ?_
  simp only [DataW.weights, ht, List.mem_cons, List.mem_append]
  right; left
  exact weightsAll_mem (d := D i) (List.mem_map.2 ⟨i, List.mem_range.2 (by omega), rfl⟩) hn
 ·have := bulk_sum bulk xs D fun i x hxi => (h2 i x hxi).2.2
  rw [h1] at this
  simp only [Rows.uptoBulk]
  omega
theorem Opens.pair {α β : Type} {s : Shp α} {r : Shp β} {t : TypeId} {f0 f1 : Field} {fa : α → Prop} {fb : β → Prop} {ba : α → Nat} {bb : β → Nat} (o : Opens s f0.type fa ba) (q : Opens r f1.type fb bb) (ht : Tryz.prog.underlying t = some (.struct #[f0, f1])) (hc : Tryz.prog.cellsOf t = s.n + r.n) (h0 : f0.offset = 0) (h1 : f1.offset = s.n) :
  Opens (s.pair r) t (fun z => fa z.1 ∧ fb z.2) (fun z => ba z.1 + bb z.2) := by
 refine ⟨hc, fun {H enc W fuel cs x} h => ?_⟩
 obtain ⟨xs, k, hk, hxy, hlen, hxl, hf⟩ := DataW.trod_struct ht h
 match xs, hxl with
 | [y0, y1], _ =>
  have g0 := hf 0 f0 rfl
  have g1 := hf 1 f1 rfl
  rw [h0, o.cells, List.drop_zero] at g0
  rw [h1, q.cells] at g1
  obtain ⟨a, ra, fa', ba'⟩ := o.opened (x := y0) (by simpa using g0)
  obtain ⟨b, rb, fb', bb'⟩ := q.opened (x := y1) (by simpa using g1)
  have hcs : cs = cs.take s.n ++ (cs.drop s.n).take r.n := by
   have : (cs.drop s.n).take r.n = cs.drop s.n := List.take_of_length_le (by rw [List.length_drop, hlen, hc]; omega)
   rw [this, List.take_append_drop]
  obtain ⟨d, p⟩ := x
  simp only [Prod.mk.injEq] at hxy
  obtain ⟨rfl, _⟩ := hxy
  refine ⟨(a, b), ⟨_, _, hcs, ra, rb⟩, fun hw => ⟨fa' fun n hn => hw n ?_, fb' fun n hn => hw n ?_⟩, ?_⟩
  ·simp only [DataW.weights, ht]
   exact DataW.weights_mem_each (j := 0) (t := f0.type) (d := y0.1) rfl rfl n hn
  ·simp only [DataW.weights, ht]
   exact DataW.weights_mem_each (j := 1) (t := f1.type) (d := y1.1) rfl rfl n hn
  ·simp only [List.map_cons, List.map_nil, Rows.uptoBulk, Rows.uptoBulkAll]
   omega
theorem reach_of {H : Type} {ts : List TypeId} {ds : List (DataW H)} (hsz : (DataW.weightsEach Tryz.prog ts ds).all (· ≤ reachBytes) = true) {j : Nat} {t : TypeId} {d : DataW H} (ht : ts[j]? = some t) (hd : ds[j]? = some d) : ∀ n ∈ d.weights Tryz.prog t, n ≤ reachBytes := by
 intro n hn
 have := List.all_eq_true.1 hsz _ (DataW.weights_mem_each ht hd _ hn)
 simpa using this
theorem Opens.three {α β γ : Type} {s : Shp α} {r : Shp β} {u : Shp γ} {t : TypeId} {f0 f1 f2 : Field} {fa : α → Prop} {fb : β → Prop} {fc : γ → Prop} {ba : α → Nat} {bb : β → Nat} {bc : γ → Nat} (o : Opens s f0.type fa ba) (q : Opens r f1.type fb bb) (p : Opens u f2.type fc bc)
  (ht : Tryz.prog.underlying t = some (.struct #[f0, f1, f2])) (hc : Tryz.prog.cellsOf t = s.n + (r.n + u.n)) (h0 : f0.offset = 0) (h1 : f1.offset = s.n) (h2 : f2.offset = s.n + r.n) :
  Opens (s.pair (r.pair u)) t (fun z => fa z.1 ∧ (fb z.2.1 ∧ fc z.2.2)) (fun z => ba z.1 + (bb z.2.1 + bc z.2.2)) := by
 refine ⟨hc, fun {H enc W fuel cs x} h => ?_⟩
 obtain ⟨xs, k, hk, hxy, hlen, hxl, hf⟩ := DataW.trod_struct ht h
 match xs, hxl with
 | [y0, y1, y2], _ =>
  have g0 := hf 0 f0 rfl
  have g1 := hf 1 f1 rfl
  have g2 := hf 2 f2 rfl
  rw [h0, o.cells, List.drop_zero] at g0
  rw [h1, q.cells] at g1
  rw [h2, p.cells] at g2
  obtain ⟨a, ra, fa', ba'⟩ := o.opened (x := y0) (by simpa using g0)
  obtain ⟨b, rb, fb', bb'⟩ := q.opened (x := y1) (by simpa using g1)
  obtain ⟨c, rc, fc', bc'⟩ := p.opened (x := y2) (by simpa using g2)
  have hcs : cs = cs.take s.n ++ ((cs.drop s.n).take r.n ++ (cs.drop (s.n + r.n)).take u.n) := by
   have e1 : (cs.drop (s.n + r.n)).take u.n = cs.drop (s.n + r.n) := List.take_of_length_le (by rw [List.length_drop, hlen, hc]; omega)
   rw [e1, ← List.drop_drop, List.take_append_drop, List.take_append_drop]
  obtain ⟨d, pl⟩ := x
  simp only [Prod.mk.injEq] at hxy
  obtain ⟨rfl, _⟩ := hxy
  refine ⟨(a, (b, c)), ⟨_, _, hcs, ra, ⟨_, _, rfl, rb, rc⟩⟩, fun hw => ⟨fa' fun n hn => hw n ?_, fb' fun n hn => hw n ?_, fc' fun n hn => hw n ?_⟩, ?_⟩
  ·simp only [DataW.weights, ht]
   exact DataW.weights_mem_each (j := 0) (t := f0.type) (d := y0.1) rfl rfl n hn
  ·simp only [DataW.weights, ht]
   exact DataW.weights_mem_each (j := 1) (t := f1.type) (d := y1.1) rfl rfl n hn
  ·simp only [DataW.weights, ht]
   exact DataW.weights_mem_each (j := 2) (t := f2.type) (d := y2.1) rfl rfl n hn
  ·simp only [List.map_cons, List.map_nil, Rows.uptoBulk, Rows.uptoBulkAll]
   omega
end Go.Proofs.YtpiikmkajckccaaGreat

namespace Go.Proofs.YtpiikmkajckccaaGreat
open Go.ChangeShapes Go.WideShapes Go.ChangeAt Go.RowKit
end Go.Proofs.YtpiikmkajckccaaGreat

namespace Go.Proofs.YtpiikmkajckccaaGreat
open Go.ChangeShapes Go.WideShapes Go.ChangeAt Go.RowKit
abbrev Tr3 := Int × (Int × List Wrt)
abbrev STree : Shp Tr3 := (Shp.int .i64).pair ((Shp.int .i64).pair (Shp.list 45 SWr))
abbrev trOf (z : Tr3) : Tr := ⟨z.1, z.2.1, z.2.2⟩
def tr3fit (z : Tr3) : Prop := (Lit.int .i64 z.1).wf = true ∧ ((Lit.int .i64 z.2.1).wf = true ∧ (z.2.2.length * 32 ≤ 140737488351232 ∧ ∀ x ∈ z.2.2, (Lit.int .i64 x.1).wf = true ∧ x.2.length ≤ 140737488351232))
set_option maxRecDepth 100000 in
theorem open_pg : Opens SWr 45 (fun x => (Lit.int .i64 x.1).wf = true ∧ x.2.length ≤ 140737488351232) (fun x => 1 + x.2.length) :=
 Opens.pair (opens_intw Tryz.underlying3 (by kernel_rfl)) opens_octs Tryz.underlying45 (by kernel_rfl) rfl rfl
set_option maxRecDepth 100000 in
theorem open_tree : Opens STree 24 tr3fit (fun z => 1 + (1 + (z.2.2.map (fun x => 1 + x.2.length)).sum)) :=
 Opens.three (opens_intw Tryz.underlying3 (by kernel_rfl)) (opens_intw Tryz.underlying3 (by kernel_rfl)) (open_pg.list Tryz.underlying22 (by kernel_rfl) (by kernel_rfl) (by decide)) Tryz.underlying24 (by kernel_rfl) rfl rfl rfl
theorem tree_form {w : World} {cs : Array Value} {z : Tr3} (h : STree.rd w cs.toList z) (hf : tr3fit z) : ∃ pv, Value.agg cs = tv (trOf z) pv ∧ RdC w pv (trOf z).pages := by
 obtain ⟨c0, d0, hc, h0, ⟨c1, d1, e1, h1, ⟨v2, rfl, r2⟩⟩⟩ := h
 have h0' : c0 = [Value.int .i64 z.1] := h0
 have h1' : c1 = [Value.int .i64 z.2.1] := h1
 subst h0' h1' e1
 refine ⟨v2, ?_, r2⟩
 cases cs
 simp [tv] at hc ⊢
 exact hc
end Go.Proofs.YtpiikmkajckccaaGreat

namespace Go.Proofs.YtpiikmkajckccaaGreat
open Go.ChangeShapes Go.WideShapes Go.ChangeAt Go.RowKit
end Go.Proofs.YtpiikmkajckccaaGreat

namespace Go.Proofs.YtpiikmkajckccaaGreat
open Go.RowKit
section
variable {P : Program} {ops : Array Oper} {Q : Exit → Act → World → Prop} {S : World → Prop} {Z : Act → World → Prop} {m : Nat}
def Fan (P : Program) (ops : Array Oper) (Q : Exit → Act → World → Prop) (S : World → Prop) (Z : Act → World → Prop) (m n : Nat) (listed : Array Bool) (a : Act) (w : World) : Prop :=
 HeadInv .any ops m listed → wpAnyM P .any ops Q S m (fun listed' a' w' => Region.seqB .any ops (ops.size - m) m listed' = true ∧ Z a' w') n listed a w
def fanStep (P : Program) (ops : Array Oper) (Q : Exit → Act → World → Prop) (S : World → Prop) (Z : Act → World → Prop) (m n i : Nat) (listed : Array Bool) (a : Act) (w : World) : Prop :=
 ∃ o, ops[i]? = some o ∧ ∀ K : Act → World → Prop, (∀ a' w', S w' → Fan P ops Q S Z m n (listed.setIfInBounds i true) a' w' → K a' w') → if Region.wanted o (yielded ops a.tmps) = true then o.wp P a w K Q else K (a.put o.dst undef) w
def fanOk (ops : Array Oper) (m : Nat) : Bool := Region.noSelect ops && decide (m < ops.size) && Region.sinkB .any ops m && Region.chainB .any ops m
def takeOk (ops : Array Oper) (m i : Nat) (listed : Array Bool) : Bool := fanOk ops m && decide (i < m) && (Region.ready .any ops listed).contains i && Region.free .any ops listed i
def readyOk (ops : Array Oper) (m : Nat) (is : List Nat) (listed : Array Bool) : Bool := decide (Region.ready .any ops listed = is) && is.all (fun i => decide (i < m)) && !is.isEmpty
theorem fan_take {i n : Nat} {listed : Array Bool} {a : Act} {w : World} {o : Oper} {v : Value} (ho : ops[i]? = some o) (hB : takeOk ops m i listed = true) (hQ : ∀ c (a : Act) t w, Q (.panic c) { a with tmps := t } w → Q (.panic c) a w) (hw : Region.wanted o (yielded ops a.tmps) = true) (hS : S w)
  (hy : ∀ w, S w → (execOp a.eval o).run P w = .ok (.value v) w) (h : Fan P ops Q S Z m n (listed.setIfInBounds i true) (a.put o.dst v) w) : Fan P ops Q S Z m (n + 1) listed a w := by
 intro inv
 simp only [takeOk, fanOk, Bool.and_eq_true, decide_eq_true_eq] at hB
 obtain ⟨⟨⟨⟨⟨⟨hsel, hm⟩, hs⟩, hc⟩, him⟩, hr⟩, hf⟩ := hB
 have hr' : i ∈ Region.ready .any ops listed := by simpa using hr
 exact wpAnyM_first ho (Region.noSelect_spec hsel) hs hc hm him (fun c a w h => hQ c a (a.put o.dst v).tmps w (by rw [← put_tmps]; exact h)) (fun listed a w hL => seqB_ready hL.1) _ listed a w inv (Region.free_spec ho hf) hr' (.inl ⟨hw, hy⟩) hS (h (inv.set hr' him))
theorem fan_all {is : List Nat} {n : Nat} {listed : Array Bool} {a : Act} {w : World} (hB : readyOk ops m is listed = true) (h : ∀ i ∈ is, fanStep P ops Q S Z m n i listed a w) : Fan P ops Q S Z m (n + 1) listed a w := by
 intro inv
 simp only [readyOk, Bool.and_eq_true, decide_eq_true_eq, List.all_eq_true] at hB
 obtain ⟨⟨hr, hlt⟩, hne⟩ := hB
 refine ⟨fun h1 => ?_, fun j hj => ?_⟩
 ·rw [hr] at h1; subst h1; simp at hne
 ·have hj0 := hj
  rw [hr] at hj
  have him := hlt j hj
  refine ⟨him, ?_⟩
  obtain ⟨o, ho, hK⟩ := h j hj
  have := hK (fun a' w' => S w' ∧ Fan P ops Q S Z m n (listed.setIfInBounds j true) a' w') (fun a' w' h1 h2 => ⟨h1, h2⟩)
  have hw : wpOp P ops Q j (fun a' w' => S w' ∧ Fan P ops Q S Z m n (listed.setIfInBounds j true) a' w') a w := by
   unfold wpOp
   simp only [ho]
   split
   ·rename_i hwd; rw [if_pos hwd] at this; exact .inl this
   ·rename_i hwd; rw [if_neg hwd] at this; exact this
  exact wpOp_mono (fun a' w' h' => ⟨h'.1, h'.2 (inv.set hj0 him)⟩) hw
theorem fan_one {n : Nat} {listed : Array Bool} {a : Act} {w : World} (i : Nat) (hB : readyOk ops m [i] listed = true) (h : fanStep P ops Q S Z m n i listed a w) : Fan P ops Q S Z m (n + 1) listed a w :=
 fan_all hB fun j hj => by simp at hj; subst hj; exact h
theorem fan_two {n : Nat} {listed : Array Bool} {a : Act} {w : World} (i j : Nat) (hB : readyOk ops m [i, j] listed = true) (h1 : fanStep P ops Q S Z m n i listed a w) (h2 : fanStep P ops Q S Z m n j listed a w) : Fan P ops Q S Z m (n + 1) listed a w :=
 fan_all hB fun k hk => by
  simp at hk
  rcases hk with rfl | rfl
  ·exact h1
  ·exact h2
theorem fan_three {n : Nat} {listed : Array Bool} {a : Act} {w : World} (i j k : Nat) (hB : readyOk ops m [i, j, k] listed = true) (h1 : fanStep P ops Q S Z m n i listed a w) (h2 : fanStep P ops Q S Z m n j listed a w) (h3 : fanStep P ops Q S Z m n k listed a w) : Fan P ops Q S Z m (n + 1) listed a w :=
 fan_all hB fun q hq => by
  simp at hq
  rcases hq with rfl | rfl | rfl
  ·exact h1
  ·exact h2
  ·exact h3
theorem fan_step {i n : Nat} {listed : Array Bool} {a : Act} {w : World} {o : Oper} (ho : ops[i]? = some o) (hw : Region.wanted o (yielded ops a.tmps) = true) (h : ∀ K : Act → World → Prop, (∀ a' w', S w' → Fan P ops Q S Z m n (listed.setIfInBounds i true) a' w' → K a' w') → o.wp P a w K Q) : fanStep P ops Q S Z m n i listed a w :=
 ⟨o, ho, fun K hK => by rw [if_pos hw]; exact h K hK⟩
theorem fan_done {listed : Array Bool} {a : Act} {w : World} (hB : Region.seqB .any ops (ops.size - m) m listed = true) (h : Z a w) : Fan P ops Q S Z m 0 listed a w := fun _ => ⟨hB, h⟩
theorem wp_region_fan {id : Nat} {a : Act} {w : World} {l : List Oper} (S : World → Prop) (m : Nat) (hf : P.follows .mixedOrders = true) (hm : m < l.length)
  (h : Fan P l.toArray Q S (fun a'' w'' => wpList P l.toArray Q (l.drop m) a'' w'') m m (Array.replicate l.toArray.size false) a w.drew) : (Code.region id l.toArray true).wp P Q a w := by
 have hld : (l.drop m).length = l.length - m := by simp
 have inv0 : HeadInv .any l.toArray m (Array.replicate l.toArray.size false) :=
  ⟨by simp, fun j oj _ hl => (by rw [getD_replicate_false] at hl; cases hl), fun t _ ht => getD_in (by simpa using ht) (getD_replicate_false _ _)⟩
 have H := h inv0
 refine wp_region_any hf ?_
 have := wpAny_of_mid (Q := Q) (g := l.length - m) (fun listed a' w' hL => by
  have := wpAny_of_seq (md := .any) (Q' := Q) (l.drop m) m listed a' w' (fun j => by simp [List.getElem?_drop]) (by rw [hld]; simpa using hL.1) hL.2
  rwa [hld] at this) _ _ _ _ H
 rw [show m + (l.length - m) = l.toArray.size by simp; omega] at this
 exact this
end
end Go.Proofs.YtpiikmkajckccaaGreat

namespace Go.Proofs.YtpiikmkajckccaaGreat
open Go.RowKit
set_option maxRecDepth 100000 in
set_option maxHeartbeats 400000 in
theorem same_any (w : World) (v1 v2 : Value) (xs ys : List UInt8) (h1 : Rd w v1 xs) (h2 : Rd w v2 ys) :
  Calls Tryz.prog 14 #[v1, v2] w fun e w' => e = .returned (.bool (sameB xs ys)) ∧ ∃ n, w' = w.drewN n := by
 obtain ⟨a1, c1, rfl, l1, m1, n1, r1⟩ := h1
 obtain ⟨a2, c2, rfl, l2, m2, n2, r2⟩ := h2
 unfold maxLen at m1 m2
 by_cases hl : xs.length = ys.length
 ·have hne : ((xs.length : Int) != (ys.length : Int)) = false := by simp; omega
  go_enter Tryz.func14, Tryz.ntmps14
  go_wp2
  go_loopw [5] (fun i wr => ∃ k n : Nat, k ≤ xs.length ∧ i = .int .i64 k ∧ sameTo xs ys k ∧ wr = w.drewN n) (fun i _ => xs.length - (intOf i).toNat)
  case atStart => exact ⟨0, 0, Nat.zero_le _, rfl, sameTo_zero _ _, rfl⟩
  case round =>
   obtain ⟨k, n, hk, rfl, hs, rfl⟩ := hrel
   by_cases hlt : k < xs.length
   ·rcases r1 with r1 | ⟨b1, o1, rfl, hc1⟩
    ·rw [r1] at hlt; simp at hlt
    rcases r2 with r2 | ⟨b2, o2, rfl, hc2⟩
    ·rw [hl, r2] at hlt; simp at hlt
    have g1 := hc1 k hlt
    have g2 := hc2 k (by omega)
    have HL : Hid (xs.length = ys.length) := hl
    have hq : (k : Int) < (xs.length : Int) := by omega
    have hq2 : (k : Int) < (ys.length : Int) := by omega
    clear hc1 hc2 hl
    by_cases he : bt xs k = bt ys k
    ·have hb : (bt xs k != bt ys k) = false := by simp [he]
     have HE : Hid (bt xs k = bt ys k) := he
     clear he
     go_wp2
     go_quiet (fail)
     go_wp2
     go_roundw
     case rel => exact ⟨k + 1, _, by omega, by go_num, sameTo_succ hs HE.out, rfl⟩
     case measure => simp [intOf]; omega
    ·have hb : (bt xs k != bt ys k) = true := by simp [he]
     go_wp2
     go_quiet (fail)
     go_wp2
     go_ret
     exact ⟨ret_bool (sameB_no HL.out hlt he).symm, _, World.drewN_drewN _ _ _⟩
   ·have HL : Hid (xs.length = ys.length) := hl
    clear hl
    go_wp2
    go_ret
    exact ⟨ret_bool (sameB_of HL.out (by rw [show xs.length = k from by omega]; exact hs)).symm, _, rfl⟩
 ·have hne : ((xs.length : Int) != (ys.length : Int)) = true := by simp; omega
  go_enter Tryz.func14, Tryz.ntmps14
  go_wp2
  go_ret
  exact ⟨ret_bool (sameB_len hl).symm, 0, rfl⟩
end Go.Proofs.YtpiikmkajckccaaGreat
