/-
  The program's copies of entries.
-/
import Derived.Laws.MakeOwn
import Derived.Deep.QuietTactic
import Derived.BigQuiet
import Derived.Test.YtfalhboahdccmaaBEq
import Derived.Test.YtfalhboahdccmaaRpA
namespace Go.Proofs.Ytfalhboahdccmaa
open Go.RowKit
set_option linter.unusedVariables false
set_option linter.unusedSimpArgs false

set_option maxRecDepth 100000 in
set_option maxHeartbeats 2000000 in
theorem bclone15_any (w : World) (v : Value) (xs : List UInt8) (h : Rd w v xs) (hm : xs.length ≤ 140737488351232) :
    Calls Try.prog 45 #[v] w fun e w' => ∃ v', e = .returned v' ∧ OwnB w.heap.size w' v' xs ∧ Below w.heap.size w w' := by
  have h' := h
  obtain ⟨ao, cap, rfl, h1, h2, h3, h4⟩ := h
  cases ao with
  | none =>
    have : xs = [] := by
      rcases h4 with h4 | ⟨b, off, e, _⟩
      · exact h4
      · cases e
    subst this
    obtain rfl : cap = 0 := h3 rfl
    clear h' h1 h2 h3 h4
    have hnil : (binOp .eql 25 (.slice none 0 0) (.slice none 0 0)).run Try.prog w = .ok (.bool true) w := Lib.run_eql_slice_nil w 25 5 _ 0 0 0 0 Try.underlying25
    go_enter Try.func45, Try.ntmps45
    go_wp2
    go_ret
    exact ⟨_, rfl, World.ownsRow_nil _ _ _ _, Below.refl _ _⟩
  | some ad =>
    rcases h4 with h4 | ⟨b, off, e, _⟩
    · subst h4
      obtain ⟨X, hX⟩ : ∃ u, u = w.alloc (.cells #[] 5) := ⟨_, rfl⟩
      have oX : OwnB w.heap.size X (.slice (some ⟨w.heap.size, 0, none⟩) 0 0) [] := by rw [hX]; exact own_lit w [] (by decide)
      have bX : Below w.heap.size w X := by rw [hX]; exact (Below.refl _ _).alloc (Nat.le_refl _) _
      have rX := h'.to bX
      have hl : ([] : List UInt8).length + ([] : List UInt8).length ≤ 140737488355328 := by simp
      have hsz := bX.size
      have hnil : (binOp .eql 25 (.slice (some ad) 0 cap) (.slice none 0 0)).run Try.prog w = .ok (.bool false) w := Lib.run_eql_slice_nil w 25 5 _ 0 cap 0 0 Try.underlying25
      clear h' h1 h2 h3
      go_enter Try.func45, Try.ntmps45
      go_wp2_with (at_builtin; rw [← hX]; refine wpList_append_octs rfl _ _ rfl w.heap.size _ _ _ _ rfl rfl oX rX hl hsz ?_; intro v6 w6 o6 b6 _)
      go_ret
      exact ⟨_, rfl, by simpa using o6, bX.trans b6⟩
    · simp only [Option.some.injEq] at e
      subst e
      exact bclone_at w b off _ cap xs h' hm
/-- make([]T, 0, n) by its run -/
theorem wpList_make_run15 {P : Program} (w : World) {ops : Array Oper} {rest : List Oper} {o : Oper} {a : Act} {Q : Exit → Act → World → Prop} (hg : o.guard = none) (l c : Operand) (t : TypeId) (hop : o.op = Op.makeSlice t l c)
    (kl kc : IntKind) (C : Int) (n : Nat) (hl : a.eval l = .int kl 0) (hc : a.eval c = .int kc C) (hC : C = (n : Int)) (v : Value) (w' : World) (hr : (Instr.makeSlice t (.int kl 0) (.int kc (n : Int))).run P w = .ok v w') (h : wpList P ops Q rest (a.put o.dst v) w') : wpList P ops Q (o :: rest) a w := by
  refine wpList_plain hg fun K hK' => ?_
  subst hC
  unfold Oper.wp
  simp [execOp, hop, hl, hc, hr, Result.andThen]
  exact hK' _ _ h
set_option maxRecDepth 100000 in
set_option maxHeartbeats 4000000 in
theorem pcopies15_any (w : World) (v : Value) (ws : List Wrt) (h : RdC w v ws) (f1 : ws.length * 32 ≤ 140737488351232) (f2 : ∀ x ∈ ws, x.2.length ≤ 140737488351232) :
    Calls Try.prog 38 #[v] w fun e w' => ∃ v', e = .returned v' ∧ Own SEntB w.heap.size w' [v'] ws ∧ Below w.heap.size w w' := by
  obtain ⟨j0, ji, jz0, jz1, jz2⟩ := info_parts infoEn
  obtain ⟨a, c, rfl⟩ := h.slice
  obtain ⟨w1, hmk, own1, gr1⟩ := run_make_own (P := Try.prog) w w.heap.size 22 27 j0 _ 2 Try.underlying22 ji jz0 jz1 .i64 .i64 ws.length (by rw [jz2]; omega) (by unfold maxLen; omega) (Nat.le_refl _)
  have b1 : Below w.heap.size w w1 := (Below.refl _ _).grown gr1 (Nat.le_refl _) (fun k h => by cases h)
  have V1 : Hid (∃ F, OwnF SEntB F w1 [.slice (some ⟨w.heap.size, 0, none⟩) 0 ws.length] [] ∧ (∀ b, b ∈ F → w.heap.size ≤ b) ∧ Below w.heap.size w w1) := by
    obtain ⟨F, f1, f2⟩ := (Own.cap 27 SWr own1).foot
    exact ⟨F, f1, f2, b1⟩
  have HH := hide h
  clear own1 gr1 b1 h
  go_enter Try.func38, Try.ntmps38
  go_wp2_with (at_make; refine wpList_make_run15 _ rfl _ _ 22 rfl _ _ _ ws.length rfl rfl rfl _ _ hmk ?_)
  clear hmk
  go_loopw [3, 11] (fun o i wr => ∃ k : Nat, k ≤ ws.length ∧ i = .int .i64 k ∧ Hid (∃ F, OwnF SEntB F wr [o] (ws.take k) ∧ (∀ b, b ∈ F → w.heap.size ≤ b) ∧ Below w.heap.size w wr)) (fun _ i _ => ws.length - (intOf i).toNat)
  case atStart => exact ⟨0, Nat.zero_le _, rfl, V1⟩
  case round =>
    obtain ⟨k, hk, rfl, hI⟩ := hrel
    clear V1
    by_cases hlt : k < ws.length
    · have hq : (k : Int) < (ws.length : Int) := by omega
      obtain ⟨F, hF, hFB, hb⟩ := hI.out
      obtain ⟨y, hyk, hym⟩ := some_at ws hlt
      obtain ⟨b1, o1, u, rfl, hc1, hc2, hr⟩ := (HH.out.to0 hb).wrt hyk
      obtain ⟨au, cu, rfl⟩ := hr.slice
      obtain ⟨cc, rowT, fin⟩ := OwnF.lit hF (n := k) (by simp; omega)
      have hsn := snoc15 ws hyk
      have hxl := f2 y hym
      obtain ⟨z, x⟩ := y
      dsimp only at hc1 hc2 hr hxl
      obtain ⟨X, hX, X0, bX, sX⟩ := boxedN wr #[.int .i64 z, .slice au x.length cu] 27
      obtain ⟨⟨x0, x1⟩, _⟩ := cells2l X0
      have KS := hide (bclone15_any X.drew _ x (hr.to (bX.trans ((Below.refl _ _).drew.mono bX.size))) hxl)
      have BX : Hid (Below wr.heap.size wr X.drew) := bX.trans ((Below.refl _ _).drew.mono bX.size)
      have FIN : Hid (∀ (w2 : World) (v2 : Value) (w5 : World) (g cap : Nat), Below wr.heap.size wr w2 → OwnB wr.heap.size w2 v2 x → (w2.alloc (.cells #[.int .i64 z, v2] 27)).grownBy w5 u3.ownBlock →
          w5.ownsRow 0 27 2 (.slice (some ⟨g, 0, none⟩) (k + 1) cap) (k + 1) (cc ++ [.int .i64 z, v2]) → (u3.ownBlock = some g ∨ g = w2.heap.size + 1) →
          Hid (∃ F, OwnF SEntB F w5 [.slice (some ⟨g, 0, none⟩) (k + 1) cap] (ws.take (k + 1)) ∧ (∀ b, b ∈ F → w.heap.size ≤ b) ∧ Below w.heap.size w w5)) := fun w2 v2 w5 g cap k1 k2 k3 k4 k5 => by
        obtain ⟨⟨F', q1, q2⟩, q3, q4⟩ := fin w2 [.int .i64 z, v2] (z, x) 27 _ w5 g cap k1 (own_ent k2) rfl rfl rfl rfl k3 k4 k5
        rw [hsn] at q1
        exact ⟨F', q1, fun b hb' => (q2 b hb').elim (hFB b) (fun h => by have := hb.size; omega), hb.trans (q3 w.heap.size hFB hb.size)⟩
      have ROW : Hid (∀ u, Below wr.heap.size wr u → ∀ o : Obj, (u.alloc o).ownsRow 0 27 2 u3 k cc) := fun u hu o => rowT _ (hu.alloc hu.size o)
      have h63 : k + 1 ≤ maxLen := by rw [show maxLen = 9223372036854775807 from rfl]; omega
      have hby : (k + 1) * 32 ≤ 140737488355328 := by omega
      have XX : Hid (∀ U, Below X.heap.size X U → (U.cell? ⟨wr.heap.size, 0, none⟩ = some (.int .i64 z) ∧ U.cell? ⟨wr.heap.size, 1, none⟩ = some (.slice au x.length cu))) := fun U b => ⟨(b.cell (cell_lt x0)).trans x0, (b.cell (cell_lt x1)).trans x1⟩
      clear fin rowT hsn hF hFB hr hb hyk hym hI X0
      obtain ⟨ll, lc, hl'⟩ : ∃ ll lc, u3 = .slice ll k lc := by
        rcases (ROW.out wr (Below.refl _ _) (.cells #[] 0)).2 with ⟨rfl, rfl⟩ | ⟨g, cap, cur, rfl, _⟩
        · exact ⟨_, _, rfl⟩
        · exact ⟨_, _, rfl⟩
      subst hl'
      generalize hXL : x.length = XL at *
      replace hXL := hide hXL
      rw [hX] at x0 x1
      go_upto_region 5 with fail
      rw [← hX]
      rw [← hX] at x0 x1
      replace hX := hide hX
      clear x0 x1 hc1 hc2
      have b0 := (Below.refl X.heap.size X).drew
      refine wp_region_mid (fun w' => w'.cell? ⟨wr.heap.size, 0, none⟩ = some (.int .i64 z) ∧ w'.cell? ⟨wr.heap.size, 1, none⟩ = some (.slice au XL cu)) 5 8 mixed (by kernel_rfl) (fun _ _ _ _ h => h) (XX.out _ b0) ?_
      dsimp only [List.take, List.drop]
      iterate 5
        refine take_one (v := ?_) (by rfl) ?_ ?_
        rotate_left
        · rintro w' ⟨s1, s2⟩
          go_simp
          try with_reducible rfl
        try simp only [Act.put, List.setIfInBounds_toArray, List.set_cons_zero, List.set_cons_succ]
      refine mid_one fun K hK => ?_
      refine step_call (by rfl) 45 _ _ (by rfl) #[.slice au XL cu] (by simp [Act.eval]) (Try.call45 _ _) KS.out ?_
      rintro e w2 ⟨v2, rfl, o2, b2⟩
      obtain ⟨av, cv2, hv2⟩ := o2.rd.slice
      rw [hXL.out] at hv2
      subst hv2
      have b3 := b0.trans (b2.mono b0.size)
      have c2 := BX.out.trans (b2.mono BX.out.size)
      have o2' := o2.mono BX.out.size
      have RW := hide (ROW.out w2 c2 (.cells #[.int .i64 z, .slice av XL cv2] 27))
      have FN := hide (fun w5 g cap k3 k4 k5 => FIN.out w2 (.slice av XL cv2) w5 g cap c2 o2' k3 k4 k5)
      clear o2 b2 c2 o2' FIN ROW BX
      refine ⟨_, rfl, hK _ _ (XX.out _ b3) ?_⟩
      clear hK K
      try simp only [Act.put, List.setIfInBounds_toArray, List.set_cons_zero, List.set_cons_succ]
      refine mid_one fun K hK => ?_
      rw [if_pos (by rfl)]
      go_simp
      refine hK _ _ (XX.out _ b3) ?_
      clear hK K
      refine mid_one fun K hK => ?_
      rw [if_pos (by rfl)]
      go_simp
      refine hK _ _ (XX.out _ (b3.alloc b3.size _)) ?_
      clear hK K
      show wpList _ _ _ _ _ _
      go_wp2_with (at_builtin; refine wpList_append_lies _ rfl _ _ 22 rfl 0 27 j0 _ 2 32 Try.underlying22 ji jz0 jz1 jz2 rfl (by decide) (.slice ll k lc) k cc rfl RW.out ⟨w2.heap.size, 0, none⟩ 1 1 [.int .i64 z, .slice av XL cv2] rfl rfl (World.news_of_block (heap_alloc_last w2 _)) (by simp [Value.oneCell']) (by decide) h63 hby (Nat.zero_le _) (w2.heap.size + 1) (by simp) ?_; intro g cap w5 ho5 hg5 hat5 hlt5; have HF := FN.out w5 g cap hg5 ho5 hat5; clear ho5 hg5 hat5 FN RW KS)
      go_roundw
      case rel => exact ⟨k + 1, by omega, by go_num, HF⟩
      case measure => simp [intOf]; omega
    · have hq : ¬ (k : Int) < (ws.length : Int) := by omega
      obtain rfl : k = ws.length := by omega
      obtain ⟨F, hF, hFB, hb⟩ := hI.out
      rw [List.take_of_length_le (Nat.le_refl _)] at hF
      have OO := hide (And.intro (hF.own hFB) hb)
      clear hF hFB hb hI
      go_wp2
      go_ret
      exact ⟨_, rfl, OO.out.1, OO.out.2⟩
end Go.Proofs.Ytfalhboahdccmaa
