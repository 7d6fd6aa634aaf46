/-
  A segment's octets where they lie: what becomes of a log where octets are appended to one of its segments. Nothing of the program's functions is named.
-/
import Derived.Test.YtlnoancjegifnaaWOwnR
namespace Go.Proofs.Ytlnoancjegifnaa
open Go.RowKit
set_option linter.unusedVariables false

/-- append of octets onto octets of the call's own, and where the answer lies -/
theorem wpList_append_octs_lies {ops : Array Oper} {rest : List Oper} {o : Oper} {a : Act} {w : World} {Q : Exit → Act → World → Prop} (hgd : o.guard = none) (s x : Operand)
    (ho : o.op = .call { callee := .builtin .append, args := #[s, x], argTypes := #[54, 54] }) (v v2 : Value) (xs ys : List UInt8) (hs : a.eval s = v) (hx : a.eval x = v2)
    (hown : OwnB 0 w v xs) (hrd : Rd w v2 ys) (hy : 0 < ys.length) (hlen : xs.length + ys.length ≤ 140737488355328)
    (h : ∀ g cap w', OwnB 0 w' (.slice (some ⟨g, 0, none⟩) (xs.length + ys.length) cap) (xs ++ ys) → w.grownBy w' v.ownBlock → (v.ownBlock = some g ∨ g = w.heap.size) → wpList Try.prog ops Q rest (a.put o.dst (.slice (some ⟨g, 0, none⟩) (xs.length + ys.length) cap)) w') : wpList Try.prog ops Q (o :: rest) a w := by
  obtain ⟨i0, hi, hz0, hz1, hz2⟩ := info_parts info8
  obtain ⟨ao, c, rfl, l1, m1, n1, r1⟩ := hrd
  rcases r1 with rfl | ⟨b, off, rfl, hc⟩
  · simp at hy
  · refine wpList_append_lies _ hgd s x 54 ho 0 5 i0 (.int .u8 0) 1 1 Try.underlying54 hi hz0 hz1 hz2 rfl (by decide) v xs.length (xs.map enc) hs hown ⟨b, off, none⟩ ys.length c (ys.map enc) hx (by simp) (news_octs hc) (enc_one ys) hy
      (by rw [show maxLen = 9223372036854775807 from rfl]; omega) (by omega) (Nat.zero_le _) w.heap.size rfl ?_
    intro g cap w' k1 k2 k3 _
    refine h g cap w' ?_ k2 k3
    unfold OwnB
    simpa using k1

theorem wp_append_octs_lies {o : Oper} {a : Act} {w : World} {K : Act → World → Prop} {Q : Exit → Act → World → Prop} (s x : Operand)
    (ho : o.op = .call { callee := .builtin .append, args := #[s, x], argTypes := #[54, 54] }) (v v2 : Value) (xs ys : List UInt8) (hs : a.eval s = v) (hx : a.eval x = v2)
    (hown : OwnB 0 w v xs) (hrd : Rd w v2 ys) (hy : 0 < ys.length) (hlen : xs.length + ys.length ≤ 140737488355328)
    (h : ∀ g cap w', OwnB 0 w' (.slice (some ⟨g, 0, none⟩) (xs.length + ys.length) cap) (xs ++ ys) → w.grownBy w' v.ownBlock → (v.ownBlock = some g ∨ g = w.heap.size) → K (a.put o.dst (.slice (some ⟨g, 0, none⟩) (xs.length + ys.length) cap)) w') : o.wp Try.prog a w K Q := by
  obtain ⟨i0, hi, hz0, hz1, hz2⟩ := info_parts info8
  obtain ⟨ao, c, rfl, l1, m1, n1, r1⟩ := hrd
  rcases r1 with rfl | ⟨b, off, rfl, hc⟩
  · simp at hy
  · refine wp_append_lies _ s x 54 ho 0 5 i0 (.int .u8 0) 1 1 Try.underlying54 hi hz0 hz1 hz2 rfl (by decide) v xs.length (xs.map enc) hs hown ⟨b, off, none⟩ ys.length c (ys.map enc) hx (by simp) (news_octs hc) (enc_one ys) hy
      (by rw [show maxLen = 9223372036854775807 from rfl]; omega) (by omega) (Nat.zero_le _) w.heap.size rfl ?_
    intro g cap w' k1 k2 k3 _
    refine h g cap w' ?_ k2 k3
    unfold OwnB
    simpa using k1

set_option maxHeartbeats 1000000 in
theorem OwnF.seg {T : Nat} {F : List Nat} {w : World} {sv wv : Value} {n : Int} {segs : List Wrt} {wait : List (List UInt8)} (h : OwnF (SLg T) F w [sv, .int .i64 n, wv] (segs, n, wait)) {i : Nat} {z : Int} {x : List UInt8} (hx : segs[i]? = some (z, x)) :
    ∃ g cap dv, sv = .slice (some ⟨g, 0, none⟩) segs.length cap ∧ g ∈ F ∧ w.cell? ⟨g, i * 2, none⟩ = some (.int .i64 z) ∧ w.cell? ⟨g, i * 2 + 1, none⟩ = some dv ∧ w.frozen? ⟨g, i * 2 + 1, none⟩ = false ∧ OwnB 0 w dv x ∧
      ∀ (w' : World) (g' cap' : Nat) (x' : List UInt8), OwnB 0 w' (.slice (some ⟨g', 0, none⟩) x'.length cap') x' → w.grownBy w' dv.ownBlock → (dv.ownBlock = some g' ∨ g' = w.heap.size) →
        (w'.cell? ⟨g, i * 2 + 1, none⟩ = some dv ∧ w'.frozen? ⟨g, i * 2 + 1, none⟩ = false) ∧ ∃ F', OwnF (SLg T) F' (w'.setCell ⟨g, i * 2 + 1, none⟩ (.slice (some ⟨g', 0, none⟩) x'.length cap')) [sv, .int .i64 n, wv] (segs.set i (z, x'), n, wait) ∧ (∀ b, b ∈ F' → b ∈ F ∨ w.heap.size ≤ b) ∧
          (∀ B, (∀ b, b ∈ F → B ≤ b) → B ≤ w.heap.size → Below B w (w'.setCell ⟨g, i * 2 + 1, none⟩ (.slice (some ⟨g', 0, none⟩) x'.length cap'))) ∧ ∀ b, b < w.heap.size → b ∉ F → (w'.setCell ⟨g, i * 2 + 1, none⟩ (.slice (some ⟨g', 0, none⟩) x'.length cap')).heap[b]? = w.heap[b]? := by
  have hil : i < segs.length := (List.getElem?_eq_some_iff.1 hx).1
  obtain ⟨FA, FB, rfl, hA, hB, hd⟩ := OwnF.split (c := [sv]) (d := [.int .i64 n, wv]) h rfl
  obtain ⟨⟨v', cc, G, e, h1, h2, rfl⟩, hn⟩ := hA
  simp at e; subst e
  obtain ⟨F1, F2, F3, c1, c2, c3, e1, e2, hl, k1, k2, k3⟩ := ownEach_at i (z, x) h2 hx
  obtain ⟨cz, cd, Gz, Gd, rfl, rfl, ⟨rfl, rfl⟩, dv, rfl, ho, rfl⟩ := k2
  simp only [List.nil_append, List.singleton_append] at e1 e2
  have hn' := List.nodup_append.1 hn
  have hG := hn'.2.1
  rw [e1] at hG
  have hG1 := List.nodup_append.1 hG
  have hG2 := List.nodup_append.1 hG1.2.1
  rcases h1.2 with ⟨rfl, h0⟩ | ⟨g, cap, cur, hv, hb, hg, hnn, hm, hs, ht⟩
  · have h0' : segs.length = 0 := h0
    omega
  subst hv
  have hl' : c1.length = i * 2 := hl
  have hcl : cc.length = segs.length * 2 := h1.1
  have cel : ∀ j, j < segs.length * 2 → w.cell? ⟨g, j, none⟩ = cc[j]? := fun j hj => h1.cellAt j hj
  have ec0 : cc[i * 2]? = some (.int .i64 z) := by rw [e2, ← hl', List.getElem?_append_right (Nat.le_refl _), Nat.sub_self]; rfl
  have ec1 : cc[i * 2 + 1]? = some dv := by rw [e2, ← hl', List.getElem?_append_right (by omega), Nat.add_sub_cancel_left]; rfl
  have gG : g ∉ G := fun hh => hn'.2.2 g (by simp [Value.ownBlock]) g hh rfl
  have dvF : ∀ b, dv.ownBlock = some b → b ∈ G := fun b hb' => by rw [e1]; simp [hb']
  have lt2 := ownEach_lt h2
  refine ⟨g, cap, dv, rfl, by simp [Value.ownBlock], (cel _ (by omega)).trans ec0, (cel _ (by omega)).trans ec1, World.ownsRow.frozenAt h1 _, ho, ?_⟩
  intro w' g' cap' x' o' hgr hat
  have hsz := hgr.size
  have hgne : ∀ b, dv.ownBlock = some b → b ≠ g := fun b hb' e' => gG (by rw [← e']; exact dvF b hb')
  have kept : ∀ b, b < w.heap.size → dv.ownBlock ≠ some b → w'.heap[b]? = w.heap[b]? := fun b hb' hne => hgr.block b hb' (fun e' => hne e'.symm)
  have hgl : g < w.heap.size := lt_of_block hg
  have hg' : w'.heap[g]? = w.heap[g]? := kept g hgl (fun e' => hgne g e' rfl)
  have row' : w'.ownsRow 0 T SWr.n (.slice (some ⟨g, 0, none⟩) segs.length cap) segs.length cc := ⟨h1.1, .inr ⟨g, cap, cur, rfl, hb, hg'.trans hg, hnn, hm, hs, ht⟩⟩
  have row'' := (World.ownsRow.stored row' (i * 2 + 1) (.slice (some ⟨g', 0, none⟩) x'.length cap')).1
  have eset : cc.set (i * 2 + 1) (.slice (some ⟨g', 0, none⟩) x'.length cap') = c1 ++ ([.int .i64 z, .slice (some ⟨g', 0, none⟩) x'.length cap'] ++ c3) := by
    rw [e2, ← hl', List.set_append_right _ _ (by omega), Nat.add_sub_cancel_left]; rfl
  rw [eset] at row''
  have g'ne : g' ≠ g := by
    rcases hat with hat | rfl
    · exact hgne g' hat
    · omega
  have g'1 : g' ∉ F1 := fun hh => by
    rcases hat with hat | rfl
    · exact hG1.2.2 g' hh g' (by simp [hat]) rfl
    · have := lt2 w.heap.size (by rw [e1]; simp [hh]); omega
  have g'3 : g' ∉ F3 := fun hh => by
    rcases hat with hat | rfl
    · exact hG2.2.2 g' (by simp [hat]) g' hh rfl
    · have := lt2 w.heap.size (by rw [e1]; simp [hh]); omega
  have nd1 : ∀ b, b ∈ F1 → dv.ownBlock ≠ some b := fun b hb' e' => hG1.2.2 b hb' b (by simp [e']) rfl
  have nd3 : ∀ b, b ∈ F3 → dv.ownBlock ≠ some b := fun b hb' e' => hG2.2.2 b (by simp [e']) b hb' rfl
  have keep1 : ∀ b, b ∈ F1 → (w'.setCell ⟨g, i * 2 + 1, none⟩ (.slice (some ⟨g', 0, none⟩) x'.length cap')).heap[b]? = w.heap[b]? := fun b hb' => by
    have hbG : b ∈ G := by rw [e1]; simp [hb']
    rw [Below.heap_setCell _ _ _ _ (fun e' => gG (by rw [← show b = g from e']; exact hbG))]
    exact kept b (lt2 b hbG) (nd1 b hb')
  have keep3 : ∀ b, b ∈ F3 → (w'.setCell ⟨g, i * 2 + 1, none⟩ (.slice (some ⟨g', 0, none⟩) x'.length cap')).heap[b]? = w.heap[b]? := fun b hb' => by
    have hbG : b ∈ G := by rw [e1]; simp [hb']
    rw [Below.heap_setCell _ _ _ _ (fun e' => gG (by rw [← show b = g from e']; exact hbG))]
    exact kept b (lt2 b hbG) (nd3 b hb')
  have keepB : ∀ b, b ∈ FB → (w'.setCell ⟨g, i * 2 + 1, none⟩ (.slice (some ⟨g', 0, none⟩) x'.length cap')).heap[b]? = w.heap[b]? := fun b hb' => by
    have hne : b ≠ g := fun e' => hd g (by simp [Value.ownBlock]) (by rw [← e']; exact hb')
    rw [Below.heap_setCell _ _ _ _ hne]
    exact kept b (hB.lt b hb') (fun e' => hd b (by simp [dvF b e']) hb')
  have oo : OwnB 0 (w'.setCell ⟨g, i * 2 + 1, none⟩ (.slice (some ⟨g', 0, none⟩) x'.length cap')) (.slice (some ⟨g', 0, none⟩) x'.length cap') x' := by
    refine ⟨o'.1, ?_⟩
    rcases o'.2 with ⟨e', _⟩ | ⟨gg, cap2, cur2, e', r0, r1, r2⟩
    · cases e'
    · refine .inr ⟨gg, cap2, cur2, e', r0, ?_, r2⟩
      simp only [Value.slice.injEq, Option.some.injEq, Addr.mk.injEq, and_true] at e'
      obtain ⟨⟨rfl, _⟩, _⟩ := e'
      rw [Below.heap_setCell _ _ _ _ g'ne]; exact r1
  have hJ : OwnF (Shp.list T SWr) (g :: (F1 ++ (g' :: F3))) (w'.setCell ⟨g, i * 2 + 1, none⟩ (.slice (some ⟨g', 0, none⟩) x'.length cap')) [.slice (some ⟨g, 0, none⟩) segs.length cap] (segs.set i (z, x')) := by
    refine ⟨⟨_, c1 ++ ([.int .i64 z, .slice (some ⟨g', 0, none⟩) x'.length cap'] ++ c3), F1 ++ (g' :: F3), rfl, by rw [List.length_set]; exact row'', ?_, rfl⟩, ?_⟩
    · rw [set_take_drop segs i (z, x') hil]
      exact ownEach_app (ownEach_to k1 keep1) (ownEach_app (ownEach_one (s := SWr) (F := [g']) (c := [.int .i64 z, .slice (some ⟨g', 0, none⟩) x'.length cap']) (x := (z, x')) ⟨[.int .i64 z], [.slice (some ⟨g', 0, none⟩) x'.length cap'], [], [g'], rfl, rfl, ⟨rfl, rfl⟩, _, rfl, oo, by simp [Value.ownBlock]⟩) (ownEach_to k3 keep3))
    · refine List.nodup_cons.2 ⟨fun hh => ?_, List.nodup_append.2 ⟨hG1.1, List.nodup_cons.2 ⟨g'3, hG2.2.1⟩, fun a ha b hb' e' => ?_⟩⟩
      · rcases List.mem_append.1 hh with q | q
        · exact gG (by rw [e1]; simp [q])
        · rcases List.mem_cons.1 q with q | q
          · exact g'ne q.symm
          · exact gG (by rw [e1]; simp [q])
      · rcases List.mem_cons.1 hb' with q | q
        · rw [e', q] at ha; exact g'1 ha
        · exact hG1.2.2 a ha b (by simp [q]) e'
  refine ⟨⟨?_, ?_⟩, (g :: (F1 ++ (g' :: F3))) ++ FB, OwnF.join hJ (hB.keep keepB) ?_, ?_, ?_, ?_⟩
  · rw [row'.cellAt _ (show i * 2 + 1 < segs.length * 2 by omega)]; exact ec1
  · exact World.ownsRow.frozenAt row' _
  · intro b hb' hb2
    rcases List.mem_cons.1 hb' with rfl | q
    · exact hd b (by simp [Value.ownBlock]) hb2
    · rcases List.mem_append.1 q with q | q
      · exact hd b (by rw [e1]; simp [q]) hb2
      · rcases List.mem_cons.1 q with q | q
        · subst q
          rcases hat with hat | rfl
          · exact hd _ (by simp [dvF _ hat]) hb2
          · have := hB.lt _ hb2; omega
        · exact hd b (by rw [e1]; simp [q]) hb2
  · intro b hb'
    rcases List.mem_append.1 hb' with q | q
    · rcases List.mem_cons.1 q with rfl | q
      · left; simp [Value.ownBlock]
      · rcases List.mem_append.1 q with q | q
        · left; rw [e1]; simp [q]
        · rcases List.mem_cons.1 q with q | q
          · subst q
            rcases hat with hat | rfl
            · left; simp [dvF _ hat]
            · right; exact Nat.le_refl _
          · left; rw [e1]; simp [q]
    · left; simp [q]
  · intro B hFB hBw
    have b1 : Below B w w' := (Below.refl _ _).grown hgr hBw (fun k hk => hFB k (by simp [dvF k hk]))
    exact b1.setCell (p := ⟨g, i * 2 + 1, none⟩) (hFB g (by simp [Value.ownBlock])) _
  · intro b hb' hnb
    have hne : b ≠ g := fun e' => hnb (by rw [e']; simp [Value.ownBlock])
    rw [Below.heap_setCell _ _ _ _ hne]
    exact kept b hb' (fun e' => hnb (by simp [dvF b e']))

end Go.Proofs.Ytlnoancjegifnaa
