/- Several texts in one. -/
import Derived.Test.YtibkanmboglcgaaWBack
import Derived.Test.YtibkanmboglcgaaRSched
import Derived.Deep.CutRange
import Derived.Test.YtibkanmboglcgaaMergeS
/-
  Logs that were laid: how long their segments are. Nothing of the program is named.
-/
namespace Go.Proofs.Ytibkanmboglcgaa
set_option linter.unusedVariables false

/-- each group but the last is of limit octets or more; without its last record it is of fewer -/
def GOk (limit : Int) (gs : List (List (List UInt8))) : Prop := (∀ g ∈ gs, ∀ j, j < g.length → ((wsz (g.take j) : Nat) : Int) < limit) ∧ ∀ g ∈ gs.dropLast, limit ≤ ((wsz g : Nat) : Int)
theorem gok_nil (limit : Int) : GOk limit [] := ⟨fun g hg => by (cases hg), fun g hg => by (cases hg)⟩
theorem gput_ok {limit : Int} {gs : List (List (List UInt8))} {r : List UInt8} (hl : 1 ≤ limit) (h : GOk limit gs) : GOk limit (gput limit gs r) := by
  unfold gput
  by_cases c : gs.length = 0 ∨ limit ≤ ((wdata (gs.getLastD [])).length : Nat)
  · rw [if_pos c]
    refine ⟨fun g hg j hj => ?_, fun g hg => ?_⟩
    · rcases List.mem_append.1 hg with hg | hg
      · exact h.1 g hg j hj
      · simp only [List.mem_singleton] at hg
        subst hg
        simp only [List.length_singleton] at hj
        obtain rfl : j = 0 := by omega
        simp only [List.take_zero, wsz]
        omega
    · rw [List.dropLast_concat] at hg
      by_cases h0 : gs.length = 0
      · have : gs = [] := List.eq_nil_of_length_eq_zero h0
        subst this; cases hg
      · rw [last_split gs h0] at hg
        rcases List.mem_append.1 hg with hg | hg
        · exact h.2 g hg
        · simp only [List.mem_singleton] at hg
          rcases c with c | c
          · exact absurd c h0
          · rw [wdata_len] at c
            rw [hg]; exact c
  · rw [if_neg c]
    have h0 : ¬ gs.length = 0 := fun e => c (.inl e)
    have hlast : gs.getLastD [] ∈ gs := by
      have e := last_split gs h0
      rw [e]
      simp
    refine ⟨fun g hg j hj => ?_, fun g hg => ?_⟩
    · rcases List.mem_append.1 hg with hg | hg
      · exact h.1 g (List.dropLast_subset _ hg) j hj
      · simp only [List.mem_singleton] at hg
        subst hg
        rw [List.length_append] at hj
        simp only [List.length_singleton] at hj
        by_cases hj2 : j < (gs.getLastD []).length
        · rw [List.take_append_of_le_length (by omega)]
          exact h.1 _ hlast j hj2
        · obtain rfl : j = (gs.getLastD []).length := by omega
          rw [List.take_append_of_le_length (Nat.le_refl _), List.take_of_length_le (Nat.le_refl _)]
          have : ¬ limit ≤ ((wdata (gs.getLastD [])).length : Nat) := fun e => c (.inr e)
          rw [wdata_len] at this
          omega
    · rw [List.dropLast_concat] at hg
      exact h.2 g hg
theorem gfold_ok {limit : Int} (hl : 1 ≤ limit) : ∀ (rs : List (List UInt8)) (gs : List (List (List UInt8))), GOk limit gs → GOk limit (rs.foldl (gput limit) gs)
  | [], gs, h => h
  | r :: rs, gs, h => by rw [List.foldl_cons]; exact gfold_ok hl rs _ (gput_ok hl h)

end Go.Proofs.Ytibkanmboglcgaa

/-
  A region that draws its order, walked step by step: an operation that only reads is taken where it can come ('fan_take'); where one, two or three operations can come and no order is told, each is walked ('fan_one', 'fan_two', 'fan_three'). From m on a chain that all others precede. Nothing of the program is named.
-/
namespace Go.Proofs.Ytibkanmboglcgaa
open Go.RowKit
set_option linter.unusedVariables false

section
variable {P : Program} {ops : Array Oper} {Q : Exit → Act → World → Prop} {S : World → Prop} {Z : Act → World → Prop} {m : Nat}

/-- what is left to be walked, n operations ahead of the chain -/
def Fan (P : Program) (ops : Array Oper) (Q : Exit → Act → World → Prop) (S : World → Prop) (Z : Act → World → Prop) (m n : Nat) (listed : Array Bool) (a : Act) (w : World) : Prop :=
  HeadInv .any ops m listed → wpAnyM P .any ops Q S m (fun listed' a' w' => Region.seqB .any ops (ops.size - m) m listed' = true ∧ Z a' w') n listed a w
/-- a step: what is asked of operation i, all told -/
def fanStep (P : Program) (ops : Array Oper) (Q : Exit → Act → World → Prop) (S : World → Prop) (Z : Act → World → Prop) (m n i : Nat) (listed : Array Bool) (a : Act) (w : World) : Prop :=
  ∃ o, ops[i]? = some o ∧ ∀ K : Act → World → Prop, (∀ a' w', S w' → Fan P ops Q S Z m n (listed.setIfInBounds i true) a' w' → K a' w') → if Region.wanted o (yielded ops a.tmps) = true then o.wp P a w K Q else K (a.put o.dst undef) w
def fanOk (ops : Array Oper) (m : Nat) : Bool := Region.noSelect ops && decide (m < ops.size) && Region.sinkB .any ops m && Region.chainB .any ops m
def takeOk (ops : Array Oper) (m i : Nat) (listed : Array Bool) : Bool := fanOk ops m && decide (i < m) && (Region.ready .any ops listed).contains i && Region.free .any ops listed i
def readyOk (ops : Array Oper) (m : Nat) (is : List Nat) (listed : Array Bool) : Bool := decide (Region.ready .any ops listed = is) && is.all (fun i => decide (i < m)) && !is.isEmpty

theorem fan_take {i n : Nat} {listed : Array Bool} {a : Act} {w : World} {o : Oper} {v : Value} (ho : ops[i]? = some o) (hB : takeOk ops m i listed = true) (hQ : ∀ c (a : Act) t w, Q (.panic c) { a with tmps := t } w → Q (.panic c) a w) (hw : Region.wanted o (yielded ops a.tmps) = true) (hS : S w)
    (hy : ∀ w, S w → (execOp a.eval o).run P w = .ok (.value v) w) (h : Fan P ops Q S Z m n (listed.setIfInBounds i true) (a.put o.dst v) w) : Fan P ops Q S Z m (n + 1) listed a w := by
  intro inv
  simp only [takeOk, fanOk, Bool.and_eq_true, decide_eq_true_eq] at hB
  obtain ⟨⟨⟨⟨⟨⟨hsel, hm⟩, hs⟩, hc⟩, him⟩, hr⟩, hf⟩ := hB
  have hr' : i ∈ Region.ready .any ops listed := by simpa using hr
  exact wpAnyM_first ho (Region.noSelect_spec hsel) hs hc hm him (fun c a w h => hQ c a (a.put o.dst v).tmps w (by rw [← put_tmps]; exact h)) (fun listed a w hL => seqB_ready hL.1) _ listed a w inv (Region.free_spec ho hf) hr' (.inl ⟨hw, hy⟩) hS (h (inv.set hr' him))
theorem fan_all {is : List Nat} {n : Nat} {listed : Array Bool} {a : Act} {w : World} (hB : readyOk ops m is listed = true) (h : ∀ i ∈ is, fanStep P ops Q S Z m n i listed a w) : Fan P ops Q S Z m (n + 1) listed a w := by
  intro inv
  simp only [readyOk, Bool.and_eq_true, decide_eq_true_eq, List.all_eq_true] at hB
  obtain ⟨⟨hr, hlt⟩, hne⟩ := hB
  refine ⟨fun h1 => ?_, fun j hj => ?_⟩
  · rw [hr] at h1; subst h1; simp at hne
  · have hj0 := hj
    rw [hr] at hj
    have him := hlt j hj
    refine ⟨him, ?_⟩
    obtain ⟨o, ho, hK⟩ := h j hj
    have := hK (fun a' w' => S w' ∧ Fan P ops Q S Z m n (listed.setIfInBounds j true) a' w') (fun a' w' h1 h2 => ⟨h1, h2⟩)
    have hw : wpOp P ops Q j (fun a' w' => S w' ∧ Fan P ops Q S Z m n (listed.setIfInBounds j true) a' w') a w := by
      unfold wpOp
      simp only [ho]
      split
      · rename_i hwd; rw [if_pos hwd] at this; exact .inl this
      · rename_i hwd; rw [if_neg hwd] at this; exact this
    exact wpOp_mono (fun a' w' h' => ⟨h'.1, h'.2 (inv.set hj0 him)⟩) hw
theorem fan_one {n : Nat} {listed : Array Bool} {a : Act} {w : World} (i : Nat) (hB : readyOk ops m [i] listed = true) (h : fanStep P ops Q S Z m n i listed a w) : Fan P ops Q S Z m (n + 1) listed a w :=
  fan_all hB fun j hj => by simp at hj; subst hj; exact h
theorem fan_two {n : Nat} {listed : Array Bool} {a : Act} {w : World} (i j : Nat) (hB : readyOk ops m [i, j] listed = true) (h1 : fanStep P ops Q S Z m n i listed a w) (h2 : fanStep P ops Q S Z m n j listed a w) : Fan P ops Q S Z m (n + 1) listed a w :=
  fan_all hB fun k hk => by
    simp at hk
    rcases hk with rfl | rfl
    · exact h1
    · exact h2
theorem fan_three {n : Nat} {listed : Array Bool} {a : Act} {w : World} (i j k : Nat) (hB : readyOk ops m [i, j, k] listed = true) (h1 : fanStep P ops Q S Z m n i listed a w) (h2 : fanStep P ops Q S Z m n j listed a w) (h3 : fanStep P ops Q S Z m n k listed a w) : Fan P ops Q S Z m (n + 1) listed a w :=
  fan_all hB fun q hq => by
    simp at hq
    rcases hq with rfl | rfl | rfl
    · exact h1
    · exact h2
    · exact h3
/-- an operation that is wanted -/
theorem fan_step {i n : Nat} {listed : Array Bool} {a : Act} {w : World} {o : Oper} (ho : ops[i]? = some o) (hw : Region.wanted o (yielded ops a.tmps) = true) (h : ∀ K : Act → World → Prop, (∀ a' w', S w' → Fan P ops Q S Z m n (listed.setIfInBounds i true) a' w' → K a' w') → o.wp P a w K Q) : fanStep P ops Q S Z m n i listed a w :=
  ⟨o, ho, fun K hK => by rw [if_pos hw]; exact h K hK⟩
theorem fan_done {listed : Array Bool} {a : Act} {w : World} (hB : Region.seqB .any ops (ops.size - m) m listed = true) (h : Z a w) : Fan P ops Q S Z m 0 listed a w := fun _ => ⟨hB, h⟩

theorem wp_region_fan {id : Nat} {a : Act} {w : World} {l : List Oper} (S : World → Prop) (m : Nat) (hf : P.follows .mixedOrders = true) (hm : m < l.length)
    (h : Fan P l.toArray Q S (fun a'' w'' => wpList P l.toArray Q (l.drop m) a'' w'') m m (Array.replicate l.toArray.size false) a w.drew) : (Code.region id l.toArray true).wp P Q a w := by
  have hld : (l.drop m).length = l.length - m := by simp
  have inv0 : HeadInv .any l.toArray m (Array.replicate l.toArray.size false) :=
    ⟨by simp, fun j oj _ hl => (by rw [getD_replicate_false] at hl; cases hl), fun t _ ht => getD_in (by simpa using ht) (getD_replicate_false _ _)⟩
  have H := h inv0
  refine wp_region_any hf ?_
  have := wpAny_of_mid (Q := Q) (g := l.length - m) (fun listed a' w' hL => by
    have := wpAny_of_seq (md := .any) (Q' := Q) (l.drop m) m listed a' w' (fun j => by simp [List.getElem?_drop]) (by rw [hld]; simpa using hL.1) hL.2
    rwa [hld] at this) _ _ _ _ H
  rw [show m + (l.length - m) = l.toArray.size by simp; omega] at this
  exact this

end
end Go.Proofs.Ytibkanmboglcgaa

/-
  The law's laid: batches, each appended and flushed.
-/
namespace Go.Proofs.Ytibkanmboglcgaa
open Go.RowKit
set_option linter.unusedVariables false
set_option linter.unusedSimpArgs false

/-- a list of octets' lists whose row is new since w0, and whose pieces were there -/
def OwnR (w0 w : World) (v : Value) (xss : List (List UInt8)) : Prop :=
  ∃ vs : List Value, vs.length = xss.length ∧ w.ownsRow w0.heap.size 54 1 v xss.length vs ∧ ∀ i, i < xss.length → Rd w0 (vs.getD i undef) (xss.getD i [])
theorem OwnR.nil (w0 w : World) : OwnR w0 w (.slice none 0 0) [] := ⟨[], rfl, World.ownsRow_nil _ _ _ _, fun i hi => by simp at hi⟩
theorem OwnR.keepT {w0 w w' : World} {v : Value} {xss : List (List UInt8)} (h : OwnR w0 w v xss) (k : KeepT 54 w w') : OwnR w0 w' v xss := by
  obtain ⟨vs, h1, h2, h3⟩ := h
  exact ⟨vs, h1, rows_keepT h2 k, h3⟩
theorem OwnR.to {w0 w w' : World} {v : Value} {xss : List (List UInt8)} (h : OwnR w0 w v xss) (hb : Below w.heap.size w w') : OwnR w0 w' v xss := h.keepT (KeepT.below hb)
theorem OwnR.rd {w0 w : World} {v : Value} {xss : List (List UInt8)} (h : OwnR w0 w v xss) (hb : Below w0.heap.size w0 w) : RdSec w v xss := by
  obtain ⟨vs, hl, ⟨_, ⟨rfl, h0⟩ | ⟨g, cap, cur, rfl, hgb, hg, hn, hm, hs, ht⟩⟩, he⟩ := h
  · have : xss = [] := List.eq_nil_of_length_eq_zero h0
    subst this
    exact RdS.nil _ _
  · refine ⟨_, cap, rfl, hn, hm, (fun e => by cases e), .inr ⟨g, 0, rfl, fun i x hx => ?_⟩⟩
    have hi : i < xss.length := (List.getElem?_eq_some_iff.1 hx).1
    have hr := (he i hi).to hb
    rw [getD_some hx] at hr
    refine ⟨[vs.getD i undef], ⟨_, rfl, hr⟩, fun j u hj => ?_⟩
    match j, hj with
    | 0, hj =>
      simp only [List.getElem?_cons_zero, Option.some.injEq] at hj
      subst hj
      show w.cell? ⟨g, 0 + i * 1 + 0, none⟩ = _
      rw [cell_of_row w g _ cur _ (0, 0) hg]
      have e : cur[0 + i * 1 + 0]? = (cur.toList.take (xss.length * 1))[i]? := by
        rw [List.getElem?_take, if_pos (by omega)]; simp
      rw [e, ht]
      simp [hl, hi]
    | j + 1, hj => simp at hj
/-- append of lists that were there -/
theorem wpList_append_read {ops : Array Oper} {rest : List Oper} {o : Oper} {a : Act} {w0 w : World} {Q : Exit → Act → World → Prop} (hgd : o.guard = none) (s x : Operand)
    (ho : o.op = .call { callee := .builtin .append, args := #[s, x], argTypes := #[23, 23] }) (v v2 : Value) (xss yss : List (List UInt8)) (hs : a.eval s = v) (hx : a.eval x = v2)
    (h1 : OwnR w0 w v xss) (h2 : RdSec w0 v2 yss) (hb : Below w0.heap.size w0 w) (hlen : (xss.length + yss.length) * 24 ≤ 140737488355328)
    (h : ∀ v' w', OwnR w0 w' v' (xss ++ yss) → Below w0.heap.size w w' → (∀ e, e ≠ 54 → KeepT e w w') → wpList Try.prog ops Q rest (a.put o.dst v') w') : wpList Try.prog ops Q (o :: rest) a w := by
  obtain ⟨i0, hi, hz0, hz1, hz2⟩ := info_parts infoB
  obtain ⟨vs, p1, p2, p3⟩ := id h1
  obtain ⟨ao, c, rfl, l1, m1, n1, r1⟩ := h2
  rcases r1 with r1 | ⟨b, off, rfl, hc⟩
  · subst r1
    cases ao with
    | none =>
      obtain rfl : c = 0 := n1 rfl
      refine wpList_append_own_none hgd s x 23 ho w0.heap.size 54 i0 1 Try.underlying23 hi v xss.length vs hs p2 hx ?_
      exact h v w (by simpa using h1) (Below.refl _ _) (fun e _ => KeepT.refl _ _)
    | some ad =>
      refine wpList_append_own _ hgd s x 23 ho w0.heap.size 54 i0 (.slice none 0 0) 1 24 Try.underlying23 hi hz0 hz1 hz2 rfl (by decide) v xss.length vs hs p2 ad 0 c [] hx rfl (fun j u hj => by simp at hj) (fun u hu => by cases hu)
        (by rw [show maxLen = 9223372036854775807 from rfl]; omega) (by simp at hlen ⊢; omega) hb.size ?_
      intro v' w' q1 q2 _
      refine h v' w' ⟨vs, by simpa using p1, by simpa using q1, fun i hi' => ?_⟩ ((Below.refl _ _).grown q2 hb.size (rows_from p2)) (fun e he => KeepT.grown p2 q2 he)
      simpa using p3 i (by simpa using hi')
  · have hcell : ∀ i, i < yss.length → ∃ u, w0.cell? ⟨b, off + i, none⟩ = some u ∧ Rd w0 u (yss.getD i []) := fun i hi' => by
      obtain ⟨c', k1, k2⟩ := hc i yss[i] (List.getElem?_eq_getElem hi')
      obtain ⟨u, rfl, ru⟩ := k1
      have := k2 0 u rfl
      rw [show (Shp.octs).n = 1 from rfl, Nat.mul_one, Nat.add_zero] at this
      exact ⟨u, this, by simpa [List.getD_eq_getElem?_getD, hi'] using ru⟩
    obtain ⟨us, k1, k2, k3⟩ : ∃ us : List Value, us.length = yss.length ∧ (∀ i, i < yss.length → w0.cell? ⟨b, off + i, none⟩ = some (us.getD i undef)) ∧ ∀ i, i < yss.length → Rd w0 (us.getD i undef) (yss.getD i []) := by
      clear h h1 p1 p2 p3 hlen hc l1
      suffices H : ∀ n, n ≤ yss.length → ∃ us : List Value, us.length = n ∧ (∀ i, i < n → w0.cell? ⟨b, off + i, none⟩ = some (us.getD i undef)) ∧ ∀ i, i < n → Rd w0 (us.getD i undef) (yss.getD i []) from H _ (Nat.le_refl _)
      intro n
      induction n with
      | zero => intro _; exact ⟨[], rfl, fun i hi => by omega, fun i hi => by omega⟩
      | succ n ih =>
        intro hn
        obtain ⟨us, q1, q2, q3⟩ := ih (by omega)
        obtain ⟨u, u1, u2⟩ := hcell n (by omega)
        have e1 : ∀ i, i < n → (us ++ [u]).getD i undef = us.getD i undef := fun i hi => by simp [List.getD_eq_getElem?_getD, List.getElem?_append_left (show i < us.length by omega)]
        have e2 : (us ++ [u]).getD n undef = u := by rw [← q1]; simp [List.getD_eq_getElem?_getD]
        refine ⟨us ++ [u], by simp [q1], fun i hi => ?_, fun i hi => ?_⟩
        · by_cases e : i = n
          · subst e; rw [e2]; exact u1
          · rw [e1 i (by omega)]; exact q2 i (by omega)
        · by_cases e : i = n
          · subst e; rw [e2]; exact u2
          · rw [e1 i (by omega)]; exact q3 i (by omega)
    have e1 : us.length = yss.length * 1 := by rw [Nat.mul_one]; exact k1
    have e2 : ∀ j u, us[j]? = some u → w.cell? ((⟨b, off, none⟩ : Addr).add j) = some u := fun j u hj => by
      have hjl : j < us.length := (List.getElem?_eq_some_iff.1 hj).1
      have ea : (⟨b, off, none⟩ : Addr).add j = ⟨b, off + j, none⟩ := by
        by_cases h0 : j = 0
        · subst h0; simp [Addr.add]
        · simp [Addr.add, h0]
      have := k2 j (by omega)
      rw [ea, (hb.cell (cell_lt this)).trans this]
      simp [List.getD_eq_getElem?_getD, hj]
    have e3 : ∀ u ∈ us, u.oneCell' = true := fun u hu => by
      obtain ⟨j, hj, e⟩ := List.mem_iff_getElem.1 hu
      obtain ⟨ao, c', e'⟩ := (k3 j (by omega)).slice
      have e4 : us.getD j undef = u := by rw [← e]; simp [List.getD_eq_getElem?_getD, hj]
      rw [e4] at e'
      rw [e']; rfl
    refine wpList_append_own _ hgd s x 23 ho w0.heap.size 54 i0 (.slice none 0 0) 1 24 Try.underlying23 hi hz0 hz1 hz2 rfl (by decide) v xss.length vs hs p2 ⟨b, off, none⟩ yss.length c us hx e1 e2 e3
      (by rw [show maxLen = 9223372036854775807 from rfl]; omega) (by omega) hb.size ?_
    intro v' w' q1 q2 _
    refine h v' w' ⟨vs ++ us, by simp [p1, k1], by rw [List.length_append]; exact q1, fun i hi' => ?_⟩ ((Below.refl _ _).grown q2 hb.size (rows_from p2)) (fun e he => KeepT.grown p2 q2 he)
    rw [List.length_append] at hi'
    by_cases hlt : i < xss.length
    · have f1 : (vs ++ us).getD i undef = vs.getD i undef := by simp [List.getD_eq_getElem?_getD, List.getElem?_append_left (show i < vs.length by omega)]
      have f2 : (xss ++ yss).getD i [] = xss.getD i [] := by simp [List.getD_eq_getElem?_getD, List.getElem?_append_left hlt]
      rw [f1, f2]; exact p3 i hlt
    · have f1 : (vs ++ us).getD i undef = us.getD (i - xss.length) undef := by rw [← p1]; simp [List.getD_eq_getElem?_getD, List.getElem?_append_right (show vs.length ≤ i by omega)]
      have f2 : (xss ++ yss).getD i [] = yss.getD (i - xss.length) [] := by simp [List.getD_eq_getElem?_getD, List.getElem?_append_right (show xss.length ≤ i by omega)]
      rw [f1, f2]; exact k3 _ (by omega)

/-- what the groups of a laid log are -/
structure Lst (limit : Int) (gs : List (List (List UInt8))) : Prop where
  ne : ∀ g ∈ gs, g ≠ []
  sh : ∀ g ∈ gs, ∀ r ∈ g, r.length ≤ 4096
  fl : gs.flatten.length ≤ 4000
  ok : GOk limit gs
theorem flat_ge : ∀ {gs : List (List (List UInt8))}, (∀ g ∈ gs, g ≠ []) → gs.length ≤ gs.flatten.length
  | [], _ => Nat.le_refl _
  | g :: gs, h => by
    have ih := flat_ge (gs := gs) fun x hx => h x (List.mem_cons_of_mem _ hx)
    have hg : 0 < g.length := List.length_pos_iff.2 (h g (List.mem_cons_self ..))
    rw [List.flatten_cons, List.length_append, List.length_cons]
    omega
theorem Lst.len {limit : Int} {gs : List (List (List UInt8))} (h : Lst limit gs) : gs.length ≤ 4000 := Nat.le_trans (flat_ge h.ne) h.fl
theorem Lst.nil (limit : Int) : Lst limit [] := ⟨fun g hg => by (cases hg), fun g hg => by (cases hg), by simp, gok_nil _⟩
theorem Lst.put {limit : Int} {gs : List (List (List UInt8))} {b : List (List UInt8)} (h : Lst limit gs) (hl : 1 ≤ limit) (hb : wwaitOk b) (hn : gs.flatten.length + b.length ≤ 4000) : Lst limit (b.foldl (gput limit) gs) := by
  refine ⟨gfold_ne limit b gs h.ne, short_flat.2 fun r hr => ?_, by rw [gfold_flat, List.length_append]; exact hn, gfold_ok hl b gs h.ok⟩
  rw [gfold_flat] at hr
  rcases List.mem_append.1 hr with hr | hr
  · exact short_flat.1 h.sh r hr
  · exact hb r hr
theorem Lst.short {limit : Int} {gs : List (List (List UInt8))} (h : Lst limit gs) (hl : limit ≤ 1000000) : wshort (wsegs 0 gs) := by
  intro s hs
  obtain ⟨k, hk, e⟩ := List.mem_iff_getElem.1 hs
  rw [wsegs_len] at hk
  obtain ⟨g, hg⟩ : ∃ g, gs[k]? = some g := ⟨gs[k], List.getElem?_eq_getElem hk⟩
  have hs' := wsegs_at gs 0 k g hg
  rw [List.getElem?_eq_getElem (by rw [wsegs_len]; exact hk), e] at hs'
  simp only [Option.some.injEq] at hs'
  subst hs'
  dsimp only
  rw [wdata_len]
  have hm := List.mem_of_getElem? hg
  have hgl : 0 < g.length := List.length_pos_iff.2 (h.ne g hm)
  have h1 := h.ok.1 g hm (g.length - 1) (by omega)
  obtain ⟨r, hr⟩ : ∃ r, g[g.length - 1]? = some r := ⟨g[g.length - 1], List.getElem?_eq_getElem (by omega)⟩
  have hrl := h.sh g hm r (List.mem_of_getElem? hr)
  have e2 : g = g.take (g.length - 1) ++ [r] := by
    have := take_snoc hr
    rw [show g.length - 1 + 1 = g.length by omega, List.take_of_length_le (Nat.le_refl _)] at this
    exact this
  have e3 : wsz g = wsz (g.take (g.length - 1)) + (r.length + 8) := by
    conv => lhs; rw [e2]
    rw [wsz_app]; simp [wsz]
  omega
theorem Lst.wok {limit : Int} {gs : List (List (List UInt8))} (h : Lst limit gs) : WOk (wsegs 0 gs, ((gs.flatten.length : Nat) : Int), []) :=
  wok_laid (by have := h.len; omega) h.sh (by have := h.fl; omega) (by decide) (fun r hr => by cases hr)
theorem Lst.app {limit : Int} {gs : List (List (List UInt8))} {b : List (List UInt8)} (h : Lst limit gs) (hn : gs.flatten.length + b.length ≤ 4000) (hb : wwaitOk b) : wappend (wsegs 0 gs, ((gs.flatten.length : Nat) : Int), []) b = ((wsegs 0 gs, ((gs.flatten.length : Nat) : Int), b), 0) :=
  wappend_0 h.wok hb (by simp; omega)
theorem Lst.apx {limit : Int} {gs : List (List (List UInt8))} {b : List (List UInt8)} (h : Lst limit gs) (hb : ¬ wwaitOk b) : wappend (wsegs 0 gs, ((gs.flatten.length : Nat) : Int), []) b = (wzero, 5) :=
  wappend_5 h.wok hb
theorem Lst.flu {limit : Int} {gs : List (List (List UInt8))} {b : List (List UInt8)} (h : Lst limit gs) (hl : 1 ≤ limit ∧ limit ≤ 1048576) (hn : gs.flatten.length + b.length ≤ 4000) (hb : wwaitOk b) : wflush (wsegs 0 gs, ((gs.flatten.length : Nat) : Int), b) limit = ((wsegs 0 (b.foldl (gput limit) gs), (((b.foldl (gput limit) gs).flatten.length : Nat) : Int), []), 0) :=
  wflush_laid hl (by omega) (by have := flat_ge h.ne; omega) h.sh hb

end Go.Proofs.Ytibkanmboglcgaa

/-
  The law's laid, walked.
-/
namespace Go.Proofs.Ytibkanmboglcgaa
open Go.RowKit
set_option linter.unusedVariables false
set_option linter.unusedSimpArgs false

theorem ownEach_keepT {w w' : World} (k1 : KeepT 5 w w') : ∀ {xs : List Wrt} {F : List Nat} {cc : List Value}, ownEach SWr w F cc xs → ownEach SWr w' F cc xs
  | [], F, cc, h => h
  | x :: xs, F, cc, ⟨F1, F2, c1, c2, e1, e2, ⟨c, d, G, H, p1, p2, p3, v, p4, p5, p6⟩, h2⟩ => ⟨F1, F2, c1, c2, e1, e2, ⟨c, d, G, H, p1, p2, p3, v, p4, rows_keepT p5 k1, p6⟩, ownEach_keepT k1 h2⟩
theorem Own.keepT {T B : Nat} {w w' : World} {v : Value} {xs : List Wrt} (h : Own (Shp.list T SWr) B w [v] xs) (k1 : KeepT 5 w w') (k2 : KeepT T w w') : Own (Shp.list T SWr) B w' [v] xs := by
  obtain ⟨F, ⟨v', cc, G, e, h1, h2, h3⟩, hn, hB⟩ := h
  exact ⟨F, ⟨v', cc, G, e, rows_keepT h1 k2, ownEach_keepT k1 h2, h3⟩, hn, hB⟩
theorem rd_none {w : World} (w' : World) {v : Value} (h : RdSec w v []) : RdSec w' v [] := by
  obtain ⟨ao, cap, e, h1, h2, h3, _⟩ := h
  exact ⟨ao, cap, e, h1, h2, h3, .inl rfl⟩
def flen (gs : List (List (List UInt8))) : Nat := gs.flatten.length
/-- what laid's loop keeps: the answer's box at w's end, the log's behind it -/
structure LInv (w wr : World) (limit : Int) (o c wv : Value) (gs : List (List (List UInt8))) : Prop where
  ans : wr.heap[w.heap.size]? = some (.cells #[.slice none 0 0, .int .i64 0, .slice none 0 0] 28 (0, 0))
  box : wr.heap[w.heap.size + 1]? = some (.cells #[c, .int .i64 ((flen gs : Nat) : Int), wv] 28 (0, 0))
  lg : Own (Shp.list 56 SWr) (w.heap.size + 2) wr [c] (wsegs 0 gs)
  wt : RdSec wr wv []
  all : OwnR w wr o gs.flatten
  bel : Below w.heap.size w wr
  ls : Lst limit gs
theorem LInv.to {w wr u : World} {limit : Int} {o c wv : Value} {gs : List (List (List UInt8))} (h : LInv w wr limit o c wv gs) (hb : Below wr.heap.size wr u) : LInv w u limit o c wv gs :=
  ⟨(hb.block _ (lt_of_block h.ans)).trans h.ans, (hb.block _ (lt_of_block h.box)).trans h.box, h.lg.to hb, rd_none _ h.wt, h.all.to hb, h.bel.trans (hb.mono h.bel.size), h.ls⟩
theorem below_of3 {B g : Nat} {w u : World} (h : Below B w u) (hg : B ≤ g) (x y z : Value) : Below B w (S3 g u x y z) := below_set3 h hg x y z
theorem s3_block {g b : Nat} {u : World} (hne : b ≠ g) (x y z : Value) : (S3 g u x y z).heap[b]? = u.heap[b]? := by
  show (((u.setCell ⟨g, 0, none⟩ x).setCell ⟨g, 1, none⟩ y).setCell ⟨g, 2, none⟩ z).heap[b]? = _
  rw [Below.heap_setCell _ _ _ _ hne, Below.heap_setCell _ _ _ _ hne, Below.heap_setCell _ _ _ _ hne]

set_option maxRecDepth 100000 in
set_option maxHeartbeats 4000000 in
theorem laid_any (S : WalSay) (w : World) (bv : Value) (bs : List (List (List UInt8))) (limit : Int) (h : RdS SSec w bv bs) (hl : 1 ≤ limit ∧ limit ≤ 300) (hbl : ∀ b ∈ bs, b.length ≤ 10000000000000) :
    Calls Try.prog 29 #[bv, .int .i64 limit] w fun e w' => ∃ (sv wv rv : Value) (gs : List (List (List UInt8))), e = .returned (.tuple #[.agg #[sv, .int .i64 ((flen gs : Nat) : Int), wv], rv, .bool true]) ∧ Lst limit gs ∧ Own (Shp.list 56 SWr) w.heap.size w' [sv] (wsegs 0 gs) ∧ RdSec w' wv [] ∧ OwnR w w' rv gs.flatten ∧ Below w.heap.size w w' := by
  have lb := h.bd
  obtain ⟨a, c, rfl⟩ := h.slice
  obtain ⟨W, hW, hA, hZ, bW, sW⟩ := boxes3 w (.slice none 0 0) (.int .i64 0) (.slice none 0 0) 28
  have st0 : Hid (LInv w W limit (.slice none 0 0) (.slice none 0 0) (.slice none 0 0) []) := ⟨hA, hZ, Own.nil _ _ _ _, RdS.nil _ _, OwnR.nil _ _, bW, Lst.nil _⟩
  have HH := hide h
  have HBL := hide hbl
  obtain ⟨hl1, hl2⟩ := hl
  clear hA hZ bW sW h hbl
  go_enter Try.func29, Try.ntmps29
  go_wp2
  rw [← hW]
  replace hW := hide hW
  go_loopw [8, 9] (fun o i wr => ∃ (k : Nat) (c wv : Value) (gs : List (List (List UInt8))), k ≤ bs.length ∧ k ≤ 30 ∧ i = .int .i64 k ∧ Hid (LInv w wr limit o c wv gs)) (fun _ i _ => 30 - (intOf i).toNat)
  case atStart => exact ⟨0, _, _, _, Nat.zero_le _, Nat.zero_le _, rfl, st0⟩
  case round =>
    obtain ⟨k, cv, wv, gs, hk, hk3, rfl, hI⟩ := hrel
    clear st0
    have LI := hI.out
    obtain ⟨oa, oc, hou⟩ := (LI.all.rd LI.bel).slice
    obtain ⟨N, hN⟩ : ∃ N, N = flen gs := ⟨_, rfl⟩
    have hN4 : N ≤ 4000 := by rw [hN]; exact LI.ls.fl
    obtain ⟨ca, cc, hcv⟩ := LI.lg.rdS.slice
    obtain ⟨wa, wc0, hwv⟩ := LI.wt.slice
    obtain ⟨G, hG⟩ : ∃ G, G = gs.length := ⟨_, rfl⟩
    rw [show gs.flatten.length = flen gs from rfl, ← hN] at hou
    rw [wsegs_len, ← hG] at hcv
    simp only [List.length_nil] at hwv
    subst hou hcv hwv
    have hG4 : G ≤ 4000 := by rw [hG]; exact LI.ls.len
    replace hG := hide hG
    have hsz1 : w.heap.size + 1 < wr.heap.size := lt_of_block LI.box
    have hbox := LI.box
    have hans := LI.ans
    rw [← hN] at hbox
    obtain ⟨⟨T0, T1, T2⟩, tf⟩ := cells3 hbox
    obtain ⟨⟨z0, z1, z2⟩, zf⟩ := cells3 hans
    have y0 := zf 0
    have y1 := zf 1
    have y2 := zf 2
    have FINE : Hid (∀ x y z, Own (Shp.list 56 SWr) w.heap.size (S3 w.heap.size wr x y z) [.slice ca G cc] (wsegs 0 gs) ∧ RdSec (S3 w.heap.size wr x y z) (.slice wa 0 wc0) [] ∧ OwnR w (S3 w.heap.size wr x y z) (.slice oa N oc) gs.flatten ∧ Below w.heap.size w (S3 w.heap.size wr x y z)) := fun x y z =>
      ⟨(((hI.out.lg.set (a := ⟨w.heap.size, 0, none⟩) (show w.heap.size < w.heap.size + 2 by omega) x).set (a := ⟨w.heap.size, 1, none⟩) (show w.heap.size < w.heap.size + 2 by omega) y).set (a := ⟨w.heap.size, 2, none⟩) (show w.heap.size < w.heap.size + 2 by omega) z).mono (by omega), rd_none _ hI.out.wt, hI.out.all.keepT (by
        intro b cur fr hb
        rw [s3_block (fun e => by
          rw [e, hans] at hb
          simp only [Option.some.injEq, Obj.cells.injEq] at hb
          exact absurd hb.2.1 (by decide)) x y z]
        exact hb), below_of3 hI.out.bel (Nat.le_refl _) x y z⟩
    have hE : Hid (((flen gs : Nat) : Int) = (N : Int)) := by show _ = _; rw [hN]
    have hLs := hide LI.ls
    replace hN := hide hN
    clear LI tf zf
    by_cases hlt : k < bs.length
    · have hq : (k : Int) < (bs.length : Int) := by omega
      by_cases h30 : k < 30
      · have hq3 : (k : Int) < 30 := by omega
        obtain ⟨b, hb, hbm⟩ := some_at bs hlt
        have hbl := HBL.out b hbm
        obtain ⟨bb, ob, u, e1, hcu, ⟨u', eu, ru⟩⟩ := RdS.at1 (s := SSec) rfl HH.out hb
        simp only [List.cons.injEq, and_true] at eu
        subst eu
        subst e1
        have hcw := (hI.out.bel.cell (cell_lt hcu)).trans hcu
        obtain ⟨ua, uc, hu⟩ := ru.slice
        obtain ⟨L, hL⟩ : ∃ L, L = b.length := ⟨_, rfl⟩
        rw [← hL] at hu hbl
        subst hu
        have RU := hide ru
        replace hL := hide hL
        clear ru hb hbm
        by_cases hbig : 4000 < N + L
        · have hqb : (4000 : Int) < (N : Int) + (L : Int) := by omega
          replace hbig := hide hbig
          clear hcu
          go_wp2
          refine retNTT rfl rfl w.heap.size rfl _ _ (0, 0) (heap_set3 (u := wr) hans _ _ _) _ Try.underlying28 rfl info_lgP _ rfl _ rfl ?_
          exact ⟨_, _, _, gs, by rw [hE.out]; rfl, hLs.out, FINE.out _ _ _⟩
        · have hqb : ¬ (4000 : Int) < (N : Int) + (L : Int) := by omega
          have hnb : Hid (gs.flatten.length + b.length ≤ 4000) := by show flen gs + _ ≤ _; rw [← hN.out, ← hL.out]; omega
          have HS : Hid (∀ w9, Below wr.heap.size wr w9 → w9.cell? ⟨w.heap.size + 1, 0, none⟩ = some (.slice ca G cc) ∧ w9.cell? ⟨w.heap.size + 1, 1, none⟩ = some (.int .i64 (N : Int)) ∧ w9.cell? ⟨w.heap.size + 1, 2, none⟩ = some (.slice wa 0 wc0) ∧ w9.cell? ⟨bb, ob + k, none⟩ = some (.slice ua L uc)) := fun w9 b9 =>
            ⟨(b9.cell (cell_lt T0)).trans T0, (b9.cell (cell_lt T1)).trans T1, (b9.cell (cell_lt T2)).trans T2, (b9.cell (cell_lt hcw)).trans hcw⟩
          have KA := hide (fun w9 (b9 : Below wr.heap.size wr w9) => S.appendS w9 _ _ _ (wsegs 0 gs, ((flen gs : Nat) : Int), []) b (hI.out.lg.rdS.to0 b9) (rd_none _ hI.out.wt) (RU.out.to0 (hI.out.bel.trans (b9.mono hI.out.bel.size))) (hLs.out.short (by omega)) (by rw [← hL.out]; exact hbl))
          obtain ⟨AP, hAP⟩ : ∃ AP, AP = wappend (wsegs 0 gs, ((flen gs : Nat) : Int), []) b := ⟨_, rfl⟩
          rw [← hAP] at KA
          dsimp only at KA
          rw [← hN.out] at KA
          replace hbig := hide hbig
          replace hAP := hide hAP
          go_upto_region 7 with fail
          go_cut [10, 11] from 33 to 41 (fun pp ee wx => ∃ (g9 : Nat) (s9 w9 : Value), pp = .pointer (some ⟨g9, 0, none⟩) ∧ ee = .int .i64 AP.2 ∧ Hid (wr.heap.size ≤ g9 ∧ wx.heap[g9]? = some (.cells #[s9, .int .i64 AP.1.2.1, w9] 28 (0, 0)) ∧ LgF 56 wr.heap.size wx s9 w9 AP.1 ∧ Below wr.heap.size wr wx))
          case first =>
            have b0 : Below wr.heap.size wr wr.drew := (Below.refl _ _).drew
            clear T0 T1 T2 z0 z1 z2 y0 y1 y2 hcu hcw FINE hbox hans
            refine wp_region_fan (fun w9 => w9.cell? ⟨w.heap.size + 1, 0, none⟩ = some (.slice ca G cc) ∧ w9.cell? ⟨w.heap.size + 1, 1, none⟩ = some (.int .i64 (N : Int)) ∧ w9.cell? ⟨w.heap.size + 1, 2, none⟩ = some (.slice wa 0 wc0) ∧ w9.cell? ⟨bb, ob + k, none⟩ = some (.slice ua L uc)) 11 mixed (by simp) ?_
            generalize wr.drew = c0 at *
            refine fan_take (i := 0) (v := ?_) rfl (by kernel_rfl) (fun _ _ _ _ h => h) (by kernel_rfl) (HS.out _ b0) ?_ ?_
            rotate_left
            · rintro w9 ⟨t0, t1, t2, t3⟩
              go_simp
              try with_reducible rfl
            try simp only [Act.put, List.setIfInBounds_toArray, List.set_cons_zero, List.set_cons_succ]
            refine fan_take (i := 1) (v := ?_) rfl (by kernel_rfl) (fun _ _ _ _ h => h) (by kernel_rfl) (HS.out _ b0) ?_ ?_
            rotate_left
            · rintro w9 ⟨t0, t1, t2, t3⟩
              go_simp
              try with_reducible rfl
            try simp only [Act.put, List.setIfInBounds_toArray, List.set_cons_zero, List.set_cons_succ]
            refine fan_take (i := 2) (v := ?_) rfl (by kernel_rfl) (fun _ _ _ _ h => h) (by kernel_rfl) (HS.out _ b0) ?_ ?_
            rotate_left
            · rintro w9 ⟨t0, t1, t2, t3⟩
              go_simp
              try with_reducible rfl
            try simp only [Act.put, List.setIfInBounds_toArray, List.set_cons_zero, List.set_cons_succ]
            refine fan_take (i := 3) (v := ?_) rfl (by kernel_rfl) (fun _ _ _ _ h => h) (by kernel_rfl) (HS.out _ b0) ?_ ?_
            rotate_left
            · rintro w9 ⟨t0, t1, t2, t3⟩
              go_simp
              try with_reducible rfl
            try simp only [Act.put, List.setIfInBounds_toArray, List.set_cons_zero, List.set_cons_succ]
            refine fan_take (i := 4) (v := ?_) rfl (by kernel_rfl) (fun _ _ _ _ h => h) (by kernel_rfl) (HS.out _ b0) ?_ ?_
            rotate_left
            · rintro w9 ⟨t0, t1, t2, t3⟩
              go_simp
              try with_reducible rfl
            try simp only [Act.put, List.setIfInBounds_toArray, List.set_cons_zero, List.set_cons_succ]
            refine fan_two 5 9 (by kernel_rfl) ?_ ?_
            · refine fan_step rfl (by kernel_rfl) fun K hK => ?_
              refine wp_call_of 11 _ _ (by rfl) #[.agg #[.slice ca G cc, .int .i64 (N : Int), .slice wa 0 wc0], .slice ua L uc] (by simp [Act.eval]) (Try.call11 _ _) (KA.out _ b0) ?_
              rintro e d1 ⟨s9, w9, rfl, o9, b9⟩
              have b1 := b0.trans (b9.mono b0.size)
              refine ⟨_, rfl, hK _ _ (HS.out _ b1) ?_⟩
              clear hK K
              obtain ⟨sa, sc, hs9⟩ := o9.rd3.1.slice
              obtain ⟨va, vc, hw9⟩ := o9.rd3.2.slice
              obtain ⟨SL, hSL⟩ : ∃ SL, SL = AP.1.1.length := ⟨_, rfl⟩
              obtain ⟨VL, hVL⟩ : ∃ VL, VL = AP.1.2.2.length := ⟨_, rfl⟩
              rw [← hSL] at hs9
              rw [← hVL] at hw9
              replace hSL := hide hSL
              replace hVL := hide hVL
              subst hs9 hw9
              try simp only [Act.put, List.setIfInBounds_toArray, List.set_cons_zero, List.set_cons_succ]
              refine fan_take (i := 6) (v := ?_) rfl (by kernel_rfl) (fun _ _ _ _ h => h) (by kernel_rfl) (HS.out _ b1) ?_ ?_
              rotate_left
              · rintro w9 ⟨t0, t1, t2, t3⟩
                go_simp
                try with_reducible rfl
              try simp only [Act.put, List.setIfInBounds_toArray, List.set_cons_zero, List.set_cons_succ]
              refine fan_take (i := 7) (v := ?_) rfl (by kernel_rfl) (fun _ _ _ _ h => h) (by kernel_rfl) (HS.out _ b1) ?_ ?_
              rotate_left
              · rintro w9 ⟨t0, t1, t2, t3⟩
                go_simp
                try with_reducible rfl
              try simp only [Act.put, List.setIfInBounds_toArray, List.set_cons_zero, List.set_cons_succ]
              refine fan_take (i := 8) (v := ?_) rfl (by kernel_rfl) (fun _ _ _ _ h => h) (by kernel_rfl) (HS.out _ b1) ?_ ?_
              rotate_left
              · rintro w9 ⟨t0, t1, t2, t3⟩
                go_simp
                try with_reducible rfl
              try simp only [Act.put, List.setIfInBounds_toArray, List.set_cons_zero, List.set_cons_succ]
              refine fan_one 9 (by kernel_rfl) ?_
              refine fan_step rfl (by kernel_rfl) fun K hK => ?_
              go_simp
              obtain ⟨d2, hc, h9, bc, sc2⟩ := boxedN d1 #[.slice none 0 0, .int .i64 0, .slice none 0 0] 28
              rw [← hc]
              have b2 := b1.trans (bc.mono b1.size)
              obtain ⟨g9, hg9⟩ : ∃ g, g = d1.heap.size := ⟨_, rfl⟩
              rw [← hg9] at h9
              rw [← hg9]
              have l9 : wr.heap.size ≤ g9 := by have := b1.size; omega
              have LG9 : Hid (∀ x y z, LgF 56 wr.heap.size (S3 g9 d2 x y z) (.slice sa SL sc) (.slice va VL vc) AP.1) := fun x y z => (o9.mono b0.size).keepB fun b _ hb' => by
                rw [s3_block (fun e => by omega) x y z]; exact bc.block b hb'
              refine hK _ _ (HS.out _ b2) ?_
              clear hK K hc bc sc2 hg9 o9 b9
              try simp only [Act.put, List.setIfInBounds_toArray, List.set_cons_zero, List.set_cons_succ]
              obtain ⟨⟨y0, y1, y2⟩, yf⟩ := cells3 h9
              have f0 := yf 0
              have f1 := yf 1
              have f2 := yf 2
              refine fan_one 10 (by kernel_rfl) ?_
              refine fan_step rfl (by kernel_rfl) fun K hK => ?_
              go_simp
              refine hK _ _ (HS.out _ (below_of3 b2 l9 _ _ _)) ?_
              clear hK K
              try simp only [Act.put, List.setIfInBounds_toArray, List.set_cons_zero, List.set_cons_succ]
              refine fan_done (by kernel_rfl) ?_
              show wpList _ _ _ _ _ _
              have FN : Hid (∀ x y z, wr.heap.size ≤ g9 ∧ (S3 g9 d2 x y z).heap[g9]? = some (.cells #[x, y, z] 28 (0, 0)) ∧ LgF 56 wr.heap.size (S3 g9 d2 x y z) (.slice sa SL sc) (.slice va VL vc) AP.1 ∧ Below wr.heap.size wr (S3 g9 d2 x y z)) := fun x y z => ⟨l9, heap_set3 h9 _ _ _, LG9.out x y z, below_of3 b2 l9 _ _ _⟩
              clear LG9 h9 b2 yf b1
              dsimp only [List.drop]
              go_wp2_with fail
              go_meet
              exact ⟨g9, _, _, rfl, rfl, FN.out _ _ _⟩
            · refine fan_step rfl (by kernel_rfl) fun K hK => ?_
              go_simp
              obtain ⟨d1, hc, h9, bc, sc2⟩ := boxedN c0 #[.slice none 0 0, .int .i64 0, .slice none 0 0] 28
              rw [← hc]
              have b1 := b0.trans (bc.mono b0.size)
              obtain ⟨g9, hg9⟩ : ∃ g, g = c0.heap.size := ⟨_, rfl⟩
              rw [← hg9] at h9
              rw [← hg9]
              have l9 : wr.heap.size ≤ g9 := by have := b0.size; omega
              have s9' : g9 < d1.heap.size := lt_of_block h9
              refine hK _ _ (HS.out _ b1) ?_
              clear hK K hc bc sc2 hg9
              try simp only [Act.put, List.setIfInBounds_toArray, List.set_cons_zero, List.set_cons_succ]
              refine fan_one 5 (by kernel_rfl) ?_
              refine fan_step rfl (by kernel_rfl) fun K hK => ?_
              refine wp_call_of 11 _ _ (by rfl) #[.agg #[.slice ca G cc, .int .i64 (N : Int), .slice wa 0 wc0], .slice ua L uc] (by simp [Act.eval]) (Try.call11 _ _) (KA.out _ b1) ?_
              rintro e d2 ⟨s9, w9, rfl, o9, b9⟩
              have b2 := b1.trans (b9.mono b1.size)
              replace h9 := (b9.block _ (lt_of_block h9)).trans h9
              refine ⟨_, rfl, hK _ _ (HS.out _ b2) ?_⟩
              clear hK K
              obtain ⟨sa, sc, hs9⟩ := o9.rd3.1.slice
              obtain ⟨va, vc, hw9⟩ := o9.rd3.2.slice
              obtain ⟨SL, hSL⟩ : ∃ SL, SL = AP.1.1.length := ⟨_, rfl⟩
              obtain ⟨VL, hVL⟩ : ∃ VL, VL = AP.1.2.2.length := ⟨_, rfl⟩
              rw [← hSL] at hs9
              rw [← hVL] at hw9
              replace hSL := hide hSL
              replace hVL := hide hVL
              subst hs9 hw9
              have LG9 : Hid (∀ x y z, LgF 56 wr.heap.size (S3 g9 d2 x y z) (.slice sa SL sc) (.slice va VL vc) AP.1) := fun x y z => (o9.set3 s9' x y z).mono b1.size
              try simp only [Act.put, List.setIfInBounds_toArray, List.set_cons_zero, List.set_cons_succ]
              refine fan_take (i := 6) (v := ?_) rfl (by kernel_rfl) (fun _ _ _ _ h => h) (by kernel_rfl) (HS.out _ b2) ?_ ?_
              rotate_left
              · rintro w9 ⟨t0, t1, t2, t3⟩
                go_simp
                try with_reducible rfl
              try simp only [Act.put, List.setIfInBounds_toArray, List.set_cons_zero, List.set_cons_succ]
              refine fan_take (i := 7) (v := ?_) rfl (by kernel_rfl) (fun _ _ _ _ h => h) (by kernel_rfl) (HS.out _ b2) ?_ ?_
              rotate_left
              · rintro w9 ⟨t0, t1, t2, t3⟩
                go_simp
                try with_reducible rfl
              try simp only [Act.put, List.setIfInBounds_toArray, List.set_cons_zero, List.set_cons_succ]
              refine fan_take (i := 8) (v := ?_) rfl (by kernel_rfl) (fun _ _ _ _ h => h) (by kernel_rfl) (HS.out _ b2) ?_ ?_
              rotate_left
              · rintro w9 ⟨t0, t1, t2, t3⟩
                go_simp
                try with_reducible rfl
              try simp only [Act.put, List.setIfInBounds_toArray, List.set_cons_zero, List.set_cons_succ]
              obtain ⟨⟨y0, y1, y2⟩, yf⟩ := cells3 h9
              have f0 := yf 0
              have f1 := yf 1
              have f2 := yf 2
              refine fan_one 10 (by kernel_rfl) ?_
              refine fan_step rfl (by kernel_rfl) fun K hK => ?_
              go_simp
              refine hK _ _ (HS.out _ (below_of3 b2 l9 _ _ _)) ?_
              clear hK K
              try simp only [Act.put, List.setIfInBounds_toArray, List.set_cons_zero, List.set_cons_succ]
              refine fan_done (by kernel_rfl) ?_
              show wpList _ _ _ _ _ _
              have FN : Hid (∀ x y z, wr.heap.size ≤ g9 ∧ (S3 g9 d2 x y z).heap[g9]? = some (.cells #[x, y, z] 28 (0, 0)) ∧ LgF 56 wr.heap.size (S3 g9 d2 x y z) (.slice sa SL sc) (.slice va VL vc) AP.1 ∧ Below wr.heap.size wr (S3 g9 d2 x y z)) := fun x y z => ⟨l9, heap_set3 h9 _ _ _, LG9.out x y z, below_of3 b2 l9 _ _ _⟩
              clear LG9 h9 b2 yf b1 o9 b9
              dsimp only [List.drop]
              go_wp2_with fail
              go_meet
              exact ⟨g9, _, _, rfl, rfl, FN.out _ _ _⟩
          case rest =>
          obtain ⟨g9, s9, w9, rfl, rfl, HC⟩ := hcut
          obtain ⟨U, hU⟩ : ∃ U, U = wc := ⟨_, rfl⟩
          rw [← hU] at HC ⊢
          replace hU := hide hU
          clear KA HS T0 T1 T2 z0 z1 z2 y0 y1 y2 hcw hbox hans
          obtain ⟨l9, x9, o9, b9⟩ := HC.out
          by_cases hwo : wwaitOk b
          · have hA0 : Hid (AP = ((wsegs 0 gs, ((flen gs : Nat) : Int), b), 0)) := hAP.out.trans (hLs.out.app hnb.out hwo)
            rw [hA0.out] at x9 o9 ⊢
            dsimp only at x9
            dsimp only
            obtain ⟨sa, sc, hs9⟩ := o9.rd3.1.slice
            obtain ⟨va, vc, hw9⟩ := o9.rd3.2.slice
            dsimp only at hs9 hw9
            rw [wsegs_len, ← hG.out] at hs9
            rw [← hL.out] at hw9
            rw [← hN.out] at x9
            subst hs9 hw9
            obtain ⟨⟨T0, T1, T2⟩, _⟩ := cells3 x9
            have KF := hide (S.flushS U _ _ (wsegs 0 gs, ((flen gs : Nat) : Int), b) limit o9.rd3.1 o9.rd3.2 (hLs.out.short (by omega)))
            rw [show wflush (wsegs 0 gs, ((flen gs : Nat) : Int), b) limit = ((wsegs 0 (b.foldl (gput limit) gs), ((flen (b.foldl (gput limit) gs) : Nat) : Int), []), 0) from hLs.out.flu ⟨hl1, by omega⟩ hnb.out hwo] at KF
            dsimp only at KF
            rw [← hN.out] at KF
            have LIU := hide (hI.out.to b9)
            have LS2 := hide (hLs.out.put hl1 hwo hnb.out)
            have hfl2 : Hid ((b.foldl (gput limit) gs).flatten = gs.flatten ++ b) := gfold_flat limit b gs
            obtain ⟨gs2, hgs2⟩ : ∃ gs2, gs2 = b.foldl (gput limit) gs := ⟨_, rfl⟩
            rw [← hgs2] at KF LS2 hfl2
            replace hgs2 := hide hgs2
            obtain ⟨N2, hN2⟩ : ∃ N2, N2 = flen gs2 := ⟨_, rfl⟩
            rw [← hN2] at KF
            replace hN2 := hide hN2
            have hl9 := lt_of_block x9
            replace hwo := hide hwo
            clear o9 b9 HC
            go_wp2_with fail
            refine (num8_any _ _).mono ?_
            rintro e w' ⟨rfl, rfl⟩
            go_wp2_with fail
            refine KF.out.mono ?_
            rintro e w6 ⟨s6, v6, rfl, o6, b6⟩
            clear KF T0 T1 T2
            obtain ⟨fa, fc, hs6⟩ := o6.rd3.1.slice
            obtain ⟨ga, gc, hv6⟩ := o6.rd3.2.slice
            obtain ⟨G2, hG2⟩ : ∃ G2, G2 = gs2.length := ⟨_, rfl⟩
            dsimp only at hs6 hv6
            rw [wsegs_len, ← hG2] at hs6
            simp only [List.length_nil] at hv6
            replace hG2 := hide hG2
            subst hs6 hv6
            obtain ⟨X, hX, X0, bX, sX⟩ := boxedN w6 #[.slice fa G2 fc, .int .i64 (N2 : Int), .slice ga 0 gc] 28
            obtain ⟨⟨T0, T1, T2⟩, _⟩ := cells3 X0
            have c6 := b6.trans (bX.mono b6.size)
            have LIX := hide (LIU.out.to c6)
            have O6 := hide (o6.to bX)
            have hUs : w.heap.size + 2 ≤ U.heap.size := by have := lt_of_block LIU.out.box; omega
            clear o6 b6 bX X0 LIU
            rw [hX] at T0 T1 T2
            go_wp2_with fail
            rw [← hX]
            rw [← hX] at T0 T1 T2
            replace hX := hide hX
            refine (num8_any _ _).mono ?_
            rintro e w' ⟨rfl, rfl⟩
            have hbX := LIX.out.box
            obtain ⟨⟨p0, p1, p2⟩, pf⟩ := cells3 hbX
            have q0 := pf 0
            have q1 := pf 1
            have q2 := pf 2
            obtain ⟨V, hV⟩ : ∃ V, V = S3 (w.heap.size + 1) X (.slice fa G2 fc) (.int .i64 (N2 : Int)) (.slice ga 0 gc) := ⟨_, rfl⟩
            have LV : Hid ((V.heap[w.heap.size]? = some (.cells #[.slice none 0 0, .int .i64 0, .slice none 0 0] 28 (0, 0)) ∧ V.heap[w.heap.size + 1]? = some (.cells #[.slice fa G2 fc, .int .i64 (N2 : Int), .slice ga 0 gc] 28 (0, 0))) ∧ (Own (Shp.list 56 SWr) (w.heap.size + 2) V [.slice fa G2 fc] (wsegs 0 gs2) ∧ RdSec V (.slice ga 0 gc) []) ∧ OwnR w V (.slice oa N oc) gs.flatten ∧ Below w.heap.size w V) := by
              rw [hV]
              refine ⟨⟨(s3_block (by omega) _ _ _).trans LIX.out.ans, heap_set3 hbX _ _ _⟩, ?_, ?_, below_of3 LIX.out.bel (by omega) _ _ _⟩
              · exact ⟨((O6.out.set3 (by omega) _ _ _).mono hUs).1, rd_none _ O6.out.rd3.2⟩
              · refine LIX.out.all.keepT fun b' cur fr hb' => ?_
                rw [s3_block (fun e => by
                  rw [e, hbX] at hb'
                  simp only [Option.some.injEq, Obj.cells.injEq] at hb'
                  exact absurd hb'.2.1 (by decide)) _ _ _]
                exact hb'
            have hcV := (LV.out.2.2.2.cell (cell_lt hcu)).trans hcu
            have OR1 := hide LV.out.2.2.1
            have BV := hide LV.out.2.2.2
            have hln : (gs.flatten.length + b.length) * 24 ≤ 140737488355328 := by have := hnb.out; omega
            have FINV : Hid (∀ (v7 : Value) (w7 : World), OwnR w w7 v7 (gs.flatten ++ b) → Below w.heap.size V w7 → (∀ e, e ≠ 54 → KeepT e V w7) → Hid (LInv w w7 limit v7 (.slice fa G2 fc) (.slice ga 0 gc) gs2)) := fun v7 w7 o7 b7 k7 =>
              ⟨k7 _ (by decide) _ _ _ LV.out.1.1, by rw [← hN2.out]; exact k7 _ (by decide) _ _ _ LV.out.1.2, LV.out.2.1.1.keepT (k7 _ (by decide)) (k7 _ (by decide)), rd_none _ LV.out.2.1.2, by rw [hfl2.out]; exact o7, LV.out.2.2.2.trans b7, LS2.out⟩
            have RU' := RU
            clear LV LIX O6 pf hbX
            have hV' : V = ((X.setCell ⟨w.heap.size + 1, 0, none⟩ (.slice fa G2 fc)).setCell ⟨w.heap.size + 1, 1, none⟩ (.int .i64 (N2 : Int))).setCell ⟨w.heap.size + 1, 2, none⟩ (.slice ga 0 gc) := hV
            replace hV := hide hV
            go_upto_region 13 with fail
            rw [← hV']
            replace hV' := hide hV'
            clear T0 T1 T2 p0 p1 p2 q0 q1 q2
            go_wp2_with (at_builtin; refine wpList_append_read rfl _ _ rfl _ _ _ _ rfl rfl OR1.out RU'.out BV.out hln ?_; intro v7 w7 o7 b7 k7; have FV := FINV.out v7 w7 o7 b7 k7; clear o7 b7 k7)
            go_roundw
            case rel => exact ⟨k + 1, _, _, gs2, by omega, by omega, by go_num, FV⟩
            case measure => simp [intOf]; omega
          · have hA0 : Hid (AP = (wzero, 5)) := hAP.out.trans (hLs.out.apx hwo)
            rw [hA0.out] at x9 o9 ⊢
            dsimp only
            have LIU := hide (hI.out.to b9)
            replace hwo := hide hwo
            clear x9 o9 b9 HC
            go_wp2_with fail
            refine (num8_any _ _).mono ?_
            rintro e w' ⟨rfl, rfl⟩
            go_wp2
            go_roundw
            case rel => exact ⟨k + 1, _, _, gs, by omega, by omega, by go_num, LIU⟩
            case measure => simp [intOf]; omega
      · have hq3 : ¬ (k : Int) < 30 := by omega
        go_wp2
        refine retNTT rfl rfl w.heap.size rfl _ _ (0, 0) (heap_set3 (u := wr) hans _ _ _) _ Try.underlying28 rfl info_lgP _ rfl _ rfl ?_
        exact ⟨_, _, _, gs, by rw [hE.out]; rfl, hLs.out, FINE.out _ _ _⟩
    · have hq : ¬ (k : Int) < (bs.length : Int) := by omega
      go_wp2
      refine retNTT rfl rfl w.heap.size rfl _ _ (0, 0) (heap_set3 (u := wr) hans _ _ _) _ Try.underlying28 rfl info_lgP _ rfl _ rfl ?_
      exact ⟨_, _, _, gs, by rw [hE.out]; rfl, hLs.out, FINE.out _ _ _⟩

end Go.Proofs.Ytibkanmboglcgaa
