/- Several texts in one: App Shp Cpy DMath CMath CFlip SMath PgMath PgRMath DSec Step DRenew RCop RMid Tail DOwnR DCheckR DPutR DCheckP DPutP Sub DLand DCrashP DTMath DGetR DHMath OwnI PgAMath EMath ECheckR ESame EWithoutR UMath UD Bx Grow RefPut CStep CTab CExt AppZ Conv PgEncR BEq PgPA RHand DRes DGetP FMath FLay WMath WLaid WBack WKeep WWhole WPMath FList WBase FRef FRefO FRefS WWholeR WCheckR WOwnR WPA WAppR WRcsR WSeg Keep RowW. -/
import Derived.Test.YtjjicajodjophaaGoLUFind0
import Derived.Deep.AppendLies
import Derived.Deep.WholeRow
import Derived.Laws.CopyOwn
import Derived.Laws.BitsAllLaws
import Derived.Deep.RegionLaw
import Derived.StillTail
import Derived.OrdersHeld
import Derived.StillTailTactics
import Derived.Shelf.Abstract
import Derived.Laws.AppendOwnNone
import Derived.BigQuiet
import Derived.Lib.AppendZeros
import Derived.Laws.IdiomStrings
import Derived.ArgAppend
import Derived.Test.YtjjicajodjophaaChecked
import Derived.BigRegion
import Derived.Laws.ResultCell
import Derived.Great.Walk
import Derived.Lib.AppendZerosOnto
import Derived.Lib.UnsafeStr
import Derived.Lib.SliceRun
import Derived.Lib.AppendStr
import Derived.RangeFuncNested
import Derived.RangeFuncCalls
import Derived.Laws.Rows
import Derived.RangeFuncBox
import Derived.RangeFuncBound
import Derived.RangeFuncLeaves
import Derived.Shelf.RegionOpen
import Derived.OwnWalkIn
import Derived.TacticsInMore
import Derived.LoopNIn
import Derived.LoopIn
import Derived.Deep.RegionWith
set_option linter.unusedVariables false
set_option linter.unusedSimpArgs false
namespace Go.Proofs.Ytjjicajodjophaa
open Go.RowKit
theorem OwnB.from {B : Nat} {w : World} {v : Value} {xs : List UInt8} (h : OwnB B w v xs) : ∀ k, v.ownBlock = some k → B ≤ k := by
 intro k hk
 rcases h.2 with ⟨rfl, _⟩ | ⟨g, cap, cur, rfl, hb, _⟩
 ·cases hk
 ·simp only [Value.ownBlock, Option.some.injEq] at hk
  omega
theorem wpList_append_octs {ops : Array Oper} {rest : List Oper} {o : Oper} {a : Act} {w : World} {Q : Exit → Act → World → Prop} (hgd : o.guard = none) (s x : Operand)
  (ho : o.op = .call { callee := .builtin .append, args := #[s, x], argTypes := #[62, 62] }) (B : Nat) (v v2 : Value) (xs ys : List UInt8) (hs : a.eval s = v) (hx : a.eval x = v2)
  (hown : OwnB B w v xs) (hrd : Rd w v2 ys) (hlen : xs.length + ys.length ≤ 140737488355328) (hB : B ≤ w.heap.size)
  (h : ∀ v' w', OwnB B w' v' (xs ++ ys) → Below B w w' → w.grownBy w' v.ownBlock → wpList Try.prog ops Q rest (a.put o.dst v') w') : wpList Try.prog ops Q (o :: rest) a w := by
 obtain ⟨i0, hi, hz0, hz1, hz2⟩ := info_parts info8
 obtain ⟨ao, c, rfl, l1, m1, n1, r1⟩ := hrd
 cases ao with
 | none =>
  have : ys = [] := by
   rcases r1 with r1 | ⟨b, off, h, _⟩
   ·exact r1
   ·cases h
  subst this
  obtain rfl : c = 0 := n1 rfl
  refine wpList_append_own_none hgd s x 62 ho B 5 i0 1 Try.underlying62 hi v xs.length (xs.map enc) hs hown hx ?_
  exact h v w (by simpa using hown) (Below.refl _ _) (World.grownBy.refl _ _)
 | some ad =>
  have e1 : (ys.map enc).length = ys.length * 1 := by simp
  have e2 : ∀ j u, (ys.map enc)[j]? = some u → w.cell? (ad.add j) = some u := by
   rcases r1 with rfl | ⟨b, off, h, hc⟩
   ·intro j u hj; simp at hj
   ·obtain rfl : ad = ⟨b, off, none⟩ := by simpa using h
    exact news_octs hc
  refine wpList_append_own _ hgd s x 62 ho B 5 i0 (.int .u8 0) 1 1 Try.underlying62 hi hz0 hz1 hz2 rfl (by decide) v xs.length (xs.map enc) hs hown ad ys.length c (ys.map enc) hx e1 e2 (enc_one ys)
   (by rw [show maxLen = 9223372036854775807 from rfl]; omega) (by omega) hB ?_
  intro v' w' h1 h2 _
  refine h v' w' ?_ ((Below.refl _ _).grown h2 hB hown.from) h2
  unfold OwnB
  simpa using h1
end Go.Proofs.Ytjjicajodjophaa

namespace Go.Proofs.Ytjjicajodjophaa
open Go.RowKit
structure Shp (α : Type) where
 n : Nat
 rd : World → List Value → α → Prop
 own : List Nat → World → List Value → α → Prop
 rd_n : ∀ {w cs x}, rd w cs x → cs.length = n
 rd_to : ∀ {w w' : World} {cs x}, rd w cs x → (∀ b, b < w.heap.size → w'.heap[b]? = w.heap[b]?) → rd w' cs x
 rd_one : ∀ {w cs x}, rd w cs x → ∀ u ∈ cs, u.oneCell' = true
 own_rd : ∀ {F w cs x}, own F w cs x → rd w cs x
 own_to : ∀ {F} {w w' : World} {cs x}, own F w cs x → (∀ b, b ∈ F → w'.heap[b]? = w.heap[b]?) → own F w' cs x
 own_lt : ∀ {F w cs x}, own F w cs x → ∀ b, b ∈ F → b < w.heap.size
def Own {α : Type} (s : Shp α) (B : Nat) (w : World) (cs : List Value) (x : α) : Prop := ∃ F, s.own F w cs x ∧ F.Nodup ∧ ∀ b, b ∈ F → B ≤ b
theorem boxed2 (w : World) (x y : Value) (t : TypeId) : ∃ u, u = w.alloc (.cells #[x, y] t) ∧ u.cell? ⟨w.heap.size, 0, none⟩ = some x ∧ u.cell? ⟨w.heap.size, 1, none⟩ = some y ∧ Below w.heap.size w u ∧ u.heap.size = w.heap.size + 1 := by
 refine ⟨_, rfl, ?_, ?_, (Below.refl _ _).alloc (Nat.le_refl _) _, by simp⟩
 ·rw [cell_of_row _ _ 0 _ _ (0, 0) (heap_alloc_last w _)]; rfl
 ·rw [cell_of_row _ _ 1 _ _ (0, 0) (heap_alloc_last w _)]; rfl
theorem own_set {B : Nat} {w : World} {v : Value} {xs : List UInt8} (h : OwnB B w v xs) {g : Nat} (hg : g < B) (i : Nat) (x : Value) : OwnB B (w.setCell ⟨g, i, none⟩ x) v xs := by
 refine ⟨h.1, ?_⟩
 rcases h.2 with hn | ⟨g', cap, cur, hv, hb, hgg, r⟩
 ·exact .inl hn
 ·refine .inr ⟨g', cap, cur, hv, hb, ?_, r⟩
  rw [← hgg]
  simp [World.setCell, Array.getElem?_modify, show ¬ g = g' by omega]
theorem heap_set2 {u : World} {g : Nat} {a b : Value} {t : TypeId} {fr : Nat × Nat} (h : u.heap[g]? = some (.cells #[a, b] t fr)) (x y : Value) : ((u.setCell ⟨g, 0, none⟩ x).setCell ⟨g, 1, none⟩ y).heap[g]? = some (.cells #[x, y] t fr) := by
 simp [World.setCell, Array.getElem?_modify, h]
theorem below_set2 {B : Nat} {w u : World} (h : Below B w u) {g : Nat} (hg : B ≤ g) (x y : Value) : Below B w ((u.setCell ⟨g, 0, none⟩ x).setCell ⟨g, 1, none⟩ y) :=
 (h.setCell (p := ⟨g, 0, none⟩) hg x).setCell (p := ⟨g, 1, none⟩) hg y
theorem ret_cell {P : Program} {fn : Func} {R : Ending → World → Prop} {a : Act} {w : World} {p : Tmp} {ty : TypeId} (h : fn.results = #[.cell p ty]) (hd : a.defers = []) (g : Nat) (hp : a.tmps.getD p undef = .pointer (some ⟨g, 0, none⟩))
  (x y : Value) (t : TypeId) (fr : Nat × Nat) (hg : w.heap[g]? = some (.cells #[x, y] t fr)) (d : TypeDesc) (hu : P.underlying ty = some d) (hr : (match d with | .struct _ | .array _ _ => true | _ => false) = true) (hi : (P.info? ty).map (·.size) = some 2)
  (hR : R (.returned (.agg #[x, y])) w) : bodyPost P fn R .ret a w := by
 refine bodyPost_ret (v := .agg #[x, y]) ?_ hd hR
 have hp' : a.tmps[p]?.getD undef = .pointer (some ⟨g, 0, none⟩) := by simpa using hp
 simp [results, h, hp', asAddr, run_loadVar_row w g t ty #[x, y] fr d hg hu hr hi]
theorem ret_cellT {P : Program} {fn : Func} {R : Ending → World → Prop} {a : Act} {w : World} {p u1 : Tmp} {ty : TypeId} (h : fn.results = #[.cell p ty, .tmp u1]) (hd : a.defers = []) (g : Nat) (hp : a.tmps.getD p undef = .pointer (some ⟨g, 0, none⟩))
  (x y : Value) (t : TypeId) (fr : Nat × Nat) (hg : w.heap[g]? = some (.cells #[x, y] t fr)) (d : TypeDesc) (hu : P.underlying ty = some d) (hr : (match d with | .struct _ | .array _ _ => true | _ => false) = true) (hi : (P.info? ty).map (·.size) = some 2)
  (v1 : Value) (e1 : a.tmps.getD u1 undef = v1) (hR : R (.returned (.tuple #[.agg #[x, y], v1])) w) : bodyPost P fn R .ret a w := by
 refine bodyPost_ret (v := .tuple #[.agg #[x, y], v1]) ?_ hd hR
 have hp' : a.tmps[p]?.getD undef = .pointer (some ⟨g, 0, none⟩) := by simpa using hp
 have e1' : a.tmps[u1]?.getD undef = v1 := by simpa using e1
 simp [results, h, hp', e1', asAddr, run_loadVar_row w g t ty #[x, y] fr d hg hu hr hi]
section
variable {α β : Type}
theorem Shp.to (s : Shp α) {w w' : World} {cs : List Value} {x : α} (h : s.rd w cs x) {B : Nat} (hB : w.heap.size ≤ B) (hb : Below B w w') : s.rd w' cs x :=
 s.rd_to h fun b hb' => hb.block b (by omega)
theorem Shp.to0 (s : Shp α) {w w' : World} {cs : List Value} {x : α} (h : s.rd w cs x) (hb : Below w.heap.size w w') : s.rd w' cs x := s.to h (Nat.le_refl _) hb
theorem Own.rd {s : Shp α} {B : Nat} {w : World} {cs : List Value} {x : α} (h : Own s B w cs x) : s.rd w cs x := let ⟨_, h, _⟩ := h; s.own_rd h
theorem Own.mono {s : Shp α} {B C : Nat} {w : World} {cs : List Value} {x : α} (h : Own s B w cs x) (hC : C ≤ B) : Own s C w cs x :=
 let ⟨F, h1, h2, h3⟩ := h; ⟨F, h1, h2, fun b hb => Nat.le_trans hC (h3 b hb)⟩
theorem Own.below {s : Shp α} {B C : Nat} {w w' : World} {cs : List Value} {x : α} (h : Own s B w cs x) (hC : w.heap.size ≤ C) (hb : Below C w w') : Own s B w' cs x :=
 let ⟨F, h1, h2, h3⟩ := h; ⟨F, s.own_to h1 fun b hb' => hb.block b (by have := s.own_lt h1 b hb'; omega), h2, h3⟩
theorem Own.to {s : Shp α} {B : Nat} {w w' : World} {cs : List Value} {x : α} (h : Own s B w cs x) (hb : Below w.heap.size w w') : Own s B w' cs x := h.below (Nat.le_refl _) hb
theorem Own.grown {s : Shp α} {B : Nat} {w w' : World} {row : Option Nat} {cs : List Value} {x : α} (h : Own s B w cs x) (hg : w.grownBy w' row) (hr : ∀ k, row = some k → k < B) : Own s B w' cs x :=
 let ⟨F, h1, h2, h3⟩ := h; ⟨F, s.own_to h1 fun b hb' => hg.block b (s.own_lt h1 b hb') (fun e => by have := hr b e.symm; have := h3 b hb'; omega), h2, h3⟩
theorem Own.set {s : Shp α} {B : Nat} {w : World} {cs : List Value} {x : α} (h : Own s B w cs x) {a : Addr} (ha : a.block < B) (u : Value) : Own s B (w.setCell a u) cs x :=
 let ⟨F, h1, h2, h3⟩ := h; ⟨F, s.own_to h1 fun b hb' => Below.heap_setCell _ _ _ _ (fun e => by have := h3 b hb'; omega), h2, h3⟩
def Shp.int (k : IntKind) : Shp Int where
 n := 1
 rd _ cs x := cs = [.int k x]
 own F _ cs x := F = [] ∧ cs = [.int k x]
 rd_n h := by rw [h]; rfl
 rd_to h _ := h
 rd_one h u hu := by rw [h] at hu; simp at hu; subst hu; rfl
 own_rd h := h.2
 own_to h _ := h
 own_lt h b hb := by rw [h.1] at hb; cases hb
def Shp.bool : Shp Bool where
 n := 1
 rd _ cs x := cs = [.bool x]
 own F _ cs x := F = [] ∧ cs = [.bool x]
 rd_n h := by rw [h]; rfl
 rd_to h _ := h
 rd_one h u hu := by rw [h] at hu; simp at hu; subst hu; rfl
 own_rd h := h.2
 own_to h _ := h
 own_lt h b hb := by rw [h.1] at hb; cases hb
def Shp.octs : Shp (List UInt8) where
 n := 1
 rd w cs x := ∃ v, cs = [v] ∧ Rd w v x
 own F w cs x := ∃ v, cs = [v] ∧ OwnB 0 w v x ∧ F = v.ownBlock.toList
 rd_n h := by obtain ⟨v, rfl, _⟩ := h; rfl
 rd_to := by
  rintro w w' cs x ⟨v, rfl, ao, cap, rfl, h1, h2, h3, h4⟩ hb
  refine ⟨_, rfl, ao, cap, rfl, h1, h2, h3, ?_⟩
  rcases h4 with h4 | ⟨b, off, rfl, hc⟩
  ·exact .inl h4
  ·refine .inr ⟨b, off, rfl, fun i hi => ?_⟩
   have := hc i hi
   rw [World.cell?_of_block (w := w) (hb b (cell_lt this))]
   exact this
 rd_one := by
  rintro w cs x ⟨v, rfl, h⟩ u hu
  obtain ⟨ao, cap, rfl⟩ := h.slice
  simp at hu; subst hu; rfl
 own_rd := by rintro F w cs x ⟨v, rfl, h, _⟩; exact ⟨v, rfl, h.rd⟩
 own_to := by
  rintro F w w' cs x ⟨v, rfl, h, rfl⟩ hb
  refine ⟨v, rfl, ⟨h.1, ?_⟩, rfl⟩
  rcases h.2 with h2 | ⟨g, cap, cur, rfl, h0, hg, r⟩
  ·exact .inl h2
  ·exact .inr ⟨g, cap, cur, rfl, h0, (hb g (by simp [Value.ownBlock])).trans hg, r⟩
 own_lt := by
  rintro F w cs x ⟨v, rfl, h, rfl⟩ b hb
  exact (World.ownsRow.lt h b (by simpa using hb)).2
theorem OwnB.toOwn {B : Nat} {w : World} {v : Value} {xs : List UInt8} (h : OwnB B w v xs) : Own Shp.octs B w [v] xs := by
 refine ⟨v.ownBlock.toList, ⟨v, rfl, h.mono (Nat.zero_le _), rfl⟩, ?_, fun b hb => (World.ownsRow.lt h b (by simpa using hb)).1⟩
 cases v.ownBlock <;> simp
def Shp.pair (s : Shp α) (t : Shp β) : Shp (α × β) where
 n := s.n + t.n
 rd w cs x := ∃ c d, cs = c ++ d ∧ s.rd w c x.1 ∧ t.rd w d x.2
 own F w cs x := ∃ c d G H, cs = c ++ d ∧ F = G ++ H ∧ s.own G w c x.1 ∧ t.own H w d x.2
 rd_n := by rintro w cs x ⟨c, d, rfl, h1, h2⟩; rw [List.length_append, s.rd_n h1, t.rd_n h2]
 rd_to := by rintro w w' cs x ⟨c, d, rfl, h1, h2⟩ hb; exact ⟨c, d, rfl, s.rd_to h1 hb, t.rd_to h2 hb⟩
 rd_one := by
  rintro w cs x ⟨c, d, rfl, h1, h2⟩ u hu
  rcases List.mem_append.1 hu with h | h
  ·exact s.rd_one h1 u h
  ·exact t.rd_one h2 u h
 own_rd := by rintro F w cs x ⟨c, d, G, H, rfl, rfl, h1, h2⟩; exact ⟨c, d, rfl, s.own_rd h1, t.own_rd h2⟩
 own_to := by
  rintro F w w' cs x ⟨c, d, G, H, rfl, rfl, h1, h2⟩ hb
  exact ⟨c, d, G, H, rfl, rfl, s.own_to h1 fun b h => hb b (List.mem_append_left _ h), t.own_to h2 fun b h => hb b (List.mem_append_right _ h)⟩
 own_lt := by
  rintro F w cs x ⟨c, d, G, H, rfl, rfl, h1, h2⟩ b hb
  rcases List.mem_append.1 hb with h | h
  ·exact s.own_lt h1 b h
  ·exact t.own_lt h2 b h
theorem Own.pair {s : Shp α} {t : Shp β} {B C : Nat} {w w' : World} {c d : List Value} {x : α} {y : β} (h1 : Own s B w c x) (hb : Below w.heap.size w w') (h2 : Own t C w' d y) (hC : w.heap.size ≤ C) (hBC : B ≤ C) : Own (s.pair t) B w' (c ++ d) (x, y) := by
 obtain ⟨F, a1, a2, a3⟩ := h1
 obtain ⟨G, b1, b2, b3⟩ := h2
 refine ⟨F ++ G, ⟨c, d, F, G, rfl, rfl, s.own_to a1 fun b hb' => hb.block b (s.own_lt a1 b hb'), b1⟩, ?_, ?_⟩
 ·refine List.nodup_append.2 ⟨a2, b2, fun x hx y hy e => ?_⟩
  have q1 := s.own_lt a1 x hx
  have q2 := b3 y hy
  omega
 ·intro b hb'
  rcases List.mem_append.1 hb' with h | h
  ·exact a3 b h
  ·have := b3 b h; omega
theorem Own.pair' {s : Shp α} {t : Shp β} {B C : Nat} {w w' : World} {c d : List Value} {x : α} {y : β} (h2 : Own t B w d y) (hb : Below w.heap.size w w') (h1 : Own s C w' c x) (hC : w.heap.size ≤ C) (hBC : B ≤ C) : Own (s.pair t) B w' (c ++ d) (x, y) := by
 obtain ⟨F, a1, a2, a3⟩ := h1
 obtain ⟨G, b1, b2, b3⟩ := h2
 refine ⟨F ++ G, ⟨c, d, F, G, rfl, rfl, a1, t.own_to b1 fun b hb' => hb.block b (t.own_lt b1 b hb')⟩, ?_, ?_⟩
 ·refine List.nodup_append.2 ⟨a2, b2, fun x hx y hy e => ?_⟩
  have q1 := t.own_lt b1 y hy
  have q2 := a3 x hx
  omega
 ·intro b hb'
  rcases List.mem_append.1 hb' with h | h
  ·have := a3 b h; omega
  ·exact b3 b h
theorem Own.fst {s : Shp α} {t : Shp β} {B : Nat} {w : World} {c d : List Value} {z : α × β} (h : Own (s.pair t) B w (c ++ d) z) (hc : c.length = s.n) : Own s B w c z.1 ∧ Own t B w d z.2 := by
 obtain ⟨F, ⟨c', d', G, H, e, rfl, h1, h2⟩, hn, hB⟩ := h
 have hl := s.rd_n (s.own_rd h1)
 obtain ⟨rfl, rfl⟩ := List.append_inj e (by rw [hc, hl])
 have := List.nodup_append.1 hn
 exact ⟨⟨G, h1, this.1, fun b hb => hB b (List.mem_append_left _ hb)⟩, ⟨H, h2, this.2.1, fun b hb => hB b (List.mem_append_right _ hb)⟩⟩
def ownEach (s : Shp α) (w : World) : List Nat → List Value → List α → Prop
 | F, cc, [] => F = [] ∧ cc = []
 | F, cc, x :: xs => ∃ F1 F2 c1 c2, F = F1 ++ F2 ∧ cc = c1 ++ c2 ∧ s.own F1 w c1 x ∧ ownEach s w F2 c2 xs
theorem ownEach_to {s : Shp α} {w w' : World} : ∀ {xs : List α} {F cc}, ownEach s w F cc xs → (∀ b, b ∈ F → w'.heap[b]? = w.heap[b]?) → ownEach s w' F cc xs
 | [], F, cc, h, _ => h
 | x :: xs, F, cc, ⟨F1, F2, c1, c2, e1, e2, h1, h2⟩, hb => ⟨F1, F2, c1, c2, e1, e2, s.own_to h1 fun b h => hb b (by rw [e1]; exact List.mem_append_left _ h), ownEach_to h2 fun b h => hb b (by rw [e1]; exact List.mem_append_right _ h)⟩
theorem ownEach_lt {s : Shp α} {w : World} : ∀ {xs : List α} {F cc}, ownEach s w F cc xs → ∀ b, b ∈ F → b < w.heap.size
 | [], F, cc, h, b, hb => by rw [h.1] at hb; cases hb
 | x :: xs, F, cc, ⟨F1, F2, c1, c2, e1, e2, h1, h2⟩, b, hb => by
  rw [e1] at hb
  rcases List.mem_append.1 hb with h | h
  ·exact s.own_lt h1 b h
  ·exact ownEach_lt h2 b h
theorem ownEach_app {s : Shp α} {w : World} : ∀ {xs ys : List α} {F G cc dd}, ownEach s w F cc xs → ownEach s w G dd ys → ownEach s w (F ++ G) (cc ++ dd) (xs ++ ys)
 | [], ys, F, G, cc, dd, h, k => by obtain ⟨rfl, rfl⟩ := h; exact k
 | x :: xs, ys, F, G, cc, dd, ⟨F1, F2, c1, c2, e1, e2, h1, h2⟩, k => ⟨F1, F2 ++ G, c1, c2 ++ dd, by rw [e1, List.append_assoc], by rw [e2, List.append_assoc], h1, ownEach_app h2 k⟩
theorem ownEach_one {s : Shp α} {w : World} {F c} {x : α} (h : s.own F w c x) : ownEach s w F c [x] := ⟨F, [], c, [], by simp, by simp, h, rfl, rfl⟩
theorem ownEach_at {s : Shp α} {w : World} : ∀ {xs : List α} {F cc} (i : Nat) (x : α), ownEach s w F cc xs → xs[i]? = some x →
  ∃ F1 F2 F3 c1 c2 c3, F = F1 ++ (F2 ++ F3) ∧ cc = c1 ++ (c2 ++ c3) ∧ c1.length = i * s.n ∧ ownEach s w F1 c1 (xs.take i) ∧ s.own F2 w c2 x ∧ ownEach s w F3 c3 (xs.drop (i + 1))
 | [], F, cc, i, x, h, hx => by simp at hx
 | y :: xs, F, cc, 0, x, ⟨F1, F2, c1, c2, e1, e2, h1, h2⟩, hx => by
  simp at hx; subst hx
  exact ⟨[], F1, F2, [], c1, c2, e1, e2, by simp, ⟨rfl, rfl⟩, h1, h2⟩
 | y :: xs, F, cc, i + 1, x, ⟨F1, F2, c1, c2, e1, e2, h1, h2⟩, hx => by
  obtain ⟨G1, G2, G3, d1, d2, d3, rfl, rfl, hl, k1, k2, k3⟩ := ownEach_at i x h2 (by simpa using hx)
  refine ⟨F1 ++ G1, G2, G3, c1 ++ d1, d2, d3, by rw [e1, List.append_assoc], by rw [e2, List.append_assoc], ?_, ⟨F1, G1, c1, d1, rfl, rfl, h1, k1⟩, k2, k3⟩
  rw [List.length_append, hl, s.rd_n (s.own_rd h1), Nat.add_mul, Nat.one_mul, Nat.add_comm]
def RdS (s : Shp α) (w : World) (v : Value) (xs : List α) : Prop :=
 ∃ ao cap, v = .slice ao xs.length cap ∧ xs.length ≤ cap ∧ cap ≤ maxLen ∧ (ao = none → cap = 0) ∧
  (xs = [] ∨ ∃ b off, ao = some ⟨b, off, none⟩ ∧ ∀ i x, xs[i]? = some x → ∃ c, s.rd w c x ∧ ∀ j u, c[j]? = some u → w.cell? ⟨b, off + i * s.n + j, none⟩ = some u)
theorem RdS.slice {s : Shp α} {w : World} {v : Value} {xs : List α} (h : RdS s w v xs) : ∃ ao cap, v = .slice ao xs.length cap := by
 obtain ⟨ao, cap, rfl, _⟩ := h; exact ⟨_, _, rfl⟩
theorem RdS.to {s : Shp α} {w w' : World} {v : Value} {xs : List α} (h : RdS s w v xs) {B : Nat} (hB : w.heap.size ≤ B) (hb : Below B w w') : RdS s w' v xs := by
 obtain ⟨ao, cap, rfl, h1, h2, h3, h4⟩ := h
 refine ⟨ao, cap, rfl, h1, h2, h3, ?_⟩
 rcases h4 with h4 | ⟨b, off, rfl, hc⟩
 ·exact .inl h4
 ·refine .inr ⟨b, off, rfl, fun i x hx => ?_⟩
  obtain ⟨c, k1, k2⟩ := hc i x hx
  refine ⟨c, s.to k1 hB hb, fun j u hj => ?_⟩
  have := k2 j u hj
  rw [hb.cell (p := ⟨b, off + i * s.n + j, none⟩) (by have := cell_lt this; show b < B; omega)]
  exact this
theorem RdS.to0 {s : Shp α} {w w' : World} {v : Value} {xs : List α} (h : RdS s w v xs) (hb : Below w.heap.size w w') : RdS s w' v xs := h.to (Nat.le_refl _) hb
theorem RdS.nil (s : Shp α) (w : World) : RdS s w (.slice none 0 0) [] := ⟨none, 0, rfl, Nat.le_refl _, Nat.zero_le _, fun _ => rfl, .inl rfl⟩
theorem RdS.bd {s : Shp α} {w : World} {v : Value} {xs : List α} (h : RdS s w v xs) : xs.length ≤ 9223372036854775807 := by
 obtain ⟨ao, cap, rfl, h1, h2, _⟩ := h
 rw [show maxLen = 9223372036854775807 from rfl] at h2
 omega
theorem RdS.at1 {s : Shp α} (hs : s.n = 1) {w : World} {a : Option Addr} {n cap : Nat} {xs : List α} (h : RdS s w (.slice a n cap) xs) {i : Nat} {x : α} (hx : xs[i]? = some x) :
  ∃ b off u, a = some ⟨b, off, none⟩ ∧ w.cell? ⟨b, off + i, none⟩ = some u ∧ s.rd w [u] x := by
 obtain ⟨ao, c, e, h1, h2, h3, h4⟩ := h
 cases e
 rcases h4 with rfl | ⟨b, off, rfl, hc⟩
 ·simp at hx
 ·obtain ⟨c, k1, k2⟩ := hc i x hx
  have := s.rd_n k1
  rw [hs] at this k2
  match c, this with
  | [u], _ =>
   have := k2 0 u rfl
   rw [Nat.mul_one, Nat.add_zero] at this
   exact ⟨b, off, u, rfl, this, k1⟩
theorem RdS.at2 {s : Shp α} {t : Shp β} (hs : s.n = 1) (ht : t.n = 1) {w : World} {a : Option Addr} {n cap : Nat} {xs : List (α × β)} (h : RdS (s.pair t) w (.slice a n cap) xs) {i : Nat} {x : α × β} (hx : xs[i]? = some x) :
  ∃ b off u v, a = some ⟨b, off, none⟩ ∧ w.cell? ⟨b, off + i * 2, none⟩ = some u ∧ w.cell? ⟨b, off + i * 2 + 1, none⟩ = some v ∧ s.rd w [u] x.1 ∧ t.rd w [v] x.2 := by
 obtain ⟨ao, c, e, h1, h2, h3, h4⟩ := h
 cases e
 rcases h4 with rfl | ⟨b, off, rfl, hc⟩
 ·simp at hx
 ·obtain ⟨c, ⟨c1, c2, rfl, k1, k3⟩, k2⟩ := hc i x hx
  have e1 := s.rd_n k1
  have e2 := t.rd_n k3
  rw [show (s.pair t).n = 2 from by show s.n + t.n = 2; omega] at k2
  rw [hs] at e1
  rw [ht] at e2
  match c1, e1, c2, e2 with
  | [u], _, [v], _ => exact ⟨b, off, u, v, rfl, by simpa using k2 0 u rfl, by simpa using k2 1 v rfl, k1, k3⟩
theorem rows_at {w : World} {T n : Nat} {v : Value} {m : Nat} {cc : List Value} (h : w.ownsRow 0 T n v m cc) {g : Nat} {cap : Nat} (hv : v = .slice (some ⟨g, 0, none⟩) m cap) {j : Nat} {u : Value} (hj : cc[j]? = some u) : w.cell? ⟨g, j, none⟩ = some u := by
 subst hv
 rw [h.cellAt j (by rw [← h.1]; exact (List.getElem?_eq_some_iff.1 hj).1)]
 exact hj
def Shp.list (T : Nat) (s : Shp α) : Shp (List α) where
 n := 1
 rd w cs xs := ∃ v, cs = [v] ∧ RdS s w v xs
 own F w cs xs := ∃ v cc G, cs = [v] ∧ w.ownsRow 0 T s.n v xs.length cc ∧ ownEach s w G cc xs ∧ F = v.ownBlock.toList ++ G
 rd_n := by rintro w cs x ⟨v, rfl, _⟩; rfl
 rd_to := by
  rintro w w' cs xs ⟨v, rfl, ao, cap, rfl, h1, h2, h3, h4⟩ hb
  refine ⟨_, rfl, ao, cap, rfl, h1, h2, h3, ?_⟩
  rcases h4 with h4 | ⟨b, off, rfl, hc⟩
  ·exact .inl h4
  ·refine .inr ⟨b, off, rfl, fun i x hx => ?_⟩
   obtain ⟨c, k1, k2⟩ := hc i x hx
   refine ⟨c, s.rd_to k1 hb, fun j u hj => ?_⟩
   have := k2 j u hj
   rw [World.cell?_of_block (w := w) (hb b (cell_lt this))]
   exact this
 rd_one := by
  rintro w cs x ⟨v, rfl, h⟩ u hu
  obtain ⟨ao, cap, rfl⟩ := h.slice
  simp at hu; subst hu; rfl
 own_rd := by
  rintro F w cs xs ⟨v, cc, G, rfl, h1, h2, _⟩
  refine ⟨v, rfl, ?_⟩
  rcases h1.2 with ⟨rfl, h0⟩ | ⟨g, cap, cur, hv, hb, hg, hn, hm, _⟩
  ·rw [List.eq_nil_of_length_eq_zero h0]
   exact ⟨none, 0, rfl, Nat.le_refl _, Nat.zero_le _, fun _ => rfl, .inl rfl⟩
  ·refine ⟨_, cap, hv, hn, hm, (fun h => by cases h), .inr ⟨g, 0, rfl, fun i x hx => ?_⟩⟩
   obtain ⟨F1, F2, F3, c1, c2, c3, _, e2, hl, _, k2, _⟩ := ownEach_at i x h2 hx
   refine ⟨c2, s.own_rd k2, fun j u hj => ?_⟩
   rw [Nat.zero_add]
   refine rows_at h1 hv ?_
   have hjl : j < c2.length := (List.getElem?_eq_some_iff.1 hj).1
   rw [e2, ← hl, List.getElem?_append_right (by omega), Nat.add_sub_cancel_left, List.getElem?_append_left hjl]
   exact hj
 own_to := by
  rintro F w w' cs xs ⟨v, cc, G, rfl, h1, h2, rfl⟩ hb
  refine ⟨v, cc, G, rfl, ⟨h1.1, ?_⟩, ownEach_to h2 fun b h => hb b (List.mem_append_right _ h), rfl⟩
  rcases h1.2 with h | ⟨g, cap, cur, rfl, h0, hg, r⟩
  ·exact .inl h
  ·exact .inr ⟨g, cap, cur, rfl, h0, (hb g (by simp [Value.ownBlock])).trans hg, r⟩
 own_lt := by
  rintro F w cs xs ⟨v, cc, G, rfl, h1, h2, rfl⟩ b hb
  rcases List.mem_append.1 hb with h | h
  ·exact (World.ownsRow.lt h1 b (by simpa using h)).2
  ·exact ownEach_lt h2 b h
theorem Own.rdS {T : Nat} {s : Shp α} {B : Nat} {w : World} {v : Value} {xs : List α} (h : Own (Shp.list T s) B w [v] xs) : RdS s w v xs := by
 obtain ⟨v', e, r⟩ := h.rd
 simp at e; subst e; exact r
theorem Own.nil (T : Nat) (s : Shp α) (B : Nat) (w : World) : Own (Shp.list T s) B w [.slice none 0 0] [] :=
 ⟨[], ⟨_, [], [], rfl, World.ownsRow_nil _ _ _ _, ⟨rfl, rfl⟩, by simp [Value.ownBlock]⟩, List.nodup_nil, fun b hb => by cases hb⟩
theorem rows_base {w : World} {T n B C : Nat} {v : Value} {m : Nat} {cc : List Value} (h : w.ownsRow B T n v m cc) (hC : ∀ b, v.ownBlock = some b → C ≤ b) : w.ownsRow C T n v m cc := by
 refine ⟨h.1, ?_⟩
 rcases h.2 with h2 | ⟨g, cap, cur, rfl, h0, r⟩
 ·exact .inl h2
 ·exact .inr ⟨g, cap, cur, rfl, hC g rfl, r⟩
theorem Own.cap (T : Nat) (s : Shp α) {B : Nat} {w : World} {v : Value} (h : w.ownsRow B T s.n v 0 []) : Own (Shp.list T s) B w [v] [] := by
 refine ⟨v.ownBlock.toList, ⟨v, [], [], rfl, rows_base h fun _ _ => Nat.zero_le _, ⟨rfl, rfl⟩, by simp⟩, ?_, fun b hb => (World.ownsRow.lt h b (by simpa using hb)).1⟩
 cases v.ownBlock <;> simp
def OwnF (s : Shp α) (F : List Nat) (w : World) (cs : List Value) (x : α) : Prop := s.own F w cs x ∧ F.Nodup
theorem OwnF.own {s : Shp α} {F : List Nat} {B : Nat} {w : World} {cs : List Value} {x : α} (h : OwnF s F w cs x) (hB : ∀ b, b ∈ F → B ≤ b) : Own s B w cs x := ⟨F, h.1, h.2, hB⟩
theorem Own.foot {s : Shp α} {B : Nat} {w : World} {cs : List Value} {x : α} (h : Own s B w cs x) : ∃ F, OwnF s F w cs x ∧ ∀ b, b ∈ F → B ≤ b := let ⟨F, h1, h2, h3⟩ := h; ⟨F, ⟨h1, h2⟩, h3⟩
theorem OwnF.rd {s : Shp α} {F : List Nat} {w : World} {cs : List Value} {x : α} (h : OwnF s F w cs x) : s.rd w cs x := s.own_rd h.1
theorem OwnF.lt {s : Shp α} {F : List Nat} {w : World} {cs : List Value} {x : α} (h : OwnF s F w cs x) : ∀ b, b ∈ F → b < w.heap.size := s.own_lt h.1
theorem OwnF.keep {s : Shp α} {F : List Nat} {w w' : World} {cs : List Value} {x : α} (h : OwnF s F w cs x) (hb : ∀ b, b ∈ F → w'.heap[b]? = w.heap[b]?) : OwnF s F w' cs x := ⟨s.own_to h.1 hb, h.2⟩
theorem OwnF.to {s : Shp α} {F : List Nat} {w w' : World} {cs : List Value} {x : α} (h : OwnF s F w cs x) (hb : Below w.heap.size w w') : OwnF s F w' cs x := h.keep fun b hb' => hb.block b (h.lt b hb')
theorem OwnF.set {s : Shp α} {F : List Nat} {w : World} {cs : List Value} {x : α} (h : OwnF s F w cs x) {a : Addr} (ha : a.block ∉ F) (u : Value) : OwnF s F (w.setCell a u) cs x :=
 h.keep fun b hb' => Below.heap_setCell _ _ _ _ (fun e => ha (by rw [← e]; exact hb'))
theorem OwnF.split {s : Shp α} {t : Shp β} {F : List Nat} {w : World} {c d : List Value} {z : α × β} (h : OwnF (s.pair t) F w (c ++ d) z) (hc : c.length = s.n) :
  ∃ F1 F2, F = F1 ++ F2 ∧ OwnF s F1 w c z.1 ∧ OwnF t F2 w d z.2 ∧ ∀ b, b ∈ F1 → b ∉ F2 := by
 obtain ⟨⟨c', d', G, H, e, rfl, h1, h2⟩, hn⟩ := h
 have hl := s.rd_n (s.own_rd h1)
 obtain ⟨rfl, rfl⟩ := List.append_inj e (by rw [hc, hl])
 have := List.nodup_append.1 hn
 exact ⟨G, H, rfl, ⟨h1, this.1⟩, ⟨h2, this.2.1⟩, fun b hb hb' => this.2.2 b hb b hb' rfl⟩
theorem OwnF.join {s : Shp α} {t : Shp β} {F1 F2 : List Nat} {w : World} {c d : List Value} {x : α} {y : β} (h1 : OwnF s F1 w c x) (h2 : OwnF t F2 w d y) (hd : ∀ b, b ∈ F1 → b ∉ F2) : OwnF (s.pair t) (F1 ++ F2) w (c ++ d) (x, y) :=
 ⟨⟨c, d, F1, F2, rfl, rfl, h1.1, h2.1⟩, List.nodup_append.2 ⟨h1.2, h2.2, fun a ha b hb e => hd a ha (by rw [e]; exact hb)⟩⟩
theorem OwnF.grow {T : Nat} {s : Shp α} {F : List Nat} {w : World} {v : Value} {xs : List α} (h : OwnF (Shp.list T s) F w [v] xs) :
  ∃ cc, w.ownsRow 0 T s.n v xs.length cc ∧ (∀ b, v.ownBlock = some b → b ∈ F) ∧ ∀ (w1 w2 w3 : World) (c : List Value) (x : α) (g cap : Nat), Below w.heap.size w w1 → Own s w.heap.size w1 c x → Below w1.heap.size w1 w2 → w2.grownBy w3 v.ownBlock →
   w3.ownsRow 0 T s.n (.slice (some ⟨g, 0, none⟩) (xs.length + 1) cap) (xs.length + 1) (cc ++ c) → (v.ownBlock = some g ∨ g = w2.heap.size) →
   ∃ F', OwnF (Shp.list T s) F' w3 [.slice (some ⟨g, 0, none⟩) (xs.length + 1) cap] (xs ++ [x]) ∧ ∀ b, b ∈ F' → b ∈ F ∨ w.heap.size ≤ b := by
 obtain ⟨⟨v', cc, G, e, h1, h2, rfl⟩, hn⟩ := h
 simp at e; subst e
 refine ⟨cc, h1, fun b hb => by simp [hb], ?_⟩
 intro w1 w2 w3 c x g cap b1 he b2 hg hr hat
 obtain ⟨F2, k1, k2, k3⟩ := he
 have lt1 := ownEach_lt h2
 have hn' := List.nodup_append.1 hn
 have ng : g ∉ G := by
  intro hgG
  rcases hat with hat | rfl
  ·exact hn'.2.2 g (by simp [hat]) g hgG rfl
  ·have := lt1 _ hgG; have := b1.size; have := b2.size; omega
 have ng2 : g ∉ F2 := by
  intro hgF
  have q := k3 g hgF
  rcases hat with hat | rfl
  ·have := (World.ownsRow.lt h1 g hat).2; omega
  ·have := s.own_lt k1 _ hgF; have := b2.size; omega
 refine ⟨(g :: (G ++ F2)), ⟨⟨_, cc ++ c, G ++ F2, rfl, ?_, ?_, rfl⟩, ?_⟩, ?_⟩
 ·rw [List.length_append]; exact hr
 ·refine ownEach_app (ownEach_to h2 fun b hb => ?_) (ownEach_one (s.own_to k1 fun b hb => ?_))
  ·rw [hg.block b (by have := lt1 b hb; have := b1.size; have := b2.size; omega) (fun e => hn'.2.2 b (by simp [← e]) b hb rfl), b2.block b (by have := lt1 b hb; have := b1.size; omega), b1.block b (lt1 b hb)]
  ·rw [hg.block b (by have := s.own_lt k1 b hb; have := b2.size; omega) (fun e => by have := (World.ownsRow.lt h1 b e.symm).2; have := k3 b hb; omega), b2.block b (s.own_lt k1 b hb)]
 ·refine List.nodup_cons.2 ⟨fun hm => ?_, List.nodup_append.2 ⟨hn'.2.1, k2, fun a ha b hb e => ?_⟩⟩
  ·rcases List.mem_append.1 hm with q | q
   ·exact ng q
   ·exact ng2 q
  ·have := lt1 a ha; have := k3 b hb; omega
 ·intro b hb
  rcases List.mem_cons.1 hb with rfl | hb
  ·rcases hat with hat | rfl
   ·left; simp [hat]
   ·right; have := b1.size; have := b2.size; omega
  ·rcases List.mem_append.1 hb with q | q
   ·left; simp [q]
   ·right; exact k3 b q
theorem OwnF.growSnd {γ : Type} {T : Nat} {s : Shp α} {r : Shp γ} {F : List Nat} {w : World} {c0 : List Value} {v : Value} {a : γ} {xs : List α} (h : OwnF (r.pair (Shp.list T s)) F w (c0 ++ [v]) (a, xs)) (hc : c0.length = r.n) :
  ∃ cc, w.ownsRow 0 T s.n v xs.length cc ∧ (∀ b, v.ownBlock = some b → b ∈ F) ∧ ∀ (w1 w2 w3 : World) (c : List Value) (x : α) (g cap : Nat), Below w.heap.size w w1 → Own s w.heap.size w1 c x → Below w1.heap.size w1 w2 → w2.grownBy w3 v.ownBlock →
   w3.ownsRow 0 T s.n (.slice (some ⟨g, 0, none⟩) (xs.length + 1) cap) (xs.length + 1) (cc ++ c) → (v.ownBlock = some g ∨ g = w2.heap.size) →
   ∃ F', OwnF (r.pair (Shp.list T s)) F' w3 (c0 ++ [.slice (some ⟨g, 0, none⟩) (xs.length + 1) cap]) (a, xs ++ [x]) ∧ ∀ b, b ∈ F' → b ∈ F ∨ w.heap.size ≤ b := by
 obtain ⟨F1, F2, rfl, h1, h2, hd⟩ := h.split hc
 obtain ⟨cc, k1, k2, k3⟩ := h2.grow
 refine ⟨cc, k1, fun b hb => by simp [k2 b hb], ?_⟩
 intro w1 w2 w3 c x g cap b1 he b2 hg hr hat
 obtain ⟨F', o1, o2⟩ := k3 w1 w2 w3 c x g cap b1 he b2 hg hr hat
 refine ⟨F1 ++ F', OwnF.join (h1.keep fun b hb => ?_) o1 (fun b hb hb' => ?_), fun b hb => ?_⟩
 ·have := h1.lt b hb
  have := b1.size
  rw [hg.block b (by have := b2.size; omega) (fun e => hd b hb (k2 b e.symm)), b2.block b (by omega), b1.block b (h1.lt b hb)]
 ·rcases o2 b hb' with q | q
  ·exact hd b hb q
  ·have := h1.lt b hb; omega
 ·rcases List.mem_append.1 hb with q | q
  ·left; simp [q]
  ·rcases o2 b q with q | q
   ·left; simp [q]
   ·right; exact q
theorem rows_to {w w' : World} {B T n : Nat} {v : Value} {m : Nat} {cc : List Value} (h : w.ownsRow B T n v m cc) (hb : Below w.heap.size w w') : w'.ownsRow B T n v m cc := by
 refine ⟨h.1, ?_⟩
 rcases h.2 with h2 | ⟨g, cap, cur, e, h0, hg, r⟩
 ·exact .inl h2
 ·exact .inr ⟨g, cap, cur, e, h0, (hb.block g (lt_of_block hg)).trans hg, r⟩
theorem lit_of {T n : Nat} {s : Shp α} {F : List Nat} {w : World} {v : Value} {cc : List Value} {R : World → List Nat → Value → α → Prop} (hrow : w.ownsRow 0 T s.n v n cc) (hm : ∀ b, v.ownBlock = some b → b ∈ F)
  (k3 : ∀ (w1 w2 w3 : World) (c : List Value) (x : α) (g cap : Nat), Below w.heap.size w w1 → Own s w.heap.size w1 c x → Below w1.heap.size w1 w2 → w2.grownBy w3 v.ownBlock →
   w3.ownsRow 0 T s.n (.slice (some ⟨g, 0, none⟩) (n + 1) cap) (n + 1) (cc ++ c) → (v.ownBlock = some g ∨ g = w2.heap.size) → ∃ F', R w3 F' (.slice (some ⟨g, 0, none⟩) (n + 1) cap) x ∧ ∀ b, b ∈ F' → b ∈ F ∨ w.heap.size ≤ b) :
  (∀ u, Below w.heap.size w u → u.ownsRow 0 T s.n v n cc) ∧ ∀ (w2 : World) (c : List Value) (x : α) (T' : Nat) (w3 w5 : World) (g cap : Nat), Below w.heap.size w w2 → Own s w.heap.size w2 c x → w3.heap = (w2.alloc (.cells c.toArray T')).heap → w3.os = w2.os → w3.tape = w2.tape → w3.output = w2.output → w3.grownBy w5 v.ownBlock →
   w5.ownsRow 0 T s.n (.slice (some ⟨g, 0, none⟩) (n + 1) cap) (n + 1) (cc ++ c) → (v.ownBlock = some g ∨ g = w2.heap.size + 1) →
   (∃ F', R w5 F' (.slice (some ⟨g, 0, none⟩) (n + 1) cap) x ∧ ∀ b, b ∈ F' → b ∈ F ∨ w.heap.size ≤ b) ∧ (∀ B, (∀ b, b ∈ F → B ≤ b) → B ≤ w.heap.size → Below B w w5) ∧ ∀ b, b < w.heap.size → b ∉ F → w5.heap[b]? = w.heap[b]? := by
 refine ⟨fun u hu => rows_to hrow hu, ?_⟩
 intro w2 c x T' w3 w5 g cap b1 he hh h1 h2 h3 hg hr hat
 have hsz : w3.heap.size = w2.heap.size + 1 := by rw [hh]; simp
 have b2 : Below w2.heap.size w2 w3 := ⟨h1, h2, h3, by omega, fun k hk => by rw [hh]; exact Below.heap_alloc _ _ _ hk⟩
 refine ⟨k3 w2 w3 w5 c x g cap b1 he b2 hg hr (by rw [hsz]; exact hat), fun B hF hB => ?_, fun b hb hnb => ?_⟩
 ·exact (((b1.mono hB).trans (b2.mono (by have := b1.size; omega)))).grown hg (by have := b1.size; omega) (fun k hk => hF k (hm k hk))
 ·have := b1.size
  rw [hg.block b (by omega) (fun e => hnb (hm b e.symm)), b2.block b (by omega), b1.block b hb]
theorem OwnF.lit {T n : Nat} {s : Shp α} {F : List Nat} {w : World} {v : Value} {xs : List α} (h : OwnF (Shp.list T s) F w [v] xs) (hn : xs.length = n) : ∃ cc,
  (∀ u, Below w.heap.size w u → u.ownsRow 0 T s.n v n cc) ∧ ∀ (w2 : World) (c : List Value) (x : α) (T' : Nat) (w3 w5 : World) (g cap : Nat), Below w.heap.size w w2 → Own s w.heap.size w2 c x → w3.heap = (w2.alloc (.cells c.toArray T')).heap → w3.os = w2.os → w3.tape = w2.tape → w3.output = w2.output → w3.grownBy w5 v.ownBlock →
   w5.ownsRow 0 T s.n (.slice (some ⟨g, 0, none⟩) (n + 1) cap) (n + 1) (cc ++ c) → (v.ownBlock = some g ∨ g = w2.heap.size + 1) →
   (∃ F', OwnF (Shp.list T s) F' w5 [.slice (some ⟨g, 0, none⟩) (n + 1) cap] (xs ++ [x]) ∧ ∀ b, b ∈ F' → b ∈ F ∨ w.heap.size ≤ b) ∧ (∀ B, (∀ b, b ∈ F → B ≤ b) → B ≤ w.heap.size → Below B w w5) ∧ ∀ b, b < w.heap.size → b ∉ F → w5.heap[b]? = w.heap[b]? := by
 subst hn
 obtain ⟨cc, k1, k2, k3⟩ := h.grow
 exact ⟨cc, lit_of (R := fun w5 F' v' x => OwnF (Shp.list T s) F' w5 [v'] (xs ++ [x])) k1 k2 k3⟩
theorem OwnF.litSnd {γ : Type} {T n : Nat} {s : Shp α} {r : Shp γ} {F : List Nat} {w : World} {c0 : List Value} {v : Value} {a : γ} {xs : List α} (h : OwnF (r.pair (Shp.list T s)) F w (c0 ++ [v]) (a, xs)) (hc : c0.length = r.n) (hn : xs.length = n) : ∃ cc,
  (∀ u, Below w.heap.size w u → u.ownsRow 0 T s.n v n cc) ∧ ∀ (w2 : World) (c : List Value) (x : α) (T' : Nat) (w3 w5 : World) (g cap : Nat), Below w.heap.size w w2 → Own s w.heap.size w2 c x → w3.heap = (w2.alloc (.cells c.toArray T')).heap → w3.os = w2.os → w3.tape = w2.tape → w3.output = w2.output → w3.grownBy w5 v.ownBlock →
   w5.ownsRow 0 T s.n (.slice (some ⟨g, 0, none⟩) (n + 1) cap) (n + 1) (cc ++ c) → (v.ownBlock = some g ∨ g = w2.heap.size + 1) →
   (∃ F', OwnF (r.pair (Shp.list T s)) F' w5 (c0 ++ [.slice (some ⟨g, 0, none⟩) (n + 1) cap]) (a, xs ++ [x]) ∧ ∀ b, b ∈ F' → b ∈ F ∨ w.heap.size ≤ b) ∧ (∀ B, (∀ b, b ∈ F → B ≤ b) → B ≤ w.heap.size → Below B w w5) ∧ ∀ b, b < w.heap.size → b ∉ F → w5.heap[b]? = w.heap[b]? := by
 subst hn
 obtain ⟨cc, k1, k2, k3⟩ := h.growSnd hc
 exact ⟨cc, lit_of (R := fun w5 F' v' x => OwnF (r.pair (Shp.list T s)) F' w5 (c0 ++ [v']) (a, xs ++ [x])) k1 k2 k3⟩
theorem set_take_drop (xs : List α) (i : Nat) (x : α) (hi : i < xs.length) : xs.set i x = xs.take i ++ ([x] ++ xs.drop (i + 1)) := by
 rw [List.set_eq_take_append_cons_drop, if_pos hi]; rfl
theorem OwnF.at {T : Nat} {s : Shp α} {F : List Nat} {w : World} {v : Value} {xs : List α} (h : OwnF (Shp.list T s) F w [v] xs) {i : Nat} {x : α} (hx : xs[i]? = some x) :
  ∃ g cap F2 c, v = .slice (some ⟨g, 0, none⟩) xs.length cap ∧ xs.length ≤ cap ∧ cap ≤ maxLen ∧ g ∈ F ∧ s.own F2 w c x ∧ (∀ b, b ∈ F2 → b ∈ F ∧ b ≠ g) ∧ (∀ j u, c[j]? = some u → w.cell? ⟨g, i * s.n + j, none⟩ = some u) ∧
   ∀ w' x', s.own F2 w' c x' → (∀ b, b ∈ F → b ∉ F2 → w'.heap[b]? = w.heap[b]?) → OwnF (Shp.list T s) F w' [v] (xs.set i x') := by
 have hi : i < xs.length := (List.getElem?_eq_some_iff.1 hx).1
 obtain ⟨⟨v', cc, G, e, h1, h2, rfl⟩, hn⟩ := h
 simp at e; subst e
 obtain ⟨F1, F2, F3, c1, c2, c3, e1, e2, hl, k1, k2, k3⟩ := ownEach_at i x h2 hx
 have hn' := List.nodup_append.1 hn
 have hG := hn'.2.1
 rw [e1] at hG
 have hG1 := List.nodup_append.1 hG
 have hG2 := List.nodup_append.1 hG1.2.1
 rcases h1.2 with ⟨rfl, h0⟩ | ⟨g, cap, cur, hv, hb, hg, hnn, hm, _⟩
 ·omega
 have nF2 : ∀ b, b ∈ F2 → b ∈ G := fun b hb => by rw [e1]; simp [hb]
 refine ⟨g, cap, F2, c2, hv, hnn, hm, by simp [hv, Value.ownBlock], k2, fun b hb => ⟨by simp [nF2 b hb], fun e => hn'.2.2 g (by simp [hv, Value.ownBlock]) g (by rw [← e]; exact nF2 b hb) rfl⟩, fun j u hj => ?_, fun w' x' ho hk => ⟨⟨v, cc, G, rfl, ?_, ?_, rfl⟩, hn⟩⟩
 ·have hjl : j < c2.length := (List.getElem?_eq_some_iff.1 hj).1
  refine rows_at h1 hv ?_
  rw [e2, ← hl, List.getElem?_append_right (by omega), Nat.add_sub_cancel_left, List.getElem?_append_left hjl]
  exact hj
 ·rw [List.length_set]
  refine ⟨h1.1, ?_⟩
  rcases h1.2 with h | ⟨g', cap', cur', e', h0', hg', r⟩
  ·exact .inl h
  ·refine .inr ⟨g', cap', cur', e', h0', (hk g' (by simp [e', Value.ownBlock]) fun hm => ?_).trans hg', r⟩
   exact hn'.2.2 g' (by simp [e', Value.ownBlock]) g' (nF2 g' hm) rfl
 ·rw [set_take_drop xs i x' hi, e1, e2]
  refine ownEach_app (ownEach_to k1 fun b hb => hk b (by rw [e1]; simp [hb]) fun hm => ?_) (ownEach_app (ownEach_one ho) (ownEach_to k3 fun b hb => hk b (by rw [e1]; simp [hb]) fun hm => ?_))
  ·exact hG1.2.2 b hb b (by simp [hm]) rfl
  ·exact hG2.2.2 b hm b hb rfl
theorem Own.store {T : Nat} {s : Shp α} {B : Nat} {w : World} {v : Value} {xs : List α} (h : Own (Shp.list T s) B w [v] xs) (hs : s.n = 1) (hBw : B ≤ w.heap.size) {i : Nat} (hi : i < xs.length) :
  ∃ g cap, v = .slice (some ⟨g, 0, none⟩) xs.length cap ∧ xs.length ≤ cap ∧ B ≤ g ∧ g < w.heap.size ∧ w.frozen? ⟨g, i, none⟩ = false ∧ (∃ u0, w.cell? ⟨g, i, none⟩ = some u0) ∧
   ∀ w1 u x', Below w.heap.size w w1 → Own s w.heap.size w1 [u] x' → Own (Shp.list T s) B (w1.setCell ⟨g, i, none⟩ u) [v] (xs.set i x') := by
 obtain ⟨x, hx⟩ : ∃ x, xs[i]? = some x := ⟨_, List.getElem?_eq_getElem hi⟩
 obtain ⟨F, ⟨v', cc, G, e, h1, h2, rfl⟩, hn, hB⟩ := h
 simp at e; subst e
 obtain ⟨F1, F2, F3, c1, c2, c3, e1, e2, hl, k1, k2, k3⟩ := ownEach_at i x h2 hx
 have hn' := List.nodup_append.1 hn
 have hG := hn'.2.1
 rw [e1] at hG
 have hG1 := List.nodup_append.1 hG
 have hG2 := List.nodup_append.1 hG1.2.1
 rcases h1.2 with ⟨rfl, h0⟩ | ⟨g, cap, cur, hv, hb, hg, hnn, hm, _⟩
 ·omega
 subst hv
 have hgl := lt_of_block hg
 have hl2 : c2.length = 1 := by rw [s.rd_n (s.own_rd k2), hs]
 obtain ⟨u0, rfl⟩ : ∃ u0, c2 = [u0] := by
  match c2, hl2 with
  | [u0], _ => exact ⟨u0, rfl⟩
 rw [hs, Nat.mul_one] at hl
 refine ⟨g, cap, rfl, hnn, hB g (by simp [Value.ownBlock]), hgl, h1.frozenAt i, ⟨u0, rows_at h1 rfl (by rw [e2, List.getElem?_append_right (by omega), hl]; simp)⟩, fun w1 u x' b1 ho => ?_⟩
 obtain ⟨F2', o1, o2, o3⟩ := ho
 have h1' : w1.ownsRow 0 T s.n (.slice (some ⟨g, 0, none⟩) xs.length cap) xs.length cc := by
  refine ⟨h1.1, ?_⟩
  rcases h1.2 with h | ⟨g', cap', cur', e', h0', hg', r⟩
  ·exact .inl h
  ·exact .inr ⟨g', cap', cur', e', h0', (b1.block g' (lt_of_block hg')).trans hg', r⟩
 have hst := h1'.stored i u
 have other : ∀ b, b ≠ g → (w1.setCell ⟨g, i, none⟩ u).heap[b]? = w1.heap[b]? := fun b hb => Below.heap_setCell _ _ _ _ hb
 have gG : g ∉ G := fun hm => hn'.2.2 g (by simp [Value.ownBlock]) g hm rfl
 refine ⟨g :: (F1 ++ (F2' ++ F3)), ⟨_, cc.set i u, F1 ++ (F2' ++ F3), rfl, ?_, ?_, rfl⟩, ?_, ?_⟩
 ·rw [List.length_set]; exact hst.1
 ·rw [set_take_drop xs i x' hi, e2]
  have ec : (c1 ++ ([u0] ++ c3)).set i u = c1 ++ ([u] ++ c3) := by
   rw [← hl, List.set_append_right _ _ (Nat.le_refl _), Nat.sub_self]; rfl
  rw [ec]
  refine ownEach_app (ownEach_to k1 fun b hb => ?_) (ownEach_app (ownEach_one (s.own_to o1 fun b hb => ?_)) (ownEach_to k3 fun b hb => ?_))
  ·rw [other b (fun e => gG (by rw [e1, ← e]; simp [hb])), b1.block b (ownEach_lt k1 b hb)]
  ·exact other b (fun e => by have := o3 b hb; omega)
  ·rw [other b (fun e => gG (by rw [e1, ← e]; simp [hb])), b1.block b (ownEach_lt k3 b hb)]
 ·refine List.nodup_cons.2 ⟨fun hm => ?_, List.nodup_append.2 ⟨hG1.1, List.nodup_append.2 ⟨o2, hG2.2.1, fun a ha b hb e => ?_⟩, fun a ha b hb e => ?_⟩⟩
  ·simp only [List.mem_append] at hm
   rcases hm with hm | hm | hm
   ·exact gG (by rw [e1]; simp [hm])
   ·have := o3 g hm; omega
   ·exact gG (by rw [e1]; simp [hm])
  ·have := o3 a ha; have := ownEach_lt k3 b hb; omega
  ·rcases List.mem_append.1 hb with hb | hb
   ·have := o3 b hb; have := ownEach_lt k1 a ha; omega
   ·exact hG1.2.2 a ha b (by simp [hb]) e
 ·intro b hb
  simp only [List.mem_cons, List.mem_append] at hb
  rcases hb with rfl | hb | hb | hb
  ·exact hB b (by simp [Value.ownBlock])
  ·exact hB b (by rw [e1]; simp [hb])
  ·have := o3 b hb; omega
  ·exact hB b (by rw [e1]; simp [hb])
theorem Own.made {T : Nat} {s : Shp α} {B : Nat} {w : World} {v : Value} {n : Nat} {u0 : Value} {x0 : α} (hs : ∀ w, s.own [] w [u0] x0) (h : w.ownsRow B T s.n v n (List.replicate n u0)) : Own (Shp.list T s) B w [v] (List.replicate n x0) := by
 have each : ∀ n, ownEach s w [] (List.replicate n u0) (List.replicate n x0) := by
  intro n
  induction n with
  | zero => exact ⟨rfl, rfl⟩
  | succ n ih => exact ⟨[], [], [u0], List.replicate n u0, rfl, rfl, hs w, ih⟩
 refine ⟨v.ownBlock.toList, ⟨v, _, [], rfl, ?_, each n, by simp⟩, ?_, fun b hb => (World.ownsRow.lt h b (by simpa using hb)).1⟩
 ·rw [List.length_replicate]; exact rows_base h fun _ _ => Nat.zero_le _
 ·cases v.ownBlock <;> simp
theorem octs_nil (w : World) : Shp.octs.own [] w [.slice none 0 0] [] := ⟨_, rfl, World.ownsRow_nil _ _ _ _, rfl⟩
end
end Go.Proofs.Ytjjicajodjophaa

namespace Go.Proofs.Ytjjicajodjophaa
open Go.RowKit
def over (xs ys : List UInt8) : List UInt8 := ys.take xs.length ++ xs.drop ys.length
theorem over_length (xs ys : List UInt8) : (over xs ys).length = xs.length := by simp [over]; omega
theorem over_all {xs ys : List UInt8} (h : xs.length = ys.length) : over xs ys = ys := by
 unfold over; rw [List.take_of_length_le (by omega), List.drop_of_length_le (by omega), List.append_nil]
set_option maxRecDepth 100000 in
theorem run_copy_octs {w : World} {B : Nat} {v v2 : Value} {xs ys : List UInt8} (ty : TypeId) (hown : OwnB B w v xs) (hrd : Rd w v2 ys) :
  ∃ w', (Builtin.copy_ #[62, 62] ty #[v, v2]).run Try.prog w = .ok (goInt (Nat.min ys.length xs.length)) w' ∧ OwnB B w' v (over xs ys) ∧ Below B w w' ∧ w.grownBy w' v.ownBlock := by
 have hi : (Try.prog.info? 5).map (·.size) = some 1 := by kernel_rfl
 obtain ⟨ao, c, rfl, l1, m1, n1, r1⟩ := hrd
 obtain ⟨dp, dc, rfl⟩ := hown.rd.slice
 by_cases h0 : Nat.min ys.length xs.length = 0
 ·have hrun := run_copy_none (P := Try.prog) w 62 62 ty 5 dp ao xs.length dc ys.length c Try.underlying62 hi h0
  have e : over xs ys = xs := by
   have h0' : min ys.length xs.length = 0 := h0
   unfold over
   by_cases hy : ys.length = 0
   ·rw [List.eq_nil_of_length_eq_zero hy]; simp
   ·have hx : xs.length = 0 := by omega
    rw [List.eq_nil_of_length_eq_zero hx]; simp
  refine ⟨w, ?_, by rw [e]; exact hown, Below.refl _ _, World.grownBy.refl _ _⟩
  rw [h0]
  exact hrun
 ·have h0' : ¬ min ys.length xs.length = 0 := h0
  rcases hown with ⟨_, ⟨e, h1⟩ | ⟨g, cap, cur, e, hb, hg, hn, hmx, hsz, ht⟩⟩
  ·omega
  cases e
  rcases r1 with r1 | ⟨b, off, rfl, hc⟩
  ·rw [r1] at h0'; simp at h0'
  have ecs : ((ys.take xs.length).map enc).length = Nat.min ys.length xs.length := by
   simp only [List.length_map, List.length_take]; exact Nat.min_comm _ _
  have ecs' : ((ys.take xs.length).map enc).length = min ys.length xs.length := ecs
  have hsrc : ∀ j u, ((ys.take xs.length).map enc)[j]? = some u → w.cell? ((⟨b, off, none⟩ : Addr).add j) = some u := by
   intro j u hj
   refine news_octs (xs := ys) hc j u ?_
   have hjl : j < xs.length := by
    have := (List.getElem?_eq_some_iff.1 hj).1
    rw [ecs'] at this; omega
   rw [← hj, List.map_take, List.getElem?_take, if_pos hjl]
  have hrun := run_copy_row (P := Try.prog) w 62 62 ty 5 g 0 xs.length dc ⟨b, off, none⟩ ys.length c cur 5 ((ys.take xs.length).map enc) Try.underlying62 hi hg ecs hsrc (by rw [ecs']; omega) (fun u hu => enc_one _ u hu)
  ·rw [ecs] at hrun
   have hgl : g < w.heap.size := lt_of_block hg
   have hL : ((ys.take xs.length).map enc).length ≤ cur.toList.length := by
    have hq : cur.toList.length = cur.size := Array.length_toList
    have hmm : min ys.length xs.length ≤ xs.length := Nat.min_le_right _ _
    rw [ecs', hq]; omega
   refine ⟨_, hrun, ?_, below_setRow (Below.refl _ _) hb _, ⟨rfl, rfl, rfl, by simp [World.setRow], fun k _ hk => setRow_other w g k _ (by rintro rfl; exact hk rfl)⟩⟩
   have hcl : cur.toList.length = dc := by rw [Array.length_toList]; omega
   have hmx' : min ys.length xs.length ≤ xs.length := Nat.min_le_right _ _
   have emin : Nat.min ys.length xs.length = min ys.length xs.length := rfl
   try rw [emin]
   refine ⟨by simp [over_length], .inr ⟨g, dc, _, by rw [over_length], hb, setRow_heap w g _ _ _ _ hg, by rw [over_length]; exact hn, hmx, ?_, ?_⟩⟩
   ·simp only [List.take_zero, List.nil_append, Nat.zero_add, List.size_toArray, List.length_append, List.length_drop]
    rw [ecs', hcl]
    omega
   ·rw [over_length]
    simp only [List.take_zero, List.nil_append, Nat.zero_add, Nat.mul_one] at ht ⊢
    have e1 : over xs ys = ys.take xs.length ++ xs.drop (min ys.length xs.length) := by
     unfold over
     congr 1
     by_cases hxy : ys.length ≤ xs.length
     ·rw [Nat.min_eq_left hxy]
     ·rw [Nat.min_eq_right (by omega), List.drop_of_length_le (by omega), List.drop_of_length_le (Nat.le_refl _)]
    rw [e1, List.map_append, List.map_drop, ← ht, List.drop_take, List.take_append, ecs', List.take_of_length_le (by rw [ecs']; omega)]
end Go.Proofs.Ytjjicajodjophaa

namespace Go.Proofs.Ytjjicajodjophaa
open Go.RowKit
abbrev Wrt := Int × List UInt8
abbrev Dsk := List (List UInt8) × List Wrt
abbrev SWr : Shp Wrt := (Shp.int .i64).pair Shp.octs
abbrev RdSec (w : World) (v : Value) (ss : List (List UInt8)) : Prop := RdS Shp.octs w v ss
abbrev RdC (w : World) (v : Value) (ws : List Wrt) : Prop := RdS SWr w v ws
theorem RdS.oct {w : World} {a : Option Addr} {n cap : Nat} {ss : List (List UInt8)} (h : RdSec w (.slice a n cap) ss) {i : Nat} {x : List UInt8} (hx : ss[i]? = some x) :
  ∃ b off u, a = some ⟨b, off, none⟩ ∧ w.cell? ⟨b, off + i, none⟩ = some u ∧ Rd w u x := by
 obtain ⟨b, off, u, e, hc, v, e2, hr⟩ := RdS.at1 rfl h hx
 simp at e2; subst e2
 exact ⟨b, off, u, e, hc, hr⟩
theorem RdS.wrt {w : World} {a : Option Addr} {n cap : Nat} {ws : List Wrt} (h : RdC w (.slice a n cap) ws) {i : Nat} {y : Wrt} (hy : ws[i]? = some y) :
  ∃ b off u, a = some ⟨b, off, none⟩ ∧ w.cell? ⟨b, off + i * 2, none⟩ = some (.int .i64 y.1) ∧ w.cell? ⟨b, off + i * 2 + 1, none⟩ = some u ∧ Rd w u y.2 := by
 obtain ⟨b, off, u, v, e, hc, hc2, e1, v', e2, hr⟩ := RdS.at2 rfl rfl h hy
 simp at e2; subst e2
 have : [u] = [Value.int .i64 y.1] := e1
 simp at this; subst this
 exact ⟨b, off, v, e, hc, hc2, hr⟩
theorem some_at {α : Type} (xs : List α) {k : Nat} (h : k < xs.length) : ∃ x, xs[k]? = some x ∧ x ∈ xs := ⟨xs[k], List.getElem?_eq_getElem h, List.getElem_mem h⟩
def pad (x : List UInt8) : List UInt8 := over (List.replicate 64 0) x
theorem pad_len (x : List UInt8) : (pad x).length = 64 := by unfold pad; rw [over_length]; simp
theorem pad_id {x : List UInt8} (h : x.length = 64) : pad x = x := by unfold pad; exact over_all (by simp [h])
def DOk (d : Dsk) : Prop := 1 ≤ d.1.length ∧ d.1.length ≤ 1024 ∧ d.2.length ≤ 4096 ∧ (∀ x ∈ d.1, x.length = 64) ∧ ∀ y ∈ d.2, (0 ≤ y.1 ∧ y.1 < d.1.length) ∧ y.2.length = 64
instance (d : Dsk) : Decidable (DOk d) := by unfold DOk; infer_instance
def dhas (d : Dsk) (k : Int) : Prop := 0 ≤ k ∧ k < d.1.length
instance (d : Dsk) (k : Int) : Decidable (dhas d k) := by unfold dhas; infer_instance
def dcheck (d : Dsk) : Int := if DOk d then 0 else 9
def dsect (d : Dsk) (k : Int) : Int := if DOk d then (if dhas d k then 0 else 41) else 9
theorem dcheck_ok {d : Dsk} (h : DOk d) : dcheck d = 0 := if_pos h
theorem dcheck_no {d : Dsk} (h : ¬ DOk d) : dcheck d = 9 := if_neg h
theorem dsect_zero {d : Dsk} {k : Int} : dsect d k = 0 ↔ DOk d ∧ dhas d k := by
 unfold dsect
 by_cases h : DOk d
 ·rw [if_pos h]
  by_cases h2 : dhas d k
  ·rw [if_pos h2]; exact ⟨fun _ => ⟨h, h2⟩, fun _ => rfl⟩
  ·rw [if_neg h2]; constructor
   ·intro e; cases e
   ·intro e; exact absurd e.2 h2
 ·rw [if_neg h]; constructor
  ·intro e; cases e
  ·intro e; exact absurd e.1 h
def dput (d : Dsk) (k : Int) (x : List UInt8) : Dsk × Int :=
 if dsect d k ≠ 0 then (([], []), dsect d k) else if 64 < x.length then (([], []), 5) else if 4096 ≤ d.2.length then (([], []), 51) else ((d.1, d.2 ++ [(k, pad x)]), 0)
def lastOf (k : Int) (x : List UInt8) (ws : List Wrt) : List UInt8 := ws.foldl (fun b y => if y.1 = k then y.2 else b) x
def dget (d : Dsk) (k : Int) : List UInt8 × Int := if dsect d k ≠ 0 then ([], dsect d k) else (lastOf k (d.1.getD k.toNat []) d.2, 0)
def lands (f : Nat → Nat) (ss : List (List UInt8)) (ws : List Wrt) : Nat → List (List UInt8)
 | 0 => ss
 | k + 1 => match ws[k]? with
  | some y => (lands f ss ws k).set y.1.toNat (over ((lands f ss ws k).getD y.1.toNat []) (y.2.take (f k)))
  | none => lands f ss ws k
def dland (d : Dsk) (f : Nat → Nat) : Dsk × Int := if DOk d then ((lands f d.1 d.2 d.2.length, []), 0) else (([], []), 9)
def clamp (cut : Int) : Nat := (max 0 (min cut 64)).toNat
def crashF (keep : List Bool) (torn cut : Int) (i : Nat) : Nat := if keep[i]? = some true then (if (i : Int) = torn then clamp cut else 64) else 0
def dcrash (d : Dsk) (keep : List Bool) (torn cut : Int) : Dsk × Int := dland d (crashF keep torn cut)
def dflush (d : Dsk) : Dsk × Int := dland d (fun _ => 64)
def drot (d : Dsk) (k at' : Int) (b : UInt8) : Dsk × Int :=
 if dsect d k ≠ 0 then (([], []), dsect d k) else if at' < 0 ∨ 64 ≤ at' then (([], []), 4) else
  ((d.1.set k.toNat ((d.1.getD k.toNat []).set at'.toNat ((d.1.getD k.toNat []).getD at'.toNat 0 ^^^ b)), d.2), 0)
def dnew (n : Int) : Dsk × Int := if n < 1 ∨ 1024 < n then (([], []), 4) else ((List.replicate n.toNat (List.replicate 64 0), []), 0)
theorem over_nil (x : List UInt8) : over x [] = x := by unfold over; simp
theorem lands_len (f : Nat → Nat) (ss : List (List UInt8)) (ws : List Wrt) (k : Nat) : (lands f ss ws k).length = ss.length := by
 induction k with
 | zero => rfl
 | succ k ih =>
  unfold lands
  cases h : ws[k]? with
  | none => simpa [h] using ih
  | some y => simpa [h] using ih
theorem lands_succ {f : Nat → Nat} {ss : List (List UInt8)} {ws : List Wrt} {k : Nat} {y : Wrt} (h : ws[k]? = some y) : lands f ss ws (k + 1) = (lands f ss ws k).set y.1.toNat (over ((lands f ss ws k).getD y.1.toNat []) (y.2.take (f k))) := by
 conv => lhs; unfold lands
 rw [h]
theorem lands_64 {f : Nat → Nat} {ss : List (List UInt8)} {ws : List Wrt} (h : ∀ x ∈ ss, x.length = 64) (k : Nat) : ∀ x ∈ lands f ss ws k, x.length = 64 := by
 induction k with
 | zero => exact h
 | succ k ih =>
  unfold lands
  cases hk : ws[k]? with
  | none => simpa using ih
  | some y =>
   intro x hx
   simp only at hx
   rcases List.mem_or_eq_of_mem_set hx with hx | rfl
   ·exact ih x hx
   ·rw [over_length]
    by_cases hl : y.1.toNat < (lands f ss ws k).length
    ·exact ih _ (by rw [List.getD_eq_getElem?_getD, List.getElem?_eq_getElem hl]; exact List.getElem_mem hl)
    ·rw [List.set_eq_of_length_le (by omega)] at hx
     have := ih _ hx
     rw [over_length] at this
     exact this
theorem getD_mem {ss : List (List UInt8)} {k : Nat} (h : k < ss.length) : ss.getD k [] ∈ ss := by rw [List.getD_eq_getElem?_getD, List.getElem?_eq_getElem h]; exact List.getElem_mem h
theorem getD_some {α : Type} {xs : List α} {k : Nat} {x d : α} (h : xs[k]? = some x) : xs.getD k d = x := by rw [List.getD_eq_getElem?_getD, h]; rfl
end Go.Proofs.Ytjjicajodjophaa

namespace Go.Proofs.Ytjjicajodjophaa
def dv : Nat := 2197175160
def M32 : Nat := 4294967296
def st (m : Nat) : Nat := m / 2 ^^^ (if m % 2 = 1 then dv else 0)
def stn : Nat → Nat → Nat
 | 0, m => m
 | k + 1, m => stn k (st m)
theorem st_xor (a b : Nat) : st (a ^^^ b) = st a ^^^ st b := by
 have h : (a ^^^ b) / 2 = a / 2 ^^^ b / 2 := by
  apply Nat.eq_of_testBit_eq; intro i
  simp [Nat.testBit_div_two, Nat.testBit_xor]
 have h0 : (a ^^^ b) % 2 = (a % 2 + b % 2) % 2 := by
  have := Nat.xor_mod_two_pow (a := a) (b := b) (n := 1)
  simp at this
  rw [this]
  have ha := Nat.mod_two_eq_zero_or_one a
  have hb := Nat.mod_two_eq_zero_or_one b
  rcases ha with ha | ha <;> rcases hb with hb | hb <;> simp [ha, hb]
 unfold st
 rw [h, h0]
 have ha := Nat.mod_two_eq_zero_or_one a
 have hb := Nat.mod_two_eq_zero_or_one b
 rcases ha with ha | ha <;> rcases hb with hb | hb <;> simp [ha, hb]
 ·rw [Nat.xor_assoc]
 ·rw [Nat.xor_assoc, Nat.xor_comm (b / 2), ← Nat.xor_assoc]
 ·rw [show a / 2 ^^^ dv ^^^ (b / 2 ^^^ dv) = a / 2 ^^^ (dv ^^^ dv) ^^^ b / 2 from by
   rw [Nat.xor_comm (b / 2) dv, ← Nat.xor_assoc, Nat.xor_assoc (a / 2) dv dv]]
  simp
theorem stn_xor (k : Nat) : ∀ a b, stn k (a ^^^ b) = stn k a ^^^ stn k b := by
 induction k with
 | zero => intro a b; rfl
 | succ k ih => intro a b; show stn k (st (a ^^^ b)) = _; rw [st_xor, ih]; rfl
theorem stn_zero (k : Nat) : stn k 0 = 0 := by
 induction k with
 | zero => rfl
 | succ k ih => exact ih
theorem stn_add (a b m : Nat) : stn (a + b) m = stn a (stn b m) := by
 induction b generalizing m with
 | zero => rfl
 | succ b ih => exact ih (st m)
theorem stn_succ (k m : Nat) : stn (k + 1) m = st (stn k m) := by rw [Nat.add_comm, stn_add]; rfl
theorem st_lt {m : Nat} (h : m < M32) : st m < M32 := by
 unfold st
 have h1 : m / 2 < 2 ^ 32 := by unfold M32 at h; omega
 have h2 : (if m % 2 = 1 then dv else 0) < 2 ^ 32 := by split <;> decide
 exact Nat.xor_lt_two_pow h1 h2
theorem stn_lt (k : Nat) : ∀ {m : Nat}, m < M32 → stn k m < M32 := by
 induction k with
 | zero => intro m h; exact h
 | succ k ih => intro m h; exact ih (st_lt h)
theorem xor_lt {a b : Nat} (ha : a < M32) (hb : b < M32) : a ^^^ b < M32 := Nat.xor_lt_two_pow (n := 32) ha hb
theorem st_ne {m : Nat} (h : m < M32) (h0 : m ≠ 0) : st m ≠ 0 := by
 unfold st
 intro e
 rcases Nat.mod_two_eq_zero_or_one m with h2 | h2
 ·simp [h2] at e; omega
 ·rw [if_pos h2] at e
  have e2 : m / 2 = dv := by
   have := congrArg (· ^^^ dv) e
   simpa [Nat.xor_assoc] using this
  unfold M32 at h; unfold dv at e2; omega
theorem stn_ne (k : Nat) : ∀ {m : Nat}, m < M32 → m ≠ 0 → stn k m ≠ 0 := by
 induction k with
 | zero => intro m _ h; exact h
 | succ k ih => intro m h h0; exact ih (st_lt h) (st_ne h h0)
theorem st_even (q : Nat) : st (2 * q) = q := by
 unfold st; simp
theorem stn_pow (k : Nat) : ∀ q, stn k (2 ^ k * q) = q := by
 induction k with
 | zero => intro q; simp [stn]
 | succ k ih =>
  intro q
  show stn k (st (2 ^ (k + 1) * q)) = q
  rw [show 2 ^ (k + 1) * q = 2 * (2 ^ k * q) from by rw [Nat.pow_succ]; ac_rfl, st_even, ih]
theorem split_xor (k r : Nat) : r = (r % 2 ^ k) ^^^ (2 ^ k * (r / 2 ^ k)) := by
 apply Nat.eq_of_testBit_eq; intro i
 rw [Nat.testBit_xor, Nat.testBit_mod_two_pow, Nat.testBit_two_pow_mul, Nat.testBit_div_two_pow]
 by_cases h : i < k
 ·simp [h, show ¬ k ≤ i by omega]
 ·simp [h, show k ≤ i by omega]
def tn (r o : Nat) : Nat := stn 8 (r ^^^ o)
theorem tn_lt {r o : Nat} (h : r < M32) (ho : o < 256) : tn r o < M32 := stn_lt 8 (xor_lt h (by unfold M32; omega))
theorem tn_table (r o : Nat) : tn r o = (r / 256) ^^^ stn 8 (r % 256 ^^^ o) := by
 unfold tn
 have h := split_xor 8 r
 have e : r ^^^ o = (r % 256 ^^^ o) ^^^ (2 ^ 8 * (r / 256)) := by
  conv => lhs; rw [h]
  show (r % 256) ^^^ (2 ^ 8 * (r / 256)) ^^^ o = _
  rw [Nat.xor_assoc, Nat.xor_comm (2 ^ 8 * (r / 256)) o, ← Nat.xor_assoc]
 rw [e, stn_xor, stn_pow, Nat.xor_comm]
def reg (r : Nat) (xs : List UInt8) : Nat := xs.foldl (fun r x => tn r x.toNat) r
theorem reg_cons (r : Nat) (x : UInt8) (xs : List UInt8) : reg r (x :: xs) = reg (tn r x.toNat) xs := rfl
theorem reg_app (r : Nat) (xs ys : List UInt8) : reg r (xs ++ ys) = reg (reg r xs) ys := by simp [reg]
theorem reg_lt (xs : List UInt8) : ∀ {r : Nat}, r < M32 → reg r xs < M32 := by
 induction xs with
 | nil => intro r h; exact h
 | cons x xs ih => intro r h; exact ih (tn_lt h (UInt8.toNat_lt x))
def num : List UInt8 → Nat
 | [] => 0
 | x :: xs => x.toNat ^^^ (2 ^ 8 * num xs)
theorem reg_num (xs : List UInt8) : ∀ r, reg r xs = stn (8 * xs.length) (r ^^^ num xs) := by
 induction xs with
 | nil => intro r; simp [reg, num, stn]
 | cons x xs ih =>
  intro r
  rw [reg_cons, ih, show 8 * (x :: xs).length = 8 * xs.length + 8 from by simp; omega, stn_add]
  congr 1
  rw [num, ← Nat.xor_assoc, stn_xor 8 _ (2 ^ 8 * num xs), stn_pow]
  rfl
theorem ff_is : ∃ n : Nat, n = 4294967295 := ⟨_, rfl⟩
noncomputable def ff : Nat := Classical.choose ff_is
theorem ff_eq : ff = 4294967295 := Classical.choose_spec ff_is
noncomputable def inv (r : Nat) : Nat := ff ^^^ r
theorem inv_lt {r : Nat} (h : r < M32) : inv r < M32 := xor_lt (by rw [ff_eq]; decide) h
theorem xor_back (f r : Nat) : f ^^^ (f ^^^ r) = r := by rw [← Nat.xor_assoc, Nat.xor_self, Nat.zero_xor]
theorem inv_inv (r : Nat) : inv (inv r) = r := xor_back ff r
theorem inv_inj {a b : Nat} (h : inv a = inv b) : a = b := by rw [← inv_inv a, h, inv_inv]
noncomputable def ext (c : Nat) (xs : List UInt8) : Nat := inv (reg (inv c) xs)
noncomputable def sum (xs : List UInt8) : Nat := ext 0 xs
theorem ext_lt {c : Nat} (h : c < M32) (xs : List UInt8) : ext c xs < M32 := inv_lt (reg_lt xs (inv_lt h))
theorem sum_lt (xs : List UInt8) : sum xs < M32 := ext_lt (by decide) xs
end Go.Proofs.Ytjjicajodjophaa

namespace Go.Proofs.Ytjjicajodjophaa
theorem mul_xor (k a b : Nat) : 2 ^ k * (a ^^^ b) = 2 ^ k * a ^^^ 2 ^ k * b := by
 apply Nat.eq_of_testBit_eq; intro i
 simp only [Nat.testBit_two_pow_mul, Nat.testBit_xor]
 cases decide (i ≥ k) <;> simp
set_option maxRecDepth 100000 in
theorem turned {xs ys : List UInt8} {at_ t : Nat} (hl : ys.length = xs.length) (h : num ys = num xs ^^^ 2 ^ at_ * t) (ha : at_ ≤ 8 * xs.length) (ht : t < M32) (h0 : t ≠ 0) : sum ys ≠ sum xs := by
 intro e
 have e2 : reg (inv 0) ys = reg (inv 0) xs := inv_inj e
 rw [reg_num, reg_num, hl, h, ← Nat.xor_assoc, stn_xor] at e2
 have e3 : stn (8 * xs.length) (2 ^ at_ * t) = 0 := by
  have := congrArg (stn (8 * xs.length) (inv 0 ^^^ num xs) ^^^ ·) e2
  simp only [xor_back, Nat.xor_self] at this
  exact this
 rw [show 8 * xs.length = (8 * xs.length - at_) + at_ from by omega, stn_add, stn_pow] at e3
 exact stn_ne _ ht h0 e3
end Go.Proofs.Ytjjicajodjophaa

namespace Go.Proofs.Ytjjicajodjophaa
abbrev Blk := Int × Int × Int × Int × Int
def bls (b : Blk) : List Int := [b.1, b.2.1, b.2.2.1, b.2.2.2.1, b.2.2.2.2]
def bfit (n : Int) : Prop := 0 ≤ n ∧ n ≤ 1099511627776
instance (n : Int) : Decidable (bfit n) := by unfold bfit; infer_instance
def bok (b : Blk) : Prop := ∀ n ∈ bls b, bfit n
instance (b : Blk) : Decidable (bok b) := by unfold bok; infer_instance
def snum (x : List UInt8) (i : Nat) : Nat := numOf ((x.take (12 + 8 * i)).drop (4 + 8 * i))
def sfit (x : List UInt8) : Prop := ∀ i, i < 5 → snum x i ≤ 1099511627776
instance (x : List UInt8) : Decidable (sfit x) := by unfold sfit; infer_instance
def fx (xs : List UInt8) (k : Nat) (c : UInt8) : List UInt8 := xs.set k (xs.getD k 0 ^^^ c)
theorem fx_len (xs : List UInt8) (k : Nat) (c : UInt8) : (fx xs k c).length = xs.length := by simp [fx]
theorem fx_num (xs : List UInt8) (c : UInt8) : ∀ k, k < xs.length → num (fx xs k c) = num xs ^^^ 2 ^ (8 * k) * c.toNat := by
 induction xs with
 | nil => intro k h; simp at h
 | cons x xs ih =>
  intro k h
  cases k with
  | zero =>
   show num ((x ^^^ c) :: xs) = _
   rw [num, num, UInt8.toNat_xor, Nat.xor_assoc, Nat.xor_comm c.toNat, ← Nat.xor_assoc, Nat.mul_zero, Nat.pow_zero, Nat.one_mul]
  | succ k =>
   have := ih k (by simpa using h)
   unfold fx at this ⊢
   show num (x :: xs.set k (xs.getD k 0 ^^^ c)) = _
   rw [num, num, this, mul_xor, ← Nat.xor_assoc, show 8 * (k + 1) = 8 + 8 * k by omega, Nat.pow_add, Nat.mul_assoc]
theorem c_ne {c : UInt8} (h : c ≠ 0) : c.toNat ≠ 0 := fun e => h (UInt8.toNat_inj.1 (by rw [e]; rfl))
theorem fx_ne (xs : List UInt8) (k : Nat) {c : UInt8} (h : k < xs.length) (hc : c ≠ 0) : fx xs k c ≠ xs := by
 intro e
 have h1 := fx_num xs c k h
 rw [e] at h1
 have h2 := congrArg (num xs ^^^ ·) h1
 simp only [Nat.xor_self, xor_back] at h2
 have h3 := Nat.mul_pos (Nat.two_pow_pos (8 * k)) (Nat.pos_of_ne_zero (c_ne hc))
 omega
set_option maxRecDepth 100000 in
theorem fx_sum (xs : List UInt8) (k : Nat) {c : UInt8} (h : k < xs.length) (hc : c ≠ 0) : sum (fx xs k c) ≠ sum xs :=
 turned (at_ := 8 * k) (t := c.toNat) (fx_len xs k c) (fx_num xs c k h) (by omega) (by have := c.toNat_lt; unfold M32; omega) (c_ne hc)
theorem getD_take (xs : List UInt8) (k n : Nat) (h : k < n) : (xs.take n).getD k 0 = xs.getD k 0 := by
 simp [List.getD_eq_getElem?_getD, h]
theorem fx_take_lt (xs : List UInt8) (k n : Nat) (c : UInt8) (h : k < n) : (fx xs k c).take n = fx (xs.take n) k c := by
 unfold fx
 rw [List.take_set, getD_take xs k n h]
theorem fx_take_ge (xs : List UInt8) (k n : Nat) (c : UInt8) (h : n ≤ k) : (fx xs k c).take n = xs.take n := by
 unfold fx; rw [List.take_set_of_le h]
theorem fx_drop_ge (xs : List UInt8) (k n : Nat) (c : UInt8) (h : n ≤ k) : (fx xs k c).drop n = fx (xs.drop n) (k - n) c := by
 unfold fx
 rw [List.drop_set, if_neg (by omega)]
 congr 2
 simp [List.getD_eq_getElem?_getD, show n + (k - n) = k by omega]
theorem fx_drop_lt (xs : List UInt8) (k n : Nat) (c : UInt8) (h : k < n) : (fx xs k c).drop n = xs.drop n := by
 unfold fx; rw [List.drop_set_of_lt h]
end Go.Proofs.Ytjjicajodjophaa

namespace Go.Proofs.Ytjjicajodjophaa
def pgmark : List UInt8 := [112, 103]
def pghead (id : Nat) (d : List UInt8) : List UInt8 := pgmark ++ oc d.length 2 ++ oc id 4 ++ d ++ List.replicate (244 - d.length) 0
noncomputable def pgencO (id : Nat) (d : List UInt8) : List UInt8 := pghead id d ++ oc (sum (pghead id d)) 4
noncomputable def pgenc (id : Int) (d : List UInt8) : List UInt8 × Int :=
 if id < 0 ∨ 2147483647 < id then ([], 4) else if 244 < d.length then ([], 5) else (pgencO id.toNat d, 0)
def pgn (b : List UInt8) : Nat := numOf ((b.take 4).drop 2)
def pgid (b : List UInt8) : Nat := numOf ((b.take 8).drop 4)
noncomputable def pgdec (b : List UInt8) : Int × List UInt8 × Int :=
 if b.length ≠ 256 then (0, [], 3) else if numOf (b.drop 252) ≠ sum (b.take 252) then (0, [], 21) else if b.take 2 ≠ pgmark then (0, [], 22) else
  if 244 < pgn b then (0, [], 5) else if 2147483647 < pgid b then (0, [], 4) else
   if (b.take 252).drop (8 + pgn b) ≠ List.replicate (244 - pgn b) 0 then (0, [], 23) else (pgid b, (b.take (8 + pgn b)).drop 8, 0)
def pgsect (d : Dsk) (at' : Int) : Int := if ¬ DOk d then 9 else if at' < 0 ∨ (d.1.length : Int) - 4 < at' then 41 else 0
def psec (b : List UInt8) (i : Nat) : List UInt8 := (b.take (64 * i + 64)).drop (64 * i)
def pws (at' : Int) (b : List UInt8) : Nat → List Wrt
 | 0 => []
 | k + 1 => pws at' b k ++ [(at' + k, psec b k)]
noncomputable def pgwrite (d : Dsk) (at' id : Int) (x : List UInt8) : Dsk × Int :=
 if pgsect d at' ≠ 0 then (([], []), pgsect d at') else if (pgenc id x).2 ≠ 0 then (([], []), (pgenc id x).2) else
  if 4092 < d.2.length then (([], []), 51) else ((d.1, d.2 ++ pws at' (pgenc id x).1 4), 0)
def pgot (d : Dsk) (at' : Int) : Nat → List UInt8
 | 0 => []
 | k + 1 => pgot d at' k ++ (dget d (at' + k)).1
noncomputable def pgread (d : Dsk) (at' id : Int) : List UInt8 × Int :=
 if pgsect d at' ≠ 0 then ([], pgsect d at') else if (pgdec (pgot d at' 4)).2.2 ≠ 0 ∨ (pgdec (pgot d at' 4)).1 ≠ id then ([], 21) else ((pgdec (pgot d at' 4)).2.1, 0)
theorem pghead_len (id : Nat) {d : List UInt8} (h : d.length ≤ 244) : (pghead id d).length = 252 := by
 unfold pghead
 simp only [List.length_append, oc_length, List.length_replicate]
 show 2 + 2 + 4 + _ + _ = _
 omega
theorem pgenc_len (id : Nat) {d : List UInt8} (h : d.length ≤ 244) : (pgencO id d).length = 256 := by
 unfold pgencO
 rw [List.length_append, pghead_len id h, oc_length]
theorem pgenc_range {id : Int} {d : List UInt8} (h : id < 0 ∨ 2147483647 < id) : pgenc id d = ([], 4) := if_pos h
theorem pgenc_long {id : Int} {d : List UInt8} (h : ¬ (id < 0 ∨ 2147483647 < id)) (h2 : 244 < d.length) : pgenc id d = ([], 5) := by unfold pgenc; rw [if_neg h, if_pos h2]
theorem pgenc_yes {id : Int} {d : List UInt8} (h : ¬ (id < 0 ∨ 2147483647 < id)) (h2 : ¬ 244 < d.length) : pgenc id d = (pgencO id.toNat d, 0) := by unfold pgenc; rw [if_neg h, if_neg h2]
theorem pgenc_zero {id : Int} {d : List UInt8} (h : (pgenc id d).2 = 0) : (0 ≤ id ∧ id ≤ 2147483647) ∧ d.length ≤ 244 ∧ pgenc id d = (pgencO id.toNat d, 0) := by
 by_cases h1 : id < 0 ∨ 2147483647 < id
 ·rw [pgenc_range h1] at h; cases h
 ·by_cases h2 : 244 < d.length
  ·rw [pgenc_long h1 h2] at h; cases h
  ·exact ⟨by omega, by omega, pgenc_yes h1 h2⟩
theorem cut_mid {α : Type} (a b c : List α) {i j : Nat} (hi : a.length = i) (hj : a.length + b.length = j) : ((a ++ b ++ c).take j).drop i = b := by
 rw [List.take_left' (by rw [List.length_append]; omega), List.drop_left' hi]
theorem pg_take252 (id : Nat) {d : List UInt8} (h : d.length ≤ 244) : (pgencO id d).take 252 = pghead id d := by
 unfold pgencO; rw [List.take_left' (pghead_len id h)]
theorem pg_drop252 (id : Nat) {d : List UInt8} (h : d.length ≤ 244) : (pgencO id d).drop 252 = oc (sum (pghead id d)) 4 := by
 unfold pgencO; rw [List.drop_left' (pghead_len id h)]
theorem pg_shape (id : Nat) (d : List UInt8) : pgencO id d = pgmark ++ (oc d.length 2 ++ (oc id 4 ++ (d ++ (List.replicate (244 - d.length) 0 ++ oc (sum (pghead id d)) 4)))) := by
 unfold pgencO
 conv => lhs; unfold pghead
 simp only [List.append_assoc]
 rfl
theorem pg_take2 (id : Nat) (d : List UInt8) : (pgencO id d).take 2 = pgmark := by
 rw [pg_shape, List.take_left' (show pgmark.length = 2 from rfl)]
theorem pg_n (id : Nat) {d : List UInt8} (h : d.length ≤ 244) : pgn (pgencO id d) = d.length := by
 unfold pgn
 rw [pg_shape, ← List.append_assoc, cut_mid pgmark (oc d.length 2) _ (show pgmark.length = 2 from rfl) (show pgmark.length + (oc d.length 2).length = 4 by rw [oc_length]; rfl), numOf_oc _ _ (by omega)]
theorem pg_id {id : Nat} (d : List UInt8) (h : id ≤ 2147483647) : pgid (pgencO id d) = id := by
 unfold pgid
 rw [pg_shape, ← List.append_assoc, ← List.append_assoc, cut_mid (pgmark ++ oc d.length 2) (oc id 4) _ (show (pgmark ++ oc d.length 2).length = 4 by rw [List.length_append, oc_length]; rfl) (show (pgmark ++ oc d.length 2).length + (oc id 4).length = 8 by rw [List.length_append, oc_length, oc_length]; rfl), numOf_oc _ _ (by omega)]
theorem pg_data (id : Nat) (d : List UInt8) : ((pgencO id d).take (8 + d.length)).drop 8 = d := by
 rw [pg_shape, ← List.append_assoc, ← List.append_assoc, ← List.append_assoc]
 exact cut_mid (pgmark ++ oc d.length 2 ++ oc id 4) d _ (by simp only [List.length_append, oc_length]; rfl) (by simp only [List.length_append, oc_length]; rfl)
theorem pg_tail (id : Nat) {d : List UInt8} (h : d.length ≤ 244) : ((pgencO id d).take 252).drop (8 + d.length) = List.replicate (244 - d.length) 0 := by
 rw [pg_take252 id h]
 unfold pghead
 exact List.drop_left' (by simp only [List.length_append, oc_length]; show 2 + 2 + 4 + _ = _; omega)
theorem pgdec_enc {id : Nat} {d : List UInt8} (h : id ≤ 2147483647) (hd : d.length ≤ 244) : pgdec (pgencO id d) = ((id : Int), d, 0) := by
 have hs := sum_lt (pghead id d)
 unfold M32 at hs
 unfold pgdec
 rw [if_neg (fun k => k (pgenc_len id hd)), if_neg (fun k => k (by rw [pg_drop252 id hd, pg_take252 id hd, numOf_oc _ _ (by omega)])), if_neg (fun k => k (pg_take2 id d)), pg_n id hd, pg_id d h, if_neg (by omega), if_neg (by omega), if_neg (fun k => k (pg_tail id hd)), pg_data id d]
theorem pgdec_sum {b : List UInt8} (h : (pgdec b).2.2 = 0) : b.length = 256 ∧ numOf (b.drop 252) = sum (b.take 252) := by
 unfold pgdec at h
 by_cases h1 : b.length ≠ 256
 ·rw [if_pos h1] at h; cases h
 ·rw [if_neg h1] at h
  by_cases h2 : numOf (b.drop 252) ≠ sum (b.take 252)
  ·rw [if_pos h2] at h; cases h
  ·exact ⟨Decidable.not_not.1 h1, Decidable.not_not.1 h2⟩
theorem pnumTo_inj (xs ys : List UInt8) (k : Nat) (h : numTo xs k = numTo ys k) : ∀ i, i < k → xs.getD i 0 = ys.getD i 0 := by
 induction k with
 | zero => intro i hi; omega
 | succ k ih =>
  simp only [numTo] at h
  have h1 := (xs.getD k 0).toNat_lt
  have h2 := (ys.getD k 0).toNat_lt
  intro i hi
  by_cases e : i = k
  ·subst e; exact UInt8.toNat_inj.1 (by omega)
  ·exact ih (by omega) i (by omega)
theorem pnumOf_inj {xs ys : List UInt8} (hl : xs.length = ys.length) (h : numOf xs = numOf ys) : xs = ys := by
 unfold numOf at h
 rw [hl] at h
 apply List.ext_getElem hl
 intro i h1 h2
 have := pnumTo_inj xs ys ys.length h i h2
 simpa [h1, h2] using this
theorem pgdec_turned (id : Nat) {d : List UInt8} (hd : d.length ≤ 244) {k : Nat} {c : UInt8} (hk : k < 256) (hc : c ≠ 0) : (pgdec (fx (pgencO id d) k c)).2.2 ≠ 0 := by
 intro h0
 obtain ⟨h1, h2⟩ := pgdec_sum h0
 have hs := sum_lt (pghead id d)
 unfold M32 at hs
 by_cases k1 : k < 252
 ·rw [fx_drop_lt _ _ _ _ k1, fx_take_lt _ _ _ _ k1, pg_drop252 id hd, pg_take252 id hd, numOf_oc _ _ (by omega)] at h2
  exact fx_sum (pghead id d) k (by rw [pghead_len id hd]; exact k1) hc h2.symm
 ·rw [fx_drop_ge _ _ _ _ (by omega), fx_take_ge _ _ _ _ (by omega), pg_drop252 id hd, pg_take252 id hd] at h2
  refine fx_ne (oc (sum (pghead id d)) 4) (k - 252) (by rw [oc_length]; omega) hc (pnumOf_inj (by rw [fx_len]) ?_)
  rw [h2, numOf_oc _ _ (by omega)]
theorem psec_len {b : List UInt8} (h : b.length = 256) {i : Nat} (hi : i < 4) : (psec b i).length = 64 := by
 unfold psec; rw [List.length_drop, List.length_take]; omega
theorem psec_all {b : List UInt8} (h : b.length = 256) : psec b 0 ++ psec b 1 ++ psec b 2 ++ psec b 3 = b := by
 unfold psec
 have e : ∀ i j : Nat, i ≤ j → b.take i ++ (b.take j).drop i = b.take j := by
  intro i j hij
  conv => rhs; rw [← List.take_append_drop i (b.take j), List.take_take, Nat.min_eq_left hij]
 show (b.take 64).drop 0 ++ (b.take 128).drop 64 ++ (b.take 192).drop 128 ++ (b.take 256).drop 192 = b
 rw [List.drop_zero, e 64 128 (by omega), e 128 192 (by omega), e 192 256 (by omega), List.take_of_length_le (by omega)]
theorem pws_len (at' : Int) (b : List UInt8) : ∀ k, (pws at' b k).length = k
 | 0 => rfl
 | k + 1 => by rw [pws, List.length_append, pws_len at' b k]; rfl
theorem pws_mem {at' : Int} {b : List UInt8} : ∀ {k : Nat} {y : Wrt}, y ∈ pws at' b k → ∃ i : Nat, i < k ∧ y = (at' + i, psec b i)
 | 0, y, h => nomatch h
 | k + 1, y, h => by
  rw [pws, List.mem_append] at h
  rcases h with h | h
  ·obtain ⟨i, hi, e⟩ := pws_mem h
   exact ⟨i, by omega, e⟩
  ·simp only [List.mem_singleton] at h
   exact ⟨k, by omega, h⟩
theorem lastOf_app (k : Int) (x : List UInt8) (a b : List Wrt) : lastOf k x (a ++ b) = lastOf k (lastOf k x a) b := by unfold lastOf; rw [List.foldl_append]
theorem lastOf_pws (j at' : Int) (b x : List UInt8) : ∀ k, lastOf j x (pws at' b k) = if at' ≤ j ∧ j < at' + k then psec b (j - at').toNat else x
 | 0 => by
  rw [if_neg (by omega)]; rfl
 | k + 1 => by
  rw [pws, lastOf_app, lastOf_pws j at' b x k]
  show (if at' + k = j then psec b k else _) = _
  by_cases h : at' + k = j
  ·rw [if_pos h, if_pos (by omega)]
   congr 1; omega
  ·rw [if_neg h]
   by_cases h2 : at' ≤ j ∧ j < at' + k
   ·rw [if_pos h2, if_pos (by omega)]
   ·rw [if_neg h2, if_neg (by omega)]
theorem pgsect_0 {d : Dsk} {at' : Int} : pgsect d at' = 0 ↔ DOk d ∧ 0 ≤ at' ∧ at' ≤ (d.1.length : Int) - 4 := by
 unfold pgsect
 by_cases h : DOk d
 ·rw [if_neg (fun k => k h)]
  by_cases h2 : at' < 0 ∨ (d.1.length : Int) - 4 < at'
  ·rw [if_pos h2]
   exact ⟨fun e => (by cases e), fun e => (by omega)⟩
  ·rw [if_neg h2]
   exact ⟨fun _ => ⟨h, by omega, by omega⟩, fun _ => rfl⟩
 ·rw [if_pos h]
  exact ⟨fun e => (by cases e), fun e => absurd e.1 h⟩
theorem dget_at {d : Dsk} {k : Int} (h : DOk d) (h0 : 0 ≤ k) (h1 : k < d.1.length) : dget d k = (lastOf k (d.1.getD k.toNat []) d.2, 0) := by
 unfold dget; rw [if_neg (fun e => e (dsect_zero.2 ⟨h, h0, h1⟩))]
theorem dok_write {d : Dsk} (h : DOk d) {at' : Int} {b : List UInt8} (hb : b.length = 256) (h0 : 0 ≤ at') (h1 : at' ≤ (d.1.length : Int) - 4) (hc : d.2.length ≤ 4092) : DOk (d.1, d.2 ++ pws at' b 4) := by
 refine ⟨h.1, h.2.1, ?_, h.2.2.2.1, ?_⟩
 ·show (d.2 ++ _).length ≤ _
  rw [List.length_append, pws_len]; omega
 ·intro y hy
  rcases List.mem_append.1 hy with hy | hy
  ·exact h.2.2.2.2 y hy
  ·obtain ⟨i, hi, rfl⟩ := pws_mem hy
   exact ⟨⟨by dsimp only; omega, by dsimp only; omega⟩, psec_len hb hi⟩
theorem pgwrite_yes {d : Dsk} {at' id : Int} {x : List UInt8} (h : DOk d) (h0 : 0 ≤ at') (h1 : at' ≤ (d.1.length : Int) - 4) (h2 : (pgenc id x).2 = 0) (hc : d.2.length ≤ 4092) : pgwrite d at' id x = ((d.1, d.2 ++ pws at' (pgencO id.toNat x) 4), 0) := by
 unfold pgwrite
 rw [if_neg (fun k => k (pgsect_0.2 ⟨h, h0, h1⟩)), if_neg (fun k => k h2), if_neg (by omega), (pgenc_zero h2).2.2]
theorem dget_write {d : Dsk} (h : DOk d) {at' : Int} {b : List UInt8} (hb : b.length = 256) (h0 : 0 ≤ at') (h1 : at' ≤ (d.1.length : Int) - 4) (hc : d.2.length ≤ 4092) {j : Int} (hj : 0 ≤ j) (hj1 : j < d.1.length) :
  (dget (d.1, d.2 ++ pws at' b 4) j).1 = if at' ≤ j ∧ j < at' + 4 then psec b (j - at').toNat else (dget d j).1 := by
 rw [dget_at (dok_write h hb h0 h1 hc) hj hj1, dget_at h hj hj1]
 dsimp only
 rw [lastOf_app, lastOf_pws]
 rfl
theorem pgot_write {d : Dsk} (h : DOk d) {at' : Int} {b : List UInt8} (hb : b.length = 256) (h0 : 0 ≤ at') (h1 : at' ≤ (d.1.length : Int) - 4) (hc : d.2.length ≤ 4092) : pgot (d.1, d.2 ++ pws at' b 4) at' 4 = b := by
 have e : ∀ i : Nat, i < 4 → (dget (d.1, d.2 ++ pws at' b 4) (at' + i)).1 = psec b i := by
  intro i hi
  rw [dget_write h hb h0 h1 hc (by omega) (by omega), if_pos (by omega)]
  congr 1; omega
 show ([] ++ (dget _ (at' + (0 : Nat))).1 ++ (dget _ (at' + (1 : Nat))).1 ++ (dget _ (at' + (2 : Nat))).1 ++ (dget _ (at' + (3 : Nat))).1) = b
 rw [e 0 (by decide), e 1 (by decide), e 2 (by decide), e 3 (by decide), List.nil_append, psec_all hb]
theorem pgot_other {d : Dsk} (h : DOk d) {at' : Int} {b : List UInt8} (hb : b.length = 256) (h0 : 0 ≤ at') (h1 : at' ≤ (d.1.length : Int) - 4) (hc : d.2.length ≤ 4092) {to' : Int} (t0 : 0 ≤ to') (t1 : to' ≤ (d.1.length : Int) - 4) (ht : to' + 4 ≤ at' ∨ at' + 4 ≤ to') : pgot (d.1, d.2 ++ pws at' b 4) to' 4 = pgot d to' 4 := by
 have e : ∀ i : Nat, i < 4 → (dget (d.1, d.2 ++ pws at' b 4) (to' + i)).1 = (dget d (to' + i)).1 := by
  intro i hi
  rw [dget_write h hb h0 h1 hc (by omega) (by omega), if_neg (by omega)]
 show ([] ++ (dget _ (to' + (0 : Nat))).1 ++ (dget _ (to' + (1 : Nat))).1 ++ (dget _ (to' + (2 : Nat))).1 ++ (dget _ (to' + (3 : Nat))).1) = ([] ++ (dget _ (to' + (0 : Nat))).1 ++ (dget _ (to' + (1 : Nat))).1 ++ (dget _ (to' + (2 : Nat))).1 ++ (dget _ (to' + (3 : Nat))).1)
 rw [e 0 (by decide), e 1 (by decide), e 2 (by decide), e 3 (by decide)]
theorem pgread_back {d : Dsk} {at' id : Int} {x : List UInt8} (h : DOk d) (h0 : 0 ≤ at') (h1 : at' ≤ (d.1.length : Int) - 4) (h2 : (pgenc id x).2 = 0) (hc : d.2.length ≤ 4092) (other : Int) : pgread (pgwrite d at' id x).1 at' other = if other = id then (x, 0) else ([], 21) := by
 obtain ⟨⟨i0, i1⟩, hx, he⟩ := pgenc_zero h2
 have hb := pgenc_len id.toNat hx
 rw [pgwrite_yes h h0 h1 h2 hc]
 unfold pgread
 rw [if_neg (fun k => k (pgsect_0.2 ⟨dok_write h hb h0 h1 hc, h0, h1⟩)), pgot_write h hb h0 h1 hc, pgdec_enc (by omega) hx]
 dsimp only
 by_cases e : other = id
 ·rw [if_pos e, if_neg]
  rintro (k | k)
  ·exact k rfl
  ·omega
 ·rw [if_neg e, if_pos (.inr (by omega))]
end Go.Proofs.Ytjjicajodjophaa

namespace Go.Proofs.Ytjjicajodjophaa
def z64s (n : Nat) : List (List UInt8) := List.replicate n (List.replicate 64 0)
theorem dnew_yes {n : Nat} (h : 1 ≤ n) (h2 : n ≤ 1024) : dnew (n : Int) = ((z64s n, []), 0) := by
 unfold dnew; rw [if_neg (by omega), Int.toNat_natCast]; rfl
theorem dok_new {n : Nat} (h : 1 ≤ n) (h2 : n ≤ 1024) : DOk (z64s n, []) := by
 refine ⟨by simp [z64s]; omega, by simp [z64s]; omega, by simp, ?_, fun y hy => nomatch hy⟩
 intro x hx
 rw [(List.mem_replicate.1 hx).2]; simp
theorem z64s_len (n : Nat) : (z64s n).length = n := by simp [z64s]
theorem fx_left (a b : List UInt8) (k : Nat) (c : UInt8) (h : k < a.length) : fx (a ++ b) k c = fx a k c ++ b := by
 unfold fx
 rw [List.set_append_left _ _ h]
 congr 3
 simp [List.getD_eq_getElem?_getD, List.getElem?_append_left h]
theorem fx_right (a b : List UInt8) (k : Nat) (c : UInt8) (h : a.length ≤ k) : fx (a ++ b) k c = a ++ fx b (k - a.length) c := by
 unfold fx
 rw [List.set_append_right _ _ h]
 congr 3
 simp [List.getD_eq_getElem?_getD, List.getElem?_append_right h]
end Go.Proofs.Ytjjicajodjophaa

namespace Go.Proofs.Ytjjicajodjophaa
open Go.RowKit
abbrev SSec : Shp (List (List UInt8)) := Shp.list 62 Shp.octs
theorem make_64 (u : World) : (Instr.makeSlice 62 (.int .i64 64) (.int .i64 64)).run Try.prog u =
      .ok (.slice (some ⟨u.heap.size, 0, none⟩) 64 64) (u.alloc (.cells (madeCells #[.int .u8 0] 64) 5)) := make_octs (n := 64) (by omega) u
set_option maxRecDepth 100000 in
set_option maxHeartbeats 400000 in
theorem sectorOf_any (w : World) (v : Value) (x : List UInt8) (h : Rd w v x) :
  Calls Try.prog 82 #[v] w fun e w' => ∃ v', e = .returned v' ∧ OwnB w.heap.size w' v' (pad x) ∧ Below w.heap.size w w' := by
 have hmk := make_64
 have om := own_made w 64 (by unfold maxLen; omega)
 obtain ⟨w1, hw1⟩ : ∃ w1, w1 = w.alloc (.cells (madeCells #[.int .u8 0] 64) 5) := ⟨_, rfl⟩
 rw [← hw1] at om
 have b1 : Below w.heap.size w w1 := by rw [hw1]; exact (Below.refl _ _).alloc (Nat.le_refl _) _
 obtain ⟨w2, hrun, o2, b2, _⟩ := run_copy_octs 3 om (h.to b1)
 rw [List.length_replicate, hw1] at hrun
 replace hw1 := hide hw1
 have B2 := hide (b1.trans b2)
 have O2 := hide o2
 obtain ⟨a, c, rfl⟩ := h.slice
 clear b1 b2 o2 om h
 go_enter Try.func82, Try.ntmps82
 go_wp2
 go_ret
 exact ⟨_, rfl, O2.out, B2.out⟩
theorem infoB : (Try.prog.info? 62).map (fun i => (i.zero, i.size, i.bytes)) = some (some (.slice none 0 0), 1, 24) := by kernel_rfl
theorem make_lists {n : Nat} (hn : n ≤ 10000000000000) (u : World) : (Instr.makeSlice 22 (.int .i64 (n : Int)) (.int .i64 (n : Int))).run Try.prog u =
      .ok (.slice (some ⟨u.heap.size, 0, none⟩) n n) (u.alloc (.cells (madeCells #[.slice none 0 0] n) 62)) := by
 obtain ⟨i0, hi, hz0, hz1, hz2⟩ := info_parts infoB
 have h := run_make (P := Try.prog) u 22 62 i0 (.slice none 0 0) Try.underlying22 hi hz0 .i64 .i64 (n : Int) (n : Int) (by omega) (Int.le_refl _) (by rw [hz2]; omega) (by omega)
 simpa [hz1, Value.cells] using h
theorem own_lists (w : World) (n : Nat) (h : n ≤ 10000000000000) : Own SSec w.heap.size (w.alloc (.cells (madeCells #[.slice none 0 0] n) 62)) [.slice (some ⟨w.heap.size, 0, none⟩) n n] (List.replicate n []) := by
 refine Own.made octs_nil ?_
 have := World.ownsRow_lit (base := w.heap.size) (e := 62) (size := 1) w (madeCells #[.slice none 0 0] n) n (Nat.le_refl _) (by unfold maxLen; omega) (by simp [madeCells])
 rw [toList_madeCells_one] at this
 exact this
theorem map_part {α β : Type} (f : α → β) (z : β) (xs : List α) {k : Nat} {x : α} (hx : xs[k]? = some x) : ((xs.take k).map f ++ List.replicate (xs.length - k) z).set k (f x) = (xs.take (k + 1)).map f ++ List.replicate (xs.length - (k + 1)) z := by
 have hk : k < xs.length := (List.getElem?_eq_some_iff.1 hx).1
 rw [show xs.length - k = (xs.length - (k + 1)) + 1 from by omega, List.replicate_succ]
 rw [List.set_append_right _ _ (by simp; omega)]
 have e : k - ((xs.take k).map f).length = 0 := by simp; omega
 rw [e, List.set_cons_zero, List.take_add_one, hx]
 simp
theorem OwnF.sector {F : List Nat} {w : World} {sv : Value} {ss : List (List UInt8)} (h : OwnF SSec F w [sv] ss) {k : Nat} {x : List UInt8} (hx : ss[k]? = some x) :
  ∃ g cap u, sv = .slice (some ⟨g, 0, none⟩) ss.length cap ∧ ss.length ≤ cap ∧ w.cell? ⟨g, k, none⟩ = some u ∧ OwnB 0 w u x ∧ g ∈ F ∧ (∀ b, u.ownBlock = some b → b ∈ F ∧ b ≠ g) ∧
   ∀ w' x', OwnB 0 w' u x' → (∀ b, b ∈ F → some b ≠ u.ownBlock → w'.heap[b]? = w.heap[b]?) → OwnF SSec F w' [sv] (ss.set k x') := by
 obtain ⟨g, cap, F2, c, hv, hcap, _, hgF, ⟨u, rfl, ho, rfl⟩, hF2, hc, fin⟩ := OwnF.at h hx
 refine ⟨g, cap, u, hv, hcap, ?_, ho, hgF, fun b hb => hF2 b (by simp [hb]), fun w' x' ho' hk => fin w' x' ⟨u, rfl, ho', rfl⟩ fun b hb hn => hk b hb fun e => hn (by simp [← e])⟩
 have := hc 0 u rfl
 simpa [Shp.octs] using this
set_option maxRecDepth 100000 in
set_option maxHeartbeats 1000000 in
theorem sectorsOf_any (w : World) (v : Value) (ss : List (List UInt8)) (h : RdSec w v ss) (hm : ss.length ≤ 10000000000000) :
  Calls Try.prog 52 #[v] w fun e w' => ∃ v', e = .returned v' ∧ Own SSec w.heap.size w' [v'] (ss.map pad) ∧ Below w.heap.size w w' := by
 have hmk := fun u => make_lists hm u
 obtain ⟨a, c, rfl⟩ := h.slice
 have ol := own_lists w ss.length hm
 have hb0 : Below w.heap.size w (w.alloc (.cells (madeCells #[.slice none 0 0] ss.length) 62)) := (Below.refl _ _).alloc (Nat.le_refl _) _
 have OL := hide ol
 have HB0 := hide hb0
 clear ol hb0
 go_enter Try.func52, Try.ntmps52
 go_wp2
 go_loopw [10] (fun i wr => ∃ k : Nat, k ≤ ss.length ∧ i = .int .i64 k ∧ Own SSec w.heap.size wr [.slice (some ⟨w.heap.size, 0, none⟩) ss.length ss.length] ((ss.take k).map pad ++ List.replicate (ss.length - k) []) ∧ Below w.heap.size w wr)
  (fun i _ => ss.length - (intOf i).toNat)
 case atStart => exact ⟨0, Nat.zero_le _, rfl, by simpa using OL.out, HB0.out⟩
 case round =>
  obtain ⟨k, hk, rfl, ho, hb⟩ := hrel
  clear OL HB0
  by_cases hlt : k < ss.length
  ·have hq : (k : Int) < (ss.length : Int) := by omega
   obtain ⟨x, hx, _⟩ := some_at ss hlt
   obtain ⟨b1, o1, u, rfl, hc, hr⟩ := (h.to0 hb).oct hx
   obtain ⟨g, cap, e, hcap, hBg, hgl, hfz, ⟨u0, hc0⟩, fin⟩ := ho.store rfl hb.size (i := k) (by simp; omega)
   have hlen : ((ss.take k).map pad ++ List.replicate (ss.length - k) []).length = ss.length := by simp; omega
   rw [hlen] at e
   cases e
   have em := map_part pad [] ss hx
   have HX := hide hx
   have HB := hide hb
   clear ho hb hx
   go_wp2_with fail
   refine (sectorOf_any _ _ x hr).mono ?_
   rintro e w1 ⟨v1, rfl, o1', b1'⟩
   have f2 := fin w1 v1 (pad x) b1' o1'.toOwn
   rw [em] at f2
   have F2 := hide f2
   have hc1 := (b1'.cell (cell_lt hc0)).trans hc0
   have hf1 := (b1'.frozen (p := ⟨w.heap.size, k, none⟩) (by exact hgl)).trans hfz
   have HB1 := hide ((HB.out.trans (b1'.mono HB.out.size)).setCell (p := ⟨w.heap.size, k, none⟩) (Nat.le_refl _) v1)
   obtain ⟨a1, c1, hv1⟩ := o1'.rd.slice
   clear f2 fin o1' b1' hc hc0 hfz em hr
   subst hv1
   go_wp2
   go_roundw
   case rel => exact ⟨k + 1, by omega, by go_num, F2.out, HB1.out⟩
   case measure => simp [intOf]; omega
  ·obtain rfl : k = ss.length := by omega
   go_wp2
   go_ret
   refine ⟨_, rfl, ?_, hb⟩
   simpa using ho
end Go.Proofs.Ytjjicajodjophaa

namespace Go.Proofs.Ytjjicajodjophaa
open Go.RowKit
theorem wp_call_of {P : Program} {o : Oper} {a : Act} {w : World} {K : Act → World → Prop} {Q : Exit → Act → World → Prop} (n : FuncId) (xs : Array Operand) (ts : Array TypeId)
  (ho : o.op = .call { callee := .value (.func n), args := xs, argTypes := ts }) (vals : Array Value) (hv : xs.map a.eval = vals) (hent : (callFunc n vals).run P w = .ok (.enter n vals) w) {R : Ending → World → Prop} (hc : Calls P n vals w R)
  (h : ∀ e w', R e w' → ∃ v, e = .returned v ∧ K (a.put o.dst v) w') : o.wp P a w K Q := by
 unfold Oper.wp
 have he : a.eval (.func n) = .func (.func n) #[] #[] := rfl
 simp [execOp, ho, resolve, invoke, hv, he, Deferred.ofValue]
 rw [hent, Oper.upon_enter]
 refine hc.mono ?_
 intro e w' hr
 obtain ⟨v, rfl, hk⟩ := h e w' hr
 exact hk
theorem step_call {P : Program} {ops : Array Oper} {o : Oper} {a : Act} {w : World} {K : Act → World → Prop} {Q : Exit → Act → World → Prop} {E : Prop} (hgd : o.guard = none) (n : FuncId) (xs : Array Operand) (ts : Array TypeId)
  (ho : o.op = .call { callee := .value (.func n), args := xs, argTypes := ts }) (vals : Array Value) (hv : xs.map a.eval = vals) (hent : (callFunc n vals).run P w = .ok (.enter n vals) w) {R : Ending → World → Prop} (hc : Calls P n vals w R)
  (h : ∀ e w', R e w' → ∃ v, e = .returned v ∧ K (a.put o.dst v) w') : if Region.wanted o (yielded ops a.tmps) = true then Oper.wp P o a w K Q else E := by
 rw [if_pos (by simp [Region.wanted, hgd])]
 exact wp_call_of n xs ts ho vals hv hent hc h
end Go.Proofs.Ytjjicajodjophaa

namespace Go.Proofs.Ytjjicajodjophaa
open Go.RowKit
abbrev SCacheP : Shp (List Wrt) := Shp.list 110 SWr
abbrev SStP : Shp Dsk := SSec.pair SCacheP
def padW (y : Wrt) : Wrt := (y.1, pad y.2)
theorem infoW : (Try.prog.info? 110).map (fun i => (i.zero, i.size, i.bytes)) = some (some (.agg #[.int .i64 0, .slice none 0 0]), 2, 32) := by kernel_rfl
theorem info_stP : (Try.prog.info? 31).map (·.size) = some 2 := by kernel_rfl
theorem own_wrt {B : Nat} {w : World} {z : Int} {v : Value} {x : List UInt8} (h : OwnB B w v x) : Own SWr B w [.int .i64 z, v] (z, x) := by
 obtain ⟨F, h1, h2, h3⟩ := h.toOwn
 exact ⟨F, ⟨[.int .i64 z], [v], [], F, rfl, rfl, ⟨rfl, rfl⟩, h1⟩, h2, h3⟩
theorem snoc_map {α β : Type} (f : α → β) (xs : List α) {k : Nat} {x : α} (hx : xs[k]? = some x) : (xs.take k).map f ++ [f x] = (xs.take (k + 1)).map f := by
 rw [List.take_add_one, hx]; simp
theorem makeW {n : Nat} (hn : n ≤ 1000000000000) (u : World) : (Instr.makeSlice 29 (.int .i64 0) (.int .i64 (n : Int))).run Try.prog u =
      .ok (.slice (some ⟨u.heap.size, 0, none⟩) 0 n) (u.alloc (.cells (madeCells #[.int .i64 0, .slice none 0 0] (n * 2)) 110)) := by
 obtain ⟨i0, hi, hz0, hz1, hz2⟩ := info_parts infoW
 have h := run_make (P := Try.prog) u 29 110 i0 _ Try.underlying29 hi hz0 .i64 .i64 0 (n : Int) (by omega) (by omega) (by rw [hz2]; omega) (by omega)
 simpa [hz1, Value.cells] using h
theorem own_capW (w : World) (n : Nat) (h : n ≤ 1000000000000) : Own SCacheP w.heap.size (w.alloc (.cells (madeCells #[.int .i64 0, .slice none 0 0] (n * 2)) 110)) [.slice (some ⟨w.heap.size, 0, none⟩) 0 n] [] :=
 Own.cap _ _ ⟨rfl, .inr ⟨w.heap.size, n, _, rfl, Nat.le_refl _, heap_alloc_last w _, Nat.zero_le _, by unfold maxLen; omega, by simp [madeCells, SWr, Shp.pair, Shp.int, Shp.octs], by simp⟩⟩
set_option maxRecDepth 100000 in
set_option maxHeartbeats 2000000 in
theorem renewed_any (w : World) (sv cv : Value) (d : Dsk) (h1 : RdSec w sv d.1) (h2 : RdC w cv d.2) (hm1 : d.1.length ≤ 100000) (hm2 : d.2.length ≤ 100000) :
  Calls Try.prog 60 #[.agg #[sv, cv]] w fun e w' => ∃ sv' cv', e = .returned (.agg #[sv', cv']) ∧ Own SStP w.heap.size w' [sv', cv'] (d.1.map pad, d.2.map padW) ∧ Below w.heap.size w w' := by
 obtain ⟨i0, hi, hz0, hz1, hz2⟩ := info_parts infoW
 obtain ⟨a1, c1, rfl⟩ := h1.slice
 obtain ⟨a2, c2, rfl⟩ := h2.slice
 obtain ⟨W1, hW1, D0, D1, bW1, sW1⟩ := boxed2 w (.slice a1 d.1.length c1) (.slice a2 d.2.length c2) 31
 obtain ⟨W, hW⟩ : ∃ W, W = W1.alloc (.cells #[.slice none 0 0, .slice none 0 0] 31) := ⟨_, rfl⟩
 have bW2 : Below W1.heap.size W1 W := by rw [hW]; exact (Below.refl _ _).alloc (Nat.le_refl _) _
 have sW : W.heap.size = w.heap.size + 1 + 1 := by rw [hW]; simp [sW1]
 have hZ : W.heap[w.heap.size + 1]? = some (.cells #[.slice none 0 0, .slice none 0 0] 31 (0, 0)) := by rw [hW, ← sW1]; exact heap_alloc_last W1 _
 replace D0 := (bW2.cell (cell_lt D0)).trans D0
 replace D1 := (bW2.cell (cell_lt D1)).trans D1
 have bW := bW1.trans (bW2.mono bW1.size)
 replace h1 := h1.to0 bW
 replace h2 := h2.to0 bW
 have hmk : ∀ u : World, (Instr.makeSlice 29 (.int .i64 0) (.int .i64 ((d.2.length : Int) + 1))).run Try.prog u = _ := fun u => makeW (n := d.2.length + 1) (by omega) u
 have oc := own_capW W (d.2.length + 1) (by omega)
 obtain ⟨U, hU⟩ : ∃ U, U = W.alloc (.cells (madeCells #[.int .i64 0, .slice none 0 0] ((d.2.length + 1) * 2)) 110) := ⟨_, rfl⟩
 rw [← hU] at oc
 have bU : Below W.heap.size W U := by rw [hU]; exact (Below.refl _ _).alloc (Nat.le_refl _) _
 rw [hW1] at hW
 rw [hW] at hU
 have e0 := (bU.cell (cell_lt D0)).trans D0
 have e1 := (bU.cell (cell_lt D1)).trans D1
 rw [sW] at oc
 have OC := hide oc
 have HZ := hide hZ
 have BU := hide bU
 have BW := hide bW
 clear oc hZ bU bW bW1 bW2
 go_enter Try.func60, Try.ntmps60
 go_wp2
 rw [← hU]
 replace hU := hide hU
 replace hW := hide hW
 replace hW1 := hide hW1
 clear hmk e0 e1
 go_loopw [3, 14] (fun c i wr => ∃ k : Nat, k ≤ d.2.length ∧ i = .int .i64 k ∧ Own SCacheP (w.heap.size + 1 + 1) wr [c] ((d.2.take k).map padW) ∧ Below W.heap.size W wr) (fun _ i _ => d.2.length - (intOf i).toNat)
 case atStart => exact ⟨0, Nat.zero_le _, rfl, OC.out, BU.out⟩
 case round =>
  obtain ⟨k, hk, rfl, ho, hb⟩ := hrel
  clear OC BU
  by_cases hlt : k < d.2.length
  ·have hq : (k : Int) < (d.2.length : Int) := by omega
   obtain ⟨y, hy, _⟩ := some_at d.2 hlt
   obtain ⟨b1, o1, u, rfl, hc1, hc2, hr⟩ := (h2.to0 hb).wrt hy
   obtain ⟨au, cu, rfl⟩ := hr.slice
   obtain ⟨V, hV, V0, V1, bV, sV⟩ := boxed2 wr (.int .i64 y.1) (.slice au y.2.length cu) 110
   have hrV : Rd V.drew _ _ := hr.to bV.drew
   obtain ⟨F, hF, hFB⟩ := ho.foot
   have hxl : ((d.2.take k).map padW).length = k := by simp; omega
   obtain ⟨cc, rowT, fin⟩ := OwnF.lit (hF.to bV) hxl
   have hbV := hb.trans (bV.mono hb.size)
   have hsn := snoc_map padW d.2 hy
   have FIN : Hid (∀ (w2 : World) (av : Option Addr) (cv2 : Nat) (w5 : World) (g cap : Nat), Below V.heap.size V.drew w2 → OwnB V.heap.size w2 (.slice av 64 cv2) (pad y.2) → (w2.alloc (.cells #[.int .i64 y.1, .slice av 64 cv2] 110)).grownBy w5 u3.ownBlock →
     w5.ownsRow 0 110 2 (.slice (some ⟨g, 0, none⟩) (k + 1) cap) (k + 1) (cc ++ [.int .i64 y.1, .slice av 64 cv2]) → (u3.ownBlock = some g ∨ g = w2.heap.size + 1) →
     Own SCacheP (w.heap.size + 1 + 1) w5 [.slice (some ⟨g, 0, none⟩) (k + 1) cap] ((d.2.take (k + 1)).map padW) ∧ Below W.heap.size W w5) := fun w2 av cv2 w5 g cap k1 k2 k3 k4 k5 => by
    obtain ⟨⟨F', q1, q2⟩, q3, _⟩ := fin w2 [.int .i64 y.1, .slice av 64 cv2] (padW y) 110 _ w5 g cap ((Below.refl _ _).drew.trans k1) (own_wrt k2) rfl rfl rfl rfl k3 k4 k5
    rw [hsn] at q1
    have hWV : W.heap.size ≤ V.heap.size := hbV.size
    exact ⟨q1.own fun b hb' => (q2 b hb').elim (hFB b) (fun h => by omega), hbV.trans (q3 W.heap.size (fun b hb' => by have := hFB b hb'; omega) hWV)⟩
   have ROW : Hid (∀ u, Below V.heap.size V.drew u → ∀ o : Obj, (u.alloc o).ownsRow 0 110 2 u3 k cc) := fun u hu o => rowT _ (((Below.refl _ _).drew.trans hu).alloc hu.size o)
   have KS := hide (sectorOf_any V.drew _ y.2 hrV)
   have h63 : k + 1 ≤ maxLen := by rw [show maxLen = 9223372036854775807 from rfl]; omega
   have hby : (k + 1) * 32 ≤ 140737488355328 := by omega
   clear fin rowT hrV hsn hxl hF hFB ho hr hbV bV hb hy
   obtain ⟨z, hz⟩ : ∃ z, z = y.1 := ⟨_, rfl⟩
   obtain ⟨L, hL⟩ : ∃ L, L = y.2.length := ⟨_, rfl⟩
   obtain ⟨P, hP⟩ : ∃ P, P = pad y.2 := ⟨_, rfl⟩
   have hPL : P.length = 64 := by rw [hP]; exact pad_len _
   rw [← hz] at hc1 hV V0 FIN
   rw [← hP] at KS FIN
   rw [← hL] at hc2 hV V1 KS
   replace hz := hide hz
   replace hL := hide hL
   replace hP := hide hP
   replace hPL := hide hPL
   go_wp2
   rw [← hV]
   replace hV := hide hV
   go_region_law (first
    | (refine step_call (by rfl) 82 _ _ (by rfl) #[.slice au L cu] (by simp [Act.eval]) (Try.call82 _ _) KS.out ?_; rintro e w2 ⟨v2, rfl, o2, b2⟩; obtain ⟨av, cv2, hv2⟩ := o2.rd.slice; rw [hPL.out] at hv2; subst hv2; refine ⟨_, rfl, ?_⟩; have y0 := (b2.cell (p := ⟨wr.heap.size, 0, none⟩) (cell_lt V0)).trans V0)
    | (refine step_append_lies _ (by rfl) _ _ _ (by rfl) 0 110 i0 _ 2 32 Try.underlying29 hi hz0 hz1 hz2 rfl (by omega) u3 k cc (by rfl) (ROW.out w2 b2 _) ⟨w2.heap.size, 0, none⟩ 1 1 [.int .i64 z, .slice av 64 cv2] (by rfl) (by rfl) (World.news_of_block (heap_alloc_last w2 _)) (by simp [Value.oneCell']) (by omega) h63 hby (Nat.zero_le _) (w2.heap.size + 1) (by simp) ?_; intro g cap w5 ho5 hg5 hat5 hlt5))
   all_goals
    have HF := hide (FIN.out w2 av cv2 w5 g cap b2 o2 hg5 ho5 hat5)
    clear ho5 hg5 hat5 FIN ROW KS o2 b2
    go_wp2
    go_roundw
    case rel => exact ⟨k + 1, by omega, by go_num, HF.out⟩
    case measure => simp [intOf]; omega
  ·obtain rfl : k = d.2.length := by omega
   rw [List.take_of_length_le (Nat.le_refl _)] at ho
   replace h1 := h1.to0 hb
   have E0 := (hb.cell (cell_lt D0)).trans D0
   have Z1 := (hb.block (w.heap.size + 1) (by omega)).trans HZ.out
   have cc := BW.out.trans (hb.mono BW.out.size)
   have hs1 : w.heap.size + 1 + 1 ≤ wr.heap.size := by have := hb.size; omega
   clear D0 D1 h2 hb HZ BW hi hz0 hz1 hz2
   go_wp2_with fail
   refine (sectorsOf_any _ _ d.1 h1 (by omega)).mono ?_
   rintro e w1 ⟨v1, rfl, o1, b1⟩
   have oo := (ho.pair' b1 o1 (Nat.le_refl _) hs1)
   have Z2 := (b1.block (w.heap.size + 1) (by omega)).trans Z1
   have c1 := cc.trans (b1.mono cc.size)
   have f0 : w1.frozen? ⟨w.heap.size + 1, 0, none⟩ = false := frozen_of_row _ _ 0 _ _ Z2
   have f1 : w1.frozen? ⟨w.heap.size + 1, 1, none⟩ = false := frozen_of_row _ _ 1 _ _ Z2
   have g0 : w1.cell? ⟨w.heap.size + 1, 0, none⟩ = some (.slice none 0 0) := by rw [cell_of_row _ _ 0 _ _ (0, 0) Z2]; rfl
   have g1 : w1.cell? ⟨w.heap.size + 1, 1, none⟩ = some (.slice none 0 0) := by rw [cell_of_row _ _ 1 _ _ (0, 0) Z2]; rfl
   obtain ⟨av, ca, hv1⟩ := o1.rdS.slice
   obtain ⟨ac, cc', hv2⟩ := ho.rdS.slice
   rw [List.length_map] at hv1 hv2
   subst hv1 hv2
   have OO := hide oo
   have ZZ := hide Z2
   have CC := hide c1
   clear oo Z2 c1 o1 b1 ho h1 E0 Z1 cc
   go_wp2
   refine ret_cell rfl rfl (w.heap.size + 1) rfl _ _ _ _ (heap_set2 ZZ.out _ _) _ Try.underlying31 rfl info_stP ?_
   exact ⟨_, _, rfl, ((OO.out.set (a := ⟨w.heap.size + 1, 0, none⟩) (by simp) _).set (a := ⟨w.heap.size + 1, 1, none⟩) (by simp) _).mono (show w.heap.size ≤ w.heap.size + 1 + 1 by omega), below_set2 CC.out (show w.heap.size ≤ w.heap.size + 1 by omega) _ _⟩
end Go.Proofs.Ytjjicajodjophaa

namespace Go.Proofs.Ytjjicajodjophaa
open Go.RowKit
end Go.Proofs.Ytjjicajodjophaa

namespace Go.Proofs.Ytjjicajodjophaa
open Go.RowKit
section
variable {P : Program} {ops : Array Oper} {md : Region.Mode} {Q : Exit → Act → World → Prop} {S : World → Prop}
def wpAnyM (P : Program) (md : Region.Mode) (ops : Array Oper) (Q : Exit → Act → World → Prop) (S : World → Prop) (m : Nat) (L : Array Bool → Act → World → Prop) : Nat → Array Bool → Act → World → Prop
 | 0, listed, a, w => L listed a w
 | f + 1, listed, a, w => Region.ready md ops listed ≠ [] ∧ ∀ i ∈ Region.ready md ops listed, i < m ∧ wpOp P ops Q i (fun a' w' => S w' ∧ wpAnyM P md ops Q S m L f (listed.setIfInBounds i true) a' w') a w
theorem wpAny_of_mid {m g : Nat} {L : Array Bool → Act → World → Prop} (hL : ∀ listed a w, L listed a w → wpAny P md ops Q g listed a w) :
  ∀ (f : Nat) (listed : Array Bool) (a : Act) (w : World), wpAnyM P md ops Q S m L f listed a w → wpAny P md ops Q (f + g) listed a w
 | 0, listed, a, w, h => by rw [Nat.zero_add]; exact hL _ _ _ h
 | f + 1, listed, a, w, h => by
  rw [show f + 1 + g = (f + g) + 1 by omega]
  exact ⟨fun h0 => absurd h0 h.1, fun i hi => wpOp_mono (fun a' w' h' => wpAny_of_mid hL f _ a' w' h'.2) (h.2 i hi).2⟩
theorem put_tmps (a : Act) (d : Option Tmp) (v : Value) : a.put d v = { a with tmps := (a.put d v).tmps } := by cases d <;> rfl
theorem wpAnyM_first {m i : Nat} {oi : Oper} {v : Value} {L : Array Bool → Act → World → Prop} (hi : ops[i]? = some oi) (hsel : ∀ (j : Nat) (o : Oper) cs b, ops[j]? = some o → o.op ≠ .select cs b)
  (hs : Region.sinkB md ops m = true) (hc : Region.chainB md ops m = true) (hm : m < ops.size) (him : i < m) (hQ : ∀ c a w, Q (.panic c) (a.put oi.dst v) w → Q (.panic c) a w)
  (hdone : ∀ listed a w, L listed a w → ∀ j ∈ Region.ready md ops listed, m ≤ j) :
  ∀ (f : Nat) (listed : Array Bool) (a : Act) (w : World), HeadInv md ops m listed →
   (∀ j oj, ops[j]? = some oj → j ≠ i → listed.getD j true = false → (∀ e ∈ oj.after, Region.binds md e = true → e.on ≠ i) → oi.apart ops oj = true) →
   i ∈ Region.ready md ops listed → YieldsIf P ops S oi v a → S w →
   wpAnyM P md ops Q S m L f (listed.setIfInBounds i true) (a.put oi.dst v) w → wpAnyM P md ops Q S m L (f + 1) listed a w := by
 intro f
 induction f with
 | zero =>
  intro listed a w inv _ hr hy hS H
  have hun := (mem_ready.1 hr).1
  refine ⟨fun h => (by rw [h] at hr; cases hr), fun j hj => ?_⟩
  have hjn : j < m := by
   rcases Nat.lt_or_ge j m with h | h
   ·exact h
   ·exact absurd hj (tail_waits hs hc hm inv _ i rfl him hun j h)
  refine ⟨hjn, ?_⟩
  by_cases hji : j = i
  ·subst hji; exact hy.wpOp hi hS ⟨hS, H⟩
  ·have := hdone _ _ _ H j (ready_mono hj hji)
   omega
 | succ f ih =>
  intro listed a w inv hfree hr hy hS H
  have hun := (mem_ready.1 hr).1
  refine ⟨fun h => (by rw [h] at hr; cases hr), fun j hj => ?_⟩
  have hjn : j < m := by
   rcases Nat.lt_or_ge j m with h | h
   ·exact h
   ·exact absurd hj (tail_waits hs hc hm inv _ i rfl him hun j h)
  refine ⟨hjn, ?_⟩
  by_cases hji : j = i
  ·subst hji; exact hy.wpOp hi hS ⟨hS, H⟩
  ·have h1 := (H.2 j (ready_mono hj hji)).2
   obtain ⟨hjun, oj, hoj, hall⟩ := mem_ready.1 hj
   have hnot : ∀ e ∈ oj.after, Region.binds md e = true → e.on ≠ i := fun e he hb heq => by
    have h1 := hall e he hb
    rw [heq, getD_both hun] at h1
    cases h1
   have h2 := wpOp_putIf hoj (hfree j oj hoj hji hjun hnot) (fun cs b => hsel i oi cs b hi) (fun cs b => hsel j oj cs b hoj) hQ hy h1
   have hfree' : ∀ k ok, ops[k]? = some ok → k ≠ i → (listed.setIfInBounds j true).getD k true = false →
     (∀ e ∈ ok.after, Region.binds md e = true → e.on ≠ i) → oi.apart ops ok = true := fun k ok hk hki hun hno => by
    refine hfree k ok hk hki ?_ hno
    by_cases hjk : j = k
    ·subst hjk; exact hjun
    ·rw [getD_set_ne true hjk] at hun; exact hun
   refine wpOp_mono (fun a' w' h3 => ⟨h3.2.1, ih (listed.setIfInBounds j true) a' w' (inv.set hj hjn) hfree' (ready_mono hr (Ne.symm hji)) h3.1 h3.2.1 ?_⟩) h2
   rw [Array.setIfInBounds_comm _ _ hji]
   exact h3.2.2
def wpTake (P : Program) (ops : Array Oper) (S : World → Prop) (Z : Act → Prop) : List Oper → Act → Prop
 | [], a => Z a
 | o :: l, a => ∃ v, YieldsIf P ops S o v a ∧ wpTake P ops S Z l (a.put o.dst v)
def wpListS (P : Program) (ops : Array Oper) (Q : Exit → Act → World → Prop) (S : World → Prop) (Z : Act → World → Prop) : List Oper → Act → World → Prop
 | [], a, w => Z a w
 | o :: l, a, w => if Region.wanted o (yielded ops a.tmps) = true then o.wp P a w (fun a' w' => S w' ∧ wpListS P ops Q S Z l a' w') Q else S w ∧ wpListS P ops Q S Z l (a.put o.dst undef) w
theorem wpAnyM_seq {m g : Nat} {Z : Act → World → Prop} : ∀ (l : List Oper) (k : Nat) (listed : Array Bool) (a : Act) (w : World), (∀ j, j < l.length → l[j]? = ops[k + j]?) → k + l.length = m →
  Region.seqB md ops (l.length + g) k listed = true → wpListS P ops Q S Z l a w → wpAnyM P md ops Q S m (fun listed' a' w' => Region.seqB md ops g m listed' = true ∧ Z a' w') l.length listed a w
 | [], k, listed, a, w, _, hk, hB, h => by
  have : k = m := by simpa using hk
  subst this
  exact ⟨by simpa using hB, h⟩
 | o :: l, k, listed, a, w, hl, hk, hB, h => by
  have h0 : ops[k]? = some o := by simpa using (hl 0 (by simp)).symm
  rw [List.length_cons, show l.length + 1 + g = (l.length + g) + 1 by omega] at hB
  simp only [Region.seqB, Bool.and_eq_true, decide_eq_true_eq] at hB
  refine ⟨fun h1 => (by rw [hB.1] at h1; cases h1), fun i hi => ?_⟩
  rw [hB.1] at hi
  have hik : i = k := by simpa using hi
  subst hik
  refine ⟨by simp only [List.length_cons] at hk; omega, ?_⟩
  have hw : wpOp P ops Q i (fun a' w' => S w' ∧ wpListS P ops Q S Z l a' w') a w := by
   unfold wpOp
   simp only [h0]
   unfold wpListS at h
   split
   ·rename_i hwd; rw [if_pos hwd] at h; exact .inl h
   ·rename_i hwd; rw [if_neg hwd] at h; exact h
  exact wpOp_mono (fun a' w' h' => ⟨h'.1, wpAnyM_seq l (i + 1) _ a' w' (fun j hj => by have := hl (j + 1) (by simp; omega); simpa [Nat.add_assoc, Nat.add_comm 1 j] using this) (by simp only [List.length_cons] at hk; omega) hB.2 h'.2⟩) hw
theorem wpAnyM_take {n m g f : Nat} {L : Array Bool → Act → World → Prop} {Z : Act → Prop} (hsel : Region.noSelect ops = true) (hs : Region.sinkB md ops m = true) (hc : Region.chainB md ops m = true) (hm : m < ops.size) (hnm : n ≤ m)
  (hQ : ∀ c (a : Act) t w, Q (.panic c) { a with tmps := t } w → Q (.panic c) a w) (hdone : ∀ listed a w, L listed a w → ∀ j ∈ Region.ready md ops listed, m ≤ j) {w : World} (hS : S w)
  (hZ : ∀ listed a, Region.seqB md ops g n listed = true → HeadInv md ops m listed → Z a → wpAnyM P md ops Q S m L f listed a w) :
  ∀ (l : List Oper) (k : Nat) (listed : Array Bool) (a : Act), (∀ j, j < l.length → l[j]? = ops[k + j]?) → k + l.length = n → HeadInv md ops m listed →
  Region.lexHead md ops g l.length k listed = true → wpTake P ops S Z l a → wpAnyM P md ops Q S m L (l.length + f) listed a w
 | [], k, listed, a, _, hk, inv, hB, h => by
  have : k = n := by simpa using hk
  subst this
  rw [List.length_nil, Nat.zero_add]
  exact hZ _ _ (by simpa [Region.lexHead] using hB) inv h
 | o :: l, k, listed, a, hl, hk, inv, hB, h => by
  have h0 : ops[k]? = some o := by simpa using (hl 0 (by simp)).symm
  simp only [List.length_cons, Region.lexHead, Bool.and_eq_true] at hB
  obtain ⟨⟨hr, hf⟩, hB'⟩ := hB
  have hkn : k < m := by simp only [List.length_cons] at hk; omega
  have hr' : k ∈ Region.ready md ops listed := by simpa using hr
  obtain ⟨v, hy, hK⟩ := h
  rw [List.length_cons, show l.length + 1 + f = (l.length + f) + 1 by omega]
  exact wpAnyM_first h0 (Region.noSelect_spec hsel) hs hc hm hkn (fun c a w h => hQ c a (a.put o.dst v).tmps w (by rw [← put_tmps]; exact h)) hdone _ listed a w inv (Region.free_spec h0 hf) hr' hy hS
   (wpAnyM_take hsel hs hc hm hnm hQ hdone hS hZ l (k + 1) _ _ (fun j hj => by have := hl (j + 1) (by simp; omega); simpa [Nat.add_assoc, Nat.add_comm 1 j] using this) (by simp only [List.length_cons] at hk; omega) (inv.set hr' hkn) hB' hK)
def midB (md : Region.Mode) (ops : Array Oper) (n m : Nat) : Bool :=
 Region.noSelect ops && decide (n ≤ m) && decide (m < ops.size) && Region.sinkB md ops m && Region.chainB md ops m && Region.lexHead md ops (ops.size - n) n 0 (Array.replicate ops.size false)
theorem wp_region_mid {id : Nat} {a : Act} {w : World} {l : List Oper} (S : World → Prop) (n m : Nat) (hf : P.follows .mixedOrders = true) (hB : midB .any l.toArray n m = true)
  (hQ : ∀ c (a : Act) t w, Q (.panic c) { a with tmps := t } w → Q (.panic c) a w) (hS : S w.drew)
  (h : wpTake P l.toArray S (fun a' => wpListS P l.toArray Q S (fun a'' w'' => wpList P l.toArray Q (l.drop m) a'' w'') ((l.take m).drop n) a' w.drew) (l.take n) a) : (Code.region id l.toArray true).wp P Q a w := by
 simp only [midB, Bool.and_eq_true, decide_eq_true_eq] at hB
 obtain ⟨⟨⟨⟨⟨hsel, hnm⟩, hm⟩, hs⟩, hc⟩, hlex⟩ := hB
 have hm' : m < l.length := by simpa using hm
 have hln : (l.take n).length = n := by simp; omega
 have hlm : ((l.take m).drop n).length = m - n := by simp; omega
 have hld : (l.drop m).length = l.length - m := by simp
 have inv0 : HeadInv .any l.toArray m (Array.replicate l.toArray.size false) :=
  ⟨by simp, fun j oj _ hl => (by rw [getD_replicate_false] at hl; cases hl), fun t _ ht => getD_in (by simpa using ht) (getD_replicate_false _ _)⟩
 have H := wpAnyM_take (md := .any) (g := l.toArray.size - n) (f := m - n) (L := fun listed' a' w' => Region.seqB .any l.toArray (l.length - m) m listed' = true ∧ wpList P l.toArray Q (l.drop m) a' w') hsel hs hc hm hnm hQ
  (fun listed a w hL => seqB_ready hL.1) (w := w.drew) hS (fun listed a hseq inv hz => by
   have hsz : l.toArray.size - n = ((l.take m).drop n).length + (l.length - m) := by rw [hlm]; simp; omega
   rw [hsz] at hseq
   have := wpAnyM_seq (md := .any) (m := m) ((l.take m).drop n) n listed a w.drew (fun j hj => by
    rw [hlm] at hj
    rw [List.getElem?_drop, List.getElem?_take, if_pos (by omega)]
    simp) (by rw [hlm]; omega) hseq hz
   rwa [hlm] at this) (l.take n) 0 _ a (fun j hj => by
    rw [hln] at hj
    rw [List.getElem?_take, if_pos hj]; simp) (by rw [hln]; omega) inv0 (by rw [hln]; exact hlex) h
 refine wp_region_any hf ?_
 have := wpAny_of_mid (Q := Q) (g := l.length - m) (fun listed a' w' hL => by
  have := wpAny_of_seq (md := .any) (Q' := Q) (l.drop m) m listed a' w' (fun j => by simp [List.getElem?_drop]) (by rw [hld]; exact hL.1) hL.2
  rwa [hld] at this) _ _ _ _ H
 rw [hln, show n + (m - n) + (l.length - m) = l.toArray.size by simp; omega] at this
 exact this
theorem take_one {o : Oper} {l : List Oper} {a : Act} {Z : Act → Prop} {v : Value} (hw : Region.wanted o (yielded ops a.tmps) = true) (hy : ∀ w, S w → (execOp a.eval o).run P w = .ok (.value v) w) (h : wpTake P ops S Z l (a.put o.dst v)) : wpTake P ops S Z (o :: l) a :=
 ⟨v, .inl ⟨hw, hy⟩, h⟩
theorem mid_one {o : Oper} {l : List Oper} {a : Act} {w : World} {Z : Act → World → Prop} (h : ∀ K : Act → World → Prop, (∀ a' w', S w' → wpListS P ops Q S Z l a' w' → K a' w') → if Region.wanted o (yielded ops a.tmps) = true then o.wp P a w K Q else K (a.put o.dst undef) w) : wpListS P ops Q S Z (o :: l) a w := by
 have := h (fun a' w' => S w' ∧ wpListS P ops Q S Z l a' w') (fun a' w' h1 h2 => ⟨h1, h2⟩)
 unfold wpListS
 exact this
end
end Go.Proofs.Ytjjicajodjophaa

namespace Go.Proofs.Ytjjicajodjophaa
open Go.RowKit
theorem mixed : Try.prog.follows .mixedOrders = true := by kernel_rfl
end Go.Proofs.Ytjjicajodjophaa

namespace Go.Proofs.Ytjjicajodjophaa
open Go.RowKit
theorem snoc_take {α : Type} (xs : List α) {k : Nat} {x : α} (hx : xs[k]? = some x) : xs.take k ++ [x] = xs.take (k + 1) := by
 rw [List.take_add_one, hx]; rfl
theorem row2_cells {w : World} {g : Nat} {x y : Value} {t : TypeId} (h : w.heap[g]? = some (.cells #[x, y] t (0, 0))) : w.cell? ⟨g, 0, none⟩ = some x ∧ w.cell? ⟨g, 1, none⟩ = some y ∧ w.frozen? ⟨g, 0, none⟩ = false ∧ w.frozen? ⟨g, 1, none⟩ = false :=
 ⟨by rw [cell_of_row _ _ 0 _ _ (0, 0) h]; rfl, by rw [cell_of_row _ _ 1 _ _ (0, 0) h]; rfl, frozen_of_row _ _ 0 _ _ h, frozen_of_row _ _ 1 _ _ h⟩
theorem cell_alloc {w : World} {b i : Nat} {v : Value} (h : w.cell? ⟨b, i, none⟩ = some v) (o : Obj) : (w.alloc o).cell? ⟨b, i, none⟩ = some v :=
 (World.cell?_of_block (a := ⟨b, i, none⟩) (Below.heap_alloc w o b (cell_lt h))).trans h
theorem set_row1 {w : World} {g : Nat} {x y : Value} {t : TypeId} (h : w.heap[g]? = some (.cells #[x, y] t (0, 0))) (u : Value) : (w.setCell ⟨g, 1, none⟩ u).heap[g]? = some (.cells #[x, u] t (0, 0)) := by
 simp [World.setCell, Array.getElem?_modify, h]
end Go.Proofs.Ytjjicajodjophaa

namespace Go.Proofs.Ytjjicajodjophaa
open Go.RowKit
end Go.Proofs.Ytjjicajodjophaa

namespace Go.Proofs.Ytjjicajodjophaa
open Go.RowKit
theorem own_none (T B : Nat) (w : World) : Own (SSec.pair (Shp.list T SWr)) B w [.slice none 0 0, .slice none 0 0] ([], []) :=
 ⟨[], ⟨[.slice none 0 0], [.slice none 0 0], [], [], rfl, rfl, ⟨_, [], [], rfl, World.ownsRow_nil _ _ _ _, ⟨rfl, rfl⟩, by simp [Value.ownBlock]⟩, ⟨_, [], [], rfl, World.ownsRow_nil _ _ _ _, ⟨rfl, rfl⟩, by simp [Value.ownBlock]⟩⟩, List.nodup_nil, fun b hb => by cases hb⟩
theorem pad_nil : pad [] = List.replicate 64 0 := by unfold pad; exact over_nil _
theorem boxes (w : World) (x y : Value) (t : TypeId) : ∃ W, W = (w.alloc (.cells #[x, y] t)).alloc (.cells #[.slice none 0 0, .slice none 0 0] t) ∧ W.heap[w.heap.size]? = some (.cells #[x, y] t (0, 0)) ∧ W.heap[w.heap.size + 1]? = some (.cells #[.slice none 0 0, .slice none 0 0] t (0, 0)) ∧ Below w.heap.size w W ∧ W.heap.size = w.heap.size + 1 + 1 := by
 refine ⟨_, rfl, ?_, ?_, ((Below.refl _ _).alloc (Nat.le_refl _) _).alloc (by simp) _, by simp⟩
 ·rw [Below.heap_alloc _ _ _ (by simp)]; exact heap_alloc_last w _
 ·have := heap_alloc_last (w.alloc (.cells #[x, y] t)) (.cells #[.slice none 0 0, .slice none 0 0] t); simpa using this
end Go.Proofs.Ytjjicajodjophaa

namespace Go.Proofs.Ytjjicajodjophaa
open Go.RowKit
set_option maxRecDepth 100000 in
set_option maxHeartbeats 400000 in
theorem dhas_any (w : World) (sv cv : Value) (d : Dsk) (k : Int) (h1 : RdSec w sv d.1) (h2 : RdC w cv d.2) :
  Calls Try.prog 80 #[.agg #[sv, cv], .int .i64 k] w fun e w' => e = .returned (.bool (decide (dhas d k))) ∧ Below w.heap.size w w' := by
 obtain ⟨a1, c1, rfl⟩ := h1.slice
 obtain ⟨a2, c2, rfl⟩ := h2.slice
 obtain ⟨W, hW, D0, D1, bW, sW⟩ := boxed2 w (.slice a1 d.1.length c1) (.slice a2 d.2.length c2) 31
 by_cases hk : 0 ≤ k
 ·by_cases hl : k < d.1.length
  ·have hr : Hid (decide (dhas d k) = true) := by show _ = _; simp [dhas, hk, hl]
   go_enter Try.func80, Try.ntmps80
   go_wp2
   go_ret
   exact ⟨ret_bool hr.out.symm, by rw [← hW]; exact bW⟩
  ·have hr : Hid (decide (dhas d k) = false) := by show _ = _; simp [dhas, hk, hl]
   go_enter Try.func80, Try.ntmps80
   go_wp2
   go_ret
   exact ⟨ret_bool hr.out.symm, by rw [← hW]; exact bW⟩
 ·have hr : Hid (decide (dhas d k) = false) := by show _ = _; simp [dhas, hk]
  go_enter Try.func80, Try.ntmps80
  go_wp2
  go_ret
  exact ⟨ret_bool hr.out.symm, by rw [← hW]; exact bW⟩
set_option maxRecDepth 100000 in
set_option maxHeartbeats 1000000 in
theorem dcheck_any (w : World) (sv cv : Value) (d : Dsk) (h1 : RdSec w sv d.1) (h2 : RdC w cv d.2) :
  Calls Try.prog 47 #[.agg #[sv, cv]] w fun e w' => e = .returned (.int .i64 (dcheck d)) ∧ Below w.heap.size w w' := by
 obtain ⟨a1, c1, rfl⟩ := h1.slice
 obtain ⟨a2, c2, rfl⟩ := h2.slice
 have l1 := h1.bd
 have l2 := h2.bd
 obtain ⟨W, hW, D0, D1, bW, sW⟩ := boxed2 w (.slice a1 d.1.length c1) (.slice a2 d.2.length c2) 31
 replace h1 := h1.to0 bW
 replace h2 := h2.to0 bW
 by_cases hA : (d.1.length : Int) < 1
 ·have hr : Hid (dcheck d = 9) := by apply dcheck_no; unfold DOk; omega
  go_enter Try.func47, Try.ntmps47
  go_wp2
  go_ret
  exact ⟨ret_int hr.out.symm, by rw [← hW]; exact bW⟩
 by_cases hB : (1024 : Int) < (d.1.length : Int)
 ·have hr : Hid (dcheck d = 9) := by apply dcheck_no; unfold DOk; omega
  go_enter Try.func47, Try.ntmps47
  go_wp2
  go_ret
  exact ⟨ret_int hr.out.symm, by rw [← hW]; exact bW⟩
 by_cases hC : (4096 : Int) < (d.2.length : Int)
 ·have hr : Hid (dcheck d = 9) := by apply dcheck_no; unfold DOk; omega
  go_enter Try.func47, Try.ntmps47
  go_wp2
  go_ret
  exact ⟨ret_int hr.out.symm, by rw [← hW]; exact bW⟩
 go_enter Try.func47, Try.ntmps47
 go_wp2
 rw [← hW]
 replace hW := hide hW
 go_loopw [26] (fun i wr => ∃ k : Nat, k ≤ d.1.length ∧ i = .int .i64 k ∧ (∀ i x, i < k → d.1[i]? = some x → x.length = 64) ∧ Below W.heap.size W wr) (fun i _ => d.1.length - (intOf i).toNat)
 case atStart => exact ⟨0, Nat.zero_le _, rfl, fun i x h => absurd h (Nat.not_lt_zero _), Below.refl _ _⟩
 case round =>
  obtain ⟨k, hk, rfl, hs, hb⟩ := hrel
  have HS := hide hs
  have E0 := (hb.cell (cell_lt D0)).trans D0
  have E1 := (hb.cell (cell_lt D1)).trans D1
  have q1 := h1.to0 hb
  have q2 := h2.to0 hb
  have bb := bW.trans (hb.mono bW.size)
  clear hs D0 D1
  by_cases hlt : k < d.1.length
  ·have hq : (k : Int) < (d.1.length : Int) := by omega
   obtain ⟨x, hx, hm⟩ := some_at d.1 hlt
   obtain ⟨b1, o1, u, rfl, hc, hr⟩ := q1.oct hx
   obtain ⟨au, cu, rfl⟩ := hr.slice
   have HB := hide hb
   have HX := hide (And.intro hx hm)
   clear hb hx hm
   by_cases he : x.length = 64
   ·have hne : ((x.length : Int) != 64) = false := by simp; omega
    replace he := hide he
    go_wp2
    go_roundw
    case rel => exact ⟨k + 1, by omega, by go_num, fun i z hi hz => by
     by_cases h : i = k
     ·subst h; rw [HX.out.1] at hz; cases hz; exact he.out
     ·exact HS.out i z (by omega) hz, HB.out⟩
    case measure => simp [intOf]; omega
   ·have hne : ((x.length : Int) != 64) = true := by simp; omega
    have hd : Hid (dcheck d = 9) := by apply dcheck_no; intro h; exact he (h.2.2.2.1 x HX.out.2)
    clear he
    go_wp2
    go_ret
    exact ⟨ret_int hd.out.symm, bb⟩
  ·have ek : ∀ x ∈ d.1, x.length = 64 := by
    intro x hx
    obtain ⟨i, hi, e⟩ := List.getElem_of_mem hx
    exact HS.out i x (by omega) (by rw [List.getElem?_eq_getElem hi, e])
   have EK := hide ek
   have HB := hide bb
   clear ek HS hb h1 h2 bb bW
   generalize wr = W2 at *
   go_wp2
   go_loopw [37] (fun i wr => ∃ k : Nat, k ≤ d.2.length ∧ i = .int .i64 k ∧ (∀ i y, i < k → d.2[i]? = some y → (0 ≤ y.1 ∧ y.1 < d.1.length) ∧ y.2.length = 64) ∧ Below W2.heap.size W2 wr) (fun i _ => d.2.length - (intOf i).toNat)
   case atStart => exact ⟨0, Nat.zero_le _, rfl, fun i x h => absurd h (Nat.not_lt_zero _), Below.refl _ _⟩
   case round =>
    obtain ⟨j, hj, rfl, hs, hb⟩ := hrel
    have HS := hide hs
    have G0 := (hb.cell (cell_lt E0)).trans E0
    have G1 := (hb.cell (cell_lt E1)).trans E1
    have p2 := q2.to0 hb
    have HBB := hide (HB.out.trans (hb.mono HB.out.size))
    have hq1 := q1
    have hq2 := q2
    clear hs E0 E1 q1 q2 HB
    by_cases hlt2 : j < d.2.length
    ·have hq : (j : Int) < (d.2.length : Int) := by omega
     obtain ⟨y, hy, hm⟩ := some_at d.2 hlt2
     obtain ⟨b1, o1, u, rfl, hc1, hc2, hr⟩ := p2.wrt hy
     obtain ⟨au, cu, rfl⟩ := hr.slice
     have HY := hide (And.intro hy hm)
     obtain ⟨V, hV, V0, V1, bV, _⟩ := boxed2 wr (.int .i64 y.1) (.slice au y.2.length cu) 110
     have HB2 := hide (hb.trans (bV.mono hb.size))
     have HB3 := hide (HBB.out.trans (bV.mono HBB.out.size))
     have I0 := (bV.cell (cell_lt G0)).trans G0
     have I1 := (bV.cell (cell_lt G1)).trans G1
     clear hb hy hm p2 bV hr HBB
     obtain ⟨z, hz⟩ : ∃ z, z = y.1 := ⟨_, rfl⟩
     obtain ⟨L, hL⟩ : ∃ L, L = y.2.length := ⟨_, rfl⟩
     rw [← hz] at hc1 hV V0
     rw [← hL] at hc2 hV V1
     replace hz := hide hz
     replace hL := hide hL
     have p1 := (hq1.to0 HB2.out)
     rw [hV] at I0 I1
     have hh := dhas_any V _ _ d z p1 (hq2.to0 HB2.out)
     have HH := hide hh
     clear hh p1
     by_cases e2 : dhas d z
     ·rw [decide_eq_true e2] at HH
      by_cases e3 : L = 64
      ·have hne : ((L : Int) != 64) = false := by simp; omega
       have HE := hide (And.intro e2 e3)
       clear e3 e2
       go_wp2_with fail
       rw [← hV]
       replace hV := hide hV
       refine HH.out.mono ?_
       rintro e w5 ⟨rfl, b5⟩
       have B5 := hide (HB2.out.trans (b5.mono HB2.out.size))
       replace V1 := (b5.cell (cell_lt V1)).trans V1
       clear b5
       go_wp2
       go_roundw
       case rel => exact ⟨j + 1, by omega, by go_num, fun i q hi hqq => by
        by_cases h : i = j
        ·subst h; rw [HY.out.1] at hqq; cases hqq; rw [← hz.out, ← hL.out]; exact HE.out
        ·exact HS.out i q (by omega) hqq, B5.out⟩
       case measure => simp [intOf]; omega
      ·have hne : ((L : Int) != 64) = true := by simp; omega
       have hd : Hid (dcheck d = 9) := by apply dcheck_no; intro h; exact e3 (by rw [hL.out]; exact (h.2.2.2.2 y HY.out.2).2)
       clear e3
       go_wp2_with fail
       rw [← hV]
       replace hV := hide hV
       refine HH.out.mono ?_
       rintro e w5 ⟨rfl, b5⟩
       have B5 := hide (HB3.out.trans (b5.mono HB3.out.size))
       replace V1 := (b5.cell (cell_lt V1)).trans V1
       clear b5
       go_wp2
       go_ret
       exact ⟨ret_int hd.out.symm, B5.out⟩
     ·have hd : Hid (dcheck d = 9) := by apply dcheck_no; intro h; have := (h.2.2.2.2 y HY.out.2).1; rw [← hz.out] at this; exact e2 this
      rw [decide_eq_false e2] at HH
      go_wp2_with fail
      rw [← hV]
      replace hV := hide hV
      refine HH.out.mono ?_
      rintro e w5 ⟨rfl, b5⟩
      have B5 := hide (HB3.out.trans (b5.mono HB3.out.size))
      clear b5
      go_wp2
      go_ret
      exact ⟨ret_int hd.out.symm, B5.out⟩
    ·have hd : Hid (dcheck d = 0) := by
      apply dcheck_ok
      refine ⟨by omega, by omega, by omega, EK.out, fun y hy => ?_⟩
      obtain ⟨i, hi, e⟩ := List.getElem_of_mem hy
      exact HS.out i y (by omega) (by rw [List.getElem?_eq_getElem hi, e])
     go_wp2
     go_ret
     exact ⟨ret_int hd.out.symm, HBB.out⟩
set_option maxRecDepth 100000 in
theorem dsector_any (w : World) (sv cv : Value) (d : Dsk) (k : Int) (h1 : RdSec w sv d.1) (h2 : RdC w cv d.2) :
  Calls Try.prog 59 #[.agg #[sv, cv], .int .i64 k] w fun e w' => e = .returned (.int .i64 (dsect d k)) ∧ Below w.heap.size w w' := by
 obtain ⟨a1, c1, rfl⟩ := h1.slice
 obtain ⟨a2, c2, rfl⟩ := h2.slice
 obtain ⟨W, hW, D0, D1, bW, sW⟩ := boxed2 w (.slice a1 d.1.length c1) (.slice a2 d.2.length c2) 31
 replace h1 := h1.to0 bW
 replace h2 := h2.to0 bW
 go_enter Try.func59, Try.ntmps59
 go_wp2_with fail
 rw [← hW]
 replace hW := hide hW
 refine (dcheck_any _ _ _ d h1 h2).mono ?_
 rintro e w1 ⟨rfl, b1⟩
 have B1 := hide (bW.trans (b1.mono bW.size))
 by_cases hok : DOk d
 ·rw [dcheck_ok hok]
  replace D0 := (b1.cell (cell_lt D0)).trans D0
  replace D1 := (b1.cell (cell_lt D1)).trans D1
  replace h1 := h1.to0 b1
  replace h2 := h2.to0 b1
  clear b1 bW
  go_wp2_with fail
  refine (dhas_any _ _ _ d k h1 h2).mono ?_
  rintro e w2 ⟨rfl, b2⟩
  have B2 := hide (B1.out.trans (b2.mono B1.out.size))
  clear b2 h1 h2 B1
  by_cases hh : dhas d k
  ·have hr : Hid (dsect d k = 0) := by show _ = _; unfold dsect; rw [if_pos hok, if_pos hh]
   rw [decide_eq_true hh]
   go_wp2
   go_ret
   exact ⟨ret_int hr.out.symm, B2.out⟩
  ·have hr : Hid (dsect d k = 41) := by show _ = _; unfold dsect; rw [if_pos hok, if_neg hh]
   rw [decide_eq_false hh]
   go_wp2
   go_ret
   exact ⟨ret_int hr.out.symm, B2.out⟩
 ·have hr : Hid (dsect d k = 9) := by show _ = _; unfold dsect; rw [if_neg hok]
  rw [dcheck_no hok]
  clear b1 bW h1 h2
  go_wp2
  go_ret
  exact ⟨ret_int hr.out.symm, B1.out⟩
end Go.Proofs.Ytjjicajodjophaa

namespace Go.Proofs.Ytjjicajodjophaa
open Go.RowKit
theorem own_form' {T : Nat} {F : List Nat} {w : World} {sv cv : Value} {d : Dsk} (h : OwnF (SSec.pair (Shp.list T SWr)) F w [sv, cv] d) : ∃ al cl ac cc, sv = .slice al d.1.length cl ∧ cv = .slice ac d.2.length cc := by
 obtain ⟨F1, F2, _, p1, p2, _⟩ := OwnF.split (c := [sv]) (d := [cv]) h rfl
 obtain ⟨v1, e1, r1⟩ := p1.rd
 obtain ⟨v2, e2, r2⟩ := p2.rd
 simp at e1 e2; subst e1 e2
 obtain ⟨al, cl, rfl⟩ := r1.slice
 obtain ⟨ac, cc', rfl⟩ := r2.slice
 exact ⟨al, cl, ac, cc', rfl, rfl⟩
theorem padW_id {d : Dsk} (h : DOk d) : d.1.map pad = d.1 ∧ d.2.map padW = d.2 := by
 refine ⟨?_, ?_⟩
 ·conv => rhs; rw [← List.map_id d.1]
  exact List.map_congr_left fun x hx => pad_id (h.2.2.2.1 x hx)
 ·conv => rhs; rw [← List.map_id d.2]
  exact List.map_congr_left fun y hy => by unfold padW; rw [pad_id (h.2.2.2.2 y hy).2]; rfl
set_option maxRecDepth 100000 in
set_option maxHeartbeats 2000000 in
theorem dput_any (w : World) (sv cv v : Value) (d : Dsk) (z : Int) (x : List UInt8) (h1 : RdSec w sv d.1) (h2 : RdC w cv d.2) (hx : Rd w v x) :
  Calls Try.prog 56 #[.agg #[sv, cv], .int .i64 z, v] w fun e w' => ∃ sv' cv', e = .returned (.tuple #[.agg #[sv', cv'], .int .i64 (dput d z x).2]) ∧ Own SStP w.heap.size w' [sv', cv'] (dput d z x).1 ∧ Below w.heap.size w w' := by
 obtain ⟨j0, ji, jz0, jz1, jz2⟩ := info_parts infoW
 obtain ⟨a1, c1, rfl⟩ := h1.slice
 obtain ⟨a2, c2, rfl⟩ := h2.slice
 obtain ⟨a3, c3, rfl⟩ := hx.slice
 obtain ⟨W, hW, hA, hZ, bW, sW⟩ := boxes w (.slice a1 d.1.length c1) (.slice a2 d.2.length c2) 31
 replace h1 := h1.to0 bW
 replace h2 := h2.to0 bW
 obtain ⟨A0, A1, _, _⟩ := row2_cells hA
 go_enter Try.func56, Try.ntmps56
 go_wp2_with fail
 rw [← hW]
 replace hW := hide hW
 refine (dsector_any _ _ _ d z h1 h2).mono ?_
 rintro e w1 ⟨rfl, b1⟩
 have c1w := bW.trans (b1.mono bW.size)
 have Z1 := (b1.block (w.heap.size + 1) (by omega)).trans hZ
 obtain ⟨y0, y1, y2, y3⟩ := row2_cells Z1
 by_cases hs0 : dsect d z = 0
 ·obtain ⟨hok, hh⟩ := dsect_zero.1 hs0
  rw [hs0]
  have A0' := (b1.cell (cell_lt A0)).trans A0
  have A1' := (b1.cell (cell_lt A1)).trans A1
  by_cases hl : 64 < x.length
  ·have hq : (64 : Int) < (x.length : Int) := by omega
   have hR : Hid (dput d z x = (([], []), 5)) := by show _ = _; unfold dput; rw [if_neg (by simp [hs0]), if_pos hl]
   clear hs0
   go_wp2
   refine ret_cellT rfl rfl (w.heap.size + 1) rfl _ _ _ _ (heap_set2 Z1 _ _) _ Try.underlying31 rfl info_stP _ rfl ?_
   rw [hR.out]
   exact ⟨_, _, rfl, own_none _ _ _, below_set2 c1w (show w.heap.size ≤ w.heap.size + 1 by omega) _ _⟩
  have hq : ¬ (64 : Int) < (x.length : Int) := by omega
  by_cases hc : 4096 ≤ d.2.length
  ·have hq2 : (4096 : Int) ≤ (d.2.length : Int) := by omega
   have hR : Hid (dput d z x = (([], []), 51)) := by show _ = _; unfold dput; rw [if_neg (by simp [hs0]), if_neg hl, if_pos hc]
   clear hs0
   go_wp2
   refine ret_cellT rfl rfl (w.heap.size + 1) rfl _ _ _ _ (heap_set2 Z1 _ _) _ Try.underlying31 rfl info_stP _ rfl ?_
   rw [hR.out]
   exact ⟨_, _, rfl, own_none _ _ _, below_set2 c1w (show w.heap.size ≤ w.heap.size + 1 by omega) _ _⟩
  have hq2 : (d.2.length : Int) < 4096 := by omega
  have hR : Hid (dput d z x = ((d.1, d.2 ++ [(z, pad x)]), 0)) := by show _ = _; unfold dput; rw [if_neg (by simp [hs0]), if_neg hl, if_neg hc]
  have HLL := hide (And.intro hl hc)
  have g1 := h1.to0 b1
  have g2 := h2.to0 b1
  have hlen1 := hok.2.1
  obtain ⟨pd1, pd2⟩ := padW_id hok
  have PD := hide (And.intro pd1 pd2)
  clear hs0 hl hc pd1 pd2
  go_wp2_with fail
  refine (renewed_any _ _ _ d g1 g2 (by omega) (by have := hq2; omega)).mono ?_
  rintro e w3 ⟨sv', cv', rfl, o3, b3⟩
  rw [PD.out.1, PD.out.2] at o3
  have c3w := c1w.trans (b3.mono c1w.size)
  have b13 := b1.trans (b3.mono b1.size)
  obtain ⟨F, hF, hFB⟩ := o3.foot
  obtain ⟨al, cl, ac, cc', rfl, rfl⟩ : ∃ al cl ac cc', sv' = .slice al d.1.length cl ∧ cv' = .slice ac d.2.length cc' := by
   obtain ⟨F1, F2, _, p1, p2, _⟩ := OwnF.split (c := [sv']) (d := [cv']) hF rfl
   obtain ⟨v1, e1, r1⟩ := p1.rd
   obtain ⟨v2, e2, r2⟩ := p2.rd
   simp at e1 e2; subst e1 e2
   obtain ⟨al, cl, rfl⟩ := r1.slice
   obtain ⟨ac, cc', rfl⟩ := r2.slice
   exact ⟨al, cl, ac, cc', rfl, rfl⟩
  obtain ⟨X, hX, X0, X1, bX, sX⟩ := boxed2 w3 (.slice al d.1.length cl) (.slice ac d.2.length cc') 31
  have hT : X.heap[w3.heap.size]? = some (.cells #[.slice al d.1.length cl, .slice ac d.2.length cc'] 31 (0, 0)) := by rw [hX]; exact heap_alloc_last w3 _
  obtain ⟨gb, hgb⟩ : ∃ gb, gb = w3.heap.size := ⟨_, rfl⟩
  rw [← hgb] at hT X0 X1
  have hgF : gb ∉ F := fun hm => by have := hF.lt gb hm; omega
  have Z3 := ((b13.trans (bX.mono b13.size)).block (w.heap.size + 1) (by omega)).trans hZ
  have hs3 : w.heap.size + 1 + 1 ≤ gb := by have := b13.size; omega
  have hs2 : w.heap.size + 1 + 1 ≤ w1.heap.size := by have := b1.size; omega
  have cX := c3w.trans (bX.mono c3w.size)
  have hxX := hx.to cX
  obtain ⟨cc, rowT, fin⟩ := OwnF.litSnd (c0 := [.slice al d.1.length cl]) (hF.to bX) rfl (n := d.2.length) rfl
  have FIN : Hid (∀ (w5 w6 : World) (u : Value) (g cap : Nat), Below X.heap.size X.drew w5 → OwnB X.heap.size w5 u (pad x) → (w5.alloc (.cells #[.int .i64 z, u] 110)).grownBy w6 (Value.slice ac d.2.length cc').ownBlock →
    w6.ownsRow 0 110 2 (.slice (some ⟨g, 0, none⟩) (d.2.length + 1) cap) (d.2.length + 1) (cc ++ [.int .i64 z, u]) → ((Value.slice ac d.2.length cc').ownBlock = some g ∨ g = w5.heap.size + 1) →
    w6.heap[gb]? = some (.cells #[.slice al d.1.length cl, .slice ac d.2.length cc'] 31 (0, 0)) ∧ w6.heap[w.heap.size + 1]? = some (.cells #[.slice none 0 0, .slice none 0 0] 31 (0, 0)) ∧ Hid (∃ F', OwnF SStP F' w6 [.slice al d.1.length cl, .slice (some ⟨g, 0, none⟩) (d.2.length + 1) cap] (d.1, d.2 ++ [(z, pad x)]) ∧ (∀ b, b ∈ F' → w.heap.size + 1 + 1 ≤ b) ∧ gb ∉ F') ∧ Hid (Below w.heap.size w w6)) := fun w5 w6 u g cap k1 k2 k3 k4 k5 => by
   obtain ⟨⟨F', q1, q2⟩, q3, q4⟩ := fin w5 [.int .i64 z, u] (z, pad x) 110 _ w6 g cap ((Below.refl _ _).drew.trans k1) (own_wrt k2) rfl rfl rfl rfl k3 k4 k5
   refine ⟨(q4 _ (by omega) hgF).trans hT, (q4 _ (by omega) fun hm => by have := hFB _ hm; omega).trans Z3, ⟨F', q1, fun b hb => (q2 b hb).elim (fun h => by have := hFB b h; omega) (fun h => by omega), fun hm => (q2 _ hm).elim hgF (fun h => by omega)⟩, ?_⟩
   exact cX.trans (q3 w.heap.size (fun b hb => by have := hFB b hb; omega) (by omega))
  have ROW : Hid (∀ u, Below X.heap.size X.drew u → ∀ o : Obj, (u.alloc o).ownsRow 0 110 2 (.slice ac d.2.length cc') d.2.length cc) := fun u hu o => rowT _ (((Below.refl _ _).drew.trans hu).alloc hu.size o)
  have KS := hide (sectorOf_any X.drew _ x (hxX.to (Below.refl _ _).drew))
  have h63 : d.2.length + 1 ≤ maxLen := by rw [show maxLen = 9223372036854775807 from rfl]; have := hq2; omega
  have hby : (d.2.length + 1) * 32 ≤ 140737488355328 := by have := hq2; omega
  clear fin rowT hF hFB o3 b3 c3w hT Z3 cX bX A0' A1' g1 g2 b13 c1w b1 h1 h2 hA hZ bW A0 A1 hok hh hgF hx hxX y0 y1 y2 y3 Z1
  obtain ⟨PX, hPX⟩ : ∃ PX, PX = pad x := ⟨_, rfl⟩
  have hPL : PX.length = 64 := by rw [hPX]; exact pad_len _
  rw [← hPX] at FIN KS hR
  replace hPX := hide hPX
  replace hPL := hide hPL
  generalize x.length = L at *
  go_wp2
  rw [← hX, ← hgb]
  replace hX := hide hX
  replace hgb := hide hgb
  refine wp_region_mid (fun w' => w'.cell? ⟨gb, 1, none⟩ = some (.slice ac d.2.length cc')) 4 7 mixed (by kernel_rfl) (fun _ _ _ _ h => h) X1 ?_
  dsimp only [List.take, List.drop]
  iterate 4
   refine take_one (v := ?_) (by rfl) ?_ ?_
   rotate_left
   ·intro w' s1
    go_simp
    try with_reducible rfl
   try simp only [Act.put, List.setIfInBounds_toArray, List.set_cons_zero, List.set_cons_succ]
  refine mid_one fun K hK => ?_
  refine step_call (by rfl) 82 _ _ (by rfl) #[.slice a3 L c3] (by simp [Act.eval]) (Try.call82 _ _) KS.out ?_
  rintro e w5 ⟨v5, rfl, o5, b5⟩
  obtain ⟨av, cv5, hv5⟩ := o5.rd.slice
  rw [hPL.out] at hv5
  subst hv5
  have x1 := (b5.cell (p := ⟨gb, 1, none⟩) (cell_lt X1)).trans X1
  refine ⟨_, rfl, hK _ _ x1 ?_⟩
  clear hK K
  try simp only [Act.put, List.setIfInBounds_toArray, List.set_cons_zero, List.set_cons_succ]
  refine mid_one fun K hK => ?_
  rw [if_pos (by rfl)]
  go_simp
  refine hK _ _ x1 ?_
  clear hK K
  refine mid_one fun K hK => ?_
  rw [if_pos (by rfl)]
  go_simp
  refine hK _ _ (cell_alloc x1 _) ?_
  clear hK K
  show wpList _ _ _ _ _ _
  go_wp2_with (at_builtin; refine wpList_append_lies _ rfl _ _ 29 rfl 0 110 j0 _ 2 32 Try.underlying29 ji jz0 jz1 jz2 rfl (by decide) (.slice ac d.2.length cc') d.2.length cc rfl (ROW.out w5 b5 _) ⟨w5.heap.size, 0, none⟩ 1 1 [.int .i64 z, .slice av 64 cv5] rfl rfl (World.news_of_block (heap_alloc_last w5 _)) (by simp [Value.oneCell']) (by decide) h63 hby (Nat.zero_le _) (w5.heap.size + 1) (by simp) ?_; intro g cap w6 ho6 hg6 hat6 hlt6; obtain ⟨T6, Z6, HO, HB6⟩ := FIN.out w5 w6 _ g cap b5 o5 hg6 ho6 hat6; obtain ⟨t0, t1, t2, t3⟩ := row2_cells T6; have T7 := set_row1 T6 (.slice (some ⟨g, 0, none⟩) (d.2.length + 1) cap); obtain ⟨e0, e1, e2, e3⟩ := row2_cells T7; have Z7 := (Below.heap_setCell w6 ⟨gb, 1, none⟩ (.slice (some ⟨g, 0, none⟩) (d.2.length + 1) cap) (w.heap.size + 1) (by show w.heap.size + 1 ≠ gb; omega)).trans Z6; obtain ⟨i0', i1, i2, i3⟩ := row2_cells Z7; have ZZ := hide Z7; clear T6 Z6 T7 Z7 ho6 hg6 hat6 FIN ROW o5 b5 KS)
  refine ret_cellT rfl rfl (w.heap.size + 1) rfl _ _ _ _ (heap_set2 ZZ.out _ _) _ Try.underlying31 rfl info_stP _ rfl ?_
  rw [hR.out]
  obtain ⟨F', q1, q2, q3⟩ := HO.out
  have nB1 : w.heap.size + 1 ∉ F' := fun hm => by have := q2 _ hm; omega
  exact ⟨_, _, rfl, (((q1.set (a := ⟨gb, 1, none⟩) q3 _).set (a := ⟨w.heap.size + 1, 0, none⟩) nB1 _).set (a := ⟨w.heap.size + 1, 1, none⟩) nB1 _).own (fun b hb => by have := q2 b hb; omega), below_set2 (HB6.out.setCell (p := ⟨gb, 1, none⟩) (by show w.heap.size ≤ gb; omega) _) (show w.heap.size ≤ w.heap.size + 1 by omega) _ _⟩
 ·have hne : (dsect d z != 0) = true := by simpa using hs0
  have hR : Hid (dput d z x = (([], []), dsect d z)) := by show _ = _; unfold dput; rw [if_pos hs0]
  generalize hD : dsect d z = D at *
  clear hD hs0
  go_wp2
  refine ret_cellT rfl rfl (w.heap.size + 1) rfl _ _ _ _ (heap_set2 Z1 _ _) _ Try.underlying31 rfl info_stP _ rfl ?_
  rw [hR.out]
  exact ⟨_, _, rfl, own_none _ _ _, below_set2 c1w (show w.heap.size ≤ w.heap.size + 1 by omega) _ _⟩
end Go.Proofs.Ytjjicajodjophaa

namespace Go.Proofs.Ytjjicajodjophaa
open Go.RowKit
theorem rd_sub {w : World} {a : Option Addr} {len cap : Nat} {xs : List UInt8} (h : Rd w (.slice a len cap) xs) {q to : Nat} (h1 : q ≤ to) (h2 : to ≤ len) :
  Rd w (.slice (a.map fun x => x.add q) (to - q) (cap - q)) ((xs.take to).drop q) ∧ (cap = q → Rd w (.slice a (to - q) 0) ((xs.take to).drop q)) := by
 obtain ⟨ao, c, e, l1, m1, n1, r1⟩ := h
 simp only [Value.slice.injEq] at e
 obtain ⟨rfl, rfl, rfl⟩ := e
 have el : ((xs.take to).drop q).length = to - q := by simp; omega
 refine ⟨⟨a.map fun x => x.add q, cap - q, by rw [el], by rw [el]; omega, by omega, ?_, ?_⟩, fun hc => ?_⟩
 ·intro h
  cases a with
  | none => rw [n1 rfl]; simp
  | some x => cases h
 ·rcases r1 with rfl | ⟨b, off, rfl, hc⟩
  ·left; simp
  ·by_cases h0 : to = q
   ·left; apply List.eq_nil_of_length_eq_zero; rw [el]; omega
   ·right
    refine ⟨b, off + q, ?_, fun i hi => ?_⟩
    ·simp [Addr.add]
    ·rw [el] at hi
     have := hc (q + i) (by omega)
     rw [show off + q + i = off + (q + i) from by omega, this]
     simp only [bt]
     congr 3
     simp only [List.getD_eq_getElem?_getD, List.getElem?_drop, List.getElem?_take]
     rw [if_pos (by omega)]
 ·have h0 : to - q = 0 := by omega
  have en : (xs.take to).drop q = [] := List.eq_nil_of_length_eq_zero (by rw [el, h0])
  rw [en, h0]
  exact ⟨a, 0, rfl, Nat.le_refl _, Nat.zero_le _, fun _ => rfl, .inl rfl⟩
end Go.Proofs.Ytjjicajodjophaa

namespace Go.Proofs.Ytjjicajodjophaa
open Go.RowKit
theorem wp_call_fv {P : Program} {o : Oper} {a : Act} {w : World} {K : Act → World → Prop} {Q : Exit → Act → World → Prop} (n : FuncId) (c : Operand) (xs : Array Operand) (ts : Array TypeId) (lb : Array Value)
  (ho : o.op = .call { callee := .value c, args := xs, argTypes := ts }) (hc : a.eval c = .func (.func n) #[] lb) (vals : Array Value) (hv : xs.map a.eval = vals) (hent : (callFunc n (vals ++ lb)).run P w = .ok (.enter n (vals ++ lb)) w) {R : Ending → World → Prop} (hcall : Calls P n (vals ++ lb) w R)
  (h : ∀ e w', R e w' → ∃ v, e = .returned v ∧ K (a.put o.dst v) w') : o.wp P a w K Q := by
 unfold Oper.wp
 simp [execOp, ho, resolve, invoke, hv, hc, Deferred.ofValue]
 rw [hent, Oper.upon_enter]
 refine hcall.mono ?_
 intro e w' hr
 obtain ⟨v, rfl, hk⟩ := h e w' hr
 exact hk
theorem step_call_fv {P : Program} {ops : Array Oper} {o : Oper} {a : Act} {w : World} {K : Act → World → Prop} {Q : Exit → Act → World → Prop} {E : Prop} (hgd : o.guard = none) (n : FuncId) (c : Operand) (xs : Array Operand) (ts : Array TypeId) (lb : Array Value)
  (ho : o.op = .call { callee := .value c, args := xs, argTypes := ts }) (hc : a.eval c = .func (.func n) #[] lb) (vals : Array Value) (hv : xs.map a.eval = vals) (hent : (callFunc n (vals ++ lb)).run P w = .ok (.enter n (vals ++ lb)) w) {R : Ending → World → Prop} (hcall : Calls P n (vals ++ lb) w R)
  (h : ∀ e w', R e w' → ∃ v, e = .returned v ∧ K (a.put o.dst v) w') : if Region.wanted o (yielded ops a.tmps) = true then Oper.wp P o a w K Q else E := by
 rw [if_pos (by simp [Region.wanted, hgd])]
 exact wp_call_fv n c xs ts lb ho hc vals hv hent hcall h
theorem rd_take {w : World} {a : Option Addr} {len cap : Nat} {xs : List UInt8} (h : Rd w (.slice a len cap) xs) {n : Nat} (hn : n ≤ len) : Rd w (.slice a n cap) (xs.take n) := by
 obtain ⟨ao, c, e, l1, m1, n1, r1⟩ := h
 simp only [Value.slice.injEq] at e
 obtain ⟨rfl, rfl, rfl⟩ := e
 have el : (xs.take n).length = n := by simp; omega
 refine ⟨a, cap, by rw [el], by rw [el]; omega, m1, n1, ?_⟩
 rcases r1 with rfl | ⟨b, off, rfl, hc⟩
 ·left; simp
 ·right
  refine ⟨b, off, rfl, fun i hi => ?_⟩
  rw [el] at hi
  rw [hc i (by omega)]
  simp only [bt]
  congr 3
  simp only [List.getD_eq_getElem?_getD, List.getElem?_take]
  rw [if_pos hi]
theorem rd_cap {w : World} {a : Option Addr} {n c : Nat} {xs : List UInt8} (h : Rd w (.slice a n c) xs) : n ≤ c := by
 obtain ⟨_, _, e, l, _⟩ := h
 simp only [Value.slice.injEq] at e
 omega
theorem OwnF.cacheNil {F : List Nat} {w : World} {sv : Value} {ss : List (List UInt8)} (T : Nat) (h : OwnF SSec F w [sv] ss) : OwnF (SSec.pair (Shp.list T SWr)) F w [sv, .slice none 0 0] (ss, []) := by
 have := OwnF.join (t := Shp.list T SWr) (F2 := []) (d := [.slice none 0 0]) (y := []) h ⟨⟨_, [], [], rfl, World.ownsRow_nil _ _ _ _, ⟨rfl, rfl⟩, by simp [Value.ownBlock]⟩, List.nodup_nil⟩ (fun b _ h => by cases h)
 rw [List.append_nil] at this
 exact this
set_option maxRecDepth 100000 in
set_option maxHeartbeats 2000000 in
theorem landed_any (w : World) (sv cv : Value) (d : Dsk) (fn : Nat) (lb : Array Value) (f : Nat → Nat) (h1 : RdSec w sv d.1) (h2 : RdC w cv d.2) (hok : DOk d) (hf : ∀ i, f i ≤ 64) (hent : ∀ args u, (callFunc fn args).run Try.prog u = .ok (.enter fn args) u)
  (hcl : ∀ (W : World) (i : Nat), Below w.heap.size w W → Calls Try.prog fn (#[.int .i64 (i : Int)] ++ lb) W fun e w' => e = .returned (.int .i64 (f i : Nat)) ∧ W = w') :
  Calls Try.prog 57 #[.agg #[sv, cv], .func (.func fn) #[] lb] w fun e w' => ∃ sv', e = .returned (.agg #[sv', .slice none 0 0]) ∧ Own SStP w.heap.size w' [sv', .slice none 0 0] (lands f d.1 d.2 d.2.length, []) ∧ Below w.heap.size w w' := by
 obtain ⟨a1, c1, rfl⟩ := h1.slice
 obtain ⟨a2, c2, rfl⟩ := h2.slice
 obtain ⟨W, hW, hA, hZ, bW, sW⟩ := boxes w (.slice a1 d.1.length c1) (.slice a2 d.2.length c2) 31
 obtain ⟨A0, A1, _, _⟩ := row2_cells hA
 have q1 := h1.to0 bW
 have hlen1 := hok.2.1
 have hlen2 := hok.2.2.1
 obtain ⟨pd1, _⟩ := padW_id hok
 have PD := hide pd1
 have HOK := hide hok
 have HCL := hide hcl
 clear pd1 hok hcl
 go_enter Try.func57, Try.ntmps57
 go_wp2_with fail
 rw [← hW]
 replace hW := hide hW
 refine (sectorsOf_any _ _ d.1 q1 (by omega)).mono ?_
 rintro e w1 ⟨v1, rfl, o1, b1⟩
 rw [PD.out] at o1
 obtain ⟨F, hF, hFB⟩ := o1.foot
 obtain ⟨g, hg, rfl⟩ : ∃ al cl, v1 = .slice al d.1.length cl := o1.rdS.slice
 have Z1 := (b1.block (w.heap.size + 1) (by omega)).trans hZ
 have A1' := (b1.cell (cell_lt A1)).trans A1
 have c1w := bW.trans (b1.mono bW.size)
 have HF := hide (And.intro hF hFB)
 have ZZ := hide Z1
 have hw1 : w.heap.size + 1 + 1 ≤ w1.heap.size := by have := b1.size; omega
 have AA := hide ((b1.block w.heap.size (by omega)).trans hA)
 clear o1 hF hFB b1 bW hA hZ A0 A1 q1 Z1
 go_wp2
 go_loopw [14] (fun i wr => ∃ k : Nat, k ≤ d.2.length ∧ i = .int .i64 k ∧ OwnF SSec F wr [.slice g d.1.length hg] (lands f d.1 d.2 k) ∧ Below (w.heap.size + 1 + 1) w1 wr) (fun i _ => d.2.length - (intOf i).toNat)
 case atStart => exact ⟨0, Nat.zero_le _, rfl, HF.out.1, Below.refl _ _⟩
 case round =>
  obtain ⟨k, hk, rfl, hF, hb⟩ := hrel
  have cw := c1w.trans (hb.mono (show w.heap.size ≤ w.heap.size + 1 + 1 by omega))
  by_cases hlt : k < d.2.length
  ·have hqk : (k : Int) < (d.2.length : Int) := by omega
   obtain ⟨y, hy, hym⟩ := some_at d.2 hlt
   obtain ⟨b1, o1, u, rfl, hc1, hc2, hr⟩ := (h2.to0 cw).wrt hy
   have hyk := HOK.out.2.2.2.2 y hym
   have hls := lands_succ (f := f) (ss := d.1) hy
   obtain ⟨z, x⟩ := y
   dsimp only at hc1 hc2 hr hyk hls
   obtain ⟨kz, rfl⟩ : ∃ kz : Nat, z = (kz : Int) := ⟨z.toNat, by omega⟩
   rw [show ((kz : Int)).toNat = kz from by omega] at hls
   obtain ⟨s, hs, hsm⟩ := some_at (lands f d.1 d.2 k) (k := kz) (by rw [lands_len]; omega)
   rw [getD_some hs] at hls
   have hs64 := lands_64 (f := f) (ws := d.2) HOK.out.2.2.2.1 k s hsm
   obtain ⟨au, cu, rfl⟩ := hr.slice
   rw [hyk.2] at hc2 hr
   obtain ⟨V, hV, V0, V1, bV, sV⟩ := boxed2 wr (.int .i64 (kz : Int)) (.slice au 64 cu) 110
   obtain ⟨gs, cap, us, ev, hcap, hcs, hos, hgsF, husF, fin⟩ := (hF.to bV).sector hs
   rw [lands_len] at ev hcap
   cases ev
   obtain ⟨asx, cs, rfl⟩ := hos.rd.slice
   rw [hs64] at hcs hos husF fin
   have hrV := hr.to bV
   have hfk := hf k
   have KC := hide (HCL.out V.drew k (cw.trans (bV.mono cw.size)).drew)
   have hsB : OwnB (w.heap.size + 1 + 1) V.drew (.slice asx 64 cs) s := by
    refine ⟨by rw [List.length_map, Nat.mul_one], ?_⟩
    rcases hos.2 with ⟨e, h0⟩ | ⟨g', cap', cur, e, _, r⟩
    ·exact .inl ⟨e, h0⟩
    ·refine .inr ⟨g', cap', cur, e, ?_, r⟩
     rw [hs64] at e
     cases e
     have := HF.out.2 g' (husF g' rfl).1
     omega
   obtain ⟨w5, hrun, o5, b5, g5⟩ := run_copy_octs 3 hsB (rd_take (hrV.to (Below.refl _ _).drew) (n := f k) (by omega))
   have hxl : (x.take (f k)).length = f k := by rw [List.length_take]; omega
   rw [hxl, hs64] at hrun
   have hmn : Nat.min (f k) 64 = f k := Nat.min_eq_left (by omega)
   rw [hmn] at hrun
   have f5 : Hid (OwnF SSec F w5 [.slice (some ⟨gs, 0, none⟩) d.1.length hg] (lands f d.1 d.2 (k + 1))) := by
    rw [hls]
    exact fin w5 _ (o5.mono (Nat.zero_le _)) (fun b hb' hne => g5.block b (by have := hF.lt b hb'; have := bV.size; show b < V.heap.size; omega) hne)
   have B5 : Hid (Below (w.heap.size + 1 + 1) w1 w5) := (hb.trans (bV.mono (by have := hb.size; omega))).trans ((Below.refl _ _).drew.trans b5)
   have hcap0 : f k ≤ cu := by have := rd_cap hr; omega
   have hq5 : (f k : Int) ≤ (cu : Int) := by omega
   have hq6 : (kz : Int) < (d.1.length : Int) := by omega
   have hxr : (x.take (f k)).length = f k := hxl
   clear hos husF fin hF hr hrV hb cw bV hls hs hsm hy hym hyk hgsF hsB o5 b5 g5 hxl hxr
   generalize hfkn : f k = n at *
   replace hfkn := hide hfkn
   go_wp2
   rw [← hV]
   refine wp_region_mid (fun w' => w'.cell? ⟨wr.heap.size, 0, none⟩ = some (.int .i64 (kz : Int)) ∧ w'.cell? ⟨wr.heap.size, 1, none⟩ = some (.slice au 64 cu) ∧ w'.cell? ⟨gs, kz, none⟩ = some (.slice asx 64 cs)) 9 11 mixed (by kernel_rfl) (fun _ _ _ _ h => h) ⟨V0, V1, hcs⟩ ?_
   replace hV := hide hV
   dsimp only [List.take, List.drop]
   iterate 9
    refine take_one (v := ?_) (by rfl) ?_ ?_
    rotate_left
    ·rintro w' ⟨s1, s2, s3⟩
     go_simp
     try with_reducible rfl
    try simp only [Act.put, List.setIfInBounds_toArray, List.set_cons_zero, List.set_cons_succ]
   refine mid_one fun K hK => ?_
   refine step_call_fv (by rfl) fn _ _ _ lb (by rfl) (by rfl) #[.int .i64 (k : Int)] (by simp [Act.eval]) (hent _ _) KC.out ?_
   rintro e w' ⟨rfl, rfl⟩
   refine ⟨_, rfl, hK _ _ ⟨V0, V1, hcs⟩ ?_⟩
   clear hK K
   try simp only [Act.put, List.setIfInBounds_toArray, List.set_cons_zero, List.set_cons_succ]
   refine mid_one fun K hK => ?_
   rw [if_pos (by rfl)]
   go_simp
   refine hK _ _ ⟨V0, V1, hcs⟩ ?_
   clear hK K
   show wpList _ _ _ _ _ _
   go_wp2
   go_roundw
   case rel => exact ⟨k + 1, by omega, by go_num, f5.out, B5.out⟩
   case measure => simp [intOf]; omega
  ·obtain rfl : k = d.2.length := by omega
   have Z2 := (hb.block (w.heap.size + 1) (by omega)).trans ZZ.out
   obtain ⟨y0, y1, y2, y3⟩ := row2_cells Z2
   have hgF2 : w.heap.size + 1 ∉ F := fun hm => by have := HF.out.2 _ hm; omega
   have OO := hide (((hF.cacheNil 110).set (a := ⟨w.heap.size + 1, 0, none⟩) hgF2 (.slice g d.1.length hg)).set (a := ⟨w.heap.size + 1, 1, none⟩) hgF2 (.slice none 0 0))
   have Z3 := hide Z2
   clear hF hb Z2
   go_wp2
   refine ret_cell rfl rfl (w.heap.size + 1) rfl _ _ _ _ (heap_set2 Z3.out _ _) _ Try.underlying31 rfl info_stP ?_
   exact ⟨_, rfl, OO.out.own (fun b hb => by have := HF.out.2 b hb; omega), below_set2 cw (show w.heap.size ≤ w.heap.size + 1 by omega) _ _⟩
end Go.Proofs.Ytjjicajodjophaa

namespace Go.Proofs.Ytjjicajodjophaa
open Go.RowKit
set_option maxRecDepth 100000 in
theorem flush1_any (W : World) (i : Nat) : Calls Try.prog 58 (#[.int .i64 (i : Int)] ++ #[]) W fun e w' => e = .returned (.int .i64 ((64 : Nat) : Int)) ∧ W = w' := by
 go_enter Try.func58, Try.ntmps58
 go_wp2
 go_ret
 exact ⟨rfl, rfl⟩
set_option maxRecDepth 100000 in
set_option maxHeartbeats 1000000 in
theorem dflush_any (w : World) (sv cv : Value) (d : Dsk) (h1 : RdSec w sv d.1) (h2 : RdC w cv d.2) :
  Calls Try.prog 26 #[.agg #[sv, cv]] w fun e w' => ∃ sv' cv', e = .returned (.tuple #[.agg #[sv', cv'], .int .i64 (dflush d).2]) ∧ Own SStP w.heap.size w' [sv', cv'] (dflush d).1 ∧ Below w.heap.size w w' := by
 obtain ⟨a1, c1, rfl⟩ := h1.slice
 obtain ⟨a2, c2, rfl⟩ := h2.slice
 obtain ⟨W, hW, hA, hZ, bW, sW⟩ := boxes w (.slice a1 d.1.length c1) (.slice a2 d.2.length c2) 31
 replace h1 := h1.to0 bW
 replace h2 := h2.to0 bW
 obtain ⟨A0, A1, _, _⟩ := row2_cells hA
 go_enter Try.func26, Try.ntmps26
 go_wp2_with fail
 rw [← hW]
 replace hW := hide hW
 refine (dcheck_any _ _ _ d h1 h2).mono ?_
 rintro e w1 ⟨rfl, b1⟩
 have c1w := bW.trans (b1.mono bW.size)
 have Z1 := (b1.block (w.heap.size + 1) (by omega)).trans hZ
 by_cases hok : DOk d
 ·rw [dcheck_ok hok]
  have hR : Hid (dflush d = ((lands (fun _ => 64) d.1 d.2 d.2.length, []), 0)) := if_pos hok
  have A0' := (b1.cell (cell_lt A0)).trans A0
  have A1' := (b1.cell (cell_lt A1)).trans A1
  have KL := hide (landed_any w1 _ _ d 58 #[] (fun _ => 64) (h1.to0 b1) (h2.to0 b1) hok (fun _ => Nat.le_refl _) (enters_of Try.func58 (by kernel_rfl) rfl) (fun W i _ => flush1_any W i))
  have hs1 : w.heap.size + 1 + 1 ≤ w1.heap.size := by have := b1.size; omega
  clear h1 h2 A0 A1 hA hok b1 bW
  go_wp2_with fail
  refine KL.out.mono ?_
  rintro e w2 ⟨sv', rfl, o2, b2⟩
  have Z2 := (b2.block (w.heap.size + 1) (by omega)).trans Z1
  obtain ⟨y0, y1, y2, y3⟩ := row2_cells Z2
  have c2w := c1w.trans (b2.mono c1w.size)
  obtain ⟨F, hF, hFB⟩ := o2.foot
  obtain ⟨al, cl, ac, cc', rfl, ecv⟩ := own_form' hF
  have OO := hide ((o2.set (a := ⟨w.heap.size + 1, 0, none⟩) (by show w.heap.size + 1 < _; omega) (.slice al (lands (fun _ => 64) d.1 d.2 d.2.length).length cl)).set (a := ⟨w.heap.size + 1, 1, none⟩) (by show w.heap.size + 1 < _; omega) (.slice none 0 0))
  rw [lands_len] at OO
  have ZZ := hide Z2
  have CC := hide c2w
  clear hF hFB o2 Z2 c2w b2 ecv Z1 c1w hZ KL
  rw [lands_len]
  go_wp2
  refine ret_cellT rfl rfl (w.heap.size + 1) rfl _ _ _ _ (heap_set2 ZZ.out _ _) _ Try.underlying31 rfl info_stP _ rfl ?_
  rw [hR.out]
  exact ⟨_, _, rfl, OO.out.mono (by omega), below_set2 CC.out (show w.heap.size ≤ w.heap.size + 1 by omega) _ _⟩
 ·rw [dcheck_no hok]
  have hR : Hid (dflush d = (([], []), 9)) := if_neg hok
  obtain ⟨y0, y1, y2, y3⟩ := row2_cells Z1
  go_wp2
  refine ret_cellT rfl rfl (w.heap.size + 1) rfl _ _ _ _ (heap_set2 Z1 _ _) _ Try.underlying31 rfl info_stP _ rfl ?_
  rw [hR.out]
  exact ⟨_, _, rfl, own_none _ _ _, below_set2 c1w (show w.heap.size ≤ w.heap.size + 1 by omega) _ _⟩
abbrev RdK (w : World) (v : Value) (keep : List Bool) : Prop := RdS Shp.bool w v keep
theorem RdS.bl {w : World} {a : Option Addr} {n cap : Nat} {ks : List Bool} (h : RdK w (.slice a n cap) ks) {i : Nat} {x : Bool} (hx : ks[i]? = some x) :
  ∃ b off, a = some ⟨b, off, none⟩ ∧ w.cell? ⟨b, off + i, none⟩ = some (.bool x) := by
 obtain ⟨b, off, u, e, hc, e2⟩ := RdS.at1 rfl h hx
 have : [u] = [Value.bool x] := e2
 simp at this; subst this
 exact ⟨b, off, e, hc⟩
theorem map_pad_nil (n : Nat) : (List.replicate n ([] : List UInt8)).map pad = List.replicate n (List.replicate 64 0) := by
 rw [List.map_replicate, pad_nil]
set_option maxRecDepth 100000 in
set_option maxHeartbeats 1000000 in
theorem dnew_any (w : World) (n : Int) :
  Calls Try.prog 24 #[.int .i64 n] w fun e w' => ∃ sv' cv', e = .returned (.tuple #[.agg #[sv', cv'], .int .i64 (dnew n).2]) ∧ Own SStP w.heap.size w' [sv', cv'] (dnew n).1 ∧ Below w.heap.size w w' := by
 obtain ⟨W, hW⟩ : ∃ W, W = w.alloc (.cells #[.slice none 0 0, .slice none 0 0] 31) := ⟨_, rfl⟩
 have hZ : W.heap[w.heap.size]? = some (.cells #[.slice none 0 0, .slice none 0 0] 31 (0, 0)) := by rw [hW]; exact heap_alloc_last w _
 have bW : Below w.heap.size w W := by rw [hW]; exact (Below.refl _ _).alloc (Nat.le_refl _) _
 have sW : W.heap.size = w.heap.size + 1 := by rw [hW]; simp
 by_cases hl : n < 1
 ·have hR : Hid (dnew n = (([], []), 4)) := if_pos (.inl hl)
  obtain ⟨y0, y1, y2, y3⟩ := row2_cells hZ
  rw [hW] at y0 y1 y2 y3
  go_enter Try.func24, Try.ntmps24
  go_wp2
  rw [← hW]
  refine ret_cellT rfl rfl w.heap.size rfl _ _ _ _ hZ _ Try.underlying31 rfl info_stP _ rfl ?_
  rw [hR.out]
  exact ⟨_, _, rfl, own_none _ _ _, bW⟩
 by_cases hg : 1024 < n
 ·have hR : Hid (dnew n = (([], []), 4)) := if_pos (.inr hg)
  obtain ⟨y0, y1, y2, y3⟩ := row2_cells hZ
  rw [hW] at y0 y1 y2 y3
  go_enter Try.func24, Try.ntmps24
  go_wp2
  rw [← hW]
  refine ret_cellT rfl rfl w.heap.size rfl _ _ _ _ hZ _ Try.underlying31 rfl info_stP _ rfl ?_
  rw [hR.out]
  exact ⟨_, _, rfl, own_none _ _ _, bW⟩
 obtain ⟨m, rfl⟩ : ∃ m : Nat, n = (m : Int) := ⟨n.toNat, by omega⟩
 have hR : Hid (dnew m = ((List.replicate m (List.replicate 64 0), []), 0)) := by
  show _ = _; unfold dnew; rw [if_neg (by omega), show ((m : Int)).toNat = m from by omega]
 have hmk := fun u => make_lists (n := m) (by omega) u
 have ol := own_lists W m (by omega)
 obtain ⟨X, hX⟩ : ∃ X, X = W.alloc (.cells (madeCells #[.slice none 0 0] m) 62) := ⟨_, rfl⟩
 rw [← hX, sW] at ol
 have bX : Below W.heap.size W X := by rw [hX]; exact (Below.refl _ _).alloc (Nat.le_refl _) _
 rw [hW] at hX
 have KS := hide (sectorsOf_any X _ (List.replicate m []) ol.rdS (by simp <;> omega))
 rw [map_pad_nil] at KS
 have Z1 := (bX.block w.heap.size (by omega)).trans hZ
 have c1 := bW.trans (bX.mono bW.size)
 have hsX : w.heap.size + 1 ≤ X.heap.size := by have := bX.size; omega
 have hl' : ¬ ((m : Int) < 1) := hl
 clear ol bX bW hZ
 go_enter Try.func24, Try.ntmps24
 go_wp2_with fail
 rw [← hX]
 replace hX := hide hX
 replace hW := hide hW
 refine KS.out.mono ?_
 rintro e w2 ⟨sv', rfl, o2, b2⟩
 have Z2 := (b2.block w.heap.size (by omega)).trans Z1
 obtain ⟨y0, y1, y2, y3⟩ := row2_cells Z2
 have c2 := c1.trans (b2.mono c1.size)
 obtain ⟨F, hF, hFB⟩ := o2.foot
 obtain ⟨al, cl, hv⟩ := o2.rdS.slice
 rw [List.length_replicate] at hv
 subst hv
 have nF : w.heap.size ∉ F := fun hm => by have := hFB _ hm; omega
 have OO := hide ((((hF.cacheNil 110).set (a := ⟨w.heap.size, 0, none⟩) nF (.slice al m cl)).set (a := ⟨w.heap.size, 1, none⟩) nF (.slice none 0 0)).own (B := w.heap.size) (fun b hb => by have := hFB b hb; omega))
 have ZZ := hide Z2
 have CC := hide c2
 clear hF hFB o2 Z2 c2 b2 Z1 c1 KS hmk
 go_wp2
 refine ret_cellT rfl rfl w.heap.size rfl _ _ _ _ (heap_set2 ZZ.out _ _) _ Try.underlying31 rfl info_stP _ rfl ?_
 rw [hR.out]
 exact ⟨_, _, rfl, OO.out, below_set2 CC.out (Nat.le_refl _) _ _⟩
end Go.Proofs.Ytjjicajodjophaa

namespace Go.Proofs.Ytjjicajodjophaa
open Go.RowKit
theorem boxed_row (w : World) (x y : Value) (t : TypeId) : ∃ u, u = w.alloc (.cells #[x, y] t) ∧ u.heap[w.heap.size]? = some (.cells #[x, y] t (0, 0)) ∧ Below w.heap.size w u ∧ u.heap.size = w.heap.size + 1 :=
 ⟨_, rfl, heap_alloc_last w _, (Below.refl _ _).alloc (Nat.le_refl _) _, by simp⟩
end Go.Proofs.Ytjjicajodjophaa

namespace Go.Proofs.Ytjjicajodjophaa
open Go.RowKit
theorem lastOf_snoc (z : Int) (x : List UInt8) (ws : List Wrt) (y : Wrt) : lastOf z x (ws ++ [y]) = if y.1 = z then y.2 else lastOf z x ws := by
 unfold lastOf; rw [List.foldl_append]; rfl
theorem lastOf_take {z : Int} {x : List UInt8} {ws : List Wrt} {k : Nat} {y : Wrt} (h : ws[k]? = some y) : lastOf z x (ws.take (k + 1)) = if y.1 = z then y.2 else lastOf z x (ws.take k) := by
 rw [← snoc_take ws h, lastOf_snoc]
theorem lastOf_64 {z : Int} {x : List UInt8} {ws : List Wrt} (hx : x.length = 64) (h : ∀ y ∈ ws, y.2.length = 64) : (lastOf z x ws).length = 64 := by
 induction ws generalizing x with
 | nil => exact hx
 | cons y r ih =>
  show (lastOf z (if y.1 = z then y.2 else x) r).length = 64
  refine ih ?_ (fun q hq => h q (List.mem_cons_of_mem _ hq))
  split
  ·exact h y (by simp)
  ·exact hx
theorem dhas_nat {d : Dsk} {z : Int} (h : dhas d z) : ∃ (k : Nat) (x : List UInt8), z = (k : Int) ∧ k < d.1.length ∧ d.1[k]? = some x := by
 obtain ⟨h1, h2⟩ := h
 refine ⟨z.toNat, d.1[z.toNat]'(by omega), by omega, by omega, List.getElem?_eq_getElem _⟩
end Go.Proofs.Ytjjicajodjophaa

namespace Go.Proofs.Ytjjicajodjophaa
open Go.RowKit
def z64 : List UInt8 := List.replicate 64 0
def wanted (l : List UInt8) : List UInt8 := if l.length = 0 then z64 else l
structure MInv (N : Nat) (d : Dsk) (L : List (List UInt8)) (i : Nat) : Prop where
 s : d.1 = List.replicate N z64
 n : d.2.length = i
 w : ∀ y ∈ d.2, (0 ≤ y.1 ∧ y.1 < (N : Int)) ∧ y.2.length = 64
 l : L.length = N
 k : ∀ k, k < N → wanted (L.getD k []) = lastOf (k : Int) z64 d.2 ∧ (L.getD k []).length ≤ 64
theorem MInv.start (N : Nat) : MInv N (List.replicate N z64, []) (List.replicate N []) 0 :=
 ⟨rfl, rfl, fun y h => (nomatch h), by simp, fun k hk => by rw [List.getD_eq_getElem?_getD, List.getElem?_replicate, if_pos hk]; exact ⟨rfl, Nat.zero_le _⟩⟩
theorem MInv.ok {N : Nat} {d : Dsk} {L : List (List UInt8)} {i : Nat} (h : MInv N d L i) (h1 : 1 ≤ N) (h2 : N ≤ 20) (hi : i ≤ 60) : DOk d := by
 have hl : d.1.length = N := by rw [h.s]; simp
 refine ⟨by omega, by omega, by rw [h.n]; omega, ?_, ?_⟩
 ·intro x hx
  rw [h.s] at hx
  rw [(List.mem_replicate.1 hx).2]; rfl
 ·rw [hl]; exact h.w
theorem MInv.put {N : Nat} {d : Dsk} {L : List (List UInt8)} {i : Nat} (h : MInv N d L i) (h1 : 1 ≤ N) (h2 : N ≤ 20) (hi : i < 60) {p : Nat} (hp : p < N) {X : List UInt8} (hX : X.length ≤ 64) :
  dput d (p : Int) X = ((d.1, d.2 ++ [((p : Int), pad X)]), 0) ∧ MInv N (d.1, d.2 ++ [((p : Int), pad X)]) (L.set p (pad X)) (i + 1) := by
 have hl : d.1.length = N := by rw [h.s]; simp
 constructor
 ·unfold dput
  rw [if_neg (by rw [dsect_zero.2 ⟨h.ok h1 h2 (by omega), by omega, by rw [hl]; omega⟩]; simp), if_neg (by omega), if_neg (by rw [h.n]; omega)]
 ·refine ⟨h.s, by simp [h.n], ?_, by simp [h.l], fun k hk => ?_⟩
  ·intro y hy
   rcases List.mem_append.1 hy with hy | hy
   ·exact h.w y hy
   ·simp only [List.mem_singleton] at hy
    subst hy
    exact ⟨⟨by show (0 : Int) ≤ (p : Int); omega, by show (p : Int) < (N : Int); omega⟩, pad_len X⟩
  ·show wanted ((L.set p (pad X)).getD k []) = lastOf (k : Int) z64 (d.2 ++ [((p : Int), pad X)]) ∧ _
   rw [lastOf_snoc, List.getD_eq_getElem?_getD]
   by_cases hkp : p = k
   ·subst hkp
    rw [List.getElem?_set_self (by rw [h.l]; exact hp), if_pos rfl]
    refine ⟨?_, by show (pad X).length ≤ 64; rw [pad_len]; exact Nat.le_refl _⟩
    show wanted (pad X) = pad X
    unfold wanted
    rw [if_neg (by rw [pad_len]; omega)]
   ·rw [List.getElem?_set_ne hkp, if_neg (by show ¬ (p : Int) = (k : Int); omega), ← List.getD_eq_getElem?_getD]
    exact h.k k hk
theorem lands_last {ss : List (List UInt8)} {ws : List Wrt} (h1 : ∀ x ∈ ss, x.length = 64) (h2 : ∀ y ∈ ws, (0 ≤ y.1 ∧ y.1 < (ss.length : Int)) ∧ y.2.length = 64) {j : Nat} (hj : j < ss.length) (n : Nat) (hn : n ≤ ws.length) :
  (lands (fun _ => 64) ss ws n).getD j [] = lastOf (j : Int) (ss.getD j []) (ws.take n) := by
 induction n with
 | zero => rfl
 | succ n ih =>
  obtain ⟨y, hy, hym⟩ := some_at ws (k := n) (by omega)
  rw [lands_succ hy, lastOf_take hy]
  have hy2 := h2 y hym
  by_cases hjy : y.1 = (j : Int)
  ·have : y.1.toNat = j := by omega
   have hjl : j < (lands (fun _ => 64) ss ws n).length := by rw [lands_len]; exact hj
   rw [if_pos hjy, this, List.getD_eq_getElem?_getD, List.getElem?_set_self hjl, List.take_of_length_le (by rw [hy2.2]; exact Nat.le_refl _)]
   show over _ _ = _
   exact over_all (by rw [lands_64 h1 n _ (getD_mem hjl)]; exact hy2.2.symm)
  ·rw [if_neg hjy, List.getD_eq_getElem?_getD, List.getElem?_set_ne (by omega), ← List.getD_eq_getElem?_getD]
   exact ih (by omega)
theorem MInv.fin {N : Nat} {d : Dsk} {L : List (List UInt8)} {i : Nat} (h : MInv N d L i) (h1 : 1 ≤ N) (h2 : N ≤ 20) (hi : i ≤ 60) (keep : List Bool) :
  ∃ S1, dflush d = ((S1, []), 0) ∧ S1.length = N ∧ dcrash (S1, []) keep 0 1 = ((S1, []), 0) ∧ ∀ k, k < N → dget d (k : Int) = (wanted (L.getD k []), 0) ∧ dget (S1, []) (k : Int) = (wanted (L.getD k []), 0) ∧ (wanted (L.getD k [])).length = 64 := by
 have hok := h.ok h1 h2 hi
 have hl : d.1.length = N := by rw [h.s]; simp
 have hz : ∀ k, k < N → d.1.getD k [] = z64 := fun k hk => by rw [h.s, List.getD_eq_getElem?_getD, List.getElem?_replicate, if_pos hk]; rfl
 refine ⟨lands (fun _ => 64) d.1 d.2 d.2.length, ?_, by rw [lands_len, hl], ?_, fun k hk => ⟨?_, ?_, ?_⟩⟩
 ·unfold dflush dland; rw [if_pos hok]
 ·have hok2 : DOk (lands (fun _ => 64) d.1 d.2 d.2.length, []) := ⟨by show 1 ≤ (lands _ _ _ _).length; rw [lands_len]; exact hok.1, by show (lands _ _ _ _).length ≤ 1024; rw [lands_len]; exact hok.2.1, Nat.zero_le _, lands_64 hok.2.2.2.1 _, fun y hy => (nomatch hy)⟩
  unfold dcrash dland
  rw [if_pos hok2]; rfl
 ·unfold dget
  rw [if_neg (by rw [dsect_zero.2 ⟨hok, by omega, by rw [hl]; omega⟩]; simp), (h.k k hk).1, show ((k : Int)).toNat = k from by omega, hz k hk]
 ·have hok2 : DOk (lands (fun _ => 64) d.1 d.2 d.2.length, []) := ⟨by show 1 ≤ (lands _ _ _ _).length; rw [lands_len]; exact hok.1, by show (lands _ _ _ _).length ≤ 1024; rw [lands_len]; exact hok.2.1, Nat.zero_le _, lands_64 hok.2.2.2.1 _, fun y hy => (nomatch hy)⟩
  unfold dget
  rw [if_neg (by rw [dsect_zero.2 ⟨hok2, by omega, by show (k : Int) < ((lands _ _ _ _).length : Int); rw [lands_len, hl]; omega⟩]; simp), (h.k k hk).1, show ((k : Int)).toNat = k from by omega]
  show (lastOf _ ((lands (fun _ => 64) d.1 d.2 d.2.length).getD k []) [], (0 : Int)) = _
  rw [lands_last hok.2.2.2.1 hok.2.2.2.2 (by omega) _ (Nat.le_refl _), List.take_length, hz k hk]
  rfl
 ·rw [(h.k k hk).1]
  exact lastOf_64 (by rfl) (fun y hy => (h.w y hy).2)
structure HInv (b g B : Nat) (lv : Value) (w : World) (d : Dsk) (L : List (List UInt8)) : Prop where
 st : ∃ s c, w.heap[b]? = some (.cells #[s, c] 31 (0, 0)) ∧ ∃ F, OwnF SStP F w [s, c] d ∧ b ∉ F ∧ g ∉ F
 la : Own SSec B w [lv] L
theorem HInv.drew {b g B : Nat} {lv : Value} {w : World} {d : Dsk} {L : List (List UInt8)} (h : HInv b g B lv w d L) : HInv b g B lv w.drew d L := by
 obtain ⟨⟨s, c, h1, F, h2, h3, h4⟩, h5⟩ := h
 exact ⟨⟨s, c, h1, F, h2.keep (fun _ _ => rfl), h3, h4⟩, h5.to (Below.refl _ _).drew⟩
theorem HInv.over {b g B : Nat} {lv : Value} {w w4 : World} {d d' : Dsk} {L : List (List UInt8)} {s c : Value} (h : HInv b g B lv w d L) (hb : b < w.heap.size) (hg : g < w.heap.size) (hB : b < B) (o : Own SStP w.heap.size w4 [s, c] d') (bb : Below w.heap.size w w4) :
  ∃ U, U = w4.alloc (.cells #[s, c] 31) ∧ (∃ x y, U.heap[b]? = some (.cells #[x, y] 31 (0, 0))) ∧ U.cell? ⟨w4.heap.size, 0, none⟩ = some s ∧ U.cell? ⟨w4.heap.size, 1, none⟩ = some c ∧
   ∃ V, V = (U.setCell ⟨b, 0, none⟩ s).setCell ⟨b, 1, none⟩ c ∧ HInv b g B lv V d' L ∧ (∀ C, C ≤ b → Below C w V) ∧ w.heap.size ≤ V.heap.size := by
 obtain ⟨⟨s0, c0, h1, F, h2, h3, h4⟩, h5⟩ := h
 obtain ⟨U, hU, U0, U1, bU, sU⟩ := boxed2 w4 s c 31
 have cb := bb.trans (bU.mono bb.size)
 have r := (cb.block b hb).trans h1
 have oU := o.to bU
 have la := h5.to cb
 refine ⟨U, hU, ⟨_, _, r⟩, U0, U1, _, rfl, ⟨⟨s, c, heap_set2 r _ _, ?_⟩, (la.set (a := ⟨b, 0, none⟩) hB _).set (a := ⟨b, 1, none⟩) hB _⟩, fun C hC => below_set2 (cb.mono (by omega)) hC _ _, by have := bb.size; simp [World.setCell]; omega⟩
 obtain ⟨G, hG, hGB⟩ := oU.foot
 have nb : b ∉ G := fun hh => by have := hGB b hh; omega
 exact ⟨G, (hG.set (a := ⟨b, 0, none⟩) nb _).set (a := ⟨b, 1, none⟩) nb _, nb, fun hh => by have := hGB g hh; omega⟩
end Go.Proofs.Ytjjicajodjophaa

namespace Go.Proofs.Ytjjicajodjophaa
open Go.RowKit
def encI (n : Int) : Value := .int .i64 n
def OwnI (B : Nat) (w : World) (v : Value) (xs : List Int) : Prop := w.ownsRow B 3 1 v xs.length (xs.map encI)
theorem infoI : (Try.prog.info? 3).map (fun i => (i.zero, i.size, i.bytes)) = some (some (.int .i64 0), 1, 8) := by kernel_rfl
theorem OwnI.nil (B : Nat) (w : World) : OwnI B w (.slice none 0 0) [] := World.ownsRow_nil _ _ _ _
theorem OwnI.below {B : Nat} {w w' : World} {v : Value} {xs : List Int} (h : OwnI B w v xs) {C : Nat} (hC : w.heap.size ≤ C) (hb : Below C w w') : OwnI B w' v xs := by
 rcases h with ⟨h1, h2 | ⟨g, cap, cur, hv, hB, hg, hr⟩⟩
 ·exact ⟨h1, .inl h2⟩
 ·refine ⟨h1, .inr ⟨g, cap, cur, hv, hB, ?_, hr⟩⟩
  rw [hb.block g (by have := lt_of_block hg; omega)]; exact hg
theorem OwnI.mono {B C : Nat} {w : World} {v : Value} {xs : List Int} (h : OwnI B w v xs) (hC : C ≤ B) : OwnI C w v xs := by
 rcases h with ⟨h1, h2 | ⟨g, cap, cur, hv, hB, hr⟩⟩
 ·exact ⟨h1, .inl h2⟩
 ·exact ⟨h1, .inr ⟨g, cap, cur, hv, by omega, hr⟩⟩
theorem OwnI.from {B : Nat} {w : World} {v : Value} {xs : List Int} (h : OwnI B w v xs) : ∀ k, v.ownBlock = some k → B ≤ k := by
 intro k hk
 rcases h.2 with ⟨rfl, _⟩ | ⟨g, cap, cur, rfl, hb, _⟩
 ·cases hk
 ·simp only [Value.ownBlock, Option.some.injEq] at hk
  omega
theorem OwnI.slice {B : Nat} {w : World} {v : Value} {xs : List Int} (h : OwnI B w v xs) : ∃ ao cap, v = .slice ao xs.length cap ∧ xs.length ≤ cap ∧ cap ≤ maxLen ∧ (xs = [] ∨ ∃ g, ao = some ⟨g, 0, none⟩ ∧ ∀ i, i < xs.length → w.cell? ⟨g, i, none⟩ = some (.int .i64 (xs.getD i 0))) := by
 have h' := h
 rcases h.2 with ⟨rfl, h0⟩ | ⟨g, cap, cur, rfl, hb, hg, hn, hm, hs, ht⟩
 ·rw [h0]; exact ⟨none, 0, rfl, Nat.le_refl _, Nat.zero_le _, .inl (List.eq_nil_of_length_eq_zero h0)⟩
 ·refine ⟨_, cap, rfl, hn, hm, .inr ⟨g, rfl, fun i hi => ?_⟩⟩
  rw [h'.cellAt i (by omega)]
  simp [encI, hi]
end Go.Proofs.Ytjjicajodjophaa

namespace Go.Proofs.Ytjjicajodjophaa
open Go.RowKit
def cutX (x : List UInt8) : List UInt8 := x.take (min x.length 244)
theorem cutX_len (x : List UInt8) : (cutX x).length = min x.length 244 := by unfold cutX; simp
theorem pgsect_z {d : Dsk} (h : DOk d) {at' : Int} (h0 : 0 ≤ at') (h1 : at' ≤ (d.1.length : Int) - 4) : pgsect d at' = 0 := pgsect_0.2 ⟨h, h0, h1⟩
theorem pgread_other {d : Dsk} (h : DOk d) {at' : Int} {b : List UInt8} (hb : b.length = 256) (h0 : 0 ≤ at') (h1 : at' ≤ (d.1.length : Int) - 4) (hc : d.2.length ≤ 4092) {to' : Int} (t0 : 0 ≤ to') (t1 : to' ≤ (d.1.length : Int) - 4) (ht : to' + 4 ≤ at' ∨ at' + 4 ≤ to') (id : Int) : pgread (d.1, d.2 ++ pws at' b 4) to' id = pgread d to' id := by
 have e1 := pgsect_z (dok_write h hb h0 h1 hc) t0 t1
 have e2 := pgsect_z h t0 t1
 unfold pgread
 rw [e1, e2, pgot_other h hb h0 h1 hc t0 t1 ht]
structure PInv (n : Nat) (xs : List (List UInt8)) (d : Dsk) (la : List Int) (i : Nat) : Prop where
 ok : DOk d
 s : d.1.length = 4 * n + 1
 c : d.2.length = 4 * i
 l : la.length = n
 r : ∀ (k : Nat) (v : Int), la[k]? = some v → v = 0 ∨ ((1 ≤ v ∧ v ≤ 10000) ∧ ∀ x, xs[k]? = some x → pgread d (4 * (k : Int)) (v - 1) = (cutX x, 0))
theorem PInv.start {n : Nat} (hn : n ≤ 6) (xs : List (List UInt8)) : PInv n xs (z64s (4 * n + 1), []) (List.replicate n 0) 0 :=
 ⟨dok_new (by omega) (by omega), z64s_len _, rfl, by simp, fun k v h => .inl (by rw [List.getElem?_replicate] at h; split at h <;> simp_all)⟩
theorem PInv.put {n : Nat} {xs : List (List UInt8)} {d : Dsk} {la : List Int} {i : Nat} (h : PInv n xs d la i) (hn : n ≤ 6) (hi : i < 12) {p : Nat} (hp : p < n) {x : List UInt8} (hx : xs[p]? = some x) :
  ∃ d', pgwrite d (4 * (p : Int)) (100 * (i : Int) + p) (cutX x) = (d', 0) ∧ PInv n xs d' (la.set p (100 * (i : Int) + p + 1)) (i + 1) := by
 have hcl : (cutX x).length ≤ 244 := by rw [cutX_len]; omega
 have hz : (pgenc (100 * (i : Int) + p) (cutX x)).2 = 0 := by rw [pgenc_yes (by omega) (by omega)]
 have a0 : (0 : Int) ≤ 4 * (p : Int) := by omega
 have a1 : 4 * (p : Int) ≤ (d.1.length : Int) - 4 := by rw [h.s]; omega
 have ac : d.2.length ≤ 4092 := by rw [h.c]; omega
 have hb := pgenc_len (100 * (i : Int) + p).toNat hcl
 have hw := pgwrite_yes h.ok a0 a1 hz ac
 have hbk := pgread_back h.ok a0 a1 hz ac (100 * (i : Int) + p)
 rw [hw, if_pos rfl] at hbk
 refine ⟨_, hw, dok_write h.ok hb a0 a1 ac, h.s, ?_, by rw [List.length_set, h.l], fun k v hk => ?_⟩
 ·show (d.2 ++ _).length = _
  rw [List.length_append, pws_len, h.c]; omega
 ·by_cases e : p = k
  ·subst e
   rw [List.getElem?_set_self (by rw [h.l]; exact hp)] at hk
   simp only [Option.some.injEq] at hk
   subst hk
   refine .inr ⟨by omega, fun y hy => ?_⟩
   rw [hx] at hy
   simp only [Option.some.injEq] at hy
   subst hy
   rw [show 100 * (i : Int) + p + 1 - 1 = 100 * (i : Int) + p by omega]
   exact hbk
  ·rw [List.getElem?_set_ne e] at hk
   rcases h.r k v hk with hv | ⟨hv, hr⟩
   ·exact .inl hv
   ·refine .inr ⟨hv, fun y hy => ?_⟩
    have hkn : k < n := by have := (List.getElem?_eq_some_iff.1 hk).1; rw [h.l] at this; exact this
    rw [pgread_other h.ok hb a0 a1 ac (by omega) (by rw [h.s]; omega) (by omega)]
    exact hr y hy
def IRow (g n : Nat) (la : List Int) (w : World) : Prop := w.ownsRow g 3 1 (.slice (some ⟨g, 0, none⟩) n n) n (la.map encI)
theorem IRow.made (w : World) (n : Nat) (h : n ≤ 1000000) : IRow w.heap.size n (List.replicate n 0) (w.alloc (.cells (madeCells #[.int .i64 0] n) 3)) := by
 have := World.ownsRow_lit (base := w.heap.size) (e := 3) (size := 1) w (madeCells #[.int .i64 0] n) n (Nat.le_refl _) (by unfold maxLen; omega) (by simp [madeCells])
 rw [toList_madeCells_one] at this
 unfold IRow
 rw [List.map_replicate]
 exact this
theorem IRow.cell {g n : Nat} {la : List Int} {w : World} (h : IRow g n la w) {k : Nat} {v : Int} (hk : la[k]? = some v) : w.cell? ⟨g, k, none⟩ = some (.int .i64 v) :=
 rows_at (rows_base h fun _ _ => Nat.zero_le _) rfl (by rw [List.getElem?_map, hk]; rfl)
theorem IRow.frozen {g n : Nat} {la : List Int} {w : World} (h : IRow g n la w) (k : Nat) : w.frozen? ⟨g, k, none⟩ = false := World.ownsRow.frozenAt h k
theorem IRow.put {g n : Nat} {la : List Int} {w : World} (h : IRow g n la w) (k : Nat) (v : Int) : IRow g n (la.set k v) (w.setCell ⟨g, k, none⟩ (.int .i64 v)) := by
 have := (World.ownsRow.stored h k (.int .i64 v)).1
 unfold IRow
 rw [List.map_set]
 exact this
theorem IRow.keep {g n : Nat} {la : List Int} {w w' : World} (h : IRow g n la w) (hb : w'.heap[g]? = w.heap[g]?) : IRow g n la w' := by
 rcases h with ⟨h1, h2 | ⟨g', cap, cur, hv, hB, hg, hr⟩⟩
 ·exact ⟨h1, .inl h2⟩
 ·have : g' = g := by simp only [Value.slice.injEq, Option.some.injEq, Addr.mk.injEq] at hv; exact hv.1.1.symm
  subst this
  exact ⟨h1, .inr ⟨g', cap, cur, hv, hB, hb.trans hg, hr⟩⟩
theorem IRow.lt {g n : Nat} {la : List Int} {w : World} (h : IRow g n la w) : g < w.heap.size := by
 rcases h.2 with ⟨h2, _⟩ | ⟨g', cap, cur, hv, hB, hg, hr⟩
 ·cases h2
 ·have : g' = g := by simp only [Value.slice.injEq, Option.some.injEq, Addr.mk.injEq] at hv; exact hv.1.1.symm
  subst this
  exact lt_of_block hg
structure AInv (b g n : Nat) (w : World) (d : Dsk) (la : List Int) : Prop where
 st : ∃ s c, w.heap[b]? = some (.cells #[s, c] 31 (0, 0)) ∧ ∃ F, OwnF SStP F w [s, c] d ∧ b ∉ F ∧ g ∉ F
 la : IRow g n la w
theorem AInv.to {b g n : Nat} {w w' : World} {d : Dsk} {la : List Int} (h : AInv b g n w d la) (hb : Below w.heap.size w w') : AInv b g n w' d la := by
 obtain ⟨⟨s, c, h1, F, h2, h3, h4⟩, h5⟩ := h
 exact ⟨⟨s, c, (hb.block b (lt_of_block h1)).trans h1, F, h2.to hb, h3, h4⟩, h5.keep (hb.block g h5.lt)⟩
theorem AInv.over {b g n : Nat} {w w4 : World} {d d' : Dsk} {la : List Int} {s c : Value} (h : AInv b g n w d la) (hbg : b ≠ g) (o : Own SStP w.heap.size w4 [s, c] d') (bb : Below w.heap.size w w4) {p : Nat} (hp : p < la.length) (v : Int) :
  ∃ U, U = w4.alloc (.cells #[s, c] 31) ∧ U.heap[w4.heap.size]? = some (.cells #[s, c] 31 (0, 0)) ∧ (∃ x y, U.heap[b]? = some (.cells #[x, y] 31 (0, 0))) ∧
   ∃ V, V = (U.setCell ⟨b, 0, none⟩ s).setCell ⟨b, 1, none⟩ c ∧ V.frozen? ⟨g, p, none⟩ = false ∧ (∃ u0, V.cell? ⟨g, p, none⟩ = some u0) ∧ AInv b g n (V.setCell ⟨g, p, none⟩ (.int .i64 v)) d' (la.set p v) ∧ ∀ C, C ≤ b → C ≤ g → Below C w (V.setCell ⟨g, p, none⟩ (.int .i64 v)) := by
 obtain ⟨⟨s0, c0, h1, F, h2, h3, h4⟩, h5⟩ := h
 obtain ⟨U, hU, hT, bU, sU⟩ := boxed_row w4 s c 31
 have cb := bb.trans (bU.mono bb.size)
 have hb := lt_of_block h1
 have hg := h5.lt
 have r := (cb.block b hb).trans h1
 have oU := o.to bU
 have l1 : IRow g n la ((U.setCell ⟨b, 0, none⟩ s).setCell ⟨b, 1, none⟩ c) := h5.keep (((Below.heap_setCell _ ⟨b, 1, none⟩ _ g (Ne.symm hbg)).trans (Below.heap_setCell _ ⟨b, 0, none⟩ _ g (Ne.symm hbg))).trans (cb.block g hg))
 obtain ⟨G, hG, hGB⟩ := oU.foot
 have nb : b ∉ G := fun hh => by have := hGB b hh; omega
 have ng : g ∉ G := fun hh => by have := hGB g hh; omega
 refine ⟨U, hU, hT, ⟨_, _, r⟩, _, rfl, l1.frozen p, ⟨_, l1.cell (List.getElem?_eq_getElem hp)⟩, ⟨⟨s, c, ?_, G, ((hG.set (a := ⟨b, 0, none⟩) nb _).set (a := ⟨b, 1, none⟩) nb _).set (a := ⟨g, p, none⟩) ng _, nb, ng⟩, l1.put p v⟩, fun C hC hC2 => (below_set2 (cb.mono (by omega)) hC _ _).setCell (p := ⟨g, p, none⟩) hC2 _⟩
 rw [Below.heap_setCell _ ⟨g, p, none⟩ _ b hbg]
 exact heap_set2 r _ _
end Go.Proofs.Ytjjicajodjophaa

namespace Go.Proofs.Ytjjicajodjophaa
abbrev Ext := Int × Int
abbrev EMap := Int × List Ext
def eRow (n : Int) : Int → List Ext → Prop
 | _, [] => True
 | e, x :: r => (1 ≤ x.2 ∧ 0 ≤ x.1 ∧ e < x.1 ∧ x.2 ≤ n - x.1) ∧ eRow n (x.1 + x.2) r
instance (n : Int) : ∀ (e : Int) (l : List Ext), Decidable (eRow n e l)
 | _, [] => isTrue trivial
 | e, x :: r => @instDecidableAnd _ _ _ (instDecidableERow n (x.1 + x.2) r)
where instDecidableERow (n : Int) : ∀ (e : Int) (l : List Ext), Decidable (eRow n e l)
 | _, [] => isTrue trivial
 | e, x :: r => @instDecidableAnd _ _ _ (instDecidableERow n (x.1 + x.2) r)
def EOk (m : EMap) : Prop := 0 ≤ m.1 ∧ m.1 ≤ 1048576 ∧ eRow m.1 (-1) m.2
instance (m : EMap) : Decidable (EOk m) := by unfold EOk; infer_instance
def cov (l : List Ext) (j : Int) : Prop := ∃ y ∈ l, y.1 ≤ j ∧ j < y.1 + y.2
end Go.Proofs.Ytjjicajodjophaa

namespace Go.Proofs.Ytjjicajodjophaa
open Go.RowKit
abbrev SExt : Shp Ext := (Shp.int .i64).pair (Shp.int .i64)
abbrev RdE (w : World) (v : Value) (l : List Ext) : Prop := RdS SExt w v l
theorem RdS.ext {w : World} {a : Option Addr} {n cap : Nat} {l : List Ext} (h : RdE w (.slice a n cap) l) {i : Nat} {x : Ext} (hx : l[i]? = some x) :
  ∃ b off, a = some ⟨b, off, none⟩ ∧ w.cell? ⟨b, off + i * 2, none⟩ = some (.int .i64 x.1) ∧ w.cell? ⟨b, off + i * 2 + 1, none⟩ = some (.int .i64 x.2) := by
 obtain ⟨b, off, u, v, e, hc, hc2, e1, e2⟩ := RdS.at2 rfl rfl h hx
 have f1 : [u] = [Value.int .i64 x.1] := e1
 have f2 : [v] = [Value.int .i64 x.2] := e2
 simp only [List.cons.injEq, and_true] at f1 f2
 subst f1 f2
 exact ⟨b, off, e, hc, hc2⟩
theorem ext_at (xs : List Ext) {k : Nat} (h : k < xs.length) : ∃ x, xs[k]? = some x ∧ x ∈ xs := ⟨xs[k], List.getElem?_eq_getElem h, List.getElem_mem h⟩
end Go.Proofs.Ytjjicajodjophaa

namespace Go.Proofs.Ytjjicajodjophaa
open Go.RowKit
abbrev SExtL : Shp (List Ext) := Shp.list 73 SExt
def ecells (l : List Ext) : List Value := l.flatMap fun x => [.int .i64 x.1, .int .i64 x.2]
theorem ecells_cons (x : Ext) (l : List Ext) : ecells (x :: l) = [Value.int .i64 x.1, .int .i64 x.2] ++ ecells l := rfl
theorem ecells_one (l : List Ext) : ∀ u ∈ ecells l, u.oneCell' = true := by
 intro u hu
 obtain ⟨x, _, hx⟩ := List.mem_flatMap.1 hu
 rcases List.mem_cons.1 hx with rfl | hx
 ·rfl
 ·rcases List.mem_cons.1 hx with rfl | hx
  ·rfl
  ·cases hx
theorem own_ext {B : Nat} {w : World} {v : Value} {l : List Ext} (h : w.ownsRow B 73 2 v l.length (ecells l)) : Own SExtL B w [v] l := by
 have each : ∀ l : List Ext, ownEach SExt w [] (ecells l) l := by
  intro l
  induction l with
  | nil => exact ⟨rfl, rfl⟩
  | cons x r ih => exact ⟨[], [], [.int .i64 x.1, .int .i64 x.2], ecells r, rfl, rfl, ⟨[.int .i64 x.1], [.int .i64 x.2], [], [], rfl, rfl, ⟨rfl, rfl⟩, ⟨rfl, rfl⟩⟩, ih⟩
 refine ⟨v.ownBlock.toList, ⟨v, _, [], rfl, ?_, each l, by simp⟩, ?_, fun b hb => (World.ownsRow.lt h b (by simpa using hb)).1⟩
 ·exact rows_base h fun _ _ => Nat.zero_le _
 ·cases v.ownBlock <;> simp
theorem infoE : (Try.prog.info? 73).map (fun i => (i.zero, i.size, i.bytes)) = some (some (.agg #[.int .i64 0, .int .i64 0]), 2, 16) := by kernel_rfl
def sameE (a b : List Ext) : Bool := decide (a = b)
set_option maxRecDepth 100000 in
set_option maxHeartbeats 1000000 in
theorem sameExt_any (w : World) (v1 v2 : Value) (l1 l2 : List Ext) (h1 : RdE w v1 l1) (h2 : RdE w v2 l2) :
  Calls Try.prog 18 #[v1, v2] w fun e w' => e = .returned (.bool (sameE l1 l2)) ∧ ∃ n, w' = w.drewN n := by
 have b1 := h1.bd
 have b2 := h2.bd
 obtain ⟨a1, c1, rfl⟩ := h1.slice
 obtain ⟨a2, c2, rfl⟩ := h2.slice
 by_cases hl : l1.length = l2.length
 ·have HL := hide hl
  have hne : ((l1.length : Int) != (l2.length : Int)) = false := by simp; omega
  go_enter Try.func18, Try.ntmps18
  go_wp2
  clear hl hne
  go_loopw [5] (fun i wr => ∃ k n : Nat, k ≤ l1.length ∧ i = .int .i64 k ∧ Hid (l1.take k = l2.take k) ∧ Hid (wr = w.drewN n)) (fun i _ => l1.length - (intOf i).toNat)
  case atStart => exact ⟨0, 0, Nat.zero_le _, rfl, hide rfl, hide rfl⟩
  case round =>
   obtain ⟨k, n, hk, rfl, ht, hw⟩ := hrel
   by_cases hlt : k < l1.length
   ·have hq : (k : Int) < (l1.length : Int) := by omega
    have hq2 : (k : Int) < (l2.length : Int) := by have := HL.out; omega
    obtain ⟨x, hx, _⟩ := ext_at l1 hlt
    obtain ⟨y, hy, _⟩ := ext_at l2 (k := k) (by have := HL.out; omega)
    have bd := below_drewN' w n w.heap.size
    rw [← hw.out] at bd
    obtain ⟨p1, o1, rfl, x1, x2⟩ := (h1.to0 bd).ext hx
    obtain ⟨p2, o2, rfl, y1, y2⟩ := (h2.to0 bd).ext hy
    have e1 := hide (show l1.take (k + 1) = l1.take k ++ [x] by rw [List.take_add_one, hx]; rfl)
    have e2 := hide (show l2.take (k + 1) = l2.take k ++ [y] by rw [List.take_add_one, hy]; rfl)
    have HX := hide (And.intro hx hy)
    clear bd hx hy h1 h2
    obtain ⟨xa, xb⟩ := x
    obtain ⟨ya, yb⟩ := y
    dsimp only at x1 x2 y1 y2
    by_cases c1 : xa = ya
    ·by_cases c2 : xb = yb
     ·subst c1 c2
      go_wp2
      go_region
      go_wp2
      go_roundw
      case rel => exact ⟨k + 1, n + 1, by omega, by go_num, hide (by rw [e1.out, e2.out, ht.out]), hide (by rw [hw.out]; rfl)⟩
      case measure => simp [intOf]; omega
     ·have c2' : (xb == yb) = false := by simpa using c2
      have hr : Hid (sameE l1 l2 = false) := by show _ = _; unfold sameE; simp; rintro rfl; have := HX.out; rw [this.1] at this; simp at this; exact c2 this.2
      subst c1
      go_wp2
      go_region
      go_wp2
      go_ret
      exact ⟨ret_bool hr.out.symm, n + 1, by rw [hw.out]; rfl⟩
    ·have c1' : (xa == ya) = false := by simpa using c1
     have hr : Hid (sameE l1 l2 = false) := by show _ = _; unfold sameE; simp; rintro rfl; have := HX.out; rw [this.1] at this; simp at this; exact c1 this.1
     go_wp2
     go_region
     go_wp2
     go_ret
     exact ⟨ret_bool hr.out.symm, n + 1, by rw [hw.out]; rfl⟩
   ·have hq : ¬ (k : Int) < (l1.length : Int) := by omega
    have hr : Hid (sameE l1 l2 = true) := by
     show _ = _
     have := ht.out
     rw [List.take_of_length_le (by omega), List.take_of_length_le (by have := HL.out; omega)] at this
     simp [sameE, this]
    go_wp2
    go_ret
    exact ⟨ret_bool hr.out.symm, n, hw.out⟩
 ·have hr : Hid (sameE l1 l2 = false) := by show _ = _; unfold sameE; simp; rintro rfl; exact hl rfl
  have hne : ((l1.length : Int) != (l2.length : Int)) = true := by simp; omega
  go_enter Try.func18, Try.ntmps18
  go_wp2
  go_ret
  exact ⟨ret_bool hr.out.symm, 0, rfl⟩
end Go.Proofs.Ytjjicajodjophaa

namespace Go.Proofs.Ytjjicajodjophaa
open Go.RowKit
def OwnE (B : Nat) (w : World) (v : Value) (l : List Ext) : Prop := w.ownsRow B 73 2 v l.length (ecells l)
theorem ecells_app (a b : List Ext) : ecells (a ++ b) = ecells a ++ ecells b := by unfold ecells; rw [List.flatMap_append]
theorem run_append_ext (w : World) {B : Nat} {v : Value} {l : List Ext} (h : OwnE B w v l) (a b : Int) (hl : l.length ≤ 4000000) (hB : B ≤ w.heap.size) :
  ∃ v' w', (Builtin.append_ #[51, 51] 51 #[v, .slice (some ⟨w.heap.size, 0, none⟩) 1 1]).run Try.prog (w.alloc (.cells #[.int .i64 a, .int .i64 b] 73)) = .ok v' w' ∧ OwnE B w' v' (l ++ [(a, b)]) ∧ Below B w w' ∧ w.heap.size ≤ w'.heap.size ∧ ∀ (p i : Nat) (u : Value), w.cell? ⟨p, i, none⟩ = some u → some p ≠ v.ownBlock → w'.cell? ⟨p, i, none⟩ = some u := by
 obtain ⟨i0, hi, hz0, hz1, hz2⟩ := info_parts infoE
 have hc : ∀ j u, [Value.int .i64 a, .int .i64 b][j]? = some u → (w.alloc (.cells #[.int .i64 a, .int .i64 b] 73)).cell? ((⟨w.heap.size, 0, none⟩ : Addr).add j) = some u := by
  intro j u hj
  have ea : (⟨w.heap.size, 0, none⟩ : Addr).add j = ⟨w.heap.size, j, none⟩ := by
   by_cases h0 : j = 0
   ·subst h0; simp [Addr.add]
   ·simp [Addr.add, h0]
  rw [ea, cell_of_row _ _ j _ _ (0, 0) (heap_alloc_last w _)]
  simpa using hj
 obtain ⟨v', w', hr, ho, hg, _⟩ := run_append_own (P := Try.prog) (w.alloc (.cells #[.int .i64 a, .int .i64 b] 73)) B 51 51 73 i0 (.agg #[.int .i64 0, .int .i64 0]) 2 16 Try.underlying51 hi hz0 hz1 hz2 rfl (by decide) v l.length (ecells l) (World.ownsRow.alloc h _) ⟨w.heap.size, 0, none⟩ 1 1 [.int .i64 a, .int .i64 b] rfl hc (ecells_one [(a, b)]) (by unfold maxLen; omega) (by omega) (by simp; omega)
 have bb : Below B w (w.alloc (.cells #[.int .i64 a, .int .i64 b] 73)) := (Below.refl _ _).alloc hB _
 refine ⟨v', w', hr, ?_, bb.grown hg (by simp; omega) (fun k hk => (World.ownsRow.lt h k hk).1), by have := hg.size; simp at this; omega, fun p i u hp hne => hg.cell (a := ⟨p, i, none⟩) ((World.cell?_of_block (a := ⟨p, i, none⟩) (Below.heap_alloc w _ p (cell_lt hp))).trans hp) hne⟩
 unfold OwnE
 rw [ecells_app, List.length_append]
 exact ho
end Go.Proofs.Ytjjicajodjophaa

namespace Go.Proofs.Ytjjicajodjophaa
def rstep (o : List (Int × Int)) (a : Int) : List (Int × Int) :=
 match o.getLast? with
 | none => [(a, 4)]
 | some x => if a ≤ x.1 + x.2 then o.dropLast ++ [(x.1, a + 4 - x.1)] else o ++ [(a, 4)]
def rfold (l : List Int) : List (Int × Int) := l.foldl rstep []
theorem rfold_snoc (l : List Int) (a : Int) : rfold (l ++ [a]) = rstep (rfold l) a := by unfold rfold; rw [List.foldl_append]; rfl
def dmAt (x : Int × (Int × Int)) : Option Int := if x.1 = 1 ∧ 0 ≤ x.2.2 ∧ x.2.2 ≤ 1048576 then some x.2.2 else none
def dmAts (l : List (Int × (Int × Int))) : List Int := l.filterMap dmAt
theorem dmAts_next {l : List (Int × (Int × Int))} {k : Nat} {x : Int × (Int × Int)} (h : l[k]? = some x) : dmAts (l.take (k + 1)) = dmAts (l.take k) ++ (dmAt x).toList := by
 unfold dmAts
 rw [List.take_add_one, h, List.filterMap_append]
 cases hx : dmAt x <;> simp [hx]
theorem dmAts_len (l : List (Int × (Int × Int))) : (dmAts l).length ≤ l.length := List.length_filterMap_le _ _
theorem dmAts_mem {l : List (Int × (Int × Int))} {a : Int} : a ∈ dmAts l ↔ ∃ x ∈ l, x.1 = 1 ∧ 0 ≤ x.2.2 ∧ x.2.2 ≤ 1048576 ∧ x.2.2 = a := by
 unfold dmAts dmAt
 rw [List.mem_filterMap]
 constructor
 ·rintro ⟨x, hx, h⟩
  split at h
  ·rename_i hc
   simp only [Option.some.injEq] at h
   exact ⟨x, hx, hc.1, hc.2.1, hc.2.2, h⟩
  ·simp at h
 ·rintro ⟨x, hx, h1, h2, h3, h4⟩
  exact ⟨x, hx, by rw [if_pos ⟨h1, h2, h3⟩, h4]⟩
theorem dmAts_bd {l : List (Int × (Int × Int))} {a : Int} (h : a ∈ dmAts l) : 0 ≤ a ∧ a ≤ 1048576 := by
 obtain ⟨x, _, _, h2, h3, rfl⟩ := dmAts_mem.1 h
 exact ⟨h2, h3⟩
def srt (l : List Int) : List Int := l.mergeSort (fun x y => decide (x ≤ y))
theorem srt_perm (l : List Int) : (srt l).Perm l := List.mergeSort_perm l _
theorem srt_mem {l : List Int} {a : Int} : a ∈ srt l ↔ a ∈ l := (srt_perm l).mem_iff
theorem srt_len (l : List Int) : (srt l).length = l.length := (srt_perm l).length_eq
def rngs (l : List (Int × (Int × Int))) : List (Int × Int) := rfold (srt (dmAts l))
theorem rstep_none (a : Int) : rstep [] a = [] ++ [(a, 4)] := rfl
theorem rstep_join {o : List (Int × Int)} {k : Nat} {x : Int × Int} {a : Int} (hl : o.length = k + 1) (h : o[k]? = some x) (hc : a ≤ x.1 + x.2) : rstep o a = o.set k (x.1, a + 4 - x.1) := by
 have e : o.getLast? = some x := by rw [List.getLast?_eq_getElem?, hl]; exact h
 obtain ⟨ys, rfl⟩ := List.getLast?_eq_some_iff.1 e
 unfold rstep
 rw [e]
 dsimp only
 rw [if_pos hc, List.dropLast_concat]
 have : ys.length = k := by simpa using hl
 subst this
 simp
theorem rstep_new {o : List (Int × Int)} {k : Nat} {x : Int × Int} {a : Int} (hl : o.length = k + 1) (h : o[k]? = some x) (hc : ¬ a ≤ x.1 + x.2) : rstep o a = o ++ [(a, 4)] := by
 have e : o.getLast? = some x := by rw [List.getLast?_eq_getElem?, hl]; exact h
 unfold rstep
 rw [e]
 dsimp only
 rw [if_neg hc]
theorem rfold_next {l : List Int} {k : Nat} {a : Int} (h : l[k]? = some a) : rfold (l.take (k + 1)) = rstep (rfold (l.take k)) a := by
 rw [List.take_add_one, h]
 exact rfold_snoc _ _
theorem rstep_len (o : List (Int × Int)) (a : Int) : (rstep o a).length ≤ o.length + 1 ∧ o.length ≤ (rstep o a).length := by
 unfold rstep
 split
 ·rename_i h; simp at h; subst h; simp
 ·rename_i x h
  have : o ≠ [] := by intro e; rw [e] at h; simp at h
  have := List.length_pos_iff.2 this
  split
  ·simp; omega
  ·simp
theorem rfold_len : ∀ l : List Int, (rfold l).length ≤ l.length := by
 intro l
 suffices h : ∀ (l : List Int) (o : List (Int × Int)), (l.foldl rstep o).length ≤ o.length + l.length by simpa [rfold] using h l []
 intro l
 induction l with
 | nil => intro o; simp
 | cons a r ih =>
  intro o
  have := ih (rstep o a)
  have := (rstep_len o a).1
  rw [List.foldl_cons, List.length_cons]
  omega
theorem rfold_in {l : List Int} {m : Int} (h0 : ∀ a ∈ l, 0 ≤ a ∧ a ≤ m) : ∀ x ∈ rfold l, 0 ≤ x.1 ∧ x.1 ≤ m ∧ x.1 + x.2 ≤ m + 4 ∧ 4 - m ≤ x.2 := by
 suffices h : ∀ (l : List Int) (o : List (Int × Int)), (∀ a ∈ l, 0 ≤ a ∧ a ≤ m) → (∀ x ∈ o, 0 ≤ x.1 ∧ x.1 ≤ m ∧ x.1 + x.2 ≤ m + 4 ∧ 4 - m ≤ x.2) → ∀ x ∈ l.foldl rstep o, 0 ≤ x.1 ∧ x.1 ≤ m ∧ x.1 + x.2 ≤ m + 4 ∧ 4 - m ≤ x.2 from h l [] h0 (by simp)
 intro l
 induction l with
 | nil => intro o _ h2; exact h2
 | cons a r ih =>
  intro o h1 h2
  refine ih (rstep o a) (fun b hb => h1 b (List.mem_cons_of_mem _ hb)) ?_
  have ha := h1 a (List.mem_cons_self ..)
  intro x hx
  unfold rstep at hx
  split at hx
  ·simp at hx; subst hx; simp; omega
  ·rename_i y hy
   have hym := List.mem_of_getLast? hy
   have hy' := h2 y hym
   split at hx
   ·rcases List.mem_append.1 hx with hx | hx
    ·exact h2 x (List.dropLast_subset _ hx)
    ·simp at hx; subst hx; simp; omega
   ·rcases List.mem_append.1 hx with hx | hx
    ·exact h2 x hx
    ·simp at hx; subst hx; simp; omega
structure Rg (o : List (Int × Int)) (l : List Int) : Prop where
 big : ∀ x ∈ o, 4 ≤ x.2
 rise : o.Pairwise fun x y => x.1 + x.2 < y.1
 low : ∀ x ∈ o, ∃ b ∈ l, x.1 ≤ b
 top : ∀ x ∈ o, ∃ b ∈ l, x.1 + x.2 ≤ b + 4
 cov : ∀ j, (∃ x ∈ o, x.1 ≤ j ∧ j < x.1 + x.2) ↔ ∃ b ∈ l, b ≤ j ∧ j < b + 4
theorem Rg.nil : Rg [] [] := ⟨by simp, List.Pairwise.nil, by simp, by simp, by simp⟩
end Go.Proofs.Ytjjicajodjophaa

namespace Go.Proofs.Ytjjicajodjophaa
open Go.RowKit
abbrev D3 : Type := Int × (Int × Int)
abbrev SD3 : Shp D3 := (Shp.int .i64).pair ((Shp.int .i64).pair (Shp.int .i64))
abbrev RdD (w : World) (v : Value) (l : List D3) : Prop := RdS SD3 w v l
theorem RdS.d3 {w : World} {a : Option Addr} {n cap : Nat} {l : List D3} (h : RdD w (.slice a n cap) l) {i : Nat} {x : D3} (hx : l[i]? = some x) :
  ∃ b off, a = some ⟨b, off, none⟩ ∧ w.cell? ⟨b, off + i * 3, none⟩ = some (.int .i64 x.1) ∧ w.cell? ⟨b, off + i * 3 + 1, none⟩ = some (.int .i64 x.2.1) ∧ w.cell? ⟨b, off + i * 3 + 2, none⟩ = some (.int .i64 x.2.2) := by
 obtain ⟨ao, c, e, h1, h2, h3, h4⟩ := h
 cases e
 rcases h4 with rfl | ⟨b, off, rfl, hc⟩
 ·simp at hx
 ·obtain ⟨c, ⟨c1, c2, rfl, k1, ⟨c3, c4, rfl, k3, k4⟩⟩, k2⟩ := hc i x hx
  have e1 : c1 = [Value.int .i64 x.1] := k1
  have e3 : c3 = [Value.int .i64 x.2.1] := k3
  have e4 : c4 = [Value.int .i64 x.2.2] := k4
  subst e1 e3 e4
  have hn : SD3.n = 3 := rfl
  rw [hn] at k2
  exact ⟨b, off, rfl, by simpa using k2 0 _ rfl, by simpa using k2 1 _ rfl, by simpa using k2 2 _ rfl⟩
def dcells (l : List D3) : List Value := l.flatMap fun x => [.int .i64 x.1, .int .i64 x.2.1, .int .i64 x.2.2]
theorem dcells_cons (x : D3) (l : List D3) : dcells (x :: l) = [Value.int .i64 x.1, .int .i64 x.2.1, .int .i64 x.2.2] ++ dcells l := rfl
theorem dcells_app (a b : List D3) : dcells (a ++ b) = dcells a ++ dcells b := by unfold dcells; rw [List.flatMap_append]
theorem dcells_one (l : List D3) : ∀ u ∈ dcells l, u.oneCell' = true := by
 intro u hu
 obtain ⟨x, _, hx⟩ := List.mem_flatMap.1 hu
 rcases List.mem_cons.1 hx with rfl | hx
 ·rfl
 ·rcases List.mem_cons.1 hx with rfl | hx
  ·rfl
  ·rcases List.mem_cons.1 hx with rfl | hx
   ·rfl
   ·cases hx
def OwnD (T B : Nat) (w : World) (v : Value) (l : List D3) : Prop := w.ownsRow B T 3 v l.length (dcells l)
theorem OwnD.own {T B : Nat} {w : World} {v : Value} {l : List D3} (h : OwnD T B w v l) : Own (Shp.list T SD3) B w [v] l := by
 have each : ∀ l : List D3, ownEach SD3 w [] (dcells l) l := by
  intro l
  induction l with
  | nil => exact ⟨rfl, rfl⟩
  | cons x r ih => exact ⟨[], [], [.int .i64 x.1, .int .i64 x.2.1, .int .i64 x.2.2], dcells r, rfl, rfl, ⟨[.int .i64 x.1], [.int .i64 x.2.1, .int .i64 x.2.2], [], [], rfl, rfl, ⟨rfl, rfl⟩, ⟨[.int .i64 x.2.1], [.int .i64 x.2.2], [], [], rfl, rfl, ⟨rfl, rfl⟩, ⟨rfl, rfl⟩⟩⟩, ih⟩
 refine ⟨v.ownBlock.toList, ⟨v, _, [], rfl, ?_, each l, by simp⟩, ?_, fun b hb => (World.ownsRow.lt h b (by simpa using hb)).1⟩
 ·exact rows_base h fun _ _ => Nat.zero_le _
 ·cases v.ownBlock <;> simp
theorem OwnD.rd {T B : Nat} {w : World} {v : Value} {l : List D3} (h : OwnD T B w v l) : RdD w v l := h.own.rdS
theorem OwnD.to {T B : Nat} {w w' : World} {v : Value} {l : List D3} (h : OwnD T B w v l) (hb : Below w.heap.size w w') : OwnD T B w' v l := rows_to h hb
theorem OwnD.nil (T B : Nat) (w : World) : OwnD T B w (.slice none 0 0) [] := World.ownsRow_nil _ _ _ _
theorem OwnD.mono {T B C : Nat} {w : World} {v : Value} {l : List D3} (h : OwnD T B w v l) (hC : C ≤ B) : OwnD T C w v l := rows_base h fun b hb => Nat.le_trans hC (World.ownsRow.lt h b hb).1
theorem run_append_d3 {T TL : Nat} (hu : Try.prog.underlying TL = some (.slice T)) (hinfo : (Try.prog.info? T).map (fun i => (i.zero, i.size, i.bytes)) = some (some (.agg #[.int .i64 0, .int .i64 0, .int .i64 0]), 3, 24)) (w : World) {B : Nat} {v : Value} {l : List D3} (h : OwnD T B w v l) (a b c : Int) (hl : l.length * 24 ≤ 140737488351232) (hB : B ≤ w.heap.size) :
  ∃ v' w', (Builtin.append_ #[TL, TL] TL #[v, .slice (some ⟨w.heap.size, 0, none⟩) 1 1]).run Try.prog (w.alloc (.cells #[.int .i64 a, .int .i64 b, .int .i64 c] T)) = .ok v' w' ∧ OwnD T B w' v' (l ++ [(a, b, c)]) ∧ Below B w w' ∧ w.heap.size ≤ w'.heap.size := by
 obtain ⟨i0, hi, hz0, hz1, hz2⟩ := info_parts hinfo
 have hc : ∀ j u, [Value.int .i64 a, .int .i64 b, .int .i64 c][j]? = some u → (w.alloc (.cells #[.int .i64 a, .int .i64 b, .int .i64 c] T)).cell? ((⟨w.heap.size, 0, none⟩ : Addr).add j) = some u := by
  intro j u hj
  have ea : (⟨w.heap.size, 0, none⟩ : Addr).add j = ⟨w.heap.size, j, none⟩ := by
   by_cases h0 : j = 0
   ·subst h0; simp [Addr.add]
   ·simp [Addr.add, h0]
  rw [ea, cell_of_row _ _ j _ _ (0, 0) (heap_alloc_last w _)]
  simpa using hj
 obtain ⟨v', w', hr, ho, hg, _⟩ := run_append_own (P := Try.prog) (w.alloc (.cells #[.int .i64 a, .int .i64 b, .int .i64 c] T)) B TL TL T i0 (.agg #[.int .i64 0, .int .i64 0, .int .i64 0]) 3 24 hu hi hz0 hz1 hz2 rfl (by decide) v l.length (dcells l) (World.ownsRow.alloc h _) ⟨w.heap.size, 0, none⟩ 1 1 [.int .i64 a, .int .i64 b, .int .i64 c] rfl hc (dcells_one [(a, b, c)]) (by unfold maxLen; omega) (by omega) (by simp; omega)
 have bb : Below B w (w.alloc (.cells #[.int .i64 a, .int .i64 b, .int .i64 c] T)) := (Below.refl _ _).alloc hB _
 refine ⟨v', w', hr, ?_, bb.grown hg (by simp; omega) (fun k hk => (World.ownsRow.lt h k hk).1), by have := hg.size; simp at this; omega⟩
 unfold OwnD
 rw [dcells_app, List.length_append]
 exact ho
def OwnP2 (T B : Nat) (w : World) (v : Value) (l : List Ext) : Prop := w.ownsRow B T 2 v l.length (ecells l)
theorem OwnP2.own {T B : Nat} {w : World} {v : Value} {l : List Ext} (h : OwnP2 T B w v l) : Own (Shp.list T SExt) B w [v] l := by
 have each : ∀ l : List Ext, ownEach SExt w [] (ecells l) l := by
  intro l
  induction l with
  | nil => exact ⟨rfl, rfl⟩
  | cons x r ih => exact ⟨[], [], [.int .i64 x.1, .int .i64 x.2], ecells r, rfl, rfl, ⟨[.int .i64 x.1], [.int .i64 x.2], [], [], rfl, rfl, ⟨rfl, rfl⟩, ⟨rfl, rfl⟩⟩, ih⟩
 refine ⟨v.ownBlock.toList, ⟨v, _, [], rfl, ?_, each l, by simp⟩, ?_, fun b hb => (World.ownsRow.lt h b (by simpa using hb)).1⟩
 ·exact rows_base h fun _ _ => Nat.zero_le _
 ·cases v.ownBlock <;> simp
theorem OwnP2.rd {T B : Nat} {w : World} {v : Value} {l : List Ext} (h : OwnP2 T B w v l) : RdE w v l := h.own.rdS
theorem OwnP2.to {T B : Nat} {w w' : World} {v : Value} {l : List Ext} (h : OwnP2 T B w v l) (hb : Below w.heap.size w w') : OwnP2 T B w' v l := rows_to h hb
theorem ecells_size (l : List Ext) (k : Nat) (z : Int) {x : Ext} (h : l[k]? = some x) : (ecells l).set (k * 2 + 1) (.int .i64 z) = ecells (l.set k (x.1, z)) := by
 induction l generalizing k with
 | nil => simp at h
 | cons y r ih =>
  cases k with
  | zero =>
   simp only [List.getElem?_cons_zero, Option.some.injEq] at h
   subst h
   rfl
  | succ k =>
   have := ih k (by simpa using h)
   rw [List.set_cons_succ, ecells_cons, ecells_cons, ← this, show (k + 1) * 2 + 1 = k * 2 + 1 + 1 + 1 by omega]
   rfl
theorem OwnE.size2 {B : Nat} {w : World} {g n c : Nat} {l : List Ext} (h : OwnE B w (.slice (some ⟨g, 0, none⟩) n c) l) {k : Nat} {x : Ext} (hk : l[k]? = some x) (z : Int) : OwnE B (w.setCell ⟨g, k * 2 + 1, none⟩ (.int .i64 z)) (.slice (some ⟨g, 0, none⟩) n c) (l.set k (x.1, z)) := by
 have hn : n = l.length := by
  rcases h.2 with ⟨h1, _⟩ | ⟨g', cap, cur, hv, _⟩
  ·cases h1
  ·simp only [Value.slice.injEq] at hv; exact hv.2.1
 subst hn
 unfold OwnE at *
 rw [List.length_set, ← ecells_size l k z hk]
 exact (World.ownsRow.stored h (k * 2 + 1) (.int .i64 z)).1
theorem ownE_rd2 {B : Nat} {w : World} {v : Value} {l : List Ext} (h : OwnE B w v l) : RdE w v l := (own_ext h).rdS
theorem OwnE.to2 {B : Nat} {w w' : World} {v : Value} {l : List Ext} (h : OwnE B w v l) (hb : Below w.heap.size w w') : OwnE B w' v l := rows_to h hb
theorem OwnE.block2 {B : Nat} {w : World} {v : Value} {l : List Ext} (h : OwnE B w v l) (hl : 0 < l.length) : ∃ b c, v = .slice (some ⟨b, 0, none⟩) l.length c ∧ B ≤ b ∧ l.length ≤ c := by
 rcases h.2 with ⟨_, h2⟩ | ⟨g, cap, cur, hv, hb, hg, hn, _⟩
 ·omega
 ·exact ⟨g, cap, hv, hb, hn⟩
theorem OwnE.cells2 {B : Nat} {w : World} {b c n : Nat} {l : List Ext} (h : OwnE B w (.slice (some ⟨b, 0, none⟩) n c) l) {k : Nat} {x : Ext} (hk : l[k]? = some x) : w.cell? ⟨b, k * 2, none⟩ = some (.int .i64 x.1) ∧ w.cell? ⟨b, k * 2 + 1, none⟩ = some (.int .i64 x.2) ∧ w.frozen? ⟨b, k * 2, none⟩ = false ∧ w.frozen? ⟨b, k * 2 + 1, none⟩ = false := by
 have hn : n = l.length := by
  rcases h.2 with ⟨h1, _⟩ | ⟨g', cap, cur, hv, _⟩
  ·cases h1
  ·simp only [Value.slice.injEq] at hv; exact hv.2.1
 subst hn
 obtain ⟨b', off, e, h0, h1⟩ := RdS.ext (ownE_rd2 h) hk
 simp only [Option.some.injEq, Addr.mk.injEq, and_true] at e
 obtain ⟨rfl, rfl⟩ := e
 exact ⟨by simpa using h0, by simpa using h1, World.ownsRow.frozenAt h _, World.ownsRow.frozenAt h _⟩
end Go.Proofs.Ytjjicajodjophaa

namespace Go.Proofs.Ytjjicajodjophaa
open Go.RowKit
theorem boxedN (w : World) (cs : Array Value) (t : TypeId) : ∃ u, u = w.alloc (.cells cs t) ∧ u.heap[w.heap.size]? = some (.cells cs t (0, 0)) ∧ Below w.heap.size w u ∧ u.heap.size = w.heap.size + 1 :=
 ⟨_, rfl, heap_alloc_last w _, (Below.refl _ _).alloc (Nat.le_refl _) _, by simp⟩
theorem conv_rd {w : World} {v : Value} {xs : List UInt8} (h : Rd w v xs) (h0 : 0 < xs.length) : (convert 62 9 v).run Try.prog w = .ok (.string ⟨xs.toArray⟩) w := by
 obtain ⟨ao, cap, rfl, h1, h2, h3, h4⟩ := h
 rcases h4 with h4 | ⟨b, off, rfl, hc⟩
 ·subst h4; simp at h0
 ·refine run_convert_bytes_back w 62 9 5 ⟨b, off, none⟩ cap xs Try.underlying62 Try.underlying5 Try.underlying9 fun j hj => ?_
  have := hc j hj
  rw [show (⟨b, off, none⟩ : Addr).add j = ⟨b, off + j, none⟩ by simp [Addr.add], this]
  unfold bt
  simp [List.getD_eq_getElem?_getD, hj]
theorem str_eq (xs ys : List UInt8) : (xs == ys) = sameB xs ys := by
 unfold sameB
 by_cases h : xs = ys
 ·subst h; simp
 ·rw [decide_eq_false h]
  exact beq_eq_false_iff_ne.2 h
theorem sameB_ne {xs ys : List UInt8} (h : xs ≠ ys) : sameB xs ys = false := by unfold sameB; exact decide_eq_false h
theorem rdN {w : World} {v : Value} {x : List UInt8} {n : Nat} (h : Rd w v x) (hl : x.length = n) (hn : 0 < n) : ∃ b o c, v = .slice (some ⟨b, o, none⟩) n c ∧ n ≤ c ∧ c ≤ 9223372036854775807 ∧ (∀ q te, q ≤ te → te ≤ n → Rd w (.slice (some ⟨b, o + q, none⟩) (te - q) (c - q)) ((x.take te).drop q)) ∧ ∀ i, i < n → w.cell? ⟨b, o + i, none⟩ = some (.int .u8 (bt x i)) := by
 obtain ⟨a, c, e⟩ := h.slice
 subst e
 have h' := h
 obtain ⟨a', c', e, l1, m1, n1, r1⟩ := h
 simp only [Value.slice.injEq, true_and] at e
 obtain ⟨rfl, rfl⟩ := e
 rcases r1 with r1 | ⟨b, o, rfl, hc⟩
 ·subst r1; simp at hl; omega
 ·refine ⟨b, o, c, by rw [hl], by omega, m1, fun q te h1 h2 => ?_, fun i hi => hc i (by omega)⟩
  have := (rd_sub h' (q := q) (to := te) h1 (by omega)).1
  by_cases hq : q = 0
  ·subst hq; simpa [Addr.add] using this
  ·simpa [Addr.add, hq] using this
end Go.Proofs.Ytjjicajodjophaa

namespace Go.Proofs.Ytjjicajodjophaa
open Go.RowKit
end Go.Proofs.Ytjjicajodjophaa

namespace Go.Proofs.Ytjjicajodjophaa
open Go.RowKit
end Go.Proofs.Ytjjicajodjophaa

namespace Go.Proofs.Ytjjicajodjophaa
open Go.RowKit
theorem st_int (r : Nat) (h : r < M32) : (r % 2 = 1 → bits .xor .u32 ((r : Int) / 2) 2197175160 = (st r : Int)) ∧ (r % 2 ≠ 1 → (r : Int) / 2 = (st r : Int)) := by
 unfold M32 at h
 refine ⟨fun h1 => ?_, fun h1 => ?_⟩
 ·rw [show (r : Int) / 2 = ((r / 2 : Nat) : Int) from by omega, show (2197175160 : Int) = ((2197175160 : Nat) : Int) from rfl, u32_xor_nat _ _ (by omega) (by omega)]
  unfold st; rw [if_pos h1]; rfl
 ·unfold st; rw [if_neg h1]; simp
theorem and1_int (r : Nat) (h : r < M32) : bits .and .u32 (r : Int) 1 = ((r % 2 : Nat) : Int) := by
 unfold M32 at h
 rw [show (1 : Int) = ((1 : Nat) : Int) from rfl, u32_and_nat _ _ (by omega) (by omega), nat_mask1]
set_option maxRecDepth 100000 in
theorem step_any (w : World) (r : Nat) (h : r < M32) :
  Calls Try.prog 133 #[.int .u32 r] w fun e w' => e = .returned (.int .u32 (st r : Nat)) ∧ w = w' := by
 obtain ⟨h1, h2⟩ := st_int r h
 have ha := and1_int r h
 by_cases hr : r % 2 = 1
 ·have hb : (bits .and .u32 (r : Int) 1 != 0) = true := by rw [ha, hr]; rfl
  replace h1 := hide (h1 hr)
  clear h2 ha hr
  go_enter Try.func133, Try.ntmps133
  go_wp2
  go_ret
  exact ⟨ret_int h1.out, rfl⟩
 ·have hb : (bits .and .u32 (r : Int) 1 != 0) = false := by rw [ha, show r % 2 = 0 by omega]; rfl
  replace h2 := hide (h2 hr)
  clear h1 ha hr
  go_enter Try.func133, Try.ntmps133
  go_wp2
  go_ret
  exact ⟨ret_int h2.out, rfl⟩
theorem xor_int (a b : Nat) (ha : a < M32) (hb : b < M32) : bits .xor .u32 (a : Int) (b : Int) = ((a ^^^ b : Nat) : Int) := u32_xor_nat a b ha hb
theorem inv_int (r : Nat) (h : r < M32) : bits .xor .u32 IntKind.u32.max (r : Int) = ((inv r : Nat) : Int) := by
 show bits .xor .u32 4294967295 (r : Int) = _
 unfold inv; rw [ff_eq, show (4294967295 : Int) = ((4294967295 : Nat) : Int) from rfl]
 exact xor_int _ _ (by decide) h
end Go.Proofs.Ytjjicajodjophaa

namespace Go.Proofs.Ytjjicajodjophaa
open Go.RowKit
def cv (c : Nat → Nat) : List Value := (List.range 256).map fun i => .int .u32 (c i : Nat)
def up (c : Nat → Nat) (i v : Nat) : Nat → Nat := fun j => if j = i then v else c j
theorem cv_len (c : Nat → Nat) : (cv c).length = 256 := by simp [cv]
theorem cv_up (c : Nat → Nat) (i v : Nat) : (cv c).set i (.int .u32 (v : Nat)) = cv (up c i v) := by
 apply List.ext_getElem
 ·simp [cv]
 ·intro j h1 h2
  simp only [cv, List.getElem_set, List.getElem_map, List.getElem_range, up]
  by_cases h : i = j
  ·simp [h]
  ·simp [h, Ne.symm h]
theorem cv_at (c : Nat → Nat) (i : Nat) (h : i < 256) : (cv c)[i]? = some (.int .u32 (c i : Nat)) := by
 simp [cv, h]
def Tab (B : Nat) (w : World) (g : Nat) (c : Nat → Nat) : Prop := w.ownsRow B 202 1 (.slice (some ⟨g, 0, none⟩) 256 256) 256 (cv c)
theorem Tab.cell {B : Nat} {w : World} {g : Nat} {c : Nat → Nat} (h : Tab B w g c) (i : Nat) (hi : i < 256) : w.cell? ⟨g, i, none⟩ = some (.int .u32 (c i : Nat)) := by
 rw [h.cellAt i (by omega), cv_at c i hi]
theorem Tab.frozen {B : Nat} {w : World} {g : Nat} {c : Nat → Nat} (h : Tab B w g c) (i : Nat) : w.frozen? ⟨g, i, none⟩ = false := h.frozenAt i
theorem Tab.set {B : Nat} {w : World} {g : Nat} {c : Nat → Nat} (h : Tab B w g c) (i v : Nat) : Tab B (w.setCell ⟨g, i, none⟩ (.int .u32 (v : Nat))) g (up c i v) := by
 unfold Tab; rw [← cv_up]; exact (h.stored i _).1
def low (k : Nat) : Nat := (bits .and .i64 (k : Int) (-(k : Int))).toNat
theorem low_is : ∀ k : Nat, k < 256 → bits .and .i64 (k : Int) (-(k : Int)) = (low k : Int) ∧ low k ≤ k ∧ low k ^^^ (k - low k) = k ∧ (k = 0 ∨ (k - low k < k ∧ ∃ j, j < 8 ∧ low k = 128 / 2 ^ j)) := by
 decide +kernel
theorem top_is : ∀ k : Nat, k < 8 → stn (k + 1) 1 = stn 8 (128 / 2 ^ k) ∧ (128 : Int) / 2 ^ k = ((128 / 2 ^ k : Nat) : Int) ∧ 128 / 2 ^ k < 256 := by
 decide +kernel
theorem zero43 : (∀ w, (zeroValue 202).run Try.prog w = .ok (.agg (Array.replicate 256 (.int .u32 0))) w) ∧ (Try.prog.info? 202).map (·.size) = some 256 :=
 zero_of_info (by kernel_rfl)
theorem Tab.blk {B : Nat} {w w' : World} {g : Nat} {c : Nat → Nat} (h : Tab B w g c) (e : w'.heap[g]? = w.heap[g]?) : Tab B w' g c := by
 refine ⟨h.1, ?_⟩
 rcases h.2 with hn | ⟨g', cap, cur, hv, hb, hg, r⟩
 ·exact .inl hn
 ·refine .inr ⟨g', cap, cur, hv, hb, ?_, r⟩
  simp only [Value.slice.injEq, Option.some.injEq, Addr.mk.injEq] at hv
  obtain ⟨⟨rfl, _⟩, _⟩ := hv
  rw [e]; exact hg
theorem Tab.row {B : Nat} {w : World} {g : Nat} {c : Nat → Nat} (h : Tab B w g c) : B ≤ g ∧ w.heap[g]? = some (.cells (cv c).toArray 202 (0, 0)) := by
 rcases h.2 with hn | ⟨g', cap, cur, hv, hb, hg, _, _, hs, ht⟩
 ·simp at hn
 ·simp only [Value.slice.injEq, Option.some.injEq, Addr.mk.injEq, true_and, and_true] at hv
  obtain ⟨rfl, rfl⟩ := hv
  refine ⟨hb, ?_⟩
  rw [hg]
  have : cur = (cv c).toArray := by
   apply Array.ext'
   rw [← ht, List.take_of_length_le (by simp; omega)]
  rw [this]
theorem Tab.of {B : Nat} {w : World} {g : Nat} {c : Nat → Nat} (hB : B ≤ g) (h : w.heap[g]? = some (.cells (cv c).toArray 202 (0, 0))) : Tab B w g c :=
 ⟨by simp [cv_len], .inr ⟨g, 256, _, rfl, hB, h, by omega, by decide, by simp [cv_len], by rw [List.take_of_length_le (by simp [cv_len])]⟩⟩
theorem Tab.other {B : Nat} {w : World} {g g' : Nat} {c : Nat → Nat} (h : Tab B w g c) (hne : g ≠ g') (i : Nat) (v : Value) : Tab B (w.setCell ⟨g', i, none⟩ v) g c :=
 h.blk (by simp [World.setCell, Array.getElem?_modify, Ne.symm hne])
theorem zeros_cv : Array.replicate 256 (Value.int .u32 0) = (cv fun _ => 0).toArray := by
 apply Array.ext'; simp [cv, List.map_const']
theorem up_lt {c : Nat → Nat} (h : ∀ i, c i < M32) (k : Nat) {v : Nat} (hv : v < M32) : ∀ i, up c k v i < M32 := by
 intro i; unfold up; split
 ·exact hv
 ·exact h i
theorem up_low {c : Nat → Nat} {k : Nat} (hk : k < 8) (h : ∀ j, j < k → c (128 / 2 ^ j) = stn 8 (128 / 2 ^ j)) : ∀ j, j < k + 1 → up c (128 / 2 ^ k) (stn 8 (128 / 2 ^ k)) (128 / 2 ^ j) = stn 8 (128 / 2 ^ j) := by
 intro j hj
 unfold up
 by_cases e : 128 / 2 ^ j = 128 / 2 ^ k
 ·rw [if_pos e, e]
 ·rw [if_neg e]
  exact h j (by rcases Nat.lt_or_eq_of_le (Nat.le_of_lt_succ hj) with h1 | h1; exact h1; subst h1; exact absurd rfl e)
theorem up_all {c : Nat → Nat} {k : Nat} (hk : k < 256) (h8 : ∀ j, j < 8 → c (128 / 2 ^ j) = stn 8 (128 / 2 ^ j)) (h : ∀ j, j < k → c j = stn 8 j) :
  c (low k) ^^^ c (k - low k) = stn 8 k ∧ (∀ j, j < 8 → up c k (stn 8 k) (128 / 2 ^ j) = stn 8 (128 / 2 ^ j)) ∧ (∀ j, j < k + 1 → up c k (stn 8 k) j = stn 8 j) := by
 obtain ⟨_, _, h1, h2⟩ := low_is k hk
 refine ⟨?_, fun j hj => ?_, fun j hj => ?_⟩
 ·rcases h2 with h2 | ⟨h2, j, hj, e⟩
  ·subst h2
   have : low 0 = 0 := by decide
   rw [this, show (0 : Nat) - 0 = 0 from rfl, Nat.xor_self, stn_zero]
  ·have e2 : c (low k) = stn 8 (low k) := by rw [e]; exact h8 j hj
   rw [e2, h _ h2, ← stn_xor, h1]
 ·unfold up
  by_cases e : 128 / 2 ^ j = k
  ·rw [if_pos e, e]
  ·rw [if_neg e]; exact h8 j hj
 ·unfold up
  by_cases e : j = k
  ·rw [if_pos e, e]
  ·rw [if_neg e]; exact h j (by omega)
theorem below_drew {B : Nat} {w w' : World} (h : Below B w w') : Below B w w'.drew := ⟨h.os, h.tape, h.output, h.size, h.block⟩
theorem below_setRow {B : Nat} {w w' : World} (h : Below B w w') {g : Nat} (hg : B ≤ g) (cs : Array Value) : Below B w (w'.setRow g cs) :=
 ⟨h.os, h.tape, h.output, by simpa [World.setRow] using h.size, fun k hk => by
  rw [← h.block k hk]
  simp [World.setRow, Array.getElem?_modify, show ¬ g = k by omega]⟩
theorem all_one (c : Nat → Nat) : (cv c).toArray.all (·.oneCell') = true := by
 rw [Array.all_eq_true_iff_forall_mem]
 intro v hv
 simp only [cv, List.mem_toArray, List.mem_map] at hv
 obtain ⟨i, _, rfl⟩ := hv
 rfl
set_option maxRecDepth 100000 in
set_option maxHeartbeats 1000000 in
theorem steps_any (w : World) :
  Calls Try.prog 131 #[] w fun e w' => e = .returned (.agg (cv (stn 8)).toArray) ∧ Below w.heap.size w w' := by
 have hv := zero43.1
 rw [zeros_cv] at hv
 have h0 : Tab w.heap.size ((w.alloc (.cells (cv fun _ => 0).toArray 202)).alloc (.cells (cv fun _ => 0).toArray 202)) w.heap.size (fun _ => 0) :=
  .of (Nat.le_refl _) (by show ((w.heap.push _).push _)[_]? = _; simp [Array.getElem?_push])
 have h1 : Tab w.heap.size ((w.alloc (.cells (cv fun _ => 0).toArray 202)).alloc (.cells (cv fun _ => 0).toArray 202)) (w.heap.size + 1) (fun _ => 0) :=
  .of (Nat.le_succ _) (by have := heap_alloc_last (w.alloc (.cells (cv fun _ => 0).toArray 202)) (.cells (cv fun _ => 0).toArray 202); simpa using this)
 have hb0 : Below w.heap.size w ((w.alloc (.cells (cv fun _ => 0).toArray 202)).alloc (.cells (cv fun _ => 0).toArray 202)) :=
  ((Below.refl _ _).alloc (Nat.le_refl _) _).alloc (by simp) _
 go_enter Try.func131, Try.ntmps131
 go_wp2
 go_loopw [2, 6] (fun r i wr => ∃ (k : Nat) (c : Nat → Nat), k ≤ 8 ∧ (∀ i, c i < M32) ∧ i = .int .i64 k ∧ r = .int .u32 (stn k 1 : Nat) ∧ Tab w.heap.size wr w.heap.size (fun _ => 0) ∧ Tab w.heap.size wr (w.heap.size + 1) c ∧ (∀ j, j < k → c (128 / 2 ^ j) = stn 8 (128 / 2 ^ j)) ∧ Below w.heap.size w wr) (fun _ i _ => 8 - (intOf i).toNat)
 case atStart => exact ⟨0, _, Nat.zero_le _, fun _ => by decide, rfl, rfl, h0, h1, fun j hj => absurd hj (Nat.not_lt_zero _), hb0⟩
 case round =>
  obtain ⟨k, c, hk, hcl, rfl, rfl, hA, hT, hc, hb⟩ := hrel
  clear h0 h1 hb0
  by_cases hlt : k < 8
  ·have hq : (k : Int) < 8 := by omega
   obtain ⟨p1, p2, p3⟩ := top_is k hlt
   have hs := stn_lt k (show 1 < M32 by decide)
   have hx := hT.cell _ p3
   have hf := hT.frozen (128 / 2 ^ k)
   have H1 := hide (hT.set (128 / 2 ^ k) (stn 8 (128 / 2 ^ k)))
   have H2 := hide (hA.other (show w.heap.size ≠ w.heap.size + 1 by omega) (128 / 2 ^ k) (.int .u32 (stn 8 (128 / 2 ^ k) : Nat)))
   have H3 := hide (up_low hlt hc)
   have H4 := hide (hb.setCell (p := ⟨w.heap.size + 1, 128 / 2 ^ k, none⟩) (Nat.le_succ _) (.int .u32 (stn 8 (128 / 2 ^ k) : Nat)))
   have H5 := hide (stn_succ k 1)
   have H6 := hide (up_lt hcl (128 / 2 ^ k) (stn_lt 8 (m := 128 / 2 ^ k) (by unfold M32; omega)))
   rw [← p1, stn_succ] at H1 H2 H4 H6
   rw [← p1, stn_succ] at H3
   clear hT hA hb hc hcl
   replace p1 := hide p1
   generalize stn k 1 = s at *
   generalize 128 / 2 ^ k = p at *
   go_wp2_with (go_at_call 133; refine (step_any _ _ (by assumption)).mono ?_; rintro e w' ⟨rfl, rfl⟩)
   go_roundw
   case rel => exact ⟨k + 1, _, by omega, H6.out, by go_num, by rw [H5.out], H2.out, H1.out, H3.out, H4.out⟩
   case measure => simp [intOf]; omega
  ·obtain rfl : k = 8 := by omega
   have hc8 := hide hc
   clear hc
   replace hcl := hide hcl
   go_wp2
   go_loopw [16] (fun i wx => ∃ (k : Nat) (c : Nat → Nat), k ≤ 256 ∧ (∀ i, c i < M32) ∧ i = .int .i64 k ∧ Tab w.heap.size wx w.heap.size (fun _ => 0) ∧ Tab w.heap.size wx (w.heap.size + 1) c ∧ Hid (∀ j, j < 8 → c (128 / 2 ^ j) = stn 8 (128 / 2 ^ j)) ∧ Hid (∀ j, j < k → c j = stn 8 j) ∧ Below w.heap.size w wx) (fun i _ => 256 - (intOf i).toNat)
   case atStart => exact ⟨0, c, Nat.zero_le _, hcl.out, rfl, hA, hT, hc8, hide (fun j hj => absurd hj (Nat.not_lt_zero _)), hb⟩
   case round =>
    clear hA hT hb hc8 hcl
    rename_i K1 a1
    replace a1 := hide a1
    obtain ⟨k, c, hk, hcl, rfl, hA, hT, hc8, hc, hb⟩ := hrel
    by_cases hlt : k < 256
    ·have hq : (k : Int) < 256 := by omega
     obtain ⟨p1, p2, _, _⟩ := low_is k hlt
     obtain ⟨q1, q2, q3⟩ := up_all hlt hc8.out hc.out
     have hx := hT.cell (low k) (by omega)
     have hy := hT.cell (k - low k) (by omega)
     have hz := hT.cell k hlt
     have hf := hT.frozen k
     have HX := xor_int (c (low k)) (c (k - low k)) (hcl _) (hcl _)
     rw [q1] at HX
     have H1 := hide (hT.set k (stn 8 k))
     have H2 := hide (hA.other (show w.heap.size ≠ w.heap.size + 1 by omega) k (.int .u32 (stn 8 k : Nat)))
     have H4 := hide (hb.setCell (p := ⟨w.heap.size + 1, k, none⟩) (Nat.le_succ _) (.int .u32 (stn 8 k : Nat)))
     have H3 := hide q2
     have H6 := hide (up_lt hcl k (stn_lt 8 (m := k) (by unfold M32; omega)))
     have H5 := hide q3
     clear hT hA hb hc hc8 q1 q2 q3 hcl
     generalize stn 8 k = s at *
     generalize c (low k) = cl at *
     generalize c (k - low k) = cm at *
     have hl1 : ((low k : Nat) : Int) < 256 := by omega
     have hl2 : (k : Int) - ((low k : Nat) : Int) = ((k - low k : Nat) : Int) := by omega
     have hl3 : ((k - low k : Nat) : Int) < 256 := by omega
     go_wp2
     go_region
     go_wp2
     go_roundw
     case rel => exact ⟨k + 1, _, by omega, H6.out, by go_num, H2.out.blk rfl, H1.out.blk rfl, H3, H5, below_drew H4.out⟩
     case measure => simp [intOf]; omega
    ·obtain rfl : k = 256 := by omega
     have hcv : cv c = cv (stn 8) := by
      unfold cv
      exact List.map_congr_left fun i hi => by rw [hc.out i (List.mem_range.1 hi)]
     clear hc hc8 hcl
     have hB := hb.size
     have hr := hT.row.2
     have hr0 := hA.row.2
     rw [hcv] at hr
     clear hA hT
     go_wp2
     refine a1.out _ _ ?_
     refine wp_seq (wp_region_list ?_)
     refine wpList_load_row rfl _ _ rfl (w.heap.size + 1) rfl _ _ _ _ hr Try.underlying202 rfl (by rw [show (cv (stn 8)).toArray.size = 256 from by simp [cv_len]]; exact zero43.2) ?_
     refine wpList_store_row rfl _ _ _ rfl w.heap.size _ rfl rfl _ _ hr0 (by rw [show (cv (stn 8)).toArray.size = 256 from by simp [cv_len]]; exact zero43.2) ?_ ?_ ?_
     ·simp [cv_len]
     ·exact all_one _
     ·refine wp_ret ?_
      refine bodyPost_ret (v := .agg (cv (stn 8)).toArray) ?_ rfl ⟨rfl, below_setRow hb (Nat.le_refl _) _⟩
      exact results_cell_row rfl _ _ w.heap.size _ _ _ _ rfl (setRow_heap _ _ _ _ _ _ hr0) Try.underlying202 rfl (by rw [show (cv (stn 8)).toArray.size = 256 from by simp [cv_len]]; exact zero43.2)
end Go.Proofs.Ytjjicajodjophaa

namespace Go.Proofs.Ytjjicajodjophaa
open Go.RowKit
theorem made_setRow (w : World) (c d : Nat → Nat) : (w.alloc (.cells (cv c).toArray 202)).setRow w.heap.size (cv d).toArray = w.alloc (.cells (cv d).toArray 202) :=
 World.setRow_alloc_new w _ _ _
theorem alloc_tab {ops : Array Oper} {rest : List Oper} {a : Act} {w : World} {Q : Exit → Act → World → Prop} {dst : Option Tmp} {ty : TypeId} {pos : String} {after : Array Edge} (hz : (zeroValue 202).run Try.prog w = .ok (.agg (cv fun _ => 0).toArray) w)
  (h : wpList Try.prog ops Q rest (a.put dst (.pointer (some ⟨w.heap.size, 0, none⟩))) (w.alloc (.cells (cv fun _ => 0).toArray 202))) :
  wpList Try.prog ops Q ({ dst := dst, op := .alloc 202, type := ty, pos := pos, after := after, guard := none } :: rest) a w :=
 Great.wpList_allocTo rfl dst rfl _ _ (by simp [execOp, Instr.alloc, hz, newVar, newRow, Value.cells]) h
theorem tab_size : (Try.prog.info? 202).map (·.size) = some (cv (stn 8)).toArray.size := by
 rw [show (cv (stn 8)).toArray.size = 256 from by simp [cv_len]]; exact zero43.2
theorem tab_made {w w1 : World} (hb : Below w.heap.size w w1) : ∃ w2, w2 = w1.alloc (.cells (cv (stn 8)).toArray 202) ∧ (∀ i, i < 256 → w2.cell? ⟨w1.heap.size, i, none⟩ = some (.int .u32 (stn 8 i : Nat))) ∧ Below w.heap.size w w2 := by
 refine ⟨_, rfl, fun i hi => ?_, hb.alloc hb.size _⟩
 rw [cell_of_row _ _ i _ _ (0, 0) (heap_alloc_last w1 _)]
 simp [cv, hi]
theorem round_int (r x : Nat) (hr : r < M32) (hx : x < 256) :
  IntKind.u8.wrap (r : Int) = ((r % 256 : Nat) : Int) ∧ bits .xor .u8 ((r % 256 : Nat) : Int) (x : Int) = ((r % 256 ^^^ x : Nat) : Int) ∧ r % 256 ^^^ x < 256 ∧
  bits .xor .u32 ((r : Int) / 256) ((stn 8 (r % 256 ^^^ x) : Nat) : Int) = ((tn r x : Nat) : Int) := by
 have hlt : r % 256 ^^^ x < 2 ^ 8 := Nat.xor_lt_two_pow (by omega) hx
 refine ⟨?_, u8_xor_nat _ _ (by omega) hx, hlt, ?_⟩
 ·rw [IntKind.wrap_u8']; omega
 ·rw [show (r : Int) / 256 = ((r / 256 : Nat) : Int) from by omega, xor_int _ _ (by unfold M32 at *; omega) (stn_lt 8 (by unfold M32; omega)), tn_table]
theorem reg_succ (r : Nat) (xs : List UInt8) (k : Nat) (h : k < xs.length) : reg r (xs.take (k + 1)) = tn (reg r (xs.take k)) (xs.getD k 0).toNat := by
 rw [List.take_add_one, List.getElem?_eq_getElem h, reg_app]
 simp [reg, h]
set_option maxRecDepth 100000 in
set_option maxHeartbeats 1000000 in
theorem ext_any (w : World) (c : Nat) (v : Value) (xs : List UInt8) (hc : c < M32) (hrd : Rd w v xs) (hm : xs.length ≤ 1000000000000000) :
  Calls Try.prog 123 #[.int .u32 c, v] w fun e w' => e = .returned (.int .u32 (ext c xs : Nat)) ∧ Below w.heap.size w w' := by
 obtain ⟨ao, cap, rfl⟩ := hrd.slice
 have hic := inv_lt hc
 have HI := inv_int c hc
 have hv := zero43.1
 rw [zeros_cv] at hv
 go_enter Try.func123, Try.ntmps123
 go_wp2_with (go_at_call 131; refine (steps_any _).mono ?_; rintro e w1 ⟨rfl, hb⟩; rename_i K2 hK2; refine hK2 _ _ ?_; clear hK2; refine alloc_tab (hv _) ?_; refine wpList_store_row rfl _ _ _ rfl w1.heap.size _ rfl rfl _ _ (heap_alloc_last _ _) tab_size (by simp [cv_len]) (all_one _) ?_; rw [made_setRow]; obtain ⟨w2, hw2, hcell, hb2⟩ := tab_made hb; rw [← hw2]; replace hw2 := hide hw2; clear hv; replace hrd := hrd.to hb2; clear hw2 hb; generalize w1.heap.size = g at *; obtain ⟨a1, c1, e1, l1, m1, n1, r1⟩ := hrd; cases e1; unfold maxLen at m1; generalize (cv (stn 8)).toArray = T at *)
 go_loop [6, 14] (fun r i => ∃ k : Nat, k ≤ xs.length ∧ i = .int .i64 k ∧ r = .int .u32 (reg (inv c) (xs.take k) : Nat)) (fun _ i => xs.length - (intOf i).toNat)
 case atStart => exact ⟨0, Nat.zero_le _, rfl, rfl⟩
 case round =>
  obtain ⟨k, hk, rfl, rfl⟩ := hrel
  have hreg := reg_lt (xs.take k) hic
  by_cases hlt : k < xs.length
  ·rcases r1 with r1 | ⟨b1, o1, rfl, hc1⟩
   ·rw [r1] at hlt; simp at hlt
   have g1 := hc1 k hlt
   have hq : (k : Int) < (xs.length : Int) := by omega
   have HS := hide (reg_succ (inv c) xs k hlt)
   have hx := UInt8.toNat_lt (xs.getD k 0)
   unfold bt at g1
   generalize (xs.getD k 0).toNat = x at *
   generalize reg (inv c) (xs.take k) = r at *
   obtain ⟨q1, q2, q3, q4⟩ := round_int r x hreg hx
   have g2 := hcell _ q3
   have q5 : ((r % 256 ^^^ x : Nat) : Int) < 256 := by omega
   clear hcell hc1 HI
   generalize r % 256 ^^^ x = y at *
   generalize stn 8 y = z at *
   generalize tn r x = s at *
   generalize r % 256 = rr at *
   go_wp2
   go_round
   case rel => exact ⟨k + 1, by omega, by go_num, by rw [HS.out]⟩
   case measure => simp [intOf]; omega
  ·obtain rfl : k = xs.length := by omega
   rw [List.take_length] at *
   have HF := inv_int _ hreg
   go_wp2
   go_ret
   exact ⟨rfl, hb2⟩
set_option maxRecDepth 100000 in
theorem sum_any (w : World) (v : Value) (xs : List UInt8) (hrd : Rd w v xs) (hm : xs.length ≤ 1000000000000000) :
  Calls Try.prog 105 #[v] w fun e w' => e = .returned (.int .u32 (sum xs : Nat)) ∧ Below w.heap.size w w' := by
 go_enter Try.func105, Try.ntmps105
 go_wp2_with (go_at_call 123; refine (ext_any _ 0 _ _ (by decide) hrd hm).mono ?_; rintro e w1 ⟨rfl, hb⟩)
 go_ret
 exact ⟨rfl, hb⟩
end Go.Proofs.Ytjjicajodjophaa

namespace Go.Proofs.Ytjjicajodjophaa
open Go.RowKit
theorem zeroCells_octs (m : Nat) : Builtin.zeroCells #[.int .u8 0] m = (List.replicate m (Value.int .u8 0)).toArray := by
 apply Array.ext
 ·simp [Builtin.zeroCells]
 ·intro i h1 h2
  simp [Builtin.zeroCells, Nat.mod_one]
theorem enc_zeros (m : Nat) : (List.replicate m (0 : UInt8)).map enc = List.replicate m (Value.int .u8 0) := by
 rw [List.map_replicate]; rfl
theorem run_append_zeros (w : World) (ty : TypeId) {B : Nat} {v : Value} {xs : List UInt8} (hown : OwnB B w v xs) (m : Nat) (hbytes : xs.length + m ≤ 140737488355328) (hbase : B ≤ w.heap.size) :
  ∃ v' w', (Builtin.append_ #[62, 3] ty #[v, .int .i64 (m : Int)]).run Try.prog w = .ok v' w' ∧ OwnB B w' v' (xs ++ List.replicate m 0) ∧ w.grownBy w' v.ownBlock := by
 obtain ⟨i0, hi, hz0, hz1, hz2⟩ := info_parts info8
 have ht := Try.underlying62
 have htn := Try.underlying3
 have hw : IntKind.i64.wrap (m : Int) = m := by rw [IntKind.wrap_i64]; omega
 have hneg : ¬ ((m : Int) < 0) := by omega
 have h48i : ¬ (281474976710656 < (m : Int) * (i0.bytes : Int)) := by rw [hz2]; omega
 have hlen : (xs ++ List.replicate m 0).length = xs.length + m := by simp
 by_cases hm : m = 0
 ·subst hm
  have hw0 : IntKind.i64.wrap (0 : Int) = 0 := by rw [IntKind.wrap_i64]; omega
  rw [List.replicate_zero, List.append_nil]
  rcases hown.2 with ⟨rfl, h0⟩ | ⟨g, cap, cur, rfl, hbg, hg, hnc, hcm, hcs, htake⟩
  ·refine ⟨.slice none 0 0, w, ?_, hown, ⟨rfl, rfl, rfl, Nat.le_refl _, fun _ _ _ => rfl⟩⟩
   simp [Builtin.append_, run_underlying ht, run_underlying htn, sizeOf, typeInfo, hi, asInt, asIntOf, hw0]
  ·refine ⟨_, w, ?_, hown, ⟨rfl, rfl, rfl, Nat.le_refl _, fun _ _ _ => rfl⟩⟩
   simp [Builtin.append_, run_underlying ht, run_underlying htn, sizeOf, typeInfo, hi, asInt, asIntOf, hw0, hnc, storeCells]
 have hns : ¬ (m * i0.size = 0) := by rw [hz1]; omega
 have grown : ∀ (old : Nat), old < xs.length + m → ∀ (row : Option Nat),
   OwnB B (w.drew.alloc (.cells ((xs.map enc).toArray ++ Builtin.zeroCells #[.int .u8 0] m ++ Builtin.zeroCells #[.int .u8 0] (grownCap w (xs.length + m) old 5 - (xs.length + m))) 5))
    (.slice (some ⟨w.heap.size, 0, none⟩) (xs.length + m) (grownCap w (xs.length + m) old 5)) (xs ++ List.replicate m 0) ∧
   w.grownBy (w.drew.alloc (.cells ((xs.map enc).toArray ++ Builtin.zeroCells #[.int .u8 0] m ++ Builtin.zeroCells #[.int .u8 0] (grownCap w (xs.length + m) old 5 - (xs.length + m))) 5)) row := by
  intro old ho row
  have hge := grownCap_ge w (xs.length + m) old 5
  have hcm : grownCap w (xs.length + m) old 5 ≤ maxLen := grownCap_le_maxLen w (xs.length + m) old _ (by unfold maxLen; omega)
  refine ⟨⟨by simp, .inr ⟨w.heap.size, _, _, by rw [hlen], hbase, heap_alloc_new w.drew _, by rw [hlen]; exact hge, hcm, ?_, ?_⟩⟩, ⟨rfl, rfl, rfl, by simp, fun k hk _ => Below.heap_alloc w.drew _ k hk⟩⟩
  ·simp only [zeroCells_octs, Array.size_append, List.size_toArray, List.length_map, List.length_replicate]
   omega
  ·simp only [zeroCells_octs, Array.toList_append]
   rw [hlen, List.map_append, enc_zeros]
   exact List.take_left' (by simp)
 rcases hown.2 with ⟨rfl, h0⟩ | ⟨g, cap, cur, rfl, hbg, hg, hnc, hcm, hcs, htake⟩
 ·have hx : xs = [] := List.eq_nil_of_length_eq_zero h0
  subst hx
  have hr := Lib.run_append_nil_zeros (P := Try.prog) w 62 3 ty 5 i0 (.int .u8 0) .i64 .i64 ht htn hi hz0 m (by omega) (by rw [hz1]; omega) (by omega) (by rw [hz2]; omega)
  have hgr := grown 0 (by simp; omega) (Value.ownBlock (.slice none 0 0))
  simp only [List.length_nil, Nat.zero_add, List.map_nil, Array.empty_append, List.nil_append] at hgr ⊢
  exact ⟨_, _, hr, by simpa [Value.cells] using hgr.1, by simpa [Value.cells] using hgr.2⟩
 ·by_cases hroom : xs.length + m ≤ cap
  ·have hst := run_storeCells_at Try.prog g xs.length 5 (List.replicate m (Value.int .u8 0)) 0 cur w hg (by simp; omega) (by intro v hv; rw [(List.mem_replicate.1 hv).2]; rfl)
   simp only [Nat.add_zero] at hst
   obtain ⟨R, hR⟩ : ∃ R : Array Value, R = (cur.toList.take xs.length ++ List.replicate m (Value.int .u8 0) ++ cur.toList.drop (xs.length + (List.replicate m (Value.int .u8 0)).length)).toArray := ⟨_, rfl⟩
   rw [← hR] at hst
   refine ⟨.slice (some ⟨g, 0, none⟩) (xs.length + m) cap, w.setRow g R, ?_, ⟨by simp, .inr ⟨g, cap, R, by rw [hlen], hbg, setRow_heap w g cur _ _ _ hg, by rw [hlen]; exact hroom, hcm, ?_, ?_⟩⟩, ⟨rfl, rfl, rfl, by simp, fun k _ hk => setRow_other w g k _ (fun e => hk (by simp [Value.ownBlock, e]))⟩⟩
   ·have h48j : ¬ (281474976710656 < (m : Int)) := by omega
    simp [Builtin.append_, run_underlying ht, run_underlying htn, sizeOf, typeInfo, zeroValue, hi, hz0, hz1, asInt, asIntOf, hw, hm, hz2, hroom, Addr.add_lit, Value.cells, zeroCells_octs, h48j, hst]
    exact fun h => absurd h hneg
   ·rw [hR]
    simp only [List.size_toArray, List.length_append, List.length_take, List.length_drop, List.length_replicate, Array.length_toList]
    omega
   ·have h1 : cur.toList.take xs.length = xs.map enc := by simpa using htake
    rw [hR, hlen, h1, List.map_append, enc_zeros]
    exact List.take_left' (by simp)
  ·have holds : ∀ j u, (xs.map enc)[j]? = some u → w.cell? ((⟨g, 0, none⟩ : Addr).add j) = some u := World.ownsRow.cells hown (g := g) rfl
   have hold := run_firstCells_some (P := Try.prog) w.drew i0.size xs.length ⟨g, 0, none⟩ xs.length cap (xs.map enc) (by rw [hz1]; simp) holds
   have hr := Lib.run_append_grow_zeros (P := Try.prog) w 62 3 ty 5 i0 (.int .u8 0) .i64 .i64 ht htn hi hz0 (some ⟨g, 0, none⟩) xs.length cap (xs.map enc) hold m (by omega) (by rw [hz1]; omega) (by omega) (by omega) (by rw [hz2]; omega) (by rw [hz2]; have := nextslicecap_le (need := xs.length + m) (old := cap) (by omega); omega)
   have hgr := grown cap (by omega) (Value.ownBlock (.slice (some ⟨g, 0, none⟩) xs.length cap))
   exact ⟨_, _, hr, hgr.1, hgr.2⟩
end Go.Proofs.Ytjjicajodjophaa

namespace Go.Proofs.Ytjjicajodjophaa
open Go.RowKit
end Go.Proofs.Ytjjicajodjophaa

namespace Go.Proofs.Ytjjicajodjophaa
open Go.RowKit
theorem psum64 (xs : List UInt8) : IntKind.u64.wrap ((sum xs : Nat) : Int) = ((sum xs : Nat) : Int) := by
 have hS := sum_lt xs
 unfold M32 at hS; rw [IntKind.wrap_u64]; omega
end Go.Proofs.Ytjjicajodjophaa

namespace Go.Proofs.Ytjjicajodjophaa
open Go.RowKit
theorem conv_at {w : World} {b o c n : Nat} {xs : List UInt8} (hn : xs.length = n) (h : Rd w (.slice (some ⟨b, o, none⟩) n c) xs) : (convert 62 9 (.slice (some ⟨b, o, none⟩) n c)).run Try.prog w = .ok (.string ⟨xs.toArray⟩) w := by
 subst hn
 obtain ⟨ao, cap, e, h1, h2, h3, h4⟩ := h
 simp only [Value.slice.injEq, true_and] at e
 obtain ⟨rfl, rfl⟩ := e
 refine run_convert_bytes_back w 62 9 5 ⟨b, o, none⟩ c xs Try.underlying62 Try.underlying5 Try.underlying9 fun j hj => ?_
 rcases h4 with h4 | ⟨b', off, e, hc⟩
 ·subst h4; simp at hj
 ·simp only [Option.some.injEq, Addr.mk.injEq, and_true] at e
  obtain ⟨rfl, rfl⟩ := e
  have := hc j hj
  rw [show (⟨b, o, none⟩ : Addr).add j = ⟨b, o + j, none⟩ by simp [Addr.add], this]
  unfold bt
  simp [List.getD_eq_getElem?_getD, hj]
set_option maxRecDepth 100000 in
theorem bytesEq_any (w : World) (v1 v2 : Value) (xs ys : List UInt8) (h1 : Rd w v1 xs) (h2 : Rd w v2 ys) (p1 : 0 < xs.length) (p2 : 0 < ys.length) :
  Calls Try.prog 99 #[v1, v2] w fun e w' => e = .returned (.bool (sameB xs ys)) ∧ w = w' := by
 have k1 := conv_rd h1 p1
 have k2 := conv_rd h2 p2
 obtain ⟨a1, c1, rfl⟩ := h1.slice
 obtain ⟨a2, c2, rfl⟩ := h2.slice
 go_enter Try.func99, Try.ntmps99
 go_wp2
 go_ret
 exact ⟨ret_bool (str_eq xs ys), rfl⟩
set_option maxRecDepth 100000 in
theorem bytesEq_at (w : World) (b1 o1 n1 c1 b2 o2 n2 c2 : Nat) (xs ys : List UInt8) (h1 : Rd w (.slice (some ⟨b1, o1, none⟩) n1 c1) xs) (h2 : Rd w (.slice (some ⟨b2, o2, none⟩) n2 c2) ys) (l1 : xs.length = n1) (l2 : ys.length = n2) :
  Calls Try.prog 99 #[.slice (some ⟨b1, o1, none⟩) n1 c1, .slice (some ⟨b2, o2, none⟩) n2 c2] w fun e w' => e = .returned (.bool (sameB xs ys)) ∧ w = w' := by
 have k1 := conv_at l1 h1
 have k2 := conv_at l2 h2
 go_enter Try.func99, Try.ntmps99
 go_wp2
 go_ret
 exact ⟨ret_bool (str_eq xs ys), rfl⟩
set_option maxRecDepth 100000 in
theorem bclone_at (w : World) (b o n c : Nat) (xs : List UInt8) (h : Rd w (.slice (some ⟨b, o, none⟩) n c) xs) (hm : xs.length ≤ 140737488351232) :
  Calls Try.prog 88 #[.slice (some ⟨b, o, none⟩) n c] w fun e w' => ∃ v', e = .returned v' ∧ OwnB w.heap.size w' v' xs ∧ Below w.heap.size w w' := by
 obtain ⟨X, hX⟩ : ∃ u, u = w.alloc (.cells #[] 5) := ⟨_, rfl⟩
 have oX : OwnB w.heap.size X (.slice (some ⟨w.heap.size, 0, none⟩) 0 0) [] := by rw [hX]; exact own_lit w [] (by decide)
 have bX : Below w.heap.size w X := by rw [hX]; exact (Below.refl _ _).alloc (Nat.le_refl _) _
 have rX := h.to bX
 have hl : ([] : List UInt8).length + xs.length ≤ 140737488355328 := by simp; omega
 have hsz := bX.size
 have hnil : (binOp .eql 62 (.slice (some ⟨b, o, none⟩) n c) (.slice none 0 0)).run Try.prog w = .ok (.bool false) w := Lib.run_eql_slice_nil w 62 5 _ n c 0 0 Try.underlying62
 clear h
 go_enter Try.func88, Try.ntmps88
 go_wp2_with (at_builtin; rw [← hX]; refine wpList_append_octs rfl _ _ rfl w.heap.size _ _ _ _ rfl rfl oX rX hl hsz ?_; intro v6 w6 o6 b6 _)
 go_ret
 exact ⟨_, rfl, by simpa using o6, bX.trans b6⟩
end Go.Proofs.Ytjjicajodjophaa

namespace Go.Proofs.Ytjjicajodjophaa
open Go.RowKit
set_option maxRecDepth 100000 in
theorem pgsumOf_any (w : World) (v : Value) (xs : List UInt8) (h : Rd w v xs) (hm : xs.length ≤ 1000) :
  Calls Try.prog 84 #[v] w fun e w' => ∃ v', e = .returned v' ∧ OwnB w.heap.size w' v' (oc (sum xs) 4) ∧ Below w.heap.size w w' := by
 obtain ⟨a, c, rfl⟩ := h.slice
 have hS := sum_lt xs
 have hws := psum64 xs
 unfold M32 at hS
 go_enter Try.func84, Try.ntmps84
 go_wp2_with fail
 refine (sum_any w _ xs h (by omega)).mono ?_
 rintro e w1 ⟨rfl, b1⟩
 have KP := hide (put_yes (sum xs) 4 w1 (by decide) (by decide) (by omega) (by omega))
 generalize hSe : sum xs = S at *
 replace hSe := hide hSe
 go_wp2_with fail
 refine KP.out.mono ?_
 rintro e w2 ⟨v2, rfl, o2, b2⟩
 go_wp2
 go_ret
 exact ⟨_, rfl, by rw [hSe.out]; exact o2.mono b1.size, b1.trans (b2.mono b1.size)⟩
theorem strCells_pg : Lib.strCells ⟨#[112, 103]⟩ = pgmark.map enc := by rfl
set_option maxRecDepth 100000 in
set_option maxHeartbeats 4000000 in
theorem pgencP_any (w : World) (id : Int) (v : Value) (d : List UInt8) (hrd : Rd w v d) :
  Calls Try.prog 54 #[.int .i64 id, v] w fun e w' => ∃ v', e = .returned (.tuple #[v', .int .i64 (pgenc id d).2]) ∧ OwnB w.heap.size w' v' (pgenc id d).1 ∧ Below w.heap.size w w' := by
 obtain ⟨i0, hi, hz0, hz1, hz2⟩ := info_parts info8
 obtain ⟨a, c, rfl⟩ := hrd.slice
 by_cases h1 : id < 0
 ·rw [pgenc_range (.inl h1)]
  go_enter Try.func54, Try.ntmps54
  go_wp2
  go_ret2
  exact ⟨_, rfl, World.ownsRow_nil _ _ _ _, Below.refl _ _⟩
 ·by_cases h2 : 2147483647 < id
  ·rw [pgenc_range (.inr h2)]
   go_enter Try.func54, Try.ntmps54
   go_wp2
   go_ret2
   exact ⟨_, rfl, World.ownsRow_nil _ _ _ _, Below.refl _ _⟩
  ·by_cases h3 : 244 < d.length
   ·have hq : (244 : Int) < (d.length : Int) := by omega
    rw [pgenc_long (by omega) h3]
    go_enter Try.func54, Try.ntmps54
    go_wp2
    go_ret2
    exact ⟨_, rfl, World.ownsRow_nil _ _ _ _, Below.refl _ _⟩
   ·have hq : ¬ (244 : Int) < (d.length : Int) := by omega
    rw [pgenc_yes (by omega) h3]
    obtain ⟨m, rfl⟩ : ∃ m : Nat, id = (m : Int) := ⟨id.toNat, by omega⟩
    rw [Int.toNat_natCast]
    have hm : m ≤ 2147483647 := by omega
    have hwl : IntKind.u64.wrap (d.length : Int) = (d.length : Int) := by rw [IntKind.wrap_u64]; omega
    have hwm : IntKind.u64.wrap (m : Int) = (m : Int) := by rw [IntKind.wrap_u64]; omega
    have KP1 := hide (put_yes d.length 2 w (by decide) (by decide) (by omega) (by omega))
    have KP2 := hide (fun u => put_yes m 4 u (by decide) (by decide) (by omega) (by omega))
    have gd := hide hrd
    clear hrd
    go_enter Try.func54, Try.ntmps54
    go_wp2_with fail
    refine KP1.out.mono ?_
    rintro e w1 ⟨v1, rfl, o1, b1⟩
    go_wp2_with fail
    refine (KP2.out w1).mono ?_
    rintro e w2 ⟨v2, rfl, o2, b2⟩
    clear KP1 KP2
    have c2 := b1.trans (b2.mono b1.size)
    have o1' := o1.below (Nat.le_refl _) b2
    have hle1 := c2.size
    obtain ⟨w3, hmk, own3, gr3⟩ := run_make_own (P := Try.prog) w2 w2.heap.size 62 5 i0 (.int .u8 0) 1 Try.underlying62 hi hz0 hz1 .i64 .i64 256 (by rw [hz2]; decide) (by decide) (Nat.le_refl _)
    replace hmk : (Instr.makeSlice 62 (.int .i64 0) (.int .i64 256)).run Try.prog w2 = .ok (.slice (some ⟨w2.heap.size, 0, none⟩) 0 256) w3 := hmk
    have b3 : Below w2.heap.size w2 w3 := (Below.refl _ _).grown gr3 (Nat.le_refl _) (fun k hk => by cases hk)
    have r1 := hide o1'.rd
    have r2 := hide o2.rd
    have r3 := hide (gd.out.to c2)
    have hw3 := b3.size
    have C2 := hide c2
    have l5 : pgmark.length + (oc d.length 2).length ≤ 140737488355328 := by rw [oc_length]; decide
    have l6 : (pgmark ++ oc d.length 2).length + (oc m 4).length ≤ 140737488355328 := by rw [List.length_append, oc_length, oc_length]; decide
    have e6 : (pgmark ++ oc d.length 2 ++ oc m 4).length = 8 := by rw [List.length_append, List.length_append, oc_length, oc_length]; rfl
    have l7 : (pgmark ++ oc d.length 2 ++ oc m 4).length + d.length ≤ 140737488355328 := by omega
    obtain ⟨K, hK⟩ : ∃ K, K = 8 + d.length := ⟨_, rfl⟩
    have e7 : (pgmark ++ oc d.length 2 ++ oc m 4 ++ d).length = K := by rw [List.length_append, e6, hK]
    have hKq : (K : Int) ≤ 252 := by omega
    have hz : Hid (∀ v7 w7, OwnB w2.heap.size w7 v7 (pgmark ++ oc d.length 2 ++ oc m 4 ++ d) → Below w2.heap.size w2 w7 → ∃ v8 w8, (Builtin.append_ #[62, 3] 62 #[v7, .int .i64 (252 - (K : Int))]).run Try.prog w7 = .ok v8 w8 ∧ OwnB w2.heap.size w8 v8 (pghead m d) ∧ Below w2.heap.size w2 w8) := fun v7 w7 o7 b7 => by
     obtain ⟨v8, w8, hr8, o8, gr8⟩ := run_append_zeros w7 62 o7 (244 - d.length) (by omega) b7.size
     refine ⟨v8, w8, ?_, o8, b7.grown gr8 (by exact b7.size) o7.from⟩
     rw [show (252 - (K : Int)) = ((244 - d.length : Nat) : Int) by omega]
     exact hr8
    have hpl := hide (pghead_len m (d := d) (by omega))
    replace hK := hide hK
    replace e6 := hide e6
    replace e7 := hide e7
    clear o1 o1' o2 b1 b2 c2 gd
    go_wp2_with (first
     | (at_builtin; refine Lib.wpList_append_own_string _ rfl _ _ 62 9 rfl w2.heap.size 5 i0 Try.underlying62 Try.underlying9 hi hz0 hz1 hz2 _ 0 [] rfl own3 ⟨#[112, 103]⟩ rfl (by decide) (by decide) hw3 ?_; intro v4 w4 own4 gr4 _; rw [strCells_pg] at own4; have o4 : OwnB w2.heap.size w4 v4 pgmark := own4; have b4 := b3.grown gr4 (by exact hw3) (fun k hk => (World.ownsRow.lt own3 k hk).1); clear own4 gr4)
     | (at_builtin; refine wpList_append_octs rfl _ _ rfl w2.heap.size _ _ _ _ rfl rfl o4 (r1.out.to b4) l5 b4.size ?_; intro v5 w5 o5 g5 _; have b5 := b4.trans g5)
     | (at_builtin; refine wpList_append_octs rfl _ _ rfl w2.heap.size _ _ _ _ rfl rfl o5 (r2.out.to b5) l6 b5.size ?_; intro v6 w6 o6 g6 _; have b6 := b5.trans g6)
     | (at_builtin; refine wpList_append_octs rfl _ _ rfl w2.heap.size _ _ _ _ rfl rfl o6 (r3.out.to b6) l7 b6.size ?_; intro v7 w7 o7 g7 _; obtain ⟨v8, w8, hr8, o8, b8⟩ := hz.out v7 w7 o7 (b6.trans g7); obtain ⟨ha, hc, hv⟩ := o7.rd.slice; rw [e7.out] at hv; subst hv; clear o4 o5 o6 o7 g5 g6 g7 b4 b5 b6)
     | (at_builtin; refine Lib.wpList_append_run _ rfl _ _ _ _ rfl _ _ rfl rfl _ _ hr8 ?_))
    clear hr8 hmk own3 gr3 b3 hw3 hz r1 r2 r3 l5 l6 l7
    have KS := hide (pgsumOf_any w8 _ _ o8.rd (by rw [hpl.out]; decide))
    refine KS.out.mono ?_
    rintro e w9 ⟨v9, rfl, o9, b9⟩
    clear KS
    have oA := o8.below (Nat.le_refl _) b9
    have bA := b8.trans (b9.mono b8.size)
    have lA : (pghead m d).length + (oc (sum (pghead m d)) 4).length ≤ 140737488355328 := by rw [hpl.out, oc_length]; decide
    go_wp2_with (at_builtin; refine wpList_append_octs rfl _ _ rfl w2.heap.size _ _ _ _ rfl rfl oA o9.rd lA bA.size ?_; intro v10 w10 o10 g10 _)
    go_ret2
    exact ⟨_, rfl, by unfold pgencO; exact o10.mono C2.out.size, C2.out.trans ((bA.trans g10).mono C2.out.size)⟩
end Go.Proofs.Ytjjicajodjophaa

namespace Go.Proofs.Ytjjicajodjophaa
open Go.RowKit
section
variable {F : Fence} {n m : Nat} {P : Program}
def EndsIn (B l : Nat) (r : Loop) (R : Ending → World → Prop) (V : World) : Exit → Act → World → Prop
 | .normal, _, W => KeepsFrom B V W ∧ R (.returned (.bool true)) (W.putObj l (.loop { r with state := .ready, pending := none }))
 | .ret, _, W => KeepsFrom B V W ∧ R (.returned (.bool false)) (W.putObj l (.loop { r with state := .done, pending := some .ret }))
 | .exit id, _, W => KeepsFrom B V W ∧ R (.returned (.bool false)) (W.putObj l (.loop { r with state := .done, pending := some (.exit id) }))
 | .goto t, _, W => KeepsFrom B V W ∧ R (.returned (.bool false)) (W.putObj l (.loop { r with state := .done, pending := some (.goto t) }))
 | .panic _, _, _ => False
 | .outgrown, _, _ => False
theorem yieldAt_of {B l : Nat} {r : Loop} {args : Array Value} {W : World} {R : Ending → World → Prop} (hB : B ≤ l) (hf : F.fn r.fn) (hl : W.heap[l]? = some (.loop r)) (hr : r.state = .ready) (hs : args.size = r.params.size) (A : Act → World → Prop)
  (ha : ∀ K : Act → World → Prop, (∀ a V, KeepsFrom B W V → A a V → K a V) → r.assign.wpIn (F.inRound l) m P (Exit.then K fun _ _ _ => False) { tmps := (r.params.zip args).foldl (fun t (p, v) => t.setIfInBounds p v) r.tmps, defers := [] } W)
  (hb : ∀ a V, KeepsFrom B W V → A a V → r.body.wpIn (F.inRound l) m P (EndsIn B l r R (V.putObj l (.loop { r with state := .busy }))) a (V.putObj l (.loop { r with state := .busy }))) : YieldAt F m P l args W R := by
 refine ⟨_, _, _, _, run_yield hl hs, roundIn_of_wpIn hf (ha _ fun a V hk hA => ?_)⟩
 have hV := hk.same l _ hB hl rfl
 refine ⟨_, run_beginRound hV hr, wpIn_mono (hb a V hk hA) ?_⟩
 have hb2 : (V.putObj l (.loop { r with state := .busy })).heap[l]? = some (.loop { r with state := .busy }) := World.putObj_heap_same (Array.getElem?_eq_some_iff.1 hV).1
 have fin : ∀ W2, KeepsFrom B (V.putObj l (.loop { r with state := .busy })) W2 → ∀ j : Option Code, (Instr.endRound l j).run P W2 = .ok (.bool j.isNone) (W2.putObj l (.loop { r with state := if j.isNone then .ready else .done, pending := j })) := fun W2 h j => by
  have := run_endRound (P := P) j (h.same l _ hB hb2 rfl)
  simpa using this
 intro e a2 W2 h
 cases e with
 | normal => exact ⟨_, _, fin W2 h.1 none, h.2⟩
 | ret => exact ⟨_, _, fin W2 h.1 (some .ret), h.2⟩
 | exit id => exact ⟨_, _, fin W2 h.1 (some (.exit id)), h.2⟩
 | goto t => exact ⟨_, _, fin W2 h.1 (some (.goto t)), h.2⟩
 | panic c => exact h.elim
 | outgrown => exact h.elim
def Lasts {β : Type} (J : β → World → Prop) : Prop := ∀ s W W', J s W → W.grownBy W' none → J s W'
def Hands {α : Type} (F : Fence) (n : Nat) (P : Program) (g : Nat) (lb : Array Value) (encs : α → Array Value) (Kp : World → World → Prop) (R : List α → α → World → Prop) (S : List α → World → Prop) (w : World) : Prop :=
 ∀ (l : Nat) (J Jx : List α → World → Prop) (W : World), Below w.heap.size w W → Lasts J → Lasts Jx →
  (∀ pre x V, J pre V → R pre x V → YieldAt F (n - 1) P l (encs x) V fun e V' => (e = .returned (.bool true) ∧ J (pre ++ [x]) V' ∧ Kp V V') ∨ (e = .returned (.bool false) ∧ Jx (pre ++ [x]) V')) →
  J [] W →
  CallsIn F n P g (#[.func (.yield l) #[] #[]] ++ lb) W fun e V => (∃ v, e = .returned v) ∧ ((∃ xs, S xs V ∧ J xs V) ∨ ∃ pre, Jx pre V)
set_option maxRecDepth 100000 in
theorem wpIn_range_hands {α : Type} {g : Operand} {ps : Array Tmp} {assign body : Code} {Q : Exit → Act → World → Prop} {a : Act} {w : World} (hro : F.round = none) (h1 : 1 ≤ n)
  {gf : Nat} {lb : Array Value} (hg : a.eval g = .func (.func gf) #[] lb) (hF : F.fn gf) (eg : ∀ args u, (callFunc gf args).run P u = .ok (.enter gf args) u)
  {encs : α → Array Value} {Kp : World → World → Prop} {R : List α → α → World → Prop} {S : List α → World → Prop} (hseq : Hands F (n - 1) P gf lb encs Kp R S w)
  (hKt : ∀ {X Y Z : World}, Kp X Y → Kp Y Z → Kp X Z) (hKb : ∀ (X : World) (l : Nat) (o o' : Obj), w.heap.size ≤ l → X.heap[l]? = some o → o.isCells = false → o.isWalk = false → Kp X (X.putObj l o')) (hps : ∀ x, (encs x).size = ps.size)
  (I : List α → World → Prop) (Ix : Code → List α → World → Prop) (A : List α → α → Act → World → Prop)
  (hI : OwnFrom w.heap.size I) (hIx : ∀ c, OwnFrom w.heap.size (Ix c)) (hS : OwnFrom w.heap.size S) (hA : ∀ pre x a', OwnFrom w.heap.size (fun (_ : Unit) V => A pre x a' V)) (h0 : I [] w)
  (hassign : ∀ (l : Nat) (pre : List α) (x : α) (W : World) (K : Act → World → Prop), I pre W → R pre x W → (∀ a' V, KeepsFrom w.heap.size W V → Kp W V → A pre x a' V → K a' V) →
   assign.wpIn (F.inRound l) (n - 1 - 1) P (Exit.then K fun _ _ _ => False) { tmps := (ps.zip (encs x)).foldl (fun t (p, v) => t.setIfInBounds p v) a.tmps, defers := [] } W)
  (hbody : ∀ (l : Nat) (pre : List α) (x : α) (a' : Act) (W : World), w.heap.size ≤ l → A pre x a' W → body.wpIn (F.inRound l) (n - 1 - 1) P (ownPostG w.heap.size Kp I Ix (pre ++ [x]) W) a' W)
  (hdone : ∀ (D : Nat) (xs : List α) (W : World), w.heap.size ≤ D → S xs W → I xs W → W.heap[D]? = some (.deferred (some [])) → Q .normal { a with defers := { target := .collected D, args := #[] } :: a.defers } W)
  (hstop : ∀ (D : Nat) (c : Code) (pre : List α) (W : World), w.heap.size ≤ D → Ix c pre W → W.heap[D]? = some (.deferred (some [])) → c.wpIn F n P Q { a with defers := { target := .collected D, args := #[] } :: a.defers } W) :
  (Code.rangeFunc g ps assign body).wpIn F n P Q a w := by
 refine wpIn_rangeFunc fun fn hfn => ?_
 rw [hro]
 -- D: the block for deferred calls, L: the record
 obtain ⟨D, hD⟩ : ∃ D, D = w.heap.size := ⟨_, rfl⟩
 obtain ⟨r, hr⟩ : ∃ r : Loop, r = { state := .ready, pending := none, fn := fn, tmps := a.tmps, params := ps, assign := assign, body := body, defers := D } := ⟨_, rfl⟩
 obtain ⟨W1, hW1⟩ : ∃ W1, W1 = (w.alloc (.deferred (some []))).alloc (.loop r) := ⟨_, rfl⟩
 have hb1 : Below w.heap.size w W1 := by rw [hW1]; exact ((Below.refl _ w).alloc (Nat.le_refl _) _).alloc (by simp) _
 have hL : W1.heap[D + 1]? = some (.loop r) := by
  rw [hW1, hD]; have := World.alloc_heap_new (w.alloc (.deferred (some []))) (.loop r); rwa [World.size_alloc] at this
 have hK : W1.heap[D]? = some (.deferred (some [])) := by rw [hW1, hD]; exact (Below.heap_alloc _ _ _ (by simp)).trans (World.alloc_heap_new w _)
 have hI1 : I [] W1 := by rw [hW1]; exact hI.alloc _ (hI.alloc _ h0)
 refine ⟨D + 1, [{ target := .collected D, args := #[] }], W1, { target := .fn (.func gf) lb, args := #[.func (.yield (D + 1)) #[] #[]] }, W1, gf, #[.func (.yield (D + 1)) #[] #[]] ++ lb, W1, ?_, ?_, ?_, ?_, fun _ => h1, ?_⟩
 ·rw [hW1, hr, hD]; exact run_enterLoop_outer _ _ _ _ _
 ·simp only [resolve, hg]; simp [go_sem]
 ·intro f' hf'; simp [Target.leads] at hf'; subst hf'; exact hF
 ·simp [invoke, go_sem, eg]
 -- the two blocks stay through all but the rounds' own book-keeping
 have lay : ∀ {X Y : World} {k : Nat} {o : Obj}, X.heap[k]? = some o → X.grownBy Y none → Y.heap[k]? = some o := fun h hg => (hg.block _ (Array.getElem?_eq_some_iff.1 h).1 (by simp)).trans h
 refine (hseq (D + 1) (fun pre X => I pre X ∧ X.heap[D + 1]? = some (.loop r) ∧ X.heap[D]? = some (.deferred (some [])))
  (fun pre X => ∃ c, Ix c pre X ∧ X.heap[D + 1]? = some (.loop { r with state := .done, pending := some c }) ∧ X.heap[D]? = some (.deferred (some []))) W1 hb1
  (fun s X Y h hg => ⟨hI s X Y none h.1 hg (fun _ e => by cases e), lay h.2.1 hg, lay h.2.2 hg⟩)
  (fun s X Y h hg => by obtain ⟨c, h, h2, h3⟩ := h; exact ⟨c, hIx c s X Y none h hg (fun _ e => by cases e), lay h2 hg, lay h3 hg⟩) ?_ ⟨hI1, hL, hK⟩).mono ?_
 ·rintro pre x V ⟨hi, hl, hk⟩ hx
  refine yieldAt_of (B := w.heap.size) (A := fun a' X => A pre x a' X ∧ Kp V X) (by omega) (by rw [hr]; exact hfn) hl (by rw [hr]) (by rw [hr]; exact hps x) ?_ ?_
  ·intro K hKK
   rw [hr]
   exact hassign _ pre x V K hi hx fun a' X h2 h3 h4 => hKK a' X h2 ⟨h4, h3⟩
  ·rintro a' X hkf ⟨hax, hkx⟩
   have hl2 := hkf.same _ _ (by omega) hl rfl
   have hk2 := hkf.same _ _ (by omega) hk rfl
   have hlt : D + 1 < X.heap.size := (Array.getElem?_eq_some_iff.1 hl2).1
   have hl3 : (X.putObj (D + 1) (.loop { r with state := .busy })).heap[D + 1]? = some (.loop { r with state := .busy }) := World.putObj_heap_same hlt
   have hk3 : (X.putObj (D + 1) (.loop { r with state := .busy })).heap[D]? = some (.deferred (some [])) := (World.putObj_heap_other (by omega)).trans hk2
   have hkp : Kp V (X.putObj (D + 1) (.loop { r with state := .busy })) := hKt hkx (hKb _ _ _ _ (by omega) hl2 rfl rfl)
   have hb' : ∀ (l : Nat) (pre : List α) (x : α) (a' : Act) (W : World), w.heap.size ≤ l → A pre x a' W → r.body.wpIn (F.inRound l) (n - 1 - 1) P (ownPostG w.heap.size Kp I Ix (pre ++ [x]) W) a' W := by rw [hr]; exact hbody
   refine wpIn_mono (hb' (D + 1) pre x a' _ (by omega) ((hA pre x a').putObj (s := ()) _ hax (by omega) hl2 rfl)) ?_
   have fin : ∀ W3, KeepsFrom w.heap.size (X.putObj (D + 1) (.loop { r with state := .busy })) W3 → W3.heap[D + 1]? = some (.loop { r with state := .busy }) ∧ W3.heap[D]? = some (.deferred (some [])) ∧ ∀ o, (W3.putObj (D + 1) o).heap[D + 1]? = some o ∧ (W3.putObj (D + 1) o).heap[D]? = some (.deferred (some [])) := fun W3 h => by
    have e1 := h.same _ _ (by omega) hl3 rfl
    have e2 := h.same _ _ (by omega) hk3 rfl
    exact ⟨e1, e2, fun o => ⟨World.putObj_heap_same (Array.getElem?_eq_some_iff.1 e1).1, (World.putObj_heap_other (by omega)).trans e2⟩⟩
   have hrr : ({ r with state := .ready, pending := none } : Loop) = r := by rw [hr]
   intro e a3 W3 hp
   cases e with
   | normal =>
    obtain ⟨k1, k2, k3⟩ := hp
    obtain ⟨e1, e2, e3⟩ := fin W3 k1
    refine ⟨k1, ?_⟩
    rw [hrr]
    exact .inl ⟨rfl, ⟨hI.putObj _ k3 (by omega) e1 rfl, e3 _⟩, hKt hkp (hKt k2 (hKb _ _ _ _ (by omega) e1 rfl rfl))⟩
   | ret =>
    obtain ⟨k1, k3⟩ := hp
    obtain ⟨e1, e2, e3⟩ := fin W3 k1
    exact ⟨k1, .inr ⟨rfl, .ret, (hIx _).putObj _ k3 (by omega) e1 rfl, e3 _⟩⟩
   | exit id =>
    obtain ⟨k1, k3⟩ := hp
    obtain ⟨e1, e2, e3⟩ := fin W3 k1
    exact ⟨k1, .inr ⟨rfl, .exit id, (hIx _).putObj _ k3 (by omega) e1 rfl, e3 _⟩⟩
   | goto t =>
    obtain ⟨k1, k3⟩ := hp
    obtain ⟨e1, e2, e3⟩ := fin W3 k1
    exact ⟨k1, .inr ⟨rfl, .goto t, (hIx _).putObj _ k3 (by omega) e1 rfl, e3 _⟩⟩
   | panic c => exact hp.elim
   | outgrown => exact hp.elim
 ·rintro e V ⟨⟨v, rfl⟩, ⟨xs, hs, hi, hl, hk⟩ | ⟨pre, c, hi, hl, hk⟩⟩
  ·refine ⟨_, _, run_endLoop hl (by rw [hr]; simp), ?_⟩
   rw [show r.pending = none from by rw [hr]]
   exact hdone D xs _ (by omega) (hS.putObj _ hs (by omega) hl rfl) (hI.putObj _ hi (by omega) hl rfl) ((World.putObj_heap_other (by omega)).trans hk)
  ·refine ⟨_, _, run_endLoop hl (by simp), ?_⟩
   exact hstop D c pre _ (by omega) ((hIx c).putObj _ hi (by omega) hl rfl) ((World.putObj_heap_other (by omega)).trans hk)
end
end Go.Proofs.Ytjjicajodjophaa

namespace Go.Proofs.Ytjjicajodjophaa
open Go.RowKit
theorem run_loadVar_one {P : Program} {w : World} {b : Nat} {ty : TypeId} {v : Value} (d : TypeDesc) (hd : (match d with | .struct _ | .array _ _ => true | _ => false) = false) (hu : P.underlying ty = some d) (hc : w.cell? ⟨b, 0, none⟩ = some v) : (loadVar ty ⟨b, 0, none⟩).run P w = .ok v w := by
 have ha : (isAgg ty).run P w = .ok false w := by
  unfold isAgg
  rw [Sem.run_bind, run_underlying hu w]
  cases d <;> simp_all
 simp [loadVar, Sem.run_bind, ha, hc]
theorem results_boxes {P : Program} {fn : Func} {p q : Tmp} {t1 t2 : TypeId} (h : fn.results = #[.cell p t1, .cell q t2]) (tmps : Array Value) (w : World) (g1 g2 : Nat) (v1 v2 : Value) (d1 d2 : TypeDesc)
  (hd1 : (match d1 with | .struct _ | .array _ _ => true | _ => false) = false) (hd2 : (match d2 with | .struct _ | .array _ _ => true | _ => false) = false) (hu1 : P.underlying t1 = some d1) (hu2 : P.underlying t2 = some d2) (hp : tmps.getD p undef = .pointer (some ⟨g1, 0, none⟩)) (hq : tmps.getD q undef = .pointer (some ⟨g2, 0, none⟩))
  (c1 : w.cell? ⟨g1, 0, none⟩ = some v1) (c2 : w.cell? ⟨g2, 0, none⟩ = some v2) : (results fn tmps).run P w = .ok (.tuple #[v1, v2]) w := by
 have hp' : tmps[p]?.getD undef = .pointer (some ⟨g1, 0, none⟩) := by simpa using hp
 have hq' : tmps[q]?.getD undef = .pointer (some ⟨g2, 0, none⟩) := by simpa using hq
 simp [results, h, hp', hq', asAddr, run_loadVar_one d1 hd1 hu1 c1, run_loadVar_one d2 hd2 hu2 c2]
end Go.Proofs.Ytjjicajodjophaa

namespace Go.Proofs.Ytjjicajodjophaa
open Go.RowKit Go.Shelf
attribute [local go_sem] Oper.semAt_some
structure WE where
 y : Wrt
 sv : Value
def encWE (x : WE) : Array Value := #[.agg #[.int .i64 x.y.1, x.sv]]
def KpC (V V' : World) : Prop := V.heap.size ≤ V'.heap.size ∧ ∀ (k : Nat) (o : Obj), V.heap[k]? = some o → o.isCells = true → V'.heap[k]? = some o
theorem KpC.trans {X Y Z : World} (h : KpC X Y) (k : KpC Y Z) : KpC X Z := ⟨Nat.le_trans h.1 k.1, fun i o h1 h2 => k.2 i o (h.2 i o h1 h2) h2⟩
theorem KpC.put (W : World) (l : Nat) (o o' : Obj) (h : W.heap[l]? = some o) (ho : o.isCells = false) : KpC W (W.putObj l o') := by
 refine ⟨by simp [World.putObj], fun k q hq hc => ?_⟩
 rw [World.putObj_heap_other (by rintro rfl; rw [h] at hq; cases hq; rw [ho] at hc; cases hc)]
 exact hq
theorem KpC.alloc (W : World) (o : Obj) : KpC W (W.alloc o) := ⟨by simp, fun k q hq _ => (Below.heap_alloc W o k (Array.getElem?_eq_some_iff.1 hq).1).trans hq⟩
theorem cell_obj {w : World} {b i : Nat} {v : Value} (h : w.cell? ⟨b, i, none⟩ = some v) : ∃ o, w.heap[b]? = some o ∧ o.isCells = true := by
 have hb := cell_lt h
 refine ⟨w.heap[b], Array.getElem?_eq_getElem hb, ?_⟩
 have e : w.heap[b]? = some w.heap[b] := Array.getElem?_eq_getElem hb
 unfold World.cell? at h
 rw [show (⟨b, i, none⟩ : Addr).block = b from rfl, e] at h
 cases hh : w.heap[b] with
 | cells c t f => rfl
 | _ => rw [hh] at h; simp at h
theorem KpC.cell {V V' : World} (h : KpC V V') {b i : Nat} {v : Value} (hc : V.cell? ⟨b, i, none⟩ = some v) : V'.cell? ⟨b, i, none⟩ = some v := by
 obtain ⟨o, h1, h2⟩ := cell_obj hc
 rw [World.cell?_of_block (w := V) (show V'.heap[b]? = V.heap[b]? from (h.2 b o h1 h2).trans h1.symm)]
 exact hc
theorem KpC.rd {V V' : World} (h : KpC V V') {v : Value} {xs : List UInt8} (hr : Rd V v xs) : Rd V' v xs := by
 obtain ⟨ao, cap, rfl, h1, h2, h3, h4⟩ := hr
 refine ⟨ao, cap, rfl, h1, h2, h3, ?_⟩
 rcases h4 with h4 | ⟨b, off, rfl, hc⟩
 ·exact .inl h4
 ·exact .inr ⟨b, off, rfl, fun i hi => h.cell (hc i hi)⟩
theorem KpC.rdC {V V' : World} (h : KpC V V') {v : Value} {ws : List Wrt} (hr : RdC V v ws) : RdC V' v ws := by
 obtain ⟨ao, cap, rfl, h1, h2, h3, h4⟩ := hr
 refine ⟨ao, cap, rfl, h1, h2, h3, ?_⟩
 rcases h4 with h4 | ⟨b, off, rfl, hc⟩
 ·exact .inl h4
 ·refine .inr ⟨b, off, rfl, fun i x hx => ?_⟩
  obtain ⟨c, ⟨c1, c2, e, e1, v, e2, hv⟩, hcell⟩ := hc i x hx
  exact ⟨c, ⟨c1, c2, e, e1, v, e2, h.rd hv⟩, fun j u hj => h.cell (hcell j u hj)⟩
def RW (ws : List Wrt) (pre : List WE) (x : WE) (V : World) : Prop := Rd V x.sv x.y.2 ∧ ∃ k, k + 1 + pre.length = ws.length ∧ ws[k]? = some x.y ∧ pre.map WE.y = (ws.drop (k + 1)).reverse
def SW (ws : List Wrt) (xs : List WE) (V : World) : Prop := xs.map WE.y = ws.reverse
set_option maxHeartbeats 2000000 in
set_option maxRecDepth 100000 in
theorem latest1_hands (ws : List Wrt) (v : Value) (W0 : World) (hr0 : RdC W0 v ws) (Bs : Nat) (bs : Boxed W0 Bs 29 v) (n : Nat) :
  Hands Fence.wide n Try.prog 108 #[.pointer (some ⟨Bs, 0, none⟩)] encWE KpC (RW ws) (SW ws) W0 := by
 intro l J Jx W hW hJ hJx hY h0
 have lb := hr0.bd
 obtain ⟨ao, cap, rfl⟩ := hr0.slice
 have i0 := hr0.to0 hW
 have bs0 : Boxed W Bs 29 (.slice ao ws.length cap) := (hW.block Bs bs.lt).trans bs
 have I0 := hide (And.intro i0 bs0)
 have cb0 := bs0.cell
 clear i0 bs0 bs hW hr0
 refine callsIn_of_wp Try.func108 rfl trivial ?_ rfl
 simp only [Try.ntmps108, List.size_toArray, List.length_cons, List.length_nil, Nat.reduceAdd, Nat.reduceSub, Array.replicate_succ, Array.replicate_zero, List.push_toArray, List.append_toArray, List.nil_append, List.cons_append]
 gi_wp2
 clear cb0
 gi_loopw [3] (fun i wr => ∃ (pre : List WE) (k : Nat), i = .int .i64 ((k : Int) - 1) ∧ k + pre.length = ws.length ∧ Hid (pre.map WE.y = (ws.drop k).reverse) ∧ Hid (RdC wr (.slice ao ws.length cap) ws ∧ Boxed wr Bs 29 (.slice ao ws.length cap)) ∧ J pre wr) (fun i _ => (intOf i + 1).toNat)
 case atStart => exact ⟨[], ws.length, by simp, rfl, by show _ = _; simp, I0, h0⟩
 case round =>
  obtain ⟨pre, k, rfl, hk, hpre, hit, hJs⟩ := hrel
  clear I0
  have cb := hit.out.2.cell
  cases k with
  | zero =>
   have hS : SW ws pre wr := by
    show pre.map WE.y = ws.reverse
    have := hpre.out
    rwa [List.drop_zero] at this
   have HS := hide hS
   have HJ := hide hJs
   have hq0 : ((0 : Nat) : Int) - 1 = -1 := by omega
   rw [hq0]
   clear hS hJs hpre hit hq0
   gi_wp2
   go_end0
   exact ⟨⟨_, rfl⟩, .inl ⟨_, HS.out, HJ.out⟩⟩
  | succ k =>
   obtain ⟨y, hy, _⟩ := some_at ws (k := k) (by omega)
   obtain ⟨b1, o1, u, rfl, hc1, hc2, hru⟩ := hit.out.1.wrt hy
   have hx : RW ws pre ⟨y, u⟩ wr := ⟨hru, k, by omega, hy, hpre.out⟩
   have Y := hY pre ⟨y, u⟩ wr hJs hx
   obtain ⟨fn, tmps, assign, body, hy', hR⟩ := Y
   dsimp only [encWE] at hy'
   obtain ⟨au, cu, rfl⟩ := hru.slice
   have hq1 : (0 : Int) ≤ ((k + 1 : Nat) : Int) - 1 := by omega
   have hq2 : ((k + 1 : Nat) : Int) - 1 = (k : Int) := by omega
   have hq3 : (k : Int) < (ws.length : Int) := by omega
   have hdr : (pre ++ [(⟨y, .slice au y.2.length cu⟩ : WE)]).map WE.y = (ws.drop k).reverse := by
    rw [List.map_append, hpre.out]
    have : ws.drop k = y :: ws.drop (k + 1) := by
     rw [List.drop_eq_getElem_cons (by omega)]
     congr 1
     have := (List.getElem?_eq_some_iff.1 hy)
     obtain ⟨h, e⟩ := this
     exact e
    rw [this]
    simp
   have HD := hide hdr
   have HIT := hit
   clear hdr hit hJs hpre hx hY hru hy
   rw [hq2]
   gi_wp2
   refine ⟨(fun h => by cases h), hR.mono ?_⟩
   rintro e W3 (⟨rfl, hJ3, hk3⟩ | ⟨rfl, hJx3⟩)
   ·have h3 : Hid (RdC W3 (.slice (some ⟨b1, o1, none⟩) ws.length cap) ws ∧ Boxed W3 Bs 29 (.slice (some ⟨b1, o1, none⟩) ws.length cap)) := ⟨hk3.rdC HIT.out.1, hk3.2 _ _ HIT.out.2 rfl⟩
    have HJ3 := hide hJ3
    clear hJ3 hk3 HIT hR hy' cb hc1 hc2
    gi_wp2
    go_roundw
    case rel => exact ⟨pre ++ [⟨y, .slice au y.2.length cu⟩], k, by go_num, by simp; omega, HD, h3, HJ3.out⟩
    case measure => simp [intOf] <;> omega
   ·clear hR hy' cb hc1 hc2
    gi_wp2
    refine bodyPost_ret (results_none rfl _ _ _) rfl ?_
    exact ⟨⟨_, rfl⟩, .inr ⟨_, hJx3⟩⟩
set_option maxRecDepth 100000 in
theorem latest_any (w : World) (v : Value) (ws : List Wrt) (hr : RdC w v ws) : Calls Try.prog 96 #[v] w fun e w' => e = .returned (.func (.func 108) #[] #[.pointer (some ⟨w.heap.size, 0, none⟩)]) ∧ w' = w.alloc (.cells #[v] 29) := by
 obtain ⟨ao, cap, rfl⟩ := hr.slice
 go_enter Try.func96, Try.ntmps96
 go_wp2
 go_ret
 exact ⟨rfl, rfl⟩
theorem pad_last {d : Dsk} {z : Int} {k : Nat} {y : Wrt} {x0 : List UInt8} (h : d.2[k]? = some y) (hz : y.1 = z) (hl : ∀ q ∈ d.2.drop (k + 1), q.1 ≠ z) : lastOf z x0 d.2 = y.2 := by
 have e : d.2 = d.2.take (k + 1) ++ d.2.drop (k + 1) := (List.take_append_drop _ _).symm
 rw [e]
 unfold lastOf
 rw [List.foldl_append]
 have h1 : List.foldl (fun b (y : Wrt) => if y.1 = z then y.2 else b) x0 (d.2.take (k + 1)) = y.2 := by
  have := lastOf_take (z := z) (x := x0) h
  rw [if_pos hz] at this
  exact this
 rw [h1]
 clear h1 e h
 generalize d.2.drop (k + 1) = r at *
 induction r with
 | nil => rfl
 | cons q r ih =>
  rw [List.foldl_cons, if_neg (hl q (by simp))]
  exact ih fun p hp => hl p (by simp [hp])
theorem none_last {z : Int} {x0 : List UInt8} {ws : List Wrt} (hl : ∀ q ∈ ws, q.1 ≠ z) : lastOf z x0 ws = x0 := by
 induction ws with
 | nil => rfl
 | cons q r ih =>
  show lastOf z (if q.1 = z then q.2 else x0) r = x0
  rw [if_neg (hl q (by simp))]
  exact ih fun p hp => hl p (by simp [hp])
theorem KpC.of_grown {B : Nat} {X Y : World} {row : Option Nat} (hg : X.grownBy Y row) (hr : ∀ r, row = some r → B ≤ r ∧ ∃ o : Obj, X.heap[r]? = some o ∧ o.isCells = false) : KpC X Y := by
 refine ⟨hg.size, fun k o h1 h2 => (hg.block k (Array.getElem?_eq_some_iff.1 h1).1 fun e => ?_).trans h1⟩
 obtain ⟨_, o', h3, h4⟩ := hr k e.symm
 rw [h1] at h3
 cases h3
 rw [h2] at h4
 cases h4
theorem KpC.own {V V' : World} (h : KpC V V') {B : Nat} {v : Value} {xs : List UInt8} (o : OwnB B V v xs) : OwnB B V' v xs := by
 rcases o with ⟨h1, h2 | ⟨g, cap, cur, hv, hB, hg, hr⟩⟩
 ·exact ⟨h1, .inl h2⟩
 ·exact ⟨h1, .inr ⟨g, cap, cur, hv, hB, h.2 g _ hg rfl, hr⟩⟩
def IG (w2 : World) (z : Int) (pre : List WE) (V : World) : Prop := Below w2.heap.size w2 V ∧ ∀ e ∈ pre, e.y.1 ≠ z
def XG (w : World) (B : Nat) (ws : List Wrt) (z : Int) (c : Code) (pre : List WE) (V : World) : Prop := c = .ret ∧ ∃ (p0 : List WE) (x : WE) (v' : Value) (k : Nat), pre = p0 ++ [x] ∧ x.y.1 = z ∧ (∀ e ∈ p0, e.y.1 ≠ z) ∧ ws[k]? = some x.y ∧ p0.map WE.y = (ws.drop (k + 1)).reverse ∧
 Boxed V (w.heap.size + 1 + 1) 62 v' ∧ Boxed V (w.heap.size + 1 + 1 + 1) 34 (.int .i64 0) ∧ OwnB B V v' (pad x.y.2) ∧ Below w.heap.size w V
def actG (w : World) (sv cv : Value) (z : Int) (g : Nat) (x : WE) (Bx : Nat) : Act := { tmps := #[.agg #[sv, cv], .int .i64 z, .pointer (some ⟨w.heap.size, 0, none⟩), .pointer (some ⟨w.heap.size + 1, 0, none⟩), .pointer (some ⟨w.heap.size + 1 + 1, 0, none⟩), .pointer (some ⟨w.heap.size + 1 + 1 + 1, 0, none⟩), .int .i64 0, .pointer (some ⟨Bx, 0, none⟩), .agg #[sv, cv], .int .i64 z, .int .i64 0, .int .i64 0, .bool false, undef, .pointer (some ⟨w.heap.size, 1, none⟩), cv, .func (.func 108) #[] #[.pointer (some ⟨g, 0, none⟩)], .agg #[.int .i64 x.y.1, x.sv], undef, undef, undef, undef, undef, undef, undef, undef, undef, undef, undef, undef, undef], defers := [] }
def AG (w w2 : World) (sv cv : Value) (ws : List Wrt) (z : Int) (g : Nat) (pre : List WE) (x : WE) (a : Act) (V : World) : Prop :=
 IG w2 z pre V ∧ RW ws pre x V ∧ ∃ Bx, V.heap[Bx]? = some (.cells #[.int .i64 x.y.1, x.sv] 110 (0, 0)) ∧ a = actG w sv cv z g x Bx
theorem IG_own (w2 : World) (z : Int) : OwnFrom w2.heap.size (IG w2 z) := by
 rintro pre X Y row ⟨h1, h2⟩ hg hr
 exact ⟨h1.grown hg h1.size (fun k e => (hr k e).1), h2⟩
theorem XG_own (w w2 : World) (hw : w.heap.size ≤ w2.heap.size) (ws : List Wrt) (z : Int) (c : Code) : OwnFrom w2.heap.size (XG w w2.heap.size ws z c) := by
 rintro pre X Y row ⟨rfl, p0, x, v', k, e1, e2, e3, e4, e5, b1, b2, o, hb⟩ hg hr
 have kp := KpC.of_grown hg hr
 exact ⟨rfl, p0, x, v', k, e1, e2, e3, e4, e5, kp.2 _ _ b1 rfl, kp.2 _ _ b2 rfl, kp.own o, hb.grown hg hb.size (fun k e => by have := (hr k e).1; omega)⟩
theorem AG_own (w w2 : World) (sv cv : Value) (ws : List Wrt) (z : Int) (g : Nat) (pre : List WE) (x : WE) (a : Act) : OwnFrom w2.heap.size (fun (_ : Unit) V => AG w w2 sv cv ws z g pre x a V) := by
 rintro _ X Y row ⟨h1, ⟨h2, h3⟩, Bx, h4, h5⟩ hg hr
 have kp := KpC.of_grown hg hr
 exact ⟨IG_own w2 z pre X Y row h1 hg hr, ⟨kp.rd h2, h3⟩, Bx, kp.2 _ _ h4 rfl, h5⟩
theorem SW_own (ws : List Wrt) (B : Nat) : OwnFrom B (SW ws) := fun _ _ _ _ h _ _ => h
set_option maxHeartbeats 4000000 in
set_option maxRecDepth 100000 in
theorem dget_any (w : World) (sv cv : Value) (d : Dsk) (z : Int) (h1 : RdSec w sv d.1) (h2 : RdC w cv d.2) :
  Calls Try.prog 70 #[.agg #[sv, cv], .int .i64 z] w fun e w' => ∃ v', e = .returned (.tuple #[v', .int .i64 (dget d z).2]) ∧ OwnB w.heap.size w' v' (dget d z).1 ∧ Below w.heap.size w w' := by
 refine (callsIn_wide (n := 5)).1 ?_
 obtain ⟨a1, c1, rfl⟩ := h1.slice
 obtain ⟨a2, c2, rfl⟩ := h2.slice
 obtain ⟨W, hW⟩ : ∃ W, W = (((w.alloc (.cells #[.slice a1 d.1.length c1, .slice a2 d.2.length c2] 31)).alloc (.cells #[.int .i64 z] 3)).alloc (.cells #[.slice none 0 0] 62)).alloc (.cells #[.int .i64 0] 34) := ⟨_, rfl⟩
 have sW : W.heap.size = w.heap.size + 1 + 1 + 1 + 1 := by rw [hW]; simp
 have bW : Below w.heap.size w W := by rw [hW]; exact ((((Below.refl _ _).alloc (Nat.le_refl _) _).alloc (by simp) _).alloc (by simp <;> omega) _).alloc (by simp <;> omega) _
 have hA : W.heap[w.heap.size]? = some (.cells #[.slice a1 d.1.length c1, .slice a2 d.2.length c2] 31 (0, 0)) := by
  rw [hW, Below.heap_alloc _ _ _ (by simp <;> omega), Below.heap_alloc _ _ _ (by simp <;> omega), Below.heap_alloc _ _ _ (by simp)]; exact heap_alloc_last w _
 have hB : Boxed W (w.heap.size + 1) 3 (.int .i64 z) := by
  show W.heap[_]? = _
  rw [hW, Below.heap_alloc _ _ _ (by simp <;> omega), Below.heap_alloc _ _ _ (by simp)]
  have := heap_alloc_last (w.alloc (.cells #[.slice a1 d.1.length c1, .slice a2 d.2.length c2] 31)) (.cells #[.int .i64 z] 3); simpa using this
 have hC : Boxed W (w.heap.size + 1 + 1) 62 (.slice none 0 0) := by
  show W.heap[_]? = _
  rw [hW, Below.heap_alloc _ _ _ (by simp)]
  have := heap_alloc_last ((w.alloc (.cells #[.slice a1 d.1.length c1, .slice a2 d.2.length c2] 31)).alloc (.cells #[.int .i64 z] 3)) (.cells #[.slice none 0 0] 62); simpa using this
 have hD : Boxed W (w.heap.size + 1 + 1 + 1) 34 (.int .i64 0) := by
  show W.heap[_]? = _
  rw [hW]
  have := heap_alloc_last (((w.alloc (.cells #[.slice a1 d.1.length c1, .slice a2 d.2.length c2] 31)).alloc (.cells #[.int .i64 z] 3)).alloc (.cells #[.slice none 0 0] 62)) (.cells #[.int .i64 0] 34); simpa using this
 obtain ⟨A0, A1, _, _⟩ := row2_cells hA
 have q1 := h1.to0 bW
 have q2 := h2.to0 bW
 have B0 := hB.cell
 refine callsIn_of_wp_marks Try.func70 rfl trivial ?_ rfl
 simp only [Try.ntmps70, List.size_toArray, List.length_cons, List.length_nil, Nat.reduceAdd, Nat.reduceSub, Array.replicate_succ, Array.replicate_zero, List.push_toArray, List.append_toArray, List.nil_append, List.cons_append]
 gi_wp2_with fail
 rw [← hW]
 replace hW := hide hW
 refine ⟨trivial, ?_⟩
 refine (callsIn_wide.2 (dsector_any _ _ _ d z q1 q2)).mono ?_
 rintro e w1 ⟨rfl, b1⟩
 have c1w := bW.trans (b1.mono bW.size)
 have hA1 := (b1.block w.heap.size (by omega)).trans hA
 have hB1 : Boxed w1 (w.heap.size + 1) 3 (.int .i64 z) := (b1.block _ (by omega)).trans hB
 have hC1 : Boxed w1 (w.heap.size + 1 + 1) 62 (.slice none 0 0) := (b1.block _ (by omega)).trans hC
 have hD1 : Boxed w1 (w.heap.size + 1 + 1 + 1) 34 (.int .i64 0) := (b1.block _ (by omega)).trans hD
 have hs1 : w.heap.size + 1 + 1 + 1 + 1 ≤ w1.heap.size := by have := b1.size; omega
 clear hA hB hC hD A0 A1 B0 q1 q2 b1 bW
 by_cases hs0 : dsect d z = 0
 ·obtain ⟨hok, hh⟩ := dsect_zero.1 hs0
  rw [hs0]
  obtain ⟨A0, A1, _, _⟩ := row2_cells hA1
  have KL := hide (latest_any w1 _ d.2 (h2.to0 c1w))
  gi_wp2_with fail
  refine ⟨trivial, ?_⟩
  refine (callsIn_wide.2 KL.out).mono ?_
  rintro e w2' ⟨rfl, rfl⟩
  clear KL
  obtain ⟨w2, hw2⟩ : ∃ w2, w2 = w1.alloc (.cells #[.slice a2 d.2.length c2] 29) := ⟨_, rfl⟩
  have b2 : Below w1.heap.size w1 w2 := by rw [hw2]; exact (Below.refl _ _).alloc (Nat.le_refl _) _
  have s2 : w2.heap.size = w1.heap.size + 1 := by rw [hw2]; simp
  have bs : Boxed w2 w1.heap.size 29 (.slice a2 d.2.length c2) := by rw [hw2]; exact Boxed.new w1 _ _
  have c2w := c1w.trans (b2.mono c1w.size)
  have hA2 := (b2.block w.heap.size (by omega)).trans hA1
  have hB2 : Boxed w2 (w.heap.size + 1) 3 (.int .i64 z) := (b2.block _ (by omega)).trans hB1
  have hC2 : Boxed w2 (w.heap.size + 1 + 1) 62 (.slice none 0 0) := (b2.block _ (by omega)).trans hC1
  have hD2 : Boxed w2 (w.heap.size + 1 + 1 + 1) 34 (.int .i64 0) := (b2.block _ (by omega)).trans hD1
  have r2 := h2.to0 c2w
  have r1 := h1.to0 c2w
  have HX := hide (And.intro hA2 (And.intro hB2 (And.intro hC2 hD2)))
  have BS := hide bs
  have R2 := hide r2
  have R1 := hide r1
  have C2 := hide c2w
  have HOK := hide (And.intro hok hh)
  obtain ⟨kz, x0, hzk, hkl, hkx⟩ := dhas_nat hh
  have hR : Hid (dget d z = (lastOf z x0 d.2, 0)) := by
   show _ = _; unfold dget; rw [if_neg (by simp [hs0])]
   rw [hzk, show ((kz : Int)).toNat = kz from by omega, getD_some hkx]
  have HKX := hide (And.intro hzk hkx)
  clear hA1 hB1 hC1 hD1 hA2 hB2 hC2 hD2 bs r1 r2 c2w c1w b2 A0 A1 hok hh hs0 hkx h1 h2 hzk
  gi_wp2
  rw [← hw2]
  replace hw2 := hide hw2
  refine wpIn_range_hands rfl (by decide) (gf := 108) (lb := #[.pointer (some ⟨w1.heap.size, 0, none⟩)]) rfl trivial (enters_of Try.func108 (by kernel_rfl) rfl)
   (latest1_hands d.2 _ w2 R2.out w1.heap.size BS.out (5 - 1)) KpC.trans (fun X l o o' _ h1 h2 _ => KpC.put X l o o' h1 h2) (fun _ => rfl) (IG w2 z) (XG w w2.heap.size d.2 z) (AG w w2 (.slice a1 d.1.length c1) (.slice a2 d.2.length c2) d.2 z w1.heap.size)
   (IG_own w2 z) (XG_own w w2 (by omega) d.2 z) (SW_own d.2 _) (AG_own w w2 _ _ d.2 z _) ⟨Below.refl _ _, fun e he => by cases he⟩ ?assign ?body ?done ?stop
  case assign =>
   rintro l pre ⟨y, u⟩ W' K hI hRW hK
   obtain ⟨au, cu, hu⟩ := hRW.1.slice
   dsimp only at hu
   subst hu
   have hk := hK (actG w (.slice a1 d.1.length c1) (.slice a2 d.2.length c2) z w1.heap.size ⟨y, .slice au y.2.length cu⟩ W'.heap.size) (W'.alloc (.cells #[.int .i64 y.1, .slice au y.2.length cu] 110)) ((KeepsOthers.alloc _ _).from _) (KpC.alloc _ _)
    ⟨(IG_own w2 z).alloc _ hI, ⟨(KpC.alloc W' _).rd hRW.1, hRW.2⟩, W'.heap.size, heap_alloc_last W' _, rfl⟩
   have HK := hide hk
   clear hk hK hI hRW
   dsimp only [encWE]
   gi_wp2
   exact HK.out
  case body =>
   rintro l pre ⟨y, u⟩ a' W' hl ⟨⟨hBel, hne⟩, ⟨hrd, k, hk1, hk2, hk3⟩, Bx, hBx, rfl⟩
   obtain ⟨au, cu, hu⟩ := hrd.slice
   dsimp only at hu
   subst hu
   obtain ⟨x0', x1', _, _⟩ := row2_cells hBx
   have zb : Boxed W' (w.heap.size + 1) 3 (.int .i64 z) := (hBel.block _ (by omega)).trans HX.out.2.1
   have zc := zb.cell
   have cb : Boxed W' (w.heap.size + 1 + 1) 62 (.slice none 0 0) := (hBel.block _ (by omega)).trans HX.out.2.2.1
   have db : Boxed W' (w.heap.size + 1 + 1 + 1) 34 (.int .i64 0) := (hBel.block _ (by omega)).trans HX.out.2.2.2
   dsimp only at hrd hk2 x0' x1'
   obtain ⟨yz, yx⟩ := y
   dsimp only at hrd hk2 x0' x1'
   by_cases he : yz = z
   ·have hbe : (yz == z) = true := by simp [he]
    have KS := hide (sectorOf_any W' _ yx hrd)
    have HALL := hide (And.intro hBel (And.intro hne (And.intro hk2 (And.intro hk3 (And.intro cb (And.intro db he))))))
    clear hBel hne hk1 hk2 hk3 cb db zb hrd hBx he
    dsimp only [actG]
    gi_wp2_with fail
    refine ⟨trivial, ?_⟩
    refine (callsIn_wide.2 KS.out).mono ?_
    rintro e w5 ⟨v5, rfl, o5, b5⟩
    obtain ⟨hBel, hne, hk2, hk3, cb, db, he⟩ := HALL.out
    have cb5 : Boxed w5 (w.heap.size + 1 + 1) 62 (.slice none 0 0) := (b5.block _ (by have := hBel.size; omega)).trans cb
    have db5 : Boxed w5 (w.heap.size + 1 + 1 + 1) 34 (.int .i64 0) := (b5.block _ (by have := hBel.size; omega)).trans db
    have p1 := cb5.cell
    have p2 := cb5.frozen
    have p3 := (db5.other (by omega : w.heap.size + 1 + 1 + 1 ≠ w.heap.size + 1 + 1) v5).cell
    have p4 := (db5.other (by omega : w.heap.size + 1 + 1 + 1 ≠ w.heap.size + 1 + 1) v5).frozen
    obtain ⟨av, cv5, hv5⟩ := o5.rd.slice
    have hX : Hid (XG w w2.heap.size d.2 z .ret (pre ++ [⟨(yz, yx), .slice au yx.length cu⟩]) ((w5.setCell ⟨w.heap.size + 1 + 1, 0, none⟩ v5).setCell ⟨w.heap.size + 1 + 1 + 1, 0, none⟩ (.int .i64 0))) := by
     refine ⟨rfl, pre, _, v5, k, rfl, he, hne, hk2, hk3, ?_, ?_, ?_, ?_⟩
     ·exact (cb5.set v5).other (by omega : w.heap.size + 1 + 1 ≠ w.heap.size + 1 + 1 + 1) _
     ·exact (db5.other (by omega : w.heap.size + 1 + 1 + 1 ≠ w.heap.size + 1 + 1) v5).set _
     ·exact (own_set (own_set (o5.mono hBel.size) (g := w.heap.size + 1 + 1) (by omega) 0 v5) (g := w.heap.size + 1 + 1 + 1) (by omega) 0 _)
     ·have cc := C2.out.trans ((hBel.mono (show w.heap.size ≤ w2.heap.size by omega)).trans (b5.mono (by have := hBel.size; omega)))
      exact (cc.setCell (p := ⟨w.heap.size + 1 + 1, 0, none⟩) (by show w.heap.size ≤ w.heap.size + 1 + 1; omega) _).setCell (p := ⟨w.heap.size + 1 + 1 + 1, 0, none⟩) (by show w.heap.size ≤ w.heap.size + 1 + 1 + 1; omega) _
    have hKF : Hid (KeepsFrom w2.heap.size W' ((w5.setCell ⟨w.heap.size + 1 + 1, 0, none⟩ v5).setCell ⟨w.heap.size + 1 + 1 + 1, 0, none⟩ (.int .i64 0))) := by
     have k1 : KeepsOthers W' w5 := ⟨b5.size, fun k o h _ => (b5.block k (Array.getElem?_eq_some_iff.1 h).1).trans h⟩
     exact ((k1.trans (KeepsOthers.setCell _ _ _)).trans (KeepsOthers.setCell _ _ _)).from _
    clear cb5 db5 o5 b5 hBel hne hk2 hk3 cb db he HALL KS
    subst hv5
    gi_wp2
    exact ⟨hKF.out, hX.out⟩
   ·have hbe : (yz == z) = false := by simpa using he
    have HI : Hid (IG w2 z (pre ++ [⟨(yz, yx), .slice au yx.length cu⟩]) W') := ⟨hBel, fun e he' => by
     rcases List.mem_append.1 he' with h | h
     ·exact hne e h
     ·obtain rfl : e = _ := by simpa using h
      exact he⟩
    clear hBel hne hk1 hk2 hk3 cb db zb hrd hBx he
    dsimp only [actG]
    gi_wp2
    exact ⟨KeepsFrom.refl _ _, ⟨Nat.le_refl _, fun _ _ h _ => h⟩, HI.out⟩
  case done =>
   rintro D xs W' hD hSW ⟨hBel, hne⟩ hK
   obtain ⟨rfl, hkx⟩ := HKX.out
   have hall : ∀ q ∈ d.2, q.1 ≠ (kz : Int) := by
    intro q hq
    have hm : q ∈ xs.map WE.y := by rw [hSW]; simpa using hq
    obtain ⟨e, he, rfl⟩ := List.mem_map.1 hm
    exact hne e he
   have hlast := none_last (x0 := x0) hall
   have hx64 := HOK.out.1.2.2.2.1 x0 (List.mem_of_getElem? hkx)
   rw [hlast] at hR
   obtain ⟨b1, o1, u, rfl, hc, hr⟩ := (R1.out.to0 hBel).oct hkx
   obtain ⟨au, cu, rfl⟩ := hr.slice
   have hA' := (hBel.block w.heap.size (by omega)).trans HX.out.1
   obtain ⟨A0, A1, _, _⟩ := row2_cells hA'
   have zb : Boxed W' (w.heap.size + 1) 3 (.int .i64 (kz : Int)) := (hBel.block _ (by omega)).trans HX.out.2.1
   have zc := zb.cell
   have cb : Boxed W' (w.heap.size + 1 + 1) 62 (.slice none 0 0) := (hBel.block _ (by omega)).trans HX.out.2.2.1
   have db : Boxed W' (w.heap.size + 1 + 1 + 1) 34 (.int .i64 0) := (hBel.block _ (by omega)).trans HX.out.2.2.2
   have KS := hide (sectorOf_any W' _ x0 hr)
   rw [pad_id hx64] at KS
   have hq : (kz : Int) < (d.1.length : Int) := by omega
   have HALL := hide (And.intro hBel (And.intro cb (And.intro db hK)))
   clear hBel hne hSW cb db hK zb hr hall hlast hx64 hkx hA'
   gi_wp2_with fail
   refine ⟨trivial, ?_⟩
   refine (callsIn_wide.2 KS.out).mono ?_
   rintro e w5 ⟨v5, rfl, o5, b5⟩
   obtain ⟨hBel, cb, db, hK⟩ := HALL.out
   have hDl : D < W'.heap.size := (Array.getElem?_eq_some_iff.1 hK).1
   have hDw : w.heap.size + 1 + 1 + 1 + 1 ≤ D := by omega
   have hK5 := (b5.block D hDl).trans hK
   have cb5 : Boxed w5 (w.heap.size + 1 + 1) 62 (.slice none 0 0) := (b5.block _ (by have := hBel.size; omega)).trans cb
   have db5 : Boxed w5 (w.heap.size + 1 + 1 + 1) 34 (.int .i64 0) := (b5.block _ (by have := hBel.size; omega)).trans db
   have p1 := cb5.cell
   have p2 := cb5.frozen
   have p3 := (db5.other (by omega : w.heap.size + 1 + 1 + 1 ≠ w.heap.size + 1 + 1) v5).cell
   have p4 := (db5.other (by omega : w.heap.size + 1 + 1 + 1 ≠ w.heap.size + 1 + 1) v5).frozen
   have hK6 : ((w5.setCell ⟨w.heap.size + 1 + 1, 0, none⟩ v5).setCell ⟨w.heap.size + 1 + 1 + 1, 0, none⟩ (.int .i64 0)).heap[D]? = some (.deferred (some [])) := by
    rw [Below.heap_setCell _ _ _ _ (by show D ≠ w.heap.size + 1 + 1 + 1; omega), Below.heap_setCell _ _ _ _ (by show D ≠ w.heap.size + 1 + 1; omega)]; exact hK5
   have e1 : Boxed ((w5.setCell ⟨w.heap.size + 1 + 1, 0, none⟩ v5).setCell ⟨w.heap.size + 1 + 1 + 1, 0, none⟩ (.int .i64 0)) (w.heap.size + 1 + 1) 62 v5 := (cb5.set v5).other (by omega : w.heap.size + 1 + 1 ≠ w.heap.size + 1 + 1 + 1) _
   have e2 : Boxed ((w5.setCell ⟨w.heap.size + 1 + 1, 0, none⟩ v5).setCell ⟨w.heap.size + 1 + 1 + 1, 0, none⟩ (.int .i64 0)) (w.heap.size + 1 + 1 + 1) 34 (.int .i64 0) := (db5.other (by omega : w.heap.size + 1 + 1 + 1 ≠ w.heap.size + 1 + 1) v5).set _
   have e3 := own_set (own_set (o5.mono hBel.size) (g := w.heap.size + 1 + 1) (by omega) 0 v5) (g := w.heap.size + 1 + 1 + 1) (by omega) 0 (.int .i64 0)
   have cc := C2.out.trans ((hBel.mono (show w.heap.size ≤ w2.heap.size by omega)).trans (b5.mono (by have := hBel.size; omega)))
   have e4 := (cc.setCell (p := ⟨w.heap.size + 1 + 1, 0, none⟩) (by show w.heap.size ≤ w.heap.size + 1 + 1; omega) v5).setCell (p := ⟨w.heap.size + 1 + 1 + 1, 0, none⟩) (by show w.heap.size ≤ w.heap.size + 1 + 1 + 1; omega) (.int .i64 0)
   have FIN := hide (And.intro hK6 (And.intro e1 (And.intro e2 (And.intro e3 e4))))
   obtain ⟨av, cv5, hv5⟩ := o5.rd.slice
   clear hK6 e1 e2 e3 e4 cc cb5 db5 o5 b5 hBel cb db hK hK5 HALL KS
   subst hv5
   gi_wp2
   obtain ⟨hK6, e1, e2, e3, e4⟩ := FIN.out
   have kp := KpC.put _ D _ (.deferred none) hK6 rfl
   refine ⟨by simp, .inl ⟨_, _, rfl, run_takeDeferred hK6, ?_⟩⟩
   refine ⟨_, results_boxes rfl _ _ _ _ _ _ _ _ rfl rfl Try.underlying62 Try.underlying34 rfl rfl (kp.cell e1.cell) (kp.cell e2.cell), ?_⟩
   rw [hR.out]
   exact ⟨_, rfl, (kp.own e3).mono (by omega), e4.trans ⟨rfl, rfl, rfl, by simp [World.putObj], fun k hk => World.putObj_heap_other (by omega)⟩⟩
  case stop =>
   rintro D c pre W' hD ⟨rfl, p0, x, v', k, e1, e2, e3, e4, e5, b1, b2, o, hb⟩ hK
   have hlast : lastOf z x0 d.2 = x.y.2 := pad_last e4 e2 (fun q hq => by
    have hm : q ∈ p0.map WE.y := by rw [e5]; simpa using hq
    obtain ⟨e, he, rfl⟩ := List.mem_map.1 hm
    exact e3 e he)
   have hx64 := (HOK.out.1.2.2.2.2 x.y (List.mem_of_getElem? e4)).2
   rw [pad_id hx64] at o
   rw [hlast] at hR
   gi_wp2
   have kp := KpC.put _ D _ (.deferred none) hK rfl
   refine ⟨by simp, .inl ⟨_, _, rfl, run_takeDeferred hK, ?_⟩⟩
   refine ⟨_, results_boxes rfl _ _ _ _ _ _ _ _ rfl rfl Try.underlying62 Try.underlying34 rfl rfl (kp.cell b1.cell) (kp.cell b2.cell), ?_⟩
   rw [hR.out]
   exact ⟨_, rfl, (kp.own o).mono (by omega), hb.trans ⟨rfl, rfl, rfl, by simp [World.putObj], fun k hk => World.putObj_heap_other (by omega)⟩⟩
 ·have hne : (dsect d z != 0) = true := by simpa using hs0
  have hR : Hid (dget d z = ([], dsect d z)) := by show _ = _; unfold dget; rw [if_pos hs0]
  generalize hDD : dsect d z = D at *
  have cc := hC1.cell
  have cf := hC1.frozen
  have dc := hD1.cell
  have df := hD1.frozen
  have cb5 := (hC1.set (.slice none 0 0)).other (by omega : w.heap.size + 1 + 1 ≠ w.heap.size + 1 + 1 + 1) (.int .i64 D)
  have db5 := (hD1.other (by omega : w.heap.size + 1 + 1 + 1 ≠ w.heap.size + 1 + 1) (.slice none 0 0)).set (.int .i64 D)
  have cc5 := (c1w.setCell (p := ⟨w.heap.size + 1 + 1, 0, none⟩) (by show w.heap.size ≤ w.heap.size + 1 + 1; omega) (.slice none 0 0)).setCell (p := ⟨w.heap.size + 1 + 1 + 1, 0, none⟩) (by show w.heap.size ≤ w.heap.size + 1 + 1 + 1; omega) (.int .i64 D)
  have HX := hide (And.intro cb5 (And.intro db5 cc5))
  clear hDD hs0 cb5 db5 cc5
  gi_wp2
  refine ⟨_, results_boxes rfl _ _ _ _ _ _ _ _ rfl rfl Try.underlying62 Try.underlying34 rfl rfl HX.out.1.cell HX.out.2.1.cell, ?_⟩
  rw [hR.out]
  exact ⟨_, rfl, World.ownsRow_nil _ _ _ _, HX.out.2.2⟩
end Go.Proofs.Ytjjicajodjophaa

namespace Go.Proofs.Ytjjicajodjophaa
abbrev Frm := UInt8 × List UInt8
def ftold (b : List UInt8) : Nat := numOf ((b.drop 2).take 2)
noncomputable def fopen (b : List UInt8) : Nat × Frm × Nat :=
 if b.length < 8 then (8, (0, []), 0)
 else if b.getD 0 0 ≠ 167 then (22, (0, []), 0)
 else if 4096 < ftold b then (5, (0, []), 0)
 else if b.length < ftold b + 8 then (8, (0, []), 0)
 else if numOf ((b.drop (ftold b + 4)).take 4) ≠ sum (b.take (ftold b + 4)) then (21, (0, []), 0)
 else (0, (b.getD 1 0, (b.drop 4).take (ftold b)), ftold b + 8)
noncomputable def stt (b : List UInt8) : Nat → Option (List Frm × Nat)
 | 0 => some ([], 0)
 | n + 1 => (stt b n).bind fun s => if (fopen (b.drop s.2)).1 = 0 then some (s.1 ++ [(fopen (b.drop s.2)).2.1], s.2 + (fopen (b.drop s.2)).2.2) else none
theorem stt_stop {b : List UInt8} {n p : Nat} {fs : List Frm} (h : stt b n = some (fs, p)) (h0 : (fopen (b.drop p)).1 ≠ 0) : stt b (n + 1) = none := by
 simp only [stt, h, Option.bind_some, if_neg h0]
theorem stt_none {b : List UInt8} {n : Nat} (h : stt b n = none) (m : Nat) (hm : n ≤ m) : stt b m = none := by
 induction m with
 | zero => rw [show n = 0 from by omega] at h; exact h
 | succ m ih =>
  by_cases e : n = m + 1
  ·subst e; exact h
  ·simp only [stt, ih (by omega), Option.bind_none]
def ScEnd (b : List UInt8) (fs : List Frm) (p : Nat) : Prop := stt b fs.length = some (fs, p) ∧ (fopen (b.drop p)).1 ≠ 0
theorem ScEnd.one {b : List UInt8} {fs gs : List Frm} {p q : Nat} (h : ScEnd b fs p) (k : ScEnd b gs q) : fs = gs ∧ p = q := by
 have aux : ∀ {fs gs : List Frm} {p q : Nat}, ScEnd b fs p → ScEnd b gs q → gs.length ≤ fs.length := by
  intro fs gs p q h k
  by_cases hl : gs.length ≤ fs.length
  ·exact hl
  ·have := stt_none (stt_stop h.1 h.2) gs.length (by omega)
   rw [k.1] at this; cases this
 have hl : fs.length = gs.length := Nat.le_antisymm (aux k h) (aux h k)
 have := h.1
 rw [hl, k.1] at this
 simp only [Option.some.injEq, Prod.mk.injEq] at this
 exact ⟨this.1.symm, this.2.symm⟩
end Go.Proofs.Ytjjicajodjophaa

namespace Go.Proofs.Ytjjicajodjophaa
end Go.Proofs.Ytjjicajodjophaa

namespace Go.Proofs.Ytjjicajodjophaa
abbrev Wlg := List Wrt × Int × List (List UInt8)
def wzero : Wlg := ([], 0, [])
def widx (n : Int) : Prop := 0 ≤ n ∧ n ≤ 1099511627776
instance (n : Int) : Decidable (widx n) := inferInstanceAs (Decidable (_ ∧ _))
abbrev Wst := (List Wrt × Int) × List (List UInt8)
end Go.Proofs.Ytjjicajodjophaa

namespace Go.Proofs.Ytjjicajodjophaa
end Go.Proofs.Ytjjicajodjophaa

namespace Go.Proofs.Ytjjicajodjophaa
end Go.Proofs.Ytjjicajodjophaa

namespace Go.Proofs.Ytjjicajodjophaa
end Go.Proofs.Ytjjicajodjophaa

namespace Go.Proofs.Ytjjicajodjophaa
end Go.Proofs.Ytjjicajodjophaa

namespace Go.Proofs.Ytjjicajodjophaa
def ptr (below : Int) : List Wrt → List Wrt
 | [] => []
 | [s] => [s]
 | s :: t :: r => if s.1 = t.1 ∨ t.1 ≤ below then ptr below (t :: r) else s :: ptr below (t :: r)
end Go.Proofs.Ytjjicajodjophaa

namespace Go.Proofs.Ytjjicajodjophaa
open Go.RowKit
def fcells : List Frm → List Value → List Value
 | f :: fs, sv :: svs => .int .u8 (f.1.toNat : Int) :: sv :: fcells fs svs
 | _, _ => []
theorem fcells_snoc : ∀ (fs : List Frm) (svs : List Value) (f : Frm) (sv : Value), svs.length = fs.length → fcells (fs ++ [f]) (svs ++ [sv]) = fcells fs svs ++ [.int .u8 (f.1.toNat : Int), sv]
 | [], svs, f, sv, h => by
  have : svs = [] := List.eq_nil_of_length_eq_zero (by simpa using h)
  subst this; rfl
 | g :: fs, [], f, sv, h => by simp at h
 | g :: fs, s :: svs, f, sv, h => by
  have := fcells_snoc fs svs f sv (by simpa using h)
  simp only [List.cons_append, fcells, this]
theorem fcells_at : ∀ (fs : List Frm) (svs : List Value) (i : Nat), svs.length = fs.length → i < fs.length →
  (fcells fs svs)[i * 2]? = some (.int .u8 ((fs.getD i (0, [])).1.toNat : Int)) ∧ (fcells fs svs)[i * 2 + 1]? = some (svs.getD i undef)
 | [], _, i, _, hi => by simp at hi
 | f :: fs, [], i, h, hi => by simp at h
 | f :: fs, sv :: svs, 0, h, hi => by simp [fcells]
 | f :: fs, sv :: svs, i + 1, h, hi => by
  have := fcells_at fs svs i (by simpa using h) (by simpa using hi)
  rw [show (i + 1) * 2 = i * 2 + 1 + 1 from by omega, show i * 2 + 1 + 1 + 1 = (i * 2 + 1) + 1 + 1 from rfl]
  simpa [fcells] using this
def OwnFs (T B : Nat) (w : World) (v : Value) (fs : List Frm) : Prop :=
 ∃ svs : List Value, svs.length = fs.length ∧ w.ownsRow B T 2 v fs.length (fcells fs svs) ∧ ∀ i, i < fs.length → OwnB B w (svs.getD i undef) (fs.getD i (0, [])).2
theorem OwnFs.nil (T B : Nat) (w : World) : OwnFs T B w (.slice none 0 0) [] := ⟨[], rfl, World.ownsRow_nil _ _ _ _, fun i hi => by simp at hi⟩
theorem OwnFs.below {T B : Nat} {w w' : World} {v : Value} {fs : List Frm} (h : OwnFs T B w v fs) {C : Nat} (hC : w.heap.size ≤ C) (hb : Below C w w') : OwnFs T B w' v fs := by
 obtain ⟨svs, h1, h2, h3⟩ := h
 refine ⟨svs, h1, ⟨h2.1, ?_⟩, fun i hi => (h3 i hi).below hC hb⟩
 rcases h2.2 with hn | ⟨g, cap, cur, hv, hgb, hg, r⟩
 ·exact .inl hn
 ·refine .inr ⟨g, cap, cur, hv, hgb, ?_, r⟩
  rw [hb.block g (by
   by_cases hlt : g < w.heap.size
   ·omega
   ·have : w.heap[g]? = none := by simp; omega
    rw [this] at hg; cases hg)]
  exact hg
theorem OwnFs.mono {T B C : Nat} {w : World} {v : Value} {fs : List Frm} (h : OwnFs T B w v fs) (hC : C ≤ B) : OwnFs T C w v fs := by
 obtain ⟨svs, h1, h2, h3⟩ := h
 refine ⟨svs, h1, ⟨h2.1, ?_⟩, fun i hi => (h3 i hi).mono hC⟩
 rcases h2.2 with hn | ⟨g, cap, cur, hv, hgb, r⟩
 ·exact .inl hn
 ·exact .inr ⟨g, cap, cur, hv, by omega, r⟩
theorem rows_ne {w : World} {B B' e e' s s' n n' : Nat} {v v' : Value} {xs xs' : List Value} (hne : e ≠ e') (h : w.ownsRow B e s v n xs) (h' : w.ownsRow B' e' s' v' n' xs') : v.ownBlock = none ∨ v.ownBlock ≠ v'.ownBlock := by
 rcases h.2 with ⟨rfl, _⟩ | ⟨g, cap, cur, rfl, _, hg, _⟩
 ·exact .inl rfl
 rcases h'.2 with ⟨rfl, _⟩ | ⟨g', cap', cur', rfl, _, hg', _⟩
 ·right; simp [Value.ownBlock]
 ·right
  simp only [Value.ownBlock, ne_eq, Option.some.injEq]
  rintro rfl
  rw [hg] at hg'
  simp only [Option.some.injEq, Obj.cells.injEq] at hg'
  exact hne hg'.2.1
theorem OwnFs.snoc {T B : Nat} {w w' : World} {v v' : Value} {fs : List Frm} {f : Frm} {sv : Value} (hT : T ≠ 5) {svs : List Value} (h1 : svs.length = fs.length) (h2 : w.ownsRow B T 2 v fs.length (fcells fs svs))
  (h3 : ∀ i, i < fs.length → OwnB B w (svs.getD i undef) (fs.getD i (0, [])).2) (hs : OwnB B w sv f.2)
  (hg : w.grownBy w' v.ownBlock) (hw : w'.ownsRow B T 2 v' (fs.length + 1) (fcells fs svs ++ [.int .u8 (f.1.toNat : Int), sv])) : OwnFs T B w' v' (fs ++ [f]) := by
 refine ⟨svs ++ [sv], by simp [h1], ?_, ?_⟩
 ·rw [fcells_snoc fs svs f sv h1, List.length_append]
  exact hw
 ·intro i hi
  simp only [List.length_append, List.length_cons, List.length_nil] at hi
  by_cases hlt : i < fs.length
  ·have e1 : (svs ++ [sv]).getD i undef = svs.getD i undef := by simp [List.getD_eq_getElem?_getD, List.getElem?_append_left (show i < svs.length by omega)]
   have e2 : (fs ++ [f]).getD i (0, []) = fs.getD i (0, []) := by simp [List.getD_eq_getElem?_getD, List.getElem?_append_left hlt]
   rw [e1, e2]
   exact World.ownsRow.kept (h3 i hlt) hg (rows_ne (Ne.symm hT) (h3 i hlt) h2)
  ·obtain rfl : i = fs.length := by omega
   have e1 : (svs ++ [sv]).getD fs.length undef = sv := by rw [← h1]; simp [List.getD_eq_getElem?_getD]
   have e2 : (fs ++ [f]).getD fs.length (0, []) = f := by simp [List.getD_eq_getElem?_getD]
   rw [e1, e2]
   exact World.ownsRow.kept hs hg (rows_ne (Ne.symm hT) hs h2)
theorem OwnFs.from {T B : Nat} {w : World} {v : Value} {n : Nat} {xs : List Value} (h : w.ownsRow B T 2 v n xs) : ∀ k, v.ownBlock = some k → B ≤ k := by
 intro k hk
 rcases h.2 with ⟨rfl, _⟩ | ⟨g, cap, cur, rfl, hb, _⟩
 ·cases hk
 ·simp only [Value.ownBlock, Option.some.injEq] at hk
  omega
def RdFs (w : World) (v : Value) (fs : List Frm) : Prop :=
 ∃ ao cap, v = .slice ao fs.length cap ∧ fs.length ≤ cap ∧ cap ≤ maxLen ∧ (ao = none → cap = 0) ∧
  (fs = [] ∨ ∃ b off, ao = some ⟨b, off, none⟩ ∧ ∀ i, i < fs.length → w.cell? ⟨b, off + i * 2, none⟩ = some (.int .u8 ((fs.getD i (0, [])).1.toNat : Int)) ∧
   ∃ sv, w.cell? ⟨b, off + i * 2 + 1, none⟩ = some sv ∧ Rd w sv (fs.getD i (0, [])).2)
theorem RdFs.below {w w' : World} {v : Value} {fs : List Frm} (h : RdFs w v fs) {B : Nat} (hB : w.heap.size ≤ B) (hb : Below B w w') : RdFs w' v fs := by
 obtain ⟨ao, cap, rfl, h1, h2, h3, h4⟩ := h
 refine ⟨ao, cap, rfl, h1, h2, h3, ?_⟩
 rcases h4 with h4 | ⟨b, off, rfl, hc⟩
 ·exact .inl h4
 ·refine .inr ⟨b, off, rfl, fun i hi => ?_⟩
  obtain ⟨c1, sv, c2, c3⟩ := hc i hi
  exact ⟨(hb.cell (p := ⟨b, off + i * 2, none⟩) (by have := cell_lt c1; show b < B; omega)).trans c1, sv, (hb.cell (p := ⟨b, off + i * 2 + 1, none⟩) (by have := cell_lt c2; show b < B; omega)).trans c2, c3.below hB hb⟩
theorem RdFs.to {w w' : World} {v : Value} {fs : List Frm} (h : RdFs w v fs) (hb : Below w.heap.size w w') : RdFs w' v fs := h.below (Nat.le_refl _) hb
theorem RdFs.slice {w : World} {v : Value} {fs : List Frm} (h : RdFs w v fs) : ∃ ao cap, v = .slice ao fs.length cap := by
 obtain ⟨ao, cap, rfl, _⟩ := h; exact ⟨_, _, rfl⟩
theorem OwnFs.rd {T B : Nat} {w : World} {v : Value} {fs : List Frm} (h : OwnFs T B w v fs) : RdFs w v fs := by
 obtain ⟨svs, h1, h2, h3⟩ := h
 rcases h2.2 with ⟨rfl, h0⟩ | ⟨g, cap, cur, rfl, hgb, hg, hn, hm, hs, ht⟩
 ·have : fs = [] := List.eq_nil_of_length_eq_zero h0
  subst this
  exact ⟨none, 0, rfl, Nat.le_refl _, Nat.zero_le _, fun _ => rfl, .inl rfl⟩
 ·refine ⟨_, cap, rfl, hn, hm, (fun h => by cases h), .inr ⟨g, 0, rfl, fun i hi => ?_⟩⟩
  obtain ⟨c1, c2⟩ := fcells_at fs svs i h1 hi
  refine ⟨?_, svs.getD i undef, ?_, (h3 i hi).rd⟩
  ·rw [Nat.zero_add, h2.cellAt (i * 2) (by omega)]; exact c1
  ·rw [Nat.zero_add, h2.cellAt (i * 2 + 1) (by omega)]; exact c2
end Go.Proofs.Ytjjicajodjophaa

namespace Go.Proofs.Ytjjicajodjophaa
open Go.RowKit
def OwnV (B C : Nat) (w : World) (v : Value) (xss : List (List UInt8)) : Prop :=
 ∃ vs : List Value, vs.length = xss.length ∧ w.ownsRow B 62 1 v xss.length vs ∧ ∀ i, i < xss.length → OwnB C w (vs.getD i undef) (xss.getD i [])
theorem OwnV.nil (B C : Nat) (w : World) : OwnV B C w (.slice none 0 0) [] := ⟨[], rfl, World.ownsRow_nil _ _ _ _, fun i hi => by simp at hi⟩
theorem rows_below {w w' : World} {B e s n : Nat} {v : Value} {xs : List Value} (h : w.ownsRow B e s v n xs) {C : Nat} (hC : w.heap.size ≤ C) (hb : Below C w w') : w'.ownsRow B e s v n xs := by
 refine ⟨h.1, ?_⟩
 rcases h.2 with hn | ⟨g, cap, cur, hv, hgb, hg, r⟩
 ·exact .inl hn
 ·exact .inr ⟨g, cap, cur, hv, hgb, (hb.block g (by have := lt_of_block hg; omega)).trans hg, r⟩
theorem rows_mono {w : World} {B C e s n : Nat} {v : Value} {xs : List Value} (h : w.ownsRow B e s v n xs) (hC : C ≤ B) : w.ownsRow C e s v n xs := by
 refine ⟨h.1, ?_⟩
 rcases h.2 with hn | ⟨g, cap, cur, hv, hgb, r⟩
 ·exact .inl hn
 ·exact .inr ⟨g, cap, cur, hv, by omega, r⟩
theorem rows_from {w : World} {B e s n : Nat} {v : Value} {xs : List Value} (h : w.ownsRow B e s v n xs) : ∀ k, v.ownBlock = some k → B ≤ k := by
 intro k hk
 rcases h.2 with ⟨rfl, _⟩ | ⟨g, cap, cur, rfl, hb, _⟩
 ·cases hk
 ·simp only [Value.ownBlock, Option.some.injEq] at hk
  omega
theorem OwnV.below {B C : Nat} {w w' : World} {v : Value} {xss : List (List UInt8)} (h : OwnV B C w v xss) (hb : Below w.heap.size w w') : OwnV B C w' v xss := by
 obtain ⟨vs, h1, h2, h3⟩ := h
 exact ⟨vs, h1, rows_below h2 (Nat.le_refl _) hb, fun i hi => (h3 i hi).below (Nat.le_refl _) hb⟩
theorem OwnV.mono {B C B' C' : Nat} {w : World} {v : Value} {xss : List (List UInt8)} (h : OwnV B C w v xss) (hB : B' ≤ B) (hC : C' ≤ C) : OwnV B' C' w v xss := by
 obtain ⟨vs, h1, h2, h3⟩ := h
 exact ⟨vs, h1, rows_mono h2 hB, fun i hi => (h3 i hi).mono hC⟩
theorem OwnV.rd {B C : Nat} {w : World} {v : Value} {xss : List (List UInt8)} (h : OwnV B C w v xss) : RdSec w v xss := by
 obtain ⟨vs, hl, ⟨_, ⟨rfl, h0⟩ | ⟨g, cap, cur, rfl, hb, hg, hn, hm, hs, ht⟩⟩, he⟩ := h
 ·have : xss = [] := List.eq_nil_of_length_eq_zero h0
  subst this
  exact RdS.nil _ _
 ·refine ⟨_, cap, rfl, hn, hm, (fun e => by cases e), .inr ⟨g, 0, rfl, fun i x hx => ?_⟩⟩
  have hi : i < xss.length := (List.getElem?_eq_some_iff.1 hx).1
  have hr := (he i hi).rd
  rw [getD_some hx] at hr
  refine ⟨[vs.getD i undef], ⟨_, rfl, hr⟩, fun j u hj => ?_⟩
  match j, hj with
  | 0, hj =>
   simp only [List.getElem?_cons_zero, Option.some.injEq] at hj
   subst hj
   show w.cell? ⟨g, 0 + i * 1 + 0, none⟩ = _
   rw [cell_of_row w g _ cur _ (0, 0) hg]
   have e : cur[0 + i * 1 + 0]? = (cur.toList.take (xss.length * 1))[i]? := by
    rw [List.getElem?_take, if_pos (by omega)]; simp
   rw [e, ht]
   simp [hl, hi]
  | j + 1, hj => simp at hj
theorem OwnFs.at {T B : Nat} {w : World} {v : Value} {fs : List Frm} (h : OwnFs T B w v fs) {K : Nat} {f : Frm} (hK : fs[K]? = some f) :
  ∃ g cap sv, v = .slice (some ⟨g, 0, none⟩) fs.length cap ∧ w.cell? ⟨g, K * 2, none⟩ = some (.int .u8 (f.1.toNat : Int)) ∧ w.cell? ⟨g, K * 2 + 1, none⟩ = some sv ∧ OwnB B w sv f.2 := by
 obtain ⟨svs, h1, h2, h3⟩ := h
 have hi : K < fs.length := (List.getElem?_eq_some_iff.1 hK).1
 obtain ⟨c0, c1⟩ := fcells_at fs svs K h1 hi
 have h3' := h3 K hi
 rw [getD_some hK] at c0 h3'
 rcases h2.2 with ⟨_, h0⟩ | ⟨g, cap, cur, hv, hb, hg, hn, hm, hs, ht⟩
 ·omega
 ·subst hv
  refine ⟨g, cap, svs.getD K undef, rfl, ?_, ?_, h3'⟩
  ·rw [h2.cellAt (K * 2) (by omega)]; exact c0
  ·rw [h2.cellAt (K * 2 + 1) (by omega)]; exact c1
end Go.Proofs.Ytjjicajodjophaa

namespace Go.Proofs.Ytjjicajodjophaa
open Go.RowKit
end Go.Proofs.Ytjjicajodjophaa

namespace Go.Proofs.Ytjjicajodjophaa
open Go.RowKit
theorem _root_.Go.Proofs.Ytjjicajodjophaa.Rd.drew {w : World} {v : Value} {xs : List UInt8} (h : Rd w v xs) : Rd w.drew v xs := by
 obtain ⟨ao, cap, rfl, h1, h2, h3, h4⟩ := h
 exact ⟨ao, cap, rfl, h1, h2, h3, h4⟩
end Go.Proofs.Ytjjicajodjophaa

namespace Go.Proofs.Ytjjicajodjophaa
open Go.RowKit
end Go.Proofs.Ytjjicajodjophaa

namespace Go.Proofs.Ytjjicajodjophaa
open Go.RowKit
end Go.Proofs.Ytjjicajodjophaa

namespace Go.Proofs.Ytjjicajodjophaa
open Go.RowKit
theorem cells3 {w : World} {g : Nat} {a b c : Value} {t : TypeId} (h : w.heap[g]? = some (.cells #[a, b, c] t (0, 0))) :
  (w.cell? ⟨g, 0, none⟩ = some a ∧ w.cell? ⟨g, 1, none⟩ = some b ∧ w.cell? ⟨g, 2, none⟩ = some c) ∧ ∀ i, w.frozen? ⟨g, i, none⟩ = false := by
 refine ⟨⟨?_, ?_, ?_⟩, fun i => ?_⟩
 ·rw [cell_of_row _ _ 0 _ _ (0, 0) h]; rfl
 ·rw [cell_of_row _ _ 1 _ _ (0, 0) h]; rfl
 ·rw [cell_of_row _ _ 2 _ _ (0, 0) h]; rfl
 ·simp [World.frozen?, h]
end Go.Proofs.Ytjjicajodjophaa

namespace Go.Proofs.Ytjjicajodjophaa
open Go.RowKit
abbrev SLg (T : Nat) : Shp Wlg := (Shp.list T SWr).pair ((Shp.int .i64).pair SSec)
theorem set3_0 {w : World} {g : Nat} {x y z : Value} {t : TypeId} (h : w.heap[g]? = some (.cells #[x, y, z] t (0, 0))) (u : Value) : (w.setCell ⟨g, 0, none⟩ u).heap[g]? = some (.cells #[u, y, z] t (0, 0)) := by
 simp [World.setCell, Array.getElem?_modify, h]
theorem set3_1 {w : World} {g : Nat} {x y z : Value} {t : TypeId} (h : w.heap[g]? = some (.cells #[x, y, z] t (0, 0))) (u : Value) : (w.setCell ⟨g, 1, none⟩ u).heap[g]? = some (.cells #[x, u, z] t (0, 0)) := by
 simp [World.setCell, Array.getElem?_modify, h]
theorem below_set3 {B : Nat} {w u : World} (h : Below B w u) {g : Nat} (hg : B ≤ g) (x y z : Value) : Below B w (((u.setCell ⟨g, 0, none⟩ x).setCell ⟨g, 1, none⟩ y).setCell ⟨g, 2, none⟩ z) :=
 ((h.setCell (p := ⟨g, 0, none⟩) hg x).setCell (p := ⟨g, 1, none⟩) hg y).setCell (p := ⟨g, 2, none⟩) hg z
end Go.Proofs.Ytjjicajodjophaa

namespace Go.Proofs.Ytjjicajodjophaa
open Go.RowKit
end Go.Proofs.Ytjjicajodjophaa

namespace Go.Proofs.Ytjjicajodjophaa
open Go.RowKit
end Go.Proofs.Ytjjicajodjophaa

namespace Go.Proofs.Ytjjicajodjophaa
open Go.RowKit
end Go.Proofs.Ytjjicajodjophaa

namespace Go.Proofs.Ytjjicajodjophaa
open Go.RowKit
end Go.Proofs.Ytjjicajodjophaa

namespace Go.Proofs.Ytjjicajodjophaa
open Go.RowKit
def KeepT (e : Nat) (w w' : World) : Prop := ∀ (b : Nat) (cur : Array Value) (fr : Nat × Nat), w.heap[b]? = some (Obj.cells cur e fr) → w'.heap[b]? = some (Obj.cells cur e fr)
theorem KeepT.refl (e : Nat) (w : World) : KeepT e w w := fun _ _ _ h => h
theorem KeepT.trans {e : Nat} {a b c : World} (h : KeepT e a b) (k : KeepT e b c) : KeepT e a c := fun i cur fr x => k i cur fr (h i cur fr x)
theorem KeepT.below {e : Nat} {w w' : World} (h : Below w.heap.size w w') : KeepT e w w' := fun b cur fr x => (h.block b (lt_of_block x)).trans x
theorem KeepT.grown {e e' B s n : Nat} {w w' : World} {v : Value} {xs : List Value} (hr : w.ownsRow B e' s v n xs) (hg : w.grownBy w' v.ownBlock) (hne : e ≠ e') : KeepT e w w' := fun b cur fr x => by
 refine (hg.block b (lt_of_block x) fun h => ?_).trans x
 rcases hr.2 with ⟨rfl, _⟩ | ⟨g, cap, cur', rfl, _, hg', _⟩
 ·cases h
 ·simp only [Value.ownBlock, Option.some.injEq] at h
  subst h
  rw [x] at hg'
  simp only [Option.some.injEq, Obj.cells.injEq] at hg'
  exact hne hg'.2.1
theorem KeepT.set {e t : Nat} {w : World} {a : Addr} {cs : Array Value} {fr : Nat × Nat} (h : w.heap[a.block]? = some (.cells cs t fr)) (hne : e ≠ t) (u : Value) : KeepT e w (w.setCell a u) := fun b cur fr' x => by
 refine (Below.heap_setCell _ _ _ _ fun h' => ?_).trans x
 rw [h', h] at x
 simp only [Option.some.injEq, Obj.cells.injEq] at x
 exact hne x.2.1.symm
theorem rows_keepT {w w' : World} {B e s n : Nat} {v : Value} {xs : List Value} (h : w.ownsRow B e s v n xs) (k : KeepT e w w') : w'.ownsRow B e s v n xs := by
 refine ⟨h.1, ?_⟩
 rcases h.2 with hn | ⟨g, cap, cur, hv, hgb, hg, r⟩
 ·exact .inl hn
 ·exact .inr ⟨g, cap, cur, hv, hgb, k _ _ _ hg, r⟩
end Go.Proofs.Ytjjicajodjophaa

namespace Go.Proofs.Ytjjicajodjophaa
open Go.RowKit
def wcells : List Wrt → List Value → List Value
 | f :: fs, sv :: svs => .int .i64 f.1 :: sv :: wcells fs svs
 | _, _ => []
theorem wcells_snoc : ∀ (fs : List Wrt) (svs : List Value) (f : Wrt) (sv : Value), svs.length = fs.length → wcells (fs ++ [f]) (svs ++ [sv]) = wcells fs svs ++ [.int .i64 f.1, sv]
 | [], svs, f, sv, h => by
  have : svs = [] := List.eq_nil_of_length_eq_zero (by simpa using h)
  subst this; rfl
 | g :: fs, [], f, sv, h => by simp at h
 | g :: fs, s :: svs, f, sv, h => by
  have := wcells_snoc fs svs f sv (by simpa using h)
  simp only [List.cons_append, wcells, this]
theorem wcells_at : ∀ (fs : List Wrt) (svs : List Value) (i : Nat), svs.length = fs.length → i < fs.length →
  (wcells fs svs)[i * 2]? = some (.int .i64 (fs.getD i (0, [])).1) ∧ (wcells fs svs)[i * 2 + 1]? = some (svs.getD i undef)
 | [], _, i, _, hi => by simp at hi
 | f :: fs, [], i, h, hi => by simp at h
 | f :: fs, sv :: svs, 0, h, hi => by simp [wcells]
 | f :: fs, sv :: svs, i + 1, h, hi => by
  have := wcells_at fs svs i (by simpa using h) (by simpa using hi)
  rw [show (i + 1) * 2 = i * 2 + 1 + 1 from by omega, show i * 2 + 1 + 1 + 1 = (i * 2 + 1) + 1 + 1 from rfl]
  simpa [wcells] using this
def OwnW (T B : Nat) (w : World) (v : Value) (ws : List Wrt) : Prop :=
 ∃ svs : List Value, svs.length = ws.length ∧ w.ownsRow B T 2 v ws.length (wcells ws svs) ∧ ∀ i, i < ws.length → OwnB 0 w (svs.getD i undef) (ws.getD i (0, [])).2
theorem OwnW.nil (T B : Nat) (w : World) : OwnW T B w (.slice none 0 0) [] := ⟨[], rfl, World.ownsRow_nil _ _ _ _, fun i hi => by simp at hi⟩
theorem OwnW.keepT {T B : Nat} {w w' : World} {v : Value} {ws : List Wrt} (h : OwnW T B w v ws) (k1 : KeepT 5 w w') (k2 : KeepT T w w') : OwnW T B w' v ws := by
 obtain ⟨vs, h1, h2, h3⟩ := h
 exact ⟨vs, h1, rows_keepT h2 k2, fun i hi => rows_keepT (h3 i hi) k1⟩
theorem OwnW.snoc {T B : Nat} {w w' : World} {v v' : Value} {ws : List Wrt} {f : Wrt} {sv : Value} (hT : T ≠ 5) {svs : List Value} (h1 : svs.length = ws.length) (h2 : w.ownsRow B T 2 v ws.length (wcells ws svs))
  (h3 : ∀ i, i < ws.length → OwnB 0 w (svs.getD i undef) (ws.getD i (0, [])).2) (hs : OwnB 0 w sv f.2)
  (hg : w.grownBy w' v.ownBlock) (hw : w'.ownsRow B T 2 v' (ws.length + 1) (wcells ws svs ++ [.int .i64 f.1, sv])) : OwnW T B w' v' (ws ++ [f]) := by
 refine ⟨svs ++ [sv], by simp [h1], ?_, ?_⟩
 ·rw [wcells_snoc ws svs f sv h1, List.length_append]
  exact hw
 ·intro i hi
  simp only [List.length_append, List.length_cons, List.length_nil] at hi
  by_cases hlt : i < ws.length
  ·have e1 : (svs ++ [sv]).getD i undef = svs.getD i undef := by simp [List.getD_eq_getElem?_getD, List.getElem?_append_left (show i < svs.length by omega)]
   have e2 : (ws ++ [f]).getD i (0, []) = ws.getD i (0, []) := by simp [List.getD_eq_getElem?_getD, List.getElem?_append_left hlt]
   rw [e1, e2]
   exact rows_keepT (h3 i hlt) (KeepT.grown h2 hg (Ne.symm hT))
  ·obtain rfl : i = ws.length := by omega
   have e1 : (svs ++ [sv]).getD ws.length undef = sv := by rw [← h1]; simp [List.getD_eq_getElem?_getD]
   have e2 : (ws ++ [f]).getD ws.length (0, []) = f := by simp [List.getD_eq_getElem?_getD]
   rw [e1, e2]
   exact rows_keepT hs (KeepT.grown h2 hg (Ne.symm hT))
theorem OwnW.rd {T B : Nat} {w : World} {v : Value} {ws : List Wrt} (h : OwnW T B w v ws) : RdC w v ws := by
 obtain ⟨svs, h1, h2, h3⟩ := h
 rcases h2.2 with ⟨rfl, h0⟩ | ⟨g, cap, cur, rfl, hgb, hg, hn, hm, hs, ht⟩
 ·have : ws = [] := List.eq_nil_of_length_eq_zero h0
  subst this
  exact RdS.nil _ _
 ·refine ⟨_, cap, rfl, hn, hm, (fun h => by cases h), .inr ⟨g, 0, rfl, fun i x hx => ?_⟩⟩
  have hi : i < ws.length := (List.getElem?_eq_some_iff.1 hx).1
  obtain ⟨c1, c2⟩ := wcells_at ws svs i h1 hi
  have hr := (h3 i hi).rd
  rw [getD_some hx] at c1 hr
  refine ⟨[.int .i64 x.1, svs.getD i undef], ⟨[_], [_], rfl, rfl, _, rfl, hr⟩, fun j u hj => ?_⟩
  match j, hj with
  | 0, hj =>
   simp only [List.getElem?_cons_zero, Option.some.injEq] at hj
   subst hj
   show w.cell? ⟨g, 0 + i * 2 + 0, none⟩ = _
   rw [Nat.zero_add, Nat.add_zero, h2.cellAt (i * 2) (by omega)]; exact c1
  | 1, hj =>
   simp only [List.getElem?_cons_succ, List.getElem?_cons_zero, Option.some.injEq] at hj
   subst hj
   show w.cell? ⟨g, 0 + i * 2 + 1, none⟩ = _
   rw [Nat.zero_add, h2.cellAt (i * 2 + 1) (by omega)]; exact c2
  | j + 2, hj => simp at hj
end Go.Proofs.Ytjjicajodjophaa
