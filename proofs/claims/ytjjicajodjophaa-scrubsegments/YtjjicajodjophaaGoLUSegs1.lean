/- Several texts in one: App Shp EMath ECheckR ESame EWithoutR UMath Cpy DMath UD OwnI Sub Bx CMath CFlip SMath PgMath Grow RefPut CStep CTab CExt AppZ Conv PgEncR BEq PgPA RCop RMid Tail Step DSec DRenew DOwnR DCheckR DPutR DGetR RHand DCheckP DPutP DRes DGetP FMath FLay WMath WLaid WBack WKeep WWhole WPMath FList WBase FRef FRefO FRefS WWholeR WCheckR WOwnR WPA WAppR WRcsR WSeg Keep RowW RSched FProgA FProgO UMtB Fr. -/
import Derived.Test.YtjjicajodjophaaGoLUSegs0
import Derived.Deep.AppendLies
import Derived.Deep.WholeRow
import Derived.Laws.AppendOwnNone
import Derived.BigQuiet
import Derived.Lib.AppendZeros
import Derived.Laws.CopyOwn
import Derived.Laws.IdiomStrings
import Derived.Laws.BitsAllLaws
import Derived.ArgAppend
import Derived.Test.YtjjicajodjophaaChecked
import Derived.BigRegion
import Derived.Laws.ResultCell
import Derived.Great.Walk
import Derived.Lib.AppendZerosOnto
import Derived.Lib.UnsafeStr
import Derived.Lib.SliceRun
import Derived.Lib.AppendStr
import Derived.StillTail
import Derived.OrdersHeld
import Derived.StillTailTactics
import Derived.Deep.RegionLaw
import Derived.RangeFuncNested
import Derived.RangeFuncCalls
import Derived.Laws.Rows
import Derived.RangeFuncBox
import Derived.RangeFuncBound
import Derived.RangeFuncLeaves
import Derived.Shelf.Abstract
import Derived.Shelf.RegionOpen
import Derived.OwnWalkIn
import Derived.TacticsInMore
import Derived.LoopNIn
import Derived.LoopIn
import Derived.Deep.RegionWith
import Derived.Test.YtjjicajodjophaaRows
import Derived.ProofKit
import Derived.OpenShut
import Derived.ShutString
import Derived.ChangeOld
import Derived.Below
import Derived.SizedLaws
import Derived.JoinedCond
set_option linter.unusedVariables false
set_option linter.unusedSimpArgs false
namespace Go.Proofs.Ytjjicajodjophaa
open Go.RowKit
theorem OwnB.from {B : Nat} {w : World} {v : Value} {xs : List UInt8} (h : OwnB B w v xs) : ∀ k, v.ownBlock = some k → B ≤ k := by
 intro k hk
 rcases h.2 with ⟨rfl, _⟩ | ⟨g, cap, cur, rfl, hb, _⟩
 ·cases hk
 ·simp only [Value.ownBlock, Option.some.injEq] at hk
  omega
theorem wpList_append_octs {ops : Array Oper} {rest : List Oper} {o : Oper} {a : Act} {w : World} {Q : Exit → Act → World → Prop} (hgd : o.guard = none) (s x : Operand)
  (ho : o.op = .call { callee := .builtin .append, args := #[s, x], argTypes := #[62, 62] }) (B : Nat) (v v2 : Value) (xs ys : List UInt8) (hs : a.eval s = v) (hx : a.eval x = v2)
  (hown : OwnB B w v xs) (hrd : Rd w v2 ys) (hlen : xs.length + ys.length ≤ 140737488355328) (hB : B ≤ w.heap.size)
  (h : ∀ v' w', OwnB B w' v' (xs ++ ys) → Below B w w' → w.grownBy w' v.ownBlock → wpList Try.prog ops Q rest (a.put o.dst v') w') : wpList Try.prog ops Q (o :: rest) a w := by
 obtain ⟨i0, hi, hz0, hz1, hz2⟩ := info_parts info8
 obtain ⟨ao, c, rfl, l1, m1, n1, r1⟩ := hrd
 cases ao with
 | none =>
  have : ys = [] := by
   rcases r1 with r1 | ⟨b, off, h, _⟩
   ·exact r1
   ·cases h
  subst this
  obtain rfl : c = 0 := n1 rfl
  refine wpList_append_own_none hgd s x 62 ho B 5 i0 1 Try.underlying62 hi v xs.length (xs.map enc) hs hown hx ?_
  exact h v w (by simpa using hown) (Below.refl _ _) (World.grownBy.refl _ _)
 | some ad =>
  have e1 : (ys.map enc).length = ys.length * 1 := by simp
  have e2 : ∀ j u, (ys.map enc)[j]? = some u → w.cell? (ad.add j) = some u := by
   rcases r1 with rfl | ⟨b, off, h, hc⟩
   ·intro j u hj; simp at hj
   ·obtain rfl : ad = ⟨b, off, none⟩ := by simpa using h
    exact news_octs hc
  refine wpList_append_own _ hgd s x 62 ho B 5 i0 (.int .u8 0) 1 1 Try.underlying62 hi hz0 hz1 hz2 rfl (by decide) v xs.length (xs.map enc) hs hown ad ys.length c (ys.map enc) hx e1 e2 (enc_one ys)
   (by rw [show maxLen = 9223372036854775807 from rfl]; omega) (by omega) hB ?_
  intro v' w' h1 h2 _
  refine h v' w' ?_ ((Below.refl _ _).grown h2 hB hown.from) h2
  unfold OwnB
  simpa using h1
end Go.Proofs.Ytjjicajodjophaa

namespace Go.Proofs.Ytjjicajodjophaa
open Go.RowKit
structure Shp (α : Type) where
 n : Nat
 rd : World → List Value → α → Prop
 own : List Nat → World → List Value → α → Prop
 rd_n : ∀ {w cs x}, rd w cs x → cs.length = n
 rd_to : ∀ {w w' : World} {cs x}, rd w cs x → (∀ b, b < w.heap.size → w'.heap[b]? = w.heap[b]?) → rd w' cs x
 rd_one : ∀ {w cs x}, rd w cs x → ∀ u ∈ cs, u.oneCell' = true
 own_rd : ∀ {F w cs x}, own F w cs x → rd w cs x
 own_to : ∀ {F} {w w' : World} {cs x}, own F w cs x → (∀ b, b ∈ F → w'.heap[b]? = w.heap[b]?) → own F w' cs x
 own_lt : ∀ {F w cs x}, own F w cs x → ∀ b, b ∈ F → b < w.heap.size
def Own {α : Type} (s : Shp α) (B : Nat) (w : World) (cs : List Value) (x : α) : Prop := ∃ F, s.own F w cs x ∧ F.Nodup ∧ ∀ b, b ∈ F → B ≤ b
theorem boxed2 (w : World) (x y : Value) (t : TypeId) : ∃ u, u = w.alloc (.cells #[x, y] t) ∧ u.cell? ⟨w.heap.size, 0, none⟩ = some x ∧ u.cell? ⟨w.heap.size, 1, none⟩ = some y ∧ Below w.heap.size w u ∧ u.heap.size = w.heap.size + 1 := by
 refine ⟨_, rfl, ?_, ?_, (Below.refl _ _).alloc (Nat.le_refl _) _, by simp⟩
 ·rw [cell_of_row _ _ 0 _ _ (0, 0) (heap_alloc_last w _)]; rfl
 ·rw [cell_of_row _ _ 1 _ _ (0, 0) (heap_alloc_last w _)]; rfl
theorem own_set {B : Nat} {w : World} {v : Value} {xs : List UInt8} (h : OwnB B w v xs) {g : Nat} (hg : g < B) (i : Nat) (x : Value) : OwnB B (w.setCell ⟨g, i, none⟩ x) v xs := by
 refine ⟨h.1, ?_⟩
 rcases h.2 with hn | ⟨g', cap, cur, hv, hb, hgg, r⟩
 ·exact .inl hn
 ·refine .inr ⟨g', cap, cur, hv, hb, ?_, r⟩
  rw [← hgg]
  simp [World.setCell, Array.getElem?_modify, show ¬ g = g' by omega]
theorem heap_set2 {u : World} {g : Nat} {a b : Value} {t : TypeId} {fr : Nat × Nat} (h : u.heap[g]? = some (.cells #[a, b] t fr)) (x y : Value) : ((u.setCell ⟨g, 0, none⟩ x).setCell ⟨g, 1, none⟩ y).heap[g]? = some (.cells #[x, y] t fr) := by
 simp [World.setCell, Array.getElem?_modify, h]
theorem below_set2 {B : Nat} {w u : World} (h : Below B w u) {g : Nat} (hg : B ≤ g) (x y : Value) : Below B w ((u.setCell ⟨g, 0, none⟩ x).setCell ⟨g, 1, none⟩ y) :=
 (h.setCell (p := ⟨g, 0, none⟩) hg x).setCell (p := ⟨g, 1, none⟩) hg y
section
variable {α β : Type}
theorem Shp.to (s : Shp α) {w w' : World} {cs : List Value} {x : α} (h : s.rd w cs x) {B : Nat} (hB : w.heap.size ≤ B) (hb : Below B w w') : s.rd w' cs x :=
 s.rd_to h fun b hb' => hb.block b (by omega)
theorem Shp.to0 (s : Shp α) {w w' : World} {cs : List Value} {x : α} (h : s.rd w cs x) (hb : Below w.heap.size w w') : s.rd w' cs x := s.to h (Nat.le_refl _) hb
theorem Own.rd {s : Shp α} {B : Nat} {w : World} {cs : List Value} {x : α} (h : Own s B w cs x) : s.rd w cs x := let ⟨_, h, _⟩ := h; s.own_rd h
theorem Own.mono {s : Shp α} {B C : Nat} {w : World} {cs : List Value} {x : α} (h : Own s B w cs x) (hC : C ≤ B) : Own s C w cs x :=
 let ⟨F, h1, h2, h3⟩ := h; ⟨F, h1, h2, fun b hb => Nat.le_trans hC (h3 b hb)⟩
theorem Own.below {s : Shp α} {B C : Nat} {w w' : World} {cs : List Value} {x : α} (h : Own s B w cs x) (hC : w.heap.size ≤ C) (hb : Below C w w') : Own s B w' cs x :=
 let ⟨F, h1, h2, h3⟩ := h; ⟨F, s.own_to h1 fun b hb' => hb.block b (by have := s.own_lt h1 b hb'; omega), h2, h3⟩
theorem Own.to {s : Shp α} {B : Nat} {w w' : World} {cs : List Value} {x : α} (h : Own s B w cs x) (hb : Below w.heap.size w w') : Own s B w' cs x := h.below (Nat.le_refl _) hb
theorem Own.grown {s : Shp α} {B : Nat} {w w' : World} {row : Option Nat} {cs : List Value} {x : α} (h : Own s B w cs x) (hg : w.grownBy w' row) (hr : ∀ k, row = some k → k < B) : Own s B w' cs x :=
 let ⟨F, h1, h2, h3⟩ := h; ⟨F, s.own_to h1 fun b hb' => hg.block b (s.own_lt h1 b hb') (fun e => by have := hr b e.symm; have := h3 b hb'; omega), h2, h3⟩
theorem Own.set {s : Shp α} {B : Nat} {w : World} {cs : List Value} {x : α} (h : Own s B w cs x) {a : Addr} (ha : a.block < B) (u : Value) : Own s B (w.setCell a u) cs x :=
 let ⟨F, h1, h2, h3⟩ := h; ⟨F, s.own_to h1 fun b hb' => Below.heap_setCell _ _ _ _ (fun e => by have := h3 b hb'; omega), h2, h3⟩
def Shp.int (k : IntKind) : Shp Int where
 n := 1
 rd _ cs x := cs = [.int k x]
 own F _ cs x := F = [] ∧ cs = [.int k x]
 rd_n h := by rw [h]; rfl
 rd_to h _ := h
 rd_one h u hu := by rw [h] at hu; simp at hu; subst hu; rfl
 own_rd h := h.2
 own_to h _ := h
 own_lt h b hb := by rw [h.1] at hb; cases hb
def Shp.bool : Shp Bool where
 n := 1
 rd _ cs x := cs = [.bool x]
 own F _ cs x := F = [] ∧ cs = [.bool x]
 rd_n h := by rw [h]; rfl
 rd_to h _ := h
 rd_one h u hu := by rw [h] at hu; simp at hu; subst hu; rfl
 own_rd h := h.2
 own_to h _ := h
 own_lt h b hb := by rw [h.1] at hb; cases hb
def Shp.octs : Shp (List UInt8) where
 n := 1
 rd w cs x := ∃ v, cs = [v] ∧ Rd w v x
 own F w cs x := ∃ v, cs = [v] ∧ OwnB 0 w v x ∧ F = v.ownBlock.toList
 rd_n h := by obtain ⟨v, rfl, _⟩ := h; rfl
 rd_to := by
  rintro w w' cs x ⟨v, rfl, ao, cap, rfl, h1, h2, h3, h4⟩ hb
  refine ⟨_, rfl, ao, cap, rfl, h1, h2, h3, ?_⟩
  rcases h4 with h4 | ⟨b, off, rfl, hc⟩
  ·exact .inl h4
  ·refine .inr ⟨b, off, rfl, fun i hi => ?_⟩
   have := hc i hi
   rw [World.cell?_of_block (w := w) (hb b (cell_lt this))]
   exact this
 rd_one := by
  rintro w cs x ⟨v, rfl, h⟩ u hu
  obtain ⟨ao, cap, rfl⟩ := h.slice
  simp at hu; subst hu; rfl
 own_rd := by rintro F w cs x ⟨v, rfl, h, _⟩; exact ⟨v, rfl, h.rd⟩
 own_to := by
  rintro F w w' cs x ⟨v, rfl, h, rfl⟩ hb
  refine ⟨v, rfl, ⟨h.1, ?_⟩, rfl⟩
  rcases h.2 with h2 | ⟨g, cap, cur, rfl, h0, hg, r⟩
  ·exact .inl h2
  ·exact .inr ⟨g, cap, cur, rfl, h0, (hb g (by simp [Value.ownBlock])).trans hg, r⟩
 own_lt := by
  rintro F w cs x ⟨v, rfl, h, rfl⟩ b hb
  exact (World.ownsRow.lt h b (by simpa using hb)).2
theorem OwnB.toOwn {B : Nat} {w : World} {v : Value} {xs : List UInt8} (h : OwnB B w v xs) : Own Shp.octs B w [v] xs := by
 refine ⟨v.ownBlock.toList, ⟨v, rfl, h.mono (Nat.zero_le _), rfl⟩, ?_, fun b hb => (World.ownsRow.lt h b (by simpa using hb)).1⟩
 cases v.ownBlock <;> simp
def Shp.pair (s : Shp α) (t : Shp β) : Shp (α × β) where
 n := s.n + t.n
 rd w cs x := ∃ c d, cs = c ++ d ∧ s.rd w c x.1 ∧ t.rd w d x.2
 own F w cs x := ∃ c d G H, cs = c ++ d ∧ F = G ++ H ∧ s.own G w c x.1 ∧ t.own H w d x.2
 rd_n := by rintro w cs x ⟨c, d, rfl, h1, h2⟩; rw [List.length_append, s.rd_n h1, t.rd_n h2]
 rd_to := by rintro w w' cs x ⟨c, d, rfl, h1, h2⟩ hb; exact ⟨c, d, rfl, s.rd_to h1 hb, t.rd_to h2 hb⟩
 rd_one := by
  rintro w cs x ⟨c, d, rfl, h1, h2⟩ u hu
  rcases List.mem_append.1 hu with h | h
  ·exact s.rd_one h1 u h
  ·exact t.rd_one h2 u h
 own_rd := by rintro F w cs x ⟨c, d, G, H, rfl, rfl, h1, h2⟩; exact ⟨c, d, rfl, s.own_rd h1, t.own_rd h2⟩
 own_to := by
  rintro F w w' cs x ⟨c, d, G, H, rfl, rfl, h1, h2⟩ hb
  exact ⟨c, d, G, H, rfl, rfl, s.own_to h1 fun b h => hb b (List.mem_append_left _ h), t.own_to h2 fun b h => hb b (List.mem_append_right _ h)⟩
 own_lt := by
  rintro F w cs x ⟨c, d, G, H, rfl, rfl, h1, h2⟩ b hb
  rcases List.mem_append.1 hb with h | h
  ·exact s.own_lt h1 b h
  ·exact t.own_lt h2 b h
theorem Own.pair {s : Shp α} {t : Shp β} {B C : Nat} {w w' : World} {c d : List Value} {x : α} {y : β} (h1 : Own s B w c x) (hb : Below w.heap.size w w') (h2 : Own t C w' d y) (hC : w.heap.size ≤ C) (hBC : B ≤ C) : Own (s.pair t) B w' (c ++ d) (x, y) := by
 obtain ⟨F, a1, a2, a3⟩ := h1
 obtain ⟨G, b1, b2, b3⟩ := h2
 refine ⟨F ++ G, ⟨c, d, F, G, rfl, rfl, s.own_to a1 fun b hb' => hb.block b (s.own_lt a1 b hb'), b1⟩, ?_, ?_⟩
 ·refine List.nodup_append.2 ⟨a2, b2, fun x hx y hy e => ?_⟩
  have q1 := s.own_lt a1 x hx
  have q2 := b3 y hy
  omega
 ·intro b hb'
  rcases List.mem_append.1 hb' with h | h
  ·exact a3 b h
  ·have := b3 b h; omega
def ownEach (s : Shp α) (w : World) : List Nat → List Value → List α → Prop
 | F, cc, [] => F = [] ∧ cc = []
 | F, cc, x :: xs => ∃ F1 F2 c1 c2, F = F1 ++ F2 ∧ cc = c1 ++ c2 ∧ s.own F1 w c1 x ∧ ownEach s w F2 c2 xs
theorem ownEach_to {s : Shp α} {w w' : World} : ∀ {xs : List α} {F cc}, ownEach s w F cc xs → (∀ b, b ∈ F → w'.heap[b]? = w.heap[b]?) → ownEach s w' F cc xs
 | [], F, cc, h, _ => h
 | x :: xs, F, cc, ⟨F1, F2, c1, c2, e1, e2, h1, h2⟩, hb => ⟨F1, F2, c1, c2, e1, e2, s.own_to h1 fun b h => hb b (by rw [e1]; exact List.mem_append_left _ h), ownEach_to h2 fun b h => hb b (by rw [e1]; exact List.mem_append_right _ h)⟩
theorem ownEach_lt {s : Shp α} {w : World} : ∀ {xs : List α} {F cc}, ownEach s w F cc xs → ∀ b, b ∈ F → b < w.heap.size
 | [], F, cc, h, b, hb => by rw [h.1] at hb; cases hb
 | x :: xs, F, cc, ⟨F1, F2, c1, c2, e1, e2, h1, h2⟩, b, hb => by
  rw [e1] at hb
  rcases List.mem_append.1 hb with h | h
  ·exact s.own_lt h1 b h
  ·exact ownEach_lt h2 b h
theorem ownEach_app {s : Shp α} {w : World} : ∀ {xs ys : List α} {F G cc dd}, ownEach s w F cc xs → ownEach s w G dd ys → ownEach s w (F ++ G) (cc ++ dd) (xs ++ ys)
 | [], ys, F, G, cc, dd, h, k => by obtain ⟨rfl, rfl⟩ := h; exact k
 | x :: xs, ys, F, G, cc, dd, ⟨F1, F2, c1, c2, e1, e2, h1, h2⟩, k => ⟨F1, F2 ++ G, c1, c2 ++ dd, by rw [e1, List.append_assoc], by rw [e2, List.append_assoc], h1, ownEach_app h2 k⟩
theorem ownEach_one {s : Shp α} {w : World} {F c} {x : α} (h : s.own F w c x) : ownEach s w F c [x] := ⟨F, [], c, [], by simp, by simp, h, rfl, rfl⟩
theorem ownEach_at {s : Shp α} {w : World} : ∀ {xs : List α} {F cc} (i : Nat) (x : α), ownEach s w F cc xs → xs[i]? = some x →
  ∃ F1 F2 F3 c1 c2 c3, F = F1 ++ (F2 ++ F3) ∧ cc = c1 ++ (c2 ++ c3) ∧ c1.length = i * s.n ∧ ownEach s w F1 c1 (xs.take i) ∧ s.own F2 w c2 x ∧ ownEach s w F3 c3 (xs.drop (i + 1))
 | [], F, cc, i, x, h, hx => by simp at hx
 | y :: xs, F, cc, 0, x, ⟨F1, F2, c1, c2, e1, e2, h1, h2⟩, hx => by
  simp at hx; subst hx
  exact ⟨[], F1, F2, [], c1, c2, e1, e2, by simp, ⟨rfl, rfl⟩, h1, h2⟩
 | y :: xs, F, cc, i + 1, x, ⟨F1, F2, c1, c2, e1, e2, h1, h2⟩, hx => by
  obtain ⟨G1, G2, G3, d1, d2, d3, rfl, rfl, hl, k1, k2, k3⟩ := ownEach_at i x h2 (by simpa using hx)
  refine ⟨F1 ++ G1, G2, G3, c1 ++ d1, d2, d3, by rw [e1, List.append_assoc], by rw [e2, List.append_assoc], ?_, ⟨F1, G1, c1, d1, rfl, rfl, h1, k1⟩, k2, k3⟩
  rw [List.length_append, hl, s.rd_n (s.own_rd h1), Nat.add_mul, Nat.one_mul, Nat.add_comm]
def RdS (s : Shp α) (w : World) (v : Value) (xs : List α) : Prop :=
 ∃ ao cap, v = .slice ao xs.length cap ∧ xs.length ≤ cap ∧ cap ≤ maxLen ∧ (ao = none → cap = 0) ∧
  (xs = [] ∨ ∃ b off, ao = some ⟨b, off, none⟩ ∧ ∀ i x, xs[i]? = some x → ∃ c, s.rd w c x ∧ ∀ j u, c[j]? = some u → w.cell? ⟨b, off + i * s.n + j, none⟩ = some u)
theorem RdS.slice {s : Shp α} {w : World} {v : Value} {xs : List α} (h : RdS s w v xs) : ∃ ao cap, v = .slice ao xs.length cap := by
 obtain ⟨ao, cap, rfl, _⟩ := h; exact ⟨_, _, rfl⟩
theorem RdS.to {s : Shp α} {w w' : World} {v : Value} {xs : List α} (h : RdS s w v xs) {B : Nat} (hB : w.heap.size ≤ B) (hb : Below B w w') : RdS s w' v xs := by
 obtain ⟨ao, cap, rfl, h1, h2, h3, h4⟩ := h
 refine ⟨ao, cap, rfl, h1, h2, h3, ?_⟩
 rcases h4 with h4 | ⟨b, off, rfl, hc⟩
 ·exact .inl h4
 ·refine .inr ⟨b, off, rfl, fun i x hx => ?_⟩
  obtain ⟨c, k1, k2⟩ := hc i x hx
  refine ⟨c, s.to k1 hB hb, fun j u hj => ?_⟩
  have := k2 j u hj
  rw [hb.cell (p := ⟨b, off + i * s.n + j, none⟩) (by have := cell_lt this; show b < B; omega)]
  exact this
theorem RdS.to0 {s : Shp α} {w w' : World} {v : Value} {xs : List α} (h : RdS s w v xs) (hb : Below w.heap.size w w') : RdS s w' v xs := h.to (Nat.le_refl _) hb
theorem RdS.nil (s : Shp α) (w : World) : RdS s w (.slice none 0 0) [] := ⟨none, 0, rfl, Nat.le_refl _, Nat.zero_le _, fun _ => rfl, .inl rfl⟩
theorem RdS.bd {s : Shp α} {w : World} {v : Value} {xs : List α} (h : RdS s w v xs) : xs.length ≤ 9223372036854775807 := by
 obtain ⟨ao, cap, rfl, h1, h2, _⟩ := h
 rw [show maxLen = 9223372036854775807 from rfl] at h2
 omega
theorem RdS.at1 {s : Shp α} (hs : s.n = 1) {w : World} {a : Option Addr} {n cap : Nat} {xs : List α} (h : RdS s w (.slice a n cap) xs) {i : Nat} {x : α} (hx : xs[i]? = some x) :
  ∃ b off u, a = some ⟨b, off, none⟩ ∧ w.cell? ⟨b, off + i, none⟩ = some u ∧ s.rd w [u] x := by
 obtain ⟨ao, c, e, h1, h2, h3, h4⟩ := h
 cases e
 rcases h4 with rfl | ⟨b, off, rfl, hc⟩
 ·simp at hx
 ·obtain ⟨c, k1, k2⟩ := hc i x hx
  have := s.rd_n k1
  rw [hs] at this k2
  match c, this with
  | [u], _ =>
   have := k2 0 u rfl
   rw [Nat.mul_one, Nat.add_zero] at this
   exact ⟨b, off, u, rfl, this, k1⟩
theorem RdS.at2 {s : Shp α} {t : Shp β} (hs : s.n = 1) (ht : t.n = 1) {w : World} {a : Option Addr} {n cap : Nat} {xs : List (α × β)} (h : RdS (s.pair t) w (.slice a n cap) xs) {i : Nat} {x : α × β} (hx : xs[i]? = some x) :
  ∃ b off u v, a = some ⟨b, off, none⟩ ∧ w.cell? ⟨b, off + i * 2, none⟩ = some u ∧ w.cell? ⟨b, off + i * 2 + 1, none⟩ = some v ∧ s.rd w [u] x.1 ∧ t.rd w [v] x.2 := by
 obtain ⟨ao, c, e, h1, h2, h3, h4⟩ := h
 cases e
 rcases h4 with rfl | ⟨b, off, rfl, hc⟩
 ·simp at hx
 ·obtain ⟨c, ⟨c1, c2, rfl, k1, k3⟩, k2⟩ := hc i x hx
  have e1 := s.rd_n k1
  have e2 := t.rd_n k3
  rw [show (s.pair t).n = 2 from by show s.n + t.n = 2; omega] at k2
  rw [hs] at e1
  rw [ht] at e2
  match c1, e1, c2, e2 with
  | [u], _, [v], _ => exact ⟨b, off, u, v, rfl, by simpa using k2 0 u rfl, by simpa using k2 1 v rfl, k1, k3⟩
theorem rows_at {w : World} {T n : Nat} {v : Value} {m : Nat} {cc : List Value} (h : w.ownsRow 0 T n v m cc) {g : Nat} {cap : Nat} (hv : v = .slice (some ⟨g, 0, none⟩) m cap) {j : Nat} {u : Value} (hj : cc[j]? = some u) : w.cell? ⟨g, j, none⟩ = some u := by
 subst hv
 rw [h.cellAt j (by rw [← h.1]; exact (List.getElem?_eq_some_iff.1 hj).1)]
 exact hj
def Shp.list (T : Nat) (s : Shp α) : Shp (List α) where
 n := 1
 rd w cs xs := ∃ v, cs = [v] ∧ RdS s w v xs
 own F w cs xs := ∃ v cc G, cs = [v] ∧ w.ownsRow 0 T s.n v xs.length cc ∧ ownEach s w G cc xs ∧ F = v.ownBlock.toList ++ G
 rd_n := by rintro w cs x ⟨v, rfl, _⟩; rfl
 rd_to := by
  rintro w w' cs xs ⟨v, rfl, ao, cap, rfl, h1, h2, h3, h4⟩ hb
  refine ⟨_, rfl, ao, cap, rfl, h1, h2, h3, ?_⟩
  rcases h4 with h4 | ⟨b, off, rfl, hc⟩
  ·exact .inl h4
  ·refine .inr ⟨b, off, rfl, fun i x hx => ?_⟩
   obtain ⟨c, k1, k2⟩ := hc i x hx
   refine ⟨c, s.rd_to k1 hb, fun j u hj => ?_⟩
   have := k2 j u hj
   rw [World.cell?_of_block (w := w) (hb b (cell_lt this))]
   exact this
 rd_one := by
  rintro w cs x ⟨v, rfl, h⟩ u hu
  obtain ⟨ao, cap, rfl⟩ := h.slice
  simp at hu; subst hu; rfl
 own_rd := by
  rintro F w cs xs ⟨v, cc, G, rfl, h1, h2, _⟩
  refine ⟨v, rfl, ?_⟩
  rcases h1.2 with ⟨rfl, h0⟩ | ⟨g, cap, cur, hv, hb, hg, hn, hm, _⟩
  ·rw [List.eq_nil_of_length_eq_zero h0]
   exact ⟨none, 0, rfl, Nat.le_refl _, Nat.zero_le _, fun _ => rfl, .inl rfl⟩
  ·refine ⟨_, cap, hv, hn, hm, (fun h => by cases h), .inr ⟨g, 0, rfl, fun i x hx => ?_⟩⟩
   obtain ⟨F1, F2, F3, c1, c2, c3, _, e2, hl, _, k2, _⟩ := ownEach_at i x h2 hx
   refine ⟨c2, s.own_rd k2, fun j u hj => ?_⟩
   rw [Nat.zero_add]
   refine rows_at h1 hv ?_
   have hjl : j < c2.length := (List.getElem?_eq_some_iff.1 hj).1
   rw [e2, ← hl, List.getElem?_append_right (by omega), Nat.add_sub_cancel_left, List.getElem?_append_left hjl]
   exact hj
 own_to := by
  rintro F w w' cs xs ⟨v, cc, G, rfl, h1, h2, rfl⟩ hb
  refine ⟨v, cc, G, rfl, ⟨h1.1, ?_⟩, ownEach_to h2 fun b h => hb b (List.mem_append_right _ h), rfl⟩
  rcases h1.2 with h | ⟨g, cap, cur, rfl, h0, hg, r⟩
  ·exact .inl h
  ·exact .inr ⟨g, cap, cur, rfl, h0, (hb g (by simp [Value.ownBlock])).trans hg, r⟩
 own_lt := by
  rintro F w cs xs ⟨v, cc, G, rfl, h1, h2, rfl⟩ b hb
  rcases List.mem_append.1 hb with h | h
  ·exact (World.ownsRow.lt h1 b (by simpa using h)).2
  ·exact ownEach_lt h2 b h
theorem Own.rdS {T : Nat} {s : Shp α} {B : Nat} {w : World} {v : Value} {xs : List α} (h : Own (Shp.list T s) B w [v] xs) : RdS s w v xs := by
 obtain ⟨v', e, r⟩ := h.rd
 simp at e; subst e; exact r
theorem Own.nil (T : Nat) (s : Shp α) (B : Nat) (w : World) : Own (Shp.list T s) B w [.slice none 0 0] [] :=
 ⟨[], ⟨_, [], [], rfl, World.ownsRow_nil _ _ _ _, ⟨rfl, rfl⟩, by simp [Value.ownBlock]⟩, List.nodup_nil, fun b hb => by cases hb⟩
theorem rows_base {w : World} {T n B C : Nat} {v : Value} {m : Nat} {cc : List Value} (h : w.ownsRow B T n v m cc) (hC : ∀ b, v.ownBlock = some b → C ≤ b) : w.ownsRow C T n v m cc := by
 refine ⟨h.1, ?_⟩
 rcases h.2 with h2 | ⟨g, cap, cur, rfl, h0, r⟩
 ·exact .inl h2
 ·exact .inr ⟨g, cap, cur, rfl, hC g rfl, r⟩
theorem Own.cap (T : Nat) (s : Shp α) {B : Nat} {w : World} {v : Value} (h : w.ownsRow B T s.n v 0 []) : Own (Shp.list T s) B w [v] [] := by
 refine ⟨v.ownBlock.toList, ⟨v, [], [], rfl, rows_base h fun _ _ => Nat.zero_le _, ⟨rfl, rfl⟩, by simp⟩, ?_, fun b hb => (World.ownsRow.lt h b (by simpa using hb)).1⟩
 cases v.ownBlock <;> simp
def OwnF (s : Shp α) (F : List Nat) (w : World) (cs : List Value) (x : α) : Prop := s.own F w cs x ∧ F.Nodup
theorem OwnF.own {s : Shp α} {F : List Nat} {B : Nat} {w : World} {cs : List Value} {x : α} (h : OwnF s F w cs x) (hB : ∀ b, b ∈ F → B ≤ b) : Own s B w cs x := ⟨F, h.1, h.2, hB⟩
theorem Own.foot {s : Shp α} {B : Nat} {w : World} {cs : List Value} {x : α} (h : Own s B w cs x) : ∃ F, OwnF s F w cs x ∧ ∀ b, b ∈ F → B ≤ b := let ⟨F, h1, h2, h3⟩ := h; ⟨F, ⟨h1, h2⟩, h3⟩
theorem OwnF.rd {s : Shp α} {F : List Nat} {w : World} {cs : List Value} {x : α} (h : OwnF s F w cs x) : s.rd w cs x := s.own_rd h.1
theorem OwnF.lt {s : Shp α} {F : List Nat} {w : World} {cs : List Value} {x : α} (h : OwnF s F w cs x) : ∀ b, b ∈ F → b < w.heap.size := s.own_lt h.1
theorem OwnF.keep {s : Shp α} {F : List Nat} {w w' : World} {cs : List Value} {x : α} (h : OwnF s F w cs x) (hb : ∀ b, b ∈ F → w'.heap[b]? = w.heap[b]?) : OwnF s F w' cs x := ⟨s.own_to h.1 hb, h.2⟩
theorem OwnF.to {s : Shp α} {F : List Nat} {w w' : World} {cs : List Value} {x : α} (h : OwnF s F w cs x) (hb : Below w.heap.size w w') : OwnF s F w' cs x := h.keep fun b hb' => hb.block b (h.lt b hb')
theorem OwnF.set {s : Shp α} {F : List Nat} {w : World} {cs : List Value} {x : α} (h : OwnF s F w cs x) {a : Addr} (ha : a.block ∉ F) (u : Value) : OwnF s F (w.setCell a u) cs x :=
 h.keep fun b hb' => Below.heap_setCell _ _ _ _ (fun e => ha (by rw [← e]; exact hb'))
theorem OwnF.split {s : Shp α} {t : Shp β} {F : List Nat} {w : World} {c d : List Value} {z : α × β} (h : OwnF (s.pair t) F w (c ++ d) z) (hc : c.length = s.n) :
  ∃ F1 F2, F = F1 ++ F2 ∧ OwnF s F1 w c z.1 ∧ OwnF t F2 w d z.2 ∧ ∀ b, b ∈ F1 → b ∉ F2 := by
 obtain ⟨⟨c', d', G, H, e, rfl, h1, h2⟩, hn⟩ := h
 have hl := s.rd_n (s.own_rd h1)
 obtain ⟨rfl, rfl⟩ := List.append_inj e (by rw [hc, hl])
 have := List.nodup_append.1 hn
 exact ⟨G, H, rfl, ⟨h1, this.1⟩, ⟨h2, this.2.1⟩, fun b hb hb' => this.2.2 b hb b hb' rfl⟩
theorem OwnF.join {s : Shp α} {t : Shp β} {F1 F2 : List Nat} {w : World} {c d : List Value} {x : α} {y : β} (h1 : OwnF s F1 w c x) (h2 : OwnF t F2 w d y) (hd : ∀ b, b ∈ F1 → b ∉ F2) : OwnF (s.pair t) (F1 ++ F2) w (c ++ d) (x, y) :=
 ⟨⟨c, d, F1, F2, rfl, rfl, h1.1, h2.1⟩, List.nodup_append.2 ⟨h1.2, h2.2, fun a ha b hb e => hd a ha (by rw [e]; exact hb)⟩⟩
theorem OwnF.grow {T : Nat} {s : Shp α} {F : List Nat} {w : World} {v : Value} {xs : List α} (h : OwnF (Shp.list T s) F w [v] xs) :
  ∃ cc, w.ownsRow 0 T s.n v xs.length cc ∧ (∀ b, v.ownBlock = some b → b ∈ F) ∧ ∀ (w1 w2 w3 : World) (c : List Value) (x : α) (g cap : Nat), Below w.heap.size w w1 → Own s w.heap.size w1 c x → Below w1.heap.size w1 w2 → w2.grownBy w3 v.ownBlock →
   w3.ownsRow 0 T s.n (.slice (some ⟨g, 0, none⟩) (xs.length + 1) cap) (xs.length + 1) (cc ++ c) → (v.ownBlock = some g ∨ g = w2.heap.size) →
   ∃ F', OwnF (Shp.list T s) F' w3 [.slice (some ⟨g, 0, none⟩) (xs.length + 1) cap] (xs ++ [x]) ∧ ∀ b, b ∈ F' → b ∈ F ∨ w.heap.size ≤ b := by
 obtain ⟨⟨v', cc, G, e, h1, h2, rfl⟩, hn⟩ := h
 simp at e; subst e
 refine ⟨cc, h1, fun b hb => by simp [hb], ?_⟩
 intro w1 w2 w3 c x g cap b1 he b2 hg hr hat
 obtain ⟨F2, k1, k2, k3⟩ := he
 have lt1 := ownEach_lt h2
 have hn' := List.nodup_append.1 hn
 have ng : g ∉ G := by
  intro hgG
  rcases hat with hat | rfl
  ·exact hn'.2.2 g (by simp [hat]) g hgG rfl
  ·have := lt1 _ hgG; have := b1.size; have := b2.size; omega
 have ng2 : g ∉ F2 := by
  intro hgF
  have q := k3 g hgF
  rcases hat with hat | rfl
  ·have := (World.ownsRow.lt h1 g hat).2; omega
  ·have := s.own_lt k1 _ hgF; have := b2.size; omega
 refine ⟨(g :: (G ++ F2)), ⟨⟨_, cc ++ c, G ++ F2, rfl, ?_, ?_, rfl⟩, ?_⟩, ?_⟩
 ·rw [List.length_append]; exact hr
 ·refine ownEach_app (ownEach_to h2 fun b hb => ?_) (ownEach_one (s.own_to k1 fun b hb => ?_))
  ·rw [hg.block b (by have := lt1 b hb; have := b1.size; have := b2.size; omega) (fun e => hn'.2.2 b (by simp [← e]) b hb rfl), b2.block b (by have := lt1 b hb; have := b1.size; omega), b1.block b (lt1 b hb)]
  ·rw [hg.block b (by have := s.own_lt k1 b hb; have := b2.size; omega) (fun e => by have := (World.ownsRow.lt h1 b e.symm).2; have := k3 b hb; omega), b2.block b (s.own_lt k1 b hb)]
 ·refine List.nodup_cons.2 ⟨fun hm => ?_, List.nodup_append.2 ⟨hn'.2.1, k2, fun a ha b hb e => ?_⟩⟩
  ·rcases List.mem_append.1 hm with q | q
   ·exact ng q
   ·exact ng2 q
  ·have := lt1 a ha; have := k3 b hb; omega
 ·intro b hb
  rcases List.mem_cons.1 hb with rfl | hb
  ·rcases hat with hat | rfl
   ·left; simp [hat]
   ·right; have := b1.size; have := b2.size; omega
  ·rcases List.mem_append.1 hb with q | q
   ·left; simp [q]
   ·right; exact k3 b q
theorem OwnF.growFst {γ : Type} {T : Nat} {s : Shp α} {r : Shp γ} {F : List Nat} {w : World} {c0 : List Value} {v : Value} {a : γ} {xs : List α} (h : OwnF ((Shp.list T s).pair r) F w ([v] ++ c0) (xs, a)) :
  ∃ cc, w.ownsRow 0 T s.n v xs.length cc ∧ (∀ b, v.ownBlock = some b → b ∈ F) ∧ ∀ (w1 w2 w3 : World) (c : List Value) (x : α) (g cap : Nat), Below w.heap.size w w1 → Own s w.heap.size w1 c x → Below w1.heap.size w1 w2 → w2.grownBy w3 v.ownBlock →
   w3.ownsRow 0 T s.n (.slice (some ⟨g, 0, none⟩) (xs.length + 1) cap) (xs.length + 1) (cc ++ c) → (v.ownBlock = some g ∨ g = w2.heap.size) →
   ∃ F', OwnF ((Shp.list T s).pair r) F' w3 ([.slice (some ⟨g, 0, none⟩) (xs.length + 1) cap] ++ c0) (xs ++ [x], a) ∧ ∀ b, b ∈ F' → b ∈ F ∨ w.heap.size ≤ b := by
 obtain ⟨F1, F2, rfl, h1, h2, hd⟩ := h.split rfl
 obtain ⟨cc, k1, k2, k3⟩ := h1.grow
 refine ⟨cc, k1, fun b hb => by simp [k2 b hb], ?_⟩
 intro w1 w2 w3 c x g cap b1 he b2 hg hr hat
 obtain ⟨F', o1, o2⟩ := k3 w1 w2 w3 c x g cap b1 he b2 hg hr hat
 refine ⟨F' ++ F2, OwnF.join o1 (h2.keep fun b hb => ?_) (fun b hb hb' => ?_), fun b hb => ?_⟩
 ·have := h2.lt b hb
  have := b1.size
  rw [hg.block b (by have := b2.size; omega) (fun e => hd b (k2 b e.symm) hb), b2.block b (by omega), b1.block b (h2.lt b hb)]
 ·rcases o2 b hb with q | q
  ·exact hd b q hb'
  ·have := h2.lt b hb'; omega
 ·rcases List.mem_append.1 hb with q | q
  ·rcases o2 b q with q | q
   ·left; simp [q]
   ·right; exact q
  ·left; simp [q]
theorem rows_to {w w' : World} {B T n : Nat} {v : Value} {m : Nat} {cc : List Value} (h : w.ownsRow B T n v m cc) (hb : Below w.heap.size w w') : w'.ownsRow B T n v m cc := by
 refine ⟨h.1, ?_⟩
 rcases h.2 with h2 | ⟨g, cap, cur, e, h0, hg, r⟩
 ·exact .inl h2
 ·exact .inr ⟨g, cap, cur, e, h0, (hb.block g (lt_of_block hg)).trans hg, r⟩
theorem lit_of {T n : Nat} {s : Shp α} {F : List Nat} {w : World} {v : Value} {cc : List Value} {R : World → List Nat → Value → α → Prop} (hrow : w.ownsRow 0 T s.n v n cc) (hm : ∀ b, v.ownBlock = some b → b ∈ F)
  (k3 : ∀ (w1 w2 w3 : World) (c : List Value) (x : α) (g cap : Nat), Below w.heap.size w w1 → Own s w.heap.size w1 c x → Below w1.heap.size w1 w2 → w2.grownBy w3 v.ownBlock →
   w3.ownsRow 0 T s.n (.slice (some ⟨g, 0, none⟩) (n + 1) cap) (n + 1) (cc ++ c) → (v.ownBlock = some g ∨ g = w2.heap.size) → ∃ F', R w3 F' (.slice (some ⟨g, 0, none⟩) (n + 1) cap) x ∧ ∀ b, b ∈ F' → b ∈ F ∨ w.heap.size ≤ b) :
  (∀ u, Below w.heap.size w u → u.ownsRow 0 T s.n v n cc) ∧ ∀ (w2 : World) (c : List Value) (x : α) (T' : Nat) (w3 w5 : World) (g cap : Nat), Below w.heap.size w w2 → Own s w.heap.size w2 c x → w3.heap = (w2.alloc (.cells c.toArray T')).heap → w3.os = w2.os → w3.tape = w2.tape → w3.output = w2.output → w3.grownBy w5 v.ownBlock →
   w5.ownsRow 0 T s.n (.slice (some ⟨g, 0, none⟩) (n + 1) cap) (n + 1) (cc ++ c) → (v.ownBlock = some g ∨ g = w2.heap.size + 1) →
   (∃ F', R w5 F' (.slice (some ⟨g, 0, none⟩) (n + 1) cap) x ∧ ∀ b, b ∈ F' → b ∈ F ∨ w.heap.size ≤ b) ∧ (∀ B, (∀ b, b ∈ F → B ≤ b) → B ≤ w.heap.size → Below B w w5) ∧ ∀ b, b < w.heap.size → b ∉ F → w5.heap[b]? = w.heap[b]? := by
 refine ⟨fun u hu => rows_to hrow hu, ?_⟩
 intro w2 c x T' w3 w5 g cap b1 he hh h1 h2 h3 hg hr hat
 have hsz : w3.heap.size = w2.heap.size + 1 := by rw [hh]; simp
 have b2 : Below w2.heap.size w2 w3 := ⟨h1, h2, h3, by omega, fun k hk => by rw [hh]; exact Below.heap_alloc _ _ _ hk⟩
 refine ⟨k3 w2 w3 w5 c x g cap b1 he b2 hg hr (by rw [hsz]; exact hat), fun B hF hB => ?_, fun b hb hnb => ?_⟩
 ·exact (((b1.mono hB).trans (b2.mono (by have := b1.size; omega)))).grown hg (by have := b1.size; omega) (fun k hk => hF k (hm k hk))
 ·have := b1.size
  rw [hg.block b (by omega) (fun e => hnb (hm b e.symm)), b2.block b (by omega), b1.block b hb]
theorem OwnF.lit {T n : Nat} {s : Shp α} {F : List Nat} {w : World} {v : Value} {xs : List α} (h : OwnF (Shp.list T s) F w [v] xs) (hn : xs.length = n) : ∃ cc,
  (∀ u, Below w.heap.size w u → u.ownsRow 0 T s.n v n cc) ∧ ∀ (w2 : World) (c : List Value) (x : α) (T' : Nat) (w3 w5 : World) (g cap : Nat), Below w.heap.size w w2 → Own s w.heap.size w2 c x → w3.heap = (w2.alloc (.cells c.toArray T')).heap → w3.os = w2.os → w3.tape = w2.tape → w3.output = w2.output → w3.grownBy w5 v.ownBlock →
   w5.ownsRow 0 T s.n (.slice (some ⟨g, 0, none⟩) (n + 1) cap) (n + 1) (cc ++ c) → (v.ownBlock = some g ∨ g = w2.heap.size + 1) →
   (∃ F', OwnF (Shp.list T s) F' w5 [.slice (some ⟨g, 0, none⟩) (n + 1) cap] (xs ++ [x]) ∧ ∀ b, b ∈ F' → b ∈ F ∨ w.heap.size ≤ b) ∧ (∀ B, (∀ b, b ∈ F → B ≤ b) → B ≤ w.heap.size → Below B w w5) ∧ ∀ b, b < w.heap.size → b ∉ F → w5.heap[b]? = w.heap[b]? := by
 subst hn
 obtain ⟨cc, k1, k2, k3⟩ := h.grow
 exact ⟨cc, lit_of (R := fun w5 F' v' x => OwnF (Shp.list T s) F' w5 [v'] (xs ++ [x])) k1 k2 k3⟩
theorem OwnF.litFst {γ : Type} {T n : Nat} {s : Shp α} {r : Shp γ} {F : List Nat} {w : World} {c0 : List Value} {v : Value} {a : γ} {xs : List α} (h : OwnF ((Shp.list T s).pair r) F w ([v] ++ c0) (xs, a)) (hn : xs.length = n) : ∃ cc,
  (∀ u, Below w.heap.size w u → u.ownsRow 0 T s.n v n cc) ∧ ∀ (w2 : World) (c : List Value) (x : α) (T' : Nat) (w3 w5 : World) (g cap : Nat), Below w.heap.size w w2 → Own s w.heap.size w2 c x → w3.heap = (w2.alloc (.cells c.toArray T')).heap → w3.os = w2.os → w3.tape = w2.tape → w3.output = w2.output → w3.grownBy w5 v.ownBlock →
   w5.ownsRow 0 T s.n (.slice (some ⟨g, 0, none⟩) (n + 1) cap) (n + 1) (cc ++ c) → (v.ownBlock = some g ∨ g = w2.heap.size + 1) →
   (∃ F', OwnF ((Shp.list T s).pair r) F' w5 ([.slice (some ⟨g, 0, none⟩) (n + 1) cap] ++ c0) (xs ++ [x], a) ∧ ∀ b, b ∈ F' → b ∈ F ∨ w.heap.size ≤ b) ∧ (∀ B, (∀ b, b ∈ F → B ≤ b) → B ≤ w.heap.size → Below B w w5) ∧ ∀ b, b < w.heap.size → b ∉ F → w5.heap[b]? = w.heap[b]? := by
 subst hn
 obtain ⟨cc, k1, k2, k3⟩ := h.growFst
 exact ⟨cc, lit_of (R := fun w5 F' v' x => OwnF ((Shp.list T s).pair r) F' w5 ([v'] ++ c0) (xs ++ [x], a)) k1 k2 k3⟩
theorem set_take_drop (xs : List α) (i : Nat) (x : α) (hi : i < xs.length) : xs.set i x = xs.take i ++ ([x] ++ xs.drop (i + 1)) := by
 rw [List.set_eq_take_append_cons_drop, if_pos hi]; rfl
theorem OwnF.at {T : Nat} {s : Shp α} {F : List Nat} {w : World} {v : Value} {xs : List α} (h : OwnF (Shp.list T s) F w [v] xs) {i : Nat} {x : α} (hx : xs[i]? = some x) :
  ∃ g cap F2 c, v = .slice (some ⟨g, 0, none⟩) xs.length cap ∧ xs.length ≤ cap ∧ cap ≤ maxLen ∧ g ∈ F ∧ s.own F2 w c x ∧ (∀ b, b ∈ F2 → b ∈ F ∧ b ≠ g) ∧ (∀ j u, c[j]? = some u → w.cell? ⟨g, i * s.n + j, none⟩ = some u) ∧
   ∀ w' x', s.own F2 w' c x' → (∀ b, b ∈ F → b ∉ F2 → w'.heap[b]? = w.heap[b]?) → OwnF (Shp.list T s) F w' [v] (xs.set i x') := by
 have hi : i < xs.length := (List.getElem?_eq_some_iff.1 hx).1
 obtain ⟨⟨v', cc, G, e, h1, h2, rfl⟩, hn⟩ := h
 simp at e; subst e
 obtain ⟨F1, F2, F3, c1, c2, c3, e1, e2, hl, k1, k2, k3⟩ := ownEach_at i x h2 hx
 have hn' := List.nodup_append.1 hn
 have hG := hn'.2.1
 rw [e1] at hG
 have hG1 := List.nodup_append.1 hG
 have hG2 := List.nodup_append.1 hG1.2.1
 rcases h1.2 with ⟨rfl, h0⟩ | ⟨g, cap, cur, hv, hb, hg, hnn, hm, _⟩
 ·omega
 have nF2 : ∀ b, b ∈ F2 → b ∈ G := fun b hb => by rw [e1]; simp [hb]
 refine ⟨g, cap, F2, c2, hv, hnn, hm, by simp [hv, Value.ownBlock], k2, fun b hb => ⟨by simp [nF2 b hb], fun e => hn'.2.2 g (by simp [hv, Value.ownBlock]) g (by rw [← e]; exact nF2 b hb) rfl⟩, fun j u hj => ?_, fun w' x' ho hk => ⟨⟨v, cc, G, rfl, ?_, ?_, rfl⟩, hn⟩⟩
 ·have hjl : j < c2.length := (List.getElem?_eq_some_iff.1 hj).1
  refine rows_at h1 hv ?_
  rw [e2, ← hl, List.getElem?_append_right (by omega), Nat.add_sub_cancel_left, List.getElem?_append_left hjl]
  exact hj
 ·rw [List.length_set]
  refine ⟨h1.1, ?_⟩
  rcases h1.2 with h | ⟨g', cap', cur', e', h0', hg', r⟩
  ·exact .inl h
  ·refine .inr ⟨g', cap', cur', e', h0', (hk g' (by simp [e', Value.ownBlock]) fun hm => ?_).trans hg', r⟩
   exact hn'.2.2 g' (by simp [e', Value.ownBlock]) g' (nF2 g' hm) rfl
 ·rw [set_take_drop xs i x' hi, e1, e2]
  refine ownEach_app (ownEach_to k1 fun b hb => hk b (by rw [e1]; simp [hb]) fun hm => ?_) (ownEach_app (ownEach_one ho) (ownEach_to k3 fun b hb => hk b (by rw [e1]; simp [hb]) fun hm => ?_))
  ·exact hG1.2.2 b hb b (by simp [hm]) rfl
  ·exact hG2.2.2 b hm b hb rfl
end
end Go.Proofs.Ytjjicajodjophaa

namespace Go.Proofs.Ytjjicajodjophaa
abbrev Ext := Int × Int
abbrev EMap := Int × List Ext
def eRow (n : Int) : Int → List Ext → Prop
 | _, [] => True
 | e, x :: r => (1 ≤ x.2 ∧ 0 ≤ x.1 ∧ e < x.1 ∧ x.2 ≤ n - x.1) ∧ eRow n (x.1 + x.2) r
instance (n : Int) : ∀ (e : Int) (l : List Ext), Decidable (eRow n e l)
 | _, [] => isTrue trivial
 | e, x :: r => @instDecidableAnd _ _ _ (instDecidableERow n (x.1 + x.2) r)
where instDecidableERow (n : Int) : ∀ (e : Int) (l : List Ext), Decidable (eRow n e l)
 | _, [] => isTrue trivial
 | e, x :: r => @instDecidableAnd _ _ _ (instDecidableERow n (x.1 + x.2) r)
def EOk (m : EMap) : Prop := 0 ≤ m.1 ∧ m.1 ≤ 1048576 ∧ eRow m.1 (-1) m.2
instance (m : EMap) : Decidable (EOk m) := by unfold EOk; infer_instance
def cov (l : List Ext) (j : Int) : Prop := ∃ y ∈ l, y.1 ≤ j ∧ j < y.1 + y.2
end Go.Proofs.Ytjjicajodjophaa

namespace Go.Proofs.Ytjjicajodjophaa
open Go.RowKit
abbrev SExt : Shp Ext := (Shp.int .i64).pair (Shp.int .i64)
abbrev RdE (w : World) (v : Value) (l : List Ext) : Prop := RdS SExt w v l
theorem RdS.ext {w : World} {a : Option Addr} {n cap : Nat} {l : List Ext} (h : RdE w (.slice a n cap) l) {i : Nat} {x : Ext} (hx : l[i]? = some x) :
  ∃ b off, a = some ⟨b, off, none⟩ ∧ w.cell? ⟨b, off + i * 2, none⟩ = some (.int .i64 x.1) ∧ w.cell? ⟨b, off + i * 2 + 1, none⟩ = some (.int .i64 x.2) := by
 obtain ⟨b, off, u, v, e, hc, hc2, e1, e2⟩ := RdS.at2 rfl rfl h hx
 have f1 : [u] = [Value.int .i64 x.1] := e1
 have f2 : [v] = [Value.int .i64 x.2] := e2
 simp only [List.cons.injEq, and_true] at f1 f2
 subst f1 f2
 exact ⟨b, off, e, hc, hc2⟩
theorem ext_at (xs : List Ext) {k : Nat} (h : k < xs.length) : ∃ x, xs[k]? = some x ∧ x ∈ xs := ⟨xs[k], List.getElem?_eq_getElem h, List.getElem_mem h⟩
end Go.Proofs.Ytjjicajodjophaa

namespace Go.Proofs.Ytjjicajodjophaa
open Go.RowKit
abbrev SExtL : Shp (List Ext) := Shp.list 73 SExt
def ecells (l : List Ext) : List Value := l.flatMap fun x => [.int .i64 x.1, .int .i64 x.2]
theorem ecells_cons (x : Ext) (l : List Ext) : ecells (x :: l) = [Value.int .i64 x.1, .int .i64 x.2] ++ ecells l := rfl
theorem ecells_one (l : List Ext) : ∀ u ∈ ecells l, u.oneCell' = true := by
 intro u hu
 obtain ⟨x, _, hx⟩ := List.mem_flatMap.1 hu
 rcases List.mem_cons.1 hx with rfl | hx
 ·rfl
 ·rcases List.mem_cons.1 hx with rfl | hx
  ·rfl
  ·cases hx
theorem own_ext {B : Nat} {w : World} {v : Value} {l : List Ext} (h : w.ownsRow B 73 2 v l.length (ecells l)) : Own SExtL B w [v] l := by
 have each : ∀ l : List Ext, ownEach SExt w [] (ecells l) l := by
  intro l
  induction l with
  | nil => exact ⟨rfl, rfl⟩
  | cons x r ih => exact ⟨[], [], [.int .i64 x.1, .int .i64 x.2], ecells r, rfl, rfl, ⟨[.int .i64 x.1], [.int .i64 x.2], [], [], rfl, rfl, ⟨rfl, rfl⟩, ⟨rfl, rfl⟩⟩, ih⟩
 refine ⟨v.ownBlock.toList, ⟨v, _, [], rfl, ?_, each l, by simp⟩, ?_, fun b hb => (World.ownsRow.lt h b (by simpa using hb)).1⟩
 ·exact rows_base h fun _ _ => Nat.zero_le _
 ·cases v.ownBlock <;> simp
theorem infoE : (Try.prog.info? 73).map (fun i => (i.zero, i.size, i.bytes)) = some (some (.agg #[.int .i64 0, .int .i64 0]), 2, 16) := by kernel_rfl
def sameE (a b : List Ext) : Bool := decide (a = b)
set_option maxRecDepth 100000 in
set_option maxHeartbeats 1000000 in
theorem sameExt_any (w : World) (v1 v2 : Value) (l1 l2 : List Ext) (h1 : RdE w v1 l1) (h2 : RdE w v2 l2) :
  Calls Try.prog 18 #[v1, v2] w fun e w' => e = .returned (.bool (sameE l1 l2)) ∧ ∃ n, w' = w.drewN n := by
 have b1 := h1.bd
 have b2 := h2.bd
 obtain ⟨a1, c1, rfl⟩ := h1.slice
 obtain ⟨a2, c2, rfl⟩ := h2.slice
 by_cases hl : l1.length = l2.length
 ·have HL := hide hl
  have hne : ((l1.length : Int) != (l2.length : Int)) = false := by simp; omega
  go_enter Try.func18, Try.ntmps18
  go_wp2
  clear hl hne
  go_loopw [5] (fun i wr => ∃ k n : Nat, k ≤ l1.length ∧ i = .int .i64 k ∧ Hid (l1.take k = l2.take k) ∧ Hid (wr = w.drewN n)) (fun i _ => l1.length - (intOf i).toNat)
  case atStart => exact ⟨0, 0, Nat.zero_le _, rfl, hide rfl, hide rfl⟩
  case round =>
   obtain ⟨k, n, hk, rfl, ht, hw⟩ := hrel
   by_cases hlt : k < l1.length
   ·have hq : (k : Int) < (l1.length : Int) := by omega
    have hq2 : (k : Int) < (l2.length : Int) := by have := HL.out; omega
    obtain ⟨x, hx, _⟩ := ext_at l1 hlt
    obtain ⟨y, hy, _⟩ := ext_at l2 (k := k) (by have := HL.out; omega)
    have bd := below_drewN' w n w.heap.size
    rw [← hw.out] at bd
    obtain ⟨p1, o1, rfl, x1, x2⟩ := (h1.to0 bd).ext hx
    obtain ⟨p2, o2, rfl, y1, y2⟩ := (h2.to0 bd).ext hy
    have e1 := hide (show l1.take (k + 1) = l1.take k ++ [x] by rw [List.take_add_one, hx]; rfl)
    have e2 := hide (show l2.take (k + 1) = l2.take k ++ [y] by rw [List.take_add_one, hy]; rfl)
    have HX := hide (And.intro hx hy)
    clear bd hx hy h1 h2
    obtain ⟨xa, xb⟩ := x
    obtain ⟨ya, yb⟩ := y
    dsimp only at x1 x2 y1 y2
    by_cases c1 : xa = ya
    ·by_cases c2 : xb = yb
     ·subst c1 c2
      go_wp2
      go_region
      go_wp2
      go_roundw
      case rel => exact ⟨k + 1, n + 1, by omega, by go_num, hide (by rw [e1.out, e2.out, ht.out]), hide (by rw [hw.out]; rfl)⟩
      case measure => simp [intOf]; omega
     ·have c2' : (xb == yb) = false := by simpa using c2
      have hr : Hid (sameE l1 l2 = false) := by show _ = _; unfold sameE; simp; rintro rfl; have := HX.out; rw [this.1] at this; simp at this; exact c2 this.2
      subst c1
      go_wp2
      go_region
      go_wp2
      go_ret
      exact ⟨ret_bool hr.out.symm, n + 1, by rw [hw.out]; rfl⟩
    ·have c1' : (xa == ya) = false := by simpa using c1
     have hr : Hid (sameE l1 l2 = false) := by show _ = _; unfold sameE; simp; rintro rfl; have := HX.out; rw [this.1] at this; simp at this; exact c1 this.1
     go_wp2
     go_region
     go_wp2
     go_ret
     exact ⟨ret_bool hr.out.symm, n + 1, by rw [hw.out]; rfl⟩
   ·have hq : ¬ (k : Int) < (l1.length : Int) := by omega
    have hr : Hid (sameE l1 l2 = true) := by
     show _ = _
     have := ht.out
     rw [List.take_of_length_le (by omega), List.take_of_length_le (by have := HL.out; omega)] at this
     simp [sameE, this]
    go_wp2
    go_ret
    exact ⟨ret_bool hr.out.symm, n, hw.out⟩
 ·have hr : Hid (sameE l1 l2 = false) := by show _ = _; unfold sameE; simp; rintro rfl; exact hl rfl
  have hne : ((l1.length : Int) != (l2.length : Int)) = true := by simp; omega
  go_enter Try.func18, Try.ntmps18
  go_wp2
  go_ret
  exact ⟨ret_bool hr.out.symm, 0, rfl⟩
end Go.Proofs.Ytjjicajodjophaa

namespace Go.Proofs.Ytjjicajodjophaa
open Go.RowKit
def OwnE (B : Nat) (w : World) (v : Value) (l : List Ext) : Prop := w.ownsRow B 73 2 v l.length (ecells l)
theorem ecells_app (a b : List Ext) : ecells (a ++ b) = ecells a ++ ecells b := by unfold ecells; rw [List.flatMap_append]
theorem run_append_ext (w : World) {B : Nat} {v : Value} {l : List Ext} (h : OwnE B w v l) (a b : Int) (hl : l.length ≤ 4000000) (hB : B ≤ w.heap.size) :
  ∃ v' w', (Builtin.append_ #[51, 51] 51 #[v, .slice (some ⟨w.heap.size, 0, none⟩) 1 1]).run Try.prog (w.alloc (.cells #[.int .i64 a, .int .i64 b] 73)) = .ok v' w' ∧ OwnE B w' v' (l ++ [(a, b)]) ∧ Below B w w' ∧ w.heap.size ≤ w'.heap.size ∧ ∀ (p i : Nat) (u : Value), w.cell? ⟨p, i, none⟩ = some u → some p ≠ v.ownBlock → w'.cell? ⟨p, i, none⟩ = some u := by
 obtain ⟨i0, hi, hz0, hz1, hz2⟩ := info_parts infoE
 have hc : ∀ j u, [Value.int .i64 a, .int .i64 b][j]? = some u → (w.alloc (.cells #[.int .i64 a, .int .i64 b] 73)).cell? ((⟨w.heap.size, 0, none⟩ : Addr).add j) = some u := by
  intro j u hj
  have ea : (⟨w.heap.size, 0, none⟩ : Addr).add j = ⟨w.heap.size, j, none⟩ := by
   by_cases h0 : j = 0
   ·subst h0; simp [Addr.add]
   ·simp [Addr.add, h0]
  rw [ea, cell_of_row _ _ j _ _ (0, 0) (heap_alloc_last w _)]
  simpa using hj
 obtain ⟨v', w', hr, ho, hg, _⟩ := run_append_own (P := Try.prog) (w.alloc (.cells #[.int .i64 a, .int .i64 b] 73)) B 51 51 73 i0 (.agg #[.int .i64 0, .int .i64 0]) 2 16 Try.underlying51 hi hz0 hz1 hz2 rfl (by decide) v l.length (ecells l) (World.ownsRow.alloc h _) ⟨w.heap.size, 0, none⟩ 1 1 [.int .i64 a, .int .i64 b] rfl hc (ecells_one [(a, b)]) (by unfold maxLen; omega) (by omega) (by simp; omega)
 have bb : Below B w (w.alloc (.cells #[.int .i64 a, .int .i64 b] 73)) := (Below.refl _ _).alloc hB _
 refine ⟨v', w', hr, ?_, bb.grown hg (by simp; omega) (fun k hk => (World.ownsRow.lt h k hk).1), by have := hg.size; simp at this; omega, fun p i u hp hne => hg.cell (a := ⟨p, i, none⟩) ((World.cell?_of_block (a := ⟨p, i, none⟩) (Below.heap_alloc w _ p (cell_lt hp))).trans hp) hne⟩
 unfold OwnE
 rw [ecells_app, List.length_append]
 exact ho
end Go.Proofs.Ytjjicajodjophaa

namespace Go.Proofs.Ytjjicajodjophaa
def rstep (o : List (Int × Int)) (a : Int) : List (Int × Int) :=
 match o.getLast? with
 | none => [(a, 4)]
 | some x => if a ≤ x.1 + x.2 then o.dropLast ++ [(x.1, a + 4 - x.1)] else o ++ [(a, 4)]
def rfold (l : List Int) : List (Int × Int) := l.foldl rstep []
theorem rfold_snoc (l : List Int) (a : Int) : rfold (l ++ [a]) = rstep (rfold l) a := by unfold rfold; rw [List.foldl_append]; rfl
def dmAt (x : Int × (Int × Int)) : Option Int := if x.1 = 1 ∧ 0 ≤ x.2.2 ∧ x.2.2 ≤ 1048576 then some x.2.2 else none
def dmAts (l : List (Int × (Int × Int))) : List Int := l.filterMap dmAt
theorem dmAts_next {l : List (Int × (Int × Int))} {k : Nat} {x : Int × (Int × Int)} (h : l[k]? = some x) : dmAts (l.take (k + 1)) = dmAts (l.take k) ++ (dmAt x).toList := by
 unfold dmAts
 rw [List.take_add_one, h, List.filterMap_append]
 cases hx : dmAt x <;> simp [hx]
theorem dmAts_len (l : List (Int × (Int × Int))) : (dmAts l).length ≤ l.length := List.length_filterMap_le _ _
theorem dmAts_mem {l : List (Int × (Int × Int))} {a : Int} : a ∈ dmAts l ↔ ∃ x ∈ l, x.1 = 1 ∧ 0 ≤ x.2.2 ∧ x.2.2 ≤ 1048576 ∧ x.2.2 = a := by
 unfold dmAts dmAt
 rw [List.mem_filterMap]
 constructor
 ·rintro ⟨x, hx, h⟩
  split at h
  ·rename_i hc
   simp only [Option.some.injEq] at h
   exact ⟨x, hx, hc.1, hc.2.1, hc.2.2, h⟩
  ·simp at h
 ·rintro ⟨x, hx, h1, h2, h3, h4⟩
  exact ⟨x, hx, by rw [if_pos ⟨h1, h2, h3⟩, h4]⟩
theorem dmAts_bd {l : List (Int × (Int × Int))} {a : Int} (h : a ∈ dmAts l) : 0 ≤ a ∧ a ≤ 1048576 := by
 obtain ⟨x, _, _, h2, h3, rfl⟩ := dmAts_mem.1 h
 exact ⟨h2, h3⟩
def srt (l : List Int) : List Int := l.mergeSort (fun x y => decide (x ≤ y))
theorem srt_perm (l : List Int) : (srt l).Perm l := List.mergeSort_perm l _
theorem srt_mem {l : List Int} {a : Int} : a ∈ srt l ↔ a ∈ l := (srt_perm l).mem_iff
theorem srt_len (l : List Int) : (srt l).length = l.length := (srt_perm l).length_eq
def rngs (l : List (Int × (Int × Int))) : List (Int × Int) := rfold (srt (dmAts l))
theorem rstep_none (a : Int) : rstep [] a = [] ++ [(a, 4)] := rfl
theorem rstep_join {o : List (Int × Int)} {k : Nat} {x : Int × Int} {a : Int} (hl : o.length = k + 1) (h : o[k]? = some x) (hc : a ≤ x.1 + x.2) : rstep o a = o.set k (x.1, a + 4 - x.1) := by
 have e : o.getLast? = some x := by rw [List.getLast?_eq_getElem?, hl]; exact h
 obtain ⟨ys, rfl⟩ := List.getLast?_eq_some_iff.1 e
 unfold rstep
 rw [e]
 dsimp only
 rw [if_pos hc, List.dropLast_concat]
 have : ys.length = k := by simpa using hl
 subst this
 simp
theorem rstep_new {o : List (Int × Int)} {k : Nat} {x : Int × Int} {a : Int} (hl : o.length = k + 1) (h : o[k]? = some x) (hc : ¬ a ≤ x.1 + x.2) : rstep o a = o ++ [(a, 4)] := by
 have e : o.getLast? = some x := by rw [List.getLast?_eq_getElem?, hl]; exact h
 unfold rstep
 rw [e]
 dsimp only
 rw [if_neg hc]
theorem rfold_next {l : List Int} {k : Nat} {a : Int} (h : l[k]? = some a) : rfold (l.take (k + 1)) = rstep (rfold (l.take k)) a := by
 rw [List.take_add_one, h]
 exact rfold_snoc _ _
theorem rstep_len (o : List (Int × Int)) (a : Int) : (rstep o a).length ≤ o.length + 1 ∧ o.length ≤ (rstep o a).length := by
 unfold rstep
 split
 ·rename_i h; simp at h; subst h; simp
 ·rename_i x h
  have : o ≠ [] := by intro e; rw [e] at h; simp at h
  have := List.length_pos_iff.2 this
  split
  ·simp; omega
  ·simp
theorem rfold_len : ∀ l : List Int, (rfold l).length ≤ l.length := by
 intro l
 suffices h : ∀ (l : List Int) (o : List (Int × Int)), (l.foldl rstep o).length ≤ o.length + l.length by simpa [rfold] using h l []
 intro l
 induction l with
 | nil => intro o; simp
 | cons a r ih =>
  intro o
  have := ih (rstep o a)
  have := (rstep_len o a).1
  rw [List.foldl_cons, List.length_cons]
  omega
theorem rfold_in {l : List Int} {m : Int} (h0 : ∀ a ∈ l, 0 ≤ a ∧ a ≤ m) : ∀ x ∈ rfold l, 0 ≤ x.1 ∧ x.1 ≤ m ∧ x.1 + x.2 ≤ m + 4 ∧ 4 - m ≤ x.2 := by
 suffices h : ∀ (l : List Int) (o : List (Int × Int)), (∀ a ∈ l, 0 ≤ a ∧ a ≤ m) → (∀ x ∈ o, 0 ≤ x.1 ∧ x.1 ≤ m ∧ x.1 + x.2 ≤ m + 4 ∧ 4 - m ≤ x.2) → ∀ x ∈ l.foldl rstep o, 0 ≤ x.1 ∧ x.1 ≤ m ∧ x.1 + x.2 ≤ m + 4 ∧ 4 - m ≤ x.2 from h l [] h0 (by simp)
 intro l
 induction l with
 | nil => intro o _ h2; exact h2
 | cons a r ih =>
  intro o h1 h2
  refine ih (rstep o a) (fun b hb => h1 b (List.mem_cons_of_mem _ hb)) ?_
  have ha := h1 a (List.mem_cons_self ..)
  intro x hx
  unfold rstep at hx
  split at hx
  ·simp at hx; subst hx; simp; omega
  ·rename_i y hy
   have hym := List.mem_of_getLast? hy
   have hy' := h2 y hym
   split at hx
   ·rcases List.mem_append.1 hx with hx | hx
    ·exact h2 x (List.dropLast_subset _ hx)
    ·simp at hx; subst hx; simp; omega
   ·rcases List.mem_append.1 hx with hx | hx
    ·exact h2 x hx
    ·simp at hx; subst hx; simp; omega
structure Rg (o : List (Int × Int)) (l : List Int) : Prop where
 big : ∀ x ∈ o, 4 ≤ x.2
 rise : o.Pairwise fun x y => x.1 + x.2 < y.1
 low : ∀ x ∈ o, ∃ b ∈ l, x.1 ≤ b
 top : ∀ x ∈ o, ∃ b ∈ l, x.1 + x.2 ≤ b + 4
 cov : ∀ j, (∃ x ∈ o, x.1 ≤ j ∧ j < x.1 + x.2) ↔ ∃ b ∈ l, b ≤ j ∧ j < b + 4
theorem Rg.nil : Rg [] [] := ⟨by simp, List.Pairwise.nil, by simp, by simp, by simp⟩
theorem Rg.step {o : List (Int × Int)} {l : List Int} {a : Int} (h : Rg o l) (hl : ∀ b ∈ l, b ≤ a) : Rg (rstep o a) (l ++ [a]) := by
 unfold rstep
 split
 ·rename_i e
  simp at e
  subst e
  have hn : ∀ j, ¬ ∃ b ∈ l, b ≤ j ∧ j < b + 4 := fun j hj => by simpa using (h.cov j).2 hj
  refine ⟨by simp, List.pairwise_singleton _ _, by simp, by simp, fun j => ?_⟩
  constructor
  ·rintro ⟨x, hx, h1⟩
   simp at hx
   subst hx
   exact ⟨a, by simp, h1⟩
  ·rintro ⟨b, hb, h1⟩
   rcases List.mem_append.1 hb with hb | hb
   ·exact absurd ⟨b, hb, h1⟩ (hn j)
   ·simp at hb; subst hb
    exact ⟨(b, 4), by simp, h1⟩
 ·rename_i z hz
  obtain ⟨p, rfl⟩ := List.getLast?_eq_some_iff.1 hz
  obtain ⟨hb1, hb2⟩ : (∀ x ∈ p, 4 ≤ x.2) ∧ 4 ≤ z.2 := ⟨fun x hx => h.big x (by simp [hx]), h.big z (by simp)⟩
  have hr := List.pairwise_append.1 h.rise
  obtain ⟨bl, hbl, hzl⟩ := h.low z (by simp)
  have hza : z.1 ≤ a := by have := hl bl hbl; omega
  obtain ⟨bt, hbt, hzt⟩ := h.top z (by simp)
  have hzt' : z.1 + z.2 ≤ a + 4 := by have := hl bt hbt; omega
  split
  ·rename_i hc
   rw [List.dropLast_concat]
   refine ⟨?_, ?_, ?_, ?_, fun j => ?_⟩
   ·intro x hx
    rcases List.mem_append.1 hx with hx | hx
    ·exact hb1 x hx
    ·simp at hx; subst hx; dsimp only; omega
   ·refine List.pairwise_append.2 ⟨hr.1, List.pairwise_singleton _ _, fun x hx y hy => ?_⟩
    simp at hy; subst hy
    exact hr.2.2 x hx z (by simp)
   ·intro x hx
    rcases List.mem_append.1 hx with hx | hx
    ·obtain ⟨b, h1, h2⟩ := h.low x (by simp [hx]); exact ⟨b, by simp [h1], h2⟩
    ·simp at hx; subst hx; exact ⟨a, by simp, hza⟩
   ·intro x hx
    rcases List.mem_append.1 hx with hx | hx
    ·obtain ⟨b, h1, h2⟩ := h.top x (by simp [hx]); exact ⟨b, by simp [h1], h2⟩
    ·simp at hx; subst hx; exact ⟨a, by simp, by dsimp only; omega⟩
   ·constructor
    ·rintro ⟨x, hx, h1⟩
     rcases List.mem_append.1 hx with hx | hx
     ·obtain ⟨b, k1, k2⟩ := (h.cov j).1 ⟨x, by simp [hx], h1⟩
      exact ⟨b, by simp [k1], k2⟩
     ·simp at hx; subst hx; dsimp only at h1
      by_cases hj : j < z.1 + z.2
      ·obtain ⟨b, k1, k2⟩ := (h.cov j).1 ⟨z, by simp, h1.1, hj⟩
       exact ⟨b, by simp [k1], k2⟩
      ·exact ⟨a, by simp, by omega, by omega⟩
    ·rintro ⟨b, hb, h1⟩
     rcases List.mem_append.1 hb with hb | hb
     ·obtain ⟨x, k1, k2⟩ := (h.cov j).2 ⟨b, hb, h1⟩
      rcases List.mem_append.1 k1 with k1 | k1
      ·exact ⟨x, by simp [k1], k2⟩
      ·simp at k1; subst k1
       exact ⟨(x.1, a + 4 - x.1), by simp, k2.1, by dsimp only; omega⟩
     ·simp at hb; subst hb
      exact ⟨(z.1, b + 4 - z.1), by simp, by dsimp only; omega, by dsimp only; omega⟩
  ·rename_i hc
   refine ⟨?_, ?_, ?_, ?_, fun j => ?_⟩
   ·intro x hx
    rcases List.mem_append.1 hx with hx | hx
    ·exact h.big x hx
    ·simp at hx; subst hx; simp
   ·refine List.pairwise_append.2 ⟨h.rise, List.pairwise_singleton _ _, fun x hx y hy => ?_⟩
    simp at hy; subst hy
    dsimp only
    rcases List.mem_append.1 hx with hx | hx
    ·have := hr.2.2 x hx z (by simp); omega
    ·simp at hx; subst hx; omega
   ·intro x hx
    rcases List.mem_append.1 hx with hx | hx
    ·obtain ⟨b, h1, h2⟩ := h.low x hx; exact ⟨b, by simp [h1], h2⟩
    ·simp at hx; subst hx; exact ⟨a, by simp, Int.le_refl _⟩
   ·intro x hx
    rcases List.mem_append.1 hx with hx | hx
    ·obtain ⟨b, h1, h2⟩ := h.top x hx; exact ⟨b, by simp [h1], h2⟩
    ·simp at hx; subst hx; exact ⟨a, by simp, Int.le_refl _⟩
   ·constructor
    ·rintro ⟨x, hx, h1⟩
     rcases List.mem_append.1 hx with hx | hx
     ·obtain ⟨b, k1, k2⟩ := (h.cov j).1 ⟨x, hx, h1⟩
      exact ⟨b, by simp [k1], k2⟩
     ·simp at hx; subst hx
      exact ⟨a, by simp, h1⟩
    ·rintro ⟨b, hb, h1⟩
     rcases List.mem_append.1 hb with hb | hb
     ·obtain ⟨x, k1, k2⟩ := (h.cov j).2 ⟨b, hb, h1⟩
      exact ⟨x, List.mem_append.2 (.inl k1), k2⟩
     ·simp at hb; subst hb
      exact ⟨(b, 4), by simp, h1⟩
end Go.Proofs.Ytjjicajodjophaa

namespace Go.Proofs.Ytjjicajodjophaa
open Go.RowKit
def over (xs ys : List UInt8) : List UInt8 := ys.take xs.length ++ xs.drop ys.length
theorem over_length (xs ys : List UInt8) : (over xs ys).length = xs.length := by simp [over]; omega
theorem over_all {xs ys : List UInt8} (h : xs.length = ys.length) : over xs ys = ys := by
 unfold over; rw [List.take_of_length_le (by omega), List.drop_of_length_le (by omega), List.append_nil]
set_option maxRecDepth 100000 in
theorem run_copy_octs {w : World} {B : Nat} {v v2 : Value} {xs ys : List UInt8} (ty : TypeId) (hown : OwnB B w v xs) (hrd : Rd w v2 ys) :
  ∃ w', (Builtin.copy_ #[62, 62] ty #[v, v2]).run Try.prog w = .ok (goInt (Nat.min ys.length xs.length)) w' ∧ OwnB B w' v (over xs ys) ∧ Below B w w' ∧ w.grownBy w' v.ownBlock := by
 have hi : (Try.prog.info? 5).map (·.size) = some 1 := by kernel_rfl
 obtain ⟨ao, c, rfl, l1, m1, n1, r1⟩ := hrd
 obtain ⟨dp, dc, rfl⟩ := hown.rd.slice
 by_cases h0 : Nat.min ys.length xs.length = 0
 ·have hrun := run_copy_none (P := Try.prog) w 62 62 ty 5 dp ao xs.length dc ys.length c Try.underlying62 hi h0
  have e : over xs ys = xs := by
   have h0' : min ys.length xs.length = 0 := h0
   unfold over
   by_cases hy : ys.length = 0
   ·rw [List.eq_nil_of_length_eq_zero hy]; simp
   ·have hx : xs.length = 0 := by omega
    rw [List.eq_nil_of_length_eq_zero hx]; simp
  refine ⟨w, ?_, by rw [e]; exact hown, Below.refl _ _, World.grownBy.refl _ _⟩
  rw [h0]
  exact hrun
 ·have h0' : ¬ min ys.length xs.length = 0 := h0
  rcases hown with ⟨_, ⟨e, h1⟩ | ⟨g, cap, cur, e, hb, hg, hn, hmx, hsz, ht⟩⟩
  ·omega
  cases e
  rcases r1 with r1 | ⟨b, off, rfl, hc⟩
  ·rw [r1] at h0'; simp at h0'
  have ecs : ((ys.take xs.length).map enc).length = Nat.min ys.length xs.length := by
   simp only [List.length_map, List.length_take]; exact Nat.min_comm _ _
  have ecs' : ((ys.take xs.length).map enc).length = min ys.length xs.length := ecs
  have hsrc : ∀ j u, ((ys.take xs.length).map enc)[j]? = some u → w.cell? ((⟨b, off, none⟩ : Addr).add j) = some u := by
   intro j u hj
   refine news_octs (xs := ys) hc j u ?_
   have hjl : j < xs.length := by
    have := (List.getElem?_eq_some_iff.1 hj).1
    rw [ecs'] at this; omega
   rw [← hj, List.map_take, List.getElem?_take, if_pos hjl]
  have hrun := run_copy_row (P := Try.prog) w 62 62 ty 5 g 0 xs.length dc ⟨b, off, none⟩ ys.length c cur 5 ((ys.take xs.length).map enc) Try.underlying62 hi hg ecs hsrc (by rw [ecs']; omega) (fun u hu => enc_one _ u hu)
  ·rw [ecs] at hrun
   have hgl : g < w.heap.size := lt_of_block hg
   have hL : ((ys.take xs.length).map enc).length ≤ cur.toList.length := by
    have hq : cur.toList.length = cur.size := Array.length_toList
    have hmm : min ys.length xs.length ≤ xs.length := Nat.min_le_right _ _
    rw [ecs', hq]; omega
   refine ⟨_, hrun, ?_, below_setRow (Below.refl _ _) hb _, ⟨rfl, rfl, rfl, by simp [World.setRow], fun k _ hk => setRow_other w g k _ (by rintro rfl; exact hk rfl)⟩⟩
   have hcl : cur.toList.length = dc := by rw [Array.length_toList]; omega
   have hmx' : min ys.length xs.length ≤ xs.length := Nat.min_le_right _ _
   have emin : Nat.min ys.length xs.length = min ys.length xs.length := rfl
   try rw [emin]
   refine ⟨by simp [over_length], .inr ⟨g, dc, _, by rw [over_length], hb, setRow_heap w g _ _ _ _ hg, by rw [over_length]; exact hn, hmx, ?_, ?_⟩⟩
   ·simp only [List.take_zero, List.nil_append, Nat.zero_add, List.size_toArray, List.length_append, List.length_drop]
    rw [ecs', hcl]
    omega
   ·rw [over_length]
    simp only [List.take_zero, List.nil_append, Nat.zero_add, Nat.mul_one] at ht ⊢
    have e1 : over xs ys = ys.take xs.length ++ xs.drop (min ys.length xs.length) := by
     unfold over
     congr 1
     by_cases hxy : ys.length ≤ xs.length
     ·rw [Nat.min_eq_left hxy]
     ·rw [Nat.min_eq_right (by omega), List.drop_of_length_le (by omega), List.drop_of_length_le (Nat.le_refl _)]
    rw [e1, List.map_append, List.map_drop, ← ht, List.drop_take, List.take_append, ecs', List.take_of_length_le (by rw [ecs']; omega)]
end Go.Proofs.Ytjjicajodjophaa

namespace Go.Proofs.Ytjjicajodjophaa
open Go.RowKit
abbrev Wrt := Int × List UInt8
abbrev Dsk := List (List UInt8) × List Wrt
abbrev SWr : Shp Wrt := (Shp.int .i64).pair Shp.octs
abbrev RdSec (w : World) (v : Value) (ss : List (List UInt8)) : Prop := RdS Shp.octs w v ss
abbrev RdC (w : World) (v : Value) (ws : List Wrt) : Prop := RdS SWr w v ws
theorem RdS.oct {w : World} {a : Option Addr} {n cap : Nat} {ss : List (List UInt8)} (h : RdSec w (.slice a n cap) ss) {i : Nat} {x : List UInt8} (hx : ss[i]? = some x) :
  ∃ b off u, a = some ⟨b, off, none⟩ ∧ w.cell? ⟨b, off + i, none⟩ = some u ∧ Rd w u x := by
 obtain ⟨b, off, u, e, hc, v, e2, hr⟩ := RdS.at1 rfl h hx
 simp at e2; subst e2
 exact ⟨b, off, u, e, hc, hr⟩
theorem RdS.wrt {w : World} {a : Option Addr} {n cap : Nat} {ws : List Wrt} (h : RdC w (.slice a n cap) ws) {i : Nat} {y : Wrt} (hy : ws[i]? = some y) :
  ∃ b off u, a = some ⟨b, off, none⟩ ∧ w.cell? ⟨b, off + i * 2, none⟩ = some (.int .i64 y.1) ∧ w.cell? ⟨b, off + i * 2 + 1, none⟩ = some u ∧ Rd w u y.2 := by
 obtain ⟨b, off, u, v, e, hc, hc2, e1, v', e2, hr⟩ := RdS.at2 rfl rfl h hy
 simp at e2; subst e2
 have : [u] = [Value.int .i64 y.1] := e1
 simp at this; subst this
 exact ⟨b, off, v, e, hc, hc2, hr⟩
theorem some_at {α : Type} (xs : List α) {k : Nat} (h : k < xs.length) : ∃ x, xs[k]? = some x ∧ x ∈ xs := ⟨xs[k], List.getElem?_eq_getElem h, List.getElem_mem h⟩
def DOk (d : Dsk) : Prop := 1 ≤ d.1.length ∧ d.1.length ≤ 1024 ∧ d.2.length ≤ 4096 ∧ (∀ x ∈ d.1, x.length = 64) ∧ ∀ y ∈ d.2, (0 ≤ y.1 ∧ y.1 < d.1.length) ∧ y.2.length = 64
instance (d : Dsk) : Decidable (DOk d) := by unfold DOk; infer_instance
def dhas (d : Dsk) (k : Int) : Prop := 0 ≤ k ∧ k < d.1.length
instance (d : Dsk) (k : Int) : Decidable (dhas d k) := by unfold dhas; infer_instance
theorem getD_some {α : Type} {xs : List α} {k : Nat} {x d : α} (h : xs[k]? = some x) : xs.getD k d = x := by rw [List.getD_eq_getElem?_getD, h]; rfl
end Go.Proofs.Ytjjicajodjophaa

namespace Go.Proofs.Ytjjicajodjophaa
open Go.RowKit
abbrev D3 : Type := Int × (Int × Int)
abbrev SD3 : Shp D3 := (Shp.int .i64).pair ((Shp.int .i64).pair (Shp.int .i64))
abbrev RdD (w : World) (v : Value) (l : List D3) : Prop := RdS SD3 w v l
theorem RdS.d3 {w : World} {a : Option Addr} {n cap : Nat} {l : List D3} (h : RdD w (.slice a n cap) l) {i : Nat} {x : D3} (hx : l[i]? = some x) :
  ∃ b off, a = some ⟨b, off, none⟩ ∧ w.cell? ⟨b, off + i * 3, none⟩ = some (.int .i64 x.1) ∧ w.cell? ⟨b, off + i * 3 + 1, none⟩ = some (.int .i64 x.2.1) ∧ w.cell? ⟨b, off + i * 3 + 2, none⟩ = some (.int .i64 x.2.2) := by
 obtain ⟨ao, c, e, h1, h2, h3, h4⟩ := h
 cases e
 rcases h4 with rfl | ⟨b, off, rfl, hc⟩
 ·simp at hx
 ·obtain ⟨c, ⟨c1, c2, rfl, k1, ⟨c3, c4, rfl, k3, k4⟩⟩, k2⟩ := hc i x hx
  have e1 : c1 = [Value.int .i64 x.1] := k1
  have e3 : c3 = [Value.int .i64 x.2.1] := k3
  have e4 : c4 = [Value.int .i64 x.2.2] := k4
  subst e1 e3 e4
  have hn : SD3.n = 3 := rfl
  rw [hn] at k2
  exact ⟨b, off, rfl, by simpa using k2 0 _ rfl, by simpa using k2 1 _ rfl, by simpa using k2 2 _ rfl⟩
def dcells (l : List D3) : List Value := l.flatMap fun x => [.int .i64 x.1, .int .i64 x.2.1, .int .i64 x.2.2]
theorem dcells_cons (x : D3) (l : List D3) : dcells (x :: l) = [Value.int .i64 x.1, .int .i64 x.2.1, .int .i64 x.2.2] ++ dcells l := rfl
theorem dcells_app (a b : List D3) : dcells (a ++ b) = dcells a ++ dcells b := by unfold dcells; rw [List.flatMap_append]
theorem dcells_one (l : List D3) : ∀ u ∈ dcells l, u.oneCell' = true := by
 intro u hu
 obtain ⟨x, _, hx⟩ := List.mem_flatMap.1 hu
 rcases List.mem_cons.1 hx with rfl | hx
 ·rfl
 ·rcases List.mem_cons.1 hx with rfl | hx
  ·rfl
  ·rcases List.mem_cons.1 hx with rfl | hx
   ·rfl
   ·cases hx
def OwnD (T B : Nat) (w : World) (v : Value) (l : List D3) : Prop := w.ownsRow B T 3 v l.length (dcells l)
theorem OwnD.own {T B : Nat} {w : World} {v : Value} {l : List D3} (h : OwnD T B w v l) : Own (Shp.list T SD3) B w [v] l := by
 have each : ∀ l : List D3, ownEach SD3 w [] (dcells l) l := by
  intro l
  induction l with
  | nil => exact ⟨rfl, rfl⟩
  | cons x r ih => exact ⟨[], [], [.int .i64 x.1, .int .i64 x.2.1, .int .i64 x.2.2], dcells r, rfl, rfl, ⟨[.int .i64 x.1], [.int .i64 x.2.1, .int .i64 x.2.2], [], [], rfl, rfl, ⟨rfl, rfl⟩, ⟨[.int .i64 x.2.1], [.int .i64 x.2.2], [], [], rfl, rfl, ⟨rfl, rfl⟩, ⟨rfl, rfl⟩⟩⟩, ih⟩
 refine ⟨v.ownBlock.toList, ⟨v, _, [], rfl, ?_, each l, by simp⟩, ?_, fun b hb => (World.ownsRow.lt h b (by simpa using hb)).1⟩
 ·exact rows_base h fun _ _ => Nat.zero_le _
 ·cases v.ownBlock <;> simp
theorem OwnD.rd {T B : Nat} {w : World} {v : Value} {l : List D3} (h : OwnD T B w v l) : RdD w v l := h.own.rdS
theorem OwnD.to {T B : Nat} {w w' : World} {v : Value} {l : List D3} (h : OwnD T B w v l) (hb : Below w.heap.size w w') : OwnD T B w' v l := rows_to h hb
theorem OwnD.nil (T B : Nat) (w : World) : OwnD T B w (.slice none 0 0) [] := World.ownsRow_nil _ _ _ _
theorem OwnD.mono {T B C : Nat} {w : World} {v : Value} {l : List D3} (h : OwnD T B w v l) (hC : C ≤ B) : OwnD T C w v l := rows_base h fun b hb => Nat.le_trans hC (World.ownsRow.lt h b hb).1
theorem run_append_d3 {T TL : Nat} (hu : Try.prog.underlying TL = some (.slice T)) (hinfo : (Try.prog.info? T).map (fun i => (i.zero, i.size, i.bytes)) = some (some (.agg #[.int .i64 0, .int .i64 0, .int .i64 0]), 3, 24)) (w : World) {B : Nat} {v : Value} {l : List D3} (h : OwnD T B w v l) (a b c : Int) (hl : l.length * 24 ≤ 140737488351232) (hB : B ≤ w.heap.size) :
  ∃ v' w', (Builtin.append_ #[TL, TL] TL #[v, .slice (some ⟨w.heap.size, 0, none⟩) 1 1]).run Try.prog (w.alloc (.cells #[.int .i64 a, .int .i64 b, .int .i64 c] T)) = .ok v' w' ∧ OwnD T B w' v' (l ++ [(a, b, c)]) ∧ Below B w w' ∧ w.heap.size ≤ w'.heap.size := by
 obtain ⟨i0, hi, hz0, hz1, hz2⟩ := info_parts hinfo
 have hc : ∀ j u, [Value.int .i64 a, .int .i64 b, .int .i64 c][j]? = some u → (w.alloc (.cells #[.int .i64 a, .int .i64 b, .int .i64 c] T)).cell? ((⟨w.heap.size, 0, none⟩ : Addr).add j) = some u := by
  intro j u hj
  have ea : (⟨w.heap.size, 0, none⟩ : Addr).add j = ⟨w.heap.size, j, none⟩ := by
   by_cases h0 : j = 0
   ·subst h0; simp [Addr.add]
   ·simp [Addr.add, h0]
  rw [ea, cell_of_row _ _ j _ _ (0, 0) (heap_alloc_last w _)]
  simpa using hj
 obtain ⟨v', w', hr, ho, hg, _⟩ := run_append_own (P := Try.prog) (w.alloc (.cells #[.int .i64 a, .int .i64 b, .int .i64 c] T)) B TL TL T i0 (.agg #[.int .i64 0, .int .i64 0, .int .i64 0]) 3 24 hu hi hz0 hz1 hz2 rfl (by decide) v l.length (dcells l) (World.ownsRow.alloc h _) ⟨w.heap.size, 0, none⟩ 1 1 [.int .i64 a, .int .i64 b, .int .i64 c] rfl hc (dcells_one [(a, b, c)]) (by unfold maxLen; omega) (by omega) (by simp; omega)
 have bb : Below B w (w.alloc (.cells #[.int .i64 a, .int .i64 b, .int .i64 c] T)) := (Below.refl _ _).alloc hB _
 refine ⟨v', w', hr, ?_, bb.grown hg (by simp; omega) (fun k hk => (World.ownsRow.lt h k hk).1), by have := hg.size; simp at this; omega⟩
 unfold OwnD
 rw [dcells_app, List.length_append]
 exact ho
def OwnP2 (T B : Nat) (w : World) (v : Value) (l : List Ext) : Prop := w.ownsRow B T 2 v l.length (ecells l)
theorem OwnP2.own {T B : Nat} {w : World} {v : Value} {l : List Ext} (h : OwnP2 T B w v l) : Own (Shp.list T SExt) B w [v] l := by
 have each : ∀ l : List Ext, ownEach SExt w [] (ecells l) l := by
  intro l
  induction l with
  | nil => exact ⟨rfl, rfl⟩
  | cons x r ih => exact ⟨[], [], [.int .i64 x.1, .int .i64 x.2], ecells r, rfl, rfl, ⟨[.int .i64 x.1], [.int .i64 x.2], [], [], rfl, rfl, ⟨rfl, rfl⟩, ⟨rfl, rfl⟩⟩, ih⟩
 refine ⟨v.ownBlock.toList, ⟨v, _, [], rfl, ?_, each l, by simp⟩, ?_, fun b hb => (World.ownsRow.lt h b (by simpa using hb)).1⟩
 ·exact rows_base h fun _ _ => Nat.zero_le _
 ·cases v.ownBlock <;> simp
theorem OwnP2.rd {T B : Nat} {w : World} {v : Value} {l : List Ext} (h : OwnP2 T B w v l) : RdE w v l := h.own.rdS
theorem OwnP2.to {T B : Nat} {w w' : World} {v : Value} {l : List Ext} (h : OwnP2 T B w v l) (hb : Below w.heap.size w w') : OwnP2 T B w' v l := rows_to h hb
theorem ecells_size (l : List Ext) (k : Nat) (z : Int) {x : Ext} (h : l[k]? = some x) : (ecells l).set (k * 2 + 1) (.int .i64 z) = ecells (l.set k (x.1, z)) := by
 induction l generalizing k with
 | nil => simp at h
 | cons y r ih =>
  cases k with
  | zero =>
   simp only [List.getElem?_cons_zero, Option.some.injEq] at h
   subst h
   rfl
  | succ k =>
   have := ih k (by simpa using h)
   rw [List.set_cons_succ, ecells_cons, ecells_cons, ← this, show (k + 1) * 2 + 1 = k * 2 + 1 + 1 + 1 by omega]
   rfl
theorem OwnE.size2 {B : Nat} {w : World} {g n c : Nat} {l : List Ext} (h : OwnE B w (.slice (some ⟨g, 0, none⟩) n c) l) {k : Nat} {x : Ext} (hk : l[k]? = some x) (z : Int) : OwnE B (w.setCell ⟨g, k * 2 + 1, none⟩ (.int .i64 z)) (.slice (some ⟨g, 0, none⟩) n c) (l.set k (x.1, z)) := by
 have hn : n = l.length := by
  rcases h.2 with ⟨h1, _⟩ | ⟨g', cap, cur, hv, _⟩
  ·cases h1
  ·simp only [Value.slice.injEq] at hv; exact hv.2.1
 subst hn
 unfold OwnE at *
 rw [List.length_set, ← ecells_size l k z hk]
 exact (World.ownsRow.stored h (k * 2 + 1) (.int .i64 z)).1
theorem ownE_rd2 {B : Nat} {w : World} {v : Value} {l : List Ext} (h : OwnE B w v l) : RdE w v l := (own_ext h).rdS
theorem OwnE.to2 {B : Nat} {w w' : World} {v : Value} {l : List Ext} (h : OwnE B w v l) (hb : Below w.heap.size w w') : OwnE B w' v l := rows_to h hb
theorem OwnE.block2 {B : Nat} {w : World} {v : Value} {l : List Ext} (h : OwnE B w v l) (hl : 0 < l.length) : ∃ b c, v = .slice (some ⟨b, 0, none⟩) l.length c ∧ B ≤ b ∧ l.length ≤ c := by
 rcases h.2 with ⟨_, h2⟩ | ⟨g, cap, cur, hv, hb, hg, hn, _⟩
 ·omega
 ·exact ⟨g, cap, hv, hb, hn⟩
theorem OwnE.cells2 {B : Nat} {w : World} {b c n : Nat} {l : List Ext} (h : OwnE B w (.slice (some ⟨b, 0, none⟩) n c) l) {k : Nat} {x : Ext} (hk : l[k]? = some x) : w.cell? ⟨b, k * 2, none⟩ = some (.int .i64 x.1) ∧ w.cell? ⟨b, k * 2 + 1, none⟩ = some (.int .i64 x.2) ∧ w.frozen? ⟨b, k * 2, none⟩ = false ∧ w.frozen? ⟨b, k * 2 + 1, none⟩ = false := by
 have hn : n = l.length := by
  rcases h.2 with ⟨h1, _⟩ | ⟨g', cap, cur, hv, _⟩
  ·cases h1
  ·simp only [Value.slice.injEq] at hv; exact hv.2.1
 subst hn
 obtain ⟨b', off, e, h0, h1⟩ := RdS.ext (ownE_rd2 h) hk
 simp only [Option.some.injEq, Addr.mk.injEq, and_true] at e
 obtain ⟨rfl, rfl⟩ := e
 exact ⟨by simpa using h0, by simpa using h1, World.ownsRow.frozenAt h _, World.ownsRow.frozenAt h _⟩
end Go.Proofs.Ytjjicajodjophaa

namespace Go.Proofs.Ytjjicajodjophaa
open Go.RowKit
def encI (n : Int) : Value := .int .i64 n
def OwnI (B : Nat) (w : World) (v : Value) (xs : List Int) : Prop := w.ownsRow B 3 1 v xs.length (xs.map encI)
theorem infoI : (Try.prog.info? 3).map (fun i => (i.zero, i.size, i.bytes)) = some (some (.int .i64 0), 1, 8) := by kernel_rfl
theorem OwnI.nil (B : Nat) (w : World) : OwnI B w (.slice none 0 0) [] := World.ownsRow_nil _ _ _ _
theorem OwnI.below {B : Nat} {w w' : World} {v : Value} {xs : List Int} (h : OwnI B w v xs) {C : Nat} (hC : w.heap.size ≤ C) (hb : Below C w w') : OwnI B w' v xs := by
 rcases h with ⟨h1, h2 | ⟨g, cap, cur, hv, hB, hg, hr⟩⟩
 ·exact ⟨h1, .inl h2⟩
 ·refine ⟨h1, .inr ⟨g, cap, cur, hv, hB, ?_, hr⟩⟩
  rw [hb.block g (by have := lt_of_block hg; omega)]; exact hg
theorem OwnI.mono {B C : Nat} {w : World} {v : Value} {xs : List Int} (h : OwnI B w v xs) (hC : C ≤ B) : OwnI C w v xs := by
 rcases h with ⟨h1, h2 | ⟨g, cap, cur, hv, hB, hr⟩⟩
 ·exact ⟨h1, .inl h2⟩
 ·exact ⟨h1, .inr ⟨g, cap, cur, hv, by omega, hr⟩⟩
theorem OwnI.from {B : Nat} {w : World} {v : Value} {xs : List Int} (h : OwnI B w v xs) : ∀ k, v.ownBlock = some k → B ≤ k := by
 intro k hk
 rcases h.2 with ⟨rfl, _⟩ | ⟨g, cap, cur, rfl, hb, _⟩
 ·cases hk
 ·simp only [Value.ownBlock, Option.some.injEq] at hk
  omega
theorem OwnI.slice {B : Nat} {w : World} {v : Value} {xs : List Int} (h : OwnI B w v xs) : ∃ ao cap, v = .slice ao xs.length cap ∧ xs.length ≤ cap ∧ cap ≤ maxLen ∧ (xs = [] ∨ ∃ g, ao = some ⟨g, 0, none⟩ ∧ ∀ i, i < xs.length → w.cell? ⟨g, i, none⟩ = some (.int .i64 (xs.getD i 0))) := by
 have h' := h
 rcases h.2 with ⟨rfl, h0⟩ | ⟨g, cap, cur, rfl, hb, hg, hn, hm, hs, ht⟩
 ·rw [h0]; exact ⟨none, 0, rfl, Nat.le_refl _, Nat.zero_le _, .inl (List.eq_nil_of_length_eq_zero h0)⟩
 ·refine ⟨_, cap, rfl, hn, hm, .inr ⟨g, rfl, fun i hi => ?_⟩⟩
  rw [h'.cellAt i (by omega)]
  simp [encI, hi]
end Go.Proofs.Ytjjicajodjophaa

namespace Go.Proofs.Ytjjicajodjophaa
open Go.RowKit
theorem rd_sub {w : World} {a : Option Addr} {len cap : Nat} {xs : List UInt8} (h : Rd w (.slice a len cap) xs) {q to : Nat} (h1 : q ≤ to) (h2 : to ≤ len) :
  Rd w (.slice (a.map fun x => x.add q) (to - q) (cap - q)) ((xs.take to).drop q) ∧ (cap = q → Rd w (.slice a (to - q) 0) ((xs.take to).drop q)) := by
 obtain ⟨ao, c, e, l1, m1, n1, r1⟩ := h
 simp only [Value.slice.injEq] at e
 obtain ⟨rfl, rfl, rfl⟩ := e
 have el : ((xs.take to).drop q).length = to - q := by simp; omega
 refine ⟨⟨a.map fun x => x.add q, cap - q, by rw [el], by rw [el]; omega, by omega, ?_, ?_⟩, fun hc => ?_⟩
 ·intro h
  cases a with
  | none => rw [n1 rfl]; simp
  | some x => cases h
 ·rcases r1 with rfl | ⟨b, off, rfl, hc⟩
  ·left; simp
  ·by_cases h0 : to = q
   ·left; apply List.eq_nil_of_length_eq_zero; rw [el]; omega
   ·right
    refine ⟨b, off + q, ?_, fun i hi => ?_⟩
    ·simp [Addr.add]
    ·rw [el] at hi
     have := hc (q + i) (by omega)
     rw [show off + q + i = off + (q + i) from by omega, this]
     simp only [bt]
     congr 3
     simp only [List.getD_eq_getElem?_getD, List.getElem?_drop, List.getElem?_take]
     rw [if_pos (by omega)]
 ·have h0 : to - q = 0 := by omega
  have en : (xs.take to).drop q = [] := List.eq_nil_of_length_eq_zero (by rw [el, h0])
  rw [en, h0]
  exact ⟨a, 0, rfl, Nat.le_refl _, Nat.zero_le _, fun _ => rfl, .inl rfl⟩
theorem rd_cut {w : World} {a : Option Addr} {len cap : Nat} {xs : List UInt8} (h : Rd w (.slice a len cap) xs) {q to : Nat} (h1 : q ≤ to) (h2 : to ≤ len) :
  ∃ A, (if cap = q then a else Option.map (fun x => x.add q) a) = A ∧ Rd w (.slice A (to - q) (cap - q)) ((xs.take to).drop q) := by
 obtain ⟨s1, s2⟩ := rd_sub h h1 h2
 by_cases hc : cap = q
 ·refine ⟨a, if_pos hc, ?_⟩
  rw [show cap - q = 0 from by omega]
  exact s2 hc
 ·exact ⟨_, if_neg hc, s1⟩
end Go.Proofs.Ytjjicajodjophaa

namespace Go.Proofs.Ytjjicajodjophaa
open Go.RowKit
theorem boxedN (w : World) (cs : Array Value) (t : TypeId) : ∃ u, u = w.alloc (.cells cs t) ∧ u.heap[w.heap.size]? = some (.cells cs t (0, 0)) ∧ Below w.heap.size w u ∧ u.heap.size = w.heap.size + 1 :=
 ⟨_, rfl, heap_alloc_last w _, (Below.refl _ _).alloc (Nat.le_refl _) _, by simp⟩
theorem retN {P : Program} {fn : Func} {R : Ending → World → Prop} {a : Act} {w : World} {p : Tmp} {ty : TypeId} (h : fn.results = #[.cell p ty]) (hd : a.defers = []) (g : Nat) (hp : a.tmps.getD p undef = .pointer (some ⟨g, 0, none⟩))
  (cs : Array Value) (t : TypeId) (fr : Nat × Nat) (hg : w.heap[g]? = some (.cells cs t fr)) (d : TypeDesc) (hu : P.underlying ty = some d) (hr : (match d with | .struct _ | .array _ _ => true | _ => false) = true) (hi : (P.info? ty).map (·.size) = some cs.size)
  (hR : R (.returned (.agg cs)) w) : bodyPost P fn R .ret a w := by
 refine bodyPost_ret (v := .agg cs) ?_ hd hR
 have hp' : a.tmps[p]?.getD undef = .pointer (some ⟨g, 0, none⟩) := by simpa using hp
 simp [results, h, hp', asAddr, run_loadVar_row w g t ty cs fr d hg hu hr hi]
theorem retNT {P : Program} {fn : Func} {R : Ending → World → Prop} {a : Act} {w : World} {p u1 : Tmp} {ty : TypeId} (h : fn.results = #[.cell p ty, .tmp u1]) (hd : a.defers = []) (g : Nat) (hp : a.tmps.getD p undef = .pointer (some ⟨g, 0, none⟩))
  (cs : Array Value) (t : TypeId) (fr : Nat × Nat) (hg : w.heap[g]? = some (.cells cs t fr)) (d : TypeDesc) (hu : P.underlying ty = some d) (hr : (match d with | .struct _ | .array _ _ => true | _ => false) = true) (hi : (P.info? ty).map (·.size) = some cs.size)
  (v1 : Value) (e1 : a.tmps.getD u1 undef = v1) (hR : R (.returned (.tuple #[.agg cs, v1])) w) : bodyPost P fn R .ret a w := by
 refine bodyPost_ret (v := .tuple #[.agg cs, v1]) ?_ hd hR
 have hp' : a.tmps[p]?.getD undef = .pointer (some ⟨g, 0, none⟩) := by simpa using hp
 have e1' : a.tmps[u1]?.getD undef = v1 := by simpa using e1
 simp [results, h, hp', e1', asAddr, run_loadVar_row w g t ty cs fr d hg hu hr hi]
theorem retNTT {P : Program} {fn : Func} {R : Ending → World → Prop} {a : Act} {w : World} {p u1 u2 : Tmp} {ty : TypeId} (h : fn.results = #[.cell p ty, .tmp u1, .tmp u2]) (hd : a.defers = []) (g : Nat) (hp : a.tmps.getD p undef = .pointer (some ⟨g, 0, none⟩))
  (cs : Array Value) (t : TypeId) (fr : Nat × Nat) (hg : w.heap[g]? = some (.cells cs t fr)) (d : TypeDesc) (hu : P.underlying ty = some d) (hr : (match d with | .struct _ | .array _ _ => true | _ => false) = true) (hi : (P.info? ty).map (·.size) = some cs.size)
  (v1 : Value) (e1 : a.tmps.getD u1 undef = v1) (v2 : Value) (e2 : a.tmps.getD u2 undef = v2) (hR : R (.returned (.tuple #[.agg cs, v1, v2])) w) : bodyPost P fn R .ret a w := by
 refine bodyPost_ret (v := .tuple #[.agg cs, v1, v2]) ?_ hd hR
 have hp' : a.tmps[p]?.getD undef = .pointer (some ⟨g, 0, none⟩) := by simpa using hp
 have e1' : a.tmps[u1]?.getD undef = v1 := by simpa using e1
 have e2' : a.tmps[u2]?.getD undef = v2 := by simpa using e2
 simp [results, h, hp', e1', e2', asAddr, run_loadVar_row w g t ty cs fr d hg hu hr hi]
end Go.Proofs.Ytjjicajodjophaa

namespace Go.Proofs.Ytjjicajodjophaa
def dv : Nat := 2197175160
def M32 : Nat := 4294967296
def st (m : Nat) : Nat := m / 2 ^^^ (if m % 2 = 1 then dv else 0)
def stn : Nat → Nat → Nat
 | 0, m => m
 | k + 1, m => stn k (st m)
theorem st_xor (a b : Nat) : st (a ^^^ b) = st a ^^^ st b := by
 have h : (a ^^^ b) / 2 = a / 2 ^^^ b / 2 := by
  apply Nat.eq_of_testBit_eq; intro i
  simp [Nat.testBit_div_two, Nat.testBit_xor]
 have h0 : (a ^^^ b) % 2 = (a % 2 + b % 2) % 2 := by
  have := Nat.xor_mod_two_pow (a := a) (b := b) (n := 1)
  simp at this
  rw [this]
  have ha := Nat.mod_two_eq_zero_or_one a
  have hb := Nat.mod_two_eq_zero_or_one b
  rcases ha with ha | ha <;> rcases hb with hb | hb <;> simp [ha, hb]
 unfold st
 rw [h, h0]
 have ha := Nat.mod_two_eq_zero_or_one a
 have hb := Nat.mod_two_eq_zero_or_one b
 rcases ha with ha | ha <;> rcases hb with hb | hb <;> simp [ha, hb]
 ·rw [Nat.xor_assoc]
 ·rw [Nat.xor_assoc, Nat.xor_comm (b / 2), ← Nat.xor_assoc]
 ·rw [show a / 2 ^^^ dv ^^^ (b / 2 ^^^ dv) = a / 2 ^^^ (dv ^^^ dv) ^^^ b / 2 from by
   rw [Nat.xor_comm (b / 2) dv, ← Nat.xor_assoc, Nat.xor_assoc (a / 2) dv dv]]
  simp
theorem stn_xor (k : Nat) : ∀ a b, stn k (a ^^^ b) = stn k a ^^^ stn k b := by
 induction k with
 | zero => intro a b; rfl
 | succ k ih => intro a b; show stn k (st (a ^^^ b)) = _; rw [st_xor, ih]; rfl
theorem stn_zero (k : Nat) : stn k 0 = 0 := by
 induction k with
 | zero => rfl
 | succ k ih => exact ih
theorem stn_add (a b m : Nat) : stn (a + b) m = stn a (stn b m) := by
 induction b generalizing m with
 | zero => rfl
 | succ b ih => exact ih (st m)
theorem stn_succ (k m : Nat) : stn (k + 1) m = st (stn k m) := by rw [Nat.add_comm, stn_add]; rfl
theorem st_lt {m : Nat} (h : m < M32) : st m < M32 := by
 unfold st
 have h1 : m / 2 < 2 ^ 32 := by unfold M32 at h; omega
 have h2 : (if m % 2 = 1 then dv else 0) < 2 ^ 32 := by split <;> decide
 exact Nat.xor_lt_two_pow h1 h2
theorem stn_lt (k : Nat) : ∀ {m : Nat}, m < M32 → stn k m < M32 := by
 induction k with
 | zero => intro m h; exact h
 | succ k ih => intro m h; exact ih (st_lt h)
theorem xor_lt {a b : Nat} (ha : a < M32) (hb : b < M32) : a ^^^ b < M32 := Nat.xor_lt_two_pow (n := 32) ha hb
theorem st_even (q : Nat) : st (2 * q) = q := by
 unfold st; simp
theorem stn_pow (k : Nat) : ∀ q, stn k (2 ^ k * q) = q := by
 induction k with
 | zero => intro q; simp [stn]
 | succ k ih =>
  intro q
  show stn k (st (2 ^ (k + 1) * q)) = q
  rw [show 2 ^ (k + 1) * q = 2 * (2 ^ k * q) from by rw [Nat.pow_succ]; ac_rfl, st_even, ih]
theorem split_xor (k r : Nat) : r = (r % 2 ^ k) ^^^ (2 ^ k * (r / 2 ^ k)) := by
 apply Nat.eq_of_testBit_eq; intro i
 rw [Nat.testBit_xor, Nat.testBit_mod_two_pow, Nat.testBit_two_pow_mul, Nat.testBit_div_two_pow]
 by_cases h : i < k
 ·simp [h, show ¬ k ≤ i by omega]
 ·simp [h, show k ≤ i by omega]
def tn (r o : Nat) : Nat := stn 8 (r ^^^ o)
theorem tn_lt {r o : Nat} (h : r < M32) (ho : o < 256) : tn r o < M32 := stn_lt 8 (xor_lt h (by unfold M32; omega))
theorem tn_table (r o : Nat) : tn r o = (r / 256) ^^^ stn 8 (r % 256 ^^^ o) := by
 unfold tn
 have h := split_xor 8 r
 have e : r ^^^ o = (r % 256 ^^^ o) ^^^ (2 ^ 8 * (r / 256)) := by
  conv => lhs; rw [h]
  show (r % 256) ^^^ (2 ^ 8 * (r / 256)) ^^^ o = _
  rw [Nat.xor_assoc, Nat.xor_comm (2 ^ 8 * (r / 256)) o, ← Nat.xor_assoc]
 rw [e, stn_xor, stn_pow, Nat.xor_comm]
def reg (r : Nat) (xs : List UInt8) : Nat := xs.foldl (fun r x => tn r x.toNat) r
theorem reg_app (r : Nat) (xs ys : List UInt8) : reg r (xs ++ ys) = reg (reg r xs) ys := by simp [reg]
theorem reg_lt (xs : List UInt8) : ∀ {r : Nat}, r < M32 → reg r xs < M32 := by
 induction xs with
 | nil => intro r h; exact h
 | cons x xs ih => intro r h; exact ih (tn_lt h (UInt8.toNat_lt x))
def num : List UInt8 → Nat
 | [] => 0
 | x :: xs => x.toNat ^^^ (2 ^ 8 * num xs)
theorem ff_is : ∃ n : Nat, n = 4294967295 := ⟨_, rfl⟩
noncomputable def ff : Nat := Classical.choose ff_is
theorem ff_eq : ff = 4294967295 := Classical.choose_spec ff_is
noncomputable def inv (r : Nat) : Nat := ff ^^^ r
theorem inv_lt {r : Nat} (h : r < M32) : inv r < M32 := xor_lt (by rw [ff_eq]; decide) h
noncomputable def ext (c : Nat) (xs : List UInt8) : Nat := inv (reg (inv c) xs)
noncomputable def sum (xs : List UInt8) : Nat := ext 0 xs
theorem ext_lt {c : Nat} (h : c < M32) (xs : List UInt8) : ext c xs < M32 := inv_lt (reg_lt xs (inv_lt h))
theorem sum_lt (xs : List UInt8) : sum xs < M32 := ext_lt (by decide) xs
end Go.Proofs.Ytjjicajodjophaa

namespace Go.Proofs.Ytjjicajodjophaa
def fl (xs : List UInt8) (p : Nat) : List UInt8 := xs.set (p / 8) (xs.getD (p / 8) 0 ^^^ UInt8.ofNat (2 ^ (p % 8)))
end Go.Proofs.Ytjjicajodjophaa

namespace Go.Proofs.Ytjjicajodjophaa
abbrev Blk := Int × Int × Int × Int × Int
def bls (b : Blk) : List Int := [b.1, b.2.1, b.2.2.1, b.2.2.2.1, b.2.2.2.2]
def bfit (n : Int) : Prop := 0 ≤ n ∧ n ≤ 1099511627776
instance (n : Int) : Decidable (bfit n) := by unfold bfit; infer_instance
def bok (b : Blk) : Prop := ∀ n ∈ bls b, bfit n
instance (b : Blk) : Decidable (bok b) := by unfold bok; infer_instance
def snum (x : List UInt8) (i : Nat) : Nat := numOf ((x.take (12 + 8 * i)).drop (4 + 8 * i))
def sfit (x : List UInt8) : Prop := ∀ i, i < 5 → snum x i ≤ 1099511627776
instance (x : List UInt8) : Decidable (sfit x) := by unfold sfit; infer_instance
def fx (xs : List UInt8) (k : Nat) (c : UInt8) : List UInt8 := xs.set k (xs.getD k 0 ^^^ c)
end Go.Proofs.Ytjjicajodjophaa

namespace Go.Proofs.Ytjjicajodjophaa
end Go.Proofs.Ytjjicajodjophaa

namespace Go.Proofs.Ytjjicajodjophaa
open Go.RowKit
end Go.Proofs.Ytjjicajodjophaa

namespace Go.Proofs.Ytjjicajodjophaa
open Go.RowKit
set_option maxRecDepth 100000 in
set_option maxHeartbeats 400000 in
theorem refNumber_any (w : World) (v : Value) (xs : List UInt8) (h : Rd w v xs) (h8 : xs.length ≤ 8) :
  Calls Try.prog 100 #[v] w fun e w' => e = .returned (.int .u64 (numOf xs : Nat)) ∧ w = w' := by
 obtain ⟨a1, c1, rfl, l1, m1, n1, r1⟩ := h
 rw [show maxLen = 9223372036854775807 from rfl] at m1
 go_enter Try.func100, Try.ntmps100
 go_wp2
 go_loop [3, 4] (fun s i => ∃ k : Nat, k ≤ xs.length ∧ i = .int .i64 k ∧ s = .int .u64 (numTo xs k : Nat)) (fun _ i => xs.length - (intOf i).toNat)
 case atStart => exact ⟨0, Nat.zero_le _, rfl, rfl⟩
 case round =>
  obtain ⟨k, hk, rfl, rfl⟩ := hrel
  by_cases hlt : k < xs.length
  ·rcases r1 with r1 | ⟨b1, o1, rfl, hc1⟩
   ·rw [r1] at hlt; simp at hlt
   have g1 := hc1 k hlt
   have hq : (k : Int) < (xs.length : Int) := by omega
   have hb := bt_bd xs k
   have hnl : numTo xs k < 72057594037927936 := by
    have h1 := numTo_lt xs k
    have h2 : (2 : Nat) ^ (8 * k) ≤ 2 ^ 56 := Nat.pow_le_pow_right (by omega) (by omega)
    have h3 : (2 : Nat) ^ 56 = 72057594037927936 := by decide
    omega
   have HS : Hid (((numTo xs (k + 1) : Nat) : Int) = (numTo xs k : Nat) * 256 + bt xs k) := by
    show ((numTo xs k * 256 + (xs.getD k 0).toNat : Nat) : Int) = _
    rw [Int.natCast_add, Int.natCast_mul]; rfl
   generalize numTo xs k = z at *
   generalize bt xs k = y at *
   clear hc1
   go_wp2
   go_round
   case rel => exact ⟨k + 1, by omega, by go_num, by rw [HS.out]⟩
   case measure => simp [intOf]; omega
  ·go_wp2
   go_ret
   exact ⟨by rw [show k = xs.length from by omega]; rfl, rfl⟩
end Go.Proofs.Ytjjicajodjophaa

namespace Go.Proofs.Ytjjicajodjophaa
open Go.RowKit
theorem st_int (r : Nat) (h : r < M32) : (r % 2 = 1 → bits .xor .u32 ((r : Int) / 2) 2197175160 = (st r : Int)) ∧ (r % 2 ≠ 1 → (r : Int) / 2 = (st r : Int)) := by
 unfold M32 at h
 refine ⟨fun h1 => ?_, fun h1 => ?_⟩
 ·rw [show (r : Int) / 2 = ((r / 2 : Nat) : Int) from by omega, show (2197175160 : Int) = ((2197175160 : Nat) : Int) from rfl, u32_xor_nat _ _ (by omega) (by omega)]
  unfold st; rw [if_pos h1]; rfl
 ·unfold st; rw [if_neg h1]; simp
theorem and1_int (r : Nat) (h : r < M32) : bits .and .u32 (r : Int) 1 = ((r % 2 : Nat) : Int) := by
 unfold M32 at h
 rw [show (1 : Int) = ((1 : Nat) : Int) from rfl, u32_and_nat _ _ (by omega) (by omega), nat_mask1]
set_option maxRecDepth 100000 in
theorem step_any (w : World) (r : Nat) (h : r < M32) :
  Calls Try.prog 133 #[.int .u32 r] w fun e w' => e = .returned (.int .u32 (st r : Nat)) ∧ w = w' := by
 obtain ⟨h1, h2⟩ := st_int r h
 have ha := and1_int r h
 by_cases hr : r % 2 = 1
 ·have hb : (bits .and .u32 (r : Int) 1 != 0) = true := by rw [ha, hr]; rfl
  replace h1 := hide (h1 hr)
  clear h2 ha hr
  go_enter Try.func133, Try.ntmps133
  go_wp2
  go_ret
  exact ⟨ret_int h1.out, rfl⟩
 ·have hb : (bits .and .u32 (r : Int) 1 != 0) = false := by rw [ha, show r % 2 = 0 by omega]; rfl
  replace h2 := hide (h2 hr)
  clear h1 ha hr
  go_enter Try.func133, Try.ntmps133
  go_wp2
  go_ret
  exact ⟨ret_int h2.out, rfl⟩
theorem xor_int (a b : Nat) (ha : a < M32) (hb : b < M32) : bits .xor .u32 (a : Int) (b : Int) = ((a ^^^ b : Nat) : Int) := u32_xor_nat a b ha hb
set_option maxRecDepth 100000 in
set_option maxHeartbeats 400000 in
theorem turn_any (w : World) (r o : Nat) (hr : r < M32) (ho : o < 256) :
  Calls Try.prog 124 #[.int .u32 r, .int .u8 o] w fun e w' => e = .returned (.int .u32 (tn r o : Nat)) ∧ w = w' := by
 have ho2 : o < M32 := by unfold M32; omega
 have HX := hide (xor_int r o hr ho2)
 go_enter Try.func124, Try.ntmps124
 go_wp2
 go_loop [0, 5] (fun s i => ∃ k : Nat, k ≤ 8 ∧ i = .int .i64 k ∧ s = .int .u32 (stn k (r ^^^ o) : Nat)) (fun _ i => 8 - (intOf i).toNat)
 case atStart => exact ⟨0, Nat.zero_le _, rfl, by first | exact congrArg _ HX.out | (simp; exact HX.out)⟩
 case round =>
  obtain ⟨k, hk, rfl, rfl⟩ := hrel
  by_cases hlt : k < 8
  ·have hq : (k : Int) < 8 := by omega
   have hs := stn_lt k (xor_lt hr ho2)
   have HS := hide (stn_succ k (r ^^^ o))
   generalize stn k (r ^^^ o) = s at *
   obtain ⟨h1, h2⟩ := st_int s hs
   have ha := and1_int s hs
   by_cases hr : s % 2 = 1
   ·have hb : bits .and .u32 (s : Int) 1 = 1 := by rw [ha, hr]; rfl
    replace h1 := hide (h1 hr)
    clear h2 ha hr
    go_wp2
    go_round
    case rel => exact ⟨k + 1, by omega, by go_num, by rw [HS.out, h1.out]⟩
    case measure => simp [intOf]; omega
   ·have hb : bits .and .u32 (s : Int) 1 = 0 := by rw [ha, show s % 2 = 0 by omega]; rfl
    replace h2 := hide (h2 hr)
    clear h1 ha hr
    go_wp2
    go_round
    case rel => exact ⟨k + 1, by omega, by go_num, by rw [HS.out, h2.out]⟩
    case measure => simp [intOf]; omega
  ·go_wp2
   go_ret
   exact ⟨ret_int (by rw [show k = 8 from by omega]; rfl), rfl⟩
theorem inv_int (r : Nat) (h : r < M32) : bits .xor .u32 IntKind.u32.max (r : Int) = ((inv r : Nat) : Int) := by
 show bits .xor .u32 4294967295 (r : Int) = _
 unfold inv; rw [ff_eq, show (4294967295 : Int) = ((4294967295 : Nat) : Int) from rfl]
 exact xor_int _ _ (by decide) h
end Go.Proofs.Ytjjicajodjophaa

namespace Go.Proofs.Ytjjicajodjophaa
open Go.RowKit
def cv (c : Nat → Nat) : List Value := (List.range 256).map fun i => .int .u32 (c i : Nat)
def up (c : Nat → Nat) (i v : Nat) : Nat → Nat := fun j => if j = i then v else c j
theorem cv_len (c : Nat → Nat) : (cv c).length = 256 := by simp [cv]
theorem cv_up (c : Nat → Nat) (i v : Nat) : (cv c).set i (.int .u32 (v : Nat)) = cv (up c i v) := by
 apply List.ext_getElem
 ·simp [cv]
 ·intro j h1 h2
  simp only [cv, List.getElem_set, List.getElem_map, List.getElem_range, up]
  by_cases h : i = j
  ·simp [h]
  ·simp [h, Ne.symm h]
theorem cv_at (c : Nat → Nat) (i : Nat) (h : i < 256) : (cv c)[i]? = some (.int .u32 (c i : Nat)) := by
 simp [cv, h]
def Tab (B : Nat) (w : World) (g : Nat) (c : Nat → Nat) : Prop := w.ownsRow B 202 1 (.slice (some ⟨g, 0, none⟩) 256 256) 256 (cv c)
theorem Tab.cell {B : Nat} {w : World} {g : Nat} {c : Nat → Nat} (h : Tab B w g c) (i : Nat) (hi : i < 256) : w.cell? ⟨g, i, none⟩ = some (.int .u32 (c i : Nat)) := by
 rw [h.cellAt i (by omega), cv_at c i hi]
theorem Tab.frozen {B : Nat} {w : World} {g : Nat} {c : Nat → Nat} (h : Tab B w g c) (i : Nat) : w.frozen? ⟨g, i, none⟩ = false := h.frozenAt i
theorem Tab.set {B : Nat} {w : World} {g : Nat} {c : Nat → Nat} (h : Tab B w g c) (i v : Nat) : Tab B (w.setCell ⟨g, i, none⟩ (.int .u32 (v : Nat))) g (up c i v) := by
 unfold Tab; rw [← cv_up]; exact (h.stored i _).1
def low (k : Nat) : Nat := (bits .and .i64 (k : Int) (-(k : Int))).toNat
theorem low_is : ∀ k : Nat, k < 256 → bits .and .i64 (k : Int) (-(k : Int)) = (low k : Int) ∧ low k ≤ k ∧ low k ^^^ (k - low k) = k ∧ (k = 0 ∨ (k - low k < k ∧ ∃ j, j < 8 ∧ low k = 128 / 2 ^ j)) := by
 decide +kernel
theorem top_is : ∀ k : Nat, k < 8 → stn (k + 1) 1 = stn 8 (128 / 2 ^ k) ∧ (128 : Int) / 2 ^ k = ((128 / 2 ^ k : Nat) : Int) ∧ 128 / 2 ^ k < 256 := by
 decide +kernel
theorem zero43 : (∀ w, (zeroValue 202).run Try.prog w = .ok (.agg (Array.replicate 256 (.int .u32 0))) w) ∧ (Try.prog.info? 202).map (·.size) = some 256 :=
 zero_of_info (by kernel_rfl)
theorem Tab.blk {B : Nat} {w w' : World} {g : Nat} {c : Nat → Nat} (h : Tab B w g c) (e : w'.heap[g]? = w.heap[g]?) : Tab B w' g c := by
 refine ⟨h.1, ?_⟩
 rcases h.2 with hn | ⟨g', cap, cur, hv, hb, hg, r⟩
 ·exact .inl hn
 ·refine .inr ⟨g', cap, cur, hv, hb, ?_, r⟩
  simp only [Value.slice.injEq, Option.some.injEq, Addr.mk.injEq] at hv
  obtain ⟨⟨rfl, _⟩, _⟩ := hv
  rw [e]; exact hg
theorem Tab.row {B : Nat} {w : World} {g : Nat} {c : Nat → Nat} (h : Tab B w g c) : B ≤ g ∧ w.heap[g]? = some (.cells (cv c).toArray 202 (0, 0)) := by
 rcases h.2 with hn | ⟨g', cap, cur, hv, hb, hg, _, _, hs, ht⟩
 ·simp at hn
 ·simp only [Value.slice.injEq, Option.some.injEq, Addr.mk.injEq, true_and, and_true] at hv
  obtain ⟨rfl, rfl⟩ := hv
  refine ⟨hb, ?_⟩
  rw [hg]
  have : cur = (cv c).toArray := by
   apply Array.ext'
   rw [← ht, List.take_of_length_le (by simp; omega)]
  rw [this]
theorem Tab.of {B : Nat} {w : World} {g : Nat} {c : Nat → Nat} (hB : B ≤ g) (h : w.heap[g]? = some (.cells (cv c).toArray 202 (0, 0))) : Tab B w g c :=
 ⟨by simp [cv_len], .inr ⟨g, 256, _, rfl, hB, h, by omega, by decide, by simp [cv_len], by rw [List.take_of_length_le (by simp [cv_len])]⟩⟩
theorem Tab.other {B : Nat} {w : World} {g g' : Nat} {c : Nat → Nat} (h : Tab B w g c) (hne : g ≠ g') (i : Nat) (v : Value) : Tab B (w.setCell ⟨g', i, none⟩ v) g c :=
 h.blk (by simp [World.setCell, Array.getElem?_modify, Ne.symm hne])
theorem zeros_cv : Array.replicate 256 (Value.int .u32 0) = (cv fun _ => 0).toArray := by
 apply Array.ext'; simp [cv, List.map_const']
theorem up_lt {c : Nat → Nat} (h : ∀ i, c i < M32) (k : Nat) {v : Nat} (hv : v < M32) : ∀ i, up c k v i < M32 := by
 intro i; unfold up; split
 ·exact hv
 ·exact h i
theorem up_low {c : Nat → Nat} {k : Nat} (hk : k < 8) (h : ∀ j, j < k → c (128 / 2 ^ j) = stn 8 (128 / 2 ^ j)) : ∀ j, j < k + 1 → up c (128 / 2 ^ k) (stn 8 (128 / 2 ^ k)) (128 / 2 ^ j) = stn 8 (128 / 2 ^ j) := by
 intro j hj
 unfold up
 by_cases e : 128 / 2 ^ j = 128 / 2 ^ k
 ·rw [if_pos e, e]
 ·rw [if_neg e]
  exact h j (by rcases Nat.lt_or_eq_of_le (Nat.le_of_lt_succ hj) with h1 | h1; exact h1; subst h1; exact absurd rfl e)
theorem up_all {c : Nat → Nat} {k : Nat} (hk : k < 256) (h8 : ∀ j, j < 8 → c (128 / 2 ^ j) = stn 8 (128 / 2 ^ j)) (h : ∀ j, j < k → c j = stn 8 j) :
  c (low k) ^^^ c (k - low k) = stn 8 k ∧ (∀ j, j < 8 → up c k (stn 8 k) (128 / 2 ^ j) = stn 8 (128 / 2 ^ j)) ∧ (∀ j, j < k + 1 → up c k (stn 8 k) j = stn 8 j) := by
 obtain ⟨_, _, h1, h2⟩ := low_is k hk
 refine ⟨?_, fun j hj => ?_, fun j hj => ?_⟩
 ·rcases h2 with h2 | ⟨h2, j, hj, e⟩
  ·subst h2
   have : low 0 = 0 := by decide
   rw [this, show (0 : Nat) - 0 = 0 from rfl, Nat.xor_self, stn_zero]
  ·have e2 : c (low k) = stn 8 (low k) := by rw [e]; exact h8 j hj
   rw [e2, h _ h2, ← stn_xor, h1]
 ·unfold up
  by_cases e : 128 / 2 ^ j = k
  ·rw [if_pos e, e]
  ·rw [if_neg e]; exact h8 j hj
 ·unfold up
  by_cases e : j = k
  ·rw [if_pos e, e]
  ·rw [if_neg e]; exact h j (by omega)
theorem below_drew {B : Nat} {w w' : World} (h : Below B w w') : Below B w w'.drew := ⟨h.os, h.tape, h.output, h.size, h.block⟩
theorem below_setRow {B : Nat} {w w' : World} (h : Below B w w') {g : Nat} (hg : B ≤ g) (cs : Array Value) : Below B w (w'.setRow g cs) :=
 ⟨h.os, h.tape, h.output, by simpa [World.setRow] using h.size, fun k hk => by
  rw [← h.block k hk]
  simp [World.setRow, Array.getElem?_modify, show ¬ g = k by omega]⟩
theorem all_one (c : Nat → Nat) : (cv c).toArray.all (·.oneCell') = true := by
 rw [Array.all_eq_true_iff_forall_mem]
 intro v hv
 simp only [cv, List.mem_toArray, List.mem_map] at hv
 obtain ⟨i, _, rfl⟩ := hv
 rfl
set_option maxRecDepth 100000 in
set_option maxHeartbeats 1000000 in
theorem steps_any (w : World) :
  Calls Try.prog 131 #[] w fun e w' => e = .returned (.agg (cv (stn 8)).toArray) ∧ Below w.heap.size w w' := by
 have hv := zero43.1
 rw [zeros_cv] at hv
 have h0 : Tab w.heap.size ((w.alloc (.cells (cv fun _ => 0).toArray 202)).alloc (.cells (cv fun _ => 0).toArray 202)) w.heap.size (fun _ => 0) :=
  .of (Nat.le_refl _) (by show ((w.heap.push _).push _)[_]? = _; simp [Array.getElem?_push])
 have h1 : Tab w.heap.size ((w.alloc (.cells (cv fun _ => 0).toArray 202)).alloc (.cells (cv fun _ => 0).toArray 202)) (w.heap.size + 1) (fun _ => 0) :=
  .of (Nat.le_succ _) (by have := heap_alloc_last (w.alloc (.cells (cv fun _ => 0).toArray 202)) (.cells (cv fun _ => 0).toArray 202); simpa using this)
 have hb0 : Below w.heap.size w ((w.alloc (.cells (cv fun _ => 0).toArray 202)).alloc (.cells (cv fun _ => 0).toArray 202)) :=
  ((Below.refl _ _).alloc (Nat.le_refl _) _).alloc (by simp) _
 go_enter Try.func131, Try.ntmps131
 go_wp2
 go_loopw [2, 6] (fun r i wr => ∃ (k : Nat) (c : Nat → Nat), k ≤ 8 ∧ (∀ i, c i < M32) ∧ i = .int .i64 k ∧ r = .int .u32 (stn k 1 : Nat) ∧ Tab w.heap.size wr w.heap.size (fun _ => 0) ∧ Tab w.heap.size wr (w.heap.size + 1) c ∧ (∀ j, j < k → c (128 / 2 ^ j) = stn 8 (128 / 2 ^ j)) ∧ Below w.heap.size w wr) (fun _ i _ => 8 - (intOf i).toNat)
 case atStart => exact ⟨0, _, Nat.zero_le _, fun _ => by decide, rfl, rfl, h0, h1, fun j hj => absurd hj (Nat.not_lt_zero _), hb0⟩
 case round =>
  obtain ⟨k, c, hk, hcl, rfl, rfl, hA, hT, hc, hb⟩ := hrel
  clear h0 h1 hb0
  by_cases hlt : k < 8
  ·have hq : (k : Int) < 8 := by omega
   obtain ⟨p1, p2, p3⟩ := top_is k hlt
   have hs := stn_lt k (show 1 < M32 by decide)
   have hx := hT.cell _ p3
   have hf := hT.frozen (128 / 2 ^ k)
   have H1 := hide (hT.set (128 / 2 ^ k) (stn 8 (128 / 2 ^ k)))
   have H2 := hide (hA.other (show w.heap.size ≠ w.heap.size + 1 by omega) (128 / 2 ^ k) (.int .u32 (stn 8 (128 / 2 ^ k) : Nat)))
   have H3 := hide (up_low hlt hc)
   have H4 := hide (hb.setCell (p := ⟨w.heap.size + 1, 128 / 2 ^ k, none⟩) (Nat.le_succ _) (.int .u32 (stn 8 (128 / 2 ^ k) : Nat)))
   have H5 := hide (stn_succ k 1)
   have H6 := hide (up_lt hcl (128 / 2 ^ k) (stn_lt 8 (m := 128 / 2 ^ k) (by unfold M32; omega)))
   rw [← p1, stn_succ] at H1 H2 H4 H6
   rw [← p1, stn_succ] at H3
   clear hT hA hb hc hcl
   replace p1 := hide p1
   generalize stn k 1 = s at *
   generalize 128 / 2 ^ k = p at *
   go_wp2_with (go_at_call 133; refine (step_any _ _ (by assumption)).mono ?_; rintro e w' ⟨rfl, rfl⟩)
   go_roundw
   case rel => exact ⟨k + 1, _, by omega, H6.out, by go_num, by rw [H5.out], H2.out, H1.out, H3.out, H4.out⟩
   case measure => simp [intOf]; omega
  ·obtain rfl : k = 8 := by omega
   have hc8 := hide hc
   clear hc
   replace hcl := hide hcl
   go_wp2
   go_loopw [16] (fun i wx => ∃ (k : Nat) (c : Nat → Nat), k ≤ 256 ∧ (∀ i, c i < M32) ∧ i = .int .i64 k ∧ Tab w.heap.size wx w.heap.size (fun _ => 0) ∧ Tab w.heap.size wx (w.heap.size + 1) c ∧ Hid (∀ j, j < 8 → c (128 / 2 ^ j) = stn 8 (128 / 2 ^ j)) ∧ Hid (∀ j, j < k → c j = stn 8 j) ∧ Below w.heap.size w wx) (fun i _ => 256 - (intOf i).toNat)
   case atStart => exact ⟨0, c, Nat.zero_le _, hcl.out, rfl, hA, hT, hc8, hide (fun j hj => absurd hj (Nat.not_lt_zero _)), hb⟩
   case round =>
    clear hA hT hb hc8 hcl
    rename_i K1 a1
    replace a1 := hide a1
    obtain ⟨k, c, hk, hcl, rfl, hA, hT, hc8, hc, hb⟩ := hrel
    by_cases hlt : k < 256
    ·have hq : (k : Int) < 256 := by omega
     obtain ⟨p1, p2, _, _⟩ := low_is k hlt
     obtain ⟨q1, q2, q3⟩ := up_all hlt hc8.out hc.out
     have hx := hT.cell (low k) (by omega)
     have hy := hT.cell (k - low k) (by omega)
     have hz := hT.cell k hlt
     have hf := hT.frozen k
     have HX := xor_int (c (low k)) (c (k - low k)) (hcl _) (hcl _)
     rw [q1] at HX
     have H1 := hide (hT.set k (stn 8 k))
     have H2 := hide (hA.other (show w.heap.size ≠ w.heap.size + 1 by omega) k (.int .u32 (stn 8 k : Nat)))
     have H4 := hide (hb.setCell (p := ⟨w.heap.size + 1, k, none⟩) (Nat.le_succ _) (.int .u32 (stn 8 k : Nat)))
     have H3 := hide q2
     have H6 := hide (up_lt hcl k (stn_lt 8 (m := k) (by unfold M32; omega)))
     have H5 := hide q3
     clear hT hA hb hc hc8 q1 q2 q3 hcl
     generalize stn 8 k = s at *
     generalize c (low k) = cl at *
     generalize c (k - low k) = cm at *
     have hl1 : ((low k : Nat) : Int) < 256 := by omega
     have hl2 : (k : Int) - ((low k : Nat) : Int) = ((k - low k : Nat) : Int) := by omega
     have hl3 : ((k - low k : Nat) : Int) < 256 := by omega
     go_wp2
     go_region
     go_wp2
     go_roundw
     case rel => exact ⟨k + 1, _, by omega, H6.out, by go_num, H2.out.blk rfl, H1.out.blk rfl, H3, H5, below_drew H4.out⟩
     case measure => simp [intOf]; omega
    ·obtain rfl : k = 256 := by omega
     have hcv : cv c = cv (stn 8) := by
      unfold cv
      exact List.map_congr_left fun i hi => by rw [hc.out i (List.mem_range.1 hi)]
     clear hc hc8 hcl
     have hB := hb.size
     have hr := hT.row.2
     have hr0 := hA.row.2
     rw [hcv] at hr
     clear hA hT
     go_wp2
     refine a1.out _ _ ?_
     refine wp_seq (wp_region_list ?_)
     refine wpList_load_row rfl _ _ rfl (w.heap.size + 1) rfl _ _ _ _ hr Try.underlying202 rfl (by rw [show (cv (stn 8)).toArray.size = 256 from by simp [cv_len]]; exact zero43.2) ?_
     refine wpList_store_row rfl _ _ _ rfl w.heap.size _ rfl rfl _ _ hr0 (by rw [show (cv (stn 8)).toArray.size = 256 from by simp [cv_len]]; exact zero43.2) ?_ ?_ ?_
     ·simp [cv_len]
     ·exact all_one _
     ·refine wp_ret ?_
      refine bodyPost_ret (v := .agg (cv (stn 8)).toArray) ?_ rfl ⟨rfl, below_setRow hb (Nat.le_refl _) _⟩
      exact results_cell_row rfl _ _ w.heap.size _ _ _ _ rfl (setRow_heap _ _ _ _ _ _ hr0) Try.underlying202 rfl (by rw [show (cv (stn 8)).toArray.size = 256 from by simp [cv_len]]; exact zero43.2)
end Go.Proofs.Ytjjicajodjophaa

namespace Go.Proofs.Ytjjicajodjophaa
open Go.RowKit
theorem made_setRow (w : World) (c d : Nat → Nat) : (w.alloc (.cells (cv c).toArray 202)).setRow w.heap.size (cv d).toArray = w.alloc (.cells (cv d).toArray 202) :=
 World.setRow_alloc_new w _ _ _
theorem alloc_tab {ops : Array Oper} {rest : List Oper} {a : Act} {w : World} {Q : Exit → Act → World → Prop} {dst : Option Tmp} {ty : TypeId} {pos : String} {after : Array Edge} (hz : (zeroValue 202).run Try.prog w = .ok (.agg (cv fun _ => 0).toArray) w)
  (h : wpList Try.prog ops Q rest (a.put dst (.pointer (some ⟨w.heap.size, 0, none⟩))) (w.alloc (.cells (cv fun _ => 0).toArray 202))) :
  wpList Try.prog ops Q ({ dst := dst, op := .alloc 202, type := ty, pos := pos, after := after, guard := none } :: rest) a w :=
 Great.wpList_allocTo rfl dst rfl _ _ (by simp [execOp, Instr.alloc, hz, newVar, newRow, Value.cells]) h
theorem tab_size : (Try.prog.info? 202).map (·.size) = some (cv (stn 8)).toArray.size := by
 rw [show (cv (stn 8)).toArray.size = 256 from by simp [cv_len]]; exact zero43.2
theorem tab_made {w w1 : World} (hb : Below w.heap.size w w1) : ∃ w2, w2 = w1.alloc (.cells (cv (stn 8)).toArray 202) ∧ (∀ i, i < 256 → w2.cell? ⟨w1.heap.size, i, none⟩ = some (.int .u32 (stn 8 i : Nat))) ∧ Below w.heap.size w w2 := by
 refine ⟨_, rfl, fun i hi => ?_, hb.alloc hb.size _⟩
 rw [cell_of_row _ _ i _ _ (0, 0) (heap_alloc_last w1 _)]
 simp [cv, hi]
theorem round_int (r x : Nat) (hr : r < M32) (hx : x < 256) :
  IntKind.u8.wrap (r : Int) = ((r % 256 : Nat) : Int) ∧ bits .xor .u8 ((r % 256 : Nat) : Int) (x : Int) = ((r % 256 ^^^ x : Nat) : Int) ∧ r % 256 ^^^ x < 256 ∧
  bits .xor .u32 ((r : Int) / 256) ((stn 8 (r % 256 ^^^ x) : Nat) : Int) = ((tn r x : Nat) : Int) := by
 have hlt : r % 256 ^^^ x < 2 ^ 8 := Nat.xor_lt_two_pow (by omega) hx
 refine ⟨?_, u8_xor_nat _ _ (by omega) hx, hlt, ?_⟩
 ·rw [IntKind.wrap_u8']; omega
 ·rw [show (r : Int) / 256 = ((r / 256 : Nat) : Int) from by omega, xor_int _ _ (by unfold M32 at *; omega) (stn_lt 8 (by unfold M32; omega)), tn_table]
theorem reg_succ (r : Nat) (xs : List UInt8) (k : Nat) (h : k < xs.length) : reg r (xs.take (k + 1)) = tn (reg r (xs.take k)) (xs.getD k 0).toNat := by
 rw [List.take_add_one, List.getElem?_eq_getElem h, reg_app]
 simp [reg, h]
set_option maxRecDepth 100000 in
set_option maxHeartbeats 1000000 in
theorem ext_any (w : World) (c : Nat) (v : Value) (xs : List UInt8) (hc : c < M32) (hrd : Rd w v xs) (hm : xs.length ≤ 1000000000000000) :
  Calls Try.prog 123 #[.int .u32 c, v] w fun e w' => e = .returned (.int .u32 (ext c xs : Nat)) ∧ Below w.heap.size w w' := by
 obtain ⟨ao, cap, rfl⟩ := hrd.slice
 have hic := inv_lt hc
 have HI := inv_int c hc
 have hv := zero43.1
 rw [zeros_cv] at hv
 go_enter Try.func123, Try.ntmps123
 go_wp2_with (go_at_call 131; refine (steps_any _).mono ?_; rintro e w1 ⟨rfl, hb⟩; rename_i K2 hK2; refine hK2 _ _ ?_; clear hK2; refine alloc_tab (hv _) ?_; refine wpList_store_row rfl _ _ _ rfl w1.heap.size _ rfl rfl _ _ (heap_alloc_last _ _) tab_size (by simp [cv_len]) (all_one _) ?_; rw [made_setRow]; obtain ⟨w2, hw2, hcell, hb2⟩ := tab_made hb; rw [← hw2]; replace hw2 := hide hw2; clear hv; replace hrd := hrd.to hb2; clear hw2 hb; generalize w1.heap.size = g at *; obtain ⟨a1, c1, e1, l1, m1, n1, r1⟩ := hrd; cases e1; unfold maxLen at m1; generalize (cv (stn 8)).toArray = T at *)
 go_loop [6, 14] (fun r i => ∃ k : Nat, k ≤ xs.length ∧ i = .int .i64 k ∧ r = .int .u32 (reg (inv c) (xs.take k) : Nat)) (fun _ i => xs.length - (intOf i).toNat)
 case atStart => exact ⟨0, Nat.zero_le _, rfl, rfl⟩
 case round =>
  obtain ⟨k, hk, rfl, rfl⟩ := hrel
  have hreg := reg_lt (xs.take k) hic
  by_cases hlt : k < xs.length
  ·rcases r1 with r1 | ⟨b1, o1, rfl, hc1⟩
   ·rw [r1] at hlt; simp at hlt
   have g1 := hc1 k hlt
   have hq : (k : Int) < (xs.length : Int) := by omega
   have HS := hide (reg_succ (inv c) xs k hlt)
   have hx := UInt8.toNat_lt (xs.getD k 0)
   unfold bt at g1
   generalize (xs.getD k 0).toNat = x at *
   generalize reg (inv c) (xs.take k) = r at *
   obtain ⟨q1, q2, q3, q4⟩ := round_int r x hreg hx
   have g2 := hcell _ q3
   have q5 : ((r % 256 ^^^ x : Nat) : Int) < 256 := by omega
   clear hcell hc1 HI
   generalize r % 256 ^^^ x = y at *
   generalize stn 8 y = z at *
   generalize tn r x = s at *
   generalize r % 256 = rr at *
   go_wp2
   go_round
   case rel => exact ⟨k + 1, by omega, by go_num, by rw [HS.out]⟩
   case measure => simp [intOf]; omega
  ·obtain rfl : k = xs.length := by omega
   rw [List.take_length] at *
   have HF := inv_int _ hreg
   go_wp2
   go_ret
   exact ⟨rfl, hb2⟩
set_option maxRecDepth 100000 in
theorem sum_any (w : World) (v : Value) (xs : List UInt8) (hrd : Rd w v xs) (hm : xs.length ≤ 1000000000000000) :
  Calls Try.prog 105 #[v] w fun e w' => e = .returned (.int .u32 (sum xs : Nat)) ∧ Below w.heap.size w w' := by
 go_enter Try.func105, Try.ntmps105
 go_wp2_with (go_at_call 123; refine (ext_any _ 0 _ _ (by decide) hrd hm).mono ?_; rintro e w1 ⟨rfl, hb⟩)
 go_ret
 exact ⟨rfl, hb⟩
set_option maxRecDepth 100000 in
set_option maxHeartbeats 1000000 in
theorem pext_any (w : World) (c : Nat) (v : Value) (xs : List UInt8) (hc : c < M32) (hrd : Rd w v xs) (hm : xs.length ≤ 1000000000000000) :
  Calls Try.prog 107 #[.int .u32 c, v] w fun e w' => e = .returned (.int .u32 (ext c xs : Nat)) ∧ w = w' := by
 have hic := inv_lt hc
 have HI := inv_int c hc
 obtain ⟨a1, c1, rfl, l1, m1, n1, r1⟩ := hrd
 unfold maxLen at m1
 go_enter Try.func107, Try.ntmps107
 go_wp2
 go_loop [0, 5] (fun r i => ∃ k : Nat, k ≤ xs.length ∧ i = .int .i64 k ∧ r = .int .u32 (reg (inv c) (xs.take k) : Nat)) (fun _ i => xs.length - (intOf i).toNat)
 case atStart => exact ⟨0, Nat.zero_le _, rfl, rfl⟩
 case round =>
  obtain ⟨k, hk, rfl, rfl⟩ := hrel
  have hreg := reg_lt (xs.take k) hic
  by_cases hlt : k < xs.length
  ·rcases r1 with r1 | ⟨b1, o1, rfl, hc1⟩
   ·rw [r1] at hlt; simp at hlt
   have g1 := hc1 k hlt
   have hq : (k : Int) < (xs.length : Int) := by omega
   have HS := hide (reg_succ (inv c) xs k hlt)
   have hx := UInt8.toNat_lt (xs.getD k 0)
   unfold bt at g1
   generalize (xs.getD k 0).toNat = x at *
   generalize reg (inv c) (xs.take k) = r at *
   clear hc1 HI
   go_wp2_with (go_at_call 124; refine (turn_any _ _ _ hreg hx).mono ?_; rintro e w' ⟨rfl, rfl⟩)
   go_round
   case rel => exact ⟨k + 1, by omega, by go_num, by rw [HS.out]⟩
   case measure => simp [intOf]; omega
  ·obtain rfl : k = xs.length := by omega
   rw [List.take_length] at *
   have HF := inv_int _ hreg
   go_wp2
   go_ret
   exact ⟨rfl, rfl⟩
set_option maxRecDepth 100000 in
theorem psum_any (w : World) (v : Value) (xs : List UInt8) (hrd : Rd w v xs) (hm : xs.length ≤ 1000000000000000) :
  Calls Try.prog 93 #[v] w fun e w' => e = .returned (.int .u32 (sum xs : Nat)) ∧ w = w' := by
 go_enter Try.func93, Try.ntmps93
 go_wp2_with (go_at_call 107; refine (pext_any _ 0 _ _ (by decide) hrd hm).mono ?_; rintro e w1 ⟨rfl, rfl⟩)
 go_ret
 exact ⟨rfl, rfl⟩
end Go.Proofs.Ytjjicajodjophaa

namespace Go.Proofs.Ytjjicajodjophaa
open Go.RowKit
end Go.Proofs.Ytjjicajodjophaa

namespace Go.Proofs.Ytjjicajodjophaa
open Go.RowKit
end Go.Proofs.Ytjjicajodjophaa

namespace Go.Proofs.Ytjjicajodjophaa
open Go.RowKit
end Go.Proofs.Ytjjicajodjophaa

namespace Go.Proofs.Ytjjicajodjophaa
open Go.RowKit
set_option maxRecDepth 100000 in
theorem bclone_at (w : World) (b o n c : Nat) (xs : List UInt8) (h : Rd w (.slice (some ⟨b, o, none⟩) n c) xs) (hm : xs.length ≤ 140737488351232) :
  Calls Try.prog 88 #[.slice (some ⟨b, o, none⟩) n c] w fun e w' => ∃ v', e = .returned v' ∧ OwnB w.heap.size w' v' xs ∧ Below w.heap.size w w' := by
 obtain ⟨X, hX⟩ : ∃ u, u = w.alloc (.cells #[] 5) := ⟨_, rfl⟩
 have oX : OwnB w.heap.size X (.slice (some ⟨w.heap.size, 0, none⟩) 0 0) [] := by rw [hX]; exact own_lit w [] (by decide)
 have bX : Below w.heap.size w X := by rw [hX]; exact (Below.refl _ _).alloc (Nat.le_refl _) _
 have rX := h.to bX
 have hl : ([] : List UInt8).length + xs.length ≤ 140737488355328 := by simp; omega
 have hsz := bX.size
 have hnil : (binOp .eql 62 (.slice (some ⟨b, o, none⟩) n c) (.slice none 0 0)).run Try.prog w = .ok (.bool false) w := Lib.run_eql_slice_nil w 62 5 _ n c 0 0 Try.underlying62
 clear h
 go_enter Try.func88, Try.ntmps88
 go_wp2_with (at_builtin; rw [← hX]; refine wpList_append_octs rfl _ _ rfl w.heap.size _ _ _ _ rfl rfl oX rX hl hsz ?_; intro v6 w6 o6 b6 _)
 go_ret
 exact ⟨_, rfl, by simpa using o6, bX.trans b6⟩
end Go.Proofs.Ytjjicajodjophaa

namespace Go.Proofs.Ytjjicajodjophaa
open Go.RowKit
end Go.Proofs.Ytjjicajodjophaa

namespace Go.Proofs.Ytjjicajodjophaa
open Go.RowKit
set_option maxRecDepth 100000 in
set_option maxHeartbeats 400000 in
theorem rcopied_any (w : World) (v : Value) (xs : List UInt8) (h : Rd w v xs) (hm : xs.length ≤ 140737488355328) :
  Calls Try.prog 77 #[v] w fun e w' => ∃ v', e = .returned v' ∧ OwnB w.heap.size w' v' xs ∧ Below w.heap.size w w' := by
 obtain ⟨a, c, rfl, l1, m1, n1, r1⟩ := h
 obtain ⟨i0, hi, hz0, hz1, hz2⟩ := info_parts info8
 cases a with
 | none =>
  have : xs = [] := by
   rcases r1 with r1 | ⟨b, off, h, _⟩
   ·exact r1
   ·cases h
  subst this
  obtain rfl : c = 0 := n1 rfl
  go_enter Try.func77, Try.ntmps77
  go_wp2_with (at_builtin; refine wpList_append_own_none rfl _ _ 62 rfl w.heap.size 5 i0 1 Try.underlying62 hi (.slice none 0 0) 0 [] rfl (World.ownsRow_nil _ _ _ _) rfl ?_)
  go_ret
  exact ⟨_, rfl, World.ownsRow_nil _ _ _ _, Below.refl _ _⟩
 | some ad =>
  have n1 : (xs.map enc).length = xs.length * 1 := by simp
  have n2 : ∀ j u, (xs.map enc)[j]? = some u → w.cell? (ad.add j) = some u := by
   rcases r1 with rfl | ⟨b, off, h, hc⟩
   ·intro j u hj; simp at hj
   ·obtain rfl : ad = ⟨b, off, none⟩ := by simpa using h
    exact news_octs hc
  have n3 := enc_one xs
  have n4 : 0 + xs.length ≤ maxLen := by rw [show maxLen = 9223372036854775807 from rfl]; omega
  have n5 : (0 + xs.length) * 1 ≤ 140737488355328 := by omega
  have N2 := hide n2
  clear n2 r1
  go_enter Try.func77, Try.ntmps77
  go_wp2_with (at_builtin; refine wpList_append_own _ rfl _ _ 62 rfl w.heap.size 5 i0 (.int .u8 0) 1 1 Try.underlying62 hi hz0 hz1 hz2 rfl (by decide) (.slice none 0 0) 0 [] rfl (World.ownsRow_nil _ _ _ _) ad xs.length c (xs.map enc) rfl n1 N2.out n3 n4 n5 (Nat.le_refl _) ?_; intro v1 w3 hown1 hgrow1 hnil1)
  go_ret
  refine ⟨_, rfl, ?_, (Below.refl _ _).grown hgrow1 (Nat.le_refl _) (fun k h => by cases h)⟩
  unfold OwnB
  simpa using hown1
end Go.Proofs.Ytjjicajodjophaa

namespace Go.Proofs.Ytjjicajodjophaa
open Go.RowKit
section
variable {P : Program} {ops : Array Oper} {md : Region.Mode} {Q : Exit → Act → World → Prop} {S : World → Prop}
def wpAnyM (P : Program) (md : Region.Mode) (ops : Array Oper) (Q : Exit → Act → World → Prop) (S : World → Prop) (m : Nat) (L : Array Bool → Act → World → Prop) : Nat → Array Bool → Act → World → Prop
 | 0, listed, a, w => L listed a w
 | f + 1, listed, a, w => Region.ready md ops listed ≠ [] ∧ ∀ i ∈ Region.ready md ops listed, i < m ∧ wpOp P ops Q i (fun a' w' => S w' ∧ wpAnyM P md ops Q S m L f (listed.setIfInBounds i true) a' w') a w
theorem wpAny_of_mid {m g : Nat} {L : Array Bool → Act → World → Prop} (hL : ∀ listed a w, L listed a w → wpAny P md ops Q g listed a w) :
  ∀ (f : Nat) (listed : Array Bool) (a : Act) (w : World), wpAnyM P md ops Q S m L f listed a w → wpAny P md ops Q (f + g) listed a w
 | 0, listed, a, w, h => by rw [Nat.zero_add]; exact hL _ _ _ h
 | f + 1, listed, a, w, h => by
  rw [show f + 1 + g = (f + g) + 1 by omega]
  exact ⟨fun h0 => absurd h0 h.1, fun i hi => wpOp_mono (fun a' w' h' => wpAny_of_mid hL f _ a' w' h'.2) (h.2 i hi).2⟩
theorem put_tmps (a : Act) (d : Option Tmp) (v : Value) : a.put d v = { a with tmps := (a.put d v).tmps } := by cases d <;> rfl
theorem wpAnyM_first {m i : Nat} {oi : Oper} {v : Value} {L : Array Bool → Act → World → Prop} (hi : ops[i]? = some oi) (hsel : ∀ (j : Nat) (o : Oper) cs b, ops[j]? = some o → o.op ≠ .select cs b)
  (hs : Region.sinkB md ops m = true) (hc : Region.chainB md ops m = true) (hm : m < ops.size) (him : i < m) (hQ : ∀ c a w, Q (.panic c) (a.put oi.dst v) w → Q (.panic c) a w)
  (hdone : ∀ listed a w, L listed a w → ∀ j ∈ Region.ready md ops listed, m ≤ j) :
  ∀ (f : Nat) (listed : Array Bool) (a : Act) (w : World), HeadInv md ops m listed →
   (∀ j oj, ops[j]? = some oj → j ≠ i → listed.getD j true = false → (∀ e ∈ oj.after, Region.binds md e = true → e.on ≠ i) → oi.apart ops oj = true) →
   i ∈ Region.ready md ops listed → YieldsIf P ops S oi v a → S w →
   wpAnyM P md ops Q S m L f (listed.setIfInBounds i true) (a.put oi.dst v) w → wpAnyM P md ops Q S m L (f + 1) listed a w := by
 intro f
 induction f with
 | zero =>
  intro listed a w inv _ hr hy hS H
  have hun := (mem_ready.1 hr).1
  refine ⟨fun h => (by rw [h] at hr; cases hr), fun j hj => ?_⟩
  have hjn : j < m := by
   rcases Nat.lt_or_ge j m with h | h
   ·exact h
   ·exact absurd hj (tail_waits hs hc hm inv _ i rfl him hun j h)
  refine ⟨hjn, ?_⟩
  by_cases hji : j = i
  ·subst hji; exact hy.wpOp hi hS ⟨hS, H⟩
  ·have := hdone _ _ _ H j (ready_mono hj hji)
   omega
 | succ f ih =>
  intro listed a w inv hfree hr hy hS H
  have hun := (mem_ready.1 hr).1
  refine ⟨fun h => (by rw [h] at hr; cases hr), fun j hj => ?_⟩
  have hjn : j < m := by
   rcases Nat.lt_or_ge j m with h | h
   ·exact h
   ·exact absurd hj (tail_waits hs hc hm inv _ i rfl him hun j h)
  refine ⟨hjn, ?_⟩
  by_cases hji : j = i
  ·subst hji; exact hy.wpOp hi hS ⟨hS, H⟩
  ·have h1 := (H.2 j (ready_mono hj hji)).2
   obtain ⟨hjun, oj, hoj, hall⟩ := mem_ready.1 hj
   have hnot : ∀ e ∈ oj.after, Region.binds md e = true → e.on ≠ i := fun e he hb heq => by
    have h1 := hall e he hb
    rw [heq, getD_both hun] at h1
    cases h1
   have h2 := wpOp_putIf hoj (hfree j oj hoj hji hjun hnot) (fun cs b => hsel i oi cs b hi) (fun cs b => hsel j oj cs b hoj) hQ hy h1
   have hfree' : ∀ k ok, ops[k]? = some ok → k ≠ i → (listed.setIfInBounds j true).getD k true = false →
     (∀ e ∈ ok.after, Region.binds md e = true → e.on ≠ i) → oi.apart ops ok = true := fun k ok hk hki hun hno => by
    refine hfree k ok hk hki ?_ hno
    by_cases hjk : j = k
    ·subst hjk; exact hjun
    ·rw [getD_set_ne true hjk] at hun; exact hun
   refine wpOp_mono (fun a' w' h3 => ⟨h3.2.1, ih (listed.setIfInBounds j true) a' w' (inv.set hj hjn) hfree' (ready_mono hr (Ne.symm hji)) h3.1 h3.2.1 ?_⟩) h2
   rw [Array.setIfInBounds_comm _ _ hji]
   exact h3.2.2
def wpTake (P : Program) (ops : Array Oper) (S : World → Prop) (Z : Act → Prop) : List Oper → Act → Prop
 | [], a => Z a
 | o :: l, a => ∃ v, YieldsIf P ops S o v a ∧ wpTake P ops S Z l (a.put o.dst v)
def wpListS (P : Program) (ops : Array Oper) (Q : Exit → Act → World → Prop) (S : World → Prop) (Z : Act → World → Prop) : List Oper → Act → World → Prop
 | [], a, w => Z a w
 | o :: l, a, w => if Region.wanted o (yielded ops a.tmps) = true then o.wp P a w (fun a' w' => S w' ∧ wpListS P ops Q S Z l a' w') Q else S w ∧ wpListS P ops Q S Z l (a.put o.dst undef) w
theorem wpAnyM_seq {m g : Nat} {Z : Act → World → Prop} : ∀ (l : List Oper) (k : Nat) (listed : Array Bool) (a : Act) (w : World), (∀ j, j < l.length → l[j]? = ops[k + j]?) → k + l.length = m →
  Region.seqB md ops (l.length + g) k listed = true → wpListS P ops Q S Z l a w → wpAnyM P md ops Q S m (fun listed' a' w' => Region.seqB md ops g m listed' = true ∧ Z a' w') l.length listed a w
 | [], k, listed, a, w, _, hk, hB, h => by
  have : k = m := by simpa using hk
  subst this
  exact ⟨by simpa using hB, h⟩
 | o :: l, k, listed, a, w, hl, hk, hB, h => by
  have h0 : ops[k]? = some o := by simpa using (hl 0 (by simp)).symm
  rw [List.length_cons, show l.length + 1 + g = (l.length + g) + 1 by omega] at hB
  simp only [Region.seqB, Bool.and_eq_true, decide_eq_true_eq] at hB
  refine ⟨fun h1 => (by rw [hB.1] at h1; cases h1), fun i hi => ?_⟩
  rw [hB.1] at hi
  have hik : i = k := by simpa using hi
  subst hik
  refine ⟨by simp only [List.length_cons] at hk; omega, ?_⟩
  have hw : wpOp P ops Q i (fun a' w' => S w' ∧ wpListS P ops Q S Z l a' w') a w := by
   unfold wpOp
   simp only [h0]
   unfold wpListS at h
   split
   ·rename_i hwd; rw [if_pos hwd] at h; exact .inl h
   ·rename_i hwd; rw [if_neg hwd] at h; exact h
  exact wpOp_mono (fun a' w' h' => ⟨h'.1, wpAnyM_seq l (i + 1) _ a' w' (fun j hj => by have := hl (j + 1) (by simp; omega); simpa [Nat.add_assoc, Nat.add_comm 1 j] using this) (by simp only [List.length_cons] at hk; omega) hB.2 h'.2⟩) hw
theorem wpAnyM_take {n m g f : Nat} {L : Array Bool → Act → World → Prop} {Z : Act → Prop} (hsel : Region.noSelect ops = true) (hs : Region.sinkB md ops m = true) (hc : Region.chainB md ops m = true) (hm : m < ops.size) (hnm : n ≤ m)
  (hQ : ∀ c (a : Act) t w, Q (.panic c) { a with tmps := t } w → Q (.panic c) a w) (hdone : ∀ listed a w, L listed a w → ∀ j ∈ Region.ready md ops listed, m ≤ j) {w : World} (hS : S w)
  (hZ : ∀ listed a, Region.seqB md ops g n listed = true → HeadInv md ops m listed → Z a → wpAnyM P md ops Q S m L f listed a w) :
  ∀ (l : List Oper) (k : Nat) (listed : Array Bool) (a : Act), (∀ j, j < l.length → l[j]? = ops[k + j]?) → k + l.length = n → HeadInv md ops m listed →
  Region.lexHead md ops g l.length k listed = true → wpTake P ops S Z l a → wpAnyM P md ops Q S m L (l.length + f) listed a w
 | [], k, listed, a, _, hk, inv, hB, h => by
  have : k = n := by simpa using hk
  subst this
  rw [List.length_nil, Nat.zero_add]
  exact hZ _ _ (by simpa [Region.lexHead] using hB) inv h
 | o :: l, k, listed, a, hl, hk, inv, hB, h => by
  have h0 : ops[k]? = some o := by simpa using (hl 0 (by simp)).symm
  simp only [List.length_cons, Region.lexHead, Bool.and_eq_true] at hB
  obtain ⟨⟨hr, hf⟩, hB'⟩ := hB
  have hkn : k < m := by simp only [List.length_cons] at hk; omega
  have hr' : k ∈ Region.ready md ops listed := by simpa using hr
  obtain ⟨v, hy, hK⟩ := h
  rw [List.length_cons, show l.length + 1 + f = (l.length + f) + 1 by omega]
  exact wpAnyM_first h0 (Region.noSelect_spec hsel) hs hc hm hkn (fun c a w h => hQ c a (a.put o.dst v).tmps w (by rw [← put_tmps]; exact h)) hdone _ listed a w inv (Region.free_spec h0 hf) hr' hy hS
   (wpAnyM_take hsel hs hc hm hnm hQ hdone hS hZ l (k + 1) _ _ (fun j hj => by have := hl (j + 1) (by simp; omega); simpa [Nat.add_assoc, Nat.add_comm 1 j] using this) (by simp only [List.length_cons] at hk; omega) (inv.set hr' hkn) hB' hK)
def midB (md : Region.Mode) (ops : Array Oper) (n m : Nat) : Bool :=
 Region.noSelect ops && decide (n ≤ m) && decide (m < ops.size) && Region.sinkB md ops m && Region.chainB md ops m && Region.lexHead md ops (ops.size - n) n 0 (Array.replicate ops.size false)
theorem wp_region_mid {id : Nat} {a : Act} {w : World} {l : List Oper} (S : World → Prop) (n m : Nat) (hf : P.follows .mixedOrders = true) (hB : midB .any l.toArray n m = true)
  (hQ : ∀ c (a : Act) t w, Q (.panic c) { a with tmps := t } w → Q (.panic c) a w) (hS : S w.drew)
  (h : wpTake P l.toArray S (fun a' => wpListS P l.toArray Q S (fun a'' w'' => wpList P l.toArray Q (l.drop m) a'' w'') ((l.take m).drop n) a' w.drew) (l.take n) a) : (Code.region id l.toArray true).wp P Q a w := by
 simp only [midB, Bool.and_eq_true, decide_eq_true_eq] at hB
 obtain ⟨⟨⟨⟨⟨hsel, hnm⟩, hm⟩, hs⟩, hc⟩, hlex⟩ := hB
 have hm' : m < l.length := by simpa using hm
 have hln : (l.take n).length = n := by simp; omega
 have hlm : ((l.take m).drop n).length = m - n := by simp; omega
 have hld : (l.drop m).length = l.length - m := by simp
 have inv0 : HeadInv .any l.toArray m (Array.replicate l.toArray.size false) :=
  ⟨by simp, fun j oj _ hl => (by rw [getD_replicate_false] at hl; cases hl), fun t _ ht => getD_in (by simpa using ht) (getD_replicate_false _ _)⟩
 have H := wpAnyM_take (md := .any) (g := l.toArray.size - n) (f := m - n) (L := fun listed' a' w' => Region.seqB .any l.toArray (l.length - m) m listed' = true ∧ wpList P l.toArray Q (l.drop m) a' w') hsel hs hc hm hnm hQ
  (fun listed a w hL => seqB_ready hL.1) (w := w.drew) hS (fun listed a hseq inv hz => by
   have hsz : l.toArray.size - n = ((l.take m).drop n).length + (l.length - m) := by rw [hlm]; simp; omega
   rw [hsz] at hseq
   have := wpAnyM_seq (md := .any) (m := m) ((l.take m).drop n) n listed a w.drew (fun j hj => by
    rw [hlm] at hj
    rw [List.getElem?_drop, List.getElem?_take, if_pos (by omega)]
    simp) (by rw [hlm]; omega) hseq hz
   rwa [hlm] at this) (l.take n) 0 _ a (fun j hj => by
    rw [hln] at hj
    rw [List.getElem?_take, if_pos hj]; simp) (by rw [hln]; omega) inv0 (by rw [hln]; exact hlex) h
 refine wp_region_any hf ?_
 have := wpAny_of_mid (Q := Q) (g := l.length - m) (fun listed a' w' hL => by
  have := wpAny_of_seq (md := .any) (Q' := Q) (l.drop m) m listed a' w' (fun j => by simp [List.getElem?_drop]) (by rw [hld]; exact hL.1) hL.2
  rwa [hld] at this) _ _ _ _ H
 rw [hln, show n + (m - n) + (l.length - m) = l.toArray.size by simp; omega] at this
 exact this
theorem take_one {o : Oper} {l : List Oper} {a : Act} {Z : Act → Prop} {v : Value} (hw : Region.wanted o (yielded ops a.tmps) = true) (hy : ∀ w, S w → (execOp a.eval o).run P w = .ok (.value v) w) (h : wpTake P ops S Z l (a.put o.dst v)) : wpTake P ops S Z (o :: l) a :=
 ⟨v, .inl ⟨hw, hy⟩, h⟩
theorem mid_one {o : Oper} {l : List Oper} {a : Act} {w : World} {Z : Act → World → Prop} (h : ∀ K : Act → World → Prop, (∀ a' w', S w' → wpListS P ops Q S Z l a' w' → K a' w') → if Region.wanted o (yielded ops a.tmps) = true then o.wp P a w K Q else K (a.put o.dst undef) w) : wpListS P ops Q S Z (o :: l) a w := by
 have := h (fun a' w' => S w' ∧ wpListS P ops Q S Z l a' w') (fun a' w' h1 h2 => ⟨h1, h2⟩)
 unfold wpListS
 exact this
end
end Go.Proofs.Ytjjicajodjophaa

namespace Go.Proofs.Ytjjicajodjophaa
open Go.RowKit
theorem mixed : Try.prog.follows .mixedOrders = true := by kernel_rfl
end Go.Proofs.Ytjjicajodjophaa

namespace Go.Proofs.Ytjjicajodjophaa
open Go.RowKit
theorem wp_call_of {P : Program} {o : Oper} {a : Act} {w : World} {K : Act → World → Prop} {Q : Exit → Act → World → Prop} (n : FuncId) (xs : Array Operand) (ts : Array TypeId)
  (ho : o.op = .call { callee := .value (.func n), args := xs, argTypes := ts }) (vals : Array Value) (hv : xs.map a.eval = vals) (hent : (callFunc n vals).run P w = .ok (.enter n vals) w) {R : Ending → World → Prop} (hc : Calls P n vals w R)
  (h : ∀ e w', R e w' → ∃ v, e = .returned v ∧ K (a.put o.dst v) w') : o.wp P a w K Q := by
 unfold Oper.wp
 have he : a.eval (.func n) = .func (.func n) #[] #[] := rfl
 simp [execOp, ho, resolve, invoke, hv, he, Deferred.ofValue]
 rw [hent, Oper.upon_enter]
 refine hc.mono ?_
 intro e w' hr
 obtain ⟨v, rfl, hk⟩ := h e w' hr
 exact hk
theorem step_call {P : Program} {ops : Array Oper} {o : Oper} {a : Act} {w : World} {K : Act → World → Prop} {Q : Exit → Act → World → Prop} {E : Prop} (hgd : o.guard = none) (n : FuncId) (xs : Array Operand) (ts : Array TypeId)
  (ho : o.op = .call { callee := .value (.func n), args := xs, argTypes := ts }) (vals : Array Value) (hv : xs.map a.eval = vals) (hent : (callFunc n vals).run P w = .ok (.enter n vals) w) {R : Ending → World → Prop} (hc : Calls P n vals w R)
  (h : ∀ e w', R e w' → ∃ v, e = .returned v ∧ K (a.put o.dst v) w') : if Region.wanted o (yielded ops a.tmps) = true then Oper.wp P o a w K Q else E := by
 rw [if_pos (by simp [Region.wanted, hgd])]
 exact wp_call_of n xs ts ho vals hv hent hc h
end Go.Proofs.Ytjjicajodjophaa

namespace Go.Proofs.Ytjjicajodjophaa
open Go.RowKit
abbrev SSec : Shp (List (List UInt8)) := Shp.list 62 Shp.octs
theorem infoB : (Try.prog.info? 62).map (fun i => (i.zero, i.size, i.bytes)) = some (some (.slice none 0 0), 1, 24) := by kernel_rfl
end Go.Proofs.Ytjjicajodjophaa

namespace Go.Proofs.Ytjjicajodjophaa
open Go.RowKit
theorem own_wrt {B : Nat} {w : World} {z : Int} {v : Value} {x : List UInt8} (h : OwnB B w v x) : Own SWr B w [.int .i64 z, v] (z, x) := by
 obtain ⟨F, h1, h2, h3⟩ := h.toOwn
 exact ⟨F, ⟨[.int .i64 z], [v], [], F, rfl, rfl, ⟨rfl, rfl⟩, h1⟩, h2, h3⟩
end Go.Proofs.Ytjjicajodjophaa

namespace Go.Proofs.Ytjjicajodjophaa
open Go.RowKit
theorem snoc_take {α : Type} (xs : List α) {k : Nat} {x : α} (hx : xs[k]? = some x) : xs.take k ++ [x] = xs.take (k + 1) := by
 rw [List.take_add_one, hx]; rfl
def dfit (d : Dsk) : Prop := d.1.length * 24 ≤ 140737488351232 ∧ (∀ x ∈ d.1, x.length ≤ 140737488351232) ∧ d.2.length * 32 ≤ 140737488351232 ∧ ∀ y ∈ d.2, y.2.length ≤ 140737488351232
theorem row2_cells {w : World} {g : Nat} {x y : Value} {t : TypeId} (h : w.heap[g]? = some (.cells #[x, y] t (0, 0))) : w.cell? ⟨g, 0, none⟩ = some x ∧ w.cell? ⟨g, 1, none⟩ = some y ∧ w.frozen? ⟨g, 0, none⟩ = false ∧ w.frozen? ⟨g, 1, none⟩ = false :=
 ⟨by rw [cell_of_row _ _ 0 _ _ (0, 0) h]; rfl, by rw [cell_of_row _ _ 1 _ _ (0, 0) h]; rfl, frozen_of_row _ _ 0 _ _ h, frozen_of_row _ _ 1 _ _ h⟩
theorem cell_alloc {w : World} {b i : Nat} {v : Value} (h : w.cell? ⟨b, i, none⟩ = some v) (o : Obj) : (w.alloc o).cell? ⟨b, i, none⟩ = some v :=
 (World.cell?_of_block (a := ⟨b, i, none⟩) (Below.heap_alloc w o b (cell_lt h))).trans h
end Go.Proofs.Ytjjicajodjophaa

namespace Go.Proofs.Ytjjicajodjophaa
open Go.RowKit
end Go.Proofs.Ytjjicajodjophaa

namespace Go.Proofs.Ytjjicajodjophaa
open Go.RowKit
theorem DOk.fit {d : Dsk} (h : DOk d) : dfit d := by
 obtain ⟨_, h2, h3, h4, h5⟩ := h
 refine ⟨by omega, fun x hx => by rw [h4 x hx]; omega, by omega, fun y hy => by rw [(h5 y hy).2]; omega⟩
end Go.Proofs.Ytjjicajodjophaa

namespace Go.Proofs.Ytjjicajodjophaa
open Go.RowKit
end Go.Proofs.Ytjjicajodjophaa

namespace Go.Proofs.Ytjjicajodjophaa
open Go.RowKit
section
variable {F : Fence} {n m : Nat} {P : Program}
end
end Go.Proofs.Ytjjicajodjophaa

namespace Go.Proofs.Ytjjicajodjophaa
open Go.RowKit
end Go.Proofs.Ytjjicajodjophaa

namespace Go.Proofs.Ytjjicajodjophaa
open Go.RowKit
end Go.Proofs.Ytjjicajodjophaa

namespace Go.Proofs.Ytjjicajodjophaa
open Go.RowKit
end Go.Proofs.Ytjjicajodjophaa

namespace Go.Proofs.Ytjjicajodjophaa
open Go.RowKit Go.Shelf
attribute [local go_sem] Oper.semAt_some
structure WE where
 y : Wrt
 sv : Value
def KpC (V V' : World) : Prop := V.heap.size ≤ V'.heap.size ∧ ∀ (k : Nat) (o : Obj), V.heap[k]? = some o → o.isCells = true → V'.heap[k]? = some o
theorem KpC.trans {X Y Z : World} (h : KpC X Y) (k : KpC Y Z) : KpC X Z := ⟨Nat.le_trans h.1 k.1, fun i o h1 h2 => k.2 i o (h.2 i o h1 h2) h2⟩
theorem KpC.put (W : World) (l : Nat) (o o' : Obj) (h : W.heap[l]? = some o) (ho : o.isCells = false) : KpC W (W.putObj l o') := by
 refine ⟨by simp [World.putObj], fun k q hq hc => ?_⟩
 rw [World.putObj_heap_other (by rintro rfl; rw [h] at hq; cases hq; rw [ho] at hc; cases hc)]
 exact hq
theorem KpC.alloc (W : World) (o : Obj) : KpC W (W.alloc o) := ⟨by simp, fun k q hq _ => (Below.heap_alloc W o k (Array.getElem?_eq_some_iff.1 hq).1).trans hq⟩
theorem cell_obj {w : World} {b i : Nat} {v : Value} (h : w.cell? ⟨b, i, none⟩ = some v) : ∃ o, w.heap[b]? = some o ∧ o.isCells = true := by
 have hb := cell_lt h
 refine ⟨w.heap[b], Array.getElem?_eq_getElem hb, ?_⟩
 have e : w.heap[b]? = some w.heap[b] := Array.getElem?_eq_getElem hb
 unfold World.cell? at h
 rw [show (⟨b, i, none⟩ : Addr).block = b from rfl, e] at h
 cases hh : w.heap[b] with
 | cells c t f => rfl
 | _ => rw [hh] at h; simp at h
theorem KpC.cell {V V' : World} (h : KpC V V') {b i : Nat} {v : Value} (hc : V.cell? ⟨b, i, none⟩ = some v) : V'.cell? ⟨b, i, none⟩ = some v := by
 obtain ⟨o, h1, h2⟩ := cell_obj hc
 rw [World.cell?_of_block (w := V) (show V'.heap[b]? = V.heap[b]? from (h.2 b o h1 h2).trans h1.symm)]
 exact hc
theorem KpC.rd {V V' : World} (h : KpC V V') {v : Value} {xs : List UInt8} (hr : Rd V v xs) : Rd V' v xs := by
 obtain ⟨ao, cap, rfl, h1, h2, h3, h4⟩ := hr
 refine ⟨ao, cap, rfl, h1, h2, h3, ?_⟩
 rcases h4 with h4 | ⟨b, off, rfl, hc⟩
 ·exact .inl h4
 ·exact .inr ⟨b, off, rfl, fun i hi => h.cell (hc i hi)⟩
def RW (ws : List Wrt) (pre : List WE) (x : WE) (V : World) : Prop := Rd V x.sv x.y.2 ∧ ∃ k, k + 1 + pre.length = ws.length ∧ ws[k]? = some x.y ∧ pre.map WE.y = (ws.drop (k + 1)).reverse
theorem KpC.own {V V' : World} (h : KpC V V') {B : Nat} {v : Value} {xs : List UInt8} (o : OwnB B V v xs) : OwnB B V' v xs := by
 rcases o with ⟨h1, h2 | ⟨g, cap, cur, hv, hB, hg, hr⟩⟩
 ·exact ⟨h1, .inl h2⟩
 ·exact ⟨h1, .inr ⟨g, cap, cur, hv, hB, h.2 g _ hg rfl, hr⟩⟩
end Go.Proofs.Ytjjicajodjophaa

namespace Go.Proofs.Ytjjicajodjophaa
abbrev Frm := UInt8 × List UInt8
def fhead (k : UInt8) (d : List UInt8) : List UInt8 := [167, k] ++ oc d.length 2 ++ d
noncomputable def fseal (k : UInt8) (d : List UInt8) : List UInt8 := fhead k d ++ oc (sum (fhead k d)) 4
theorem fhead_len (k : UInt8) (d : List UInt8) : (fhead k d).length = d.length + 4 := by simp [fhead, oc_length]; omega
theorem fseal_len (k : UInt8) (d : List UInt8) : (fseal k d).length = d.length + 8 := by simp [fseal, fhead_len, oc_length]
def ftold (b : List UInt8) : Nat := numOf ((b.drop 2).take 2)
noncomputable def fopen (b : List UInt8) : Nat × Frm × Nat :=
 if b.length < 8 then (8, (0, []), 0)
 else if b.getD 0 0 ≠ 167 then (22, (0, []), 0)
 else if 4096 < ftold b then (5, (0, []), 0)
 else if b.length < ftold b + 8 then (8, (0, []), 0)
 else if numOf ((b.drop (ftold b + 4)).take 4) ≠ sum (b.take (ftold b + 4)) then (21, (0, []), 0)
 else (0, (b.getD 1 0, (b.drop 4).take (ftold b)), ftold b + 8)
theorem fopen_ok {b : List UInt8} (h : (fopen b).1 = 0) : 8 ≤ b.length ∧ b.getD 0 0 = 167 ∧ ftold b ≤ 4096 ∧ ftold b + 8 ≤ b.length ∧ numOf ((b.drop (ftold b + 4)).take 4) = sum (b.take (ftold b + 4)) ∧
  (fopen b).2.1 = (b.getD 1 0, (b.drop 4).take (ftold b)) ∧ (fopen b).2.2 = ftold b + 8 := by
 unfold fopen at *
 by_cases h1 : b.length < 8
 ·simp [h1] at h
 rw [if_neg h1] at *
 by_cases h2 : b.getD 0 0 ≠ 167
 ·rw [if_pos h2] at h; simp at h
 rw [if_neg h2] at *
 by_cases h3 : 4096 < ftold b
 ·simp [h3] at h
 rw [if_neg h3] at *
 by_cases h4 : b.length < ftold b + 8
 ·simp [h4] at h
 rw [if_neg h4] at *
 by_cases h5 : numOf ((b.drop (ftold b + 4)).take 4) ≠ sum (b.take (ftold b + 4))
 ·rw [if_pos h5] at h; simp at h
 rw [if_neg h5] at *
 exact ⟨by omega, Decidable.not_not.1 h2, by omega, by omega, Decidable.not_not.1 h5, rfl, rfl⟩
theorem fopen_yes {b : List UInt8} (h1 : 8 ≤ b.length) (h2 : b.getD 0 0 = 167) (h3 : ftold b ≤ 4096) (h4 : ftold b + 8 ≤ b.length) (h5 : numOf ((b.drop (ftold b + 4)).take 4) = sum (b.take (ftold b + 4))) :
  fopen b = (0, (b.getD 1 0, (b.drop 4).take (ftold b)), ftold b + 8) := by
 unfold fopen
 rw [if_neg (by omega), if_neg (by simpa using h2), if_neg (by omega), if_neg (by omega), if_neg (by simpa using h5)]
theorem fopen_no {b : List UInt8} (h : (fopen b).1 ≠ 0) : (fopen b).2.1 = (0, []) ∧ (fopen b).2.2 = 0 := by
 unfold fopen at *
 by_cases h1 : b.length < 8
 ·simp [h1]
 rw [if_neg h1] at *
 by_cases h2 : b.getD 0 0 ≠ 167
 ·rw [if_pos h2]; exact ⟨rfl, rfl⟩
 rw [if_neg h2] at *
 by_cases h3 : 4096 < ftold b
 ·simp [h3]
 rw [if_neg h3] at *
 by_cases h4 : b.length < ftold b + 8
 ·simp [h4]
 rw [if_neg h4] at *
 by_cases h5 : numOf ((b.drop (ftold b + 4)).take 4) ≠ sum (b.take (ftold b + 4))
 ·rw [if_pos h5]; simp
 rw [if_neg h5] at h
 exact absurd rfl h
theorem fopen_le (b : List UInt8) : (fopen b).2.2 ≤ b.length ∧ (fopen b).2.2 ≤ 4104 ∧ ((fopen b).1 = 0 → 8 ≤ (fopen b).2.2) := by
 by_cases h : (fopen b).1 = 0
 ·obtain ⟨_, _, h3, h4, _, _, h7⟩ := fopen_ok h
  rw [h7]; exact ⟨h4, by omega, fun _ => by omega⟩
 ·rw [(fopen_no h).2]; exact ⟨Nat.zero_le _, Nat.zero_le _, fun k => absurd k h⟩
theorem take_app {α : Type} (b c : List α) (n : Nat) (h : n ≤ b.length) : (b ++ c).take n = b.take n := List.take_append_of_le_length h
theorem fhead_told (k : UInt8) (d c : List UInt8) (h : d.length ≤ 4096) : ftold (fhead k d ++ c) = d.length := by
 unfold ftold fhead
 have e : (([167, k] ++ oc d.length 2 ++ d ++ c).drop 2).take 2 = oc d.length 2 := by
  rw [List.append_assoc, List.append_assoc]
  show (oc d.length 2 ++ (d ++ c)).take 2 = _
  rw [take_app _ _ _ (by rw [oc_length]; exact Nat.le_refl _), List.take_of_length_le (by rw [oc_length]; exact Nat.le_refl _)]
 rw [e, numOf_oc _ _ (by omega)]
theorem fhead_data (k : UInt8) (d c : List UInt8) : ((fhead k d ++ c).drop 4).take d.length = d := by
 unfold fhead
 rw [List.append_assoc]
 have e : ([167, k] ++ oc d.length 2 : List UInt8).length = 4 := by simp [oc_length]
 rw [List.drop_append_of_le_length (by rw [e]; exact Nat.le_refl _), List.drop_of_length_le (by rw [e]; exact Nat.le_refl _), List.nil_append, take_app _ _ _ (Nat.le_refl _), List.take_of_length_le (Nat.le_refl _)]
theorem fopen_seal (k : UInt8) (d c : List UInt8) (h : d.length ≤ 4096) : fopen (fseal k d ++ c) = (0, (k, d), d.length + 8) := by
 have hl := fhead_len k d
 have e0 : fseal k d ++ c = fhead k d ++ (oc (sum (fhead k d)) 4 ++ c) := by unfold fseal; rw [List.append_assoc]
 have et : ftold (fseal k d ++ c) = d.length := by rw [e0]; exact fhead_told k d _ h
 have es : sum (fhead k d) < 2 ^ (8 * 4) := sum_lt _
 have e1 : ((fseal k d ++ c).drop (d.length + 4)).take 4 = oc (sum (fhead k d)) 4 := by
  rw [e0, List.drop_append_of_le_length (by omega), List.drop_of_length_le (by omega), List.nil_append, take_app _ _ _ (by rw [oc_length]; exact Nat.le_refl _), List.take_of_length_le (by rw [oc_length]; exact Nat.le_refl _)]
 have e2 : (fseal k d ++ c).take (d.length + 4) = fhead k d := by
  rw [e0, take_app _ _ _ (by omega), List.take_of_length_le (by omega)]
 have hL : (fseal k d ++ c).length = d.length + 8 + c.length := by rw [List.length_append, fseal_len]
 rw [fopen_yes (by omega) (by rw [e0]; rfl) (by rw [et]; exact h) (by rw [et]; omega) (by rw [et, e1, e2, numOf_oc _ _ es]), et]
 rw [e0, fhead_data]
 rfl
noncomputable def stt (b : List UInt8) : Nat → Option (List Frm × Nat)
 | 0 => some ([], 0)
 | n + 1 => (stt b n).bind fun s => if (fopen (b.drop s.2)).1 = 0 then some (s.1 ++ [(fopen (b.drop s.2)).2.1], s.2 + (fopen (b.drop s.2)).2.2) else none
theorem stt_len (b : List UInt8) : ∀ n {fs p}, stt b n = some (fs, p) → fs.length = n ∧ p ≤ b.length ∧ 8 * n ≤ p := by
 intro n
 induction n with
 | zero => intro fs p h; simp [stt] at h; obtain ⟨rfl, rfl⟩ := h; simp
 | succ n ih =>
  intro fs p h
  simp only [stt, Option.bind_eq_some_iff] at h
  obtain ⟨⟨fs', p'⟩, h1, h2⟩ := h
  obtain ⟨i1, i2, i3⟩ := ih h1
  by_cases h0 : (fopen (b.drop p')).1 = 0
  ·rw [if_pos h0] at h2
   simp only [Option.some.injEq, Prod.mk.injEq] at h2
   obtain ⟨rfl, rfl⟩ := h2
   obtain ⟨j1, _, j3⟩ := fopen_le (b.drop p')
   rw [List.length_drop] at j1
   have := j3 h0
   refine ⟨by simp [i1], by omega, by omega⟩
  ·rw [if_neg h0] at h2; cases h2
theorem stt_step {b : List UInt8} {n p : Nat} {fs : List Frm} (h : stt b n = some (fs, p)) (h0 : (fopen (b.drop p)).1 = 0) :
  stt b (n + 1) = some (fs ++ [(fopen (b.drop p)).2.1], p + (fopen (b.drop p)).2.2) := by
 simp only [stt, h, Option.bind_some, if_pos h0]
theorem stt_stop {b : List UInt8} {n p : Nat} {fs : List Frm} (h : stt b n = some (fs, p)) (h0 : (fopen (b.drop p)).1 ≠ 0) : stt b (n + 1) = none := by
 simp only [stt, h, Option.bind_some, if_neg h0]
theorem stt_none {b : List UInt8} {n : Nat} (h : stt b n = none) (m : Nat) (hm : n ≤ m) : stt b m = none := by
 induction m with
 | zero => rw [show n = 0 from by omega] at h; exact h
 | succ m ih =>
  by_cases e : n = m + 1
  ·subst e; exact h
  ·simp only [stt, ih (by omega), Option.bind_none]
def ScEnd (b : List UInt8) (fs : List Frm) (p : Nat) : Prop := stt b fs.length = some (fs, p) ∧ (fopen (b.drop p)).1 ≠ 0
theorem ScEnd.le {b : List UInt8} {fs : List Frm} {p : Nat} (h : ScEnd b fs p) : p ≤ b.length ∧ 8 * fs.length ≤ p := (stt_len b _ h.1).2
theorem ScEnd.one {b : List UInt8} {fs gs : List Frm} {p q : Nat} (h : ScEnd b fs p) (k : ScEnd b gs q) : fs = gs ∧ p = q := by
 have aux : ∀ {fs gs : List Frm} {p q : Nat}, ScEnd b fs p → ScEnd b gs q → gs.length ≤ fs.length := by
  intro fs gs p q h k
  by_cases hl : gs.length ≤ fs.length
  ·exact hl
  ·have := stt_none (stt_stop h.1 h.2) gs.length (by omega)
   rw [k.1] at this; cases this
 have hl : fs.length = gs.length := Nat.le_antisymm (aux k h) (aux h k)
 have := h.1
 rw [hl, k.1] at this
 simp only [Option.some.injEq, Prod.mk.injEq] at this
 exact ⟨this.1.symm, this.2.symm⟩
end Go.Proofs.Ytjjicajodjophaa

namespace Go.Proofs.Ytjjicajodjophaa
noncomputable def layG : List Frm → List UInt8
 | [] => []
 | f :: r => fseal f.1 f.2 ++ layG r
theorem layG_app (a b : List Frm) : layG (a ++ b) = layG a ++ layG b := by
 induction a with
 | nil => rfl
 | cons f r ih => simp only [List.cons_append, layG, ih, List.append_assoc]
theorem layG_one (f : Frm) : layG [f] = fseal f.1 f.2 := by simp [layG]
noncomputable def eAt (gs : List Frm) (k : Nat) : Nat := (layG (gs.take k)).length
theorem eAt_all (gs : List Frm) : eAt gs gs.length = (layG gs).length := by simp [eAt]
theorem take_succ' {α : Type} (l : List α) (k : Nat) (d : α) (h : k < l.length) : l.take (k + 1) = l.take k ++ [l.getD k d] := by
 rw [List.take_succ_eq_append_getElem h]; simp [List.getD_eq_getElem?_getD, h]
theorem eAt_succ (gs : List Frm) (k : Nat) (h : k < gs.length) : eAt gs (k + 1) = eAt gs k + (gs.getD k (0, [])).2.length + 8 := by
 unfold eAt
 rw [take_succ' gs k (0, []) h, layG_app, layG_one, List.length_append, fseal_len]; omega
theorem stt_lay (gs : List Frm) (c : List UInt8) (hg : ∀ g ∈ gs, g.2.length ≤ 4096) (k : Nat) (hk : k ≤ gs.length) : stt (layG gs ++ c) k = some (gs.take k, eAt gs k) := by
 induction k with
 | zero => simp [stt, eAt, layG]
 | succ k ih =>
  have i := ih (by omega)
  have e1 : (layG gs ++ c).drop (eAt gs k) = fseal (gs.getD k (0, [])).1 (gs.getD k (0, [])).2 ++ (layG (gs.drop (k + 1)) ++ c) := by
   have e : gs = gs.take k ++ (gs.getD k (0, []) :: gs.drop (k + 1)) := by
    conv => lhs; rw [← List.take_append_drop (k + 1) gs, take_succ' gs k (0, []) (by omega)]
    simp
   have hl : layG gs ++ c = layG (gs.take k) ++ (fseal (gs.getD k (0, [])).1 (gs.getD k (0, [])).2 ++ (layG (gs.drop (k + 1)) ++ c)) := by
    conv => lhs; rw [e, layG_app]
    simp only [layG, List.append_assoc]
   rw [hl]
   unfold eAt
   rw [List.drop_left]
  have hm : gs.getD k (0, []) ∈ gs := by
   simp only [List.getD_eq_getElem?_getD, List.getElem?_eq_getElem (show k < gs.length by omega), Option.getD_some]
   exact List.getElem_mem _
  have f := fopen_seal (gs.getD k (0, [])).1 (gs.getD k (0, [])).2 (layG (gs.drop (k + 1)) ++ c) (hg _ hm)
  have := stt_step i (by rw [e1, f])
  rw [this, e1, f, take_succ' gs k (0, []) (by omega), eAt_succ gs k (by omega)]
  rfl
theorem sc_lay (gs : List Frm) (hg : ∀ g ∈ gs, g.2.length ≤ 4096) : ScEnd (layG gs) gs (layG gs).length := by
 have h := stt_lay gs [] hg gs.length (Nat.le_refl _)
 rw [List.append_nil, List.take_length, eAt_all] at h
 refine ⟨h, ?_⟩
 rw [List.drop_of_length_le (Nat.le_refl _)]
 simp [fopen]
end Go.Proofs.Ytjjicajodjophaa

namespace Go.Proofs.Ytjjicajodjophaa
theorem sc_exists (b : List UInt8) : ∃ fs p, ScEnd b fs p := by
 have aux : ∀ m n fs p, stt b n = some (fs, p) → b.length - p ≤ m → ∃ gs q, ScEnd b gs q := by
  intro m
  induction m with
  | zero =>
   intro n fs p h hm
   have hl := stt_len b n h
   by_cases h0 : (fopen (b.drop p)).1 = 0
   ·have h1 := stt_step h h0
    have h2 := stt_len b _ h1
    have h3 := (fopen_le (b.drop p)).2.2 h0
    have := h2.2.1
    omega
   ·exact ⟨fs, p, by rw [hl.1]; exact h, h0⟩
  | succ m ih =>
   intro n fs p h hm
   have hl := stt_len b n h
   by_cases h0 : (fopen (b.drop p)).1 = 0
   ·have h1 := stt_step h h0
    have h2 := stt_len b _ h1
    have h3 := (fopen_le (b.drop p)).2.2 h0
    exact ih _ _ _ h1 (by have := h2.2.1; omega)
   ·exact ⟨fs, p, by rw [hl.1]; exact h, h0⟩
 exact aux b.length 0 [] 0 rfl (by omega)
noncomputable def wscan (b : List UInt8) : List Frm := Classical.choose (sc_exists b)
theorem wscan_of {b : List UInt8} {fs : List Frm} {p : Nat} (h : ScEnd b fs p) : wscan b = fs := by
 obtain ⟨q, hq⟩ := Classical.choose_spec (sc_exists b)
 exact (hq.one h).1
def wones (fs : List Frm) : List Frm := fs.takeWhile fun f => f.1 == 1
def wsz : List (List UInt8) → Nat
 | [] => 0
 | r :: rs => r.length + 8 + wsz rs
noncomputable def wrecs (b : List UInt8) : List (List UInt8) := (wones (wscan b)).map Prod.snd
noncomputable def wn (b : List UInt8) : Nat := wsz (wrecs b)
abbrev Wlg := List Wrt × Int × List (List UInt8)
def wzero : Wlg := ([], 0, [])
def widx (n : Int) : Prop := 0 ≤ n ∧ n ≤ 1099511627776
instance (n : Int) : Decidable (widx n) := inferInstanceAs (Decidable (_ ∧ _))
noncomputable def wst (segs : List Wrt) (next : Int) : Nat → Int
 | 0 => next
 | k + 1 => (segs.getD k (0, [])).1 + ((wrecs (segs.getD k (0, [])).2).length : Nat)
def wsegOk (segs : List Wrt) (next : Int) (k : Nat) (s : Wrt) : Prop := (widx s.1 ∧ (0 < k → s.1 = wst segs next k)) ∧ wn s.2 = s.2.length
def wwaitOk (rs : List (List UInt8)) : Prop := ∀ r ∈ rs, r.length ≤ 4096
def WOk (l : Wlg) : Prop := (l.1.length ≤ 4096 ∧ widx l.2.1 ∧ l.2.2.length ≤ 4096) ∧ wwaitOk l.2.2 ∧ (∀ k s, l.1[k]? = some s → wsegOk l.1 l.2.1 k s) ∧ wst l.1 l.2.1 l.1.length = l.2.1
open Classical in
noncomputable def wcheck (l : Wlg) : Int := if WOk l then 0 else 9
theorem wcheck_ok {l : Wlg} (h : WOk l) : wcheck l = 0 := if_pos h
theorem wcheck_no {l : Wlg} (h : ¬ WOk l) : wcheck l = 9 := if_neg h
open Classical in
noncomputable def wappend (l : Wlg) (rs : List (List UInt8)) : Wlg × Int :=
 if ¬ WOk l then (wzero, 9) else if ¬ wwaitOk rs then (wzero, 5) else if 4096 < l.2.2.length + rs.length then (wzero, 3) else ((l.1, l.2.1, l.2.2 ++ rs), 0)
theorem wappend_9 {l : Wlg} {rs : List (List UInt8)} (h : ¬ WOk l) : wappend l rs = (wzero, 9) := if_pos h
theorem wappend_5 {l : Wlg} {rs : List (List UInt8)} (h : WOk l) (h2 : ¬ wwaitOk rs) : wappend l rs = (wzero, 5) := by unfold wappend; rw [if_neg (fun k => k h), if_pos h2]
theorem wappend_3 {l : Wlg} {rs : List (List UInt8)} (h : WOk l) (h2 : wwaitOk rs) (h3 : 4096 < l.2.2.length + rs.length) : wappend l rs = (wzero, 3) := by unfold wappend; rw [if_neg (fun k => k h), if_neg (fun k => k h2), if_pos h3]
theorem wappend_0 {l : Wlg} {rs : List (List UInt8)} (h : WOk l) (h2 : wwaitOk rs) (h3 : ¬ 4096 < l.2.2.length + rs.length) : wappend l rs = ((l.1, l.2.1, l.2.2 ++ rs), 0) := by unfold wappend; rw [if_neg (fun k => k h), if_neg (fun k => k h2), if_neg h3]
def wlast (segs : List Wrt) : Wrt := segs.getD (segs.length - 1) (0, [])
def wroom (limit : Int) (segs : List Wrt) (next : Int) : List Wrt := if segs.length = 0 ∨ limit ≤ ((wlast segs).2.length : Nat) then segs ++ [(next, [])] else segs
noncomputable def wlay (segs : List Wrt) (r : List UInt8) : List Wrt := segs.set (segs.length - 1) ((wlast segs).1, (wlast segs).2 ++ fseal 1 r)
noncomputable def wone (limit : Int) (st : List Wrt × Int) (r : List UInt8) : Option (List Wrt × Int) :=
 if 1099511627776 ≤ st.2 ∨ 4096 < (wroom limit st.1 st.2).length then none else some (wlay (wroom limit st.1 st.2) r, st.2 + 1)
noncomputable def wfs (limit : Int) (l : Wlg) : Nat → Option (List Wrt × Int)
 | 0 => some (l.1, l.2.1)
 | k + 1 => (wfs limit l k).bind fun st => wone limit st (l.2.2.getD k [])
theorem wfs_none {limit : Int} {l : Wlg} {n : Nat} (h : wfs limit l n = none) (m : Nat) (hm : n ≤ m) : wfs limit l m = none := by
 induction m with
 | zero => rw [show n = 0 from by omega] at h; exact h
 | succ m ih =>
  by_cases e : n = m + 1
  ·subst e; exact h
  ·simp only [wfs, ih (by omega), Option.bind_none]
theorem wfs_next {limit : Int} {l : Wlg} {k : Nat} {st : List Wrt × Int} (h : wfs limit l k = some st) {r : List UInt8} (hr : l.2.2[k]? = some r) : wfs limit l (k + 1) = wone limit st r := by
 simp only [wfs, h, Option.bind_some, List.getD_eq_getElem?_getD, hr, Option.getD_some]
open Classical in
noncomputable def wflush (l : Wlg) (limit : Int) : Wlg × Int :=
 if ¬ WOk l then (wzero, 9) else if limit < 1 ∨ 1048576 < limit then (wzero, 4) else match wfs limit l l.2.2.length with | none => (wzero, 51) | some st => ((st.1, st.2, []), 0)
theorem wflush_9 {l : Wlg} {limit : Int} (h : ¬ WOk l) : wflush l limit = (wzero, 9) := if_pos h
theorem wflush_4 {l : Wlg} {limit : Int} (h : WOk l) (h2 : limit < 1 ∨ 1048576 < limit) : wflush l limit = (wzero, 4) := by unfold wflush; rw [if_neg (fun k => k h), if_pos h2]
theorem wflush_51 {l : Wlg} {limit : Int} (h : WOk l) (h2 : ¬ (limit < 1 ∨ 1048576 < limit)) (h3 : wfs limit l l.2.2.length = none) : wflush l limit = (wzero, 51) := by unfold wflush; rw [if_neg (fun k => k h), if_neg h2, h3]
theorem wflush_0 {l : Wlg} {limit : Int} (h : WOk l) (h2 : ¬ (limit < 1 ∨ 1048576 < limit)) {st : List Wrt × Int} (h3 : wfs limit l l.2.2.length = some st) : wflush l limit = ((st.1, st.2, []), 0) := by unfold wflush; rw [if_neg (fun k => k h), if_neg h2, h3]
abbrev Wst := (List Wrt × Int) × List (List UInt8)
abbrev Wans := Wlg × List (List UInt8) × Int
def wgone (i : Nat) (st : Wst) (s : Wrt) (r : List (List UInt8)) (n : Nat) : Wst := ((if 0 < n ∨ i = 0 then st.1.1 ++ [(s.1, s.2.take n)] else st.1.1, st.1.2 + (r.length : Nat)), st.2 ++ r)
noncomputable def wrone (m i : Nat) (st : Wst) (s : Wrt) : Wst ⊕ Wans :=
 if s.1 ≠ st.1.2 then .inr ((st.1.1, st.1.2, []), st.2, 21)
 else if 1099511627776 < st.1.2 + ((wrecs s.2).length : Nat) then .inr (wzero, [], 81)
 else if wn s.2 ≠ s.2.length ∧ i < m - 1 then .inr (((wgone i st s (wrecs s.2) (wn s.2)).1.1, (wgone i st s (wrecs s.2) (wn s.2)).1.2, []), (wgone i st s (wrecs s.2) (wn s.2)).2, 21)
 else .inl (wgone i st s (wrecs s.2) (wn s.2))
noncomputable def wrs (segs : List Wrt) : Nat → Wst ⊕ Wans
 | 0 => .inl (([], (segs.getD 0 (0, [])).1), [])
 | k + 1 => match wrs segs k with | .inl st => wrone segs.length k st (segs.getD k (0, [])) | .inr a => .inr a
noncomputable def wrecover (segs : List Wrt) : Wans :=
 if segs.length = 0 then (wzero, [], 0) else if 4096 < segs.length ∨ ¬ widx (segs.getD 0 (0, [])).1 then (wzero, [], 81) else
  match wrs segs segs.length with | .inl st => ((st.1.1, st.1.2, []), st.2, 0) | .inr a => a
theorem wrs_stop {segs : List Wrt} {a : Wans} {n : Nat} (h : wrs segs n = .inr a) (m : Nat) (hm : n ≤ m) : wrs segs m = .inr a := by
 induction m with
 | zero => rw [show n = 0 from by omega] at h; exact h
 | succ m ih =>
  by_cases e : n = m + 1
  ·subst e; exact h
  ·simp only [wrs, ih (by omega)]
theorem wrs_next {segs : List Wrt} {k : Nat} {st : Wst} (h : wrs segs k = .inl st) {s : Wrt} (hs : segs[k]? = some s) : wrs segs (k + 1) = wrone segs.length k st s := by
 simp only [wrs, h, List.getD_eq_getElem?_getD, hs, Option.getD_some]
theorem wsz_len (rs : List (List UInt8)) : 8 * rs.length ≤ wsz rs := by
 induction rs with
 | nil => simp [wsz]
 | cons r rs ih => simp only [wsz, List.length_cons]; omega
theorem wsz_app (a b : List (List UInt8)) : wsz (a ++ b) = wsz a + wsz b := by
 induction a with
 | nil => simp [wsz]
 | cons r a ih => simp only [List.cons_append, wsz, ih]; omega
theorem wones_at : ∀ {fs : List Frm} {K : Nat}, (∀ i f, i < K → fs[i]? = some f → f.1 = 1) → (∀ f, fs[K]? = some f → f.1 ≠ 1) → wones fs = fs.take K
 | [], K, _, _ => by simp [wones]
 | g :: fs, 0, _, h2 => by
  have := h2 g rfl
  unfold wones
  rw [List.takeWhile_cons, if_neg (by simpa using this)]; rfl
 | g :: fs, K + 1, h1, h2 => by
  have hg := h1 0 g (by omega) rfl
  have ih := wones_at (fs := fs) (K := K) (fun i f hi hf => h1 (i + 1) f (by omega) (by simpa using hf)) (fun f hf => h2 f (by simpa using hf))
  unfold wones at ih ⊢
  rw [List.takeWhile_cons, if_pos (by simpa using hg), ih]; rfl
theorem wones_eq {fs : List Frm} {K : Nat} (h1 : ∀ i f, i < K → fs[i]? = some f → f.1 = 1) (h2 : ∀ f, fs[K]? = some f → f.1 ≠ 1) {b : List UInt8} {p : Nat} (h : ScEnd b fs p) : wrecs b = (fs.take K).map Prod.snd := by
 unfold wrecs; rw [wscan_of h, wones_at h1 h2]
theorem stt_snds {b : List UInt8} : ∀ n {fs p}, stt b n = some (fs, p) → wsz (fs.map Prod.snd) = p ∧ ∀ f ∈ fs, f.2.length ≤ 4096
 | 0, fs, p, h => by simp [stt] at h; obtain ⟨rfl, rfl⟩ := h; exact ⟨rfl, fun f hf => by cases hf⟩
 | n + 1, fs, p, h => by
  simp only [stt, Option.bind_eq_some_iff] at h
  obtain ⟨⟨fs', p'⟩, h1, h2⟩ := h
  obtain ⟨i1, i2⟩ := stt_snds n h1
  by_cases h0 : (fopen (b.drop p')).1 = 0
  ·rw [if_pos h0] at h2
   simp only [Option.some.injEq, Prod.mk.injEq] at h2
   obtain ⟨rfl, rfl⟩ := h2
   obtain ⟨_, _, k3, k4, _, k6, k7⟩ := fopen_ok h0
   have hl : (fopen (b.drop p')).2.1.2.length = ftold (b.drop p') := by rw [k6]; simp only [List.length_take, List.length_drop] at k4 ⊢; omega
   refine ⟨by rw [List.map_append, wsz_app, i1, k7]; simp only [List.map_cons, List.map_nil, wsz, hl, Nat.add_zero], fun f hf => ?_⟩
   rcases List.mem_append.1 hf with hf | hf
   ·exact i2 f hf
   ·simp only [List.mem_singleton] at hf; subst hf; rw [hl]; exact k3
  ·rw [if_neg h0] at h2; cases h2
theorem wsz_take (rs : List (List UInt8)) (k : Nat) : wsz (rs.take k) ≤ wsz rs := by
 conv => rhs; rw [← List.take_append_drop k rs, wsz_app]
 omega
theorem wn_le (b : List UInt8) : wn b ≤ b.length ∧ 8 * (wrecs b).length ≤ b.length ∧ ∀ r ∈ wrecs b, r.length ≤ 4096 := by
 obtain ⟨fs, p, h⟩ := sc_exists b
 obtain ⟨h1, h2⟩ := stt_snds _ h.1
 have hp := (stt_len b _ h.1).2.1
 have hw : ∃ K, wones (wscan b) = fs.take K := by
  rw [wscan_of h]
  refine ⟨(wones fs).length, ?_⟩
  unfold wones
  exact (List.prefix_iff_eq_take.1 (List.takeWhile_prefix _))
 obtain ⟨K, hK⟩ := hw
 have e : wrecs b = (fs.map Prod.snd).take K := by unfold wrecs; rw [hK, List.map_take]
 have hn : wn b ≤ b.length := by
  unfold wn; rw [e]
  have := wsz_take (fs.map Prod.snd) K
  omega
 refine ⟨hn, ?_, fun r hr => ?_⟩
 ·have := wsz_len (wrecs b)
  unfold wn at hn
  omega
 ·rw [e] at hr
  obtain ⟨f, hf, rfl⟩ := List.mem_map.1 (List.mem_of_mem_take hr)
  exact h2 f hf
end Go.Proofs.Ytjjicajodjophaa

namespace Go.Proofs.Ytjjicajodjophaa
noncomputable def wdata (g : List (List UInt8)) : List UInt8 := layG (g.map fun r => ((1 : UInt8), r))
theorem wdata_nil : wdata [] = [] := rfl
theorem wdata_snoc (g : List (List UInt8)) (r : List UInt8) : wdata (g ++ [r]) = wdata g ++ fseal 1 r := by
 unfold wdata; rw [List.map_append, layG_app]; simp [layG_one]
theorem wdata_len (g : List (List UInt8)) : (wdata g).length = wsz g := by
 unfold wdata
 induction g with
 | nil => rfl
 | cons r g ih =>
  rw [List.map_cons, show ((1 : UInt8), r) :: g.map (fun r => ((1 : UInt8), r)) = [((1 : UInt8), r)] ++ g.map (fun r => ((1 : UInt8), r)) from rfl, layG_app, layG_one, List.length_append, ih, fseal_len, wsz]
theorem wdata_scan {g : List (List UInt8)} (hg : ∀ r ∈ g, r.length ≤ 4096) : ScEnd (wdata g) (g.map fun r => ((1 : UInt8), r)) (wdata g).length :=
 sc_lay _ fun f hf => by obtain ⟨r, hr, rfl⟩ := List.mem_map.1 hf; exact hg r hr
theorem wones_one (g : List (List UInt8)) : wones (g.map fun r => ((1 : UInt8), r)) = g.map fun r => ((1 : UInt8), r) := by
 unfold wones
 induction g with
 | nil => rfl
 | cons r g ih => rw [List.map_cons, List.takeWhile_cons, if_pos (by rfl), ih]
theorem wrecs_data {g : List (List UInt8)} (hg : ∀ r ∈ g, r.length ≤ 4096) : wrecs (wdata g) = g := by
 unfold wrecs
 rw [wscan_of (wdata_scan hg), wones_one, List.map_map]
 have : (Prod.snd ∘ fun r : List UInt8 => ((1 : UInt8), r)) = id := rfl
 rw [this, List.map_id]
theorem wn_data {g : List (List UInt8)} (hg : ∀ r ∈ g, r.length ≤ 4096) : wn (wdata g) = (wdata g).length := by
 unfold wn; rw [wrecs_data hg, wdata_len]
noncomputable def wsegs : Int → List (List (List UInt8)) → List Wrt
 | _, [] => []
 | n, g :: gs => (n, wdata g) :: wsegs (n + (g.length : Nat)) gs
theorem wsegs_len : ∀ (gs : List (List (List UInt8))) (n : Int), (wsegs n gs).length = gs.length
 | [], _ => rfl
 | g :: gs, n => by simp [wsegs, wsegs_len gs]
theorem wsegs_at : ∀ (gs : List (List (List UInt8))) (n : Int) (k : Nat) (g : List (List UInt8)), gs[k]? = some g → (wsegs n gs)[k]? = some (n + ((gs.take k).flatten.length : Nat), wdata g)
 | [], _, _, _, h => by simp at h
 | g' :: gs, n, 0, g, h => by
  simp only [List.getElem?_cons_zero, Option.some.injEq] at h
  subst h; simp [wsegs]
 | g' :: gs, n, k + 1, g, h => by
  have := wsegs_at gs (n + (g'.length : Nat)) k g (by simpa using h)
  simp only [wsegs, List.getElem?_cons_succ, this, List.take_succ_cons, List.flatten_cons, List.length_append]
  congr 2
  push_cast
  omega
theorem wsegs_snoc : ∀ (gs : List (List (List UInt8))) (n : Int) (g : List (List UInt8)), wsegs n (gs ++ [g]) = wsegs n gs ++ [(n + (gs.flatten.length : Nat), wdata g)]
 | [], n, g => by simp [wsegs]
 | g' :: gs, n, g => by
  simp only [List.cons_append, wsegs, wsegs_snoc gs, List.flatten_cons, List.length_append]
  congr 4
  push_cast
  omega
theorem wok_laid {gs : List (List (List UInt8))} {wait : List (List UInt8)} (hl : gs.length ≤ 4096) (hr : ∀ g ∈ gs, ∀ r ∈ g, r.length ≤ 4096) (hn : gs.flatten.length ≤ 1099511627776) (hw : wait.length ≤ 4096) (hwo : wwaitOk wait) : WOk (wsegs 0 gs, (gs.flatten.length : Nat), wait) := by
 have hst : ∀ k, k ≤ gs.length → 0 < k → wst (wsegs 0 gs) (gs.flatten.length : Nat) k = ((gs.take k).flatten.length : Nat) := by
  intro k hk h0
  obtain ⟨j, rfl⟩ : ∃ j, k = j + 1 := ⟨k - 1, by omega⟩
  obtain ⟨g, hg⟩ : ∃ g, gs[j]? = some g := ⟨gs[j], List.getElem?_eq_getElem (by omega)⟩
  have hs := wsegs_at gs 0 j g hg
  have hgm := List.mem_of_getElem? hg
  simp only [wst, List.getD_eq_getElem?_getD, hs, Option.getD_some]
  rw [wrecs_data (hr g hgm)]
  have : gs.take (j + 1) = gs.take j ++ [g] := by rw [List.take_add_one, hg]; rfl
  rw [this, List.flatten_append, List.length_append]
  simp
 refine ⟨⟨by rw [wsegs_len]; exact hl, ⟨by show 0 ≤ ((gs.flatten.length : Nat) : Int); omega, by show ((gs.flatten.length : Nat) : Int) ≤ _; omega⟩, hw⟩, hwo, fun k s hs => ?_, ?_⟩
 ·have hk : k < gs.length := by
   have := (List.getElem?_eq_some_iff.1 hs).1
   rwa [wsegs_len] at this
  obtain ⟨g, hg⟩ : ∃ g, gs[k]? = some g := ⟨gs[k], List.getElem?_eq_getElem hk⟩
  have hs' := wsegs_at gs 0 k g hg
  dsimp only at hs
  rw [hs'] at hs
  simp only [Option.some.injEq] at hs
  subst hs
  have hle : (gs.take k).flatten.length ≤ gs.flatten.length := by
   conv => rhs; rw [← List.take_append_drop k gs, List.flatten_append, List.length_append]
   omega
  refine ⟨⟨⟨by dsimp only; omega, by dsimp only; omega⟩, fun h0 => ?_⟩, wn_data (hr g (List.mem_of_getElem? hg))⟩
  dsimp only
  rw [hst k (by omega) h0]
  omega
 ·dsimp only
  rw [wsegs_len]
  by_cases h0 : gs.length = 0
  ·rw [h0]; rfl
  ·rw [hst _ (Nat.le_refl _) (by omega), List.take_of_length_le (Nat.le_refl _)]
noncomputable def gput (limit : Int) (gs : List (List (List UInt8))) (r : List UInt8) : List (List (List UInt8)) :=
 if gs.length = 0 ∨ limit ≤ ((wdata (gs.getLastD [])).length : Nat) then gs ++ [[r]] else gs.dropLast ++ [gs.getLastD [] ++ [r]]
theorem last_split (gs : List (List (List UInt8))) (h : ¬ gs.length = 0) : gs = gs.dropLast ++ [gs.getLastD []] := by
 have hne : gs ≠ [] := fun e => h (by rw [e]; rfl)
 conv => lhs; rw [← List.dropLast_concat_getLast hne]
 rw [List.getLastD_eq_getLast?, List.getLast?_eq_some_getLast hne]; rfl
theorem gput_flat (limit : Int) (gs : List (List (List UInt8))) (r : List UInt8) : (gput limit gs r).flatten = gs.flatten ++ [r] := by
 unfold gput
 split
 ·simp
 ·rename_i h
  have h0 : ¬ gs.length = 0 := fun e => h (.inl e)
  conv => rhs; rw [last_split gs h0]
  simp
theorem gput_len (limit : Int) (gs : List (List (List UInt8))) (r : List UInt8) : (gput limit gs r).length ≤ gs.length + 1 := by
 unfold gput
 split
 ·simp
 ·simp
theorem wlast_snoc (xs : List Wrt) (y : Wrt) : wlast (xs ++ [y]) = y := by
 unfold wlast; simp
theorem wlay_laid (gs : List (List (List UInt8))) (g : List (List UInt8)) (r : List UInt8) (n : Int) : wlay (wsegs n (gs ++ [g])) r = wsegs n (gs ++ [g ++ [r]]) := by
 unfold wlay
 rw [wsegs_snoc, wlast_snoc, wsegs_snoc, wdata_snoc]
 simp
theorem wone_laid {limit : Int} {gs : List (List (List UInt8))} {r : List UInt8} (h1 : gs.flatten.length < 1099511627776) (h2 : gs.length < 4096) : wone limit (wsegs 0 gs, (gs.flatten.length : Nat)) r = some (wsegs 0 (gput limit gs r), (((gput limit gs r).flatten.length : Nat) : Int)) := by
 have hroom : ∃ hs g, wroom limit (wsegs 0 gs) (gs.flatten.length : Nat) = wsegs 0 (hs ++ [g]) ∧ gput limit gs r = hs ++ [g ++ [r]] ∧ hs.length + 1 ≤ 4096 := by
  by_cases h0 : gs.length = 0
  ·refine ⟨gs, [], ?_, ?_, by omega⟩
   ·rw [wsegs_snoc]
    unfold wroom
    rw [if_pos (.inl (by rw [wsegs_len]; exact h0)), wdata_nil]
    simp
   ·unfold gput; rw [if_pos (.inl h0)]; rfl
  ·have hl : (wlast (wsegs 0 gs)).2 = wdata (gs.getLastD []) := by
    conv => lhs; rw [last_split gs h0]
    rw [wsegs_snoc, wlast_snoc]
   by_cases hc : limit ≤ ((wdata (gs.getLastD [])).length : Nat)
   ·refine ⟨gs, [], ?_, ?_, by omega⟩
    ·rw [wsegs_snoc]
     unfold wroom
     rw [hl, if_pos (.inr hc), wdata_nil]
     simp
    ·unfold gput; rw [if_pos (.inr hc)]; rfl
   ·refine ⟨gs.dropLast, gs.getLastD [], ?_, ?_, by simp; omega⟩
    ·rw [← last_split gs h0]
     unfold wroom
     rw [hl, if_neg (fun h => h.elim (fun h => h0 (by rwa [wsegs_len] at h)) hc)]
    ·unfold gput; rw [if_neg (fun h => h.elim h0 hc)]
 obtain ⟨hs, g, e1, e2, e3⟩ := hroom
 have e4 : ((gput limit gs r).flatten.length : Nat) = gs.flatten.length + 1 := by rw [gput_flat]; simp
 unfold wone
 dsimp only
 rw [e1, if_neg (by rw [wsegs_len]; simp only [List.length_append, List.length_singleton]; omega), wlay_laid, ← e2, e4]
 simp
theorem gfold_flat (limit : Int) : ∀ (rs : List (List UInt8)) (gs : List (List (List UInt8))), (rs.foldl (gput limit) gs).flatten = gs.flatten ++ rs
 | [], gs => by simp
 | r :: rs, gs => by rw [List.foldl_cons, gfold_flat limit rs, gput_flat]; simp
theorem gfold_len (limit : Int) : ∀ (rs : List (List UInt8)) (gs : List (List (List UInt8))), (rs.foldl (gput limit) gs).length ≤ gs.length + rs.length
 | [], gs => by simp
 | r :: rs, gs => by
  rw [List.foldl_cons]
  have := gfold_len limit rs (gput limit gs r)
  have := gput_len limit gs r
  simp only [List.length_cons]
  omega
theorem wfs_laid {limit : Int} {gs : List (List (List UInt8))} {rs : List (List UInt8)} (h1 : gs.flatten.length + rs.length ≤ 1099511627776) (h2 : gs.length + rs.length ≤ 4096) :
  ∀ k, k ≤ rs.length → wfs limit (wsegs 0 gs, (gs.flatten.length : Nat), rs) k = some (wsegs 0 ((rs.take k).foldl (gput limit) gs), ((((rs.take k).foldl (gput limit) gs).flatten.length : Nat) : Int))
 | 0, _ => by simp [wfs]
 | k + 1, hk => by
  obtain ⟨r, hr⟩ : ∃ r, rs[k]? = some r := ⟨rs[k], List.getElem?_eq_getElem (by omega)⟩
  have ih := wfs_laid (limit := limit) h1 h2 k (by omega)
  have hf := gfold_flat limit (rs.take k) gs
  have hl := gfold_len limit (rs.take k) gs
  have e : rs.take (k + 1) = rs.take k ++ [r] := by rw [List.take_add_one, hr]; rfl
  rw [wfs_next ih hr, wone_laid (by rw [hf, List.length_append, List.length_take]; omega) (by rw [List.length_take] at hl; omega), e, List.foldl_append]
  rfl
theorem wflush_laid {limit : Int} {gs : List (List (List UInt8))} {rs : List (List UInt8)} (hl : 1 ≤ limit ∧ limit ≤ 1048576) (h1 : gs.flatten.length + rs.length ≤ 1099511627776) (h2 : gs.length + rs.length ≤ 4096) (hr : ∀ g ∈ gs, ∀ r ∈ g, r.length ≤ 4096) (hw : wwaitOk rs) :
  wflush (wsegs 0 gs, (gs.flatten.length : Nat), rs) limit = ((wsegs 0 (rs.foldl (gput limit) gs), (((rs.foldl (gput limit) gs).flatten.length : Nat) : Int), []), 0) := by
 have := wfs_laid (limit := limit) h1 h2 rs.length (Nat.le_refl _)
 rw [List.take_of_length_le (Nat.le_refl _)] at this
 exact wflush_0 (wok_laid (by omega) hr (by omega) (by omega) hw) (by omega) this
end Go.Proofs.Ytjjicajodjophaa

namespace Go.Proofs.Ytjjicajodjophaa
theorem take_snoc {α : Type} {xs : List α} {k : Nat} {x : α} (h : xs[k]? = some x) : xs.take (k + 1) = xs.take k ++ [x] := by rw [List.take_add_one, h]; rfl
theorem gput_ne {limit : Int} {gs : List (List (List UInt8))} {r : List UInt8} (h : ∀ g ∈ gs, g ≠ []) : ∀ g ∈ gput limit gs r, g ≠ [] := by
 intro g hg
 unfold gput at hg
 split at hg
 ·rcases List.mem_append.1 hg with hg | hg
  ·exact h g hg
  ·simp only [List.mem_singleton] at hg; subst hg; simp
 ·rcases List.mem_append.1 hg with hg | hg
  ·exact h g (List.dropLast_subset _ hg)
  ·simp only [List.mem_singleton] at hg; subst hg; simp
theorem gfold_ne (limit : Int) : ∀ (rs : List (List UInt8)) (gs : List (List (List UInt8))), (∀ g ∈ gs, g ≠ []) → ∀ g ∈ rs.foldl (gput limit) gs, g ≠ []
 | [], gs, h => h
 | r :: rs, gs, h => by rw [List.foldl_cons]; exact gfold_ne limit rs _ (gput_ne h)
theorem short_flat {gs : List (List (List UInt8))} : (∀ g ∈ gs, ∀ r ∈ g, r.length ≤ 4096) ↔ ∀ r ∈ gs.flatten, r.length ≤ 4096 := by
 constructor
 ·intro h r hr
  obtain ⟨g, hg, hrg⟩ := List.mem_flatten.1 hr
  exact h g hg r hrg
 ·intro h g hg r hr
  exact h r (List.mem_flatten.2 ⟨g, hg, hr⟩)
end Go.Proofs.Ytjjicajodjophaa

namespace Go.Proofs.Ytjjicajodjophaa
end Go.Proofs.Ytjjicajodjophaa

namespace Go.Proofs.Ytjjicajodjophaa
theorem stt_prefix {b : List UInt8} : ∀ n {fs : List Frm} {p : Nat}, stt b n = some (fs, p) → ∀ k, k ≤ n → ∃ q, stt b k = some (fs.take k, q)
 | 0, fs, p, h, k, hk => by
  obtain rfl : k = 0 := by omega
  simp only [stt, Option.some.injEq, Prod.mk.injEq] at h
  exact ⟨p, by rw [← h.1, ← h.2]; rfl⟩
 | n + 1, fs, p, h, k, hk => by
  by_cases e : k = n + 1
  ·subst e
   have := (stt_len b _ h).1
   exact ⟨p, by rw [h, List.take_of_length_le (by omega)]⟩
  ·simp only [stt, Option.bind_eq_some_iff] at h
   obtain ⟨⟨fs', p'⟩, h1, h2⟩ := h
   by_cases h0 : (fopen (b.drop p')).1 = 0
   ·rw [if_pos h0] at h2
    simp only [Option.some.injEq, Prod.mk.injEq] at h2
    obtain ⟨q, hq⟩ := stt_prefix n h1 k (by omega)
    have hl := (stt_len b _ h1).1
    refine ⟨q, ?_⟩
    rw [hq, ← h2.1, List.take_append_of_le_length (by omega)]
   ·rw [if_neg h0] at h2; cases h2
end Go.Proofs.Ytjjicajodjophaa

namespace Go.Proofs.Ytjjicajodjophaa
theorem wones_self {fs : List Frm} (h : ∀ f ∈ fs, f.1 = 1) : wones fs = fs := by
 unfold wones
 induction fs with
 | nil => rfl
 | cons f fs ih => rw [List.takeWhile_cons, if_pos (by simpa using h f (List.mem_cons_self ..)), ih fun g hg => h g (List.mem_cons_of_mem _ hg)]
theorem wread_end {b : List UInt8} {n : Nat} {fs : List Frm} {p : Nat} (h : stt b n = some (fs, p)) (h1 : ∀ f ∈ fs, f.1 = 1) (h2 : (fopen (b.drop p)).1 ≠ 0 ∨ (fopen (b.drop p)).2.1.1 ≠ 1) : wrecs b = fs.map Prod.snd ∧ wn b = p := by
 have hl := (stt_len b _ h).1
 have hw : wrecs b = fs.map Prod.snd := by
  by_cases h0 : (fopen (b.drop p)).1 = 0
  ·have hk : (fopen (b.drop p)).2.1.1 ≠ 1 := h2.resolve_left fun k => k h0
   obtain ⟨gs, q, hsc⟩ := sc_exists b
   have hst := stt_step h h0
   have hle : n + 1 ≤ gs.length := by
    rcases Nat.lt_or_ge gs.length (n + 1) with hlt | hge
    ·exfalso
     obtain ⟨q', hq'⟩ := stt_prefix _ hst gs.length (by omega)
     have e := hsc.1
     rw [hq'] at e
     simp only [Option.some.injEq, Prod.mk.injEq] at e
     obtain ⟨e1, e2⟩ := e
     subst e2
     have hgl : gs.length ≤ n := by omega
     rcases Nat.lt_or_ge gs.length n with hlt2 | hge2
     ·obtain ⟨q2, hq2⟩ := stt_prefix _ h (gs.length + 1) (by omega)
      simp only [stt, hsc.1, Option.bind_some] at hq2
      rw [if_neg hsc.2] at hq2
      cases hq2
     ·obtain rfl : gs.length = n := by omega
      have := hsc.1
      rw [h] at this
      simp only [Option.some.injEq, Prod.mk.injEq] at this
      exact hsc.2 (by rw [← this.2]; exact h0)
    ·exact hge
   obtain ⟨q', hq'⟩ := stt_prefix _ hsc.1 (n + 1) hle
   rw [hst] at hq'
   simp only [Option.some.injEq, Prod.mk.injEq] at hq'
   have hgt := hq'.1
   have hin : ∀ i, i < n + 1 → gs[i]? = (fs ++ [(fopen (b.drop p)).2.1])[i]? := fun i hi => by
    rw [hgt, List.getElem?_take, if_pos hi]
   have := wones_at (fs := gs) (K := n) (fun i f hi hf => by
    rw [hin i (by omega), List.getElem?_append_left (by omega)] at hf
    exact h1 f (List.mem_of_getElem? hf)) (fun f hf => by
    rw [hin n (by omega), List.getElem?_append_right (by omega), hl, Nat.sub_self] at hf
    simp only [List.getElem?_cons_zero, Option.some.injEq] at hf
    rw [← hf]; exact hk)
   unfold wrecs
   rw [wscan_of hsc, this]
   have e : gs.take n = fs := by
    have := congrArg (List.take n) hgt
    rw [List.take_append_of_le_length (by omega), List.take_of_length_le (by omega), List.take_take, Nat.min_eq_left (by omega)] at this
    exact this.symm
   rw [e]
  ·have hsc : ScEnd b fs p := ⟨by rw [hl]; exact h, h0⟩
   unfold wrecs
   rw [wscan_of hsc, wones_self h1]
 refine ⟨hw, ?_⟩
 unfold wn
 rw [hw]
 exact (stt_snds _ h).1
noncomputable def pstep (limit : Int) (st : List Wrt × Int) (r : List UInt8) : List Wrt × Int := (wlay (wroom limit st.1 st.2) r, st.2 + 1)
noncomputable def pfs (limit : Int) (l : Wlg) (k : Nat) : List Wrt × Int := (l.2.2.take k).foldl (pstep limit) (l.1, l.2.1)
theorem pfs_next {limit : Int} {l : Wlg} {k : Nat} {r : List UInt8} (hr : l.2.2[k]? = some r) : pfs limit l (k + 1) = pstep limit (pfs limit l k) r := by
 unfold pfs
 rw [take_snoc hr, List.foldl_append]; rfl
theorem wlay_len (segs : List Wrt) (r : List UInt8) : (wlay segs r).length = segs.length := by unfold wlay; rw [List.length_set]
theorem wroom_ge (limit : Int) (segs : List Wrt) (n : Int) : segs.length ≤ (wroom limit segs n).length ∧ (wroom limit segs n).length ≤ segs.length + 1 := by
 unfold wroom; split <;> simp
def pfit (st : List Wrt × Int) : Prop := st.2 ≤ 1099511627776 ∧ st.1.length ≤ 4096
theorem pfs_wfs {limit : Int} {l : Wlg} (h0 : pfit (l.1, l.2.1)) : ∀ k, k ≤ l.2.2.length → (pfit (pfs limit l k) → wfs limit l k = some (pfs limit l k)) ∧ (¬ pfit (pfs limit l k) → wfs limit l k = none)
 | 0, _ => by
  have e : pfs limit l 0 = (l.1, l.2.1) := rfl
  rw [e]
  exact ⟨fun _ => rfl, fun h => absurd h0 h⟩
 | k + 1, hk => by
  obtain ⟨r, hr⟩ : ∃ r, l.2.2[k]? = some r := ⟨l.2.2[k], List.getElem?_eq_getElem (by omega)⟩
  obtain ⟨ih1, ih2⟩ := pfs_wfs (limit := limit) h0 k (by omega)
  rw [pfs_next hr]
  obtain ⟨st, hst⟩ : ∃ st, st = pfs limit l k := ⟨_, rfl⟩
  rw [← hst] at ih1 ih2 ⊢
  have hg := wroom_ge limit st.1 st.2
  have e1 : (pstep limit st r).2 = st.2 + 1 := rfl
  have e2 : (pstep limit st r).1.length = (wroom limit st.1 st.2).length := wlay_len _ _
  by_cases hf : pfit st
  ·have hw := ih1 hf
   rw [wfs_next hw hr]
   unfold wone
   refine ⟨fun h => ?_, fun h => ?_⟩
   ·rw [if_neg (fun q => by
     obtain ⟨p1, p2⟩ := h
     rw [e1] at p1
     rw [e2] at p2
     omega)]
    rfl
   ·rw [if_pos]
    apply Decidable.byContradiction
    intro q
    refine h ⟨by rw [e1]; omega, by rw [e2]; omega⟩
  ·have hw := ih2 hf
   refine ⟨fun h => ?_, fun _ => wfs_none hw _ (by omega)⟩
   exfalso
   obtain ⟨p1, p2⟩ := h
   rw [e1] at p1
   rw [e2] at p2
   exact hf ⟨by omega, by omega⟩
theorem wflush_fit {l : Wlg} {limit : Int} (h : WOk l) (h2 : ¬ (limit < 1 ∨ 1048576 < limit)) (h3 : pfit (pfs limit l l.2.2.length)) : wflush l limit = (((pfs limit l l.2.2.length).1, (pfs limit l l.2.2.length).2, []), 0) :=
 wflush_0 h h2 ((pfs_wfs ⟨h.1.2.1.2, h.1.1⟩ _ (Nat.le_refl _)).1 h3)
theorem wflush_nofit {l : Wlg} {limit : Int} (h : WOk l) (h2 : ¬ (limit < 1 ∨ 1048576 < limit)) (h3 : ¬ pfit (pfs limit l l.2.2.length)) : wflush l limit = (wzero, 51) :=
 wflush_51 h h2 ((pfs_wfs ⟨h.1.2.1.2, h.1.1⟩ _ (Nat.le_refl _)).2 h3)
def wseg (segs : List Wrt) (k : Nat) : Wrt := segs.getD k (0, [])
theorem wseg_at {segs : List Wrt} {k : Nat} {s : Wrt} (h : segs[k]? = some s) : wseg segs k = s := by unfold wseg; rw [List.getD_eq_getElem?_getD, h]; rfl
noncomputable def pwsg (segs : List Wrt) : Nat → Wst
 | 0 => (([], (wseg segs 0).1), [])
 | k + 1 => wgone k (pwsg segs k) (wseg segs k) (wrecs (wseg segs k).2) (wn (wseg segs k).2)
theorem pws_num (segs : List Wrt) (k : Nat) : (pwsg segs (k + 1)).1.2 = (pwsg segs k).1.2 + ((wrecs (wseg segs k).2).length : Nat) := rfl
def wgood (segs : List Wrt) (k : Nat) : Prop := (wseg segs k).1 = (pwsg segs k).1.2 ∧ wn (wseg segs k).2 = (wseg segs k).2.length
def PWhole (segs : List Wrt) (t : Wst) (n : Nat) : Prop :=
 ∃ k, (∀ j, j < k → wgood segs j) ∧ ((k = segs.length ∧ t = pwsg segs k ∧ n = k) ∨ (k < segs.length ∧ (wseg segs k).1 ≠ (pwsg segs k).1.2 ∧ t = pwsg segs k ∧ n = k) ∨ (k < segs.length ∧ (wseg segs k).1 = (pwsg segs k).1.2 ∧ wn (wseg segs k).2 ≠ (wseg segs k).2.length ∧ t = pwsg segs (k + 1) ∧ n = k + 1))
theorem wrs_good {segs : List Wrt} (h0 : (wseg segs 0).1 ≤ 1099511627776) : ∀ k, k ≤ segs.length → (∀ j, j < k → wgood segs j) → ((pwsg segs k).1.2 ≤ 1099511627776 → wrs segs k = .inl (pwsg segs k)) ∧ (¬ (pwsg segs k).1.2 ≤ 1099511627776 → wrs segs k = .inr (wzero, [], 81))
 | 0, _, _ => ⟨fun _ => rfl, fun h => absurd h0 h⟩
 | k + 1, hk, hg => by
  obtain ⟨ih1, ih2⟩ := wrs_good h0 k (by omega) fun j hj => hg j (by omega)
  obtain ⟨s, hs⟩ : ∃ s, segs[k]? = some s := ⟨segs[k], List.getElem?_eq_getElem (by omega)⟩
  obtain ⟨g1, g2⟩ := hg k (by omega)
  have hn := pws_num segs k
  have he : pwsg segs (k + 1) = wgone k (pwsg segs k) (wseg segs k) (wrecs (wseg segs k).2) (wn (wseg segs k).2) := rfl
  rw [wseg_at hs] at g1 g2 hn he
  by_cases hc : (pwsg segs k).1.2 ≤ 1099511627776
  ·have hw := ih1 hc
   rw [wrs_next hw hs]
   unfold wrone
   rw [if_neg (fun q => q g1)]
   refine ⟨fun h => ?_, fun h => ?_⟩
   ·rw [if_neg (by omega), if_neg (fun q => q.1 g2), he]
   ·rw [if_pos (by omega)]
  ·refine ⟨fun h => by omega, fun _ => wrs_stop (ih2 hc) _ (by omega)⟩
theorem pwhole_le {segs : List Wrt} {t : Wst} {n : Nat} (h : PWhole segs t n) : n ≤ segs.length := by
 obtain ⟨k, _, ⟨h1, _, h2⟩ | ⟨h1, _, _, h2⟩ | ⟨h1, _, _, _, h2⟩⟩ := h <;> omega
theorem wrecover_whole {segs : List Wrt} {t : Wst} {n : Nat} (h0 : ¬ segs.length = 0) (hb : ¬ (4096 < segs.length ∨ ¬ widx (wseg segs 0).1)) (h : PWhole segs t n) :
  wrecover segs = if 1099511627776 < t.1.2 then (wzero, [], 81) else ((t.1.1, t.1.2, []), t.2, if n < segs.length then 21 else 0) := by
 have hw0 : widx (wseg segs 0).1 := Decidable.not_not.1 fun q => hb (.inr q)
 have hb' : ¬ (4096 < segs.length ∨ ¬ widx (segs.getD 0 (0, [])).1) := hb
 obtain ⟨k, hg, ⟨e1, rfl, rfl⟩ | ⟨hk, hne, rfl, rfl⟩ | ⟨hk, heq, htn, rfl, rfl⟩⟩ := h
 ·obtain ⟨q1, q2⟩ := wrs_good hw0.2 n (by omega) hg
  unfold wrecover
  rw [if_neg h0, if_neg hb', ← e1]
  by_cases hc : (pwsg segs n).1.2 ≤ 1099511627776
  ·rw [q1 hc, if_neg (by omega), if_neg (by omega)]
  ·rw [q2 hc, if_pos (by omega)]
 ·obtain ⟨q1, q2⟩ := wrs_good hw0.2 n (by omega) hg
  obtain ⟨s, hs⟩ : ∃ s, segs[n]? = some s := ⟨segs[n], List.getElem?_eq_getElem (by omega)⟩
  rw [wseg_at hs] at hne
  unfold wrecover
  rw [if_neg h0, if_neg hb']
  by_cases hc : (pwsg segs n).1.2 ≤ 1099511627776
  ·have hst : wrs segs (n + 1) = .inr (((pwsg segs n).1.1, (pwsg segs n).1.2, []), (pwsg segs n).2, 21) := by
    rw [wrs_next (q1 hc) hs]; unfold wrone; rw [if_pos hne]
   rw [wrs_stop hst _ (by omega), if_neg (by omega), if_pos hk]
  ·rw [wrs_stop (q2 hc) _ (by omega), if_pos (by omega)]
 ·obtain ⟨q1, q2⟩ := wrs_good hw0.2 k (by omega) hg
  obtain ⟨s, hs⟩ : ∃ s, segs[k]? = some s := ⟨segs[k], List.getElem?_eq_getElem (by omega)⟩
  have hn := pws_num segs k
  have he : pwsg segs (k + 1) = wgone k (pwsg segs k) (wseg segs k) (wrecs (wseg segs k).2) (wn (wseg segs k).2) := rfl
  rw [wseg_at hs] at heq htn hn he
  unfold wrecover
  rw [if_neg h0, if_neg hb']
  by_cases hc : (pwsg segs k).1.2 ≤ 1099511627776
  ·by_cases hc2 : 1099511627776 < (pwsg segs (k + 1)).1.2
   ·have hst : wrs segs (k + 1) = .inr (wzero, [], 81) := by
     rw [wrs_next (q1 hc) hs]; unfold wrone; rw [if_neg (fun q => q heq), if_pos (by omega)]
    rw [wrs_stop hst _ (by omega), if_pos hc2]
   ·rw [if_neg hc2]
    by_cases hlast : k + 1 < segs.length
    ·have hst : wrs segs (k + 1) = .inr (((pwsg segs (k + 1)).1.1, (pwsg segs (k + 1)).1.2, []), (pwsg segs (k + 1)).2, 21) := by
      rw [wrs_next (q1 hc) hs]; unfold wrone; rw [if_neg (fun q => q heq), if_neg (by omega), if_pos ⟨htn, by omega⟩, he]
     rw [wrs_stop hst _ (by omega), if_pos hlast]
    ·obtain hle : k + 1 = segs.length := by omega
     have hst : wrs segs (k + 1) = .inl (pwsg segs (k + 1)) := by
      rw [wrs_next (q1 hc) hs]; unfold wrone; rw [if_neg (fun q => q heq), if_neg (by omega), if_neg (fun q => by have := q.2; omega), he]
     rw [← hle, hst, if_neg (by omega)]
  ·rw [wrs_stop (q2 hc) _ (by omega), if_pos (by omega)]
def ptr (below : Int) : List Wrt → List Wrt
 | [] => []
 | [s] => [s]
 | s :: t :: r => if s.1 = t.1 ∨ t.1 ≤ below then ptr below (t :: r) else s :: ptr below (t :: r)
def pfirst (segs : List Wrt) (next : Int) : Int := if segs.length = 0 then next else (wseg segs 0).1
noncomputable def pst (segs : List Wrt) (next : Int) : Nat → Int
 | 0 => pfirst segs next
 | k + 1 => pst segs next k + ((wrecs (wseg segs k).2).length : Nat)
theorem pst_wst {segs : List Wrt} {next : Int} : ∀ k, k ≤ segs.length → (∀ j s, j < k → segs[j]? = some s → s.1 = pst segs next j) → 0 < k → pst segs next k = wst segs next k
 | 0, _, _, h => by omega
 | k + 1, hk, h, _ => by
  obtain ⟨s, hs⟩ : ∃ s, segs[k]? = some s := ⟨segs[k], List.getElem?_eq_getElem (by omega)⟩
  have := h k s (by omega) hs
  show pst segs next k + _ = _
  simp only [wst, List.getD_eq_getElem?_getD, hs, Option.getD_some, wseg_at hs]
  rw [this]
theorem pst_first {segs : List Wrt} {next : Int} {s : Wrt} (hs : segs[0]? = some s) : pst segs next 0 = s.1 := by
 have : ¬ segs.length = 0 := fun e => by have := (List.getElem?_eq_some_iff.1 hs).1; omega
 show pfirst segs next = _
 unfold pfirst
 rw [if_neg this, wseg_at hs]
def psegOk (segs : List Wrt) (next : Int) (k : Nat) (s : Wrt) : Prop := widx s.1 ∧ s.1 = pst segs next k ∧ wn s.2 = s.2.length
theorem wok_pseg {l : Wlg} (h1 : l.1.length ≤ 4096) (h2 : widx l.2.1) (h3 : l.2.2.length ≤ 4096) (h4 : wwaitOk l.2.2) (h5 : ∀ k s, l.1[k]? = some s → psegOk l.1 l.2.1 k s) (h6 : pst l.1 l.2.1 l.1.length = l.2.1) : WOk l := by
 have hp : ∀ k, k ≤ l.1.length → 0 < k → pst l.1 l.2.1 k = wst l.1 l.2.1 k := fun k hk h0 => pst_wst k hk (fun j s _ hs => (h5 j s hs).2.1) h0
 refine ⟨⟨h1, h2, h3⟩, h4, fun k s hs => ?_, ?_⟩
 ·obtain ⟨q1, q2, q3⟩ := h5 k s hs
  have hk := (List.getElem?_eq_some_iff.1 hs).1
  exact ⟨⟨q1, fun h0 => by rw [q2, hp k (by omega) h0]⟩, q3⟩
 ·by_cases h0 : l.1.length = 0
  ·rw [h0]; rfl
  ·rw [← hp _ (Nat.le_refl _) (by omega)]; exact h6
theorem wok_psegs {l : Wlg} (h : WOk l) : (∀ k s, l.1[k]? = some s → psegOk l.1 l.2.1 k s) ∧ pst l.1 l.2.1 l.1.length = l.2.1 := by
 obtain ⟨_, _, h5, h6⟩ := h
 have hk : ∀ k, k ≤ l.1.length → ∀ j s, j < k → l.1[j]? = some s → s.1 = pst l.1 l.2.1 j := by
  intro k
  induction k with
  | zero => intro _ j s hj; omega
  | succ k ih =>
   intro hk j s hj hs
   by_cases e : j = k
   ·subst e
    by_cases h0 : j = 0
    ·subst h0; rw [pst_first hs]
    ·rw [pst_wst j (by omega) (ih (by omega)) (by omega)]
     exact (h5 j s hs).1.2 (by omega)
   ·exact ih (by omega) j s (by omega) hs
 refine ⟨fun k s hs => ?_, ?_⟩
 ·have hlt := (List.getElem?_eq_some_iff.1 hs).1
  exact ⟨(h5 k s hs).1.1, hk (k + 1) (by omega) k s (by omega) hs, (h5 k s hs).2⟩
 ·by_cases h0 : l.1.length = 0
  ·rw [h0]
   show pfirst _ _ = _
   unfold pfirst; rw [if_pos h0]
  ·rw [pst_wst _ (Nat.le_refl _) (hk _ (Nat.le_refl _)) (by omega)]; exact h6
end Go.Proofs.Ytjjicajodjophaa

namespace Go.Proofs.Ytjjicajodjophaa
open Go.RowKit
def fcells : List Frm → List Value → List Value
 | f :: fs, sv :: svs => .int .u8 (f.1.toNat : Int) :: sv :: fcells fs svs
 | _, _ => []
theorem fcells_snoc : ∀ (fs : List Frm) (svs : List Value) (f : Frm) (sv : Value), svs.length = fs.length → fcells (fs ++ [f]) (svs ++ [sv]) = fcells fs svs ++ [.int .u8 (f.1.toNat : Int), sv]
 | [], svs, f, sv, h => by
  have : svs = [] := List.eq_nil_of_length_eq_zero (by simpa using h)
  subst this; rfl
 | g :: fs, [], f, sv, h => by simp at h
 | g :: fs, s :: svs, f, sv, h => by
  have := fcells_snoc fs svs f sv (by simpa using h)
  simp only [List.cons_append, fcells, this]
theorem fcells_at : ∀ (fs : List Frm) (svs : List Value) (i : Nat), svs.length = fs.length → i < fs.length →
  (fcells fs svs)[i * 2]? = some (.int .u8 ((fs.getD i (0, [])).1.toNat : Int)) ∧ (fcells fs svs)[i * 2 + 1]? = some (svs.getD i undef)
 | [], _, i, _, hi => by simp at hi
 | f :: fs, [], i, h, hi => by simp at h
 | f :: fs, sv :: svs, 0, h, hi => by simp [fcells]
 | f :: fs, sv :: svs, i + 1, h, hi => by
  have := fcells_at fs svs i (by simpa using h) (by simpa using hi)
  rw [show (i + 1) * 2 = i * 2 + 1 + 1 from by omega, show i * 2 + 1 + 1 + 1 = (i * 2 + 1) + 1 + 1 from rfl]
  simpa [fcells] using this
def OwnFs (T B : Nat) (w : World) (v : Value) (fs : List Frm) : Prop :=
 ∃ svs : List Value, svs.length = fs.length ∧ w.ownsRow B T 2 v fs.length (fcells fs svs) ∧ ∀ i, i < fs.length → OwnB B w (svs.getD i undef) (fs.getD i (0, [])).2
theorem OwnFs.nil (T B : Nat) (w : World) : OwnFs T B w (.slice none 0 0) [] := ⟨[], rfl, World.ownsRow_nil _ _ _ _, fun i hi => by simp at hi⟩
theorem OwnFs.below {T B : Nat} {w w' : World} {v : Value} {fs : List Frm} (h : OwnFs T B w v fs) {C : Nat} (hC : w.heap.size ≤ C) (hb : Below C w w') : OwnFs T B w' v fs := by
 obtain ⟨svs, h1, h2, h3⟩ := h
 refine ⟨svs, h1, ⟨h2.1, ?_⟩, fun i hi => (h3 i hi).below hC hb⟩
 rcases h2.2 with hn | ⟨g, cap, cur, hv, hgb, hg, r⟩
 ·exact .inl hn
 ·refine .inr ⟨g, cap, cur, hv, hgb, ?_, r⟩
  rw [hb.block g (by
   by_cases hlt : g < w.heap.size
   ·omega
   ·have : w.heap[g]? = none := by simp; omega
    rw [this] at hg; cases hg)]
  exact hg
theorem OwnFs.mono {T B C : Nat} {w : World} {v : Value} {fs : List Frm} (h : OwnFs T B w v fs) (hC : C ≤ B) : OwnFs T C w v fs := by
 obtain ⟨svs, h1, h2, h3⟩ := h
 refine ⟨svs, h1, ⟨h2.1, ?_⟩, fun i hi => (h3 i hi).mono hC⟩
 rcases h2.2 with hn | ⟨g, cap, cur, hv, hgb, r⟩
 ·exact .inl hn
 ·exact .inr ⟨g, cap, cur, hv, by omega, r⟩
theorem rows_ne {w : World} {B B' e e' s s' n n' : Nat} {v v' : Value} {xs xs' : List Value} (hne : e ≠ e') (h : w.ownsRow B e s v n xs) (h' : w.ownsRow B' e' s' v' n' xs') : v.ownBlock = none ∨ v.ownBlock ≠ v'.ownBlock := by
 rcases h.2 with ⟨rfl, _⟩ | ⟨g, cap, cur, rfl, _, hg, _⟩
 ·exact .inl rfl
 rcases h'.2 with ⟨rfl, _⟩ | ⟨g', cap', cur', rfl, _, hg', _⟩
 ·right; simp [Value.ownBlock]
 ·right
  simp only [Value.ownBlock, ne_eq, Option.some.injEq]
  rintro rfl
  rw [hg] at hg'
  simp only [Option.some.injEq, Obj.cells.injEq] at hg'
  exact hne hg'.2.1
theorem OwnFs.snoc {T B : Nat} {w w' : World} {v v' : Value} {fs : List Frm} {f : Frm} {sv : Value} (hT : T ≠ 5) {svs : List Value} (h1 : svs.length = fs.length) (h2 : w.ownsRow B T 2 v fs.length (fcells fs svs))
  (h3 : ∀ i, i < fs.length → OwnB B w (svs.getD i undef) (fs.getD i (0, [])).2) (hs : OwnB B w sv f.2)
  (hg : w.grownBy w' v.ownBlock) (hw : w'.ownsRow B T 2 v' (fs.length + 1) (fcells fs svs ++ [.int .u8 (f.1.toNat : Int), sv])) : OwnFs T B w' v' (fs ++ [f]) := by
 refine ⟨svs ++ [sv], by simp [h1], ?_, ?_⟩
 ·rw [fcells_snoc fs svs f sv h1, List.length_append]
  exact hw
 ·intro i hi
  simp only [List.length_append, List.length_cons, List.length_nil] at hi
  by_cases hlt : i < fs.length
  ·have e1 : (svs ++ [sv]).getD i undef = svs.getD i undef := by simp [List.getD_eq_getElem?_getD, List.getElem?_append_left (show i < svs.length by omega)]
   have e2 : (fs ++ [f]).getD i (0, []) = fs.getD i (0, []) := by simp [List.getD_eq_getElem?_getD, List.getElem?_append_left hlt]
   rw [e1, e2]
   exact World.ownsRow.kept (h3 i hlt) hg (rows_ne (Ne.symm hT) (h3 i hlt) h2)
  ·obtain rfl : i = fs.length := by omega
   have e1 : (svs ++ [sv]).getD fs.length undef = sv := by rw [← h1]; simp [List.getD_eq_getElem?_getD]
   have e2 : (fs ++ [f]).getD fs.length (0, []) = f := by simp [List.getD_eq_getElem?_getD]
   rw [e1, e2]
   exact World.ownsRow.kept hs hg (rows_ne (Ne.symm hT) hs h2)
theorem OwnFs.from {T B : Nat} {w : World} {v : Value} {n : Nat} {xs : List Value} (h : w.ownsRow B T 2 v n xs) : ∀ k, v.ownBlock = some k → B ≤ k := by
 intro k hk
 rcases h.2 with ⟨rfl, _⟩ | ⟨g, cap, cur, rfl, hb, _⟩
 ·cases hk
 ·simp only [Value.ownBlock, Option.some.injEq] at hk
  omega
theorem two_cells (w : World) (x y : Value) (t : TypeId) (g : Nat) (hg : g = w.heap.size) : ∀ j u, ([x, y] : List Value)[j]? = some u → (w.alloc (.cells #[x, y] t)).cell? ((⟨g, 0, none⟩ : Addr).add j) = some u := by
 subst hg
 intro j u hj
 match j, hj with
 | 0, hj =>
  simp at hj; subst hj
  show (w.alloc (.cells #[x, y] t)).cell? ⟨w.heap.size, 0, none⟩ = _
  rw [cell_of_row _ _ 0 _ _ (0, 0) (heap_alloc_last w _)]; rfl
 | 1, hj =>
  simp at hj; subst hj
  show (w.alloc (.cells #[x, y] t)).cell? ⟨w.heap.size, 1, none⟩ = _
  rw [cell_of_row _ _ 1 _ _ (0, 0) (heap_alloc_last w _)]; rfl
 | j + 2, hj => simp at hj
def RdFs (w : World) (v : Value) (fs : List Frm) : Prop :=
 ∃ ao cap, v = .slice ao fs.length cap ∧ fs.length ≤ cap ∧ cap ≤ maxLen ∧ (ao = none → cap = 0) ∧
  (fs = [] ∨ ∃ b off, ao = some ⟨b, off, none⟩ ∧ ∀ i, i < fs.length → w.cell? ⟨b, off + i * 2, none⟩ = some (.int .u8 ((fs.getD i (0, [])).1.toNat : Int)) ∧
   ∃ sv, w.cell? ⟨b, off + i * 2 + 1, none⟩ = some sv ∧ Rd w sv (fs.getD i (0, [])).2)
theorem RdFs.below {w w' : World} {v : Value} {fs : List Frm} (h : RdFs w v fs) {B : Nat} (hB : w.heap.size ≤ B) (hb : Below B w w') : RdFs w' v fs := by
 obtain ⟨ao, cap, rfl, h1, h2, h3, h4⟩ := h
 refine ⟨ao, cap, rfl, h1, h2, h3, ?_⟩
 rcases h4 with h4 | ⟨b, off, rfl, hc⟩
 ·exact .inl h4
 ·refine .inr ⟨b, off, rfl, fun i hi => ?_⟩
  obtain ⟨c1, sv, c2, c3⟩ := hc i hi
  exact ⟨(hb.cell (p := ⟨b, off + i * 2, none⟩) (by have := cell_lt c1; show b < B; omega)).trans c1, sv, (hb.cell (p := ⟨b, off + i * 2 + 1, none⟩) (by have := cell_lt c2; show b < B; omega)).trans c2, c3.below hB hb⟩
theorem RdFs.to {w w' : World} {v : Value} {fs : List Frm} (h : RdFs w v fs) (hb : Below w.heap.size w w') : RdFs w' v fs := h.below (Nat.le_refl _) hb
theorem RdFs.slice {w : World} {v : Value} {fs : List Frm} (h : RdFs w v fs) : ∃ ao cap, v = .slice ao fs.length cap := by
 obtain ⟨ao, cap, rfl, _⟩ := h; exact ⟨_, _, rfl⟩
theorem OwnFs.rd {T B : Nat} {w : World} {v : Value} {fs : List Frm} (h : OwnFs T B w v fs) : RdFs w v fs := by
 obtain ⟨svs, h1, h2, h3⟩ := h
 rcases h2.2 with ⟨rfl, h0⟩ | ⟨g, cap, cur, rfl, hgb, hg, hn, hm, hs, ht⟩
 ·have : fs = [] := List.eq_nil_of_length_eq_zero h0
  subst this
  exact ⟨none, 0, rfl, Nat.le_refl _, Nat.zero_le _, fun _ => rfl, .inl rfl⟩
 ·refine ⟨_, cap, rfl, hn, hm, (fun h => by cases h), .inr ⟨g, 0, rfl, fun i hi => ?_⟩⟩
  obtain ⟨c1, c2⟩ := fcells_at fs svs i h1 hi
  refine ⟨?_, svs.getD i undef, ?_, (h3 i hi).rd⟩
  ·rw [Nat.zero_add, h2.cellAt (i * 2) (by omega)]; exact c1
  ·rw [Nat.zero_add, h2.cellAt (i * 2 + 1) (by omega)]; exact c2
end Go.Proofs.Ytjjicajodjophaa

namespace Go.Proofs.Ytjjicajodjophaa
open Go.RowKit
def OwnV (B C : Nat) (w : World) (v : Value) (xss : List (List UInt8)) : Prop :=
 ∃ vs : List Value, vs.length = xss.length ∧ w.ownsRow B 62 1 v xss.length vs ∧ ∀ i, i < xss.length → OwnB C w (vs.getD i undef) (xss.getD i [])
theorem OwnV.nil (B C : Nat) (w : World) : OwnV B C w (.slice none 0 0) [] := ⟨[], rfl, World.ownsRow_nil _ _ _ _, fun i hi => by simp at hi⟩
theorem rows_below {w w' : World} {B e s n : Nat} {v : Value} {xs : List Value} (h : w.ownsRow B e s v n xs) {C : Nat} (hC : w.heap.size ≤ C) (hb : Below C w w') : w'.ownsRow B e s v n xs := by
 refine ⟨h.1, ?_⟩
 rcases h.2 with hn | ⟨g, cap, cur, hv, hgb, hg, r⟩
 ·exact .inl hn
 ·exact .inr ⟨g, cap, cur, hv, hgb, (hb.block g (by have := lt_of_block hg; omega)).trans hg, r⟩
theorem rows_mono {w : World} {B C e s n : Nat} {v : Value} {xs : List Value} (h : w.ownsRow B e s v n xs) (hC : C ≤ B) : w.ownsRow C e s v n xs := by
 refine ⟨h.1, ?_⟩
 rcases h.2 with hn | ⟨g, cap, cur, hv, hgb, r⟩
 ·exact .inl hn
 ·exact .inr ⟨g, cap, cur, hv, by omega, r⟩
theorem rows_from {w : World} {B e s n : Nat} {v : Value} {xs : List Value} (h : w.ownsRow B e s v n xs) : ∀ k, v.ownBlock = some k → B ≤ k := by
 intro k hk
 rcases h.2 with ⟨rfl, _⟩ | ⟨g, cap, cur, rfl, hb, _⟩
 ·cases hk
 ·simp only [Value.ownBlock, Option.some.injEq] at hk
  omega
theorem OwnV.below {B C : Nat} {w w' : World} {v : Value} {xss : List (List UInt8)} (h : OwnV B C w v xss) (hb : Below w.heap.size w w') : OwnV B C w' v xss := by
 obtain ⟨vs, h1, h2, h3⟩ := h
 exact ⟨vs, h1, rows_below h2 (Nat.le_refl _) hb, fun i hi => (h3 i hi).below (Nat.le_refl _) hb⟩
theorem OwnV.mono {B C B' C' : Nat} {w : World} {v : Value} {xss : List (List UInt8)} (h : OwnV B C w v xss) (hB : B' ≤ B) (hC : C' ≤ C) : OwnV B' C' w v xss := by
 obtain ⟨vs, h1, h2, h3⟩ := h
 exact ⟨vs, h1, rows_mono h2 hB, fun i hi => (h3 i hi).mono hC⟩
theorem OwnV.rd {B C : Nat} {w : World} {v : Value} {xss : List (List UInt8)} (h : OwnV B C w v xss) : RdSec w v xss := by
 obtain ⟨vs, hl, ⟨_, ⟨rfl, h0⟩ | ⟨g, cap, cur, rfl, hb, hg, hn, hm, hs, ht⟩⟩, he⟩ := h
 ·have : xss = [] := List.eq_nil_of_length_eq_zero h0
  subst this
  exact RdS.nil _ _
 ·refine ⟨_, cap, rfl, hn, hm, (fun e => by cases e), .inr ⟨g, 0, rfl, fun i x hx => ?_⟩⟩
  have hi : i < xss.length := (List.getElem?_eq_some_iff.1 hx).1
  have hr := (he i hi).rd
  rw [getD_some hx] at hr
  refine ⟨[vs.getD i undef], ⟨_, rfl, hr⟩, fun j u hj => ?_⟩
  match j, hj with
  | 0, hj =>
   simp only [List.getElem?_cons_zero, Option.some.injEq] at hj
   subst hj
   show w.cell? ⟨g, 0 + i * 1 + 0, none⟩ = _
   rw [cell_of_row w g _ cur _ (0, 0) hg]
   have e : cur[0 + i * 1 + 0]? = (cur.toList.take (xss.length * 1))[i]? := by
    rw [List.getElem?_take, if_pos (by omega)]; simp
   rw [e, ht]
   simp [hl, hi]
  | j + 1, hj => simp at hj
theorem OwnV.app {B C : Nat} {w w' : World} {v v' : Value} {xss yss : List (List UInt8)} {us vs : List Value} (h1 : vs.length = xss.length) (h2 : w.ownsRow B 62 1 v xss.length vs) (h3 : ∀ i, i < xss.length → OwnB C w (vs.getD i undef) (xss.getD i []))
  (k1 : us.length = yss.length) (k3 : ∀ i, i < yss.length → OwnB C w (us.getD i undef) (yss.getD i [])) (hg : w.grownBy w' v.ownBlock) (hw : w'.ownsRow B 62 1 v' (xss.length + yss.length) (vs ++ us)) : OwnV B C w' v' (xss ++ yss) := by
 refine ⟨vs ++ us, by simp [h1, k1], by rw [List.length_append]; exact hw, fun i hi => ?_⟩
 rw [List.length_append] at hi
 by_cases hlt : i < xss.length
 ·have e1 : (vs ++ us).getD i undef = vs.getD i undef := by simp [List.getD_eq_getElem?_getD, List.getElem?_append_left (show i < vs.length by omega)]
  have e2 : (xss ++ yss).getD i [] = xss.getD i [] := by simp [List.getD_eq_getElem?_getD, List.getElem?_append_left hlt]
  rw [e1, e2]
  exact World.ownsRow.kept (h3 i hlt) hg (rows_ne (by decide) (h3 i hlt) h2)
 ·have e1 : (vs ++ us).getD i undef = us.getD (i - xss.length) undef := by simp [List.getD_eq_getElem?_getD, List.getElem?_append_right (show vs.length ≤ i by omega), h1]
  have e2 : (xss ++ yss).getD i [] = yss.getD (i - xss.length) [] := by simp [List.getD_eq_getElem?_getD, List.getElem?_append_right (show xss.length ≤ i by omega)]
  rw [e1, e2]
  exact World.ownsRow.kept (k3 _ (by omega)) hg (rows_ne (by decide) (k3 _ (by omega)) h2)
theorem OwnFs.at {T B : Nat} {w : World} {v : Value} {fs : List Frm} (h : OwnFs T B w v fs) {K : Nat} {f : Frm} (hK : fs[K]? = some f) :
  ∃ g cap sv, v = .slice (some ⟨g, 0, none⟩) fs.length cap ∧ w.cell? ⟨g, K * 2, none⟩ = some (.int .u8 (f.1.toNat : Int)) ∧ w.cell? ⟨g, K * 2 + 1, none⟩ = some sv ∧ OwnB B w sv f.2 := by
 obtain ⟨svs, h1, h2, h3⟩ := h
 have hi : K < fs.length := (List.getElem?_eq_some_iff.1 hK).1
 obtain ⟨c0, c1⟩ := fcells_at fs svs K h1 hi
 have h3' := h3 K hi
 rw [getD_some hK] at c0 h3'
 rcases h2.2 with ⟨_, h0⟩ | ⟨g, cap, cur, hv, hb, hg, hn, hm, hs, ht⟩
 ·omega
 ·subst hv
  refine ⟨g, cap, svs.getD K undef, rfl, ?_, ?_, h3'⟩
  ·rw [h2.cellAt (K * 2) (by omega)]; exact c0
  ·rw [h2.cellAt (K * 2 + 1) (by omega)]; exact c1
end Go.Proofs.Ytjjicajodjophaa

namespace Go.Proofs.Ytjjicajodjophaa
open Go.RowKit
def fsealE (d : List UInt8) : Int := if 4096 < d.length then 5 else 0
noncomputable def fsealO (k : UInt8) (d : List UInt8) : List UInt8 := if 4096 < d.length then [] else fseal k d
end Go.Proofs.Ytjjicajodjophaa

namespace Go.Proofs.Ytjjicajodjophaa
open Go.RowKit
theorem _root_.Go.Proofs.Ytjjicajodjophaa.Rd.drew {w : World} {v : Value} {xs : List UInt8} (h : Rd w v xs) : Rd w.drew v xs := by
 obtain ⟨ao, cap, rfl, h1, h2, h3, h4⟩ := h
 exact ⟨ao, cap, rfl, h1, h2, h3, h4⟩
theorem ret_frame {P : Program} {fn : Func} {R : Ending → World → Prop} {a : Act} {w : World} {p u1 u2 : Tmp} {ty : TypeId} (h : fn.results = #[.cell p ty, .tmp u1, .tmp u2]) (hd : a.defers = []) (g : Nat) (hp : a.tmps.getD p undef = .pointer (some ⟨g, 0, none⟩))
  (x y : Value) (t : TypeId) (fr : Nat × Nat) (hg : w.heap[g]? = some (.cells #[x, y] t fr)) (d : TypeDesc) (hu : P.underlying ty = some d) (hr : (match d with | .struct _ | .array _ _ => true | _ => false) = true) (hi : (P.info? ty).map (·.size) = some 2)
  (v1 v2 : Value) (e1 : a.tmps.getD u1 undef = v1) (e2 : a.tmps.getD u2 undef = v2) (hR : R (.returned (.tuple #[.agg #[x, y], v1, v2])) w) : bodyPost P fn R .ret a w := by
 refine bodyPost_ret (v := .tuple #[.agg #[x, y], v1, v2]) ?_ hd hR
 have hp' : a.tmps[p]?.getD undef = .pointer (some ⟨g, 0, none⟩) := by simpa using hp
 have e1' : a.tmps[u1]?.getD undef = v1 := by simpa using e1
 have e2' : a.tmps[u2]?.getD undef = v2 := by simpa using e2
 simp [results, h, hp', e1', e2', asAddr, run_loadVar_row w g t ty #[x, y] fr d hg hu hr hi]
theorem wr4 (n : Nat) (h : n ≤ 4096) : wrap64 ((n : Int) + 4) = (n : Int) + 4 ∧ wrap64 ((n : Int) + 8) = (n : Int) + 8 ∧ IntKind.i64.wrap ((n : Int) + 4) = (n : Int) + 4 ∧ IntKind.i64.wrap ((n : Int) + 8) = (n : Int) + 8 := by
 refine ⟨IntWalk.wrap64_in _ (by omega), IntWalk.wrap64_in _ (by omega), ?_, ?_⟩
 ·rw [IntKind.wrap_i64]; omega
 ·rw [IntKind.wrap_i64]; omega
theorem frame_info : (Try.prog.info? 135).map (·.size) = some 2 := by kernel_rfl
theorem told_int (b : List UInt8) (h : 8 ≤ b.length) : bits .or .i64 (bt b 2 * 256) (bt b 3) = ((ftold b : Nat) : Int) ∧ ftold b < 65536 := by
 have e : ftold b = (b.getD 2 0).toNat * 256 + (b.getD 3 0).toNat := by
  unfold ftold numOf
  have hl : ((b.drop 2).take 2).length = 2 := by simp; omega
  rw [hl]
  simp only [numTo]
  have g : ∀ i, i < 2 → ((b.drop 2).take 2).getD i 0 = b.getD (2 + i) 0 := by
   intro i hi
   simp [List.getD_eq_getElem?_getD, hi]
  rw [g 0 (by decide), g 1 (by decide)]
  show (0 * 256 + (b.getD 2 0).toNat) * 256 + (b.getD 3 0).toNat = _
  omega
 have h2 := (b.getD 2 0).toNat_lt
 have h3 := (b.getD 3 0).toNat_lt
 refine ⟨?_, by omega⟩
 unfold bt
 rw [e, show ((b.getD 2 0).toNat : Int) * 256 = (((b.getD 2 0).toNat * 256 : Nat) : Int) from by rw [Int.natCast_mul]; rfl]
 generalize (b.getD 2 0).toNat = p at *
 generalize (b.getD 3 0).toNat = q at *
 have key : (BitVec.ofInt 64 ((p * 256 : Nat) : Int) ||| BitVec.ofInt 64 (q : Int)).toNat = p * 256 + q := by
  rw [BitVec.toNat_or, BitVec.ofInt_natCast, BitVec.ofInt_natCast, BitVec.toNat_ofNat, BitVec.toNat_ofNat, Nat.mod_eq_of_lt (by omega), Nat.mod_eq_of_lt (by omega)]
  exact nat_join 8 (p * 256) q (by simp) (by omega)
 show IntKind.i64.wrap (((BitVec.ofInt 64 ((p * 256 : Nat) : Int) ||| BitVec.ofInt 64 (q : Int)).toNat : Nat) : Int) = _
 rw [key, IntKind.wrap_i64]
 omega
set_option maxRecDepth 100000 in
set_option maxHeartbeats 1000000 in
theorem ropen_any (w : World) (v : Value) (b : List UInt8) (hrd : Rd w v b) (hm : b.length ≤ 1000000000000000) :
  Calls Try.prog 91 #[v] w fun e w' => ∃ sv, e = .returned (.tuple #[.agg #[.int .u8 ((fopen b).2.1.1.toNat : Int), sv], .int .i64 ((fopen b).2.2 : Nat), .int .i64 ((fopen b).1 : Nat)]) ∧ OwnB w.heap.size w' sv (fopen b).2.1.2 ∧ Below w.heap.size w w' := by
 obtain ⟨ao, cap, rfl⟩ := hrd.slice
 have hz := heap_alloc_last w (.cells #[.int .u8 0, .slice none 0 0] 135)
 have hb1 : Below w.heap.size w (w.alloc (.cells #[.int .u8 0, .slice none 0 0] 135)) := (Below.refl _ _).alloc (Nat.le_refl _) _
 by_cases h1 : b.length < 8
 ·have hq : (b.length : Int) < 8 := by omega
  have hF : Hid (fopen b = (8, (0, []), 0)) := by show _ = _; unfold fopen; rw [if_pos h1]
  go_enter Try.func91, Try.ntmps91
  go_wp2
  refine ret_frame rfl rfl w.heap.size rfl _ _ _ _ hz _ Try.underlying135 rfl frame_info _ _ rfl rfl ?_
  rw [hF.out]
  exact ⟨_, rfl, World.ownsRow_nil _ _ _ _, hb1⟩
 have hq : ¬ (b.length : Int) < 8 := by omega
 obtain ⟨a1, c1, e1, l1, m1, n1, r1⟩ := hrd.to hb1
 cases e1
 rcases r1 with r1 | ⟨b1, o1, rfl, hc1⟩
 ·rw [r1] at h1; simp at h1
 have t0 := hc1 0 (by omega)
 have t1 := hc1 1 (by omega)
 have t2 := hc1 2 (by omega)
 have t3 := hc1 3 (by omega)
 have q1 : (1 : Int) < (b.length : Int) := by omega
 have q2 : (2 : Int) < (b.length : Int) := by omega
 have q3 : (3 : Int) < (b.length : Int) := by omega
 have q0 : (0 : Int) < (b.length : Int) := by omega
 have v2 := bt_bd b 2
 have v3 := bt_bd b 3
 obtain ⟨hn, hn2⟩ := told_int b (by omega)
 obtain ⟨W, hW⟩ : ∃ W, W = w.alloc (.cells #[.int .u8 0, .slice none 0 0] 135) := ⟨_, rfl⟩
 rw [← hW] at hb1 t0 t1 t2 t3 hz hc1
 replace hc1 := hide hc1
 simp only [Nat.add_zero] at t0
 have cz0 : W.cell? ⟨w.heap.size, 0, none⟩ = some (.int .u8 0) := by rw [cell_of_row _ _ 0 _ _ (0, 0) hz]; rfl
 have cz1 : W.cell? ⟨w.heap.size, 1, none⟩ = some (.slice none 0 0) := by rw [cell_of_row _ _ 1 _ _ (0, 0) hz]; rfl
 have fz0 : W.frozen? ⟨w.heap.size, 0, none⟩ = false := frozen_of_row W w.heap.size 0 _ _ hz
 have fz1 : W.frozen? ⟨w.heap.size, 1, none⟩ = false := frozen_of_row W w.heap.size 1 _ _ hz
 by_cases h2 : b.getD 0 0 ≠ 167
 ·have hF : Hid (fopen b = (22, (0, []), 0)) := by show _ = _; unfold fopen; rw [if_neg h1, if_pos h2]
  have hd : (bt b 0 != 167) = true := by
   simp only [bne_iff_ne]
   intro e; apply h2; unfold bt at e
   exact UInt8.toNat_inj.1 (show (b.getD 0 0).toNat = 167 by omega)
  go_enter Try.func91, Try.ntmps91
  go_wp2
  rw [← hW]
  replace hW := hide hW
  go_quiet (fail)
  go_wp2
  refine ret_frame rfl rfl w.heap.size rfl _ _ _ _ (heap_set2 (u := W.drewN nq) hz _ _) _ Try.underlying135 rfl frame_info _ _ rfl rfl ?_
  rw [hF.out]
  exact ⟨_, rfl, World.ownsRow_nil _ _ _ _, below_set2 (hb1.trans (below_drewN' _ _ _)) (Nat.le_refl _) _ _⟩
 have hd : (bt b 0 != 167) = false := by
  have : b.getD 0 0 = 167 := Decidable.not_not.1 h2
  unfold bt; rw [this]; rfl
 by_cases h3 : 4096 < ftold b
 ·have hF : Hid (fopen b = (5, (0, []), 0)) := by show _ = _; unfold fopen; rw [if_neg h1, if_neg h2, if_pos h3]
  have hd3 : (4096 : Int) < (ftold b : Int) := by omega
  go_enter Try.func91, Try.ntmps91
  go_wp2
  rw [← hW]
  replace hW := hide hW
  go_quiet (fail)
  go_wp2
  refine ret_frame rfl rfl w.heap.size rfl _ _ _ _ (heap_set2 (u := W.drewN nq) hz _ _) _ Try.underlying135 rfl frame_info _ _ rfl rfl ?_
  rw [hF.out]
  exact ⟨_, rfl, World.ownsRow_nil _ _ _ _, below_set2 (hb1.trans (below_drewN' _ _ _)) (Nat.le_refl _) _ _⟩
 have hd3 : ¬ (4096 : Int) < (ftold b : Int) := by omega
 by_cases h4 : b.length < ftold b + 8
 ·have hF : Hid (fopen b = (8, (0, []), 0)) := by show _ = _; unfold fopen; rw [if_neg h1, if_neg h2, if_neg h3, if_pos h4]
  have hd4 : (b.length : Int) < (ftold b : Int) + 8 := by omega
  go_enter Try.func91, Try.ntmps91
  go_wp2
  rw [← hW]
  replace hW := hide hW
  go_quiet (fail)
  go_wp2
  refine ret_frame rfl rfl w.heap.size rfl _ _ _ _ (heap_set2 (u := W.drewN nq) hz _ _) _ Try.underlying135 rfl frame_info _ _ rfl rfl ?_
  rw [hF.out]
  exact ⟨_, rfl, World.ownsRow_nil _ _ _ _, below_set2 (hb1.trans (below_drewN' _ _ _)) (Nat.le_refl _) _ _⟩
 have hd4 : ¬ (b.length : Int) < (ftold b : Int) + 8 := by omega
 obtain ⟨n, hne⟩ : ∃ n, ftold b = n := ⟨_, rfl⟩
 rw [hne] at hn hd3 hd4 h3 h4
 have hR := (Rd.to hrd hb1)
 have rN : Rd W (.slice (some ⟨b1, o1 + (n + 4), none⟩) 4 (cap - (n + 4))) ((b.drop (n + 4)).take 4) := by
  have := (rd_sub hR (q := n + 4) (to := n + 8) (by omega) (by omega)).1
  rw [List.drop_take, show n + 8 - (n + 4) = 4 from by omega] at this
  simpa [Addr.add] using this
 have rS : Rd W (.slice (some ⟨b1, o1, none⟩) (n + 4) cap) (b.take (n + 4)) := by
  have := (rd_sub hR (q := 0) (to := n + 4) (by omega) (by omega)).1
  simpa [Addr.add] using this
 have kN : ∀ u, Rd u (.slice (some ⟨b1, o1 + (n + 4), none⟩) 4 (cap - (n + 4))) ((b.drop (n + 4)).take 4) → Calls Try.prog 100 #[.slice (some ⟨b1, o1 + (n + 4), none⟩) 4 (cap - (n + 4))] u fun e w' => e = .returned (.int .u64 (numOf ((b.drop (n + 4)).take 4) : Nat)) ∧ w' = u :=
  fun u h => (refNumber_any u _ _ h (by simp; omega)).mono fun e w' h => ⟨h.1, h.2.symm⟩
 have kS : ∀ u, Rd u (.slice (some ⟨b1, o1, none⟩) (n + 4) cap) (b.take (n + 4)) → Calls Try.prog 93 #[.slice (some ⟨b1, o1, none⟩) (n + 4) cap] u fun e w' => e = .returned (.int .u32 (sum (b.take (n + 4)) : Nat)) ∧ w' = u :=
  fun u h => (psum_any u _ _ h (by simp; omega)).mono fun e w' h => ⟨h.1, h.2.symm⟩
 have x1 : (n : Int) + 4 ≤ (n : Int) + 8 := by omega
 have x2 : (n : Int) + 8 ≤ (cap : Int) := by omega
 have x3 : (n : Int) + 4 ≤ (cap : Int) := by omega
 have x4 : ¬ cap = n + 4 := by omega
 have hsl := sum_lt (b.take (n + 4))
 have hwr : IntKind.u64.wrap ((sum (b.take (n + 4)) : Nat) : Int) = ((sum (b.take (n + 4)) : Nat) : Int) := by unfold M32 at hsl; rw [IntKind.wrap_u64]; omega
 by_cases h5 : numOf ((b.drop (n + 4)).take 4) ≠ sum (b.take (n + 4))
 ·have hF : Hid (fopen b = (21, (0, []), 0)) := by show _ = _; unfold fopen; rw [hne, if_neg h1, if_neg h2, if_neg h3, if_neg h4, if_pos h5]
  have hd5 : (((numOf ((b.drop (n + 4)).take 4) : Nat) : Int) != ((sum (b.take (n + 4)) : Nat) : Int)) = true := by
   simp only [bne_iff_ne]; omega
  generalize numOf ((b.drop (n + 4)).take 4) = N at *
  generalize sum (b.take (n + 4)) = S at *
  go_enter Try.func91, Try.ntmps91
  go_wp2
  rw [← hW]
  replace hW := hide hW
  go_quiet (fail)
  go_wp2
  obtain ⟨W2, hW2⟩ : ∃ W2, W2 = W.drewN nq := ⟨_, rfl⟩
  rw [← hW2]
  replace rN := rN.drewN nq
  replace rS := rS.drewN nq
  rw [← hW2] at rN rS
  have dz0 : W2.cell? ⟨w.heap.size, 0, none⟩ = some (.int .u8 0) := by rw [hW2]; exact cz0
  have dz1 : W2.cell? ⟨w.heap.size, 1, none⟩ = some (.slice none 0 0) := by rw [hW2]; exact cz1
  have gz0 : W2.frozen? ⟨w.heap.size, 0, none⟩ = false := by rw [hW2]; exact fz0
  have gz1 : W2.frozen? ⟨w.heap.size, 1, none⟩ = false := by rw [hW2]; exact fz1
  have hz2 : W2.heap[w.heap.size]? = some (.cells #[.int .u8 0, .slice none 0 0] 135 (0, 0)) := by rw [hW2]; exact hz
  have hb2 : Below w.heap.size w W2 := by rw [hW2]; exact hb1.trans (below_drewN' _ _ _)
  clear cz0 cz1 fz0 fz1 hz hb1 hW2
  have RN := hide rN
  have RS := hide rS
  clear rN rS hR hrd
  have KN := hide kN
  have KS := hide kS
  clear kN kS
  go_quiet (first | (go_at_call 100; exact Calls.quiet_of_same (KN.out _ (RN.out.drewN _))) | (go_at_call 93; exact Calls.quiet_of_same (KS.out _ (RS.out.drewN _))))
  go_wp2
  refine ret_frame rfl rfl w.heap.size rfl _ _ _ _ (heap_set2 (u := W2.drewN _) hz2 _ _) _ Try.underlying135 rfl frame_info _ _ rfl rfl ?_
  rw [hF.out]
  exact ⟨_, rfl, World.ownsRow_nil _ _ _ _, below_set2 (hb2.trans (below_drewN' _ _ _)) (Nat.le_refl _) _ _⟩
 have hF : Hid (fopen b = (0, (b.getD 1 0, (b.drop 4).take n), n + 8)) := by show _ = _; unfold fopen; rw [hne, if_neg h1, if_neg h2, if_neg h3, if_neg h4, if_neg h5]
 have hd5 : (((numOf ((b.drop (n + 4)).take 4) : Nat) : Int) != ((sum (b.take (n + 4)) : Nat) : Int)) = false := by
  rw [Decidable.not_not.1 h5]; simp
 have rC : Rd W (.slice (some ⟨b1, o1 + 4, none⟩) n (cap - 4)) ((b.drop 4).take n) := by
  have := (rd_sub hR (q := 4) (to := n + 4) (by omega) (by omega)).1
  rw [List.drop_take, show n + 4 - 4 = n from by omega] at this
  simpa [Addr.add] using this
 have x5 : (4 : Int) ≤ (n : Int) + 4 := by omega
 have x6 : ¬ cap = 4 := by omega
 have T1 := hide t1
 ·generalize numOf ((b.drop (n + 4)).take 4) = N at *
  generalize sum (b.take (n + 4)) = S at *
  go_enter Try.func91, Try.ntmps91
  go_wp2
  rw [← hW]
  replace hW := hide hW
  go_quiet (fail)
  go_wp2
  obtain ⟨W2, hW2⟩ : ∃ W2, W2 = W.drewN nq := ⟨_, rfl⟩
  rw [← hW2]
  replace rN := rN.drewN nq
  replace rS := rS.drewN nq
  rw [← hW2] at rN rS
  have dz0 : W2.cell? ⟨w.heap.size, 0, none⟩ = some (.int .u8 0) := by rw [hW2]; exact cz0
  have dz1 : W2.cell? ⟨w.heap.size, 1, none⟩ = some (.slice none 0 0) := by rw [hW2]; exact cz1
  have gz0 : W2.frozen? ⟨w.heap.size, 0, none⟩ = false := by rw [hW2]; exact fz0
  have gz1 : W2.frozen? ⟨w.heap.size, 1, none⟩ = false := by rw [hW2]; exact fz1
  have hz2 : W2.heap[w.heap.size]? = some (.cells #[.int .u8 0, .slice none 0 0] 135 (0, 0)) := by rw [hW2]; exact hz
  have hb2 : Below w.heap.size w W2 := by rw [hW2]; exact hb1.trans (below_drewN' _ _ _)
  have s1 : W2.cell? ⟨b1, o1 + 1, none⟩ = some (.int .u8 (bt b 1)) := by rw [hW2]; exact T1.out
  replace rC := rC.drewN nq
  rw [← hW2] at rC
  have RC := hide rC
  clear rC T1
  clear cz0 cz1 fz0 fz1 hz hb1 hW2
  have RN := hide rN
  have RS := hide rS
  clear rN rS hR hrd
  have KN := hide kN
  have KS := hide kS
  clear kN kS
  go_quiet (first | (go_at_call 100; exact Calls.quiet_of_same (KN.out _ (RN.out.drewN _))) | (go_at_call 93; exact Calls.quiet_of_same (KS.out _ (RS.out.drewN _))))
  go_wp2
  obtain ⟨W4, hW4⟩ : ∃ W4, W4 = W2.drewN nq := ⟨_, rfl⟩
  rw [← hW4]
  have u1 : W4.cell? ⟨b1, o1 + 1, none⟩ = some (.int .u8 (bt b 1)) := by rw [hW4]; exact s1
  have dz0' : W4.cell? ⟨w.heap.size, 0, none⟩ = some (.int .u8 0) := by rw [hW4]; exact dz0
  have dz1' : W4.cell? ⟨w.heap.size, 1, none⟩ = some (.slice none 0 0) := by rw [hW4]; exact dz1
  have hz4 : W4.heap[w.heap.size]? = some (.cells #[.int .u8 0, .slice none 0 0] 135 (0, 0)) := by rw [hW4]; exact hz2
  have hb4 : Below w.heap.size w W4 := by rw [hW4]; exact hb2.trans (below_drewN' _ _ _)
  have rc : Rd W4 (.slice (some ⟨b1, o1 + 4, none⟩) n (cap - 4)) ((b.drop 4).take n) := by rw [hW4]; exact RC.out.drewN _
  have hgl : w.heap.size < W4.heap.size := cell_lt dz0'
  have KEEP : Hid (∀ w5, Below W4.drew.heap.size W4.drew w5 → w5.cell? ⟨b1, o1 + 1, none⟩ = some (.int .u8 (bt b 1)) ∧ w5.cell? ⟨w.heap.size, 0, none⟩ = some (.int .u8 0) ∧ w5.cell? ⟨w.heap.size, 1, none⟩ = some (.slice none 0 0) ∧ w5.frozen? ⟨w.heap.size, 0, none⟩ = false ∧ w5.frozen? ⟨w.heap.size, 1, none⟩ = false ∧ w5.heap[w.heap.size]? = some (.cells #[.int .u8 0, .slice none 0 0] 135 (0, 0)) ∧ Below w.heap.size w w5) := by
   intro w5 hb
   have hg5 : w5.heap[w.heap.size]? = some (.cells #[.int .u8 0, .slice none 0 0] 135 (0, 0)) := (hb.block w.heap.size hgl).trans hz4
   exact ⟨(hb.cell (p := ⟨b1, o1 + 1, none⟩) (cell_lt u1)).trans u1, (hb.cell (p := ⟨w.heap.size, 0, none⟩) hgl).trans dz0', (hb.cell (p := ⟨w.heap.size, 1, none⟩) hgl).trans dz1', frozen_of_row _ _ 0 _ _ hg5, frozen_of_row _ _ 1 _ _ hg5, hg5,
    (below_drew hb4).trans (hb.mono hb4.size)⟩
  have HG : Hid (w.heap.size < W4.drew.heap.size) := hgl
  have HL : Hid (w.heap.size ≤ W4.drew.heap.size) := Nat.le_of_lt hgl
  have hcp : ((b.drop 4).take n).length ≤ 140737488355328 := by simp; omega
  have RCC := hide rc.drew
  clear s1 dz0 dz1 gz0 gz1 hz2 hb2 RC rc hW4 dz0' dz1' hz4 hb4 hgl RN RS KN KS
  have y1 : (4 : Int) ≤ (cap : Int) := by omega
  have y2 : (0 : Int) ≤ (n : Int) + 4 := by omega
  have y3 : ((n : Int) + 4).toNat = n + 4 := by omega
  obtain ⟨z1, z2, z3, z4⟩ := wr4 n (by omega)
  go_region_with (go_at_call 77; refine (rcopied_any _ _ _ RCC.out hcp).mono ?_; rintro e w5 ⟨v5, rfl, o5, b5⟩; obtain ⟨k1, k2, k3, k4, k5, k6, k7⟩ := KEEP.out w5 b5; obtain ⟨ao5, cap5, rfl⟩ := o5.rd.slice)
  all_goals
   have e5 : ((b.drop 4).take n).length = min n (b.length - 4) := by simp
   rw [e5] at o5
   have o6 := hide (own_set (own_set o5 (g := w.heap.size) HG.out 0 (.int .u8 (bt b 1))) (g := w.heap.size) HG.out 1 (.slice ao5 (min n (b.length - 4)) cap5))
   have K6 := hide k6
   have K7 := hide k7
   clear o5 k1 k2 k3 k4 k5 k6 k7 KEEP RCC b5 e5
   go_wp2
   refine ret_frame rfl rfl w.heap.size rfl _ _ _ _ (heap_set2 K6.out _ _) _ Try.underlying135 rfl frame_info _ _ rfl rfl ?_
   rw [hF.out]
   exact ⟨_, rfl, o6.out.mono HL.out, below_set2 K7.out (Nat.le_refl _) _ _⟩
end Go.Proofs.Ytjjicajodjophaa

namespace Go.Proofs.Ytjjicajodjophaa
open Go.RowKit
theorem info_frame : (Try.prog.info? 135).map (fun i => (i.zero, i.size, i.bytes)) = some (some (.agg #[.int .u8 0, .slice none 0 0]), 2, 32) := by kernel_rfl
set_option maxRecDepth 100000 in
set_option maxHeartbeats 1000000 in
theorem rscan_any (w : World) (v : Value) (b : List UInt8) (hrd : Rd w v b) (hm : b.length ≤ 16777216) :
  Calls Try.prog 66 #[v] w fun e w' => ∃ v' fs p, e = .returned (.tuple #[v', .int .i64 (p : Nat)]) ∧ ScEnd b fs p ∧ OwnFs 135 w.heap.size w' v' fs ∧ Below w.heap.size w w' := by
 obtain ⟨i0, hi, hz0, hz1, hz2⟩ := info_parts info_frame
 obtain ⟨ao, cap, rfl⟩ := hrd.slice
 have hcap : b.length ≤ cap := by obtain ⟨_, _, e, l, _⟩ := hrd; cases e; exact l
 go_enter Try.func66, Try.ntmps66
 go_wp2
 go_loopw [4, 5] (fun l i wr => ∃ (fs : List Frm) (p : Nat), i = .int .i64 p ∧ p ≤ b.length ∧ Hid (stt b fs.length = some (fs, p)) ∧ OwnFs 135 w.heap.size wr l fs ∧ Below w.heap.size w wr) (fun _ i _ => b.length - (intOf i).toNat)
 case atStart => exact ⟨[], 0, rfl, Nat.zero_le _, hide rfl, OwnFs.nil _ _ _, Below.refl _ _⟩
 case round =>
  obtain ⟨fs, p, rfl, hp, hst, ho, hb⟩ := hrel
  obtain ⟨A, hA, rp⟩ := rd_cut (hrd.to hb) hp (Nat.le_refl _)
  rw [List.take_of_length_le (Nat.le_refl _)] at rp
  have y3 : (p : Int) ≤ (b.length : Int) := by omega
  have y4 : (b.length : Int) ≤ (cap : Int) := by omega
  have hl : (b.drop p).length ≤ 1000000000000000 := by simp; omega
  have HO := hide ho
  have HB := hide hb
  clear ho hb
  go_wp2_with fail
  refine (ropen_any _ _ (b.drop p) rp hl).mono ?_
  rintro e w1 ⟨sv, rfl, o1, b1⟩
  obtain ⟨sa, cs, rfl⟩ := o1.rd.slice
  obtain ⟨f1, f2, f3⟩ := fopen_le (b.drop p)
  have HL := hide (stt_len b _ hst.out)
  by_cases h0 : (fopen (b.drop p)).1 = 0
  ·have hstep := hide (stt_step hst.out h0)
   have h8 := f3 h0
   rw [List.length_drop] at f1
   generalize (fopen (b.drop p)).2.2 = t at *
   generalize (fopen (b.drop p)).2.1 = f at *
   generalize (fopen (b.drop p)).1 = er at *
   subst h0
   have hb1 := HB.out.trans (b1.mono HB.out.size)
   have c1 : Below w1.heap.size w1 ((w1.alloc (.cells #[.int .u8 (f.1.toNat : Int), .slice sa f.2.length cs] 135)).alloc (.cells #[.int .u8 (f.1.toNat : Int), .slice sa f.2.length cs] 135)) :=
    ((Below.refl _ _).alloc (Nat.le_refl _) _).alloc (by simp) _
   obtain ⟨svs, s1, s2, s3⟩ := (HO.out.below (Nat.le_refl _) b1).below (Nat.le_refl _) c1
   have s4 := (o1.below (Nat.le_refl _) c1).mono (show w.heap.size ≤ wr.heap.size from HB.out.size)
   have hbW := hb1.trans (c1.mono hb1.size)
   have n2 := two_cells (w1.alloc (.cells #[.int .u8 (f.1.toNat : Int), .slice sa f.2.length cs] 135)) (.int .u8 (f.1.toNat : Int)) (.slice sa f.2.length cs) 135 (w1.heap.size + 1) (by simp)
   have n3 : ∀ u ∈ ([.int .u8 (f.1.toNat : Int), .slice sa f.2.length cs] : List Value), u.oneCell' = true := by simp [Value.oneCell']
   have hll := HL.out
   have h63 : fs.length + 1 ≤ maxLen := by rw [show maxLen = 9223372036854775807 from rfl]; omega
   have hby : (fs.length + 1) * 32 ≤ 140737488355328 := by omega
   have hbs : w.heap.size ≤ ((w1.alloc (.cells #[.int .u8 (f.1.toNat : Int), .slice sa f.2.length cs] 135)).alloc (.cells #[.int .u8 (f.1.toNat : Int), .slice sa f.2.length cs] 135)).heap.size := by have := hb1.size; simp; omega
   have S2 := hide s2
   have S3 := hide s3
   have S4 := hide s4
   have N2 := hide n2
   have HW := hide hbW
   have SL := hide s1
   clear s1 s2 s3 s4 n2 hbW o1 b1 HO HB hb1 c1 rp
   go_wp2_with (at_builtin; refine wpList_append_own _ rfl _ _ 131 rfl w.heap.size 135 i0 _ 2 32 Try.underlying131 hi hz0 hz1 hz2 rfl (by decide) u4 fs.length (fcells fs svs) rfl S2.out ⟨w1.heap.size + 1, 0, none⟩ 1 1 [.int .u8 (f.1.toNat : Int), .slice sa f.2.length cs] rfl rfl N2.out n3 h63 hby hbs ?_; intro v5 w5 hown5 hgrow5 _)
   have HF := hide (OwnFs.snoc (f := f) (by decide) SL.out S2.out S3.out S4.out hgrow5 hown5)
   have HG := hide (HW.out.grown hgrow5 hbs (OwnFs.from S2.out))
   clear hown5 hgrow5 S2 S3 S4 N2 HW SL
   go_wp2
   go_roundw
   case rel => exact ⟨fs ++ [f], p + t, by go_num, by omega, by rw [List.length_append]; exact hstep, HF.out, HG.out⟩
   case measure => simp [intOf]; omega
  ·have hne : (((fopen (b.drop p)).1 : Nat) : Int) ≠ 0 := by omega
   have hend : ScEnd b fs p := ⟨hst.out, h0⟩
   have HE := hide hend
   have hd : ((((fopen (b.drop p)).1 : Nat) : Int) != 0) = true := by simp only [bne_iff_ne]; exact hne
   clear hend hne
   generalize (fopen (b.drop p)).2.2 = t at *
   generalize (fopen (b.drop p)).2.1 = f at *
   generalize (fopen (b.drop p)).1 = er at *
   have HB1 := hide (HB.out.trans (b1.mono HB.out.size))
   have HO1 := hide (HO.out.below (Nat.le_refl _) b1)
   clear b1 o1 HO HB rp
   go_wp2
   go_ret2
   have c1 : Below w1.heap.size w1 (w1.alloc (.cells #[.int .u8 (f.1.toNat : Int), .slice sa f.2.length cs] 135)) := (Below.refl _ _).alloc (Nat.le_refl _) _
   exact ⟨_, fs, p, rfl, HE.out, HO1.out.below (Nat.le_refl _) c1, HB1.out.trans (c1.mono HB1.out.size)⟩
end Go.Proofs.Ytjjicajodjophaa

namespace Go.Proofs.Ytjjicajodjophaa
open Go.RowKit
set_option maxRecDepth 100000 in
set_option maxHeartbeats 2000000 in
theorem rwhole_any (w : World) (v : Value) (b : List UInt8) (hrd : Rd w v b) (hm : b.length ≤ 16777216) :
  Calls Try.prog 31 #[v] w fun e w' => ∃ v', e = .returned (.tuple #[v', .int .i64 (wn b : Nat)]) ∧ OwnV w.heap.size w.heap.size w' v' (wrecs b) ∧ Below w.heap.size w w' := by
 obtain ⟨i0, hi, hz0, hz1, hz2⟩ := info_parts infoB
 obtain ⟨ao, cap, rfl⟩ := hrd.slice
 have KS := hide (rscan_any w _ b hrd hm)
 go_enter Try.func31, Try.ntmps31
 go_wp2_with fail
 refine KS.out.mono ?_
 rintro e w1 ⟨lv, fs, p, rfl, hsc, o1, b1⟩
 clear KS
 have hfl := hsc.le
 obtain ⟨hz, _⟩ := stt_snds _ hsc.1
 have hpl := (stt_len b _ hsc.1).2.1
 obtain ⟨la, lc, hlv⟩ := o1.rd.slice
 subst hlv
 have HS := hide hsc
 have O1 := hide o1
 have HZ : Hid (wsz (fs.map Prod.snd) ≤ 16777216) := by show _ ≤ _; omega
 have hfl2 : fs.length ≤ 2097152 := by omega
 clear hsc o1 hz
 go_wp2
 go_loopw [6, 7, 8] (fun o n i wr => ∃ K : Nat, K ≤ fs.length ∧ i = .int .i64 K ∧ n = .int .i64 ((wsz ((fs.take K).map Prod.snd) : Nat) : Int) ∧ Hid ((∀ j f, j < K → fs[j]? = some f → f.1 = 1) ∧ OwnV w1.heap.size w.heap.size wr o ((fs.take K).map Prod.snd) ∧ Below w1.heap.size w1 wr)) (fun _ _ i _ => fs.length - (intOf i).toNat)
 case atStart => exact ⟨0, Nat.zero_le _, rfl, rfl, hide ⟨fun j f hj => by omega, OwnV.nil _ _ _, Below.refl _ _⟩⟩
 case round =>
  obtain ⟨K, hK, rfl, rfl, hI⟩ := hrel
  have hw : wsz ((fs.take K).map Prod.snd) ≤ 16777216 := by
   have := wsz_take (fs.map Prod.snd) K
   rw [← List.map_take] at this
   exact Nat.le_trans this HZ.out
  obtain ⟨N, hN⟩ : ∃ N, N = wsz ((fs.take K).map Prod.snd) := ⟨_, rfl⟩
  rw [← hN] at hw ⊢
  replace hN := hide hN
  by_cases hlt : K < fs.length
  ·have hq : (K : Int) < (fs.length : Int) := by omega
   obtain ⟨f, hf, hfm⟩ := some_at fs hlt
   obtain ⟨g, cap', sv, hv, c0, c1, os⟩ := (O1.out.below (Nat.le_refl _) hI.out.2.2).at hf
   simp only [Value.slice.injEq, true_and] at hv
   obtain ⟨rfl, rfl⟩ := hv
   by_cases hk1 : f.1 = 1
   ·have hfl4 := (stt_snds _ HS.out.1).2 f hfm
    have htk : Hid ((fs.take (K + 1)).map Prod.snd = (fs.take K).map Prod.snd ++ [f.2]) := by
     show _ = _; rw [← snoc_take fs hf, List.map_append]; rfl
    have hN1 : Hid (wsz ((fs.take (K + 1)).map Prod.snd) = N + (f.2.length + 8)) := by
     show _ = _; rw [htk.out, wsz_app, hN.out]; rfl
    obtain ⟨vs, v1, v2, v3⟩ := hI.out.2.1
    have hlK : ((fs.take K).map Prod.snd).length = K := by simp; omega
    rw [hlK] at v2
    obtain ⟨sa, sc, hsv⟩ := os.rd.slice
    subst hsv
    have hkk : f.1.toNat = 1 := by rw [hk1]; rfl
    rw [hkk] at c0
    have kk0 : ((1 : Nat) : Int) = 1 := rfl
    rw [kk0] at c0
    obtain ⟨DL, hDL⟩ : ∃ DL, DL = f.2.length := ⟨_, rfl⟩
    rw [← hDL] at c1 hN1 hfl4
    have V2 := hide (World.ownsRow.alloc v2 (.cells #[.slice sa DL sc] 62))
    have h63 : K + 1 ≤ maxLen := by rw [show maxLen = 9223372036854775807 from rfl]; omega
    have hby : (K + 1) * 24 ≤ 140737488355328 := by omega
    have hbs : w1.heap.size ≤ (wr.alloc (.cells #[.slice sa DL sc] 62)).heap.size := by have := hI.out.2.2.size; simp; omega
    have FIN : Hid (∀ v' w', (wr.alloc (.cells #[.slice sa DL sc] 62)).grownBy w' u6.ownBlock → w'.ownsRow w1.heap.size 62 1 v' (K + 1) (vs ++ [.slice sa DL sc]) →
      w'.cell? ⟨g, K * 2 + 1, none⟩ = some (.slice sa DL sc) ∧ Hid ((∀ j f, j < K + 1 → fs[j]? = some f → f.1 = 1) ∧ OwnV w1.heap.size w.heap.size w' v' ((fs.take (K + 1)).map Prod.snd) ∧ Below w1.heap.size w1 w')) := fun v' w' hg hw' => by
     have al : Below wr.heap.size wr (wr.alloc (.cells #[.slice sa DL sc] 62)) := (Below.refl _ _).alloc (Nat.le_refl _) _
     have bw := (hI.out.2.2.trans (al.mono hI.out.2.2.size)).grown hg hbs (rows_from V2.out)
     obtain ⟨g', cap', sv', hv', _, cc1, _⟩ := (O1.out.below (Nat.le_refl _) bw).at hf
     obtain ⟨g'', cap'', sv'', hv'', _, cc2, _⟩ := O1.out.at hf
     have e2 := (hI.out.2.2.cell (cell_lt cc2)).trans cc2
     have e3 := (bw.cell (cell_lt cc2)).trans cc2
     simp only [Value.slice.injEq, Option.some.injEq, Addr.mk.injEq, and_true, true_and] at hv''
     obtain ⟨rfl, rfl⟩ := hv''
     rw [e2] at c1
     rw [c1] at e3
     refine ⟨e3, fun j f' hj hf' => ?_, ?_, (hI.out.2.2.trans (al.mono hI.out.2.2.size)).grown hg hbs (rows_from V2.out)⟩
     ·by_cases e : j = K
      ·subst e; rw [hf] at hf'; cases hf'; exact hk1
      ·exact hI.out.1 j f' (by omega) hf'
     ·rw [htk.out]
      refine OwnV.app (w := wr.alloc (.cells #[.slice sa DL sc] 62)) v1 (by rw [hlK]; exact V2.out) (fun i hi => (v3 i hi).below (Nat.le_refl _) al) (us := [.slice sa DL sc]) rfl (fun i hi => ?_) hg (by rw [hlK]; exact hw')
      have hi0 : i = 0 := by simpa using hi
      subst hi0
      have := os.below (Nat.le_refl _) al
      rw [← hDL] at this
      exact this
    replace hDL := hide hDL
    clear v1 v2 v3 os
    go_wp2_with (at_builtin; refine wpList_append_own _ rfl _ _ 22 rfl w1.heap.size 62 i0 _ 1 24 Try.underlying22 hi hz0 hz1 hz2 rfl (by decide) u6 K vs rfl V2.out ⟨wr.heap.size, 0, none⟩ 1 1 [.slice sa DL sc] rfl rfl (World.news_of_block (heap_alloc_last wr _)) (by simp [Value.oneCell']) h63 hby hbs ?_; intro v5 w5 hown5 hgrow5 _; obtain ⟨c5, F5⟩ := FIN.out v5 w5 hgrow5 hown5; clear hown5 hgrow5 c0 c1)
    go_roundw
    case rel => exact ⟨K + 1, by omega, by go_num, by rw [hN1.out]; go_num, F5⟩
    case measure => simp [intOf]; omega
   ·have hkb : ((f.1.toNat : Int) == 1) = false := by
     simp only [beq_eq_false_iff_ne]
     intro h
     exact hk1 (UInt8.toNat_inj.1 (by show f.1.toNat = 1; omega))
    have hW := wones_eq hI.out.1 (fun f' hf' => by rw [hf] at hf'; cases hf'; exact hk1) HS.out
    have hWn : Hid (wn b = N) := by show wsz (wrecs b) = N; rw [hW, hN.out]
    have FIN : Hid (OwnV w.heap.size w.heap.size wr u6 (wrecs b) ∧ Below w.heap.size w wr) := ⟨by rw [hW]; exact hI.out.2.1.mono b1.size (Nat.le_refl _), b1.trans (hI.out.2.2.mono b1.size)⟩
    clear os hW
    go_wp2
    go_ret2
    exact ⟨_, by rw [hWn.out]; rfl, FIN.out⟩
  ·have hq : ¬ (K : Int) < (fs.length : Int) := by omega
   obtain rfl : K = fs.length := by omega
   have hW := wones_eq hI.out.1 (fun f' hf' => by simp at hf') HS.out
   have hWn : Hid (wn b = N) := by show wsz (wrecs b) = N; rw [hW, hN.out]
   have FIN : Hid (OwnV w.heap.size w.heap.size wr u6 (wrecs b) ∧ Below w.heap.size w wr) := ⟨by rw [hW]; exact hI.out.2.1.mono b1.size (Nat.le_refl _), b1.trans (hI.out.2.2.mono b1.size)⟩
   clear hW
   go_wp2
   go_ret2
   exact ⟨_, by rw [hWn.out]; rfl, FIN.out⟩
end Go.Proofs.Ytjjicajodjophaa

namespace Go.Proofs.Ytjjicajodjophaa
open Go.RowKit
theorem cells3 {w : World} {g : Nat} {a b c : Value} {t : TypeId} (h : w.heap[g]? = some (.cells #[a, b, c] t (0, 0))) :
  (w.cell? ⟨g, 0, none⟩ = some a ∧ w.cell? ⟨g, 1, none⟩ = some b ∧ w.cell? ⟨g, 2, none⟩ = some c) ∧ ∀ i, w.frozen? ⟨g, i, none⟩ = false := by
 refine ⟨⟨?_, ?_, ?_⟩, fun i => ?_⟩
 ·rw [cell_of_row _ _ 0 _ _ (0, 0) h]; rfl
 ·rw [cell_of_row _ _ 1 _ _ (0, 0) h]; rfl
 ·rw [cell_of_row _ _ 2 _ _ (0, 0) h]; rfl
 ·simp [World.frozen?, h]
theorem not_wok_segs {l : Wlg} (h : 4096 < l.1.length) : ¬ WOk l := fun k => by have := k.1.1; omega
theorem not_wok_idx {l : Wlg} (h : ¬ widx l.2.1) : ¬ WOk l := fun k => h k.1.2.1
theorem not_wok_wait {l : Wlg} (h : 4096 < l.2.2.length) : ¬ WOk l := fun k => by have := k.1.2.2; omega
end Go.Proofs.Ytjjicajodjophaa

namespace Go.Proofs.Ytjjicajodjophaa
open Go.RowKit
abbrev SLg (T : Nat) : Shp Wlg := (Shp.list T SWr).pair ((Shp.int .i64).pair SSec)
theorem set3_0 {w : World} {g : Nat} {x y z : Value} {t : TypeId} (h : w.heap[g]? = some (.cells #[x, y, z] t (0, 0))) (u : Value) : (w.setCell ⟨g, 0, none⟩ u).heap[g]? = some (.cells #[u, y, z] t (0, 0)) := by
 simp [World.setCell, Array.getElem?_modify, h]
theorem set3_1 {w : World} {g : Nat} {x y z : Value} {t : TypeId} (h : w.heap[g]? = some (.cells #[x, y, z] t (0, 0))) (u : Value) : (w.setCell ⟨g, 1, none⟩ u).heap[g]? = some (.cells #[x, u, z] t (0, 0)) := by
 simp [World.setCell, Array.getElem?_modify, h]
theorem heap_set3 {u : World} {g : Nat} {a b c : Value} {t : TypeId} {fr : Nat × Nat} (h : u.heap[g]? = some (.cells #[a, b, c] t fr)) (x y z : Value) : (((u.setCell ⟨g, 0, none⟩ x).setCell ⟨g, 1, none⟩ y).setCell ⟨g, 2, none⟩ z).heap[g]? = some (.cells #[x, y, z] t fr) := by
 simp [World.setCell, Array.getElem?_modify, h]
theorem below_set3 {B : Nat} {w u : World} (h : Below B w u) {g : Nat} (hg : B ≤ g) (x y z : Value) : Below B w (((u.setCell ⟨g, 0, none⟩ x).setCell ⟨g, 1, none⟩ y).setCell ⟨g, 2, none⟩ z) :=
 ((h.setCell (p := ⟨g, 0, none⟩) hg x).setCell (p := ⟨g, 1, none⟩) hg y).setCell (p := ⟨g, 2, none⟩) hg z
def BoxLg (s : Shp Wlg) (T : Nat) (g B : Nat) (w : World) (sv wv : Value) (l : Wlg) : Prop :=
 w.heap[g]? = some (.cells #[sv, .int .i64 l.2.1, wv] T (0, 0)) ∧ ∃ F, OwnF s F w [sv, .int .i64 l.2.1, wv] l ∧ (∀ b, b ∈ F → B ≤ b) ∧ g ∉ F
def wfit (l : Wlg) : Prop := l.1.length * 32 ≤ 140737488351232 ∧ (∀ x ∈ l.1, x.2.length ≤ 140737488351232) ∧ l.2.2.length * 24 ≤ 140737488351232 ∧ ∀ y ∈ l.2.2, y.length ≤ 140737488351232
end Go.Proofs.Ytjjicajodjophaa

namespace Go.Proofs.Ytjjicajodjophaa
open Go.RowKit
set_option maxRecDepth 100000 in
theorem pindex_any (w : World) (n : Int) : Calls Try.prog 74 #[.int .i64 n] w fun e w' => e = .returned (.bool (decide (widx n))) ∧ w = w' := by
 by_cases h1 : 0 ≤ n
 ·by_cases h2 : n ≤ 1099511627776
  ·rw [decide_eq_true (show widx n from ⟨h1, h2⟩)]
   go_enter Try.func74, Try.ntmps74
   go_wp2
   go_ret
   exact ⟨rfl, rfl⟩
  ·rw [decide_eq_false (show ¬ widx n from fun h => h2 h.2)]
   have h2' : (decide (n ≤ 1099511627776)) = false := decide_eq_false h2
   go_enter Try.func74, Try.ntmps74
   go_wp2
   go_ret
   exact ⟨rfl, rfl⟩
 ·rw [decide_eq_false (show ¬ widx n from fun h => h1 h.1)]
  have h1' : (decide (0 ≤ n)) = false := decide_eq_false h1
  go_enter Try.func74, Try.ntmps74
  go_wp2
  go_ret
  exact ⟨rfl, rfl⟩
set_option maxRecDepth 100000 in
theorem pfirst_any (w : World) (sv wv : Value) (l : Wlg) (h1 : RdC w sv l.1) : Calls Try.prog 78 #[.agg #[sv, .int .i64 l.2.1, wv]] w fun e w' => e = .returned (.int .i64 (pfirst l.1 l.2.1)) ∧ Below w.heap.size w w' := by
 have lb := h1.bd
 obtain ⟨a1, c1, rfl⟩ := h1.slice
 obtain ⟨X, hX, X0, bX, sX⟩ := boxedN w #[.slice a1 l.1.length c1, .int .i64 l.2.1, wv] 78
 obtain ⟨⟨A0, A1, A2⟩, _⟩ := cells3 X0
 have H1 := h1.to0 bX
 by_cases h0 : l.1.length = 0
 ·have hE : Hid (pfirst l.1 l.2.1 = l.2.1) := if_pos h0
  have hi : (l.1.length : Int) = 0 := by omega
  rw [hX] at A0 A1 A2
  clear H1 h1
  go_enter Try.func78, Try.ntmps78
  go_wp2
  go_ret
  exact ⟨ret_int hE.out.symm, (Below.refl _ _).alloc (Nat.le_refl _) _⟩
 ·have hi : ¬ (l.1.length : Int) = 0 := by omega
  have hpos : (0 : Int) < (l.1.length : Int) := by omega
  obtain ⟨f, hf, _⟩ := some_at l.1 (k := 0) (by omega)
  obtain ⟨b0, o0, u0, e0, hc0, _, _⟩ := H1.wrt hf
  subst e0
  rw [Nat.zero_mul, Nat.add_zero] at hc0
  have hE : Hid (pfirst l.1 l.2.1 = f.1) := (if_neg h0).trans (by rw [wseg_at hf])
  rw [hX] at A0 A1 A2 hc0
  clear H1 h1 hf
  go_enter Try.func78, Try.ntmps78
  go_wp2
  go_ret
  exact ⟨ret_int hE.out.symm, by rw [← hX]; exact bX⟩
set_option maxRecDepth 100000 in
theorem plong_any (w : World) (b : Nat) (v : Value) (r : List UInt8) (h : Rd w v r) (hc : w.cell? ⟨b, 0, none⟩ = some (.int .i64 4096)) :
  Calls Try.prog 87 #[v, .pointer (some ⟨b, 0, none⟩)] w fun e w' => e = .returned (.bool (decide (4096 < r.length))) ∧ w = w' := by
 obtain ⟨a, c, rfl⟩ := h.slice
 clear h
 by_cases hl : 4096 < r.length
 ·have hq : (4096 : Int) < (r.length : Int) := by omega
  rw [decide_eq_true hl]
  replace hl := hide hl
  go_enter Try.func87, Try.ntmps87
  go_wp2
  go_ret
  exact ⟨by first | rfl | (apply ret_bool; simpa using hl.out), rfl⟩
 ·have hq : ¬ (4096 : Int) < (r.length : Int) := by omega
  rw [decide_eq_false hl]
  replace hl := hide hl
  go_enter Try.func87, Try.ntmps87
  go_wp2
  go_ret
  exact ⟨by first | rfl | (apply ret_bool; simpa using hl.out), rfl⟩
set_option maxRecDepth 100000 in
theorem plonger_any (w : World) : Calls Try.prog 62 #[.int .i64 4096] w fun e w' => e = .returned (.func (.func 87) #[] #[.pointer (some ⟨w.heap.size, 0, none⟩)]) ∧ w'.cell? ⟨w.heap.size, 0, none⟩ = some (.int .i64 4096) ∧ Below w.heap.size w w' := by
 obtain ⟨X, hX, X0, bX, sX⟩ := boxedN w #[.int .i64 4096] 3
 go_enter Try.func62, Try.ntmps62
 go_wp2
 go_ret
 rw [← hX]
 exact ⟨rfl, by rw [cell_of_row _ _ 0 _ _ (0, 0) X0]; rfl, bX⟩
set_option maxRecDepth 100000 in
set_option maxHeartbeats 1000000 in
theorem pindexf_any (w : World) (b : Nat) (v : Value) (ws : List (List UInt8)) (h : RdSec w v ws) (hc : w.cell? ⟨b, 0, none⟩ = some (.int .i64 4096)) :
  Calls Try.prog 86 #[v, .func (.func 87) #[] #[.pointer (some ⟨b, 0, none⟩)]] w fun e w' => ∃ k : Int, e = .returned (.int .i64 k) ∧ (0 ≤ k ↔ ¬ wwaitOk ws) ∧ w = w' := by
 have lb := h.bd
 obtain ⟨a, c, rfl⟩ := h.slice
 have HC := hide hc
 have HH := hide h
 clear h hc
 go_enter Try.func86, Try.ntmps86
 go_wp2
 go_loopw [8] (fun i wr => ∃ k : Nat, k ≤ ws.length ∧ i = .int .i64 k ∧ w = wr ∧ Hid (∀ j r, j < k → ws[j]? = some r → r.length ≤ 4096)) (fun i _ => ws.length - (intOf i).toNat)
 case atStart => exact ⟨0, Nat.zero_le _, rfl, rfl, hide (fun j r hj => by omega)⟩
 case round =>
  obtain ⟨k, hk, rfl, rfl, hI⟩ := hrel
  by_cases hlt : k < ws.length
  ·have hq : (k : Int) < (ws.length : Int) := by omega
   obtain ⟨r, hr, hrm⟩ := some_at ws hlt
   obtain ⟨b1, o1, u, rfl, hc1, hru⟩ := HH.out.oct hr
   have KK := hide (plong_any w b u r hru HC.out)
   obtain ⟨ua, uc, rfl⟩ := hru.slice
   have HR := hide hr
   clear hr hru
   go_wp2_with fail
   refine KK.out.mono ?_
   rintro e w' ⟨rfl, rfl⟩
   clear KK
   by_cases hl : 4096 < r.length
   ·rw [decide_eq_true hl]
    have hE : Hid ((0 : Int) ≤ (k : Int) ↔ ¬ wwaitOk ws) := ⟨fun _ q => by have := q r hrm; omega, fun _ => by omega⟩
    replace hl := hide hl
    go_wp2
    go_ret
    exact ⟨_, rfl, hE.out, rfl⟩
   ·rw [decide_eq_false hl]
    have hI' : Hid (∀ j r, j < k + 1 → ws[j]? = some r → r.length ≤ 4096) := fun j r' hj hr' => by
     by_cases e : j = k
     ·subst e; rw [HR.out] at hr'; cases hr'; omega
     ·exact hI.out j r' (by omega) hr'
    replace hl := hide hl
    go_wp2
    go_roundw
    case rel => exact ⟨k + 1, by omega, by go_num, trivial, hI'⟩
    case measure => simp [intOf]; omega
  ·have hq : ¬ (k : Int) < (ws.length : Int) := by omega
   obtain rfl : k = ws.length := by omega
   have hE : Hid ((0 : Int) ≤ -1 ↔ ¬ wwaitOk ws) := ⟨fun q => by omega, fun q => absurd (fun r hr => by
    obtain ⟨j, hj, e⟩ := List.mem_iff_getElem.1 hr
    exact hI.out j r hj (by rw [List.getElem?_eq_getElem hj, e])) q⟩
   go_wp2
   go_ret
   exact ⟨_, rfl, hE.out, rfl⟩
set_option maxRecDepth 100000 in
theorem pcontains_any (w : World) (b : Nat) (v : Value) (ws : List (List UInt8)) (h : RdSec w v ws) (hc : w.cell? ⟨b, 0, none⟩ = some (.int .i64 4096)) :
  Calls Try.prog 61 #[v, .func (.func 87) #[] #[.pointer (some ⟨b, 0, none⟩)]] w fun e w' => ∃ bb : Bool, e = .returned (.bool bb) ∧ (bb = true ↔ ¬ wwaitOk ws) ∧ w = w' := by
 have KK := hide (pindexf_any w b v ws h hc)
 obtain ⟨a, c, rfl⟩ := h.slice
 clear h hc
 go_enter Try.func61, Try.ntmps61
 go_wp2_with fail
 refine KK.out.mono ?_
 rintro e w' ⟨k, rfl, hk, rfl⟩
 clear KK
 by_cases h0 : 0 ≤ k
 ·have hE := hide (hk.1 h0)
  clear hk
  go_wp2
  go_ret
  exact ⟨true, ret_bool (by first | rfl | simpa using h0), ⟨fun _ => hE.out, fun _ => rfl⟩, rfl⟩
 ·have hE := hide (fun q => h0 (hk.2 q))
  clear hk
  go_wp2
  go_ret
  exact ⟨false, ret_bool (by first | rfl | simpa using h0), ⟨(fun h => by cases h), fun h => absurd h hE.out⟩, rfl⟩
set_option maxRecDepth 100000 in
theorem bclone_any (w : World) (v : Value) (xs : List UInt8) (h : Rd w v xs) (hm : xs.length ≤ 140737488351232) :
  Calls Try.prog 88 #[v] w fun e w' => ∃ v', e = .returned v' ∧ OwnB w.heap.size w' v' xs ∧ Below w.heap.size w w' := by
 have h' := h
 obtain ⟨ao, cap, rfl, h1, h2, h3, h4⟩ := h
 cases ao with
 | none =>
  have : xs = [] := by
   rcases h4 with h4 | ⟨b, off, e, _⟩
   ·exact h4
   ·cases e
  subst this
  obtain rfl : cap = 0 := h3 rfl
  clear h' h1 h2 h3 h4
  have hnil : (binOp .eql 62 (.slice none 0 0) (.slice none 0 0)).run Try.prog w = .ok (.bool true) w := Lib.run_eql_slice_nil w 62 5 _ 0 0 0 0 Try.underlying62
  go_enter Try.func88, Try.ntmps88
  go_wp2
  go_ret
  exact ⟨_, rfl, World.ownsRow_nil _ _ _ _, Below.refl _ _⟩
 | some ad =>
  rcases h4 with h4 | ⟨b, off, e, _⟩
  ·subst h4
   obtain ⟨X, hX⟩ : ∃ u, u = w.alloc (.cells #[] 5) := ⟨_, rfl⟩
   have oX : OwnB w.heap.size X (.slice (some ⟨w.heap.size, 0, none⟩) 0 0) [] := by rw [hX]; exact own_lit w [] (by decide)
   have bX : Below w.heap.size w X := by rw [hX]; exact (Below.refl _ _).alloc (Nat.le_refl _) _
   have rX := h'.to bX
   have hl : ([] : List UInt8).length + ([] : List UInt8).length ≤ 140737488355328 := by simp
   have hsz := bX.size
   have hnil : (binOp .eql 62 (.slice (some ad) 0 cap) (.slice none 0 0)).run Try.prog w = .ok (.bool false) w := Lib.run_eql_slice_nil w 62 5 _ 0 cap 0 0 Try.underlying62
   clear h' h1 h2 h3
   go_enter Try.func88, Try.ntmps88
   go_wp2_with (at_builtin; rw [← hX]; refine wpList_append_octs rfl _ _ rfl w.heap.size _ _ _ _ rfl rfl oX rX hl hsz ?_; intro v6 w6 o6 b6 _)
   go_ret
   exact ⟨_, rfl, by simpa using o6, bX.trans b6⟩
  ·simp only [Option.some.injEq] at e
   subst e
   exact bclone_at w b off _ cap xs h' hm
theorem info_sgP : (Try.prog.info? 83).map (·.size) = some 2 := by kernel_rfl
theorem boxes2 (w : World) (x y x' y' : Value) (t : TypeId) : ∃ W, W = (w.alloc (.cells #[x, y] t)).alloc (.cells #[x', y'] t) ∧ W.heap[w.heap.size]? = some (.cells #[x, y] t (0, 0)) ∧ W.heap[w.heap.size + 1]? = some (.cells #[x', y'] t (0, 0)) ∧ Below w.heap.size w W ∧ W.heap.size = w.heap.size + 1 + 1 := by
 refine ⟨_, rfl, ?_, ?_, ((Below.refl _ _).alloc (Nat.le_refl _) _).alloc (by simp) _, by simp⟩
 ·rw [Below.heap_alloc _ _ _ (by simp)]; exact heap_alloc_last w _
 ·have := heap_alloc_last (w.alloc (.cells #[x, y] t)) (.cells #[x', y'] t); simpa using this
theorem rd_takeN {w : World} {a : Option Addr} {len cap : Nat} {xs : List UInt8} (h : Rd w (.slice a len cap) xs) {n : Nat} (hn : n ≤ len) : Rd w (.slice a n cap) (xs.take n) := by
 obtain ⟨ao, c, e, l1, m1, n1, r1⟩ := h
 simp only [Value.slice.injEq] at e
 obtain ⟨rfl, rfl, rfl⟩ := e
 have el : (xs.take n).length = n := by simp; omega
 refine ⟨a, cap, by rw [el], by rw [el]; omega, m1, n1, ?_⟩
 rcases r1 with rfl | ⟨b, off, rfl, hc⟩
 ·left; simp
 ·right
  refine ⟨b, off, rfl, fun i hi => ?_⟩
  rw [el] at hi
  rw [hc i (by omega)]
  simp only [bt]
  congr 3
  simp only [List.getD_eq_getElem?_getD, List.getElem?_take]
  rw [if_pos hi]
set_option maxRecDepth 100000 in
set_option maxHeartbeats 1000000 in
theorem pcopy_any (w : World) (v : Value) (z : Int) (x : List UInt8) (n : Nat) (h : Rd w v x) (hn : n ≤ x.length) (hm : x.length ≤ 140737488351232) :
  Calls Try.prog 89 #[.agg #[.int .i64 z, v], .int .i64 (n : Int)] w fun e w' => ∃ v', e = .returned (.agg #[.int .i64 z, v']) ∧ OwnB w.heap.size w' v' (x.take n) ∧ Below w.heap.size w w' := by
 obtain ⟨a, c, rfl⟩ := h.slice
 have hcap : x.length ≤ c := by obtain ⟨_, _, e, l1, _⟩ := h; simp only [Value.slice.injEq] at e; omega
 obtain ⟨W, hW, hA, hZ, bW, sW⟩ := boxes2 w (.int .i64 z) (.slice a x.length c) (.int .i64 0) (.slice none 0 0) 83
 have H1 := h.to bW
 have KC := hide (bclone_any W.drew _ (x.take n) (rd_takeN (H1.to (Below.refl _ _).drew) hn) (by simp; omega))
 obtain ⟨A0, A1, _, _⟩ := row2_cells hA
 have HZ := hide hZ
 have BW := hide bW
 obtain ⟨TK, hTK⟩ : ∃ TK, TK = x.take n := ⟨_, rfl⟩
 rw [← hTK] at KC ⊢
 obtain ⟨L, hL⟩ : ∃ L, L = x.length := ⟨_, rfl⟩
 rw [← hL] at A1 hW hn hcap ⊢
 replace hL := hide hL
 have hnc : (n : Int) ≤ (c : Int) := by omega
 have hnl : (n : Int) ≤ (L : Int) := by omega
 replace hTK := hide hTK
 clear h H1 hZ bW hA hm
 go_enter Try.func89, Try.ntmps89
 go_wp2
 rw [← hW]
 replace hW := hide hW
 refine wp_region_mid (fun w' => w'.cell? ⟨w.heap.size, 0, none⟩ = some (.int .i64 z) ∧ w'.cell? ⟨w.heap.size, 1, none⟩ = some (.slice a L c)) 6 7 mixed (by kernel_rfl) (fun _ _ _ _ h => h) ⟨A0, A1⟩ ?_
 dsimp only [List.take, List.drop]
 iterate 6
  refine take_one (v := ?_) (by rfl) ?_ ?_
  rotate_left
  ·rintro w' ⟨s1, s2⟩
   go_simp
   try with_reducible rfl
  try simp only [Act.put, List.setIfInBounds_toArray, List.set_cons_zero, List.set_cons_succ]
 refine mid_one fun K hK => ?_
 refine step_call (by rfl) 88 _ _ (by rfl) #[.slice a n c] (by simp [Act.eval]) (Try.call88 _ _) KC.out ?_
 rintro e w2 ⟨v2, rfl, o2, b2⟩
 obtain ⟨av, cv, hv2⟩ := o2.rd.slice
 have x0 := (b2.cell (p := ⟨w.heap.size, 0, none⟩) (cell_lt A0)).trans A0
 have x1 := (b2.cell (p := ⟨w.heap.size, 1, none⟩) (cell_lt A1)).trans A1
 refine ⟨_, rfl, hK _ _ ⟨x0, x1⟩ ?_⟩
 clear hK K
 try simp only [Act.put, List.setIfInBounds_toArray, List.set_cons_zero, List.set_cons_succ]
 have Z2 := hide ((b2.block _ (show w.heap.size + 1 < W.drew.heap.size by rw [show W.drew.heap.size = W.heap.size from rfl, sW]; omega)).trans HZ.out)
 obtain ⟨z0, z1, y0, y1⟩ := row2_cells Z2.out
 have hWd : W.heap.size ≤ W.drew.heap.size := Nat.le_refl _
 have OO := hide (own_set (own_set o2 (g := w.heap.size + 1) (by rw [show W.drew.heap.size = W.heap.size from rfl, sW]; omega) 0 (.int .i64 z)) (g := w.heap.size + 1) (by rw [show W.drew.heap.size = W.heap.size from rfl, sW]; omega) 1 v2)
 have CC : Hid (Below w.heap.size w w2) := BW.out.trans (((Below.refl _ _).drew.trans b2).mono BW.out.size)
 clear o2 b2
 subst hv2
 show wpList _ _ _ _ _ _
 go_wp2
 refine retN rfl rfl (w.heap.size + 1) rfl _ _ (0, 0) (heap_set2 (u := w2) Z2.out _ _) _ Try.underlying83 rfl info_sgP ?_
 exact ⟨_, rfl, OO.out.mono (by rw [show W.drew.heap.size = W.heap.size from rfl, sW]; omega), below_set2 CC.out (show w.heap.size ≤ w.heap.size + 1 by omega) _ _⟩
end Go.Proofs.Ytjjicajodjophaa

namespace Go.Proofs.Ytjjicajodjophaa
open Go.RowKit
theorem WOk.fit {l : Wlg} (h : WOk l) (hm : ∀ s ∈ l.1, s.2.length ≤ 16777216) : wfit l := by
 obtain ⟨⟨k1, _, k2⟩, k3, _⟩ := h
 exact ⟨by omega, fun x hx => by have := hm x hx; omega, by omega, fun y hy => by have := k3 y hy; omega⟩
theorem boxes3 (w : World) (x y z : Value) (t : TypeId) : ∃ W, W = (w.alloc (.cells #[x, y, z] t)).alloc (.cells #[.slice none 0 0, .int .i64 0, .slice none 0 0] t) ∧ W.heap[w.heap.size]? = some (.cells #[x, y, z] t (0, 0)) ∧ W.heap[w.heap.size + 1]? = some (.cells #[.slice none 0 0, .int .i64 0, .slice none 0 0] t (0, 0)) ∧ Below w.heap.size w W ∧ W.heap.size = w.heap.size + 1 + 1 := by
 refine ⟨_, rfl, ?_, ?_, ((Below.refl _ _).alloc (Nat.le_refl _) _).alloc (by simp) _, by simp⟩
 ·rw [Below.heap_alloc _ _ _ (by simp)]; exact heap_alloc_last w _
 ·have := heap_alloc_last (w.alloc (.cells #[x, y, z] t)) (.cells #[.slice none 0 0, .int .i64 0, .slice none 0 0] t); simpa using this
end Go.Proofs.Ytjjicajodjophaa

namespace Go.Proofs.Ytjjicajodjophaa
open Go.RowKit
end Go.Proofs.Ytjjicajodjophaa

namespace Go.Proofs.Ytjjicajodjophaa
open Go.RowKit
theorem wp_append_octs_lies {o : Oper} {a : Act} {w : World} {K : Act → World → Prop} {Q : Exit → Act → World → Prop} (s x : Operand)
  (ho : o.op = .call { callee := .builtin .append, args := #[s, x], argTypes := #[62, 62] }) (v v2 : Value) (xs ys : List UInt8) (hs : a.eval s = v) (hx : a.eval x = v2)
  (hown : OwnB 0 w v xs) (hrd : Rd w v2 ys) (hy : 0 < ys.length) (hlen : xs.length + ys.length ≤ 140737488355328)
  (h : ∀ g cap w', OwnB 0 w' (.slice (some ⟨g, 0, none⟩) (xs.length + ys.length) cap) (xs ++ ys) → w.grownBy w' v.ownBlock → (v.ownBlock = some g ∨ g = w.heap.size) → K (a.put o.dst (.slice (some ⟨g, 0, none⟩) (xs.length + ys.length) cap)) w') : o.wp Try.prog a w K Q := by
 obtain ⟨i0, hi, hz0, hz1, hz2⟩ := info_parts info8
 obtain ⟨ao, c, rfl, l1, m1, n1, r1⟩ := hrd
 rcases r1 with rfl | ⟨b, off, rfl, hc⟩
 ·simp at hy
 ·refine wp_append_lies _ s x 62 ho 0 5 i0 (.int .u8 0) 1 1 Try.underlying62 hi hz0 hz1 hz2 rfl (by decide) v xs.length (xs.map enc) hs hown ⟨b, off, none⟩ ys.length c (ys.map enc) hx (by simp) (news_octs hc) (enc_one ys) hy
   (by rw [show maxLen = 9223372036854775807 from rfl]; omega) (by omega) (Nat.zero_le _) w.heap.size rfl ?_
  intro g cap w' k1 k2 k3 _
  refine h g cap w' ?_ k2 k3
  unfold OwnB
  simpa using k1
set_option maxHeartbeats 1000000 in
theorem OwnF.seg {T : Nat} {F : List Nat} {w : World} {sv wv : Value} {n : Int} {segs : List Wrt} {wait : List (List UInt8)} (h : OwnF (SLg T) F w [sv, .int .i64 n, wv] (segs, n, wait)) {i : Nat} {z : Int} {x : List UInt8} (hx : segs[i]? = some (z, x)) :
  ∃ g cap dv, sv = .slice (some ⟨g, 0, none⟩) segs.length cap ∧ g ∈ F ∧ w.cell? ⟨g, i * 2, none⟩ = some (.int .i64 z) ∧ w.cell? ⟨g, i * 2 + 1, none⟩ = some dv ∧ w.frozen? ⟨g, i * 2 + 1, none⟩ = false ∧ OwnB 0 w dv x ∧
   ∀ (w' : World) (g' cap' : Nat) (x' : List UInt8), OwnB 0 w' (.slice (some ⟨g', 0, none⟩) x'.length cap') x' → w.grownBy w' dv.ownBlock → (dv.ownBlock = some g' ∨ g' = w.heap.size) →
    (w'.cell? ⟨g, i * 2 + 1, none⟩ = some dv ∧ w'.frozen? ⟨g, i * 2 + 1, none⟩ = false) ∧ ∃ F', OwnF (SLg T) F' (w'.setCell ⟨g, i * 2 + 1, none⟩ (.slice (some ⟨g', 0, none⟩) x'.length cap')) [sv, .int .i64 n, wv] (segs.set i (z, x'), n, wait) ∧ (∀ b, b ∈ F' → b ∈ F ∨ w.heap.size ≤ b) ∧
     (∀ B, (∀ b, b ∈ F → B ≤ b) → B ≤ w.heap.size → Below B w (w'.setCell ⟨g, i * 2 + 1, none⟩ (.slice (some ⟨g', 0, none⟩) x'.length cap'))) ∧ ∀ b, b < w.heap.size → b ∉ F → (w'.setCell ⟨g, i * 2 + 1, none⟩ (.slice (some ⟨g', 0, none⟩) x'.length cap')).heap[b]? = w.heap[b]? := by
 have hil : i < segs.length := (List.getElem?_eq_some_iff.1 hx).1
 obtain ⟨FA, FB, rfl, hA, hB, hd⟩ := OwnF.split (c := [sv]) (d := [.int .i64 n, wv]) h rfl
 obtain ⟨⟨v', cc, G, e, h1, h2, rfl⟩, hn⟩ := hA
 simp at e; subst e
 obtain ⟨F1, F2, F3, c1, c2, c3, e1, e2, hl, k1, k2, k3⟩ := ownEach_at i (z, x) h2 hx
 obtain ⟨cz, cd, Gz, Gd, rfl, rfl, ⟨rfl, rfl⟩, dv, rfl, ho, rfl⟩ := k2
 simp only [List.nil_append, List.singleton_append] at e1 e2
 have hn' := List.nodup_append.1 hn
 have hG := hn'.2.1
 rw [e1] at hG
 have hG1 := List.nodup_append.1 hG
 have hG2 := List.nodup_append.1 hG1.2.1
 rcases h1.2 with ⟨rfl, h0⟩ | ⟨g, cap, cur, hv, hb, hg, hnn, hm, hs, ht⟩
 ·have h0' : segs.length = 0 := h0
  omega
 subst hv
 have hl' : c1.length = i * 2 := hl
 have hcl : cc.length = segs.length * 2 := h1.1
 have cel : ∀ j, j < segs.length * 2 → w.cell? ⟨g, j, none⟩ = cc[j]? := fun j hj => h1.cellAt j hj
 have ec0 : cc[i * 2]? = some (.int .i64 z) := by rw [e2, ← hl', List.getElem?_append_right (Nat.le_refl _), Nat.sub_self]; rfl
 have ec1 : cc[i * 2 + 1]? = some dv := by rw [e2, ← hl', List.getElem?_append_right (by omega), Nat.add_sub_cancel_left]; rfl
 have gG : g ∉ G := fun hh => hn'.2.2 g (by simp [Value.ownBlock]) g hh rfl
 have dvF : ∀ b, dv.ownBlock = some b → b ∈ G := fun b hb' => by rw [e1]; simp [hb']
 have lt2 := ownEach_lt h2
 refine ⟨g, cap, dv, rfl, by simp [Value.ownBlock], (cel _ (by omega)).trans ec0, (cel _ (by omega)).trans ec1, World.ownsRow.frozenAt h1 _, ho, ?_⟩
 intro w' g' cap' x' o' hgr hat
 have hsz := hgr.size
 have hgne : ∀ b, dv.ownBlock = some b → b ≠ g := fun b hb' e' => gG (by rw [← e']; exact dvF b hb')
 have kept : ∀ b, b < w.heap.size → dv.ownBlock ≠ some b → w'.heap[b]? = w.heap[b]? := fun b hb' hne => hgr.block b hb' (fun e' => hne e'.symm)
 have hgl : g < w.heap.size := lt_of_block hg
 have hg' : w'.heap[g]? = w.heap[g]? := kept g hgl (fun e' => hgne g e' rfl)
 have row' : w'.ownsRow 0 T SWr.n (.slice (some ⟨g, 0, none⟩) segs.length cap) segs.length cc := ⟨h1.1, .inr ⟨g, cap, cur, rfl, hb, hg'.trans hg, hnn, hm, hs, ht⟩⟩
 have row'' := (World.ownsRow.stored row' (i * 2 + 1) (.slice (some ⟨g', 0, none⟩) x'.length cap')).1
 have eset : cc.set (i * 2 + 1) (.slice (some ⟨g', 0, none⟩) x'.length cap') = c1 ++ ([.int .i64 z, .slice (some ⟨g', 0, none⟩) x'.length cap'] ++ c3) := by
  rw [e2, ← hl', List.set_append_right _ _ (by omega), Nat.add_sub_cancel_left]; rfl
 rw [eset] at row''
 have g'ne : g' ≠ g := by
  rcases hat with hat | rfl
  ·exact hgne g' hat
  ·omega
 have g'1 : g' ∉ F1 := fun hh => by
  rcases hat with hat | rfl
  ·exact hG1.2.2 g' hh g' (by simp [hat]) rfl
  ·have := lt2 w.heap.size (by rw [e1]; simp [hh]); omega
 have g'3 : g' ∉ F3 := fun hh => by
  rcases hat with hat | rfl
  ·exact hG2.2.2 g' (by simp [hat]) g' hh rfl
  ·have := lt2 w.heap.size (by rw [e1]; simp [hh]); omega
 have nd1 : ∀ b, b ∈ F1 → dv.ownBlock ≠ some b := fun b hb' e' => hG1.2.2 b hb' b (by simp [e']) rfl
 have nd3 : ∀ b, b ∈ F3 → dv.ownBlock ≠ some b := fun b hb' e' => hG2.2.2 b (by simp [e']) b hb' rfl
 have keep1 : ∀ b, b ∈ F1 → (w'.setCell ⟨g, i * 2 + 1, none⟩ (.slice (some ⟨g', 0, none⟩) x'.length cap')).heap[b]? = w.heap[b]? := fun b hb' => by
  have hbG : b ∈ G := by rw [e1]; simp [hb']
  rw [Below.heap_setCell _ _ _ _ (fun e' => gG (by rw [← show b = g from e']; exact hbG))]
  exact kept b (lt2 b hbG) (nd1 b hb')
 have keep3 : ∀ b, b ∈ F3 → (w'.setCell ⟨g, i * 2 + 1, none⟩ (.slice (some ⟨g', 0, none⟩) x'.length cap')).heap[b]? = w.heap[b]? := fun b hb' => by
  have hbG : b ∈ G := by rw [e1]; simp [hb']
  rw [Below.heap_setCell _ _ _ _ (fun e' => gG (by rw [← show b = g from e']; exact hbG))]
  exact kept b (lt2 b hbG) (nd3 b hb')
 have keepB : ∀ b, b ∈ FB → (w'.setCell ⟨g, i * 2 + 1, none⟩ (.slice (some ⟨g', 0, none⟩) x'.length cap')).heap[b]? = w.heap[b]? := fun b hb' => by
  have hne : b ≠ g := fun e' => hd g (by simp [Value.ownBlock]) (by rw [← e']; exact hb')
  rw [Below.heap_setCell _ _ _ _ hne]
  exact kept b (hB.lt b hb') (fun e' => hd b (by simp [dvF b e']) hb')
 have oo : OwnB 0 (w'.setCell ⟨g, i * 2 + 1, none⟩ (.slice (some ⟨g', 0, none⟩) x'.length cap')) (.slice (some ⟨g', 0, none⟩) x'.length cap') x' := by
  refine ⟨o'.1, ?_⟩
  rcases o'.2 with ⟨e', _⟩ | ⟨gg, cap2, cur2, e', r0, r1, r2⟩
  ·cases e'
  ·refine .inr ⟨gg, cap2, cur2, e', r0, ?_, r2⟩
   simp only [Value.slice.injEq, Option.some.injEq, Addr.mk.injEq, and_true] at e'
   obtain ⟨⟨rfl, _⟩, _⟩ := e'
   rw [Below.heap_setCell _ _ _ _ g'ne]; exact r1
 have hJ : OwnF (Shp.list T SWr) (g :: (F1 ++ (g' :: F3))) (w'.setCell ⟨g, i * 2 + 1, none⟩ (.slice (some ⟨g', 0, none⟩) x'.length cap')) [.slice (some ⟨g, 0, none⟩) segs.length cap] (segs.set i (z, x')) := by
  refine ⟨⟨_, c1 ++ ([.int .i64 z, .slice (some ⟨g', 0, none⟩) x'.length cap'] ++ c3), F1 ++ (g' :: F3), rfl, by rw [List.length_set]; exact row'', ?_, rfl⟩, ?_⟩
  ·rw [set_take_drop segs i (z, x') hil]
   exact ownEach_app (ownEach_to k1 keep1) (ownEach_app (ownEach_one (s := SWr) (F := [g']) (c := [.int .i64 z, .slice (some ⟨g', 0, none⟩) x'.length cap']) (x := (z, x')) ⟨[.int .i64 z], [.slice (some ⟨g', 0, none⟩) x'.length cap'], [], [g'], rfl, rfl, ⟨rfl, rfl⟩, _, rfl, oo, by simp [Value.ownBlock]⟩) (ownEach_to k3 keep3))
  ·refine List.nodup_cons.2 ⟨fun hh => ?_, List.nodup_append.2 ⟨hG1.1, List.nodup_cons.2 ⟨g'3, hG2.2.1⟩, fun a ha b hb' e' => ?_⟩⟩
   ·rcases List.mem_append.1 hh with q | q
    ·exact gG (by rw [e1]; simp [q])
    ·rcases List.mem_cons.1 q with q | q
     ·exact g'ne q.symm
     ·exact gG (by rw [e1]; simp [q])
   ·rcases List.mem_cons.1 hb' with q | q
    ·rw [e', q] at ha; exact g'1 ha
    ·exact hG1.2.2 a ha b (by simp [q]) e'
 refine ⟨⟨?_, ?_⟩, (g :: (F1 ++ (g' :: F3))) ++ FB, OwnF.join hJ (hB.keep keepB) ?_, ?_, ?_, ?_⟩
 ·rw [row'.cellAt _ (show i * 2 + 1 < segs.length * 2 by omega)]; exact ec1
 ·exact World.ownsRow.frozenAt row' _
 ·intro b hb' hb2
  rcases List.mem_cons.1 hb' with rfl | q
  ·exact hd b (by simp [Value.ownBlock]) hb2
  ·rcases List.mem_append.1 q with q | q
   ·exact hd b (by rw [e1]; simp [q]) hb2
   ·rcases List.mem_cons.1 q with q | q
    ·subst q
     rcases hat with hat | rfl
     ·exact hd _ (by simp [dvF _ hat]) hb2
     ·have := hB.lt _ hb2; omega
    ·exact hd b (by rw [e1]; simp [q]) hb2
 ·intro b hb'
  rcases List.mem_append.1 hb' with q | q
  ·rcases List.mem_cons.1 q with rfl | q
   ·left; simp [Value.ownBlock]
   ·rcases List.mem_append.1 q with q | q
    ·left; rw [e1]; simp [q]
    ·rcases List.mem_cons.1 q with q | q
     ·subst q
      rcases hat with hat | rfl
      ·left; simp [dvF _ hat]
      ·right; exact Nat.le_refl _
     ·left; rw [e1]; simp [q]
  ·left; simp [q]
 ·intro B hFB hBw
  have b1 : Below B w w' := (Below.refl _ _).grown hgr hBw (fun k hk => hFB k (by simp [dvF k hk]))
  exact b1.setCell (p := ⟨g, i * 2 + 1, none⟩) (hFB g (by simp [Value.ownBlock])) _
 ·intro b hb' hnb
  have hne : b ≠ g := fun e' => hnb (by rw [e']; simp [Value.ownBlock])
  rw [Below.heap_setCell _ _ _ _ hne]
  exact kept b hb' (fun e' => hnb (by simp [dvF b e']))
end Go.Proofs.Ytjjicajodjophaa

namespace Go.Proofs.Ytjjicajodjophaa
open Go.RowKit
def KeepT (e : Nat) (w w' : World) : Prop := ∀ (b : Nat) (cur : Array Value) (fr : Nat × Nat), w.heap[b]? = some (Obj.cells cur e fr) → w'.heap[b]? = some (Obj.cells cur e fr)
theorem KeepT.refl (e : Nat) (w : World) : KeepT e w w := fun _ _ _ h => h
theorem KeepT.trans {e : Nat} {a b c : World} (h : KeepT e a b) (k : KeepT e b c) : KeepT e a c := fun i cur fr x => k i cur fr (h i cur fr x)
theorem KeepT.below {e : Nat} {w w' : World} (h : Below w.heap.size w w') : KeepT e w w' := fun b cur fr x => (h.block b (lt_of_block x)).trans x
theorem KeepT.grown {e e' B s n : Nat} {w w' : World} {v : Value} {xs : List Value} (hr : w.ownsRow B e' s v n xs) (hg : w.grownBy w' v.ownBlock) (hne : e ≠ e') : KeepT e w w' := fun b cur fr x => by
 refine (hg.block b (lt_of_block x) fun h => ?_).trans x
 rcases hr.2 with ⟨rfl, _⟩ | ⟨g, cap, cur', rfl, _, hg', _⟩
 ·cases h
 ·simp only [Value.ownBlock, Option.some.injEq] at h
  subst h
  rw [x] at hg'
  simp only [Option.some.injEq, Obj.cells.injEq] at hg'
  exact hne hg'.2.1
theorem KeepT.set {e t : Nat} {w : World} {a : Addr} {cs : Array Value} {fr : Nat × Nat} (h : w.heap[a.block]? = some (.cells cs t fr)) (hne : e ≠ t) (u : Value) : KeepT e w (w.setCell a u) := fun b cur fr' x => by
 refine (Below.heap_setCell _ _ _ _ fun h' => ?_).trans x
 rw [h', h] at x
 simp only [Option.some.injEq, Obj.cells.injEq] at x
 exact hne x.2.1.symm
theorem rows_keepT {w w' : World} {B e s n : Nat} {v : Value} {xs : List Value} (h : w.ownsRow B e s v n xs) (k : KeepT e w w') : w'.ownsRow B e s v n xs := by
 refine ⟨h.1, ?_⟩
 rcases h.2 with hn | ⟨g, cap, cur, hv, hgb, hg, r⟩
 ·exact .inl hn
 ·exact .inr ⟨g, cap, cur, hv, hgb, k _ _ _ hg, r⟩
theorem rows_lt {w : World} {B e s n : Nat} {v : Value} {xs : List Value} (h : w.ownsRow B e s v n xs) : ∀ k, v.ownBlock = some k → k < w.heap.size := by
 intro k hk
 rcases h.2 with ⟨rfl, _⟩ | ⟨g, cap, cur, rfl, hb, hg, _⟩
 ·cases hk
 ·simp only [Value.ownBlock, Option.some.injEq] at hk
  subst hk
  exact lt_of_block hg
end Go.Proofs.Ytjjicajodjophaa

namespace Go.Proofs.Ytjjicajodjophaa
open Go.RowKit
def wcells : List Wrt → List Value → List Value
 | f :: fs, sv :: svs => .int .i64 f.1 :: sv :: wcells fs svs
 | _, _ => []
theorem wcells_snoc : ∀ (fs : List Wrt) (svs : List Value) (f : Wrt) (sv : Value), svs.length = fs.length → wcells (fs ++ [f]) (svs ++ [sv]) = wcells fs svs ++ [.int .i64 f.1, sv]
 | [], svs, f, sv, h => by
  have : svs = [] := List.eq_nil_of_length_eq_zero (by simpa using h)
  subst this; rfl
 | g :: fs, [], f, sv, h => by simp at h
 | g :: fs, s :: svs, f, sv, h => by
  have := wcells_snoc fs svs f sv (by simpa using h)
  simp only [List.cons_append, wcells, this]
theorem wcells_at : ∀ (fs : List Wrt) (svs : List Value) (i : Nat), svs.length = fs.length → i < fs.length →
  (wcells fs svs)[i * 2]? = some (.int .i64 (fs.getD i (0, [])).1) ∧ (wcells fs svs)[i * 2 + 1]? = some (svs.getD i undef)
 | [], _, i, _, hi => by simp at hi
 | f :: fs, [], i, h, hi => by simp at h
 | f :: fs, sv :: svs, 0, h, hi => by simp [wcells]
 | f :: fs, sv :: svs, i + 1, h, hi => by
  have := wcells_at fs svs i (by simpa using h) (by simpa using hi)
  rw [show (i + 1) * 2 = i * 2 + 1 + 1 from by omega, show i * 2 + 1 + 1 + 1 = (i * 2 + 1) + 1 + 1 from rfl]
  simpa [wcells] using this
def OwnW (T B : Nat) (w : World) (v : Value) (ws : List Wrt) : Prop :=
 ∃ svs : List Value, svs.length = ws.length ∧ w.ownsRow B T 2 v ws.length (wcells ws svs) ∧ ∀ i, i < ws.length → OwnB 0 w (svs.getD i undef) (ws.getD i (0, [])).2
theorem OwnW.nil (T B : Nat) (w : World) : OwnW T B w (.slice none 0 0) [] := ⟨[], rfl, World.ownsRow_nil _ _ _ _, fun i hi => by simp at hi⟩
theorem OwnW.keepT {T B : Nat} {w w' : World} {v : Value} {ws : List Wrt} (h : OwnW T B w v ws) (k1 : KeepT 5 w w') (k2 : KeepT T w w') : OwnW T B w' v ws := by
 obtain ⟨vs, h1, h2, h3⟩ := h
 exact ⟨vs, h1, rows_keepT h2 k2, fun i hi => rows_keepT (h3 i hi) k1⟩
theorem OwnW.snoc {T B : Nat} {w w' : World} {v v' : Value} {ws : List Wrt} {f : Wrt} {sv : Value} (hT : T ≠ 5) {svs : List Value} (h1 : svs.length = ws.length) (h2 : w.ownsRow B T 2 v ws.length (wcells ws svs))
  (h3 : ∀ i, i < ws.length → OwnB 0 w (svs.getD i undef) (ws.getD i (0, [])).2) (hs : OwnB 0 w sv f.2)
  (hg : w.grownBy w' v.ownBlock) (hw : w'.ownsRow B T 2 v' (ws.length + 1) (wcells ws svs ++ [.int .i64 f.1, sv])) : OwnW T B w' v' (ws ++ [f]) := by
 refine ⟨svs ++ [sv], by simp [h1], ?_, ?_⟩
 ·rw [wcells_snoc ws svs f sv h1, List.length_append]
  exact hw
 ·intro i hi
  simp only [List.length_append, List.length_cons, List.length_nil] at hi
  by_cases hlt : i < ws.length
  ·have e1 : (svs ++ [sv]).getD i undef = svs.getD i undef := by simp [List.getD_eq_getElem?_getD, List.getElem?_append_left (show i < svs.length by omega)]
   have e2 : (ws ++ [f]).getD i (0, []) = ws.getD i (0, []) := by simp [List.getD_eq_getElem?_getD, List.getElem?_append_left hlt]
   rw [e1, e2]
   exact rows_keepT (h3 i hlt) (KeepT.grown h2 hg (Ne.symm hT))
  ·obtain rfl : i = ws.length := by omega
   have e1 : (svs ++ [sv]).getD ws.length undef = sv := by rw [← h1]; simp [List.getD_eq_getElem?_getD]
   have e2 : (ws ++ [f]).getD ws.length (0, []) = f := by simp [List.getD_eq_getElem?_getD]
   rw [e1, e2]
   exact rows_keepT hs (KeepT.grown h2 hg (Ne.symm hT))
theorem OwnW.rd {T B : Nat} {w : World} {v : Value} {ws : List Wrt} (h : OwnW T B w v ws) : RdC w v ws := by
 obtain ⟨svs, h1, h2, h3⟩ := h
 rcases h2.2 with ⟨rfl, h0⟩ | ⟨g, cap, cur, rfl, hgb, hg, hn, hm, hs, ht⟩
 ·have : ws = [] := List.eq_nil_of_length_eq_zero h0
  subst this
  exact RdS.nil _ _
 ·refine ⟨_, cap, rfl, hn, hm, (fun h => by cases h), .inr ⟨g, 0, rfl, fun i x hx => ?_⟩⟩
  have hi : i < ws.length := (List.getElem?_eq_some_iff.1 hx).1
  obtain ⟨c1, c2⟩ := wcells_at ws svs i h1 hi
  have hr := (h3 i hi).rd
  rw [getD_some hx] at c1 hr
  refine ⟨[.int .i64 x.1, svs.getD i undef], ⟨[_], [_], rfl, rfl, _, rfl, hr⟩, fun j u hj => ?_⟩
  match j, hj with
  | 0, hj =>
   simp only [List.getElem?_cons_zero, Option.some.injEq] at hj
   subst hj
   show w.cell? ⟨g, 0 + i * 2 + 0, none⟩ = _
   rw [Nat.zero_add, Nat.add_zero, h2.cellAt (i * 2) (by omega)]; exact c1
  | 1, hj =>
   simp only [List.getElem?_cons_succ, List.getElem?_cons_zero, Option.some.injEq] at hj
   subst hj
   show w.cell? ⟨g, 0 + i * 2 + 1, none⟩ = _
   rw [Nat.zero_add, h2.cellAt (i * 2 + 1) (by omega)]; exact c2
  | j + 2, hj => simp at hj
end Go.Proofs.Ytjjicajodjophaa

namespace Go.Proofs.Ytjjicajodjophaa
open Go.RowKit
section
variable {P : Program} {ops : Array Oper} {md : Region.Mode} {Q : Exit → Act → World → Prop} {S : World → Prop}
def schedB (md : Region.Mode) (ops : Array Oper) (m : Nat) : List (Nat × Bool) → Array Bool → Bool
 | [], listed => Region.seqB md ops (ops.size - m) m listed
 | (i, true) :: r, listed => decide (i < m) && (Region.ready md ops listed).contains i && Region.free md ops listed i && schedB md ops m r (listed.setIfInBounds i true)
 | (i, false) :: r, listed => decide (i < m) && decide (Region.ready md ops listed = [i]) && schedB md ops m r (listed.setIfInBounds i true)
def wpSched (P : Program) (ops : Array Oper) (Q : Exit → Act → World → Prop) (S : World → Prop) (Z : Act → World → Prop) : List (Nat × Bool) → Act → World → Prop
 | [], a, w => Z a w
 | (i, true) :: r, a, w => ∃ o v, ops[i]? = some o ∧ YieldsIf P ops S o v a ∧ S w ∧ wpSched P ops Q S Z r (a.put o.dst v) w
 | (i, false) :: r, a, w => ∃ o, ops[i]? = some o ∧ if Region.wanted o (yielded ops a.tmps) = true then o.wp P a w (fun a' w' => S w' ∧ wpSched P ops Q S Z r a' w') Q else S w ∧ wpSched P ops Q S Z r (a.put o.dst undef) w
theorem wpAnyM_sched {m : Nat} {Z : Act → World → Prop} (hsel : Region.noSelect ops = true) (hs : Region.sinkB md ops m = true) (hc : Region.chainB md ops m = true) (hm : m < ops.size) (hQ : ∀ c (a : Act) t w, Q (.panic c) { a with tmps := t } w → Q (.panic c) a w) :
  ∀ (l : List (Nat × Bool)) (listed : Array Bool) (a : Act) (w : World), HeadInv md ops m listed → schedB md ops m l listed = true → wpSched P ops Q S Z l a w →
   wpAnyM P md ops Q S m (fun listed' a' w' => Region.seqB md ops (ops.size - m) m listed' = true ∧ Z a' w') l.length listed a w
 | [], listed, a, w, _, hB, h => ⟨hB, h⟩
 | (i, true) :: r, listed, a, w, inv, hB, ⟨o, v, ho, hy, hS, h⟩ => by
  simp only [schedB, Bool.and_eq_true, decide_eq_true_eq] at hB
  obtain ⟨⟨⟨him, hr⟩, hf⟩, hB'⟩ := hB
  have hr' : i ∈ Region.ready md ops listed := by simpa using hr
  exact wpAnyM_first ho (Region.noSelect_spec hsel) hs hc hm him (fun c a w h => hQ c a (a.put o.dst v).tmps w (by rw [← put_tmps]; exact h)) (fun listed a w hL => seqB_ready hL.1) _ listed a w inv (Region.free_spec ho hf) hr' hy hS
   (wpAnyM_sched hsel hs hc hm hQ r _ _ _ (inv.set hr' him) hB' h)
 | (i, false) :: r, listed, a, w, inv, hB, ⟨o, ho, h⟩ => by
  simp only [schedB, Bool.and_eq_true, decide_eq_true_eq] at hB
  obtain ⟨⟨him, hr⟩, hB'⟩ := hB
  refine ⟨fun h1 => (by rw [hr] at h1; cases h1), fun j hj => ?_⟩
  have hj0 := hj
  rw [hr] at hj
  have hji : j = i := by simpa using hj
  subst hji
  refine ⟨him, ?_⟩
  have hw : wpOp P ops Q j (fun a' w' => S w' ∧ wpSched P ops Q S Z r a' w') a w := by
   unfold wpOp
   simp only [ho]
   split
   ·rename_i hwd; rw [if_pos hwd] at h; exact .inl h
   ·rename_i hwd; rw [if_neg hwd] at h; exact h
  exact wpOp_mono (fun a' w' h' => ⟨h'.1, wpAnyM_sched hsel hs hc hm hQ r _ _ _ (inv.set hj0 him) hB' h'.2⟩) hw
def schedAll (md : Region.Mode) (ops : Array Oper) (m : Nat) (l : List (Nat × Bool)) : Bool :=
 Region.noSelect ops && decide (l.length = m) && decide (m < ops.size) && Region.sinkB md ops m && Region.chainB md ops m && schedB md ops m l (Array.replicate ops.size false)
theorem wp_region_sched {id : Nat} {a : Act} {w : World} {l : List Oper} (S : World → Prop) (s : List (Nat × Bool)) (m : Nat) (hf : P.follows .mixedOrders = true) (hB : schedAll .any l.toArray m s = true)
  (hQ : ∀ c (a : Act) t w, Q (.panic c) { a with tmps := t } w → Q (.panic c) a w)
  (h : wpSched P l.toArray Q S (fun a'' w'' => wpList P l.toArray Q (l.drop m) a'' w'') s a w.drew) : (Code.region id l.toArray true).wp P Q a w := by
 simp only [schedAll, Bool.and_eq_true, decide_eq_true_eq] at hB
 obtain ⟨⟨⟨⟨⟨hsel, hlen⟩, hm⟩, hs⟩, hc⟩, hsch⟩ := hB
 have hm' : m < l.length := by simpa using hm
 have hld : (l.drop m).length = l.length - m := by simp
 have inv0 : HeadInv .any l.toArray m (Array.replicate l.toArray.size false) :=
  ⟨by simp, fun j oj _ hl => (by rw [getD_replicate_false] at hl; cases hl), fun t _ ht => getD_in (by simpa using ht) (getD_replicate_false _ _)⟩
 have H := wpAnyM_sched (md := .any) hsel hs hc hm hQ s _ a w.drew inv0 hsch h
 refine wp_region_any hf ?_
 have := wpAny_of_mid (Q := Q) (g := l.length - m) (fun listed a' w' hL => by
  have := wpAny_of_seq (md := .any) (Q' := Q) (l.drop m) m listed a' w' (fun j => by simp [List.getElem?_drop]) (by rw [hld]; exact hL.1) hL.2
  rwa [hld] at this) _ _ _ _ H
 rw [hlen, show m + (l.length - m) = l.toArray.size by simp; omega] at this
 exact this
theorem sched_take {i : Nat} {r : List (Nat × Bool)} {a : Act} {w : World} {Z : Act → World → Prop} {o : Oper} {v : Value} (ho : ops[i]? = some o) (hw : Region.wanted o (yielded ops a.tmps) = true) (hS : S w) (hy : ∀ w, S w → (execOp a.eval o).run P w = .ok (.value v) w) (h : wpSched P ops Q S Z r (a.put o.dst v) w) : wpSched P ops Q S Z ((i, true) :: r) a w :=
 ⟨o, v, ho, .inl ⟨hw, hy⟩, hS, h⟩
theorem sched_go {i : Nat} {r : List (Nat × Bool)} {a : Act} {w : World} {Z : Act → World → Prop} {o : Oper} (ho : ops[i]? = some o) (h : ∀ K : Act → World → Prop, (∀ a' w', S w' → wpSched P ops Q S Z r a' w' → K a' w') → if Region.wanted o (yielded ops a.tmps) = true then o.wp P a w K Q else K (a.put o.dst undef) w) : wpSched P ops Q S Z ((i, false) :: r) a w := by
 have := h (fun a' w' => S w' ∧ wpSched P ops Q S Z r a' w') (fun a' w' h1 h2 => ⟨h1, h2⟩)
 exact ⟨o, ho, this⟩
theorem sched_run {i : Nat} {r : List (Nat × Bool)} {a : Act} {w : World} {Z : Act → World → Prop} {o : Oper} (ho : ops[i]? = some o) (hw : Region.wanted o (yielded ops a.tmps) = true) (h : ∀ K : Act → World → Prop, (∀ a' w', S w' → wpSched P ops Q S Z r a' w' → K a' w') → o.wp P a w K Q) : wpSched P ops Q S Z ((i, false) :: r) a w := by
 refine sched_go ho fun K hK => ?_
 rw [if_pos hw]
 exact h K hK
end
end Go.Proofs.Ytjjicajodjophaa

namespace Go.Proofs.Ytjjicajodjophaa
open Go.RowKit
set_option maxRecDepth 100000 in
theorem fnumber_any (w : World) (n s : Nat) (h1 : 1 ≤ s) (h8 : s ≤ 8) (hn : n < 2 ^ (8 * s)) (hn64 : n < 18446744073709551616) :
  Calls Try.prog 106 #[.int .u64 (n : Int), .int .i64 (s : Int)] w fun e w' => ∃ v, e = .returned v ∧ OwnB w.heap.size w' v (oc n s) ∧ Below w.heap.size w w' := by
 go_enter Try.func106, Try.ntmps106
 go_wp2_with fail
 refine (put_yes n s _ h1 h8 hn hn64).mono ?_
 rintro e w1 ⟨v, rfl, o1, b1⟩
 go_wp2
 go_ret
 exact ⟨_, rfl, o1, b1⟩
set_option maxRecDepth 100000 in
theorem ftold_any (w : World) (v : Value) (xs : List UInt8) (hv : Rd w v xs) (h1 : 1 ≤ xs.length) (h8 : xs.length ≤ 8) :
  Calls Try.prog 110 #[v] w fun e w' => e = .returned (.int .u64 (numOf xs : Nat)) ∧ Below w.heap.size w w' := by
 go_enter Try.func110, Try.ntmps110
 go_wp2_with fail
 refine (get_yes _ _ _ hv h1 h8).mono ?_
 rintro e w1 ⟨rfl, b1⟩
 go_wp2
 go_ret
 exact ⟨rfl, b1⟩
def fmeas (b : List UInt8) : Nat × Nat :=
 if b.length < 8 then (0, 8)
 else if b.getD 0 0 ≠ 167 then (0, 22)
 else if 4096 < ftold b then (0, 5)
 else if b.length < ftold b + 8 then (0, 8)
 else (ftold b + 8, 0)
theorem fmeas_no {b : List UInt8} (h : (fmeas b).2 ≠ 0) : (fmeas b).1 = 0 ∧ fopen b = ((fmeas b).2, (0, []), 0) := by
 unfold fmeas at *
 unfold fopen
 by_cases h1 : b.length < 8
 ·simp [h1]
 rw [if_neg h1] at *
 by_cases h2 : b.getD 0 0 ≠ 167
 ·rw [if_pos h2] at *; rw [if_neg h1, if_pos h2]; exact ⟨rfl, rfl⟩
 rw [if_neg h2] at *
 by_cases h3 : 4096 < ftold b
 ·rw [if_pos h3] at *; rw [if_neg h1, if_neg h2, if_pos h3]; exact ⟨rfl, rfl⟩
 rw [if_neg h3] at *
 by_cases h4 : b.length < ftold b + 8
 ·rw [if_pos h4] at *; rw [if_neg h1, if_neg h2, if_neg h3, if_pos h4]; exact ⟨rfl, rfl⟩
 rw [if_neg h4] at h
 exact absurd rfl h
theorem fmeas_yes {b : List UInt8} (h : (fmeas b).2 = 0) : (fmeas b).1 = ftold b + 8 ∧ 8 ≤ b.length ∧ ftold b ≤ 4096 ∧ ftold b + 8 ≤ b.length ∧
  fopen b = if numOf ((b.drop (ftold b + 4)).take 4) ≠ sum (b.take (ftold b + 4)) then (21, (0, []), 0) else (0, (b.getD 1 0, (b.drop 4).take (ftold b)), ftold b + 8) := by
 unfold fmeas at *
 unfold fopen
 by_cases h1 : b.length < 8
 ·simp [h1] at h
 rw [if_neg h1] at *
 by_cases h2 : b.getD 0 0 ≠ 167
 ·rw [if_pos h2] at h; simp at h
 rw [if_neg h2] at *
 by_cases h3 : 4096 < ftold b
 ·simp [h3] at h
 rw [if_neg h3] at *
 by_cases h4 : b.length < ftold b + 8
 ·simp [h4] at h
 rw [if_neg h4] at *
 rw [if_neg h1, if_neg h2, if_neg h3, if_neg h4]
 exact ⟨rfl, by omega, by omega, by omega, rfl⟩
set_option maxRecDepth 100000 in
set_option maxHeartbeats 1000000 in
theorem fmeasure_any (w : World) (v : Value) (b : List UInt8) (hrd : Rd w v b) (hm : b.length ≤ 1000000000000000) :
  Calls Try.prog 109 #[v] w fun e w' => e = .returned (.tuple #[.int .i64 ((fmeas b).1 : Nat), .int .i64 ((fmeas b).2 : Nat)]) ∧ Below w.heap.size w w' := by
 obtain ⟨ao, cap, rfl⟩ := hrd.slice
 by_cases h1 : b.length < 8
 ·have hq : (b.length : Int) < 8 := by omega
  have hF : Hid (fmeas b = (0, 8)) := by show _ = _; unfold fmeas; rw [if_pos h1]
  go_enter Try.func109, Try.ntmps109
  go_wp2
  go_ret2
  rw [hF.out]
  exact ⟨rfl, Below.refl _ _⟩
 have hq : ¬ (b.length : Int) < 8 := by omega
 have hrd0 := hrd
 obtain ⟨a1, c1, e1, l1, m1, n1, r1⟩ := hrd
 cases e1
 rcases r1 with r1 | ⟨b1, o1, rfl, hc1⟩
 ·rw [r1] at h1; simp at h1
 have t0 := hc1 0 (by omega)
 simp only [Nat.add_zero] at t0
 have q0 : (0 : Int) < (b.length : Int) := by omega
 clear hc1
 by_cases h2 : b.getD 0 0 ≠ 167
 ·have hF : Hid (fmeas b = (0, 22)) := by show _ = _; unfold fmeas; rw [if_neg h1, if_pos h2]
  have hd : (bt b 0 != 167) = true := by
   simp only [bne_iff_ne]
   intro e; apply h2; unfold bt at e
   exact UInt8.toNat_inj.1 (show (b.getD 0 0).toNat = 167 by omega)
  go_enter Try.func109, Try.ntmps109
  go_wp2
  go_ret2
  rw [hF.out]
  exact ⟨rfl, Below.refl _ _⟩
 have hd : (bt b 0 != 167) = false := by
  have : b.getD 0 0 = 167 := Decidable.not_not.1 h2
  unfold bt; rw [this]; rfl
 have rT : Rd w (.slice (some ⟨b1, o1 + 2, none⟩) 2 (cap - 2)) ((b.drop 2).take 2) := by
  have := (rd_sub hrd0 (q := 2) (to := 4) (by omega) (by omega)).1
  rw [List.drop_take] at this
  simpa [Addr.add] using this
 have hT : Calls Try.prog 110 #[.slice (some ⟨b1, o1 + 2, none⟩) 2 (cap - 2)] w fun e w' => e = .returned (.int .u64 (ftold b : Nat)) ∧ Below w.heap.size w w' :=
  ftold_any w _ _ rT (by simp; omega) (by simp; omega)
 have hlt := (told_int b (by omega)).2
 have x1 : (4 : Int) ≤ (cap : Int) := by omega
 have x2 : ¬ cap = 2 := by omega
 have HT := hide hT
 clear hT rT hrd0
 by_cases h3 : 4096 < ftold b
 ·have hF : Hid (fmeas b = (0, 5)) := by show _ = _; unfold fmeas; rw [if_neg h1, if_neg h2, if_pos h3]
  have hd3 : (4096 : Int) < (ftold b : Int) := by omega
  go_enter Try.func109, Try.ntmps109
  go_wp2_with fail
  refine HT.out.mono ?_
  rintro e w1 ⟨rfl, b1⟩
  go_wp2
  go_ret2
  rw [hF.out]
  exact ⟨rfl, b1⟩
 have hd3 : ¬ (4096 : Int) < (ftold b : Int) := by omega
 have hw : IntKind.i64.wrap (ftold b : Int) = (ftold b : Int) := by rw [IntKind.wrap_i64]; omega
 by_cases h4 : b.length < ftold b + 8
 ·have hF : Hid (fmeas b = (0, 8)) := by show _ = _; unfold fmeas; rw [if_neg h1, if_neg h2, if_neg h3, if_pos h4]
  have hd4 : (b.length : Int) < 8 + (ftold b : Int) := by omega
  go_enter Try.func109, Try.ntmps109
  go_wp2_with fail
  refine HT.out.mono ?_
  rintro e w1 ⟨rfl, b1⟩
  go_wp2
  go_ret2
  rw [hF.out]
  exact ⟨rfl, b1⟩
 have hd4 : ¬ (b.length : Int) < 8 + (ftold b : Int) := by omega
 have hF : Hid (fmeas b = (ftold b + 8, 0)) := by show _ = _; unfold fmeas; rw [if_neg h1, if_neg h2, if_neg h3, if_neg h4]
 go_enter Try.func109, Try.ntmps109
 go_wp2_with fail
 refine HT.out.mono ?_
 rintro e w1 ⟨rfl, b1⟩
 go_wp2
 go_ret2
 rw [hF.out]
 refine ⟨?_, b1⟩
 simp [Int.add_comm]
theorem make_cap {n : Nat} (hn : n ≤ 281474976710656) (u : World) : (Instr.makeSlice 62 (.int .i64 0) (.int .i64 (n : Int))).run Try.prog u =
      .ok (.slice (some ⟨u.heap.size, 0, none⟩) 0 n) (u.alloc (.cells (madeCells #[.int .u8 0] n) 5)) := by
 obtain ⟨i0, hi, hz0, hz1, hz2⟩ := info_parts info8
 have h := run_make (P := Try.prog) u 62 5 i0 (.int .u8 0) Try.underlying62 hi hz0 .i64 .i64 0 (n : Int) (by omega) (by omega) (by rw [hz2]; omega) (by omega)
 simpa [hz1, Value.cells] using h
theorem own_cap (w : World) (n : Nat) (h : n ≤ maxLen) : OwnB w.heap.size (w.alloc (.cells (madeCells #[.int .u8 0] n) 5)) (.slice (some ⟨w.heap.size, 0, none⟩) 0 n) [] :=
 ⟨rfl, .inr ⟨w.heap.size, n, _, rfl, Nat.le_refl _, heap_alloc_last w _, Nat.zero_le _, h, by simp [madeCells], by simp⟩⟩
set_option maxRecDepth 100000 in
set_option maxHeartbeats 1000000 in
theorem fseal_any (w : World) (k : UInt8) (v : Value) (d : List UInt8) (hrd : Rd w v d) (hm : d.length ≤ 140737488351232) :
  Calls Try.prog 90 #[.agg #[.int .u8 (k.toNat : Int), v]] w fun e w' => ∃ v', e = .returned (.tuple #[v', .int .i64 (fsealE d)]) ∧ OwnB w.heap.size w' v' (fsealO k d) ∧ Below w.heap.size w w' := by
 obtain ⟨w1, hw1, c0, c1, b1, s1⟩ := boxed2 w (.int .u8 (k.toNat : Int)) v 157
 obtain ⟨ao, cap, rfl⟩ := hrd.slice
 by_cases hl : 4096 < d.length
 ·have hq : (4096 : Int) < (d.length : Int) := by omega
  have he : Hid (fsealE d = 5) := by show _ = _; simp [fsealE, hl]
  have ho : Hid (fsealO k d = []) := by show _ = _; simp [fsealO, hl]
  go_enter Try.func90, Try.ntmps90
  go_wp2
  go_ret2
  exact ⟨_, by rw [he.out]; rfl, by rw [ho.out]; exact World.ownsRow_nil _ _ _ _, by rw [← hw1]; exact b1⟩
 have hq : ¬ (4096 : Int) < (d.length : Int) := by omega
 have he : Hid (fsealE d = 0) := by show _ = _; simp [fsealE, hl]
 have ho : Hid (fsealO k d = fseal k d) := by show _ = _; simp [fsealO, hl]
 have hmk : ∀ u : World, (Instr.makeSlice 62 (.int .i64 0) (.int .i64 (8 + (d.length : Int)))).run Try.prog u = .ok (.slice (some ⟨u.heap.size, 0, none⟩) 0 (8 + d.length)) (u.alloc (.cells (madeCells #[.int .u8 0] (8 + d.length)) 5)) := fun u => by
  have := make_cap (n := 8 + d.length) (by omega) u
  simpa using this
 have hwl : IntKind.u64.wrap (d.length : Int) = (d.length : Int) := by rw [IntKind.wrap_u64]; omega
 have oo := own_cap w1 (8 + d.length) (by rw [show maxLen = 9223372036854775807 from rfl]; omega)
 obtain ⟨w2, hw2⟩ : ∃ w2, w2 = w1.alloc (.cells (madeCells #[.int .u8 0] (8 + d.length)) 5) := ⟨_, rfl⟩
 rw [← hw2, s1] at oo
 have b2 : Below w.heap.size w w2 := by rw [hw2]; exact b1.alloc (by omega) _
 have b12 : Below w1.heap.size w1 w2 := by rw [hw2]; exact (Below.refl _ _).alloc (Nat.le_refl _) _
 have s2 : w2.heap.size = w.heap.size + 2 := by rw [hw2]; simp [s1]
 have d0 : w2.cell? ⟨w.heap.size, 0, none⟩ = some (.int .u8 (k.toNat : Int)) := (b12.cell (cell_lt c0)).trans c0
 have d1 : w2.cell? ⟨w.heap.size, 1, none⟩ = some (.slice ao d.length cap) := (b12.cell (cell_lt c1)).trans c1
 have b23 : Below w2.heap.size w2 (w2.alloc (.cells #[.int .u8 167, .int .u8 (k.toNat : Int)] 5)) := (Below.refl _ _).alloc (Nat.le_refl _) _
 have oo3 := oo.below (Nat.le_refl _) b23
 have rl := rd_lit w2 [167, k] #[.int .u8 167, .int .u8 (k.toNat : Int)] (w.heap.size + 1 + 1) 2 rfl (by omega) rfl (by simp)
 have b3 : Below w.heap.size w (w2.alloc (.cells #[.int .u8 167, .int .u8 (k.toNat : Int)] 5)) := b2.trans (b23.mono (by omega))
 have hsz3 : w.heap.size + 1 ≤ (w2.alloc (.cells #[.int .u8 167, .int .u8 (k.toNat : Int)] 5)).heap.size := by simp; omega
 have e1 := (b23.cell (cell_lt d1)).trans d1
 have hlen1 : ([] : List UInt8).length + ([167, k] : List UInt8).length ≤ 140737488355328 := by simp
 have HB := hide (And.intro b3 hrd)
 have HL := hide hm
 clear b1 b2 b12 b23 b3 oo d0 d1 c0 hrd hm
 have OO := hide oo3
 have RL := hide rl
 have E1 := hide e1
 clear oo3 rl e1
 go_enter Try.func90, Try.ntmps90
 go_wp2_with (at_builtin; rw [← hw1, ← hw2]; refine wpList_append_octs rfl _ _ rfl (w.heap.size + 1) _ _ [] [167, k] rfl rfl OO.out RL.out hlen1 hsz3 ?_; intro v3 w3 o3 b3 _; have b4 := HB.out.1.trans (b3.mono (by omega)); have f1 := (b3.cell (p := ⟨w.heap.size, 1, none⟩) (by show w.heap.size < _; omega)).trans E1.out; replace hw1 := hide hw1; replace hw2 := hide hw2; have B4 := hide b4; have O3 := hide o3; have hs3 : w.heap.size + 1 ≤ w3.heap.size := Nat.le_trans hsz3 b3.size; clear OO RL E1 hsz3 b3 b4 o3)
 have hO : ∀ u, Calls Try.prog 106 #[.int .u64 (d.length : Int), .int .i64 2] u fun e w' => ∃ v, e = .returned v ∧ OwnB u.heap.size w' v (oc d.length 2) ∧ Below u.heap.size u w' := fun u => fnumber_any u d.length 2 (by decide) (by decide) (by omega) (by omega)
 refine (hO _).mono ?_
 rintro e w4 ⟨v4, rfl, o4, b4⟩
 have o3 := O3.out.below (Nat.le_refl _) b4
 have c4 := B4.out.trans (b4.mono B4.out.size)
 have f4 := (b4.cell (p := ⟨w.heap.size, 1, none⟩) (by show w.heap.size < _; omega)).trans f1
 have r4 := o4.rd
 have hs4 : w.heap.size + 1 ≤ w4.heap.size := Nat.le_trans hs3 b4.size
 clear hO O3 B4 b4 f1 o4 hs3 hmk
 have C4 := hide c4
 have O4 := hide o3
 have R4 := hide r4
 have hlen2 : ([] ++ [167, k] : List UInt8).length + (oc d.length 2).length ≤ 140737488355328 := by rw [oc_length]; simp
 clear c4 o3 r4
 have HR := hide HB.out.2
 have hlen3 : ([] ++ [167, k] ++ oc d.length 2 : List UInt8).length + d.length ≤ 140737488355328 := by rw [List.length_append, oc_length]; simp; omega
 go_wp2_with (first
  | (at_builtin; refine wpList_append_octs rfl _ _ rfl (w.heap.size + 1) _ _ ([] ++ [167, k]) (oc d.length 2) rfl rfl O4.out R4.out hlen2 hs4 ?_; intro v5 w5 o5 b5 _; have c5 := hide (C4.out.trans (b5.mono (by omega))); have f5 := (b5.cell (p := ⟨w.heap.size, 1, none⟩) (by show w.heap.size < _; omega)).trans f4; have O5 := hide o5; have hs5 : w.heap.size + 1 ≤ w5.heap.size := Nat.le_trans hs4 b5.size; clear O4 R4 C4 f4 b5 o5 hs4)
  | (at_builtin; refine wpList_append_octs rfl _ _ rfl (w.heap.size + 1) _ _ ([] ++ [167, k] ++ oc d.length 2) d rfl rfl O5.out (HR.out.to c5.out) hlen3 hs5 ?_; intro v6 w6 o6 b6 _; have C6 := hide (c5.out.trans (b6.mono (by omega))); have O6 : Hid (OwnB (w.heap.size + 1) w6 v6 (fhead k d)) := hide o6; have hs6 : w.heap.size + 1 ≤ w6.heap.size := Nat.le_trans hs5 b6.size; clear O5 c5 f5 b6 o6 hs5))
 have hfl : (fhead k d).length ≤ 4100 := by rw [fhead_len]; omega
 have hS := sum_lt (fhead k d)
 refine (sum_any _ _ (fhead k d) O6.out.rd (by omega)).mono ?_
 rintro e w7 ⟨rfl, b7⟩
 have hws : IntKind.u64.wrap ((sum (fhead k d) : Nat) : Int) = ((sum (fhead k d) : Nat) : Int) := by unfold M32 at hS; rw [IntKind.wrap_u64]; omega
 have C7 := hide (C6.out.trans (b7.mono C6.out.size))
 have O7 := hide (O6.out.below (Nat.le_refl _) b7)
 have hs7 : w.heap.size + 1 ≤ w7.heap.size := Nat.le_trans hs6 b7.size
 clear C6 O6 b7 hs6
 go_wp2_with fail
 refine (fnumber_any _ (sum (fhead k d)) 4 (by decide) (by decide) (by unfold M32 at hS; omega) (by unfold M32 at hS; omega)).mono ?_
 rintro e w8 ⟨v8, rfl, o8, b8⟩
 have C8 := hide (C7.out.trans (b8.mono C7.out.size))
 have O8 := hide (O7.out.below (Nat.le_refl _) b8)
 have R8 := hide o8.rd
 have hs8 : w.heap.size + 1 ≤ w8.heap.size := Nat.le_trans hs7 b8.size
 have hlen4 : (fhead k d).length + (oc (sum (fhead k d)) 4).length ≤ 140737488355328 := by rw [oc_length]; omega
 clear C7 O7 b8 o8 hs7 hws
 go_wp2_with (at_builtin; refine wpList_append_octs rfl _ _ rfl (w.heap.size + 1) _ _ (fhead k d) (oc (sum (fhead k d)) 4) rfl rfl O8.out R8.out hlen4 hs8 ?_; intro v9 w9 o9 b9 _)
 go_ret2
 refine ⟨_, by rw [he.out]; rfl, ?_, C8.out.trans (b9.mono (by omega))⟩
 rw [ho.out]
 exact OwnB.mono o9 (by omega)
end Go.Proofs.Ytjjicajodjophaa

namespace Go.Proofs.Ytjjicajodjophaa
open Go.RowKit
theorem frame_info_p : (Try.prog.info? 157).map (·.size) = some 2 := by kernel_rfl
set_option maxRecDepth 100000 in
set_option maxHeartbeats 1000000 in
theorem fopen_any (w : World) (v : Value) (b : List UInt8) (hrd : Rd w v b) (hm : b.length ≤ 140737488351232) :
  Calls Try.prog 101 #[v] w fun e w' => ∃ sv, e = .returned (.tuple #[.agg #[.int .u8 ((fopen b).2.1.1.toNat : Int), sv], .int .i64 ((fopen b).2.2 : Nat), .int .i64 ((fopen b).1 : Nat)]) ∧ OwnB w.heap.size w' sv (fopen b).2.1.2 ∧ Below w.heap.size w w' := by
 obtain ⟨ao, cap, rfl⟩ := hrd.slice
 have hz := heap_alloc_last w (.cells #[.int .u8 0, .slice none 0 0] 157)
 have hb1 : Below w.heap.size w (w.alloc (.cells #[.int .u8 0, .slice none 0 0] 157)) := (Below.refl _ _).alloc (Nat.le_refl _) _
 obtain ⟨W, hW⟩ : ∃ W, W = w.alloc (.cells #[.int .u8 0, .slice none 0 0] 157) := ⟨_, rfl⟩
 have hsW : W.heap.size = w.heap.size + 1 := by rw [hW]; simp
 rw [← hW] at hb1 hz
 have hM := fmeasure_any W _ b (hrd.to hb1) (by omega)
 by_cases h0 : (fmeas b).2 ≠ 0
 ·obtain ⟨e1, e2⟩ := fmeas_no h0
  have hd : (((fmeas b).2 : Int) != 0) = true := by simp only [bne_iff_ne]; omega
  have hF := hide e2
  rw [e1] at hM
  clear e1 e2
  generalize (fmeas b).2 = er at *
  go_enter Try.func101, Try.ntmps101
  go_wp2_with fail
  rw [← hW]
  replace hW := hide hW
  refine hM.mono ?_
  rintro e w1 ⟨rfl, b1⟩
  have hz1 := (b1.block w.heap.size (by omega)).trans hz
  have cz0 : w1.cell? ⟨w.heap.size, 0, none⟩ = some (.int .u8 0) := by rw [cell_of_row _ _ 0 _ _ (0, 0) hz1]; rfl
  have cz1 : w1.cell? ⟨w.heap.size, 1, none⟩ = some (.slice none 0 0) := by rw [cell_of_row _ _ 1 _ _ (0, 0) hz1]; rfl
  have fz0 : w1.frozen? ⟨w.heap.size, 0, none⟩ = false := frozen_of_row w1 w.heap.size 0 _ _ hz1
  have fz1 : w1.frozen? ⟨w.heap.size, 1, none⟩ = false := frozen_of_row w1 w.heap.size 1 _ _ hz1
  have c1 := hb1.trans (b1.mono (by omega))
  clear hM hz hb1 b1
  go_wp2
  refine ret_frame rfl rfl w.heap.size rfl _ _ _ _ (heap_set2 (u := w1) hz1 _ _) _ Try.underlying157 rfl frame_info_p _ _ rfl rfl ?_
  rw [hF.out]
  exact ⟨_, rfl, World.ownsRow_nil _ _ _ _, below_set2 c1 (Nat.le_refl _) _ _⟩
 obtain ⟨e1, l8, l4, lb, e2⟩ := fmeas_yes (Decidable.not_not.1 h0)
 have e3 := Decidable.not_not.1 h0
 rw [e1, e3] at hM
 clear e1 e3 h0
 obtain ⟨n, hne⟩ : ∃ n, ftold b = n := ⟨_, rfl⟩
 rw [hne] at l4 lb e2 hM
 have hF0 := hide e2
 clear e2 hne
 have hR := hrd.to hb1
 obtain ⟨a1, c1, ea, l1, m1, n1, r1⟩ := hR
 cases ea
 rcases r1 with r1 | ⟨b1, o1, rfl, hc1⟩
 ·rw [r1] at l8; simp at l8
 have t1 := hc1 1 (by omega)
 clear hc1 m1 n1
 go_enter Try.func101, Try.ntmps101
 go_wp2_with fail
 rw [← hW]
 replace hW := hide hW
 refine hM.mono ?_
 rintro e w1 ⟨rfl, bM⟩
 have hz1 := (bM.block w.heap.size (by omega)).trans hz
 have c1 := hb1.trans (bM.mono (by omega))
 have R1 := hrd.to c1
 have rN : Rd w1 (.slice (some ⟨b1, o1 + (n + 4), none⟩) 4 (cap - (n + 4))) ((b.drop (n + 4)).take 4) := by
  have := (rd_sub R1 (q := n + 4) (to := n + 8) (by omega) (by omega)).1
  rw [List.drop_take, show n + 8 - (n + 4) = 4 from by omega] at this
  simpa [Addr.add] using this
 have rS : Rd w1 (.slice (some ⟨b1, o1, none⟩) (n + 4) cap) (b.take (n + 4)) := by
  have := (rd_sub R1 (q := 0) (to := n + 4) (by omega) (by omega)).1
  simpa [Addr.add] using this
 have rC : Rd w1 (.slice (some ⟨b1, o1 + 4, none⟩) n (cap - 4)) ((b.drop 4).take n) := by
  have := (rd_sub R1 (q := 4) (to := n + 4) (by omega) (by omega)).1
  rw [List.drop_take, show n + 4 - 4 = n from by omega] at this
  simpa [Addr.add] using this
 replace t1 := (bM.cell (p := ⟨b1, o1 + 1, none⟩) (cell_lt t1)).trans t1
 have hs1 : w.heap.size + 1 ≤ w1.heap.size := by have := bM.size; omega
 clear hM hz hb1 bM hrd R1
 go_wp2
 rw [show (n : Int) + 8 - 4 = (n : Int) + 4 from by omega]
 have x1 : (n : Int) + 4 ≤ (n : Int) + 8 := by omega
 have x2 : (n : Int) + 8 ≤ (cap : Int) := by omega
 have x3 : (n : Int) + 4 ≤ (cap : Int) := by omega
 have x4 : ¬ cap = n + 4 := by omega
 have y1 : (4 : Int) ≤ (cap : Int) := by omega
 have y2 : (0 : Int) ≤ (n : Int) + 4 := by omega
 have y3 : ((n : Int) + 4).toNat = n + 4 := by omega
 have y4 : ((n : Int) + 8).toNat = n + 8 := by omega
 have y5 : (0 : Int) ≤ (n : Int) + 8 := by omega
 obtain ⟨z1, z2, z3, z4⟩ := wr4 n (by omega)
 have kN : ∀ u, Rd u (.slice (some ⟨b1, o1 + (n + 4), none⟩) 4 (cap - (n + 4))) ((b.drop (n + 4)).take 4) → Calls Try.prog 110 #[.slice (some ⟨b1, o1 + (n + 4), none⟩) 4 (cap - (n + 4))] u fun e w' => e = .returned (.int .u64 (numOf ((b.drop (n + 4)).take 4) : Nat)) ∧ Below u.heap.size u w' :=
  fun u h => ftold_any u _ _ h (by simp; omega) (by simp; omega)
 have kS : ∀ u, Rd u (.slice (some ⟨b1, o1, none⟩) (n + 4) cap) (b.take (n + 4)) → Calls Try.prog 105 #[.slice (some ⟨b1, o1, none⟩) (n + 4) cap] u fun e w' => e = .returned (.int .u32 (sum (b.take (n + 4)) : Nat)) ∧ Below u.heap.size u w' :=
  fun u h => sum_any u _ _ h (by simp; omega)
 have hsl := sum_lt (b.take (n + 4))
 have hwr : IntKind.u64.wrap ((sum (b.take (n + 4)) : Nat) : Int) = ((sum (b.take (n + 4)) : Nat) : Int) := by unfold M32 at hsl; rw [IntKind.wrap_u64]; omega
 have KN := hide kN
 have KS := hide kS
 have RN := hide rN.drew
 have RS := hide rS.drew
 have RC := hide rC.drew
 have HZ := hide hz1
 have HC := hide c1
 have T1 := hide t1
 clear kN kS rN rS rC hz1 c1 t1
 go_region_law (first
  | (refine step_call (by rfl) 110 _ _ (by rfl) #[.slice (some ⟨b1, o1 + (n + 4), none⟩) 4 (cap - (n + 4))] (by simp [Act.eval, Act.put]) (Try.call110 _ _) (KN.out _ RN.out) ?_; rintro e w2 ⟨rfl, b2⟩; refine ⟨_, rfl, ?_⟩)
  | (refine step_call (by rfl) 105 _ _ (by rfl) #[.slice (some ⟨b1, o1, none⟩) (n + 4) cap] (by simp [Act.eval]) (Try.call105 _ _) (KS.out _ (RS.out.to b2)) ?_; rintro e w3 ⟨rfl, b3⟩; refine ⟨_, rfl, ?_⟩))
 have c3 : Below w.heap.size w w3 := by
  have h1 : Below w.heap.size w w1.drew := below_drew HC.out
  exact (h1.trans (b2.mono h1.size)).trans (b3.mono (Nat.le_trans h1.size b2.size))
 have bb : Below w1.heap.size w1 w3 := by
  have h1 : Below w1.heap.size w1 w1.drew := below_drew (Below.refl _ _)
  exact (h1.trans (b2.mono h1.size)).trans (b3.mono (Nat.le_trans h1.size b2.size))
 have hz3 := (bb.block w.heap.size (by omega)).trans HZ.out
 have rC := (RC.out.to b2).to b3
 have t3 := (bb.cell (p := ⟨b1, o1 + 1, none⟩) (cell_lt T1.out)).trans T1.out
 have hs3 : w.heap.size + 1 ≤ w3.heap.size := Nat.le_trans hs1 bb.size
 clear b2 b3 KN KS RN RS RC HZ HC T1 bb
 by_cases h5 : numOf ((b.drop (n + 4)).take 4) ≠ sum (b.take (n + 4))
 ·have hF := hF0.out
  rw [if_pos h5] at hF
  replace hF := hide hF
  have hd5 : (((numOf ((b.drop (n + 4)).take 4) : Nat) : Int) != ((sum (b.take (n + 4)) : Nat) : Int)) = true := by
   simp only [bne_iff_ne]; omega
  clear hF0 h5 t3 rC
  have cz0 : w3.cell? ⟨w.heap.size, 0, none⟩ = some (.int .u8 0) := by rw [cell_of_row _ _ 0 _ _ (0, 0) hz3]; rfl
  have cz1 : w3.cell? ⟨w.heap.size, 1, none⟩ = some (.slice none 0 0) := by rw [cell_of_row _ _ 1 _ _ (0, 0) hz3]; rfl
  have fz0 : w3.frozen? ⟨w.heap.size, 0, none⟩ = false := frozen_of_row w3 w.heap.size 0 _ _ hz3
  have fz1 : w3.frozen? ⟨w.heap.size, 1, none⟩ = false := frozen_of_row w3 w.heap.size 1 _ _ hz3
  generalize numOf ((b.drop (n + 4)).take 4) = N at *
  generalize sum (b.take (n + 4)) = S at *
  go_wp2
  refine ret_frame rfl rfl w.heap.size rfl _ _ _ _ (heap_set2 (u := w3) hz3 _ _) _ Try.underlying157 rfl frame_info_p _ _ rfl rfl ?_
  rw [hF.out]
  exact ⟨_, rfl, World.ownsRow_nil _ _ _ _, below_set2 c3 (Nat.le_refl _) _ _⟩
 have hF := hF0.out
 rw [if_neg h5] at hF
 replace hF := hide hF
 have hd5 : (((numOf ((b.drop (n + 4)).take 4) : Nat) : Int) != ((sum (b.take (n + 4)) : Nat) : Int)) = false := by
  rw [Decidable.not_not.1 h5]; simp
 have hmk : ∀ u : World, (Instr.makeSlice 62 (.int .i64 (n : Int)) (.int .i64 (n : Int))).run Try.prog u = .ok (.slice (some ⟨u.heap.size, 0, none⟩) n n) (u.alloc (.cells (madeCells #[.int .u8 0] n) 5)) := fun u => make_octs (n := n) (by omega) u
 have om := own_made w3 n (by rw [show maxLen = 9223372036854775807 from rfl]; omega)
 obtain ⟨w4, hw4⟩ : ∃ w4, w4 = w3.alloc (.cells (madeCells #[.int .u8 0] n) 5) := ⟨_, rfl⟩
 rw [← hw4] at om
 have b4 : Below w3.heap.size w3 w4 := by rw [hw4]; exact (Below.refl _ _).alloc (Nat.le_refl _) _
 have c4 := c3.trans (b4.mono c3.size)
 have rC4 := rC.to b4
 have hz4 := (b4.block w.heap.size (by omega)).trans hz3
 have t4 := (b4.cell (p := ⟨b1, o1 + 1, none⟩) (cell_lt t3)).trans t3
 have OM := hide om
 have RC := hide rC4
 have HZ := hide hz4
 have HC := hide c4
 have T4 := hide t4
 have KEEP : Hid (∀ w5, Below w3.heap.size w4 w5 → w5.cell? ⟨b1, o1 + 1, none⟩ = some (.int .u8 (bt b 1)) ∧ w5.cell? ⟨w.heap.size, 0, none⟩ = some (.int .u8 0) ∧ w5.cell? ⟨w.heap.size, 1, none⟩ = some (.slice none 0 0) ∧ w5.frozen? ⟨w.heap.size, 0, none⟩ = false ∧ w5.frozen? ⟨w.heap.size, 1, none⟩ = false ∧ Hid (w5.heap[w.heap.size]? = some (.cells #[.int .u8 0, .slice none 0 0] 157 (0, 0))) ∧ Hid (Below w.heap.size w w5)) := by
  intro w5 hb
  have hg5 := (hb.block w.heap.size (by omega)).trans hz4
  exact ⟨(hb.cell (p := ⟨b1, o1 + 1, none⟩) (cell_lt t3)).trans t4, by rw [cell_of_row _ _ 0 _ _ (0, 0) hg5]; rfl, by rw [cell_of_row _ _ 1 _ _ (0, 0) hg5]; rfl, frozen_of_row _ _ 0 _ _ hg5, frozen_of_row _ _ 1 _ _ hg5, hg5, c4.trans (hb.mono (by omega))⟩
 have hdl : ((b.drop 4).take n).length = n := by simp; omega
 have ho : over (List.replicate n 0) ((b.drop 4).take n) = (b.drop 4).take n := over_all (by rw [hdl]; simp)
 have HO := hide ho
 have HDL := hide hdl
 have q1 : (1 : Int) < (b.length : Int) := by omega
 have y6 : (4 : Int) ≤ (n : Int) + 4 := by omega
 have y7 : ¬ cap = 4 := by omega
 clear hF0 h5 t3 t4 rC rC4 hz3 hz4 c3 c4 b4 om ho hdl
 generalize numOf ((b.drop (n + 4)).take 4) = N at *
 generalize sum (b.take (n + 4)) = S at *
 obtain ⟨w5, hrun, o5, b5, _⟩ := run_copy_octs 3 OM.out RC.out
 rw [HO.out] at o5
 rw [HDL.out, hw4] at hrun
 have hmn : Nat.min n (List.replicate n (0 : UInt8)).length = n := by simp
 rw [hmn] at hrun
 obtain ⟨k1, k2, k3, k4, k5, K6, K7⟩ := KEEP.out w5 b5
 have hsz5 : w.heap.size < w3.heap.size := by omega
 have O6 := hide (own_set (own_set o5 (g := w.heap.size) hsz5 0 (.int .u8 (bt b 1))) (g := w.heap.size) hsz5 1 (.slice (some ⟨w3.heap.size, 0, none⟩) n n))
 replace hw4 := hide hw4
 clear OM RC HZ HC T4 KEEP b5 hmn o5
 go_wp2
 refine ret_frame rfl rfl w.heap.size rfl _ _ _ _ (heap_set2 K6.out _ _) _ Try.underlying157 rfl frame_info_p _ _ rfl rfl ?_
 rw [hF.out]
 exact ⟨_, rfl, O6.out.mono (by omega), below_set2 K7.out (Nat.le_refl _) _ _⟩
end Go.Proofs.Ytjjicajodjophaa

namespace Go.Proofs.Ytjjicajodjophaa
end Go.Proofs.Ytjjicajodjophaa

namespace Go.Proofs.Ytjjicajodjophaa
open Go.ChangeShapes Go.WideShapes Go.ChangeAt Go.RowKit
theorem own : ownKnob Try.prog.godebug = none := by kernel_rfl
theorem laidOut : laidOutB Try.prog = true := by kernel_rfl
theorem bytes8 : Try.prog.bytesOf 5 = 1 := by kernel_rfl
def octs (zs : List Int) : List UInt8 := zs.map fun z => UInt8.ofNat z.toNat
theorem bt_octs {zs : List Int} (hw : ∀ n ∈ zs, (Lit.int .u8 n).wf = true) {len i : Nat} (h : i < len) (hl : len ≤ zs.length) : bt (octs (zs.take len)) i = zs.getD i 0 := by
 have hi : i < zs.length := by omega
 have hb : 0 ≤ zs[i] ∧ zs[i] ≤ 255 := by
  have := hw zs[i] (List.getElem_mem hi)
  simpa [Lit.wf, IntKind.min, IntKind.max, IntKind.signed, IntKind.bits] using this
 have e : (octs (zs.take len)).getD i 0 = UInt8.ofNat zs[i].toNat := by
  simp [octs, h, hi]
 unfold bt
 rw [e, UInt8.toNat_ofNat_of_lt' (by show _ < 256; omega)]
 simp [hi]; omega
theorem open_octs {H : Type} {enc : TypeId × Value → H} {W : World} {a : Option Addr} {len cap : Nat} {d : DataW H} {p : List MemPlace}
  (h : DataW.Trod enc Try.prog W 0 (fun _ => true) true 62 (.slice a len cap) d p) :
  ∃ xs : List UInt8, xs.length = len ∧ Rd W (.slice a len cap) xs ∧ (len = 0 ∨ ∃ el sp, d = .slice el sp ∧ el.length = len) := by
 obtain ⟨fuel, hf⟩ := h
 rcases open_ints Try.underlying62 Try.underlying5 (by kernel_rfl) hf with ⟨hcs, _⟩ | ⟨x, l, c, zs, hcs, _, hl, hm, hz, hx, hcell, hwz⟩
 ·simp [Value.cells] at hcs
  obtain ⟨rfl, rfl, rfl⟩ := hcs
  exact ⟨[], rfl, ⟨none, 0, rfl, Nat.le_refl _, Nat.zero_le _, fun _ => rfl, .inl rfl⟩, .inl rfl⟩
 ·simp [Value.cells] at hcs
  obtain ⟨rfl, rfl, rfl⟩ := hcs
  simp only [if_true] at hz
  simp only [Prod.mk.injEq] at hx
  have el : (octs (zs.take len)).length = len := by simp [octs]; omega
  refine ⟨octs (zs.take len), el, ⟨some x, cap, by rw [el], by rw [el]; exact hl, hm, (fun h => by cases h), ?_⟩, .inr ⟨_, _, hx.1, by simp [lits]; omega⟩⟩
  by_cases h0 : len = 0
  ·left; exact List.eq_nil_of_length_eq_zero (by rw [el]; exact h0)
  ·right
   obtain ⟨b, off, spot⟩ := x
   have hc := hcell 0 (by omega)
   have hspot : spot = none := by simpa [Addr.add] using World.cell?_spot hc
   subst hspot
   refine ⟨b, off, rfl, fun i hi => ?_⟩
   rw [el] at hi
   have := hcell i (by omega)
   rw [bt_octs hwz hi (by omega), ← this]
   by_cases hi0 : i = 0
   ·subst hi0; simp [Addr.add]
   ·simp [Addr.add, hi0]
theorem bulk_pos {H : Type} (d : DataW H) : 1 ≤ Rows.uptoBulk d := by
 cases d with
 | lit l => cases l <;> simp [Rows.uptoBulk]
 | nil => simp [Rows.uptoBulk]
 | ptr d => simp [Rows.uptoBulk]
 | slice el sp => simp [Rows.uptoBulk]
 | agg ps => simp [Rows.uptoBulk]
 | iface t d => simp [Rows.uptoBulk]
 | map es => simp [Rows.uptoBulk]
 | held h => simp [Rows.uptoBulk]
theorem bulk_len {H : Type} (l : List (DataW H)) : l.length ≤ Rows.uptoBulkAll l := by
 induction l with
 | nil => simp [Rows.uptoBulkAll]
 | cons x r ih => have := bulk_pos x; simp only [Rows.uptoBulkAll, List.length_cons]; omega
end Go.Proofs.Ytjjicajodjophaa
