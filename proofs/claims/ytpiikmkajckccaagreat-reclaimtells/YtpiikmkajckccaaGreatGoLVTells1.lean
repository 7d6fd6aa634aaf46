/- Several texts in one: App Shp Cpy DMath RefPut Sub Bx RMid NMath NBase NSizeR NCheckR NPA NSame RSched Step Tail NOf NEq NSplitR NPB NPC NRr NRMath NPD NDMath NDecR TBase TPA TPgR TNumR TPrR TMath NRow NDecS TMap NPE NPF Keep TPrO TWkB. -/
import Derived.Test.YtpiikmkajckccaaGreatGoLVTells0
import Derived.Deep.AppendLies
import Derived.Deep.WholeRow
import Derived.Laws.CopyOwn
import Derived.Laws.IdiomStrings
import Derived.StillTail
import Derived.OrdersHeld
import Derived.Deep.QuietTactic
import Derived.BigQuiet
import Derived.Laws.Cover1
import Derived.Laws.AppendOwnNone
import Derived.Deep.RegionLaw
import Derived.StillTailTactics
import Derived.Lib.AppendStr
import Derived.Laws.StructEq
import Derived.Maps.OwnSet
import Derived.WalkMore
import Derived.ScopeJumps
set_option linter.unusedVariables false
set_option linter.unusedSimpArgs false
namespace Go.Proofs.YtpiikmkajckccaaGreat
open Go.RowKit
theorem OwnB.from {B : Nat} {w : World} {v : Value} {xs : List UInt8} (h : OwnB B w v xs) : ∀ k, v.ownBlock = some k → B ≤ k := by
 intro k hk
 rcases h.2 with ⟨rfl, _⟩ | ⟨g, cap, cur, rfl, hb, _⟩
 ·cases hk
 ·simp only [Value.ownBlock, Option.some.injEq] at hk
  omega
theorem wpList_append_octs {ops : Array Oper} {rest : List Oper} {o : Oper} {a : Act} {w : World} {Q : Exit → Act → World → Prop} (hgd : o.guard = none) (s x : Operand)
  (ho : o.op = .call { callee := .builtin .append, args := #[s, x], argTypes := #[42, 42] }) (B : Nat) (v v2 : Value) (xs ys : List UInt8) (hs : a.eval s = v) (hx : a.eval x = v2)
  (hown : OwnB B w v xs) (hrd : Rd w v2 ys) (hlen : xs.length + ys.length ≤ 140737488355328) (hB : B ≤ w.heap.size)
  (h : ∀ v' w', OwnB B w' v' (xs ++ ys) → Below B w w' → w.grownBy w' v.ownBlock → wpList Tryz.prog ops Q rest (a.put o.dst v') w') : wpList Tryz.prog ops Q (o :: rest) a w := by
 obtain ⟨i0, hi, hz0, hz1, hz2⟩ := info_parts info8
 obtain ⟨ao, c, rfl, l1, m1, n1, r1⟩ := hrd
 cases ao with
 | none =>
  have : ys = [] := by
   rcases r1 with r1 | ⟨b, off, h, _⟩
   ·exact r1
   ·cases h
  subst this
  obtain rfl : c = 0 := n1 rfl
  refine wpList_append_own_none hgd s x 42 ho B 5 i0 1 Tryz.underlying42 hi v xs.length (xs.map enc) hs hown hx ?_
  exact h v w (by simpa using hown) (Below.refl _ _) (World.grownBy.refl _ _)
 | some ad =>
  have e1 : (ys.map enc).length = ys.length * 1 := by simp
  have e2 : ∀ j u, (ys.map enc)[j]? = some u → w.cell? (ad.add j) = some u := by
   rcases r1 with rfl | ⟨b, off, h, hc⟩
   ·intro j u hj; simp at hj
   ·obtain rfl : ad = ⟨b, off, none⟩ := by simpa using h
    exact news_octs hc
  refine wpList_append_own _ hgd s x 42 ho B 5 i0 (.int .u8 0) 1 1 Tryz.underlying42 hi hz0 hz1 hz2 rfl (by decide) v xs.length (xs.map enc) hs hown ad ys.length c (ys.map enc) hx e1 e2 (enc_one ys)
   (by rw [show maxLen = 9223372036854775807 from rfl]; omega) (by omega) hB ?_
  intro v' w' h1 h2 _
  refine h v' w' ?_ ((Below.refl _ _).grown h2 hB hown.from) h2
  unfold OwnB
  simpa using h1
end Go.Proofs.YtpiikmkajckccaaGreat

namespace Go.Proofs.YtpiikmkajckccaaGreat
open Go.RowKit
structure Shp (α : Type) where
 n : Nat
 rd : World → List Value → α → Prop
 own : List Nat → World → List Value → α → Prop
 rd_n : ∀ {w cs x}, rd w cs x → cs.length = n
 rd_to : ∀ {w w' : World} {cs x}, rd w cs x → (∀ b, b < w.heap.size → w'.heap[b]? = w.heap[b]?) → rd w' cs x
 rd_one : ∀ {w cs x}, rd w cs x → ∀ u ∈ cs, u.oneCell' = true
 own_rd : ∀ {F w cs x}, own F w cs x → rd w cs x
 own_to : ∀ {F} {w w' : World} {cs x}, own F w cs x → (∀ b, b ∈ F → w'.heap[b]? = w.heap[b]?) → own F w' cs x
 own_lt : ∀ {F w cs x}, own F w cs x → ∀ b, b ∈ F → b < w.heap.size
def Own {α : Type} (s : Shp α) (B : Nat) (w : World) (cs : List Value) (x : α) : Prop := ∃ F, s.own F w cs x ∧ F.Nodup ∧ ∀ b, b ∈ F → B ≤ b
theorem heap_set2 {u : World} {g : Nat} {a b : Value} {t : TypeId} {fr : Nat × Nat} (h : u.heap[g]? = some (.cells #[a, b] t fr)) (x y : Value) : ((u.setCell ⟨g, 0, none⟩ x).setCell ⟨g, 1, none⟩ y).heap[g]? = some (.cells #[x, y] t fr) := by
 simp [World.setCell, Array.getElem?_modify, h]
theorem below_set2 {B : Nat} {w u : World} (h : Below B w u) {g : Nat} (hg : B ≤ g) (x y : Value) : Below B w ((u.setCell ⟨g, 0, none⟩ x).setCell ⟨g, 1, none⟩ y) :=
 (h.setCell (p := ⟨g, 0, none⟩) hg x).setCell (p := ⟨g, 1, none⟩) hg y
section
variable {α β : Type}
theorem Shp.to (s : Shp α) {w w' : World} {cs : List Value} {x : α} (h : s.rd w cs x) {B : Nat} (hB : w.heap.size ≤ B) (hb : Below B w w') : s.rd w' cs x :=
 s.rd_to h fun b hb' => hb.block b (by omega)
theorem Shp.to0 (s : Shp α) {w w' : World} {cs : List Value} {x : α} (h : s.rd w cs x) (hb : Below w.heap.size w w') : s.rd w' cs x := s.to h (Nat.le_refl _) hb
theorem Own.rd {s : Shp α} {B : Nat} {w : World} {cs : List Value} {x : α} (h : Own s B w cs x) : s.rd w cs x := let ⟨_, h, _⟩ := h; s.own_rd h
theorem Own.mono {s : Shp α} {B C : Nat} {w : World} {cs : List Value} {x : α} (h : Own s B w cs x) (hC : C ≤ B) : Own s C w cs x :=
 let ⟨F, h1, h2, h3⟩ := h; ⟨F, h1, h2, fun b hb => Nat.le_trans hC (h3 b hb)⟩
theorem Own.below {s : Shp α} {B C : Nat} {w w' : World} {cs : List Value} {x : α} (h : Own s B w cs x) (hC : w.heap.size ≤ C) (hb : Below C w w') : Own s B w' cs x :=
 let ⟨F, h1, h2, h3⟩ := h; ⟨F, s.own_to h1 fun b hb' => hb.block b (by have := s.own_lt h1 b hb'; omega), h2, h3⟩
theorem Own.to {s : Shp α} {B : Nat} {w w' : World} {cs : List Value} {x : α} (h : Own s B w cs x) (hb : Below w.heap.size w w') : Own s B w' cs x := h.below (Nat.le_refl _) hb
theorem Own.grown {s : Shp α} {B : Nat} {w w' : World} {row : Option Nat} {cs : List Value} {x : α} (h : Own s B w cs x) (hg : w.grownBy w' row) (hr : ∀ k, row = some k → k < B) : Own s B w' cs x :=
 let ⟨F, h1, h2, h3⟩ := h; ⟨F, s.own_to h1 fun b hb' => hg.block b (s.own_lt h1 b hb') (fun e => by have := hr b e.symm; have := h3 b hb'; omega), h2, h3⟩
theorem Own.set {s : Shp α} {B : Nat} {w : World} {cs : List Value} {x : α} (h : Own s B w cs x) {a : Addr} (ha : a.block < B) (u : Value) : Own s B (w.setCell a u) cs x :=
 let ⟨F, h1, h2, h3⟩ := h; ⟨F, s.own_to h1 fun b hb' => Below.heap_setCell _ _ _ _ (fun e => by have := h3 b hb'; omega), h2, h3⟩
def Shp.int (k : IntKind) : Shp Int where
 n := 1
 rd _ cs x := cs = [.int k x]
 own F _ cs x := F = [] ∧ cs = [.int k x]
 rd_n h := by rw [h]; rfl
 rd_to h _ := h
 rd_one h u hu := by rw [h] at hu; simp at hu; subst hu; rfl
 own_rd h := h.2
 own_to h _ := h
 own_lt h b hb := by rw [h.1] at hb; cases hb
def Shp.bool : Shp Bool where
 n := 1
 rd _ cs x := cs = [.bool x]
 own F _ cs x := F = [] ∧ cs = [.bool x]
 rd_n h := by rw [h]; rfl
 rd_to h _ := h
 rd_one h u hu := by rw [h] at hu; simp at hu; subst hu; rfl
 own_rd h := h.2
 own_to h _ := h
 own_lt h b hb := by rw [h.1] at hb; cases hb
def Shp.octs : Shp (List UInt8) where
 n := 1
 rd w cs x := ∃ v, cs = [v] ∧ Rd w v x
 own F w cs x := ∃ v, cs = [v] ∧ OwnB 0 w v x ∧ F = v.ownBlock.toList
 rd_n h := by obtain ⟨v, rfl, _⟩ := h; rfl
 rd_to := by
  rintro w w' cs x ⟨v, rfl, ao, cap, rfl, h1, h2, h3, h4⟩ hb
  refine ⟨_, rfl, ao, cap, rfl, h1, h2, h3, ?_⟩
  rcases h4 with h4 | ⟨b, off, rfl, hc⟩
  ·exact .inl h4
  ·refine .inr ⟨b, off, rfl, fun i hi => ?_⟩
   have := hc i hi
   rw [World.cell?_of_block (w := w) (hb b (cell_lt this))]
   exact this
 rd_one := by
  rintro w cs x ⟨v, rfl, h⟩ u hu
  obtain ⟨ao, cap, rfl⟩ := h.slice
  simp at hu; subst hu; rfl
 own_rd := by rintro F w cs x ⟨v, rfl, h, _⟩; exact ⟨v, rfl, h.rd⟩
 own_to := by
  rintro F w w' cs x ⟨v, rfl, h, rfl⟩ hb
  refine ⟨v, rfl, ⟨h.1, ?_⟩, rfl⟩
  rcases h.2 with h2 | ⟨g, cap, cur, rfl, h0, hg, r⟩
  ·exact .inl h2
  ·exact .inr ⟨g, cap, cur, rfl, h0, (hb g (by simp [Value.ownBlock])).trans hg, r⟩
 own_lt := by
  rintro F w cs x ⟨v, rfl, h, rfl⟩ b hb
  exact (World.ownsRow.lt h b (by simpa using hb)).2
def Shp.pair (s : Shp α) (t : Shp β) : Shp (α × β) where
 n := s.n + t.n
 rd w cs x := ∃ c d, cs = c ++ d ∧ s.rd w c x.1 ∧ t.rd w d x.2
 own F w cs x := ∃ c d G H, cs = c ++ d ∧ F = G ++ H ∧ s.own G w c x.1 ∧ t.own H w d x.2
 rd_n := by rintro w cs x ⟨c, d, rfl, h1, h2⟩; rw [List.length_append, s.rd_n h1, t.rd_n h2]
 rd_to := by rintro w w' cs x ⟨c, d, rfl, h1, h2⟩ hb; exact ⟨c, d, rfl, s.rd_to h1 hb, t.rd_to h2 hb⟩
 rd_one := by
  rintro w cs x ⟨c, d, rfl, h1, h2⟩ u hu
  rcases List.mem_append.1 hu with h | h
  ·exact s.rd_one h1 u h
  ·exact t.rd_one h2 u h
 own_rd := by rintro F w cs x ⟨c, d, G, H, rfl, rfl, h1, h2⟩; exact ⟨c, d, rfl, s.own_rd h1, t.own_rd h2⟩
 own_to := by
  rintro F w w' cs x ⟨c, d, G, H, rfl, rfl, h1, h2⟩ hb
  exact ⟨c, d, G, H, rfl, rfl, s.own_to h1 fun b h => hb b (List.mem_append_left _ h), t.own_to h2 fun b h => hb b (List.mem_append_right _ h)⟩
 own_lt := by
  rintro F w cs x ⟨c, d, G, H, rfl, rfl, h1, h2⟩ b hb
  rcases List.mem_append.1 hb with h | h
  ·exact s.own_lt h1 b h
  ·exact t.own_lt h2 b h
theorem Own.pair {s : Shp α} {t : Shp β} {B C : Nat} {w w' : World} {c d : List Value} {x : α} {y : β} (h1 : Own s B w c x) (hb : Below w.heap.size w w') (h2 : Own t C w' d y) (hC : w.heap.size ≤ C) (hBC : B ≤ C) : Own (s.pair t) B w' (c ++ d) (x, y) := by
 obtain ⟨F, a1, a2, a3⟩ := h1
 obtain ⟨G, b1, b2, b3⟩ := h2
 refine ⟨F ++ G, ⟨c, d, F, G, rfl, rfl, s.own_to a1 fun b hb' => hb.block b (s.own_lt a1 b hb'), b1⟩, ?_, ?_⟩
 ·refine List.nodup_append.2 ⟨a2, b2, fun x hx y hy e => ?_⟩
  have q1 := s.own_lt a1 x hx
  have q2 := b3 y hy
  omega
 ·intro b hb'
  rcases List.mem_append.1 hb' with h | h
  ·exact a3 b h
  ·have := b3 b h; omega
theorem Own.fst {s : Shp α} {t : Shp β} {B : Nat} {w : World} {c d : List Value} {z : α × β} (h : Own (s.pair t) B w (c ++ d) z) (hc : c.length = s.n) : Own s B w c z.1 ∧ Own t B w d z.2 := by
 obtain ⟨F, ⟨c', d', G, H, e, rfl, h1, h2⟩, hn, hB⟩ := h
 have hl := s.rd_n (s.own_rd h1)
 obtain ⟨rfl, rfl⟩ := List.append_inj e (by rw [hc, hl])
 have := List.nodup_append.1 hn
 exact ⟨⟨G, h1, this.1, fun b hb => hB b (List.mem_append_left _ hb)⟩, ⟨H, h2, this.2.1, fun b hb => hB b (List.mem_append_right _ hb)⟩⟩
def ownEach (s : Shp α) (w : World) : List Nat → List Value → List α → Prop
 | F, cc, [] => F = [] ∧ cc = []
 | F, cc, x :: xs => ∃ F1 F2 c1 c2, F = F1 ++ F2 ∧ cc = c1 ++ c2 ∧ s.own F1 w c1 x ∧ ownEach s w F2 c2 xs
theorem ownEach_to {s : Shp α} {w w' : World} : ∀ {xs : List α} {F cc}, ownEach s w F cc xs → (∀ b, b ∈ F → w'.heap[b]? = w.heap[b]?) → ownEach s w' F cc xs
 | [], F, cc, h, _ => h
 | x :: xs, F, cc, ⟨F1, F2, c1, c2, e1, e2, h1, h2⟩, hb => ⟨F1, F2, c1, c2, e1, e2, s.own_to h1 fun b h => hb b (by rw [e1]; exact List.mem_append_left _ h), ownEach_to h2 fun b h => hb b (by rw [e1]; exact List.mem_append_right _ h)⟩
theorem ownEach_lt {s : Shp α} {w : World} : ∀ {xs : List α} {F cc}, ownEach s w F cc xs → ∀ b, b ∈ F → b < w.heap.size
 | [], F, cc, h, b, hb => by rw [h.1] at hb; cases hb
 | x :: xs, F, cc, ⟨F1, F2, c1, c2, e1, e2, h1, h2⟩, b, hb => by
  rw [e1] at hb
  rcases List.mem_append.1 hb with h | h
  ·exact s.own_lt h1 b h
  ·exact ownEach_lt h2 b h
theorem ownEach_app {s : Shp α} {w : World} : ∀ {xs ys : List α} {F G cc dd}, ownEach s w F cc xs → ownEach s w G dd ys → ownEach s w (F ++ G) (cc ++ dd) (xs ++ ys)
 | [], ys, F, G, cc, dd, h, k => by obtain ⟨rfl, rfl⟩ := h; exact k
 | x :: xs, ys, F, G, cc, dd, ⟨F1, F2, c1, c2, e1, e2, h1, h2⟩, k => ⟨F1, F2 ++ G, c1, c2 ++ dd, by rw [e1, List.append_assoc], by rw [e2, List.append_assoc], h1, ownEach_app h2 k⟩
theorem ownEach_one {s : Shp α} {w : World} {F c} {x : α} (h : s.own F w c x) : ownEach s w F c [x] := ⟨F, [], c, [], by simp, by simp, h, rfl, rfl⟩
theorem ownEach_at {s : Shp α} {w : World} : ∀ {xs : List α} {F cc} (i : Nat) (x : α), ownEach s w F cc xs → xs[i]? = some x →
  ∃ F1 F2 F3 c1 c2 c3, F = F1 ++ (F2 ++ F3) ∧ cc = c1 ++ (c2 ++ c3) ∧ c1.length = i * s.n ∧ ownEach s w F1 c1 (xs.take i) ∧ s.own F2 w c2 x ∧ ownEach s w F3 c3 (xs.drop (i + 1))
 | [], F, cc, i, x, h, hx => by simp at hx
 | y :: xs, F, cc, 0, x, ⟨F1, F2, c1, c2, e1, e2, h1, h2⟩, hx => by
  simp at hx; subst hx
  exact ⟨[], F1, F2, [], c1, c2, e1, e2, by simp, ⟨rfl, rfl⟩, h1, h2⟩
 | y :: xs, F, cc, i + 1, x, ⟨F1, F2, c1, c2, e1, e2, h1, h2⟩, hx => by
  obtain ⟨G1, G2, G3, d1, d2, d3, rfl, rfl, hl, k1, k2, k3⟩ := ownEach_at i x h2 (by simpa using hx)
  refine ⟨F1 ++ G1, G2, G3, c1 ++ d1, d2, d3, by rw [e1, List.append_assoc], by rw [e2, List.append_assoc], ?_, ⟨F1, G1, c1, d1, rfl, rfl, h1, k1⟩, k2, k3⟩
  rw [List.length_append, hl, s.rd_n (s.own_rd h1), Nat.add_mul, Nat.one_mul, Nat.add_comm]
def RdS (s : Shp α) (w : World) (v : Value) (xs : List α) : Prop :=
 ∃ ao cap, v = .slice ao xs.length cap ∧ xs.length ≤ cap ∧ cap ≤ maxLen ∧ (ao = none → cap = 0) ∧
  (xs = [] ∨ ∃ b off, ao = some ⟨b, off, none⟩ ∧ ∀ i x, xs[i]? = some x → ∃ c, s.rd w c x ∧ ∀ j u, c[j]? = some u → w.cell? ⟨b, off + i * s.n + j, none⟩ = some u)
theorem RdS.slice {s : Shp α} {w : World} {v : Value} {xs : List α} (h : RdS s w v xs) : ∃ ao cap, v = .slice ao xs.length cap := by
 obtain ⟨ao, cap, rfl, _⟩ := h; exact ⟨_, _, rfl⟩
theorem RdS.to {s : Shp α} {w w' : World} {v : Value} {xs : List α} (h : RdS s w v xs) {B : Nat} (hB : w.heap.size ≤ B) (hb : Below B w w') : RdS s w' v xs := by
 obtain ⟨ao, cap, rfl, h1, h2, h3, h4⟩ := h
 refine ⟨ao, cap, rfl, h1, h2, h3, ?_⟩
 rcases h4 with h4 | ⟨b, off, rfl, hc⟩
 ·exact .inl h4
 ·refine .inr ⟨b, off, rfl, fun i x hx => ?_⟩
  obtain ⟨c, k1, k2⟩ := hc i x hx
  refine ⟨c, s.to k1 hB hb, fun j u hj => ?_⟩
  have := k2 j u hj
  rw [hb.cell (p := ⟨b, off + i * s.n + j, none⟩) (by have := cell_lt this; show b < B; omega)]
  exact this
theorem RdS.to0 {s : Shp α} {w w' : World} {v : Value} {xs : List α} (h : RdS s w v xs) (hb : Below w.heap.size w w') : RdS s w' v xs := h.to (Nat.le_refl _) hb
theorem RdS.nil (s : Shp α) (w : World) : RdS s w (.slice none 0 0) [] := ⟨none, 0, rfl, Nat.le_refl _, Nat.zero_le _, fun _ => rfl, .inl rfl⟩
theorem RdS.bd {s : Shp α} {w : World} {v : Value} {xs : List α} (h : RdS s w v xs) : xs.length ≤ 9223372036854775807 := by
 obtain ⟨ao, cap, rfl, h1, h2, _⟩ := h
 rw [show maxLen = 9223372036854775807 from rfl] at h2
 omega
theorem RdS.at1 {s : Shp α} (hs : s.n = 1) {w : World} {a : Option Addr} {n cap : Nat} {xs : List α} (h : RdS s w (.slice a n cap) xs) {i : Nat} {x : α} (hx : xs[i]? = some x) :
  ∃ b off u, a = some ⟨b, off, none⟩ ∧ w.cell? ⟨b, off + i, none⟩ = some u ∧ s.rd w [u] x := by
 obtain ⟨ao, c, e, h1, h2, h3, h4⟩ := h
 cases e
 rcases h4 with rfl | ⟨b, off, rfl, hc⟩
 ·simp at hx
 ·obtain ⟨c, k1, k2⟩ := hc i x hx
  have := s.rd_n k1
  rw [hs] at this k2
  match c, this with
  | [u], _ =>
   have := k2 0 u rfl
   rw [Nat.mul_one, Nat.add_zero] at this
   exact ⟨b, off, u, rfl, this, k1⟩
theorem RdS.at2 {s : Shp α} {t : Shp β} (hs : s.n = 1) (ht : t.n = 1) {w : World} {a : Option Addr} {n cap : Nat} {xs : List (α × β)} (h : RdS (s.pair t) w (.slice a n cap) xs) {i : Nat} {x : α × β} (hx : xs[i]? = some x) :
  ∃ b off u v, a = some ⟨b, off, none⟩ ∧ w.cell? ⟨b, off + i * 2, none⟩ = some u ∧ w.cell? ⟨b, off + i * 2 + 1, none⟩ = some v ∧ s.rd w [u] x.1 ∧ t.rd w [v] x.2 := by
 obtain ⟨ao, c, e, h1, h2, h3, h4⟩ := h
 cases e
 rcases h4 with rfl | ⟨b, off, rfl, hc⟩
 ·simp at hx
 ·obtain ⟨c, ⟨c1, c2, rfl, k1, k3⟩, k2⟩ := hc i x hx
  have e1 := s.rd_n k1
  have e2 := t.rd_n k3
  rw [show (s.pair t).n = 2 from by show s.n + t.n = 2; omega] at k2
  rw [hs] at e1
  rw [ht] at e2
  match c1, e1, c2, e2 with
  | [u], _, [v], _ => exact ⟨b, off, u, v, rfl, by simpa using k2 0 u rfl, by simpa using k2 1 v rfl, k1, k3⟩
theorem rows_at {w : World} {T n : Nat} {v : Value} {m : Nat} {cc : List Value} (h : w.ownsRow 0 T n v m cc) {g : Nat} {cap : Nat} (hv : v = .slice (some ⟨g, 0, none⟩) m cap) {j : Nat} {u : Value} (hj : cc[j]? = some u) : w.cell? ⟨g, j, none⟩ = some u := by
 subst hv
 rw [h.cellAt j (by rw [← h.1]; exact (List.getElem?_eq_some_iff.1 hj).1)]
 exact hj
def Shp.list (T : Nat) (s : Shp α) : Shp (List α) where
 n := 1
 rd w cs xs := ∃ v, cs = [v] ∧ RdS s w v xs
 own F w cs xs := ∃ v cc G, cs = [v] ∧ w.ownsRow 0 T s.n v xs.length cc ∧ ownEach s w G cc xs ∧ F = v.ownBlock.toList ++ G
 rd_n := by rintro w cs x ⟨v, rfl, _⟩; rfl
 rd_to := by
  rintro w w' cs xs ⟨v, rfl, ao, cap, rfl, h1, h2, h3, h4⟩ hb
  refine ⟨_, rfl, ao, cap, rfl, h1, h2, h3, ?_⟩
  rcases h4 with h4 | ⟨b, off, rfl, hc⟩
  ·exact .inl h4
  ·refine .inr ⟨b, off, rfl, fun i x hx => ?_⟩
   obtain ⟨c, k1, k2⟩ := hc i x hx
   refine ⟨c, s.rd_to k1 hb, fun j u hj => ?_⟩
   have := k2 j u hj
   rw [World.cell?_of_block (w := w) (hb b (cell_lt this))]
   exact this
 rd_one := by
  rintro w cs x ⟨v, rfl, h⟩ u hu
  obtain ⟨ao, cap, rfl⟩ := h.slice
  simp at hu; subst hu; rfl
 own_rd := by
  rintro F w cs xs ⟨v, cc, G, rfl, h1, h2, _⟩
  refine ⟨v, rfl, ?_⟩
  rcases h1.2 with ⟨rfl, h0⟩ | ⟨g, cap, cur, hv, hb, hg, hn, hm, _⟩
  ·rw [List.eq_nil_of_length_eq_zero h0]
   exact ⟨none, 0, rfl, Nat.le_refl _, Nat.zero_le _, fun _ => rfl, .inl rfl⟩
  ·refine ⟨_, cap, hv, hn, hm, (fun h => by cases h), .inr ⟨g, 0, rfl, fun i x hx => ?_⟩⟩
   obtain ⟨F1, F2, F3, c1, c2, c3, _, e2, hl, _, k2, _⟩ := ownEach_at i x h2 hx
   refine ⟨c2, s.own_rd k2, fun j u hj => ?_⟩
   rw [Nat.zero_add]
   refine rows_at h1 hv ?_
   have hjl : j < c2.length := (List.getElem?_eq_some_iff.1 hj).1
   rw [e2, ← hl, List.getElem?_append_right (by omega), Nat.add_sub_cancel_left, List.getElem?_append_left hjl]
   exact hj
 own_to := by
  rintro F w w' cs xs ⟨v, cc, G, rfl, h1, h2, rfl⟩ hb
  refine ⟨v, cc, G, rfl, ⟨h1.1, ?_⟩, ownEach_to h2 fun b h => hb b (List.mem_append_right _ h), rfl⟩
  rcases h1.2 with h | ⟨g, cap, cur, rfl, h0, hg, r⟩
  ·exact .inl h
  ·exact .inr ⟨g, cap, cur, rfl, h0, (hb g (by simp [Value.ownBlock])).trans hg, r⟩
 own_lt := by
  rintro F w cs xs ⟨v, cc, G, rfl, h1, h2, rfl⟩ b hb
  rcases List.mem_append.1 hb with h | h
  ·exact (World.ownsRow.lt h1 b (by simpa using h)).2
  ·exact ownEach_lt h2 b h
theorem Own.rdS {T : Nat} {s : Shp α} {B : Nat} {w : World} {v : Value} {xs : List α} (h : Own (Shp.list T s) B w [v] xs) : RdS s w v xs := by
 obtain ⟨v', e, r⟩ := h.rd
 simp at e; subst e; exact r
theorem Own.nil (T : Nat) (s : Shp α) (B : Nat) (w : World) : Own (Shp.list T s) B w [.slice none 0 0] [] :=
 ⟨[], ⟨_, [], [], rfl, World.ownsRow_nil _ _ _ _, ⟨rfl, rfl⟩, by simp [Value.ownBlock]⟩, List.nodup_nil, fun b hb => by cases hb⟩
theorem rows_base {w : World} {T n B C : Nat} {v : Value} {m : Nat} {cc : List Value} (h : w.ownsRow B T n v m cc) (hC : ∀ b, v.ownBlock = some b → C ≤ b) : w.ownsRow C T n v m cc := by
 refine ⟨h.1, ?_⟩
 rcases h.2 with h2 | ⟨g, cap, cur, rfl, h0, r⟩
 ·exact .inl h2
 ·exact .inr ⟨g, cap, cur, rfl, hC g rfl, r⟩
theorem Own.cap (T : Nat) (s : Shp α) {B : Nat} {w : World} {v : Value} (h : w.ownsRow B T s.n v 0 []) : Own (Shp.list T s) B w [v] [] := by
 refine ⟨v.ownBlock.toList, ⟨v, [], [], rfl, rows_base h fun _ _ => Nat.zero_le _, ⟨rfl, rfl⟩, by simp⟩, ?_, fun b hb => (World.ownsRow.lt h b (by simpa using hb)).1⟩
 cases v.ownBlock <;> simp
def OwnF (s : Shp α) (F : List Nat) (w : World) (cs : List Value) (x : α) : Prop := s.own F w cs x ∧ F.Nodup
theorem OwnF.own {s : Shp α} {F : List Nat} {B : Nat} {w : World} {cs : List Value} {x : α} (h : OwnF s F w cs x) (hB : ∀ b, b ∈ F → B ≤ b) : Own s B w cs x := ⟨F, h.1, h.2, hB⟩
theorem OwnF.rd {s : Shp α} {F : List Nat} {w : World} {cs : List Value} {x : α} (h : OwnF s F w cs x) : s.rd w cs x := s.own_rd h.1
theorem OwnF.lt {s : Shp α} {F : List Nat} {w : World} {cs : List Value} {x : α} (h : OwnF s F w cs x) : ∀ b, b ∈ F → b < w.heap.size := s.own_lt h.1
theorem OwnF.keep {s : Shp α} {F : List Nat} {w w' : World} {cs : List Value} {x : α} (h : OwnF s F w cs x) (hb : ∀ b, b ∈ F → w'.heap[b]? = w.heap[b]?) : OwnF s F w' cs x := ⟨s.own_to h.1 hb, h.2⟩
theorem OwnF.to {s : Shp α} {F : List Nat} {w w' : World} {cs : List Value} {x : α} (h : OwnF s F w cs x) (hb : Below w.heap.size w w') : OwnF s F w' cs x := h.keep fun b hb' => hb.block b (h.lt b hb')
theorem OwnF.set {s : Shp α} {F : List Nat} {w : World} {cs : List Value} {x : α} (h : OwnF s F w cs x) {a : Addr} (ha : a.block ∉ F) (u : Value) : OwnF s F (w.setCell a u) cs x :=
 h.keep fun b hb' => Below.heap_setCell _ _ _ _ (fun e => ha (by rw [← e]; exact hb'))
theorem OwnF.split {s : Shp α} {t : Shp β} {F : List Nat} {w : World} {c d : List Value} {z : α × β} (h : OwnF (s.pair t) F w (c ++ d) z) (hc : c.length = s.n) :
  ∃ F1 F2, F = F1 ++ F2 ∧ OwnF s F1 w c z.1 ∧ OwnF t F2 w d z.2 ∧ ∀ b, b ∈ F1 → b ∉ F2 := by
 obtain ⟨⟨c', d', G, H, e, rfl, h1, h2⟩, hn⟩ := h
 have hl := s.rd_n (s.own_rd h1)
 obtain ⟨rfl, rfl⟩ := List.append_inj e (by rw [hc, hl])
 have := List.nodup_append.1 hn
 exact ⟨G, H, rfl, ⟨h1, this.1⟩, ⟨h2, this.2.1⟩, fun b hb hb' => this.2.2 b hb b hb' rfl⟩
theorem OwnF.grow {T : Nat} {s : Shp α} {F : List Nat} {w : World} {v : Value} {xs : List α} (h : OwnF (Shp.list T s) F w [v] xs) :
  ∃ cc, w.ownsRow 0 T s.n v xs.length cc ∧ (∀ b, v.ownBlock = some b → b ∈ F) ∧ ∀ (w1 w2 w3 : World) (c : List Value) (x : α) (g cap : Nat), Below w.heap.size w w1 → Own s w.heap.size w1 c x → Below w1.heap.size w1 w2 → w2.grownBy w3 v.ownBlock →
   w3.ownsRow 0 T s.n (.slice (some ⟨g, 0, none⟩) (xs.length + 1) cap) (xs.length + 1) (cc ++ c) → (v.ownBlock = some g ∨ g = w2.heap.size) →
   ∃ F', OwnF (Shp.list T s) F' w3 [.slice (some ⟨g, 0, none⟩) (xs.length + 1) cap] (xs ++ [x]) ∧ ∀ b, b ∈ F' → b ∈ F ∨ w.heap.size ≤ b := by
 obtain ⟨⟨v', cc, G, e, h1, h2, rfl⟩, hn⟩ := h
 simp at e; subst e
 refine ⟨cc, h1, fun b hb => by simp [hb], ?_⟩
 intro w1 w2 w3 c x g cap b1 he b2 hg hr hat
 obtain ⟨F2, k1, k2, k3⟩ := he
 have lt1 := ownEach_lt h2
 have hn' := List.nodup_append.1 hn
 have ng : g ∉ G := by
  intro hgG
  rcases hat with hat | rfl
  ·exact hn'.2.2 g (by simp [hat]) g hgG rfl
  ·have := lt1 _ hgG; have := b1.size; have := b2.size; omega
 have ng2 : g ∉ F2 := by
  intro hgF
  have q := k3 g hgF
  rcases hat with hat | rfl
  ·have := (World.ownsRow.lt h1 g hat).2; omega
  ·have := s.own_lt k1 _ hgF; have := b2.size; omega
 refine ⟨(g :: (G ++ F2)), ⟨⟨_, cc ++ c, G ++ F2, rfl, ?_, ?_, rfl⟩, ?_⟩, ?_⟩
 ·rw [List.length_append]; exact hr
 ·refine ownEach_app (ownEach_to h2 fun b hb => ?_) (ownEach_one (s.own_to k1 fun b hb => ?_))
  ·rw [hg.block b (by have := lt1 b hb; have := b1.size; have := b2.size; omega) (fun e => hn'.2.2 b (by simp [← e]) b hb rfl), b2.block b (by have := lt1 b hb; have := b1.size; omega), b1.block b (lt1 b hb)]
  ·rw [hg.block b (by have := s.own_lt k1 b hb; have := b2.size; omega) (fun e => by have := (World.ownsRow.lt h1 b e.symm).2; have := k3 b hb; omega), b2.block b (s.own_lt k1 b hb)]
 ·refine List.nodup_cons.2 ⟨fun hm => ?_, List.nodup_append.2 ⟨hn'.2.1, k2, fun a ha b hb e => ?_⟩⟩
  ·rcases List.mem_append.1 hm with q | q
   ·exact ng q
   ·exact ng2 q
  ·have := lt1 a ha; have := k3 b hb; omega
 ·intro b hb
  rcases List.mem_cons.1 hb with rfl | hb
  ·rcases hat with hat | rfl
   ·left; simp [hat]
   ·right; have := b1.size; have := b2.size; omega
  ·rcases List.mem_append.1 hb with q | q
   ·left; simp [q]
   ·right; exact k3 b q
theorem rows_to {w w' : World} {B T n : Nat} {v : Value} {m : Nat} {cc : List Value} (h : w.ownsRow B T n v m cc) (hb : Below w.heap.size w w') : w'.ownsRow B T n v m cc := by
 refine ⟨h.1, ?_⟩
 rcases h.2 with h2 | ⟨g, cap, cur, e, h0, hg, r⟩
 ·exact .inl h2
 ·exact .inr ⟨g, cap, cur, e, h0, (hb.block g (lt_of_block hg)).trans hg, r⟩
theorem lit_of {T n : Nat} {s : Shp α} {F : List Nat} {w : World} {v : Value} {cc : List Value} {R : World → List Nat → Value → α → Prop} (hrow : w.ownsRow 0 T s.n v n cc) (hm : ∀ b, v.ownBlock = some b → b ∈ F)
  (k3 : ∀ (w1 w2 w3 : World) (c : List Value) (x : α) (g cap : Nat), Below w.heap.size w w1 → Own s w.heap.size w1 c x → Below w1.heap.size w1 w2 → w2.grownBy w3 v.ownBlock →
   w3.ownsRow 0 T s.n (.slice (some ⟨g, 0, none⟩) (n + 1) cap) (n + 1) (cc ++ c) → (v.ownBlock = some g ∨ g = w2.heap.size) → ∃ F', R w3 F' (.slice (some ⟨g, 0, none⟩) (n + 1) cap) x ∧ ∀ b, b ∈ F' → b ∈ F ∨ w.heap.size ≤ b) :
  (∀ u, Below w.heap.size w u → u.ownsRow 0 T s.n v n cc) ∧ ∀ (w2 : World) (c : List Value) (x : α) (T' : Nat) (w3 w5 : World) (g cap : Nat), Below w.heap.size w w2 → Own s w.heap.size w2 c x → w3.heap = (w2.alloc (.cells c.toArray T')).heap → w3.os = w2.os → w3.tape = w2.tape → w3.output = w2.output → w3.grownBy w5 v.ownBlock →
   w5.ownsRow 0 T s.n (.slice (some ⟨g, 0, none⟩) (n + 1) cap) (n + 1) (cc ++ c) → (v.ownBlock = some g ∨ g = w2.heap.size + 1) →
   (∃ F', R w5 F' (.slice (some ⟨g, 0, none⟩) (n + 1) cap) x ∧ ∀ b, b ∈ F' → b ∈ F ∨ w.heap.size ≤ b) ∧ (∀ B, (∀ b, b ∈ F → B ≤ b) → B ≤ w.heap.size → Below B w w5) ∧ ∀ b, b < w.heap.size → b ∉ F → w5.heap[b]? = w.heap[b]? := by
 refine ⟨fun u hu => rows_to hrow hu, ?_⟩
 intro w2 c x T' w3 w5 g cap b1 he hh h1 h2 h3 hg hr hat
 have hsz : w3.heap.size = w2.heap.size + 1 := by rw [hh]; simp
 have b2 : Below w2.heap.size w2 w3 := ⟨h1, h2, h3, by omega, fun k hk => by rw [hh]; exact Below.heap_alloc _ _ _ hk⟩
 refine ⟨k3 w2 w3 w5 c x g cap b1 he b2 hg hr (by rw [hsz]; exact hat), fun B hF hB => ?_, fun b hb hnb => ?_⟩
 ·exact (((b1.mono hB).trans (b2.mono (by have := b1.size; omega)))).grown hg (by have := b1.size; omega) (fun k hk => hF k (hm k hk))
 ·have := b1.size
  rw [hg.block b (by omega) (fun e => hnb (hm b e.symm)), b2.block b (by omega), b1.block b hb]
theorem OwnF.lit {T n : Nat} {s : Shp α} {F : List Nat} {w : World} {v : Value} {xs : List α} (h : OwnF (Shp.list T s) F w [v] xs) (hn : xs.length = n) : ∃ cc,
  (∀ u, Below w.heap.size w u → u.ownsRow 0 T s.n v n cc) ∧ ∀ (w2 : World) (c : List Value) (x : α) (T' : Nat) (w3 w5 : World) (g cap : Nat), Below w.heap.size w w2 → Own s w.heap.size w2 c x → w3.heap = (w2.alloc (.cells c.toArray T')).heap → w3.os = w2.os → w3.tape = w2.tape → w3.output = w2.output → w3.grownBy w5 v.ownBlock →
   w5.ownsRow 0 T s.n (.slice (some ⟨g, 0, none⟩) (n + 1) cap) (n + 1) (cc ++ c) → (v.ownBlock = some g ∨ g = w2.heap.size + 1) →
   (∃ F', OwnF (Shp.list T s) F' w5 [.slice (some ⟨g, 0, none⟩) (n + 1) cap] (xs ++ [x]) ∧ ∀ b, b ∈ F' → b ∈ F ∨ w.heap.size ≤ b) ∧ (∀ B, (∀ b, b ∈ F → B ≤ b) → B ≤ w.heap.size → Below B w w5) ∧ ∀ b, b < w.heap.size → b ∉ F → w5.heap[b]? = w.heap[b]? := by
 subst hn
 obtain ⟨cc, k1, k2, k3⟩ := h.grow
 exact ⟨cc, lit_of (R := fun w5 F' v' x => OwnF (Shp.list T s) F' w5 [v'] (xs ++ [x])) k1 k2 k3⟩
theorem set_take_drop (xs : List α) (i : Nat) (x : α) (hi : i < xs.length) : xs.set i x = xs.take i ++ ([x] ++ xs.drop (i + 1)) := by
 rw [List.set_eq_take_append_cons_drop, if_pos hi]; rfl
theorem OwnF.at {T : Nat} {s : Shp α} {F : List Nat} {w : World} {v : Value} {xs : List α} (h : OwnF (Shp.list T s) F w [v] xs) {i : Nat} {x : α} (hx : xs[i]? = some x) :
  ∃ g cap F2 c, v = .slice (some ⟨g, 0, none⟩) xs.length cap ∧ xs.length ≤ cap ∧ cap ≤ maxLen ∧ g ∈ F ∧ s.own F2 w c x ∧ (∀ b, b ∈ F2 → b ∈ F ∧ b ≠ g) ∧ (∀ j u, c[j]? = some u → w.cell? ⟨g, i * s.n + j, none⟩ = some u) ∧
   ∀ w' x', s.own F2 w' c x' → (∀ b, b ∈ F → b ∉ F2 → w'.heap[b]? = w.heap[b]?) → OwnF (Shp.list T s) F w' [v] (xs.set i x') := by
 have hi : i < xs.length := (List.getElem?_eq_some_iff.1 hx).1
 obtain ⟨⟨v', cc, G, e, h1, h2, rfl⟩, hn⟩ := h
 simp at e; subst e
 obtain ⟨F1, F2, F3, c1, c2, c3, e1, e2, hl, k1, k2, k3⟩ := ownEach_at i x h2 hx
 have hn' := List.nodup_append.1 hn
 have hG := hn'.2.1
 rw [e1] at hG
 have hG1 := List.nodup_append.1 hG
 have hG2 := List.nodup_append.1 hG1.2.1
 rcases h1.2 with ⟨rfl, h0⟩ | ⟨g, cap, cur, hv, hb, hg, hnn, hm, _⟩
 ·omega
 have nF2 : ∀ b, b ∈ F2 → b ∈ G := fun b hb => by rw [e1]; simp [hb]
 refine ⟨g, cap, F2, c2, hv, hnn, hm, by simp [hv, Value.ownBlock], k2, fun b hb => ⟨by simp [nF2 b hb], fun e => hn'.2.2 g (by simp [hv, Value.ownBlock]) g (by rw [← e]; exact nF2 b hb) rfl⟩, fun j u hj => ?_, fun w' x' ho hk => ⟨⟨v, cc, G, rfl, ?_, ?_, rfl⟩, hn⟩⟩
 ·have hjl : j < c2.length := (List.getElem?_eq_some_iff.1 hj).1
  refine rows_at h1 hv ?_
  rw [e2, ← hl, List.getElem?_append_right (by omega), Nat.add_sub_cancel_left, List.getElem?_append_left hjl]
  exact hj
 ·rw [List.length_set]
  refine ⟨h1.1, ?_⟩
  rcases h1.2 with h | ⟨g', cap', cur', e', h0', hg', r⟩
  ·exact .inl h
  ·refine .inr ⟨g', cap', cur', e', h0', (hk g' (by simp [e', Value.ownBlock]) fun hm => ?_).trans hg', r⟩
   exact hn'.2.2 g' (by simp [e', Value.ownBlock]) g' (nF2 g' hm) rfl
 ·rw [set_take_drop xs i x' hi, e1, e2]
  refine ownEach_app (ownEach_to k1 fun b hb => hk b (by rw [e1]; simp [hb]) fun hm => ?_) (ownEach_app (ownEach_one ho) (ownEach_to k3 fun b hb => hk b (by rw [e1]; simp [hb]) fun hm => ?_))
  ·exact hG1.2.2 b hb b (by simp [hm]) rfl
  ·exact hG2.2.2 b hm b hb rfl
theorem Own.store {T : Nat} {s : Shp α} {B : Nat} {w : World} {v : Value} {xs : List α} (h : Own (Shp.list T s) B w [v] xs) (hs : s.n = 1) (hBw : B ≤ w.heap.size) {i : Nat} (hi : i < xs.length) :
  ∃ g cap, v = .slice (some ⟨g, 0, none⟩) xs.length cap ∧ xs.length ≤ cap ∧ B ≤ g ∧ g < w.heap.size ∧ w.frozen? ⟨g, i, none⟩ = false ∧ (∃ u0, w.cell? ⟨g, i, none⟩ = some u0) ∧
   ∀ w1 u x', Below w.heap.size w w1 → Own s w.heap.size w1 [u] x' → Own (Shp.list T s) B (w1.setCell ⟨g, i, none⟩ u) [v] (xs.set i x') := by
 obtain ⟨x, hx⟩ : ∃ x, xs[i]? = some x := ⟨_, List.getElem?_eq_getElem hi⟩
 obtain ⟨F, ⟨v', cc, G, e, h1, h2, rfl⟩, hn, hB⟩ := h
 simp at e; subst e
 obtain ⟨F1, F2, F3, c1, c2, c3, e1, e2, hl, k1, k2, k3⟩ := ownEach_at i x h2 hx
 have hn' := List.nodup_append.1 hn
 have hG := hn'.2.1
 rw [e1] at hG
 have hG1 := List.nodup_append.1 hG
 have hG2 := List.nodup_append.1 hG1.2.1
 rcases h1.2 with ⟨rfl, h0⟩ | ⟨g, cap, cur, hv, hb, hg, hnn, hm, _⟩
 ·omega
 subst hv
 have hgl := lt_of_block hg
 have hl2 : c2.length = 1 := by rw [s.rd_n (s.own_rd k2), hs]
 obtain ⟨u0, rfl⟩ : ∃ u0, c2 = [u0] := by
  match c2, hl2 with
  | [u0], _ => exact ⟨u0, rfl⟩
 rw [hs, Nat.mul_one] at hl
 refine ⟨g, cap, rfl, hnn, hB g (by simp [Value.ownBlock]), hgl, h1.frozenAt i, ⟨u0, rows_at h1 rfl (by rw [e2, List.getElem?_append_right (by omega), hl]; simp)⟩, fun w1 u x' b1 ho => ?_⟩
 obtain ⟨F2', o1, o2, o3⟩ := ho
 have h1' : w1.ownsRow 0 T s.n (.slice (some ⟨g, 0, none⟩) xs.length cap) xs.length cc := by
  refine ⟨h1.1, ?_⟩
  rcases h1.2 with h | ⟨g', cap', cur', e', h0', hg', r⟩
  ·exact .inl h
  ·exact .inr ⟨g', cap', cur', e', h0', (b1.block g' (lt_of_block hg')).trans hg', r⟩
 have hst := h1'.stored i u
 have other : ∀ b, b ≠ g → (w1.setCell ⟨g, i, none⟩ u).heap[b]? = w1.heap[b]? := fun b hb => Below.heap_setCell _ _ _ _ hb
 have gG : g ∉ G := fun hm => hn'.2.2 g (by simp [Value.ownBlock]) g hm rfl
 refine ⟨g :: (F1 ++ (F2' ++ F3)), ⟨_, cc.set i u, F1 ++ (F2' ++ F3), rfl, ?_, ?_, rfl⟩, ?_, ?_⟩
 ·rw [List.length_set]; exact hst.1
 ·rw [set_take_drop xs i x' hi, e2]
  have ec : (c1 ++ ([u0] ++ c3)).set i u = c1 ++ ([u] ++ c3) := by
   rw [← hl, List.set_append_right _ _ (Nat.le_refl _), Nat.sub_self]; rfl
  rw [ec]
  refine ownEach_app (ownEach_to k1 fun b hb => ?_) (ownEach_app (ownEach_one (s.own_to o1 fun b hb => ?_)) (ownEach_to k3 fun b hb => ?_))
  ·rw [other b (fun e => gG (by rw [e1, ← e]; simp [hb])), b1.block b (ownEach_lt k1 b hb)]
  ·exact other b (fun e => by have := o3 b hb; omega)
  ·rw [other b (fun e => gG (by rw [e1, ← e]; simp [hb])), b1.block b (ownEach_lt k3 b hb)]
 ·refine List.nodup_cons.2 ⟨fun hm => ?_, List.nodup_append.2 ⟨hG1.1, List.nodup_append.2 ⟨o2, hG2.2.1, fun a ha b hb e => ?_⟩, fun a ha b hb e => ?_⟩⟩
  ·simp only [List.mem_append] at hm
   rcases hm with hm | hm | hm
   ·exact gG (by rw [e1]; simp [hm])
   ·have := o3 g hm; omega
   ·exact gG (by rw [e1]; simp [hm])
  ·have := o3 a ha; have := ownEach_lt k3 b hb; omega
  ·rcases List.mem_append.1 hb with hb | hb
   ·have := o3 b hb; have := ownEach_lt k1 a ha; omega
   ·exact hG1.2.2 a ha b (by simp [hb]) e
 ·intro b hb
  simp only [List.mem_cons, List.mem_append] at hb
  rcases hb with rfl | hb | hb | hb
  ·exact hB b (by simp [Value.ownBlock])
  ·exact hB b (by rw [e1]; simp [hb])
  ·have := o3 b hb; omega
  ·exact hB b (by rw [e1]; simp [hb])
theorem Own.made {T : Nat} {s : Shp α} {B : Nat} {w : World} {v : Value} {n : Nat} {u0 : Value} {x0 : α} (hs : ∀ w, s.own [] w [u0] x0) (h : w.ownsRow B T s.n v n (List.replicate n u0)) : Own (Shp.list T s) B w [v] (List.replicate n x0) := by
 have each : ∀ n, ownEach s w [] (List.replicate n u0) (List.replicate n x0) := by
  intro n
  induction n with
  | zero => exact ⟨rfl, rfl⟩
  | succ n ih => exact ⟨[], [], [u0], List.replicate n u0, rfl, rfl, hs w, ih⟩
 refine ⟨v.ownBlock.toList, ⟨v, _, [], rfl, ?_, each n, by simp⟩, ?_, fun b hb => (World.ownsRow.lt h b (by simpa using hb)).1⟩
 ·rw [List.length_replicate]; exact rows_base h fun _ _ => Nat.zero_le _
 ·cases v.ownBlock <;> simp
end
end Go.Proofs.YtpiikmkajckccaaGreat

namespace Go.Proofs.YtpiikmkajckccaaGreat
open Go.RowKit
def over (xs ys : List UInt8) : List UInt8 := ys.take xs.length ++ xs.drop ys.length
end Go.Proofs.YtpiikmkajckccaaGreat

namespace Go.Proofs.YtpiikmkajckccaaGreat
open Go.RowKit
abbrev Wrt := Int × List UInt8
abbrev Dsk := List (List UInt8) × List Wrt
abbrev SWr : Shp Wrt := (Shp.int .i64).pair Shp.octs
abbrev RdC (w : World) (v : Value) (ws : List Wrt) : Prop := RdS SWr w v ws
theorem RdS.wrt {w : World} {a : Option Addr} {n cap : Nat} {ws : List Wrt} (h : RdC w (.slice a n cap) ws) {i : Nat} {y : Wrt} (hy : ws[i]? = some y) :
  ∃ b off u, a = some ⟨b, off, none⟩ ∧ w.cell? ⟨b, off + i * 2, none⟩ = some (.int .i64 y.1) ∧ w.cell? ⟨b, off + i * 2 + 1, none⟩ = some u ∧ Rd w u y.2 := by
 obtain ⟨b, off, u, v, e, hc, hc2, e1, v', e2, hr⟩ := RdS.at2 rfl rfl h hy
 simp at e2; subst e2
 have : [u] = [Value.int .i64 y.1] := e1
 simp at this; subst this
 exact ⟨b, off, v, e, hc, hc2, hr⟩
def DOk (d : Dsk) : Prop := 1 ≤ d.1.length ∧ d.1.length ≤ 1024 ∧ d.2.length ≤ 4096 ∧ (∀ x ∈ d.1, x.length = 64) ∧ ∀ y ∈ d.2, (0 ≤ y.1 ∧ y.1 < d.1.length) ∧ y.2.length = 64
instance (d : Dsk) : Decidable (DOk d) := by unfold DOk; infer_instance
def dhas (d : Dsk) (k : Int) : Prop := 0 ≤ k ∧ k < d.1.length
instance (d : Dsk) (k : Int) : Decidable (dhas d k) := by unfold dhas; infer_instance
theorem getD_some {α : Type} {xs : List α} {k : Nat} {x d : α} (h : xs[k]? = some x) : xs.getD k d = x := by rw [List.getD_eq_getElem?_getD, h]; rfl
end Go.Proofs.YtpiikmkajckccaaGreat

namespace Go.Proofs.YtpiikmkajckccaaGreat
open Go.RowKit
set_option maxRecDepth 100000 in
set_option maxHeartbeats 400000 in
theorem refNumber_any (w : World) (v : Value) (xs : List UInt8) (h : Rd w v xs) (h8 : xs.length ≤ 8) :
  Calls Tryz.prog 134 #[v] w fun e w' => e = .returned (.int .u64 (numOf xs : Nat)) ∧ w = w' := by
 obtain ⟨a1, c1, rfl, l1, m1, n1, r1⟩ := h
 rw [show maxLen = 9223372036854775807 from rfl] at m1
 go_enter Tryz.func134, Tryz.ntmps134
 go_wp2
 go_loop [3, 4] (fun s i => ∃ k : Nat, k ≤ xs.length ∧ i = .int .i64 k ∧ s = .int .u64 (numTo xs k : Nat)) (fun _ i => xs.length - (intOf i).toNat)
 case atStart => exact ⟨0, Nat.zero_le _, rfl, rfl⟩
 case round =>
  obtain ⟨k, hk, rfl, rfl⟩ := hrel
  by_cases hlt : k < xs.length
  ·rcases r1 with r1 | ⟨b1, o1, rfl, hc1⟩
   ·rw [r1] at hlt; simp at hlt
   have g1 := hc1 k hlt
   have hq : (k : Int) < (xs.length : Int) := by omega
   have hb := bt_bd xs k
   have hnl : numTo xs k < 72057594037927936 := by
    have h1 := numTo_lt xs k
    have h2 : (2 : Nat) ^ (8 * k) ≤ 2 ^ 56 := Nat.pow_le_pow_right (by omega) (by omega)
    have h3 : (2 : Nat) ^ 56 = 72057594037927936 := by decide
    omega
   have HS : Hid (((numTo xs (k + 1) : Nat) : Int) = (numTo xs k : Nat) * 256 + bt xs k) := by
    show ((numTo xs k * 256 + (xs.getD k 0).toNat : Nat) : Int) = _
    rw [Int.natCast_add, Int.natCast_mul]; rfl
   generalize numTo xs k = z at *
   generalize bt xs k = y at *
   clear hc1
   go_wp2
   go_round
   case rel => exact ⟨k + 1, by omega, by go_num, by rw [HS.out]⟩
   case measure => simp [intOf]; omega
  ·go_wp2
   go_ret
   exact ⟨by rw [show k = xs.length from by omega]; rfl, rfl⟩
end Go.Proofs.YtpiikmkajckccaaGreat

namespace Go.Proofs.YtpiikmkajckccaaGreat
open Go.RowKit
theorem rd_sub {w : World} {a : Option Addr} {len cap : Nat} {xs : List UInt8} (h : Rd w (.slice a len cap) xs) {q to : Nat} (h1 : q ≤ to) (h2 : to ≤ len) :
  Rd w (.slice (a.map fun x => x.add q) (to - q) (cap - q)) ((xs.take to).drop q) ∧ (cap = q → Rd w (.slice a (to - q) 0) ((xs.take to).drop q)) := by
 obtain ⟨ao, c, e, l1, m1, n1, r1⟩ := h
 simp only [Value.slice.injEq] at e
 obtain ⟨rfl, rfl, rfl⟩ := e
 have el : ((xs.take to).drop q).length = to - q := by simp; omega
 refine ⟨⟨a.map fun x => x.add q, cap - q, by rw [el], by rw [el]; omega, by omega, ?_, ?_⟩, fun hc => ?_⟩
 ·intro h
  cases a with
  | none => rw [n1 rfl]; simp
  | some x => cases h
 ·rcases r1 with rfl | ⟨b, off, rfl, hc⟩
  ·left; simp
  ·by_cases h0 : to = q
   ·left; apply List.eq_nil_of_length_eq_zero; rw [el]; omega
   ·right
    refine ⟨b, off + q, ?_, fun i hi => ?_⟩
    ·simp [Addr.add]
    ·rw [el] at hi
     have := hc (q + i) (by omega)
     rw [show off + q + i = off + (q + i) from by omega, this]
     simp only [bt]
     congr 3
     simp only [List.getD_eq_getElem?_getD, List.getElem?_drop, List.getElem?_take]
     rw [if_pos (by omega)]
 ·have h0 : to - q = 0 := by omega
  have en : (xs.take to).drop q = [] := List.eq_nil_of_length_eq_zero (by rw [el, h0])
  rw [en, h0]
  exact ⟨a, 0, rfl, Nat.le_refl _, Nat.zero_le _, fun _ => rfl, .inl rfl⟩
theorem rd_cut {w : World} {a : Option Addr} {len cap : Nat} {xs : List UInt8} (h : Rd w (.slice a len cap) xs) {q to : Nat} (h1 : q ≤ to) (h2 : to ≤ len) :
  ∃ A, (if cap = q then a else Option.map (fun x => x.add q) a) = A ∧ Rd w (.slice A (to - q) (cap - q)) ((xs.take to).drop q) := by
 obtain ⟨s1, s2⟩ := rd_sub h h1 h2
 by_cases hc : cap = q
 ·refine ⟨a, if_pos hc, ?_⟩
  rw [show cap - q = 0 from by omega]
  exact s2 hc
 ·exact ⟨_, if_neg hc, s1⟩
end Go.Proofs.YtpiikmkajckccaaGreat

namespace Go.Proofs.YtpiikmkajckccaaGreat
open Go.RowKit
theorem boxedN (w : World) (cs : Array Value) (t : TypeId) : ∃ u, u = w.alloc (.cells cs t) ∧ u.heap[w.heap.size]? = some (.cells cs t (0, 0)) ∧ Below w.heap.size w u ∧ u.heap.size = w.heap.size + 1 :=
 ⟨_, rfl, heap_alloc_last w _, (Below.refl _ _).alloc (Nat.le_refl _) _, by simp⟩
theorem retN {P : Program} {fn : Func} {R : Ending → World → Prop} {a : Act} {w : World} {p : Tmp} {ty : TypeId} (h : fn.results = #[.cell p ty]) (hd : a.defers = []) (g : Nat) (hp : a.tmps.getD p undef = .pointer (some ⟨g, 0, none⟩))
  (cs : Array Value) (t : TypeId) (fr : Nat × Nat) (hg : w.heap[g]? = some (.cells cs t fr)) (d : TypeDesc) (hu : P.underlying ty = some d) (hr : (match d with | .struct _ | .array _ _ => true | _ => false) = true) (hi : (P.info? ty).map (·.size) = some cs.size)
  (hR : R (.returned (.agg cs)) w) : bodyPost P fn R .ret a w := by
 refine bodyPost_ret (v := .agg cs) ?_ hd hR
 have hp' : a.tmps[p]?.getD undef = .pointer (some ⟨g, 0, none⟩) := by simpa using hp
 simp [results, h, hp', asAddr, run_loadVar_row w g t ty cs fr d hg hu hr hi]
theorem retNT {P : Program} {fn : Func} {R : Ending → World → Prop} {a : Act} {w : World} {p u1 : Tmp} {ty : TypeId} (h : fn.results = #[.cell p ty, .tmp u1]) (hd : a.defers = []) (g : Nat) (hp : a.tmps.getD p undef = .pointer (some ⟨g, 0, none⟩))
  (cs : Array Value) (t : TypeId) (fr : Nat × Nat) (hg : w.heap[g]? = some (.cells cs t fr)) (d : TypeDesc) (hu : P.underlying ty = some d) (hr : (match d with | .struct _ | .array _ _ => true | _ => false) = true) (hi : (P.info? ty).map (·.size) = some cs.size)
  (v1 : Value) (e1 : a.tmps.getD u1 undef = v1) (hR : R (.returned (.tuple #[.agg cs, v1])) w) : bodyPost P fn R .ret a w := by
 refine bodyPost_ret (v := .tuple #[.agg cs, v1]) ?_ hd hR
 have hp' : a.tmps[p]?.getD undef = .pointer (some ⟨g, 0, none⟩) := by simpa using hp
 have e1' : a.tmps[u1]?.getD undef = v1 := by simpa using e1
 simp [results, h, hp', e1', asAddr, run_loadVar_row w g t ty cs fr d hg hu hr hi]
theorem retNTT {P : Program} {fn : Func} {R : Ending → World → Prop} {a : Act} {w : World} {p u1 u2 : Tmp} {ty : TypeId} (h : fn.results = #[.cell p ty, .tmp u1, .tmp u2]) (hd : a.defers = []) (g : Nat) (hp : a.tmps.getD p undef = .pointer (some ⟨g, 0, none⟩))
  (cs : Array Value) (t : TypeId) (fr : Nat × Nat) (hg : w.heap[g]? = some (.cells cs t fr)) (d : TypeDesc) (hu : P.underlying ty = some d) (hr : (match d with | .struct _ | .array _ _ => true | _ => false) = true) (hi : (P.info? ty).map (·.size) = some cs.size)
  (v1 : Value) (e1 : a.tmps.getD u1 undef = v1) (v2 : Value) (e2 : a.tmps.getD u2 undef = v2) (hR : R (.returned (.tuple #[.agg cs, v1, v2])) w) : bodyPost P fn R .ret a w := by
 refine bodyPost_ret (v := .tuple #[.agg cs, v1, v2]) ?_ hd hR
 have hp' : a.tmps[p]?.getD undef = .pointer (some ⟨g, 0, none⟩) := by simpa using hp
 have e1' : a.tmps[u1]?.getD undef = v1 := by simpa using e1
 have e2' : a.tmps[u2]?.getD undef = v2 := by simpa using e2
 simp [results, h, hp', e1', e2', asAddr, run_loadVar_row w g t ty cs fr d hg hu hr hi]
theorem conv_rd {w : World} {v : Value} {xs : List UInt8} (h : Rd w v xs) (h0 : 0 < xs.length) : (convert 42 9 v).run Tryz.prog w = .ok (.string ⟨xs.toArray⟩) w := by
 obtain ⟨ao, cap, rfl, h1, h2, h3, h4⟩ := h
 rcases h4 with h4 | ⟨b, off, rfl, hc⟩
 ·subst h4; simp at h0
 ·refine run_convert_bytes_back w 42 9 5 ⟨b, off, none⟩ cap xs Tryz.underlying42 Tryz.underlying5 Tryz.underlying9 fun j hj => ?_
  have := hc j hj
  rw [show (⟨b, off, none⟩ : Addr).add j = ⟨b, off + j, none⟩ by simp [Addr.add], this]
  unfold bt
  simp [List.getD_eq_getElem?_getD, hj]
end Go.Proofs.YtpiikmkajckccaaGreat

namespace Go.Proofs.YtpiikmkajckccaaGreat
open Go.RowKit
section
variable {P : Program} {ops : Array Oper} {md : Region.Mode} {Q : Exit → Act → World → Prop} {S : World → Prop}
def wpAnyM (P : Program) (md : Region.Mode) (ops : Array Oper) (Q : Exit → Act → World → Prop) (S : World → Prop) (m : Nat) (L : Array Bool → Act → World → Prop) : Nat → Array Bool → Act → World → Prop
 | 0, listed, a, w => L listed a w
 | f + 1, listed, a, w => Region.ready md ops listed ≠ [] ∧ ∀ i ∈ Region.ready md ops listed, i < m ∧ wpOp P ops Q i (fun a' w' => S w' ∧ wpAnyM P md ops Q S m L f (listed.setIfInBounds i true) a' w') a w
theorem wpAny_of_mid {m g : Nat} {L : Array Bool → Act → World → Prop} (hL : ∀ listed a w, L listed a w → wpAny P md ops Q g listed a w) :
  ∀ (f : Nat) (listed : Array Bool) (a : Act) (w : World), wpAnyM P md ops Q S m L f listed a w → wpAny P md ops Q (f + g) listed a w
 | 0, listed, a, w, h => by rw [Nat.zero_add]; exact hL _ _ _ h
 | f + 1, listed, a, w, h => by
  rw [show f + 1 + g = (f + g) + 1 by omega]
  exact ⟨fun h0 => absurd h0 h.1, fun i hi => wpOp_mono (fun a' w' h' => wpAny_of_mid hL f _ a' w' h'.2) (h.2 i hi).2⟩
theorem put_tmps (a : Act) (d : Option Tmp) (v : Value) : a.put d v = { a with tmps := (a.put d v).tmps } := by cases d <;> rfl
theorem wpAnyM_first {m i : Nat} {oi : Oper} {v : Value} {L : Array Bool → Act → World → Prop} (hi : ops[i]? = some oi) (hsel : ∀ (j : Nat) (o : Oper) cs b, ops[j]? = some o → o.op ≠ .select cs b)
  (hs : Region.sinkB md ops m = true) (hc : Region.chainB md ops m = true) (hm : m < ops.size) (him : i < m) (hQ : ∀ c a w, Q (.panic c) (a.put oi.dst v) w → Q (.panic c) a w)
  (hdone : ∀ listed a w, L listed a w → ∀ j ∈ Region.ready md ops listed, m ≤ j) :
  ∀ (f : Nat) (listed : Array Bool) (a : Act) (w : World), HeadInv md ops m listed →
   (∀ j oj, ops[j]? = some oj → j ≠ i → listed.getD j true = false → (∀ e ∈ oj.after, Region.binds md e = true → e.on ≠ i) → oi.apart ops oj = true) →
   i ∈ Region.ready md ops listed → YieldsIf P ops S oi v a → S w →
   wpAnyM P md ops Q S m L f (listed.setIfInBounds i true) (a.put oi.dst v) w → wpAnyM P md ops Q S m L (f + 1) listed a w := by
 intro f
 induction f with
 | zero =>
  intro listed a w inv _ hr hy hS H
  have hun := (mem_ready.1 hr).1
  refine ⟨fun h => (by rw [h] at hr; cases hr), fun j hj => ?_⟩
  have hjn : j < m := by
   rcases Nat.lt_or_ge j m with h | h
   ·exact h
   ·exact absurd hj (tail_waits hs hc hm inv _ i rfl him hun j h)
  refine ⟨hjn, ?_⟩
  by_cases hji : j = i
  ·subst hji; exact hy.wpOp hi hS ⟨hS, H⟩
  ·have := hdone _ _ _ H j (ready_mono hj hji)
   omega
 | succ f ih =>
  intro listed a w inv hfree hr hy hS H
  have hun := (mem_ready.1 hr).1
  refine ⟨fun h => (by rw [h] at hr; cases hr), fun j hj => ?_⟩
  have hjn : j < m := by
   rcases Nat.lt_or_ge j m with h | h
   ·exact h
   ·exact absurd hj (tail_waits hs hc hm inv _ i rfl him hun j h)
  refine ⟨hjn, ?_⟩
  by_cases hji : j = i
  ·subst hji; exact hy.wpOp hi hS ⟨hS, H⟩
  ·have h1 := (H.2 j (ready_mono hj hji)).2
   obtain ⟨hjun, oj, hoj, hall⟩ := mem_ready.1 hj
   have hnot : ∀ e ∈ oj.after, Region.binds md e = true → e.on ≠ i := fun e he hb heq => by
    have h1 := hall e he hb
    rw [heq, getD_both hun] at h1
    cases h1
   have h2 := wpOp_putIf hoj (hfree j oj hoj hji hjun hnot) (fun cs b => hsel i oi cs b hi) (fun cs b => hsel j oj cs b hoj) hQ hy h1
   have hfree' : ∀ k ok, ops[k]? = some ok → k ≠ i → (listed.setIfInBounds j true).getD k true = false →
     (∀ e ∈ ok.after, Region.binds md e = true → e.on ≠ i) → oi.apart ops ok = true := fun k ok hk hki hun hno => by
    refine hfree k ok hk hki ?_ hno
    by_cases hjk : j = k
    ·subst hjk; exact hjun
    ·rw [getD_set_ne true hjk] at hun; exact hun
   refine wpOp_mono (fun a' w' h3 => ⟨h3.2.1, ih (listed.setIfInBounds j true) a' w' (inv.set hj hjn) hfree' (ready_mono hr (Ne.symm hji)) h3.1 h3.2.1 ?_⟩) h2
   rw [Array.setIfInBounds_comm _ _ hji]
   exact h3.2.2
def wpTake (P : Program) (ops : Array Oper) (S : World → Prop) (Z : Act → Prop) : List Oper → Act → Prop
 | [], a => Z a
 | o :: l, a => ∃ v, YieldsIf P ops S o v a ∧ wpTake P ops S Z l (a.put o.dst v)
def wpListS (P : Program) (ops : Array Oper) (Q : Exit → Act → World → Prop) (S : World → Prop) (Z : Act → World → Prop) : List Oper → Act → World → Prop
 | [], a, w => Z a w
 | o :: l, a, w => if Region.wanted o (yielded ops a.tmps) = true then o.wp P a w (fun a' w' => S w' ∧ wpListS P ops Q S Z l a' w') Q else S w ∧ wpListS P ops Q S Z l (a.put o.dst undef) w
theorem wpAnyM_seq {m g : Nat} {Z : Act → World → Prop} : ∀ (l : List Oper) (k : Nat) (listed : Array Bool) (a : Act) (w : World), (∀ j, j < l.length → l[j]? = ops[k + j]?) → k + l.length = m →
  Region.seqB md ops (l.length + g) k listed = true → wpListS P ops Q S Z l a w → wpAnyM P md ops Q S m (fun listed' a' w' => Region.seqB md ops g m listed' = true ∧ Z a' w') l.length listed a w
 | [], k, listed, a, w, _, hk, hB, h => by
  have : k = m := by simpa using hk
  subst this
  exact ⟨by simpa using hB, h⟩
 | o :: l, k, listed, a, w, hl, hk, hB, h => by
  have h0 : ops[k]? = some o := by simpa using (hl 0 (by simp)).symm
  rw [List.length_cons, show l.length + 1 + g = (l.length + g) + 1 by omega] at hB
  simp only [Region.seqB, Bool.and_eq_true, decide_eq_true_eq] at hB
  refine ⟨fun h1 => (by rw [hB.1] at h1; cases h1), fun i hi => ?_⟩
  rw [hB.1] at hi
  have hik : i = k := by simpa using hi
  subst hik
  refine ⟨by simp only [List.length_cons] at hk; omega, ?_⟩
  have hw : wpOp P ops Q i (fun a' w' => S w' ∧ wpListS P ops Q S Z l a' w') a w := by
   unfold wpOp
   simp only [h0]
   unfold wpListS at h
   split
   ·rename_i hwd; rw [if_pos hwd] at h; exact .inl h
   ·rename_i hwd; rw [if_neg hwd] at h; exact h
  exact wpOp_mono (fun a' w' h' => ⟨h'.1, wpAnyM_seq l (i + 1) _ a' w' (fun j hj => by have := hl (j + 1) (by simp; omega); simpa [Nat.add_assoc, Nat.add_comm 1 j] using this) (by simp only [List.length_cons] at hk; omega) hB.2 h'.2⟩) hw
theorem wpAnyM_take {n m g f : Nat} {L : Array Bool → Act → World → Prop} {Z : Act → Prop} (hsel : Region.noSelect ops = true) (hs : Region.sinkB md ops m = true) (hc : Region.chainB md ops m = true) (hm : m < ops.size) (hnm : n ≤ m)
  (hQ : ∀ c (a : Act) t w, Q (.panic c) { a with tmps := t } w → Q (.panic c) a w) (hdone : ∀ listed a w, L listed a w → ∀ j ∈ Region.ready md ops listed, m ≤ j) {w : World} (hS : S w)
  (hZ : ∀ listed a, Region.seqB md ops g n listed = true → HeadInv md ops m listed → Z a → wpAnyM P md ops Q S m L f listed a w) :
  ∀ (l : List Oper) (k : Nat) (listed : Array Bool) (a : Act), (∀ j, j < l.length → l[j]? = ops[k + j]?) → k + l.length = n → HeadInv md ops m listed →
  Region.lexHead md ops g l.length k listed = true → wpTake P ops S Z l a → wpAnyM P md ops Q S m L (l.length + f) listed a w
 | [], k, listed, a, _, hk, inv, hB, h => by
  have : k = n := by simpa using hk
  subst this
  rw [List.length_nil, Nat.zero_add]
  exact hZ _ _ (by simpa [Region.lexHead] using hB) inv h
 | o :: l, k, listed, a, hl, hk, inv, hB, h => by
  have h0 : ops[k]? = some o := by simpa using (hl 0 (by simp)).symm
  simp only [List.length_cons, Region.lexHead, Bool.and_eq_true] at hB
  obtain ⟨⟨hr, hf⟩, hB'⟩ := hB
  have hkn : k < m := by simp only [List.length_cons] at hk; omega
  have hr' : k ∈ Region.ready md ops listed := by simpa using hr
  obtain ⟨v, hy, hK⟩ := h
  rw [List.length_cons, show l.length + 1 + f = (l.length + f) + 1 by omega]
  exact wpAnyM_first h0 (Region.noSelect_spec hsel) hs hc hm hkn (fun c a w h => hQ c a (a.put o.dst v).tmps w (by rw [← put_tmps]; exact h)) hdone _ listed a w inv (Region.free_spec h0 hf) hr' hy hS
   (wpAnyM_take hsel hs hc hm hnm hQ hdone hS hZ l (k + 1) _ _ (fun j hj => by have := hl (j + 1) (by simp; omega); simpa [Nat.add_assoc, Nat.add_comm 1 j] using this) (by simp only [List.length_cons] at hk; omega) (inv.set hr' hkn) hB' hK)
def midB (md : Region.Mode) (ops : Array Oper) (n m : Nat) : Bool :=
 Region.noSelect ops && decide (n ≤ m) && decide (m < ops.size) && Region.sinkB md ops m && Region.chainB md ops m && Region.lexHead md ops (ops.size - n) n 0 (Array.replicate ops.size false)
theorem wp_region_mid {id : Nat} {a : Act} {w : World} {l : List Oper} (S : World → Prop) (n m : Nat) (hf : P.follows .mixedOrders = true) (hB : midB .any l.toArray n m = true)
  (hQ : ∀ c (a : Act) t w, Q (.panic c) { a with tmps := t } w → Q (.panic c) a w) (hS : S w.drew)
  (h : wpTake P l.toArray S (fun a' => wpListS P l.toArray Q S (fun a'' w'' => wpList P l.toArray Q (l.drop m) a'' w'') ((l.take m).drop n) a' w.drew) (l.take n) a) : (Code.region id l.toArray true).wp P Q a w := by
 simp only [midB, Bool.and_eq_true, decide_eq_true_eq] at hB
 obtain ⟨⟨⟨⟨⟨hsel, hnm⟩, hm⟩, hs⟩, hc⟩, hlex⟩ := hB
 have hm' : m < l.length := by simpa using hm
 have hln : (l.take n).length = n := by simp; omega
 have hlm : ((l.take m).drop n).length = m - n := by simp; omega
 have hld : (l.drop m).length = l.length - m := by simp
 have inv0 : HeadInv .any l.toArray m (Array.replicate l.toArray.size false) :=
  ⟨by simp, fun j oj _ hl => (by rw [getD_replicate_false] at hl; cases hl), fun t _ ht => getD_in (by simpa using ht) (getD_replicate_false _ _)⟩
 have H := wpAnyM_take (md := .any) (g := l.toArray.size - n) (f := m - n) (L := fun listed' a' w' => Region.seqB .any l.toArray (l.length - m) m listed' = true ∧ wpList P l.toArray Q (l.drop m) a' w') hsel hs hc hm hnm hQ
  (fun listed a w hL => seqB_ready hL.1) (w := w.drew) hS (fun listed a hseq inv hz => by
   have hsz : l.toArray.size - n = ((l.take m).drop n).length + (l.length - m) := by rw [hlm]; simp; omega
   rw [hsz] at hseq
   have := wpAnyM_seq (md := .any) (m := m) ((l.take m).drop n) n listed a w.drew (fun j hj => by
    rw [hlm] at hj
    rw [List.getElem?_drop, List.getElem?_take, if_pos (by omega)]
    simp) (by rw [hlm]; omega) hseq hz
   rwa [hlm] at this) (l.take n) 0 _ a (fun j hj => by
    rw [hln] at hj
    rw [List.getElem?_take, if_pos hj]; simp) (by rw [hln]; omega) inv0 (by rw [hln]; exact hlex) h
 refine wp_region_any hf ?_
 have := wpAny_of_mid (Q := Q) (g := l.length - m) (fun listed a' w' hL => by
  have := wpAny_of_seq (md := .any) (Q' := Q) (l.drop m) m listed a' w' (fun j => by simp [List.getElem?_drop]) (by rw [hld]; exact hL.1) hL.2
  rwa [hld] at this) _ _ _ _ H
 rw [hln, show n + (m - n) + (l.length - m) = l.toArray.size by simp; omega] at this
 exact this
theorem take_one {o : Oper} {l : List Oper} {a : Act} {Z : Act → Prop} {v : Value} (hw : Region.wanted o (yielded ops a.tmps) = true) (hy : ∀ w, S w → (execOp a.eval o).run P w = .ok (.value v) w) (h : wpTake P ops S Z l (a.put o.dst v)) : wpTake P ops S Z (o :: l) a :=
 ⟨v, .inl ⟨hw, hy⟩, h⟩
theorem mid_one {o : Oper} {l : List Oper} {a : Act} {w : World} {Z : Act → World → Prop} (h : ∀ K : Act → World → Prop, (∀ a' w', S w' → wpListS P ops Q S Z l a' w' → K a' w') → if Region.wanted o (yielded ops a.tmps) = true then o.wp P a w K Q else K (a.put o.dst undef) w) : wpListS P ops Q S Z (o :: l) a w := by
 have := h (fun a' w' => S w' ∧ wpListS P ops Q S Z l a' w') (fun a' w' h1 h2 => ⟨h1, h2⟩)
 unfold wpListS
 exact this
end
end Go.Proofs.YtpiikmkajckccaaGreat

namespace Go.Proofs.YtpiikmkajckccaaGreat
abbrev Str := List UInt8
structure Nd where
 leaf : Bool
 keys : List Str
 vals : List Str
 kids : List Int
deriving DecidableEq
abbrev slt (a b : Str) : Bool := Op.bytesLess a b
theorem slt_irr : ∀ a : Str, slt a a = false
 | [] => rfl
 | a :: x => by
  have := slt_irr x
  simp only [slt] at this
  simp [slt, Op.bytesLess, this]
theorem slt_nil : ∀ a : Str, slt a [] = false
 | [] => rfl
 | a :: x => rfl
theorem slt_cons (a b : UInt8) (x y : Str) : slt (a :: x) (b :: y) = true ↔ a < b ∨ (a = b ∧ slt x y = true) := by
 simp [slt, Op.bytesLess]
theorem slt_trans : ∀ {a b c : Str}, slt a b = true → slt b c = true → slt a c = true
 | [], [], c, h, k => k
 | [], b :: y, [], h, k => by simp [slt, Op.bytesLess] at k
 | [], b :: y, c :: z, h, k => by simp [slt, Op.bytesLess]
 | a :: x, [], c, h, k => by simp [slt, Op.bytesLess] at h
 | a :: x, b :: y, [], h, k => by simp [slt, Op.bytesLess] at k
 | a :: x, b :: y, c :: z, h, k => by
  rw [slt_cons] at h k ⊢
  rcases h with h | ⟨rfl, h⟩ <;> rcases k with k | ⟨rfl, k⟩
  ·exact .inl (UInt8.lt_trans h k)
  ·exact .inl h
  ·exact .inl k
  ·exact .inr ⟨rfl, slt_trans h k⟩
theorem slt_tot : ∀ (a b : Str), slt a b = true ∨ a = b ∨ slt b a = true
 | [], [] => .inr (.inl rfl)
 | [], b :: y => .inl rfl
 | a :: x, [] => .inr (.inr rfl)
 | a :: x, b :: y => by
  rw [slt_cons, slt_cons]
  rcases slt_tot x y with h | h | h <;> rcases UInt8.lt_or_lt_of_ne (a := a) (b := b) |> fun f => (Decidable.em (a = b)).imp id f with e | e | e
  ·exact .inl (.inr ⟨e, h⟩)
  ·exact .inl (.inl e)
  ·exact .inr (.inr (.inl e))
  ·exact .inr (.inl (by rw [e, h]))
  ·exact .inl (.inl e)
  ·exact .inr (.inr (.inl e))
  ·exact .inr (.inr (.inr ⟨e.symm, h⟩))
  ·exact .inl (.inl e)
  ·exact .inr (.inr (.inl e))
theorem slt_asym {a b : Str} (h : slt a b = true) : slt b a = false := by
 cases hb : slt b a
 ·rfl
 ·have := slt_trans h hb; rw [slt_irr] at this; cases this
theorem sle_iff (a b : Str) : (Op.bytesLess a b || a == b) = !(slt b a) := by
 rcases slt_tot a b with h | h | h
 ·have h' : Op.bytesLess a b = true := h
  rw [h', slt_asym h]; rfl
 ·subst h; rw [slt_irr]; simp
 ·have h1 : Op.bytesLess a b = false := slt_asym h
  have h2 : (a == b) = false := by
   apply Bool.eq_false_iff.2
   intro e
   have : a = b := by simpa using e
   subst this; rw [slt_irr] at h; cases h
  rw [h1, h2, h]; rfl
def nsz (n : Nd) : Nat → Int
 | 0 => 2
 | k + 1 => nsz n k + (1 + ((n.keys[k]?.getD []).length : Int) + if n.leaf then 1 + ((n.vals[k]?.getD []).length : Int) else 0)
def nsize (n : Nd) : Int := nsz n n.keys.length + if n.leaf then 0 else 4 * (n.kids.length : Int)
theorem nsz_ge (n : Nd) : ∀ k : Nat, 2 + (k : Int) ≤ nsz n k
 | 0 => by simp [nsz]
 | k + 1 => by
  have := nsz_ge n k
  simp only [nsz]
  split <;> omega
def nkey (n : Nd) (k : Nat) : Str := n.keys[k]?.getD []
def nkOk (n : Nd) (k : Nat) : Prop := 1 ≤ (nkey n k).length ∧ (nkey n k).length ≤ 32 ∧ (0 < k → slt (nkey n (k - 1)) (nkey n k) = true)
instance (n : Nd) (k : Nat) : Decidable (nkOk n k) := by unfold nkOk; infer_instance
def nkeys (n : Nd) (m : Nat) : Prop := ∀ k, k < m → nkOk n k
def ncount (n : Nd) : Prop := if n.leaf then n.vals.length = n.keys.length ∧ n.kids.length = 0 else n.vals.length = 0 ∧ 1 ≤ n.keys.length ∧ n.kids.length = n.keys.length + 1
def nvals (n : Nd) (m : Nat) : Prop := ∀ k, k < m → (n.vals[k]?.getD []).length ≤ 64
def nkids (n : Nd) (m : Nat) : Prop := ∀ k, k < m → 1 ≤ n.kids[k]?.getD 0 ∧ n.kids[k]?.getD 0 ≤ 65536
instance (n : Nd) (m : Nat) : Decidable (nkeys n m) := by unfold nkeys; infer_instance
instance (n : Nd) : Decidable (ncount n) := by unfold ncount; infer_instance
instance (n : Nd) (m : Nat) : Decidable (nvals n m) := by unfold nvals; infer_instance
instance (n : Nd) (m : Nat) : Decidable (nkids n m) := by unfold nkids; infer_instance
def ncheck (n : Nd) : Int :=
 if nkeys n n.keys.length then if ncount n then if nvals n n.vals.length then if nkids n n.kids.length then if 244 < nsize n then 51 else 0 else 4 else 5 else 3 else 91
def NOk (n : Nd) : Prop := nkeys n n.keys.length ∧ ncount n ∧ nvals n n.vals.length ∧ nkids n n.kids.length ∧ nsize n ≤ 244
theorem ncheck_ok (n : Nd) : ncheck n = 0 ↔ NOk n := by
 unfold ncheck NOk
 by_cases h1 : nkeys n n.keys.length <;> by_cases h2 : ncount n <;> by_cases h3 : nvals n n.vals.length <;> by_cases h4 : nkids n n.kids.length <;> by_cases h5 : 244 < nsize n <;> simp [h1, h2, h3, h4, h5] <;> omega
theorem nkeys_succ (n : Nd) (m : Nat) : nkeys n (m + 1) ↔ nkeys n m ∧ nkOk n m := by
 constructor
 ·exact fun h => ⟨fun k hk => h k (by omega), h m (by omega)⟩
 ·rintro ⟨h1, h2⟩ k hk
  by_cases e : k = m
  ·subst e; exact h2
  ·exact h1 k (by omega)
theorem nvals_succ (n : Nd) (m : Nat) : nvals n (m + 1) ↔ nvals n m ∧ (n.vals[m]?.getD []).length ≤ 64 := by
 constructor
 ·exact fun h => ⟨fun k hk => h k (by omega), h m (by omega)⟩
 ·rintro ⟨h1, h2⟩ k hk
  by_cases e : k = m
  ·subst e; exact h2
  ·exact h1 k (by omega)
theorem nkids_succ (n : Nd) (m : Nat) : nkids n (m + 1) ↔ nkids n m ∧ (1 ≤ n.kids[m]?.getD 0 ∧ n.kids[m]?.getD 0 ≤ 65536) := by
 constructor
 ·exact fun h => ⟨fun k hk => h k (by omega), h m (by omega)⟩
 ·rintro ⟨h1, h2⟩ k hk
  by_cases e : k = m
  ·subst e; exact h2
  ·exact h1 k (by omega)
theorem nsz_le (n : Nd) (m : Nat) (h : ∀ k, k < m → (nkey n k).length ≤ 32) (hv : n.leaf = true → ∀ k, k < m → (n.vals[k]?.getD []).length ≤ 64) : ∀ k, k ≤ m → nsz n k ≤ 2 + 98 * (k : Int)
 | 0, _ => by simp [nsz]
 | k + 1, hk => by
  have i := nsz_le n m h hv k (by omega)
  have a := h k (by omega)
  unfold nkey at a
  simp only [nsz]
  split
  ·have := hv (by assumption) k (by omega); omega
  ·omega
def nfnd (leaf : Bool) (key : Str) : List Str → Int
 | [] => 0
 | k :: r => (if slt k key || (!leaf && k == key) then 1 else 0) + nfnd leaf key r
def nis (key : Str) (l : List Str) : Bool := l.any (· == key)
def n4 (z : Int) : List UInt8 := [UInt8.ofNat (z.toNat / 16777216), UInt8.ofNat (z.toNat / 65536), UInt8.ofNat (z.toNat / 256), UInt8.ofNat z.toNat]
def npart (n : Nd) (k : Nat) : List UInt8 :=
 [UInt8.ofNat (nkey n k).length] ++ nkey n k ++ if n.leaf then [UInt8.ofNat (n.vals[k]?.getD []).length] ++ n.vals[k]?.getD [] else n4 (n.kids[k + 1]?.getD 0)
def nparts (n : Nd) : Nat → List UInt8
 | 0 => []
 | k + 1 => nparts n k ++ npart n k
def nhead (n : Nd) : List UInt8 := [if n.leaf then 1 else 0, UInt8.ofNat n.keys.length] ++ if n.leaf then [] else n4 (n.kids[0]?.getD 0)
def nenc (n : Nd) : List UInt8 := nhead n ++ nparts n n.keys.length
def nfew (n : Nd) : Prop := n.keys.length < 2 ∨ (n.leaf = false ∧ n.keys.length < 3)
instance (n : Nd) : Decidable (nfew n) := by unfold nfew; infer_instance
def none9 : Nd := ⟨false, [], [], []⟩
end Go.Proofs.YtpiikmkajckccaaGreat

namespace Go.Proofs.YtpiikmkajckccaaGreat
open Go.RowKit
abbrev st (x : Str) : Value := .string ⟨x.toArray⟩
def Shp.str : Shp Str where
 n := 1
 rd _ cs x := cs = [st x]
 own F _ cs x := F = [] ∧ cs = [st x]
 rd_n h := by rw [h]; rfl
 rd_to h _ := h
 rd_one h u hu := by rw [h] at hu; simp at hu; subst hu; rfl
 own_rd h := h.2
 own_to h _ := h
 own_lt h b hb := by rw [h.1] at hb; cases hb
abbrev RdT (w : World) (v : Value) (l : List Str) : Prop := RdS Shp.str w v l
abbrev RdI (w : World) (v : Value) (l : List Int) : Prop := RdS (Shp.int .i64) w v l
theorem RdS.strAt {w : World} {a : Option Addr} {n cap : Nat} {l : List Str} (h : RdT w (.slice a n cap) l) {i : Nat} {x : Str} (hx : l[i]? = some x) : ∃ b off, a = some ⟨b, off, none⟩ ∧ w.cell? ⟨b, off + i, none⟩ = some (st x) := by
 obtain ⟨b, off, u, e, hc, hr⟩ := RdS.at1 rfl h hx
 have hr' : [u] = [st x] := hr
 simp only [List.cons.injEq, and_true] at hr'
 subst hr'
 exact ⟨b, off, e, hc⟩
theorem RdS.intAt {w : World} {a : Option Addr} {n cap : Nat} {l : List Int} (h : RdI w (.slice a n cap) l) {i : Nat} {x : Int} (hx : l[i]? = some x) : ∃ b off, a = some ⟨b, off, none⟩ ∧ w.cell? ⟨b, off + i, none⟩ = some (.int .i64 x) := by
 obtain ⟨b, off, u, e, hc, hr⟩ := RdS.at1 rfl h hx
 have hr' : [u] = [Value.int .i64 x] := hr
 simp only [List.cons.injEq, and_true] at hr'
 subst hr'
 exact ⟨b, off, e, hc⟩
theorem size_st (x : Str) : (ByteArray.mk x.toArray).size = x.length := by simp [ByteArray.size]
structure RdN (w : World) (kv vv dv : Value) (n : Nd) : Prop where
 keys : RdT w kv n.keys
 vals : RdT w vv n.vals
 kids : RdI w dv n.kids
theorem RdN.to {w w' : World} {kv vv dv : Value} {n : Nd} (h : RdN w kv vv dv n) (hb : Below w.heap.size w w') : RdN w' kv vv dv n := ⟨h.keys.to0 hb, h.vals.to0 hb, h.kids.to0 hb⟩
theorem RdN.slices {w : World} {kv vv dv : Value} {n : Nd} (h : RdN w kv vv dv n) : ∃ a c a' c' a'' c'', kv = .slice a n.keys.length c ∧ vv = .slice a' n.vals.length c' ∧ dv = .slice a'' n.kids.length c'' := by
 obtain ⟨a, c, e⟩ := h.keys.slice
 obtain ⟨a', c', e'⟩ := h.vals.slice
 obtain ⟨a'', c'', e''⟩ := h.kids.slice
 exact ⟨a, c, a', c', a'', c'', e, e', e''⟩
abbrev nv (n : Nd) (kv vv dv : Value) : Value := .agg #[.bool n.leaf, kv, vv, dv]
theorem cells4 {w : World} {g : Nat} {a b c d : Value} {t : TypeId} (h : w.heap[g]? = some (.cells #[a, b, c, d] t (0, 0))) :
  (w.cell? ⟨g, 0, none⟩ = some a ∧ w.cell? ⟨g, 1, none⟩ = some b ∧ w.cell? ⟨g, 2, none⟩ = some c ∧ w.cell? ⟨g, 3, none⟩ = some d) ∧ ∀ i, w.frozen? ⟨g, i, none⟩ = false := by
 refine ⟨⟨?_, ?_, ?_, ?_⟩, fun i => ?_⟩
 ·rw [cell_of_row _ _ 0 _ _ (0, 0) h]; rfl
 ·rw [cell_of_row _ _ 1 _ _ (0, 0) h]; rfl
 ·rw [cell_of_row _ _ 2 _ _ (0, 0) h]; rfl
 ·rw [cell_of_row _ _ 3 _ _ (0, 0) h]; rfl
 ·simp [World.frozen?, h]
theorem some_el {α : Type} (l : List α) {k : Nat} (h : k < l.length) : ∃ x, l[k]? = some x := ⟨_, List.getElem?_eq_getElem h⟩
theorem w64_add (a b : Int) : wrap64 (wrap64 a + b) = wrap64 (a + b) := by unfold wrap64; omega
theorem w64_add' (a b : Int) : wrap64 (a + wrap64 b) = wrap64 (a + b) := by unfold wrap64; omega
end Go.Proofs.YtpiikmkajckccaaGreat

namespace Go.Proofs.YtpiikmkajckccaaGreat
open Go.RowKit
set_option maxRecDepth 100000 in
set_option maxHeartbeats 1000000 in
theorem rsize_any (w : World) (kv vv dv : Value) (n : Nd) (h : RdN w kv vv dv n) :
  Calls Tryz.prog 135 #[nv n kv vv dv] w fun e w' => e = .returned (.int .i64 (wrap64 (nsize n))) ∧ Below w.heap.size w w' := by
 have lk := h.keys.bd
 have lv := h.vals.bd
 have ld := h.kids.bd
 obtain ⟨a, c, a', c', a'', c'', rfl, rfl, rfl⟩ := h.slices
 obtain ⟨leaf, keys, vals, kids⟩ := n
 dsimp only [nv] at *
 obtain ⟨W, hW, D, bW, sW⟩ := boxedN w #[.bool leaf, .slice a keys.length c, .slice a' vals.length c', .slice a'' kids.length c''] 145
 replace h := h.to bW
 have HH := hide h
 have HB := hide bW
 obtain ⟨⟨D0, D1, D2, D3⟩, _⟩ := cells4 D
 have HD := hide (And.intro D0 (And.intro D1 (And.intro D2 D3)))
 clear h bW D
 rw [hW] at D0 D1 D2 D3
 generalize hN : (⟨leaf, keys, vals, kids⟩ : Nd) = N at *
 have N1 : Hid (N.keys = keys ∧ N.vals = vals ∧ N.kids = kids ∧ N.leaf = leaf) := by subst hN; exact ⟨rfl, rfl, rfl, rfl⟩
 replace hN := hide hN
 go_enter Tryz.func135, Tryz.ntmps135
 go_wp2
 rw [← hW]
 replace hW := hide hW
 clear D0 D1 D2 D3
 go_loopw [3, 4] (fun a b wr => ∃ k : Nat, k ≤ keys.length ∧ b = .int .i64 k ∧ a = .int .i64 (wrap64 (nsz N k)) ∧ Hid (Below W.heap.size W wr)) (fun _ b _ => keys.length - (intOf b).toNat)
 case atStart => exact ⟨0, Nat.zero_le _, rfl, by rw [show nsz N 0 = 2 from rfl, IntWalk.wrap64_in 2 (by omega)], hide (Below.refl _ _)⟩
 case round =>
  obtain ⟨k, hk, rfl, rfl, hb⟩ := hrel
  have D0 := (hb.out.cell (cell_lt HD.out.1)).trans HD.out.1
  have D1 := (hb.out.cell (cell_lt HD.out.2.1)).trans HD.out.2.1
  have D2 := (hb.out.cell (cell_lt HD.out.2.2.1)).trans HD.out.2.2.1
  have D3 := (hb.out.cell (cell_lt HD.out.2.2.2)).trans HD.out.2.2.2
  by_cases hlt : k < keys.length
  ·have hq : (k : Int) < (keys.length : Int) := by omega
   obtain ⟨x, hx⟩ := some_el keys hlt
   have hs := hide (show nsz N (k + 1) = nsz N k + (1 + (x.length : Int) + if leaf then 1 + ((vals[k]?.getD []).length : Int) else 0) by simp only [nsz, N1.out.1, N1.out.2.1, N1.out.2.2.2, hx]; rfl)
   obtain ⟨b, off, rfl, hc1⟩ := (HH.out.to hb.out).keys.strAt (N1.out.1 ▸ hx)
   have hx' := hide hx
   clear hx
   generalize nsz N k = Z at *
   cases leaf with
   | false =>
    go_wp2
    go_roundw
    case rel => exact ⟨k + 1, by omega, by go_num, by rw [hs.out]; simp only [w64_add]; congr 2; rw [if_neg (by decide)]; omega, hb⟩
    case measure => simp [intOf]; omega
   | true =>
    by_cases hv : k < vals.length
    ·have hq' : (k : Int) < (vals.length : Int) := by omega
     obtain ⟨y, hy⟩ := some_el vals hv
     obtain ⟨b', off', rfl, hc2⟩ := (HH.out.to hb.out).vals.strAt (N1.out.2.1 ▸ hy)
     replace hy := hide hy
     go_wp2
     go_roundw
     case rel => exact ⟨k + 1, by omega, by go_num, by rw [hs.out]; simp only [w64_add]; congr 2; rw [if_pos trivial, hy.out]; simp only [Option.getD_some]; omega, hb⟩
     case measure => simp [intOf]; omega
    ·have hq' : ¬ (k : Int) < (vals.length : Int) := by omega
     go_wp2
     go_roundw
     case rel => exact ⟨k + 1, by omega, by go_num, by rw [hs.out]; simp only [w64_add]; congr 2; rw [if_pos trivial, List.getElem?_eq_none (by omega)]; simp only [Option.getD_none, List.length_nil]; omega, hb⟩
     case measure => simp [intOf]; omega
  ·have hq : ¬ (k : Int) < (keys.length : Int) := by omega
   obtain rfl : k = keys.length := by omega
   cases leaf with
   | false =>
    have hr := hide (show wrap64 (wrap64 (nsz N keys.length) + wrap64 (4 * (kids.length : Int))) = wrap64 (nsize N) by rw [w64_add, w64_add']; unfold nsize; rw [N1.out.1, N1.out.2.2.1, N1.out.2.2.2]; rfl)
    go_wp2
    go_ret
    exact ⟨ret_int hr.out, HB.out.trans (hb.out.mono HB.out.size)⟩
   | true =>
    have hr := hide (show wrap64 (nsz N keys.length) = wrap64 (nsize N) by unfold nsize; rw [N1.out.1, N1.out.2.2.1, N1.out.2.2.2]; simp)
    go_wp2
    go_ret
    exact ⟨ret_int hr.out, HB.out.trans (hb.out.mono HB.out.size)⟩
end Go.Proofs.YtpiikmkajckccaaGreat

namespace Go.Proofs.YtpiikmkajckccaaGreat
open Go.RowKit
theorem ncheck_key {n : Nd} {k : Nat} (hk : k < n.keys.length) (h : ¬ nkOk n k) : ncheck n = 91 := by
 unfold ncheck
 rw [if_neg fun hh => h (hh k hk)]
theorem ncheck_count {n : Nd} (h1 : nkeys n n.keys.length) (h : ¬ ncount n) : ncheck n = 3 := by
 unfold ncheck
 rw [if_pos h1, if_neg h]
theorem ncheck_val {n : Nd} (h1 : nkeys n n.keys.length) (h2 : ncount n) {k : Nat} (hk : k < n.vals.length) (h : ¬ (n.vals[k]?.getD []).length ≤ 64) : ncheck n = 5 := by
 unfold ncheck
 rw [if_pos h1, if_pos h2, if_neg fun hh => h (hh k hk)]
theorem ncheck_kid {n : Nd} (h1 : nkeys n n.keys.length) (h2 : ncount n) (h3 : nvals n n.vals.length) {k : Nat} (hk : k < n.kids.length) (h : ¬ (1 ≤ n.kids[k]?.getD 0 ∧ n.kids[k]?.getD 0 ≤ 65536)) : ncheck n = 4 := by
 unfold ncheck
 rw [if_pos h1, if_pos h2, if_pos h3, if_neg fun hh => h (hh k hk)]
theorem ncheck_full {n : Nd} (h1 : nkeys n n.keys.length) (h2 : ncount n) (h3 : nvals n n.vals.length) (h4 : nkids n n.kids.length) : ncheck n = if 244 < nsize n then 51 else 0 := by
 unfold ncheck
 rw [if_pos h1, if_pos h2, if_pos h3, if_pos h4]
def nfit (n : Nd) : Prop := n.keys.length ≤ 140737488355328 ∧ n.vals.length ≤ 140737488355328 ∧ n.kids.length ≤ 140737488355328
theorem nsize_le {n : Nd} (h0 : nfit n) (h1 : nkeys n n.keys.length) (h2 : ncount n) (h3 : nvals n n.vals.length) : 0 ≤ nsize n ∧ nsize n ≤ 18014398509481984 := by
 have a := nsz_le n n.keys.length (fun k hk => (h1 k hk).2.1) (fun hl k hk => h3 k (by unfold ncount at h2; rw [if_pos hl] at h2; omega)) n.keys.length (Nat.le_refl _)
 have b := nsz_ge n n.keys.length
 unfold nsize
 unfold nfit at h0
 split <;> omega
def NInv (w W : World) (n : Nd) (kv vv dv : Value) (wr : World) : Prop := Below W.heap.size W wr ∧ (wr.cell? ⟨w.heap.size, 0, none⟩ = some (.bool n.leaf) ∧ wr.cell? ⟨w.heap.size, 1, none⟩ = some kv ∧ wr.cell? ⟨w.heap.size, 2, none⟩ = some vv ∧ wr.cell? ⟨w.heap.size, 3, none⟩ = some dv) ∧ RdN wr kv vv dv n
theorem NInv.to {w W : World} {n : Nd} {kv vv dv : Value} {wr w' : World} (h : NInv w W n kv vv dv wr) (hb : Below wr.heap.size wr w') : NInv w W n kv vv dv w' :=
 ⟨h.1.trans (hb.mono h.1.size), ⟨(hb.cell (cell_lt h.2.1.1)).trans h.2.1.1, (hb.cell (cell_lt h.2.1.2.1)).trans h.2.1.2.1, (hb.cell (cell_lt h.2.1.2.2.1)).trans h.2.1.2.2.1, (hb.cell (cell_lt h.2.1.2.2.2)).trans h.2.1.2.2.2⟩, h.2.2.to hb⟩
set_option maxRecDepth 100000 in
set_option maxHeartbeats 4000000 in
theorem rcheck9_any (w : World) (kv vv dv : Value) (n : Nd) (h : RdN w kv vv dv n) (hf : nfit n) :
  Calls Tryz.prog 109 #[nv n kv vv dv] w fun e w' => e = .returned (.int .i64 (ncheck n)) ∧ Below w.heap.size w w' := by
 have lk := h.keys.bd
 have lv := h.vals.bd
 have ld := h.kids.bd
 obtain ⟨a, c, a', c', a'', c'', rfl, rfl, rfl⟩ := h.slices
 obtain ⟨leaf, keys, vals, kids⟩ := n
 dsimp only [nv] at *
 obtain ⟨W, hW, D, bW, sW⟩ := boxedN w #[.bool leaf, .slice a keys.length c, .slice a' vals.length c', .slice a'' kids.length c''] 145
 replace h := h.to bW
 have HB := hide bW
 obtain ⟨D4, _⟩ := cells4 D
 have HI : Hid (NInv w W _ _ _ _ W) := hide ⟨Below.refl _ _, D4, h⟩
 obtain ⟨D0, D1, D2, D3⟩ := D4
 clear h bW D
 rw [hW] at D0 D1 D2 D3
 generalize hN : (⟨leaf, keys, vals, kids⟩ : Nd) = N at *
 have N1 : Hid (N.keys = keys ∧ N.vals = vals ∧ N.kids = kids ∧ N.leaf = leaf) := by subst hN; exact ⟨rfl, rfl, rfl, rfl⟩
 replace hN := hide hN
 replace hf := hide hf
 go_enter Tryz.func109, Tryz.ntmps109
 go_wp2
 rw [← hW]
 replace hW := hide hW
 clear D0 D1 D2 D3
 go_loopw [3] (fun b wr => ∃ k : Nat, k ≤ keys.length ∧ b = .int .i64 k ∧ Hid (nkeys N k ∧ NInv w W N (.slice a keys.length c) (.slice a' vals.length c') (.slice a'' kids.length c'') wr)) (fun b _ => keys.length - (intOf b).toNat)
 case atStart => exact ⟨0, Nat.zero_le _, rfl, hide ⟨fun k hk => by omega, HI.out⟩⟩
 case round =>
  obtain ⟨k, hk, rfl, hb⟩ := hrel
  obtain ⟨D0, D1, D2, D3⟩ := hb.out.2.2.1
  rw [N1.out.2.2.2] at D0
  have hE : Hid (∀ w', Below wr.heap.size wr w' → Below w.heap.size w w') := fun w' b => HB.out.trans ((hb.out.2.to b).1.mono HB.out.size)
  by_cases hlt : k < keys.length
  ·have hq : (k : Int) < (keys.length : Int) := by omega
   obtain ⟨x, hx⟩ := some_el keys hlt
   have hnk : Hid (nkey N k = x) := by show _ = _; unfold nkey; rw [N1.out.1, hx]; rfl
   have hbad : Hid (¬ nkOk N k → ncheck N = 91) := fun hn => ncheck_key (by rw [N1.out.1]; exact hlt) hn
   obtain ⟨b, off, rfl, hc1⟩ := hb.out.2.2.2.keys.strAt (N1.out.1 ▸ hx)
   have hx' := hide hx
   clear hx
   by_cases c1 : (x.length : Int) < 1
   ·have g1 : decide ((x.length : Int) < 1) = true := decide_eq_true c1
    have hr : Hid (ncheck N = 91) := hbad.out fun hn => by have := hn.1; rw [hnk.out] at this; omega
    go_wp2_with fail
    go_quiet (fail)
    go_wp2
    go_ret
    exact ⟨ret_int hr.out.symm, hE.out _ (below_drewN' wr _ _)⟩
   have g1 : decide ((x.length : Int) < 1) = false := decide_eq_false c1
   by_cases c2 : (32 : Int) < (x.length : Int)
   ·have g2 : decide ((32 : Int) < (x.length : Int)) = true := decide_eq_true c2
    have hr : Hid (ncheck N = 91) := hbad.out fun hn => by have := hn.2.1; rw [hnk.out] at this; omega
    go_wp2_with fail
    go_quiet (fail)
    go_wp2
    go_ret
    exact ⟨ret_int hr.out.symm, hE.out _ (below_drewN' wr _ _)⟩
   have g2 : decide ((32 : Int) < (x.length : Int)) = false := decide_eq_false c2
   by_cases c3 : k = 0
   ·have g3 : decide (0 < k) = false := decide_eq_false (by omega)
    have hr : Hid (nkeys N (k + 1)) := (nkeys_succ N k).2 ⟨hb.out.1, by rw [nkOk, hnk.out]; exact ⟨by omega, by omega, fun h => by omega⟩⟩
    replace c3 := hide c3
    go_wp2_with fail
    go_quiet (fail)
    go_wp2
    go_roundw
    case rel => exact ⟨k + 1, by omega, by go_num, hide ⟨hr.out, hb.out.2.to (below_drewN' wr _ _)⟩⟩
    case measure => simp [intOf]; omega
   obtain ⟨j, hj⟩ : ∃ j, k = j + 1 := ⟨k - 1, by omega⟩
   have g3 : decide (0 < k) = true := decide_eq_true (by omega)
   have hj1 : (k : Int) - 1 = (j : Int) := by omega
   have hj2 : (j : Int) < (keys.length : Int) := by omega
   have hj3 : IntKind.i64.wrap (j : Int) = (j : Int) := IntWalk.i64_in _ (by omega)
   obtain ⟨y, hy⟩ := some_el keys (k := j) (by omega)
   have hny : Hid (nkey N j = y) := by show _ = _; unfold nkey; rw [N1.out.1, hy]; rfl
   obtain ⟨b', off', e, hc0⟩ := hb.out.2.2.2.keys.strAt (N1.out.1 ▸ hy)
   simp only [Option.some.injEq, Addr.mk.injEq, and_true] at e
   obtain ⟨rfl, rfl⟩ := e
   replace hy := hide hy
   have hj' : Hid (k - 1 = j) := by show _ = _; omega
   replace hj := hide hj
   by_cases c4 : slt y x = true
   ·have e1 : Op.bytesLess x y = false := slt_asym c4
    have e2 : (x == y) = false := by
     apply Bool.eq_false_iff.2
     intro e
     have : x = y := by simpa using e
     subst this; rw [slt_irr] at c4; cases c4
    have hr : Hid (nkeys N (k + 1)) := (nkeys_succ N k).2 ⟨hb.out.1, by rw [nkOk, hnk.out, hj'.out, hny.out]; exact ⟨by omega, by omega, fun h => c4⟩⟩
    clear c4
    go_wp2_with fail
    go_quiet (fail)
    go_wp2
    go_roundw
    case rel => exact ⟨k + 1, by omega, by go_num, hide ⟨hr.out, hb.out.2.to (below_drewN' wr _ _)⟩⟩
    case measure => simp [intOf]; omega
   ·have hr : Hid (ncheck N = 91) := hbad.out fun hn => by have := hn.2.2 (by omega); rw [hnk.out, hj'.out, hny.out] at this; exact c4 this
    have hle : (Op.bytesLess x y || x == y) = true := by rw [sle_iff]; simpa using c4
    clear c4
    cases e1 : Op.bytesLess x y with
    | true =>
     clear hle
     go_wp2_with fail
     go_quiet (fail)
     go_wp2
     go_ret
     exact ⟨ret_int hr.out.symm, hE.out _ (below_drewN' wr _ _)⟩
    | false =>
     have e2 : (x == y) = true := by simpa [e1] using hle
     clear hle
     go_wp2_with fail
     go_quiet (fail)
     go_wp2
     go_ret
     exact ⟨ret_int hr.out.symm, hE.out _ (below_drewN' wr _ _)⟩
  ·have hq : ¬ (k : Int) < (keys.length : Int) := by omega
   obtain rfl : k = keys.length := by omega
   have hK : Hid (nkeys N N.keys.length) := by show nkeys _ _; rw [N1.out.1]; exact hb.out.1
   have hI := hide hb.out.2
   clear hb
   by_cases hc : ncount N
   ·replace hc := hide hc
    cases leaf with
    | false =>
     have q := hc.out
     unfold ncount at q
     rw [N1.out.1, N1.out.2.1, N1.out.2.2.1, N1.out.2.2.2, if_neg (by decide)] at q
     have g1 : decide (0 < vals.length) = false := decide_eq_false (by omega)
     have g2 : decide ((keys.length : Int) < 1) = false := decide_eq_false (by omega)
     have g3 : ((kids.length : Int) != wrap64 ((keys.length : Int) + 1)) = false := by rw [IntWalk.wrap64_in _ (by omega)]; simp; omega
     clear q
     go_wp2
     clear D0 D1 D2 D3 g1 g2 g3 hE
     go_loopw [4] (fun b wr => ∃ k : Nat, k ≤ vals.length ∧ b = .int .i64 k ∧ Hid (nvals N k ∧ NInv w W N (.slice a keys.length c) (.slice a' vals.length c') (.slice a'' kids.length c'') wr)) (fun b _ => vals.length - (intOf b).toNat)
     case atStart => exact ⟨0, Nat.zero_le _, rfl, hide ⟨fun k hk => by omega, hI.out⟩⟩
     case round =>
      obtain ⟨k, hk, rfl, hb⟩ := hrel
      obtain ⟨D0, D1, D2, D3⟩ := hb.out.2.2.1
      rw [N1.out.2.2.2] at D0
      have hE : Hid (∀ w', Below wr.heap.size wr w' → Below w.heap.size w w') := fun w' b => HB.out.trans ((hb.out.2.to b).1.mono HB.out.size)
      by_cases hlt : k < vals.length
      ·have hq : (k : Int) < (vals.length : Int) := by omega
       obtain ⟨x, hx⟩ := some_el vals hlt
       have hnx : Hid (N.vals[k]?.getD [] = x) := by show _ = _; rw [N1.out.2.1, hx]; rfl
       obtain ⟨b, off, rfl, hc1⟩ := hb.out.2.2.2.vals.strAt (N1.out.2.1 ▸ hx)
       replace hx := hide hx
       by_cases c1 : (64 : Int) < (x.length : Int)
       ·have hr : Hid (ncheck N = 5) := ncheck_val hK.out hc.out (k := k) (by rw [N1.out.2.1]; exact hlt) (by rw [hnx.out]; omega)
        go_wp2
        go_ret
        exact ⟨ret_int hr.out.symm, hE.out _ (Below.refl _ _)⟩
       ·have hr : Hid (nvals N (k + 1)) := (nvals_succ N k).2 ⟨hb.out.1, by rw [hnx.out]; omega⟩
        go_wp2
        go_roundw
        case rel => exact ⟨k + 1, by omega, by go_num, hide ⟨hr.out, hb.out.2⟩⟩
        case measure => simp [intOf]; omega
      ·have hq : ¬ (k : Int) < (vals.length : Int) := by omega
       obtain rfl : k = vals.length := by omega
       have hV : Hid (nvals N N.vals.length) := by show nvals _ _; rw [N1.out.2.1]; exact hb.out.1
       have hI := hide hb.out.2
       clear hb
       go_wp2
       clear D0 D1 D2 D3 hE
       go_loopw [5] (fun b wr => ∃ k : Nat, k ≤ kids.length ∧ b = .int .i64 k ∧ Hid (nkids N k ∧ NInv w W N (.slice a keys.length c) (.slice a' vals.length c') (.slice a'' kids.length c'') wr)) (fun b _ => kids.length - (intOf b).toNat)
       case atStart => exact ⟨0, Nat.zero_le _, rfl, hide ⟨fun k hk => by omega, hI.out⟩⟩
       case round =>
        obtain ⟨k, hk, rfl, hb⟩ := hrel
        obtain ⟨D0, D1, D2, D3⟩ := hb.out.2.2.1
        rw [N1.out.2.2.2] at D0
        have hE : Hid (∀ w', Below wr.heap.size wr w' → Below w.heap.size w w') := fun w' b => HB.out.trans ((hb.out.2.to b).1.mono HB.out.size)
        by_cases hlt : k < kids.length
        ·have hq : (k : Int) < (kids.length : Int) := by omega
         obtain ⟨x, hx⟩ := some_el kids hlt
         have hnx : Hid (N.kids[k]?.getD 0 = x) := by show _ = _; rw [N1.out.2.2.1, hx]; rfl
         obtain ⟨b, off, rfl, hc1⟩ := hb.out.2.2.2.kids.intAt (N1.out.2.2.1 ▸ hx)
         replace hx := hide hx
         by_cases c1 : x < 1
         ·have hr : Hid (ncheck N = 4) := ncheck_kid hK.out hc.out hV.out (k := k) (by rw [N1.out.2.2.1]; exact hlt) (by rw [hnx.out]; omega)
          go_wp2
          go_ret
          exact ⟨ret_int hr.out.symm, hE.out _ (Below.refl _ _)⟩
         by_cases c2 : 65536 < x
         ·have hr : Hid (ncheck N = 4) := ncheck_kid hK.out hc.out hV.out (k := k) (by rw [N1.out.2.2.1]; exact hlt) (by rw [hnx.out]; omega)
          go_wp2
          go_ret
          exact ⟨ret_int hr.out.symm, hE.out _ (Below.refl _ _)⟩
         ·have hr : Hid (nkids N (k + 1)) := (nkids_succ N k).2 ⟨hb.out.1, by rw [hnx.out]; omega⟩
          go_wp2
          go_roundw
          case rel => exact ⟨k + 1, by omega, by go_num, hide ⟨hr.out, hb.out.2⟩⟩
          case measure => simp [intOf]; omega
        ·have hq : ¬ (k : Int) < (kids.length : Int) := by omega
         obtain rfl : k = kids.length := by omega
         have hD : Hid (nkids N N.kids.length) := by show nkids _ _; rw [N1.out.2.2.1]; exact hb.out.1
         have KK := hide (rsize_any wr _ _ _ N hb.out.2.2.2)
         rw [nv, N1.out.2.2.2] at KK
         have hz := nsize_le hf.out hK.out hc.out hV.out
         rw [IntWalk.wrap64_in _ (by omega)] at KK
         have hr := hide (ncheck_full hK.out hc.out hV.out hD.out)
         generalize nsize N = Z at *
         clear hb
         go_wp2_with fail
         refine KK.out.mono ?_
         rintro e w2 ⟨rfl, b2⟩
         replace b2 := hide b2
         by_cases hz2 : 244 < Z
         ·go_wp2
          go_ret
          exact ⟨ret_int (by rw [hr.out, if_pos hz2]), hE.out _ b2.out⟩
         ·go_wp2
          go_ret
          exact ⟨ret_int (by rw [hr.out, if_neg (by omega)]), hE.out _ b2.out⟩
    | true =>
     have q := hc.out
     unfold ncount at q
     rw [N1.out.1, N1.out.2.1, N1.out.2.2.1, N1.out.2.2.2, if_pos rfl] at q
     have g1 : ((vals.length : Int) != (keys.length : Int)) = false := by simp; omega
     have g2 : decide (0 < kids.length) = false := decide_eq_false (by omega)
     clear q
     go_wp2
     clear D0 D1 D2 D3 g1 g2 hE
     go_loopw [4] (fun b wr => ∃ k : Nat, k ≤ vals.length ∧ b = .int .i64 k ∧ Hid (nvals N k ∧ NInv w W N (.slice a keys.length c) (.slice a' vals.length c') (.slice a'' kids.length c'') wr)) (fun b _ => vals.length - (intOf b).toNat)
     case atStart => exact ⟨0, Nat.zero_le _, rfl, hide ⟨fun k hk => by omega, hI.out⟩⟩
     case round =>
      obtain ⟨k, hk, rfl, hb⟩ := hrel
      obtain ⟨D0, D1, D2, D3⟩ := hb.out.2.2.1
      rw [N1.out.2.2.2] at D0
      have hE : Hid (∀ w', Below wr.heap.size wr w' → Below w.heap.size w w') := fun w' b => HB.out.trans ((hb.out.2.to b).1.mono HB.out.size)
      by_cases hlt : k < vals.length
      ·have hq : (k : Int) < (vals.length : Int) := by omega
       obtain ⟨x, hx⟩ := some_el vals hlt
       have hnx : Hid (N.vals[k]?.getD [] = x) := by show _ = _; rw [N1.out.2.1, hx]; rfl
       obtain ⟨b, off, rfl, hc1⟩ := hb.out.2.2.2.vals.strAt (N1.out.2.1 ▸ hx)
       replace hx := hide hx
       by_cases c1 : (64 : Int) < (x.length : Int)
       ·have hr : Hid (ncheck N = 5) := ncheck_val hK.out hc.out (k := k) (by rw [N1.out.2.1]; exact hlt) (by rw [hnx.out]; omega)
        go_wp2
        go_ret
        exact ⟨ret_int hr.out.symm, hE.out _ (Below.refl _ _)⟩
       ·have hr : Hid (nvals N (k + 1)) := (nvals_succ N k).2 ⟨hb.out.1, by rw [hnx.out]; omega⟩
        go_wp2
        go_roundw
        case rel => exact ⟨k + 1, by omega, by go_num, hide ⟨hr.out, hb.out.2⟩⟩
        case measure => simp [intOf]; omega
      ·have hq : ¬ (k : Int) < (vals.length : Int) := by omega
       obtain rfl : k = vals.length := by omega
       have hV : Hid (nvals N N.vals.length) := by show nvals _ _; rw [N1.out.2.1]; exact hb.out.1
       have hI := hide hb.out.2
       clear hb
       go_wp2
       clear D0 D1 D2 D3 hE
       go_loopw [5] (fun b wr => ∃ k : Nat, k ≤ kids.length ∧ b = .int .i64 k ∧ Hid (nkids N k ∧ NInv w W N (.slice a keys.length c) (.slice a' vals.length c') (.slice a'' kids.length c'') wr)) (fun b _ => kids.length - (intOf b).toNat)
       case atStart => exact ⟨0, Nat.zero_le _, rfl, hide ⟨fun k hk => by omega, hI.out⟩⟩
       case round =>
        obtain ⟨k, hk, rfl, hb⟩ := hrel
        obtain ⟨D0, D1, D2, D3⟩ := hb.out.2.2.1
        rw [N1.out.2.2.2] at D0
        have hE : Hid (∀ w', Below wr.heap.size wr w' → Below w.heap.size w w') := fun w' b => HB.out.trans ((hb.out.2.to b).1.mono HB.out.size)
        by_cases hlt : k < kids.length
        ·have hq : (k : Int) < (kids.length : Int) := by omega
         obtain ⟨x, hx⟩ := some_el kids hlt
         have hnx : Hid (N.kids[k]?.getD 0 = x) := by show _ = _; rw [N1.out.2.2.1, hx]; rfl
         obtain ⟨b, off, rfl, hc1⟩ := hb.out.2.2.2.kids.intAt (N1.out.2.2.1 ▸ hx)
         replace hx := hide hx
         by_cases c1 : x < 1
         ·have hr : Hid (ncheck N = 4) := ncheck_kid hK.out hc.out hV.out (k := k) (by rw [N1.out.2.2.1]; exact hlt) (by rw [hnx.out]; omega)
          go_wp2
          go_ret
          exact ⟨ret_int hr.out.symm, hE.out _ (Below.refl _ _)⟩
         by_cases c2 : 65536 < x
         ·have hr : Hid (ncheck N = 4) := ncheck_kid hK.out hc.out hV.out (k := k) (by rw [N1.out.2.2.1]; exact hlt) (by rw [hnx.out]; omega)
          go_wp2
          go_ret
          exact ⟨ret_int hr.out.symm, hE.out _ (Below.refl _ _)⟩
         ·have hr : Hid (nkids N (k + 1)) := (nkids_succ N k).2 ⟨hb.out.1, by rw [hnx.out]; omega⟩
          go_wp2
          go_roundw
          case rel => exact ⟨k + 1, by omega, by go_num, hide ⟨hr.out, hb.out.2⟩⟩
          case measure => simp [intOf]; omega
        ·have hq : ¬ (k : Int) < (kids.length : Int) := by omega
         obtain rfl : k = kids.length := by omega
         have hD : Hid (nkids N N.kids.length) := by show nkids _ _; rw [N1.out.2.2.1]; exact hb.out.1
         have KK := hide (rsize_any wr _ _ _ N hb.out.2.2.2)
         rw [nv, N1.out.2.2.2] at KK
         have hz := nsize_le hf.out hK.out hc.out hV.out
         rw [IntWalk.wrap64_in _ (by omega)] at KK
         have hr := hide (ncheck_full hK.out hc.out hV.out hD.out)
         generalize nsize N = Z at *
         clear hb
         go_wp2_with fail
         refine KK.out.mono ?_
         rintro e w2 ⟨rfl, b2⟩
         replace b2 := hide b2
         by_cases hz2 : 244 < Z
         ·go_wp2
          go_ret
          exact ⟨ret_int (by rw [hr.out, if_pos hz2]), hE.out _ b2.out⟩
         ·go_wp2
          go_ret
          exact ⟨ret_int (by rw [hr.out, if_neg (by omega)]), hE.out _ b2.out⟩
   ·have hr : Hid (ncheck N = 3) := ncheck_count hK.out hc
    unfold ncount at hc
    rw [N1.out.1, N1.out.2.1, N1.out.2.2.1, N1.out.2.2.2] at hc
    clear hI
    cases leaf with
    | false =>
     rw [if_neg (by decide)] at hc
     by_cases c1 : 0 < vals.length
     ·have g1 : decide (0 < vals.length) = true := decide_eq_true c1
      clear hc c1
      go_wp2
      go_ret
      exact ⟨ret_int hr.out.symm, hE.out _ (Below.refl _ _)⟩
     have g1 : decide (0 < vals.length) = false := decide_eq_false c1
     by_cases c2 : (keys.length : Int) < 1
     ·have g2 : decide ((keys.length : Int) < 1) = true := decide_eq_true c2
      clear hc c1
      go_wp2
      go_ret
      exact ⟨ret_int hr.out.symm, hE.out _ (Below.refl _ _)⟩
     have g2 : decide ((keys.length : Int) < 1) = false := decide_eq_false c2
     have g3 : ((kids.length : Int) != wrap64 ((keys.length : Int) + 1)) = true := by rw [IntWalk.wrap64_in _ (by have := hf.out.1; rw [N1.out.1] at this; omega)]; simp; omega
     clear hc c1 c2
     go_wp2
     go_ret
     exact ⟨ret_int hr.out.symm, hE.out _ (Below.refl _ _)⟩
    | true =>
     rw [if_pos rfl] at hc
     by_cases c1 : vals.length = keys.length
     ·have g1 : ((vals.length : Int) != (keys.length : Int)) = false := by simp; omega
      have g2 : decide (0 < kids.length) = true := decide_eq_true (by omega)
      clear hc c1
      go_wp2
      go_ret
      exact ⟨ret_int hr.out.symm, hE.out _ (Below.refl _ _)⟩
     ·have g1 : ((vals.length : Int) != (keys.length : Int)) = true := by simp; omega
      clear hc c1
      go_wp2
      go_ret
      exact ⟨ret_int hr.out.symm, hE.out _ (Below.refl _ _)⟩
end Go.Proofs.YtpiikmkajckccaaGreat

namespace Go.Proofs.YtpiikmkajckccaaGreat
open Go.RowKit
theorem ieq_t {a b : Int} (h : a = b) : (a == b) = true := by simp [h]
theorem ieq_f {a b : Int} (h : a ≠ b) : (a == b) = false := by simp [h]
set_option maxRecDepth 100000 in
set_option maxHeartbeats 2000000 in
theorem pkeys_any (w : World) (v : Value) (N : Nd) (h : RdT w v N.keys) :
  Calls Tryz.prog 114 #[v] w fun e w' => e = .returned (.bool (decide (nkeys N N.keys.length))) ∧ w = w' := by
 have lk := h.bd
 obtain ⟨a, c, rfl⟩ := h.slice
 obtain ⟨keys, hkeys⟩ : ∃ l, l = N.keys := ⟨_, rfl⟩
 rw [← hkeys] at h lk ⊢
 obtain ⟨R, hR⟩ : ∃ R, R = decide (nkeys N keys.length) := ⟨_, rfl⟩
 rw [← hR]
 replace hR := hide hR
 have HH := hide h
 replace hkeys := hide hkeys
 clear h
 go_enter Tryz.func114, Tryz.ntmps114
 go_wp2
 go_loopw [7] (fun i wr => ∃ k : Nat, k ≤ keys.length ∧ i = .int .i64 k ∧ w = wr ∧ Hid (nkeys N k)) (fun i _ => keys.length - (intOf i).toNat)
 case atStart => exact ⟨0, Nat.zero_le _, rfl, rfl, hide (fun k hk => by omega)⟩
 case round =>
  obtain ⟨k, hk, rfl, rfl, hb⟩ := hrel
  by_cases hlt : k < keys.length
  ·have hq : (k : Int) < (keys.length : Int) := by omega
   obtain ⟨x, hx⟩ := some_el keys hlt
   have hnk : Hid (nkey N k = x) := by show _ = _; unfold nkey; rw [← hkeys.out, hx]; rfl
   have hbad : Hid (¬ nkOk N k → R = false) := fun hn => by rw [hR.out]; exact decide_eq_false fun hh => hn (hh k hlt)
   obtain ⟨b, off, rfl, hc1⟩ := HH.out.strAt hx
   replace hx := hide hx
   by_cases c1 : (x.length : Int) < 1
   ·have g1 : decide ((x.length : Int) < 1) = true := decide_eq_true c1
    have hr : Hid (R = false) := hbad.out fun hn => by have := hn.1; rw [hnk.out] at this; omega
    go_wp2
    go_ret
    exact ⟨ret_bool hr.out.symm, rfl⟩
   have g1 : decide ((x.length : Int) < 1) = false := decide_eq_false c1
   by_cases c2 : (32 : Int) < (x.length : Int)
   ·have g2 : decide ((32 : Int) < (x.length : Int)) = true := decide_eq_true c2
    have hr : Hid (R = false) := hbad.out fun hn => by have := hn.2.1; rw [hnk.out] at this; omega
    go_wp2
    go_ret
    exact ⟨ret_bool hr.out.symm, rfl⟩
   have g2 : decide ((32 : Int) < (x.length : Int)) = false := decide_eq_false c2
   by_cases c3 : k = 0
   ·have g3 : decide (0 < k) = false := decide_eq_false (by omega)
    have hr : Hid (nkeys N (k + 1)) := (nkeys_succ N k).2 ⟨hb.out, by rw [nkOk, hnk.out]; exact ⟨by omega, by omega, fun h => by omega⟩⟩
    replace c3 := hide c3
    go_wp2
    go_roundw
    case rel => exact ⟨k + 1, by omega, by go_num, trivial, hr⟩
    case measure => simp [intOf]; omega
   obtain ⟨j, hj⟩ : ∃ j, k = j + 1 := ⟨k - 1, by omega⟩
   have g3 : decide (0 < k) = true := decide_eq_true (by omega)
   have hj1 : (k : Int) - 1 = (j : Int) := by omega
   have hj2 : (j : Int) < (keys.length : Int) := by omega
   have hj3 : IntKind.i64.wrap (j : Int) = (j : Int) := IntWalk.i64_in _ (by omega)
   obtain ⟨y, hy⟩ := some_el keys (k := j) (by omega)
   have hny : Hid (nkey N j = y) := by show _ = _; unfold nkey; rw [← hkeys.out, hy]; rfl
   obtain ⟨b', off', e, hc0⟩ := HH.out.strAt hy
   simp only [Option.some.injEq, Addr.mk.injEq, and_true] at e
   obtain ⟨rfl, rfl⟩ := e
   replace hy := hide hy
   have hj' : Hid (k - 1 = j) := by show _ = _; omega
   replace hj := hide hj
   by_cases c4 : slt y x = true
   ·have e1 : Op.bytesLess x y = false := slt_asym c4
    have e2 : (x == y) = false := by
     apply Bool.eq_false_iff.2
     intro e
     have : x = y := by simpa using e
     subst this; rw [slt_irr] at c4; cases c4
    have hr : Hid (nkeys N (k + 1)) := (nkeys_succ N k).2 ⟨hb.out, by rw [nkOk, hnk.out, hj'.out, hny.out]; exact ⟨by omega, by omega, fun h => c4⟩⟩
    clear c4
    go_wp2
    go_roundw
    case rel => exact ⟨k + 1, by omega, by go_num, trivial, hr⟩
    case measure => simp [intOf]; omega
   ·have hr : Hid (R = false) := hbad.out fun hn => by have := hn.2.2 (by omega); rw [hnk.out, hj'.out, hny.out] at this; exact c4 this
    have hle : (Op.bytesLess x y || x == y) = true := by rw [sle_iff]; simpa using c4
    clear c4
    cases e1 : Op.bytesLess x y with
    | true =>
     clear hle
     go_wp2
     go_ret
     exact ⟨ret_bool hr.out.symm, rfl⟩
    | false =>
     have e2 : (x == y) = true := by simpa [e1] using hle
     clear hle
     go_wp2
     go_ret
     exact ⟨ret_bool hr.out.symm, rfl⟩
  ·have hq : ¬ (k : Int) < (keys.length : Int) := by omega
   obtain rfl : k = keys.length := by omega
   have hr : Hid (R = true) := by show _ = _; rw [hR.out]; exact decide_eq_true hb.out
   go_wp2
   go_ret
   exact ⟨ret_bool hr.out.symm, rfl⟩
set_option maxRecDepth 100000 in
set_option maxHeartbeats 1000000 in
theorem pcounts_any (w : World) (kv vv dv : Value) (n : Nd) (h : RdN w kv vv dv n) :
  Calls Tryz.prog 115 #[nv n kv vv dv] w fun e w' => e = .returned (.bool (decide (ncount n))) ∧ Below w.heap.size w w' := by
 have lk := h.keys.bd
 have lv := h.vals.bd
 have ld := h.kids.bd
 obtain ⟨a, c, a', c', a'', c'', rfl, rfl, rfl⟩ := h.slices
 obtain ⟨leaf, keys, vals, kids⟩ := n
 dsimp only [nv] at *
 obtain ⟨W, hW, D, bW, sW⟩ := boxedN w #[.bool leaf, .slice a keys.length c, .slice a' vals.length c', .slice a'' kids.length c''] 98
 obtain ⟨⟨D0, D1, D2, D3⟩, _⟩ := cells4 D
 have HB := hide bW
 clear bW D h
 rw [hW] at D0 D1 D2 D3
 rw [hW] at HB
 clear hW sW
 cases leaf with
 | true =>
  have hr : Hid (decide (ncount ⟨true, keys, vals, kids⟩) = (decide (vals.length = keys.length) && decide (kids.length = 0))) := by
   show _ = _; unfold ncount; simp
  rw [hr.out]
  clear hr
  by_cases c1 : vals.length = keys.length
  ·have c1' : ((vals.length : Int) == (keys.length : Int)) = true := ieq_t (by omega)
   by_cases c2 : kids.length = 0
   ·have c2' : ((kids.length : Int) == 0) = true := ieq_t (by omega)
    rw [decide_eq_true c1, decide_eq_true c2]
    clear c1 c2
    go_enter Tryz.func115, Tryz.ntmps115
    go_wp2
    go_ret
    exact ⟨rfl, HB.out⟩
   ·have c2' : ((kids.length : Int) == 0) = false := ieq_f (by omega)
    rw [decide_eq_true c1, decide_eq_false c2]
    clear c1 c2
    go_enter Tryz.func115, Tryz.ntmps115
    go_wp2
    go_ret
    exact ⟨rfl, HB.out⟩
  ·have c1' : ((vals.length : Int) == (keys.length : Int)) = false := ieq_f (by omega)
   rw [decide_eq_false c1]
   clear c1
   go_enter Tryz.func115, Tryz.ntmps115
   go_wp2
   go_ret
   exact ⟨rfl, HB.out⟩
 | false =>
  have hr : Hid (decide (ncount ⟨false, keys, vals, kids⟩) = (decide (vals.length = 0) && (decide (1 ≤ keys.length) && decide (kids.length = keys.length + 1)))) := by
   show _ = _; unfold ncount; simp
  rw [hr.out]
  clear hr
  by_cases c1 : vals.length = 0
  ·have c1' : ((vals.length : Int) == 0) = true := ieq_t (by omega)
   by_cases c2 : 1 ≤ keys.length
   ·have c2' : decide (0 < keys.length) = true := decide_eq_true (by omega)
    by_cases c3 : kids.length = keys.length + 1
    ·have c3' : ((kids.length : Int) == wrap64 ((keys.length : Int) + 1)) = true := by rw [IntWalk.wrap64_in _ (by omega)]; exact ieq_t (by omega)
     rw [decide_eq_true c1, decide_eq_true c2, decide_eq_true c3]
     clear c1 c2 c3
     go_enter Tryz.func115, Tryz.ntmps115
     go_wp2
     go_ret
     exact ⟨rfl, HB.out⟩
    ·have c3' : ((kids.length : Int) == wrap64 ((keys.length : Int) + 1)) = false := ieq_f (by unfold wrap64; omega)
     rw [decide_eq_true c1, decide_eq_true c2, decide_eq_false c3]
     clear c1 c2 c3
     go_enter Tryz.func115, Tryz.ntmps115
     go_wp2
     go_ret
     exact ⟨rfl, HB.out⟩
   ·have c2' : decide (0 < keys.length) = false := decide_eq_false (by omega)
    rw [decide_eq_true c1, decide_eq_false c2]
    clear c1 c2
    go_enter Tryz.func115, Tryz.ntmps115
    go_wp2
    go_ret
    exact ⟨rfl, HB.out⟩
  ·have c1' : ((vals.length : Int) == 0) = false := ieq_f (by omega)
   rw [decide_eq_false c1]
   clear c1
   go_enter Tryz.func115, Tryz.ntmps115
   go_wp2
   go_ret
   exact ⟨rfl, HB.out⟩
set_option maxRecDepth 100000 in
theorem pnopage_any (w : World) (x : Int) : Calls Tryz.prog 117 #[.int .i64 x] w fun e w' => e = .returned (.bool (decide (¬ (1 ≤ x ∧ x ≤ 65536)))) ∧ w = w' := by
 by_cases c1 : x < 1
 ·have g1 : decide (x < 1) = true := decide_eq_true c1
  rw [decide_eq_true (show ¬ (1 ≤ x ∧ x ≤ 65536) by omega)]
  clear c1
  go_enter Tryz.func117, Tryz.ntmps117
  go_wp2
  go_ret
  exact ⟨rfl, rfl⟩
 ·have g1 : decide (x < 1) = false := decide_eq_false c1
  by_cases c2 : 65536 < x
  ·have g2 : decide (65536 < x) = true := decide_eq_true c2
   rw [decide_eq_true (show ¬ (1 ≤ x ∧ x ≤ 65536) by omega)]
   clear c1 c2
   go_enter Tryz.func117, Tryz.ntmps117
   go_wp2
   go_ret
   exact ⟨rfl, rfl⟩
  ·have g2 : decide (65536 < x) = false := decide_eq_false c2
   rw [decide_eq_false (show ¬ ¬ (1 ≤ x ∧ x ≤ 65536) by omega)]
   clear c1 c2
   go_enter Tryz.func117, Tryz.ntmps117
   go_wp2
   go_ret
   exact ⟨rfl, rfl⟩
set_option maxRecDepth 100000 in
theorem plong9_any (w : World) (x : Str) : Calls Tryz.prog 113 #[st x] w fun e w' => e = .returned (.bool (decide (64 < x.length))) ∧ w = w' := by
 by_cases c1 : 64 < x.length
 ·have g1 : decide ((64 : Int) < (x.length : Int)) = true := decide_eq_true (by omega)
  rw [decide_eq_true c1]
  clear c1
  go_enter Tryz.func113, Tryz.ntmps113
  go_wp2
  go_ret
  exact ⟨by first | rfl | (apply ret_bool; simpa using g1), rfl⟩
 ·have g1 : decide ((64 : Int) < (x.length : Int)) = false := decide_eq_false (by omega)
  rw [decide_eq_false c1]
  clear c1
  go_enter Tryz.func113, Tryz.ntmps113
  go_wp2
  go_ret
  exact ⟨by first | rfl | (apply ret_bool; simpa using g1), rfl⟩
set_option maxRecDepth 100000 in
set_option maxHeartbeats 1000000 in
theorem pidxT_any (w : World) (v : Value) (N : Nd) (h : RdT w v N.vals) :
  Calls Tryz.prog 112 #[v, .func (.func 113) #[] #[]] w fun e w' => ∃ k : Int, e = .returned (.int .i64 k) ∧ (0 ≤ k ↔ ¬ nvals N N.vals.length) ∧ w = w' := by
 have lb := h.bd
 obtain ⟨a, c, rfl⟩ := h.slice
 obtain ⟨ws, hws⟩ : ∃ l, l = N.vals := ⟨_, rfl⟩
 rw [← hws] at h lb ⊢
 have HH := hide h
 replace hws := hide hws
 clear h
 go_enter Tryz.func112, Tryz.ntmps112
 go_wp2
 go_loopw [8] (fun i wr => ∃ k : Nat, k ≤ ws.length ∧ i = .int .i64 k ∧ w = wr ∧ Hid (nvals N k)) (fun i _ => ws.length - (intOf i).toNat)
 case atStart => exact ⟨0, Nat.zero_le _, rfl, rfl, hide (fun j hj => by omega)⟩
 case round =>
  obtain ⟨k, hk, rfl, rfl, hI⟩ := hrel
  by_cases hlt : k < ws.length
  ·have hq : (k : Int) < (ws.length : Int) := by omega
   obtain ⟨x, hx⟩ := some_el ws hlt
   have hnx : Hid (N.vals[k]?.getD [] = x) := by show _ = _; rw [← hws.out, hx]; rfl
   obtain ⟨b1, o1, rfl, hc1⟩ := HH.out.strAt hx
   have KK := hide (plong9_any w x)
   replace hx := hide hx
   go_wp2_with fail
   refine KK.out.mono ?_
   rintro e w' ⟨rfl, rfl⟩
   clear KK
   by_cases hl : 64 < x.length
   ·rw [decide_eq_true hl]
    have hE : Hid ((0 : Int) ≤ (k : Int) ↔ ¬ nvals N ws.length) := ⟨fun _ q => by have := q k hlt; rw [hnx.out] at this; omega, fun _ => by omega⟩
    replace hl := hide hl
    go_wp2
    go_ret
    exact ⟨_, rfl, hE.out, rfl⟩
   ·rw [decide_eq_false hl]
    have hI' : Hid (nvals N (k + 1)) := (nvals_succ N k).2 ⟨hI.out, by rw [hnx.out]; omega⟩
    replace hl := hide hl
    go_wp2
    go_roundw
    case rel => exact ⟨k + 1, by omega, by go_num, trivial, hI'⟩
    case measure => simp [intOf]; omega
  ·have hq : ¬ (k : Int) < (ws.length : Int) := by omega
   obtain rfl : k = ws.length := by omega
   have hE : Hid ((0 : Int) ≤ -1 ↔ ¬ nvals N ws.length) := ⟨fun q => by omega, fun q => absurd hI.out q⟩
   go_wp2
   go_ret
   exact ⟨_, rfl, hE.out, rfl⟩
set_option maxRecDepth 100000 in
theorem pconT_any (w : World) (v : Value) (N : Nd) (h : RdT w v N.vals) :
  Calls Tryz.prog 77 #[v, .func (.func 113) #[] #[]] w fun e w' => e = .returned (.bool (decide (¬ nvals N N.vals.length))) ∧ w = w' := by
 have KK := hide (pidxT_any w v N h)
 obtain ⟨a, c, rfl⟩ := h.slice
 obtain ⟨R, hR⟩ : ∃ R, R = decide (¬ nvals N N.vals.length) := ⟨_, rfl⟩
 rw [← hR]
 replace hR := hide hR
 clear h
 go_enter Tryz.func77, Tryz.ntmps77
 go_wp2_with fail
 refine KK.out.mono ?_
 rintro e w' ⟨k, rfl, hk, rfl⟩
 clear KK
 by_cases h0 : 0 ≤ k
 ·have hE : Hid (R = true) := by show _ = _; rw [hR.out]; exact decide_eq_true (hk.1 h0)
  clear hk
  go_wp2
  go_ret
  exact ⟨ret_bool (by rw [hE.out]; try (first | rfl | simpa using h0)), rfl⟩
 ·have hE : Hid (R = false) := by show _ = _; rw [hR.out]; exact decide_eq_false fun q => h0 (hk.2 q)
  clear hk
  go_wp2
  go_ret
  exact ⟨ret_bool (by rw [hE.out]; try (first | rfl | simpa using h0)), rfl⟩
set_option maxRecDepth 100000 in
set_option maxHeartbeats 1000000 in
theorem pidxI_any (w : World) (v : Value) (N : Nd) (h : RdI w v N.kids) :
  Calls Tryz.prog 138 #[v, .func (.func 117) #[] #[]] w fun e w' => ∃ k : Int, e = .returned (.int .i64 k) ∧ (0 ≤ k ↔ ¬ nkids N N.kids.length) ∧ w = w' := by
 have lb := h.bd
 obtain ⟨a, c, rfl⟩ := h.slice
 obtain ⟨ws, hws⟩ : ∃ l, l = N.kids := ⟨_, rfl⟩
 rw [← hws] at h lb ⊢
 have HH := hide h
 replace hws := hide hws
 clear h
 go_enter Tryz.func138, Tryz.ntmps138
 go_wp2
 go_loopw [8] (fun i wr => ∃ k : Nat, k ≤ ws.length ∧ i = .int .i64 k ∧ w = wr ∧ Hid (nkids N k)) (fun i _ => ws.length - (intOf i).toNat)
 case atStart => exact ⟨0, Nat.zero_le _, rfl, rfl, hide (fun j hj => by omega)⟩
 case round =>
  obtain ⟨k, hk, rfl, rfl, hI⟩ := hrel
  by_cases hlt : k < ws.length
  ·have hq : (k : Int) < (ws.length : Int) := by omega
   obtain ⟨x, hx⟩ := some_el ws hlt
   have hnx : Hid (N.kids[k]?.getD 0 = x) := by show _ = _; rw [← hws.out, hx]; rfl
   obtain ⟨b1, o1, rfl, hc1⟩ := HH.out.intAt hx
   have KK := hide (pnopage_any w x)
   replace hx := hide hx
   go_wp2_with fail
   refine KK.out.mono ?_
   rintro e w' ⟨rfl, rfl⟩
   clear KK
   by_cases hl : (1 ≤ x ∧ x ≤ 65536)
   ·rw [decide_eq_false (show ¬ ¬ (1 ≤ x ∧ x ≤ 65536) from fun q => q hl)]
    have hI' : Hid (nkids N (k + 1)) := (nkids_succ N k).2 ⟨hI.out, by rw [hnx.out]; exact hl⟩
    replace hl := hide hl
    go_wp2
    go_roundw
    case rel => exact ⟨k + 1, by omega, by go_num, trivial, hI'⟩
    case measure => simp [intOf]; omega
   ·rw [decide_eq_true hl]
    have hE : Hid ((0 : Int) ≤ (k : Int) ↔ ¬ nkids N ws.length) := ⟨fun _ q => by have := q k hlt; rw [hnx.out] at this; exact hl this, fun _ => by omega⟩
    replace hl := hide hl
    go_wp2
    go_ret
    exact ⟨_, rfl, hE.out, rfl⟩
  ·have hq : ¬ (k : Int) < (ws.length : Int) := by omega
   obtain rfl : k = ws.length := by omega
   have hE : Hid ((0 : Int) ≤ -1 ↔ ¬ nkids N ws.length) := ⟨fun q => by omega, fun q => absurd hI.out q⟩
   go_wp2
   go_ret
   exact ⟨_, rfl, hE.out, rfl⟩
set_option maxRecDepth 100000 in
theorem pconI_any (w : World) (v : Value) (N : Nd) (h : RdI w v N.kids) :
  Calls Tryz.prog 116 #[v, .func (.func 117) #[] #[]] w fun e w' => e = .returned (.bool (decide (¬ nkids N N.kids.length))) ∧ w = w' := by
 have KK := hide (pidxI_any w v N h)
 obtain ⟨a, c, rfl⟩ := h.slice
 obtain ⟨R, hR⟩ : ∃ R, R = decide (¬ nkids N N.kids.length) := ⟨_, rfl⟩
 rw [← hR]
 replace hR := hide hR
 clear h
 go_enter Tryz.func116, Tryz.ntmps116
 go_wp2_with fail
 refine KK.out.mono ?_
 rintro e w' ⟨k, rfl, hk, rfl⟩
 clear KK
 by_cases h0 : 0 ≤ k
 ·have hE : Hid (R = true) := by show _ = _; rw [hR.out]; exact decide_eq_true (hk.1 h0)
  clear hk
  go_wp2
  go_ret
  exact ⟨ret_bool (by rw [hE.out]; try (first | rfl | simpa using h0)), rfl⟩
 ·have hE : Hid (R = false) := by show _ = _; rw [hR.out]; exact decide_eq_false fun q => h0 (hk.2 q)
  clear hk
  go_wp2
  go_ret
  exact ⟨ret_bool (by rw [hE.out]; try (first | rfl | simpa using h0)), rfl⟩
end Go.Proofs.YtpiikmkajckccaaGreat

namespace Go.Proofs.YtpiikmkajckccaaGreat
open Go.RowKit
abbrev OwnT (B : Nat) (w : World) (v : Value) (l : List Str) : Prop := w.ownsRow B 9 1 v l.length (l.map st)
abbrev OwnJ (B : Nat) (w : World) (v : Value) (l : List Int) : Prop := w.ownsRow B 3 1 v l.length (l.map (Value.int .i64))
abbrev SStrs : Shp (List Str) := Shp.list 9 Shp.str
abbrev SIntL : Shp (List Int) := Shp.list 3 (Shp.int .i64)
theorem own_one {α : Type} {T : Nat} {s : Shp α} {f : α → Value} (hs : ∀ (w : World) x, s.own [] w [f x] x) {B : Nat} {w : World} {v : Value} {l : List α} (h : w.ownsRow B T s.n v l.length (l.map f)) : Own (Shp.list T s) B w [v] l := by
 have each : ∀ l : List α, ownEach s w [] (l.map f) l := by
  intro l
  induction l with
  | nil => exact ⟨rfl, rfl⟩
  | cons x r ih => exact ⟨[], [], [f x], r.map f, rfl, rfl, hs w x, ih⟩
 refine ⟨v.ownBlock.toList, ⟨v, _, [], rfl, ?_, each l, by simp⟩, ?_, fun b hb => (World.ownsRow.lt h b (by simpa using hb)).1⟩
 ·exact rows_base h fun _ _ => Nat.zero_le _
 ·cases v.ownBlock <;> simp
theorem OwnT.own {B : Nat} {w : World} {v : Value} {l : List Str} (h : OwnT B w v l) : Own SStrs B w [v] l := own_one (s := Shp.str) (f := st) (fun _ _ => ⟨rfl, rfl⟩) h
theorem OwnJ.own {B : Nat} {w : World} {v : Value} {l : List Int} (h : OwnJ B w v l) : Own SIntL B w [v] l := own_one (s := Shp.int .i64) (f := Value.int .i64) (fun _ _ => ⟨rfl, rfl⟩) h
theorem OwnT.rd {B : Nat} {w : World} {v : Value} {l : List Str} (h : OwnT B w v l) : RdT w v l := h.own.rdS
theorem OwnJ.rd {B : Nat} {w : World} {v : Value} {l : List Int} (h : OwnJ B w v l) : RdI w v l := h.own.rdS
theorem infoT : (Tryz.prog.info? 9).map (fun i => (i.zero, i.size, i.bytes)) = some (some (.string ⟨#[]⟩), 1, 16) := by kernel_rfl
theorem infoJ : (Tryz.prog.info? 3).map (fun i => (i.zero, i.size, i.bytes)) = some (some (.int .i64 0), 1, 8) := by kernel_rfl
theorem one_int (l : List Int) : ∀ u ∈ l.map (Value.int .i64), u.oneCell' = true := by
 intro u hu
 obtain ⟨x, _, rfl⟩ := List.mem_map.1 hu
 rfl
set_option maxRecDepth 100000 in
set_option maxHeartbeats 400000 in
theorem copyInt_any (w : World) (v : Value) (l : List Int) (h : RdI w v l) (hm : l.length * 8 ≤ 140737488355328) :
  Calls Tryz.prog 7 #[v] w fun e w' => ∃ v', e = .returned v' ∧ OwnJ w.heap.size w' v' l ∧ Below w.heap.size w w' := by
 obtain ⟨a, c, rfl, l1, m1, n1, r1⟩ := id h
 obtain ⟨i0, hi, hz0, hz1, hz2⟩ := info_parts infoJ
 cases a with
 | none =>
  have : l = [] := by
   rcases r1 with r1 | ⟨b, off, h, _⟩
   ·exact r1
   ·cases h
  subst this
  obtain rfl : c = 0 := n1 rfl
  go_enter Tryz.func7, Tryz.ntmps7
  go_wp2_with (at_builtin; refine wpList_append_own_none rfl _ _ 25 rfl w.heap.size 3 i0 1 Tryz.underlying25 hi (.slice none 0 0) 0 [] rfl (World.ownsRow_nil _ _ _ _) rfl ?_)
  go_ret
  exact ⟨_, rfl, World.ownsRow_nil _ _ _ _, Below.refl _ _⟩
 | some ad =>
  have n2 : ∀ j u, (l.map (Value.int .i64))[j]? = some u → w.cell? (ad.add j) = some u := by
   intro j u hj
   rw [List.getElem?_map] at hj
   obtain ⟨x, hx, rfl⟩ := Option.map_eq_some_iff.1 hj
   obtain ⟨b, off, e, h1⟩ := h.intAt hx
   obtain rfl : ad = ⟨b, off, none⟩ := by simpa using e
   have ea : (⟨b, off, none⟩ : Addr).add j = ⟨b, off + j, none⟩ := by
    by_cases h0 : j = 0
    ·subst h0; simp [Addr.add]
    ·simp [Addr.add, h0]
   rw [ea]
   exact h1
  have n1 : (l.map (Value.int .i64)).length = l.length * 1 := by simp
  have n3 := one_int l
  have n4 : 0 + l.length ≤ maxLen := by rw [show maxLen = 9223372036854775807 from rfl]; omega
  have n5 : (0 + l.length) * 8 ≤ 140737488355328 := by omega
  have N2 := hide n2
  clear n2 r1 h
  go_enter Tryz.func7, Tryz.ntmps7
  go_wp2_with (at_builtin; refine wpList_append_own _ rfl _ _ 25 rfl w.heap.size 3 i0 (.int .i64 0) 1 8 Tryz.underlying25 hi hz0 hz1 hz2 rfl (by decide) (.slice none 0 0) 0 [] rfl (World.ownsRow_nil _ _ _ _) ad l.length c (l.map (Value.int .i64)) rfl n1 N2.out n3 n4 n5 (Nat.le_refl _) ?_; intro v1 w3 hown1 hgrow1 hnil1)
  go_ret
  refine ⟨_, rfl, ?_, (Below.refl _ _).grown hgrow1 (Nat.le_refl _) (fun k h => by cases h)⟩
  simpa using hown1
set_option maxRecDepth 100000 in
set_option maxHeartbeats 1000000 in
theorem sameInt_any (w : World) (v1 v2 : Value) (l1 l2 : List Int) (h1 : RdI w v1 l1) (h2 : RdI w v2 l2) :
  Calls Tryz.prog 12 #[v1, v2] w fun e w' => e = .returned (.bool (decide (l1 = l2))) ∧ ∃ n, w' = w.drewN n := by
 have b1 := h1.bd
 have b2 := h2.bd
 obtain ⟨a1, c1, rfl⟩ := h1.slice
 obtain ⟨a2, c2, rfl⟩ := h2.slice
 obtain ⟨R, hR⟩ : ∃ R, R = decide (l1 = l2) := ⟨_, rfl⟩
 rw [← hR]
 replace hR := hide hR
 by_cases hl : l1.length = l2.length
 ·have HL := hide hl
  have hne : ((l1.length : Int) != (l2.length : Int)) = false := by simp; omega
  go_enter Tryz.func12, Tryz.ntmps12
  go_wp2
  clear hl hne
  go_loopw [5] (fun i wr => ∃ k n : Nat, k ≤ l1.length ∧ i = .int .i64 k ∧ Hid (l1.take k = l2.take k) ∧ Hid (wr = w.drewN n)) (fun i _ => l1.length - (intOf i).toNat)
  case atStart => exact ⟨0, 0, Nat.zero_le _, rfl, hide rfl, hide rfl⟩
  case round =>
   obtain ⟨k, n, hk, rfl, ht, hw⟩ := hrel
   by_cases hlt : k < l1.length
   ·have hq : (k : Int) < (l1.length : Int) := by omega
    have hq2 : (k : Int) < (l2.length : Int) := by have := HL.out; omega
    obtain ⟨x, hx⟩ := some_el l1 hlt
    obtain ⟨y, hy⟩ := some_el l2 (k := k) (by have := HL.out; omega)
    have bd := below_drewN' w n w.heap.size
    rw [← hw.out] at bd
    obtain ⟨p1, o1, rfl, x1⟩ := (h1.to0 bd).intAt hx
    obtain ⟨p2, o2, rfl, y1⟩ := (h2.to0 bd).intAt hy
    have e1 := hide (show l1.take (k + 1) = l1.take k ++ [x] by rw [List.take_add_one, hx]; rfl)
    have e2 := hide (show l2.take (k + 1) = l2.take k ++ [y] by rw [List.take_add_one, hy]; rfl)
    have HX := hide (And.intro hx hy)
    clear bd hx hy h1 h2
    by_cases c1 : x = y
    ·subst c1
     go_wp2
     go_region
     go_wp2
     go_roundw
     case rel => exact ⟨k + 1, n + 1, by omega, by go_num, hide (by rw [e1.out, e2.out, ht.out]), hide (by rw [hw.out]; rfl)⟩
     case measure => simp [intOf]; omega
    ·have c1' : (x == y) = false := by simpa using c1
     have hr : Hid (R = false) := by show _ = _; rw [hR.out]; apply decide_eq_false; rintro rfl; have := HX.out; rw [this.1] at this; simp at this; exact c1 this
     go_wp2
     go_region
     go_wp2
     go_ret
     exact ⟨ret_bool hr.out.symm, n + 1, by rw [hw.out]; rfl⟩
   ·have hq : ¬ (k : Int) < (l1.length : Int) := by omega
    have hr : Hid (R = true) := by
     show _ = _
     have := ht.out
     rw [List.take_of_length_le (by omega), List.take_of_length_le (by have := HL.out; omega)] at this
     rw [hR.out, this]; simp
    go_wp2
    go_ret
    exact ⟨ret_bool hr.out.symm, n, hw.out⟩
 ·have hr : Hid (R = false) := by show _ = _; rw [hR.out]; apply decide_eq_false; rintro rfl; exact hl rfl
  have hne : ((l1.length : Int) != (l2.length : Int)) = true := by simp; omega
  go_enter Tryz.func12, Tryz.ntmps12
  go_wp2
  go_ret
  exact ⟨ret_bool hr.out.symm, 0, rfl⟩
end Go.Proofs.YtpiikmkajckccaaGreat

namespace Go.Proofs.YtpiikmkajckccaaGreat
open Go.RowKit
section
variable {P : Program} {ops : Array Oper} {md : Region.Mode} {Q : Exit → Act → World → Prop} {S : World → Prop}
def schedB (md : Region.Mode) (ops : Array Oper) (m : Nat) : List (Nat × Bool) → Array Bool → Bool
 | [], listed => Region.seqB md ops (ops.size - m) m listed
 | (i, true) :: r, listed => decide (i < m) && (Region.ready md ops listed).contains i && Region.free md ops listed i && schedB md ops m r (listed.setIfInBounds i true)
 | (i, false) :: r, listed => decide (i < m) && decide (Region.ready md ops listed = [i]) && schedB md ops m r (listed.setIfInBounds i true)
def wpSched (P : Program) (ops : Array Oper) (Q : Exit → Act → World → Prop) (S : World → Prop) (Z : Act → World → Prop) : List (Nat × Bool) → Act → World → Prop
 | [], a, w => Z a w
 | (i, true) :: r, a, w => ∃ o v, ops[i]? = some o ∧ YieldsIf P ops S o v a ∧ S w ∧ wpSched P ops Q S Z r (a.put o.dst v) w
 | (i, false) :: r, a, w => ∃ o, ops[i]? = some o ∧ if Region.wanted o (yielded ops a.tmps) = true then o.wp P a w (fun a' w' => S w' ∧ wpSched P ops Q S Z r a' w') Q else S w ∧ wpSched P ops Q S Z r (a.put o.dst undef) w
theorem wpAnyM_sched {m : Nat} {Z : Act → World → Prop} (hsel : Region.noSelect ops = true) (hs : Region.sinkB md ops m = true) (hc : Region.chainB md ops m = true) (hm : m < ops.size) (hQ : ∀ c (a : Act) t w, Q (.panic c) { a with tmps := t } w → Q (.panic c) a w) :
  ∀ (l : List (Nat × Bool)) (listed : Array Bool) (a : Act) (w : World), HeadInv md ops m listed → schedB md ops m l listed = true → wpSched P ops Q S Z l a w →
   wpAnyM P md ops Q S m (fun listed' a' w' => Region.seqB md ops (ops.size - m) m listed' = true ∧ Z a' w') l.length listed a w
 | [], listed, a, w, _, hB, h => ⟨hB, h⟩
 | (i, true) :: r, listed, a, w, inv, hB, ⟨o, v, ho, hy, hS, h⟩ => by
  simp only [schedB, Bool.and_eq_true, decide_eq_true_eq] at hB
  obtain ⟨⟨⟨him, hr⟩, hf⟩, hB'⟩ := hB
  have hr' : i ∈ Region.ready md ops listed := by simpa using hr
  exact wpAnyM_first ho (Region.noSelect_spec hsel) hs hc hm him (fun c a w h => hQ c a (a.put o.dst v).tmps w (by rw [← put_tmps]; exact h)) (fun listed a w hL => seqB_ready hL.1) _ listed a w inv (Region.free_spec ho hf) hr' hy hS
   (wpAnyM_sched hsel hs hc hm hQ r _ _ _ (inv.set hr' him) hB' h)
 | (i, false) :: r, listed, a, w, inv, hB, ⟨o, ho, h⟩ => by
  simp only [schedB, Bool.and_eq_true, decide_eq_true_eq] at hB
  obtain ⟨⟨him, hr⟩, hB'⟩ := hB
  refine ⟨fun h1 => (by rw [hr] at h1; cases h1), fun j hj => ?_⟩
  have hj0 := hj
  rw [hr] at hj
  have hji : j = i := by simpa using hj
  subst hji
  refine ⟨him, ?_⟩
  have hw : wpOp P ops Q j (fun a' w' => S w' ∧ wpSched P ops Q S Z r a' w') a w := by
   unfold wpOp
   simp only [ho]
   split
   ·rename_i hwd; rw [if_pos hwd] at h; exact .inl h
   ·rename_i hwd; rw [if_neg hwd] at h; exact h
  exact wpOp_mono (fun a' w' h' => ⟨h'.1, wpAnyM_sched hsel hs hc hm hQ r _ _ _ (inv.set hj0 him) hB' h'.2⟩) hw
def schedAll (md : Region.Mode) (ops : Array Oper) (m : Nat) (l : List (Nat × Bool)) : Bool :=
 Region.noSelect ops && decide (l.length = m) && decide (m < ops.size) && Region.sinkB md ops m && Region.chainB md ops m && schedB md ops m l (Array.replicate ops.size false)
theorem wp_region_sched {id : Nat} {a : Act} {w : World} {l : List Oper} (S : World → Prop) (s : List (Nat × Bool)) (m : Nat) (hf : P.follows .mixedOrders = true) (hB : schedAll .any l.toArray m s = true)
  (hQ : ∀ c (a : Act) t w, Q (.panic c) { a with tmps := t } w → Q (.panic c) a w)
  (h : wpSched P l.toArray Q S (fun a'' w'' => wpList P l.toArray Q (l.drop m) a'' w'') s a w.drew) : (Code.region id l.toArray true).wp P Q a w := by
 simp only [schedAll, Bool.and_eq_true, decide_eq_true_eq] at hB
 obtain ⟨⟨⟨⟨⟨hsel, hlen⟩, hm⟩, hs⟩, hc⟩, hsch⟩ := hB
 have hm' : m < l.length := by simpa using hm
 have hld : (l.drop m).length = l.length - m := by simp
 have inv0 : HeadInv .any l.toArray m (Array.replicate l.toArray.size false) :=
  ⟨by simp, fun j oj _ hl => (by rw [getD_replicate_false] at hl; cases hl), fun t _ ht => getD_in (by simpa using ht) (getD_replicate_false _ _)⟩
 have H := wpAnyM_sched (md := .any) hsel hs hc hm hQ s _ a w.drew inv0 hsch h
 refine wp_region_any hf ?_
 have := wpAny_of_mid (Q := Q) (g := l.length - m) (fun listed a' w' hL => by
  have := wpAny_of_seq (md := .any) (Q' := Q) (l.drop m) m listed a' w' (fun j => by simp [List.getElem?_drop]) (by rw [hld]; exact hL.1) hL.2
  rwa [hld] at this) _ _ _ _ H
 rw [hlen, show m + (l.length - m) = l.toArray.size by simp; omega] at this
 exact this
theorem sched_take {i : Nat} {r : List (Nat × Bool)} {a : Act} {w : World} {Z : Act → World → Prop} {o : Oper} {v : Value} (ho : ops[i]? = some o) (hw : Region.wanted o (yielded ops a.tmps) = true) (hS : S w) (hy : ∀ w, S w → (execOp a.eval o).run P w = .ok (.value v) w) (h : wpSched P ops Q S Z r (a.put o.dst v) w) : wpSched P ops Q S Z ((i, true) :: r) a w :=
 ⟨o, v, ho, .inl ⟨hw, hy⟩, hS, h⟩
theorem sched_go {i : Nat} {r : List (Nat × Bool)} {a : Act} {w : World} {Z : Act → World → Prop} {o : Oper} (ho : ops[i]? = some o) (h : ∀ K : Act → World → Prop, (∀ a' w', S w' → wpSched P ops Q S Z r a' w' → K a' w') → if Region.wanted o (yielded ops a.tmps) = true then o.wp P a w K Q else K (a.put o.dst undef) w) : wpSched P ops Q S Z ((i, false) :: r) a w := by
 have := h (fun a' w' => S w' ∧ wpSched P ops Q S Z r a' w') (fun a' w' h1 h2 => ⟨h1, h2⟩)
 exact ⟨o, ho, this⟩
theorem sched_run {i : Nat} {r : List (Nat × Bool)} {a : Act} {w : World} {Z : Act → World → Prop} {o : Oper} (ho : ops[i]? = some o) (hw : Region.wanted o (yielded ops a.tmps) = true) (h : ∀ K : Act → World → Prop, (∀ a' w', S w' → wpSched P ops Q S Z r a' w' → K a' w') → o.wp P a w K Q) : wpSched P ops Q S Z ((i, false) :: r) a w := by
 refine sched_go ho fun K hK => ?_
 rw [if_pos hw]
 exact h K hK
end
end Go.Proofs.YtpiikmkajckccaaGreat

namespace Go.Proofs.YtpiikmkajckccaaGreat
open Go.RowKit
theorem wp_call_of {P : Program} {o : Oper} {a : Act} {w : World} {K : Act → World → Prop} {Q : Exit → Act → World → Prop} (n : FuncId) (xs : Array Operand) (ts : Array TypeId)
  (ho : o.op = .call { callee := .value (.func n), args := xs, argTypes := ts }) (vals : Array Value) (hv : xs.map a.eval = vals) (hent : (callFunc n vals).run P w = .ok (.enter n vals) w) {R : Ending → World → Prop} (hc : Calls P n vals w R)
  (h : ∀ e w', R e w' → ∃ v, e = .returned v ∧ K (a.put o.dst v) w') : o.wp P a w K Q := by
 unfold Oper.wp
 have he : a.eval (.func n) = .func (.func n) #[] #[] := rfl
 simp [execOp, ho, resolve, invoke, hv, he, Deferred.ofValue]
 rw [hent, Oper.upon_enter]
 refine hc.mono ?_
 intro e w' hr
 obtain ⟨v, rfl, hk⟩ := h e w' hr
 exact hk
theorem step_call {P : Program} {ops : Array Oper} {o : Oper} {a : Act} {w : World} {K : Act → World → Prop} {Q : Exit → Act → World → Prop} {E : Prop} (hgd : o.guard = none) (n : FuncId) (xs : Array Operand) (ts : Array TypeId)
  (ho : o.op = .call { callee := .value (.func n), args := xs, argTypes := ts }) (vals : Array Value) (hv : xs.map a.eval = vals) (hent : (callFunc n vals).run P w = .ok (.enter n vals) w) {R : Ending → World → Prop} (hc : Calls P n vals w R)
  (h : ∀ e w', R e w' → ∃ v, e = .returned v ∧ K (a.put o.dst v) w') : if Region.wanted o (yielded ops a.tmps) = true then Oper.wp P o a w K Q else E := by
 rw [if_pos (by simp [Region.wanted, hgd])]
 exact wp_call_of n xs ts ho vals hv hent hc h
end Go.Proofs.YtpiikmkajckccaaGreat

namespace Go.Proofs.YtpiikmkajckccaaGreat
open Go.RowKit
theorem mixed : Tryz.prog.follows .mixedOrders = true := by kernel_rfl
end Go.Proofs.YtpiikmkajckccaaGreat

namespace Go.Proofs.YtpiikmkajckccaaGreat
open Go.RowKit
structure OwnN (B : Nat) (w : World) (kv vv dv : Value) (n : Nd) : Prop where
 keys : OwnT B w kv n.keys
 vals : OwnT B w vv n.vals
 kids : OwnJ B w dv n.kids
theorem OwnN.to {B : Nat} {w w' : World} {kv vv dv : Value} {n : Nd} (h : OwnN B w kv vv dv n) (hb : Below w.heap.size w w') : OwnN B w' kv vv dv n := ⟨rows_to h.keys hb, rows_to h.vals hb, rows_to h.kids hb⟩
theorem OwnN.rd {B : Nat} {w : World} {kv vv dv : Value} {n : Nd} (h : OwnN B w kv vv dv n) : RdN w kv vv dv n := ⟨h.keys.rd, h.vals.rd, h.kids.rd⟩
theorem rows_mono {w : World} {T n B C : Nat} {v : Value} {m : Nat} {cc : List Value} (h : w.ownsRow B T n v m cc) (hC : C ≤ B) : w.ownsRow C T n v m cc :=
 rows_base h fun b hb => Nat.le_trans hC (World.ownsRow.lt h b hb).1
theorem OwnN.mono {B C : Nat} {w : World} {kv vv dv : Value} {n : Nd} (h : OwnN B w kv vv dv n) (hC : C ≤ B) : OwnN C w kv vv dv n := ⟨rows_mono h.keys hC, rows_mono h.vals hC, rows_mono h.kids hC⟩
theorem OwnN.nil (B : Nat) (w : World) (l : Bool) : OwnN B w (.slice none 0 0) (.slice none 0 0) (.slice none 0 0) ⟨l, [], [], []⟩ := ⟨World.ownsRow_nil _ _ _ _, World.ownsRow_nil _ _ _ _, World.ownsRow_nil _ _ _ _⟩
theorem rows_set {w : World} {T n B : Nat} {v : Value} {m : Nat} {cc : List Value} (h : w.ownsRow B T n v m cc) {g : Nat} (hg : g < B) (i : Nat) (x : Value) : (w.setCell ⟨g, i, none⟩ x).ownsRow B T n v m cc := ownsRow_setCell_below h (a := ⟨g, i, none⟩) hg x
theorem OwnN.set {B : Nat} {w : World} {kv vv dv : Value} {n : Nd} (h : OwnN B w kv vv dv n) {g : Nat} (hg : g < B) (i : Nat) (x : Value) : OwnN B (w.setCell ⟨g, i, none⟩ x) kv vv dv n := ⟨rows_set h.keys hg i x, rows_set h.vals hg i x, rows_set h.kids hg i x⟩
theorem heap_set4 {u : World} {g : Nat} {a b c d : Value} {t : TypeId} {fr : Nat × Nat} (h : u.heap[g]? = some (.cells #[a, b, c, d] t fr)) (x y z v : Value) : ((((u.setCell ⟨g, 0, none⟩ x).setCell ⟨g, 1, none⟩ y).setCell ⟨g, 2, none⟩ z).setCell ⟨g, 3, none⟩ v).heap[g]? = some (.cells #[x, y, z, v] t fr) := by
 simp [World.setCell, Array.getElem?_modify, h]
theorem below_set4n {B : Nat} {w u : World} (h : Below B w u) {g : Nat} (hg : B ≤ g) (x y z v : Value) : Below B w ((((u.setCell ⟨g, 0, none⟩ x).setCell ⟨g, 1, none⟩ y).setCell ⟨g, 2, none⟩ z).setCell ⟨g, 3, none⟩ v) :=
 (((h.setCell (p := ⟨g, 0, none⟩) hg x).setCell (p := ⟨g, 1, none⟩) hg y).setCell (p := ⟨g, 2, none⟩) hg z).setCell (p := ⟨g, 3, none⟩) hg v
def nbig (n : Nd) : Prop := n.keys.length * 16 ≤ 140737488351232 ∧ n.vals.length * 16 ≤ 140737488351232 ∧ n.kids.length * 8 ≤ 140737488351232
theorem nbig.fit {n : Nd} (h : nbig n) : nfit n := by unfold nbig at h; unfold nfit; omega
theorem info_ndP : (Tryz.prog.info? 98).map (·.size) = some 4 := by kernel_rfl
theorem boxes4 (w : World) (x y z v : Value) (t t' : TypeId) : ∃ W, W = (w.alloc (.cells #[x, y, z, v] t)).alloc (.cells #[.bool false, .slice none 0 0, .slice none 0 0, .slice none 0 0] t') ∧ W.heap[w.heap.size]? = some (.cells #[x, y, z, v] t (0, 0)) ∧ W.heap[w.heap.size + 1]? = some (.cells #[.bool false, .slice none 0 0, .slice none 0 0, .slice none 0 0] t' (0, 0)) ∧ Below w.heap.size w W ∧ W.heap.size = w.heap.size + 2 := by
 refine ⟨_, rfl, ?_, ?_, ((Below.refl _ _).alloc (Nat.le_refl _) _).alloc (by simp) _, by simp⟩
 ·rw [Below.heap_alloc _ _ _ (by simp)]; exact heap_alloc_last w _
 ·have := heap_alloc_last (w.alloc (.cells #[x, y, z, v] t)) (.cells #[.bool false, .slice none 0 0, .slice none 0 0, .slice none 0 0] t'); simpa using this
theorem copyInt_sl (w : World) (v : Value) (l : List Int) (h : RdI w v l) (hm : l.length * 8 ≤ 140737488355328) :
  Calls Tryz.prog 7 #[v] w fun e w' => ∃ a c, e = .returned (.slice a l.length c) ∧ OwnJ w.heap.size w' (.slice a l.length c) l ∧ Below w.heap.size w w' :=
 (copyInt_any w v l h hm).mono fun _ _ ⟨v', e, o, b⟩ => by
  obtain ⟨a, c, rfl⟩ := OwnJ.rd o |>.slice
  exact ⟨a, c, e, o, b⟩
end Go.Proofs.YtpiikmkajckccaaGreat

namespace Go.Proofs.YtpiikmkajckccaaGreat
open Go.RowKit
end Go.Proofs.YtpiikmkajckccaaGreat

namespace Go.Proofs.YtpiikmkajckccaaGreat
open Go.RowKit
theorem boxes4s (w : World) (x y z v : Value) (t : TypeId) : ∃ W, W = ((w.alloc (.cells #[x, y, z, v] t)).alloc (.cells #[.bool false, .slice none 0 0, .slice none 0 0, .slice none 0 0] t)).alloc (.cells #[.bool false, .slice none 0 0, .slice none 0 0, .slice none 0 0] t) ∧ W.heap[w.heap.size]? = some (.cells #[x, y, z, v] t (0, 0)) ∧
  W.heap[w.heap.size + 1]? = some (.cells #[.bool false, .slice none 0 0, .slice none 0 0, .slice none 0 0] t (0, 0)) ∧ W.heap[w.heap.size + 2]? = some (.cells #[.bool false, .slice none 0 0, .slice none 0 0, .slice none 0 0] t (0, 0)) ∧ Below w.heap.size w W ∧ W.heap.size = w.heap.size + 3 := by
 obtain ⟨U, hU, u1, u2, u3, u4⟩ := boxes4 w x y z v t t
 rw [← hU]
 refine ⟨_, rfl, ?_, ?_, ?_, u3.alloc (by omega) _, by simp [u4]⟩
 ·rw [Below.heap_alloc _ _ _ (by omega)]; exact u1
 ·rw [Below.heap_alloc _ _ _ (by omega)]; exact u2
 ·have := heap_alloc_last U (.cells #[.bool false, .slice none 0 0, .slice none 0 0, .slice none 0 0] t); rw [u4] at this; exact this
theorem addr_add9 (b off n : Nat) : (⟨b, off, none⟩ : Addr).add n = ⟨b, off + n, none⟩ := by
 by_cases h : n = 0
 ·subst h; simp [Addr.add]
 ·simp [Addr.add, h]
theorem rdS_part {α : Type} {s : Shp α} {w : World} {a : Option Addr} {len cap : Nat} {xs : List α} (h : RdS s w (.slice a len cap) xs) {q to : Nat} (h1 : q ≤ to) (h2 : to ≤ len) :
  ∃ A, (if cap = q then a else Option.map (fun x => x.add (q * s.n)) a) = A ∧ RdS s w (.slice A (to - q) (cap - q)) ((xs.take to).drop q) := by
 obtain ⟨ao, c, e, l1, m1, n1, r1⟩ := h
 simp only [Value.slice.injEq] at e
 obtain ⟨rfl, rfl, rfl⟩ := e
 have el : ((xs.take to).drop q).length = to - q := by simp; omega
 by_cases hc : cap = q
 ·refine ⟨a, if_pos hc, ⟨a, cap - q, by rw [el], by rw [el]; omega, by omega, fun _ => by omega, .inl (List.eq_nil_of_length_eq_zero (by rw [el]; omega))⟩⟩
 ·refine ⟨_, if_neg hc, ⟨_, cap - q, by rw [el], by rw [el]; omega, by omega, ?_, ?_⟩⟩
  ·intro h
   cases a with
   | none => rw [n1 rfl]; simp
   | some x => cases h
  ·rcases r1 with rfl | ⟨b, off, rfl, hcc⟩
   ·left; simp
   ·right
    refine ⟨b, off + q * s.n, by simp [addr_add9], fun i x hx => ?_⟩
    rw [List.getElem?_drop] at hx
    have hlt : q + i < to := by
     rcases Nat.lt_or_ge (q + i) to with h | h
     ·exact h
     ·rw [List.getElem?_eq_none (by simp; omega)] at hx; cases hx
    rw [List.getElem?_take, if_pos hlt] at hx
    obtain ⟨c, k1, k2⟩ := hcc (q + i) x hx
    refine ⟨c, k1, fun j u hj => ?_⟩
    have := k2 j u hj
    rw [Nat.add_mul] at this
    rw [show off + q * s.n + i * s.n + j = off + (q * s.n + i * s.n) + j by omega]
    exact this
theorem rdS_cap {α : Type} {s : Shp α} {w : World} {a : Option Addr} {n c : Nat} {xs : List α} (h : RdS s w (.slice a n c) xs) : xs.length ≤ c := by
 obtain ⟨ao, c', e, l1, _⟩ := h
 simp only [Value.slice.injEq] at e
 omega
theorem rdS_front {α : Type} {s : Shp α} {w : World} {a : Option Addr} {len cap : Nat} {xs : List α} (h : RdS s w (.slice a len cap) xs) {q : Nat} (h1 : q ≤ len) : RdS s w (.slice a q cap) (xs.take q) := by
 obtain ⟨ao, c, e, l1, m1, n1, r1⟩ := h
 simp only [Value.slice.injEq] at e
 obtain ⟨rfl, rfl, rfl⟩ := e
 have el : (xs.take q).length = q := by simp; omega
 refine ⟨a, cap, by rw [el], by rw [el]; omega, m1, n1, ?_⟩
 rcases r1 with rfl | ⟨b, off, rfl, hcc⟩
 ·left; simp
 ·right
  refine ⟨b, off, rfl, fun i x hx => hcc i x ?_⟩
  rw [List.getElem?_take] at hx
  split at hx
  ·exact hx
  ·cases hx
theorem rdS_back {α : Type} {s : Shp α} (hs : s.n = 1) {w : World} {b off : Nat} {len cap : Nat} {xs : List α} (h : RdS s w (.slice (some ⟨b, off, none⟩) len cap) xs) {q : Nat} (h1 : q ≤ len) (h2 : ¬ cap = q) : RdS s w (.slice (some ⟨b, off + q, none⟩) (len - q) (cap - q)) (xs.drop q) := by
 obtain ⟨A, hA, p⟩ := rdS_part h h1 (Nat.le_refl _)
 have hl : xs.length = len := by
  obtain ⟨ao, c, e, _⟩ := h
  simp only [Value.slice.injEq] at e
  omega
 rw [if_neg h2, Option.map_some, hs, Nat.mul_one, addr_add9] at hA
 subst hA
 rw [List.take_of_length_le (by omega)] at p
 exact p
theorem set8 {u : World} {g g' : Nat} (hne : g ≠ g') {a b c d a' b' c' d' : Value} {t t' : TypeId} (h : u.heap[g]? = some (.cells #[a, b, c, d] t (0, 0))) (h' : u.heap[g']? = some (.cells #[a', b', c', d'] t' (0, 0))) {B : Nat} {w : World} (hb : Below B w u) (hg : B ≤ g) (hg' : B ≤ g') (x y z v x' y' z' v' : Value) :
  ∃ U, U = (((((((u.setCell ⟨g, 0, none⟩ x).setCell ⟨g, 1, none⟩ y).setCell ⟨g, 2, none⟩ z).setCell ⟨g, 3, none⟩ v).setCell ⟨g', 0, none⟩ x').setCell ⟨g', 1, none⟩ y').setCell ⟨g', 2, none⟩ z').setCell ⟨g', 3, none⟩ v' ∧ U.heap[g]? = some (.cells #[x, y, z, v] t (0, 0)) ∧ U.heap[g']? = some (.cells #[x', y', z', v'] t' (0, 0)) ∧ Below B w U := by
 refine ⟨_, rfl, ?_, heap_set4 (a := a') (b := b') (c := c') (d := d') ?_ _ _ _ _, below_set4n (below_set4n hb hg _ _ _ _) hg' _ _ _ _⟩
 ·rw [Below.heap_setCell _ _ _ _ hne, Below.heap_setCell _ _ _ _ hne, Below.heap_setCell _ _ _ _ hne, Below.heap_setCell _ _ _ _ hne]
  exact heap_set4 h _ _ _ _
 ·rw [Below.heap_setCell _ _ _ _ hne.symm, Below.heap_setCell _ _ _ _ hne.symm, Below.heap_setCell _ _ _ _ hne.symm, Below.heap_setCell _ _ _ _ hne.symm]
  exact h'
theorem info_ndR : (Tryz.prog.info? 145).map (·.size) = some 4 := by kernel_rfl
end Go.Proofs.YtpiikmkajckccaaGreat

namespace Go.Proofs.YtpiikmkajckccaaGreat
open Go.RowKit
def ksum : List Str → Int
 | [] => 0
 | x :: r => 1 + (x.length : Int) + ksum r
def vsum : List Str → Int
 | [] => 0
 | x :: r => (x.length : Int) + vsum r
theorem ksum_app : ∀ a b : List Str, ksum (a ++ b) = ksum a + ksum b
 | [], b => by simp [ksum]
 | x :: r, b => by simp only [List.cons_append, ksum, ksum_app r b]; omega
theorem vsum_app : ∀ a b : List Str, vsum (a ++ b) = vsum a + vsum b
 | [], b => by simp [vsum]
 | x :: r, b => by simp only [List.cons_append, vsum, vsum_app r b]; omega
theorem ksum_take {l : List Str} {k : Nat} {x : Str} (h : l[k]? = some x) : ksum (l.take (k + 1)) = ksum (l.take k) + (1 + (x.length : Int)) := by
 rw [List.take_add_one, h, ksum_app]; simp [ksum]
theorem vsum_take {l : List Str} {k : Nat} {x : Str} (h : l[k]? = some x) : vsum (l.take (k + 1)) = vsum (l.take k) + (x.length : Int) := by
 rw [List.take_add_one, h, vsum_app]; simp [vsum]
theorem nsz_sum (n : Nd) : ∀ k, k ≤ n.keys.length → nsz n k = 2 + ksum (n.keys.take k) + if n.leaf then (k : Int) + vsum (n.vals.take k) else 0
 | 0, _ => by simp [nsz, ksum, vsum]
 | k + 1, hk => by
  obtain ⟨x, hx⟩ := some_el n.keys (k := k) (by omega)
  rw [nsz, nsz_sum n k (by omega), ksum_take hx, hx]
  simp only [Option.getD_some]
  split
  ·by_cases hv : k < n.vals.length
   ·obtain ⟨y, hy⟩ := some_el n.vals hv
    rw [vsum_take hy, hy]
    simp only [Option.getD_some]
    omega
   ·rw [List.getElem?_eq_none (by omega), List.take_of_length_le (l := n.vals) (i := k) (by omega), List.take_of_length_le (l := n.vals) (i := k + 1) (by omega)]
    simp only [Option.getD_none, List.length_nil]
    omega
  ·omega
set_option maxRecDepth 100000 in
set_option maxHeartbeats 2000000 in
theorem psize9_any (w : World) (kv vv dv : Value) (n : Nd) (h : RdN w kv vv dv n) :
  Calls Tryz.prog 89 #[nv n kv vv dv] w fun e w' => e = .returned (.int .i64 (wrap64 (nsize n))) ∧ Below w.heap.size w w' := by
 have lk := h.keys.bd
 have lv := h.vals.bd
 have ld := h.kids.bd
 obtain ⟨R, hR⟩ : ∃ R, R = wrap64 (nsize n) := ⟨_, rfl⟩
 rw [← hR]
 obtain ⟨a, c, a', c', a'', c'', rfl, rfl, rfl⟩ := h.slices
 obtain ⟨leaf, keys, vals, kids⟩ := n
 dsimp only [nv] at *
 obtain ⟨W, hW, D, bW, sW⟩ := boxedN w #[.bool leaf, .slice a keys.length c, .slice a' vals.length c', .slice a'' kids.length c''] 98
 replace h := h.to bW
 have HK := hide h.keys
 have HV := hide h.vals
 dsimp only at HK HV
 have HB := hide bW
 obtain ⟨⟨D0, D1, D2, D3⟩, _⟩ := cells4 D
 have HD := hide (And.intro D0 (And.intro D1 (And.intro D2 D3)))
 replace hR := hide hR
 clear h bW D
 rw [hW] at D0 D1 D2 D3
 go_enter Tryz.func89, Tryz.ntmps89
 go_wp2
 rw [← hW]
 replace hW := hide hW
 clear D0 D1 D2 D3
 go_loopw [3, 11] (fun p i wr => ∃ k : Nat, k ≤ keys.length ∧ i = .int .i64 k ∧ p = .int .i64 (wrap64 (2 + ksum (keys.take k))) ∧ wr = W) (fun _ i _ => keys.length - (intOf i).toNat)
 case atStart => exact ⟨0, Nat.zero_le _, rfl, by simp [ksum, wrap64], rfl⟩
 case round =>
  obtain ⟨k, hk, rfl, rfl, rfl⟩ := hrel
  by_cases hlt : k < keys.length
  ·have hq : (k : Int) < (keys.length : Int) := by omega
   obtain ⟨x, hx⟩ := some_el keys hlt
   obtain ⟨b, off, rfl, hc1⟩ := HK.out.strAt hx
   have t1 := hide (ksum_take hx)
   replace hx := hide hx
   generalize ksum (keys.take k) = Z at *
   go_wp2
   go_roundw
   case rel => exact ⟨k + 1, by omega, by go_num, by rw [t1.out]; simp only [w64_add, w64_add']; congr 2; omega, trivial⟩
   case measure => simp [intOf]; omega
  ·have hq : ¬ (k : Int) < (keys.length : Int) := by omega
   obtain rfl : k = keys.length := by omega
   rw [List.take_length]
   obtain ⟨D0, D1, D2, D3⟩ := HD.out
   cases leaf with
   | false =>
    have hr : Hid (wrap64 (wrap64 (2 + ksum keys) + wrap64 (4 * (kids.length : Int))) = R) := by
     show _ = _
     rw [hR.out, w64_add, w64_add', nsize, nsz_sum _ _ (Nat.le_refl _)]
     dsimp only
     rw [List.take_length, if_neg (by decide), if_neg (by decide)]
     congr 1; omega
    generalize ksum keys = Z at *
    go_wp2
    go_ret
    exact ⟨ret_int hr.out, HB.out⟩
   | true =>
    obtain ⟨m, hm⟩ : ∃ m : Nat, m = min vals.length keys.length := ⟨_, rfl⟩
    have hm1 : m ≤ vals.length := by omega
    have hmc : m ≤ c' := by have := rdS_cap HV.out; omega
    have hmI : min (vals.length : Int) (keys.length : Int) = (m : Int) := by omega
    have hr : Hid (∀ S : Int, S = vsum (vals.take m) → wrap64 (2 + ksum keys + (keys.length : Int) + S) = R) := by
     intro S hS
     rw [hR.out, nsize, nsz_sum _ _ (Nat.le_refl _)]
     dsimp only
     rw [List.take_length, if_pos rfl, if_pos rfl, hS]
     have : vals.take m = vals.take keys.length := by
      by_cases q : vals.length ≤ keys.length
      ·rw [List.take_of_length_le (by omega), List.take_of_length_le (by omega)]
      ·congr 1; omega
     rw [this]
     congr 1; omega
    replace hm := hide hm
    generalize ksum keys = Z at *
    go_wp2
    ·clear D0 D1 D2 D3
     have hM : Hid (keys.length = m) := by show _ = _; have := hm.out; omega
     go_loopw [3, 47] (fun p i wx => ∃ k : Nat, k ≤ keys.length ∧ i = .int .i64 k ∧ p = .int .i64 (wrap64 (2 + Z + (keys.length : Int) + vsum (vals.take k))) ∧ wx = wr) (fun _ i _ => keys.length - (intOf i).toNat)
     case atStart => exact ⟨0, Nat.zero_le _, rfl, by simp only [vsum, List.take_zero, w64_add, w64_add']; congr 2; omega, rfl⟩
     case round =>
      obtain ⟨k, hk, rfl, rfl, rfl⟩ := hrel
      by_cases hlt : k < keys.length
      ·have hq : (k : Int) < (keys.length : Int) := by omega
       obtain ⟨x, hx⟩ := some_el vals (k := k) (by have := hM.out; omega)
       obtain ⟨b, off, rfl, hc1⟩ := HV.out.strAt hx
       have t1 := hide (vsum_take hx)
       replace hx := hide hx
       generalize vsum (vals.take k) = Y at *
       go_wp2
       go_roundw
       case rel => exact ⟨k + 1, by omega, by go_num, by rw [t1.out]; simp only [w64_add, w64_add']; congr 2; omega, trivial⟩
       case measure => simp [intOf]; omega
      ·have hq : ¬ (k : Int) < (keys.length : Int) := by omega
       have e2 := hide (hr.out (vsum (vals.take k)) (by rw [show k = m by have := hM.out; omega]))
       generalize vsum (vals.take k) = Y at *
       go_wp2
       go_ret
       exact ⟨ret_int e2.out, HB.out⟩
    ·clear D0 D1 D2 D3
     have hM : Hid (vals.length = m) := by show _ = _; have := hm.out; omega
     go_loopw [3, 47] (fun p i wx => ∃ k : Nat, k ≤ vals.length ∧ i = .int .i64 k ∧ p = .int .i64 (wrap64 (2 + Z + (keys.length : Int) + vsum (vals.take k))) ∧ wx = wr) (fun _ i _ => vals.length - (intOf i).toNat)
     case atStart => exact ⟨0, Nat.zero_le _, rfl, by simp only [vsum, List.take_zero, w64_add, w64_add']; congr 2; omega, rfl⟩
     case round =>
      obtain ⟨k, hk, rfl, rfl, rfl⟩ := hrel
      by_cases hlt : k < vals.length
      ·have hq : (k : Int) < (vals.length : Int) := by omega
       obtain ⟨x, hx⟩ := some_el vals (k := k) (by have := hM.out; omega)
       obtain ⟨b, off, rfl, hc1⟩ := HV.out.strAt hx
       have t1 := hide (vsum_take hx)
       replace hx := hide hx
       generalize vsum (vals.take k) = Y at *
       go_wp2
       go_roundw
       case rel => exact ⟨k + 1, by omega, by go_num, by rw [t1.out]; simp only [w64_add, w64_add']; congr 2; omega, trivial⟩
       case measure => simp [intOf]; omega
      ·have hq : ¬ (k : Int) < (vals.length : Int) := by omega
       have e2 := hide (hr.out (vsum (vals.take k)) (by rw [show k = m by have := hM.out; omega]))
       generalize vsum (vals.take k) = Y at *
       go_wp2
       go_ret
       exact ⟨ret_int e2.out, HB.out⟩
theorem ncheck_of (n : Nd) : ncheck n = if nkeys n n.keys.length then if ncount n then if ¬ nvals n n.vals.length then 5 else if ¬ nkids n n.kids.length then 4 else if 244 < nsize n then 51 else 0 else 3 else 91 := by
 unfold ncheck
 by_cases h1 : nkeys n n.keys.length <;> by_cases h2 : ncount n <;> by_cases h3 : nvals n n.vals.length <;> by_cases h4 : nkids n n.kids.length <;> simp [h1, h2, h3, h4]
set_option maxRecDepth 100000 in
set_option maxHeartbeats 2000000 in
theorem pcheck9_any (w : World) (kv vv dv : Value) (n : Nd) (h : RdN w kv vv dv n) (hf : nfit n) :
  Calls Tryz.prog 80 #[nv n kv vv dv] w fun e w' => e = .returned (.int .i64 (ncheck n)) ∧ Below w.heap.size w w' := by
 obtain ⟨W, hW, D, bW, sW⟩ := boxedN w #[.bool n.leaf, kv, vv, dv] 98
 replace h := h.to bW
 have KA := hide (pkeys_any W kv n h.keys)
 have KB := hide (pcounts_any W kv vv dv n h)
 have KC := hide (fun w1 (b : Below W.heap.size W w1) => pconT_any w1 vv n (h.to b).vals)
 have KD := hide (fun w1 (b : Below W.heap.size W w1) => pconI_any w1 dv n (h.to b).kids)
 have KE := hide (fun w1 (b : Below W.heap.size W w1) => psize9_any w1 kv vv dv n (h.to b))
 have hz : Hid (nkeys n n.keys.length → ncount n → nvals n n.vals.length → wrap64 (nsize n) = nsize n) := fun h1 h2 h3 => by
  have := nsize_le hf h1 h2 h3
  exact IntWalk.wrap64_in _ (by omega)
 have hR := hide (ncheck_of n)
 obtain ⟨D4, _⟩ := cells4 D
 have HD : Hid (∀ w1, Below W.heap.size W w1 → w1.cell? ⟨w.heap.size, 0, none⟩ = some (.bool n.leaf) ∧ w1.cell? ⟨w.heap.size, 1, none⟩ = some kv ∧ w1.cell? ⟨w.heap.size, 2, none⟩ = some vv ∧ w1.cell? ⟨w.heap.size, 3, none⟩ = some dv) := fun w1 b =>
  ⟨(b.cell (p := ⟨w.heap.size, 0, none⟩) (cell_lt D4.1)).trans D4.1, (b.cell (p := ⟨w.heap.size, 1, none⟩) (cell_lt D4.2.1)).trans D4.2.1, (b.cell (p := ⟨w.heap.size, 2, none⟩) (cell_lt D4.2.2.1)).trans D4.2.2.1, (b.cell (p := ⟨w.heap.size, 3, none⟩) (cell_lt D4.2.2.2)).trans D4.2.2.2⟩
 have HE : Hid (∀ w1, Below W.heap.size W w1 → Below w.heap.size w w1) := fun w1 b => bW.trans (b.mono bW.size)
 obtain ⟨D0, D1, D2, D3⟩ := D4
 obtain ⟨a, c, a', c', a'', c'', rfl, rfl, rfl⟩ := h.slices
 dsimp only [nv] at *
 generalize n.keys.length = lk at *
 generalize n.vals.length = lv at *
 generalize n.kids.length = ld at *
 generalize n.leaf = leaf at *
 clear h bW D hf
 rw [hW] at D0 D1 D2 D3
 go_enter Tryz.func80, Tryz.ntmps80
 go_wp2_with fail
 rw [← hW]
 replace hW := hide hW
 clear D0 D1 D2 D3
 refine KA.out.mono ?_
 rintro e w1 ⟨rfl, rfl⟩
 clear KA
 obtain ⟨D0, D1, D2, D3⟩ := HD.out W (Below.refl _ _)
 by_cases c1 : nkeys n lk
 ·rw [decide_eq_true c1]
  replace c1 := hide c1
  go_wp2_with fail
  clear D0 D1 D2 D3
  refine KB.out.mono ?_
  rintro e w1 ⟨rfl, b1⟩
  obtain ⟨D0, D1, D2, D3⟩ := HD.out w1 b1
  replace b1 := hide b1
  clear KB
  by_cases c2 : ncount n
  ·rw [decide_eq_true c2]
   replace c2 := hide c2
   go_wp2_with fail
   refine (KC.out _ b1.out).mono ?_
   rintro e w2 ⟨rfl, rfl⟩
   clear KC
   by_cases c3 : nvals n lv
   ·rw [decide_eq_false (not_not_intro c3)]
    replace c3 := hide c3
    go_wp2_with fail
    refine (KD.out _ b1.out).mono ?_
    rintro e w2 ⟨rfl, rfl⟩
    clear KD
    by_cases c4 : nkids n ld
    ·rw [decide_eq_false (not_not_intro c4)]
     replace c4 := hide c4
     go_wp2_with fail
     refine (KE.out _ b1.out).mono ?_
     rintro e w2 ⟨rfl, b2⟩
     replace b2 := hide b2
     clear KE D0 D1 D2 D3
     rw [hz.out c1.out c2.out c3.out]
     have r := hR.out
     rw [if_pos c1.out, if_pos c2.out, if_neg (not_not_intro c3.out), if_neg (not_not_intro c4.out)] at r
     replace r := hide r
     have bb := hide (HE.out _ (b1.out.trans (b2.out.mono b1.out.size)))
     generalize nsize n = Z at *
     by_cases c5 : 244 < Z
     ·go_wp2
      go_ret
      exact ⟨ret_int (by rw [r.out, if_pos c5]), bb.out⟩
     ·go_wp2
      go_ret
      exact ⟨ret_int (by rw [r.out, if_neg (by omega)]), bb.out⟩
    ·rw [decide_eq_true c4]
     have r : Hid (ncheck n = 4) := by show _ = _; rw [hR.out, if_pos c1.out, if_pos c2.out, if_neg (not_not_intro c3.out), if_pos c4]
     replace c4 := hide c4
     go_wp2
     go_ret
     exact ⟨ret_int r.out.symm, HE.out _ b1.out⟩
   ·rw [decide_eq_true c3]
    have r : Hid (ncheck n = 5) := by show _ = _; rw [hR.out, if_pos c1.out, if_pos c2.out, if_pos c3]
    replace c3 := hide c3
    go_wp2
    go_ret
    exact ⟨ret_int r.out.symm, HE.out _ b1.out⟩
  ·rw [decide_eq_false c2]
   have r : Hid (ncheck n = 3) := by show _ = _; rw [hR.out, if_pos c1.out, if_neg c2]
   replace c2 := hide c2
   go_wp2
   go_ret
   exact ⟨ret_int r.out.symm, HE.out _ b1.out⟩
 ·rw [decide_eq_false c1]
  have r : Hid (ncheck n = 91) := by show _ = _; rw [hR.out, if_neg c1]
  replace c1 := hide c1
  go_wp2
  go_ret
  exact ⟨ret_int r.out.symm, HE.out _ (Below.refl _ _)⟩
end Go.Proofs.YtpiikmkajckccaaGreat

namespace Go.Proofs.YtpiikmkajckccaaGreat
open Go.RowKit
theorem oc_one (k : Nat) : oc k 1 = [UInt8.ofNat k] := by simp [oc, ob, List.range_succ]
theorem oc_four (z : Int) : oc z.toNat 4 = n4 z := by simp [oc, ob, n4, List.range_succ]
theorem strCells_enc (x : Str) : Lib.strCells ⟨x.toArray⟩ = x.map enc := by
 unfold Lib.strCells enc
 rfl
set_option maxRecDepth 100000 in
set_option maxHeartbeats 1000000 in
theorem pnum_any (w : World) (B : Nat) (v : Value) (xs : List UInt8) (n s : Nat) (ho : OwnB B w v xs) (hB : B ≤ w.heap.size) (h1 : 1 ≤ s) (h8 : s ≤ 8) (hn : n < 2 ^ (8 * s)) (h63 : n < 9223372036854775808) (hl : xs.length ≤ 1000000) :
  Calls Tryz.prog 90 #[v, .int .i64 (n : Int), .int .i64 (s : Int)] w fun e w' => ∃ v', e = .returned v' ∧ OwnB B w' v' (xs ++ oc n s) ∧ Below B w w' := by
 have KK := hide (put_yes n s w h1 h8 hn (by omega))
 have hw : IntKind.u64.wrap (n : Int) = (n : Int) := by unfold IntKind.wrap; simp [IntKind.bits, IntKind.signed]; omega
 obtain ⟨a, c, hv⟩ := ho.rd.slice
 have HO := hide ho
 have hlo := hide (oc_length n s)
 clear ho
 subst hv
 go_enter Tryz.func90, Tryz.ntmps90
 go_wp2_with fail
 refine KK.out.mono ?_
 rintro e w1 ⟨v1, rfl, o1, b1⟩
 obtain ⟨a1, c1, rfl⟩ := o1.rd.slice
 rw [hlo.out]
 rw [hlo.out] at o1
 have o2 := HO.out.below (Nat.le_refl _) b1
 have r1 := o1.rd
 have hsz : B ≤ w1.heap.size := Nat.le_trans hB b1.size
 have hL : xs.length + (oc n s).length ≤ 140737488355328 := by rw [hlo.out]; omega
 have bb := hide (b1.mono hB)
 clear o1 b1 KK
 go_wp2_with (at_builtin; refine wpList_append_octs rfl _ _ rfl B _ _ _ _ rfl rfl o2 r1 hL hsz ?_; intro v6 w6 o6 b6 _)
 go_ret
 exact ⟨_, rfl, o6, bb.out.trans b6⟩
set_option maxRecDepth 100000 in
set_option maxHeartbeats 1000000 in
theorem ptext_any (w : World) (B : Nat) (v : Value) (xs : List UInt8) (x : Str) (ho : OwnB B w v xs) (hB : B ≤ w.heap.size) (hx : x.length ≤ 255) (hl : xs.length ≤ 1000000) :
  Calls Tryz.prog 91 #[v, st x] w fun e w' => ∃ v', e = .returned v' ∧ OwnB B w' v' (xs ++ [UInt8.ofNat x.length] ++ x) ∧ Below B w w' := by
 have KK := hide (pnum_any w B v xs x.length 1 ho hB (by decide) (by decide) (by omega) (by omega) hl)
 obtain ⟨a, c, hv⟩ := ho.rd.slice
 obtain ⟨i0, hi, hz0, hz1, hz2⟩ := info_parts info8
 clear ho
 subst hv
 go_enter Tryz.func91, Tryz.ntmps91
 go_wp2_with fail
 refine KK.out.mono ?_
 rintro e w1 ⟨v1, rfl, o1, b1⟩
 clear KK
 rw [oc_one] at o1
 obtain ⟨a1, c1, rfl⟩ := o1.rd.slice
 have hsz : B ≤ w1.heap.size := Nat.le_trans hB b1.size
 have BB := hide b1
 have hL1 : (xs ++ [UInt8.ofNat x.length]).length + (ByteArray.mk x.toArray).size ≤ maxLen := by rw [size_st, show maxLen = 9223372036854775807 from rfl]; simp; omega
 have hL2 : (xs ++ [UInt8.ofNat x.length]).length + (ByteArray.mk x.toArray).size ≤ 140737488355328 := by rw [size_st]; simp; omega
 have fr := hide o1.from
 generalize hX : xs ++ [UInt8.ofNat x.length] = X at *
 replace hX := hide hX
 clear b1
 go_wp2_with (at_builtin; (refine Lib.wpList_append_own_string _ rfl _ _ 42 9 rfl B 5 i0 Tryz.underlying42 Tryz.underlying9 hi hz0 hz1 hz2 _ _ _ rfl o1 _ rfl hL1 hL2 hsz ?_; intro v6 w6 o6 g6 _))
 go_ret
 refine ⟨_, rfl, ?_, BB.out.trans ((Below.refl _ _).grown g6 hsz fr.out)⟩
 rw [strCells_enc, size_st] at o6
 rw [hX.out]
 unfold OwnB
 simpa using o6
end Go.Proofs.YtpiikmkajckccaaGreat

namespace Go.Proofs.YtpiikmkajckccaaGreat
open Go.RowKit
structure Rr where
 rest : List UInt8
 short : Bool
def rtk (s : Nat) (r : Rr) : List UInt8 := if r.rest.length < s then [] else r.rest.take s
def rst (s : Nat) (r : Rr) : Rr := if r.rest.length < s then ⟨r.rest, true⟩ else ⟨r.rest.drop s, r.short⟩
def rnum (s : Nat) (r : Rr) : Nat := numOf (rtk s r)
def rtx (r : Rr) : Str := rtk (rnum 1 r) (rst 1 r)
def rts (r : Rr) : Rr := rst (rnum 1 r) (rst 1 r)
theorem rtk_le (s : Nat) (r : Rr) : (rtk s r).length ≤ s := by unfold rtk; split <;> simp <;> omega
theorem rnum_lt (s : Nat) (r : Rr) : rnum s r < 2 ^ (8 * s) := by
 unfold rnum numOf
 refine Nat.lt_of_lt_of_le (numTo_lt _ _) (Nat.pow_le_pow_right (by decide) ?_)
 have := rtk_le s r
 omega
def KpG (g : Nat) (w U : World) : Prop := (∀ b, b < w.heap.size → b ≠ g → U.heap[b]? = w.heap[b]?) ∧ w.heap.size ≤ U.heap.size ∧ ∀ B, B ≤ g → B ≤ w.heap.size → Below B w U
theorem KpG.of {g : Nat} {w U : World} (h : Below w.heap.size w U) : KpG g w U := ⟨fun b hb _ => h.block b hb, h.size, fun B _ hB => h.mono hB⟩
theorem KpG.refl (g : Nat) (w : World) : KpG g w w := KpG.of (Below.refl _ _)
theorem KpG.trans {g : Nat} {w U V : World} (h : KpG g w U) (k : KpG g U V) : KpG g w V :=
 ⟨fun b hb hn => (k.1 b (Nat.lt_of_lt_of_le hb h.2.1) hn).trans (h.1 b hb hn), Nat.le_trans h.2.1 k.2.1, fun B hB hw => (h.2.2 B hB hw).trans (k.2.2 B hB (Nat.le_trans hw h.2.1))⟩
theorem KpG.set {g : Nat} {w U : World} (h : KpG g w U) (i : Nat) (v : Value) : KpG g w (U.setCell ⟨g, i, none⟩ v) :=
 ⟨fun b hb hn => (Below.heap_setCell _ _ _ _ hn).trans (h.1 b hb hn), by simpa using h.2.1, fun B hB hw => (h.2.2 B hB hw).setCell (p := ⟨g, i, none⟩) hB v⟩
theorem KpG.row {g : Nat} {w U : World} (h : KpG g w U) {B T n : Nat} {v : Value} {m : Nat} {cc : List Value} (ho : w.ownsRow B T n v m cc) (hg : g < B) : U.ownsRow B T n v m cc := by
 rcases ho with ⟨h1, h2 | ⟨k, cap, cur, hv, hB, hk, hr⟩⟩
 ·exact ⟨h1, .inl h2⟩
 ·refine ⟨h1, .inr ⟨k, cap, cur, hv, hB, ?_, hr⟩⟩
  rw [h.1 k (lt_of_block hk) (by omega)]; exact hk
theorem heap_set2r {u : World} {g : Nat} {a b : Value} {t : TypeId} {fr : Nat × Nat} (h : u.heap[g]? = some (.cells #[a, b] t fr)) (x : Value) : (u.setCell ⟨g, 0, none⟩ x).heap[g]? = some (.cells #[x, b] t fr) ∧ (u.setCell ⟨g, 1, none⟩ x).heap[g]? = some (.cells #[a, x] t fr) := by
 constructor <;> simp [World.setCell, Array.getElem?_modify, h]
theorem rd_nil0 (w : World) : Rd w (.slice none 0 0) [] := ⟨none, 0, rfl, Nat.le_refl _, Nat.zero_le _, fun _ => rfl, .inl rfl⟩
theorem cells2r {w : World} {g : Nat} {a b : Value} {t : TypeId} (h : w.heap[g]? = some (.cells #[a, b] t (0, 0))) : (w.cell? ⟨g, 0, none⟩ = some a ∧ w.cell? ⟨g, 1, none⟩ = some b) ∧ ∀ i, w.frozen? ⟨g, i, none⟩ = false := by
 refine ⟨⟨?_, ?_⟩, fun i => ?_⟩
 ·rw [cell_of_row _ _ 0 _ _ (0, 0) h]; rfl
 ·rw [cell_of_row _ _ 1 _ _ (0, 0) h]; rfl
 ·simp [World.frozen?, h]
theorem rd_take9 {w : World} {a : Option Addr} {len cap : Nat} {xs : List UInt8} (h : Rd w (.slice a len cap) xs) {n : Nat} (hn : n ≤ len) : Rd w (.slice a n cap) (xs.take n) := by
 obtain ⟨ao, c, e, l1, m1, n1, r1⟩ := h
 simp only [Value.slice.injEq] at e
 obtain ⟨rfl, rfl, rfl⟩ := e
 have el : (xs.take n).length = n := by simp; omega
 refine ⟨a, cap, by rw [el], by rw [el]; omega, m1, n1, ?_⟩
 rcases r1 with rfl | ⟨b, off, rfl, hc⟩
 ·left; simp
 ·right
  refine ⟨b, off, rfl, fun i hi => ?_⟩
  rw [el] at hi
  rw [hc i (by omega)]
  simp only [bt]
  congr 3
  simp only [List.getD_eq_getElem?_getD, List.getElem?_take]
  rw [if_pos hi]
theorem conv_any {w : World} {a : Option Addr} {c : Nat} {xs : List UInt8} (h : Rd w (.slice a xs.length c) xs) : (convert 42 9 (.slice a xs.length c)).run Tryz.prog w = .ok (.string ⟨xs.toArray⟩) w := by
 by_cases h0 : 0 < xs.length
 ·exact conv_rd h h0
 ·have : xs = [] := List.eq_nil_of_length_eq_zero (by omega)
  subst this
  show (convert 42 9 (.slice a 0 c)).run Tryz.prog w = _
  rw [run_convert_bytes_string (P := Tryz.prog) w 42 9 5 a 0 c Tryz.underlying42 Tryz.underlying5 Tryz.underlying9]
  cases a <;> simp [Conv.bytesToString, loadCells]
  all_goals rfl
end Go.Proofs.YtpiikmkajckccaaGreat

namespace Go.Proofs.YtpiikmkajckccaaGreat
def rpairs : Nat → Rr → Nd → Nd × Rr
 | 0, r, n => (n, r)
 | k + 1, r, n => rpairs k (rts (rts r)) ⟨n.leaf, n.keys ++ [rtx r], n.vals ++ [rtx (rts r)], n.kids⟩
def rkids : Nat → Rr → Nd → Nd × Rr
 | 0, r, n => (⟨n.leaf, n.keys, n.vals, n.kids ++ [((rnum 4 r : Nat) : Int)]⟩, rst 4 r)
 | k + 1, r, n => rkids k (rts (rst 4 r)) ⟨n.leaf, n.keys ++ [rtx (rst 4 r)], n.vals, n.kids ++ [((rnum 4 r : Nat) : Int)]⟩
def rfin (p : Nd × Rr) : Nd × Int := if p.2.short then (none9, 8) else if 0 < p.2.rest.length then (none9, 23) else (p.1, 0)
def nread (xs : List UInt8) : Nd × Int :=
 let r0 : Rr := ⟨xs, false⟩
 let r2 := rst 1 (rst 1 r0)
 if r2.short then (none9, 8) else if rnum 1 r0 = 1 then rfin (rpairs (rnum 1 (rst 1 r0)) r2 ⟨true, [], [], []⟩) else if rnum 1 r0 = 0 then rfin (rkids (rnum 1 (rst 1 r0)) r2 ⟨false, [], [], []⟩) else (none9, 22)
def ndec (xs : List UInt8) : Nd × Int := if (nread xs).2 = 0 then if ncheck (nread xs).1 = 0 then nread xs else (none9, ncheck (nread xs).1) else (none9, (nread xs).2)
theorem nread_short {xs : List UInt8} (h : (rst 1 (rst 1 ⟨xs, false⟩)).short = true) : nread xs = (none9, 8) := by
 unfold nread; simp only [h, if_true]
theorem nread_leaf {xs : List UInt8} (h : (rst 1 (rst 1 ⟨xs, false⟩)).short = false) (h1 : rnum 1 ⟨xs, false⟩ = 1) : nread xs = rfin (rpairs (rnum 1 (rst 1 ⟨xs, false⟩)) (rst 1 (rst 1 ⟨xs, false⟩)) ⟨true, [], [], []⟩) := by
 unfold nread; simp only [h, h1, if_true, Bool.false_eq_true, if_false]
theorem nread_inner {xs : List UInt8} (h : (rst 1 (rst 1 ⟨xs, false⟩)).short = false) (h1 : rnum 1 ⟨xs, false⟩ = 0) : nread xs = rfin (rkids (rnum 1 (rst 1 ⟨xs, false⟩)) (rst 1 (rst 1 ⟨xs, false⟩)) ⟨false, [], [], []⟩) := by
 unfold nread; simp only [h, h1, if_true, Bool.false_eq_true, if_false]; simp
theorem nread_kind {xs : List UInt8} (h : (rst 1 (rst 1 ⟨xs, false⟩)).short = false) (h1 : ¬ rnum 1 ⟨xs, false⟩ = 1) (h0 : ¬ rnum 1 ⟨xs, false⟩ = 0) : nread xs = (none9, 22) := by
 unfold nread; simp only [h, Bool.false_eq_true, if_false]; rw [if_neg h1, if_neg h0]
end Go.Proofs.YtpiikmkajckccaaGreat

namespace Go.Proofs.YtpiikmkajckccaaGreat
open Go.RowKit
theorem nparts_len (n : Nd) : ∀ k : Nat, ((nhead n ++ nparts n k).length : Int) = nsz n k + if n.leaf then 0 else 4 * ((k : Int) + 1)
 | 0 => by
  unfold nhead nparts nsz
  cases n.leaf <;> simp [n4]
 | k + 1 => by
  have := nparts_len n k
  simp only [nparts, nsz, npart, List.length_append] at this ⊢
  unfold nkey
  cases hl : n.leaf
  ·simp [hl, n4] at this ⊢; omega
  ·simp [hl] at this ⊢; omega
theorem nenc_len {n : Nd} (h : NOk n) : ((nenc n).length : Int) = nsize n := by
 unfold nenc nsize
 rw [nparts_len]
 have h2 := h.2.1
 unfold ncount at h2
 cases hl : n.leaf
 ·rw [hl, if_neg (by decide)] at h2
  simp; omega
 ·simp
theorem NOk.few {n : Nd} (h : NOk n) : n.keys.length ≤ 242 := by
 have h1 := nsz_ge n n.keys.length
 have h2 := h.2.2.2.2
 unfold nsize at h2
 split at h2 <;> omega
theorem NOk.val {n : Nd} (h : NOk n) (k : Nat) : (n.vals[k]?.getD []).length ≤ 64 := by
 by_cases hk : k < n.vals.length
 ·exact h.2.2.1 k hk
 ·rw [List.getElem?_eq_none (by omega)]; simp
theorem NOk.key {n : Nd} (h : NOk n) (k : Nat) : (nkey n k).length ≤ 32 := by
 by_cases hk : k < n.keys.length
 ·exact (h.1 k hk).2.1
 ·unfold nkey; rw [List.getElem?_eq_none (by omega)]; simp
theorem NOk.len {n : Nd} (h : NOk n) {k : Nat} (hk : k ≤ n.keys.length) : (nhead n ++ nparts n k).length ≤ 500000 := by
 have h0 := nparts_len n k
 have h1 := nsz_le n n.keys.length (fun k _ => h.key k) (fun _ k _ => h.val k) k hk
 have h2 := h.few
 split at h0 <;> omega
theorem NOk.size {n : Nd} (h : NOk n) : 2 ≤ nsize n ∧ nsize n ≤ 244 := by
 refine ⟨?_, h.2.2.2.2⟩
 have h1 := nsz_ge n n.keys.length
 unfold nsize
 split <;> omega
theorem ret_si {a b c d : Value} (h1 : a = c) (h2 : b = d) : Ending.returned (.tuple #[a, b]) = .returned (.tuple #[c, d]) := by rw [h1, h2]
def nout (n : Nd) : List UInt8 := if ncheck n = 0 then nenc n else []
set_option maxRecDepth 100000 in
set_option maxHeartbeats 4000000 in
theorem penc_any (w : World) (kv vv dv : Value) (n : Nd) (h : RdN w kv vv dv n) (hf : nfit n) :
  Calls Tryz.prog 63 #[nv n kv vv dv] w fun e w' => ∃ v', e = .returned (.tuple #[v', .int .i64 (ncheck n)]) ∧ OwnB w.heap.size w' v' (nout n) ∧ Below w.heap.size w w' := by
 have lk := h.keys.bd
 have lv := h.vals.bd
 have ld := h.kids.bd
 obtain ⟨W, hW, D, bW, sW⟩ := boxedN w #[.bool n.leaf, kv, vv, dv] 98
 replace h := h.to bW
 have KC := hide (pcheck9_any W kv vv dv n h hf)
 have KE := hide (fun w1 (b : Below W.heap.size W w1) => psize9_any w1 kv vv dv n (h.to b))
 have HN := hide (fun w1 (b : Below W.heap.size W w1) => h.to b)
 obtain ⟨D4, _⟩ := cells4 D
 have HD : Hid (∀ w1, Below W.heap.size W w1 → w1.cell? ⟨w.heap.size, 0, none⟩ = some (.bool n.leaf) ∧ w1.cell? ⟨w.heap.size, 1, none⟩ = some kv ∧ w1.cell? ⟨w.heap.size, 2, none⟩ = some vv ∧ w1.cell? ⟨w.heap.size, 3, none⟩ = some dv) := fun w1 b =>
  ⟨(b.cell (p := ⟨w.heap.size, 0, none⟩) (cell_lt D4.1)).trans D4.1, (b.cell (p := ⟨w.heap.size, 1, none⟩) (cell_lt D4.2.1)).trans D4.2.1, (b.cell (p := ⟨w.heap.size, 2, none⟩) (cell_lt D4.2.2.1)).trans D4.2.2.1, (b.cell (p := ⟨w.heap.size, 3, none⟩) (cell_lt D4.2.2.2)).trans D4.2.2.2⟩
 have HE : Hid (∀ w1, Below W.heap.size W w1 → Below w.heap.size w w1) := fun w1 b => bW.trans (b.mono bW.size)
 obtain ⟨D0, D1, D2, D3⟩ := D4
 obtain ⟨a, c, a', c', a'', c'', rfl, rfl, rfl⟩ := h.slices
 obtain ⟨i0, hi, hz0, hz1, hz2⟩ := info_parts info8
 dsimp only [nv] at *
 clear h bW D hf
 rw [hW] at D0 D1 D2 D3
 generalize hlK : n.keys.length = lK at *
 generalize hlV : n.vals.length = lV at *
 generalize hlD : n.kids.length = lD at *
 generalize hleaf : n.leaf = leaf at *
 replace hlK := hide hlK
 replace hlV := hide hlV
 replace hlD := hide hlD
 replace hleaf := hide hleaf
 go_enter Tryz.func63, Tryz.ntmps63
 go_wp2_with fail
 rw [← hW]
 replace hW := hide hW
 clear D0 D1 D2 D3
 refine KC.out.mono ?_
 rintro e w1 ⟨rfl, b1⟩
 clear KC
 by_cases hz : ncheck n = 0
 ·have hok := hide ((ncheck_ok n).1 hz)
  have ho : Hid (nout n = nenc n) := if_pos hz
  have hzz := hide hz
  rw [hz]
  clear hz
  obtain ⟨D0, D1, D2, D3⟩ := HD.out w1 b1
  have B1 := hide b1
  clear b1
  go_wp2_with fail
  clear D0 D1 D2 D3
  refine (KE.out w1 B1.out).mono ?_
  rintro e w2 ⟨rfl, b2⟩
  clear KE
  have hs := hok.out.size
  rw [IntWalk.wrap64_in _ (by omega)]
  obtain ⟨S, hS⟩ : ∃ S : Nat, nsize n = (S : Int) := ⟨(nsize n).toNat, by omega⟩
  rw [hS] at hs ⊢
  have b3 : Below W.heap.size W w2 := B1.out.trans (b2.mono B1.out.size)
  obtain ⟨D0, D1, D2, D3⟩ := HD.out w2 b3
  have B3 := hide b3
  clear b2 B1 b3
  obtain ⟨w3, hmk, own3, gr3⟩ := run_make_own (P := Tryz.prog) w2 w2.heap.size 42 5 i0 (.int .u8 0) 1 Tryz.underlying42 hi hz0 hz1 .i64 .i64 S (by rw [hz2]; omega) (by unfold maxLen; omega) (Nat.le_refl _)
  have b3 : Below w2.heap.size w2 w3 := (Below.refl _ _).grown gr3 (Nat.le_refl _) (fun k h => by cases h)
  have O3 : Hid (OwnB w2.heap.size w3 (.slice (some ⟨w2.heap.size, 0, none⟩) 0 S) []) := own3
  have s3 := b3.size
  have B4 := hide b3
  have B5 := hide (B3.out.trans (b3.mono B3.out.size))
  obtain ⟨E0, E1, E2, E3⟩ := HD.out w3 B5.out
  have hf2 := hok.out.few
  rw [hlK.out] at hf2
  have hcn := hok.out.2.1
  unfold ncount at hcn
  rw [hlK.out, hlV.out, hlD.out, hleaf.out] at hcn
  have HL : Hid (∀ w9, Below w2.heap.size w2 w9 → Below W.heap.size W w9) := fun w9 b => B3.out.trans (b.mono B3.out.size)
  clear own3 gr3 b3 D0 D1 D2 D3
  cases leaf with
  | true =>
   rw [if_pos rfl] at hcn
   obtain ⟨hc1, hc2⟩ := hcn
   replace hc2 := hide hc2
   replace hc1 := hide hc1
   have rl : Rd (w3.alloc (.cells #[.int .u8 1] 5)) (.slice (some ⟨w3.heap.size, 0, none⟩) 1 1) [1] := rd_lit w3 [1] #[.int .u8 1] w3.heap.size 1 rfl rfl rfl (by decide)
   have bX : Below w2.heap.size w2 (w3.alloc (.cells #[.int .u8 1] 5)) := B4.out.alloc s3 _
   have oX : OwnB w2.heap.size (w3.alloc (.cells #[.int .u8 1] 5)) (.slice (some ⟨w2.heap.size, 0, none⟩) 0 S) [] := O3.out.below (Nat.le_refl _) ((Below.refl _ _).alloc (Nat.le_refl _) _)
   have hLX : ([] : List UInt8).length + ([1] : List UInt8).length ≤ 140737488355328 := by simp
   have hsX := bX.size
   have BX := hide bX
   clear bX
   go_wp2_with (at_builtin; refine wpList_append_octs rfl _ _ rfl w2.heap.size _ _ _ _ rfl rfl oX rl hLX hsX ?_; intro v6 w6 o6 b6 _; have B6 := hide (BX.out.trans b6); obtain ⟨F0, F1, F2, F3⟩ := HD.out w6 (HL.out _ B6.out))
   clear oX rl E0 E1 E2 E3 F0 F1 F2 F3 hLX
   have KN := hide (pnum_any w6 w2.heap.size v6 [1] lK 1 o6 B6.out.size (by decide) (by decide) (by omega) (by omega) (by simp))
   clear o6 b6
   refine KN.out.mono ?_
   rintro e w7 ⟨v7, rfl, o7, b7⟩
   clear KN
   have B7 := hide (B6.out.trans b7)
   obtain ⟨F0, F1, F2, F3⟩ := HD.out w7 (HL.out _ B7.out)
   have O7 : Hid (OwnB w2.heap.size w7 v7 (nhead n ++ nparts n 0) ∧ Below w2.heap.size w2 w7) := ⟨by
    have e : nhead n ++ nparts n 0 = [1] ++ oc lK 1 := by unfold nhead nparts; rw [hleaf.out, hlK.out, oc_one]; simp
    rw [e]; exact o7, B7.out⟩
   clear o7 b7 B7
   go_wp2
   clear F0 F1 F2 F3
   go_loopw [5, 31] (fun v i wr => ∃ k : Nat, k ≤ lK ∧ i = .int .i64 k ∧ Hid (OwnB w2.heap.size wr v (nhead n ++ nparts n k) ∧ Below w2.heap.size w2 wr)) (fun _ i _ => lK - (intOf i).toNat)
   case atStart => exact ⟨0, Nat.zero_le _, rfl, O7⟩
   case round =>
    obtain ⟨k, hk, rfl, hI⟩ := hrel
    clear O7
    by_cases hlt : k < lK
    ·have hq : (k : Int) < (lK : Int) := by omega
     have hqv : (k : Int) < (lV : Int) := by have := hc1.out; omega
     obtain ⟨x, hx⟩ := some_el n.keys (k := k) (by rw [hlK.out]; exact hlt)
     obtain ⟨y, hy⟩ := some_el n.vals (k := k) (by rw [hlV.out, hc1.out]; exact hlt)
     have R2 := HN.out w2 B3.out
     obtain ⟨b, off, rfl, g1⟩ := R2.keys.strAt hx
     obtain ⟨b', off', rfl, g2⟩ := R2.vals.strAt hy
     have hc9 := (hI.out.2.cell (p := ⟨b, off + k, none⟩) (cell_lt g1)).trans g1
     have g3 := (HD.out w2 B3.out).2.2.1
     have HS : Hid (∀ w9, Below w2.heap.size w2 w9 → w9.cell? ⟨w.heap.size, 2, none⟩ = some (.slice (some ⟨b', off', none⟩) lV c') ∧ w9.cell? ⟨b', off' + k, none⟩ = some (st y)) := fun w9 b9 =>
      ⟨(b9.cell (p := ⟨w.heap.size, 2, none⟩) (cell_lt g3)).trans g3, (b9.cell (p := ⟨b', off' + k, none⟩) (cell_lt g2)).trans g2⟩
     have hxl := hok.out.key k
     have hyl := hok.out.val k
     have ek : Hid (nkey n k = x) := by show _ = _; unfold nkey; rw [hx]; rfl
     have ev : Hid (n.vals[k]?.getD [] = y) := by show _ = _; rw [hy]; rfl
     rw [ek.out] at hxl
     rw [ev.out] at hyl
     have hll := hok.out.len (k := k) (by rw [hlK.out]; omega)
     have eN : Hid (nhead n ++ nparts n k ++ [UInt8.ofNat x.length] ++ x ++ [UInt8.ofNat y.length] ++ y = nhead n ++ nparts n (k + 1)) := by
      show _ = _
      rw [nparts, npart, ek.out, ev.out, hleaf.out]
      simp
     have b0 : Below w2.heap.size wr wr.drew := (Below.refl _ _).drew
     have bD := hI.out.2.trans b0
     have K1 := hide (ptext_any wr.drew w2.heap.size u5 (nhead n ++ nparts n k) x (hI.out.1.below (Nat.le_refl _) ((Below.refl _ _).drew)) bD.size (by omega) (by omega))
     have BD := hide bD
     clear R2 g1 g2 g3 hx hy bD b0 hI
     generalize nhead n ++ nparts n k = X at *
     go_wp2
     refine wp_region_sched (fun w9 => w9.cell? ⟨w.heap.size, 2, none⟩ = some (.slice (some ⟨b', off', none⟩) lV c') ∧ w9.cell? ⟨b', off' + k, none⟩ = some (st y)) [(0, true), (1, true), (3, true), (4, true), (5, true), (6, true), (7, true), (2, false), (8, false)] 9 mixed (by kernel_rfl) (fun _ _ _ _ h => h) ?_
     iterate 7
      refine sched_take (v := ?_) rfl (by kernel_rfl) (HS.out _ BD.out) ?_ ?_
      rotate_left
      ·rintro w9 ⟨r1, r2⟩
       go_simp
       try with_reducible rfl
      try simp only [Act.put, List.setIfInBounds_toArray, List.set_cons_zero, List.set_cons_succ]
     refine sched_run rfl (by kernel_rfl) fun K hK => ?_
     refine wp_call_of 91 _ _ (by rfl) #[u5, st x] (by simp [Act.eval]) (Tryz.call91 _ _) K1.out ?_
     rintro e w8 ⟨v8, rfl, o8, b8⟩
     have d8 : Below w2.heap.size w2 w8 := BD.out.trans b8
     refine ⟨_, rfl, hK _ _ (HS.out _ d8) ?_⟩
     clear hK K
     have K2 := hide (ptext_any w8 w2.heap.size v8 _ y o8 d8.size (by omega) (by simp; omega))
     try simp only [Act.put, List.setIfInBounds_toArray, List.set_cons_zero, List.set_cons_succ]
     refine sched_run rfl (by kernel_rfl) fun K hK => ?_
     refine wp_call_of 91 _ _ (by rfl) #[v8, st y] (by simp [Act.eval]) (Tryz.call91 _ _) K2.out ?_
     rintro e w9 ⟨v9, rfl, o9, b9⟩
     have d9 : Below w2.heap.size w2 w9 := d8.trans b9
     refine ⟨_, rfl, hK _ _ (HS.out _ d9) ?_⟩
     clear hK K
     try simp only [Act.put, List.setIfInBounds_toArray, List.set_cons_zero, List.set_cons_succ]
     rw [eN.out] at o9
     have I9 := hide (And.intro o9 d9)
     clear o8 b8 d8 o9 b9 d9 K1 K2
     show wpList _ _ _ _ _ _
     dsimp only [List.drop]
     go_wp2
     go_roundw
     case rel => exact ⟨k + 1, by omega, by go_num, I9⟩
     case measure => simp [intOf]; omega
    ·have hq : ¬ (k : Int) < (lK : Int) := by omega
     have e : Hid (nout n = nhead n ++ nparts n k) := by show _ = _; rw [ho.out, nenc, hlK.out, show k = lK by omega]
     go_wp2
     go_ret2
     refine ⟨u5, ret_si rfl (congrArg (Value.int .i64) hzz.out.symm), ?_, HE.out _ (HL.out _ hI.out.2)⟩
     rw [e.out]
     exact hI.out.1.mono (HE.out _ B3.out).size
  | false =>
   rw [if_neg (by decide)] at hcn
   obtain ⟨hc1, hc2, hc3⟩ := hcn
   replace hc1 := hide hc1
   replace hc3 := hide hc3
   have rl : Rd (w3.alloc (.cells #[.int .u8 0] 5)) (.slice (some ⟨w3.heap.size, 0, none⟩) 1 1) [0] := rd_lit w3 [0] #[.int .u8 0] w3.heap.size 1 rfl rfl rfl (by decide)
   have bX : Below w2.heap.size w2 (w3.alloc (.cells #[.int .u8 0] 5)) := B4.out.alloc s3 _
   have oX : OwnB w2.heap.size (w3.alloc (.cells #[.int .u8 0] 5)) (.slice (some ⟨w2.heap.size, 0, none⟩) 0 S) [] := O3.out.below (Nat.le_refl _) ((Below.refl _ _).alloc (Nat.le_refl _) _)
   have hLX : ([] : List UInt8).length + ([0] : List UInt8).length ≤ 140737488355328 := by simp
   have hsX := bX.size
   have BX := hide bX
   clear bX
   go_wp2_with (at_builtin; refine wpList_append_octs rfl _ _ rfl w2.heap.size _ _ _ _ rfl rfl oX rl hLX hsX ?_; intro v6 w6 o6 b6 _; have B6 := hide (BX.out.trans b6); obtain ⟨F0, F1, F2, F3⟩ := HD.out w6 (HL.out _ B6.out))
   clear oX rl E0 E1 E2 E3 F0 F1 F2 F3 hLX
   have KN := hide (pnum_any w6 w2.heap.size v6 [0] lK 1 o6 B6.out.size (by decide) (by decide) (by omega) (by omega) (by simp))
   clear o6 b6
   refine KN.out.mono ?_
   rintro e w7 ⟨v7, rfl, o7, b7⟩
   clear KN
   have B7 := hide (B6.out.trans b7)
   obtain ⟨F0, F1, F2, F3⟩ := HD.out w7 (HL.out _ B7.out)
   have hD0 : 0 < n.kids.length := by rw [hlD.out, hc3.out]; omega
   obtain ⟨z, hzd⟩ := some_el n.kids hD0
   obtain ⟨bd, od, rfl, gd⟩ := (HN.out w2 B3.out).kids.intAt hzd
   have hzr := hok.out.2.2.2.1 0 hD0
   have ez : Hid (n.kids[0]?.getD 0 = z) := by show _ = _; rw [hzd]; rfl
   rw [ez.out] at hzr
   obtain ⟨Zn, hZn⟩ : ∃ Zn : Nat, z = (Zn : Int) := ⟨z.toNat, by omega⟩
   subst hZn
   have q7 := (B7.out.cell (p := ⟨bd, od + 0, none⟩) (cell_lt gd)).trans gd
   have qd : (0 : Int) < (lD : Int) := by have := hc3.out; omega
   rw [Nat.add_zero] at q7
   have KM := hide (pnum_any w7 w2.heap.size v7 ([0] ++ oc lK 1) Zn 4 o7 B7.out.size (by decide) (by decide) (by omega) (by omega) (by rw [oc_one]; simp))
   clear o7 b7 gd hzd hD0
   go_wp2_with fail
   clear F0 F1 F2 F3 q7
   refine KM.out.mono ?_
   rintro e w8 ⟨v8, rfl, o8, b8⟩
   clear KM
   have B8 := hide (B7.out.trans b8)
   obtain ⟨F0, F1, F2, F3⟩ := HD.out w8 (HL.out _ B8.out)
   have O7 : Hid (OwnB w2.heap.size w8 v8 (nhead n ++ nparts n 0) ∧ Below w2.heap.size w2 w8) := ⟨by
    have e : nhead n ++ nparts n 0 = [0] ++ oc lK 1 ++ oc Zn 4 := by unfold nhead nparts; rw [hleaf.out, hlK.out, oc_one, ez.out, ← oc_four]; simp
    rw [e]; exact o8, B8.out⟩
   clear o8 b8 B7 B8
   go_wp2
   clear F0 F1 F2 F3
   go_loopw [5, 64] (fun v i wr => ∃ k : Nat, k ≤ lK ∧ i = .int .i64 k ∧ Hid (OwnB w2.heap.size wr v (nhead n ++ nparts n k) ∧ Below w2.heap.size w2 wr)) (fun _ i _ => lK - (intOf i).toNat)
   case atStart => exact ⟨0, Nat.zero_le _, rfl, O7⟩
   case round =>
    obtain ⟨k, hk, rfl, hI⟩ := hrel
    clear O7
    by_cases hlt : k < lK
    ·have hq : (k : Int) < (lK : Int) := by omega
     obtain ⟨j, hj⟩ : ∃ j, j = k + 1 := ⟨_, rfl⟩
     have hj1 : (k : Int) + 1 = (j : Int) := by omega
     have hj2 : (j : Int) < (lD : Int) := by have := hc3.out; omega
     have hj3 : IntKind.i64.wrap (j : Int) = (j : Int) := IntWalk.i64_in _ (by omega)
     replace hj := hide hj
     obtain ⟨x, hx⟩ := some_el n.keys (k := k) (by rw [hlK.out]; exact hlt)
     obtain ⟨y0, hy⟩ := some_el n.kids (k := j) (by rw [hlD.out, hc3.out, hj.out]; omega)
     have R2 := HN.out w2 B3.out
     obtain ⟨b, off, rfl, g1⟩ := R2.keys.strAt hx
     obtain ⟨b', off', e', g2⟩ := R2.kids.intAt hy
     obtain ⟨rfl, rfl⟩ : b' = bd ∧ off' = od := by simp only [Option.some.injEq, Addr.mk.injEq, and_true] at e'; exact ⟨e'.1.symm, e'.2.symm⟩
     clear e'
     have hc9 := (hI.out.2.cell (p := ⟨b, off + k, none⟩) (cell_lt g1)).trans g1
     have g3 := (HD.out w2 B3.out).2.2.2
     have hxl := hok.out.key k
     have hyr := hok.out.2.2.2.1 j (by rw [hlD.out, hc3.out, hj.out]; omega)
     have ev : Hid (n.kids[j]?.getD 0 = y0) := by show _ = _; rw [hy]; rfl
     rw [ev.out] at hyr
     obtain ⟨y, hyn⟩ : ∃ y : Nat, y0 = (y : Int) := ⟨y0.toNat, by omega⟩
     subst hyn
     have ek : Hid (nkey n k = x) := by show _ = _; unfold nkey; rw [hx]; rfl
     rw [ek.out] at hxl
     have hll := hok.out.len (k := k) (by rw [hlK.out]; omega)
     have HS : Hid (∀ w9, Below w2.heap.size w2 w9 → w9.cell? ⟨w.heap.size, 3, none⟩ = some (.slice (some ⟨b', off', none⟩) lD c'') ∧ w9.cell? ⟨b', off' + j, none⟩ = some (.int .i64 (y : Int))) := fun w9 b9 =>
      ⟨(b9.cell (p := ⟨w.heap.size, 3, none⟩) (cell_lt g3)).trans g3, (b9.cell (p := ⟨b', off' + j, none⟩) (cell_lt g2)).trans g2⟩
     have eN : Hid (nhead n ++ nparts n k ++ [UInt8.ofNat x.length] ++ x ++ oc y 4 = nhead n ++ nparts n (k + 1)) := by
      show _ = _
      rw [nparts, npart, ek.out, ← hj.out, ev.out, hleaf.out, ← oc_four]
      simp
     have b0 : Below w2.heap.size wr wr.drew := (Below.refl _ _).drew
     have bD := hI.out.2.trans b0
     have K1 := hide (ptext_any wr.drew w2.heap.size u5 (nhead n ++ nparts n k) x (hI.out.1.below (Nat.le_refl _) ((Below.refl _ _).drew)) bD.size (by omega) (by omega))
     have BD := hide bD
     clear R2 g1 g2 g3 hx hy bD b0 hI
     generalize nhead n ++ nparts n k = X at *
     go_wp2
     refine wp_region_sched (fun w9 => w9.cell? ⟨w.heap.size, 3, none⟩ = some (.slice (some ⟨b', off', none⟩) lD c'') ∧ w9.cell? ⟨b', off' + j, none⟩ = some (.int .i64 (y : Int))) [(0, true), (1, true), (3, true), (4, true), (5, true), (6, true), (7, true), (8, true), (2, false), (9, false)] 10 mixed (by kernel_rfl) (fun _ _ _ _ h => h) ?_
     iterate 8
      refine sched_take (v := ?_) rfl (by kernel_rfl) (HS.out _ BD.out) ?_ ?_
      rotate_left
      ·rintro w9 ⟨r1, r2⟩
       go_simp
       try with_reducible rfl
      try simp only [Act.put, List.setIfInBounds_toArray, List.set_cons_zero, List.set_cons_succ]
     refine sched_run rfl (by kernel_rfl) fun K hK => ?_
     refine wp_call_of 91 _ _ (by rfl) #[u5, st x] (by simp [Act.eval]) (Tryz.call91 _ _) K1.out ?_
     rintro e w8 ⟨v8, rfl, o8, b8⟩
     have d8 : Below w2.heap.size w2 w8 := BD.out.trans b8
     refine ⟨_, rfl, hK _ _ (HS.out _ d8) ?_⟩
     clear hK K
     have K2 := hide (pnum_any w8 w2.heap.size v8 _ y 4 o8 d8.size (by decide) (by decide) (by omega) (by omega) (by simp; omega))
     try simp only [Act.put, List.setIfInBounds_toArray, List.set_cons_zero, List.set_cons_succ]
     refine sched_run rfl (by kernel_rfl) fun K hK => ?_
     refine wp_call_of 90 _ _ (by rfl) #[v8, .int .i64 (y : Int), .int .i64 4] (by simp [Act.eval]) (Tryz.call90 _ _) K2.out ?_
     rintro e w9 ⟨v9, rfl, o9, b9⟩
     have d9 : Below w2.heap.size w2 w9 := d8.trans b9
     refine ⟨_, rfl, hK _ _ (HS.out _ d9) ?_⟩
     clear hK K
     try simp only [Act.put, List.setIfInBounds_toArray, List.set_cons_zero, List.set_cons_succ]
     rw [eN.out] at o9
     have I9 := hide (And.intro o9 d9)
     clear o8 b8 d8 o9 b9 d9 K1 K2
     show wpList _ _ _ _ _ _
     dsimp only [List.drop]
     clear hj1 hj2 hj3
     go_wp2
     go_roundw
     case rel => exact ⟨k + 1, by omega, by go_num, I9⟩
     case measure => simp [intOf]; omega
    ·have hq : ¬ (k : Int) < (lK : Int) := by omega
     have e : Hid (nout n = nhead n ++ nparts n k) := by show _ = _; rw [ho.out, nenc, hlK.out, show k = lK by omega]
     go_wp2
     go_ret2
     refine ⟨u5, ret_si rfl (congrArg (Value.int .i64) hzz.out.symm), ?_, HE.out _ (HL.out _ hI.out.2)⟩
     rw [e.out]
     exact hI.out.1.mono (HE.out _ B3.out).size
 ·have ho : Hid (nout n = []) := if_neg hz
  obtain ⟨Z, hZ⟩ : ∃ Z, Z = ncheck n := ⟨_, rfl⟩
  rw [← hZ] at hz ⊢
  replace hZ := hide hZ
  have bb := hide (HE.out _ b1)
  clear b1
  go_wp2
  go_ret2
  refine ⟨.slice none 0 0, ret_si rfl (congrArg (Value.int .i64) hZ.out), ?_, bb.out⟩
  rw [ho.out]
  exact World.ownsRow_nil _ _ _ _
end Go.Proofs.YtpiikmkajckccaaGreat

namespace Go.Proofs.YtpiikmkajckccaaGreat
theorem numOf_one (b : UInt8) : numOf [b] = b.toNat := by simp [numOf, numTo]
theorem rtk_app {s : Nat} {x y : List UInt8} {sh : Bool} (h : x.length = s) : rtk s ⟨x ++ y, sh⟩ = x ∧ rst s ⟨x ++ y, sh⟩ = ⟨y, sh⟩ := by
 subst h
 unfold rtk rst
 rw [if_neg (by simp), if_neg (by simp)]
 exact ⟨by simp, by simp⟩
theorem rnum_app {s n : Nat} {y : List UInt8} {sh : Bool} (h : n < 2 ^ (8 * s)) : rnum s ⟨oc n s ++ y, sh⟩ = n ∧ rst s ⟨oc n s ++ y, sh⟩ = ⟨y, sh⟩ := by
 obtain ⟨h1, h2⟩ := rtk_app (s := s) (x := oc n s) (y := y) (sh := sh) (oc_length n s)
 refine ⟨?_, h2⟩
 unfold rnum
 rw [h1, numOf_oc n s h]
theorem rtx_app {x y : List UInt8} {sh : Bool} (h : x.length < 256) : rtx ⟨[UInt8.ofNat x.length] ++ x ++ y, sh⟩ = x ∧ rts ⟨[UInt8.ofNat x.length] ++ x ++ y, sh⟩ = ⟨y, sh⟩ := by
 have h1 := rnum_app (s := 1) (n := x.length) (y := x ++ y) (sh := sh) (by omega)
 rw [oc_one, ← List.append_assoc] at h1
 unfold rtx rts
 rw [h1.1, h1.2]
 exact rtk_app rfl
theorem rst_back {s : Nat} {r : Rr} (h : (rst s r).short = false) : r.short = false ∧ r.rest = rtk s r ++ (rst s r).rest ∧ (rtk s r).length = s := by
 unfold rst at h
 unfold rst rtk
 by_cases hl : r.rest.length < s
 ·rw [if_pos hl] at h; cases h
 ·rw [if_neg hl] at h
  rw [if_neg hl, if_neg hl]
  exact ⟨h, by simp, by simp; omega⟩
theorem oc_num {x : List UInt8} {s : Nat} (h : x.length = s) (h14 : s = 1 ∨ s = 4) : oc (numOf x) s = x := by
 rcases h14 with rfl | rfl
 ·obtain ⟨b, rfl⟩ : ∃ b, x = [b] := List.length_eq_one_iff.1 h
  rw [numOf_one, oc_one]
  simp
 ·match x, h with
  | [a, b, c, d], _ =>
   have ha := a.toNat_lt
   have hb := b.toNat_lt
   have hc := c.toNat_lt
   have hd := d.toNat_lt
   have e : numOf [a, b, c, d] = ((a.toNat * 256 + b.toNat) * 256 + c.toNat) * 256 + d.toNat := by simp [numOf, numTo]
   rw [e]
   simp only [oc, ob, List.range_succ, List.range_zero, List.nil_append, List.map_cons, List.map_nil, List.cons_append, List.cons.injEq, and_true]
   refine ⟨?_, ?_, ?_, ?_⟩ <;> (apply UInt8.toNat_inj.1; rw [UInt8.toNat_ofNat']; simp; try omega)
theorem rnum_back {s : Nat} {r : Rr} (h : (rst s r).short = false) (h14 : s = 1 ∨ s = 4) : r.short = false ∧ r.rest = oc (rnum s r) s ++ (rst s r).rest := by
 obtain ⟨h1, h2, h3⟩ := rst_back h
 refine ⟨h1, ?_⟩
 unfold rnum
 rw [oc_num h3 h14]
 exact h2
theorem rtx_back {r : Rr} (h : (rts r).short = false) : r.short = false ∧ r.rest = [UInt8.ofNat (rtx r).length] ++ rtx r ++ (rts r).rest := by
 unfold rts at h ⊢
 obtain ⟨h1, h2, h3⟩ := rst_back h
 obtain ⟨h4, h5⟩ := rnum_back h1 (.inl rfl)
 refine ⟨h4, ?_⟩
 rw [h5, oc_one, h2]
 unfold rtx
 rw [h3]
 simp
def pairsOf : List Str → List Str → List UInt8
 | k :: ks, v :: vs => ([UInt8.ofNat k.length] ++ k) ++ ([UInt8.ofNat v.length] ++ v) ++ pairsOf ks vs
 | _, _ => []
theorem rpairs_app : ∀ (ks vs : List Str) (n : Nd) (y : List UInt8) (sh : Bool), ks.length = vs.length → (∀ k ∈ ks, k.length < 256) → (∀ v ∈ vs, v.length < 256) → rpairs ks.length ⟨pairsOf ks vs ++ y, sh⟩ n = (⟨n.leaf, n.keys ++ ks, n.vals ++ vs, n.kids⟩, ⟨y, sh⟩)
 | [], [], n, y, sh, _, _, _ => by simp [rpairs, pairsOf]
 | [], v :: vs, n, y, sh, h, _, _ => by simp at h
 | k :: ks, [], n, y, sh, h, _, _ => by simp at h
 | k :: ks, v :: vs, n, y, sh, h, hk, hv => by
  have a1 := rtx_app (x := k) (y := [UInt8.ofNat v.length] ++ v ++ (pairsOf ks vs ++ y)) (sh := sh) (hk k (by simp))
  have a2 := rtx_app (x := v) (y := pairsOf ks vs ++ y) (sh := sh) (hv v (by simp))
  have e : pairsOf (k :: ks) (v :: vs) ++ y = [UInt8.ofNat k.length] ++ k ++ ([UInt8.ofNat v.length] ++ v ++ (pairsOf ks vs ++ y)) := by simp [pairsOf]
  rw [List.length_cons, rpairs, e, a1.1, a1.2, a2.1, a2.2, rpairs_app ks vs _ y sh (by simpa using h) (fun x hx => hk x (by simp [hx])) (fun x hx => hv x (by simp [hx]))]
  simp
theorem rpairs_back : ∀ (k : Nat) (r : Rr) (n : Nd), (rpairs k r n).2.short = false → r.short = false ∧ ∃ ks vs, ks.length = k ∧ vs.length = k ∧ r.rest = pairsOf ks vs ++ (rpairs k r n).2.rest ∧ (rpairs k r n).1 = ⟨n.leaf, n.keys ++ ks, n.vals ++ vs, n.kids⟩
 | 0, r, n, h => ⟨h, [], [], rfl, rfl, by simp [pairsOf, rpairs], by simp [rpairs]⟩
 | k + 1, r, n, h => by
  rw [rpairs] at h
  obtain ⟨h1, ks, vs, e1, e2, e3, e4⟩ := rpairs_back k _ _ h
  obtain ⟨h2, e5⟩ := rtx_back h1
  obtain ⟨h3, e6⟩ := rtx_back h2
  refine ⟨h3, rtx r :: ks, rtx (rts r) :: vs, by simp [e1], by simp [e2], ?_, ?_⟩
  ·rw [e6, e5, e3, rpairs]; simp [pairsOf]
  ·rw [rpairs, e4]; simp
def kidsOf : List Str → List Int → List UInt8
 | k :: ks, d :: ds => ([UInt8.ofNat k.length] ++ k) ++ n4 d ++ kidsOf ks ds
 | _, _ => []
theorem rkids_app : ∀ (ks : List Str) (d : Int) (ds : List Int) (n : Nd) (y : List UInt8) (sh : Bool), ks.length = ds.length → (∀ k ∈ ks, k.length < 256) → (0 ≤ d ∧ d < 4294967296) → (∀ d ∈ ds, 0 ≤ d ∧ d < 4294967296) → rkids ks.length ⟨n4 d ++ (kidsOf ks ds ++ y), sh⟩ n = (⟨n.leaf, n.keys ++ ks, n.vals, n.kids ++ d :: ds⟩, ⟨y, sh⟩)
 | [], d, [], n, y, sh, _, _, hd, _ => by
  have a1 := rnum_app (s := 4) (n := d.toNat) (y := y) (sh := sh) (by omega)
  rw [oc_four] at a1
  simp only [List.length_nil, kidsOf, List.nil_append, rkids]
  rw [a1.1, a1.2, Int.toNat_of_nonneg hd.1]
  simp
 | [], d, e :: ds, n, y, sh, h, _, _, _ => by simp at h
 | k :: ks, d, [], n, y, sh, h, _, _, _ => by simp at h
 | k :: ks, d, d' :: ds, n, y, sh, h, hk, hd, hds => by
  have a1 := rnum_app (s := 4) (n := d.toNat) (y := kidsOf (k :: ks) (d' :: ds) ++ y) (sh := sh) (by omega)
  rw [oc_four] at a1
  have a2 := rtx_app (x := k) (y := n4 d' ++ (kidsOf ks ds ++ y)) (sh := sh) (hk k (by simp))
  have e : kidsOf (k :: ks) (d' :: ds) ++ y = [UInt8.ofNat k.length] ++ k ++ (n4 d' ++ (kidsOf ks ds ++ y)) := by simp [kidsOf]
  rw [List.length_cons, rkids, a1.1, a1.2, e, a2.1, a2.2, Int.toNat_of_nonneg hd.1, rkids_app ks d' ds _ y sh (by simpa using h) (fun x hx => hk x (by simp [hx])) (hds d' (by simp)) (fun x hx => hds x (by simp [hx]))]
  simp
theorem rkids_back : ∀ (k : Nat) (r : Rr) (n : Nd), (rkids k r n).2.short = false → r.short = false ∧ ∃ ks d ds, ks.length = k ∧ ds.length = k ∧ r.rest = n4 d ++ (kidsOf ks ds ++ (rkids k r n).2.rest) ∧ (rkids k r n).1 = ⟨n.leaf, n.keys ++ ks, n.vals, n.kids ++ d :: ds⟩
 | 0, r, n, h => by
  rw [rkids] at h
  obtain ⟨h1, e1⟩ := rnum_back h (.inr rfl)
  refine ⟨h1, [], (rnum 4 r : Nat), [], rfl, rfl, ?_, by simp [rkids]⟩
  rw [← oc_four]
  simp only [Int.toNat_natCast, kidsOf, List.nil_append, rkids]
  exact e1
 | k + 1, r, n, h => by
  rw [rkids] at h
  obtain ⟨h1, ks, d, ds, e1, e2, e3, e4⟩ := rkids_back k _ _ h
  obtain ⟨h2, e5⟩ := rtx_back h1
  obtain ⟨h3, e6⟩ := rnum_back h2 (.inr rfl)
  refine ⟨h3, rtx (rst 4 r) :: ks, (rnum 4 r : Nat), d :: ds, by simp [e1], by simp [e2], ?_, ?_⟩
  ·rw [← oc_four, Int.toNat_natCast, rkids]
   refine e6.trans ?_
   rw [e5, e3]; simp [kidsOf]
  ·rw [rkids, e4]; simp
theorem nparts_leaf (n : Nd) (hl : n.leaf = true) (hv : n.vals.length = n.keys.length) : nparts n n.keys.length = pairsOf n.keys n.vals := by
 have key : ∀ (k : Nat) (ks vs : List Str), k + ks.length = n.keys.length → ks = n.keys.drop k → vs = n.vals.drop k → nparts n n.keys.length = nparts n k ++ pairsOf ks vs := by
  intro k ks
  induction ks generalizing k with
  | nil =>
   intro vs h1 h2 h3
   have : k = n.keys.length := by simpa using h1
   subst this
   simp [pairsOf]
  | cons x r ih =>
   intro vs h1 h2 h3
   have hk : k < n.keys.length := by simp at h1; omega
   have d1 := List.drop_eq_getElem_cons hk
   have d2 := List.drop_eq_getElem_cons (l := n.vals) (i := k) (by omega)
   rw [d1] at h2
   rw [d2] at h3
   obtain ⟨hx, hr⟩ := List.cons.inj h2
   subst h3
   have := ih (k + 1) (n.vals.drop (k + 1)) (by simp at h1; omega) hr rfl
   rw [this, nparts, npart, nkey, hl, hx, List.getElem?_eq_getElem hk, List.getElem?_eq_getElem (l := n.vals) (i := k) (by omega)]
   simp [pairsOf]
 have := key 0 n.keys n.vals (by simp) rfl rfl
 simpa [nparts] using this
theorem nparts_inner (n : Nd) (hl : n.leaf = false) (d : Int) (ds : List Int) (hd : n.kids = d :: ds) (hv : ds.length = n.keys.length) : nparts n n.keys.length = kidsOf n.keys ds := by
 have key : ∀ (k : Nat) (ks : List Str) (es : List Int), k + ks.length = n.keys.length → ks = n.keys.drop k → es = ds.drop k → nparts n n.keys.length = nparts n k ++ kidsOf ks es := by
  intro k ks
  induction ks generalizing k with
  | nil =>
   intro vs h1 h2 h3
   have : k = n.keys.length := by simpa using h1
   subst this
   simp [kidsOf]
  | cons x r ih =>
   intro vs h1 h2 h3
   have hk : k < n.keys.length := by simp at h1; omega
   have d1 := List.drop_eq_getElem_cons hk
   have d2 := List.drop_eq_getElem_cons (l := ds) (i := k) (by omega)
   rw [d1] at h2
   rw [d2] at h3
   obtain ⟨hx, hr⟩ := List.cons.inj h2
   subst h3
   have := ih (k + 1) (ds.drop (k + 1)) (by simp at h1; omega) hr rfl
   rw [this, nparts, npart, nkey, hl, hx, List.getElem?_eq_getElem hk, hd, List.getElem?_cons_succ, List.getElem?_eq_getElem (l := ds) (i := k) (by omega)]
   simp [kidsOf]
 have := key 0 n.keys ds (by simp) rfl rfl
 simpa [nparts] using this
theorem key_small {n : Nd} (h : NOk n) : ∀ k ∈ n.keys, k.length < 256 := by
 intro k hk
 obtain ⟨i, hi, e⟩ := List.mem_iff_getElem.1 hk
 have := h.key i
 unfold nkey at this
 rw [List.getElem?_eq_getElem hi, e] at this
 simp at this
 omega
theorem val_small {n : Nd} (h : NOk n) : ∀ k ∈ n.vals, k.length < 256 := by
 intro k hk
 obtain ⟨i, hi, e⟩ := List.mem_iff_getElem.1 hk
 have := h.val i
 rw [List.getElem?_eq_getElem hi, e] at this
 simp at this
 omega
theorem kid_small {n : Nd} (h : NOk n) : ∀ k ∈ n.kids, 0 ≤ k ∧ k < 4294967296 := by
 intro k hk
 obtain ⟨i, hi, e⟩ := List.mem_iff_getElem.1 hk
 have := h.2.2.2.1 i hi
 rw [List.getElem?_eq_getElem hi, e] at this
 simp at this
 omega
theorem mark_app (m : UInt8) (k : Nat) (y : List UInt8) (hk : k < 256) : rnum 1 ⟨[m, UInt8.ofNat k] ++ y, false⟩ = m.toNat ∧ rnum 1 (rst 1 ⟨[m, UInt8.ofNat k] ++ y, false⟩) = k ∧ rst 1 (rst 1 ⟨[m, UInt8.ofNat k] ++ y, false⟩) = ⟨y, false⟩ := by
 have a1 := rtk_app (s := 1) (x := [m]) (y := [UInt8.ofNat k] ++ y) (sh := false) rfl
 have a2 := rnum_app (s := 1) (n := k) (y := y) (sh := false) (by omega)
 rw [oc_one] at a2
 have e : [m, UInt8.ofNat k] ++ y = [m] ++ ([UInt8.ofNat k] ++ y) := by simp
 rw [e, a1.2]
 refine ⟨?_, a2.1, a2.2⟩
 unfold rnum
 rw [a1.1, numOf_one]
theorem nread_enc {n : Nd} (h : NOk n) : nread (nenc n) = (n, 0) := by
 have hf := h.few
 have hc := h.2.1
 unfold ncount at hc
 obtain ⟨leaf, keys, vals, kids⟩ := n
 cases leaf with
 | true =>
  rw [if_pos rfl] at hc
  dsimp only at hc hf
  have hp := nparts_leaf ⟨true, keys, vals, kids⟩ rfl hc.1
  dsimp only at hp
  have hk0 : kids = [] := List.eq_nil_of_length_eq_zero hc.2
  subst hk0
  have e : nenc ⟨true, keys, vals, []⟩ = [1, UInt8.ofNat keys.length] ++ pairsOf keys vals := by unfold nenc nhead; dsimp only; rw [hp]; simp
  obtain ⟨m1, m2, m3⟩ := mark_app 1 keys.length (pairsOf keys vals) (by omega)
  rw [← e] at m1 m2 m3
  rw [nread_leaf (by rw [m3]) m1, m2, m3]
  have := rpairs_app keys vals ⟨true, [], [], []⟩ [] false hc.1.symm (key_small h) (val_small h)
  rw [List.append_nil] at this
  rw [this]
  simp [rfin]
 | false =>
  rw [if_neg (show ¬ (false = true) by decide)] at hc
  dsimp only at hc hf
  have hv0 : vals = [] := List.eq_nil_of_length_eq_zero hc.1
  subst hv0
  match kids, hc with
  | d :: ds, hc =>
   have hl : ds.length = keys.length := by simp at hc; omega
   have hp := nparts_inner ⟨false, keys, [], d :: ds⟩ rfl d ds rfl hl
   dsimp only at hp
   have hs := kid_small h
   have e : nenc ⟨false, keys, [], d :: ds⟩ = [0, UInt8.ofNat keys.length] ++ (n4 d ++ kidsOf keys ds) := by unfold nenc nhead; dsimp only; rw [hp]; simp
   obtain ⟨m1, m2, m3⟩ := mark_app 0 keys.length (n4 d ++ kidsOf keys ds) (by omega)
   rw [← e] at m1 m2 m3
   rw [nread_inner (by rw [m3]) m1, m2, m3]
   have := rkids_app keys d ds ⟨false, [], [], []⟩ [] false hl.symm (key_small h) (hs d (by simp)) (fun x hx => hs x (by simp [hx]))
   rw [List.append_nil] at this
   rw [this]
   simp [rfin]
theorem ndec_enc {n : Nd} (h : NOk n) : ndec (nenc n) = (n, 0) := by
 unfold ndec
 rw [nread_enc h]
 simp [(ncheck_ok n).2 h]
theorem rfin_ok {p : Nd × Rr} (h : (rfin p).2 = 0) : p.2.short = false ∧ p.2.rest = [] ∧ (rfin p).1 = p.1 := by
 unfold rfin at h ⊢
 by_cases h1 : p.2.short = true
 ·rw [if_pos h1] at h; cases h
 ·rw [if_neg h1] at h ⊢
  by_cases h2 : 0 < p.2.rest.length
  ·rw [if_pos h2] at h; cases h
  ·rw [if_neg h2]
   exact ⟨by simpa using h1, List.eq_nil_of_length_eq_zero (by omega), rfl⟩
theorem nread_back {xs : List UInt8} (h : (nread xs).2 = 0) : nenc (nread xs).1 = xs := by
 cases hs : (rst 1 (rst 1 ⟨xs, false⟩)).short with
 | true => rw [nread_short hs] at h; cases h
 | false =>
  obtain ⟨s1, f1⟩ := rnum_back hs (.inl rfl)
  obtain ⟨_, f2⟩ := rnum_back s1 (.inl rfl)
  dsimp only at f2
  rw [f1, oc_one, oc_one] at f2
  have hlt := rnum_lt 1 (rst 1 ⟨xs, false⟩)
  by_cases m1 : rnum 1 ⟨xs, false⟩ = 1
  ·rw [nread_leaf hs m1] at h ⊢
   obtain ⟨g1, g2, g3⟩ := rfin_ok h
   obtain ⟨_, ks, vs, e1, e2, e3, e4⟩ := rpairs_back _ _ _ g1
   rw [g3, e4]
   rw [g2, List.append_nil] at e3
   rw [e3, m1] at f2
   have hp := nparts_leaf ⟨true, ks, vs, []⟩ rfl (by simp [e1, e2])
   dsimp only at hp
   simp only [List.nil_append]
   unfold nenc nhead
   dsimp only
   rw [hp, e1]
   refine Eq.trans ?_ f2.symm
   simp
  ·by_cases m0 : rnum 1 ⟨xs, false⟩ = 0
   ·rw [nread_inner hs m0] at h ⊢
    obtain ⟨g1, g2, g3⟩ := rfin_ok h
    obtain ⟨_, ks, d, ds, e1, e2, e3, e4⟩ := rkids_back _ _ _ g1
    rw [g3, e4]
    rw [g2, List.append_nil] at e3
    rw [e3, m0] at f2
    have hp := nparts_inner ⟨false, ks, [], d :: ds⟩ rfl d ds rfl (by simp [e1, e2])
    dsimp only at hp
    simp only [List.nil_append]
    unfold nenc nhead
    dsimp only
    rw [hp, e1]
    refine Eq.trans ?_ f2.symm
    simp
   ·rw [nread_kind hs m1 m0] at h; cases h
theorem ndec_back {xs : List UInt8} (h : (ndec xs).2 = 0) : NOk (ndec xs).1 ∧ nenc (ndec xs).1 = xs := by
 unfold ndec at h ⊢
 by_cases h1 : (nread xs).2 = 0
 ·rw [if_pos h1] at h ⊢
  by_cases h2 : ncheck (nread xs).1 = 0
  ·rw [if_pos h2]
   exact ⟨(ncheck_ok _).1 h2, nread_back h1⟩
  ·rw [if_neg h2] at h; exact absurd h h2
 ·rw [if_neg h1] at h; exact absurd h h1
end Go.Proofs.YtpiikmkajckccaaGreat

namespace Go.Proofs.YtpiikmkajckccaaGreat
open Go.RowKit
def rtkS (s : Nat) (r : Rr) : List UInt8 := if r.short then [] else rtk s r
def rstS (s : Nat) (r : Rr) : Rr := if r.short then r else rst s r
def rnumS (s : Nat) (r : Rr) : Nat := numOf (rtkS s r)
theorem rtkS_le (s : Nat) (r : Rr) : (rtkS s r).length ≤ s := by
 unfold rtkS; split
 ·simp
 ·exact rtk_le s r
theorem rnumS_lt (s : Nat) (r : Rr) : rnumS s r < 2 ^ (8 * s) := by
 unfold rnumS numOf
 refine Nat.lt_of_lt_of_le (numTo_lt _ _) (Nat.pow_le_pow_right (by decide) ?_)
 have := rtkS_le s r
 omega
theorem rstS_short {s : Nat} {r : Rr} (h : r.short = true) : (rstS s r).short = true := by unfold rstS; rw [if_pos h]; exact h
theorem rst_short {s : Nat} {r : Rr} (h : r.short = true) : (rst s r).short = true := by unfold rst; split <;> simp [h]
theorem rts_short {r : Rr} (h : r.short = true) : (rts r).short = true := rst_short (rst_short h)
theorem rpairs_short : ∀ (k : Nat) (r : Rr) (n : Nd), r.short = true → (rpairs k r n).2.short = true
 | 0, r, n, h => h
 | k + 1, r, n, h => rpairs_short k _ _ (rts_short (rts_short h))
structure RdrPA (w0 : World) (g : Nat) (w : World) (a : Option Addr) (c L at' : Nat) (xs : List UInt8) (r : Rr) : Prop where
 box : w.heap[g]? = some (.cells #[.slice a L c, .int .i64 (at' : Int), .bool r.short] 185 (0, 0))
 rd : Rd w0 (.slice a L c) xs
 len : xs.length = L
 le : at' ≤ L
 rest : r.rest = xs.drop at'
 bel : Below w0.heap.size w0 w
 hg : w0.heap.size ≤ g
def RdrP (w0 : World) (g : Nat) (w : World) (xs : List UInt8) (r : Rr) : Prop := ∃ a c L at', RdrPA w0 g w a c L at' xs r
theorem RdrP.to {w0 : World} {g : Nat} {w : World} {xs : List UInt8} {r : Rr} (h : RdrP w0 g w xs r) {U : World} (k : Below w.heap.size w U) : RdrP w0 g U xs r := by
 obtain ⟨a, c, L, at', h⟩ := h
 exact ⟨a, c, L, at', (k.block _ (lt_of_block h.box)).trans h.box, h.rd, h.len, h.le, h.rest, h.bel.trans (k.mono h.bel.size), h.hg⟩
theorem RdrP.bel {w0 : World} {g : Nat} {w : World} {xs : List UInt8} {r : Rr} (h : RdrP w0 g w xs r) : Below w0.heap.size w0 w := by obtain ⟨_, _, _, _, h⟩ := h; exact h.bel
theorem heap_set3p {u : World} {g : Nat} {a b c : Value} {t : TypeId} {fr : Nat × Nat} (h : u.heap[g]? = some (.cells #[a, b, c] t fr)) (x : Value) : (u.setCell ⟨g, 1, none⟩ x).heap[g]? = some (.cells #[a, x, c] t fr) ∧ (u.setCell ⟨g, 2, none⟩ x).heap[g]? = some (.cells #[a, b, x] t fr) := by
 constructor <;> simp [World.setCell, Array.getElem?_modify, h]
theorem cells3p {w : World} {g : Nat} {a b c : Value} {t : TypeId} (h : w.heap[g]? = some (.cells #[a, b, c] t (0, 0))) : (w.cell? ⟨g, 0, none⟩ = some a ∧ w.cell? ⟨g, 1, none⟩ = some b ∧ w.cell? ⟨g, 2, none⟩ = some c) ∧ ∀ i, w.frozen? ⟨g, i, none⟩ = false := by
 refine ⟨⟨?_, ?_, ?_⟩, fun i => ?_⟩
 ·rw [cell_of_row _ _ 0 _ _ (0, 0) h]; rfl
 ·rw [cell_of_row _ _ 1 _ _ (0, 0) h]; rfl
 ·rw [cell_of_row _ _ 2 _ _ (0, 0) h]; rfl
 ·simp [World.frozen?, h]
set_option maxRecDepth 100000 in
set_option maxHeartbeats 2000000 in
theorem rtake_any (w0 : World) (g : Nat) (w : World) (xs : List UInt8) (r : Rr) (s : Nat) (h : RdrP w0 g w xs r) (hs : s ≤ 1000000000000) :
  Calls Tryz.prog 108 #[.pointer (some ⟨g, 0, none⟩), .int .i64 (s : Int)] w fun e w' => ∃ a1 c1, e = .returned (.slice a1 (rtkS s r).length c1) ∧ Rd w0 (.slice a1 (rtkS s r).length c1) (rtkS s r) ∧ RdrP w0 g w' xs (rstS s r) ∧ KpG g w w' := by
 obtain ⟨a, c, L, at', h⟩ := h
 obtain ⟨⟨A0, A1, A2⟩, af⟩ := cells3p h.box
 have f1 := af 1
 have f2 := af 2
 have lb : L ≤ 9223372036854775807 := by obtain ⟨_, _, e, _, m1, _⟩ := h.rd; simp only [Value.slice.injEq] at e; unfold maxLen at m1; have := h.len; omega
 have hcap : L ≤ c := by obtain ⟨_, _, e, l1, _⟩ := h.rd; simp only [Value.slice.injEq] at e; have := h.len; omega
 have hle := h.le
 have HH := hide h
 clear af h
 have KW : Hid (∀ n, KpG g w (w.drewN n)) := fun n => KpG.of (below_drewN' w n _)
 cases hsh : r.short with
 | true =>
  rw [hsh] at A2
  have e1 : Hid (rtkS s r = []) := by show _ = _; unfold rtkS; rw [if_pos hsh]
  have e2 : Hid (rstS s r = r) := by show _ = _; unfold rstS; rw [if_pos hsh]
  have hsh' := hide hsh
  clear hsh
  go_enter Tryz.func108, Tryz.ntmps108
  go_wp2_with fail
  go_quiet (fail)
  go_wp2
  go_ret
  refine ⟨none, 0, by rw [e1.out]; rfl, by rw [e1.out]; exact rd_nil0 _, ?_, (KW.out nq).set 2 _⟩
  rw [e2.out]
  have bx : (w.drewN nq).heap[g]? = some (.cells #[.slice a L c, .int .i64 (at' : Int), .bool r.short] 185 (0, 0)) := HH.out.box
  refine ⟨a, c, L, at', ?_, HH.out.rd, HH.out.len, HH.out.le, HH.out.rest, (HH.out.bel.trans (below_drewN' w nq _)).setCell (p := ⟨g, 2, none⟩) HH.out.hg _, HH.out.hg⟩
  rw [hsh'.out]
  exact (heap_set3p bx _).2
 | false =>
  rw [hsh] at A2
  have hsh' := hide hsh
  clear hsh
  obtain ⟨D, hD⟩ : ∃ D, D = L - at' := ⟨_, rfl⟩
  have hd1 : (L : Int) - (at' : Int) = (D : Int) := by omega
  have hd2 : IntKind.i64.wrap (D : Int) = (D : Int) := IntWalk.i64_in _ (by omega)
  have hrl : Hid (r.rest.length = D) := by show _ = _; rw [HH.out.rest, List.length_drop, HH.out.len]; omega
  by_cases hlt : D < s
  ·have g1 : decide ((D : Int) < (s : Int)) = true := decide_eq_true (by omega)
   have g2 : decide (D < s) = true := decide_eq_true hlt
   have e1 : Hid (rtkS s r = []) := by show _ = _; unfold rtkS rtk; rw [if_neg (by rw [hsh'.out]; decide), if_pos (by rw [hrl.out]; exact hlt)]
   have e2 : Hid (rstS s r = ⟨r.rest, true⟩) := by show _ = _; unfold rstS rst; rw [if_neg (by rw [hsh'.out]; decide), if_pos (by rw [hrl.out]; exact hlt)]
   replace hD := hide hD
   go_enter Tryz.func108, Tryz.ntmps108
   go_wp2_with fail
   go_quiet (fail)
   go_wp2
   go_ret
   refine ⟨none, 0, by rw [e1.out]; rfl, by rw [e1.out]; exact rd_nil0 _, ?_, (KW.out nq).set 2 _⟩
   rw [e2.out]
   have bx : (w.drewN nq).heap[g]? = some (.cells #[.slice a L c, .int .i64 (at' : Int), .bool r.short] 185 (0, 0)) := HH.out.box
   exact ⟨a, c, L, at', (heap_set3p bx _).2, HH.out.rd, HH.out.len, HH.out.le, HH.out.rest, (HH.out.bel.trans (below_drewN' w nq _)).setCell (p := ⟨g, 2, none⟩) HH.out.hg _, HH.out.hg⟩
  ·have g1 : decide ((D : Int) < (s : Int)) = false := decide_eq_false (by omega)
   have g2 : decide (D < s) = false := decide_eq_false hlt
   have e1 : Hid (rtkS s r = r.rest.take s) := by show _ = _; unfold rtkS rtk; rw [if_neg (by rw [hsh'.out]; decide), if_neg (by rw [hrl.out]; exact hlt)]
   have e2 : Hid (rstS s r = ⟨r.rest.drop s, r.short⟩) := by show _ = _; unfold rstS rst; rw [if_neg (by rw [hsh'.out]; decide), if_neg (by rw [hrl.out]; exact hlt)]
   obtain ⟨E, hE⟩ : ∃ E, E = at' + s := ⟨_, rfl⟩
   have h1 : (at' : Int) + (s : Int) = (E : Int) := by omega
   have h2 : IntKind.i64.wrap (E : Int) = (E : Int) := IntWalk.i64_in _ (by omega)
   have h3 : (E : Int) - (s : Int) = (at' : Int) := by omega
   have h4 : IntKind.i64.wrap (at' : Int) = (at' : Int) := IntWalk.i64_in _ (by omega)
   have h5 : (at' : Int) ≤ (E : Int) := by omega
   have h6 : (E : Int) ≤ (c : Int) := by omega
   have h7 : (E : Int) ≤ (L : Int) := by omega
   obtain ⟨A, hA, R1⟩ := rd_cut HH.out.rd (q := at') (to := E) (by omega) (by omega)
   have hx : (xs.take E).drop at' = r.rest.take s := by rw [HH.out.rest, List.drop_take]; congr 1; omega
   rw [hx] at R1
   have hes : E - at' = s := by omega
   rw [hes] at R1
   have hls : Hid ((r.rest.take s).length = s) := by show _ = _; rw [List.length_take, hrl.out]; omega
   have hre : Hid (r.rest.drop s = xs.drop E) := by show _ = _; rw [HH.out.rest, List.drop_drop, hE]
   have hEL : Hid (E ≤ L) := by show _ ≤ _; omega
   replace hD := hide hD
   replace hE := hide hE
   replace R1 := hide R1
   clear hx
   go_enter Tryz.func108, Tryz.ntmps108
   go_wp2_with fail
   go_quiet (fail)
   go_wp2
   have bx : (w.drewN nq).heap[g]? = some (.cells #[.slice a L c, .int .i64 (at' : Int), .bool r.short] 185 (0, 0)) := HH.out.box
   obtain ⟨X, hX⟩ : ∃ X, X = (w.drewN nq).setCell ⟨g, 1, none⟩ (.int .i64 (E : Int)) := ⟨_, rfl⟩
   have bX : X.heap[g]? = some (.cells #[.slice a L c, .int .i64 (E : Int), .bool r.short] 185 (0, 0)) := by rw [hX]; exact (heap_set3p bx _).1
   have kX := hide ((KW.out nq).set 1 (.int .i64 (E : Int)))
   have lX := hide ((HH.out.bel.trans (below_drewN' w nq _)).setCell (p := ⟨g, 1, none⟩) HH.out.hg (.int .i64 (E : Int)))
   rw [← hX] at kX lX ⊢
   replace hX := hide hX
   obtain ⟨⟨C0, C1, C2⟩, _⟩ := cells3p bX
   have BX := hide bX
   clear A0 A1 A2 f1 f2 bx bX
   go_quiet (fail)
   go_wp2
   go_ret
   refine ⟨A, c - at', by rw [e1.out, hls.out]; first | rfl | (rw [← hes]; rfl), by rw [e1.out, hls.out]; exact R1.out, ?_, kX.out.trans (KpG.of (below_drewN' X _ _))⟩
   rw [e2.out]
   exact ⟨a, c, L, E, BX.out, HH.out.rd, HH.out.len, hEL.out, hre.out, lX.out.trans (below_drewN' X _ _), HH.out.hg⟩
set_option maxRecDepth 100000 in
set_option maxHeartbeats 1000000 in
theorem rnum9_any (w0 : World) (g : Nat) (w : World) (xs : List UInt8) (r : Rr) (s : Nat) (h : RdrP w0 g w xs r) (hs : s ≤ 7) :
  Calls Tryz.prog 107 #[.pointer (some ⟨g, 0, none⟩), .int .i64 (s : Int)] w fun e w' => e = .returned (.int .i64 (rnumS s r : Nat)) ∧ RdrP w0 g w' xs (rstS s r) ∧ KpG g w w' := by
 have KT := hide (rtake_any w0 g w xs r s h (by omega))
 have hn := rnumS_lt s r
 have hn2 : 2 ^ (8 * s) ≤ 2 ^ 56 := Nat.pow_le_pow_right (by decide) (by omega)
 have hn3 : rnumS s r < 9223372036854775808 := by
  have e56 : (2 : Nat) ^ 56 = 72057594037927936 := by decide
  omega
 have le := rtkS_le s r
 clear hn hn2 h
 go_enter Tryz.func107, Tryz.ntmps107
 go_wp2_with fail
 refine KT.out.mono ?_
 rintro e w1 ⟨a1, c1, rfl, d1, r1, k1⟩
 clear KT
 have KG := hide (refNumber_any w1 _ _ (d1.to r1.bel) (by omega))
 rw [show numOf (rtkS s r) = rnumS s r from rfl] at KG
 generalize (rtkS s r).length = TL at *
 generalize hV : rnumS s r = V at *
 replace hV := hide hV
 have hv : IntKind.i64.wrap (V : Int) = (V : Int) := IntWalk.i64_in _ (by omega)
 have R1 := hide (And.intro r1 k1)
 clear d1 r1 k1
 go_wp2_with fail
 refine KG.out.mono ?_
 rintro e w2 ⟨rfl, rfl⟩
 clear KG
 go_wp2
 go_ret
 exact ⟨ret_int (by rw [hV.out]), R1.out.1, R1.out.2⟩
end Go.Proofs.YtpiikmkajckccaaGreat

namespace Go.Proofs.YtpiikmkajckccaaGreat
open Go.RowKit
structure Tr where
 root : Int
 next : Int
 pages : List Wrt
abbrev tv (t : Tr) (pv : Value) : Value := .agg #[.int .i64 t.root, .int .i64 t.next, pv]
def tid (l : List Wrt) (i : Nat) : Int := (l[i]?.map (·.1)).getD 0
theorem tid_at {l : List Wrt} {k : Nat} {y : Wrt} (h : l[k]? = some y) : tid l k = y.1 := by unfold tid; rw [h]; rfl
def tups (next : Int) (l : List Wrt) (k : Nat) : Prop := ∀ i, i < k → (if i = 0 then 0 else tid l (i - 1)) < tid l i ∧ tid l i < next
def tUp (l : List Wrt) : Prop := ∀ i j, i < j → j < l.length → tid l i < tid l j
theorem tups_up {next : Int} {l : List Wrt} (h : tups next l l.length) : tUp l := by
 intro i j
 induction j with
 | zero => intro a; omega
 | succ j ih =>
  intro h1 h2
  have hs := (h (j + 1) h2).1
  rw [if_neg (by omega), Nat.add_sub_cancel] at hs
  by_cases e : i = j
  ·subst e; exact hs
  ·have := ih (by omega) (by omega); omega
theorem tups_ge {next : Int} {l : List Wrt} (h : tups next l l.length) : ∀ i : Nat, i < l.length → (i : Int) + 1 ≤ tid l i
 | 0, hi => by have := (h 0 hi).1; rw [if_pos rfl] at this; omega
 | i + 1, hi => by
  have := tups_ge h i (by omega)
  have hs := (h (i + 1) hi).1
  rw [if_neg (by omega), Nat.add_sub_cancel] at hs
  omega
theorem tups_len {next : Int} {l : List Wrt} (h : tups next l l.length) (hn : 1 ≤ next) : (l.length : Int) < next := by
 by_cases e : l.length = 0
 ·omega
 ·have := tups_ge h (l.length - 1) (by omega)
  have := (h (l.length - 1) (by omega)).2
  omega
def tpage : List Wrt → Int → Option (List UInt8)
 | [], _ => none
 | y :: r, id => if y.1 = id then some y.2 else tpage r id
theorem tpage_hit : ∀ {l : List Wrt} {id : Int} {i : Nat} {y : Wrt}, tUp l → l[i]? = some y → y.1 = id → tpage l id = some y.2
 | [], id, i, y, _, h, _ => by simp at h
 | x :: r, id, 0, y, _, h, e => by
  have : x = y := by simpa using h
  subst this; unfold tpage; rw [if_pos e]
 | x :: r, id, i + 1, y, hu, h, e => by
  have hl := (List.getElem?_eq_some_iff.1 h).1
  have h0 := hu 0 (i + 1) (by omega) hl
  rw [tid_at h, tid_at (l := x :: r) (k := 0) (y := x) rfl] at h0
  unfold tpage
  rw [if_neg (by omega)]
  exact tpage_hit (l := r) (i := i) (fun a b h1 h2 => hu (a + 1) (b + 1) (by omega) (by simpa using h2)) (by simpa using h) e
theorem tpage_none : ∀ {l : List Wrt} {id : Int}, (∀ i, i < l.length → tid l i ≠ id) → tpage l id = none
 | [], id, _ => rfl
 | x :: r, id, h => by
  unfold tpage
  rw [if_neg (show ¬ x.1 = id from h 0 (by simp))]
  exact tpage_none fun i hi => h (i + 1) (by simpa using hi)
def PgAt (w : World) (l : List Wrt) (id : Int) (bv : Value) (ok : Bool) : Prop := (ok = true ∧ ∃ x, tpage l id = some x ∧ Rd w bv x) ∨ (ok = false ∧ tpage l id = none ∧ bv = .slice none 0 0)
def PgRes (w w' : World) (l : List Wrt) (id : Int) (e : Ending) : Prop := ∃ bv ok, e = .returned (.tuple #[bv, .bool ok]) ∧ PgAt w' l id bv ok ∧ Below w.heap.size w w'
def PgRes0 (w0 w w' : World) (l : List Wrt) (id : Int) (e : Ending) : Prop := ∃ bv ok, e = .returned (.tuple #[bv, .bool ok]) ∧ PgAt w0 l id bv ok ∧ Below w.heap.size w w'
end Go.Proofs.YtpiikmkajckccaaGreat

namespace Go.Proofs.YtpiikmkajckccaaGreat
open Go.RowKit
theorem ret_i9 {a b : Int} (h : a = b) : Ending.returned (.int .i64 a) = .returned (.int .i64 b) := by rw [h]
def icmp (a b : Int) : Int := if a < b then -1 else if b < a then 1 else 0
set_option maxRecDepth 100000 in
theorem pnani_any (w : World) (a : Int) : Calls Tryz.prog 128 #[.int .i64 a] w fun e w' => e = .returned (.bool false) ∧ w = w' := by
 have h : (a != a) = false := by simp
 go_enter Tryz.func128, Tryz.ntmps128
 go_wp2
 go_ret
 exact ⟨rfl, rfl⟩
set_option maxRecDepth 100000 in
set_option maxHeartbeats 2000000 in
theorem pcmpi_any (w : World) (a b : Int) : Calls Tryz.prog 95 #[.int .i64 a, .int .i64 b] w fun e w' => e = .returned (.int .i64 (icmp a b)) ∧ w = w' := by
 have K1 := hide (pnani_any w a)
 have K2 := hide (pnani_any w b)
 go_enter Tryz.func95, Tryz.ntmps95
 go_wp2_with fail
 refine K1.out.mono ?_
 rintro e w1 ⟨rfl, rfl⟩
 go_wp2_with fail
 refine K2.out.mono ?_
 rintro e w1 ⟨rfl, rfl⟩
 by_cases h1 : a < b
 ·have hr : Hid (icmp a b = -1) := by show _ = _; rw [icmp, if_pos h1]
  go_wp2
  go_ret
  exact ⟨ret_i9 hr.out.symm, rfl⟩
 ·by_cases h2 : b < a
  ·have hr : Hid (icmp a b = 1) := by show _ = _; rw [icmp, if_neg h1, if_pos h2]
   have h3 : a > b := h2
   go_wp2
   go_ret
   exact ⟨ret_i9 hr.out.symm, rfl⟩
  ·have hr : Hid (icmp a b = 0) := by show _ = _; rw [icmp, if_neg h1, if_neg h2]
   have h3 : ¬ a > b := h2
   go_wp2
   go_ret
   exact ⟨ret_i9 hr.out.symm, rfl⟩
set_option maxRecDepth 100000 in
set_option maxHeartbeats 2000000 in
theorem pdcl_any (w : World) (a b : Int) (u : Value) (hu : u.oneCell' = true) : Calls Tryz.prog 110 #[.agg #[.int .i64 a, u], .int .i64 b] w fun e w' => e = .returned (.int .i64 (icmp a b)) ∧ Below w.heap.size w w' := by
 obtain ⟨W, hW, D, bW, sW⟩ := boxedN w #[.int .i64 a, u] 44
 obtain ⟨⟨D0, D1⟩, _⟩ := cells2r D
 have K1 := hide (pcmpi_any W a b)
 have HB := hide bW
 rw [hW] at D0 D1 K1 HB
 clear D bW
 go_enter Tryz.func110, Tryz.ntmps110
 go_wp2_with fail
 refine K1.out.mono ?_
 rintro e w1 ⟨rfl, rfl⟩
 go_wp2
 go_ret
 exact ⟨rfl, HB.out⟩
def BoolR (p : Prop) (w w' : World) (e : Ending) : Prop := ∃ R : Bool, e = .returned (.bool R) ∧ (R = true ↔ p) ∧ Below w.heap.size w w'
theorem BoolR.no {p : Prop} {w w' : World} (h : ¬ p) (b : Below w.heap.size w w') : BoolR p w w' (.returned (.bool false)) := ⟨false, rfl, ⟨fun h => (by cases h), fun q => absurd q h⟩, b⟩
theorem BoolR.yes {p : Prop} {w w' : World} (h : p) (b : Below w.heap.size w w') : BoolR p w w' (.returned (.bool true)) := ⟨true, rfl, ⟨fun _ => h, fun _ => rfl⟩, b⟩
def BsR (w w' : World) (ps : List Wrt) (id : Int) (e : Ending) : Prop := ∃ (i : Nat) (ok : Bool), e = .returned (.tuple #[.int .i64 i, .bool ok]) ∧ ((ok = true ∧ ∃ y, ps[i]? = some y ∧ y.1 = id) ∨ (ok = false ∧ tpage ps id = none)) ∧ Below w.heap.size w w'
set_option maxRecDepth 100000 in
set_option maxHeartbeats 2000000 in
theorem pbsf_at (w0 w : World) (pv : Value) (ps : List Wrt) (id : Int) (h : RdC w0 pv ps) (h0 : Below w0.heap.size w0 w) (hu : tUp ps) (hl : ps.length ≤ 65536) :
  Calls Tryz.prog 93 #[pv, .int .i64 id, .func (.func 110) #[] #[]] w fun e w' => BsR w w' ps id e := by
 obtain ⟨a, c, rfl⟩ := h.slice
 obtain ⟨L, hL⟩ : ∃ L, L = ps.length := ⟨_, rfl⟩
 rw [← hL] at hl
 have HH := hide h
 have H0 := hide h0
 rw [← hL] at HH ⊢
 replace hL := hide hL
 have HK : Hid (∀ t s, t < s → s < L → tid ps t < tid ps s) := fun t s h1 h2 => hu t s h1 (by rw [← hL.out]; exact h2)
 have KC := hide (fun w a u hu => pdcl_any w a id u hu)
 clear hu h h0
 go_enter Tryz.func93, Tryz.ntmps93
 go_wp2
 go_loopw [9, 10] (fun p q wr => ∃ i j : Nat, i ≤ j ∧ j ≤ L ∧ p = .int .i64 i ∧ q = .int .i64 j ∧ Hid (Below w.heap.size w wr ∧ (∀ t, t < i → tid ps t < id) ∧ ∀ t, j ≤ t → t < L → id ≤ tid ps t)) (fun p q _ => (intOf q).toNat - (intOf p).toNat)
 case atStart => exact ⟨0, L, Nat.zero_le _, Nat.le_refl _, rfl, rfl, hide ⟨Below.refl _ _, fun t h => by omega, fun t h1 h2 => by omega⟩⟩
 case round =>
  obtain ⟨i, j, hij, hjL, rfl, rfl, hI⟩ := hrel
  have HW := hide (H0.out.trans (hI.out.1.mono H0.out.size))
  by_cases hlt : i < j
  ·have hq : (i : Int) < (j : Int) := by omega
   obtain ⟨s, hs⟩ : ∃ s : Nat, (i : Int) + (j : Int) = (s : Int) := ⟨i + j, by omega⟩
   have hs1 : IntKind.i64.wrap (s : Int) = (s : Int) := IntWalk.i64_in _ (by omega)
   obtain ⟨m, hm⟩ : ∃ m : Nat, (s : Int) / 2 = (m : Int) := ⟨s / 2, by omega⟩
   have hm2 : (m : Int) < (L : Int) := by omega
   have hmi : Hid (i ≤ m ∧ m < j) := by show _ ∧ _; omega
   obtain ⟨y, hy⟩ := some_el ps (k := m) (by rw [← hL.out]; omega)
   have hny := hide (tid_at hy)
   obtain ⟨b, off, u, rfl, hc1, hc2, hr⟩ := HH.out.wrt hy
   obtain ⟨au, cu, rfl⟩ := hr.slice
   replace hc1 := (HW.out.cell (cell_lt hc1)).trans hc1
   replace hc2 := (HW.out.cell (cell_lt hc2)).trans hc2
   replace hy := hide hy
   obtain ⟨z, hz⟩ : ∃ z, z = y.1 := ⟨_, rfl⟩
   rw [← hz] at hc1
   replace hz := hide hz
   clear hr
   go_wp2_with fail
   refine (KC.out _ _ _ rfl).mono ?_
   rintro e w1 ⟨rfl, b1⟩
   by_cases hlx : z < id
   ·have hI' : Hid (Below w.heap.size w w1 ∧ (∀ t, t < m + 1 → tid ps t < id) ∧ ∀ t, j ≤ t → t < L → id ≤ tid ps t) := ⟨hI.out.1.trans (b1.mono hI.out.1.size), fun t ht => by
     by_cases e : t = m
     ·subst e; rw [hny.out, ← hz.out]; exact hlx
     ·have h1 := HK.out t m (by omega) (by omega)
      rw [hny.out, ← hz.out] at h1
      omega, hI.out.2.2⟩
    have hcm : icmp z id = -1 := by rw [icmp, if_pos hlx]
    rw [hcm]
    clear b1 hcm
    replace hlx := hide hlx
    go_wp2
    go_roundw
    case rel => exact ⟨m + 1, j, by have := hmi.out; omega, hjL, by go_num, rfl, hI'⟩
    case measure => have := hmi.out; simp [intOf]; omega
   ·have hI' : Hid (Below w.heap.size w w1 ∧ (∀ t, t < i → tid ps t < id) ∧ ∀ t, m ≤ t → t < L → id ≤ tid ps t) := ⟨hI.out.1.trans (b1.mono hI.out.1.size), hI.out.2.1, fun t h1 h2 => by
     by_cases e : t = m
     ·subst e; rw [hny.out, ← hz.out]; omega
     ·have h3 := HK.out m t (by omega) h2
      rw [hny.out, ← hz.out] at h3
      omega⟩
    obtain ⟨q, hq9⟩ : ∃ q, q = icmp z id := ⟨_, rfl⟩
    have hcm : ¬ q < 0 := by rw [hq9, icmp, if_neg hlx]; split <;> omega
    rw [← hq9]
    clear b1 hq9
    replace hlx := hide hlx
    go_wp2
    go_roundw
    case rel => exact ⟨i, m, hmi.out.1, by have := hmi.out; omega, rfl, rfl, hI'⟩
    case measure => have := hmi.out; simp [intOf]; omega
  ·have hq : ¬ (i : Int) < (j : Int) := by omega
   obtain rfl : i = j := by omega
   by_cases hiL : i < L
   ·have hq2 : (i : Int) < (L : Int) := by omega
    obtain ⟨y, hy⟩ := some_el ps (k := i) (by rw [← hL.out]; omega)
    have hny := hide (tid_at hy)
    obtain ⟨b, off, u, rfl, hc1, hc2, hr⟩ := HH.out.wrt hy
    obtain ⟨au, cu, rfl⟩ := hr.slice
    replace hc1 := (HW.out.cell (cell_lt hc1)).trans hc1
    replace hc2 := (HW.out.cell (cell_lt hc2)).trans hc2
    replace hy := hide hy
    obtain ⟨z, hz⟩ : ∃ z, z = y.1 := ⟨_, rfl⟩
    rw [← hz] at hc1
    replace hz := hide hz
    clear hr
    go_wp2_with fail
    refine (KC.out _ _ _ rfl).mono ?_
    rintro e w1 ⟨rfl, b1⟩
    have HE := hide (hI.out.1.trans (b1.mono hI.out.1.size))
    by_cases he : z = id
    ·have hcm : icmp z id = 0 := by rw [icmp, if_neg (by omega), if_neg (by omega)]
     have hR : Hid (∃ y, ps[i]? = some y ∧ y.1 = id) := ⟨y, hy.out, by rw [← hz.out]; exact he⟩
     rw [hcm]
     clear b1 hcm
     replace he := hide he
     go_wp2
     go_ret2
     exact ⟨i, true, rfl, .inl ⟨rfl, hR.out⟩, HE.out⟩
    ·have hp : Hid (tpage ps id = none) := tpage_none fun t ht => by
      by_cases h1 : t < i
      ·have := hI.out.2.1 t h1; omega
      ·by_cases h2 : t = i
       ·subst h2; rw [hny.out, ← hz.out]; exact he
       ·have h3 := HK.out i t (by omega) (by rw [hL.out]; exact ht)
        have h4 := hI.out.2.2 i (Nat.le_refl _) hiL
        omega
     obtain ⟨q, hq9⟩ : ∃ q, q = icmp z id := ⟨_, rfl⟩
     have hcm : (q == 0) = false := by
      have : q ≠ 0 := by
       rw [hq9, icmp]
       split
       ·omega
       ·split <;> omega
      simpa using this
     rw [← hq9]
     clear b1 hq9
     replace he := hide he
     go_wp2
     go_ret2
     exact ⟨i, false, rfl, .inr ⟨rfl, hp.out⟩, HE.out⟩
   ·have hq2 : ¬ (i : Int) < (L : Int) := by omega
    have hp : Hid (tpage ps id = none) := tpage_none fun t ht => by have := hI.out.2.1 t (by rw [← hL.out] at ht; omega); omega
    go_wp2
    go_ret2
    exact ⟨i, false, rfl, .inr ⟨rfl, hp.out⟩, hI.out.1⟩
set_option maxRecDepth 100000 in
set_option maxHeartbeats 2000000 in
theorem pdata_at (w0 w : World) (pv : Value) (T : Tr) (id : Int) (h : RdC w0 pv T.pages) (h0 : Below w0.heap.size w0 w) (hu : tUp T.pages) (hl : T.pages.length ≤ 65536) :
  Calls Tryz.prog 75 #[tv T pv, .int .i64 id] w fun e w' => PgRes0 w0 w w' T.pages id e := by
 obtain ⟨root, next, ps⟩ := T
 obtain ⟨W, hW, D, bW, sW⟩ := boxedN w #[.int .i64 root, .int .i64 next, pv] 28
 have KB := hide (pbsf_at w0 W pv ps id h (h0.trans (bW.mono h0.size)) hu hl)
 obtain ⟨⟨D0, D1, D2⟩, _⟩ := cells3p D
 obtain ⟨a, c, rfl⟩ := h.slice
 have HH := hide h
 have H0 := hide (h0.trans (bW.mono h0.size))
 have HB := hide bW
 have E2 := hide D2
 dsimp only [tv] at *
 rw [hW] at D0 D1 D2 KB
 replace hu := hide hu
 obtain ⟨L, hL⟩ : ∃ L, L = ps.length := ⟨_, rfl⟩
 rw [← hL] at D2 E2 KB hW ⊢
 replace hL := hide hL
 clear h h0 bW D
 go_enter Tryz.func75, Tryz.ntmps75
 go_wp2_with fail
 refine KB.out.mono ?_
 rintro e w1 ⟨i, ok, rfl, hp, b1⟩
 rw [← hW] at b1
 have B1 := hide (HB.out.trans (b1.mono HB.out.size))
 have H1 := hide (H0.out.trans (b1.mono H0.out.size))
 have D2' : w1.cell? ⟨w.heap.size, 2, none⟩ = some (.slice a L c) := (b1.cell (cell_lt E2.out)).trans E2.out
 clear b1 KB HB H0 E2 D0 D1 D2
 cases ok with
 | false =>
  have hp' : Hid (tpage ps id = none) := by
   rcases hp with ⟨q, _⟩ | ⟨_, q⟩
   ·cases q
   ·exact q
  clear hp
  go_wp2
  go_ret2
  exact ⟨_, false, rfl, .inr ⟨rfl, hp'.out, rfl⟩, B1.out⟩
 | true =>
  obtain ⟨y, hy, he⟩ : ∃ y, ps[i]? = some y ∧ y.1 = id := by
   rcases hp with ⟨_, q⟩ | ⟨q, _⟩
   ·exact q
   ·cases q
  clear hp
  have hil : (i : Int) < (L : Int) := by rw [hL.out]; have := (List.getElem?_eq_some_iff.1 hy).1; omega
  obtain ⟨b, off, u, rfl, hc1, hc2, hr⟩ := HH.out.wrt hy
  obtain ⟨au, cu, rfl⟩ := hr.slice
  replace hc1 := (H1.out.cell (cell_lt hc1)).trans hc1
  replace hc2 := (H1.out.cell (cell_lt hc2)).trans hc2
  have hR : Hid (tpage ps id = some y.2) := tpage_hit hu.out hy he
  replace hr := hide hr
  replace hy := hide hy
  replace he := hide he
  go_wp2
  go_ret2
  exact ⟨_, true, rfl, .inl ⟨rfl, _, hR.out, hr.out⟩, B1.out⟩
theorem tups_ge' {next : Int} {l : List Wrt} {m : Nat} (h : tups next l m) : ∀ i : Nat, i < m → (i : Int) + 1 ≤ tid l i
 | 0, hi => by have := (h 0 hi).1; rw [if_pos rfl] at this; omega
 | i + 1, hi => by
  have := tups_ge' h i (by omega)
  have hs := (h (i + 1) hi).1
  rw [if_neg (by omega), Nat.add_sub_cancel] at hs
  omega
def PNum (t : Tr) : Prop := 1 ≤ t.next ∧ t.next ≤ 65536 ∧ tups t.next t.pages t.pages.length
theorem tups_step9 {n : Int} {l : List Wrt} {k : Nat} (h : tups n l k) (h2 : (if k = 0 then 0 else tid l (k - 1)) < tid l k ∧ tid l k < n) : tups n l (k + 1) := by
 intro i hi
 by_cases e : i = k
 ·subst e; exact h2
 ·exact h i (by omega)
set_option maxRecDepth 100000 in
set_option maxHeartbeats 2000000 in
theorem pnumd_any (w : World) (pv : Value) (T : Tr) (h : RdC w pv T.pages) :
  Calls Tryz.prog 58 #[tv T pv] w fun e w' => BoolR (PNum T) w w' e := by
 obtain ⟨a, c, rfl⟩ := h.slice
 have lp := h.bd
 obtain ⟨root, next, ps⟩ := T
 dsimp only [tv] at *
 obtain ⟨L, hL⟩ : ∃ L, L = ps.length := ⟨_, rfl⟩
 obtain ⟨W, hW, D, bW, sW⟩ := boxedN w #[.int .i64 root, .int .i64 next, .slice a ps.length c] 28
 have HH := hide h
 have HB := hide bW
 obtain ⟨⟨D0, D1, D2⟩, _⟩ := cells3p D
 have E1 := hide D1
 rw [hW] at D0 D1 D2
 rw [← hL] at hW D2 HH lp ⊢
 replace hL := hide hL
 clear h bW D
 go_enter Tryz.func58, Tryz.ntmps58
 by_cases n1 : next < 1
 ·have hr : Hid (¬ PNum ⟨root, next, ps⟩) := fun hn => by have := hn.1; simp at this; omega
  go_wp2
  go_ret
  rw [← hW]
  exact BoolR.no hr.out HB.out
 by_cases n2 : next > 65536
 ·have hr : Hid (¬ PNum ⟨root, next, ps⟩) := fun hn => by have := hn.2.1; simp at this; omega
  go_wp2
  go_ret
  rw [← hW]
  exact BoolR.no hr.out HB.out
 go_wp2
 rw [← hW]
 replace hW := hide hW
 clear D0 D1 D2
 go_loopw [17, 3] (fun b l wr => ∃ (k : Nat) (m : Int), k ≤ L ∧ b = .int .i64 k ∧ l = .int .i64 m ∧ Hid (m = (if k = 0 then 0 else tid ps (k - 1)) + 1 ∧ tups next ps k ∧ Below W.heap.size W wr)) (fun b _ _ => L - (intOf b).toNat)
 case atStart => exact ⟨0, 1, Nat.zero_le _, rfl, rfl, hide ⟨rfl, fun k hk => by omega, Below.refl _ _⟩⟩
 case round =>
  obtain ⟨k, m, hk, rfl, rfl, hb⟩ := hrel
  have D1 : wr.cell? ⟨w.heap.size, 1, none⟩ = some (.int .i64 next) := (hb.out.2.2.cell (cell_lt E1.out)).trans E1.out
  have hE := hide (HB.out.trans (hb.out.2.2.mono HB.out.size))
  by_cases hlt : k < L
  ·have hq : (k : Int) < (L : Int) := by omega
   obtain ⟨y, hy⟩ := some_el ps (k := k) (by rw [← hL.out]; exact hlt)
   have hny := hide (tid_at hy)
   obtain ⟨b, off, u, rfl, hc1, hc2, hr⟩ := HH.out.wrt hy
   obtain ⟨au, cu, rfl⟩ := hr.slice
   replace hc1 := (hE.out.cell (cell_lt hc1)).trans hc1
   replace hc2 := (hE.out.cell (cell_lt hc2)).trans hc2
   replace hy := hide hy
   obtain ⟨z, hz⟩ : ∃ z, z = y.1 := ⟨_, rfl⟩
   rw [← hz] at hc1
   replace hz := hide (hny.out.trans hz.symm)
   clear hny hr
   obtain ⟨V, hV, DV, bV, sV⟩ := boxedN wr #[.int .i64 z, .slice au y.2.length cu] 44
   obtain ⟨⟨V0, V1⟩, _⟩ := cells2r DV
   have D1' := (bV.cell (cell_lt D1)).trans D1
   have BV := hide (hb.out.2.2.trans (bV.mono hb.out.2.2.size))
   generalize y.2.length = ly at *
   rw [hV] at V0 V1 D1'
   clear DV bV
   by_cases c1 : z < m
   ·have hr : Hid (¬ PNum ⟨root, next, ps⟩) := fun hn => by
     have h1 := (hn.2.2 k (by rw [← hL.out]; exact hlt)).1
     have h2 := hb.out.1
     dsimp only at h1
     rw [hz.out] at h1
     omega
    go_wp2
    go_ret
    rw [← hV]
    exact BoolR.no hr.out (HB.out.trans (BV.out.mono HB.out.size))
   by_cases c2 : next ≤ z
   ·have hr : Hid (¬ PNum ⟨root, next, ps⟩) := fun hn => by
     have h1 := (hn.2.2 k (by rw [← hL.out]; exact hlt)).2
     dsimp only at h1
     rw [hz.out] at h1
     omega
    go_wp2
    go_ret
    rw [← hV]
    exact BoolR.no hr.out (HB.out.trans (BV.out.mono HB.out.size))
   have hr : Hid (tups next ps (k + 1)) := tups_step9 hb.out.2.1 (by have := hb.out.1; rw [hz.out]; omega)
   have hz' : Hid (z + 1 = (if k + 1 = 0 then 0 else tid ps (k + 1 - 1)) + 1) := by show _ = _; rw [if_neg (by omega), Nat.add_sub_cancel, hz.out]
   have c3 : ¬ z ≥ next := c2
   have hm0 : 1 ≤ m := by
    have h1 := hb.out.1
    by_cases e : k = 0
    ·rw [if_pos e] at h1; omega
    ·have h2 := (hb.out.2.1 (k - 1) (by omega)).1
     rw [if_neg e] at h1
     have : 0 ≤ (if k - 1 = 0 then (0 : Int) else tid ps (k - 1 - 1)) := by
      split
      ·omega
      ·have := tups_ge' hb.out.2.1 (k - 1 - 1) (by omega)
       omega
     omega
   obtain ⟨z2, hz2⟩ : ∃ z2, z + 1 = z2 := ⟨_, rfl⟩
   have hw2 : IntKind.i64.wrap z2 = z2 := IntWalk.i64_in _ (by omega)
   rw [hz2] at hz'
   go_wp2
   rw [← hV]
   go_roundw
   case rel => exact ⟨k + 1, z2, by omega, by go_num, rfl, hide ⟨hz'.out, hr.out, BV.out⟩⟩
   case measure => simp [intOf]; omega
  ·have hq : ¬ (k : Int) < (L : Int) := by omega
   have hU : Hid (PNum ⟨root, next, ps⟩) := by
    obtain rfl : k = L := by omega
    refine ⟨by simpa using n1, by simpa using n2, ?_⟩
    show tups next ps ps.length
    rw [← hL.out]; exact hb.out.2.1
   go_wp2
   go_ret
   exact BoolR.yes hU.out hE.out
end Go.Proofs.YtpiikmkajckccaaGreat

namespace Go.Proofs.YtpiikmkajckccaaGreat
open Go.RowKit
set_option maxRecDepth 100000 in
set_option maxHeartbeats 2000000 in
theorem rpage_at (w0 w : World) (pv : Value) (T : Tr) (id : Int) (h : RdC w0 pv T.pages) (h0 : Below w0.heap.size w0 w) (hu : tUp T.pages) (hl : T.pages.length ≤ 65536) :
  Calls Tryz.prog 73 #[tv T pv, .int .i64 id] w fun e w' => PgRes0 w0 w w' T.pages id e := by
 obtain ⟨a, c, rfl⟩ := h.slice
 obtain ⟨root, next, ps⟩ := T
 dsimp only [tv] at *
 obtain ⟨L, hL⟩ : ∃ L, L = ps.length := ⟨_, rfl⟩
 rw [← hL] at hl
 obtain ⟨W, hW, D, bW, sW⟩ := boxedN w #[.int .i64 root, .int .i64 next, .slice a ps.length c] 24
 have HH := hide h
 have H0 := hide (h0.trans (bW.mono h0.size))
 have HB := hide bW
 obtain ⟨⟨D0, D1, D2⟩, _⟩ := cells3p D
 clear h bW D h0
 have E2 := hide D2
 rw [hW] at D0 D1 D2
 rw [← hL] at hW D2 E2 HH ⊢
 replace hL := hide hL
 have HK : Hid (∀ t s, t < s → s < L → tid ps t < tid ps s) := fun t s h1 h2 => hu t s h1 (by rw [← hL.out]; exact h2)
 clear hu
 go_enter Tryz.func73, Tryz.ntmps73
 go_wp2
 go_region
 go_wp2
 rw [← hW]
 replace hW := hide hW
 clear D0 D1 D2
 have E2 := E2.out
 have bD : Below W.heap.size W W.drew := below_drewN' W 1 _
 replace H0 := hide (H0.out.trans (bD.mono H0.out.size))
 replace HB := hide (HB.out.trans (bD.mono HB.out.size))
 replace E2 := (bD.cell (cell_lt E2)).trans E2
 clear bD
 generalize W.drew = W' at *
 go_loopw [6, 7] (fun p q wr => ∃ i j : Nat, i ≤ j ∧ j ≤ L ∧ p = .int .i64 i ∧ q = .int .i64 j ∧ W' = wr ∧ Hid ((∀ t, t < i → tid ps t < id) ∧ ∀ t, j ≤ t → t < L → id ≤ tid ps t)) (fun p q _ => (intOf q).toNat - (intOf p).toNat)
 case atStart => exact ⟨0, L, Nat.zero_le _, Nat.le_refl _, rfl, rfl, rfl, hide ⟨fun t h => by omega, fun t h1 h2 => by omega⟩⟩
 case round =>
  obtain ⟨i, j, hij, hjL, rfl, rfl, rfl, hI⟩ := hrel
  by_cases hlt : i < j
  ·have hq : (i : Int) < (j : Int) := by omega
   obtain ⟨s, hs⟩ : ∃ s : Nat, (i : Int) + (j : Int) = (s : Int) := ⟨i + j, by omega⟩
   have hs1 : IntKind.i64.wrap (s : Int) = (s : Int) := IntWalk.i64_in _ (by omega)
   obtain ⟨m, hm⟩ : ∃ m : Nat, (s : Int) / 2 = (m : Int) := ⟨s / 2, by omega⟩
   have hm2 : (m : Int) < (L : Int) := by omega
   have hmi : Hid (i ≤ m ∧ m < j) := by show _ ∧ _; omega
   obtain ⟨y, hy⟩ := some_el ps (k := m) (by rw [← hL.out]; omega)
   have hny := hide (tid_at hy)
   obtain ⟨b, off, u, rfl, hc1, hc2, hr⟩ := HH.out.wrt hy
   replace hy := hide hy
   obtain ⟨z, hz⟩ : ∃ z, z = y.1 := ⟨_, rfl⟩
   rw [← hz] at hc1
   replace hz := hide hz
   replace hc1 := (H0.out.cell (cell_lt hc1)).trans hc1
   clear hc2 hr
   by_cases hlx : z < id
   ·have hI' : Hid ((∀ t, t < m + 1 → tid ps t < id) ∧ ∀ t, j ≤ t → t < L → id ≤ tid ps t) := ⟨fun t ht => by
     by_cases e : t = m
     ·subst e; rw [hny.out, ← hz.out]; exact hlx
     ·have h1 := HK.out t m (by omega) (by omega)
      rw [hny.out, ← hz.out] at h1
      omega, hI.out.2⟩
    go_wp2
    go_roundw
    case rel => exact ⟨m + 1, j, by have := hmi.out; omega, hjL, by go_num, rfl, trivial, hI'⟩
    case measure => have := hmi.out; simp [intOf]; omega
   ·have hI' : Hid ((∀ t, t < i → tid ps t < id) ∧ ∀ t, m ≤ t → t < L → id ≤ tid ps t) := ⟨hI.out.1, fun t h1 h2 => by
     by_cases e : t = m
     ·subst e; rw [hny.out, ← hz.out]; omega
     ·have h3 := HK.out m t (by omega) h2
      rw [hny.out, ← hz.out] at h3
      omega⟩
    go_wp2
    go_roundw
    case rel => exact ⟨i, m, hmi.out.1, by have := hmi.out; omega, rfl, rfl, trivial, hI'⟩
    case measure => have := hmi.out; simp [intOf]; omega
  ·have hq : ¬ (i : Int) < (j : Int) := by omega
   obtain rfl : i = j := by omega
   by_cases hiL : i < L
   ·have hq2 : (i : Int) < (L : Int) := by omega
    obtain ⟨y, hy⟩ := some_el ps (k := i) (by rw [← hL.out]; omega)
    have hny := hide (tid_at hy)
    obtain ⟨b, off, u, rfl, hc1, hc2, hr⟩ := HH.out.wrt hy
    obtain ⟨au, cu, rfl⟩ := hr.slice
    replace hc1 := (H0.out.cell (cell_lt hc1)).trans hc1
    replace hc2 := (H0.out.cell (cell_lt hc2)).trans hc2
    replace hy := hide hy
    replace hr := hide hr
    obtain ⟨z, hz⟩ : ∃ z, z = y.1 := ⟨_, rfl⟩
    rw [← hz] at hc1
    replace hz := hide hz
    by_cases he : z = id
    ·have hp : Hid (tpage ps id = some y.2) := tpage_hit (fun a b h1 h2 => HK.out a b h1 (by rw [hL.out]; exact h2)) hy.out (by rw [← hz.out]; exact he)
     go_wp2
     go_ret2
     exact ⟨_, true, rfl, .inl ⟨rfl, _, hp.out, hr.out⟩, HB.out⟩
    ·have hp : Hid (tpage ps id = none) := tpage_none fun t ht => by
      by_cases h1 : t < i
      ·have := hI.out.1 t h1; omega
      ·by_cases h2 : t = i
       ·subst h2; rw [hny.out, ← hz.out]; exact he
       ·have h3 := HK.out i t (by omega) (by rw [hL.out]; exact ht)
        have h4 := hI.out.2 i (Nat.le_refl _) hiL
        omega
     go_wp2
     go_ret2
     exact ⟨_, false, rfl, .inr ⟨rfl, hp.out, rfl⟩, HB.out⟩
   ·have hq2 : ¬ (i : Int) < (L : Int) := by omega
    have hp : Hid (tpage ps id = none) := tpage_none fun t ht => by have := hI.out.1 t (by rw [← hL.out] at ht; omega); omega
    go_wp2
    go_ret2
    exact ⟨_, false, rfl, .inr ⟨rfl, hp.out, rfl⟩, HB.out⟩
theorem rpage_any (w : World) (pv : Value) (T : Tr) (id : Int) (h : RdC w pv T.pages) (hu : tUp T.pages) (hl : T.pages.length ≤ 65536) :
  Calls Tryz.prog 73 #[tv T pv, .int .i64 id] w fun e w' => PgRes w w' T.pages id e := by
 refine (rpage_at w w pv T id h (Below.refl _ _) hu hl).mono ?_
 rintro e w' ⟨bv, ok, rfl, hp, b⟩
 refine ⟨bv, ok, rfl, ?_, b⟩
 rcases hp with ⟨h1, x, h2, h3⟩ | hp
 ·exact .inl ⟨h1, x, h2, h3.to b⟩
 ·exact .inr hp
end Go.Proofs.YtpiikmkajckccaaGreat

namespace Go.Proofs.YtpiikmkajckccaaGreat
open Go.RowKit
def TNum (t : Tr) : Prop := 1 ≤ t.next ∧ t.next ≤ 65536 ∧ tups t.next t.pages t.pages.length ∧ (t.root = 0 ∨ tpage t.pages t.root ≠ none)
instance (n : Int) (l : List Wrt) (k : Nat) : Decidable (tups n l k) := by unfold tups; infer_instance
instance (t : Tr) : Decidable (TNum t) := by unfold TNum; infer_instance
theorem tups_step {n : Int} {l : List Wrt} {k : Nat} (h : tups n l k) (h2 : (if k = 0 then 0 else tid l (k - 1)) < tid l k ∧ tid l k < n) : tups n l (k + 1) := by
 intro i hi
 by_cases e : i = k
 ·subst e; exact h2
 ·exact h i (by omega)
def TInvN (w W : World) (root next : Int) (pv : Value) (ps : List Wrt) (wr : World) : Prop := Below W.heap.size W wr ∧ (wr.cell? ⟨w.heap.size, 0, none⟩ = some (.int .i64 root) ∧ wr.cell? ⟨w.heap.size, 1, none⟩ = some (.int .i64 next) ∧ wr.cell? ⟨w.heap.size, 2, none⟩ = some pv) ∧ RdC wr pv ps
theorem TInvN.to {w W : World} {root next : Int} {pv : Value} {ps : List Wrt} {wr w' : World} (h : TInvN w W root next pv ps wr) (hb : Below wr.heap.size wr w') : TInvN w W root next pv ps w' :=
 ⟨h.1.trans (hb.mono h.1.size), ⟨(hb.cell (cell_lt h.2.1.1)).trans h.2.1.1, (hb.cell (cell_lt h.2.1.2.1)).trans h.2.1.2.1, (hb.cell (cell_lt h.2.1.2.2)).trans h.2.1.2.2⟩, h.2.2.to0 hb⟩
set_option maxRecDepth 100000 in
set_option maxHeartbeats 2000000 in
theorem rnumbers_any (w : World) (pv : Value) (T : Tr) (h : RdC w pv T.pages) :
  Calls Tryz.prog 72 #[tv T pv] w fun e w' => e = .returned (.bool (decide (TNum T))) ∧ Below w.heap.size w w' := by
 obtain ⟨a, c, rfl⟩ := h.slice
 have lp := h.bd
 obtain ⟨root, next, ps⟩ := T
 dsimp only [tv] at *
 obtain ⟨L, hL⟩ : ∃ L, L = ps.length := ⟨_, rfl⟩
 obtain ⟨W, hW, D, bW, sW⟩ := boxedN w #[.int .i64 root, .int .i64 next, .slice a ps.length c] 24
 have HH := hide (h.to0 bW)
 have HB := hide bW
 obtain ⟨⟨D0, D1, D2⟩, _⟩ := cells3p D
 clear h bW D
 have E := hide (And.intro D0 (And.intro D1 D2))
 rw [hW] at D0 D1 D2
 rw [← hL] at hW D2 E HH lp ⊢
 replace hL := hide hL
 obtain ⟨R, hR⟩ : ∃ R, R = decide (TNum ⟨root, next, ps⟩) := ⟨_, rfl⟩
 rw [← hR]
 have hF : Hid (¬ TNum ⟨root, next, ps⟩ → R = false) := fun hn => by rw [hR]; exact decide_eq_false hn
 have hT : Hid (TNum ⟨root, next, ps⟩ → R = true) := fun hn => by rw [hR]; exact decide_eq_true hn
 clear hR
 go_enter Tryz.func72, Tryz.ntmps72
 by_cases n1 : next < 1
 ·have hr : Hid (R = false) := hF.out fun hn => by have := hn.1; simp at this; omega
  go_wp2
  go_ret
  rw [← hW]
  exact ⟨congrArg _ (congrArg _ hr.out.symm), HB.out⟩
 by_cases n2 : next > 65536
 ·have hr : Hid (R = false) := hF.out fun hn => by have := hn.2.1; simp at this; omega
  go_wp2
  go_ret
  rw [← hW]
  exact ⟨congrArg _ (congrArg _ hr.out.symm), HB.out⟩
 go_wp2
 rw [← hW]
 replace hW := hide hW
 clear D0 D1 D2
 have HI : Hid (TInvN w W root next (.slice a L c) ps W) := ⟨Below.refl _ _, E.out, HH.out⟩
 clear HH E
 go_loopw [4, 3] (fun b l wr => ∃ k : Nat, k ≤ L ∧ b = .int .i64 k ∧ l = .int .i64 (if k = 0 then 0 else tid ps (k - 1)) ∧ Hid (tups next ps k ∧ TInvN w W root next (.slice a L c) ps wr)) (fun b _ _ => L - (intOf b).toNat)
 case atStart => exact ⟨0, Nat.zero_le _, rfl, rfl, hide ⟨fun k hk => by omega, HI.out⟩⟩
 case round =>
  obtain ⟨k, hk, rfl, rfl, hb⟩ := hrel
  obtain ⟨D0, D1, D2⟩ := hb.out.2.2.1
  have hE : Hid (∀ w', Below wr.heap.size wr w' → Below w.heap.size w w') := fun w' b => HB.out.trans ((hb.out.2.to b).1.mono HB.out.size)
  obtain ⟨l, hl⟩ : ∃ l, l = (if k = 0 then 0 else tid ps (k - 1)) := ⟨_, rfl⟩
  rw [← hl]
  replace hl := hide hl
  by_cases hlt : k < L
  ·have hq : (k : Int) < (L : Int) := by omega
   obtain ⟨y, hy⟩ := some_el ps (k := k) (by rw [← hL.out]; exact hlt)
   have hny := hide (tid_at hy)
   obtain ⟨b, off, u, rfl, hc1, _, _⟩ := hb.out.2.2.2.wrt hy
   replace hy := hide hy
   obtain ⟨z, hz⟩ : ∃ z, z = y.1 := ⟨_, rfl⟩
   rw [← hz] at hc1
   replace hz := hide (hny.out.trans hz.symm)
   clear hny
   by_cases c1 : z ≤ l
   ·have g1 : decide (z ≤ l) = true := decide_eq_true c1
    have hr : Hid (R = false) := hF.out fun hn => by have := (hn.2.2.1 k (by rw [← hL.out]; exact hlt)).1; dsimp only at this; rw [← hl.out, hz.out] at this; omega
    go_wp2_with fail
    go_quiet (fail)
    go_wp2
    go_ret
    exact ⟨congrArg _ (congrArg _ hr.out.symm), hE.out _ (below_drewN' wr _ _)⟩
   have g1 : decide (z ≤ l) = false := decide_eq_false c1
   by_cases c2 : next ≤ z
   ·have g2 : decide (next ≤ z) = true := decide_eq_true c2
    have hr : Hid (R = false) := hF.out fun hn => by have := (hn.2.2.1 k (by rw [← hL.out]; exact hlt)).2; dsimp only at this; rw [hz.out] at this; omega
    go_wp2_with fail
    go_quiet (fail)
    go_wp2
    go_ret
    exact ⟨congrArg _ (congrArg _ hr.out.symm), hE.out _ (below_drewN' wr _ _)⟩
   have g2 : decide (next ≤ z) = false := decide_eq_false c2
   have hr : Hid (tups next ps (k + 1)) := tups_step hb.out.1 (by rw [← hl.out, hz.out]; omega)
   have hz' : Hid (z = if k + 1 = 0 then 0 else tid ps (k + 1 - 1)) := by show _ = _; rw [if_neg (by omega), Nat.add_sub_cancel, hz.out]
   go_wp2_with fail
   go_quiet (fail)
   go_wp2
   go_roundw
   case rel => exact ⟨k + 1, by omega, by go_num, congrArg _ hz'.out, hide ⟨hr.out, hb.out.2.to (below_drewN' wr _ _)⟩⟩
   case measure => simp [intOf]; omega
  ·have hq : ¬ (k : Int) < (L : Int) := by omega
   have hU : Hid (tups next ps ps.length) := by
    obtain rfl : k = L := by omega
    rw [← hL.out]; exact hb.out.1
   have hlen : ps.length ≤ 65536 := by have := tups_len hU.out (by omega); omega
   have KP := hide (rpage_any wr (.slice a L c) ⟨root, next, ps⟩ root hb.out.2.2.2 (tups_up hU.out) hlen)
   have HI := hide hb.out.2
   clear hb hlen
   go_wp2_with fail
   refine KP.out.mono ?_
   rintro e w1 ⟨bv, ok, rfl, hp, b1⟩
   have hE1 := hide (hE.out _ b1)
   obtain ⟨D0, D1, D2⟩ := (HI.out.to b1).2.1
   have hR : Hid ((root == 0 || ok) = R) := by
    show _ = _
    have hiff : TNum ⟨root, next, ps⟩ ↔ (root = 0 ∨ ok = true) := by
     refine ⟨fun hn => ?_, fun hn => ⟨by simpa using n1, by simpa using n2, hU.out, ?_⟩⟩
     ·rcases hn.2.2.2 with h0 | h0
      ·exact .inl h0
      ·rcases hp with ⟨o, _⟩ | ⟨_, o, _⟩
       ·exact .inr o
       ·exact absurd o h0
     ·rcases hn with h0 | h0
      ·exact .inl h0
      ·refine .inr ?_
       rcases hp with ⟨_, x, o, _⟩ | ⟨o, _⟩
       ·show tpage ps root ≠ none
        rw [o]; simp
       ·rw [o] at h0; cases h0
    by_cases hn : TNum ⟨root, next, ps⟩
    ·rw [hT.out hn]; simpa using hiff.1 hn
    ·rw [hF.out hn]
     have := mt hiff.2 hn
     apply Bool.eq_false_iff.2
     simpa using this
   clear hp KP HI hE
   by_cases r0 : root = 0
   ·have hr : Hid (R = true) := by show _ = _; rw [← hR.out, r0]; rfl
    go_wp2
    go_ret
    exact ⟨congrArg _ (congrArg _ hr.out.symm), hE1.out⟩
   ·go_wp2
    go_ret
    exact ⟨congrArg _ (congrArg _ hR.out), hE1.out⟩
end Go.Proofs.YtpiikmkajckccaaGreat

namespace Go.Proofs.YtpiikmkajckccaaGreat
open Go.RowKit
abbrev Pr := Str × Str
abbrev SPr : Shp Pr := Shp.str.pair Shp.str
abbrev RdP (w : World) (v : Value) (l : List Pr) : Prop := RdS SPr w v l
def tkey (k : Str) : Bool := decide (1 ≤ k.length ∧ k.length ≤ 32)
def phas (l : List Pr) (k : Str) : Bool := l.any fun y => y.1 == k
end Go.Proofs.YtpiikmkajckccaaGreat

namespace Go.Proofs.YtpiikmkajckccaaGreat
def kin (lo : Str) (hi : Option Str) (k : Str) : Bool := !slt k lo && (match hi with | none => true | some h => slt k h)
structure Sw where
 seen : List Int
 dep : Option Nat
 prs : List Pr
def kidLo (n : Nd) (lo : Str) (i : Nat) : Str := if i = 0 then lo else n.keys.getD (i - 1) []
def kidHi (n : Nd) (hi : Option Str) (i : Nat) : Option Str := if i < n.keys.length then some (n.keys.getD i []) else hi
def wkK (g : Int → Str → Option Str → Sw → Option Sw) (n : Nd) (lo : Str) (hi : Option Str) : Nat → List Int → Sw → Option Sw
 | _, [], s => some s
 | i, k :: r, s => (g k (kidLo n lo i) (kidHi n hi i) s).bind (wkK g n lo hi (i + 1) r)
def npr (n : Nd) : List Pr := n.keys.zip n.vals
def wk (l : List Wrt) : Nat → Int → Str → Option Str → Sw → Option Sw
 | 0, _, _, _, _ => none
 | f + 1, id, lo, hi, s =>
  match tpage l id with
  | none => none
  | some x =>
   if id ∈ s.seen then none
   else if (ndec x).2 ≠ 0 then none
   else if (ndec x).1.keys.all (kin lo hi) = false then none
   else if (ndec x).1.leaf = true then
    if (ndec x).1.keys = [] ∨ (s.dep ≠ none ∧ s.dep ≠ some f) then none
    else some ⟨id :: s.seen, some f, s.prs ++ npr (ndec x).1⟩
   else wkK (wk l f) (ndec x).1 lo hi 0 (ndec x).1.kids ⟨id :: s.seen, s.dep, s.prs⟩
theorem wkK_snoc (g : Int → Str → Option Str → Sw → Option Sw) (n : Nd) (lo : Str) (hi : Option Str) : ∀ (a : List Int) (i : Nat) (k : Int) (s : Sw),
  wkK g n lo hi i (a ++ [k]) s = (wkK g n lo hi i a s).bind (g k (kidLo n lo (i + a.length)) (kidHi n hi (i + a.length)))
 | [], i, k, s => by
  simp only [List.nil_append, wkK, List.length_nil, Nat.add_zero, Option.bind_some]
  cases g k (kidLo n lo i) (kidHi n hi i) s <;> rfl
 | b :: a, i, k, s => by
  simp only [List.cons_append, wkK, List.length_cons]
  cases g b (kidLo n lo i) (kidHi n hi i) s with
  | none => rfl
  | some s' =>
   simp only [Option.bind_some]
   rw [wkK_snoc g n lo hi a (i + 1) k s', show i + 1 + a.length = i + (a.length + 1) from by omega]
theorem wkK_take (g : Int → Str → Option Str → Sw → Option Sw) (n : Nd) (lo : Str) (hi : Option Str) (l : List Int) (s : Sw) {i : Nat} {k : Int} (h : l[i]? = some k) :
  wkK g n lo hi 0 (l.take (i + 1)) s = (wkK g n lo hi 0 (l.take i) s).bind (g k (kidLo n lo i) (kidHi n hi i)) := by
 rw [List.take_add_one, h]
 show wkK g n lo hi 0 (l.take i ++ [k]) s = _
 have hl : (l.take i).length = i := by rw [List.length_take, Nat.min_eq_left]; have := (List.getElem?_eq_some_iff.1 h).1; omega
 rw [wkK_snoc, hl, Nat.zero_add]
theorem wk_none {l : List Wrt} {f : Nat} {id : Int} {lo : Str} {hi : Option Str} {s : Sw} (h : tpage l id = none) : wk l f id lo hi s = none := by
 cases f with
 | zero => rfl
 | succ f => unfold wk; rw [h]
theorem wk_seen {l : List Wrt} {f : Nat} {id : Int} {lo : Str} {hi : Option Str} {s : Sw} (h : id ∈ s.seen) : wk l f id lo hi s = none := by
 cases f with
 | zero => rfl
 | succ f => unfold wk; cases tpage l id <;> simp [h]
theorem wk_bad {l : List Wrt} {f : Nat} {id : Int} {lo : Str} {hi : Option Str} {s : Sw} {x : List UInt8} (hx : tpage l id = some x) (h : (ndec x).2 ≠ 0) : wk l f id lo hi s = none := by
 cases f with
 | zero => rfl
 | succ f => unfold wk; rw [hx]; simp [h]
theorem wk_out {l : List Wrt} {f : Nat} {id : Int} {lo : Str} {hi : Option Str} {s : Sw} {x : List UInt8} (hx : tpage l id = some x) {j : Nat} {k : Str} (hj : (ndec x).1.keys[j]? = some k) (hk : kin lo hi k = false) : wk l f id lo hi s = none := by
 cases f with
 | zero => rfl
 | succ f =>
  have : (ndec x).1.keys.all (kin lo hi) = false := by
   rw [List.all_eq_false]
   exact ⟨k, List.mem_of_getElem? hj, by simp [hk]⟩
  unfold wk; rw [hx]; simp [this]
theorem wk_leaf {l : List Wrt} {f : Nat} {id : Int} {lo : Str} {hi : Option Str} {s : Sw} {x : List UInt8} {n : Nd} (hx : tpage l id = some x) (hs : id ∉ s.seen) (hd : ndec x = (n, 0)) (ha : n.keys.all (kin lo hi) = true) (hl : n.leaf = true) :
  wk l (f + 1) id lo hi s = if n.keys = [] ∨ (s.dep ≠ none ∧ s.dep ≠ some f) then none else some ⟨id :: s.seen, some f, s.prs ++ npr n⟩ := by
 conv => lhs; unfold wk
 rw [hx]
 simp only [hs, hd, ha, hl, if_false, if_true]
 simp
theorem wk_inner {l : List Wrt} {f : Nat} {id : Int} {lo : Str} {hi : Option Str} {s : Sw} {x : List UInt8} {n : Nd} (hx : tpage l id = some x) (hs : id ∉ s.seen) (hd : ndec x = (n, 0)) (ha : n.keys.all (kin lo hi) = true) (hl : n.leaf = false) :
  wk l (f + 1) id lo hi s = wkK (wk l f) n lo hi 0 n.kids ⟨id :: s.seen, s.dep, s.prs⟩ := by
 conv => lhs; unfold wk
 rw [hx]
 simp only [hs, hd, ha, hl, if_false]
 simp
theorem all_kin {l : List Str} {lo : Str} {hi : Option Str} (h : ∀ (j : Nat) (k : Str), l[j]? = some k → kin lo hi k = true) : l.all (kin lo hi) = true := by
 rw [List.all_eq_true]
 intro k hk
 obtain ⟨j, hj, e⟩ := List.getElem_of_mem hk
 exact h j k (by rw [List.getElem?_eq_getElem hj, e])
theorem wkK_mono {g : Int → Str → Option Str → Sw → Option Sw} (hg : ∀ k lo hi s s', g k lo hi s = some s' → s.prs.length ≤ s'.prs.length) (n : Nd) (lo : Str) (hi : Option Str) :
  ∀ (ks : List Int) (i : Nat) (s s' : Sw), wkK g n lo hi i ks s = some s' → s.prs.length ≤ s'.prs.length
 | [], i, s, s', h => by simp only [wkK, Option.some.injEq] at h; subst h; exact Nat.le_refl _
 | k :: r, i, s, s', h => by
  simp only [wkK] at h
  cases h1 : g k (kidLo n lo i) (kidHi n hi i) s with
  | none => rw [h1] at h; cases h
  | some s1 =>
   rw [h1] at h
   exact Nat.le_trans (hg _ _ _ _ _ h1) (wkK_mono hg n lo hi r (i + 1) s1 s' h)
theorem wk_mono (l : List Wrt) : ∀ (f : Nat) (id : Int) (lo : Str) (hi : Option Str) (s s' : Sw), wk l f id lo hi s = some s' → s.prs.length ≤ s'.prs.length
 | 0, id, lo, hi, s, s', h => by cases h
 | f + 1, id, lo, hi, s, s', h => by
  unfold wk at h
  split at h
  ·cases h
  ·split at h
   ·cases h
   ·split at h
    ·cases h
    ·split at h
     ·cases h
     ·split at h
      ·split at h
       ·cases h
       ·simp only [Option.some.injEq] at h
        subst h
        simp
      ·have := wkK_mono (fun k lo hi s s' hk => wk_mono l f k lo hi s s' hk) _ lo hi _ 0 _ s' h
       exact this
theorem wkK_at {g : Int → Str → Option Str → Sw → Option Sw} (hg : ∀ k lo hi s s', g k lo hi s = some s' → s.prs.length ≤ s'.prs.length) (n : Nd) (lo : Str) (hi : Option Str) (l : List Int) (s s'' : Sw) (h : wkK g n lo hi 0 l s = some s'') :
  ∀ d k, k + d = l.length → ∃ sk, wkK g n lo hi 0 (l.take k) s = some sk ∧ sk.prs.length ≤ s''.prs.length
 | 0, k, hk => ⟨s'', by rw [List.take_of_length_le (by omega)]; exact h, Nat.le_refl _⟩
 | d + 1, k, hk => by
  obtain ⟨s1, h1, h2⟩ := wkK_at hg n lo hi l s s'' h d (k + 1) (by omega)
  obtain ⟨x, hx⟩ : ∃ x, l[k]? = some x := ⟨_, List.getElem?_eq_getElem (by omega)⟩
  rw [wkK_take _ _ _ _ _ _ hx] at h1
  cases h3 : wkK g n lo hi 0 (l.take k) s with
  | none => rw [h3] at h1; cases h1
  | some sk =>
   rw [h3] at h1
   exact ⟨sk, rfl, Nat.le_trans (hg _ _ _ _ _ h1) h2⟩
def twalk (t : Tr) : Option Sw := if t.root = 0 then some ⟨[], none, []⟩ else wk t.pages 16 t.root [] none ⟨[], none, []⟩
def tprs (t : Tr) : Option (List Pr) := if TNum t then (twalk t).bind fun s => if s.prs.length ≤ 4096 then some s.prs else none else none
end Go.Proofs.YtpiikmkajckccaaGreat

namespace Go.Proofs.YtpiikmkajckccaaGreat
open Go.RowKit
abbrev nil9 : Value := .slice none 0 0
theorem row_kept {w w' : World} {own : Option Nat} (g : w.grownBy w' own) {B T n : Nat} {v : Value} {m : Nat} {cc : List Value} (h : w.ownsRow B T n v m cc) (hd : ∀ k, own = some k → v.ownBlock ≠ some k) : w'.ownsRow B T n v m cc :=
 h.kept g (by
  cases hv : v.ownBlock with
  | none => exact .inl rfl
  | some k => right; intro e; exact hd k e.symm hv)
theorem row_from {w : World} {B T n : Nat} {v : Value} {m : Nat} {cc : List Value} (h : w.ownsRow B T n v m cc) : ∀ k, v.ownBlock = some k → B ≤ k ∧ k < w.heap.size := fun k hk => World.ownsRow.lt h k hk
theorem blk_ne {g' m' c' sz : Nat} {own o : Option Nat} (hg : own = some g' ∨ g' = sz) (hd : ∀ k, own = some k → o ≠ some k) (hlt : ∀ k, o = some k → k < sz) : ∀ k, (Value.slice (some ⟨g', 0, none⟩) m' c').ownBlock = some k → o ≠ some k := by
 intro k e e'
 have hk : g' = k := by simpa [Value.ownBlock] using e
 subst hk
 rcases hg with hg | hg
 ·exact hd _ hg e'
 ·have := hlt _ e'; omega
theorem heap_set4i {u : World} {g : Nat} {a b c d : Value} {t : TypeId} {fr : Nat × Nat} (h : u.heap[g]? = some (.cells #[a, b, c, d] t fr)) (x : Value) : (u.setCell ⟨g, 1, none⟩ x).heap[g]? = some (.cells #[a, x, c, d] t fr) ∧ (u.setCell ⟨g, 2, none⟩ x).heap[g]? = some (.cells #[a, b, x, d] t fr) ∧ (u.setCell ⟨g, 3, none⟩ x).heap[g]? = some (.cells #[a, b, c, x] t fr) := by
 refine ⟨?_, ?_, ?_⟩ <;> simp [World.setCell, Array.getElem?_modify, h]
end Go.Proofs.YtpiikmkajckccaaGreat

namespace Go.Proofs.YtpiikmkajckccaaGreat
open Go.RowKit
structure RStP (w0 : World) (xs : List UInt8) (nb : Nat) (w : World) (kv vv dv : Value) (n : Nd) (r : Rr) : Prop where
 rdr : RdrP w0 (w0.heap.size + 1) w xs r
 res : w.heap[w0.heap.size]? = some (.cells #[.bool false, nil9, nil9, nil9] 145 (0, 0))
 box : w.heap[nb]? = some (.cells #[.bool n.leaf, kv, vv, dv] 145 (0, 0))
 own : OwnN (nb + 1) w kv vv dv n
 hnb : w0.heap.size + 1 < nb
 d1 : ∀ k, kv.ownBlock = some k → vv.ownBlock ≠ some k
 d2 : ∀ k, kv.ownBlock = some k → dv.ownBlock ≠ some k
 d3 : ∀ k, vv.ownBlock = some k → dv.ownBlock ≠ some k
theorem RStP.below {w0 : World} {xs : List UInt8} {nb : Nat} {w : World} {kv vv dv : Value} {n : Nd} {r : Rr} (h : RStP w0 xs nb w kv vv dv n r) {U : World} (b : Below w.heap.size w U) : RStP w0 xs nb U kv vv dv n r :=
 ⟨h.rdr.to b, (b.block _ (lt_of_block h.res)).trans h.res, (b.block _ (lt_of_block h.box)).trans h.box, h.own.to b, h.hnb, h.d1, h.d2, h.d3⟩
theorem RStP.call {w0 : World} {xs : List UInt8} {nb : Nat} {w : World} {kv vv dv : Value} {n : Nd} {r r' : Rr} (h : RStP w0 xs nb w kv vv dv n r) {U : World} (k : KpG (w0.heap.size + 1) w U) (hr : RdrP w0 (w0.heap.size + 1) U xs r') : RStP w0 xs nb U kv vv dv n r' :=
 ⟨hr, (k.1 _ (lt_of_block h.res) (by omega)).trans h.res, (k.1 _ (lt_of_block h.box) (by have := h.hnb; omega)).trans h.box, ⟨k.row h.own.keys (by have := h.hnb; omega), k.row h.own.vals (by have := h.hnb; omega), k.row h.own.kids (by have := h.hnb; omega)⟩, h.hnb, h.d1, h.d2, h.d3⟩
theorem rdrp_kept {w0 : World} {g : Nat} {w w' : World} {xs : List UInt8} {r : Rr} {own : Option Nat} (h : RdrP w0 g w xs r) (k : w.grownBy w' own) (hg : ∀ b, own = some b → g < b) : RdrP w0 g w' xs r := by
 obtain ⟨a, c, L, at', h⟩ := h
 have hl := lt_of_block h.box
 have hs := h.bel.size
 exact ⟨a, c, L, at', (k.block g hl (fun e => by have := hg g e.symm; omega)).trans h.box, h.rd, h.len, h.le, h.rest, h.bel.grown k hs (fun b e => by have := hg b e; have := h.hg; omega), h.hg⟩
theorem rdrp_set {w0 : World} {g : Nat} {w : World} {xs : List UInt8} {r : Rr} (h : RdrP w0 g w xs r) {nb : Nat} (hn : g < nb) (i : Nat) (v : Value) : RdrP w0 g (w.setCell ⟨nb, i, none⟩ v) xs r := by
 obtain ⟨a, c, L, at', h⟩ := h
 exact ⟨a, c, L, at', (Below.heap_setCell _ _ _ _ (by show g ≠ nb; omega)).trans h.box, h.rd, h.len, h.le, h.rest, h.bel.setCell (p := ⟨nb, i, none⟩) (by have := h.hg; show w0.heap.size ≤ nb; omega) v, h.hg⟩
theorem RStP.keys {w0 : World} {xs : List UInt8} {nb : Nat} {w : World} {kv vv dv : Value} {n : Nd} {r : Rr} (h : RStP w0 xs nb w kv vv dv n r) {x : Str} {w' : World} {v' : Value} {g' m' c' : Nat} (hv : v' = .slice (some ⟨g', 0, none⟩) m' c') (o : OwnT (nb + 1) w' v' (n.keys ++ [x])) (k : w.grownBy w' kv.ownBlock) (hg : kv.ownBlock = some g' ∨ g' = w.heap.size) :
  RStP w0 xs nb (w'.setCell ⟨nb, 1, none⟩ v') v' vv dv ⟨n.leaf, n.keys ++ [x], n.vals, n.kids⟩ r := by
 have hn := h.hnb
 have fr := row_from h.own.keys
 have nbl := lt_of_block h.box
 have rsl := lt_of_block h.res
 subst hv
 exact ⟨rdrp_set (rdrp_kept h.rdr k fun b e => by have := (fr b e).1; omega) (by omega) 1 _,
  (Below.heap_setCell _ _ _ _ (by show w0.heap.size ≠ nb; omega)).trans ((k.block _ rsl (fun e => by have := (fr _ e.symm).1; omega)).trans h.res),
  (heap_set4i ((k.block _ nbl (fun e => by have := (fr _ e.symm).1; omega)).trans h.box) _).1,
  ⟨rows_set o (show nb < nb + 1 by omega) 1 _, rows_set (row_kept k h.own.vals h.d1) (show nb < nb + 1 by omega) 1 _, rows_set (row_kept k h.own.kids h.d2) (show nb < nb + 1 by omega) 1 _⟩, hn, blk_ne hg h.d1 (fun k e => (row_from h.own.vals k e).2), blk_ne hg h.d2 (fun k e => (row_from h.own.kids k e).2), h.d3⟩
theorem RStP.vals {w0 : World} {xs : List UInt8} {nb : Nat} {w : World} {kv vv dv : Value} {n : Nd} {r : Rr} (h : RStP w0 xs nb w kv vv dv n r) {x : Str} {w' : World} {v' : Value} {g' m' c' : Nat} (hv : v' = .slice (some ⟨g', 0, none⟩) m' c') (o : OwnT (nb + 1) w' v' (n.vals ++ [x])) (k : w.grownBy w' vv.ownBlock) (hg : vv.ownBlock = some g' ∨ g' = w.heap.size) :
  RStP w0 xs nb (w'.setCell ⟨nb, 2, none⟩ v') kv v' dv ⟨n.leaf, n.keys, n.vals ++ [x], n.kids⟩ r := by
 have hn := h.hnb
 have fr := row_from h.own.vals
 have nbl := lt_of_block h.box
 have rsl := lt_of_block h.res
 subst hv
 exact ⟨rdrp_set (rdrp_kept h.rdr k fun b e => by have := (fr b e).1; omega) (by omega) 2 _,
  (Below.heap_setCell _ _ _ _ (by show w0.heap.size ≠ nb; omega)).trans ((k.block _ rsl (fun e => by have := (fr _ e.symm).1; omega)).trans h.res),
  (heap_set4i ((k.block _ nbl (fun e => by have := (fr _ e.symm).1; omega)).trans h.box) _).2.1,
  ⟨rows_set (row_kept k h.own.keys (fun k e e' => h.d1 k e' e)) (show nb < nb + 1 by omega) 2 _, rows_set o (show nb < nb + 1 by omega) 2 _, rows_set (row_kept k h.own.kids h.d3) (show nb < nb + 1 by omega) 2 _⟩, hn, (fun k e e' => blk_ne hg (fun k e e' => h.d1 k e' e) (fun k e => (row_from h.own.keys k e).2) k e' e), h.d2, blk_ne hg h.d3 (fun k e => (row_from h.own.kids k e).2)⟩
theorem RStP.kids {w0 : World} {xs : List UInt8} {nb : Nat} {w : World} {kv vv dv : Value} {n : Nd} {r : Rr} (h : RStP w0 xs nb w kv vv dv n r) {x : Int} {w' : World} {v' : Value} {g' m' c' : Nat} (hv : v' = .slice (some ⟨g', 0, none⟩) m' c') (o : OwnJ (nb + 1) w' v' (n.kids ++ [x])) (k : w.grownBy w' dv.ownBlock) (hg : dv.ownBlock = some g' ∨ g' = w.heap.size) :
  RStP w0 xs nb (w'.setCell ⟨nb, 3, none⟩ v') kv vv v' ⟨n.leaf, n.keys, n.vals, n.kids ++ [x]⟩ r := by
 have hn := h.hnb
 have fr := row_from h.own.kids
 have nbl := lt_of_block h.box
 have rsl := lt_of_block h.res
 subst hv
 exact ⟨rdrp_set (rdrp_kept h.rdr k fun b e => by have := (fr b e).1; omega) (by omega) 3 _,
  (Below.heap_setCell _ _ _ _ (by show w0.heap.size ≠ nb; omega)).trans ((k.block _ rsl (fun e => by have := (fr _ e.symm).1; omega)).trans h.res),
  (heap_set4i ((k.block _ nbl (fun e => by have := (fr _ e.symm).1; omega)).trans h.box) _).2.2,
  ⟨rows_set (row_kept k h.own.keys (fun k e e' => h.d2 k e' e)) (show nb < nb + 1 by omega) 3 _, rows_set (row_kept k h.own.vals (fun k e e' => h.d3 k e' e)) (show nb < nb + 1 by omega) 3 _, rows_set o (show nb < nb + 1 by omega) 3 _⟩, hn, h.d1, (fun k e e' => blk_ne hg (fun k e e' => h.d2 k e' e) (fun k e => (row_from h.own.keys k e).2) k e' e), (fun k e e' => blk_ne hg (fun k e e' => h.d3 k e' e) (fun k e => (row_from h.own.vals k e).2) k e' e)⟩
end Go.Proofs.YtpiikmkajckccaaGreat

namespace Go.Proofs.YtpiikmkajckccaaGreat
open Go.RowKit Go.Maps
def rdH (v : Value) : Option (DataW Value × List MemPlace) := some (.held v, [])
def MapI (w : World) (b n : Nat) (m : Int → Option Value) : Prop :=
 ∃ D : DataW Value, w.ownsMap Tryz.prog 3 rdH b n D ∧ ∀ i, (Lit.int .i64 i).wf = true → Maps.has D (.int .i64 i) = (m i).isSome ∧ ∀ z, D.atKey (.int .i64 i) z = (match m i with | some v => .held v | none => z)
theorem keyI : Keyed Tryz.prog 3 := int_keyed Tryz.underlying3
theorem keyOfI {i : Int} (h : (Lit.int .i64 i).wf = true) : keyOf Tryz.prog 3 (.int .i64 i) = some (.int .i64 i) := keyOf_int_mk Tryz.underlying3 h
theorem MapI.made (w : World) : MapI (w.alloc (.map #[] 0)) w.heap.size 0 fun _ => none :=
 ⟨.map [], World.ownsMap_made _ _ _ _, fun i _ => ⟨rfl, fun z => rfl⟩⟩
theorem MapI.kept {w w' : World} {b n : Nat} {m : Int → Option Value} (h : MapI w b n m) (e : w'.heap[b]? = w.heap[b]?) : MapI w' b n m := by
 obtain ⟨D, ⟨es, c, hb, r⟩, r2⟩ := h
 exact ⟨D, ⟨es, c, e.trans hb, r⟩, r2⟩
theorem MapI.lt {w : World} {b n : Nat} {m : Int → Option Value} (h : MapI w b n m) : b < w.heap.size := by
 obtain ⟨D, h, _⟩ := h
 exact h.lt
theorem MapI.ne {w : World} {b n : Nat} {m : Int → Option Value} (h : MapI w b n m) {g : Nat} {cs : Array Value} {t : TypeId} {fr : Nat × Nat} (hg : w.heap[g]? = some (.cells cs t fr)) : b ≠ g := by
 obtain ⟨D, ⟨es, c, hb, r⟩, _⟩ := h
 intro e
 rw [e, hg] at hb
 cases hb
theorem MapI.mono {w : World} {b n n' : Nat} {m : Int → Option Value} (h : MapI w b n m) (hn : n ≤ n') : MapI w b n' m := by
 obtain ⟨D, h, r⟩ := h
 exact ⟨D, h.mono hn, r⟩
theorem MapI.look {w : World} {b n : Nat} {m : Int → Option Value} (h : MapI w b n m) {t e : TypeId} (ht : Tryz.prog.underlying t = some (.map 3 e)) {z : Value} (hz : (zeroValue e).run Tryz.prog w = .ok z w) {i : Int} (hi : (Lit.int .i64 i).wf = true) (c : Bool) :
  (Instr.lookup t (.map (some b)) (.int .i64 i) c).run Tryz.prog w = .ok (if c then .tuple #[(m i).getD z, .bool (m i).isSome] else (m i).getD z) w := by
 obtain ⟨D, h, r⟩ := h
 obtain ⟨es, clock, hb, F, _, rfl⟩ := h
 obtain ⟨r1, r2⟩ := r i hi
 rcases Maps.fit_look c keyI ht hz hb F (keyOfI hi) with ⟨hrun, _, hat⟩ | ⟨e0, y, _, _, hrun, hRv, hat, _⟩
 ·have hs : (m i).isSome = false := by
   cases hm : m i with
   | none => rfl
   | some v =>
    have h1 := r2 .nil
    rw [hm, hat] at h1
    cases h1
  have hm : m i = none := by simpa using hs
  rw [hrun, hm]; rfl
 ·have h1 := r2 .nil
  rw [hat] at h1
  have hy : y = (.held e0.val, []) := by
   have : some (DataW.held e0.val, []) = some y := hRv
   simpa using this.symm
  rw [hy] at h1
  cases hm : m i with
  | none => rw [hm] at h1; cases h1
  | some v =>
   rw [hm] at h1
   simp only [DataW.held.injEq] at h1
   subst h1
   rw [hrun]; rfl
theorem MapI.store {w : World} {b n : Nat} {m : Int → Option Value} (h : MapI w b n m) {t e : TypeId} (ht : Tryz.prog.underlying t = some (.map 3 e)) (hn : n < maxLen) {i : Int} (hi : (Lit.int .i64 i).wf = true) (v : Value) :
  ∃ w', (Instr.mapUpdate t (.map (some b)) (.int .i64 i) v).run Tryz.prog w = .ok () w' ∧ MapI w' b (n + 1) (fun j => if j = i then some v else m j) ∧ w.grownBy w' (some b) := by
 obtain ⟨D, h, r⟩ := h
 have hm := h.isMap
 have hkl := keyI.key (keyOfI hi)
 obtain ⟨w', h1, h2, h3⟩ := h.update keyI ht hn (keyOfI hi) (show rdH v = some (.held v, []) from rfl)
 refine ⟨w', h1, ⟨_, h2, fun j hj => ?_⟩, h3⟩
 dsimp only
 by_cases e : j = i
 ·subst e
  rw [if_pos rfl]
  exact ⟨has_put_same hm hkl _, fun z => atKey_put_same hm hkl _ _⟩
 ·rw [if_neg e]
  have hne : (Lit.int .i64 j) ≠ .int .i64 i := fun h => e (by simpa using h)
  exact ⟨(has_put_other hne _).trans (r j hj).1, fun z => (atKey_put_other hne _ _).trans ((r j hj).2 z)⟩
end Go.Proofs.YtpiikmkajckccaaGreat

namespace Go.Proofs.YtpiikmkajckccaaGreat
open Go.RowKit
structure RdrAt (w0 : World) (g : Nat) (w : World) (a : Option Addr) (c : Nat) (r : Rr) : Prop where
 box : w.heap[g]? = some (.cells #[.slice a r.rest.length c, .bool r.short] 209 (0, 0))
 rd : Rd w0 (.slice a r.rest.length c) r.rest
 bel : Below w0.heap.size w0 w
 hg : w0.heap.size ≤ g
theorem RdrAt.kp {w0 : World} {g : Nat} {w : World} {a : Option Addr} {c : Nat} {r : Rr} (h : RdrAt w0 g w a c r) {U : World} (k : Below w.heap.size w U) : RdrAt w0 g U a c r :=
 ⟨(k.block _ (lt_of_block h.box)).trans h.box, h.rd, h.bel.trans (k.mono h.bel.size), h.hg⟩
def RdrX (w0 : World) (g : Nat) (w : World) (r : Rr) : Prop := ∃ a c, RdrAt w0 g w a c r
theorem RdrX.to {w0 : World} {g : Nat} {w : World} {r : Rr} (h : RdrX w0 g w r) {U : World} (k : Below w.heap.size w U) : RdrX w0 g U r := by
 obtain ⟨a, c, h⟩ := h
 exact ⟨a, c, h.kp k⟩
theorem RdrX.bel {w0 : World} {g : Nat} {w : World} {r : Rr} (h : RdrX w0 g w r) : Below w0.heap.size w0 w := by obtain ⟨_, _, h⟩ := h; exact h.bel
theorem RdrX.lt {w0 : World} {g : Nat} {w : World} {r : Rr} (h : RdrX w0 g w r) : g < w.heap.size := by obtain ⟨_, _, h⟩ := h; exact lt_of_block h.box
set_option maxRecDepth 100000 in
set_option maxHeartbeats 1000000 in
theorem ptake_any (w0 : World) (g : Nat) (w : World) (r : Rr) (s : Nat) (h : RdrX w0 g w r) (hs : s ≤ 1000000000000) :
  Calls Tryz.prog 144 #[.pointer (some ⟨g, 0, none⟩), .int .i64 (s : Int)] w fun e w' => ∃ a1 c1, e = .returned (.slice a1 (rtk s r).length c1) ∧ Rd w0 (.slice a1 (rtk s r).length c1) (rtk s r) ∧ RdrX w0 g w' (rst s r) ∧ KpG g w w' := by
 obtain ⟨a, c, h⟩ := h
 obtain ⟨⟨A0, A1⟩, af⟩ := cells2r h.box
 have f0 := af 0
 have f1 := af 1
 have lb : r.rest.length ≤ 9223372036854775807 := by obtain ⟨_, _, e, _, m1, _⟩ := h.rd; simp only [Value.slice.injEq] at e; unfold maxLen at m1; omega
 have hcap : r.rest.length ≤ c := by obtain ⟨_, _, e, l1, _⟩ := h.rd; simp only [Value.slice.injEq] at e; omega
 have HH := hide h
 obtain ⟨L, hL⟩ : ∃ L, L = r.rest.length := ⟨_, rfl⟩
 rw [← hL] at A0 lb hcap
 replace hL := hide hL
 clear af h
 by_cases hlt : L < s
 ·have hq : (L : Int) < (s : Int) := by omega
  have e1 : Hid (rtk s r = []) := by show _ = _; unfold rtk; rw [← hL.out, if_pos hlt]
  have e2 : Hid (rst s r = ⟨r.rest, true⟩) := by show _ = _; unfold rst; rw [← hL.out, if_pos hlt]
  go_enter Tryz.func144, Tryz.ntmps144
  go_wp2
  go_ret
  refine ⟨none, 0, by rw [e1.out]; rfl, by rw [e1.out]; exact rd_nil0 _, ?_, (KpG.refl g w).set 1 _⟩
  rw [e2.out]
  exact ⟨a, c, (heap_set2r HH.out.box _).2, HH.out.rd, HH.out.bel.setCell (p := ⟨g, 1, none⟩) HH.out.hg _, HH.out.hg⟩
 ·have hq : ¬ (L : Int) < (s : Int) := by omega
  have hq2 : (s : Int) ≤ (L : Int) := by omega
  have hq3 : (s : Int) ≤ (c : Int) := by omega
  have e1 : Hid (rtk s r = r.rest.take s) := by show _ = _; unfold rtk; rw [← hL.out, if_neg hlt]
  have e2 : Hid (rst s r = ⟨r.rest.drop s, r.short⟩) := by show _ = _; unfold rst; rw [← hL.out, if_neg hlt]
  have R0 := HH.out.rd
  rw [← hL.out] at R0
  obtain ⟨A, hA, R1⟩ := rd_cut R0 (q := s) (to := L) (by omega) (Nat.le_refl _)
  have R2 := hide (rd_take9 R0 (n := s) (by omega))
  rw [List.take_of_length_le (by rw [hL.out]; omega)] at R1
  replace R1 := hide R1
  clear R0
  go_enter Tryz.func144, Tryz.ntmps144
  go_wp2
  go_ret
  have l1 : (r.rest.take s).length = s := by rw [List.length_take, ← hL.out]; omega
  have l2 : (r.rest.drop s).length = L - s := by rw [List.length_drop, ← hL.out]
  refine ⟨a, c, by rw [e1.out, l1]; rfl, by rw [e1.out, l1]; exact R2.out, ?_, (KpG.refl g w).set 0 _⟩
  rw [e2.out]
  refine ⟨A, c - s, ?_, ?_, HH.out.bel.setCell (p := ⟨g, 0, none⟩) HH.out.hg _, HH.out.hg⟩
  ·show _ = some (Obj.cells #[.slice A (r.rest.drop s).length (c - s), .bool r.short] _ _)
   rw [l2]; exact (heap_set2r HH.out.box _).1
  ·show Rd w0 (.slice A (r.rest.drop s).length (c - s)) (r.rest.drop s)
   rw [l2]; exact R1.out
set_option maxRecDepth 100000 in
set_option maxHeartbeats 1000000 in
theorem pnumber_any (w0 : World) (g : Nat) (w : World) (r : Rr) (s : Nat) (h : RdrX w0 g w r) (h1 : 1 ≤ s) (hs : s ≤ 7) :
  Calls Tryz.prog 136 #[.pointer (some ⟨g, 0, none⟩), .int .i64 (s : Int)] w fun e w' => e = .returned (.int .i64 (rnum s r : Nat)) ∧ RdrX w0 g w' (rst s r) ∧ KpG g w w' := by
 have KT := hide (ptake_any w0 g w r s h (by omega))
 have hn := rnum_lt s r
 have hn2 : 2 ^ (8 * s) ≤ 2 ^ 56 := Nat.pow_le_pow_right (by decide) (by omega)
 have hn3 : rnum s r < 9223372036854775808 := by
  have e56 : (2 : Nat) ^ 56 = 72057594037927936 := by decide
  omega
 clear hn hn2 h
 go_enter Tryz.func136, Tryz.ntmps136
 go_wp2_with fail
 refine KT.out.mono ?_
 rintro e w1 ⟨a1, c1, rfl, d1, r1, k1⟩
 clear KT
 have D1 := d1.to r1.bel
 have KG : Hid (Calls Tryz.prog 143 #[.slice a1 (rtk s r).length c1] w1 fun e w' => ∃ z : Int, e = .returned (.tuple #[.int .u64 (rnum s r : Nat), .int .i64 z]) ∧ Below w1.heap.size w1 w') := by
  have le := rtk_le s r
  by_cases h0 : (rtk s r).length < 1
  ·refine (get_no w1 _ _ D1 (.inl h0)).mono ?_
   rintro e w' ⟨rfl, b⟩
   refine ⟨3, ?_, b⟩
   have : rnum s r = 0 := by
    unfold rnum
    rw [List.eq_nil_of_length_eq_zero (l := rtk s r) (by omega)]
    rfl
   rw [this]; rfl
  ·refine (get_yes w1 _ _ D1 (by omega) (by omega)).mono ?_
   rintro e w' ⟨rfl, b⟩
   exact ⟨0, rfl, b⟩
 generalize (rtk s r).length = TL at *
 generalize hV : rnum s r = V at *
 replace hV := hide hV
 have hv : IntKind.i64.wrap (V : Int) = (V : Int) := IntWalk.i64_in _ (by omega)
 have R1 := hide (And.intro r1 k1)
 clear d1 D1 r1 k1
 go_wp2_with fail
 refine KG.out.mono ?_
 rintro e w2 ⟨z, rfl, b2⟩
 clear KG
 replace b2 := hide b2
 go_wp2
 go_ret
 exact ⟨ret_int (by rw [hV.out]), R1.out.1.to b2.out, R1.out.2.trans (KpG.of b2.out)⟩
set_option maxRecDepth 100000 in
set_option maxHeartbeats 1000000 in
theorem ptxt_any (w0 : World) (g : Nat) (w : World) (r : Rr) (h : RdrX w0 g w r) :
  Calls Tryz.prog 137 #[.pointer (some ⟨g, 0, none⟩)] w fun e w' => e = .returned (st (rtx r)) ∧ RdrX w0 g w' (rts r) ∧ KpG g w w' := by
 have KN := hide (pnumber_any w0 g w r 1 h (by decide) (by decide))
 have hn := rnum_lt 1 r
 have e1 : Hid (rtx r = rtk (rnum 1 r) (rst 1 r)) := rfl
 have e2 : Hid (rts r = rst (rnum 1 r) (rst 1 r)) := rfl
 clear h
 go_enter Tryz.func137, Tryz.ntmps137
 go_wp2_with fail
 refine KN.out.mono ?_
 rintro e w1 ⟨rfl, r1, k1⟩
 clear KN
 have KT := hide (ptake_any w0 g w1 (rst 1 r) (rnum 1 r) r1 (by omega))
 rw [← e1.out, ← e2.out] at KT
 generalize rnum 1 r = V at *
 have K1 := hide k1
 clear r1 k1
 go_wp2_with fail
 refine KT.out.mono ?_
 rintro e w2 ⟨a2, c2, rfl, d2, r2, k2⟩
 clear KT
 have hcv := conv_any (d2.to r2.bel)
 have R2 := hide (And.intro r2 (K1.out.trans k2))
 clear d2 r2 k2
 generalize hX : rtx r = X at *
 replace hX := hide hX
 go_wp2
 go_ret
 exact ⟨by rw [hX.out]; rfl, R2.out.1, R2.out.2⟩
end Go.Proofs.YtpiikmkajckccaaGreat

namespace Go.Proofs.YtpiikmkajckccaaGreat
open Go.RowKit
def jumpN (J : Nat → Act → World → Prop) (Q : Exit → Act → World → Prop) : Exit → Act → World → Prop
 | .goto l, a, w => J l a w
 | e, a, w => Q e a w
theorem wp_scope_labels {P : Program} {a : Act} {w : World} {Q : Exit → Act → World → Prop} {c : Code} (J : Nat → Act → World → Prop) (μ : Nat → Act → World → Nat) (hf : ∀ l a w, J l a w → (findLabel c l).isSome = true)
  (first : c.wp P (jumpN J Q) a w)
  (pass : ∀ l a w, J l a w → ((findLabel c l).getD .skip).wp P (jumpN (fun l' a' w' => J l' a' w' ∧ μ l' a' w' < μ l a w) Q) a w) : (Code.scope c).wp P Q a w := by
 intro b k cs
 have hg : ∀ l a w, J l a w → gotoIn l (.inScope c :: k) = some (.code ((findLabel c l).getD .skip) :: .inScope c :: k) := fun l a w h => by
  have := hf l a w h
  cases hq : findLabel c l with
  | none => rw [hq] at this; cases this
  | some R => simp [gotoIn, hq]
 have key : ∀ n l a w, μ l a w = n → J l a w → ∃ e a' w', Q e a' w' ∧ Arrives P (lone (b.at a (.code ((findLabel c l).getD .skip) :: .inScope c :: k)) cs w) b k cs e a' w' := by
  intro n
  induction n using Nat.strongRecOn with
  | _ n ih =>
   intro l a w hn hJ
   obtain ⟨e, a₁, w₁, hq, harr⟩ := pass l a w hJ b (.inScope c :: k) cs
   cases e with
   | normal => exact ⟨.normal, a₁, w₁, hq, Steps.trans harr (.one step_inScope)⟩
   | exit id => exact ⟨.exit id, a₁, w₁, hq, fun k' hk => harr k' (by simp [exitTo, hk])⟩
   | goto l' =>
    obtain ⟨hJ', hlt⟩ := hq
    obtain ⟨e₂, a₂, w₂, hq₂, harr₂⟩ := ih _ (by omega) l' a₁ w₁ rfl hJ'
    exact ⟨e₂, a₂, w₂, hq₂, .of_steps (harr _ (hg l' a₁ w₁ hJ')) harr₂⟩
   | ret => exact ⟨_, a₁, w₁, hq, harr⟩
   | panic ch => exact ⟨_, a₁, w₁, hq, harr⟩
   | outgrown => exact ⟨_, a₁, w₁, hq, harr⟩
 obtain ⟨e, a₁, w₁, hq, harr⟩ := first b (.inScope c :: k) cs
 cases e with
 | normal => exact ⟨.normal, a₁, w₁, hq, .head step_scope (Steps.trans harr (.one step_inScope))⟩
 | exit id => exact ⟨.exit id, a₁, w₁, hq, fun k' hk => .head step_scope (harr k' (by simp [exitTo, hk]))⟩
 | goto l' =>
  have hJ' : J l' a₁ w₁ := hq
  obtain ⟨e₂, a₂, w₂, hq₂, harr₂⟩ := key _ l' a₁ w₁ rfl hJ'
  exact ⟨e₂, a₂, w₂, hq₂, .of_steps (.head step_scope (harr _ (hg l' a₁ w₁ hJ'))) harr₂⟩
 | ret => exact ⟨_, a₁, w₁, hq, .of_steps (.one step_scope) harr⟩
 | panic ch => exact ⟨_, a₁, w₁, hq, .of_steps (.one step_scope) harr⟩
 | outgrown => exact ⟨_, a₁, w₁, hq, .of_steps (.one step_scope) harr⟩
structure RSt (w0 : World) (nb : Nat) (w : World) (kv vv dv : Value) (n : Nd) (r : Rr) : Prop where
 rdr : RdrX w0 (w0.heap.size + 1) w r
 res : w.heap[w0.heap.size]? = some (.cells #[.bool false, nil9, nil9, nil9] 98 (0, 0))
 box : w.heap[nb]? = some (.cells #[.bool n.leaf, kv, vv, dv] 98 (0, 0))
 own : OwnN (nb + 1) w kv vv dv n
 hnb : w0.heap.size + 1 < nb
 d1 : ∀ k, kv.ownBlock = some k → vv.ownBlock ≠ some k
 d2 : ∀ k, kv.ownBlock = some k → dv.ownBlock ≠ some k
 d3 : ∀ k, vv.ownBlock = some k → dv.ownBlock ≠ some k
def Dj (kv vv dv : Value) : Prop := (∀ k, kv.ownBlock = some k → vv.ownBlock ≠ some k) ∧ (∀ k, kv.ownBlock = some k → dv.ownBlock ≠ some k) ∧ ∀ k, vv.ownBlock = some k → dv.ownBlock ≠ some k
theorem Dj.nil : Dj nil9 nil9 nil9 := ⟨(fun k h => by cases h), (fun k h => by cases h), (fun k h => by cases h)⟩
theorem RSt.below {w0 : World} {nb : Nat} {w : World} {kv vv dv : Value} {n : Nd} {r : Rr} (h : RSt w0 nb w kv vv dv n r) {U : World} (b : Below w.heap.size w U) : RSt w0 nb U kv vv dv n r :=
 ⟨h.rdr.to b, (b.block _ (lt_of_block h.res)).trans h.res, (b.block _ (lt_of_block h.box)).trans h.box, h.own.to b, h.hnb, h.d1, h.d2, h.d3⟩
theorem RSt.call {w0 : World} {nb : Nat} {w : World} {kv vv dv : Value} {n : Nd} {r r' : Rr} (h : RSt w0 nb w kv vv dv n r) {U : World} (k : KpG (w0.heap.size + 1) w U) (hr : RdrX w0 (w0.heap.size + 1) U r') : RSt w0 nb U kv vv dv n r' :=
 ⟨hr, (k.1 _ (lt_of_block h.res) (by omega)).trans h.res, (k.1 _ (lt_of_block h.box) (by have := h.hnb; omega)).trans h.box, ⟨k.row h.own.keys (by have := h.hnb; omega), k.row h.own.vals (by have := h.hnb; omega), k.row h.own.kids (by have := h.hnb; omega)⟩, h.hnb, h.d1, h.d2, h.d3⟩
theorem rdr_kept {w0 : World} {g : Nat} {w w' : World} {r : Rr} {own : Option Nat} (h : RdrX w0 g w r) (k : w.grownBy w' own) (hg : ∀ b, own = some b → g < b) : RdrX w0 g w' r := by
 obtain ⟨a, c, h⟩ := h
 have hl := lt_of_block h.box
 have hs := h.bel.size
 exact ⟨a, c, (k.block g hl (fun e => by have := hg g e.symm; omega)).trans h.box, h.rd, h.bel.grown k hs (fun b e => by have := hg b e; have := h.hg; omega), h.hg⟩
theorem rdr_set {w0 : World} {g : Nat} {w : World} {r : Rr} (h : RdrX w0 g w r) {nb : Nat} (hn : g < nb) (i : Nat) (v : Value) : RdrX w0 g (w.setCell ⟨nb, i, none⟩ v) r := by
 obtain ⟨a, c, h⟩ := h
 exact ⟨a, c, (Below.heap_setCell _ _ _ _ (by show g ≠ nb; omega)).trans h.box, h.rd, h.bel.setCell (p := ⟨nb, i, none⟩) (by have := h.hg; show w0.heap.size ≤ nb; omega) v, h.hg⟩
theorem RSt.keys {w0 : World} {nb : Nat} {w : World} {kv vv dv : Value} {n : Nd} {r : Rr} (h : RSt w0 nb w kv vv dv n r) {x : Str} {w' : World} {v' : Value} {g' m' c' : Nat} (hv : v' = .slice (some ⟨g', 0, none⟩) m' c') (o : OwnT (nb + 1) w' v' (n.keys ++ [x])) (k : w.grownBy w' kv.ownBlock) (hg : kv.ownBlock = some g' ∨ g' = w.heap.size) :
  RSt w0 nb (w'.setCell ⟨nb, 1, none⟩ v') v' vv dv ⟨n.leaf, n.keys ++ [x], n.vals, n.kids⟩ r := by
 have hn := h.hnb
 have fr := row_from h.own.keys
 have nbl := lt_of_block h.box
 have rsl := lt_of_block h.res
 subst hv
 exact ⟨rdr_set (rdr_kept h.rdr k fun b e => by have := (fr b e).1; omega) (by omega) 1 _,
  (Below.heap_setCell _ _ _ _ (by show w0.heap.size ≠ nb; omega)).trans ((k.block _ rsl (fun e => by have := (fr _ e.symm).1; omega)).trans h.res),
  (heap_set4i ((k.block _ nbl (fun e => by have := (fr _ e.symm).1; omega)).trans h.box) _).1,
  ⟨rows_set o (show nb < nb + 1 by omega) 1 _, rows_set (row_kept k h.own.vals h.d1) (show nb < nb + 1 by omega) 1 _, rows_set (row_kept k h.own.kids h.d2) (show nb < nb + 1 by omega) 1 _⟩, hn, blk_ne hg h.d1 (fun k e => (row_from h.own.vals k e).2), blk_ne hg h.d2 (fun k e => (row_from h.own.kids k e).2), h.d3⟩
theorem RSt.vals {w0 : World} {nb : Nat} {w : World} {kv vv dv : Value} {n : Nd} {r : Rr} (h : RSt w0 nb w kv vv dv n r) {x : Str} {w' : World} {v' : Value} {g' m' c' : Nat} (hv : v' = .slice (some ⟨g', 0, none⟩) m' c') (o : OwnT (nb + 1) w' v' (n.vals ++ [x])) (k : w.grownBy w' vv.ownBlock) (hg : vv.ownBlock = some g' ∨ g' = w.heap.size) :
  RSt w0 nb (w'.setCell ⟨nb, 2, none⟩ v') kv v' dv ⟨n.leaf, n.keys, n.vals ++ [x], n.kids⟩ r := by
 have hn := h.hnb
 have fr := row_from h.own.vals
 have nbl := lt_of_block h.box
 have rsl := lt_of_block h.res
 subst hv
 exact ⟨rdr_set (rdr_kept h.rdr k fun b e => by have := (fr b e).1; omega) (by omega) 2 _,
  (Below.heap_setCell _ _ _ _ (by show w0.heap.size ≠ nb; omega)).trans ((k.block _ rsl (fun e => by have := (fr _ e.symm).1; omega)).trans h.res),
  (heap_set4i ((k.block _ nbl (fun e => by have := (fr _ e.symm).1; omega)).trans h.box) _).2.1,
  ⟨rows_set (row_kept k h.own.keys (fun k e e' => h.d1 k e' e)) (show nb < nb + 1 by omega) 2 _, rows_set o (show nb < nb + 1 by omega) 2 _, rows_set (row_kept k h.own.kids h.d3) (show nb < nb + 1 by omega) 2 _⟩, hn, (fun k e e' => blk_ne hg (fun k e e' => h.d1 k e' e) (fun k e => (row_from h.own.keys k e).2) k e' e), h.d2, blk_ne hg h.d3 (fun k e => (row_from h.own.kids k e).2)⟩
theorem RSt.kids {w0 : World} {nb : Nat} {w : World} {kv vv dv : Value} {n : Nd} {r : Rr} (h : RSt w0 nb w kv vv dv n r) {x : Int} {w' : World} {v' : Value} {g' m' c' : Nat} (hv : v' = .slice (some ⟨g', 0, none⟩) m' c') (o : OwnJ (nb + 1) w' v' (n.kids ++ [x])) (k : w.grownBy w' dv.ownBlock) (hg : dv.ownBlock = some g' ∨ g' = w.heap.size) :
  RSt w0 nb (w'.setCell ⟨nb, 3, none⟩ v') kv vv v' ⟨n.leaf, n.keys, n.vals, n.kids ++ [x]⟩ r := by
 have hn := h.hnb
 have fr := row_from h.own.kids
 have nbl := lt_of_block h.box
 have rsl := lt_of_block h.res
 subst hv
 exact ⟨rdr_set (rdr_kept h.rdr k fun b e => by have := (fr b e).1; omega) (by omega) 3 _,
  (Below.heap_setCell _ _ _ _ (by show w0.heap.size ≠ nb; omega)).trans ((k.block _ rsl (fun e => by have := (fr _ e.symm).1; omega)).trans h.res),
  (heap_set4i ((k.block _ nbl (fun e => by have := (fr _ e.symm).1; omega)).trans h.box) _).2.2,
  ⟨rows_set (row_kept k h.own.keys (fun k e e' => h.d2 k e' e)) (show nb < nb + 1 by omega) 3 _, rows_set (row_kept k h.own.vals (fun k e e' => h.d3 k e' e)) (show nb < nb + 1 by omega) 3 _, rows_set o (show nb < nb + 1 by omega) 3 _⟩, hn, h.d1, (fun k e e' => blk_ne hg (fun k e e' => h.d2 k e' e) (fun k e => (row_from h.own.keys k e).2) k e' e), (fun k e e' => blk_ne hg (fun k e e' => h.d3 k e' e) (fun k e => (row_from h.own.vals k e).2) k e' e)⟩
end Go.Proofs.YtpiikmkajckccaaGreat

namespace Go.Proofs.YtpiikmkajckccaaGreat
open Go.RowKit
def KeepT (e : Nat) (w w' : World) : Prop := ∀ (b : Nat) (cur : Array Value) (fr : Nat × Nat), w.heap[b]? = some (Obj.cells cur e fr) → w'.heap[b]? = some (Obj.cells cur e fr)
theorem KeepT.refl (e : Nat) (w : World) : KeepT e w w := fun _ _ _ h => h
theorem KeepT.trans {e : Nat} {a b c : World} (h : KeepT e a b) (k : KeepT e b c) : KeepT e a c := fun i cur fr x => k i cur fr (h i cur fr x)
theorem KeepT.below {e : Nat} {w w' : World} (h : Below w.heap.size w w') : KeepT e w w' := fun b cur fr x => (h.block b (lt_of_block x)).trans x
theorem KeepT.grown {e e' B s n : Nat} {w w' : World} {v : Value} {xs : List Value} (hr : w.ownsRow B e' s v n xs) (hg : w.grownBy w' v.ownBlock) (hne : e ≠ e') : KeepT e w w' := fun b cur fr x => by
 refine (hg.block b (lt_of_block x) fun h => ?_).trans x
 rcases hr.2 with ⟨rfl, _⟩ | ⟨g, cap, cur', rfl, _, hg', _⟩
 ·cases h
 ·simp only [Value.ownBlock, Option.some.injEq] at h
  subst h
  rw [x] at hg'
  simp only [Option.some.injEq, Obj.cells.injEq] at hg'
  exact hne hg'.2.1
theorem KeepT.set {e t : Nat} {w : World} {a : Addr} {cs : Array Value} {fr : Nat × Nat} (h : w.heap[a.block]? = some (.cells cs t fr)) (hne : e ≠ t) (u : Value) : KeepT e w (w.setCell a u) := fun b cur fr' x => by
 refine (Below.heap_setCell _ _ _ _ fun h' => ?_).trans x
 rw [h', h] at x
 simp only [Option.some.injEq, Obj.cells.injEq] at x
 exact hne x.2.1.symm
theorem rows_keepT {w w' : World} {B e s n : Nat} {v : Value} {xs : List Value} (h : w.ownsRow B e s v n xs) (k : KeepT e w w') : w'.ownsRow B e s v n xs := by
 refine ⟨h.1, ?_⟩
 rcases h.2 with hn | ⟨g, cap, cur, hv, hgb, hg, r⟩
 ·exact .inl hn
 ·exact .inr ⟨g, cap, cur, hv, hgb, k _ _ _ hg, r⟩
theorem cellN {w : World} {g : Nat} {cs : Array Value} {t : TypeId} (h : w.heap[g]? = some (.cells cs t (0, 0))) {i : Nat} {v : Value} (hv : cs[i]? = some v) : w.cell? ⟨g, i, none⟩ = some v := by
 rw [cell_of_row _ _ i _ _ (0, 0) h]; exact hv
theorem frozN {w : World} {g : Nat} {cs : Array Value} {t : TypeId} (h : w.heap[g]? = some (.cells cs t (0, 0))) (i : Nat) : w.frozen? ⟨g, i, none⟩ = false := by simp [World.frozen?, h]
theorem heap_setN {u : World} {g : Nat} {cs : Array Value} {t : TypeId} {fr : Nat × Nat} (h : u.heap[g]? = some (.cells cs t fr)) (i : Nat) (x : Value) : (u.setCell ⟨g, i, none⟩ x).heap[g]? = some (.cells (cs.setIfInBounds i x) t fr) := by
 simp [World.setCell, Array.getElem?_modify, h]
end Go.Proofs.YtpiikmkajckccaaGreat

namespace Go.Proofs.YtpiikmkajckccaaGreat
open Go.RowKit
def pcl (l : List Pr) : List Value := l.flatMap fun y => [st y.1, st y.2]
theorem pcl_app (l m : List Pr) : pcl (l ++ m) = pcl l ++ pcl m := by unfold pcl; rw [List.flatMap_append]
abbrev OwnP (B : Nat) (w : World) (v : Value) (l : List Pr) : Prop := w.ownsRow B 102 2 v l.length (pcl l)
theorem OwnP.own {B : Nat} {w : World} {v : Value} {l : List Pr} (h : OwnP B w v l) : Own (Shp.list 102 SPr) B w [v] l := by
 have each : ∀ l : List Pr, ownEach SPr w [] (pcl l) l := by
  intro l
  induction l with
  | nil => exact ⟨rfl, rfl⟩
  | cons x r ih => exact ⟨[], [], [st x.1, st x.2], pcl r, rfl, rfl, ⟨[st x.1], [st x.2], [], [], rfl, rfl, ⟨rfl, rfl⟩, ⟨rfl, rfl⟩⟩, ih⟩
 refine ⟨v.ownBlock.toList, ⟨v, _, [], rfl, ?_, each l, by simp⟩, ?_, fun b hb => (World.ownsRow.lt h b (by simpa using hb)).1⟩
 ·exact rows_base h fun _ _ => Nat.zero_le _
 ·cases v.ownBlock <;> simp
theorem OwnP.rd {B : Nat} {w : World} {v : Value} {l : List Pr} (h : OwnP B w v l) : RdP w v l := h.own.rdS
theorem infoP : (Tryz.prog.info? 102).map (fun i => (i.zero, i.size, i.bytes)) = some (some (.agg #[.string ⟨#[]⟩, .string ⟨#[]⟩]), 2, 32) := by kernel_rfl
theorem one_pcl (l : List Pr) : ∀ u ∈ pcl l, u.oneCell' = true := by
 intro u hu
 obtain ⟨y, _, hy⟩ := List.mem_flatMap.1 hu
 simp at hy
 rcases hy with rfl | rfl <;> rfl
theorem step_appP {ops : Array Oper} {o : Oper} {a : Act} {w : World} {K : Act → World → Prop} {Q : Exit → Act → World → Prop} {E : Prop} (hgd : o.guard = none) (s x : Operand)
  (ho : o.op = .call { callee := .builtin .append, args := #[s, x], argTypes := #[50, 50] }) (B : Nat) (v : Value) (xs : List Pr) (y : Pr) (g : Nat) (hs : a.eval s = v) (hx : a.eval x = .slice (some ⟨g, 0, none⟩) 1 1)
  (hown : OwnP B w v xs) (hc1 : w.cell? ⟨g, 0, none⟩ = some (st y.1)) (hc2 : w.cell? ⟨g, 1, none⟩ = some (st y.2)) (hlen : (xs.length + 1) * 32 ≤ 140737488355328) (hB : B ≤ w.heap.size)
  (h : ∀ v' w', OwnP B w' v' (xs ++ [y]) → Below B w w' → (∀ e, e ≠ 102 → KeepT e w w') → K (a.put o.dst v') w') : if Region.wanted o (yielded ops a.tmps) = true then Oper.wp Tryz.prog o a w K Q else E := by
 rw [if_pos (by simp [Region.wanted, hgd])]
 obtain ⟨i0, hi, hz0, hz1, hz2⟩ := info_parts infoP
 have n2 : ∀ j u, (pcl [y])[j]? = some u → w.cell? ((⟨g, 0, none⟩ : Addr).add j) = some u := by
  intro j u hj
  match j, hj with
  | 0, hj => simp [pcl] at hj; subst hj; simpa [Addr.add] using hc1
  | 1, hj => simp [pcl] at hj; subst hj; simpa [Addr.add] using hc2
  | j + 2, hj => simp [pcl] at hj
 refine wp_append_own _ s x 50 ho B 102 i0 (.agg #[.string ⟨#[]⟩, .string ⟨#[]⟩]) 2 32 Tryz.underlying50 hi hz0 hz1 hz2 rfl (by decide) v xs.length (pcl xs) hs hown ⟨g, 0, none⟩ 1 1 (pcl [y]) hx rfl n2 (one_pcl [y])
  (by rw [show maxLen = 9223372036854775807 from rfl]; omega) hlen hB ?_
 intro v' w' h1 h2 _
 refine h v' w' ?_ ((Below.refl _ _).grown h2 hB (fun k hk => (World.ownsRow.lt hown k hk).1)) (fun e he => KeepT.grown hown h2 he)
 show World.ownsRow _ _ _ _ _ _ _
 rw [pcl_app]
 simpa using h1
end Go.Proofs.YtpiikmkajckccaaGreat

namespace Go.Proofs.YtpiikmkajckccaaGreat
open Go.RowKit
def useen (n : Nat) (s : List Int) : List Bool := (List.range n).map fun (i : Nat) => decide ((i : Int) ∈ s)
theorem useen_len (n : Nat) (s : List Int) : (useen n s).length = n := by simp [useen]
theorem useen_at (n : Nat) (s : List Int) {i : Nat} (h : i < n) : (useen n s)[i]? = some (decide ((i : Int) ∈ s)) := by simp [useen, h]
theorem useen_set (n : Nat) (s : List Int) (i : Nat) : (useen n s).set i true = useen n ((i : Int) :: s) := by
 apply List.ext_getElem?
 intro j
 rw [List.getElem?_set]
 by_cases hj : j < n
 ·rw [useen_at n _ hj, useen_at n _ hj, useen_len]
  by_cases e : i = j
  ·subst e; simp [hj]
  ·rw [if_neg e]
   have : (j : Int) ≠ (i : Int) := by omega
   simp [this]
 ·have h1 : (useen n s)[j]? = none := List.getElem?_eq_none (by rw [useen_len]; omega)
  have h2 : (useen n ((i : Int) :: s))[j]? = none := List.getElem?_eq_none (by rw [useen_len]; omega)
  rw [h1, h2, useen_len]
  split
  ·rw [if_neg (by omega)]
  ·rfl
theorem useen_nil (n : Nat) : useen n [] = List.replicate n false := by
 apply List.ext_getElem?
 intro j
 by_cases hj : j < n
 ·rw [useen_at n _ hj]; simp [List.getElem?_replicate, hj]
 ·rw [List.getElem?_eq_none (by rw [useen_len]; omega), List.getElem?_eq_none (by simp; omega)]
def sdep (s : Sw) : Int := match s.dep with | none => 0 | some f => 16 - (f : Int)
abbrev SeenW (bs n : Nat) (s : List Int) (w : World) : Prop := w.ownsRow bs 4 1 (.slice (some ⟨bs, 0, none⟩) n n) n ((useen n s).map Value.bool)
abbrev wcl (t : Tr) (pv : Value) (bs n : Nat) (s : Sw) (bad : Bool) (prv : Value) : Array Value :=
 #[.int .i64 t.root, .int .i64 t.next, pv, .slice (some ⟨bs, 0, none⟩) n n, .bool bad, .int .i64 (sdep s), .bool s.dep.isSome, prv]
def SwOk (next : Int) (s : Sw) : Prop := s.seen.Nodup ∧ (∀ i ∈ s.seen, 1 ≤ i ∧ i < next) ∧ s.prs.length ≤ 300 * s.seen.length
theorem nodup_len : ∀ (n : Nat) (l : List Int), l.Nodup → (∀ i ∈ l, 1 ≤ i ∧ i < (n : Int) + 1) → l.length ≤ n
 | 0, l, _, h => by
  cases l with
  | nil => exact Nat.le_refl _
  | cons a r => have := h a (by simp); omega
 | n + 1, l, hn, h => by
  have h1 := nodup_len n (l.erase ((n : Int) + 1)) (hn.erase _) (fun i hi => by
   have h2 := h i (List.mem_of_mem_erase hi)
   have h3 : i ≠ (n : Int) + 1 := fun e => by
    subst e
    exact (List.Nodup.not_mem_erase hn) hi
   omega)
  have h4 := List.length_erase (a := (n : Int) + 1) (l := l)
  rw [h4] at h1
  split at h1 <;> omega
theorem SwOk.len {next : Int} {s : Sw} (h : SwOk next s) (hn : next ≤ 65536) : s.prs.length ≤ 300 * 65536 := by
 have h1 := nodup_len 65536 s.seen h.1 (fun i hi => by have := h.2.1 i hi; omega)
 have h2 := h.2.2
 omega
theorem SwOk.see {next : Int} {s : Sw} (h : SwOk next s) {i : Int} (hi : 1 ≤ i ∧ i < next) (hm : i ∉ s.seen) (d : Option Nat) {l : List Pr} (hl : l.length ≤ 300) : SwOk next ⟨i :: s.seen, d, s.prs ++ l⟩ := by
 refine ⟨List.nodup_cons.2 ⟨hm, h.1⟩, fun j hj => ?_, ?_⟩
 ·rcases List.mem_cons.1 hj with rfl | hj
  ·exact hi
  ·exact h.2.1 j hj
 ·have := h.2.2
  simp only [List.length_append, List.length_cons]
  omega
theorem npr_len {n : Nd} (h : NOk n) : (npr n).length ≤ 300 ∧ n.keys.length ≤ 300 := by
 have h1 := h.2.2.2.2
 have h2 := nsz_ge n n.keys.length
 unfold nsize at h1
 have h3 : (npr n).length ≤ n.keys.length := by unfold npr; rw [List.length_zip]; exact Nat.min_le_left _ _
 have h4 : 0 ≤ (if n.leaf = true then (0 : Int) else 4 * (n.kids.length : Int)) := by split <;> omega
 omega
def KeepW (w w' : World) : Prop := ∀ e, e ≠ 79 → e ≠ 4 → e ≠ 102 → KeepT e w w'
theorem KeepW.refl (w : World) : KeepW w w := fun e _ _ _ => KeepT.refl _ _
theorem KeepW.trans {a b c : World} (h : KeepW a b) (k : KeepW b c) : KeepW a c := fun e h1 h2 h3 => (h e h1 h2 h3).trans (k e h1 h2 h3)
theorem KeepW.below {w w' : World} (h : Below w.heap.size w w') : KeepW w w' := fun e _ _ _ => KeepT.below h
structure RWk (w0 w : World) (g bs n : Nat) (t : Tr) (pv prv : Value) (s : Sw) (bad : Bool) : Prop where
 box : w.heap[g]? = some (.cells (wcl t pv bs n s bad prv) 79 (0, 0))
 seen : SeenW bs n s.seen w
 prs : OwnP w0.heap.size w prv s.prs
 pg : RdC w0 pv t.pages
 ok : SwOk t.next s
 bel : Below w0.heap.size w0 w
 hg : w0.heap.size ≤ g
 hs : w0.heap.size ≤ bs
theorem RWk.to {w0 w w' : World} {g bs n : Nat} {t : Tr} {pv prv : Value} {s : Sw} {bad : Bool} (h : RWk w0 w g bs n t pv prv s bad) (hb : Below w.heap.size w w') : RWk w0 w' g bs n t pv prv s bad :=
 ⟨(hb.block _ (lt_of_block h.box)).trans h.box, rows_to h.seen hb, rows_to h.prs hb, h.pg, h.ok, h.bel.trans (hb.mono h.bel.size), h.hg, h.hs⟩
theorem RWk.rd {w0 w : World} {g bs n : Nat} {t : Tr} {pv prv : Value} {s : Sw} {bad : Bool} (h : RWk w0 w g bs n t pv prv s bad) : RdC w pv t.pages := h.pg.to0 h.bel
theorem KeepW.set {w : World} {g : Nat} {cs : Array Value} (h : w.heap[g]? = some (.cells cs 79 (0, 0))) (i : Nat) (x : Value) : KeepW w (w.setCell ⟨g, i, none⟩ x) := fun e h1 _ _ => KeepT.set (a := ⟨g, i, none⟩) h h1 x
theorem RWk.put {w0 w : World} {g bs n : Nat} {t : Tr} {pv prv : Value} {s : Sw} {bad : Bool} (h : RWk w0 w g bs n t pv prv s bad) (i : Nat) (x : Value) {s' : Sw} {bad' : Bool} {prv' : Value} (hc : (wcl t pv bs n s bad prv).setIfInBounds i x = wcl t pv bs n s' bad' prv')
  (h1 : s'.seen = s.seen) (h2 : OwnP w0.heap.size w prv' s'.prs) (h3 : SwOk t.next s') : RWk w0 (w.setCell ⟨g, i, none⟩ x) g bs n t pv prv' s' bad' ∧ KeepW w (w.setCell ⟨g, i, none⟩ x) := by
 have hk : ∀ e, e ≠ 79 → KeepT e w (w.setCell ⟨g, i, none⟩ x) := fun e he => KeepT.set (a := ⟨g, i, none⟩) h.box he x
 refine ⟨⟨?_, ?_, rows_keepT h2 (hk _ (by decide)), h.pg, h3, h.bel.setCell h.hg _, h.hg, h.hs⟩, KeepW.set h.box i x⟩
 ·rw [← hc]; exact heap_setN h.box i x
 ·rw [h1]; exact rows_keepT h.seen (hk _ (by decide))
theorem RWk.bad {w0 w : World} {g bs n : Nat} {t : Tr} {pv prv : Value} {s : Sw} {bad : Bool} (h : RWk w0 w g bs n t pv prv s bad) : RWk w0 (w.setCell ⟨g, 4, none⟩ (.bool true)) g bs n t pv prv s true ∧ KeepW w (w.setCell ⟨g, 4, none⟩ (.bool true)) :=
 h.put 4 _ (by simp [wcl]) rfl h.prs h.ok
theorem RWk.cell {w0 w : World} {g bs n : Nat} {t : Tr} {pv prv : Value} {s : Sw} {bad : Bool} (h : RWk w0 w g bs n t pv prv s bad) :
  (w.cell? ⟨g, 0, none⟩ = some (.int .i64 t.root) ∧ w.cell? ⟨g, 1, none⟩ = some (.int .i64 t.next) ∧ w.cell? ⟨g, 2, none⟩ = some pv ∧ w.cell? ⟨g, 3, none⟩ = some (.slice (some ⟨bs, 0, none⟩) n n)) ∧
  (w.cell? ⟨g, 4, none⟩ = some (.bool bad) ∧ w.cell? ⟨g, 5, none⟩ = some (.int .i64 (sdep s)) ∧ w.cell? ⟨g, 6, none⟩ = some (.bool s.dep.isSome) ∧ w.cell? ⟨g, 7, none⟩ = some prv) ∧ ∀ i, w.frozen? ⟨g, i, none⟩ = false :=
 ⟨⟨cellN h.box rfl, cellN h.box rfl, cellN h.box rfl, cellN h.box rfl⟩, ⟨cellN h.box rfl, cellN h.box rfl, cellN h.box rfl, cellN h.box rfl⟩, frozN h.box⟩
theorem RWk.deep {w0 w : World} {g bs n : Nat} {t : Tr} {pv prv : Value} {s : Sw} {bad : Bool} (h : RWk w0 w g bs n t pv prv s bad) (f : Nat) :
  RWk w0 ((w.setCell ⟨g, 6, none⟩ (.bool true)).setCell ⟨g, 5, none⟩ (.int .i64 (16 - (f : Int)))) g bs n t pv prv ⟨s.seen, some f, s.prs⟩ bad ∧ KeepW w ((w.setCell ⟨g, 6, none⟩ (.bool true)).setCell ⟨g, 5, none⟩ (.int .i64 (16 - (f : Int)))) := by
 obtain ⟨a1, k1⟩ := h.put 6 (.bool true) (s' := ⟨s.seen, some (s.dep.getD 16), s.prs⟩) (bad' := bad) (prv' := prv) (by cases hd : s.dep <;> simp [wcl, sdep, hd]) rfl h.prs h.ok
 obtain ⟨a2, k2⟩ := a1.put 5 (.int .i64 (16 - (f : Int))) (s' := ⟨s.seen, some f, s.prs⟩) (bad' := bad) (prv' := prv) (by simp [wcl, sdep]) rfl a1.prs h.ok
 exact ⟨a2, k1.trans k2⟩
theorem RWk.app {w0 w wA w5 : World} {g bs n : Nat} {t : Tr} {pv prv v5 : Value} {s : Sw} {bad : Bool} (h : RWk w0 w g bs n t pv prv s bad) {l : List Pr} (bA : Below w.heap.size w wA) (o : OwnP w0.heap.size w5 v5 l) (b5 : Below w0.heap.size wA w5)
  (k5 : ∀ e, e ≠ 102 → KeepT e wA w5) (ok : SwOk t.next ⟨s.seen, s.dep, l⟩) : RWk w0 (w5.setCell ⟨g, 7, none⟩ v5) g bs n t pv v5 ⟨s.seen, s.dep, l⟩ bad ∧ KeepW w (w5.setCell ⟨g, 7, none⟩ v5) := by
 have hA := h.to bA
 have hbox := k5 _ (by decide) _ _ _ hA.box
 have hk : ∀ e, e ≠ 79 → KeepT e w5 (w5.setCell ⟨g, 7, none⟩ v5) := fun e he => KeepT.set (a := ⟨g, 7, none⟩) hbox he v5
 refine ⟨⟨?_, rows_keepT (rows_keepT hA.seen (k5 _ (by decide))) (hk _ (by decide)), rows_keepT o (hk _ (by decide)), h.pg, ok, (hA.bel.trans b5).setCell h.hg _, h.hg, h.hs⟩, ?_⟩
 ·have := heap_setN hbox 7 v5
  simpa [wcl, sdep] using this
 ·exact (KeepW.below bA).trans fun e h1 h2 h3 => (k5 e h3).trans (hk e h1)
theorem RWk.see {w0 w : World} {g bs n : Nat} {t : Tr} {pv prv : Value} {s : Sw} {bad : Bool} (h : RWk w0 w g bs n t pv prv s bad) {i : Nat} (hi : 1 ≤ (i : Int) ∧ (i : Int) < t.next) (hm : (i : Int) ∉ s.seen) :
  RWk w0 (w.setCell ⟨bs, i, none⟩ (.bool true)) g bs n t pv prv ⟨(i : Int) :: s.seen, s.dep, s.prs⟩ bad ∧ KeepW w (w.setCell ⟨bs, i, none⟩ (.bool true)) := by
 have hbs : ∃ cur, w.heap[bs]? = some (.cells cur 4 (0, 0)) := by
  rcases h.seen.2 with ⟨hn, _⟩ | ⟨g', cap, cur, hv, _, hg', _⟩
  ·cases hn
  ·simp only [Value.slice.injEq, Option.some.injEq, Addr.mk.injEq] at hv
   obtain ⟨⟨rfl, _⟩, _⟩ := hv
   exact ⟨cur, hg'⟩
 obtain ⟨cur, hcur⟩ := hbs
 have hk : ∀ e, e ≠ 4 → KeepT e w (w.setCell ⟨bs, i, none⟩ (.bool true)) := fun e he => KeepT.set (a := ⟨bs, i, none⟩) hcur he _
 refine ⟨⟨hk _ (by decide) _ _ _ h.box, ?_, rows_keepT h.prs (hk _ (by decide)), h.pg, by have := h.ok.see hi hm s.dep (l := []) (by simp); simpa using this, h.bel.setCell h.hs _, h.hg, h.hs⟩, fun e _ h2 _ => hk e h2⟩
 have := (World.ownsRow.stored h.seen i (.bool true)).1
 show World.ownsRow _ _ _ _ _ _ _
 rw [← useen_set, List.map_set]
 exact this
theorem RWk.seenAt {w0 w : World} {g bs n : Nat} {t : Tr} {pv prv : Value} {s : Sw} {bad : Bool} (h : RWk w0 w g bs n t pv prv s bad) {i : Nat} (hi : i < n) : w.cell? ⟨bs, i, none⟩ = some (.bool (decide ((i : Int) ∈ s.seen))) ∧ w.frozen? ⟨bs, i, none⟩ = false :=
 ⟨rows_at (rows_base h.seen fun _ _ => Nat.zero_le _) rfl (by rw [List.getElem?_map, useen_at n _ hi]; rfl), World.ownsRow.frozenAt h.seen i⟩
structure NdAt (w : World) (nb : Nat) (kv vv dv : Value) (nd : Nd) : Prop where
 box : w.heap[nb]? = some (.cells #[.bool nd.leaf, kv, vv, dv] 145 (0, 0))
 own : OwnN 0 w kv vv dv nd
theorem NdAt.keep {w w' : World} {nb : Nat} {kv vv dv : Value} {nd : Nd} (h : NdAt w nb kv vv dv nd) (k : KeepW w w') : NdAt w' nb kv vv dv nd :=
 ⟨k _ (by decide) (by decide) (by decide) _ _ _ h.box, rows_keepT h.own.keys (k _ (by decide) (by decide) (by decide)), rows_keepT h.own.vals (k _ (by decide) (by decide) (by decide)), rows_keepT h.own.kids (k _ (by decide) (by decide) (by decide))⟩
theorem NdAt.cell {w : World} {nb : Nat} {kv vv dv : Value} {nd : Nd} (h : NdAt w nb kv vv dv nd) : w.cell? ⟨nb, 0, none⟩ = some (.bool nd.leaf) ∧ w.cell? ⟨nb, 1, none⟩ = some kv ∧ w.cell? ⟨nb, 2, none⟩ = some vv ∧ w.cell? ⟨nb, 3, none⟩ = some dv :=
 ⟨cellN h.box rfl, cellN h.box rfl, cellN h.box rfl, cellN h.box rfl⟩
def WkR (o : Option Sw) (bad : Bool) (s' : Sw) (bad' : Bool) : Prop := (bad = true → bad' = true) ∧ (bad = false → (o = some s' ∧ bad' = false) ∨ (o = none ∧ bad' = true))
def WkRes (w0 w w' : World) (g bs n : Nat) (t : Tr) (pv : Value) (o : Option Sw) (bad : Bool) : Prop := ∃ prv s' bad', RWk w0 w' g bs n t pv prv s' bad' ∧ KeepW w w' ∧ WkR o bad s' bad'
theorem WkRes.no {w0 w w' : World} {g bs n : Nat} {t : Tr} {pv prv : Value} {o : Option Sw} {s : Sw} {bad : Bool} (h : RWk w0 w' g bs n t pv prv s true) (k : KeepW w w') (ho : bad = false → o = none) : WkRes w0 w w' g bs n t pv o bad :=
 ⟨_, _, _, h, k, fun _ => rfl, fun hb => .inr ⟨ho hb, rfl⟩⟩
end Go.Proofs.YtpiikmkajckccaaGreat
