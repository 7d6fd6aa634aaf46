/- Several texts in one: App Shp EMath ECheckR ESame EWithoutR UMath Cpy DMath UD OwnI Sub Bx CMath CFlip SMath PgMath Grow RefPut CStep CTab CExt AppZ Conv PgEncR BEq PgPA RCop RMid Tail Step DSec DRenew DOwnR DCheckR DPutR DGetR RHand DCheckP DPutP DRes DGetP FMath FLay WMath WLaid WBack WKeep WWhole WPMath FList WBase FRef FRefO FRefS WWholeR WCheckR WOwnR WPA WAppR WRcsR WSeg Keep RowW RSched FProgA FProgO Fr ShpIn DRot DLand DCrashP DCrashR DFlushR DIn. -/
import Derived.Test.YtjjicajodjophaaGoLURng0
import Derived.Deep.AppendLies
import Derived.Deep.WholeRow
import Derived.Laws.AppendOwnNone
import Derived.BigQuiet
import Derived.Lib.AppendZeros
import Derived.Laws.CopyOwn
import Derived.Laws.IdiomStrings
import Derived.Laws.BitsAllLaws
import Derived.ArgAppend
import Derived.Test.YtjjicajodjophaaChecked
import Derived.BigRegion
import Derived.Laws.ResultCell
import Derived.Great.Walk
import Derived.Lib.AppendZerosOnto
import Derived.Lib.UnsafeStr
import Derived.Lib.SliceRun
import Derived.Lib.AppendStr
import Derived.StillTail
import Derived.OrdersHeld
import Derived.StillTailTactics
import Derived.Deep.RegionLaw
import Derived.RangeFuncNested
import Derived.RangeFuncCalls
import Derived.Laws.Rows
import Derived.RangeFuncBox
import Derived.RangeFuncBound
import Derived.RangeFuncLeaves
import Derived.Shelf.Abstract
import Derived.Shelf.RegionOpen
import Derived.OwnWalkIn
import Derived.TacticsInMore
import Derived.LoopNIn
import Derived.LoopIn
import Derived.Deep.RegionWith
import Derived.Test.YtjjicajodjophaaRows
import Derived.ProofKit
import Derived.OpenShut
import Derived.ShutString
import Derived.ChangeOld
import Derived.Below
import Derived.SizedLaws
import Derived.JoinedCond
import Derived.Deep.Slices
import Derived.ChangeSame
import Derived.WideShapes
import Derived.ChangeArms
set_option linter.unusedVariables false
set_option linter.unusedSimpArgs false
namespace Go.Proofs.Ytjjicajodjophaa
open Go.RowKit
theorem OwnB.from {B : Nat} {w : World} {v : Value} {xs : List UInt8} (h : OwnB B w v xs) : ∀ k, v.ownBlock = some k → B ≤ k := by
 intro k hk
 rcases h.2 with ⟨rfl, _⟩ | ⟨g, cap, cur, rfl, hb, _⟩
 ·cases hk
 ·simp only [Value.ownBlock, Option.some.injEq] at hk
  omega
end Go.Proofs.Ytjjicajodjophaa

namespace Go.Proofs.Ytjjicajodjophaa
open Go.RowKit
structure Shp (α : Type) where
 n : Nat
 rd : World → List Value → α → Prop
 own : List Nat → World → List Value → α → Prop
 rd_n : ∀ {w cs x}, rd w cs x → cs.length = n
 rd_to : ∀ {w w' : World} {cs x}, rd w cs x → (∀ b, b < w.heap.size → w'.heap[b]? = w.heap[b]?) → rd w' cs x
 rd_one : ∀ {w cs x}, rd w cs x → ∀ u ∈ cs, u.oneCell' = true
 own_rd : ∀ {F w cs x}, own F w cs x → rd w cs x
 own_to : ∀ {F} {w w' : World} {cs x}, own F w cs x → (∀ b, b ∈ F → w'.heap[b]? = w.heap[b]?) → own F w' cs x
 own_lt : ∀ {F w cs x}, own F w cs x → ∀ b, b ∈ F → b < w.heap.size
def Own {α : Type} (s : Shp α) (B : Nat) (w : World) (cs : List Value) (x : α) : Prop := ∃ F, s.own F w cs x ∧ F.Nodup ∧ ∀ b, b ∈ F → B ≤ b
theorem boxed2 (w : World) (x y : Value) (t : TypeId) : ∃ u, u = w.alloc (.cells #[x, y] t) ∧ u.cell? ⟨w.heap.size, 0, none⟩ = some x ∧ u.cell? ⟨w.heap.size, 1, none⟩ = some y ∧ Below w.heap.size w u ∧ u.heap.size = w.heap.size + 1 := by
 refine ⟨_, rfl, ?_, ?_, (Below.refl _ _).alloc (Nat.le_refl _) _, by simp⟩
 ·rw [cell_of_row _ _ 0 _ _ (0, 0) (heap_alloc_last w _)]; rfl
 ·rw [cell_of_row _ _ 1 _ _ (0, 0) (heap_alloc_last w _)]; rfl
section
variable {α β : Type}
theorem Shp.to (s : Shp α) {w w' : World} {cs : List Value} {x : α} (h : s.rd w cs x) {B : Nat} (hB : w.heap.size ≤ B) (hb : Below B w w') : s.rd w' cs x :=
 s.rd_to h fun b hb' => hb.block b (by omega)
theorem Shp.to0 (s : Shp α) {w w' : World} {cs : List Value} {x : α} (h : s.rd w cs x) (hb : Below w.heap.size w w') : s.rd w' cs x := s.to h (Nat.le_refl _) hb
theorem Own.rd {s : Shp α} {B : Nat} {w : World} {cs : List Value} {x : α} (h : Own s B w cs x) : s.rd w cs x := let ⟨_, h, _⟩ := h; s.own_rd h
theorem Own.mono {s : Shp α} {B C : Nat} {w : World} {cs : List Value} {x : α} (h : Own s B w cs x) (hC : C ≤ B) : Own s C w cs x :=
 let ⟨F, h1, h2, h3⟩ := h; ⟨F, h1, h2, fun b hb => Nat.le_trans hC (h3 b hb)⟩
theorem Own.below {s : Shp α} {B C : Nat} {w w' : World} {cs : List Value} {x : α} (h : Own s B w cs x) (hC : w.heap.size ≤ C) (hb : Below C w w') : Own s B w' cs x :=
 let ⟨F, h1, h2, h3⟩ := h; ⟨F, s.own_to h1 fun b hb' => hb.block b (by have := s.own_lt h1 b hb'; omega), h2, h3⟩
theorem Own.to {s : Shp α} {B : Nat} {w w' : World} {cs : List Value} {x : α} (h : Own s B w cs x) (hb : Below w.heap.size w w') : Own s B w' cs x := h.below (Nat.le_refl _) hb
theorem Own.grown {s : Shp α} {B : Nat} {w w' : World} {row : Option Nat} {cs : List Value} {x : α} (h : Own s B w cs x) (hg : w.grownBy w' row) (hr : ∀ k, row = some k → k < B) : Own s B w' cs x :=
 let ⟨F, h1, h2, h3⟩ := h; ⟨F, s.own_to h1 fun b hb' => hg.block b (s.own_lt h1 b hb') (fun e => by have := hr b e.symm; have := h3 b hb'; omega), h2, h3⟩
theorem Own.set {s : Shp α} {B : Nat} {w : World} {cs : List Value} {x : α} (h : Own s B w cs x) {a : Addr} (ha : a.block < B) (u : Value) : Own s B (w.setCell a u) cs x :=
 let ⟨F, h1, h2, h3⟩ := h; ⟨F, s.own_to h1 fun b hb' => Below.heap_setCell _ _ _ _ (fun e => by have := h3 b hb'; omega), h2, h3⟩
def Shp.int (k : IntKind) : Shp Int where
 n := 1
 rd _ cs x := cs = [.int k x]
 own F _ cs x := F = [] ∧ cs = [.int k x]
 rd_n h := by rw [h]; rfl
 rd_to h _ := h
 rd_one h u hu := by rw [h] at hu; simp at hu; subst hu; rfl
 own_rd h := h.2
 own_to h _ := h
 own_lt h b hb := by rw [h.1] at hb; cases hb
def Shp.bool : Shp Bool where
 n := 1
 rd _ cs x := cs = [.bool x]
 own F _ cs x := F = [] ∧ cs = [.bool x]
 rd_n h := by rw [h]; rfl
 rd_to h _ := h
 rd_one h u hu := by rw [h] at hu; simp at hu; subst hu; rfl
 own_rd h := h.2
 own_to h _ := h
 own_lt h b hb := by rw [h.1] at hb; cases hb
def Shp.octs : Shp (List UInt8) where
 n := 1
 rd w cs x := ∃ v, cs = [v] ∧ Rd w v x
 own F w cs x := ∃ v, cs = [v] ∧ OwnB 0 w v x ∧ F = v.ownBlock.toList
 rd_n h := by obtain ⟨v, rfl, _⟩ := h; rfl
 rd_to := by
  rintro w w' cs x ⟨v, rfl, ao, cap, rfl, h1, h2, h3, h4⟩ hb
  refine ⟨_, rfl, ao, cap, rfl, h1, h2, h3, ?_⟩
  rcases h4 with h4 | ⟨b, off, rfl, hc⟩
  ·exact .inl h4
  ·refine .inr ⟨b, off, rfl, fun i hi => ?_⟩
   have := hc i hi
   rw [World.cell?_of_block (w := w) (hb b (cell_lt this))]
   exact this
 rd_one := by
  rintro w cs x ⟨v, rfl, h⟩ u hu
  obtain ⟨ao, cap, rfl⟩ := h.slice
  simp at hu; subst hu; rfl
 own_rd := by rintro F w cs x ⟨v, rfl, h, _⟩; exact ⟨v, rfl, h.rd⟩
 own_to := by
  rintro F w w' cs x ⟨v, rfl, h, rfl⟩ hb
  refine ⟨v, rfl, ⟨h.1, ?_⟩, rfl⟩
  rcases h.2 with h2 | ⟨g, cap, cur, rfl, h0, hg, r⟩
  ·exact .inl h2
  ·exact .inr ⟨g, cap, cur, rfl, h0, (hb g (by simp [Value.ownBlock])).trans hg, r⟩
 own_lt := by
  rintro F w cs x ⟨v, rfl, h, rfl⟩ b hb
  exact (World.ownsRow.lt h b (by simpa using hb)).2
def Shp.pair (s : Shp α) (t : Shp β) : Shp (α × β) where
 n := s.n + t.n
 rd w cs x := ∃ c d, cs = c ++ d ∧ s.rd w c x.1 ∧ t.rd w d x.2
 own F w cs x := ∃ c d G H, cs = c ++ d ∧ F = G ++ H ∧ s.own G w c x.1 ∧ t.own H w d x.2
 rd_n := by rintro w cs x ⟨c, d, rfl, h1, h2⟩; rw [List.length_append, s.rd_n h1, t.rd_n h2]
 rd_to := by rintro w w' cs x ⟨c, d, rfl, h1, h2⟩ hb; exact ⟨c, d, rfl, s.rd_to h1 hb, t.rd_to h2 hb⟩
 rd_one := by
  rintro w cs x ⟨c, d, rfl, h1, h2⟩ u hu
  rcases List.mem_append.1 hu with h | h
  ·exact s.rd_one h1 u h
  ·exact t.rd_one h2 u h
 own_rd := by rintro F w cs x ⟨c, d, G, H, rfl, rfl, h1, h2⟩; exact ⟨c, d, rfl, s.own_rd h1, t.own_rd h2⟩
 own_to := by
  rintro F w w' cs x ⟨c, d, G, H, rfl, rfl, h1, h2⟩ hb
  exact ⟨c, d, G, H, rfl, rfl, s.own_to h1 fun b h => hb b (List.mem_append_left _ h), t.own_to h2 fun b h => hb b (List.mem_append_right _ h)⟩
 own_lt := by
  rintro F w cs x ⟨c, d, G, H, rfl, rfl, h1, h2⟩ b hb
  rcases List.mem_append.1 hb with h | h
  ·exact s.own_lt h1 b h
  ·exact t.own_lt h2 b h
theorem Own.pair {s : Shp α} {t : Shp β} {B C : Nat} {w w' : World} {c d : List Value} {x : α} {y : β} (h1 : Own s B w c x) (hb : Below w.heap.size w w') (h2 : Own t C w' d y) (hC : w.heap.size ≤ C) (hBC : B ≤ C) : Own (s.pair t) B w' (c ++ d) (x, y) := by
 obtain ⟨F, a1, a2, a3⟩ := h1
 obtain ⟨G, b1, b2, b3⟩ := h2
 refine ⟨F ++ G, ⟨c, d, F, G, rfl, rfl, s.own_to a1 fun b hb' => hb.block b (s.own_lt a1 b hb'), b1⟩, ?_, ?_⟩
 ·refine List.nodup_append.2 ⟨a2, b2, fun x hx y hy e => ?_⟩
  have q1 := s.own_lt a1 x hx
  have q2 := b3 y hy
  omega
 ·intro b hb'
  rcases List.mem_append.1 hb' with h | h
  ·exact a3 b h
  ·have := b3 b h; omega
def ownEach (s : Shp α) (w : World) : List Nat → List Value → List α → Prop
 | F, cc, [] => F = [] ∧ cc = []
 | F, cc, x :: xs => ∃ F1 F2 c1 c2, F = F1 ++ F2 ∧ cc = c1 ++ c2 ∧ s.own F1 w c1 x ∧ ownEach s w F2 c2 xs
theorem ownEach_to {s : Shp α} {w w' : World} : ∀ {xs : List α} {F cc}, ownEach s w F cc xs → (∀ b, b ∈ F → w'.heap[b]? = w.heap[b]?) → ownEach s w' F cc xs
 | [], F, cc, h, _ => h
 | x :: xs, F, cc, ⟨F1, F2, c1, c2, e1, e2, h1, h2⟩, hb => ⟨F1, F2, c1, c2, e1, e2, s.own_to h1 fun b h => hb b (by rw [e1]; exact List.mem_append_left _ h), ownEach_to h2 fun b h => hb b (by rw [e1]; exact List.mem_append_right _ h)⟩
theorem ownEach_lt {s : Shp α} {w : World} : ∀ {xs : List α} {F cc}, ownEach s w F cc xs → ∀ b, b ∈ F → b < w.heap.size
 | [], F, cc, h, b, hb => by rw [h.1] at hb; cases hb
 | x :: xs, F, cc, ⟨F1, F2, c1, c2, e1, e2, h1, h2⟩, b, hb => by
  rw [e1] at hb
  rcases List.mem_append.1 hb with h | h
  ·exact s.own_lt h1 b h
  ·exact ownEach_lt h2 b h
theorem ownEach_app {s : Shp α} {w : World} : ∀ {xs ys : List α} {F G cc dd}, ownEach s w F cc xs → ownEach s w G dd ys → ownEach s w (F ++ G) (cc ++ dd) (xs ++ ys)
 | [], ys, F, G, cc, dd, h, k => by obtain ⟨rfl, rfl⟩ := h; exact k
 | x :: xs, ys, F, G, cc, dd, ⟨F1, F2, c1, c2, e1, e2, h1, h2⟩, k => ⟨F1, F2 ++ G, c1, c2 ++ dd, by rw [e1, List.append_assoc], by rw [e2, List.append_assoc], h1, ownEach_app h2 k⟩
theorem ownEach_one {s : Shp α} {w : World} {F c} {x : α} (h : s.own F w c x) : ownEach s w F c [x] := ⟨F, [], c, [], by simp, by simp, h, rfl, rfl⟩
theorem ownEach_at {s : Shp α} {w : World} : ∀ {xs : List α} {F cc} (i : Nat) (x : α), ownEach s w F cc xs → xs[i]? = some x →
  ∃ F1 F2 F3 c1 c2 c3, F = F1 ++ (F2 ++ F3) ∧ cc = c1 ++ (c2 ++ c3) ∧ c1.length = i * s.n ∧ ownEach s w F1 c1 (xs.take i) ∧ s.own F2 w c2 x ∧ ownEach s w F3 c3 (xs.drop (i + 1))
 | [], F, cc, i, x, h, hx => by simp at hx
 | y :: xs, F, cc, 0, x, ⟨F1, F2, c1, c2, e1, e2, h1, h2⟩, hx => by
  simp at hx; subst hx
  exact ⟨[], F1, F2, [], c1, c2, e1, e2, by simp, ⟨rfl, rfl⟩, h1, h2⟩
 | y :: xs, F, cc, i + 1, x, ⟨F1, F2, c1, c2, e1, e2, h1, h2⟩, hx => by
  obtain ⟨G1, G2, G3, d1, d2, d3, rfl, rfl, hl, k1, k2, k3⟩ := ownEach_at i x h2 (by simpa using hx)
  refine ⟨F1 ++ G1, G2, G3, c1 ++ d1, d2, d3, by rw [e1, List.append_assoc], by rw [e2, List.append_assoc], ?_, ⟨F1, G1, c1, d1, rfl, rfl, h1, k1⟩, k2, k3⟩
  rw [List.length_append, hl, s.rd_n (s.own_rd h1), Nat.add_mul, Nat.one_mul, Nat.add_comm]
def RdS (s : Shp α) (w : World) (v : Value) (xs : List α) : Prop :=
 ∃ ao cap, v = .slice ao xs.length cap ∧ xs.length ≤ cap ∧ cap ≤ maxLen ∧ (ao = none → cap = 0) ∧
  (xs = [] ∨ ∃ b off, ao = some ⟨b, off, none⟩ ∧ ∀ i x, xs[i]? = some x → ∃ c, s.rd w c x ∧ ∀ j u, c[j]? = some u → w.cell? ⟨b, off + i * s.n + j, none⟩ = some u)
theorem RdS.slice {s : Shp α} {w : World} {v : Value} {xs : List α} (h : RdS s w v xs) : ∃ ao cap, v = .slice ao xs.length cap := by
 obtain ⟨ao, cap, rfl, _⟩ := h; exact ⟨_, _, rfl⟩
theorem RdS.to {s : Shp α} {w w' : World} {v : Value} {xs : List α} (h : RdS s w v xs) {B : Nat} (hB : w.heap.size ≤ B) (hb : Below B w w') : RdS s w' v xs := by
 obtain ⟨ao, cap, rfl, h1, h2, h3, h4⟩ := h
 refine ⟨ao, cap, rfl, h1, h2, h3, ?_⟩
 rcases h4 with h4 | ⟨b, off, rfl, hc⟩
 ·exact .inl h4
 ·refine .inr ⟨b, off, rfl, fun i x hx => ?_⟩
  obtain ⟨c, k1, k2⟩ := hc i x hx
  refine ⟨c, s.to k1 hB hb, fun j u hj => ?_⟩
  have := k2 j u hj
  rw [hb.cell (p := ⟨b, off + i * s.n + j, none⟩) (by have := cell_lt this; show b < B; omega)]
  exact this
theorem RdS.to0 {s : Shp α} {w w' : World} {v : Value} {xs : List α} (h : RdS s w v xs) (hb : Below w.heap.size w w') : RdS s w' v xs := h.to (Nat.le_refl _) hb
theorem RdS.nil (s : Shp α) (w : World) : RdS s w (.slice none 0 0) [] := ⟨none, 0, rfl, Nat.le_refl _, Nat.zero_le _, fun _ => rfl, .inl rfl⟩
theorem RdS.bd {s : Shp α} {w : World} {v : Value} {xs : List α} (h : RdS s w v xs) : xs.length ≤ 9223372036854775807 := by
 obtain ⟨ao, cap, rfl, h1, h2, _⟩ := h
 rw [show maxLen = 9223372036854775807 from rfl] at h2
 omega
theorem RdS.at1 {s : Shp α} (hs : s.n = 1) {w : World} {a : Option Addr} {n cap : Nat} {xs : List α} (h : RdS s w (.slice a n cap) xs) {i : Nat} {x : α} (hx : xs[i]? = some x) :
  ∃ b off u, a = some ⟨b, off, none⟩ ∧ w.cell? ⟨b, off + i, none⟩ = some u ∧ s.rd w [u] x := by
 obtain ⟨ao, c, e, h1, h2, h3, h4⟩ := h
 cases e
 rcases h4 with rfl | ⟨b, off, rfl, hc⟩
 ·simp at hx
 ·obtain ⟨c, k1, k2⟩ := hc i x hx
  have := s.rd_n k1
  rw [hs] at this k2
  match c, this with
  | [u], _ =>
   have := k2 0 u rfl
   rw [Nat.mul_one, Nat.add_zero] at this
   exact ⟨b, off, u, rfl, this, k1⟩
theorem RdS.at2 {s : Shp α} {t : Shp β} (hs : s.n = 1) (ht : t.n = 1) {w : World} {a : Option Addr} {n cap : Nat} {xs : List (α × β)} (h : RdS (s.pair t) w (.slice a n cap) xs) {i : Nat} {x : α × β} (hx : xs[i]? = some x) :
  ∃ b off u v, a = some ⟨b, off, none⟩ ∧ w.cell? ⟨b, off + i * 2, none⟩ = some u ∧ w.cell? ⟨b, off + i * 2 + 1, none⟩ = some v ∧ s.rd w [u] x.1 ∧ t.rd w [v] x.2 := by
 obtain ⟨ao, c, e, h1, h2, h3, h4⟩ := h
 cases e
 rcases h4 with rfl | ⟨b, off, rfl, hc⟩
 ·simp at hx
 ·obtain ⟨c, ⟨c1, c2, rfl, k1, k3⟩, k2⟩ := hc i x hx
  have e1 := s.rd_n k1
  have e2 := t.rd_n k3
  rw [show (s.pair t).n = 2 from by show s.n + t.n = 2; omega] at k2
  rw [hs] at e1
  rw [ht] at e2
  match c1, e1, c2, e2 with
  | [u], _, [v], _ => exact ⟨b, off, u, v, rfl, by simpa using k2 0 u rfl, by simpa using k2 1 v rfl, k1, k3⟩
theorem rows_at {w : World} {T n : Nat} {v : Value} {m : Nat} {cc : List Value} (h : w.ownsRow 0 T n v m cc) {g : Nat} {cap : Nat} (hv : v = .slice (some ⟨g, 0, none⟩) m cap) {j : Nat} {u : Value} (hj : cc[j]? = some u) : w.cell? ⟨g, j, none⟩ = some u := by
 subst hv
 rw [h.cellAt j (by rw [← h.1]; exact (List.getElem?_eq_some_iff.1 hj).1)]
 exact hj
def Shp.list (T : Nat) (s : Shp α) : Shp (List α) where
 n := 1
 rd w cs xs := ∃ v, cs = [v] ∧ RdS s w v xs
 own F w cs xs := ∃ v cc G, cs = [v] ∧ w.ownsRow 0 T s.n v xs.length cc ∧ ownEach s w G cc xs ∧ F = v.ownBlock.toList ++ G
 rd_n := by rintro w cs x ⟨v, rfl, _⟩; rfl
 rd_to := by
  rintro w w' cs xs ⟨v, rfl, ao, cap, rfl, h1, h2, h3, h4⟩ hb
  refine ⟨_, rfl, ao, cap, rfl, h1, h2, h3, ?_⟩
  rcases h4 with h4 | ⟨b, off, rfl, hc⟩
  ·exact .inl h4
  ·refine .inr ⟨b, off, rfl, fun i x hx => ?_⟩
   obtain ⟨c, k1, k2⟩ := hc i x hx
   refine ⟨c, s.rd_to k1 hb, fun j u hj => ?_⟩
   have := k2 j u hj
   rw [World.cell?_of_block (w := w) (hb b (cell_lt this))]
   exact this
 rd_one := by
  rintro w cs x ⟨v, rfl, h⟩ u hu
  obtain ⟨ao, cap, rfl⟩ := h.slice
  simp at hu; subst hu; rfl
 own_rd := by
  rintro F w cs xs ⟨v, cc, G, rfl, h1, h2, _⟩
  refine ⟨v, rfl, ?_⟩
  rcases h1.2 with ⟨rfl, h0⟩ | ⟨g, cap, cur, hv, hb, hg, hn, hm, _⟩
  ·rw [List.eq_nil_of_length_eq_zero h0]
   exact ⟨none, 0, rfl, Nat.le_refl _, Nat.zero_le _, fun _ => rfl, .inl rfl⟩
  ·refine ⟨_, cap, hv, hn, hm, (fun h => by cases h), .inr ⟨g, 0, rfl, fun i x hx => ?_⟩⟩
   obtain ⟨F1, F2, F3, c1, c2, c3, _, e2, hl, _, k2, _⟩ := ownEach_at i x h2 hx
   refine ⟨c2, s.own_rd k2, fun j u hj => ?_⟩
   rw [Nat.zero_add]
   refine rows_at h1 hv ?_
   have hjl : j < c2.length := (List.getElem?_eq_some_iff.1 hj).1
   rw [e2, ← hl, List.getElem?_append_right (by omega), Nat.add_sub_cancel_left, List.getElem?_append_left hjl]
   exact hj
 own_to := by
  rintro F w w' cs xs ⟨v, cc, G, rfl, h1, h2, rfl⟩ hb
  refine ⟨v, cc, G, rfl, ⟨h1.1, ?_⟩, ownEach_to h2 fun b h => hb b (List.mem_append_right _ h), rfl⟩
  rcases h1.2 with h | ⟨g, cap, cur, rfl, h0, hg, r⟩
  ·exact .inl h
  ·exact .inr ⟨g, cap, cur, rfl, h0, (hb g (by simp [Value.ownBlock])).trans hg, r⟩
 own_lt := by
  rintro F w cs xs ⟨v, cc, G, rfl, h1, h2, rfl⟩ b hb
  rcases List.mem_append.1 hb with h | h
  ·exact (World.ownsRow.lt h1 b (by simpa using h)).2
  ·exact ownEach_lt h2 b h
theorem Own.rdS {T : Nat} {s : Shp α} {B : Nat} {w : World} {v : Value} {xs : List α} (h : Own (Shp.list T s) B w [v] xs) : RdS s w v xs := by
 obtain ⟨v', e, r⟩ := h.rd
 simp at e; subst e; exact r
theorem Own.nil (T : Nat) (s : Shp α) (B : Nat) (w : World) : Own (Shp.list T s) B w [.slice none 0 0] [] :=
 ⟨[], ⟨_, [], [], rfl, World.ownsRow_nil _ _ _ _, ⟨rfl, rfl⟩, by simp [Value.ownBlock]⟩, List.nodup_nil, fun b hb => by cases hb⟩
theorem rows_base {w : World} {T n B C : Nat} {v : Value} {m : Nat} {cc : List Value} (h : w.ownsRow B T n v m cc) (hC : ∀ b, v.ownBlock = some b → C ≤ b) : w.ownsRow C T n v m cc := by
 refine ⟨h.1, ?_⟩
 rcases h.2 with h2 | ⟨g, cap, cur, rfl, h0, r⟩
 ·exact .inl h2
 ·exact .inr ⟨g, cap, cur, rfl, hC g rfl, r⟩
theorem Own.cap (T : Nat) (s : Shp α) {B : Nat} {w : World} {v : Value} (h : w.ownsRow B T s.n v 0 []) : Own (Shp.list T s) B w [v] [] := by
 refine ⟨v.ownBlock.toList, ⟨v, [], [], rfl, rows_base h fun _ _ => Nat.zero_le _, ⟨rfl, rfl⟩, by simp⟩, ?_, fun b hb => (World.ownsRow.lt h b (by simpa using hb)).1⟩
 cases v.ownBlock <;> simp
def OwnF (s : Shp α) (F : List Nat) (w : World) (cs : List Value) (x : α) : Prop := s.own F w cs x ∧ F.Nodup
theorem OwnF.own {s : Shp α} {F : List Nat} {B : Nat} {w : World} {cs : List Value} {x : α} (h : OwnF s F w cs x) (hB : ∀ b, b ∈ F → B ≤ b) : Own s B w cs x := ⟨F, h.1, h.2, hB⟩
theorem OwnF.rd {s : Shp α} {F : List Nat} {w : World} {cs : List Value} {x : α} (h : OwnF s F w cs x) : s.rd w cs x := s.own_rd h.1
theorem OwnF.lt {s : Shp α} {F : List Nat} {w : World} {cs : List Value} {x : α} (h : OwnF s F w cs x) : ∀ b, b ∈ F → b < w.heap.size := s.own_lt h.1
theorem OwnF.keep {s : Shp α} {F : List Nat} {w w' : World} {cs : List Value} {x : α} (h : OwnF s F w cs x) (hb : ∀ b, b ∈ F → w'.heap[b]? = w.heap[b]?) : OwnF s F w' cs x := ⟨s.own_to h.1 hb, h.2⟩
theorem OwnF.to {s : Shp α} {F : List Nat} {w w' : World} {cs : List Value} {x : α} (h : OwnF s F w cs x) (hb : Below w.heap.size w w') : OwnF s F w' cs x := h.keep fun b hb' => hb.block b (h.lt b hb')
theorem OwnF.set {s : Shp α} {F : List Nat} {w : World} {cs : List Value} {x : α} (h : OwnF s F w cs x) {a : Addr} (ha : a.block ∉ F) (u : Value) : OwnF s F (w.setCell a u) cs x :=
 h.keep fun b hb' => Below.heap_setCell _ _ _ _ (fun e => ha (by rw [← e]; exact hb'))
theorem OwnF.split {s : Shp α} {t : Shp β} {F : List Nat} {w : World} {c d : List Value} {z : α × β} (h : OwnF (s.pair t) F w (c ++ d) z) (hc : c.length = s.n) :
  ∃ F1 F2, F = F1 ++ F2 ∧ OwnF s F1 w c z.1 ∧ OwnF t F2 w d z.2 ∧ ∀ b, b ∈ F1 → b ∉ F2 := by
 obtain ⟨⟨c', d', G, H, e, rfl, h1, h2⟩, hn⟩ := h
 have hl := s.rd_n (s.own_rd h1)
 obtain ⟨rfl, rfl⟩ := List.append_inj e (by rw [hc, hl])
 have := List.nodup_append.1 hn
 exact ⟨G, H, rfl, ⟨h1, this.1⟩, ⟨h2, this.2.1⟩, fun b hb hb' => this.2.2 b hb b hb' rfl⟩
theorem OwnF.grow {T : Nat} {s : Shp α} {F : List Nat} {w : World} {v : Value} {xs : List α} (h : OwnF (Shp.list T s) F w [v] xs) :
  ∃ cc, w.ownsRow 0 T s.n v xs.length cc ∧ (∀ b, v.ownBlock = some b → b ∈ F) ∧ ∀ (w1 w2 w3 : World) (c : List Value) (x : α) (g cap : Nat), Below w.heap.size w w1 → Own s w.heap.size w1 c x → Below w1.heap.size w1 w2 → w2.grownBy w3 v.ownBlock →
   w3.ownsRow 0 T s.n (.slice (some ⟨g, 0, none⟩) (xs.length + 1) cap) (xs.length + 1) (cc ++ c) → (v.ownBlock = some g ∨ g = w2.heap.size) →
   ∃ F', OwnF (Shp.list T s) F' w3 [.slice (some ⟨g, 0, none⟩) (xs.length + 1) cap] (xs ++ [x]) ∧ ∀ b, b ∈ F' → b ∈ F ∨ w.heap.size ≤ b := by
 obtain ⟨⟨v', cc, G, e, h1, h2, rfl⟩, hn⟩ := h
 simp at e; subst e
 refine ⟨cc, h1, fun b hb => by simp [hb], ?_⟩
 intro w1 w2 w3 c x g cap b1 he b2 hg hr hat
 obtain ⟨F2, k1, k2, k3⟩ := he
 have lt1 := ownEach_lt h2
 have hn' := List.nodup_append.1 hn
 have ng : g ∉ G := by
  intro hgG
  rcases hat with hat | rfl
  ·exact hn'.2.2 g (by simp [hat]) g hgG rfl
  ·have := lt1 _ hgG; have := b1.size; have := b2.size; omega
 have ng2 : g ∉ F2 := by
  intro hgF
  have q := k3 g hgF
  rcases hat with hat | rfl
  ·have := (World.ownsRow.lt h1 g hat).2; omega
  ·have := s.own_lt k1 _ hgF; have := b2.size; omega
 refine ⟨(g :: (G ++ F2)), ⟨⟨_, cc ++ c, G ++ F2, rfl, ?_, ?_, rfl⟩, ?_⟩, ?_⟩
 ·rw [List.length_append]; exact hr
 ·refine ownEach_app (ownEach_to h2 fun b hb => ?_) (ownEach_one (s.own_to k1 fun b hb => ?_))
  ·rw [hg.block b (by have := lt1 b hb; have := b1.size; have := b2.size; omega) (fun e => hn'.2.2 b (by simp [← e]) b hb rfl), b2.block b (by have := lt1 b hb; have := b1.size; omega), b1.block b (lt1 b hb)]
  ·rw [hg.block b (by have := s.own_lt k1 b hb; have := b2.size; omega) (fun e => by have := (World.ownsRow.lt h1 b e.symm).2; have := k3 b hb; omega), b2.block b (s.own_lt k1 b hb)]
 ·refine List.nodup_cons.2 ⟨fun hm => ?_, List.nodup_append.2 ⟨hn'.2.1, k2, fun a ha b hb e => ?_⟩⟩
  ·rcases List.mem_append.1 hm with q | q
   ·exact ng q
   ·exact ng2 q
  ·have := lt1 a ha; have := k3 b hb; omega
 ·intro b hb
  rcases List.mem_cons.1 hb with rfl | hb
  ·rcases hat with hat | rfl
   ·left; simp [hat]
   ·right; have := b1.size; have := b2.size; omega
  ·rcases List.mem_append.1 hb with q | q
   ·left; simp [q]
   ·right; exact k3 b q
theorem rows_to {w w' : World} {B T n : Nat} {v : Value} {m : Nat} {cc : List Value} (h : w.ownsRow B T n v m cc) (hb : Below w.heap.size w w') : w'.ownsRow B T n v m cc := by
 refine ⟨h.1, ?_⟩
 rcases h.2 with h2 | ⟨g, cap, cur, e, h0, hg, r⟩
 ·exact .inl h2
 ·exact .inr ⟨g, cap, cur, e, h0, (hb.block g (lt_of_block hg)).trans hg, r⟩
theorem lit_of {T n : Nat} {s : Shp α} {F : List Nat} {w : World} {v : Value} {cc : List Value} {R : World → List Nat → Value → α → Prop} (hrow : w.ownsRow 0 T s.n v n cc) (hm : ∀ b, v.ownBlock = some b → b ∈ F)
  (k3 : ∀ (w1 w2 w3 : World) (c : List Value) (x : α) (g cap : Nat), Below w.heap.size w w1 → Own s w.heap.size w1 c x → Below w1.heap.size w1 w2 → w2.grownBy w3 v.ownBlock →
   w3.ownsRow 0 T s.n (.slice (some ⟨g, 0, none⟩) (n + 1) cap) (n + 1) (cc ++ c) → (v.ownBlock = some g ∨ g = w2.heap.size) → ∃ F', R w3 F' (.slice (some ⟨g, 0, none⟩) (n + 1) cap) x ∧ ∀ b, b ∈ F' → b ∈ F ∨ w.heap.size ≤ b) :
  (∀ u, Below w.heap.size w u → u.ownsRow 0 T s.n v n cc) ∧ ∀ (w2 : World) (c : List Value) (x : α) (T' : Nat) (w3 w5 : World) (g cap : Nat), Below w.heap.size w w2 → Own s w.heap.size w2 c x → w3.heap = (w2.alloc (.cells c.toArray T')).heap → w3.os = w2.os → w3.tape = w2.tape → w3.output = w2.output → w3.grownBy w5 v.ownBlock →
   w5.ownsRow 0 T s.n (.slice (some ⟨g, 0, none⟩) (n + 1) cap) (n + 1) (cc ++ c) → (v.ownBlock = some g ∨ g = w2.heap.size + 1) →
   (∃ F', R w5 F' (.slice (some ⟨g, 0, none⟩) (n + 1) cap) x ∧ ∀ b, b ∈ F' → b ∈ F ∨ w.heap.size ≤ b) ∧ (∀ B, (∀ b, b ∈ F → B ≤ b) → B ≤ w.heap.size → Below B w w5) ∧ ∀ b, b < w.heap.size → b ∉ F → w5.heap[b]? = w.heap[b]? := by
 refine ⟨fun u hu => rows_to hrow hu, ?_⟩
 intro w2 c x T' w3 w5 g cap b1 he hh h1 h2 h3 hg hr hat
 have hsz : w3.heap.size = w2.heap.size + 1 := by rw [hh]; simp
 have b2 : Below w2.heap.size w2 w3 := ⟨h1, h2, h3, by omega, fun k hk => by rw [hh]; exact Below.heap_alloc _ _ _ hk⟩
 refine ⟨k3 w2 w3 w5 c x g cap b1 he b2 hg hr (by rw [hsz]; exact hat), fun B hF hB => ?_, fun b hb hnb => ?_⟩
 ·exact (((b1.mono hB).trans (b2.mono (by have := b1.size; omega)))).grown hg (by have := b1.size; omega) (fun k hk => hF k (hm k hk))
 ·have := b1.size
  rw [hg.block b (by omega) (fun e => hnb (hm b e.symm)), b2.block b (by omega), b1.block b hb]
theorem OwnF.lit {T n : Nat} {s : Shp α} {F : List Nat} {w : World} {v : Value} {xs : List α} (h : OwnF (Shp.list T s) F w [v] xs) (hn : xs.length = n) : ∃ cc,
  (∀ u, Below w.heap.size w u → u.ownsRow 0 T s.n v n cc) ∧ ∀ (w2 : World) (c : List Value) (x : α) (T' : Nat) (w3 w5 : World) (g cap : Nat), Below w.heap.size w w2 → Own s w.heap.size w2 c x → w3.heap = (w2.alloc (.cells c.toArray T')).heap → w3.os = w2.os → w3.tape = w2.tape → w3.output = w2.output → w3.grownBy w5 v.ownBlock →
   w5.ownsRow 0 T s.n (.slice (some ⟨g, 0, none⟩) (n + 1) cap) (n + 1) (cc ++ c) → (v.ownBlock = some g ∨ g = w2.heap.size + 1) →
   (∃ F', OwnF (Shp.list T s) F' w5 [.slice (some ⟨g, 0, none⟩) (n + 1) cap] (xs ++ [x]) ∧ ∀ b, b ∈ F' → b ∈ F ∨ w.heap.size ≤ b) ∧ (∀ B, (∀ b, b ∈ F → B ≤ b) → B ≤ w.heap.size → Below B w w5) ∧ ∀ b, b < w.heap.size → b ∉ F → w5.heap[b]? = w.heap[b]? := by
 subst hn
 obtain ⟨cc, k1, k2, k3⟩ := h.grow
 exact ⟨cc, lit_of (R := fun w5 F' v' x => OwnF (Shp.list T s) F' w5 [v'] (xs ++ [x])) k1 k2 k3⟩
theorem set_take_drop (xs : List α) (i : Nat) (x : α) (hi : i < xs.length) : xs.set i x = xs.take i ++ ([x] ++ xs.drop (i + 1)) := by
 rw [List.set_eq_take_append_cons_drop, if_pos hi]; rfl
theorem OwnF.at {T : Nat} {s : Shp α} {F : List Nat} {w : World} {v : Value} {xs : List α} (h : OwnF (Shp.list T s) F w [v] xs) {i : Nat} {x : α} (hx : xs[i]? = some x) :
  ∃ g cap F2 c, v = .slice (some ⟨g, 0, none⟩) xs.length cap ∧ xs.length ≤ cap ∧ cap ≤ maxLen ∧ g ∈ F ∧ s.own F2 w c x ∧ (∀ b, b ∈ F2 → b ∈ F ∧ b ≠ g) ∧ (∀ j u, c[j]? = some u → w.cell? ⟨g, i * s.n + j, none⟩ = some u) ∧
   ∀ w' x', s.own F2 w' c x' → (∀ b, b ∈ F → b ∉ F2 → w'.heap[b]? = w.heap[b]?) → OwnF (Shp.list T s) F w' [v] (xs.set i x') := by
 have hi : i < xs.length := (List.getElem?_eq_some_iff.1 hx).1
 obtain ⟨⟨v', cc, G, e, h1, h2, rfl⟩, hn⟩ := h
 simp at e; subst e
 obtain ⟨F1, F2, F3, c1, c2, c3, e1, e2, hl, k1, k2, k3⟩ := ownEach_at i x h2 hx
 have hn' := List.nodup_append.1 hn
 have hG := hn'.2.1
 rw [e1] at hG
 have hG1 := List.nodup_append.1 hG
 have hG2 := List.nodup_append.1 hG1.2.1
 rcases h1.2 with ⟨rfl, h0⟩ | ⟨g, cap, cur, hv, hb, hg, hnn, hm, _⟩
 ·omega
 have nF2 : ∀ b, b ∈ F2 → b ∈ G := fun b hb => by rw [e1]; simp [hb]
 refine ⟨g, cap, F2, c2, hv, hnn, hm, by simp [hv, Value.ownBlock], k2, fun b hb => ⟨by simp [nF2 b hb], fun e => hn'.2.2 g (by simp [hv, Value.ownBlock]) g (by rw [← e]; exact nF2 b hb) rfl⟩, fun j u hj => ?_, fun w' x' ho hk => ⟨⟨v, cc, G, rfl, ?_, ?_, rfl⟩, hn⟩⟩
 ·have hjl : j < c2.length := (List.getElem?_eq_some_iff.1 hj).1
  refine rows_at h1 hv ?_
  rw [e2, ← hl, List.getElem?_append_right (by omega), Nat.add_sub_cancel_left, List.getElem?_append_left hjl]
  exact hj
 ·rw [List.length_set]
  refine ⟨h1.1, ?_⟩
  rcases h1.2 with h | ⟨g', cap', cur', e', h0', hg', r⟩
  ·exact .inl h
  ·refine .inr ⟨g', cap', cur', e', h0', (hk g' (by simp [e', Value.ownBlock]) fun hm => ?_).trans hg', r⟩
   exact hn'.2.2 g' (by simp [e', Value.ownBlock]) g' (nF2 g' hm) rfl
 ·rw [set_take_drop xs i x' hi, e1, e2]
  refine ownEach_app (ownEach_to k1 fun b hb => hk b (by rw [e1]; simp [hb]) fun hm => ?_) (ownEach_app (ownEach_one ho) (ownEach_to k3 fun b hb => hk b (by rw [e1]; simp [hb]) fun hm => ?_))
  ·exact hG1.2.2 b hb b (by simp [hm]) rfl
  ·exact hG2.2.2 b hm b hb rfl
theorem Own.made {T : Nat} {s : Shp α} {B : Nat} {w : World} {v : Value} {n : Nat} {u0 : Value} {x0 : α} (hs : ∀ w, s.own [] w [u0] x0) (h : w.ownsRow B T s.n v n (List.replicate n u0)) : Own (Shp.list T s) B w [v] (List.replicate n x0) := by
 have each : ∀ n, ownEach s w [] (List.replicate n u0) (List.replicate n x0) := by
  intro n
  induction n with
  | zero => exact ⟨rfl, rfl⟩
  | succ n ih => exact ⟨[], [], [u0], List.replicate n u0, rfl, rfl, hs w, ih⟩
 refine ⟨v.ownBlock.toList, ⟨v, _, [], rfl, ?_, each n, by simp⟩, ?_, fun b hb => (World.ownsRow.lt h b (by simpa using hb)).1⟩
 ·rw [List.length_replicate]; exact rows_base h fun _ _ => Nat.zero_le _
 ·cases v.ownBlock <;> simp
end
end Go.Proofs.Ytjjicajodjophaa

namespace Go.Proofs.Ytjjicajodjophaa
abbrev Ext := Int × Int
abbrev EMap := Int × List Ext
def eRow (n : Int) : Int → List Ext → Prop
 | _, [] => True
 | e, x :: r => (1 ≤ x.2 ∧ 0 ≤ x.1 ∧ e < x.1 ∧ x.2 ≤ n - x.1) ∧ eRow n (x.1 + x.2) r
instance (n : Int) : ∀ (e : Int) (l : List Ext), Decidable (eRow n e l)
 | _, [] => isTrue trivial
 | e, x :: r => @instDecidableAnd _ _ _ (instDecidableERow n (x.1 + x.2) r)
where instDecidableERow (n : Int) : ∀ (e : Int) (l : List Ext), Decidable (eRow n e l)
 | _, [] => isTrue trivial
 | e, x :: r => @instDecidableAnd _ _ _ (instDecidableERow n (x.1 + x.2) r)
def EOk (m : EMap) : Prop := 0 ≤ m.1 ∧ m.1 ≤ 1048576 ∧ eRow m.1 (-1) m.2
instance (m : EMap) : Decidable (EOk m) := by unfold EOk; infer_instance
def cov (l : List Ext) (j : Int) : Prop := ∃ y ∈ l, y.1 ≤ j ∧ j < y.1 + y.2
end Go.Proofs.Ytjjicajodjophaa

namespace Go.Proofs.Ytjjicajodjophaa
open Go.RowKit
abbrev SExt : Shp Ext := (Shp.int .i64).pair (Shp.int .i64)
abbrev RdE (w : World) (v : Value) (l : List Ext) : Prop := RdS SExt w v l
theorem RdS.ext {w : World} {a : Option Addr} {n cap : Nat} {l : List Ext} (h : RdE w (.slice a n cap) l) {i : Nat} {x : Ext} (hx : l[i]? = some x) :
  ∃ b off, a = some ⟨b, off, none⟩ ∧ w.cell? ⟨b, off + i * 2, none⟩ = some (.int .i64 x.1) ∧ w.cell? ⟨b, off + i * 2 + 1, none⟩ = some (.int .i64 x.2) := by
 obtain ⟨b, off, u, v, e, hc, hc2, e1, e2⟩ := RdS.at2 rfl rfl h hx
 have f1 : [u] = [Value.int .i64 x.1] := e1
 have f2 : [v] = [Value.int .i64 x.2] := e2
 simp only [List.cons.injEq, and_true] at f1 f2
 subst f1 f2
 exact ⟨b, off, e, hc, hc2⟩
theorem ext_at (xs : List Ext) {k : Nat} (h : k < xs.length) : ∃ x, xs[k]? = some x ∧ x ∈ xs := ⟨xs[k], List.getElem?_eq_getElem h, List.getElem_mem h⟩
end Go.Proofs.Ytjjicajodjophaa

namespace Go.Proofs.Ytjjicajodjophaa
open Go.RowKit
abbrev SExtL : Shp (List Ext) := Shp.list 73 SExt
def ecells (l : List Ext) : List Value := l.flatMap fun x => [.int .i64 x.1, .int .i64 x.2]
theorem ecells_cons (x : Ext) (l : List Ext) : ecells (x :: l) = [Value.int .i64 x.1, .int .i64 x.2] ++ ecells l := rfl
theorem ecells_one (l : List Ext) : ∀ u ∈ ecells l, u.oneCell' = true := by
 intro u hu
 obtain ⟨x, _, hx⟩ := List.mem_flatMap.1 hu
 rcases List.mem_cons.1 hx with rfl | hx
 ·rfl
 ·rcases List.mem_cons.1 hx with rfl | hx
  ·rfl
  ·cases hx
theorem own_ext {B : Nat} {w : World} {v : Value} {l : List Ext} (h : w.ownsRow B 73 2 v l.length (ecells l)) : Own SExtL B w [v] l := by
 have each : ∀ l : List Ext, ownEach SExt w [] (ecells l) l := by
  intro l
  induction l with
  | nil => exact ⟨rfl, rfl⟩
  | cons x r ih => exact ⟨[], [], [.int .i64 x.1, .int .i64 x.2], ecells r, rfl, rfl, ⟨[.int .i64 x.1], [.int .i64 x.2], [], [], rfl, rfl, ⟨rfl, rfl⟩, ⟨rfl, rfl⟩⟩, ih⟩
 refine ⟨v.ownBlock.toList, ⟨v, _, [], rfl, ?_, each l, by simp⟩, ?_, fun b hb => (World.ownsRow.lt h b (by simpa using hb)).1⟩
 ·exact rows_base h fun _ _ => Nat.zero_le _
 ·cases v.ownBlock <;> simp
theorem infoE : (Try.prog.info? 73).map (fun i => (i.zero, i.size, i.bytes)) = some (some (.agg #[.int .i64 0, .int .i64 0]), 2, 16) := by kernel_rfl
def sameE (a b : List Ext) : Bool := decide (a = b)
set_option maxRecDepth 100000 in
set_option maxHeartbeats 1000000 in
theorem sameExt_any (w : World) (v1 v2 : Value) (l1 l2 : List Ext) (h1 : RdE w v1 l1) (h2 : RdE w v2 l2) :
  Calls Try.prog 18 #[v1, v2] w fun e w' => e = .returned (.bool (sameE l1 l2)) ∧ ∃ n, w' = w.drewN n := by
 have b1 := h1.bd
 have b2 := h2.bd
 obtain ⟨a1, c1, rfl⟩ := h1.slice
 obtain ⟨a2, c2, rfl⟩ := h2.slice
 by_cases hl : l1.length = l2.length
 ·have HL := hide hl
  have hne : ((l1.length : Int) != (l2.length : Int)) = false := by simp; omega
  go_enter Try.func18, Try.ntmps18
  go_wp2
  clear hl hne
  go_loopw [5] (fun i wr => ∃ k n : Nat, k ≤ l1.length ∧ i = .int .i64 k ∧ Hid (l1.take k = l2.take k) ∧ Hid (wr = w.drewN n)) (fun i _ => l1.length - (intOf i).toNat)
  case atStart => exact ⟨0, 0, Nat.zero_le _, rfl, hide rfl, hide rfl⟩
  case round =>
   obtain ⟨k, n, hk, rfl, ht, hw⟩ := hrel
   by_cases hlt : k < l1.length
   ·have hq : (k : Int) < (l1.length : Int) := by omega
    have hq2 : (k : Int) < (l2.length : Int) := by have := HL.out; omega
    obtain ⟨x, hx, _⟩ := ext_at l1 hlt
    obtain ⟨y, hy, _⟩ := ext_at l2 (k := k) (by have := HL.out; omega)
    have bd := below_drewN' w n w.heap.size
    rw [← hw.out] at bd
    obtain ⟨p1, o1, rfl, x1, x2⟩ := (h1.to0 bd).ext hx
    obtain ⟨p2, o2, rfl, y1, y2⟩ := (h2.to0 bd).ext hy
    have e1 := hide (show l1.take (k + 1) = l1.take k ++ [x] by rw [List.take_add_one, hx]; rfl)
    have e2 := hide (show l2.take (k + 1) = l2.take k ++ [y] by rw [List.take_add_one, hy]; rfl)
    have HX := hide (And.intro hx hy)
    clear bd hx hy h1 h2
    obtain ⟨xa, xb⟩ := x
    obtain ⟨ya, yb⟩ := y
    dsimp only at x1 x2 y1 y2
    by_cases c1 : xa = ya
    ·by_cases c2 : xb = yb
     ·subst c1 c2
      go_wp2
      go_region
      go_wp2
      go_roundw
      case rel => exact ⟨k + 1, n + 1, by omega, by go_num, hide (by rw [e1.out, e2.out, ht.out]), hide (by rw [hw.out]; rfl)⟩
      case measure => simp [intOf]; omega
     ·have c2' : (xb == yb) = false := by simpa using c2
      have hr : Hid (sameE l1 l2 = false) := by show _ = _; unfold sameE; simp; rintro rfl; have := HX.out; rw [this.1] at this; simp at this; exact c2 this.2
      subst c1
      go_wp2
      go_region
      go_wp2
      go_ret
      exact ⟨ret_bool hr.out.symm, n + 1, by rw [hw.out]; rfl⟩
    ·have c1' : (xa == ya) = false := by simpa using c1
     have hr : Hid (sameE l1 l2 = false) := by show _ = _; unfold sameE; simp; rintro rfl; have := HX.out; rw [this.1] at this; simp at this; exact c1 this.1
     go_wp2
     go_region
     go_wp2
     go_ret
     exact ⟨ret_bool hr.out.symm, n + 1, by rw [hw.out]; rfl⟩
   ·have hq : ¬ (k : Int) < (l1.length : Int) := by omega
    have hr : Hid (sameE l1 l2 = true) := by
     show _ = _
     have := ht.out
     rw [List.take_of_length_le (by omega), List.take_of_length_le (by have := HL.out; omega)] at this
     simp [sameE, this]
    go_wp2
    go_ret
    exact ⟨ret_bool hr.out.symm, n, hw.out⟩
 ·have hr : Hid (sameE l1 l2 = false) := by show _ = _; unfold sameE; simp; rintro rfl; exact hl rfl
  have hne : ((l1.length : Int) != (l2.length : Int)) = true := by simp; omega
  go_enter Try.func18, Try.ntmps18
  go_wp2
  go_ret
  exact ⟨ret_bool hr.out.symm, 0, rfl⟩
end Go.Proofs.Ytjjicajodjophaa

namespace Go.Proofs.Ytjjicajodjophaa
open Go.RowKit
def OwnE (B : Nat) (w : World) (v : Value) (l : List Ext) : Prop := w.ownsRow B 73 2 v l.length (ecells l)
theorem ecells_app (a b : List Ext) : ecells (a ++ b) = ecells a ++ ecells b := by unfold ecells; rw [List.flatMap_append]
theorem run_append_ext (w : World) {B : Nat} {v : Value} {l : List Ext} (h : OwnE B w v l) (a b : Int) (hl : l.length ≤ 4000000) (hB : B ≤ w.heap.size) :
  ∃ v' w', (Builtin.append_ #[51, 51] 51 #[v, .slice (some ⟨w.heap.size, 0, none⟩) 1 1]).run Try.prog (w.alloc (.cells #[.int .i64 a, .int .i64 b] 73)) = .ok v' w' ∧ OwnE B w' v' (l ++ [(a, b)]) ∧ Below B w w' ∧ w.heap.size ≤ w'.heap.size ∧ ∀ (p i : Nat) (u : Value), w.cell? ⟨p, i, none⟩ = some u → some p ≠ v.ownBlock → w'.cell? ⟨p, i, none⟩ = some u := by
 obtain ⟨i0, hi, hz0, hz1, hz2⟩ := info_parts infoE
 have hc : ∀ j u, [Value.int .i64 a, .int .i64 b][j]? = some u → (w.alloc (.cells #[.int .i64 a, .int .i64 b] 73)).cell? ((⟨w.heap.size, 0, none⟩ : Addr).add j) = some u := by
  intro j u hj
  have ea : (⟨w.heap.size, 0, none⟩ : Addr).add j = ⟨w.heap.size, j, none⟩ := by
   by_cases h0 : j = 0
   ·subst h0; simp [Addr.add]
   ·simp [Addr.add, h0]
  rw [ea, cell_of_row _ _ j _ _ (0, 0) (heap_alloc_last w _)]
  simpa using hj
 obtain ⟨v', w', hr, ho, hg, _⟩ := run_append_own (P := Try.prog) (w.alloc (.cells #[.int .i64 a, .int .i64 b] 73)) B 51 51 73 i0 (.agg #[.int .i64 0, .int .i64 0]) 2 16 Try.underlying51 hi hz0 hz1 hz2 rfl (by decide) v l.length (ecells l) (World.ownsRow.alloc h _) ⟨w.heap.size, 0, none⟩ 1 1 [.int .i64 a, .int .i64 b] rfl hc (ecells_one [(a, b)]) (by unfold maxLen; omega) (by omega) (by simp; omega)
 have bb : Below B w (w.alloc (.cells #[.int .i64 a, .int .i64 b] 73)) := (Below.refl _ _).alloc hB _
 refine ⟨v', w', hr, ?_, bb.grown hg (by simp; omega) (fun k hk => (World.ownsRow.lt h k hk).1), by have := hg.size; simp at this; omega, fun p i u hp hne => hg.cell (a := ⟨p, i, none⟩) ((World.cell?_of_block (a := ⟨p, i, none⟩) (Below.heap_alloc w _ p (cell_lt hp))).trans hp) hne⟩
 unfold OwnE
 rw [ecells_app, List.length_append]
 exact ho
end Go.Proofs.Ytjjicajodjophaa

namespace Go.Proofs.Ytjjicajodjophaa
def rstep (o : List (Int × Int)) (a : Int) : List (Int × Int) :=
 match o.getLast? with
 | none => [(a, 4)]
 | some x => if a ≤ x.1 + x.2 then o.dropLast ++ [(x.1, a + 4 - x.1)] else o ++ [(a, 4)]
def rfold (l : List Int) : List (Int × Int) := l.foldl rstep []
theorem rfold_snoc (l : List Int) (a : Int) : rfold (l ++ [a]) = rstep (rfold l) a := by unfold rfold; rw [List.foldl_append]; rfl
def dmAt (x : Int × (Int × Int)) : Option Int := if x.1 = 1 ∧ 0 ≤ x.2.2 ∧ x.2.2 ≤ 1048576 then some x.2.2 else none
def dmAts (l : List (Int × (Int × Int))) : List Int := l.filterMap dmAt
theorem dmAts_next {l : List (Int × (Int × Int))} {k : Nat} {x : Int × (Int × Int)} (h : l[k]? = some x) : dmAts (l.take (k + 1)) = dmAts (l.take k) ++ (dmAt x).toList := by
 unfold dmAts
 rw [List.take_add_one, h, List.filterMap_append]
 cases hx : dmAt x <;> simp [hx]
theorem dmAts_len (l : List (Int × (Int × Int))) : (dmAts l).length ≤ l.length := List.length_filterMap_le _ _
theorem dmAts_mem {l : List (Int × (Int × Int))} {a : Int} : a ∈ dmAts l ↔ ∃ x ∈ l, x.1 = 1 ∧ 0 ≤ x.2.2 ∧ x.2.2 ≤ 1048576 ∧ x.2.2 = a := by
 unfold dmAts dmAt
 rw [List.mem_filterMap]
 constructor
 ·rintro ⟨x, hx, h⟩
  split at h
  ·rename_i hc
   simp only [Option.some.injEq] at h
   exact ⟨x, hx, hc.1, hc.2.1, hc.2.2, h⟩
  ·simp at h
 ·rintro ⟨x, hx, h1, h2, h3, h4⟩
  exact ⟨x, hx, by rw [if_pos ⟨h1, h2, h3⟩, h4]⟩
theorem dmAts_bd {l : List (Int × (Int × Int))} {a : Int} (h : a ∈ dmAts l) : 0 ≤ a ∧ a ≤ 1048576 := by
 obtain ⟨x, _, _, h2, h3, rfl⟩ := dmAts_mem.1 h
 exact ⟨h2, h3⟩
def srt (l : List Int) : List Int := l.mergeSort (fun x y => decide (x ≤ y))
theorem srt_perm (l : List Int) : (srt l).Perm l := List.mergeSort_perm l _
theorem srt_mem {l : List Int} {a : Int} : a ∈ srt l ↔ a ∈ l := (srt_perm l).mem_iff
theorem srt_len (l : List Int) : (srt l).length = l.length := (srt_perm l).length_eq
theorem srt_rise (l : List Int) : (srt l).Pairwise (fun a b => a ≤ b) := by
 have h1 : (srt l).Pairwise (fun a b => decide (a ≤ b) = true) := List.pairwise_mergeSort (fun a b c h1 h2 => by simp only [decide_eq_true_eq] at *; omega) (fun a b => by simp only [Bool.or_eq_true, decide_eq_true_eq]; omega) l
 exact h1.imp fun {a b} h => by simpa using h
def rngs (l : List (Int × (Int × Int))) : List (Int × Int) := rfold (srt (dmAts l))
theorem rstep_none (a : Int) : rstep [] a = [] ++ [(a, 4)] := rfl
theorem rstep_join {o : List (Int × Int)} {k : Nat} {x : Int × Int} {a : Int} (hl : o.length = k + 1) (h : o[k]? = some x) (hc : a ≤ x.1 + x.2) : rstep o a = o.set k (x.1, a + 4 - x.1) := by
 have e : o.getLast? = some x := by rw [List.getLast?_eq_getElem?, hl]; exact h
 obtain ⟨ys, rfl⟩ := List.getLast?_eq_some_iff.1 e
 unfold rstep
 rw [e]
 dsimp only
 rw [if_pos hc, List.dropLast_concat]
 have : ys.length = k := by simpa using hl
 subst this
 simp
theorem rstep_new {o : List (Int × Int)} {k : Nat} {x : Int × Int} {a : Int} (hl : o.length = k + 1) (h : o[k]? = some x) (hc : ¬ a ≤ x.1 + x.2) : rstep o a = o ++ [(a, 4)] := by
 have e : o.getLast? = some x := by rw [List.getLast?_eq_getElem?, hl]; exact h
 unfold rstep
 rw [e]
 dsimp only
 rw [if_neg hc]
theorem rfold_next {l : List Int} {k : Nat} {a : Int} (h : l[k]? = some a) : rfold (l.take (k + 1)) = rstep (rfold (l.take k)) a := by
 rw [List.take_add_one, h]
 exact rfold_snoc _ _
theorem rstep_len (o : List (Int × Int)) (a : Int) : (rstep o a).length ≤ o.length + 1 ∧ o.length ≤ (rstep o a).length := by
 unfold rstep
 split
 ·rename_i h; simp at h; subst h; simp
 ·rename_i x h
  have : o ≠ [] := by intro e; rw [e] at h; simp at h
  have := List.length_pos_iff.2 this
  split
  ·simp; omega
  ·simp
theorem rfold_len : ∀ l : List Int, (rfold l).length ≤ l.length := by
 intro l
 suffices h : ∀ (l : List Int) (o : List (Int × Int)), (l.foldl rstep o).length ≤ o.length + l.length by simpa [rfold] using h l []
 intro l
 induction l with
 | nil => intro o; simp
 | cons a r ih =>
  intro o
  have := ih (rstep o a)
  have := (rstep_len o a).1
  rw [List.foldl_cons, List.length_cons]
  omega
theorem rfold_in {l : List Int} {m : Int} (h0 : ∀ a ∈ l, 0 ≤ a ∧ a ≤ m) : ∀ x ∈ rfold l, 0 ≤ x.1 ∧ x.1 ≤ m ∧ x.1 + x.2 ≤ m + 4 ∧ 4 - m ≤ x.2 := by
 suffices h : ∀ (l : List Int) (o : List (Int × Int)), (∀ a ∈ l, 0 ≤ a ∧ a ≤ m) → (∀ x ∈ o, 0 ≤ x.1 ∧ x.1 ≤ m ∧ x.1 + x.2 ≤ m + 4 ∧ 4 - m ≤ x.2) → ∀ x ∈ l.foldl rstep o, 0 ≤ x.1 ∧ x.1 ≤ m ∧ x.1 + x.2 ≤ m + 4 ∧ 4 - m ≤ x.2 from h l [] h0 (by simp)
 intro l
 induction l with
 | nil => intro o _ h2; exact h2
 | cons a r ih =>
  intro o h1 h2
  refine ih (rstep o a) (fun b hb => h1 b (List.mem_cons_of_mem _ hb)) ?_
  have ha := h1 a (List.mem_cons_self ..)
  intro x hx
  unfold rstep at hx
  split at hx
  ·simp at hx; subst hx; simp; omega
  ·rename_i y hy
   have hym := List.mem_of_getLast? hy
   have hy' := h2 y hym
   split at hx
   ·rcases List.mem_append.1 hx with hx | hx
    ·exact h2 x (List.dropLast_subset _ hx)
    ·simp at hx; subst hx; simp; omega
   ·rcases List.mem_append.1 hx with hx | hx
    ·exact h2 x hx
    ·simp at hx; subst hx; simp; omega
structure Rg (o : List (Int × Int)) (l : List Int) : Prop where
 big : ∀ x ∈ o, 4 ≤ x.2
 rise : o.Pairwise fun x y => x.1 + x.2 < y.1
 low : ∀ x ∈ o, ∃ b ∈ l, x.1 ≤ b
 top : ∀ x ∈ o, ∃ b ∈ l, x.1 + x.2 ≤ b + 4
 cov : ∀ j, (∃ x ∈ o, x.1 ≤ j ∧ j < x.1 + x.2) ↔ ∃ b ∈ l, b ≤ j ∧ j < b + 4
theorem Rg.nil : Rg [] [] := ⟨by simp, List.Pairwise.nil, by simp, by simp, by simp⟩
theorem Rg.step {o : List (Int × Int)} {l : List Int} {a : Int} (h : Rg o l) (hl : ∀ b ∈ l, b ≤ a) : Rg (rstep o a) (l ++ [a]) := by
 unfold rstep
 split
 ·rename_i e
  simp at e
  subst e
  have hn : ∀ j, ¬ ∃ b ∈ l, b ≤ j ∧ j < b + 4 := fun j hj => by simpa using (h.cov j).2 hj
  refine ⟨by simp, List.pairwise_singleton _ _, by simp, by simp, fun j => ?_⟩
  constructor
  ·rintro ⟨x, hx, h1⟩
   simp at hx
   subst hx
   exact ⟨a, by simp, h1⟩
  ·rintro ⟨b, hb, h1⟩
   rcases List.mem_append.1 hb with hb | hb
   ·exact absurd ⟨b, hb, h1⟩ (hn j)
   ·simp at hb; subst hb
    exact ⟨(b, 4), by simp, h1⟩
 ·rename_i z hz
  obtain ⟨p, rfl⟩ := List.getLast?_eq_some_iff.1 hz
  obtain ⟨hb1, hb2⟩ : (∀ x ∈ p, 4 ≤ x.2) ∧ 4 ≤ z.2 := ⟨fun x hx => h.big x (by simp [hx]), h.big z (by simp)⟩
  have hr := List.pairwise_append.1 h.rise
  obtain ⟨bl, hbl, hzl⟩ := h.low z (by simp)
  have hza : z.1 ≤ a := by have := hl bl hbl; omega
  obtain ⟨bt, hbt, hzt⟩ := h.top z (by simp)
  have hzt' : z.1 + z.2 ≤ a + 4 := by have := hl bt hbt; omega
  split
  ·rename_i hc
   rw [List.dropLast_concat]
   refine ⟨?_, ?_, ?_, ?_, fun j => ?_⟩
   ·intro x hx
    rcases List.mem_append.1 hx with hx | hx
    ·exact hb1 x hx
    ·simp at hx; subst hx; dsimp only; omega
   ·refine List.pairwise_append.2 ⟨hr.1, List.pairwise_singleton _ _, fun x hx y hy => ?_⟩
    simp at hy; subst hy
    exact hr.2.2 x hx z (by simp)
   ·intro x hx
    rcases List.mem_append.1 hx with hx | hx
    ·obtain ⟨b, h1, h2⟩ := h.low x (by simp [hx]); exact ⟨b, by simp [h1], h2⟩
    ·simp at hx; subst hx; exact ⟨a, by simp, hza⟩
   ·intro x hx
    rcases List.mem_append.1 hx with hx | hx
    ·obtain ⟨b, h1, h2⟩ := h.top x (by simp [hx]); exact ⟨b, by simp [h1], h2⟩
    ·simp at hx; subst hx; exact ⟨a, by simp, by dsimp only; omega⟩
   ·constructor
    ·rintro ⟨x, hx, h1⟩
     rcases List.mem_append.1 hx with hx | hx
     ·obtain ⟨b, k1, k2⟩ := (h.cov j).1 ⟨x, by simp [hx], h1⟩
      exact ⟨b, by simp [k1], k2⟩
     ·simp at hx; subst hx; dsimp only at h1
      by_cases hj : j < z.1 + z.2
      ·obtain ⟨b, k1, k2⟩ := (h.cov j).1 ⟨z, by simp, h1.1, hj⟩
       exact ⟨b, by simp [k1], k2⟩
      ·exact ⟨a, by simp, by omega, by omega⟩
    ·rintro ⟨b, hb, h1⟩
     rcases List.mem_append.1 hb with hb | hb
     ·obtain ⟨x, k1, k2⟩ := (h.cov j).2 ⟨b, hb, h1⟩
      rcases List.mem_append.1 k1 with k1 | k1
      ·exact ⟨x, by simp [k1], k2⟩
      ·simp at k1; subst k1
       exact ⟨(x.1, a + 4 - x.1), by simp, k2.1, by dsimp only; omega⟩
     ·simp at hb; subst hb
      exact ⟨(z.1, b + 4 - z.1), by simp, by dsimp only; omega, by dsimp only; omega⟩
  ·rename_i hc
   refine ⟨?_, ?_, ?_, ?_, fun j => ?_⟩
   ·intro x hx
    rcases List.mem_append.1 hx with hx | hx
    ·exact h.big x hx
    ·simp at hx; subst hx; simp
   ·refine List.pairwise_append.2 ⟨h.rise, List.pairwise_singleton _ _, fun x hx y hy => ?_⟩
    simp at hy; subst hy
    dsimp only
    rcases List.mem_append.1 hx with hx | hx
    ·have := hr.2.2 x hx z (by simp); omega
    ·simp at hx; subst hx; omega
   ·intro x hx
    rcases List.mem_append.1 hx with hx | hx
    ·obtain ⟨b, h1, h2⟩ := h.low x hx; exact ⟨b, by simp [h1], h2⟩
    ·simp at hx; subst hx; exact ⟨a, by simp, Int.le_refl _⟩
   ·intro x hx
    rcases List.mem_append.1 hx with hx | hx
    ·obtain ⟨b, h1, h2⟩ := h.top x hx; exact ⟨b, by simp [h1], h2⟩
    ·simp at hx; subst hx; exact ⟨a, by simp, Int.le_refl _⟩
   ·constructor
    ·rintro ⟨x, hx, h1⟩
     rcases List.mem_append.1 hx with hx | hx
     ·obtain ⟨b, k1, k2⟩ := (h.cov j).1 ⟨x, hx, h1⟩
      exact ⟨b, by simp [k1], k2⟩
     ·simp at hx; subst hx
      exact ⟨a, by simp, h1⟩
    ·rintro ⟨b, hb, h1⟩
     rcases List.mem_append.1 hb with hb | hb
     ·obtain ⟨x, k1, k2⟩ := (h.cov j).2 ⟨b, hb, h1⟩
      exact ⟨x, List.mem_append.2 (.inl k1), k2⟩
     ·simp at hb; subst hb
      exact ⟨(b, 4), by simp, h1⟩
theorem Rg.fold : ∀ {l : List Int} {p : List Int} {o : List (Int × Int)}, Rg o p → (p ++ l).Pairwise (fun x y => x ≤ y) → Rg (l.foldl rstep o) (p ++ l)
 | [], p, o, h, _ => by simpa using h
 | a :: r, p, o, h, hs => by
  have h1 : ∀ b ∈ p, b ≤ a := fun b hb => (List.pairwise_append.1 hs).2.2 b hb a (by simp)
  have := Rg.fold (l := r) (h.step h1) (by rw [List.append_assoc]; exact hs)
  rw [List.append_assoc] at this
  exact this
theorem Rg.sorted (l : List Int) : Rg (rfold (srt l)) (srt l) := by
 have := Rg.fold (l := srt l) (p := []) Rg.nil (by rw [List.nil_append]; exact srt_rise l)
 rwa [List.nil_append] at this
end Go.Proofs.Ytjjicajodjophaa

namespace Go.Proofs.Ytjjicajodjophaa
open Go.RowKit
def over (xs ys : List UInt8) : List UInt8 := ys.take xs.length ++ xs.drop ys.length
end Go.Proofs.Ytjjicajodjophaa

namespace Go.Proofs.Ytjjicajodjophaa
open Go.RowKit
abbrev Wrt := Int × List UInt8
abbrev Dsk := List (List UInt8) × List Wrt
abbrev SWr : Shp Wrt := (Shp.int .i64).pair Shp.octs
abbrev RdSec (w : World) (v : Value) (ss : List (List UInt8)) : Prop := RdS Shp.octs w v ss
abbrev RdC (w : World) (v : Value) (ws : List Wrt) : Prop := RdS SWr w v ws
theorem some_at {α : Type} (xs : List α) {k : Nat} (h : k < xs.length) : ∃ x, xs[k]? = some x ∧ x ∈ xs := ⟨xs[k], List.getElem?_eq_getElem h, List.getElem_mem h⟩
def DOk (d : Dsk) : Prop := 1 ≤ d.1.length ∧ d.1.length ≤ 1024 ∧ d.2.length ≤ 4096 ∧ (∀ x ∈ d.1, x.length = 64) ∧ ∀ y ∈ d.2, (0 ≤ y.1 ∧ y.1 < d.1.length) ∧ y.2.length = 64
instance (d : Dsk) : Decidable (DOk d) := by unfold DOk; infer_instance
def dhas (d : Dsk) (k : Int) : Prop := 0 ≤ k ∧ k < d.1.length
instance (d : Dsk) (k : Int) : Decidable (dhas d k) := by unfold dhas; infer_instance
theorem getD_some {α : Type} {xs : List α} {k : Nat} {x d : α} (h : xs[k]? = some x) : xs.getD k d = x := by rw [List.getD_eq_getElem?_getD, h]; rfl
end Go.Proofs.Ytjjicajodjophaa

namespace Go.Proofs.Ytjjicajodjophaa
open Go.RowKit
abbrev D3 : Type := Int × (Int × Int)
abbrev SD3 : Shp D3 := (Shp.int .i64).pair ((Shp.int .i64).pair (Shp.int .i64))
abbrev RdD (w : World) (v : Value) (l : List D3) : Prop := RdS SD3 w v l
theorem RdS.d3 {w : World} {a : Option Addr} {n cap : Nat} {l : List D3} (h : RdD w (.slice a n cap) l) {i : Nat} {x : D3} (hx : l[i]? = some x) :
  ∃ b off, a = some ⟨b, off, none⟩ ∧ w.cell? ⟨b, off + i * 3, none⟩ = some (.int .i64 x.1) ∧ w.cell? ⟨b, off + i * 3 + 1, none⟩ = some (.int .i64 x.2.1) ∧ w.cell? ⟨b, off + i * 3 + 2, none⟩ = some (.int .i64 x.2.2) := by
 obtain ⟨ao, c, e, h1, h2, h3, h4⟩ := h
 cases e
 rcases h4 with rfl | ⟨b, off, rfl, hc⟩
 ·simp at hx
 ·obtain ⟨c, ⟨c1, c2, rfl, k1, ⟨c3, c4, rfl, k3, k4⟩⟩, k2⟩ := hc i x hx
  have e1 : c1 = [Value.int .i64 x.1] := k1
  have e3 : c3 = [Value.int .i64 x.2.1] := k3
  have e4 : c4 = [Value.int .i64 x.2.2] := k4
  subst e1 e3 e4
  have hn : SD3.n = 3 := rfl
  rw [hn] at k2
  exact ⟨b, off, rfl, by simpa using k2 0 _ rfl, by simpa using k2 1 _ rfl, by simpa using k2 2 _ rfl⟩
def dcells (l : List D3) : List Value := l.flatMap fun x => [.int .i64 x.1, .int .i64 x.2.1, .int .i64 x.2.2]
theorem dcells_cons (x : D3) (l : List D3) : dcells (x :: l) = [Value.int .i64 x.1, .int .i64 x.2.1, .int .i64 x.2.2] ++ dcells l := rfl
theorem dcells_app (a b : List D3) : dcells (a ++ b) = dcells a ++ dcells b := by unfold dcells; rw [List.flatMap_append]
theorem dcells_one (l : List D3) : ∀ u ∈ dcells l, u.oneCell' = true := by
 intro u hu
 obtain ⟨x, _, hx⟩ := List.mem_flatMap.1 hu
 rcases List.mem_cons.1 hx with rfl | hx
 ·rfl
 ·rcases List.mem_cons.1 hx with rfl | hx
  ·rfl
  ·rcases List.mem_cons.1 hx with rfl | hx
   ·rfl
   ·cases hx
def OwnD (T B : Nat) (w : World) (v : Value) (l : List D3) : Prop := w.ownsRow B T 3 v l.length (dcells l)
theorem OwnD.own {T B : Nat} {w : World} {v : Value} {l : List D3} (h : OwnD T B w v l) : Own (Shp.list T SD3) B w [v] l := by
 have each : ∀ l : List D3, ownEach SD3 w [] (dcells l) l := by
  intro l
  induction l with
  | nil => exact ⟨rfl, rfl⟩
  | cons x r ih => exact ⟨[], [], [.int .i64 x.1, .int .i64 x.2.1, .int .i64 x.2.2], dcells r, rfl, rfl, ⟨[.int .i64 x.1], [.int .i64 x.2.1, .int .i64 x.2.2], [], [], rfl, rfl, ⟨rfl, rfl⟩, ⟨[.int .i64 x.2.1], [.int .i64 x.2.2], [], [], rfl, rfl, ⟨rfl, rfl⟩, ⟨rfl, rfl⟩⟩⟩, ih⟩
 refine ⟨v.ownBlock.toList, ⟨v, _, [], rfl, ?_, each l, by simp⟩, ?_, fun b hb => (World.ownsRow.lt h b (by simpa using hb)).1⟩
 ·exact rows_base h fun _ _ => Nat.zero_le _
 ·cases v.ownBlock <;> simp
theorem OwnD.rd {T B : Nat} {w : World} {v : Value} {l : List D3} (h : OwnD T B w v l) : RdD w v l := h.own.rdS
theorem OwnD.to {T B : Nat} {w w' : World} {v : Value} {l : List D3} (h : OwnD T B w v l) (hb : Below w.heap.size w w') : OwnD T B w' v l := rows_to h hb
theorem OwnD.nil (T B : Nat) (w : World) : OwnD T B w (.slice none 0 0) [] := World.ownsRow_nil _ _ _ _
theorem OwnD.mono {T B C : Nat} {w : World} {v : Value} {l : List D3} (h : OwnD T B w v l) (hC : C ≤ B) : OwnD T C w v l := rows_base h fun b hb => Nat.le_trans hC (World.ownsRow.lt h b hb).1
theorem run_append_d3 {T TL : Nat} (hu : Try.prog.underlying TL = some (.slice T)) (hinfo : (Try.prog.info? T).map (fun i => (i.zero, i.size, i.bytes)) = some (some (.agg #[.int .i64 0, .int .i64 0, .int .i64 0]), 3, 24)) (w : World) {B : Nat} {v : Value} {l : List D3} (h : OwnD T B w v l) (a b c : Int) (hl : l.length * 24 ≤ 140737488351232) (hB : B ≤ w.heap.size) :
  ∃ v' w', (Builtin.append_ #[TL, TL] TL #[v, .slice (some ⟨w.heap.size, 0, none⟩) 1 1]).run Try.prog (w.alloc (.cells #[.int .i64 a, .int .i64 b, .int .i64 c] T)) = .ok v' w' ∧ OwnD T B w' v' (l ++ [(a, b, c)]) ∧ Below B w w' ∧ w.heap.size ≤ w'.heap.size := by
 obtain ⟨i0, hi, hz0, hz1, hz2⟩ := info_parts hinfo
 have hc : ∀ j u, [Value.int .i64 a, .int .i64 b, .int .i64 c][j]? = some u → (w.alloc (.cells #[.int .i64 a, .int .i64 b, .int .i64 c] T)).cell? ((⟨w.heap.size, 0, none⟩ : Addr).add j) = some u := by
  intro j u hj
  have ea : (⟨w.heap.size, 0, none⟩ : Addr).add j = ⟨w.heap.size, j, none⟩ := by
   by_cases h0 : j = 0
   ·subst h0; simp [Addr.add]
   ·simp [Addr.add, h0]
  rw [ea, cell_of_row _ _ j _ _ (0, 0) (heap_alloc_last w _)]
  simpa using hj
 obtain ⟨v', w', hr, ho, hg, _⟩ := run_append_own (P := Try.prog) (w.alloc (.cells #[.int .i64 a, .int .i64 b, .int .i64 c] T)) B TL TL T i0 (.agg #[.int .i64 0, .int .i64 0, .int .i64 0]) 3 24 hu hi hz0 hz1 hz2 rfl (by decide) v l.length (dcells l) (World.ownsRow.alloc h _) ⟨w.heap.size, 0, none⟩ 1 1 [.int .i64 a, .int .i64 b, .int .i64 c] rfl hc (dcells_one [(a, b, c)]) (by unfold maxLen; omega) (by omega) (by simp; omega)
 have bb : Below B w (w.alloc (.cells #[.int .i64 a, .int .i64 b, .int .i64 c] T)) := (Below.refl _ _).alloc hB _
 refine ⟨v', w', hr, ?_, bb.grown hg (by simp; omega) (fun k hk => (World.ownsRow.lt h k hk).1), by have := hg.size; simp at this; omega⟩
 unfold OwnD
 rw [dcells_app, List.length_append]
 exact ho
def OwnP2 (T B : Nat) (w : World) (v : Value) (l : List Ext) : Prop := w.ownsRow B T 2 v l.length (ecells l)
theorem OwnP2.own {T B : Nat} {w : World} {v : Value} {l : List Ext} (h : OwnP2 T B w v l) : Own (Shp.list T SExt) B w [v] l := by
 have each : ∀ l : List Ext, ownEach SExt w [] (ecells l) l := by
  intro l
  induction l with
  | nil => exact ⟨rfl, rfl⟩
  | cons x r ih => exact ⟨[], [], [.int .i64 x.1, .int .i64 x.2], ecells r, rfl, rfl, ⟨[.int .i64 x.1], [.int .i64 x.2], [], [], rfl, rfl, ⟨rfl, rfl⟩, ⟨rfl, rfl⟩⟩, ih⟩
 refine ⟨v.ownBlock.toList, ⟨v, _, [], rfl, ?_, each l, by simp⟩, ?_, fun b hb => (World.ownsRow.lt h b (by simpa using hb)).1⟩
 ·exact rows_base h fun _ _ => Nat.zero_le _
 ·cases v.ownBlock <;> simp
theorem OwnP2.rd {T B : Nat} {w : World} {v : Value} {l : List Ext} (h : OwnP2 T B w v l) : RdE w v l := h.own.rdS
theorem OwnP2.to {T B : Nat} {w w' : World} {v : Value} {l : List Ext} (h : OwnP2 T B w v l) (hb : Below w.heap.size w w') : OwnP2 T B w' v l := rows_to h hb
theorem ecells_size (l : List Ext) (k : Nat) (z : Int) {x : Ext} (h : l[k]? = some x) : (ecells l).set (k * 2 + 1) (.int .i64 z) = ecells (l.set k (x.1, z)) := by
 induction l generalizing k with
 | nil => simp at h
 | cons y r ih =>
  cases k with
  | zero =>
   simp only [List.getElem?_cons_zero, Option.some.injEq] at h
   subst h
   rfl
  | succ k =>
   have := ih k (by simpa using h)
   rw [List.set_cons_succ, ecells_cons, ecells_cons, ← this, show (k + 1) * 2 + 1 = k * 2 + 1 + 1 + 1 by omega]
   rfl
theorem OwnE.size2 {B : Nat} {w : World} {g n c : Nat} {l : List Ext} (h : OwnE B w (.slice (some ⟨g, 0, none⟩) n c) l) {k : Nat} {x : Ext} (hk : l[k]? = some x) (z : Int) : OwnE B (w.setCell ⟨g, k * 2 + 1, none⟩ (.int .i64 z)) (.slice (some ⟨g, 0, none⟩) n c) (l.set k (x.1, z)) := by
 have hn : n = l.length := by
  rcases h.2 with ⟨h1, _⟩ | ⟨g', cap, cur, hv, _⟩
  ·cases h1
  ·simp only [Value.slice.injEq] at hv; exact hv.2.1
 subst hn
 unfold OwnE at *
 rw [List.length_set, ← ecells_size l k z hk]
 exact (World.ownsRow.stored h (k * 2 + 1) (.int .i64 z)).1
theorem ownE_rd2 {B : Nat} {w : World} {v : Value} {l : List Ext} (h : OwnE B w v l) : RdE w v l := (own_ext h).rdS
theorem OwnE.to2 {B : Nat} {w w' : World} {v : Value} {l : List Ext} (h : OwnE B w v l) (hb : Below w.heap.size w w') : OwnE B w' v l := rows_to h hb
theorem OwnE.block2 {B : Nat} {w : World} {v : Value} {l : List Ext} (h : OwnE B w v l) (hl : 0 < l.length) : ∃ b c, v = .slice (some ⟨b, 0, none⟩) l.length c ∧ B ≤ b ∧ l.length ≤ c := by
 rcases h.2 with ⟨_, h2⟩ | ⟨g, cap, cur, hv, hb, hg, hn, _⟩
 ·omega
 ·exact ⟨g, cap, hv, hb, hn⟩
theorem OwnE.cells2 {B : Nat} {w : World} {b c n : Nat} {l : List Ext} (h : OwnE B w (.slice (some ⟨b, 0, none⟩) n c) l) {k : Nat} {x : Ext} (hk : l[k]? = some x) : w.cell? ⟨b, k * 2, none⟩ = some (.int .i64 x.1) ∧ w.cell? ⟨b, k * 2 + 1, none⟩ = some (.int .i64 x.2) ∧ w.frozen? ⟨b, k * 2, none⟩ = false ∧ w.frozen? ⟨b, k * 2 + 1, none⟩ = false := by
 have hn : n = l.length := by
  rcases h.2 with ⟨h1, _⟩ | ⟨g', cap, cur, hv, _⟩
  ·cases h1
  ·simp only [Value.slice.injEq] at hv; exact hv.2.1
 subst hn
 obtain ⟨b', off, e, h0, h1⟩ := RdS.ext (ownE_rd2 h) hk
 simp only [Option.some.injEq, Addr.mk.injEq, and_true] at e
 obtain ⟨rfl, rfl⟩ := e
 exact ⟨by simpa using h0, by simpa using h1, World.ownsRow.frozenAt h _, World.ownsRow.frozenAt h _⟩
end Go.Proofs.Ytjjicajodjophaa

namespace Go.Proofs.Ytjjicajodjophaa
open Go.RowKit
def encI (n : Int) : Value := .int .i64 n
def OwnI (B : Nat) (w : World) (v : Value) (xs : List Int) : Prop := w.ownsRow B 3 1 v xs.length (xs.map encI)
theorem infoI : (Try.prog.info? 3).map (fun i => (i.zero, i.size, i.bytes)) = some (some (.int .i64 0), 1, 8) := by kernel_rfl
theorem OwnI.nil (B : Nat) (w : World) : OwnI B w (.slice none 0 0) [] := World.ownsRow_nil _ _ _ _
theorem OwnI.below {B : Nat} {w w' : World} {v : Value} {xs : List Int} (h : OwnI B w v xs) {C : Nat} (hC : w.heap.size ≤ C) (hb : Below C w w') : OwnI B w' v xs := by
 rcases h with ⟨h1, h2 | ⟨g, cap, cur, hv, hB, hg, hr⟩⟩
 ·exact ⟨h1, .inl h2⟩
 ·refine ⟨h1, .inr ⟨g, cap, cur, hv, hB, ?_, hr⟩⟩
  rw [hb.block g (by have := lt_of_block hg; omega)]; exact hg
theorem OwnI.mono {B C : Nat} {w : World} {v : Value} {xs : List Int} (h : OwnI B w v xs) (hC : C ≤ B) : OwnI C w v xs := by
 rcases h with ⟨h1, h2 | ⟨g, cap, cur, hv, hB, hr⟩⟩
 ·exact ⟨h1, .inl h2⟩
 ·exact ⟨h1, .inr ⟨g, cap, cur, hv, by omega, hr⟩⟩
theorem OwnI.from {B : Nat} {w : World} {v : Value} {xs : List Int} (h : OwnI B w v xs) : ∀ k, v.ownBlock = some k → B ≤ k := by
 intro k hk
 rcases h.2 with ⟨rfl, _⟩ | ⟨g, cap, cur, rfl, hb, _⟩
 ·cases hk
 ·simp only [Value.ownBlock, Option.some.injEq] at hk
  omega
theorem OwnI.slice {B : Nat} {w : World} {v : Value} {xs : List Int} (h : OwnI B w v xs) : ∃ ao cap, v = .slice ao xs.length cap ∧ xs.length ≤ cap ∧ cap ≤ maxLen ∧ (xs = [] ∨ ∃ g, ao = some ⟨g, 0, none⟩ ∧ ∀ i, i < xs.length → w.cell? ⟨g, i, none⟩ = some (.int .i64 (xs.getD i 0))) := by
 have h' := h
 rcases h.2 with ⟨rfl, h0⟩ | ⟨g, cap, cur, rfl, hb, hg, hn, hm, hs, ht⟩
 ·rw [h0]; exact ⟨none, 0, rfl, Nat.le_refl _, Nat.zero_le _, .inl (List.eq_nil_of_length_eq_zero h0)⟩
 ·refine ⟨_, cap, rfl, hn, hm, .inr ⟨g, rfl, fun i hi => ?_⟩⟩
  rw [h'.cellAt i (by omega)]
  simp [encI, hi]
end Go.Proofs.Ytjjicajodjophaa

namespace Go.Proofs.Ytjjicajodjophaa
open Go.RowKit
end Go.Proofs.Ytjjicajodjophaa

namespace Go.Proofs.Ytjjicajodjophaa
open Go.RowKit
theorem boxedN (w : World) (cs : Array Value) (t : TypeId) : ∃ u, u = w.alloc (.cells cs t) ∧ u.heap[w.heap.size]? = some (.cells cs t (0, 0)) ∧ Below w.heap.size w u ∧ u.heap.size = w.heap.size + 1 :=
 ⟨_, rfl, heap_alloc_last w _, (Below.refl _ _).alloc (Nat.le_refl _) _, by simp⟩
end Go.Proofs.Ytjjicajodjophaa

namespace Go.Proofs.Ytjjicajodjophaa
def dv : Nat := 2197175160
def st (m : Nat) : Nat := m / 2 ^^^ (if m % 2 = 1 then dv else 0)
def stn : Nat → Nat → Nat
 | 0, m => m
 | k + 1, m => stn k (st m)
def tn (r o : Nat) : Nat := stn 8 (r ^^^ o)
def reg (r : Nat) (xs : List UInt8) : Nat := xs.foldl (fun r x => tn r x.toNat) r
theorem ff_is : ∃ n : Nat, n = 4294967295 := ⟨_, rfl⟩
noncomputable def ff : Nat := Classical.choose ff_is
noncomputable def inv (r : Nat) : Nat := ff ^^^ r
noncomputable def ext (c : Nat) (xs : List UInt8) : Nat := inv (reg (inv c) xs)
noncomputable def sum (xs : List UInt8) : Nat := ext 0 xs
end Go.Proofs.Ytjjicajodjophaa

namespace Go.Proofs.Ytjjicajodjophaa
end Go.Proofs.Ytjjicajodjophaa

namespace Go.Proofs.Ytjjicajodjophaa
abbrev Blk := Int × Int × Int × Int × Int
def bls (b : Blk) : List Int := [b.1, b.2.1, b.2.2.1, b.2.2.2.1, b.2.2.2.2]
def bfit (n : Int) : Prop := 0 ≤ n ∧ n ≤ 1099511627776
instance (n : Int) : Decidable (bfit n) := by unfold bfit; infer_instance
def bok (b : Blk) : Prop := ∀ n ∈ bls b, bfit n
instance (b : Blk) : Decidable (bok b) := by unfold bok; infer_instance
def snum (x : List UInt8) (i : Nat) : Nat := numOf ((x.take (12 + 8 * i)).drop (4 + 8 * i))
def sfit (x : List UInt8) : Prop := ∀ i, i < 5 → snum x i ≤ 1099511627776
instance (x : List UInt8) : Decidable (sfit x) := by unfold sfit; infer_instance
end Go.Proofs.Ytjjicajodjophaa

namespace Go.Proofs.Ytjjicajodjophaa
end Go.Proofs.Ytjjicajodjophaa

namespace Go.Proofs.Ytjjicajodjophaa
open Go.RowKit
end Go.Proofs.Ytjjicajodjophaa

namespace Go.Proofs.Ytjjicajodjophaa
open Go.RowKit
end Go.Proofs.Ytjjicajodjophaa

namespace Go.Proofs.Ytjjicajodjophaa
open Go.RowKit
end Go.Proofs.Ytjjicajodjophaa

namespace Go.Proofs.Ytjjicajodjophaa
open Go.RowKit
def cv (c : Nat → Nat) : List Value := (List.range 256).map fun i => .int .u32 (c i : Nat)
def up (c : Nat → Nat) (i v : Nat) : Nat → Nat := fun j => if j = i then v else c j
theorem cv_up (c : Nat → Nat) (i v : Nat) : (cv c).set i (.int .u32 (v : Nat)) = cv (up c i v) := by
 apply List.ext_getElem
 ·simp [cv]
 ·intro j h1 h2
  simp only [cv, List.getElem_set, List.getElem_map, List.getElem_range, up]
  by_cases h : i = j
  ·simp [h]
  ·simp [h, Ne.symm h]
theorem cv_at (c : Nat → Nat) (i : Nat) (h : i < 256) : (cv c)[i]? = some (.int .u32 (c i : Nat)) := by
 simp [cv, h]
def Tab (B : Nat) (w : World) (g : Nat) (c : Nat → Nat) : Prop := w.ownsRow B 202 1 (.slice (some ⟨g, 0, none⟩) 256 256) 256 (cv c)
theorem Tab.cell {B : Nat} {w : World} {g : Nat} {c : Nat → Nat} (h : Tab B w g c) (i : Nat) (hi : i < 256) : w.cell? ⟨g, i, none⟩ = some (.int .u32 (c i : Nat)) := by
 rw [h.cellAt i (by omega), cv_at c i hi]
theorem Tab.frozen {B : Nat} {w : World} {g : Nat} {c : Nat → Nat} (h : Tab B w g c) (i : Nat) : w.frozen? ⟨g, i, none⟩ = false := h.frozenAt i
theorem Tab.set {B : Nat} {w : World} {g : Nat} {c : Nat → Nat} (h : Tab B w g c) (i v : Nat) : Tab B (w.setCell ⟨g, i, none⟩ (.int .u32 (v : Nat))) g (up c i v) := by
 unfold Tab; rw [← cv_up]; exact (h.stored i _).1
def low (k : Nat) : Nat := (bits .and .i64 (k : Int) (-(k : Int))).toNat
theorem Tab.row {B : Nat} {w : World} {g : Nat} {c : Nat → Nat} (h : Tab B w g c) : B ≤ g ∧ w.heap[g]? = some (.cells (cv c).toArray 202 (0, 0)) := by
 rcases h.2 with hn | ⟨g', cap, cur, hv, hb, hg, _, _, hs, ht⟩
 ·simp at hn
 ·simp only [Value.slice.injEq, Option.some.injEq, Addr.mk.injEq, true_and, and_true] at hv
  obtain ⟨rfl, rfl⟩ := hv
  refine ⟨hb, ?_⟩
  rw [hg]
  have : cur = (cv c).toArray := by
   apply Array.ext'
   rw [← ht, List.take_of_length_le (by simp; omega)]
  rw [this]
end Go.Proofs.Ytjjicajodjophaa

namespace Go.Proofs.Ytjjicajodjophaa
open Go.RowKit
end Go.Proofs.Ytjjicajodjophaa

namespace Go.Proofs.Ytjjicajodjophaa
open Go.RowKit
end Go.Proofs.Ytjjicajodjophaa

namespace Go.Proofs.Ytjjicajodjophaa
open Go.RowKit
end Go.Proofs.Ytjjicajodjophaa

namespace Go.Proofs.Ytjjicajodjophaa
open Go.RowKit
end Go.Proofs.Ytjjicajodjophaa

namespace Go.Proofs.Ytjjicajodjophaa
open Go.RowKit
end Go.Proofs.Ytjjicajodjophaa

namespace Go.Proofs.Ytjjicajodjophaa
open Go.RowKit
end Go.Proofs.Ytjjicajodjophaa

namespace Go.Proofs.Ytjjicajodjophaa
open Go.RowKit
end Go.Proofs.Ytjjicajodjophaa

namespace Go.Proofs.Ytjjicajodjophaa
open Go.RowKit
section
variable {P : Program} {ops : Array Oper} {md : Region.Mode} {Q : Exit → Act → World → Prop} {S : World → Prop}
def wpAnyM (P : Program) (md : Region.Mode) (ops : Array Oper) (Q : Exit → Act → World → Prop) (S : World → Prop) (m : Nat) (L : Array Bool → Act → World → Prop) : Nat → Array Bool → Act → World → Prop
 | 0, listed, a, w => L listed a w
 | f + 1, listed, a, w => Region.ready md ops listed ≠ [] ∧ ∀ i ∈ Region.ready md ops listed, i < m ∧ wpOp P ops Q i (fun a' w' => S w' ∧ wpAnyM P md ops Q S m L f (listed.setIfInBounds i true) a' w') a w
theorem wpAny_of_mid {m g : Nat} {L : Array Bool → Act → World → Prop} (hL : ∀ listed a w, L listed a w → wpAny P md ops Q g listed a w) :
  ∀ (f : Nat) (listed : Array Bool) (a : Act) (w : World), wpAnyM P md ops Q S m L f listed a w → wpAny P md ops Q (f + g) listed a w
 | 0, listed, a, w, h => by rw [Nat.zero_add]; exact hL _ _ _ h
 | f + 1, listed, a, w, h => by
  rw [show f + 1 + g = (f + g) + 1 by omega]
  exact ⟨fun h0 => absurd h0 h.1, fun i hi => wpOp_mono (fun a' w' h' => wpAny_of_mid hL f _ a' w' h'.2) (h.2 i hi).2⟩
theorem put_tmps (a : Act) (d : Option Tmp) (v : Value) : a.put d v = { a with tmps := (a.put d v).tmps } := by cases d <;> rfl
theorem wpAnyM_first {m i : Nat} {oi : Oper} {v : Value} {L : Array Bool → Act → World → Prop} (hi : ops[i]? = some oi) (hsel : ∀ (j : Nat) (o : Oper) cs b, ops[j]? = some o → o.op ≠ .select cs b)
  (hs : Region.sinkB md ops m = true) (hc : Region.chainB md ops m = true) (hm : m < ops.size) (him : i < m) (hQ : ∀ c a w, Q (.panic c) (a.put oi.dst v) w → Q (.panic c) a w)
  (hdone : ∀ listed a w, L listed a w → ∀ j ∈ Region.ready md ops listed, m ≤ j) :
  ∀ (f : Nat) (listed : Array Bool) (a : Act) (w : World), HeadInv md ops m listed →
   (∀ j oj, ops[j]? = some oj → j ≠ i → listed.getD j true = false → (∀ e ∈ oj.after, Region.binds md e = true → e.on ≠ i) → oi.apart ops oj = true) →
   i ∈ Region.ready md ops listed → YieldsIf P ops S oi v a → S w →
   wpAnyM P md ops Q S m L f (listed.setIfInBounds i true) (a.put oi.dst v) w → wpAnyM P md ops Q S m L (f + 1) listed a w := by
 intro f
 induction f with
 | zero =>
  intro listed a w inv _ hr hy hS H
  have hun := (mem_ready.1 hr).1
  refine ⟨fun h => (by rw [h] at hr; cases hr), fun j hj => ?_⟩
  have hjn : j < m := by
   rcases Nat.lt_or_ge j m with h | h
   ·exact h
   ·exact absurd hj (tail_waits hs hc hm inv _ i rfl him hun j h)
  refine ⟨hjn, ?_⟩
  by_cases hji : j = i
  ·subst hji; exact hy.wpOp hi hS ⟨hS, H⟩
  ·have := hdone _ _ _ H j (ready_mono hj hji)
   omega
 | succ f ih =>
  intro listed a w inv hfree hr hy hS H
  have hun := (mem_ready.1 hr).1
  refine ⟨fun h => (by rw [h] at hr; cases hr), fun j hj => ?_⟩
  have hjn : j < m := by
   rcases Nat.lt_or_ge j m with h | h
   ·exact h
   ·exact absurd hj (tail_waits hs hc hm inv _ i rfl him hun j h)
  refine ⟨hjn, ?_⟩
  by_cases hji : j = i
  ·subst hji; exact hy.wpOp hi hS ⟨hS, H⟩
  ·have h1 := (H.2 j (ready_mono hj hji)).2
   obtain ⟨hjun, oj, hoj, hall⟩ := mem_ready.1 hj
   have hnot : ∀ e ∈ oj.after, Region.binds md e = true → e.on ≠ i := fun e he hb heq => by
    have h1 := hall e he hb
    rw [heq, getD_both hun] at h1
    cases h1
   have h2 := wpOp_putIf hoj (hfree j oj hoj hji hjun hnot) (fun cs b => hsel i oi cs b hi) (fun cs b => hsel j oj cs b hoj) hQ hy h1
   have hfree' : ∀ k ok, ops[k]? = some ok → k ≠ i → (listed.setIfInBounds j true).getD k true = false →
     (∀ e ∈ ok.after, Region.binds md e = true → e.on ≠ i) → oi.apart ops ok = true := fun k ok hk hki hun hno => by
    refine hfree k ok hk hki ?_ hno
    by_cases hjk : j = k
    ·subst hjk; exact hjun
    ·rw [getD_set_ne true hjk] at hun; exact hun
   refine wpOp_mono (fun a' w' h3 => ⟨h3.2.1, ih (listed.setIfInBounds j true) a' w' (inv.set hj hjn) hfree' (ready_mono hr (Ne.symm hji)) h3.1 h3.2.1 ?_⟩) h2
   rw [Array.setIfInBounds_comm _ _ hji]
   exact h3.2.2
def wpTake (P : Program) (ops : Array Oper) (S : World → Prop) (Z : Act → Prop) : List Oper → Act → Prop
 | [], a => Z a
 | o :: l, a => ∃ v, YieldsIf P ops S o v a ∧ wpTake P ops S Z l (a.put o.dst v)
def wpListS (P : Program) (ops : Array Oper) (Q : Exit → Act → World → Prop) (S : World → Prop) (Z : Act → World → Prop) : List Oper → Act → World → Prop
 | [], a, w => Z a w
 | o :: l, a, w => if Region.wanted o (yielded ops a.tmps) = true then o.wp P a w (fun a' w' => S w' ∧ wpListS P ops Q S Z l a' w') Q else S w ∧ wpListS P ops Q S Z l (a.put o.dst undef) w
theorem wpAnyM_seq {m g : Nat} {Z : Act → World → Prop} : ∀ (l : List Oper) (k : Nat) (listed : Array Bool) (a : Act) (w : World), (∀ j, j < l.length → l[j]? = ops[k + j]?) → k + l.length = m →
  Region.seqB md ops (l.length + g) k listed = true → wpListS P ops Q S Z l a w → wpAnyM P md ops Q S m (fun listed' a' w' => Region.seqB md ops g m listed' = true ∧ Z a' w') l.length listed a w
 | [], k, listed, a, w, _, hk, hB, h => by
  have : k = m := by simpa using hk
  subst this
  exact ⟨by simpa using hB, h⟩
 | o :: l, k, listed, a, w, hl, hk, hB, h => by
  have h0 : ops[k]? = some o := by simpa using (hl 0 (by simp)).symm
  rw [List.length_cons, show l.length + 1 + g = (l.length + g) + 1 by omega] at hB
  simp only [Region.seqB, Bool.and_eq_true, decide_eq_true_eq] at hB
  refine ⟨fun h1 => (by rw [hB.1] at h1; cases h1), fun i hi => ?_⟩
  rw [hB.1] at hi
  have hik : i = k := by simpa using hi
  subst hik
  refine ⟨by simp only [List.length_cons] at hk; omega, ?_⟩
  have hw : wpOp P ops Q i (fun a' w' => S w' ∧ wpListS P ops Q S Z l a' w') a w := by
   unfold wpOp
   simp only [h0]
   unfold wpListS at h
   split
   ·rename_i hwd; rw [if_pos hwd] at h; exact .inl h
   ·rename_i hwd; rw [if_neg hwd] at h; exact h
  exact wpOp_mono (fun a' w' h' => ⟨h'.1, wpAnyM_seq l (i + 1) _ a' w' (fun j hj => by have := hl (j + 1) (by simp; omega); simpa [Nat.add_assoc, Nat.add_comm 1 j] using this) (by simp only [List.length_cons] at hk; omega) hB.2 h'.2⟩) hw
theorem wpAnyM_take {n m g f : Nat} {L : Array Bool → Act → World → Prop} {Z : Act → Prop} (hsel : Region.noSelect ops = true) (hs : Region.sinkB md ops m = true) (hc : Region.chainB md ops m = true) (hm : m < ops.size) (hnm : n ≤ m)
  (hQ : ∀ c (a : Act) t w, Q (.panic c) { a with tmps := t } w → Q (.panic c) a w) (hdone : ∀ listed a w, L listed a w → ∀ j ∈ Region.ready md ops listed, m ≤ j) {w : World} (hS : S w)
  (hZ : ∀ listed a, Region.seqB md ops g n listed = true → HeadInv md ops m listed → Z a → wpAnyM P md ops Q S m L f listed a w) :
  ∀ (l : List Oper) (k : Nat) (listed : Array Bool) (a : Act), (∀ j, j < l.length → l[j]? = ops[k + j]?) → k + l.length = n → HeadInv md ops m listed →
  Region.lexHead md ops g l.length k listed = true → wpTake P ops S Z l a → wpAnyM P md ops Q S m L (l.length + f) listed a w
 | [], k, listed, a, _, hk, inv, hB, h => by
  have : k = n := by simpa using hk
  subst this
  rw [List.length_nil, Nat.zero_add]
  exact hZ _ _ (by simpa [Region.lexHead] using hB) inv h
 | o :: l, k, listed, a, hl, hk, inv, hB, h => by
  have h0 : ops[k]? = some o := by simpa using (hl 0 (by simp)).symm
  simp only [List.length_cons, Region.lexHead, Bool.and_eq_true] at hB
  obtain ⟨⟨hr, hf⟩, hB'⟩ := hB
  have hkn : k < m := by simp only [List.length_cons] at hk; omega
  have hr' : k ∈ Region.ready md ops listed := by simpa using hr
  obtain ⟨v, hy, hK⟩ := h
  rw [List.length_cons, show l.length + 1 + f = (l.length + f) + 1 by omega]
  exact wpAnyM_first h0 (Region.noSelect_spec hsel) hs hc hm hkn (fun c a w h => hQ c a (a.put o.dst v).tmps w (by rw [← put_tmps]; exact h)) hdone _ listed a w inv (Region.free_spec h0 hf) hr' hy hS
   (wpAnyM_take hsel hs hc hm hnm hQ hdone hS hZ l (k + 1) _ _ (fun j hj => by have := hl (j + 1) (by simp; omega); simpa [Nat.add_assoc, Nat.add_comm 1 j] using this) (by simp only [List.length_cons] at hk; omega) (inv.set hr' hkn) hB' hK)
def midB (md : Region.Mode) (ops : Array Oper) (n m : Nat) : Bool :=
 Region.noSelect ops && decide (n ≤ m) && decide (m < ops.size) && Region.sinkB md ops m && Region.chainB md ops m && Region.lexHead md ops (ops.size - n) n 0 (Array.replicate ops.size false)
theorem wp_region_mid {id : Nat} {a : Act} {w : World} {l : List Oper} (S : World → Prop) (n m : Nat) (hf : P.follows .mixedOrders = true) (hB : midB .any l.toArray n m = true)
  (hQ : ∀ c (a : Act) t w, Q (.panic c) { a with tmps := t } w → Q (.panic c) a w) (hS : S w.drew)
  (h : wpTake P l.toArray S (fun a' => wpListS P l.toArray Q S (fun a'' w'' => wpList P l.toArray Q (l.drop m) a'' w'') ((l.take m).drop n) a' w.drew) (l.take n) a) : (Code.region id l.toArray true).wp P Q a w := by
 simp only [midB, Bool.and_eq_true, decide_eq_true_eq] at hB
 obtain ⟨⟨⟨⟨⟨hsel, hnm⟩, hm⟩, hs⟩, hc⟩, hlex⟩ := hB
 have hm' : m < l.length := by simpa using hm
 have hln : (l.take n).length = n := by simp; omega
 have hlm : ((l.take m).drop n).length = m - n := by simp; omega
 have hld : (l.drop m).length = l.length - m := by simp
 have inv0 : HeadInv .any l.toArray m (Array.replicate l.toArray.size false) :=
  ⟨by simp, fun j oj _ hl => (by rw [getD_replicate_false] at hl; cases hl), fun t _ ht => getD_in (by simpa using ht) (getD_replicate_false _ _)⟩
 have H := wpAnyM_take (md := .any) (g := l.toArray.size - n) (f := m - n) (L := fun listed' a' w' => Region.seqB .any l.toArray (l.length - m) m listed' = true ∧ wpList P l.toArray Q (l.drop m) a' w') hsel hs hc hm hnm hQ
  (fun listed a w hL => seqB_ready hL.1) (w := w.drew) hS (fun listed a hseq inv hz => by
   have hsz : l.toArray.size - n = ((l.take m).drop n).length + (l.length - m) := by rw [hlm]; simp; omega
   rw [hsz] at hseq
   have := wpAnyM_seq (md := .any) (m := m) ((l.take m).drop n) n listed a w.drew (fun j hj => by
    rw [hlm] at hj
    rw [List.getElem?_drop, List.getElem?_take, if_pos (by omega)]
    simp) (by rw [hlm]; omega) hseq hz
   rwa [hlm] at this) (l.take n) 0 _ a (fun j hj => by
    rw [hln] at hj
    rw [List.getElem?_take, if_pos hj]; simp) (by rw [hln]; omega) inv0 (by rw [hln]; exact hlex) h
 refine wp_region_any hf ?_
 have := wpAny_of_mid (Q := Q) (g := l.length - m) (fun listed a' w' hL => by
  have := wpAny_of_seq (md := .any) (Q' := Q) (l.drop m) m listed a' w' (fun j => by simp [List.getElem?_drop]) (by rw [hld]; exact hL.1) hL.2
  rwa [hld] at this) _ _ _ _ H
 rw [hln, show n + (m - n) + (l.length - m) = l.toArray.size by simp; omega] at this
 exact this
theorem take_one {o : Oper} {l : List Oper} {a : Act} {Z : Act → Prop} {v : Value} (hw : Region.wanted o (yielded ops a.tmps) = true) (hy : ∀ w, S w → (execOp a.eval o).run P w = .ok (.value v) w) (h : wpTake P ops S Z l (a.put o.dst v)) : wpTake P ops S Z (o :: l) a :=
 ⟨v, .inl ⟨hw, hy⟩, h⟩
end
end Go.Proofs.Ytjjicajodjophaa

namespace Go.Proofs.Ytjjicajodjophaa
open Go.RowKit
theorem mixed : Try.prog.follows .mixedOrders = true := by kernel_rfl
end Go.Proofs.Ytjjicajodjophaa

namespace Go.Proofs.Ytjjicajodjophaa
open Go.RowKit
end Go.Proofs.Ytjjicajodjophaa

namespace Go.Proofs.Ytjjicajodjophaa
open Go.RowKit
end Go.Proofs.Ytjjicajodjophaa

namespace Go.Proofs.Ytjjicajodjophaa
open Go.RowKit
end Go.Proofs.Ytjjicajodjophaa

namespace Go.Proofs.Ytjjicajodjophaa
open Go.RowKit
end Go.Proofs.Ytjjicajodjophaa

namespace Go.Proofs.Ytjjicajodjophaa
open Go.RowKit
end Go.Proofs.Ytjjicajodjophaa

namespace Go.Proofs.Ytjjicajodjophaa
open Go.RowKit
end Go.Proofs.Ytjjicajodjophaa

namespace Go.Proofs.Ytjjicajodjophaa
open Go.RowKit
end Go.Proofs.Ytjjicajodjophaa

namespace Go.Proofs.Ytjjicajodjophaa
open Go.RowKit
section
variable {F : Fence} {n m : Nat} {P : Program}
end
end Go.Proofs.Ytjjicajodjophaa

namespace Go.Proofs.Ytjjicajodjophaa
open Go.RowKit
end Go.Proofs.Ytjjicajodjophaa

namespace Go.Proofs.Ytjjicajodjophaa
open Go.RowKit
end Go.Proofs.Ytjjicajodjophaa

namespace Go.Proofs.Ytjjicajodjophaa
open Go.RowKit
end Go.Proofs.Ytjjicajodjophaa

namespace Go.Proofs.Ytjjicajodjophaa
open Go.RowKit Go.Shelf
attribute [local go_sem] Oper.semAt_some
def KpC (V V' : World) : Prop := V.heap.size ≤ V'.heap.size ∧ ∀ (k : Nat) (o : Obj), V.heap[k]? = some o → o.isCells = true → V'.heap[k]? = some o
theorem KpC.trans {X Y Z : World} (h : KpC X Y) (k : KpC Y Z) : KpC X Z := ⟨Nat.le_trans h.1 k.1, fun i o h1 h2 => k.2 i o (h.2 i o h1 h2) h2⟩
theorem KpC.put (W : World) (l : Nat) (o o' : Obj) (h : W.heap[l]? = some o) (ho : o.isCells = false) : KpC W (W.putObj l o') := by
 refine ⟨by simp [World.putObj], fun k q hq hc => ?_⟩
 rw [World.putObj_heap_other (by rintro rfl; rw [h] at hq; cases hq; rw [ho] at hc; cases hc)]
 exact hq
theorem KpC.alloc (W : World) (o : Obj) : KpC W (W.alloc o) := ⟨by simp, fun k q hq _ => (Below.heap_alloc W o k (Array.getElem?_eq_some_iff.1 hq).1).trans hq⟩
theorem cell_obj {w : World} {b i : Nat} {v : Value} (h : w.cell? ⟨b, i, none⟩ = some v) : ∃ o, w.heap[b]? = some o ∧ o.isCells = true := by
 have hb := cell_lt h
 refine ⟨w.heap[b], Array.getElem?_eq_getElem hb, ?_⟩
 have e : w.heap[b]? = some w.heap[b] := Array.getElem?_eq_getElem hb
 unfold World.cell? at h
 rw [show (⟨b, i, none⟩ : Addr).block = b from rfl, e] at h
 cases hh : w.heap[b] with
 | cells c t f => rfl
 | _ => rw [hh] at h; simp at h
theorem KpC.cell {V V' : World} (h : KpC V V') {b i : Nat} {v : Value} (hc : V.cell? ⟨b, i, none⟩ = some v) : V'.cell? ⟨b, i, none⟩ = some v := by
 obtain ⟨o, h1, h2⟩ := cell_obj hc
 rw [World.cell?_of_block (w := V) (show V'.heap[b]? = V.heap[b]? from (h.2 b o h1 h2).trans h1.symm)]
 exact hc
theorem KpC.rd {V V' : World} (h : KpC V V') {v : Value} {xs : List UInt8} (hr : Rd V v xs) : Rd V' v xs := by
 obtain ⟨ao, cap, rfl, h1, h2, h3, h4⟩ := hr
 refine ⟨ao, cap, rfl, h1, h2, h3, ?_⟩
 rcases h4 with h4 | ⟨b, off, rfl, hc⟩
 ·exact .inl h4
 ·exact .inr ⟨b, off, rfl, fun i hi => h.cell (hc i hi)⟩
theorem KpC.own {V V' : World} (h : KpC V V') {B : Nat} {v : Value} {xs : List UInt8} (o : OwnB B V v xs) : OwnB B V' v xs := by
 rcases o with ⟨h1, h2 | ⟨g, cap, cur, hv, hB, hg, hr⟩⟩
 ·exact ⟨h1, .inl h2⟩
 ·exact ⟨h1, .inr ⟨g, cap, cur, hv, hB, h.2 g _ hg rfl, hr⟩⟩
end Go.Proofs.Ytjjicajodjophaa

namespace Go.Proofs.Ytjjicajodjophaa
abbrev Frm := UInt8 × List UInt8
end Go.Proofs.Ytjjicajodjophaa

namespace Go.Proofs.Ytjjicajodjophaa
end Go.Proofs.Ytjjicajodjophaa

namespace Go.Proofs.Ytjjicajodjophaa
abbrev Wlg := List Wrt × Int × List (List UInt8)
def wzero : Wlg := ([], 0, [])
def widx (n : Int) : Prop := 0 ≤ n ∧ n ≤ 1099511627776
instance (n : Int) : Decidable (widx n) := inferInstanceAs (Decidable (_ ∧ _))
abbrev Wst := (List Wrt × Int) × List (List UInt8)
end Go.Proofs.Ytjjicajodjophaa

namespace Go.Proofs.Ytjjicajodjophaa
end Go.Proofs.Ytjjicajodjophaa

namespace Go.Proofs.Ytjjicajodjophaa
end Go.Proofs.Ytjjicajodjophaa

namespace Go.Proofs.Ytjjicajodjophaa
end Go.Proofs.Ytjjicajodjophaa

namespace Go.Proofs.Ytjjicajodjophaa
end Go.Proofs.Ytjjicajodjophaa

namespace Go.Proofs.Ytjjicajodjophaa
def ptr (below : Int) : List Wrt → List Wrt
 | [] => []
 | [s] => [s]
 | s :: t :: r => if s.1 = t.1 ∨ t.1 ≤ below then ptr below (t :: r) else s :: ptr below (t :: r)
end Go.Proofs.Ytjjicajodjophaa

namespace Go.Proofs.Ytjjicajodjophaa
open Go.RowKit
def fcells : List Frm → List Value → List Value
 | f :: fs, sv :: svs => .int .u8 (f.1.toNat : Int) :: sv :: fcells fs svs
 | _, _ => []
theorem fcells_at : ∀ (fs : List Frm) (svs : List Value) (i : Nat), svs.length = fs.length → i < fs.length →
  (fcells fs svs)[i * 2]? = some (.int .u8 ((fs.getD i (0, [])).1.toNat : Int)) ∧ (fcells fs svs)[i * 2 + 1]? = some (svs.getD i undef)
 | [], _, i, _, hi => by simp at hi
 | f :: fs, [], i, h, hi => by simp at h
 | f :: fs, sv :: svs, 0, h, hi => by simp [fcells]
 | f :: fs, sv :: svs, i + 1, h, hi => by
  have := fcells_at fs svs i (by simpa using h) (by simpa using hi)
  rw [show (i + 1) * 2 = i * 2 + 1 + 1 from by omega, show i * 2 + 1 + 1 + 1 = (i * 2 + 1) + 1 + 1 from rfl]
  simpa [fcells] using this
def OwnFs (T B : Nat) (w : World) (v : Value) (fs : List Frm) : Prop :=
 ∃ svs : List Value, svs.length = fs.length ∧ w.ownsRow B T 2 v fs.length (fcells fs svs) ∧ ∀ i, i < fs.length → OwnB B w (svs.getD i undef) (fs.getD i (0, [])).2
theorem OwnFs.nil (T B : Nat) (w : World) : OwnFs T B w (.slice none 0 0) [] := ⟨[], rfl, World.ownsRow_nil _ _ _ _, fun i hi => by simp at hi⟩
theorem OwnFs.below {T B : Nat} {w w' : World} {v : Value} {fs : List Frm} (h : OwnFs T B w v fs) {C : Nat} (hC : w.heap.size ≤ C) (hb : Below C w w') : OwnFs T B w' v fs := by
 obtain ⟨svs, h1, h2, h3⟩ := h
 refine ⟨svs, h1, ⟨h2.1, ?_⟩, fun i hi => (h3 i hi).below hC hb⟩
 rcases h2.2 with hn | ⟨g, cap, cur, hv, hgb, hg, r⟩
 ·exact .inl hn
 ·refine .inr ⟨g, cap, cur, hv, hgb, ?_, r⟩
  rw [hb.block g (by
   by_cases hlt : g < w.heap.size
   ·omega
   ·have : w.heap[g]? = none := by simp; omega
    rw [this] at hg; cases hg)]
  exact hg
theorem OwnFs.mono {T B C : Nat} {w : World} {v : Value} {fs : List Frm} (h : OwnFs T B w v fs) (hC : C ≤ B) : OwnFs T C w v fs := by
 obtain ⟨svs, h1, h2, h3⟩ := h
 refine ⟨svs, h1, ⟨h2.1, ?_⟩, fun i hi => (h3 i hi).mono hC⟩
 rcases h2.2 with hn | ⟨g, cap, cur, hv, hgb, r⟩
 ·exact .inl hn
 ·exact .inr ⟨g, cap, cur, hv, by omega, r⟩
theorem OwnFs.from {T B : Nat} {w : World} {v : Value} {n : Nat} {xs : List Value} (h : w.ownsRow B T 2 v n xs) : ∀ k, v.ownBlock = some k → B ≤ k := by
 intro k hk
 rcases h.2 with ⟨rfl, _⟩ | ⟨g, cap, cur, rfl, hb, _⟩
 ·cases hk
 ·simp only [Value.ownBlock, Option.some.injEq] at hk
  omega
def RdFs (w : World) (v : Value) (fs : List Frm) : Prop :=
 ∃ ao cap, v = .slice ao fs.length cap ∧ fs.length ≤ cap ∧ cap ≤ maxLen ∧ (ao = none → cap = 0) ∧
  (fs = [] ∨ ∃ b off, ao = some ⟨b, off, none⟩ ∧ ∀ i, i < fs.length → w.cell? ⟨b, off + i * 2, none⟩ = some (.int .u8 ((fs.getD i (0, [])).1.toNat : Int)) ∧
   ∃ sv, w.cell? ⟨b, off + i * 2 + 1, none⟩ = some sv ∧ Rd w sv (fs.getD i (0, [])).2)
theorem RdFs.below {w w' : World} {v : Value} {fs : List Frm} (h : RdFs w v fs) {B : Nat} (hB : w.heap.size ≤ B) (hb : Below B w w') : RdFs w' v fs := by
 obtain ⟨ao, cap, rfl, h1, h2, h3, h4⟩ := h
 refine ⟨ao, cap, rfl, h1, h2, h3, ?_⟩
 rcases h4 with h4 | ⟨b, off, rfl, hc⟩
 ·exact .inl h4
 ·refine .inr ⟨b, off, rfl, fun i hi => ?_⟩
  obtain ⟨c1, sv, c2, c3⟩ := hc i hi
  exact ⟨(hb.cell (p := ⟨b, off + i * 2, none⟩) (by have := cell_lt c1; show b < B; omega)).trans c1, sv, (hb.cell (p := ⟨b, off + i * 2 + 1, none⟩) (by have := cell_lt c2; show b < B; omega)).trans c2, c3.below hB hb⟩
theorem RdFs.to {w w' : World} {v : Value} {fs : List Frm} (h : RdFs w v fs) (hb : Below w.heap.size w w') : RdFs w' v fs := h.below (Nat.le_refl _) hb
theorem RdFs.slice {w : World} {v : Value} {fs : List Frm} (h : RdFs w v fs) : ∃ ao cap, v = .slice ao fs.length cap := by
 obtain ⟨ao, cap, rfl, _⟩ := h; exact ⟨_, _, rfl⟩
theorem OwnFs.rd {T B : Nat} {w : World} {v : Value} {fs : List Frm} (h : OwnFs T B w v fs) : RdFs w v fs := by
 obtain ⟨svs, h1, h2, h3⟩ := h
 rcases h2.2 with ⟨rfl, h0⟩ | ⟨g, cap, cur, rfl, hgb, hg, hn, hm, hs, ht⟩
 ·have : fs = [] := List.eq_nil_of_length_eq_zero h0
  subst this
  exact ⟨none, 0, rfl, Nat.le_refl _, Nat.zero_le _, fun _ => rfl, .inl rfl⟩
 ·refine ⟨_, cap, rfl, hn, hm, (fun h => by cases h), .inr ⟨g, 0, rfl, fun i hi => ?_⟩⟩
  obtain ⟨c1, c2⟩ := fcells_at fs svs i h1 hi
  refine ⟨?_, svs.getD i undef, ?_, (h3 i hi).rd⟩
  ·rw [Nat.zero_add, h2.cellAt (i * 2) (by omega)]; exact c1
  ·rw [Nat.zero_add, h2.cellAt (i * 2 + 1) (by omega)]; exact c2
end Go.Proofs.Ytjjicajodjophaa

namespace Go.Proofs.Ytjjicajodjophaa
open Go.RowKit
def OwnV (B C : Nat) (w : World) (v : Value) (xss : List (List UInt8)) : Prop :=
 ∃ vs : List Value, vs.length = xss.length ∧ w.ownsRow B 62 1 v xss.length vs ∧ ∀ i, i < xss.length → OwnB C w (vs.getD i undef) (xss.getD i [])
theorem OwnV.nil (B C : Nat) (w : World) : OwnV B C w (.slice none 0 0) [] := ⟨[], rfl, World.ownsRow_nil _ _ _ _, fun i hi => by simp at hi⟩
theorem rows_below {w w' : World} {B e s n : Nat} {v : Value} {xs : List Value} (h : w.ownsRow B e s v n xs) {C : Nat} (hC : w.heap.size ≤ C) (hb : Below C w w') : w'.ownsRow B e s v n xs := by
 refine ⟨h.1, ?_⟩
 rcases h.2 with hn | ⟨g, cap, cur, hv, hgb, hg, r⟩
 ·exact .inl hn
 ·exact .inr ⟨g, cap, cur, hv, hgb, (hb.block g (by have := lt_of_block hg; omega)).trans hg, r⟩
theorem rows_mono {w : World} {B C e s n : Nat} {v : Value} {xs : List Value} (h : w.ownsRow B e s v n xs) (hC : C ≤ B) : w.ownsRow C e s v n xs := by
 refine ⟨h.1, ?_⟩
 rcases h.2 with hn | ⟨g, cap, cur, hv, hgb, r⟩
 ·exact .inl hn
 ·exact .inr ⟨g, cap, cur, hv, by omega, r⟩
theorem OwnV.below {B C : Nat} {w w' : World} {v : Value} {xss : List (List UInt8)} (h : OwnV B C w v xss) (hb : Below w.heap.size w w') : OwnV B C w' v xss := by
 obtain ⟨vs, h1, h2, h3⟩ := h
 exact ⟨vs, h1, rows_below h2 (Nat.le_refl _) hb, fun i hi => (h3 i hi).below (Nat.le_refl _) hb⟩
theorem OwnV.mono {B C B' C' : Nat} {w : World} {v : Value} {xss : List (List UInt8)} (h : OwnV B C w v xss) (hB : B' ≤ B) (hC : C' ≤ C) : OwnV B' C' w v xss := by
 obtain ⟨vs, h1, h2, h3⟩ := h
 exact ⟨vs, h1, rows_mono h2 hB, fun i hi => (h3 i hi).mono hC⟩
theorem OwnV.rd {B C : Nat} {w : World} {v : Value} {xss : List (List UInt8)} (h : OwnV B C w v xss) : RdSec w v xss := by
 obtain ⟨vs, hl, ⟨_, ⟨rfl, h0⟩ | ⟨g, cap, cur, rfl, hb, hg, hn, hm, hs, ht⟩⟩, he⟩ := h
 ·have : xss = [] := List.eq_nil_of_length_eq_zero h0
  subst this
  exact RdS.nil _ _
 ·refine ⟨_, cap, rfl, hn, hm, (fun e => by cases e), .inr ⟨g, 0, rfl, fun i x hx => ?_⟩⟩
  have hi : i < xss.length := (List.getElem?_eq_some_iff.1 hx).1
  have hr := (he i hi).rd
  rw [getD_some hx] at hr
  refine ⟨[vs.getD i undef], ⟨_, rfl, hr⟩, fun j u hj => ?_⟩
  match j, hj with
  | 0, hj =>
   simp only [List.getElem?_cons_zero, Option.some.injEq] at hj
   subst hj
   show w.cell? ⟨g, 0 + i * 1 + 0, none⟩ = _
   rw [cell_of_row w g _ cur _ (0, 0) hg]
   have e : cur[0 + i * 1 + 0]? = (cur.toList.take (xss.length * 1))[i]? := by
    rw [List.getElem?_take, if_pos (by omega)]; simp
   rw [e, ht]
   simp [hl, hi]
  | j + 1, hj => simp at hj
theorem OwnFs.at {T B : Nat} {w : World} {v : Value} {fs : List Frm} (h : OwnFs T B w v fs) {K : Nat} {f : Frm} (hK : fs[K]? = some f) :
  ∃ g cap sv, v = .slice (some ⟨g, 0, none⟩) fs.length cap ∧ w.cell? ⟨g, K * 2, none⟩ = some (.int .u8 (f.1.toNat : Int)) ∧ w.cell? ⟨g, K * 2 + 1, none⟩ = some sv ∧ OwnB B w sv f.2 := by
 obtain ⟨svs, h1, h2, h3⟩ := h
 have hi : K < fs.length := (List.getElem?_eq_some_iff.1 hK).1
 obtain ⟨c0, c1⟩ := fcells_at fs svs K h1 hi
 have h3' := h3 K hi
 rw [getD_some hK] at c0 h3'
 rcases h2.2 with ⟨_, h0⟩ | ⟨g, cap, cur, hv, hb, hg, hn, hm, hs, ht⟩
 ·omega
 ·subst hv
  refine ⟨g, cap, svs.getD K undef, rfl, ?_, ?_, h3'⟩
  ·rw [h2.cellAt (K * 2) (by omega)]; exact c0
  ·rw [h2.cellAt (K * 2 + 1) (by omega)]; exact c1
end Go.Proofs.Ytjjicajodjophaa

namespace Go.Proofs.Ytjjicajodjophaa
open Go.RowKit
end Go.Proofs.Ytjjicajodjophaa

namespace Go.Proofs.Ytjjicajodjophaa
open Go.RowKit
theorem _root_.Go.Proofs.Ytjjicajodjophaa.Rd.drew {w : World} {v : Value} {xs : List UInt8} (h : Rd w v xs) : Rd w.drew v xs := by
 obtain ⟨ao, cap, rfl, h1, h2, h3, h4⟩ := h
 exact ⟨ao, cap, rfl, h1, h2, h3, h4⟩
end Go.Proofs.Ytjjicajodjophaa

namespace Go.Proofs.Ytjjicajodjophaa
open Go.RowKit
end Go.Proofs.Ytjjicajodjophaa

namespace Go.Proofs.Ytjjicajodjophaa
open Go.RowKit
end Go.Proofs.Ytjjicajodjophaa

namespace Go.Proofs.Ytjjicajodjophaa
open Go.RowKit
end Go.Proofs.Ytjjicajodjophaa

namespace Go.Proofs.Ytjjicajodjophaa
open Go.RowKit
end Go.Proofs.Ytjjicajodjophaa

namespace Go.Proofs.Ytjjicajodjophaa
open Go.RowKit
end Go.Proofs.Ytjjicajodjophaa

namespace Go.Proofs.Ytjjicajodjophaa
open Go.RowKit
end Go.Proofs.Ytjjicajodjophaa

namespace Go.Proofs.Ytjjicajodjophaa
open Go.RowKit
end Go.Proofs.Ytjjicajodjophaa

namespace Go.Proofs.Ytjjicajodjophaa
open Go.RowKit
end Go.Proofs.Ytjjicajodjophaa

namespace Go.Proofs.Ytjjicajodjophaa
open Go.RowKit
def KeepT (e : Nat) (w w' : World) : Prop := ∀ (b : Nat) (cur : Array Value) (fr : Nat × Nat), w.heap[b]? = some (Obj.cells cur e fr) → w'.heap[b]? = some (Obj.cells cur e fr)
theorem KeepT.refl (e : Nat) (w : World) : KeepT e w w := fun _ _ _ h => h
theorem KeepT.trans {e : Nat} {a b c : World} (h : KeepT e a b) (k : KeepT e b c) : KeepT e a c := fun i cur fr x => k i cur fr (h i cur fr x)
theorem KeepT.below {e : Nat} {w w' : World} (h : Below w.heap.size w w') : KeepT e w w' := fun b cur fr x => (h.block b (lt_of_block x)).trans x
theorem KeepT.grown {e e' B s n : Nat} {w w' : World} {v : Value} {xs : List Value} (hr : w.ownsRow B e' s v n xs) (hg : w.grownBy w' v.ownBlock) (hne : e ≠ e') : KeepT e w w' := fun b cur fr x => by
 refine (hg.block b (lt_of_block x) fun h => ?_).trans x
 rcases hr.2 with ⟨rfl, _⟩ | ⟨g, cap, cur', rfl, _, hg', _⟩
 ·cases h
 ·simp only [Value.ownBlock, Option.some.injEq] at h
  subst h
  rw [x] at hg'
  simp only [Option.some.injEq, Obj.cells.injEq] at hg'
  exact hne hg'.2.1
theorem KeepT.set {e t : Nat} {w : World} {a : Addr} {cs : Array Value} {fr : Nat × Nat} (h : w.heap[a.block]? = some (.cells cs t fr)) (hne : e ≠ t) (u : Value) : KeepT e w (w.setCell a u) := fun b cur fr' x => by
 refine (Below.heap_setCell _ _ _ _ fun h' => ?_).trans x
 rw [h', h] at x
 simp only [Option.some.injEq, Obj.cells.injEq] at x
 exact hne x.2.1.symm
theorem rows_keepT {w w' : World} {B e s n : Nat} {v : Value} {xs : List Value} (h : w.ownsRow B e s v n xs) (k : KeepT e w w') : w'.ownsRow B e s v n xs := by
 refine ⟨h.1, ?_⟩
 rcases h.2 with hn | ⟨g, cap, cur, hv, hgb, hg, r⟩
 ·exact .inl hn
 ·exact .inr ⟨g, cap, cur, hv, hgb, k _ _ _ hg, r⟩
end Go.Proofs.Ytjjicajodjophaa

namespace Go.Proofs.Ytjjicajodjophaa
open Go.RowKit
def wcells : List Wrt → List Value → List Value
 | f :: fs, sv :: svs => .int .i64 f.1 :: sv :: wcells fs svs
 | _, _ => []
theorem wcells_at : ∀ (fs : List Wrt) (svs : List Value) (i : Nat), svs.length = fs.length → i < fs.length →
  (wcells fs svs)[i * 2]? = some (.int .i64 (fs.getD i (0, [])).1) ∧ (wcells fs svs)[i * 2 + 1]? = some (svs.getD i undef)
 | [], _, i, _, hi => by simp at hi
 | f :: fs, [], i, h, hi => by simp at h
 | f :: fs, sv :: svs, 0, h, hi => by simp [wcells]
 | f :: fs, sv :: svs, i + 1, h, hi => by
  have := wcells_at fs svs i (by simpa using h) (by simpa using hi)
  rw [show (i + 1) * 2 = i * 2 + 1 + 1 from by omega, show i * 2 + 1 + 1 + 1 = (i * 2 + 1) + 1 + 1 from rfl]
  simpa [wcells] using this
def OwnW (T B : Nat) (w : World) (v : Value) (ws : List Wrt) : Prop :=
 ∃ svs : List Value, svs.length = ws.length ∧ w.ownsRow B T 2 v ws.length (wcells ws svs) ∧ ∀ i, i < ws.length → OwnB 0 w (svs.getD i undef) (ws.getD i (0, [])).2
theorem OwnW.nil (T B : Nat) (w : World) : OwnW T B w (.slice none 0 0) [] := ⟨[], rfl, World.ownsRow_nil _ _ _ _, fun i hi => by simp at hi⟩
theorem OwnW.keepT {T B : Nat} {w w' : World} {v : Value} {ws : List Wrt} (h : OwnW T B w v ws) (k1 : KeepT 5 w w') (k2 : KeepT T w w') : OwnW T B w' v ws := by
 obtain ⟨vs, h1, h2, h3⟩ := h
 exact ⟨vs, h1, rows_keepT h2 k2, fun i hi => rows_keepT (h3 i hi) k1⟩
theorem OwnW.rd {T B : Nat} {w : World} {v : Value} {ws : List Wrt} (h : OwnW T B w v ws) : RdC w v ws := by
 obtain ⟨svs, h1, h2, h3⟩ := h
 rcases h2.2 with ⟨rfl, h0⟩ | ⟨g, cap, cur, rfl, hgb, hg, hn, hm, hs, ht⟩
 ·have : ws = [] := List.eq_nil_of_length_eq_zero h0
  subst this
  exact RdS.nil _ _
 ·refine ⟨_, cap, rfl, hn, hm, (fun h => by cases h), .inr ⟨g, 0, rfl, fun i x hx => ?_⟩⟩
  have hi : i < ws.length := (List.getElem?_eq_some_iff.1 hx).1
  obtain ⟨c1, c2⟩ := wcells_at ws svs i h1 hi
  have hr := (h3 i hi).rd
  rw [getD_some hx] at c1 hr
  refine ⟨[.int .i64 x.1, svs.getD i undef], ⟨[_], [_], rfl, rfl, _, rfl, hr⟩, fun j u hj => ?_⟩
  match j, hj with
  | 0, hj =>
   simp only [List.getElem?_cons_zero, Option.some.injEq] at hj
   subst hj
   show w.cell? ⟨g, 0 + i * 2 + 0, none⟩ = _
   rw [Nat.zero_add, Nat.add_zero, h2.cellAt (i * 2) (by omega)]; exact c1
  | 1, hj =>
   simp only [List.getElem?_cons_succ, List.getElem?_cons_zero, Option.some.injEq] at hj
   subst hj
   show w.cell? ⟨g, 0 + i * 2 + 1, none⟩ = _
   rw [Nat.zero_add, h2.cellAt (i * 2 + 1) (by omega)]; exact c2
  | j + 2, hj => simp at hj
end Go.Proofs.Ytjjicajodjophaa

namespace Go.Proofs.Ytjjicajodjophaa
open Go.RowKit
section
variable {P : Program} {ops : Array Oper} {md : Region.Mode} {Q : Exit → Act → World → Prop} {S : World → Prop}
end
end Go.Proofs.Ytjjicajodjophaa

namespace Go.Proofs.Ytjjicajodjophaa
open Go.RowKit
end Go.Proofs.Ytjjicajodjophaa

namespace Go.Proofs.Ytjjicajodjophaa
open Go.RowKit
end Go.Proofs.Ytjjicajodjophaa

namespace Go.Proofs.Ytjjicajodjophaa
open Go.ChangeShapes Go.WideShapes Go.ChangeAt Go.RowKit
theorem own : ownKnob Try.prog.godebug = none := by kernel_rfl
theorem laidOut : laidOutB Try.prog = true := by kernel_rfl
def octs (zs : List Int) : List UInt8 := zs.map fun z => UInt8.ofNat z.toNat
theorem bulk_pos {H : Type} (d : DataW H) : 1 ≤ Rows.uptoBulk d := by
 cases d with
 | lit l => cases l <;> simp [Rows.uptoBulk]
 | nil => simp [Rows.uptoBulk]
 | ptr d => simp [Rows.uptoBulk]
 | slice el sp => simp [Rows.uptoBulk]
 | agg ps => simp [Rows.uptoBulk]
 | iface t d => simp [Rows.uptoBulk]
 | map es => simp [Rows.uptoBulk]
 | held h => simp [Rows.uptoBulk]
end Go.Proofs.Ytjjicajodjophaa

namespace Go.Proofs.Ytjjicajodjophaa
open Go.ChangeShapes Go.WideShapes Go.ChangeAt Go.RowKit
structure Opens {α : Type} (s : Shp α) (t : TypeId) (fits : α → Prop) (bulk : α → Nat) : Prop where
 cells : Try.prog.cellsOf t = s.n
 opened : ∀ {H : Type} {enc : TypeId × Value → H} {W : World} {fuel : Nat} {cs : List Value} {x : DataW H × List MemPlace}, DataW.trod enc Try.prog W 0 (fun _ => true) true fuel t cs = some x →
  ∃ a, s.rd W cs a ∧ ((∀ n ∈ x.1.weights Try.prog t, n ≤ reachBytes) → fits a) ∧ bulk a ≤ Rows.uptoBulk x.1
theorem opens_int {k : IntKind} {t : TypeId} (ht : Try.prog.underlying t = some (.int k)) (hc : Try.prog.cellsOf t = 1) : Opens (Shp.int k) t (fun _ => True) (fun _ => 1) := by
 refine ⟨hc, fun {H enc W fuel cs x} h => ?_⟩
 obtain ⟨z, hz, _, _⟩ := DataW.trod_int ht h
 exact ⟨z, hz, fun _ => trivial, bulk_pos _⟩
theorem choose_list {α : Type} {p : Nat → α → Prop} : ∀ n : Nat, (∀ i, i < n → ∃ x, p i x) → ∃ xs : List α, xs.length = n ∧ ∀ i x, xs[i]? = some x → p i x
 | 0, _ => ⟨[], rfl, fun i x h => by simp at h⟩
 | n + 1, h => by
  obtain ⟨xs, h1, h2⟩ := choose_list n fun i hi => h i (by omega)
  obtain ⟨x, hx⟩ := h n (by omega)
  refine ⟨xs ++ [x], by simp [h1], fun i y hy => ?_⟩
  by_cases e : i < n
  ·rw [List.getElem?_append_left (by omega)] at hy
   exact h2 i y hy
  ·rw [List.getElem?_append_right (by omega)] at hy
   have hi : i - xs.length = 0 := by
    have := (List.getElem?_eq_some_iff.1 hy).1
    simp at this; omega
   rw [hi] at hy
   simp at hy; subst hy
   obtain rfl : i = n := by omega
   exact hx
theorem weightsAll_mem {H : Type} {e : TypeId} {d : DataW H} {l : List (DataW H)} (hd : d ∈ l) {n : Nat} (hn : n ∈ d.weights Try.prog e) : n ∈ DataW.weightsAll Try.prog e l := by
 induction l with
 | nil => cases hd
 | cons x r ih =>
  simp only [DataW.weightsAll, List.mem_append]
  rcases List.mem_cons.1 hd with h | h
  ·subst h; exact .inl hn
  ·exact .inr (ih h)
theorem bulk_sum {H α : Type} (bulk : α → Nat) : ∀ (xs : List α) (D : Nat → DataW H), (∀ i x, xs[i]? = some x → bulk x ≤ Rows.uptoBulk (D i)) → (xs.map bulk).sum ≤ Rows.uptoBulkAll ((List.range xs.length).map D)
 | [], _, _ => by simp
 | x :: xs, D, h => by
  simp only [List.length_cons, List.range_succ_eq_map, List.map_cons, List.map_map, List.sum_cons, Rows.uptoBulkAll]
  have h0 := h 0 x rfl
  have := bulk_sum bulk xs (D ∘ Nat.succ) fun i y hy => h (i + 1) y (by simpa using hy)
  omega
theorem Opens.list {α : Type} {s : Shp α} {e t T bts : Nat} {fits : α → Prop} {bulk : α → Nat} (o : Opens s e fits bulk) (ht : Try.prog.underlying t = some (.slice e)) (hc : Try.prog.cellsOf t = 1) (hb : Try.prog.bytesOf e = bts) (hn : 0 < s.n) :
  Opens (Shp.list T s) t (fun xs => xs.length * bts ≤ 140737488351232 ∧ ∀ x ∈ xs, fits x) (fun xs => (xs.map bulk).sum) := by
 refine ⟨hc, fun {H enc W fuel cs x} h => ?_⟩
 rcases Deep.open_slice ht h with ⟨rfl, rfl⟩ | ⟨a, len, cap, m, n, D, Pl, rfl, _, hl, hm, hmm, rfl, hx⟩
 ·exact ⟨[], ⟨_, rfl, RdS.nil _ _⟩, fun _ => ⟨by simp, fun x hx => by cases hx⟩, by simp⟩
 simp only [if_true] at hmm
 subst hmm
 have each : ∀ i, i < len → ∃ x, (∃ c, s.rd W c x ∧ ∀ j u, c[j]? = some u → W.cell? ((a.add (i * s.n)).add j) = some u) ∧ ((∀ n ∈ (D i).weights Try.prog e, n ≤ reachBytes) → fits x) ∧ bulk x ≤ Rows.uptoBulk (D i) := by
  intro i hi
  obtain ⟨cs', h1, h2⟩ := hx i (by omega)
  obtain ⟨x, hr, hf, hbk⟩ := o.opened h2
  rw [o.cells] at h1
  obtain ⟨_, hlen, hcell⟩ := World.cells?_some h1
  refine ⟨x, ⟨cs', hr, fun j u hj => ?_⟩, hf, hbk⟩
  have hjl : j < cs'.length := (List.getElem?_eq_some_iff.1 hj).1
  have := hcell j (by omega)
  rw [this]; exact hj
 obtain ⟨xs, h1, h2⟩ := choose_list len each
 refine ⟨xs, ⟨_, rfl, some a, m, by rw [h1], by omega, hm, (fun h => by cases h), ?_⟩, fun hw => ⟨?_, fun x hx' => ?_⟩, ?_⟩
 ·by_cases h0 : len = 0
  ·left; exact List.eq_nil_of_length_eq_zero (by omega)
  ·right
   obtain ⟨b, off, spot⟩ := a
   obtain ⟨x0, hx0⟩ : ∃ x0, xs[0]? = some x0 := ⟨_, List.getElem?_eq_getElem (by omega)⟩
   obtain ⟨⟨c, hr, hc'⟩, _⟩ := h2 0 x0 hx0
   have hcl := s.rd_n hr
   obtain ⟨u0, hu0⟩ : ∃ u0, c[0]? = some u0 := ⟨_, List.getElem?_eq_getElem (by omega)⟩
   have hspot : spot = none := by
    have := World.cell?_spot (hc' 0 u0 hu0)
    simpa [Addr.add] using this
   subst hspot
   refine ⟨b, off, rfl, fun i x hxi => ?_⟩
   obtain ⟨⟨c, hr, hc'⟩, _⟩ := h2 i x hxi
   refine ⟨c, hr, fun j u hj => ?_⟩
   have := hc' j u hj
   have ea : ((⟨b, off, none⟩ : Addr).add (i * s.n)).add j = ⟨b, off + i * s.n + j, none⟩ := by
    rw [Deep.add_add]
    unfold Addr.add
    split <;> simp_all [Nat.add_assoc]
   rw [ea] at this
   exact this
 ·have := hw ((len + (m - len)) * bts) (by simp [DataW.weights, ht, hb])
  simp only [reachBytes] at this
  rw [h1]
  have h3 : len * bts ≤ (len + (m - len)) * bts := Nat.mul_le_mul_right _ (by omega)
  omega
 ·obtain ⟨i, hi, e⟩ := List.getElem_of_mem hx'
  have hxi : xs[i]? = some x := by rw [List.getElem?_eq_getElem hi, e]
  refine (h2 i x hxi).2.1 fun n hn => hw n ?_
  simp only [DataW.weights, ht, List.mem_cons, List.mem_append]
  right; left
  exact weightsAll_mem (d := D i) (List.mem_map.2 ⟨i, List.mem_range.2 (by omega), rfl⟩) hn
 ·have := bulk_sum bulk xs D fun i x hxi => (h2 i x hxi).2.2
  rw [h1] at this
  simp only [Rows.uptoBulk]
  omega
theorem Opens.pair {α β : Type} {s : Shp α} {r : Shp β} {t : TypeId} {f0 f1 : Field} {fa : α → Prop} {fb : β → Prop} {ba : α → Nat} {bb : β → Nat} (o : Opens s f0.type fa ba) (q : Opens r f1.type fb bb) (ht : Try.prog.underlying t = some (.struct #[f0, f1])) (hc : Try.prog.cellsOf t = s.n + r.n) (h0 : f0.offset = 0) (h1 : f1.offset = s.n) :
  Opens (s.pair r) t (fun z => fa z.1 ∧ fb z.2) (fun z => ba z.1 + bb z.2) := by
 refine ⟨hc, fun {H enc W fuel cs x} h => ?_⟩
 obtain ⟨xs, k, hk, hxy, hlen, hxl, hf⟩ := DataW.trod_struct ht h
 match xs, hxl with
 | [y0, y1], _ =>
  have g0 := hf 0 f0 rfl
  have g1 := hf 1 f1 rfl
  rw [h0, o.cells, List.drop_zero] at g0
  rw [h1, q.cells] at g1
  obtain ⟨a, ra, fa', ba'⟩ := o.opened (x := y0) (by simpa using g0)
  obtain ⟨b, rb, fb', bb'⟩ := q.opened (x := y1) (by simpa using g1)
  have hcs : cs = cs.take s.n ++ (cs.drop s.n).take r.n := by
   have : (cs.drop s.n).take r.n = cs.drop s.n := List.take_of_length_le (by rw [List.length_drop, hlen, hc]; omega)
   rw [this, List.take_append_drop]
  obtain ⟨d, p⟩ := x
  simp only [Prod.mk.injEq] at hxy
  obtain ⟨rfl, _⟩ := hxy
  refine ⟨(a, b), ⟨_, _, hcs, ra, rb⟩, fun hw => ⟨fa' fun n hn => hw n ?_, fb' fun n hn => hw n ?_⟩, ?_⟩
  ·simp only [DataW.weights, ht]
   exact DataW.weights_mem_each (j := 0) (t := f0.type) (d := y0.1) rfl rfl n hn
  ·simp only [DataW.weights, ht]
   exact DataW.weights_mem_each (j := 1) (t := f1.type) (d := y1.1) rfl rfl n hn
  ·simp only [List.map_cons, List.map_nil, Rows.uptoBulk, Rows.uptoBulkAll]
   omega
theorem reach_of {H : Type} {ts : List TypeId} {ds : List (DataW H)} (hsz : (DataW.weightsEach Try.prog ts ds).all (· ≤ reachBytes) = true) {j : Nat} {t : TypeId} {d : DataW H} (ht : ts[j]? = some t) (hd : ds[j]? = some d) : ∀ n ∈ d.weights Try.prog t, n ≤ reachBytes := by
 intro n hn
 have := List.all_eq_true.1 hsz _ (DataW.weights_mem_each ht hd _ hn)
 simpa using this
end Go.Proofs.Ytjjicajodjophaa

namespace Go.Proofs.Ytjjicajodjophaa
open Go.RowKit
end Go.Proofs.Ytjjicajodjophaa

namespace Go.Proofs.Ytjjicajodjophaa
open Go.RowKit
end Go.Proofs.Ytjjicajodjophaa

namespace Go.Proofs.Ytjjicajodjophaa
open Go.RowKit
abbrev RdK (w : World) (v : Value) (keep : List Bool) : Prop := RdS Shp.bool w v keep
theorem RdS.bl {w : World} {a : Option Addr} {n cap : Nat} {ks : List Bool} (h : RdK w (.slice a n cap) ks) {i : Nat} {x : Bool} (hx : ks[i]? = some x) :
  ∃ b off, a = some ⟨b, off, none⟩ ∧ w.cell? ⟨b, off + i, none⟩ = some (.bool x) := by
 obtain ⟨b, off, u, e, hc, e2⟩ := RdS.at1 rfl h hx
 have : [u] = [Value.bool x] := e2
 simp at this; subst this
 exact ⟨b, off, e, hc⟩
end Go.Proofs.Ytjjicajodjophaa

namespace Go.Proofs.Ytjjicajodjophaa
open Go.RowKit
theorem OwnB.set {B : Nat} {w : World} {v : Value} {xs : List UInt8} (h : OwnB B w v xs) {a : Addr} (ha : v.ownBlock ≠ some a.block) (u : Value) : OwnB B (w.setCell a u) v xs := by
 refine ⟨h.1, ?_⟩
 rcases h.2 with hn | ⟨g', cap, cur, hv, hb, hgg, r⟩
 ·exact .inl hn
 ·refine .inr ⟨g', cap, cur, hv, hb, (Below.heap_setCell _ _ _ _ (fun e => ha (by rw [hv]; simp [Value.ownBlock, e]))).trans hgg, r⟩
end Go.Proofs.Ytjjicajodjophaa

namespace Go.Proofs.Ytjjicajodjophaa
open Go.RowKit
end Go.Proofs.Ytjjicajodjophaa

namespace Go.Proofs.Ytjjicajodjophaa
open Go.ChangeShapes Go.WideShapes Go.ChangeAt Go.RowKit
abbrev SInts : Shp (List Int) := Shp.list 3 (Shp.int .i64)
theorem open_sints : Opens SInts 71 (fun xs => xs.length * 8 ≤ 140737488351232 ∧ ∀ x ∈ xs, True) (fun xs => (xs.map (fun _ => 1)).sum) :=
 (opens_int Try.underlying3 (by kernel_rfl)).list Try.underlying71 (by kernel_rfl) (by kernel_rfl) (by decide)
end Go.Proofs.Ytjjicajodjophaa
