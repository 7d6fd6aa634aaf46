/- Several texts in one: Base UMath QMath Own App Shp Sub Bx RMid NMath NBase NSame Step QA OwnI Fr ShpIn. -/
import Derived.WalkKit
import Derived.Deep.QuietTactic
import Derived.BigQuiet
import Derived.Laws.AppendOwnNone
import Derived.Test.YtnkbolgbpdjpcaaChecked
import Derived.Deep.AppendLies
import Derived.Deep.WholeRow
import Derived.Laws.IdiomStrings
import Derived.StillTail
import Derived.OrdersHeld
import Derived.Deep.RegionLaw
import Derived.Laws.Cover1
import Derived.Test.YtnkbolgbpdjpcaaRows
import Derived.ProofKit
import Derived.OpenShut
import Derived.ShutString
import Derived.ChangeOld
import Derived.Below
import Derived.SizedLaws
import Derived.JoinedCond
import Derived.Deep.Slices
import Derived.ChangeSame
import Derived.WideShapes
import Derived.ChangeArms
set_option linter.unusedVariables false
set_option linter.unusedSimpArgs false
namespace Go.Proofs.Ytnkbolgbpdjpcaa
open Go.RowKit
theorem hide {p : Prop} (h : p) : Hid p := h
def bt (xs : List UInt8) (i : Nat) : Int := ((xs.getD i 0).toNat : Int)
def Rd (w : World) (v : Value) (xs : List UInt8) : Prop :=
 ∃ ao cap, v = .slice ao xs.length cap ∧ xs.length ≤ cap ∧ cap ≤ maxLen ∧ (ao = none → cap = 0) ∧
  (xs = [] ∨ ∃ b off, ao = some ⟨b, off, none⟩ ∧ ∀ i, i < xs.length → w.cell? ⟨b, off + i, none⟩ = some (.int .u8 (bt xs i)))
theorem cell_lt {w : World} {b off : Nat} {v : Value} (h : w.cell? ⟨b, off, none⟩ = some v) : b < w.heap.size := by
 by_cases hb : b < w.heap.size
 ·exact hb
 ·have e : w.heap[b]? = none := by simp; omega
  simp [World.cell?, e] at h
theorem Rd.below {w w' : World} {v : Value} {xs : List UInt8} (h : Rd w v xs) {B : Nat} (hB : w.heap.size ≤ B) (hb : Below B w w') : Rd w' v xs := by
 obtain ⟨ao, cap, rfl, h1, h2, h3, h4⟩ := h
 refine ⟨ao, cap, rfl, h1, h2, h3, ?_⟩
 rcases h4 with h4 | ⟨b, off, rfl, hc⟩
 ·exact .inl h4
 ·refine .inr ⟨b, off, rfl, fun i hi => ?_⟩
  have := hc i hi
  rw [hb.cell (p := ⟨b, off + i, none⟩) (by have := cell_lt this; show b < B; omega)]
  exact this
theorem Rd.to {w w' : World} {v : Value} {xs : List UInt8} (h : Rd w v xs) (hb : Below w.heap.size w w') : Rd w' v xs := h.below (Nat.le_refl _) hb
theorem Rd.drewN {w : World} {v : Value} {xs : List UInt8} (h : Rd w v xs) (n : Nat) : Rd (w.drewN n) v xs := by
 obtain ⟨ao, cap, rfl, h1, h2, h3, h4⟩ := h
 exact ⟨ao, cap, rfl, h1, h2, h3, h4⟩
theorem below_drewN' (w : World) (n : Nat) (B : Nat) : Below B w (w.drewN n) := ⟨rfl, rfl, rfl, Nat.le_refl _, fun _ _ => rfl⟩
theorem Rd.slice {w : World} {v : Value} {xs : List UInt8} (h : Rd w v xs) : ∃ ao cap, v = .slice ao xs.length cap := by
 obtain ⟨ao, cap, rfl, _⟩ := h; exact ⟨_, _, rfl⟩
theorem ret_bool {a b : Bool} (h : a = b) : Ending.returned (.bool a) = .returned (.bool b) := by rw [h]
end Go.Proofs.Ytnkbolgbpdjpcaa

namespace Go.Proofs.Ytnkbolgbpdjpcaa
def srt (l : List Int) : List Int := l.mergeSort (fun x y => decide (x ≤ y))
theorem srt_perm (l : List Int) : (srt l).Perm l := List.mergeSort_perm l _
theorem srt_len (l : List Int) : (srt l).length = l.length := (srt_perm l).length_eq
theorem srt_rise (l : List Int) : (srt l).Pairwise (fun a b => a ≤ b) := by
 have h1 : (srt l).Pairwise (fun a b => decide (a ≤ b) = true) := List.pairwise_mergeSort (fun a b c h1 h2 => by simp only [decide_eq_true_eq] at *; omega) (fun a b => by simp only [Bool.or_eq_true, decide_eq_true_eq]; omega) l
 exact h1.imp fun {a b} h => by simpa using h
structure Rg (o : List (Int × Int)) (l : List Int) : Prop where
 big : ∀ x ∈ o, 4 ≤ x.2
 rise : o.Pairwise fun x y => x.1 + x.2 < y.1
 low : ∀ x ∈ o, ∃ b ∈ l, x.1 ≤ b
 top : ∀ x ∈ o, ∃ b ∈ l, x.1 + x.2 ≤ b + 4
 cov : ∀ j, (∃ x ∈ o, x.1 ≤ j ∧ j < x.1 + x.2) ↔ ∃ b ∈ l, b ≤ j ∧ j < b + 4
theorem Rg.nil : Rg [] [] := ⟨by simp, List.Pairwise.nil, by simp, by simp, by simp⟩
end Go.Proofs.Ytnkbolgbpdjpcaa

namespace Go.Proofs.Ytnkbolgbpdjpcaa
def qreach (l : List Int) (x : Int) : Nat := l.countP (fun y => decide (x ≤ y))
def qmaj (n : Nat) : Nat := n / 2 + 1
def qin (x : Int) : Prop := 0 ≤ x ∧ x ≤ 1099511627776
instance (x : Int) : Decidable (qin x) := inferInstanceAs (Decidable (_ ∧ _))
def qagr (l : List Int) : Int := (srt l).getD (l.length - qmaj l.length) 0
def qbad (n : Nat) : Prop := n < 1 ∨ 9 < n
instance (n : Nat) : Decidable (qbad n) := inferInstanceAs (Decidable (_ ∨ _))
def qag (l : List Int) : Int × Int := if qbad l.length then (0, 3) else if ∀ x ∈ l, qin x then (qagr l, 0) else (0, 4)
def qcm (l : List Int) (c f : Int) : Int × Int :=
 if (qag l).2 = 0 then (if qin c ∧ qin f then (if f ≤ (qag l).1 then max c (qag l).1 else c, 0) else (0, 4)) else (0, (qag l).2)
def qmj (n : Int) : Int × Int := if n < 1 ∨ 9 < n then (0, 4) else (n / 2 + 1, 0)
theorem qreach_perm {l k : List Int} (h : l.Perm k) (x : Int) : qreach l x = qreach k x := h.countP_eq _
theorem qag_ok {l : List Int} (h : (qag l).2 = 0) : ¬ qbad l.length ∧ (∀ x ∈ l, qin x) ∧ qag l = (qagr l, 0) := by
 unfold qag at h ⊢
 split at h
 ·simp at h
 ·rename_i h1
  split at h
  ·rename_i h2
   rw [if_neg h1, if_pos h2]
   exact ⟨h1, h2, rfl⟩
  ·simp at h
theorem qag_bad {l : List Int} (h : (qag l).2 ≠ 0) : qag l = (0, (qag l).2) := by
 unfold qag at h ⊢
 split at h
 ·rename_i h1; rw [if_pos h1]
 ·rename_i h1
  split at h
  ·simp at h
  ·rename_i h2
   rw [if_neg h1, if_neg h2]
theorem qmaj_le {n : Nat} (h : ¬ qbad n) : 0 < qmaj n ∧ qmaj n ≤ n ∧ n ≤ 9 := by unfold qbad qmaj at *; omega
section
variable {l : List Int} (hb : ¬ qbad l.length)
include hb
theorem qagr_at : ∃ hk : l.length - qmaj l.length < (srt l).length, qagr l = (srt l)[l.length - qmaj l.length] := by
 have := qmaj_le hb
 have hl := srt_len l
 refine ⟨by omega, ?_⟩
 unfold qagr
 rw [List.getD_eq_getElem?_getD, List.getElem?_eq_getElem (by omega)]
 rfl
theorem qagr_reach : qmaj l.length ≤ qreach l (qagr l) := by
 obtain ⟨hk, e⟩ := qagr_at hb
 have hm := qmaj_le hb
 rw [← qreach_perm (srt_perm l)]
 unfold qreach
 rw [← List.take_append_drop (l.length - qmaj l.length) (srt l), List.countP_append]
 have : ((srt l).drop (l.length - qmaj l.length)).countP (fun y => decide (qagr l ≤ y)) = ((srt l).drop (l.length - qmaj l.length)).length := by
  rw [List.countP_eq_length]
  intro y hy
  obtain ⟨j, hj, rfl⟩ := List.getElem_of_mem hy
  simp only [List.getElem_drop, decide_eq_true_eq]
  rw [e]
  by_cases h0 : j = 0
  ·subst h0; exact Int.le_refl _
  ·exact List.pairwise_iff_getElem.1 (srt_rise l) _ _ _ _ (by omega)
 rw [this, List.length_drop, srt_len]
 omega
theorem qagr_top {y : Int} (h : qmaj l.length ≤ qreach l y) : y ≤ qagr l := by
 obtain ⟨hk, e⟩ := qagr_at hb
 have hm := qmaj_le hb
 refine Decidable.byContradiction fun hlt => ?_
 rw [← qreach_perm (srt_perm l)] at h
 unfold qreach at h
 rw [← List.take_append_drop (l.length - qmaj l.length + 1) (srt l), List.countP_append] at h
 have h0 : ((srt l).take (l.length - qmaj l.length + 1)).countP (fun z => decide (y ≤ z)) = 0 := by
  rw [List.countP_eq_zero]
  intro z hz
  obtain ⟨j, hj, rfl⟩ := List.getElem_of_mem hz
  simp only [List.getElem_take, decide_eq_true_eq]
  simp only [List.length_take] at hj
  have h1 : (srt l)[j] ≤ (srt l)[l.length - qmaj l.length] := by
   by_cases e0 : j = l.length - qmaj l.length
   ·subst e0; exact Int.le_refl _
   ·exact List.pairwise_iff_getElem.1 (srt_rise l) _ _ _ _ (by omega)
  rw [← e] at h1
  omega
 have h2 : ((srt l).drop (l.length - qmaj l.length + 1)).countP (fun z => decide (y ≤ z)) ≤ ((srt l).drop (l.length - qmaj l.length + 1)).length := List.countP_le_length
 rw [List.length_drop, srt_len] at h2
 omega
end
theorem qreach_set {l : List Int} {k : Nat} {x y : Int} (hx : l[k]? = some x) (hy : x ≤ y) (z : Int) : qreach l z ≤ qreach (l.set k y) z := by
 unfold qreach
 induction l generalizing k with
 | nil => simp at hx
 | cons a r ih =>
  cases k with
  | zero =>
   simp only [List.getElem?_cons_zero, Option.some.injEq] at hx
   subst hx
   rw [List.set_cons_zero, List.countP_cons, List.countP_cons]
   have : (if decide (z ≤ a) = true then 1 else 0) ≤ (if decide (z ≤ y) = true then 1 else 0) := by
    by_cases h : z ≤ a
    ·rw [if_pos (by simpa using h), if_pos (by simp; omega)]; omega
    ·rw [if_neg (by simpa using h)]; omega
   omega
  | succ k =>
   rw [List.getElem?_cons_succ] at hx
   rw [List.set_cons_succ, List.countP_cons, List.countP_cons]
   have := ih hx
   omega
theorem qag_grows {l : List Int} (h : (qag l).2 = 0) {k : Nat} {x y : Int} (hx : l[k]? = some x) (hy : x ≤ y) (hm : y ≤ 1099511627776) : (qag (l.set k y)).2 = 0 ∧ qagr l ≤ (qag (l.set k y)).1 := by
 obtain ⟨hb, hi, _⟩ := qag_ok h
 have hl : (l.set k y).length = l.length := List.length_set
 have hb' : ¬ qbad (l.set k y).length := by rw [hl]; exact hb
 have hi' : ∀ z ∈ l.set k y, qin z := by
  intro z hz
  rcases List.mem_or_eq_of_mem_set hz with h | rfl
  ·exact hi z h
  ·have := hi x (List.mem_of_getElem? hx)
   exact ⟨by have := this.1; omega, hm⟩
 have e : qag (l.set k y) = (qagr (l.set k y), 0) := by
  unfold qag
  rw [if_neg hb', if_pos hi']
 rw [e]
 refine ⟨rfl, ?_⟩
 refine qagr_top hb' ?_
 rw [hl]
 exact Nat.le_trans (qagr_reach hb) (qreach_set hx hy _)
theorem qreach_next {l : List Int} {k : Nat} {x : Int} (h : l[k]? = some x) (z : Int) : qreach (l.take (k + 1)) z = qreach (l.take k) z + (if z ≤ x then 1 else 0) := by
 unfold qreach
 rw [List.take_add_one, h, List.countP_append]
 simp [List.countP_cons]
end Go.Proofs.Ytnkbolgbpdjpcaa

namespace Go.Proofs.Ytnkbolgbpdjpcaa
open Go.RowKit
end Go.Proofs.Ytnkbolgbpdjpcaa

namespace Go.Proofs.Ytnkbolgbpdjpcaa
open Go.RowKit
end Go.Proofs.Ytnkbolgbpdjpcaa

namespace Go.Proofs.Ytnkbolgbpdjpcaa
open Go.RowKit
structure Shp (α : Type) where
 n : Nat
 rd : World → List Value → α → Prop
 own : List Nat → World → List Value → α → Prop
 rd_n : ∀ {w cs x}, rd w cs x → cs.length = n
 rd_to : ∀ {w w' : World} {cs x}, rd w cs x → (∀ b, b < w.heap.size → w'.heap[b]? = w.heap[b]?) → rd w' cs x
 rd_one : ∀ {w cs x}, rd w cs x → ∀ u ∈ cs, u.oneCell' = true
 own_rd : ∀ {F w cs x}, own F w cs x → rd w cs x
 own_to : ∀ {F} {w w' : World} {cs x}, own F w cs x → (∀ b, b ∈ F → w'.heap[b]? = w.heap[b]?) → own F w' cs x
 own_lt : ∀ {F w cs x}, own F w cs x → ∀ b, b ∈ F → b < w.heap.size
def Own {α : Type} (s : Shp α) (B : Nat) (w : World) (cs : List Value) (x : α) : Prop := ∃ F, s.own F w cs x ∧ F.Nodup ∧ ∀ b, b ∈ F → B ≤ b
section
variable {α β : Type}
theorem Shp.to (s : Shp α) {w w' : World} {cs : List Value} {x : α} (h : s.rd w cs x) {B : Nat} (hB : w.heap.size ≤ B) (hb : Below B w w') : s.rd w' cs x :=
 s.rd_to h fun b hb' => hb.block b (by omega)
theorem Shp.to0 (s : Shp α) {w w' : World} {cs : List Value} {x : α} (h : s.rd w cs x) (hb : Below w.heap.size w w') : s.rd w' cs x := s.to h (Nat.le_refl _) hb
theorem Own.rd {s : Shp α} {B : Nat} {w : World} {cs : List Value} {x : α} (h : Own s B w cs x) : s.rd w cs x := let ⟨_, h, _⟩ := h; s.own_rd h
theorem Own.mono {s : Shp α} {B C : Nat} {w : World} {cs : List Value} {x : α} (h : Own s B w cs x) (hC : C ≤ B) : Own s C w cs x :=
 let ⟨F, h1, h2, h3⟩ := h; ⟨F, h1, h2, fun b hb => Nat.le_trans hC (h3 b hb)⟩
theorem Own.below {s : Shp α} {B C : Nat} {w w' : World} {cs : List Value} {x : α} (h : Own s B w cs x) (hC : w.heap.size ≤ C) (hb : Below C w w') : Own s B w' cs x :=
 let ⟨F, h1, h2, h3⟩ := h; ⟨F, s.own_to h1 fun b hb' => hb.block b (by have := s.own_lt h1 b hb'; omega), h2, h3⟩
theorem Own.to {s : Shp α} {B : Nat} {w w' : World} {cs : List Value} {x : α} (h : Own s B w cs x) (hb : Below w.heap.size w w') : Own s B w' cs x := h.below (Nat.le_refl _) hb
theorem Own.grown {s : Shp α} {B : Nat} {w w' : World} {row : Option Nat} {cs : List Value} {x : α} (h : Own s B w cs x) (hg : w.grownBy w' row) (hr : ∀ k, row = some k → k < B) : Own s B w' cs x :=
 let ⟨F, h1, h2, h3⟩ := h; ⟨F, s.own_to h1 fun b hb' => hg.block b (s.own_lt h1 b hb') (fun e => by have := hr b e.symm; have := h3 b hb'; omega), h2, h3⟩
theorem Own.set {s : Shp α} {B : Nat} {w : World} {cs : List Value} {x : α} (h : Own s B w cs x) {a : Addr} (ha : a.block < B) (u : Value) : Own s B (w.setCell a u) cs x :=
 let ⟨F, h1, h2, h3⟩ := h; ⟨F, s.own_to h1 fun b hb' => Below.heap_setCell _ _ _ _ (fun e => by have := h3 b hb'; omega), h2, h3⟩
def Shp.int (k : IntKind) : Shp Int where
 n := 1
 rd _ cs x := cs = [.int k x]
 own F _ cs x := F = [] ∧ cs = [.int k x]
 rd_n h := by rw [h]; rfl
 rd_to h _ := h
 rd_one h u hu := by rw [h] at hu; simp at hu; subst hu; rfl
 own_rd h := h.2
 own_to h _ := h
 own_lt h b hb := by rw [h.1] at hb; cases hb
def Shp.bool : Shp Bool where
 n := 1
 rd _ cs x := cs = [.bool x]
 own F _ cs x := F = [] ∧ cs = [.bool x]
 rd_n h := by rw [h]; rfl
 rd_to h _ := h
 rd_one h u hu := by rw [h] at hu; simp at hu; subst hu; rfl
 own_rd h := h.2
 own_to h _ := h
 own_lt h b hb := by rw [h.1] at hb; cases hb
def Shp.pair (s : Shp α) (t : Shp β) : Shp (α × β) where
 n := s.n + t.n
 rd w cs x := ∃ c d, cs = c ++ d ∧ s.rd w c x.1 ∧ t.rd w d x.2
 own F w cs x := ∃ c d G H, cs = c ++ d ∧ F = G ++ H ∧ s.own G w c x.1 ∧ t.own H w d x.2
 rd_n := by rintro w cs x ⟨c, d, rfl, h1, h2⟩; rw [List.length_append, s.rd_n h1, t.rd_n h2]
 rd_to := by rintro w w' cs x ⟨c, d, rfl, h1, h2⟩ hb; exact ⟨c, d, rfl, s.rd_to h1 hb, t.rd_to h2 hb⟩
 rd_one := by
  rintro w cs x ⟨c, d, rfl, h1, h2⟩ u hu
  rcases List.mem_append.1 hu with h | h
  ·exact s.rd_one h1 u h
  ·exact t.rd_one h2 u h
 own_rd := by rintro F w cs x ⟨c, d, G, H, rfl, rfl, h1, h2⟩; exact ⟨c, d, rfl, s.own_rd h1, t.own_rd h2⟩
 own_to := by
  rintro F w w' cs x ⟨c, d, G, H, rfl, rfl, h1, h2⟩ hb
  exact ⟨c, d, G, H, rfl, rfl, s.own_to h1 fun b h => hb b (List.mem_append_left _ h), t.own_to h2 fun b h => hb b (List.mem_append_right _ h)⟩
 own_lt := by
  rintro F w cs x ⟨c, d, G, H, rfl, rfl, h1, h2⟩ b hb
  rcases List.mem_append.1 hb with h | h
  ·exact s.own_lt h1 b h
  ·exact t.own_lt h2 b h
theorem Own.pair {s : Shp α} {t : Shp β} {B C : Nat} {w w' : World} {c d : List Value} {x : α} {y : β} (h1 : Own s B w c x) (hb : Below w.heap.size w w') (h2 : Own t C w' d y) (hC : w.heap.size ≤ C) (hBC : B ≤ C) : Own (s.pair t) B w' (c ++ d) (x, y) := by
 obtain ⟨F, a1, a2, a3⟩ := h1
 obtain ⟨G, b1, b2, b3⟩ := h2
 refine ⟨F ++ G, ⟨c, d, F, G, rfl, rfl, s.own_to a1 fun b hb' => hb.block b (s.own_lt a1 b hb'), b1⟩, ?_, ?_⟩
 ·refine List.nodup_append.2 ⟨a2, b2, fun x hx y hy e => ?_⟩
  have q1 := s.own_lt a1 x hx
  have q2 := b3 y hy
  omega
 ·intro b hb'
  rcases List.mem_append.1 hb' with h | h
  ·exact a3 b h
  ·have := b3 b h; omega
def ownEach (s : Shp α) (w : World) : List Nat → List Value → List α → Prop
 | F, cc, [] => F = [] ∧ cc = []
 | F, cc, x :: xs => ∃ F1 F2 c1 c2, F = F1 ++ F2 ∧ cc = c1 ++ c2 ∧ s.own F1 w c1 x ∧ ownEach s w F2 c2 xs
theorem ownEach_to {s : Shp α} {w w' : World} : ∀ {xs : List α} {F cc}, ownEach s w F cc xs → (∀ b, b ∈ F → w'.heap[b]? = w.heap[b]?) → ownEach s w' F cc xs
 | [], F, cc, h, _ => h
 | x :: xs, F, cc, ⟨F1, F2, c1, c2, e1, e2, h1, h2⟩, hb => ⟨F1, F2, c1, c2, e1, e2, s.own_to h1 fun b h => hb b (by rw [e1]; exact List.mem_append_left _ h), ownEach_to h2 fun b h => hb b (by rw [e1]; exact List.mem_append_right _ h)⟩
theorem ownEach_lt {s : Shp α} {w : World} : ∀ {xs : List α} {F cc}, ownEach s w F cc xs → ∀ b, b ∈ F → b < w.heap.size
 | [], F, cc, h, b, hb => by rw [h.1] at hb; cases hb
 | x :: xs, F, cc, ⟨F1, F2, c1, c2, e1, e2, h1, h2⟩, b, hb => by
  rw [e1] at hb
  rcases List.mem_append.1 hb with h | h
  ·exact s.own_lt h1 b h
  ·exact ownEach_lt h2 b h
theorem ownEach_app {s : Shp α} {w : World} : ∀ {xs ys : List α} {F G cc dd}, ownEach s w F cc xs → ownEach s w G dd ys → ownEach s w (F ++ G) (cc ++ dd) (xs ++ ys)
 | [], ys, F, G, cc, dd, h, k => by obtain ⟨rfl, rfl⟩ := h; exact k
 | x :: xs, ys, F, G, cc, dd, ⟨F1, F2, c1, c2, e1, e2, h1, h2⟩, k => ⟨F1, F2 ++ G, c1, c2 ++ dd, by rw [e1, List.append_assoc], by rw [e2, List.append_assoc], h1, ownEach_app h2 k⟩
theorem ownEach_one {s : Shp α} {w : World} {F c} {x : α} (h : s.own F w c x) : ownEach s w F c [x] := ⟨F, [], c, [], by simp, by simp, h, rfl, rfl⟩
theorem ownEach_at {s : Shp α} {w : World} : ∀ {xs : List α} {F cc} (i : Nat) (x : α), ownEach s w F cc xs → xs[i]? = some x →
  ∃ F1 F2 F3 c1 c2 c3, F = F1 ++ (F2 ++ F3) ∧ cc = c1 ++ (c2 ++ c3) ∧ c1.length = i * s.n ∧ ownEach s w F1 c1 (xs.take i) ∧ s.own F2 w c2 x ∧ ownEach s w F3 c3 (xs.drop (i + 1))
 | [], F, cc, i, x, h, hx => by simp at hx
 | y :: xs, F, cc, 0, x, ⟨F1, F2, c1, c2, e1, e2, h1, h2⟩, hx => by
  simp at hx; subst hx
  exact ⟨[], F1, F2, [], c1, c2, e1, e2, by simp, ⟨rfl, rfl⟩, h1, h2⟩
 | y :: xs, F, cc, i + 1, x, ⟨F1, F2, c1, c2, e1, e2, h1, h2⟩, hx => by
  obtain ⟨G1, G2, G3, d1, d2, d3, rfl, rfl, hl, k1, k2, k3⟩ := ownEach_at i x h2 (by simpa using hx)
  refine ⟨F1 ++ G1, G2, G3, c1 ++ d1, d2, d3, by rw [e1, List.append_assoc], by rw [e2, List.append_assoc], ?_, ⟨F1, G1, c1, d1, rfl, rfl, h1, k1⟩, k2, k3⟩
  rw [List.length_append, hl, s.rd_n (s.own_rd h1), Nat.add_mul, Nat.one_mul, Nat.add_comm]
def RdS (s : Shp α) (w : World) (v : Value) (xs : List α) : Prop :=
 ∃ ao cap, v = .slice ao xs.length cap ∧ xs.length ≤ cap ∧ cap ≤ maxLen ∧ (ao = none → cap = 0) ∧
  (xs = [] ∨ ∃ b off, ao = some ⟨b, off, none⟩ ∧ ∀ i x, xs[i]? = some x → ∃ c, s.rd w c x ∧ ∀ j u, c[j]? = some u → w.cell? ⟨b, off + i * s.n + j, none⟩ = some u)
theorem RdS.slice {s : Shp α} {w : World} {v : Value} {xs : List α} (h : RdS s w v xs) : ∃ ao cap, v = .slice ao xs.length cap := by
 obtain ⟨ao, cap, rfl, _⟩ := h; exact ⟨_, _, rfl⟩
theorem RdS.to {s : Shp α} {w w' : World} {v : Value} {xs : List α} (h : RdS s w v xs) {B : Nat} (hB : w.heap.size ≤ B) (hb : Below B w w') : RdS s w' v xs := by
 obtain ⟨ao, cap, rfl, h1, h2, h3, h4⟩ := h
 refine ⟨ao, cap, rfl, h1, h2, h3, ?_⟩
 rcases h4 with h4 | ⟨b, off, rfl, hc⟩
 ·exact .inl h4
 ·refine .inr ⟨b, off, rfl, fun i x hx => ?_⟩
  obtain ⟨c, k1, k2⟩ := hc i x hx
  refine ⟨c, s.to k1 hB hb, fun j u hj => ?_⟩
  have := k2 j u hj
  rw [hb.cell (p := ⟨b, off + i * s.n + j, none⟩) (by have := cell_lt this; show b < B; omega)]
  exact this
theorem RdS.to0 {s : Shp α} {w w' : World} {v : Value} {xs : List α} (h : RdS s w v xs) (hb : Below w.heap.size w w') : RdS s w' v xs := h.to (Nat.le_refl _) hb
theorem RdS.nil (s : Shp α) (w : World) : RdS s w (.slice none 0 0) [] := ⟨none, 0, rfl, Nat.le_refl _, Nat.zero_le _, fun _ => rfl, .inl rfl⟩
theorem RdS.bd {s : Shp α} {w : World} {v : Value} {xs : List α} (h : RdS s w v xs) : xs.length ≤ 9223372036854775807 := by
 obtain ⟨ao, cap, rfl, h1, h2, _⟩ := h
 rw [show maxLen = 9223372036854775807 from rfl] at h2
 omega
theorem RdS.at1 {s : Shp α} (hs : s.n = 1) {w : World} {a : Option Addr} {n cap : Nat} {xs : List α} (h : RdS s w (.slice a n cap) xs) {i : Nat} {x : α} (hx : xs[i]? = some x) :
  ∃ b off u, a = some ⟨b, off, none⟩ ∧ w.cell? ⟨b, off + i, none⟩ = some u ∧ s.rd w [u] x := by
 obtain ⟨ao, c, e, h1, h2, h3, h4⟩ := h
 cases e
 rcases h4 with rfl | ⟨b, off, rfl, hc⟩
 ·simp at hx
 ·obtain ⟨c, k1, k2⟩ := hc i x hx
  have := s.rd_n k1
  rw [hs] at this k2
  match c, this with
  | [u], _ =>
   have := k2 0 u rfl
   rw [Nat.mul_one, Nat.add_zero] at this
   exact ⟨b, off, u, rfl, this, k1⟩
theorem rows_at {w : World} {T n : Nat} {v : Value} {m : Nat} {cc : List Value} (h : w.ownsRow 0 T n v m cc) {g : Nat} {cap : Nat} (hv : v = .slice (some ⟨g, 0, none⟩) m cap) {j : Nat} {u : Value} (hj : cc[j]? = some u) : w.cell? ⟨g, j, none⟩ = some u := by
 subst hv
 rw [h.cellAt j (by rw [← h.1]; exact (List.getElem?_eq_some_iff.1 hj).1)]
 exact hj
def Shp.list (T : Nat) (s : Shp α) : Shp (List α) where
 n := 1
 rd w cs xs := ∃ v, cs = [v] ∧ RdS s w v xs
 own F w cs xs := ∃ v cc G, cs = [v] ∧ w.ownsRow 0 T s.n v xs.length cc ∧ ownEach s w G cc xs ∧ F = v.ownBlock.toList ++ G
 rd_n := by rintro w cs x ⟨v, rfl, _⟩; rfl
 rd_to := by
  rintro w w' cs xs ⟨v, rfl, ao, cap, rfl, h1, h2, h3, h4⟩ hb
  refine ⟨_, rfl, ao, cap, rfl, h1, h2, h3, ?_⟩
  rcases h4 with h4 | ⟨b, off, rfl, hc⟩
  ·exact .inl h4
  ·refine .inr ⟨b, off, rfl, fun i x hx => ?_⟩
   obtain ⟨c, k1, k2⟩ := hc i x hx
   refine ⟨c, s.rd_to k1 hb, fun j u hj => ?_⟩
   have := k2 j u hj
   rw [World.cell?_of_block (w := w) (hb b (cell_lt this))]
   exact this
 rd_one := by
  rintro w cs x ⟨v, rfl, h⟩ u hu
  obtain ⟨ao, cap, rfl⟩ := h.slice
  simp at hu; subst hu; rfl
 own_rd := by
  rintro F w cs xs ⟨v, cc, G, rfl, h1, h2, _⟩
  refine ⟨v, rfl, ?_⟩
  rcases h1.2 with ⟨rfl, h0⟩ | ⟨g, cap, cur, hv, hb, hg, hn, hm, _⟩
  ·rw [List.eq_nil_of_length_eq_zero h0]
   exact ⟨none, 0, rfl, Nat.le_refl _, Nat.zero_le _, fun _ => rfl, .inl rfl⟩
  ·refine ⟨_, cap, hv, hn, hm, (fun h => by cases h), .inr ⟨g, 0, rfl, fun i x hx => ?_⟩⟩
   obtain ⟨F1, F2, F3, c1, c2, c3, _, e2, hl, _, k2, _⟩ := ownEach_at i x h2 hx
   refine ⟨c2, s.own_rd k2, fun j u hj => ?_⟩
   rw [Nat.zero_add]
   refine rows_at h1 hv ?_
   have hjl : j < c2.length := (List.getElem?_eq_some_iff.1 hj).1
   rw [e2, ← hl, List.getElem?_append_right (by omega), Nat.add_sub_cancel_left, List.getElem?_append_left hjl]
   exact hj
 own_to := by
  rintro F w w' cs xs ⟨v, cc, G, rfl, h1, h2, rfl⟩ hb
  refine ⟨v, cc, G, rfl, ⟨h1.1, ?_⟩, ownEach_to h2 fun b h => hb b (List.mem_append_right _ h), rfl⟩
  rcases h1.2 with h | ⟨g, cap, cur, rfl, h0, hg, r⟩
  ·exact .inl h
  ·exact .inr ⟨g, cap, cur, rfl, h0, (hb g (by simp [Value.ownBlock])).trans hg, r⟩
 own_lt := by
  rintro F w cs xs ⟨v, cc, G, rfl, h1, h2, rfl⟩ b hb
  rcases List.mem_append.1 hb with h | h
  ·exact (World.ownsRow.lt h1 b (by simpa using h)).2
  ·exact ownEach_lt h2 b h
theorem Own.rdS {T : Nat} {s : Shp α} {B : Nat} {w : World} {v : Value} {xs : List α} (h : Own (Shp.list T s) B w [v] xs) : RdS s w v xs := by
 obtain ⟨v', e, r⟩ := h.rd
 simp at e; subst e; exact r
theorem Own.nil (T : Nat) (s : Shp α) (B : Nat) (w : World) : Own (Shp.list T s) B w [.slice none 0 0] [] :=
 ⟨[], ⟨_, [], [], rfl, World.ownsRow_nil _ _ _ _, ⟨rfl, rfl⟩, by simp [Value.ownBlock]⟩, List.nodup_nil, fun b hb => by cases hb⟩
theorem rows_base {w : World} {T n B C : Nat} {v : Value} {m : Nat} {cc : List Value} (h : w.ownsRow B T n v m cc) (hC : ∀ b, v.ownBlock = some b → C ≤ b) : w.ownsRow C T n v m cc := by
 refine ⟨h.1, ?_⟩
 rcases h.2 with h2 | ⟨g, cap, cur, rfl, h0, r⟩
 ·exact .inl h2
 ·exact .inr ⟨g, cap, cur, rfl, hC g rfl, r⟩
theorem Own.cap (T : Nat) (s : Shp α) {B : Nat} {w : World} {v : Value} (h : w.ownsRow B T s.n v 0 []) : Own (Shp.list T s) B w [v] [] := by
 refine ⟨v.ownBlock.toList, ⟨v, [], [], rfl, rows_base h fun _ _ => Nat.zero_le _, ⟨rfl, rfl⟩, by simp⟩, ?_, fun b hb => (World.ownsRow.lt h b (by simpa using hb)).1⟩
 cases v.ownBlock <;> simp
def OwnF (s : Shp α) (F : List Nat) (w : World) (cs : List Value) (x : α) : Prop := s.own F w cs x ∧ F.Nodup
theorem OwnF.own {s : Shp α} {F : List Nat} {B : Nat} {w : World} {cs : List Value} {x : α} (h : OwnF s F w cs x) (hB : ∀ b, b ∈ F → B ≤ b) : Own s B w cs x := ⟨F, h.1, h.2, hB⟩
theorem OwnF.rd {s : Shp α} {F : List Nat} {w : World} {cs : List Value} {x : α} (h : OwnF s F w cs x) : s.rd w cs x := s.own_rd h.1
theorem OwnF.lt {s : Shp α} {F : List Nat} {w : World} {cs : List Value} {x : α} (h : OwnF s F w cs x) : ∀ b, b ∈ F → b < w.heap.size := s.own_lt h.1
theorem OwnF.keep {s : Shp α} {F : List Nat} {w w' : World} {cs : List Value} {x : α} (h : OwnF s F w cs x) (hb : ∀ b, b ∈ F → w'.heap[b]? = w.heap[b]?) : OwnF s F w' cs x := ⟨s.own_to h.1 hb, h.2⟩
theorem OwnF.to {s : Shp α} {F : List Nat} {w w' : World} {cs : List Value} {x : α} (h : OwnF s F w cs x) (hb : Below w.heap.size w w') : OwnF s F w' cs x := h.keep fun b hb' => hb.block b (h.lt b hb')
theorem OwnF.set {s : Shp α} {F : List Nat} {w : World} {cs : List Value} {x : α} (h : OwnF s F w cs x) {a : Addr} (ha : a.block ∉ F) (u : Value) : OwnF s F (w.setCell a u) cs x :=
 h.keep fun b hb' => Below.heap_setCell _ _ _ _ (fun e => ha (by rw [← e]; exact hb'))
theorem OwnF.split {s : Shp α} {t : Shp β} {F : List Nat} {w : World} {c d : List Value} {z : α × β} (h : OwnF (s.pair t) F w (c ++ d) z) (hc : c.length = s.n) :
  ∃ F1 F2, F = F1 ++ F2 ∧ OwnF s F1 w c z.1 ∧ OwnF t F2 w d z.2 ∧ ∀ b, b ∈ F1 → b ∉ F2 := by
 obtain ⟨⟨c', d', G, H, e, rfl, h1, h2⟩, hn⟩ := h
 have hl := s.rd_n (s.own_rd h1)
 obtain ⟨rfl, rfl⟩ := List.append_inj e (by rw [hc, hl])
 have := List.nodup_append.1 hn
 exact ⟨G, H, rfl, ⟨h1, this.1⟩, ⟨h2, this.2.1⟩, fun b hb hb' => this.2.2 b hb b hb' rfl⟩
theorem OwnF.grow {T : Nat} {s : Shp α} {F : List Nat} {w : World} {v : Value} {xs : List α} (h : OwnF (Shp.list T s) F w [v] xs) :
  ∃ cc, w.ownsRow 0 T s.n v xs.length cc ∧ (∀ b, v.ownBlock = some b → b ∈ F) ∧ ∀ (w1 w2 w3 : World) (c : List Value) (x : α) (g cap : Nat), Below w.heap.size w w1 → Own s w.heap.size w1 c x → Below w1.heap.size w1 w2 → w2.grownBy w3 v.ownBlock →
   w3.ownsRow 0 T s.n (.slice (some ⟨g, 0, none⟩) (xs.length + 1) cap) (xs.length + 1) (cc ++ c) → (v.ownBlock = some g ∨ g = w2.heap.size) →
   ∃ F', OwnF (Shp.list T s) F' w3 [.slice (some ⟨g, 0, none⟩) (xs.length + 1) cap] (xs ++ [x]) ∧ ∀ b, b ∈ F' → b ∈ F ∨ w.heap.size ≤ b := by
 obtain ⟨⟨v', cc, G, e, h1, h2, rfl⟩, hn⟩ := h
 simp at e; subst e
 refine ⟨cc, h1, fun b hb => by simp [hb], ?_⟩
 intro w1 w2 w3 c x g cap b1 he b2 hg hr hat
 obtain ⟨F2, k1, k2, k3⟩ := he
 have lt1 := ownEach_lt h2
 have hn' := List.nodup_append.1 hn
 have ng : g ∉ G := by
  intro hgG
  rcases hat with hat | rfl
  ·exact hn'.2.2 g (by simp [hat]) g hgG rfl
  ·have := lt1 _ hgG; have := b1.size; have := b2.size; omega
 have ng2 : g ∉ F2 := by
  intro hgF
  have q := k3 g hgF
  rcases hat with hat | rfl
  ·have := (World.ownsRow.lt h1 g hat).2; omega
  ·have := s.own_lt k1 _ hgF; have := b2.size; omega
 refine ⟨(g :: (G ++ F2)), ⟨⟨_, cc ++ c, G ++ F2, rfl, ?_, ?_, rfl⟩, ?_⟩, ?_⟩
 ·rw [List.length_append]; exact hr
 ·refine ownEach_app (ownEach_to h2 fun b hb => ?_) (ownEach_one (s.own_to k1 fun b hb => ?_))
  ·rw [hg.block b (by have := lt1 b hb; have := b1.size; have := b2.size; omega) (fun e => hn'.2.2 b (by simp [← e]) b hb rfl), b2.block b (by have := lt1 b hb; have := b1.size; omega), b1.block b (lt1 b hb)]
  ·rw [hg.block b (by have := s.own_lt k1 b hb; have := b2.size; omega) (fun e => by have := (World.ownsRow.lt h1 b e.symm).2; have := k3 b hb; omega), b2.block b (s.own_lt k1 b hb)]
 ·refine List.nodup_cons.2 ⟨fun hm => ?_, List.nodup_append.2 ⟨hn'.2.1, k2, fun a ha b hb e => ?_⟩⟩
  ·rcases List.mem_append.1 hm with q | q
   ·exact ng q
   ·exact ng2 q
  ·have := lt1 a ha; have := k3 b hb; omega
 ·intro b hb
  rcases List.mem_cons.1 hb with rfl | hb
  ·rcases hat with hat | rfl
   ·left; simp [hat]
   ·right; have := b1.size; have := b2.size; omega
  ·rcases List.mem_append.1 hb with q | q
   ·left; simp [q]
   ·right; exact k3 b q
theorem rows_to {w w' : World} {B T n : Nat} {v : Value} {m : Nat} {cc : List Value} (h : w.ownsRow B T n v m cc) (hb : Below w.heap.size w w') : w'.ownsRow B T n v m cc := by
 refine ⟨h.1, ?_⟩
 rcases h.2 with h2 | ⟨g, cap, cur, e, h0, hg, r⟩
 ·exact .inl h2
 ·exact .inr ⟨g, cap, cur, e, h0, (hb.block g (lt_of_block hg)).trans hg, r⟩
theorem lit_of {T n : Nat} {s : Shp α} {F : List Nat} {w : World} {v : Value} {cc : List Value} {R : World → List Nat → Value → α → Prop} (hrow : w.ownsRow 0 T s.n v n cc) (hm : ∀ b, v.ownBlock = some b → b ∈ F)
  (k3 : ∀ (w1 w2 w3 : World) (c : List Value) (x : α) (g cap : Nat), Below w.heap.size w w1 → Own s w.heap.size w1 c x → Below w1.heap.size w1 w2 → w2.grownBy w3 v.ownBlock →
   w3.ownsRow 0 T s.n (.slice (some ⟨g, 0, none⟩) (n + 1) cap) (n + 1) (cc ++ c) → (v.ownBlock = some g ∨ g = w2.heap.size) → ∃ F', R w3 F' (.slice (some ⟨g, 0, none⟩) (n + 1) cap) x ∧ ∀ b, b ∈ F' → b ∈ F ∨ w.heap.size ≤ b) :
  (∀ u, Below w.heap.size w u → u.ownsRow 0 T s.n v n cc) ∧ ∀ (w2 : World) (c : List Value) (x : α) (T' : Nat) (w3 w5 : World) (g cap : Nat), Below w.heap.size w w2 → Own s w.heap.size w2 c x → w3.heap = (w2.alloc (.cells c.toArray T')).heap → w3.os = w2.os → w3.tape = w2.tape → w3.output = w2.output → w3.grownBy w5 v.ownBlock →
   w5.ownsRow 0 T s.n (.slice (some ⟨g, 0, none⟩) (n + 1) cap) (n + 1) (cc ++ c) → (v.ownBlock = some g ∨ g = w2.heap.size + 1) →
   (∃ F', R w5 F' (.slice (some ⟨g, 0, none⟩) (n + 1) cap) x ∧ ∀ b, b ∈ F' → b ∈ F ∨ w.heap.size ≤ b) ∧ (∀ B, (∀ b, b ∈ F → B ≤ b) → B ≤ w.heap.size → Below B w w5) ∧ ∀ b, b < w.heap.size → b ∉ F → w5.heap[b]? = w.heap[b]? := by
 refine ⟨fun u hu => rows_to hrow hu, ?_⟩
 intro w2 c x T' w3 w5 g cap b1 he hh h1 h2 h3 hg hr hat
 have hsz : w3.heap.size = w2.heap.size + 1 := by rw [hh]; simp
 have b2 : Below w2.heap.size w2 w3 := ⟨h1, h2, h3, by omega, fun k hk => by rw [hh]; exact Below.heap_alloc _ _ _ hk⟩
 refine ⟨k3 w2 w3 w5 c x g cap b1 he b2 hg hr (by rw [hsz]; exact hat), fun B hF hB => ?_, fun b hb hnb => ?_⟩
 ·exact (((b1.mono hB).trans (b2.mono (by have := b1.size; omega)))).grown hg (by have := b1.size; omega) (fun k hk => hF k (hm k hk))
 ·have := b1.size
  rw [hg.block b (by omega) (fun e => hnb (hm b e.symm)), b2.block b (by omega), b1.block b hb]
theorem OwnF.lit {T n : Nat} {s : Shp α} {F : List Nat} {w : World} {v : Value} {xs : List α} (h : OwnF (Shp.list T s) F w [v] xs) (hn : xs.length = n) : ∃ cc,
  (∀ u, Below w.heap.size w u → u.ownsRow 0 T s.n v n cc) ∧ ∀ (w2 : World) (c : List Value) (x : α) (T' : Nat) (w3 w5 : World) (g cap : Nat), Below w.heap.size w w2 → Own s w.heap.size w2 c x → w3.heap = (w2.alloc (.cells c.toArray T')).heap → w3.os = w2.os → w3.tape = w2.tape → w3.output = w2.output → w3.grownBy w5 v.ownBlock →
   w5.ownsRow 0 T s.n (.slice (some ⟨g, 0, none⟩) (n + 1) cap) (n + 1) (cc ++ c) → (v.ownBlock = some g ∨ g = w2.heap.size + 1) →
   (∃ F', OwnF (Shp.list T s) F' w5 [.slice (some ⟨g, 0, none⟩) (n + 1) cap] (xs ++ [x]) ∧ ∀ b, b ∈ F' → b ∈ F ∨ w.heap.size ≤ b) ∧ (∀ B, (∀ b, b ∈ F → B ≤ b) → B ≤ w.heap.size → Below B w w5) ∧ ∀ b, b < w.heap.size → b ∉ F → w5.heap[b]? = w.heap[b]? := by
 subst hn
 obtain ⟨cc, k1, k2, k3⟩ := h.grow
 exact ⟨cc, lit_of (R := fun w5 F' v' x => OwnF (Shp.list T s) F' w5 [v'] (xs ++ [x])) k1 k2 k3⟩
theorem set_take_drop (xs : List α) (i : Nat) (x : α) (hi : i < xs.length) : xs.set i x = xs.take i ++ ([x] ++ xs.drop (i + 1)) := by
 rw [List.set_eq_take_append_cons_drop, if_pos hi]; rfl
theorem OwnF.at {T : Nat} {s : Shp α} {F : List Nat} {w : World} {v : Value} {xs : List α} (h : OwnF (Shp.list T s) F w [v] xs) {i : Nat} {x : α} (hx : xs[i]? = some x) :
  ∃ g cap F2 c, v = .slice (some ⟨g, 0, none⟩) xs.length cap ∧ xs.length ≤ cap ∧ cap ≤ maxLen ∧ g ∈ F ∧ s.own F2 w c x ∧ (∀ b, b ∈ F2 → b ∈ F ∧ b ≠ g) ∧ (∀ j u, c[j]? = some u → w.cell? ⟨g, i * s.n + j, none⟩ = some u) ∧
   ∀ w' x', s.own F2 w' c x' → (∀ b, b ∈ F → b ∉ F2 → w'.heap[b]? = w.heap[b]?) → OwnF (Shp.list T s) F w' [v] (xs.set i x') := by
 have hi : i < xs.length := (List.getElem?_eq_some_iff.1 hx).1
 obtain ⟨⟨v', cc, G, e, h1, h2, rfl⟩, hn⟩ := h
 simp at e; subst e
 obtain ⟨F1, F2, F3, c1, c2, c3, e1, e2, hl, k1, k2, k3⟩ := ownEach_at i x h2 hx
 have hn' := List.nodup_append.1 hn
 have hG := hn'.2.1
 rw [e1] at hG
 have hG1 := List.nodup_append.1 hG
 have hG2 := List.nodup_append.1 hG1.2.1
 rcases h1.2 with ⟨rfl, h0⟩ | ⟨g, cap, cur, hv, hb, hg, hnn, hm, _⟩
 ·omega
 have nF2 : ∀ b, b ∈ F2 → b ∈ G := fun b hb => by rw [e1]; simp [hb]
 refine ⟨g, cap, F2, c2, hv, hnn, hm, by simp [hv, Value.ownBlock], k2, fun b hb => ⟨by simp [nF2 b hb], fun e => hn'.2.2 g (by simp [hv, Value.ownBlock]) g (by rw [← e]; exact nF2 b hb) rfl⟩, fun j u hj => ?_, fun w' x' ho hk => ⟨⟨v, cc, G, rfl, ?_, ?_, rfl⟩, hn⟩⟩
 ·have hjl : j < c2.length := (List.getElem?_eq_some_iff.1 hj).1
  refine rows_at h1 hv ?_
  rw [e2, ← hl, List.getElem?_append_right (by omega), Nat.add_sub_cancel_left, List.getElem?_append_left hjl]
  exact hj
 ·rw [List.length_set]
  refine ⟨h1.1, ?_⟩
  rcases h1.2 with h | ⟨g', cap', cur', e', h0', hg', r⟩
  ·exact .inl h
  ·refine .inr ⟨g', cap', cur', e', h0', (hk g' (by simp [e', Value.ownBlock]) fun hm => ?_).trans hg', r⟩
   exact hn'.2.2 g' (by simp [e', Value.ownBlock]) g' (nF2 g' hm) rfl
 ·rw [set_take_drop xs i x' hi, e1, e2]
  refine ownEach_app (ownEach_to k1 fun b hb => hk b (by rw [e1]; simp [hb]) fun hm => ?_) (ownEach_app (ownEach_one ho) (ownEach_to k3 fun b hb => hk b (by rw [e1]; simp [hb]) fun hm => ?_))
  ·exact hG1.2.2 b hb b (by simp [hm]) rfl
  ·exact hG2.2.2 b hm b hb rfl
end
end Go.Proofs.Ytnkbolgbpdjpcaa

namespace Go.Proofs.Ytnkbolgbpdjpcaa
open Go.RowKit
end Go.Proofs.Ytnkbolgbpdjpcaa

namespace Go.Proofs.Ytnkbolgbpdjpcaa
open Go.RowKit
theorem boxedN (w : World) (cs : Array Value) (t : TypeId) : ∃ u, u = w.alloc (.cells cs t) ∧ u.heap[w.heap.size]? = some (.cells cs t (0, 0)) ∧ Below w.heap.size w u ∧ u.heap.size = w.heap.size + 1 :=
 ⟨_, rfl, heap_alloc_last w _, (Below.refl _ _).alloc (Nat.le_refl _) _, by simp⟩
end Go.Proofs.Ytnkbolgbpdjpcaa

namespace Go.Proofs.Ytnkbolgbpdjpcaa
open Go.RowKit
section
variable {P : Program} {ops : Array Oper} {md : Region.Mode} {Q : Exit → Act → World → Prop} {S : World → Prop}
end
end Go.Proofs.Ytnkbolgbpdjpcaa

namespace Go.Proofs.Ytnkbolgbpdjpcaa
abbrev Str := List UInt8
structure Nd where
 leaf : Bool
 keys : List Str
 vals : List Str
 kids : List Int
deriving DecidableEq
abbrev slt (a b : Str) : Bool := Op.bytesLess a b
def nkey (n : Nd) (k : Nat) : Str := n.keys[k]?.getD []
def nkOk (n : Nd) (k : Nat) : Prop := 1 ≤ (nkey n k).length ∧ (nkey n k).length ≤ 32 ∧ (0 < k → slt (nkey n (k - 1)) (nkey n k) = true)
instance (n : Nd) (k : Nat) : Decidable (nkOk n k) := by unfold nkOk; infer_instance
def nkeys (n : Nd) (m : Nat) : Prop := ∀ k, k < m → nkOk n k
def ncount (n : Nd) : Prop := if n.leaf then n.vals.length = n.keys.length ∧ n.kids.length = 0 else n.vals.length = 0 ∧ 1 ≤ n.keys.length ∧ n.kids.length = n.keys.length + 1
def nvals (n : Nd) (m : Nat) : Prop := ∀ k, k < m → (n.vals[k]?.getD []).length ≤ 64
def nkids (n : Nd) (m : Nat) : Prop := ∀ k, k < m → 1 ≤ n.kids[k]?.getD 0 ∧ n.kids[k]?.getD 0 ≤ 65536
instance (n : Nd) (m : Nat) : Decidable (nkeys n m) := by unfold nkeys; infer_instance
instance (n : Nd) : Decidable (ncount n) := by unfold ncount; infer_instance
instance (n : Nd) (m : Nat) : Decidable (nvals n m) := by unfold nvals; infer_instance
instance (n : Nd) (m : Nat) : Decidable (nkids n m) := by unfold nkids; infer_instance
def n4 (z : Int) : List UInt8 := [UInt8.ofNat (z.toNat / 16777216), UInt8.ofNat (z.toNat / 65536), UInt8.ofNat (z.toNat / 256), UInt8.ofNat z.toNat]
def nfew (n : Nd) : Prop := n.keys.length < 2 ∨ (n.leaf = false ∧ n.keys.length < 3)
instance (n : Nd) : Decidable (nfew n) := by unfold nfew; infer_instance
end Go.Proofs.Ytnkbolgbpdjpcaa

namespace Go.Proofs.Ytnkbolgbpdjpcaa
open Go.RowKit
abbrev st (x : Str) : Value := .string ⟨x.toArray⟩
def Shp.str : Shp Str where
 n := 1
 rd _ cs x := cs = [st x]
 own F _ cs x := F = [] ∧ cs = [st x]
 rd_n h := by rw [h]; rfl
 rd_to h _ := h
 rd_one h u hu := by rw [h] at hu; simp at hu; subst hu; rfl
 own_rd h := h.2
 own_to h _ := h
 own_lt h b hb := by rw [h.1] at hb; cases hb
abbrev RdT (w : World) (v : Value) (l : List Str) : Prop := RdS Shp.str w v l
abbrev RdI (w : World) (v : Value) (l : List Int) : Prop := RdS (Shp.int .i64) w v l
theorem RdS.intAt {w : World} {a : Option Addr} {n cap : Nat} {l : List Int} (h : RdI w (.slice a n cap) l) {i : Nat} {x : Int} (hx : l[i]? = some x) : ∃ b off, a = some ⟨b, off, none⟩ ∧ w.cell? ⟨b, off + i, none⟩ = some (.int .i64 x) := by
 obtain ⟨b, off, u, e, hc, hr⟩ := RdS.at1 rfl h hx
 have hr' : [u] = [Value.int .i64 x] := hr
 simp only [List.cons.injEq, and_true] at hr'
 subst hr'
 exact ⟨b, off, e, hc⟩
structure RdN (w : World) (kv vv dv : Value) (n : Nd) : Prop where
 keys : RdT w kv n.keys
 vals : RdT w vv n.vals
 kids : RdI w dv n.kids
theorem RdN.to {w w' : World} {kv vv dv : Value} {n : Nd} (h : RdN w kv vv dv n) (hb : Below w.heap.size w w') : RdN w' kv vv dv n := ⟨h.keys.to0 hb, h.vals.to0 hb, h.kids.to0 hb⟩
theorem some_el {α : Type} (l : List α) {k : Nat} (h : k < l.length) : ∃ x, l[k]? = some x := ⟨_, List.getElem?_eq_getElem h⟩
end Go.Proofs.Ytnkbolgbpdjpcaa

namespace Go.Proofs.Ytnkbolgbpdjpcaa
open Go.RowKit
abbrev OwnT (B : Nat) (w : World) (v : Value) (l : List Str) : Prop := w.ownsRow B 9 1 v l.length (l.map st)
abbrev OwnJ (B : Nat) (w : World) (v : Value) (l : List Int) : Prop := w.ownsRow B 3 1 v l.length (l.map (Value.int .i64))
abbrev SStrs : Shp (List Str) := Shp.list 9 Shp.str
abbrev SIntL : Shp (List Int) := Shp.list 3 (Shp.int .i64)
theorem own_one {α : Type} {T : Nat} {s : Shp α} {f : α → Value} (hs : ∀ (w : World) x, s.own [] w [f x] x) {B : Nat} {w : World} {v : Value} {l : List α} (h : w.ownsRow B T s.n v l.length (l.map f)) : Own (Shp.list T s) B w [v] l := by
 have each : ∀ l : List α, ownEach s w [] (l.map f) l := by
  intro l
  induction l with
  | nil => exact ⟨rfl, rfl⟩
  | cons x r ih => exact ⟨[], [], [f x], r.map f, rfl, rfl, hs w x, ih⟩
 refine ⟨v.ownBlock.toList, ⟨v, _, [], rfl, ?_, each l, by simp⟩, ?_, fun b hb => (World.ownsRow.lt h b (by simpa using hb)).1⟩
 ·exact rows_base h fun _ _ => Nat.zero_le _
 ·cases v.ownBlock <;> simp
theorem OwnT.own {B : Nat} {w : World} {v : Value} {l : List Str} (h : OwnT B w v l) : Own SStrs B w [v] l := own_one (s := Shp.str) (f := st) (fun _ _ => ⟨rfl, rfl⟩) h
theorem OwnJ.own {B : Nat} {w : World} {v : Value} {l : List Int} (h : OwnJ B w v l) : Own SIntL B w [v] l := own_one (s := Shp.int .i64) (f := Value.int .i64) (fun _ _ => ⟨rfl, rfl⟩) h
theorem OwnT.rd {B : Nat} {w : World} {v : Value} {l : List Str} (h : OwnT B w v l) : RdT w v l := h.own.rdS
theorem OwnJ.rd {B : Nat} {w : World} {v : Value} {l : List Int} (h : OwnJ B w v l) : RdI w v l := h.own.rdS
theorem infoJ : (Try.prog.info? 3).map (fun i => (i.zero, i.size, i.bytes)) = some (some (.int .i64 0), 1, 8) := by kernel_rfl
theorem one_int (l : List Int) : ∀ u ∈ l.map (Value.int .i64), u.oneCell' = true := by
 intro u hu
 obtain ⟨x, _, rfl⟩ := List.mem_map.1 hu
 rfl
set_option maxRecDepth 100000 in
set_option maxHeartbeats 400000 in
theorem copyInt_any (w : World) (v : Value) (l : List Int) (h : RdI w v l) (hm : l.length * 8 ≤ 140737488355328) :
  Calls Try.prog 7 #[v] w fun e w' => ∃ v', e = .returned v' ∧ OwnJ w.heap.size w' v' l ∧ Below w.heap.size w w' := by
 obtain ⟨a, c, rfl, l1, m1, n1, r1⟩ := id h
 obtain ⟨i0, hi, hz0, hz1, hz2⟩ := info_parts infoJ
 cases a with
 | none =>
  have : l = [] := by
   rcases r1 with r1 | ⟨b, off, h, _⟩
   ·exact r1
   ·cases h
  subst this
  obtain rfl : c = 0 := n1 rfl
  go_enter Try.func7, Try.ntmps7
  go_wp2_with (at_builtin; refine wpList_append_own_none rfl _ _ 22 rfl w.heap.size 3 i0 1 Try.underlying22 hi (.slice none 0 0) 0 [] rfl (World.ownsRow_nil _ _ _ _) rfl ?_)
  go_ret
  exact ⟨_, rfl, World.ownsRow_nil _ _ _ _, Below.refl _ _⟩
 | some ad =>
  have n2 : ∀ j u, (l.map (Value.int .i64))[j]? = some u → w.cell? (ad.add j) = some u := by
   intro j u hj
   rw [List.getElem?_map] at hj
   obtain ⟨x, hx, rfl⟩ := Option.map_eq_some_iff.1 hj
   obtain ⟨b, off, e, h1⟩ := h.intAt hx
   obtain rfl : ad = ⟨b, off, none⟩ := by simpa using e
   have ea : (⟨b, off, none⟩ : Addr).add j = ⟨b, off + j, none⟩ := by
    by_cases h0 : j = 0
    ·subst h0; simp [Addr.add]
    ·simp [Addr.add, h0]
   rw [ea]
   exact h1
  have n1 : (l.map (Value.int .i64)).length = l.length * 1 := by simp
  have n3 := one_int l
  have n4 : 0 + l.length ≤ maxLen := by rw [show maxLen = 9223372036854775807 from rfl]; omega
  have n5 : (0 + l.length) * 8 ≤ 140737488355328 := by omega
  have N2 := hide n2
  clear n2 r1 h
  go_enter Try.func7, Try.ntmps7
  go_wp2_with (at_builtin; refine wpList_append_own _ rfl _ _ 22 rfl w.heap.size 3 i0 (.int .i64 0) 1 8 Try.underlying22 hi hz0 hz1 hz2 rfl (by decide) (.slice none 0 0) 0 [] rfl (World.ownsRow_nil _ _ _ _) ad l.length c (l.map (Value.int .i64)) rfl n1 N2.out n3 n4 n5 (Nat.le_refl _) ?_; intro v1 w3 hown1 hgrow1 hnil1)
  go_ret
  refine ⟨_, rfl, ?_, (Below.refl _ _).grown hgrow1 (Nat.le_refl _) (fun k h => by cases h)⟩
  simpa using hown1
end Go.Proofs.Ytnkbolgbpdjpcaa

namespace Go.Proofs.Ytnkbolgbpdjpcaa
open Go.RowKit
end Go.Proofs.Ytnkbolgbpdjpcaa

namespace Go.Proofs.Ytnkbolgbpdjpcaa
open Go.RowKit
abbrev RdBl (w : World) (v : Value) (l : List Bool) : Prop := RdS Shp.bool w v l
theorem ret_two {a b c d : Value} (h1 : a = c) (h2 : b = d) : Ending.returned (.tuple #[a, b]) = .returned (.tuple #[c, d]) := by rw [h1, h2]
end Go.Proofs.Ytnkbolgbpdjpcaa

namespace Go.Proofs.Ytnkbolgbpdjpcaa
open Go.RowKit
def encI (n : Int) : Value := .int .i64 n
def OwnI (B : Nat) (w : World) (v : Value) (xs : List Int) : Prop := w.ownsRow B 3 1 v xs.length (xs.map encI)
theorem OwnI.nil (B : Nat) (w : World) : OwnI B w (.slice none 0 0) [] := World.ownsRow_nil _ _ _ _
theorem OwnI.below {B : Nat} {w w' : World} {v : Value} {xs : List Int} (h : OwnI B w v xs) {C : Nat} (hC : w.heap.size ≤ C) (hb : Below C w w') : OwnI B w' v xs := by
 rcases h with ⟨h1, h2 | ⟨g, cap, cur, hv, hB, hg, hr⟩⟩
 ·exact ⟨h1, .inl h2⟩
 ·refine ⟨h1, .inr ⟨g, cap, cur, hv, hB, ?_, hr⟩⟩
  rw [hb.block g (by have := lt_of_block hg; omega)]; exact hg
theorem OwnI.mono {B C : Nat} {w : World} {v : Value} {xs : List Int} (h : OwnI B w v xs) (hC : C ≤ B) : OwnI C w v xs := by
 rcases h with ⟨h1, h2 | ⟨g, cap, cur, hv, hB, hr⟩⟩
 ·exact ⟨h1, .inl h2⟩
 ·exact ⟨h1, .inr ⟨g, cap, cur, hv, by omega, hr⟩⟩
theorem OwnI.from {B : Nat} {w : World} {v : Value} {xs : List Int} (h : OwnI B w v xs) : ∀ k, v.ownBlock = some k → B ≤ k := by
 intro k hk
 rcases h.2 with ⟨rfl, _⟩ | ⟨g, cap, cur, rfl, hb, _⟩
 ·cases hk
 ·simp only [Value.ownBlock, Option.some.injEq] at hk
  omega
theorem OwnI.slice {B : Nat} {w : World} {v : Value} {xs : List Int} (h : OwnI B w v xs) : ∃ ao cap, v = .slice ao xs.length cap ∧ xs.length ≤ cap ∧ cap ≤ maxLen ∧ (xs = [] ∨ ∃ g, ao = some ⟨g, 0, none⟩ ∧ ∀ i, i < xs.length → w.cell? ⟨g, i, none⟩ = some (.int .i64 (xs.getD i 0))) := by
 have h' := h
 rcases h.2 with ⟨rfl, h0⟩ | ⟨g, cap, cur, rfl, hb, hg, hn, hm, hs, ht⟩
 ·rw [h0]; exact ⟨none, 0, rfl, Nat.le_refl _, Nat.zero_le _, .inl (List.eq_nil_of_length_eq_zero h0)⟩
 ·refine ⟨_, cap, rfl, hn, hm, .inr ⟨g, rfl, fun i hi => ?_⟩⟩
  rw [h'.cellAt i (by omega)]
  simp [encI, hi]
end Go.Proofs.Ytnkbolgbpdjpcaa

namespace Go.Proofs.Ytnkbolgbpdjpcaa
open Go.ChangeShapes Go.WideShapes Go.ChangeAt Go.RowKit
theorem own : ownKnob Try.prog.godebug = none := by kernel_rfl
theorem laidOut : laidOutB Try.prog = true := by kernel_rfl
theorem bulk_pos {H : Type} (d : DataW H) : 1 ≤ Rows.uptoBulk d := by
 cases d with
 | lit l => cases l <;> simp [Rows.uptoBulk]
 | nil => simp [Rows.uptoBulk]
 | ptr d => simp [Rows.uptoBulk]
 | slice el sp => simp [Rows.uptoBulk]
 | agg ps => simp [Rows.uptoBulk]
 | iface t d => simp [Rows.uptoBulk]
 | map es => simp [Rows.uptoBulk]
 | held h => simp [Rows.uptoBulk]
end Go.Proofs.Ytnkbolgbpdjpcaa

namespace Go.Proofs.Ytnkbolgbpdjpcaa
open Go.ChangeShapes Go.WideShapes Go.ChangeAt Go.RowKit
structure Opens {α : Type} (s : Shp α) (t : TypeId) (fits : α → Prop) (bulk : α → Nat) : Prop where
 cells : Try.prog.cellsOf t = s.n
 opened : ∀ {H : Type} {enc : TypeId × Value → H} {W : World} {fuel : Nat} {cs : List Value} {x : DataW H × List MemPlace}, DataW.trod enc Try.prog W 0 (fun _ => true) true fuel t cs = some x →
  ∃ a, s.rd W cs a ∧ ((∀ n ∈ x.1.weights Try.prog t, n ≤ reachBytes) → fits a) ∧ bulk a ≤ Rows.uptoBulk x.1
theorem opens_intw {k : IntKind} {t : TypeId} (ht : Try.prog.underlying t = some (.int k)) (hc : Try.prog.cellsOf t = 1) : Opens (Shp.int k) t (fun z => (Lit.int k z).wf = true) (fun _ => 1) := by
 refine ⟨hc, fun {H enc W fuel cs x} h => ?_⟩
 obtain ⟨z, hz, _, hw⟩ := DataW.trod_int ht h
 exact ⟨z, hz, fun _ => hw, bulk_pos _⟩
theorem choose_list {α : Type} {p : Nat → α → Prop} : ∀ n : Nat, (∀ i, i < n → ∃ x, p i x) → ∃ xs : List α, xs.length = n ∧ ∀ i x, xs[i]? = some x → p i x
 | 0, _ => ⟨[], rfl, fun i x h => by simp at h⟩
 | n + 1, h => by
  obtain ⟨xs, h1, h2⟩ := choose_list n fun i hi => h i (by omega)
  obtain ⟨x, hx⟩ := h n (by omega)
  refine ⟨xs ++ [x], by simp [h1], fun i y hy => ?_⟩
  by_cases e : i < n
  ·rw [List.getElem?_append_left (by omega)] at hy
   exact h2 i y hy
  ·rw [List.getElem?_append_right (by omega)] at hy
   have hi : i - xs.length = 0 := by
    have := (List.getElem?_eq_some_iff.1 hy).1
    simp at this; omega
   rw [hi] at hy
   simp at hy; subst hy
   obtain rfl : i = n := by omega
   exact hx
theorem weightsAll_mem {H : Type} {e : TypeId} {d : DataW H} {l : List (DataW H)} (hd : d ∈ l) {n : Nat} (hn : n ∈ d.weights Try.prog e) : n ∈ DataW.weightsAll Try.prog e l := by
 induction l with
 | nil => cases hd
 | cons x r ih =>
  simp only [DataW.weightsAll, List.mem_append]
  rcases List.mem_cons.1 hd with h | h
  ·subst h; exact .inl hn
  ·exact .inr (ih h)
theorem bulk_sum {H α : Type} (bulk : α → Nat) : ∀ (xs : List α) (D : Nat → DataW H), (∀ i x, xs[i]? = some x → bulk x ≤ Rows.uptoBulk (D i)) → (xs.map bulk).sum ≤ Rows.uptoBulkAll ((List.range xs.length).map D)
 | [], _, _ => by simp
 | x :: xs, D, h => by
  simp only [List.length_cons, List.range_succ_eq_map, List.map_cons, List.map_map, List.sum_cons, Rows.uptoBulkAll]
  have h0 := h 0 x rfl
  have := bulk_sum bulk xs (D ∘ Nat.succ) fun i y hy => h (i + 1) y (by simpa using hy)
  omega
theorem Opens.list {α : Type} {s : Shp α} {e t T bts : Nat} {fits : α → Prop} {bulk : α → Nat} (o : Opens s e fits bulk) (ht : Try.prog.underlying t = some (.slice e)) (hc : Try.prog.cellsOf t = 1) (hb : Try.prog.bytesOf e = bts) (hn : 0 < s.n) :
  Opens (Shp.list T s) t (fun xs => xs.length * bts ≤ 140737488351232 ∧ ∀ x ∈ xs, fits x) (fun xs => (xs.map bulk).sum) := by
 refine ⟨hc, fun {H enc W fuel cs x} h => ?_⟩
 rcases Deep.open_slice ht h with ⟨rfl, rfl⟩ | ⟨a, len, cap, m, n, D, Pl, rfl, _, hl, hm, hmm, rfl, hx⟩
 ·exact ⟨[], ⟨_, rfl, RdS.nil _ _⟩, fun _ => ⟨by simp, fun x hx => by cases hx⟩, by simp⟩
 simp only [if_true] at hmm
 subst hmm
 have each : ∀ i, i < len → ∃ x, (∃ c, s.rd W c x ∧ ∀ j u, c[j]? = some u → W.cell? ((a.add (i * s.n)).add j) = some u) ∧ ((∀ n ∈ (D i).weights Try.prog e, n ≤ reachBytes) → fits x) ∧ bulk x ≤ Rows.uptoBulk (D i) := by
  intro i hi
  obtain ⟨cs', h1, h2⟩ := hx i (by omega)
  obtain ⟨x, hr, hf, hbk⟩ := o.opened h2
  rw [o.cells] at h1
  obtain ⟨_, hlen, hcell⟩ := World.cells?_some h1
  refine ⟨x, ⟨cs', hr, fun j u hj => ?_⟩, hf, hbk⟩
  have hjl : j < cs'.length := (List.getElem?_eq_some_iff.1 hj).1
  have := hcell j (by omega)
  rw [this]; exact hj
 obtain ⟨xs, h1, h2⟩ := choose_list len each
 refine ⟨xs, ⟨_, rfl, some a, m, by rw [h1], by omega, hm, (fun h => by cases h), ?_⟩, fun hw => ⟨?_, fun x hx' => ?_⟩, ?_⟩
 ·by_cases h0 : len = 0
  ·left; exact List.eq_nil_of_length_eq_zero (by omega)
  ·right
   obtain ⟨b, off, spot⟩ := a
   obtain ⟨x0, hx0⟩ : ∃ x0, xs[0]? = some x0 := ⟨_, List.getElem?_eq_getElem (by omega)⟩
   obtain ⟨⟨c, hr, hc'⟩, _⟩ := h2 0 x0 hx0
   have hcl := s.rd_n hr
   obtain ⟨u0, hu0⟩ : ∃ u0, c[0]? = some u0 := ⟨_, List.getElem?_eq_getElem (by omega)⟩
   have hspot : spot = none := by
    have := World.cell?_spot (hc' 0 u0 hu0)
    simpa [Addr.add] using this
   subst hspot
   refine ⟨b, off, rfl, fun i x hxi => ?_⟩
   obtain ⟨⟨c, hr, hc'⟩, _⟩ := h2 i x hxi
   refine ⟨c, hr, fun j u hj => ?_⟩
   have := hc' j u hj
   have ea : ((⟨b, off, none⟩ : Addr).add (i * s.n)).add j = ⟨b, off + i * s.n + j, none⟩ := by
    rw [Deep.add_add]
    unfold Addr.add
    split <;> simp_all [Nat.add_assoc]
   rw [ea] at this
   exact this
 ·have := hw ((len + (m - len)) * bts) (by simp [DataW.weights, ht, hb])
  simp only [reachBytes] at this
  rw [h1]
  have h3 : len * bts ≤ (len + (m - len)) * bts := Nat.mul_le_mul_right _ (by omega)
  omega
 ·obtain ⟨i, hi, e⟩ := List.getElem_of_mem hx'
  have hxi : xs[i]? = some x := by rw [List.getElem?_eq_getElem hi, e]
  refine (h2 i x hxi).2.1 fun n hn => hw n ?_
  simp only [DataW.weights, ht, List.mem_cons, List.mem_append]
  right; left
  exact weightsAll_mem (d := D i) (List.mem_map.2 ⟨i, List.mem_range.2 (by omega), rfl⟩) hn
 ·have := bulk_sum bulk xs D fun i x hxi => (h2 i x hxi).2.2
  rw [h1] at this
  simp only [Rows.uptoBulk]
  omega
theorem Opens.pair {α β : Type} {s : Shp α} {r : Shp β} {t : TypeId} {f0 f1 : Field} {fa : α → Prop} {fb : β → Prop} {ba : α → Nat} {bb : β → Nat} (o : Opens s f0.type fa ba) (q : Opens r f1.type fb bb) (ht : Try.prog.underlying t = some (.struct #[f0, f1])) (hc : Try.prog.cellsOf t = s.n + r.n) (h0 : f0.offset = 0) (h1 : f1.offset = s.n) :
  Opens (s.pair r) t (fun z => fa z.1 ∧ fb z.2) (fun z => ba z.1 + bb z.2) := by
 refine ⟨hc, fun {H enc W fuel cs x} h => ?_⟩
 obtain ⟨xs, k, hk, hxy, hlen, hxl, hf⟩ := DataW.trod_struct ht h
 match xs, hxl with
 | [y0, y1], _ =>
  have g0 := hf 0 f0 rfl
  have g1 := hf 1 f1 rfl
  rw [h0, o.cells, List.drop_zero] at g0
  rw [h1, q.cells] at g1
  obtain ⟨a, ra, fa', ba'⟩ := o.opened (x := y0) (by simpa using g0)
  obtain ⟨b, rb, fb', bb'⟩ := q.opened (x := y1) (by simpa using g1)
  have hcs : cs = cs.take s.n ++ (cs.drop s.n).take r.n := by
   have : (cs.drop s.n).take r.n = cs.drop s.n := List.take_of_length_le (by rw [List.length_drop, hlen, hc]; omega)
   rw [this, List.take_append_drop]
  obtain ⟨d, p⟩ := x
  simp only [Prod.mk.injEq] at hxy
  obtain ⟨rfl, _⟩ := hxy
  refine ⟨(a, b), ⟨_, _, hcs, ra, rb⟩, fun hw => ⟨fa' fun n hn => hw n ?_, fb' fun n hn => hw n ?_⟩, ?_⟩
  ·simp only [DataW.weights, ht]
   exact DataW.weights_mem_each (j := 0) (t := f0.type) (d := y0.1) rfl rfl n hn
  ·simp only [DataW.weights, ht]
   exact DataW.weights_mem_each (j := 1) (t := f1.type) (d := y1.1) rfl rfl n hn
  ·simp only [List.map_cons, List.map_nil, Rows.uptoBulk, Rows.uptoBulkAll]
   omega
theorem reach_of {H : Type} {ts : List TypeId} {ds : List (DataW H)} (hsz : (DataW.weightsEach Try.prog ts ds).all (· ≤ reachBytes) = true) {j : Nat} {t : TypeId} {d : DataW H} (ht : ts[j]? = some t) (hd : ds[j]? = some d) : ∀ n ∈ d.weights Try.prog t, n ≤ reachBytes := by
 intro n hn
 have := List.all_eq_true.1 hsz _ (DataW.weights_mem_each ht hd _ hn)
 simpa using this
end Go.Proofs.Ytnkbolgbpdjpcaa
