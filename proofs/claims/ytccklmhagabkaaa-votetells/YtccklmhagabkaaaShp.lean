/-
  Shapes: how a plain datum lies in memory: as it is read ('rd': cells, in a world), and as the call's own ('own': in just the blocks F, each of which may be written). Leaves (numbers, truth values, octets), pairs, lists. For every seat.
-/
import Derived.Deep.AppendLies
import Derived.Deep.WholeRow
import Derived.Test.YtccklmhagabkaaaApp
namespace Go.Proofs.Ytccklmhagabkaaa
open Go.RowKit
set_option linter.unusedVariables false

structure Shp (α : Type) where
  n : Nat
  rd : World → List Value → α → Prop
  own : List Nat → World → List Value → α → Prop
  rd_n : ∀ {w cs x}, rd w cs x → cs.length = n
  rd_to : ∀ {w w' : World} {cs x}, rd w cs x → (∀ b, b < w.heap.size → w'.heap[b]? = w.heap[b]?) → rd w' cs x
  rd_one : ∀ {w cs x}, rd w cs x → ∀ u ∈ cs, u.oneCell' = true
  own_rd : ∀ {F w cs x}, own F w cs x → rd w cs x
  own_to : ∀ {F} {w w' : World} {cs x}, own F w cs x → (∀ b, b ∈ F → w'.heap[b]? = w.heap[b]?) → own F w' cs x
  own_lt : ∀ {F w cs x}, own F w cs x → ∀ b, b ∈ F → b < w.heap.size

/-- of the call's own, from block B on, each block once -/
def Own {α : Type} (s : Shp α) (B : Nat) (w : World) (cs : List Value) (x : α) : Prop := ∃ F, s.own F w cs x ∧ F.Nodup ∧ ∀ b, b ∈ F → B ≤ b

/-- a struct of two cells in a block of its own -/
theorem boxed2 (w : World) (x y : Value) (t : TypeId) : ∃ u, u = w.alloc (.cells #[x, y] t) ∧ u.cell? ⟨w.heap.size, 0, none⟩ = some x ∧ u.cell? ⟨w.heap.size, 1, none⟩ = some y ∧ Below w.heap.size w u ∧ u.heap.size = w.heap.size + 1 := by
  refine ⟨_, rfl, ?_, ?_, (Below.refl _ _).alloc (Nat.le_refl _) _, by simp⟩
  · rw [cell_of_row _ _ 0 _ _ (0, 0) (heap_alloc_last w _)]; rfl
  · rw [cell_of_row _ _ 1 _ _ (0, 0) (heap_alloc_last w _)]; rfl

theorem heap_set2 {u : World} {g : Nat} {a b : Value} {t : TypeId} {fr : Nat × Nat} (h : u.heap[g]? = some (.cells #[a, b] t fr)) (x y : Value) : ((u.setCell ⟨g, 0, none⟩ x).setCell ⟨g, 1, none⟩ y).heap[g]? = some (.cells #[x, y] t fr) := by
  simp [World.setCell, Array.getElem?_modify, h]
theorem below_set2 {B : Nat} {w u : World} (h : Below B w u) {g : Nat} (hg : B ≤ g) (x y : Value) : Below B w ((u.setCell ⟨g, 0, none⟩ x).setCell ⟨g, 1, none⟩ y) :=
  (h.setCell (p := ⟨g, 0, none⟩) hg x).setCell (p := ⟨g, 1, none⟩) hg y
theorem ret_cell {P : Program} {fn : Func} {R : Ending → World → Prop} {a : Act} {w : World} {p : Tmp} {ty : TypeId} (h : fn.results = #[.cell p ty]) (hd : a.defers = []) (g : Nat) (hp : a.tmps.getD p undef = .pointer (some ⟨g, 0, none⟩))
    (x y : Value) (t : TypeId) (fr : Nat × Nat) (hg : w.heap[g]? = some (.cells #[x, y] t fr)) (d : TypeDesc) (hu : P.underlying ty = some d) (hr : (match d with | .struct _ | .array _ _ => true | _ => false) = true) (hi : (P.info? ty).map (·.size) = some 2)
    (hR : R (.returned (.agg #[x, y])) w) : bodyPost P fn R .ret a w := by
  refine bodyPost_ret (v := .agg #[x, y]) ?_ hd hR
  have hp' : a.tmps[p]?.getD undef = .pointer (some ⟨g, 0, none⟩) := by simpa using hp
  simp [results, h, hp', asAddr, run_loadVar_row w g t ty #[x, y] fr d hg hu hr hi]
theorem ret_cellT {P : Program} {fn : Func} {R : Ending → World → Prop} {a : Act} {w : World} {p u1 : Tmp} {ty : TypeId} (h : fn.results = #[.cell p ty, .tmp u1]) (hd : a.defers = []) (g : Nat) (hp : a.tmps.getD p undef = .pointer (some ⟨g, 0, none⟩))
    (x y : Value) (t : TypeId) (fr : Nat × Nat) (hg : w.heap[g]? = some (.cells #[x, y] t fr)) (d : TypeDesc) (hu : P.underlying ty = some d) (hr : (match d with | .struct _ | .array _ _ => true | _ => false) = true) (hi : (P.info? ty).map (·.size) = some 2)
    (v1 : Value) (e1 : a.tmps.getD u1 undef = v1) (hR : R (.returned (.tuple #[.agg #[x, y], v1])) w) : bodyPost P fn R .ret a w := by
  refine bodyPost_ret (v := .tuple #[.agg #[x, y], v1]) ?_ hd hR
  have hp' : a.tmps[p]?.getD undef = .pointer (some ⟨g, 0, none⟩) := by simpa using hp
  have e1' : a.tmps[u1]?.getD undef = v1 := by simpa using e1
  simp [results, h, hp', e1', asAddr, run_loadVar_row w g t ty #[x, y] fr d hg hu hr hi]

section
variable {α β : Type}

theorem Shp.to (s : Shp α) {w w' : World} {cs : List Value} {x : α} (h : s.rd w cs x) {B : Nat} (hB : w.heap.size ≤ B) (hb : Below B w w') : s.rd w' cs x :=
  s.rd_to h fun b hb' => hb.block b (by omega)
theorem Shp.to0 (s : Shp α) {w w' : World} {cs : List Value} {x : α} (h : s.rd w cs x) (hb : Below w.heap.size w w') : s.rd w' cs x := s.to h (Nat.le_refl _) hb
theorem Own.rd {s : Shp α} {B : Nat} {w : World} {cs : List Value} {x : α} (h : Own s B w cs x) : s.rd w cs x := let ⟨_, h, _⟩ := h; s.own_rd h
theorem Own.mono {s : Shp α} {B C : Nat} {w : World} {cs : List Value} {x : α} (h : Own s B w cs x) (hC : C ≤ B) : Own s C w cs x :=
  let ⟨F, h1, h2, h3⟩ := h; ⟨F, h1, h2, fun b hb => Nat.le_trans hC (h3 b hb)⟩
theorem Own.below {s : Shp α} {B C : Nat} {w w' : World} {cs : List Value} {x : α} (h : Own s B w cs x) (hC : w.heap.size ≤ C) (hb : Below C w w') : Own s B w' cs x :=
  let ⟨F, h1, h2, h3⟩ := h; ⟨F, s.own_to h1 fun b hb' => hb.block b (by have := s.own_lt h1 b hb'; omega), h2, h3⟩
theorem Own.to {s : Shp α} {B : Nat} {w w' : World} {cs : List Value} {x : α} (h : Own s B w cs x) (hb : Below w.heap.size w w') : Own s B w' cs x := h.below (Nat.le_refl _) hb
/-- what is written lies below B, or is no block of its own -/
theorem Own.grown {s : Shp α} {B : Nat} {w w' : World} {row : Option Nat} {cs : List Value} {x : α} (h : Own s B w cs x) (hg : w.grownBy w' row) (hr : ∀ k, row = some k → k < B) : Own s B w' cs x :=
  let ⟨F, h1, h2, h3⟩ := h; ⟨F, s.own_to h1 fun b hb' => hg.block b (s.own_lt h1 b hb') (fun e => by have := hr b e.symm; have := h3 b hb'; omega), h2, h3⟩

theorem Own.set {s : Shp α} {B : Nat} {w : World} {cs : List Value} {x : α} (h : Own s B w cs x) {a : Addr} (ha : a.block < B) (u : Value) : Own s B (w.setCell a u) cs x :=
  let ⟨F, h1, h2, h3⟩ := h; ⟨F, s.own_to h1 fun b hb' => Below.heap_setCell _ _ _ _ (fun e => by have := h3 b hb'; omega), h2, h3⟩

/-- a number of kind k -/
def Shp.int (k : IntKind) : Shp Int where
  n := 1
  rd _ cs x := cs = [.int k x]
  own F _ cs x := F = [] ∧ cs = [.int k x]
  rd_n h := by rw [h]; rfl
  rd_to h _ := h
  rd_one h u hu := by rw [h] at hu; simp at hu; subst hu; rfl
  own_rd h := h.2
  own_to h _ := h
  own_lt h b hb := by rw [h.1] at hb; cases hb
def Shp.bool : Shp Bool where
  n := 1
  rd _ cs x := cs = [.bool x]
  own F _ cs x := F = [] ∧ cs = [.bool x]
  rd_n h := by rw [h]; rfl
  rd_to h _ := h
  rd_one h u hu := by rw [h] at hu; simp at hu; subst hu; rfl
  own_rd h := h.2
  own_to h _ := h
  own_lt h b hb := by rw [h.1] at hb; cases hb


/-- a struct of two -/
def Shp.pair (s : Shp α) (t : Shp β) : Shp (α × β) where
  n := s.n + t.n
  rd w cs x := ∃ c d, cs = c ++ d ∧ s.rd w c x.1 ∧ t.rd w d x.2
  own F w cs x := ∃ c d G H, cs = c ++ d ∧ F = G ++ H ∧ s.own G w c x.1 ∧ t.own H w d x.2
  rd_n := by rintro w cs x ⟨c, d, rfl, h1, h2⟩; rw [List.length_append, s.rd_n h1, t.rd_n h2]
  rd_to := by rintro w w' cs x ⟨c, d, rfl, h1, h2⟩ hb; exact ⟨c, d, rfl, s.rd_to h1 hb, t.rd_to h2 hb⟩
  rd_one := by
    rintro w cs x ⟨c, d, rfl, h1, h2⟩ u hu
    rcases List.mem_append.1 hu with h | h
    · exact s.rd_one h1 u h
    · exact t.rd_one h2 u h
  own_rd := by rintro F w cs x ⟨c, d, G, H, rfl, rfl, h1, h2⟩; exact ⟨c, d, rfl, s.own_rd h1, t.own_rd h2⟩
  own_to := by
    rintro F w w' cs x ⟨c, d, G, H, rfl, rfl, h1, h2⟩ hb
    exact ⟨c, d, G, H, rfl, rfl, s.own_to h1 fun b h => hb b (List.mem_append_left _ h), t.own_to h2 fun b h => hb b (List.mem_append_right _ h)⟩
  own_lt := by
    rintro F w cs x ⟨c, d, G, H, rfl, rfl, h1, h2⟩ b hb
    rcases List.mem_append.1 hb with h | h
    · exact s.own_lt h1 b h
    · exact t.own_lt h2 b h

theorem Own.pair {s : Shp α} {t : Shp β} {B C : Nat} {w w' : World} {c d : List Value} {x : α} {y : β} (h1 : Own s B w c x) (hb : Below w.heap.size w w') (h2 : Own t C w' d y) (hC : w.heap.size ≤ C) (hBC : B ≤ C) : Own (s.pair t) B w' (c ++ d) (x, y) := by
  obtain ⟨F, a1, a2, a3⟩ := h1
  obtain ⟨G, b1, b2, b3⟩ := h2
  refine ⟨F ++ G, ⟨c, d, F, G, rfl, rfl, s.own_to a1 fun b hb' => hb.block b (s.own_lt a1 b hb'), b1⟩, ?_, ?_⟩
  · refine List.nodup_append.2 ⟨a2, b2, fun x hx y hy e => ?_⟩
    have q1 := s.own_lt a1 x hx
    have q2 := b3 y hy
    omega
  · intro b hb'
    rcases List.mem_append.1 hb' with h | h
    · exact a3 b h
    · have := b3 b h; omega
/-- .. where the second was made first -/
theorem Own.pair' {s : Shp α} {t : Shp β} {B C : Nat} {w w' : World} {c d : List Value} {x : α} {y : β} (h2 : Own t B w d y) (hb : Below w.heap.size w w') (h1 : Own s C w' c x) (hC : w.heap.size ≤ C) (hBC : B ≤ C) : Own (s.pair t) B w' (c ++ d) (x, y) := by
  obtain ⟨F, a1, a2, a3⟩ := h1
  obtain ⟨G, b1, b2, b3⟩ := h2
  refine ⟨F ++ G, ⟨c, d, F, G, rfl, rfl, a1, t.own_to b1 fun b hb' => hb.block b (t.own_lt b1 b hb')⟩, ?_, ?_⟩
  · refine List.nodup_append.2 ⟨a2, b2, fun x hx y hy e => ?_⟩
    have q1 := t.own_lt b1 y hy
    have q2 := a3 x hx
    omega
  · intro b hb'
    rcases List.mem_append.1 hb' with h | h
    · have := a3 b h; omega
    · exact b3 b h
theorem Own.fst {s : Shp α} {t : Shp β} {B : Nat} {w : World} {c d : List Value} {z : α × β} (h : Own (s.pair t) B w (c ++ d) z) (hc : c.length = s.n) : Own s B w c z.1 ∧ Own t B w d z.2 := by
  obtain ⟨F, ⟨c', d', G, H, e, rfl, h1, h2⟩, hn, hB⟩ := h
  have hl := s.rd_n (s.own_rd h1)
  obtain ⟨rfl, rfl⟩ := List.append_inj e (by rw [hc, hl])
  have := List.nodup_append.1 hn
  exact ⟨⟨G, h1, this.1, fun b hb => hB b (List.mem_append_left _ hb)⟩, ⟨H, h2, this.2.1, fun b hb => hB b (List.mem_append_right _ hb)⟩⟩
theorem Own.nums {k : IntKind} (B : Nat) (w : World) (x : Int) : Own (Shp.int k) B w [.int k x] x := ⟨[], ⟨rfl, rfl⟩, List.nodup_nil, fun b hb => by cases hb⟩

/-! lists -/

def ownEach (s : Shp α) (w : World) : List Nat → List Value → List α → Prop
  | F, cc, [] => F = [] ∧ cc = []
  | F, cc, x :: xs => ∃ F1 F2 c1 c2, F = F1 ++ F2 ∧ cc = c1 ++ c2 ∧ s.own F1 w c1 x ∧ ownEach s w F2 c2 xs

theorem ownEach_len {s : Shp α} {w : World} : ∀ {xs : List α} {F cc}, ownEach s w F cc xs → cc.length = xs.length * s.n
  | [], F, cc, h => by rw [h.2]; simp
  | x :: xs, F, cc, ⟨F1, F2, c1, c2, _, e, h1, h2⟩ => by
    rw [e, List.length_append, ownEach_len h2, s.rd_n (s.own_rd h1), List.length_cons, Nat.add_mul, Nat.one_mul, Nat.add_comm]
theorem ownEach_to {s : Shp α} {w w' : World} : ∀ {xs : List α} {F cc}, ownEach s w F cc xs → (∀ b, b ∈ F → w'.heap[b]? = w.heap[b]?) → ownEach s w' F cc xs
  | [], F, cc, h, _ => h
  | x :: xs, F, cc, ⟨F1, F2, c1, c2, e1, e2, h1, h2⟩, hb => ⟨F1, F2, c1, c2, e1, e2, s.own_to h1 fun b h => hb b (by rw [e1]; exact List.mem_append_left _ h), ownEach_to h2 fun b h => hb b (by rw [e1]; exact List.mem_append_right _ h)⟩
theorem ownEach_lt {s : Shp α} {w : World} : ∀ {xs : List α} {F cc}, ownEach s w F cc xs → ∀ b, b ∈ F → b < w.heap.size
  | [], F, cc, h, b, hb => by rw [h.1] at hb; cases hb
  | x :: xs, F, cc, ⟨F1, F2, c1, c2, e1, e2, h1, h2⟩, b, hb => by
    rw [e1] at hb
    rcases List.mem_append.1 hb with h | h
    · exact s.own_lt h1 b h
    · exact ownEach_lt h2 b h
theorem ownEach_app {s : Shp α} {w : World} : ∀ {xs ys : List α} {F G cc dd}, ownEach s w F cc xs → ownEach s w G dd ys → ownEach s w (F ++ G) (cc ++ dd) (xs ++ ys)
  | [], ys, F, G, cc, dd, h, k => by obtain ⟨rfl, rfl⟩ := h; exact k
  | x :: xs, ys, F, G, cc, dd, ⟨F1, F2, c1, c2, e1, e2, h1, h2⟩, k => ⟨F1, F2 ++ G, c1, c2 ++ dd, by rw [e1, List.append_assoc], by rw [e2, List.append_assoc], h1, ownEach_app h2 k⟩
theorem ownEach_one {s : Shp α} {w : World} {F c} {x : α} (h : s.own F w c x) : ownEach s w F c [x] := ⟨F, [], c, [], by simp, by simp, h, rfl, rfl⟩
theorem ownEach_at {s : Shp α} {w : World} : ∀ {xs : List α} {F cc} (i : Nat) (x : α), ownEach s w F cc xs → xs[i]? = some x →
    ∃ F1 F2 F3 c1 c2 c3, F = F1 ++ (F2 ++ F3) ∧ cc = c1 ++ (c2 ++ c3) ∧ c1.length = i * s.n ∧ ownEach s w F1 c1 (xs.take i) ∧ s.own F2 w c2 x ∧ ownEach s w F3 c3 (xs.drop (i + 1))
  | [], F, cc, i, x, h, hx => by simp at hx
  | y :: xs, F, cc, 0, x, ⟨F1, F2, c1, c2, e1, e2, h1, h2⟩, hx => by
    simp at hx; subst hx
    exact ⟨[], F1, F2, [], c1, c2, e1, e2, by simp, ⟨rfl, rfl⟩, h1, h2⟩
  | y :: xs, F, cc, i + 1, x, ⟨F1, F2, c1, c2, e1, e2, h1, h2⟩, hx => by
    obtain ⟨G1, G2, G3, d1, d2, d3, rfl, rfl, hl, k1, k2, k3⟩ := ownEach_at i x h2 (by simpa using hx)
    refine ⟨F1 ++ G1, G2, G3, c1 ++ d1, d2, d3, by rw [e1, List.append_assoc], by rw [e2, List.append_assoc], ?_, ⟨F1, G1, c1, d1, rfl, rfl, h1, k1⟩, k2, k3⟩
    rw [List.length_append, hl, s.rd_n (s.own_rd h1), Nat.add_mul, Nat.one_mul, Nat.add_comm]

/-- the value v is a list of the xs in the world w -/
def RdS (s : Shp α) (w : World) (v : Value) (xs : List α) : Prop :=
  ∃ ao cap, v = .slice ao xs.length cap ∧ xs.length ≤ cap ∧ cap ≤ maxLen ∧ (ao = none → cap = 0) ∧
    (xs = [] ∨ ∃ b off, ao = some ⟨b, off, none⟩ ∧ ∀ i x, xs[i]? = some x → ∃ c, s.rd w c x ∧ ∀ j u, c[j]? = some u → w.cell? ⟨b, off + i * s.n + j, none⟩ = some u)
theorem RdS.slice {s : Shp α} {w : World} {v : Value} {xs : List α} (h : RdS s w v xs) : ∃ ao cap, v = .slice ao xs.length cap := by
  obtain ⟨ao, cap, rfl, _⟩ := h; exact ⟨_, _, rfl⟩

theorem RdS.to {s : Shp α} {w w' : World} {v : Value} {xs : List α} (h : RdS s w v xs) {B : Nat} (hB : w.heap.size ≤ B) (hb : Below B w w') : RdS s w' v xs := by
  obtain ⟨ao, cap, rfl, h1, h2, h3, h4⟩ := h
  refine ⟨ao, cap, rfl, h1, h2, h3, ?_⟩
  rcases h4 with h4 | ⟨b, off, rfl, hc⟩
  · exact .inl h4
  · refine .inr ⟨b, off, rfl, fun i x hx => ?_⟩
    obtain ⟨c, k1, k2⟩ := hc i x hx
    refine ⟨c, s.to k1 hB hb, fun j u hj => ?_⟩
    have := k2 j u hj
    rw [hb.cell (p := ⟨b, off + i * s.n + j, none⟩) (by have := cell_lt this; show b < B; omega)]
    exact this
theorem RdS.to0 {s : Shp α} {w w' : World} {v : Value} {xs : List α} (h : RdS s w v xs) (hb : Below w.heap.size w w') : RdS s w' v xs := h.to (Nat.le_refl _) hb
theorem RdS.nil (s : Shp α) (w : World) : RdS s w (.slice none 0 0) [] := ⟨none, 0, rfl, Nat.le_refl _, Nat.zero_le _, fun _ => rfl, .inl rfl⟩
theorem RdS.bd {s : Shp α} {w : World} {v : Value} {xs : List α} (h : RdS s w v xs) : xs.length ≤ 9223372036854775807 := by
  obtain ⟨ao, cap, rfl, h1, h2, _⟩ := h
  rw [show maxLen = 9223372036854775807 from rfl] at h2
  omega
/-- the element at i of a list whose elements have one cell -/
theorem RdS.at1 {s : Shp α} (hs : s.n = 1) {w : World} {a : Option Addr} {n cap : Nat} {xs : List α} (h : RdS s w (.slice a n cap) xs) {i : Nat} {x : α} (hx : xs[i]? = some x) :
    ∃ b off u, a = some ⟨b, off, none⟩ ∧ w.cell? ⟨b, off + i, none⟩ = some u ∧ s.rd w [u] x := by
  obtain ⟨ao, c, e, h1, h2, h3, h4⟩ := h
  cases e
  rcases h4 with rfl | ⟨b, off, rfl, hc⟩
  · simp at hx
  · obtain ⟨c, k1, k2⟩ := hc i x hx
    have := s.rd_n k1
    rw [hs] at this k2
    match c, this with
    | [u], _ =>
      have := k2 0 u rfl
      rw [Nat.mul_one, Nat.add_zero] at this
      exact ⟨b, off, u, rfl, this, k1⟩
/-- .. two cells -/
theorem RdS.at2 {s : Shp α} {t : Shp β} (hs : s.n = 1) (ht : t.n = 1) {w : World} {a : Option Addr} {n cap : Nat} {xs : List (α × β)} (h : RdS (s.pair t) w (.slice a n cap) xs) {i : Nat} {x : α × β} (hx : xs[i]? = some x) :
    ∃ b off u v, a = some ⟨b, off, none⟩ ∧ w.cell? ⟨b, off + i * 2, none⟩ = some u ∧ w.cell? ⟨b, off + i * 2 + 1, none⟩ = some v ∧ s.rd w [u] x.1 ∧ t.rd w [v] x.2 := by
  obtain ⟨ao, c, e, h1, h2, h3, h4⟩ := h
  cases e
  rcases h4 with rfl | ⟨b, off, rfl, hc⟩
  · simp at hx
  · obtain ⟨c, ⟨c1, c2, rfl, k1, k3⟩, k2⟩ := hc i x hx
    have e1 := s.rd_n k1
    have e2 := t.rd_n k3
    rw [show (s.pair t).n = 2 from by show s.n + t.n = 2; omega] at k2
    rw [hs] at e1
    rw [ht] at e2
    match c1, e1, c2, e2 with
    | [u], _, [v], _ => exact ⟨b, off, u, v, rfl, by simpa using k2 0 u rfl, by simpa using k2 1 v rfl, k1, k3⟩
theorem rows_at {w : World} {T n : Nat} {v : Value} {m : Nat} {cc : List Value} (h : w.ownsRow 0 T n v m cc) {g : Nat} {cap : Nat} (hv : v = .slice (some ⟨g, 0, none⟩) m cap) {j : Nat} {u : Value} (hj : cc[j]? = some u) : w.cell? ⟨g, j, none⟩ = some u := by
  subst hv
  rw [h.cellAt j (by rw [← h.1]; exact (List.getElem?_eq_some_iff.1 hj).1)]
  exact hj

/-- a list, whose elements' type is T -/
def Shp.list (T : Nat) (s : Shp α) : Shp (List α) where
  n := 1
  rd w cs xs := ∃ v, cs = [v] ∧ RdS s w v xs
  own F w cs xs := ∃ v cc G, cs = [v] ∧ w.ownsRow 0 T s.n v xs.length cc ∧ ownEach s w G cc xs ∧ F = v.ownBlock.toList ++ G
  rd_n := by rintro w cs x ⟨v, rfl, _⟩; rfl
  rd_to := by
    rintro w w' cs xs ⟨v, rfl, ao, cap, rfl, h1, h2, h3, h4⟩ hb
    refine ⟨_, rfl, ao, cap, rfl, h1, h2, h3, ?_⟩
    rcases h4 with h4 | ⟨b, off, rfl, hc⟩
    · exact .inl h4
    · refine .inr ⟨b, off, rfl, fun i x hx => ?_⟩
      obtain ⟨c, k1, k2⟩ := hc i x hx
      refine ⟨c, s.rd_to k1 hb, fun j u hj => ?_⟩
      have := k2 j u hj
      rw [World.cell?_of_block (w := w) (hb b (cell_lt this))]
      exact this
  rd_one := by
    rintro w cs x ⟨v, rfl, h⟩ u hu
    obtain ⟨ao, cap, rfl⟩ := h.slice
    simp at hu; subst hu; rfl
  own_rd := by
    rintro F w cs xs ⟨v, cc, G, rfl, h1, h2, _⟩
    refine ⟨v, rfl, ?_⟩
    rcases h1.2 with ⟨rfl, h0⟩ | ⟨g, cap, cur, hv, hb, hg, hn, hm, _⟩
    · rw [List.eq_nil_of_length_eq_zero h0]
      exact ⟨none, 0, rfl, Nat.le_refl _, Nat.zero_le _, fun _ => rfl, .inl rfl⟩
    · refine ⟨_, cap, hv, hn, hm, (fun h => by cases h), .inr ⟨g, 0, rfl, fun i x hx => ?_⟩⟩
      obtain ⟨F1, F2, F3, c1, c2, c3, _, e2, hl, _, k2, _⟩ := ownEach_at i x h2 hx
      refine ⟨c2, s.own_rd k2, fun j u hj => ?_⟩
      rw [Nat.zero_add]
      refine rows_at h1 hv ?_
      have hjl : j < c2.length := (List.getElem?_eq_some_iff.1 hj).1
      rw [e2, ← hl, List.getElem?_append_right (by omega), Nat.add_sub_cancel_left, List.getElem?_append_left hjl]
      exact hj
  own_to := by
    rintro F w w' cs xs ⟨v, cc, G, rfl, h1, h2, rfl⟩ hb
    refine ⟨v, cc, G, rfl, ⟨h1.1, ?_⟩, ownEach_to h2 fun b h => hb b (List.mem_append_right _ h), rfl⟩
    rcases h1.2 with h | ⟨g, cap, cur, rfl, h0, hg, r⟩
    · exact .inl h
    · exact .inr ⟨g, cap, cur, rfl, h0, (hb g (by simp [Value.ownBlock])).trans hg, r⟩
  own_lt := by
    rintro F w cs xs ⟨v, cc, G, rfl, h1, h2, rfl⟩ b hb
    rcases List.mem_append.1 hb with h | h
    · exact (World.ownsRow.lt h1 b (by simpa using h)).2
    · exact ownEach_lt h2 b h

theorem Own.rdS {T : Nat} {s : Shp α} {B : Nat} {w : World} {v : Value} {xs : List α} (h : Own (Shp.list T s) B w [v] xs) : RdS s w v xs := by
  obtain ⟨v', e, r⟩ := h.rd
  simp at e; subst e; exact r

theorem Own.nil (T : Nat) (s : Shp α) (B : Nat) (w : World) : Own (Shp.list T s) B w [.slice none 0 0] [] :=
  ⟨[], ⟨_, [], [], rfl, World.ownsRow_nil _ _ _ _, ⟨rfl, rfl⟩, by simp [Value.ownBlock]⟩, List.nodup_nil, fun b hb => by cases hb⟩
theorem rows_base {w : World} {T n B C : Nat} {v : Value} {m : Nat} {cc : List Value} (h : w.ownsRow B T n v m cc) (hC : ∀ b, v.ownBlock = some b → C ≤ b) : w.ownsRow C T n v m cc := by
  refine ⟨h.1, ?_⟩
  rcases h.2 with h2 | ⟨g, cap, cur, rfl, h0, r⟩
  · exact .inl h2
  · exact .inr ⟨g, cap, cur, rfl, hC g rfl, r⟩
/-- make([]T, 0, cap) -/
theorem Own.cap (T : Nat) (s : Shp α) {B : Nat} {w : World} {v : Value} (h : w.ownsRow B T s.n v 0 []) : Own (Shp.list T s) B w [v] [] := by
  refine ⟨v.ownBlock.toList, ⟨v, [], [], rfl, rows_base h fun _ _ => Nat.zero_le _, ⟨rfl, rfl⟩, by simp⟩, ?_, fun b hb => (World.ownsRow.lt h b (by simpa using hb)).1⟩
  cases v.ownBlock <;> simp

/-- in just the blocks F, each once -/
def OwnF (s : Shp α) (F : List Nat) (w : World) (cs : List Value) (x : α) : Prop := s.own F w cs x ∧ F.Nodup
theorem OwnF.own {s : Shp α} {F : List Nat} {B : Nat} {w : World} {cs : List Value} {x : α} (h : OwnF s F w cs x) (hB : ∀ b, b ∈ F → B ≤ b) : Own s B w cs x := ⟨F, h.1, h.2, hB⟩
theorem Own.foot {s : Shp α} {B : Nat} {w : World} {cs : List Value} {x : α} (h : Own s B w cs x) : ∃ F, OwnF s F w cs x ∧ ∀ b, b ∈ F → B ≤ b := let ⟨F, h1, h2, h3⟩ := h; ⟨F, ⟨h1, h2⟩, h3⟩
theorem OwnF.rd {s : Shp α} {F : List Nat} {w : World} {cs : List Value} {x : α} (h : OwnF s F w cs x) : s.rd w cs x := s.own_rd h.1
theorem OwnF.lt {s : Shp α} {F : List Nat} {w : World} {cs : List Value} {x : α} (h : OwnF s F w cs x) : ∀ b, b ∈ F → b < w.heap.size := s.own_lt h.1
theorem OwnF.keep {s : Shp α} {F : List Nat} {w w' : World} {cs : List Value} {x : α} (h : OwnF s F w cs x) (hb : ∀ b, b ∈ F → w'.heap[b]? = w.heap[b]?) : OwnF s F w' cs x := ⟨s.own_to h.1 hb, h.2⟩
theorem OwnF.to {s : Shp α} {F : List Nat} {w w' : World} {cs : List Value} {x : α} (h : OwnF s F w cs x) (hb : Below w.heap.size w w') : OwnF s F w' cs x := h.keep fun b hb' => hb.block b (h.lt b hb')
theorem OwnF.set {s : Shp α} {F : List Nat} {w : World} {cs : List Value} {x : α} (h : OwnF s F w cs x) {a : Addr} (ha : a.block ∉ F) (u : Value) : OwnF s F (w.setCell a u) cs x :=
  h.keep fun b hb' => Below.heap_setCell _ _ _ _ (fun e => ha (by rw [← e]; exact hb'))
theorem OwnF.split {s : Shp α} {t : Shp β} {F : List Nat} {w : World} {c d : List Value} {z : α × β} (h : OwnF (s.pair t) F w (c ++ d) z) (hc : c.length = s.n) :
    ∃ F1 F2, F = F1 ++ F2 ∧ OwnF s F1 w c z.1 ∧ OwnF t F2 w d z.2 ∧ ∀ b, b ∈ F1 → b ∉ F2 := by
  obtain ⟨⟨c', d', G, H, e, rfl, h1, h2⟩, hn⟩ := h
  have hl := s.rd_n (s.own_rd h1)
  obtain ⟨rfl, rfl⟩ := List.append_inj e (by rw [hc, hl])
  have := List.nodup_append.1 hn
  exact ⟨G, H, rfl, ⟨h1, this.1⟩, ⟨h2, this.2.1⟩, fun b hb hb' => this.2.2 b hb b hb' rfl⟩
theorem OwnF.join {s : Shp α} {t : Shp β} {F1 F2 : List Nat} {w : World} {c d : List Value} {x : α} {y : β} (h1 : OwnF s F1 w c x) (h2 : OwnF t F2 w d y) (hd : ∀ b, b ∈ F1 → b ∉ F2) : OwnF (s.pair t) (F1 ++ F2) w (c ++ d) (x, y) :=
  ⟨⟨c, d, F1, F2, rfl, rfl, h1.1, h2.1⟩, List.nodup_append.2 ⟨h1.2, h2.2, fun a ha b hb e => hd a ha (by rw [e]; exact hb)⟩⟩

/-- append of one: the row that is appended to, and what the list is then -/
theorem OwnF.grow {T : Nat} {s : Shp α} {F : List Nat} {w : World} {v : Value} {xs : List α} (h : OwnF (Shp.list T s) F w [v] xs) :
    ∃ cc, w.ownsRow 0 T s.n v xs.length cc ∧ (∀ b, v.ownBlock = some b → b ∈ F) ∧ ∀ (w1 w2 w3 : World) (c : List Value) (x : α) (g cap : Nat), Below w.heap.size w w1 → Own s w.heap.size w1 c x → Below w1.heap.size w1 w2 → w2.grownBy w3 v.ownBlock →
      w3.ownsRow 0 T s.n (.slice (some ⟨g, 0, none⟩) (xs.length + 1) cap) (xs.length + 1) (cc ++ c) → (v.ownBlock = some g ∨ g = w2.heap.size) →
      ∃ F', OwnF (Shp.list T s) F' w3 [.slice (some ⟨g, 0, none⟩) (xs.length + 1) cap] (xs ++ [x]) ∧ ∀ b, b ∈ F' → b ∈ F ∨ w.heap.size ≤ b := by
  obtain ⟨⟨v', cc, G, e, h1, h2, rfl⟩, hn⟩ := h
  simp at e; subst e
  refine ⟨cc, h1, fun b hb => by simp [hb], ?_⟩
  intro w1 w2 w3 c x g cap b1 he b2 hg hr hat
  obtain ⟨F2, k1, k2, k3⟩ := he
  have lt1 := ownEach_lt h2
  have hn' := List.nodup_append.1 hn
  have ng : g ∉ G := by
    intro hgG
    rcases hat with hat | rfl
    · exact hn'.2.2 g (by simp [hat]) g hgG rfl
    · have := lt1 _ hgG; have := b1.size; have := b2.size; omega
  have ng2 : g ∉ F2 := by
    intro hgF
    have q := k3 g hgF
    rcases hat with hat | rfl
    · have := (World.ownsRow.lt h1 g hat).2; omega
    · have := s.own_lt k1 _ hgF; have := b2.size; omega
  refine ⟨(g :: (G ++ F2)), ⟨⟨_, cc ++ c, G ++ F2, rfl, ?_, ?_, rfl⟩, ?_⟩, ?_⟩
  · rw [List.length_append]; exact hr
  · refine ownEach_app (ownEach_to h2 fun b hb => ?_) (ownEach_one (s.own_to k1 fun b hb => ?_))
    · rw [hg.block b (by have := lt1 b hb; have := b1.size; have := b2.size; omega) (fun e => hn'.2.2 b (by simp [← e]) b hb rfl), b2.block b (by have := lt1 b hb; have := b1.size; omega), b1.block b (lt1 b hb)]
    · rw [hg.block b (by have := s.own_lt k1 b hb; have := b2.size; omega) (fun e => by have := (World.ownsRow.lt h1 b e.symm).2; have := k3 b hb; omega), b2.block b (s.own_lt k1 b hb)]
  · refine List.nodup_cons.2 ⟨fun hm => ?_, List.nodup_append.2 ⟨hn'.2.1, k2, fun a ha b hb e => ?_⟩⟩
    · rcases List.mem_append.1 hm with q | q
      · exact ng q
      · exact ng2 q
    · have := lt1 a ha; have := k3 b hb; omega
  · intro b hb
    rcases List.mem_cons.1 hb with rfl | hb
    · rcases hat with hat | rfl
      · left; simp [hat]
      · right; have := b1.size; have := b2.size; omega
    · rcases List.mem_append.1 hb with q | q
      · left; simp [q]
      · right; exact k3 b q
/-- .. of the second of two -/
theorem OwnF.growSnd {γ : Type} {T : Nat} {s : Shp α} {r : Shp γ} {F : List Nat} {w : World} {c0 : List Value} {v : Value} {a : γ} {xs : List α} (h : OwnF (r.pair (Shp.list T s)) F w (c0 ++ [v]) (a, xs)) (hc : c0.length = r.n) :
    ∃ cc, w.ownsRow 0 T s.n v xs.length cc ∧ (∀ b, v.ownBlock = some b → b ∈ F) ∧ ∀ (w1 w2 w3 : World) (c : List Value) (x : α) (g cap : Nat), Below w.heap.size w w1 → Own s w.heap.size w1 c x → Below w1.heap.size w1 w2 → w2.grownBy w3 v.ownBlock →
      w3.ownsRow 0 T s.n (.slice (some ⟨g, 0, none⟩) (xs.length + 1) cap) (xs.length + 1) (cc ++ c) → (v.ownBlock = some g ∨ g = w2.heap.size) →
      ∃ F', OwnF (r.pair (Shp.list T s)) F' w3 (c0 ++ [.slice (some ⟨g, 0, none⟩) (xs.length + 1) cap]) (a, xs ++ [x]) ∧ ∀ b, b ∈ F' → b ∈ F ∨ w.heap.size ≤ b := by
  obtain ⟨F1, F2, rfl, h1, h2, hd⟩ := h.split hc
  obtain ⟨cc, k1, k2, k3⟩ := h2.grow
  refine ⟨cc, k1, fun b hb => by simp [k2 b hb], ?_⟩
  intro w1 w2 w3 c x g cap b1 he b2 hg hr hat
  obtain ⟨F', o1, o2⟩ := k3 w1 w2 w3 c x g cap b1 he b2 hg hr hat
  refine ⟨F1 ++ F', OwnF.join (h1.keep fun b hb => ?_) o1 (fun b hb hb' => ?_), fun b hb => ?_⟩
  · have := h1.lt b hb
    have := b1.size
    rw [hg.block b (by have := b2.size; omega) (fun e => hd b hb (k2 b e.symm)), b2.block b (by omega), b1.block b (h1.lt b hb)]
  · rcases o2 b hb' with q | q
    · exact hd b hb q
    · have := h1.lt b hb; omega
  · rcases List.mem_append.1 hb with q | q
    · left; simp [q]
    · rcases o2 b q with q | q
      · left; simp [q]
      · right; exact q
/-- .. of the first of two -/
theorem OwnF.growFst {γ : Type} {T : Nat} {s : Shp α} {r : Shp γ} {F : List Nat} {w : World} {c0 : List Value} {v : Value} {a : γ} {xs : List α} (h : OwnF ((Shp.list T s).pair r) F w ([v] ++ c0) (xs, a)) :
    ∃ cc, w.ownsRow 0 T s.n v xs.length cc ∧ (∀ b, v.ownBlock = some b → b ∈ F) ∧ ∀ (w1 w2 w3 : World) (c : List Value) (x : α) (g cap : Nat), Below w.heap.size w w1 → Own s w.heap.size w1 c x → Below w1.heap.size w1 w2 → w2.grownBy w3 v.ownBlock →
      w3.ownsRow 0 T s.n (.slice (some ⟨g, 0, none⟩) (xs.length + 1) cap) (xs.length + 1) (cc ++ c) → (v.ownBlock = some g ∨ g = w2.heap.size) →
      ∃ F', OwnF ((Shp.list T s).pair r) F' w3 ([.slice (some ⟨g, 0, none⟩) (xs.length + 1) cap] ++ c0) (xs ++ [x], a) ∧ ∀ b, b ∈ F' → b ∈ F ∨ w.heap.size ≤ b := by
  obtain ⟨F1, F2, rfl, h1, h2, hd⟩ := h.split rfl
  obtain ⟨cc, k1, k2, k3⟩ := h1.grow
  refine ⟨cc, k1, fun b hb => by simp [k2 b hb], ?_⟩
  intro w1 w2 w3 c x g cap b1 he b2 hg hr hat
  obtain ⟨F', o1, o2⟩ := k3 w1 w2 w3 c x g cap b1 he b2 hg hr hat
  refine ⟨F' ++ F2, OwnF.join o1 (h2.keep fun b hb => ?_) (fun b hb hb' => ?_), fun b hb => ?_⟩
  · have := h2.lt b hb
    have := b1.size
    rw [hg.block b (by have := b2.size; omega) (fun e => hd b (k2 b e.symm) hb), b2.block b (by omega), b1.block b (h2.lt b hb)]
  · rcases o2 b hb with q | q
    · exact hd b q hb'
    · have := h2.lt b hb'; omega
  · rcases List.mem_append.1 hb with q | q
    · rcases o2 b q with q | q
      · left; simp [q]
      · right; exact q
    · left; simp [q]

theorem rows_to {w w' : World} {B T n : Nat} {v : Value} {m : Nat} {cc : List Value} (h : w.ownsRow B T n v m cc) (hb : Below w.heap.size w w') : w'.ownsRow B T n v m cc := by
  refine ⟨h.1, ?_⟩
  rcases h.2 with h2 | ⟨g, cap, cur, e, h0, hg, r⟩
  · exact .inl h2
  · exact .inr ⟨g, cap, cur, e, h0, (hb.block g (lt_of_block hg)).trans hg, r⟩
/-- append(x, E{..}): the element is laid into a block of its own first -/
theorem lit_of {T n : Nat} {s : Shp α} {F : List Nat} {w : World} {v : Value} {cc : List Value} {R : World → List Nat → Value → α → Prop} (hrow : w.ownsRow 0 T s.n v n cc) (hm : ∀ b, v.ownBlock = some b → b ∈ F)
    (k3 : ∀ (w1 w2 w3 : World) (c : List Value) (x : α) (g cap : Nat), Below w.heap.size w w1 → Own s w.heap.size w1 c x → Below w1.heap.size w1 w2 → w2.grownBy w3 v.ownBlock →
      w3.ownsRow 0 T s.n (.slice (some ⟨g, 0, none⟩) (n + 1) cap) (n + 1) (cc ++ c) → (v.ownBlock = some g ∨ g = w2.heap.size) → ∃ F', R w3 F' (.slice (some ⟨g, 0, none⟩) (n + 1) cap) x ∧ ∀ b, b ∈ F' → b ∈ F ∨ w.heap.size ≤ b) :
    (∀ u, Below w.heap.size w u → u.ownsRow 0 T s.n v n cc) ∧ ∀ (w2 : World) (c : List Value) (x : α) (T' : Nat) (w3 w5 : World) (g cap : Nat), Below w.heap.size w w2 → Own s w.heap.size w2 c x → w3.heap = (w2.alloc (.cells c.toArray T')).heap → w3.os = w2.os → w3.tape = w2.tape → w3.output = w2.output → w3.grownBy w5 v.ownBlock →
      w5.ownsRow 0 T s.n (.slice (some ⟨g, 0, none⟩) (n + 1) cap) (n + 1) (cc ++ c) → (v.ownBlock = some g ∨ g = w2.heap.size + 1) →
      (∃ F', R w5 F' (.slice (some ⟨g, 0, none⟩) (n + 1) cap) x ∧ ∀ b, b ∈ F' → b ∈ F ∨ w.heap.size ≤ b) ∧ (∀ B, (∀ b, b ∈ F → B ≤ b) → B ≤ w.heap.size → Below B w w5) ∧ ∀ b, b < w.heap.size → b ∉ F → w5.heap[b]? = w.heap[b]? := by
  refine ⟨fun u hu => rows_to hrow hu, ?_⟩
  intro w2 c x T' w3 w5 g cap b1 he hh h1 h2 h3 hg hr hat
  have hsz : w3.heap.size = w2.heap.size + 1 := by rw [hh]; simp
  have b2 : Below w2.heap.size w2 w3 := ⟨h1, h2, h3, by omega, fun k hk => by rw [hh]; exact Below.heap_alloc _ _ _ hk⟩
  refine ⟨k3 w2 w3 w5 c x g cap b1 he b2 hg hr (by rw [hsz]; exact hat), fun B hF hB => ?_, fun b hb hnb => ?_⟩
  · exact (((b1.mono hB).trans (b2.mono (by have := b1.size; omega)))).grown hg (by have := b1.size; omega) (fun k hk => hF k (hm k hk))
  · have := b1.size
    rw [hg.block b (by omega) (fun e => hnb (hm b e.symm)), b2.block b (by omega), b1.block b hb]
theorem OwnF.lit {T n : Nat} {s : Shp α} {F : List Nat} {w : World} {v : Value} {xs : List α} (h : OwnF (Shp.list T s) F w [v] xs) (hn : xs.length = n) : ∃ cc,
    (∀ u, Below w.heap.size w u → u.ownsRow 0 T s.n v n cc) ∧ ∀ (w2 : World) (c : List Value) (x : α) (T' : Nat) (w3 w5 : World) (g cap : Nat), Below w.heap.size w w2 → Own s w.heap.size w2 c x → w3.heap = (w2.alloc (.cells c.toArray T')).heap → w3.os = w2.os → w3.tape = w2.tape → w3.output = w2.output → w3.grownBy w5 v.ownBlock →
      w5.ownsRow 0 T s.n (.slice (some ⟨g, 0, none⟩) (n + 1) cap) (n + 1) (cc ++ c) → (v.ownBlock = some g ∨ g = w2.heap.size + 1) →
      (∃ F', OwnF (Shp.list T s) F' w5 [.slice (some ⟨g, 0, none⟩) (n + 1) cap] (xs ++ [x]) ∧ ∀ b, b ∈ F' → b ∈ F ∨ w.heap.size ≤ b) ∧ (∀ B, (∀ b, b ∈ F → B ≤ b) → B ≤ w.heap.size → Below B w w5) ∧ ∀ b, b < w.heap.size → b ∉ F → w5.heap[b]? = w.heap[b]? := by
  subst hn
  obtain ⟨cc, k1, k2, k3⟩ := h.grow
  exact ⟨cc, lit_of (R := fun w5 F' v' x => OwnF (Shp.list T s) F' w5 [v'] (xs ++ [x])) k1 k2 k3⟩
theorem OwnF.litSnd {γ : Type} {T n : Nat} {s : Shp α} {r : Shp γ} {F : List Nat} {w : World} {c0 : List Value} {v : Value} {a : γ} {xs : List α} (h : OwnF (r.pair (Shp.list T s)) F w (c0 ++ [v]) (a, xs)) (hc : c0.length = r.n) (hn : xs.length = n) : ∃ cc,
    (∀ u, Below w.heap.size w u → u.ownsRow 0 T s.n v n cc) ∧ ∀ (w2 : World) (c : List Value) (x : α) (T' : Nat) (w3 w5 : World) (g cap : Nat), Below w.heap.size w w2 → Own s w.heap.size w2 c x → w3.heap = (w2.alloc (.cells c.toArray T')).heap → w3.os = w2.os → w3.tape = w2.tape → w3.output = w2.output → w3.grownBy w5 v.ownBlock →
      w5.ownsRow 0 T s.n (.slice (some ⟨g, 0, none⟩) (n + 1) cap) (n + 1) (cc ++ c) → (v.ownBlock = some g ∨ g = w2.heap.size + 1) →
      (∃ F', OwnF (r.pair (Shp.list T s)) F' w5 (c0 ++ [.slice (some ⟨g, 0, none⟩) (n + 1) cap]) (a, xs ++ [x]) ∧ ∀ b, b ∈ F' → b ∈ F ∨ w.heap.size ≤ b) ∧ (∀ B, (∀ b, b ∈ F → B ≤ b) → B ≤ w.heap.size → Below B w w5) ∧ ∀ b, b < w.heap.size → b ∉ F → w5.heap[b]? = w.heap[b]? := by
  subst hn
  obtain ⟨cc, k1, k2, k3⟩ := h.growSnd hc
  exact ⟨cc, lit_of (R := fun w5 F' v' x => OwnF (r.pair (Shp.list T s)) F' w5 (c0 ++ [v']) (a, xs ++ [x])) k1 k2 k3⟩
theorem OwnF.litFst {γ : Type} {T n : Nat} {s : Shp α} {r : Shp γ} {F : List Nat} {w : World} {c0 : List Value} {v : Value} {a : γ} {xs : List α} (h : OwnF ((Shp.list T s).pair r) F w ([v] ++ c0) (xs, a)) (hn : xs.length = n) : ∃ cc,
    (∀ u, Below w.heap.size w u → u.ownsRow 0 T s.n v n cc) ∧ ∀ (w2 : World) (c : List Value) (x : α) (T' : Nat) (w3 w5 : World) (g cap : Nat), Below w.heap.size w w2 → Own s w.heap.size w2 c x → w3.heap = (w2.alloc (.cells c.toArray T')).heap → w3.os = w2.os → w3.tape = w2.tape → w3.output = w2.output → w3.grownBy w5 v.ownBlock →
      w5.ownsRow 0 T s.n (.slice (some ⟨g, 0, none⟩) (n + 1) cap) (n + 1) (cc ++ c) → (v.ownBlock = some g ∨ g = w2.heap.size + 1) →
      (∃ F', OwnF ((Shp.list T s).pair r) F' w5 ([.slice (some ⟨g, 0, none⟩) (n + 1) cap] ++ c0) (xs ++ [x], a) ∧ ∀ b, b ∈ F' → b ∈ F ∨ w.heap.size ≤ b) ∧ (∀ B, (∀ b, b ∈ F → B ≤ b) → B ≤ w.heap.size → Below B w w5) ∧ ∀ b, b < w.heap.size → b ∉ F → w5.heap[b]? = w.heap[b]? := by
  subst hn
  obtain ⟨cc, k1, k2, k3⟩ := h.growFst
  exact ⟨cc, lit_of (R := fun w5 F' v' x => OwnF ((Shp.list T s).pair r) F' w5 ([v'] ++ c0) (xs ++ [x], a)) k1 k2 k3⟩

theorem set_take_drop (xs : List α) (i : Nat) (x : α) (hi : i < xs.length) : xs.set i x = xs.take i ++ ([x] ++ xs.drop (i + 1)) := by
  rw [List.set_eq_take_append_cons_drop, if_pos hi]; rfl
/-- an element where it lies: what becomes of the list where it alone is written -/
theorem OwnF.at {T : Nat} {s : Shp α} {F : List Nat} {w : World} {v : Value} {xs : List α} (h : OwnF (Shp.list T s) F w [v] xs) {i : Nat} {x : α} (hx : xs[i]? = some x) :
    ∃ g cap F2 c, v = .slice (some ⟨g, 0, none⟩) xs.length cap ∧ xs.length ≤ cap ∧ cap ≤ maxLen ∧ g ∈ F ∧ s.own F2 w c x ∧ (∀ b, b ∈ F2 → b ∈ F ∧ b ≠ g) ∧ (∀ j u, c[j]? = some u → w.cell? ⟨g, i * s.n + j, none⟩ = some u) ∧
      ∀ w' x', s.own F2 w' c x' → (∀ b, b ∈ F → b ∉ F2 → w'.heap[b]? = w.heap[b]?) → OwnF (Shp.list T s) F w' [v] (xs.set i x') := by
  have hi : i < xs.length := (List.getElem?_eq_some_iff.1 hx).1
  obtain ⟨⟨v', cc, G, e, h1, h2, rfl⟩, hn⟩ := h
  simp at e; subst e
  obtain ⟨F1, F2, F3, c1, c2, c3, e1, e2, hl, k1, k2, k3⟩ := ownEach_at i x h2 hx
  have hn' := List.nodup_append.1 hn
  have hG := hn'.2.1
  rw [e1] at hG
  have hG1 := List.nodup_append.1 hG
  have hG2 := List.nodup_append.1 hG1.2.1
  rcases h1.2 with ⟨rfl, h0⟩ | ⟨g, cap, cur, hv, hb, hg, hnn, hm, _⟩
  · omega
  have nF2 : ∀ b, b ∈ F2 → b ∈ G := fun b hb => by rw [e1]; simp [hb]
  refine ⟨g, cap, F2, c2, hv, hnn, hm, by simp [hv, Value.ownBlock], k2, fun b hb => ⟨by simp [nF2 b hb], fun e => hn'.2.2 g (by simp [hv, Value.ownBlock]) g (by rw [← e]; exact nF2 b hb) rfl⟩, fun j u hj => ?_, fun w' x' ho hk => ⟨⟨v, cc, G, rfl, ?_, ?_, rfl⟩, hn⟩⟩
  · have hjl : j < c2.length := (List.getElem?_eq_some_iff.1 hj).1
    refine rows_at h1 hv ?_
    rw [e2, ← hl, List.getElem?_append_right (by omega), Nat.add_sub_cancel_left, List.getElem?_append_left hjl]
    exact hj
  · rw [List.length_set]
    refine ⟨h1.1, ?_⟩
    rcases h1.2 with h | ⟨g', cap', cur', e', h0', hg', r⟩
    · exact .inl h
    · refine .inr ⟨g', cap', cur', e', h0', (hk g' (by simp [e', Value.ownBlock]) fun hm => ?_).trans hg', r⟩
      exact hn'.2.2 g' (by simp [e', Value.ownBlock]) g' (nF2 g' hm) rfl
  · rw [set_take_drop xs i x' hi, e1, e2]
    refine ownEach_app (ownEach_to k1 fun b hb => hk b (by rw [e1]; simp [hb]) fun hm => ?_) (ownEach_app (ownEach_one ho) (ownEach_to k3 fun b hb => hk b (by rw [e1]; simp [hb]) fun hm => ?_))
    · exact hG1.2.2 b hb b (by simp [hm]) rfl
    · exact hG2.2.2 b hm b hb rfl
/-- a store of a whole element of one cell -/
theorem Own.store {T : Nat} {s : Shp α} {B : Nat} {w : World} {v : Value} {xs : List α} (h : Own (Shp.list T s) B w [v] xs) (hs : s.n = 1) (hBw : B ≤ w.heap.size) {i : Nat} (hi : i < xs.length) :
    ∃ g cap, v = .slice (some ⟨g, 0, none⟩) xs.length cap ∧ xs.length ≤ cap ∧ B ≤ g ∧ g < w.heap.size ∧ w.frozen? ⟨g, i, none⟩ = false ∧ (∃ u0, w.cell? ⟨g, i, none⟩ = some u0) ∧
      ∀ w1 u x', Below w.heap.size w w1 → Own s w.heap.size w1 [u] x' → Own (Shp.list T s) B (w1.setCell ⟨g, i, none⟩ u) [v] (xs.set i x') := by
  obtain ⟨x, hx⟩ : ∃ x, xs[i]? = some x := ⟨_, List.getElem?_eq_getElem hi⟩
  obtain ⟨F, ⟨v', cc, G, e, h1, h2, rfl⟩, hn, hB⟩ := h
  simp at e; subst e
  obtain ⟨F1, F2, F3, c1, c2, c3, e1, e2, hl, k1, k2, k3⟩ := ownEach_at i x h2 hx
  have hn' := List.nodup_append.1 hn
  have hG := hn'.2.1
  rw [e1] at hG
  have hG1 := List.nodup_append.1 hG
  have hG2 := List.nodup_append.1 hG1.2.1
  rcases h1.2 with ⟨rfl, h0⟩ | ⟨g, cap, cur, hv, hb, hg, hnn, hm, _⟩
  · omega
  subst hv
  have hgl := lt_of_block hg
  have hl2 : c2.length = 1 := by rw [s.rd_n (s.own_rd k2), hs]
  obtain ⟨u0, rfl⟩ : ∃ u0, c2 = [u0] := by
    match c2, hl2 with
    | [u0], _ => exact ⟨u0, rfl⟩
  rw [hs, Nat.mul_one] at hl
  refine ⟨g, cap, rfl, hnn, hB g (by simp [Value.ownBlock]), hgl, h1.frozenAt i, ⟨u0, rows_at h1 rfl (by rw [e2, List.getElem?_append_right (by omega), hl]; simp)⟩, fun w1 u x' b1 ho => ?_⟩
  obtain ⟨F2', o1, o2, o3⟩ := ho
  have h1' : w1.ownsRow 0 T s.n (.slice (some ⟨g, 0, none⟩) xs.length cap) xs.length cc := by
    refine ⟨h1.1, ?_⟩
    rcases h1.2 with h | ⟨g', cap', cur', e', h0', hg', r⟩
    · exact .inl h
    · exact .inr ⟨g', cap', cur', e', h0', (b1.block g' (lt_of_block hg')).trans hg', r⟩
  have hst := h1'.stored i u
  have other : ∀ b, b ≠ g → (w1.setCell ⟨g, i, none⟩ u).heap[b]? = w1.heap[b]? := fun b hb => Below.heap_setCell _ _ _ _ hb
  have gG : g ∉ G := fun hm => hn'.2.2 g (by simp [Value.ownBlock]) g hm rfl
  refine ⟨g :: (F1 ++ (F2' ++ F3)), ⟨_, cc.set i u, F1 ++ (F2' ++ F3), rfl, ?_, ?_, rfl⟩, ?_, ?_⟩
  · rw [List.length_set]; exact hst.1
  · rw [set_take_drop xs i x' hi, e2]
    have ec : (c1 ++ ([u0] ++ c3)).set i u = c1 ++ ([u] ++ c3) := by
      rw [← hl, List.set_append_right _ _ (Nat.le_refl _), Nat.sub_self]; rfl
    rw [ec]
    refine ownEach_app (ownEach_to k1 fun b hb => ?_) (ownEach_app (ownEach_one (s.own_to o1 fun b hb => ?_)) (ownEach_to k3 fun b hb => ?_))
    · rw [other b (fun e => gG (by rw [e1, ← e]; simp [hb])), b1.block b (ownEach_lt k1 b hb)]
    · exact other b (fun e => by have := o3 b hb; omega)
    · rw [other b (fun e => gG (by rw [e1, ← e]; simp [hb])), b1.block b (ownEach_lt k3 b hb)]
  · refine List.nodup_cons.2 ⟨fun hm => ?_, List.nodup_append.2 ⟨hG1.1, List.nodup_append.2 ⟨o2, hG2.2.1, fun a ha b hb e => ?_⟩, fun a ha b hb e => ?_⟩⟩
    · simp only [List.mem_append] at hm
      rcases hm with hm | hm | hm
      · exact gG (by rw [e1]; simp [hm])
      · have := o3 g hm; omega
      · exact gG (by rw [e1]; simp [hm])
    · have := o3 a ha; have := ownEach_lt k3 b hb; omega
    · rcases List.mem_append.1 hb with hb | hb
      · have := o3 b hb; have := ownEach_lt k1 a ha; omega
      · exact hG1.2.2 a ha b (by simp [hb]) e
  · intro b hb
    simp only [List.mem_cons, List.mem_append] at hb
    rcases hb with rfl | hb | hb | hb
    · exact hB b (by simp [Value.ownBlock])
    · exact hB b (by rw [e1]; simp [hb])
    · have := o3 b hb; omega
    · exact hB b (by rw [e1]; simp [hb])
/-- make([]T, n) of elements that own nothing -/
theorem Own.made {T : Nat} {s : Shp α} {B : Nat} {w : World} {v : Value} {n : Nat} {u0 : Value} {x0 : α} (hs : ∀ w, s.own [] w [u0] x0) (h : w.ownsRow B T s.n v n (List.replicate n u0)) : Own (Shp.list T s) B w [v] (List.replicate n x0) := by
  have each : ∀ n, ownEach s w [] (List.replicate n u0) (List.replicate n x0) := by
    intro n
    induction n with
    | zero => exact ⟨rfl, rfl⟩
    | succ n ih => exact ⟨[], [], [u0], List.replicate n u0, rfl, rfl, hs w, ih⟩
  refine ⟨v.ownBlock.toList, ⟨v, _, [], rfl, ?_, each n, by simp⟩, ?_, fun b hb => (World.ownsRow.lt h b (by simpa using hb)).1⟩
  · rw [List.length_replicate]; exact rows_base h fun _ _ => Nat.zero_le _
  · cases v.ownBlock <;> simp

end
end Go.Proofs.Ytccklmhagabkaaa
