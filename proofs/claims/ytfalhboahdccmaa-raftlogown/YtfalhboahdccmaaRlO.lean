/-
  What stays while the octets of entries of the call's own are spoilt.
-/
import Derived.Test.YtfalhboahdccmaaSpoil
import Derived.Test.YtfalhboahdccmaaRlP
namespace Go.Proofs.Ytfalhboahdccmaa
open Go.RowKit
set_option linter.unusedVariables false

/-- all blocks are kept but those of S -/
structure K2 (S : Nat → Prop) (w w' : World) : Prop where
  os : w'.os = w.os
  tape : w'.tape = w.tape
  output : w'.output = w.output
  size : w.heap.size ≤ w'.heap.size
  block : ∀ b, b < w.heap.size → ¬ S b → w'.heap[b]? = w.heap[b]?
theorem K2.refl (S : Nat → Prop) (w : World) : K2 S w w := ⟨rfl, rfl, rfl, Nat.le_refl _, fun _ _ _ => rfl⟩
theorem K2.grown {S : Nat → Prop} {w u u' : World} {row : Option Nat} (h : K2 S w u) (hg : u.grownBy u' row) (hr : ∀ k, row = some k → S k) : K2 S w u' :=
  ⟨hg.os.trans h.os, hg.tape.trans h.tape, hg.output.trans h.output, Nat.le_trans h.size hg.size, fun b hb hn => (hg.block b (Nat.lt_of_lt_of_le hb h.size) (fun e => hn (hr b e.symm))).trans (h.block b hb hn)⟩
theorem K2.below {S : Nat → Prop} {w w' : World} (h : K2 S w w') {B : Nat} (hB : ∀ b, S b → B ≤ b) (hw : B ≤ w.heap.size) : Below B w w' := ⟨h.os, h.tape, h.output, h.size, fun k hk => h.block k (by omega) (fun e => by have := hB k e; omega)⟩
theorem K2.heap {S : Nat → Prop} {w w' : World} (h : K2 S w w') {b : Nat} {o : Obj} (hc : w.heap[b]? = some o) (hn : ¬ S b) : w'.heap[b]? = some o := (h.block b (lt_of_block hc) hn).trans hc
theorem K2.own {α : Type} {s : Shp α} {S : Nat → Prop} {B : Nat} {w w' : World} {cs : List Value} {x : α} (h : K2 S w w') (o : Own s B w cs x) (hB : ∀ b, S b → b < B) : Own s B w' cs x :=
  let ⟨F, h1, h2, h3⟩ := o; ⟨F, s.own_to h1 fun b hb => h.block b (s.own_lt h1 b hb) (fun e => by have := hB b e; have := h3 b hb; omega), h2, h3⟩
theorem ent_spoilt {T : Nat} {F : List Nat} {w : World} {cv : Value} {ws : List Wrt} (h : OwnF (Shp.list T SWr) F w [cv] ws) {k : Nat} {y : Wrt} (hy : ws[k]? = some y) :
    ∃ g cap u, cv = .slice (some ⟨g, 0, none⟩) ws.length cap ∧ w.cell? ⟨g, k * 2 + 1, none⟩ = some u ∧ OwnB 0 w u y.2 ∧ (∀ b, u.ownBlock = some b → b ∈ F) ∧
      ∀ w' x', OwnB 0 w' u x' → (∀ b, b ∈ F → some b ≠ u.ownBlock → w'.heap[b]? = w.heap[b]?) → OwnF (Shp.list T SWr) F w' [cv] (ws.set k (y.1, x')) := by
  obtain ⟨g, cap, F2, c, hv, hcap, _, hgF, ⟨c1, c2, G, H, rfl, rfl, ⟨rfl, rfl⟩, u, rfl, ho, rfl⟩, hF2, hc, fin⟩ := OwnF.at h hy
  refine ⟨g, cap, u, hv, ?_, ho, fun b hb => (hF2 b (by simp [hb])).1, fun w' x' ho' hk => fin w' (y.1, x') ⟨_, _, [], _, rfl, rfl, ⟨rfl, rfl⟩, u, rfl, ho', rfl⟩ fun b hb hn => hk b hb fun e => hn (by simp [← e])⟩
  have := hc 1 _ rfl
  rw [show (SWr).n = 2 from rfl] at this
  simpa using this
/-- entries whose octets are spoilt one by one, in blocks from L on, below U -/
structure SpE (L U n : Nat) (w : World) (v : Value) (F : List Nat) (ys : List Wrt) : Prop where
  own : OwnF SEntB F w [v] ys
  len : ys.length = n
  sh : ∀ y ∈ ys, y.2.length ≤ 140737488351232
  rng : ∀ b, b ∈ F → L ≤ b ∧ b < U
theorem SpE.keep {L U n : Nat} {w w' : World} {v : Value} {F : List Nat} {ys : List Wrt} (h : SpE L U n w v F ys) (k : ∀ b, b ∈ F → w'.heap[b]? = w.heap[b]?) : SpE L U n w' v F ys := ⟨h.own.keep k, h.len, h.sh, h.rng⟩
theorem SpE.of {L : Nat} {w : World} {v : Value} {ys : List Wrt} (h : Own SEntB L w [v] ys) (hs : ∀ y ∈ ys, y.2.length ≤ 140737488351232) : ∃ F, SpE L w.heap.size ys.length w v F ys := by
  obtain ⟨F, h1, h2, h3⟩ := h
  exact ⟨F, ⟨h1, h2⟩, rfl, hs, fun b hb => ⟨h3 b hb, SEntB.own_lt h1 b hb⟩⟩
theorem SpE.step {L U n : Nat} {w : World} {v : Value} {F : List Nat} {ys : List Wrt} (h : SpE L U n w v F ys) {k : Nat} (hk : k < n) :
    ∃ b cap a c len, v = .slice (some ⟨b, 0, none⟩) n cap ∧ w.cell? ⟨b, k * 2 + 1, none⟩ = some (.slice a len c) ∧ Calls Try.prog 27 #[.slice a len c] w fun e w' => e = .returned (.tuple #[]) ∧ ∃ ys', SpE L U n w' v F ys' ∧ w.grownBy w' (Value.slice a len c).ownBlock ∧ ∀ b, (Value.slice a len c).ownBlock = some b → L ≤ b ∧ b < U := by
  obtain ⟨x, hx⟩ : ∃ x, ys[k]? = some x := ⟨ys[k]'(by rw [h.len]; exact hk), List.getElem?_eq_getElem _⟩
  obtain ⟨b, cap, u, hv, hc, ho, hm, fin⟩ := ent_spoilt h.own hx
  have hxl := h.sh x (List.mem_of_getElem? hx)
  obtain ⟨a, c, rfl⟩ := ho.rd.slice
  refine ⟨b, cap, a, c, x.2.length, by rw [hv, h.len], hc, (spoil_own 0 w _ x.2 ho (by omega)).mono ?_⟩
  rintro e w' ⟨rfl, hg, ys', hl, ho'⟩
  refine ⟨rfl, ys.set k (x.1, ys'), ⟨fin w' ys' ho' fun b hb hne => hg.block b (h.own.lt b hb) hne, by rw [List.length_set, h.len], fun y hy => ?_, h.rng⟩, hg, fun b hb => h.rng b (hm b hb)⟩
  rcases List.mem_or_eq_of_mem_set hy with hy | hy
  · exact h.sh y hy
  · rw [hy]; dsimp only; rw [hl]; exact hxl
end Go.Proofs.Ytfalhboahdccmaa
