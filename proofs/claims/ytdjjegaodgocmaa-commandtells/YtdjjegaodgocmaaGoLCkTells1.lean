/- Several texts in one: Fr App Shp ShpIn NMath CkMath Sub Bx CkC RefPut Conv RMid NBase CkA Keep Same CkSM Tail Step RMidP RSched RFan. -/
import Derived.Test.YtdjjegaodgocmaaRows
import Derived.Test.YtdjjegaodgocmaaGoLCkTells0
import Derived.ProofKit
import Derived.OpenShut
import Derived.ShutString
import Derived.ChangeOld
import Derived.Below
import Derived.SizedLaws
import Derived.JoinedCond
import Derived.Deep.AppendLies
import Derived.Deep.WholeRow
import Derived.Deep.Slices
import Derived.ChangeSame
import Derived.WideShapes
import Derived.ChangeArms
import Derived.Laws.IdiomStrings
import Derived.Laws.BitsAllLaws
import Derived.Laws.Bits128
import Derived.Lib.UnsafeStr
import Derived.StillTail
import Derived.OrdersHeld
import Derived.Deep.QuietTactic
import Derived.BigQuiet
import Derived.Laws.Cover1
import Derived.Test.YtdjjegaodgocmaaProg
import Derived.StillTailTactics
import Derived.Deep.RegionLaw
import Derived.Defers
set_option linter.unusedVariables false
set_option linter.unusedSimpArgs false
namespace Go.Proofs.Ytdjjegaodgocmaa
open Go.ChangeShapes Go.WideShapes Go.ChangeAt Go.RowKit
theorem own : ownKnob Try.prog.godebug = none := by kernel_rfl
theorem laidOut : laidOutB Try.prog = true := by kernel_rfl
theorem bytes8 : Try.prog.bytesOf 5 = 1 := by kernel_rfl
def octs (zs : List Int) : List UInt8 := zs.map fun z => UInt8.ofNat z.toNat
theorem bt_octs {zs : List Int} (hw : ∀ n ∈ zs, (Lit.int .u8 n).wf = true) {len i : Nat} (h : i < len) (hl : len ≤ zs.length) : bt (octs (zs.take len)) i = zs.getD i 0 := by
 have hi : i < zs.length := by omega
 have hb : 0 ≤ zs[i] ∧ zs[i] ≤ 255 := by
  have := hw zs[i] (List.getElem_mem hi)
  simpa [Lit.wf, IntKind.min, IntKind.max, IntKind.signed, IntKind.bits] using this
 have e : (octs (zs.take len)).getD i 0 = UInt8.ofNat zs[i].toNat := by
  simp [octs, h, hi]
 unfold bt
 rw [e, UInt8.toNat_ofNat_of_lt' (by show _ < 256; omega)]
 simp [hi]; omega
theorem open_octs {H : Type} {enc : TypeId × Value → H} {W : World} {a : Option Addr} {len cap : Nat} {d : DataW H} {p : List MemPlace}
  (h : DataW.Trod enc Try.prog W 0 (fun _ => true) true 25 (.slice a len cap) d p) :
  ∃ xs : List UInt8, xs.length = len ∧ Rd W (.slice a len cap) xs ∧ (len = 0 ∨ ∃ el sp, d = .slice el sp ∧ el.length = len) := by
 obtain ⟨fuel, hf⟩ := h
 rcases open_ints Try.underlying25 Try.underlying5 (by kernel_rfl) hf with ⟨hcs, _⟩ | ⟨x, l, c, zs, hcs, _, hl, hm, hz, hx, hcell, hwz⟩
 ·simp [Value.cells] at hcs
  obtain ⟨rfl, rfl, rfl⟩ := hcs
  exact ⟨[], rfl, ⟨none, 0, rfl, Nat.le_refl _, Nat.zero_le _, fun _ => rfl, .inl rfl⟩, .inl rfl⟩
 ·simp [Value.cells] at hcs
  obtain ⟨rfl, rfl, rfl⟩ := hcs
  simp only [if_true] at hz
  simp only [Prod.mk.injEq] at hx
  have el : (octs (zs.take len)).length = len := by simp [octs]; omega
  refine ⟨octs (zs.take len), el, ⟨some x, cap, by rw [el], by rw [el]; exact hl, hm, (fun h => by cases h), ?_⟩, .inr ⟨_, _, hx.1, by simp [lits]; omega⟩⟩
  by_cases h0 : len = 0
  ·left; exact List.eq_nil_of_length_eq_zero (by rw [el]; exact h0)
  ·right
   obtain ⟨b, off, spot⟩ := x
   have hc := hcell 0 (by omega)
   have hspot : spot = none := by simpa [Addr.add] using World.cell?_spot hc
   subst hspot
   refine ⟨b, off, rfl, fun i hi => ?_⟩
   rw [el] at hi
   have := hcell i (by omega)
   rw [bt_octs hwz hi (by omega), ← this]
   by_cases hi0 : i = 0
   ·subst hi0; simp [Addr.add]
   ·simp [Addr.add, hi0]
theorem reach_octs {H : Type} {ts : List TypeId} {ds : List (DataW H)} (hsz : (DataW.weightsEach Try.prog ts ds).all (· ≤ reachBytes) = true) {j : Nat} {d : DataW H} {len : Nat}
  (ht : ts[j]? = some 25) (hd : ds[j]? = some d) (h : len = 0 ∨ ∃ el sp, d = .slice el sp ∧ el.length = len) : len ≤ 140737488351232 := by
 rcases h with rfl | ⟨el, sp, rfl, rfl⟩
 ·omega
 ·have := sized_slice hsz ht hd Try.underlying25
  rw [bytes8] at this
  simp only [reachBytes] at this
  omega
theorem bulk_pos {H : Type} (d : DataW H) : 1 ≤ Rows.uptoBulk d := by
 cases d with
 | lit l => cases l <;> simp [Rows.uptoBulk]
 | nil => simp [Rows.uptoBulk]
 | ptr d => simp [Rows.uptoBulk]
 | slice el sp => simp [Rows.uptoBulk]
 | agg ps => simp [Rows.uptoBulk]
 | iface t d => simp [Rows.uptoBulk]
 | map es => simp [Rows.uptoBulk]
 | held h => simp [Rows.uptoBulk]
end Go.Proofs.Ytdjjegaodgocmaa

namespace Go.Proofs.Ytdjjegaodgocmaa
open Go.RowKit
theorem OwnB.from {B : Nat} {w : World} {v : Value} {xs : List UInt8} (h : OwnB B w v xs) : ∀ k, v.ownBlock = some k → B ≤ k := by
 intro k hk
 rcases h.2 with ⟨rfl, _⟩ | ⟨g, cap, cur, rfl, hb, _⟩
 ·cases hk
 ·simp only [Value.ownBlock, Option.some.injEq] at hk
  omega
theorem wpList_append_octs {ops : Array Oper} {rest : List Oper} {o : Oper} {a : Act} {w : World} {Q : Exit → Act → World → Prop} (hgd : o.guard = none) (s x : Operand)
  (ho : o.op = .call { callee := .builtin .append, args := #[s, x], argTypes := #[25, 25] }) (B : Nat) (v v2 : Value) (xs ys : List UInt8) (hs : a.eval s = v) (hx : a.eval x = v2)
  (hown : OwnB B w v xs) (hrd : Rd w v2 ys) (hlen : xs.length + ys.length ≤ 140737488355328) (hB : B ≤ w.heap.size)
  (h : ∀ v' w', OwnB B w' v' (xs ++ ys) → Below B w w' → w.grownBy w' v.ownBlock → wpList Try.prog ops Q rest (a.put o.dst v') w') : wpList Try.prog ops Q (o :: rest) a w := by
 obtain ⟨i0, hi, hz0, hz1, hz2⟩ := info_parts info8
 obtain ⟨ao, c, rfl, l1, m1, n1, r1⟩ := hrd
 cases ao with
 | none =>
  have : ys = [] := by
   rcases r1 with r1 | ⟨b, off, h, _⟩
   ·exact r1
   ·cases h
  subst this
  obtain rfl : c = 0 := n1 rfl
  refine wpList_append_own_none hgd s x 25 ho B 5 i0 1 Try.underlying25 hi v xs.length (xs.map enc) hs hown hx ?_
  exact h v w (by simpa using hown) (Below.refl _ _) (World.grownBy.refl _ _)
 | some ad =>
  have e1 : (ys.map enc).length = ys.length * 1 := by simp
  have e2 : ∀ j u, (ys.map enc)[j]? = some u → w.cell? (ad.add j) = some u := by
   rcases r1 with rfl | ⟨b, off, h, hc⟩
   ·intro j u hj; simp at hj
   ·obtain rfl : ad = ⟨b, off, none⟩ := by simpa using h
    exact news_octs hc
  refine wpList_append_own _ hgd s x 25 ho B 5 i0 (.int .u8 0) 1 1 Try.underlying25 hi hz0 hz1 hz2 rfl (by decide) v xs.length (xs.map enc) hs hown ad ys.length c (ys.map enc) hx e1 e2 (enc_one ys)
   (by rw [show maxLen = 9223372036854775807 from rfl]; omega) (by omega) hB ?_
  intro v' w' h1 h2 _
  refine h v' w' ?_ ((Below.refl _ _).grown h2 hB hown.from) h2
  unfold OwnB
  simpa using h1
end Go.Proofs.Ytdjjegaodgocmaa

namespace Go.Proofs.Ytdjjegaodgocmaa
open Go.RowKit
structure Shp (α : Type) where
 n : Nat
 rd : World → List Value → α → Prop
 own : List Nat → World → List Value → α → Prop
 rd_n : ∀ {w cs x}, rd w cs x → cs.length = n
 rd_to : ∀ {w w' : World} {cs x}, rd w cs x → (∀ b, b < w.heap.size → w'.heap[b]? = w.heap[b]?) → rd w' cs x
 rd_one : ∀ {w cs x}, rd w cs x → ∀ u ∈ cs, u.oneCell' = true
 own_rd : ∀ {F w cs x}, own F w cs x → rd w cs x
 own_to : ∀ {F} {w w' : World} {cs x}, own F w cs x → (∀ b, b ∈ F → w'.heap[b]? = w.heap[b]?) → own F w' cs x
 own_lt : ∀ {F w cs x}, own F w cs x → ∀ b, b ∈ F → b < w.heap.size
def Own {α : Type} (s : Shp α) (B : Nat) (w : World) (cs : List Value) (x : α) : Prop := ∃ F, s.own F w cs x ∧ F.Nodup ∧ ∀ b, b ∈ F → B ≤ b
section
variable {α β : Type}
theorem Shp.to (s : Shp α) {w w' : World} {cs : List Value} {x : α} (h : s.rd w cs x) {B : Nat} (hB : w.heap.size ≤ B) (hb : Below B w w') : s.rd w' cs x :=
 s.rd_to h fun b hb' => hb.block b (by omega)
theorem Shp.to0 (s : Shp α) {w w' : World} {cs : List Value} {x : α} (h : s.rd w cs x) (hb : Below w.heap.size w w') : s.rd w' cs x := s.to h (Nat.le_refl _) hb
theorem Own.rd {s : Shp α} {B : Nat} {w : World} {cs : List Value} {x : α} (h : Own s B w cs x) : s.rd w cs x := let ⟨_, h, _⟩ := h; s.own_rd h
theorem Own.mono {s : Shp α} {B C : Nat} {w : World} {cs : List Value} {x : α} (h : Own s B w cs x) (hC : C ≤ B) : Own s C w cs x :=
 let ⟨F, h1, h2, h3⟩ := h; ⟨F, h1, h2, fun b hb => Nat.le_trans hC (h3 b hb)⟩
theorem Own.below {s : Shp α} {B C : Nat} {w w' : World} {cs : List Value} {x : α} (h : Own s B w cs x) (hC : w.heap.size ≤ C) (hb : Below C w w') : Own s B w' cs x :=
 let ⟨F, h1, h2, h3⟩ := h; ⟨F, s.own_to h1 fun b hb' => hb.block b (by have := s.own_lt h1 b hb'; omega), h2, h3⟩
theorem Own.to {s : Shp α} {B : Nat} {w w' : World} {cs : List Value} {x : α} (h : Own s B w cs x) (hb : Below w.heap.size w w') : Own s B w' cs x := h.below (Nat.le_refl _) hb
theorem Own.grown {s : Shp α} {B : Nat} {w w' : World} {row : Option Nat} {cs : List Value} {x : α} (h : Own s B w cs x) (hg : w.grownBy w' row) (hr : ∀ k, row = some k → k < B) : Own s B w' cs x :=
 let ⟨F, h1, h2, h3⟩ := h; ⟨F, s.own_to h1 fun b hb' => hg.block b (s.own_lt h1 b hb') (fun e => by have := hr b e.symm; have := h3 b hb'; omega), h2, h3⟩
theorem Own.set {s : Shp α} {B : Nat} {w : World} {cs : List Value} {x : α} (h : Own s B w cs x) {a : Addr} (ha : a.block < B) (u : Value) : Own s B (w.setCell a u) cs x :=
 let ⟨F, h1, h2, h3⟩ := h; ⟨F, s.own_to h1 fun b hb' => Below.heap_setCell _ _ _ _ (fun e => by have := h3 b hb'; omega), h2, h3⟩
def Shp.int (k : IntKind) : Shp Int where
 n := 1
 rd _ cs x := cs = [.int k x]
 own F _ cs x := F = [] ∧ cs = [.int k x]
 rd_n h := by rw [h]; rfl
 rd_to h _ := h
 rd_one h u hu := by rw [h] at hu; simp at hu; subst hu; rfl
 own_rd h := h.2
 own_to h _ := h
 own_lt h b hb := by rw [h.1] at hb; cases hb
def Shp.bool : Shp Bool where
 n := 1
 rd _ cs x := cs = [.bool x]
 own F _ cs x := F = [] ∧ cs = [.bool x]
 rd_n h := by rw [h]; rfl
 rd_to h _ := h
 rd_one h u hu := by rw [h] at hu; simp at hu; subst hu; rfl
 own_rd h := h.2
 own_to h _ := h
 own_lt h b hb := by rw [h.1] at hb; cases hb
def Shp.octs : Shp (List UInt8) where
 n := 1
 rd w cs x := ∃ v, cs = [v] ∧ Rd w v x
 own F w cs x := ∃ v, cs = [v] ∧ OwnB 0 w v x ∧ F = v.ownBlock.toList
 rd_n h := by obtain ⟨v, rfl, _⟩ := h; rfl
 rd_to := by
  rintro w w' cs x ⟨v, rfl, ao, cap, rfl, h1, h2, h3, h4⟩ hb
  refine ⟨_, rfl, ao, cap, rfl, h1, h2, h3, ?_⟩
  rcases h4 with h4 | ⟨b, off, rfl, hc⟩
  ·exact .inl h4
  ·refine .inr ⟨b, off, rfl, fun i hi => ?_⟩
   have := hc i hi
   rw [World.cell?_of_block (w := w) (hb b (cell_lt this))]
   exact this
 rd_one := by
  rintro w cs x ⟨v, rfl, h⟩ u hu
  obtain ⟨ao, cap, rfl⟩ := h.slice
  simp at hu; subst hu; rfl
 own_rd := by rintro F w cs x ⟨v, rfl, h, _⟩; exact ⟨v, rfl, h.rd⟩
 own_to := by
  rintro F w w' cs x ⟨v, rfl, h, rfl⟩ hb
  refine ⟨v, rfl, ⟨h.1, ?_⟩, rfl⟩
  rcases h.2 with h2 | ⟨g, cap, cur, rfl, h0, hg, r⟩
  ·exact .inl h2
  ·exact .inr ⟨g, cap, cur, rfl, h0, (hb g (by simp [Value.ownBlock])).trans hg, r⟩
 own_lt := by
  rintro F w cs x ⟨v, rfl, h, rfl⟩ b hb
  exact (World.ownsRow.lt h b (by simpa using hb)).2
def Shp.pair (s : Shp α) (t : Shp β) : Shp (α × β) where
 n := s.n + t.n
 rd w cs x := ∃ c d, cs = c ++ d ∧ s.rd w c x.1 ∧ t.rd w d x.2
 own F w cs x := ∃ c d G H, cs = c ++ d ∧ F = G ++ H ∧ s.own G w c x.1 ∧ t.own H w d x.2
 rd_n := by rintro w cs x ⟨c, d, rfl, h1, h2⟩; rw [List.length_append, s.rd_n h1, t.rd_n h2]
 rd_to := by rintro w w' cs x ⟨c, d, rfl, h1, h2⟩ hb; exact ⟨c, d, rfl, s.rd_to h1 hb, t.rd_to h2 hb⟩
 rd_one := by
  rintro w cs x ⟨c, d, rfl, h1, h2⟩ u hu
  rcases List.mem_append.1 hu with h | h
  ·exact s.rd_one h1 u h
  ·exact t.rd_one h2 u h
 own_rd := by rintro F w cs x ⟨c, d, G, H, rfl, rfl, h1, h2⟩; exact ⟨c, d, rfl, s.own_rd h1, t.own_rd h2⟩
 own_to := by
  rintro F w w' cs x ⟨c, d, G, H, rfl, rfl, h1, h2⟩ hb
  exact ⟨c, d, G, H, rfl, rfl, s.own_to h1 fun b h => hb b (List.mem_append_left _ h), t.own_to h2 fun b h => hb b (List.mem_append_right _ h)⟩
 own_lt := by
  rintro F w cs x ⟨c, d, G, H, rfl, rfl, h1, h2⟩ b hb
  rcases List.mem_append.1 hb with h | h
  ·exact s.own_lt h1 b h
  ·exact t.own_lt h2 b h
theorem Own.pair {s : Shp α} {t : Shp β} {B C : Nat} {w w' : World} {c d : List Value} {x : α} {y : β} (h1 : Own s B w c x) (hb : Below w.heap.size w w') (h2 : Own t C w' d y) (hC : w.heap.size ≤ C) (hBC : B ≤ C) : Own (s.pair t) B w' (c ++ d) (x, y) := by
 obtain ⟨F, a1, a2, a3⟩ := h1
 obtain ⟨G, b1, b2, b3⟩ := h2
 refine ⟨F ++ G, ⟨c, d, F, G, rfl, rfl, s.own_to a1 fun b hb' => hb.block b (s.own_lt a1 b hb'), b1⟩, ?_, ?_⟩
 ·refine List.nodup_append.2 ⟨a2, b2, fun x hx y hy e => ?_⟩
  have q1 := s.own_lt a1 x hx
  have q2 := b3 y hy
  omega
 ·intro b hb'
  rcases List.mem_append.1 hb' with h | h
  ·exact a3 b h
  ·have := b3 b h; omega
def ownEach (s : Shp α) (w : World) : List Nat → List Value → List α → Prop
 | F, cc, [] => F = [] ∧ cc = []
 | F, cc, x :: xs => ∃ F1 F2 c1 c2, F = F1 ++ F2 ∧ cc = c1 ++ c2 ∧ s.own F1 w c1 x ∧ ownEach s w F2 c2 xs
theorem ownEach_to {s : Shp α} {w w' : World} : ∀ {xs : List α} {F cc}, ownEach s w F cc xs → (∀ b, b ∈ F → w'.heap[b]? = w.heap[b]?) → ownEach s w' F cc xs
 | [], F, cc, h, _ => h
 | x :: xs, F, cc, ⟨F1, F2, c1, c2, e1, e2, h1, h2⟩, hb => ⟨F1, F2, c1, c2, e1, e2, s.own_to h1 fun b h => hb b (by rw [e1]; exact List.mem_append_left _ h), ownEach_to h2 fun b h => hb b (by rw [e1]; exact List.mem_append_right _ h)⟩
theorem ownEach_lt {s : Shp α} {w : World} : ∀ {xs : List α} {F cc}, ownEach s w F cc xs → ∀ b, b ∈ F → b < w.heap.size
 | [], F, cc, h, b, hb => by rw [h.1] at hb; cases hb
 | x :: xs, F, cc, ⟨F1, F2, c1, c2, e1, e2, h1, h2⟩, b, hb => by
  rw [e1] at hb
  rcases List.mem_append.1 hb with h | h
  ·exact s.own_lt h1 b h
  ·exact ownEach_lt h2 b h
theorem ownEach_app {s : Shp α} {w : World} : ∀ {xs ys : List α} {F G cc dd}, ownEach s w F cc xs → ownEach s w G dd ys → ownEach s w (F ++ G) (cc ++ dd) (xs ++ ys)
 | [], ys, F, G, cc, dd, h, k => by obtain ⟨rfl, rfl⟩ := h; exact k
 | x :: xs, ys, F, G, cc, dd, ⟨F1, F2, c1, c2, e1, e2, h1, h2⟩, k => ⟨F1, F2 ++ G, c1, c2 ++ dd, by rw [e1, List.append_assoc], by rw [e2, List.append_assoc], h1, ownEach_app h2 k⟩
theorem ownEach_one {s : Shp α} {w : World} {F c} {x : α} (h : s.own F w c x) : ownEach s w F c [x] := ⟨F, [], c, [], by simp, by simp, h, rfl, rfl⟩
theorem ownEach_at {s : Shp α} {w : World} : ∀ {xs : List α} {F cc} (i : Nat) (x : α), ownEach s w F cc xs → xs[i]? = some x →
  ∃ F1 F2 F3 c1 c2 c3, F = F1 ++ (F2 ++ F3) ∧ cc = c1 ++ (c2 ++ c3) ∧ c1.length = i * s.n ∧ ownEach s w F1 c1 (xs.take i) ∧ s.own F2 w c2 x ∧ ownEach s w F3 c3 (xs.drop (i + 1))
 | [], F, cc, i, x, h, hx => by simp at hx
 | y :: xs, F, cc, 0, x, ⟨F1, F2, c1, c2, e1, e2, h1, h2⟩, hx => by
  simp at hx; subst hx
  exact ⟨[], F1, F2, [], c1, c2, e1, e2, by simp, ⟨rfl, rfl⟩, h1, h2⟩
 | y :: xs, F, cc, i + 1, x, ⟨F1, F2, c1, c2, e1, e2, h1, h2⟩, hx => by
  obtain ⟨G1, G2, G3, d1, d2, d3, rfl, rfl, hl, k1, k2, k3⟩ := ownEach_at i x h2 (by simpa using hx)
  refine ⟨F1 ++ G1, G2, G3, c1 ++ d1, d2, d3, by rw [e1, List.append_assoc], by rw [e2, List.append_assoc], ?_, ⟨F1, G1, c1, d1, rfl, rfl, h1, k1⟩, k2, k3⟩
  rw [List.length_append, hl, s.rd_n (s.own_rd h1), Nat.add_mul, Nat.one_mul, Nat.add_comm]
def RdS (s : Shp α) (w : World) (v : Value) (xs : List α) : Prop :=
 ∃ ao cap, v = .slice ao xs.length cap ∧ xs.length ≤ cap ∧ cap ≤ maxLen ∧ (ao = none → cap = 0) ∧
  (xs = [] ∨ ∃ b off, ao = some ⟨b, off, none⟩ ∧ ∀ i x, xs[i]? = some x → ∃ c, s.rd w c x ∧ ∀ j u, c[j]? = some u → w.cell? ⟨b, off + i * s.n + j, none⟩ = some u)
theorem RdS.slice {s : Shp α} {w : World} {v : Value} {xs : List α} (h : RdS s w v xs) : ∃ ao cap, v = .slice ao xs.length cap := by
 obtain ⟨ao, cap, rfl, _⟩ := h; exact ⟨_, _, rfl⟩
theorem RdS.to {s : Shp α} {w w' : World} {v : Value} {xs : List α} (h : RdS s w v xs) {B : Nat} (hB : w.heap.size ≤ B) (hb : Below B w w') : RdS s w' v xs := by
 obtain ⟨ao, cap, rfl, h1, h2, h3, h4⟩ := h
 refine ⟨ao, cap, rfl, h1, h2, h3, ?_⟩
 rcases h4 with h4 | ⟨b, off, rfl, hc⟩
 ·exact .inl h4
 ·refine .inr ⟨b, off, rfl, fun i x hx => ?_⟩
  obtain ⟨c, k1, k2⟩ := hc i x hx
  refine ⟨c, s.to k1 hB hb, fun j u hj => ?_⟩
  have := k2 j u hj
  rw [hb.cell (p := ⟨b, off + i * s.n + j, none⟩) (by have := cell_lt this; show b < B; omega)]
  exact this
theorem RdS.to0 {s : Shp α} {w w' : World} {v : Value} {xs : List α} (h : RdS s w v xs) (hb : Below w.heap.size w w') : RdS s w' v xs := h.to (Nat.le_refl _) hb
theorem RdS.nil (s : Shp α) (w : World) : RdS s w (.slice none 0 0) [] := ⟨none, 0, rfl, Nat.le_refl _, Nat.zero_le _, fun _ => rfl, .inl rfl⟩
theorem RdS.bd {s : Shp α} {w : World} {v : Value} {xs : List α} (h : RdS s w v xs) : xs.length ≤ 9223372036854775807 := by
 obtain ⟨ao, cap, rfl, h1, h2, _⟩ := h
 rw [show maxLen = 9223372036854775807 from rfl] at h2
 omega
theorem rows_at {w : World} {T n : Nat} {v : Value} {m : Nat} {cc : List Value} (h : w.ownsRow 0 T n v m cc) {g : Nat} {cap : Nat} (hv : v = .slice (some ⟨g, 0, none⟩) m cap) {j : Nat} {u : Value} (hj : cc[j]? = some u) : w.cell? ⟨g, j, none⟩ = some u := by
 subst hv
 rw [h.cellAt j (by rw [← h.1]; exact (List.getElem?_eq_some_iff.1 hj).1)]
 exact hj
def Shp.list (T : Nat) (s : Shp α) : Shp (List α) where
 n := 1
 rd w cs xs := ∃ v, cs = [v] ∧ RdS s w v xs
 own F w cs xs := ∃ v cc G, cs = [v] ∧ w.ownsRow 0 T s.n v xs.length cc ∧ ownEach s w G cc xs ∧ F = v.ownBlock.toList ++ G
 rd_n := by rintro w cs x ⟨v, rfl, _⟩; rfl
 rd_to := by
  rintro w w' cs xs ⟨v, rfl, ao, cap, rfl, h1, h2, h3, h4⟩ hb
  refine ⟨_, rfl, ao, cap, rfl, h1, h2, h3, ?_⟩
  rcases h4 with h4 | ⟨b, off, rfl, hc⟩
  ·exact .inl h4
  ·refine .inr ⟨b, off, rfl, fun i x hx => ?_⟩
   obtain ⟨c, k1, k2⟩ := hc i x hx
   refine ⟨c, s.rd_to k1 hb, fun j u hj => ?_⟩
   have := k2 j u hj
   rw [World.cell?_of_block (w := w) (hb b (cell_lt this))]
   exact this
 rd_one := by
  rintro w cs x ⟨v, rfl, h⟩ u hu
  obtain ⟨ao, cap, rfl⟩ := h.slice
  simp at hu; subst hu; rfl
 own_rd := by
  rintro F w cs xs ⟨v, cc, G, rfl, h1, h2, _⟩
  refine ⟨v, rfl, ?_⟩
  rcases h1.2 with ⟨rfl, h0⟩ | ⟨g, cap, cur, hv, hb, hg, hn, hm, _⟩
  ·rw [List.eq_nil_of_length_eq_zero h0]
   exact ⟨none, 0, rfl, Nat.le_refl _, Nat.zero_le _, fun _ => rfl, .inl rfl⟩
  ·refine ⟨_, cap, hv, hn, hm, (fun h => by cases h), .inr ⟨g, 0, rfl, fun i x hx => ?_⟩⟩
   obtain ⟨F1, F2, F3, c1, c2, c3, _, e2, hl, _, k2, _⟩ := ownEach_at i x h2 hx
   refine ⟨c2, s.own_rd k2, fun j u hj => ?_⟩
   rw [Nat.zero_add]
   refine rows_at h1 hv ?_
   have hjl : j < c2.length := (List.getElem?_eq_some_iff.1 hj).1
   rw [e2, ← hl, List.getElem?_append_right (by omega), Nat.add_sub_cancel_left, List.getElem?_append_left hjl]
   exact hj
 own_to := by
  rintro F w w' cs xs ⟨v, cc, G, rfl, h1, h2, rfl⟩ hb
  refine ⟨v, cc, G, rfl, ⟨h1.1, ?_⟩, ownEach_to h2 fun b h => hb b (List.mem_append_right _ h), rfl⟩
  rcases h1.2 with h | ⟨g, cap, cur, rfl, h0, hg, r⟩
  ·exact .inl h
  ·exact .inr ⟨g, cap, cur, rfl, h0, (hb g (by simp [Value.ownBlock])).trans hg, r⟩
 own_lt := by
  rintro F w cs xs ⟨v, cc, G, rfl, h1, h2, rfl⟩ b hb
  rcases List.mem_append.1 hb with h | h
  ·exact (World.ownsRow.lt h1 b (by simpa using h)).2
  ·exact ownEach_lt h2 b h
theorem Own.rdS {T : Nat} {s : Shp α} {B : Nat} {w : World} {v : Value} {xs : List α} (h : Own (Shp.list T s) B w [v] xs) : RdS s w v xs := by
 obtain ⟨v', e, r⟩ := h.rd
 simp at e; subst e; exact r
theorem Own.nil (T : Nat) (s : Shp α) (B : Nat) (w : World) : Own (Shp.list T s) B w [.slice none 0 0] [] :=
 ⟨[], ⟨_, [], [], rfl, World.ownsRow_nil _ _ _ _, ⟨rfl, rfl⟩, by simp [Value.ownBlock]⟩, List.nodup_nil, fun b hb => by cases hb⟩
theorem rows_base {w : World} {T n B C : Nat} {v : Value} {m : Nat} {cc : List Value} (h : w.ownsRow B T n v m cc) (hC : ∀ b, v.ownBlock = some b → C ≤ b) : w.ownsRow C T n v m cc := by
 refine ⟨h.1, ?_⟩
 rcases h.2 with h2 | ⟨g, cap, cur, rfl, h0, r⟩
 ·exact .inl h2
 ·exact .inr ⟨g, cap, cur, rfl, hC g rfl, r⟩
theorem Own.cap (T : Nat) (s : Shp α) {B : Nat} {w : World} {v : Value} (h : w.ownsRow B T s.n v 0 []) : Own (Shp.list T s) B w [v] [] := by
 refine ⟨v.ownBlock.toList, ⟨v, [], [], rfl, rows_base h fun _ _ => Nat.zero_le _, ⟨rfl, rfl⟩, by simp⟩, ?_, fun b hb => (World.ownsRow.lt h b (by simpa using hb)).1⟩
 cases v.ownBlock <;> simp
def OwnF (s : Shp α) (F : List Nat) (w : World) (cs : List Value) (x : α) : Prop := s.own F w cs x ∧ F.Nodup
theorem OwnF.own {s : Shp α} {F : List Nat} {B : Nat} {w : World} {cs : List Value} {x : α} (h : OwnF s F w cs x) (hB : ∀ b, b ∈ F → B ≤ b) : Own s B w cs x := ⟨F, h.1, h.2, hB⟩
theorem OwnF.rd {s : Shp α} {F : List Nat} {w : World} {cs : List Value} {x : α} (h : OwnF s F w cs x) : s.rd w cs x := s.own_rd h.1
theorem OwnF.lt {s : Shp α} {F : List Nat} {w : World} {cs : List Value} {x : α} (h : OwnF s F w cs x) : ∀ b, b ∈ F → b < w.heap.size := s.own_lt h.1
theorem OwnF.keep {s : Shp α} {F : List Nat} {w w' : World} {cs : List Value} {x : α} (h : OwnF s F w cs x) (hb : ∀ b, b ∈ F → w'.heap[b]? = w.heap[b]?) : OwnF s F w' cs x := ⟨s.own_to h.1 hb, h.2⟩
theorem OwnF.to {s : Shp α} {F : List Nat} {w w' : World} {cs : List Value} {x : α} (h : OwnF s F w cs x) (hb : Below w.heap.size w w') : OwnF s F w' cs x := h.keep fun b hb' => hb.block b (h.lt b hb')
theorem OwnF.set {s : Shp α} {F : List Nat} {w : World} {cs : List Value} {x : α} (h : OwnF s F w cs x) {a : Addr} (ha : a.block ∉ F) (u : Value) : OwnF s F (w.setCell a u) cs x :=
 h.keep fun b hb' => Below.heap_setCell _ _ _ _ (fun e => ha (by rw [← e]; exact hb'))
theorem OwnF.split {s : Shp α} {t : Shp β} {F : List Nat} {w : World} {c d : List Value} {z : α × β} (h : OwnF (s.pair t) F w (c ++ d) z) (hc : c.length = s.n) :
  ∃ F1 F2, F = F1 ++ F2 ∧ OwnF s F1 w c z.1 ∧ OwnF t F2 w d z.2 ∧ ∀ b, b ∈ F1 → b ∉ F2 := by
 obtain ⟨⟨c', d', G, H, e, rfl, h1, h2⟩, hn⟩ := h
 have hl := s.rd_n (s.own_rd h1)
 obtain ⟨rfl, rfl⟩ := List.append_inj e (by rw [hc, hl])
 have := List.nodup_append.1 hn
 exact ⟨G, H, rfl, ⟨h1, this.1⟩, ⟨h2, this.2.1⟩, fun b hb hb' => this.2.2 b hb b hb' rfl⟩
theorem OwnF.grow {T : Nat} {s : Shp α} {F : List Nat} {w : World} {v : Value} {xs : List α} (h : OwnF (Shp.list T s) F w [v] xs) :
  ∃ cc, w.ownsRow 0 T s.n v xs.length cc ∧ (∀ b, v.ownBlock = some b → b ∈ F) ∧ ∀ (w1 w2 w3 : World) (c : List Value) (x : α) (g cap : Nat), Below w.heap.size w w1 → Own s w.heap.size w1 c x → Below w1.heap.size w1 w2 → w2.grownBy w3 v.ownBlock →
   w3.ownsRow 0 T s.n (.slice (some ⟨g, 0, none⟩) (xs.length + 1) cap) (xs.length + 1) (cc ++ c) → (v.ownBlock = some g ∨ g = w2.heap.size) →
   ∃ F', OwnF (Shp.list T s) F' w3 [.slice (some ⟨g, 0, none⟩) (xs.length + 1) cap] (xs ++ [x]) ∧ ∀ b, b ∈ F' → b ∈ F ∨ w.heap.size ≤ b := by
 obtain ⟨⟨v', cc, G, e, h1, h2, rfl⟩, hn⟩ := h
 simp at e; subst e
 refine ⟨cc, h1, fun b hb => by simp [hb], ?_⟩
 intro w1 w2 w3 c x g cap b1 he b2 hg hr hat
 obtain ⟨F2, k1, k2, k3⟩ := he
 have lt1 := ownEach_lt h2
 have hn' := List.nodup_append.1 hn
 have ng : g ∉ G := by
  intro hgG
  rcases hat with hat | rfl
  ·exact hn'.2.2 g (by simp [hat]) g hgG rfl
  ·have := lt1 _ hgG; have := b1.size; have := b2.size; omega
 have ng2 : g ∉ F2 := by
  intro hgF
  have q := k3 g hgF
  rcases hat with hat | rfl
  ·have := (World.ownsRow.lt h1 g hat).2; omega
  ·have := s.own_lt k1 _ hgF; have := b2.size; omega
 refine ⟨(g :: (G ++ F2)), ⟨⟨_, cc ++ c, G ++ F2, rfl, ?_, ?_, rfl⟩, ?_⟩, ?_⟩
 ·rw [List.length_append]; exact hr
 ·refine ownEach_app (ownEach_to h2 fun b hb => ?_) (ownEach_one (s.own_to k1 fun b hb => ?_))
  ·rw [hg.block b (by have := lt1 b hb; have := b1.size; have := b2.size; omega) (fun e => hn'.2.2 b (by simp [← e]) b hb rfl), b2.block b (by have := lt1 b hb; have := b1.size; omega), b1.block b (lt1 b hb)]
  ·rw [hg.block b (by have := s.own_lt k1 b hb; have := b2.size; omega) (fun e => by have := (World.ownsRow.lt h1 b e.symm).2; have := k3 b hb; omega), b2.block b (s.own_lt k1 b hb)]
 ·refine List.nodup_cons.2 ⟨fun hm => ?_, List.nodup_append.2 ⟨hn'.2.1, k2, fun a ha b hb e => ?_⟩⟩
  ·rcases List.mem_append.1 hm with q | q
   ·exact ng q
   ·exact ng2 q
  ·have := lt1 a ha; have := k3 b hb; omega
 ·intro b hb
  rcases List.mem_cons.1 hb with rfl | hb
  ·rcases hat with hat | rfl
   ·left; simp [hat]
   ·right; have := b1.size; have := b2.size; omega
  ·rcases List.mem_append.1 hb with q | q
   ·left; simp [q]
   ·right; exact k3 b q
theorem rows_to {w w' : World} {B T n : Nat} {v : Value} {m : Nat} {cc : List Value} (h : w.ownsRow B T n v m cc) (hb : Below w.heap.size w w') : w'.ownsRow B T n v m cc := by
 refine ⟨h.1, ?_⟩
 rcases h.2 with h2 | ⟨g, cap, cur, e, h0, hg, r⟩
 ·exact .inl h2
 ·exact .inr ⟨g, cap, cur, e, h0, (hb.block g (lt_of_block hg)).trans hg, r⟩
theorem lit_of {T n : Nat} {s : Shp α} {F : List Nat} {w : World} {v : Value} {cc : List Value} {R : World → List Nat → Value → α → Prop} (hrow : w.ownsRow 0 T s.n v n cc) (hm : ∀ b, v.ownBlock = some b → b ∈ F)
  (k3 : ∀ (w1 w2 w3 : World) (c : List Value) (x : α) (g cap : Nat), Below w.heap.size w w1 → Own s w.heap.size w1 c x → Below w1.heap.size w1 w2 → w2.grownBy w3 v.ownBlock →
   w3.ownsRow 0 T s.n (.slice (some ⟨g, 0, none⟩) (n + 1) cap) (n + 1) (cc ++ c) → (v.ownBlock = some g ∨ g = w2.heap.size) → ∃ F', R w3 F' (.slice (some ⟨g, 0, none⟩) (n + 1) cap) x ∧ ∀ b, b ∈ F' → b ∈ F ∨ w.heap.size ≤ b) :
  (∀ u, Below w.heap.size w u → u.ownsRow 0 T s.n v n cc) ∧ ∀ (w2 : World) (c : List Value) (x : α) (T' : Nat) (w3 w5 : World) (g cap : Nat), Below w.heap.size w w2 → Own s w.heap.size w2 c x → w3.heap = (w2.alloc (.cells c.toArray T')).heap → w3.os = w2.os → w3.tape = w2.tape → w3.output = w2.output → w3.grownBy w5 v.ownBlock →
   w5.ownsRow 0 T s.n (.slice (some ⟨g, 0, none⟩) (n + 1) cap) (n + 1) (cc ++ c) → (v.ownBlock = some g ∨ g = w2.heap.size + 1) →
   (∃ F', R w5 F' (.slice (some ⟨g, 0, none⟩) (n + 1) cap) x ∧ ∀ b, b ∈ F' → b ∈ F ∨ w.heap.size ≤ b) ∧ (∀ B, (∀ b, b ∈ F → B ≤ b) → B ≤ w.heap.size → Below B w w5) ∧ ∀ b, b < w.heap.size → b ∉ F → w5.heap[b]? = w.heap[b]? := by
 refine ⟨fun u hu => rows_to hrow hu, ?_⟩
 intro w2 c x T' w3 w5 g cap b1 he hh h1 h2 h3 hg hr hat
 have hsz : w3.heap.size = w2.heap.size + 1 := by rw [hh]; simp
 have b2 : Below w2.heap.size w2 w3 := ⟨h1, h2, h3, by omega, fun k hk => by rw [hh]; exact Below.heap_alloc _ _ _ hk⟩
 refine ⟨k3 w2 w3 w5 c x g cap b1 he b2 hg hr (by rw [hsz]; exact hat), fun B hF hB => ?_, fun b hb hnb => ?_⟩
 ·exact (((b1.mono hB).trans (b2.mono (by have := b1.size; omega)))).grown hg (by have := b1.size; omega) (fun k hk => hF k (hm k hk))
 ·have := b1.size
  rw [hg.block b (by omega) (fun e => hnb (hm b e.symm)), b2.block b (by omega), b1.block b hb]
theorem OwnF.lit {T n : Nat} {s : Shp α} {F : List Nat} {w : World} {v : Value} {xs : List α} (h : OwnF (Shp.list T s) F w [v] xs) (hn : xs.length = n) : ∃ cc,
  (∀ u, Below w.heap.size w u → u.ownsRow 0 T s.n v n cc) ∧ ∀ (w2 : World) (c : List Value) (x : α) (T' : Nat) (w3 w5 : World) (g cap : Nat), Below w.heap.size w w2 → Own s w.heap.size w2 c x → w3.heap = (w2.alloc (.cells c.toArray T')).heap → w3.os = w2.os → w3.tape = w2.tape → w3.output = w2.output → w3.grownBy w5 v.ownBlock →
   w5.ownsRow 0 T s.n (.slice (some ⟨g, 0, none⟩) (n + 1) cap) (n + 1) (cc ++ c) → (v.ownBlock = some g ∨ g = w2.heap.size + 1) →
   (∃ F', OwnF (Shp.list T s) F' w5 [.slice (some ⟨g, 0, none⟩) (n + 1) cap] (xs ++ [x]) ∧ ∀ b, b ∈ F' → b ∈ F ∨ w.heap.size ≤ b) ∧ (∀ B, (∀ b, b ∈ F → B ≤ b) → B ≤ w.heap.size → Below B w w5) ∧ ∀ b, b < w.heap.size → b ∉ F → w5.heap[b]? = w.heap[b]? := by
 subst hn
 obtain ⟨cc, k1, k2, k3⟩ := h.grow
 exact ⟨cc, lit_of (R := fun w5 F' v' x => OwnF (Shp.list T s) F' w5 [v'] (xs ++ [x])) k1 k2 k3⟩
theorem set_take_drop (xs : List α) (i : Nat) (x : α) (hi : i < xs.length) : xs.set i x = xs.take i ++ ([x] ++ xs.drop (i + 1)) := by
 rw [List.set_eq_take_append_cons_drop, if_pos hi]; rfl
theorem OwnF.at {T : Nat} {s : Shp α} {F : List Nat} {w : World} {v : Value} {xs : List α} (h : OwnF (Shp.list T s) F w [v] xs) {i : Nat} {x : α} (hx : xs[i]? = some x) :
  ∃ g cap F2 c, v = .slice (some ⟨g, 0, none⟩) xs.length cap ∧ xs.length ≤ cap ∧ cap ≤ maxLen ∧ g ∈ F ∧ s.own F2 w c x ∧ (∀ b, b ∈ F2 → b ∈ F ∧ b ≠ g) ∧ (∀ j u, c[j]? = some u → w.cell? ⟨g, i * s.n + j, none⟩ = some u) ∧
   ∀ w' x', s.own F2 w' c x' → (∀ b, b ∈ F → b ∉ F2 → w'.heap[b]? = w.heap[b]?) → OwnF (Shp.list T s) F w' [v] (xs.set i x') := by
 have hi : i < xs.length := (List.getElem?_eq_some_iff.1 hx).1
 obtain ⟨⟨v', cc, G, e, h1, h2, rfl⟩, hn⟩ := h
 simp at e; subst e
 obtain ⟨F1, F2, F3, c1, c2, c3, e1, e2, hl, k1, k2, k3⟩ := ownEach_at i x h2 hx
 have hn' := List.nodup_append.1 hn
 have hG := hn'.2.1
 rw [e1] at hG
 have hG1 := List.nodup_append.1 hG
 have hG2 := List.nodup_append.1 hG1.2.1
 rcases h1.2 with ⟨rfl, h0⟩ | ⟨g, cap, cur, hv, hb, hg, hnn, hm, _⟩
 ·omega
 have nF2 : ∀ b, b ∈ F2 → b ∈ G := fun b hb => by rw [e1]; simp [hb]
 refine ⟨g, cap, F2, c2, hv, hnn, hm, by simp [hv, Value.ownBlock], k2, fun b hb => ⟨by simp [nF2 b hb], fun e => hn'.2.2 g (by simp [hv, Value.ownBlock]) g (by rw [← e]; exact nF2 b hb) rfl⟩, fun j u hj => ?_, fun w' x' ho hk => ⟨⟨v, cc, G, rfl, ?_, ?_, rfl⟩, hn⟩⟩
 ·have hjl : j < c2.length := (List.getElem?_eq_some_iff.1 hj).1
  refine rows_at h1 hv ?_
  rw [e2, ← hl, List.getElem?_append_right (by omega), Nat.add_sub_cancel_left, List.getElem?_append_left hjl]
  exact hj
 ·rw [List.length_set]
  refine ⟨h1.1, ?_⟩
  rcases h1.2 with h | ⟨g', cap', cur', e', h0', hg', r⟩
  ·exact .inl h
  ·refine .inr ⟨g', cap', cur', e', h0', (hk g' (by simp [e', Value.ownBlock]) fun hm => ?_).trans hg', r⟩
   exact hn'.2.2 g' (by simp [e', Value.ownBlock]) g' (nF2 g' hm) rfl
 ·rw [set_take_drop xs i x' hi, e1, e2]
  refine ownEach_app (ownEach_to k1 fun b hb => hk b (by rw [e1]; simp [hb]) fun hm => ?_) (ownEach_app (ownEach_one ho) (ownEach_to k3 fun b hb => hk b (by rw [e1]; simp [hb]) fun hm => ?_))
  ·exact hG1.2.2 b hb b (by simp [hm]) rfl
  ·exact hG2.2.2 b hm b hb rfl
end
end Go.Proofs.Ytdjjegaodgocmaa

namespace Go.Proofs.Ytdjjegaodgocmaa
open Go.ChangeShapes Go.WideShapes Go.ChangeAt Go.RowKit
structure Opens {α : Type} (s : Shp α) (t : TypeId) (fits : α → Prop) (bulk : α → Nat) : Prop where
 cells : Try.prog.cellsOf t = s.n
 opened : ∀ {H : Type} {enc : TypeId × Value → H} {W : World} {fuel : Nat} {cs : List Value} {x : DataW H × List MemPlace}, DataW.trod enc Try.prog W 0 (fun _ => true) true fuel t cs = some x →
  ∃ a, s.rd W cs a ∧ ((∀ n ∈ x.1.weights Try.prog t, n ≤ reachBytes) → fits a) ∧ bulk a ≤ Rows.uptoBulk x.1
theorem opens_intw {k : IntKind} {t : TypeId} (ht : Try.prog.underlying t = some (.int k)) (hc : Try.prog.cellsOf t = 1) : Opens (Shp.int k) t (fun z => (Lit.int k z).wf = true) (fun _ => 1) := by
 refine ⟨hc, fun {H enc W fuel cs x} h => ?_⟩
 obtain ⟨z, hz, _, hw⟩ := DataW.trod_int ht h
 exact ⟨z, hz, fun _ => hw, bulk_pos _⟩
theorem choose_list {α : Type} {p : Nat → α → Prop} : ∀ n : Nat, (∀ i, i < n → ∃ x, p i x) → ∃ xs : List α, xs.length = n ∧ ∀ i x, xs[i]? = some x → p i x
 | 0, _ => ⟨[], rfl, fun i x h => by simp at h⟩
 | n + 1, h => by
  obtain ⟨xs, h1, h2⟩ := choose_list n fun i hi => h i (by omega)
  obtain ⟨x, hx⟩ := h n (by omega)
  refine ⟨xs ++ [x], by simp [h1], fun i y hy => ?_⟩
  by_cases e : i < n
  ·rw [List.getElem?_append_left (by omega)] at hy
   exact h2 i y hy
  ·rw [List.getElem?_append_right (by omega)] at hy
   have hi : i - xs.length = 0 := by
    have := (List.getElem?_eq_some_iff.1 hy).1
    simp at this; omega
   rw [hi] at hy
   simp at hy; subst hy
   obtain rfl : i = n := by omega
   exact hx
theorem weightsAll_mem {H : Type} {e : TypeId} {d : DataW H} {l : List (DataW H)} (hd : d ∈ l) {n : Nat} (hn : n ∈ d.weights Try.prog e) : n ∈ DataW.weightsAll Try.prog e l := by
 induction l with
 | nil => cases hd
 | cons x r ih =>
  simp only [DataW.weightsAll, List.mem_append]
  rcases List.mem_cons.1 hd with h | h
  ·subst h; exact .inl hn
  ·exact .inr (ih h)
theorem bulk_sum {H α : Type} (bulk : α → Nat) : ∀ (xs : List α) (D : Nat → DataW H), (∀ i x, xs[i]? = some x → bulk x ≤ Rows.uptoBulk (D i)) → (xs.map bulk).sum ≤ Rows.uptoBulkAll ((List.range xs.length).map D)
 | [], _, _ => by simp
 | x :: xs, D, h => by
  simp only [List.length_cons, List.range_succ_eq_map, List.map_cons, List.map_map, List.sum_cons, Rows.uptoBulkAll]
  have h0 := h 0 x rfl
  have := bulk_sum bulk xs (D ∘ Nat.succ) fun i y hy => h (i + 1) y (by simpa using hy)
  omega
theorem Opens.list {α : Type} {s : Shp α} {e t T bts : Nat} {fits : α → Prop} {bulk : α → Nat} (o : Opens s e fits bulk) (ht : Try.prog.underlying t = some (.slice e)) (hc : Try.prog.cellsOf t = 1) (hb : Try.prog.bytesOf e = bts) (hn : 0 < s.n) :
  Opens (Shp.list T s) t (fun xs => xs.length * bts ≤ 140737488351232 ∧ ∀ x ∈ xs, fits x) (fun xs => (xs.map bulk).sum) := by
 refine ⟨hc, fun {H enc W fuel cs x} h => ?_⟩
 rcases Deep.open_slice ht h with ⟨rfl, rfl⟩ | ⟨a, len, cap, m, n, D, Pl, rfl, _, hl, hm, hmm, rfl, hx⟩
 ·exact ⟨[], ⟨_, rfl, RdS.nil _ _⟩, fun _ => ⟨by simp, fun x hx => by cases hx⟩, by simp⟩
 simp only [if_true] at hmm
 subst hmm
 have each : ∀ i, i < len → ∃ x, (∃ c, s.rd W c x ∧ ∀ j u, c[j]? = some u → W.cell? ((a.add (i * s.n)).add j) = some u) ∧ ((∀ n ∈ (D i).weights Try.prog e, n ≤ reachBytes) → fits x) ∧ bulk x ≤ Rows.uptoBulk (D i) := by
  intro i hi
  obtain ⟨cs', h1, h2⟩ := hx i (by omega)
  obtain ⟨x, hr, hf, hbk⟩ := o.opened h2
  rw [o.cells] at h1
  obtain ⟨_, hlen, hcell⟩ := World.cells?_some h1
  refine ⟨x, ⟨cs', hr, fun j u hj => ?_⟩, hf, hbk⟩
  have hjl : j < cs'.length := (List.getElem?_eq_some_iff.1 hj).1
  have := hcell j (by omega)
  rw [this]; exact hj
 obtain ⟨xs, h1, h2⟩ := choose_list len each
 refine ⟨xs, ⟨_, rfl, some a, m, by rw [h1], by omega, hm, (fun h => by cases h), ?_⟩, fun hw => ⟨?_, fun x hx' => ?_⟩, ?_⟩
 ·by_cases h0 : len = 0
  ·left; exact List.eq_nil_of_length_eq_zero (by omega)
  ·right
   obtain ⟨b, off, spot⟩ := a
   obtain ⟨x0, hx0⟩ : ∃ x0, xs[0]? = some x0 := ⟨_, List.getElem?_eq_getElem (by omega)⟩
   obtain ⟨⟨c, hr, hc'⟩, _⟩ := h2 0 x0 hx0
   have hcl := s.rd_n hr
   obtain ⟨u0, hu0⟩ : ∃ u0, c[0]? = some u0 := ⟨_, List.getElem?_eq_getElem (by omega)⟩
   have hspot : spot = none := by
    have := World.cell?_spot (hc' 0 u0 hu0)
    simpa [Addr.add] using this
   subst hspot
   refine ⟨b, off, rfl, fun i x hxi => ?_⟩
   obtain ⟨⟨c, hr, hc'⟩, _⟩ := h2 i x hxi
   refine ⟨c, hr, fun j u hj => ?_⟩
   have := hc' j u hj
   have ea : ((⟨b, off, none⟩ : Addr).add (i * s.n)).add j = ⟨b, off + i * s.n + j, none⟩ := by
    rw [Deep.add_add]
    unfold Addr.add
    split <;> simp_all [Nat.add_assoc]
   rw [ea] at this
   exact this
 ·have := hw ((len + (m - len)) * bts) (by simp [DataW.weights, ht, hb])
  simp only [reachBytes] at this
  rw [h1]
  have h3 : len * bts ≤ (len + (m - len)) * bts := Nat.mul_le_mul_right _ (by omega)
  omega
 ·obtain ⟨i, hi, e⟩ := List.getElem_of_mem hx'
  have hxi : xs[i]? = some x := by rw [List.getElem?_eq_getElem hi, e]
  refine (h2 i x hxi).2.1 fun n hn => hw n ?_
  simp only [DataW.weights, ht, List.mem_cons, List.mem_append]
  right; left
  exact weightsAll_mem (d := D i) (List.mem_map.2 ⟨i, List.mem_range.2 (by omega), rfl⟩) hn
 ·have := bulk_sum bulk xs D fun i x hxi => (h2 i x hxi).2.2
  rw [h1] at this
  simp only [Rows.uptoBulk]
  omega
theorem Opens.pair {α β : Type} {s : Shp α} {r : Shp β} {t : TypeId} {f0 f1 : Field} {fa : α → Prop} {fb : β → Prop} {ba : α → Nat} {bb : β → Nat} (o : Opens s f0.type fa ba) (q : Opens r f1.type fb bb) (ht : Try.prog.underlying t = some (.struct #[f0, f1])) (hc : Try.prog.cellsOf t = s.n + r.n) (h0 : f0.offset = 0) (h1 : f1.offset = s.n) :
  Opens (s.pair r) t (fun z => fa z.1 ∧ fb z.2) (fun z => ba z.1 + bb z.2) := by
 refine ⟨hc, fun {H enc W fuel cs x} h => ?_⟩
 obtain ⟨xs, k, hk, hxy, hlen, hxl, hf⟩ := DataW.trod_struct ht h
 match xs, hxl with
 | [y0, y1], _ =>
  have g0 := hf 0 f0 rfl
  have g1 := hf 1 f1 rfl
  rw [h0, o.cells, List.drop_zero] at g0
  rw [h1, q.cells] at g1
  obtain ⟨a, ra, fa', ba'⟩ := o.opened (x := y0) (by simpa using g0)
  obtain ⟨b, rb, fb', bb'⟩ := q.opened (x := y1) (by simpa using g1)
  have hcs : cs = cs.take s.n ++ (cs.drop s.n).take r.n := by
   have : (cs.drop s.n).take r.n = cs.drop s.n := List.take_of_length_le (by rw [List.length_drop, hlen, hc]; omega)
   rw [this, List.take_append_drop]
  obtain ⟨d, p⟩ := x
  simp only [Prod.mk.injEq] at hxy
  obtain ⟨rfl, _⟩ := hxy
  refine ⟨(a, b), ⟨_, _, hcs, ra, rb⟩, fun hw => ⟨fa' fun n hn => hw n ?_, fb' fun n hn => hw n ?_⟩, ?_⟩
  ·simp only [DataW.weights, ht]
   exact DataW.weights_mem_each (j := 0) (t := f0.type) (d := y0.1) rfl rfl n hn
  ·simp only [DataW.weights, ht]
   exact DataW.weights_mem_each (j := 1) (t := f1.type) (d := y1.1) rfl rfl n hn
  ·simp only [List.map_cons, List.map_nil, Rows.uptoBulk, Rows.uptoBulkAll]
   omega
theorem reach_of {H : Type} {ts : List TypeId} {ds : List (DataW H)} (hsz : (DataW.weightsEach Try.prog ts ds).all (· ≤ reachBytes) = true) {j : Nat} {t : TypeId} {d : DataW H} (ht : ts[j]? = some t) (hd : ds[j]? = some d) : ∀ n ∈ d.weights Try.prog t, n ≤ reachBytes := by
 intro n hn
 have := List.all_eq_true.1 hsz _ (DataW.weights_mem_each ht hd _ hn)
 simpa using this
theorem Opens.three {α β γ : Type} {s : Shp α} {r : Shp β} {u : Shp γ} {t : TypeId} {f0 f1 f2 : Field} {fa : α → Prop} {fb : β → Prop} {fc : γ → Prop} {ba : α → Nat} {bb : β → Nat} {bc : γ → Nat} (o : Opens s f0.type fa ba) (q : Opens r f1.type fb bb) (p : Opens u f2.type fc bc)
  (ht : Try.prog.underlying t = some (.struct #[f0, f1, f2])) (hc : Try.prog.cellsOf t = s.n + (r.n + u.n)) (h0 : f0.offset = 0) (h1 : f1.offset = s.n) (h2 : f2.offset = s.n + r.n) :
  Opens (s.pair (r.pair u)) t (fun z => fa z.1 ∧ (fb z.2.1 ∧ fc z.2.2)) (fun z => ba z.1 + (bb z.2.1 + bc z.2.2)) := by
 refine ⟨hc, fun {H enc W fuel cs x} h => ?_⟩
 obtain ⟨xs, k, hk, hxy, hlen, hxl, hf⟩ := DataW.trod_struct ht h
 match xs, hxl with
 | [y0, y1, y2], _ =>
  have g0 := hf 0 f0 rfl
  have g1 := hf 1 f1 rfl
  have g2 := hf 2 f2 rfl
  rw [h0, o.cells, List.drop_zero] at g0
  rw [h1, q.cells] at g1
  rw [h2, p.cells] at g2
  obtain ⟨a, ra, fa', ba'⟩ := o.opened (x := y0) (by simpa using g0)
  obtain ⟨b, rb, fb', bb'⟩ := q.opened (x := y1) (by simpa using g1)
  obtain ⟨c, rc, fc', bc'⟩ := p.opened (x := y2) (by simpa using g2)
  have hcs : cs = cs.take s.n ++ ((cs.drop s.n).take r.n ++ (cs.drop (s.n + r.n)).take u.n) := by
   have e1 : (cs.drop (s.n + r.n)).take u.n = cs.drop (s.n + r.n) := List.take_of_length_le (by rw [List.length_drop, hlen, hc]; omega)
   rw [e1, ← List.drop_drop, List.take_append_drop, List.take_append_drop]
  obtain ⟨d, pl⟩ := x
  simp only [Prod.mk.injEq] at hxy
  obtain ⟨rfl, _⟩ := hxy
  refine ⟨(a, (b, c)), ⟨_, _, hcs, ra, ⟨_, _, rfl, rb, rc⟩⟩, fun hw => ⟨fa' fun n hn => hw n ?_, fb' fun n hn => hw n ?_, fc' fun n hn => hw n ?_⟩, ?_⟩
  ·simp only [DataW.weights, ht]
   exact DataW.weights_mem_each (j := 0) (t := f0.type) (d := y0.1) rfl rfl n hn
  ·simp only [DataW.weights, ht]
   exact DataW.weights_mem_each (j := 1) (t := f1.type) (d := y1.1) rfl rfl n hn
  ·simp only [DataW.weights, ht]
   exact DataW.weights_mem_each (j := 2) (t := f2.type) (d := y2.1) rfl rfl n hn
  ·simp only [List.map_cons, List.map_nil, Rows.uptoBulk, Rows.uptoBulkAll]
   omega
end Go.Proofs.Ytdjjegaodgocmaa

namespace Go.Proofs.Ytdjjegaodgocmaa
abbrev Str := List UInt8
structure Nd where
 leaf : Bool
 keys : List Str
 vals : List Str
 kids : List Int
deriving DecidableEq
abbrev slt (a b : Str) : Bool := Op.bytesLess a b
def nkey (n : Nd) (k : Nat) : Str := n.keys[k]?.getD []
def nkOk (n : Nd) (k : Nat) : Prop := 1 ≤ (nkey n k).length ∧ (nkey n k).length ≤ 32 ∧ (0 < k → slt (nkey n (k - 1)) (nkey n k) = true)
instance (n : Nd) (k : Nat) : Decidable (nkOk n k) := by unfold nkOk; infer_instance
def nkeys (n : Nd) (m : Nat) : Prop := ∀ k, k < m → nkOk n k
def ncount (n : Nd) : Prop := if n.leaf then n.vals.length = n.keys.length ∧ n.kids.length = 0 else n.vals.length = 0 ∧ 1 ≤ n.keys.length ∧ n.kids.length = n.keys.length + 1
def nvals (n : Nd) (m : Nat) : Prop := ∀ k, k < m → (n.vals[k]?.getD []).length ≤ 64
def nkids (n : Nd) (m : Nat) : Prop := ∀ k, k < m → 1 ≤ n.kids[k]?.getD 0 ∧ n.kids[k]?.getD 0 ≤ 65536
instance (n : Nd) (m : Nat) : Decidable (nkeys n m) := by unfold nkeys; infer_instance
instance (n : Nd) : Decidable (ncount n) := by unfold ncount; infer_instance
instance (n : Nd) (m : Nat) : Decidable (nvals n m) := by unfold nvals; infer_instance
instance (n : Nd) (m : Nat) : Decidable (nkids n m) := by unfold nkids; infer_instance
def n4 (z : Int) : List UInt8 := [UInt8.ofNat (z.toNat / 16777216), UInt8.ofNat (z.toNat / 65536), UInt8.ofNat (z.toNat / 256), UInt8.ofNat z.toNat]
def nfew (n : Nd) : Prop := n.keys.length < 2 ∨ (n.leaf = false ∧ n.keys.length < 3)
instance (n : Nd) : Decidable (nfew n) := by unfold nfew; infer_instance
end Go.Proofs.Ytdjjegaodgocmaa

namespace Go.Proofs.Ytdjjegaodgocmaa
abbrev Op3 := Int × (Str × Str)
structure Cmd where
 kind : Int
 txn : Int
 home : Int
 verd : Int
 ops : List Op3
deriving DecidableEq
def czero : Cmd := ⟨0, 0, 0, 0, []⟩
def okey (o : Op3) : Prop := 1 ≤ o.2.1.length ∧ o.2.1.length ≤ 32
def oval (o : Op3) : Prop := o.2.2.length ≤ 64 ∧ (o.1 = 2 ∨ o.2.2 = [])
def okind (o : Op3) : Prop := 1 ≤ o.1 ∧ o.1 ≤ 3
instance (o : Op3) : Decidable (okey o) := by unfold okey; infer_instance
instance (o : Op3) : Decidable (oval o) := by unfold oval; infer_instance
instance (o : Op3) : Decidable (okind o) := by unfold okind; infer_instance
def copsE (l : List Op3) : Int := if 16 < l.length then 3 else if ¬ (∀ o ∈ l, okey o) then 91 else if ¬ (∀ o ∈ l, oval o) then 5 else 0
def cnone (k : Int) : Prop := k = 5 ∨ k = 6
instance (k : Int) : Decidable (cnone k) := by unfold cnone; infer_instance
def ctxn (c : Cmd) : Prop := if cnone c.kind then c.txn = 0 else 1 ≤ c.txn ∧ c.txn ≤ 1099511627776
instance (c : Cmd) : Decidable (ctxn c) := by unfold ctxn; infer_instance
def cverd (c : Cmd) : Prop := if c.kind = 4 then c.verd = 1 ∨ c.verd = 2 else c.verd = 0
instance (c : Cmd) : Decidable (cverd c) := by unfold cverd; infer_instance
def ccheck (c : Cmd) : Int :=
 if ¬ (1 ≤ c.kind ∧ c.kind ≤ 6) then 22 else if ¬ (∀ o ∈ c.ops, okind o) then 22 else if ¬ ctxn c then 4 else if ¬ (0 ≤ c.home ∧ c.home < 4) then 4 else if ¬ cverd c then 4 else if c.kind ≠ 1 ∧ c.ops ≠ [] then 3 else copsE c.ops
structure COk (c : Cmd) : Prop where
 kind : 1 ≤ c.kind ∧ c.kind ≤ 6
 okind : ∀ o ∈ c.ops, okind o
 txn : ctxn c
 home : 0 ≤ c.home ∧ c.home < 4
 verd : cverd c
 one : c.kind = 1 ∨ c.ops = []
 len : c.ops.length ≤ 16
 keys : ∀ o ∈ c.ops, okey o
 vals : ∀ o ∈ c.ops, oval o
theorem ccheck_ok {c : Cmd} : ccheck c = 0 ↔ COk c := by
 unfold ccheck
 constructor
 ·intro h
  by_cases h1 : (1 ≤ c.kind ∧ c.kind ≤ 6)
  ·by_cases h2 : (∀ o ∈ c.ops, okind o)
   ·by_cases h3 : ctxn c
    ·by_cases h4 : (0 ≤ c.home ∧ c.home < 4)
     ·by_cases h5 : cverd c
      ·by_cases h6 : c.kind ≠ 1 ∧ c.ops ≠ []
       ·rw [if_neg (fun k => k h1), if_neg (fun k => k h2), if_neg (fun k => k h3), if_neg (fun k => k h4), if_neg (fun k => k h5), if_pos h6] at h; cases h
       ·rw [if_neg (fun k => k h1), if_neg (fun k => k h2), if_neg (fun k => k h3), if_neg (fun k => k h4), if_neg (fun k => k h5), if_neg h6] at h
        unfold copsE at h
        by_cases h7 : 16 < c.ops.length
        ·rw [if_pos h7] at h; cases h
        ·by_cases h8 : (∀ o ∈ c.ops, okey o)
         ·by_cases h9 : (∀ o ∈ c.ops, oval o)
          ·exact ⟨h1, h2, h3, h4, h5, by rcases Decidable.em (c.kind = 1) with q | q; exact .inl q; exact .inr (Decidable.byContradiction fun r => h6 ⟨q, r⟩), by omega, h8, h9⟩
          ·rw [if_neg h7, if_neg (fun k => k h8), if_pos h9] at h; cases h
         ·rw [if_neg h7, if_pos h8] at h; cases h
      ·rw [if_neg (fun k => k h1), if_neg (fun k => k h2), if_neg (fun k => k h3), if_neg (fun k => k h4), if_pos h5] at h; cases h
     ·rw [if_neg (fun k => k h1), if_neg (fun k => k h2), if_neg (fun k => k h3), if_pos h4] at h; cases h
    ·rw [if_neg (fun k => k h1), if_neg (fun k => k h2), if_pos h3] at h; cases h
   ·rw [if_neg (fun k => k h1), if_pos h2] at h; cases h
  ·rw [if_pos h1] at h; cases h
 ·rintro ⟨h1, h2, h3, h4, h5, h6, h7, h8, h9⟩
  rw [if_neg (fun k => k h1), if_neg (fun k => k h2), if_neg (fun k => k h3), if_neg (fun k => k h4), if_neg (fun k => k h5), if_neg (by rintro ⟨a, b⟩; rcases h6 with h6 | h6; exact a h6; exact b h6)]
  unfold copsE
  rw [if_neg (by omega), if_neg (fun k => k h8), if_neg (fun k => k h9)]
def b8 (n : Int) : UInt8 := UInt8.ofNat n.toNat
def cgroups (n : Nat) : List UInt8 := if n < 128 then [UInt8.ofNat n] else UInt8.ofNat (n % 128 + 128) :: cgroups (n / 128)
termination_by n
decreasing_by omega
theorem cgroups_small {n : Nat} (h : n < 128) : cgroups n = [UInt8.ofNat n] := by rw [cgroups, if_pos h]
theorem cgroups_big {n : Nat} (h : ¬ n < 128) : cgroups n = UInt8.ofNat (n % 128 + 128) :: cgroups (n / 128) := by rw [cgroups, if_neg h]
def opO (v : Int) (o : Op3) : List UInt8 := [b8 o.1, b8 o.2.1.length] ++ (if v = 1 then o.2.1 ++ [0, b8 o.2.2.length] else b8 o.2.2.length :: o.2.1) ++ o.2.2
def cencO (c : Cmd) (v : Int) : List UInt8 := [b8 v, b8 c.kind] ++ (if v = 1 then oc c.txn.toNat 8 else cgroups c.txn.toNat) ++ [b8 c.home, b8 c.verd, b8 c.ops.length] ++ c.ops.flatMap (opO v)
def cver (c : Cmd) (v : Int) : Prop := (v = 1 ∨ v = 2) ∧ (v = 1 → c.kind ≠ 5 ∧ c.ops.length ≤ 4)
instance (c : Cmd) (v : Int) : Decidable (cver c v) := by unfold cver; infer_instance
def cenc (c : Cmd) (v : Int) : List UInt8 × Int := if ccheck c ≠ 0 then ([], ccheck c) else if ¬ cver c v then ([], 131) else (cencO c v, 0)
theorem cenc_yes {c : Cmd} {v : Int} (h : COk c) (h2 : cver c v) : cenc c v = (cencO c v, 0) := by
 unfold cenc
 rw [if_neg (by rw [ccheck_ok.2 h]; simp), if_neg (fun k => k h2)]
abbrev Rst := List UInt8 × Int
def tk (s : Rst) (n : Nat) : List UInt8 × Rst := if s.2 ≠ 0 then ([], s) else if s.1.length < n then ([], (s.1, 8)) else (s.1.take n, (s.1.drop n, 0))
def nm (s : Rst) (n : Nat) : Nat × Rst := (numOf (tk s n).1, (tk s n).2)
def grp : Nat → Nat → Nat → Rst → Nat × Rst
 | 0, i, a, s => (0, (s.1, 4))
 | f + 1, i, a, s => if (nm s 1).2.2 ≠ 0 then (0, (nm s 1).2) else if (nm s 1).1 < 128 then (a + (nm s 1).1 * 2 ^ (7 * i), if (nm s 1).1 = 0 ∧ 0 < i then ((nm s 1).2.1, 4) else (nm s 1).2) else grp f (i + 1) (a + ((nm s 1).1 % 128) * 2 ^ (7 * i)) (nm s 1).2
def rop (v : Int) (s : Rst) : Op3 × Rst :=
 let k0 := nm s 1
 let k1 := nm k0.2 1
 if v = 1 then
  let key := tk k1.2 k1.1
  let vl := nm key.2 2
  let val := tk vl.2 vl.1
  (((k0.1 : Int), (key.1, val.1)), val.2)
 else
  let vl := nm k1.2 1
  let key := tk vl.2 k1.1
  let val := tk key.2 vl.1
  (((k0.1 : Int), (key.1, val.1)), val.2)
def rit (v : Int) (s : Rst) : Nat → List Op3 × Rst
 | 0 => ([], s)
 | k + 1 => if (rit v s k).2.2 ≠ 0 then rit v s k else ((rit v s k).1 ++ [(rop v (rit v s k).2).1], (rop v (rit v s k).2).2)
def ctx (ver : Nat) (s : Rst) : (Nat × Bool) × Rst := if ver = 1 then (((nm s 8).1 % 2 ^ 62, decide (2 ^ 40 < (nm s 8).1)), (nm s 8).2) else (((grp 6 0 0 s).1, false), (grp 6 0 0 s).2)
abbrev Rdg := (Nat × Cmd × Bool) × Rst
def crd6 (ver kind : Nat) (tx : Nat × Bool) (home verd cnt : Nat) (s : Rst) : Rdg := ((ver, ⟨kind, tx.1, home, verd, (rit (ver : Int) s cnt).1⟩, tx.2), (rit (ver : Int) s cnt).2)
def crd5 (ver kind : Nat) (tx : Nat × Bool) (home verd : Nat) (s : Rst) : Rdg := crd6 ver kind tx home verd (nm s 1).1 (nm s 1).2
def crd4 (ver kind : Nat) (tx : Nat × Bool) (home : Nat) (s : Rst) : Rdg := crd5 ver kind tx home (nm s 1).1 (nm s 1).2
def crd3 (ver kind : Nat) (tx : Nat × Bool) (s : Rst) : Rdg := crd4 ver kind tx (nm s 1).1 (nm s 1).2
def crd2 (ver kind : Nat) (s : Rst) : Rdg := crd3 ver kind (ctx ver s).1 (ctx ver s).2
def crd1 (ver : Nat) (s : Rst) : Rdg := crd2 ver (nm s 1).1 (nm s 1).2
def crd0 (s : Rst) : Rdg := crd1 (nm s 1).1 (nm s 1).2
def cfin (r : Rdg) : Cmd := if r.1.2.2 = true then { r.1.2.1 with txn := 1099511627777 } else r.1.2.1
def cvend (r : Rdg) : Cmd × Int × Int :=
 if r.2.2 ≠ 0 then (czero, 0, r.2.2) else if 0 < r.2.1.length then (czero, 0, 23) else
  if ccheck (cfin r) ≠ 0 then (czero, 0, ccheck (cfin r)) else if (cenc (cfin r) r.1.1).2 ≠ 0 then (czero, 0, (cenc (cfin r) r.1.1).2) else (cfin r, r.1.1, 0)
def cdec (b : List UInt8) : Cmd × Int × Int :=
 if (nm (b, 0) 1).2.2 = 0 ∧ (nm (b, 0) 1).1 ≠ 1 ∧ (nm (b, 0) 1).1 ≠ 2 then (czero, 0, 131) else cvend (crd0 (b, 0))
theorem rit_err {v : Int} {s : Rst} (h : s.2 ≠ 0) : ∀ k, rit v s k = ([], s)
 | 0 => rfl
 | k + 1 => by rw [rit, rit_err h k, if_pos h]
theorem tk_err {s : Rst} (h : s.2 ≠ 0) (n : Nat) : tk s n = ([], s) := if_pos h
theorem nm_err {s : Rst} (h : s.2 ≠ 0) (n : Nat) : nm s n = (0, s) := by unfold nm; rw [tk_err h]; rfl
def Mo {α : Type} (f : Rst → α × Rst) : Prop := (∀ s, s.2 ≠ 0 → (f s).2 = s) ∧ ∀ l t a r e, f (l, 0) = (a, (r, e)) → e = 8 ∨ ((f (l ++ t, 0)).2.2 = e ∧ (e = 0 → f (l ++ t, 0) = (a, (r ++ t, 0))))
theorem Mo.map {α β : Type} {f : Rst → α × Rst} (hf : Mo f) (m : α → β) : Mo (fun s => (m (f s).1, (f s).2)) := by
 refine ⟨fun s hs => hf.1 s hs, fun l t b r e hb => ?_⟩
 dsimp only at hb ⊢
 obtain ⟨a, r1, e1, hfl⟩ : ∃ a r e, f (l, 0) = (a, (r, e)) := ⟨_, _, _, rfl⟩
 rw [hfl] at hb
 simp only [Prod.mk.injEq] at hb
 obtain ⟨rfl, rfl, rfl⟩ := hb
 rcases hf.2 l t a _ _ hfl with h | ⟨h, h9⟩
 ·exact .inl h
 ·exact .inr ⟨h, fun q => by rw [h9 q]⟩
theorem cgroups_len : ∀ (k n : Nat), n < 2 ^ (7 * k) → 0 < k → (cgroups n).length ≤ k
 | 0, n, _, h => absurd h (by omega)
 | k + 1, n, h, _ => by
  by_cases hn : n < 128
  ·rw [cgroups_small hn]; simp
  ·rw [cgroups_big hn, List.length_cons]
   rw [show 7 * (k + 1) = 7 * k + 7 by omega, Nat.pow_add] at h
   have hk : 0 < k := by
    rcases Nat.eq_zero_or_pos k with q | q
    ·subst q; simp at h; omega
    ·exact q
   have := cgroups_len k (n / 128) (Nat.div_lt_of_lt_mul (by omega)) hk
   omega
end Go.Proofs.Ytdjjegaodgocmaa

namespace Go.Proofs.Ytdjjegaodgocmaa
open Go.RowKit
theorem rd_sub {w : World} {a : Option Addr} {len cap : Nat} {xs : List UInt8} (h : Rd w (.slice a len cap) xs) {q to : Nat} (h1 : q ≤ to) (h2 : to ≤ len) :
  Rd w (.slice (a.map fun x => x.add q) (to - q) (cap - q)) ((xs.take to).drop q) ∧ (cap = q → Rd w (.slice a (to - q) 0) ((xs.take to).drop q)) := by
 obtain ⟨ao, c, e, l1, m1, n1, r1⟩ := h
 simp only [Value.slice.injEq] at e
 obtain ⟨rfl, rfl, rfl⟩ := e
 have el : ((xs.take to).drop q).length = to - q := by simp; omega
 refine ⟨⟨a.map fun x => x.add q, cap - q, by rw [el], by rw [el]; omega, by omega, ?_, ?_⟩, fun hc => ?_⟩
 ·intro h
  cases a with
  | none => rw [n1 rfl]; simp
  | some x => cases h
 ·rcases r1 with rfl | ⟨b, off, rfl, hc⟩
  ·left; simp
  ·by_cases h0 : to = q
   ·left; apply List.eq_nil_of_length_eq_zero; rw [el]; omega
   ·right
    refine ⟨b, off + q, ?_, fun i hi => ?_⟩
    ·simp [Addr.add]
    ·rw [el] at hi
     have := hc (q + i) (by omega)
     rw [show off + q + i = off + (q + i) from by omega, this]
     simp only [bt]
     congr 3
     simp only [List.getD_eq_getElem?_getD, List.getElem?_drop, List.getElem?_take]
     rw [if_pos (by omega)]
 ·have h0 : to - q = 0 := by omega
  have en : (xs.take to).drop q = [] := List.eq_nil_of_length_eq_zero (by rw [el, h0])
  rw [en, h0]
  exact ⟨a, 0, rfl, Nat.le_refl _, Nat.zero_le _, fun _ => rfl, .inl rfl⟩
theorem rd_cut {w : World} {a : Option Addr} {len cap : Nat} {xs : List UInt8} (h : Rd w (.slice a len cap) xs) {q to : Nat} (h1 : q ≤ to) (h2 : to ≤ len) :
  ∃ A, (if cap = q then a else Option.map (fun x => x.add q) a) = A ∧ Rd w (.slice A (to - q) (cap - q)) ((xs.take to).drop q) := by
 obtain ⟨s1, s2⟩ := rd_sub h h1 h2
 by_cases hc : cap = q
 ·refine ⟨a, if_pos hc, ?_⟩
  rw [show cap - q = 0 from by omega]
  exact s2 hc
 ·exact ⟨_, if_neg hc, s1⟩
end Go.Proofs.Ytdjjegaodgocmaa

namespace Go.Proofs.Ytdjjegaodgocmaa
open Go.RowKit
theorem boxedN (w : World) (cs : Array Value) (t : TypeId) : ∃ u, u = w.alloc (.cells cs t) ∧ u.heap[w.heap.size]? = some (.cells cs t (0, 0)) ∧ Below w.heap.size w u ∧ u.heap.size = w.heap.size + 1 :=
 ⟨_, rfl, heap_alloc_last w _, (Below.refl _ _).alloc (Nat.le_refl _) _, by simp⟩
theorem retN {P : Program} {fn : Func} {R : Ending → World → Prop} {a : Act} {w : World} {p : Tmp} {ty : TypeId} (h : fn.results = #[.cell p ty]) (hd : a.defers = []) (g : Nat) (hp : a.tmps.getD p undef = .pointer (some ⟨g, 0, none⟩))
  (cs : Array Value) (t : TypeId) (fr : Nat × Nat) (hg : w.heap[g]? = some (.cells cs t fr)) (d : TypeDesc) (hu : P.underlying ty = some d) (hr : (match d with | .struct _ | .array _ _ => true | _ => false) = true) (hi : (P.info? ty).map (·.size) = some cs.size)
  (hR : R (.returned (.agg cs)) w) : bodyPost P fn R .ret a w := by
 refine bodyPost_ret (v := .agg cs) ?_ hd hR
 have hp' : a.tmps[p]?.getD undef = .pointer (some ⟨g, 0, none⟩) := by simpa using hp
 simp [results, h, hp', asAddr, run_loadVar_row w g t ty cs fr d hg hu hr hi]
theorem retNTT {P : Program} {fn : Func} {R : Ending → World → Prop} {a : Act} {w : World} {p u1 u2 : Tmp} {ty : TypeId} (h : fn.results = #[.cell p ty, .tmp u1, .tmp u2]) (hd : a.defers = []) (g : Nat) (hp : a.tmps.getD p undef = .pointer (some ⟨g, 0, none⟩))
  (cs : Array Value) (t : TypeId) (fr : Nat × Nat) (hg : w.heap[g]? = some (.cells cs t fr)) (d : TypeDesc) (hu : P.underlying ty = some d) (hr : (match d with | .struct _ | .array _ _ => true | _ => false) = true) (hi : (P.info? ty).map (·.size) = some cs.size)
  (v1 : Value) (e1 : a.tmps.getD u1 undef = v1) (v2 : Value) (e2 : a.tmps.getD u2 undef = v2) (hR : R (.returned (.tuple #[.agg cs, v1, v2])) w) : bodyPost P fn R .ret a w := by
 refine bodyPost_ret (v := .tuple #[.agg cs, v1, v2]) ?_ hd hR
 have hp' : a.tmps[p]?.getD undef = .pointer (some ⟨g, 0, none⟩) := by simpa using hp
 have e1' : a.tmps[u1]?.getD undef = v1 := by simpa using e1
 have e2' : a.tmps[u2]?.getD undef = v2 := by simpa using e2
 simp [results, h, hp', e1', e2', asAddr, run_loadVar_row w g t ty cs fr d hg hu hr hi]
theorem conv_rd {w : World} {v : Value} {xs : List UInt8} (h : Rd w v xs) (h0 : 0 < xs.length) : (convert 25 9 v).run Try.prog w = .ok (.string ⟨xs.toArray⟩) w := by
 obtain ⟨ao, cap, rfl, h1, h2, h3, h4⟩ := h
 rcases h4 with h4 | ⟨b, off, rfl, hc⟩
 ·subst h4; simp at h0
 ·refine run_convert_bytes_back w 25 9 5 ⟨b, off, none⟩ cap xs Try.underlying25 Try.underlying5 Try.underlying9 fun j hj => ?_
  have := hc j hj
  rw [show (⟨b, off, none⟩ : Addr).add j = ⟨b, off + j, none⟩ by simp [Addr.add], this]
  unfold bt
  simp [List.getD_eq_getElem?_getD, hj]
end Go.Proofs.Ytdjjegaodgocmaa

namespace Go.Proofs.Ytdjjegaodgocmaa
open Go.RowKit
theorem i64_or128 (y : Nat) (h : y < 128) : bits .or .i64 (y : Int) 128 = ((y + 128 : Nat) : Int) := by
 have key : (BitVec.ofInt 64 (y : Int) ||| BitVec.ofInt 64 128).toNat = y + 128 := by
  rw [BitVec.toNat_or, show (BitVec.ofInt 64 (128 : Int)).toNat = 128 by decide, BitVec.ofInt_natCast, BitVec.toNat_ofNat, Nat.mod_eq_of_lt (by omega)]
  have := Nat.two_pow_add_eq_or_of_lt (i := 7) (b := y) (by omega) 1
  simp only [Nat.mul_one] at this
  rw [Nat.or_comm, show (128 : Nat) = 2 ^ 7 from rfl, ← this, Nat.add_comm]
 show IntKind.i64.wrap ((BitVec.ofInt 64 (y : Int) ||| BitVec.ofInt 64 128).toNat : Nat) = _
 rw [key, IntKind.wrap_i64]
 omega
theorem u8_is (n : Nat) : IntKind.u8.wrap (n : Int) = ((UInt8.ofNat n).toNat : Int) := by
 rw [IntKind.wrap_u8', UInt8.toNat_ofNat']
 omega
set_option maxRecDepth 100000 in
set_option maxHeartbeats 2000000 in
theorem rcgroups_any (w : World) (n : Nat) (hn : n ≤ 1099511627776) : Calls Try.prog 26 #[.int .i64 (n : Int)] w fun e w' => ∃ v, e = .returned v ∧ OwnB w.heap.size w' v (cgroups n) ∧ Below w.heap.size w w' := by
 go_enter Try.func26, Try.ntmps26
 go_wp2
 go_loopw [0, 3] (fun p v wr => ∃ (m : Nat) (bs : List UInt8) (v9 : Value), v9 = v ∧ m ≤ n ∧ p = .int .i64 (m : Int) ∧ Hid (OwnB w.heap.size wr v9 bs ∧ Below w.heap.size w wr ∧ bs ++ cgroups m = cgroups n ∧ bs.length + m ≤ n)) (fun p _ _ => (intOf p).toNat)
 case atStart => exact ⟨n, [], _, rfl, Nat.le_refl _, rfl, hide ⟨World.ownsRow_nil _ _ _ _, Below.refl _ _, rfl, by simp⟩⟩
 case round =>
  obtain ⟨m, bs, v, rfl, hm, rfl, hI⟩ := hrel
  obtain ⟨av, cap, hv⟩ := hI.out.1.rd.slice
  obtain ⟨BL, hBL⟩ : ∃ L, L = bs.length := ⟨_, rfl⟩
  have hbl : BL + m ≤ n := by rw [hBL]; exact hI.out.2.2.2
  rw [← hBL] at hv
  replace hBL := hide hBL
  subst hv
  by_cases hb : (128 : Int) ≤ (m : Int)
  ·obtain ⟨q, hq⟩ : ∃ q, q = m % 128 := ⟨_, rfl⟩
   obtain ⟨z, hz⟩ : ∃ z, z = UInt8.ofNat (q + 128) := ⟨_, rfl⟩
   obtain ⟨d, hd⟩ : ∃ d, d = m / 128 := ⟨_, rfl⟩
   have g1 : bits .and .i64 (m : Int) 127 = (q : Int) := by rw [i64_and127]; omega
   have g2 : bits .or .i64 (q : Int) 128 = ((q + 128 : Nat) : Int) := i64_or128 q (by omega)
   have g3 : IntKind.u8.wrap ((q + 128 : Nat) : Int) = ((z.toNat : Nat) : Int) := by rw [hz]; exact u8_is _
   have hgr : Hid (cgroups m = z :: cgroups d) := by show _ = _; rw [cgroups_big (by omega), ← hq, ← hd, hz]
   have hdm : d < m := by omega
   have hdi : (m : Int) / 128 = (d : Int) := by omega
   obtain ⟨X, hX, DX, bX, sX⟩ := boxedN wr #[.int .u8 (z.toNat : Int)] 5
   have O := hide (rows_to hI.out.1 bX)
   have R := hide (rd_lit wr [z] #[.int .u8 (z.toNat : Int)] wr.heap.size 1 rfl rfl rfl (by simp))
   have BX := hide (hI.out.2.1.trans (bX.mono hI.out.2.1.size))
   rw [hX] at O BX
   have hq9 := hide (And.intro hq hz)
   replace hd := hide hd
   generalize hq128 : ((q + 128 : Nat) : Int) = Q at g2 g3
   clear DX bX sX hX hq hz hq128
   go_wp2_with (at_builtin; refine wpList_append_octs rfl _ _ rfl w.heap.size _ _ bs [z] rfl rfl O.out R.out (by rw [← hBL.out]; simp; omega) BX.out.size ?_; intro v6 w6 o6 b6 _; have F : Hid (OwnB w.heap.size w6 v6 (bs ++ [z]) ∧ Below w.heap.size w w6 ∧ (bs ++ [z]) ++ cgroups d = cgroups n ∧ (bs ++ [z]).length + d ≤ n) := ⟨o6, BX.out.trans b6, by rw [List.append_assoc, List.singleton_append, ← hgr.out]; exact hI.out.2.2.1, by have := hBL.out; simp; omega⟩; clear o6 b6)
   go_roundw
   case rel => exact ⟨d, _, _, rfl, by omega, by go_num, F⟩
   case measure => simp [intOf]; omega
  ·obtain ⟨z, hz⟩ : ∃ z, z = UInt8.ofNat m := ⟨_, rfl⟩
   have g3 : IntKind.u8.wrap (m : Int) = ((z.toNat : Nat) : Int) := by rw [hz]; exact u8_is _
   have hgr : Hid (cgroups m = [z]) := by show _ = _; rw [cgroups_small (by omega), hz]
   obtain ⟨X, hX, DX, bX, sX⟩ := boxedN wr #[.int .u8 (z.toNat : Int)] 5
   have O := hide (rows_to hI.out.1 bX)
   have R := hide (rd_lit wr [z] #[.int .u8 (z.toNat : Int)] wr.heap.size 1 rfl rfl rfl (by simp))
   have BX := hide (hI.out.2.1.trans (bX.mono hI.out.2.1.size))
   rw [hX] at O BX
   clear DX bX sX hX hz
   go_wp2_with (at_builtin; refine wpList_append_octs rfl _ _ rfl w.heap.size _ _ bs [z] rfl rfl O.out R.out (by rw [← hBL.out]; simp; omega) BX.out.size ?_; intro v6 w6 o6 b6 _; have F : Hid (OwnB w.heap.size w6 v6 (cgroups n) ∧ Below w.heap.size w w6) := ⟨by rw [← hI.out.2.2.1, hgr.out]; exact o6, BX.out.trans b6⟩; clear o6 b6)
   go_ret
   exact ⟨_, rfl, F.out⟩
end Go.Proofs.Ytdjjegaodgocmaa

namespace Go.Proofs.Ytdjjegaodgocmaa
open Go.RowKit
theorem oc_take (n s k : Nat) (hk : k < s) : (oc n s).take (k + 1) = (oc n s).take k ++ [ob n (s - 1 - k)] := by
 rw [List.take_succ_eq_append_getElem (by rw [oc_length]; exact hk)]
 congr 1
 simp [oc]
theorem heap_new1 (w : World) (o : Obj) : (w.alloc o).heap[w.heap.size]? = some o := by
 show (w.heap.push o)[w.heap.size]? = _
 simp
theorem news_one (w : World) (x : Value) (t : TypeId) : ∀ j u, ([x] : List Value)[j]? = some u → (w.alloc (.cells #[x] t)).cell? ((⟨w.heap.size, 0, none⟩ : Addr).add j) = some u := by
 intro j u hj
 match j, hj with
 | 0, hj =>
  simp at hj
  subst hj
  have h := heap_new1 w (.cells #[x] t)
  show (w.alloc (.cells #[x] t)).cell? ⟨w.heap.size, 0, none⟩ = some x
  unfold World.cell?
  simp only [h]
  rfl
set_option maxRecDepth 100000 in
set_option maxHeartbeats 1000000 in
theorem refOctets_any (w : World) (n s : Nat) (h8 : s ≤ 8) (hn64 : n < 18446744073709551616) :
  Calls Try.prog 25 #[.int .u64 (n : Int), .int .i64 (s : Int)] w fun e w' => ∃ v, e = .returned v ∧ OwnB w.heap.size w' v (oc n s) ∧ Below w.heap.size w w' := by
 obtain ⟨i0, hi, hz0, hz1, hz2⟩ := info_parts info8
 go_enter Try.func25, Try.ntmps25
 go_wp2
 go_loopw [5, 6] (fun v i wr => ∃ k : Nat, k ≤ s ∧ i = .int .i64 ((s : Int) - 1 - (k : Int)) ∧ OwnB w.heap.size wr v ((oc n s).take k) ∧ Below w.heap.size w wr) (fun _ i _ => (intOf i + 1).toNat)
 case atStart => exact ⟨0, Nat.zero_le _, by go_num, by rw [List.take_zero]; exact World.ownsRow_nil _ _ _ _, Below.refl _ _⟩
 case round =>
  obtain ⟨k, hk, rfl, hown, hb⟩ := hrel
  by_cases hlt : k < s
  ·have htl : ((oc n s).take k).length = k := by rw [List.length_take, oc_length]; omega
   have hst := oc_take n s k hlt
   unfold OwnB at hown
   rw [htl] at hown
   obtain ⟨I, hI0⟩ : ∃ I : Nat, s - 1 - k = I := ⟨_, rfl⟩
   have hI : (s : Int) - 1 - (k : Int) = (I : Int) := by omega
   have hvx : Value.int .u8 (IntKind.u8.wrap ((n : Int) / 2 ^ (8 * I))) = enc (ob n I) := by rw [enc_ob, IntKind.wrap_u8']
   rw [hI0] at hst
   obtain ⟨X, hX⟩ : ∃ X, (oc n s).take k = X := ⟨_, rfl⟩
   rw [hX] at hown htl hst
   have n4 : k + 1 ≤ maxLen := by rw [show maxLen = 9223372036854775807 from rfl]; omega
   have n5 : (k + 1) * 1 ≤ 140737488355328 := by omega
   have n6 := hb.size
   have HFIN : Hid (∀ v1 w3 tmp, w3.ownsRow w.heap.size 5 1 v1 (k + 1) (X.map enc ++ [.int .u8 (IntKind.u8.wrap ((n : Int) / 2 ^ (8 * I)))]) → (wr.alloc tmp).grownBy w3 u5.ownBlock → OwnB w.heap.size w3 v1 ((oc n s).take (k + 1)) ∧ Below w.heap.size w w3) := fun v1 w3 tmp h hg => by
    refine ⟨?_, (hb.alloc n6 _).grown hg (by simp; omega) (fun j hj => (hown.lt j hj).1)⟩
    unfold OwnB
    rw [hst, List.length_append, htl, List.map_append]
    rw [hvx] at h
    exact h
   have HOWN := hide hown
   clear hown hb hst hX hvx
   rw [hI]
   have hI7 : (I : Int) ≤ 7 := by omega
   have HI := hide hI
   clear hI hI0
   go_wp2_with (at_builtin; refine wpList_append_own _ rfl _ _ 25 rfl w.heap.size 5 i0 (.int .u8 0) 1 1 Try.underlying25 hi hz0 hz1 hz2 rfl (by decide) _ _ _ rfl (HOWN.out.alloc _) ⟨wr.heap.size, 0, none⟩ 1 1 [_] rfl rfl (news_one _ _ _) (by intro u hu; simp at hu; subst hu; rfl) n4 n5 (by simp; omega) ?_; intro v1 w3 hown1 hgrow1 hnil1; have HF := hide (HFIN.out _ _ _ hown1 hgrow1); clear hown1 hgrow1 hnil1)
   go_roundw
   case rel => exact ⟨k + 1, by omega, by rw [show ((s : Int) - 1 - ((k + 1 : Nat) : Int)) = (I : Int) - 1 from by have := HI.out; omega], HF.out.1, HF.out.2⟩
   case measure => simp [intOf]
  ·have hks : k = s := by omega
   subst hks
   go_wp2
   go_ret
   exact ⟨_, rfl, by rw [List.take_of_length_le (by rw [oc_length]; exact Nat.le_refl _)] at hown; exact hown, hb⟩
set_option maxRecDepth 100000 in
set_option maxHeartbeats 400000 in
theorem refNumber_any (w : World) (v : Value) (xs : List UInt8) (h : Rd w v xs) (h8 : xs.length ≤ 8) :
  Calls Try.prog 50 #[v] w fun e w' => e = .returned (.int .u64 (numOf xs : Nat)) ∧ w = w' := by
 obtain ⟨a1, c1, rfl, l1, m1, n1, r1⟩ := h
 rw [show maxLen = 9223372036854775807 from rfl] at m1
 go_enter Try.func50, Try.ntmps50
 go_wp2
 go_loop [3, 4] (fun s i => ∃ k : Nat, k ≤ xs.length ∧ i = .int .i64 k ∧ s = .int .u64 (numTo xs k : Nat)) (fun _ i => xs.length - (intOf i).toNat)
 case atStart => exact ⟨0, Nat.zero_le _, rfl, rfl⟩
 case round =>
  obtain ⟨k, hk, rfl, rfl⟩ := hrel
  by_cases hlt : k < xs.length
  ·rcases r1 with r1 | ⟨b1, o1, rfl, hc1⟩
   ·rw [r1] at hlt; simp at hlt
   have g1 := hc1 k hlt
   have hq : (k : Int) < (xs.length : Int) := by omega
   have hb := bt_bd xs k
   have hnl : numTo xs k < 72057594037927936 := by
    have h1 := numTo_lt xs k
    have h2 : (2 : Nat) ^ (8 * k) ≤ 2 ^ 56 := Nat.pow_le_pow_right (by omega) (by omega)
    have h3 : (2 : Nat) ^ 56 = 72057594037927936 := by decide
    omega
   have HS : Hid (((numTo xs (k + 1) : Nat) : Int) = (numTo xs k : Nat) * 256 + bt xs k) := by
    show ((numTo xs k * 256 + (xs.getD k 0).toNat : Nat) : Int) = _
    rw [Int.natCast_add, Int.natCast_mul]; rfl
   generalize numTo xs k = z at *
   generalize bt xs k = y at *
   clear hc1
   go_wp2
   go_round
   case rel => exact ⟨k + 1, by omega, by go_num, by rw [HS.out]⟩
   case measure => simp [intOf]; omega
  ·go_wp2
   go_ret
   exact ⟨by rw [show k = xs.length from by omega]; rfl, rfl⟩
end Go.Proofs.Ytdjjegaodgocmaa

namespace Go.Proofs.Ytdjjegaodgocmaa
open Go.RowKit
end Go.Proofs.Ytdjjegaodgocmaa

namespace Go.Proofs.Ytdjjegaodgocmaa
open Go.RowKit
section
variable {P : Program} {ops : Array Oper} {md : Region.Mode} {Q : Exit → Act → World → Prop} {S : World → Prop}
def wpAnyM (P : Program) (md : Region.Mode) (ops : Array Oper) (Q : Exit → Act → World → Prop) (S : World → Prop) (m : Nat) (L : Array Bool → Act → World → Prop) : Nat → Array Bool → Act → World → Prop
 | 0, listed, a, w => L listed a w
 | f + 1, listed, a, w => Region.ready md ops listed ≠ [] ∧ ∀ i ∈ Region.ready md ops listed, i < m ∧ wpOp P ops Q i (fun a' w' => S w' ∧ wpAnyM P md ops Q S m L f (listed.setIfInBounds i true) a' w') a w
theorem wpAny_of_mid {m g : Nat} {L : Array Bool → Act → World → Prop} (hL : ∀ listed a w, L listed a w → wpAny P md ops Q g listed a w) :
  ∀ (f : Nat) (listed : Array Bool) (a : Act) (w : World), wpAnyM P md ops Q S m L f listed a w → wpAny P md ops Q (f + g) listed a w
 | 0, listed, a, w, h => by rw [Nat.zero_add]; exact hL _ _ _ h
 | f + 1, listed, a, w, h => by
  rw [show f + 1 + g = (f + g) + 1 by omega]
  exact ⟨fun h0 => absurd h0 h.1, fun i hi => wpOp_mono (fun a' w' h' => wpAny_of_mid hL f _ a' w' h'.2) (h.2 i hi).2⟩
theorem put_tmps (a : Act) (d : Option Tmp) (v : Value) : a.put d v = { a with tmps := (a.put d v).tmps } := by cases d <;> rfl
theorem wpAnyM_first {m i : Nat} {oi : Oper} {v : Value} {L : Array Bool → Act → World → Prop} (hi : ops[i]? = some oi) (hsel : ∀ (j : Nat) (o : Oper) cs b, ops[j]? = some o → o.op ≠ .select cs b)
  (hs : Region.sinkB md ops m = true) (hc : Region.chainB md ops m = true) (hm : m < ops.size) (him : i < m) (hQ : ∀ c a w, Q (.panic c) (a.put oi.dst v) w → Q (.panic c) a w)
  (hdone : ∀ listed a w, L listed a w → ∀ j ∈ Region.ready md ops listed, m ≤ j) :
  ∀ (f : Nat) (listed : Array Bool) (a : Act) (w : World), HeadInv md ops m listed →
   (∀ j oj, ops[j]? = some oj → j ≠ i → listed.getD j true = false → (∀ e ∈ oj.after, Region.binds md e = true → e.on ≠ i) → oi.apart ops oj = true) →
   i ∈ Region.ready md ops listed → YieldsIf P ops S oi v a → S w →
   wpAnyM P md ops Q S m L f (listed.setIfInBounds i true) (a.put oi.dst v) w → wpAnyM P md ops Q S m L (f + 1) listed a w := by
 intro f
 induction f with
 | zero =>
  intro listed a w inv _ hr hy hS H
  have hun := (mem_ready.1 hr).1
  refine ⟨fun h => (by rw [h] at hr; cases hr), fun j hj => ?_⟩
  have hjn : j < m := by
   rcases Nat.lt_or_ge j m with h | h
   ·exact h
   ·exact absurd hj (tail_waits hs hc hm inv _ i rfl him hun j h)
  refine ⟨hjn, ?_⟩
  by_cases hji : j = i
  ·subst hji; exact hy.wpOp hi hS ⟨hS, H⟩
  ·have := hdone _ _ _ H j (ready_mono hj hji)
   omega
 | succ f ih =>
  intro listed a w inv hfree hr hy hS H
  have hun := (mem_ready.1 hr).1
  refine ⟨fun h => (by rw [h] at hr; cases hr), fun j hj => ?_⟩
  have hjn : j < m := by
   rcases Nat.lt_or_ge j m with h | h
   ·exact h
   ·exact absurd hj (tail_waits hs hc hm inv _ i rfl him hun j h)
  refine ⟨hjn, ?_⟩
  by_cases hji : j = i
  ·subst hji; exact hy.wpOp hi hS ⟨hS, H⟩
  ·have h1 := (H.2 j (ready_mono hj hji)).2
   obtain ⟨hjun, oj, hoj, hall⟩ := mem_ready.1 hj
   have hnot : ∀ e ∈ oj.after, Region.binds md e = true → e.on ≠ i := fun e he hb heq => by
    have h1 := hall e he hb
    rw [heq, getD_both hun] at h1
    cases h1
   have h2 := wpOp_putIf hoj (hfree j oj hoj hji hjun hnot) (fun cs b => hsel i oi cs b hi) (fun cs b => hsel j oj cs b hoj) hQ hy h1
   have hfree' : ∀ k ok, ops[k]? = some ok → k ≠ i → (listed.setIfInBounds j true).getD k true = false →
     (∀ e ∈ ok.after, Region.binds md e = true → e.on ≠ i) → oi.apart ops ok = true := fun k ok hk hki hun hno => by
    refine hfree k ok hk hki ?_ hno
    by_cases hjk : j = k
    ·subst hjk; exact hjun
    ·rw [getD_set_ne true hjk] at hun; exact hun
   refine wpOp_mono (fun a' w' h3 => ⟨h3.2.1, ih (listed.setIfInBounds j true) a' w' (inv.set hj hjn) hfree' (ready_mono hr (Ne.symm hji)) h3.1 h3.2.1 ?_⟩) h2
   rw [Array.setIfInBounds_comm _ _ hji]
   exact h3.2.2
def wpTake (P : Program) (ops : Array Oper) (S : World → Prop) (Z : Act → Prop) : List Oper → Act → Prop
 | [], a => Z a
 | o :: l, a => ∃ v, YieldsIf P ops S o v a ∧ wpTake P ops S Z l (a.put o.dst v)
def wpListS (P : Program) (ops : Array Oper) (Q : Exit → Act → World → Prop) (S : World → Prop) (Z : Act → World → Prop) : List Oper → Act → World → Prop
 | [], a, w => Z a w
 | o :: l, a, w => if Region.wanted o (yielded ops a.tmps) = true then o.wp P a w (fun a' w' => S w' ∧ wpListS P ops Q S Z l a' w') Q else S w ∧ wpListS P ops Q S Z l (a.put o.dst undef) w
theorem wpAnyM_seq {m g : Nat} {Z : Act → World → Prop} : ∀ (l : List Oper) (k : Nat) (listed : Array Bool) (a : Act) (w : World), (∀ j, j < l.length → l[j]? = ops[k + j]?) → k + l.length = m →
  Region.seqB md ops (l.length + g) k listed = true → wpListS P ops Q S Z l a w → wpAnyM P md ops Q S m (fun listed' a' w' => Region.seqB md ops g m listed' = true ∧ Z a' w') l.length listed a w
 | [], k, listed, a, w, _, hk, hB, h => by
  have : k = m := by simpa using hk
  subst this
  exact ⟨by simpa using hB, h⟩
 | o :: l, k, listed, a, w, hl, hk, hB, h => by
  have h0 : ops[k]? = some o := by simpa using (hl 0 (by simp)).symm
  rw [List.length_cons, show l.length + 1 + g = (l.length + g) + 1 by omega] at hB
  simp only [Region.seqB, Bool.and_eq_true, decide_eq_true_eq] at hB
  refine ⟨fun h1 => (by rw [hB.1] at h1; cases h1), fun i hi => ?_⟩
  rw [hB.1] at hi
  have hik : i = k := by simpa using hi
  subst hik
  refine ⟨by simp only [List.length_cons] at hk; omega, ?_⟩
  have hw : wpOp P ops Q i (fun a' w' => S w' ∧ wpListS P ops Q S Z l a' w') a w := by
   unfold wpOp
   simp only [h0]
   unfold wpListS at h
   split
   ·rename_i hwd; rw [if_pos hwd] at h; exact .inl h
   ·rename_i hwd; rw [if_neg hwd] at h; exact h
  exact wpOp_mono (fun a' w' h' => ⟨h'.1, wpAnyM_seq l (i + 1) _ a' w' (fun j hj => by have := hl (j + 1) (by simp; omega); simpa [Nat.add_assoc, Nat.add_comm 1 j] using this) (by simp only [List.length_cons] at hk; omega) hB.2 h'.2⟩) hw
theorem wpAnyM_take {n m g f : Nat} {L : Array Bool → Act → World → Prop} {Z : Act → Prop} (hsel : Region.noSelect ops = true) (hs : Region.sinkB md ops m = true) (hc : Region.chainB md ops m = true) (hm : m < ops.size) (hnm : n ≤ m)
  (hQ : ∀ c (a : Act) t w, Q (.panic c) { a with tmps := t } w → Q (.panic c) a w) (hdone : ∀ listed a w, L listed a w → ∀ j ∈ Region.ready md ops listed, m ≤ j) {w : World} (hS : S w)
  (hZ : ∀ listed a, Region.seqB md ops g n listed = true → HeadInv md ops m listed → Z a → wpAnyM P md ops Q S m L f listed a w) :
  ∀ (l : List Oper) (k : Nat) (listed : Array Bool) (a : Act), (∀ j, j < l.length → l[j]? = ops[k + j]?) → k + l.length = n → HeadInv md ops m listed →
  Region.lexHead md ops g l.length k listed = true → wpTake P ops S Z l a → wpAnyM P md ops Q S m L (l.length + f) listed a w
 | [], k, listed, a, _, hk, inv, hB, h => by
  have : k = n := by simpa using hk
  subst this
  rw [List.length_nil, Nat.zero_add]
  exact hZ _ _ (by simpa [Region.lexHead] using hB) inv h
 | o :: l, k, listed, a, hl, hk, inv, hB, h => by
  have h0 : ops[k]? = some o := by simpa using (hl 0 (by simp)).symm
  simp only [List.length_cons, Region.lexHead, Bool.and_eq_true] at hB
  obtain ⟨⟨hr, hf⟩, hB'⟩ := hB
  have hkn : k < m := by simp only [List.length_cons] at hk; omega
  have hr' : k ∈ Region.ready md ops listed := by simpa using hr
  obtain ⟨v, hy, hK⟩ := h
  rw [List.length_cons, show l.length + 1 + f = (l.length + f) + 1 by omega]
  exact wpAnyM_first h0 (Region.noSelect_spec hsel) hs hc hm hkn (fun c a w h => hQ c a (a.put o.dst v).tmps w (by rw [← put_tmps]; exact h)) hdone _ listed a w inv (Region.free_spec h0 hf) hr' hy hS
   (wpAnyM_take hsel hs hc hm hnm hQ hdone hS hZ l (k + 1) _ _ (fun j hj => by have := hl (j + 1) (by simp; omega); simpa [Nat.add_assoc, Nat.add_comm 1 j] using this) (by simp only [List.length_cons] at hk; omega) (inv.set hr' hkn) hB' hK)
def midB (md : Region.Mode) (ops : Array Oper) (n m : Nat) : Bool :=
 Region.noSelect ops && decide (n ≤ m) && decide (m < ops.size) && Region.sinkB md ops m && Region.chainB md ops m && Region.lexHead md ops (ops.size - n) n 0 (Array.replicate ops.size false)
theorem wp_region_mid {id : Nat} {a : Act} {w : World} {l : List Oper} (S : World → Prop) (n m : Nat) (hf : P.follows .mixedOrders = true) (hB : midB .any l.toArray n m = true)
  (hQ : ∀ c (a : Act) t w, Q (.panic c) { a with tmps := t } w → Q (.panic c) a w) (hS : S w.drew)
  (h : wpTake P l.toArray S (fun a' => wpListS P l.toArray Q S (fun a'' w'' => wpList P l.toArray Q (l.drop m) a'' w'') ((l.take m).drop n) a' w.drew) (l.take n) a) : (Code.region id l.toArray true).wp P Q a w := by
 simp only [midB, Bool.and_eq_true, decide_eq_true_eq] at hB
 obtain ⟨⟨⟨⟨⟨hsel, hnm⟩, hm⟩, hs⟩, hc⟩, hlex⟩ := hB
 have hm' : m < l.length := by simpa using hm
 have hln : (l.take n).length = n := by simp; omega
 have hlm : ((l.take m).drop n).length = m - n := by simp; omega
 have hld : (l.drop m).length = l.length - m := by simp
 have inv0 : HeadInv .any l.toArray m (Array.replicate l.toArray.size false) :=
  ⟨by simp, fun j oj _ hl => (by rw [getD_replicate_false] at hl; cases hl), fun t _ ht => getD_in (by simpa using ht) (getD_replicate_false _ _)⟩
 have H := wpAnyM_take (md := .any) (g := l.toArray.size - n) (f := m - n) (L := fun listed' a' w' => Region.seqB .any l.toArray (l.length - m) m listed' = true ∧ wpList P l.toArray Q (l.drop m) a' w') hsel hs hc hm hnm hQ
  (fun listed a w hL => seqB_ready hL.1) (w := w.drew) hS (fun listed a hseq inv hz => by
   have hsz : l.toArray.size - n = ((l.take m).drop n).length + (l.length - m) := by rw [hlm]; simp; omega
   rw [hsz] at hseq
   have := wpAnyM_seq (md := .any) (m := m) ((l.take m).drop n) n listed a w.drew (fun j hj => by
    rw [hlm] at hj
    rw [List.getElem?_drop, List.getElem?_take, if_pos (by omega)]
    simp) (by rw [hlm]; omega) hseq hz
   rwa [hlm] at this) (l.take n) 0 _ a (fun j hj => by
    rw [hln] at hj
    rw [List.getElem?_take, if_pos hj]; simp) (by rw [hln]; omega) inv0 (by rw [hln]; exact hlex) h
 refine wp_region_any hf ?_
 have := wpAny_of_mid (Q := Q) (g := l.length - m) (fun listed a' w' hL => by
  have := wpAny_of_seq (md := .any) (Q' := Q) (l.drop m) m listed a' w' (fun j => by simp [List.getElem?_drop]) (by rw [hld]; exact hL.1) hL.2
  rwa [hld] at this) _ _ _ _ H
 rw [hln, show n + (m - n) + (l.length - m) = l.toArray.size by simp; omega] at this
 exact this
theorem take_one {o : Oper} {l : List Oper} {a : Act} {Z : Act → Prop} {v : Value} (hw : Region.wanted o (yielded ops a.tmps) = true) (hy : ∀ w, S w → (execOp a.eval o).run P w = .ok (.value v) w) (h : wpTake P ops S Z l (a.put o.dst v)) : wpTake P ops S Z (o :: l) a :=
 ⟨v, .inl ⟨hw, hy⟩, h⟩
theorem mid_one {o : Oper} {l : List Oper} {a : Act} {w : World} {Z : Act → World → Prop} (h : ∀ K : Act → World → Prop, (∀ a' w', S w' → wpListS P ops Q S Z l a' w' → K a' w') → if Region.wanted o (yielded ops a.tmps) = true then o.wp P a w K Q else K (a.put o.dst undef) w) : wpListS P ops Q S Z (o :: l) a w := by
 have := h (fun a' w' => S w' ∧ wpListS P ops Q S Z l a' w') (fun a' w' h1 h2 => ⟨h1, h2⟩)
 unfold wpListS
 exact this
end
end Go.Proofs.Ytdjjegaodgocmaa

namespace Go.Proofs.Ytdjjegaodgocmaa
open Go.RowKit
abbrev st (x : Str) : Value := .string ⟨x.toArray⟩
def Shp.str : Shp Str where
 n := 1
 rd _ cs x := cs = [st x]
 own F _ cs x := F = [] ∧ cs = [st x]
 rd_n h := by rw [h]; rfl
 rd_to h _ := h
 rd_one h u hu := by rw [h] at hu; simp at hu; subst hu; rfl
 own_rd h := h.2
 own_to h _ := h
 own_lt h b hb := by rw [h.1] at hb; cases hb
abbrev RdT (w : World) (v : Value) (l : List Str) : Prop := RdS Shp.str w v l
abbrev RdI (w : World) (v : Value) (l : List Int) : Prop := RdS (Shp.int .i64) w v l
theorem size_st (x : Str) : (ByteArray.mk x.toArray).size = x.length := by simp [ByteArray.size]
structure RdN (w : World) (kv vv dv : Value) (n : Nd) : Prop where
 keys : RdT w kv n.keys
 vals : RdT w vv n.vals
 kids : RdI w dv n.kids
theorem RdN.to {w w' : World} {kv vv dv : Value} {n : Nd} (h : RdN w kv vv dv n) (hb : Below w.heap.size w w') : RdN w' kv vv dv n := ⟨h.keys.to0 hb, h.vals.to0 hb, h.kids.to0 hb⟩
theorem some_el {α : Type} (l : List α) {k : Nat} (h : k < l.length) : ∃ x, l[k]? = some x := ⟨_, List.getElem?_eq_getElem h⟩
end Go.Proofs.Ytdjjegaodgocmaa

namespace Go.Proofs.Ytdjjegaodgocmaa
open Go.RowKit
abbrev SOp3 : Shp Op3 := (Shp.int .i64).pair (Shp.str.pair Shp.str)
abbrev RdO (w : World) (v : Value) (l : List Op3) : Prop := RdS SOp3 w v l
theorem RdS.op {w : World} {a : Option Addr} {n cap : Nat} {l : List Op3} (h : RdO w (.slice a n cap) l) {i : Nat} {y : Op3} (hy : l[i]? = some y) :
  ∃ b off, a = some ⟨b, off, none⟩ ∧ w.cell? ⟨b, off + i * 3, none⟩ = some (.int .i64 y.1) ∧ w.cell? ⟨b, off + i * 3 + 1, none⟩ = some (st y.2.1) ∧ w.cell? ⟨b, off + i * 3 + 2, none⟩ = some (st y.2.2) := by
 obtain ⟨ao, c, e, h1, h2, h3, h4⟩ := h
 cases e
 rcases h4 with rfl | ⟨b, off, rfl, hc⟩
 ·simp at hy
 ·obtain ⟨c, ⟨c1, c2, rfl, k1, ⟨c3, c4, rfl, k3, k4⟩⟩, k2⟩ := hc i y hy
  have e1 : c1 = [Value.int .i64 y.1] := k1
  have e3 : c3 = [st y.2.1] := k3
  have e4 : c4 = [st y.2.2] := k4
  subst e1 e3 e4
  rw [show SOp3.n = 3 from rfl] at k2
  exact ⟨b, off, rfl, by simpa using k2 0 _ rfl, by simpa using k2 1 _ rfl, by simpa using k2 2 _ rfl⟩
abbrev cv (c : Cmd) (v : Value) : Value := .agg #[.int .i64 c.kind, .int .i64 c.txn, .int .i64 c.home, .int .i64 c.verd, v]
theorem cells5c {w : World} {g : Nat} {a b c d e : Value} {t : TypeId} (h : w.heap[g]? = some (.cells #[a, b, c, d, e] t (0, 0))) :
  (w.cell? ⟨g, 0, none⟩ = some a ∧ w.cell? ⟨g, 1, none⟩ = some b ∧ w.cell? ⟨g, 2, none⟩ = some c ∧ w.cell? ⟨g, 3, none⟩ = some d ∧ w.cell? ⟨g, 4, none⟩ = some e) ∧ ∀ i, w.frozen? ⟨g, i, none⟩ = false := by
 refine ⟨⟨?_, ?_, ?_, ?_, ?_⟩, fun i => ?_⟩
 ·rw [cell_of_row _ _ 0 _ _ (0, 0) h]; rfl
 ·rw [cell_of_row _ _ 1 _ _ (0, 0) h]; rfl
 ·rw [cell_of_row _ _ 2 _ _ (0, 0) h]; rfl
 ·rw [cell_of_row _ _ 3 _ _ (0, 0) h]; rfl
 ·rw [cell_of_row _ _ 4 _ _ (0, 0) h]; rfl
 ·simp [World.frozen?, h]
theorem copsE_3 {l : List Op3} (h : 16 < l.length) : copsE l = 3 := if_pos h
theorem copsE_91 {l : List Op3} (h : ¬ 16 < l.length) {o : Op3} (ho : o ∈ l) (hk : ¬ okey o) : copsE l = 91 := by
 unfold copsE
 rw [if_neg h, if_pos fun k => hk (k o ho)]
theorem copsE_5 {l : List Op3} (h : ¬ 16 < l.length) (hk : ∀ o ∈ l, okey o) {o : Op3} (ho : o ∈ l) (hv : ¬ oval o) : copsE l = 5 := by
 unfold copsE
 rw [if_neg h, if_neg (fun q => q hk), if_pos fun k => hv (k o ho)]
theorem copsE_0 {l : List Op3} (h : ¬ 16 < l.length) (hk : ∀ o ∈ l, okey o) (hv : ∀ o ∈ l, oval o) : copsE l = 0 := by
 unfold copsE
 rw [if_neg h, if_neg (fun q => q hk), if_neg (fun q => q hv)]
theorem take_all {l : List Op3} {P : Op3 → Prop} {k : Nat} {y : Op3} (h : ∀ o ∈ l.take k, P o) (hy : l[k]? = some y) (hp : P y) : ∀ o ∈ l.take (k + 1), P o := by
 intro o ho
 rw [List.take_add_one, hy, List.mem_append] at ho
 rcases ho with ho | ho
 ·exact h o ho
 ·simp only [Option.toList_some, List.mem_singleton] at ho
  rw [ho]; exact hp
set_option maxRecDepth 100000 in
set_option maxHeartbeats 4000000 in
theorem rcops_any (w : World) (v : Value) (l : List Op3) (h : RdO w v l) : Calls Try.prog 42 #[v] w fun e w' => e = .returned (.int .i64 (copsE l)) ∧ w = w' := by
 have lb := h.bd
 obtain ⟨a, c, rfl⟩ := h.slice
 obtain ⟨n, hn⟩ : ∃ n, n = l.length := ⟨_, rfl⟩
 rw [← hn] at h lb ⊢
 have HH := hide h
 replace hn := hide hn
 clear h
 go_enter Try.func42, Try.ntmps42
 by_cases h16 : (16 : Int) < (n : Int)
 ·have hE : Hid (copsE l = 3) := copsE_3 (by rw [← hn.out]; omega)
  go_wp2
  go_ret
  exact ⟨ret_int hE.out.symm, rfl⟩
 have hn16 : Hid (¬ 16 < l.length) := by show ¬ _; rw [← hn.out]; omega
 go_wp2
 go_loopw [3] (fun p wr => ∃ k : Nat, k ≤ n ∧ p = .int .i64 k ∧ Hid (∀ o ∈ l.take k, okey o) ∧ w = wr) (fun p _ => n - (intOf p).toNat)
 case atStart => exact ⟨0, Nat.zero_le _, rfl, hide (fun o ho => by simp at ho), rfl⟩
 case round =>
  obtain ⟨k, hk, rfl, hI, rfl⟩ := hrel
  by_cases hlt : k < n
  ·have hq : (k : Int) < (n : Int) := by omega
   obtain ⟨y, hy⟩ := some_el l (k := k) (by rw [← hn.out]; exact hlt)
   obtain ⟨b, off, rfl, c1, c2, c3⟩ := HH.out.op hy
   obtain ⟨KL, hKL⟩ : ∃ K, K = y.2.1.length := ⟨_, rfl⟩
   have hmem := hide (List.mem_of_getElem? hy)
   have hst : Hid (okey y → ∀ o ∈ l.take (k + 1), okey o) := fun hp => take_all hI.out hy hp
   replace hy := hide hy
   by_cases g1 : (y.2.1.length : Int) < 1
   ·have hE : Hid (copsE l = 91) := copsE_91 hn16.out hmem.out (fun q => by have := q.1; omega)
    go_wp2
    go_ret
    exact ⟨ret_int hE.out.symm, rfl⟩
   ·by_cases g2 : (32 : Int) < (y.2.1.length : Int)
    ·have hE : Hid (copsE l = 91) := copsE_91 hn16.out hmem.out (fun q => by have := q.2; omega)
     go_wp2
     go_ret
     exact ⟨ret_int hE.out.symm, rfl⟩
    ·have hE := hide (hst.out ⟨by omega, by omega⟩)
     go_wp2
     go_roundw
     case rel => exact ⟨k + 1, by omega, by go_num, hE, trivial⟩
     case measure => simp [intOf]; omega
  ·have hq : ¬ (k : Int) < (n : Int) := by omega
   have hkey : Hid (∀ o ∈ l, okey o) := by
    have := hI.out
    rw [List.take_of_length_le (by rw [← hn.out]; omega)] at this
    exact this
   go_wp2
   go_loopw [4] (fun p wr => ∃ k : Nat, k ≤ n ∧ p = .int .i64 k ∧ Hid (∀ o ∈ l.take k, oval o) ∧ w = wr) (fun p _ => n - (intOf p).toNat)
   case atStart => exact ⟨0, Nat.zero_le _, rfl, hide (fun o ho => by simp at ho), rfl⟩
   case round =>
    obtain ⟨k, hk, rfl, hI, rfl⟩ := hrel
    by_cases hlt : k < n
    ·have hq : (k : Int) < (n : Int) := by omega
     obtain ⟨y, hy⟩ := some_el l (k := k) (by rw [← hn.out]; exact hlt)
     obtain ⟨b, off, rfl, c1, c2, c3⟩ := HH.out.op hy
     have hmem := hide (List.mem_of_getElem? hy)
     have hst : Hid (oval y → ∀ o ∈ l.take (k + 1), oval o) := fun hp => take_all hI.out hy hp
     replace hy := hide hy
     by_cases g1 : (64 : Int) < (y.2.2.length : Int)
     ·have hE : Hid (copsE l = 5) := copsE_5 hn16.out hkey.out hmem.out (fun q => by have := q.1; omega)
      go_wp2
      go_ret
      exact ⟨ret_int hE.out.symm, rfl⟩
     ·by_cases g2 : y.1 = 2
      ·have g2' : (y.1 != 2) = false := by simpa using g2
       have hE := hide (hst.out ⟨by omega, .inl g2⟩)
       replace g2 := hide g2
       go_wp2
       go_roundw
       case rel => exact ⟨k + 1, by omega, by go_num, hE, trivial⟩
       case measure => simp [intOf]; omega
      ·have g2' : (y.1 != 2) = true := by simpa using g2
       by_cases g3 : y.2.2 = []
       ·have g3' : (y.2.2 != []) = false := by rw [g3]; rfl
        have hE := hide (hst.out ⟨by omega, .inr g3⟩)
        obtain ⟨y1, y2, y3⟩ := y
        dsimp only at *
        subst g3
        replace g2 := hide g2
        go_wp2
        go_roundw
        case rel => exact ⟨k + 1, by omega, by go_num, hE, trivial⟩
        case measure => simp [intOf]; omega
       ·have hE : Hid (copsE l = 5) := copsE_5 hn16.out hkey.out hmem.out (fun q => by rcases q.2 with q | q; exact g2 q; exact g3 q)
        obtain ⟨y1, y2, y3⟩ := y
        obtain ⟨z, r, rfl⟩ : ∃ z r, y3 = z :: r := by
         cases y3 with
         | nil => exact absurd rfl g3
         | cons z r => exact ⟨z, r, rfl⟩
        dsimp only at *
        have g1' : ¬ (64 : Int) < (r.length : Int) + 1 := by rw [List.length_cons] at g1; omega
        replace g1 := hide g1
        replace g2 := hide g2
        replace g3 := hide g3
        go_wp2
        go_ret
        exact ⟨ret_int hE.out.symm, rfl⟩
    ·have hq : ¬ (k : Int) < (n : Int) := by omega
     have hE : Hid (copsE l = 0) := by
      have := hI.out
      rw [List.take_of_length_le (by rw [← hn.out]; omega)] at this
      exact copsE_0 hn16.out hkey.out this
     go_wp2
     go_ret
     exact ⟨ret_int hE.out.symm, rfl⟩
theorem ccheck_k {c : Cmd} (h : ¬ (1 ≤ c.kind ∧ c.kind ≤ 6)) : ccheck c = 22 := if_pos h
theorem ccheck_o {c : Cmd} (h1 : 1 ≤ c.kind ∧ c.kind ≤ 6) {o : Op3} (ho : o ∈ c.ops) (h : ¬ okind o) : ccheck c = 22 := by
 unfold ccheck
 rw [if_neg (fun k => k h1), if_pos fun k => h (k o ho)]
theorem ccheck_t {c : Cmd} (h1 : 1 ≤ c.kind ∧ c.kind ≤ 6) (h2 : ∀ o ∈ c.ops, okind o) (h : ¬ ctxn c) : ccheck c = 4 := by
 unfold ccheck
 rw [if_neg (fun k => k h1), if_neg (fun k => k h2), if_pos h]
theorem ccheck_h {c : Cmd} (h1 : 1 ≤ c.kind ∧ c.kind ≤ 6) (h2 : ∀ o ∈ c.ops, okind o) (h3 : ctxn c) (h : ¬ (0 ≤ c.home ∧ c.home < 4)) : ccheck c = 4 := by
 unfold ccheck
 rw [if_neg (fun k => k h1), if_neg (fun k => k h2), if_neg (fun k => k h3), if_pos h]
theorem ccheck_v {c : Cmd} (h1 : 1 ≤ c.kind ∧ c.kind ≤ 6) (h2 : ∀ o ∈ c.ops, okind o) (h3 : ctxn c) (h4 : 0 ≤ c.home ∧ c.home < 4) (h : ¬ cverd c) : ccheck c = 4 := by
 unfold ccheck
 rw [if_neg (fun k => k h1), if_neg (fun k => k h2), if_neg (fun k => k h3), if_neg (fun k => k h4), if_pos h]
theorem ccheck_c {c : Cmd} (h1 : 1 ≤ c.kind ∧ c.kind ≤ 6) (h2 : ∀ o ∈ c.ops, okind o) (h3 : ctxn c) (h4 : 0 ≤ c.home ∧ c.home < 4) (h5 : cverd c) (h : c.kind ≠ 1 ∧ c.ops ≠ []) : ccheck c = 3 := by
 unfold ccheck
 rw [if_neg (fun k => k h1), if_neg (fun k => k h2), if_neg (fun k => k h3), if_neg (fun k => k h4), if_neg (fun k => k h5), if_pos h]
theorem ccheck_r {c : Cmd} (h1 : 1 ≤ c.kind ∧ c.kind ≤ 6) (h2 : ∀ o ∈ c.ops, okind o) (h3 : ctxn c) (h4 : 0 ≤ c.home ∧ c.home < 4) (h5 : cverd c) (h : ¬ (c.kind ≠ 1 ∧ c.ops ≠ [])) : ccheck c = copsE c.ops := by
 unfold ccheck
 rw [if_neg (fun k => k h1), if_neg (fun k => k h2), if_neg (fun k => k h3), if_neg (fun k => k h4), if_neg (fun k => k h5), if_neg h]
end Go.Proofs.Ytdjjegaodgocmaa

namespace Go.Proofs.Ytdjjegaodgocmaa
open Go.RowKit
def KeepT (e : Nat) (w w' : World) : Prop := ∀ (b : Nat) (cur : Array Value) (fr : Nat × Nat), w.heap[b]? = some (Obj.cells cur e fr) → w'.heap[b]? = some (Obj.cells cur e fr)
theorem KeepT.refl (e : Nat) (w : World) : KeepT e w w := fun _ _ _ h => h
theorem KeepT.trans {e : Nat} {a b c : World} (h : KeepT e a b) (k : KeepT e b c) : KeepT e a c := fun i cur fr x => k i cur fr (h i cur fr x)
theorem KeepT.below {e : Nat} {w w' : World} (h : Below w.heap.size w w') : KeepT e w w' := fun b cur fr x => (h.block b (lt_of_block x)).trans x
theorem KeepT.grown {e e' B s n : Nat} {w w' : World} {v : Value} {xs : List Value} (hr : w.ownsRow B e' s v n xs) (hg : w.grownBy w' v.ownBlock) (hne : e ≠ e') : KeepT e w w' := fun b cur fr x => by
 refine (hg.block b (lt_of_block x) fun h => ?_).trans x
 rcases hr.2 with ⟨rfl, _⟩ | ⟨g, cap, cur', rfl, _, hg', _⟩
 ·cases h
 ·simp only [Value.ownBlock, Option.some.injEq] at h
  subst h
  rw [x] at hg'
  simp only [Option.some.injEq, Obj.cells.injEq] at hg'
  exact hne hg'.2.1
theorem KeepT.set {e t : Nat} {w : World} {a : Addr} {cs : Array Value} {fr : Nat × Nat} (h : w.heap[a.block]? = some (.cells cs t fr)) (hne : e ≠ t) (u : Value) : KeepT e w (w.setCell a u) := fun b cur fr' x => by
 refine (Below.heap_setCell _ _ _ _ fun h' => ?_).trans x
 rw [h', h] at x
 simp only [Option.some.injEq, Obj.cells.injEq] at x
 exact hne x.2.1.symm
end Go.Proofs.Ytdjjegaodgocmaa

namespace Go.Proofs.Ytdjjegaodgocmaa
open Go.RowKit
set_option maxRecDepth 100000 in
set_option maxHeartbeats 400000 in
theorem same_any (w : World) (v1 v2 : Value) (xs ys : List UInt8) (h1 : Rd w v1 xs) (h2 : Rd w v2 ys) :
  Calls Try.prog 14 #[v1, v2] w fun e w' => e = .returned (.bool (sameB xs ys)) ∧ ∃ n, w' = w.drewN n := by
 obtain ⟨a1, c1, rfl, l1, m1, n1, r1⟩ := h1
 obtain ⟨a2, c2, rfl, l2, m2, n2, r2⟩ := h2
 unfold maxLen at m1 m2
 by_cases hl : xs.length = ys.length
 ·have hne : ((xs.length : Int) != (ys.length : Int)) = false := by simp; omega
  go_enter Try.func14, Try.ntmps14
  go_wp2
  go_loopw [5] (fun i wr => ∃ k n : Nat, k ≤ xs.length ∧ i = .int .i64 k ∧ sameTo xs ys k ∧ wr = w.drewN n) (fun i _ => xs.length - (intOf i).toNat)
  case atStart => exact ⟨0, 0, Nat.zero_le _, rfl, sameTo_zero _ _, rfl⟩
  case round =>
   obtain ⟨k, n, hk, rfl, hs, rfl⟩ := hrel
   by_cases hlt : k < xs.length
   ·rcases r1 with r1 | ⟨b1, o1, rfl, hc1⟩
    ·rw [r1] at hlt; simp at hlt
    rcases r2 with r2 | ⟨b2, o2, rfl, hc2⟩
    ·rw [hl, r2] at hlt; simp at hlt
    have g1 := hc1 k hlt
    have g2 := hc2 k (by omega)
    have HL : Hid (xs.length = ys.length) := hl
    have hq : (k : Int) < (xs.length : Int) := by omega
    have hq2 : (k : Int) < (ys.length : Int) := by omega
    clear hc1 hc2 hl
    by_cases he : bt xs k = bt ys k
    ·have hb : (bt xs k != bt ys k) = false := by simp [he]
     have HE : Hid (bt xs k = bt ys k) := he
     clear he
     go_wp2
     go_quiet (fail)
     go_wp2
     go_roundw
     case rel => exact ⟨k + 1, _, by omega, by go_num, sameTo_succ hs HE.out, rfl⟩
     case measure => simp [intOf]; omega
    ·have hb : (bt xs k != bt ys k) = true := by simp [he]
     go_wp2
     go_quiet (fail)
     go_wp2
     go_ret
     exact ⟨ret_bool (sameB_no HL.out hlt he).symm, _, World.drewN_drewN _ _ _⟩
   ·have HL : Hid (xs.length = ys.length) := hl
    clear hl
    go_wp2
    go_ret
    exact ⟨ret_bool (sameB_of HL.out (by rw [show xs.length = k from by omega]; exact hs)).symm, _, rfl⟩
 ·have hne : ((xs.length : Int) != (ys.length : Int)) = true := by simp; omega
  go_enter Try.func14, Try.ntmps14
  go_wp2
  go_ret
  exact ⟨ret_bool (sameB_len hl).symm, 0, rfl⟩
end Go.Proofs.Ytdjjegaodgocmaa

namespace Go.Proofs.Ytdjjegaodgocmaa
open Go.RowKit
def pver (s : List UInt8) : Nat × Rst := if (nm (s, 0) 1).2.2 = 0 ∧ (nm (s, 0) 1).1 ≠ 1 ∧ (nm (s, 0) 1).1 ≠ 2 then (0, ((nm (s, 0) 1).2.1, 131)) else nm (s, 0) 1
def ptx (ver : Nat) (s : List UInt8) : Int × Rst := if ver = 1 then (wrap64 ((nm (s, 0) 8).1 : Nat), (nm (s, 0) 8).2) else (((grp 6 0 0 (s, 0)).1 : Nat), (grp 6 0 0 (s, 0)).2)
def pr6 (ver kind : Nat) (T : Int) (home verd cnt : Nat) (s : List UInt8) : Cmd × Int := if (rit (ver : Int) (s, 0) cnt).2.2 ≠ 0 then (czero, (rit (ver : Int) (s, 0) cnt).2.2) else if 0 < (rit (ver : Int) (s, 0) cnt).2.1.length then (czero, 23) else (⟨kind, T, home, verd, (rit (ver : Int) (s, 0) cnt).1⟩, 0)
def pr5 (ver kind : Nat) (T : Int) (home verd : Nat) (s : List UInt8) : Cmd × Int := if (nm (s, 0) 1).2.2 ≠ 0 then (czero, (nm (s, 0) 1).2.2) else pr6 ver kind T home verd (nm (s, 0) 1).1 (nm (s, 0) 1).2.1
def pr4 (ver kind : Nat) (T : Int) (home : Nat) (s : List UInt8) : Cmd × Int := if (nm (s, 0) 1).2.2 ≠ 0 then (czero, (nm (s, 0) 1).2.2) else pr5 ver kind T home (nm (s, 0) 1).1 (nm (s, 0) 1).2.1
def pr3 (ver kind : Nat) (T : Int) (s : List UInt8) : Cmd × Int := if (nm (s, 0) 1).2.2 ≠ 0 then (czero, (nm (s, 0) 1).2.2) else pr4 ver kind T (nm (s, 0) 1).1 (nm (s, 0) 1).2.1
def pr2 (ver kind : Nat) (s : List UInt8) : Cmd × Int := if (ptx ver s).2.2 ≠ 0 then (czero, (ptx ver s).2.2) else pr3 ver kind (ptx ver s).1 (ptx ver s).2.1
def pr1 (ver : Nat) (s : List UInt8) : Cmd × Int := if (nm (s, 0) 1).2.2 ≠ 0 then (czero, (nm (s, 0) 1).2.2) else pr2 ver (nm (s, 0) 1).1 (nm (s, 0) 1).2.1
def pr0 (b : List UInt8) : Cmd × Int := if (pver b).2.2 ≠ 0 then (czero, (pver b).2.2) else pr1 (pver b).1 (pver b).2.1
def pfin (p : Cmd × Int) (ver : Int) : Cmd × Int × Int := if p.2 ≠ 0 then (czero, 0, p.2) else if ccheck p.1 ≠ 0 then (czero, 0, ccheck p.1) else if ¬ cver p.1 ver then (czero, 0, 131) else (p.1, ver, 0)
theorem pfin_err {p : Cmd × Int} {ver e : Int} (h : p.2 = e) (he : e ≠ 0) : pfin p ver = (czero, 0, e) := by subst h; exact if_pos he
theorem cvend_e {r : Rdg} {e : Int} (h : r.2.2 = e) (he : e ≠ 0) : cvend r = (czero, 0, e) := by subst h; exact if_pos he
theorem grp_e {s : Rst} (h : s.2 ≠ 0) : (grp 6 0 0 s).2 = s := by rw [grp, nm_err h 1]; rw [if_pos h]
theorem ctx_e {ver : Nat} {s : Rst} (h : s.2 ≠ 0) : (ctx ver s).2 = s := by unfold ctx; split <;> simp [nm_err h, grp_e h]
theorem crd6_e {ver kind home verd cnt : Nat} {tx : Nat × Bool} {s : Rst} (h : s.2 ≠ 0) : (crd6 ver kind tx home verd cnt s).2 = s := by unfold crd6; simp [rit_err h]
theorem crd5_e {ver kind home verd : Nat} {tx : Nat × Bool} {s : Rst} (h : s.2 ≠ 0) : (crd5 ver kind tx home verd s).2 = s := by unfold crd5; rw [nm_err h]; exact crd6_e h
theorem crd4_e {ver kind home : Nat} {tx : Nat × Bool} {s : Rst} (h : s.2 ≠ 0) : (crd4 ver kind tx home s).2 = s := by unfold crd4; rw [nm_err h]; exact crd5_e h
theorem crd3_e {ver kind : Nat} {tx : Nat × Bool} {s : Rst} (h : s.2 ≠ 0) : (crd3 ver kind tx s).2 = s := by unfold crd3; rw [nm_err h]; exact crd4_e h
theorem crd2_e {ver kind : Nat} {s : Rst} (h : s.2 ≠ 0) : (crd2 ver kind s).2 = s := by unfold crd2; rw [ctx_e h]; exact crd3_e h
theorem crd1_e {ver : Nat} {s : Rst} (h : s.2 ≠ 0) : (crd1 ver s).2 = s := by unfold crd1; rw [nm_err h]; exact crd2_e h
def TxOk (tx : Nat × Bool) (T : Int) : Prop := (tx.2 = false ∧ T = tx.1) ∨ (tx.2 = true ∧ (T < 0 ∨ 1099511627776 < T))
theorem ccheck_tx {k T T' h v : Int} {l : List Op3} (h1 : T < 0 ∨ 1099511627776 < T) (h2 : T' < 0 ∨ 1099511627776 < T') : ccheck ⟨k, T, h, v, l⟩ = ccheck ⟨k, T', h, v, l⟩ ∧ ccheck ⟨k, T, h, v, l⟩ ≠ 0 := by
 have b1 : ¬ ctxn ⟨k, T, h, v, l⟩ := by unfold ctxn; dsimp only; split <;> omega
 have b2 : ¬ ctxn ⟨k, T', h, v, l⟩ := by unfold ctxn; dsimp only; split <;> omega
 refine ⟨?_, fun q => b1 (ccheck_ok.1 q).txn⟩
 unfold ccheck
 rw [if_pos b1, if_pos b2]
theorem nm_st (s : List UInt8) (n : Nat) (h : (nm (s, 0) n).2.2 = 0) : (nm (s, 0) n).2 = ((nm (s, 0) n).2.1, 0) := Prod.ext rfl h
theorem pfin_ok {c : Cmd} {ver : Int} : pfin (c, 0) ver = if ccheck c ≠ 0 then (czero, 0, ccheck c) else if ¬ cver c ver then (czero, 0, 131) else (c, ver, 0) := if_neg (by simp)
theorem fin6 {ver kind home verd cnt : Nat} {tx : Nat × Bool} {T : Int} (ht : TxOk tx T) (s : List UInt8) : cvend (crd6 ver kind tx home verd cnt (s, 0)) = pfin (pr6 ver kind T home verd cnt s) ver := by
 unfold crd6 pr6
 generalize rit (ver : Int) (s, 0) cnt = q
 obtain ⟨ops, rest, er⟩ := q
 dsimp only
 by_cases he : er ≠ 0
 ·rw [if_pos he, cvend_e rfl he, pfin_err rfl he]
 rw [if_neg he]
 by_cases hl : 0 < rest.length
 ·rw [if_pos hl, pfin_err rfl (by decide)]
  unfold cvend
  rw [if_neg (by exact he), if_pos hl]
 rw [if_neg hl]
 rw [pfin_ok]
 unfold cvend
 rw [if_neg (by exact he), if_neg (by exact hl)]
 dsimp only
 rcases ht with ⟨h1, h2⟩ | ⟨h1, h2⟩
 ·have hc : cfin ((ver, (⟨kind, tx.1, home, verd, ops⟩ : Cmd), tx.2), (rest, er)) = ⟨kind, T, home, verd, ops⟩ := by unfold cfin; rw [if_neg (by simp [h1]), h2]
  rw [hc]
  by_cases hk : ccheck ⟨kind, T, home, verd, ops⟩ ≠ 0
  ·rw [if_pos hk, if_pos hk]
  ·rw [if_neg hk, if_neg hk]
   have hk0 : ccheck ⟨kind, T, home, verd, ops⟩ = 0 := Decidable.not_not.1 hk
   by_cases hv : cver ⟨kind, T, home, verd, ops⟩ (ver : Int)
   ·have e : (cenc ⟨kind, T, home, verd, ops⟩ (ver : Int)).2 = 0 := by unfold cenc; rw [if_neg hk, if_neg (fun q => q hv)]
    rw [e, if_neg (by simp), if_neg (fun q => q hv)]
   ·have e : (cenc ⟨kind, T, home, verd, ops⟩ (ver : Int)).2 = 131 := by unfold cenc; rw [if_neg hk, if_pos hv]
    rw [e, if_pos (by decide), if_pos hv]
 ·have hc : cfin ((ver, (⟨kind, tx.1, home, verd, ops⟩ : Cmd), tx.2), (rest, er)) = ⟨kind, 1099511627777, home, verd, ops⟩ := by unfold cfin; rw [if_pos (by simp [h1])]
  rw [hc]
  obtain ⟨k1, k2⟩ := ccheck_tx (k := kind) (h := home) (v := verd) (l := ops) (T := 1099511627777) (T' := T) (.inr (by decide)) h2
  rw [if_pos k2, if_pos (by rw [← k1]; exact k2), k1]
theorem fin5 {ver kind home verd : Nat} {tx : Nat × Bool} {T : Int} (ht : TxOk tx T) (s : List UInt8) : cvend (crd5 ver kind tx home verd (s, 0)) = pfin (pr5 ver kind T home verd s) ver := by
 unfold crd5 pr5
 by_cases he : (nm (s, 0) 1).2.2 ≠ 0
 ·rw [if_pos he, pfin_err rfl he, cvend_e (by rw [crd6_e he]) he]
 ·rw [if_neg he, nm_st s 1 (Decidable.not_not.1 he)]
  exact fin6 ht _
theorem fin4 {ver kind home : Nat} {tx : Nat × Bool} {T : Int} (ht : TxOk tx T) (s : List UInt8) : cvend (crd4 ver kind tx home (s, 0)) = pfin (pr4 ver kind T home s) ver := by
 unfold crd4 pr4
 by_cases he : (nm (s, 0) 1).2.2 ≠ 0
 ·rw [if_pos he, pfin_err rfl he, cvend_e (by rw [crd5_e he]) he]
 ·rw [if_neg he, nm_st s 1 (Decidable.not_not.1 he)]
  exact fin5 ht _
theorem fin3 {ver kind : Nat} {tx : Nat × Bool} {T : Int} (ht : TxOk tx T) (s : List UInt8) : cvend (crd3 ver kind tx (s, 0)) = pfin (pr3 ver kind T s) ver := by
 unfold crd3 pr3
 by_cases he : (nm (s, 0) 1).2.2 ≠ 0
 ·rw [if_pos he, pfin_err rfl he, cvend_e (by rw [crd4_e he]) he]
 ·rw [if_neg he, nm_st s 1 (Decidable.not_not.1 he)]
  exact fin4 ht _
theorem nm8_lt (s : Rst) : (nm s 8).1 < 18446744073709551616 := by
 have : (tk s 8).1.length ≤ 8 := by
  unfold tk
  split
  ·simp
  ·split <;> simp <;> omega
 unfold nm numOf
 exact Nat.lt_of_lt_of_le (numTo_lt _ _) (by have := Nat.pow_le_pow_right (n := 2) (by decide) (show 8 * (tk s 8).1.length ≤ 64 by omega); omega)
theorem fin2 {ver kind : Nat} (s : List UInt8) : cvend (crd2 ver kind (s, 0)) = pfin (pr2 ver kind s) ver := by
 have e2 : (ctx ver (s, 0)).2 = (ptx ver s).2 := by unfold ctx ptx; split <;> rfl
 have ht : TxOk (ctx ver (s, 0)).1 (ptx ver s).1 := by
  unfold ctx ptx
  by_cases hv : ver = 1
  ·rw [if_pos hv, if_pos hv]
   dsimp only
   have := nm8_lt (s, 0)
   generalize (nm (s, 0) 8).1 = n at *
   unfold TxOk wrap64
   by_cases hb : 2 ^ 40 < n
   ·refine .inr ⟨decide_eq_true hb, ?_⟩
    omega
   ·refine .inl ⟨decide_eq_false hb, ?_⟩
    dsimp only
    rw [Nat.mod_eq_of_lt (by omega)]
    omega
  ·rw [if_neg hv, if_neg hv]
   exact .inl ⟨rfl, rfl⟩
 unfold crd2 pr2
 rw [e2]
 by_cases he : (ptx ver s).2.2 ≠ 0
 ·rw [if_pos he, pfin_err rfl he, cvend_e (by rw [crd3_e he]) he]
 ·rw [if_neg he, show (ptx ver s).2 = ((ptx ver s).2.1, 0) from Prod.ext rfl (Decidable.not_not.1 he)]
  exact fin3 ht _
theorem fin1 {ver : Nat} (s : List UInt8) : cvend (crd1 ver (s, 0)) = pfin (pr1 ver s) ver := by
 unfold crd1 pr1
 by_cases he : (nm (s, 0) 1).2.2 ≠ 0
 ·rw [if_pos he, pfin_err rfl he, cvend_e (by rw [crd2_e he]) he]
 ·rw [if_neg he, nm_st s 1 (Decidable.not_not.1 he)]
  exact fin2 _
theorem cdec_pr (b : List UInt8) : cdec b = pfin (pr0 b) (pver b).1 := by
 unfold cdec pr0 pver
 by_cases hc : (nm (b, 0) 1).2.2 = 0 ∧ (nm (b, 0) 1).1 ≠ 1 ∧ (nm (b, 0) 1).1 ≠ 2
 ·rw [if_pos hc, if_pos hc]
  rw [if_pos (by dsimp only; decide), pfin_err rfl (by dsimp only; decide)]
 ·rw [if_neg hc, if_neg hc]
  unfold crd0
  by_cases he : (nm (b, 0) 1).2.2 ≠ 0
  ·rw [if_pos he, pfin_err rfl he, cvend_e (by rw [crd1_e he]) he]
  ·rw [if_neg he, nm_st b 1 (Decidable.not_not.1 he)]
   exact fin1 _
end Go.Proofs.Ytdjjegaodgocmaa

namespace Go.Proofs.Ytdjjegaodgocmaa
open Go.RowKit
theorem mixed : Try.prog.follows .mixedOrders = true := by kernel_rfl
end Go.Proofs.Ytdjjegaodgocmaa

namespace Go.Proofs.Ytdjjegaodgocmaa
open Go.RowKit
theorem wp_call_of {P : Program} {o : Oper} {a : Act} {w : World} {K : Act → World → Prop} {Q : Exit → Act → World → Prop} (n : FuncId) (xs : Array Operand) (ts : Array TypeId)
  (ho : o.op = .call { callee := .value (.func n), args := xs, argTypes := ts }) (vals : Array Value) (hv : xs.map a.eval = vals) (hent : (callFunc n vals).run P w = .ok (.enter n vals) w) {R : Ending → World → Prop} (hc : Calls P n vals w R)
  (h : ∀ e w', R e w' → ∃ v, e = .returned v ∧ K (a.put o.dst v) w') : o.wp P a w K Q := by
 unfold Oper.wp
 have he : a.eval (.func n) = .func (.func n) #[] #[] := rfl
 simp [execOp, ho, resolve, invoke, hv, he, Deferred.ofValue]
 rw [hent, Oper.upon_enter]
 refine hc.mono ?_
 intro e w' hr
 obtain ⟨v, rfl, hk⟩ := h e w' hr
 exact hk
theorem step_call {P : Program} {ops : Array Oper} {o : Oper} {a : Act} {w : World} {K : Act → World → Prop} {Q : Exit → Act → World → Prop} {E : Prop} (hgd : o.guard = none) (n : FuncId) (xs : Array Operand) (ts : Array TypeId)
  (ho : o.op = .call { callee := .value (.func n), args := xs, argTypes := ts }) (vals : Array Value) (hv : xs.map a.eval = vals) (hent : (callFunc n vals).run P w = .ok (.enter n vals) w) {R : Ending → World → Prop} (hc : Calls P n vals w R)
  (h : ∀ e w', R e w' → ∃ v, e = .returned v ∧ K (a.put o.dst v) w') : if Region.wanted o (yielded ops a.tmps) = true then Oper.wp P o a w K Q else E := by
 rw [if_pos (by simp [Region.wanted, hgd])]
 exact wp_call_of n xs ts ho vals hv hent hc h
end Go.Proofs.Ytdjjegaodgocmaa

namespace Go.Proofs.Ytdjjegaodgocmaa
open Go.RowKit
section
variable {P : Program} {ops : Array Oper} {md : Region.Mode} {Q : Exit → Act → World → Prop} {S : World → Prop}
theorem wpAnyM_takeP {n m g f : Nat} {L : Array Bool → Act → World → Prop} {Z : Act → Prop} (hsel : Region.noSelect ops = true) (hs : Region.sinkB md ops m = true) (hc : Region.chainB md ops m = true) (hm : m < ops.size) (hnm : n ≤ m)
  (hdone : ∀ listed a w, L listed a w → ∀ j ∈ Region.ready md ops listed, m ≤ j) {w : World} (hS : S w)
  (hZ : ∀ listed a, Region.seqB md ops g n listed = true → HeadInv md ops m listed → Z a → wpAnyM P md ops Q S m L f listed a w) :
  ∀ (l : List Oper) (hQ : ∀ o ∈ l, ∀ c (a : Act) v w, Q (.panic c) (a.put o.dst v) w → Q (.panic c) a w) (k : Nat) (listed : Array Bool) (a : Act), (∀ j, j < l.length → l[j]? = ops[k + j]?) → k + l.length = n → HeadInv md ops m listed →
  Region.lexHead md ops g l.length k listed = true → wpTake P ops S Z l a → wpAnyM P md ops Q S m L (l.length + f) listed a w
 | [], _, k, listed, a, _, hk, inv, hB, h => by
  have : k = n := by simpa using hk
  subst this
  rw [List.length_nil, Nat.zero_add]
  exact hZ _ _ (by simpa [Region.lexHead] using hB) inv h
 | o :: l, hQ, k, listed, a, hl, hk, inv, hB, h => by
  have h0 : ops[k]? = some o := by simpa using (hl 0 (by simp)).symm
  simp only [List.length_cons, Region.lexHead, Bool.and_eq_true] at hB
  obtain ⟨⟨hr, hf⟩, hB'⟩ := hB
  have hkn : k < m := by simp only [List.length_cons] at hk; omega
  have hr' : k ∈ Region.ready md ops listed := by simpa using hr
  obtain ⟨v, hy, hK⟩ := h
  rw [List.length_cons, show l.length + 1 + f = (l.length + f) + 1 by omega]
  exact wpAnyM_first h0 (Region.noSelect_spec hsel) hs hc hm hkn (fun c a w h => hQ o (by simp) c a v w h) hdone _ listed a w inv (Region.free_spec h0 hf) hr' hy hS
   (wpAnyM_takeP hsel hs hc hm hnm hdone hS hZ l (fun o ho => hQ o (by simp [ho])) (k + 1) _ _ (fun j hj => by have := hl (j + 1) (by simp; omega); simpa [Nat.add_assoc, Nat.add_comm 1 j] using this) (by simp only [List.length_cons] at hk; omega) (inv.set hr' hkn) hB' hK)
theorem wp_region_midP {id : Nat} {a : Act} {w : World} {l : List Oper} (S : World → Prop) (n m : Nat) (hf : P.follows .mixedOrders = true) (hB : midB .any l.toArray n m = true)
  (hQ : ∀ o ∈ l.take n, ∀ c (a : Act) v w, Q (.panic c) (a.put o.dst v) w → Q (.panic c) a w) (hS : S w.drew)
  (h : wpTake P l.toArray S (fun a' => wpListS P l.toArray Q S (fun a'' w'' => wpList P l.toArray Q (l.drop m) a'' w'') ((l.take m).drop n) a' w.drew) (l.take n) a) : (Code.region id l.toArray true).wp P Q a w := by
 simp only [midB, Bool.and_eq_true, decide_eq_true_eq] at hB
 obtain ⟨⟨⟨⟨⟨hsel, hnm⟩, hm⟩, hs⟩, hc⟩, hlex⟩ := hB
 have hm' : m < l.length := by simpa using hm
 have hln : (l.take n).length = n := by simp; omega
 have hlm : ((l.take m).drop n).length = m - n := by simp; omega
 have hld : (l.drop m).length = l.length - m := by simp
 have inv0 : HeadInv .any l.toArray m (Array.replicate l.toArray.size false) :=
  ⟨by simp, fun j oj _ hl => (by rw [getD_replicate_false] at hl; cases hl), fun t _ ht => getD_in (by simpa using ht) (getD_replicate_false _ _)⟩
 have H := wpAnyM_takeP (md := .any) (g := l.toArray.size - n) (f := m - n) (L := fun listed' a' w' => Region.seqB .any l.toArray (l.length - m) m listed' = true ∧ wpList P l.toArray Q (l.drop m) a' w') hsel hs hc hm hnm
  (fun listed a w hL => seqB_ready hL.1) (w := w.drew) hS (fun listed a hseq inv hz => by
   have hsz : l.toArray.size - n = ((l.take m).drop n).length + (l.length - m) := by rw [hlm]; simp; omega
   rw [hsz] at hseq
   have := wpAnyM_seq (md := .any) (m := m) ((l.take m).drop n) n listed a w.drew (fun j hj => by
    rw [hlm] at hj
    rw [List.getElem?_drop, List.getElem?_take, if_pos (by omega)]
    simp) (by rw [hlm]; omega) hseq hz
   rwa [hlm] at this) (l.take n) hQ 0 _ a (fun j hj => by
    rw [hln] at hj
    rw [List.getElem?_take, if_pos hj]; simp) (by rw [hln]; omega) inv0 (by rw [hln]; exact hlex) h
 refine wp_region_any hf ?_
 have := wpAny_of_mid (Q := Q) (g := l.length - m) (fun listed a' w' hL => by
  have := wpAny_of_seq (md := .any) (Q' := Q) (l.drop m) m listed a' w' (fun j => by simp [List.getElem?_drop]) (by rw [hld]; exact hL.1) hL.2
  rwa [hld] at this) _ _ _ _ H
 rw [hln, show n + (m - n) + (l.length - m) = l.toArray.size by simp; omega] at this
 exact this
theorem step_callP {o : Oper} {a : Act} {w : World} {K : Act → World → Prop} {E : Prop} (hgd : o.guard = none) (n : FuncId) (xs : Array Operand) (ts : Array TypeId)
  (ho : o.op = .call { callee := .value (.func n), args := xs, argTypes := ts }) (vals : Array Value) (hv : xs.map a.eval = vals) (hent : (callFunc n vals).run P w = .ok (.enter n vals) w) {R : Ending → World → Prop} (hc : Calls P n vals w R)
  (h : ∀ e w', R e w' → (∃ v, e = .returned v ∧ K (a.put o.dst v) w') ∨ (∃ ch, e = .panicked ch ∧ Q (.panic ch) a w')) : if Region.wanted o (yielded ops a.tmps) = true then Oper.wp P o a w K Q else E := by
 rw [if_pos (by simp [Region.wanted, hgd])]
 unfold Oper.wp
 have he : a.eval (.func n) = .func (.func n) #[] #[] := rfl
 simp [execOp, ho, resolve, invoke, hv, he, Deferred.ofValue]
 rw [hent, Oper.upon_enter]
 refine hc.mono ?_
 intro e w' hr
 rcases h e w' hr with ⟨v, rfl, hk⟩ | ⟨ch, rfl, hk⟩
 ·exact hk
 ·exact hk
theorem leaves_congr {fn : Func} {t t' : Array Value} {R : Ending → World → Prop} (h : results fn t = results fn t') : ∀ (ds : List Deferred) (u : FrameMode) (w : World), Leaves P fn t R ds u w → Leaves P fn t' R ds u w
 | [], .returning, w, k => by obtain ⟨v, h1, h2⟩ := k; exact ⟨v, h ▸ h1, h2⟩
 | [], .panicking _, w, k => k
 | [], .run, w, k => k
 | d :: ds, u, w, k => by
  obtain ⟨h1, fv, cap, f, args, h2, h3, h4⟩ := k
  refine ⟨h1, fv, cap, f, args, h2, h3, h4.mono ?_⟩
  intro e u' w' q
  cases e with
  | returned v => exact leaves_congr h ds _ _ q
  | panicked ch => exact leaves_congr h ds _ _ q
  | outgrown => exact q
end
end Go.Proofs.Ytdjjegaodgocmaa

namespace Go.Proofs.Ytdjjegaodgocmaa
open Go.RowKit
section
variable {P : Program} {ops : Array Oper} {md : Region.Mode} {Q : Exit → Act → World → Prop} {S : World → Prop}
def schedB (md : Region.Mode) (ops : Array Oper) (m : Nat) : List (Nat × Bool) → Array Bool → Bool
 | [], listed => Region.seqB md ops (ops.size - m) m listed
 | (i, true) :: r, listed => decide (i < m) && (Region.ready md ops listed).contains i && Region.free md ops listed i && schedB md ops m r (listed.setIfInBounds i true)
 | (i, false) :: r, listed => decide (i < m) && decide (Region.ready md ops listed = [i]) && schedB md ops m r (listed.setIfInBounds i true)
def wpSched (P : Program) (ops : Array Oper) (Q : Exit → Act → World → Prop) (S : World → Prop) (Z : Act → World → Prop) : List (Nat × Bool) → Act → World → Prop
 | [], a, w => Z a w
 | (i, true) :: r, a, w => ∃ o v, ops[i]? = some o ∧ YieldsIf P ops S o v a ∧ S w ∧ wpSched P ops Q S Z r (a.put o.dst v) w
 | (i, false) :: r, a, w => ∃ o, ops[i]? = some o ∧ if Region.wanted o (yielded ops a.tmps) = true then o.wp P a w (fun a' w' => S w' ∧ wpSched P ops Q S Z r a' w') Q else S w ∧ wpSched P ops Q S Z r (a.put o.dst undef) w
theorem wpAnyM_sched {m : Nat} {Z : Act → World → Prop} (hsel : Region.noSelect ops = true) (hs : Region.sinkB md ops m = true) (hc : Region.chainB md ops m = true) (hm : m < ops.size) (hQ : ∀ c (a : Act) t w, Q (.panic c) { a with tmps := t } w → Q (.panic c) a w) :
  ∀ (l : List (Nat × Bool)) (listed : Array Bool) (a : Act) (w : World), HeadInv md ops m listed → schedB md ops m l listed = true → wpSched P ops Q S Z l a w →
   wpAnyM P md ops Q S m (fun listed' a' w' => Region.seqB md ops (ops.size - m) m listed' = true ∧ Z a' w') l.length listed a w
 | [], listed, a, w, _, hB, h => ⟨hB, h⟩
 | (i, true) :: r, listed, a, w, inv, hB, ⟨o, v, ho, hy, hS, h⟩ => by
  simp only [schedB, Bool.and_eq_true, decide_eq_true_eq] at hB
  obtain ⟨⟨⟨him, hr⟩, hf⟩, hB'⟩ := hB
  have hr' : i ∈ Region.ready md ops listed := by simpa using hr
  exact wpAnyM_first ho (Region.noSelect_spec hsel) hs hc hm him (fun c a w h => hQ c a (a.put o.dst v).tmps w (by rw [← put_tmps]; exact h)) (fun listed a w hL => seqB_ready hL.1) _ listed a w inv (Region.free_spec ho hf) hr' hy hS
   (wpAnyM_sched hsel hs hc hm hQ r _ _ _ (inv.set hr' him) hB' h)
 | (i, false) :: r, listed, a, w, inv, hB, ⟨o, ho, h⟩ => by
  simp only [schedB, Bool.and_eq_true, decide_eq_true_eq] at hB
  obtain ⟨⟨him, hr⟩, hB'⟩ := hB
  refine ⟨fun h1 => (by rw [hr] at h1; cases h1), fun j hj => ?_⟩
  have hj0 := hj
  rw [hr] at hj
  have hji : j = i := by simpa using hj
  subst hji
  refine ⟨him, ?_⟩
  have hw : wpOp P ops Q j (fun a' w' => S w' ∧ wpSched P ops Q S Z r a' w') a w := by
   unfold wpOp
   simp only [ho]
   split
   ·rename_i hwd; rw [if_pos hwd] at h; exact .inl h
   ·rename_i hwd; rw [if_neg hwd] at h; exact h
  exact wpOp_mono (fun a' w' h' => ⟨h'.1, wpAnyM_sched hsel hs hc hm hQ r _ _ _ (inv.set hj0 him) hB' h'.2⟩) hw
def schedAll (md : Region.Mode) (ops : Array Oper) (m : Nat) (l : List (Nat × Bool)) : Bool :=
 Region.noSelect ops && decide (l.length = m) && decide (m < ops.size) && Region.sinkB md ops m && Region.chainB md ops m && schedB md ops m l (Array.replicate ops.size false)
theorem wp_region_sched {id : Nat} {a : Act} {w : World} {l : List Oper} (S : World → Prop) (s : List (Nat × Bool)) (m : Nat) (hf : P.follows .mixedOrders = true) (hB : schedAll .any l.toArray m s = true)
  (hQ : ∀ c (a : Act) t w, Q (.panic c) { a with tmps := t } w → Q (.panic c) a w)
  (h : wpSched P l.toArray Q S (fun a'' w'' => wpList P l.toArray Q (l.drop m) a'' w'') s a w.drew) : (Code.region id l.toArray true).wp P Q a w := by
 simp only [schedAll, Bool.and_eq_true, decide_eq_true_eq] at hB
 obtain ⟨⟨⟨⟨⟨hsel, hlen⟩, hm⟩, hs⟩, hc⟩, hsch⟩ := hB
 have hm' : m < l.length := by simpa using hm
 have hld : (l.drop m).length = l.length - m := by simp
 have inv0 : HeadInv .any l.toArray m (Array.replicate l.toArray.size false) :=
  ⟨by simp, fun j oj _ hl => (by rw [getD_replicate_false] at hl; cases hl), fun t _ ht => getD_in (by simpa using ht) (getD_replicate_false _ _)⟩
 have H := wpAnyM_sched (md := .any) hsel hs hc hm hQ s _ a w.drew inv0 hsch h
 refine wp_region_any hf ?_
 have := wpAny_of_mid (Q := Q) (g := l.length - m) (fun listed a' w' hL => by
  have := wpAny_of_seq (md := .any) (Q' := Q) (l.drop m) m listed a' w' (fun j => by simp [List.getElem?_drop]) (by rw [hld]; exact hL.1) hL.2
  rwa [hld] at this) _ _ _ _ H
 rw [hlen, show m + (l.length - m) = l.toArray.size by simp; omega] at this
 exact this
theorem sched_take {i : Nat} {r : List (Nat × Bool)} {a : Act} {w : World} {Z : Act → World → Prop} {o : Oper} {v : Value} (ho : ops[i]? = some o) (hw : Region.wanted o (yielded ops a.tmps) = true) (hS : S w) (hy : ∀ w, S w → (execOp a.eval o).run P w = .ok (.value v) w) (h : wpSched P ops Q S Z r (a.put o.dst v) w) : wpSched P ops Q S Z ((i, true) :: r) a w :=
 ⟨o, v, ho, .inl ⟨hw, hy⟩, hS, h⟩
theorem sched_go {i : Nat} {r : List (Nat × Bool)} {a : Act} {w : World} {Z : Act → World → Prop} {o : Oper} (ho : ops[i]? = some o) (h : ∀ K : Act → World → Prop, (∀ a' w', S w' → wpSched P ops Q S Z r a' w' → K a' w') → if Region.wanted o (yielded ops a.tmps) = true then o.wp P a w K Q else K (a.put o.dst undef) w) : wpSched P ops Q S Z ((i, false) :: r) a w := by
 have := h (fun a' w' => S w' ∧ wpSched P ops Q S Z r a' w') (fun a' w' h1 h2 => ⟨h1, h2⟩)
 exact ⟨o, ho, this⟩
theorem sched_run {i : Nat} {r : List (Nat × Bool)} {a : Act} {w : World} {Z : Act → World → Prop} {o : Oper} (ho : ops[i]? = some o) (hw : Region.wanted o (yielded ops a.tmps) = true) (h : ∀ K : Act → World → Prop, (∀ a' w', S w' → wpSched P ops Q S Z r a' w' → K a' w') → o.wp P a w K Q) : wpSched P ops Q S Z ((i, false) :: r) a w := by
 refine sched_go ho fun K hK => ?_
 rw [if_pos hw]
 exact h K hK
end
end Go.Proofs.Ytdjjegaodgocmaa

namespace Go.Proofs.Ytdjjegaodgocmaa
open Go.RowKit
section
variable {P : Program} {ops : Array Oper} {Q : Exit → Act → World → Prop} {S : World → Prop} {Z : Act → World → Prop} {m : Nat}
def Fan (P : Program) (ops : Array Oper) (Q : Exit → Act → World → Prop) (S : World → Prop) (Z : Act → World → Prop) (m n : Nat) (listed : Array Bool) (a : Act) (w : World) : Prop :=
 HeadInv .any ops m listed → wpAnyM P .any ops Q S m (fun listed' a' w' => Region.seqB .any ops (ops.size - m) m listed' = true ∧ Z a' w') n listed a w
def fanStep (P : Program) (ops : Array Oper) (Q : Exit → Act → World → Prop) (S : World → Prop) (Z : Act → World → Prop) (m n i : Nat) (listed : Array Bool) (a : Act) (w : World) : Prop :=
 ∃ o, ops[i]? = some o ∧ ∀ K : Act → World → Prop, (∀ a' w', S w' → Fan P ops Q S Z m n (listed.setIfInBounds i true) a' w' → K a' w') → if Region.wanted o (yielded ops a.tmps) = true then o.wp P a w K Q else K (a.put o.dst undef) w
def fanOk (ops : Array Oper) (m : Nat) : Bool := Region.noSelect ops && decide (m < ops.size) && Region.sinkB .any ops m && Region.chainB .any ops m
def takeOk (ops : Array Oper) (m i : Nat) (listed : Array Bool) : Bool := fanOk ops m && decide (i < m) && (Region.ready .any ops listed).contains i && Region.free .any ops listed i
def readyOk (ops : Array Oper) (m : Nat) (is : List Nat) (listed : Array Bool) : Bool := decide (Region.ready .any ops listed = is) && is.all (fun i => decide (i < m)) && !is.isEmpty
theorem fan_take {i n : Nat} {listed : Array Bool} {a : Act} {w : World} {o : Oper} {v : Value} (ho : ops[i]? = some o) (hB : takeOk ops m i listed = true) (hQ : ∀ c (a : Act) t w, Q (.panic c) { a with tmps := t } w → Q (.panic c) a w) (hw : Region.wanted o (yielded ops a.tmps) = true) (hS : S w)
  (hy : ∀ w, S w → (execOp a.eval o).run P w = .ok (.value v) w) (h : Fan P ops Q S Z m n (listed.setIfInBounds i true) (a.put o.dst v) w) : Fan P ops Q S Z m (n + 1) listed a w := by
 intro inv
 simp only [takeOk, fanOk, Bool.and_eq_true, decide_eq_true_eq] at hB
 obtain ⟨⟨⟨⟨⟨⟨hsel, hm⟩, hs⟩, hc⟩, him⟩, hr⟩, hf⟩ := hB
 have hr' : i ∈ Region.ready .any ops listed := by simpa using hr
 exact wpAnyM_first ho (Region.noSelect_spec hsel) hs hc hm him (fun c a w h => hQ c a (a.put o.dst v).tmps w (by rw [← put_tmps]; exact h)) (fun listed a w hL => seqB_ready hL.1) _ listed a w inv (Region.free_spec ho hf) hr' (.inl ⟨hw, hy⟩) hS (h (inv.set hr' him))
theorem fan_all {is : List Nat} {n : Nat} {listed : Array Bool} {a : Act} {w : World} (hB : readyOk ops m is listed = true) (h : ∀ i ∈ is, fanStep P ops Q S Z m n i listed a w) : Fan P ops Q S Z m (n + 1) listed a w := by
 intro inv
 simp only [readyOk, Bool.and_eq_true, decide_eq_true_eq, List.all_eq_true] at hB
 obtain ⟨⟨hr, hlt⟩, hne⟩ := hB
 refine ⟨fun h1 => ?_, fun j hj => ?_⟩
 ·rw [hr] at h1; subst h1; simp at hne
 ·have hj0 := hj
  rw [hr] at hj
  have him := hlt j hj
  refine ⟨him, ?_⟩
  obtain ⟨o, ho, hK⟩ := h j hj
  have := hK (fun a' w' => S w' ∧ Fan P ops Q S Z m n (listed.setIfInBounds j true) a' w') (fun a' w' h1 h2 => ⟨h1, h2⟩)
  have hw : wpOp P ops Q j (fun a' w' => S w' ∧ Fan P ops Q S Z m n (listed.setIfInBounds j true) a' w') a w := by
   unfold wpOp
   simp only [ho]
   split
   ·rename_i hwd; rw [if_pos hwd] at this; exact .inl this
   ·rename_i hwd; rw [if_neg hwd] at this; exact this
  exact wpOp_mono (fun a' w' h' => ⟨h'.1, h'.2 (inv.set hj0 him)⟩) hw
theorem fan_one {n : Nat} {listed : Array Bool} {a : Act} {w : World} (i : Nat) (hB : readyOk ops m [i] listed = true) (h : fanStep P ops Q S Z m n i listed a w) : Fan P ops Q S Z m (n + 1) listed a w :=
 fan_all hB fun j hj => by simp at hj; subst hj; exact h
theorem fan_two {n : Nat} {listed : Array Bool} {a : Act} {w : World} (i j : Nat) (hB : readyOk ops m [i, j] listed = true) (h1 : fanStep P ops Q S Z m n i listed a w) (h2 : fanStep P ops Q S Z m n j listed a w) : Fan P ops Q S Z m (n + 1) listed a w :=
 fan_all hB fun k hk => by
  simp at hk
  rcases hk with rfl | rfl
  ·exact h1
  ·exact h2
theorem fan_step {i n : Nat} {listed : Array Bool} {a : Act} {w : World} {o : Oper} (ho : ops[i]? = some o) (hw : Region.wanted o (yielded ops a.tmps) = true) (h : ∀ K : Act → World → Prop, (∀ a' w', S w' → Fan P ops Q S Z m n (listed.setIfInBounds i true) a' w' → K a' w') → o.wp P a w K Q) : fanStep P ops Q S Z m n i listed a w :=
 ⟨o, ho, fun K hK => by rw [if_pos hw]; exact h K hK⟩
theorem fan_done {listed : Array Bool} {a : Act} {w : World} (hB : Region.seqB .any ops (ops.size - m) m listed = true) (h : Z a w) : Fan P ops Q S Z m 0 listed a w := fun _ => ⟨hB, h⟩
theorem wp_region_fan {id : Nat} {a : Act} {w : World} {l : List Oper} (S : World → Prop) (m : Nat) (hf : P.follows .mixedOrders = true) (hm : m < l.length)
  (h : Fan P l.toArray Q S (fun a'' w'' => wpList P l.toArray Q (l.drop m) a'' w'') m m (Array.replicate l.toArray.size false) a w.drew) : (Code.region id l.toArray true).wp P Q a w := by
 have hld : (l.drop m).length = l.length - m := by simp
 have inv0 : HeadInv .any l.toArray m (Array.replicate l.toArray.size false) :=
  ⟨by simp, fun j oj _ hl => (by rw [getD_replicate_false] at hl; cases hl), fun t _ ht => getD_in (by simpa using ht) (getD_replicate_false _ _)⟩
 have H := h inv0
 refine wp_region_any hf ?_
 have := wpAny_of_mid (Q := Q) (g := l.length - m) (fun listed a' w' hL => by
  have := wpAny_of_seq (md := .any) (Q' := Q) (l.drop m) m listed a' w' (fun j => by simp [List.getElem?_drop]) (by rw [hld]; simpa using hL.1) hL.2
  rwa [hld] at this) _ _ _ _ H
 rw [show m + (l.length - m) = l.toArray.size by simp; omega] at this
 exact this
end
end Go.Proofs.Ytdjjegaodgocmaa
