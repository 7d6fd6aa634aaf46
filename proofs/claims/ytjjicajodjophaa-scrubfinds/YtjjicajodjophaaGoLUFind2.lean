/- Several texts in one: RSched FProgA FProgO UMtB Fr ShpIn Same DSame RFan DRot. -/
import Derived.Test.YtjjicajodjophaaGoLUFind1
import Derived.Test.YtjjicajodjophaaGoLUFind0
import Derived.Test.YtjjicajodjophaaRows
import Derived.ProofKit
import Derived.OpenShut
import Derived.ShutString
import Derived.ChangeOld
import Derived.Below
import Derived.SizedLaws
import Derived.JoinedCond
import Derived.Deep.Slices
import Derived.ChangeSame
import Derived.WideShapes
import Derived.ChangeArms
import Derived.Test.YtjjicajodjophaaProg
set_option linter.unusedVariables false
set_option linter.unusedSimpArgs false
namespace Go.Proofs.Ytjjicajodjophaa
open Go.RowKit
section
variable {P : Program} {ops : Array Oper} {md : Region.Mode} {Q : Exit → Act → World → Prop} {S : World → Prop}
end
end Go.Proofs.Ytjjicajodjophaa

namespace Go.Proofs.Ytjjicajodjophaa
open Go.RowKit
end Go.Proofs.Ytjjicajodjophaa

namespace Go.Proofs.Ytjjicajodjophaa
open Go.RowKit
end Go.Proofs.Ytjjicajodjophaa

namespace Go.Proofs.Ytjjicajodjophaa
end Go.Proofs.Ytjjicajodjophaa

namespace Go.Proofs.Ytjjicajodjophaa
open Go.ChangeShapes Go.WideShapes Go.ChangeAt Go.RowKit
theorem own : ownKnob Try.prog.godebug = none := by kernel_rfl
theorem laidOut : laidOutB Try.prog = true := by kernel_rfl
theorem bytes8 : Try.prog.bytesOf 5 = 1 := by kernel_rfl
def octs (zs : List Int) : List UInt8 := zs.map fun z => UInt8.ofNat z.toNat
theorem bt_octs {zs : List Int} (hw : ∀ n ∈ zs, (Lit.int .u8 n).wf = true) {len i : Nat} (h : i < len) (hl : len ≤ zs.length) : bt (octs (zs.take len)) i = zs.getD i 0 := by
 have hi : i < zs.length := by omega
 have hb : 0 ≤ zs[i] ∧ zs[i] ≤ 255 := by
  have := hw zs[i] (List.getElem_mem hi)
  simpa [Lit.wf, IntKind.min, IntKind.max, IntKind.signed, IntKind.bits] using this
 have e : (octs (zs.take len)).getD i 0 = UInt8.ofNat zs[i].toNat := by
  simp [octs, h, hi]
 unfold bt
 rw [e, UInt8.toNat_ofNat_of_lt' (by show _ < 256; omega)]
 simp [hi]; omega
theorem open_octs {H : Type} {enc : TypeId × Value → H} {W : World} {a : Option Addr} {len cap : Nat} {d : DataW H} {p : List MemPlace}
  (h : DataW.Trod enc Try.prog W 0 (fun _ => true) true 62 (.slice a len cap) d p) :
  ∃ xs : List UInt8, xs.length = len ∧ Rd W (.slice a len cap) xs ∧ (len = 0 ∨ ∃ el sp, d = .slice el sp ∧ el.length = len) := by
 obtain ⟨fuel, hf⟩ := h
 rcases open_ints Try.underlying62 Try.underlying5 (by kernel_rfl) hf with ⟨hcs, _⟩ | ⟨x, l, c, zs, hcs, _, hl, hm, hz, hx, hcell, hwz⟩
 ·simp [Value.cells] at hcs
  obtain ⟨rfl, rfl, rfl⟩ := hcs
  exact ⟨[], rfl, ⟨none, 0, rfl, Nat.le_refl _, Nat.zero_le _, fun _ => rfl, .inl rfl⟩, .inl rfl⟩
 ·simp [Value.cells] at hcs
  obtain ⟨rfl, rfl, rfl⟩ := hcs
  simp only [if_true] at hz
  simp only [Prod.mk.injEq] at hx
  have el : (octs (zs.take len)).length = len := by simp [octs]; omega
  refine ⟨octs (zs.take len), el, ⟨some x, cap, by rw [el], by rw [el]; exact hl, hm, (fun h => by cases h), ?_⟩, .inr ⟨_, _, hx.1, by simp [lits]; omega⟩⟩
  by_cases h0 : len = 0
  ·left; exact List.eq_nil_of_length_eq_zero (by rw [el]; exact h0)
  ·right
   obtain ⟨b, off, spot⟩ := x
   have hc := hcell 0 (by omega)
   have hspot : spot = none := by simpa [Addr.add] using World.cell?_spot hc
   subst hspot
   refine ⟨b, off, rfl, fun i hi => ?_⟩
   rw [el] at hi
   have := hcell i (by omega)
   rw [bt_octs hwz hi (by omega), ← this]
   by_cases hi0 : i = 0
   ·subst hi0; simp [Addr.add]
   ·simp [Addr.add, hi0]
theorem bulk_pos {H : Type} (d : DataW H) : 1 ≤ Rows.uptoBulk d := by
 cases d with
 | lit l => cases l <;> simp [Rows.uptoBulk]
 | nil => simp [Rows.uptoBulk]
 | ptr d => simp [Rows.uptoBulk]
 | slice el sp => simp [Rows.uptoBulk]
 | agg ps => simp [Rows.uptoBulk]
 | iface t d => simp [Rows.uptoBulk]
 | map es => simp [Rows.uptoBulk]
 | held h => simp [Rows.uptoBulk]
theorem bulk_len {H : Type} (l : List (DataW H)) : l.length ≤ Rows.uptoBulkAll l := by
 induction l with
 | nil => simp [Rows.uptoBulkAll]
 | cons x r ih => have := bulk_pos x; simp only [Rows.uptoBulkAll, List.length_cons]; omega
end Go.Proofs.Ytjjicajodjophaa

namespace Go.Proofs.Ytjjicajodjophaa
open Go.ChangeShapes Go.WideShapes Go.ChangeAt Go.RowKit
structure Opens {α : Type} (s : Shp α) (t : TypeId) (fits : α → Prop) (bulk : α → Nat) : Prop where
 cells : Try.prog.cellsOf t = s.n
 opened : ∀ {H : Type} {enc : TypeId × Value → H} {W : World} {fuel : Nat} {cs : List Value} {x : DataW H × List MemPlace}, DataW.trod enc Try.prog W 0 (fun _ => true) true fuel t cs = some x →
  ∃ a, s.rd W cs a ∧ ((∀ n ∈ x.1.weights Try.prog t, n ≤ reachBytes) → fits a) ∧ bulk a ≤ Rows.uptoBulk x.1
theorem opens_int {k : IntKind} {t : TypeId} (ht : Try.prog.underlying t = some (.int k)) (hc : Try.prog.cellsOf t = 1) : Opens (Shp.int k) t (fun _ => True) (fun _ => 1) := by
 refine ⟨hc, fun {H enc W fuel cs x} h => ?_⟩
 obtain ⟨z, hz, _, _⟩ := DataW.trod_int ht h
 exact ⟨z, hz, fun _ => trivial, bulk_pos _⟩
theorem opens_intw {k : IntKind} {t : TypeId} (ht : Try.prog.underlying t = some (.int k)) (hc : Try.prog.cellsOf t = 1) : Opens (Shp.int k) t (fun z => (Lit.int k z).wf = true) (fun _ => 1) := by
 refine ⟨hc, fun {H enc W fuel cs x} h => ?_⟩
 obtain ⟨z, hz, _, hw⟩ := DataW.trod_int ht h
 exact ⟨z, hz, fun _ => hw, bulk_pos _⟩
theorem choose_list {α : Type} {p : Nat → α → Prop} : ∀ n : Nat, (∀ i, i < n → ∃ x, p i x) → ∃ xs : List α, xs.length = n ∧ ∀ i x, xs[i]? = some x → p i x
 | 0, _ => ⟨[], rfl, fun i x h => by simp at h⟩
 | n + 1, h => by
  obtain ⟨xs, h1, h2⟩ := choose_list n fun i hi => h i (by omega)
  obtain ⟨x, hx⟩ := h n (by omega)
  refine ⟨xs ++ [x], by simp [h1], fun i y hy => ?_⟩
  by_cases e : i < n
  ·rw [List.getElem?_append_left (by omega)] at hy
   exact h2 i y hy
  ·rw [List.getElem?_append_right (by omega)] at hy
   have hi : i - xs.length = 0 := by
    have := (List.getElem?_eq_some_iff.1 hy).1
    simp at this; omega
   rw [hi] at hy
   simp at hy; subst hy
   obtain rfl : i = n := by omega
   exact hx
theorem weightsAll_mem {H : Type} {e : TypeId} {d : DataW H} {l : List (DataW H)} (hd : d ∈ l) {n : Nat} (hn : n ∈ d.weights Try.prog e) : n ∈ DataW.weightsAll Try.prog e l := by
 induction l with
 | nil => cases hd
 | cons x r ih =>
  simp only [DataW.weightsAll, List.mem_append]
  rcases List.mem_cons.1 hd with h | h
  ·subst h; exact .inl hn
  ·exact .inr (ih h)
theorem bulk_sum {H α : Type} (bulk : α → Nat) : ∀ (xs : List α) (D : Nat → DataW H), (∀ i x, xs[i]? = some x → bulk x ≤ Rows.uptoBulk (D i)) → (xs.map bulk).sum ≤ Rows.uptoBulkAll ((List.range xs.length).map D)
 | [], _, _ => by simp
 | x :: xs, D, h => by
  simp only [List.length_cons, List.range_succ_eq_map, List.map_cons, List.map_map, List.sum_cons, Rows.uptoBulkAll]
  have h0 := h 0 x rfl
  have := bulk_sum bulk xs (D ∘ Nat.succ) fun i y hy => h (i + 1) y (by simpa using hy)
  omega
theorem Opens.list {α : Type} {s : Shp α} {e t T bts : Nat} {fits : α → Prop} {bulk : α → Nat} (o : Opens s e fits bulk) (ht : Try.prog.underlying t = some (.slice e)) (hc : Try.prog.cellsOf t = 1) (hb : Try.prog.bytesOf e = bts) (hn : 0 < s.n) :
  Opens (Shp.list T s) t (fun xs => xs.length * bts ≤ 140737488351232 ∧ ∀ x ∈ xs, fits x) (fun xs => (xs.map bulk).sum) := by
 refine ⟨hc, fun {H enc W fuel cs x} h => ?_⟩
 rcases Deep.open_slice ht h with ⟨rfl, rfl⟩ | ⟨a, len, cap, m, n, D, Pl, rfl, _, hl, hm, hmm, rfl, hx⟩
 ·exact ⟨[], ⟨_, rfl, RdS.nil _ _⟩, fun _ => ⟨by simp, fun x hx => by cases hx⟩, by simp⟩
 simp only [if_true] at hmm
 subst hmm
 have each : ∀ i, i < len → ∃ x, (∃ c, s.rd W c x ∧ ∀ j u, c[j]? = some u → W.cell? ((a.add (i * s.n)).add j) = some u) ∧ ((∀ n ∈ (D i).weights Try.prog e, n ≤ reachBytes) → fits x) ∧ bulk x ≤ Rows.uptoBulk (D i) := by
  intro i hi
  obtain ⟨cs', h1, h2⟩ := hx i (by omega)
  obtain ⟨x, hr, hf, hbk⟩ := o.opened h2
  rw [o.cells] at h1
  obtain ⟨_, hlen, hcell⟩ := World.cells?_some h1
  refine ⟨x, ⟨cs', hr, fun j u hj => ?_⟩, hf, hbk⟩
  have hjl : j < cs'.length := (List.getElem?_eq_some_iff.1 hj).1
  have := hcell j (by omega)
  rw [this]; exact hj
 obtain ⟨xs, h1, h2⟩ := choose_list len each
 refine ⟨xs, ⟨_, rfl, some a, m, by rw [h1], by omega, hm, (fun h => by cases h), ?_⟩, fun hw => ⟨?_, fun x hx' => ?_⟩, ?_⟩
 ·by_cases h0 : len = 0
  ·left; exact List.eq_nil_of_length_eq_zero (by omega)
  ·right
   obtain ⟨b, off, spot⟩ := a
   obtain ⟨x0, hx0⟩ : ∃ x0, xs[0]? = some x0 := ⟨_, List.getElem?_eq_getElem (by omega)⟩
   obtain ⟨⟨c, hr, hc'⟩, _⟩ := h2 0 x0 hx0
   have hcl := s.rd_n hr
   obtain ⟨u0, hu0⟩ : ∃ u0, c[0]? = some u0 := ⟨_, List.getElem?_eq_getElem (by omega)⟩
   have hspot : spot = none := by
    have := World.cell?_spot (hc' 0 u0 hu0)
    simpa [Addr.add] using this
   subst hspot
   refine ⟨b, off, rfl, fun i x hxi => ?_⟩
   obtain ⟨⟨c, hr, hc'⟩, _⟩ := h2 i x hxi
   refine ⟨c, hr, fun j u hj => ?_⟩
   have := hc' j u hj
   have ea : ((⟨b, off, none⟩ : Addr).add (i * s.n)).add j = ⟨b, off + i * s.n + j, none⟩ := by
    rw [Deep.add_add]
    unfold Addr.add
    split <;> simp_all [Nat.add_assoc]
   rw [ea] at this
   exact this
 ·have := hw ((len + (m - len)) * bts) (by simp [DataW.weights, ht, hb])
  simp only [reachBytes] at this
  rw [h1]
  have h3 : len * bts ≤ (len + (m - len)) * bts := Nat.mul_le_mul_right _ (by omega)
  omega
 ·obtain ⟨i, hi, e⟩ := List.getElem_of_mem hx'
  have hxi : xs[i]? = some x := by rw [List.getElem?_eq_getElem hi, e]
  refine (h2 i x hxi).2.1 fun n hn => hw n ?_
  simp only [DataW.weights, ht, List.mem_cons, List.mem_append]
  right; left
  exact weightsAll_mem (d := D i) (List.mem_map.2 ⟨i, List.mem_range.2 (by omega), rfl⟩) hn
 ·have := bulk_sum bulk xs D fun i x hxi => (h2 i x hxi).2.2
  rw [h1] at this
  simp only [Rows.uptoBulk]
  omega
theorem Opens.pair {α β : Type} {s : Shp α} {r : Shp β} {t : TypeId} {f0 f1 : Field} {fa : α → Prop} {fb : β → Prop} {ba : α → Nat} {bb : β → Nat} (o : Opens s f0.type fa ba) (q : Opens r f1.type fb bb) (ht : Try.prog.underlying t = some (.struct #[f0, f1])) (hc : Try.prog.cellsOf t = s.n + r.n) (h0 : f0.offset = 0) (h1 : f1.offset = s.n) :
  Opens (s.pair r) t (fun z => fa z.1 ∧ fb z.2) (fun z => ba z.1 + bb z.2) := by
 refine ⟨hc, fun {H enc W fuel cs x} h => ?_⟩
 obtain ⟨xs, k, hk, hxy, hlen, hxl, hf⟩ := DataW.trod_struct ht h
 match xs, hxl with
 | [y0, y1], _ =>
  have g0 := hf 0 f0 rfl
  have g1 := hf 1 f1 rfl
  rw [h0, o.cells, List.drop_zero] at g0
  rw [h1, q.cells] at g1
  obtain ⟨a, ra, fa', ba'⟩ := o.opened (x := y0) (by simpa using g0)
  obtain ⟨b, rb, fb', bb'⟩ := q.opened (x := y1) (by simpa using g1)
  have hcs : cs = cs.take s.n ++ (cs.drop s.n).take r.n := by
   have : (cs.drop s.n).take r.n = cs.drop s.n := List.take_of_length_le (by rw [List.length_drop, hlen, hc]; omega)
   rw [this, List.take_append_drop]
  obtain ⟨d, p⟩ := x
  simp only [Prod.mk.injEq] at hxy
  obtain ⟨rfl, _⟩ := hxy
  refine ⟨(a, b), ⟨_, _, hcs, ra, rb⟩, fun hw => ⟨fa' fun n hn => hw n ?_, fb' fun n hn => hw n ?_⟩, ?_⟩
  ·simp only [DataW.weights, ht]
   exact DataW.weights_mem_each (j := 0) (t := f0.type) (d := y0.1) rfl rfl n hn
  ·simp only [DataW.weights, ht]
   exact DataW.weights_mem_each (j := 1) (t := f1.type) (d := y1.1) rfl rfl n hn
  ·simp only [List.map_cons, List.map_nil, Rows.uptoBulk, Rows.uptoBulkAll]
   omega
theorem reach_of {H : Type} {ts : List TypeId} {ds : List (DataW H)} (hsz : (DataW.weightsEach Try.prog ts ds).all (· ≤ reachBytes) = true) {j : Nat} {t : TypeId} {d : DataW H} (ht : ts[j]? = some t) (hd : ds[j]? = some d) : ∀ n ∈ d.weights Try.prog t, n ≤ reachBytes := by
 intro n hn
 have := List.all_eq_true.1 hsz _ (DataW.weights_mem_each ht hd _ hn)
 simpa using this
theorem Opens.three {α β γ : Type} {s : Shp α} {r : Shp β} {u : Shp γ} {t : TypeId} {f0 f1 f2 : Field} {fa : α → Prop} {fb : β → Prop} {fc : γ → Prop} {ba : α → Nat} {bb : β → Nat} {bc : γ → Nat} (o : Opens s f0.type fa ba) (q : Opens r f1.type fb bb) (p : Opens u f2.type fc bc)
  (ht : Try.prog.underlying t = some (.struct #[f0, f1, f2])) (hc : Try.prog.cellsOf t = s.n + (r.n + u.n)) (h0 : f0.offset = 0) (h1 : f1.offset = s.n) (h2 : f2.offset = s.n + r.n) :
  Opens (s.pair (r.pair u)) t (fun z => fa z.1 ∧ (fb z.2.1 ∧ fc z.2.2)) (fun z => ba z.1 + (bb z.2.1 + bc z.2.2)) := by
 refine ⟨hc, fun {H enc W fuel cs x} h => ?_⟩
 obtain ⟨xs, k, hk, hxy, hlen, hxl, hf⟩ := DataW.trod_struct ht h
 match xs, hxl with
 | [y0, y1, y2], _ =>
  have g0 := hf 0 f0 rfl
  have g1 := hf 1 f1 rfl
  have g2 := hf 2 f2 rfl
  rw [h0, o.cells, List.drop_zero] at g0
  rw [h1, q.cells] at g1
  rw [h2, p.cells] at g2
  obtain ⟨a, ra, fa', ba'⟩ := o.opened (x := y0) (by simpa using g0)
  obtain ⟨b, rb, fb', bb'⟩ := q.opened (x := y1) (by simpa using g1)
  obtain ⟨c, rc, fc', bc'⟩ := p.opened (x := y2) (by simpa using g2)
  have hcs : cs = cs.take s.n ++ ((cs.drop s.n).take r.n ++ (cs.drop (s.n + r.n)).take u.n) := by
   have e1 : (cs.drop (s.n + r.n)).take u.n = cs.drop (s.n + r.n) := List.take_of_length_le (by rw [List.length_drop, hlen, hc]; omega)
   rw [e1, ← List.drop_drop, List.take_append_drop, List.take_append_drop]
  obtain ⟨d, pl⟩ := x
  simp only [Prod.mk.injEq] at hxy
  obtain ⟨rfl, _⟩ := hxy
  refine ⟨(a, (b, c)), ⟨_, _, hcs, ra, ⟨_, _, rfl, rb, rc⟩⟩, fun hw => ⟨fa' fun n hn => hw n ?_, fb' fun n hn => hw n ?_, fc' fun n hn => hw n ?_⟩, ?_⟩
  ·simp only [DataW.weights, ht]
   exact DataW.weights_mem_each (j := 0) (t := f0.type) (d := y0.1) rfl rfl n hn
  ·simp only [DataW.weights, ht]
   exact DataW.weights_mem_each (j := 1) (t := f1.type) (d := y1.1) rfl rfl n hn
  ·simp only [DataW.weights, ht]
   exact DataW.weights_mem_each (j := 2) (t := f2.type) (d := y2.1) rfl rfl n hn
  ·simp only [List.map_cons, List.map_nil, Rows.uptoBulk, Rows.uptoBulkAll]
   omega
end Go.Proofs.Ytjjicajodjophaa

namespace Go.Proofs.Ytjjicajodjophaa
open Go.RowKit
end Go.Proofs.Ytjjicajodjophaa

namespace Go.Proofs.Ytjjicajodjophaa
open Go.RowKit
end Go.Proofs.Ytjjicajodjophaa

namespace Go.Proofs.Ytjjicajodjophaa
open Go.RowKit
section
variable {P : Program} {ops : Array Oper} {Q : Exit → Act → World → Prop} {S : World → Prop} {Z : Act → World → Prop} {m : Nat}
def Fan (P : Program) (ops : Array Oper) (Q : Exit → Act → World → Prop) (S : World → Prop) (Z : Act → World → Prop) (m n : Nat) (listed : Array Bool) (a : Act) (w : World) : Prop :=
 HeadInv .any ops m listed → wpAnyM P .any ops Q S m (fun listed' a' w' => Region.seqB .any ops (ops.size - m) m listed' = true ∧ Z a' w') n listed a w
def fanStep (P : Program) (ops : Array Oper) (Q : Exit → Act → World → Prop) (S : World → Prop) (Z : Act → World → Prop) (m n i : Nat) (listed : Array Bool) (a : Act) (w : World) : Prop :=
 ∃ o, ops[i]? = some o ∧ ∀ K : Act → World → Prop, (∀ a' w', S w' → Fan P ops Q S Z m n (listed.setIfInBounds i true) a' w' → K a' w') → if Region.wanted o (yielded ops a.tmps) = true then o.wp P a w K Q else K (a.put o.dst undef) w
def fanOk (ops : Array Oper) (m : Nat) : Bool := Region.noSelect ops && decide (m < ops.size) && Region.sinkB .any ops m && Region.chainB .any ops m
def takeOk (ops : Array Oper) (m i : Nat) (listed : Array Bool) : Bool := fanOk ops m && decide (i < m) && (Region.ready .any ops listed).contains i && Region.free .any ops listed i
def readyOk (ops : Array Oper) (m : Nat) (is : List Nat) (listed : Array Bool) : Bool := decide (Region.ready .any ops listed = is) && is.all (fun i => decide (i < m)) && !is.isEmpty
theorem fan_take {i n : Nat} {listed : Array Bool} {a : Act} {w : World} {o : Oper} {v : Value} (ho : ops[i]? = some o) (hB : takeOk ops m i listed = true) (hQ : ∀ c (a : Act) t w, Q (.panic c) { a with tmps := t } w → Q (.panic c) a w) (hw : Region.wanted o (yielded ops a.tmps) = true) (hS : S w)
  (hy : ∀ w, S w → (execOp a.eval o).run P w = .ok (.value v) w) (h : Fan P ops Q S Z m n (listed.setIfInBounds i true) (a.put o.dst v) w) : Fan P ops Q S Z m (n + 1) listed a w := by
 intro inv
 simp only [takeOk, fanOk, Bool.and_eq_true, decide_eq_true_eq] at hB
 obtain ⟨⟨⟨⟨⟨⟨hsel, hm⟩, hs⟩, hc⟩, him⟩, hr⟩, hf⟩ := hB
 have hr' : i ∈ Region.ready .any ops listed := by simpa using hr
 exact wpAnyM_first ho (Region.noSelect_spec hsel) hs hc hm him (fun c a w h => hQ c a (a.put o.dst v).tmps w (by rw [← put_tmps]; exact h)) (fun listed a w hL => seqB_ready hL.1) _ listed a w inv (Region.free_spec ho hf) hr' (.inl ⟨hw, hy⟩) hS (h (inv.set hr' him))
theorem fan_all {is : List Nat} {n : Nat} {listed : Array Bool} {a : Act} {w : World} (hB : readyOk ops m is listed = true) (h : ∀ i ∈ is, fanStep P ops Q S Z m n i listed a w) : Fan P ops Q S Z m (n + 1) listed a w := by
 intro inv
 simp only [readyOk, Bool.and_eq_true, decide_eq_true_eq, List.all_eq_true] at hB
 obtain ⟨⟨hr, hlt⟩, hne⟩ := hB
 refine ⟨fun h1 => ?_, fun j hj => ?_⟩
 ·rw [hr] at h1; subst h1; simp at hne
 ·have hj0 := hj
  rw [hr] at hj
  have him := hlt j hj
  refine ⟨him, ?_⟩
  obtain ⟨o, ho, hK⟩ := h j hj
  have := hK (fun a' w' => S w' ∧ Fan P ops Q S Z m n (listed.setIfInBounds j true) a' w') (fun a' w' h1 h2 => ⟨h1, h2⟩)
  have hw : wpOp P ops Q j (fun a' w' => S w' ∧ Fan P ops Q S Z m n (listed.setIfInBounds j true) a' w') a w := by
   unfold wpOp
   simp only [ho]
   split
   ·rename_i hwd; rw [if_pos hwd] at this; exact .inl this
   ·rename_i hwd; rw [if_neg hwd] at this; exact this
  exact wpOp_mono (fun a' w' h' => ⟨h'.1, h'.2 (inv.set hj0 him)⟩) hw
theorem fan_one {n : Nat} {listed : Array Bool} {a : Act} {w : World} (i : Nat) (hB : readyOk ops m [i] listed = true) (h : fanStep P ops Q S Z m n i listed a w) : Fan P ops Q S Z m (n + 1) listed a w :=
 fan_all hB fun j hj => by simp at hj; subst hj; exact h
theorem fan_two {n : Nat} {listed : Array Bool} {a : Act} {w : World} (i j : Nat) (hB : readyOk ops m [i, j] listed = true) (h1 : fanStep P ops Q S Z m n i listed a w) (h2 : fanStep P ops Q S Z m n j listed a w) : Fan P ops Q S Z m (n + 1) listed a w :=
 fan_all hB fun k hk => by
  simp at hk
  rcases hk with rfl | rfl
  ·exact h1
  ·exact h2
theorem fan_step {i n : Nat} {listed : Array Bool} {a : Act} {w : World} {o : Oper} (ho : ops[i]? = some o) (hw : Region.wanted o (yielded ops a.tmps) = true) (h : ∀ K : Act → World → Prop, (∀ a' w', S w' → Fan P ops Q S Z m n (listed.setIfInBounds i true) a' w' → K a' w') → o.wp P a w K Q) : fanStep P ops Q S Z m n i listed a w :=
 ⟨o, ho, fun K hK => by rw [if_pos hw]; exact h K hK⟩
theorem fan_done {listed : Array Bool} {a : Act} {w : World} (hB : Region.seqB .any ops (ops.size - m) m listed = true) (h : Z a w) : Fan P ops Q S Z m 0 listed a w := fun _ => ⟨hB, h⟩
theorem wp_region_fan {id : Nat} {a : Act} {w : World} {l : List Oper} (S : World → Prop) (m : Nat) (hf : P.follows .mixedOrders = true) (hm : m < l.length)
  (h : Fan P l.toArray Q S (fun a'' w'' => wpList P l.toArray Q (l.drop m) a'' w'') m m (Array.replicate l.toArray.size false) a w.drew) : (Code.region id l.toArray true).wp P Q a w := by
 have hld : (l.drop m).length = l.length - m := by simp
 have inv0 : HeadInv .any l.toArray m (Array.replicate l.toArray.size false) :=
  ⟨by simp, fun j oj _ hl => (by rw [getD_replicate_false] at hl; cases hl), fun t _ ht => getD_in (by simpa using ht) (getD_replicate_false _ _)⟩
 have H := h inv0
 refine wp_region_any hf ?_
 have := wpAny_of_mid (Q := Q) (g := l.length - m) (fun listed a' w' hL => by
  have := wpAny_of_seq (md := .any) (Q' := Q) (l.drop m) m listed a' w' (fun j => by simp [List.getElem?_drop]) (by rw [hld]; simpa using hL.1) hL.2
  rwa [hld] at this) _ _ _ _ H
 rw [show m + (l.length - m) = l.toArray.size by simp; omega] at this
 exact this
end
end Go.Proofs.Ytjjicajodjophaa

namespace Go.Proofs.Ytjjicajodjophaa
open Go.RowKit
theorem OwnF.poke {T : Nat} {F : List Nat} {w : World} {sv cv : Value} {d : Dsk} (h : OwnF (SSec.pair (Shp.list T SWr)) F w [sv, cv] d) {k : Nat} {x : List UInt8} (hx : d.1[k]? = some x) {j : Nat} (hj : j < x.length) :
  ∃ g cap gu capu, sv = .slice (some ⟨g, 0, none⟩) d.1.length cap ∧ d.1.length ≤ cap ∧ w.cell? ⟨g, k, none⟩ = some (.slice (some ⟨gu, 0, none⟩) x.length capu) ∧ x.length ≤ capu ∧ w.cell? ⟨gu, j, none⟩ = some (.int .u8 (bt x j)) ∧ w.frozen? ⟨gu, j, none⟩ = false ∧ gu ∈ F ∧
   ∀ b : UInt8, OwnF (SSec.pair (Shp.list T SWr)) F (w.setCell ⟨gu, j, none⟩ (.int .u8 (b.toNat : Int))) [sv, cv] (d.1.set k (x.set j b), d.2) := by
 obtain ⟨F1, F2, rfl, p1, p2, hd⟩ := OwnF.split (c := [sv]) (d := [cv]) h rfl
 obtain ⟨g, cap, u, hv, hcap, hc, ho, hgF, huF, fin⟩ := p1.sector hx
 obtain ⟨gu, capu, rfl, _, hgl⟩ := World.ownsRow.form ho (by omega)
 have hcu : x.length ≤ capu := by
  rcases ho.2 with ⟨e, _⟩ | ⟨g', cap', cur, e, _, _, hn, _⟩
  ·cases e
  ·cases e; exact hn
 have hgu := (huF gu rfl).1
 refine ⟨g, cap, gu, capu, hv, hcap, hc, hcu, ?_, World.ownsRow.frozenAt ho j, by simp [hgu], fun b => ?_⟩
 ·rw [World.ownsRow.cellAt ho j (by omega)]
  simp [enc, bt, hj]
 ·refine OwnF.join (fin _ _ ?_ fun q hq hne => ?_) (p2.keep fun q hq => ?_) hd
  ·have := (World.ownsRow.stored ho j (enc b)).1
   unfold OwnB
   rw [List.length_set, List.map_set]
   exact this
  ·exact Below.heap_setCell _ _ _ _ (fun e => hne (by rw [e]; rfl))
  ·exact Below.heap_setCell _ _ _ _ (fun e => by have e' : q = gu := e; exact hd gu hgu (by rw [← e']; exact hq))
theorem xor8 (a b : UInt8) : bits .xor .u8 (a.toNat : Int) (b.toNat : Int) = ((a ^^^ b).toNat : Int) := by
 rw [u8_xor_nat _ _ (UInt8.toNat_lt _) (UInt8.toNat_lt _), UInt8.toNat_xor]
theorem own_form {T : Nat} {F : List Nat} {w : World} {sv cv : Value} {d : Dsk} (h : OwnF (SSec.pair (Shp.list T SWr)) F w [sv, cv] d) : ∃ al cl ac cc, sv = .slice al d.1.length cl ∧ cv = .slice ac d.2.length cc := by
 obtain ⟨F1, F2, _, p1, p2, _⟩ := OwnF.split (c := [sv]) (d := [cv]) h rfl
 obtain ⟨v1, e1, r1⟩ := p1.rd
 obtain ⟨v2, e2, r2⟩ := p2.rd
 simp at e1 e2; subst e1 e2
 obtain ⟨al, cl, rfl⟩ := r1.slice
 obtain ⟨ac, cc', rfl⟩ := r2.slice
 exact ⟨al, cl, ac, cc', rfl, rfl⟩
set_option maxRecDepth 100000 in
set_option maxHeartbeats 2000000 in
theorem drot_any (w : World) (sv cv : Value) (d : Dsk) (z at' : Int) (b : UInt8) (h1 : RdSec w sv d.1) (h2 : RdC w cv d.2) :
  Calls Try.prog 27 #[.agg #[sv, cv], .int .i64 z, .int .i64 at', .int .u8 (b.toNat : Int)] w fun e w' => ∃ sv' cv', e = .returned (.tuple #[.agg #[sv', cv'], .int .i64 (drot d z at' b).2]) ∧ Own SStP w.heap.size w' [sv', cv'] (drot d z at' b).1 ∧ Below w.heap.size w w' := by
 obtain ⟨a1, c1, rfl⟩ := h1.slice
 obtain ⟨a2, c2, rfl⟩ := h2.slice
 obtain ⟨W, hW, hA, hZ, bW, sW⟩ := boxes w (.slice a1 d.1.length c1) (.slice a2 d.2.length c2) 31
 replace h1 := h1.to0 bW
 replace h2 := h2.to0 bW
 obtain ⟨A0, A1, _, _⟩ := row2_cells hA
 go_enter Try.func27, Try.ntmps27
 go_wp2_with fail
 rw [← hW]
 replace hW := hide hW
 refine (dsector_any _ _ _ d z h1 h2).mono ?_
 rintro e w1 ⟨rfl, b1⟩
 have c1w := bW.trans (b1.mono bW.size)
 have Z1 := (b1.block (w.heap.size + 1) (by omega)).trans hZ
 obtain ⟨y0, y1, y2, y3⟩ := row2_cells Z1
 by_cases hs0 : dsect d z = 0
 ·obtain ⟨hok, hh⟩ := dsect_zero.1 hs0
  rw [hs0]
  have A0' := (b1.cell (cell_lt A0)).trans A0
  have A1' := (b1.cell (cell_lt A1)).trans A1
  by_cases hl : at' < 0
  ·have hR : Hid (drot d z at' b = (([], []), 4)) := by show _ = _; unfold drot; rw [if_neg (by simp [hs0]), if_pos (.inl hl)]
   clear hs0
   go_wp2
   refine ret_cellT rfl rfl (w.heap.size + 1) rfl _ _ _ _ (heap_set2 Z1 _ _) _ Try.underlying31 rfl info_stP _ rfl ?_
   rw [hR.out]
   exact ⟨_, _, rfl, own_none _ _ _, below_set2 c1w (show w.heap.size ≤ w.heap.size + 1 by omega) _ _⟩
  by_cases hg : 64 ≤ at'
  ·have hR : Hid (drot d z at' b = (([], []), 4)) := by show _ = _; unfold drot; rw [if_neg (by simp [hs0]), if_pos (.inr hg)]
   clear hs0
   go_wp2
   refine ret_cellT rfl rfl (w.heap.size + 1) rfl _ _ _ _ (heap_set2 Z1 _ _) _ Try.underlying31 rfl info_stP _ rfl ?_
   rw [hR.out]
   exact ⟨_, _, rfl, own_none _ _ _, below_set2 c1w (show w.heap.size ≤ w.heap.size + 1 by omega) _ _⟩
  obtain ⟨j, rfl⟩ : ∃ j : Nat, at' = (j : Int) := ⟨at'.toNat, by omega⟩
  obtain ⟨kz, x, rfl, hkl, hkx⟩ := dhas_nat hh
  have hx64 : x.length = 64 := hok.2.2.2.1 x (List.mem_of_getElem? hkx)
  have hR : Hid (drot d kz j b = ((d.1.set kz (x.set j (x.getD j 0 ^^^ b)), d.2), 0)) := by
   show _ = _; unfold drot; rw [if_neg (by simp [hs0]), if_neg (by omega)]
   rw [show ((kz : Int)).toNat = kz from by omega, show ((j : Int)).toNat = j from by omega, getD_some hkx]
  have g1 := h1.to0 b1
  have g2 := h2.to0 b1
  have hlen1 := hok.2.1
  have hlen2 := hok.2.2.1
  obtain ⟨pd1, pd2⟩ := padW_id hok
  have PD := hide (And.intro pd1 pd2)
  have hj64 : j < x.length := by omega
  have hq1 : (kz : Int) < (d.1.length : Int) := by omega
  have hq3 : (j : Int) < 64 := by omega
  clear hs0 pd1 pd2
  go_wp2_with fail
  refine (renewed_any _ _ _ d g1 g2 (by omega) (by omega)).mono ?_
  rintro e w3 ⟨sv', cv', rfl, o3, b3⟩
  rw [PD.out.1, PD.out.2] at o3
  have c3w := c1w.trans (b3.mono c1w.size)
  have b13 := b1.trans (b3.mono b1.size)
  obtain ⟨F, hF, hFB⟩ := o3.foot
  obtain ⟨al, cl, ac, cc', rfl, rfl⟩ := own_form hF
  obtain ⟨X, hX, X0, X1, bX, sX⟩ := boxed2 w3 (.slice al d.1.length cl) (.slice ac d.2.length cc') 31
  have hT : X.heap[w3.heap.size]? = some (.cells #[.slice al d.1.length cl, .slice ac d.2.length cc'] 31 (0, 0)) := by rw [hX]; exact heap_alloc_last w3 _
  obtain ⟨gb, hgb⟩ : ∃ gb, gb = w3.heap.size := ⟨_, rfl⟩
  rw [← hgb] at hT X0 X1
  have hgF : gb ∉ F := fun hm => by have := hF.lt gb hm; omega
  have Z3 := ((b13.trans (bX.mono b13.size)).block (w.heap.size + 1) (by omega)).trans hZ
  have hs3 : w.heap.size + 1 + 1 ≤ gb := by have := b13.size; omega
  have hs2 : w.heap.size + 1 + 1 ≤ w1.heap.size := by have := b1.size; omega
  have cX := c3w.trans (bX.mono c3w.size)
  obtain ⟨g, cap, gu, capu, ev, hcap, hcg, hcapu, hcu, hfz, hguF, fin⟩ := (hF.to bX).poke hkx hj64
  cases ev
  rw [hx64] at hcg hcapu
  have hgb1 : gu ≠ gb := fun e => hgF (by rw [← e]; exact hguF)
  have hguB := hFB gu hguF
  have hbx : bt x j = ((x.getD j 0).toNat : Int) := rfl
  have hxo := xor8 (x.getD j 0) b
  rw [← hbx] at hxo
  have FINO := hide (fin (x.getD j 0 ^^^ b))
  obtain ⟨nb, hnb⟩ : ∃ nb, nb = ((x.getD j 0 ^^^ b).toNat : Int) := ⟨_, rfl⟩
  rw [← hnb] at hxo FINO
  have nbd : 0 ≤ nb ∧ nb ≤ 255 := by rw [hnb]; have := (x.getD j 0 ^^^ b).toNat_lt; omega
  have T7 : (X.setCell ⟨gu, j, none⟩ (.int .u8 nb)).heap[gb]? = some (.cells #[.slice (some ⟨g, 0, none⟩) d.1.length cl, .slice ac d.2.length cc'] 31 (0, 0)) := (Below.heap_setCell _ _ _ _ (Ne.symm hgb1)).trans hT
  have Z7 : (X.setCell ⟨gu, j, none⟩ (.int .u8 nb)).heap[w.heap.size + 1]? = some (.cells #[.slice none 0 0, .slice none 0 0] 31 (0, 0)) := (Below.heap_setCell _ _ _ _ (by show w.heap.size + 1 ≠ gu; omega)).trans Z3
  obtain ⟨e0, e1, e2, e3⟩ := row2_cells T7
  obtain ⟨i0', i1, i2, i3⟩ := row2_cells Z7
  have ZZ := hide Z7
  have CX := hide (cX.setCell (p := ⟨gu, j, none⟩) (by show w.heap.size ≤ gu; omega) (.int .u8 nb))
  have HFB := hide hFB
  replace hnb := hide hnb
  have hbd := bt_bd x j
  have hb2 : (0 : Int) ≤ (b.toNat : Int) ∧ (b.toNat : Int) ≤ 255 := by have := b.toNat_lt; omega
  clear fin hF hFB o3 b3 c3w hT Z3 cX bX A0' A1' g1 g2 b13 c1w b1 h1 h2 hA hZ bW A0 A1 hok hh hgF y0 y1 y2 y3 Z1 Z7 T7 hbx hx64 hkx hgb1
  generalize bt x j = xb at *
  generalize (b.toNat : Int) = bn at *
  subst hX hgb
  go_wp2
  refine ret_cellT rfl rfl (w.heap.size + 1) rfl _ _ _ _ (heap_set2 ZZ.out _ _) _ Try.underlying31 rfl info_stP _ rfl ?_
  rw [hR.out]
  have nB1 : w.heap.size + 1 ∉ F := fun hm => by have := HFB.out _ hm; omega
  exact ⟨_, _, rfl, ((FINO.out.set (a := ⟨w.heap.size + 1, 0, none⟩) nB1 _).set (a := ⟨w.heap.size + 1, 1, none⟩) nB1 _).own (fun b hb => by have := HFB.out b hb; omega), below_set2 CX.out (show w.heap.size ≤ w.heap.size + 1 by omega) _ _⟩
 ·have hne : (dsect d z != 0) = true := by simpa using hs0
  have hR : Hid (drot d z at' b = (([], []), dsect d z)) := by show _ = _; unfold drot; rw [if_pos hs0]
  generalize hD : dsect d z = D at *
  clear hD hs0
  go_wp2
  refine ret_cellT rfl rfl (w.heap.size + 1) rfl _ _ _ _ (heap_set2 Z1 _ _) _ Try.underlying31 rfl info_stP _ rfl ?_
  rw [hR.out]
  exact ⟨_, _, rfl, own_none _ _ _, below_set2 c1w (show w.heap.size ≤ w.heap.size + 1 by omega) _ _⟩
end Go.Proofs.Ytjjicajodjophaa
