/- Several texts in one: Base Own Nums Places Put Get. -/
import Derived.WalkKit
import Derived.Deep.QuietTactic
import Derived.BigQuiet
import Derived.Laws.AppendOwnNone
import Derived.Test.YtdjjegaodgocmaaChecked
import Derived.RangeFuncNested
import Derived.RangeFuncBound
import Derived.RangeFuncCalls
import Derived.RangeFuncLeaves
import Derived.Shelf.Abstract
import Derived.Shelf.RegionOpen
import Derived.OwnWalkIn
import Derived.TacticsInMore
import Derived.LoopNIn
import Derived.LoopIn
import Derived.RangeFuncBox
import Derived.BigRegionIn
set_option linter.unusedVariables false
set_option linter.unusedSimpArgs false
namespace Go.Proofs.Ytdjjegaodgocmaa
open Go.RowKit
theorem hide {p : Prop} (h : p) : Hid p := h
def bt (xs : List UInt8) (i : Nat) : Int := ((xs.getD i 0).toNat : Int)
theorem bt_bd (xs : List UInt8) (i : Nat) : 0 ≤ bt xs i ∧ bt xs i ≤ 255 := by
 unfold bt; have := (xs.getD i 0).toNat_lt; omega
theorem bt_inj {xs ys : List UInt8} {i : Nat} (h : bt xs i = bt ys i) : xs.getD i 0 = ys.getD i 0 := by
 unfold bt at h; exact UInt8.toNat_inj.1 (by omega)
def Rd (w : World) (v : Value) (xs : List UInt8) : Prop :=
 ∃ ao cap, v = .slice ao xs.length cap ∧ xs.length ≤ cap ∧ cap ≤ maxLen ∧ (ao = none → cap = 0) ∧
  (xs = [] ∨ ∃ b off, ao = some ⟨b, off, none⟩ ∧ ∀ i, i < xs.length → w.cell? ⟨b, off + i, none⟩ = some (.int .u8 (bt xs i)))
theorem cell_lt {w : World} {b off : Nat} {v : Value} (h : w.cell? ⟨b, off, none⟩ = some v) : b < w.heap.size := by
 by_cases hb : b < w.heap.size
 ·exact hb
 ·have e : w.heap[b]? = none := by simp; omega
  simp [World.cell?, e] at h
theorem Rd.below {w w' : World} {v : Value} {xs : List UInt8} (h : Rd w v xs) {B : Nat} (hB : w.heap.size ≤ B) (hb : Below B w w') : Rd w' v xs := by
 obtain ⟨ao, cap, rfl, h1, h2, h3, h4⟩ := h
 refine ⟨ao, cap, rfl, h1, h2, h3, ?_⟩
 rcases h4 with h4 | ⟨b, off, rfl, hc⟩
 ·exact .inl h4
 ·refine .inr ⟨b, off, rfl, fun i hi => ?_⟩
  have := hc i hi
  rw [hb.cell (p := ⟨b, off + i, none⟩) (by have := cell_lt this; show b < B; omega)]
  exact this
theorem Rd.to {w w' : World} {v : Value} {xs : List UInt8} (h : Rd w v xs) (hb : Below w.heap.size w w') : Rd w' v xs := h.below (Nat.le_refl _) hb
theorem Rd.drewN {w : World} {v : Value} {xs : List UInt8} (h : Rd w v xs) (n : Nat) : Rd (w.drewN n) v xs := by
 obtain ⟨ao, cap, rfl, h1, h2, h3, h4⟩ := h
 exact ⟨ao, cap, rfl, h1, h2, h3, h4⟩
theorem below_drewN' (w : World) (n : Nat) (B : Nat) : Below B w (w.drewN n) := ⟨rfl, rfl, rfl, Nat.le_refl _, fun _ _ => rfl⟩
theorem Rd.slice {w : World} {v : Value} {xs : List UInt8} (h : Rd w v xs) : ∃ ao cap, v = .slice ao xs.length cap := by
 obtain ⟨ao, cap, rfl, _⟩ := h; exact ⟨_, _, rfl⟩
def sameTo (xs ys : List UInt8) (k : Nat) : Prop := ∀ i, i < k → bt xs i = bt ys i
def sameB (xs ys : List UInt8) : Bool := decide (xs = ys)
theorem sameB_eq {xs ys : List UInt8} (h : xs = ys) : sameB xs ys = true := by simp [sameB, h]
theorem sameTo_zero (xs ys : List UInt8) : sameTo xs ys 0 := fun i h => absurd h (Nat.not_lt_zero _)
theorem sameTo_succ {xs ys : List UInt8} {k : Nat} (h : sameTo xs ys k) (e : bt xs k = bt ys k) : sameTo xs ys (k + 1) := by
 intro i hi
 by_cases hk : i = k
 ·subst hk; exact e
 ·exact h i (by omega)
theorem sameB_of {xs ys : List UInt8} (hl : xs.length = ys.length) (h : sameTo xs ys xs.length) : sameB xs ys = true := by
 apply sameB_eq
 apply List.ext_getElem hl
 intro i h1 h2
 have := bt_inj (h i h1)
 simpa [h1, h2] using this
theorem sameB_no {xs ys : List UInt8} {i : Nat} (hl : xs.length = ys.length) (hi : i < xs.length) (h : bt xs i ≠ bt ys i) : sameB xs ys = false := by
 simp only [sameB, decide_eq_false_iff_not]
 rintro rfl; exact h rfl
theorem sameB_len {xs ys : List UInt8} (hl : xs.length ≠ ys.length) : sameB xs ys = false := by
 simp only [sameB, decide_eq_false_iff_not]
 rintro rfl; exact hl rfl
theorem ret_bool {a b : Bool} (h : a = b) : Ending.returned (.bool a) = .returned (.bool b) := by rw [h]
theorem ret_int {k : IntKind} {a b : Int} (h : a = b) : Ending.returned (.int k a) = .returned (.int k b) := by rw [h]
end Go.Proofs.Ytdjjegaodgocmaa

namespace Go.Proofs.Ytdjjegaodgocmaa
open Go.RowKit
def enc (x : UInt8) : Value := .int .u8 x.toNat
def OwnB (B : Nat) (w : World) (v : Value) (xs : List UInt8) : Prop := w.ownsRow B 5 1 v xs.length (xs.map enc)
theorem OwnB.rd {B : Nat} {w : World} {v : Value} {xs : List UInt8} (h : OwnB B w v xs) : Rd w v xs := by
 rcases h with ⟨_, ⟨rfl, h0⟩ | ⟨g, cap, cur, rfl, hb, hg, hn, hm, hs, ht⟩⟩
 ·have : xs = [] := List.eq_nil_of_length_eq_zero h0
  subst this
  exact ⟨none, 0, rfl, Nat.le_refl _, Nat.zero_le _, fun _ => rfl, .inl rfl⟩
 ·refine ⟨_, cap, rfl, hn, hm, (fun h => by cases h), .inr ⟨g, 0, rfl, fun i hi => ?_⟩⟩
  rw [cell_of_row w g (0 + i) cur _ (0, 0) hg]
  have e : cur[0 + i]? = (cur.toList.take (xs.length * 1))[i]? := by
   rw [List.getElem?_take, if_pos (by omega)]; simp
  rw [e, ht]
  simp [enc, bt, hi]
theorem OwnB.below {B : Nat} {w w' : World} {v : Value} {xs : List UInt8} (h : OwnB B w v xs) {C : Nat} (hC : w.heap.size ≤ C) (hb : Below C w w') : OwnB B w' v xs := by
 rcases h with ⟨h1, h2 | ⟨g, cap, cur, hv, hB, hg, hr⟩⟩
 ·exact ⟨h1, .inl h2⟩
 ·refine ⟨h1, .inr ⟨g, cap, cur, hv, hB, ?_, hr⟩⟩
  rw [hb.block g (by have := lt_of_block hg; omega)]; exact hg
theorem OwnB.mono {B C : Nat} {w : World} {v : Value} {xs : List UInt8} (h : OwnB B w v xs) (hC : C ≤ B) : OwnB C w v xs := by
 rcases h with ⟨h1, h2 | ⟨g, cap, cur, hv, hB, hr⟩⟩
 ·exact ⟨h1, .inl h2⟩
 ·exact ⟨h1, .inr ⟨g, cap, cur, hv, by omega, hr⟩⟩
theorem info8 : (Try.prog.info? 5).map (fun i => (i.zero, i.size, i.bytes)) = some (some (.int .u8 0), 1, 1) := by kernel_rfl
theorem news_octs {w : World} {b off : Nat} {xs : List UInt8} (hc : ∀ i, i < xs.length → w.cell? ⟨b, off + i, none⟩ = some (.int .u8 (bt xs i))) :
  ∀ j u, (xs.map enc)[j]? = some u → w.cell? ((⟨b, off, none⟩ : Addr).add j) = some u := by
 intro j u hj
 have hj' : j < xs.length := by
  have := (List.getElem?_eq_some_iff.1 hj).1
  simpa using this
 have ea : (⟨b, off, none⟩ : Addr).add j = ⟨b, off + j, none⟩ := by
  by_cases h0 : j = 0
  ·subst h0; simp [Addr.add]
  ·simp [Addr.add, h0]
 rw [ea, hc j hj', ← hj]
 simp [bt, enc, hj']
theorem enc_one (xs : List UInt8) : ∀ u ∈ xs.map enc, u.oneCell' = true := by
 intro u hu
 obtain ⟨x, _, rfl⟩ := List.mem_map.1 hu
 rfl
set_option maxRecDepth 100000 in
set_option maxHeartbeats 400000 in
theorem copy_any (w : World) (v : Value) (xs : List UInt8) (h : Rd w v xs) (hm : xs.length ≤ 140737488355328) :
  Calls Try.prog 8 #[v] w fun e w' => ∃ v', e = .returned v' ∧ OwnB w.heap.size w' v' xs ∧ Below w.heap.size w w' := by
 obtain ⟨a, c, rfl, l1, m1, n1, r1⟩ := h
 obtain ⟨i0, hi, hz0, hz1, hz2⟩ := info_parts info8
 cases a with
 | none =>
  have : xs = [] := by
   rcases r1 with r1 | ⟨b, off, h, _⟩
   ·exact r1
   ·cases h
  subst this
  obtain rfl : c = 0 := n1 rfl
  go_enter Try.func8, Try.ntmps8
  go_wp2_with (at_builtin; refine wpList_append_own_none rfl _ _ 25 rfl w.heap.size 5 i0 1 Try.underlying25 hi (.slice none 0 0) 0 [] rfl (World.ownsRow_nil _ _ _ _) rfl ?_)
  go_ret
  exact ⟨_, rfl, World.ownsRow_nil _ _ _ _, Below.refl _ _⟩
 | some ad =>
  have n1 : (xs.map enc).length = xs.length * 1 := by simp
  have n2 : ∀ j u, (xs.map enc)[j]? = some u → w.cell? (ad.add j) = some u := by
   rcases r1 with rfl | ⟨b, off, h, hc⟩
   ·intro j u hj; simp at hj
   ·obtain rfl : ad = ⟨b, off, none⟩ := by simpa using h
    exact news_octs hc
  have n3 := enc_one xs
  have n4 : 0 + xs.length ≤ maxLen := by rw [show maxLen = 9223372036854775807 from rfl]; omega
  have n5 : (0 + xs.length) * 1 ≤ 140737488355328 := by omega
  have N2 := hide n2
  clear n2 r1
  go_enter Try.func8, Try.ntmps8
  go_wp2_with (at_builtin; refine wpList_append_own _ rfl _ _ 25 rfl w.heap.size 5 i0 (.int .u8 0) 1 1 Try.underlying25 hi hz0 hz1 hz2 rfl (by decide) (.slice none 0 0) 0 [] rfl (World.ownsRow_nil _ _ _ _) ad xs.length c (xs.map enc) rfl n1 N2.out n3 n4 n5 (Nat.le_refl _) ?_; intro v1 w3 hown1 hgrow1 hnil1)
  go_ret
  refine ⟨_, rfl, ?_, (Below.refl _ _).grown hgrow1 (Nat.le_refl _) (fun k h => by cases h)⟩
  unfold OwnB
  simpa using hown1
theorem own_lit (w : World) (xs : List UInt8) (h : xs.length ≤ 1000) : OwnB w.heap.size (w.alloc (.cells (xs.map enc).toArray 5)) (.slice (some ⟨w.heap.size, 0, none⟩) xs.length xs.length) xs := by
 have := World.ownsRow_lit (base := w.heap.size) (e := 5) (size := 1) w (xs.map enc).toArray xs.length (Nat.le_refl _) (by unfold maxLen; omega) (by simp)
 simpa [OwnB] using this
theorem rd_lit (w : World) (xs : List UInt8) (cs : Array Value) (b n : Nat) (hcs : cs = (xs.map enc).toArray) (hb : b = w.heap.size) (hn : n = xs.length) (h : xs.length ≤ 1000) :
  Rd (w.alloc (.cells cs 5)) (.slice (some ⟨b, 0, none⟩) n n) xs := by
 subst hcs hb hn
 exact (own_lit w xs h).rd
end Go.Proofs.Ytdjjegaodgocmaa

namespace Go.Proofs.Ytdjjegaodgocmaa
open Go.RowKit
def ob (n k : Nat) : UInt8 := UInt8.ofNat (n / 2 ^ (8 * k))
def oc (n s : Nat) : List UInt8 := (List.range s).map fun j => ob n (s - 1 - j)
theorem oc_length (n s : Nat) : (oc n s).length = s := by simp [oc]
theorem enc_ob (n k : Nat) : enc (ob n k) = .int .u8 ((n : Int) / 2 ^ (8 * k) % 256) := by
 unfold enc ob
 congr 1
def numTo (xs : List UInt8) : Nat → Nat
 | 0 => 0
 | k + 1 => numTo xs k * 256 + (xs.getD k 0).toNat
def numOf (xs : List UInt8) : Nat := numTo xs xs.length
theorem numTo_lt (xs : List UInt8) (k : Nat) : numTo xs k < 2 ^ (8 * k) := by
 induction k with
 | zero => simp [numTo]
 | succ k ih =>
  have := (xs.getD k 0).toNat_lt
  simp only [numTo]
  rw [show 8 * (k + 1) = 8 * k + 8 from by omega, Nat.pow_add]
  omega
end Go.Proofs.Ytdjjegaodgocmaa

namespace Go.Proofs.Ytdjjegaodgocmaa
open Go.RowKit Go.Shelf
attribute [local go_sem] Oper.semAt_some
abbrev Pl (size : Nat) : Type := { k : Nat // k < size }
def plEncs (size : Nat) (x : Pl size) : Array Value := #[.int .i64 (x.1 : Int), .int .i64 (8 * ((size : Int) - 1 - (x.1 : Int)))]
def plTo (size k : Nat) (h : k ≤ size) : List (Pl size) := (List.finRange k).map fun i => ⟨i.1, Nat.lt_of_lt_of_le i.2 h⟩
theorem plTo_length (size k : Nat) (h : k ≤ size) : (plTo size k h).length = k := by simp [plTo]
theorem plTo_succ (size k : Nat) (h : k < size) : plTo size (k + 1) h = plTo size k (Nat.le_of_lt h) ++ [⟨k, h⟩] := by
 apply List.ext_getElem
 ·simp [plTo]
 ·intro i h1 h2
  simp only [plTo, List.length_map, List.length_finRange] at h1
  by_cases hk : i < k
  ·rw [List.getElem_append_left (by simp [plTo]; exact hk)]
   simp [plTo]
  ·obtain rfl : i = k := by omega
   rw [List.getElem_append_right (by simp [plTo])]
   simp [plTo]
def KeepsBox (Bs : Nat) (W W' : World) : Prop := W'.heap[Bs]? = W.heap[Bs]?
theorem KeepsBox.refl (Bs : Nat) (W : World) : KeepsBox Bs W W := rfl
theorem KeepsBox.trans {Bs : Nat} {A B C : World} (h : KeepsBox Bs A B) (k : KeepsBox Bs B C) : KeepsBox Bs A C := Eq.trans k h
theorem KeepsBox.boxed {Bs : Nat} {A B : World} (h : KeepsBox Bs A B) {t : TypeId} {v : Value} (k : Boxed A Bs t v) : Boxed B Bs t v := Eq.trans h k
theorem KeepsBox.put {Bs : Nat} {w : World} (hl : Bs < w.heap.size) (W : World) (l : Nat) (o o' : Obj) (h : w.heap.size ≤ l) (_ : W.heap[l]? = some o) (_ : o.isCells = false) (_ : o.isWalk = false) : KeepsBox Bs W (W.putObj l o') :=
 World.putObj_heap_other (by omega)
theorem KeepsBox.setCell {Bs b off : Nat} {W : World} (v : Value) (h : Bs ≠ b) : KeepsBox Bs W (W.setCell ⟨b, off, none⟩ v) := Below.heap_setCell _ _ _ _ h
set_option maxRecDepth 100000 in
set_option maxHeartbeats 1000000 in
theorem places1_in (F : Fence) (n : Nat) (hf : F.fn 57) (hro : F.round = none) (hn : 1 ≤ n) (l Bs size : Nat) (hs8 : size ≤ 8) (J Jx : List (Pl size) → World → Prop)
  (hY : ∀ pre x W, J pre W → pre.length < size → YieldAt F (n - 1) Try.prog l (plEncs size x) W fun e W' =>
   (e = .returned (.bool true) ∧ J (pre ++ [x]) W' ∧ KeepsBox Bs W W') ∨ (e = .returned (.bool false) ∧ Jx (pre ++ [x]) W'))
  (W : World) (hBs : Boxed W Bs 3 (.int .i64 (size : Int))) (h0 : J [] W) :
  CallsIn F n Try.prog 57 #[.func (.yield l) #[] #[], .pointer (some ⟨Bs, 0, none⟩)] W fun e W' => (∃ v, e = .returned v) ∧
   ((∃ ys, ys = plTo size size (Nat.le_refl _) ∧ J ys W') ∨ (∃ pre, True ∧ Jx pre W')) := by
 refine callsIn_of_wp Try.func57 rfl hf ?_ hro
 simp only [Try.ntmps57, List.size_toArray, List.length_cons, List.length_nil, Nat.reduceAdd, Nat.reduceSub, Array.replicate_succ, Array.replicate_zero, List.push_toArray, List.append_toArray, List.nil_append, List.cons_append]
 have hc0 := hBs.cell
 gi_wp2
 gi_loopw [5] (fun i wr => ∃ (k : Nat) (h : k ≤ size), i = .int .i64 k ∧ J (plTo size k h) wr ∧ KeepsBox Bs W wr)
  (fun i _ => size - (intOf i).toNat)
 case atStart => exact ⟨0, Nat.zero_le _, rfl, h0, KeepsBox.refl _ _⟩
 case round =>
  obtain ⟨k, hk, rfl, hJs, hnx⟩ := hrel
  have hcx : wr.cell? ⟨Bs, 0, none⟩ = some (.int .i64 (size : Int)) := (hnx.boxed hBs).cell
  by_cases hlt : k < size
  ·obtain ⟨fn, tmps, assign, body, hy, hR⟩ := hY _ ⟨k, hlt⟩ wr hJs (by rw [plTo_length]; exact hlt)
   dsimp only [plEncs] at hy
   have hq : (k : Int) < (size : Int) := by omega
   gi_wp2
   refine hR.mono ?_
   rintro e W3 (⟨rfl, hJ3, hk3⟩ | ⟨rfl, hJx3⟩)
   ·gi_wp2
    go_roundw
    case rel => exact ⟨k + 1, hlt, by simp, by rw [plTo_succ]; exact hJ3, hnx.trans hk3⟩
    case measure => simp [intOf]; omega
   ·gi_wp2
    refine bodyPost_ret (results_none rfl _ _ _) rfl ?_
    exact ⟨⟨_, rfl⟩, .inr ⟨_, trivial, hJx3⟩⟩
  ·obtain rfl : k = size := by omega
   gi_wp2
   go_end0
   exact ⟨⟨_, rfl⟩, .inl ⟨_, rfl, hJs⟩⟩
set_option maxRecDepth 100000 in
set_option maxHeartbeats 1000000 in
theorem places_in (F : Fence) (n : Nat) (hf : F.fn 53) (hro : F.round = none) (size : Int) (w : World) :
  CallsIn F n Try.prog 53 #[.int .i64 size] w fun e w' => e = .returned (.func (.func 57) #[] #[.pointer (some ⟨w.heap.size, 0, none⟩)]) ∧ w' = w.alloc (.cells #[.int .i64 size] 3) := by
 refine callsIn_of_wp Try.func53 rfl hf ?_ hro
 simp only [Try.ntmps53, List.size_toArray, List.length_cons, List.length_nil, Nat.reduceAdd, Nat.reduceSub, Array.replicate_succ, Array.replicate_zero, List.push_toArray, List.append_toArray, List.nil_append, List.cons_append]
 gi_wp2
 go_ret
 exact ⟨rfl, rfl⟩
theorem places_stops (F : Fence) (n : Nat) (hf : F.fn 57) (hro : F.round = none) (hn : 1 ≤ n) (Bs size : Nat) (hs8 : size ≤ 8) (w : World) (hc : Boxed w Bs 3 (.int .i64 (size : Int))) :
  SeqStopsK F n Try.prog 57 #[.pointer (some ⟨Bs, 0, none⟩)] (plEncs size) (KeepsBox Bs) (fun ys => ys = plTo size size (Nat.le_refl _)) (fun _ => True) size w := fun l J Jx W hW _ _ hY h0 => by
 have hc' : Boxed W Bs 3 (.int .i64 (size : Int)) := (hW.block Bs hc.lt).trans hc
 exact places1_in F n hf hro hn l Bs size hs8 J Jx hY W hc' h0
end Go.Proofs.Ytdjjegaodgocmaa

namespace Go.Proofs.Ytdjjegaodgocmaa
open Go.RowKit Go.Shelf
attribute [local go_sem] Oper.semAt_some
def putOf (n s : Nat) (pre : List (Pl s)) : List UInt8 := (List.range s).map fun j => if j ∈ pre.map (·.1) then ob n (s - 1 - j) else 0
theorem putOf_length (n s : Nat) (pre : List (Pl s)) : (putOf n s pre).length = s := by simp [putOf]
theorem putOf_nil (n s : Nat) : (putOf n s []).map enc = List.replicate s (.int .u8 0) := by
 apply List.ext_getElem
 ·simp [putOf]
 ·intro i h1 h2; simp [putOf, enc]
theorem putOf_snoc (n s : Nat) (pre : List (Pl s)) (x : Pl s) : ((putOf n s pre).map enc).set x.1 (enc (ob n (s - 1 - x.1))) = (putOf n s (pre ++ [x])).map enc := by
 rw [← List.map_set]
 congr 1
 apply List.ext_getElem
 ·simp [putOf]
 ·intro i h1 h2
  rw [List.getElem_set]
  by_cases h : x.1 = i
  ·subst h; simp [putOf]
  ·have h' : ¬ i = x.1 := fun e => h e.symm
   rw [if_neg h]
   simp [putOf, h']
theorem mem_plTo (s j : Nat) (h : j < s) : j ∈ (plTo s s (Nat.le_refl _)).map (·.1) := by
 simp [plTo]; exact ⟨⟨j, h⟩, rfl⟩
theorem putOf_all (n s : Nat) : putOf n s (plTo s s (Nat.le_refl _)) = oc n s := by
 unfold putOf oc
 apply List.map_congr_left
 intro j hj
 rw [if_pos (mem_plTo s j (List.mem_range.1 hj))]
theorem place_own {β : Type} (n₀ g e s : Nat) (f : β → List Value) : Own (fun (x : β) W => W.ownsRow n₀ e 1 (.slice (some ⟨g, 0, none⟩) s s) s (f x)) := by
 intro x X Y row hr hg hrow
 refine hr.kept hg (.inr fun e' => ?_)
 rcases hr.2 with ⟨h, _⟩ | ⟨g', cap, cur, hv, _, hgb, _⟩
 ·cases h
 ·obtain ⟨rfl, rfl⟩ : g = g' ∧ s = cap := by simpa using hv
  obtain ⟨o, ho, hc⟩ := hrow g (by simpa [Value.ownBlock] using e'.symm)
  rw [hgb] at ho; cases ho; cases hc
theorem wrap_ob (n s k : Nat) (h : k < s) : Value.int .u8 (IntKind.u8.wrap ((n : Int) / 2 ^ (8 * ((s : Int) - 1 - (k : Int))).toNat)) = enc (ob n (s - 1 - k)) := by
 rw [enc_ob, show (8 * ((s : Int) - 1 - (k : Int))).toNat = 8 * (s - 1 - k) from by omega, IntKind.wrap_u8']
theorem put_step {n s B k : Nat} (hk : k < s) {pre : List (Pl s)} {w W : World} (bn : Boxed W B 55 (.int .u64 (n : Int))) (bb : Boxed W (B + 1 + 1) 25 (.slice (some ⟨B + 1, 0, none⟩) s s))
  (hr : W.ownsRow B 5 1 (.slice (some ⟨B + 1, 0, none⟩) s s) s ((putOf n s pre).map enc)) (hB : Below B w W) :
  KeepsOthers W (W.setCell ⟨B + 1, k, none⟩ (.int .u8 (IntKind.u8.wrap ((n : Int) / 2 ^ (8 * ((s : Int) - 1 - (k : Int))).toNat)))).drew ∧
  KeepsBox (B + 1 + 1 + 1) W (W.setCell ⟨B + 1, k, none⟩ (.int .u8 (IntKind.u8.wrap ((n : Int) / 2 ^ (8 * ((s : Int) - 1 - (k : Int))).toNat)))).drew ∧
  (Boxed (W.setCell ⟨B + 1, k, none⟩ (.int .u8 (IntKind.u8.wrap ((n : Int) / 2 ^ (8 * ((s : Int) - 1 - (k : Int))).toNat)))).drew B 55 (.int .u64 (n : Int)) ∧
   Boxed (W.setCell ⟨B + 1, k, none⟩ (.int .u8 (IntKind.u8.wrap ((n : Int) / 2 ^ (8 * ((s : Int) - 1 - (k : Int))).toNat)))).drew (B + 1 + 1) 25 (.slice (some ⟨B + 1, 0, none⟩) s s) ∧
   (W.setCell ⟨B + 1, k, none⟩ (.int .u8 (IntKind.u8.wrap ((n : Int) / 2 ^ (8 * ((s : Int) - 1 - (k : Int))).toNat)))).drew.ownsRow B 5 1 (.slice (some ⟨B + 1, 0, none⟩) s s) s ((putOf n s (pre ++ [⟨k, hk⟩])).map enc)) ∧
  Below B w (W.setCell ⟨B + 1, k, none⟩ (.int .u8 (IntKind.u8.wrap ((n : Int) / 2 ^ (8 * ((s : Int) - 1 - (k : Int))).toNat)))).drew := by
 rw [wrap_ob n s k hk]
 refine ⟨(KeepsOthers.setCell W _ _).trans (KeepsOthers.drew _), KeepsBox.setCell _ (by omega), ⟨?_, ?_, ?_⟩, (hB.setCell (p := ⟨B + 1, k, none⟩) (by simp) _).drew⟩
 ·exact (Below.heap_setCell W ⟨B + 1, k, none⟩ _ B (by simp)).trans bn
 ·exact (Below.heap_setCell W ⟨B + 1, k, none⟩ _ (B + 1 + 1) (by simp)).trans bb
 ·rw [← putOf_snoc n s pre ⟨k, hk⟩]
  exact (hr.stored k (enc (ob n (s - 1 - k)))).1
set_option maxHeartbeats 2000000 in
set_option maxRecDepth 100000 in
theorem put_in (F : Fence) (m : Nat) (hro : F.round = none) (f0 : F.fn 43) (f1 : F.fn 53) (f2 : F.fn 57) (hm : 4 ≤ m) (n s : Nat) (w : World) (h1 : 1 ≤ s) (h8 : s ≤ 8) (hn : n < 2 ^ (8 * s)) (hn64 : n < 18446744073709551616) :
  CallsIn F m Try.prog 43 #[.int .u64 (n : Int), .int .i64 (s : Int)] w fun e w' => ∃ v, e = .returned (.tuple #[v, .int .i64 0]) ∧ OwnB w.heap.size w' v (oc n s) ∧ Below w.heap.size w w' := by
 have hm1 : 1 ≤ m := by omega
 obtain ⟨i0, hi, hz0, hz1, hz2⟩ := info_parts info8
 have hd1 : decide ((s : Int) < 1) = false := by simp; omega
 have hd2 : decide (8 < (s : Int)) = false := by simp; omega
 have hz : ((n : Int) / 2 ^ (8 * s) != 0) = false := by
  simp
  exact_mod_cast Nat.div_eq_of_lt hn
 have hmk : ∀ u : World, (Instr.makeSlice 25 (.int .i64 (s : Int)) (.int .i64 (s : Int))).run Try.prog u =
   .ok (.slice (some ⟨u.heap.size, 0, none⟩) s s) (u.alloc (.cells (madeCells #[.int .u8 0] s) 5)) := fun u => by
  have h := run_make (P := Try.prog) u 25 5 i0 (.int .u8 0) Try.underlying25 hi hz0 .i64 .i64 (s : Int) (s : Int) (by omega) (Int.le_refl _) (by rw [hz2]; omega) (by omega)
  simpa [hz1, Value.cells] using h
 have HN : Hid (n < 2 ^ (8 * s)) := hn
 clear hn
 refine callsIn_of_wp_marks Try.func43 rfl f0 ?_ hro
 simp only [Try.ntmps43, List.size_toArray, List.length_cons, List.length_nil, Nat.reduceAdd, Nat.reduceSub, Array.replicate_succ, Array.replicate_zero, List.push_toArray, List.append_toArray, List.nil_append, List.cons_append]
 gi_wp2_with (gi_at_call 53; refine (places_in F _ f1 hro _ _).mono ?_; rintro e w' ⟨rfl, rfl⟩)
 obtain ⟨B, hBd⟩ : ∃ B, w.heap.size = B := ⟨_, rfl⟩
 rw [hBd]
 obtain ⟨W0, hW0⟩ : ∃ W0, (((w.alloc (.cells #[.int .u64 (n : Int)] 55)).alloc (.cells (madeCells #[.int .u8 0] s) 5)).alloc (.cells #[.slice (some ⟨B + 1, 0, none⟩) s s] 25)).alloc (.cells #[.int .i64 (s : Int)] 3) = W0 := ⟨_, rfl⟩
 have hsz : W0.heap.size = B + 4 := by rw [← hW0]; simp [hBd]
 have bn : Boxed W0 B 55 (.int .u64 (n : Int)) := by
  rw [← hW0, ← hBd]; exact (((Boxed.new w _ _).alloc _).alloc _).alloc _
 have bb : Boxed W0 (B + 1 + 1) 25 (.slice (some ⟨B + 1, 0, none⟩) s s) := by
  rw [← hW0]
  have := Boxed.new ((w.alloc (.cells #[.int .u64 (n : Int)] 55)).alloc (.cells (madeCells #[.int .u8 0] s) 5)) 25 (.slice (some ⟨B + 1, 0, none⟩) s s)
  simp only [World.size_alloc, hBd] at this
  exact this.alloc _
 have bs : Boxed W0 (B + 1 + 1 + 1) 3 (.int .i64 (s : Int)) := by
  rw [← hW0]
  have := Boxed.new (((w.alloc (.cells #[.int .u64 (n : Int)] 55)).alloc (.cells (madeCells #[.int .u8 0] s) 5)).alloc (.cells #[.slice (some ⟨B + 1, 0, none⟩) s s] 25)) 3 (.int .i64 (s : Int))
  simp only [World.size_alloc, hBd] at this
  exact this
 have hrow : W0.ownsRow B 5 1 (.slice (some ⟨B + 1, 0, none⟩) s s) s ((putOf n s []).map enc) := by
  rw [putOf_nil, ← hW0, ← toList_madeCells_one]
  have := World.ownsRow_lit (base := B) (e := 5) (size := 1) (w.alloc (.cells #[.int .u64 (n : Int)] 55)) (madeCells #[.int .u8 0] s) s (by simp [hBd]) (by unfold maxLen; omega) (by simp [madeCells])
  simp only [World.size_alloc, hBd] at this
  exact (this.alloc _).alloc _
 have hB0 : Below B w W0 := by
  rw [← hW0, ← hBd]; exact ((((Below.refl _ w).alloc (Nat.le_refl _) _).alloc (by simp) _).alloc (by simp; omega) _).alloc (by simp; omega) _
 rw [hW0]
 refine wpIn_rangeFunc_ownF hro hm1 (gf := 57) (lb := #[.pointer (some ⟨B + 1 + 1 + 1, 0, none⟩)]) rfl f2 (enters_of Try.func57 (by kernel_rfl) rfl)
  (places_stops F (m - 1) f2 hro (by omega) (B + 1 + 1 + 1) s h8 W0 bs) KeepsBox.trans (KeepsBox.put (by omega)) (Below.refl _ _) (fun _ => rfl)
  (fun pre W => (Boxed W B 55 (.int .u64 (n : Int)) ∧ Boxed W (B + 1 + 1) 25 (.slice (some ⟨B + 1, 0, none⟩) s s) ∧ W.ownsRow B 5 1 (.slice (some ⟨B + 1, 0, none⟩) s s) s ((putOf n s pre).map enc)) ∧ Below B w W)
  (fun _ _ _ => False)
  (OwnFrom.and (OwnFrom.and (Own.from (boxed_own _ _ _) _) (OwnFrom.and (Own.from (boxed_own _ _ _) _) (Own.from (place_own _ _ _ _ _) _))) (ownFrom_below (by omega) (by omega)))
  (fun _ _ _ _ _ hs _ _ => hs)
  ⟨⟨bn, bb, hrow⟩, hB0⟩
  (fun x => { tmps := #[.int .u64 (n : Int), .int .i64 (s : Int), .pointer (some ⟨B, 0, none⟩), undef, .slice none 0 0, .int .i64 0, .pointer (some ⟨B + 1 + 1, 0, none⟩), .int .i64 (x.1 : Int), .int .i64 (8 * ((s : Int) - 1 - (x.1 : Int))), .int .i64 (s : Int), .bool false, .bool false, .int .i64 (s : Int), .bool false, .bool false, .int .u64 (n : Int), .int .i64 (s : Int), .int .i64 (8 * (s : Int)), .int .u64 ((n : Int) / 2 ^ (8 * s)), .bool false, .int .i64 (s : Int), .slice (some ⟨B + 1, 0, none⟩) s s, .int .i64 (s : Int), .func (.func 57) #[] #[.pointer (some ⟨B + 1 + 1 + 1, 0, none⟩)], .int .i64 (x.1 : Int), .int .i64 (8 * ((s : Int) - 1 - (x.1 : Int))), undef, undef, undef, undef, undef, undef, undef, undef], defers := [] }) ?assign ?body ?done ?stop
 case assign =>
  intro l x W K hK
  dsimp only [plEncs]
  gi_wp2
  exact hK
 case body =>
  rintro l pre ⟨k, hk⟩ W ⟨⟨bn, bb, hr⟩, hB⟩ _
  have cn := bn.cell
  have cb := bb.cell
  have hq : (k : Int) < (s : Int) := by omega
  have fz := hr.frozenAt k
  obtain ⟨u, cl⟩ : ∃ u, W.cell? ⟨B + 1, k, none⟩ = some u := by
   rw [hr.cellAt k (by omega)]
   exact ⟨_, List.getElem?_eq_getElem (by simp [putOf_length]; exact hk)⟩
  have fin := put_step hk bn bb hr hB
  have FIN := hide fin
  clear fin hmk hW0 hrow bs hB0 hi hz0 hz1 hz2 hB hr bb bn hz hd1 hd2 hro f0 f1 f2
  gi_wp2
  gi_region
  all_goals gi_wp2
  all_goals exact FIN.out
 case done =>
  rintro D ys W hD rfl ⟨⟨bn, bb, hr⟩, hB⟩ hK
  have cb := bb.cell
  gi_wp2
  refine ⟨by simp, .inl ⟨_, _, rfl, run_takeDeferred hK, ?_⟩⟩
  refine ⟨_, results_tmp2 rfl _ _ _, _, rfl, ?_, ?_⟩
  ·unfold OwnB
   rw [oc_length, hBd, ← putOf_all]
   exact ownsRow_putObj hr _ hK rfl
  ·rw [hBd]
   exact hB.trans (belowK_b (w := W0) (by omega) W D _ _ hD hK rfl rfl)
 case stop =>
  rintro D c pre W _ _ h _
  exact h.elim
theorem put_yes (n s : Nat) (w : World) (h1 : 1 ≤ s) (h8 : s ≤ 8) (hn : n < 2 ^ (8 * s)) (hn64 : n < 18446744073709551616) :
  Calls Try.prog 43 #[.int .u64 (n : Int), .int .i64 (s : Int)] w fun e w' => ∃ v, e = .returned (.tuple #[v, .int .i64 0]) ∧ OwnB w.heap.size w' v (oc n s) ∧ Below w.heap.size w w' :=
 (callsIn_wide (n := 5)).1 (put_in Fence.wide 5 rfl trivial trivial trivial (by omega) n s w h1 h8 hn hn64)
end Go.Proofs.Ytdjjegaodgocmaa

namespace Go.Proofs.Ytdjjegaodgocmaa
open Go.RowKit Go.Shelf
attribute [local go_sem] Oper.semAt_some
def getOf (xs : List UInt8) {s : Nat} (pre : List (Pl s)) : Nat := pre.foldl (fun a k => a ||| (xs.getD k.1 0).toNat * 2 ^ (8 * (s - 1 - k.1))) 0
theorem getOf_snoc (xs : List UInt8) {s : Nat} (pre : List (Pl s)) (k : Pl s) : getOf xs (pre ++ [k]) = getOf xs pre ||| (xs.getD k.1 0).toNat * 2 ^ (8 * (s - 1 - k.1)) := by
 simp [getOf]
theorem piece_lt (xs : List UInt8) {s k : Nat} (hk : k < s) : (xs.getD k 0).toNat * 2 ^ (8 * (s - 1 - k)) < 2 ^ (8 * (s - k)) := by
 have := (xs.getD k 0).toNat_lt
 rw [show s - k = (s - 1 - k) + 1 from by omega, show 8 * (s - 1 - k + 1) = 8 * (s - 1 - k) + 8 from by omega, Nat.pow_add]
 have h2 := Nat.two_pow_pos (8 * (s - 1 - k))
 rw [Nat.mul_comm (2 ^ _) (2 ^ 8)]
 exact (Nat.mul_lt_mul_right h2).2 this
theorem getOf_lt (xs : List UInt8) {s : Nat} (h8 : s ≤ 8) (pre : List (Pl s)) : getOf xs pre < 18446744073709551616 := by
 have h64 : (18446744073709551616 : Nat) = 2 ^ 64 := by decide
 rw [h64]
 unfold getOf
 have h : ∀ (l : List (Pl s)) (a : Nat), a < 2 ^ 64 → l.foldl (fun a k => a ||| (xs.getD k.1 0).toNat * 2 ^ (8 * (s - 1 - k.1))) a < 2 ^ 64 := by
  intro l
  induction l with
  | nil => intro a ha; exact ha
  | cons k r ih =>
   intro a ha
   refine ih _ (Nat.or_lt_two_pow ha ?_)
   exact Nat.lt_of_lt_of_le (piece_lt xs k.2) (Nat.pow_le_pow_right (by omega) (by omega))
 exact h pre 0 (by decide)
theorem getOf_to (xs : List UInt8) (s k : Nat) (hk : k ≤ s) : getOf xs (plTo s k hk) = numTo xs k * 2 ^ (8 * (s - k)) := by
 induction k with
 | zero => simp [getOf, plTo, numTo]
 | succ k ih =>
  rw [plTo_succ s k hk, getOf_snoc, ih (by omega)]
  simp only
  rw [nat_join (8 * (s - k)) _ _ (Nat.mul_mod_left _ _) (piece_lt xs hk)]
  simp only [numTo]
  rw [show s - k = (s - 1 - k) + 1 from by omega, show s - (k + 1) = s - 1 - k from by omega, show 8 * (s - 1 - k + 1) = 8 * (s - 1 - k) + 8 from by omega, Nat.pow_add, Nat.add_mul]
  congr 1
  rw [Nat.mul_comm (2 ^ (8 * (s - 1 - k))) (2 ^ 8), ← Nat.mul_assoc]
theorem getOf_all (xs : List UInt8) : getOf xs (plTo xs.length xs.length (Nat.le_refl _)) = numOf xs := by
 rw [getOf_to]; simp [numOf]
theorem wrap_piece (xs : List UInt8) (s k : Nat) (hk : k < s) (h8 : s ≤ 8) : IntKind.u64.wrap (IntKind.u64.wrap (bt xs k) * 2 ^ (8 * ((s : Int) - 1 - (k : Int))).toNat) = (((xs.getD k 0).toNat * 2 ^ (8 * (s - 1 - k)) : Nat) : Int) := by
 have hb := bt_bd xs k
 have hl := piece_lt xs hk
 have h64 : 2 ^ (8 * (s - k)) ≤ 2 ^ 64 := Nat.pow_le_pow_right (by omega) (by omega)
 have e64 : (2 : Nat) ^ 64 = 18446744073709551616 := by decide
 rw [e64] at h64
 rw [show (8 * ((s : Int) - 1 - (k : Int))).toNat = 8 * (s - 1 - k) from by omega, IntKind.wrap_u64, IntKind.wrap_u64, Int.emod_eq_of_lt hb.1 (by omega)]
 have e : bt xs k * 2 ^ (8 * (s - 1 - k)) = (((xs.getD k 0).toNat * 2 ^ (8 * (s - 1 - k)) : Nat) : Int) := by
  unfold bt; rw [Int.natCast_mul, Int.natCast_pow]; rfl
 rw [e]
 omega
theorem get_step {xs : List UInt8} {s B k : Nat} (hk : k < s) (h8 : s ≤ 8) {pre : List (Pl s)} {w W : World} {sv : Value} (bb : Boxed W B 25 sv) (bn : Boxed W (B + 1) 55 (.int .u64 (getOf xs pre : Nat))) (hB : Below B w W) :
  KeepsOthers W (W.setCell ⟨B + 1, 0, none⟩ (.int .u64 (bits .or .u64 (getOf xs pre : Nat) (IntKind.u64.wrap (IntKind.u64.wrap (bt xs k) * 2 ^ (8 * ((s : Int) - 1 - (k : Int))).toNat))))).drew ∧
  KeepsBox (B + 1 + 1) W (W.setCell ⟨B + 1, 0, none⟩ (.int .u64 (bits .or .u64 (getOf xs pre : Nat) (IntKind.u64.wrap (IntKind.u64.wrap (bt xs k) * 2 ^ (8 * ((s : Int) - 1 - (k : Int))).toNat))))).drew ∧
  (Boxed (W.setCell ⟨B + 1, 0, none⟩ (.int .u64 (bits .or .u64 (getOf xs pre : Nat) (IntKind.u64.wrap (IntKind.u64.wrap (bt xs k) * 2 ^ (8 * ((s : Int) - 1 - (k : Int))).toNat))))).drew B 25 sv ∧
   Boxed (W.setCell ⟨B + 1, 0, none⟩ (.int .u64 (bits .or .u64 (getOf xs pre : Nat) (IntKind.u64.wrap (IntKind.u64.wrap (bt xs k) * 2 ^ (8 * ((s : Int) - 1 - (k : Int))).toNat))))).drew (B + 1) 55 (.int .u64 (getOf xs (pre ++ [⟨k, hk⟩]) : Nat))) ∧
  Below B w (W.setCell ⟨B + 1, 0, none⟩ (.int .u64 (bits .or .u64 (getOf xs pre : Nat) (IntKind.u64.wrap (IntKind.u64.wrap (bt xs k) * 2 ^ (8 * ((s : Int) - 1 - (k : Int))).toNat))))).drew := by
 have e64 : (2 : Nat) ^ 64 = 18446744073709551616 := by decide
 have h64 : 2 ^ (8 * (s - k)) ≤ 2 ^ 64 := Nat.pow_le_pow_right (by omega) (by omega)
 rw [wrap_piece xs s k hk h8, u64_or_nat _ _ (getOf_lt xs h8 pre) (by have := piece_lt xs hk; omega), ← getOf_snoc xs pre ⟨k, hk⟩]
 refine ⟨(KeepsOthers.setCell W _ _).trans (KeepsOthers.drew _), KeepsBox.setCell _ (by omega), ⟨?_, ?_⟩, (hB.setCell (p := ⟨B + 1, 0, none⟩) (by simp) _).drew⟩
 ·exact (Below.heap_setCell W ⟨B + 1, 0, none⟩ _ B (by simp)).trans bb
 ·exact bn.set _
set_option maxHeartbeats 4000000 in
set_option maxRecDepth 100000 in
theorem get_in (F : Fence) (m : Nat) (hro : F.round = none) (f0 : F.fn 54) (f1 : F.fn 53) (f2 : F.fn 57) (hm : 4 ≤ m) (w : World) (v : Value) (xs : List UInt8) (hv : Rd w v xs) (h1 : 1 ≤ xs.length) (h8 : xs.length ≤ 8) :
  CallsIn F m Try.prog 54 #[v] w fun e w' => e = .returned (.tuple #[.int .u64 (numOf xs : Nat), .int .i64 0]) ∧ Below w.heap.size w w' := by
 have hm1 : 1 ≤ m := by omega
 obtain ⟨a, c, rfl, l1, mx, n1, r1⟩ := hv
 rw [show maxLen = 9223372036854775807 from rfl] at mx
 rcases r1 with rfl | ⟨b, off, rfl, hc⟩
 ·simp at h1
 have hbl : b < w.heap.size := cell_lt (hc 0 (by omega))
 obtain ⟨s, hs⟩ : ∃ s, xs.length = s := ⟨_, rfl⟩
 have HS := hide hs
 rw [hs] at h1 h8 l1 hc ⊢
 clear hs
 have hd1 : decide ((s : Int) < 1) = false := by simp; omega
 have hd2 : decide (8 < (s : Int)) = false := by simp; omega
 refine callsIn_of_wp_marks Try.func54 rfl f0 ?_ hro
 simp only [Try.ntmps54, List.size_toArray, List.length_cons, List.length_nil, Nat.reduceAdd, Nat.reduceSub, Array.replicate_succ, Array.replicate_zero, List.push_toArray, List.append_toArray, List.nil_append, List.cons_append]
 gi_wp2_with (gi_at_call 53; refine (places_in F _ f1 hro _ _).mono ?_; rintro e w' ⟨rfl, rfl⟩)
 obtain ⟨B, hBd⟩ : ∃ B, w.heap.size = B := ⟨_, rfl⟩
 rw [hBd]
 obtain ⟨W0, hW0⟩ : ∃ W0, ((w.alloc (.cells #[.slice (some ⟨b, off, none⟩) s c] 25)).alloc (.cells #[.int .u64 0] 55)).alloc (.cells #[.int .i64 (s : Int)] 3) = W0 := ⟨_, rfl⟩
 have hsz : W0.heap.size = B + 3 := by rw [← hW0]; simp [hBd]
 have bb : Boxed W0 B 25 (.slice (some ⟨b, off, none⟩) s c) := by
  rw [← hW0, ← hBd]; exact ((Boxed.new w _ _).alloc _).alloc _
 have bn : Boxed W0 (B + 1) 55 (.int .u64 (getOf xs (s := s) [] : Nat)) := by
  rw [← hW0]
  have := Boxed.new (w.alloc (.cells #[.slice (some ⟨b, off, none⟩) s c] 25)) 55 (.int .u64 0)
  simp only [World.size_alloc, hBd] at this
  exact this.alloc _
 have bs : Boxed W0 (B + 1 + 1) 3 (.int .i64 (s : Int)) := by
  rw [← hW0]
  have := Boxed.new ((w.alloc (.cells #[.slice (some ⟨b, off, none⟩) s c] 25)).alloc (.cells #[.int .u64 0] 55)) 3 (.int .i64 (s : Int))
  simp only [World.size_alloc, hBd] at this
  exact this
 have hB0 : Below B w W0 := by
  rw [← hW0, ← hBd]; exact (((Below.refl _ w).alloc (Nat.le_refl _) _).alloc (by simp) _).alloc (by simp; omega) _
 rw [hW0]
 refine wpIn_rangeFunc_ownF hro hm1 (gf := 57) (lb := #[.pointer (some ⟨B + 1 + 1, 0, none⟩)]) rfl f2 (enters_of Try.func57 (by kernel_rfl) rfl)
  (places_stops F (m - 1) f2 hro (by omega) (B + 1 + 1) s h8 W0 bs) KeepsBox.trans (KeepsBox.put (by omega)) (Below.refl _ _) (fun _ => rfl)
  (fun pre W => (Boxed W B 25 (.slice (some ⟨b, off, none⟩) s c) ∧ Boxed W (B + 1) 55 (.int .u64 (getOf xs pre : Nat))) ∧ Below B w W)
  (fun _ _ _ => False)
  (OwnFrom.and (OwnFrom.and (Own.from (boxed_own _ _ _) _) (Own.from (boxed_own _ _ _) _)) (ownFrom_below (by omega) (by omega)))
  (fun _ _ _ _ _ hs _ _ => hs)
  ⟨⟨bb, bn⟩, hB0⟩
  (fun x => { tmps := #[.slice (some ⟨b, off, none⟩) s c, .pointer (some ⟨B, 0, none⟩), .int .u64 0, .int .i64 0, .pointer (some ⟨B + 1, 0, none⟩), .int .i64 (x.1 : Int), .int .i64 (8 * ((s : Int) - 1 - (x.1 : Int))), .slice (some ⟨b, off, none⟩) s c, .int .i64 (s : Int), .bool false, .bool false, .slice (some ⟨b, off, none⟩) s c, .int .i64 (s : Int), .bool false, .bool false, .slice (some ⟨b, off, none⟩) s c, .int .i64 (s : Int), .func (.func 57) #[] #[.pointer (some ⟨B + 1 + 1, 0, none⟩)], .int .i64 (x.1 : Int), .int .i64 (8 * ((s : Int) - 1 - (x.1 : Int))), undef, undef, undef, undef, undef, undef, undef, undef, undef, undef], defers := [] }) ?assign ?body ?done ?stop
 case assign =>
  intro l x W K hK
  dsimp only [plEncs]
  gi_wp2
  exact hK
 case body =>
  rintro l pre ⟨k, hk⟩ W ⟨⟨bb, bn⟩, hB⟩ _
  have cb := bb.cell
  have cn := bn.cell
  have fn := bn.frozen
  have hq : (k : Int) < (s : Int) := by omega
  have cc : W.cell? ⟨b, off + k, none⟩ = some (.int .u8 (bt xs k)) := (hB.cell (p := ⟨b, off + k, none⟩) (by rw [← hBd]; exact hbl)).trans (hc k hk)
  have hbd := bt_bd xs k
  have fin := get_step hk h8 bb bn hB
  have FIN := hide fin
  clear fin hW0 bs hB0 hro f0 f1 f2 hc bb bn hB
  gi_wp2
  gi_region
  all_goals gi_wp2
  all_goals exact FIN.out
 case done =>
  rintro D ys W hD rfl ⟨⟨bb, bn⟩, hB⟩ hK
  have cn := bn.cell
  gi_wp2
  refine ⟨by simp, .inl ⟨_, _, rfl, run_takeDeferred hK, ?_⟩⟩
  refine ⟨_, results_tmp2 rfl _ _ _, ?_, ?_⟩
  ·have e : getOf xs (plTo s s (Nat.le_refl _)) = numOf xs := by
    have := HS.out
    subst this
    exact getOf_all xs
   rw [← e]
   rfl
  ·rw [hBd]
   exact hB.trans (belowK_b (w := W0) (by omega) W D _ _ hD hK rfl rfl)
 case stop =>
  rintro D c pre W _ _ h _
  exact h.elim
theorem get_yes (w : World) (v : Value) (xs : List UInt8) (hv : Rd w v xs) (h1 : 1 ≤ xs.length) (h8 : xs.length ≤ 8) :
  Calls Try.prog 54 #[v] w fun e w' => e = .returned (.tuple #[.int .u64 (numOf xs : Nat), .int .i64 0]) ∧ Below w.heap.size w w' :=
 (callsIn_wide (n := 5)).1 (get_in Fence.wide 5 rfl trivial trivial trivial (by omega) w v xs hv h1 h8)
end Go.Proofs.Ytdjjegaodgocmaa
