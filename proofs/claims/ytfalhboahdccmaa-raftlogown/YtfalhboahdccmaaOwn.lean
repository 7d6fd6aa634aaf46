/-
  Octets that the call itself has made ('OwnB'), make([]byte, n), append's side goals, and the contract of transeptplain.CopyBytes. For every seat.
-/
import Derived.Laws.AppendOwnNone
import Derived.Test.YtfalhboahdccmaaBase
import Derived.Test.YtfalhboahdccmaaChecked
namespace Go.Proofs.Ytfalhboahdccmaa
open Go.RowKit
set_option linter.unusedVariables false

def enc (x : UInt8) : Value := .int .u8 x.toNat
/-- v is a slice of the octets xs that lies in memory from block B on, at the head of a block that may be written -/
def OwnB (B : Nat) (w : World) (v : Value) (xs : List UInt8) : Prop := w.ownsRow B 5 1 v xs.length (xs.map enc)

theorem OwnB.rd {B : Nat} {w : World} {v : Value} {xs : List UInt8} (h : OwnB B w v xs) : Rd w v xs := by
  rcases h with ⟨_, ⟨rfl, h0⟩ | ⟨g, cap, cur, rfl, hb, hg, hn, hm, hs, ht⟩⟩
  · have : xs = [] := List.eq_nil_of_length_eq_zero h0
    subst this
    exact ⟨none, 0, rfl, Nat.le_refl _, Nat.zero_le _, fun _ => rfl, .inl rfl⟩
  · refine ⟨_, cap, rfl, hn, hm, (fun h => by cases h), .inr ⟨g, 0, rfl, fun i hi => ?_⟩⟩
    rw [cell_of_row w g (0 + i) cur _ (0, 0) hg]
    have e : cur[0 + i]? = (cur.toList.take (xs.length * 1))[i]? := by
      rw [List.getElem?_take, if_pos (by omega)]; simp
    rw [e, ht]
    simp [enc, bt, hi]

theorem OwnB.below {B : Nat} {w w' : World} {v : Value} {xs : List UInt8} (h : OwnB B w v xs) {C : Nat} (hC : w.heap.size ≤ C) (hb : Below C w w') : OwnB B w' v xs := by
  rcases h with ⟨h1, h2 | ⟨g, cap, cur, hv, hB, hg, hr⟩⟩
  · exact ⟨h1, .inl h2⟩
  · refine ⟨h1, .inr ⟨g, cap, cur, hv, hB, ?_, hr⟩⟩
    rw [hb.block g (by have := lt_of_block hg; omega)]; exact hg

theorem OwnB.mono {B C : Nat} {w : World} {v : Value} {xs : List UInt8} (h : OwnB B w v xs) (hC : C ≤ B) : OwnB C w v xs := by
  rcases h with ⟨h1, h2 | ⟨g, cap, cur, hv, hB, hr⟩⟩
  · exact ⟨h1, .inl h2⟩
  · exact ⟨h1, .inr ⟨g, cap, cur, hv, by omega, hr⟩⟩

theorem info8 : (Try.prog.info? 5).map (fun i => (i.zero, i.size, i.bytes)) = some (some (.int .u8 0), 1, 1) := by kernel_rfl

/-- make([]byte, n) -/
theorem make_octs {n : Nat} (hn : n ≤ 281474976710656) (u : World) : (Instr.makeSlice 25 (.int .i64 (n : Int)) (.int .i64 (n : Int))).run Try.prog u =
      .ok (.slice (some ⟨u.heap.size, 0, none⟩) n n) (u.alloc (.cells (madeCells #[.int .u8 0] n) 5)) := by
  obtain ⟨i0, hi, hz0, hz1, hz2⟩ := info_parts info8
  have h := run_make (P := Try.prog) u 25 5 i0 (.int .u8 0) Try.underlying25 hi hz0 .i64 .i64 (n : Int) (n : Int) (by omega) (Int.le_refl _) (by rw [hz2]; omega) (by omega)
  simpa [hz1, Value.cells] using h

theorem own_made (w : World) (n : Nat) (h : n ≤ maxLen) : OwnB w.heap.size (w.alloc (.cells (madeCells #[.int .u8 0] n) 5)) (.slice (some ⟨w.heap.size, 0, none⟩) n n) (List.replicate n 0) := by
  have := World.ownsRow_lit (base := w.heap.size) (e := 5) (size := 1) w (madeCells #[.int .u8 0] n) n (Nat.le_refl _) h (by simp [madeCells])
  rw [toList_madeCells_one] at this
  unfold OwnB
  rw [List.length_replicate, List.map_replicate]
  exact this

theorem news_octs {w : World} {b off : Nat} {xs : List UInt8} (hc : ∀ i, i < xs.length → w.cell? ⟨b, off + i, none⟩ = some (.int .u8 (bt xs i))) :
    ∀ j u, (xs.map enc)[j]? = some u → w.cell? ((⟨b, off, none⟩ : Addr).add j) = some u := by
  intro j u hj
  have hj' : j < xs.length := by
    have := (List.getElem?_eq_some_iff.1 hj).1
    simpa using this
  have ea : (⟨b, off, none⟩ : Addr).add j = ⟨b, off + j, none⟩ := by
    by_cases h0 : j = 0
    · subst h0; simp [Addr.add]
    · simp [Addr.add, h0]
  rw [ea, hc j hj', ← hj]
  simp [bt, enc, hj']
theorem enc_one (xs : List UInt8) : ∀ u ∈ xs.map enc, u.oneCell' = true := by
  intro u hu
  obtain ⟨x, _, rfl⟩ := List.mem_map.1 hu
  rfl

set_option maxRecDepth 100000 in
set_option maxHeartbeats 400000 in
theorem copy_any (w : World) (v : Value) (xs : List UInt8) (h : Rd w v xs) (hm : xs.length ≤ 140737488355328) :
    Calls Try.prog 26 #[v] w fun e w' => ∃ v', e = .returned v' ∧ OwnB w.heap.size w' v' xs ∧ Below w.heap.size w w' := by
  obtain ⟨a, c, rfl, l1, m1, n1, r1⟩ := h
  obtain ⟨i0, hi, hz0, hz1, hz2⟩ := info_parts info8
  cases a with
  | none =>
    have : xs = [] := by
      rcases r1 with r1 | ⟨b, off, h, _⟩
      · exact r1
      · cases h
    subst this
    obtain rfl : c = 0 := n1 rfl
    go_enter Try.func26, Try.ntmps26
    go_wp2_with (at_builtin; refine wpList_append_own_none rfl _ _ 25 rfl w.heap.size 5 i0 1 Try.underlying25 hi (.slice none 0 0) 0 [] rfl (World.ownsRow_nil _ _ _ _) rfl ?_)
    go_ret
    exact ⟨_, rfl, World.ownsRow_nil _ _ _ _, Below.refl _ _⟩
  | some ad =>
    have n1 : (xs.map enc).length = xs.length * 1 := by simp
    have n2 : ∀ j u, (xs.map enc)[j]? = some u → w.cell? (ad.add j) = some u := by
      rcases r1 with rfl | ⟨b, off, h, hc⟩
      · intro j u hj; simp at hj
      · obtain rfl : ad = ⟨b, off, none⟩ := by simpa using h
        exact news_octs hc
    have n3 := enc_one xs
    have n4 : 0 + xs.length ≤ maxLen := by rw [show maxLen = 9223372036854775807 from rfl]; omega
    have n5 : (0 + xs.length) * 1 ≤ 140737488355328 := by omega
    have N2 := hide n2
    clear n2 r1
    go_enter Try.func26, Try.ntmps26
    go_wp2_with (at_builtin; refine wpList_append_own _ rfl _ _ 25 rfl w.heap.size 5 i0 (.int .u8 0) 1 1 Try.underlying25 hi hz0 hz1 hz2 rfl (by decide) (.slice none 0 0) 0 [] rfl (World.ownsRow_nil _ _ _ _) ad xs.length c (xs.map enc) rfl n1 N2.out n3 n4 n5 (Nat.le_refl _) ?_; intro v1 w3 hown1 hgrow1 hnil1)
    go_ret
    refine ⟨_, rfl, ?_, (Below.refl _ _).grown hgrow1 (Nat.le_refl _) (fun k h => by cases h)⟩
    unfold OwnB
    simpa using hown1

theorem own_lit (w : World) (xs : List UInt8) (h : xs.length ≤ 1000) : OwnB w.heap.size (w.alloc (.cells (xs.map enc).toArray 5)) (.slice (some ⟨w.heap.size, 0, none⟩) xs.length xs.length) xs := by
  have := World.ownsRow_lit (base := w.heap.size) (e := 5) (size := 1) w (xs.map enc).toArray xs.length (Nat.le_refl _) (by unfold maxLen; omega) (by simp)
  simpa [OwnB] using this

theorem rd_lit (w : World) (xs : List UInt8) (cs : Array Value) (b n : Nat) (hcs : cs = (xs.map enc).toArray) (hb : b = w.heap.size) (hn : n = xs.length) (h : xs.length ≤ 1000) :
    Rd (w.alloc (.cells cs 5)) (.slice (some ⟨b, 0, none⟩) n n) xs := by
  subst hcs hb hn
  exact (own_lit w xs h).rd

end Go.Proofs.Ytfalhboahdccmaa
