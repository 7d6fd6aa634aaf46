/-
  The page's Find in nodes.
-/
import Derived.Test.YtjkpldmmijfebaaNCheckR
namespace Go.Proofs.Ytjkpldmmijfebaa
open Go.RowKit
set_option linter.unusedVariables false
set_option linter.unusedSimpArgs false

def nfind (n : Nd) (key : Str) : Int := if ncheck n = 0 then nfnd n.leaf key n.keys else 0
def nhas (n : Nd) (key : Str) : Bool := if ncheck n = 0 then nis key n.keys else false
theorem nfnd_take (leaf : Bool) (key : Str) {l : List Str} {k : Nat} {x : Str} (hx : l[k]? = some x) : nfnd leaf key (l.take (k + 1)) = nfnd leaf key (l.take k) + if slt x key || (!leaf && x == key) then 1 else 0 := by
  have : l.take (k + 1) = l.take k ++ [x] := by rw [List.take_add_one, hx]; rfl
  rw [this, nfnd_app]
  simp only [nfnd]
  omega
theorem nis_take (key : Str) {l : List Str} {k : Nat} {x : Str} (hx : l[k]? = some x) : nis key (l.take (k + 1)) = (nis key (l.take k) || x == key) := by
  have : l.take (k + 1) = l.take k ++ [x] := by rw [List.take_add_one, hx]; rfl
  rw [this]
  simp [nis]
theorem ret_ibi {a b : Int} {x y : Bool} {c d : Int} (h1 : a = b) (h2 : x = y) (h3 : c = d) : Ending.returned (.tuple #[.int .i64 a, .bool x, .int .i64 c]) = Ending.returned (.tuple #[.int .i64 b, .bool y, .int .i64 d]) := by rw [h1, h2, h3]

set_option maxRecDepth 100000 in
set_option maxHeartbeats 4000000 in
theorem rfind9_any (w : World) (kv vv dv : Value) (n : Nd) (key : Str) (h : RdN w kv vv dv n) (hf : nfit n) :
    Calls Try.prog 10 #[nv n kv vv dv, st key] w fun e w' => e = .returned (.tuple #[.int .i64 (nfind n key), .bool (nhas n key), .int .i64 (ncheck n)]) ∧ Below w.heap.size w w' := by
  have lk := h.keys.bd
  obtain ⟨a, c, a', c', a'', c'', rfl, rfl, rfl⟩ := h.slices
  obtain ⟨leaf, keys, vals, kids⟩ := n
  dsimp only [nv] at *
  obtain ⟨W, hW, D, bW, sW⟩ := boxedN w #[.bool leaf, .slice a keys.length c, .slice a' vals.length c', .slice a'' kids.length c''] 25
  replace h := h.to bW
  have KC := hide (rcheck9_any W _ _ _ _ h hf)
  dsimp only [nv] at KC
  have HB := hide bW
  obtain ⟨D4, _⟩ := cells4 D
  have HI : Hid (NInv w W _ _ _ _ W) := hide ⟨Below.refl _ _, D4, h⟩
  obtain ⟨D0, D1, D2, D3⟩ := D4
  clear h bW D
  rw [hW] at D0 D1 D2 D3
  generalize hN : (⟨leaf, keys, vals, kids⟩ : Nd) = N at *
  have N1 : Hid (N.keys = keys ∧ N.vals = vals ∧ N.kids = kids ∧ N.leaf = leaf) := by subst hN; exact ⟨rfl, rfl, rfl, rfl⟩
  replace hN := hide hN
  replace hf := hide hf
  have hE : Hid (∀ w', Below W.heap.size W w' → Below w.heap.size w w') := fun w' b => HB.out.trans (b.mono HB.out.size)
  go_enter Try.func10, Try.ntmps10
  go_wp2_with fail
  rw [← hW]
  replace hW := hide hW
  clear D0 D1 D2 D3
  refine KC.out.mono ?_
  rintro e w1 ⟨rfl, b1⟩
  have hI := hide (HI.out.to b1)
  replace b1 := hide b1
  by_cases hz : ncheck N = 0
  · have hr : Hid (nfind N key = nfnd leaf key keys ∧ nhas N key = nis key keys ∧ ncheck N = 0) := by
      show _ ∧ _ ∧ _
      unfold nfind nhas
      rw [if_pos hz, if_pos hz, N1.out.1, N1.out.2.2.2]
      exact ⟨rfl, rfl, hz⟩
    rw [hz]
    have hz' := hide hz
    clear hz
    go_wp2
    go_loopw [8, 9, 10] (fun p q b wr => ∃ k : Nat, k ≤ keys.length ∧ b = .int .i64 k ∧ p = .int .i64 (nfnd leaf key (keys.take k)) ∧ q = .bool (nis key (keys.take k)) ∧ Hid (NInv w W N (.slice a keys.length c) (.slice a' vals.length c') (.slice a'' kids.length c'') wr)) (fun _ _ b _ => keys.length - (intOf b).toNat)
    case atStart => exact ⟨0, Nat.zero_le _, rfl, rfl, rfl, hI⟩
    case round =>
      obtain ⟨k, hk, rfl, rfl, rfl, hb⟩ := hrel
      obtain ⟨D0, D1, D2, D3⟩ := hb.out.2.1
      rw [N1.out.2.2.2] at D0
      have hE' : Hid (Below w.heap.size w wr) := hE.out _ hb.out.1
      by_cases hlt : k < keys.length
      · have hq : (k : Int) < (keys.length : Int) := by omega
        obtain ⟨x, hx⟩ := some_el keys hlt
        obtain ⟨b, off, rfl, hc1⟩ := hb.out.2.2.keys.strAt (N1.out.1 ▸ hx)
        have bd := nfnd_bd leaf key (keys.take k)
        rw [List.length_take] at bd
        have t1 := hide (nfnd_take leaf key hx)
        have t2 := hide (nis_take key hx)
        replace hx := hide hx
        generalize nfnd leaf key (keys.take k) = Z at *
        generalize nis key (keys.take k) = I at *
        cases e1 : Op.bytesLess x key <;> cases e2 : (x == key) <;> cases leaf <;> cases I
        all_goals
          have t3 := t1.out
          have t4 := t2.out
          rw [e2] at t4
          simp only [slt, e1, e2, Bool.not_true, Bool.not_false, Bool.true_and, Bool.false_and, Bool.or_true, Bool.or_false, Bool.true_or, Bool.false_or, if_true, if_false, Bool.false_eq_true] at t3 t4
          replace t3 := hide t3
          replace t4 := hide t4
          go_wp2
          go_roundw
          case rel => exact ⟨k + 1, by omega, by go_num, by rw [t3.out]; try simp, by rw [t4.out], hb⟩
          case measure => simp [intOf]; omega
      · have hq : ¬ (k : Int) < (keys.length : Int) := by omega
        obtain rfl : k = keys.length := by omega
        rw [List.take_length]
        generalize nfnd leaf key keys = Z at *
        generalize nis key keys = I at *
        go_wp2
        go_ret3
        exact ⟨ret_ibi hr.out.1.symm hr.out.2.1.symm hr.out.2.2.symm, hE'.out⟩
  · have hr : Hid (nfind N key = 0 ∧ nhas N key = false) := by
      show _ ∧ _
      unfold nfind nhas
      rw [if_neg hz, if_neg hz]
      exact ⟨rfl, rfl⟩
    obtain ⟨Z, hZ⟩ : ∃ Z, Z = ncheck N := ⟨_, rfl⟩
    rw [← hZ] at hz ⊢
    replace hZ := hide hZ
    go_wp2
    go_ret3
    exact ⟨ret_ibi hr.out.1.symm hr.out.2.symm hZ.out, hE.out _ b1.out⟩

end Go.Proofs.Ytjkpldmmijfebaa
