/-
  The contract of transeptref01.Decimal: digit by digit it comes to the decimal digits that strconv.Itoa gives.
-/
import Derived.Lib.ItoaNum
import Derived.WalkLawsBesides
import Derived.WalkSpells
import Derived.Laws.BytesArg
import Derived.Test.YtoijklenmjllcaaDoorTurn
namespace Go.Proofs.YtoijklenmjllcaaDoor
open Go.RowKit
set_option linter.unusedVariables false

/-- what the loop has: q is left, s is told -/
def DecJ (a q : Nat) (s : List UInt8) : Prop :=
  (s = [] ∧ q = a) ∨ (s ≠ [] ∧ s.length + q ≤ a / 10 + 1 ∧ ((q = 0 ∧ s = Lib.decDigits a) ∨ (q ≠ 0 ∧ Lib.decDigits a = Lib.decDigits q ++ s)))
theorem decDigits_step (q : Nat) (h : ¬ q < 10) : Lib.decDigits q = Lib.decDigits (q / 10) ++ [UInt8.ofNat (48 + q % 10)] := by
  rw [Lib.decDigits, dif_neg h]
theorem decJ_step {a q : Nat} {s : List UInt8} (h : DecJ a q s) (hc : q ≠ 0 ∨ s = []) : DecJ a (q / 10) (UInt8.ofNat (48 + q % 10) :: s) := by
  right
  refine ⟨by simp, ?_, ?_⟩
  · rcases h with ⟨rfl, rfl⟩ | ⟨h1, h2, _⟩
    · simp; omega
    · simp only [List.length_cons]
      have : q ≠ 0 := by rcases hc with h | h; exact h; exact absurd h h1
      omega
  · have hd : Lib.decDigits a = Lib.decDigits q ++ s := by
      rcases h with ⟨rfl, rfl⟩ | ⟨h1, _, ⟨h3, _⟩ | ⟨_, h3⟩⟩
      · simp
      · rcases hc with h | h
        · exact absurd h3 h
        · exact absurd h h1
      · exact h3
    by_cases hq : q < 10
    · left
      refine ⟨Nat.div_eq_of_lt hq, ?_⟩
      rw [hd, Lib.decDigits_one hq, Nat.mod_eq_of_lt hq]
      rfl
    · right
      refine ⟨by omega, ?_⟩
      rw [hd, decDigits_step q hq, List.append_assoc]
      rfl
theorem decJ_end {a : Nat} {s : List UInt8} (h : DecJ a 0 s) (hs : s ≠ []) : s = Lib.decDigits a := by
  rcases h with ⟨h, _⟩ | ⟨_, _, ⟨_, h⟩ | ⟨h, _⟩⟩
  · exact absurd h hs
  · exact h
  · exact absurd rfl h

theorem cons_str (D : Nat) (l : List UInt8) : (⟨#[48 + UInt8.ofNat D]⟩ : ByteArray) ++ ⟨l.toArray⟩ = ⟨(UInt8.ofNat (48 + D) :: l).toArray⟩ := by
  apply ByteArray.ext
  rw [ByteArray.data_append]
  simp [UInt8.ofNat_add]

/-- 1 of the empty text, else 0 -/
def emptyN (v : Value) : Nat := match v with | .string b => if b.size = 0 then 1 else 0 | _ => 0
theorem emptyN_le (v : Value) : emptyN v ≤ 1 := by
  unfold emptyN
  split
  · split <;> omega
  · omega

set_option maxHeartbeats 1000000 in
theorem refDecimal_any (w : World) (n : Int) (h0 : -9223372036854775808 ≤ n) (h1 : n ≤ 9223372036854775807) :
    Calls Tryd.prog 12 #[.int .i64 n] w fun e w' => e = .returned (.string ⟨(Lib.itoa n).toArray⟩) ∧ Below w.heap.size w w' := by
  go_enter Tryd.func12, Tryd.ntmps12
  go_wp2
  go_loopw [3, 4] (fun s m wr => ∃ (l : List UInt8) (M : Int), s = .string ⟨l.toArray⟩ ∧ m = .int .i64 M ∧ (0 < M → 0 ≤ n) ∧ (M < 0 → n < 0) ∧ DecJ n.natAbs M.natAbs l ∧ Below w.heap.size w wr)
    (fun s m _ => 2 * (intOf m).natAbs + emptyN s)
  case atStart => exact ⟨[], n, rfl, rfl, by omega, by omega, .inl ⟨rfl, rfl⟩, Below.refl _ _⟩
  case round =>
    obtain ⟨l, M, rfl, rfl, hp, hn, hJ, hb⟩ := hrel
    have hMb : -9223372036854775808 ≤ M ∧ M ≤ 9223372036854775807 := by
      rcases hJ with ⟨_, h⟩ | ⟨_, h, _⟩ <;> omega
    by_cases hc : M ≠ 0 ∨ l = []
    · have hst := decJ_step (q := M.natAbs) hJ (by rcases hc with h | h; left; omega; right; exact h)
      obtain ⟨D, hD0⟩ : ∃ D, M.natAbs % 10 = D := ⟨_, rfl⟩
      rw [hD0] at hst
      have hD9 : D ≤ 9 := by omega
      have hconv : ∀ b : World, (convert 23 9 (.slice (some ⟨b.heap.size, 0, none⟩) 1 1)).run Tryd.prog (b.alloc (.cells #[.int .u8 (48 + (D : Int))] 5)) = .ok (.string ⟨#[UInt8.ofNat (48 + D)]⟩) (b.alloc (.cells #[.int .u8 (48 + (D : Int))] 5)) := fun b => by
        have hh : (b.alloc (.cells #[.int .u8 (48 + (D : Int))] 5)).heap[b.heap.size]? = some (.cells #[.int .u8 (48 + (D : Int))] 5) := by
          show (b.heap.push _)[b.heap.size]? = _
          simp
        have := run_convert_bytes_arg (P := Tryd.prog) (b.alloc (.cells #[.int .u8 (48 + (D : Int))] 5)) 23 5 Tryd.underlying23 Tryd.underlying5 b.heap.size 0 1 1 [48 + (D : Int)] rfl (fun i hi => by
          obtain rfl : i = 0 := by omega
          unfold World.cell?
          simp only [Nat.add_zero, hh]
          rfl) 9 Tryd.underlying9
        rw [this]
        congr 2
      have hl : l.length ≤ 1000000000000000000 := by
        rcases hJ with ⟨rfl, _⟩ | ⟨_, h, _⟩
        · simp
        · omega
      have HB := hide hb
      clear hb
      rcases Int.lt_or_le M 0 with hneg | hpos
      · obtain ⟨q, hq⟩ : ∃ q, M.natAbs = q := ⟨_, rfl⟩
        rw [hq] at hst hD0 hJ
        have hMq : M = -(q : Int) := by omega
        have ht : M.tmod 10 = -(D : Int) := by rw [hMq, Int.neg_tmod, Int.tmod_eq_emod_of_nonneg (by omega)]; omega
        obtain ⟨R, hR⟩ : ∃ R, M.tdiv 10 = R := ⟨_, rfl⟩
        have hRq : R = -((q / 10 : Nat) : Int) := by rw [← hR, hMq, Int.neg_tdiv, Int.tdiv_eq_ediv_of_nonneg (by omega)]; omega
        have hRa : R.natAbs = q / 10 := by omega
        rw [← hRa] at hst
        have hne : (M != 0) = true := by simp; omega
        have HST := hide hst
        have HQ := hide hMq
        have HR := hide hRq
        have HA := hide hq
        clear hst hJ hc hMq hRq hRa hD0 hq
        by_cases hD : D = 0
        · subst hD
          have hc0 : ∀ b : World, (convert 23 9 (.slice (some ⟨b.heap.size, 0, none⟩) 1 1)).run Tryd.prog (b.alloc (.cells #[.int .u8 48] 5)) = .ok (.string ⟨#[48]⟩) (b.alloc (.cells #[.int .u8 48] 5)) := hconv
          have ht' : M.tmod 10 = 0 := ht
          clear hconv ht
          go_wp2
          have hw : wrap64 R = R := IntWalk.wrap64_in R (by have := HR.out; have := HA.out; omega)
          go_roundw
          case rel => exact ⟨UInt8.ofNat (48 + 0) :: l, R, congrArg Value.string (cons_str 0 l), by rw [hw], by have := HR.out; omega, by omega, HST.out, HB.out.alloc HB.out.size _⟩
          case measure =>
            have e1 := emptyN_le (Value.string ({ data := #[48] } ++ { data := l.toArray }))
            simp only [intOf, hw]
            have := HR.out; have := HQ.out
            omega
        · have hdd : decide (-(D : Int) < 0) = true := by simp; omega
          go_wp2
          have hw : wrap64 R = R := IntWalk.wrap64_in R (by have := HR.out; have := HA.out; omega)
          go_roundw
          case rel => exact ⟨UInt8.ofNat (48 + D) :: l, R, congrArg Value.string (cons_str D l), by rw [hw], by have := HR.out; omega, by omega, HST.out, HB.out.alloc HB.out.size _⟩
          case measure =>
            have e1 := emptyN_le (Value.string ({ data := #[48 + UInt8.ofNat D] } ++ { data := l.toArray }))
            simp only [intOf, hw]
            have := HR.out; have := HQ.out
            omega
      · obtain ⟨q, rfl⟩ := Int.eq_ofNat_of_zero_le hpos
        simp only [Int.natAbs_natCast] at hst hD0 hJ
        have hDe : (q : Int) % 10 = (D : Int) := by omega
        have hdd : decide ((D : Int) < 0) = false := by simp
        have hst' : DecJ n.natAbs ((q : Int) / 10).natAbs (UInt8.ofNat (48 + D) :: l) := by
          rw [show ((q : Int) / 10).natAbs = q / 10 from by omega]; exact hst
        have HST := hide hst'
        by_cases hq : q = 0
        · subst hq
          obtain rfl : l = [] := by rcases hc with h | h; exact absurd rfl h; exact h
          obtain rfl : D = 0 := by omega
          have hc0 : ∀ b : World, (convert 23 9 (.slice (some ⟨b.heap.size, 0, none⟩) 1 1)).run Tryd.prog (b.alloc (.cells #[.int .u8 48] 5)) = .ok (.string ⟨#[48]⟩) (b.alloc (.cells #[.int .u8 48] 5)) := hconv
          clear hconv hst hst'
          go_wp2
          go_roundw
          case rel => exact ⟨[48], 0, rfl, rfl, by omega, by omega, HST.out, HB.out.alloc HB.out.size _⟩
          case measure => exact Nat.lt_of_sub_pos (by decide)
        · have hne : ((q : Int) != 0) = true := by simp; omega
          clear hst hst' hJ hc
          go_wp2
          go_roundw
          case rel => exact ⟨UInt8.ofNat (48 + D) :: l, _, congrArg Value.string (cons_str D l), rfl, by omega, by omega, HST.out, HB.out.alloc HB.out.size _⟩
          case measure =>
            have e1 := emptyN_le (Value.string ({ data := #[48 + UInt8.ofNat D] } ++ { data := l.toArray }))
            simp only [intOf]
            omega
    · have hM0 : M = 0 := by omega
      subst hM0
      have hlne : l ≠ [] := fun h => hc (.inr h)
      have he := decJ_end hJ hlne
      have hle : l.length ≤ 1000000000000000000 := by
        rcases hJ with ⟨h, _⟩ | ⟨_, h, _⟩
        · exact absurd h hlne
        · omega
      have hemp : l.isEmpty = false := by
        cases l with
        | nil => exact absurd rfl hlne
        | cons x r => rfl
      have HE := hide he
      clear he hJ hc
      have HLN := hide hlne
      clear hlne
      by_cases hn0 : n < 0
      · go_wp2
        go_ret
        refine ⟨?_, hb⟩
        have e1 : (⟨#[45]⟩ : ByteArray) ++ ⟨l.toArray⟩ = ⟨(Lib.itoa n).toArray⟩ := by
          apply ByteArray.ext
          rw [ByteArray.data_append]
          unfold Lib.itoa
          rw [if_pos hn0, ← HE.out]
          simp
        exact congrArg (fun b => Ending.returned (Value.string b)) e1
      · go_wp2
        go_ret
        refine ⟨?_, hb⟩
        have e1 : l = Lib.itoa n := by
          unfold Lib.itoa
          rw [if_neg (by omega), HE.out, show n.toNat = n.natAbs from by omega]
        exact congrArg (fun b : List UInt8 => Ending.returned (Value.string ⟨b.toArray⟩)) e1

end Go.Proofs.YtoijklenmjllcaaDoor
