/-
  A page on a disk of its own: written, flushed, crashed, one octet rotten. Plain: nothing of the program is named.
-/
import Derived.Test.YtliileemelcllaaPgMath
namespace Go.Proofs.Ytliileemelcllaa
set_option linter.unusedVariables false

def z64s (n : Nat) : List (List UInt8) := List.replicate n (List.replicate 64 0)
theorem dnew_yes {n : Nat} (h : 1 ≤ n) (h2 : n ≤ 1024) : dnew (n : Int) = ((z64s n, []), 0) := by
  unfold dnew; rw [if_neg (by omega), Int.toNat_natCast]; rfl
theorem dok_new {n : Nat} (h : 1 ≤ n) (h2 : n ≤ 1024) : DOk (z64s n, []) := by
  refine ⟨by simp [z64s]; omega, by simp [z64s]; omega, by simp, ?_, fun y hy => nomatch hy⟩
  intro x hx
  rw [(List.mem_replicate.1 hx).2]; simp
theorem z64s_len (n : Nat) : (z64s n).length = n := by simp [z64s]
theorem lands4 (f : Nat → Nat) (a0 a1 a2 a3 : List UInt8) (B : List UInt8) : lands f [a0, a1, a2, a3] (pws 0 B 4) 4 = [over a0 ((psec B 0).take (f 0)), over a1 ((psec B 1).take (f 1)), over a2 ((psec B 2).take (f 2)), over a3 ((psec B 3).take (f 3))] := by
  have e : pws 0 B 4 = [(0, psec B 0), (1, psec B 1), (2, psec B 2), (3, psec B 3)] := rfl
  rw [e, lands_succ (k := 3) (y := (3, psec B 3)) rfl, lands_succ (k := 2) (y := (2, psec B 2)) rfl, lands_succ (k := 1) (y := (1, psec B 1)) rfl, lands_succ (k := 0) (y := (0, psec B 0)) rfl]
  rfl
theorem dok_four {a0 a1 a2 a3 : List UInt8} (h0 : a0.length = 64) (h1 : a1.length = 64) (h2 : a2.length = 64) (h3 : a3.length = 64) : DOk ([a0, a1, a2, a3], []) := by
  refine ⟨by simp, by simp, by simp, ?_, fun y hy => nomatch hy⟩
  intro x hx
  simp only [List.mem_cons, List.not_mem_nil, or_false] at hx
  rcases hx with rfl | rfl | rfl | rfl <;> assumption
theorem dok_four_w {a0 a1 a2 a3 B : List UInt8} (h0 : a0.length = 64) (h1 : a1.length = 64) (h2 : a2.length = 64) (h3 : a3.length = 64) (hB : B.length = 256) : DOk ([a0, a1, a2, a3], pws 0 B 4) := by
  have := dok_write (dok_four h0 h1 h2 h3) (at' := 0) hB (Int.le_refl _) (by simp) (by simp)
  simpa using this
theorem over_take64 {a b : List UInt8} (ha : a.length = 64) (hb : b.length = 64) : over a (b.take 64) = b := by
  rw [List.take_of_length_le (by omega)]; exact over_all (by omega)
/-- a page that was written is flushed -/
theorem flush4 {a0 a1 a2 a3 B : List UInt8} (h0 : a0.length = 64) (h1 : a1.length = 64) (h2 : a2.length = 64) (h3 : a3.length = 64) (hB : B.length = 256) : dflush ([a0, a1, a2, a3], pws 0 B 4) = (([psec B 0, psec B 1, psec B 2, psec B 3], []), 0) := by
  unfold dflush dland
  rw [if_pos (dok_four_w h0 h1 h2 h3 hB), pws_len, lands4, over_take64 h0 (psec_len hB (by decide)), over_take64 h1 (psec_len hB (by decide)), over_take64 h2 (psec_len hB (by decide)), over_take64 h3 (psec_len hB (by decide))]
/-- a page that was written: a crash -/
theorem crash4 {a0 a1 a2 a3 B : List UInt8} (h0 : a0.length = 64) (h1 : a1.length = 64) (h2 : a2.length = 64) (h3 : a3.length = 64) (hB : B.length = 256) (keep : List Bool) (torn cut : Int) :
    ∃ t0 t1 t2 t3, dcrash ([a0, a1, a2, a3], pws 0 B 4) keep torn cut = (([t0, t1, t2, t3], []), 0) ∧ t0.length = 64 ∧ t1.length = 64 ∧ t2.length = 64 ∧ t3.length = 64 ∧
      ((∀ i : Nat, i < 4 → crashF keep torn cut i = 64) → t0 ++ t1 ++ t2 ++ t3 = B) := by
  refine ⟨over a0 ((psec B 0).take (crashF keep torn cut 0)), over a1 ((psec B 1).take (crashF keep torn cut 1)), over a2 ((psec B 2).take (crashF keep torn cut 2)), over a3 ((psec B 3).take (crashF keep torn cut 3)), ?_, by rw [over_length, h0], by rw [over_length, h1], by rw [over_length, h2], by rw [over_length, h3], fun h => ?_⟩
  · unfold dcrash dland
    rw [if_pos (dok_four_w h0 h1 h2 h3 hB), pws_len, lands4]
  · rw [h 0 (by decide), h 1 (by decide), h 2 (by decide), h 3 (by decide), over_take64 h0 (psec_len hB (by decide)), over_take64 h1 (psec_len hB (by decide)), over_take64 h2 (psec_len hB (by decide)), over_take64 h3 (psec_len hB (by decide)), psec_all hB]
theorem pgot4 {a0 a1 a2 a3 : List UInt8} (h0 : a0.length = 64) (h1 : a1.length = 64) (h2 : a2.length = 64) (h3 : a3.length = 64) : pgot ([a0, a1, a2, a3], []) 0 4 = a0 ++ a1 ++ a2 ++ a3 := by
  have ok := dok_four h0 h1 h2 h3
  show ([] ++ (dget _ (0 + (0 : Nat))).1 ++ (dget _ (0 + (1 : Nat))).1 ++ (dget _ (0 + (2 : Nat))).1 ++ (dget _ (0 + (3 : Nat))).1) = _
  rw [dget_at ok (by decide) (by simp), dget_at ok (by decide) (by simp), dget_at ok (by decide) (by simp), dget_at ok (by decide) (by simp)]
  rfl
theorem pgsect4 {a0 a1 a2 a3 : List UInt8} (h0 : a0.length = 64) (h1 : a1.length = 64) (h2 : a2.length = 64) (h3 : a3.length = 64) : pgsect ([a0, a1, a2, a3], []) 0 = 0 := pgsect_0.2 ⟨dok_four h0 h1 h2 h3, Int.le_refl _, by simp⟩
/-- what is read: data, or nothing at all -/
theorem pgread_either {d : Dsk} {at' id : Int} (h : pgsect d at' = 0) : (pgread d at' id).2 = 0 ∨ pgread d at' id = ([], 21) := by
  unfold pgread
  rw [if_neg (fun k => k h)]
  by_cases h2 : (pgdec (pgot d at' 4)).2.2 ≠ 0 ∨ (pgdec (pgot d at' 4)).1 ≠ id
  · rw [if_pos h2]; exact .inr rfl
  · rw [if_neg h2]; exact .inl rfl
theorem pgread4 {a0 a1 a2 a3 : List UInt8} (h0 : a0.length = 64) (h1 : a1.length = 64) (h2 : a2.length = 64) (h3 : a3.length = 64) {id : Nat} {x : List UInt8} (hi : id ≤ 2147483647) (hx : x.length ≤ 244) (he : a0 ++ a1 ++ a2 ++ a3 = pgencO id x) : pgread ([a0, a1, a2, a3], []) 0 id = (x, 0) := by
  unfold pgread
  rw [if_neg (fun k => k (pgsect4 h0 h1 h2 h3)), pgot4 h0 h1 h2 h3, he, pgdec_enc hi hx]
  dsimp only
  rw [if_neg]
  rintro (k | k)
  · exact k rfl
  · exact k rfl
theorem fx_left (a b : List UInt8) (k : Nat) (c : UInt8) (h : k < a.length) : fx (a ++ b) k c = fx a k c ++ b := by
  unfold fx
  rw [List.set_append_left _ _ h]
  congr 3
  simp [List.getD_eq_getElem?_getD, List.getElem?_append_left h]
theorem fx_right (a b : List UInt8) (k : Nat) (c : UInt8) (h : a.length ≤ k) : fx (a ++ b) k c = a ++ fx b (k - a.length) c := by
  unfold fx
  rw [List.set_append_right _ _ h]
  congr 3
  simp [List.getD_eq_getElem?_getD, List.getElem?_append_right h]
/-- P7.5 on a disk: one octet of a page rots -/
theorem rot4 {B : List UInt8} (hB : B.length = 256) {p : Nat} (hp : p < 256) (c : UInt8) : ∃ t0 t1 t2 t3, drot ([psec B 0, psec B 1, psec B 2, psec B 3], []) ((p / 64 : Nat) : Int) ((p % 64 : Nat) : Int) c = (([t0, t1, t2, t3], []), 0) ∧ t0.length = 64 ∧ t1.length = 64 ∧ t2.length = 64 ∧ t3.length = 64 ∧ t0 ++ t1 ++ t2 ++ t3 = fx B p c := by
  have l0 := psec_len hB (i := 0) (by decide)
  have l1 := psec_len hB (i := 1) (by decide)
  have l2 := psec_len hB (i := 2) (by decide)
  have l3 := psec_len hB (i := 3) (by decide)
  have ok := dok_four l0 l1 l2 l3
  have hs : dsect ([psec B 0, psec B 1, psec B 2, psec B 3], []) ((p / 64 : Nat) : Int) = 0 := dsect_zero.2 ⟨ok, by unfold dhas; simp only [List.length_cons, List.length_nil]; omega⟩
  have hD : drot ([psec B 0, psec B 1, psec B 2, psec B 3], []) ((p / 64 : Nat) : Int) ((p % 64 : Nat) : Int) c = (([psec B 0, psec B 1, psec B 2, psec B 3].set (p / 64) (fx ([psec B 0, psec B 1, psec B 2, psec B 3].getD (p / 64) []) (p % 64) c), []), 0) := by
    unfold drot
    rw [if_neg (fun h => h hs), if_neg (by omega)]
    simp only [Int.toNat_natCast]
    rfl
  rw [hD]
  have hall := psec_all hB
  have hk : p / 64 = 0 ∨ p / 64 = 1 ∨ p / 64 = 2 ∨ p / 64 = 3 := by omega
  rcases hk with h | h | h | h
  · rw [h]
    refine ⟨fx (psec B 0) (p % 64) c, psec B 1, psec B 2, psec B 3, rfl, by rw [fx_len, l0], l1, l2, l3, ?_⟩
    conv => rhs; rw [← hall]
    rw [fx_left _ _ _ _ (by simp only [List.length_append]; omega), fx_left _ _ _ _ (by simp only [List.length_append]; omega), fx_left _ _ _ _ (by omega), show p % 64 = p by omega]
  · rw [h]
    refine ⟨psec B 0, fx (psec B 1) (p % 64) c, psec B 2, psec B 3, rfl, l0, by rw [fx_len, l1], l2, l3, ?_⟩
    conv => rhs; rw [← hall]
    rw [fx_left _ _ _ _ (by simp only [List.length_append]; omega), fx_left _ _ _ _ (by simp only [List.length_append]; omega), fx_right _ _ _ _ (by omega), l0, show p % 64 = p - 64 by omega]
  · rw [h]
    refine ⟨psec B 0, psec B 1, fx (psec B 2) (p % 64) c, psec B 3, rfl, l0, l1, by rw [fx_len, l2], l3, ?_⟩
    conv => rhs; rw [← hall]
    rw [fx_left _ _ _ _ (by simp only [List.length_append]; omega), fx_right _ _ _ _ (by simp only [List.length_append]; omega), List.length_append, l0, l1, show p % 64 = p - (64 + 64) by omega]
  · rw [h]
    refine ⟨psec B 0, psec B 1, psec B 2, fx (psec B 3) (p % 64) c, rfl, l0, l1, l2, by rw [fx_len, l3], ?_⟩
    conv => rhs; rw [← hall]
    rw [fx_right _ _ _ _ (by simp only [List.length_append]; omega), List.length_append, List.length_append, l0, l1, l2, show p % 64 = p - (64 + 64 + 64) by omega]
theorem pgread_rot {B : List UInt8} {id : Nat} {x : List UInt8} (hx : x.length ≤ 244) (hB : B = pgencO id x) {p : Nat} (hp : p < 256) {c : UInt8} (hc : c ≠ 0) (other : Int) {t0 t1 t2 t3 : List UInt8} (h0 : t0.length = 64) (h1 : t1.length = 64) (h2 : t2.length = 64) (h3 : t3.length = 64) (he : t0 ++ t1 ++ t2 ++ t3 = fx B p c) : pgread ([t0, t1, t2, t3], []) 0 other = ([], 21) := by
  unfold pgread
  rw [if_neg (fun k => k (pgsect4 h0 h1 h2 h3)), pgot4 h0 h1 h2 h3, he, hB, if_pos (.inl (pgdec_turned id hx hp hc))]

end Go.Proofs.Ytliileemelcllaa
