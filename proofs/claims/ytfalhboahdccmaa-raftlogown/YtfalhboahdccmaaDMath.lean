/-
  Disks, plainly: what may be, what each call makes of them; and how they lie in memory.
-/
import Derived.Test.YtfalhboahdccmaaShp
import Derived.Test.YtfalhboahdccmaaCpy
namespace Go.Proofs.Ytfalhboahdccmaa
open Go.RowKit
set_option linter.unusedVariables false

abbrev Wrt := Int × List UInt8
abbrev Dsk := List (List UInt8) × List Wrt
abbrev SWr : Shp Wrt := (Shp.int .i64).pair Shp.octs
abbrev RdSec (w : World) (v : Value) (ss : List (List UInt8)) : Prop := RdS Shp.octs w v ss
abbrev RdC (w : World) (v : Value) (ws : List Wrt) : Prop := RdS SWr w v ws

theorem RdS.oct {w : World} {a : Option Addr} {n cap : Nat} {ss : List (List UInt8)} (h : RdSec w (.slice a n cap) ss) {i : Nat} {x : List UInt8} (hx : ss[i]? = some x) :
    ∃ b off u, a = some ⟨b, off, none⟩ ∧ w.cell? ⟨b, off + i, none⟩ = some u ∧ Rd w u x := by
  obtain ⟨b, off, u, e, hc, v, e2, hr⟩ := RdS.at1 rfl h hx
  simp at e2; subst e2
  exact ⟨b, off, u, e, hc, hr⟩
theorem RdS.wrt {w : World} {a : Option Addr} {n cap : Nat} {ws : List Wrt} (h : RdC w (.slice a n cap) ws) {i : Nat} {y : Wrt} (hy : ws[i]? = some y) :
    ∃ b off u, a = some ⟨b, off, none⟩ ∧ w.cell? ⟨b, off + i * 2, none⟩ = some (.int .i64 y.1) ∧ w.cell? ⟨b, off + i * 2 + 1, none⟩ = some u ∧ Rd w u y.2 := by
  obtain ⟨b, off, u, v, e, hc, hc2, e1, v', e2, hr⟩ := RdS.at2 rfl rfl h hy
  simp at e2; subst e2
  have : [u] = [Value.int .i64 y.1] := e1
  simp at this; subst this
  exact ⟨b, off, v, e, hc, hc2, hr⟩

theorem some_at {α : Type} (xs : List α) {k : Nat} (h : k < xs.length) : ∃ x, xs[k]? = some x ∧ x ∈ xs := ⟨xs[k], List.getElem?_eq_getElem h, List.getElem_mem h⟩

/-- a sector that begins with x -/
def pad (x : List UInt8) : List UInt8 := over (List.replicate 64 0) x
theorem pad_len (x : List UInt8) : (pad x).length = 64 := by unfold pad; rw [over_length]; simp
theorem pad_id {x : List UInt8} (h : x.length = 64) : pad x = x := by unfold pad; exact over_all (by simp [h])

def DOk (d : Dsk) : Prop := 1 ≤ d.1.length ∧ d.1.length ≤ 1024 ∧ d.2.length ≤ 4096 ∧ (∀ x ∈ d.1, x.length = 64) ∧ ∀ y ∈ d.2, (0 ≤ y.1 ∧ y.1 < d.1.length) ∧ y.2.length = 64
instance (d : Dsk) : Decidable (DOk d) := by unfold DOk; infer_instance
def dhas (d : Dsk) (k : Int) : Prop := 0 ≤ k ∧ k < d.1.length
instance (d : Dsk) (k : Int) : Decidable (dhas d k) := by unfold dhas; infer_instance
def dcheck (d : Dsk) : Int := if DOk d then 0 else 9
def dsect (d : Dsk) (k : Int) : Int := if DOk d then (if dhas d k then 0 else 41) else 9
theorem dcheck_ok {d : Dsk} (h : DOk d) : dcheck d = 0 := if_pos h
theorem dcheck_no {d : Dsk} (h : ¬ DOk d) : dcheck d = 9 := if_neg h
theorem dsect_zero {d : Dsk} {k : Int} : dsect d k = 0 ↔ DOk d ∧ dhas d k := by
  unfold dsect
  by_cases h : DOk d
  · rw [if_pos h]
    by_cases h2 : dhas d k
    · rw [if_pos h2]; exact ⟨fun _ => ⟨h, h2⟩, fun _ => rfl⟩
    · rw [if_neg h2]; constructor
      · intro e; cases e
      · intro e; exact absurd e.2 h2
  · rw [if_neg h]; constructor
    · intro e; cases e
    · intro e; exact absurd e.1 h

def dput (d : Dsk) (k : Int) (x : List UInt8) : Dsk × Int :=
  if dsect d k ≠ 0 then (([], []), dsect d k) else if 64 < x.length then (([], []), 5) else if 4096 ≤ d.2.length then (([], []), 51) else ((d.1, d.2 ++ [(k, pad x)]), 0)
/-- what the last of these writes of sector k has, or x -/
def lastOf (k : Int) (x : List UInt8) (ws : List Wrt) : List UInt8 := ws.foldl (fun b y => if y.1 = k then y.2 else b) x
def dget (d : Dsk) (k : Int) : List UInt8 × Int := if dsect d k ≠ 0 then ([], dsect d k) else (lastOf k (d.1.getD k.toNat []) d.2, 0)
/-- the first k writes have landed: of the i-th f i octets -/
def lands (f : Nat → Nat) (ss : List (List UInt8)) (ws : List Wrt) : Nat → List (List UInt8)
  | 0 => ss
  | k + 1 => match ws[k]? with
    | some y => (lands f ss ws k).set y.1.toNat (over ((lands f ss ws k).getD y.1.toNat []) (y.2.take (f k)))
    | none => lands f ss ws k
def dland (d : Dsk) (f : Nat → Nat) : Dsk × Int := if DOk d then ((lands f d.1 d.2 d.2.length, []), 0) else (([], []), 9)
def clamp (cut : Int) : Nat := (max 0 (min cut 64)).toNat
/-- how much of the i-th write lands -/
def crashF (keep : List Bool) (torn cut : Int) (i : Nat) : Nat := if keep[i]? = some true then (if (i : Int) = torn then clamp cut else 64) else 0
def dcrash (d : Dsk) (keep : List Bool) (torn cut : Int) : Dsk × Int := dland d (crashF keep torn cut)
def dflush (d : Dsk) : Dsk × Int := dland d (fun _ => 64)
def drot (d : Dsk) (k at' : Int) (b : UInt8) : Dsk × Int :=
  if dsect d k ≠ 0 then (([], []), dsect d k) else if at' < 0 ∨ 64 ≤ at' then (([], []), 4) else
    ((d.1.set k.toNat ((d.1.getD k.toNat []).set at'.toNat ((d.1.getD k.toNat []).getD at'.toNat 0 ^^^ b)), d.2), 0)
def dnew (n : Int) : Dsk × Int := if n < 1 ∨ 1024 < n then (([], []), 4) else ((List.replicate n.toNat (List.replicate 64 0), []), 0)

theorem clamp_le (cut : Int) : clamp cut ≤ 64 := by unfold clamp; omega
theorem crashF_le (keep : List Bool) (torn cut : Int) (i : Nat) : crashF keep torn cut i ≤ 64 := by
  unfold crashF
  split
  · split
    · exact clamp_le cut
    · exact Nat.le_refl _
  · exact Nat.zero_le _

theorem over_nil (x : List UInt8) : over x [] = x := by unfold over; simp
theorem lands_len (f : Nat → Nat) (ss : List (List UInt8)) (ws : List Wrt) (k : Nat) : (lands f ss ws k).length = ss.length := by
  induction k with
  | zero => rfl
  | succ k ih =>
    unfold lands
    cases h : ws[k]? with
    | none => simpa [h] using ih
    | some y => simpa [h] using ih
theorem lands_succ {f : Nat → Nat} {ss : List (List UInt8)} {ws : List Wrt} {k : Nat} {y : Wrt} (h : ws[k]? = some y) : lands f ss ws (k + 1) = (lands f ss ws k).set y.1.toNat (over ((lands f ss ws k).getD y.1.toNat []) (y.2.take (f k))) := by
  conv => lhs; unfold lands
  rw [h]
theorem lands_64 {f : Nat → Nat} {ss : List (List UInt8)} {ws : List Wrt} (h : ∀ x ∈ ss, x.length = 64) (k : Nat) : ∀ x ∈ lands f ss ws k, x.length = 64 := by
  induction k with
  | zero => exact h
  | succ k ih =>
    unfold lands
    cases hk : ws[k]? with
    | none => simpa using ih
    | some y =>
      intro x hx
      simp only at hx
      rcases List.mem_or_eq_of_mem_set hx with hx | rfl
      · exact ih x hx
      · rw [over_length]
        by_cases hl : y.1.toNat < (lands f ss ws k).length
        · exact ih _ (by rw [List.getD_eq_getElem?_getD, List.getElem?_eq_getElem hl]; exact List.getElem_mem hl)
        · rw [List.set_eq_of_length_le (by omega)] at hx
          have := ih _ hx
          rw [over_length] at this
          exact this
theorem getD_mem {ss : List (List UInt8)} {k : Nat} (h : k < ss.length) : ss.getD k [] ∈ ss := by rw [List.getD_eq_getElem?_getD, List.getElem?_eq_getElem h]; exact List.getElem_mem h
theorem getD_some {α : Type} {xs : List α} {k : Nat} {x d : α} (h : xs[k]? = some x) : xs.getD k d = x := by rw [List.getD_eq_getElem?_getD, h]; rfl
theorem set_self {ss : List (List UInt8)} {k : Nat} (h : k < ss.length) : ss.set k (ss.getD k []) = ss := by
  rw [List.getD_eq_getElem?_getD, List.getElem?_eq_getElem h]
  simp

end Go.Proofs.Ytfalhboahdccmaa
