/-
  Octets read as a node, plain: as the program reads them; there and back.
-/
import Derived.Test.YtgmkknonnidgaaaNRr
import Derived.Test.YtgmkknonnidgaaaNMath
namespace Go.Proofs.Ytgmkknonnidgaaa
set_option linter.unusedVariables false
set_option linter.unusedSimpArgs false

/-- pairs, so many as are left -/
def rpairs : Nat → Rr → Nd → Nd × Rr
  | 0, r, n => (n, r)
  | k + 1, r, n => rpairs k (rts (rts r)) ⟨n.leaf, n.keys ++ [rtx r], n.vals ++ [rtx (rts r)], n.kids⟩
/-- a page, then keys and pages, so many as are left -/
def rkids : Nat → Rr → Nd → Nd × Rr
  | 0, r, n => (⟨n.leaf, n.keys, n.vals, n.kids ++ [((rnum 4 r : Nat) : Int)]⟩, rst 4 r)
  | k + 1, r, n => rkids k (rts (rst 4 r)) ⟨n.leaf, n.keys ++ [rtx (rst 4 r)], n.vals, n.kids ++ [((rnum 4 r : Nat) : Int)]⟩
def rfin (p : Nd × Rr) : Nd × Int := if p.2.short then (none9, 8) else if 0 < p.2.rest.length then (none9, 23) else (p.1, 0)
def nread (xs : List UInt8) : Nd × Int :=
  let r0 : Rr := ⟨xs, false⟩
  let r2 := rst 1 (rst 1 r0)
  if r2.short then (none9, 8) else if rnum 1 r0 = 1 then rfin (rpairs (rnum 1 (rst 1 r0)) r2 ⟨true, [], [], []⟩) else if rnum 1 r0 = 0 then rfin (rkids (rnum 1 (rst 1 r0)) r2 ⟨false, [], [], []⟩) else (none9, 22)
def ndec (xs : List UInt8) : Nd × Int := if (nread xs).2 = 0 then if ncheck (nread xs).1 = 0 then nread xs else (none9, ncheck (nread xs).1) else (none9, (nread xs).2)
theorem nread_short {xs : List UInt8} (h : (rst 1 (rst 1 ⟨xs, false⟩)).short = true) : nread xs = (none9, 8) := by
  unfold nread; simp only [h, if_true]
theorem nread_leaf {xs : List UInt8} (h : (rst 1 (rst 1 ⟨xs, false⟩)).short = false) (h1 : rnum 1 ⟨xs, false⟩ = 1) : nread xs = rfin (rpairs (rnum 1 (rst 1 ⟨xs, false⟩)) (rst 1 (rst 1 ⟨xs, false⟩)) ⟨true, [], [], []⟩) := by
  unfold nread; simp only [h, h1, if_true, Bool.false_eq_true, if_false]
theorem nread_inner {xs : List UInt8} (h : (rst 1 (rst 1 ⟨xs, false⟩)).short = false) (h1 : rnum 1 ⟨xs, false⟩ = 0) : nread xs = rfin (rkids (rnum 1 (rst 1 ⟨xs, false⟩)) (rst 1 (rst 1 ⟨xs, false⟩)) ⟨false, [], [], []⟩) := by
  unfold nread; simp only [h, h1, if_true, Bool.false_eq_true, if_false]; simp
theorem nread_kind {xs : List UInt8} (h : (rst 1 (rst 1 ⟨xs, false⟩)).short = false) (h1 : ¬ rnum 1 ⟨xs, false⟩ = 1) (h0 : ¬ rnum 1 ⟨xs, false⟩ = 0) : nread xs = (none9, 22) := by
  unfold nread; simp only [h, Bool.false_eq_true, if_false]; rw [if_neg h1, if_neg h0]

end Go.Proofs.Ytgmkknonnidgaaa
