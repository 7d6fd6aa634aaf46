/-
  For the page's Split of nodes: its halves, parts of lists, two boxes, four results.
-/
import Derived.Test.YtgmkknonnidgaaaNEq
namespace Go.Proofs.Ytgmkknonnidgaaa
open Go.RowKit
set_option linter.unusedVariables false
set_option linter.unusedSimpArgs false

def nsplit (n : Nd) : Int := if ncheck n = 0 then if nfew n then 3 else 0 else ncheck n
def nlow' (n : Nd) : Nd := if nsplit n = 0 then nlow n else none9
def nhigh' (n : Nd) : Nd := if nsplit n = 0 then nhigh n else none9
def nmid' (n : Nd) : Str := if nsplit n = 0 then nkey n (n.keys.length / 2) else []
theorem boxes4s (w : World) (x y z v : Value) (t : TypeId) : ∃ W, W = ((w.alloc (.cells #[x, y, z, v] t)).alloc (.cells #[.bool false, .slice none 0 0, .slice none 0 0, .slice none 0 0] t)).alloc (.cells #[.bool false, .slice none 0 0, .slice none 0 0, .slice none 0 0] t) ∧ W.heap[w.heap.size]? = some (.cells #[x, y, z, v] t (0, 0)) ∧
    W.heap[w.heap.size + 1]? = some (.cells #[.bool false, .slice none 0 0, .slice none 0 0, .slice none 0 0] t (0, 0)) ∧ W.heap[w.heap.size + 2]? = some (.cells #[.bool false, .slice none 0 0, .slice none 0 0, .slice none 0 0] t (0, 0)) ∧ Below w.heap.size w W ∧ W.heap.size = w.heap.size + 3 := by
  obtain ⟨U, hU, u1, u2, u3, u4⟩ := boxes4 w x y z v t t
  rw [← hU]
  refine ⟨_, rfl, ?_, ?_, ?_, u3.alloc (by omega) _, by simp [u4]⟩
  · rw [Below.heap_alloc _ _ _ (by omega)]; exact u1
  · rw [Below.heap_alloc _ _ _ (by omega)]; exact u2
  · have := heap_alloc_last U (.cells #[.bool false, .slice none 0 0, .slice none 0 0, .slice none 0 0] t); rw [u4] at this; exact this
theorem retNTNT {P : Program} {fn : Func} {R : Ending → World → Prop} {a : Act} {w : World} {p q u1 u2 : Tmp} {ty ty' : TypeId} (h : fn.results = #[.cell p ty, .tmp u1, .cell q ty', .tmp u2]) (hd : a.defers = []) (g g' : Nat) (hp : a.tmps.getD p undef = .pointer (some ⟨g, 0, none⟩)) (hq : a.tmps.getD q undef = .pointer (some ⟨g', 0, none⟩))
    (cs cs' : Array Value) (t t' : TypeId) (fr fr' : Nat × Nat) (hg : w.heap[g]? = some (.cells cs t fr)) (hg' : w.heap[g']? = some (.cells cs' t' fr')) (d d' : TypeDesc) (hu : P.underlying ty = some d) (hr : (match d with | .struct _ | .array _ _ => true | _ => false) = true) (hi : (P.info? ty).map (·.size) = some cs.size)
    (hu' : P.underlying ty' = some d') (hr' : (match d' with | .struct _ | .array _ _ => true | _ => false) = true) (hi' : (P.info? ty').map (·.size) = some cs'.size)
    (v1 v2 : Value) (e1 : a.tmps.getD u1 undef = v1) (e2 : a.tmps.getD u2 undef = v2) (hR : R (.returned (.tuple #[.agg cs, v1, .agg cs', v2])) w) : bodyPost P fn R .ret a w := by
  refine bodyPost_ret (v := .tuple #[.agg cs, v1, .agg cs', v2]) ?_ hd hR
  have hp' : a.tmps[p]?.getD undef = .pointer (some ⟨g, 0, none⟩) := by simpa using hp
  have hq' : a.tmps[q]?.getD undef = .pointer (some ⟨g', 0, none⟩) := by simpa using hq
  have e1' : a.tmps[u1]?.getD undef = v1 := by simpa using e1
  have e2' : a.tmps[u2]?.getD undef = v2 := by simpa using e2
  simp [results, h, hp', hq', e1', e2', asAddr, run_loadVar_row w g t ty cs fr d hg hu hr hi, run_loadVar_row w g' t' ty' cs' fr' d' hg' hu' hr' hi']
theorem addr_add9 (b off n : Nat) : (⟨b, off, none⟩ : Addr).add n = ⟨b, off + n, none⟩ := by
  by_cases h : n = 0
  · subst h; simp [Addr.add]
  · simp [Addr.add, h]
/-- a part of a list as it is read -/
theorem rdS_part {α : Type} {s : Shp α} {w : World} {a : Option Addr} {len cap : Nat} {xs : List α} (h : RdS s w (.slice a len cap) xs) {q to : Nat} (h1 : q ≤ to) (h2 : to ≤ len) :
    ∃ A, (if cap = q then a else Option.map (fun x => x.add (q * s.n)) a) = A ∧ RdS s w (.slice A (to - q) (cap - q)) ((xs.take to).drop q) := by
  obtain ⟨ao, c, e, l1, m1, n1, r1⟩ := h
  simp only [Value.slice.injEq] at e
  obtain ⟨rfl, rfl, rfl⟩ := e
  have el : ((xs.take to).drop q).length = to - q := by simp; omega
  by_cases hc : cap = q
  · refine ⟨a, if_pos hc, ⟨a, cap - q, by rw [el], by rw [el]; omega, by omega, fun _ => by omega, .inl (List.eq_nil_of_length_eq_zero (by rw [el]; omega))⟩⟩
  · refine ⟨_, if_neg hc, ⟨_, cap - q, by rw [el], by rw [el]; omega, by omega, ?_, ?_⟩⟩
    · intro h
      cases a with
      | none => rw [n1 rfl]; simp
      | some x => cases h
    · rcases r1 with rfl | ⟨b, off, rfl, hcc⟩
      · left; simp
      · right
        refine ⟨b, off + q * s.n, by simp [addr_add9], fun i x hx => ?_⟩
        rw [List.getElem?_drop] at hx
        have hlt : q + i < to := by
          rcases Nat.lt_or_ge (q + i) to with h | h
          · exact h
          · rw [List.getElem?_eq_none (by simp; omega)] at hx; cases hx
        rw [List.getElem?_take, if_pos hlt] at hx
        obtain ⟨c, k1, k2⟩ := hcc (q + i) x hx
        refine ⟨c, k1, fun j u hj => ?_⟩
        have := k2 j u hj
        rw [Nat.add_mul] at this
        rw [show off + q * s.n + i * s.n + j = off + (q * s.n + i * s.n) + j by omega]
        exact this

theorem rdS_cap {α : Type} {s : Shp α} {w : World} {a : Option Addr} {n c : Nat} {xs : List α} (h : RdS s w (.slice a n c) xs) : xs.length ≤ c := by
  obtain ⟨ao, c', e, l1, _⟩ := h
  simp only [Value.slice.injEq] at e
  omega
/-- the first part of a list -/
theorem rdS_front {α : Type} {s : Shp α} {w : World} {a : Option Addr} {len cap : Nat} {xs : List α} (h : RdS s w (.slice a len cap) xs) {q : Nat} (h1 : q ≤ len) : RdS s w (.slice a q cap) (xs.take q) := by
  obtain ⟨ao, c, e, l1, m1, n1, r1⟩ := h
  simp only [Value.slice.injEq] at e
  obtain ⟨rfl, rfl, rfl⟩ := e
  have el : (xs.take q).length = q := by simp; omega
  refine ⟨a, cap, by rw [el], by rw [el]; omega, m1, n1, ?_⟩
  rcases r1 with rfl | ⟨b, off, rfl, hcc⟩
  · left; simp
  · right
    refine ⟨b, off, rfl, fun i x hx => hcc i x ?_⟩
    rw [List.getElem?_take] at hx
    split at hx
    · exact hx
    · cases hx
/-- .. and the rest of it -/
theorem rdS_back {α : Type} {s : Shp α} (hs : s.n = 1) {w : World} {b off : Nat} {len cap : Nat} {xs : List α} (h : RdS s w (.slice (some ⟨b, off, none⟩) len cap) xs) {q : Nat} (h1 : q ≤ len) (h2 : ¬ cap = q) : RdS s w (.slice (some ⟨b, off + q, none⟩) (len - q) (cap - q)) (xs.drop q) := by
  obtain ⟨A, hA, p⟩ := rdS_part h h1 (Nat.le_refl _)
  have hl : xs.length = len := by
    obtain ⟨ao, c, e, _⟩ := h
    simp only [Value.slice.injEq] at e
    omega
  rw [if_neg h2, Option.map_some, hs, Nat.mul_one, addr_add9] at hA
  subst hA
  rw [List.take_of_length_le (by omega)] at p
  exact p
/-- two boxes, both written -/
theorem set8 {u : World} {g g' : Nat} (hne : g ≠ g') {a b c d a' b' c' d' : Value} {t t' : TypeId} (h : u.heap[g]? = some (.cells #[a, b, c, d] t (0, 0))) (h' : u.heap[g']? = some (.cells #[a', b', c', d'] t' (0, 0))) {B : Nat} {w : World} (hb : Below B w u) (hg : B ≤ g) (hg' : B ≤ g') (x y z v x' y' z' v' : Value) :
    ∃ U, U = (((((((u.setCell ⟨g, 0, none⟩ x).setCell ⟨g, 1, none⟩ y).setCell ⟨g, 2, none⟩ z).setCell ⟨g, 3, none⟩ v).setCell ⟨g', 0, none⟩ x').setCell ⟨g', 1, none⟩ y').setCell ⟨g', 2, none⟩ z').setCell ⟨g', 3, none⟩ v' ∧ U.heap[g]? = some (.cells #[x, y, z, v] t (0, 0)) ∧ U.heap[g']? = some (.cells #[x', y', z', v'] t' (0, 0)) ∧ Below B w U := by
  refine ⟨_, rfl, ?_, heap_set4 (a := a') (b := b') (c := c') (d := d') ?_ _ _ _ _, below_set4n (below_set4n hb hg _ _ _ _) hg' _ _ _ _⟩
  · rw [Below.heap_setCell _ _ _ _ hne, Below.heap_setCell _ _ _ _ hne, Below.heap_setCell _ _ _ _ hne, Below.heap_setCell _ _ _ _ hne]
    exact heap_set4 h _ _ _ _
  · rw [Below.heap_setCell _ _ _ _ hne.symm, Below.heap_setCell _ _ _ _ hne.symm, Below.heap_setCell _ _ _ _ hne.symm, Below.heap_setCell _ _ _ _ hne.symm]
    exact h'
theorem info_ndR : (Try.prog.info? 147).map (·.size) = some 4 := by kernel_rfl

end Go.Proofs.Ytgmkknonnidgaaa
