/-
  Nodes as octets, there and back, plain: what is read of a node's octets is the node; what is read has those octets.
-/
import Derived.Test.YtgmkknonnidgaaaNRMath
import Derived.Test.YtgmkknonnidgaaaNPD
namespace Go.Proofs.Ytgmkknonnidgaaa
set_option linter.unusedVariables false
set_option linter.unusedSimpArgs false

/-! numbers and texts at the front -/
theorem numOf_one (b : UInt8) : numOf [b] = b.toNat := by simp [numOf, numTo]
theorem rtk_app {s : Nat} {x y : List UInt8} {sh : Bool} (h : x.length = s) : rtk s ⟨x ++ y, sh⟩ = x ∧ rst s ⟨x ++ y, sh⟩ = ⟨y, sh⟩ := by
  subst h
  unfold rtk rst
  rw [if_neg (by simp), if_neg (by simp)]
  exact ⟨by simp, by simp⟩
theorem rnum_app {s n : Nat} {y : List UInt8} {sh : Bool} (h : n < 2 ^ (8 * s)) : rnum s ⟨oc n s ++ y, sh⟩ = n ∧ rst s ⟨oc n s ++ y, sh⟩ = ⟨y, sh⟩ := by
  obtain ⟨h1, h2⟩ := rtk_app (s := s) (x := oc n s) (y := y) (sh := sh) (oc_length n s)
  refine ⟨?_, h2⟩
  unfold rnum
  rw [h1, numOf_oc n s h]
theorem rtx_app {x y : List UInt8} {sh : Bool} (h : x.length < 256) : rtx ⟨[UInt8.ofNat x.length] ++ x ++ y, sh⟩ = x ∧ rts ⟨[UInt8.ofNat x.length] ++ x ++ y, sh⟩ = ⟨y, sh⟩ := by
  have h1 := rnum_app (s := 1) (n := x.length) (y := x ++ y) (sh := sh) (by omega)
  rw [oc_one, ← List.append_assoc] at h1
  unfold rtx rts
  rw [h1.1, h1.2]
  exact rtk_app rfl
/-- what was taken, if nothing was short -/
theorem rst_back {s : Nat} {r : Rr} (h : (rst s r).short = false) : r.short = false ∧ r.rest = rtk s r ++ (rst s r).rest ∧ (rtk s r).length = s := by
  unfold rst at h
  unfold rst rtk
  by_cases hl : r.rest.length < s
  · rw [if_pos hl] at h; cases h
  · rw [if_neg hl] at h
    rw [if_neg hl, if_neg hl]
    exact ⟨h, by simp, by simp; omega⟩
theorem oc_num {x : List UInt8} {s : Nat} (h : x.length = s) (h14 : s = 1 ∨ s = 4) : oc (numOf x) s = x := by
  rcases h14 with rfl | rfl
  · obtain ⟨b, rfl⟩ : ∃ b, x = [b] := List.length_eq_one_iff.1 h
    rw [numOf_one, oc_one]
    simp
  · match x, h with
    | [a, b, c, d], _ =>
      have ha := a.toNat_lt
      have hb := b.toNat_lt
      have hc := c.toNat_lt
      have hd := d.toNat_lt
      have e : numOf [a, b, c, d] = ((a.toNat * 256 + b.toNat) * 256 + c.toNat) * 256 + d.toNat := by simp [numOf, numTo]
      rw [e]
      simp only [oc, ob, List.range_succ, List.range_zero, List.nil_append, List.map_cons, List.map_nil, List.cons_append, List.cons.injEq, and_true]
      refine ⟨?_, ?_, ?_, ?_⟩ <;> (apply UInt8.toNat_inj.1; rw [UInt8.toNat_ofNat']; simp; try omega)
theorem rnum_back {s : Nat} {r : Rr} (h : (rst s r).short = false) (h14 : s = 1 ∨ s = 4) : r.short = false ∧ r.rest = oc (rnum s r) s ++ (rst s r).rest := by
  obtain ⟨h1, h2, h3⟩ := rst_back h
  refine ⟨h1, ?_⟩
  unfold rnum
  rw [oc_num h3 h14]
  exact h2
theorem rtx_back {r : Rr} (h : (rts r).short = false) : r.short = false ∧ r.rest = [UInt8.ofNat (rtx r).length] ++ rtx r ++ (rts r).rest := by
  unfold rts at h ⊢
  obtain ⟨h1, h2, h3⟩ := rst_back h
  obtain ⟨h4, h5⟩ := rnum_back h1 (.inl rfl)
  refine ⟨h4, ?_⟩
  rw [h5, oc_one, h2]
  unfold rtx
  rw [h3]
  simp

/-! pairs -/
def pairsOf : List Str → List Str → List UInt8
  | k :: ks, v :: vs => ([UInt8.ofNat k.length] ++ k) ++ ([UInt8.ofNat v.length] ++ v) ++ pairsOf ks vs
  | _, _ => []
theorem rpairs_app : ∀ (ks vs : List Str) (n : Nd) (y : List UInt8) (sh : Bool), ks.length = vs.length → (∀ k ∈ ks, k.length < 256) → (∀ v ∈ vs, v.length < 256) → rpairs ks.length ⟨pairsOf ks vs ++ y, sh⟩ n = (⟨n.leaf, n.keys ++ ks, n.vals ++ vs, n.kids⟩, ⟨y, sh⟩)
  | [], [], n, y, sh, _, _, _ => by simp [rpairs, pairsOf]
  | [], v :: vs, n, y, sh, h, _, _ => by simp at h
  | k :: ks, [], n, y, sh, h, _, _ => by simp at h
  | k :: ks, v :: vs, n, y, sh, h, hk, hv => by
    have a1 := rtx_app (x := k) (y := [UInt8.ofNat v.length] ++ v ++ (pairsOf ks vs ++ y)) (sh := sh) (hk k (by simp))
    have a2 := rtx_app (x := v) (y := pairsOf ks vs ++ y) (sh := sh) (hv v (by simp))
    have e : pairsOf (k :: ks) (v :: vs) ++ y = [UInt8.ofNat k.length] ++ k ++ ([UInt8.ofNat v.length] ++ v ++ (pairsOf ks vs ++ y)) := by simp [pairsOf]
    rw [List.length_cons, rpairs, e, a1.1, a1.2, a2.1, a2.2, rpairs_app ks vs _ y sh (by simpa using h) (fun x hx => hk x (by simp [hx])) (fun x hx => hv x (by simp [hx]))]
    simp
theorem rpairs_back : ∀ (k : Nat) (r : Rr) (n : Nd), (rpairs k r n).2.short = false → r.short = false ∧ ∃ ks vs, ks.length = k ∧ vs.length = k ∧ r.rest = pairsOf ks vs ++ (rpairs k r n).2.rest ∧ (rpairs k r n).1 = ⟨n.leaf, n.keys ++ ks, n.vals ++ vs, n.kids⟩
  | 0, r, n, h => ⟨h, [], [], rfl, rfl, by simp [pairsOf, rpairs], by simp [rpairs]⟩
  | k + 1, r, n, h => by
    rw [rpairs] at h
    obtain ⟨h1, ks, vs, e1, e2, e3, e4⟩ := rpairs_back k _ _ h
    obtain ⟨h2, e5⟩ := rtx_back h1
    obtain ⟨h3, e6⟩ := rtx_back h2
    refine ⟨h3, rtx r :: ks, rtx (rts r) :: vs, by simp [e1], by simp [e2], ?_, ?_⟩
    · rw [e6, e5, e3, rpairs]; simp [pairsOf]
    · rw [rpairs, e4]; simp

/-! keys and pages -/
def kidsOf : List Str → List Int → List UInt8
  | k :: ks, d :: ds => ([UInt8.ofNat k.length] ++ k) ++ n4 d ++ kidsOf ks ds
  | _, _ => []
theorem rkids_app : ∀ (ks : List Str) (d : Int) (ds : List Int) (n : Nd) (y : List UInt8) (sh : Bool), ks.length = ds.length → (∀ k ∈ ks, k.length < 256) → (0 ≤ d ∧ d < 4294967296) → (∀ d ∈ ds, 0 ≤ d ∧ d < 4294967296) → rkids ks.length ⟨n4 d ++ (kidsOf ks ds ++ y), sh⟩ n = (⟨n.leaf, n.keys ++ ks, n.vals, n.kids ++ d :: ds⟩, ⟨y, sh⟩)
  | [], d, [], n, y, sh, _, _, hd, _ => by
    have a1 := rnum_app (s := 4) (n := d.toNat) (y := y) (sh := sh) (by omega)
    rw [oc_four] at a1
    simp only [List.length_nil, kidsOf, List.nil_append, rkids]
    rw [a1.1, a1.2, Int.toNat_of_nonneg hd.1]
    simp
  | [], d, e :: ds, n, y, sh, h, _, _, _ => by simp at h
  | k :: ks, d, [], n, y, sh, h, _, _, _ => by simp at h
  | k :: ks, d, d' :: ds, n, y, sh, h, hk, hd, hds => by
    have a1 := rnum_app (s := 4) (n := d.toNat) (y := kidsOf (k :: ks) (d' :: ds) ++ y) (sh := sh) (by omega)
    rw [oc_four] at a1
    have a2 := rtx_app (x := k) (y := n4 d' ++ (kidsOf ks ds ++ y)) (sh := sh) (hk k (by simp))
    have e : kidsOf (k :: ks) (d' :: ds) ++ y = [UInt8.ofNat k.length] ++ k ++ (n4 d' ++ (kidsOf ks ds ++ y)) := by simp [kidsOf]
    rw [List.length_cons, rkids, a1.1, a1.2, e, a2.1, a2.2, Int.toNat_of_nonneg hd.1, rkids_app ks d' ds _ y sh (by simpa using h) (fun x hx => hk x (by simp [hx])) (hds d' (by simp)) (fun x hx => hds x (by simp [hx]))]
    simp
theorem rkids_back : ∀ (k : Nat) (r : Rr) (n : Nd), (rkids k r n).2.short = false → r.short = false ∧ ∃ ks d ds, ks.length = k ∧ ds.length = k ∧ r.rest = n4 d ++ (kidsOf ks ds ++ (rkids k r n).2.rest) ∧ (rkids k r n).1 = ⟨n.leaf, n.keys ++ ks, n.vals, n.kids ++ d :: ds⟩
  | 0, r, n, h => by
    rw [rkids] at h
    obtain ⟨h1, e1⟩ := rnum_back h (.inr rfl)
    refine ⟨h1, [], (rnum 4 r : Nat), [], rfl, rfl, ?_, by simp [rkids]⟩
    rw [← oc_four]
    simp only [Int.toNat_natCast, kidsOf, List.nil_append, rkids]
    exact e1
  | k + 1, r, n, h => by
    rw [rkids] at h
    obtain ⟨h1, ks, d, ds, e1, e2, e3, e4⟩ := rkids_back k _ _ h
    obtain ⟨h2, e5⟩ := rtx_back h1
    obtain ⟨h3, e6⟩ := rnum_back h2 (.inr rfl)
    refine ⟨h3, rtx (rst 4 r) :: ks, (rnum 4 r : Nat), d :: ds, by simp [e1], by simp [e2], ?_, ?_⟩
    · rw [← oc_four, Int.toNat_natCast, rkids]
      refine e6.trans ?_
      rw [e5, e3]; simp [kidsOf]
    · rw [rkids, e4]; simp

/-! a node's octets -/
theorem nparts_leaf (n : Nd) (hl : n.leaf = true) (hv : n.vals.length = n.keys.length) : nparts n n.keys.length = pairsOf n.keys n.vals := by
  have key : ∀ (k : Nat) (ks vs : List Str), k + ks.length = n.keys.length → ks = n.keys.drop k → vs = n.vals.drop k → nparts n n.keys.length = nparts n k ++ pairsOf ks vs := by
    intro k ks
    induction ks generalizing k with
    | nil =>
      intro vs h1 h2 h3
      have : k = n.keys.length := by simpa using h1
      subst this
      simp [pairsOf]
    | cons x r ih =>
      intro vs h1 h2 h3
      have hk : k < n.keys.length := by simp at h1; omega
      have d1 := List.drop_eq_getElem_cons hk
      have d2 := List.drop_eq_getElem_cons (l := n.vals) (i := k) (by omega)
      rw [d1] at h2
      rw [d2] at h3
      obtain ⟨hx, hr⟩ := List.cons.inj h2
      subst h3
      have := ih (k + 1) (n.vals.drop (k + 1)) (by simp at h1; omega) hr rfl
      rw [this, nparts, npart, nkey, hl, hx, List.getElem?_eq_getElem hk, List.getElem?_eq_getElem (l := n.vals) (i := k) (by omega)]
      simp [pairsOf]
  have := key 0 n.keys n.vals (by simp) rfl rfl
  simpa [nparts] using this
theorem nparts_inner (n : Nd) (hl : n.leaf = false) (d : Int) (ds : List Int) (hd : n.kids = d :: ds) (hv : ds.length = n.keys.length) : nparts n n.keys.length = kidsOf n.keys ds := by
  have key : ∀ (k : Nat) (ks : List Str) (es : List Int), k + ks.length = n.keys.length → ks = n.keys.drop k → es = ds.drop k → nparts n n.keys.length = nparts n k ++ kidsOf ks es := by
    intro k ks
    induction ks generalizing k with
    | nil =>
      intro vs h1 h2 h3
      have : k = n.keys.length := by simpa using h1
      subst this
      simp [kidsOf]
    | cons x r ih =>
      intro vs h1 h2 h3
      have hk : k < n.keys.length := by simp at h1; omega
      have d1 := List.drop_eq_getElem_cons hk
      have d2 := List.drop_eq_getElem_cons (l := ds) (i := k) (by omega)
      rw [d1] at h2
      rw [d2] at h3
      obtain ⟨hx, hr⟩ := List.cons.inj h2
      subst h3
      have := ih (k + 1) (ds.drop (k + 1)) (by simp at h1; omega) hr rfl
      rw [this, nparts, npart, nkey, hl, hx, List.getElem?_eq_getElem hk, hd, List.getElem?_cons_succ, List.getElem?_eq_getElem (l := ds) (i := k) (by omega)]
      simp [kidsOf]
  have := key 0 n.keys ds (by simp) rfl rfl
  simpa [nparts] using this
theorem key_small {n : Nd} (h : NOk n) : ∀ k ∈ n.keys, k.length < 256 := by
  intro k hk
  obtain ⟨i, hi, e⟩ := List.mem_iff_getElem.1 hk
  have := h.key i
  unfold nkey at this
  rw [List.getElem?_eq_getElem hi, e] at this
  simp at this
  omega
theorem val_small {n : Nd} (h : NOk n) : ∀ k ∈ n.vals, k.length < 256 := by
  intro k hk
  obtain ⟨i, hi, e⟩ := List.mem_iff_getElem.1 hk
  have := h.val i
  rw [List.getElem?_eq_getElem hi, e] at this
  simp at this
  omega
theorem kid_small {n : Nd} (h : NOk n) : ∀ k ∈ n.kids, 0 ≤ k ∧ k < 4294967296 := by
  intro k hk
  obtain ⟨i, hi, e⟩ := List.mem_iff_getElem.1 hk
  have := h.2.2.2.1 i hi
  rw [List.getElem?_eq_getElem hi, e] at this
  simp at this
  omega
theorem mark_app (m : UInt8) (k : Nat) (y : List UInt8) (hk : k < 256) : rnum 1 ⟨[m, UInt8.ofNat k] ++ y, false⟩ = m.toNat ∧ rnum 1 (rst 1 ⟨[m, UInt8.ofNat k] ++ y, false⟩) = k ∧ rst 1 (rst 1 ⟨[m, UInt8.ofNat k] ++ y, false⟩) = ⟨y, false⟩ := by
  have a1 := rtk_app (s := 1) (x := [m]) (y := [UInt8.ofNat k] ++ y) (sh := false) rfl
  have a2 := rnum_app (s := 1) (n := k) (y := y) (sh := false) (by omega)
  rw [oc_one] at a2
  have e : [m, UInt8.ofNat k] ++ y = [m] ++ ([UInt8.ofNat k] ++ y) := by simp
  rw [e, a1.2]
  refine ⟨?_, a2.1, a2.2⟩
  unfold rnum
  rw [a1.1, numOf_one]
theorem nread_enc {n : Nd} (h : NOk n) : nread (nenc n) = (n, 0) := by
  have hf := h.few
  have hc := h.2.1
  unfold ncount at hc
  obtain ⟨leaf, keys, vals, kids⟩ := n
  cases leaf with
  | true =>
    rw [if_pos rfl] at hc
    dsimp only at hc hf
    have hp := nparts_leaf ⟨true, keys, vals, kids⟩ rfl hc.1
    dsimp only at hp
    have hk0 : kids = [] := List.eq_nil_of_length_eq_zero hc.2
    subst hk0
    have e : nenc ⟨true, keys, vals, []⟩ = [1, UInt8.ofNat keys.length] ++ pairsOf keys vals := by unfold nenc nhead; dsimp only; rw [hp]; simp
    obtain ⟨m1, m2, m3⟩ := mark_app 1 keys.length (pairsOf keys vals) (by omega)
    rw [← e] at m1 m2 m3
    rw [nread_leaf (by rw [m3]) m1, m2, m3]
    have := rpairs_app keys vals ⟨true, [], [], []⟩ [] false hc.1.symm (key_small h) (val_small h)
    rw [List.append_nil] at this
    rw [this]
    simp [rfin]
  | false =>
    rw [if_neg (show ¬ (false = true) by decide)] at hc
    dsimp only at hc hf
    have hv0 : vals = [] := List.eq_nil_of_length_eq_zero hc.1
    subst hv0
    match kids, hc with
    | d :: ds, hc =>
      have hl : ds.length = keys.length := by simp at hc; omega
      have hp := nparts_inner ⟨false, keys, [], d :: ds⟩ rfl d ds rfl hl
      dsimp only at hp
      have hs := kid_small h
      have e : nenc ⟨false, keys, [], d :: ds⟩ = [0, UInt8.ofNat keys.length] ++ (n4 d ++ kidsOf keys ds) := by unfold nenc nhead; dsimp only; rw [hp]; simp
      obtain ⟨m1, m2, m3⟩ := mark_app 0 keys.length (n4 d ++ kidsOf keys ds) (by omega)
      rw [← e] at m1 m2 m3
      rw [nread_inner (by rw [m3]) m1, m2, m3]
      have := rkids_app keys d ds ⟨false, [], [], []⟩ [] false hl.symm (key_small h) (hs d (by simp)) (fun x hx => hs x (by simp [hx]))
      rw [List.append_nil] at this
      rw [this]
      simp [rfin]
theorem ndec_enc {n : Nd} (h : NOk n) : ndec (nenc n) = (n, 0) := by
  unfold ndec
  rw [nread_enc h]
  simp [(ncheck_ok n).2 h]
theorem rfin_ok {p : Nd × Rr} (h : (rfin p).2 = 0) : p.2.short = false ∧ p.2.rest = [] ∧ (rfin p).1 = p.1 := by
  unfold rfin at h ⊢
  by_cases h1 : p.2.short = true
  · rw [if_pos h1] at h; cases h
  · rw [if_neg h1] at h ⊢
    by_cases h2 : 0 < p.2.rest.length
    · rw [if_pos h2] at h; cases h
    · rw [if_neg h2]
      exact ⟨by simpa using h1, List.eq_nil_of_length_eq_zero (by omega), rfl⟩
theorem nread_back {xs : List UInt8} (h : (nread xs).2 = 0) : nenc (nread xs).1 = xs := by
  cases hs : (rst 1 (rst 1 ⟨xs, false⟩)).short with
  | true => rw [nread_short hs] at h; cases h
  | false =>
    obtain ⟨s1, f1⟩ := rnum_back hs (.inl rfl)
    obtain ⟨_, f2⟩ := rnum_back s1 (.inl rfl)
    dsimp only at f2
    rw [f1, oc_one, oc_one] at f2
    have hlt := rnum_lt 1 (rst 1 ⟨xs, false⟩)
    by_cases m1 : rnum 1 ⟨xs, false⟩ = 1
    · rw [nread_leaf hs m1] at h ⊢
      obtain ⟨g1, g2, g3⟩ := rfin_ok h
      obtain ⟨_, ks, vs, e1, e2, e3, e4⟩ := rpairs_back _ _ _ g1
      rw [g3, e4]
      rw [g2, List.append_nil] at e3
      rw [e3, m1] at f2
      have hp := nparts_leaf ⟨true, ks, vs, []⟩ rfl (by simp [e1, e2])
      dsimp only at hp
      simp only [List.nil_append]
      unfold nenc nhead
      dsimp only
      rw [hp, e1]
      refine Eq.trans ?_ f2.symm
      simp
    · by_cases m0 : rnum 1 ⟨xs, false⟩ = 0
      · rw [nread_inner hs m0] at h ⊢
        obtain ⟨g1, g2, g3⟩ := rfin_ok h
        obtain ⟨_, ks, d, ds, e1, e2, e3, e4⟩ := rkids_back _ _ _ g1
        rw [g3, e4]
        rw [g2, List.append_nil] at e3
        rw [e3, m0] at f2
        have hp := nparts_inner ⟨false, ks, [], d :: ds⟩ rfl d ds rfl (by simp [e1, e2])
        dsimp only at hp
        simp only [List.nil_append]
        unfold nenc nhead
        dsimp only
        rw [hp, e1]
        refine Eq.trans ?_ f2.symm
        simp
      · rw [nread_kind hs m1 m0] at h; cases h
theorem ndec_back {xs : List UInt8} (h : (ndec xs).2 = 0) : NOk (ndec xs).1 ∧ nenc (ndec xs).1 = xs := by
  unfold ndec at h ⊢
  by_cases h1 : (nread xs).2 = 0
  · rw [if_pos h1] at h ⊢
    by_cases h2 : ncheck (nread xs).1 = 0
    · rw [if_pos h2]
      exact ⟨(ncheck_ok _).1 h2, nread_back h1⟩
    · rw [if_neg h2] at h; exact absurd h h2
  · rw [if_neg h1] at h; exact absurd h h1
theorem ndec_bad {xs : List UInt8} (h : (ndec xs).2 ≠ 0) : (ndec xs).1 = none9 := by
  unfold ndec at h ⊢
  by_cases h1 : (nread xs).2 = 0
  · rw [if_pos h1] at h ⊢
    by_cases h2 : ncheck (nread xs).1 = 0
    · rw [if_pos h2] at h; exact absurd h1 h
    · rw [if_neg h2]
  · rw [if_neg h1]

end Go.Proofs.Ytgmkknonnidgaaa
