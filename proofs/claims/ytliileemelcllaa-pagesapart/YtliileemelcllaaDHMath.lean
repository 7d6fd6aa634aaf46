/-
  A disk that is written and read back: what each sector was last given, flushed or not; where the law keeps it.
-/
import Derived.Test.YtliileemelcllaaDTMath
import Derived.Test.YtliileemelcllaaDGetR
namespace Go.Proofs.Ytliileemelcllaa
open Go.RowKit
set_option linter.unusedVariables false

def z64 : List UInt8 := List.replicate 64 0
/-- what is wanted where l was kept -/
def wanted (l : List UInt8) : List UInt8 := if l.length = 0 then z64 else l
structure MInv (N : Nat) (d : Dsk) (L : List (List UInt8)) (i : Nat) : Prop where
  s : d.1 = List.replicate N z64
  n : d.2.length = i
  w : ∀ y ∈ d.2, (0 ≤ y.1 ∧ y.1 < (N : Int)) ∧ y.2.length = 64
  l : L.length = N
  k : ∀ k, k < N → wanted (L.getD k []) = lastOf (k : Int) z64 d.2 ∧ (L.getD k []).length ≤ 64
theorem MInv.start (N : Nat) : MInv N (List.replicate N z64, []) (List.replicate N []) 0 :=
  ⟨rfl, rfl, fun y h => (nomatch h), by simp, fun k hk => by rw [List.getD_eq_getElem?_getD, List.getElem?_replicate, if_pos hk]; exact ⟨rfl, Nat.zero_le _⟩⟩
theorem MInv.ok {N : Nat} {d : Dsk} {L : List (List UInt8)} {i : Nat} (h : MInv N d L i) (h1 : 1 ≤ N) (h2 : N ≤ 20) (hi : i ≤ 60) : DOk d := by
  have hl : d.1.length = N := by rw [h.s]; simp
  refine ⟨by omega, by omega, by rw [h.n]; omega, ?_, ?_⟩
  · intro x hx
    rw [h.s] at hx
    rw [(List.mem_replicate.1 hx).2]; rfl
  · rw [hl]; exact h.w
theorem MInv.put {N : Nat} {d : Dsk} {L : List (List UInt8)} {i : Nat} (h : MInv N d L i) (h1 : 1 ≤ N) (h2 : N ≤ 20) (hi : i < 60) {p : Nat} (hp : p < N) {X : List UInt8} (hX : X.length ≤ 64) :
    dput d (p : Int) X = ((d.1, d.2 ++ [((p : Int), pad X)]), 0) ∧ MInv N (d.1, d.2 ++ [((p : Int), pad X)]) (L.set p (pad X)) (i + 1) := by
  have hl : d.1.length = N := by rw [h.s]; simp
  constructor
  · unfold dput
    rw [if_neg (by rw [dsect_zero.2 ⟨h.ok h1 h2 (by omega), by omega, by rw [hl]; omega⟩]; simp), if_neg (by omega), if_neg (by rw [h.n]; omega)]
  · refine ⟨h.s, by simp [h.n], ?_, by simp [h.l], fun k hk => ?_⟩
    · intro y hy
      rcases List.mem_append.1 hy with hy | hy
      · exact h.w y hy
      · simp only [List.mem_singleton] at hy
        subst hy
        exact ⟨⟨by show (0 : Int) ≤ (p : Int); omega, by show (p : Int) < (N : Int); omega⟩, pad_len X⟩
    · show wanted ((L.set p (pad X)).getD k []) = lastOf (k : Int) z64 (d.2 ++ [((p : Int), pad X)]) ∧ _
      rw [lastOf_snoc, List.getD_eq_getElem?_getD]
      by_cases hkp : p = k
      · subst hkp
        rw [List.getElem?_set_self (by rw [h.l]; exact hp), if_pos rfl]
        refine ⟨?_, by show (pad X).length ≤ 64; rw [pad_len]; exact Nat.le_refl _⟩
        show wanted (pad X) = pad X
        unfold wanted
        rw [if_neg (by rw [pad_len]; omega)]
      · rw [List.getElem?_set_ne hkp, if_neg (by show ¬ (p : Int) = (k : Int); omega), ← List.getD_eq_getElem?_getD]
        exact h.k k hk
theorem pad_app {X : List UInt8} (h : X.length ≤ 64) : X ++ List.replicate (64 - X.length) 0 = pad X := by
  unfold pad
  rw [over_short (by simpa using h), List.drop_replicate]
/-- all that is landed whole is what was last written -/
theorem lands_last {ss : List (List UInt8)} {ws : List Wrt} (h1 : ∀ x ∈ ss, x.length = 64) (h2 : ∀ y ∈ ws, (0 ≤ y.1 ∧ y.1 < (ss.length : Int)) ∧ y.2.length = 64) {j : Nat} (hj : j < ss.length) (n : Nat) (hn : n ≤ ws.length) :
    (lands (fun _ => 64) ss ws n).getD j [] = lastOf (j : Int) (ss.getD j []) (ws.take n) := by
  induction n with
  | zero => rfl
  | succ n ih =>
    obtain ⟨y, hy, hym⟩ := some_at ws (k := n) (by omega)
    rw [lands_succ hy, lastOf_take hy]
    have hy2 := h2 y hym
    by_cases hjy : y.1 = (j : Int)
    · have : y.1.toNat = j := by omega
      have hjl : j < (lands (fun _ => 64) ss ws n).length := by rw [lands_len]; exact hj
      rw [if_pos hjy, this, List.getD_eq_getElem?_getD, List.getElem?_set_self hjl, List.take_of_length_le (by rw [hy2.2]; exact Nat.le_refl _)]
      show over _ _ = _
      exact over_all (by rw [lands_64 h1 n _ (getD_mem hjl)]; exact hy2.2.symm)
    · rw [if_neg hjy, List.getD_eq_getElem?_getD, List.getElem?_set_ne (by omega), ← List.getD_eq_getElem?_getD]
      exact ih (by omega)
theorem MInv.fin {N : Nat} {d : Dsk} {L : List (List UInt8)} {i : Nat} (h : MInv N d L i) (h1 : 1 ≤ N) (h2 : N ≤ 20) (hi : i ≤ 60) (keep : List Bool) :
    ∃ S1, dflush d = ((S1, []), 0) ∧ S1.length = N ∧ dcrash (S1, []) keep 0 1 = ((S1, []), 0) ∧ ∀ k, k < N → dget d (k : Int) = (wanted (L.getD k []), 0) ∧ dget (S1, []) (k : Int) = (wanted (L.getD k []), 0) ∧ (wanted (L.getD k [])).length = 64 := by
  have hok := h.ok h1 h2 hi
  have hl : d.1.length = N := by rw [h.s]; simp
  have hz : ∀ k, k < N → d.1.getD k [] = z64 := fun k hk => by rw [h.s, List.getD_eq_getElem?_getD, List.getElem?_replicate, if_pos hk]; rfl
  refine ⟨lands (fun _ => 64) d.1 d.2 d.2.length, ?_, by rw [lands_len, hl], ?_, fun k hk => ⟨?_, ?_, ?_⟩⟩
  · unfold dflush dland; rw [if_pos hok]
  · have hok2 : DOk (lands (fun _ => 64) d.1 d.2 d.2.length, []) := ⟨by show 1 ≤ (lands _ _ _ _).length; rw [lands_len]; exact hok.1, by show (lands _ _ _ _).length ≤ 1024; rw [lands_len]; exact hok.2.1, Nat.zero_le _, lands_64 hok.2.2.2.1 _, fun y hy => (nomatch hy)⟩
    unfold dcrash dland
    rw [if_pos hok2]; rfl
  · unfold dget
    rw [if_neg (by rw [dsect_zero.2 ⟨hok, by omega, by rw [hl]; omega⟩]; simp), (h.k k hk).1, show ((k : Int)).toNat = k from by omega, hz k hk]
  · have hok2 : DOk (lands (fun _ => 64) d.1 d.2 d.2.length, []) := ⟨by show 1 ≤ (lands _ _ _ _).length; rw [lands_len]; exact hok.1, by show (lands _ _ _ _).length ≤ 1024; rw [lands_len]; exact hok.2.1, Nat.zero_le _, lands_64 hok.2.2.2.1 _, fun y hy => (nomatch hy)⟩
    unfold dget
    rw [if_neg (by rw [dsect_zero.2 ⟨hok2, by omega, by show (k : Int) < ((lands _ _ _ _).length : Int); rw [lands_len, hl]; omega⟩]; simp), (h.k k hk).1, show ((k : Int)).toNat = k from by omega]
    show (lastOf _ ((lands (fun _ => 64) d.1 d.2 d.2.length).getD k []) [], (0 : Int)) = _
    rw [lands_last hok.2.2.2.1 hok.2.2.2.2 (by omega) _ (Nat.le_refl _), List.take_length, hz k hk]
    rfl
  · rw [(h.k k hk).1]
    exact lastOf_64 (by rfl) (fun y hy => (h.w y hy).2)

/-- the state in its box at b, the list that lies at g: neither is a block of the state's -/
structure HInv (b g B : Nat) (lv : Value) (w : World) (d : Dsk) (L : List (List UInt8)) : Prop where
  st : ∃ s c, w.heap[b]? = some (.cells #[s, c] 43 (0, 0)) ∧ ∃ F, OwnF SStP F w [s, c] d ∧ b ∉ F ∧ g ∉ F
  la : Own SSec B w [lv] L
theorem HInv.drew {b g B : Nat} {lv : Value} {w : World} {d : Dsk} {L : List (List UInt8)} (h : HInv b g B lv w d L) : HInv b g B lv w.drew d L := by
  obtain ⟨⟨s, c, h1, F, h2, h3, h4⟩, h5⟩ := h
  exact ⟨⟨s, c, h1, F, h2.keep (fun _ _ => rfl), h3, h4⟩, h5.to (Below.refl _ _).drew⟩
/-- a new state laid into the box -/
theorem HInv.over {b g B : Nat} {lv : Value} {w w4 : World} {d d' : Dsk} {L : List (List UInt8)} {s c : Value} (h : HInv b g B lv w d L) (hb : b < w.heap.size) (hg : g < w.heap.size) (hB : b < B) (o : Own SStP w.heap.size w4 [s, c] d') (bb : Below w.heap.size w w4) :
    ∃ U, U = w4.alloc (.cells #[s, c] 43) ∧ (∃ x y, U.heap[b]? = some (.cells #[x, y] 43 (0, 0))) ∧ U.cell? ⟨w4.heap.size, 0, none⟩ = some s ∧ U.cell? ⟨w4.heap.size, 1, none⟩ = some c ∧
      ∃ V, V = (U.setCell ⟨b, 0, none⟩ s).setCell ⟨b, 1, none⟩ c ∧ HInv b g B lv V d' L ∧ (∀ C, C ≤ b → Below C w V) ∧ w.heap.size ≤ V.heap.size := by
  obtain ⟨⟨s0, c0, h1, F, h2, h3, h4⟩, h5⟩ := h
  obtain ⟨U, hU, U0, U1, bU, sU⟩ := boxed2 w4 s c 43
  have cb := bb.trans (bU.mono bb.size)
  have r := (cb.block b hb).trans h1
  have oU := o.to bU
  have la := h5.to cb
  refine ⟨U, hU, ⟨_, _, r⟩, U0, U1, _, rfl, ⟨⟨s, c, heap_set2 r _ _, ?_⟩, (la.set (a := ⟨b, 0, none⟩) hB _).set (a := ⟨b, 1, none⟩) hB _⟩, fun C hC => below_set2 (cb.mono (by omega)) hC _ _, by have := bb.size; simp [World.setCell]; omega⟩
  obtain ⟨G, hG, hGB⟩ := oU.foot
  have nb : b ∉ G := fun hh => by have := hGB b hh; omega
  exact ⟨G, (hG.set (a := ⟨b, 0, none⟩) nb _).set (a := ⟨b, 1, none⟩) nb _, nb, fun hh => by have := hGB g hh; omega⟩
/-- one place of the list is set -/
theorem HInv.setL {b g B : Nat} {n cap : Nat} {V w6 : World} {d : Dsk} {L : List (List UInt8)} {u : Value} {x : List UInt8} (h : HInv b g B (.slice (some ⟨g, 0, none⟩) n cap) V d L) (hb : b < V.heap.size) (hbg : b ≠ g) (hB : B ≤ V.heap.size) {p : Nat} (hp : p < L.length) (b6 : Below V.heap.size V w6) (o : OwnB V.heap.size w6 u x) :
    w6.frozen? ⟨g, p, none⟩ = false ∧ (∃ u0, w6.cell? ⟨g, p, none⟩ = some u0) ∧ HInv b g B (.slice (some ⟨g, 0, none⟩) n cap) (w6.setCell ⟨g, p, none⟩ u) d (L.set p x) ∧ B ≤ g ∧ g < V.heap.size := by
  obtain ⟨⟨s, c, h1, F, h2, h3, h4⟩, h5⟩ := h
  obtain ⟨g', cap', e, _, hBg, hgl, hf, ⟨u0, hc⟩, fin⟩ := h5.store rfl hB hp
  cases e
  refine ⟨(World.frozen?_of_block (a := ⟨g, p, none⟩) (b6.block g hgl)).trans hf, ⟨u0, (b6.cell hgl).trans hc⟩, ⟨⟨s, c, ?_, F, (h2.to b6).set (a := ⟨g, p, none⟩) h4 _, h3, h4⟩, fin w6 u x b6 o.toOwn⟩, hBg, hgl⟩
  rw [Below.heap_setCell _ ⟨g, p, none⟩ _ b hbg]
  exact (b6.block b hb).trans h1

end Go.Proofs.Ytliileemelcllaa
