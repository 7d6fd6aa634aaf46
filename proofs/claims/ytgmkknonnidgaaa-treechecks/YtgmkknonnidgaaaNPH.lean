/-
  The program's Decode.
-/
import Derived.Test.YtgmkknonnidgaaaNPG
namespace Go.Proofs.Ytgmkknonnidgaaa
open Go.RowKit
set_option linter.unusedVariables false
set_option linter.unusedSimpArgs false

theorem rfin_small (p : Nd × Rr) : (rfin p).1 = p.1 ∨ (rfin p).1 = none9 := by
  unfold rfin
  split
  · exact .inr rfl
  · split
    · exact .inr rfl
    · exact .inl rfl
theorem rpairs_len : ∀ (k : Nat) (r : Rr) (n : Nd), (rpairs k r n).1.keys.length = n.keys.length + k ∧ (rpairs k r n).1.vals.length = n.vals.length + k ∧ (rpairs k r n).1.kids.length = n.kids.length
  | 0, r, n => ⟨rfl, rfl, rfl⟩
  | k + 1, r, n => by
    have := rpairs_len k (rts (rts r)) ⟨n.leaf, n.keys ++ [rtx r], n.vals ++ [rtx (rts r)], n.kids⟩
    simp only [rpairs] at this ⊢
    simp at this
    omega
theorem rkids_len : ∀ (k : Nat) (r : Rr) (n : Nd), (rkids k r n).1.keys.length = n.keys.length + k ∧ (rkids k r n).1.vals.length = n.vals.length ∧ (rkids k r n).1.kids.length = n.kids.length + k + 1
  | 0, r, n => by simp [rkids]
  | k + 1, r, n => by
    have := rkids_len k (rts (rst 4 r)) ⟨n.leaf, n.keys ++ [rtx (rst 4 r)], n.vals, n.kids ++ [((rnum 4 r : Nat) : Int)]⟩
    simp only [rkids] at this ⊢
    simp at this
    omega
theorem nread_fit (xs : List UInt8) : nfit (nread xs).1 := by
  have hl : rnum 1 (rst 1 ⟨xs, false⟩) < 256 := rnum_lt 1 _
  have hn : nfit none9 := ⟨by simp [none9], by simp [none9], by simp [none9]⟩
  unfold nread
  dsimp only
  split
  · exact hn
  · split
    · rcases rfin_small (rpairs (rnum 1 (rst 1 ⟨xs, false⟩)) (rst 1 (rst 1 ⟨xs, false⟩)) ⟨true, [], [], []⟩) with e | e
      · rw [e]
        obtain ⟨p, q, r⟩ := rpairs_len (rnum 1 (rst 1 ⟨xs, false⟩)) (rst 1 (rst 1 ⟨xs, false⟩)) ⟨true, [], [], []⟩
        unfold nfit
        rw [p, q, r]
        simp
        omega
      · rw [e]; exact hn
    · split
      · rcases rfin_small (rkids (rnum 1 (rst 1 ⟨xs, false⟩)) (rst 1 (rst 1 ⟨xs, false⟩)) ⟨false, [], [], []⟩) with e | e
        · rw [e]
          obtain ⟨p, q, r⟩ := rkids_len (rnum 1 (rst 1 ⟨xs, false⟩)) (rst 1 (rst 1 ⟨xs, false⟩)) ⟨false, [], [], []⟩
          unfold nfit
          rw [p, q, r]
          simp
          omega
        · rw [e]; exact hn
      · exact hn

set_option maxRecDepth 100000 in
set_option maxHeartbeats 4000000 in
theorem pdecD_any (w : World) (v : Value) (xs : List UInt8) (h : Rd w v xs) :
    Calls Try.prog 62 #[v] w fun e w' => ∃ kv vv dv, e = .returned (.tuple #[nv (ndec xs).1 kv vv dv, .int .i64 (ndec xs).2]) ∧ OwnN w.heap.size w' kv vv dv (ndec xs).1 ∧ Below w.heap.size w w' ∧ Dj kv vv dv := by
  obtain ⟨X, hX, D, bX, sX⟩ := boxedN w #[.bool false, nil9, nil9, nil9] 83
  obtain ⟨a, c, rfl⟩ := h.slice
  have KR := hide (preadD_any X _ xs (h.to bX))
  have hfit := hide (nread_fit xs)
  have RX := hide (And.intro D sX)
  have BX := hide bX
  obtain ⟨nr, hnr⟩ : ∃ p, p = nread xs := ⟨_, rfl⟩
  have hd : Hid (ndec xs = if nr.2 = 0 then if ncheck nr.1 = 0 then nr else (none9, ncheck nr.1) else (none9, nr.2)) := by show _ = _; unfold ndec; rw [hnr]
  rw [← hnr] at KR hfit
  generalize ndec xs = dd at *
  clear h D bX sX hnr
  go_enter Try.func62, Try.ntmps62
  go_wp2_with fail
  rw [← hX]
  replace hX := hide hX
  refine KR.out.mono ?_
  rintro e w1 ⟨kv, vv, dv, rfl, o1, b1, dj1⟩
  have HJ := hide dj1
  clear KR dj1
  obtain ⟨n, err⟩ := nr
  dsimp only at *
  obtain ⟨ak, ck, av, cv, ad, cd, rfl, rfl, rfl⟩ := o1.rd.slices
  -- the node's box
  obtain ⟨V, hV⟩ : ∃ V, V = w1.alloc (.cells #[.bool n.leaf, .slice ak n.keys.length ck, .slice av n.vals.length cv, .slice ad n.kids.length cd] 83) := ⟨_, rfl⟩
  have bV : Below w1.heap.size w1 V := by rw [hV]; exact (Below.refl _ _).alloc (Nat.le_refl _) _
  have gV : V.heap[w1.heap.size]? = some (.cells #[.bool n.leaf, .slice ak n.keys.length ck, .slice av n.vals.length cv, .slice ad n.kids.length cd] 83 (0, 0)) := by rw [hV]; exact heap_alloc_last w1 _
  have o2 := o1.to bV
  have KC := hide (pcheck9_any V _ _ _ n o2.rd hfit.out)
  have b2 : Below X.heap.size X V := b1.trans (bV.mono b1.size)
  have RES : Hid (∀ U, Below V.heap.size V U → U.heap[w.heap.size]? = some (.cells #[.bool false, nil9, nil9, nil9] 83 (0, 0))) := fun U b => ((b2.trans (b.mono b2.size)).block _ (by have := RX.out.2; omega)).trans RX.out.1
  have BB : Hid (∀ U, Below V.heap.size V U → Below w.heap.size w U) := fun U b => BX.out.trans ((b2.trans (b.mono b2.size)).mono BX.out.size)
  have BOX : Hid (∀ U, Below V.heap.size V U → U.heap[w1.heap.size]? = some (.cells #[.bool n.leaf, .slice ak n.keys.length ck, .slice av n.vals.length cv, .slice ad n.kids.length cd] 83 (0, 0))) := fun U b => (b.block _ (lt_of_block gV)).trans gV
  have OO : Hid (∀ U, Below V.heap.size V U → OwnN (w.heap.size + 1) U (.slice ak n.keys.length ck) (.slice av n.vals.length cv) (.slice ad n.kids.length cd) n) := fun U b => (o2.to b).mono (by have := RX.out.2; omega)
  have D1 := (cells4 (RES.out V (Below.refl _ _)))
  obtain ⟨⟨R0, R1, R2, R3⟩, Rf⟩ := D1
  have Rf0 := Rf 0
  have Rf1 := Rf 1
  have Rf2 := Rf 2
  have Rf3 := Rf 3
  obtain ⟨⟨N0, N1, N2, N3⟩, _⟩ := cells4 gV
  clear o1 o2 b1 b2 bV gV Rf RX BX
  by_cases he : err = 0
  · subst he
    rw [if_pos rfl] at hd
    rw [hV] at N0 N1 N2 N3
    go_wp2_with fail
    rw [← hV]
    clear N0 N1 N2 N3 R0 R1 R2 R3 Rf0 Rf1 Rf2 Rf3
    replace hV := hide hV
    refine KC.out.mono ?_
    rintro e w2 ⟨rfl, b2⟩
    clear KC
    obtain ⟨⟨R0, R1, R2, R3⟩, Rf⟩ := cells4 (RES.out w2 b2)
    have Rf0 := Rf 0
    have Rf1 := Rf 1
    have Rf2 := Rf 2
    have Rf3 := Rf 3
    obtain ⟨⟨N0, N1, N2, N3⟩, _⟩ := cells4 (BOX.out w2 b2)
    have B2 := hide b2
    clear Rf b2
    by_cases hz : ncheck n = 0
    · rw [if_pos hz] at hd
      rw [hz]
      replace hz := hide hz
      go_wp2
      refine retNT rfl rfl w.heap.size rfl _ _ (0, 0) (heap_set4 (u := w2) (RES.out w2 B2.out) _ _ _ _) _ Try.underlying83 rfl info_ndP (.int .i64 0) rfl ?_
      have hlt : w.heap.size < w.heap.size + 1 := by omega
      exact ⟨_, _, _, by rw [hd.out], by rw [hd.out]; exact (((((OO.out w2 B2.out).set hlt 0 _).set hlt 1 _).set hlt 2 _).set hlt 3 _).mono (by omega), below_set4n (BB.out w2 B2.out) (Nat.le_refl _) _ _ _ _, HJ.out⟩
    · rw [if_neg hz] at hd
      generalize ncheck n = Z at *
      go_wp2
      refine retNT rfl rfl w.heap.size rfl _ _ (0, 0) (heap_set4 (u := w2) (RES.out w2 B2.out) _ _ _ _) _ Try.underlying83 rfl info_ndP (.int .i64 Z) rfl ?_
      exact ⟨nil9, nil9, nil9, by rw [hd.out]; rfl, by rw [hd.out]; exact OwnN.nil _ _ _, below_set4n (BB.out w2 B2.out) (Nat.le_refl _) _ _ _ _, Dj.nil⟩
  · rw [if_neg he] at hd
    rw [hV] at R0 R1 R2 R3 Rf0 Rf1 Rf2 Rf3
    go_wp2
    rw [← hV]
    refine retNT rfl rfl w.heap.size rfl _ _ (0, 0) (heap_set4 (u := V) (RES.out V (Below.refl _ _)) _ _ _ _) _ Try.underlying83 rfl info_ndP (.int .i64 err) rfl ?_
    exact ⟨nil9, nil9, nil9, by rw [hd.out]; rfl, by rw [hd.out]; exact OwnN.nil _ _ _, below_set4n (BB.out V (Below.refl _ _)) (Nat.le_refl _) _ _ _ _, Dj.nil⟩

theorem pdec_any (w : World) (v : Value) (xs : List UInt8) (h : Rd w v xs) :
    Calls Try.prog 62 #[v] w fun e w' => ∃ kv vv dv, e = .returned (.tuple #[nv (ndec xs).1 kv vv dv, .int .i64 (ndec xs).2]) ∧ OwnN w.heap.size w' kv vv dv (ndec xs).1 ∧ Below w.heap.size w w' :=
  (pdecD_any w v xs h).mono fun e w' ⟨kv, vv, dv, a, b, c, _⟩ => ⟨kv, vv, dv, a, b, c⟩

end Go.Proofs.Ytgmkknonnidgaaa
