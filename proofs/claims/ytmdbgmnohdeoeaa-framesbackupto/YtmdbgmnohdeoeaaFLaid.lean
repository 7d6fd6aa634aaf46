/-
  The contract of the law's own 'laid': frames one behind the other, and where each ends.
-/
import Derived.Test.YtmdbgmnohdeoeaaOwnI
import Derived.Test.YtmdbgmnohdeoeaaFLay
import Derived.Test.YtmdbgmnohdeoeaaFSay
import Derived.Test.YtmdbgmnohdeoeaaFList
namespace Go.Proofs.Ytmdbgmnohdeoeaa
open Go.RowKit
set_option linter.unusedVariables false

theorem fsealE_of (f : Frm) : fsealE f.2 = if okF f then 0 else 5 := by
  unfold fsealE okF
  by_cases h : f.2.length ≤ 4096
  · rw [if_neg (by omega), if_pos (by simpa using h)]
  · rw [if_pos (by omega), if_neg (by simpa using h)]

set_option maxHeartbeats 2000000 in
theorem laid_any (S : FramesSay) (w : World) (v : Value) (fs : List Frm) (h : RdFs w v fs) (hm : fbulk fs ≤ 1048576) :
    Calls Try.prog 20 #[v] w fun e w' => ∃ v1 v2, e = .returned (.tuple #[v1, v2]) ∧ OwnB w.heap.size w' v1 (layG (goodF fs)) ∧ OwnI w.heap.size w' v2 (ends (goodF fs)) ∧ Below w.heap.size w w' := by
  obtain ⟨ao, cap, rfl⟩ := h.slice
  obtain ⟨z1, z2, z3⟩ := lay_le fs
  go_enter Try.func20, Try.ntmps20
  go_wp2
  go_loopw [4, 5, 6] (fun p q i wr => ∃ n : Nat, n ≤ fs.length ∧ i = .int .i64 n ∧ Hid (OwnB w.heap.size wr p (layG (goodF (fs.take n)))) ∧ Hid (OwnI w.heap.size wr q (ends (goodF (fs.take n)))) ∧ Below w.heap.size w wr) (fun _ _ i _ => fs.length - (intOf i).toNat)
  case atStart => exact ⟨0, Nat.zero_le _, rfl, World.ownsRow_nil _ _ _ _, World.ownsRow_nil _ _ _ _, Below.refl _ _⟩
  case round =>
    obtain ⟨n, hn, rfl, ho, hi, hb⟩ := hrel
    by_cases hlt : n < fs.length
    · have hq : (n : Int) < (fs.length : Int) := by omega
      obtain ⟨_, _, ee, _, _, _, q7⟩ := h.to hb
      cases ee
      rcases q7 with q7 | ⟨b7, o7, rfl, h7⟩
      · rw [q7] at hlt; simp at hlt
      obtain ⟨u7, s7, t7, z7⟩ := h7 n hlt
      have hgs := goodF_succ fs n hlt
      have hfb : (fs.getD n (0, [])).2.length ≤ fbulk fs := by
        apply fbulk_mem
        simp only [List.getD_eq_getElem?_getD, List.getElem?_eq_getElem hlt, Option.getD_some]
        exact List.getElem_mem _
      have lg : (layG (goodF (fs.take n))).length + (fs.getD n (0, [])).2.length ≤ 10000000 := by
        have y1 := (lay_le (fs.take n)).1
        have y2 : fbulk (fs.take n) ≤ fbulk fs := by
          have : ∀ (l : List Frm) (k : Nat), fbulk (l.take k) ≤ fbulk l := by
            intro l
            induction l with
            | nil => intro k; simp [fbulk]
            | cons g r ih =>
              intro k
              cases k with
              | zero => simp [fbulk]
              | succ k => simp only [List.take_succ_cons, fbulk]; have := ih k; omega
          exact this fs n
        omega
      have lg2 : (ends (goodF (fs.take n))).length ≤ 1048576 := by
        rw [ends_length]
        have := (lay_le (fs.take n)).2.2
        simp at this; omega
      obtain ⟨sa, sc, rfl⟩ := z7.slice
      have kS : ∀ u, Rd u (.slice sa (fs.getD n (0, [])).2.length sc) (fs.getD n (0, [])).2 → Calls Try.prog 10 #[.agg #[.int .u8 ((fs.getD n (0, [])).1.toNat : Int), .slice sa (fs.getD n (0, [])).2.length sc]] u fun e w' => ∃ v', e = .returned (.tuple #[v', .int .i64 (fsealE (fs.getD n (0, [])).2)]) ∧ OwnB u.heap.size w' v' (fsealO (fs.getD n (0, [])).1 (fs.getD n (0, [])).2) ∧ Below u.heap.size u w' :=
        fun u hu => S.sealS u _ _ _ hu (by omega)
      have KS := hide kS
      have Z7 := hide z7.drew
      have HB := hide hb
      clear kS z7 hb h7
      have HE := fsealE_of (fs.getD n (0, []))
      have HO : fsealO (fs.getD n (0, [])).1 (fs.getD n (0, [])).2 = if okF (fs.getD n (0, [])) then fseal (fs.getD n (0, [])).1 (fs.getD n (0, [])).2 else [] := by
        unfold fsealO okF
        by_cases hl : (fs.getD n (0, [])).2.length ≤ 4096
        · rw [if_neg (by omega), if_pos (by simpa using hl)]
        · rw [if_pos (by omega), if_neg (by simpa using hl)]
      generalize fs.getD n (0, []) = f at *
      rw [HE, HO] at KS
      clear HE HO
      generalize hLF : f.2.length = LF at *
      replace hLF := hide hLF
      replace hgs := hide hgs
      go_wp2
      go_region_law (refine step_call (by rfl) 10 _ _ (by rfl) #[.agg #[.int .u8 (f.1.toNat : Int), .slice sa LF sc]] (by simp [Act.eval, Act.put]) (Try.call10 _ _) (KS.out _ Z7.out) ?_; rintro e w2 ⟨v2, rfl, o2, b2⟩; refine ⟨_, rfl, ?_⟩)
      all_goals
        have bd : Below wr.heap.size wr w2 := (below_drew (Below.refl _ wr)).trans b2
        have cc := HB.out.trans (bd.mono HB.out.size)
        have o4 := ho.out.below (Nat.le_refl _) bd
        have i4 := hi.out.below (Nat.le_refl _) bd
        have hs2 : w.heap.size ≤ w2.heap.size := cc.size
        clear b2 bd KS Z7 u7 t7 ho hi HB
        by_cases hok : okF f = true
        · rw [if_pos hok] at o2 ⊢
          have r2 := o2.rd
          have hgs' := hgs.out
          rw [if_pos hok] at hgs'
          have hlen : (layG (goodF (fs.take n))).length + (fseal f.1 f.2).length ≤ 140737488355328 := by rw [fseal_len, hLF.out]; omega
          have hl3 : layG (goodF (fs.take n)) ++ fseal f.1 f.2 = layG (goodF (fs.take (n + 1))) := by rw [hgs', layG_app, layG_one]
          have hl4 : ends (goodF (fs.take n)) ++ [((layG (goodF (fs.take (n + 1)))).length : Int)] = ends (goodF (fs.take (n + 1))) := by rw [hgs', ends_snoc]
          have HG := hide (And.intro hl3 hl4)
          have CC := hide cc
          have O4 := hide o4
          have I4 := hide i4
          have R2 := hide r2
          clear hl3 hl4 cc o4 i4 r2 o2 hgs' h z1
          go_wp2_with fail
          refine (num3_any _ _).mono ?_
          rintro e w' ⟨rfl, rfl⟩
          generalize layG (goodF (fs.take n)) = LG at *
          generalize ends (goodF (fs.take n)) = EG at *
          generalize hL' : layG (goodF (fs.take (n + 1))) = LG' at *
          replace hL' := hide hL'
          generalize hE' : ends (goodF (fs.take (n + 1))) = EG' at *
          replace hE' := hide hE'
          go_wp2_with (first
            | (at_builtin; refine wpList_append_octs rfl _ _ rfl w.heap.size _ _ LG (fseal f.1 f.2) rfl rfl O4.out R2.out hlen hs2 ?_; intro v5 w5 o5 b5 g5; rw [HG.out.1] at o5; have C5 := hide (CC.out.trans b5); have I5 := hide (World.ownsRow.kept I4.out g5 (rows_ne (by decide) I4.out O4.out)); have O5 := hide o5; have hs5 := Nat.le_trans hs2 b5.size; obtain ⟨a5, c5, rfl⟩ := o5.rd.slice; clear o5 b5 g5 O4 R2 I4 CC)
            | (at_builtin; refine wpList_append_int rfl _ _ rfl w.heap.size _ EG (LG'.length : Int) w5.heap.size rfl rfl (OwnI.below I5.out (Nat.le_refl _) ((Below.refl _ _).alloc (Nat.le_refl _) _)) (by rw [cell_of_row _ _ 0 _ _ (0, 0) (heap_alloc_last w5 _)]; rfl) (by omega) (by have := hs5; simp; omega) ?_; intro v6 w6 o6 b6 g6; rw [HG.out.2] at o6; have O6 := hide o6; have C6 := hide ((C5.out.alloc (hs5) _).trans b6); have P6 := hide (World.ownsRow.kept (OwnB.below O5.out (Nat.le_refl _) ((Below.refl _ w5).alloc (Nat.le_refl _) _)) g6 (rows_ne (by decide) O5.out I5.out)); clear o6 b6 g6 O5 I5 C5))
          go_roundw
          case rel => exact ⟨n + 1, by omega, by go_num, by rw [hL'.out]; exact P6, by rw [hE'.out]; exact O6, C6.out⟩
          case measure => simp [intOf]; omega
        · rw [if_neg hok] at o2 ⊢
          have hgs' := hgs.out
          rw [if_neg hok, List.append_nil] at hgs'
          have CC := hide cc
          have O4 := hide o4
          have I4 := hide i4
          rw [← hgs'] at O4 I4
          clear cc o4 i4 o2 hgs' h z1
          go_wp2_with fail
          refine (num3_any _ _).mono ?_
          rintro e w' ⟨rfl, rfl⟩
          go_wp2
          go_roundw
          case rel => exact ⟨n + 1, by omega, by go_num, O4, I4, CC.out⟩
          case measure => simp [intOf]; omega
    · obtain rfl : n = fs.length := by omega
      rw [List.take_length] at ho hi
      have hx : ∃ a c, u4 = .slice a (layG (goodF fs)).length c := ho.out.rd.slice
      go_wp2
      go_ret2
      exact ⟨_, _, rfl, ho.out, hi.out, hb⟩

end Go.Proofs.Ytmdbgmnohdeoeaa
