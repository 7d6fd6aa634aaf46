/-
  The contract of the page's Scan of frames.
-/
import Derived.Test.YtlnoancjegifnaaFRefO
import Derived.Test.YtlnoancjegifnaaFList
namespace Go.Proofs.Ytlnoancjegifnaa
open Go.RowKit
set_option linter.unusedVariables false

theorem info_frame : (Try.prog.info? 77).map (fun i => (i.zero, i.size, i.bytes)) = some (some (.agg #[.int .u8 0, .slice none 0 0]), 2, 32) := by kernel_rfl

set_option maxRecDepth 100000 in
set_option maxHeartbeats 1000000 in
theorem rscan_any (w : World) (v : Value) (b : List UInt8) (hrd : Rd w v b) (hm : b.length ≤ 16777216) :
    Calls Try.prog 55 #[v] w fun e w' => ∃ v' fs p, e = .returned (.tuple #[v', .int .i64 (p : Nat)]) ∧ ScEnd b fs p ∧ OwnFs 77 w.heap.size w' v' fs ∧ Below w.heap.size w w' := by
  obtain ⟨i0, hi, hz0, hz1, hz2⟩ := info_parts info_frame
  obtain ⟨ao, cap, rfl⟩ := hrd.slice
  have hcap : b.length ≤ cap := by obtain ⟨_, _, e, l, _⟩ := hrd; cases e; exact l
  go_enter Try.func55, Try.ntmps55
  go_wp2
  go_loopw [4, 5] (fun l i wr => ∃ (fs : List Frm) (p : Nat), i = .int .i64 p ∧ p ≤ b.length ∧ Hid (stt b fs.length = some (fs, p)) ∧ OwnFs 77 w.heap.size wr l fs ∧ Below w.heap.size w wr) (fun _ i _ => b.length - (intOf i).toNat)
  case atStart => exact ⟨[], 0, rfl, Nat.zero_le _, hide rfl, OwnFs.nil _ _ _, Below.refl _ _⟩
  case round =>
    obtain ⟨fs, p, rfl, hp, hst, ho, hb⟩ := hrel
    obtain ⟨A, hA, rp⟩ := rd_cut (hrd.to hb) hp (Nat.le_refl _)
    rw [List.take_of_length_le (Nat.le_refl _)] at rp
    have y3 : (p : Int) ≤ (b.length : Int) := by omega
    have y4 : (b.length : Int) ≤ (cap : Int) := by omega
    have hl : (b.drop p).length ≤ 1000000000000000 := by simp; omega
    have HO := hide ho
    have HB := hide hb
    clear ho hb
    go_wp2_with fail
    refine (ropen_any _ _ (b.drop p) rp hl).mono ?_
    rintro e w1 ⟨sv, rfl, o1, b1⟩
    obtain ⟨sa, cs, rfl⟩ := o1.rd.slice
    obtain ⟨f1, f2, f3⟩ := fopen_le (b.drop p)
    have HL := hide (stt_len b _ hst.out)
    by_cases h0 : (fopen (b.drop p)).1 = 0
    · have hstep := hide (stt_step hst.out h0)
      have h8 := f3 h0
      rw [List.length_drop] at f1
      generalize (fopen (b.drop p)).2.2 = t at *
      generalize (fopen (b.drop p)).2.1 = f at *
      generalize (fopen (b.drop p)).1 = er at *
      subst h0
      have hb1 := HB.out.trans (b1.mono HB.out.size)
      have c1 : Below w1.heap.size w1 ((w1.alloc (.cells #[.int .u8 (f.1.toNat : Int), .slice sa f.2.length cs] 77)).alloc (.cells #[.int .u8 (f.1.toNat : Int), .slice sa f.2.length cs] 77)) :=
        ((Below.refl _ _).alloc (Nat.le_refl _) _).alloc (by simp) _
      obtain ⟨svs, s1, s2, s3⟩ := (HO.out.below (Nat.le_refl _) b1).below (Nat.le_refl _) c1
      have s4 := (o1.below (Nat.le_refl _) c1).mono (show w.heap.size ≤ wr.heap.size from HB.out.size)
      have hbW := hb1.trans (c1.mono hb1.size)
      have n2 := two_cells (w1.alloc (.cells #[.int .u8 (f.1.toNat : Int), .slice sa f.2.length cs] 77)) (.int .u8 (f.1.toNat : Int)) (.slice sa f.2.length cs) 77 (w1.heap.size + 1) (by simp)
      have n3 : ∀ u ∈ ([.int .u8 (f.1.toNat : Int), .slice sa f.2.length cs] : List Value), u.oneCell' = true := by simp [Value.oneCell']
      have hll := HL.out
      have h63 : fs.length + 1 ≤ maxLen := by rw [show maxLen = 9223372036854775807 from rfl]; omega
      have hby : (fs.length + 1) * 32 ≤ 140737488355328 := by omega
      have hbs : w.heap.size ≤ ((w1.alloc (.cells #[.int .u8 (f.1.toNat : Int), .slice sa f.2.length cs] 77)).alloc (.cells #[.int .u8 (f.1.toNat : Int), .slice sa f.2.length cs] 77)).heap.size := by have := hb1.size; simp; omega
      have S2 := hide s2
      have S3 := hide s3
      have S4 := hide s4
      have N2 := hide n2
      have HW := hide hbW
      have SL := hide s1
      clear s1 s2 s3 s4 n2 hbW o1 b1 HO HB hb1 c1 rp
      go_wp2_with (at_builtin; refine wpList_append_own _ rfl _ _ 96 rfl w.heap.size 77 i0 _ 2 32 Try.underlying96 hi hz0 hz1 hz2 rfl (by decide) u4 fs.length (fcells fs svs) rfl S2.out ⟨w1.heap.size + 1, 0, none⟩ 1 1 [.int .u8 (f.1.toNat : Int), .slice sa f.2.length cs] rfl rfl N2.out n3 h63 hby hbs ?_; intro v5 w5 hown5 hgrow5 _)
      have HF := hide (OwnFs.snoc (f := f) (by decide) SL.out S2.out S3.out S4.out hgrow5 hown5)
      have HG := hide (HW.out.grown hgrow5 hbs (OwnFs.from S2.out))
      clear hown5 hgrow5 S2 S3 S4 N2 HW SL
      go_wp2
      go_roundw
      case rel => exact ⟨fs ++ [f], p + t, by go_num, by omega, by rw [List.length_append]; exact hstep, HF.out, HG.out⟩
      case measure => simp [intOf]; omega
    · have hne : (((fopen (b.drop p)).1 : Nat) : Int) ≠ 0 := by omega
      have hend : ScEnd b fs p := ⟨hst.out, h0⟩
      have HE := hide hend
      have hd : ((((fopen (b.drop p)).1 : Nat) : Int) != 0) = true := by simp only [bne_iff_ne]; exact hne
      clear hend hne
      generalize (fopen (b.drop p)).2.2 = t at *
      generalize (fopen (b.drop p)).2.1 = f at *
      generalize (fopen (b.drop p)).1 = er at *
      have HB1 := hide (HB.out.trans (b1.mono HB.out.size))
      have HO1 := hide (HO.out.below (Nat.le_refl _) b1)
      clear b1 o1 HO HB rp
      go_wp2
      go_ret2
      have c1 : Below w1.heap.size w1 (w1.alloc (.cells #[.int .u8 (f.1.toNat : Int), .slice sa f.2.length cs] 77)) := (Below.refl _ _).alloc (Nat.le_refl _) _
      exact ⟨_, fs, p, rfl, HE.out, HO1.out.below (Nat.le_refl _) c1, HB1.out.trans (c1.mono HB1.out.size)⟩

end Go.Proofs.Ytlnoancjegifnaa
