/- Several texts in one: PgDecR PgPB PgDiskR PgPC WFlushR WTruR WRow WRecR WOf WPC WPB WPD WLg WPE WPH UPB URf URg WSame WSay WAlive WIn WLd WLe WPF WPG WProg. -/
import Derived.Deep.CutRange
import Derived.Test.YtjjicajodjophaaGoLUSegs1
import Derived.Test.YtjjicajodjophaaGoLUSegs0
import Derived.Laws.MakeOwn
import Derived.Test.YtjjicajodjophaaGoLUSegs2
import Derived.Laws.IdiomStrings
set_option linter.unusedVariables false
set_option linter.unusedSimpArgs false
namespace Go.Proofs.Ytjjicajodjophaa
open Go.RowKit
end Go.Proofs.Ytjjicajodjophaa

namespace Go.Proofs.Ytjjicajodjophaa
open Go.RowKit
end Go.Proofs.Ytjjicajodjophaa

namespace Go.Proofs.Ytjjicajodjophaa
open Go.RowKit
end Go.Proofs.Ytjjicajodjophaa

namespace Go.Proofs.Ytjjicajodjophaa
open Go.RowKit
end Go.Proofs.Ytjjicajodjophaa

namespace Go.Proofs.Ytjjicajodjophaa
open Go.RowKit
theorem OwnF.num {T : Nat} {F : List Nat} {w : World} {a b : Value} {n : Int} {s : List Wrt} {wt : List (List UInt8)} (h : OwnF (SLg T) F w [a, .int .i64 n, b] (s, n, wt)) (m : Int) : OwnF (SLg T) F w [a, .int .i64 m, b] (s, m, wt) := by
 obtain ⟨FA, FB, rfl, hA, hB, hd⟩ := OwnF.split (c := [a]) (d := [.int .i64 n, b]) h rfl
 obtain ⟨FC, FD, rfl, hC, hD, hd2⟩ := OwnF.split (c := [.int .i64 n]) (d := [b]) hB rfl
 obtain ⟨⟨rfl, _⟩, _⟩ := hC
 exact OwnF.join (c := [a]) (d := [.int .i64 m, b]) hA (OwnF.join (c := [.int .i64 m]) (d := [b]) (s := Shp.int .i64) ⟨⟨rfl, rfl⟩, List.nodup_nil⟩ hD (fun b hb => by cases hb)) hd
theorem OwnF.waits {T : Nat} {F : List Nat} {w : World} {a b : Value} {n : Int} {s : List Wrt} {wt : List (List UInt8)} (h : OwnF (SLg T) F w [a, .int .i64 n, b] (s, n, wt)) : RdSec w b wt ∧ RdC w a s := by
 obtain ⟨FA, FB, rfl, hA, hB, hd⟩ := OwnF.split (c := [a]) (d := [.int .i64 n, b]) h rfl
 obtain ⟨FC, FD, rfl, hC, hD, hd2⟩ := OwnF.split (c := [.int .i64 n]) (d := [b]) hB rfl
 obtain ⟨v, e, r⟩ := hD.rd
 obtain ⟨v', e', r'⟩ := hA.rd
 simp at e e'; subst e e'
 exact ⟨r, r'⟩
theorem wroom_push {limit : Int} {segs : List Wrt} {next : Int} (h : segs.length = 0 ∨ limit ≤ ((wlast segs).2.length : Nat)) : wroom limit segs next = segs ++ [(next, [])] := if_pos h
theorem wroom_keep {limit : Int} {segs : List Wrt} {next : Int} (h : ¬ (segs.length = 0 ∨ limit ≤ ((wlast segs).2.length : Nat))) : wroom limit segs next = segs := if_neg h
theorem wlast_at {segs : List Wrt} {q : Nat} {s : Wrt} (h : segs.length = q + 1) (hs : segs[q]? = some s) : wlast segs = s := by
 unfold wlast; rw [h, Nat.add_sub_cancel, getD_some hs]
theorem wlay_at {segs : List Wrt} {q : Nat} {z : Int} {x r : List UInt8} (h : segs.length = q + 1) (hs : segs[q]? = some (z, x)) : wlay segs r = segs.set q (z, x ++ fseal 1 r) := by
 unfold wlay; rw [wlast_at h hs, h, Nat.add_sub_cancel]
end Go.Proofs.Ytjjicajodjophaa

namespace Go.Proofs.Ytjjicajodjophaa
open Go.RowKit
theorem addr_add0 (b off n : Nat) : (⟨b, off, none⟩ : Addr).add n = ⟨b, off + n, none⟩ := by
 by_cases h : n = 0
 ·subst h; simp [Addr.add]
 ·simp [Addr.add, h]
abbrev S3 (g : Nat) (w : World) (x y z : Value) : World := ((w.setCell ⟨g, 0, none⟩ x).setCell ⟨g, 1, none⟩ y).setCell ⟨g, 2, none⟩ z
theorem S3.size (g : Nat) (w : World) (x y z : Value) : (S3 g w x y z).heap.size = w.heap.size := by simp
end Go.Proofs.Ytjjicajodjophaa

namespace Go.Proofs.Ytjjicajodjophaa
open Go.RowKit
theorem OwnV.keepT {B C : Nat} {w w' : World} {v : Value} {xss : List (List UInt8)} (h : OwnV B C w v xss) (k1 : KeepT 5 w w') (k2 : KeepT 62 w w') : OwnV B C w' v xss := by
 obtain ⟨vs, h1, h2, h3⟩ := h
 exact ⟨vs, h1, rows_keepT h2 k2, fun i hi => rows_keepT (h3 i hi) k1⟩
theorem wpList_append_lists2 {ops : Array Oper} {rest : List Oper} {o : Oper} {a : Act} {w : World} {Q : Exit → Act → World → Prop} (hgd : o.guard = none) (s x : Operand)
  (ho : o.op = .call { callee := .builtin .append, args := #[s, x], argTypes := #[22, 22] }) (B B2 C : Nat) (v v2 : Value) (xss yss : List (List UInt8)) (hs : a.eval s = v) (hx : a.eval x = v2)
  (h1 : OwnV B C w v xss) (h2 : OwnV B2 C w v2 yss) (hlen : (xss.length + yss.length) * 24 ≤ 140737488355328) (hB : B ≤ w.heap.size)
  (h : ∀ v' w', OwnV B C w' v' (xss ++ yss) → Below B w w' → (∀ e, e ≠ 62 → KeepT e w w') → wpList Try.prog ops Q rest (a.put o.dst v') w') : wpList Try.prog ops Q (o :: rest) a w := by
 obtain ⟨i0, hi, hz0, hz1, hz2⟩ := info_parts infoB
 obtain ⟨vs, p1, p2, p3⟩ := id h1
 obtain ⟨us, k1, k2, k3⟩ := h2
 rcases k2.2 with ⟨rfl, h0⟩ | ⟨g, cap, cur, rfl, hb, hg, hn, hm, hsz, ht⟩
 ·have : yss = [] := List.eq_nil_of_length_eq_zero h0
  subst this
  refine wpList_append_own_none hgd s x 22 ho B 62 i0 1 Try.underlying22 hi v xss.length vs hs p2 hx ?_
  exact h v w (by simpa using h1) (Below.refl _ _) (fun e _ => KeepT.refl _ _)
 ·have e1 : us.length = yss.length * 1 := by rw [Nat.mul_one]; exact k1
  have e2 : ∀ j u, us[j]? = some u → w.cell? ((⟨g, 0, none⟩ : Addr).add j) = some u := fun j u hj => by
   have hjl : j < us.length := (List.getElem?_eq_some_iff.1 hj).1
   have := k2.cellAt j (by omega)
   rw [addr_add0, Nat.zero_add, this]
   exact hj
  have e3 : ∀ u ∈ us, u.oneCell' = true := fun u hu => by
   obtain ⟨j, hj, e⟩ := List.mem_iff_getElem.1 hu
   have := k3 j (by omega)
   obtain ⟨ao, c, e'⟩ := this.rd.slice
   have e4 : us.getD j undef = u := by rw [← e]; simp [List.getD_eq_getElem?_getD, hj]
   rw [e4] at e'
   rw [e']; rfl
  refine wpList_append_own _ hgd s x 22 ho B 62 i0 (.slice none 0 0) 1 24 Try.underlying22 hi hz0 hz1 hz2 rfl (by decide) v xss.length vs hs p2 ⟨g, 0, none⟩ yss.length cap us hx e1 e2 e3
   (by rw [show maxLen = 9223372036854775807 from rfl]; omega) (by omega) hB ?_
  intro v' w' q1 q2 _
  exact h v' w' (OwnV.app p1 p2 p3 k1 k3 q2 q1) ((Below.refl _ _).grown q2 hB (rows_from p2)) (fun e he => KeepT.grown p2 q2 he)
structure RInv (TS TL : Nat) (w wr : World) (o c : Value) (st : Wst) : Prop where
 box : wr.heap[w.heap.size + 1]? = some (.cells #[c, .int .i64 st.1.2, .slice none 0 0] TL (0, 0))
 ans : wr.heap[w.heap.size]? = some (.cells #[.slice none 0 0, .int .i64 0, .slice none 0 0] TL (0, 0))
 segs : OwnW TS w.heap.size wr c st.1.1
 recs : OwnV w.heap.size 0 wr o st.2
 bel : Below w.heap.size w wr
theorem RInv.to {TS TL : Nat} {w wr w' : World} {o c : Value} {st : Wst} (h : RInv TS TL w wr o c st) (hb : Below wr.heap.size wr w') : RInv TS TL w w' o c st :=
 ⟨(hb.block _ (lt_of_block h.box)).trans h.box, (hb.block _ (lt_of_block h.ans)).trans h.ans, h.segs.keepT (KeepT.below hb) (KeepT.below hb), h.recs.keepT (KeepT.below hb) (KeepT.below hb), h.bel.trans (hb.mono h.bel.size)⟩
theorem RInv.push {TS TL : Nat} {w u : World} {o c : Value} {ss : List Wrt} {nx : Int} {rs : List (List UInt8)} (h : RInv TS TL w u o c ((ss, nx), rs)) (t1 : TS ≠ 5) (t2 : TS ≠ 62) (t3 : TL ≠ 5) (t4 : TL ≠ 62) (t5 : TL ≠ TS) :
  ∃ cc, u.ownsRow 0 TS 2 c ss.length cc ∧ ∀ (w6 : World) (z : Int) (x : List UInt8) (sv : Value) (g cap : Nat), OwnB 0 u sv x → u.grownBy w6 c.ownBlock → w6.ownsRow 0 TS 2 (.slice (some ⟨g, 0, none⟩) (ss.length + 1) cap) (ss.length + 1) (cc ++ [.int .i64 z, sv]) → (c.ownBlock = some g ∨ g = u.heap.size) →
   (w6.cell? ⟨w.heap.size + 1, 0, none⟩ = some c ∧ w6.frozen? ⟨w.heap.size + 1, 0, none⟩ = false) ∧ RInv TS TL w (w6.setCell ⟨w.heap.size + 1, 0, none⟩ (.slice (some ⟨g, 0, none⟩) (ss.length + 1) cap)) o (.slice (some ⟨g, 0, none⟩) (ss.length + 1) cap) ((ss ++ [(z, x)], nx), rs) ∧ ∀ e, e ≠ TS → e ≠ TL → KeepT e u (w6.setCell ⟨w.heap.size + 1, 0, none⟩ (.slice (some ⟨g, 0, none⟩) (ss.length + 1) cap)) := by
 obtain ⟨svs, h1, h2, h3⟩ := h.segs
 refine ⟨_, rows_mono h2 (Nat.zero_le _), fun w6 z x sv g cap hs hg hw hlie => ?_⟩
 have hb6 := KeepT.grown h2 hg t5 _ _ _ h.box
 have ha6 := KeepT.grown h2 hg t5 _ _ _ h.ans
 have hcell := cells3 hb6
 have hw' : w6.ownsRow w.heap.size TS 2 (.slice (some ⟨g, 0, none⟩) (ss.length + 1) cap) (ss.length + 1) (wcells ss svs ++ [.int .i64 z, sv]) := by
  refine ⟨hw.1, ?_⟩
  rcases hw.2 with ⟨e, _⟩ | ⟨g', cap', cur, hv, hgb, r⟩
  ·cases e
  ·refine .inr ⟨g', cap', cur, hv, ?_, r⟩
   simp only [Value.slice.injEq, Option.some.injEq, Addr.mk.injEq] at hv
   obtain ⟨⟨rfl, _⟩, _⟩ := hv
   rcases hlie with e | e
   ·exact rows_from h2 _ e
   ·have := h.bel.size; omega
 have hS := OwnW.snoc (f := (z, x)) t1 h1 h2 h3 hs hg hw'
 have s6 : ∀ e, e ≠ TL → KeepT e w6 (w6.setCell ⟨w.heap.size + 1, 0, none⟩ (.slice (some ⟨g, 0, none⟩) (ss.length + 1) cap)) := fun e he => KeepT.set (a := ⟨w.heap.size + 1, 0, none⟩) hb6 he _
 refine ⟨⟨hcell.1.1, hcell.2 0⟩, ⟨set3_0 hb6 _, ?_, hS.keepT (s6 _ t3.symm) (s6 _ t5.symm), ?_, ?_⟩, fun e e1 e2 => (KeepT.grown h2 hg e1).trans (s6 e e2)⟩
 ·rw [Below.heap_setCell _ _ _ _ (show w.heap.size ≠ w.heap.size + 1 by omega)]; exact ha6
 ·exact (h.recs.keepT (KeepT.grown h2 hg t1.symm) (KeepT.grown h2 hg t2.symm)).keepT (s6 _ t3.symm) (s6 _ t4.symm)
 ·exact (h.bel.grown hg h.bel.size (rows_from h2)).setCell (p := ⟨w.heap.size + 1, 0, none⟩) (show w.heap.size ≤ w.heap.size + 1 by omega) _
theorem RInv.all {TS TL : Nat} {w u w' : World} {o o' c : Value} {a : List Wrt × Int} {rs rs' : List (List UInt8)} (h : RInv TS TL w u o c (a, rs)) (t2 : TS ≠ 62) (t4 : TL ≠ 62) (ho : OwnV w.heap.size 0 w' o' rs') (hb : Below w.heap.size u w') (hk : ∀ e, e ≠ 62 → KeepT e u w') : RInv TS TL w w' o' c (a, rs') :=
 ⟨hk _ t4 _ _ _ h.box, hk _ t4 _ _ _ h.ans, h.segs.keepT (hk _ (by decide)) (hk _ t2), ho, h.bel.trans hb⟩
theorem RInv.num {TS TL : Nat} {w u : World} {o c : Value} {ss : List Wrt} {nx : Int} {rs : List (List UInt8)} (h : RInv TS TL w u o c ((ss, nx), rs)) (t3 : TL ≠ 5) (t4 : TL ≠ 62) (t5 : TL ≠ TS) (m : Int) : RInv TS TL w (u.setCell ⟨w.heap.size + 1, 1, none⟩ (.int .i64 m)) o c ((ss, m), rs) := by
 have s6 : ∀ e, e ≠ TL → KeepT e u (u.setCell ⟨w.heap.size + 1, 1, none⟩ (.int .i64 m)) := fun e he => KeepT.set (a := ⟨w.heap.size + 1, 1, none⟩) h.box he _
 refine ⟨set3_1 h.box _, ?_, h.segs.keepT (s6 _ t3.symm) (s6 _ t5.symm), h.recs.keepT (s6 _ t3.symm) (s6 _ t4.symm), h.bel.setCell (p := ⟨w.heap.size + 1, 1, none⟩) (show w.heap.size ≤ w.heap.size + 1 by omega) _⟩
 rw [Below.heap_setCell _ _ _ _ (show w.heap.size ≠ w.heap.size + 1 by omega)]; exact h.ans
theorem RInv.ret {TS TL : Nat} {w u : World} {o c : Value} {ss : List Wrt} {nx : Int} {rs : List (List UInt8)} (h : RInv TS TL w u o c ((ss, nx), rs)) (t3 : TL ≠ 5) (t4 : TL ≠ 62) (t5 : TL ≠ TS) (x y z : Value) :
  RdC (S3 w.heap.size u x y z) c ss ∧ RdSec (S3 w.heap.size u x y z) o rs ∧ Below w.heap.size w (S3 w.heap.size u x y z) := by
 have k0 : ∀ e, e ≠ TL → KeepT e u (S3 w.heap.size u x y z) := fun e he =>
  ((KeepT.set (a := ⟨w.heap.size, 0, none⟩) h.ans he x).trans (KeepT.set (a := ⟨w.heap.size, 1, none⟩) (set3_0 h.ans x) he y)).trans (KeepT.set (a := ⟨w.heap.size, 2, none⟩) (set3_1 (set3_0 h.ans x) y) he z)
 exact ⟨(h.segs.keepT (k0 _ t3.symm) (k0 _ t5.symm)).rd, (h.recs.keepT (k0 _ t3.symm) (k0 _ t4.symm)).rd, below_set3 h.bel (Nat.le_refl _) _ _ _⟩
end Go.Proofs.Ytjjicajodjophaa

namespace Go.Proofs.Ytjjicajodjophaa
open Go.RowKit
end Go.Proofs.Ytjjicajodjophaa

namespace Go.Proofs.Ytjjicajodjophaa
open Go.RowKit
theorem infoSP : (Try.prog.info? 83).map (fun i => (i.zero, i.size, i.bytes)) = some (some (.agg #[.int .i64 0, .slice none 0 0]), 2, 32) := by kernel_rfl
theorem info_lgP : (Try.prog.info? 78).map (·.size) = some 3 := by kernel_rfl
end Go.Proofs.Ytjjicajodjophaa

namespace Go.Proofs.Ytjjicajodjophaa
open Go.RowKit
theorem wpList_make_run {P : Program} (w : World) {ops : Array Oper} {rest : List Oper} {o : Oper} {a : Act} {Q : Exit → Act → World → Prop} (hg : o.guard = none) (l c : Operand) (t : TypeId) (hop : o.op = Op.makeSlice t l c)
  (kl kc : IntKind) (C : Int) (n : Nat) (hl : a.eval l = .int kl 0) (hc : a.eval c = .int kc C) (hC : C = (n : Int)) (v : Value) (w' : World) (hr : (Instr.makeSlice t (.int kl 0) (.int kc (n : Int))).run P w = .ok v w') (h : wpList P ops Q rest (a.put o.dst v) w') : wpList P ops Q (o :: rest) a w := by
 refine wpList_plain hg fun K hK' => ?_
 subst hC
 unfold Oper.wp
 simp [execOp, hop, hl, hc, hr, Result.andThen]
 exact hK' _ _ h
set_option maxRecDepth 100000 in
set_option maxHeartbeats 2000000 in
theorem pcopies_any (w : World) (v : Value) (ws : List (List UInt8)) (h : RdSec w v ws) (hl : ws.length ≤ 1000000) (hx : ∀ x ∈ ws, x.length ≤ 140737488351232) :
  Calls Try.prog 63 #[v] w fun e w' => ∃ v', e = .returned v' ∧ OwnV w.heap.size w.heap.size w' v' ws ∧ Below w.heap.size w w' := by
 obtain ⟨i0, hi, hz0, hz1, hz2⟩ := info_parts infoB
 obtain ⟨a, c, rfl⟩ := h.slice
 obtain ⟨w1, hmk, own1, gr1⟩ := run_make_own (P := Try.prog) w w.heap.size 22 62 i0 (.slice none 0 0) 1 Try.underlying22 hi hz0 hz1 .i64 .i64 ws.length (by rw [hz2]; omega) (by unfold maxLen; omega) (Nat.le_refl _)
 have b1 : Below w.heap.size w w1 := (Below.refl _ _).grown gr1 (Nat.le_refl _) (fun k h => by cases h)
 have V1 : Hid (OwnV w.heap.size w.heap.size w1 (.slice (some ⟨w.heap.size, 0, none⟩) 0 ws.length) [] ∧ Below w.heap.size w w1) := ⟨⟨[], rfl, own1, fun i hi => by simp at hi⟩, b1⟩
 have HH := hide h
 clear own1 gr1 b1 h
 go_enter Try.func63, Try.ntmps63
 go_wp2_with (at_make; refine wpList_make_run _ rfl _ _ 22 rfl _ _ _ ws.length rfl rfl rfl _ _ hmk ?_)
 clear hmk
 go_loopw [3, 11] (fun o i wr => ∃ k : Nat, k ≤ ws.length ∧ i = .int .i64 k ∧ Hid (OwnV w.heap.size w.heap.size wr o (ws.take k) ∧ Below w.heap.size w wr)) (fun _ i _ => ws.length - (intOf i).toNat)
 case atStart => exact ⟨0, Nat.zero_le _, rfl, V1⟩
 case round =>
  obtain ⟨k, hk, rfl, hI⟩ := hrel
  clear V1
  by_cases hlt : k < ws.length
  ·have hq : (k : Int) < (ws.length : Int) := by omega
   obtain ⟨x, hxk, hxm⟩ := some_at ws hlt
   obtain ⟨b1, o1, u, rfl, hc, hr⟩ := (HH.out.to0 hI.out.2).oct hxk
   have KC := hide (bclone_any wr u x hr (hx x hxm))
   obtain ⟨ua, uc, rfl⟩ := hr.slice
   have hsn := hide (snoc_take ws hxk)
   have hkl : Hid ((ws.take k).length = k) := by show _ = _; simp; omega
   clear hr hxk hxm
   go_wp2_with fail
   refine KC.out.mono ?_
   rintro e w2 ⟨v2, rfl, o2, b2⟩
   clear KC
   obtain ⟨va, vc, hv2⟩ := o2.rd.slice
   have hb2 := hI.out.2.trans (b2.mono hI.out.2.size)
   obtain ⟨vs, v1, v2', v3⟩ := hI.out.1.below b2
   rw [hkl.out] at v2'
   have VR := hide (World.ownsRow.alloc v2' (.cells #[v2] 62))
   have h63 : k + 1 ≤ maxLen := by rw [show maxLen = 9223372036854775807 from rfl]; omega
   have hby : (k + 1) * 24 ≤ 140737488355328 := by omega
   have hbs : w.heap.size ≤ (w2.alloc (.cells #[v2] 62)).heap.size := by have := hb2.size; simp; omega
   have FIN : Hid (∀ v' w', (w2.alloc (.cells #[v2] 62)).grownBy w' u3.ownBlock → w'.ownsRow w.heap.size 62 1 v' (k + 1) (vs ++ [v2]) →
     Hid (OwnV w.heap.size w.heap.size w' v' (ws.take (k + 1)) ∧ Below w.heap.size w w')) := fun v' w' hg hw' => by
    have al : Below w2.heap.size w2 (w2.alloc (.cells #[v2] 62)) := (Below.refl _ _).alloc (Nat.le_refl _) _
    refine ⟨?_, (hb2.trans (al.mono hb2.size)).grown hg hbs (rows_from VR.out)⟩
    rw [← hsn.out]
    refine OwnV.app (w := w2.alloc (.cells #[v2] 62)) v1 (by rw [hkl.out]; exact VR.out) (fun i hi => (v3 i hi).below (Nat.le_refl _) al) (us := [v2]) rfl (fun i hi => ?_) hg (by rw [hkl.out]; exact hw')
    have hi0 : i = 0 := by simpa using hi
    subst hi0
    exact (o2.below (Nat.le_refl _) al).mono (show w.heap.size ≤ wr.heap.size from hI.out.2.size)
   obtain ⟨XL, hXL⟩ : ∃ XL, XL = x.length := ⟨_, rfl⟩
   rw [← hXL] at hv2
   replace hXL := hide hXL
   subst hv2
   clear v1 v2' v3 o2 b2 hb2
   go_wp2_with (at_builtin; refine wpList_append_own _ rfl _ _ 22 rfl w.heap.size 62 i0 _ 1 24 Try.underlying22 hi hz0 hz1 hz2 rfl (by decide) u3 k vs rfl VR.out ⟨w2.heap.size, 0, none⟩ 1 1 [.slice va XL vc] rfl rfl (World.news_of_block (heap_alloc_last w2 _)) (by simp [Value.oneCell']) h63 hby hbs ?_; intro v5 w5 hown5 hgrow5 _; have F5 := FIN.out v5 w5 hgrow5 hown5; clear hown5 hgrow5)
   go_roundw
   case rel => exact ⟨k + 1, by omega, by go_num, F5⟩
   case measure => simp [intOf]; omega
  ·have hq : ¬ (k : Int) < (ws.length : Int) := by omega
   obtain rfl : k = ws.length := by omega
   have FIN := hI
   rw [List.take_of_length_le (Nat.le_refl _)] at FIN
   clear hI
   go_wp2
   go_ret
   exact ⟨_, rfl, FIN.out⟩
set_option maxRecDepth 100000 in
set_option maxHeartbeats 2000000 in
theorem psegs_any (w : World) (v : Value) (ws : List Wrt) (h : RdC w v ws) (hl : ws.length ≤ 1000000) (hx : ∀ x ∈ ws, x.2.length ≤ 140737488351232) :
  Calls Try.prog 64 #[v] w fun e w' => ∃ v', e = .returned v' ∧ Own (Shp.list 83 SWr) w.heap.size w' [v'] ws ∧ Below w.heap.size w w' := by
 obtain ⟨j0, ji, jz0, jz1, jz2⟩ := info_parts infoSP
 obtain ⟨a, c, rfl⟩ := h.slice
 obtain ⟨w1, hmk, own1, gr1⟩ := run_make_own (P := Try.prog) w w.heap.size 47 83 j0 _ 2 Try.underlying47 ji jz0 jz1 .i64 .i64 ws.length (by rw [jz2]; omega) (by unfold maxLen; omega) (Nat.le_refl _)
 have b1 : Below w.heap.size w w1 := (Below.refl _ _).grown gr1 (Nat.le_refl _) (fun k h => by cases h)
 have V1 : Hid (∃ F, OwnF (Shp.list 83 SWr) F w1 [.slice (some ⟨w.heap.size, 0, none⟩) 0 ws.length] [] ∧ (∀ b, b ∈ F → w.heap.size ≤ b) ∧ Below w.heap.size w w1) := by
  obtain ⟨F, f1, f2⟩ := (Own.cap 83 SWr own1).foot
  exact ⟨F, f1, f2, b1⟩
 have HH := hide h
 clear own1 gr1 b1 h
 go_enter Try.func64, Try.ntmps64
 go_wp2_with (at_make; refine wpList_make_run _ rfl _ _ 47 rfl _ _ _ ws.length rfl rfl rfl _ _ hmk ?_)
 clear hmk
 go_loopw [3, 11] (fun o i wr => ∃ k : Nat, k ≤ ws.length ∧ i = .int .i64 k ∧ Hid (∃ F, OwnF (Shp.list 83 SWr) F wr [o] (ws.take k) ∧ (∀ b, b ∈ F → w.heap.size ≤ b) ∧ Below w.heap.size w wr)) (fun _ i _ => ws.length - (intOf i).toNat)
 case atStart => exact ⟨0, Nat.zero_le _, rfl, V1⟩
 case round =>
  obtain ⟨k, hk, rfl, hI⟩ := hrel
  clear V1
  by_cases hlt : k < ws.length
  ·have hq : (k : Int) < (ws.length : Int) := by omega
   obtain ⟨F, hF, hFB, hb⟩ := hI.out
   obtain ⟨y, hyk, hym⟩ := some_at ws hlt
   obtain ⟨b1, o1, u, rfl, hc1, hc2, hr⟩ := (HH.out.to0 hb).wrt hyk
   obtain ⟨au, cu, rfl⟩ := hr.slice
   obtain ⟨cc, rowT, fin⟩ := OwnF.lit hF (n := k) (by simp; omega)
   have hsn := snoc_take ws hyk
   have hxl := hx y hym
   obtain ⟨z, x⟩ := y
   dsimp only at hc1 hc2 hr hxl
   obtain ⟨X, hX, X0, bX, sX⟩ := boxedN wr #[.int .i64 z, .slice au x.length cu] 83
   obtain ⟨x0, x1, _, _⟩ := row2_cells X0
   have KC := hide (pcopy_any X _ z x x.length (hr.to bX) (Nat.le_refl _) hxl)
   rw [List.take_of_length_le (Nat.le_refl _)] at KC
   have BX := hide bX
   have FIN : Hid (∀ (w2 : World) (v2 : Value) (w5 : World) (g cap : Nat), Below wr.heap.size wr w2 → OwnB wr.heap.size w2 v2 x → (w2.alloc (.cells #[.int .i64 z, v2] 83)).grownBy w5 u3.ownBlock →
     w5.ownsRow 0 83 2 (.slice (some ⟨g, 0, none⟩) (k + 1) cap) (k + 1) (cc ++ [.int .i64 z, v2]) → (u3.ownBlock = some g ∨ g = w2.heap.size + 1) →
     Hid (∃ F, OwnF (Shp.list 83 SWr) F w5 [.slice (some ⟨g, 0, none⟩) (k + 1) cap] (ws.take (k + 1)) ∧ (∀ b, b ∈ F → w.heap.size ≤ b) ∧ Below w.heap.size w w5)) := fun w2 v2 w5 g cap k1 k2 k3 k4 k5 => by
    obtain ⟨⟨F', q1, q2⟩, q3, q4⟩ := fin w2 [.int .i64 z, v2] (z, x) 83 _ w5 g cap k1 (own_wrt k2) rfl rfl rfl rfl k3 k4 k5
    rw [hsn] at q1
    exact ⟨F', q1, fun b hb' => (q2 b hb').elim (hFB b) (fun h => by have := hb.size; omega), hb.trans (q3 w.heap.size hFB hb.size)⟩
   have ROW : Hid (∀ u, Below wr.heap.size wr u → ∀ o : Obj, (u.alloc o).ownsRow 0 83 2 u3 k cc) := fun u hu o => rowT _ (hu.alloc hu.size o)
   have h63 : k + 1 ≤ maxLen := by rw [show maxLen = 9223372036854775807 from rfl]; omega
   have hby : (k + 1) * 32 ≤ 140737488355328 := by omega
   clear fin rowT hsn hF hFB hr hb hyk hym hI bX X0
   obtain ⟨ll, lc, hl'⟩ : ∃ ll lc, u3 = .slice ll k lc := by
    rcases (ROW.out wr (Below.refl _ _) (.cells #[] 0)).2 with ⟨rfl, rfl⟩ | ⟨g, cap, cur, rfl, _⟩
    ·exact ⟨_, _, rfl⟩
    ·exact ⟨_, _, rfl⟩
   subst hl'
   obtain ⟨XL, hXL⟩ : ∃ XL, XL = x.length := ⟨_, rfl⟩
   rw [← hXL] at KC hX x1 hc2
   replace hXL := hide hXL
   rw [hX] at x0 x1
   go_wp2_with fail
   rw [← hX]
   replace hX := hide hX
   clear x0 x1 hc1 hc2
   refine KC.out.mono ?_
   rintro e w2 ⟨v2, rfl, o2, b2⟩
   clear KC
   obtain ⟨va, vc, hv2⟩ := o2.rd.slice
   rw [← hXL.out] at hv2
   subst hv2
   have c2 := BX.out.trans (b2.mono BX.out.size)
   have o2' := o2.mono BX.out.size
   have RW := hide (ROW.out w2 c2 (.cells #[.int .i64 z, .slice va XL vc] 83))
   have FN := hide (fun w5 g cap k3 k4 k5 => FIN.out w2 (.slice va XL vc) w5 g cap c2 o2' k3 k4 k5)
   clear o2 b2 c2 o2' FIN ROW BX
   go_wp2_with (at_builtin; refine wpList_append_lies _ rfl _ _ 47 rfl 0 83 j0 _ 2 32 Try.underlying47 ji jz0 jz1 jz2 rfl (by decide) (.slice ll k lc) k cc rfl RW.out ⟨w2.heap.size, 0, none⟩ 1 1 [.int .i64 z, .slice va XL vc] rfl rfl (World.news_of_block (heap_alloc_last w2 _)) (by simp [Value.oneCell']) (by decide) h63 hby (Nat.zero_le _) (w2.heap.size + 1) (by simp) ?_; intro g cap w5 ho5 hg5 hat5 hlt5; have HF := FN.out w5 g cap hg5 ho5 hat5; clear ho5 hg5 hat5 FN RW)
   go_roundw
   case rel => exact ⟨k + 1, by omega, by go_num, HF⟩
   case measure => simp [intOf]; omega
  ·have hq : ¬ (k : Int) < (ws.length : Int) := by omega
   obtain rfl : k = ws.length := by omega
   obtain ⟨F, hF, hFB, hb⟩ := hI.out
   rw [List.take_of_length_le (Nat.le_refl _)] at hF
   have OO := hide (And.intro (hF.own hFB) hb)
   clear hF hFB hb hI
   go_wp2
   go_ret
   exact ⟨_, rfl, OO.out.1, OO.out.2⟩
end Go.Proofs.Ytjjicajodjophaa

namespace Go.Proofs.Ytjjicajodjophaa
open Go.RowKit
set_option maxRecDepth 100000 in
set_option maxHeartbeats 2000000 in
theorem pread_any (w : World) (v : Value) (b : List UInt8) (hrd : Rd w v b) (hm : b.length ≤ 16777216) :
  Calls Try.prog 79 #[v] w fun e w' => ∃ v', e = .returned (.tuple #[v', .int .i64 (wn b : Nat)]) ∧ OwnV w.heap.size w.heap.size w' v' (wrecs b) ∧ Below w.heap.size w w' := by
 obtain ⟨i0, hi, hz0, hz1, hz2⟩ := info_parts infoB
 obtain ⟨ao, cap, rfl⟩ := hrd.slice
 have hcap : b.length ≤ cap := by obtain ⟨_, _, e, l, _⟩ := hrd; cases e; exact l
 go_enter Try.func79, Try.ntmps79
 go_wp2
 go_loopw [4, 5] (fun o t wr => ∃ (fs : List Frm) (p : Nat), t = .int .i64 p ∧ p ≤ b.length ∧ Hid (stt b fs.length = some (fs, p) ∧ (∀ f ∈ fs, f.1 = 1)) ∧ Hid (OwnV w.heap.size w.heap.size wr o (fs.map Prod.snd) ∧ Below w.heap.size w wr)) (fun _ t _ => b.length - (intOf t).toNat)
 case atStart => exact ⟨[], 0, rfl, Nat.zero_le _, hide ⟨rfl, fun f hf => by cases hf⟩, hide ⟨OwnV.nil _ _ _, Below.refl _ _⟩⟩
 case round =>
  obtain ⟨fs, p, rfl, hp, hst, hI⟩ := hrel
  obtain ⟨A, hA, rp⟩ := rd_cut (hrd.to hI.out.2) hp (Nat.le_refl _)
  rw [List.take_of_length_le (Nat.le_refl _)] at rp
  have y3 : (p : Int) ≤ (b.length : Int) := by omega
  have y4 : (b.length : Int) ≤ (cap : Int) := by omega
  have KO := hide (fopen_any wr _ (b.drop p) rp (by simp; omega))
  clear rp
  go_wp2_with fail
  refine KO.out.mono ?_
  rintro e w1 ⟨sv, rfl, o1, b1⟩
  clear KO
  obtain ⟨sa, cs, hsv⟩ := o1.rd.slice
  obtain ⟨f1, f2, f3⟩ := fopen_le (b.drop p)
  have HL := hide (stt_len b _ hst.out.1)
  have hstop := hide (fun h => wread_end hst.out.1 hst.out.2 h)
  have hstep := hide (fun h => stt_step hst.out.1 h)
  obtain ⟨X, hX, X0, bX, sX⟩ := boxedN w1 #[.int .u8 ((fopen (b.drop p)).2.1.1.toNat : Int), sv] 157
  obtain ⟨x0, x1, _, _⟩ := row2_cells X0
  have c1 := b1.trans (bX.mono b1.size)
  have V1 := hI.out.1.below c1
  have O1 := o1.below (Nat.le_refl _) bX
  have hb1 := hI.out.2.trans (c1.mono hI.out.2.size)
  have hdl : (fopen (b.drop p)).2.1.2.length ≤ 4096 ∨ (fopen (b.drop p)).1 ≠ 0 := by
   by_cases h0 : (fopen (b.drop p)).1 = 0
   ·left
    obtain ⟨_, _, k3, k4, _, k6, k7⟩ := fopen_ok h0
    rw [k6]; simp only [List.length_take, List.length_drop] at k4 ⊢; omega
   ·exact .inr h0
  by_cases h0 : (fopen (b.drop p)).1 = 0
  ·have h8 := f3 h0
   have h1' := hide h0
   rw [List.length_drop] at f1
   by_cases hk : (fopen (b.drop p)).2.1.1 = 1
   ·have hdl2 := hdl.resolve_right fun q => q h0
    have hS := hide (hstep.out h0)
    generalize (fopen (b.drop p)).2.2 = t at *
    generalize (fopen (b.drop p)).2.1 = f at *
    generalize (fopen (b.drop p)).1 = er at *
    subst h0
    have hkk : f.1.toNat = 1 := by rw [hk]; rfl
    rw [hkk] at x0 hX X0 ⊢
    have kk0 : ((1 : Nat) : Int) = 1 := rfl
    rw [kk0] at x0 hX X0 ⊢
    clear hkk kk0
    obtain ⟨DL, hDL⟩ : ∃ DL, DL = f.2.length := ⟨_, rfl⟩
    rw [← hDL] at hsv hdl2
    subst hsv
    obtain ⟨K, hK⟩ : ∃ K, K = fs.length := ⟨_, rfl⟩
    obtain ⟨vs, v1, v2, v3⟩ := V1
    rw [List.length_map, ← hK] at v2
    have hKl : K ≤ 2097152 := by have := HL.out.2.2; omega
    have V2 := hide (World.ownsRow.alloc v2 (.cells #[.slice sa DL cs] 62))
    have NEWS : Hid (∀ j u, ([.slice sa DL cs] : List Value)[j]? = some u → (X.alloc (.cells #[.slice sa DL cs] 62)).cell? ((⟨w1.heap.size + 1, 0, none⟩ : Addr).add j) = some u) := by
     rw [← sX]; exact World.news_of_block (heap_alloc_last X _)
    have h63 : K + 1 ≤ maxLen := by rw [show maxLen = 9223372036854775807 from rfl]; omega
    have hby : (K + 1) * 24 ≤ 140737488355328 := by omega
    have hbs : w.heap.size ≤ (X.alloc (.cells #[.slice sa DL cs] 62)).heap.size := by have := hb1.size; simp; omega
    have FIN : Hid (∀ v' w', (X.alloc (.cells #[.slice sa DL cs] 62)).grownBy w' u4.ownBlock → w'.ownsRow w.heap.size 62 1 v' (K + 1) (vs ++ [.slice sa DL cs]) →
      Hid (stt b (fs ++ [f]).length = some (fs ++ [f], p + t) ∧ (∀ g ∈ fs ++ [f], g.1 = 1)) ∧ Hid (OwnV w.heap.size w.heap.size w' v' ((fs ++ [f]).map Prod.snd) ∧ Below w.heap.size w w')) := fun v' w' hg hw' => by
     have al : Below X.heap.size X (X.alloc (.cells #[.slice sa DL cs] 62)) := (Below.refl _ _).alloc (Nat.le_refl _) _
     refine ⟨⟨by rw [List.length_append]; exact hS.out, fun g hg' => ?_⟩, ?_, (hb1.trans (al.mono hb1.size)).grown hg hbs (rows_from V2.out)⟩
     ·rcases List.mem_append.1 hg' with hg' | hg'
      ·exact hst.out.2 g hg'
      ·simp only [List.mem_singleton] at hg'; subst hg'; exact hk
     ·rw [List.map_append]
      refine OwnV.app (w := X.alloc (.cells #[.slice sa DL cs] 62)) v1 (by rw [List.length_map, ← hK]; exact V2.out) (fun i hi => (v3 i hi).below (Nat.le_refl _) al) (us := [.slice sa DL cs]) rfl (fun i hi => ?_) hg (by rw [List.length_map, ← hK]; exact hw')
      have hi0 : i = 0 := by simpa using hi
      subst hi0
      exact (O1.below (Nat.le_refl _) al).mono (show w.heap.size ≤ wr.heap.size from hI.out.2.size)
    replace hDL := hide hDL
    replace hK := hide hK
    replace hk := hide hk
    clear v1 v2 v3 O1 o1 b1 bX c1 hstep hstop hdl f2 f3
    rw [hX] at x0 x1
    go_wp2_with (at_builtin; rw [← hX]; refine wpList_append_own _ rfl _ _ 22 rfl w.heap.size 62 i0 _ 1 24 Try.underlying22 hi hz0 hz1 hz2 rfl (by decide) u4 K vs rfl V2.out ⟨w1.heap.size + 1, 0, none⟩ 1 1 [.slice sa DL cs] rfl rfl NEWS.out (by simp [Value.oneCell']) h63 hby hbs ?_; intro v5 w5 hown5 hgrow5 _; obtain ⟨F4, F5⟩ := FIN.out v5 w5 hgrow5 hown5; clear hown5 hgrow5)
    go_roundw
    case rel => exact ⟨fs ++ [f], p + t, by go_num, by omega, F4, F5⟩
    case measure => simp [intOf]; omega
   ·obtain ⟨e1, e2⟩ := hstop.out (.inr hk)
    have FIN : Hid (OwnV w.heap.size w.heap.size X u4 (wrecs b) ∧ Below w.heap.size w X) := ⟨by rw [e1]; exact V1, hb1⟩
    have hWn := hide e2
    generalize (fopen (b.drop p)).2.2 = t at *
    generalize (fopen (b.drop p)).2.1 = f at *
    generalize (fopen (b.drop p)).1 = er at *
    subst h0
    have hkb : ((f.1.toNat : Int) == 1) = false := by
     simp only [beq_eq_false_iff_ne]
     intro h
     exact hk (UInt8.toNat_inj.1 (by show f.1.toNat = 1; omega))
    replace hk := hide hk
    obtain ⟨DL, hDL⟩ : ∃ DL, DL = f.2.length := ⟨_, rfl⟩
    rw [← hDL] at hsv
    replace hDL := hide hDL
    subst hsv
    rw [hX] at x0 x1
    clear e1 e2 V1 O1 o1 b1 bX c1 hstep hstop hdl f2 f3
    go_wp2
    rw [← hX]
    go_ret2
    exact ⟨_, by rw [hWn.out]; rfl, FIN.out⟩
  ·obtain ⟨e1, e2⟩ := hstop.out (.inl h0)
   have FIN : Hid (OwnV w.heap.size w.heap.size X u4 (wrecs b) ∧ Below w.heap.size w X) := ⟨by rw [e1]; exact V1, hb1⟩
   have hWn := hide e2
   generalize (fopen (b.drop p)).2.2 = t at *
   generalize (fopen (b.drop p)).2.1 = f at *
   generalize (fopen (b.drop p)).1 = er at *
   have hd : ((er : Int) != 0) = true := by simp only [bne_iff_ne]; omega
   replace h0 := hide h0
   obtain ⟨DL, hDL⟩ : ∃ DL, DL = f.2.length := ⟨_, rfl⟩
   rw [← hDL] at hsv
   replace hDL := hide hDL
   subst hsv
   rw [hX] at x0 x1
   clear e1 e2 V1 O1 o1 b1 bX c1 hstep hstop hdl f2 f3
   go_wp2
   rw [← hX]
   go_ret2
   exact ⟨_, by rw [hWn.out]; rfl, FIN.out⟩
end Go.Proofs.Ytjjicajodjophaa

namespace Go.Proofs.Ytjjicajodjophaa
open Go.RowKit
theorem not_wok_pseg {l : Wlg} {s : Wrt} {k : Nat} (hs : l.1[k]? = some s) (h : ¬ psegOk l.1 l.2.1 k s) : ¬ WOk l := fun q => h ((wok_psegs q).1 k s hs)
theorem Calls.flip {P : Program} {f : FuncId} {args : Array Value} {w : World} {v : Value} (h : Calls P f args w fun e w' => e = .returned v ∧ w = w') : Calls P f args w fun e w' => e = .returned v ∧ w' = w := h.mono fun _ _ ⟨a, b⟩ => ⟨a, b.symm⟩
theorem pst_succ {segs : List Wrt} {next : Int} {k : Nat} {s : Wrt} (hs : segs[k]? = some s) : pst segs next (k + 1) = pst segs next k + ((wrecs s.2).length : Nat) := by
 show pst segs next k + _ = _
 rw [wseg_at hs]
set_option maxRecDepth 100000 in
set_option maxHeartbeats 4000000 in
theorem pwcheck_any (w : World) (sv wv : Value) (l : Wlg) (h1 : RdC w sv l.1) (h2 : RdSec w wv l.2.2) (hm : ∀ s ∈ l.1, s.2.length ≤ 16777216) :
  Calls Try.prog 43 #[.agg #[sv, .int .i64 l.2.1, wv]] w fun e w' => e = .returned (.int .i64 (wcheck l)) ∧ Below w.heap.size w w' := by
 have lb1 := h1.bd
 have lb2 := h2.bd
 obtain ⟨a1, c1, rfl⟩ := h1.slice
 obtain ⟨a2, c2, rfl⟩ := h2.slice
 obtain ⟨X, hX, X0, bX, sX⟩ := boxedN w #[.slice a1 l.1.length c1, .int .i64 l.2.1, .slice a2 l.2.2.length c2] 78
 obtain ⟨⟨A0, A1, A2⟩, _⟩ := cells3 X0
 have G1 := hide (h1.to0 bX)
 have G2 := hide (h2.to0 bX)
 have HX := hide X0
 have A0' := hide A0
 have A1' := hide A1
 have A2' := hide A2
 rw [hX] at A0 A1 A2
 have BX := hide bX
 clear h1 h2 X0 bX
 obtain ⟨segs, next, wait⟩ := l
 dsimp only at *
 go_enter Try.func43, Try.ntmps43
 by_cases q1 : 4096 < segs.length
 ·have hq1 : (4096 : Int) < (segs.length : Int) := by omega
  have hE := hide (wcheck_no (l := (segs, next, wait)) (not_wok_segs q1))
  go_wp2
  go_ret
  exact ⟨ret_int hE.out.symm, by rw [← hX]; exact BX.out⟩
 ·have hq1 : ¬ (4096 : Int) < (segs.length : Int) := by omega
  by_cases q3 : 4096 < wait.length
  ·have hq3 : (4096 : Int) < (wait.length : Int) := by omega
   have hE := hide (wcheck_no (l := (segs, next, wait)) (not_wok_wait q3))
   go_wp2
   go_ret
   exact ⟨ret_int hE.out.symm, by rw [← hX]; exact BX.out⟩
  ·have hq3 : ¬ (4096 : Int) < (wait.length : Int) := by omega
   by_cases q2 : widx next
   ·have KI := hide (fun u => pindex_any u next)
    rw [decide_eq_true q2] at KI
    have b0 : Below X.heap.size X X.drew := (Below.refl _ _).drew
    have HS : Hid (∀ w9, Below X.heap.size X w9 → w9.cell? ⟨w.heap.size, 1, none⟩ = some (.int .i64 next) ∧ w9.cell? ⟨w.heap.size, 2, none⟩ = some (.slice a2 wait.length c2)) := fun w9 b9 =>
     ⟨(b9.cell (cell_lt A1'.out)).trans A1'.out, (b9.cell (cell_lt A2'.out)).trans A2'.out⟩
    have Q2 := hide q2
    clear q2
    go_upto_region 3 with fail
    rw [← hX]
    rw [← hX] at A0 A1 A2
    replace hX := hide hX
    go_cut [27] from 18 to 27 (fun s wx => ∃ bb : Bool, s = .bool bb ∧ Hid (bb = true ↔ ¬ wwaitOk wait) ∧ Hid (Below X.heap.size X wx))
    case first =>
     refine wp_region_sched (fun w9 => w9.cell? ⟨w.heap.size, 1, none⟩ = some (.int .i64 next) ∧ w9.cell? ⟨w.heap.size, 2, none⟩ = some (.slice a2 wait.length c2)) [(0, true), (1, true), (2, false), (3, true), (4, true), (5, true), (6, true), (7, false), (8, false)] 9 mixed (by kernel_rfl) (fun _ _ _ _ h => h) ?_
     iterate 2
      refine sched_take (v := ?_) rfl (by kernel_rfl) (HS.out _ b0) ?_ ?_
      rotate_left
      ·rintro w9 ⟨s0, s1⟩
       go_simp
       try with_reducible rfl
      try simp only [Act.put, List.setIfInBounds_toArray, List.set_cons_zero, List.set_cons_succ]
     refine sched_run rfl (by kernel_rfl) fun K hK => ?_
     refine wp_call_of 74 _ _ (by rfl) #[.int .i64 next] (by simp [Act.eval]) (Try.call74 _ _) (KI.out _) ?_
     rintro e w' ⟨rfl, rfl⟩
     refine ⟨_, rfl, hK _ _ (HS.out _ b0) ?_⟩
     clear hK K
     try simp only [Act.put, List.setIfInBounds_toArray, List.set_cons_zero, List.set_cons_succ]
     iterate 4
      refine sched_take (v := ?_) rfl (by kernel_rfl) (HS.out _ b0) ?_ ?_
      rotate_left
      ·rintro w9 ⟨s0, s1⟩
       go_simp
       try with_reducible rfl
      try simp only [Act.put, List.setIfInBounds_toArray, List.set_cons_zero, List.set_cons_succ]
     refine sched_run rfl (by kernel_rfl) fun K hK => ?_
     refine wp_call_of 62 _ _ (by rfl) #[.int .i64 4096] (by simp [Act.eval]) (Try.call62 _ _) (plonger_any _) ?_
     rintro e w2 ⟨rfl, hc2, b2⟩
     have d2 : Below X.heap.size X w2 := b0.trans (b2.mono b0.size)
     refine ⟨_, rfl, hK _ _ (HS.out _ d2) ?_⟩
     clear hK K
     try simp only [Act.put, List.setIfInBounds_toArray, List.set_cons_zero, List.set_cons_succ]
     refine sched_run rfl (by kernel_rfl) fun K hK => ?_
     refine wp_call_of 61 _ _ (by rfl) _ (by simp [Act.eval]) (Try.call61 _ _) (pcontains_any w2 _ _ wait (G2.out.to0 d2) hc2) ?_
     rintro e w' ⟨bb, rfl, hbb, rfl⟩
     refine ⟨_, rfl, hK _ _ (HS.out _ d2) ?_⟩
     clear hK K
     try simp only [Act.put, List.setIfInBounds_toArray, List.set_cons_zero, List.set_cons_succ]
     have hbb' := hide hbb
     clear hbb
     replace d2 := hide d2
     show wpList _ _ _ _ _ _
     dsimp only [List.drop]
     go_wp2_with fail
     go_meet
     exact ⟨bb, rfl, hbb', d2⟩
    case rest =>
    obtain ⟨bb, rfl, hbb, d3⟩ := hcut
    obtain ⟨U, hU⟩ : ∃ U, U = wc := ⟨_, rfl⟩
    rw [← hU] at d3 ⊢
    replace hU := hide hU
    clear KI HS b0 A0 A1 A2
    by_cases hW : wwaitOk wait
    ·have hb0 : bb = false := by cases bb with | false => rfl | true => exact absurd hW (hbb.out.1 rfl)
     subst hb0
     obtain ⟨⟨A0, A1, A2⟩, _⟩ := cells3 ((d3.out.block _ (lt_of_block HX.out)).trans HX.out)
     have KF := hide (pfirst_any U _ (.slice a2 wait.length c2) (segs, next, wait) (G1.out.to0 d3.out))
     dsimp only at KF
     have HW := hide hW
     clear hbb hW
     go_wp2_with fail
     refine KF.out.mono ?_
     rintro e w4 ⟨rfl, b4⟩
     clear KF
     have d4 := hide (d3.out.trans (b4.mono d3.out.size))
     replace A0 := (b4.cell (cell_lt A0)).trans A0
     clear d3 b4 A1 A2
     go_wp2
     go_loopw [3, 33] (fun n i wr => ∃ K : Nat, K ≤ segs.length ∧ i = .int .i64 K ∧ n = .int .i64 (pst segs next K) ∧ Hid (Below X.heap.size X wr ∧ ∀ j s, j < K → segs[j]? = some s → psegOk segs next j s)) (fun _ i _ => segs.length - (intOf i).toNat)
     case atStart => exact ⟨0, Nat.zero_le _, rfl, rfl, hide ⟨d4.out, fun j s hj => by omega⟩⟩
     case round =>
      obtain ⟨K, hK, rfl, rfl, hI⟩ := hrel
      clear A0
      obtain ⟨⟨A0, A1, A2⟩, _⟩ := cells3 ((hI.out.1.block _ (lt_of_block HX.out)).trans HX.out)
      obtain ⟨N, hN⟩ : ∃ N, N = pst segs next K := ⟨_, rfl⟩
      rw [← hN]
      have hN' := hide hN
      by_cases hlt : K < segs.length
      ·have hq : (K : Int) < (segs.length : Int) := by omega
       obtain ⟨y, hy, hym⟩ := some_at segs hlt
       obtain ⟨b1, o1, u, rfl, hc0, hc1, hru⟩ := (G1.out.to0 hI.out.1).wrt hy
       have hyl := hm y hym
       have hnok := hide (fun h => wcheck_no (not_wok_pseg (l := (segs, next, wait)) (k := K) hy h))
       have hst := hide (pst_succ (next := next) hy)
       obtain ⟨yz, yx⟩ := y
       dsimp only at hc0 hc1 hru hyl hst
       obtain ⟨ua, uc, rfl⟩ := hru.slice
       obtain ⟨Y, hY, Y0, bY, sY⟩ := boxedN wr #[.int .i64 yz, .slice ua yx.length uc] 83
       obtain ⟨y0, y1, _, _⟩ := row2_cells Y0
       have KW := hide (pread_any Y _ yx (hru.to bY) hyl)
       have cY := hide (hI.out.1.trans (bY.mono hI.out.1.size))
       rw [hY] at y0 y1
       have hwl := wn_le yx
       have hwl2 := hide hwl.1
       have hwr := hwl.2.1
       clear hru bY Y0 hwl hN
       go_wp2_with fail
       rw [← hY]
       rw [← hY] at y0 y1
       replace hY := hide hY
       refine KW.out.mono ?_
       rintro e w5 ⟨rv, rfl, o5, b5⟩
       clear KW
       obtain ⟨ra, rc, hrv⟩ := o5.rd.slice
       subst hrv
       replace y0 := (b5.cell (cell_lt y0)).trans y0
       replace y1 := (b5.cell (cell_lt y1)).trans y1
       have c5 := hide (cY.out.trans (b5.mono cY.out.size))
       obtain ⟨RL, hRL⟩ : ∃ RL, RL = (wrecs yx).length := ⟨_, rfl⟩
       obtain ⟨WN, hWN⟩ : ∃ WN, WN = wn yx := ⟨_, rfl⟩
       rw [← hRL] at hwr hst ⊢
       rw [← hWN] at hwl2 ⊢
       replace hRL := hide hRL
       replace hWN := hide hWN
       have KI := hide (pindex_any w5 yz)
       clear o5 b5 cY
       go_wp2_with fail
       refine KI.out.mono ?_
       rintro e w' ⟨rfl, rfl⟩
       clear KI
       by_cases p1 : widx yz
       ·rw [decide_eq_true p1]
        by_cases p2 : yz = N
        ·by_cases p3 : WN < yx.length
         ·have hE := hide (hnok.out (fun h => by have := h.2.2; dsimp only at this; rw [← hWN.out] at this; omega))
          have hq3 : (WN : Int) < (yx.length : Int) := by omega
          replace p1 := hide p1
          subst p2
          go_wp2
          go_ret
          exact ⟨ret_int hE.out.symm, BX.out.trans (c5.out.mono BX.out.size)⟩
         ·have hq3 : ¬ (WN : Int) < (yx.length : Int) := by omega
          have hWe : Hid (wn yx = yx.length) := by have := hwl2.out; show _ = _; rw [← hWN.out]; omega
          have hok : Hid (∀ j s, j < K + 1 → segs[j]? = some s → psegOk segs next j s) := fun j s hj hs => by
           by_cases e : j = K
           ·subst e; rw [hy] at hs; cases hs; exact ⟨p1, by rw [p2]; exact hN'.out, hWe.out⟩
           ·exact hI.out.2 j s (by omega) hs
          have hb1 := p1.1
          have hb2 := p1.2
          replace p1 := hide p1
          rw [← hN'.out, ← p2] at hst
          subst p2
          go_wp2
          go_roundw
          case rel => exact ⟨K + 1, by omega, by go_num, by rw [hst.out], hide ⟨c5.out, hok.out⟩⟩
          case measure => simp [intOf]; omega
        ·have hE := hide (hnok.out (fun h => p2 (h.2.1.trans hN'.out.symm)))
         have hne : (yz != N) = true := by simpa using p2
         replace p1 := hide p1
         replace p2 := hide p2
         go_wp2
         go_ret
         exact ⟨ret_int hE.out.symm, BX.out.trans (c5.out.mono BX.out.size)⟩
       ·rw [decide_eq_false p1]
        have hE := hide (hnok.out (fun h => p1 h.1))
        replace p1 := hide p1
        go_wp2
        go_ret
        exact ⟨ret_int hE.out.symm, BX.out.trans (c5.out.mono BX.out.size)⟩
      ·have hq : ¬ (K : Int) < (segs.length : Int) := by omega
       obtain rfl : K = segs.length := by omega
       have hall : Hid (∀ k s, segs[k]? = some s → psegOk segs next k s) := fun k s hs => hI.out.2 k s (List.getElem?_eq_some_iff.1 hs).1 hs
       have cF := hide (BX.out.trans (hI.out.1.mono BX.out.size))
       by_cases hf : N = next
       ·have hE := hide (wcheck_ok (l := (segs, next, wait)) (wok_pseg (l := (segs, next, wait)) (by show segs.length ≤ 4096; omega) Q2.out (by show wait.length ≤ 4096; omega) HW.out hall.out (by rw [hN] at hf; exact hf)))
        clear hN hN'
        subst hf
        go_wp2
        go_ret
        exact ⟨ret_int hE.out.symm, cF.out⟩
       ·have hE := hide (wcheck_no (l := (segs, next, wait)) (fun h => hf (by rw [hN]; exact (wok_psegs h).2)))
        have hne : (N != next) = true := by simpa using hf
        clear hN
        replace hf := hide hf
        go_wp2
        go_ret
        exact ⟨ret_int hE.out.symm, cF.out⟩
    ·have hb0 := hbb.out.2 hW
     subst hb0
     have hE := hide (wcheck_no (l := (segs, next, wait)) (fun q => hW q.2.1))
     replace hW := hide hW
     go_wp2
     go_ret
     exact ⟨ret_int hE.out.symm, BX.out.trans (d3.out.mono BX.out.size)⟩
   ·have hE := hide (wcheck_no (l := (segs, next, wait)) (not_wok_idx q2))
    have KI := hide (fun u => Calls.flip (pindex_any u next))
    rw [decide_eq_false q2] at KI
    replace q2 := hide q2
    go_upto_region 3 with fail
    rw [← hX]
    rw [← hX] at A0 A1 A2
    replace hX := hide hX
    go_quiet ((go_at_call 74; exact Calls.quiet_of_same (KI.out _)))
    go_wp2
    go_ret
    exact ⟨ret_int hE.out.symm, BX.out.trans (below_drewN' _ _ _)⟩
end Go.Proofs.Ytjjicajodjophaa

namespace Go.Proofs.Ytjjicajodjophaa
open Go.RowKit
theorem rows_keepB {w w' : World} {B e s n : Nat} {v : Value} {xs : List Value} (h : w.ownsRow B e s v n xs) (k : ∀ b, B ≤ b → b < w.heap.size → w'.heap[b]? = w.heap[b]?) : w'.ownsRow B e s v n xs := by
 refine ⟨h.1, ?_⟩
 rcases h.2 with hn | ⟨g, cap, cur, hv, hgb, hg, r⟩
 ·exact .inl hn
 ·exact .inr ⟨g, cap, cur, hv, hgb, (k g hgb (lt_of_block hg)).trans hg, r⟩
theorem OwnV.keepB {B : Nat} {w w' : World} {v : Value} {xss : List (List UInt8)} (h : OwnV B B w v xss) (k : ∀ b, B ≤ b → b < w.heap.size → w'.heap[b]? = w.heap[b]?) : OwnV B B w' v xss := by
 obtain ⟨vs, h1, h2, h3⟩ := h
 exact ⟨vs, h1, rows_keepB h2 k, fun i hi => rows_keepB (h3 i hi) k⟩
theorem Own.keepB {α : Type} {s : Shp α} {B : Nat} {w w' : World} {cs : List Value} {x : α} (h : Own s B w cs x) (k : ∀ b, B ≤ b → b < w.heap.size → w'.heap[b]? = w.heap[b]?) : Own s B w' cs x :=
 let ⟨F, h1, h2, h3⟩ := h; ⟨F, s.own_to h1 fun b hb' => k b (h3 b hb') (s.own_lt h1 b hb'), h2, h3⟩
theorem OwnW.mono {T B C : Nat} {w : World} {v : Value} {ws : List Wrt} (h : OwnW T B w v ws) (hC : C ≤ B) : OwnW T C w v ws := by
 obtain ⟨vs, h1, h2, h3⟩ := h
 exact ⟨vs, h1, rows_mono h2 hC, h3⟩
def LgF (T B : Nat) (w : World) (sv wv : Value) (l : Wlg) : Prop := Own (Shp.list T SWr) B w [sv] l.1 ∧ OwnV B B w wv l.2.2
theorem LgF.keepB {T B : Nat} {w w' : World} {sv wv : Value} {l : Wlg} (h : LgF T B w sv wv l) (k : ∀ b, B ≤ b → b < w.heap.size → w'.heap[b]? = w.heap[b]?) : LgF T B w' sv wv l := ⟨h.1.keepB k, h.2.keepB k⟩
theorem LgF.to {T B : Nat} {w w' : World} {sv wv : Value} {l : Wlg} (h : LgF T B w sv wv l) (hb : Below w.heap.size w w') : LgF T B w' sv wv l := h.keepB fun b _ hb' => hb.block b hb'
theorem LgF.set {T B : Nat} {w : World} {sv wv : Value} {l : Wlg} (h : LgF T B w sv wv l) {a : Addr} (ha : a.block < B) (u : Value) : LgF T B (w.setCell a u) sv wv l := h.keepB fun b hb _ => Below.heap_setCell _ _ _ _ (fun e => by omega)
theorem LgF.set3 {T B : Nat} {w : World} {sv wv : Value} {l : Wlg} (h : LgF T B w sv wv l) {g : Nat} (hg : g < B) (x y z : Value) : LgF T B (((w.setCell ⟨g, 0, none⟩ x).setCell ⟨g, 1, none⟩ y).setCell ⟨g, 2, none⟩ z) sv wv l :=
 ((h.set (a := ⟨g, 0, none⟩) hg x).set (a := ⟨g, 1, none⟩) hg y).set (a := ⟨g, 2, none⟩) hg z
theorem LgF.mono {T B C : Nat} {w : World} {sv wv : Value} {l : Wlg} (h : LgF T B w sv wv l) (hC : C ≤ B) : LgF T C w sv wv l := ⟨h.1.mono hC, h.2.mono hC hC⟩
theorem LgF.rd3 {T B : Nat} {w : World} {sv wv : Value} {l : Wlg} (h : LgF T B w sv wv l) : RdC w sv l.1 ∧ RdSec w wv l.2.2 := ⟨h.1.rdS, h.2.rd⟩
theorem LgF.zero (T B : Nat) (w : World) : LgF T B w (.slice none 0 0) (.slice none 0 0) wzero := ⟨Own.nil _ _ _ _, OwnV.nil _ _ _⟩
end Go.Proofs.Ytjjicajodjophaa

namespace Go.Proofs.Ytjjicajodjophaa
open Go.RowKit
abbrev TSP : Nat := 83
set_option maxRecDepth 100000 in
set_option maxHeartbeats 4000000 in
theorem pwappend_any (w : World) (sv wv rv : Value) (l : Wlg) (rs : List (List UInt8)) (h1 : RdC w sv l.1) (h2 : RdSec w wv l.2.2) (h3 : RdSec w rv rs) (hm : ∀ s ∈ l.1, s.2.length ≤ 16777216) (hrl : rs.length ≤ 10000000000000) :
  Calls Try.prog 29 #[.agg #[sv, .int .i64 l.2.1, wv], rv] w fun e w' => ∃ sv' wv', e = .returned (.tuple #[.agg #[sv', .int .i64 (wappend l rs).1.2.1, wv'], .int .i64 (wappend l rs).2]) ∧ LgF TSP w.heap.size w' sv' wv' (wappend l rs).1 ∧ Below w.heap.size w w' := by
 obtain ⟨a1, c1, rfl⟩ := h1.slice
 obtain ⟨a2, c2, rfl⟩ := h2.slice
 obtain ⟨a3, c3, rfl⟩ := h3.slice
 obtain ⟨W, hW, hA, hZ, bW, sW⟩ := boxes3 w (.slice a1 l.1.length c1) (.int .i64 l.2.1) (.slice a2 l.2.2.length c2) 78
 have KC := hide (pwcheck_any W _ _ l (h1.to0 bW) (h2.to0 bW) hm)
 obtain ⟨⟨A0, A1, A2⟩, _⟩ := cells3 hA
 rw [hW] at A0 A1 A2
 go_enter Try.func29, Try.ntmps29
 by_cases hok : WOk l
 ·rw [wcheck_ok hok] at KC
  go_wp2_with fail
  rw [← hW]
  replace hW := hide hW
  refine KC.out.mono ?_
  rintro e w1 ⟨rfl, b1⟩
  clear KC A0 A1 A2
  have c1w := hide (bW.trans (b1.mono bW.size))
  have A' := hide ((b1.block _ (lt_of_block hA)).trans hA)
  have Z' := hide ((b1.block _ (lt_of_block hZ)).trans hZ)
  have H1 := hide (h1.to0 c1w.out)
  have H2 := hide (h2.to0 c1w.out)
  have H3 := hide (h3.to0 c1w.out)
  have s1 : w.heap.size + 1 + 1 ≤ w1.heap.size := by have := b1.size; omega
  have HOK := hide hok
  have hfit := hok.fit hm
  have hwl : l.2.2.length ≤ 4096 := hok.1.2.2
  have hsl : l.1.length ≤ 4096 := hok.1.1
  clear hA hZ bW b1 h1 h2 h3 hok
  have KL := hide (plonger_any w1)
  go_wp2_with fail
  refine KL.out.mono ?_
  rintro e w2 ⟨rfl, hc2, b2⟩
  clear KL
  have KF := hide (pcontains_any w2 _ _ rs (H3.out.to0 b2) hc2)
  have B2 := hide b2
  clear hc2 b2
  go_wp2_with fail
  refine KF.out.mono ?_
  rintro e w' ⟨bb, rfl, hbb, rfl⟩
  clear KF
  have Z2 := hide ((B2.out.block _ (lt_of_block Z'.out)).trans Z'.out)
  have A2' := hide ((B2.out.block _ (lt_of_block A'.out)).trans A'.out)
  have c2w := hide (c1w.out.trans (B2.out.mono c1w.out.size))
  have s2 : w1.heap.size ≤ w2.heap.size := B2.out.size
  by_cases hW3 : wwaitOk rs
  ·have hb0 : bb = false := by cases bb with | false => rfl | true => exact absurd hW3 (hbb.1 rfl)
   subst hb0
   have HW3 := hide hW3
   obtain ⟨⟨A0, A1, A2⟩, _⟩ := cells3 A2'.out
   clear hbb hW3
   by_cases hs : 4096 < l.2.2.length + rs.length
   ·have hqs : (4096 : Int) < (l.2.2.length : Int) + (rs.length : Int) := by omega
    have hE := hide (wappend_3 (l := l) (rs := rs) HOK.out HW3.out hs)
    obtain ⟨⟨z0, z1, z2⟩, zf⟩ := cells3 Z2.out
    have y0 := zf 0
    have y1 := zf 1
    have y2 := zf 2
    replace hs := hide hs
    go_wp2
    refine retNT rfl rfl (w.heap.size + 1) rfl _ _ (0, 0) (heap_set3 (u := w2) Z2.out _ _ _) _ Try.underlying78 rfl info_lgP _ rfl ?_
    rw [hE.out]
    exact ⟨_, _, rfl, LgF.zero _ _ _, below_set3 c2w.out (show w.heap.size ≤ w.heap.size + 1 by omega) _ _ _⟩
   ·have hqs : ¬ (4096 : Int) < (l.2.2.length : Int) + (rs.length : Int) := by omega
    have hE := hide (wappend_0 (l := l) (rs := rs) HOK.out HW3.out hs)
    have hrs2 : rs.length ≤ 4096 := by omega
    have K1 := hide (pcopies_any w2 _ l.2.2 (H2.out.to0 B2.out) (by omega) (fun x hx => hfit.2.2.2 x hx))
    replace hs := hide hs
    go_wp2_with fail
    refine K1.out.mono ?_
    rintro e w3 ⟨v3, rfl, o3, b3⟩
    clear K1
    obtain ⟨va, vc, hv3⟩ := o3.rd.slice
    subst hv3
    have c3w := hide (B2.out.trans (b3.mono B2.out.size))
    have K2 := hide (pcopies_any w3 _ rs (H3.out.to0 c3w.out) (by omega) (fun x hx => by have := HW3.out x hx; omega))
    have O3 := hide o3
    have B3 := hide b3
    clear o3 b3 A0 A1 A2
    go_wp2_with fail
    refine K2.out.mono ?_
    rintro e w4 ⟨v4, rfl, o4, b4⟩
    clear K2
    obtain ⟨va4, vc4, hv4⟩ := o4.rd.slice
    subst hv4
    have O1 := hide (O3.out.below b4)
    have O2 := hide (o4.mono (B' := 0) (C' := w2.heap.size) (Nat.zero_le _) B3.out.size)
    have B4 := hide (B3.out.trans (b4.mono B3.out.size))
    have hln : (l.2.2.length + rs.length) * 24 ≤ 140737488355328 := by omega
    have hBU : w2.heap.size ≤ w4.heap.size := B4.out.size
    clear o4 b4 O3 B3
    go_upto_region 9 with (at_builtin; refine wpList_append_lists2 rfl _ _ rfl w2.heap.size 0 w2.heap.size _ _ _ _ rfl rfl O1.out O2.out hln hBU ?_; intro v5 w5 o5 b5 _)
    obtain ⟨va5, vc5, hv5⟩ := o5.rd.slice
    have B5 := hide (B4.out.trans b5)
    obtain ⟨N5, hN5⟩ : ∃ N5, N5 = (l.2.2 ++ rs).length := ⟨_, rfl⟩
    rw [← hN5] at hv5
    replace hN5 := hide hN5
    subst hv5
    have O5 := hide o5
    have A5 := hide ((B5.out.block _ (lt_of_block A2'.out)).trans A2'.out)
    have Z5 := hide ((B5.out.block _ (lt_of_block Z2.out)).trans Z2.out)
    obtain ⟨⟨A0, A1, A2⟩, _⟩ := cells3 A5.out
    have b0 : Below w5.heap.size w5 w5.drew := (Below.refl _ _).drew
    have HS : Hid (∀ w9, Below w5.heap.size w5 w9 → w9.cell? ⟨w.heap.size, 0, none⟩ = some (.slice a1 l.1.length c1) ∧ w9.cell? ⟨w.heap.size, 1, none⟩ = some (.int .i64 l.2.1)) := fun w9 b9 =>
     ⟨(b9.cell (cell_lt A0)).trans A0, (b9.cell (cell_lt A1)).trans A1⟩
    have c5w := hide (B2.out.trans (B5.out.mono B2.out.size))
    have KS := hide (psegs_any w5.drew _ l.1 ((H1.out.to0 c5w.out).to0 b0) (by omega) (fun x hx => hfit.2.1 x hx))
    clear O1 O2 B4 o5 b5 A0 A1 A2
    refine wp_region_sched (fun w9 => w9.cell? ⟨w.heap.size, 0, none⟩ = some (.slice a1 l.1.length c1) ∧ w9.cell? ⟨w.heap.size, 1, none⟩ = some (.int .i64 l.2.1)) [(0, true), (1, true), (3, true), (4, true), (5, true), (2, false)] 6 mixed (by kernel_rfl) (fun _ _ _ _ h => h) ?_
    iterate 5
     refine sched_take (v := ?_) rfl (by kernel_rfl) (HS.out _ b0) ?_ ?_
     rotate_left
     ·rintro w9 ⟨q0, q1⟩
      go_simp
      try with_reducible rfl
     try simp only [Act.put, List.setIfInBounds_toArray, List.set_cons_zero, List.set_cons_succ]
    refine sched_run rfl (by kernel_rfl) fun K hK => ?_
    refine wp_call_of 64 _ _ (by rfl) #[.slice a1 l.1.length c1] (by simp [Act.eval]) (Try.call64 _ _) KS.out ?_
    rintro e w6 ⟨v6, rfl, o6, b6⟩
    have d6 : Below w5.heap.size w5 w6 := b0.trans (b6.mono b0.size)
    refine ⟨_, rfl, hK _ _ (HS.out _ d6) ?_⟩
    clear hK K
    try simp only [Act.put, List.setIfInBounds_toArray, List.set_cons_zero, List.set_cons_succ]
    obtain ⟨va6, vc6, hv6⟩ := o6.rdS.slice
    have s5 : w2.heap.size ≤ w5.heap.size := B5.out.size
    have LG : LgF TSP w2.heap.size w6 v6 (.slice va5 N5 vc5) (l.1, l.2.1, l.2.2 ++ rs) := ⟨o6.mono s5, O5.out.below d6⟩
    have LG3 := hide (LG.set3 (g := w.heap.size + 1) (by omega) v6 (.int .i64 l.2.1) (.slice va5 N5 vc5))
    have Z6 := hide ((d6.block _ (lt_of_block Z5.out)).trans Z5.out)
    obtain ⟨⟨z0, z1, z2⟩, zf⟩ := cells3 Z6.out
    have y0 := zf 0
    have y1 := zf 1
    have y2 := zf 2
    have CC : Hid (Below w.heap.size w w6) := c2w.out.trans ((B5.out.trans (d6.mono B5.out.size)).mono c2w.out.size)
    clear o6 b6 d6 LG HS KS zf O5
    subst hv6
    show wpList _ _ _ _ _ _
    dsimp only [List.drop]
    go_wp2
    refine retNT rfl rfl (w.heap.size + 1) rfl _ _ (0, 0) (heap_set3 (u := w6) Z6.out _ _ _) _ Try.underlying78 rfl info_lgP _ rfl ?_
    rw [hE.out]
    exact ⟨_, _, rfl, LG3.out.mono (by omega), below_set3 CC.out (show w.heap.size ≤ w.heap.size + 1 by omega) _ _ _⟩
  ·have hb0 := hbb.2 hW3
   subst hb0
   have hE := hide (wappend_5 (l := l) (rs := rs) HOK.out hW3)
   replace hW3 := hide hW3
   obtain ⟨⟨z0, z1, z2⟩, zf⟩ := cells3 Z2.out
   have y0 := zf 0
   have y1 := zf 1
   have y2 := zf 2
   clear hbb
   go_wp2
   refine retNT rfl rfl (w.heap.size + 1) rfl _ _ (0, 0) (heap_set3 (u := w2) Z2.out _ _ _) _ Try.underlying78 rfl info_lgP _ rfl ?_
   rw [hE.out]
   exact ⟨_, _, rfl, LgF.zero _ _ _, below_set3 c2w.out (show w.heap.size ≤ w.heap.size + 1 by omega) _ _ _⟩
 ·rw [wcheck_no hok] at KC
  have hE := hide (wappend_9 (rs := rs) hok)
  replace hok := hide hok
  go_wp2_with fail
  rw [← hW]
  replace hW := hide hW
  refine KC.out.mono ?_
  rintro e w1 ⟨rfl, b1⟩
  have Z1 := (b1.block _ (lt_of_block hZ)).trans hZ
  obtain ⟨⟨z0, z1, z2⟩, zf⟩ := cells3 Z1
  have y0 := zf 0
  have y1 := zf 1
  have y2 := zf 2
  have cw := bW.trans (b1.mono bW.size)
  clear KC A0 A1 A2
  go_wp2
  refine retNT rfl rfl (w.heap.size + 1) rfl _ _ (0, 0) (heap_set3 (u := w1) Z1 _ _ _) _ Try.underlying78 rfl info_lgP _ rfl ?_
  rw [hE.out]
  exact ⟨_, _, rfl, LgF.zero _ _ _, below_set3 cw (show w.heap.size ≤ w.heap.size + 1 by omega) _ _ _⟩
end Go.Proofs.Ytjjicajodjophaa

namespace Go.Proofs.Ytjjicajodjophaa
open Go.RowKit
abbrev TLP : Nat := 78
theorem wn_pos (x : List UInt8) : 0 < wn x ↔ 0 < (wrecs x).length := by
 have h := wsz_len (wrecs x)
 have e : wn x = wsz (wrecs x) := rfl
 constructor
 ·intro h1
  apply Decidable.byContradiction
  intro h2
  have h0 : wrecs x = [] := List.eq_nil_of_length_eq_zero (by omega)
  rw [h0] at e
  simp [wsz] at e
  omega
 ·intro h1; omega
theorem wgone_push' {i n : Nat} {ss : List Wrt} {nx : Int} {rs r : List (List UInt8)} {s : Wrt} (h : 0 < n ∨ i = 0) : wgone i ((ss, nx), rs) s r n = ((ss ++ [(s.1, s.2.take n)], nx + (r.length : Nat)), rs ++ r) := by unfold wgone; rw [if_pos h]
theorem wgone_keep' {i n : Nat} {ss : List Wrt} {nx : Int} {rs r : List (List UInt8)} {s : Wrt} (h : ¬ (0 < n ∨ i = 0)) : wgone i ((ss, nx), rs) s r n = ((ss, nx + (r.length : Nat)), rs ++ r) := by unfold wgone; rw [if_neg h]
theorem s3_keep {TL g : Nat} {u : World} {a b c : Value} (h : u.heap[g]? = some (.cells #[a, b, c] TL (0, 0))) (x y z : Value) : ∀ e, e ≠ TL → KeepT e u (S3 g u x y z) := fun e he =>
 ((KeepT.set (a := ⟨g, 0, none⟩) h he x).trans (KeepT.set (a := ⟨g, 1, none⟩) (set3_0 h x) he y)).trans (KeepT.set (a := ⟨g, 2, none⟩) (set3_1 (set3_0 h x) y) he z)
theorem RInv.ret2 {TS TL : Nat} {w u : World} {o c : Value} {ss : List Wrt} {nx : Int} {rs : List (List UInt8)} (h : RInv TS TL w u o c ((ss, nx), rs)) (t3 : TL ≠ 5) (t4 : TL ≠ 62) (t5 : TL ≠ TS) (x y z : Value) :
  OwnW TS w.heap.size (S3 w.heap.size u x y z) c ss ∧ OwnV w.heap.size 0 (S3 w.heap.size u x y z) o rs ∧ Below w.heap.size w (S3 w.heap.size u x y z) := by
 have k0 := s3_keep h.ans x y z
 exact ⟨h.segs.keepT (k0 _ t3.symm) (k0 _ t5.symm), h.recs.keepT (k0 _ t3.symm) (k0 _ t4.symm), below_set3 h.bel (Nat.le_refl _) _ _ _⟩
theorem boxes3z (w : World) (n : Int) (t : TypeId) : ∃ W, W = (w.alloc (.cells #[.slice none 0 0, .int .i64 0, .slice none 0 0] t)).alloc (.cells #[.slice none 0 0, .int .i64 n, .slice none 0 0] t) ∧ W.heap[w.heap.size]? = some (.cells #[.slice none 0 0, .int .i64 0, .slice none 0 0] t (0, 0)) ∧ W.heap[w.heap.size + 1]? = some (.cells #[.slice none 0 0, .int .i64 n, .slice none 0 0] t (0, 0)) ∧ Below w.heap.size w W ∧ W.heap.size = w.heap.size + 1 + 1 := by
 refine ⟨_, rfl, ?_, ?_, ((Below.refl _ _).alloc (Nat.le_refl _) _).alloc (by simp) _, by simp⟩
 ·rw [Below.heap_alloc _ _ _ (by simp)]; exact heap_alloc_last w _
 ·have := heap_alloc_last (w.alloc (.cells #[.slice none 0 0, .int .i64 0, .slice none 0 0] t)) (.cells #[.slice none 0 0, .int .i64 n, .slice none 0 0] t); simpa using this
set_option maxRecDepth 100000 in
set_option maxHeartbeats 4000000 in
theorem pwholeOf_any (w : World) (sv : Value) (segs : List Wrt) (h1 : RdC w sv segs) (hm : ∀ s ∈ segs, s.2.length ≤ 16777216) (h0 : 0 < segs.length) (hsl : segs.length ≤ 4096) (hix : widx (wseg segs 0).1) :
  Calls Try.prog 75 #[sv] w fun e w' => ∃ (sv' rv : Value) (ss : List Wrt) (nx : Int) (rs : List (List UInt8)) (n : Nat), e = .returned (.tuple #[.agg #[sv', .int .i64 nx, .slice none 0 0], rv, .int .i64 (n : Int)]) ∧ PWhole segs ((ss, nx), rs) n ∧ (OwnW TSP w.heap.size w' sv' ss ∧ OwnV w.heap.size 0 w' rv rs) ∧ Below w.heap.size w w' := by
 obtain ⟨j0, ji, jz0, jz1, jz2⟩ := info_parts infoSP
 have lb1 := h1.bd
 obtain ⟨a1, c1, rfl⟩ := h1.slice
 obtain ⟨f, hf, hfm⟩ := some_at segs (k := 0) (by omega)
 rw [wseg_at hf] at hix
 have hf0 := hide (wseg_at hf)
 have H1 := hide h1
 obtain ⟨b0, o0, u0, e0, hc0, _, _⟩ := h1.wrt hf
 subst e0
 obtain ⟨fz, fx⟩ := f
 dsimp only at hc0 hix
 rw [Nat.zero_mul, Nat.add_zero] at hc0
 obtain ⟨X, hX, X0, X1, bX, sX⟩ := boxes3z w fz 78
 have hcX := (bX.cell (cell_lt hc0)).trans hc0
 have hcA : (w.alloc (.cells #[.slice none 0 0, .int .i64 0, .slice none 0 0] 78)).cell? ⟨b0, o0, none⟩ = some (.int .i64 fz) := cell_alloc hc0 _
 have hpos : (0 : Int) < (segs.length : Int) := by omega
 have st0 : Hid (RInv TSP TLP w X (.slice none 0 0) (.slice none 0 0) (pwsg segs 0)) := by
  show RInv _ _ _ _ _ _ (([], (wseg segs 0).1), [])
  rw [hf0.out]
  exact ⟨X1, X0, OwnW.nil _ _ _, OwnV.nil _ _ _, bX⟩
 have hp0 : Hid (0 ≤ (pwsg segs 0).1.2 ∧ (pwsg segs 0).1.2 ≤ 1099511627776) := by
  show 0 ≤ (wseg segs 0).1 ∧ (wseg segs 0).1 ≤ _
  rw [hf0.out]; exact hix
 clear X0 X1 bX hf hfm h1 sX hc0
 go_enter Try.func75, Try.ntmps75
 go_wp2
 rw [← hX]
 replace hX := hide hX
 clear hcX hcA
 go_loopw [6, 18] (fun o i wr => ∃ (k : Nat) (c : Value), k ≤ segs.length ∧ i = .int .i64 k ∧ Hid (RInv TSP TLP w wr o c (pwsg segs k) ∧ (pwsg segs k).1.1.length ≤ k ∧ (pwsg segs k).2.length ≤ k * 2097152 ∧ (0 ≤ (pwsg segs k).1.2 ∧ (pwsg segs k).1.2 ≤ 1099511627776 + (k : Int) * 2097152) ∧ ∀ j, j < k → wgood segs j)) (fun _ i _ => segs.length - (intOf i).toNat)
 case atStart => exact ⟨0, _, Nat.zero_le _, rfl, st0.out, Nat.le_refl _, Nat.zero_le _, ⟨hp0.out.1, by have := hp0.out.2; omega⟩, fun j hj => by omega⟩
 case round =>
  obtain ⟨k, c, hk, rfl, hI⟩ := hrel
  clear st0 hp0
  obtain ⟨RI, hssl, hrsl, ⟨hn0, hn1⟩, hgood⟩ := hI.out
  obtain ⟨st, hst⟩ : ∃ st, st = pwsg segs k := ⟨_, rfl⟩
  rw [← hst] at RI hssl hrsl hn0 hn1
  have HST := hide hst
  clear hst
  obtain ⟨⟨ss, nx⟩, rs⟩ := st
  dsimp only at hssl hrsl hn0 hn1
  have HG := hide hgood
  obtain ⟨ca, cc0, hcs⟩ := RI.segs.rd.slice
  obtain ⟨oa, oc, hou⟩ := RI.recs.rd.slice
  dsimp only at hcs hou
  obtain ⟨M, hM⟩ : ∃ M, M = ss.length := ⟨_, rfl⟩
  obtain ⟨N, hN⟩ : ∃ N, N = rs.length := ⟨_, rfl⟩
  rw [← hM] at hcs hssl
  rw [← hN] at hou hrsl
  subst hcs hou
  replace hM := hide hM
  replace hN := hide hN
  clear hgood
  by_cases hlt : k < segs.length
  ·have hq : (k : Int) < (segs.length : Int) := by omega
   obtain ⟨y, hy, hym⟩ := some_at segs hlt
   obtain ⟨b1, o1, u, e1, hc0, hc1, hru⟩ := (H1.out.to0 RI.bel).wrt hy
   simp only [Option.some.injEq, Addr.mk.injEq, and_true] at e1
   obtain ⟨⟨rfl, rfl⟩, _⟩ := e1
   have hyl := hm y hym
   have hsg := hide (wseg_at hy)
   obtain ⟨yz, yx⟩ := y
   dsimp only at hc0 hc1 hru hyl
   obtain ⟨ua, uc, rfl⟩ := hru.slice
   have hcap : yx.length ≤ uc := by obtain ⟨_, _, e, l1, _⟩ := hru; simp only [Value.slice.injEq] at e; omega
   obtain ⟨Y, hY, Y0, bY, sY⟩ := boxedN wr #[.int .i64 yz, .slice ua yx.length uc] 83
   have RY := hide (RI.to bY)
   obtain ⟨e8, e9, _, _⟩ := row2_cells Y0
   obtain ⟨⟨T0, T1, T2⟩, _⟩ := cells3 RY.out.box
   obtain ⟨⟨z0, z1, z2⟩, zf⟩ := cells3 RY.out.ans
   have y0 := zf 0
   have y1 := zf 1
   have y2 := zf 2
   have KW := hide (pread_any Y _ yx (hru.to bY) hyl)
   have hru8 := hide (hru.to bY)
   have hwl := wn_le yx
   have hwl1 := hwl.1
   have hwr := hwl.2.1
   dsimp only at T0 T1 T2
   obtain ⟨L, hL⟩ : ∃ L, L = yx.length := ⟨_, rfl⟩
   rw [← hL] at hc1 hY e9 KW hru8 hyl hwl1 hwr hcap Y0
   obtain ⟨NW, hNW⟩ : ∃ NW, NW = wn yx := ⟨_, rfl⟩
   rw [← hNW] at KW hwl1
   obtain ⟨NR, hNR⟩ : ∃ NR, NR = (wrecs yx).length := ⟨_, rfl⟩
   rw [← hNR] at hwr
   replace hL := hide hL
   replace hNW := hide hNW
   replace hNR := hide hNR
   have hrow8 : Hid (∀ kk, (Value.slice ca M cc0).ownBlock = some kk → kk < wr.heap.size) := by
    obtain ⟨_, _, row0, _⟩ := RI.segs
    exact rows_lt row0
   have hslt : w.heap.size + 1 < wr.heap.size := lt_of_block RI.box
   have Y0' := hide Y0
   clear hru RI hI bY hwl Y0 hy hym zf
   by_cases hz : yz = nx
   ·subst hz
    have hnext : Hid (pwsg segs (k + 1) = wgone k ((ss, yz), rs) (yz, yx) (wrecs yx) (wn yx)) := by
     show wgone k (pwsg segs k) (wseg segs k) _ _ = _
     rw [← HST.out, hsg.out]
    rw [hY] at e8 e9 T0 T1 T2 z0 z1 z2 y0 y1 y2
    go_wp2_with fail
    rw [← hY]
    rw [← hY] at e8 e9 T0 T1 T2 z0 z1 z2 y0 y1 y2
    replace hY := hide hY
    refine KW.out.mono ?_
    rintro e w5 ⟨rv, rfl, o5, b5⟩
    clear KW hc0 hc1
    have R5 := hide (RY.out.to b5)
    obtain ⟨ra, rc, hrv⟩ := o5.rd.slice
    rw [← hNR.out] at hrv
    subst hrv
    have O5 := hide (o5.mono (B' := 0) (C' := 0) (Nat.zero_le _) (Nat.zero_le _))
    have e8 := (b5.cell (p := ⟨wr.heap.size, 0, none⟩) (cell_lt e8)).trans e8
    have e9 := (b5.cell (p := ⟨wr.heap.size, 1, none⟩) (cell_lt e9)).trans e9
    have hru5 := hide (hru8.out.to b5)
    have B8 := hide ((b5.block _ (lt_of_block Y0'.out)).trans Y0'.out)
    obtain ⟨⟨T0, T1, T2⟩, tf⟩ := cells3 R5.out.box
    obtain ⟨⟨z0, z1, z2⟩, zf⟩ := cells3 R5.out.ans
    have y0 := zf 0
    have y1 := zf 1
    have y2 := zf 2
    dsimp only at T0 T1 T2
    clear RY o5 b5 hru8 Y0' zf
    go_upto_region 9 with fail
    obtain ⟨bb, hbb⟩ : ∃ b : Bool, b = decide (0 < NW ∨ k = 0) := ⟨_, rfl⟩
    have hwp : Hid (0 < NW ↔ 0 < NR) := by show _ ↔ _; rw [hNW.out, hNR.out]; exact wn_pos yx
    replace hbb := hide hbb
    go_cut [43] from 37 to 43 (fun s wx => s = .bool bb ∧ w5 = wx)
    case first =>
     by_cases hp1 : k = 0
     ·have hb : Hid (bb = true) := hbb.out.trans (decide_eq_true (.inr hp1))
      have j1 : ((k : Int) == 0) = true := by simp [hp1]
      replace hp1 := hide hp1
      go_wp2_with fail
      go_meet
      exact ⟨by rw [hb.out], rfl⟩
     ·have j1 : ((k : Int) == 0) = false := by simp [hp1]
      by_cases hp0 : 0 < NR
      ·have hb : Hid (bb = true) := hbb.out.trans (decide_eq_true (.inl (hwp.out.2 hp0)))
       have j0 : (0 : Int) < (NR : Int) := by omega
       replace hp1 := hide hp1
       go_wp2_with fail
       go_meet
       exact ⟨by rw [hb.out], rfl⟩
      ·have hb : Hid (bb = false) := hbb.out.trans (decide_eq_false (fun h => h.elim (fun h => hp0 (hwp.out.1 h)) hp1))
       have j0 : ¬ (0 : Int) < (NR : Int) := by omega
       replace hp1 := hide hp1
       replace hp0 := hide hp0
       go_wp2_with fail
       go_meet
       exact ⟨by rw [hb.out, decide_eq_false hp0.out], rfl⟩
    case rest =>
    obtain ⟨rfl, rfl⟩ := hcut
    go_upto_if 43 with fail
    go_cut [] from 44 to 51 (fun wx => ∃ (SS : List Wrt) (cU : Value), Hid (wgone k ((ss, yz), rs) (yz, yx) (wrecs yx) (wn yx) = ((SS, yz + (NR : Int)), rs ++ wrecs yx)) ∧ SS.length ≤ k + 1 ∧ Hid (RInv TSP TLP w wx (.slice oa N oc) cU ((SS, yz), rs) ∧ OwnV 0 0 wx (.slice ra NR rc) (wrecs yx) ∧ wx.heap[wr.heap.size]? = some (.cells #[.int .i64 yz, .slice ua L uc] 83 (0, 0))))
    case first =>
     by_cases hp : 0 < NW ∨ k = 0
     ·have hb := hbb.out.trans (decide_eq_true hp)
      clear hbb
      subst hb
      have hgone : Hid (wgone k ((ss, yz), rs) (yz, yx) (wrecs yx) (wn yx) = ((ss ++ [(yz, yx.take NW)], yz + (NR : Int)), rs ++ wrecs yx)) := by
       show _ = _
       rw [wgone_push' (by rw [← hNW.out]; exact hp), ← hNW.out, ← hNR.out]
      obtain ⟨TK, hTK⟩ : ∃ TK, TK = yx.take NW := ⟨_, rfl⟩
      rw [← hTK] at hgone
      have KS := hide (pcopy_any w5.drew (.slice ua L uc) yz yx NW (hru5.out.to (Below.refl _ _).drew) (by rw [← hL.out]; exact hwl1) (by rw [← hL.out]; omega))
      rw [← hTK] at KS
      replace hTK := hide hTK
      replace hp := hide hp
      have h63 : M + 1 ≤ maxLen := by rw [show maxLen = 9223372036854775807 from rfl]; omega
      have hby : (M + 1) * 32 ≤ 140737488355328 := by omega
      go_wp2_with fail
      refine wp_region_mid (fun w' => w'.cell? ⟨w.heap.size + 1, 0, none⟩ = some (.slice ca M cc0) ∧ w'.cell? ⟨wr.heap.size, 0, none⟩ = some (.int .i64 yz) ∧ w'.cell? ⟨wr.heap.size, 1, none⟩ = some (.slice ua L uc)) 4 6 mixed (by kernel_rfl) (fun _ _ _ _ h => h) ⟨T0, e8, e9⟩ ?_
      dsimp only [List.take, List.drop]
      iterate 4
       refine take_one (v := ?_) (by rfl) ?_ ?_
       rotate_left
       ·rintro w' ⟨s1, s2, s3⟩
        go_simp
        try with_reducible rfl
       try simp only [Act.put, List.setIfInBounds_toArray, List.set_cons_zero, List.set_cons_succ]
      refine mid_one fun K hK => ?_
      refine step_call (by rfl) 89 _ _ (by rfl) #[.agg #[.int .i64 yz, .slice ua L uc], .int .i64 (NW : Int)] (by simp [Act.eval]) (Try.call89 _ _) KS.out ?_
      rintro e w2 ⟨v2, rfl, o2, b2⟩
      obtain ⟨av, cv2, hv2⟩ := o2.rd.slice
      obtain ⟨KL, hKL⟩ : ∃ KL, KL = TK.length := ⟨_, rfl⟩
      rw [← hKL] at hv2
      replace hKL := hide hKL
      subst hv2
      have x0 := (b2.cell (p := ⟨w.heap.size + 1, 0, none⟩) (cell_lt T0)).trans T0
      have x1 := (b2.cell (p := ⟨wr.heap.size, 0, none⟩) (cell_lt e8)).trans e8
      have x2 := (b2.cell (p := ⟨wr.heap.size, 1, none⟩) (cell_lt e9)).trans e9
      refine ⟨_, rfl, hK _ _ ⟨x0, x1, x2⟩ ?_⟩
      clear hK K
      try simp only [Act.put, List.setIfInBounds_toArray, List.set_cons_zero, List.set_cons_succ]
      refine mid_one fun K hK => ?_
      rw [if_pos (by rfl)]
      go_simp
      refine hK _ _ ⟨cell_alloc x0 _, cell_alloc x1 _, cell_alloc x2 _⟩ ?_
      clear hK K
      show wpList _ _ _ _ _ _
      have bu : Below w5.heap.size w5 (w2.alloc (.cells #[.int .i64 yz, .slice av KL cv2] 83)) := ((Below.refl _ _).drew.trans b2).alloc b2.size _
      obtain ⟨cc, row, fin⟩ := RInv.push (R5.out.to bu) (by decide) (by decide) (by decide) (by decide) (by decide)
      rw [← hM.out] at row fin
      have OB : OwnB 0 (w2.alloc (.cells #[.int .i64 yz, .slice av KL cv2] 83)) (.slice av KL cv2) TK := (o2.mono (Nat.zero_le _)).below (Nat.le_refl _) ((Below.refl _ _).alloc (Nat.le_refl _) _)
      have FIN : Hid (∀ (g cap : Nat) (w6 : World), (w2.alloc (.cells #[.int .i64 yz, .slice av KL cv2] 83)).grownBy w6 (Value.slice ca M cc0).ownBlock → w6.ownsRow 0 83 2 (.slice (some ⟨g, 0, none⟩) (M + 1) cap) (M + 1) (cc ++ [.int .i64 yz, .slice av KL cv2]) → ((Value.slice ca M cc0).ownBlock = some g ∨ g = w2.heap.size + 1) →
        (w6.cell? ⟨w.heap.size + 1, 0, none⟩ = some (.slice ca M cc0) ∧ w6.frozen? ⟨w.heap.size + 1, 0, none⟩ = false) ∧ Hid (RInv TSP TLP w (w6.setCell ⟨w.heap.size + 1, 0, none⟩ (.slice (some ⟨g, 0, none⟩) (M + 1) cap)) (.slice oa N oc) (.slice (some ⟨g, 0, none⟩) (M + 1) cap) ((ss ++ [(yz, TK)], yz), rs) ∧
         OwnV 0 0 (w6.setCell ⟨w.heap.size + 1, 0, none⟩ (.slice (some ⟨g, 0, none⟩) (M + 1) cap)) (.slice ra NR rc) (wrecs yx) ∧ (w6.setCell ⟨w.heap.size + 1, 0, none⟩ (.slice (some ⟨g, 0, none⟩) (M + 1) cap)).heap[wr.heap.size]? = some (.cells #[.int .i64 yz, .slice ua L uc] 83 (0, 0)))) := fun g cap w6 k3 k4 k5 => by
       obtain ⟨q0, q1, q2⟩ := fin w6 yz TK _ g cap OB k3 k4 (k5.imp id fun e => by rw [e]; simp)
       have q2' : ∀ e, e ≠ TSP → e ≠ TLP → KeepT e w5 (w6.setCell ⟨w.heap.size + 1, 0, none⟩ (.slice (some ⟨g, 0, none⟩) (M + 1) cap)) := fun e h1 h2 => (KeepT.below bu).trans (q2 e h1 h2)
       refine ⟨q0, q1, O5.out.keepT (q2' _ (by decide) (by decide)) (q2' _ (by decide) (by decide)), ?_⟩
       rw [Below.heap_setCell _ _ _ _ (show wr.heap.size ≠ w.heap.size + 1 by omega)]
       have hu8 := (bu.block _ (lt_of_block B8.out)).trans B8.out
       exact (k3.block _ (lt_of_block hu8) (fun e => absurd (hrow8.out _ e.symm) (Nat.lt_irrefl _))).trans hu8
      replace row := hide row
      clear fin OB bu o2 b2 KS
      go_wp2_with (at_builtin; refine wpList_append_lies _ rfl _ _ 47 rfl 0 83 j0 _ 2 32 Try.underlying47 ji jz0 jz1 jz2 rfl (by decide) (.slice ca M cc0) M cc rfl row.out ⟨w2.heap.size, 0, none⟩ 1 1 [.int .i64 yz, .slice av KL cv2] rfl rfl (World.news_of_block (heap_alloc_last w2 _)) (by simp [Value.oneCell']) (by decide) h63 hby (Nat.zero_le _) (w2.heap.size + 1) (by simp) ?_; intro gR capR w6 ho6 hg6 hat6 hlt6; obtain ⟨⟨y5, y6⟩, HF⟩ := FIN.out gR capR w6 hg6 ho6 hat6; clear ho6 hg6 hat6)
      go_meet
      exact ⟨_, _, hgone, by rw [List.length_append, ← hM.out]; simp; omega, HF⟩
     ·have hb := hbb.out.trans (decide_eq_false hp)
      clear hbb
      subst hb
      have hgone : Hid (wgone k ((ss, yz), rs) (yz, yx) (wrecs yx) (wn yx) = ((ss, yz + (NR : Int)), rs ++ wrecs yx)) := by
       show _ = _
       rw [wgone_keep' (by rw [← hNW.out]; exact hp), ← hNR.out]
      replace hp := hide hp
      have HF : Hid (RInv TSP TLP w w5 (.slice oa N oc) (.slice ca M cc0) ((ss, yz), rs) ∧ OwnV 0 0 w5 (.slice ra NR rc) (wrecs yx) ∧ w5.heap[wr.heap.size]? = some (.cells #[.int .i64 yz, .slice ua L uc] 83 (0, 0))) := ⟨R5.out, O5.out, B8.out⟩
      go_wp2_with fail
      go_meet
      exact ⟨_, _, hgone, by rw [← hM.out]; omega, HF⟩
    case rest =>
    clear hbb
    obtain ⟨SS, cU, hgone, hSl, HF⟩ := hcut
    obtain ⟨da, dc, hcU⟩ := HF.out.1.segs.rd.slice
    dsimp only at hcU
    obtain ⟨M2, hM2⟩ : ∃ M2, M2 = SS.length := ⟨_, rfl⟩
    rw [← hM2] at hcU
    subst hcU
    replace hM2 := hide hM2
    obtain ⟨U, hU⟩ : ∃ U, U = wc := ⟨_, rfl⟩
    rw [← hU] at HF ⊢
    replace hU := hide hU
    clear hrow8 O5 R5 B8 hru5 T0 T1 T2 tf e8 e9 z0 z1 z2 y0 y1 y2
    have O1 := hide HF.out.1.recs
    have O2 := hide HF.out.2.1
    have hBU := HF.out.1.bel.size
    have hln : (rs.length + (wrecs yx).length) * 24 ≤ 140737488355328 := by rw [← hN.out, ← hNR.out]; omega
    have hw8 : Hid (0 ≤ yz + (NR : Int) ∧ yz + (NR : Int) ≤ 1099511627776 + ((k + 1 : Nat) : Int) * 2097152) := ⟨by omega, by push_cast; omega⟩
    have hrl : Hid ((rs ++ wrecs yx).length ≤ (k + 1) * 2097152) := by show _ ≤ _; rw [List.length_append, ← hN.out, ← hNR.out]; omega
    replace hSl := hide hSl
    rw [hgone.out] at hnext
    have STEP : Hid (∀ (v7 : Value) (w7 : World), OwnV w.heap.size 0 w7 v7 (rs ++ wrecs yx) → Below w.heap.size U w7 → (∀ e, e ≠ 62 → KeepT e U w7) → (w7.cell? ⟨w.heap.size + 1, 1, none⟩ = some (.int .i64 yz) ∧ w7.frozen? ⟨w.heap.size + 1, 1, none⟩ = false) ∧ ∃ w8, w8 = w7.setCell ⟨w.heap.size + 1, 1, none⟩ (.int .i64 (yz + (NR : Int))) ∧ Hid (RInv TSP TLP w w8 v7 (.slice da M2 dc) ((SS, yz + (NR : Int)), rs ++ wrecs yx)) ∧ w8.cell? ⟨wr.heap.size, 1, none⟩ = some (.slice ua L uc)) := fun v7 w7 o7 b7 k7 => by
     have R7 := HF.out.1.all (by decide) (by decide) o7 b7 k7
     obtain ⟨⟨_, t1, _⟩, tf7⟩ := cells3 R7.box
     refine ⟨⟨t1, tf7 1⟩, _, rfl, R7.num (by decide) (by decide) (by decide) _, ?_⟩
     have q8 := k7 83 (by decide) _ _ _ HF.out.2.2
     have q9 : (w7.setCell ⟨w.heap.size + 1, 1, none⟩ (.int .i64 (yz + (NR : Int)))).heap[wr.heap.size]? = _ := (Below.heap_setCell _ _ _ _ (show wr.heap.size ≠ w.heap.size + 1 by omega)).trans q8
     exact (row2_cells q9).2.1
    clear HF hgone
    go_upto_region 13 with (at_builtin; refine wpList_append_lists2 rfl _ _ rfl w.heap.size 0 0 _ _ _ _ rfl rfl O1.out O2.out hln hBU ?_; intro v7 w7 o7 b7 k7; obtain ⟨va, vc, hv7⟩ := o7.rd.slice; obtain ⟨⟨t71, t7f⟩, w8, hw8e, R8, e81⟩ := STEP.out v7 w7 o7 b7 k7; clear o7 b7 k7; subst hw8e; obtain ⟨N7, hN7⟩ : ∃ N7, N7 = (rs ++ wrecs yx).length := ⟨_, rfl⟩; rw [← hN7] at hv7; replace hN7 := hide hN7; subst hv7)
    obtain ⟨⟨t80, t81, t82⟩, _⟩ := cells3 R8.out.box
    obtain ⟨⟨z80, z81, z82⟩, zf8⟩ := cells3 R8.out.ans
    have y80 := zf8 0
    have y81 := zf8 1
    have y82 := zf8 2
    dsimp only at t80 t81 t82
    obtain ⟨U8, hU8⟩ : ∃ U8, U8 = w7.setCell ⟨w.heap.size + 1, 1, none⟩ (.int .i64 (yz + (NR : Int))) := ⟨_, rfl⟩
    rw [← hU8] at R8 e81 t80 t81 t82 z80 z81 z82 y80 y81 y82 ⊢
    clear zf8 t71 t7f STEP O1 O2
    replace hU8 := hide hU8
    by_cases hnl : NW < L
    ·have hq3 : (NW : Int) < (L : Int) := by omega
     have hPW : Hid (PWhole segs ((SS, yz + (NR : Int)), rs ++ wrecs yx) (k + 1)) := ⟨k, HG.out, .inr (.inr ⟨hlt, by rw [hsg.out, ← HST.out], by rw [hsg.out]; dsimp only; rw [← hNW.out, ← hL.out]; omega, hnext.out.symm, rfl⟩)⟩
     have hFN := hide (R8.out.ret2 (by decide) (by decide) (by decide))
     have ZA := hide R8.out.ans
     replace hnl := hide hnl
     clear R8
     go_wp2
     refine retNTT rfl rfl w.heap.size rfl _ _ (0, 0) (heap_set3 (u := U8) ZA.out _ _ _) _ Try.underlying78 rfl info_lgP _ rfl _ rfl ?_
     exact ⟨_, _, SS, yz + (NR : Int), rs ++ wrecs yx, k + 1, by first | rfl | (congr 1), hPW.out, ⟨(hFN.out _ _ _).1, (hFN.out _ _ _).2.1⟩, (hFN.out _ _ _).2.2⟩
    ·have hq3 : ¬ (NW : Int) < (L : Int) := by omega
     have hgood' : Hid (∀ j, j < k + 1 → wgood segs j) := fun j hj => by
      by_cases e : j = k
      ·subst e
       exact ⟨by rw [hsg.out, ← HST.out], by rw [hsg.out]; dsimp only; rw [← hNW.out, ← hL.out]; omega⟩
      ·exact HG.out j (by omega)
     have FIN : Hid (RInv TSP TLP w U8 (.slice va N7 vc) (.slice da M2 dc) (pwsg segs (k + 1)) ∧ (pwsg segs (k + 1)).1.1.length ≤ k + 1 ∧ (pwsg segs (k + 1)).2.length ≤ (k + 1) * 2097152 ∧ (0 ≤ (pwsg segs (k + 1)).1.2 ∧ (pwsg segs (k + 1)).1.2 ≤ 1099511627776 + ((k + 1 : Nat) : Int) * 2097152) ∧ ∀ j, j < k + 1 → wgood segs j) := by
      rw [hnext.out]
      exact ⟨R8.out, hSl.out, hrl.out, hw8.out, hgood'.out⟩
     replace hnl := hide hnl
     clear t80 t81 t82 z80 z81 z82 y80 y81 y82
     go_wp2_with fail
     go_roundw
     case rel => exact ⟨_, _, _, _, _, _, _, .int .i64 ((k + 1 : Nat) : Int), ⟨k + 1, by omega, rfl, _, FIN⟩, rfl, rfl, rfl, rfl, rfl, rfl, rfl, rfl⟩
     case measure => simp [intOf]; omega
   ·have hPW : Hid (PWhole segs ((ss, nx), rs) k) := ⟨k, HG.out, .inr (.inl ⟨hlt, by rw [hsg.out, ← HST.out]; exact hz, HST.out, rfl⟩)⟩
    have hFN := hide (RY.out.ret2 (by decide) (by decide) (by decide))
    have ZA := hide RY.out.ans
    clear KW RY hru8
    rw [hY] at e8 e9 T0 T1 T2 z0 z1 z2 y0 y1 y2
    go_wp2
    rw [← hY]
    refine retNTT rfl rfl w.heap.size rfl _ _ (0, 0) (heap_set3 (u := Y) ZA.out _ _ _) _ Try.underlying78 rfl info_lgP _ rfl _ rfl ?_
    exact ⟨_, _, ss, nx, rs, k, rfl, hPW.out, ⟨(hFN.out _ _ _).1, (hFN.out _ _ _).2.1⟩, (hFN.out _ _ _).2.2⟩
  ·have hq : ¬ (k : Int) < (segs.length : Int) := by omega
   obtain rfl : k = segs.length := by omega
   have hPW : Hid (PWhole segs ((ss, nx), rs) segs.length) := ⟨segs.length, HG.out, .inl ⟨rfl, HST.out, rfl⟩⟩
   have hFN := hide (RI.ret2 (by decide) (by decide) (by decide))
   have ZA := hide RI.ans
   obtain ⟨⟨T0, T1, T2⟩, _⟩ := cells3 RI.box
   obtain ⟨⟨z0, z1, z2⟩, zf⟩ := cells3 RI.ans
   have y0 := zf 0
   have y1 := zf 1
   have y2 := zf 2
   dsimp only at T0 T1 T2
   clear hI RI zf
   go_wp2
   refine retNTT rfl rfl w.heap.size rfl _ _ (0, 0) (heap_set3 (u := wr) ZA.out _ _ _) _ Try.underlying78 rfl info_lgP _ rfl _ rfl ?_
   exact ⟨_, _, ss, nx, rs, segs.length, rfl, hPW.out, ⟨(hFN.out _ _ _).1, (hFN.out _ _ _).2.1⟩, (hFN.out _ _ _).2.2⟩
set_option maxRecDepth 100000 in
set_option maxHeartbeats 2000000 in
theorem pwrecover_any (w : World) (sv : Value) (segs : List Wrt) (h1 : RdC w sv segs) (hm : ∀ s ∈ segs, s.2.length ≤ 16777216) :
  Calls Try.prog 38 #[sv] w fun e w' => ∃ sv' wv' rv, e = .returned (.tuple #[.agg #[sv', .int .i64 (wrecover segs).1.2.1, wv'], rv, .int .i64 (wrecover segs).2.2]) ∧ (OwnW TSP w.heap.size w' sv' (wrecover segs).1.1 ∧ RdSec w' wv' (wrecover segs).1.2.2 ∧ OwnV w.heap.size 0 w' rv (wrecover segs).2.1) ∧ Below w.heap.size w w' := by
 have lb1 := h1.bd
 obtain ⟨a1, c1, rfl⟩ := h1.slice
 obtain ⟨V, hV, V0, bV, sV⟩ := boxedN w #[.slice none 0 0, .int .i64 0, .slice none 0 0] 78
 obtain ⟨⟨z0, z1, z2⟩, zf⟩ := cells3 V0
 have y0 := zf 0
 have y1 := zf 1
 have y2 := zf 2
 clear zf
 go_enter Try.func38, Try.ntmps38
 by_cases h0 : segs.length = 0
 ·have hE : Hid (wrecover segs = (wzero, [], 0)) := if_pos h0
  have : segs = [] := List.eq_nil_of_length_eq_zero h0
  subst this
  rw [hV] at z0 z1 z2 y0 y1 y2
  go_wp2
  rw [← hV]
  refine retNTT rfl rfl w.heap.size rfl _ _ (0, 0) V0 _ Try.underlying78 rfl info_lgP _ rfl _ rfl ?_
  rw [hE.out]
  exact ⟨_, _, _, rfl, ⟨OwnW.nil _ _ _, RdS.nil _ _, OwnV.nil _ _ _⟩, bV⟩
 ·have hi0 : ¬ (segs.length : Int) = 0 := by omega
  by_cases q1 : 4096 < segs.length
  ·have hq1 : (4096 : Int) < (segs.length : Int) := by omega
   have hE : Hid (wrecover segs = (wzero, [], 81)) := by show _ = _; unfold wrecover; rw [if_neg h0, if_pos (.inl q1)]
   rw [hV] at z0 z1 z2 y0 y1 y2
   go_wp2
   rw [← hV]
   refine retNTT rfl rfl w.heap.size rfl _ _ (0, 0) V0 _ Try.underlying78 rfl info_lgP _ rfl _ rfl ?_
   rw [hE.out]
   exact ⟨_, _, _, rfl, ⟨OwnW.nil _ _ _, RdS.nil _ _, OwnV.nil _ _ _⟩, bV⟩
  ·have hq1 : ¬ (4096 : Int) < (segs.length : Int) := by omega
   obtain ⟨f, hf, hfm⟩ := some_at segs (k := 0) (by omega)
   have hf0 := wseg_at hf
   obtain ⟨b0, o0, u0, e0, hc0, _, _⟩ := (h1.to0 bV).wrt hf
   subst e0
   have hc0' := hc0
   rw [Nat.zero_mul, Nat.add_zero] at hc0
   have KI := hide (pindex_any V f.1)
   rw [hV] at hc0 z0 z1 z2 y0 y1 y2
   have hpos : (0 : Int) < (segs.length : Int) := by omega
   have hb : Hid (∀ p1 : widx f.1, ¬ (4096 < segs.length ∨ ¬ widx (wseg segs 0).1)) := fun p1 h => h.elim q1 (fun h => h (by rw [hf0]; exact p1))
   have h81 : Hid (¬ widx f.1 → wrecover segs = (wzero, [], 81)) := fun h => by unfold wrecover; rw [if_neg h0, if_pos (.inr (by show ¬ widx (wseg segs 0).1; rw [hf0]; exact h))]
   have HH := hide (h1.to0 bV)
   have H0 := hide h0
   have HF0 := hide hf0
   have hsl : segs.length ≤ 4096 := by omega
   clear h1 hf hfm hf0 hc0'
   go_wp2_with fail
   rw [← hV]
   rw [← hV] at hc0 z0 z1 z2 y0 y1 y2
   replace hV := hide hV
   refine KI.out.mono ?_
   rintro e w' ⟨rfl, rfl⟩
   clear KI
   by_cases p1 : widx f.1
   ·rw [decide_eq_true p1]
    have KW := hide (pwholeOf_any V _ segs HH.out hm (by omega) hsl (by rw [HF0.out]; exact p1))
    have HB := hide (hb.out p1)
    replace p1 := hide p1
    clear hc0 z0 z1 z2 y0 y1 y2
    go_wp2_with fail
    refine KW.out.mono ?_
    rintro e w2 ⟨sv2, rv2, ss, nx, rs, n, rfl, hP, ⟨r1, r2⟩, b2⟩
    clear KW
    have hEq := wrecover_whole H0.out HB.out hP
    have hnl := pwhole_le hP
    dsimp only at hEq
    obtain ⟨va, vc, hv⟩ := r1.rd.slice
    obtain ⟨ra, rc, hr⟩ := r2.rd.slice
    obtain ⟨SL, hSL⟩ : ∃ SL, SL = ss.length := ⟨_, rfl⟩
    obtain ⟨RL, hRL⟩ : ∃ RL, RL = rs.length := ⟨_, rfl⟩
    rw [← hSL] at hv
    rw [← hRL] at hr
    replace hSL := hide hSL
    replace hRL := hide hRL
    subst hv hr
    obtain ⟨X, hX, X0, bX, sX⟩ := boxedN w2 #[.slice va SL vc, .int .i64 nx, .slice none 0 0] 78
    have c2 := b2.trans (bX.mono b2.size)
    have VX := hide ((c2.block _ (lt_of_block V0)).trans V0)
    obtain ⟨⟨T0, T1, T2⟩, _⟩ := cells3 X0
    obtain ⟨⟨z0, z1, z2⟩, zf⟩ := cells3 VX.out
    have y0 := zf 0
    have y1 := zf 1
    have y2 := zf 2
    have RR : Hid (∀ x y z, OwnW TSP w.heap.size (S3 w.heap.size X x y z) (.slice va SL vc) ss ∧ OwnV w.heap.size 0 (S3 w.heap.size X x y z) (.slice ra RL rc) rs) := fun x y z => by
     have k0 := s3_keep VX.out x y z
     exact ⟨((r1.keepT (KeepT.below bX) (KeepT.below bX)).keepT (k0 _ (by decide)) (k0 _ (by decide))).mono bV.size, ((r2.keepT (KeepT.below bX) (KeepT.below bX)).keepT (k0 _ (by decide)) (k0 _ (by decide))).mono bV.size (Nat.le_refl _)⟩
    have BB : Hid (∀ x y z, Below w.heap.size w (S3 w.heap.size X x y z)) := fun x y z => below_set3 (bV.trans (c2.mono bV.size)) (Nat.le_refl _) x y z
    rw [hX] at T0 T1 T2 z0 z1 z2 y0 y1 y2
    clear r1 r2 b2 c2 bX X0 zf hP
    by_cases n1 : (1099511627776 : Int) < nx
    ·rw [if_pos n1] at hEq
     have hE := hide hEq
     clear hEq
     go_wp2
     rw [← hX]
     refine retNTT rfl rfl w.heap.size rfl _ _ (0, 0) (heap_set3 (u := X) VX.out _ _ _) _ Try.underlying78 rfl info_lgP _ rfl _ rfl ?_
     rw [hE.out]
     exact ⟨_, _, _, rfl, ⟨OwnW.nil _ _ _, RdS.nil _ _, OwnV.nil _ _ _⟩, BB.out _ _ _⟩
    ·rw [if_neg n1] at hEq
     by_cases n2 : n < segs.length
     ·have n2' : (n : Int) < (segs.length : Int) := by omega
      rw [if_pos n2] at hEq
      have hE := hide hEq
      clear hEq
      go_wp2
      rw [← hX]
      refine retNTT rfl rfl w.heap.size rfl _ _ (0, 0) (heap_set3 (u := X) VX.out _ _ _) _ Try.underlying78 rfl info_lgP _ rfl _ rfl ?_
      rw [hE.out]
      exact ⟨_, _, _, rfl, ⟨(RR.out _ _ _).1, RdS.nil _ _, (RR.out _ _ _).2⟩, BB.out _ _ _⟩
     ·have n2' : ¬ (n : Int) < (segs.length : Int) := by omega
      rw [if_neg n2] at hEq
      have hE := hide hEq
      clear hEq
      go_wp2
      rw [← hX]
      refine retNTT rfl rfl w.heap.size rfl _ _ (0, 0) (heap_set3 (u := X) VX.out _ _ _) _ Try.underlying78 rfl info_lgP _ rfl _ rfl ?_
      rw [hE.out]
      exact ⟨_, _, _, rfl, ⟨(RR.out _ _ _).1, RdS.nil _ _, (RR.out _ _ _).2⟩, BB.out _ _ _⟩
   ·rw [decide_eq_false p1]
    have hE := hide (h81.out p1)
    replace p1 := hide p1
    clear hc0
    go_wp2
    refine retNTT rfl rfl w.heap.size rfl _ _ (0, 0) (heap_set3 (u := V) V0 _ _ _) _ Try.underlying78 rfl info_lgP _ rfl _ rfl ?_
    rw [hE.out]
    exact ⟨_, _, _, rfl, ⟨OwnW.nil _ _ _, RdS.nil _ _, OwnV.nil _ _ _⟩, below_set3 bV (Nat.le_refl _) _ _ _⟩
end Go.Proofs.Ytjjicajodjophaa

namespace Go.Proofs.Ytjjicajodjophaa
open Go.RowKit
noncomputable def dmSeg (k : Nat) (s : Wrt) : List D3 := if wn s.2 < s.2.length then [(2, (k : Int), (wn s.2 : Int))] else []
noncomputable def usgs (segs : List Wrt) : Nat → List D3
 | 0 => []
 | k + 1 => usgs segs k ++ (match segs[k]? with | some s => dmSeg k s | none => [])
theorem usgs_next {segs : List Wrt} {k : Nat} {s : Wrt} (h : segs[k]? = some s) : usgs segs (k + 1) = usgs segs k ++ dmSeg k s := by
 show _ ++ (match segs[k]? with | some s => dmSeg k s | none => []) = _
 rw [h]
theorem usgs_len (segs : List Wrt) : ∀ k, (usgs segs k).length ≤ k
 | 0 => by simp [usgs]
 | k + 1 => by
  have := usgs_len segs k
  show (usgs segs k ++ (match segs[k]? with | some s => dmSeg k s | none => [])).length ≤ _
  rw [List.length_append]
  have : (match segs[k]? with | some s => dmSeg k s | none => []).length ≤ 1 := by
   split
   ·unfold dmSeg; split <;> simp
   ·simp
  omega
theorem wrecover_one (b : List UInt8) (h : b.length ≤ 16777216) : (wrecover [((0 : Int), b)]).1.1 = [(0, b.take (wn b))] := by
 have hw := (wn_le b).2.1
 have hone : wrs [((0 : Int), b)] 1 = .inl (wgone 0 (([], 0), []) (0, b) (wrecs b) (wn b)) := by
  show (match wrs [((0 : Int), b)] 0 with | .inl st => wrone 1 0 st ([((0 : Int), b)].getD 0 (0, [])) | .inr a => .inr a) = _
  show wrone 1 0 (([], 0), []) (0, b) = _
  unfold wrone
  dsimp only
  rw [if_neg (by simp), if_neg (by omega), if_neg (by simp)]
 unfold wrecover
 rw [if_neg (by simp), if_neg (by unfold widx; simp)]
 show (match wrs [((0 : Int), b)] 1 with | .inl st => (((st.1.1, st.1.2, []), st.2, 0) : Wans) | .inr a => a).1.1 = _
 rw [hone]
 dsimp only
 unfold wgone
 simp
abbrev TDP : Nat := 42
theorem infoDP : (Try.prog.info? 42).map (fun i => (i.zero, i.size, i.bytes)) = some (some (.agg #[.int .i64 0, .int .i64 0, .int .i64 0]), 3, 24) := by kernel_rfl
set_option maxRecDepth 100000 in
set_option maxHeartbeats 4000000 in
theorem pwholeO_any (w : World) (v : Value) (b : List UInt8) (h : Rd w v b) (hm : b.length ≤ 16777216) :
  Calls Try.prog 49 #[v] w fun e w' => e = .returned (.int .i64 (wn b : Nat)) ∧ Below w.heap.size w w' := by
 obtain ⟨a, c, rfl⟩ := h.slice
 obtain ⟨U, hU, E0, E1, bU, sU⟩ := boxed2 w (.int .i64 0) (.slice a b.length c) 83
 have hrd : RdC U (.slice (some ⟨w.heap.size, 0, none⟩) 1 1) [((0 : Int), b)] := by
  refine ⟨some ⟨w.heap.size, 0, none⟩, 1, rfl, Nat.le_refl _, by unfold maxLen; omega, by simp, .inr ⟨w.heap.size, 0, rfl, ?_⟩⟩
  intro i x hx
  match i, hx with
  | 0, hx =>
   simp only [List.getElem?_cons_zero, Option.some.injEq] at hx
   subst hx
   refine ⟨[.int .i64 0, .slice a b.length c], ⟨[.int .i64 0], [.slice a b.length c], rfl, rfl, ⟨_, rfl, h.to bU⟩⟩, ?_⟩
   intro j u hj
   match j, hj with
   | 0, hj => simp at hj; subst hj; simpa using E0
   | 1, hj => simp at hj; subst hj; simpa using E1
   | j + 2, hj => simp at hj
  | i + 1, hx => simp at hx
 have KR := hide (pwrecover_any U _ [((0 : Int), b)] hrd (by simpa using hm))
 have hone := wrecover_one b hm
 have hwn := (wn_le b).1
 obtain ⟨WR, hWR⟩ : ∃ WR, WR = wrecover [((0 : Int), b)] := ⟨_, rfl⟩
 rw [← hWR] at KR hone
 obtain ⟨⟨ss, nx, ws⟩, rs, er⟩ := WR
 dsimp only at KR hone
 subst hone
 replace hWR := hide hWR
 have HB := hide bU
 rw [hU] at KR
 clear hrd E0 E1 bU h
 go_enter Try.func49, Try.ntmps49
 go_wp2_with fail
 refine KR.out.mono ?_
 rw [← hU]
 rintro e w1 ⟨sv, wv, rv, rfl, ⟨o1, o2, o3⟩, b1⟩
 have R1 := o1.rd
 obtain ⟨sa, sc, hs⟩ := R1.slice
 obtain ⟨wa, wc0, hw⟩ := o2.slice
 obtain ⟨ra, rc, hrv⟩ := o3.rd.slice
 simp only [List.length_cons, List.length_nil] at hs
 subst hs hw hrv
 obtain ⟨xb, xo, u, rfl, hc1, hc2, hr⟩ := R1.wrt (i := 0) rfl
 obtain ⟨ua, uc, hu⟩ := hr.slice
 have hlen : (b.take (wn b)).length = wn b := by simp; omega
 dsimp only at hu hc1 hc2
 rw [hlen] at hu
 subst hu
 rw [Nat.zero_mul, Nat.add_zero] at hc2
 obtain ⟨X, hX, X0, bX, sX⟩ := boxedN w1 #[.slice (some ⟨xb, xo, none⟩) 1 sc, .int .i64 nx, .slice wa ws.length wc0] 78
 have x0 : X.cell? ⟨w1.heap.size, 0, none⟩ = some (.slice (some ⟨xb, xo, none⟩) 1 sc) := cell_of_row _ _ 0 _ _ _ X0
 have hc2' := (bX.cell (cell_lt hc2)).trans hc2
 have F := hide (HB.out.trans ((b1.trans (bX.mono b1.size)).mono HB.out.size))
 rw [hX] at x0 hc2'
 generalize ws.length = wl at *
 generalize rs.length = rl at *
 obtain ⟨N, hN⟩ : ∃ N, N = wn b := ⟨_, rfl⟩
 rw [← hN] at hc2'
 replace hN := hide hN
 clear R1 o1 o2 o3 b1 KR hc1 hc2 hr X0 bX sX HB
 go_wp2
 go_ret
 rw [← hX, ← hN.out]
 exact ⟨rfl, F.out⟩
set_option maxRecDepth 100000 in
set_option maxHeartbeats 4000000 in
theorem usegs_any (w : World) (v : Value) (segs : List Wrt) (h : RdC w v segs) (hm : ∀ s ∈ segs, s.2.length ≤ 16777216) (hl : segs.length ≤ 4000000) :
  Calls Try.prog 15 #[v] w fun e w' => ∃ v', e = .returned v' ∧ OwnD TDP w.heap.size w' v' (usgs segs segs.length) ∧ Below w.heap.size w w' := by
 obtain ⟨a, c, rfl⟩ := h.slice
 have HH := hide h
 have HM := hide hm
 clear h hm
 go_enter Try.func15, Try.ntmps15
 go_wp2
 go_loopw [3, 9] (fun o i wr => ∃ k : Nat, k ≤ segs.length ∧ i = .int .i64 k ∧ Hid (OwnD TDP w.heap.size wr o (usgs segs k) ∧ Below w.heap.size w wr)) (fun _ i _ => segs.length - (intOf i).toNat)
 case atStart => exact ⟨0, Nat.zero_le _, rfl, hide ⟨OwnD.nil _ _ _, Below.refl _ _⟩⟩
 case round =>
  obtain ⟨k, hk, rfl, hH⟩ := hrel
  obtain ⟨ho, hb⟩ := hH.out
  by_cases hlt : k < segs.length
  ·have hq : (k : Int) < (segs.length : Int) := by omega
   obtain ⟨s, hs, hsm⟩ := some_at segs hlt
   have hT := hide (usgs_next hs)
   have hLL : (usgs segs k).length ≤ 4000000 := by have := usgs_len segs k; omega
   have hsl := HM.out s hsm
   obtain ⟨b, off, u, rfl, hc1, hc2, hr⟩ := (HH.out.to0 hb).wrt hs
   obtain ⟨ua, uc, hu⟩ := hr.slice
   obtain ⟨z, x⟩ := s
   dsimp only at hc1 hc2 hu hr hsl hT
   obtain ⟨L, hL⟩ : ∃ L, L = x.length := ⟨_, rfl⟩
   rw [← hL] at hu hsl
   subst hu
   obtain ⟨U, hU, E0, E1, bU, sU⟩ := boxed2 wr (.int .i64 z) (.slice ua L uc) 83
   have KW := hide (pwholeO_any U _ x (hr.to bU) (by rw [← hL]; exact hsl))
   have hNL := (wn_le x).1
   rw [← hL] at hNL
   obtain ⟨N, hN⟩ : ∃ N, N = wn x := ⟨_, rfl⟩
   rw [← hN] at KW hNL
   have oU := hide (ho.to bU)
   have CU := hide (hb.trans (bU.mono hb.size))
   have EE := hide E1
   rw [hU] at E0 E1 KW
   clear ho hb hH bU hs hsm hr
   replace hL := hide hL
   replace hN := hide hN
   go_wp2_with fail
   refine KW.out.mono ?_
   rw [← hU]
   rintro e w2 ⟨rfl, b2⟩
   have E1' := (b2.cell (cell_lt EE.out)).trans EE.out
   have O2 := hide (oU.out.to b2)
   have C2 := hide (CU.out.trans (b2.mono CU.out.size))
   have s2 : w.heap.size ≤ w2.heap.size := C2.out.size
   clear KW E0 E1 b2 oU CU hc1 hc2
   by_cases hc : N < L
   ·have hq2 : (N : Int) < (L : Int) := by omega
    have hD : Hid (dmSeg k (z, x) = [(2, (k : Int), (N : Int))]) := by show _ = _; unfold dmSeg; dsimp only; rw [← hN.out, ← hL.out, if_pos hc]
    obtain ⟨v6, w6, hr6, o6, b6, s6⟩ := run_append_d3 (TL := 33) Try.underlying33 infoDP w2 O2.out 2 (k : Int) (N : Int) (by omega) s2
    have F := hide (And.intro (show OwnD TDP w.heap.size w6 v6 (usgs segs (k + 1)) by rw [hT.out, hD.out]; exact o6) (C2.out.trans b6))
    clear o6 b6
    go_wp2_with (at_builtin; refine Lib.wpList_append_run _ rfl _ _ _ _ rfl _ _ rfl rfl _ _ hr6 ?_)
    go_roundw
    case rel => exact ⟨k + 1, by omega, by go_num, F⟩
    case measure => simp [intOf]; omega
   ·have hq2 : ¬ (N : Int) < (L : Int) := by omega
    have hD : Hid (dmSeg k (z, x) = []) := by show _ = _; unfold dmSeg; dsimp only; rw [← hN.out, ← hL.out, if_neg hc]
    have F := hide (And.intro (show OwnD TDP w.heap.size w2 u3 (usgs segs (k + 1)) by rw [hT.out, hD.out, List.append_nil]; exact O2.out) C2.out)
    go_wp2
    go_roundw
    case rel => exact ⟨k + 1, by omega, by go_num, F⟩
    case measure => simp [intOf]; omega
  ·have hq : ¬ (k : Int) < (segs.length : Int) := by omega
   obtain rfl : k = segs.length := by omega
   have F := hide (And.intro ho hb)
   clear ho hb hH
   go_wp2
   go_ret
   exact ⟨_, rfl, F.out⟩
end Go.Proofs.Ytjjicajodjophaa

namespace Go.Proofs.Ytjjicajodjophaa
open Go.RowKit
end Go.Proofs.Ytjjicajodjophaa

namespace Go.Proofs.Ytjjicajodjophaa
open Go.RowKit
theorem m1 {A L : Int} (h1 : A < L) (h2 : L ≤ 1048576) (h0 : -1 ≤ A) : (1048577 - L).toNat < (1048577 - A).toNat := by omega
theorem m3 (k : Nat) : Value.int .i64 ((k : Int) + 1) = .int .i64 ((k + 1 : Nat) : Int) := by simp
end Go.Proofs.Ytjjicajodjophaa

namespace Go.Proofs.Ytjjicajodjophaa
open Go.RowKit
end Go.Proofs.Ytjjicajodjophaa

namespace Go.Proofs.Ytjjicajodjophaa
open Go.RowKit
def wshort (segs : List Wrt) : Prop := ∀ s ∈ segs, s.2.length ≤ 16777216
structure WalSay : Prop where
 checkS : ∀ (w : World) (sv wv : Value) (l : Wlg), RdC w sv l.1 → RdSec w wv l.2.2 → wshort l.1 →
  Calls Try.prog 43 #[.agg #[sv, .int .i64 l.2.1, wv]] w fun e w' => e = .returned (.int .i64 (wcheck l)) ∧ Below w.heap.size w w'
 appendS : ∀ (w : World) (sv wv rv : Value) (l : Wlg) (rs : List (List UInt8)), RdC w sv l.1 → RdSec w wv l.2.2 → RdSec w rv rs → wshort l.1 → rs.length ≤ 10000000000000 →
  Calls Try.prog 29 #[.agg #[sv, .int .i64 l.2.1, wv], rv] w fun e w' => ∃ sv' wv', e = .returned (.tuple #[.agg #[sv', .int .i64 (wappend l rs).1.2.1, wv'], .int .i64 (wappend l rs).2]) ∧ LgF 83 w.heap.size w' sv' wv' (wappend l rs).1 ∧ Below w.heap.size w w'
 flushS : ∀ (w : World) (sv wv : Value) (l : Wlg) (limit : Int), RdC w sv l.1 → RdSec w wv l.2.2 → wshort l.1 →
  Calls Try.prog 30 #[.agg #[sv, .int .i64 l.2.1, wv], .int .i64 limit] w fun e w' => ∃ sv' wv', e = .returned (.tuple #[.agg #[sv', .int .i64 (wflush l limit).1.2.1, wv'], .int .i64 (wflush l limit).2]) ∧ LgF 83 w.heap.size w' sv' wv' (wflush l limit).1 ∧ Below w.heap.size w w'
 recoverS : ∀ (w : World) (sv : Value) (segs : List Wrt), RdC w sv segs → wshort segs →
  Calls Try.prog 38 #[sv] w fun e w' => ∃ sv' wv' rv, e = .returned (.tuple #[.agg #[sv', .int .i64 (wrecover segs).1.2.1, wv'], rv, .int .i64 (wrecover segs).2.2]) ∧ (OwnW 83 w.heap.size w' sv' (wrecover segs).1.1 ∧ RdSec w' wv' (wrecover segs).1.2.2 ∧ OwnV w.heap.size 0 w' rv (wrecover segs).2.1) ∧ Below w.heap.size w w'
end Go.Proofs.Ytjjicajodjophaa

namespace Go.Proofs.Ytjjicajodjophaa
open Go.RowKit
end Go.Proofs.Ytjjicajodjophaa

namespace Go.Proofs.Ytjjicajodjophaa
open Go.ChangeShapes Go.WideShapes Go.ChangeAt Go.RowKit
theorem opens_octs1 : Opens Shp.octs 62 (fun x => x.length ≤ 140737488351232) (fun x => x.length + 1) := by
 refine ⟨by kernel_rfl, fun {H enc W fuel cs x} h => ?_⟩
 obtain ⟨d, p⟩ := x
 obtain ⟨a, len, cap, rfl⟩ : ∃ a len cap, cs = [.slice a len cap] := by
  rcases open_ints Try.underlying62 Try.underlying5 (by kernel_rfl) h with ⟨hcs, _⟩ | ⟨x, l, c, zs, hcs, _⟩
  ·exact ⟨_, _, _, hcs⟩
  ·exact ⟨_, _, _, hcs⟩
 obtain ⟨xs, e, r, s⟩ := open_octs (d := d) (p := p) ⟨fuel, h⟩
 refine ⟨xs, ⟨_, rfl, r⟩, fun hw => ?_, ?_⟩
 ·rcases s with s | ⟨el, sp, rfl, hel⟩
  ·omega
  ·have := hw ((el.length + sp.length) * Try.prog.bytesOf 5) (by simp [DataW.weights, Try.underlying62])
   rw [bytes8] at this
   simp only [reachBytes] at this
   omega
 ·rcases s with s | ⟨el, sp, rfl, hel⟩
  ·have := bulk_pos d
   dsimp only
   omega
  ·have := bulk_len el
   simp only [Rows.uptoBulk]
   omega
theorem open_sectors : Opens SSec 22 (fun xs => xs.length * 24 ≤ 140737488351232 ∧ ∀ x ∈ xs, x.length ≤ 140737488351232) (fun xs => (xs.map (fun x => x.length + 1)).sum) :=
 opens_octs1.list Try.underlying22 (by kernel_rfl) (by kernel_rfl) (by decide)
abbrev SBat : Shp (List (List (List UInt8))) := Shp.list 22 SSec
end Go.Proofs.Ytjjicajodjophaa

namespace Go.Proofs.Ytjjicajodjophaa
open Go.RowKit
def OwnR (w0 w : World) (v : Value) (xss : List (List UInt8)) : Prop :=
 ∃ vs : List Value, vs.length = xss.length ∧ w.ownsRow w0.heap.size 62 1 v xss.length vs ∧ ∀ i, i < xss.length → Rd w0 (vs.getD i undef) (xss.getD i [])
theorem OwnR.nil (w0 w : World) : OwnR w0 w (.slice none 0 0) [] := ⟨[], rfl, World.ownsRow_nil _ _ _ _, fun i hi => by simp at hi⟩
theorem OwnR.keepT {w0 w w' : World} {v : Value} {xss : List (List UInt8)} (h : OwnR w0 w v xss) (k : KeepT 62 w w') : OwnR w0 w' v xss := by
 obtain ⟨vs, h1, h2, h3⟩ := h
 exact ⟨vs, h1, rows_keepT h2 k, h3⟩
theorem OwnR.to {w0 w w' : World} {v : Value} {xss : List (List UInt8)} (h : OwnR w0 w v xss) (hb : Below w.heap.size w w') : OwnR w0 w' v xss := h.keepT (KeepT.below hb)
theorem OwnR.rd {w0 w : World} {v : Value} {xss : List (List UInt8)} (h : OwnR w0 w v xss) (hb : Below w0.heap.size w0 w) : RdSec w v xss := by
 obtain ⟨vs, hl, ⟨_, ⟨rfl, h0⟩ | ⟨g, cap, cur, rfl, hgb, hg, hn, hm, hs, ht⟩⟩, he⟩ := h
 ·have : xss = [] := List.eq_nil_of_length_eq_zero h0
  subst this
  exact RdS.nil _ _
 ·refine ⟨_, cap, rfl, hn, hm, (fun e => by cases e), .inr ⟨g, 0, rfl, fun i x hx => ?_⟩⟩
  have hi : i < xss.length := (List.getElem?_eq_some_iff.1 hx).1
  have hr := (he i hi).to hb
  rw [getD_some hx] at hr
  refine ⟨[vs.getD i undef], ⟨_, rfl, hr⟩, fun j u hj => ?_⟩
  match j, hj with
  | 0, hj =>
   simp only [List.getElem?_cons_zero, Option.some.injEq] at hj
   subst hj
   show w.cell? ⟨g, 0 + i * 1 + 0, none⟩ = _
   rw [cell_of_row w g _ cur _ (0, 0) hg]
   have e : cur[0 + i * 1 + 0]? = (cur.toList.take (xss.length * 1))[i]? := by
    rw [List.getElem?_take, if_pos (by omega)]; simp
   rw [e, ht]
   simp [hl, hi]
  | j + 1, hj => simp at hj
structure Lst (limit : Int) (gs : List (List (List UInt8))) : Prop where
 ne : ∀ g ∈ gs, g ≠ []
 sh : ∀ g ∈ gs, ∀ r ∈ g, r.length ≤ 4096
 fl : gs.flatten.length ≤ 4000
 ok : GOk limit gs
theorem flat_ge : ∀ {gs : List (List (List UInt8))}, (∀ g ∈ gs, g ≠ []) → gs.length ≤ gs.flatten.length
 | [], _ => Nat.le_refl _
 | g :: gs, h => by
  have ih := flat_ge (gs := gs) fun x hx => h x (List.mem_cons_of_mem _ hx)
  have hg : 0 < g.length := List.length_pos_iff.2 (h g (List.mem_cons_self ..))
  rw [List.flatten_cons, List.length_append, List.length_cons]
  omega
theorem Lst.len {limit : Int} {gs : List (List (List UInt8))} (h : Lst limit gs) : gs.length ≤ 4000 := Nat.le_trans (flat_ge h.ne) h.fl
theorem Lst.nil (limit : Int) : Lst limit [] := ⟨fun g hg => by (cases hg), fun g hg => by (cases hg), by simp, gok_nil _⟩
theorem Lst.put {limit : Int} {gs : List (List (List UInt8))} {b : List (List UInt8)} (h : Lst limit gs) (hl : 1 ≤ limit) (hb : wwaitOk b) (hn : gs.flatten.length + b.length ≤ 4000) : Lst limit (b.foldl (gput limit) gs) := by
 refine ⟨gfold_ne limit b gs h.ne, short_flat.2 fun r hr => ?_, by rw [gfold_flat, List.length_append]; exact hn, gfold_ok hl b gs h.ok⟩
 rw [gfold_flat] at hr
 rcases List.mem_append.1 hr with hr | hr
 ·exact short_flat.1 h.sh r hr
 ·exact hb r hr
theorem Lst.short {limit : Int} {gs : List (List (List UInt8))} (h : Lst limit gs) (hl : limit ≤ 1000000) : wshort (wsegs 0 gs) := by
 intro s hs
 obtain ⟨k, hk, e⟩ := List.mem_iff_getElem.1 hs
 rw [wsegs_len] at hk
 obtain ⟨g, hg⟩ : ∃ g, gs[k]? = some g := ⟨gs[k], List.getElem?_eq_getElem hk⟩
 have hs' := wsegs_at gs 0 k g hg
 rw [List.getElem?_eq_getElem (by rw [wsegs_len]; exact hk), e] at hs'
 simp only [Option.some.injEq] at hs'
 subst hs'
 dsimp only
 rw [wdata_len]
 have hm := List.mem_of_getElem? hg
 have hgl : 0 < g.length := List.length_pos_iff.2 (h.ne g hm)
 have h1 := h.ok.1 g hm (g.length - 1) (by omega)
 obtain ⟨r, hr⟩ : ∃ r, g[g.length - 1]? = some r := ⟨g[g.length - 1], List.getElem?_eq_getElem (by omega)⟩
 have hrl := h.sh g hm r (List.mem_of_getElem? hr)
 have e2 : g = g.take (g.length - 1) ++ [r] := by
  have := take_snoc hr
  rw [show g.length - 1 + 1 = g.length by omega, List.take_of_length_le (Nat.le_refl _)] at this
  exact this
 have e3 : wsz g = wsz (g.take (g.length - 1)) + (r.length + 8) := by
  conv => lhs; rw [e2]
  rw [wsz_app]; simp [wsz]
 omega
theorem Lst.wok {limit : Int} {gs : List (List (List UInt8))} (h : Lst limit gs) : WOk (wsegs 0 gs, ((gs.flatten.length : Nat) : Int), []) :=
 wok_laid (by have := h.len; omega) h.sh (by have := h.fl; omega) (by decide) (fun r hr => by cases hr)
theorem Lst.app {limit : Int} {gs : List (List (List UInt8))} {b : List (List UInt8)} (h : Lst limit gs) (hn : gs.flatten.length + b.length ≤ 4000) (hb : wwaitOk b) : wappend (wsegs 0 gs, ((gs.flatten.length : Nat) : Int), []) b = ((wsegs 0 gs, ((gs.flatten.length : Nat) : Int), b), 0) :=
 wappend_0 h.wok hb (by simp; omega)
theorem Lst.apx {limit : Int} {gs : List (List (List UInt8))} {b : List (List UInt8)} (h : Lst limit gs) (hb : ¬ wwaitOk b) : wappend (wsegs 0 gs, ((gs.flatten.length : Nat) : Int), []) b = (wzero, 5) :=
 wappend_5 h.wok hb
theorem Lst.flu {limit : Int} {gs : List (List (List UInt8))} {b : List (List UInt8)} (h : Lst limit gs) (hl : 1 ≤ limit ∧ limit ≤ 1048576) (hn : gs.flatten.length + b.length ≤ 4000) (hb : wwaitOk b) : wflush (wsegs 0 gs, ((gs.flatten.length : Nat) : Int), b) limit = ((wsegs 0 (b.foldl (gput limit) gs), (((b.foldl (gput limit) gs).flatten.length : Nat) : Int), []), 0) :=
 wflush_laid hl (by omega) (by have := flat_ge h.ne; omega) h.sh hb
end Go.Proofs.Ytjjicajodjophaa

namespace Go.Proofs.Ytjjicajodjophaa
open Go.RowKit
theorem ownEach_keepT {w w' : World} (k1 : KeepT 5 w w') : ∀ {xs : List Wrt} {F : List Nat} {cc : List Value}, ownEach SWr w F cc xs → ownEach SWr w' F cc xs
 | [], F, cc, h => h
 | x :: xs, F, cc, ⟨F1, F2, c1, c2, e1, e2, ⟨c, d, G, H, p1, p2, p3, v, p4, p5, p6⟩, h2⟩ => ⟨F1, F2, c1, c2, e1, e2, ⟨c, d, G, H, p1, p2, p3, v, p4, rows_keepT p5 k1, p6⟩, ownEach_keepT k1 h2⟩
theorem Own.keepT {T B : Nat} {w w' : World} {v : Value} {xs : List Wrt} (h : Own (Shp.list T SWr) B w [v] xs) (k1 : KeepT 5 w w') (k2 : KeepT T w w') : Own (Shp.list T SWr) B w' [v] xs := by
 obtain ⟨F, ⟨v', cc, G, e, h1, h2, h3⟩, hn, hB⟩ := h
 exact ⟨F, ⟨v', cc, G, e, rows_keepT h1 k2, ownEach_keepT k1 h2, h3⟩, hn, hB⟩
theorem rd_none {w : World} (w' : World) {v : Value} (h : RdSec w v []) : RdSec w' v [] := by
 obtain ⟨ao, cap, e, h1, h2, h3, _⟩ := h
 exact ⟨ao, cap, e, h1, h2, h3, .inl rfl⟩
def flen (gs : List (List (List UInt8))) : Nat := gs.flatten.length
structure LInv (w wr : World) (limit : Int) (o c wv : Value) (gs : List (List (List UInt8))) : Prop where
 ans : wr.heap[w.heap.size]? = some (.cells #[.slice none 0 0, .int .i64 0, .slice none 0 0] 78 (0, 0))
 box : wr.heap[w.heap.size + 1]? = some (.cells #[c, .int .i64 ((flen gs : Nat) : Int), wv] 78 (0, 0))
 lg : Own (Shp.list 83 SWr) (w.heap.size + 2) wr [c] (wsegs 0 gs)
 wt : RdSec wr wv []
 all : OwnR w wr o gs.flatten
 bel : Below w.heap.size w wr
 ls : Lst limit gs
theorem LInv.to {w wr u : World} {limit : Int} {o c wv : Value} {gs : List (List (List UInt8))} (h : LInv w wr limit o c wv gs) (hb : Below wr.heap.size wr u) : LInv w u limit o c wv gs :=
 ⟨(hb.block _ (lt_of_block h.ans)).trans h.ans, (hb.block _ (lt_of_block h.box)).trans h.box, h.lg.to hb, rd_none _ h.wt, h.all.to hb, h.bel.trans (hb.mono h.bel.size), h.ls⟩
theorem below_of3 {B g : Nat} {w u : World} (h : Below B w u) (hg : B ≤ g) (x y z : Value) : Below B w (S3 g u x y z) := below_set3 h hg x y z
theorem s3_block {g b : Nat} {u : World} (hne : b ≠ g) (x y z : Value) : (S3 g u x y z).heap[b]? = u.heap[b]? := by
 show (((u.setCell ⟨g, 0, none⟩ x).setCell ⟨g, 1, none⟩ y).setCell ⟨g, 2, none⟩ z).heap[b]? = _
 rw [Below.heap_setCell _ _ _ _ hne, Below.heap_setCell _ _ _ _ hne, Below.heap_setCell _ _ _ _ hne]
end Go.Proofs.Ytjjicajodjophaa

namespace Go.Proofs.Ytjjicajodjophaa
open Go.RowKit
def KpF2 (F : List Nat) (w U : World) : Prop := (∀ b, b < w.heap.size → b ∉ F → U.heap[b]? = w.heap[b]?) ∧ ∀ B, (∀ b, b ∈ F → B ≤ b) → B ≤ w.heap.size → Below B w U
theorem KpF2.refl (F : List Nat) (w : World) : KpF2 F w w := ⟨fun _ _ _ => rfl, fun _ _ _ => Below.refl _ _⟩
theorem KpF2.step {F F1 : List Nat} {w U V : World} (h : KpF2 F w U) (hF : ∀ b, b ∈ F1 → b ∈ F ∨ w.heap.size ≤ b) (k : KpF2 F1 U V) (hs : w.heap.size ≤ U.heap.size) : KpF2 F w V := by
 refine ⟨fun b hb hn => ?_, fun B hB hw => (h.2 B hB hw).trans (k.2 B (fun b hb => (hF b hb).elim (hB b) (fun q => by omega)) (by omega))⟩
 rw [k.1 b (by omega) (fun q => (hF b q).elim hn (fun q => by omega)), h.1 b hb hn]
theorem KpF2.below {F : List Nat} {w U V : World} (h : KpF2 F w U) (hs : w.heap.size ≤ U.heap.size) (k : Below U.heap.size U V) : KpF2 F w V :=
 ⟨fun b hb hn => (k.block b (by omega)).trans (h.1 b hb hn), fun B hB hw => (h.2 B hB hw).trans (k.mono (by omega))⟩
theorem KpF2.set {F : List Nat} {w U : World} (h : KpF2 F w U) {a : Addr} (ha : w.heap.size ≤ a.block) (u : Value) : KpF2 F w (U.setCell a u) :=
 ⟨fun b hb hn => (Below.heap_setCell _ _ _ _ (fun e => by omega)).trans (h.1 b hb hn), fun B hB hw => (h.2 B hB hw).setCell (p := a) (by omega) u⟩
structure WSt (F : List Nat) (w U : World) (g : Nat) (cU : Value) (R : List Wrt) (n : Int) : Prop where
 box : U.heap[g]? = some (.cells #[cU, .int .i64 n, .slice none 0 0] 78 (0, 0))
 ans : U.heap[g + 1]? = some (.cells #[.slice none 0 0, .int .i64 0, .slice none 0 0] 78 (0, 0))
 own : ∃ F1, OwnF (SLg TSP) F1 U [cU, .int .i64 n, .slice none 0 0] (R, n, []) ∧ (∀ b, b ∈ F1 → b ∈ F ∨ w.heap.size ≤ b) ∧ g ∉ F1 ∧ g + 1 ∉ F1
 kp : KpF2 F w U
 hg : w.heap.size ≤ g
 sz : w.heap.size ≤ U.heap.size
theorem WSt.to {F : List Nat} {w U V : World} {g : Nat} {cU : Value} {R : List Wrt} {n : Int} (h : WSt F w U g cU R n) (hb : Below U.heap.size U V) : WSt F w V g cU R n := by
 obtain ⟨F1, o1, o2, o3, o4⟩ := h.own
 exact ⟨(hb.block _ (lt_of_block h.box)).trans h.box, (hb.block _ (lt_of_block h.ans)).trans h.ans, ⟨F1, o1.to hb, o2, o3, o4⟩, h.kp.below h.sz hb, h.hg, Nat.le_trans h.sz hb.size⟩
set_option maxRecDepth 100000 in
set_option maxHeartbeats 8000000 in
theorem pwritten_any (w : World) (sv rv : Value) (F : List Nat) (segs : List Wrt) (n : Int) (r : List UInt8) (limit : Int) (hF : OwnF (SLg TSP) F w [sv, .int .i64 n, .slice none 0 0] (segs, n, [])) (hr : ∀ w', KpF2 F w w' → Rd w' rv r) (hrl : r.length ≤ 4096)
  (hsl : segs.length ≤ 1000000) (hsd : ∀ s ∈ segs, s.2.length ≤ 1000000000) (hn0 : 0 ≤ n) (hn1 : n ≤ 2000000000000) :
  Calls Try.prog 65 #[.agg #[sv, .int .i64 n, .slice none 0 0], rv, .int .i64 limit] w fun e w' => ∃ sv' F', e = .returned (.agg #[sv', .int .i64 (n + 1), .slice none 0 0]) ∧ OwnF (SLg TSP) F' w' [sv', .int .i64 (n + 1), .slice none 0 0] (wlay (wroom limit segs n) r, n + 1, []) ∧ (∀ b, b ∈ F' → b ∈ F ∨ w.heap.size ≤ b) ∧ KpF2 F w w' := by
 obtain ⟨j0, ji, jz0, jz1, jz2⟩ := info_parts infoSP
 obtain ⟨ca, cc0, hcs⟩ := (OwnF.waits hF).2.slice
 obtain ⟨ra, rc, hrv⟩ := (hr w (KpF2.refl _ _)).slice
 obtain ⟨m', hm'⟩ : ∃ m', m' = segs.length := ⟨_, rfl⟩
 rw [← hm'] at hcs hsl
 obtain ⟨RL, hRL⟩ : ∃ RL, RL = r.length := ⟨_, rfl⟩
 rw [← hRL] at hrv
 subst hcs hrv
 obtain ⟨W, hW, hA, hZ, bW, sW⟩ := boxes3 w (.slice ca m' cc0) (.int .i64 n) (.slice none 0 0) 78
 have hlt := hF.lt
 have st0 : WSt F w W w.heap.size (.slice ca m' cc0) segs n :=
  ⟨hA, hZ, ⟨F, hF.to bW, fun b hb => .inl hb, fun h => by have := hlt _ h; omega, fun h => by have := hlt _ h; omega⟩, (KpF2.refl F w).below (Nat.le_refl _) bW, Nat.le_refl _, by omega⟩
 have ST0 := hide st0
 replace sW := hide sW
 obtain ⟨⟨A0, A1, A2⟩, af⟩ := cells3 hA
 have f0 := af 0
 have HR := hide hr
 have HSD := hide hsd
 have hmi : (0 : Int) ≤ (m' : Int) := by omega
 replace hm' := hide hm'
 replace hRL := hide hRL
 rw [hW] at A0 A1 A2 f0
 clear st0 hA hZ bW hF hr hsd hlt af
 go_enter Try.func65, Try.ntmps65
 go_upto_region 2 with fail
 rw [← hW]
 rw [← hW] at A0 A1 A2 f0
 replace hW := hide hW
 obtain ⟨bb, hbb⟩ : ∃ b : Bool, b = decide (segs.length = 0 ∨ limit ≤ ((wlast segs).2.length : Nat)) := ⟨_, rfl⟩
 replace hbb := hide hbb
 go_cut [26] from 14 to 26 (fun s wx => s = .bool bb ∧ W = wx)
 case first =>
  by_cases hz : m' = 0
  ·have hb : Hid (bb = true) := hbb.out.trans (decide_eq_true (.inl (by rw [← hm'.out]; exact hz)))
   have hz1 : (m' : Int) - 1 < 0 := by omega
   replace hz := hide hz
   go_wp2_with fail
   go_meet
   exact ⟨by rw [hb.out], rfl⟩
  ·obtain ⟨m, hmm⟩ : ∃ m, m' = m + 1 := ⟨m' - 1, by omega⟩
   have hz1 : ¬ (m' : Int) - 1 < 0 := by omega
   have hidx : (m' : Int) - 1 = (m : Int) := by omega
   have hqq0 : (m : Int) < (m' : Int) := by omega
   have hsm : segs.length = m + 1 := by rw [← hm'.out, hmm]
   obtain ⟨⟨lz, lx⟩, hlx, hlm⟩ := some_at segs (k := m) (by omega)
   have hlast := hide (wlast_at hsm hlx)
   have hlb := HSD.out _ hlm
   obtain ⟨F1, o1, _⟩ := ST0.out.own
   obtain ⟨gL, capL, ldv, hsL, hgL, e0L, e1L, efL, odL, _⟩ := OwnF.seg o1 hlx
   simp only [Value.slice.injEq] at hsL
   obtain ⟨rfl, hxx, rfl⟩ := hsL
   clear hxx
   obtain ⟨la, lc, rfl⟩ := odL.rd.slice
   obtain ⟨LL, hLL⟩ : ∃ LL, LL = lx.length := ⟨_, rfl⟩
   dsimp only at hlb
   rw [← hLL] at e1L hlb
   have hmb : (m : Int) ≤ 1000000 := by omega
   by_cases hfl : limit ≤ (LL : Int)
   ·have hb : Hid (bb = true) := hbb.out.trans (decide_eq_true (.inr (by rw [hlast.out]; dsimp only; rw [← hLL]; exact hfl)))
    clear o1 odL hlx hlm
    replace hz := hide hz
    replace hmm := hide hmm
    replace hsm := hide hsm
    replace hLL := hide hLL
    rw [hidx]
    go_wp2_with fail
    rw [← hidx]
    go_meet
    exact ⟨by rw [hb.out], rfl⟩
   ·have hb : Hid (bb = false) := hbb.out.trans (decide_eq_false (fun h => h.elim (fun h => hz (by rw [hm'.out]; exact h)) (fun h => hfl (by rw [hlast.out] at h; dsimp only at h; rw [← hLL] at h; exact h))))
    clear o1 odL hlx hlm
    replace hz := hide hz
    replace hmm := hide hmm
    replace hsm := hide hsm
    replace hLL := hide hLL
    rw [hidx]
    go_wp2_with fail
    rw [← hidx]
    go_meet
    exact ⟨by rw [hb.out]; try (simp only [Value.bool.injEq, decide_eq_false_iff_not]; omega), rfl⟩
 case rest =>
 obtain ⟨rfl, rfl⟩ := hcut
 go_upto_if 26 with fail
 go_cut [7] from 27 to 36 (fun s wx => ∃ (cU : Value) (q : Nat) (R : List Wrt), s = .int .i64 (q : Int) ∧ R.length = q + 1 ∧ q ≤ 1000000 ∧ Hid (R = wroom limit segs n ∧ ∀ s ∈ R, s.2.length ≤ 1000000000) ∧ Hid (WSt F w wx w.heap.size cU R n))
 case first =>
  by_cases hp : segs.length = 0 ∨ limit ≤ ((wlast segs).2.length : Nat)
  ·have hb := hbb.out.trans (decide_eq_true hp)
   clear hbb
   subst hb
   have hRm : Hid (segs ++ [(n, [])] = wroom limit segs n ∧ ∀ s ∈ segs ++ [(n, [])], s.2.length ≤ 1000000000) := ⟨(wroom_push hp).symm, fun s hs => by
    rcases List.mem_append.1 hs with hs | hs
    ·exact HSD.out s hs
    ·simp only [List.mem_singleton] at hs; subst hs; simp⟩
   obtain ⟨F1, o1, o2, o3, o4⟩ := ST0.out.own
   obtain ⟨cc, rowT, fin⟩ := OwnF.litFst (c0 := [.int .i64 n, .slice none 0 0]) o1 (n := m') hm'.out.symm
   have FIN : Hid (∀ (w5 : World) (g cap : Nat), (W.alloc (.cells #[.int .i64 n, .slice none 0 0] 83)).grownBy w5 (Value.slice ca m' cc0).ownBlock → w5.ownsRow 0 83 2 (.slice (some ⟨g, 0, none⟩) (m' + 1) cap) (m' + 1) (cc ++ [.int .i64 n, .slice none 0 0]) → ((Value.slice ca m' cc0).ownBlock = some g ∨ g = W.heap.size + 1) →
     (w5.cell? ⟨w.heap.size, 0, none⟩ = some (.slice ca m' cc0) ∧ w5.frozen? ⟨w.heap.size, 0, none⟩ = false) ∧ Hid (WSt F w (w5.setCell ⟨w.heap.size, 0, none⟩ (.slice (some ⟨g, 0, none⟩) (m' + 1) cap)) w.heap.size (.slice (some ⟨g, 0, none⟩) (m' + 1) cap) (segs ++ [(n, [])]) n)) := fun w5 g cap k3 k4 k5 => by
    obtain ⟨⟨F', q1, q2⟩, q3, q4⟩ := fin W [.int .i64 n, .slice none 0 0] (n, []) 83 _ w5 g cap (Below.refl _ _) (own_wrt (World.ownsRow_nil _ _ _ _)) rfl rfl rfl rfl k3 k4 k5
    have hbl := lt_of_block ST0.out.box
    have hal := lt_of_block ST0.out.ans
    have hT5 := (q4 _ hbl o3).trans ST0.out.box
    have hZ5 := (q4 _ hal o4).trans ST0.out.ans
    obtain ⟨⟨t0, _, _⟩, tf⟩ := cells3 hT5
    have g1 : w.heap.size ∉ F' := fun hm => (q2 _ hm).elim o3 (fun h => by omega)
    have g2 : w.heap.size + 1 ∉ F' := fun hm => (q2 _ hm).elim o4 (fun h => by omega)
    have hs5 : W.heap.size ≤ w5.heap.size := (q3 0 (fun _ _ => Nat.zero_le _) (Nat.zero_le _)).size
    refine ⟨⟨t0, tf 0⟩, set3_0 hT5 _, ?_, ⟨F', q1.set g1 _, fun b hb' => (q2 b hb').elim (o2 b) (fun h => by omega), g1, g2⟩, ?_, Nat.le_refl _, by simp; omega⟩
    ·rw [Below.heap_setCell _ _ _ _ (show w.heap.size + 1 ≠ w.heap.size by omega)]; exact hZ5
    ·exact (ST0.out.kp.step o2 ⟨fun b hb hn => q4 b hb hn, fun B hB hw => q3 B hB hw⟩ ST0.out.sz).set (a := ⟨w.heap.size, 0, none⟩) (Nat.le_refl _) _
   have ROW := hide (rowT _ ((Below.refl _ _).alloc (Nat.le_refl _) (.cells #[.int .i64 n, .slice none 0 0] 83)))
   have h63 : m' + 1 ≤ maxLen := by rw [show maxLen = 9223372036854775807 from rfl]; omega
   have hby : (m' + 1) * 32 ≤ 140737488355328 := by omega
   have hRl : Hid ((segs ++ [(n, [])] : List Wrt).length = m' + 1) := by show _ = _; rw [List.length_append, ← hm'.out]; rfl
   clear fin rowT o1 o2 o3 o4
   replace hp := hide hp
   go_wp2_with (at_builtin; refine wpList_append_lies _ rfl _ _ 47 rfl 0 83 j0 _ 2 32 Try.underlying47 ji jz0 jz1 jz2 rfl (by decide) (.slice ca m' cc0) m' cc rfl ROW.out ⟨W.heap.size, 0, none⟩ 1 1 [.int .i64 n, .slice none 0 0] rfl rfl (World.news_of_block (heap_alloc_last W _)) (by simp [Value.oneCell']) (by decide) h63 hby (Nat.zero_le _) (W.heap.size + 1) (by simp) ?_; intro gR capR w5 ho5 hg5 hat5 hlt5; obtain ⟨⟨y5, y6⟩, HB⟩ := FIN.out w5 gR capR hg5 ho5 hat5; clear ho5 hg5 hat5)
   go_meet
   exact ⟨_, m', _, by go_num, hRl.out, hsl, hRm, HB⟩
  ·have hb := hbb.out.trans (decide_eq_false hp)
   clear hbb
   subst hb
   have hz : ¬ m' = 0 := fun e => hp (.inl (by rw [← hm'.out]; exact e))
   have hRm : Hid (segs = wroom limit segs n ∧ ∀ s ∈ segs, s.2.length ≤ 1000000000) := ⟨(wroom_keep hp).symm, HSD.out⟩
   have hln : Hid (segs.length = (m' - 1) + 1) := by show _ = _; rw [← hm'.out]; omega
   have hidx : Hid ((m' : Int) - 1 = ((m' - 1 : Nat) : Int)) := by show _ = _; omega
   replace hp := hide hp
   replace hz := hide hz
   go_wp2_with fail
   go_meet
   exact ⟨_, m' - 1, _, by rw [← hidx.out]; try go_num, hln.out, by omega, hRm, ST0⟩
 case rest =>
 clear hbb ST0 A0 A1 A2 f0
 obtain ⟨cU, q, R, rfl, hRl, hq6, hRm, HS⟩ := hcut
 obtain ⟨U, hU⟩ : ∃ U, U = wc := ⟨_, rfl⟩
 rw [← hU] at HS ⊢
 replace hU := hide hU
 obtain ⟨⟨z, x⟩, hRx, hRxm⟩ := some_at R (k := q) (by omega)
 have hxl := hRm.out.2 _ hRxm
 have hlay := hide (wlay_at (r := r) hRl hRx)
 dsimp only at hxl
 have HRx := hide hRx
 have KS := hide (fseal_any U 1 _ r (HR.out U HS.out.kp) (by omega))
 rw [show fsealO 1 r = fseal 1 r from if_neg (by omega), show fsealE r = 0 from if_neg (by omega), show (((1 : UInt8).toNat : Nat) : Int) = 1 from rfl] at KS
 have hfl := fseal_len 1 r
 obtain ⟨B, hB⟩ : ∃ B, B = fseal 1 r := ⟨_, rfl⟩
 rw [← hB] at KS hfl hlay
 rw [← hRL.out] at hfl
 have hRL2 : RL ≤ 4096 := by rw [hRL.out]; exact hrl
 replace hB := hide hB
 replace hRl := hide hRl
 clear hRx hRxm
 go_wp2_with fail
 refine KS.out.mono ?_
 rintro e w6 ⟨bv, rfl, ob, bb6⟩
 clear KS
 have bd : Below U.heap.size U w6.drew := bb6.drew
 have S6 := hide (HS.out.to bd)
 have obr := hide (ob.rd.to (Below.refl _ _).drew)
 obtain ⟨F1, o1, o2, o3, o4⟩ := S6.out.own
 obtain ⟨gR, capR, dv, hsR, hgR, e0, e1, ef, od, fin⟩ := OwnF.seg o1 HRx.out
 rw [hRl.out] at hsR
 subst hsR
 obtain ⟨da, dc, hdv⟩ := od.rd.slice
 obtain ⟨ba, bc, hbv⟩ := ob.rd.slice
 subst hbv
 obtain ⟨BL, hBL⟩ : ∃ BL, BL = B.length := ⟨_, rfl⟩
 obtain ⟨XL, hXL⟩ : ∃ XL, XL = x.length := ⟨_, rfl⟩
 rw [← hXL] at hdv hxl
 rw [← hBL] at obr hfl
 rw [← hBL]
 subst hdv
 have hgs : w.heap.size ≠ gR := fun e => o3 (by rw [e]; exact hgR)
 have hgs1 : w.heap.size + 1 ≠ gR := fun e => o4 (by rw [e]; exact hgR)
 have hs6 : U.heap.size ≤ w6.drew.heap.size := bd.size
 obtain ⟨⟨T0, T1, T2⟩, _⟩ := cells3 S6.out.box
 have FIN : Hid (∀ (g' cap' : Nat) (w7 : World), OwnB 0 w7 (.slice (some ⟨g', 0, none⟩) (XL + BL) cap') (x ++ B) → w6.drew.grownBy w7 (Value.slice da XL dc).ownBlock → ((Value.slice da XL dc).ownBlock = some g' ∨ g' = w6.drew.heap.size) →
   (w7.cell? ⟨gR, q * 2 + 1, none⟩ = some (.slice da XL dc) ∧ w7.frozen? ⟨gR, q * 2 + 1, none⟩ = false ∧ w7.cell? ⟨w.heap.size, 0, none⟩ = some (.slice (some ⟨gR, 0, none⟩) (q + 1) capR)) ∧
   ∃ V, V = w7.setCell ⟨gR, q * 2 + 1, none⟩ (.slice (some ⟨g', 0, none⟩) (XL + BL) cap') ∧ Hid (WSt F w V w.heap.size (.slice (some ⟨gR, 0, none⟩) (q + 1) capR) (wlay R r) n)) := fun g' cap' w7 o7 k3 k5 => by
  have hlen : (x ++ B).length = XL + BL := by rw [List.length_append, hXL, hBL]
  rw [← hlen] at o7
  obtain ⟨q0, F', q1, q2, q3, q4⟩ := fin w7 g' cap' (x ++ B) o7 k3 k5
  rw [hlen] at q1 q3 q4
  have hbl := lt_of_block S6.out.box
  have hal := lt_of_block S6.out.ans
  have hT7 := (q4 _ hbl o3).trans S6.out.box
  have hZ7 := (q4 _ hal o4).trans S6.out.ans
  have g1 : w.heap.size ∉ F' := fun hm => (q2 _ hm).elim o3 (fun h => by omega)
  have g2 : w.heap.size + 1 ∉ F' := fun hm => (q2 _ hm).elim o4 (fun h => by omega)
  have h60 : w7.cell? ⟨w.heap.size, 0, none⟩ = some (.slice (some ⟨gR, 0, none⟩) (q + 1) capR) := by
   have : w7.heap[w.heap.size]? = _ := (Below.heap_setCell w7 ⟨gR, q * 2 + 1, none⟩ (.slice (some ⟨g', 0, none⟩) (XL + BL) cap') w.heap.size hgs).symm.trans hT7
   exact (cells3 this).1.1
  have hsz7 := (q3 0 (fun _ _ => Nat.zero_le _) (Nat.zero_le _)).size
  have hs6w := S6.out.sz
  refine ⟨⟨q0.1, q0.2, h60⟩, _, rfl, hT7, hZ7, ⟨F', by rw [hlay.out]; exact q1, fun b hb' => (q2 b hb').elim (o2 b) (fun h => by omega), g1, g2⟩, S6.out.kp.step o2 ⟨q4, q3⟩ S6.out.sz, Nat.le_refl _, by omega⟩
 have hbp : 0 < B.length := by omega
 have hbl : x.length + B.length ≤ 140737488355328 := by omega
 have hqq : (q : Int) < (q : Int) + 1 := by omega
 have hwq : IntKind.i64.wrap (q : Int) = (q : Int) := by rw [IntKind.wrap_i64]; omega
 have S : Hid (w6.drew.cell? ⟨w.heap.size, 0, none⟩ = some (.slice (some ⟨gR, 0, none⟩) (q + 1) capR) ∧ w6.drew.cell? ⟨gR, q * 2 + 1, none⟩ = some (.slice da XL dc)) := ⟨T0, e1⟩
 replace hXL := hide hXL
 replace hBL := hide hBL
 replace hfl := hide hfl
 replace od := hide od
 clear o1 o2 o3 o4 fin ob bb6 bd S6 HS T0 T1 T2 e0 e1 ef
 go_wp2_with fail
 refine wp_region_mid (fun w9 => w9.cell? ⟨w.heap.size, 0, none⟩ = some (.slice (some ⟨gR, 0, none⟩) (q + 1) capR) ∧ w9.cell? ⟨gR, q * 2 + 1, none⟩ = some (.slice da XL dc)) 10 11 mixed (by kernel_rfl) (fun _ _ _ _ h => h) S.out ?_
 dsimp only [List.take, List.drop]
 iterate 10
  refine take_one (v := ?_) (by rfl) ?_ ?_
  rotate_left
  ·rintro w9 ⟨s1, s2⟩
   go_simp
   try with_reducible rfl
  try simp only [Act.put, List.setIfInBounds_toArray, List.set_cons_zero, List.set_cons_succ]
 refine mid_one fun K hK => ?_
 rw [if_pos (by rfl)]
 refine wp_append_octs_lies _ _ rfl (.slice da XL dc) (.slice ba BL bc) x B (by rfl) (by rfl) od.out obr.out hbp hbl ?_
 intro g' cap' w7 o7 k3 k5
 rw [← hXL.out, ← hBL.out] at o7 ⊢
 obtain ⟨⟨y5, y6, y9⟩, V, hV, SV⟩ := FIN.out g' cap' w7 o7 k3 k5
 refine hK _ _ ⟨y9, y5⟩ ?_
 clear hK K o7 k3 k5 FIN
 try simp only [Act.put, List.setIfInBounds_toArray, List.set_cons_zero, List.set_cons_succ]
 show wpList _ _ _ _ _ _
 go_upto_region 7 with fail
 rw [← hV]
 replace hV := hide hV
 clear y5 y6 y9 S
 obtain ⟨⟨T0, T1, T2⟩, tf⟩ := cells3 SV.out.box
 have t1 := tf 1
 have B2 := hide (set3_1 SV.out.box (.int .i64 (n + 1)))
 obtain ⟨V2, hV2⟩ : ∃ V2, V2 = V.setCell ⟨w.heap.size, 1, none⟩ (.int .i64 (n + 1)) := ⟨_, rfl⟩
 rw [← hV2] at B2
 have Z2 : Hid (V2.heap[w.heap.size + 1]? = some (.cells #[.slice none 0 0, .int .i64 0, .slice none 0 0] 78 (0, 0))) := by
  show _ = _
  rw [hV2, Below.heap_setCell _ _ _ _ (show w.heap.size + 1 ≠ w.heap.size by omega)]; exact SV.out.ans
 obtain ⟨⟨t20, t21, t22⟩, _⟩ := cells3 B2.out
 obtain ⟨⟨z0, z1, z2⟩, zf⟩ := cells3 Z2.out
 have y0 := zf 0
 have y1 := zf 1
 have y2 := zf 2
 have FN : Hid (∃ F', OwnF (SLg TSP) F' (((V2.setCell ⟨w.heap.size + 1, 0, none⟩ (.slice (some ⟨gR, 0, none⟩) (q + 1) capR)).setCell ⟨w.heap.size + 1, 1, none⟩ (.int .i64 (n + 1))).setCell ⟨w.heap.size + 1, 2, none⟩ (.slice none 0 0)) [.slice (some ⟨gR, 0, none⟩) (q + 1) capR, .int .i64 (n + 1), .slice none 0 0] (wlay R r, n + 1, []) ∧ (∀ b, b ∈ F' → b ∈ F ∨ w.heap.size ≤ b) ∧ KpF2 F w (((V2.setCell ⟨w.heap.size + 1, 0, none⟩ (.slice (some ⟨gR, 0, none⟩) (q + 1) capR)).setCell ⟨w.heap.size + 1, 1, none⟩ (.int .i64 (n + 1))).setCell ⟨w.heap.size + 1, 2, none⟩ (.slice none 0 0))) := by
  obtain ⟨F1, o1, o2, o3, o4⟩ := SV.out.own
  have k2 : KpF2 F w V2 := by rw [hV2]; exact SV.out.kp.set (a := ⟨w.heap.size, 1, none⟩) (Nat.le_refl _) _
  have p2 : OwnF (SLg TSP) F1 V2 [.slice (some ⟨gR, 0, none⟩) (q + 1) capR, .int .i64 (n + 1), .slice none 0 0] (wlay R r, n + 1, []) := by rw [hV2]; exact (o1.num (n + 1)).set (a := ⟨w.heap.size, 1, none⟩) o3 _
  exact ⟨F1, ((p2.set (a := ⟨w.heap.size + 1, 0, none⟩) o4 _).set (a := ⟨w.heap.size + 1, 1, none⟩) o4 _).set (a := ⟨w.heap.size + 1, 2, none⟩) o4 _, o2, ((k2.set (a := ⟨w.heap.size + 1, 0, none⟩) (show w.heap.size ≤ w.heap.size + 1 by omega) _).set (a := ⟨w.heap.size + 1, 1, none⟩) (show w.heap.size ≤ w.heap.size + 1 by omega) _).set (a := ⟨w.heap.size + 1, 2, none⟩) (show w.heap.size ≤ w.heap.size + 1 by omega) _⟩
 clear zf tf
 rw [hV2] at t20 t21 t22 z0 z1 z2 y0 y1 y2
 go_wp2
 rw [← hV2]
 refine retN rfl rfl (w.heap.size + 1) rfl _ _ (0, 0) (heap_set3 (u := V2) Z2.out _ _ _) _ Try.underlying78 rfl info_lgP ?_
 obtain ⟨F', p1, p2, p3⟩ := FN.out
 rw [← hRm.out.1]
 exact ⟨_, F', rfl, p1, p2, p3⟩
end Go.Proofs.Ytjjicajodjophaa

namespace Go.Proofs.Ytjjicajodjophaa
open Go.RowKit
theorem ownF_lg {T : Nat} {F : List Nat} {w : World} {sv : Value} {segs : List Wrt} (n : Int) (h : OwnF (Shp.list T SWr) F w [sv] segs) : OwnF (SLg T) F w [sv, .int .i64 n, .slice none 0 0] (segs, n, []) := by
 have := OwnF.join (c := [sv]) (d := [.int .i64 n, .slice none 0 0]) h (OwnF.join (c := [.int .i64 n]) (d := [.slice none 0 0]) (s := Shp.int .i64) (t := SSec) (F1 := []) (F2 := []) (x := n) (y := []) ⟨⟨rfl, rfl⟩, List.nodup_nil⟩ ⟨⟨_, [], [], rfl, World.ownsRow_nil _ _ _ _, ⟨rfl, rfl⟩, by simp [Value.ownBlock]⟩, List.nodup_nil⟩ (fun b hb => by cases hb)) (fun b _ hb => by cases hb)
 simpa using this
theorem lgF_of {T B : Nat} {F : List Nat} {w : World} {sv : Value} {segs : List Wrt} {n : Int} (h : OwnF (SLg T) F w [sv, .int .i64 n, .slice none 0 0] (segs, n, [])) (hB : ∀ b, b ∈ F → B ≤ b) : LgF T B w sv (.slice none 0 0) (segs, n, []) := by
 obtain ⟨F1, F2, rfl, h1, h2, _⟩ := OwnF.split (c := [sv]) (d := [.int .i64 n, .slice none 0 0]) h rfl
 exact ⟨h1.own fun b hb => hB b (by simp [hb]), OwnV.nil _ _ _⟩
theorem pfs_bd {limit : Int} {l : Wlg} (h0 : 0 ≤ l.2.1) (h1 : l.1.length ≤ 4096) (h2 : l.2.1 ≤ 1099511627776) (h3 : ∀ s ∈ l.1, s.2.length ≤ 16777216) (h4 : wwaitOk l.2.2) : ∀ k, k ≤ l.2.2.length → (0 ≤ (pfs limit l k).2 ∧ (pfs limit l k).2 ≤ 1099511627776 + (k : Int)) ∧ (pfs limit l k).1.length ≤ 4096 + k ∧ ∀ s ∈ (pfs limit l k).1, s.2.length ≤ 16777216 + 4104 * k
 | 0, _ => ⟨⟨h0, by show l.2.1 ≤ 1099511627776 + ((0 : Nat) : Int); omega⟩, h1, fun s hs => by have := h3 s hs; omega⟩
 | k + 1, hk => by
  obtain ⟨r, hr⟩ : ∃ r, l.2.2[k]? = some r := ⟨l.2.2[k], List.getElem?_eq_getElem (by omega)⟩
  have hrl := h4 r (List.mem_of_getElem? hr)
  obtain ⟨⟨i1, i2⟩, i3, i4⟩ := pfs_bd (limit := limit) h0 h1 h2 h3 h4 k (by omega)
  rw [pfs_next hr]
  obtain ⟨st, hst⟩ : ∃ st, st = pfs limit l k := ⟨_, rfl⟩
  rw [← hst] at i1 i2 i3 i4 ⊢
  have hg := wroom_ge limit st.1 st.2
  refine ⟨⟨by show 0 ≤ st.2 + 1; omega, by show st.2 + 1 ≤ _; push_cast; omega⟩, by show (wlay _ _).length ≤ _; rw [wlay_len]; omega, fun s hs => ?_⟩
  have hroom : ∀ s ∈ wroom limit st.1 st.2, s.2.length ≤ 16777216 + 4104 * k := fun s hs => by
   unfold wroom at hs
   split at hs
   ·rcases List.mem_append.1 hs with hs | hs
    ·exact i4 s hs
    ·simp only [List.mem_singleton] at hs; subst hs; simp
   ·exact i4 s hs
  have hs' : s ∈ wlay (wroom limit st.1 st.2) r := hs
  unfold wlay at hs'
  rcases List.mem_or_eq_of_mem_set hs' with hs | hs
  ·have := hroom s hs; omega
  ·subst hs
   show (_ ++ fseal 1 r).length ≤ _
   rw [List.length_append, fseal_len]
   have : (wlast (wroom limit st.1 st.2)).2.length ≤ 16777216 + 4104 * k := by
    unfold wlast
    rw [List.getD_eq_getElem?_getD]
    cases hq : (wroom limit st.1 st.2)[(wroom limit st.1 st.2).length - 1]? with
    | none => simp
    | some y => exact hroom y (List.mem_of_getElem? hq)
   omega
set_option maxRecDepth 100000 in
set_option maxHeartbeats 8000000 in
theorem pwflush_any (w : World) (sv wv : Value) (l : Wlg) (limit : Int) (h1 : RdC w sv l.1) (h2 : RdSec w wv l.2.2) (hm : ∀ s ∈ l.1, s.2.length ≤ 16777216) :
  Calls Try.prog 30 #[.agg #[sv, .int .i64 l.2.1, wv], .int .i64 limit] w fun e w' => ∃ sv' wv', e = .returned (.tuple #[.agg #[sv', .int .i64 (wflush l limit).1.2.1, wv'], .int .i64 (wflush l limit).2]) ∧ LgF TSP w.heap.size w' sv' wv' (wflush l limit).1 ∧ Below w.heap.size w w' := by
 obtain ⟨a1, c1, rfl⟩ := h1.slice
 obtain ⟨a2, c2, rfl⟩ := h2.slice
 obtain ⟨W, hW, hA, hZ, bW, sW⟩ := boxes3 w (.slice a1 l.1.length c1) (.int .i64 l.2.1) (.slice a2 l.2.2.length c2) 78
 have KC := hide (pwcheck_any W _ _ l (h1.to0 bW) (h2.to0 bW) hm)
 obtain ⟨⟨A0, A1, A2⟩, _⟩ := cells3 hA
 rw [hW] at A0 A1 A2
 go_enter Try.func30, Try.ntmps30
 by_cases hok : WOk l
 ·rw [wcheck_ok hok] at KC
  go_wp2_with fail
  rw [← hW]
  replace hW := hide hW
  refine KC.out.mono ?_
  rintro e w1 ⟨rfl, b1⟩
  clear KC A0 A1 A2
  have c1w := hide (bW.trans (b1.mono bW.size))
  have A' := hide ((b1.block _ (lt_of_block hA)).trans hA)
  have Z' := hide ((b1.block _ (lt_of_block hZ)).trans hZ)
  have H1 := hide (h1.to0 c1w.out)
  have H2 := hide (h2.to0 c1w.out)
  have s1 : w.heap.size + 1 + 1 ≤ w1.heap.size := by have := b1.size; omega
  have HOK := hide hok
  have hfit := hide (hok.fit hm)
  have hwl : l.2.2.length ≤ 4096 := hok.1.2.2
  have hsl : l.1.length ≤ 4096 := hok.1.1
  have PB := hide (fun k hk => pfs_bd (limit := limit) (l := l) hok.1.2.1.1 hok.1.1 hok.1.2.1.2 hm hok.2.1 k hk)
  clear hA hZ bW b1 h1 h2 hok sW
  by_cases hlim : limit < 1 ∨ 1048576 < limit
  ·have hE := hide (wflush_4 HOK.out hlim)
   have Z1 := Z'.out
   obtain ⟨⟨z0, z1, z2⟩, zf⟩ := cells3 Z1
   have y0 := zf 0
   have y1 := zf 1
   have y2 := zf 2
   by_cases hl1 : limit < 1
   ·replace hlim := hide hlim
    go_wp2
    refine retNT rfl rfl (w.heap.size + 1) rfl _ _ (0, 0) (heap_set3 (u := w1) Z1 _ _ _) _ Try.underlying78 rfl info_lgP _ rfl ?_
    rw [hE.out]
    exact ⟨_, _, rfl, LgF.zero _ _ _, below_set3 c1w.out (show w.heap.size ≤ w.heap.size + 1 by omega) _ _ _⟩
   ·have hl2 : 1048576 < limit := by omega
    replace hlim := hide hlim
    go_wp2
    refine retNT rfl rfl (w.heap.size + 1) rfl _ _ (0, 0) (heap_set3 (u := w1) Z1 _ _ _) _ Try.underlying78 rfl info_lgP _ rfl ?_
    rw [hE.out]
    exact ⟨_, _, rfl, LgF.zero _ _ _, below_set3 c1w.out (show w.heap.size ≤ w.heap.size + 1 by omega) _ _ _⟩
  ·have hl1 : ¬ limit < 1 := by omega
   have hl2 : ¬ 1048576 < limit := by omega
   have hyes := hide (fun h => wflush_fit HOK.out hlim h)
   have hno := hide (fun h => wflush_nofit HOK.out hlim h)
   replace hlim := hide hlim
   obtain ⟨⟨A0, A1, A2⟩, _⟩ := cells3 A'.out
   have HS : Hid (∀ w9, Below w1.heap.size w1 w9 → w9.cell? ⟨w.heap.size, 0, none⟩ = some (.slice a1 l.1.length c1) ∧ w9.cell? ⟨w.heap.size, 1, none⟩ = some (.int .i64 l.2.1)) := fun w9 b9 =>
    ⟨(b9.cell (cell_lt A0)).trans A0, (b9.cell (cell_lt A1)).trans A1⟩
   have KS := hide (fun w9 (b9 : Below w1.heap.size w1 w9) => psegs_any w9 _ l.1 (H1.out.to0 b9) (by omega) (fun x hx => hfit.out.2.1 x hx))
   go_upto_region 6 with fail
   clear A0 A1 A2
   go_cut [7] from 23 to 28 (fun pp wx => ∃ (g7 : Nat) (v7 : Value), pp = .pointer (some ⟨g7, 0, none⟩) ∧ w1.heap.size ≤ g7 ∧ Hid (BoxLg (SLg TSP) 78 g7 w1.heap.size wx v7 (.slice none 0 0) (l.1, l.2.1, []) ∧ Below w1.heap.size w1 wx))
   case first =>
    have b0 : Below w1.heap.size w1 w1.drew := (Below.refl _ _).drew
    refine wp_region_fan (fun w9 => w9.cell? ⟨w.heap.size, 0, none⟩ = some (.slice a1 l.1.length c1) ∧ w9.cell? ⟨w.heap.size, 1, none⟩ = some (.int .i64 l.2.1)) 7 mixed (by simp) ?_
    generalize w1.drew = c0 at *
    refine fan_take (i := 0) (v := ?_) rfl (by kernel_rfl) (fun _ _ _ _ h => h) (by kernel_rfl) (HS.out _ b0) ?_ ?_
    rotate_left
    ·rintro w9 ⟨t0, t1⟩
     go_simp
     try with_reducible rfl
    try simp only [Act.put, List.setIfInBounds_toArray, List.set_cons_zero, List.set_cons_succ]
    refine fan_take (i := 1) (v := ?_) rfl (by kernel_rfl) (fun _ _ _ _ h => h) (by kernel_rfl) (HS.out _ b0) ?_ ?_
    rotate_left
    ·rintro w9 ⟨t0, t1⟩
     go_simp
     try with_reducible rfl
    try simp only [Act.put, List.setIfInBounds_toArray, List.set_cons_zero, List.set_cons_succ]
    refine fan_take (i := 3) (v := ?_) rfl (by kernel_rfl) (fun _ _ _ _ h => h) (by kernel_rfl) (HS.out _ b0) ?_ ?_
    rotate_left
    ·rintro w9 ⟨t0, t1⟩
     go_simp
     try with_reducible rfl
    try simp only [Act.put, List.setIfInBounds_toArray, List.set_cons_zero, List.set_cons_succ]
    refine fan_take (i := 4) (v := ?_) rfl (by kernel_rfl) (fun _ _ _ _ h => h) (by kernel_rfl) (HS.out _ b0) ?_ ?_
    rotate_left
    ·rintro w9 ⟨t0, t1⟩
     go_simp
     try with_reducible rfl
    try simp only [Act.put, List.setIfInBounds_toArray, List.set_cons_zero, List.set_cons_succ]
    refine fan_two 2 6 (by kernel_rfl) ?_ ?_
    ·refine fan_step rfl (by kernel_rfl) fun K hK => ?_
     refine wp_call_of 64 _ _ (by rfl) #[.slice a1 l.1.length c1] (by simp [Act.eval]) (Try.call64 _ _) (KS.out _ b0) ?_
     rintro e d1 ⟨v7, rfl, o7, b7⟩
     have b1 := b0.trans (b7.mono b0.size)
     refine ⟨_, rfl, hK _ _ (HS.out _ b1) ?_⟩
     clear hK K
     try simp only [Act.put, List.setIfInBounds_toArray, List.set_cons_zero, List.set_cons_succ]
     obtain ⟨va, vc, hv⟩ := o7.rdS.slice
     subst hv
     refine fan_take (i := 5) (v := ?_) rfl (by kernel_rfl) (fun _ _ _ _ h => h) (by kernel_rfl) (HS.out _ b1) ?_ ?_
     rotate_left
     ·rintro w9 ⟨t0, t1⟩
      go_simp
      try with_reducible rfl
     try simp only [Act.put, List.setIfInBounds_toArray, List.set_cons_zero, List.set_cons_succ]
     refine fan_one 6 (by kernel_rfl) ?_
     refine fan_step rfl (by kernel_rfl) fun K hK => ?_
     go_simp
     obtain ⟨d2, hc, h9, bc, sc⟩ := boxedN d1 #[.slice none 0 0, .int .i64 0, .slice none 0 0] 78
     rw [← hc]
     have b2 := b1.trans (bc.mono b1.size)
     obtain ⟨g9, hg9⟩ : ∃ g, g = d1.heap.size := ⟨_, rfl⟩
     rw [← hg9] at h9
     rw [← hg9]
     have l9 : w1.heap.size ≤ g9 := by have := b1.size; omega
     have HO : Hid (∃ F, OwnF (Shp.list TSP SWr) F d2 [.slice va l.1.length vc] l.1 ∧ (∀ b, b ∈ F → w1.heap.size ≤ b) ∧ g9 ∉ F) := by
      obtain ⟨F, f1, f2⟩ := o7.foot
      exact ⟨F, f1.to bc, fun b hb => by have := f2 b hb; have := b0.size; omega, fun hh => by have := f1.lt _ hh; omega⟩
     refine hK _ _ (HS.out _ b2) ?_
     clear hK K hc bc sc hg9 o7 b7
     try simp only [Act.put, List.setIfInBounds_toArray, List.set_cons_zero, List.set_cons_succ]
     refine fan_done (by kernel_rfl) ?_
     show wpList _ _ _ _ _ _
     obtain ⟨⟨y0, y1, y2⟩, yf⟩ := cells3 h9
     have f0 := yf 0
     have f1 := yf 1
     have f2 := yf 2
     have FN : Hid (BoxLg (SLg TSP) 78 g9 w1.heap.size (((d2.setCell ⟨g9, 0, none⟩ (.slice va l.1.length vc)).setCell ⟨g9, 1, none⟩ (.int .i64 l.2.1)).setCell ⟨g9, 2, none⟩ (.slice none 0 0)) (.slice va l.1.length vc) (.slice none 0 0) (l.1, l.2.1, []) ∧ Below w1.heap.size w1 (((d2.setCell ⟨g9, 0, none⟩ (.slice va l.1.length vc)).setCell ⟨g9, 1, none⟩ (.int .i64 l.2.1)).setCell ⟨g9, 2, none⟩ (.slice none 0 0))) := by
      obtain ⟨F, p1, p2, p3⟩ := HO.out
      exact ⟨⟨heap_set3 h9 _ _ _, F, (((ownF_lg l.2.1 p1).set (a := ⟨g9, 0, none⟩) p3 _).set (a := ⟨g9, 1, none⟩) p3 _).set (a := ⟨g9, 2, none⟩) p3 _, p2, p3⟩, below_set3 b2 l9 _ _ _⟩
     clear HO h9 b2 yf b1
     dsimp only [List.drop]
     go_wp2_with fail
     go_meet
     exact ⟨g9, _, rfl, l9, FN⟩
    ·refine fan_step rfl (by kernel_rfl) fun K hK => ?_
     go_simp
     obtain ⟨d1, hc, h9, bc, sc⟩ := boxedN c0 #[.slice none 0 0, .int .i64 0, .slice none 0 0] 78
     rw [← hc]
     have b1 := b0.trans (bc.mono b0.size)
     obtain ⟨g9, hg9⟩ : ∃ g, g = c0.heap.size := ⟨_, rfl⟩
     rw [← hg9] at h9
     rw [← hg9]
     have l9 : w1.heap.size ≤ g9 := by have := b0.size; omega
     have s9 : g9 < d1.heap.size := lt_of_block h9
     refine hK _ _ (HS.out _ b1) ?_
     clear hK K hc bc sc hg9
     try simp only [Act.put, List.setIfInBounds_toArray, List.set_cons_zero, List.set_cons_succ]
     refine fan_one 2 (by kernel_rfl) ?_
     refine fan_step rfl (by kernel_rfl) fun K hK => ?_
     refine wp_call_of 64 _ _ (by rfl) #[.slice a1 l.1.length c1] (by simp [Act.eval]) (Try.call64 _ _) (KS.out _ b1) ?_
     rintro e d2 ⟨v7, rfl, o7, b7⟩
     have b2 := b1.trans (b7.mono b1.size)
     replace h9 := (b7.block _ (lt_of_block h9)).trans h9
     have HO : Hid (∃ F, OwnF (Shp.list TSP SWr) F d2 [v7] l.1 ∧ (∀ b, b ∈ F → w1.heap.size ≤ b) ∧ g9 ∉ F) := by
      obtain ⟨F, f1, f2⟩ := o7.foot
      exact ⟨F, f1, fun b hb => by have := f2 b hb; have := b1.size; omega, fun hh => by have := f2 _ hh; omega⟩
     refine ⟨_, rfl, hK _ _ (HS.out _ b2) ?_⟩
     clear hK K b7
     try simp only [Act.put, List.setIfInBounds_toArray, List.set_cons_zero, List.set_cons_succ]
     obtain ⟨va, vc, hv⟩ := o7.rdS.slice
     subst hv
     refine fan_take (i := 5) (v := ?_) rfl (by kernel_rfl) (fun _ _ _ _ h => h) (by kernel_rfl) (HS.out _ b2) ?_ ?_
     rotate_left
     ·rintro w9 ⟨t0, t1⟩
      go_simp
      try with_reducible rfl
     try simp only [Act.put, List.setIfInBounds_toArray, List.set_cons_zero, List.set_cons_succ]
     refine fan_done (by kernel_rfl) ?_
     show wpList _ _ _ _ _ _
     obtain ⟨⟨y0, y1, y2⟩, yf⟩ := cells3 h9
     have f0 := yf 0
     have f1 := yf 1
     have f2 := yf 2
     have FN : Hid (BoxLg (SLg TSP) 78 g9 w1.heap.size (((d2.setCell ⟨g9, 0, none⟩ (.slice va l.1.length vc)).setCell ⟨g9, 1, none⟩ (.int .i64 l.2.1)).setCell ⟨g9, 2, none⟩ (.slice none 0 0)) (.slice va l.1.length vc) (.slice none 0 0) (l.1, l.2.1, []) ∧ Below w1.heap.size w1 (((d2.setCell ⟨g9, 0, none⟩ (.slice va l.1.length vc)).setCell ⟨g9, 1, none⟩ (.int .i64 l.2.1)).setCell ⟨g9, 2, none⟩ (.slice none 0 0))) := by
      obtain ⟨F, p1, p2, p3⟩ := HO.out
      exact ⟨⟨heap_set3 h9 _ _ _, F, (((ownF_lg l.2.1 p1).set (a := ⟨g9, 0, none⟩) p3 _).set (a := ⟨g9, 1, none⟩) p3 _).set (a := ⟨g9, 2, none⟩) p3 _, p2, p3⟩, below_set3 b2 l9 _ _ _⟩
     clear HO h9 b2 yf b1 o7 s9
     dsimp only [List.drop]
     go_wp2_with fail
     go_meet
     exact ⟨g9, _, rfl, l9, FN⟩
   case rest =>
   obtain ⟨g7, v7, rfl, hl7, HB⟩ := hcut
   obtain ⟨U, hU⟩ : ∃ U, U = wc := ⟨_, rfl⟩
   rw [← hU] at HB ⊢
   replace hU := hide hU
   clear HS KS
   obtain ⟨⟨A0, A1, A2⟩, _⟩ := cells3 ((HB.out.2.block _ (by omega)).trans A'.out)
   go_wp2
   clear A0 A1 A2
   go_loopw [32] (fun i wr => ∃ (k : Nat) (c : Value), k ≤ l.2.2.length ∧ i = .int .i64 k ∧ Hid (BoxLg (SLg TSP) 78 g7 w1.heap.size wr c (.slice none 0 0) ((pfs limit l k).1, (pfs limit l k).2, []) ∧ Below w1.heap.size w1 wr)) (fun i _ => l.2.2.length - (intOf i).toNat)
   case atStart => exact ⟨0, _, Nat.zero_le _, rfl, HB⟩
   case round =>
    obtain ⟨k, c, hk, rfl, hI⟩ := hrel
    clear HB
    obtain ⟨⟨hT, F, hF, hFB, hgF⟩, hb⟩ := hI.out
    have PBk := hide (PB.out k hk)
    dsimp only at hT hF
    by_cases hlt : k < l.2.2.length
    ·have hq : (k : Int) < (l.2.2.length : Int) := by omega
     obtain ⟨r, hr, hrm⟩ := some_at l.2.2 hlt
     have hrl := HOK.out.2.1 r hrm
     have hpn := hide (pfs_next (limit := limit) (l := l) hr)
     obtain ⟨b1, o1, u, e2, hc, hru⟩ := H2.out.oct hr
     have hcr := (hb.cell (cell_lt hc)).trans hc
     have HR : ∀ w', KpF2 F wr w' → Rd w' u r := fun w' kp => hru.to (hb.trans (kp.2 w1.heap.size hFB hb.size))
     obtain ⟨⟨p1, p2⟩, p3, p4⟩ := PBk.out
     obtain ⟨st, hst⟩ : ∃ st, st = pfs limit l k := ⟨_, rfl⟩
     rw [← hst] at hT hF p1 p2 p3 p4 hpn
     have KW := hide (pwritten_any wr c u F st.1 st.2 r limit hF HR hrl (by omega) (fun s hs => by have := p4 s hs; omega) p1 (by omega))
     obtain ⟨⟨T0, T1, T2⟩, _⟩ := cells3 hT
     obtain ⟨ua, uc, hu⟩ := hru.slice
     have GO : Hid (∀ (w' : World) (sv' : Value) (F' : List Nat), OwnF (SLg TSP) F' w' [sv', .int .i64 (st.2 + 1), .slice none 0 0] (wlay (wroom limit st.1 st.2) r, st.2 + 1, []) → (∀ b, b ∈ F' → b ∈ F ∨ wr.heap.size ≤ b) → KpF2 F wr w' →
       w'.heap[g7]? = some (.cells #[c, .int .i64 st.2, .slice none 0 0] 78 (0, 0)) ∧ Hid (BoxLg (SLg TSP) 78 g7 w1.heap.size (((w'.setCell ⟨g7, 0, none⟩ sv').setCell ⟨g7, 1, none⟩ (.int .i64 (st.2 + 1))).setCell ⟨g7, 2, none⟩ (.slice none 0 0)) sv' (.slice none 0 0) ((pfs limit l (k + 1)).1, (pfs limit l (k + 1)).2, []) ∧ Below w1.heap.size w1 (((w'.setCell ⟨g7, 0, none⟩ sv').setCell ⟨g7, 1, none⟩ (.int .i64 (st.2 + 1))).setCell ⟨g7, 2, none⟩ (.slice none 0 0)))) := fun w' sv' F' q1 q2 q3 => by
      have hT' := (q3.1 g7 (lt_of_block hT) hgF).trans hT
      have hlt7 := lt_of_block hT
      have gF' : g7 ∉ F' := fun h => (q2 _ h).elim hgF (fun h => by omega)
      refine ⟨hT', ⟨?_, F', ?_, fun b hb' => (q2 b hb').elim (hFB b) (fun h => by have := hb.size; omega), gF'⟩, ?_⟩
      ·rw [hpn.out]; exact heap_set3 hT' _ _ _
      ·rw [hpn.out]; exact ((q1.set (a := ⟨g7, 0, none⟩) gF' _).set (a := ⟨g7, 1, none⟩) gF' _).set (a := ⟨g7, 2, none⟩) gF' _
      ·exact below_set3 (hb.trans (q3.2 w1.heap.size hFB hb.size)) hl7 _ _ _
     clear hT hF hFB hgF hb hI hr hrm HR hru hc p4 hst
     subst e2
     subst hu
     go_wp2_with fail
     refine KW.out.mono ?_
     rintro e w6 ⟨sv6, F6, rfl, q1, q2, q3⟩
     clear KW T0 T1 T2
     obtain ⟨BX6, FN6⟩ := GO.out w6 sv6 F6 q1 q2 q3
     obtain ⟨va, vc, hv⟩ := (OwnF.waits q1).2.slice
     obtain ⟨NN, hNN⟩ : ∃ NN, NN = (wlay (wroom limit st.1 st.2) r).length := ⟨_, rfl⟩
     rw [← hNN] at hv
     replace hNN := hide hNN
     subst hv
     obtain ⟨⟨T0, T1, T2⟩, tf⟩ := cells3 BX6
     have f0 := tf 0
     have f1 := tf 1
     have f2 := tf 2
     clear q1 q2 q3 GO tf BX6
     go_wp2
     go_roundw
     case rel => exact ⟨k + 1, _, by omega, by go_num, FN6⟩
     case measure => simp [intOf]; omega
    ·have hq : ¬ (k : Int) < (l.2.2.length : Int) := by omega
     obtain rfl : k = l.2.2.length := by omega
     obtain ⟨⟨p1, p2⟩, p3, p4⟩ := PBk.out
     obtain ⟨st, hst⟩ : ∃ st, st = pfs limit l l.2.2.length := ⟨_, rfl⟩
     rw [← hst] at hT hF p1 p2 p3 p4
     obtain ⟨⟨T0, T1, T2⟩, _⟩ := cells3 hT
     have Z2 := hide ((hb.block (w.heap.size + 1) (by omega)).trans Z'.out)
     obtain ⟨⟨z0, z1, z2⟩, zf⟩ := cells3 Z2.out
     have y0 := zf 0
     have y1 := zf 1
     have y2 := zf 2
     have CU := hide (c1w.out.trans (hb.mono c1w.out.size))
     obtain ⟨va, vc, hv⟩ := (OwnF.waits hF).2.slice
     obtain ⟨NN, hNN⟩ : ∃ NN, NN = st.1.length := ⟨_, rfl⟩
     rw [← hNN] at hv p3
     subst hv
     have LG := hide ((lgF_of (B := w1.heap.size) hF hFB).set3 (g := w.heap.size + 1) (by omega) (.slice va NN vc) (.int .i64 st.2) (.slice none 0 0))
     by_cases hfit2 : pfit st
     ·have hE := hide (hyes.out (by rw [← hst]; exact hfit2))
      rw [← hst] at hE
      have n1 : ¬ (1099511627776 : Int) < st.2 := by have := hfit2.1; omega
      have n2 : ¬ (4096 : Int) < (NN : Int) := by have := hfit2.2; omega
      replace hfit2 := hide hfit2
      replace hNN := hide hNN
      clear hT hF hFB hgF hb hI p4 hst zf
      go_wp2
      refine retNT rfl rfl (w.heap.size + 1) rfl _ _ (0, 0) (heap_set3 (u := wr) Z2.out _ _ _) _ Try.underlying78 rfl info_lgP _ rfl ?_
      rw [hE.out]
      exact ⟨_, _, rfl, LG.out.mono (by omega), below_set3 CU.out (show w.heap.size ≤ w.heap.size + 1 by omega) _ _ _⟩
     ·have hE := hide (hno.out (by rw [← hst]; exact hfit2))
      by_cases n1 : (1099511627776 : Int) < st.2
      ·replace hfit2 := hide hfit2
       replace hNN := hide hNN
       clear hT hF hFB hgF hb hI p4 hst zf
       go_wp2
       refine retNT rfl rfl (w.heap.size + 1) rfl _ _ (0, 0) (heap_set3 (u := wr) Z2.out _ _ _) _ Try.underlying78 rfl info_lgP _ rfl ?_
       rw [hE.out]
       exact ⟨_, _, rfl, LgF.zero _ _ _, below_set3 CU.out (show w.heap.size ≤ w.heap.size + 1 by omega) _ _ _⟩
      ·have n2 : (4096 : Int) < (NN : Int) := by
        apply Decidable.byContradiction
        intro h
        exact hfit2 ⟨by omega, by omega⟩
       replace hfit2 := hide hfit2
       replace hNN := hide hNN
       clear hT hF hFB hgF hb hI p4 hst zf
       go_wp2
       refine retNT rfl rfl (w.heap.size + 1) rfl _ _ (0, 0) (heap_set3 (u := wr) Z2.out _ _ _) _ Try.underlying78 rfl info_lgP _ rfl ?_
       rw [hE.out]
       exact ⟨_, _, rfl, LgF.zero _ _ _, below_set3 CU.out (show w.heap.size ≤ w.heap.size + 1 by omega) _ _ _⟩
 ·rw [wcheck_no hok] at KC
  have hE := hide (wflush_9 (limit := limit) hok)
  replace hok := hide hok
  go_wp2_with fail
  rw [← hW]
  replace hW := hide hW
  refine KC.out.mono ?_
  rintro e w1 ⟨rfl, b1⟩
  have Z1 := (b1.block _ (lt_of_block hZ)).trans hZ
  obtain ⟨⟨z0, z1, z2⟩, zf⟩ := cells3 Z1
  have y0 := zf 0
  have y1 := zf 1
  have y2 := zf 2
  have cw := bW.trans (b1.mono bW.size)
  clear KC A0 A1 A2
  go_wp2
  refine retNT rfl rfl (w.heap.size + 1) rfl _ _ (0, 0) (heap_set3 (u := w1) Z1 _ _ _) _ Try.underlying78 rfl info_lgP _ rfl ?_
  rw [hE.out]
  exact ⟨_, _, rfl, LgF.zero _ _ _, below_set3 cw (show w.heap.size ≤ w.heap.size + 1 by omega) _ _ _⟩
end Go.Proofs.Ytjjicajodjophaa

namespace Go.Proofs.Ytjjicajodjophaa
open Go.RowKit
theorem wal_say : WalSay where
 checkS := fun w sv wv l h1 h2 hm => pwcheck_any w sv wv l h1 h2 hm
 appendS := fun w sv wv rv l rs h1 h2 h3 hm hl => pwappend_any w sv wv rv l rs h1 h2 h3 hm hl
 flushS := fun w sv wv l limit h1 h2 hm => pwflush_any w sv wv l limit h1 h2 hm
 recoverS := fun w sv segs h1 hm => pwrecover_any w sv segs h1 hm
end Go.Proofs.Ytjjicajodjophaa
