/- Several texts in one: TLd TBI TBJ TBK TJn TInS TDelS TCl TClD TRb TRc TRd TRo TChA TChg. -/
import Derived.Deep.QuietTactic
import Derived.BigQuiet
import Derived.Laws.Cover1
import Derived.OwnWalkIn
import Derived.Test.YtpiikmkajckccaaGreatGoLVTells4
import Derived.Test.YtpiikmkajckccaaGreatGoLVTells3
import Derived.Test.YtpiikmkajckccaaGreatGoLVTells2
import Derived.Laws.Externs
import Derived.Shelf.RegionOpenPlain
set_option linter.unusedVariables false
set_option linter.unusedSimpArgs false
namespace Go.Proofs.YtpiikmkajckccaaGreat
open Go.RowKit
def NowV (C : Nat) (w : World) (u : Value) (now : List Br) : Prop := (u = .slice none 0 0 ∧ now = []) ∨ (∃ gn, u = .slice (some ⟨gn, 0, none⟩) now.length now.length ∧ 0 < now.length ∧ w.heap[gn]? = some (.cells (bcl now).toArray 162 (0, 0)) ∧ C ≤ gn)
def LdR (B gc g : Nat) (next : Int) (av : Value) (ns : List NV) (n : Nd) (ahead : Str) (w w' : World) (e : Ending) : Prop := ∃ u av' more, e = .returned u ∧ NowV w.heap.size w' u (laidOf next (ns.map (·.1)) n ahead).1 ∧ ChI B w' gc g next av' (ns ++ more) ∧ AllK w' (ns ++ more) ∧ (ns ++ more).map (·.1) = (laidOf next (ns.map (·.1)) n ahead).2 ∧ KCh B gc av av' w w' ∧ ∀ b, av'.ownBlock = some b → b ≠ g
theorem KCh.apart {B gc g : Nat} {next : Int} {av av' : Value} {ns : List NV} {w w' : World} (c : ChI B w gc g next av ns) (hg : ∀ b, av.ownBlock = some b → b ≠ g) (k : KCh B gc av av' w w') : ∀ b, av'.ownBlock = some b → b ≠ g := fun b hb => by
 rcases k.row b hb with h | h
 ·exact hg b h
 ·have : g < w.heap.size := cell_lt c.nxt
  omega
structure L5 (B gc g : Nat) (next : Int) (av : Value) (ns : List NV) (n : Nd) (kv vv dv : Value) (nb : Nat) (w0 w : World) : Prop where
 ch : ChI B w gc g next av ns
 al : AllK w ns
 nd : RdK w kv vv dv n
 box : w.heap[nb]? = some (.cells #[.bool n.leaf, kv, vv, dv] 98 (0, 0))
 kc : KCh B gc av av w0 w
 hB : B ≤ w.heap.size
theorem L5.to {B gc g : Nat} {next : Int} {av : Value} {ns : List NV} {n : Nd} {kv vv dv : Value} {nb : Nat} {w0 w w' : World} (h : L5 B gc g next av ns n kv vv dv nb w0 w) (b : Below w.heap.size w w') : L5 B gc g next av ns n kv vv dv nb w0 w' :=
 ⟨h.ch.to b, h.al.to b, h.nd.to b, (b.block _ (lt_of_block h.box)).trans h.box, h.kc.trans (KCh.of b h.hB), Nat.le_trans h.hB b.size⟩
theorem L5.cells {B gc g : Nat} {next : Int} {av : Value} {ns : List NV} {n : Nd} {kv vv dv : Value} {nb : Nat} {w0 w : World} (h : L5 B gc g next av ns n kv vv dv nb w0 w) : w.cell? ⟨nb, 0, none⟩ = some (.bool n.leaf) ∧ w.cell? ⟨nb, 1, none⟩ = some kv ∧ w.cell? ⟨nb, 2, none⟩ = some vv ∧ w.cell? ⟨nb, 3, none⟩ = some dv := (cells4 h.box).1
theorem keep_set4 {w : World} {g b : Nat} {o : Option Obj} (h : w.heap[b]? = o) (hne : b ≠ g) (x y z v : Value) : (S4 g w x y z v).heap[b]? = o := (s4_other x y z v hne).trans h
set_option maxRecDepth 100000 in
set_option maxHeartbeats 8000000 in
theorem plaid_none (B : Nat) (w : World) (gc g : Nat) (next : Int) (av : Value) (ns : List NV) (n : Nd) (kv vv dv : Value) (ahead : Str) (h : ChI B w gc g next av ns) (hA : AllK w ns) (hB : B ≤ w.heap.size) (hg : ∀ b, av.ownBlock = some b → b ≠ g) (hgc : gc ≠ g) (hns : ns.length ≤ 900) (hnx : 0 ≤ next ∧ next ≤ 65536) (hr : RdK w kv vv dv n) (hk0 : n.keys.length = 0) : Calls Tryz.prog 83 #[.pointer (some ⟨gc, 0, none⟩), nv n kv vv dv, st ahead] w fun e w' => LdR B gc g next av ns n ahead w w' e := by
 obtain ⟨ka, kc, va, vc, da, dc, rfl, rfl, rfl⟩ := hr.rd.slices
 obtain ⟨W, hW, DW, bW, sW⟩ := boxedN w #[.bool n.leaf, .slice ka n.keys.length kc, .slice va n.vals.length vc, .slice da n.kids.length dc] 98
 obtain ⟨⟨E0, E1, E2, E3⟩, EF⟩ := cells4 DW
 have HL := hide (L5.mk (n := n) (w0 := w) (h.to bW) (hA.to bW) (hr.to bW) DW (KCh.of (gc := gc) (av := av) bW hB) (Nat.le_trans hB bW.size))
 have hq0 : ((n.keys.length : Int) == 0) = true := by simp [hk0]
 have hla : Hid (laidOf next (ns.map (·.1)) n ahead = ([], ns.map (·.1))) := by show _ = _; unfold laidOf; rw [if_pos hk0]
 replace hg := hide hg
 replace hk0 := hide hk0
 rw [hW] at E0 E1 E2 E3 EF HL
 dsimp only [nv]
 clear DW bW h hr hB hA
 go_enter Tryz.func83, Tryz.ntmps83
 go_wp2
 go_ret
 refine ⟨_, av, [], rfl, .inl ⟨rfl, by rw [hla.out]⟩, by rw [List.append_nil]; exact HL.out.ch, by rw [List.append_nil]; exact HL.out.al, by rw [List.append_nil, hla.out], HL.out.kc, hg.out⟩
set_option maxRecDepth 100000 in
set_option maxHeartbeats 8000000 in
theorem plaid_one (B : Nat) (w : World) (gc g : Nat) (next : Int) (av : Value) (ns : List NV) (n : Nd) (kv vv dv : Value) (ahead : Str) (h : ChI B w gc g next av ns) (hA : AllK w ns) (hB : B ≤ w.heap.size) (hg : ∀ b, av.ownBlock = some b → b ≠ g) (hgc : gc ≠ g) (hns : ns.length ≤ 900) (hnx : 0 ≤ next ∧ next ≤ 65536) (hr : RdK w kv vv dv n) (hk0 : n.keys.length ≠ 0) (hsz : nsize n ≤ 244) (hsz0 : 0 ≤ nsize n) : Calls Tryz.prog 83 #[.pointer (some ⟨gc, 0, none⟩), nv n kv vv dv, st ahead] w fun e w' => LdR B gc g next av ns n ahead w w' e := by
 obtain ⟨ka, kc, va, vc, da, dc, rfl, rfl, rfl⟩ := hr.rd.slices
 obtain ⟨W, hW, DW, bW, sW⟩ := boxedN w #[.bool n.leaf, .slice ka n.keys.length kc, .slice va n.vals.length vc, .slice da n.kids.length dc] 98
 obtain ⟨⟨E0, E1, E2, E3⟩, EF⟩ := cells4 DW
 have HL := hide (L5.mk (n := n) (w0 := w) (h.to bW) (hA.to bW) (hr.to bW) DW (KCh.of (gc := gc) (av := av) bW hB) (Nat.le_trans hB bW.size))
 have KS := hide (psize9_any W _ _ _ n HL.out.nd.rd)
 have hq0 : ((n.keys.length : Int) == 0) = false := by simpa using hk0
 have hla : Hid (laidOf next (ns.map (·.1)) n ahead = ([(ahead, next + (ns.length : Int))], ns.map (·.1) ++ [n])) := by show _ = _; unfold laidOf; rw [if_neg hk0, if_pos hsz, List.length_map]
 replace hsz := hide hsz
 replace hsz0 := hide hsz0
 have hg' := hide hg
 have h' := hide h
 replace hgc := hide hgc
 replace hk0 := hide hk0
 rw [hW] at E0 E1 E2 E3 EF KS
 dsimp only [nv] at KS ⊢
 clear DW bW h hr hB hA hg
 go_enter Tryz.func83, Tryz.ntmps83
 go_wp2_with fail
 refine KS.out.mono ?_
 rintro e w1 ⟨rfl, b1⟩
 rw [← hW] at b1
 clear E0 E1 E2 E3 EF KS
 replace hW := hide hW
 have hws : wrap64 (nsize n) = nsize n := by have := hsz.out; have := hsz0.out; unfold wrap64; omega
 rw [hws]
 have hle : nsize n ≤ 244 := hsz.out
 have L1 := hide (HL.out.to b1)
 obtain ⟨E0, E1, E2, E3⟩ := L1.out.cells
 have KA := hide (padd_any B w1 gc g next av ns n (.slice ka n.keys.length kc) (.slice va n.vals.length vc) (.slice da n.kids.length dc) L1.out.ch L1.out.hB hg'.out hgc.out (by omega) hnx ⟨rfl, rfl, rfl⟩)
 dsimp only [nv] at KA
 clear b1 HL hws
 generalize nsize n = sz at *
 go_wp2_with fail
 refine KA.out.mono ?_
 rintro e w2 ⟨av2, rfl, c2, k2⟩
 have kt := fun e (h1 : e ≠ 128) (h2 : e ≠ 98) => k2.keepT L1.out.ch h1 h2
 have A2 : AllK w2 (ns ++ [(n, .slice ka n.keys.length kc, .slice va n.vals.length vc, .slice da n.kids.length dc)]) := (L1.out.al.keepT (kt _ (by decide) (by decide)) (kt _ (by decide) (by decide))).snoc (L1.out.nd.keepT (kt _ (by decide) (by decide)) (kt _ (by decide) (by decide)))
 obtain ⟨kid, hkid⟩ : ∃ k : Int, k = next + (ns.length : Int) := ⟨_, rfl⟩
 rw [← hkid]
 obtain ⟨Y, hY, DY, bY, sY⟩ := boxedN w2 #[st ahead, .int .i64 kid] 162
 have hB2 : B ≤ w2.heap.size := Nat.le_trans L1.out.hB k2.size
 have FIN : Hid (NowV w.heap.size Y (.slice (some ⟨w2.heap.size, 0, none⟩) 1 1) [(ahead, kid)] ∧ ChI B Y gc g next av2 (ns ++ [(n, .slice ka n.keys.length kc, .slice va n.vals.length vc, .slice da n.kids.length dc)]) ∧ AllK Y (ns ++ [(n, .slice ka n.keys.length kc, .slice va n.vals.length vc, .slice da n.kids.length dc)]) ∧ KCh B gc av av2 w Y) :=
  ⟨.inr ⟨w2.heap.size, rfl, by simp, DY, Nat.le_trans L1.out.kc.size k2.size⟩, c2.to bY, A2.to bY, (L1.out.kc.trans k2).trans (KCh.of bY hB2)⟩
 rw [hY] at FIN
 replace hkid := hide hkid
 clear c2 k2 KA E0 E1 E2 E3 DY bY hY kt A2
 go_wp2
 go_ret
 refine ⟨_, av2, [(n, .slice ka n.keys.length kc, .slice va n.vals.length vc, .slice da n.kids.length dc)], rfl, ?_, FIN.out.2.1, FIN.out.2.2.1, by rw [hla.out, List.map_append]; rfl, FIN.out.2.2.2, KCh.apart h'.out hg'.out FIN.out.2.2.2⟩
 rw [hla.out, ← hkid.out]
 exact FIN.out.1
structure T5 (B gc g : Nat) (next : Int) (av : Value) (ns : List NV) (w0 w : World) (g7 g9 : Nat) (a b : Nd) (k1 v1 d1 k2 v2 d2 : Value) : Prop where
 ch : ChI B w gc g next av ns
 al : AllK w ns
 kc : KCh B gc av av w0 w
 hB : B ≤ w.heap.size
 b7 : w.heap[g7]? = some (.cells #[.bool a.leaf, k1, v1, d1] 98 (0, 0))
 b9 : w.heap[g9]? = some (.cells #[.bool b.leaf, k2, v2, d2] 98 (0, 0))
 ra : RdK w k1 v1 d1 a
 rb : RdK w k2 v2 d2 b
 l7 : w0.heap.size ≤ g7
 l9 : w0.heap.size ≤ g9
theorem T5.to {B gc g : Nat} {next : Int} {av : Value} {ns : List NV} {w0 w w' : World} {g7 g9 : Nat} {a b : Nd} {k1 v1 d1 k2 v2 d2 : Value} (h : T5 B gc g next av ns w0 w g7 g9 a b k1 v1 d1 k2 v2 d2) (q : Below w.heap.size w w') : T5 B gc g next av ns w0 w' g7 g9 a b k1 v1 d1 k2 v2 d2 :=
 ⟨h.ch.to q, h.al.to q, h.kc.trans (KCh.of q h.hB), Nat.le_trans h.hB q.size, (q.block _ (lt_of_block h.b7)).trans h.b7, (q.block _ (lt_of_block h.b9)).trans h.b9, h.ra.to q, h.rb.to q, h.l7, h.l9⟩
theorem KCh.box {B gc C : Nat} {av av' : Value} {w w' : World} {b : Nat} {o : Obj} (k : KCh B gc av av' w w') (hb : w.heap[b]? = some o) (h1 : gc < C) (h2 : ∀ q, av.ownBlock = some q → q ≠ b) (h3 : C ≤ b) : w'.heap[b]? = some o :=
 (k.keep b (lt_of_block hb) (by omega) (fun e => h2 b e rfl)).trans hb
theorem lay_two {B gc g : Nat} {next : Int} {av : Value} {ns : List NV} {n : Nd} {kv vv dv : Value} {nb : Nat} {w0 w : World} {g7 g9 : Nat} {a b : Nd} {k1 v1 d1 k2 v2 d2 : Value} (h : L5 B gc g next av ns n kv vv dv nb w0 w) (z7 : w.heap[g7]? = some (.cells #[.bool false, .slice none 0 0, .slice none 0 0, .slice none 0 0] 98 (0, 0))) (z9 : w.heap[g9]? = some (.cells #[.bool false, .slice none 0 0, .slice none 0 0, .slice none 0 0] 98 (0, 0)))
  (l7 : w0.heap.size ≤ g7) (l9 : w0.heap.size ≤ g9) (hB0 : B ≤ w0.heap.size) (hne : g7 ≠ g9) (n7 : g7 ≠ nb) (c0 : ChI B w0 gc g next av ns) (ra : RdK w k1 v1 d1 a) (rb : RdK w k2 v2 d2 b) :
  ((S4 g7 w (.bool a.leaf) k1 v1 d1).cell? ⟨nb, 0, none⟩ = some (.bool n.leaf) ∧ (S4 g7 w (.bool a.leaf) k1 v1 d1).cell? ⟨nb, 1, none⟩ = some kv ∧ (S4 g7 w (.bool a.leaf) k1 v1 d1).cell? ⟨nb, 2, none⟩ = some vv ∧ (S4 g7 w (.bool a.leaf) k1 v1 d1).cell? ⟨nb, 3, none⟩ = some dv) ∧
  (S4 g7 w (.bool a.leaf) k1 v1 d1).heap[g9]? = some (.cells #[.bool false, .slice none 0 0, .slice none 0 0, .slice none 0 0] 98 (0, 0)) ∧
  T5 B gc g next av ns w0 (S4 g9 (S4 g7 w (.bool a.leaf) k1 v1 d1) (.bool b.leaf) k2 v2 d2) g7 g9 a b k1 v1 d1 k2 v2 d2 := by
 have z9' := keep_set4 z9 hne.symm (.bool a.leaf) k1 v1 d1
 have h7 : (S4 g7 w (.bool a.leaf) k1 v1 d1).heap[g7]? = some (.cells #[.bool a.leaf, k1, v1, d1] 98 (0, 0)) := heap_set4 z7 _ _ _ _
 have kt : ∀ e, e ≠ 98 → KeepT e w (S4 g9 (S4 g7 w (.bool a.leaf) k1 v1 d1) (.bool b.leaf) k2 v2 d2) := fun e he => (s4_keep z7 _ _ _ _ he).trans (s4_keep z9' _ _ _ _ he)
 have hot : ∀ b', b' ≠ g7 → b' ≠ g9 → (S4 g9 (S4 g7 w (.bool a.leaf) k1 v1 d1) (.bool b.leaf) k2 v2 d2).heap[b']? = w.heap[b']? := fun b' h1 h2 => (s4_other _ _ _ _ h2).trans (s4_other _ _ _ _ h1)
 have hgl : g < w0.heap.size := cell_lt c0.nxt
 have hcl : gc < w0.heap.size := lt_of_block c0.box
 have hra : ∀ b', av.ownBlock = some b' → b' < w0.heap.size := fun b' hb' => (World.ownsRow.lt c0.row b' hb').2
 refine ⟨(cells4 (keep_set4 h.box (Ne.symm n7) (.bool a.leaf) k1 v1 d1)).1, z9', ⟨⟨(hot gc (by omega) (by omega)).trans h.ch.box, ?_, ?_, h.ch.hC⟩, h.al.keepT (kt _ (by decide)) (kt _ (by decide)), ⟨fun b' h1 h2 h3 => (hot b' (by omega) (by omega)).trans (h.kc.keep b' h1 h2 h3), h.kc.row, ?_, ?_⟩, ?_, ?_, ?_, ra.keepT (kt _ (by decide)) (kt _ (by decide)), rb.keepT (kt _ (by decide)) (kt _ (by decide)), l7, l9⟩⟩
 ·refine ⟨h.ch.row.1, ?_⟩
  rcases h.ch.row.2 with hn | ⟨b', cap, cur, hv, hgb, hb, r⟩
  ·exact .inl hn
  ·have : b' < w0.heap.size := hra b' (by rw [hv]; rfl)
   exact .inr ⟨b', cap, cur, hv, hgb, (hot b' (by omega) (by omega)).trans hb, r⟩
 ·have e1 := hot g (by omega) (by omega)
  have := h.ch.nxt
  simp only [World.cell?] at this ⊢
  rw [e1]; exact this
 ·have := h.kc.size
  simpa [S4] using this
 ·exact below_set4n (below_set4n h.kc.bel (by omega) _ _ _ _) (by omega) _ _ _ _
 ·have := h.hB
  simpa [S4] using this
 ·exact keep_set4 h7 hne (.bool b.leaf) k2 v2 d2
 ·exact heap_set4 z9' _ _ _ _
set_option maxRecDepth 100000 in
set_option maxHeartbeats 8000000 in
theorem plaid_two (B : Nat) (w : World) (gc g : Nat) (next : Int) (av : Value) (ns : List NV) (n : Nd) (kv vv dv : Value) (ahead : Str) (h : ChI B w gc g next av ns) (hA : AllK w ns) (hB : B ≤ w.heap.size) (hg : ∀ b, av.ownBlock = some b → b ≠ g) (hgc : gc ≠ g) (hns : ns.length ≤ 900) (hnx : 0 ≤ next ∧ next ≤ 65536) (hr : RdK w kv vv dv n) (hk0 : n.keys.length ≠ 0) (hl : n.keys.length ≤ 1000) (hc : (n.leaf = true ∧ n.vals.length = n.keys.length) ∨ (n.leaf = false ∧ n.kids.length = n.keys.length + 1)) (hbd : NBd n) (hsz : 244 < nsize n) (hmid : midOf n < n.keys.length) : Calls Tryz.prog 83 #[.pointer (some ⟨gc, 0, none⟩), nv n kv vv dv, st ahead] w fun e w' => LdR B gc g next av ns n ahead w w' e := by
 obtain ⟨ka, kc, va, vc, da, dc, rfl, rfl, rfl⟩ := hr.rd.slices
 obtain ⟨W, hW, DW, bW, sW⟩ := boxedN w #[.bool n.leaf, .slice ka n.keys.length kc, .slice va n.vals.length vc, .slice da n.kids.length dc] 98
 obtain ⟨⟨E0, E1, E2, E3⟩, EF⟩ := cells4 DW
 have HL := hide (L5.mk (n := n) (w0 := w) (h.to bW) (hA.to bW) (hr.to bW) DW (KCh.of (gc := gc) (av := av) bW hB) (Nat.le_trans hB bW.size))
 have KS := hide (psize9_any W _ _ _ n HL.out.nd.rd)
 have KM := hide (fun u (hu : RdK u (.slice ka n.keys.length kc) (.slice va n.vals.length vc) (.slice da n.kids.length dc) n) => pmid_any u n _ _ _ hu hl hc hbd)
 have KT := hide (fun u (hu : RdK u (.slice ka n.keys.length kc) (.slice va n.vals.length vc) (.slice da n.kids.length dc) n) => pcut_any u n _ _ _ (midOf n) hu hmid hl hc)
 have hq0 : ((n.keys.length : Int) == 0) = false := by simpa using hk0
 have hla : Hid (laidOf next (ns.map (·.1)) n ahead = ([(ahead, next + (ns.length : Int)), (n.keys.getD (midOf n) [], next + (ns.length : Int) + 1)], ns.map (·.1) ++ [cutL n (midOf n), cutR n (midOf n)])) := by show _ = _; unfold laidOf; rw [if_neg hk0, if_neg (by omega), List.length_map]
 have hg' := hide hg
 have h' := hide h
 have hB' := hide hB
 replace hgc := hide hgc
 replace hk0 := hide hk0
 replace hc := hide hc
 replace hmid := hide hmid
 rw [hW] at E0 E1 E2 E3 EF KS
 dsimp only [nv] at KS KM KT ⊢
 have hws : wrap64 (nsize n) = nsize n := by have := hbd.self; unfold wrap64; omega
 replace hbd := hide hbd
 have hle : ¬ nsize n ≤ 244 := by omega
 rw [hws] at KS
 clear DW bW h hr hB hA hg hws
 go_enter Tryz.func83, Tryz.ntmps83
 go_wp2_with fail
 refine KS.out.mono ?_
 rintro e w1 ⟨rfl, b1⟩
 rw [← hW] at b1
 clear E0 E1 E2 E3 EF KS
 replace hW := hide hW
 have L1 := hide (HL.out.to b1)
 clear b1 HL
 generalize nsize n = sz at *
 go_upto_region 5 with fail
 go_cut [7, 8, 9] from 23 to 30 (fun p7 s8 p9 wx => ∃ (g7 g9 : Nat) (k1 v1 d1 k2 v2 d2 : Value), p7 = .pointer (some ⟨g7, 0, none⟩) ∧ p9 = .pointer (some ⟨g9, 0, none⟩) ∧ s8 = st (n.keys.getD (midOf n) []) ∧ Hid (T5 B gc g next av ns w wx g7 g9 (cutL n (midOf n)) (cutR n (midOf n)) k1 v1 d1 k2 v2 d2))
 case first =>
  have b0 : Below w1.heap.size w1 w1.drew := below_drewN' w1 1 _
  have LL0 := hide (L1.out.to b0)
  refine wp_region_fan (fun w' => w'.cell? ⟨w.heap.size, 0, none⟩ = some (.bool n.leaf) ∧ w'.cell? ⟨w.heap.size, 1, none⟩ = some (.slice ka n.keys.length kc) ∧ w'.cell? ⟨w.heap.size, 2, none⟩ = some (.slice va n.vals.length vc) ∧ w'.cell? ⟨w.heap.size, 3, none⟩ = some (.slice da n.kids.length dc)) 12 mixed (by simp) ?_
  generalize w1.drew = c0 at *
  generalize hmo : midOf n = MO at *
  replace hmo := hide hmo
  clear b0
  refine fan_take (i := 0) (v := ?_) rfl (by kernel_rfl) (fun _ _ _ _ h => h) (by kernel_rfl) LL0.out.cells ?_ ?_
  rotate_left
  ·rintro w' ⟨s1, s2, s3, s4⟩
   go_simp
   try with_reducible rfl
  try simp only [Act.put, List.setIfInBounds_toArray, List.set_cons_zero, List.set_cons_succ]
  refine fan_take (i := 1) (v := ?_) rfl (by kernel_rfl) (fun _ _ _ _ h => h) (by kernel_rfl) LL0.out.cells ?_ ?_
  rotate_left
  ·rintro w' ⟨s1, s2, s3, s4⟩
   go_simp
   try with_reducible rfl
  try simp only [Act.put, List.setIfInBounds_toArray, List.set_cons_zero, List.set_cons_succ]
  refine fan_three 2 8 9 (by kernel_rfl) ?_ ?_ ?_
  ·refine fan_step rfl (by kernel_rfl) fun K' hK' => ?_
   refine wp_call_of 121 _ _ (by rfl) _ (by simp [Act.eval]) (Tryz.call121 _ _) (KM.out c0 LL0.out.nd) ?_
   rintro e d1 ⟨rfl, b1⟩
   have LL1 := hide (LL0.out.to b1)
   refine ⟨_, rfl, hK' _ _ LL1.out.cells ?_⟩
   clear hK' K'
   try simp only [Act.put, List.setIfInBounds_toArray, List.set_cons_zero, List.set_cons_succ]
   refine fan_three 3 8 9 (by kernel_rfl) ?_ ?_ ?_
   ·refine fan_step rfl (by kernel_rfl) fun K' hK' => ?_
    refine wp_call_of 120 _ _ (by rfl) _ (by simp [Act.eval]) (Tryz.call120 _ _) (KT.out d1 LL1.out.nd) ?_
    rintro e d2 ⟨k1, v1, d1, k2, v2, d2, rfl, r1, r2, b2⟩
    have LL2 := hide (LL1.out.to b2)
    have PP2 := hide (And.intro r1 r2)
    refine ⟨_, rfl, hK' _ _ LL2.out.cells ?_⟩
    clear hK' K'
    try simp only [Act.put, List.setIfInBounds_toArray, List.set_cons_zero, List.set_cons_succ]
    obtain ⟨k1a, k1c, v1a, v1c, d1a, d1c, rfl, rfl, rfl⟩ := r1.rd.slices
    obtain ⟨k2a, k2c, v2a, v2c, d2a, d2c, rfl, rfl, rfl⟩ := r2.rd.slices
    dsimp only [nv]
    clear r1 r2
    refine fan_take (i := 4) (v := ?_) rfl (by kernel_rfl) (fun _ _ _ _ h => h) (by kernel_rfl) LL2.out.cells ?_ ?_
    rotate_left
    ·rintro w' ⟨s1, s2, s3, s4⟩
     go_simp
     try with_reducible rfl
    try simp only [Act.put, List.setIfInBounds_toArray, List.set_cons_zero, List.set_cons_succ]
    refine fan_take (i := 5) (v := ?_) rfl (by kernel_rfl) (fun _ _ _ _ h => h) (by kernel_rfl) LL2.out.cells ?_ ?_
    rotate_left
    ·rintro w' ⟨s1, s2, s3, s4⟩
     go_simp
     try with_reducible rfl
    try simp only [Act.put, List.setIfInBounds_toArray, List.set_cons_zero, List.set_cons_succ]
    refine fan_take (i := 6) (v := ?_) rfl (by kernel_rfl) (fun _ _ _ _ h => h) (by kernel_rfl) LL2.out.cells ?_ ?_
    rotate_left
    ·rintro w' ⟨s1, s2, s3, s4⟩
     go_simp
     try with_reducible rfl
    try simp only [Act.put, List.setIfInBounds_toArray, List.set_cons_zero, List.set_cons_succ]
    refine fan_take (i := 7) (v := ?_) rfl (by kernel_rfl) (fun _ _ _ _ h => h) (by kernel_rfl) LL2.out.cells ?_ ?_
    rotate_left
    ·rintro w' ⟨s1, s2, s3, s4⟩
     go_simp
     try with_reducible rfl
    try simp only [Act.put, List.setIfInBounds_toArray, List.set_cons_zero, List.set_cons_succ]
    refine fan_two 8 9 (by kernel_rfl) ?_ ?_
    ·refine fan_step rfl (by kernel_rfl) fun K' hK' => ?_
     go_simp
     obtain ⟨d3, hc3, D3, b3, s3⟩ := boxedN d2 #[.bool false, .slice none 0 0, .slice none 0 0, .slice none 0 0] 98
     rw [← hc3]
     obtain ⟨gg7, hgg7⟩ : ∃ q, q = d2.heap.size := ⟨_, rfl⟩
     rw [← hgg7] at D3
     rw [← hgg7]
     have LL3 := hide (LL2.out.to b3)
     have PP3 := hide (And.intro (PP2.out.1.to b3) (PP2.out.2.to b3))
     have lw7 : w.heap.size < gg7 := by have := lt_of_block LL2.out.box; have := hgg7; omega
     refine hK' _ _ LL3.out.cells ?_
     clear hK' K'
     try simp only [Act.put, List.setIfInBounds_toArray, List.set_cons_zero, List.set_cons_succ]
     replace hgg7 := hide hgg7
     clear hc3 s3
     refine fan_one 9 (by kernel_rfl) ?_
     ·refine fan_step rfl (by kernel_rfl) fun K' hK' => ?_
      go_simp
      obtain ⟨d4, hc4, D4, b4, s4⟩ := boxedN d3 #[.bool false, .slice none 0 0, .slice none 0 0, .slice none 0 0] 98
      rw [← hc4]
      obtain ⟨gg9, hgg9⟩ : ∃ q, q = d3.heap.size := ⟨_, rfl⟩
      rw [← hgg9] at D4
      rw [← hgg9]
      have LL4 := hide (LL3.out.to b4)
      have Z7_4 := (b4.block _ (lt_of_block D3)).trans D3
      have PP4 := hide (And.intro (PP3.out.1.to b4) (PP3.out.2.to b4))
      have lw9 : w.heap.size < gg9 := by have := lt_of_block LL3.out.box; have := hgg9; omega
      have hne : gg7 ≠ gg9 := by have := lt_of_block D3; omega
      refine hK' _ _ LL4.out.cells ?_
      clear hK' K'
      try simp only [Act.put, List.setIfInBounds_toArray, List.set_cons_zero, List.set_cons_succ]
      replace hgg9 := hide hgg9
      clear hc4 s4
      have FN := hide (lay_two LL4.out Z7_4 D4 (Nat.le_of_lt lw7) (Nat.le_of_lt lw9) hB'.out hne (by omega) h'.out PP4.out.1 PP4.out.2)
      have CL := (cells4 LL4.out.box).1
      obtain ⟨⟨y0, y1, y2, y3⟩, yf⟩ := cells4 Z7_4
      refine fan_one 10 (by kernel_rfl) ?_
      refine fan_step rfl (by kernel_rfl) fun K' hK' => ?_
      go_simp
      refine hK' _ _ (FN.out.1) ?_
      clear hK' K'
      refine fan_one 11 (by kernel_rfl) ?_
      refine fan_step rfl (by kernel_rfl) fun K' hK' => ?_
      go_simp
      refine hK' _ _ (FN.out.1) ?_
      clear hK' K'
      refine fan_done (by kernel_rfl) ?_
      show wpList _ _ _ _ _ _
      obtain ⟨⟨x0, x1, x2, x3⟩, xf⟩ := cells4 FN.out.2.1
      dsimp only [List.drop]
      clear y0 y1 y2 y3 yf CL
      go_wp2_with fail
      go_meet
      exact ⟨gg7, gg9, _, _, _, _, _, _, rfl, rfl, rfl, hide FN.out.2.2⟩
    ·refine fan_step rfl (by kernel_rfl) fun K' hK' => ?_
     go_simp
     obtain ⟨d5, hc5, D5, b5, s5⟩ := boxedN d2 #[.bool false, .slice none 0 0, .slice none 0 0, .slice none 0 0] 98
     rw [← hc5]
     obtain ⟨gg9, hgg9⟩ : ∃ q, q = d2.heap.size := ⟨_, rfl⟩
     rw [← hgg9] at D5
     rw [← hgg9]
     have LL5 := hide (LL2.out.to b5)
     have PP5 := hide (And.intro (PP2.out.1.to b5) (PP2.out.2.to b5))
     have lw9 : w.heap.size < gg9 := by have := lt_of_block LL2.out.box; have := hgg9; omega
     refine hK' _ _ LL5.out.cells ?_
     clear hK' K'
     try simp only [Act.put, List.setIfInBounds_toArray, List.set_cons_zero, List.set_cons_succ]
     replace hgg9 := hide hgg9
     clear hc5 s5
     refine fan_one 8 (by kernel_rfl) ?_
     ·refine fan_step rfl (by kernel_rfl) fun K' hK' => ?_
      go_simp
      obtain ⟨d6, hc6, D6, b6, s6⟩ := boxedN d5 #[.bool false, .slice none 0 0, .slice none 0 0, .slice none 0 0] 98
      rw [← hc6]
      obtain ⟨gg7, hgg7⟩ : ∃ q, q = d5.heap.size := ⟨_, rfl⟩
      rw [← hgg7] at D6
      rw [← hgg7]
      have LL6 := hide (LL5.out.to b6)
      have Z9_6 := (b6.block _ (lt_of_block D5)).trans D5
      have PP6 := hide (And.intro (PP5.out.1.to b6) (PP5.out.2.to b6))
      have lw7 : w.heap.size < gg7 := by have := lt_of_block LL5.out.box; have := hgg7; omega
      have hne : gg7 ≠ gg9 := by have := lt_of_block D5; omega
      refine hK' _ _ LL6.out.cells ?_
      clear hK' K'
      try simp only [Act.put, List.setIfInBounds_toArray, List.set_cons_zero, List.set_cons_succ]
      replace hgg7 := hide hgg7
      clear hc6 s6
      have FN := hide (lay_two LL6.out D6 Z9_6 (Nat.le_of_lt lw7) (Nat.le_of_lt lw9) hB'.out hne (by omega) h'.out PP6.out.1 PP6.out.2)
      have CL := (cells4 LL6.out.box).1
      obtain ⟨⟨y0, y1, y2, y3⟩, yf⟩ := cells4 D6
      refine fan_one 10 (by kernel_rfl) ?_
      refine fan_step rfl (by kernel_rfl) fun K' hK' => ?_
      go_simp
      refine hK' _ _ (FN.out.1) ?_
      clear hK' K'
      refine fan_one 11 (by kernel_rfl) ?_
      refine fan_step rfl (by kernel_rfl) fun K' hK' => ?_
      go_simp
      refine hK' _ _ (FN.out.1) ?_
      clear hK' K'
      refine fan_done (by kernel_rfl) ?_
      show wpList _ _ _ _ _ _
      obtain ⟨⟨x0, x1, x2, x3⟩, xf⟩ := cells4 FN.out.2.1
      dsimp only [List.drop]
      clear y0 y1 y2 y3 yf CL
      go_wp2_with fail
      go_meet
      exact ⟨gg7, gg9, _, _, _, _, _, _, rfl, rfl, rfl, hide FN.out.2.2⟩
   ·refine fan_step rfl (by kernel_rfl) fun K' hK' => ?_
    go_simp
    obtain ⟨d7, hc7, D7, b7, s7⟩ := boxedN d1 #[.bool false, .slice none 0 0, .slice none 0 0, .slice none 0 0] 98
    rw [← hc7]
    obtain ⟨gg7, hgg7⟩ : ∃ q, q = d1.heap.size := ⟨_, rfl⟩
    rw [← hgg7] at D7
    rw [← hgg7]
    have LL7 := hide (LL1.out.to b7)
    have lw7 : w.heap.size < gg7 := by have := lt_of_block LL1.out.box; have := hgg7; omega
    refine hK' _ _ LL7.out.cells ?_
    clear hK' K'
    try simp only [Act.put, List.setIfInBounds_toArray, List.set_cons_zero, List.set_cons_succ]
    replace hgg7 := hide hgg7
    clear hc7 s7
    refine fan_two 3 9 (by kernel_rfl) ?_ ?_
    ·refine fan_step rfl (by kernel_rfl) fun K' hK' => ?_
     refine wp_call_of 120 _ _ (by rfl) _ (by simp [Act.eval]) (Tryz.call120 _ _) (KT.out d7 LL7.out.nd) ?_
     rintro e d8 ⟨k1, v1, d1, k2, v2, d2, rfl, r1, r2, b8⟩
     have LL8 := hide (LL7.out.to b8)
     have Z7_8 := (b8.block _ (lt_of_block D7)).trans D7
     have PP8 := hide (And.intro r1 r2)
     refine ⟨_, rfl, hK' _ _ LL8.out.cells ?_⟩
     clear hK' K'
     try simp only [Act.put, List.setIfInBounds_toArray, List.set_cons_zero, List.set_cons_succ]
     obtain ⟨k1a, k1c, v1a, v1c, d1a, d1c, rfl, rfl, rfl⟩ := r1.rd.slices
     obtain ⟨k2a, k2c, v2a, v2c, d2a, d2c, rfl, rfl, rfl⟩ := r2.rd.slices
     dsimp only [nv]
     clear r1 r2
     refine fan_take (i := 4) (v := ?_) rfl (by kernel_rfl) (fun _ _ _ _ h => h) (by kernel_rfl) LL8.out.cells ?_ ?_
     rotate_left
     ·rintro w' ⟨s1, s2, s3, s4⟩
      go_simp
      try with_reducible rfl
     try simp only [Act.put, List.setIfInBounds_toArray, List.set_cons_zero, List.set_cons_succ]
     refine fan_take (i := 5) (v := ?_) rfl (by kernel_rfl) (fun _ _ _ _ h => h) (by kernel_rfl) LL8.out.cells ?_ ?_
     rotate_left
     ·rintro w' ⟨s1, s2, s3, s4⟩
      go_simp
      try with_reducible rfl
     try simp only [Act.put, List.setIfInBounds_toArray, List.set_cons_zero, List.set_cons_succ]
     refine fan_take (i := 6) (v := ?_) rfl (by kernel_rfl) (fun _ _ _ _ h => h) (by kernel_rfl) LL8.out.cells ?_ ?_
     rotate_left
     ·rintro w' ⟨s1, s2, s3, s4⟩
      go_simp
      try with_reducible rfl
     try simp only [Act.put, List.setIfInBounds_toArray, List.set_cons_zero, List.set_cons_succ]
     refine fan_take (i := 7) (v := ?_) rfl (by kernel_rfl) (fun _ _ _ _ h => h) (by kernel_rfl) LL8.out.cells ?_ ?_
     rotate_left
     ·rintro w' ⟨s1, s2, s3, s4⟩
      go_simp
      try with_reducible rfl
     try simp only [Act.put, List.setIfInBounds_toArray, List.set_cons_zero, List.set_cons_succ]
     refine fan_one 9 (by kernel_rfl) ?_
     ·refine fan_step rfl (by kernel_rfl) fun K' hK' => ?_
      go_simp
      obtain ⟨d9, hc9, D9, b9, s9⟩ := boxedN d8 #[.bool false, .slice none 0 0, .slice none 0 0, .slice none 0 0] 98
      rw [← hc9]
      obtain ⟨gg9, hgg9⟩ : ∃ q, q = d8.heap.size := ⟨_, rfl⟩
      rw [← hgg9] at D9
      rw [← hgg9]
      have LL9 := hide (LL8.out.to b9)
      have Z7_9 := (b9.block _ (lt_of_block Z7_8)).trans Z7_8
      have PP9 := hide (And.intro (PP8.out.1.to b9) (PP8.out.2.to b9))
      have lw9 : w.heap.size < gg9 := by have := lt_of_block LL8.out.box; have := hgg9; omega
      have hne : gg7 ≠ gg9 := by have := lt_of_block Z7_8; omega
      refine hK' _ _ LL9.out.cells ?_
      clear hK' K'
      try simp only [Act.put, List.setIfInBounds_toArray, List.set_cons_zero, List.set_cons_succ]
      replace hgg9 := hide hgg9
      clear hc9 s9
      have FN := hide (lay_two LL9.out Z7_9 D9 (Nat.le_of_lt lw7) (Nat.le_of_lt lw9) hB'.out hne (by omega) h'.out PP9.out.1 PP9.out.2)
      have CL := (cells4 LL9.out.box).1
      obtain ⟨⟨y0, y1, y2, y3⟩, yf⟩ := cells4 Z7_9
      refine fan_one 10 (by kernel_rfl) ?_
      refine fan_step rfl (by kernel_rfl) fun K' hK' => ?_
      go_simp
      refine hK' _ _ (FN.out.1) ?_
      clear hK' K'
      refine fan_one 11 (by kernel_rfl) ?_
      refine fan_step rfl (by kernel_rfl) fun K' hK' => ?_
      go_simp
      refine hK' _ _ (FN.out.1) ?_
      clear hK' K'
      refine fan_done (by kernel_rfl) ?_
      show wpList _ _ _ _ _ _
      obtain ⟨⟨x0, x1, x2, x3⟩, xf⟩ := cells4 FN.out.2.1
      dsimp only [List.drop]
      clear y0 y1 y2 y3 yf CL
      go_wp2_with fail
      go_meet
      exact ⟨gg7, gg9, _, _, _, _, _, _, rfl, rfl, rfl, hide FN.out.2.2⟩
    ·refine fan_step rfl (by kernel_rfl) fun K' hK' => ?_
     go_simp
     obtain ⟨d10, hc10, D10, b10, s10⟩ := boxedN d7 #[.bool false, .slice none 0 0, .slice none 0 0, .slice none 0 0] 98
     rw [← hc10]
     obtain ⟨gg9, hgg9⟩ : ∃ q, q = d7.heap.size := ⟨_, rfl⟩
     rw [← hgg9] at D10
     rw [← hgg9]
     have LL10 := hide (LL7.out.to b10)
     have Z7_10 := (b10.block _ (lt_of_block D7)).trans D7
     have lw9 : w.heap.size < gg9 := by have := lt_of_block LL7.out.box; have := hgg9; omega
     have hne : gg7 ≠ gg9 := by have := lt_of_block D7; omega
     refine hK' _ _ LL10.out.cells ?_
     clear hK' K'
     try simp only [Act.put, List.setIfInBounds_toArray, List.set_cons_zero, List.set_cons_succ]
     replace hgg9 := hide hgg9
     clear hc10 s10
     refine fan_one 3 (by kernel_rfl) ?_
     ·refine fan_step rfl (by kernel_rfl) fun K' hK' => ?_
      refine wp_call_of 120 _ _ (by rfl) _ (by simp [Act.eval]) (Tryz.call120 _ _) (KT.out d10 LL10.out.nd) ?_
      rintro e d11 ⟨k1, v1, d1, k2, v2, d2, rfl, r1, r2, b11⟩
      have LL11 := hide (LL10.out.to b11)
      have Z7_11 := (b11.block _ (lt_of_block Z7_10)).trans Z7_10
      have Z9_11 := (b11.block _ (lt_of_block D10)).trans D10
      have PP11 := hide (And.intro r1 r2)
      refine ⟨_, rfl, hK' _ _ LL11.out.cells ?_⟩
      clear hK' K'
      try simp only [Act.put, List.setIfInBounds_toArray, List.set_cons_zero, List.set_cons_succ]
      obtain ⟨k1a, k1c, v1a, v1c, d1a, d1c, rfl, rfl, rfl⟩ := r1.rd.slices
      obtain ⟨k2a, k2c, v2a, v2c, d2a, d2c, rfl, rfl, rfl⟩ := r2.rd.slices
      dsimp only [nv]
      clear r1 r2
      refine fan_take (i := 4) (v := ?_) rfl (by kernel_rfl) (fun _ _ _ _ h => h) (by kernel_rfl) LL11.out.cells ?_ ?_
      rotate_left
      ·rintro w' ⟨s1, s2, s3, s4⟩
       go_simp
       try with_reducible rfl
      try simp only [Act.put, List.setIfInBounds_toArray, List.set_cons_zero, List.set_cons_succ]
      refine fan_take (i := 5) (v := ?_) rfl (by kernel_rfl) (fun _ _ _ _ h => h) (by kernel_rfl) LL11.out.cells ?_ ?_
      rotate_left
      ·rintro w' ⟨s1, s2, s3, s4⟩
       go_simp
       try with_reducible rfl
      try simp only [Act.put, List.setIfInBounds_toArray, List.set_cons_zero, List.set_cons_succ]
      refine fan_take (i := 6) (v := ?_) rfl (by kernel_rfl) (fun _ _ _ _ h => h) (by kernel_rfl) LL11.out.cells ?_ ?_
      rotate_left
      ·rintro w' ⟨s1, s2, s3, s4⟩
       go_simp
       try with_reducible rfl
      try simp only [Act.put, List.setIfInBounds_toArray, List.set_cons_zero, List.set_cons_succ]
      refine fan_take (i := 7) (v := ?_) rfl (by kernel_rfl) (fun _ _ _ _ h => h) (by kernel_rfl) LL11.out.cells ?_ ?_
      rotate_left
      ·rintro w' ⟨s1, s2, s3, s4⟩
       go_simp
       try with_reducible rfl
      try simp only [Act.put, List.setIfInBounds_toArray, List.set_cons_zero, List.set_cons_succ]
      have FN := hide (lay_two LL11.out Z7_11 Z9_11 (Nat.le_of_lt lw7) (Nat.le_of_lt lw9) hB'.out hne (by omega) h'.out PP11.out.1 PP11.out.2)
      have CL := (cells4 LL11.out.box).1
      obtain ⟨⟨y0, y1, y2, y3⟩, yf⟩ := cells4 Z7_11
      refine fan_one 10 (by kernel_rfl) ?_
      refine fan_step rfl (by kernel_rfl) fun K' hK' => ?_
      go_simp
      refine hK' _ _ (FN.out.1) ?_
      clear hK' K'
      refine fan_one 11 (by kernel_rfl) ?_
      refine fan_step rfl (by kernel_rfl) fun K' hK' => ?_
      go_simp
      refine hK' _ _ (FN.out.1) ?_
      clear hK' K'
      refine fan_done (by kernel_rfl) ?_
      show wpList _ _ _ _ _ _
      obtain ⟨⟨x0, x1, x2, x3⟩, xf⟩ := cells4 FN.out.2.1
      dsimp only [List.drop]
      clear y0 y1 y2 y3 yf CL
      go_wp2_with fail
      go_meet
      exact ⟨gg7, gg9, _, _, _, _, _, _, rfl, rfl, rfl, hide FN.out.2.2⟩
   ·refine fan_step rfl (by kernel_rfl) fun K' hK' => ?_
    go_simp
    obtain ⟨d12, hc12, D12, b12, s12⟩ := boxedN d1 #[.bool false, .slice none 0 0, .slice none 0 0, .slice none 0 0] 98
    rw [← hc12]
    obtain ⟨gg9, hgg9⟩ : ∃ q, q = d1.heap.size := ⟨_, rfl⟩
    rw [← hgg9] at D12
    rw [← hgg9]
    have LL12 := hide (LL1.out.to b12)
    have lw9 : w.heap.size < gg9 := by have := lt_of_block LL1.out.box; have := hgg9; omega
    refine hK' _ _ LL12.out.cells ?_
    clear hK' K'
    try simp only [Act.put, List.setIfInBounds_toArray, List.set_cons_zero, List.set_cons_succ]
    replace hgg9 := hide hgg9
    clear hc12 s12
    refine fan_two 3 8 (by kernel_rfl) ?_ ?_
    ·refine fan_step rfl (by kernel_rfl) fun K' hK' => ?_
     refine wp_call_of 120 _ _ (by rfl) _ (by simp [Act.eval]) (Tryz.call120 _ _) (KT.out d12 LL12.out.nd) ?_
     rintro e d13 ⟨k1, v1, d1, k2, v2, d2, rfl, r1, r2, b13⟩
     have LL13 := hide (LL12.out.to b13)
     have Z9_13 := (b13.block _ (lt_of_block D12)).trans D12
     have PP13 := hide (And.intro r1 r2)
     refine ⟨_, rfl, hK' _ _ LL13.out.cells ?_⟩
     clear hK' K'
     try simp only [Act.put, List.setIfInBounds_toArray, List.set_cons_zero, List.set_cons_succ]
     obtain ⟨k1a, k1c, v1a, v1c, d1a, d1c, rfl, rfl, rfl⟩ := r1.rd.slices
     obtain ⟨k2a, k2c, v2a, v2c, d2a, d2c, rfl, rfl, rfl⟩ := r2.rd.slices
     dsimp only [nv]
     clear r1 r2
     refine fan_take (i := 4) (v := ?_) rfl (by kernel_rfl) (fun _ _ _ _ h => h) (by kernel_rfl) LL13.out.cells ?_ ?_
     rotate_left
     ·rintro w' ⟨s1, s2, s3, s4⟩
      go_simp
      try with_reducible rfl
     try simp only [Act.put, List.setIfInBounds_toArray, List.set_cons_zero, List.set_cons_succ]
     refine fan_take (i := 5) (v := ?_) rfl (by kernel_rfl) (fun _ _ _ _ h => h) (by kernel_rfl) LL13.out.cells ?_ ?_
     rotate_left
     ·rintro w' ⟨s1, s2, s3, s4⟩
      go_simp
      try with_reducible rfl
     try simp only [Act.put, List.setIfInBounds_toArray, List.set_cons_zero, List.set_cons_succ]
     refine fan_take (i := 6) (v := ?_) rfl (by kernel_rfl) (fun _ _ _ _ h => h) (by kernel_rfl) LL13.out.cells ?_ ?_
     rotate_left
     ·rintro w' ⟨s1, s2, s3, s4⟩
      go_simp
      try with_reducible rfl
     try simp only [Act.put, List.setIfInBounds_toArray, List.set_cons_zero, List.set_cons_succ]
     refine fan_take (i := 7) (v := ?_) rfl (by kernel_rfl) (fun _ _ _ _ h => h) (by kernel_rfl) LL13.out.cells ?_ ?_
     rotate_left
     ·rintro w' ⟨s1, s2, s3, s4⟩
      go_simp
      try with_reducible rfl
     try simp only [Act.put, List.setIfInBounds_toArray, List.set_cons_zero, List.set_cons_succ]
     refine fan_one 8 (by kernel_rfl) ?_
     ·refine fan_step rfl (by kernel_rfl) fun K' hK' => ?_
      go_simp
      obtain ⟨d14, hc14, D14, b14, s14⟩ := boxedN d13 #[.bool false, .slice none 0 0, .slice none 0 0, .slice none 0 0] 98
      rw [← hc14]
      obtain ⟨gg7, hgg7⟩ : ∃ q, q = d13.heap.size := ⟨_, rfl⟩
      rw [← hgg7] at D14
      rw [← hgg7]
      have LL14 := hide (LL13.out.to b14)
      have Z9_14 := (b14.block _ (lt_of_block Z9_13)).trans Z9_13
      have PP14 := hide (And.intro (PP13.out.1.to b14) (PP13.out.2.to b14))
      have lw7 : w.heap.size < gg7 := by have := lt_of_block LL13.out.box; have := hgg7; omega
      have hne : gg7 ≠ gg9 := by have := lt_of_block Z9_13; omega
      refine hK' _ _ LL14.out.cells ?_
      clear hK' K'
      try simp only [Act.put, List.setIfInBounds_toArray, List.set_cons_zero, List.set_cons_succ]
      replace hgg7 := hide hgg7
      clear hc14 s14
      have FN := hide (lay_two LL14.out D14 Z9_14 (Nat.le_of_lt lw7) (Nat.le_of_lt lw9) hB'.out hne (by omega) h'.out PP14.out.1 PP14.out.2)
      have CL := (cells4 LL14.out.box).1
      obtain ⟨⟨y0, y1, y2, y3⟩, yf⟩ := cells4 D14
      refine fan_one 10 (by kernel_rfl) ?_
      refine fan_step rfl (by kernel_rfl) fun K' hK' => ?_
      go_simp
      refine hK' _ _ (FN.out.1) ?_
      clear hK' K'
      refine fan_one 11 (by kernel_rfl) ?_
      refine fan_step rfl (by kernel_rfl) fun K' hK' => ?_
      go_simp
      refine hK' _ _ (FN.out.1) ?_
      clear hK' K'
      refine fan_done (by kernel_rfl) ?_
      show wpList _ _ _ _ _ _
      obtain ⟨⟨x0, x1, x2, x3⟩, xf⟩ := cells4 FN.out.2.1
      dsimp only [List.drop]
      clear y0 y1 y2 y3 yf CL
      go_wp2_with fail
      go_meet
      exact ⟨gg7, gg9, _, _, _, _, _, _, rfl, rfl, rfl, hide FN.out.2.2⟩
    ·refine fan_step rfl (by kernel_rfl) fun K' hK' => ?_
     go_simp
     obtain ⟨d15, hc15, D15, b15, s15⟩ := boxedN d12 #[.bool false, .slice none 0 0, .slice none 0 0, .slice none 0 0] 98
     rw [← hc15]
     obtain ⟨gg7, hgg7⟩ : ∃ q, q = d12.heap.size := ⟨_, rfl⟩
     rw [← hgg7] at D15
     rw [← hgg7]
     have LL15 := hide (LL12.out.to b15)
     have Z9_15 := (b15.block _ (lt_of_block D12)).trans D12
     have lw7 : w.heap.size < gg7 := by have := lt_of_block LL12.out.box; have := hgg7; omega
     have hne : gg7 ≠ gg9 := by have := lt_of_block D12; omega
     refine hK' _ _ LL15.out.cells ?_
     clear hK' K'
     try simp only [Act.put, List.setIfInBounds_toArray, List.set_cons_zero, List.set_cons_succ]
     replace hgg7 := hide hgg7
     clear hc15 s15
     refine fan_one 3 (by kernel_rfl) ?_
     ·refine fan_step rfl (by kernel_rfl) fun K' hK' => ?_
      refine wp_call_of 120 _ _ (by rfl) _ (by simp [Act.eval]) (Tryz.call120 _ _) (KT.out d15 LL15.out.nd) ?_
      rintro e d16 ⟨k1, v1, d1, k2, v2, d2, rfl, r1, r2, b16⟩
      have LL16 := hide (LL15.out.to b16)
      have Z9_16 := (b16.block _ (lt_of_block Z9_15)).trans Z9_15
      have Z7_16 := (b16.block _ (lt_of_block D15)).trans D15
      have PP16 := hide (And.intro r1 r2)
      refine ⟨_, rfl, hK' _ _ LL16.out.cells ?_⟩
      clear hK' K'
      try simp only [Act.put, List.setIfInBounds_toArray, List.set_cons_zero, List.set_cons_succ]
      obtain ⟨k1a, k1c, v1a, v1c, d1a, d1c, rfl, rfl, rfl⟩ := r1.rd.slices
      obtain ⟨k2a, k2c, v2a, v2c, d2a, d2c, rfl, rfl, rfl⟩ := r2.rd.slices
      dsimp only [nv]
      clear r1 r2
      refine fan_take (i := 4) (v := ?_) rfl (by kernel_rfl) (fun _ _ _ _ h => h) (by kernel_rfl) LL16.out.cells ?_ ?_
      rotate_left
      ·rintro w' ⟨s1, s2, s3, s4⟩
       go_simp
       try with_reducible rfl
      try simp only [Act.put, List.setIfInBounds_toArray, List.set_cons_zero, List.set_cons_succ]
      refine fan_take (i := 5) (v := ?_) rfl (by kernel_rfl) (fun _ _ _ _ h => h) (by kernel_rfl) LL16.out.cells ?_ ?_
      rotate_left
      ·rintro w' ⟨s1, s2, s3, s4⟩
       go_simp
       try with_reducible rfl
      try simp only [Act.put, List.setIfInBounds_toArray, List.set_cons_zero, List.set_cons_succ]
      refine fan_take (i := 6) (v := ?_) rfl (by kernel_rfl) (fun _ _ _ _ h => h) (by kernel_rfl) LL16.out.cells ?_ ?_
      rotate_left
      ·rintro w' ⟨s1, s2, s3, s4⟩
       go_simp
       try with_reducible rfl
      try simp only [Act.put, List.setIfInBounds_toArray, List.set_cons_zero, List.set_cons_succ]
      refine fan_take (i := 7) (v := ?_) rfl (by kernel_rfl) (fun _ _ _ _ h => h) (by kernel_rfl) LL16.out.cells ?_ ?_
      rotate_left
      ·rintro w' ⟨s1, s2, s3, s4⟩
       go_simp
       try with_reducible rfl
      try simp only [Act.put, List.setIfInBounds_toArray, List.set_cons_zero, List.set_cons_succ]
      have FN := hide (lay_two LL16.out Z7_16 Z9_16 (Nat.le_of_lt lw7) (Nat.le_of_lt lw9) hB'.out hne (by omega) h'.out PP16.out.1 PP16.out.2)
      have CL := (cells4 LL16.out.box).1
      obtain ⟨⟨y0, y1, y2, y3⟩, yf⟩ := cells4 Z7_16
      refine fan_one 10 (by kernel_rfl) ?_
      refine fan_step rfl (by kernel_rfl) fun K' hK' => ?_
      go_simp
      refine hK' _ _ (FN.out.1) ?_
      clear hK' K'
      refine fan_one 11 (by kernel_rfl) ?_
      refine fan_step rfl (by kernel_rfl) fun K' hK' => ?_
      go_simp
      refine hK' _ _ (FN.out.1) ?_
      clear hK' K'
      refine fan_done (by kernel_rfl) ?_
      show wpList _ _ _ _ _ _
      obtain ⟨⟨x0, x1, x2, x3⟩, xf⟩ := cells4 FN.out.2.1
      dsimp only [List.drop]
      clear y0 y1 y2 y3 yf CL
      go_wp2_with fail
      go_meet
      exact ⟨gg7, gg9, _, _, _, _, _, _, rfl, rfl, rfl, hide FN.out.2.2⟩
  ·refine fan_step rfl (by kernel_rfl) fun K' hK' => ?_
   go_simp
   obtain ⟨d17, hc17, D17, b17, s17⟩ := boxedN c0 #[.bool false, .slice none 0 0, .slice none 0 0, .slice none 0 0] 98
   rw [← hc17]
   obtain ⟨gg7, hgg7⟩ : ∃ q, q = c0.heap.size := ⟨_, rfl⟩
   rw [← hgg7] at D17
   rw [← hgg7]
   have LL17 := hide (LL0.out.to b17)
   have lw7 : w.heap.size < gg7 := by have := lt_of_block LL0.out.box; have := hgg7; omega
   refine hK' _ _ LL17.out.cells ?_
   clear hK' K'
   try simp only [Act.put, List.setIfInBounds_toArray, List.set_cons_zero, List.set_cons_succ]
   replace hgg7 := hide hgg7
   clear hc17 s17
   refine fan_two 2 9 (by kernel_rfl) ?_ ?_
   ·refine fan_step rfl (by kernel_rfl) fun K' hK' => ?_
    refine wp_call_of 121 _ _ (by rfl) _ (by simp [Act.eval]) (Tryz.call121 _ _) (KM.out d17 LL17.out.nd) ?_
    rintro e d18 ⟨rfl, b18⟩
    have LL18 := hide (LL17.out.to b18)
    have Z7_18 := (b18.block _ (lt_of_block D17)).trans D17
    refine ⟨_, rfl, hK' _ _ LL18.out.cells ?_⟩
    clear hK' K'
    try simp only [Act.put, List.setIfInBounds_toArray, List.set_cons_zero, List.set_cons_succ]
    refine fan_two 3 9 (by kernel_rfl) ?_ ?_
    ·refine fan_step rfl (by kernel_rfl) fun K' hK' => ?_
     refine wp_call_of 120 _ _ (by rfl) _ (by simp [Act.eval]) (Tryz.call120 _ _) (KT.out d18 LL18.out.nd) ?_
     rintro e d19 ⟨k1, v1, d1, k2, v2, d2, rfl, r1, r2, b19⟩
     have LL19 := hide (LL18.out.to b19)
     have Z7_19 := (b19.block _ (lt_of_block Z7_18)).trans Z7_18
     have PP19 := hide (And.intro r1 r2)
     refine ⟨_, rfl, hK' _ _ LL19.out.cells ?_⟩
     clear hK' K'
     try simp only [Act.put, List.setIfInBounds_toArray, List.set_cons_zero, List.set_cons_succ]
     obtain ⟨k1a, k1c, v1a, v1c, d1a, d1c, rfl, rfl, rfl⟩ := r1.rd.slices
     obtain ⟨k2a, k2c, v2a, v2c, d2a, d2c, rfl, rfl, rfl⟩ := r2.rd.slices
     dsimp only [nv]
     clear r1 r2
     refine fan_take (i := 4) (v := ?_) rfl (by kernel_rfl) (fun _ _ _ _ h => h) (by kernel_rfl) LL19.out.cells ?_ ?_
     rotate_left
     ·rintro w' ⟨s1, s2, s3, s4⟩
      go_simp
      try with_reducible rfl
     try simp only [Act.put, List.setIfInBounds_toArray, List.set_cons_zero, List.set_cons_succ]
     refine fan_take (i := 5) (v := ?_) rfl (by kernel_rfl) (fun _ _ _ _ h => h) (by kernel_rfl) LL19.out.cells ?_ ?_
     rotate_left
     ·rintro w' ⟨s1, s2, s3, s4⟩
      go_simp
      try with_reducible rfl
     try simp only [Act.put, List.setIfInBounds_toArray, List.set_cons_zero, List.set_cons_succ]
     refine fan_take (i := 6) (v := ?_) rfl (by kernel_rfl) (fun _ _ _ _ h => h) (by kernel_rfl) LL19.out.cells ?_ ?_
     rotate_left
     ·rintro w' ⟨s1, s2, s3, s4⟩
      go_simp
      try with_reducible rfl
     try simp only [Act.put, List.setIfInBounds_toArray, List.set_cons_zero, List.set_cons_succ]
     refine fan_take (i := 7) (v := ?_) rfl (by kernel_rfl) (fun _ _ _ _ h => h) (by kernel_rfl) LL19.out.cells ?_ ?_
     rotate_left
     ·rintro w' ⟨s1, s2, s3, s4⟩
      go_simp
      try with_reducible rfl
     try simp only [Act.put, List.setIfInBounds_toArray, List.set_cons_zero, List.set_cons_succ]
     refine fan_one 9 (by kernel_rfl) ?_
     ·refine fan_step rfl (by kernel_rfl) fun K' hK' => ?_
      go_simp
      obtain ⟨d20, hc20, D20, b20, s20⟩ := boxedN d19 #[.bool false, .slice none 0 0, .slice none 0 0, .slice none 0 0] 98
      rw [← hc20]
      obtain ⟨gg9, hgg9⟩ : ∃ q, q = d19.heap.size := ⟨_, rfl⟩
      rw [← hgg9] at D20
      rw [← hgg9]
      have LL20 := hide (LL19.out.to b20)
      have Z7_20 := (b20.block _ (lt_of_block Z7_19)).trans Z7_19
      have PP20 := hide (And.intro (PP19.out.1.to b20) (PP19.out.2.to b20))
      have lw9 : w.heap.size < gg9 := by have := lt_of_block LL19.out.box; have := hgg9; omega
      have hne : gg7 ≠ gg9 := by have := lt_of_block Z7_19; omega
      refine hK' _ _ LL20.out.cells ?_
      clear hK' K'
      try simp only [Act.put, List.setIfInBounds_toArray, List.set_cons_zero, List.set_cons_succ]
      replace hgg9 := hide hgg9
      clear hc20 s20
      have FN := hide (lay_two LL20.out Z7_20 D20 (Nat.le_of_lt lw7) (Nat.le_of_lt lw9) hB'.out hne (by omega) h'.out PP20.out.1 PP20.out.2)
      have CL := (cells4 LL20.out.box).1
      obtain ⟨⟨y0, y1, y2, y3⟩, yf⟩ := cells4 Z7_20
      refine fan_one 10 (by kernel_rfl) ?_
      refine fan_step rfl (by kernel_rfl) fun K' hK' => ?_
      go_simp
      refine hK' _ _ (FN.out.1) ?_
      clear hK' K'
      refine fan_one 11 (by kernel_rfl) ?_
      refine fan_step rfl (by kernel_rfl) fun K' hK' => ?_
      go_simp
      refine hK' _ _ (FN.out.1) ?_
      clear hK' K'
      refine fan_done (by kernel_rfl) ?_
      show wpList _ _ _ _ _ _
      obtain ⟨⟨x0, x1, x2, x3⟩, xf⟩ := cells4 FN.out.2.1
      dsimp only [List.drop]
      clear y0 y1 y2 y3 yf CL
      go_wp2_with fail
      go_meet
      exact ⟨gg7, gg9, _, _, _, _, _, _, rfl, rfl, rfl, hide FN.out.2.2⟩
    ·refine fan_step rfl (by kernel_rfl) fun K' hK' => ?_
     go_simp
     obtain ⟨d21, hc21, D21, b21, s21⟩ := boxedN d18 #[.bool false, .slice none 0 0, .slice none 0 0, .slice none 0 0] 98
     rw [← hc21]
     obtain ⟨gg9, hgg9⟩ : ∃ q, q = d18.heap.size := ⟨_, rfl⟩
     rw [← hgg9] at D21
     rw [← hgg9]
     have LL21 := hide (LL18.out.to b21)
     have Z7_21 := (b21.block _ (lt_of_block Z7_18)).trans Z7_18
     have lw9 : w.heap.size < gg9 := by have := lt_of_block LL18.out.box; have := hgg9; omega
     have hne : gg7 ≠ gg9 := by have := lt_of_block Z7_18; omega
     refine hK' _ _ LL21.out.cells ?_
     clear hK' K'
     try simp only [Act.put, List.setIfInBounds_toArray, List.set_cons_zero, List.set_cons_succ]
     replace hgg9 := hide hgg9
     clear hc21 s21
     refine fan_one 3 (by kernel_rfl) ?_
     ·refine fan_step rfl (by kernel_rfl) fun K' hK' => ?_
      refine wp_call_of 120 _ _ (by rfl) _ (by simp [Act.eval]) (Tryz.call120 _ _) (KT.out d21 LL21.out.nd) ?_
      rintro e d22 ⟨k1, v1, d1, k2, v2, d2, rfl, r1, r2, b22⟩
      have LL22 := hide (LL21.out.to b22)
      have Z7_22 := (b22.block _ (lt_of_block Z7_21)).trans Z7_21
      have Z9_22 := (b22.block _ (lt_of_block D21)).trans D21
      have PP22 := hide (And.intro r1 r2)
      refine ⟨_, rfl, hK' _ _ LL22.out.cells ?_⟩
      clear hK' K'
      try simp only [Act.put, List.setIfInBounds_toArray, List.set_cons_zero, List.set_cons_succ]
      obtain ⟨k1a, k1c, v1a, v1c, d1a, d1c, rfl, rfl, rfl⟩ := r1.rd.slices
      obtain ⟨k2a, k2c, v2a, v2c, d2a, d2c, rfl, rfl, rfl⟩ := r2.rd.slices
      dsimp only [nv]
      clear r1 r2
      refine fan_take (i := 4) (v := ?_) rfl (by kernel_rfl) (fun _ _ _ _ h => h) (by kernel_rfl) LL22.out.cells ?_ ?_
      rotate_left
      ·rintro w' ⟨s1, s2, s3, s4⟩
       go_simp
       try with_reducible rfl
      try simp only [Act.put, List.setIfInBounds_toArray, List.set_cons_zero, List.set_cons_succ]
      refine fan_take (i := 5) (v := ?_) rfl (by kernel_rfl) (fun _ _ _ _ h => h) (by kernel_rfl) LL22.out.cells ?_ ?_
      rotate_left
      ·rintro w' ⟨s1, s2, s3, s4⟩
       go_simp
       try with_reducible rfl
      try simp only [Act.put, List.setIfInBounds_toArray, List.set_cons_zero, List.set_cons_succ]
      refine fan_take (i := 6) (v := ?_) rfl (by kernel_rfl) (fun _ _ _ _ h => h) (by kernel_rfl) LL22.out.cells ?_ ?_
      rotate_left
      ·rintro w' ⟨s1, s2, s3, s4⟩
       go_simp
       try with_reducible rfl
      try simp only [Act.put, List.setIfInBounds_toArray, List.set_cons_zero, List.set_cons_succ]
      refine fan_take (i := 7) (v := ?_) rfl (by kernel_rfl) (fun _ _ _ _ h => h) (by kernel_rfl) LL22.out.cells ?_ ?_
      rotate_left
      ·rintro w' ⟨s1, s2, s3, s4⟩
       go_simp
       try with_reducible rfl
      try simp only [Act.put, List.setIfInBounds_toArray, List.set_cons_zero, List.set_cons_succ]
      have FN := hide (lay_two LL22.out Z7_22 Z9_22 (Nat.le_of_lt lw7) (Nat.le_of_lt lw9) hB'.out hne (by omega) h'.out PP22.out.1 PP22.out.2)
      have CL := (cells4 LL22.out.box).1
      obtain ⟨⟨y0, y1, y2, y3⟩, yf⟩ := cells4 Z7_22
      refine fan_one 10 (by kernel_rfl) ?_
      refine fan_step rfl (by kernel_rfl) fun K' hK' => ?_
      go_simp
      refine hK' _ _ (FN.out.1) ?_
      clear hK' K'
      refine fan_one 11 (by kernel_rfl) ?_
      refine fan_step rfl (by kernel_rfl) fun K' hK' => ?_
      go_simp
      refine hK' _ _ (FN.out.1) ?_
      clear hK' K'
      refine fan_done (by kernel_rfl) ?_
      show wpList _ _ _ _ _ _
      obtain ⟨⟨x0, x1, x2, x3⟩, xf⟩ := cells4 FN.out.2.1
      dsimp only [List.drop]
      clear y0 y1 y2 y3 yf CL
      go_wp2_with fail
      go_meet
      exact ⟨gg7, gg9, _, _, _, _, _, _, rfl, rfl, rfl, hide FN.out.2.2⟩
   ·refine fan_step rfl (by kernel_rfl) fun K' hK' => ?_
    go_simp
    obtain ⟨d23, hc23, D23, b23, s23⟩ := boxedN d17 #[.bool false, .slice none 0 0, .slice none 0 0, .slice none 0 0] 98
    rw [← hc23]
    obtain ⟨gg9, hgg9⟩ : ∃ q, q = d17.heap.size := ⟨_, rfl⟩
    rw [← hgg9] at D23
    rw [← hgg9]
    have LL23 := hide (LL17.out.to b23)
    have Z7_23 := (b23.block _ (lt_of_block D17)).trans D17
    have lw9 : w.heap.size < gg9 := by have := lt_of_block LL17.out.box; have := hgg9; omega
    have hne : gg7 ≠ gg9 := by have := lt_of_block D17; omega
    refine hK' _ _ LL23.out.cells ?_
    clear hK' K'
    try simp only [Act.put, List.setIfInBounds_toArray, List.set_cons_zero, List.set_cons_succ]
    replace hgg9 := hide hgg9
    clear hc23 s23
    refine fan_one 2 (by kernel_rfl) ?_
    ·refine fan_step rfl (by kernel_rfl) fun K' hK' => ?_
     refine wp_call_of 121 _ _ (by rfl) _ (by simp [Act.eval]) (Tryz.call121 _ _) (KM.out d23 LL23.out.nd) ?_
     rintro e d24 ⟨rfl, b24⟩
     have LL24 := hide (LL23.out.to b24)
     have Z7_24 := (b24.block _ (lt_of_block Z7_23)).trans Z7_23
     have Z9_24 := (b24.block _ (lt_of_block D23)).trans D23
     refine ⟨_, rfl, hK' _ _ LL24.out.cells ?_⟩
     clear hK' K'
     try simp only [Act.put, List.setIfInBounds_toArray, List.set_cons_zero, List.set_cons_succ]
     refine fan_one 3 (by kernel_rfl) ?_
     ·refine fan_step rfl (by kernel_rfl) fun K' hK' => ?_
      refine wp_call_of 120 _ _ (by rfl) _ (by simp [Act.eval]) (Tryz.call120 _ _) (KT.out d24 LL24.out.nd) ?_
      rintro e d25 ⟨k1, v1, d1, k2, v2, d2, rfl, r1, r2, b25⟩
      have LL25 := hide (LL24.out.to b25)
      have Z7_25 := (b25.block _ (lt_of_block Z7_24)).trans Z7_24
      have Z9_25 := (b25.block _ (lt_of_block Z9_24)).trans Z9_24
      have PP25 := hide (And.intro r1 r2)
      refine ⟨_, rfl, hK' _ _ LL25.out.cells ?_⟩
      clear hK' K'
      try simp only [Act.put, List.setIfInBounds_toArray, List.set_cons_zero, List.set_cons_succ]
      obtain ⟨k1a, k1c, v1a, v1c, d1a, d1c, rfl, rfl, rfl⟩ := r1.rd.slices
      obtain ⟨k2a, k2c, v2a, v2c, d2a, d2c, rfl, rfl, rfl⟩ := r2.rd.slices
      dsimp only [nv]
      clear r1 r2
      refine fan_take (i := 4) (v := ?_) rfl (by kernel_rfl) (fun _ _ _ _ h => h) (by kernel_rfl) LL25.out.cells ?_ ?_
      rotate_left
      ·rintro w' ⟨s1, s2, s3, s4⟩
       go_simp
       try with_reducible rfl
      try simp only [Act.put, List.setIfInBounds_toArray, List.set_cons_zero, List.set_cons_succ]
      refine fan_take (i := 5) (v := ?_) rfl (by kernel_rfl) (fun _ _ _ _ h => h) (by kernel_rfl) LL25.out.cells ?_ ?_
      rotate_left
      ·rintro w' ⟨s1, s2, s3, s4⟩
       go_simp
       try with_reducible rfl
      try simp only [Act.put, List.setIfInBounds_toArray, List.set_cons_zero, List.set_cons_succ]
      refine fan_take (i := 6) (v := ?_) rfl (by kernel_rfl) (fun _ _ _ _ h => h) (by kernel_rfl) LL25.out.cells ?_ ?_
      rotate_left
      ·rintro w' ⟨s1, s2, s3, s4⟩
       go_simp
       try with_reducible rfl
      try simp only [Act.put, List.setIfInBounds_toArray, List.set_cons_zero, List.set_cons_succ]
      refine fan_take (i := 7) (v := ?_) rfl (by kernel_rfl) (fun _ _ _ _ h => h) (by kernel_rfl) LL25.out.cells ?_ ?_
      rotate_left
      ·rintro w' ⟨s1, s2, s3, s4⟩
       go_simp
       try with_reducible rfl
      try simp only [Act.put, List.setIfInBounds_toArray, List.set_cons_zero, List.set_cons_succ]
      have FN := hide (lay_two LL25.out Z7_25 Z9_25 (Nat.le_of_lt lw7) (Nat.le_of_lt lw9) hB'.out hne (by omega) h'.out PP25.out.1 PP25.out.2)
      have CL := (cells4 LL25.out.box).1
      obtain ⟨⟨y0, y1, y2, y3⟩, yf⟩ := cells4 Z7_25
      refine fan_one 10 (by kernel_rfl) ?_
      refine fan_step rfl (by kernel_rfl) fun K' hK' => ?_
      go_simp
      refine hK' _ _ (FN.out.1) ?_
      clear hK' K'
      refine fan_one 11 (by kernel_rfl) ?_
      refine fan_step rfl (by kernel_rfl) fun K' hK' => ?_
      go_simp
      refine hK' _ _ (FN.out.1) ?_
      clear hK' K'
      refine fan_done (by kernel_rfl) ?_
      show wpList _ _ _ _ _ _
      obtain ⟨⟨x0, x1, x2, x3⟩, xf⟩ := cells4 FN.out.2.1
      dsimp only [List.drop]
      clear y0 y1 y2 y3 yf CL
      go_wp2_with fail
      go_meet
      exact ⟨gg7, gg9, _, _, _, _, _, _, rfl, rfl, rfl, hide FN.out.2.2⟩
  ·refine fan_step rfl (by kernel_rfl) fun K' hK' => ?_
   go_simp
   obtain ⟨d26, hc26, D26, b26, s26⟩ := boxedN c0 #[.bool false, .slice none 0 0, .slice none 0 0, .slice none 0 0] 98
   rw [← hc26]
   obtain ⟨gg9, hgg9⟩ : ∃ q, q = c0.heap.size := ⟨_, rfl⟩
   rw [← hgg9] at D26
   rw [← hgg9]
   have LL26 := hide (LL0.out.to b26)
   have lw9 : w.heap.size < gg9 := by have := lt_of_block LL0.out.box; have := hgg9; omega
   refine hK' _ _ LL26.out.cells ?_
   clear hK' K'
   try simp only [Act.put, List.setIfInBounds_toArray, List.set_cons_zero, List.set_cons_succ]
   replace hgg9 := hide hgg9
   clear hc26 s26
   refine fan_two 2 8 (by kernel_rfl) ?_ ?_
   ·refine fan_step rfl (by kernel_rfl) fun K' hK' => ?_
    refine wp_call_of 121 _ _ (by rfl) _ (by simp [Act.eval]) (Tryz.call121 _ _) (KM.out d26 LL26.out.nd) ?_
    rintro e d27 ⟨rfl, b27⟩
    have LL27 := hide (LL26.out.to b27)
    have Z9_27 := (b27.block _ (lt_of_block D26)).trans D26
    refine ⟨_, rfl, hK' _ _ LL27.out.cells ?_⟩
    clear hK' K'
    try simp only [Act.put, List.setIfInBounds_toArray, List.set_cons_zero, List.set_cons_succ]
    refine fan_two 3 8 (by kernel_rfl) ?_ ?_
    ·refine fan_step rfl (by kernel_rfl) fun K' hK' => ?_
     refine wp_call_of 120 _ _ (by rfl) _ (by simp [Act.eval]) (Tryz.call120 _ _) (KT.out d27 LL27.out.nd) ?_
     rintro e d28 ⟨k1, v1, d1, k2, v2, d2, rfl, r1, r2, b28⟩
     have LL28 := hide (LL27.out.to b28)
     have Z9_28 := (b28.block _ (lt_of_block Z9_27)).trans Z9_27
     have PP28 := hide (And.intro r1 r2)
     refine ⟨_, rfl, hK' _ _ LL28.out.cells ?_⟩
     clear hK' K'
     try simp only [Act.put, List.setIfInBounds_toArray, List.set_cons_zero, List.set_cons_succ]
     obtain ⟨k1a, k1c, v1a, v1c, d1a, d1c, rfl, rfl, rfl⟩ := r1.rd.slices
     obtain ⟨k2a, k2c, v2a, v2c, d2a, d2c, rfl, rfl, rfl⟩ := r2.rd.slices
     dsimp only [nv]
     clear r1 r2
     refine fan_take (i := 4) (v := ?_) rfl (by kernel_rfl) (fun _ _ _ _ h => h) (by kernel_rfl) LL28.out.cells ?_ ?_
     rotate_left
     ·rintro w' ⟨s1, s2, s3, s4⟩
      go_simp
      try with_reducible rfl
     try simp only [Act.put, List.setIfInBounds_toArray, List.set_cons_zero, List.set_cons_succ]
     refine fan_take (i := 5) (v := ?_) rfl (by kernel_rfl) (fun _ _ _ _ h => h) (by kernel_rfl) LL28.out.cells ?_ ?_
     rotate_left
     ·rintro w' ⟨s1, s2, s3, s4⟩
      go_simp
      try with_reducible rfl
     try simp only [Act.put, List.setIfInBounds_toArray, List.set_cons_zero, List.set_cons_succ]
     refine fan_take (i := 6) (v := ?_) rfl (by kernel_rfl) (fun _ _ _ _ h => h) (by kernel_rfl) LL28.out.cells ?_ ?_
     rotate_left
     ·rintro w' ⟨s1, s2, s3, s4⟩
      go_simp
      try with_reducible rfl
     try simp only [Act.put, List.setIfInBounds_toArray, List.set_cons_zero, List.set_cons_succ]
     refine fan_take (i := 7) (v := ?_) rfl (by kernel_rfl) (fun _ _ _ _ h => h) (by kernel_rfl) LL28.out.cells ?_ ?_
     rotate_left
     ·rintro w' ⟨s1, s2, s3, s4⟩
      go_simp
      try with_reducible rfl
     try simp only [Act.put, List.setIfInBounds_toArray, List.set_cons_zero, List.set_cons_succ]
     refine fan_one 8 (by kernel_rfl) ?_
     ·refine fan_step rfl (by kernel_rfl) fun K' hK' => ?_
      go_simp
      obtain ⟨d29, hc29, D29, b29, s29⟩ := boxedN d28 #[.bool false, .slice none 0 0, .slice none 0 0, .slice none 0 0] 98
      rw [← hc29]
      obtain ⟨gg7, hgg7⟩ : ∃ q, q = d28.heap.size := ⟨_, rfl⟩
      rw [← hgg7] at D29
      rw [← hgg7]
      have LL29 := hide (LL28.out.to b29)
      have Z9_29 := (b29.block _ (lt_of_block Z9_28)).trans Z9_28
      have PP29 := hide (And.intro (PP28.out.1.to b29) (PP28.out.2.to b29))
      have lw7 : w.heap.size < gg7 := by have := lt_of_block LL28.out.box; have := hgg7; omega
      have hne : gg7 ≠ gg9 := by have := lt_of_block Z9_28; omega
      refine hK' _ _ LL29.out.cells ?_
      clear hK' K'
      try simp only [Act.put, List.setIfInBounds_toArray, List.set_cons_zero, List.set_cons_succ]
      replace hgg7 := hide hgg7
      clear hc29 s29
      have FN := hide (lay_two LL29.out D29 Z9_29 (Nat.le_of_lt lw7) (Nat.le_of_lt lw9) hB'.out hne (by omega) h'.out PP29.out.1 PP29.out.2)
      have CL := (cells4 LL29.out.box).1
      obtain ⟨⟨y0, y1, y2, y3⟩, yf⟩ := cells4 D29
      refine fan_one 10 (by kernel_rfl) ?_
      refine fan_step rfl (by kernel_rfl) fun K' hK' => ?_
      go_simp
      refine hK' _ _ (FN.out.1) ?_
      clear hK' K'
      refine fan_one 11 (by kernel_rfl) ?_
      refine fan_step rfl (by kernel_rfl) fun K' hK' => ?_
      go_simp
      refine hK' _ _ (FN.out.1) ?_
      clear hK' K'
      refine fan_done (by kernel_rfl) ?_
      show wpList _ _ _ _ _ _
      obtain ⟨⟨x0, x1, x2, x3⟩, xf⟩ := cells4 FN.out.2.1
      dsimp only [List.drop]
      clear y0 y1 y2 y3 yf CL
      go_wp2_with fail
      go_meet
      exact ⟨gg7, gg9, _, _, _, _, _, _, rfl, rfl, rfl, hide FN.out.2.2⟩
    ·refine fan_step rfl (by kernel_rfl) fun K' hK' => ?_
     go_simp
     obtain ⟨d30, hc30, D30, b30, s30⟩ := boxedN d27 #[.bool false, .slice none 0 0, .slice none 0 0, .slice none 0 0] 98
     rw [← hc30]
     obtain ⟨gg7, hgg7⟩ : ∃ q, q = d27.heap.size := ⟨_, rfl⟩
     rw [← hgg7] at D30
     rw [← hgg7]
     have LL30 := hide (LL27.out.to b30)
     have Z9_30 := (b30.block _ (lt_of_block Z9_27)).trans Z9_27
     have lw7 : w.heap.size < gg7 := by have := lt_of_block LL27.out.box; have := hgg7; omega
     have hne : gg7 ≠ gg9 := by have := lt_of_block Z9_27; omega
     refine hK' _ _ LL30.out.cells ?_
     clear hK' K'
     try simp only [Act.put, List.setIfInBounds_toArray, List.set_cons_zero, List.set_cons_succ]
     replace hgg7 := hide hgg7
     clear hc30 s30
     refine fan_one 3 (by kernel_rfl) ?_
     ·refine fan_step rfl (by kernel_rfl) fun K' hK' => ?_
      refine wp_call_of 120 _ _ (by rfl) _ (by simp [Act.eval]) (Tryz.call120 _ _) (KT.out d30 LL30.out.nd) ?_
      rintro e d31 ⟨k1, v1, d1, k2, v2, d2, rfl, r1, r2, b31⟩
      have LL31 := hide (LL30.out.to b31)
      have Z9_31 := (b31.block _ (lt_of_block Z9_30)).trans Z9_30
      have Z7_31 := (b31.block _ (lt_of_block D30)).trans D30
      have PP31 := hide (And.intro r1 r2)
      refine ⟨_, rfl, hK' _ _ LL31.out.cells ?_⟩
      clear hK' K'
      try simp only [Act.put, List.setIfInBounds_toArray, List.set_cons_zero, List.set_cons_succ]
      obtain ⟨k1a, k1c, v1a, v1c, d1a, d1c, rfl, rfl, rfl⟩ := r1.rd.slices
      obtain ⟨k2a, k2c, v2a, v2c, d2a, d2c, rfl, rfl, rfl⟩ := r2.rd.slices
      dsimp only [nv]
      clear r1 r2
      refine fan_take (i := 4) (v := ?_) rfl (by kernel_rfl) (fun _ _ _ _ h => h) (by kernel_rfl) LL31.out.cells ?_ ?_
      rotate_left
      ·rintro w' ⟨s1, s2, s3, s4⟩
       go_simp
       try with_reducible rfl
      try simp only [Act.put, List.setIfInBounds_toArray, List.set_cons_zero, List.set_cons_succ]
      refine fan_take (i := 5) (v := ?_) rfl (by kernel_rfl) (fun _ _ _ _ h => h) (by kernel_rfl) LL31.out.cells ?_ ?_
      rotate_left
      ·rintro w' ⟨s1, s2, s3, s4⟩
       go_simp
       try with_reducible rfl
      try simp only [Act.put, List.setIfInBounds_toArray, List.set_cons_zero, List.set_cons_succ]
      refine fan_take (i := 6) (v := ?_) rfl (by kernel_rfl) (fun _ _ _ _ h => h) (by kernel_rfl) LL31.out.cells ?_ ?_
      rotate_left
      ·rintro w' ⟨s1, s2, s3, s4⟩
       go_simp
       try with_reducible rfl
      try simp only [Act.put, List.setIfInBounds_toArray, List.set_cons_zero, List.set_cons_succ]
      refine fan_take (i := 7) (v := ?_) rfl (by kernel_rfl) (fun _ _ _ _ h => h) (by kernel_rfl) LL31.out.cells ?_ ?_
      rotate_left
      ·rintro w' ⟨s1, s2, s3, s4⟩
       go_simp
       try with_reducible rfl
      try simp only [Act.put, List.setIfInBounds_toArray, List.set_cons_zero, List.set_cons_succ]
      have FN := hide (lay_two LL31.out Z7_31 Z9_31 (Nat.le_of_lt lw7) (Nat.le_of_lt lw9) hB'.out hne (by omega) h'.out PP31.out.1 PP31.out.2)
      have CL := (cells4 LL31.out.box).1
      obtain ⟨⟨y0, y1, y2, y3⟩, yf⟩ := cells4 Z7_31
      refine fan_one 10 (by kernel_rfl) ?_
      refine fan_step rfl (by kernel_rfl) fun K' hK' => ?_
      go_simp
      refine hK' _ _ (FN.out.1) ?_
      clear hK' K'
      refine fan_one 11 (by kernel_rfl) ?_
      refine fan_step rfl (by kernel_rfl) fun K' hK' => ?_
      go_simp
      refine hK' _ _ (FN.out.1) ?_
      clear hK' K'
      refine fan_done (by kernel_rfl) ?_
      show wpList _ _ _ _ _ _
      obtain ⟨⟨x0, x1, x2, x3⟩, xf⟩ := cells4 FN.out.2.1
      dsimp only [List.drop]
      clear y0 y1 y2 y3 yf CL
      go_wp2_with fail
      go_meet
      exact ⟨gg7, gg9, _, _, _, _, _, _, rfl, rfl, rfl, hide FN.out.2.2⟩
   ·refine fan_step rfl (by kernel_rfl) fun K' hK' => ?_
    go_simp
    obtain ⟨d32, hc32, D32, b32, s32⟩ := boxedN d26 #[.bool false, .slice none 0 0, .slice none 0 0, .slice none 0 0] 98
    rw [← hc32]
    obtain ⟨gg7, hgg7⟩ : ∃ q, q = d26.heap.size := ⟨_, rfl⟩
    rw [← hgg7] at D32
    rw [← hgg7]
    have LL32 := hide (LL26.out.to b32)
    have Z9_32 := (b32.block _ (lt_of_block D26)).trans D26
    have lw7 : w.heap.size < gg7 := by have := lt_of_block LL26.out.box; have := hgg7; omega
    have hne : gg7 ≠ gg9 := by have := lt_of_block D26; omega
    refine hK' _ _ LL32.out.cells ?_
    clear hK' K'
    try simp only [Act.put, List.setIfInBounds_toArray, List.set_cons_zero, List.set_cons_succ]
    replace hgg7 := hide hgg7
    clear hc32 s32
    refine fan_one 2 (by kernel_rfl) ?_
    ·refine fan_step rfl (by kernel_rfl) fun K' hK' => ?_
     refine wp_call_of 121 _ _ (by rfl) _ (by simp [Act.eval]) (Tryz.call121 _ _) (KM.out d32 LL32.out.nd) ?_
     rintro e d33 ⟨rfl, b33⟩
     have LL33 := hide (LL32.out.to b33)
     have Z9_33 := (b33.block _ (lt_of_block Z9_32)).trans Z9_32
     have Z7_33 := (b33.block _ (lt_of_block D32)).trans D32
     refine ⟨_, rfl, hK' _ _ LL33.out.cells ?_⟩
     clear hK' K'
     try simp only [Act.put, List.setIfInBounds_toArray, List.set_cons_zero, List.set_cons_succ]
     refine fan_one 3 (by kernel_rfl) ?_
     ·refine fan_step rfl (by kernel_rfl) fun K' hK' => ?_
      refine wp_call_of 120 _ _ (by rfl) _ (by simp [Act.eval]) (Tryz.call120 _ _) (KT.out d33 LL33.out.nd) ?_
      rintro e d34 ⟨k1, v1, d1, k2, v2, d2, rfl, r1, r2, b34⟩
      have LL34 := hide (LL33.out.to b34)
      have Z9_34 := (b34.block _ (lt_of_block Z9_33)).trans Z9_33
      have Z7_34 := (b34.block _ (lt_of_block Z7_33)).trans Z7_33
      have PP34 := hide (And.intro r1 r2)
      refine ⟨_, rfl, hK' _ _ LL34.out.cells ?_⟩
      clear hK' K'
      try simp only [Act.put, List.setIfInBounds_toArray, List.set_cons_zero, List.set_cons_succ]
      obtain ⟨k1a, k1c, v1a, v1c, d1a, d1c, rfl, rfl, rfl⟩ := r1.rd.slices
      obtain ⟨k2a, k2c, v2a, v2c, d2a, d2c, rfl, rfl, rfl⟩ := r2.rd.slices
      dsimp only [nv]
      clear r1 r2
      refine fan_take (i := 4) (v := ?_) rfl (by kernel_rfl) (fun _ _ _ _ h => h) (by kernel_rfl) LL34.out.cells ?_ ?_
      rotate_left
      ·rintro w' ⟨s1, s2, s3, s4⟩
       go_simp
       try with_reducible rfl
      try simp only [Act.put, List.setIfInBounds_toArray, List.set_cons_zero, List.set_cons_succ]
      refine fan_take (i := 5) (v := ?_) rfl (by kernel_rfl) (fun _ _ _ _ h => h) (by kernel_rfl) LL34.out.cells ?_ ?_
      rotate_left
      ·rintro w' ⟨s1, s2, s3, s4⟩
       go_simp
       try with_reducible rfl
      try simp only [Act.put, List.setIfInBounds_toArray, List.set_cons_zero, List.set_cons_succ]
      refine fan_take (i := 6) (v := ?_) rfl (by kernel_rfl) (fun _ _ _ _ h => h) (by kernel_rfl) LL34.out.cells ?_ ?_
      rotate_left
      ·rintro w' ⟨s1, s2, s3, s4⟩
       go_simp
       try with_reducible rfl
      try simp only [Act.put, List.setIfInBounds_toArray, List.set_cons_zero, List.set_cons_succ]
      refine fan_take (i := 7) (v := ?_) rfl (by kernel_rfl) (fun _ _ _ _ h => h) (by kernel_rfl) LL34.out.cells ?_ ?_
      rotate_left
      ·rintro w' ⟨s1, s2, s3, s4⟩
       go_simp
       try with_reducible rfl
      try simp only [Act.put, List.setIfInBounds_toArray, List.set_cons_zero, List.set_cons_succ]
      have FN := hide (lay_two LL34.out Z7_34 Z9_34 (Nat.le_of_lt lw7) (Nat.le_of_lt lw9) hB'.out hne (by omega) h'.out PP34.out.1 PP34.out.2)
      have CL := (cells4 LL34.out.box).1
      obtain ⟨⟨y0, y1, y2, y3⟩, yf⟩ := cells4 Z7_34
      refine fan_one 10 (by kernel_rfl) ?_
      refine fan_step rfl (by kernel_rfl) fun K' hK' => ?_
      go_simp
      refine hK' _ _ (FN.out.1) ?_
      clear hK' K'
      refine fan_one 11 (by kernel_rfl) ?_
      refine fan_step rfl (by kernel_rfl) fun K' hK' => ?_
      go_simp
      refine hK' _ _ (FN.out.1) ?_
      clear hK' K'
      refine fan_done (by kernel_rfl) ?_
      show wpList _ _ _ _ _ _
      obtain ⟨⟨x0, x1, x2, x3⟩, xf⟩ := cells4 FN.out.2.1
      dsimp only [List.drop]
      clear y0 y1 y2 y3 yf CL
      go_wp2_with fail
      go_meet
      exact ⟨gg7, gg9, _, _, _, _, _, _, rfl, rfl, rfl, hide FN.out.2.2⟩
 case rest =>
  obtain ⟨g7, g9, k1, v1, d1, k2, v2, d2, rfl, rfl, rfl, hT⟩ := hcut
  obtain ⟨NL, hNL⟩ : ∃ q, q = cutL n (midOf n) := ⟨_, rfl⟩
  obtain ⟨NR, hNR⟩ : ∃ q, q = cutR n (midOf n) := ⟨_, rfl⟩
  obtain ⟨key, hkey⟩ : ∃ k, k = n.keys.getD (midOf n) [] := ⟨_, rfl⟩
  rw [← hNL, ← hNR] at hT hla
  rw [← hkey] at hla ⊢
  clear hNL hNR hkey
  go_upto_region 6 with fail
  have b0 : Below wc.heap.size wc wc.drew := below_drewN' wc 1 _
  obtain ⟨c0, hc0⟩ : ∃ c, c = wc.drew := ⟨_, rfl⟩
  rw [← hc0] at b0
  have T0 := hT.out.to b0
  have hgcl : gc < w.heap.size := lt_of_block h'.out.box
  have hrow : ∀ b, av.ownBlock = some b → b < w.heap.size := fun b hb => (World.ownsRow.lt h'.out.row b hb).2
  have S0 : (c0.cell? ⟨g7, 0, none⟩ = some (.bool NL.leaf) ∧ c0.cell? ⟨g7, 1, none⟩ = some k1 ∧ c0.cell? ⟨g7, 2, none⟩ = some v1 ∧ c0.cell? ⟨g7, 3, none⟩ = some d1) ∧ c0.cell? ⟨g9, 0, none⟩ = some (.bool NR.leaf) ∧ c0.cell? ⟨g9, 1, none⟩ = some k2 ∧ c0.cell? ⟨g9, 2, none⟩ = some v2 ∧ c0.cell? ⟨g9, 3, none⟩ = some d2 := ⟨(cells4 T0.b7).1, (cells4 T0.b9).1⟩
  obtain ⟨k1a, k1c, v1a, v1c, d1a, d1c, ek1, ev1, ed1⟩ := T0.ra.rd.slices
  obtain ⟨k2a, k2c, v2a, v2c, d2a, d2c, ek2, ev2, ed2⟩ := T0.rb.rd.slices
  have one1 : k1.oneCell' = true ∧ v1.oneCell' = true ∧ d1.oneCell' = true := by rw [ek1, ev1, ed1]; exact ⟨rfl, rfl, rfl⟩
  have one2 : k2.oneCell' = true ∧ v2.oneCell' = true ∧ d2.oneCell' = true := by rw [ek2, ev2, ed2]; exact ⟨rfl, rfl, rfl⟩
  replace one2 := hide one2
  have KA := hide (padd_any B c0 gc g next av ns NL k1 v1 d1 T0.ch T0.hB hg'.out hgc.out (by omega) hnx one1)
  have HT0 := hide T0
  clear T0 ek1 ev1 ed1 ek2 ev2 ed2 one1 KM KT L1 hT
  dsimp only [nv] at KA
  refine wp_region_sched (fun w' => (w'.cell? ⟨g7, 0, none⟩ = some (.bool NL.leaf) ∧ w'.cell? ⟨g7, 1, none⟩ = some k1 ∧ w'.cell? ⟨g7, 2, none⟩ = some v1 ∧ w'.cell? ⟨g7, 3, none⟩ = some d1) ∧ w'.cell? ⟨g9, 0, none⟩ = some (.bool NR.leaf) ∧ w'.cell? ⟨g9, 1, none⟩ = some k2 ∧ w'.cell? ⟨g9, 2, none⟩ = some v2 ∧ w'.cell? ⟨g9, 3, none⟩ = some d2) [(0, true), (1, true), (2, true), (5, true), (6, true), (7, true), (3, false), (4, true), (8, false), (9, true)] 10 mixed (by kernel_rfl) (fun _ _ _ _ h => h) ?_
  rw [← hc0]
  replace hc0 := hide hc0
  iterate 6
   refine sched_take (v := ?_) rfl (by kernel_rfl) S0 ?_ ?_
   rotate_left
   ·rintro w' ⟨⟨s1, s2, s3, s4⟩, t1, t2, t3, t4⟩
    go_simp
    try with_reducible rfl
   try simp only [Act.put, List.setIfInBounds_toArray, List.set_cons_zero, List.set_cons_succ]
  refine sched_run rfl (by kernel_rfl) fun K' hK' => ?_
  refine wp_call_of 84 _ _ (by rfl) _ (by simp [Act.eval]) (Tryz.call84 _ _) KA.out ?_
  rintro e w2 ⟨av2, rfl, c2, q2⟩
  have T0 := HT0.out
  have z7 := q2.box T0.b7 hgcl (fun q hq => by have := hrow q hq; have := T0.l7; omega) T0.l7
  have z9 := q2.box T0.b9 hgcl (fun q hq => by have := hrow q hq; have := T0.l9; omega) T0.l9
  have S2 : (w2.cell? ⟨g7, 0, none⟩ = some (.bool NL.leaf) ∧ w2.cell? ⟨g7, 1, none⟩ = some k1 ∧ w2.cell? ⟨g7, 2, none⟩ = some v1 ∧ w2.cell? ⟨g7, 3, none⟩ = some d1) ∧ w2.cell? ⟨g9, 0, none⟩ = some (.bool NR.leaf) ∧ w2.cell? ⟨g9, 1, none⟩ = some k2 ∧ w2.cell? ⟨g9, 2, none⟩ = some v2 ∧ w2.cell? ⟨g9, 3, none⟩ = some d2 := ⟨(cells4 z7).1, (cells4 z9).1⟩
  have kt := fun e (h1 : e ≠ 128) (h2 : e ≠ 98) => q2.keepT T0.ch h1 h2
  have A2 : AllK w2 (ns ++ [(NL, k1, v1, d1)]) := (T0.al.keepT (kt _ (by decide) (by decide)) (kt _ (by decide) (by decide))).snoc (T0.ra.keepT (kt _ (by decide) (by decide)) (kt _ (by decide) (by decide)))
  have rb2 := T0.rb.keepT (kt _ (by decide) (by decide)) (kt _ (by decide) (by decide))
  have kk2 := T0.kc.trans q2
  have hB2 : B ≤ w2.heap.size := Nat.le_trans T0.hB q2.size
  have KA2 := hide (padd_any B w2 gc g next av2 (ns ++ [(NL, k1, v1, d1)]) NR k2 v2 d2 c2 hB2 (KCh.apart h'.out hg'.out kk2) hgc.out (by simp; omega) hnx one2.out)
  dsimp only [nv] at KA2
  have hne2 : ∀ q, av2.ownBlock = some q → q ≠ g7 ∧ q ≠ g9 := fun q hq => by
   have l1 := lt_of_block T0.b7
   have l2 := lt_of_block T0.b9
   rcases q2.row q hq with h9 | h9
   ·have := hrow q h9; have := T0.l7; have := T0.l9; omega
   ·omega
  have H2 := hide (And.intro z7 (And.intro z9 (And.intro A2 (And.intro rb2 (And.intro kk2 (And.intro c2 (And.intro hB2 (And.intro hne2 (And.intro T0.l7 T0.l9)))))))))
  obtain ⟨kid, hkid⟩ : ∃ k : Int, k = next + (ns.length : Int) := ⟨_, rfl⟩
  rw [← hkid]
  replace hkid := hide hkid
  refine ⟨_, rfl, hK' _ _ S2 ?_⟩
  clear hK' K' T0 HT0 z7 z9 A2 rb2 kk2 c2 q2 kt KA hne2 hB2
  try simp only [Act.put, List.setIfInBounds_toArray, List.set_cons_zero, List.set_cons_succ]
  iterate 1
   refine sched_take (v := ?_) rfl (by kernel_rfl) S2 ?_ ?_
   rotate_left
   ·rintro w' ⟨⟨s1, s2, s3, s4⟩, t1, t2, t3, t4⟩
    go_simp
    try with_reducible rfl
   try simp only [Act.put, List.setIfInBounds_toArray, List.set_cons_zero, List.set_cons_succ]
  refine sched_run rfl (by kernel_rfl) fun K' hK' => ?_
  refine wp_call_of 84 _ _ (by rfl) _ (by simp [Act.eval]) (Tryz.call84 _ _) KA2.out ?_
  rintro e w3 ⟨av3, rfl, c3, q3⟩
  obtain ⟨z7, z9, A2, rb2, kk2, c2, hB2, hne2, l7, l9⟩ := H2.out
  have y7 := q3.box z7 hgcl (fun q hq => (hne2 q hq).1) l7
  have y9 := q3.box z9 hgcl (fun q hq => (hne2 q hq).2) l9
  have S3 : (w3.cell? ⟨g7, 0, none⟩ = some (.bool NL.leaf) ∧ w3.cell? ⟨g7, 1, none⟩ = some k1 ∧ w3.cell? ⟨g7, 2, none⟩ = some v1 ∧ w3.cell? ⟨g7, 3, none⟩ = some d1) ∧ w3.cell? ⟨g9, 0, none⟩ = some (.bool NR.leaf) ∧ w3.cell? ⟨g9, 1, none⟩ = some k2 ∧ w3.cell? ⟨g9, 2, none⟩ = some v2 ∧ w3.cell? ⟨g9, 3, none⟩ = some d2 := ⟨(cells4 y7).1, (cells4 y9).1⟩
  have kt := fun e (h1 : e ≠ 128) (h2 : e ≠ 98) => q3.keepT c2 h1 h2
  have A3 : AllK w3 (ns ++ [(NL, k1, v1, d1)] ++ [(NR, k2, v2, d2)]) := (A2.keepT (kt _ (by decide) (by decide)) (kt _ (by decide) (by decide))).snoc (rb2.keepT (kt _ (by decide) (by decide)) (kt _ (by decide) (by decide)))
  have kk3 := kk2.trans q3
  have hB3 : B ≤ w3.heap.size := Nat.le_trans hB2 q3.size
  have H3 := hide (And.intro A3 (And.intro kk3 (And.intro c3 hB3)))
  have hln : (ns ++ [(NL, k1, v1, d1)]).length = ns.length + 1 := by simp
  obtain ⟨kid2, hkid2⟩ : ∃ k : Int, k = next + ((ns.length + 1 : Nat) : Int) := ⟨_, rfl⟩
  rw [hln, ← hkid2]
  replace hkid2 := hide hkid2
  clear hln
  refine ⟨_, rfl, hK' _ _ S3 ?_⟩
  clear hK' K' z7 z9 A2 rb2 kk2 c2 hB2 hne2 y7 y9 kt A3 kk3 hB3 c3 q3 KA2 H2
  try simp only [Act.put, List.setIfInBounds_toArray, List.set_cons_zero, List.set_cons_succ]
  iterate 1
   refine sched_take (v := ?_) rfl (by kernel_rfl) S3 ?_ ?_
   rotate_left
   ·rintro w' ⟨⟨s1, s2, s3, s4⟩, t1, t2, t3, t4⟩
    go_simp
    try with_reducible rfl
   try simp only [Act.put, List.setIfInBounds_toArray, List.set_cons_zero, List.set_cons_succ]
  show wpList _ _ _ _ _ _
  dsimp only [List.drop]
  obtain ⟨A3, kk3, c3, hB3⟩ := H3.out
  obtain ⟨Y, hY, DY, bY, sY⟩ := boxedN w3 #[st ahead, .int .i64 kid, st key, .int .i64 kid2] 162
  have FIN : Hid (NowV w.heap.size Y (.slice (some ⟨w3.heap.size, 0, none⟩) 2 2) [(ahead, kid), (key, kid2)] ∧ ChI B Y gc g next av3 (ns ++ [(NL, k1, v1, d1)] ++ [(NR, k2, v2, d2)]) ∧ AllK Y (ns ++ [(NL, k1, v1, d1)] ++ [(NR, k2, v2, d2)]) ∧ KCh B gc av av3 w Y) :=
   ⟨.inr ⟨w3.heap.size, rfl, by simp, DY, kk3.size⟩, c3.to bY, A3.to bY, kk3.trans (KCh.of bY hB3)⟩
  rw [hY] at FIN
  clear A3 kk3 c3 hB3 H3 DY bY hY S0 S2 S3
  go_wp2
  go_ret
  refine ⟨_, av3, [(NL, k1, v1, d1), (NR, k2, v2, d2)], rfl, ?_, ?_, ?_, by rw [hla.out, List.map_append]; rfl, FIN.out.2.2.2, KCh.apart h'.out hg'.out FIN.out.2.2.2⟩
  ·rw [hla.out, ← hkid.out]
   dsimp only
   rw [show kid + 1 = kid2 by have := hkid.out; have := hkid2.out; omega]
   exact FIN.out.1
  ·have := FIN.out.2.1
   simpa using this
  ·have := FIN.out.2.2.1
   simpa using this
end Go.Proofs.YtpiikmkajckccaaGreat

namespace Go.Proofs.YtpiikmkajckccaaGreat
def pins (key v : Str) (ps : List Pr) : List Pr := ps.filter (fun y => slt y.1 key) ++ (key, v) :: ps.filter (fun y => slt key y.1)
def pdel (key : Str) (ps : List Pr) : List Pr := ps.filter (fun y => !(y.1 == key))
def edPut (key v : Str) (n : Nd) : Nd :=
 if nhas n key = true then ⟨n.leaf, n.keys, n.vals.set (nfind n key).toNat v, n.kids⟩
 else ⟨n.leaf, n.keys.take (nfind n key).toNat ++ key :: n.keys.drop (nfind n key).toNat, n.vals.take (nfind n key).toNat ++ v :: n.vals.drop (nfind n key).toNat, n.kids⟩
theorem filter_all {α : Type} {p : α → Bool} {l : List α} (h : ∀ y ∈ l, p y = true) : l.filter p = l := List.filter_eq_self.2 h
theorem filter_none {α : Type} {p : α → Bool} {l : List α} (h : ∀ y ∈ l, p y = false) : l.filter p = [] := List.filter_eq_nil_iff.2 fun y hy => by rw [h y hy]; simp
theorem leaf_at {ps : List Pr} (hp : PrOk ps) (hs : nsize (lf ps) ≤ 244) (key : Str) : ∃ A C : List Pr, (nfind (lf ps) key).toNat = A.length ∧ nfind (lf ps) key = (A.length : Int) ∧ (∀ y ∈ A, slt y.1 key = true) ∧ (∀ y ∈ C, slt key y.1 = true) ∧
  ((nhas (lf ps) key = true ∧ ∃ v, ps = A ++ (key, v) :: C) ∨ (nhas (lf ps) key = false ∧ ps = A ++ C)) := by
 have hok := lf_ok hp hs
 have hz := (ncheck_ok _).2 hok
 obtain ⟨i, a1, a2, a3, a4, a5⟩ := nfnd_leaf key (lf ps).keys hp.1
 have hf : nfind (lf ps) key = (i : Int) := by unfold nfind; rw [if_pos hz]; exact a1
 have hh : nhas (lf ps) key = nis key (lf ps).keys := by unfold nhas; rw [if_pos hz]
 have hil : i ≤ ps.length := by simpa [lf] using a2
 have hA : ∀ y ∈ ps.take i, slt y.1 key = true := fun y hy => by
  obtain ⟨j, hj, e⟩ := List.getElem_of_mem hy
  have hj' : j < i := by simp at hj; omega
  have hj2 : j < ps.length := by omega
  refine a4 j y.1 hj' ?_
  rw [List.getElem_take] at e
  simp [lf, hj2, e]
 have hge : ∀ y ∈ ps.drop i, slt y.1 key = false := fun y hy => by
  obtain ⟨j, hj, e⟩ := List.getElem_of_mem hy
  have hj2 : i + j < ps.length := by simp at hj; omega
  refine a5 (i + j) y.1 (by omega) ?_
  rw [List.getElem_drop] at e
  simp [lf, hj2, e]
 cases hn : nis key (lf ps).keys with
 | true =>
  have hk := a3 hn
  have hlt : i < ps.length := by
   have := (List.getElem?_eq_some_iff.1 hk).1
   simpa [lf] using this
  have e : ps = ps.take i ++ ps[i] :: ps.drop (i + 1) := by rw [← List.drop_eq_getElem_cons hlt, List.take_append_drop]
  have hk1 : ps[i].1 = key := by simpa [lf, hlt] using hk
  have hr : Rise (ps.map (·.1)) := hp.1
  refine ⟨ps.take i, ps.drop (i + 1), by rw [hf, List.length_take]; omega, by rw [hf, List.length_take]; congr 1; omega, hA, fun y hy => ?_, .inl ⟨by rw [hh, hn], ps[i].2, ?_⟩⟩
  ·rw [e, List.map_append, List.map_cons] at hr
   have := (List.pairwise_cons.1 (List.pairwise_append.1 hr).2.1).1 y.1 (List.mem_map.2 ⟨y, hy, rfl⟩)
   rw [hk1] at this; exact this
  ·rw [← hk1]; exact e
 | false =>
  refine ⟨ps.take i, ps.drop i, by rw [hf, List.length_take]; omega, by rw [hf, List.length_take]; congr 1; omega, hA, fun y hy => ?_, .inr ⟨by rw [hh, hn], (List.take_append_drop i ps).symm⟩⟩
  rcases slt_tot y.1 key with h | h | h
  ·rw [hge y hy] at h; cases h
  ·exfalso
   have : nis key (lf ps).keys = true := by
    unfold nis
    exact List.any_eq_true.2 ⟨y.1, List.mem_map.2 ⟨y, List.mem_of_mem_drop hy, rfl⟩, by simp [h]⟩
   rw [hn] at this; cases this
  ·exact h
theorem pins_at {key v : Str} {A C : List Pr} (hA : ∀ y ∈ A, slt y.1 key = true) (hC : ∀ y ∈ C, slt key y.1 = true) : pins key v (A ++ C) = A ++ (key, v) :: C ∧ ∀ u, pins key v (A ++ (key, u) :: C) = A ++ (key, v) :: C := by
 have h1 := filter_all hA
 have h2 : A.filter (fun y => slt key y.1) = [] := filter_none fun y hy => slt_asym (hA y hy)
 have h3 := filter_all hC
 have h4 : C.filter (fun y => slt y.1 key) = [] := filter_none fun y hy => slt_asym (hC y hy)
 refine ⟨?_, fun u => ?_⟩
 ·unfold pins
  rw [List.filter_append, List.filter_append, h1, h2, h3, h4]; simp
 ·unfold pins
  simp only [List.filter_append, List.filter_cons, slt_irr, h1, h2, h3, h4]
  simp
theorem pins_loc (key v : Str) (A X C : List Pr) (hA : ∀ y ∈ A, slt y.1 key = true) (hC : ∀ y ∈ C, slt key y.1 = true) : pins key v (A ++ X ++ C) = A ++ pins key v X ++ C := by
 have h1 := filter_all hA
 have h2 : A.filter (fun y => slt key y.1) = [] := filter_none fun y hy => slt_asym (hA y hy)
 have h3 := filter_all hC
 have h4 : C.filter (fun y => slt y.1 key) = [] := filter_none fun y hy => slt_asym (hC y hy)
 unfold pins
 simp only [List.filter_append, h1, h2, h3, h4]
 simp
theorem rise_mid {A C : List Pr} {key v : Str} (h : Rise ((A ++ C).map (·.1))) (hA : ∀ y ∈ A, slt y.1 key = true) (hC : ∀ y ∈ C, slt key y.1 = true) : Rise ((A ++ (key, v) :: C).map (·.1)) := by
 rw [List.map_append] at h
 obtain ⟨h1, h2, h3⟩ := List.pairwise_append.1 h
 rw [List.map_append, List.map_cons]
 refine List.pairwise_append.2 ⟨h1, List.pairwise_cons.2 ⟨fun y hy => ?_, h2⟩, fun a ha b hb => ?_⟩
 ·obtain ⟨z, hz, rfl⟩ := List.mem_map.1 hy
  exact hC z hz
 ·obtain ⟨z, hz, rfl⟩ := List.mem_map.1 ha
  rcases List.mem_cons.1 hb with rfl | hb
  ·exact hA z hz
  ·exact h3 _ ha _ hb
theorem put_ed {key v : Str} (hk : 1 ≤ key.length ∧ key.length ≤ 32) (hv : v.length ≤ 64) : EdOk key (pins key v) (edPut key v) := by
 refine ⟨fun ps hp hs => ?_, fun A X C => pins_loc key v A X C⟩
 obtain ⟨A, C, e0, e1, hA, hC, h⟩ := leaf_at hp hs key
 rw [nsize_lf] at hs
 unfold edPut
 rw [e0]
 rcases h with ⟨hh, u, rfl⟩ | ⟨hh, rfl⟩
 ·rw [if_pos hh, (pins_at hA hC).2 u]
  have hr : Rise ((A ++ C).map (·.1)) := by
   have := hp.1
   rw [List.map_append, List.map_cons] at this
   rw [List.map_append]
   exact this.sublist (List.Sublist.append_left (List.sublist_cons_self _ _) _)
  refine ⟨?_, ⟨rise_mid hr hA hC, fun y hy => ?_⟩, ?_, fun y hy => ?_⟩
  ·simp [lf]
  ·simp only [List.mem_append, List.mem_cons] at hy
   rcases hy with hy | rfl | hy
   ·exact hp.2 y (by simp [hy])
   ·exact ⟨hk, hv⟩
   ·exact hp.2 y (by simp [hy])
  ·rw [nsize_lf]
   simp only [List.map_append, List.map_cons, List.sum_append, List.sum_cons, pw] at hs ⊢
   push_cast at hs ⊢
   omega
  ·simp only [List.mem_append, List.mem_cons] at hy ⊢
   rcases hy with hy | rfl | hy
   ·exact .inl (.inl hy)
   ·exact .inr rfl
   ·exact .inl (.inr (.inr hy))
 ·rw [if_neg (by rw [hh]; decide), (pins_at hA hC).1]
  refine ⟨?_, ⟨rise_mid hp.1 hA hC, fun y hy => ?_⟩, ?_, fun y hy => ?_⟩
  ·simp [lf]
  ·simp only [List.mem_append, List.mem_cons] at hy
   rcases hy with hy | rfl | hy
   ·exact hp.2 y (by simp [hy])
   ·exact ⟨hk, hv⟩
   ·exact hp.2 y (by simp [hy])
  ·rw [nsize_lf]
   simp only [List.map_append, List.map_cons, List.sum_append, List.sum_cons, pw] at hs ⊢
   push_cast at hs ⊢
   omega
  ·simp only [List.mem_append, List.mem_cons] at hy ⊢
   rcases hy with hy | rfl | hy
   ·exact .inl (.inl hy)
   ·exact .inr rfl
   ·exact .inl (.inr hy)
end Go.Proofs.YtpiikmkajckccaaGreat

namespace Go.Proofs.YtpiikmkajckccaaGreat
open Go.RowKit
def KLen (bs : List Br) : Prop := ∀ b ∈ bs.tail, 1 ≤ b.1.length ∧ b.1.length ≤ 32
def ShN : Nat → Nd → Prop
 | 0, n => ∃ ps, n = lf ps ∧ PrOk ps ∧ nsize n ≤ 342
 | _ + 1, n => ∃ bs, n = inr bs ∧ bs ≠ [] ∧ KLen bs ∧ nsize n ≤ 281
theorem sum_ge {α : Type} (f : α → Nat) (c : Nat) (h : ∀ x, c ≤ f x) : ∀ l : List α, c * l.length ≤ (l.map f).sum
 | [] => by simp
 | a :: l => by
  have h1 := sum_ge f c h l
  have h2 := h a
  simp only [List.map_cons, List.sum_cons, List.length_cons, Nat.mul_add]
  omega
theorem take_sum (ws : List Nat) (j : Nat) : (ws.take j).sum ≤ ws.sum ∧ (ws.drop j).sum ≤ ws.sum := by
 have := sum_split ws j
 omega
structure ShOk (n : Nd) : Prop where
 len : n.keys.length ≤ 200
 cnt : (n.leaf = true ∧ n.vals.length = n.keys.length) ∨ (n.leaf = false ∧ n.kids.length = n.keys.length + 1)
 bd : NBd n
 mid : 244 < nsize n → midOf n < n.keys.length
theorem ShN.ok {d : Nat} {n : Nd} (h : ShN d n) : ShOk n := by
 cases d with
 | zero =>
  obtain ⟨ps, rfl, hp, hs⟩ := h
  have hsz := nsize_lf ps
  have hlen := sum_ge pw 2 (fun y => by unfold pw; omega) ps
  have hk : (lf ps).keys.length = ps.length := by simp [lf]
  have hw : ∀ y ∈ ps, pw y ≤ 98 := fun y hy => by have := hp.2 y hy; unfold pw; omega
  refine ⟨by omega, .inl ⟨rfl, by simp [lf]⟩, ⟨⟨by omega, by omega⟩, fun i hi => ?_, fun i hi => ?_⟩, fun h1 => ?_⟩
  ·rw [cutL_lf, nsize_lf, List.map_take]
   have := (take_sum (ps.map pw) i).1
   omega
  ·rw [cutR_lf, nsize_lf, List.map_drop]
   have := (take_sum (ps.map pw) i).2
   omega
  ·rw [hk]; exact (leaf_cut hw h1 hs).2.1
 | succ d =>
  obtain ⟨bs, rfl, h0, hk, hs⟩ := h
  cases bs with
  | nil => exact absurd rfl h0
  | cons b r =>
   have hsz := nsize_inr b r
   have hlen := sum_ge bw 5 (fun y => by unfold bw; omega) r
   have hkl : (inr (b :: r)).keys.length = r.length := by simp [inr]
   have hw : ∀ y ∈ r, bw y ≤ 37 := fun y hy => by have := hk y (by simpa using hy); unfold bw; omega
   refine ⟨by omega, .inr ⟨rfl, by simp [inr]⟩, ⟨⟨by omega, by omega⟩, fun i hi => ?_, fun i hi => ?_⟩, fun h1 => ?_⟩
   ·rw [cutL_inr, nsize_inr, List.map_take]
    have := (take_sum (r.map bw) i).1
    omega
   ·rw [hkl] at hi
    rw [cutR_inr]
    have e : r.drop i = r[i] :: r.drop (i + 1) := List.drop_eq_getElem_cons hi
    rw [e, nsize_inr, List.map_drop]
    have := (take_sum (r.map bw) (i + 1)).2
    omega
   ·rw [hkl]
    have := (inr_cut hw h1 hs).2.1
    omega
theorem plaid_gen (B : Nat) (w : World) (gc g : Nat) (next : Int) (av : Value) (ns : List NV) (n : Nd) (kv vv dv : Value) (ahead : Str) (h : ChI B w gc g next av ns) (hA : AllK w ns) (hB : B ≤ w.heap.size) (hg : ∀ b, av.ownBlock = some b → b ≠ g) (hgc : gc ≠ g) (hns : ns.length ≤ 900) (hnx : 0 ≤ next ∧ next ≤ 65536) (hr : RdK w kv vv dv n) (hs : ShOk n) :
  Calls Tryz.prog 83 #[.pointer (some ⟨gc, 0, none⟩), nv n kv vv dv, st ahead] w fun e w' => LdR B gc g next av ns n ahead w w' e := by
 by_cases hk0 : n.keys.length = 0
 ·exact plaid_none B w gc g next av ns n kv vv dv ahead h hA hB hg hgc hns hnx hr hk0
 ·by_cases h1 : nsize n ≤ 244
  ·exact plaid_one B w gc g next av ns n kv vv dv ahead h hA hB hg hgc hns hnx hr hk0 h1 hs.bd.self.1
  ·exact plaid_two B w gc g next av ns n kv vv dv ahead h hA hB hg hgc hns hnx hr hk0 (by have := hs.len; omega) hs.cnt hs.bd (by omega) (hs.mid (by omega))
theorem laid_shape {d : Nat} {n : Nd} (h : ShN d n) (next : Int) (ad : List Nd) (ahead : Str) : (laidOf next ad n ahead).1.length ≤ 2 ∧ KLen (laidOf next ad n ahead).1 ∧ (∀ b r, (laidOf next ad n ahead).1 = b :: r → b.1 = ahead) ∧ ((laidOf next ad n ahead).1 = [] → n.keys = []) := by
 unfold laidOf
 split
 ·rename_i h0
  exact ⟨by simp, (fun b hb => by cases hb), (fun b r e => by cases e), fun _ => List.eq_nil_of_length_eq_zero h0⟩
 ·split
  ·exact ⟨by simp, (fun b hb => by cases hb), (fun b r e => by simp at e; rw [← e.1]), (fun e => by simp at e)⟩
  ·rename_i h0 h1
   refine ⟨by simp, fun b hb => ?_, (fun b r e => by simp at e; rw [← e.1]), (fun e => by simp at e)⟩
   simp only [List.tail_cons, List.mem_singleton] at hb
   subst hb
   have hm := h.ok.mid (by omega)
   cases d with
   | zero =>
    obtain ⟨ps, rfl, hp, hs⟩ := h
    have hml : midOf (lf ps) < ps.length := by simpa [lf] using hm
    have e : (lf ps).keys.getD (midOf (lf ps)) [] = (ps[midOf (lf ps)]'hml).1 := by
     rw [List.getD_eq_getElem?_getD]
     show ((ps.map (·.1))[midOf (lf ps)]?).getD [] = _
     rw [List.getElem?_map, List.getElem?_eq_getElem hml]; rfl
    show 1 ≤ ((lf ps).keys.getD (midOf (lf ps)) []).length ∧ _
    rw [e]
    exact (hp.2 _ (List.getElem_mem hml)).1
   | succ d =>
    obtain ⟨bs, rfl, hb0, hk, hs⟩ := h
    have hml : midOf (inr bs) < bs.tail.length := by simpa [inr] using hm
    have e : (inr bs).keys.getD (midOf (inr bs)) [] = (bs.tail[midOf (inr bs)]'hml).1 := by
     rw [List.getD_eq_getElem?_getD]
     show ((bs.tail.map (·.1))[midOf (inr bs)]?).getD [] = _
     rw [List.getElem?_map, List.getElem?_eq_getElem hml]; rfl
    show 1 ≤ ((inr bs).keys.getD (midOf (inr bs)) []).length ∧ _
    rw [e]
    exact hk _ (List.getElem_mem hml)
theorem rplc_shape {P S Y now : List Br} {y : Br} (hb : KLen (P ++ (y :: Y) ++ S)) (hs : nsize (inr (P ++ (y :: Y) ++ S)) ≤ 244) (hn : now.length ≤ 2) (hk : KLen now) (hf : ∀ b r, now = b :: r → b.1 = y.1) (h0 : P ++ now ++ S ≠ []) (d : Nat) : ShN (d + 1) (inr (P ++ now ++ S)) := by
 have hpn : P ++ (y :: Y) ++ S ≠ [] := by simp
 rw [nsize_tail hpn] at hs
 refine ⟨_, rfl, h0, fun b hb9 => ?_, ?_⟩
 ·cases P with
  | nil =>
   cases now with
   | nil => exact hb b (by simp only [List.nil_append, List.cons_append, List.tail_cons, List.mem_append] at hb9 ⊢; exact .inr (List.mem_of_mem_tail hb9))
   | cons z r =>
    simp only [List.nil_append, List.cons_append, List.tail_cons, List.mem_append] at hb9
    rcases hb9 with h | h
    ·exact hk b (by simpa using h)
    ·exact hb b (by simp [h])
  | cons p P =>
   simp only [List.cons_append, List.tail_cons, List.mem_append] at hb9
   rcases hb9 with (h | h) | h
   ·exact hb b (by simp [h])
   ·cases now with
    | nil => cases h
    | cons z r =>
     rcases List.mem_cons.1 h with rfl | h
     ·rw [hf _ _ rfl]; exact hb y (by simp)
     ·exact hk b (by simpa using h)
   ·exact hb b (by simp [h])
 ·rw [nsize_tail h0]
  cases now with
  | nil =>
   cases P with
   | nil =>
    have : tw S.tail ≤ tw S := by cases S with | nil => simp [tw] | cons a r => simp [tw]
    simp only [List.nil_append, List.cons_append, List.tail_cons, tw_app] at hs ⊢
    push_cast at hs ⊢; omega
   | cons p P => simp only [List.cons_append, List.tail_cons, tw_app, List.append_nil] at hs ⊢; push_cast at hs ⊢; omega
  | cons z r =>
   have hr : tw r ≤ 37 := by
    have h1 := tw_le (bs := r) (fun b hb9 => (hk b (by simpa using hb9)).2)
    have h2 := hn
    simp only [List.length_cons] at h2
    have : 37 * r.length ≤ 37 := by omega
    omega
   cases P with
   | nil => simp only [List.nil_append, List.cons_append, List.tail_cons, tw_app] at hs ⊢; push_cast at hs ⊢; omega
   | cons p P =>
    have e1 : tw (z :: r) = bw y + tw r := by simp [tw, bw, hf _ _ rfl]
    have e2 : tw (y :: Y) = bw y + tw Y := by simp [tw, bw]
    simp only [List.cons_append, List.tail_cons, tw_app, e1, e2] at hs ⊢; push_cast at hs ⊢; omega
end Go.Proofs.YtpiikmkajckccaaGreat

namespace Go.Proofs.YtpiikmkajckccaaGreat
open Go.RowKit
structure Way (l : List Wrt) (d : Nat) (n : Nd) (key : Str) (k : Nat) (P : List Br) (X : Br) (S : List Br) (nd : Nd) (lo' : Str) (hi' : Option Str) : Prop where
 fnd : nfind n key = (k : Int)
 brs : brs n = P ++ [X] ++ S
 len : P.length = k
 kid : n.kids[k]? = some X.2
 isn : NdIs l X.2 nd
 no : NO l d nd lo' hi'
 kl : KLen (P ++ [X] ++ S)
 two : 2 ≤ (P ++ [X] ++ S).length
 sib : ∀ (i : Nat) (b : Br), (P ++ [X] ++ S)[i]? = some b → n.kids[i]? = some b.2 ∧ ∃ sb lo hi, NdIs l b.2 sb ∧ NO l d sb lo hi
 keys : ∀ (i : Nat) (b : Br), (P ++ [X] ++ S)[i + 1]? = some b → n.keys[i]? = some b.1
 prs : nP l (d + 1) n = sprs l d P ++ nP l d nd ++ sprs l d S
 lt : ∀ y ∈ sprs l d P, slt y.1 key = true
 gt : ∀ y ∈ sprs l d S, slt key y.1 = true
 ids : ∀ i ∈ idsOf l d X.2, i ∈ nI l (d + 1) n
theorem way_of {l : List Wrt} {d : Nat} {n : Nd} {lo : Str} {hi : Option Str} (hN : NO l (d + 1) n lo hi) (hsz : nsize n ≤ 244) (hkn : n.keys ≠ []) (key : Str) : ∃ k P X S nd lo' hi', Way l d n key k P X S nd lo' hi' := by
 have hok : NOk n := hN.ok hkn hsz
 obtain ⟨en, hb, hs, e1, e2⟩ := no_brs hN
 have hz := (ncheck_ok n).2 hok
 obtain ⟨k, f1, f2, f3, f4⟩ := nfnd_inner key n.keys (nkeys_to hok.1).1
 have hlf : n.leaf = false := by have := hN.leaf; simpa using this
 have hfk : nfind n key = (k : Int) := by unfold nfind; rw [if_pos hz, hlf, f1]
 have hkids := kids_len hok hlf
 have hbl : (brs n).length = n.kids.length := brs_len hkids
 have hkl : k < (brs n).length := by omega
 have hkeys : n.keys = (brs n).tail.map (·.1) := by
  have := congrArg Nd.keys en
  exact this
 have hkd : n.kids = (brs n).map (·.2) := by
  have := congrArg Nd.kids en
  exact this
 have eb := split_at hkl
 have eb' : brs n = (brs n).take k ++ [(brs n)[k]] ++ (brs n).drop (k + 1) := by
  rw [List.append_assoc]
  exact eb
 have hn2 : 2 ≤ (brs n).length := by
  have : n.keys.length ≠ 0 := fun h => hkn (List.eq_nil_of_length_eq_zero h)
  omega
 have hX := hs.each (brs n)[k] (List.getElem_mem hkl)
 obtain ⟨lo', hi', hT⟩ := hX
 obtain ⟨nd, hNd, hNO, hni, hnp⟩ := tok_no hT
 have hXX : ∀ j c, (brs n)[j + 1]? = some c → n.keys[j]? = some c.1 := fun j c h => by rw [hkeys, List.getElem?_map, List.getElem?_tail, h]; rfl
 have hs3 := hs
 rw [eb', seg3] at hs3
 obtain ⟨s1, s2, s3⟩ := hs3
 refine ⟨k, (brs n).take k, (brs n)[k], (brs n).drop (k + 1), nd, lo', hi', hfk, eb', by rw [List.length_take]; omega, by rw [hkd]; simp [hkl], hNd, hNO, by rw [← eb']; exact hb.1, by rw [← eb']; exact hn2, fun i b hi9 => ?_, fun i b hi9 => ?_, ?_, ?_, ?_, ?_⟩
 ·rw [← eb'] at hi9
  refine ⟨by rw [hkd, List.getElem?_map, hi9]; rfl, ?_⟩
  obtain ⟨lo2, hi2, hT2⟩ := hs.each b (List.mem_of_getElem? hi9)
  obtain ⟨sb, h1, h2, _⟩ := tok_no hT2
  exact ⟨sb, lo2, hi2, h1, h2⟩
 ·rw [← eb'] at hi9
  rw [hkeys, List.getElem?_map, List.getElem?_tail, hi9]; rfl
 ·rw [e1, ← hnp]
  conv => lhs; rw [eb', sprs_app, sprs_app]
  simp [sprs]
 ·intro y hy
  rcases s1 with s1 | s1
  ·rw [s1] at hy; simp [sprs] at hy
  ·have h9 := Seg.kin s1 y hy
   simp only [Go.Proofs.YtpiikmkajckccaaGreat.kin, Bool.and_eq_true] at h9
   have hk1 : 0 < k := by
    have hne := s1.ne
    rcases Nat.eq_zero_or_pos k with h | h
    ·subst h; simp at hne
    ·exact h
   exact slt_lt_le h9.2 (f3 (k - 1) _ (by omega) (hXX (k - 1) _ (by rw [show k - 1 + 1 = k by omega]; exact List.getElem?_eq_getElem hkl)))
 ·intro y hy
  rcases s3 with s3 | ⟨c, r, hcr, s3⟩
  ·rw [s3] at hy; simp [sprs] at hy
  ·have h9 := Seg.kin s3 y hy
   simp only [Go.Proofs.YtpiikmkajckccaaGreat.kin, Bool.and_eq_true, Bool.not_eq_true'] at h9
   have hc9 : (brs n)[k + 1]? = some c := by
    have : ((brs n).drop (k + 1))[0]? = some c := by rw [hcr]; rfl
    rw [List.getElem?_drop] at this
    simpa using this
   exact slt_lt_le (f4 k c.1 (Nat.le_refl _) (hXX k c hc9)) h9.1
 ·intro i hi9
  rw [e2]
  exact List.mem_flatMap.2 ⟨(brs n)[k], List.getElem_mem hkl, hi9⟩
theorem NdIs.small {l : List Wrt} {id : Int} {nd : Nd} {d : Nat} {lo : Str} {hi : Option Str} (h : NdIs l id nd) (hN : NO l d nd lo hi) : nsize nd ≤ 244 ∧ (d ≠ 0 → nd.keys ≠ []) := by
 refine ⟨h.ok.2.2.2.2, fun h9 => ?_⟩
 have hl9 : nd.leaf = false := by rw [hN.leaf]; simpa using h9
 obtain ⟨a, b, c⟩ := inr_to h.ok hl9
 rw [a]
 intro h
 have h7 : (Go.Proofs.YtpiikmkajckccaaGreat.brs nd).tail.map (·.1) = [] := h
 exact c (List.map_eq_nil_iff.1 h7)
theorem sh_bare {d : Nat} {m : Nd} (h : ShN d m) (hb : bareB m = true) : ∃ e b, d = e + 1 ∧ m.kids.headD 0 = b ∧ brs m = [([], b)] ∧ m.kids.length = m.keys.length + 1 ∧ m.keys = [] := by
 unfold bareB at hb
 simp only [Bool.and_eq_true, Bool.not_eq_true', decide_eq_true_eq] at hb
 have hk : m.keys = [] := List.eq_nil_of_length_eq_zero hb.2
 cases d with
 | zero =>
  obtain ⟨ps, rfl, _⟩ := h
  cases hb.1
 | succ e =>
  refine ⟨e, _, rfl, rfl, ?_, ?_, hk⟩
  ·show ([], m.kids.headD 0) :: m.keys.zip m.kids.tail = _
   rw [hk]; rfl
  ·rcases h.ok.cnt with h9 | h9
   ·rw [hb.1] at h9; cases h9.1
   ·exact h9.2
theorem join_shape {l : List Wrt} {d : Nat} {n : Nd} {key : Str} {k : Nat} {P S : List Br} {X : Br} {nd : Nd} {lo' : Str} {hi' : Option Str} (W : Way l d n key k P X S nd lo' hi') {m : Nd} (ih : ShN d m) (hbare : bareB m = true) : ShN d (joinOf l n (k - 1) k m) := by
 have hbX : (P ++ [X] ++ S)[k]? = some X := by rw [List.append_assoc, List.getElem?_append_right (by rw [W.len]; exact Nat.le_refl _), W.len]; simp
 obtain ⟨e, b, rfl, hb0, hb1, hb2, hb3⟩ := sh_bare ih hbare
 by_cases hk1 : k = 0
 ·subst hk1
  have hP0 : P = [] := List.eq_nil_of_length_eq_zero W.len
  subst hP0
  cases S with
  | nil => have := W.two; simp at this
  | cons c r =>
   have hc1 : ([] ++ [X] ++ c :: r : List Br)[1]? = some c := rfl
   obtain ⟨hs1, sb, lo2, hi2, hsb, hsn⟩ := W.sib 1 c hc1
   have hkey := W.keys 0 c hc1
   have hjn : joinOf l n (0 - 1) 0 m = inr ([([], b)] ++ (c.1, sb.kids.headD 0) :: (brs sb).tail) := by
    unfold joinOf
    simp only [Nat.zero_sub, if_true, Nat.zero_add]
    have q1 : n.kids.getD 1 0 = c.2 := by rw [List.getD_eq_getElem?_getD, hs1]; rfl
    have q2 : n.keys.getD 0 [] = c.1 := by rw [List.getD_eq_getElem?_getD, hkey]; rfl
    rw [q1, q2, hb1, hsb.at]
   rw [hjn]
   have hlb : sb.leaf = false := by have := hsn.leaf; simpa using this
   obtain ⟨g1, g2, g3⟩ := inr_to hsb.ok hlb
   refine ⟨_, rfl, by simp, fun x hx9 => ?_, ?_⟩
   ·simp only [List.cons_append, List.nil_append, List.tail_cons, List.mem_cons] at hx9
    rcases hx9 with rfl | hx9
    ·exact W.kl c (by simp)
    ·exact g2.1 x hx9
   ·rw [List.cons_append, List.nil_append, nsize_tail (by simp)]
    have h7 := hsb.ok.2.2.2.2
    have h8 : 1 ≤ c.1.length ∧ c.1.length ≤ 32 := W.kl c (by simp)
    rw [g1, nsize_tail (by unfold Go.Proofs.YtpiikmkajckccaaGreat.brs; simp)] at h7
    simp only [List.tail_cons, tw, List.map_cons, List.sum_cons, bw] at h7 ⊢
    push_cast
    omega
 ·obtain ⟨P', c, rfl⟩ : ∃ P' c, P = P' ++ [c] := by
   rcases List.eq_nil_or_concat P with h | ⟨P', c, h⟩
   ·subst h; have := W.len; simp at this; omega
   ·exact ⟨P', c, by simpa using h⟩
  have hPl' : P'.length = k - 1 := by have := W.len; simp at this; omega
  have ebs : P' ++ [c] ++ [X] ++ S = P' ++ (c :: [X]) ++ S := by simp
  have hc1 : (P' ++ [c] ++ [X] ++ S)[k - 1]? = some c := by rw [ebs, List.append_assoc, List.getElem?_append_right (by omega), hPl']; simp
  have hk2 : k - 1 + 1 = k := by omega
  obtain ⟨hs1, sb, lo2, hi2, hsb, hsn⟩ := W.sib (k - 1) c hc1
  have hkey := W.keys (k - 1) X (by rw [hk2]; exact hbX)
  have hjn : joinOf l n (k - 1) k m = inr (brs sb ++ [(X.1, b)]) := by
   unfold joinOf
   rw [if_neg (by omega), if_neg (by omega)]
   have q1 : n.kids.getD (k - 1) 0 = c.2 := by rw [List.getD_eq_getElem?_getD, hs1]; rfl
   have q2 : n.keys.getD (k - 1) [] = X.1 := by rw [List.getD_eq_getElem?_getD, hkey]; rfl
   rw [q1, q2, hb1, hb0, hsb.at]; rfl
  rw [hjn]
  have hlb : sb.leaf = false := by have := hsn.leaf; simpa using this
  obtain ⟨g1, g2, g3⟩ := inr_to hsb.ok hlb
  have hXk : 1 ≤ X.1.length ∧ X.1.length ≤ 32 := W.kl X (by cases P' <;> simp)
  refine ⟨_, rfl, by simp, fun x hx9 => ?_, ?_⟩
  ·have hx8 : x ∈ (brs sb).tail ∨ x = (X.1, b) := by
    unfold Go.Proofs.YtpiikmkajckccaaGreat.brs at hx9 ⊢
    simpa using hx9
   rcases hx8 with hx8 | rfl
   ·exact g2.1 x hx8
   ·exact hXk
  ·rw [nsize_tail (by simp)]
   have h7 := hsb.ok.2.2.2.2
   rw [g1, nsize_tail (by unfold Go.Proofs.YtpiikmkajckccaaGreat.brs; simp)] at h7
   have h6 : (brs sb ++ [(X.1, b)]).tail = (brs sb).tail ++ [(X.1, b)] := by unfold Go.Proofs.YtpiikmkajckccaaGreat.brs; simp
   rw [h6, tw_app]
   simp only [tw, List.map_cons, List.map_nil, List.sum_cons, List.sum_nil, bw] at h7 ⊢
   push_cast
   omega
theorem reb_shape {l : List Wrt} {next : Int} {key : Str} {upd : List Pr → List Pr} {ed : Nd → Nd} (hE : EdOk key upd ed) :
  ∀ (d : Nat) (n : Nd) (lo : Str) (hi : Option Str) (ad : List Nd), NO l d n lo hi → nsize n ≤ 244 → (d ≠ 0 → n.keys ≠ []) → ShN d (rebOf l next key ed d n ad).1
 | 0, n, lo, hi, ad, hN, hsz, _ => by
  obtain ⟨ps, rfl, hp, hin⟩ := hN
  obtain ⟨e, a1, a2, a3⟩ := hE.leaf ps hp hsz
  show ShN 0 (ed (lf ps))
  rw [e]
  exact ⟨_, rfl, a1, a2⟩
 | d + 1, n, lo, hi, ad, hN, hsz, hk0 => by
  obtain ⟨k, P, X, S, nd, lo', hi', W⟩ := way_of hN hsz (hk0 (by omega)) key
  obtain ⟨en, _⟩ := no_brs hN
  have hfk : (nfind n key).toNat = k := by rw [W.fnd]; simp
  have hsm := W.isn.small W.no
  have ih := reb_shape (next := next) hE d nd lo' hi' ad W.no hsm.1 hsm.2
  simp only [rebOf]
  rw [hfk]
  have hgk : n.kids.getD k 0 = X.2 := by rw [List.getD_eq_getElem?_getD, W.kid]; rfl
  rw [hgk, W.isn.at]
  obtain ⟨⟨m, ad1⟩, hp⟩ : ∃ p, p = rebOf l next key ed d nd ad := ⟨_, rfl⟩
  rw [← hp] at ih ⊢
  dsimp only at ih ⊢
  have hbX : (P ++ [X] ++ S)[k]? = some X := by rw [List.append_assoc, List.getElem?_append_right (by rw [W.len]; exact Nat.le_refl _), W.len]; simp
  rw [en, W.brs] at hsz
  rw [W.brs]
  by_cases hbare : bareB m = true
  ·rw [if_pos hbare]
   dsimp only
   obtain ⟨e, b, rfl, hb0, hb1, hb2, hb3⟩ := sh_bare ih hbare
   by_cases hk1 : k = 0
   ·subst hk1
    have hP0 : P = [] := List.eq_nil_of_length_eq_zero W.len
    subst hP0
    cases S with
    | nil => have := W.two; simp at this
    | cons c r =>
     have hc1 : ([] ++ [X] ++ c :: r : List Br)[1]? = some c := rfl
     obtain ⟨hs1, sb, lo2, hi2, hsb, hsn⟩ := W.sib 1 c hc1
     have hkey := W.keys 0 c hc1
     have hjn : joinOf l n (0 - 1) 0 m = inr ([([], b)] ++ (c.1, sb.kids.headD 0) :: (brs sb).tail) := by
      unfold joinOf
      simp only [Nat.zero_sub, if_true, Nat.zero_add]
      have q1 : n.kids.getD 1 0 = c.2 := by rw [List.getD_eq_getElem?_getD, hs1]; rfl
      have q2 : n.keys.getD 0 [] = c.1 := by rw [List.getD_eq_getElem?_getD, hkey]; rfl
      rw [q1, q2, hb1, hsb.at]
     have hJ : ShN (e + 1) (joinOf l n (0 - 1) 0 m) := by
      rw [hjn]
      have hlb : sb.leaf = false := by have := hsn.leaf; simpa using this
      obtain ⟨g1, g2, g3⟩ := inr_to hsb.ok hlb
      refine ⟨_, rfl, by simp, fun x hx9 => ?_, ?_⟩
      ·simp only [List.cons_append, List.nil_append, List.tail_cons, List.mem_cons] at hx9
       rcases hx9 with rfl | hx9
       ·exact W.kl c (by simp)
       ·exact g2.1 x hx9
      ·rw [List.cons_append, List.nil_append, nsize_tail (by simp)]
       have h7 := hsb.ok.2.2.2.2
       have h8 : 1 ≤ c.1.length ∧ c.1.length ≤ 32 := W.kl c (by simp)
       rw [g1, nsize_tail (by unfold Go.Proofs.YtpiikmkajckccaaGreat.brs; simp)] at h7
       simp only [List.tail_cons, tw, List.map_cons, List.sum_cons, bw] at h7 ⊢
       push_cast
       omega
     have hJk : (joinOf l n (0 - 1) 0 m).keys ≠ [] := by rw [hjn]; simp [inr]
     obtain ⟨l1, l2, l3, l4⟩ := laid_shape hJ next ad1 (([] ++ [X] ++ c :: r : List Br).getD (0 - 1) ([], 0)).1
     obtain ⟨q, hq⟩ : ∃ q, q = laidOf next ad1 (joinOf l n (0 - 1) 0 m) (([] ++ [X] ++ c :: r : List Br).getD (0 - 1) ([], 0)).1 := ⟨_, rfl⟩
     rw [← hq] at l1 l2 l3 l4 ⊢
     have hrp : rplc ([] ++ [X] ++ c :: r) (0 - 1) (0 - 1 + 2) q.1 = [] ++ q.1 ++ r := rplc_mid (P := []) (Y := [X, c]) rfl rfl
     rw [hrp]
     exact rplc_shape (P := []) (y := X) (Y := [c]) (S := r) W.kl hsz l1 l2 (fun b' r' e' => l3 b' r' e') (fun e9 => by
      have := List.append_eq_nil_iff.1 e9
      exact hJk (l4 (by simpa using this.1))) (e + 1)
   ·obtain ⟨P', c, rfl⟩ : ∃ P' c, P = P' ++ [c] := by
     rcases List.eq_nil_or_concat P with h | ⟨P', c, h⟩
     ·subst h; have := W.len; simp at this; omega
     ·exact ⟨P', c, by simpa using h⟩
    have hPl' : P'.length = k - 1 := by have := W.len; simp at this; omega
    have ebs : P' ++ [c] ++ [X] ++ S = P' ++ (c :: [X]) ++ S := by simp
    have hc1 : (P' ++ [c] ++ [X] ++ S)[k - 1]? = some c := by rw [ebs, List.append_assoc, List.getElem?_append_right (by omega), hPl']; simp
    have hk2 : k - 1 + 1 = k := by omega
    obtain ⟨hs1, sb, lo2, hi2, hsb, hsn⟩ := W.sib (k - 1) c hc1
    have hkey := W.keys (k - 1) X (by rw [hk2]; exact hbX)
    have hjn : joinOf l n (k - 1) k m = inr (brs sb ++ [(X.1, b)]) := by
     unfold joinOf
     rw [if_neg (by omega), if_neg (by omega)]
     have q1 : n.kids.getD (k - 1) 0 = c.2 := by rw [List.getD_eq_getElem?_getD, hs1]; rfl
     have q2 : n.keys.getD (k - 1) [] = X.1 := by rw [List.getD_eq_getElem?_getD, hkey]; rfl
     rw [q1, q2, hb1, hb0, hsb.at]; rfl
    have hJ : ShN (e + 1) (joinOf l n (k - 1) k m) := by
     rw [hjn]
     have hlb : sb.leaf = false := by have := hsn.leaf; simpa using this
     obtain ⟨g1, g2, g3⟩ := inr_to hsb.ok hlb
     have hXk : 1 ≤ X.1.length ∧ X.1.length ≤ 32 := W.kl X (by cases P' <;> simp)
     refine ⟨_, rfl, by simp, fun x hx9 => ?_, ?_⟩
     ·have hx8 : x ∈ (brs sb).tail ∨ x = (X.1, b) := by
       unfold Go.Proofs.YtpiikmkajckccaaGreat.brs at hx9 ⊢
       simpa using hx9
      rcases hx8 with hx8 | rfl
      ·exact g2.1 x hx8
      ·exact hXk
     ·rw [nsize_tail (by simp)]
      have h7 := hsb.ok.2.2.2.2
      rw [g1, nsize_tail (by unfold Go.Proofs.YtpiikmkajckccaaGreat.brs; simp)] at h7
      have h6 : (brs sb ++ [(X.1, b)]).tail = (brs sb).tail ++ [(X.1, b)] := by unfold Go.Proofs.YtpiikmkajckccaaGreat.brs; simp
      rw [h6, tw_app]
      simp only [tw, List.map_cons, List.map_nil, List.sum_cons, List.sum_nil, bw] at h7 ⊢
      push_cast
      omega
    have hJk : (joinOf l n (k - 1) k m).keys ≠ [] := by rw [hjn]; unfold Go.Proofs.YtpiikmkajckccaaGreat.brs; simp [inr]
    have hga : ((P' ++ [c] ++ [X] ++ S).getD (k - 1) ([], 0)).1 = c.1 := by rw [List.getD_eq_getElem?_getD, hc1]; rfl
    rw [hga]
    obtain ⟨l1, l2, l3, l4⟩ := laid_shape hJ next ad1 c.1
    obtain ⟨q, hq⟩ : ∃ q, q = laidOf next ad1 (joinOf l n (k - 1) k m) c.1 := ⟨_, rfl⟩
    rw [← hq] at l1 l2 l3 l4 ⊢
    have hkl := W.kl
    rw [ebs] at hkl hsz ⊢
    rw [rplc_mid hPl' (by rw [hPl']; rfl)]
    exact rplc_shape hkl hsz l1 l2 l3 (fun e9 => by
     have := List.append_eq_nil_iff.1 (List.append_eq_nil_iff.1 e9).1
     exact hJk (l4 this.2)) (e + 1)
  ·rw [if_neg hbare]
   dsimp only
   have hga : ((P ++ [X] ++ S).getD k ([], 0)).1 = X.1 := by rw [List.getD_eq_getElem?_getD, hbX]; rfl
   rw [hga]
   obtain ⟨l1, l2, l3, l4⟩ := laid_shape ih next ad1 X.1
   obtain ⟨q, hq⟩ : ∃ q, q = laidOf next ad1 m X.1 := ⟨_, rfl⟩
   rw [← hq] at l1 l2 l3 l4 ⊢
   rw [rplc_mid W.len (by rw [W.len]; rfl)]
   refine rplc_shape W.kl hsz l1 l2 l3 (fun e9 => ?_) d
   have h1 := List.append_eq_nil_iff.1 e9
   have h2 := List.append_eq_nil_iff.1 h1.1
   have := W.two
   rw [h2.1, h1.2] at this
   simp at this
end Go.Proofs.YtpiikmkajckccaaGreat

namespace Go.Proofs.YtpiikmkajckccaaGreat
open Go.RowKit
structure ChM (w : World) (gc g bm k : Nat) (m : Int → Option Value) : Prop where
 c : w.cell? ⟨gc, 0, none⟩ = some (.pointer (some ⟨g, 0, none⟩))
 s : w.cell? ⟨g, 3, none⟩ = some (.map (some bm))
 map : MapI w bm k m
theorem ChM.to {w w' : World} {gc g bm k : Nat} {m : Int → Option Value} (h : ChM w gc g bm k m) (b : Below w.heap.size w w') : ChM w' gc g bm k m :=
 ⟨(b.cell (cell_lt h.c)).trans h.c, (b.cell (cell_lt h.s)).trans h.s, h.map.kept (b.block _ h.map.lt)⟩
theorem OwnBr.first {B : Nat} {w : World} {v : Value} {y : Br} {r : List Br} (h : OwnBr B w v (y :: r)) (x : Str) : ∃ g cap, v = .slice (some ⟨g, 0, none⟩) (r.length + 1) cap ∧ B ≤ g ∧ OwnBr B (w.setCell ⟨g, 0, none⟩ (st x)) v ((x, y.2) :: r) ∧ (∀ b, b ≠ g → (w.setCell ⟨g, 0, none⟩ (st x)).heap[b]? = w.heap[b]?) ∧ w.cell? ⟨g, 0, none⟩ = some (st y.1) ∧ w.frozen? ⟨g, 0, none⟩ = false := by
 obtain ⟨g, cap, cur, e, hB, hg, hk, hm, hs, ht⟩ := own_block h (by simp)
 have e0 : cur.toList = [st y.1, .int .i64 y.2] ++ bcl r ++ cur.toList.drop ((y :: r).length * 2) := by
  conv => lhs; rw [← List.take_append_drop ((y :: r).length * 2) cur.toList, ht]
  rfl
 refine ⟨g, cap, e, hB, ⟨by rw [bcl_len], .inr ⟨g, cap, _, e, hB, heap_setN hg 0 (st x), hk, hm, by simpa using hs, ?_⟩⟩, fun b hb => Below.heap_setCell _ _ _ _ hb, ?_, frozN hg 0⟩
 ·rw [Array.toList_setIfInBounds, e0]
  show ([st x, .int .i64 y.2] ++ bcl r ++ _).take _ = _
  rw [List.take_left' (by rw [List.length_append, bcl_len]; simp; omega)]
  rfl
 ·refine cellN hg ?_
  have : cur.toList[0]? = some (st y.1) := by rw [e0]; rfl
  simpa using this
theorem wpList_appBs {ops : Array Oper} {rest : List Oper} {o : Oper} {a : Act} {w : World} {Q : Exit → Act → World → Prop} (hgd : o.guard = none) (s x : Operand)
  (ho : o.op = .call { callee := .builtin .append, args := #[s, x], argTypes := #[159, 159] }) (B C : Nat) (v u : Value) (bs cs : List Br) (hs : a.eval s = v) (hx : a.eval x = u)
  (hown : OwnBr B w v bs) (hu : OwnBr C w u cs) (h0 : 0 < cs.length) (hlen : bs.length + cs.length ≤ 10000) (hB : B ≤ w.heap.size)
  (h : ∀ v' w', OwnBr B w' v' (bs ++ cs) → w.grownBy w' v.ownBlock → wpList Tryz.prog ops Q rest (a.put o.dst v') w') : wpList Tryz.prog ops Q (o :: rest) a w := by
 obtain ⟨i0, hi, hz0, hz1, hz2⟩ := info_parts infoBr
 obtain ⟨g, cap, cur, rfl, hC, hg, hk, hm, hcs, ht⟩ := own_block hu h0
 have n2 : ∀ j q, (bcl cs)[j]? = some q → w.cell? ((⟨g, 0, none⟩ : Addr).add j) = some q := fun j q hj => by
  have hjl := (List.getElem?_eq_some_iff.1 hj).1
  rw [bcl_len] at hjl
  rw [Addr.add_lit, cell_rowB hg]
  have : cur.toList[j]? = (bcl cs)[j]? := by rw [← ht, List.getElem?_take, if_pos hjl]
  rw [Nat.zero_add, this, hj]
 refine wpList_append_own _ hgd s x 159 ho B 162 i0 (.agg #[.string ⟨#[]⟩, .int .i64 0]) 2 24 Tryz.underlying159 hi hz0 hz1 hz2 rfl (by decide) v bs.length (bcl bs) hs hown ⟨g, 0, none⟩ cs.length cap (bcl cs) hx (bcl_len _) n2
  (bcl_one _) (by rw [show maxLen = 9223372036854775807 from rfl]; omega) (by omega) hB ?_
 intro v' w' q1 q2 _
 refine h v' w' ?_ q2
 show World.ownsRow _ _ _ _ _ _ _
 rw [bcl_app, List.length_append]
 exact q1
set_option maxRecDepth 100000 in
set_option maxHeartbeats 8000000 in
theorem pjoin_behind (w : World) (gc g bm k : Nat) (m : Int → Option Value) (n a s : Nd) (kv vv dv ak av' ad sk sv sd : Value) (i : Nat) (sid : Int) (key : Str) (hM : ChM w gc g bm k m) (hn : RdN w kv vv dv n) (ha : RdN w ak av' ad a) (hs : RdN w sk sv sd s) (hsid : n.kids[(i + 1)]? = some sid) (hwf : (Lit.int .i64 sid).wf = true) (hm : m sid = some (nv s sk sv sd)) (hkey : n.keys[i]? = some key)
  (hka : a.kids.length = a.keys.length + 1) (hks : s.kids.length = s.keys.length + 1) (hla : a.keys.length ≤ 400) (hls : s.keys.length ≤ 400) (hln : n.kids.length ≤ 1000) :
  Calls Tryz.prog 86 #[.pointer (some ⟨gc, 0, none⟩), nv n kv vv dv, .int .i64 (i : Int), .int .i64 ((i : Int)), nv a ak av' ad] w fun e w' => ∃ kv' dv', e = .returned (nv (inr (brs a ++ (key, s.kids.headD 0) :: (brs s).tail)) kv' (.slice none 0 0) dv') ∧ OwnN w.heap.size w' kv' (.slice none 0 0) dv' (inr (brs a ++ (key, s.kids.headD 0) :: (brs s).tail)) ∧ Below w.heap.size w w' := by
 obtain ⟨ka, kc, va, vc, da, dc, rfl, rfl, rfl⟩ := hn.slices
 obtain ⟨aka, akc, ava, avc, ada, adc, rfl, rfl, rfl⟩ := ha.slices
 obtain ⟨ska, skc, sva, svc, sda, sdc, rfl, rfl, rfl⟩ := hs.slices
 obtain ⟨W1, hW1, D1, b1, s1⟩ := boxedN w #[.bool n.leaf, .slice ka n.keys.length kc, .slice va n.vals.length vc, .slice da n.kids.length dc] 98
 obtain ⟨W2, hW2, D2, b2, s2⟩ := boxedN W1 #[.bool a.leaf, .slice aka a.keys.length akc, .slice ava a.vals.length avc, .slice ada a.kids.length adc] 98
 obtain ⟨X, hX, D3, b3, s3⟩ := boxedN W2 #[.bool false, .slice none 0 0, .slice none 0 0, .slice none 0 0] 98
 have b12 := b1.trans (b2.mono b1.size)
 have bX := b12.trans (b3.mono b12.size)
 have sX : X.heap.size = w.heap.size + 1 + 1 + 1 := by rw [s3, s2, s1]
 rw [s1] at D2
 rw [s2, s1] at D3
 have HX := hide (And.intro ((b3.block _ (lt_of_block ((b2.block _ (lt_of_block D1)).trans D1))).trans ((b2.block _ (lt_of_block D1)).trans D1)) (And.intro ((b3.block _ (lt_of_block D2)).trans D2) (And.intro D3 bX)))
 obtain ⟨db, dO, rfl, hcd⟩ := hn.kids.intAt hsid
 obtain ⟨kb, ko, rfl, hck⟩ := hn.keys.strAt hkey
 have hZ9 : (i + 1) < n.kids.length := (List.getElem?_eq_some_iff.1 hsid).1
 have hK9 : i < n.keys.length := (List.getElem?_eq_some_iff.1 hkey).1
 have HN := hide hn
 have HA := hide ha
 have HS := hide hs
 have HM := hide hM
 obtain ⟨Z, hZ⟩ : ∃ q, q = n.kids.length := ⟨_, rfl⟩
 obtain ⟨KK, hKK⟩ : ∃ q, q = n.keys.length := ⟨_, rfl⟩
 rw [← hZ] at hZ9 hln
 rw [← hKK] at hK9
 simp only [← hZ, ← hKK] at HX hW1
 dsimp only [nv]
 rw [← hZ, ← hKK]
 replace hZ := hide hZ
 replace hKK := hide hKK
 have hka' := hide hka
 have hks' := hide hks
 have hm' := hide hm
 have hwf' := hide hwf
 have hsX := hide sX
 have e1 : IntKind.i64.wrap ((i : Int) + 1) = (i : Int) + 1 := IntWalk.i64_in _ (by omega)
 have e2 : (0 : Int) ≤ (i : Int) + 1 := by omega
 have e3 : ((i : Int) + 1).toNat = i + 1 := by omega
 have e4 : (i : Int) + 1 < (Z : Int) := by omega
 have f1 : ((i : Int) == (i : Int)) = true := by simp
 have f2 : (i : Int) < (Z : Int) := by omega
 have f3 : (i : Int) < (KK : Int) := by omega
 clear hn ha hs hM D1 D2 D3 b1 b2 b3 b12 bX s1 s2 s3 sX hka hks hm hwf hsid hkey
 go_enter Tryz.func86, Tryz.ntmps86
 go_upto_region 1 with fail
 rw [← hW1, ← hW2, ← hX]
 replace hW1 := hide hW1
 replace hW2 := hide hW2
 replace hX := hide hX
 go_cut [11, 12] from 14 to 15 (fun p11 p12 wx => ∃ g11 g12 : Nat, p11 = .pointer (some ⟨g11, 0, none⟩) ∧ p12 = .pointer (some ⟨g12, 0, none⟩) ∧ Hid (X.heap.size ≤ g11 ∧ X.heap.size ≤ g12 ∧ g11 ≠ g12 ∧ Below X.heap.size X wx ∧ wx.heap[g11]? = some (.cells #[.bool a.leaf, .slice aka a.keys.length akc, .slice ava a.vals.length avc, .slice ada a.kids.length adc] 98 (0, 0)) ∧ wx.heap[g12]? = some (.cells #[.bool a.leaf, .slice aka a.keys.length akc, .slice ava a.vals.length avc, .slice ada a.kids.length adc] 98 (0, 0))))
 case first =>
  have b0 : Below X.heap.size X X.drew := below_drewN' X 1 _
  have S0 := (cells4 ((b0.block _ (lt_of_block HX.out.2.1)).trans HX.out.2.1)).1
  have HSS : Hid (∀ w', Below X.heap.size X w' → _) := fun w' q => (cells4 ((q.block _ (lt_of_block HX.out.2.1)).trans HX.out.2.1)).1
  refine wp_region_fan (fun w' => w'.cell? ⟨w.heap.size + 1, 0, none⟩ = some (.bool a.leaf) ∧ w'.cell? ⟨w.heap.size + 1, 1, none⟩ = some (.slice aka a.keys.length akc) ∧ w'.cell? ⟨w.heap.size + 1, 2, none⟩ = some (.slice ava a.vals.length avc) ∧ w'.cell? ⟨w.heap.size + 1, 3, none⟩ = some (.slice ada a.kids.length adc)) 5 mixed (by simp) ?_
  generalize X.drew = c0 at *
  refine fan_take (i := 0) (v := ?_) rfl (by kernel_rfl) (fun _ _ _ _ h => h) (by kernel_rfl) S0 ?_ ?_
  rotate_left
  ·rintro w' ⟨s1, s2, s3, s4⟩
   go_simp
   try with_reducible rfl
  try simp only [Act.put, List.setIfInBounds_toArray, List.set_cons_zero, List.set_cons_succ]
  refine fan_take (i := 1) (v := ?_) rfl (by kernel_rfl) (fun _ _ _ _ h => h) (by kernel_rfl) S0 ?_ ?_
  rotate_left
  ·rintro w' ⟨s1, s2, s3, s4⟩
   go_simp
   try with_reducible rfl
  try simp only [Act.put, List.setIfInBounds_toArray, List.set_cons_zero, List.set_cons_succ]
  refine fan_two 2 3 (by kernel_rfl) ?_ ?_
  ·refine fan_step rfl (by kernel_rfl) fun K' hK' => ?_
   go_simp
   obtain ⟨d1, hc1, E1, q1, r1⟩ := boxedN c0 #[.bool false, .slice none 0 0, .slice none 0 0, .slice none 0 0] 98
   rw [← hc1]
   obtain ⟨x1, hx1⟩ : ∃ q, q = c0.heap.size := ⟨_, rfl⟩
   rw [← hx1] at E1 ⊢
   have bb1 := b0.trans (q1.mono b0.size)
   refine hK' _ _ (HSS.out _ bb1) ?_
   clear hK' K'
   try simp only [Act.put, List.setIfInBounds_toArray, List.set_cons_zero, List.set_cons_succ]
   replace hx1 := hide hx1
   clear hc1 r1
   refine fan_one 3 (by kernel_rfl) ?_
   refine fan_step rfl (by kernel_rfl) fun K' hK' => ?_
   go_simp
   obtain ⟨d2, hc2, E2, q2, r2⟩ := boxedN d1 #[.bool false, .slice none 0 0, .slice none 0 0, .slice none 0 0] 98
   rw [← hc2]
   obtain ⟨x2, hx2⟩ : ∃ q, q = d1.heap.size := ⟨_, rfl⟩
   rw [← hx2] at E2 ⊢
   have bb2 := bb1.trans (q2.mono bb1.size)
   have E1' := (q2.block _ (lt_of_block E1)).trans E1
   have hne : x1 ≠ x2 := by have := lt_of_block E1; omega
   have l1 : X.heap.size ≤ x1 := by have := hx1.out; have := b0.size; omega
   have l2 : X.heap.size ≤ x2 := by have := bb1.size; omega
   refine hK' _ _ (HSS.out _ bb2) ?_
   clear hK' K'
   try simp only [Act.put, List.setIfInBounds_toArray, List.set_cons_zero, List.set_cons_succ]
   replace hx2 := hide hx2
   clear hc2 r2
   obtain ⟨V, hV, v1, v2, v3⟩ := set8 (hne) (E1') (E2) bb2 (l1) (l2) (.bool a.leaf) (.slice aka a.keys.length akc) (.slice ava a.vals.length avc) (.slice ada a.kids.length adc) (.bool a.leaf) (.slice aka a.keys.length akc) (.slice ava a.vals.length avc) (.slice ada a.kids.length adc)
   have FN := hide (And.intro v1 (And.intro v2 v3))
   rw [hV] at FN
   have Z1 := E1'
   have Z2 := keep_set4 E2 (show x2 ≠ x1 by omega) (.bool a.leaf) (.slice aka a.keys.length akc) (.slice ava a.vals.length avc) (.slice ada a.kids.length adc)
   have B2 := keep_set4 ((bb2.block _ (lt_of_block HX.out.2.1)).trans HX.out.2.1) (show w.heap.size + 1 ≠ x1 by have := hsX.out; omega) (.bool a.leaf) (.slice aka a.keys.length akc) (.slice ava a.vals.length avc) (.slice ada a.kids.length adc)
   obtain ⟨⟨y0, y1, y2, y3⟩, yf⟩ := cells4 Z1
   refine fan_one 4 (by kernel_rfl) ?_
   refine fan_step rfl (by kernel_rfl) fun K' hK' => ?_
   clear hV v1 v2 v3
   go_simp
   refine hK' _ _ (cells4 B2).1 ?_
   clear hK' K'
   refine fan_done (by kernel_rfl) ?_
   show wpList _ _ _ _ _ _
   obtain ⟨⟨z0, z1, z2, z3⟩, zf⟩ := cells4 Z2
   dsimp only [List.drop]
   clear y0 y1 y2 y3 yf E1 E1' E2 Z1 Z2 B2 q1 q2 bb1 bb2
   go_wp2_with fail
   go_meet
   exact ⟨_, _, rfl, rfl, hide ⟨l1, l2, hne, FN.out.2.2, FN.out.1, FN.out.2.1⟩⟩
  ·refine fan_step rfl (by kernel_rfl) fun K' hK' => ?_
   go_simp
   obtain ⟨d1, hc1, E1, q1, r1⟩ := boxedN c0 #[.bool false, .slice none 0 0, .slice none 0 0, .slice none 0 0] 98
   rw [← hc1]
   obtain ⟨x1, hx1⟩ : ∃ q, q = c0.heap.size := ⟨_, rfl⟩
   rw [← hx1] at E1 ⊢
   have bb1 := b0.trans (q1.mono b0.size)
   refine hK' _ _ (HSS.out _ bb1) ?_
   clear hK' K'
   try simp only [Act.put, List.setIfInBounds_toArray, List.set_cons_zero, List.set_cons_succ]
   replace hx1 := hide hx1
   clear hc1 r1
   refine fan_one 2 (by kernel_rfl) ?_
   refine fan_step rfl (by kernel_rfl) fun K' hK' => ?_
   go_simp
   obtain ⟨d2, hc2, E2, q2, r2⟩ := boxedN d1 #[.bool false, .slice none 0 0, .slice none 0 0, .slice none 0 0] 98
   rw [← hc2]
   obtain ⟨x2, hx2⟩ : ∃ q, q = d1.heap.size := ⟨_, rfl⟩
   rw [← hx2] at E2 ⊢
   have bb2 := bb1.trans (q2.mono bb1.size)
   have E1' := (q2.block _ (lt_of_block E1)).trans E1
   have hne : x1 ≠ x2 := by have := lt_of_block E1; omega
   have l1 : X.heap.size ≤ x1 := by have := hx1.out; have := b0.size; omega
   have l2 : X.heap.size ≤ x2 := by have := bb1.size; omega
   refine hK' _ _ (HSS.out _ bb2) ?_
   clear hK' K'
   try simp only [Act.put, List.setIfInBounds_toArray, List.set_cons_zero, List.set_cons_succ]
   replace hx2 := hide hx2
   clear hc2 r2
   obtain ⟨V, hV, v1, v2, v3⟩ := set8 (hne.symm) (E2) (E1') bb2 (l2) (l1) (.bool a.leaf) (.slice aka a.keys.length akc) (.slice ava a.vals.length avc) (.slice ada a.kids.length adc) (.bool a.leaf) (.slice aka a.keys.length akc) (.slice ava a.vals.length avc) (.slice ada a.kids.length adc)
   have FN := hide (And.intro v1 (And.intro v2 v3))
   rw [hV] at FN
   have Z1 := E2
   have Z2 := keep_set4 E1' (show x1 ≠ x2 by omega) (.bool a.leaf) (.slice aka a.keys.length akc) (.slice ava a.vals.length avc) (.slice ada a.kids.length adc)
   have B2 := keep_set4 ((bb2.block _ (lt_of_block HX.out.2.1)).trans HX.out.2.1) (show w.heap.size + 1 ≠ x2 by have := hsX.out; omega) (.bool a.leaf) (.slice aka a.keys.length akc) (.slice ava a.vals.length avc) (.slice ada a.kids.length adc)
   obtain ⟨⟨y0, y1, y2, y3⟩, yf⟩ := cells4 Z1
   refine fan_one 4 (by kernel_rfl) ?_
   refine fan_step rfl (by kernel_rfl) fun K' hK' => ?_
   clear hV v1 v2 v3
   go_simp
   refine hK' _ _ (cells4 B2).1 ?_
   clear hK' K'
   refine fan_done (by kernel_rfl) ?_
   show wpList _ _ _ _ _ _
   obtain ⟨⟨z0, z1, z2, z3⟩, zf⟩ := cells4 Z2
   dsimp only [List.drop]
   clear y0 y1 y2 y3 yf E1 E1' E2 Z1 Z2 B2 q1 q2 bb1 bb2
   go_wp2_with fail
   go_meet
   exact ⟨_, _, rfl, rfl, hide ⟨l2, l1, hne.symm, FN.out.2.2, FN.out.1, FN.out.2.1⟩⟩
 case rest =>
  obtain ⟨g11, g12, rfl, rfl, hT⟩ := hcut
  go_upto_region 3 with fail
  obtain ⟨l11, l12, hne, bT, D11, D12⟩ := hT.out
  have b0 : Below wc.heap.size wc wc.drew := below_drewN' wc 1 _
  obtain ⟨c1, hc1⟩ : ∃ c, c = wc.drew := ⟨_, rfl⟩
  rw [← hc1] at b0
  have bTc := bT.trans (b0.mono bT.size)
  have belc := HX.out.2.2.2.trans (bTc.mono HX.out.2.2.2.size)
  have M1 := HM.out.to belc
  have N0 := (bTc.block _ (lt_of_block HX.out.1)).trans HX.out.1
  have R0 := (bTc.block _ (lt_of_block HX.out.2.2.1)).trans HX.out.2.2.1
  have G11 := (b0.block _ (lt_of_block D11)).trans D11
  have G12 := (b0.block _ (lt_of_block D12)).trans D12
  obtain ⟨⟨E0, E1, E2, E3⟩, EF⟩ := cells4 N0
  have kc9 := (belc.cell (cell_lt hcd)).trans hcd
  refine wp_region_mid (fun w' => (w'.cell? ⟨gc, 0, none⟩ = some (.pointer (some ⟨g, 0, none⟩)) ∧ w'.cell? ⟨g, 3, none⟩ = some (.map (some bm)) ∧ w'.cell? ⟨w.heap.size, 3, none⟩ = some (.slice (some ⟨db, dO, none⟩) Z dc)) ∧ w'.cell? ⟨db, dO + (i + 1), none⟩ = some (.int .i64 sid) ∧ MapI w' bm k m) 14 14 mixed (by kernel_rfl) (fun _ _ _ _ h => h) (by rw [← hc1]; exact ⟨⟨M1.c, M1.s, E3⟩, kc9, M1.map⟩) ?_
  rw [← hc1]
  replace hc1 := hide hc1
  dsimp only [List.take, List.drop]
  iterate 14
   refine take_one (v := ?_) (by rfl) ?_ ?_
   rotate_left
   ·rintro w' ⟨⟨s1, s2, s3⟩, s4, s5⟩
    have hlk := s5.look Tryz.underlying107 (zeroNd w') hwf'.out false
    rw [hm'.out] at hlk
    simp only [Option.getD_some, Bool.false_eq_true, if_false] at hlk
    dsimp only [nv] at hlk
    go_simp
    try with_reducible rfl
   try simp only [Act.put, List.setIfInBounds_toArray, List.set_cons_zero, List.set_cons_succ]
  show wpList _ _ _ _ _ _
  obtain ⟨V, hV⟩ : ∃ V, V = S4 g12 c1 (.bool s.leaf) (.slice ska s.keys.length skc) (.slice sva s.vals.length svc) (.slice sda s.kids.length sdc) := ⟨_, rfl⟩
  have hsz := hsX.out
  have VT : V.heap[g12]? = some (.cells #[.bool s.leaf, .slice ska s.keys.length skc, .slice sva s.vals.length svc, .slice sda s.kids.length sdc] 98 (0, 0)) := by rw [hV]; exact heap_set4 G12 _ _ _ _
  have VO : V.heap[g11]? = some (.cells #[.bool a.leaf, .slice aka a.keys.length akc, .slice ava a.vals.length avc, .slice ada a.kids.length adc] 98 (0, 0)) := by rw [hV]; exact keep_set4 G11 (by omega) _ _ _ _
  have VN : V.heap[w.heap.size]? = some (.cells #[.bool n.leaf, .slice (some ⟨kb, ko, none⟩) KK kc, .slice va n.vals.length vc, .slice (some ⟨db, dO, none⟩) Z dc] 98 (0, 0)) := by rw [hV]; exact keep_set4 N0 (by omega) _ _ _ _
  have VR : V.heap[w.heap.size + 1 + 1]? = some (.cells #[.bool false, .slice none 0 0, .slice none 0 0, .slice none 0 0] 98 (0, 0)) := by rw [hV]; exact keep_set4 R0 (by omega) _ _ _ _
  have bV : Below w.heap.size w V := by rw [hV]; exact below_set4n belc (by omega) _ _ _ _
  have KB := hide (pbrs_any V s _ _ _ (HS.out.to bV) hks'.out (by omega))
  have HV := hide (And.intro VN (And.intro VR (And.intro VT (And.intro VO bV))))
  obtain ⟨⟨y0, y1, y2, y3⟩, yf⟩ := cells4 G12
  obtain ⟨⟨t0, t1, t2, t3⟩, tf⟩ := cells4 VT
  rw [hV] at KB t0 t1 t2 t3 tf
  dsimp only [nv] at KB
  clear VT VO VN VR bV M1 N0 R0 belc bTc bT b0 E0 E1 E2 E3 EF kc9 G11 G12 D11 D12
  go_wp2_with fail
  refine KB.out.mono ?_
  rintro e w5 ⟨v5, rfl, o5, b5⟩
  have hV' := hV
  rw [← hV'] at o5 b5
  replace hV := hide hV
  clear KB y0 y1 y2 y3 yf t0 t1 t2 t3 tf hV'
  obtain ⟨VN, VR, VT, VO, bV⟩ := HV.out
  have bw5 := bV.trans (b5.mono bV.size)
  have hbr : brs s = ([], s.kids.headD 0) :: (brs s).tail := rfl
  rw [hbr] at o5
  obtain ⟨gB, capB, rfl, lB, oB, keepB, cB, fB⟩ := OwnBr.first o5 key
  obtain ⟨U, hU⟩ : ∃ U, U = w5.setCell ⟨gB, 0, none⟩ (st key) := ⟨_, rfl⟩
  rw [← hU] at oB keepB
  have N5 := (b5.block _ (lt_of_block VN)).trans VN
  obtain ⟨⟨E0, E1, E2, E3⟩, EF⟩ := cells4 N5
  have ck := (bw5.cell (cell_lt hck)).trans hck
  have bU : Below w.heap.size w U := by rw [hU]; exact bw5.setCell (p := ⟨gB, 0, none⟩) (Nat.le_trans bV.size lB) _
  have hgl : g11 ≠ gB := by have := lt_of_block VO; omega
  have UL := (keepB g11 hgl).trans ((b5.block _ (lt_of_block VO)).trans VO)
  have UR := (keepB (w.heap.size + 1 + 1) (by have := lt_of_block VR; omega)).trans ((b5.block _ (lt_of_block VR)).trans VR)
  have sU : U.heap.size = w5.heap.size := by rw [hU]; simp
  have KL := hide (pbrs_any U a _ _ _ (HA.out.to bU) hka'.out (by omega))
  obtain ⟨⟨t0, t1, t2, t3⟩, tf⟩ := cells4 UL
  have HU := hide (And.intro UR (And.intro oB bU))
  generalize hLB : ((brs s).tail.length + 1) = LB at *
  replace hLB := hide hLB
  have hLB0 : 0 < LB := by have := hLB.out; omega
  rw [hU] at KL t0 t1 t2 t3 tf
  dsimp only [nv] at KL
  clear UL UR oB bU N5 o5 b5 bw5 keepB
  go_wp2_with fail
  refine KL.out.mono ?_
  rintro e w6 ⟨v6, rfl, o6, b6⟩
  rw [← hU] at o6 b6
  replace hU := hide hU
  clear KL t0 t1 t2 t3 tf E0 E1 E2 E3 EF ck cB fB
  obtain ⟨UR, oB, bU⟩ := HU.out
  have oB6 := rows_to oB b6
  obtain ⟨a6, c6, hv6⟩ := o6.slice
  have lt6 : (brs s).tail.length ≤ 400 := by
   have h9 := brs_len hks'.out
   rw [hks'.out, hbr, List.length_cons] at h9
   omega
  have ll6 : (brs a).length ≤ 401 := by rw [brs_len hka'.out, hka'.out]; omega
  have H6 := hide (And.intro ((b6.block _ (lt_of_block UR)).trans UR) (And.intro o6 (bU.trans (b6.mono bU.size))))
  have o6' := hide o6
  have oB6' : Hid (OwnBr V.heap.size w6 (.slice (some ⟨gB, 0, none⟩) LB capB) ((key, s.kids.headD 0) :: (brs s).tail)) := oB6
  have hl6 : U.heap.size ≤ w6.heap.size := b6.size
  have hbU : w.heap.size ≤ U.heap.size := bU.size
  have hbU2 : w.heap.size + 1 + 1 < U.heap.size := lt_of_block UR
  clear oB6 oB UR bU b6 o6
  obtain ⟨LL, hLL⟩ : ∃ q, q = (brs a).length := ⟨_, rfl⟩
  rw [← hLL] at hv6
  replace hLL := hide hLL
  have hl9 : Hid ((brs a).length + ((key, s.kids.headD 0) :: (brs s).tail).length ≤ 10000 ∧ (brs a ++ (key, s.kids.headD 0) :: (brs s).tail).length ≤ 1000) := by
   rw [List.length_append, List.length_cons]
   exact ⟨by omega, by omega⟩
  subst hv6
  clear lt6 ll6
  go_wp2_with (at_builtin; refine wpList_appBs rfl _ _ rfl U.heap.size V.heap.size _ _ _ _ rfl rfl o6'.out oB6'.out (by simp) hl9.out.1 hl6 ?_; intro v7 w7 o7 r7)
  have KI := hide (pinr_any U.heap.size w7 v7 _ o7 hl9.out.2)
  obtain ⟨R6, o6, b6⟩ := H6.out
  have bw7 : Below w.heap.size w w7 := b6.grown r7 (Nat.le_trans hbU hl6) (fun q hq => Nat.le_trans hbU (World.ownsRow.lt o6 q hq).1)
  have R7 : w7.heap[w.heap.size + 1 + 1]? = some (.cells #[.bool false, .slice none 0 0, .slice none 0 0, .slice none 0 0] 98 (0, 0)) := (r7.block _ (lt_of_block R6) (fun e9 => by have := (World.ownsRow.lt o6 _ e9.symm).1; omega)).trans R6
  obtain ⟨a7, c7, hv7⟩ := o7.slice
  obtain ⟨L7, hL7⟩ : ∃ q, q = (brs a ++ (key, s.kids.headD 0) :: (brs s).tail).length := ⟨_, rfl⟩
  rw [← hL7] at hv7
  replace hL7 := hide hL7
  subst hv7
  have H7 := hide (And.intro R7 bw7)
  clear o6 b6 R6 R7 bw7 o7 r7 o6' oB6' H6 HU HV
  go_wp2_with fail
  refine KI.out.mono ?_
  rintro e w8 ⟨kv8, dv8, rfl, o8, b8⟩
  obtain ⟨R7, bw7⟩ := H7.out
  have R8 := (b8.block _ (lt_of_block R7)).trans R7
  have HR8 := hide R8
  obtain ⟨⟨J0, J1, J2, J3⟩, JF⟩ := cells4 R8
  obtain ⟨k8a, k8c, hk8⟩ := o8.keys.rd.slice
  obtain ⟨d8a, d8c, hd8⟩ := o8.kids.rd.slice
  have o8' := hide o8
  have B8 := hide (bw7.trans (b8.mono bw7.size))
  have hw7 : Hid (w.heap.size ≤ w7.heap.size) := bw7.size
  generalize hNN : inr (brs a ++ (key, s.kids.headD 0) :: (brs s).tail) = NN at *
  have hNl : NN.leaf = false := by rw [← hNN]; rfl
  replace hNN := hide hNN
  subst hk8 hd8
  clear o8 b8 R7 bw7 R8 KI H7
  dsimp only [nv]
  go_wp2
  refine retN rfl rfl (w.heap.size + 1 + 1) rfl _ _ (0, 0) (heap_set4 HR8.out _ _ _ _) _ Tryz.underlying98 rfl info_nd10 ?_
  have k1 := fun e (he : e ≠ 98) => s4_keep HR8.out (.bool false) (.slice k8a NN.keys.length k8c) (.slice none 0 0) (.slice d8a NN.kids.length d8c) he
  refine ⟨_, _, rfl, ?_, below_set4n B8.out (by omega) _ _ _ _⟩
  rw [hNN.out]
  exact (o8'.out.mono hw7.out).keepT (k1 _ (by decide)) (k1 _ (by decide))
set_option maxRecDepth 100000 in
set_option maxHeartbeats 8000000 in
theorem pjoin_ahead (w : World) (gc g bm k : Nat) (m : Int → Option Value) (n a s : Nd) (kv vv dv ak av' ad sk sv sd : Value) (i : Nat) (sid : Int) (key : Str) (hM : ChM w gc g bm k m) (hn : RdN w kv vv dv n) (ha : RdN w ak av' ad a) (hs : RdN w sk sv sd s) (hsid : n.kids[i]? = some sid) (hwf : (Lit.int .i64 sid).wf = true) (hm : m sid = some (nv s sk sv sd)) (hkey : n.keys[i]? = some key)
  (hka : a.kids.length = a.keys.length + 1) (hks : s.kids.length = s.keys.length + 1) (hla : a.keys.length ≤ 400) (hls : s.keys.length ≤ 400) (hln : n.kids.length ≤ 1000) :
  Calls Tryz.prog 86 #[.pointer (some ⟨gc, 0, none⟩), nv n kv vv dv, .int .i64 (i : Int), .int .i64 ((i : Int) + 1), nv a ak av' ad] w fun e w' => ∃ kv' dv', e = .returned (nv (inr (brs s ++ (key, a.kids.headD 0) :: (brs a).tail)) kv' (.slice none 0 0) dv') ∧ OwnN w.heap.size w' kv' (.slice none 0 0) dv' (inr (brs s ++ (key, a.kids.headD 0) :: (brs a).tail)) ∧ Below w.heap.size w w' := by
 obtain ⟨ka, kc, va, vc, da, dc, rfl, rfl, rfl⟩ := hn.slices
 obtain ⟨aka, akc, ava, avc, ada, adc, rfl, rfl, rfl⟩ := ha.slices
 obtain ⟨ska, skc, sva, svc, sda, sdc, rfl, rfl, rfl⟩ := hs.slices
 obtain ⟨W1, hW1, D1, b1, s1⟩ := boxedN w #[.bool n.leaf, .slice ka n.keys.length kc, .slice va n.vals.length vc, .slice da n.kids.length dc] 98
 obtain ⟨W2, hW2, D2, b2, s2⟩ := boxedN W1 #[.bool a.leaf, .slice aka a.keys.length akc, .slice ava a.vals.length avc, .slice ada a.kids.length adc] 98
 obtain ⟨X, hX, D3, b3, s3⟩ := boxedN W2 #[.bool false, .slice none 0 0, .slice none 0 0, .slice none 0 0] 98
 have b12 := b1.trans (b2.mono b1.size)
 have bX := b12.trans (b3.mono b12.size)
 have sX : X.heap.size = w.heap.size + 1 + 1 + 1 := by rw [s3, s2, s1]
 rw [s1] at D2
 rw [s2, s1] at D3
 have HX := hide (And.intro ((b3.block _ (lt_of_block ((b2.block _ (lt_of_block D1)).trans D1))).trans ((b2.block _ (lt_of_block D1)).trans D1)) (And.intro ((b3.block _ (lt_of_block D2)).trans D2) (And.intro D3 bX)))
 obtain ⟨db, dO, rfl, hcd⟩ := hn.kids.intAt hsid
 obtain ⟨kb, ko, rfl, hck⟩ := hn.keys.strAt hkey
 have hZ9 : i < n.kids.length := (List.getElem?_eq_some_iff.1 hsid).1
 have hK9 : i < n.keys.length := (List.getElem?_eq_some_iff.1 hkey).1
 have HN := hide hn
 have HA := hide ha
 have HS := hide hs
 have HM := hide hM
 obtain ⟨Z, hZ⟩ : ∃ q, q = n.kids.length := ⟨_, rfl⟩
 obtain ⟨KK, hKK⟩ : ∃ q, q = n.keys.length := ⟨_, rfl⟩
 rw [← hZ] at hZ9 hln
 rw [← hKK] at hK9
 simp only [← hZ, ← hKK] at HX hW1
 dsimp only [nv]
 rw [← hZ, ← hKK]
 replace hZ := hide hZ
 replace hKK := hide hKK
 have hka' := hide hka
 have hks' := hide hks
 have hm' := hide hm
 have hwf' := hide hwf
 have hsX := hide sX
 have f1 : ((i : Int) == (i : Int) + 1) = false := by simp; omega
 have f2 : (i : Int) < (Z : Int) := by omega
 have f3 : (i : Int) < (KK : Int) := by omega
 clear hn ha hs hM D1 D2 D3 b1 b2 b3 b12 bX s1 s2 s3 sX hka hks hm hwf hsid hkey
 go_enter Tryz.func86, Tryz.ntmps86
 go_upto_region 1 with fail
 rw [← hW1, ← hW2, ← hX]
 replace hW1 := hide hW1
 replace hW2 := hide hW2
 replace hX := hide hX
 go_cut [11, 12] from 14 to 15 (fun p11 p12 wx => ∃ g11 g12 : Nat, p11 = .pointer (some ⟨g11, 0, none⟩) ∧ p12 = .pointer (some ⟨g12, 0, none⟩) ∧ Hid (X.heap.size ≤ g11 ∧ X.heap.size ≤ g12 ∧ g11 ≠ g12 ∧ Below X.heap.size X wx ∧ wx.heap[g11]? = some (.cells #[.bool a.leaf, .slice aka a.keys.length akc, .slice ava a.vals.length avc, .slice ada a.kids.length adc] 98 (0, 0)) ∧ wx.heap[g12]? = some (.cells #[.bool a.leaf, .slice aka a.keys.length akc, .slice ava a.vals.length avc, .slice ada a.kids.length adc] 98 (0, 0))))
 case first =>
  have b0 : Below X.heap.size X X.drew := below_drewN' X 1 _
  have S0 := (cells4 ((b0.block _ (lt_of_block HX.out.2.1)).trans HX.out.2.1)).1
  have HSS : Hid (∀ w', Below X.heap.size X w' → _) := fun w' q => (cells4 ((q.block _ (lt_of_block HX.out.2.1)).trans HX.out.2.1)).1
  refine wp_region_fan (fun w' => w'.cell? ⟨w.heap.size + 1, 0, none⟩ = some (.bool a.leaf) ∧ w'.cell? ⟨w.heap.size + 1, 1, none⟩ = some (.slice aka a.keys.length akc) ∧ w'.cell? ⟨w.heap.size + 1, 2, none⟩ = some (.slice ava a.vals.length avc) ∧ w'.cell? ⟨w.heap.size + 1, 3, none⟩ = some (.slice ada a.kids.length adc)) 5 mixed (by simp) ?_
  generalize X.drew = c0 at *
  refine fan_take (i := 0) (v := ?_) rfl (by kernel_rfl) (fun _ _ _ _ h => h) (by kernel_rfl) S0 ?_ ?_
  rotate_left
  ·rintro w' ⟨s1, s2, s3, s4⟩
   go_simp
   try with_reducible rfl
  try simp only [Act.put, List.setIfInBounds_toArray, List.set_cons_zero, List.set_cons_succ]
  refine fan_take (i := 1) (v := ?_) rfl (by kernel_rfl) (fun _ _ _ _ h => h) (by kernel_rfl) S0 ?_ ?_
  rotate_left
  ·rintro w' ⟨s1, s2, s3, s4⟩
   go_simp
   try with_reducible rfl
  try simp only [Act.put, List.setIfInBounds_toArray, List.set_cons_zero, List.set_cons_succ]
  refine fan_two 2 3 (by kernel_rfl) ?_ ?_
  ·refine fan_step rfl (by kernel_rfl) fun K' hK' => ?_
   go_simp
   obtain ⟨d1, hc1, E1, q1, r1⟩ := boxedN c0 #[.bool false, .slice none 0 0, .slice none 0 0, .slice none 0 0] 98
   rw [← hc1]
   obtain ⟨x1, hx1⟩ : ∃ q, q = c0.heap.size := ⟨_, rfl⟩
   rw [← hx1] at E1 ⊢
   have bb1 := b0.trans (q1.mono b0.size)
   refine hK' _ _ (HSS.out _ bb1) ?_
   clear hK' K'
   try simp only [Act.put, List.setIfInBounds_toArray, List.set_cons_zero, List.set_cons_succ]
   replace hx1 := hide hx1
   clear hc1 r1
   refine fan_one 3 (by kernel_rfl) ?_
   refine fan_step rfl (by kernel_rfl) fun K' hK' => ?_
   go_simp
   obtain ⟨d2, hc2, E2, q2, r2⟩ := boxedN d1 #[.bool false, .slice none 0 0, .slice none 0 0, .slice none 0 0] 98
   rw [← hc2]
   obtain ⟨x2, hx2⟩ : ∃ q, q = d1.heap.size := ⟨_, rfl⟩
   rw [← hx2] at E2 ⊢
   have bb2 := bb1.trans (q2.mono bb1.size)
   have E1' := (q2.block _ (lt_of_block E1)).trans E1
   have hne : x1 ≠ x2 := by have := lt_of_block E1; omega
   have l1 : X.heap.size ≤ x1 := by have := hx1.out; have := b0.size; omega
   have l2 : X.heap.size ≤ x2 := by have := bb1.size; omega
   refine hK' _ _ (HSS.out _ bb2) ?_
   clear hK' K'
   try simp only [Act.put, List.setIfInBounds_toArray, List.set_cons_zero, List.set_cons_succ]
   replace hx2 := hide hx2
   clear hc2 r2
   obtain ⟨V, hV, v1, v2, v3⟩ := set8 (hne) (E1') (E2) bb2 (l1) (l2) (.bool a.leaf) (.slice aka a.keys.length akc) (.slice ava a.vals.length avc) (.slice ada a.kids.length adc) (.bool a.leaf) (.slice aka a.keys.length akc) (.slice ava a.vals.length avc) (.slice ada a.kids.length adc)
   have FN := hide (And.intro v1 (And.intro v2 v3))
   rw [hV] at FN
   have Z1 := E1'
   have Z2 := keep_set4 E2 (show x2 ≠ x1 by omega) (.bool a.leaf) (.slice aka a.keys.length akc) (.slice ava a.vals.length avc) (.slice ada a.kids.length adc)
   have B2 := keep_set4 ((bb2.block _ (lt_of_block HX.out.2.1)).trans HX.out.2.1) (show w.heap.size + 1 ≠ x1 by have := hsX.out; omega) (.bool a.leaf) (.slice aka a.keys.length akc) (.slice ava a.vals.length avc) (.slice ada a.kids.length adc)
   obtain ⟨⟨y0, y1, y2, y3⟩, yf⟩ := cells4 Z1
   refine fan_one 4 (by kernel_rfl) ?_
   refine fan_step rfl (by kernel_rfl) fun K' hK' => ?_
   clear hV v1 v2 v3
   go_simp
   refine hK' _ _ (cells4 B2).1 ?_
   clear hK' K'
   refine fan_done (by kernel_rfl) ?_
   show wpList _ _ _ _ _ _
   obtain ⟨⟨z0, z1, z2, z3⟩, zf⟩ := cells4 Z2
   dsimp only [List.drop]
   clear y0 y1 y2 y3 yf E1 E1' E2 Z1 Z2 B2 q1 q2 bb1 bb2
   go_wp2_with fail
   go_meet
   exact ⟨_, _, rfl, rfl, hide ⟨l1, l2, hne, FN.out.2.2, FN.out.1, FN.out.2.1⟩⟩
  ·refine fan_step rfl (by kernel_rfl) fun K' hK' => ?_
   go_simp
   obtain ⟨d1, hc1, E1, q1, r1⟩ := boxedN c0 #[.bool false, .slice none 0 0, .slice none 0 0, .slice none 0 0] 98
   rw [← hc1]
   obtain ⟨x1, hx1⟩ : ∃ q, q = c0.heap.size := ⟨_, rfl⟩
   rw [← hx1] at E1 ⊢
   have bb1 := b0.trans (q1.mono b0.size)
   refine hK' _ _ (HSS.out _ bb1) ?_
   clear hK' K'
   try simp only [Act.put, List.setIfInBounds_toArray, List.set_cons_zero, List.set_cons_succ]
   replace hx1 := hide hx1
   clear hc1 r1
   refine fan_one 2 (by kernel_rfl) ?_
   refine fan_step rfl (by kernel_rfl) fun K' hK' => ?_
   go_simp
   obtain ⟨d2, hc2, E2, q2, r2⟩ := boxedN d1 #[.bool false, .slice none 0 0, .slice none 0 0, .slice none 0 0] 98
   rw [← hc2]
   obtain ⟨x2, hx2⟩ : ∃ q, q = d1.heap.size := ⟨_, rfl⟩
   rw [← hx2] at E2 ⊢
   have bb2 := bb1.trans (q2.mono bb1.size)
   have E1' := (q2.block _ (lt_of_block E1)).trans E1
   have hne : x1 ≠ x2 := by have := lt_of_block E1; omega
   have l1 : X.heap.size ≤ x1 := by have := hx1.out; have := b0.size; omega
   have l2 : X.heap.size ≤ x2 := by have := bb1.size; omega
   refine hK' _ _ (HSS.out _ bb2) ?_
   clear hK' K'
   try simp only [Act.put, List.setIfInBounds_toArray, List.set_cons_zero, List.set_cons_succ]
   replace hx2 := hide hx2
   clear hc2 r2
   obtain ⟨V, hV, v1, v2, v3⟩ := set8 (hne.symm) (E2) (E1') bb2 (l2) (l1) (.bool a.leaf) (.slice aka a.keys.length akc) (.slice ava a.vals.length avc) (.slice ada a.kids.length adc) (.bool a.leaf) (.slice aka a.keys.length akc) (.slice ava a.vals.length avc) (.slice ada a.kids.length adc)
   have FN := hide (And.intro v1 (And.intro v2 v3))
   rw [hV] at FN
   have Z1 := E2
   have Z2 := keep_set4 E1' (show x1 ≠ x2 by omega) (.bool a.leaf) (.slice aka a.keys.length akc) (.slice ava a.vals.length avc) (.slice ada a.kids.length adc)
   have B2 := keep_set4 ((bb2.block _ (lt_of_block HX.out.2.1)).trans HX.out.2.1) (show w.heap.size + 1 ≠ x2 by have := hsX.out; omega) (.bool a.leaf) (.slice aka a.keys.length akc) (.slice ava a.vals.length avc) (.slice ada a.kids.length adc)
   obtain ⟨⟨y0, y1, y2, y3⟩, yf⟩ := cells4 Z1
   refine fan_one 4 (by kernel_rfl) ?_
   refine fan_step rfl (by kernel_rfl) fun K' hK' => ?_
   clear hV v1 v2 v3
   go_simp
   refine hK' _ _ (cells4 B2).1 ?_
   clear hK' K'
   refine fan_done (by kernel_rfl) ?_
   show wpList _ _ _ _ _ _
   obtain ⟨⟨z0, z1, z2, z3⟩, zf⟩ := cells4 Z2
   dsimp only [List.drop]
   clear y0 y1 y2 y3 yf E1 E1' E2 Z1 Z2 B2 q1 q2 bb1 bb2
   go_wp2_with fail
   go_meet
   exact ⟨_, _, rfl, rfl, hide ⟨l2, l1, hne.symm, FN.out.2.2, FN.out.1, FN.out.2.1⟩⟩
 case rest =>
  obtain ⟨g11, g12, rfl, rfl, hT⟩ := hcut
  go_upto_region 4 with fail
  obtain ⟨l11, l12, hne, bT, D11, D12⟩ := hT.out
  have b0 : Below wc.heap.size wc wc.drew := below_drewN' wc 1 _
  obtain ⟨c1, hc1⟩ : ∃ c, c = wc.drew := ⟨_, rfl⟩
  rw [← hc1] at b0
  have bTc := bT.trans (b0.mono bT.size)
  have belc := HX.out.2.2.2.trans (bTc.mono HX.out.2.2.2.size)
  have M1 := HM.out.to belc
  have N0 := (bTc.block _ (lt_of_block HX.out.1)).trans HX.out.1
  have R0 := (bTc.block _ (lt_of_block HX.out.2.2.1)).trans HX.out.2.2.1
  have G11 := (b0.block _ (lt_of_block D11)).trans D11
  have G12 := (b0.block _ (lt_of_block D12)).trans D12
  obtain ⟨⟨E0, E1, E2, E3⟩, EF⟩ := cells4 N0
  have kc9 := (belc.cell (cell_lt hcd)).trans hcd
  refine wp_region_mid (fun w' => (w'.cell? ⟨gc, 0, none⟩ = some (.pointer (some ⟨g, 0, none⟩)) ∧ w'.cell? ⟨g, 3, none⟩ = some (.map (some bm)) ∧ w'.cell? ⟨w.heap.size, 3, none⟩ = some (.slice (some ⟨db, dO, none⟩) Z dc)) ∧ w'.cell? ⟨db, dO + i, none⟩ = some (.int .i64 sid) ∧ MapI w' bm k m) 13 13 mixed (by kernel_rfl) (fun _ _ _ _ h => h) (by rw [← hc1]; exact ⟨⟨M1.c, M1.s, E3⟩, kc9, M1.map⟩) ?_
  rw [← hc1]
  replace hc1 := hide hc1
  dsimp only [List.take, List.drop]
  iterate 13
   refine take_one (v := ?_) (by rfl) ?_ ?_
   rotate_left
   ·rintro w' ⟨⟨s1, s2, s3⟩, s4, s5⟩
    have hlk := s5.look Tryz.underlying107 (zeroNd w') hwf'.out false
    rw [hm'.out] at hlk
    simp only [Option.getD_some, Bool.false_eq_true, if_false] at hlk
    dsimp only [nv] at hlk
    go_simp
    try with_reducible rfl
   try simp only [Act.put, List.setIfInBounds_toArray, List.set_cons_zero, List.set_cons_succ]
  show wpList _ _ _ _ _ _
  obtain ⟨V, hV⟩ : ∃ V, V = S4 g11 c1 (.bool s.leaf) (.slice ska s.keys.length skc) (.slice sva s.vals.length svc) (.slice sda s.kids.length sdc) := ⟨_, rfl⟩
  have hsz := hsX.out
  have VT : V.heap[g11]? = some (.cells #[.bool s.leaf, .slice ska s.keys.length skc, .slice sva s.vals.length svc, .slice sda s.kids.length sdc] 98 (0, 0)) := by rw [hV]; exact heap_set4 G11 _ _ _ _
  have VO : V.heap[g12]? = some (.cells #[.bool a.leaf, .slice aka a.keys.length akc, .slice ava a.vals.length avc, .slice ada a.kids.length adc] 98 (0, 0)) := by rw [hV]; exact keep_set4 G12 (by omega) _ _ _ _
  have VN : V.heap[w.heap.size]? = some (.cells #[.bool n.leaf, .slice (some ⟨kb, ko, none⟩) KK kc, .slice va n.vals.length vc, .slice (some ⟨db, dO, none⟩) Z dc] 98 (0, 0)) := by rw [hV]; exact keep_set4 N0 (by omega) _ _ _ _
  have VR : V.heap[w.heap.size + 1 + 1]? = some (.cells #[.bool false, .slice none 0 0, .slice none 0 0, .slice none 0 0] 98 (0, 0)) := by rw [hV]; exact keep_set4 R0 (by omega) _ _ _ _
  have bV : Below w.heap.size w V := by rw [hV]; exact below_set4n belc (by omega) _ _ _ _
  have KB := hide (pbrs_any V a _ _ _ (HA.out.to bV) hka'.out (by omega))
  have HV := hide (And.intro VN (And.intro VR (And.intro VT (And.intro VO bV))))
  obtain ⟨⟨y0, y1, y2, y3⟩, yf⟩ := cells4 G11
  obtain ⟨⟨t0, t1, t2, t3⟩, tf⟩ := cells4 VO
  rw [hV] at KB t0 t1 t2 t3 tf
  dsimp only [nv] at KB
  clear VT VO VN VR bV M1 N0 R0 belc bTc bT b0 E0 E1 E2 E3 EF kc9 G11 G12 D11 D12
  go_wp2_with fail
  refine KB.out.mono ?_
  rintro e w5 ⟨v5, rfl, o5, b5⟩
  have hV' := hV
  rw [← hV'] at o5 b5
  replace hV := hide hV
  clear KB y0 y1 y2 y3 yf t0 t1 t2 t3 tf hV'
  obtain ⟨VN, VR, VT, VO, bV⟩ := HV.out
  have bw5 := bV.trans (b5.mono bV.size)
  have hbr : brs a = ([], a.kids.headD 0) :: (brs a).tail := rfl
  rw [hbr] at o5
  obtain ⟨gB, capB, rfl, lB, oB, keepB, cB, fB⟩ := OwnBr.first o5 key
  obtain ⟨U, hU⟩ : ∃ U, U = w5.setCell ⟨gB, 0, none⟩ (st key) := ⟨_, rfl⟩
  rw [← hU] at oB keepB
  have N5 := (b5.block _ (lt_of_block VN)).trans VN
  obtain ⟨⟨E0, E1, E2, E3⟩, EF⟩ := cells4 N5
  have ck := (bw5.cell (cell_lt hck)).trans hck
  have bU : Below w.heap.size w U := by rw [hU]; exact bw5.setCell (p := ⟨gB, 0, none⟩) (Nat.le_trans bV.size lB) _
  have hgl : g11 ≠ gB := by have := lt_of_block VT; omega
  have UL := (keepB g11 hgl).trans ((b5.block _ (lt_of_block VT)).trans VT)
  have UR := (keepB (w.heap.size + 1 + 1) (by have := lt_of_block VR; omega)).trans ((b5.block _ (lt_of_block VR)).trans VR)
  have sU : U.heap.size = w5.heap.size := by rw [hU]; simp
  have KL := hide (pbrs_any U s _ _ _ (HS.out.to bU) hks'.out (by omega))
  obtain ⟨⟨t0, t1, t2, t3⟩, tf⟩ := cells4 UL
  have HU := hide (And.intro UR (And.intro oB bU))
  generalize hLB : ((brs a).tail.length + 1) = LB at *
  replace hLB := hide hLB
  have hLB0 : 0 < LB := by have := hLB.out; omega
  rw [hU] at KL t0 t1 t2 t3 tf
  dsimp only [nv] at KL
  clear UL UR oB bU N5 o5 b5 bw5 keepB
  go_wp2_with fail
  refine KL.out.mono ?_
  rintro e w6 ⟨v6, rfl, o6, b6⟩
  rw [← hU] at o6 b6
  replace hU := hide hU
  clear KL t0 t1 t2 t3 tf E0 E1 E2 E3 EF ck cB fB
  obtain ⟨UR, oB, bU⟩ := HU.out
  have oB6 := rows_to oB b6
  obtain ⟨a6, c6, hv6⟩ := o6.slice
  have lt6 : (brs a).tail.length ≤ 400 := by
   have h9 := brs_len hka'.out
   rw [hka'.out, hbr, List.length_cons] at h9
   omega
  have ll6 : (brs s).length ≤ 401 := by rw [brs_len hks'.out, hks'.out]; omega
  have H6 := hide (And.intro ((b6.block _ (lt_of_block UR)).trans UR) (And.intro o6 (bU.trans (b6.mono bU.size))))
  have o6' := hide o6
  have oB6' : Hid (OwnBr V.heap.size w6 (.slice (some ⟨gB, 0, none⟩) LB capB) ((key, a.kids.headD 0) :: (brs a).tail)) := oB6
  have hl6 : U.heap.size ≤ w6.heap.size := b6.size
  have hbU : w.heap.size ≤ U.heap.size := bU.size
  have hbU2 : w.heap.size + 1 + 1 < U.heap.size := lt_of_block UR
  clear oB6 oB UR bU b6 o6
  obtain ⟨LL, hLL⟩ : ∃ q, q = (brs s).length := ⟨_, rfl⟩
  rw [← hLL] at hv6
  replace hLL := hide hLL
  have hl9 : Hid ((brs s).length + ((key, a.kids.headD 0) :: (brs a).tail).length ≤ 10000 ∧ (brs s ++ (key, a.kids.headD 0) :: (brs a).tail).length ≤ 1000) := by
   rw [List.length_append, List.length_cons]
   exact ⟨by omega, by omega⟩
  subst hv6
  clear lt6 ll6
  go_wp2_with (at_builtin; refine wpList_appBs rfl _ _ rfl U.heap.size V.heap.size _ _ _ _ rfl rfl o6'.out oB6'.out (by simp) hl9.out.1 hl6 ?_; intro v7 w7 o7 r7)
  have KI := hide (pinr_any U.heap.size w7 v7 _ o7 hl9.out.2)
  obtain ⟨R6, o6, b6⟩ := H6.out
  have bw7 : Below w.heap.size w w7 := b6.grown r7 (Nat.le_trans hbU hl6) (fun q hq => Nat.le_trans hbU (World.ownsRow.lt o6 q hq).1)
  have R7 : w7.heap[w.heap.size + 1 + 1]? = some (.cells #[.bool false, .slice none 0 0, .slice none 0 0, .slice none 0 0] 98 (0, 0)) := (r7.block _ (lt_of_block R6) (fun e9 => by have := (World.ownsRow.lt o6 _ e9.symm).1; omega)).trans R6
  obtain ⟨a7, c7, hv7⟩ := o7.slice
  obtain ⟨L7, hL7⟩ : ∃ q, q = (brs s ++ (key, a.kids.headD 0) :: (brs a).tail).length := ⟨_, rfl⟩
  rw [← hL7] at hv7
  replace hL7 := hide hL7
  subst hv7
  have H7 := hide (And.intro R7 bw7)
  clear o6 b6 R6 R7 bw7 o7 r7 o6' oB6' H6 HU HV
  go_wp2_with fail
  refine KI.out.mono ?_
  rintro e w8 ⟨kv8, dv8, rfl, o8, b8⟩
  obtain ⟨R7, bw7⟩ := H7.out
  have R8 := (b8.block _ (lt_of_block R7)).trans R7
  have HR8 := hide R8
  obtain ⟨⟨J0, J1, J2, J3⟩, JF⟩ := cells4 R8
  obtain ⟨k8a, k8c, hk8⟩ := o8.keys.rd.slice
  obtain ⟨d8a, d8c, hd8⟩ := o8.kids.rd.slice
  have o8' := hide o8
  have B8 := hide (bw7.trans (b8.mono bw7.size))
  have hw7 : Hid (w.heap.size ≤ w7.heap.size) := bw7.size
  generalize hNN : inr (brs s ++ (key, a.kids.headD 0) :: (brs a).tail) = NN at *
  have hNl : NN.leaf = false := by rw [← hNN]; rfl
  replace hNN := hide hNN
  subst hk8 hd8
  clear o8 b8 R7 bw7 R8 KI H7
  dsimp only [nv]
  go_wp2
  refine retN rfl rfl (w.heap.size + 1 + 1) rfl _ _ (0, 0) (heap_set4 HR8.out _ _ _ _) _ Tryz.underlying98 rfl info_nd10 ?_
  have k1 := fun e (he : e ≠ 98) => s4_keep HR8.out (.bool false) (.slice k8a NN.keys.length k8c) (.slice none 0 0) (.slice d8a NN.kids.length d8c) he
  refine ⟨_, _, rfl, ?_, below_set4n B8.out (by omega) _ _ _ _⟩
  rw [hNN.out]
  exact (o8'.out.mono hw7.out).keepT (k1 _ (by decide)) (k1 _ (by decide))
end Go.Proofs.YtpiikmkajckccaaGreat

namespace Go.Proofs.YtpiikmkajckccaaGreat
open Go.RowKit
theorem sizeT : (Tryz.prog.info? 9).map (·.size) = some 1 := by kernel_rfl
theorem st_one (xs : List Str) : ∀ v ∈ xs.map st, v.oneCell' = true := by
 intro v hv
 obtain ⟨x, _, rfl⟩ := List.mem_map.1 hv
 rfl
theorem cell_row {w : World} {g : Nat} {cur : Array Value} {T : TypeId} {fr : Nat × Nat} (h : w.heap[g]? = some (.cells cur T fr)) (j : Nat) : w.cell? ⟨g, j, none⟩ = cur.toList[j]? := by
 simp [World.cell?, h]
set_option maxRecDepth 100000 in
set_option maxHeartbeats 4000000 in
theorem pins_room (B : Nat) (w : World) (xs : List Str) (y : Str) (g cap gv i : Nat) (cur : Array Value) (hg : w.heap[g]? = some (.cells cur 9 (0, 0))) (hcs : cur.size = cap) (hct : cur.toList.take xs.length = xs.map st) (hcm : cap ≤ 9223372036854775807) (hroom : xs.length + 1 ≤ cap)
  (hb : w.heap[gv]? = some (.cells #[st y] 9 (0, 0))) (hne : gv ≠ g) (hi : i < xs.length) :
  Calls Tryz.prog 45 #[.slice (some ⟨g, 0, none⟩) xs.length cap, .int .i64 (i : Int), .slice (some ⟨gv, 0, none⟩) 1 1] w fun e w' => e = .returned (.slice (some ⟨g, 0, none⟩) (xs.length + 1) cap) ∧ w' = w.drew.setRow g (seg (seg cur.toList (i + 1) ((xs.drop i).map st)) i [st y]).toArray := by
 obtain ⟨n, hn⟩ : ∃ n, n = xs.length := ⟨_, rfl⟩
 have hcl : cur.toList.length = cap := by rw [Array.length_toList]; exact hcs
 have hat : ∀ j, j < xs.length → cur.toList[j]? = (xs.map st)[j]? := fun j hj => by rw [← hct, List.getElem?_take, if_pos hj]
 have hov : Hid (∀ lb cb, (callFunc 64 #[.slice (some ⟨gv, 0, none⟩) 1 1, .slice (some ⟨g, i + 1, none⟩) lb cb]).run Tryz.prog w = .ok (.value (.bool false)) w) := fun lb cb => by
  rw [run_callFunc_extern Tryz.func64 (by kernel_rfl) (by kernel_rfl) (by kernel_rfl) (e := Extern.SlicesOverlaps.overlaps #[96, 96] #[4]) (by kernel_rfl),
   Lib.run_overlaps_apart w 96 4 9 Tryz.underlying96 1 (fun w => by kernel_rfl) ⟨gv, 0, none⟩ ⟨g, i + 1, none⟩ 1 1 lb cb hne 9 9 1 cap (by simp [World.shape?, hb]) (by simp [World.shape?, hg, hcs]) (by omega) (by simp [World.frozen?, hb]) (by simp [World.frozen?, hb])]
  rfl
 have hgd : w.drew.heap[g]? = some (.cells cur 9 (0, 0)) := drewHeap hg
 have hcp1 : Hid (∀ ty dc sc, (Builtin.copy_ #[96, 96] ty #[.slice (some ⟨g, i + 1, none⟩) (xs.length - i) dc, .slice (some ⟨g, i, none⟩) (xs.length + 1 - i) sc]).run Tryz.prog w.drew = .ok (goInt (xs.length - i : Nat)) (w.drew.setRow g (seg cur.toList (i + 1) ((xs.drop i).map st)).toArray)) := fun ty dc sc => by
  refine run_copyN w.drew _ _ ty 9 1 g (i + 1) _ dc ⟨g, i, none⟩ _ sc cur 9 ((xs.drop i).map st) (xs.length - i) Tryz.underlying96 sizeT hgd ?_ (by simp) (fun j v hj => ?_) (by simp; omega) (st_one _)
  ·show _ = min _ _
   omega
  ·rw [Addr.add_lit, cell_row hgd]
   have hjl := (List.getElem?_eq_some_iff.1 hj).1
   simp only [List.length_map, List.length_drop] at hjl
   rw [hat (i + j) (by omega)]
   rw [← hj, List.map_drop, List.getElem?_drop]
 obtain ⟨W1, hW1⟩ : ∃ W, W = w.drew.setRow g (seg cur.toList (i + 1) ((xs.drop i).map st)).toArray := ⟨_, rfl⟩
 have hseg : (seg cur.toList (i + 1) ((xs.drop i).map st)).length = cap := by rw [seg_len (by simp; omega)]; exact hcl
 have hg1 : W1.heap[g]? = some (.cells (seg cur.toList (i + 1) ((xs.drop i).map st)).toArray 9 (0, 0)) := by rw [hW1]; exact setRow_heap _ g cur _ _ _ hgd
 have hb1 : W1.heap[gv]? = some (.cells #[st y] 9 (0, 0)) := by rw [hW1]; exact (setRow_other _ g gv _ hne).trans (drewHeap hb)
 have hcp2 : Hid (∀ ty dc, (Builtin.copy_ #[96, 96] ty #[.slice (some ⟨g, i, none⟩) (xs.length + 1 - i) dc, .slice (some ⟨gv, 0, none⟩) 1 1]).run Tryz.prog W1 = .ok (goInt (1 : Nat)) (W1.setRow g (seg (seg cur.toList (i + 1) ((xs.drop i).map st)) i [st y]).toArray)) := fun ty dc => by
  refine run_copyN W1 _ _ ty 9 1 g i _ dc ⟨gv, 0, none⟩ 1 1 _ 9 [st y] 1 Tryz.underlying96 sizeT hg1 ?_ rfl (fun j v hj => ?_) ?_ (fun v hv => by simp at hv; subst hv; rfl)
  ·show _ = min _ _
   omega
  ·rw [Addr.add_lit, cell_row hb1]
   simpa using hj
  ·show i + 1 ≤ (seg cur.toList (i + 1) ((xs.drop i).map st)).toArray.size
   rw [List.size_toArray, hseg]; omega
 rw [← hW1] at hcp1
 have hfin : Hid (W1.setRow g (seg (seg cur.toList (i + 1) ((xs.drop i).map st)) i [st y]).toArray = w.drew.setRow g (seg (seg cur.toList (i + 1) ((xs.drop i).map st)) i [st y]).toArray) := by show _ = _; rw [hW1, setRow_setRow]
 rw [← hn] at hcp1 hcp2 hroom hi ⊢
 replace hn := hide hn
 have hz2 : ((i : Int) == (n : Int)) = false := by simp; omega
 have hw1 : IntKind.i64.wrap ((i : Int) + 1) = (i : Int) + 1 := IntWalk.i64_in _ (by omega)
 have hw2 : IntKind.i64.wrap ((n : Int) + 1) = (n : Int) + 1 := IntWalk.i64_in _ (by omega)
 have hb1' : (0 : Int) ≤ (i : Int) + 1 := by omega
 have hin : i ≤ n := by omega
 have htn : ((i : Int) + 1).toNat = i + 1 := by omega
 have htn2 : ((n : Int) + 1).toNat = n + 1 := by omega
 have hb2 : ¬ (cap = i + 1) := by omega
 have hb3 : (i : Int) ≤ (n : Int) + 1 := by omega
 have hb4 : ¬ (cap = i) := by omega
 clear hcs hct hat hcl hgd hseg hg1 hb1 hg hb hne hW1
 have hmix := mixed
 go_enter Tryz.func45, Tryz.ntmps45
 go_wp2_with (simp only [hov.out])
 refine wp_region_mid (fun _ => True) 8 8 mixed (by kernel_rfl) (fun _ _ _ _ h => h) trivial ?_
 dsimp only [List.take, List.drop]
 iterate 8
  refine take_one (v := ?_) (by rfl) ?_ ?_
  rotate_left
  ·rintro w' _
   go_simp
   try with_reducible rfl
  try simp only [Act.put, List.setIfInBounds_toArray, List.set_cons_zero, List.set_cons_succ]
 show wpList _ _ _ _ _ _
 refine wpList_run_copy _ rfl _ _ 96 96 rfl _ _ rfl rfl _ _ (hcp1.out _ _ _) ?_
 go_wp2_with (simp only [hcp2.out, Result.andThen_ok])
 go_ret
 refine ⟨rfl, Eq.trans ?_ hfin.out⟩
 rw [List.map_drop]
theorem infoT3 : (Tryz.prog.info? 9).map (fun i => (i.zero, i.size, i.bytes)) = some (some (.string ⟨#[]⟩), 1, 16) := by kernel_rfl
set_option maxRecDepth 100000 in
set_option maxHeartbeats 4000000 in
theorem pins_grow (w : World) (xs : List Str) (y : Str) (g cap gv i : Nat) (cur : Array Value) (hg : w.heap[g]? = some (.cells cur 9 (0, 0))) (hcs : cur.size = cap) (hct : cur.toList.take xs.length = xs.map st) (hroom : cap < xs.length + 1) (hcap : xs.length ≤ cap)
  (hb : w.heap[gv]? = some (.cells #[st y] 9 (0, 0))) (hi : i < xs.length) (hl : xs.length ≤ 1000000) :
  Calls Tryz.prog 45 #[.slice (some ⟨g, 0, none⟩) xs.length cap, .int .i64 (i : Int), .slice (some ⟨gv, 0, none⟩) 1 1] w fun e w' => ∃ G, e = .returned (.slice (some ⟨w.heap.size, 0, none⟩) (xs.length + 1) G) ∧ OwnT w.heap.size w' (.slice (some ⟨w.heap.size, 0, none⟩) (xs.length + 1) G) (xs.take i ++ y :: xs.drop i) ∧ w.grownBy w' none := by
 obtain ⟨n, hn⟩ : ∃ n, n = xs.length := ⟨_, rfl⟩
 have hat : ∀ j, j < xs.length → cur.toList[j]? = (xs.map st)[j]? := fun j hj => by rw [← hct, List.getElem?_take, if_pos hj]
 obtain ⟨i0, hi0, hz0, hz1, hz2⟩ := info_parts infoT3
 have hA : ((xs.take i).map st).length = i * 1 := by simp; omega
 have hAt : cur.toList.take (i * 1) = (xs.take i).map st := by
  have : cur.toList.take i = (cur.toList.take xs.length).take i := by rw [List.take_take]; congr 1; omega
  rw [Nat.mul_one, this, hct, List.map_take]
 obtain ⟨G, ROW, hr, hR1, hR2, hR3, hR4⟩ := run_growN w 96 3 96 9 i0 _ .i64 1 16 Tryz.underlying96 Tryz.underlying3 hi0 hz0 hz1 hz2 rfl (by omega) g cap i (xs.length + 1 - i) cur ((xs.take i).map st) hg hA hAt (by omega) (by omega) (by omega) (by omega) (by omega)
 have hik : i + (xs.length + 1 - i) = xs.length + 1 := by omega
 rw [hik] at hr hR3
 rw [hA, Nat.mul_one] at hR2
 obtain ⟨W1, hW1⟩ : ∃ W, W = w.drew.alloc (.cells ROW 9) := ⟨_, rfl⟩
 have hd1 : W1.heap[w.heap.size]? = some (.cells ROW 9 (0, 0)) := by rw [hW1]; exact heap_alloc_last w.drew _
 have hgl : g < w.heap.size := lt_of_block hg
 have hvl : gv < w.heap.size := lt_of_block hb
 have ho1 : ∀ k, k < w.heap.size → W1.heap[k]? = w.heap[k]? := fun k hk => by
  rw [hW1]
  simp only [World.alloc, Array.getElem?_push]
  rw [if_neg (show k ≠ w.drew.heap.size from by have : w.drew.heap.size = w.heap.size := rfl; omega)]
  rfl
 have hs1 : W1.heap.size = w.heap.size + 1 := by rw [hW1]; simp [World.alloc]
 obtain ⟨L2, hL2⟩ : ∃ L, L = seg ROW.toList i [st y] := ⟨_, rfl⟩
 have hRl : ROW.toList.length = G := by rw [Array.length_toList, hR1]; omega
 have hl2 : L2.length = G := by rw [hL2, seg_len (by simp; omega)]; exact hRl
 obtain ⟨W2, hW2⟩ : ∃ W, W = W1.setRow w.heap.size L2.toArray := ⟨_, rfl⟩
 have hd2 : W2.heap[w.heap.size]? = some (.cells L2.toArray 9 (0, 0)) := by rw [hW2]; exact setRow_heap _ _ _ _ _ _ hd1
 have ho2 : ∀ k, k < w.heap.size → W2.heap[k]? = w.heap[k]? := fun k hk => by rw [hW2]; exact (setRow_other _ _ _ _ (by omega)).trans (ho1 k hk)
 have hcp1 : Hid (∀ ty dc, (Builtin.copy_ #[96, 96] ty #[.slice (some ⟨w.heap.size, i, none⟩) (xs.length + 1 - i) dc, .slice (some ⟨gv, 0, none⟩) 1 1]).run Tryz.prog W1 = .ok (goInt (1 : Nat)) W2) := fun ty dc => by
  rw [hW2, hL2]
  refine run_copyN W1 _ _ ty 9 1 w.heap.size i _ dc ⟨gv, 0, none⟩ 1 1 ROW 9 [st y] 1 Tryz.underlying96 sizeT hd1 ?_ rfl (fun j v hj => ?_) (by simp; omega) (fun v hv => by simp at hv; subst hv; rfl)
  ·show _ = min _ _
   omega
  ·rw [Addr.add_lit, cell_row ((ho1 gv hvl).trans hb)]
   simpa using hj
 obtain ⟨L3, hL3⟩ : ∃ L, L = seg L2 (i + 1) ((xs.drop i).map st) := ⟨_, rfl⟩
 have hl3 : L3.length = G := by rw [hL3, seg_len (by simp; omega)]; exact hl2
 obtain ⟨W3, hW3⟩ : ∃ W, W = W2.drew.setRow w.heap.size L3.toArray := ⟨_, rfl⟩
 have hd2' : W2.drew.heap[w.heap.size]? = some (.cells L2.toArray 9 (0, 0)) := drewHeap hd2
 have hcp2 : Hid (∀ ty dc, (Builtin.copy_ #[96, 96] ty #[.slice (some ⟨w.heap.size, i + 1, none⟩) (xs.length - i) dc, .slice (some ⟨g, i, none⟩) (xs.length - i) (cap - i)]).run Tryz.prog W2.drew = .ok (goInt (xs.length - i : Nat)) W3) := fun ty dc => by
  rw [hW3, hL3, show L2 = L2.toArray.toList by simp]
  refine run_copyN W2.drew _ _ ty 9 1 w.heap.size (i + 1) _ dc ⟨g, i, none⟩ _ _ L2.toArray 9 ((xs.drop i).map st) (xs.length - i) Tryz.underlying96 sizeT hd2' ?_ (by simp) (fun j v hj => ?_) (by simp; omega) (st_one _)
  ·show _ = min _ _
   omega
  ·rw [Addr.add_lit, cell_row (w := W2.drew) (drewHeap ((ho2 g hgl).trans hg))]
   have hjl := (List.getElem?_eq_some_iff.1 hj).1
   simp only [List.length_map, List.length_drop] at hjl
   rw [hat (i + j) (by omega), ← hj, List.map_drop, List.getElem?_drop]
 have FIN : Hid (OwnT w.heap.size W3 (.slice (some ⟨w.heap.size, 0, none⟩) (xs.length + 1) G) (xs.take i ++ y :: xs.drop i) ∧ w.grownBy W3 none) := by
  have hlen : (xs.take i ++ y :: xs.drop i).length = xs.length + 1 := by simp; omega
  have h9 := seg_two' (L := ROW.toList) (A := (xs.take i).map st) (V := [st y]) (C := (xs.drop i).map st) (by rw [show ((xs.take i).map st).length = i by simp; omega]; exact hR2) (by rw [hRl]; simp; omega)
  rw [show ((xs.take i).map st).length = i by simp; omega] at h9
  have h8 : L3.take ((xs.length + 1) * 1) = (xs.take i ++ y :: xs.drop i).map st := by
   rw [hL3, hL2]
   have : i + [st y].length + ((xs.drop i).map st).length = (xs.length + 1) * 1 := by simp; omega
   rw [this] at h9
   simpa using h9
  have hrow := row_set (B := w.heap.size) (k := xs.length + 1) (cap := G) (n := 1) hd2' (Nat.le_refl _) hR3 (by unfold maxLen; exact hR4) (by rw [hl3]; omega) (by rw [List.length_map, hlen]; omega) h8
  refine ⟨?_, ?_⟩
  ·have := hrow.1
   rw [← hW3] at this
   show World.ownsRow _ _ _ _ _ _ _
   rw [hlen]; exact this
  ·refine ⟨by rw [hW3, hW2, hW1]; rfl, by rw [hW3, hW2, hW1]; rfl, by rw [hW3, hW2, hW1]; rfl, ?_, fun k hk _ => ?_⟩
   ·rw [hW3, setRow_size]
    show w.heap.size ≤ W2.heap.size
    rw [hW2, setRow_size, hs1]; omega
   ·rw [hW3]
    exact (setRow_other _ _ _ _ (by omega)).trans (ho2 k hk)
 rw [← hW1] at hr
 rw [← hn] at hcp1 hcp2 hroom hi hr FIN hcap hl hR3 ⊢
 replace hn := hide hn
 have hz2 : ((i : Int) == (n : Int)) = false := by simp; omega
 have hw1 : IntKind.i64.wrap ((i : Int) + 1) = (i : Int) + 1 := IntWalk.i64_in _ (by omega)
 have hw2 : IntKind.i64.wrap ((n : Int) + 1) = (n : Int) + 1 := IntWalk.i64_in _ (by omega)
 have hw3 : IntKind.i64.wrap ((n : Int) + 1 - i) = (n : Int) + 1 - i := IntWalk.i64_in _ (by omega)
 have hcc : (cap : Int) < (n : Int) + 1 := by omega
 have hb1' : (0 : Int) ≤ (i : Int) + 1 := by omega
 have hin : i ≤ n := by omega
 have hic : i ≤ cap := by omega
 have htn : ((i : Int) + 1).toNat = i + 1 := by omega
 have hb2 : ¬ (G = i + 1) := by omega
 have hb3 : (i : Int) ≤ (n : Int) + 1 := by omega
 have hb4 : ¬ (cap = i) := by omega
 have hb5 : ¬ (G = i) := by omega
 have hap : Hid ((Builtin.append_ #[96, 3] 96 #[.slice (some ⟨g, 0, none⟩) i cap, .int .i64 ((n : Int) + 1 - (i : Int))]).run Tryz.prog w = .ok (.slice (some ⟨w.heap.size, 0, none⟩) (n + 1) G) W1) := by
  show _ = _
  rw [show (n : Int) + 1 - (i : Int) = ((n + 1 - i : Nat) : Int) by omega]
  exact hr
 clear hcs hct hat hr hR1 hR2 hR4 hd1 ho1 hs1 hd2 hd2' ho2 hg hb hW1 hW2 hW3 hL2 hL3 hl2 hl3 hRl hA hAt hik hz0 hz1 hi0 hgl hvl
 go_enter Tryz.func45, Tryz.ntmps45
 go_wp2_with (first | (at_builtin; refine Lib.wpList_append_run _ rfl _ _ _ _ rfl _ _ rfl rfl _ _ hap.out ?_) | simp only [hcp1.out, Result.andThen_ok])
 refine wp_region_mid (fun _ => True) 8 8 mixed (by kernel_rfl) (fun _ _ _ _ h => h) trivial ?_
 dsimp only [List.take, List.drop]
 iterate 8
  refine take_one (v := ?_) (by rfl) ?_ ?_
  rotate_left
  ·rintro w' _
   go_simp
   try with_reducible rfl
  try simp only [Act.put, List.setIfInBounds_toArray, List.set_cons_zero, List.set_cons_succ]
 show wpList _ _ _ _ _ _
 refine wpList_run_copy _ rfl _ _ 96 96 rfl _ _ rfl rfl _ _ (hcp2.out _ _) ?_
 go_wp2
 go_ret
 exact ⟨_, rfl, FIN.out.1, FIN.out.2⟩
theorem pins_any (B : Nat) (w : World) (v : Value) (xs : List Str) (y : Str) (gv i : Nat) (h : OwnT B w v xs) (hb : w.heap[gv]? = some (.cells #[st y] 9 (0, 0))) (hne : ∀ b, v.ownBlock = some b → gv ≠ b) (hB : B ≤ w.heap.size) (hl : xs.length ≤ 1000000) (hi : i ≤ xs.length) :
  Calls Tryz.prog 45 #[v, .int .i64 (i : Int), .slice (some ⟨gv, 0, none⟩) 1 1] w fun e w' => InsR B w w' v (xs.take i ++ y :: xs.drop i) e := by
 have hlen : (xs.take i ++ y :: xs.drop i).length = xs.length + 1 := by simp; omega
 by_cases hiE : i = xs.length
 ·subst hiE
  have := pins_end B w v xs y gv h (cellN hb rfl) hB hl
  simpa using this
 ·obtain ⟨g, cap, cur, rfl, hBg, hg, hkc, hcm, hcs, hct⟩ := own_block h (by omega)
  rw [Nat.mul_one] at hcs hct
  unfold maxLen at hcm
  have hgne := hne g rfl
  by_cases hroom : xs.length + 1 ≤ cap
  ·refine (pins_room B w xs y g cap gv i cur hg hcs hct hcm hroom hb hgne (by omega)).mono ?_
   rintro e w' ⟨rfl, rfl⟩
   have hcl : cur.toList.length = cap := by rw [Array.length_toList]; exact hcs
   have h9 := seg_two (L := cur.toList) (A := (xs.take i).map st) (V := [st y]) (C := (xs.drop i).map st) (by
    rw [show ((xs.take i).map st).length = i by simp; omega]
    have : cur.toList.take i = (cur.toList.take xs.length).take i := by rw [List.take_take]; congr 1; omega
    rw [this, hct, List.map_take]) (by rw [hcl]; simp; omega)
   rw [show ((xs.take i).map st).length = i by simp; omega] at h9
   have h8 : (seg (seg cur.toList (i + 1) ((xs.drop i).map st)) i [st y]).take ((xs.length + 1) * 1) = (xs.take i ++ y :: xs.drop i).map st := by
    have : i + [st y].length + ((xs.drop i).map st).length = (xs.length + 1) * 1 := by simp; omega
    rw [this] at h9
    simpa using h9
   have hsl : (seg (seg cur.toList (i + 1) ((xs.drop i).map st)) i [st y]).length = cap * 1 := by
    have h7 : (seg cur.toList (i + 1) ((xs.drop i).map st)).length = cap := by rw [seg_len (by simp; omega)]; exact hcl
    rw [seg_len (show i + [st y].length ≤ _ by rw [h7]; simp; omega), h7]; omega
   have hrow := row_set (B := B) (k := xs.length + 1) (cap := cap) (n := 1) (w := w.drew) (drewHeap hg) hBg hroom (by unfold maxLen; exact hcm) hsl (by rw [List.length_map, hlen]; omega) h8
   refine ⟨g, cap, by rw [hlen], ?_, ⟨rfl, rfl, rfl, by simp, fun k hk hk2 => (hrow.2.block k hk hk2)⟩, .inl rfl⟩
   show World.ownsRow _ _ _ _ _ _ _
   rw [hlen]; exact hrow.1
  ·refine (pins_grow w xs y g cap gv i cur hg hcs hct (by omega) hkc hb (by omega) hl).mono ?_
   rintro e w' ⟨G, rfl, o1, g1⟩
   refine ⟨w.heap.size, G, by rw [hlen], ?_, ⟨g1.os, g1.tape, g1.output, g1.size, fun k hk _ => g1.block k hk (by simp)⟩, .inr rfl⟩
   rw [hlen]
   exact rows_base o1 (fun b hb9 => Nat.le_trans hB (World.ownsRow.lt o1 b hb9).1)
end Go.Proofs.YtpiikmkajckccaaGreat

namespace Go.Proofs.YtpiikmkajckccaaGreat
open Go.RowKit
end Go.Proofs.YtpiikmkajckccaaGreat

namespace Go.Proofs.YtpiikmkajckccaaGreat
open Go.RowKit
structure KEd (B : Nat) (kv vv : Value) (w w' : World) : Prop where
 keep : ∀ b, b < w.heap.size → kv.ownBlock ≠ some b → vv.ownBlock ≠ some b → w'.heap[b]? = w.heap[b]?
 bel : Below B w w'
 size : w.heap.size ≤ w'.heap.size
theorem row_block {w w' : World} {B T n k : Nat} {v : Value} {cc : List Value} (h : w.ownsRow B T n v k cc) (hk : ∀ b, v.ownBlock = some b → w'.heap[b]? = w.heap[b]?) : w'.ownsRow B T n v k cc := by
 refine ⟨h.1, ?_⟩
 rcases h.2 with hn | ⟨b, cap, cur, hv, hgb, hb, r⟩
 ·exact .inl hn
 ·exact .inr ⟨b, cap, cur, hv, hgb, (hk b (by rw [hv]; rfl)).trans hb, r⟩
theorem own_eq {g b n c : Nat} (h : (Value.slice (some ⟨g, 0, none⟩) n c).ownBlock = some b) : g = b := by simpa [Value.ownBlock] using h
set_option maxRecDepth 100000 in
set_option maxHeartbeats 4000000 in
theorem pputcl_ins (B : Nat) (w : World) (nd : Nd) (kv vv dv : Value) (key val : Str) (i : Nat) (gk gl : Nat) (hN : OwnN B w kv vv dv nd) (hD : Dj kv vv dv) (hB : B ≤ w.heap.size) (hlen : nd.keys.length ≤ 1000) (hlv : nd.vals.length = nd.keys.length) (hi : i ≤ nd.keys.length)
  (hk : w.heap[gk]? = some (.cells #[st key] 9 (0, 0))) (hgk : gk < B) (hv : w.heap[gl]? = some (.cells #[st val] 9 (0, 0))) (hgl : gl < B) :
  Calls Tryz.prog 44 #[nv nd kv vv dv, .int .i64 (i : Int), .bool false, .pointer (some ⟨gl, 0, none⟩), .pointer (some ⟨gk, 0, none⟩)] w fun e w' => ∃ kv' vv', e = .returned (nv ⟨nd.leaf, nd.keys.take i ++ key :: nd.keys.drop i, nd.vals.take i ++ val :: nd.vals.drop i, nd.kids⟩ kv' vv' dv) ∧ OwnN B w' kv' vv' dv ⟨nd.leaf, nd.keys.take i ++ key :: nd.keys.drop i, nd.vals.take i ++ val :: nd.vals.drop i, nd.kids⟩ ∧ KEd B kv vv w w' := by
 obtain ⟨W, hW, DW, bW, sW⟩ := boxedN w #[.bool nd.leaf, kv, vv, dv] 98
 obtain ⟨X, hX, DX, bX, sX⟩ := boxedN W #[.bool false, .slice none 0 0, .slice none 0 0, .slice none 0 0] 98
 have bWX := bW.trans (bX.mono bW.size)
 have NX := hN.to bWX
 have D1 := (bX.block _ (lt_of_block DW)).trans DW
 rw [sW] at DX
 have kX := (bWX.block _ (lt_of_block hk)).trans hk
 have vX := (bWX.block _ (lt_of_block hv)).trans hv
 have hBX : B ≤ X.heap.size := Nat.le_trans hB bWX.size
 have hltK : ∀ b, kv.ownBlock = some b → b < w.heap.size := fun b hb => (World.ownsRow.lt hN.keys b hb).2
 have hltV : ∀ b, vv.ownBlock = some b → b < w.heap.size := fun b hb => (World.ownsRow.lt hN.vals b hb).2
 have hgeK : ∀ b, kv.ownBlock = some b → B ≤ b := fun b hb => (World.ownsRow.lt hN.keys b hb).1
 have hgeV : ∀ b, vv.ownBlock = some b → B ≤ b := fun b hb => (World.ownsRow.lt hN.vals b hb).1
 have hltJ : ∀ b, dv.ownBlock = some b → b < w.heap.size := fun b hb => (World.ownsRow.lt hN.kids b hb).2
 have HLT := hide (And.intro hltK (And.intro hltV (And.intro hgeK (And.intro hgeV hltJ))))
 have hsX : X.heap.size = w.heap.size + 1 + 1 := by rw [sX, sW]
 obtain ⟨Y, hY, DY, bY, sY⟩ := boxedN X #[st key] 9
 have NY := NX.to bY
 have hsY : Y.heap.size = w.heap.size + 1 + 1 + 1 := by rw [sY, hsX]
 have KI := hide (pins_any B Y kv nd.keys key X.heap.size i NY.keys DY (fun b hb => by have := hltK b hb; omega) (Nat.le_trans hBX bY.size) (by omega) hi)
 have bwY := bWX.trans (bY.mono bWX.size)
 have HY := hide (And.intro NY (And.intro ((bY.block _ (lt_of_block D1)).trans D1) (And.intro ((bY.block _ (lt_of_block DX)).trans DX) (And.intro ((bY.block _ (lt_of_block vX)).trans vX) bwY))))
 obtain ⟨ka, kc, va, vc, da, dc, rfl, rfl, rfl⟩ := hN.rd.slices
 obtain ⟨⟨E0, E1, E2, E3⟩, EF⟩ := cells4 D1
 obtain ⟨⟨F0, F1, F2, F3⟩, FF⟩ := cells4 DX
 have G0 := cellN kX (i := 0) rfl
 have L0 := cellN vX (i := 0) rfl
 replace hlv := hide hlv
 replace hD := hide hD
 replace hsY := hide hsY
 dsimp only [nv]
 rw [hsX] at KI
 rw [hY, hX, hW] at KI
 rw [hX, hW] at E0 E1 E2 E3 EF F0 F1 F2 F3 FF G0 L0
 clear DY bY NX D1 DX kX vX DW bW bX bWX hk hv hN NY bwY sX sW sY hsX hltK hltV hgeK hgeV hltJ
 go_enter Tryz.func44, Tryz.ntmps44
 go_wp2_with fail
 refine KI.out.mono ?_
 rintro e w2 ⟨g2, c2, rfl, o2, r2, l2⟩
 rw [← hW, ← hX, ← hY] at r2 l2
 clear E0 E1 E2 E3 EF F0 F1 F2 F3 FF G0 L0 KI
 obtain ⟨K2, hK2⟩ : ∃ l, l = nd.keys.take i ++ key :: nd.keys.drop i := ⟨_, rfl⟩
 rw [← hK2] at o2 ⊢
 obtain ⟨KL, hKL⟩ : ∃ q, q = K2.length := ⟨_, rfl⟩
 rw [← hKL] at o2 ⊢
 replace hKL := hide hKL
 obtain ⟨NY, D1, R1, vY, bwY⟩ := HY.out
 obtain ⟨hltK, hltV, hgeK, hgeV, hltJ⟩ := HLT.out
 have hsY' := hsY.out
 have kp2 : ∀ b, b < Y.heap.size → (Value.slice ka nd.keys.length kc).ownBlock ≠ some b → w2.heap[b]? = Y.heap[b]? := fun b hb hne => r2.block b hb (fun e => hne e.symm)
 have V2 : OwnT B w2 (.slice va nd.vals.length vc) nd.vals := row_block NY.vals fun b hb => kp2 b (World.ownsRow.lt NY.vals b hb).2 (fun e => hD.out.1 b e hb)
 have J2 : OwnJ B w2 (.slice da nd.kids.length dc) nd.kids := row_block NY.kids fun b hb => kp2 b (World.ownsRow.lt NY.kids b hb).2 (fun e => hD.out.2.1 b e hb)
 have D2 := (kp2 w.heap.size (by omega) (fun e => by have := hltK _ e; omega)).trans D1
 have R2 := (kp2 (w.heap.size + 1) (by omega) (fun e => by have := hltK _ e; omega)).trans R1
 have L2 := (kp2 gl (lt_of_block vY) (fun e => by have := hgeK _ e; omega)).trans vY
 have b2 : Below B w w2 := (bwY.mono hB).grown r2 (Nat.le_trans hB bwY.size) hgeK
 -- the keys are stored
 obtain ⟨U, hU⟩ : ∃ U, U = w2.setCell ⟨w.heap.size, 1, none⟩ (.slice (some ⟨g2, 0, none⟩) KL c2) := ⟨_, rfl⟩
 have DU : U.heap[w.heap.size]? = some (.cells #[.bool nd.leaf, .slice (some ⟨g2, 0, none⟩) KL c2, .slice va nd.vals.length vc, .slice da nd.kids.length dc] 98 (0, 0)) := by
  rw [hU]; have := heap_setN D2 1 (.slice (some ⟨g2, 0, none⟩) KL c2); simpa using this
 have kpU : ∀ b, b ≠ w.heap.size → U.heap[b]? = w2.heap[b]? := fun b hb => by rw [hU]; exact Below.heap_setCell _ _ _ _ hb
 have hg2 : g2 ≠ w.heap.size := by
  rcases l2 with h | h
  ·have := hltK _ h; omega
  ·omega
 have KU : OwnT B U (.slice (some ⟨g2, 0, none⟩) KL c2) K2 := row_block o2 fun b hb => kpU b (fun e9 => hg2 ((own_eq hb).trans e9))
 have VU : OwnT B U (.slice va nd.vals.length vc) nd.vals := row_block V2 fun b hb => kpU b (by have := hltV b hb; omega)
 have JU : OwnJ B U (.slice da nd.kids.length dc) nd.kids := row_block J2 fun b hb => kpU b (by have := hltJ b hb; omega)
 have RU := (kpU (w.heap.size + 1) (by omega)).trans R2
 have LU := (kpU gl (by omega)).trans L2
 have bU : Below B w U := by rw [hU]; exact b2.setCell (p := ⟨w.heap.size, 1, none⟩) hB _
 have sU : U.heap.size = w2.heap.size := by rw [hU]; simp
 have hU2 : Y.heap.size ≤ U.heap.size := by rw [sU]; exact r2.size
 obtain ⟨Z, hZ, DZ, bZ, sZ⟩ := boxedN U #[st val] 9
 have KI2 : Hid (Calls Tryz.prog 45 #[.slice va nd.vals.length vc, .int .i64 (i : Int), .slice (some ⟨U.heap.size, 0, none⟩) 1 1] Z fun e w' => InsR B Z w' (.slice va nd.vals.length vc) (nd.vals.take i ++ val :: nd.vals.drop i) e) :=
  pins_any B Z _ nd.vals val U.heap.size i (rows_to VU bZ) DZ (fun b hb => by have := hltV b hb; omega) (by have := bZ.size; omega) (by have := hlv.out; omega) (by rw [hlv.out]; exact hi)
 have HZ := hide (And.intro KU (And.intro VU (And.intro JU (And.intro DU (And.intro RU bU)))))
 have HKP := hide (And.intro kp2 (And.intro kpU bwY))
 have HBZ := hide bZ
 have hgg := hide (And.intro hg2 l2)
 have hsU := hide (And.intro sU hU2)
 obtain ⟨⟨E0, E1, E2, E3⟩, EF⟩ := cells4 D2
 obtain ⟨⟨P0, P1, P2, P3⟩, PF⟩ := cells4 DU
 have L0 := cellN LU (i := 0) rfl
 rw [hZ, sU, hU] at KI2
 rw [hU] at P0 P1 P2 P3 PF L0
 clear KU VU JU DU RU LU bU sU DZ bZ sZ hU2 kp2 kpU V2 J2 D2 R2 L2 b2 o2 r2 l2 hg2 NY D1 R1 vY bwY hltK hltV hgeK hgeV hltJ hsY'
 go_wp2_with fail
 refine KI2.out.mono ?_
 rintro e w3 ⟨g3, c3, rfl, o3, r3, l3⟩
 rw [← hU, ← hZ] at r3 l3
 clear E0 E1 E2 E3 EF P0 P1 P2 P3 PF L0 KI2
 obtain ⟨V3, hV3⟩ : ∃ l, l = nd.vals.take i ++ val :: nd.vals.drop i := ⟨_, rfl⟩
 rw [← hV3] at o3 ⊢
 obtain ⟨VL, hVL⟩ : ∃ q, q = V3.length := ⟨_, rfl⟩
 rw [← hVL] at o3 ⊢
 replace hVL := hide hVL
 obtain ⟨KU, VU, JU, DU, RU, bU⟩ := HZ.out
 obtain ⟨hltK, hltV, hgeK, hgeV, hltJ⟩ := HLT.out
 obtain ⟨sU, hU2⟩ := hsU.out
 have bZ := HBZ.out
 have hsY' := hsY.out
 have kp3 : ∀ b, b < U.heap.size → (Value.slice va nd.vals.length vc).ownBlock ≠ some b → w3.heap[b]? = U.heap[b]? := fun b hb hne => (r3.block b (Nat.lt_of_lt_of_le hb bZ.size) (fun e => hne e.symm)).trans (bZ.block b hb)
 have hdj : ∀ b, (Value.slice (some ⟨g2, 0, none⟩) KL c2).ownBlock = some b → (Value.slice va nd.vals.length vc).ownBlock ≠ some b := fun b hb hb2 => by
  have e9 : g2 = b := by simpa [Value.ownBlock] using hb
  subst e9
  rcases hgg.out.2 with h | h
  ·exact hD.out.1 _ h hb2
  ·have := hltV _ hb2; omega
 have K3 : OwnT B w3 (.slice (some ⟨g2, 0, none⟩) KL c2) K2 := row_block KU fun b hb => kp3 b (World.ownsRow.lt KU b hb).2 (hdj b hb)
 have J3 : OwnJ B w3 (.slice da nd.kids.length dc) nd.kids := row_block JU fun b hb => kp3 b (World.ownsRow.lt JU b hb).2 (fun e => hD.out.2.2 b e hb)
 have D3 := (kp3 w.heap.size (by omega) (fun e => by have := hltV _ e; omega)).trans DU
 have R3 := (kp3 (w.heap.size + 1) (by omega) (fun e => by have := hltV _ e; omega)).trans RU
 have b3 : Below B w w3 := (bU.trans (bZ.mono (by omega))).grown r3 (by have := bZ.size; omega) hgeV
 have hg3 : g3 ≠ w.heap.size ∧ g3 ≠ w.heap.size + 1 := by
  rcases l3 with h | h
  ·have := hltV _ h; omega
  ·have := bZ.size; omega
 have d9 := heap_setN D3 2 (.slice (some ⟨g3, 0, none⟩) VL c3)
 have D4 : (w3.setCell ⟨w.heap.size, 2, none⟩ (.slice (some ⟨g3, 0, none⟩) VL c3)).heap[w.heap.size]? = some (.cells #[.bool nd.leaf, .slice (some ⟨g2, 0, none⟩) KL c2, .slice (some ⟨g3, 0, none⟩) VL c3, .slice da nd.kids.length dc] 98 (0, 0)) := by simpa using d9
 have R4 : (w3.setCell ⟨w.heap.size, 2, none⟩ (.slice (some ⟨g3, 0, none⟩) VL c3)).heap[w.heap.size + 1]? = some (.cells #[.bool false, .slice none 0 0, .slice none 0 0, .slice none 0 0] 98 (0, 0)) := (Below.heap_setCell _ _ _ _ (show w.heap.size + 1 ≠ w.heap.size by omega)).trans R3
 obtain ⟨⟨E0, E1, E2, E3⟩, EF⟩ := cells4 D3
 obtain ⟨⟨P0, P1, P2, P3⟩, PF⟩ := cells4 D4
 obtain ⟨⟨F0, F1, F2, F3⟩, FF⟩ := cells4 R4
 have kp4 : ∀ b, b ≠ w.heap.size → b ≠ w.heap.size + 1 → (S4 (w.heap.size + 1) (w3.setCell ⟨w.heap.size, 2, none⟩ (.slice (some ⟨g3, 0, none⟩) VL c3)) (.bool nd.leaf) (.slice (some ⟨g2, 0, none⟩) KL c2) (.slice (some ⟨g3, 0, none⟩) VL c3) (.slice da nd.kids.length dc)).heap[b]? = w3.heap[b]? := fun b h1 h2 => (s4_other _ _ _ _ h2).trans (Below.heap_setCell _ _ _ _ h1)
 have hg2n : g2 ≠ w.heap.size + 1 := by
  rcases hgg.out.2 with h | h
  ·have := hltK _ h; omega
  ·omega
 have FN : Hid (OwnN B (S4 (w.heap.size + 1) (w3.setCell ⟨w.heap.size, 2, none⟩ (.slice (some ⟨g3, 0, none⟩) VL c3)) (.bool nd.leaf) (.slice (some ⟨g2, 0, none⟩) KL c2) (.slice (some ⟨g3, 0, none⟩) VL c3) (.slice da nd.kids.length dc)) (.slice (some ⟨g2, 0, none⟩) KL c2) (.slice (some ⟨g3, 0, none⟩) VL c3) (.slice da nd.kids.length dc) ⟨nd.leaf, K2, V3, nd.kids⟩) :=
  ⟨row_block K3 fun b hb => (by rw [← own_eq hb]; exact kp4 _ hgg.out.1 hg2n), row_block o3 fun b hb => (by rw [← own_eq hb]; exact kp4 _ hg3.1 hg3.2), row_block J3 fun b hb => (by have := hltJ b hb; exact kp4 _ (by omega) (by omega))⟩
 have b4 : Below B w (w3.setCell ⟨w.heap.size, 2, none⟩ (.slice (some ⟨g3, 0, none⟩) VL c3)) := b3.setCell (p := ⟨w.heap.size, 2, none⟩) hB _
 have FB := hide (below_set4n b4 (show B ≤ w.heap.size + 1 by omega) (.bool nd.leaf) (.slice (some ⟨g2, 0, none⟩) KL c2) (.slice (some ⟨g3, 0, none⟩) VL c3) (.slice da nd.kids.length dc))
 have FK : Hid (KEd B (.slice ka nd.keys.length kc) (.slice va nd.vals.length vc) w (S4 (w.heap.size + 1) (w3.setCell ⟨w.heap.size, 2, none⟩ (.slice (some ⟨g3, 0, none⟩) VL c3)) (.bool nd.leaf) (.slice (some ⟨g2, 0, none⟩) KL c2) (.slice (some ⟨g3, 0, none⟩) VL c3) (.slice da nd.kids.length dc))) := by
  obtain ⟨kp2, kpU, bwY⟩ := HKP.out
  refine ⟨fun b hb h1 h2 => (kp4 b (by omega) (by omega)).trans ((kp3 b (by omega) h2).trans ((kpU b (by omega)).trans ((kp2 b (by omega) h1).trans (bwY.block b hb)))), FB.out, ?_⟩
  have s3 := r3.size
  have := bZ.size
  simp [S4]
  omega
 have HR4 := hide R4
 clear D3 R3 K3 J3 D4 R4 d9 b4 o3 r3 l3 DU RU VU JU KU bZ kp3 kp4 b3 bU hdj hg3 hg2n hltK hltV hgeK hgeV hltJ sU hU2 hsY'
 go_wp2
 refine retN rfl rfl (w.heap.size + 1) rfl _ _ (0, 0) (heap_set4 HR4.out _ _ _ _) _ Tryz.underlying98 rfl info_nd10 ?_
 subst hK2 hV3
 exact ⟨_, _, rfl, FN.out, FK.out⟩
theorem OwnT.set {B : Nat} {w : World} {g n c : Nat} {xs : List Str} (h : OwnT B w (.slice (some ⟨g, 0, none⟩) n c) xs) (hn : n = xs.length) {i : Nat} (hi : i < xs.length) (y : Str) : OwnT B (w.setCell ⟨g, i, none⟩ (st y)) (.slice (some ⟨g, 0, none⟩) n c) (xs.set i y) := by
 obtain ⟨g', cap, cur, e, hB, hg, hk, hm, hs, ht⟩ := own_block h (by omega)
 simp only [Value.slice.injEq, Option.some.injEq, Addr.mk.injEq] at e
 obtain ⟨⟨rfl, _⟩, _, rfl⟩ := e
 refine ⟨by simp, .inr ⟨g, c, _, by rw [List.length_set, hn], hB, heap_setN hg i (st y), by rw [List.length_set]; exact hk, hm, by simpa using hs, ?_⟩⟩
 rw [Array.toList_setIfInBounds, List.length_set, List.take_set, ht, List.map_set]
set_option maxRecDepth 100000 in
set_option maxHeartbeats 4000000 in
theorem pputcl_set (B : Nat) (w : World) (nd : Nd) (kv vv dv : Value) (key val : Str) (i : Nat) (gk gl : Nat) (hN : OwnN B w kv vv dv nd) (hD : Dj kv vv dv) (hB : B ≤ w.heap.size) (hlen : nd.keys.length ≤ 1000) (hlv : nd.vals.length = nd.keys.length) (hi : i < nd.keys.length)
  (hv : w.heap[gl]? = some (.cells #[st val] 9 (0, 0))) (hgl : gl < B) :
  Calls Tryz.prog 44 #[nv nd kv vv dv, .int .i64 (i : Int), .bool true, .pointer (some ⟨gl, 0, none⟩), .pointer (some ⟨gk, 0, none⟩)] w fun e w' => ∃ kv' vv', e = .returned (nv ⟨nd.leaf, nd.keys, nd.vals.set i val, nd.kids⟩ kv' vv' dv) ∧ OwnN B w' kv' vv' dv ⟨nd.leaf, nd.keys, nd.vals.set i val, nd.kids⟩ ∧ KEd B kv vv w w' := by
 obtain ⟨W, hW, DW, bW, sW⟩ := boxedN w #[.bool nd.leaf, kv, vv, dv] 98
 obtain ⟨X, hX, DX, bX, sX⟩ := boxedN W #[.bool false, .slice none 0 0, .slice none 0 0, .slice none 0 0] 98
 have bWX := bW.trans (bX.mono bW.size)
 have NX := hN.to bWX
 have D1 := (bX.block _ (lt_of_block DW)).trans DW
 rw [sW] at DX
 have vX := (bWX.block _ (lt_of_block hv)).trans hv
 have hsX : X.heap.size = w.heap.size + 1 + 1 := by rw [sX, sW]
 obtain ⟨gV, cV, cur, rfl, hBV, hgV, hkV, hmV, hsV, htV⟩ := own_block NX.vals (by omega)
 have hvw : gV < w.heap.size := (World.ownsRow.lt hN.vals gV rfl).2
 have hltK : ∀ b, kv.ownBlock = some b → b < w.heap.size := fun b hb => (World.ownsRow.lt hN.keys b hb).2
 have hltJ : ∀ b, dv.ownBlock = some b → b < w.heap.size := fun b hb => (World.ownsRow.lt hN.kids b hb).2
 obtain ⟨U, hU⟩ : ∃ U, U = X.setCell ⟨gV, i, none⟩ (st val) := ⟨_, rfl⟩
 have kpU : ∀ b, b ≠ gV → U.heap[b]? = X.heap[b]? := fun b hb => by rw [hU]; exact Below.heap_setCell _ _ _ _ hb
 have VU : OwnT B U (.slice (some ⟨gV, 0, none⟩) nd.vals.length cV) (nd.vals.set i val) := by rw [hU]; exact NX.vals.set rfl (by omega) val
 have KU : OwnT B U kv nd.keys := row_block NX.keys fun b hb => kpU b (fun e => hD.1 b hb (by rw [e]; rfl))
 have JU : OwnJ B U dv nd.kids := row_block NX.kids fun b hb => kpU b (fun e => hD.2.2 gV rfl (by rw [← e]; exact hb))
 have DU := (kpU w.heap.size (by omega)).trans D1
 have RU := (kpU (w.heap.size + 1) (by omega)).trans DX
 have bU : Below B w U := by rw [hU]; exact (bWX.mono hB).setCell (p := ⟨gV, i, none⟩) hBV _
 obtain ⟨ov, hov⟩ : ∃ x, nd.vals[i]? = some x := ⟨_, List.getElem?_eq_getElem (by omega)⟩
 have cV0 : X.cell? ⟨gV, i, none⟩ = some (st ov) := by
  refine cellN hgV ?_
  have h9 : cur.toList[i]? = (nd.vals.map st)[i]? := by rw [← htV, List.getElem?_take, if_pos (by omega)]
  rw [List.getElem?_map, hov] at h9
  simpa using h9
 have fV : X.frozen? ⟨gV, i, none⟩ = false := frozN hgV i
 obtain ⟨ka, kc, hka⟩ := hN.keys.rd.slice
 obtain ⟨da, dc, hda⟩ := hN.kids.rd.slice
 subst hka hda
 obtain ⟨⟨E0, E1, E2, E3⟩, EF⟩ := cells4 D1
 obtain ⟨⟨P0, P1, P2, P3⟩, PF⟩ := cells4 DU
 obtain ⟨⟨F0, F1, F2, F3⟩, FF⟩ := cells4 RU
 have L0 := cellN vX (i := 0) rfl
 have kp4 : ∀ b, b ≠ w.heap.size + 1 → (S4 (w.heap.size + 1) U (.bool nd.leaf) (.slice ka nd.keys.length kc) (.slice (some ⟨gV, 0, none⟩) nd.vals.length cV) (.slice da nd.kids.length dc)).heap[b]? = U.heap[b]? := fun b h2 => s4_other _ _ _ _ h2
 have FN : Hid (OwnN B (S4 (w.heap.size + 1) U (.bool nd.leaf) (.slice ka nd.keys.length kc) (.slice (some ⟨gV, 0, none⟩) nd.vals.length cV) (.slice da nd.kids.length dc)) (.slice ka nd.keys.length kc) (.slice (some ⟨gV, 0, none⟩) nd.vals.length cV) (.slice da nd.kids.length dc) ⟨nd.leaf, nd.keys, nd.vals.set i val, nd.kids⟩) :=
  ⟨row_block KU fun b hb => kp4 b (by have := hltK b hb; omega), row_block VU fun b hb => kp4 b (by have := own_eq hb; omega), row_block JU fun b hb => kp4 b (by have := hltJ b hb; omega)⟩
 have FB := hide (below_set4n bU (show B ≤ w.heap.size + 1 by omega) (.bool nd.leaf) (.slice ka nd.keys.length kc) (.slice (some ⟨gV, 0, none⟩) nd.vals.length cV) (.slice da nd.kids.length dc))
 have FK : Hid (KEd B (.slice ka nd.keys.length kc) (.slice (some ⟨gV, 0, none⟩) nd.vals.length cV) w (S4 (w.heap.size + 1) U (.bool nd.leaf) (.slice ka nd.keys.length kc) (.slice (some ⟨gV, 0, none⟩) nd.vals.length cV) (.slice da nd.kids.length dc))) := by
  refine ⟨fun b hb h1 h2 => (kp4 b (by omega)).trans ((kpU b (fun e => h2 (by rw [e]; rfl))).trans (bWX.block b hb)), FB.out, ?_⟩
  rw [hU]
  simp [S4]
  omega
 have HR4 := hide RU
 have hi2 : (i : Int) < (nd.vals.length : Int) := by omega
 rw [hU] at P0 P1 P2 P3 PF F0 F1 F2 F3 FF FN FK HR4
 rw [hX, hW] at E0 E1 E2 E3 EF P0 P1 P2 P3 PF F0 F1 F2 F3 FF L0 cV0 fV FN FK HR4
 dsimp only [nv]
 replace hlv := hide hlv
 replace hov := hide hov
 clear hD hN NX D1 DX vX DW bW bX bWX hv hgV htV hsV hkV hmV VU KU JU DU RU bU kp4 kpU hU FB hltK hltJ hW hX hsX sX sW hvw hBV
 go_enter Tryz.func44, Tryz.ntmps44
 go_wp2
 refine retN rfl rfl (w.heap.size + 1) rfl _ _ (0, 0) (heap_set4 HR4.out _ _ _ _) _ Tryz.underlying98 rfl info_nd10 ?_
 exact ⟨_, _, rfl, FN.out, FK.out⟩
end Go.Proofs.YtpiikmkajckccaaGreat

namespace Go.Proofs.YtpiikmkajckccaaGreat
open Go.RowKit
end Go.Proofs.YtpiikmkajckccaaGreat

namespace Go.Proofs.YtpiikmkajckccaaGreat
open Go.RowKit
def LfB (m : Int → Option Value) (b : Nat) : Prop := ∃ i nd kv vv dv, m i = some (nv nd kv vv dv) ∧ nd.leaf = true ∧ (kv.ownBlock = some b ∨ vv.ownBlock = some b)
structure CW (w : World) (B g bm k : Nat) (l : List Wrt) (m : Int → Option Value) : Prop where
 s : w.cell? ⟨g, 3, none⟩ = some (.map (some bm))
 map : MapI w bm k m
 nds : ∀ i v, m i = some v → NdOf l B w i v
 apt : ∀ i j v u, m i = some v → m j = some u → i ≠ j → ∀ b, RowOf v b → ¬ RowOf u b
 hg : g < B
 hm : bm < B
theorem CW.to {w w' : World} {B g bm k : Nat} {l : List Wrt} {m : Int → Option Value} (h : CW w B g bm k l m) (b : Below w.heap.size w w') : CW w' B g bm k l m := by
 refine ⟨(b.cell (cell_lt h.s)).trans h.s, h.map.kept (b.block _ h.map.lt), fun i v hv => ?_, h.apt, h.hg, h.hm⟩
 obtain ⟨x, nd, kv, vv, dv, h1, h2, h3, h4, h5⟩ := h.nds i v hv
 exact ⟨x, nd, kv, vv, dv, h1, h2, h3, h4.to b, h5⟩
theorem nv_inj {a b : Nd} {k1 v1 d1 k2 v2 d2 : Value} (h : nv a k1 v1 d1 = nv b k2 v2 d2) : a.leaf = b.leaf ∧ k1 = k2 ∧ v1 = v2 ∧ d1 = d2 := by
 simp only [nv, Value.agg.injEq, Array.mk.injEq, List.cons.injEq, Value.bool.injEq, and_true] at h
 exact ⟨h.1, h.2.1, h.2.2.1, h.2.2.2⟩
theorem CW.leaf {w : World} {B g bm k : Nat} {l : List Wrt} {m : Int → Option Value} (h : CW w B g bm k l m) {b : Nat} (hb : LfB m b) : B ≤ b ∧ b < w.heap.size := by
 obtain ⟨i, nd, kv, vv, dv, h1, h2, h3⟩ := hb
 obtain ⟨x, nd', kv', vv', dv', q1, q2, q3, q4, q5⟩ := h.nds i _ h1
 obtain ⟨_, rfl, rfl, rfl⟩ := nv_inj q3
 rcases h3 with h3 | h3
 ·exact World.ownsRow.lt q4.keys b h3
 ·exact World.ownsRow.lt q4.vals b h3
theorem CW.inner {w : World} {B g bm k : Nat} {l : List Wrt} {m : Int → Option Value} (h : CW w B g bm k l m) {j : Int} {nd : Nd} {kv vv dv : Value} (hj : m j = some (nv nd kv vv dv)) (hl : nd.leaf = false) {b : Nat} (hb : RowOf (nv nd kv vv dv) b) : ¬ LfB m b := by
 rintro ⟨i, nd', kv', vv', dv', h1, h2, h3⟩
 by_cases e : i = j
 ·subst e
  rw [hj] at h1
  have := nv_inj (Option.some.inj h1)
  rw [hl, h2] at this
  cases this.1
 ·refine h.apt i j _ _ h1 hj e b ⟨_, _, _, _, rfl, ?_⟩ hb
  rcases h3 with h3 | h3
  ·exact .inl h3
  ·exact .inr (.inl h3)
structure KRb (B gc : Nat) (m : Int → Option Value) (av : Value) (w w' : World) : Prop where
 keep : ∀ b, b < w.heap.size → b ≠ gc → ¬ LfB m b → w'.heap[b]? = w.heap[b]?
 row : ∀ b, av.ownBlock = some b → w.heap.size ≤ b
 bel : Below B w w'
 size : w.heap.size ≤ w'.heap.size
theorem KRb.first {B gc : Nat} {m : Int → Option Value} {av : Value} {u w w' : World} (b : Below u.heap.size u w) (hB : B ≤ u.heap.size) (h : KRb B gc m av w w') : KRb B gc m av u w' :=
 ⟨fun i h1 h2 h3 => (h.keep i (Nat.lt_of_lt_of_le h1 b.size) h2 h3).trans (b.block i h1), fun i hi => Nat.le_trans b.size (h.row i hi), (b.mono hB).trans h.bel, Nat.le_trans b.size h.size⟩
theorem KRb.then {B gc : Nat} {m : Int → Option Value} {av av' : Value} {u w w' : World} (h : KRb B gc m av u w) (k : KCh B gc av av' w w') : KRb B gc m av' u w' :=
 ⟨fun i h1 h2 h3 => (k.keep i (Nat.lt_of_lt_of_le h1 h.size) h2 (fun e => by have := h.row i e; omega)).trans (h.keep i h1 h2 h3), fun i hi => by
  rcases k.row i hi with q | q
  ·exact h.row i q
  ·exact Nat.le_trans h.size q, h.bel.trans k.bel, Nat.le_trans h.size k.size⟩
def RbR (B gc g : Nat) (next : Int) (l : List Wrt) (m : Int → Option Value) (d : Nat) (key : Str) (ed : Nd → Nd) (n : Nd) (w w' : World) (e : Ending) : Prop :=
 ∃ kv' vv' dv' av' ns', e = .returned (nv (rebOf l next key ed d n []).1 kv' vv' dv') ∧ RdK w' kv' vv' dv' (rebOf l next key ed d n []).1 ∧ ChI B w' gc g next av' ns' ∧ AllK w' ns' ∧ ns'.map (·.1) = (rebOf l next key ed d n []).2 ∧ KRb B gc m av' w w'
set_option maxRecDepth 100000 in
set_option maxHeartbeats 4000000 in
theorem preb_leaf (B : Nat) (w : World) (gc : Nat) (nd : Nd) (kv vv dv : Value) (key : Str) (F : Nat) (caps : Array Value) (hB : B ≤ w.heap.size) (hr : RdN w kv vv dv nd) (hfit : nfit nd) (hl : nd.leaf = true) (nd' : Nd)
  (hF : ∀ u, Below w.heap.size w u → Calls Tryz.prog F (#[nv nd kv vv dv, .int .i64 (nfind nd key), .bool (nhas nd key)] ++ caps) u fun e u' => ∃ kv' vv' dv', e = .returned (nv nd' kv' vv' dv') ∧ OwnN B u' kv' vv' dv' nd' ∧ KEd B kv vv u u')
  (hlt : ∀ b, kv.ownBlock = some b ∨ vv.ownBlock = some b → b < w.heap.size)
  (he : ∀ args u, (callFunc F args).run Tryz.prog u = .ok (.enter F args) u) :
  Calls Tryz.prog 62 #[.pointer (some ⟨gc, 0, none⟩), nv nd kv vv dv, st key, .func (.func F) #[] caps] w fun e w' => ∃ kv' vv' dv', e = .returned (nv nd' kv' vv' dv') ∧ OwnN B w' kv' vv' dv' nd' ∧ KEd B kv vv w w' := by
 obtain ⟨W, hW, DW, bW, sW⟩ := boxedN w #[.bool nd.leaf, kv, vv, dv] 98
 obtain ⟨X, hX, DX, bX, sX⟩ := boxedN W #[.bool false, .slice none 0 0, .slice none 0 0, .slice none 0 0] 98
 have bWX := bW.trans (bX.mono bW.size)
 have KF := hide (pfind9_any X kv vv dv nd key (hr.to bWX) hfit)
 have D1 := (bX.block _ (lt_of_block DW)).trans DW
 rw [sW] at DX
 have HD := hide (And.intro D1 DX)
 have BX := hide bWX
 replace hlt := hide hlt
 obtain ⟨ka, kc, va, vc, da, dc, rfl, rfl, rfl⟩ := hr.slices
 obtain ⟨⟨E0, E1, E2, E3⟩, EF⟩ := cells4 D1
 obtain ⟨⟨F0, F1, F2, F3⟩, FF⟩ := cells4 DX
 dsimp only [nv] at KF ⊢
 rw [hX, hW] at E0 E1 E2 E3 EF F0 F1 F2 F3 FF KF
 replace hF := hide hF
 have HL := hide hl
 clear hl DW DX bW bX bWX D1 hr
 go_enter Tryz.func62, Tryz.ntmps62
 go_wp2_with fail
 refine KF.out.mono ?_
 rintro e w1 ⟨rfl, b1⟩
 rw [← hW, ← hX] at b1
 clear E0 E1 E2 E3 EF F0 F1 F2 F3 FF KF
 have B1 := hide (BX.out.trans (b1.mono BX.out.size))
 have D1 := (b1.block _ (lt_of_block HD.out.1)).trans HD.out.1
 have R1 := (b1.block _ (lt_of_block HD.out.2)).trans HD.out.2
 have HR := hide R1
 obtain ⟨⟨E0, E1, E2, E3⟩, EF⟩ := cells4 D1
 rw [HL.out] at E0
 have KF2 := hide (hF.out w1 B1.out)
 dsimp only [nv] at KF2
 rw [HL.out] at KF2
 replace hX := hide hX
 replace hW := hide hW
 clear D1 R1 b1 HD
 go_wp2_with fail
 refine KF2.out.mono ?_
 rintro e w2 ⟨kv', vv', dv', rfl, o2, k2⟩
 obtain ⟨ka', kc', va', vc', da', dc', rfl, rfl, rfl⟩ := o2.rd.slices
 have hn1 : ∀ q, q = w.heap.size ∨ q = w.heap.size + 1 → (Value.slice ka nd.keys.length kc).ownBlock ≠ some q ∧ (Value.slice va nd.vals.length vc).ownBlock ≠ some q := fun q hq => ⟨fun e => by have := hlt.out q (.inl e); omega, fun e => by have := hlt.out q (.inr e); omega⟩
 have R2 := (k2.keep _ (lt_of_block HR.out) (hn1 _ (.inr rfl)).1 (hn1 _ (.inr rfl)).2).trans HR.out
 have HR2 := hide R2
 obtain ⟨⟨F0, F1, F2, F3⟩, FF⟩ := cells4 R2
 have O2 := hide o2
 have K2 := hide k2
 have hB1 : Hid (B ≤ w1.heap.size) := Nat.le_trans hB B1.out.size
 clear o2 k2 R2 E0 E1 E2 E3 EF KF2 hF
 dsimp only [nv]
 go_wp2
 refine retN rfl rfl (w.heap.size + 1) rfl _ _ (0, 0) (heap_set4 HR2.out _ _ _ _) _ Tryz.underlying98 rfl info_nd10 ?_
 have k := fun e (he : e ≠ 98) => s4_keep HR2.out (.bool nd'.leaf) (.slice ka' nd'.keys.length kc') (.slice va' nd'.vals.length vc') (.slice da' nd'.kids.length dc') he
 have fb := below_set4n ((B1.out.mono hB).trans K2.out.bel) (show B ≤ w.heap.size + 1 by omega) (.bool nd'.leaf) (.slice ka' nd'.keys.length kc') (.slice va' nd'.vals.length vc') (.slice da' nd'.kids.length dc')
 refine ⟨_, _, _, rfl, O2.out.keepT (k _ (by decide)) (k _ (by decide)), ⟨fun b hb h1 h2 => ?_, fb, fb.size⟩⟩
 exact (s4_other _ _ _ _ (show b ≠ w.heap.size + 1 by omega)).trans ((K2.out.keep b (Nat.lt_of_lt_of_le hb B1.out.size) h1 h2).trans (B1.out.block b hb))
end Go.Proofs.YtpiikmkajckccaaGreat

namespace Go.Proofs.YtpiikmkajckccaaGreat
open Go.RowKit
structure R4 (B gc g : Nat) (next : Int) (m : Int → Option Value) (M : Nd) (AD : List Nd) (n : Nd) (kv vv dv : Value) (w wx : World) (g12 : Nat) (kv' vv' dv' av' : Value) (ns' : List NV) : Prop where
 b12 : wx.heap[g12]? = some (.cells #[.bool M.leaf, kv', vv', dv'] 98 (0, 0))
 rd : RdK wx kv' vv' dv' M
 ch : ChI B wx gc g next av' ns'
 al : AllK wx ns'
 eq : ns'.map (·.1) = AD
 kr : KRb B gc m av' w wx
 nb : wx.heap[w.heap.size]? = some (.cells #[.bool false, kv, vv, dv] 98 (0, 0))
 rb : wx.heap[w.heap.size + 1]? = some (.cells #[.bool false, .slice none 0 0, .slice none 0 0, .slice none 0 0] 98 (0, 0))
 l12 : w.heap.size + 1 < g12
 na : ∀ b, av'.ownBlock = some b → b ≠ g12 ∧ b ≠ w.heap.size ∧ b ≠ w.heap.size + 1
theorem R4.to {B gc g : Nat} {next : Int} {m : Int → Option Value} {M : Nd} {AD : List Nd} {n : Nd} {kv vv dv : Value} {w wx wy : World} {g12 : Nat} {kv' vv' dv' av' : Value} {ns' : List NV} (h : R4 B gc g next m M AD n kv vv dv w wx g12 kv' vv' dv' av' ns') (b : Below wx.heap.size wx wy) (hB : B ≤ w.heap.size) : R4 B gc g next m M AD n kv vv dv w wy g12 kv' vv' dv' av' ns' :=
 ⟨(b.block _ (lt_of_block h.b12)).trans h.b12, h.rd.to b, h.ch.to b, h.al.to b, h.eq, h.kr.then (KCh.of b (Nat.le_trans hB h.kr.size)), (b.block _ (lt_of_block h.nb)).trans h.nb, (b.block _ (lt_of_block h.rb)).trans h.rb, h.l12, h.na⟩
theorem R4.put {B gc g : Nat} {next : Int} {m : Int → Option Value} {M J : Nd} {AD : List Nd} {n : Nd} {kv vv dv : Value} {w wx : World} {g12 : Nat} {kv' vv' dv' av' : Value} {ns' : List NV} (h : R4 B gc g next m M AD n kv vv dv w wx g12 kv' vv' dv' av' ns') (hB : B ≤ w.heap.size) (hgc : gc < w.heap.size) (hg : g < w.heap.size) {jk jv jd : Value} (hj : RdK wx jk jv jd J) :
  R4 B gc g next m J AD n kv vv dv w (S4 g12 wx (.bool J.leaf) jk jv jd) g12 jk jv jd av' ns' := by
 have kt : ∀ e, e ≠ 98 → KeepT e wx (S4 g12 wx (.bool J.leaf) jk jv jd) := fun e he => s4_keep h.b12 _ _ _ _ he
 have hot : ∀ b, b ≠ g12 → (S4 g12 wx (.bool J.leaf) jk jv jd).heap[b]? = wx.heap[b]? := fun b hb => s4_other _ _ _ _ hb
 have l12 := h.l12
 refine ⟨heap_set4 h.b12 _ _ _ _, hj.keepT (kt _ (by decide)) (kt _ (by decide)), ⟨(hot gc (by omega)).trans h.ch.box, row_block h.ch.row fun b hb => hot b (h.na b hb).1, ?_, h.ch.hC⟩, h.al.keepT (kt _ (by decide)) (kt _ (by decide)), h.eq, ⟨fun b h1 h2 h3 => (hot b (by omega)).trans (h.kr.keep b h1 h2 h3), h.kr.row, below_set4n h.kr.bel (by omega) _ _ _ _, ?_⟩, (hot _ (by omega)).trans h.nb, (hot _ (by omega)).trans h.rb, l12, h.na⟩
 ·have e1 := hot g (by omega)
  have := h.ch.nxt
  simp only [World.cell?] at this ⊢
  rw [e1]; exact this
 ·have := h.kr.size
  simpa [S4] using this
def RbX (B gc g : Nat) (next : Int) (m : Int → Option Value) (M : Nd) (AD : List Nd) (w w' : World) (e : Ending) : Prop :=
 ∃ kv' vv' dv' av' ns', e = .returned (nv M kv' vv' dv') ∧ RdK w' kv' vv' dv' M ∧ ChI B w' gc g next av' ns' ∧ AllK w' ns' ∧ ns'.map (·.1) = AD ∧ KRb B gc m av' w w'
def rbJ (l : List Wrt) (n : Nd) (kx : Nat) (M : Nd) : Nd := if bareB M = true then joinOf l n (kx - 1) kx M else M
def rbF (kx : Nat) (M : Nd) : Nat := if bareB M = true then kx - 1 else kx
def rbT (kx : Nat) (M : Nd) : Nat := if bareB M = true then kx - 1 + 2 else kx + 1
theorem reb_eq {l : List Wrt} {next : Int} {key : Str} {ed : Nd → Nd} {d : Nat} {n nd : Nd} {kx : Nat} (h1 : (nfind n key).toNat = kx) (h2 : nodeAt l (n.kids.getD kx 0) = nd) :
  rebOf l next key ed (d + 1) n [] = (inr (rplc (brs n) (rbF kx (rebOf l next key ed d nd []).1) (rbT kx (rebOf l next key ed d nd []).1) (laidOf next (rebOf l next key ed d nd []).2 (rbJ l n kx (rebOf l next key ed d nd []).1) ((brs n).getD (rbF kx (rebOf l next key ed d nd []).1) ([], 0)).1).1), (laidOf next (rebOf l next key ed d nd []).2 (rbJ l n kx (rebOf l next key ed d nd []).1) ((brs n).getD (rbF kx (rebOf l next key ed d nd []).1) ([], 0)).1).2) := by
 simp only [rebOf]
 rw [h1, h2]
 unfold rbF rbT rbJ
 split <;> rfl
theorem RdK.krb {B gc : Nat} {m : Int → Option Value} {av kv vv dv : Value} {n : Nd} {w w' : World} {cs : Array Value} {fr : Nat × Nat} (h : RdK w kv vv dv n) (hL : ∀ b, RowOf (nv n kv vv dv) b → ¬ LfB m b) (k : KRb B gc m av w w') (hc : w.heap[gc]? = some (.cells cs 128 fr)) : RdK w' kv vv dv n := by
 have hk : ∀ (T : TypeId) (v : Value), T ≠ 128 → TyB w v T → (∀ b, v.ownBlock = some b → RowOf (nv n kv vv dv) b) → ∀ b, v.ownBlock = some b → w'.heap[b]? = w.heap[b]? := fun T v hT ht hr b hb => by
  obtain ⟨cur, fr', e⟩ := ht b hb
  refine k.keep b (lt_of_block e) (fun e9 => ?_) (hL b (hr b hb))
  subst e9
  rw [hc] at e
  simp only [Option.some.injEq, Obj.cells.injEq] at e
  exact hT e.2.1.symm
 have k1 := hk _ kv (by decide) h.tk (fun b hb => ⟨_, _, _, _, rfl, .inl hb⟩)
 have k2 := hk _ vv (by decide) h.tv (fun b hb => ⟨_, _, _, _, rfl, .inr (.inl hb)⟩)
 have k3 := hk _ dv (by decide) h.td (fun b hb => ⟨_, _, _, _, rfl, .inr (.inr hb)⟩)
 refine ⟨⟨rdT_block h.rd.keys k1, rdT_block h.rd.vals k2, rdI_block h.rd.kids k3⟩, fun b hb => ?_, fun b hb => ?_, fun b hb => ?_⟩
 ·obtain ⟨cur, fr', e⟩ := h.tk b hb
  exact ⟨cur, fr', (k1 b hb).trans e⟩
 ·obtain ⟨cur, fr', e⟩ := h.tv b hb
  exact ⟨cur, fr', (k2 b hb).trans e⟩
 ·obtain ⟨cur, fr', e⟩ := h.td b hb
  exact ⟨cur, fr', (k3 b hb).trans e⟩
theorem join_zero {l : List Wrt} {n M sb : Nd} {c : Br} (h1 : n.kids[1]? = some c.2) (h2 : n.keys[0]? = some c.1) (h3 : NdIs l c.2 sb) : joinOf l n (0 - 1) 0 M = inr (brs M ++ (c.1, sb.kids.headD 0) :: (brs sb).tail) := by
 unfold joinOf
 simp only [Nat.zero_sub, if_true, Nat.zero_add]
 have q1 : n.kids.getD 1 0 = c.2 := by rw [List.getD_eq_getElem?_getD, h1]; rfl
 have q2 : n.keys.getD 0 [] = c.1 := by rw [List.getD_eq_getElem?_getD, h2]; rfl
 rw [q1, q2, h3.at]
theorem join_succ {l : List Wrt} {n M sb : Nd} {i : Nat} {c : Int} {x : Str} (h1 : n.kids[i]? = some c) (h2 : n.keys[i]? = some x) (h3 : NdIs l c sb) : joinOf l n (i + 1 - 1) (i + 1) M = inr (brs sb ++ (x, M.kids.headD 0) :: (brs M).tail) := by
 unfold joinOf
 rw [Nat.add_sub_cancel, if_neg (by omega), if_neg (by omega)]
 have q1 : n.kids.getD i 0 = c := by rw [List.getD_eq_getElem?_getD, h1]; rfl
 have q2 : n.keys.getD i [] = x := by rw [List.getD_eq_getElem?_getD, h2]; rfl
 rw [q1, q2, h3.at]
theorem R4.fin {B gc g : Nat} {next : Int} {m : Int → Option Value} {J M' : Nd} {AD AD2 : List Nd} {n : Nd} {kv vv dv : Value} {w w3 w4 w5 w6 : World} {g12 gb C L cap : Nat} {jk jv jd av av2 kI dI : Value} {ns ns2 : List NV} {bs : List Br}
  (h : R4 B gc g next m J AD n kv vv dv w w3 g12 jk jv jd av ns) (hB : B ≤ w.heap.size) (hgc : gc < w.heap.size) (hg : g < w.heap.size) (hC : w.heap.size + 1 < C) (hav : ∀ b, av.ownBlock = some b → b < C) (hCb : C ≤ gb) (hb3 : gb < w3.heap.size)
  (k4 : KCh B gc av av2 w3 w4) (c4 : ChI B w4 gc g next av2 ns2) (al4 : AllK w4 ns2) (e4 : ns2.map (·.1) = AD2) (o4 : OwnBr C w4 (.slice (some ⟨gb, 0, none⟩) L cap) bs) (gr : w4.grownBy w5 (some gb)) (b6 : Below w5.heap.size w5 w6) (oI : OwnN w5.heap.size w6 kI (.slice none 0 0) dI M') (hM : M'.leaf = false) :
  w6.heap[w.heap.size + 1]? = some (.cells #[.bool false, .slice none 0 0, .slice none 0 0, .slice none 0 0] 98 (0, 0)) ∧ RbX B gc g next m M' AD2 w (S4 (w.heap.size + 1) w6 (.bool false) kI (.slice none 0 0) dI) (.returned (nv M' kI (.slice none 0 0) dI)) := by
 have ha2 : ∀ b, av2.ownBlock = some b → b ≠ gb ∧ b ≠ w.heap.size + 1 := fun b hb => by
  rcases k4.row b hb with q | q
  ·have := hav b q
   exact ⟨by omega, (h.na b q).2.2⟩
  ·exact ⟨by omega, by omega⟩
 have rb4 := (k4.keep _ (lt_of_block h.rb) (by omega) (fun e => (h.na _ e).2.2 rfl)).trans h.rb
 have hst : ∀ b, b < w4.heap.size → b ≠ gb → w6.heap[b]? = w4.heap[b]? := fun b h1 h2 => (b6.block b (Nat.lt_of_lt_of_le h1 gr.size)).trans (gr.block b h1 (fun e => h2 (Option.some.inj e)))
 have rb6 := (hst _ (lt_of_block rb4) (by omega)).trans rb4
 have kt : ∀ e, e ≠ 98 → KeepT e w6 (S4 (w.heap.size + 1) w6 (.bool false) kI (.slice none 0 0) dI) := fun e he => s4_keep rb6 _ _ _ _ he
 have hot : ∀ b, b ≠ w.heap.size + 1 → (S4 (w.heap.size + 1) w6 (.bool false) kI (.slice none 0 0) dI).heap[b]? = w6.heap[b]? := fun b hb => s4_other _ _ _ _ hb
 have hall : ∀ b, b < w4.heap.size → b ≠ gb → b ≠ w.heap.size + 1 → (S4 (w.heap.size + 1) w6 (.bool false) kI (.slice none 0 0) dI).heap[b]? = w4.heap[b]? := fun b h1 h2 h3 => (hot b h3).trans (hst b h1 h2)
 have k46 : ∀ e, e ≠ 162 → e ≠ 98 → KeepT e w4 (S4 (w.heap.size + 1) w6 (.bool false) kI (.slice none 0 0) dI) := fun e h1 h2 => ((KeepT.grown o4 gr h1).trans (KeepT.below b6)).trans (kt e h2)
 have kr4 := h.kr.then k4
 have hs4 := kr4.size
 refine ⟨rb6, kI, .slice none 0 0, dI, av2, ns2, rfl, oI.rdk.keepT (kt _ (by decide)) (kt _ (by decide)), ⟨(hall gc (by omega) (by omega) (by omega)).trans c4.box, row_block c4.row fun b hb => hall b (World.ownsRow.lt c4.row b hb).2 (ha2 b hb).1 (ha2 b hb).2, ?_, c4.hC⟩, al4.keepT (k46 _ (by decide) (by decide)) (k46 _ (by decide) (by decide)), e4, ⟨fun b h1 h2 h3 => (hall b (by omega) (by omega) (by omega)).trans (kr4.keep b h1 h2 h3), kr4.row, ?_, ?_⟩⟩
 ·have e1 := hall g (by omega) (by omega) (by omega)
  have := c4.nxt
  simp only [World.cell?] at this ⊢
  rw [e1]; exact this
 ·have hs5 := gr.size
  exact below_set4n (((kr4.bel.grown gr (by omega) (fun k e => by cases e; omega))).trans (b6.mono (by omega))) (by omega) _ _ _ _
 ·have := b6.size
  have := gr.size
  simp only [S4, World.setCell, Array.size_modify]
  omega
def SibOk (B : Nat) (w : World) (l : List Wrt) (m : Int → Option Value) (b : Br) : Prop := ∃ sb sk sv sd, NdIs l b.2 sb ∧ sb.leaf = false ∧ m b.2 = some (nv sb sk sv sd) ∧ (Lit.int .i64 b.2).wf = true ∧ RdK w sk sv sd sb ∧ ∀ q, RowOf (nv sb sk sv sd) q → ¬ LfB m q
set_option maxRecDepth 100000 in
set_option maxHeartbeats 16000000 in
theorem preb_step (B gc g bm k : Nat) (next : Int) (l : List Wrt) (m : Int → Option Value) (d : Nat) (n : Nd) (kv vv dv : Value) (key : Str) (Fn : Nat) (caps : Array Value) (ed : Nd → Nd) (w : World) (kx : Nat) (P : List Br) (X : Br) (S : List Br) (nd : Nd) (lo' : Str) (hi' : Option Str) (kk kvv kd : Value)
  (hC : CW w B g bm k l m) (hh : ChI B w gc g next (.slice none 0 0) []) (hB : B ≤ w.heap.size) (hgc : gc ≠ g) (hnx : 0 ≤ next ∧ next ≤ 65536) (hd : d ≤ 20) (hn : RdK w kv vv dv n) (hnr : ∀ b, RowOf (nv n kv vv dv) b → ¬ LfB m b) (hok : NOk n) (hl : n.leaf = false) (hlen : n.keys.length ≤ 200)
  (W : Way l d n key kx P X S nd lo' hi') (hm : m X.2 = some (nv nd kk kvv kd)) (hwf : (Lit.int .i64 X.2).wf = true) (hsib : ∀ (i : Nat) (b : Br), bareB (rebOf l next key ed d nd []).1 = true → (P ++ [X] ++ S)[i]? = some b → SibOk B w l m b)
  (IH : ∀ u, Below w.heap.size w u → Calls Tryz.prog 62 #[.pointer (some ⟨gc, 0, none⟩), nv nd kk kvv kd, st key, .func (.func Fn) #[] caps] u fun e u' => RbR B gc g next l m d key ed nd u u' e) (hsh : ShN d (rebOf l next key ed d nd []).1) :
  Calls Tryz.prog 62 #[.pointer (some ⟨gc, 0, none⟩), nv n kv vv dv, st key, .func (.func Fn) #[] caps] w fun e w' => RbR B gc g next l m (d + 1) key ed n w w' e := by
 have hfk : (nfind n key).toNat = kx := by rw [W.fnd]; simp
 have hgk : n.kids.getD kx 0 = X.2 := by rw [List.getD_eq_getElem?_getD, W.kid]; rfl
 have hreb := hide (reb_eq (l := l) (next := next) (key := key) (ed := ed) (d := d) (nd := nd) hfk (by rw [hgk]; exact W.isn.at))
 obtain ⟨MM, hMM⟩ : ∃ M, M = (rebOf l next key ed d nd []).1 := ⟨_, rfl⟩
 obtain ⟨AD, hAD⟩ : ∃ A, A = (rebOf l next key ed d nd []).2 := ⟨_, rfl⟩
 rw [← hMM, ← hAD] at hreb
 rw [← hMM] at hsh hsib
 have hkids : n.kids.length = n.keys.length + 1 := kids_len hok hl
 have hbrl : (brs n).length = n.kids.length := brs_len hkids
 obtain ⟨ka, kc, va, vc, da, dc, e1, e2, e3⟩ := hn.rd.slices
 obtain ⟨db, dO, e4, hcd⟩ := (show RdI w (.slice da n.kids.length dc) n.kids by rw [← e3]; exact hn.rd.kids).intAt W.kid
 subst e4
 subst e1 e2 e3
 obtain ⟨W1, hW1, D1, b1, s1⟩ := boxedN w #[.bool n.leaf, .slice ka n.keys.length kc, .slice va n.vals.length vc, .slice (some ⟨db, dO, none⟩) n.kids.length dc] 98
 obtain ⟨X1, hX1, D2, b2, s2⟩ := boxedN W1 #[.bool false, .slice none 0 0, .slice none 0 0, .slice none 0 0] 98
 have bX := b1.trans (b2.mono b1.size)
 have DN := (b2.block _ (lt_of_block D1)).trans D1
 rw [s1] at D2
 have KF := hide (pfind9_any X1 _ _ _ n key (hn.rd.to bX) hok.fit)
 have hgcw : gc < w.heap.size := lt_of_block hh.box
 have hgw : g < w.heap.size := cell_lt hh.nxt
 have hdbw : db < w.heap.size := cell_lt hcd
 have hdbL : ¬ LfB m db := hnr db ⟨_, _, _, _, rfl, .inr (.inr rfl)⟩
 have HNL : Hid (∀ b, w.heap.size ≤ b → ¬ LfB m b) := fun b hb hL => by have := (hC.leaf hL).2; omega
 have HBL : Hid (∀ b, b < B → ¬ LfB m b) := fun b hb hL => by have := (hC.leaf hL).1; omega
 have hkxl : kx < n.kids.length := (List.getElem?_eq_some_iff.1 W.kid).1
 have HX := hide (And.intro DN (And.intro D2 bX))
 have HC := hide hC
 have HH := hide hh
 have HN := hide hn
 have HNR := hide hnr
 obtain ⟨⟨E0, E1, E2, E3⟩, EF⟩ := cells4 DN
 have HS : Hid (∀ w' {av' : Value} {ns' : List NV}, KRb B gc m av' w w' → ChI B w' gc g next av' ns' → w'.cell? ⟨w.heap.size, 3, none⟩ = some (.slice (some ⟨db, dO, none⟩) n.kids.length dc) → (w'.cell? ⟨gc, 0, none⟩ = some (.pointer (some ⟨g, 0, none⟩)) ∧ w'.cell? ⟨g, 3, none⟩ = some (.map (some bm)) ∧ w'.cell? ⟨w.heap.size, 3, none⟩ = some (.slice (some ⟨db, dO, none⟩) n.kids.length dc)) ∧ w'.cell? ⟨db, dO + kx, none⟩ = some (.int .i64 X.2) ∧ MapI w' bm k m) := fun w' av' ns' kr c h3 => by
  have hkc : ∀ b j u, w.cell? ⟨b, j, none⟩ = some u → b ≠ gc → ¬ LfB m b → w'.cell? ⟨b, j, none⟩ = some u := fun b j u hc h1 h2 => by
   have e9 := kr.keep b (cell_lt hc) h1 h2
   simp only [World.cell?] at hc ⊢
   rw [e9]; exact hc
  refine ⟨⟨cellN c.box rfl, hkc _ _ _ hC.s (Ne.symm hgc) (HBL.out g hC.hg), h3⟩, hkc _ _ _ hcd ?_ hdbL, hC.map.kept (kr.keep bm hC.map.lt (hC.map.ne hh.box) (HBL.out bm hC.hm))⟩
  intro e9
  subst e9
  obtain ⟨cur, fr, e8⟩ := hn.td db rfl
  rw [hh.box] at e8
  simp at e8
 have HS2 : Hid (∀ u d2 : World, ((u.cell? ⟨gc, 0, none⟩ = some (.pointer (some ⟨g, 0, none⟩)) ∧ u.cell? ⟨g, 3, none⟩ = some (.map (some bm)) ∧ u.cell? ⟨w.heap.size, 3, none⟩ = some (.slice (some ⟨db, dO, none⟩) n.kids.length dc)) ∧ u.cell? ⟨db, dO + kx, none⟩ = some (.int .i64 X.2) ∧ MapI u bm k m) → Below u.heap.size u d2 → (d2.cell? ⟨gc, 0, none⟩ = some (.pointer (some ⟨g, 0, none⟩)) ∧ d2.cell? ⟨g, 3, none⟩ = some (.map (some bm)) ∧ d2.cell? ⟨w.heap.size, 3, none⟩ = some (.slice (some ⟨db, dO, none⟩) n.kids.length dc)) ∧ d2.cell? ⟨db, dO + kx, none⟩ = some (.int .i64 X.2) ∧ MapI d2 bm k m) := fun u d2 ⟨⟨h1, h2, h3⟩, h4, h5⟩ q => ⟨⟨(q.cell (cell_lt h1)).trans h1, (q.cell (cell_lt h2)).trans h2, (q.cell (cell_lt h3)).trans h3⟩, (q.cell (cell_lt h4)).trans h4, h5.kept (q.block _ h5.lt)⟩
 have hfnd := hide W.fnd
 have HW := hide W
 have IH' : Hid (∀ u, Below w.heap.size w u → Calls Tryz.prog 62 #[.pointer (some ⟨gc, 0, none⟩), nv nd kk kvv kd, st key, .func (.func Fn) #[] caps] u fun e u' => RbX B gc g next m MM AD u u' e) := fun u b => (IH u b).mono fun e u' h9 => by
  rw [hMM, hAD]
  exact h9
 clear IH
 have IH := IH'
 clear IH'
 replace hm := hide hm
 replace hwf := hide hwf
 replace hsh := hide hsh
 replace hsib := hide hsib
 have HOK := hide hok
 have HLF := hide hl
 rw [W.fnd] at KF
 rw [hl] at hW1 E0 HX
 dsimp only [nv] at KF ⊢
 rw [hl] at KF ⊢
 generalize hZ : n.kids.length = Z at *
 generalize hKN : n.keys.length = KN at *
 generalize hVN : n.vals.length = VN at *
 replace hZ := hide hZ
 replace hKN := hide hKN
 replace hVN := hide hVN
 replace hkids := hide hkids
 replace hbrl := hide hbrl
 replace hMM := hide hMM
 replace hAD := hide hAD
 rw [hX1, hW1] at E0 E1 E2 E3 EF KF
 clear D1 D2 b1 b2 s1 s2 bX DN hn hnr hC hok hl W hfk hgk
 go_enter Tryz.func62, Tryz.ntmps62
 go_wp2_with fail
 refine KF.out.mono ?_
 rintro e w1 ⟨rfl, b1⟩
 rw [← hW1, ← hX1] at b1
 clear E0 E1 E2 E3 EF KF
 replace hW1 := hide hW1
 replace hX1 := hide hX1
 have NB1 := (b1.block _ (lt_of_block HX.out.1)).trans HX.out.1
 have RB1 := (b1.block _ (lt_of_block HX.out.2.1)).trans HX.out.2.1
 have bw1 := HX.out.2.2.trans (b1.mono HX.out.2.2.size)
 have H1 := hide (And.intro NB1 (And.intro RB1 bw1))
 obtain ⟨⟨E0, E1, E2, E3⟩, EF⟩ := cells4 NB1
 clear NB1 RB1 bw1 b1
 go_upto_region 4 with fail
 clear E0 E1 E2 E3 EF
 go_cut [12] from 31 to 47 (fun p12 wx => ∃ (g12 : Nat) (kv' vv' dv' av' : Value) (ns' : List NV), p12 = .pointer (some ⟨g12, 0, none⟩) ∧ Hid (R4 B gc g next m MM AD n (.slice ka KN kc) (.slice va VN vc) (.slice (some ⟨db, dO, none⟩) Z dc) w wx g12 kv' vv' dv' av' ns'))
 case first =>
  obtain ⟨NB1, RB1, bw1⟩ := H1.out
  have b0 : Below w1.heap.size w1 w1.drew := below_drewN' w1 1 _
  have NB0 := (b0.block _ (lt_of_block NB1)).trans NB1
  have RB0 := (b0.block _ (lt_of_block RB1)).trans RB1
  have bwc := bw1.trans (b0.mono bw1.size)
  refine wp_region_fan (fun w' => (w'.cell? ⟨gc, 0, none⟩ = some (.pointer (some ⟨g, 0, none⟩)) ∧ w'.cell? ⟨g, 3, none⟩ = some (.map (some bm)) ∧ w'.cell? ⟨w.heap.size, 3, none⟩ = some (.slice (some ⟨db, dO, none⟩) Z dc)) ∧ w'.cell? ⟨db, dO + kx, none⟩ = some (.int .i64 X.2) ∧ MapI w' bm k m) 18 mixed (by simp) ?_
  generalize w1.drew = c0 at *
  have S0 : (c0.cell? ⟨gc, 0, none⟩ = some (.pointer (some ⟨g, 0, none⟩)) ∧ c0.cell? ⟨g, 3, none⟩ = some (.map (some bm)) ∧ c0.cell? ⟨w.heap.size, 3, none⟩ = some (.slice (some ⟨db, dO, none⟩) Z dc)) ∧ c0.cell? ⟨db, dO + kx, none⟩ = some (.int .i64 X.2) ∧ MapI c0 bm k m := HS.out c0 (KRb.first bwc hB ⟨fun _ _ _ _ => rfl, (fun b hb => by cases hb), Below.refl _ _, Nat.le_refl _⟩) (HH.out.to bwc) (cells4 NB0).1.2.2.2
  have HCA : Hid (∀ u1 av' ns', KRb B gc m av' c0 u1 → ChI B u1 gc g next av' ns' → ((u1.cell? ⟨gc, 0, none⟩ = some (.pointer (some ⟨g, 0, none⟩)) ∧ u1.cell? ⟨g, 3, none⟩ = some (.map (some bm)) ∧ u1.cell? ⟨w.heap.size, 3, none⟩ = some (.slice (some ⟨db, dO, none⟩) Z dc)) ∧ u1.cell? ⟨db, dO + kx, none⟩ = some (.int .i64 X.2) ∧ MapI u1 bm k m) ∧ u1.heap[w.heap.size]? = some (.cells #[.bool false, .slice ka KN kc, .slice va VN vc, .slice (some ⟨db, dO, none⟩) Z dc] 98 (0, 0)) ∧ u1.heap[w.heap.size + 1]? = some (.cells #[.bool false, .slice none 0 0, .slice none 0 0, .slice none 0 0] 98 (0, 0)) ∧ KRb B gc m av' w u1) := fun u1 av' ns' r5 r2 => by
   have n1 := (r5.keep _ (lt_of_block NB0) (by omega) (HNL.out _ (Nat.le_refl _))).trans NB0
   exact ⟨HS.out u1 (KRb.first bwc hB r5) r2 (cells4 n1).1.2.2.2, n1, (r5.keep _ (lt_of_block RB0) (by omega) (HNL.out _ (by omega))).trans RB0, KRb.first bwc hB r5⟩
  clear NB1 RB1 bw1 b0
  refine fan_take (i := 0) (v := ?_) rfl (by kernel_rfl) (fun _ _ _ _ h => h) (by kernel_rfl) S0 ?_ ?_
  rotate_left
  ·rintro w' ⟨⟨s1, s2, s3⟩, s4, s5⟩
   have hlk := s5.look Tryz.underlying107 (zeroNd w') hwf.out false
   rw [hm.out] at hlk
   simp only [Option.getD_some, Bool.false_eq_true, if_false] at hlk
   dsimp only [nv] at hlk
   go_simp
   try with_reducible rfl
  try simp only [List.getElem_toArray, List.getElem_cons_succ, List.getElem_cons_zero, List.getElem?_toArray, List.getElem?_cons_succ, List.getElem?_cons_zero, Act.put, List.setIfInBounds_toArray, List.set_cons_zero, List.set_cons_succ]
  refine fan_take (i := 1) (v := ?_) rfl (by kernel_rfl) (fun _ _ _ _ h => h) (by kernel_rfl) S0 ?_ ?_
  rotate_left
  ·rintro w' ⟨⟨s1, s2, s3⟩, s4, s5⟩
   have hlk := s5.look Tryz.underlying107 (zeroNd w') hwf.out false
   rw [hm.out] at hlk
   simp only [Option.getD_some, Bool.false_eq_true, if_false] at hlk
   dsimp only [nv] at hlk
   go_simp
   try with_reducible rfl
  try simp only [List.getElem_toArray, List.getElem_cons_succ, List.getElem_cons_zero, List.getElem?_toArray, List.getElem?_cons_succ, List.getElem?_cons_zero, Act.put, List.setIfInBounds_toArray, List.set_cons_zero, List.set_cons_succ]
  refine fan_take (i := 2) (v := ?_) rfl (by kernel_rfl) (fun _ _ _ _ h => h) (by kernel_rfl) S0 ?_ ?_
  rotate_left
  ·rintro w' ⟨⟨s1, s2, s3⟩, s4, s5⟩
   have hlk := s5.look Tryz.underlying107 (zeroNd w') hwf.out false
   rw [hm.out] at hlk
   simp only [Option.getD_some, Bool.false_eq_true, if_false] at hlk
   dsimp only [nv] at hlk
   go_simp
   try with_reducible rfl
  try simp only [List.getElem_toArray, List.getElem_cons_succ, List.getElem_cons_zero, List.getElem?_toArray, List.getElem?_cons_succ, List.getElem?_cons_zero, Act.put, List.setIfInBounds_toArray, List.set_cons_zero, List.set_cons_succ]
  refine fan_take (i := 3) (v := ?_) rfl (by kernel_rfl) (fun _ _ _ _ h => h) (by kernel_rfl) S0 ?_ ?_
  rotate_left
  ·rintro w' ⟨⟨s1, s2, s3⟩, s4, s5⟩
   have hlk := s5.look Tryz.underlying107 (zeroNd w') hwf.out false
   rw [hm.out] at hlk
   simp only [Option.getD_some, Bool.false_eq_true, if_false] at hlk
   dsimp only [nv] at hlk
   go_simp
   try with_reducible rfl
  try simp only [List.getElem_toArray, List.getElem_cons_succ, List.getElem_cons_zero, List.getElem?_toArray, List.getElem?_cons_succ, List.getElem?_cons_zero, Act.put, List.setIfInBounds_toArray, List.set_cons_zero, List.set_cons_succ]
  refine fan_take (i := 4) (v := ?_) rfl (by kernel_rfl) (fun _ _ _ _ h => h) (by kernel_rfl) S0 ?_ ?_
  rotate_left
  ·rintro w' ⟨⟨s1, s2, s3⟩, s4, s5⟩
   have hlk := s5.look Tryz.underlying107 (zeroNd w') hwf.out false
   rw [hm.out] at hlk
   simp only [Option.getD_some, Bool.false_eq_true, if_false] at hlk
   dsimp only [nv] at hlk
   go_simp
   try with_reducible rfl
  try simp only [List.getElem_toArray, List.getElem_cons_succ, List.getElem_cons_zero, List.getElem?_toArray, List.getElem?_cons_succ, List.getElem?_cons_zero, Act.put, List.setIfInBounds_toArray, List.set_cons_zero, List.set_cons_succ]
  refine fan_take (i := 5) (v := ?_) rfl (by kernel_rfl) (fun _ _ _ _ h => h) (by kernel_rfl) S0 ?_ ?_
  rotate_left
  ·rintro w' ⟨⟨s1, s2, s3⟩, s4, s5⟩
   have hlk := s5.look Tryz.underlying107 (zeroNd w') hwf.out false
   rw [hm.out] at hlk
   simp only [Option.getD_some, Bool.false_eq_true, if_false] at hlk
   dsimp only [nv] at hlk
   go_simp
   try with_reducible rfl
  try simp only [List.getElem_toArray, List.getElem_cons_succ, List.getElem_cons_zero, List.getElem?_toArray, List.getElem?_cons_succ, List.getElem?_cons_zero, Act.put, List.setIfInBounds_toArray, List.set_cons_zero, List.set_cons_succ]
  refine fan_take (i := 6) (v := ?_) rfl (by kernel_rfl) (fun _ _ _ _ h => h) (by kernel_rfl) S0 ?_ ?_
  rotate_left
  ·rintro w' ⟨⟨s1, s2, s3⟩, s4, s5⟩
   have hlk := s5.look Tryz.underlying107 (zeroNd w') hwf.out false
   rw [hm.out] at hlk
   simp only [Option.getD_some, Bool.false_eq_true, if_false] at hlk
   dsimp only [nv] at hlk
   go_simp
   try with_reducible rfl
  try simp only [List.getElem_toArray, List.getElem_cons_succ, List.getElem_cons_zero, List.getElem?_toArray, List.getElem?_cons_succ, List.getElem?_cons_zero, Act.put, List.setIfInBounds_toArray, List.set_cons_zero, List.set_cons_succ]
  refine fan_take (i := 7) (v := ?_) rfl (by kernel_rfl) (fun _ _ _ _ h => h) (by kernel_rfl) S0 ?_ ?_
  rotate_left
  ·rintro w' ⟨⟨s1, s2, s3⟩, s4, s5⟩
   have hlk := s5.look Tryz.underlying107 (zeroNd w') hwf.out false
   rw [hm.out] at hlk
   simp only [Option.getD_some, Bool.false_eq_true, if_false] at hlk
   dsimp only [nv] at hlk
   go_simp
   try with_reducible rfl
  try simp only [List.getElem_toArray, List.getElem_cons_succ, List.getElem_cons_zero, List.getElem?_toArray, List.getElem?_cons_succ, List.getElem?_cons_zero, Act.put, List.setIfInBounds_toArray, List.set_cons_zero, List.set_cons_succ]
  refine fan_take (i := 8) (v := ?_) rfl (by kernel_rfl) (fun _ _ _ _ h => h) (by kernel_rfl) S0 ?_ ?_
  rotate_left
  ·rintro w' ⟨⟨s1, s2, s3⟩, s4, s5⟩
   have hlk := s5.look Tryz.underlying107 (zeroNd w') hwf.out false
   rw [hm.out] at hlk
   simp only [Option.getD_some, Bool.false_eq_true, if_false] at hlk
   dsimp only [nv] at hlk
   go_simp
   try with_reducible rfl
  try simp only [List.getElem_toArray, List.getElem_cons_succ, List.getElem_cons_zero, List.getElem?_toArray, List.getElem?_cons_succ, List.getElem?_cons_zero, Act.put, List.setIfInBounds_toArray, List.set_cons_zero, List.set_cons_succ]
  refine fan_take (i := 9) (v := ?_) rfl (by kernel_rfl) (fun _ _ _ _ h => h) (by kernel_rfl) S0 ?_ ?_
  rotate_left
  ·rintro w' ⟨⟨s1, s2, s3⟩, s4, s5⟩
   have hlk := s5.look Tryz.underlying107 (zeroNd w') hwf.out false
   rw [hm.out] at hlk
   simp only [Option.getD_some, Bool.false_eq_true, if_false] at hlk
   dsimp only [nv] at hlk
   go_simp
   try with_reducible rfl
  try simp only [List.getElem_toArray, List.getElem_cons_succ, List.getElem_cons_zero, List.getElem?_toArray, List.getElem?_cons_succ, List.getElem?_cons_zero, Act.put, List.setIfInBounds_toArray, List.set_cons_zero, List.set_cons_succ]
  refine fan_take (i := 10) (v := ?_) rfl (by kernel_rfl) (fun _ _ _ _ h => h) (by kernel_rfl) S0 ?_ ?_
  rotate_left
  ·rintro w' ⟨⟨s1, s2, s3⟩, s4, s5⟩
   have hlk := s5.look Tryz.underlying107 (zeroNd w') hwf.out false
   rw [hm.out] at hlk
   simp only [Option.getD_some, Bool.false_eq_true, if_false] at hlk
   dsimp only [nv] at hlk
   go_simp
   try with_reducible rfl
  try simp only [List.getElem_toArray, List.getElem_cons_succ, List.getElem_cons_zero, List.getElem?_toArray, List.getElem?_cons_succ, List.getElem?_cons_zero, Act.put, List.setIfInBounds_toArray, List.set_cons_zero, List.set_cons_succ]
  refine fan_take (i := 11) (v := ?_) rfl (by kernel_rfl) (fun _ _ _ _ h => h) (by kernel_rfl) S0 ?_ ?_
  rotate_left
  ·rintro w' ⟨⟨s1, s2, s3⟩, s4, s5⟩
   have hlk := s5.look Tryz.underlying107 (zeroNd w') hwf.out false
   rw [hm.out] at hlk
   simp only [Option.getD_some, Bool.false_eq_true, if_false] at hlk
   dsimp only [nv] at hlk
   go_simp
   try with_reducible rfl
  try simp only [List.getElem_toArray, List.getElem_cons_succ, List.getElem_cons_zero, List.getElem?_toArray, List.getElem?_cons_succ, List.getElem?_cons_zero, Act.put, List.setIfInBounds_toArray, List.set_cons_zero, List.set_cons_succ]
  refine fan_take (i := 12) (v := ?_) rfl (by kernel_rfl) (fun _ _ _ _ h => h) (by kernel_rfl) S0 ?_ ?_
  rotate_left
  ·rintro w' ⟨⟨s1, s2, s3⟩, s4, s5⟩
   have hlk := s5.look Tryz.underlying107 (zeroNd w') hwf.out false
   rw [hm.out] at hlk
   simp only [Option.getD_some, Bool.false_eq_true, if_false] at hlk
   dsimp only [nv] at hlk
   go_simp
   try with_reducible rfl
  try simp only [List.getElem_toArray, List.getElem_cons_succ, List.getElem_cons_zero, List.getElem?_toArray, List.getElem?_cons_succ, List.getElem?_cons_zero, Act.put, List.setIfInBounds_toArray, List.set_cons_zero, List.set_cons_succ]
  refine fan_take (i := 13) (v := ?_) rfl (by kernel_rfl) (fun _ _ _ _ h => h) (by kernel_rfl) S0 ?_ ?_
  rotate_left
  ·rintro w' ⟨⟨s1, s2, s3⟩, s4, s5⟩
   have hlk := s5.look Tryz.underlying107 (zeroNd w') hwf.out false
   rw [hm.out] at hlk
   simp only [Option.getD_some, Bool.false_eq_true, if_false] at hlk
   dsimp only [nv] at hlk
   go_simp
   try with_reducible rfl
  try simp only [List.getElem_toArray, List.getElem_cons_succ, List.getElem_cons_zero, List.getElem?_toArray, List.getElem?_cons_succ, List.getElem?_cons_zero, Act.put, List.setIfInBounds_toArray, List.set_cons_zero, List.set_cons_succ]
  refine fan_take (i := 14) (v := ?_) rfl (by kernel_rfl) (fun _ _ _ _ h => h) (by kernel_rfl) S0 ?_ ?_
  rotate_left
  ·rintro w' ⟨⟨s1, s2, s3⟩, s4, s5⟩
   have hlk := s5.look Tryz.underlying107 (zeroNd w') hwf.out false
   rw [hm.out] at hlk
   simp only [Option.getD_some, Bool.false_eq_true, if_false] at hlk
   dsimp only [nv] at hlk
   go_simp
   try with_reducible rfl
  try simp only [List.getElem_toArray, List.getElem_cons_succ, List.getElem_cons_zero, List.getElem?_toArray, List.getElem?_cons_succ, List.getElem?_cons_zero, Act.put, List.setIfInBounds_toArray, List.set_cons_zero, List.set_cons_succ]
  refine fan_take (i := 15) (v := ?_) rfl (by kernel_rfl) (fun _ _ _ _ h => h) (by kernel_rfl) S0 ?_ ?_
  rotate_left
  ·rintro w' ⟨⟨s1, s2, s3⟩, s4, s5⟩
   have hlk := s5.look Tryz.underlying107 (zeroNd w') hwf.out false
   rw [hm.out] at hlk
   simp only [Option.getD_some, Bool.false_eq_true, if_false] at hlk
   dsimp only [nv] at hlk
   go_simp
   try with_reducible rfl
  try simp only [List.getElem_toArray, List.getElem_cons_succ, List.getElem_cons_zero, List.getElem?_toArray, List.getElem?_cons_succ, List.getElem?_cons_zero, Act.put, List.setIfInBounds_toArray, List.set_cons_zero, List.set_cons_succ]
  refine fan_two 16 17 (by kernel_rfl) ?_ ?_
  ·refine fan_step rfl (by kernel_rfl) fun K' hK' => ?_
   refine wp_call_of 62 _ _ (by rfl) _ (by simp [Act.eval]) (Tryz.call62 _ _) (IH.out c0 bwc) ?_
   rintro e u1 ⟨kv', vv', dv', av', ns', rfl, r1, r2, r3, r4, r5⟩
   have Q1 := HCA.out u1 av' ns' r5 r2
   refine ⟨_, rfl, hK' _ _ Q1.1 ?_⟩
   clear hK' K'
   try simp only [List.getElem_toArray, List.getElem_cons_succ, List.getElem_cons_zero, List.getElem?_toArray, List.getElem?_cons_succ, List.getElem?_cons_zero, Act.put, List.setIfInBounds_toArray, List.set_cons_zero, List.set_cons_succ]
   obtain ⟨S1, n1, n2, kr1⟩ := Q1
   obtain ⟨ka', kc', va', vc', da', dc', rfl, rfl, rfl⟩ := r1.rd.slices
   dsimp only [nv]
   try simp only [List.getElem_toArray, List.getElem_cons_succ, List.getElem_cons_zero, List.getElem?_toArray, List.getElem?_cons_succ, List.getElem?_cons_zero, Act.put, List.setIfInBounds_toArray, List.set_cons_zero, List.set_cons_succ]
   refine fan_one 17 (by kernel_rfl) ?_
   refine fan_step rfl (by kernel_rfl) fun K' hK' => ?_
   go_simp
   obtain ⟨d2, hc2, E2, q2, s2⟩ := boxedN u1 #[.bool false, .slice none 0 0, .slice none 0 0, .slice none 0 0] 98
   rw [← hc2]
   obtain ⟨g12, hg12⟩ : ∃ q, q = u1.heap.size := ⟨_, rfl⟩
   rw [← hg12] at E2 ⊢
   have RR : R4 B gc g next m MM AD n (.slice ka KN kc) (.slice va VN vc) (.slice (some ⟨db, dO, none⟩) Z dc) w (S4 g12 d2 (.bool MM.leaf) (.slice ka' MM.keys.length kc') (.slice va' MM.vals.length vc') (.slice da' MM.kids.length dc')) g12 (.slice ka' MM.keys.length kc') (.slice va' MM.vals.length vc') (.slice da' MM.kids.length dc') av' ns' := by
    have z : R4 B gc g next m ⟨false, [], [], []⟩ AD n (.slice ka KN kc) (.slice va VN vc) (.slice (some ⟨db, dO, none⟩) Z dc) w d2 g12 (.slice none 0 0) (.slice none 0 0) (.slice none 0 0) av' ns' :=
     ⟨E2, (OwnN.nil 0 _ _).rdk, r2.to q2, r3.to q2, r4, kr1.then (KCh.of q2 (Nat.le_trans hB kr1.size)), (q2.block _ (lt_of_block n1)).trans n1, (q2.block _ (lt_of_block n2)).trans n2, by have := lt_of_block n2; omega, fun b hb => ⟨by have := (World.ownsRow.lt r2.row b hb).2; omega, by have := r5.row b hb; have := lt_of_block NB0; omega, by have := r5.row b hb; have := lt_of_block RB0; omega⟩⟩
    exact z.put hB hgcw hgw (r1.to q2)
   have FN := hide RR
   refine hK' _ _ (HS2.out u1 d2 S1 q2) ?_
   clear hK' K'
   try simp only [List.getElem_toArray, List.getElem_cons_succ, List.getElem_cons_zero, List.getElem?_toArray, List.getElem?_cons_succ, List.getElem?_cons_zero, Act.put, List.setIfInBounds_toArray, List.set_cons_zero, List.set_cons_succ]
   replace hg12 := hide hg12
   refine fan_done (by kernel_rfl) ?_
   show wpList _ _ _ _ _ _
   obtain ⟨⟨y0, y1, y2, y3⟩, yf⟩ := cells4 E2
   dsimp only [List.drop]
   clear RR n1 n2 kr1 E2 q2 s2 hc2 r1 r2 r3 r4 r5 S1
   go_wp2_with fail
   go_meet
   exact ⟨g12, _, _, _, av', ns', rfl, FN⟩
  ·refine fan_step rfl (by kernel_rfl) fun K' hK' => ?_
   go_simp
   obtain ⟨d2, hc2, E2, q2, s2⟩ := boxedN c0 #[.bool false, .slice none 0 0, .slice none 0 0, .slice none 0 0] 98
   rw [← hc2]
   obtain ⟨g12, hg12⟩ : ∃ q, q = c0.heap.size := ⟨_, rfl⟩
   rw [← hg12] at E2 ⊢
   have bwd := bwc.trans (q2.mono bwc.size)
   refine hK' _ _ (HS2.out c0 d2 S0 q2) ?_
   clear hK' K'
   try simp only [List.getElem_toArray, List.getElem_cons_succ, List.getElem_cons_zero, List.getElem?_toArray, List.getElem?_cons_succ, List.getElem?_cons_zero, Act.put, List.setIfInBounds_toArray, List.set_cons_zero, List.set_cons_succ]
   have NB2 := (q2.block _ (lt_of_block NB0)).trans NB0
   have RB2 := (q2.block _ (lt_of_block RB0)).trans RB0
   have l12 : w.heap.size + 1 < g12 := by have := lt_of_block RB0; omega
   have h12 : g12 < d2.heap.size := lt_of_block E2
   replace hg12 := hide hg12
   clear hc2 s2
   have HCB : Hid (∀ u1 av' ns', KRb B gc m av' d2 u1 → ChI B u1 gc g next av' ns' → ((u1.cell? ⟨gc, 0, none⟩ = some (.pointer (some ⟨g, 0, none⟩)) ∧ u1.cell? ⟨g, 3, none⟩ = some (.map (some bm)) ∧ u1.cell? ⟨w.heap.size, 3, none⟩ = some (.slice (some ⟨db, dO, none⟩) Z dc)) ∧ u1.cell? ⟨db, dO + kx, none⟩ = some (.int .i64 X.2) ∧ MapI u1 bm k m) ∧ u1.heap[w.heap.size]? = some (.cells #[.bool false, .slice ka KN kc, .slice va VN vc, .slice (some ⟨db, dO, none⟩) Z dc] 98 (0, 0)) ∧ u1.heap[w.heap.size + 1]? = some (.cells #[.bool false, .slice none 0 0, .slice none 0 0, .slice none 0 0] 98 (0, 0)) ∧ KRb B gc m av' w u1 ∧ u1.heap[g12]? = some (.cells #[.bool false, .slice none 0 0, .slice none 0 0, .slice none 0 0] 98 (0, 0))) := fun u1 av' ns' r5 r2 => by
    have n1 := (r5.keep _ (lt_of_block NB2) (by omega) (HNL.out _ (Nat.le_refl _))).trans NB2
    exact ⟨HS.out u1 (KRb.first bwd hB r5) r2 (cells4 n1).1.2.2.2, n1, (r5.keep _ (lt_of_block RB2) (by omega) (HNL.out _ (by omega))).trans RB2, KRb.first bwd hB r5, (r5.keep _ h12 (by omega) (HNL.out _ (by omega))).trans E2⟩
   refine fan_one 16 (by kernel_rfl) ?_
   refine fan_step rfl (by kernel_rfl) fun K' hK' => ?_
   refine wp_call_of 62 _ _ (by rfl) _ (by simp [Act.eval]) (Tryz.call62 _ _) (IH.out d2 bwd) ?_
   rintro e u1 ⟨kv', vv', dv', av', ns', rfl, r1, r2, r3, r4, r5⟩
   have Q1 := HCB.out u1 av' ns' r5 r2
   refine ⟨_, rfl, hK' _ _ Q1.1 ?_⟩
   clear hK' K' HCB
   try simp only [List.getElem_toArray, List.getElem_cons_succ, List.getElem_cons_zero, List.getElem?_toArray, List.getElem?_cons_succ, List.getElem?_cons_zero, Act.put, List.setIfInBounds_toArray, List.set_cons_zero, List.set_cons_succ]
   obtain ⟨S1, n1, n2, kr1, E3⟩ := Q1
   obtain ⟨ka', kc', va', vc', da', dc', rfl, rfl, rfl⟩ := r1.rd.slices
   have RR : R4 B gc g next m MM AD n (.slice ka KN kc) (.slice va VN vc) (.slice (some ⟨db, dO, none⟩) Z dc) w (S4 g12 u1 (.bool MM.leaf) (.slice ka' MM.keys.length kc') (.slice va' MM.vals.length vc') (.slice da' MM.kids.length dc')) g12 (.slice ka' MM.keys.length kc') (.slice va' MM.vals.length vc') (.slice da' MM.kids.length dc') av' ns' := by
    have z : R4 B gc g next m ⟨false, [], [], []⟩ AD n (.slice ka KN kc) (.slice va VN vc) (.slice (some ⟨db, dO, none⟩) Z dc) w u1 g12 (.slice none 0 0) (.slice none 0 0) (.slice none 0 0) av' ns' :=
     ⟨E3, (OwnN.nil 0 _ _).rdk, r2, r3, r4, kr1, n1, n2, l12, fun b hb => ⟨by have := r5.row b hb; omega, by have := r5.row b hb; have := lt_of_block NB2; omega, by have := r5.row b hb; have := lt_of_block RB2; omega⟩⟩
    exact z.put hB hgcw hgw r1
   have FN := hide RR
   dsimp only [nv]
   try simp only [List.getElem_toArray, List.getElem_cons_succ, List.getElem_cons_zero, List.getElem?_toArray, List.getElem?_cons_succ, List.getElem?_cons_zero, Act.put, List.setIfInBounds_toArray, List.set_cons_zero, List.set_cons_succ]
   refine fan_done (by kernel_rfl) ?_
   show wpList _ _ _ _ _ _
   obtain ⟨⟨y0, y1, y2, y3⟩, yf⟩ := cells4 E3
   dsimp only [List.drop]
   clear RR n1 n2 kr1 E2 E3 q2 r1 r2 r3 r4 r5 S1 NB2 RB2
   go_wp2_with fail
   go_meet
   exact ⟨g12, _, _, _, av', ns', rfl, FN⟩
 case rest =>
  obtain ⟨g12, kv', vv', dv', av', ns', rfl, hR⟩ := hcut
  obtain ⟨ka', kc', va', vc', da', dc', rfl, rfl, rfl⟩ := hR.out.rd.rd.slices
  have KB := hide (pbare_any wc MM _ (.slice va' MM.vals.length vc') (.slice da' MM.kids.length dc') hR.out.rd.rd.keys ⟨rfl, rfl⟩)
  obtain ⟨⟨y0, y1, y2, y3⟩, yf⟩ := cells4 hR.out.b12
  have g1 : IntKind.i64.wrap ((kx : Int) + 1) = (kx : Int) + 1 := IntWalk.i64_in _ (by have := hkids.out; omega)
  dsimp only [nv] at KB
  go_wp2_with fail
  refine KB.out.mono ?_
  rintro e w2 ⟨rfl, b2⟩
  have R2 := hide (hR.out.to b2 hB)
  have hbb : Hid ((!MM.leaf && decide (MM.keys.length = 0)) = bareB MM) := rfl
  rw [hbb.out]
  clear KB y0 y1 y2 y3 yf b2 hR
  go_upto_if 52 with fail
  go_cut [13, 14] from 52 to 63 (fun f t wx => ∃ (jk jv jd : Value), f = .int .i64 (rbF kx MM : Int) ∧ t = .int .i64 (rbT kx MM : Int) ∧ Hid (R4 B gc g next m (rbJ l n kx MM) AD n (.slice ka KN kc) (.slice va VN vc) (.slice (some ⟨db, dO, none⟩) Z dc) w wx g12 jk jv jd av' ns'))
  case first =>
   cases hb : bareB MM with
   | false =>
    have q1 : Hid (rbF kx MM = kx ∧ rbT kx MM = kx + 1 ∧ rbJ l n kx MM = MM) := by
     unfold rbF rbT rbJ
     rw [hb]
     exact ⟨rfl, rfl, rfl⟩
    replace hb := hide hb
    go_wp2_with fail
    go_meet
    refine ⟨.slice ka' MM.keys.length kc', .slice va' MM.vals.length vc', .slice da' MM.kids.length dc', by rw [q1.out.1], by rw [q1.out.2.1]; push_cast; rfl, ?_⟩
    rw [q1.out.2.2]
    exact R2
   | true =>
    have NR := HN.out.krb HNR.out R2.out.kr HH.out.box
    have SS := HS.out w2 R2.out.kr R2.out.ch (cells4 R2.out.nb).1.2.2.2
    have CM : ChM w2 gc g bm k m := ⟨SS.1.1, SS.1.2.1, SS.2.2⟩
    obtain ⟨e0, b0, hde, hx1, hx2, hb2, hx3⟩ := sh_bare hsh.out hb
    have W := HW.out
    clear hde hx1 hx2 hx3
    by_cases hk1 : kx = 0
    ·skip
     subst hk1
     obtain ⟨c, hc1⟩ : ∃ c, (P ++ [X] ++ S)[1]? = some c := ⟨_, List.getElem?_eq_getElem (by have := W.two; omega)⟩
     obtain ⟨sb, sk, sv, sd, sis, slf, sm, swf, sR, sL⟩ := hsib.out 1 c hb hc1
     have SR := sR.krb sL R2.out.kr HH.out.box
     have hsl : ShOk sb := (show ShN 1 sb from by
      obtain ⟨q1, q2, q3⟩ := inr_to sis.ok slf
      exact ⟨brs sb, q1, by unfold brs; simp, q2.1, by have := sis.ok.2.2.2.2; omega⟩).ok
     have KJ := hide (pjoin_behind w2 gc g bm k m n MM sb (.slice ka KN kc) (.slice va VN vc) (.slice (some ⟨db, dO, none⟩) Z dc) _ _ _ sk sv sd 0 c.2 c.1 CM NR.rd R2.out.rd.rd SR.rd (W.sib 1 c hc1).1 swf sm (W.keys 0 c hc1) hb2 (kids_len sis.ok slf) (by have := (hsh.out.ok).len; omega) (by have := hsl.len; omega) (by rw [hZ.out]; have := hkids.out; omega))
     obtain ⟨JJ, hJJ⟩ : ∃ J, J = inr (brs MM ++ (c.1, sb.kids.headD 0) :: (brs sb).tail) := ⟨_, rfl⟩
     rw [← hJJ] at KJ
     have q1 : Hid (rbF 0 MM = 0 ∧ rbT 0 MM = 0 + 2 ∧ rbJ l n 0 MM = JJ) := by
      unfold rbF rbT rbJ
      rw [if_pos hb, if_pos hb, if_pos hb, hJJ]
      exact ⟨by omega, by omega, join_zero (W.sib 1 c hc1).1 (W.keys 0 c hc1) sis⟩
     obtain ⟨⟨y0, y1, y2, y3⟩, yf⟩ := cells4 R2.out.b12
     obtain ⟨⟨n0, n1, n2, n3⟩, nf⟩ := cells4 R2.out.nb
     have hJl : Hid (JJ.leaf = false) := by show _ = _; rw [hJJ]; rfl
     dsimp only [nv] at KJ
     rw [HLF.out] at KJ
     (try rw [show ((0 : Nat) : Int) = 0 from rfl] at KJ)
     replace hJJ := hide hJJ
     replace hb := hide hb
     have m1 : IntKind.i64.wrap (-1) = -1 := by decide
     clear sR SR hsl NR CM W sis slf sm swf sL hc1 hb2 SS
     go_wp2_with fail
     refine KJ.out.mono ?_
     rintro e w3 ⟨kj, dj, rfl, oJ, bJ⟩
     have Rb := R2.out.to bJ hB
     have RJ := hide (Rb.put hB hgcw hgw oJ.rdk)
     obtain ⟨⟨z0, z1, z2, z3⟩, zf⟩ := cells4 Rb.b12
     obtain ⟨kja, kjc, hkj⟩ := oJ.keys.rd.slice
     obtain ⟨dja, djc, hdj⟩ := oJ.kids.rd.slice
     subst hkj hdj
     dsimp only [nv]
     clear KJ y0 y1 y2 y3 yf n0 n1 n2 n3 nf Rb oJ bJ
     go_wp2_with fail
     go_meet
     refine ⟨.slice kja JJ.keys.length kjc, .slice none 0 0, .slice dja JJ.kids.length djc, by rw [q1.out.1]; rfl, by rw [q1.out.2.1]; push_cast; rfl, ?_⟩
     rw [q1.out.2.2]
     exact RJ
    ·skip
     obtain ⟨i, rfl⟩ : ∃ i, kx = i + 1 := ⟨kx - 1, by omega⟩
     obtain ⟨c, hc1⟩ : ∃ c, (P ++ [X] ++ S)[i]? = some c := ⟨_, List.getElem?_eq_getElem (by have := W.len; simp; omega)⟩
     have hcX : (P ++ [X] ++ S)[i + 1]? = some X := by rw [List.append_assoc, List.getElem?_append_right (by rw [W.len]; exact Nat.le_refl _), W.len]; simp
     obtain ⟨sb, sk, sv, sd, sis, slf, sm, swf, sR, sL⟩ := hsib.out i c hb hc1
     have SR := sR.krb sL R2.out.kr HH.out.box
     have hsl : ShOk sb := (show ShN 1 sb from by
      obtain ⟨q1, q2, q3⟩ := inr_to sis.ok slf
      exact ⟨brs sb, q1, by unfold brs; simp, q2.1, by have := sis.ok.2.2.2.2; omega⟩).ok
     have KJ := hide (pjoin_ahead w2 gc g bm k m n MM sb (.slice ka KN kc) (.slice va VN vc) (.slice (some ⟨db, dO, none⟩) Z dc) _ _ _ sk sv sd i c.2 X.1 CM NR.rd R2.out.rd.rd SR.rd (W.sib i c hc1).1 swf sm (W.keys i X hcX) hb2 (kids_len sis.ok slf) (by have := (hsh.out.ok).len; omega) (by have := hsl.len; omega) (by rw [hZ.out]; have := hkids.out; omega))
     obtain ⟨JJ, hJJ⟩ : ∃ J, J = inr (brs sb ++ (X.1, MM.kids.headD 0) :: (brs MM).tail) := ⟨_, rfl⟩
     rw [← hJJ] at KJ
     have q1 : Hid (rbF (i + 1) MM = i ∧ rbT (i + 1) MM = i + 2 ∧ rbJ l n (i + 1) MM = JJ) := by
      unfold rbF rbT rbJ
      rw [if_pos hb, if_pos hb, if_pos hb, hJJ]
      exact ⟨by omega, by omega, join_succ (W.sib i c hc1).1 (W.keys i X hcX) sis⟩
     obtain ⟨⟨y0, y1, y2, y3⟩, yf⟩ := cells4 R2.out.b12
     obtain ⟨⟨n0, n1, n2, n3⟩, nf⟩ := cells4 R2.out.nb
     have hJl : Hid (JJ.leaf = false) := by show _ = _; rw [hJJ]; rfl
     dsimp only [nv] at KJ
     rw [HLF.out] at KJ
     (try rw [show ((0 : Nat) : Int) = 0 from rfl] at KJ)
     replace hJJ := hide hJJ
     replace hb := hide hb
     have m1 : IntKind.i64.wrap (i : Int) = (i : Int) := IntWalk.i64_in _ (by have := hkids.out; omega)
     have m2 : ¬ (i : Int) < 0 := by omega
     have m3 : IntKind.i64.wrap ((i : Int) + 2) = (i : Int) + 2 := IntWalk.i64_in _ (by have := hkids.out; omega)
     clear sR SR hsl NR CM W sis slf sm swf sL hc1 hcX hb2 SS
     go_wp2_with fail
     refine KJ.out.mono ?_
     rintro e w3 ⟨kj, dj, rfl, oJ, bJ⟩
     have Rb := R2.out.to bJ hB
     have RJ := hide (Rb.put hB hgcw hgw oJ.rdk)
     obtain ⟨⟨z0, z1, z2, z3⟩, zf⟩ := cells4 Rb.b12
     obtain ⟨kja, kjc, hkj⟩ := oJ.keys.rd.slice
     obtain ⟨dja, djc, hdj⟩ := oJ.kids.rd.slice
     subst hkj hdj
     dsimp only [nv]
     clear KJ y0 y1 y2 y3 yf n0 n1 n2 n3 nf Rb oJ bJ
     go_wp2_with fail
     go_meet
     refine ⟨.slice kja JJ.keys.length kjc, .slice none 0 0, .slice dja JJ.kids.length djc, by rw [q1.out.1], by rw [q1.out.2.1]; push_cast; rfl, ?_⟩
     rw [q1.out.2.2]
     exact RJ
  case rest =>
   obtain ⟨jk, jv, jd, rfl, rfl, hJ⟩ := hcut
   have HF : Hid ((rbF kx MM < rbT kx MM ∧ rbT kx MM ≤ (brs n).length) ∧ rbF kx MM < (brs n).length) := by
    have h2 := HW.out.two
    have h3 : (brs n).length = (P ++ [X] ++ S).length := by rw [HW.out.brs]
    have h4 := hbrl.out
    show (_ ∧ _) ∧ _
    unfold rbF rbT
    split <;> omega
   have SJ : Hid (ShN d (rbJ l n kx MM)) := by
    show ShN _ _
    unfold rbJ
    split
    ·exact join_shape HW.out hsh.out (by assumption)
    ·exact hsh.out
   obtain ⟨fr, hfr⟩ : ∃ x, rbF kx MM = x := ⟨_, rfl⟩
   obtain ⟨tt, htt⟩ : ∃ x, rbT kx MM = x := ⟨_, rfl⟩
   obtain ⟨JJ, hJJ⟩ : ∃ x, rbJ l n kx MM = x := ⟨_, rfl⟩
   rw [hfr, htt] at HF
   rw [hfr, htt, hJJ] at hreb
   rw [hJJ] at SJ hJ
   rw [hfr, htt]
   replace hfr := hide hfr
   replace htt := hide htt
   replace hJJ := hide hJJ
   obtain ⟨y, hy⟩ : ∃ y, (brs n)[fr]? = some y := ⟨_, List.getElem?_eq_getElem HF.out.2⟩
   have hyD : (brs n).getD fr ([], 0) = y := by rw [List.getD_eq_getElem?_getD, hy]; rfl
   rw [hyD] at hreb
   replace hy := hide hy
   replace hyD := hide hyD
   have hBl : Hid ((brs n).length ≤ 201) := by
    have h1 := hbrl.out
    have h2 := hkids.out
    show _ ≤ _
    omega
   obtain ⟨BL, hBL⟩ : ∃ x, x = (brs n).length := ⟨_, rfl⟩
   rw [← hBL] at HF hBl
   have hnl : Hid (ns'.length ≤ 900) := by
    have h1 := (reb_len l next key ed d nd []).2
    rw [← hAD.out, ← hJ.out.eq, List.length_map] at h1
    show _ ≤ _
    simp at h1
    omega
   have NR := HN.out.krb HNR.out hJ.out.kr HH.out.box
   have KBr := hide (pbrs_any wc n _ _ _ NR.rd (by rw [hZ.out, hKN.out]; exact hkids.out) (by rw [hKN.out]; omega))
   obtain ⟨⟨n0, n1, n2, n3⟩, nf⟩ := cells4 hJ.out.nb
   obtain ⟨jka, jkc, jva, jvc, jda, jdc, hjk, hjv, hjd⟩ := hJ.out.rd.rd.slices
   subst hjk hjv hjd
   dsimp only [nv] at KBr
   rw [HLF.out] at KBr
   replace hBL := hide hBL
   clear NR
   go_wp2_with fail
   refine KBr.out.mono ?_
   rintro e w3 ⟨vb, rfl, oB, b3⟩
   have R3 := hide (hJ.out.to b3 hB)
   obtain ⟨gb, cb, hvb, hgb, y1, y2, yf⟩ := oB.at hy.out
   rw [← hBL.out] at hvb
   subst hvb
   have OB := hide oB
   have hgb3 : gb < w3.heap.size := cell_lt y1
   have hCC : Hid (w.heap.size + 1 < wc.heap.size) := lt_of_block hJ.out.rb
   have hav : Hid (∀ b, av'.ownBlock = some b → b < wc.heap.size) := fun b hb => (World.ownsRow.lt hJ.out.ch.row b hb).2
   have y1' := hide y1
   clear KBr n0 n1 n2 n3 nf oB y1 y2 yf
   have f1 : fr < BL := HF.out.2
   go_upto_region 11 with fail
   have bd : Below w3.heap.size w3 w3.drew := below_drewN' w3 1 _
   have R3' := hide (R3.out.to bd hB)
   have KL := hide (plaid_gen B w3.drew gc g next av' ns' JJ _ _ _ y.1 R3'.out.ch R3'.out.al (Nat.le_trans (Nat.le_trans hB R3.out.kr.size) bd.size) (fun b hb => by have := R3.out.kr.row b hb; omega) hgc hnl.out hnx R3'.out.rd SJ.out.ok)
   have S0 : ((w3.drew.cell? ⟨g12, 0, none⟩ = some (.bool JJ.leaf) ∧ w3.drew.cell? ⟨g12, 1, none⟩ = some (.slice jka JJ.keys.length jkc) ∧ w3.drew.cell? ⟨g12, 2, none⟩ = some (.slice jva JJ.vals.length jvc) ∧ w3.drew.cell? ⟨g12, 3, none⟩ = some (.slice jda JJ.kids.length jdc)) ∧ w3.drew.cell? ⟨gb, fr * 2, none⟩ = some (st y.1)) := ⟨(cells4 R3'.out.b12).1, (bd.cell hgb3).trans y1'.out⟩
   refine wp_region_sched (fun w9 => (w9.cell? ⟨g12, 0, none⟩ = some (.bool JJ.leaf) ∧ w9.cell? ⟨g12, 1, none⟩ = some (.slice jka JJ.keys.length jkc) ∧ w9.cell? ⟨g12, 2, none⟩ = some (.slice jva JJ.vals.length jvc) ∧ w9.cell? ⟨g12, 3, none⟩ = some (.slice jda JJ.kids.length jdc)) ∧ w9.cell? ⟨gb, fr * 2, none⟩ = some (st y.1)) [(0, true), (1, true), (2, true), (3, true), (4, true), (5, true), (6, true), (7, false)] 8 mixed (by kernel_rfl) (fun _ _ _ _ h => h) ?_
   iterate 7
    refine sched_take (v := ?_) rfl (by kernel_rfl) S0 ?_ ?_
    rotate_left
    ·rintro w9 ⟨⟨s1, s2, s3, s4⟩, s5⟩
     go_simp
     try with_reducible rfl
    try simp only [List.getElem_toArray, List.getElem_cons_succ, List.getElem_cons_zero, List.getElem?_toArray, List.getElem?_cons_succ, List.getElem?_cons_zero, Act.put, List.setIfInBounds_toArray, List.set_cons_zero, List.set_cons_succ]
   refine sched_run rfl (by kernel_rfl) fun K hK => ?_
   refine wp_call_of 83 _ _ (by rfl) _ (by simp [Act.eval]) (Tryz.call83 _ _) KL.out ?_
   rintro e w4 ⟨u, av2, more, rfl, nw, c4, al4, e4, k4, ng4⟩
   have hkk : Hid (∀ b, b < w3.heap.size → b ≠ gc → av'.ownBlock ≠ some b → w4.heap[b]? = w3.drew.heap[b]?) := fun b h1 h2 h3 => k4.keep b (Nat.lt_of_lt_of_le h1 bd.size) h2 h3
   have hg12 : g12 < w3.heap.size := lt_of_block R3.out.b12
   have S4' : ((w4.cell? ⟨g12, 0, none⟩ = some (.bool JJ.leaf) ∧ w4.cell? ⟨g12, 1, none⟩ = some (.slice jka JJ.keys.length jkc) ∧ w4.cell? ⟨g12, 2, none⟩ = some (.slice jva JJ.vals.length jvc) ∧ w4.cell? ⟨g12, 3, none⟩ = some (.slice jda JJ.kids.length jdc)) ∧ w4.cell? ⟨gb, fr * 2, none⟩ = some (st y.1)) := by
    have e1 := hkk.out g12 hg12 (by have := R3.out.l12; omega) (fun e => (R3.out.na _ e).1 rfl)
    have e2 := hkk.out gb hgb3 (by have := hCC.out; omega) (fun e => by have := hav.out _ e; omega)
    obtain ⟨⟨q1, q2, q3, q4⟩, q5⟩ := S0
    simp only [World.cell?] at q1 q2 q3 q4 q5 ⊢
    rw [e1, e2]
    exact ⟨⟨q1, q2, q3, q4⟩, q5⟩
   refine ⟨_, rfl, hK _ _ S4' ?_⟩
   clear hK K S4' S0 KL
   try simp only [List.getElem_toArray, List.getElem_cons_succ, List.getElem_cons_zero, List.getElem?_toArray, List.getElem?_cons_succ, List.getElem?_cons_zero, Act.put, List.setIfInBounds_toArray, List.set_cons_zero, List.set_cons_succ]
   have O4 : Hid (OwnBr wc.heap.size w4 (.slice (some ⟨gb, 0, none⟩) BL cb) (brs n)) := row_block (rows_to OB.out bd) fun b hb => by
    cases hb
    exact hkk.out gb hgb3 (by have := hCC.out; omega) (fun e => by have := hav.out _ e; omega)
   have hMp : ns'.map (·.1) = AD := R3.out.eq
   rw [hMp] at nw e4
   obtain ⟨NW, hNW⟩ : ∃ x, (laidOf next AD JJ y.1).1 = x := ⟨_, rfl⟩
   have hN2 : Hid (NW.length ≤ 2) := by
    have := (laid_shape SJ.out next AD y.1).1
    rw [hNW] at this
    exact this
   rw [hNW] at nw hreb
   have KP := hide (prepl_any wc.heap.size w4 (.slice (some ⟨gb, 0, none⟩) BL cb) u (brs n) NW fr tt O4.out (by have h1 := k4.size; have h2 := bd.size; have h3 := hgb; omega) (by
    rcases nw with nw | ⟨gn, q1, q2, q3, q4⟩
    ·exact .inl nw
    ·refine .inr ⟨gn, q1, q2, q3, fun b hb => ?_⟩
     have hb' : gb = b := Option.some.inj hb
     have := bd.size
     omega) hN2.out HF.out.1.1 (by rw [← hBL.out]; exact HF.out.1.2) (by have := hBl.out; rw [← hBL.out]; omega))
   have FI := hide (fun (w5 w6 : World) (kI dI : Value) (M' : Nd) (gr : w4.grownBy w5 (some gb)) (b6 : Below w5.heap.size w5 w6) (oI : OwnN w5.heap.size w6 kI (.slice none 0 0) dI M') (hM : M'.leaf = false) => R3'.out.fin hB hgcw hgw hCC.out hav.out hgb (Nat.lt_of_lt_of_le hgb3 bd.size) k4 c4 al4 e4 O4.out gr b6 oI hM)
   have hrl : Hid ((rplc (brs n) fr tt NW).length ≤ 1000) := by
    have h1 : (rplc (brs n) fr tt NW).length ≤ (brs n).length + NW.length + (brs n).length := by
     unfold rplc
     simp only [List.length_append, List.length_take, List.length_drop]
     omega
    have h2 := hN2.out
    have h3 := hBl.out
    have h4 := hBL.out
    show _ ≤ _
    omega
   replace hNW := hide hNW
   replace hMp := hide hMp
   clear nw e4 k4 c4 al4 ng4 hkk
   show wpList _ _ _ _ _ _
   dsimp only [List.drop]
   go_wp2_with fail
   refine KP.out.mono ?_
   rintro e w5 ⟨v5, rfl, o5, gr⟩
   have KI := hide (pinr_any _ w5 v5 _ o5 hrl.out)
   obtain ⟨va5, vc5, hv5⟩ := o5.slice
   obtain ⟨LL, hLL⟩ : ∃ x, x = (rplc (brs n) fr tt NW).length := ⟨_, rfl⟩
   rw [← hLL] at hv5
   subst hv5
   have GR := hide gr
   replace hLL := hide hLL
   clear o5 gr KP
   go_wp2_with fail
   refine KI.out.mono ?_
   rintro e w6 ⟨kI, dI, rfl, oI, b6⟩
   have FF := hide (FI.out w5 w6 kI dI _ GR.out b6 oI rfl)
   obtain ⟨kia, kic, hki⟩ := oI.keys.rd.slice
   obtain ⟨dia, dic, hdi⟩ := oI.kids.rd.slice
   subst hki hdi
   obtain ⟨⟨z0, z1, z2, z3⟩, zf⟩ := cells4 FF.out.1
   clear KI oI b6
   obtain ⟨MI, hMI⟩ : ∃ M, M = inr (rplc (brs n) fr tt NW) := ⟨_, rfl⟩
   have hMl : MI.leaf = false := by rw [hMI]; rfl
   rw [← hMI] at FF hreb ⊢
   dsimp only [nv]
   rw [hMl]
   replace hMI := hide hMI
   replace hMl := hide hMl
   go_wp2
   refine retN rfl rfl (w.heap.size + 1) rfl _ _ (0, 0) (heap_set4 FF.out.1 _ _ _ _) _ Tryz.underlying98 rfl info_nd10 ?_
   obtain ⟨a1, a2, a3, a4, a5, h0, h1, h2, h3, h4, h5⟩ := FF.out.2
   unfold RbR
   rw [hreb.out]
   refine ⟨a1, a2, a3, a4, a5, ?_, h1, h2, h3, h4, h5⟩
   rw [← h0]
   dsimp only [nv]
   rw [hMl.out]
end Go.Proofs.YtpiikmkajckccaaGreat

namespace Go.Proofs.YtpiikmkajckccaaGreat
open Go.RowKit
def EdCl (B : Nat) (w : World) (F : Nat) (caps : Array Value) (key : Str) (ed : Nd → Nd) (good : List Pr → Prop) : Prop :=
 ∀ (u : World) (ps : List Pr) (kv vv dv : Value), Below w.heap.size w u → OwnN B u kv vv dv (lf ps) → Dj kv vv dv → PrOk ps → nsize (lf ps) ≤ 244 → good ps →
  Calls Tryz.prog F (#[nv (lf ps) kv vv dv, .int .i64 (nfind (lf ps) key), .bool (nhas (lf ps) key)] ++ caps) u fun e u' => ∃ kv' vv' dv', e = .returned (nv (ed (lf ps)) kv' vv' dv') ∧ OwnN B u' kv' vv' dv' (ed (lf ps)) ∧ KEd B kv vv u u'
theorem EdCl.to {B : Nat} {w w' : World} {F : Nat} {caps : Array Value} {key : Str} {ed : Nd → Nd} {good : List Pr → Prop} (h : EdCl B w F caps key ed good) (b : Below w.heap.size w w') : EdCl B w' F caps key ed good :=
 fun u ps kv vv dv bu => h u ps kv vv dv (b.trans (bu.mono b.size))
theorem ids_nd {l : List Wrt} {id : Int} {nd : Nd} (h : NdIs l id nd) : ∀ d, idsOf l d id = id :: nI l d nd
 | 0 => rfl
 | d + 1 => by
  show id :: (nodeAt l id).kids.flatMap (idsOf l d) = _
  rw [h.at]; rfl
theorem CW.node {w : World} {B g bm k : Nat} {l : List Wrt} {m : Int → Option Value} (h : CW w B g bm k l m) {i : Int} (hi : (m i).isSome = true) {nd : Nd} (hn : NdIs l i nd) : ∃ kv vv dv, m i = some (nv nd kv vv dv) ∧ OwnN B w kv vv dv nd ∧ Dj kv vv dv := by
 obtain ⟨v, hv⟩ := Option.isSome_iff_exists.1 hi
 obtain ⟨x, nd', kv, vv, dv, h1, h2, rfl, h4, h5⟩ := h.nds i v hv
 have e : nd' = nd := (show NdIs l i nd' from ⟨x, h1, h2⟩).at.symm.trans hn.at
 subst e
 exact ⟨kv, vv, dv, hv, h4, h5⟩
theorem LfB.of {m : Int → Option Value} {i : Int} {nd : Nd} {kv vv dv : Value} (h : m i = some (nv nd kv vv dv)) (hl : nd.leaf = true) : ∀ b, kv.ownBlock = some b ∨ vv.ownBlock = some b → LfB m b := fun b hb => ⟨i, nd, kv, vv, dv, h, hl, hb⟩
theorem wf_small {i : Int} (h : 1 ≤ i ∧ i ≤ 65536) : (Lit.int .i64 i).wf = true := WalkArith.wf_i64 (by omega)
theorem keys_few {n : Nd} (h : NOk n) (hl : n.leaf = false) : n.keys.length ≤ 200 :=
 (show ShN 1 n from by
  obtain ⟨q1, q2, q3⟩ := inr_to h hl
  exact ⟨brs n, q1, by unfold brs; simp, q2.1, by have := h.2.2.2.2; omega⟩).ok.len
theorem preb_any {B gc g bm k : Nat} {next : Int} {l : List Wrt} {m : Int → Option Value} {key : Str} {Fn : Nat} {caps : Array Value} {ed : Nd → Nd} {upd : List Pr → List Pr} {good : List Pr → Prop} (hE : EdOk key upd ed) (hgc : gc ≠ g) (hnx : 0 ≤ next ∧ next ≤ 65536)
  (hG : ∀ A X C, (∀ y ∈ A, slt y.1 key = true) → (∀ y ∈ C, slt key y.1 = true) → good (A ++ X ++ C) → good X) (he : ∀ args u, (callFunc Fn args).run Tryz.prog u = .ok (.enter Fn args) u) :
  ∀ (d : Nat) (n : Nd) (lo : Str) (hi : Option Str) (w : World) (kv vv dv : Value), d ≤ 20 → CW w B g bm k l m → ChI B w gc g next (.slice none 0 0) [] → B ≤ w.heap.size → OwnN B w kv vv dv n → Dj kv vv dv → (n.leaf = true → ∀ b, kv.ownBlock = some b ∨ vv.ownBlock = some b → LfB m b) → (n.leaf = false → ∀ b, RowOf (nv n kv vv dv) b → ¬ LfB m b) →
   NO l d n lo hi → nsize n ≤ 244 → (d ≠ 0 → n.keys ≠ []) → (∀ i ∈ nI l d n, (m i).isSome = true ∧ 1 ≤ i ∧ i ≤ 65536) → good (nP l d n) → EdCl B w Fn caps key ed good →
   Calls Tryz.prog 62 #[.pointer (some ⟨gc, 0, none⟩), nv n kv vv dv, st key, .func (.func Fn) #[] caps] w fun e w' => RbR B gc g next l m d key ed n w w' e
 | 0, n, lo, hi, w, kv, vv, dv, hd, hC, hh, hB, hO, hD, hL, hI, hN, hsz, hk0, hid, hgo, hcl => by
  obtain ⟨ps, rfl, hp, hin⟩ := hN
  have hgo' : good ps := by
   have : nP l 0 (lf ps) = ps := npr_lf ps
   rw [this] at hgo
   exact hgo
  refine (preb_leaf B w gc (lf ps) kv vv dv key Fn caps hB hO.rd (lf_ok hp hsz).fit rfl (ed (lf ps)) (fun u bu => hcl u ps kv vv dv bu (hO.to bu) hD hp hsz hgo') (fun b hb => by
   rcases hb with hb | hb
   ·exact (World.ownsRow.lt hO.keys b hb).2
   ·exact (World.ownsRow.lt hO.vals b hb).2) he).mono ?_
  rintro e w' ⟨kv', vv', dv', rfl, o', k'⟩
  have hne : ∀ (b : Nat) (cs : Array Value) (T : TypeId) (fr : Nat × Nat), w.heap[b]? = some (.cells cs T fr) → T ≠ 9 → w'.heap[b]? = w.heap[b]? := fun b cs T fr hb hT => by
   refine k'.keep b (lt_of_block hb) (fun e => ?_) (fun e => ?_)
   ·obtain ⟨cur, fr', q⟩ := hO.rdk.tk b e
    rw [hb] at q
    simp only [Option.some.injEq, Obj.cells.injEq] at q
    exact hT q.2.1
   ·obtain ⟨cur, fr', q⟩ := hO.rdk.tv b e
    rw [hb] at q
    simp only [Option.some.injEq, Obj.cells.injEq] at q
    exact hT q.2.1
  refine ⟨kv', vv', dv', .slice none 0 0, [], rfl, o'.rdk, ⟨(hne _ _ _ _ hh.box (by decide)).trans hh.box, World.ownsRow_nil _ _ _ _, ?_, hh.hC⟩, fun y hy => (by cases hy), rfl, ⟨fun b h1 h2 h3 => k'.keep b h1 (fun e => h3 (hL rfl b (.inl e))) (fun e => h3 (hL rfl b (.inr e))), fun b hb => (by cases hb), k'.bel, k'.size⟩⟩
  exact (k'.bel.cell hC.hg).trans hh.nxt
 | d + 1, n, lo, hi, w, kv, vv, dv, hd, hC, hh, hB, hO, hD, hL, hI, hN, hsz, hk0, hid, hgo, hcl => by
  obtain ⟨kx, P, X, S, nd, lo', hi', W⟩ := way_of hN hsz (hk0 (by omega)) key
  have hnl : n.leaf = false := by rw [hN.leaf]; simp
  have hok : NOk n := hN.ok (hk0 (by omega)) hsz
  have hsm := W.isn.small W.no
  have hX : X.2 ∈ nI l (d + 1) n := W.ids X.2 (by rw [ids_nd W.isn]; exact List.mem_cons_self ..)
  have hXs := hid X.2 hX
  obtain ⟨kk, kvv, kd, hm, oX, dX⟩ := hC.node hXs.1 W.isn
  have hshp := reb_shape (l := l) (next := next) hE d nd lo' hi' [] W.no hsm.1 hsm.2
  have hgd : good (nP l d nd) := by
   rw [W.prs] at hgo
   exact hG _ _ _ W.lt W.gt hgo
  refine preb_step B gc g bm k next l m d n kv vv dv key Fn caps ed w kx P X S nd lo' hi' kk kvv kd hC hh hB hgc hnx (by omega) hO.rdk (hI hnl) hok hnl (keys_few hok hnl) W hm (wf_small hXs.2) ?_ ?_ hshp
  ·intro i b hb hbi
   obtain ⟨e0, b0, hd0, _⟩ := sh_bare hshp hb
   obtain ⟨hkid, sb, lo2, hi2, sis, sno⟩ := W.sib i b hbi
   have hsl : sb.leaf = false := by rw [sno.leaf, hd0]; simp
   have hbm : b.2 ∈ nI l (d + 1) n := by
    rw [(no_brs hN).2.2.2.2, W.brs]
    exact List.mem_flatMap.2 ⟨b, List.mem_of_getElem? hbi, by rw [ids_nd sis]; exact List.mem_cons_self ..⟩
   have hbs := hid b.2 hbm
   obtain ⟨sk, sv, sd, sm, so, sdj⟩ := hC.node hbs.1 sis
   exact ⟨sb, sk, sv, sd, sis, hsl, sm, wf_small hbs.2, so.rdk, fun q hq => hC.inner sm hsl hq⟩
  ·intro u bu
   refine preb_any hE hgc hnx hG he d nd lo' hi' u kk kvv kd (by omega) (hC.to bu) (hh.to bu) (Nat.le_trans hB bu.size) (oX.to bu) dX (fun hl => LfB.of hm hl) (fun hl b hb => hC.inner hm hl hb) W.no hsm.1 hsm.2 (fun i hi9 => hid i (W.ids i (by rw [ids_nd W.isn]; exact List.mem_cons_of_mem _ hi9))) hgd (hcl.to bu)
end Go.Proofs.YtpiikmkajckccaaGreat

namespace Go.Proofs.YtpiikmkajckccaaGreat
open Go.RowKit
def RoR (B gc g : Nat) (next : Int) (av : Value) (ns : List NV) (top : Nd) (w w' : World) (e : Ending) : Prop := ∃ av' more, e = .returned (.int .i64 (rootOf next (ns.map (·.1)) top).1) ∧ ChI B w' gc g next av' (ns ++ more) ∧ AllK w' (ns ++ more) ∧ (ns ++ more).map (·.1) = (rootOf next (ns.map (·.1)) top).2 ∧ KCh B gc av av' w w'
theorem now_own {C : Nat} {w : World} {u : Value} {now : List Br} (h : NowV C w u now) (hl : now.length ≤ 1000) : OwnBr C w u now := by
 rcases h with ⟨rfl, rfl⟩ | ⟨gn, rfl, h1, h2, h3⟩
 ·exact World.ownsRow_nil _ _ _ _
 ·exact ⟨bcl_len now, .inr ⟨gn, now.length, (bcl now).toArray, rfl, h3, h2, Nat.le_refl _, by unfold maxLen; omega, by simp [bcl_len], by simp [← bcl_len now]⟩⟩
theorem root_bare {next : Int} {ad : List Nd} {top : Nd} (h : bareB top = true) : rootOf next ad top = (top.kids.headD 0, ad) := by unfold rootOf; rw [if_pos h]
theorem root_nil {next : Int} {ad : List Nd} {top : Nd} (h : bareB top = false) (h1 : (laidOf next ad top []).1 = []) : rootOf next ad top = (0, (laidOf next ad top []).2) := by unfold rootOf; rw [if_neg (by rw [h]; simp), h1]
theorem root_one {next : Int} {ad : List Nd} {top : Nd} {b : Br} (h : bareB top = false) (h1 : (laidOf next ad top []).1 = [b]) : rootOf next ad top = (b.2, (laidOf next ad top []).2) := by unfold rootOf; rw [if_neg (by rw [h]; simp), h1]
theorem root_two {next : Int} {ad : List Nd} {top : Nd} {b c : Br} (h : bareB top = false) (h1 : (laidOf next ad top []).1 = [b, c]) : rootOf next ad top = (next + ((laidOf next ad top []).2.length : Int), (laidOf next ad top []).2 ++ [inr [b, c]]) := by unfold rootOf; rw [if_neg (by rw [h]; simp), h1]
theorem ret_i8 {a b : Int} (h : a = b) : Ending.returned (.int .i64 a) = Ending.returned (.int .i64 b) := by rw [h]
set_option maxRecDepth 100000 in
set_option maxHeartbeats 8000000 in
theorem proot_gen (B : Nat) (w : World) (gc g : Nat) (next : Int) (av : Value) (ns : List NV) (top : Nd) (kv vv dv : Value) (d : Nat) (h : ChI B w gc g next av ns) (hA : AllK w ns) (hB : B ≤ w.heap.size) (hg : ∀ b, av.ownBlock = some b → b ≠ g) (hgc : gc ≠ g) (hns : ns.length ≤ 800) (hnx : 0 ≤ next ∧ next ≤ 65536) (hr : RdK w kv vv dv top) (hs : ShN d top) :
  Calls Tryz.prog 61 #[.pointer (some ⟨gc, 0, none⟩), nv top kv vv dv] w fun e w' => RoR B gc g next av ns top w w' e := by
 obtain ⟨ka, kc, va, vc, da, dc, rfl, rfl, rfl⟩ := hr.rd.slices
 obtain ⟨W, hW, DW, bW, sW⟩ := boxedN w #[.bool top.leaf, .slice ka top.keys.length kc, .slice va top.vals.length vc, .slice da top.kids.length dc] 98
 obtain ⟨⟨E0, E1, E2, E3⟩, EF⟩ := cells4 DW
 have KB := hide (pbare_any W top _ (.slice va top.vals.length vc) (.slice da top.kids.length dc) (hr.rd.to bW).keys ⟨rfl, rfl⟩)
 have HW := hide (h.to bW)
 have HA := hide (hA.to bW)
 have HK := hide (KCh.of (gc := gc) (av := av) bW hB)
 have HD := hide DW
 have HR := hide (hr.to bW)
 have hBW : Hid (B ≤ W.heap.size) := Nat.le_trans hB bW.size
 replace hg := hide hg
 replace hgc := hide hgc
 replace hs := hide hs
 dsimp only [nv] at KB ⊢
 rw [hW] at E0 E1 E2 E3 EF KB
 clear DW bW h hr hB hA
 go_enter Tryz.func61, Tryz.ntmps61
 go_wp2_with fail
 refine KB.out.mono ?_
 rintro e w1 ⟨rfl, b1⟩
 rw [← hW] at b1
 clear E0 E1 E2 E3 EF KB
 replace hW := hide hW
 have H1 := hide (HW.out.to b1)
 have A1 := hide (HA.out.to b1)
 have R1 := hide (HR.out.to b1)
 have K1 := hide (HK.out.trans (KCh.of (gc := gc) (av := av) b1 hBW.out))
 have D1 := (b1.block _ (lt_of_block HD.out)).trans HD.out
 have hB1 : Hid (B ≤ w1.heap.size) := Nat.le_trans hBW.out b1.size
 have hbb : Hid ((!top.leaf && decide (top.keys.length = 0)) = bareB top) := rfl
 rw [hbb.out]
 cases hb : bareB top with
 | true =>
  obtain ⟨e0, b0, hx3, hx1, hx4, hx2, hx5⟩ := sh_bare hs.out hb
  clear hx3 hx4 hx5
  have hk0 : top.kids[0]? = some b0 := by
   cases hkk : top.kids with
   | nil => rw [hkk] at hx2; simp at hx2
   | cons a r => rw [hkk] at hx1; simp at hx1; simp [hx1]
  obtain ⟨db, dO, e4, hcd⟩ := (show RdI w1 (.slice da top.kids.length dc) top.kids from R1.out.rd.kids).intAt hk0
  subst e4
  rw [Nat.add_zero] at hcd
  have hkl : 0 < top.kids.length := by omega
  have hro : Hid (rootOf next (ns.map (·.1)) top = (b0, ns.map (·.1))) := by
   show _ = _
   rw [root_bare hb, hx1]
  obtain ⟨⟨E0, E1, E2, E3⟩, EF⟩ := cells4 D1
  generalize top.kids.length = KL at *
  replace hb := hide hb
  replace hk0 := hide hk0
  replace hx1 := hide hx1
  replace hx2 := hide hx2
  clear D1 b1
  go_wp2
  go_ret
  exact ⟨av, [], ret_i8 (congrArg Prod.fst hro.out).symm, by rw [List.append_nil]; exact H1.out, by rw [List.append_nil]; exact A1.out, by rw [List.append_nil, hro.out], K1.out⟩
 | false =>
  have KL := hide (plaid_gen B w1 gc g next av ns top _ _ _ [] H1.out A1.out hB1.out hg.out hgc.out (by omega) hnx R1.out hs.out.ok)
  have hsl := hide (laid_shape hs.out next (ns.map (·.1)) [])
  obtain ⟨⟨E0, E1, E2, E3⟩, EF⟩ := cells4 D1
  dsimp only [nv] at KL
  replace hb := hide hb
  clear D1 b1
  go_wp2_with fail
  refine KL.out.mono ?_
  rintro e w2 ⟨u, av2, more, rfl, nw, c2, al2, e2, k2, ng2⟩
  have C2 := hide (And.intro c2 (And.intro al2 (And.intro e2 (And.intro (K1.out.trans k2) ng2))))
  have hB2 : Hid (B ≤ w2.heap.size) := Nat.le_trans hB1.out k2.size
  obtain ⟨NW, hNW⟩ : ∃ x, (laidOf next (ns.map (·.1)) top []).1 = x := ⟨_, rfl⟩
  rw [hNW] at nw
  have hN2 : NW.length ≤ 2 := by rw [← hNW]; exact hsl.out.1
  clear c2 al2 e2 k2 ng2 KL E0 E1 E2 E3 EF
  rcases NW with _ | ⟨b, _ | ⟨c, r⟩⟩
  ·obtain rfl : u = .slice none 0 0 := by
    rcases nw with ⟨rfl, _⟩ | ⟨gn, _, q, _⟩
    ·rfl
    ·simp at q
   have hro := hide (root_nil hb.out hNW)
   replace hNW := hide hNW
   clear nw hN2
   go_wp2
   go_ret
   obtain ⟨c2, al2, e2, k2, ng2⟩ := C2.out
   exact ⟨av2, more, ret_i8 (congrArg Prod.fst hro.out).symm, c2, al2, by rw [e2, hro.out], k2⟩
  ·obtain ⟨gn, hu, hgn⟩ : ∃ gn, u = .slice (some ⟨gn, 0, none⟩) 1 1 ∧ w2.heap[gn]? = some (.cells #[st b.1, .int .i64 b.2] 162 (0, 0)) := by
    rcases nw with ⟨_, q⟩ | ⟨gn, q1, q2, q3, q4⟩
    ·simp at q
    ·exact ⟨gn, q1, q3⟩
   subst hu
   have q1 := cellN hgn (i := 1) rfl
   have hro := hide (root_one hb.out hNW)
   replace hNW := hide hNW
   clear nw hN2 hgn
   go_wp2
   go_ret
   obtain ⟨c2, al2, e2, k2, ng2⟩ := C2.out
   exact ⟨av2, more, ret_i8 (congrArg Prod.fst hro.out).symm, c2, al2, by rw [e2, hro.out], k2⟩
  ·obtain rfl : r = [] := by
    cases r with
    | nil => rfl
    | cons a r => simp at hN2
   obtain ⟨gn, hu⟩ : ∃ gn, u = .slice (some ⟨gn, 0, none⟩) 2 2 := by
    rcases nw with ⟨_, q⟩ | ⟨gn, q1, q2, q3, q4⟩
    ·simp at q
    ·exact ⟨gn, q1⟩
   have KI := hide (pinr_any _ w2 u [b, c] (now_own nw (by simp)) (by simp))
   subst hu
   have hro := hide (root_two hb.out hNW)
   replace hNW := hide hNW
   clear nw hN2
   go_wp2_with fail
   refine KI.out.mono ?_
   rintro e w3 ⟨kI, dI, rfl, oI, b3⟩
   obtain ⟨c2, al2, e2, k2, ng2⟩ := C2.out
   have hlen : (ns ++ more).length ≤ 1000 := by
    have h1 := (laid_len next (ns.map (·.1)) top []).2
    rw [← e2, List.length_map, List.length_map] at h1
    omega
   have KA := hide (padd_any B w3 gc g next av2 (ns ++ more) (inr [b, c]) kI (.slice none 0 0) dI (c2.to b3) (Nat.le_trans hB2.out b3.size) ng2 hgc.out hlen hnx ⟨(by obtain ⟨a, c, e⟩ := oI.keys.rd.slice; rw [e]; rfl), rfl, (by obtain ⟨a, c, e⟩ := oI.kids.rd.slice; rw [e]; rfl)⟩)
   have A3 := hide (al2.to b3)
   have I3 := hide oI.rdk
   have K3 := hide (k2.trans (KCh.of (gc := gc) (av := av2) b3 hB2.out))
   have C3 := hide (c2.to b3)
   obtain ⟨kia, kic, hki⟩ := oI.keys.rd.slice
   obtain ⟨dia, dic, hdi⟩ := oI.kids.rd.slice
   subst hki hdi
   obtain ⟨MI, hMI⟩ : ∃ M, M = inr [b, c] := ⟨_, rfl⟩
   have hMl : MI.leaf = false := by rw [hMI]; rfl
   rw [← hMI] at KA I3 hro ⊢
   dsimp only [nv] at KA ⊢
   rw [hMl] at KA ⊢
   have hlen2 : Hid ((laidOf next (ns.map (·.1)) top []).2.length = (ns ++ more).length) := by
    show _ = _
    rw [← e2, List.length_map]
   obtain ⟨LL, hLL⟩ : ∃ x, x = (ns ++ more).length := ⟨_, rfl⟩
   rw [← hLL] at KA hlen2
   replace hMI := hide hMI
   replace hMl := hide hMl
   replace hLL := hide hLL
   clear c2 al2 e2 k2 ng2 oI b3 KI
   go_wp2_with fail
   refine KA.out.mono ?_
   rintro e w4 ⟨av4, rfl, c4, k4⟩
   have kt : ∀ e, e ≠ 128 → e ≠ 98 → KeepT e w3 w4 := fun e h1 h2 => k4.keepT C3.out h1 h2
   have A4 := hide ((A3.out.keepT (kt _ (by decide) (by decide)) (kt _ (by decide) (by decide))).snoc (y := (MI, .slice kia MI.keys.length kic, .slice none 0 0, .slice dia MI.kids.length dic)) (I3.out.keepT (kt _ (by decide) (by decide)) (kt _ (by decide) (by decide))))
   have C4 := hide (And.intro c4 (K3.out.trans k4))
   clear c4 k4 kt KA
   obtain ⟨z, hz⟩ : ∃ z : Int, z = next + (LL : Int) := ⟨_, rfl⟩
   rw [← hz]
   replace hz := hide hz
   go_wp2
   go_ret
   refine ⟨av4, more ++ [(MI, .slice kia MI.keys.length kic, .slice none 0 0, .slice dia MI.kids.length dic)], ?_, by rw [← List.append_assoc]; exact C4.out.1, by rw [← List.append_assoc]; exact A4.out, ?_, C4.out.2⟩
   ·refine ret_i8 ?_
    rw [hro.out, hlen2.out, hz.out]
   ·obtain ⟨c2, al2, e2, k2, ng2⟩ := C2.out
    rw [hro.out, ← List.append_assoc, List.map_append, e2]
    rfl
end Go.Proofs.YtpiikmkajckccaaGreat

namespace Go.Proofs.YtpiikmkajckccaaGreat
open Go.RowKit
def TopV (root : Int) (m : Int → Option Value) (nd : Nd) (kv vv dv : Value) : Prop := (kv.ownBlock = none ∧ vv.ownBlock = none ∧ dv.ownBlock = none) ∨ m root = some (nv nd kv vv dv)
set_option maxRecDepth 100000 in
set_option maxHeartbeats 2000000 in
theorem ptop_at (w0 w : World) (B g bm : Nat) (t : Tr) (pv : Value) (s : Sw) (m : Int → Option Value) (H : PWk w0 w B g bm t pv s m) (hroot : (Lit.int .i64 t.root).wf = true) (ht : twalk t = some s) :
  Calls Tryz.prog 38 #[.pointer (some ⟨g, 0, none⟩)] w fun e w' => ∃ nd kv vv dv, e = .returned (nv nd kv vv dv) ∧ TopIs t nd ∧ OwnN B w' kv vv dv nd ∧ Below w.heap.size w w' ∧ Dj kv vv dv ∧ TopV t.root m nd kv vv dv := by
 obtain ⟨root, next, ps⟩ := t
 obtain ⟨W, hW, DW, bW, sW⟩ := boxedN w #[.bool false, .slice none 0 0, .slice none 0 0, .slice none 0 0] 98
 have HW := H.to bW
 obtain ⟨⟨C0, C1, C2, C3⟩, ⟨C4, C5⟩, CF⟩ := HW.cell
 obtain ⟨⟨E0, E1, E2, E3⟩, EF⟩ := cells4 DW
 dsimp only at C0 C1 C2 C3 C4 C5 hroot
 have HB := hide bW
 have HD := hide DW
 have HC := hide (And.intro HW.cell (cells4 DW))
 rw [hW] at C0 C1 C2 C3 C4 C5 CF E0 E1 E2 E3 EF
 by_cases r0 : root = 0
 ·have q : (root == 0) = true := by simp [r0]
  have hT : Hid (TopIs ⟨root, next, ps⟩ nd0) := .inl ⟨r0, rfl⟩
  replace r0 := hide r0
  clear DW bW
  go_enter Tryz.func38, Tryz.ntmps38
  go_wp2
  refine retN rfl rfl w.heap.size rfl _ _ _ (heap_alloc_last w _) _ Tryz.underlying98 rfl info_nd10 ?_
  exact ⟨nd0, _, _, _, rfl, hT.out, OwnN.nil _ _ _, (Below.refl _ _).alloc (Nat.le_refl _) _, Dj.nil, .inl ⟨rfl, rfl, rfl⟩⟩
 ·have q : (root == 0) = false := by simp [r0]
  obtain ⟨h1, _⟩ := root_seen ht r0
  obtain ⟨v, hv, x, nd, kv, vv, dv, n1, n2, rfl, n4, n5⟩ := HW.node h1.1
  replace n5 := hide n5
  have hTV : Hid (TopV root m nd kv vv dv) := .inr hv
  have bD : Below W.heap.size W W.drew := below_drewN' W 1 _
  have HD2 := HW.to bD
  have hlk1 := HW.map.look Tryz.underlying107 (zeroNd W) hroot false
  have hlk2 := HD2.map.look Tryz.underlying107 (zeroNd W.drew) hroot false
  rw [hv] at hlk1 hlk2
  simp only [Option.getD_some, Bool.false_eq_true, if_false] at hlk1 hlk2
  have hT : Hid (TopIs ⟨root, next, ps⟩ nd) := .inr ⟨r0, x, n1, n2⟩
  obtain ⟨ka, kc, va, vc, da, dc, rfl, rfl, rfl⟩ := n4.rd.slices
  dsimp only [nv] at hlk1 hlk2
  have HN4 := hide n4
  replace r0 := hide r0
  have HD0 := hide DW
  clear HD DW bW
  go_enter Tryz.func38, Tryz.ntmps38
  go_upto_region 3 with fail
  rw [← hW]
  clear C0 C1 C2 C3 C4 C5 CF E0 E1 E2 E3 EF
  obtain ⟨⟨⟨C0, C1, C2, C3⟩, ⟨C4, C5⟩, CF⟩, ⟨E0, E1, E2, E3⟩, EF⟩ := HC.out
  dsimp only at C0 C1 C2 C3 C4 C5
  replace hW := hide hW
  go_region
  go_wp2
  refine retN rfl rfl w.heap.size rfl _ _ (0, 0) (drewHeap (heap_set4 HD0.out _ _ _ _)) _ Tryz.underlying98 rfl info_nd10 ?_
  refine ⟨nd, _, _, _, rfl, hT.out, ?_, ?_, n5.out, hTV.out⟩
  ·have k := fun e he => s4_keep (w := W) HD0.out (.bool nd.leaf) (.slice ka nd.keys.length kc) (.slice va nd.vals.length vc) (.slice da nd.kids.length dc) (e := e) he
   exact OwnN.to (HN4.out.keepT (k _ (by decide)) (k _ (by decide)) : OwnN B (S4 w.heap.size W _ _ _ _) _ _ _ nd) (below_drewN' _ 1 _)
  ·exact (below_set4n HB.out (Nat.le_refl _) _ _ _ _).trans (below_drewN' _ 1 _)
theorem TopIs.of {t : Tr} {nd : Nd} (h : TopIs t nd) : topOf t = nd := by
 unfold topOf
 rcases h with ⟨h0, rfl⟩ | ⟨h0, x, h1, h2⟩
 ·rw [if_pos h0]; rfl
 ·rw [if_neg h0]; exact (show NdIs t.pages t.root nd from ⟨x, h1, h2⟩).at
theorem ttop_seen {t : Tr} {s : Sw} (h : twalk t = some s) : ∃ d, TTop t d s.prs ∧ ∀ i ∈ nI t.pages d (topOf t), i ∈ s.seen := by
 unfold twalk at h
 split at h
 ·rename_i h0
  have : s = ⟨[], none, []⟩ := (Option.some.inj h).symm
  subst this
  exact ⟨0, .inl ⟨h0, rfl, rfl⟩, fun i hi => by cases hi⟩
 ·rename_i h0
  obtain ⟨e, d, h1, h2, h3, h4, h5, h6, h7, h8⟩ := wk_tok 16 t.root [] none _ s h
  refine ⟨d, .inr ⟨h0, by omega, h4, h6, by simpa using h8⟩, fun i hi => ?_⟩
  obtain ⟨nd, hN, q1, q2, q3⟩ := tok_no h4
  have ht : topOf t = nd := by unfold topOf; rw [if_neg h0]; exact hN.at
  rw [ht] at hi
  rw [h5, q2]
  simp [hi]
theorem PWk.cw {w0 w : World} {B g bm : Nat} {t : Tr} {pv : Value} {s : Sw} {m : Int → Option Value} (h : PWk w0 w B g bm t pv s m) : CW w B g bm s.seen.length t.pages m := ⟨h.cell.1.2.2.2, h.map, h.nds, h.apt, h.hg.2, h.hm.2⟩
theorem put_cl {B : Nat} {w : World} {key val : Str} {gk gl : Nat} (hk : w.heap[gk]? = some (.cells #[st key] 9 (0, 0))) (hgk : gk < B) (hv : w.heap[gl]? = some (.cells #[st val] 9 (0, 0))) (hgl : gl < B) (hB : B ≤ w.heap.size) :
  EdCl B w 44 #[.pointer (some ⟨gl, 0, none⟩), .pointer (some ⟨gk, 0, none⟩)] key (edPut key val) (fun _ => True) := by
 intro u ps kv vv dv bu o dj hp hs _
 have hk' := (bu.block _ (lt_of_block hk)).trans hk
 have hv' := (bu.block _ (lt_of_block hv)).trans hv
 have hlen : (lf ps).keys.length ≤ 1000 := by have := (lf_ok hp hs).few; omega
 have hlv : (lf ps).vals.length = (lf ps).keys.length := by simp [lf]
 obtain ⟨A, C, f1, f2, hA, hC, hc⟩ := leaf_at hp hs key
 rcases hc with ⟨h1, v, h2⟩ | ⟨h1, h2⟩
 ·have hi : A.length < (lf ps).keys.length := by rw [h2]; simp [lf]
  have e : edPut key val (lf ps) = ⟨(lf ps).leaf, (lf ps).keys, (lf ps).vals.set A.length val, (lf ps).kids⟩ := by unfold edPut; rw [if_pos h1, f1]
  rw [e, f2, h1]
  refine Calls.mono (pputcl_set B u (lf ps) kv vv dv key val A.length gk gl o dj (Nat.le_trans hB bu.size) hlen hlv hi hv' hgl) ?_
  rintro e9 u' ⟨kv', vv', r1, r2, r3⟩
  exact ⟨kv', vv', dv, r1, r2, r3⟩
 ·have hi : A.length ≤ (lf ps).keys.length := by rw [h2]; simp [lf]
  have e : edPut key val (lf ps) = ⟨(lf ps).leaf, (lf ps).keys.take A.length ++ key :: (lf ps).keys.drop A.length, (lf ps).vals.take A.length ++ val :: (lf ps).vals.drop A.length, (lf ps).kids⟩ := by unfold edPut; rw [if_neg (by rw [h1]; simp), f1]
  rw [e, f2, h1]
  refine Calls.mono (pputcl_ins B u (lf ps) kv vv dv key val A.length gk gl o dj (Nat.le_trans hB bu.size) hlen hlv hi hk' hgk hv' hgl) ?_
  rintro e9 u' ⟨kv', vv', r1, r2, r3⟩
  exact ⟨kv', vv', dv, r1, r2, r3⟩
end Go.Proofs.YtpiikmkajckccaaGreat

namespace Go.Proofs.YtpiikmkajckccaaGreat
open Go.RowKit
theorem pgs_at : ∀ {z : Int} {ad : List Nd} {i : Nat} {n : Nd}, ad[i]? = some n → (pgs z ad)[i]? = some (z + (i : Int), nenc n)
 | z, [], i, n, h => by cases h
 | z, x :: r, 0, n, h => by
  simp only [List.getElem?_cons_zero, Option.some.injEq] at h
  subst h
  simp [pgs]
 | z, x :: r, i + 1, n, h => by
  have := pgs_at (z := z + 1) (ad := r) (i := i) (n := n) (by simpa using h)
  simp only [pgs, List.getElem?_cons_succ, this, Option.some.injEq, Prod.mk.injEq, and_true]
  push_cast
  omega
theorem pgs_next {z : Int} {ad : List Nd} {i : Nat} {n : Nd} (h : ad[i]? = some n) : (pgs z ad).take (i + 1) = (pgs z ad).take i ++ [(z + (i : Int), nenc n)] := by
 rw [List.take_add_one, pgs_at h]; rfl
theorem OwnNs.slice {B : Nat} {w : World} {v : Value} {ns : List NV} (h : OwnNs B w v ns) : ∃ a c, v = .slice a ns.length c := by
 rcases h.2 with ⟨rfl, e⟩ | ⟨g, cap, cur, rfl, _⟩
 ·exact ⟨none, 0, by rw [e]⟩
 ·exact ⟨_, _, rfl⟩
theorem OwnNs.at {B : Nat} {w : World} {a : Option Addr} {L c : Nat} {ns : List NV} (h : OwnNs B w (.slice a L c) ns) {i : Nat} {y : NV} (hy : ns[i]? = some y) : ∃ g, a = some ⟨g, 0, none⟩ ∧ B ≤ g ∧ w.cell? ⟨g, i * 4, none⟩ = some (.bool y.1.leaf) ∧ w.cell? ⟨g, i * 4 + 1, none⟩ = some y.2.1 ∧ w.cell? ⟨g, i * 4 + 2, none⟩ = some y.2.2.1 ∧ w.cell? ⟨g, i * 4 + 3, none⟩ = some y.2.2.2 := by
 have hi := (List.getElem?_eq_some_iff.1 hy).1
 obtain ⟨g, cap, cur, e, hB, hg, hk, hm, hs, ht⟩ := own_block h (by omega)
 obtain ⟨c1, c2, c3, c4⟩ := ncl_at ns i y hy
 have hcell : ∀ j, j < ns.length * 4 → w.cell? ⟨g, j, none⟩ = (ncl ns)[j]? := fun j hj => by
  rw [← ht, List.getElem?_take, if_pos hj]
  simp [World.cell?, hg]
 simp only [Value.slice.injEq] at e
 exact ⟨g, e.1, hB, by rw [hcell _ (by omega), c1], by rw [hcell _ (by omega), c2], by rw [hcell _ (by omega), c3], by rw [hcell _ (by omega), c4]⟩
def ChgE (w0 w' : World) (t : Tr) (key : Str) (ed : Nd → Nd) (d : Nat) (e : Ending) : Prop :=
 (∃ pv', t.next + ((chgR t key ed d).2.length : Int) ≤ 65536 ∧ e = .returned (.tuple #[tv (chgT t key ed d) pv', .int .i64 0]) ∧ OwnPg w0.heap.size w' pv' (chgT t key ed d).pages ∧ Below w0.heap.size w0 w') ∨
 (65536 < t.next + ((chgR t key ed d).2.length : Int) ∧ e = .returned (.tuple #[tv ⟨0, 0, []⟩ (.slice none 0 0), .int .i64 51]) ∧ Below w0.heap.size w0 w')
structure C3 (w0 w w3 : World) (B g : Nat) (t : Tr) (pv : Value) (bm : Nat) (s : Sw) (RT : Int) (AD : List Nd) (NS : List NV) (av : Value) : Prop where
 ch : ChI B w3 (w.heap.size + 1) g t.next av NS
 al : AllK w3 NS
 ad : NS.map (·.1) = AD
 dr : w3.heap[w.heap.size]? = some (.cells #[.int .i64 0, .int .i64 0, .slice none 0 0] 28 (0, 0))
 gb : w3.heap[g]? = some (.cells (pcl6 t pv bm s) 109 (0, 0))
 bel : Below w0.heap.size w0 w3
theorem C3.to {w0 w w3 w4 : World} {B g : Nat} {t : Tr} {pv : Value} {bm : Nat} {s : Sw} {RT : Int} {AD : List Nd} {NS : List NV} {av : Value} (h : C3 w0 w w3 B g t pv bm s RT AD NS av) (b : Below w3.heap.size w3 w4) : C3 w0 w w4 B g t pv bm s RT AD NS av :=
 ⟨h.ch.to b, h.al.to b, h.ad, (b.block _ (lt_of_block h.dr)).trans h.dr, (b.block _ (lt_of_block h.gb)).trans h.gb, h.bel.trans (b.mono h.bel.size)⟩
set_option maxRecDepth 100000 in
set_option maxHeartbeats 16000000 in
theorem pchanged_any (w0 w : World) (B g bm : Nat) (t : Tr) (pv : Value) (s : Sw) (m : Int → Option Value) (key : Str) (F : Nat) (caps : Array Value) (ed : Nd → Nd) (upd : List Pr → List Pr) (good : List Pr → Prop) (d : Nat) (H : PWk w0 w B g bm t pv s m) (hB : B ≤ w.heap.size) (hroot : (Lit.int .i64 t.root).wf = true) (ht : twalk t = some s) (hpn : PNum t)
  (hps : s.prs.length ≤ 4096) (hTT : TTop t d s.prs) (hseen : ∀ i ∈ nI t.pages d (topOf t), i ∈ s.seen) (hx : ∀ x ∈ t.pages, x.2.length ≤ 140737488351232) (hE : EdOk key upd ed) (hG : ∀ A X C, (∀ y ∈ A, slt y.1 key = true) → (∀ y ∈ C, slt key y.1 = true) → good (A ++ X ++ C) → good X) (hgood : good s.prs) (hcl : EdCl B w F caps key ed good)
  (he : ∀ args u, (callFunc F args).run Tryz.prog u = .ok (.enter F args) u) (hTN : TNum t) :
  Calls Tryz.prog 43 #[.pointer (some ⟨g, 0, none⟩), st key, .func (.func F) #[] caps] w fun e w' => ChgE w0 w' t key ed d e := by
 obtain ⟨W, hW, DW, bW, sW⟩ := boxedN w #[.int .i64 0, .int .i64 0, .slice none 0 0] 28
 obtain ⟨X, hX, DX, bX, sX⟩ := boxedN W #[.pointer (some ⟨g, 0, none⟩), .slice none 0 0] 128
 have bWX := bW.trans (bX.mono bW.size)
 have PX := H.to bWX
 have KT := hide (ptop_at w0 X B g bm t pv s m PX hroot ht)
 have D1 := (bX.block _ (lt_of_block DW)).trans DW
 rw [sW] at DX
 have HX := hide (And.intro bWX (And.intro PX (And.intro D1 DX)))
 rw [hX, hW] at KT
 have HNL : Hid (∀ b, w.heap.size ≤ b → ¬ LfB m b) := fun b hb hL => by have := (H.cw.leaf hL).2; omega
 have HBL : Hid (∀ b, b < B → ¬ LfB m b) := fun b hb hL => by have := (H.cw.leaf hL).1; omega
 replace H := hide H
 replace hcl := hide hcl
 replace hE := hide hE
 replace hG := hide hG
 replace hgood := hide hgood
 replace hTT := hide hTT
 replace hseen := hide hseen
 replace ht := hide ht
 replace hpn := hide hpn
 replace hTN := hide hTN
 replace hx := hide hx
 clear D1 DX bWX PX DW bW bX
 go_enter Tryz.func43, Tryz.ntmps43
 go_wp2_with fail
 refine KT.out.mono ?_
 rintro e w1 ⟨nd9, kv, vv, dv, rfl, hT9, ho, b1, hdj, htv⟩
 rw [← hW, ← hX] at b1
 obtain ⟨bWX, PX, D1, DX⟩ := HX.out
 have P1 := PX.to b1
 have hnb : Hid (w.heap.size ≤ w1.heap.size) := Nat.le_trans bWX.size b1.size
 have hB1 : B ≤ w1.heap.size := Nat.le_trans hB hnb.out
 have bw1 := bWX.trans (b1.mono bWX.size)
 have D2 := (b1.block _ (lt_of_block D1)).trans D1
 have C2 := (b1.block _ (lt_of_block DX)).trans DX
 have Ch1 : ChI B w1 (w.heap.size + 1) g t.next (.slice none 0 0) [] := ⟨C2, World.ownsRow_nil _ _ _ _, cellN P1.box rfl, by omega⟩
 have hgg : w.heap.size + 1 ≠ g := by have := P1.hg.2; omega
 have hto := hT9.of
 obtain ⟨q1, q2, q3, q4, q5⟩ := top_no hTT.out
 have hsn := hseen.out
 rw [hto] at q1 q2 q3 q4 q5 hsn
 have hdd := ttop_deep hTT.out hps
 have hnx : 0 ≤ t.next ∧ t.next ≤ 65536 := ⟨by have := hpn.out.1; omega, hpn.out.2.1⟩
 have KR := hide (preb_any (next := t.next) hE.out hgg hnx hG.out he d nd9 [] none w1 kv vv dv (by omega) P1.cw Ch1 hB1 ho hdj (fun hl b hb => by
   rcases htv with ⟨z1, z2, z3⟩ | htv
   ·rcases hb with hb | hb
    ·rw [z1] at hb; cases hb
    ·rw [z2] at hb; cases hb
   ·exact LfB.of htv hl b hb) (fun hl b hb => by
   rcases htv with ⟨z1, z2, z3⟩ | htv
   ·rcases row_nv hb with hb | hb | hb
    ·rw [z1] at hb; cases hb
    ·rw [z2] at hb; cases hb
    ·rw [z3] at hb; cases hb
   ·exact P1.cw.inner htv hl hb) q1 q2 q3 (fun i hi => by
   have h1 := hsn i hi
   have h2 := P1.ok.2.1 i h1
   exact ⟨by rw [P1.has]; exact decide_eq_true h1, h2.1, by omega⟩) (by rw [q5]; exact hgood.out) (hcl.out.to bw1))
 have hsh := hide (reb_shape (l := t.pages) (next := t.next) hE.out d nd9 [] none [] q1 q2 q3)
 have hrl := hide (reb_len t.pages t.next key ed d nd9 []).2
 have hchg : Hid (chgR t key ed d = rootOf t.next (rebOf t.pages t.next key ed d nd9 []).2 (rebOf t.pages t.next key ed d nd9 []).1) := by show _ = _; unfold chgR; rw [hto]
 unfold RbR at KR
 obtain ⟨MM, hMM⟩ : ∃ M, M = (rebOf t.pages t.next key ed d nd9 []).1 := ⟨_, rfl⟩
 obtain ⟨AD, hAD⟩ : ∃ A, A = (rebOf t.pages t.next key ed d nd9 []).2 := ⟨_, rfl⟩
 rw [← hMM, ← hAD] at KR hchg
 rw [← hMM] at hsh
 rw [← hAD] at hrl
 have H1 := hide (And.intro P1 (And.intro D2 C2))
 obtain ⟨ka, kc, va, vc, da, dc, rfl, rfl, rfl⟩ := ho.rd.slices
 dsimp only [nv] at KR
 replace hX := hide hX
 replace hW := hide hW
 replace hMM := hide hMM
 replace hAD := hide hAD
 replace hto := hide hto
 replace htv := hide htv
 clear KT ho b1 hT9 bWX PX D1 DX P1 D2 C2 bw1 HX Ch1 q1 q2 q3 q4 q5 hsn
 go_wp2_with fail
 refine KR.out.mono ?_
 rintro e w2 ⟨kv', vv', dv', av2, ns2, rfl, r2, c2, al2, e2, k2⟩
 obtain ⟨P1, D1, C1⟩ := H1.out
 have hB2 : B ≤ w2.heap.size := Nat.le_trans hB1 k2.size
 have hgB : Hid (w0.heap.size ≤ g ∧ g < B) := P1.hg
 have hws : Hid (w.heap.size < w1.heap.size) := lt_of_block D1
 have D2 := (k2.keep _ (lt_of_block D1) (by omega) (HNL.out _ (Nat.le_refl _))).trans D1
 have G2 := (k2.keep _ (lt_of_block P1.box) (Ne.symm hgg) (HBL.out _ hgB.out.2)).trans P1.box
 have hlen2 : ns2.length ≤ 800 := by
  have h1 := hrl.out
  rw [← e2, List.length_map] at h1
  simp at h1
  omega
 have hav2 : Hid (∀ b, av2.ownBlock = some b → w1.heap.size ≤ b) := k2.row
 have KO := hide (proot_gen B w2 (w.heap.size + 1) g t.next av2 ns2 MM kv' vv' dv' d c2 al2 hB2 (fun b hb => by have := k2.row b hb; have := hgB.out; omega) hgg hlen2 hnx r2 hsh.out)
 unfold RoR at KO
 rw [e2, ← hchg.out] at KO
 have bel2 : Below w0.heap.size w0 w2 := P1.bel.trans (k2.bel.mono (by have := hgB.out; omega))
 have H2 := hide (And.intro D2 (And.intro G2 bel2))
 have hw0B : Hid (w0.heap.size ≤ B) := by have := hgB.out; show _ ≤ _; omega
 obtain ⟨ka', kc', va', vc', da', dc', rfl, rfl, rfl⟩ := r2.rd.slices
 dsimp only [nv] at KO
 replace e2 := hide e2
 clear r2 c2 al2 k2 P1 D1 C1 D2 G2 KR H1 bel2
 dsimp only [nv]
 go_wp2_with fail
 refine KO.out.mono ?_
 rintro e w3 ⟨av3, more, rfl, c3, al3, e3, k3⟩
 obtain ⟨NS, hNS⟩ : ∃ x, x = ns2 ++ more := ⟨_, rfl⟩
 rw [← hNS] at c3 al3 e3
 obtain ⟨RT, hRT⟩ : ∃ r, r = (chgR t key ed d).1 := ⟨_, rfl⟩
 obtain ⟨A3, hA3⟩ : ∃ r, r = (chgR t key ed d).2 := ⟨_, rfl⟩
 rw [← hRT]
 rw [← hA3] at e3
 have CC : C3 w0 w w3 B g t pv bm s RT A3 NS av3 := by
  obtain ⟨D2, G2, bel2⟩ := H2.out
  refine ⟨c3, al3, e3, (k3.keep _ (lt_of_block D2) (by omega) (fun e => ?_)).trans D2, (k3.keep _ (lt_of_block G2) (Ne.symm hgg) (fun e => ?_)).trans G2, bel2.trans (k3.bel.mono hw0B.out)⟩
  ·have h1 := hav2.out _ e
   have h2 := lt_of_block D2
   have h3 := hws.out
   omega
  ·have h1 := hav2.out _ e
   have := hgB.out
   omega
 have bD : Below w3.heap.size w3 w3.drew := below_drewN' w3 1 _
 have C4 := hide (CC.to bD)
 have hlen : t.pages.length ≤ 65536 := by have := tups_len hpn.out.2.2 hpn.out.1; have := hpn.out.2.1; omega
 have KC := hide (pcopied_any w3.drew t pv (H.out.pg.to0 C4.out.bel) hlen hx.out)
 have hB4 : Hid (B ≤ w3.drew.heap.size) := Nat.le_trans (Nat.le_trans hB2 k3.size) bD.size
 obtain ⟨pa, pc, hpv⟩ := H.out.pg.slice
 subst hpv
 obtain ⟨a3, cap3, hav3⟩ := OwnNs.slice CC.ch.row
 obtain ⟨NL, hNL⟩ : ∃ n, n = NS.length := ⟨_, rfl⟩
 rw [← hNL] at hav3
 subst hav3
 have hAl : Hid (A3.length = NL) := by show _ = _; rw [hNL, ← CC.ad, List.length_map]
 have hNLb : NL ≤ 1000 := by
  have h1 := root_len t.next AD MM
  rw [← hchg.out, ← hA3, hAl.out] at h1
  have h2 := hrl.out
  simp at h2
  omega
 have Q0 := cellN CC.ch.box (i := 0) rfl
 have Q1 := cellN CC.ch.box (i := 1) rfl
 have Q2 := CC.ch.nxt
 have U0 := cellN C4.out.ch.box (i := 0) rfl
 have U1 := cellN C4.out.ch.box (i := 1) rfl
 have X0 := cellN C4.out.gb (i := 0) rfl
 have X1 := cellN C4.out.gb (i := 1) rfl
 have X2 := cellN C4.out.gb (i := 2) rfl
 have hwz : wrap64 (t.next + (NL : Int)) = t.next + (NL : Int) := by have := hpn.out.1; have := hpn.out.2.1; unfold wrap64; omega
 dsimp only [tv] at KC
 replace hRT := hide hRT
 replace hA3 := hide hA3
 replace hNS := hide hNS
 replace hNL := hide hNL
 clear c3 k3 al3 e3 CC bD KO H2
 go_upto_region 3 with fail
 go_region
 clear hwz Q0 Q1 Q2
 obtain ⟨V, hV⟩ : ∃ V, V = w3.drew := ⟨_, rfl⟩
 obtain ⟨NX, hNX⟩ : ∃ z, z = t.next + (NL : Int) := ⟨_, rfl⟩
 rw [← hV] at KC U0 U1 X0 X1 X2 C4 hB4 ⊢
 rw [← hNX]
 replace hNX := hide hNX
 replace hV := hide hV
 have hcl2 : Hid (t.next + ((chgR t key ed d).2.length : Int) = NX) := by show _ = _; rw [← hA3.out, hAl.out, hNX.out]
 by_cases hfit : 65536 < NX
 ·have hq : NX > 65536 := hfit
  have HDR := hide C4.out.dr
  obtain ⟨⟨J0, J1, J2⟩, JF⟩ := cells3p HDR.out
  have h0w : w0.heap.size ≤ w.heap.size := H.out.bel.size
  have BF := hide (below_set3t C4.out.bel h0w (.int .i64 0) (.int .i64 0) (.slice none 0 0))
  clear U0 U1 X0 X1 X2
  go_wp2
  (try simp only [Exit.inBlock, Exit.then])
  refine retNT rfl rfl w.heap.size rfl _ _ (0, 0) (heap_set3t HDR.out _ _ _) _ Tryz.underlying28 rfl info_tr _ rfl ?_
  exact .inr ⟨by rw [hcl2.out]; exact hfit, rfl, BF.out⟩
 ·have hfin : ¬ NX > 65536 := hfit
  have hoks := hide (chg_ok hTN.out hTT.out hps hE.out (by rw [hcl2.out]; omega)).1
  rw [← hA3.out] at hoks
  clear hfit
  go_wp2_with fail
  refine KC.out.mono ?_
  rintro e w5 ⟨pv5, rfl, o5, b5⟩
  obtain ⟨a5, q5, h5⟩ := o5.shape
  subst h5
  obtain ⟨Y, hY, DY, bY, sY⟩ := boxedN w5 #[.int .i64 t.root, .int .i64 t.next, .slice a5 t.pages.length q5] 28
  have bVY := b5.trans (bY.mono b5.size)
  have OY : OwnPg V.heap.size Y (.slice a5 t.pages.length q5) t.pages := o5.to9 bY
  have cY := C4.out.to bVY
  have U1' := cellN cY.ch.box (i := 1) rfl
  rw [hY] at U1'
  have hyb : Hid (V.heap.size ≤ w5.heap.size) := b5.size
  obtain ⟨PG, hPG⟩ : ∃ x, x = pgs t.next A3 := ⟨_, rfl⟩
  have CI0 : Hid (∃ pv', Y.heap[w5.heap.size]? = some (.cells #[.int .i64 t.root, .int .i64 t.next, pv'] 28 (0, 0)) ∧ OwnPg V.heap.size Y pv' (t.pages ++ PG.take 0) ∧ Below V.heap.size V Y) := ⟨_, DY, by simpa using OY, bVY⟩
  have hPl : Hid (PG.length = NL) := by show _ = _; rw [hPG, pgs_len, hAl.out]
  replace hPG := hide hPG
  clear KC o5 b5 DY bY OY cY bVY U0 U1 X0 X1 X2
  dsimp only [tv]
  go_wp2_with fail
  rw [← hY]
  clear U1'
  replace hY := hide hY
  go_loopw [46] (fun p wr => ∃ k : Nat, k ≤ NL ∧ p = .int .i64 k ∧ Hid (∃ pv', wr.heap[w5.heap.size]? = some (.cells #[.int .i64 t.root, .int .i64 t.next, pv'] 28 (0, 0)) ∧ OwnPg V.heap.size wr pv' (t.pages ++ PG.take k) ∧ Below V.heap.size V wr)) (fun p _ => NL - (intOf p).toNat)
  case atStart => exact ⟨0, Nat.zero_le _, rfl, CI0⟩
  case round =>
   obtain ⟨k, hk, rfl, hI⟩ := hrel
   clear CI0
   obtain ⟨pv6, d6, o6, b6⟩ := hI.out
   have C6 := C4.out.to b6
   by_cases hlt : k < NL
   ·have hq : ((k : Nat) : Int) < (NL : Int) := by omega
    obtain ⟨⟨nd', kv', vv', dv'⟩, hy⟩ : ∃ y, NS[k]? = some y := ⟨_, List.getElem?_eq_getElem (by rw [← hNL.out]; exact hlt)⟩
    obtain ⟨g3, hg3, hBg3, R0, R1, R2, R3⟩ := OwnNs.at C6.ch.row hy
    have hyA : A3[k]? = some nd' := by rw [← C6.ad, List.getElem?_map, hy]; rfl
    have hok : NOk nd' := hoks.out nd' (List.mem_of_getElem? hyA)
    have N6 : RdK wr kv' vv' dv' nd' := C6.al _ (List.mem_of_getElem? hy)
    subst hg3
    obtain ⟨ka', kc', va', vc', da', dc', hs1, hs2, hs3⟩ := N6.rd.slices
    subst hs1 hs2 hs3
    dsimp only at R0 R1 R2 R3
    obtain ⟨Z, hZ, DZ, bZ, sZ⟩ := boxedN wr #[.bool nd'.leaf, .slice ka' nd'.keys.length kc', .slice va' nd'.vals.length vc', .slice da' nd'.kids.length dc'] 98
    have KE := hide (penc_any Z _ _ _ nd' (N6.to bZ).rd hok.fit)
    obtain ⟨⟨E0, E1, E2, E3⟩, EF⟩ := cells4 DZ
    rw [hZ] at KE E0 E1 E2 E3 EF
    dsimp only [nv] at KE
    rw [(nout_ok hok).1, (nout_ok hok).2] at KE
    have HQ := hide (And.intro d6 (And.intro o6 (And.intro b6 (And.intro C6 bZ))))
    have hnx2 : Hid (PG.take (k + 1) = PG.take k ++ [(t.next + (k : Int), nenc nd')]) := by show _ = _; rw [hPG.out]; exact pgs_next hyA
    replace hy := hide hy
    replace hyA := hide hyA
    replace hok := hide hok
    clear d6 o6 b6 C6 bZ DZ N6 hI
    go_wp2_with fail
    refine KE.out.mono ?_
    rintro e w7 ⟨v7, rfl, o7, b7⟩
    rw [← hZ] at b7 o7
    obtain ⟨d6, o6, b6, C6, bZ⟩ := HQ.out
    have bz7 := bZ.trans (b7.mono bZ.size)
    have bD : Below w7.heap.size w7 w7.drew := below_drewN' w7 1 _
    have bb := bz7.trans (bD.mono bz7.size)
    have d7 := (bz7.block _ (lt_of_block d6)).trans d6
    have O7 : OwnPg V.heap.size w7 pv6 (t.pages ++ PG.take k) := o6.to9 bz7
    have C7 := C6.to bb
    have B7 := b6.trans (bz7.mono b6.size)
    have S7 : OwnB V.heap.size w7 v7 (nenc nd') := rows_mono o7 (Nat.le_trans b6.size bZ.size)
    obtain ⟨va7, vc7, hv7⟩ := o7.rd.slice
    subst hv7
    obtain ⟨pa6, pc6, hp6⟩ := O7.shape
    obtain ⟨PK, hPK⟩ : ∃ x, x = t.pages ++ PG.take k := ⟨_, rfl⟩
    rw [← hPK] at hp6 O7
    obtain ⟨PL, hPL⟩ : ∃ x, x = PK.length := ⟨_, rfl⟩
    have hPLb : PL ≤ 70000 := by rw [hPL, hPK, List.length_append, List.length_take]; omega
    rw [← hPL] at hp6
    subst hp6
    have Y2 := cellN (drewHeap d7) (i := 2) rfl
    have Y0 := cellN C7.ch.box (i := 0) rfl
    have Y1 := cellN C7.gb (i := 1) rfl
    obtain ⟨EL, hEL⟩ : ∃ n, n = (nenc nd').length := ⟨_, rfl⟩
    have S7' : OwnB V.heap.size w7 (.slice va7 EL vc7) (nenc nd') := by rw [hEL]; exact S7
    rw [← hEL]
    have H7 := hide (And.intro d7 (And.intro O7 (And.intro B7 S7')))
    replace hEL := hide hEL
    replace hZ := hide hZ
    replace hPK := hide hPK
    replace hPL := hide hPL
    clear d6 o6 b6 C6 bZ b7 bz7 bD bb d7 O7 C7 B7 S7 S7' o7 E0 E1 E2 E3 EF R0 R1 R2 R3 KE
    have hnz2 : IntKind.i64.wrap (t.next + (k : Int)) = t.next + (k : Int) := IntWalk.i64_in _ (by have := hpn.out.1; have := hpn.out.2.1; omega)
    go_upto_region 11 with fail
    refine wp_region_mid (fun w' => w'.cell? ⟨w5.heap.size, 2, none⟩ = some (.slice pa6 PL pc6) ∧ w'.cell? ⟨w.heap.size + 1, 0, none⟩ = some (.pointer (some ⟨g, 0, none⟩)) ∧ w'.cell? ⟨g, 1, none⟩ = some (.int .i64 t.next)) 11 13 mixed (by kernel_rfl) (fun _ _ _ _ h => h) ⟨Y2, Y0, Y1⟩ ?_
    dsimp only [List.take, List.drop]
    iterate 11
     refine take_one (v := ?_) (by rfl) ?_ ?_
     rotate_left
     ·rintro w' ⟨s1, s2, s3⟩
      go_simp
      try with_reducible rfl
     try simp only [Act.put, List.setIfInBounds_toArray, List.set_cons_zero, List.set_cons_succ]
    refine mid_one fun K hK => ?_
    rw [if_pos (by rfl)]
    go_simp
    refine hK _ _ ⟨Y2, Y0, Y1⟩ ?_
    clear hK K
    refine mid_one fun K hK => ?_
    rw [if_pos (by rfl)]
    go_simp
    refine hK _ _ ⟨cellAl Y2 _, cellAl Y0 _, cellAl Y1 _⟩ ?_
    clear hK K
    show wpList _ _ _ _ _ _
    (try simp only [hnz2])
    obtain ⟨TK, hTK⟩ : ∃ z, z = t.next + (k : Int) := ⟨_, rfl⟩
    rw [← hTK] at hnx2 ⊢
    obtain ⟨d7, O7, B7, S7⟩ := H7.out
    obtain ⟨Qa, hQa, DQa, bQa, sQ⟩ := boxedN w7 #[.int .i64 TK, .slice va7 EL vc7] 44
    obtain ⟨Q, hQ⟩ : ∃ Q, Q = (w7.alloc (.cells #[.int .i64 TK, .slice va7 EL vc7] 44)).drew := ⟨_, rfl⟩
    have bQ : Below w7.heap.size w7 Q := by rw [hQ, ← hQa]; exact bQa.trans (below_drewN' Qa 1 _)
    have DQ : Q.heap[w7.heap.size]? = some (.cells #[.int .i64 TK, .slice va7 EL vc7] 44 (0, 0)) := by rw [hQ, ← hQa]; exact drewHeap DQa
    obtain ⟨⟨Z0, Z1⟩, _⟩ := cells2r DQ
    have OZ := O7.to9 bQ
    have SZ : OwnB V.heap.size Q (.slice va7 EL vc7) (nenc nd') := rows_to S7 bQ
    have BQ := B7.trans (bQ.mono B7.size)
    have hBq : V.heap.size ≤ Q.heap.size := BQ.size
    have dQ := (bQ.block _ (lt_of_block d7)).trans d7
    have FIN : ∀ v5 w6, OwnPg V.heap.size w6 v5 (PK ++ [(TK, nenc nd')]) → Below V.heap.size Q w6 → (∀ e, e ≠ 44 → KeepT e Q w6) →
      Hid (∃ pv', (w6.setCell ⟨w5.heap.size, 2, none⟩ v5).heap[w5.heap.size]? = some (.cells #[.int .i64 t.root, .int .i64 t.next, pv'] 28 (0, 0)) ∧ OwnPg V.heap.size (w6.setCell ⟨w5.heap.size, 2, none⟩ v5) pv' (t.pages ++ PG.take (k + 1)) ∧ Below V.heap.size V (w6.setCell ⟨w5.heap.size, 2, none⟩ v5)) ∧
      w6.cell? ⟨w5.heap.size, 2, none⟩ = some (.slice pa6 PL pc6) ∧ w6.frozen? ⟨w5.heap.size, 2, none⟩ = false := fun v5 w6 o5 b5 k5 => by
     have d8 := k5 _ (by decide) _ _ _ dQ
     have d9 := heap_setN d8 2 v5
     have kk := fun e (he : e ≠ 28) => KeepT.set (a := ⟨w5.heap.size, 2, none⟩) d8 he v5
     have o9 : OwnPg V.heap.size w6 v5 (t.pages ++ PG.take (k + 1)) := by rw [hnx2.out, ← List.append_assoc, ← hPK.out]; exact o5
     exact ⟨⟨v5, by simpa using d9, o9.keepT (kk _ (by decide)) (kk _ (by decide)), (BQ.trans b5).setCell hyb.out _⟩, cellN d8 rfl, frozN d8 2⟩
    rw [hQ] at Z0 Z1 OZ SZ hBq FIN
    replace FIN := hide FIN
    have hpl : (PK.length + 1) * 32 ≤ 140737488355328 := by rw [← hPL.out]; omega
    have OZ' := hide OZ
    replace hTK := hide hTK
    clear d7 O7 B7 S7 DQ bQ hQ dQ BQ H7 Y2 Y0 Y1 hnz2 hQa DQa bQa sQ
    refine wpList_appPg rfl _ _ rfl V.heap.size (.slice pa6 PL pc6) PK (TK, nenc nd') (.slice va7 EL vc7) w7.heap.size rfl rfl OZ SZ rfl Z0 Z1 hpl hBq ?_
    intro v5 w6 o5 _ b5 k5
    obtain ⟨a9, c9, h9⟩ := o5.shape
    subst h9
    obtain ⟨F1, F2, F3⟩ := FIN.out _ w6 o5 b5 k5
    generalize (PK ++ [(TK, nenc nd')]).length = L9 at *
    clear o5 b5 k5 FIN Z0 Z1 OZ SZ hBq hpl OZ'
    go_wp2
    go_roundw
    case rel => exact ⟨k + 1, hlt, by go_num, F1⟩
    case measure => simp [intOf]; omega
   ·obtain rfl : k = NL := by omega
    have hq : ¬ ((k : Nat) : Int) < (k : Int) := by omega
    have D6 := C6.dr
    obtain ⟨pa6, pc6, hp6⟩ := o6.shape
    subst hp6
    have htk : PG.take k = PG := List.take_of_length_le (by rw [hPl.out]; exact Nat.le_refl _)
    rw [htk] at o6 d6
    obtain ⟨L9, hL9⟩ : ∃ n, n = (t.pages ++ PG).length := ⟨_, rfl⟩
    have o6' : OwnPg V.heap.size wr (.slice pa6 L9 pc6) (t.pages ++ PG) := by rw [hL9]; exact o6
    rw [← hL9] at d6
    obtain ⟨⟨E0, E1, E2⟩, EF⟩ := cells3p d6
    have hne : w5.heap.size ≠ w.heap.size := by have := hyb.out; have := lt_of_block C4.out.dr; omega
    obtain ⟨Q, hQ⟩ : ∃ Q, Q = (wr.setCell ⟨w5.heap.size, 0, none⟩ (.int .i64 RT)).setCell ⟨w5.heap.size, 1, none⟩ (.int .i64 NX) := ⟨_, rfl⟩
    have dq := heap_setN (heap_setN d6 0 (.int .i64 RT)) 1 (.int .i64 NX)
    have DQ : Q.heap[w5.heap.size]? = some (.cells #[.int .i64 RT, .int .i64 NX, .slice pa6 L9 pc6] 28 (0, 0)) := by rw [hQ]; simpa using dq
    have DR : Q.heap[w.heap.size]? = some (.cells #[.int .i64 0, .int .i64 0, .slice none 0 0] 28 (0, 0)) := by
     rw [hQ]; exact (Below.heap_setCell _ _ _ _ (Ne.symm hne)).trans ((Below.heap_setCell _ _ _ _ (Ne.symm hne)).trans D6)
    have kq : ∀ e, e ≠ 28 → KeepT e wr Q := fun e he => by
     rw [hQ]; exact (KeepT.set (a := ⟨w5.heap.size, 0, none⟩) d6 he _).trans (KeepT.set (a := ⟨w5.heap.size, 1, none⟩) (heap_setN d6 0 _) he _)
    have bq : Below w0.heap.size w0 Q := by
     rw [hQ]
     have h9 : w0.heap.size ≤ w5.heap.size := Nat.le_trans C4.out.bel.size hyb.out
     exact (C6.bel.setCell h9 _).setCell h9 _
    have ks := fun e (he : e ≠ 28) => s3_keep9 DR (.int .i64 RT) (.int .i64 NX) (.slice pa6 L9 pc6) he
    have OF := hide ((o6'.keepT (kq _ (by decide)) (kq _ (by decide))).keepT (ks _ (by decide)) (ks _ (by decide)))
    have h0w : w0.heap.size ≤ w.heap.size := H.out.bel.size
    have BF := hide (below_set3t bq h0w (.int .i64 RT) (.int .i64 NX) (.slice pa6 L9 pc6))
    obtain ⟨⟨P0, P1, P2⟩, PF⟩ := cells3p DQ
    obtain ⟨⟨J0, J1, J2⟩, JF⟩ := cells3p DR
    have HDR := hide DR
    have hVb : Hid (w0.heap.size ≤ V.heap.size) := C4.out.bel.size
    rw [hQ] at P0 P1 P2 PF J0 J1 J2 JF HDR OF BF
    replace htk := hide htk
    clear dq DQ DR kq bq ks o6 o6' d6 b6 hI D6 C6 hQ hL9
    go_wp2
    refine retNT rfl rfl w.heap.size rfl _ _ (0, 0) (heap_set3t HDR.out _ _ _) _ Tryz.underlying28 rfl info_tr _ rfl ?_
    have eT : chgT t key ed d = ⟨RT, NX, t.pages ++ PG⟩ := by
     unfold chgT
     rw [hcl2.out, ← hRT.out, ← hA3.out, ← hPG.out]
    refine .inl ⟨.slice pa6 L9 pc6, by rw [hcl2.out]; omega, by rw [eT]; rfl, ?_, BF.out⟩
    rw [eT]
    exact OwnX.base (OF.out) hVb.out
end Go.Proofs.YtpiikmkajckccaaGreat
