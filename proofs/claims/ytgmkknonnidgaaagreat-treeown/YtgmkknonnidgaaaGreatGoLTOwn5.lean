/- Several texts in one: TLd TBF TBG TBH TBI TBJ TBK TJn TInS TDelS TCl TClD TRb. -/
import Derived.Deep.QuietTactic
import Derived.BigQuiet
import Derived.Laws.Cover1
import Derived.OwnWalkIn
import Derived.Test.YtgmkknonnidgaaaGreatGoLTOwn4
import Derived.Test.YtgmkknonnidgaaaGreatGoLTOwn2
import Derived.Test.YtgmkknonnidgaaaGreatGoLTOwn3
import Derived.Laws.Externs
import Derived.Shelf.RegionOpenPlain
set_option linter.unusedVariables false
set_option linter.unusedSimpArgs false
namespace Go.Proofs.YtgmkknonnidgaaaGreat
open Go.RowKit
def NowV (C : Nat) (w : World) (u : Value) (now : List Br) : Prop := (u = .slice none 0 0 ∧ now = []) ∨ (∃ gn, u = .slice (some ⟨gn, 0, none⟩) now.length now.length ∧ 0 < now.length ∧ w.heap[gn]? = some (.cells (bcl now).toArray 133 (0, 0)) ∧ C ≤ gn)
def LdR (B gc g : Nat) (next : Int) (av : Value) (ns : List NV) (n : Nd) (ahead : Str) (w w' : World) (e : Ending) : Prop := ∃ u av' more, e = .returned u ∧ NowV w.heap.size w' u (laidOf next (ns.map (·.1)) n ahead).1 ∧ ChI B w' gc g next av' (ns ++ more) ∧ AllK w' (ns ++ more) ∧ (ns ++ more).map (·.1) = (laidOf next (ns.map (·.1)) n ahead).2 ∧ KCh B gc av av' w w' ∧ ∀ b, av'.ownBlock = some b → b ≠ g
theorem KCh.apart {B gc g : Nat} {next : Int} {av av' : Value} {ns : List NV} {w w' : World} (c : ChI B w gc g next av ns) (hg : ∀ b, av.ownBlock = some b → b ≠ g) (k : KCh B gc av av' w w') : ∀ b, av'.ownBlock = some b → b ≠ g := fun b hb => by
 rcases k.row b hb with h | h
 ·exact hg b h
 ·have : g < w.heap.size := cell_lt c.nxt
  omega
structure L5 (B gc g : Nat) (next : Int) (av : Value) (ns : List NV) (n : Nd) (kv vv dv : Value) (nb : Nat) (w0 w : World) : Prop where
 ch : ChI B w gc g next av ns
 al : AllK w ns
 nd : RdK w kv vv dv n
 box : w.heap[nb]? = some (.cells #[.bool n.leaf, kv, vv, dv] 76 (0, 0))
 kc : KCh B gc av av w0 w
 hB : B ≤ w.heap.size
theorem L5.to {B gc g : Nat} {next : Int} {av : Value} {ns : List NV} {n : Nd} {kv vv dv : Value} {nb : Nat} {w0 w w' : World} (h : L5 B gc g next av ns n kv vv dv nb w0 w) (b : Below w.heap.size w w') : L5 B gc g next av ns n kv vv dv nb w0 w' :=
 ⟨h.ch.to b, h.al.to b, h.nd.to b, (b.block _ (lt_of_block h.box)).trans h.box, h.kc.trans (KCh.of b h.hB), Nat.le_trans h.hB b.size⟩
theorem L5.cells {B gc g : Nat} {next : Int} {av : Value} {ns : List NV} {n : Nd} {kv vv dv : Value} {nb : Nat} {w0 w : World} (h : L5 B gc g next av ns n kv vv dv nb w0 w) : w.cell? ⟨nb, 0, none⟩ = some (.bool n.leaf) ∧ w.cell? ⟨nb, 1, none⟩ = some kv ∧ w.cell? ⟨nb, 2, none⟩ = some vv ∧ w.cell? ⟨nb, 3, none⟩ = some dv := (cells4 h.box).1
theorem keep_set4 {w : World} {g b : Nat} {o : Option Obj} (h : w.heap[b]? = o) (hne : b ≠ g) (x y z v : Value) : (S4 g w x y z v).heap[b]? = o := (s4_other x y z v hne).trans h
set_option maxRecDepth 100000 in
set_option maxHeartbeats 8000000 in
theorem plaid_none (B : Nat) (w : World) (gc g : Nat) (next : Int) (av : Value) (ns : List NV) (n : Nd) (kv vv dv : Value) (ahead : Str) (h : ChI B w gc g next av ns) (hA : AllK w ns) (hB : B ≤ w.heap.size) (hg : ∀ b, av.ownBlock = some b → b ≠ g) (hgc : gc ≠ g) (hns : ns.length ≤ 900) (hnx : 0 ≤ next ∧ next ≤ 65536) (hr : RdK w kv vv dv n) (hk0 : n.keys.length = 0) : Calls Tryz.prog 65 #[.pointer (some ⟨gc, 0, none⟩), nv n kv vv dv, st ahead] w fun e w' => LdR B gc g next av ns n ahead w w' e := by
 obtain ⟨ka, kc, va, vc, da, dc, rfl, rfl, rfl⟩ := hr.rd.slices
 obtain ⟨W, hW, DW, bW, sW⟩ := boxedN w #[.bool n.leaf, .slice ka n.keys.length kc, .slice va n.vals.length vc, .slice da n.kids.length dc] 76
 obtain ⟨⟨E0, E1, E2, E3⟩, EF⟩ := cells4 DW
 have HL := hide (L5.mk (n := n) (w0 := w) (h.to bW) (hA.to bW) (hr.to bW) DW (KCh.of (gc := gc) (av := av) bW hB) (Nat.le_trans hB bW.size))
 have hq0 : ((n.keys.length : Int) == 0) = true := by simp [hk0]
 have hla : Hid (laidOf next (ns.map (·.1)) n ahead = ([], ns.map (·.1))) := by show _ = _; unfold laidOf; rw [if_pos hk0]
 replace hg := hide hg
 replace hk0 := hide hk0
 rw [hW] at E0 E1 E2 E3 EF HL
 dsimp only [nv]
 clear DW bW h hr hB hA
 go_enter Tryz.func65, Tryz.ntmps65
 go_wp2
 go_ret
 refine ⟨_, av, [], rfl, .inl ⟨rfl, by rw [hla.out]⟩, by rw [List.append_nil]; exact HL.out.ch, by rw [List.append_nil]; exact HL.out.al, by rw [List.append_nil, hla.out], HL.out.kc, hg.out⟩
set_option maxRecDepth 100000 in
set_option maxHeartbeats 8000000 in
theorem plaid_one (B : Nat) (w : World) (gc g : Nat) (next : Int) (av : Value) (ns : List NV) (n : Nd) (kv vv dv : Value) (ahead : Str) (h : ChI B w gc g next av ns) (hA : AllK w ns) (hB : B ≤ w.heap.size) (hg : ∀ b, av.ownBlock = some b → b ≠ g) (hgc : gc ≠ g) (hns : ns.length ≤ 900) (hnx : 0 ≤ next ∧ next ≤ 65536) (hr : RdK w kv vv dv n) (hk0 : n.keys.length ≠ 0) (hsz : nsize n ≤ 244) (hsz0 : 0 ≤ nsize n) : Calls Tryz.prog 65 #[.pointer (some ⟨gc, 0, none⟩), nv n kv vv dv, st ahead] w fun e w' => LdR B gc g next av ns n ahead w w' e := by
 obtain ⟨ka, kc, va, vc, da, dc, rfl, rfl, rfl⟩ := hr.rd.slices
 obtain ⟨W, hW, DW, bW, sW⟩ := boxedN w #[.bool n.leaf, .slice ka n.keys.length kc, .slice va n.vals.length vc, .slice da n.kids.length dc] 76
 obtain ⟨⟨E0, E1, E2, E3⟩, EF⟩ := cells4 DW
 have HL := hide (L5.mk (n := n) (w0 := w) (h.to bW) (hA.to bW) (hr.to bW) DW (KCh.of (gc := gc) (av := av) bW hB) (Nat.le_trans hB bW.size))
 have KS := hide (psize9_any W _ _ _ n HL.out.nd.rd)
 have hq0 : ((n.keys.length : Int) == 0) = false := by simpa using hk0
 have hla : Hid (laidOf next (ns.map (·.1)) n ahead = ([(ahead, next + (ns.length : Int))], ns.map (·.1) ++ [n])) := by show _ = _; unfold laidOf; rw [if_neg hk0, if_pos hsz, List.length_map]
 replace hsz := hide hsz
 replace hsz0 := hide hsz0
 have hg' := hide hg
 have h' := hide h
 replace hgc := hide hgc
 replace hk0 := hide hk0
 rw [hW] at E0 E1 E2 E3 EF KS
 dsimp only [nv] at KS ⊢
 clear DW bW h hr hB hA hg
 go_enter Tryz.func65, Tryz.ntmps65
 go_wp2_with fail
 refine KS.out.mono ?_
 rintro e w1 ⟨rfl, b1⟩
 rw [← hW] at b1
 clear E0 E1 E2 E3 EF KS
 replace hW := hide hW
 have hws : wrap64 (nsize n) = nsize n := by have := hsz.out; have := hsz0.out; unfold wrap64; omega
 rw [hws]
 have hle : nsize n ≤ 244 := hsz.out
 have L1 := hide (HL.out.to b1)
 obtain ⟨E0, E1, E2, E3⟩ := L1.out.cells
 have KA := hide (padd_any B w1 gc g next av ns n (.slice ka n.keys.length kc) (.slice va n.vals.length vc) (.slice da n.kids.length dc) L1.out.ch L1.out.hB hg'.out hgc.out (by omega) hnx ⟨rfl, rfl, rfl⟩)
 dsimp only [nv] at KA
 clear b1 HL hws
 generalize nsize n = sz at *
 go_wp2_with fail
 refine KA.out.mono ?_
 rintro e w2 ⟨av2, rfl, c2, k2⟩
 have kt := fun e (h1 : e ≠ 108) (h2 : e ≠ 76) => k2.keepT L1.out.ch h1 h2
 have A2 : AllK w2 (ns ++ [(n, .slice ka n.keys.length kc, .slice va n.vals.length vc, .slice da n.kids.length dc)]) := (L1.out.al.keepT (kt _ (by decide) (by decide)) (kt _ (by decide) (by decide))).snoc (L1.out.nd.keepT (kt _ (by decide) (by decide)) (kt _ (by decide) (by decide)))
 obtain ⟨kid, hkid⟩ : ∃ k : Int, k = next + (ns.length : Int) := ⟨_, rfl⟩
 rw [← hkid]
 obtain ⟨Y, hY, DY, bY, sY⟩ := boxedN w2 #[st ahead, .int .i64 kid] 133
 have hB2 : B ≤ w2.heap.size := Nat.le_trans L1.out.hB k2.size
 have FIN : Hid (NowV w.heap.size Y (.slice (some ⟨w2.heap.size, 0, none⟩) 1 1) [(ahead, kid)] ∧ ChI B Y gc g next av2 (ns ++ [(n, .slice ka n.keys.length kc, .slice va n.vals.length vc, .slice da n.kids.length dc)]) ∧ AllK Y (ns ++ [(n, .slice ka n.keys.length kc, .slice va n.vals.length vc, .slice da n.kids.length dc)]) ∧ KCh B gc av av2 w Y) :=
  ⟨.inr ⟨w2.heap.size, rfl, by simp, DY, Nat.le_trans L1.out.kc.size k2.size⟩, c2.to bY, A2.to bY, (L1.out.kc.trans k2).trans (KCh.of bY hB2)⟩
 rw [hY] at FIN
 replace hkid := hide hkid
 clear c2 k2 KA E0 E1 E2 E3 DY bY hY kt A2
 go_wp2
 go_ret
 refine ⟨_, av2, [(n, .slice ka n.keys.length kc, .slice va n.vals.length vc, .slice da n.kids.length dc)], rfl, ?_, FIN.out.2.1, FIN.out.2.2.1, by rw [hla.out, List.map_append]; rfl, FIN.out.2.2.2, KCh.apart h'.out hg'.out FIN.out.2.2.2⟩
 rw [hla.out, ← hkid.out]
 exact FIN.out.1
structure T5 (B gc g : Nat) (next : Int) (av : Value) (ns : List NV) (w0 w : World) (g7 g9 : Nat) (a b : Nd) (k1 v1 d1 k2 v2 d2 : Value) : Prop where
 ch : ChI B w gc g next av ns
 al : AllK w ns
 kc : KCh B gc av av w0 w
 hB : B ≤ w.heap.size
 b7 : w.heap[g7]? = some (.cells #[.bool a.leaf, k1, v1, d1] 76 (0, 0))
 b9 : w.heap[g9]? = some (.cells #[.bool b.leaf, k2, v2, d2] 76 (0, 0))
 ra : RdK w k1 v1 d1 a
 rb : RdK w k2 v2 d2 b
 l7 : w0.heap.size ≤ g7
 l9 : w0.heap.size ≤ g9
theorem T5.to {B gc g : Nat} {next : Int} {av : Value} {ns : List NV} {w0 w w' : World} {g7 g9 : Nat} {a b : Nd} {k1 v1 d1 k2 v2 d2 : Value} (h : T5 B gc g next av ns w0 w g7 g9 a b k1 v1 d1 k2 v2 d2) (q : Below w.heap.size w w') : T5 B gc g next av ns w0 w' g7 g9 a b k1 v1 d1 k2 v2 d2 :=
 ⟨h.ch.to q, h.al.to q, h.kc.trans (KCh.of q h.hB), Nat.le_trans h.hB q.size, (q.block _ (lt_of_block h.b7)).trans h.b7, (q.block _ (lt_of_block h.b9)).trans h.b9, h.ra.to q, h.rb.to q, h.l7, h.l9⟩
theorem KCh.box {B gc C : Nat} {av av' : Value} {w w' : World} {b : Nat} {o : Obj} (k : KCh B gc av av' w w') (hb : w.heap[b]? = some o) (h1 : gc < C) (h2 : ∀ q, av.ownBlock = some q → q ≠ b) (h3 : C ≤ b) : w'.heap[b]? = some o :=
 (k.keep b (lt_of_block hb) (by omega) (fun e => h2 b e rfl)).trans hb
theorem lay_two {B gc g : Nat} {next : Int} {av : Value} {ns : List NV} {n : Nd} {kv vv dv : Value} {nb : Nat} {w0 w : World} {g7 g9 : Nat} {a b : Nd} {k1 v1 d1 k2 v2 d2 : Value} (h : L5 B gc g next av ns n kv vv dv nb w0 w) (z7 : w.heap[g7]? = some (.cells #[.bool false, .slice none 0 0, .slice none 0 0, .slice none 0 0] 76 (0, 0))) (z9 : w.heap[g9]? = some (.cells #[.bool false, .slice none 0 0, .slice none 0 0, .slice none 0 0] 76 (0, 0)))
  (l7 : w0.heap.size ≤ g7) (l9 : w0.heap.size ≤ g9) (hB0 : B ≤ w0.heap.size) (hne : g7 ≠ g9) (n7 : g7 ≠ nb) (c0 : ChI B w0 gc g next av ns) (ra : RdK w k1 v1 d1 a) (rb : RdK w k2 v2 d2 b) :
  ((S4 g7 w (.bool a.leaf) k1 v1 d1).cell? ⟨nb, 0, none⟩ = some (.bool n.leaf) ∧ (S4 g7 w (.bool a.leaf) k1 v1 d1).cell? ⟨nb, 1, none⟩ = some kv ∧ (S4 g7 w (.bool a.leaf) k1 v1 d1).cell? ⟨nb, 2, none⟩ = some vv ∧ (S4 g7 w (.bool a.leaf) k1 v1 d1).cell? ⟨nb, 3, none⟩ = some dv) ∧
  (S4 g7 w (.bool a.leaf) k1 v1 d1).heap[g9]? = some (.cells #[.bool false, .slice none 0 0, .slice none 0 0, .slice none 0 0] 76 (0, 0)) ∧
  T5 B gc g next av ns w0 (S4 g9 (S4 g7 w (.bool a.leaf) k1 v1 d1) (.bool b.leaf) k2 v2 d2) g7 g9 a b k1 v1 d1 k2 v2 d2 := by
 have z9' := keep_set4 z9 hne.symm (.bool a.leaf) k1 v1 d1
 have h7 : (S4 g7 w (.bool a.leaf) k1 v1 d1).heap[g7]? = some (.cells #[.bool a.leaf, k1, v1, d1] 76 (0, 0)) := heap_set4 z7 _ _ _ _
 have kt : ∀ e, e ≠ 76 → KeepT e w (S4 g9 (S4 g7 w (.bool a.leaf) k1 v1 d1) (.bool b.leaf) k2 v2 d2) := fun e he => (s4_keep z7 _ _ _ _ he).trans (s4_keep z9' _ _ _ _ he)
 have hot : ∀ b', b' ≠ g7 → b' ≠ g9 → (S4 g9 (S4 g7 w (.bool a.leaf) k1 v1 d1) (.bool b.leaf) k2 v2 d2).heap[b']? = w.heap[b']? := fun b' h1 h2 => (s4_other _ _ _ _ h2).trans (s4_other _ _ _ _ h1)
 have hgl : g < w0.heap.size := cell_lt c0.nxt
 have hcl : gc < w0.heap.size := lt_of_block c0.box
 have hra : ∀ b', av.ownBlock = some b' → b' < w0.heap.size := fun b' hb' => (World.ownsRow.lt c0.row b' hb').2
 refine ⟨(cells4 (keep_set4 h.box (Ne.symm n7) (.bool a.leaf) k1 v1 d1)).1, z9', ⟨⟨(hot gc (by omega) (by omega)).trans h.ch.box, ?_, ?_, h.ch.hC⟩, h.al.keepT (kt _ (by decide)) (kt _ (by decide)), ⟨fun b' h1 h2 h3 => (hot b' (by omega) (by omega)).trans (h.kc.keep b' h1 h2 h3), h.kc.row, ?_, ?_⟩, ?_, ?_, ?_, ra.keepT (kt _ (by decide)) (kt _ (by decide)), rb.keepT (kt _ (by decide)) (kt _ (by decide)), l7, l9⟩⟩
 ·refine ⟨h.ch.row.1, ?_⟩
  rcases h.ch.row.2 with hn | ⟨b', cap, cur, hv, hgb, hb, r⟩
  ·exact .inl hn
  ·have : b' < w0.heap.size := hra b' (by rw [hv]; rfl)
   exact .inr ⟨b', cap, cur, hv, hgb, (hot b' (by omega) (by omega)).trans hb, r⟩
 ·have e1 := hot g (by omega) (by omega)
  have := h.ch.nxt
  simp only [World.cell?] at this ⊢
  rw [e1]; exact this
 ·have := h.kc.size
  simpa [S4] using this
 ·exact below_set4n (below_set4n h.kc.bel (by omega) _ _ _ _) (by omega) _ _ _ _
 ·have := h.hB
  simpa [S4] using this
 ·exact keep_set4 h7 hne (.bool b.leaf) k2 v2 d2
 ·exact heap_set4 z9' _ _ _ _
set_option maxRecDepth 100000 in
set_option maxHeartbeats 8000000 in
theorem plaid_two (B : Nat) (w : World) (gc g : Nat) (next : Int) (av : Value) (ns : List NV) (n : Nd) (kv vv dv : Value) (ahead : Str) (h : ChI B w gc g next av ns) (hA : AllK w ns) (hB : B ≤ w.heap.size) (hg : ∀ b, av.ownBlock = some b → b ≠ g) (hgc : gc ≠ g) (hns : ns.length ≤ 900) (hnx : 0 ≤ next ∧ next ≤ 65536) (hr : RdK w kv vv dv n) (hk0 : n.keys.length ≠ 0) (hl : n.keys.length ≤ 1000) (hc : (n.leaf = true ∧ n.vals.length = n.keys.length) ∨ (n.leaf = false ∧ n.kids.length = n.keys.length + 1)) (hbd : NBd n) (hsz : 244 < nsize n) (hmid : midOf n < n.keys.length) : Calls Tryz.prog 65 #[.pointer (some ⟨gc, 0, none⟩), nv n kv vv dv, st ahead] w fun e w' => LdR B gc g next av ns n ahead w w' e := by
 obtain ⟨ka, kc, va, vc, da, dc, rfl, rfl, rfl⟩ := hr.rd.slices
 obtain ⟨W, hW, DW, bW, sW⟩ := boxedN w #[.bool n.leaf, .slice ka n.keys.length kc, .slice va n.vals.length vc, .slice da n.kids.length dc] 76
 obtain ⟨⟨E0, E1, E2, E3⟩, EF⟩ := cells4 DW
 have HL := hide (L5.mk (n := n) (w0 := w) (h.to bW) (hA.to bW) (hr.to bW) DW (KCh.of (gc := gc) (av := av) bW hB) (Nat.le_trans hB bW.size))
 have KS := hide (psize9_any W _ _ _ n HL.out.nd.rd)
 have KM := hide (fun u (hu : RdK u (.slice ka n.keys.length kc) (.slice va n.vals.length vc) (.slice da n.kids.length dc) n) => pmid_any u n _ _ _ hu hl hc hbd)
 have KT := hide (fun u (hu : RdK u (.slice ka n.keys.length kc) (.slice va n.vals.length vc) (.slice da n.kids.length dc) n) => pcut_any u n _ _ _ (midOf n) hu hmid hl hc)
 have hq0 : ((n.keys.length : Int) == 0) = false := by simpa using hk0
 have hla : Hid (laidOf next (ns.map (·.1)) n ahead = ([(ahead, next + (ns.length : Int)), (n.keys.getD (midOf n) [], next + (ns.length : Int) + 1)], ns.map (·.1) ++ [cutL n (midOf n), cutR n (midOf n)])) := by show _ = _; unfold laidOf; rw [if_neg hk0, if_neg (by omega), List.length_map]
 have hg' := hide hg
 have h' := hide h
 have hB' := hide hB
 replace hgc := hide hgc
 replace hk0 := hide hk0
 replace hc := hide hc
 replace hmid := hide hmid
 rw [hW] at E0 E1 E2 E3 EF KS
 dsimp only [nv] at KS KM KT ⊢
 have hws : wrap64 (nsize n) = nsize n := by have := hbd.self; unfold wrap64; omega
 replace hbd := hide hbd
 have hle : ¬ nsize n ≤ 244 := by omega
 rw [hws] at KS
 clear DW bW h hr hB hA hg hws
 go_enter Tryz.func65, Tryz.ntmps65
 go_wp2_with fail
 refine KS.out.mono ?_
 rintro e w1 ⟨rfl, b1⟩
 rw [← hW] at b1
 clear E0 E1 E2 E3 EF KS
 replace hW := hide hW
 have L1 := hide (HL.out.to b1)
 clear b1 HL
 generalize nsize n = sz at *
 go_upto_region 5 with fail
 go_cut [7, 8, 9] from 23 to 30 (fun p7 s8 p9 wx => ∃ (g7 g9 : Nat) (k1 v1 d1 k2 v2 d2 : Value), p7 = .pointer (some ⟨g7, 0, none⟩) ∧ p9 = .pointer (some ⟨g9, 0, none⟩) ∧ s8 = st (n.keys.getD (midOf n) []) ∧ Hid (T5 B gc g next av ns w wx g7 g9 (cutL n (midOf n)) (cutR n (midOf n)) k1 v1 d1 k2 v2 d2))
 case first =>
  have b0 : Below w1.heap.size w1 w1.drew := below_drewN' w1 1 _
  have LL0 := hide (L1.out.to b0)
  refine wp_region_fan (fun w' => w'.cell? ⟨w.heap.size, 0, none⟩ = some (.bool n.leaf) ∧ w'.cell? ⟨w.heap.size, 1, none⟩ = some (.slice ka n.keys.length kc) ∧ w'.cell? ⟨w.heap.size, 2, none⟩ = some (.slice va n.vals.length vc) ∧ w'.cell? ⟨w.heap.size, 3, none⟩ = some (.slice da n.kids.length dc)) 12 mixed (by simp) ?_
  generalize w1.drew = c0 at *
  generalize hmo : midOf n = MO at *
  replace hmo := hide hmo
  clear b0
  refine fan_take (i := 0) (v := ?_) rfl (by kernel_rfl) (fun _ _ _ _ h => h) (by kernel_rfl) LL0.out.cells ?_ ?_
  rotate_left
  ·rintro w' ⟨s1, s2, s3, s4⟩
   go_simp
   try with_reducible rfl
  try simp only [Act.put, List.setIfInBounds_toArray, List.set_cons_zero, List.set_cons_succ]
  refine fan_take (i := 1) (v := ?_) rfl (by kernel_rfl) (fun _ _ _ _ h => h) (by kernel_rfl) LL0.out.cells ?_ ?_
  rotate_left
  ·rintro w' ⟨s1, s2, s3, s4⟩
   go_simp
   try with_reducible rfl
  try simp only [Act.put, List.setIfInBounds_toArray, List.set_cons_zero, List.set_cons_succ]
  refine fan_three 2 8 9 (by kernel_rfl) ?_ ?_ ?_
  ·refine fan_step rfl (by kernel_rfl) fun K' hK' => ?_
   refine wp_call_of 87 _ _ (by rfl) _ (by simp [Act.eval]) (Tryz.call87 _ _) (KM.out c0 LL0.out.nd) ?_
   rintro e d1 ⟨rfl, b1⟩
   have LL1 := hide (LL0.out.to b1)
   refine ⟨_, rfl, hK' _ _ LL1.out.cells ?_⟩
   clear hK' K'
   try simp only [Act.put, List.setIfInBounds_toArray, List.set_cons_zero, List.set_cons_succ]
   refine fan_three 3 8 9 (by kernel_rfl) ?_ ?_ ?_
   ·refine fan_step rfl (by kernel_rfl) fun K' hK' => ?_
    refine wp_call_of 86 _ _ (by rfl) _ (by simp [Act.eval]) (Tryz.call86 _ _) (KT.out d1 LL1.out.nd) ?_
    rintro e d2 ⟨k1, v1, d1, k2, v2, d2, rfl, r1, r2, b2⟩
    have LL2 := hide (LL1.out.to b2)
    have PP2 := hide (And.intro r1 r2)
    refine ⟨_, rfl, hK' _ _ LL2.out.cells ?_⟩
    clear hK' K'
    try simp only [Act.put, List.setIfInBounds_toArray, List.set_cons_zero, List.set_cons_succ]
    obtain ⟨k1a, k1c, v1a, v1c, d1a, d1c, rfl, rfl, rfl⟩ := r1.rd.slices
    obtain ⟨k2a, k2c, v2a, v2c, d2a, d2c, rfl, rfl, rfl⟩ := r2.rd.slices
    dsimp only [nv]
    clear r1 r2
    refine fan_take (i := 4) (v := ?_) rfl (by kernel_rfl) (fun _ _ _ _ h => h) (by kernel_rfl) LL2.out.cells ?_ ?_
    rotate_left
    ·rintro w' ⟨s1, s2, s3, s4⟩
     go_simp
     try with_reducible rfl
    try simp only [Act.put, List.setIfInBounds_toArray, List.set_cons_zero, List.set_cons_succ]
    refine fan_take (i := 5) (v := ?_) rfl (by kernel_rfl) (fun _ _ _ _ h => h) (by kernel_rfl) LL2.out.cells ?_ ?_
    rotate_left
    ·rintro w' ⟨s1, s2, s3, s4⟩
     go_simp
     try with_reducible rfl
    try simp only [Act.put, List.setIfInBounds_toArray, List.set_cons_zero, List.set_cons_succ]
    refine fan_take (i := 6) (v := ?_) rfl (by kernel_rfl) (fun _ _ _ _ h => h) (by kernel_rfl) LL2.out.cells ?_ ?_
    rotate_left
    ·rintro w' ⟨s1, s2, s3, s4⟩
     go_simp
     try with_reducible rfl
    try simp only [Act.put, List.setIfInBounds_toArray, List.set_cons_zero, List.set_cons_succ]
    refine fan_take (i := 7) (v := ?_) rfl (by kernel_rfl) (fun _ _ _ _ h => h) (by kernel_rfl) LL2.out.cells ?_ ?_
    rotate_left
    ·rintro w' ⟨s1, s2, s3, s4⟩
     go_simp
     try with_reducible rfl
    try simp only [Act.put, List.setIfInBounds_toArray, List.set_cons_zero, List.set_cons_succ]
    refine fan_two 8 9 (by kernel_rfl) ?_ ?_
    ·refine fan_step rfl (by kernel_rfl) fun K' hK' => ?_
     go_simp
     obtain ⟨d3, hc3, D3, b3, s3⟩ := boxedN d2 #[.bool false, .slice none 0 0, .slice none 0 0, .slice none 0 0] 76
     rw [← hc3]
     obtain ⟨gg7, hgg7⟩ : ∃ q, q = d2.heap.size := ⟨_, rfl⟩
     rw [← hgg7] at D3
     rw [← hgg7]
     have LL3 := hide (LL2.out.to b3)
     have PP3 := hide (And.intro (PP2.out.1.to b3) (PP2.out.2.to b3))
     have lw7 : w.heap.size < gg7 := by have := lt_of_block LL2.out.box; have := hgg7; omega
     refine hK' _ _ LL3.out.cells ?_
     clear hK' K'
     try simp only [Act.put, List.setIfInBounds_toArray, List.set_cons_zero, List.set_cons_succ]
     replace hgg7 := hide hgg7
     clear hc3 s3
     refine fan_one 9 (by kernel_rfl) ?_
     ·refine fan_step rfl (by kernel_rfl) fun K' hK' => ?_
      go_simp
      obtain ⟨d4, hc4, D4, b4, s4⟩ := boxedN d3 #[.bool false, .slice none 0 0, .slice none 0 0, .slice none 0 0] 76
      rw [← hc4]
      obtain ⟨gg9, hgg9⟩ : ∃ q, q = d3.heap.size := ⟨_, rfl⟩
      rw [← hgg9] at D4
      rw [← hgg9]
      have LL4 := hide (LL3.out.to b4)
      have Z7_4 := (b4.block _ (lt_of_block D3)).trans D3
      have PP4 := hide (And.intro (PP3.out.1.to b4) (PP3.out.2.to b4))
      have lw9 : w.heap.size < gg9 := by have := lt_of_block LL3.out.box; have := hgg9; omega
      have hne : gg7 ≠ gg9 := by have := lt_of_block D3; omega
      refine hK' _ _ LL4.out.cells ?_
      clear hK' K'
      try simp only [Act.put, List.setIfInBounds_toArray, List.set_cons_zero, List.set_cons_succ]
      replace hgg9 := hide hgg9
      clear hc4 s4
      have FN := hide (lay_two LL4.out Z7_4 D4 (Nat.le_of_lt lw7) (Nat.le_of_lt lw9) hB'.out hne (by omega) h'.out PP4.out.1 PP4.out.2)
      have CL := (cells4 LL4.out.box).1
      obtain ⟨⟨y0, y1, y2, y3⟩, yf⟩ := cells4 Z7_4
      refine fan_one 10 (by kernel_rfl) ?_
      refine fan_step rfl (by kernel_rfl) fun K' hK' => ?_
      go_simp
      refine hK' _ _ (FN.out.1) ?_
      clear hK' K'
      refine fan_one 11 (by kernel_rfl) ?_
      refine fan_step rfl (by kernel_rfl) fun K' hK' => ?_
      go_simp
      refine hK' _ _ (FN.out.1) ?_
      clear hK' K'
      refine fan_done (by kernel_rfl) ?_
      show wpList _ _ _ _ _ _
      obtain ⟨⟨x0, x1, x2, x3⟩, xf⟩ := cells4 FN.out.2.1
      dsimp only [List.drop]
      clear y0 y1 y2 y3 yf CL
      go_wp2_with fail
      go_meet
      exact ⟨gg7, gg9, _, _, _, _, _, _, rfl, rfl, rfl, hide FN.out.2.2⟩
    ·refine fan_step rfl (by kernel_rfl) fun K' hK' => ?_
     go_simp
     obtain ⟨d5, hc5, D5, b5, s5⟩ := boxedN d2 #[.bool false, .slice none 0 0, .slice none 0 0, .slice none 0 0] 76
     rw [← hc5]
     obtain ⟨gg9, hgg9⟩ : ∃ q, q = d2.heap.size := ⟨_, rfl⟩
     rw [← hgg9] at D5
     rw [← hgg9]
     have LL5 := hide (LL2.out.to b5)
     have PP5 := hide (And.intro (PP2.out.1.to b5) (PP2.out.2.to b5))
     have lw9 : w.heap.size < gg9 := by have := lt_of_block LL2.out.box; have := hgg9; omega
     refine hK' _ _ LL5.out.cells ?_
     clear hK' K'
     try simp only [Act.put, List.setIfInBounds_toArray, List.set_cons_zero, List.set_cons_succ]
     replace hgg9 := hide hgg9
     clear hc5 s5
     refine fan_one 8 (by kernel_rfl) ?_
     ·refine fan_step rfl (by kernel_rfl) fun K' hK' => ?_
      go_simp
      obtain ⟨d6, hc6, D6, b6, s6⟩ := boxedN d5 #[.bool false, .slice none 0 0, .slice none 0 0, .slice none 0 0] 76
      rw [← hc6]
      obtain ⟨gg7, hgg7⟩ : ∃ q, q = d5.heap.size := ⟨_, rfl⟩
      rw [← hgg7] at D6
      rw [← hgg7]
      have LL6 := hide (LL5.out.to b6)
      have Z9_6 := (b6.block _ (lt_of_block D5)).trans D5
      have PP6 := hide (And.intro (PP5.out.1.to b6) (PP5.out.2.to b6))
      have lw7 : w.heap.size < gg7 := by have := lt_of_block LL5.out.box; have := hgg7; omega
      have hne : gg7 ≠ gg9 := by have := lt_of_block D5; omega
      refine hK' _ _ LL6.out.cells ?_
      clear hK' K'
      try simp only [Act.put, List.setIfInBounds_toArray, List.set_cons_zero, List.set_cons_succ]
      replace hgg7 := hide hgg7
      clear hc6 s6
      have FN := hide (lay_two LL6.out D6 Z9_6 (Nat.le_of_lt lw7) (Nat.le_of_lt lw9) hB'.out hne (by omega) h'.out PP6.out.1 PP6.out.2)
      have CL := (cells4 LL6.out.box).1
      obtain ⟨⟨y0, y1, y2, y3⟩, yf⟩ := cells4 D6
      refine fan_one 10 (by kernel_rfl) ?_
      refine fan_step rfl (by kernel_rfl) fun K' hK' => ?_
      go_simp
      refine hK' _ _ (FN.out.1) ?_
      clear hK' K'
      refine fan_one 11 (by kernel_rfl) ?_
      refine fan_step rfl (by kernel_rfl) fun K' hK' => ?_
      go_simp
      refine hK' _ _ (FN.out.1) ?_
      clear hK' K'
      refine fan_done (by kernel_rfl) ?_
      show wpList _ _ _ _ _ _
      obtain ⟨⟨x0, x1, x2, x3⟩, xf⟩ := cells4 FN.out.2.1
      dsimp only [List.drop]
      clear y0 y1 y2 y3 yf CL
      go_wp2_with fail
      go_meet
      exact ⟨gg7, gg9, _, _, _, _, _, _, rfl, rfl, rfl, hide FN.out.2.2⟩
   ·refine fan_step rfl (by kernel_rfl) fun K' hK' => ?_
    go_simp
    obtain ⟨d7, hc7, D7, b7, s7⟩ := boxedN d1 #[.bool false, .slice none 0 0, .slice none 0 0, .slice none 0 0] 76
    rw [← hc7]
    obtain ⟨gg7, hgg7⟩ : ∃ q, q = d1.heap.size := ⟨_, rfl⟩
    rw [← hgg7] at D7
    rw [← hgg7]
    have LL7 := hide (LL1.out.to b7)
    have lw7 : w.heap.size < gg7 := by have := lt_of_block LL1.out.box; have := hgg7; omega
    refine hK' _ _ LL7.out.cells ?_
    clear hK' K'
    try simp only [Act.put, List.setIfInBounds_toArray, List.set_cons_zero, List.set_cons_succ]
    replace hgg7 := hide hgg7
    clear hc7 s7
    refine fan_two 3 9 (by kernel_rfl) ?_ ?_
    ·refine fan_step rfl (by kernel_rfl) fun K' hK' => ?_
     refine wp_call_of 86 _ _ (by rfl) _ (by simp [Act.eval]) (Tryz.call86 _ _) (KT.out d7 LL7.out.nd) ?_
     rintro e d8 ⟨k1, v1, d1, k2, v2, d2, rfl, r1, r2, b8⟩
     have LL8 := hide (LL7.out.to b8)
     have Z7_8 := (b8.block _ (lt_of_block D7)).trans D7
     have PP8 := hide (And.intro r1 r2)
     refine ⟨_, rfl, hK' _ _ LL8.out.cells ?_⟩
     clear hK' K'
     try simp only [Act.put, List.setIfInBounds_toArray, List.set_cons_zero, List.set_cons_succ]
     obtain ⟨k1a, k1c, v1a, v1c, d1a, d1c, rfl, rfl, rfl⟩ := r1.rd.slices
     obtain ⟨k2a, k2c, v2a, v2c, d2a, d2c, rfl, rfl, rfl⟩ := r2.rd.slices
     dsimp only [nv]
     clear r1 r2
     refine fan_take (i := 4) (v := ?_) rfl (by kernel_rfl) (fun _ _ _ _ h => h) (by kernel_rfl) LL8.out.cells ?_ ?_
     rotate_left
     ·rintro w' ⟨s1, s2, s3, s4⟩
      go_simp
      try with_reducible rfl
     try simp only [Act.put, List.setIfInBounds_toArray, List.set_cons_zero, List.set_cons_succ]
     refine fan_take (i := 5) (v := ?_) rfl (by kernel_rfl) (fun _ _ _ _ h => h) (by kernel_rfl) LL8.out.cells ?_ ?_
     rotate_left
     ·rintro w' ⟨s1, s2, s3, s4⟩
      go_simp
      try with_reducible rfl
     try simp only [Act.put, List.setIfInBounds_toArray, List.set_cons_zero, List.set_cons_succ]
     refine fan_take (i := 6) (v := ?_) rfl (by kernel_rfl) (fun _ _ _ _ h => h) (by kernel_rfl) LL8.out.cells ?_ ?_
     rotate_left
     ·rintro w' ⟨s1, s2, s3, s4⟩
      go_simp
      try with_reducible rfl
     try simp only [Act.put, List.setIfInBounds_toArray, List.set_cons_zero, List.set_cons_succ]
     refine fan_take (i := 7) (v := ?_) rfl (by kernel_rfl) (fun _ _ _ _ h => h) (by kernel_rfl) LL8.out.cells ?_ ?_
     rotate_left
     ·rintro w' ⟨s1, s2, s3, s4⟩
      go_simp
      try with_reducible rfl
     try simp only [Act.put, List.setIfInBounds_toArray, List.set_cons_zero, List.set_cons_succ]
     refine fan_one 9 (by kernel_rfl) ?_
     ·refine fan_step rfl (by kernel_rfl) fun K' hK' => ?_
      go_simp
      obtain ⟨d9, hc9, D9, b9, s9⟩ := boxedN d8 #[.bool false, .slice none 0 0, .slice none 0 0, .slice none 0 0] 76
      rw [← hc9]
      obtain ⟨gg9, hgg9⟩ : ∃ q, q = d8.heap.size := ⟨_, rfl⟩
      rw [← hgg9] at D9
      rw [← hgg9]
      have LL9 := hide (LL8.out.to b9)
      have Z7_9 := (b9.block _ (lt_of_block Z7_8)).trans Z7_8
      have PP9 := hide (And.intro (PP8.out.1.to b9) (PP8.out.2.to b9))
      have lw9 : w.heap.size < gg9 := by have := lt_of_block LL8.out.box; have := hgg9; omega
      have hne : gg7 ≠ gg9 := by have := lt_of_block Z7_8; omega
      refine hK' _ _ LL9.out.cells ?_
      clear hK' K'
      try simp only [Act.put, List.setIfInBounds_toArray, List.set_cons_zero, List.set_cons_succ]
      replace hgg9 := hide hgg9
      clear hc9 s9
      have FN := hide (lay_two LL9.out Z7_9 D9 (Nat.le_of_lt lw7) (Nat.le_of_lt lw9) hB'.out hne (by omega) h'.out PP9.out.1 PP9.out.2)
      have CL := (cells4 LL9.out.box).1
      obtain ⟨⟨y0, y1, y2, y3⟩, yf⟩ := cells4 Z7_9
      refine fan_one 10 (by kernel_rfl) ?_
      refine fan_step rfl (by kernel_rfl) fun K' hK' => ?_
      go_simp
      refine hK' _ _ (FN.out.1) ?_
      clear hK' K'
      refine fan_one 11 (by kernel_rfl) ?_
      refine fan_step rfl (by kernel_rfl) fun K' hK' => ?_
      go_simp
      refine hK' _ _ (FN.out.1) ?_
      clear hK' K'
      refine fan_done (by kernel_rfl) ?_
      show wpList _ _ _ _ _ _
      obtain ⟨⟨x0, x1, x2, x3⟩, xf⟩ := cells4 FN.out.2.1
      dsimp only [List.drop]
      clear y0 y1 y2 y3 yf CL
      go_wp2_with fail
      go_meet
      exact ⟨gg7, gg9, _, _, _, _, _, _, rfl, rfl, rfl, hide FN.out.2.2⟩
    ·refine fan_step rfl (by kernel_rfl) fun K' hK' => ?_
     go_simp
     obtain ⟨d10, hc10, D10, b10, s10⟩ := boxedN d7 #[.bool false, .slice none 0 0, .slice none 0 0, .slice none 0 0] 76
     rw [← hc10]
     obtain ⟨gg9, hgg9⟩ : ∃ q, q = d7.heap.size := ⟨_, rfl⟩
     rw [← hgg9] at D10
     rw [← hgg9]
     have LL10 := hide (LL7.out.to b10)
     have Z7_10 := (b10.block _ (lt_of_block D7)).trans D7
     have lw9 : w.heap.size < gg9 := by have := lt_of_block LL7.out.box; have := hgg9; omega
     have hne : gg7 ≠ gg9 := by have := lt_of_block D7; omega
     refine hK' _ _ LL10.out.cells ?_
     clear hK' K'
     try simp only [Act.put, List.setIfInBounds_toArray, List.set_cons_zero, List.set_cons_succ]
     replace hgg9 := hide hgg9
     clear hc10 s10
     refine fan_one 3 (by kernel_rfl) ?_
     ·refine fan_step rfl (by kernel_rfl) fun K' hK' => ?_
      refine wp_call_of 86 _ _ (by rfl) _ (by simp [Act.eval]) (Tryz.call86 _ _) (KT.out d10 LL10.out.nd) ?_
      rintro e d11 ⟨k1, v1, d1, k2, v2, d2, rfl, r1, r2, b11⟩
      have LL11 := hide (LL10.out.to b11)
      have Z7_11 := (b11.block _ (lt_of_block Z7_10)).trans Z7_10
      have Z9_11 := (b11.block _ (lt_of_block D10)).trans D10
      have PP11 := hide (And.intro r1 r2)
      refine ⟨_, rfl, hK' _ _ LL11.out.cells ?_⟩
      clear hK' K'
      try simp only [Act.put, List.setIfInBounds_toArray, List.set_cons_zero, List.set_cons_succ]
      obtain ⟨k1a, k1c, v1a, v1c, d1a, d1c, rfl, rfl, rfl⟩ := r1.rd.slices
      obtain ⟨k2a, k2c, v2a, v2c, d2a, d2c, rfl, rfl, rfl⟩ := r2.rd.slices
      dsimp only [nv]
      clear r1 r2
      refine fan_take (i := 4) (v := ?_) rfl (by kernel_rfl) (fun _ _ _ _ h => h) (by kernel_rfl) LL11.out.cells ?_ ?_
      rotate_left
      ·rintro w' ⟨s1, s2, s3, s4⟩
       go_simp
       try with_reducible rfl
      try simp only [Act.put, List.setIfInBounds_toArray, List.set_cons_zero, List.set_cons_succ]
      refine fan_take (i := 5) (v := ?_) rfl (by kernel_rfl) (fun _ _ _ _ h => h) (by kernel_rfl) LL11.out.cells ?_ ?_
      rotate_left
      ·rintro w' ⟨s1, s2, s3, s4⟩
       go_simp
       try with_reducible rfl
      try simp only [Act.put, List.setIfInBounds_toArray, List.set_cons_zero, List.set_cons_succ]
      refine fan_take (i := 6) (v := ?_) rfl (by kernel_rfl) (fun _ _ _ _ h => h) (by kernel_rfl) LL11.out.cells ?_ ?_
      rotate_left
      ·rintro w' ⟨s1, s2, s3, s4⟩
       go_simp
       try with_reducible rfl
      try simp only [Act.put, List.setIfInBounds_toArray, List.set_cons_zero, List.set_cons_succ]
      refine fan_take (i := 7) (v := ?_) rfl (by kernel_rfl) (fun _ _ _ _ h => h) (by kernel_rfl) LL11.out.cells ?_ ?_
      rotate_left
      ·rintro w' ⟨s1, s2, s3, s4⟩
       go_simp
       try with_reducible rfl
      try simp only [Act.put, List.setIfInBounds_toArray, List.set_cons_zero, List.set_cons_succ]
      have FN := hide (lay_two LL11.out Z7_11 Z9_11 (Nat.le_of_lt lw7) (Nat.le_of_lt lw9) hB'.out hne (by omega) h'.out PP11.out.1 PP11.out.2)
      have CL := (cells4 LL11.out.box).1
      obtain ⟨⟨y0, y1, y2, y3⟩, yf⟩ := cells4 Z7_11
      refine fan_one 10 (by kernel_rfl) ?_
      refine fan_step rfl (by kernel_rfl) fun K' hK' => ?_
      go_simp
      refine hK' _ _ (FN.out.1) ?_
      clear hK' K'
      refine fan_one 11 (by kernel_rfl) ?_
      refine fan_step rfl (by kernel_rfl) fun K' hK' => ?_
      go_simp
      refine hK' _ _ (FN.out.1) ?_
      clear hK' K'
      refine fan_done (by kernel_rfl) ?_
      show wpList _ _ _ _ _ _
      obtain ⟨⟨x0, x1, x2, x3⟩, xf⟩ := cells4 FN.out.2.1
      dsimp only [List.drop]
      clear y0 y1 y2 y3 yf CL
      go_wp2_with fail
      go_meet
      exact ⟨gg7, gg9, _, _, _, _, _, _, rfl, rfl, rfl, hide FN.out.2.2⟩
   ·refine fan_step rfl (by kernel_rfl) fun K' hK' => ?_
    go_simp
    obtain ⟨d12, hc12, D12, b12, s12⟩ := boxedN d1 #[.bool false, .slice none 0 0, .slice none 0 0, .slice none 0 0] 76
    rw [← hc12]
    obtain ⟨gg9, hgg9⟩ : ∃ q, q = d1.heap.size := ⟨_, rfl⟩
    rw [← hgg9] at D12
    rw [← hgg9]
    have LL12 := hide (LL1.out.to b12)
    have lw9 : w.heap.size < gg9 := by have := lt_of_block LL1.out.box; have := hgg9; omega
    refine hK' _ _ LL12.out.cells ?_
    clear hK' K'
    try simp only [Act.put, List.setIfInBounds_toArray, List.set_cons_zero, List.set_cons_succ]
    replace hgg9 := hide hgg9
    clear hc12 s12
    refine fan_two 3 8 (by kernel_rfl) ?_ ?_
    ·refine fan_step rfl (by kernel_rfl) fun K' hK' => ?_
     refine wp_call_of 86 _ _ (by rfl) _ (by simp [Act.eval]) (Tryz.call86 _ _) (KT.out d12 LL12.out.nd) ?_
     rintro e d13 ⟨k1, v1, d1, k2, v2, d2, rfl, r1, r2, b13⟩
     have LL13 := hide (LL12.out.to b13)
     have Z9_13 := (b13.block _ (lt_of_block D12)).trans D12
     have PP13 := hide (And.intro r1 r2)
     refine ⟨_, rfl, hK' _ _ LL13.out.cells ?_⟩
     clear hK' K'
     try simp only [Act.put, List.setIfInBounds_toArray, List.set_cons_zero, List.set_cons_succ]
     obtain ⟨k1a, k1c, v1a, v1c, d1a, d1c, rfl, rfl, rfl⟩ := r1.rd.slices
     obtain ⟨k2a, k2c, v2a, v2c, d2a, d2c, rfl, rfl, rfl⟩ := r2.rd.slices
     dsimp only [nv]
     clear r1 r2
     refine fan_take (i := 4) (v := ?_) rfl (by kernel_rfl) (fun _ _ _ _ h => h) (by kernel_rfl) LL13.out.cells ?_ ?_
     rotate_left
     ·rintro w' ⟨s1, s2, s3, s4⟩
      go_simp
      try with_reducible rfl
     try simp only [Act.put, List.setIfInBounds_toArray, List.set_cons_zero, List.set_cons_succ]
     refine fan_take (i := 5) (v := ?_) rfl (by kernel_rfl) (fun _ _ _ _ h => h) (by kernel_rfl) LL13.out.cells ?_ ?_
     rotate_left
     ·rintro w' ⟨s1, s2, s3, s4⟩
      go_simp
      try with_reducible rfl
     try simp only [Act.put, List.setIfInBounds_toArray, List.set_cons_zero, List.set_cons_succ]
     refine fan_take (i := 6) (v := ?_) rfl (by kernel_rfl) (fun _ _ _ _ h => h) (by kernel_rfl) LL13.out.cells ?_ ?_
     rotate_left
     ·rintro w' ⟨s1, s2, s3, s4⟩
      go_simp
      try with_reducible rfl
     try simp only [Act.put, List.setIfInBounds_toArray, List.set_cons_zero, List.set_cons_succ]
     refine fan_take (i := 7) (v := ?_) rfl (by kernel_rfl) (fun _ _ _ _ h => h) (by kernel_rfl) LL13.out.cells ?_ ?_
     rotate_left
     ·rintro w' ⟨s1, s2, s3, s4⟩
      go_simp
      try with_reducible rfl
     try simp only [Act.put, List.setIfInBounds_toArray, List.set_cons_zero, List.set_cons_succ]
     refine fan_one 8 (by kernel_rfl) ?_
     ·refine fan_step rfl (by kernel_rfl) fun K' hK' => ?_
      go_simp
      obtain ⟨d14, hc14, D14, b14, s14⟩ := boxedN d13 #[.bool false, .slice none 0 0, .slice none 0 0, .slice none 0 0] 76
      rw [← hc14]
      obtain ⟨gg7, hgg7⟩ : ∃ q, q = d13.heap.size := ⟨_, rfl⟩
      rw [← hgg7] at D14
      rw [← hgg7]
      have LL14 := hide (LL13.out.to b14)
      have Z9_14 := (b14.block _ (lt_of_block Z9_13)).trans Z9_13
      have PP14 := hide (And.intro (PP13.out.1.to b14) (PP13.out.2.to b14))
      have lw7 : w.heap.size < gg7 := by have := lt_of_block LL13.out.box; have := hgg7; omega
      have hne : gg7 ≠ gg9 := by have := lt_of_block Z9_13; omega
      refine hK' _ _ LL14.out.cells ?_
      clear hK' K'
      try simp only [Act.put, List.setIfInBounds_toArray, List.set_cons_zero, List.set_cons_succ]
      replace hgg7 := hide hgg7
      clear hc14 s14
      have FN := hide (lay_two LL14.out D14 Z9_14 (Nat.le_of_lt lw7) (Nat.le_of_lt lw9) hB'.out hne (by omega) h'.out PP14.out.1 PP14.out.2)
      have CL := (cells4 LL14.out.box).1
      obtain ⟨⟨y0, y1, y2, y3⟩, yf⟩ := cells4 D14
      refine fan_one 10 (by kernel_rfl) ?_
      refine fan_step rfl (by kernel_rfl) fun K' hK' => ?_
      go_simp
      refine hK' _ _ (FN.out.1) ?_
      clear hK' K'
      refine fan_one 11 (by kernel_rfl) ?_
      refine fan_step rfl (by kernel_rfl) fun K' hK' => ?_
      go_simp
      refine hK' _ _ (FN.out.1) ?_
      clear hK' K'
      refine fan_done (by kernel_rfl) ?_
      show wpList _ _ _ _ _ _
      obtain ⟨⟨x0, x1, x2, x3⟩, xf⟩ := cells4 FN.out.2.1
      dsimp only [List.drop]
      clear y0 y1 y2 y3 yf CL
      go_wp2_with fail
      go_meet
      exact ⟨gg7, gg9, _, _, _, _, _, _, rfl, rfl, rfl, hide FN.out.2.2⟩
    ·refine fan_step rfl (by kernel_rfl) fun K' hK' => ?_
     go_simp
     obtain ⟨d15, hc15, D15, b15, s15⟩ := boxedN d12 #[.bool false, .slice none 0 0, .slice none 0 0, .slice none 0 0] 76
     rw [← hc15]
     obtain ⟨gg7, hgg7⟩ : ∃ q, q = d12.heap.size := ⟨_, rfl⟩
     rw [← hgg7] at D15
     rw [← hgg7]
     have LL15 := hide (LL12.out.to b15)
     have Z9_15 := (b15.block _ (lt_of_block D12)).trans D12
     have lw7 : w.heap.size < gg7 := by have := lt_of_block LL12.out.box; have := hgg7; omega
     have hne : gg7 ≠ gg9 := by have := lt_of_block D12; omega
     refine hK' _ _ LL15.out.cells ?_
     clear hK' K'
     try simp only [Act.put, List.setIfInBounds_toArray, List.set_cons_zero, List.set_cons_succ]
     replace hgg7 := hide hgg7
     clear hc15 s15
     refine fan_one 3 (by kernel_rfl) ?_
     ·refine fan_step rfl (by kernel_rfl) fun K' hK' => ?_
      refine wp_call_of 86 _ _ (by rfl) _ (by simp [Act.eval]) (Tryz.call86 _ _) (KT.out d15 LL15.out.nd) ?_
      rintro e d16 ⟨k1, v1, d1, k2, v2, d2, rfl, r1, r2, b16⟩
      have LL16 := hide (LL15.out.to b16)
      have Z9_16 := (b16.block _ (lt_of_block Z9_15)).trans Z9_15
      have Z7_16 := (b16.block _ (lt_of_block D15)).trans D15
      have PP16 := hide (And.intro r1 r2)
      refine ⟨_, rfl, hK' _ _ LL16.out.cells ?_⟩
      clear hK' K'
      try simp only [Act.put, List.setIfInBounds_toArray, List.set_cons_zero, List.set_cons_succ]
      obtain ⟨k1a, k1c, v1a, v1c, d1a, d1c, rfl, rfl, rfl⟩ := r1.rd.slices
      obtain ⟨k2a, k2c, v2a, v2c, d2a, d2c, rfl, rfl, rfl⟩ := r2.rd.slices
      dsimp only [nv]
      clear r1 r2
      refine fan_take (i := 4) (v := ?_) rfl (by kernel_rfl) (fun _ _ _ _ h => h) (by kernel_rfl) LL16.out.cells ?_ ?_
      rotate_left
      ·rintro w' ⟨s1, s2, s3, s4⟩
       go_simp
       try with_reducible rfl
      try simp only [Act.put, List.setIfInBounds_toArray, List.set_cons_zero, List.set_cons_succ]
      refine fan_take (i := 5) (v := ?_) rfl (by kernel_rfl) (fun _ _ _ _ h => h) (by kernel_rfl) LL16.out.cells ?_ ?_
      rotate_left
      ·rintro w' ⟨s1, s2, s3, s4⟩
       go_simp
       try with_reducible rfl
      try simp only [Act.put, List.setIfInBounds_toArray, List.set_cons_zero, List.set_cons_succ]
      refine fan_take (i := 6) (v := ?_) rfl (by kernel_rfl) (fun _ _ _ _ h => h) (by kernel_rfl) LL16.out.cells ?_ ?_
      rotate_left
      ·rintro w' ⟨s1, s2, s3, s4⟩
       go_simp
       try with_reducible rfl
      try simp only [Act.put, List.setIfInBounds_toArray, List.set_cons_zero, List.set_cons_succ]
      refine fan_take (i := 7) (v := ?_) rfl (by kernel_rfl) (fun _ _ _ _ h => h) (by kernel_rfl) LL16.out.cells ?_ ?_
      rotate_left
      ·rintro w' ⟨s1, s2, s3, s4⟩
       go_simp
       try with_reducible rfl
      try simp only [Act.put, List.setIfInBounds_toArray, List.set_cons_zero, List.set_cons_succ]
      have FN := hide (lay_two LL16.out Z7_16 Z9_16 (Nat.le_of_lt lw7) (Nat.le_of_lt lw9) hB'.out hne (by omega) h'.out PP16.out.1 PP16.out.2)
      have CL := (cells4 LL16.out.box).1
      obtain ⟨⟨y0, y1, y2, y3⟩, yf⟩ := cells4 Z7_16
      refine fan_one 10 (by kernel_rfl) ?_
      refine fan_step rfl (by kernel_rfl) fun K' hK' => ?_
      go_simp
      refine hK' _ _ (FN.out.1) ?_
      clear hK' K'
      refine fan_one 11 (by kernel_rfl) ?_
      refine fan_step rfl (by kernel_rfl) fun K' hK' => ?_
      go_simp
      refine hK' _ _ (FN.out.1) ?_
      clear hK' K'
      refine fan_done (by kernel_rfl) ?_
      show wpList _ _ _ _ _ _
      obtain ⟨⟨x0, x1, x2, x3⟩, xf⟩ := cells4 FN.out.2.1
      dsimp only [List.drop]
      clear y0 y1 y2 y3 yf CL
      go_wp2_with fail
      go_meet
      exact ⟨gg7, gg9, _, _, _, _, _, _, rfl, rfl, rfl, hide FN.out.2.2⟩
  ·refine fan_step rfl (by kernel_rfl) fun K' hK' => ?_
   go_simp
   obtain ⟨d17, hc17, D17, b17, s17⟩ := boxedN c0 #[.bool false, .slice none 0 0, .slice none 0 0, .slice none 0 0] 76
   rw [← hc17]
   obtain ⟨gg7, hgg7⟩ : ∃ q, q = c0.heap.size := ⟨_, rfl⟩
   rw [← hgg7] at D17
   rw [← hgg7]
   have LL17 := hide (LL0.out.to b17)
   have lw7 : w.heap.size < gg7 := by have := lt_of_block LL0.out.box; have := hgg7; omega
   refine hK' _ _ LL17.out.cells ?_
   clear hK' K'
   try simp only [Act.put, List.setIfInBounds_toArray, List.set_cons_zero, List.set_cons_succ]
   replace hgg7 := hide hgg7
   clear hc17 s17
   refine fan_two 2 9 (by kernel_rfl) ?_ ?_
   ·refine fan_step rfl (by kernel_rfl) fun K' hK' => ?_
    refine wp_call_of 87 _ _ (by rfl) _ (by simp [Act.eval]) (Tryz.call87 _ _) (KM.out d17 LL17.out.nd) ?_
    rintro e d18 ⟨rfl, b18⟩
    have LL18 := hide (LL17.out.to b18)
    have Z7_18 := (b18.block _ (lt_of_block D17)).trans D17
    refine ⟨_, rfl, hK' _ _ LL18.out.cells ?_⟩
    clear hK' K'
    try simp only [Act.put, List.setIfInBounds_toArray, List.set_cons_zero, List.set_cons_succ]
    refine fan_two 3 9 (by kernel_rfl) ?_ ?_
    ·refine fan_step rfl (by kernel_rfl) fun K' hK' => ?_
     refine wp_call_of 86 _ _ (by rfl) _ (by simp [Act.eval]) (Tryz.call86 _ _) (KT.out d18 LL18.out.nd) ?_
     rintro e d19 ⟨k1, v1, d1, k2, v2, d2, rfl, r1, r2, b19⟩
     have LL19 := hide (LL18.out.to b19)
     have Z7_19 := (b19.block _ (lt_of_block Z7_18)).trans Z7_18
     have PP19 := hide (And.intro r1 r2)
     refine ⟨_, rfl, hK' _ _ LL19.out.cells ?_⟩
     clear hK' K'
     try simp only [Act.put, List.setIfInBounds_toArray, List.set_cons_zero, List.set_cons_succ]
     obtain ⟨k1a, k1c, v1a, v1c, d1a, d1c, rfl, rfl, rfl⟩ := r1.rd.slices
     obtain ⟨k2a, k2c, v2a, v2c, d2a, d2c, rfl, rfl, rfl⟩ := r2.rd.slices
     dsimp only [nv]
     clear r1 r2
     refine fan_take (i := 4) (v := ?_) rfl (by kernel_rfl) (fun _ _ _ _ h => h) (by kernel_rfl) LL19.out.cells ?_ ?_
     rotate_left
     ·rintro w' ⟨s1, s2, s3, s4⟩
      go_simp
      try with_reducible rfl
     try simp only [Act.put, List.setIfInBounds_toArray, List.set_cons_zero, List.set_cons_succ]
     refine fan_take (i := 5) (v := ?_) rfl (by kernel_rfl) (fun _ _ _ _ h => h) (by kernel_rfl) LL19.out.cells ?_ ?_
     rotate_left
     ·rintro w' ⟨s1, s2, s3, s4⟩
      go_simp
      try with_reducible rfl
     try simp only [Act.put, List.setIfInBounds_toArray, List.set_cons_zero, List.set_cons_succ]
     refine fan_take (i := 6) (v := ?_) rfl (by kernel_rfl) (fun _ _ _ _ h => h) (by kernel_rfl) LL19.out.cells ?_ ?_
     rotate_left
     ·rintro w' ⟨s1, s2, s3, s4⟩
      go_simp
      try with_reducible rfl
     try simp only [Act.put, List.setIfInBounds_toArray, List.set_cons_zero, List.set_cons_succ]
     refine fan_take (i := 7) (v := ?_) rfl (by kernel_rfl) (fun _ _ _ _ h => h) (by kernel_rfl) LL19.out.cells ?_ ?_
     rotate_left
     ·rintro w' ⟨s1, s2, s3, s4⟩
      go_simp
      try with_reducible rfl
     try simp only [Act.put, List.setIfInBounds_toArray, List.set_cons_zero, List.set_cons_succ]
     refine fan_one 9 (by kernel_rfl) ?_
     ·refine fan_step rfl (by kernel_rfl) fun K' hK' => ?_
      go_simp
      obtain ⟨d20, hc20, D20, b20, s20⟩ := boxedN d19 #[.bool false, .slice none 0 0, .slice none 0 0, .slice none 0 0] 76
      rw [← hc20]
      obtain ⟨gg9, hgg9⟩ : ∃ q, q = d19.heap.size := ⟨_, rfl⟩
      rw [← hgg9] at D20
      rw [← hgg9]
      have LL20 := hide (LL19.out.to b20)
      have Z7_20 := (b20.block _ (lt_of_block Z7_19)).trans Z7_19
      have PP20 := hide (And.intro (PP19.out.1.to b20) (PP19.out.2.to b20))
      have lw9 : w.heap.size < gg9 := by have := lt_of_block LL19.out.box; have := hgg9; omega
      have hne : gg7 ≠ gg9 := by have := lt_of_block Z7_19; omega
      refine hK' _ _ LL20.out.cells ?_
      clear hK' K'
      try simp only [Act.put, List.setIfInBounds_toArray, List.set_cons_zero, List.set_cons_succ]
      replace hgg9 := hide hgg9
      clear hc20 s20
      have FN := hide (lay_two LL20.out Z7_20 D20 (Nat.le_of_lt lw7) (Nat.le_of_lt lw9) hB'.out hne (by omega) h'.out PP20.out.1 PP20.out.2)
      have CL := (cells4 LL20.out.box).1
      obtain ⟨⟨y0, y1, y2, y3⟩, yf⟩ := cells4 Z7_20
      refine fan_one 10 (by kernel_rfl) ?_
      refine fan_step rfl (by kernel_rfl) fun K' hK' => ?_
      go_simp
      refine hK' _ _ (FN.out.1) ?_
      clear hK' K'
      refine fan_one 11 (by kernel_rfl) ?_
      refine fan_step rfl (by kernel_rfl) fun K' hK' => ?_
      go_simp
      refine hK' _ _ (FN.out.1) ?_
      clear hK' K'
      refine fan_done (by kernel_rfl) ?_
      show wpList _ _ _ _ _ _
      obtain ⟨⟨x0, x1, x2, x3⟩, xf⟩ := cells4 FN.out.2.1
      dsimp only [List.drop]
      clear y0 y1 y2 y3 yf CL
      go_wp2_with fail
      go_meet
      exact ⟨gg7, gg9, _, _, _, _, _, _, rfl, rfl, rfl, hide FN.out.2.2⟩
    ·refine fan_step rfl (by kernel_rfl) fun K' hK' => ?_
     go_simp
     obtain ⟨d21, hc21, D21, b21, s21⟩ := boxedN d18 #[.bool false, .slice none 0 0, .slice none 0 0, .slice none 0 0] 76
     rw [← hc21]
     obtain ⟨gg9, hgg9⟩ : ∃ q, q = d18.heap.size := ⟨_, rfl⟩
     rw [← hgg9] at D21
     rw [← hgg9]
     have LL21 := hide (LL18.out.to b21)
     have Z7_21 := (b21.block _ (lt_of_block Z7_18)).trans Z7_18
     have lw9 : w.heap.size < gg9 := by have := lt_of_block LL18.out.box; have := hgg9; omega
     have hne : gg7 ≠ gg9 := by have := lt_of_block Z7_18; omega
     refine hK' _ _ LL21.out.cells ?_
     clear hK' K'
     try simp only [Act.put, List.setIfInBounds_toArray, List.set_cons_zero, List.set_cons_succ]
     replace hgg9 := hide hgg9
     clear hc21 s21
     refine fan_one 3 (by kernel_rfl) ?_
     ·refine fan_step rfl (by kernel_rfl) fun K' hK' => ?_
      refine wp_call_of 86 _ _ (by rfl) _ (by simp [Act.eval]) (Tryz.call86 _ _) (KT.out d21 LL21.out.nd) ?_
      rintro e d22 ⟨k1, v1, d1, k2, v2, d2, rfl, r1, r2, b22⟩
      have LL22 := hide (LL21.out.to b22)
      have Z7_22 := (b22.block _ (lt_of_block Z7_21)).trans Z7_21
      have Z9_22 := (b22.block _ (lt_of_block D21)).trans D21
      have PP22 := hide (And.intro r1 r2)
      refine ⟨_, rfl, hK' _ _ LL22.out.cells ?_⟩
      clear hK' K'
      try simp only [Act.put, List.setIfInBounds_toArray, List.set_cons_zero, List.set_cons_succ]
      obtain ⟨k1a, k1c, v1a, v1c, d1a, d1c, rfl, rfl, rfl⟩ := r1.rd.slices
      obtain ⟨k2a, k2c, v2a, v2c, d2a, d2c, rfl, rfl, rfl⟩ := r2.rd.slices
      dsimp only [nv]
      clear r1 r2
      refine fan_take (i := 4) (v := ?_) rfl (by kernel_rfl) (fun _ _ _ _ h => h) (by kernel_rfl) LL22.out.cells ?_ ?_
      rotate_left
      ·rintro w' ⟨s1, s2, s3, s4⟩
       go_simp
       try with_reducible rfl
      try simp only [Act.put, List.setIfInBounds_toArray, List.set_cons_zero, List.set_cons_succ]
      refine fan_take (i := 5) (v := ?_) rfl (by kernel_rfl) (fun _ _ _ _ h => h) (by kernel_rfl) LL22.out.cells ?_ ?_
      rotate_left
      ·rintro w' ⟨s1, s2, s3, s4⟩
       go_simp
       try with_reducible rfl
      try simp only [Act.put, List.setIfInBounds_toArray, List.set_cons_zero, List.set_cons_succ]
      refine fan_take (i := 6) (v := ?_) rfl (by kernel_rfl) (fun _ _ _ _ h => h) (by kernel_rfl) LL22.out.cells ?_ ?_
      rotate_left
      ·rintro w' ⟨s1, s2, s3, s4⟩
       go_simp
       try with_reducible rfl
      try simp only [Act.put, List.setIfInBounds_toArray, List.set_cons_zero, List.set_cons_succ]
      refine fan_take (i := 7) (v := ?_) rfl (by kernel_rfl) (fun _ _ _ _ h => h) (by kernel_rfl) LL22.out.cells ?_ ?_
      rotate_left
      ·rintro w' ⟨s1, s2, s3, s4⟩
       go_simp
       try with_reducible rfl
      try simp only [Act.put, List.setIfInBounds_toArray, List.set_cons_zero, List.set_cons_succ]
      have FN := hide (lay_two LL22.out Z7_22 Z9_22 (Nat.le_of_lt lw7) (Nat.le_of_lt lw9) hB'.out hne (by omega) h'.out PP22.out.1 PP22.out.2)
      have CL := (cells4 LL22.out.box).1
      obtain ⟨⟨y0, y1, y2, y3⟩, yf⟩ := cells4 Z7_22
      refine fan_one 10 (by kernel_rfl) ?_
      refine fan_step rfl (by kernel_rfl) fun K' hK' => ?_
      go_simp
      refine hK' _ _ (FN.out.1) ?_
      clear hK' K'
      refine fan_one 11 (by kernel_rfl) ?_
      refine fan_step rfl (by kernel_rfl) fun K' hK' => ?_
      go_simp
      refine hK' _ _ (FN.out.1) ?_
      clear hK' K'
      refine fan_done (by kernel_rfl) ?_
      show wpList _ _ _ _ _ _
      obtain ⟨⟨x0, x1, x2, x3⟩, xf⟩ := cells4 FN.out.2.1
      dsimp only [List.drop]
      clear y0 y1 y2 y3 yf CL
      go_wp2_with fail
      go_meet
      exact ⟨gg7, gg9, _, _, _, _, _, _, rfl, rfl, rfl, hide FN.out.2.2⟩
   ·refine fan_step rfl (by kernel_rfl) fun K' hK' => ?_
    go_simp
    obtain ⟨d23, hc23, D23, b23, s23⟩ := boxedN d17 #[.bool false, .slice none 0 0, .slice none 0 0, .slice none 0 0] 76
    rw [← hc23]
    obtain ⟨gg9, hgg9⟩ : ∃ q, q = d17.heap.size := ⟨_, rfl⟩
    rw [← hgg9] at D23
    rw [← hgg9]
    have LL23 := hide (LL17.out.to b23)
    have Z7_23 := (b23.block _ (lt_of_block D17)).trans D17
    have lw9 : w.heap.size < gg9 := by have := lt_of_block LL17.out.box; have := hgg9; omega
    have hne : gg7 ≠ gg9 := by have := lt_of_block D17; omega
    refine hK' _ _ LL23.out.cells ?_
    clear hK' K'
    try simp only [Act.put, List.setIfInBounds_toArray, List.set_cons_zero, List.set_cons_succ]
    replace hgg9 := hide hgg9
    clear hc23 s23
    refine fan_one 2 (by kernel_rfl) ?_
    ·refine fan_step rfl (by kernel_rfl) fun K' hK' => ?_
     refine wp_call_of 87 _ _ (by rfl) _ (by simp [Act.eval]) (Tryz.call87 _ _) (KM.out d23 LL23.out.nd) ?_
     rintro e d24 ⟨rfl, b24⟩
     have LL24 := hide (LL23.out.to b24)
     have Z7_24 := (b24.block _ (lt_of_block Z7_23)).trans Z7_23
     have Z9_24 := (b24.block _ (lt_of_block D23)).trans D23
     refine ⟨_, rfl, hK' _ _ LL24.out.cells ?_⟩
     clear hK' K'
     try simp only [Act.put, List.setIfInBounds_toArray, List.set_cons_zero, List.set_cons_succ]
     refine fan_one 3 (by kernel_rfl) ?_
     ·refine fan_step rfl (by kernel_rfl) fun K' hK' => ?_
      refine wp_call_of 86 _ _ (by rfl) _ (by simp [Act.eval]) (Tryz.call86 _ _) (KT.out d24 LL24.out.nd) ?_
      rintro e d25 ⟨k1, v1, d1, k2, v2, d2, rfl, r1, r2, b25⟩
      have LL25 := hide (LL24.out.to b25)
      have Z7_25 := (b25.block _ (lt_of_block Z7_24)).trans Z7_24
      have Z9_25 := (b25.block _ (lt_of_block Z9_24)).trans Z9_24
      have PP25 := hide (And.intro r1 r2)
      refine ⟨_, rfl, hK' _ _ LL25.out.cells ?_⟩
      clear hK' K'
      try simp only [Act.put, List.setIfInBounds_toArray, List.set_cons_zero, List.set_cons_succ]
      obtain ⟨k1a, k1c, v1a, v1c, d1a, d1c, rfl, rfl, rfl⟩ := r1.rd.slices
      obtain ⟨k2a, k2c, v2a, v2c, d2a, d2c, rfl, rfl, rfl⟩ := r2.rd.slices
      dsimp only [nv]
      clear r1 r2
      refine fan_take (i := 4) (v := ?_) rfl (by kernel_rfl) (fun _ _ _ _ h => h) (by kernel_rfl) LL25.out.cells ?_ ?_
      rotate_left
      ·rintro w' ⟨s1, s2, s3, s4⟩
       go_simp
       try with_reducible rfl
      try simp only [Act.put, List.setIfInBounds_toArray, List.set_cons_zero, List.set_cons_succ]
      refine fan_take (i := 5) (v := ?_) rfl (by kernel_rfl) (fun _ _ _ _ h => h) (by kernel_rfl) LL25.out.cells ?_ ?_
      rotate_left
      ·rintro w' ⟨s1, s2, s3, s4⟩
       go_simp
       try with_reducible rfl
      try simp only [Act.put, List.setIfInBounds_toArray, List.set_cons_zero, List.set_cons_succ]
      refine fan_take (i := 6) (v := ?_) rfl (by kernel_rfl) (fun _ _ _ _ h => h) (by kernel_rfl) LL25.out.cells ?_ ?_
      rotate_left
      ·rintro w' ⟨s1, s2, s3, s4⟩
       go_simp
       try with_reducible rfl
      try simp only [Act.put, List.setIfInBounds_toArray, List.set_cons_zero, List.set_cons_succ]
      refine fan_take (i := 7) (v := ?_) rfl (by kernel_rfl) (fun _ _ _ _ h => h) (by kernel_rfl) LL25.out.cells ?_ ?_
      rotate_left
      ·rintro w' ⟨s1, s2, s3, s4⟩
       go_simp
       try with_reducible rfl
      try simp only [Act.put, List.setIfInBounds_toArray, List.set_cons_zero, List.set_cons_succ]
      have FN := hide (lay_two LL25.out Z7_25 Z9_25 (Nat.le_of_lt lw7) (Nat.le_of_lt lw9) hB'.out hne (by omega) h'.out PP25.out.1 PP25.out.2)
      have CL := (cells4 LL25.out.box).1
      obtain ⟨⟨y0, y1, y2, y3⟩, yf⟩ := cells4 Z7_25
      refine fan_one 10 (by kernel_rfl) ?_
      refine fan_step rfl (by kernel_rfl) fun K' hK' => ?_
      go_simp
      refine hK' _ _ (FN.out.1) ?_
      clear hK' K'
      refine fan_one 11 (by kernel_rfl) ?_
      refine fan_step rfl (by kernel_rfl) fun K' hK' => ?_
      go_simp
      refine hK' _ _ (FN.out.1) ?_
      clear hK' K'
      refine fan_done (by kernel_rfl) ?_
      show wpList _ _ _ _ _ _
      obtain ⟨⟨x0, x1, x2, x3⟩, xf⟩ := cells4 FN.out.2.1
      dsimp only [List.drop]
      clear y0 y1 y2 y3 yf CL
      go_wp2_with fail
      go_meet
      exact ⟨gg7, gg9, _, _, _, _, _, _, rfl, rfl, rfl, hide FN.out.2.2⟩
  ·refine fan_step rfl (by kernel_rfl) fun K' hK' => ?_
   go_simp
   obtain ⟨d26, hc26, D26, b26, s26⟩ := boxedN c0 #[.bool false, .slice none 0 0, .slice none 0 0, .slice none 0 0] 76
   rw [← hc26]
   obtain ⟨gg9, hgg9⟩ : ∃ q, q = c0.heap.size := ⟨_, rfl⟩
   rw [← hgg9] at D26
   rw [← hgg9]
   have LL26 := hide (LL0.out.to b26)
   have lw9 : w.heap.size < gg9 := by have := lt_of_block LL0.out.box; have := hgg9; omega
   refine hK' _ _ LL26.out.cells ?_
   clear hK' K'
   try simp only [Act.put, List.setIfInBounds_toArray, List.set_cons_zero, List.set_cons_succ]
   replace hgg9 := hide hgg9
   clear hc26 s26
   refine fan_two 2 8 (by kernel_rfl) ?_ ?_
   ·refine fan_step rfl (by kernel_rfl) fun K' hK' => ?_
    refine wp_call_of 87 _ _ (by rfl) _ (by simp [Act.eval]) (Tryz.call87 _ _) (KM.out d26 LL26.out.nd) ?_
    rintro e d27 ⟨rfl, b27⟩
    have LL27 := hide (LL26.out.to b27)
    have Z9_27 := (b27.block _ (lt_of_block D26)).trans D26
    refine ⟨_, rfl, hK' _ _ LL27.out.cells ?_⟩
    clear hK' K'
    try simp only [Act.put, List.setIfInBounds_toArray, List.set_cons_zero, List.set_cons_succ]
    refine fan_two 3 8 (by kernel_rfl) ?_ ?_
    ·refine fan_step rfl (by kernel_rfl) fun K' hK' => ?_
     refine wp_call_of 86 _ _ (by rfl) _ (by simp [Act.eval]) (Tryz.call86 _ _) (KT.out d27 LL27.out.nd) ?_
     rintro e d28 ⟨k1, v1, d1, k2, v2, d2, rfl, r1, r2, b28⟩
     have LL28 := hide (LL27.out.to b28)
     have Z9_28 := (b28.block _ (lt_of_block Z9_27)).trans Z9_27
     have PP28 := hide (And.intro r1 r2)
     refine ⟨_, rfl, hK' _ _ LL28.out.cells ?_⟩
     clear hK' K'
     try simp only [Act.put, List.setIfInBounds_toArray, List.set_cons_zero, List.set_cons_succ]
     obtain ⟨k1a, k1c, v1a, v1c, d1a, d1c, rfl, rfl, rfl⟩ := r1.rd.slices
     obtain ⟨k2a, k2c, v2a, v2c, d2a, d2c, rfl, rfl, rfl⟩ := r2.rd.slices
     dsimp only [nv]
     clear r1 r2
     refine fan_take (i := 4) (v := ?_) rfl (by kernel_rfl) (fun _ _ _ _ h => h) (by kernel_rfl) LL28.out.cells ?_ ?_
     rotate_left
     ·rintro w' ⟨s1, s2, s3, s4⟩
      go_simp
      try with_reducible rfl
     try simp only [Act.put, List.setIfInBounds_toArray, List.set_cons_zero, List.set_cons_succ]
     refine fan_take (i := 5) (v := ?_) rfl (by kernel_rfl) (fun _ _ _ _ h => h) (by kernel_rfl) LL28.out.cells ?_ ?_
     rotate_left
     ·rintro w' ⟨s1, s2, s3, s4⟩
      go_simp
      try with_reducible rfl
     try simp only [Act.put, List.setIfInBounds_toArray, List.set_cons_zero, List.set_cons_succ]
     refine fan_take (i := 6) (v := ?_) rfl (by kernel_rfl) (fun _ _ _ _ h => h) (by kernel_rfl) LL28.out.cells ?_ ?_
     rotate_left
     ·rintro w' ⟨s1, s2, s3, s4⟩
      go_simp
      try with_reducible rfl
     try simp only [Act.put, List.setIfInBounds_toArray, List.set_cons_zero, List.set_cons_succ]
     refine fan_take (i := 7) (v := ?_) rfl (by kernel_rfl) (fun _ _ _ _ h => h) (by kernel_rfl) LL28.out.cells ?_ ?_
     rotate_left
     ·rintro w' ⟨s1, s2, s3, s4⟩
      go_simp
      try with_reducible rfl
     try simp only [Act.put, List.setIfInBounds_toArray, List.set_cons_zero, List.set_cons_succ]
     refine fan_one 8 (by kernel_rfl) ?_
     ·refine fan_step rfl (by kernel_rfl) fun K' hK' => ?_
      go_simp
      obtain ⟨d29, hc29, D29, b29, s29⟩ := boxedN d28 #[.bool false, .slice none 0 0, .slice none 0 0, .slice none 0 0] 76
      rw [← hc29]
      obtain ⟨gg7, hgg7⟩ : ∃ q, q = d28.heap.size := ⟨_, rfl⟩
      rw [← hgg7] at D29
      rw [← hgg7]
      have LL29 := hide (LL28.out.to b29)
      have Z9_29 := (b29.block _ (lt_of_block Z9_28)).trans Z9_28
      have PP29 := hide (And.intro (PP28.out.1.to b29) (PP28.out.2.to b29))
      have lw7 : w.heap.size < gg7 := by have := lt_of_block LL28.out.box; have := hgg7; omega
      have hne : gg7 ≠ gg9 := by have := lt_of_block Z9_28; omega
      refine hK' _ _ LL29.out.cells ?_
      clear hK' K'
      try simp only [Act.put, List.setIfInBounds_toArray, List.set_cons_zero, List.set_cons_succ]
      replace hgg7 := hide hgg7
      clear hc29 s29
      have FN := hide (lay_two LL29.out D29 Z9_29 (Nat.le_of_lt lw7) (Nat.le_of_lt lw9) hB'.out hne (by omega) h'.out PP29.out.1 PP29.out.2)
      have CL := (cells4 LL29.out.box).1
      obtain ⟨⟨y0, y1, y2, y3⟩, yf⟩ := cells4 D29
      refine fan_one 10 (by kernel_rfl) ?_
      refine fan_step rfl (by kernel_rfl) fun K' hK' => ?_
      go_simp
      refine hK' _ _ (FN.out.1) ?_
      clear hK' K'
      refine fan_one 11 (by kernel_rfl) ?_
      refine fan_step rfl (by kernel_rfl) fun K' hK' => ?_
      go_simp
      refine hK' _ _ (FN.out.1) ?_
      clear hK' K'
      refine fan_done (by kernel_rfl) ?_
      show wpList _ _ _ _ _ _
      obtain ⟨⟨x0, x1, x2, x3⟩, xf⟩ := cells4 FN.out.2.1
      dsimp only [List.drop]
      clear y0 y1 y2 y3 yf CL
      go_wp2_with fail
      go_meet
      exact ⟨gg7, gg9, _, _, _, _, _, _, rfl, rfl, rfl, hide FN.out.2.2⟩
    ·refine fan_step rfl (by kernel_rfl) fun K' hK' => ?_
     go_simp
     obtain ⟨d30, hc30, D30, b30, s30⟩ := boxedN d27 #[.bool false, .slice none 0 0, .slice none 0 0, .slice none 0 0] 76
     rw [← hc30]
     obtain ⟨gg7, hgg7⟩ : ∃ q, q = d27.heap.size := ⟨_, rfl⟩
     rw [← hgg7] at D30
     rw [← hgg7]
     have LL30 := hide (LL27.out.to b30)
     have Z9_30 := (b30.block _ (lt_of_block Z9_27)).trans Z9_27
     have lw7 : w.heap.size < gg7 := by have := lt_of_block LL27.out.box; have := hgg7; omega
     have hne : gg7 ≠ gg9 := by have := lt_of_block Z9_27; omega
     refine hK' _ _ LL30.out.cells ?_
     clear hK' K'
     try simp only [Act.put, List.setIfInBounds_toArray, List.set_cons_zero, List.set_cons_succ]
     replace hgg7 := hide hgg7
     clear hc30 s30
     refine fan_one 3 (by kernel_rfl) ?_
     ·refine fan_step rfl (by kernel_rfl) fun K' hK' => ?_
      refine wp_call_of 86 _ _ (by rfl) _ (by simp [Act.eval]) (Tryz.call86 _ _) (KT.out d30 LL30.out.nd) ?_
      rintro e d31 ⟨k1, v1, d1, k2, v2, d2, rfl, r1, r2, b31⟩
      have LL31 := hide (LL30.out.to b31)
      have Z9_31 := (b31.block _ (lt_of_block Z9_30)).trans Z9_30
      have Z7_31 := (b31.block _ (lt_of_block D30)).trans D30
      have PP31 := hide (And.intro r1 r2)
      refine ⟨_, rfl, hK' _ _ LL31.out.cells ?_⟩
      clear hK' K'
      try simp only [Act.put, List.setIfInBounds_toArray, List.set_cons_zero, List.set_cons_succ]
      obtain ⟨k1a, k1c, v1a, v1c, d1a, d1c, rfl, rfl, rfl⟩ := r1.rd.slices
      obtain ⟨k2a, k2c, v2a, v2c, d2a, d2c, rfl, rfl, rfl⟩ := r2.rd.slices
      dsimp only [nv]
      clear r1 r2
      refine fan_take (i := 4) (v := ?_) rfl (by kernel_rfl) (fun _ _ _ _ h => h) (by kernel_rfl) LL31.out.cells ?_ ?_
      rotate_left
      ·rintro w' ⟨s1, s2, s3, s4⟩
       go_simp
       try with_reducible rfl
      try simp only [Act.put, List.setIfInBounds_toArray, List.set_cons_zero, List.set_cons_succ]
      refine fan_take (i := 5) (v := ?_) rfl (by kernel_rfl) (fun _ _ _ _ h => h) (by kernel_rfl) LL31.out.cells ?_ ?_
      rotate_left
      ·rintro w' ⟨s1, s2, s3, s4⟩
       go_simp
       try with_reducible rfl
      try simp only [Act.put, List.setIfInBounds_toArray, List.set_cons_zero, List.set_cons_succ]
      refine fan_take (i := 6) (v := ?_) rfl (by kernel_rfl) (fun _ _ _ _ h => h) (by kernel_rfl) LL31.out.cells ?_ ?_
      rotate_left
      ·rintro w' ⟨s1, s2, s3, s4⟩
       go_simp
       try with_reducible rfl
      try simp only [Act.put, List.setIfInBounds_toArray, List.set_cons_zero, List.set_cons_succ]
      refine fan_take (i := 7) (v := ?_) rfl (by kernel_rfl) (fun _ _ _ _ h => h) (by kernel_rfl) LL31.out.cells ?_ ?_
      rotate_left
      ·rintro w' ⟨s1, s2, s3, s4⟩
       go_simp
       try with_reducible rfl
      try simp only [Act.put, List.setIfInBounds_toArray, List.set_cons_zero, List.set_cons_succ]
      have FN := hide (lay_two LL31.out Z7_31 Z9_31 (Nat.le_of_lt lw7) (Nat.le_of_lt lw9) hB'.out hne (by omega) h'.out PP31.out.1 PP31.out.2)
      have CL := (cells4 LL31.out.box).1
      obtain ⟨⟨y0, y1, y2, y3⟩, yf⟩ := cells4 Z7_31
      refine fan_one 10 (by kernel_rfl) ?_
      refine fan_step rfl (by kernel_rfl) fun K' hK' => ?_
      go_simp
      refine hK' _ _ (FN.out.1) ?_
      clear hK' K'
      refine fan_one 11 (by kernel_rfl) ?_
      refine fan_step rfl (by kernel_rfl) fun K' hK' => ?_
      go_simp
      refine hK' _ _ (FN.out.1) ?_
      clear hK' K'
      refine fan_done (by kernel_rfl) ?_
      show wpList _ _ _ _ _ _
      obtain ⟨⟨x0, x1, x2, x3⟩, xf⟩ := cells4 FN.out.2.1
      dsimp only [List.drop]
      clear y0 y1 y2 y3 yf CL
      go_wp2_with fail
      go_meet
      exact ⟨gg7, gg9, _, _, _, _, _, _, rfl, rfl, rfl, hide FN.out.2.2⟩
   ·refine fan_step rfl (by kernel_rfl) fun K' hK' => ?_
    go_simp
    obtain ⟨d32, hc32, D32, b32, s32⟩ := boxedN d26 #[.bool false, .slice none 0 0, .slice none 0 0, .slice none 0 0] 76
    rw [← hc32]
    obtain ⟨gg7, hgg7⟩ : ∃ q, q = d26.heap.size := ⟨_, rfl⟩
    rw [← hgg7] at D32
    rw [← hgg7]
    have LL32 := hide (LL26.out.to b32)
    have Z9_32 := (b32.block _ (lt_of_block D26)).trans D26
    have lw7 : w.heap.size < gg7 := by have := lt_of_block LL26.out.box; have := hgg7; omega
    have hne : gg7 ≠ gg9 := by have := lt_of_block D26; omega
    refine hK' _ _ LL32.out.cells ?_
    clear hK' K'
    try simp only [Act.put, List.setIfInBounds_toArray, List.set_cons_zero, List.set_cons_succ]
    replace hgg7 := hide hgg7
    clear hc32 s32
    refine fan_one 2 (by kernel_rfl) ?_
    ·refine fan_step rfl (by kernel_rfl) fun K' hK' => ?_
     refine wp_call_of 87 _ _ (by rfl) _ (by simp [Act.eval]) (Tryz.call87 _ _) (KM.out d32 LL32.out.nd) ?_
     rintro e d33 ⟨rfl, b33⟩
     have LL33 := hide (LL32.out.to b33)
     have Z9_33 := (b33.block _ (lt_of_block Z9_32)).trans Z9_32
     have Z7_33 := (b33.block _ (lt_of_block D32)).trans D32
     refine ⟨_, rfl, hK' _ _ LL33.out.cells ?_⟩
     clear hK' K'
     try simp only [Act.put, List.setIfInBounds_toArray, List.set_cons_zero, List.set_cons_succ]
     refine fan_one 3 (by kernel_rfl) ?_
     ·refine fan_step rfl (by kernel_rfl) fun K' hK' => ?_
      refine wp_call_of 86 _ _ (by rfl) _ (by simp [Act.eval]) (Tryz.call86 _ _) (KT.out d33 LL33.out.nd) ?_
      rintro e d34 ⟨k1, v1, d1, k2, v2, d2, rfl, r1, r2, b34⟩
      have LL34 := hide (LL33.out.to b34)
      have Z9_34 := (b34.block _ (lt_of_block Z9_33)).trans Z9_33
      have Z7_34 := (b34.block _ (lt_of_block Z7_33)).trans Z7_33
      have PP34 := hide (And.intro r1 r2)
      refine ⟨_, rfl, hK' _ _ LL34.out.cells ?_⟩
      clear hK' K'
      try simp only [Act.put, List.setIfInBounds_toArray, List.set_cons_zero, List.set_cons_succ]
      obtain ⟨k1a, k1c, v1a, v1c, d1a, d1c, rfl, rfl, rfl⟩ := r1.rd.slices
      obtain ⟨k2a, k2c, v2a, v2c, d2a, d2c, rfl, rfl, rfl⟩ := r2.rd.slices
      dsimp only [nv]
      clear r1 r2
      refine fan_take (i := 4) (v := ?_) rfl (by kernel_rfl) (fun _ _ _ _ h => h) (by kernel_rfl) LL34.out.cells ?_ ?_
      rotate_left
      ·rintro w' ⟨s1, s2, s3, s4⟩
       go_simp
       try with_reducible rfl
      try simp only [Act.put, List.setIfInBounds_toArray, List.set_cons_zero, List.set_cons_succ]
      refine fan_take (i := 5) (v := ?_) rfl (by kernel_rfl) (fun _ _ _ _ h => h) (by kernel_rfl) LL34.out.cells ?_ ?_
      rotate_left
      ·rintro w' ⟨s1, s2, s3, s4⟩
       go_simp
       try with_reducible rfl
      try simp only [Act.put, List.setIfInBounds_toArray, List.set_cons_zero, List.set_cons_succ]
      refine fan_take (i := 6) (v := ?_) rfl (by kernel_rfl) (fun _ _ _ _ h => h) (by kernel_rfl) LL34.out.cells ?_ ?_
      rotate_left
      ·rintro w' ⟨s1, s2, s3, s4⟩
       go_simp
       try with_reducible rfl
      try simp only [Act.put, List.setIfInBounds_toArray, List.set_cons_zero, List.set_cons_succ]
      refine fan_take (i := 7) (v := ?_) rfl (by kernel_rfl) (fun _ _ _ _ h => h) (by kernel_rfl) LL34.out.cells ?_ ?_
      rotate_left
      ·rintro w' ⟨s1, s2, s3, s4⟩
       go_simp
       try with_reducible rfl
      try simp only [Act.put, List.setIfInBounds_toArray, List.set_cons_zero, List.set_cons_succ]
      have FN := hide (lay_two LL34.out Z7_34 Z9_34 (Nat.le_of_lt lw7) (Nat.le_of_lt lw9) hB'.out hne (by omega) h'.out PP34.out.1 PP34.out.2)
      have CL := (cells4 LL34.out.box).1
      obtain ⟨⟨y0, y1, y2, y3⟩, yf⟩ := cells4 Z7_34
      refine fan_one 10 (by kernel_rfl) ?_
      refine fan_step rfl (by kernel_rfl) fun K' hK' => ?_
      go_simp
      refine hK' _ _ (FN.out.1) ?_
      clear hK' K'
      refine fan_one 11 (by kernel_rfl) ?_
      refine fan_step rfl (by kernel_rfl) fun K' hK' => ?_
      go_simp
      refine hK' _ _ (FN.out.1) ?_
      clear hK' K'
      refine fan_done (by kernel_rfl) ?_
      show wpList _ _ _ _ _ _
      obtain ⟨⟨x0, x1, x2, x3⟩, xf⟩ := cells4 FN.out.2.1
      dsimp only [List.drop]
      clear y0 y1 y2 y3 yf CL
      go_wp2_with fail
      go_meet
      exact ⟨gg7, gg9, _, _, _, _, _, _, rfl, rfl, rfl, hide FN.out.2.2⟩
 case rest =>
  obtain ⟨g7, g9, k1, v1, d1, k2, v2, d2, rfl, rfl, rfl, hT⟩ := hcut
  obtain ⟨NL, hNL⟩ : ∃ q, q = cutL n (midOf n) := ⟨_, rfl⟩
  obtain ⟨NR, hNR⟩ : ∃ q, q = cutR n (midOf n) := ⟨_, rfl⟩
  obtain ⟨key, hkey⟩ : ∃ k, k = n.keys.getD (midOf n) [] := ⟨_, rfl⟩
  rw [← hNL, ← hNR] at hT hla
  rw [← hkey] at hla ⊢
  clear hNL hNR hkey
  go_upto_region 6 with fail
  have b0 : Below wc.heap.size wc wc.drew := below_drewN' wc 1 _
  obtain ⟨c0, hc0⟩ : ∃ c, c = wc.drew := ⟨_, rfl⟩
  rw [← hc0] at b0
  have T0 := hT.out.to b0
  have hgcl : gc < w.heap.size := lt_of_block h'.out.box
  have hrow : ∀ b, av.ownBlock = some b → b < w.heap.size := fun b hb => (World.ownsRow.lt h'.out.row b hb).2
  have S0 : (c0.cell? ⟨g7, 0, none⟩ = some (.bool NL.leaf) ∧ c0.cell? ⟨g7, 1, none⟩ = some k1 ∧ c0.cell? ⟨g7, 2, none⟩ = some v1 ∧ c0.cell? ⟨g7, 3, none⟩ = some d1) ∧ c0.cell? ⟨g9, 0, none⟩ = some (.bool NR.leaf) ∧ c0.cell? ⟨g9, 1, none⟩ = some k2 ∧ c0.cell? ⟨g9, 2, none⟩ = some v2 ∧ c0.cell? ⟨g9, 3, none⟩ = some d2 := ⟨(cells4 T0.b7).1, (cells4 T0.b9).1⟩
  obtain ⟨k1a, k1c, v1a, v1c, d1a, d1c, ek1, ev1, ed1⟩ := T0.ra.rd.slices
  obtain ⟨k2a, k2c, v2a, v2c, d2a, d2c, ek2, ev2, ed2⟩ := T0.rb.rd.slices
  have one1 : k1.oneCell' = true ∧ v1.oneCell' = true ∧ d1.oneCell' = true := by rw [ek1, ev1, ed1]; exact ⟨rfl, rfl, rfl⟩
  have one2 : k2.oneCell' = true ∧ v2.oneCell' = true ∧ d2.oneCell' = true := by rw [ek2, ev2, ed2]; exact ⟨rfl, rfl, rfl⟩
  replace one2 := hide one2
  have KA := hide (padd_any B c0 gc g next av ns NL k1 v1 d1 T0.ch T0.hB hg'.out hgc.out (by omega) hnx one1)
  have HT0 := hide T0
  clear T0 ek1 ev1 ed1 ek2 ev2 ed2 one1 KM KT L1 hT
  dsimp only [nv] at KA
  refine wp_region_sched (fun w' => (w'.cell? ⟨g7, 0, none⟩ = some (.bool NL.leaf) ∧ w'.cell? ⟨g7, 1, none⟩ = some k1 ∧ w'.cell? ⟨g7, 2, none⟩ = some v1 ∧ w'.cell? ⟨g7, 3, none⟩ = some d1) ∧ w'.cell? ⟨g9, 0, none⟩ = some (.bool NR.leaf) ∧ w'.cell? ⟨g9, 1, none⟩ = some k2 ∧ w'.cell? ⟨g9, 2, none⟩ = some v2 ∧ w'.cell? ⟨g9, 3, none⟩ = some d2) [(0, true), (1, true), (2, true), (5, true), (6, true), (7, true), (3, false), (4, true), (8, false), (9, true)] 10 mixed (by kernel_rfl) (fun _ _ _ _ h => h) ?_
  rw [← hc0]
  replace hc0 := hide hc0
  iterate 6
   refine sched_take (v := ?_) rfl (by kernel_rfl) S0 ?_ ?_
   rotate_left
   ·rintro w' ⟨⟨s1, s2, s3, s4⟩, t1, t2, t3, t4⟩
    go_simp
    try with_reducible rfl
   try simp only [Act.put, List.setIfInBounds_toArray, List.set_cons_zero, List.set_cons_succ]
  refine sched_run rfl (by kernel_rfl) fun K' hK' => ?_
  refine wp_call_of 66 _ _ (by rfl) _ (by simp [Act.eval]) (Tryz.call66 _ _) KA.out ?_
  rintro e w2 ⟨av2, rfl, c2, q2⟩
  have T0 := HT0.out
  have z7 := q2.box T0.b7 hgcl (fun q hq => by have := hrow q hq; have := T0.l7; omega) T0.l7
  have z9 := q2.box T0.b9 hgcl (fun q hq => by have := hrow q hq; have := T0.l9; omega) T0.l9
  have S2 : (w2.cell? ⟨g7, 0, none⟩ = some (.bool NL.leaf) ∧ w2.cell? ⟨g7, 1, none⟩ = some k1 ∧ w2.cell? ⟨g7, 2, none⟩ = some v1 ∧ w2.cell? ⟨g7, 3, none⟩ = some d1) ∧ w2.cell? ⟨g9, 0, none⟩ = some (.bool NR.leaf) ∧ w2.cell? ⟨g9, 1, none⟩ = some k2 ∧ w2.cell? ⟨g9, 2, none⟩ = some v2 ∧ w2.cell? ⟨g9, 3, none⟩ = some d2 := ⟨(cells4 z7).1, (cells4 z9).1⟩
  have kt := fun e (h1 : e ≠ 108) (h2 : e ≠ 76) => q2.keepT T0.ch h1 h2
  have A2 : AllK w2 (ns ++ [(NL, k1, v1, d1)]) := (T0.al.keepT (kt _ (by decide) (by decide)) (kt _ (by decide) (by decide))).snoc (T0.ra.keepT (kt _ (by decide) (by decide)) (kt _ (by decide) (by decide)))
  have rb2 := T0.rb.keepT (kt _ (by decide) (by decide)) (kt _ (by decide) (by decide))
  have kk2 := T0.kc.trans q2
  have hB2 : B ≤ w2.heap.size := Nat.le_trans T0.hB q2.size
  have KA2 := hide (padd_any B w2 gc g next av2 (ns ++ [(NL, k1, v1, d1)]) NR k2 v2 d2 c2 hB2 (KCh.apart h'.out hg'.out kk2) hgc.out (by simp; omega) hnx one2.out)
  dsimp only [nv] at KA2
  have hne2 : ∀ q, av2.ownBlock = some q → q ≠ g7 ∧ q ≠ g9 := fun q hq => by
   have l1 := lt_of_block T0.b7
   have l2 := lt_of_block T0.b9
   rcases q2.row q hq with h9 | h9
   ·have := hrow q h9; have := T0.l7; have := T0.l9; omega
   ·omega
  have H2 := hide (And.intro z7 (And.intro z9 (And.intro A2 (And.intro rb2 (And.intro kk2 (And.intro c2 (And.intro hB2 (And.intro hne2 (And.intro T0.l7 T0.l9)))))))))
  obtain ⟨kid, hkid⟩ : ∃ k : Int, k = next + (ns.length : Int) := ⟨_, rfl⟩
  rw [← hkid]
  replace hkid := hide hkid
  refine ⟨_, rfl, hK' _ _ S2 ?_⟩
  clear hK' K' T0 HT0 z7 z9 A2 rb2 kk2 c2 q2 kt KA hne2 hB2
  try simp only [Act.put, List.setIfInBounds_toArray, List.set_cons_zero, List.set_cons_succ]
  iterate 1
   refine sched_take (v := ?_) rfl (by kernel_rfl) S2 ?_ ?_
   rotate_left
   ·rintro w' ⟨⟨s1, s2, s3, s4⟩, t1, t2, t3, t4⟩
    go_simp
    try with_reducible rfl
   try simp only [Act.put, List.setIfInBounds_toArray, List.set_cons_zero, List.set_cons_succ]
  refine sched_run rfl (by kernel_rfl) fun K' hK' => ?_
  refine wp_call_of 66 _ _ (by rfl) _ (by simp [Act.eval]) (Tryz.call66 _ _) KA2.out ?_
  rintro e w3 ⟨av3, rfl, c3, q3⟩
  obtain ⟨z7, z9, A2, rb2, kk2, c2, hB2, hne2, l7, l9⟩ := H2.out
  have y7 := q3.box z7 hgcl (fun q hq => (hne2 q hq).1) l7
  have y9 := q3.box z9 hgcl (fun q hq => (hne2 q hq).2) l9
  have S3 : (w3.cell? ⟨g7, 0, none⟩ = some (.bool NL.leaf) ∧ w3.cell? ⟨g7, 1, none⟩ = some k1 ∧ w3.cell? ⟨g7, 2, none⟩ = some v1 ∧ w3.cell? ⟨g7, 3, none⟩ = some d1) ∧ w3.cell? ⟨g9, 0, none⟩ = some (.bool NR.leaf) ∧ w3.cell? ⟨g9, 1, none⟩ = some k2 ∧ w3.cell? ⟨g9, 2, none⟩ = some v2 ∧ w3.cell? ⟨g9, 3, none⟩ = some d2 := ⟨(cells4 y7).1, (cells4 y9).1⟩
  have kt := fun e (h1 : e ≠ 108) (h2 : e ≠ 76) => q3.keepT c2 h1 h2
  have A3 : AllK w3 (ns ++ [(NL, k1, v1, d1)] ++ [(NR, k2, v2, d2)]) := (A2.keepT (kt _ (by decide) (by decide)) (kt _ (by decide) (by decide))).snoc (rb2.keepT (kt _ (by decide) (by decide)) (kt _ (by decide) (by decide)))
  have kk3 := kk2.trans q3
  have hB3 : B ≤ w3.heap.size := Nat.le_trans hB2 q3.size
  have H3 := hide (And.intro A3 (And.intro kk3 (And.intro c3 hB3)))
  have hln : (ns ++ [(NL, k1, v1, d1)]).length = ns.length + 1 := by simp
  obtain ⟨kid2, hkid2⟩ : ∃ k : Int, k = next + ((ns.length + 1 : Nat) : Int) := ⟨_, rfl⟩
  rw [hln, ← hkid2]
  replace hkid2 := hide hkid2
  clear hln
  refine ⟨_, rfl, hK' _ _ S3 ?_⟩
  clear hK' K' z7 z9 A2 rb2 kk2 c2 hB2 hne2 y7 y9 kt A3 kk3 hB3 c3 q3 KA2 H2
  try simp only [Act.put, List.setIfInBounds_toArray, List.set_cons_zero, List.set_cons_succ]
  iterate 1
   refine sched_take (v := ?_) rfl (by kernel_rfl) S3 ?_ ?_
   rotate_left
   ·rintro w' ⟨⟨s1, s2, s3, s4⟩, t1, t2, t3, t4⟩
    go_simp
    try with_reducible rfl
   try simp only [Act.put, List.setIfInBounds_toArray, List.set_cons_zero, List.set_cons_succ]
  show wpList _ _ _ _ _ _
  dsimp only [List.drop]
  obtain ⟨A3, kk3, c3, hB3⟩ := H3.out
  obtain ⟨Y, hY, DY, bY, sY⟩ := boxedN w3 #[st ahead, .int .i64 kid, st key, .int .i64 kid2] 133
  have FIN : Hid (NowV w.heap.size Y (.slice (some ⟨w3.heap.size, 0, none⟩) 2 2) [(ahead, kid), (key, kid2)] ∧ ChI B Y gc g next av3 (ns ++ [(NL, k1, v1, d1)] ++ [(NR, k2, v2, d2)]) ∧ AllK Y (ns ++ [(NL, k1, v1, d1)] ++ [(NR, k2, v2, d2)]) ∧ KCh B gc av av3 w Y) :=
   ⟨.inr ⟨w3.heap.size, rfl, by simp, DY, kk3.size⟩, c3.to bY, A3.to bY, kk3.trans (KCh.of bY hB3)⟩
  rw [hY] at FIN
  clear A3 kk3 c3 hB3 H3 DY bY hY S0 S2 S3
  go_wp2
  go_ret
  refine ⟨_, av3, [(NL, k1, v1, d1), (NR, k2, v2, d2)], rfl, ?_, ?_, ?_, by rw [hla.out, List.map_append]; rfl, FIN.out.2.2.2, KCh.apart h'.out hg'.out FIN.out.2.2.2⟩
  ·rw [hla.out, ← hkid.out]
   dsimp only
   rw [show kid + 1 = kid2 by have := hkid.out; have := hkid2.out; omega]
   exact FIN.out.1
  ·have := FIN.out.2.1
   simpa using this
  ·have := FIN.out.2.2.1
   simpa using this
end Go.Proofs.YtgmkknonnidgaaaGreat

namespace Go.Proofs.YtgmkknonnidgaaaGreat
theorem nodup_mid {A B C N : List Int} {T : Int} (h : (A ++ B ++ C).Nodup) (hN : N.Nodup) (hd : ∀ i ∈ N, i ∈ B ∨ T ≤ i) (hlt : ∀ i ∈ A ++ B ++ C, i < T) : (A ++ N ++ C).Nodup := by
 rw [List.nodup_append] at h ⊢
 obtain ⟨h1, h2, h3⟩ := h
 rw [List.nodup_append] at h1
 obtain ⟨h4, h5, h6⟩ := h1
 refine ⟨?_, h2, ?_⟩
 ·rw [List.nodup_append]
  refine ⟨h4, hN, fun a ha b hb e => ?_⟩
  subst e
  rcases hd a hb with hb | hb
  ·exact h6 a ha a hb rfl
  ·have := hlt a (by simp [ha]); omega
 ·intro a ha b hb e
  subst e
  rcases List.mem_append.1 ha with ha | ha
  ·exact h3 a (by simp [ha]) a hb rfl
  ·rcases hd a ha with ha | ha
   ·exact h3 a (by simp [ha]) a hb rfl
   ·have := hlt a (by simp [hb]); omega
theorem reb_fin {l : List Wrt} {next : Int} {upd : List Pr → List Pr} {d : Nat} {lo : Str} {hi : Option Str} {P S Y : List Br} {y : Br} {ad ad1 : List Nd} {m : Nd}
  (hnl : ∀ id x, tpage l id = some x → id < next) (hn1 : 1 ≤ next)
  (hs : Seg l d lo hi (P ++ (y :: Y) ++ S)) (hb : BrOk (P ++ (y :: Y) ++ S)) (hsz : nsize (inr (P ++ (y :: Y) ++ S)) ≤ 244)
  (hnod : (sids l d (P ++ (y :: Y) ++ S)).Nodup)
  (had : ∃ more, ad1 = ad ++ more ∧ ∀ x ∈ more, NOk x)
  (hm : NO (lp l next ad1) d m (loY P y.1 lo) (hiS S hi)) (hml : nsize m ≤ Lim d) (hmb : m.leaf = true ∨ m.keys ≠ [])
  (hmn : (nI (lp l next ad1) d m).Nodup)
  (hmi : ∀ i ∈ nI (lp l next ad1) d m, i ∈ sids l d (y :: Y) ∨ (next + (ad.length : Int) ≤ i ∧ i < next + (ad1.length : Int)))
  (h0 : P ++ S ≠ [] ∨ m.keys ≠ [])
  (hZ : sprs l d P ++ nP (lp l next ad1) d m ++ sprs l d S = upd (sprs l d (P ++ (y :: Y) ++ S)))
  (hM : next + ((laidOf next ad1 m y.1).2.length : Int) ≤ 65536) :
  Reb l next upd (d + 1) (inr (P ++ (y :: Y) ++ S)) lo hi ad (inr (P ++ (laidOf next ad1 m y.1).1 ++ S)) (laidOf next ad1 m y.1).2 := by
 obtain ⟨more, rfl, hmok⟩ := had
 have hth := hs.there hnl
 have hsub : ∀ i ∈ sids l d (y :: Y), i ∈ sids l d (P ++ (y :: Y) ++ S) := fun i hi9 => by
  rw [sids_app, sids_app]; simp [hi9]
 have hla : ((ad ++ more).length : Int) = ad.length + more.length := by simp
 have La := laid_ok (ahead := y.1) hnl hn1 hm hml hmn (fun i hi9 => by
  rcases hmi i hi9 with h | h
  ·have := hth i (hsub i h); omega
  ·omega) hM hmb
 obtain ⟨⟨bs, ad2⟩, hq⟩ : ∃ q, q = laidOf next (ad ++ more) m y.1 := ⟨_, rfl⟩
 rw [← hq] at La hM ⊢
 dsimp only at La hM ⊢
 obtain ⟨more2, rfl, hl2, hok2⟩ := La.more
 have hx : Ext l (lp l next (ad ++ more ++ more2)) := ext_app _ _
 have hs2 := hs.ext hx
 have h0' : P ++ S ≠ [] ∨ bs ≠ [] := by
  rcases h0 with h0 | h0
  ·exact .inl h0
  ·rcases La.seg with h | ⟨k, r, rfl, _⟩
   ·exact absurd h.2 h0
   ·exact .inr (by simp)
 obtain ⟨p1, p2, p3⟩ := put_now hs2 h0' ⟨La.seg.elim (fun h => .inl h.1) .inr, La.br, La.len⟩ hb
 have eP := seg_ext hx (bs := P) (fun b hb9 => hs.each b (by simp [hb9]))
 have eS := seg_ext hx (bs := S) (fun b hb9 => hs.each b (by simp [hb9]))
 refine ⟨⟨more ++ more2, by rw [List.append_assoc], fun x hx9 => ?_⟩, ⟨_, rfl, p2, p1⟩, ?_, ?_, ?_, ?_⟩
 ·rcases List.mem_append.1 hx9 with h | h
  ·exact hmok x h
  ·exact hok2 x h
 ·rw [nP, sprs_inr, nP, sprs_inr, sprs_app, sprs_app, eP.1, eS.1, La.prs]
  exact hZ
 ·rw [nI, sids_inr, sids_app, sids_app, eP.2, eS.2]
  rw [sids_app, sids_app] at hnod
  refine nodup_mid (T := next) hnod La.nod (fun i hi9 => ?_) (fun i hi9 => hth i (by rw [sids_app, sids_app]; exact hi9))
  rcases La.ids i hi9 with h | h
  ·rcases hmi i h with h | h
   ·exact .inl h
   ·exact .inr (by omega)
  ·exact .inr (by omega)
 ·rw [nI, sids_inr, nI, sids_inr, sids_app, sids_app, eP.2, eS.2, sids_app, sids_app]
  intro i hi9
  have hl3 : ((ad ++ more ++ more2).length : Int) = ad.length + more.length + more2.length := by simp; omega
  simp only [List.mem_append] at hi9 ⊢
  rcases hi9 with (h | h) | h
  ·exact .inl (.inl (.inl h))
  ·rcases La.ids i h with h | h
   ·rcases hmi i h with h | h
    ·exact .inl (.inl (.inr h))
    ·exact .inr (by omega)
   ·exact .inr (by omega)
  ·exact .inl (.inr h)
 ·show nsize _ ≤ 281
  omega
theorem seg_join {l : List Wrt} {d : Nat} {lo m : Str} {hi : Option Str} {a b : List Br} (ha : Seg l d lo (some m) a) (hb : Seg l d m hi b) :
  Seg l d lo hi (a ++ (m, (b.headD ([], 0)).2) :: b.tail) ∧ sprs l d (a ++ (m, (b.headD ([], 0)).2) :: b.tail) = sprs l d a ++ sprs l d b ∧ sids l d (a ++ (m, (b.headD ([], 0)).2) :: b.tail) = sids l d a ++ sids l d b := by
 cases b with
 | nil => exact hb.elim
 | cons x r =>
  refine ⟨?_, ?_, ?_⟩
  ·rw [seg_app ha.ne]
   exact ⟨ha, (seg_first (b := x) (c := (m, x.2)) rfl).1 hb⟩
  ·rw [sprs_app]; rfl
  ·rw [sids_app]; rfl
theorem split_at {α : Type} {bs : List α} {k : Nat} (h : k < bs.length) : bs = bs.take k ++ bs[k] :: bs.drop (k + 1) := by
 rw [← List.drop_eq_getElem_cons h, List.take_append_drop]
end Go.Proofs.YtgmkknonnidgaaaGreat

namespace Go.Proofs.YtgmkknonnidgaaaGreat
theorem bare_one {L : List Wrt} {d : Nat} {m : Nd} {lo : Str} {hi : Option Str} (h : NO L d m lo hi) (hb : bareB m = true) : ∃ e b, d = e + 1 ∧ m.kids.headD 0 = b ∧ brs m = [([], b)] ∧ TOk L e b lo hi ∧ nP L d m = pOf L e b ∧ nI L d m = idsOf L e b ∧ 1 ≤ b ∧ b ≤ 65536 := by
 unfold bareB at hb
 simp only [Bool.and_eq_true, Bool.not_eq_true', decide_eq_true_eq] at hb
 cases d with
 | zero => have := h.leaf; rw [hb.1] at this; simp at this
 | succ e =>
  obtain ⟨en, h1, h2, h3, h4⟩ := no_brs h
  have hk : m.keys = [] := List.eq_nil_of_length_eq_zero hb.2
  have e1 : brs m = [([], m.kids.headD 0)] := by unfold brs; rw [hk]; rfl
  rw [e1] at h1 h2 h3 h4
  refine ⟨e, _, rfl, rfl, e1, h2, ?_, ?_, (h1.2 _ (List.mem_cons_self ..))⟩
  ·rw [h3]; simp [sprs]
  ·rw [h4]; simp [sids]
theorem rplc_mid {P Y S now : List Br} {i j : Nat} (hi : P.length = i) (hj : P.length + Y.length = j) : rplc (P ++ Y ++ S) i j now = P ++ now ++ S := by
 subst hi hj
 unfold rplc
 congr 1
 ·congr 1
  rw [List.append_assoc, List.take_left' rfl]
 ·rw [List.drop_left' (by simp)]
theorem reb_ok {l : List Wrt} {next : Int} {key : Str} {upd : List Pr → List Pr} {ed : Nd → Nd} (hnl : ∀ id x, tpage l id = some x → id < next) (hn1 : 1 ≤ next) (hE : EdOk key upd ed) :
  ∀ (d : Nat) (n : Nd) (lo : Str) (hi : Option Str) (ad : List Nd), NO l d n lo hi → nsize n ≤ 244 → (d ≠ 0 → n.keys ≠ []) → kin lo hi key = true → (nI l d n).Nodup → next + ((rebOf l next key ed d n ad).2.length : Int) ≤ 65536 → Reb l next upd d n lo hi ad (rebOf l next key ed d n ad).1 (rebOf l next key ed d n ad).2
 | 0, n, lo, hi, ad, hN, hsz, _, hkin, _, _ => by
  obtain ⟨ps, rfl, hp, hin⟩ := hN
  obtain ⟨e, a1, a2, a3⟩ := hE.leaf ps hp hsz
  show Reb l next upd 0 (lf ps) lo hi ad (ed (lf ps)) ad
  rw [e]
  refine ⟨⟨[], by simp, fun x hx => by cases hx⟩, ⟨_, rfl, a1, fun y hy => ?_⟩, ?_, List.nodup_nil, (fun i hi9 => by cases hi9), a2⟩
  ·rcases a3 y hy with h | h
   ·exact hin y h
   ·rw [h]; exact hkin
  ·rw [nP, nP, npr_lf, npr_lf]
 | d + 1, n, lo, hi, ad, hN, hsz, hk0, hkin, hnod, hM => by
  have hkn := hk0 (by omega)
  have hok : NOk n := hN.ok hkn hsz
  obtain ⟨en, hb, hs, e1, e2⟩ := no_brs hN
  have hz := (ncheck_ok n).2 hok
  have hrise := (nkeys_to hok.1).1
  obtain ⟨k, f1, f2, f3, f4⟩ := nfnd_inner key n.keys hrise
  have hlf : n.leaf = false := by have := hN.leaf; simpa using this
  have hfk : (nfind n key).toNat = k := by unfold nfind; rw [if_pos hz, hlf, f1]; simp
  simp only [rebOf] at hM ⊢
  rw [hfk] at hM ⊢
  obtain ⟨bs, hbs⟩ : ∃ bs, bs = brs n := ⟨_, rfl⟩
  rw [← hbs] at hM hb hs e1 e2 en ⊢
  have hkl : k < bs.length := by rw [hbs]; unfold brs; have := kids_len hok hlf; simp only [List.length_cons, List.length_zip, List.length_tail]; omega
  have hkeys : n.keys = bs.tail.map (·.1) := by rw [en]; rfl
  have hkids : n.kids = bs.map (·.2) := by rw [en]; rfl
  have hkid : n.kids.getD k 0 = bs[k].2 := by rw [hkids]; simp [hkl]
  have hgk : bs.getD k ([], 0) = bs[k] := by simp [hkl]
  have hXX : ∀ j c, bs[j + 1]? = some c → n.keys[j]? = some c.1 := fun j c h => by rw [hkeys, List.getElem?_map, List.getElem?_tail, h]; rfl
  rw [hkid] at hM ⊢
  rw [hgk] at hM ⊢
  have eb := split_at hkl
  obtain ⟨X, hX⟩ : ∃ X, X = bs[k] := ⟨_, rfl⟩
  obtain ⟨P, hP⟩ : ∃ P, P = bs.take k := ⟨_, rfl⟩
  obtain ⟨S, hS⟩ : ∃ S, S = bs.drop (k + 1) := ⟨_, rfl⟩
  have hPl : P.length = k := by rw [hP, List.length_take]; omega
  rw [← hX, ← hP, ← hS] at eb
  rw [← hX] at hM ⊢
  have eb' : bs = P ++ [X] ++ S := by rw [eb]; simp
  have hbX : bs[k]? = some X := by rw [hX]; simp [hkl]
  have hn2 : 2 ≤ bs.length := by
   have : n.keys.length ≠ 0 := fun h => hkn (List.eq_nil_of_length_eq_zero h)
   rw [hkeys] at this; simp at this; omega
  clear hX hP hS hkl hgk hkid
  -- the order
  have hXk : P ≠ [] → slt key X.1 = false := fun hp => by
   have : k - 1 + 1 = k := by have : P.length ≠ 0 := fun h => hp (List.eq_nil_of_length_eq_zero h); omega
   exact f3 (k - 1) X.1 (by omega) (hXX _ _ (by rw [this]; exact hbX))
  have hSk : ∀ c r, S = c :: r → slt key c.1 = true := fun c r e => f4 k c.1 (Nat.le_refl _) (hXX k c (by rw [eb, e, List.getElem?_append_right (by omega), hPl]; simp))
  have hs3 := hs
  rw [eb', seg3] at hs3
  obtain ⟨s1, s2, s3⟩ := hs3
  have hA : ∀ y ∈ sprs l d P, slt y.1 key = true := fun y hy => by
   rcases s1 with rfl | s1
   ·simp [sprs] at hy
   ·have h9 := Seg.kin s1 y hy
    simp only [Go.Proofs.YtgmkknonnidgaaaGreat.kin, Bool.and_eq_true] at h9
    exact slt_lt_le h9.2 (hXk s1.ne)
  have hC : ∀ y ∈ sprs l d S, slt key y.1 = true := fun y hy => by
   rcases s3 with rfl | ⟨c, r, rfl, s3⟩
   ·simp [sprs] at hy
   ·have h9 := Seg.kin s3 y hy
    simp only [Go.Proofs.YtgmkknonnidgaaaGreat.kin, Bool.and_eq_true, Bool.not_eq_true'] at h9
    exact slt_lt_le (hSk c r rfl) h9.1
  have hkX : kin (loY P X.1 lo) (hiS S hi) key = true := by
   simp only [Go.Proofs.YtgmkknonnidgaaaGreat.kin, Bool.and_eq_true, Bool.not_eq_true'] at hkin ⊢
   refine ⟨?_, ?_⟩
   ·unfold loY
    split
    ·exact hkin.1
    ·exact hXk ‹_›
   ·cases S with
    | nil => exact hkin.2
    | cons c r => exact hSk c r rfl
  have hT : TOk l d X.2 (loY P X.1 lo) (hiS S hi) := s2
  obtain ⟨nd, hNd, hNO, ei, ep⟩ := tok_no hT
  rw [hNd.at] at hM ⊢
  have hndk : d ≠ 0 → nd.keys ≠ [] := fun h9 => by
   have hl9 : nd.leaf = false := by rw [hNO.leaf]; simpa using h9
   obtain ⟨a, b, c⟩ := inr_to hNd.ok hl9
   rw [a]
   intro h
   have h7 : (brs nd).tail.map (·.1) = [] := h
   exact c (List.map_eq_nil_iff.1 h7)
  have hth := hs.there hnl
  have hsid : sids l d bs = sids l d P ++ (X.2 :: nI l d nd) ++ sids l d S := by rw [eb', sids_app, sids_app]; simp [sids, ei]
  have hspr : sprs l d bs = sprs l d P ++ nP l d nd ++ sprs l d S := by rw [eb', sprs_app, sprs_app]; simp [sprs, ep]
  rw [e2] at hnod
  have hnod2 := hnod
  rw [hsid, List.nodup_append, List.nodup_append] at hnod2
  obtain ⟨⟨n1, n2, n3⟩, n4, n5⟩ := hnod2
  have hnn := (List.nodup_cons.1 n2).2
  have hthn : ∀ i ∈ nI l d nd, i < next := fun i h9 => hth i (by rw [hsid]; simp [h9])
  have ih := reb_ok hnl hn1 hE d nd (loY P X.1 lo) (hiS S hi) ad hNO hNd.ok.2.2.2.2 hndk hkX hnn
  obtain ⟨⟨m, ad1⟩, hp⟩ : ∃ p, p = rebOf l next key ed d nd ad := ⟨_, rfl⟩
  rw [← hp] at ih hM ⊢
  dsimp only at ih hM ⊢
  rw [en] at hsz
  have hupd : upd (sprs l d bs) = sprs l d P ++ upd (nP l d nd) ++ sprs l d S := by rw [hspr]; exact hE.loc _ _ _ hA hC
  by_cases hbare : bareB m = true
  ·rw [if_pos hbare] at hM ⊢
   dsimp only at hM ⊢
   have R := ih (by have := (laid_len next ad1 (joinOf l n (k - 1) k m) (bs.getD (k - 1) ([], 0)).1).1; omega)
   clear ih
   obtain ⟨e, b, rfl, hb0, hb1, hb2, hb3, hb4, hb5, hb6⟩ := bare_one R.no hbare
   have hx : Ext l (lp l next ad1) := ext_app _ _
   by_cases hk1 : k = 0
   ·-- joined with what lies behind it
    subst hk1
    have hP0 : P = [] := List.eq_nil_of_length_eq_zero hPl
    subst hP0
    cases S with
    | nil => rw [eb] at hn2; simp at hn2
    | cons c r =>
     have ebs : bs = [] ++ (X :: [c]) ++ r := by rw [eb]; rfl
     have hc1 : bs[1]? = some c := by rw [ebs]; rfl
     have hjn : joinOf l n (0 - 1) 0 m = inr ([([], b)] ++ (c.1, (nodeAt l c.2).kids.headD 0) :: (brs (nodeAt l c.2)).tail) := by
      unfold joinOf
      simp only [Nat.zero_sub, if_true, Nat.zero_add]
      have q1 : n.kids.getD 1 0 = c.2 := by rw [hkids, List.getD_eq_getElem?_getD, List.getElem?_map, hc1]; rfl
      have q2 : n.keys.getD 0 [] = c.1 := by rw [List.getD_eq_getElem?_getD, hXX 0 c hc1]; rfl
      rw [q1, q2, hb1]
     have hg0 : (bs.getD (0 - 1) ([], 0)).1 = X.1 := by rw [ebs]; rfl
     rw [hjn, hg0] at hM ⊢
     rcases s3 with s3 | ⟨c', r', e', s3⟩
     ·cases s3
     cases e'
     have hsc := s3
     rw [show c :: r = [] ++ (c :: []) ++ r from rfl, seg3] at hsc
     obtain ⟨_, hTc, _⟩ := hsc
     obtain ⟨ndc, hNc, hlc, sgc, idc, pc⟩ := tok_seg (l := l) (d := e) (id := c.2) hTc
     rw [hNc.at] at hM ⊢
     obtain ⟨g1, g2, g3⟩ := inr_to hNc.ok hlc
     have hrpl : rplc bs (0 - 1) (0 - 1 + 2) (laidOf next ad1 (inr ([([], b)] ++ (c.1, ndc.kids.headD 0) :: (brs ndc).tail)) X.1).1 = [] ++ (laidOf next ad1 (inr ([([], b)] ++ (c.1, ndc.kids.headD 0) :: (brs ndc).tail)) X.1).1 ++ r := by
      rw [ebs]; exact rplc_mid rfl rfl
     rw [hrpl]
     have hlo : loY ([] : List Br) c.1 c.1 = c.1 := rfl
     rw [hlo] at sgc
     have hb2' : Seg (lp l next ad1) e lo (some c.1) [([], b)] := hb2
     obtain ⟨j1, j2, j3⟩ := seg_join hb2' (sgc.ext hx)
     have hhd : ((brs ndc).headD ([], 0)).2 = ndc.kids.headD 0 := rfl
     rw [hhd] at j1 j2 j3
     have ec := seg_ext hx sgc.each
     have hnI : nI (lp l next ad1) (e + 1) (inr ([([], b)] ++ (c.1, ndc.kids.headD 0) :: (brs ndc).tail)) = nI (lp l next ad1) (e + 1) m ++ sids l e (brs ndc) := by
      rw [nI, sids_inr, j3, ec.2, hb4]; simp [sids]
     have hnP : nP (lp l next ad1) (e + 1) (inr ([([], b)] ++ (c.1, ndc.kids.headD 0) :: (brs ndc).tail)) = nP (lp l next ad1) (e + 1) m ++ pOf l (e + 1) c.2 := by
      rw [nP, sprs_inr, j2, ec.1, hb3, pc]; simp [sprs]
     have hcb : 1 ≤ c.1.length ∧ c.1.length ≤ 32 := hb.1 c (by rw [ebs]; simp)
     have hcs : sids l e (brs ndc) = (idsOf l (e + 1) c.2).tail := by rw [idc]; rfl
     have hcin : ∀ i ∈ sids l e (brs ndc), i ∈ sids l (e + 1) (c :: r) := fun i h9 => by
      simp only [sids, List.flatMap_cons, List.mem_append]; exact .inl (by rw [idc]; exact List.mem_cons_of_mem _ h9)
     rw [en, ebs]
     rw [ebs] at hs hb hsz hnod hupd
     refine reb_fin hnl hn1 hs hb hsz hnod R.more ⟨_, rfl, ⟨fun x hx9 => ?_, fun x hx9 => ?_⟩, j1⟩ ?_ (.inr ?_) ?_ ?_ (.inr ?_) ?_ hM
     ·simp only [List.cons_append, List.nil_append, List.tail_cons, List.mem_cons] at hx9
      rcases hx9 with rfl | hx9
      ·exact hcb
      ·exact g2.1 x hx9
     ·simp only [List.cons_append, List.nil_append, List.mem_cons] at hx9
      rcases hx9 with rfl | rfl | hx9
      ·exact ⟨hb5, hb6⟩
      ·exact g2.2 ([], ndc.kids.headD 0) (by unfold brs; simp)
      ·exact g2.2 x (List.mem_of_mem_tail hx9)
     ·show nsize _ ≤ 281
      rw [List.cons_append, List.nil_append, nsize_tail (by simp)]
      have h7 := hNc.ok.2.2.2.2
      rw [g1, nsize_tail (by unfold brs; simp)] at h7
      simp only [List.tail_cons, tw, List.map_cons, List.sum_cons, bw] at h7 ⊢
      push_cast
      omega
     ·simp [inr]
     ·rw [hnI, List.nodup_append]
      refine ⟨R.nod, ?_, fun a ha q hq e9 => ?_⟩
      ·have h8 := n4
       simp only [sids, List.flatMap_cons] at h8
       rw [hcs]
       have := (List.nodup_append.1 h8).1
       exact this.sublist (List.tail_sublist _)
      ·subst e9
       have hq2 := hcin a hq
       rcases R.ids a ha with h8 | h8
       ·exact n5 a (by simp [h8]) a hq2 rfl
       ·have := hth a (by rw [hsid]; simp [hq2]); omega
     ·intro i hi9
      rw [hnI] at hi9
      rcases List.mem_append.1 hi9 with h8 | h8
      ·rcases R.ids i h8 with h8 | h8
       ·refine .inl ?_
        simp only [sids, List.flatMap_cons, List.mem_append]
        exact .inl (by rw [ei]; exact List.mem_cons_of_mem _ h8)
       ·exact .inr h8
      ·refine .inl ?_
       simp only [sids, List.flatMap_cons, List.flatMap_nil, List.append_nil, List.mem_append]
       exact .inr (by rw [idc]; exact List.mem_cons_of_mem _ h8)
     ·simp [inr]
     ·rw [hupd, hnP, R.prs]
      simp [sprs]
   ·-- joined with what lies ahead of it
    obtain ⟨P', c, rfl⟩ : ∃ P' c, P = P' ++ [c] := by
     rcases List.eq_nil_or_concat P with h | ⟨P', c, h⟩
     ·subst h; simp at hPl; omega
     ·exact ⟨P', c, by simpa using h⟩
    have hPl' : P'.length = k - 1 := by simp at hPl; omega
    have ebs : bs = P' ++ (c :: [X]) ++ S := by rw [eb]; simp
    have hc1 : bs[k - 1]? = some c := by rw [ebs, List.append_assoc, List.getElem?_append_right (by omega), hPl']; simp
    have hk2 : k - 1 + 1 = k := by omega
    have hjn : joinOf l n (k - 1) k m = inr (brs (nodeAt l c.2) ++ [(X.1, b)]) := by
     unfold joinOf
     rw [if_neg (by omega), if_neg (by omega)]
     have q1 : n.kids.getD (k - 1) 0 = c.2 := by rw [hkids, List.getD_eq_getElem?_getD, List.getElem?_map, hc1]; rfl
     have q2 : n.keys.getD (k - 1) [] = X.1 := by rw [List.getD_eq_getElem?_getD, hXX (k - 1) X (by rw [hk2]; exact hbX)]; rfl
     rw [q1, q2, hb1, hb0]; rfl
    have hg0 : (bs.getD (k - 1) ([], 0)).1 = c.1 := by rw [List.getD_eq_getElem?_getD, hc1]; rfl
    rw [hjn, hg0] at hM ⊢
    rcases s1 with s1 | s1
    ·simp at s1
    have hsc := s1
    rw [show P' ++ [c] = P' ++ (c :: []) ++ [] by simp, seg3] at hsc
    obtain ⟨_, hTc, _⟩ := hsc
    obtain ⟨ndc, hNc, hlc, sgc, idc, pc⟩ := tok_seg (l := l) (d := e) (id := c.2) hTc
    rw [hNc.at] at hM ⊢
    obtain ⟨g1, g2, g3⟩ := inr_to hNc.ok hlc
    have hrpl : rplc bs (k - 1) (k - 1 + 2) (laidOf next ad1 (inr (brs ndc ++ [(X.1, b)])) c.1).1 = P' ++ (laidOf next ad1 (inr (brs ndc ++ [(X.1, b)])) c.1).1 ++ S := by
     rw [ebs]; exact rplc_mid hPl' (by rw [hPl']; rfl)
    rw [hrpl]
    have hlX : loY (P' ++ [c]) X.1 lo = X.1 := by simp [loY]
    rw [hlX] at hb2
    have hb2' : Seg (lp l next ad1) e X.1 (hiS S hi) [([], b)] := hb2
    have hhi : hiS ([] : List Br) (some X.1) = some X.1 := rfl
    rw [hhi] at sgc
    obtain ⟨j1, j2, j3⟩ := seg_join (sgc.ext hx) hb2'
    have hhd : ((brs ndc) ++ (X.1, (([([], b)] : List Br).headD ([], 0)).2) :: ([([], b)] : List Br).tail) = brs ndc ++ [(X.1, b)] := rfl
    rw [hhd] at j1 j2 j3
    have ec := seg_ext hx sgc.each
    have hnI : nI (lp l next ad1) (e + 1) (inr (brs ndc ++ [(X.1, b)])) = sids l e (brs ndc) ++ nI (lp l next ad1) (e + 1) m := by
     rw [nI, sids_inr, j3, ec.2, hb4]; simp [sids]
    have hnP : nP (lp l next ad1) (e + 1) (inr (brs ndc ++ [(X.1, b)])) = pOf l (e + 1) c.2 ++ nP (lp l next ad1) (e + 1) m := by
     rw [nP, sprs_inr, j2, ec.1, hb3, pc]; simp [sprs]
    have hXb : 1 ≤ X.1.length ∧ X.1.length ≤ 32 := hb.1 X (by rw [ebs]; cases P' <;> simp)
    have hcs : sids l e (brs ndc) = (idsOf l (e + 1) c.2).tail := by rw [idc]; rfl
    have hcin : ∀ i ∈ sids l e (brs ndc), i ∈ sids l (e + 1) (P' ++ [c]) := fun i h9 => by
     rw [sids_app]
     simp only [sids, List.flatMap_cons, List.flatMap_nil, List.append_nil, List.mem_append]; exact .inr (by rw [idc]; exact List.mem_cons_of_mem _ h9)
    rw [en, ebs]
    rw [ebs] at hs hb hsz hnod hupd
    refine reb_fin hnl hn1 hs hb hsz hnod R.more ⟨_, rfl, ⟨fun x hx9 => ?_, fun x hx9 => ?_⟩, j1⟩ ?_ (.inr ?_) ?_ ?_ (.inr ?_) ?_ hM
    ·have hx8 : x ∈ (brs ndc).tail ∨ x = (X.1, b) := by
      unfold brs at hx9 ⊢
      simpa using hx9
     rcases hx8 with hx8 | rfl
     ·exact g2.1 x hx8
     ·exact hXb
    ·rcases List.mem_append.1 hx9 with hx9 | hx9
     ·exact g2.2 x hx9
     ·simp only [List.mem_singleton] at hx9
      subst hx9
      exact ⟨hb5, hb6⟩
    ·show nsize _ ≤ 281
     rw [nsize_tail (by simp)]
     have h7 := hNc.ok.2.2.2.2
     rw [g1, nsize_tail (by unfold brs; simp)] at h7
     have h6 : (brs ndc ++ [(X.1, b)]).tail = (brs ndc).tail ++ [(X.1, b)] := by unfold brs; simp
     rw [h6, tw_app]
     simp only [tw, List.map_cons, List.map_nil, List.sum_cons, List.sum_nil, bw] at h7 ⊢
     push_cast
     omega
    ·unfold brs; simp [inr]
    ·rw [hnI, List.nodup_append]
     refine ⟨?_, R.nod, fun a ha q hq e9 => ?_⟩
     ·have h8 := n1
      rw [sids_app] at h8
      simp only [sids, List.flatMap_cons, List.flatMap_nil, List.append_nil] at h8
      rw [hcs]
      have := (List.nodup_append.1 h8).2.1
      exact this.sublist (List.tail_sublist _)
     ·subst e9
      have hq2 := hcin a ha
      rcases R.ids a hq with h8 | h8
      ·exact n3 a hq2 a (by simp [h8]) rfl
      ·have := hth a (by rw [hsid]; simp [hq2]); omega
    ·intro i hi9
     rw [hnI] at hi9
     simp only [sids, List.flatMap_cons, List.flatMap_nil, List.append_nil, List.mem_append]
     rcases List.mem_append.1 hi9 with h8 | h8
     ·exact .inl (.inl (by rw [idc]; exact List.mem_cons_of_mem _ h8))
     ·rcases R.ids i h8 with h8 | h8
      ·exact .inl (.inr (by rw [ei]; exact List.mem_cons_of_mem _ h8))
      ·exact .inr h8
    ·unfold brs; simp [inr]
    ·rw [hupd, hnP, R.prs, sprs_app]
     simp [sprs]
  ·rw [if_neg hbare] at hM ⊢
   dsimp only at hM ⊢
   have R := ih (by have := (laid_len next ad1 m X.1).1; omega)
   have hrpl : rplc bs k (k + 1) (laidOf next ad1 m X.1).1 = P ++ (laidOf next ad1 m X.1).1 ++ S := by
    rw [eb']; exact rplc_mid hPl (by rw [hPl]; rfl)
   rw [hrpl]
   have hPS : P ++ S ≠ [] := fun h => by
    obtain ⟨h8, h9⟩ := List.append_eq_nil_iff.1 h
    rw [eb', h8, h9] at hn2
    simp at hn2
   rw [en, eb']
   rw [eb'] at hs hb hsz hnod hupd
   refine reb_fin hnl hn1 hs hb hsz hnod R.more R.no R.siz ?_ R.nod (fun i hi9 => ?_) (.inl hPS) ?_ hM
   ·unfold bareB at hbare
    cases hml : m.leaf with
    | true => exact .inl rfl
    | false => exact .inr fun h => by rw [hml, h] at hbare; simp at hbare
   ·rcases R.ids i hi9 with h8 | h8
    ·refine .inl ?_
     simp only [sids, List.flatMap_cons, List.flatMap_nil, List.append_nil]
     rw [ei]; exact List.mem_cons_of_mem _ h8
    ·exact .inr h8
   ·rw [hupd, R.prs]
end Go.Proofs.YtgmkknonnidgaaaGreat

namespace Go.Proofs.YtgmkknonnidgaaaGreat
def rootOf (next : Int) (ad : List Nd) (top : Nd) : Int × List Nd :=
 if bareB top = true then (top.kids.headD 0, ad)
 else match (laidOf next ad top []).1 with
  | [] => (0, (laidOf next ad top []).2)
  | [b] => (b.2, (laidOf next ad top []).2)
  | b :: c :: r => (next + ((laidOf next ad top []).2.length : Int), (laidOf next ad top []).2 ++ [inr (b :: c :: r)])
def topOf (t : Tr) : Nd := if t.root = 0 then lf [] else nodeAt t.pages t.root
def chgR (t : Tr) (key : Str) (ed : Nd → Nd) (d : Nat) : Int × List Nd := rootOf t.next (rebOf t.pages t.next key ed d (topOf t) []).2 (rebOf t.pages t.next key ed d (topOf t) []).1
def chgT (t : Tr) (key : Str) (ed : Nd → Nd) (d : Nat) : Tr := ⟨(chgR t key ed d).1, t.next + ((chgR t key ed d).2.length : Int), t.pages ++ pgs t.next (chgR t key ed d).2⟩
theorem root_len (next : Int) (ad : List Nd) (top : Nd) : ad.length ≤ (rootOf next ad top).2.length ∧ (rootOf next ad top).2.length ≤ ad.length + 3 := by
 have h := laid_len next ad top []
 unfold rootOf
 split
 ·exact ⟨Nat.le_refl _, by simp⟩
 ·split <;> simp <;> omega
def TTop (t : Tr) (d : Nat) (ps : List Pr) : Prop := (t.root = 0 ∧ d = 0 ∧ ps = []) ∨ (t.root ≠ 0 ∧ d ≤ 15 ∧ TOk t.pages d t.root [] none ∧ (idsOf t.pages d t.root).Nodup ∧ ps = pOf t.pages d t.root)
theorem ttop_of {t : Tr} {s : Sw} (h : twalk t = some s) : ∃ d, TTop t d s.prs := by
 unfold twalk at h
 split at h
 ·rename_i h0
  have : s = ⟨[], none, []⟩ := (Option.some.inj h).symm
  subst this
  exact ⟨0, .inl ⟨h0, rfl, rfl⟩⟩
 ·rename_i h0
  obtain ⟨e, d, h1, h2, h3, h4, h5, h6, h7, h8⟩ := wk_tok 16 t.root [] none _ s h
  exact ⟨d, .inr ⟨h0, by omega, h4, h6, by simpa using h8⟩⟩
theorem ttop_to {t : Tr} {d : Nat} {ps : List Pr} (h : TTop t d ps) : ∃ s, twalk t = some s ∧ s.prs = ps := by
 unfold twalk
 rcases h with ⟨h0, _, rfl⟩ | ⟨h0, hd, h1, h2, rfl⟩
 ·rw [if_pos h0]; exact ⟨_, rfl, rfl⟩
 ·rw [if_neg h0]
  have := wk_of (l := t.pages) (e := 15 - d) d t.root [] none ⟨[], none, []⟩ h1 h2 (fun i _ => by simp) (.inl rfl)
  rw [show 15 - d + 1 + d = 16 by omega] at this
  exact ⟨_, this, by simp⟩
theorem ttop_deep {t : Tr} {d : Nat} {ps : List Pr} (h : TTop t d ps) (hl : ps.length ≤ 4096) : d ≤ 12 := by
 rcases h with ⟨_, rfl, _⟩ | ⟨h0, hd, h1, h2, rfl⟩
 ·omega
 ·have h3 := h1.many
  have h4 : 2 ^ d ≤ 2 ^ 12 := by omega
  exact (Nat.pow_le_pow_iff_right (by omega)).1 h4
theorem kin_all (k : Str) : kin [] none k = true := by simp [kin, slt_nil]
theorem top_no {t : Tr} {d : Nat} {ps : List Pr} (h : TTop t d ps) : NO t.pages d (topOf t) [] none ∧ nsize (topOf t) ≤ 244 ∧ (d ≠ 0 → (topOf t).keys ≠ []) ∧ (nI t.pages d (topOf t)).Nodup ∧ nP t.pages d (topOf t) = ps := by
 unfold topOf
 rcases h with ⟨h0, rfl, rfl⟩ | ⟨h0, hd, h1, h2, rfl⟩
 ·rw [if_pos h0]
  refine ⟨⟨[], rfl, ⟨List.Pairwise.nil, (fun y hy => by cases hy)⟩, (fun y hy => by cases hy)⟩, by rw [nsize_lf]; simp, fun h => absurd rfl h, List.nodup_nil, rfl⟩
 ·rw [if_neg h0]
  obtain ⟨nd, hN, h3, h4, h5⟩ := tok_no h1
  rw [hN.at]
  refine ⟨h3, hN.ok.2.2.2.2, fun h9 => ?_, ?_, h5.symm⟩
  ·have hl9 : nd.leaf = false := by rw [h3.leaf]; simpa using h9
   obtain ⟨a, b, c⟩ := inr_to hN.ok hl9
   rw [a]
   intro h
   have h7 : (brs nd).tail.map (·.1) = [] := h
   exact c (List.map_eq_nil_iff.1 h7)
  ·rw [h4] at h2; exact (List.nodup_cons.1 h2).2
theorem TOk.is {l : List Wrt} {d : Nat} {id : Int} {lo : Str} {hi : Option Str} (h : TOk l d id lo hi) : tpage l id ≠ none := by
 obtain ⟨nd, ⟨x, hx, _⟩, _⟩ := tok_no h
 rw [hx]; simp
theorem tid_pgs : ∀ {z : Int} {ad : List Nd} {i : Nat}, i < ad.length → tid (pgs z ad) i = z + i
 | z, [], i, h => by simp at h
 | z, n :: r, 0, h => by simp [pgs, tid]
 | z, n :: r, i + 1, h => by
  have ih := tid_pgs (z := z + 1) (ad := r) (i := i) (by simpa using h)
  have : tid (pgs z (n :: r)) (i + 1) = tid (pgs (z + 1) r) i := by simp [pgs, tid]
  rw [this, ih]; push_cast; omega
theorem tid_app1 {a b : List Wrt} {i : Nat} (h : i < a.length) : tid (a ++ b) i = tid a i := by unfold tid; rw [List.getElem?_append_left h]
theorem tid_app2 {a b : List Wrt} {i : Nat} : tid (a ++ b) (a.length + i) = tid b i := by unfold tid; rw [List.getElem?_append_right (by omega)]; congr 3; omega
theorem tups_more {next : Int} {l : List Wrt} (h : tups next l l.length) (h1 : 1 ≤ next) (ad : List Nd) : tups (next + ad.length) (l ++ pgs next ad) (l ++ pgs next ad).length := by
 intro i hi
 rw [List.length_append, pgs_len] at hi
 by_cases hl : i < l.length
 ·rw [tid_app1 hl]
  obtain ⟨a, b⟩ := h i hl
  refine ⟨?_, by omega⟩
  by_cases e : i = 0
  ·rw [if_pos e] at a ⊢; exact a
  ·rw [if_neg e] at a ⊢
   rw [tid_app1 (by omega)]; exact a
 ·obtain ⟨j, rfl⟩ : ∃ j, i = l.length + j := ⟨i - l.length, by omega⟩
  rw [tid_app2, tid_pgs (by omega)]
  refine ⟨?_, by omega⟩
  by_cases e : l.length + j = 0
  ·rw [if_pos e]; omega
  ·rw [if_neg e]
   by_cases hj : j = 0
   ·subst hj
    rw [Nat.add_zero, tid_app1 (by omega)]
    have := (h (l.length - 1) (by omega)).2
    omega
   ·rw [show l.length + j - 1 = l.length + (j - 1) by omega, tid_app2, tid_pgs (by omega)]
    omega
theorem chg_ok {t : Tr} {d : Nat} {ps : List Pr} {key : Str} {upd : List Pr → List Pr} {ed : Nd → Nd} (hT : TNum t) (h : TTop t d ps) (hps : ps.length ≤ 4096) (hE : EdOk key upd ed) (hM : t.next + ((chgR t key ed d).2.length : Int) ≤ 65536) :
  (∀ x ∈ (chgR t key ed d).2, NOk x) ∧ (chgR t key ed d).2.length ≤ 2 * d + 3 ∧ TNum (chgT t key ed d) ∧ ∃ d', TTop (chgT t key ed d) d' (upd ps) := by
 have hnl : ∀ id x, tpage t.pages id = some x → id < t.next := fun id x h9 => (tpage_bd hT.2.2.1 h9).2
 obtain ⟨q1, q2, q3, q4, q5⟩ := top_no h
 have hd := ttop_deep h hps
 have hl1 := reb_len t.pages t.next key ed d (topOf t) []
 have R := reb_ok hnl hT.1 hE d (topOf t) [] none [] q1 q2 q3 (kin_all key) q4
 unfold chgT
 unfold chgR at hM ⊢
 obtain ⟨⟨top, ad⟩, hp⟩ : ∃ p, p = rebOf t.pages t.next key ed d (topOf t) [] := ⟨_, rfl⟩
 rw [← hp] at hM R hl1 ⊢
 dsimp only at hM R hl1 ⊢
 have hl2 := root_len t.next ad top
 replace R := R (by omega)
 obtain ⟨more, e1, hmok⟩ := R.more
 rw [List.nil_append] at e1
 subst e1
 have hups : ∀ ad9 : List Nd, t.next + (ad9.length : Int) ≤ 65536 → ∀ r, (r = 0 ∨ tpage (t.pages ++ pgs t.next ad9) r ≠ none) → TNum ⟨r, t.next + (ad9.length : Int), t.pages ++ pgs t.next ad9⟩ := fun ad9 h9 r hr => ⟨by have := hT.1; dsimp only; omega, h9, tups_more hT.2.2.1 hT.1 ad9, hr⟩
 have hlenr : (rootOf t.next ad top).2.length ≤ 2 * d + 3 := by simp only [List.length_nil] at hl1; omega
 have hold : ∀ i ∈ nI (lp t.pages t.next ad) d top, i < t.next + (ad.length : Int) := fun i hi => by
  rcases R.ids i hi with h8 | h8
  ·have hth : ∀ i ∈ nI t.pages d (topOf t), i < t.next := by
    cases d with
    | zero => intro i hi; cases hi
    | succ d =>
     obtain ⟨en, hb, hs, e1, e2⟩ := no_brs q1
     rw [e2]; exact hs.there hnl
   have := hth i h8; omega
  ·omega
 by_cases hb : bareB top = true
 ·have er : rootOf t.next ad top = (top.kids.headD 0, ad) := by unfold rootOf; rw [if_pos hb]
  rw [er] at hM hlenr ⊢
  dsimp only at hM hlenr ⊢
  obtain ⟨e, b, rfl, hb0, hb1, hb2, hb3, hb4, hb5, hb6⟩ := bare_one R.no hb
  rw [hb0]
  refine ⟨hmok, hlenr, hups ad hM b (.inr hb2.is), e, .inr ⟨?_, by omega, hb2, ?_, ?_⟩⟩
  ·show b ≠ 0; omega
  ·show (idsOf (lp t.pages t.next ad) e b).Nodup
   rw [← hb4]; exact R.nod
  ·show upd ps = pOf (lp t.pages t.next ad) e b
   rw [← hb3, R.prs, q5]
 ·have hnb : top.leaf = true ∨ top.keys ≠ [] := by
   unfold bareB at hb
   cases hml : top.leaf with
   | true => exact .inl rfl
   | false => exact .inr fun h => by rw [hml, h] at hb; simp at hb
  have er : rootOf t.next ad top = match (laidOf t.next ad top []).1 with
   | [] => (0, (laidOf t.next ad top []).2)
   | [b] => (b.2, (laidOf t.next ad top []).2)
   | b :: c :: r => (t.next + ((laidOf t.next ad top []).2.length : Int), (laidOf t.next ad top []).2 ++ [inr (b :: c :: r)]) := by unfold rootOf; rw [if_neg hb]
  have La := laid_ok (ahead := []) hnl hT.1 R.no R.siz R.nod hold
  rw [er] at hM hlenr hl2 ⊢
  obtain ⟨⟨bs, ad2⟩, hq⟩ : ∃ q, q = laidOf t.next ad top [] := ⟨_, rfl⟩
  rw [← hq] at hM La hlenr hl2 ⊢
  dsimp only at hM La hlenr hl2 ⊢
  have hprs : nP (lp t.pages t.next ad) d top = upd ps := by rw [R.prs, q5]
  rw [hprs.symm]
  match bs, hM, La, hlenr, hl2 with
  | [], hM, La, hlenr, hl2 =>
   dsimp only at hM hlenr ⊢
   have L := La hM hnb
   obtain ⟨m2, rfl, _, hok2⟩ := L.more
   refine ⟨fun x hx => ?_, hlenr, hups _ hM 0 (.inl rfl), 0, .inl ⟨rfl, rfl, ?_⟩⟩
   ·rcases List.mem_append.1 hx with h9 | h9
    ·exact hmok x h9
    ·exact hok2 x h9
   ·rw [← L.prs]; rfl
  | [b], hM, La, hlenr, hl2 =>
   dsimp only at hM hlenr ⊢
   have L := La hM hnb
   obtain ⟨m2, rfl, _, hok2⟩ := L.more
   have hs : TOk (lp t.pages t.next (ad ++ m2)) d b.2 [] none := by
    rcases L.seg with h9 | ⟨k, r, e, h9⟩
    ·cases h9.1
    ·exact h9
   have hb9 := L.br.2 b (List.mem_cons_self ..)
   have hn9 := L.nod
   have hp9 := L.prs
   simp only [sids, sprs, List.flatMap_cons, List.flatMap_nil, List.append_nil] at hn9 hp9
   refine ⟨fun x hx => ?_, hlenr, hups _ hM b.2 (.inr hs.is), d, .inr ⟨?_, by omega, hs, hn9, hp9.symm⟩⟩
   ·rcases List.mem_append.1 hx with h9 | h9
    ·exact hmok x h9
    ·exact hok2 x h9
   ·show b.2 ≠ 0; omega
  | b :: c :: r, hM, La, hlenr, hl2 =>
   dsimp only at hM hlenr ⊢
   have hM2 : t.next + (ad2.length : Int) + 1 ≤ 65536 := by simp at hM; omega
   have L := La (by omega) hnb
   obtain ⟨m2, rfl, _, hok2⟩ := L.more
   have hr : r = [] := by have := L.len; simp at this; exact this
   subst hr
   have hs : Seg (lp t.pages t.next (ad ++ m2)) d [] none [b, c] := by
    rcases L.seg with h9 | ⟨k, r, e, h9⟩
    ·cases h9.1
    ·exact h9
   have hc := L.br.1 c (by simp)
   have hok : NOk (inr [b, c]) := inr_ok hs.keys.1 L.br (by simp) (by rw [nsize_inr]; simp [bw]; omega)
   have hx := ext_more t.pages t.next (ad ++ m2) [inr [b, c]]
   have his : NdIs (lp t.pages t.next (ad ++ m2 ++ [inr [b, c]])) (t.next + ((ad ++ m2).length : Int)) (inr [b, c]) := new_is hnl hok
   obtain ⟨t1, t2, t3⟩ := seg_tok his (hs.ext hx)
   have es := seg_ext hx hs.each
   rw [es.1, L.prs] at t3
   rw [es.2] at t2
   refine ⟨fun x hx => ?_, hlenr, hups _ hM _ (.inr t1.is), d + 1, .inr ⟨?_, by omega, t1, ?_, t3.symm⟩⟩
   ·simp only [List.mem_append, List.mem_singleton] at hx
    rcases hx with (h9 | h9) | h9
    ·exact hmok x h9
    ·exact hok2 x h9
    ·subst h9; exact hok
   ·have := hT.1
    dsimp only; omega
   ·dsimp only
    rw [t2, List.nodup_cons]
    refine ⟨fun h9 => ?_, L.nod⟩
    rcases L.ids _ h9 with h8 | h8
    ·have := hold _ h8
     simp only [List.length_append] at this
     omega
    ·omega
end Go.Proofs.YtgmkknonnidgaaaGreat

namespace Go.Proofs.YtgmkknonnidgaaaGreat
def pins (key v : Str) (ps : List Pr) : List Pr := ps.filter (fun y => slt y.1 key) ++ (key, v) :: ps.filter (fun y => slt key y.1)
def pdel (key : Str) (ps : List Pr) : List Pr := ps.filter (fun y => !(y.1 == key))
def edPut (key v : Str) (n : Nd) : Nd :=
 if nhas n key = true then ⟨n.leaf, n.keys, n.vals.set (nfind n key).toNat v, n.kids⟩
 else ⟨n.leaf, n.keys.take (nfind n key).toNat ++ key :: n.keys.drop (nfind n key).toNat, n.vals.take (nfind n key).toNat ++ v :: n.vals.drop (nfind n key).toNat, n.kids⟩
def edDel (key : Str) (n : Nd) : Nd :=
 if nhas n key = true then ⟨n.leaf, n.keys.take (nfind n key).toNat ++ n.keys.drop ((nfind n key).toNat + 1), n.vals.take (nfind n key).toNat ++ n.vals.drop ((nfind n key).toNat + 1), n.kids⟩
 else n
theorem filter_all {α : Type} {p : α → Bool} {l : List α} (h : ∀ y ∈ l, p y = true) : l.filter p = l := List.filter_eq_self.2 h
theorem filter_none {α : Type} {p : α → Bool} {l : List α} (h : ∀ y ∈ l, p y = false) : l.filter p = [] := List.filter_eq_nil_iff.2 fun y hy => by rw [h y hy]; simp
theorem leaf_at {ps : List Pr} (hp : PrOk ps) (hs : nsize (lf ps) ≤ 244) (key : Str) : ∃ A C : List Pr, (nfind (lf ps) key).toNat = A.length ∧ nfind (lf ps) key = (A.length : Int) ∧ (∀ y ∈ A, slt y.1 key = true) ∧ (∀ y ∈ C, slt key y.1 = true) ∧
  ((nhas (lf ps) key = true ∧ ∃ v, ps = A ++ (key, v) :: C) ∨ (nhas (lf ps) key = false ∧ ps = A ++ C)) := by
 have hok := lf_ok hp hs
 have hz := (ncheck_ok _).2 hok
 obtain ⟨i, a1, a2, a3, a4, a5⟩ := nfnd_leaf key (lf ps).keys hp.1
 have hf : nfind (lf ps) key = (i : Int) := by unfold nfind; rw [if_pos hz]; exact a1
 have hh : nhas (lf ps) key = nis key (lf ps).keys := by unfold nhas; rw [if_pos hz]
 have hil : i ≤ ps.length := by simpa [lf] using a2
 have hA : ∀ y ∈ ps.take i, slt y.1 key = true := fun y hy => by
  obtain ⟨j, hj, e⟩ := List.getElem_of_mem hy
  have hj' : j < i := by simp at hj; omega
  have hj2 : j < ps.length := by omega
  refine a4 j y.1 hj' ?_
  rw [List.getElem_take] at e
  simp [lf, hj2, e]
 have hge : ∀ y ∈ ps.drop i, slt y.1 key = false := fun y hy => by
  obtain ⟨j, hj, e⟩ := List.getElem_of_mem hy
  have hj2 : i + j < ps.length := by simp at hj; omega
  refine a5 (i + j) y.1 (by omega) ?_
  rw [List.getElem_drop] at e
  simp [lf, hj2, e]
 cases hn : nis key (lf ps).keys with
 | true =>
  have hk := a3 hn
  have hlt : i < ps.length := by
   have := (List.getElem?_eq_some_iff.1 hk).1
   simpa [lf] using this
  have e : ps = ps.take i ++ ps[i] :: ps.drop (i + 1) := by rw [← List.drop_eq_getElem_cons hlt, List.take_append_drop]
  have hk1 : ps[i].1 = key := by simpa [lf, hlt] using hk
  have hr : Rise (ps.map (·.1)) := hp.1
  refine ⟨ps.take i, ps.drop (i + 1), by rw [hf, List.length_take]; omega, by rw [hf, List.length_take]; congr 1; omega, hA, fun y hy => ?_, .inl ⟨by rw [hh, hn], ps[i].2, ?_⟩⟩
  ·rw [e, List.map_append, List.map_cons] at hr
   have := (List.pairwise_cons.1 (List.pairwise_append.1 hr).2.1).1 y.1 (List.mem_map.2 ⟨y, hy, rfl⟩)
   rw [hk1] at this; exact this
  ·rw [← hk1]; exact e
 | false =>
  refine ⟨ps.take i, ps.drop i, by rw [hf, List.length_take]; omega, by rw [hf, List.length_take]; congr 1; omega, hA, fun y hy => ?_, .inr ⟨by rw [hh, hn], (List.take_append_drop i ps).symm⟩⟩
  rcases slt_tot y.1 key with h | h | h
  ·rw [hge y hy] at h; cases h
  ·exfalso
   have : nis key (lf ps).keys = true := by
    unfold nis
    exact List.any_eq_true.2 ⟨y.1, List.mem_map.2 ⟨y, List.mem_of_mem_drop hy, rfl⟩, by simp [h]⟩
   rw [hn] at this; cases this
  ·exact h
theorem pins_at {key v : Str} {A C : List Pr} (hA : ∀ y ∈ A, slt y.1 key = true) (hC : ∀ y ∈ C, slt key y.1 = true) : pins key v (A ++ C) = A ++ (key, v) :: C ∧ ∀ u, pins key v (A ++ (key, u) :: C) = A ++ (key, v) :: C := by
 have h1 := filter_all hA
 have h2 : A.filter (fun y => slt key y.1) = [] := filter_none fun y hy => slt_asym (hA y hy)
 have h3 := filter_all hC
 have h4 : C.filter (fun y => slt y.1 key) = [] := filter_none fun y hy => slt_asym (hC y hy)
 refine ⟨?_, fun u => ?_⟩
 ·unfold pins
  rw [List.filter_append, List.filter_append, h1, h2, h3, h4]; simp
 ·unfold pins
  simp only [List.filter_append, List.filter_cons, slt_irr, h1, h2, h3, h4]
  simp
theorem pdel_at {key : Str} {A C : List Pr} (hA : ∀ y ∈ A, slt y.1 key = true) (hC : ∀ y ∈ C, slt key y.1 = true) : pdel key (A ++ C) = A ++ C ∧ ∀ u, pdel key (A ++ (key, u) :: C) = A ++ C := by
 have h1 : A.filter (fun y => !(y.1 == key)) = A := filter_all fun y hy => by rw [slt_ne (hA y hy)]; rfl
 have h3 : C.filter (fun y => !(y.1 == key)) = C := filter_all fun y hy => by rw [slt_ne' (hC y hy)]; rfl
 refine ⟨?_, fun u => ?_⟩
 ·unfold pdel; rw [List.filter_append, h1, h3]
 ·unfold pdel; rw [List.filter_append, List.filter_cons, h1, h3]; simp
theorem pins_loc (key v : Str) (A X C : List Pr) (hA : ∀ y ∈ A, slt y.1 key = true) (hC : ∀ y ∈ C, slt key y.1 = true) : pins key v (A ++ X ++ C) = A ++ pins key v X ++ C := by
 have h1 := filter_all hA
 have h2 : A.filter (fun y => slt key y.1) = [] := filter_none fun y hy => slt_asym (hA y hy)
 have h3 := filter_all hC
 have h4 : C.filter (fun y => slt y.1 key) = [] := filter_none fun y hy => slt_asym (hC y hy)
 unfold pins
 simp only [List.filter_append, h1, h2, h3, h4]
 simp
theorem pdel_loc (key : Str) (A X C : List Pr) (hA : ∀ y ∈ A, slt y.1 key = true) (hC : ∀ y ∈ C, slt key y.1 = true) : pdel key (A ++ X ++ C) = A ++ pdel key X ++ C := by
 have h1 : A.filter (fun y => !(y.1 == key)) = A := filter_all fun y hy => by rw [slt_ne (hA y hy)]; rfl
 have h3 : C.filter (fun y => !(y.1 == key)) = C := filter_all fun y hy => by rw [slt_ne' (hC y hy)]; rfl
 unfold pdel
 simp only [List.filter_append, h1, h3]
theorem rise_mid {A C : List Pr} {key v : Str} (h : Rise ((A ++ C).map (·.1))) (hA : ∀ y ∈ A, slt y.1 key = true) (hC : ∀ y ∈ C, slt key y.1 = true) : Rise ((A ++ (key, v) :: C).map (·.1)) := by
 rw [List.map_append] at h
 obtain ⟨h1, h2, h3⟩ := List.pairwise_append.1 h
 rw [List.map_append, List.map_cons]
 refine List.pairwise_append.2 ⟨h1, List.pairwise_cons.2 ⟨fun y hy => ?_, h2⟩, fun a ha b hb => ?_⟩
 ·obtain ⟨z, hz, rfl⟩ := List.mem_map.1 hy
  exact hC z hz
 ·obtain ⟨z, hz, rfl⟩ := List.mem_map.1 ha
  rcases List.mem_cons.1 hb with rfl | hb
  ·exact hA z hz
  ·exact h3 _ ha _ hb
theorem put_ed {key v : Str} (hk : 1 ≤ key.length ∧ key.length ≤ 32) (hv : v.length ≤ 64) : EdOk key (pins key v) (edPut key v) := by
 refine ⟨fun ps hp hs => ?_, fun A X C => pins_loc key v A X C⟩
 obtain ⟨A, C, e0, e1, hA, hC, h⟩ := leaf_at hp hs key
 rw [nsize_lf] at hs
 unfold edPut
 rw [e0]
 rcases h with ⟨hh, u, rfl⟩ | ⟨hh, rfl⟩
 ·rw [if_pos hh, (pins_at hA hC).2 u]
  have hr : Rise ((A ++ C).map (·.1)) := by
   have := hp.1
   rw [List.map_append, List.map_cons] at this
   rw [List.map_append]
   exact this.sublist (List.Sublist.append_left (List.sublist_cons_self _ _) _)
  refine ⟨?_, ⟨rise_mid hr hA hC, fun y hy => ?_⟩, ?_, fun y hy => ?_⟩
  ·simp [lf]
  ·simp only [List.mem_append, List.mem_cons] at hy
   rcases hy with hy | rfl | hy
   ·exact hp.2 y (by simp [hy])
   ·exact ⟨hk, hv⟩
   ·exact hp.2 y (by simp [hy])
  ·rw [nsize_lf]
   simp only [List.map_append, List.map_cons, List.sum_append, List.sum_cons, pw] at hs ⊢
   push_cast at hs ⊢
   omega
  ·simp only [List.mem_append, List.mem_cons] at hy ⊢
   rcases hy with hy | rfl | hy
   ·exact .inl (.inl hy)
   ·exact .inr rfl
   ·exact .inl (.inr (.inr hy))
 ·rw [if_neg (by rw [hh]; decide), (pins_at hA hC).1]
  refine ⟨?_, ⟨rise_mid hp.1 hA hC, fun y hy => ?_⟩, ?_, fun y hy => ?_⟩
  ·simp [lf]
  ·simp only [List.mem_append, List.mem_cons] at hy
   rcases hy with hy | rfl | hy
   ·exact hp.2 y (by simp [hy])
   ·exact ⟨hk, hv⟩
   ·exact hp.2 y (by simp [hy])
  ·rw [nsize_lf]
   simp only [List.map_append, List.map_cons, List.sum_append, List.sum_cons, pw] at hs ⊢
   push_cast at hs ⊢
   omega
  ·simp only [List.mem_append, List.mem_cons] at hy ⊢
   rcases hy with hy | rfl | hy
   ·exact .inl (.inl hy)
   ·exact .inr rfl
   ·exact .inl (.inr hy)
theorem del_ed (key : Str) : EdOk key (pdel key) (edDel key) := by
 refine ⟨fun ps hp hs => ?_, fun A X C => pdel_loc key A X C⟩
 obtain ⟨A, C, e0, e1, hA, hC, h⟩ := leaf_at hp hs key
 rw [nsize_lf] at hs
 unfold edDel
 rw [e0]
 rcases h with ⟨hh, u, rfl⟩ | ⟨hh, rfl⟩
 ·rw [if_pos hh, (pdel_at hA hC).2 u]
  have hsub : List.Sublist (A ++ C) (A ++ (key, u) :: C) := List.Sublist.append_left (List.sublist_cons_self _ _) _
  refine ⟨?_, ⟨hp.1.sublist (hsub.map _), fun y hy => hp.2 y (hsub.subset hy)⟩, ?_, fun y hy => .inl (hsub.subset hy)⟩
  ·have hd : ∀ (x : Str) (a c : List Str), a.length = A.length → (a ++ x :: c).drop (A.length + 1) = c := fun x a c h => by rw [← h, ← List.drop_drop]; simp
   simp [lf]
   exact ⟨hd _ _ _ (by simp), hd _ _ _ (by simp)⟩
  ·rw [nsize_lf]
   simp only [List.map_append, List.map_cons, List.sum_append, List.sum_cons, pw] at hs ⊢
   push_cast at hs ⊢
   omega
 ·rw [if_neg (by rw [hh]; decide), (pdel_at hA hC).1]
  exact ⟨rfl, hp, by rw [nsize_lf]; omega, fun y hy => .inl hy⟩
end Go.Proofs.YtgmkknonnidgaaaGreat

namespace Go.Proofs.YtgmkknonnidgaaaGreat
open Go.RowKit
def KLen (bs : List Br) : Prop := ∀ b ∈ bs.tail, 1 ≤ b.1.length ∧ b.1.length ≤ 32
def ShN : Nat → Nd → Prop
 | 0, n => ∃ ps, n = lf ps ∧ PrOk ps ∧ nsize n ≤ 342
 | _ + 1, n => ∃ bs, n = inr bs ∧ bs ≠ [] ∧ KLen bs ∧ nsize n ≤ 281
theorem sum_ge {α : Type} (f : α → Nat) (c : Nat) (h : ∀ x, c ≤ f x) : ∀ l : List α, c * l.length ≤ (l.map f).sum
 | [] => by simp
 | a :: l => by
  have h1 := sum_ge f c h l
  have h2 := h a
  simp only [List.map_cons, List.sum_cons, List.length_cons, Nat.mul_add]
  omega
theorem take_sum (ws : List Nat) (j : Nat) : (ws.take j).sum ≤ ws.sum ∧ (ws.drop j).sum ≤ ws.sum := by
 have := sum_split ws j
 omega
structure ShOk (n : Nd) : Prop where
 len : n.keys.length ≤ 200
 cnt : (n.leaf = true ∧ n.vals.length = n.keys.length) ∨ (n.leaf = false ∧ n.kids.length = n.keys.length + 1)
 bd : NBd n
 mid : 244 < nsize n → midOf n < n.keys.length
theorem ShN.ok {d : Nat} {n : Nd} (h : ShN d n) : ShOk n := by
 cases d with
 | zero =>
  obtain ⟨ps, rfl, hp, hs⟩ := h
  have hsz := nsize_lf ps
  have hlen := sum_ge pw 2 (fun y => by unfold pw; omega) ps
  have hk : (lf ps).keys.length = ps.length := by simp [lf]
  have hw : ∀ y ∈ ps, pw y ≤ 98 := fun y hy => by have := hp.2 y hy; unfold pw; omega
  refine ⟨by omega, .inl ⟨rfl, by simp [lf]⟩, ⟨⟨by omega, by omega⟩, fun i hi => ?_, fun i hi => ?_⟩, fun h1 => ?_⟩
  ·rw [cutL_lf, nsize_lf, List.map_take]
   have := (take_sum (ps.map pw) i).1
   omega
  ·rw [cutR_lf, nsize_lf, List.map_drop]
   have := (take_sum (ps.map pw) i).2
   omega
  ·rw [hk]; exact (leaf_cut hw h1 hs).2.1
 | succ d =>
  obtain ⟨bs, rfl, h0, hk, hs⟩ := h
  cases bs with
  | nil => exact absurd rfl h0
  | cons b r =>
   have hsz := nsize_inr b r
   have hlen := sum_ge bw 5 (fun y => by unfold bw; omega) r
   have hkl : (inr (b :: r)).keys.length = r.length := by simp [inr]
   have hw : ∀ y ∈ r, bw y ≤ 37 := fun y hy => by have := hk y (by simpa using hy); unfold bw; omega
   refine ⟨by omega, .inr ⟨rfl, by simp [inr]⟩, ⟨⟨by omega, by omega⟩, fun i hi => ?_, fun i hi => ?_⟩, fun h1 => ?_⟩
   ·rw [cutL_inr, nsize_inr, List.map_take]
    have := (take_sum (r.map bw) i).1
    omega
   ·rw [hkl] at hi
    rw [cutR_inr]
    have e : r.drop i = r[i] :: r.drop (i + 1) := List.drop_eq_getElem_cons hi
    rw [e, nsize_inr, List.map_drop]
    have := (take_sum (r.map bw) (i + 1)).2
    omega
   ·rw [hkl]
    have := (inr_cut hw h1 hs).2.1
    omega
theorem plaid_gen (B : Nat) (w : World) (gc g : Nat) (next : Int) (av : Value) (ns : List NV) (n : Nd) (kv vv dv : Value) (ahead : Str) (h : ChI B w gc g next av ns) (hA : AllK w ns) (hB : B ≤ w.heap.size) (hg : ∀ b, av.ownBlock = some b → b ≠ g) (hgc : gc ≠ g) (hns : ns.length ≤ 900) (hnx : 0 ≤ next ∧ next ≤ 65536) (hr : RdK w kv vv dv n) (hs : ShOk n) :
  Calls Tryz.prog 65 #[.pointer (some ⟨gc, 0, none⟩), nv n kv vv dv, st ahead] w fun e w' => LdR B gc g next av ns n ahead w w' e := by
 by_cases hk0 : n.keys.length = 0
 ·exact plaid_none B w gc g next av ns n kv vv dv ahead h hA hB hg hgc hns hnx hr hk0
 ·by_cases h1 : nsize n ≤ 244
  ·exact plaid_one B w gc g next av ns n kv vv dv ahead h hA hB hg hgc hns hnx hr hk0 h1 hs.bd.self.1
  ·exact plaid_two B w gc g next av ns n kv vv dv ahead h hA hB hg hgc hns hnx hr hk0 (by have := hs.len; omega) hs.cnt hs.bd (by omega) (hs.mid (by omega))
theorem laid_shape {d : Nat} {n : Nd} (h : ShN d n) (next : Int) (ad : List Nd) (ahead : Str) : (laidOf next ad n ahead).1.length ≤ 2 ∧ KLen (laidOf next ad n ahead).1 ∧ (∀ b r, (laidOf next ad n ahead).1 = b :: r → b.1 = ahead) ∧ ((laidOf next ad n ahead).1 = [] → n.keys = []) := by
 unfold laidOf
 split
 ·rename_i h0
  exact ⟨by simp, (fun b hb => by cases hb), (fun b r e => by cases e), fun _ => List.eq_nil_of_length_eq_zero h0⟩
 ·split
  ·exact ⟨by simp, (fun b hb => by cases hb), (fun b r e => by simp at e; rw [← e.1]), (fun e => by simp at e)⟩
  ·rename_i h0 h1
   refine ⟨by simp, fun b hb => ?_, (fun b r e => by simp at e; rw [← e.1]), (fun e => by simp at e)⟩
   simp only [List.tail_cons, List.mem_singleton] at hb
   subst hb
   have hm := h.ok.mid (by omega)
   cases d with
   | zero =>
    obtain ⟨ps, rfl, hp, hs⟩ := h
    have hml : midOf (lf ps) < ps.length := by simpa [lf] using hm
    have e : (lf ps).keys.getD (midOf (lf ps)) [] = (ps[midOf (lf ps)]'hml).1 := by
     rw [List.getD_eq_getElem?_getD]
     show ((ps.map (·.1))[midOf (lf ps)]?).getD [] = _
     rw [List.getElem?_map, List.getElem?_eq_getElem hml]; rfl
    show 1 ≤ ((lf ps).keys.getD (midOf (lf ps)) []).length ∧ _
    rw [e]
    exact (hp.2 _ (List.getElem_mem hml)).1
   | succ d =>
    obtain ⟨bs, rfl, hb0, hk, hs⟩ := h
    have hml : midOf (inr bs) < bs.tail.length := by simpa [inr] using hm
    have e : (inr bs).keys.getD (midOf (inr bs)) [] = (bs.tail[midOf (inr bs)]'hml).1 := by
     rw [List.getD_eq_getElem?_getD]
     show ((bs.tail.map (·.1))[midOf (inr bs)]?).getD [] = _
     rw [List.getElem?_map, List.getElem?_eq_getElem hml]; rfl
    show 1 ≤ ((inr bs).keys.getD (midOf (inr bs)) []).length ∧ _
    rw [e]
    exact hk _ (List.getElem_mem hml)
theorem rplc_shape {P S Y now : List Br} {y : Br} (hb : KLen (P ++ (y :: Y) ++ S)) (hs : nsize (inr (P ++ (y :: Y) ++ S)) ≤ 244) (hn : now.length ≤ 2) (hk : KLen now) (hf : ∀ b r, now = b :: r → b.1 = y.1) (h0 : P ++ now ++ S ≠ []) (d : Nat) : ShN (d + 1) (inr (P ++ now ++ S)) := by
 have hpn : P ++ (y :: Y) ++ S ≠ [] := by simp
 rw [nsize_tail hpn] at hs
 refine ⟨_, rfl, h0, fun b hb9 => ?_, ?_⟩
 ·cases P with
  | nil =>
   cases now with
   | nil => exact hb b (by simp only [List.nil_append, List.cons_append, List.tail_cons, List.mem_append] at hb9 ⊢; exact .inr (List.mem_of_mem_tail hb9))
   | cons z r =>
    simp only [List.nil_append, List.cons_append, List.tail_cons, List.mem_append] at hb9
    rcases hb9 with h | h
    ·exact hk b (by simpa using h)
    ·exact hb b (by simp [h])
  | cons p P =>
   simp only [List.cons_append, List.tail_cons, List.mem_append] at hb9
   rcases hb9 with (h | h) | h
   ·exact hb b (by simp [h])
   ·cases now with
    | nil => cases h
    | cons z r =>
     rcases List.mem_cons.1 h with rfl | h
     ·rw [hf _ _ rfl]; exact hb y (by simp)
     ·exact hk b (by simpa using h)
   ·exact hb b (by simp [h])
 ·rw [nsize_tail h0]
  cases now with
  | nil =>
   cases P with
   | nil =>
    have : tw S.tail ≤ tw S := by cases S with | nil => simp [tw] | cons a r => simp [tw]
    simp only [List.nil_append, List.cons_append, List.tail_cons, tw_app] at hs ⊢
    push_cast at hs ⊢; omega
   | cons p P => simp only [List.cons_append, List.tail_cons, tw_app, List.append_nil] at hs ⊢; push_cast at hs ⊢; omega
  | cons z r =>
   have hr : tw r ≤ 37 := by
    have h1 := tw_le (bs := r) (fun b hb9 => (hk b (by simpa using hb9)).2)
    have h2 := hn
    simp only [List.length_cons] at h2
    have : 37 * r.length ≤ 37 := by omega
    omega
   cases P with
   | nil => simp only [List.nil_append, List.cons_append, List.tail_cons, tw_app] at hs ⊢; push_cast at hs ⊢; omega
   | cons p P =>
    have e1 : tw (z :: r) = bw y + tw r := by simp [tw, bw, hf _ _ rfl]
    have e2 : tw (y :: Y) = bw y + tw Y := by simp [tw, bw]
    simp only [List.cons_append, List.tail_cons, tw_app, e1, e2] at hs ⊢; push_cast at hs ⊢; omega
end Go.Proofs.YtgmkknonnidgaaaGreat

namespace Go.Proofs.YtgmkknonnidgaaaGreat
open Go.RowKit
structure Way (l : List Wrt) (d : Nat) (n : Nd) (key : Str) (k : Nat) (P : List Br) (X : Br) (S : List Br) (nd : Nd) (lo' : Str) (hi' : Option Str) : Prop where
 fnd : nfind n key = (k : Int)
 brs : brs n = P ++ [X] ++ S
 len : P.length = k
 kid : n.kids[k]? = some X.2
 isn : NdIs l X.2 nd
 no : NO l d nd lo' hi'
 kl : KLen (P ++ [X] ++ S)
 two : 2 ≤ (P ++ [X] ++ S).length
 sib : ∀ (i : Nat) (b : Br), (P ++ [X] ++ S)[i]? = some b → n.kids[i]? = some b.2 ∧ ∃ sb lo hi, NdIs l b.2 sb ∧ NO l d sb lo hi
 keys : ∀ (i : Nat) (b : Br), (P ++ [X] ++ S)[i + 1]? = some b → n.keys[i]? = some b.1
 prs : nP l (d + 1) n = sprs l d P ++ nP l d nd ++ sprs l d S
 lt : ∀ y ∈ sprs l d P, slt y.1 key = true
 gt : ∀ y ∈ sprs l d S, slt key y.1 = true
 ids : ∀ i ∈ idsOf l d X.2, i ∈ nI l (d + 1) n
theorem way_of {l : List Wrt} {d : Nat} {n : Nd} {lo : Str} {hi : Option Str} (hN : NO l (d + 1) n lo hi) (hsz : nsize n ≤ 244) (hkn : n.keys ≠ []) (key : Str) : ∃ k P X S nd lo' hi', Way l d n key k P X S nd lo' hi' := by
 have hok : NOk n := hN.ok hkn hsz
 obtain ⟨en, hb, hs, e1, e2⟩ := no_brs hN
 have hz := (ncheck_ok n).2 hok
 obtain ⟨k, f1, f2, f3, f4⟩ := nfnd_inner key n.keys (nkeys_to hok.1).1
 have hlf : n.leaf = false := by have := hN.leaf; simpa using this
 have hfk : nfind n key = (k : Int) := by unfold nfind; rw [if_pos hz, hlf, f1]
 have hkids := kids_len hok hlf
 have hbl : (brs n).length = n.kids.length := brs_len hkids
 have hkl : k < (brs n).length := by omega
 have hkeys : n.keys = (brs n).tail.map (·.1) := by
  have := congrArg Nd.keys en
  exact this
 have hkd : n.kids = (brs n).map (·.2) := by
  have := congrArg Nd.kids en
  exact this
 have eb := split_at hkl
 have eb' : brs n = (brs n).take k ++ [(brs n)[k]] ++ (brs n).drop (k + 1) := by
  rw [List.append_assoc]
  exact eb
 have hn2 : 2 ≤ (brs n).length := by
  have : n.keys.length ≠ 0 := fun h => hkn (List.eq_nil_of_length_eq_zero h)
  omega
 have hX := hs.each (brs n)[k] (List.getElem_mem hkl)
 obtain ⟨lo', hi', hT⟩ := hX
 obtain ⟨nd, hNd, hNO, hni, hnp⟩ := tok_no hT
 have hXX : ∀ j c, (brs n)[j + 1]? = some c → n.keys[j]? = some c.1 := fun j c h => by rw [hkeys, List.getElem?_map, List.getElem?_tail, h]; rfl
 have hs3 := hs
 rw [eb', seg3] at hs3
 obtain ⟨s1, s2, s3⟩ := hs3
 refine ⟨k, (brs n).take k, (brs n)[k], (brs n).drop (k + 1), nd, lo', hi', hfk, eb', by rw [List.length_take]; omega, by rw [hkd]; simp [hkl], hNd, hNO, by rw [← eb']; exact hb.1, by rw [← eb']; exact hn2, fun i b hi9 => ?_, fun i b hi9 => ?_, ?_, ?_, ?_, ?_⟩
 ·rw [← eb'] at hi9
  refine ⟨by rw [hkd, List.getElem?_map, hi9]; rfl, ?_⟩
  obtain ⟨lo2, hi2, hT2⟩ := hs.each b (List.mem_of_getElem? hi9)
  obtain ⟨sb, h1, h2, _⟩ := tok_no hT2
  exact ⟨sb, lo2, hi2, h1, h2⟩
 ·rw [← eb'] at hi9
  rw [hkeys, List.getElem?_map, List.getElem?_tail, hi9]; rfl
 ·rw [e1, ← hnp]
  conv => lhs; rw [eb', sprs_app, sprs_app]
  simp [sprs]
 ·intro y hy
  rcases s1 with s1 | s1
  ·rw [s1] at hy; simp [sprs] at hy
  ·have h9 := Seg.kin s1 y hy
   simp only [Go.Proofs.YtgmkknonnidgaaaGreat.kin, Bool.and_eq_true] at h9
   have hk1 : 0 < k := by
    have hne := s1.ne
    rcases Nat.eq_zero_or_pos k with h | h
    ·subst h; simp at hne
    ·exact h
   exact slt_lt_le h9.2 (f3 (k - 1) _ (by omega) (hXX (k - 1) _ (by rw [show k - 1 + 1 = k by omega]; exact List.getElem?_eq_getElem hkl)))
 ·intro y hy
  rcases s3 with s3 | ⟨c, r, hcr, s3⟩
  ·rw [s3] at hy; simp [sprs] at hy
  ·have h9 := Seg.kin s3 y hy
   simp only [Go.Proofs.YtgmkknonnidgaaaGreat.kin, Bool.and_eq_true, Bool.not_eq_true'] at h9
   have hc9 : (brs n)[k + 1]? = some c := by
    have : ((brs n).drop (k + 1))[0]? = some c := by rw [hcr]; rfl
    rw [List.getElem?_drop] at this
    simpa using this
   exact slt_lt_le (f4 k c.1 (Nat.le_refl _) (hXX k c hc9)) h9.1
 ·intro i hi9
  rw [e2]
  exact List.mem_flatMap.2 ⟨(brs n)[k], List.getElem_mem hkl, hi9⟩
theorem NdIs.small {l : List Wrt} {id : Int} {nd : Nd} {d : Nat} {lo : Str} {hi : Option Str} (h : NdIs l id nd) (hN : NO l d nd lo hi) : nsize nd ≤ 244 ∧ (d ≠ 0 → nd.keys ≠ []) := by
 refine ⟨h.ok.2.2.2.2, fun h9 => ?_⟩
 have hl9 : nd.leaf = false := by rw [hN.leaf]; simpa using h9
 obtain ⟨a, b, c⟩ := inr_to h.ok hl9
 rw [a]
 intro h
 have h7 : (Go.Proofs.YtgmkknonnidgaaaGreat.brs nd).tail.map (·.1) = [] := h
 exact c (List.map_eq_nil_iff.1 h7)
theorem sh_bare {d : Nat} {m : Nd} (h : ShN d m) (hb : bareB m = true) : ∃ e b, d = e + 1 ∧ m.kids.headD 0 = b ∧ brs m = [([], b)] ∧ m.kids.length = m.keys.length + 1 ∧ m.keys = [] := by
 unfold bareB at hb
 simp only [Bool.and_eq_true, Bool.not_eq_true', decide_eq_true_eq] at hb
 have hk : m.keys = [] := List.eq_nil_of_length_eq_zero hb.2
 cases d with
 | zero =>
  obtain ⟨ps, rfl, _⟩ := h
  cases hb.1
 | succ e =>
  refine ⟨e, _, rfl, rfl, ?_, ?_, hk⟩
  ·show ([], m.kids.headD 0) :: m.keys.zip m.kids.tail = _
   rw [hk]; rfl
  ·rcases h.ok.cnt with h9 | h9
   ·rw [hb.1] at h9; cases h9.1
   ·exact h9.2
theorem join_shape {l : List Wrt} {d : Nat} {n : Nd} {key : Str} {k : Nat} {P S : List Br} {X : Br} {nd : Nd} {lo' : Str} {hi' : Option Str} (W : Way l d n key k P X S nd lo' hi') {m : Nd} (ih : ShN d m) (hbare : bareB m = true) : ShN d (joinOf l n (k - 1) k m) := by
 have hbX : (P ++ [X] ++ S)[k]? = some X := by rw [List.append_assoc, List.getElem?_append_right (by rw [W.len]; exact Nat.le_refl _), W.len]; simp
 obtain ⟨e, b, rfl, hb0, hb1, hb2, hb3⟩ := sh_bare ih hbare
 by_cases hk1 : k = 0
 ·subst hk1
  have hP0 : P = [] := List.eq_nil_of_length_eq_zero W.len
  subst hP0
  cases S with
  | nil => have := W.two; simp at this
  | cons c r =>
   have hc1 : ([] ++ [X] ++ c :: r : List Br)[1]? = some c := rfl
   obtain ⟨hs1, sb, lo2, hi2, hsb, hsn⟩ := W.sib 1 c hc1
   have hkey := W.keys 0 c hc1
   have hjn : joinOf l n (0 - 1) 0 m = inr ([([], b)] ++ (c.1, sb.kids.headD 0) :: (brs sb).tail) := by
    unfold joinOf
    simp only [Nat.zero_sub, if_true, Nat.zero_add]
    have q1 : n.kids.getD 1 0 = c.2 := by rw [List.getD_eq_getElem?_getD, hs1]; rfl
    have q2 : n.keys.getD 0 [] = c.1 := by rw [List.getD_eq_getElem?_getD, hkey]; rfl
    rw [q1, q2, hb1, hsb.at]
   rw [hjn]
   have hlb : sb.leaf = false := by have := hsn.leaf; simpa using this
   obtain ⟨g1, g2, g3⟩ := inr_to hsb.ok hlb
   refine ⟨_, rfl, by simp, fun x hx9 => ?_, ?_⟩
   ·simp only [List.cons_append, List.nil_append, List.tail_cons, List.mem_cons] at hx9
    rcases hx9 with rfl | hx9
    ·exact W.kl c (by simp)
    ·exact g2.1 x hx9
   ·rw [List.cons_append, List.nil_append, nsize_tail (by simp)]
    have h7 := hsb.ok.2.2.2.2
    have h8 : 1 ≤ c.1.length ∧ c.1.length ≤ 32 := W.kl c (by simp)
    rw [g1, nsize_tail (by unfold Go.Proofs.YtgmkknonnidgaaaGreat.brs; simp)] at h7
    simp only [List.tail_cons, tw, List.map_cons, List.sum_cons, bw] at h7 ⊢
    push_cast
    omega
 ·obtain ⟨P', c, rfl⟩ : ∃ P' c, P = P' ++ [c] := by
   rcases List.eq_nil_or_concat P with h | ⟨P', c, h⟩
   ·subst h; have := W.len; simp at this; omega
   ·exact ⟨P', c, by simpa using h⟩
  have hPl' : P'.length = k - 1 := by have := W.len; simp at this; omega
  have ebs : P' ++ [c] ++ [X] ++ S = P' ++ (c :: [X]) ++ S := by simp
  have hc1 : (P' ++ [c] ++ [X] ++ S)[k - 1]? = some c := by rw [ebs, List.append_assoc, List.getElem?_append_right (by omega), hPl']; simp
  have hk2 : k - 1 + 1 = k := by omega
  obtain ⟨hs1, sb, lo2, hi2, hsb, hsn⟩ := W.sib (k - 1) c hc1
  have hkey := W.keys (k - 1) X (by rw [hk2]; exact hbX)
  have hjn : joinOf l n (k - 1) k m = inr (brs sb ++ [(X.1, b)]) := by
   unfold joinOf
   rw [if_neg (by omega), if_neg (by omega)]
   have q1 : n.kids.getD (k - 1) 0 = c.2 := by rw [List.getD_eq_getElem?_getD, hs1]; rfl
   have q2 : n.keys.getD (k - 1) [] = X.1 := by rw [List.getD_eq_getElem?_getD, hkey]; rfl
   rw [q1, q2, hb1, hb0, hsb.at]; rfl
  rw [hjn]
  have hlb : sb.leaf = false := by have := hsn.leaf; simpa using this
  obtain ⟨g1, g2, g3⟩ := inr_to hsb.ok hlb
  have hXk : 1 ≤ X.1.length ∧ X.1.length ≤ 32 := W.kl X (by cases P' <;> simp)
  refine ⟨_, rfl, by simp, fun x hx9 => ?_, ?_⟩
  ·have hx8 : x ∈ (brs sb).tail ∨ x = (X.1, b) := by
    unfold Go.Proofs.YtgmkknonnidgaaaGreat.brs at hx9 ⊢
    simpa using hx9
   rcases hx8 with hx8 | rfl
   ·exact g2.1 x hx8
   ·exact hXk
  ·rw [nsize_tail (by simp)]
   have h7 := hsb.ok.2.2.2.2
   rw [g1, nsize_tail (by unfold Go.Proofs.YtgmkknonnidgaaaGreat.brs; simp)] at h7
   have h6 : (brs sb ++ [(X.1, b)]).tail = (brs sb).tail ++ [(X.1, b)] := by unfold Go.Proofs.YtgmkknonnidgaaaGreat.brs; simp
   rw [h6, tw_app]
   simp only [tw, List.map_cons, List.map_nil, List.sum_cons, List.sum_nil, bw] at h7 ⊢
   push_cast
   omega
theorem reb_shape {l : List Wrt} {next : Int} {key : Str} {upd : List Pr → List Pr} {ed : Nd → Nd} (hE : EdOk key upd ed) :
  ∀ (d : Nat) (n : Nd) (lo : Str) (hi : Option Str) (ad : List Nd), NO l d n lo hi → nsize n ≤ 244 → (d ≠ 0 → n.keys ≠ []) → ShN d (rebOf l next key ed d n ad).1
 | 0, n, lo, hi, ad, hN, hsz, _ => by
  obtain ⟨ps, rfl, hp, hin⟩ := hN
  obtain ⟨e, a1, a2, a3⟩ := hE.leaf ps hp hsz
  show ShN 0 (ed (lf ps))
  rw [e]
  exact ⟨_, rfl, a1, a2⟩
 | d + 1, n, lo, hi, ad, hN, hsz, hk0 => by
  obtain ⟨k, P, X, S, nd, lo', hi', W⟩ := way_of hN hsz (hk0 (by omega)) key
  obtain ⟨en, _⟩ := no_brs hN
  have hfk : (nfind n key).toNat = k := by rw [W.fnd]; simp
  have hsm := W.isn.small W.no
  have ih := reb_shape (next := next) hE d nd lo' hi' ad W.no hsm.1 hsm.2
  simp only [rebOf]
  rw [hfk]
  have hgk : n.kids.getD k 0 = X.2 := by rw [List.getD_eq_getElem?_getD, W.kid]; rfl
  rw [hgk, W.isn.at]
  obtain ⟨⟨m, ad1⟩, hp⟩ : ∃ p, p = rebOf l next key ed d nd ad := ⟨_, rfl⟩
  rw [← hp] at ih ⊢
  dsimp only at ih ⊢
  have hbX : (P ++ [X] ++ S)[k]? = some X := by rw [List.append_assoc, List.getElem?_append_right (by rw [W.len]; exact Nat.le_refl _), W.len]; simp
  rw [en, W.brs] at hsz
  rw [W.brs]
  by_cases hbare : bareB m = true
  ·rw [if_pos hbare]
   dsimp only
   obtain ⟨e, b, rfl, hb0, hb1, hb2, hb3⟩ := sh_bare ih hbare
   by_cases hk1 : k = 0
   ·subst hk1
    have hP0 : P = [] := List.eq_nil_of_length_eq_zero W.len
    subst hP0
    cases S with
    | nil => have := W.two; simp at this
    | cons c r =>
     have hc1 : ([] ++ [X] ++ c :: r : List Br)[1]? = some c := rfl
     obtain ⟨hs1, sb, lo2, hi2, hsb, hsn⟩ := W.sib 1 c hc1
     have hkey := W.keys 0 c hc1
     have hjn : joinOf l n (0 - 1) 0 m = inr ([([], b)] ++ (c.1, sb.kids.headD 0) :: (brs sb).tail) := by
      unfold joinOf
      simp only [Nat.zero_sub, if_true, Nat.zero_add]
      have q1 : n.kids.getD 1 0 = c.2 := by rw [List.getD_eq_getElem?_getD, hs1]; rfl
      have q2 : n.keys.getD 0 [] = c.1 := by rw [List.getD_eq_getElem?_getD, hkey]; rfl
      rw [q1, q2, hb1, hsb.at]
     have hJ : ShN (e + 1) (joinOf l n (0 - 1) 0 m) := by
      rw [hjn]
      have hlb : sb.leaf = false := by have := hsn.leaf; simpa using this
      obtain ⟨g1, g2, g3⟩ := inr_to hsb.ok hlb
      refine ⟨_, rfl, by simp, fun x hx9 => ?_, ?_⟩
      ·simp only [List.cons_append, List.nil_append, List.tail_cons, List.mem_cons] at hx9
       rcases hx9 with rfl | hx9
       ·exact W.kl c (by simp)
       ·exact g2.1 x hx9
      ·rw [List.cons_append, List.nil_append, nsize_tail (by simp)]
       have h7 := hsb.ok.2.2.2.2
       have h8 : 1 ≤ c.1.length ∧ c.1.length ≤ 32 := W.kl c (by simp)
       rw [g1, nsize_tail (by unfold Go.Proofs.YtgmkknonnidgaaaGreat.brs; simp)] at h7
       simp only [List.tail_cons, tw, List.map_cons, List.sum_cons, bw] at h7 ⊢
       push_cast
       omega
     have hJk : (joinOf l n (0 - 1) 0 m).keys ≠ [] := by rw [hjn]; simp [inr]
     obtain ⟨l1, l2, l3, l4⟩ := laid_shape hJ next ad1 (([] ++ [X] ++ c :: r : List Br).getD (0 - 1) ([], 0)).1
     obtain ⟨q, hq⟩ : ∃ q, q = laidOf next ad1 (joinOf l n (0 - 1) 0 m) (([] ++ [X] ++ c :: r : List Br).getD (0 - 1) ([], 0)).1 := ⟨_, rfl⟩
     rw [← hq] at l1 l2 l3 l4 ⊢
     have hrp : rplc ([] ++ [X] ++ c :: r) (0 - 1) (0 - 1 + 2) q.1 = [] ++ q.1 ++ r := rplc_mid (P := []) (Y := [X, c]) rfl rfl
     rw [hrp]
     exact rplc_shape (P := []) (y := X) (Y := [c]) (S := r) W.kl hsz l1 l2 (fun b' r' e' => l3 b' r' e') (fun e9 => by
      have := List.append_eq_nil_iff.1 e9
      exact hJk (l4 (by simpa using this.1))) (e + 1)
   ·obtain ⟨P', c, rfl⟩ : ∃ P' c, P = P' ++ [c] := by
     rcases List.eq_nil_or_concat P with h | ⟨P', c, h⟩
     ·subst h; have := W.len; simp at this; omega
     ·exact ⟨P', c, by simpa using h⟩
    have hPl' : P'.length = k - 1 := by have := W.len; simp at this; omega
    have ebs : P' ++ [c] ++ [X] ++ S = P' ++ (c :: [X]) ++ S := by simp
    have hc1 : (P' ++ [c] ++ [X] ++ S)[k - 1]? = some c := by rw [ebs, List.append_assoc, List.getElem?_append_right (by omega), hPl']; simp
    have hk2 : k - 1 + 1 = k := by omega
    obtain ⟨hs1, sb, lo2, hi2, hsb, hsn⟩ := W.sib (k - 1) c hc1
    have hkey := W.keys (k - 1) X (by rw [hk2]; exact hbX)
    have hjn : joinOf l n (k - 1) k m = inr (brs sb ++ [(X.1, b)]) := by
     unfold joinOf
     rw [if_neg (by omega), if_neg (by omega)]
     have q1 : n.kids.getD (k - 1) 0 = c.2 := by rw [List.getD_eq_getElem?_getD, hs1]; rfl
     have q2 : n.keys.getD (k - 1) [] = X.1 := by rw [List.getD_eq_getElem?_getD, hkey]; rfl
     rw [q1, q2, hb1, hb0, hsb.at]; rfl
    have hJ : ShN (e + 1) (joinOf l n (k - 1) k m) := by
     rw [hjn]
     have hlb : sb.leaf = false := by have := hsn.leaf; simpa using this
     obtain ⟨g1, g2, g3⟩ := inr_to hsb.ok hlb
     have hXk : 1 ≤ X.1.length ∧ X.1.length ≤ 32 := W.kl X (by cases P' <;> simp)
     refine ⟨_, rfl, by simp, fun x hx9 => ?_, ?_⟩
     ·have hx8 : x ∈ (brs sb).tail ∨ x = (X.1, b) := by
       unfold Go.Proofs.YtgmkknonnidgaaaGreat.brs at hx9 ⊢
       simpa using hx9
      rcases hx8 with hx8 | rfl
      ·exact g2.1 x hx8
      ·exact hXk
     ·rw [nsize_tail (by simp)]
      have h7 := hsb.ok.2.2.2.2
      rw [g1, nsize_tail (by unfold Go.Proofs.YtgmkknonnidgaaaGreat.brs; simp)] at h7
      have h6 : (brs sb ++ [(X.1, b)]).tail = (brs sb).tail ++ [(X.1, b)] := by unfold Go.Proofs.YtgmkknonnidgaaaGreat.brs; simp
      rw [h6, tw_app]
      simp only [tw, List.map_cons, List.map_nil, List.sum_cons, List.sum_nil, bw] at h7 ⊢
      push_cast
      omega
    have hJk : (joinOf l n (k - 1) k m).keys ≠ [] := by rw [hjn]; unfold Go.Proofs.YtgmkknonnidgaaaGreat.brs; simp [inr]
    have hga : ((P' ++ [c] ++ [X] ++ S).getD (k - 1) ([], 0)).1 = c.1 := by rw [List.getD_eq_getElem?_getD, hc1]; rfl
    rw [hga]
    obtain ⟨l1, l2, l3, l4⟩ := laid_shape hJ next ad1 c.1
    obtain ⟨q, hq⟩ : ∃ q, q = laidOf next ad1 (joinOf l n (k - 1) k m) c.1 := ⟨_, rfl⟩
    rw [← hq] at l1 l2 l3 l4 ⊢
    have hkl := W.kl
    rw [ebs] at hkl hsz ⊢
    rw [rplc_mid hPl' (by rw [hPl']; rfl)]
    exact rplc_shape hkl hsz l1 l2 l3 (fun e9 => by
     have := List.append_eq_nil_iff.1 (List.append_eq_nil_iff.1 e9).1
     exact hJk (l4 this.2)) (e + 1)
  ·rw [if_neg hbare]
   dsimp only
   have hga : ((P ++ [X] ++ S).getD k ([], 0)).1 = X.1 := by rw [List.getD_eq_getElem?_getD, hbX]; rfl
   rw [hga]
   obtain ⟨l1, l2, l3, l4⟩ := laid_shape ih next ad1 X.1
   obtain ⟨q, hq⟩ : ∃ q, q = laidOf next ad1 m X.1 := ⟨_, rfl⟩
   rw [← hq] at l1 l2 l3 l4 ⊢
   rw [rplc_mid W.len (by rw [W.len]; rfl)]
   refine rplc_shape W.kl hsz l1 l2 l3 (fun e9 => ?_) d
   have h1 := List.append_eq_nil_iff.1 e9
   have h2 := List.append_eq_nil_iff.1 h1.1
   have := W.two
   rw [h2.1, h1.2] at this
   simp at this
end Go.Proofs.YtgmkknonnidgaaaGreat

namespace Go.Proofs.YtgmkknonnidgaaaGreat
open Go.RowKit
structure ChM (w : World) (gc g bm k : Nat) (m : Int → Option Value) : Prop where
 c : w.cell? ⟨gc, 0, none⟩ = some (.pointer (some ⟨g, 0, none⟩))
 s : w.cell? ⟨g, 3, none⟩ = some (.map (some bm))
 map : MapI w bm k m
theorem ChM.to {w w' : World} {gc g bm k : Nat} {m : Int → Option Value} (h : ChM w gc g bm k m) (b : Below w.heap.size w w') : ChM w' gc g bm k m :=
 ⟨(b.cell (cell_lt h.c)).trans h.c, (b.cell (cell_lt h.s)).trans h.s, h.map.kept (b.block _ h.map.lt)⟩
theorem OwnBr.first {B : Nat} {w : World} {v : Value} {y : Br} {r : List Br} (h : OwnBr B w v (y :: r)) (x : Str) : ∃ g cap, v = .slice (some ⟨g, 0, none⟩) (r.length + 1) cap ∧ B ≤ g ∧ OwnBr B (w.setCell ⟨g, 0, none⟩ (st x)) v ((x, y.2) :: r) ∧ (∀ b, b ≠ g → (w.setCell ⟨g, 0, none⟩ (st x)).heap[b]? = w.heap[b]?) ∧ w.cell? ⟨g, 0, none⟩ = some (st y.1) ∧ w.frozen? ⟨g, 0, none⟩ = false := by
 obtain ⟨g, cap, cur, e, hB, hg, hk, hm, hs, ht⟩ := own_block h (by simp)
 have e0 : cur.toList = [st y.1, .int .i64 y.2] ++ bcl r ++ cur.toList.drop ((y :: r).length * 2) := by
  conv => lhs; rw [← List.take_append_drop ((y :: r).length * 2) cur.toList, ht]
  rfl
 refine ⟨g, cap, e, hB, ⟨by rw [bcl_len], .inr ⟨g, cap, _, e, hB, heap_setN hg 0 (st x), hk, hm, by simpa using hs, ?_⟩⟩, fun b hb => Below.heap_setCell _ _ _ _ hb, ?_, frozN hg 0⟩
 ·rw [Array.toList_setIfInBounds, e0]
  show ([st x, .int .i64 y.2] ++ bcl r ++ _).take _ = _
  rw [List.take_left' (by rw [List.length_append, bcl_len]; simp; omega)]
  rfl
 ·refine cellN hg ?_
  have : cur.toList[0]? = some (st y.1) := by rw [e0]; rfl
  simpa using this
theorem wpList_appBs {ops : Array Oper} {rest : List Oper} {o : Oper} {a : Act} {w : World} {Q : Exit → Act → World → Prop} (hgd : o.guard = none) (s x : Operand)
  (ho : o.op = .call { callee := .builtin .append, args := #[s, x], argTypes := #[130, 130] }) (B C : Nat) (v u : Value) (bs cs : List Br) (hs : a.eval s = v) (hx : a.eval x = u)
  (hown : OwnBr B w v bs) (hu : OwnBr C w u cs) (h0 : 0 < cs.length) (hlen : bs.length + cs.length ≤ 10000) (hB : B ≤ w.heap.size)
  (h : ∀ v' w', OwnBr B w' v' (bs ++ cs) → w.grownBy w' v.ownBlock → wpList Tryz.prog ops Q rest (a.put o.dst v') w') : wpList Tryz.prog ops Q (o :: rest) a w := by
 obtain ⟨i0, hi, hz0, hz1, hz2⟩ := info_parts infoBr
 obtain ⟨g, cap, cur, rfl, hC, hg, hk, hm, hcs, ht⟩ := own_block hu h0
 have n2 : ∀ j q, (bcl cs)[j]? = some q → w.cell? ((⟨g, 0, none⟩ : Addr).add j) = some q := fun j q hj => by
  have hjl := (List.getElem?_eq_some_iff.1 hj).1
  rw [bcl_len] at hjl
  rw [Addr.add_lit, cell_rowB hg]
  have : cur.toList[j]? = (bcl cs)[j]? := by rw [← ht, List.getElem?_take, if_pos hjl]
  rw [Nat.zero_add, this, hj]
 refine wpList_append_own _ hgd s x 130 ho B 133 i0 (.agg #[.string ⟨#[]⟩, .int .i64 0]) 2 24 Tryz.underlying130 hi hz0 hz1 hz2 rfl (by decide) v bs.length (bcl bs) hs hown ⟨g, 0, none⟩ cs.length cap (bcl cs) hx (bcl_len _) n2
  (bcl_one _) (by rw [show maxLen = 9223372036854775807 from rfl]; omega) (by omega) hB ?_
 intro v' w' q1 q2 _
 refine h v' w' ?_ q2
 show World.ownsRow _ _ _ _ _ _ _
 rw [bcl_app, List.length_append]
 exact q1
set_option maxRecDepth 100000 in
set_option maxHeartbeats 8000000 in
theorem pjoin_behind (w : World) (gc g bm k : Nat) (m : Int → Option Value) (n a s : Nd) (kv vv dv ak av' ad sk sv sd : Value) (i : Nat) (sid : Int) (key : Str) (hM : ChM w gc g bm k m) (hn : RdN w kv vv dv n) (ha : RdN w ak av' ad a) (hs : RdN w sk sv sd s) (hsid : n.kids[(i + 1)]? = some sid) (hwf : (Lit.int .i64 sid).wf = true) (hm : m sid = some (nv s sk sv sd)) (hkey : n.keys[i]? = some key)
  (hka : a.kids.length = a.keys.length + 1) (hks : s.kids.length = s.keys.length + 1) (hla : a.keys.length ≤ 400) (hls : s.keys.length ≤ 400) (hln : n.kids.length ≤ 1000) :
  Calls Tryz.prog 68 #[.pointer (some ⟨gc, 0, none⟩), nv n kv vv dv, .int .i64 (i : Int), .int .i64 ((i : Int)), nv a ak av' ad] w fun e w' => ∃ kv' dv', e = .returned (nv (inr (brs a ++ (key, s.kids.headD 0) :: (brs s).tail)) kv' (.slice none 0 0) dv') ∧ OwnN w.heap.size w' kv' (.slice none 0 0) dv' (inr (brs a ++ (key, s.kids.headD 0) :: (brs s).tail)) ∧ Below w.heap.size w w' := by
 obtain ⟨ka, kc, va, vc, da, dc, rfl, rfl, rfl⟩ := hn.slices
 obtain ⟨aka, akc, ava, avc, ada, adc, rfl, rfl, rfl⟩ := ha.slices
 obtain ⟨ska, skc, sva, svc, sda, sdc, rfl, rfl, rfl⟩ := hs.slices
 obtain ⟨W1, hW1, D1, b1, s1⟩ := boxedN w #[.bool n.leaf, .slice ka n.keys.length kc, .slice va n.vals.length vc, .slice da n.kids.length dc] 76
 obtain ⟨W2, hW2, D2, b2, s2⟩ := boxedN W1 #[.bool a.leaf, .slice aka a.keys.length akc, .slice ava a.vals.length avc, .slice ada a.kids.length adc] 76
 obtain ⟨X, hX, D3, b3, s3⟩ := boxedN W2 #[.bool false, .slice none 0 0, .slice none 0 0, .slice none 0 0] 76
 have b12 := b1.trans (b2.mono b1.size)
 have bX := b12.trans (b3.mono b12.size)
 have sX : X.heap.size = w.heap.size + 1 + 1 + 1 := by rw [s3, s2, s1]
 rw [s1] at D2
 rw [s2, s1] at D3
 have HX := hide (And.intro ((b3.block _ (lt_of_block ((b2.block _ (lt_of_block D1)).trans D1))).trans ((b2.block _ (lt_of_block D1)).trans D1)) (And.intro ((b3.block _ (lt_of_block D2)).trans D2) (And.intro D3 bX)))
 obtain ⟨db, dO, rfl, hcd⟩ := hn.kids.intAt hsid
 obtain ⟨kb, ko, rfl, hck⟩ := hn.keys.strAt hkey
 have hZ9 : (i + 1) < n.kids.length := (List.getElem?_eq_some_iff.1 hsid).1
 have hK9 : i < n.keys.length := (List.getElem?_eq_some_iff.1 hkey).1
 have HN := hide hn
 have HA := hide ha
 have HS := hide hs
 have HM := hide hM
 obtain ⟨Z, hZ⟩ : ∃ q, q = n.kids.length := ⟨_, rfl⟩
 obtain ⟨KK, hKK⟩ : ∃ q, q = n.keys.length := ⟨_, rfl⟩
 rw [← hZ] at hZ9 hln
 rw [← hKK] at hK9
 simp only [← hZ, ← hKK] at HX hW1
 dsimp only [nv]
 rw [← hZ, ← hKK]
 replace hZ := hide hZ
 replace hKK := hide hKK
 have hka' := hide hka
 have hks' := hide hks
 have hm' := hide hm
 have hwf' := hide hwf
 have hsX := hide sX
 have e1 : IntKind.i64.wrap ((i : Int) + 1) = (i : Int) + 1 := IntWalk.i64_in _ (by omega)
 have e2 : (0 : Int) ≤ (i : Int) + 1 := by omega
 have e3 : ((i : Int) + 1).toNat = i + 1 := by omega
 have e4 : (i : Int) + 1 < (Z : Int) := by omega
 have f1 : ((i : Int) == (i : Int)) = true := by simp
 have f2 : (i : Int) < (Z : Int) := by omega
 have f3 : (i : Int) < (KK : Int) := by omega
 clear hn ha hs hM D1 D2 D3 b1 b2 b3 b12 bX s1 s2 s3 sX hka hks hm hwf hsid hkey
 go_enter Tryz.func68, Tryz.ntmps68
 go_upto_region 1 with fail
 rw [← hW1, ← hW2, ← hX]
 replace hW1 := hide hW1
 replace hW2 := hide hW2
 replace hX := hide hX
 go_cut [11, 12] from 14 to 15 (fun p11 p12 wx => ∃ g11 g12 : Nat, p11 = .pointer (some ⟨g11, 0, none⟩) ∧ p12 = .pointer (some ⟨g12, 0, none⟩) ∧ Hid (X.heap.size ≤ g11 ∧ X.heap.size ≤ g12 ∧ g11 ≠ g12 ∧ Below X.heap.size X wx ∧ wx.heap[g11]? = some (.cells #[.bool a.leaf, .slice aka a.keys.length akc, .slice ava a.vals.length avc, .slice ada a.kids.length adc] 76 (0, 0)) ∧ wx.heap[g12]? = some (.cells #[.bool a.leaf, .slice aka a.keys.length akc, .slice ava a.vals.length avc, .slice ada a.kids.length adc] 76 (0, 0))))
 case first =>
  have b0 : Below X.heap.size X X.drew := below_drewN' X 1 _
  have S0 := (cells4 ((b0.block _ (lt_of_block HX.out.2.1)).trans HX.out.2.1)).1
  have HSS : Hid (∀ w', Below X.heap.size X w' → _) := fun w' q => (cells4 ((q.block _ (lt_of_block HX.out.2.1)).trans HX.out.2.1)).1
  refine wp_region_fan (fun w' => w'.cell? ⟨w.heap.size + 1, 0, none⟩ = some (.bool a.leaf) ∧ w'.cell? ⟨w.heap.size + 1, 1, none⟩ = some (.slice aka a.keys.length akc) ∧ w'.cell? ⟨w.heap.size + 1, 2, none⟩ = some (.slice ava a.vals.length avc) ∧ w'.cell? ⟨w.heap.size + 1, 3, none⟩ = some (.slice ada a.kids.length adc)) 5 mixed (by simp) ?_
  generalize X.drew = c0 at *
  refine fan_take (i := 0) (v := ?_) rfl (by kernel_rfl) (fun _ _ _ _ h => h) (by kernel_rfl) S0 ?_ ?_
  rotate_left
  ·rintro w' ⟨s1, s2, s3, s4⟩
   go_simp
   try with_reducible rfl
  try simp only [Act.put, List.setIfInBounds_toArray, List.set_cons_zero, List.set_cons_succ]
  refine fan_take (i := 1) (v := ?_) rfl (by kernel_rfl) (fun _ _ _ _ h => h) (by kernel_rfl) S0 ?_ ?_
  rotate_left
  ·rintro w' ⟨s1, s2, s3, s4⟩
   go_simp
   try with_reducible rfl
  try simp only [Act.put, List.setIfInBounds_toArray, List.set_cons_zero, List.set_cons_succ]
  refine fan_two 2 3 (by kernel_rfl) ?_ ?_
  ·refine fan_step rfl (by kernel_rfl) fun K' hK' => ?_
   go_simp
   obtain ⟨d1, hc1, E1, q1, r1⟩ := boxedN c0 #[.bool false, .slice none 0 0, .slice none 0 0, .slice none 0 0] 76
   rw [← hc1]
   obtain ⟨x1, hx1⟩ : ∃ q, q = c0.heap.size := ⟨_, rfl⟩
   rw [← hx1] at E1 ⊢
   have bb1 := b0.trans (q1.mono b0.size)
   refine hK' _ _ (HSS.out _ bb1) ?_
   clear hK' K'
   try simp only [Act.put, List.setIfInBounds_toArray, List.set_cons_zero, List.set_cons_succ]
   replace hx1 := hide hx1
   clear hc1 r1
   refine fan_one 3 (by kernel_rfl) ?_
   refine fan_step rfl (by kernel_rfl) fun K' hK' => ?_
   go_simp
   obtain ⟨d2, hc2, E2, q2, r2⟩ := boxedN d1 #[.bool false, .slice none 0 0, .slice none 0 0, .slice none 0 0] 76
   rw [← hc2]
   obtain ⟨x2, hx2⟩ : ∃ q, q = d1.heap.size := ⟨_, rfl⟩
   rw [← hx2] at E2 ⊢
   have bb2 := bb1.trans (q2.mono bb1.size)
   have E1' := (q2.block _ (lt_of_block E1)).trans E1
   have hne : x1 ≠ x2 := by have := lt_of_block E1; omega
   have l1 : X.heap.size ≤ x1 := by have := hx1.out; have := b0.size; omega
   have l2 : X.heap.size ≤ x2 := by have := bb1.size; omega
   refine hK' _ _ (HSS.out _ bb2) ?_
   clear hK' K'
   try simp only [Act.put, List.setIfInBounds_toArray, List.set_cons_zero, List.set_cons_succ]
   replace hx2 := hide hx2
   clear hc2 r2
   obtain ⟨V, hV, v1, v2, v3⟩ := set8 (hne) (E1') (E2) bb2 (l1) (l2) (.bool a.leaf) (.slice aka a.keys.length akc) (.slice ava a.vals.length avc) (.slice ada a.kids.length adc) (.bool a.leaf) (.slice aka a.keys.length akc) (.slice ava a.vals.length avc) (.slice ada a.kids.length adc)
   have FN := hide (And.intro v1 (And.intro v2 v3))
   rw [hV] at FN
   have Z1 := E1'
   have Z2 := keep_set4 E2 (show x2 ≠ x1 by omega) (.bool a.leaf) (.slice aka a.keys.length akc) (.slice ava a.vals.length avc) (.slice ada a.kids.length adc)
   have B2 := keep_set4 ((bb2.block _ (lt_of_block HX.out.2.1)).trans HX.out.2.1) (show w.heap.size + 1 ≠ x1 by have := hsX.out; omega) (.bool a.leaf) (.slice aka a.keys.length akc) (.slice ava a.vals.length avc) (.slice ada a.kids.length adc)
   obtain ⟨⟨y0, y1, y2, y3⟩, yf⟩ := cells4 Z1
   refine fan_one 4 (by kernel_rfl) ?_
   refine fan_step rfl (by kernel_rfl) fun K' hK' => ?_
   clear hV v1 v2 v3
   go_simp
   refine hK' _ _ (cells4 B2).1 ?_
   clear hK' K'
   refine fan_done (by kernel_rfl) ?_
   show wpList _ _ _ _ _ _
   obtain ⟨⟨z0, z1, z2, z3⟩, zf⟩ := cells4 Z2
   dsimp only [List.drop]
   clear y0 y1 y2 y3 yf E1 E1' E2 Z1 Z2 B2 q1 q2 bb1 bb2
   go_wp2_with fail
   go_meet
   exact ⟨_, _, rfl, rfl, hide ⟨l1, l2, hne, FN.out.2.2, FN.out.1, FN.out.2.1⟩⟩
  ·refine fan_step rfl (by kernel_rfl) fun K' hK' => ?_
   go_simp
   obtain ⟨d1, hc1, E1, q1, r1⟩ := boxedN c0 #[.bool false, .slice none 0 0, .slice none 0 0, .slice none 0 0] 76
   rw [← hc1]
   obtain ⟨x1, hx1⟩ : ∃ q, q = c0.heap.size := ⟨_, rfl⟩
   rw [← hx1] at E1 ⊢
   have bb1 := b0.trans (q1.mono b0.size)
   refine hK' _ _ (HSS.out _ bb1) ?_
   clear hK' K'
   try simp only [Act.put, List.setIfInBounds_toArray, List.set_cons_zero, List.set_cons_succ]
   replace hx1 := hide hx1
   clear hc1 r1
   refine fan_one 2 (by kernel_rfl) ?_
   refine fan_step rfl (by kernel_rfl) fun K' hK' => ?_
   go_simp
   obtain ⟨d2, hc2, E2, q2, r2⟩ := boxedN d1 #[.bool false, .slice none 0 0, .slice none 0 0, .slice none 0 0] 76
   rw [← hc2]
   obtain ⟨x2, hx2⟩ : ∃ q, q = d1.heap.size := ⟨_, rfl⟩
   rw [← hx2] at E2 ⊢
   have bb2 := bb1.trans (q2.mono bb1.size)
   have E1' := (q2.block _ (lt_of_block E1)).trans E1
   have hne : x1 ≠ x2 := by have := lt_of_block E1; omega
   have l1 : X.heap.size ≤ x1 := by have := hx1.out; have := b0.size; omega
   have l2 : X.heap.size ≤ x2 := by have := bb1.size; omega
   refine hK' _ _ (HSS.out _ bb2) ?_
   clear hK' K'
   try simp only [Act.put, List.setIfInBounds_toArray, List.set_cons_zero, List.set_cons_succ]
   replace hx2 := hide hx2
   clear hc2 r2
   obtain ⟨V, hV, v1, v2, v3⟩ := set8 (hne.symm) (E2) (E1') bb2 (l2) (l1) (.bool a.leaf) (.slice aka a.keys.length akc) (.slice ava a.vals.length avc) (.slice ada a.kids.length adc) (.bool a.leaf) (.slice aka a.keys.length akc) (.slice ava a.vals.length avc) (.slice ada a.kids.length adc)
   have FN := hide (And.intro v1 (And.intro v2 v3))
   rw [hV] at FN
   have Z1 := E2
   have Z2 := keep_set4 E1' (show x1 ≠ x2 by omega) (.bool a.leaf) (.slice aka a.keys.length akc) (.slice ava a.vals.length avc) (.slice ada a.kids.length adc)
   have B2 := keep_set4 ((bb2.block _ (lt_of_block HX.out.2.1)).trans HX.out.2.1) (show w.heap.size + 1 ≠ x2 by have := hsX.out; omega) (.bool a.leaf) (.slice aka a.keys.length akc) (.slice ava a.vals.length avc) (.slice ada a.kids.length adc)
   obtain ⟨⟨y0, y1, y2, y3⟩, yf⟩ := cells4 Z1
   refine fan_one 4 (by kernel_rfl) ?_
   refine fan_step rfl (by kernel_rfl) fun K' hK' => ?_
   clear hV v1 v2 v3
   go_simp
   refine hK' _ _ (cells4 B2).1 ?_
   clear hK' K'
   refine fan_done (by kernel_rfl) ?_
   show wpList _ _ _ _ _ _
   obtain ⟨⟨z0, z1, z2, z3⟩, zf⟩ := cells4 Z2
   dsimp only [List.drop]
   clear y0 y1 y2 y3 yf E1 E1' E2 Z1 Z2 B2 q1 q2 bb1 bb2
   go_wp2_with fail
   go_meet
   exact ⟨_, _, rfl, rfl, hide ⟨l2, l1, hne.symm, FN.out.2.2, FN.out.1, FN.out.2.1⟩⟩
 case rest =>
  obtain ⟨g11, g12, rfl, rfl, hT⟩ := hcut
  go_upto_region 3 with fail
  obtain ⟨l11, l12, hne, bT, D11, D12⟩ := hT.out
  have b0 : Below wc.heap.size wc wc.drew := below_drewN' wc 1 _
  obtain ⟨c1, hc1⟩ : ∃ c, c = wc.drew := ⟨_, rfl⟩
  rw [← hc1] at b0
  have bTc := bT.trans (b0.mono bT.size)
  have belc := HX.out.2.2.2.trans (bTc.mono HX.out.2.2.2.size)
  have M1 := HM.out.to belc
  have N0 := (bTc.block _ (lt_of_block HX.out.1)).trans HX.out.1
  have R0 := (bTc.block _ (lt_of_block HX.out.2.2.1)).trans HX.out.2.2.1
  have G11 := (b0.block _ (lt_of_block D11)).trans D11
  have G12 := (b0.block _ (lt_of_block D12)).trans D12
  obtain ⟨⟨E0, E1, E2, E3⟩, EF⟩ := cells4 N0
  have kc9 := (belc.cell (cell_lt hcd)).trans hcd
  refine wp_region_mid (fun w' => (w'.cell? ⟨gc, 0, none⟩ = some (.pointer (some ⟨g, 0, none⟩)) ∧ w'.cell? ⟨g, 3, none⟩ = some (.map (some bm)) ∧ w'.cell? ⟨w.heap.size, 3, none⟩ = some (.slice (some ⟨db, dO, none⟩) Z dc)) ∧ w'.cell? ⟨db, dO + (i + 1), none⟩ = some (.int .i64 sid) ∧ MapI w' bm k m) 14 14 mixed (by kernel_rfl) (fun _ _ _ _ h => h) (by rw [← hc1]; exact ⟨⟨M1.c, M1.s, E3⟩, kc9, M1.map⟩) ?_
  rw [← hc1]
  replace hc1 := hide hc1
  dsimp only [List.take, List.drop]
  iterate 14
   refine take_one (v := ?_) (by rfl) ?_ ?_
   rotate_left
   ·rintro w' ⟨⟨s1, s2, s3⟩, s4, s5⟩
    have hlk := s5.look Tryz.underlying86 (zeroNd w') hwf'.out false
    rw [hm'.out] at hlk
    simp only [Option.getD_some, Bool.false_eq_true, if_false] at hlk
    dsimp only [nv] at hlk
    go_simp
    try with_reducible rfl
   try simp only [Act.put, List.setIfInBounds_toArray, List.set_cons_zero, List.set_cons_succ]
  show wpList _ _ _ _ _ _
  obtain ⟨V, hV⟩ : ∃ V, V = S4 g12 c1 (.bool s.leaf) (.slice ska s.keys.length skc) (.slice sva s.vals.length svc) (.slice sda s.kids.length sdc) := ⟨_, rfl⟩
  have hsz := hsX.out
  have VT : V.heap[g12]? = some (.cells #[.bool s.leaf, .slice ska s.keys.length skc, .slice sva s.vals.length svc, .slice sda s.kids.length sdc] 76 (0, 0)) := by rw [hV]; exact heap_set4 G12 _ _ _ _
  have VO : V.heap[g11]? = some (.cells #[.bool a.leaf, .slice aka a.keys.length akc, .slice ava a.vals.length avc, .slice ada a.kids.length adc] 76 (0, 0)) := by rw [hV]; exact keep_set4 G11 (by omega) _ _ _ _
  have VN : V.heap[w.heap.size]? = some (.cells #[.bool n.leaf, .slice (some ⟨kb, ko, none⟩) KK kc, .slice va n.vals.length vc, .slice (some ⟨db, dO, none⟩) Z dc] 76 (0, 0)) := by rw [hV]; exact keep_set4 N0 (by omega) _ _ _ _
  have VR : V.heap[w.heap.size + 1 + 1]? = some (.cells #[.bool false, .slice none 0 0, .slice none 0 0, .slice none 0 0] 76 (0, 0)) := by rw [hV]; exact keep_set4 R0 (by omega) _ _ _ _
  have bV : Below w.heap.size w V := by rw [hV]; exact below_set4n belc (by omega) _ _ _ _
  have KB := hide (pbrs_any V s _ _ _ (HS.out.to bV) hks'.out (by omega))
  have HV := hide (And.intro VN (And.intro VR (And.intro VT (And.intro VO bV))))
  obtain ⟨⟨y0, y1, y2, y3⟩, yf⟩ := cells4 G12
  obtain ⟨⟨t0, t1, t2, t3⟩, tf⟩ := cells4 VT
  rw [hV] at KB t0 t1 t2 t3 tf
  dsimp only [nv] at KB
  clear VT VO VN VR bV M1 N0 R0 belc bTc bT b0 E0 E1 E2 E3 EF kc9 G11 G12 D11 D12
  go_wp2_with fail
  refine KB.out.mono ?_
  rintro e w5 ⟨v5, rfl, o5, b5⟩
  have hV' := hV
  rw [← hV'] at o5 b5
  replace hV := hide hV
  clear KB y0 y1 y2 y3 yf t0 t1 t2 t3 tf hV'
  obtain ⟨VN, VR, VT, VO, bV⟩ := HV.out
  have bw5 := bV.trans (b5.mono bV.size)
  have hbr : brs s = ([], s.kids.headD 0) :: (brs s).tail := rfl
  rw [hbr] at o5
  obtain ⟨gB, capB, rfl, lB, oB, keepB, cB, fB⟩ := OwnBr.first o5 key
  obtain ⟨U, hU⟩ : ∃ U, U = w5.setCell ⟨gB, 0, none⟩ (st key) := ⟨_, rfl⟩
  rw [← hU] at oB keepB
  have N5 := (b5.block _ (lt_of_block VN)).trans VN
  obtain ⟨⟨E0, E1, E2, E3⟩, EF⟩ := cells4 N5
  have ck := (bw5.cell (cell_lt hck)).trans hck
  have bU : Below w.heap.size w U := by rw [hU]; exact bw5.setCell (p := ⟨gB, 0, none⟩) (Nat.le_trans bV.size lB) _
  have hgl : g11 ≠ gB := by have := lt_of_block VO; omega
  have UL := (keepB g11 hgl).trans ((b5.block _ (lt_of_block VO)).trans VO)
  have UR := (keepB (w.heap.size + 1 + 1) (by have := lt_of_block VR; omega)).trans ((b5.block _ (lt_of_block VR)).trans VR)
  have sU : U.heap.size = w5.heap.size := by rw [hU]; simp
  have KL := hide (pbrs_any U a _ _ _ (HA.out.to bU) hka'.out (by omega))
  obtain ⟨⟨t0, t1, t2, t3⟩, tf⟩ := cells4 UL
  have HU := hide (And.intro UR (And.intro oB bU))
  generalize hLB : ((brs s).tail.length + 1) = LB at *
  replace hLB := hide hLB
  have hLB0 : 0 < LB := by have := hLB.out; omega
  rw [hU] at KL t0 t1 t2 t3 tf
  dsimp only [nv] at KL
  clear UL UR oB bU N5 o5 b5 bw5 keepB
  go_wp2_with fail
  refine KL.out.mono ?_
  rintro e w6 ⟨v6, rfl, o6, b6⟩
  rw [← hU] at o6 b6
  replace hU := hide hU
  clear KL t0 t1 t2 t3 tf E0 E1 E2 E3 EF ck cB fB
  obtain ⟨UR, oB, bU⟩ := HU.out
  have oB6 := rows_to oB b6
  obtain ⟨a6, c6, hv6⟩ := o6.slice
  have lt6 : (brs s).tail.length ≤ 400 := by
   have h9 := brs_len hks'.out
   rw [hks'.out, hbr, List.length_cons] at h9
   omega
  have ll6 : (brs a).length ≤ 401 := by rw [brs_len hka'.out, hka'.out]; omega
  have H6 := hide (And.intro ((b6.block _ (lt_of_block UR)).trans UR) (And.intro o6 (bU.trans (b6.mono bU.size))))
  have o6' := hide o6
  have oB6' : Hid (OwnBr V.heap.size w6 (.slice (some ⟨gB, 0, none⟩) LB capB) ((key, s.kids.headD 0) :: (brs s).tail)) := oB6
  have hl6 : U.heap.size ≤ w6.heap.size := b6.size
  have hbU : w.heap.size ≤ U.heap.size := bU.size
  have hbU2 : w.heap.size + 1 + 1 < U.heap.size := lt_of_block UR
  clear oB6 oB UR bU b6 o6
  obtain ⟨LL, hLL⟩ : ∃ q, q = (brs a).length := ⟨_, rfl⟩
  rw [← hLL] at hv6
  replace hLL := hide hLL
  have hl9 : Hid ((brs a).length + ((key, s.kids.headD 0) :: (brs s).tail).length ≤ 10000 ∧ (brs a ++ (key, s.kids.headD 0) :: (brs s).tail).length ≤ 1000) := by
   rw [List.length_append, List.length_cons]
   exact ⟨by omega, by omega⟩
  subst hv6
  clear lt6 ll6
  go_wp2_with (at_builtin; refine wpList_appBs rfl _ _ rfl U.heap.size V.heap.size _ _ _ _ rfl rfl o6'.out oB6'.out (by simp) hl9.out.1 hl6 ?_; intro v7 w7 o7 r7)
  have KI := hide (pinr_any U.heap.size w7 v7 _ o7 hl9.out.2)
  obtain ⟨R6, o6, b6⟩ := H6.out
  have bw7 : Below w.heap.size w w7 := b6.grown r7 (Nat.le_trans hbU hl6) (fun q hq => Nat.le_trans hbU (World.ownsRow.lt o6 q hq).1)
  have R7 : w7.heap[w.heap.size + 1 + 1]? = some (.cells #[.bool false, .slice none 0 0, .slice none 0 0, .slice none 0 0] 76 (0, 0)) := (r7.block _ (lt_of_block R6) (fun e9 => by have := (World.ownsRow.lt o6 _ e9.symm).1; omega)).trans R6
  obtain ⟨a7, c7, hv7⟩ := o7.slice
  obtain ⟨L7, hL7⟩ : ∃ q, q = (brs a ++ (key, s.kids.headD 0) :: (brs s).tail).length := ⟨_, rfl⟩
  rw [← hL7] at hv7
  replace hL7 := hide hL7
  subst hv7
  have H7 := hide (And.intro R7 bw7)
  clear o6 b6 R6 R7 bw7 o7 r7 o6' oB6' H6 HU HV
  go_wp2_with fail
  refine KI.out.mono ?_
  rintro e w8 ⟨kv8, dv8, rfl, o8, b8⟩
  obtain ⟨R7, bw7⟩ := H7.out
  have R8 := (b8.block _ (lt_of_block R7)).trans R7
  have HR8 := hide R8
  obtain ⟨⟨J0, J1, J2, J3⟩, JF⟩ := cells4 R8
  obtain ⟨k8a, k8c, hk8⟩ := o8.keys.rd.slice
  obtain ⟨d8a, d8c, hd8⟩ := o8.kids.rd.slice
  have o8' := hide o8
  have B8 := hide (bw7.trans (b8.mono bw7.size))
  have hw7 : Hid (w.heap.size ≤ w7.heap.size) := bw7.size
  generalize hNN : inr (brs a ++ (key, s.kids.headD 0) :: (brs s).tail) = NN at *
  have hNl : NN.leaf = false := by rw [← hNN]; rfl
  replace hNN := hide hNN
  subst hk8 hd8
  clear o8 b8 R7 bw7 R8 KI H7
  dsimp only [nv]
  go_wp2
  refine retN rfl rfl (w.heap.size + 1 + 1) rfl _ _ (0, 0) (heap_set4 HR8.out _ _ _ _) _ Tryz.underlying76 rfl info_nd10 ?_
  have k1 := fun e (he : e ≠ 76) => s4_keep HR8.out (.bool false) (.slice k8a NN.keys.length k8c) (.slice none 0 0) (.slice d8a NN.kids.length d8c) he
  refine ⟨_, _, rfl, ?_, below_set4n B8.out (by omega) _ _ _ _⟩
  rw [hNN.out]
  exact (o8'.out.mono hw7.out).keepT (k1 _ (by decide)) (k1 _ (by decide))
set_option maxRecDepth 100000 in
set_option maxHeartbeats 8000000 in
theorem pjoin_ahead (w : World) (gc g bm k : Nat) (m : Int → Option Value) (n a s : Nd) (kv vv dv ak av' ad sk sv sd : Value) (i : Nat) (sid : Int) (key : Str) (hM : ChM w gc g bm k m) (hn : RdN w kv vv dv n) (ha : RdN w ak av' ad a) (hs : RdN w sk sv sd s) (hsid : n.kids[i]? = some sid) (hwf : (Lit.int .i64 sid).wf = true) (hm : m sid = some (nv s sk sv sd)) (hkey : n.keys[i]? = some key)
  (hka : a.kids.length = a.keys.length + 1) (hks : s.kids.length = s.keys.length + 1) (hla : a.keys.length ≤ 400) (hls : s.keys.length ≤ 400) (hln : n.kids.length ≤ 1000) :
  Calls Tryz.prog 68 #[.pointer (some ⟨gc, 0, none⟩), nv n kv vv dv, .int .i64 (i : Int), .int .i64 ((i : Int) + 1), nv a ak av' ad] w fun e w' => ∃ kv' dv', e = .returned (nv (inr (brs s ++ (key, a.kids.headD 0) :: (brs a).tail)) kv' (.slice none 0 0) dv') ∧ OwnN w.heap.size w' kv' (.slice none 0 0) dv' (inr (brs s ++ (key, a.kids.headD 0) :: (brs a).tail)) ∧ Below w.heap.size w w' := by
 obtain ⟨ka, kc, va, vc, da, dc, rfl, rfl, rfl⟩ := hn.slices
 obtain ⟨aka, akc, ava, avc, ada, adc, rfl, rfl, rfl⟩ := ha.slices
 obtain ⟨ska, skc, sva, svc, sda, sdc, rfl, rfl, rfl⟩ := hs.slices
 obtain ⟨W1, hW1, D1, b1, s1⟩ := boxedN w #[.bool n.leaf, .slice ka n.keys.length kc, .slice va n.vals.length vc, .slice da n.kids.length dc] 76
 obtain ⟨W2, hW2, D2, b2, s2⟩ := boxedN W1 #[.bool a.leaf, .slice aka a.keys.length akc, .slice ava a.vals.length avc, .slice ada a.kids.length adc] 76
 obtain ⟨X, hX, D3, b3, s3⟩ := boxedN W2 #[.bool false, .slice none 0 0, .slice none 0 0, .slice none 0 0] 76
 have b12 := b1.trans (b2.mono b1.size)
 have bX := b12.trans (b3.mono b12.size)
 have sX : X.heap.size = w.heap.size + 1 + 1 + 1 := by rw [s3, s2, s1]
 rw [s1] at D2
 rw [s2, s1] at D3
 have HX := hide (And.intro ((b3.block _ (lt_of_block ((b2.block _ (lt_of_block D1)).trans D1))).trans ((b2.block _ (lt_of_block D1)).trans D1)) (And.intro ((b3.block _ (lt_of_block D2)).trans D2) (And.intro D3 bX)))
 obtain ⟨db, dO, rfl, hcd⟩ := hn.kids.intAt hsid
 obtain ⟨kb, ko, rfl, hck⟩ := hn.keys.strAt hkey
 have hZ9 : i < n.kids.length := (List.getElem?_eq_some_iff.1 hsid).1
 have hK9 : i < n.keys.length := (List.getElem?_eq_some_iff.1 hkey).1
 have HN := hide hn
 have HA := hide ha
 have HS := hide hs
 have HM := hide hM
 obtain ⟨Z, hZ⟩ : ∃ q, q = n.kids.length := ⟨_, rfl⟩
 obtain ⟨KK, hKK⟩ : ∃ q, q = n.keys.length := ⟨_, rfl⟩
 rw [← hZ] at hZ9 hln
 rw [← hKK] at hK9
 simp only [← hZ, ← hKK] at HX hW1
 dsimp only [nv]
 rw [← hZ, ← hKK]
 replace hZ := hide hZ
 replace hKK := hide hKK
 have hka' := hide hka
 have hks' := hide hks
 have hm' := hide hm
 have hwf' := hide hwf
 have hsX := hide sX
 have f1 : ((i : Int) == (i : Int) + 1) = false := by simp; omega
 have f2 : (i : Int) < (Z : Int) := by omega
 have f3 : (i : Int) < (KK : Int) := by omega
 clear hn ha hs hM D1 D2 D3 b1 b2 b3 b12 bX s1 s2 s3 sX hka hks hm hwf hsid hkey
 go_enter Tryz.func68, Tryz.ntmps68
 go_upto_region 1 with fail
 rw [← hW1, ← hW2, ← hX]
 replace hW1 := hide hW1
 replace hW2 := hide hW2
 replace hX := hide hX
 go_cut [11, 12] from 14 to 15 (fun p11 p12 wx => ∃ g11 g12 : Nat, p11 = .pointer (some ⟨g11, 0, none⟩) ∧ p12 = .pointer (some ⟨g12, 0, none⟩) ∧ Hid (X.heap.size ≤ g11 ∧ X.heap.size ≤ g12 ∧ g11 ≠ g12 ∧ Below X.heap.size X wx ∧ wx.heap[g11]? = some (.cells #[.bool a.leaf, .slice aka a.keys.length akc, .slice ava a.vals.length avc, .slice ada a.kids.length adc] 76 (0, 0)) ∧ wx.heap[g12]? = some (.cells #[.bool a.leaf, .slice aka a.keys.length akc, .slice ava a.vals.length avc, .slice ada a.kids.length adc] 76 (0, 0))))
 case first =>
  have b0 : Below X.heap.size X X.drew := below_drewN' X 1 _
  have S0 := (cells4 ((b0.block _ (lt_of_block HX.out.2.1)).trans HX.out.2.1)).1
  have HSS : Hid (∀ w', Below X.heap.size X w' → _) := fun w' q => (cells4 ((q.block _ (lt_of_block HX.out.2.1)).trans HX.out.2.1)).1
  refine wp_region_fan (fun w' => w'.cell? ⟨w.heap.size + 1, 0, none⟩ = some (.bool a.leaf) ∧ w'.cell? ⟨w.heap.size + 1, 1, none⟩ = some (.slice aka a.keys.length akc) ∧ w'.cell? ⟨w.heap.size + 1, 2, none⟩ = some (.slice ava a.vals.length avc) ∧ w'.cell? ⟨w.heap.size + 1, 3, none⟩ = some (.slice ada a.kids.length adc)) 5 mixed (by simp) ?_
  generalize X.drew = c0 at *
  refine fan_take (i := 0) (v := ?_) rfl (by kernel_rfl) (fun _ _ _ _ h => h) (by kernel_rfl) S0 ?_ ?_
  rotate_left
  ·rintro w' ⟨s1, s2, s3, s4⟩
   go_simp
   try with_reducible rfl
  try simp only [Act.put, List.setIfInBounds_toArray, List.set_cons_zero, List.set_cons_succ]
  refine fan_take (i := 1) (v := ?_) rfl (by kernel_rfl) (fun _ _ _ _ h => h) (by kernel_rfl) S0 ?_ ?_
  rotate_left
  ·rintro w' ⟨s1, s2, s3, s4⟩
   go_simp
   try with_reducible rfl
  try simp only [Act.put, List.setIfInBounds_toArray, List.set_cons_zero, List.set_cons_succ]
  refine fan_two 2 3 (by kernel_rfl) ?_ ?_
  ·refine fan_step rfl (by kernel_rfl) fun K' hK' => ?_
   go_simp
   obtain ⟨d1, hc1, E1, q1, r1⟩ := boxedN c0 #[.bool false, .slice none 0 0, .slice none 0 0, .slice none 0 0] 76
   rw [← hc1]
   obtain ⟨x1, hx1⟩ : ∃ q, q = c0.heap.size := ⟨_, rfl⟩
   rw [← hx1] at E1 ⊢
   have bb1 := b0.trans (q1.mono b0.size)
   refine hK' _ _ (HSS.out _ bb1) ?_
   clear hK' K'
   try simp only [Act.put, List.setIfInBounds_toArray, List.set_cons_zero, List.set_cons_succ]
   replace hx1 := hide hx1
   clear hc1 r1
   refine fan_one 3 (by kernel_rfl) ?_
   refine fan_step rfl (by kernel_rfl) fun K' hK' => ?_
   go_simp
   obtain ⟨d2, hc2, E2, q2, r2⟩ := boxedN d1 #[.bool false, .slice none 0 0, .slice none 0 0, .slice none 0 0] 76
   rw [← hc2]
   obtain ⟨x2, hx2⟩ : ∃ q, q = d1.heap.size := ⟨_, rfl⟩
   rw [← hx2] at E2 ⊢
   have bb2 := bb1.trans (q2.mono bb1.size)
   have E1' := (q2.block _ (lt_of_block E1)).trans E1
   have hne : x1 ≠ x2 := by have := lt_of_block E1; omega
   have l1 : X.heap.size ≤ x1 := by have := hx1.out; have := b0.size; omega
   have l2 : X.heap.size ≤ x2 := by have := bb1.size; omega
   refine hK' _ _ (HSS.out _ bb2) ?_
   clear hK' K'
   try simp only [Act.put, List.setIfInBounds_toArray, List.set_cons_zero, List.set_cons_succ]
   replace hx2 := hide hx2
   clear hc2 r2
   obtain ⟨V, hV, v1, v2, v3⟩ := set8 (hne) (E1') (E2) bb2 (l1) (l2) (.bool a.leaf) (.slice aka a.keys.length akc) (.slice ava a.vals.length avc) (.slice ada a.kids.length adc) (.bool a.leaf) (.slice aka a.keys.length akc) (.slice ava a.vals.length avc) (.slice ada a.kids.length adc)
   have FN := hide (And.intro v1 (And.intro v2 v3))
   rw [hV] at FN
   have Z1 := E1'
   have Z2 := keep_set4 E2 (show x2 ≠ x1 by omega) (.bool a.leaf) (.slice aka a.keys.length akc) (.slice ava a.vals.length avc) (.slice ada a.kids.length adc)
   have B2 := keep_set4 ((bb2.block _ (lt_of_block HX.out.2.1)).trans HX.out.2.1) (show w.heap.size + 1 ≠ x1 by have := hsX.out; omega) (.bool a.leaf) (.slice aka a.keys.length akc) (.slice ava a.vals.length avc) (.slice ada a.kids.length adc)
   obtain ⟨⟨y0, y1, y2, y3⟩, yf⟩ := cells4 Z1
   refine fan_one 4 (by kernel_rfl) ?_
   refine fan_step rfl (by kernel_rfl) fun K' hK' => ?_
   clear hV v1 v2 v3
   go_simp
   refine hK' _ _ (cells4 B2).1 ?_
   clear hK' K'
   refine fan_done (by kernel_rfl) ?_
   show wpList _ _ _ _ _ _
   obtain ⟨⟨z0, z1, z2, z3⟩, zf⟩ := cells4 Z2
   dsimp only [List.drop]
   clear y0 y1 y2 y3 yf E1 E1' E2 Z1 Z2 B2 q1 q2 bb1 bb2
   go_wp2_with fail
   go_meet
   exact ⟨_, _, rfl, rfl, hide ⟨l1, l2, hne, FN.out.2.2, FN.out.1, FN.out.2.1⟩⟩
  ·refine fan_step rfl (by kernel_rfl) fun K' hK' => ?_
   go_simp
   obtain ⟨d1, hc1, E1, q1, r1⟩ := boxedN c0 #[.bool false, .slice none 0 0, .slice none 0 0, .slice none 0 0] 76
   rw [← hc1]
   obtain ⟨x1, hx1⟩ : ∃ q, q = c0.heap.size := ⟨_, rfl⟩
   rw [← hx1] at E1 ⊢
   have bb1 := b0.trans (q1.mono b0.size)
   refine hK' _ _ (HSS.out _ bb1) ?_
   clear hK' K'
   try simp only [Act.put, List.setIfInBounds_toArray, List.set_cons_zero, List.set_cons_succ]
   replace hx1 := hide hx1
   clear hc1 r1
   refine fan_one 2 (by kernel_rfl) ?_
   refine fan_step rfl (by kernel_rfl) fun K' hK' => ?_
   go_simp
   obtain ⟨d2, hc2, E2, q2, r2⟩ := boxedN d1 #[.bool false, .slice none 0 0, .slice none 0 0, .slice none 0 0] 76
   rw [← hc2]
   obtain ⟨x2, hx2⟩ : ∃ q, q = d1.heap.size := ⟨_, rfl⟩
   rw [← hx2] at E2 ⊢
   have bb2 := bb1.trans (q2.mono bb1.size)
   have E1' := (q2.block _ (lt_of_block E1)).trans E1
   have hne : x1 ≠ x2 := by have := lt_of_block E1; omega
   have l1 : X.heap.size ≤ x1 := by have := hx1.out; have := b0.size; omega
   have l2 : X.heap.size ≤ x2 := by have := bb1.size; omega
   refine hK' _ _ (HSS.out _ bb2) ?_
   clear hK' K'
   try simp only [Act.put, List.setIfInBounds_toArray, List.set_cons_zero, List.set_cons_succ]
   replace hx2 := hide hx2
   clear hc2 r2
   obtain ⟨V, hV, v1, v2, v3⟩ := set8 (hne.symm) (E2) (E1') bb2 (l2) (l1) (.bool a.leaf) (.slice aka a.keys.length akc) (.slice ava a.vals.length avc) (.slice ada a.kids.length adc) (.bool a.leaf) (.slice aka a.keys.length akc) (.slice ava a.vals.length avc) (.slice ada a.kids.length adc)
   have FN := hide (And.intro v1 (And.intro v2 v3))
   rw [hV] at FN
   have Z1 := E2
   have Z2 := keep_set4 E1' (show x1 ≠ x2 by omega) (.bool a.leaf) (.slice aka a.keys.length akc) (.slice ava a.vals.length avc) (.slice ada a.kids.length adc)
   have B2 := keep_set4 ((bb2.block _ (lt_of_block HX.out.2.1)).trans HX.out.2.1) (show w.heap.size + 1 ≠ x2 by have := hsX.out; omega) (.bool a.leaf) (.slice aka a.keys.length akc) (.slice ava a.vals.length avc) (.slice ada a.kids.length adc)
   obtain ⟨⟨y0, y1, y2, y3⟩, yf⟩ := cells4 Z1
   refine fan_one 4 (by kernel_rfl) ?_
   refine fan_step rfl (by kernel_rfl) fun K' hK' => ?_
   clear hV v1 v2 v3
   go_simp
   refine hK' _ _ (cells4 B2).1 ?_
   clear hK' K'
   refine fan_done (by kernel_rfl) ?_
   show wpList _ _ _ _ _ _
   obtain ⟨⟨z0, z1, z2, z3⟩, zf⟩ := cells4 Z2
   dsimp only [List.drop]
   clear y0 y1 y2 y3 yf E1 E1' E2 Z1 Z2 B2 q1 q2 bb1 bb2
   go_wp2_with fail
   go_meet
   exact ⟨_, _, rfl, rfl, hide ⟨l2, l1, hne.symm, FN.out.2.2, FN.out.1, FN.out.2.1⟩⟩
 case rest =>
  obtain ⟨g11, g12, rfl, rfl, hT⟩ := hcut
  go_upto_region 4 with fail
  obtain ⟨l11, l12, hne, bT, D11, D12⟩ := hT.out
  have b0 : Below wc.heap.size wc wc.drew := below_drewN' wc 1 _
  obtain ⟨c1, hc1⟩ : ∃ c, c = wc.drew := ⟨_, rfl⟩
  rw [← hc1] at b0
  have bTc := bT.trans (b0.mono bT.size)
  have belc := HX.out.2.2.2.trans (bTc.mono HX.out.2.2.2.size)
  have M1 := HM.out.to belc
  have N0 := (bTc.block _ (lt_of_block HX.out.1)).trans HX.out.1
  have R0 := (bTc.block _ (lt_of_block HX.out.2.2.1)).trans HX.out.2.2.1
  have G11 := (b0.block _ (lt_of_block D11)).trans D11
  have G12 := (b0.block _ (lt_of_block D12)).trans D12
  obtain ⟨⟨E0, E1, E2, E3⟩, EF⟩ := cells4 N0
  have kc9 := (belc.cell (cell_lt hcd)).trans hcd
  refine wp_region_mid (fun w' => (w'.cell? ⟨gc, 0, none⟩ = some (.pointer (some ⟨g, 0, none⟩)) ∧ w'.cell? ⟨g, 3, none⟩ = some (.map (some bm)) ∧ w'.cell? ⟨w.heap.size, 3, none⟩ = some (.slice (some ⟨db, dO, none⟩) Z dc)) ∧ w'.cell? ⟨db, dO + i, none⟩ = some (.int .i64 sid) ∧ MapI w' bm k m) 13 13 mixed (by kernel_rfl) (fun _ _ _ _ h => h) (by rw [← hc1]; exact ⟨⟨M1.c, M1.s, E3⟩, kc9, M1.map⟩) ?_
  rw [← hc1]
  replace hc1 := hide hc1
  dsimp only [List.take, List.drop]
  iterate 13
   refine take_one (v := ?_) (by rfl) ?_ ?_
   rotate_left
   ·rintro w' ⟨⟨s1, s2, s3⟩, s4, s5⟩
    have hlk := s5.look Tryz.underlying86 (zeroNd w') hwf'.out false
    rw [hm'.out] at hlk
    simp only [Option.getD_some, Bool.false_eq_true, if_false] at hlk
    dsimp only [nv] at hlk
    go_simp
    try with_reducible rfl
   try simp only [Act.put, List.setIfInBounds_toArray, List.set_cons_zero, List.set_cons_succ]
  show wpList _ _ _ _ _ _
  obtain ⟨V, hV⟩ : ∃ V, V = S4 g11 c1 (.bool s.leaf) (.slice ska s.keys.length skc) (.slice sva s.vals.length svc) (.slice sda s.kids.length sdc) := ⟨_, rfl⟩
  have hsz := hsX.out
  have VT : V.heap[g11]? = some (.cells #[.bool s.leaf, .slice ska s.keys.length skc, .slice sva s.vals.length svc, .slice sda s.kids.length sdc] 76 (0, 0)) := by rw [hV]; exact heap_set4 G11 _ _ _ _
  have VO : V.heap[g12]? = some (.cells #[.bool a.leaf, .slice aka a.keys.length akc, .slice ava a.vals.length avc, .slice ada a.kids.length adc] 76 (0, 0)) := by rw [hV]; exact keep_set4 G12 (by omega) _ _ _ _
  have VN : V.heap[w.heap.size]? = some (.cells #[.bool n.leaf, .slice (some ⟨kb, ko, none⟩) KK kc, .slice va n.vals.length vc, .slice (some ⟨db, dO, none⟩) Z dc] 76 (0, 0)) := by rw [hV]; exact keep_set4 N0 (by omega) _ _ _ _
  have VR : V.heap[w.heap.size + 1 + 1]? = some (.cells #[.bool false, .slice none 0 0, .slice none 0 0, .slice none 0 0] 76 (0, 0)) := by rw [hV]; exact keep_set4 R0 (by omega) _ _ _ _
  have bV : Below w.heap.size w V := by rw [hV]; exact below_set4n belc (by omega) _ _ _ _
  have KB := hide (pbrs_any V a _ _ _ (HA.out.to bV) hka'.out (by omega))
  have HV := hide (And.intro VN (And.intro VR (And.intro VT (And.intro VO bV))))
  obtain ⟨⟨y0, y1, y2, y3⟩, yf⟩ := cells4 G11
  obtain ⟨⟨t0, t1, t2, t3⟩, tf⟩ := cells4 VO
  rw [hV] at KB t0 t1 t2 t3 tf
  dsimp only [nv] at KB
  clear VT VO VN VR bV M1 N0 R0 belc bTc bT b0 E0 E1 E2 E3 EF kc9 G11 G12 D11 D12
  go_wp2_with fail
  refine KB.out.mono ?_
  rintro e w5 ⟨v5, rfl, o5, b5⟩
  have hV' := hV
  rw [← hV'] at o5 b5
  replace hV := hide hV
  clear KB y0 y1 y2 y3 yf t0 t1 t2 t3 tf hV'
  obtain ⟨VN, VR, VT, VO, bV⟩ := HV.out
  have bw5 := bV.trans (b5.mono bV.size)
  have hbr : brs a = ([], a.kids.headD 0) :: (brs a).tail := rfl
  rw [hbr] at o5
  obtain ⟨gB, capB, rfl, lB, oB, keepB, cB, fB⟩ := OwnBr.first o5 key
  obtain ⟨U, hU⟩ : ∃ U, U = w5.setCell ⟨gB, 0, none⟩ (st key) := ⟨_, rfl⟩
  rw [← hU] at oB keepB
  have N5 := (b5.block _ (lt_of_block VN)).trans VN
  obtain ⟨⟨E0, E1, E2, E3⟩, EF⟩ := cells4 N5
  have ck := (bw5.cell (cell_lt hck)).trans hck
  have bU : Below w.heap.size w U := by rw [hU]; exact bw5.setCell (p := ⟨gB, 0, none⟩) (Nat.le_trans bV.size lB) _
  have hgl : g11 ≠ gB := by have := lt_of_block VT; omega
  have UL := (keepB g11 hgl).trans ((b5.block _ (lt_of_block VT)).trans VT)
  have UR := (keepB (w.heap.size + 1 + 1) (by have := lt_of_block VR; omega)).trans ((b5.block _ (lt_of_block VR)).trans VR)
  have sU : U.heap.size = w5.heap.size := by rw [hU]; simp
  have KL := hide (pbrs_any U s _ _ _ (HS.out.to bU) hks'.out (by omega))
  obtain ⟨⟨t0, t1, t2, t3⟩, tf⟩ := cells4 UL
  have HU := hide (And.intro UR (And.intro oB bU))
  generalize hLB : ((brs a).tail.length + 1) = LB at *
  replace hLB := hide hLB
  have hLB0 : 0 < LB := by have := hLB.out; omega
  rw [hU] at KL t0 t1 t2 t3 tf
  dsimp only [nv] at KL
  clear UL UR oB bU N5 o5 b5 bw5 keepB
  go_wp2_with fail
  refine KL.out.mono ?_
  rintro e w6 ⟨v6, rfl, o6, b6⟩
  rw [← hU] at o6 b6
  replace hU := hide hU
  clear KL t0 t1 t2 t3 tf E0 E1 E2 E3 EF ck cB fB
  obtain ⟨UR, oB, bU⟩ := HU.out
  have oB6 := rows_to oB b6
  obtain ⟨a6, c6, hv6⟩ := o6.slice
  have lt6 : (brs a).tail.length ≤ 400 := by
   have h9 := brs_len hka'.out
   rw [hka'.out, hbr, List.length_cons] at h9
   omega
  have ll6 : (brs s).length ≤ 401 := by rw [brs_len hks'.out, hks'.out]; omega
  have H6 := hide (And.intro ((b6.block _ (lt_of_block UR)).trans UR) (And.intro o6 (bU.trans (b6.mono bU.size))))
  have o6' := hide o6
  have oB6' : Hid (OwnBr V.heap.size w6 (.slice (some ⟨gB, 0, none⟩) LB capB) ((key, a.kids.headD 0) :: (brs a).tail)) := oB6
  have hl6 : U.heap.size ≤ w6.heap.size := b6.size
  have hbU : w.heap.size ≤ U.heap.size := bU.size
  have hbU2 : w.heap.size + 1 + 1 < U.heap.size := lt_of_block UR
  clear oB6 oB UR bU b6 o6
  obtain ⟨LL, hLL⟩ : ∃ q, q = (brs s).length := ⟨_, rfl⟩
  rw [← hLL] at hv6
  replace hLL := hide hLL
  have hl9 : Hid ((brs s).length + ((key, a.kids.headD 0) :: (brs a).tail).length ≤ 10000 ∧ (brs s ++ (key, a.kids.headD 0) :: (brs a).tail).length ≤ 1000) := by
   rw [List.length_append, List.length_cons]
   exact ⟨by omega, by omega⟩
  subst hv6
  clear lt6 ll6
  go_wp2_with (at_builtin; refine wpList_appBs rfl _ _ rfl U.heap.size V.heap.size _ _ _ _ rfl rfl o6'.out oB6'.out (by simp) hl9.out.1 hl6 ?_; intro v7 w7 o7 r7)
  have KI := hide (pinr_any U.heap.size w7 v7 _ o7 hl9.out.2)
  obtain ⟨R6, o6, b6⟩ := H6.out
  have bw7 : Below w.heap.size w w7 := b6.grown r7 (Nat.le_trans hbU hl6) (fun q hq => Nat.le_trans hbU (World.ownsRow.lt o6 q hq).1)
  have R7 : w7.heap[w.heap.size + 1 + 1]? = some (.cells #[.bool false, .slice none 0 0, .slice none 0 0, .slice none 0 0] 76 (0, 0)) := (r7.block _ (lt_of_block R6) (fun e9 => by have := (World.ownsRow.lt o6 _ e9.symm).1; omega)).trans R6
  obtain ⟨a7, c7, hv7⟩ := o7.slice
  obtain ⟨L7, hL7⟩ : ∃ q, q = (brs s ++ (key, a.kids.headD 0) :: (brs a).tail).length := ⟨_, rfl⟩
  rw [← hL7] at hv7
  replace hL7 := hide hL7
  subst hv7
  have H7 := hide (And.intro R7 bw7)
  clear o6 b6 R6 R7 bw7 o7 r7 o6' oB6' H6 HU HV
  go_wp2_with fail
  refine KI.out.mono ?_
  rintro e w8 ⟨kv8, dv8, rfl, o8, b8⟩
  obtain ⟨R7, bw7⟩ := H7.out
  have R8 := (b8.block _ (lt_of_block R7)).trans R7
  have HR8 := hide R8
  obtain ⟨⟨J0, J1, J2, J3⟩, JF⟩ := cells4 R8
  obtain ⟨k8a, k8c, hk8⟩ := o8.keys.rd.slice
  obtain ⟨d8a, d8c, hd8⟩ := o8.kids.rd.slice
  have o8' := hide o8
  have B8 := hide (bw7.trans (b8.mono bw7.size))
  have hw7 : Hid (w.heap.size ≤ w7.heap.size) := bw7.size
  generalize hNN : inr (brs s ++ (key, a.kids.headD 0) :: (brs a).tail) = NN at *
  have hNl : NN.leaf = false := by rw [← hNN]; rfl
  replace hNN := hide hNN
  subst hk8 hd8
  clear o8 b8 R7 bw7 R8 KI H7
  dsimp only [nv]
  go_wp2
  refine retN rfl rfl (w.heap.size + 1 + 1) rfl _ _ (0, 0) (heap_set4 HR8.out _ _ _ _) _ Tryz.underlying76 rfl info_nd10 ?_
  have k1 := fun e (he : e ≠ 76) => s4_keep HR8.out (.bool false) (.slice k8a NN.keys.length k8c) (.slice none 0 0) (.slice d8a NN.kids.length d8c) he
  refine ⟨_, _, rfl, ?_, below_set4n B8.out (by omega) _ _ _ _⟩
  rw [hNN.out]
  exact (o8'.out.mono hw7.out).keepT (k1 _ (by decide)) (k1 _ (by decide))
end Go.Proofs.YtgmkknonnidgaaaGreat

namespace Go.Proofs.YtgmkknonnidgaaaGreat
open Go.RowKit
theorem sizeT : (Tryz.prog.info? 9).map (·.size) = some 1 := by kernel_rfl
theorem st_one (xs : List Str) : ∀ v ∈ xs.map st, v.oneCell' = true := by
 intro v hv
 obtain ⟨x, _, rfl⟩ := List.mem_map.1 hv
 rfl
theorem cell_row {w : World} {g : Nat} {cur : Array Value} {T : TypeId} {fr : Nat × Nat} (h : w.heap[g]? = some (.cells cur T fr)) (j : Nat) : w.cell? ⟨g, j, none⟩ = cur.toList[j]? := by
 simp [World.cell?, h]
set_option maxRecDepth 100000 in
set_option maxHeartbeats 4000000 in
theorem pins_room (B : Nat) (w : World) (xs : List Str) (y : Str) (g cap gv i : Nat) (cur : Array Value) (hg : w.heap[g]? = some (.cells cur 9 (0, 0))) (hcs : cur.size = cap) (hct : cur.toList.take xs.length = xs.map st) (hcm : cap ≤ 9223372036854775807) (hroom : xs.length + 1 ≤ cap)
  (hb : w.heap[gv]? = some (.cells #[st y] 9 (0, 0))) (hne : gv ≠ g) (hi : i < xs.length) :
  Calls Tryz.prog 36 #[.slice (some ⟨g, 0, none⟩) xs.length cap, .int .i64 (i : Int), .slice (some ⟨gv, 0, none⟩) 1 1] w fun e w' => e = .returned (.slice (some ⟨g, 0, none⟩) (xs.length + 1) cap) ∧ w' = w.drew.setRow g (seg (seg cur.toList (i + 1) ((xs.drop i).map st)) i [st y]).toArray := by
 obtain ⟨n, hn⟩ : ∃ n, n = xs.length := ⟨_, rfl⟩
 have hcl : cur.toList.length = cap := by rw [Array.length_toList]; exact hcs
 have hat : ∀ j, j < xs.length → cur.toList[j]? = (xs.map st)[j]? := fun j hj => by rw [← hct, List.getElem?_take, if_pos hj]
 have hov : Hid (∀ lb cb, (callFunc 50 #[.slice (some ⟨gv, 0, none⟩) 1 1, .slice (some ⟨g, i + 1, none⟩) lb cb]).run Tryz.prog w = .ok (.value (.bool false)) w) := fun lb cb => by
  rw [run_callFunc_extern Tryz.func50 (by kernel_rfl) (by kernel_rfl) (by kernel_rfl) (e := Extern.SlicesOverlaps.overlaps #[23, 23] #[4]) (by kernel_rfl),
   Lib.run_overlaps_apart w 23 4 9 Tryz.underlying23 1 (fun w => by kernel_rfl) ⟨gv, 0, none⟩ ⟨g, i + 1, none⟩ 1 1 lb cb hne 9 9 1 cap (by simp [World.shape?, hb]) (by simp [World.shape?, hg, hcs]) (by omega) (by simp [World.frozen?, hb]) (by simp [World.frozen?, hb])]
  rfl
 have hgd : w.drew.heap[g]? = some (.cells cur 9 (0, 0)) := drewHeap hg
 have hcp1 : Hid (∀ ty dc sc, (Builtin.copy_ #[23, 23] ty #[.slice (some ⟨g, i + 1, none⟩) (xs.length - i) dc, .slice (some ⟨g, i, none⟩) (xs.length + 1 - i) sc]).run Tryz.prog w.drew = .ok (goInt (xs.length - i : Nat)) (w.drew.setRow g (seg cur.toList (i + 1) ((xs.drop i).map st)).toArray)) := fun ty dc sc => by
  refine run_copyN w.drew _ _ ty 9 1 g (i + 1) _ dc ⟨g, i, none⟩ _ sc cur 9 ((xs.drop i).map st) (xs.length - i) Tryz.underlying23 sizeT hgd ?_ (by simp) (fun j v hj => ?_) (by simp; omega) (st_one _)
  ·show _ = min _ _
   omega
  ·rw [Addr.add_lit, cell_row hgd]
   have hjl := (List.getElem?_eq_some_iff.1 hj).1
   simp only [List.length_map, List.length_drop] at hjl
   rw [hat (i + j) (by omega)]
   rw [← hj, List.map_drop, List.getElem?_drop]
 obtain ⟨W1, hW1⟩ : ∃ W, W = w.drew.setRow g (seg cur.toList (i + 1) ((xs.drop i).map st)).toArray := ⟨_, rfl⟩
 have hseg : (seg cur.toList (i + 1) ((xs.drop i).map st)).length = cap := by rw [seg_len (by simp; omega)]; exact hcl
 have hg1 : W1.heap[g]? = some (.cells (seg cur.toList (i + 1) ((xs.drop i).map st)).toArray 9 (0, 0)) := by rw [hW1]; exact setRow_heap _ g cur _ _ _ hgd
 have hb1 : W1.heap[gv]? = some (.cells #[st y] 9 (0, 0)) := by rw [hW1]; exact (setRow_other _ g gv _ hne).trans (drewHeap hb)
 have hcp2 : Hid (∀ ty dc, (Builtin.copy_ #[23, 23] ty #[.slice (some ⟨g, i, none⟩) (xs.length + 1 - i) dc, .slice (some ⟨gv, 0, none⟩) 1 1]).run Tryz.prog W1 = .ok (goInt (1 : Nat)) (W1.setRow g (seg (seg cur.toList (i + 1) ((xs.drop i).map st)) i [st y]).toArray)) := fun ty dc => by
  refine run_copyN W1 _ _ ty 9 1 g i _ dc ⟨gv, 0, none⟩ 1 1 _ 9 [st y] 1 Tryz.underlying23 sizeT hg1 ?_ rfl (fun j v hj => ?_) ?_ (fun v hv => by simp at hv; subst hv; rfl)
  ·show _ = min _ _
   omega
  ·rw [Addr.add_lit, cell_row hb1]
   simpa using hj
  ·show i + 1 ≤ (seg cur.toList (i + 1) ((xs.drop i).map st)).toArray.size
   rw [List.size_toArray, hseg]; omega
 rw [← hW1] at hcp1
 have hfin : Hid (W1.setRow g (seg (seg cur.toList (i + 1) ((xs.drop i).map st)) i [st y]).toArray = w.drew.setRow g (seg (seg cur.toList (i + 1) ((xs.drop i).map st)) i [st y]).toArray) := by show _ = _; rw [hW1, setRow_setRow]
 rw [← hn] at hcp1 hcp2 hroom hi ⊢
 replace hn := hide hn
 have hz2 : ((i : Int) == (n : Int)) = false := by simp; omega
 have hw1 : IntKind.i64.wrap ((i : Int) + 1) = (i : Int) + 1 := IntWalk.i64_in _ (by omega)
 have hw2 : IntKind.i64.wrap ((n : Int) + 1) = (n : Int) + 1 := IntWalk.i64_in _ (by omega)
 have hb1' : (0 : Int) ≤ (i : Int) + 1 := by omega
 have hin : i ≤ n := by omega
 have htn : ((i : Int) + 1).toNat = i + 1 := by omega
 have htn2 : ((n : Int) + 1).toNat = n + 1 := by omega
 have hb2 : ¬ (cap = i + 1) := by omega
 have hb3 : (i : Int) ≤ (n : Int) + 1 := by omega
 have hb4 : ¬ (cap = i) := by omega
 clear hcs hct hat hcl hgd hseg hg1 hb1 hg hb hne hW1
 have hmix := mixed
 go_enter Tryz.func36, Tryz.ntmps36
 go_wp2_with (simp only [hov.out])
 refine wp_region_mid (fun _ => True) 8 8 mixed (by kernel_rfl) (fun _ _ _ _ h => h) trivial ?_
 dsimp only [List.take, List.drop]
 iterate 8
  refine take_one (v := ?_) (by rfl) ?_ ?_
  rotate_left
  ·rintro w' _
   go_simp
   try with_reducible rfl
  try simp only [Act.put, List.setIfInBounds_toArray, List.set_cons_zero, List.set_cons_succ]
 show wpList _ _ _ _ _ _
 refine wpList_run_copy _ rfl _ _ 23 23 rfl _ _ rfl rfl _ _ (hcp1.out _ _ _) ?_
 go_wp2_with (simp only [hcp2.out, Result.andThen_ok])
 go_ret
 refine ⟨rfl, Eq.trans ?_ hfin.out⟩
 rw [List.map_drop]
theorem infoT3 : (Tryz.prog.info? 9).map (fun i => (i.zero, i.size, i.bytes)) = some (some (.string ⟨#[]⟩), 1, 16) := by kernel_rfl
set_option maxRecDepth 100000 in
set_option maxHeartbeats 4000000 in
theorem pins_grow (w : World) (xs : List Str) (y : Str) (g cap gv i : Nat) (cur : Array Value) (hg : w.heap[g]? = some (.cells cur 9 (0, 0))) (hcs : cur.size = cap) (hct : cur.toList.take xs.length = xs.map st) (hroom : cap < xs.length + 1) (hcap : xs.length ≤ cap)
  (hb : w.heap[gv]? = some (.cells #[st y] 9 (0, 0))) (hi : i < xs.length) (hl : xs.length ≤ 1000000) :
  Calls Tryz.prog 36 #[.slice (some ⟨g, 0, none⟩) xs.length cap, .int .i64 (i : Int), .slice (some ⟨gv, 0, none⟩) 1 1] w fun e w' => ∃ G, e = .returned (.slice (some ⟨w.heap.size, 0, none⟩) (xs.length + 1) G) ∧ OwnT w.heap.size w' (.slice (some ⟨w.heap.size, 0, none⟩) (xs.length + 1) G) (xs.take i ++ y :: xs.drop i) ∧ w.grownBy w' none := by
 obtain ⟨n, hn⟩ : ∃ n, n = xs.length := ⟨_, rfl⟩
 have hat : ∀ j, j < xs.length → cur.toList[j]? = (xs.map st)[j]? := fun j hj => by rw [← hct, List.getElem?_take, if_pos hj]
 obtain ⟨i0, hi0, hz0, hz1, hz2⟩ := info_parts infoT3
 have hA : ((xs.take i).map st).length = i * 1 := by simp; omega
 have hAt : cur.toList.take (i * 1) = (xs.take i).map st := by
  have : cur.toList.take i = (cur.toList.take xs.length).take i := by rw [List.take_take]; congr 1; omega
  rw [Nat.mul_one, this, hct, List.map_take]
 obtain ⟨G, ROW, hr, hR1, hR2, hR3, hR4⟩ := run_growN w 23 3 23 9 i0 _ .i64 1 16 Tryz.underlying23 Tryz.underlying3 hi0 hz0 hz1 hz2 rfl (by omega) g cap i (xs.length + 1 - i) cur ((xs.take i).map st) hg hA hAt (by omega) (by omega) (by omega) (by omega) (by omega)
 have hik : i + (xs.length + 1 - i) = xs.length + 1 := by omega
 rw [hik] at hr hR3
 rw [hA, Nat.mul_one] at hR2
 obtain ⟨W1, hW1⟩ : ∃ W, W = w.drew.alloc (.cells ROW 9) := ⟨_, rfl⟩
 have hd1 : W1.heap[w.heap.size]? = some (.cells ROW 9 (0, 0)) := by rw [hW1]; exact heap_alloc_last w.drew _
 have hgl : g < w.heap.size := lt_of_block hg
 have hvl : gv < w.heap.size := lt_of_block hb
 have ho1 : ∀ k, k < w.heap.size → W1.heap[k]? = w.heap[k]? := fun k hk => by
  rw [hW1]
  simp only [World.alloc, Array.getElem?_push]
  rw [if_neg (show k ≠ w.drew.heap.size from by have : w.drew.heap.size = w.heap.size := rfl; omega)]
  rfl
 have hs1 : W1.heap.size = w.heap.size + 1 := by rw [hW1]; simp [World.alloc]
 obtain ⟨L2, hL2⟩ : ∃ L, L = seg ROW.toList i [st y] := ⟨_, rfl⟩
 have hRl : ROW.toList.length = G := by rw [Array.length_toList, hR1]; omega
 have hl2 : L2.length = G := by rw [hL2, seg_len (by simp; omega)]; exact hRl
 obtain ⟨W2, hW2⟩ : ∃ W, W = W1.setRow w.heap.size L2.toArray := ⟨_, rfl⟩
 have hd2 : W2.heap[w.heap.size]? = some (.cells L2.toArray 9 (0, 0)) := by rw [hW2]; exact setRow_heap _ _ _ _ _ _ hd1
 have ho2 : ∀ k, k < w.heap.size → W2.heap[k]? = w.heap[k]? := fun k hk => by rw [hW2]; exact (setRow_other _ _ _ _ (by omega)).trans (ho1 k hk)
 have hcp1 : Hid (∀ ty dc, (Builtin.copy_ #[23, 23] ty #[.slice (some ⟨w.heap.size, i, none⟩) (xs.length + 1 - i) dc, .slice (some ⟨gv, 0, none⟩) 1 1]).run Tryz.prog W1 = .ok (goInt (1 : Nat)) W2) := fun ty dc => by
  rw [hW2, hL2]
  refine run_copyN W1 _ _ ty 9 1 w.heap.size i _ dc ⟨gv, 0, none⟩ 1 1 ROW 9 [st y] 1 Tryz.underlying23 sizeT hd1 ?_ rfl (fun j v hj => ?_) (by simp; omega) (fun v hv => by simp at hv; subst hv; rfl)
  ·show _ = min _ _
   omega
  ·rw [Addr.add_lit, cell_row ((ho1 gv hvl).trans hb)]
   simpa using hj
 obtain ⟨L3, hL3⟩ : ∃ L, L = seg L2 (i + 1) ((xs.drop i).map st) := ⟨_, rfl⟩
 have hl3 : L3.length = G := by rw [hL3, seg_len (by simp; omega)]; exact hl2
 obtain ⟨W3, hW3⟩ : ∃ W, W = W2.drew.setRow w.heap.size L3.toArray := ⟨_, rfl⟩
 have hd2' : W2.drew.heap[w.heap.size]? = some (.cells L2.toArray 9 (0, 0)) := drewHeap hd2
 have hcp2 : Hid (∀ ty dc, (Builtin.copy_ #[23, 23] ty #[.slice (some ⟨w.heap.size, i + 1, none⟩) (xs.length - i) dc, .slice (some ⟨g, i, none⟩) (xs.length - i) (cap - i)]).run Tryz.prog W2.drew = .ok (goInt (xs.length - i : Nat)) W3) := fun ty dc => by
  rw [hW3, hL3, show L2 = L2.toArray.toList by simp]
  refine run_copyN W2.drew _ _ ty 9 1 w.heap.size (i + 1) _ dc ⟨g, i, none⟩ _ _ L2.toArray 9 ((xs.drop i).map st) (xs.length - i) Tryz.underlying23 sizeT hd2' ?_ (by simp) (fun j v hj => ?_) (by simp; omega) (st_one _)
  ·show _ = min _ _
   omega
  ·rw [Addr.add_lit, cell_row (w := W2.drew) (drewHeap ((ho2 g hgl).trans hg))]
   have hjl := (List.getElem?_eq_some_iff.1 hj).1
   simp only [List.length_map, List.length_drop] at hjl
   rw [hat (i + j) (by omega), ← hj, List.map_drop, List.getElem?_drop]
 have FIN : Hid (OwnT w.heap.size W3 (.slice (some ⟨w.heap.size, 0, none⟩) (xs.length + 1) G) (xs.take i ++ y :: xs.drop i) ∧ w.grownBy W3 none) := by
  have hlen : (xs.take i ++ y :: xs.drop i).length = xs.length + 1 := by simp; omega
  have h9 := seg_two' (L := ROW.toList) (A := (xs.take i).map st) (V := [st y]) (C := (xs.drop i).map st) (by rw [show ((xs.take i).map st).length = i by simp; omega]; exact hR2) (by rw [hRl]; simp; omega)
  rw [show ((xs.take i).map st).length = i by simp; omega] at h9
  have h8 : L3.take ((xs.length + 1) * 1) = (xs.take i ++ y :: xs.drop i).map st := by
   rw [hL3, hL2]
   have : i + [st y].length + ((xs.drop i).map st).length = (xs.length + 1) * 1 := by simp; omega
   rw [this] at h9
   simpa using h9
  have hrow := row_set (B := w.heap.size) (k := xs.length + 1) (cap := G) (n := 1) hd2' (Nat.le_refl _) hR3 (by unfold maxLen; exact hR4) (by rw [hl3]; omega) (by rw [List.length_map, hlen]; omega) h8
  refine ⟨?_, ?_⟩
  ·have := hrow.1
   rw [← hW3] at this
   show World.ownsRow _ _ _ _ _ _ _
   rw [hlen]; exact this
  ·refine ⟨by rw [hW3, hW2, hW1]; rfl, by rw [hW3, hW2, hW1]; rfl, by rw [hW3, hW2, hW1]; rfl, ?_, fun k hk _ => ?_⟩
   ·rw [hW3, setRow_size]
    show w.heap.size ≤ W2.heap.size
    rw [hW2, setRow_size, hs1]; omega
   ·rw [hW3]
    exact (setRow_other _ _ _ _ (by omega)).trans (ho2 k hk)
 rw [← hW1] at hr
 rw [← hn] at hcp1 hcp2 hroom hi hr FIN hcap hl hR3 ⊢
 replace hn := hide hn
 have hz2 : ((i : Int) == (n : Int)) = false := by simp; omega
 have hw1 : IntKind.i64.wrap ((i : Int) + 1) = (i : Int) + 1 := IntWalk.i64_in _ (by omega)
 have hw2 : IntKind.i64.wrap ((n : Int) + 1) = (n : Int) + 1 := IntWalk.i64_in _ (by omega)
 have hw3 : IntKind.i64.wrap ((n : Int) + 1 - i) = (n : Int) + 1 - i := IntWalk.i64_in _ (by omega)
 have hcc : (cap : Int) < (n : Int) + 1 := by omega
 have hb1' : (0 : Int) ≤ (i : Int) + 1 := by omega
 have hin : i ≤ n := by omega
 have hic : i ≤ cap := by omega
 have htn : ((i : Int) + 1).toNat = i + 1 := by omega
 have hb2 : ¬ (G = i + 1) := by omega
 have hb3 : (i : Int) ≤ (n : Int) + 1 := by omega
 have hb4 : ¬ (cap = i) := by omega
 have hb5 : ¬ (G = i) := by omega
 have hap : Hid ((Builtin.append_ #[23, 3] 23 #[.slice (some ⟨g, 0, none⟩) i cap, .int .i64 ((n : Int) + 1 - (i : Int))]).run Tryz.prog w = .ok (.slice (some ⟨w.heap.size, 0, none⟩) (n + 1) G) W1) := by
  show _ = _
  rw [show (n : Int) + 1 - (i : Int) = ((n + 1 - i : Nat) : Int) by omega]
  exact hr
 clear hcs hct hat hr hR1 hR2 hR4 hd1 ho1 hs1 hd2 hd2' ho2 hg hb hW1 hW2 hW3 hL2 hL3 hl2 hl3 hRl hA hAt hik hz0 hz1 hi0 hgl hvl
 go_enter Tryz.func36, Tryz.ntmps36
 go_wp2_with (first | (at_builtin; refine Lib.wpList_append_run _ rfl _ _ _ _ rfl _ _ rfl rfl _ _ hap.out ?_) | simp only [hcp1.out, Result.andThen_ok])
 refine wp_region_mid (fun _ => True) 8 8 mixed (by kernel_rfl) (fun _ _ _ _ h => h) trivial ?_
 dsimp only [List.take, List.drop]
 iterate 8
  refine take_one (v := ?_) (by rfl) ?_ ?_
  rotate_left
  ·rintro w' _
   go_simp
   try with_reducible rfl
  try simp only [Act.put, List.setIfInBounds_toArray, List.set_cons_zero, List.set_cons_succ]
 show wpList _ _ _ _ _ _
 refine wpList_run_copy _ rfl _ _ 23 23 rfl _ _ rfl rfl _ _ (hcp2.out _ _) ?_
 go_wp2
 go_ret
 exact ⟨_, rfl, FIN.out.1, FIN.out.2⟩
theorem pins_any (B : Nat) (w : World) (v : Value) (xs : List Str) (y : Str) (gv i : Nat) (h : OwnT B w v xs) (hb : w.heap[gv]? = some (.cells #[st y] 9 (0, 0))) (hne : ∀ b, v.ownBlock = some b → gv ≠ b) (hB : B ≤ w.heap.size) (hl : xs.length ≤ 1000000) (hi : i ≤ xs.length) :
  Calls Tryz.prog 36 #[v, .int .i64 (i : Int), .slice (some ⟨gv, 0, none⟩) 1 1] w fun e w' => InsR B w w' v (xs.take i ++ y :: xs.drop i) e := by
 have hlen : (xs.take i ++ y :: xs.drop i).length = xs.length + 1 := by simp; omega
 by_cases hiE : i = xs.length
 ·subst hiE
  have := pins_end B w v xs y gv h (cellN hb rfl) hB hl
  simpa using this
 ·obtain ⟨g, cap, cur, rfl, hBg, hg, hkc, hcm, hcs, hct⟩ := own_block h (by omega)
  rw [Nat.mul_one] at hcs hct
  unfold maxLen at hcm
  have hgne := hne g rfl
  by_cases hroom : xs.length + 1 ≤ cap
  ·refine (pins_room B w xs y g cap gv i cur hg hcs hct hcm hroom hb hgne (by omega)).mono ?_
   rintro e w' ⟨rfl, rfl⟩
   have hcl : cur.toList.length = cap := by rw [Array.length_toList]; exact hcs
   have h9 := seg_two (L := cur.toList) (A := (xs.take i).map st) (V := [st y]) (C := (xs.drop i).map st) (by
    rw [show ((xs.take i).map st).length = i by simp; omega]
    have : cur.toList.take i = (cur.toList.take xs.length).take i := by rw [List.take_take]; congr 1; omega
    rw [this, hct, List.map_take]) (by rw [hcl]; simp; omega)
   rw [show ((xs.take i).map st).length = i by simp; omega] at h9
   have h8 : (seg (seg cur.toList (i + 1) ((xs.drop i).map st)) i [st y]).take ((xs.length + 1) * 1) = (xs.take i ++ y :: xs.drop i).map st := by
    have : i + [st y].length + ((xs.drop i).map st).length = (xs.length + 1) * 1 := by simp; omega
    rw [this] at h9
    simpa using h9
   have hsl : (seg (seg cur.toList (i + 1) ((xs.drop i).map st)) i [st y]).length = cap * 1 := by
    have h7 : (seg cur.toList (i + 1) ((xs.drop i).map st)).length = cap := by rw [seg_len (by simp; omega)]; exact hcl
    rw [seg_len (show i + [st y].length ≤ _ by rw [h7]; simp; omega), h7]; omega
   have hrow := row_set (B := B) (k := xs.length + 1) (cap := cap) (n := 1) (w := w.drew) (drewHeap hg) hBg hroom (by unfold maxLen; exact hcm) hsl (by rw [List.length_map, hlen]; omega) h8
   refine ⟨g, cap, by rw [hlen], ?_, ⟨rfl, rfl, rfl, by simp, fun k hk hk2 => (hrow.2.block k hk hk2)⟩, .inl rfl⟩
   show World.ownsRow _ _ _ _ _ _ _
   rw [hlen]; exact hrow.1
  ·refine (pins_grow w xs y g cap gv i cur hg hcs hct (by omega) hkc hb (by omega) hl).mono ?_
   rintro e w' ⟨G, rfl, o1, g1⟩
   refine ⟨w.heap.size, G, by rw [hlen], ?_, ⟨g1.os, g1.tape, g1.output, g1.size, fun k hk _ => g1.block k hk (by simp)⟩, .inr rfl⟩
   rw [hlen]
   exact rows_base o1 (fun b hb9 => Nat.le_trans hB (World.ownsRow.lt o1 b hb9).1)
end Go.Proofs.YtgmkknonnidgaaaGreat

namespace Go.Proofs.YtgmkknonnidgaaaGreat
open Go.RowKit
theorem zeroT (w : World) : (zeroValue 9).run Tryz.prog w = .ok (.string ⟨#[]⟩) w := by kernel_rfl
set_option maxRecDepth 100000 in
set_option maxHeartbeats 4000000 in
theorem pdelS_any (B : Nat) (w : World) (v : Value) (xs : List Str) (i : Nat) (h : OwnT B w v xs) (hi : i < xs.length) (hl : xs.length ≤ 1000000) :
  Calls Tryz.prog 41 #[v, .int .i64 (i : Int), .int .i64 ((i : Int) + 1)] w fun e w' => ∃ g cap, v.ownBlock = some g ∧ e = .returned (.slice (some ⟨g, 0, none⟩) (xs.length - 1) cap) ∧ OwnT B w' (.slice (some ⟨g, 0, none⟩) (xs.length - 1) cap) (xs.take i ++ xs.drop (i + 1)) ∧ w.grownBy w' v.ownBlock := by
 obtain ⟨g, cap, cur, rfl, hBg, hg, hkc, hcm, hcs, hct⟩ := own_block h (by omega)
 rw [Nat.mul_one] at hcs hct
 unfold maxLen at hcm
 obtain ⟨n, hn⟩ : ∃ n, n = xs.length := ⟨_, rfl⟩
 obtain ⟨i0, hi0, hz0, hz1, hz2⟩ := info_parts infoT3
 have hcl : cur.toList.length = cap := by rw [Array.length_toList]; exact hcs
 have hat : ∀ j, j < xs.length → cur.toList[j]? = (xs.map st)[j]? := fun j hj => by rw [← hct, List.getElem?_take, if_pos hj]
 have hgd : w.drew.heap[g]? = some (.cells cur 9 (0, 0)) := drewHeap hg
 obtain ⟨L1, hL1⟩ : ∃ L, L = seg cur.toList i ((xs.drop (i + 1)).map st) := ⟨_, rfl⟩
 obtain ⟨W1, hW1⟩ : ∃ W, W = w.drew.setRow g L1.toArray := ⟨_, rfl⟩
 have hl1 : L1.length = cap := by rw [hL1, seg_len (by simp; omega)]; exact hcl
 have hap : Hid (∀ A sc, A = (if cap = i + 1 then (⟨g, 0, none⟩ : Addr) else ⟨g, i + 1, none⟩) → (Builtin.append_ #[23, 23] 23 #[.slice (some ⟨g, 0, none⟩) i cap, .slice (some A) (xs.length - (i + 1)) sc]).run Tryz.prog w.drew = .ok (.slice (some ⟨g, 0, none⟩) (xs.length - 1) cap) W1) := fun A sc hA => by
  have h9 := run_append_room (P := Tryz.prog) w.drew 23 23 9 i0 Tryz.underlying23 hi0 g i cap cur hgd A (xs.length - (i + 1)) sc ((xs.drop (i + 1)).map st) (by rw [hz1]; simp) (fun j u hj => by
   have hjl := (List.getElem?_eq_some_iff.1 hj).1
   simp only [List.length_map, List.length_drop] at hjl
   rw [hA, if_neg (by omega), Addr.add_lit, cell_row hgd, hat (i + 1 + j) (by omega), ← hj, List.map_drop, List.getElem?_drop]) (st_one _) (by omega) (by rw [hz1]; simp; omega)
  have e1 : i + (xs.length - (i + 1)) = xs.length - 1 := by omega
  rw [h9, hW1, hL1, hz1, Nat.mul_one, e1]
  rfl
 have hg1 : W1.heap[g]? = some (.cells L1.toArray 9 (0, 0)) := by rw [hW1]; exact setRow_heap _ g cur _ _ _ hgd
 obtain ⟨L2, hL2⟩ : ∃ L, L = seg L1 (xs.length - 1) (Builtin.zeroCells (Value.string ⟨#[]⟩).cells 1).toList := ⟨_, rfl⟩
 have hzl : (Builtin.zeroCells (Value.string ⟨#[]⟩).cells 1).toList.length = 1 := by rw [Array.length_toList, size_zeroCells]; rfl
 have hl2 : L2.length = cap := by rw [hL2, seg_len (by rw [hzl]; omega)]; exact hl1
 obtain ⟨W2, hW2⟩ : ∃ W, W = W1.setRow g L2.toArray := ⟨_, rfl⟩
 have hcr : Hid (∀ ty c, (Builtin.clear_ #[23] ty #[.slice (some ⟨g, xs.length - 1, none⟩) 1 c]).run Tryz.prog W1 = .ok (.tuple #[]) W2) := fun ty c => by
  rw [hW2, hL2]
  have h9 := run_clearN W1 23 9 ty (.string ⟨#[]⟩) 1 g (xs.length - 1) 1 c L1.toArray 9 Tryz.underlying23 zeroT rfl (fun v hv => by simp [Value.cells] at hv; subst hv; rfl) hg1 (by simp; omega) (by omega)
  simpa using h9
 have FIN : Hid (OwnT B W2 (.slice (some ⟨g, 0, none⟩) (xs.length - 1) cap) (xs.take i ++ xs.drop (i + 1)) ∧ w.grownBy W2 (some g)) := by
  have hlen : (xs.take i ++ xs.drop (i + 1)).length = xs.length - 1 := by simp; omega
  have hti : cur.toList.take i = (xs.take i).map st := by
   have : cur.toList.take i = (cur.toList.take xs.length).take i := by rw [List.take_take]; congr 1; omega
   rw [this, hct, List.map_take]
  have h8 : L2.take ((xs.length - 1) * 1) = (xs.take i ++ xs.drop (i + 1)).map st := by
   rw [Nat.mul_one, hL2, seg_take (by rw [hzl]; omega) (Nat.le_refl _), hL1, seg, hti, ← List.map_append, List.take_left' (by rw [List.length_map, hlen])]
  have hrow := row_set (B := B) (k := xs.length - 1) (cap := cap) (n := 1) hg1 hBg (by omega) (by unfold maxLen; exact hcm) (by rw [hl2]; omega) (by rw [List.length_map, hlen]; omega) h8
  rw [← hW2] at hrow
  refine ⟨?_, ⟨by rw [hW2, hW1]; rfl, by rw [hW2, hW1]; rfl, by rw [hW2, hW1]; rfl, by rw [hW2, hW1]; simp, fun k hk hk2 => ?_⟩⟩
  ·show World.ownsRow _ _ _ _ _ _ _
   rw [hlen]; exact hrow.1
  ·have hkg : k ≠ g := fun e => hk2 (by rw [e])
   rw [hW2, hW1]
   exact (setRow_other _ _ _ _ hkg).trans (setRow_other _ _ _ _ hkg)
 rw [← hn] at hap hcr FIN hi hkc hl ⊢
 replace hn := hide hn
 have hz3 : ((i : Int) == (i : Int) + 1) = false := by simp; omega
 have hin : i ≤ n := by omega
 have hic : i ≤ cap := by omega
 have hj0 : (0 : Int) ≤ (i : Int) + 1 := by omega
 have hjn : (i : Int) + 1 ≤ (n : Int) := by omega
 have hji : (i : Int) ≤ (i : Int) + 1 := by omega
 have htn : ((i : Int) + 1).toNat = i + 1 := by omega
 have hb5 : ¬ (cap = n - 1) := by omega
 have hn1 : ((n - 1 : Nat) : Int) ≤ (n : Int) := by omega
 have hn2 : n - (n - 1) = 1 := by omega
 have hn3 : n - 1 ≤ n := by omega
 by_cases hb2 : cap = i + 1
 ·subst hb2
  obtain rfl : n = i + 1 := by omega
  have hap' : Hid ((Builtin.append_ #[23, 23] 23 #[.slice (some ⟨g, 0, none⟩) i (i + 1), .slice (some ⟨g, 0, none⟩) 0 0]).run Tryz.prog w.drew = .ok (.slice (some ⟨g, 0, none⟩) i (i + 1)) W1) := by
   have := hap.out ⟨g, 0, none⟩ 0 (by rw [if_pos rfl])
   rw [Nat.sub_self, Nat.add_sub_cancel] at this
   exact this
  rw [Nat.add_sub_cancel] at hcr FIN ⊢
  clear hb5 hn1 hn2 hn3
  have hn2 : i + 1 - i = 1 := by omega
  have hb5 : ¬ (i + 1 = i) := by omega
  clear hcs hct hat hcl hgd hg1 hg hW1 hW2 hL1 hL2 hl1 hl2 hzl hz0 hz1 hi0 h hap
  go_enter Tryz.func41, Tryz.ntmps41
  go_wp2_with fail
  refine wp_region_mid (fun _ => True) 6 6 mixed (by kernel_rfl) (fun _ _ _ _ h => h) trivial ?_
  dsimp only [List.take, List.drop]
  iterate 6
   refine take_one (v := ?_) (by rfl) ?_ ?_
   rotate_left
   ·rintro w' _
    go_simp
    try with_reducible rfl
   try simp only [Act.put, List.setIfInBounds_toArray, List.set_cons_zero, List.set_cons_succ]
  show wpList _ _ _ _ _ _
  refine Lib.wpList_append_run _ rfl _ _ _ _ rfl _ _ rfl rfl _ _ hap'.out ?_
  go_wp2_with (simp only [hn2, hcr.out, Result.andThen_ok])
  go_ret
  exact ⟨g, i + 1, rfl, rfl, FIN.out.1, FIN.out.2⟩
 ·have hap' := hide (hap.out ⟨g, i + 1, none⟩ (cap - (i + 1)) (by rw [if_neg hb2]))
  clear hcs hct hat hcl hgd hg1 hg hW1 hW2 hL1 hL2 hl1 hl2 hzl hz0 hz1 hi0 h hap
  go_enter Tryz.func41, Tryz.ntmps41
  go_wp2_with fail
  refine wp_region_mid (fun _ => True) 6 6 mixed (by kernel_rfl) (fun _ _ _ _ h => h) trivial ?_
  dsimp only [List.take, List.drop]
  iterate 6
   refine take_one (v := ?_) (by rfl) ?_ ?_
   rotate_left
   ·rintro w' _
    go_simp
    try with_reducible rfl
   try simp only [Act.put, List.setIfInBounds_toArray, List.set_cons_zero, List.set_cons_succ]
  show wpList _ _ _ _ _ _
  refine Lib.wpList_append_run _ rfl _ _ _ _ rfl _ _ rfl rfl _ _ hap'.out ?_
  go_wp2_with (simp only [hn2, hcr.out, Result.andThen_ok])
  go_ret
  exact ⟨g, cap, rfl, rfl, FIN.out.1, FIN.out.2⟩
end Go.Proofs.YtgmkknonnidgaaaGreat

namespace Go.Proofs.YtgmkknonnidgaaaGreat
open Go.RowKit
structure KEd (B : Nat) (kv vv : Value) (w w' : World) : Prop where
 keep : ∀ b, b < w.heap.size → kv.ownBlock ≠ some b → vv.ownBlock ≠ some b → w'.heap[b]? = w.heap[b]?
 bel : Below B w w'
 size : w.heap.size ≤ w'.heap.size
theorem row_block {w w' : World} {B T n k : Nat} {v : Value} {cc : List Value} (h : w.ownsRow B T n v k cc) (hk : ∀ b, v.ownBlock = some b → w'.heap[b]? = w.heap[b]?) : w'.ownsRow B T n v k cc := by
 refine ⟨h.1, ?_⟩
 rcases h.2 with hn | ⟨b, cap, cur, hv, hgb, hb, r⟩
 ·exact .inl hn
 ·exact .inr ⟨b, cap, cur, hv, hgb, (hk b (by rw [hv]; rfl)).trans hb, r⟩
theorem own_eq {g b n c : Nat} (h : (Value.slice (some ⟨g, 0, none⟩) n c).ownBlock = some b) : g = b := by simpa [Value.ownBlock] using h
set_option maxRecDepth 100000 in
set_option maxHeartbeats 4000000 in
theorem pputcl_ins (B : Nat) (w : World) (nd : Nd) (kv vv dv : Value) (key val : Str) (i : Nat) (gk gl : Nat) (hN : OwnN B w kv vv dv nd) (hD : Dj kv vv dv) (hB : B ≤ w.heap.size) (hlen : nd.keys.length ≤ 1000) (hlv : nd.vals.length = nd.keys.length) (hi : i ≤ nd.keys.length)
  (hk : w.heap[gk]? = some (.cells #[st key] 9 (0, 0))) (hgk : gk < B) (hv : w.heap[gl]? = some (.cells #[st val] 9 (0, 0))) (hgl : gl < B) :
  Calls Tryz.prog 35 #[nv nd kv vv dv, .int .i64 (i : Int), .bool false, .pointer (some ⟨gl, 0, none⟩), .pointer (some ⟨gk, 0, none⟩)] w fun e w' => ∃ kv' vv', e = .returned (nv ⟨nd.leaf, nd.keys.take i ++ key :: nd.keys.drop i, nd.vals.take i ++ val :: nd.vals.drop i, nd.kids⟩ kv' vv' dv) ∧ OwnN B w' kv' vv' dv ⟨nd.leaf, nd.keys.take i ++ key :: nd.keys.drop i, nd.vals.take i ++ val :: nd.vals.drop i, nd.kids⟩ ∧ KEd B kv vv w w' := by
 obtain ⟨W, hW, DW, bW, sW⟩ := boxedN w #[.bool nd.leaf, kv, vv, dv] 76
 obtain ⟨X, hX, DX, bX, sX⟩ := boxedN W #[.bool false, .slice none 0 0, .slice none 0 0, .slice none 0 0] 76
 have bWX := bW.trans (bX.mono bW.size)
 have NX := hN.to bWX
 have D1 := (bX.block _ (lt_of_block DW)).trans DW
 rw [sW] at DX
 have kX := (bWX.block _ (lt_of_block hk)).trans hk
 have vX := (bWX.block _ (lt_of_block hv)).trans hv
 have hBX : B ≤ X.heap.size := Nat.le_trans hB bWX.size
 have hltK : ∀ b, kv.ownBlock = some b → b < w.heap.size := fun b hb => (World.ownsRow.lt hN.keys b hb).2
 have hltV : ∀ b, vv.ownBlock = some b → b < w.heap.size := fun b hb => (World.ownsRow.lt hN.vals b hb).2
 have hgeK : ∀ b, kv.ownBlock = some b → B ≤ b := fun b hb => (World.ownsRow.lt hN.keys b hb).1
 have hgeV : ∀ b, vv.ownBlock = some b → B ≤ b := fun b hb => (World.ownsRow.lt hN.vals b hb).1
 have hltJ : ∀ b, dv.ownBlock = some b → b < w.heap.size := fun b hb => (World.ownsRow.lt hN.kids b hb).2
 have HLT := hide (And.intro hltK (And.intro hltV (And.intro hgeK (And.intro hgeV hltJ))))
 have hsX : X.heap.size = w.heap.size + 1 + 1 := by rw [sX, sW]
 obtain ⟨Y, hY, DY, bY, sY⟩ := boxedN X #[st key] 9
 have NY := NX.to bY
 have hsY : Y.heap.size = w.heap.size + 1 + 1 + 1 := by rw [sY, hsX]
 have KI := hide (pins_any B Y kv nd.keys key X.heap.size i NY.keys DY (fun b hb => by have := hltK b hb; omega) (Nat.le_trans hBX bY.size) (by omega) hi)
 have bwY := bWX.trans (bY.mono bWX.size)
 have HY := hide (And.intro NY (And.intro ((bY.block _ (lt_of_block D1)).trans D1) (And.intro ((bY.block _ (lt_of_block DX)).trans DX) (And.intro ((bY.block _ (lt_of_block vX)).trans vX) bwY))))
 obtain ⟨ka, kc, va, vc, da, dc, rfl, rfl, rfl⟩ := hN.rd.slices
 obtain ⟨⟨E0, E1, E2, E3⟩, EF⟩ := cells4 D1
 obtain ⟨⟨F0, F1, F2, F3⟩, FF⟩ := cells4 DX
 have G0 := cellN kX (i := 0) rfl
 have L0 := cellN vX (i := 0) rfl
 replace hlv := hide hlv
 replace hD := hide hD
 replace hsY := hide hsY
 dsimp only [nv]
 rw [hsX] at KI
 rw [hY, hX, hW] at KI
 rw [hX, hW] at E0 E1 E2 E3 EF F0 F1 F2 F3 FF G0 L0
 clear DY bY NX D1 DX kX vX DW bW bX bWX hk hv hN NY bwY sX sW sY hsX hltK hltV hgeK hgeV hltJ
 go_enter Tryz.func35, Tryz.ntmps35
 go_wp2_with fail
 refine KI.out.mono ?_
 rintro e w2 ⟨g2, c2, rfl, o2, r2, l2⟩
 rw [← hW, ← hX, ← hY] at r2 l2
 clear E0 E1 E2 E3 EF F0 F1 F2 F3 FF G0 L0 KI
 obtain ⟨K2, hK2⟩ : ∃ l, l = nd.keys.take i ++ key :: nd.keys.drop i := ⟨_, rfl⟩
 rw [← hK2] at o2 ⊢
 obtain ⟨KL, hKL⟩ : ∃ q, q = K2.length := ⟨_, rfl⟩
 rw [← hKL] at o2 ⊢
 replace hKL := hide hKL
 obtain ⟨NY, D1, R1, vY, bwY⟩ := HY.out
 obtain ⟨hltK, hltV, hgeK, hgeV, hltJ⟩ := HLT.out
 have hsY' := hsY.out
 have kp2 : ∀ b, b < Y.heap.size → (Value.slice ka nd.keys.length kc).ownBlock ≠ some b → w2.heap[b]? = Y.heap[b]? := fun b hb hne => r2.block b hb (fun e => hne e.symm)
 have V2 : OwnT B w2 (.slice va nd.vals.length vc) nd.vals := row_block NY.vals fun b hb => kp2 b (World.ownsRow.lt NY.vals b hb).2 (fun e => hD.out.1 b e hb)
 have J2 : OwnJ B w2 (.slice da nd.kids.length dc) nd.kids := row_block NY.kids fun b hb => kp2 b (World.ownsRow.lt NY.kids b hb).2 (fun e => hD.out.2.1 b e hb)
 have D2 := (kp2 w.heap.size (by omega) (fun e => by have := hltK _ e; omega)).trans D1
 have R2 := (kp2 (w.heap.size + 1) (by omega) (fun e => by have := hltK _ e; omega)).trans R1
 have L2 := (kp2 gl (lt_of_block vY) (fun e => by have := hgeK _ e; omega)).trans vY
 have b2 : Below B w w2 := (bwY.mono hB).grown r2 (Nat.le_trans hB bwY.size) hgeK
 -- the keys are stored
 obtain ⟨U, hU⟩ : ∃ U, U = w2.setCell ⟨w.heap.size, 1, none⟩ (.slice (some ⟨g2, 0, none⟩) KL c2) := ⟨_, rfl⟩
 have DU : U.heap[w.heap.size]? = some (.cells #[.bool nd.leaf, .slice (some ⟨g2, 0, none⟩) KL c2, .slice va nd.vals.length vc, .slice da nd.kids.length dc] 76 (0, 0)) := by
  rw [hU]; have := heap_setN D2 1 (.slice (some ⟨g2, 0, none⟩) KL c2); simpa using this
 have kpU : ∀ b, b ≠ w.heap.size → U.heap[b]? = w2.heap[b]? := fun b hb => by rw [hU]; exact Below.heap_setCell _ _ _ _ hb
 have hg2 : g2 ≠ w.heap.size := by
  rcases l2 with h | h
  ·have := hltK _ h; omega
  ·omega
 have KU : OwnT B U (.slice (some ⟨g2, 0, none⟩) KL c2) K2 := row_block o2 fun b hb => kpU b (fun e9 => hg2 ((own_eq hb).trans e9))
 have VU : OwnT B U (.slice va nd.vals.length vc) nd.vals := row_block V2 fun b hb => kpU b (by have := hltV b hb; omega)
 have JU : OwnJ B U (.slice da nd.kids.length dc) nd.kids := row_block J2 fun b hb => kpU b (by have := hltJ b hb; omega)
 have RU := (kpU (w.heap.size + 1) (by omega)).trans R2
 have LU := (kpU gl (by omega)).trans L2
 have bU : Below B w U := by rw [hU]; exact b2.setCell (p := ⟨w.heap.size, 1, none⟩) hB _
 have sU : U.heap.size = w2.heap.size := by rw [hU]; simp
 have hU2 : Y.heap.size ≤ U.heap.size := by rw [sU]; exact r2.size
 obtain ⟨Z, hZ, DZ, bZ, sZ⟩ := boxedN U #[st val] 9
 have KI2 : Hid (Calls Tryz.prog 36 #[.slice va nd.vals.length vc, .int .i64 (i : Int), .slice (some ⟨U.heap.size, 0, none⟩) 1 1] Z fun e w' => InsR B Z w' (.slice va nd.vals.length vc) (nd.vals.take i ++ val :: nd.vals.drop i) e) :=
  pins_any B Z _ nd.vals val U.heap.size i (rows_to VU bZ) DZ (fun b hb => by have := hltV b hb; omega) (by have := bZ.size; omega) (by have := hlv.out; omega) (by rw [hlv.out]; exact hi)
 have HZ := hide (And.intro KU (And.intro VU (And.intro JU (And.intro DU (And.intro RU bU)))))
 have HKP := hide (And.intro kp2 (And.intro kpU bwY))
 have HBZ := hide bZ
 have hgg := hide (And.intro hg2 l2)
 have hsU := hide (And.intro sU hU2)
 obtain ⟨⟨E0, E1, E2, E3⟩, EF⟩ := cells4 D2
 obtain ⟨⟨P0, P1, P2, P3⟩, PF⟩ := cells4 DU
 have L0 := cellN LU (i := 0) rfl
 rw [hZ, sU, hU] at KI2
 rw [hU] at P0 P1 P2 P3 PF L0
 clear KU VU JU DU RU LU bU sU DZ bZ sZ hU2 kp2 kpU V2 J2 D2 R2 L2 b2 o2 r2 l2 hg2 NY D1 R1 vY bwY hltK hltV hgeK hgeV hltJ hsY'
 go_wp2_with fail
 refine KI2.out.mono ?_
 rintro e w3 ⟨g3, c3, rfl, o3, r3, l3⟩
 rw [← hU, ← hZ] at r3 l3
 clear E0 E1 E2 E3 EF P0 P1 P2 P3 PF L0 KI2
 obtain ⟨V3, hV3⟩ : ∃ l, l = nd.vals.take i ++ val :: nd.vals.drop i := ⟨_, rfl⟩
 rw [← hV3] at o3 ⊢
 obtain ⟨VL, hVL⟩ : ∃ q, q = V3.length := ⟨_, rfl⟩
 rw [← hVL] at o3 ⊢
 replace hVL := hide hVL
 obtain ⟨KU, VU, JU, DU, RU, bU⟩ := HZ.out
 obtain ⟨hltK, hltV, hgeK, hgeV, hltJ⟩ := HLT.out
 obtain ⟨sU, hU2⟩ := hsU.out
 have bZ := HBZ.out
 have hsY' := hsY.out
 have kp3 : ∀ b, b < U.heap.size → (Value.slice va nd.vals.length vc).ownBlock ≠ some b → w3.heap[b]? = U.heap[b]? := fun b hb hne => (r3.block b (Nat.lt_of_lt_of_le hb bZ.size) (fun e => hne e.symm)).trans (bZ.block b hb)
 have hdj : ∀ b, (Value.slice (some ⟨g2, 0, none⟩) KL c2).ownBlock = some b → (Value.slice va nd.vals.length vc).ownBlock ≠ some b := fun b hb hb2 => by
  have e9 : g2 = b := by simpa [Value.ownBlock] using hb
  subst e9
  rcases hgg.out.2 with h | h
  ·exact hD.out.1 _ h hb2
  ·have := hltV _ hb2; omega
 have K3 : OwnT B w3 (.slice (some ⟨g2, 0, none⟩) KL c2) K2 := row_block KU fun b hb => kp3 b (World.ownsRow.lt KU b hb).2 (hdj b hb)
 have J3 : OwnJ B w3 (.slice da nd.kids.length dc) nd.kids := row_block JU fun b hb => kp3 b (World.ownsRow.lt JU b hb).2 (fun e => hD.out.2.2 b e hb)
 have D3 := (kp3 w.heap.size (by omega) (fun e => by have := hltV _ e; omega)).trans DU
 have R3 := (kp3 (w.heap.size + 1) (by omega) (fun e => by have := hltV _ e; omega)).trans RU
 have b3 : Below B w w3 := (bU.trans (bZ.mono (by omega))).grown r3 (by have := bZ.size; omega) hgeV
 have hg3 : g3 ≠ w.heap.size ∧ g3 ≠ w.heap.size + 1 := by
  rcases l3 with h | h
  ·have := hltV _ h; omega
  ·have := bZ.size; omega
 have d9 := heap_setN D3 2 (.slice (some ⟨g3, 0, none⟩) VL c3)
 have D4 : (w3.setCell ⟨w.heap.size, 2, none⟩ (.slice (some ⟨g3, 0, none⟩) VL c3)).heap[w.heap.size]? = some (.cells #[.bool nd.leaf, .slice (some ⟨g2, 0, none⟩) KL c2, .slice (some ⟨g3, 0, none⟩) VL c3, .slice da nd.kids.length dc] 76 (0, 0)) := by simpa using d9
 have R4 : (w3.setCell ⟨w.heap.size, 2, none⟩ (.slice (some ⟨g3, 0, none⟩) VL c3)).heap[w.heap.size + 1]? = some (.cells #[.bool false, .slice none 0 0, .slice none 0 0, .slice none 0 0] 76 (0, 0)) := (Below.heap_setCell _ _ _ _ (show w.heap.size + 1 ≠ w.heap.size by omega)).trans R3
 obtain ⟨⟨E0, E1, E2, E3⟩, EF⟩ := cells4 D3
 obtain ⟨⟨P0, P1, P2, P3⟩, PF⟩ := cells4 D4
 obtain ⟨⟨F0, F1, F2, F3⟩, FF⟩ := cells4 R4
 have kp4 : ∀ b, b ≠ w.heap.size → b ≠ w.heap.size + 1 → (S4 (w.heap.size + 1) (w3.setCell ⟨w.heap.size, 2, none⟩ (.slice (some ⟨g3, 0, none⟩) VL c3)) (.bool nd.leaf) (.slice (some ⟨g2, 0, none⟩) KL c2) (.slice (some ⟨g3, 0, none⟩) VL c3) (.slice da nd.kids.length dc)).heap[b]? = w3.heap[b]? := fun b h1 h2 => (s4_other _ _ _ _ h2).trans (Below.heap_setCell _ _ _ _ h1)
 have hg2n : g2 ≠ w.heap.size + 1 := by
  rcases hgg.out.2 with h | h
  ·have := hltK _ h; omega
  ·omega
 have FN : Hid (OwnN B (S4 (w.heap.size + 1) (w3.setCell ⟨w.heap.size, 2, none⟩ (.slice (some ⟨g3, 0, none⟩) VL c3)) (.bool nd.leaf) (.slice (some ⟨g2, 0, none⟩) KL c2) (.slice (some ⟨g3, 0, none⟩) VL c3) (.slice da nd.kids.length dc)) (.slice (some ⟨g2, 0, none⟩) KL c2) (.slice (some ⟨g3, 0, none⟩) VL c3) (.slice da nd.kids.length dc) ⟨nd.leaf, K2, V3, nd.kids⟩) :=
  ⟨row_block K3 fun b hb => (by rw [← own_eq hb]; exact kp4 _ hgg.out.1 hg2n), row_block o3 fun b hb => (by rw [← own_eq hb]; exact kp4 _ hg3.1 hg3.2), row_block J3 fun b hb => (by have := hltJ b hb; exact kp4 _ (by omega) (by omega))⟩
 have b4 : Below B w (w3.setCell ⟨w.heap.size, 2, none⟩ (.slice (some ⟨g3, 0, none⟩) VL c3)) := b3.setCell (p := ⟨w.heap.size, 2, none⟩) hB _
 have FB := hide (below_set4n b4 (show B ≤ w.heap.size + 1 by omega) (.bool nd.leaf) (.slice (some ⟨g2, 0, none⟩) KL c2) (.slice (some ⟨g3, 0, none⟩) VL c3) (.slice da nd.kids.length dc))
 have FK : Hid (KEd B (.slice ka nd.keys.length kc) (.slice va nd.vals.length vc) w (S4 (w.heap.size + 1) (w3.setCell ⟨w.heap.size, 2, none⟩ (.slice (some ⟨g3, 0, none⟩) VL c3)) (.bool nd.leaf) (.slice (some ⟨g2, 0, none⟩) KL c2) (.slice (some ⟨g3, 0, none⟩) VL c3) (.slice da nd.kids.length dc))) := by
  obtain ⟨kp2, kpU, bwY⟩ := HKP.out
  refine ⟨fun b hb h1 h2 => (kp4 b (by omega) (by omega)).trans ((kp3 b (by omega) h2).trans ((kpU b (by omega)).trans ((kp2 b (by omega) h1).trans (bwY.block b hb)))), FB.out, ?_⟩
  have s3 := r3.size
  have := bZ.size
  simp [S4]
  omega
 have HR4 := hide R4
 clear D3 R3 K3 J3 D4 R4 d9 b4 o3 r3 l3 DU RU VU JU KU bZ kp3 kp4 b3 bU hdj hg3 hg2n hltK hltV hgeK hgeV hltJ sU hU2 hsY'
 go_wp2
 refine retN rfl rfl (w.heap.size + 1) rfl _ _ (0, 0) (heap_set4 HR4.out _ _ _ _) _ Tryz.underlying76 rfl info_nd10 ?_
 subst hK2 hV3
 exact ⟨_, _, rfl, FN.out, FK.out⟩
theorem OwnT.set {B : Nat} {w : World} {g n c : Nat} {xs : List Str} (h : OwnT B w (.slice (some ⟨g, 0, none⟩) n c) xs) (hn : n = xs.length) {i : Nat} (hi : i < xs.length) (y : Str) : OwnT B (w.setCell ⟨g, i, none⟩ (st y)) (.slice (some ⟨g, 0, none⟩) n c) (xs.set i y) := by
 obtain ⟨g', cap, cur, e, hB, hg, hk, hm, hs, ht⟩ := own_block h (by omega)
 simp only [Value.slice.injEq, Option.some.injEq, Addr.mk.injEq] at e
 obtain ⟨⟨rfl, _⟩, _, rfl⟩ := e
 refine ⟨by simp, .inr ⟨g, c, _, by rw [List.length_set, hn], hB, heap_setN hg i (st y), by rw [List.length_set]; exact hk, hm, by simpa using hs, ?_⟩⟩
 rw [Array.toList_setIfInBounds, List.length_set, List.take_set, ht, List.map_set]
set_option maxRecDepth 100000 in
set_option maxHeartbeats 4000000 in
theorem pputcl_set (B : Nat) (w : World) (nd : Nd) (kv vv dv : Value) (key val : Str) (i : Nat) (gk gl : Nat) (hN : OwnN B w kv vv dv nd) (hD : Dj kv vv dv) (hB : B ≤ w.heap.size) (hlen : nd.keys.length ≤ 1000) (hlv : nd.vals.length = nd.keys.length) (hi : i < nd.keys.length)
  (hv : w.heap[gl]? = some (.cells #[st val] 9 (0, 0))) (hgl : gl < B) :
  Calls Tryz.prog 35 #[nv nd kv vv dv, .int .i64 (i : Int), .bool true, .pointer (some ⟨gl, 0, none⟩), .pointer (some ⟨gk, 0, none⟩)] w fun e w' => ∃ kv' vv', e = .returned (nv ⟨nd.leaf, nd.keys, nd.vals.set i val, nd.kids⟩ kv' vv' dv) ∧ OwnN B w' kv' vv' dv ⟨nd.leaf, nd.keys, nd.vals.set i val, nd.kids⟩ ∧ KEd B kv vv w w' := by
 obtain ⟨W, hW, DW, bW, sW⟩ := boxedN w #[.bool nd.leaf, kv, vv, dv] 76
 obtain ⟨X, hX, DX, bX, sX⟩ := boxedN W #[.bool false, .slice none 0 0, .slice none 0 0, .slice none 0 0] 76
 have bWX := bW.trans (bX.mono bW.size)
 have NX := hN.to bWX
 have D1 := (bX.block _ (lt_of_block DW)).trans DW
 rw [sW] at DX
 have vX := (bWX.block _ (lt_of_block hv)).trans hv
 have hsX : X.heap.size = w.heap.size + 1 + 1 := by rw [sX, sW]
 obtain ⟨gV, cV, cur, rfl, hBV, hgV, hkV, hmV, hsV, htV⟩ := own_block NX.vals (by omega)
 have hvw : gV < w.heap.size := (World.ownsRow.lt hN.vals gV rfl).2
 have hltK : ∀ b, kv.ownBlock = some b → b < w.heap.size := fun b hb => (World.ownsRow.lt hN.keys b hb).2
 have hltJ : ∀ b, dv.ownBlock = some b → b < w.heap.size := fun b hb => (World.ownsRow.lt hN.kids b hb).2
 obtain ⟨U, hU⟩ : ∃ U, U = X.setCell ⟨gV, i, none⟩ (st val) := ⟨_, rfl⟩
 have kpU : ∀ b, b ≠ gV → U.heap[b]? = X.heap[b]? := fun b hb => by rw [hU]; exact Below.heap_setCell _ _ _ _ hb
 have VU : OwnT B U (.slice (some ⟨gV, 0, none⟩) nd.vals.length cV) (nd.vals.set i val) := by rw [hU]; exact NX.vals.set rfl (by omega) val
 have KU : OwnT B U kv nd.keys := row_block NX.keys fun b hb => kpU b (fun e => hD.1 b hb (by rw [e]; rfl))
 have JU : OwnJ B U dv nd.kids := row_block NX.kids fun b hb => kpU b (fun e => hD.2.2 gV rfl (by rw [← e]; exact hb))
 have DU := (kpU w.heap.size (by omega)).trans D1
 have RU := (kpU (w.heap.size + 1) (by omega)).trans DX
 have bU : Below B w U := by rw [hU]; exact (bWX.mono hB).setCell (p := ⟨gV, i, none⟩) hBV _
 obtain ⟨ov, hov⟩ : ∃ x, nd.vals[i]? = some x := ⟨_, List.getElem?_eq_getElem (by omega)⟩
 have cV0 : X.cell? ⟨gV, i, none⟩ = some (st ov) := by
  refine cellN hgV ?_
  have h9 : cur.toList[i]? = (nd.vals.map st)[i]? := by rw [← htV, List.getElem?_take, if_pos (by omega)]
  rw [List.getElem?_map, hov] at h9
  simpa using h9
 have fV : X.frozen? ⟨gV, i, none⟩ = false := frozN hgV i
 obtain ⟨ka, kc, hka⟩ := hN.keys.rd.slice
 obtain ⟨da, dc, hda⟩ := hN.kids.rd.slice
 subst hka hda
 obtain ⟨⟨E0, E1, E2, E3⟩, EF⟩ := cells4 D1
 obtain ⟨⟨P0, P1, P2, P3⟩, PF⟩ := cells4 DU
 obtain ⟨⟨F0, F1, F2, F3⟩, FF⟩ := cells4 RU
 have L0 := cellN vX (i := 0) rfl
 have kp4 : ∀ b, b ≠ w.heap.size + 1 → (S4 (w.heap.size + 1) U (.bool nd.leaf) (.slice ka nd.keys.length kc) (.slice (some ⟨gV, 0, none⟩) nd.vals.length cV) (.slice da nd.kids.length dc)).heap[b]? = U.heap[b]? := fun b h2 => s4_other _ _ _ _ h2
 have FN : Hid (OwnN B (S4 (w.heap.size + 1) U (.bool nd.leaf) (.slice ka nd.keys.length kc) (.slice (some ⟨gV, 0, none⟩) nd.vals.length cV) (.slice da nd.kids.length dc)) (.slice ka nd.keys.length kc) (.slice (some ⟨gV, 0, none⟩) nd.vals.length cV) (.slice da nd.kids.length dc) ⟨nd.leaf, nd.keys, nd.vals.set i val, nd.kids⟩) :=
  ⟨row_block KU fun b hb => kp4 b (by have := hltK b hb; omega), row_block VU fun b hb => kp4 b (by have := own_eq hb; omega), row_block JU fun b hb => kp4 b (by have := hltJ b hb; omega)⟩
 have FB := hide (below_set4n bU (show B ≤ w.heap.size + 1 by omega) (.bool nd.leaf) (.slice ka nd.keys.length kc) (.slice (some ⟨gV, 0, none⟩) nd.vals.length cV) (.slice da nd.kids.length dc))
 have FK : Hid (KEd B (.slice ka nd.keys.length kc) (.slice (some ⟨gV, 0, none⟩) nd.vals.length cV) w (S4 (w.heap.size + 1) U (.bool nd.leaf) (.slice ka nd.keys.length kc) (.slice (some ⟨gV, 0, none⟩) nd.vals.length cV) (.slice da nd.kids.length dc))) := by
  refine ⟨fun b hb h1 h2 => (kp4 b (by omega)).trans ((kpU b (fun e => h2 (by rw [e]; rfl))).trans (bWX.block b hb)), FB.out, ?_⟩
  rw [hU]
  simp [S4]
  omega
 have HR4 := hide RU
 have hi2 : (i : Int) < (nd.vals.length : Int) := by omega
 rw [hU] at P0 P1 P2 P3 PF F0 F1 F2 F3 FF FN FK HR4
 rw [hX, hW] at E0 E1 E2 E3 EF P0 P1 P2 P3 PF F0 F1 F2 F3 FF L0 cV0 fV FN FK HR4
 dsimp only [nv]
 replace hlv := hide hlv
 replace hov := hide hov
 clear hD hN NX D1 DX vX DW bW bX bWX hv hgV htV hsV hkV hmV VU KU JU DU RU bU kp4 kpU hU FB hltK hltJ hW hX hsX sX sW hvw hBV
 go_enter Tryz.func35, Tryz.ntmps35
 go_wp2
 refine retN rfl rfl (w.heap.size + 1) rfl _ _ (0, 0) (heap_set4 HR4.out _ _ _ _) _ Tryz.underlying76 rfl info_nd10 ?_
 exact ⟨_, _, rfl, FN.out, FK.out⟩
end Go.Proofs.YtgmkknonnidgaaaGreat

namespace Go.Proofs.YtgmkknonnidgaaaGreat
open Go.RowKit
set_option maxRecDepth 100000 in
set_option maxHeartbeats 4000000 in
theorem pdelcl_any (B : Nat) (w : World) (nd : Nd) (kv vv dv : Value) (i : Nat) (th : Bool) (hN : OwnN B w kv vv dv nd) (hD : Dj kv vv dv) (hB : B ≤ w.heap.size) (hlen : nd.keys.length ≤ 1000) (hlv : nd.vals.length = nd.keys.length) (hi : i < nd.keys.length) :
  Calls Tryz.prog 40 #[nv nd kv vv dv, .int .i64 (i : Int), .bool th] w fun e w' => ∃ kv' vv', e = .returned (nv ⟨nd.leaf, nd.keys.take i ++ nd.keys.drop (i + 1), nd.vals.take i ++ nd.vals.drop (i + 1), nd.kids⟩ kv' vv' dv) ∧ OwnN B w' kv' vv' dv ⟨nd.leaf, nd.keys.take i ++ nd.keys.drop (i + 1), nd.vals.take i ++ nd.vals.drop (i + 1), nd.kids⟩ ∧ KEd B kv vv w w' := by
 obtain ⟨W, hW, DW, bW, sW⟩ := boxedN w #[.bool nd.leaf, kv, vv, dv] 76
 obtain ⟨X, hX, DX, bX, sX⟩ := boxedN W #[.bool false, .slice none 0 0, .slice none 0 0, .slice none 0 0] 76
 have bWX := bW.trans (bX.mono bW.size)
 have NX := hN.to bWX
 have D1 := (bX.block _ (lt_of_block DW)).trans DW
 rw [sW] at DX
 have hltK : ∀ b, kv.ownBlock = some b → b < w.heap.size := fun b hb => (World.ownsRow.lt hN.keys b hb).2
 have hltV : ∀ b, vv.ownBlock = some b → b < w.heap.size := fun b hb => (World.ownsRow.lt hN.vals b hb).2
 have hgeK : ∀ b, kv.ownBlock = some b → B ≤ b := fun b hb => (World.ownsRow.lt hN.keys b hb).1
 have hgeV : ∀ b, vv.ownBlock = some b → B ≤ b := fun b hb => (World.ownsRow.lt hN.vals b hb).1
 have hltJ : ∀ b, dv.ownBlock = some b → b < w.heap.size := fun b hb => (World.ownsRow.lt hN.kids b hb).2
 have HLT := hide (And.intro hltK (And.intro hltV (And.intro hgeK (And.intro hgeV hltJ))))
 have hsX : X.heap.size = w.heap.size + 1 + 1 := by rw [sX, sW]
 have KI := hide (pdelS_any B X kv nd.keys i NX.keys hi (by omega))
 have HX := hide (And.intro NX (And.intro D1 (And.intro DX (And.intro bWX hsX))))
 obtain ⟨ka, kc, va, vc, da, dc, rfl, rfl, rfl⟩ := hN.rd.slices
 obtain ⟨⟨E0, E1, E2, E3⟩, EF⟩ := cells4 D1
 obtain ⟨⟨F0, F1, F2, F3⟩, FF⟩ := cells4 DX
 replace hlv := hide hlv
 replace hD := hide hD
 have f1 : IntKind.i64.wrap ((i : Int) + 1) = (i : Int) + 1 := IntWalk.i64_in _ (by omega)
 dsimp only [nv]
 rw [hX, hW] at KI
 rw [hX, hW] at E0 E1 E2 E3 EF F0 F1 F2 F3 FF
 clear NX D1 DX DW bW bX bWX hN sX sW hsX hltK hltV hgeK hgeV hltJ
 go_enter Tryz.func40, Tryz.ntmps40
 go_wp2_with fail
 refine KI.out.mono ?_
 rintro e w2 ⟨g2, c2, hown2, rfl, o2, r2⟩
 rw [← hW, ← hX] at r2
 replace hW := hide hW
 replace hX := hide hX
 clear E0 E1 E2 E3 EF F0 F1 F2 F3 FF KI
 obtain ⟨K2, hK2⟩ : ∃ l, l = nd.keys.take i ++ nd.keys.drop (i + 1) := ⟨_, rfl⟩
 rw [← hK2] at o2
 obtain ⟨KL, hKL⟩ : ∃ q, q = nd.keys.length - 1 := ⟨_, rfl⟩
 rw [← hKL] at o2 ⊢
 replace hKL := hide hKL
 obtain ⟨NX, D1, R1, bwX, hsX⟩ := HX.out
 obtain ⟨hltK, hltV, hgeK, hgeV, hltJ⟩ := HLT.out
 have kp2 : ∀ b, b < X.heap.size → (Value.slice ka nd.keys.length kc).ownBlock ≠ some b → w2.heap[b]? = X.heap[b]? := fun b hb hne => r2.block b hb (fun e => hne e.symm)
 have V2 : OwnT B w2 (.slice va nd.vals.length vc) nd.vals := row_block NX.vals fun b hb => kp2 b (World.ownsRow.lt NX.vals b hb).2 (fun e => hD.out.1 b e hb)
 have J2 : OwnJ B w2 (.slice da nd.kids.length dc) nd.kids := row_block NX.kids fun b hb => kp2 b (World.ownsRow.lt NX.kids b hb).2 (fun e => hD.out.2.1 b e hb)
 have D2 := (kp2 w.heap.size (by omega) (fun e => by have := hltK _ e; omega)).trans D1
 have R2 := (kp2 (w.heap.size + 1) (by omega) (fun e => by have := hltK _ e; omega)).trans R1
 have b2 : Below B w w2 := (bwX.mono hB).grown r2 (Nat.le_trans hB bwX.size) hgeK
 obtain ⟨U, hU⟩ : ∃ U, U = w2.setCell ⟨w.heap.size, 1, none⟩ (.slice (some ⟨g2, 0, none⟩) KL c2) := ⟨_, rfl⟩
 have DU : U.heap[w.heap.size]? = some (.cells #[.bool nd.leaf, .slice (some ⟨g2, 0, none⟩) KL c2, .slice va nd.vals.length vc, .slice da nd.kids.length dc] 76 (0, 0)) := by
  rw [hU]; have := heap_setN D2 1 (.slice (some ⟨g2, 0, none⟩) KL c2); simpa using this
 have kpU : ∀ b, b ≠ w.heap.size → U.heap[b]? = w2.heap[b]? := fun b hb => by rw [hU]; exact Below.heap_setCell _ _ _ _ hb
 have hg2 : g2 < w.heap.size := hltK _ hown2
 have KU : OwnT B U (.slice (some ⟨g2, 0, none⟩) KL c2) K2 := row_block o2 fun b hb => kpU b (by have := own_eq hb; omega)
 have VU : OwnT B U (.slice va nd.vals.length vc) nd.vals := row_block V2 fun b hb => kpU b (by have := hltV b hb; omega)
 have JU : OwnJ B U (.slice da nd.kids.length dc) nd.kids := row_block J2 fun b hb => kpU b (by have := hltJ b hb; omega)
 have RU := (kpU (w.heap.size + 1) (by omega)).trans R2
 have bU : Below B w U := by rw [hU]; exact b2.setCell (p := ⟨w.heap.size, 1, none⟩) hB _
 have sU : U.heap.size = w2.heap.size := by rw [hU]; simp
 have hU2 : X.heap.size ≤ U.heap.size := by rw [sU]; exact r2.size
 have KI2 := hide (pdelS_any B U (.slice va nd.vals.length vc) nd.vals i VU (by rw [hlv.out]; exact hi) (by have := hlv.out; omega))
 have HZ := hide (And.intro KU (And.intro VU (And.intro JU (And.intro DU (And.intro RU bU)))))
 have HKP := hide (And.intro kp2 (And.intro kpU (And.intro bwX (And.intro hsX (And.intro sU (And.intro hU2 hown2))))))
 obtain ⟨⟨E0, E1, E2, E3⟩, EF⟩ := cells4 D2
 obtain ⟨⟨P0, P1, P2, P3⟩, PF⟩ := cells4 DU
 rw [hU] at P0 P1 P2 P3 PF KI2
 clear KU VU JU DU RU bU sU hU2 kp2 kpU V2 J2 D2 R2 b2 o2 r2 NX D1 R1 bwX hltK hltV hgeK hgeV hltJ hsX hown2
 go_wp2_with fail
 refine KI2.out.mono ?_
 rintro e w3 ⟨g3, c3, hown3, rfl, o3, r3⟩
 rw [← hU] at r3
 replace hU := hide hU
 clear E0 E1 E2 E3 EF P0 P1 P2 P3 PF KI2
 obtain ⟨V3, hV3⟩ : ∃ l, l = nd.vals.take i ++ nd.vals.drop (i + 1) := ⟨_, rfl⟩
 rw [← hV3] at o3
 obtain ⟨VL, hVL⟩ : ∃ q, q = nd.vals.length - 1 := ⟨_, rfl⟩
 rw [← hVL] at o3 ⊢
 replace hVL := hide hVL
 obtain ⟨KU, VU, JU, DU, RU, bU⟩ := HZ.out
 obtain ⟨hltK, hltV, hgeK, hgeV, hltJ⟩ := HLT.out
 obtain ⟨kp2, kpU, bwX, hsX, sU, hU2, hown2⟩ := HKP.out
 have kp3 : ∀ b, b < U.heap.size → (Value.slice va nd.vals.length vc).ownBlock ≠ some b → w3.heap[b]? = U.heap[b]? := fun b hb hne => r3.block b hb (fun e => hne e.symm)
 have K3 : OwnT B w3 (.slice (some ⟨g2, 0, none⟩) KL c2) K2 := row_block KU fun b hb => kp3 b (World.ownsRow.lt KU b hb).2 (fun e => by rw [← own_eq hb] at e; exact hD.out.1 _ hown2 e)
 have J3 : OwnJ B w3 (.slice da nd.kids.length dc) nd.kids := row_block JU fun b hb => kp3 b (World.ownsRow.lt JU b hb).2 (fun e => hD.out.2.2 b e hb)
 have D3 := (kp3 w.heap.size (by omega) (fun e => by have := hltV _ e; omega)).trans DU
 have R3 := (kp3 (w.heap.size + 1) (by omega) (fun e => by have := hltV _ e; omega)).trans RU
 have b3 : Below B w w3 := bU.grown r3 (by omega) hgeV
 have hg2 : g2 < w.heap.size := hltK _ hown2
 have hg3 : g3 < w.heap.size := hltV _ hown3
 have d9 := heap_setN D3 2 (.slice (some ⟨g3, 0, none⟩) VL c3)
 have D4 : (w3.setCell ⟨w.heap.size, 2, none⟩ (.slice (some ⟨g3, 0, none⟩) VL c3)).heap[w.heap.size]? = some (.cells #[.bool nd.leaf, .slice (some ⟨g2, 0, none⟩) KL c2, .slice (some ⟨g3, 0, none⟩) VL c3, .slice da nd.kids.length dc] 76 (0, 0)) := by simpa using d9
 have R4 : (w3.setCell ⟨w.heap.size, 2, none⟩ (.slice (some ⟨g3, 0, none⟩) VL c3)).heap[w.heap.size + 1]? = some (.cells #[.bool false, .slice none 0 0, .slice none 0 0, .slice none 0 0] 76 (0, 0)) := (Below.heap_setCell _ _ _ _ (show w.heap.size + 1 ≠ w.heap.size by omega)).trans R3
 obtain ⟨⟨E0, E1, E2, E3⟩, EF⟩ := cells4 D3
 obtain ⟨⟨P0, P1, P2, P3⟩, PF⟩ := cells4 D4
 obtain ⟨⟨F0, F1, F2, F3⟩, FF⟩ := cells4 R4
 have kp4 : ∀ b, b ≠ w.heap.size → b ≠ w.heap.size + 1 → (S4 (w.heap.size + 1) (w3.setCell ⟨w.heap.size, 2, none⟩ (.slice (some ⟨g3, 0, none⟩) VL c3)) (.bool nd.leaf) (.slice (some ⟨g2, 0, none⟩) KL c2) (.slice (some ⟨g3, 0, none⟩) VL c3) (.slice da nd.kids.length dc)).heap[b]? = w3.heap[b]? := fun b h1 h2 => (s4_other _ _ _ _ h2).trans (Below.heap_setCell _ _ _ _ h1)
 have FN : Hid (OwnN B (S4 (w.heap.size + 1) (w3.setCell ⟨w.heap.size, 2, none⟩ (.slice (some ⟨g3, 0, none⟩) VL c3)) (.bool nd.leaf) (.slice (some ⟨g2, 0, none⟩) KL c2) (.slice (some ⟨g3, 0, none⟩) VL c3) (.slice da nd.kids.length dc)) (.slice (some ⟨g2, 0, none⟩) KL c2) (.slice (some ⟨g3, 0, none⟩) VL c3) (.slice da nd.kids.length dc) ⟨nd.leaf, K2, V3, nd.kids⟩) :=
  ⟨row_block K3 fun b hb => (by have := own_eq hb; exact kp4 _ (by omega) (by omega)), row_block o3 fun b hb => (by have := own_eq hb; exact kp4 _ (by omega) (by omega)), row_block J3 fun b hb => (by have := hltJ b hb; exact kp4 _ (by omega) (by omega))⟩
 have b4 : Below B w (w3.setCell ⟨w.heap.size, 2, none⟩ (.slice (some ⟨g3, 0, none⟩) VL c3)) := b3.setCell (p := ⟨w.heap.size, 2, none⟩) hB _
 have FB := hide (below_set4n b4 (show B ≤ w.heap.size + 1 by omega) (.bool nd.leaf) (.slice (some ⟨g2, 0, none⟩) KL c2) (.slice (some ⟨g3, 0, none⟩) VL c3) (.slice da nd.kids.length dc))
 have FK : Hid (KEd B (.slice ka nd.keys.length kc) (.slice va nd.vals.length vc) w (S4 (w.heap.size + 1) (w3.setCell ⟨w.heap.size, 2, none⟩ (.slice (some ⟨g3, 0, none⟩) VL c3)) (.bool nd.leaf) (.slice (some ⟨g2, 0, none⟩) KL c2) (.slice (some ⟨g3, 0, none⟩) VL c3) (.slice da nd.kids.length dc))) := by
  refine ⟨fun b hb h1 h2 => (kp4 b (by omega) (by omega)).trans ((kp3 b (by omega) h2).trans ((kpU b (by omega)).trans ((kp2 b (by omega) h1).trans (bwX.block b hb)))), FB.out, ?_⟩
  have s3 := r3.size
  simp [S4]
  omega
 have HR4 := hide R4
 clear D3 R3 K3 J3 D4 R4 d9 b4 o3 r3 DU RU VU JU KU kp2 kpU kp3 kp4 b3 bU hg2 hg3 hltK hltV hgeK hgeV hltJ sU hU2 hsX hown2 hown3 bwX
 go_wp2
 refine retN rfl rfl (w.heap.size + 1) rfl _ _ (0, 0) (heap_set4 HR4.out _ _ _ _) _ Tryz.underlying76 rfl info_nd10 ?_
 subst hK2 hV3
 exact ⟨_, _, rfl, FN.out, FK.out⟩
end Go.Proofs.YtgmkknonnidgaaaGreat

namespace Go.Proofs.YtgmkknonnidgaaaGreat
open Go.RowKit
def LfB (m : Int → Option Value) (b : Nat) : Prop := ∃ i nd kv vv dv, m i = some (nv nd kv vv dv) ∧ nd.leaf = true ∧ (kv.ownBlock = some b ∨ vv.ownBlock = some b)
structure CW (w : World) (B g bm k : Nat) (l : List Wrt) (m : Int → Option Value) : Prop where
 s : w.cell? ⟨g, 3, none⟩ = some (.map (some bm))
 map : MapI w bm k m
 nds : ∀ i v, m i = some v → NdOf l B w i v
 apt : ∀ i j v u, m i = some v → m j = some u → i ≠ j → ∀ b, RowOf v b → ¬ RowOf u b
 hg : g < B
 hm : bm < B
theorem CW.to {w w' : World} {B g bm k : Nat} {l : List Wrt} {m : Int → Option Value} (h : CW w B g bm k l m) (b : Below w.heap.size w w') : CW w' B g bm k l m := by
 refine ⟨(b.cell (cell_lt h.s)).trans h.s, h.map.kept (b.block _ h.map.lt), fun i v hv => ?_, h.apt, h.hg, h.hm⟩
 obtain ⟨x, nd, kv, vv, dv, h1, h2, h3, h4, h5⟩ := h.nds i v hv
 exact ⟨x, nd, kv, vv, dv, h1, h2, h3, h4.to b, h5⟩
theorem nv_inj {a b : Nd} {k1 v1 d1 k2 v2 d2 : Value} (h : nv a k1 v1 d1 = nv b k2 v2 d2) : a.leaf = b.leaf ∧ k1 = k2 ∧ v1 = v2 ∧ d1 = d2 := by
 simp only [nv, Value.agg.injEq, Array.mk.injEq, List.cons.injEq, Value.bool.injEq, and_true] at h
 exact ⟨h.1, h.2.1, h.2.2.1, h.2.2.2⟩
theorem CW.leaf {w : World} {B g bm k : Nat} {l : List Wrt} {m : Int → Option Value} (h : CW w B g bm k l m) {b : Nat} (hb : LfB m b) : B ≤ b ∧ b < w.heap.size := by
 obtain ⟨i, nd, kv, vv, dv, h1, h2, h3⟩ := hb
 obtain ⟨x, nd', kv', vv', dv', q1, q2, q3, q4, q5⟩ := h.nds i _ h1
 obtain ⟨_, rfl, rfl, rfl⟩ := nv_inj q3
 rcases h3 with h3 | h3
 ·exact World.ownsRow.lt q4.keys b h3
 ·exact World.ownsRow.lt q4.vals b h3
theorem CW.inner {w : World} {B g bm k : Nat} {l : List Wrt} {m : Int → Option Value} (h : CW w B g bm k l m) {j : Int} {nd : Nd} {kv vv dv : Value} (hj : m j = some (nv nd kv vv dv)) (hl : nd.leaf = false) {b : Nat} (hb : RowOf (nv nd kv vv dv) b) : ¬ LfB m b := by
 rintro ⟨i, nd', kv', vv', dv', h1, h2, h3⟩
 by_cases e : i = j
 ·subst e
  rw [hj] at h1
  have := nv_inj (Option.some.inj h1)
  rw [hl, h2] at this
  cases this.1
 ·refine h.apt i j _ _ h1 hj e b ⟨_, _, _, _, rfl, ?_⟩ hb
  rcases h3 with h3 | h3
  ·exact .inl h3
  ·exact .inr (.inl h3)
structure KRb (B gc : Nat) (m : Int → Option Value) (av : Value) (w w' : World) : Prop where
 keep : ∀ b, b < w.heap.size → b ≠ gc → ¬ LfB m b → w'.heap[b]? = w.heap[b]?
 row : ∀ b, av.ownBlock = some b → w.heap.size ≤ b
 bel : Below B w w'
 size : w.heap.size ≤ w'.heap.size
theorem KRb.first {B gc : Nat} {m : Int → Option Value} {av : Value} {u w w' : World} (b : Below u.heap.size u w) (hB : B ≤ u.heap.size) (h : KRb B gc m av w w') : KRb B gc m av u w' :=
 ⟨fun i h1 h2 h3 => (h.keep i (Nat.lt_of_lt_of_le h1 b.size) h2 h3).trans (b.block i h1), fun i hi => Nat.le_trans b.size (h.row i hi), (b.mono hB).trans h.bel, Nat.le_trans b.size h.size⟩
theorem KRb.then {B gc : Nat} {m : Int → Option Value} {av av' : Value} {u w w' : World} (h : KRb B gc m av u w) (k : KCh B gc av av' w w') : KRb B gc m av' u w' :=
 ⟨fun i h1 h2 h3 => (k.keep i (Nat.lt_of_lt_of_le h1 h.size) h2 (fun e => by have := h.row i e; omega)).trans (h.keep i h1 h2 h3), fun i hi => by
  rcases k.row i hi with q | q
  ·exact h.row i q
  ·exact Nat.le_trans h.size q, h.bel.trans k.bel, Nat.le_trans h.size k.size⟩
def RbR (B gc g : Nat) (next : Int) (l : List Wrt) (m : Int → Option Value) (d : Nat) (key : Str) (ed : Nd → Nd) (n : Nd) (w w' : World) (e : Ending) : Prop :=
 ∃ kv' vv' dv' av' ns', e = .returned (nv (rebOf l next key ed d n []).1 kv' vv' dv') ∧ RdK w' kv' vv' dv' (rebOf l next key ed d n []).1 ∧ ChI B w' gc g next av' ns' ∧ AllK w' ns' ∧ ns'.map (·.1) = (rebOf l next key ed d n []).2 ∧ KRb B gc m av' w w'
set_option maxRecDepth 100000 in
set_option maxHeartbeats 4000000 in
theorem preb_leaf (B : Nat) (w : World) (gc : Nat) (nd : Nd) (kv vv dv : Value) (key : Str) (F : Nat) (caps : Array Value) (hB : B ≤ w.heap.size) (hr : RdN w kv vv dv nd) (hfit : nfit nd) (hl : nd.leaf = true) (nd' : Nd)
  (hF : ∀ u, Below w.heap.size w u → Calls Tryz.prog F (#[nv nd kv vv dv, .int .i64 (nfind nd key), .bool (nhas nd key)] ++ caps) u fun e u' => ∃ kv' vv' dv', e = .returned (nv nd' kv' vv' dv') ∧ OwnN B u' kv' vv' dv' nd' ∧ KEd B kv vv u u')
  (hlt : ∀ b, kv.ownBlock = some b ∨ vv.ownBlock = some b → b < w.heap.size)
  (he : ∀ args u, (callFunc F args).run Tryz.prog u = .ok (.enter F args) u) :
  Calls Tryz.prog 48 #[.pointer (some ⟨gc, 0, none⟩), nv nd kv vv dv, st key, .func (.func F) #[] caps] w fun e w' => ∃ kv' vv' dv', e = .returned (nv nd' kv' vv' dv') ∧ OwnN B w' kv' vv' dv' nd' ∧ KEd B kv vv w w' := by
 obtain ⟨W, hW, DW, bW, sW⟩ := boxedN w #[.bool nd.leaf, kv, vv, dv] 76
 obtain ⟨X, hX, DX, bX, sX⟩ := boxedN W #[.bool false, .slice none 0 0, .slice none 0 0, .slice none 0 0] 76
 have bWX := bW.trans (bX.mono bW.size)
 have KF := hide (pfind9_any X kv vv dv nd key (hr.to bWX) hfit)
 have D1 := (bX.block _ (lt_of_block DW)).trans DW
 rw [sW] at DX
 have HD := hide (And.intro D1 DX)
 have BX := hide bWX
 replace hlt := hide hlt
 obtain ⟨ka, kc, va, vc, da, dc, rfl, rfl, rfl⟩ := hr.slices
 obtain ⟨⟨E0, E1, E2, E3⟩, EF⟩ := cells4 D1
 obtain ⟨⟨F0, F1, F2, F3⟩, FF⟩ := cells4 DX
 dsimp only [nv] at KF ⊢
 rw [hX, hW] at E0 E1 E2 E3 EF F0 F1 F2 F3 FF KF
 replace hF := hide hF
 have HL := hide hl
 clear hl DW DX bW bX bWX D1 hr
 go_enter Tryz.func48, Tryz.ntmps48
 go_wp2_with fail
 refine KF.out.mono ?_
 rintro e w1 ⟨rfl, b1⟩
 rw [← hW, ← hX] at b1
 clear E0 E1 E2 E3 EF F0 F1 F2 F3 FF KF
 have B1 := hide (BX.out.trans (b1.mono BX.out.size))
 have D1 := (b1.block _ (lt_of_block HD.out.1)).trans HD.out.1
 have R1 := (b1.block _ (lt_of_block HD.out.2)).trans HD.out.2
 have HR := hide R1
 obtain ⟨⟨E0, E1, E2, E3⟩, EF⟩ := cells4 D1
 rw [HL.out] at E0
 have KF2 := hide (hF.out w1 B1.out)
 dsimp only [nv] at KF2
 rw [HL.out] at KF2
 replace hX := hide hX
 replace hW := hide hW
 clear D1 R1 b1 HD
 go_wp2_with fail
 refine KF2.out.mono ?_
 rintro e w2 ⟨kv', vv', dv', rfl, o2, k2⟩
 obtain ⟨ka', kc', va', vc', da', dc', rfl, rfl, rfl⟩ := o2.rd.slices
 have hn1 : ∀ q, q = w.heap.size ∨ q = w.heap.size + 1 → (Value.slice ka nd.keys.length kc).ownBlock ≠ some q ∧ (Value.slice va nd.vals.length vc).ownBlock ≠ some q := fun q hq => ⟨fun e => by have := hlt.out q (.inl e); omega, fun e => by have := hlt.out q (.inr e); omega⟩
 have R2 := (k2.keep _ (lt_of_block HR.out) (hn1 _ (.inr rfl)).1 (hn1 _ (.inr rfl)).2).trans HR.out
 have HR2 := hide R2
 obtain ⟨⟨F0, F1, F2, F3⟩, FF⟩ := cells4 R2
 have O2 := hide o2
 have K2 := hide k2
 have hB1 : Hid (B ≤ w1.heap.size) := Nat.le_trans hB B1.out.size
 clear o2 k2 R2 E0 E1 E2 E3 EF KF2 hF
 dsimp only [nv]
 go_wp2
 refine retN rfl rfl (w.heap.size + 1) rfl _ _ (0, 0) (heap_set4 HR2.out _ _ _ _) _ Tryz.underlying76 rfl info_nd10 ?_
 have k := fun e (he : e ≠ 76) => s4_keep HR2.out (.bool nd'.leaf) (.slice ka' nd'.keys.length kc') (.slice va' nd'.vals.length vc') (.slice da' nd'.kids.length dc') he
 have fb := below_set4n ((B1.out.mono hB).trans K2.out.bel) (show B ≤ w.heap.size + 1 by omega) (.bool nd'.leaf) (.slice ka' nd'.keys.length kc') (.slice va' nd'.vals.length vc') (.slice da' nd'.kids.length dc')
 refine ⟨_, _, _, rfl, O2.out.keepT (k _ (by decide)) (k _ (by decide)), ⟨fun b hb h1 h2 => ?_, fb, fb.size⟩⟩
 exact (s4_other _ _ _ _ (show b ≠ w.heap.size + 1 by omega)).trans ((K2.out.keep b (Nat.lt_of_lt_of_le hb B1.out.size) h1 h2).trans (B1.out.block b hb))
end Go.Proofs.YtgmkknonnidgaaaGreat
