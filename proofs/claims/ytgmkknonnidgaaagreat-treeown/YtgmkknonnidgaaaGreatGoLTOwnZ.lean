/- Several texts in one: TRc TRd TRo TChA TChg TPt TPu TDe TWo TOg TPv TWt TBu TOw TCp LTOwn. -/
import Derived.Deep.QuietTactic
import Derived.BigQuiet
import Derived.Laws.Cover1
import Derived.OwnWalkIn
import Derived.Test.YtgmkknonnidgaaaGreatGoLTOwn5
import Derived.Test.YtgmkknonnidgaaaGreatGoLTOwn3
import Derived.Test.YtgmkknonnidgaaaGreatGoLTOwn2
import Derived.Test.YtgmkknonnidgaaaGreatGoLTOwn1
import Derived.Test.YtgmkknonnidgaaaGreatGoLTOwn4
import Derived.Laws.AppendOwnNone
set_option linter.unusedVariables false
set_option linter.unusedSimpArgs false
namespace Go.Proofs.YtgmkknonnidgaaaGreat
open Go.RowKit
structure R4 (B gc g : Nat) (next : Int) (m : Int → Option Value) (M : Nd) (AD : List Nd) (n : Nd) (kv vv dv : Value) (w wx : World) (g12 : Nat) (kv' vv' dv' av' : Value) (ns' : List NV) : Prop where
 b12 : wx.heap[g12]? = some (.cells #[.bool M.leaf, kv', vv', dv'] 76 (0, 0))
 rd : RdK wx kv' vv' dv' M
 ch : ChI B wx gc g next av' ns'
 al : AllK wx ns'
 eq : ns'.map (·.1) = AD
 kr : KRb B gc m av' w wx
 nb : wx.heap[w.heap.size]? = some (.cells #[.bool false, kv, vv, dv] 76 (0, 0))
 rb : wx.heap[w.heap.size + 1]? = some (.cells #[.bool false, .slice none 0 0, .slice none 0 0, .slice none 0 0] 76 (0, 0))
 l12 : w.heap.size + 1 < g12
 na : ∀ b, av'.ownBlock = some b → b ≠ g12 ∧ b ≠ w.heap.size ∧ b ≠ w.heap.size + 1
theorem R4.to {B gc g : Nat} {next : Int} {m : Int → Option Value} {M : Nd} {AD : List Nd} {n : Nd} {kv vv dv : Value} {w wx wy : World} {g12 : Nat} {kv' vv' dv' av' : Value} {ns' : List NV} (h : R4 B gc g next m M AD n kv vv dv w wx g12 kv' vv' dv' av' ns') (b : Below wx.heap.size wx wy) (hB : B ≤ w.heap.size) : R4 B gc g next m M AD n kv vv dv w wy g12 kv' vv' dv' av' ns' :=
 ⟨(b.block _ (lt_of_block h.b12)).trans h.b12, h.rd.to b, h.ch.to b, h.al.to b, h.eq, h.kr.then (KCh.of b (Nat.le_trans hB h.kr.size)), (b.block _ (lt_of_block h.nb)).trans h.nb, (b.block _ (lt_of_block h.rb)).trans h.rb, h.l12, h.na⟩
theorem R4.put {B gc g : Nat} {next : Int} {m : Int → Option Value} {M J : Nd} {AD : List Nd} {n : Nd} {kv vv dv : Value} {w wx : World} {g12 : Nat} {kv' vv' dv' av' : Value} {ns' : List NV} (h : R4 B gc g next m M AD n kv vv dv w wx g12 kv' vv' dv' av' ns') (hB : B ≤ w.heap.size) (hgc : gc < w.heap.size) (hg : g < w.heap.size) {jk jv jd : Value} (hj : RdK wx jk jv jd J) :
  R4 B gc g next m J AD n kv vv dv w (S4 g12 wx (.bool J.leaf) jk jv jd) g12 jk jv jd av' ns' := by
 have kt : ∀ e, e ≠ 76 → KeepT e wx (S4 g12 wx (.bool J.leaf) jk jv jd) := fun e he => s4_keep h.b12 _ _ _ _ he
 have hot : ∀ b, b ≠ g12 → (S4 g12 wx (.bool J.leaf) jk jv jd).heap[b]? = wx.heap[b]? := fun b hb => s4_other _ _ _ _ hb
 have l12 := h.l12
 refine ⟨heap_set4 h.b12 _ _ _ _, hj.keepT (kt _ (by decide)) (kt _ (by decide)), ⟨(hot gc (by omega)).trans h.ch.box, row_block h.ch.row fun b hb => hot b (h.na b hb).1, ?_, h.ch.hC⟩, h.al.keepT (kt _ (by decide)) (kt _ (by decide)), h.eq, ⟨fun b h1 h2 h3 => (hot b (by omega)).trans (h.kr.keep b h1 h2 h3), h.kr.row, below_set4n h.kr.bel (by omega) _ _ _ _, ?_⟩, (hot _ (by omega)).trans h.nb, (hot _ (by omega)).trans h.rb, l12, h.na⟩
 ·have e1 := hot g (by omega)
  have := h.ch.nxt
  simp only [World.cell?] at this ⊢
  rw [e1]; exact this
 ·have := h.kr.size
  simpa [S4] using this
def RbX (B gc g : Nat) (next : Int) (m : Int → Option Value) (M : Nd) (AD : List Nd) (w w' : World) (e : Ending) : Prop :=
 ∃ kv' vv' dv' av' ns', e = .returned (nv M kv' vv' dv') ∧ RdK w' kv' vv' dv' M ∧ ChI B w' gc g next av' ns' ∧ AllK w' ns' ∧ ns'.map (·.1) = AD ∧ KRb B gc m av' w w'
def rbJ (l : List Wrt) (n : Nd) (kx : Nat) (M : Nd) : Nd := if bareB M = true then joinOf l n (kx - 1) kx M else M
def rbF (kx : Nat) (M : Nd) : Nat := if bareB M = true then kx - 1 else kx
def rbT (kx : Nat) (M : Nd) : Nat := if bareB M = true then kx - 1 + 2 else kx + 1
theorem reb_eq {l : List Wrt} {next : Int} {key : Str} {ed : Nd → Nd} {d : Nat} {n nd : Nd} {kx : Nat} (h1 : (nfind n key).toNat = kx) (h2 : nodeAt l (n.kids.getD kx 0) = nd) :
  rebOf l next key ed (d + 1) n [] = (inr (rplc (brs n) (rbF kx (rebOf l next key ed d nd []).1) (rbT kx (rebOf l next key ed d nd []).1) (laidOf next (rebOf l next key ed d nd []).2 (rbJ l n kx (rebOf l next key ed d nd []).1) ((brs n).getD (rbF kx (rebOf l next key ed d nd []).1) ([], 0)).1).1), (laidOf next (rebOf l next key ed d nd []).2 (rbJ l n kx (rebOf l next key ed d nd []).1) ((brs n).getD (rbF kx (rebOf l next key ed d nd []).1) ([], 0)).1).2) := by
 simp only [rebOf]
 rw [h1, h2]
 unfold rbF rbT rbJ
 split <;> rfl
theorem RdK.krb {B gc : Nat} {m : Int → Option Value} {av kv vv dv : Value} {n : Nd} {w w' : World} {cs : Array Value} {fr : Nat × Nat} (h : RdK w kv vv dv n) (hL : ∀ b, RowOf (nv n kv vv dv) b → ¬ LfB m b) (k : KRb B gc m av w w') (hc : w.heap[gc]? = some (.cells cs 108 fr)) : RdK w' kv vv dv n := by
 have hk : ∀ (T : TypeId) (v : Value), T ≠ 108 → TyB w v T → (∀ b, v.ownBlock = some b → RowOf (nv n kv vv dv) b) → ∀ b, v.ownBlock = some b → w'.heap[b]? = w.heap[b]? := fun T v hT ht hr b hb => by
  obtain ⟨cur, fr', e⟩ := ht b hb
  refine k.keep b (lt_of_block e) (fun e9 => ?_) (hL b (hr b hb))
  subst e9
  rw [hc] at e
  simp only [Option.some.injEq, Obj.cells.injEq] at e
  exact hT e.2.1.symm
 have k1 := hk _ kv (by decide) h.tk (fun b hb => ⟨_, _, _, _, rfl, .inl hb⟩)
 have k2 := hk _ vv (by decide) h.tv (fun b hb => ⟨_, _, _, _, rfl, .inr (.inl hb)⟩)
 have k3 := hk _ dv (by decide) h.td (fun b hb => ⟨_, _, _, _, rfl, .inr (.inr hb)⟩)
 refine ⟨⟨rdT_block h.rd.keys k1, rdT_block h.rd.vals k2, rdI_block h.rd.kids k3⟩, fun b hb => ?_, fun b hb => ?_, fun b hb => ?_⟩
 ·obtain ⟨cur, fr', e⟩ := h.tk b hb
  exact ⟨cur, fr', (k1 b hb).trans e⟩
 ·obtain ⟨cur, fr', e⟩ := h.tv b hb
  exact ⟨cur, fr', (k2 b hb).trans e⟩
 ·obtain ⟨cur, fr', e⟩ := h.td b hb
  exact ⟨cur, fr', (k3 b hb).trans e⟩
theorem join_zero {l : List Wrt} {n M sb : Nd} {c : Br} (h1 : n.kids[1]? = some c.2) (h2 : n.keys[0]? = some c.1) (h3 : NdIs l c.2 sb) : joinOf l n (0 - 1) 0 M = inr (brs M ++ (c.1, sb.kids.headD 0) :: (brs sb).tail) := by
 unfold joinOf
 simp only [Nat.zero_sub, if_true, Nat.zero_add]
 have q1 : n.kids.getD 1 0 = c.2 := by rw [List.getD_eq_getElem?_getD, h1]; rfl
 have q2 : n.keys.getD 0 [] = c.1 := by rw [List.getD_eq_getElem?_getD, h2]; rfl
 rw [q1, q2, h3.at]
theorem join_succ {l : List Wrt} {n M sb : Nd} {i : Nat} {c : Int} {x : Str} (h1 : n.kids[i]? = some c) (h2 : n.keys[i]? = some x) (h3 : NdIs l c sb) : joinOf l n (i + 1 - 1) (i + 1) M = inr (brs sb ++ (x, M.kids.headD 0) :: (brs M).tail) := by
 unfold joinOf
 rw [Nat.add_sub_cancel, if_neg (by omega), if_neg (by omega)]
 have q1 : n.kids.getD i 0 = c := by rw [List.getD_eq_getElem?_getD, h1]; rfl
 have q2 : n.keys.getD i [] = x := by rw [List.getD_eq_getElem?_getD, h2]; rfl
 rw [q1, q2, h3.at]
theorem R4.fin {B gc g : Nat} {next : Int} {m : Int → Option Value} {J M' : Nd} {AD AD2 : List Nd} {n : Nd} {kv vv dv : Value} {w w3 w4 w5 w6 : World} {g12 gb C L cap : Nat} {jk jv jd av av2 kI dI : Value} {ns ns2 : List NV} {bs : List Br}
  (h : R4 B gc g next m J AD n kv vv dv w w3 g12 jk jv jd av ns) (hB : B ≤ w.heap.size) (hgc : gc < w.heap.size) (hg : g < w.heap.size) (hC : w.heap.size + 1 < C) (hav : ∀ b, av.ownBlock = some b → b < C) (hCb : C ≤ gb) (hb3 : gb < w3.heap.size)
  (k4 : KCh B gc av av2 w3 w4) (c4 : ChI B w4 gc g next av2 ns2) (al4 : AllK w4 ns2) (e4 : ns2.map (·.1) = AD2) (o4 : OwnBr C w4 (.slice (some ⟨gb, 0, none⟩) L cap) bs) (gr : w4.grownBy w5 (some gb)) (b6 : Below w5.heap.size w5 w6) (oI : OwnN w5.heap.size w6 kI (.slice none 0 0) dI M') (hM : M'.leaf = false) :
  w6.heap[w.heap.size + 1]? = some (.cells #[.bool false, .slice none 0 0, .slice none 0 0, .slice none 0 0] 76 (0, 0)) ∧ RbX B gc g next m M' AD2 w (S4 (w.heap.size + 1) w6 (.bool false) kI (.slice none 0 0) dI) (.returned (nv M' kI (.slice none 0 0) dI)) := by
 have ha2 : ∀ b, av2.ownBlock = some b → b ≠ gb ∧ b ≠ w.heap.size + 1 := fun b hb => by
  rcases k4.row b hb with q | q
  ·have := hav b q
   exact ⟨by omega, (h.na b q).2.2⟩
  ·exact ⟨by omega, by omega⟩
 have rb4 := (k4.keep _ (lt_of_block h.rb) (by omega) (fun e => (h.na _ e).2.2 rfl)).trans h.rb
 have hst : ∀ b, b < w4.heap.size → b ≠ gb → w6.heap[b]? = w4.heap[b]? := fun b h1 h2 => (b6.block b (Nat.lt_of_lt_of_le h1 gr.size)).trans (gr.block b h1 (fun e => h2 (Option.some.inj e)))
 have rb6 := (hst _ (lt_of_block rb4) (by omega)).trans rb4
 have kt : ∀ e, e ≠ 76 → KeepT e w6 (S4 (w.heap.size + 1) w6 (.bool false) kI (.slice none 0 0) dI) := fun e he => s4_keep rb6 _ _ _ _ he
 have hot : ∀ b, b ≠ w.heap.size + 1 → (S4 (w.heap.size + 1) w6 (.bool false) kI (.slice none 0 0) dI).heap[b]? = w6.heap[b]? := fun b hb => s4_other _ _ _ _ hb
 have hall : ∀ b, b < w4.heap.size → b ≠ gb → b ≠ w.heap.size + 1 → (S4 (w.heap.size + 1) w6 (.bool false) kI (.slice none 0 0) dI).heap[b]? = w4.heap[b]? := fun b h1 h2 h3 => (hot b h3).trans (hst b h1 h2)
 have k46 : ∀ e, e ≠ 133 → e ≠ 76 → KeepT e w4 (S4 (w.heap.size + 1) w6 (.bool false) kI (.slice none 0 0) dI) := fun e h1 h2 => ((KeepT.grown o4 gr h1).trans (KeepT.below b6)).trans (kt e h2)
 have kr4 := h.kr.then k4
 have hs4 := kr4.size
 refine ⟨rb6, kI, .slice none 0 0, dI, av2, ns2, rfl, oI.rdk.keepT (kt _ (by decide)) (kt _ (by decide)), ⟨(hall gc (by omega) (by omega) (by omega)).trans c4.box, row_block c4.row fun b hb => hall b (World.ownsRow.lt c4.row b hb).2 (ha2 b hb).1 (ha2 b hb).2, ?_, c4.hC⟩, al4.keepT (k46 _ (by decide) (by decide)) (k46 _ (by decide) (by decide)), e4, ⟨fun b h1 h2 h3 => (hall b (by omega) (by omega) (by omega)).trans (kr4.keep b h1 h2 h3), kr4.row, ?_, ?_⟩⟩
 ·have e1 := hall g (by omega) (by omega) (by omega)
  have := c4.nxt
  simp only [World.cell?] at this ⊢
  rw [e1]; exact this
 ·have hs5 := gr.size
  exact below_set4n (((kr4.bel.grown gr (by omega) (fun k e => by cases e; omega))).trans (b6.mono (by omega))) (by omega) _ _ _ _
 ·have := b6.size
  have := gr.size
  simp only [S4, World.setCell, Array.size_modify]
  omega
def SibOk (B : Nat) (w : World) (l : List Wrt) (m : Int → Option Value) (b : Br) : Prop := ∃ sb sk sv sd, NdIs l b.2 sb ∧ sb.leaf = false ∧ m b.2 = some (nv sb sk sv sd) ∧ (Lit.int .i64 b.2).wf = true ∧ RdK w sk sv sd sb ∧ ∀ q, RowOf (nv sb sk sv sd) q → ¬ LfB m q
set_option maxRecDepth 100000 in
set_option maxHeartbeats 16000000 in
theorem preb_step (B gc g bm k : Nat) (next : Int) (l : List Wrt) (m : Int → Option Value) (d : Nat) (n : Nd) (kv vv dv : Value) (key : Str) (Fn : Nat) (caps : Array Value) (ed : Nd → Nd) (w : World) (kx : Nat) (P : List Br) (X : Br) (S : List Br) (nd : Nd) (lo' : Str) (hi' : Option Str) (kk kvv kd : Value)
  (hC : CW w B g bm k l m) (hh : ChI B w gc g next (.slice none 0 0) []) (hB : B ≤ w.heap.size) (hgc : gc ≠ g) (hnx : 0 ≤ next ∧ next ≤ 65536) (hd : d ≤ 20) (hn : RdK w kv vv dv n) (hnr : ∀ b, RowOf (nv n kv vv dv) b → ¬ LfB m b) (hok : NOk n) (hl : n.leaf = false) (hlen : n.keys.length ≤ 200)
  (W : Way l d n key kx P X S nd lo' hi') (hm : m X.2 = some (nv nd kk kvv kd)) (hwf : (Lit.int .i64 X.2).wf = true) (hsib : ∀ (i : Nat) (b : Br), bareB (rebOf l next key ed d nd []).1 = true → (P ++ [X] ++ S)[i]? = some b → SibOk B w l m b)
  (IH : ∀ u, Below w.heap.size w u → Calls Tryz.prog 48 #[.pointer (some ⟨gc, 0, none⟩), nv nd kk kvv kd, st key, .func (.func Fn) #[] caps] u fun e u' => RbR B gc g next l m d key ed nd u u' e) (hsh : ShN d (rebOf l next key ed d nd []).1) :
  Calls Tryz.prog 48 #[.pointer (some ⟨gc, 0, none⟩), nv n kv vv dv, st key, .func (.func Fn) #[] caps] w fun e w' => RbR B gc g next l m (d + 1) key ed n w w' e := by
 have hfk : (nfind n key).toNat = kx := by rw [W.fnd]; simp
 have hgk : n.kids.getD kx 0 = X.2 := by rw [List.getD_eq_getElem?_getD, W.kid]; rfl
 have hreb := hide (reb_eq (l := l) (next := next) (key := key) (ed := ed) (d := d) (nd := nd) hfk (by rw [hgk]; exact W.isn.at))
 obtain ⟨MM, hMM⟩ : ∃ M, M = (rebOf l next key ed d nd []).1 := ⟨_, rfl⟩
 obtain ⟨AD, hAD⟩ : ∃ A, A = (rebOf l next key ed d nd []).2 := ⟨_, rfl⟩
 rw [← hMM, ← hAD] at hreb
 rw [← hMM] at hsh hsib
 have hkids : n.kids.length = n.keys.length + 1 := kids_len hok hl
 have hbrl : (brs n).length = n.kids.length := brs_len hkids
 obtain ⟨ka, kc, va, vc, da, dc, e1, e2, e3⟩ := hn.rd.slices
 obtain ⟨db, dO, e4, hcd⟩ := (show RdI w (.slice da n.kids.length dc) n.kids by rw [← e3]; exact hn.rd.kids).intAt W.kid
 subst e4
 subst e1 e2 e3
 obtain ⟨W1, hW1, D1, b1, s1⟩ := boxedN w #[.bool n.leaf, .slice ka n.keys.length kc, .slice va n.vals.length vc, .slice (some ⟨db, dO, none⟩) n.kids.length dc] 76
 obtain ⟨X1, hX1, D2, b2, s2⟩ := boxedN W1 #[.bool false, .slice none 0 0, .slice none 0 0, .slice none 0 0] 76
 have bX := b1.trans (b2.mono b1.size)
 have DN := (b2.block _ (lt_of_block D1)).trans D1
 rw [s1] at D2
 have KF := hide (pfind9_any X1 _ _ _ n key (hn.rd.to bX) hok.fit)
 have hgcw : gc < w.heap.size := lt_of_block hh.box
 have hgw : g < w.heap.size := cell_lt hh.nxt
 have hdbw : db < w.heap.size := cell_lt hcd
 have hdbL : ¬ LfB m db := hnr db ⟨_, _, _, _, rfl, .inr (.inr rfl)⟩
 have HNL : Hid (∀ b, w.heap.size ≤ b → ¬ LfB m b) := fun b hb hL => by have := (hC.leaf hL).2; omega
 have HBL : Hid (∀ b, b < B → ¬ LfB m b) := fun b hb hL => by have := (hC.leaf hL).1; omega
 have hkxl : kx < n.kids.length := (List.getElem?_eq_some_iff.1 W.kid).1
 have HX := hide (And.intro DN (And.intro D2 bX))
 have HC := hide hC
 have HH := hide hh
 have HN := hide hn
 have HNR := hide hnr
 obtain ⟨⟨E0, E1, E2, E3⟩, EF⟩ := cells4 DN
 have HS : Hid (∀ w' {av' : Value} {ns' : List NV}, KRb B gc m av' w w' → ChI B w' gc g next av' ns' → w'.cell? ⟨w.heap.size, 3, none⟩ = some (.slice (some ⟨db, dO, none⟩) n.kids.length dc) → (w'.cell? ⟨gc, 0, none⟩ = some (.pointer (some ⟨g, 0, none⟩)) ∧ w'.cell? ⟨g, 3, none⟩ = some (.map (some bm)) ∧ w'.cell? ⟨w.heap.size, 3, none⟩ = some (.slice (some ⟨db, dO, none⟩) n.kids.length dc)) ∧ w'.cell? ⟨db, dO + kx, none⟩ = some (.int .i64 X.2) ∧ MapI w' bm k m) := fun w' av' ns' kr c h3 => by
  have hkc : ∀ b j u, w.cell? ⟨b, j, none⟩ = some u → b ≠ gc → ¬ LfB m b → w'.cell? ⟨b, j, none⟩ = some u := fun b j u hc h1 h2 => by
   have e9 := kr.keep b (cell_lt hc) h1 h2
   simp only [World.cell?] at hc ⊢
   rw [e9]; exact hc
  refine ⟨⟨cellN c.box rfl, hkc _ _ _ hC.s (Ne.symm hgc) (HBL.out g hC.hg), h3⟩, hkc _ _ _ hcd ?_ hdbL, hC.map.kept (kr.keep bm hC.map.lt (hC.map.ne hh.box) (HBL.out bm hC.hm))⟩
  intro e9
  subst e9
  obtain ⟨cur, fr, e8⟩ := hn.td db rfl
  rw [hh.box] at e8
  simp at e8
 have HS2 : Hid (∀ u d2 : World, ((u.cell? ⟨gc, 0, none⟩ = some (.pointer (some ⟨g, 0, none⟩)) ∧ u.cell? ⟨g, 3, none⟩ = some (.map (some bm)) ∧ u.cell? ⟨w.heap.size, 3, none⟩ = some (.slice (some ⟨db, dO, none⟩) n.kids.length dc)) ∧ u.cell? ⟨db, dO + kx, none⟩ = some (.int .i64 X.2) ∧ MapI u bm k m) → Below u.heap.size u d2 → (d2.cell? ⟨gc, 0, none⟩ = some (.pointer (some ⟨g, 0, none⟩)) ∧ d2.cell? ⟨g, 3, none⟩ = some (.map (some bm)) ∧ d2.cell? ⟨w.heap.size, 3, none⟩ = some (.slice (some ⟨db, dO, none⟩) n.kids.length dc)) ∧ d2.cell? ⟨db, dO + kx, none⟩ = some (.int .i64 X.2) ∧ MapI d2 bm k m) := fun u d2 ⟨⟨h1, h2, h3⟩, h4, h5⟩ q => ⟨⟨(q.cell (cell_lt h1)).trans h1, (q.cell (cell_lt h2)).trans h2, (q.cell (cell_lt h3)).trans h3⟩, (q.cell (cell_lt h4)).trans h4, h5.kept (q.block _ h5.lt)⟩
 have hfnd := hide W.fnd
 have HW := hide W
 have IH' : Hid (∀ u, Below w.heap.size w u → Calls Tryz.prog 48 #[.pointer (some ⟨gc, 0, none⟩), nv nd kk kvv kd, st key, .func (.func Fn) #[] caps] u fun e u' => RbX B gc g next m MM AD u u' e) := fun u b => (IH u b).mono fun e u' h9 => by
  rw [hMM, hAD]
  exact h9
 clear IH
 have IH := IH'
 clear IH'
 replace hm := hide hm
 replace hwf := hide hwf
 replace hsh := hide hsh
 replace hsib := hide hsib
 have HOK := hide hok
 have HLF := hide hl
 rw [W.fnd] at KF
 rw [hl] at hW1 E0 HX
 dsimp only [nv] at KF ⊢
 rw [hl] at KF ⊢
 generalize hZ : n.kids.length = Z at *
 generalize hKN : n.keys.length = KN at *
 generalize hVN : n.vals.length = VN at *
 replace hZ := hide hZ
 replace hKN := hide hKN
 replace hVN := hide hVN
 replace hkids := hide hkids
 replace hbrl := hide hbrl
 replace hMM := hide hMM
 replace hAD := hide hAD
 rw [hX1, hW1] at E0 E1 E2 E3 EF KF
 clear D1 D2 b1 b2 s1 s2 bX DN hn hnr hC hok hl W hfk hgk
 go_enter Tryz.func48, Tryz.ntmps48
 go_wp2_with fail
 refine KF.out.mono ?_
 rintro e w1 ⟨rfl, b1⟩
 rw [← hW1, ← hX1] at b1
 clear E0 E1 E2 E3 EF KF
 replace hW1 := hide hW1
 replace hX1 := hide hX1
 have NB1 := (b1.block _ (lt_of_block HX.out.1)).trans HX.out.1
 have RB1 := (b1.block _ (lt_of_block HX.out.2.1)).trans HX.out.2.1
 have bw1 := HX.out.2.2.trans (b1.mono HX.out.2.2.size)
 have H1 := hide (And.intro NB1 (And.intro RB1 bw1))
 obtain ⟨⟨E0, E1, E2, E3⟩, EF⟩ := cells4 NB1
 clear NB1 RB1 bw1 b1
 go_upto_region 4 with fail
 clear E0 E1 E2 E3 EF
 go_cut [12] from 31 to 47 (fun p12 wx => ∃ (g12 : Nat) (kv' vv' dv' av' : Value) (ns' : List NV), p12 = .pointer (some ⟨g12, 0, none⟩) ∧ Hid (R4 B gc g next m MM AD n (.slice ka KN kc) (.slice va VN vc) (.slice (some ⟨db, dO, none⟩) Z dc) w wx g12 kv' vv' dv' av' ns'))
 case first =>
  obtain ⟨NB1, RB1, bw1⟩ := H1.out
  have b0 : Below w1.heap.size w1 w1.drew := below_drewN' w1 1 _
  have NB0 := (b0.block _ (lt_of_block NB1)).trans NB1
  have RB0 := (b0.block _ (lt_of_block RB1)).trans RB1
  have bwc := bw1.trans (b0.mono bw1.size)
  refine wp_region_fan (fun w' => (w'.cell? ⟨gc, 0, none⟩ = some (.pointer (some ⟨g, 0, none⟩)) ∧ w'.cell? ⟨g, 3, none⟩ = some (.map (some bm)) ∧ w'.cell? ⟨w.heap.size, 3, none⟩ = some (.slice (some ⟨db, dO, none⟩) Z dc)) ∧ w'.cell? ⟨db, dO + kx, none⟩ = some (.int .i64 X.2) ∧ MapI w' bm k m) 18 mixed (by simp) ?_
  generalize w1.drew = c0 at *
  have S0 : (c0.cell? ⟨gc, 0, none⟩ = some (.pointer (some ⟨g, 0, none⟩)) ∧ c0.cell? ⟨g, 3, none⟩ = some (.map (some bm)) ∧ c0.cell? ⟨w.heap.size, 3, none⟩ = some (.slice (some ⟨db, dO, none⟩) Z dc)) ∧ c0.cell? ⟨db, dO + kx, none⟩ = some (.int .i64 X.2) ∧ MapI c0 bm k m := HS.out c0 (KRb.first bwc hB ⟨fun _ _ _ _ => rfl, (fun b hb => by cases hb), Below.refl _ _, Nat.le_refl _⟩) (HH.out.to bwc) (cells4 NB0).1.2.2.2
  have HCA : Hid (∀ u1 av' ns', KRb B gc m av' c0 u1 → ChI B u1 gc g next av' ns' → ((u1.cell? ⟨gc, 0, none⟩ = some (.pointer (some ⟨g, 0, none⟩)) ∧ u1.cell? ⟨g, 3, none⟩ = some (.map (some bm)) ∧ u1.cell? ⟨w.heap.size, 3, none⟩ = some (.slice (some ⟨db, dO, none⟩) Z dc)) ∧ u1.cell? ⟨db, dO + kx, none⟩ = some (.int .i64 X.2) ∧ MapI u1 bm k m) ∧ u1.heap[w.heap.size]? = some (.cells #[.bool false, .slice ka KN kc, .slice va VN vc, .slice (some ⟨db, dO, none⟩) Z dc] 76 (0, 0)) ∧ u1.heap[w.heap.size + 1]? = some (.cells #[.bool false, .slice none 0 0, .slice none 0 0, .slice none 0 0] 76 (0, 0)) ∧ KRb B gc m av' w u1) := fun u1 av' ns' r5 r2 => by
   have n1 := (r5.keep _ (lt_of_block NB0) (by omega) (HNL.out _ (Nat.le_refl _))).trans NB0
   exact ⟨HS.out u1 (KRb.first bwc hB r5) r2 (cells4 n1).1.2.2.2, n1, (r5.keep _ (lt_of_block RB0) (by omega) (HNL.out _ (by omega))).trans RB0, KRb.first bwc hB r5⟩
  clear NB1 RB1 bw1 b0
  refine fan_take (i := 0) (v := ?_) rfl (by kernel_rfl) (fun _ _ _ _ h => h) (by kernel_rfl) S0 ?_ ?_
  rotate_left
  ·rintro w' ⟨⟨s1, s2, s3⟩, s4, s5⟩
   have hlk := s5.look Tryz.underlying86 (zeroNd w') hwf.out false
   rw [hm.out] at hlk
   simp only [Option.getD_some, Bool.false_eq_true, if_false] at hlk
   dsimp only [nv] at hlk
   go_simp
   try with_reducible rfl
  try simp only [List.getElem_toArray, List.getElem_cons_succ, List.getElem_cons_zero, List.getElem?_toArray, List.getElem?_cons_succ, List.getElem?_cons_zero, Act.put, List.setIfInBounds_toArray, List.set_cons_zero, List.set_cons_succ]
  refine fan_take (i := 1) (v := ?_) rfl (by kernel_rfl) (fun _ _ _ _ h => h) (by kernel_rfl) S0 ?_ ?_
  rotate_left
  ·rintro w' ⟨⟨s1, s2, s3⟩, s4, s5⟩
   have hlk := s5.look Tryz.underlying86 (zeroNd w') hwf.out false
   rw [hm.out] at hlk
   simp only [Option.getD_some, Bool.false_eq_true, if_false] at hlk
   dsimp only [nv] at hlk
   go_simp
   try with_reducible rfl
  try simp only [List.getElem_toArray, List.getElem_cons_succ, List.getElem_cons_zero, List.getElem?_toArray, List.getElem?_cons_succ, List.getElem?_cons_zero, Act.put, List.setIfInBounds_toArray, List.set_cons_zero, List.set_cons_succ]
  refine fan_take (i := 2) (v := ?_) rfl (by kernel_rfl) (fun _ _ _ _ h => h) (by kernel_rfl) S0 ?_ ?_
  rotate_left
  ·rintro w' ⟨⟨s1, s2, s3⟩, s4, s5⟩
   have hlk := s5.look Tryz.underlying86 (zeroNd w') hwf.out false
   rw [hm.out] at hlk
   simp only [Option.getD_some, Bool.false_eq_true, if_false] at hlk
   dsimp only [nv] at hlk
   go_simp
   try with_reducible rfl
  try simp only [List.getElem_toArray, List.getElem_cons_succ, List.getElem_cons_zero, List.getElem?_toArray, List.getElem?_cons_succ, List.getElem?_cons_zero, Act.put, List.setIfInBounds_toArray, List.set_cons_zero, List.set_cons_succ]
  refine fan_take (i := 3) (v := ?_) rfl (by kernel_rfl) (fun _ _ _ _ h => h) (by kernel_rfl) S0 ?_ ?_
  rotate_left
  ·rintro w' ⟨⟨s1, s2, s3⟩, s4, s5⟩
   have hlk := s5.look Tryz.underlying86 (zeroNd w') hwf.out false
   rw [hm.out] at hlk
   simp only [Option.getD_some, Bool.false_eq_true, if_false] at hlk
   dsimp only [nv] at hlk
   go_simp
   try with_reducible rfl
  try simp only [List.getElem_toArray, List.getElem_cons_succ, List.getElem_cons_zero, List.getElem?_toArray, List.getElem?_cons_succ, List.getElem?_cons_zero, Act.put, List.setIfInBounds_toArray, List.set_cons_zero, List.set_cons_succ]
  refine fan_take (i := 4) (v := ?_) rfl (by kernel_rfl) (fun _ _ _ _ h => h) (by kernel_rfl) S0 ?_ ?_
  rotate_left
  ·rintro w' ⟨⟨s1, s2, s3⟩, s4, s5⟩
   have hlk := s5.look Tryz.underlying86 (zeroNd w') hwf.out false
   rw [hm.out] at hlk
   simp only [Option.getD_some, Bool.false_eq_true, if_false] at hlk
   dsimp only [nv] at hlk
   go_simp
   try with_reducible rfl
  try simp only [List.getElem_toArray, List.getElem_cons_succ, List.getElem_cons_zero, List.getElem?_toArray, List.getElem?_cons_succ, List.getElem?_cons_zero, Act.put, List.setIfInBounds_toArray, List.set_cons_zero, List.set_cons_succ]
  refine fan_take (i := 5) (v := ?_) rfl (by kernel_rfl) (fun _ _ _ _ h => h) (by kernel_rfl) S0 ?_ ?_
  rotate_left
  ·rintro w' ⟨⟨s1, s2, s3⟩, s4, s5⟩
   have hlk := s5.look Tryz.underlying86 (zeroNd w') hwf.out false
   rw [hm.out] at hlk
   simp only [Option.getD_some, Bool.false_eq_true, if_false] at hlk
   dsimp only [nv] at hlk
   go_simp
   try with_reducible rfl
  try simp only [List.getElem_toArray, List.getElem_cons_succ, List.getElem_cons_zero, List.getElem?_toArray, List.getElem?_cons_succ, List.getElem?_cons_zero, Act.put, List.setIfInBounds_toArray, List.set_cons_zero, List.set_cons_succ]
  refine fan_take (i := 6) (v := ?_) rfl (by kernel_rfl) (fun _ _ _ _ h => h) (by kernel_rfl) S0 ?_ ?_
  rotate_left
  ·rintro w' ⟨⟨s1, s2, s3⟩, s4, s5⟩
   have hlk := s5.look Tryz.underlying86 (zeroNd w') hwf.out false
   rw [hm.out] at hlk
   simp only [Option.getD_some, Bool.false_eq_true, if_false] at hlk
   dsimp only [nv] at hlk
   go_simp
   try with_reducible rfl
  try simp only [List.getElem_toArray, List.getElem_cons_succ, List.getElem_cons_zero, List.getElem?_toArray, List.getElem?_cons_succ, List.getElem?_cons_zero, Act.put, List.setIfInBounds_toArray, List.set_cons_zero, List.set_cons_succ]
  refine fan_take (i := 7) (v := ?_) rfl (by kernel_rfl) (fun _ _ _ _ h => h) (by kernel_rfl) S0 ?_ ?_
  rotate_left
  ·rintro w' ⟨⟨s1, s2, s3⟩, s4, s5⟩
   have hlk := s5.look Tryz.underlying86 (zeroNd w') hwf.out false
   rw [hm.out] at hlk
   simp only [Option.getD_some, Bool.false_eq_true, if_false] at hlk
   dsimp only [nv] at hlk
   go_simp
   try with_reducible rfl
  try simp only [List.getElem_toArray, List.getElem_cons_succ, List.getElem_cons_zero, List.getElem?_toArray, List.getElem?_cons_succ, List.getElem?_cons_zero, Act.put, List.setIfInBounds_toArray, List.set_cons_zero, List.set_cons_succ]
  refine fan_take (i := 8) (v := ?_) rfl (by kernel_rfl) (fun _ _ _ _ h => h) (by kernel_rfl) S0 ?_ ?_
  rotate_left
  ·rintro w' ⟨⟨s1, s2, s3⟩, s4, s5⟩
   have hlk := s5.look Tryz.underlying86 (zeroNd w') hwf.out false
   rw [hm.out] at hlk
   simp only [Option.getD_some, Bool.false_eq_true, if_false] at hlk
   dsimp only [nv] at hlk
   go_simp
   try with_reducible rfl
  try simp only [List.getElem_toArray, List.getElem_cons_succ, List.getElem_cons_zero, List.getElem?_toArray, List.getElem?_cons_succ, List.getElem?_cons_zero, Act.put, List.setIfInBounds_toArray, List.set_cons_zero, List.set_cons_succ]
  refine fan_take (i := 9) (v := ?_) rfl (by kernel_rfl) (fun _ _ _ _ h => h) (by kernel_rfl) S0 ?_ ?_
  rotate_left
  ·rintro w' ⟨⟨s1, s2, s3⟩, s4, s5⟩
   have hlk := s5.look Tryz.underlying86 (zeroNd w') hwf.out false
   rw [hm.out] at hlk
   simp only [Option.getD_some, Bool.false_eq_true, if_false] at hlk
   dsimp only [nv] at hlk
   go_simp
   try with_reducible rfl
  try simp only [List.getElem_toArray, List.getElem_cons_succ, List.getElem_cons_zero, List.getElem?_toArray, List.getElem?_cons_succ, List.getElem?_cons_zero, Act.put, List.setIfInBounds_toArray, List.set_cons_zero, List.set_cons_succ]
  refine fan_take (i := 10) (v := ?_) rfl (by kernel_rfl) (fun _ _ _ _ h => h) (by kernel_rfl) S0 ?_ ?_
  rotate_left
  ·rintro w' ⟨⟨s1, s2, s3⟩, s4, s5⟩
   have hlk := s5.look Tryz.underlying86 (zeroNd w') hwf.out false
   rw [hm.out] at hlk
   simp only [Option.getD_some, Bool.false_eq_true, if_false] at hlk
   dsimp only [nv] at hlk
   go_simp
   try with_reducible rfl
  try simp only [List.getElem_toArray, List.getElem_cons_succ, List.getElem_cons_zero, List.getElem?_toArray, List.getElem?_cons_succ, List.getElem?_cons_zero, Act.put, List.setIfInBounds_toArray, List.set_cons_zero, List.set_cons_succ]
  refine fan_take (i := 11) (v := ?_) rfl (by kernel_rfl) (fun _ _ _ _ h => h) (by kernel_rfl) S0 ?_ ?_
  rotate_left
  ·rintro w' ⟨⟨s1, s2, s3⟩, s4, s5⟩
   have hlk := s5.look Tryz.underlying86 (zeroNd w') hwf.out false
   rw [hm.out] at hlk
   simp only [Option.getD_some, Bool.false_eq_true, if_false] at hlk
   dsimp only [nv] at hlk
   go_simp
   try with_reducible rfl
  try simp only [List.getElem_toArray, List.getElem_cons_succ, List.getElem_cons_zero, List.getElem?_toArray, List.getElem?_cons_succ, List.getElem?_cons_zero, Act.put, List.setIfInBounds_toArray, List.set_cons_zero, List.set_cons_succ]
  refine fan_take (i := 12) (v := ?_) rfl (by kernel_rfl) (fun _ _ _ _ h => h) (by kernel_rfl) S0 ?_ ?_
  rotate_left
  ·rintro w' ⟨⟨s1, s2, s3⟩, s4, s5⟩
   have hlk := s5.look Tryz.underlying86 (zeroNd w') hwf.out false
   rw [hm.out] at hlk
   simp only [Option.getD_some, Bool.false_eq_true, if_false] at hlk
   dsimp only [nv] at hlk
   go_simp
   try with_reducible rfl
  try simp only [List.getElem_toArray, List.getElem_cons_succ, List.getElem_cons_zero, List.getElem?_toArray, List.getElem?_cons_succ, List.getElem?_cons_zero, Act.put, List.setIfInBounds_toArray, List.set_cons_zero, List.set_cons_succ]
  refine fan_take (i := 13) (v := ?_) rfl (by kernel_rfl) (fun _ _ _ _ h => h) (by kernel_rfl) S0 ?_ ?_
  rotate_left
  ·rintro w' ⟨⟨s1, s2, s3⟩, s4, s5⟩
   have hlk := s5.look Tryz.underlying86 (zeroNd w') hwf.out false
   rw [hm.out] at hlk
   simp only [Option.getD_some, Bool.false_eq_true, if_false] at hlk
   dsimp only [nv] at hlk
   go_simp
   try with_reducible rfl
  try simp only [List.getElem_toArray, List.getElem_cons_succ, List.getElem_cons_zero, List.getElem?_toArray, List.getElem?_cons_succ, List.getElem?_cons_zero, Act.put, List.setIfInBounds_toArray, List.set_cons_zero, List.set_cons_succ]
  refine fan_take (i := 14) (v := ?_) rfl (by kernel_rfl) (fun _ _ _ _ h => h) (by kernel_rfl) S0 ?_ ?_
  rotate_left
  ·rintro w' ⟨⟨s1, s2, s3⟩, s4, s5⟩
   have hlk := s5.look Tryz.underlying86 (zeroNd w') hwf.out false
   rw [hm.out] at hlk
   simp only [Option.getD_some, Bool.false_eq_true, if_false] at hlk
   dsimp only [nv] at hlk
   go_simp
   try with_reducible rfl
  try simp only [List.getElem_toArray, List.getElem_cons_succ, List.getElem_cons_zero, List.getElem?_toArray, List.getElem?_cons_succ, List.getElem?_cons_zero, Act.put, List.setIfInBounds_toArray, List.set_cons_zero, List.set_cons_succ]
  refine fan_take (i := 15) (v := ?_) rfl (by kernel_rfl) (fun _ _ _ _ h => h) (by kernel_rfl) S0 ?_ ?_
  rotate_left
  ·rintro w' ⟨⟨s1, s2, s3⟩, s4, s5⟩
   have hlk := s5.look Tryz.underlying86 (zeroNd w') hwf.out false
   rw [hm.out] at hlk
   simp only [Option.getD_some, Bool.false_eq_true, if_false] at hlk
   dsimp only [nv] at hlk
   go_simp
   try with_reducible rfl
  try simp only [List.getElem_toArray, List.getElem_cons_succ, List.getElem_cons_zero, List.getElem?_toArray, List.getElem?_cons_succ, List.getElem?_cons_zero, Act.put, List.setIfInBounds_toArray, List.set_cons_zero, List.set_cons_succ]
  refine fan_two 16 17 (by kernel_rfl) ?_ ?_
  ·refine fan_step rfl (by kernel_rfl) fun K' hK' => ?_
   refine wp_call_of 48 _ _ (by rfl) _ (by simp [Act.eval]) (Tryz.call48 _ _) (IH.out c0 bwc) ?_
   rintro e u1 ⟨kv', vv', dv', av', ns', rfl, r1, r2, r3, r4, r5⟩
   have Q1 := HCA.out u1 av' ns' r5 r2
   refine ⟨_, rfl, hK' _ _ Q1.1 ?_⟩
   clear hK' K'
   try simp only [List.getElem_toArray, List.getElem_cons_succ, List.getElem_cons_zero, List.getElem?_toArray, List.getElem?_cons_succ, List.getElem?_cons_zero, Act.put, List.setIfInBounds_toArray, List.set_cons_zero, List.set_cons_succ]
   obtain ⟨S1, n1, n2, kr1⟩ := Q1
   obtain ⟨ka', kc', va', vc', da', dc', rfl, rfl, rfl⟩ := r1.rd.slices
   dsimp only [nv]
   try simp only [List.getElem_toArray, List.getElem_cons_succ, List.getElem_cons_zero, List.getElem?_toArray, List.getElem?_cons_succ, List.getElem?_cons_zero, Act.put, List.setIfInBounds_toArray, List.set_cons_zero, List.set_cons_succ]
   refine fan_one 17 (by kernel_rfl) ?_
   refine fan_step rfl (by kernel_rfl) fun K' hK' => ?_
   go_simp
   obtain ⟨d2, hc2, E2, q2, s2⟩ := boxedN u1 #[.bool false, .slice none 0 0, .slice none 0 0, .slice none 0 0] 76
   rw [← hc2]
   obtain ⟨g12, hg12⟩ : ∃ q, q = u1.heap.size := ⟨_, rfl⟩
   rw [← hg12] at E2 ⊢
   have RR : R4 B gc g next m MM AD n (.slice ka KN kc) (.slice va VN vc) (.slice (some ⟨db, dO, none⟩) Z dc) w (S4 g12 d2 (.bool MM.leaf) (.slice ka' MM.keys.length kc') (.slice va' MM.vals.length vc') (.slice da' MM.kids.length dc')) g12 (.slice ka' MM.keys.length kc') (.slice va' MM.vals.length vc') (.slice da' MM.kids.length dc') av' ns' := by
    have z : R4 B gc g next m ⟨false, [], [], []⟩ AD n (.slice ka KN kc) (.slice va VN vc) (.slice (some ⟨db, dO, none⟩) Z dc) w d2 g12 (.slice none 0 0) (.slice none 0 0) (.slice none 0 0) av' ns' :=
     ⟨E2, (OwnN.nil 0 _ _).rdk, r2.to q2, r3.to q2, r4, kr1.then (KCh.of q2 (Nat.le_trans hB kr1.size)), (q2.block _ (lt_of_block n1)).trans n1, (q2.block _ (lt_of_block n2)).trans n2, by have := lt_of_block n2; omega, fun b hb => ⟨by have := (World.ownsRow.lt r2.row b hb).2; omega, by have := r5.row b hb; have := lt_of_block NB0; omega, by have := r5.row b hb; have := lt_of_block RB0; omega⟩⟩
    exact z.put hB hgcw hgw (r1.to q2)
   have FN := hide RR
   refine hK' _ _ (HS2.out u1 d2 S1 q2) ?_
   clear hK' K'
   try simp only [List.getElem_toArray, List.getElem_cons_succ, List.getElem_cons_zero, List.getElem?_toArray, List.getElem?_cons_succ, List.getElem?_cons_zero, Act.put, List.setIfInBounds_toArray, List.set_cons_zero, List.set_cons_succ]
   replace hg12 := hide hg12
   refine fan_done (by kernel_rfl) ?_
   show wpList _ _ _ _ _ _
   obtain ⟨⟨y0, y1, y2, y3⟩, yf⟩ := cells4 E2
   dsimp only [List.drop]
   clear RR n1 n2 kr1 E2 q2 s2 hc2 r1 r2 r3 r4 r5 S1
   go_wp2_with fail
   go_meet
   exact ⟨g12, _, _, _, av', ns', rfl, FN⟩
  ·refine fan_step rfl (by kernel_rfl) fun K' hK' => ?_
   go_simp
   obtain ⟨d2, hc2, E2, q2, s2⟩ := boxedN c0 #[.bool false, .slice none 0 0, .slice none 0 0, .slice none 0 0] 76
   rw [← hc2]
   obtain ⟨g12, hg12⟩ : ∃ q, q = c0.heap.size := ⟨_, rfl⟩
   rw [← hg12] at E2 ⊢
   have bwd := bwc.trans (q2.mono bwc.size)
   refine hK' _ _ (HS2.out c0 d2 S0 q2) ?_
   clear hK' K'
   try simp only [List.getElem_toArray, List.getElem_cons_succ, List.getElem_cons_zero, List.getElem?_toArray, List.getElem?_cons_succ, List.getElem?_cons_zero, Act.put, List.setIfInBounds_toArray, List.set_cons_zero, List.set_cons_succ]
   have NB2 := (q2.block _ (lt_of_block NB0)).trans NB0
   have RB2 := (q2.block _ (lt_of_block RB0)).trans RB0
   have l12 : w.heap.size + 1 < g12 := by have := lt_of_block RB0; omega
   have h12 : g12 < d2.heap.size := lt_of_block E2
   replace hg12 := hide hg12
   clear hc2 s2
   have HCB : Hid (∀ u1 av' ns', KRb B gc m av' d2 u1 → ChI B u1 gc g next av' ns' → ((u1.cell? ⟨gc, 0, none⟩ = some (.pointer (some ⟨g, 0, none⟩)) ∧ u1.cell? ⟨g, 3, none⟩ = some (.map (some bm)) ∧ u1.cell? ⟨w.heap.size, 3, none⟩ = some (.slice (some ⟨db, dO, none⟩) Z dc)) ∧ u1.cell? ⟨db, dO + kx, none⟩ = some (.int .i64 X.2) ∧ MapI u1 bm k m) ∧ u1.heap[w.heap.size]? = some (.cells #[.bool false, .slice ka KN kc, .slice va VN vc, .slice (some ⟨db, dO, none⟩) Z dc] 76 (0, 0)) ∧ u1.heap[w.heap.size + 1]? = some (.cells #[.bool false, .slice none 0 0, .slice none 0 0, .slice none 0 0] 76 (0, 0)) ∧ KRb B gc m av' w u1 ∧ u1.heap[g12]? = some (.cells #[.bool false, .slice none 0 0, .slice none 0 0, .slice none 0 0] 76 (0, 0))) := fun u1 av' ns' r5 r2 => by
    have n1 := (r5.keep _ (lt_of_block NB2) (by omega) (HNL.out _ (Nat.le_refl _))).trans NB2
    exact ⟨HS.out u1 (KRb.first bwd hB r5) r2 (cells4 n1).1.2.2.2, n1, (r5.keep _ (lt_of_block RB2) (by omega) (HNL.out _ (by omega))).trans RB2, KRb.first bwd hB r5, (r5.keep _ h12 (by omega) (HNL.out _ (by omega))).trans E2⟩
   refine fan_one 16 (by kernel_rfl) ?_
   refine fan_step rfl (by kernel_rfl) fun K' hK' => ?_
   refine wp_call_of 48 _ _ (by rfl) _ (by simp [Act.eval]) (Tryz.call48 _ _) (IH.out d2 bwd) ?_
   rintro e u1 ⟨kv', vv', dv', av', ns', rfl, r1, r2, r3, r4, r5⟩
   have Q1 := HCB.out u1 av' ns' r5 r2
   refine ⟨_, rfl, hK' _ _ Q1.1 ?_⟩
   clear hK' K' HCB
   try simp only [List.getElem_toArray, List.getElem_cons_succ, List.getElem_cons_zero, List.getElem?_toArray, List.getElem?_cons_succ, List.getElem?_cons_zero, Act.put, List.setIfInBounds_toArray, List.set_cons_zero, List.set_cons_succ]
   obtain ⟨S1, n1, n2, kr1, E3⟩ := Q1
   obtain ⟨ka', kc', va', vc', da', dc', rfl, rfl, rfl⟩ := r1.rd.slices
   have RR : R4 B gc g next m MM AD n (.slice ka KN kc) (.slice va VN vc) (.slice (some ⟨db, dO, none⟩) Z dc) w (S4 g12 u1 (.bool MM.leaf) (.slice ka' MM.keys.length kc') (.slice va' MM.vals.length vc') (.slice da' MM.kids.length dc')) g12 (.slice ka' MM.keys.length kc') (.slice va' MM.vals.length vc') (.slice da' MM.kids.length dc') av' ns' := by
    have z : R4 B gc g next m ⟨false, [], [], []⟩ AD n (.slice ka KN kc) (.slice va VN vc) (.slice (some ⟨db, dO, none⟩) Z dc) w u1 g12 (.slice none 0 0) (.slice none 0 0) (.slice none 0 0) av' ns' :=
     ⟨E3, (OwnN.nil 0 _ _).rdk, r2, r3, r4, kr1, n1, n2, l12, fun b hb => ⟨by have := r5.row b hb; omega, by have := r5.row b hb; have := lt_of_block NB2; omega, by have := r5.row b hb; have := lt_of_block RB2; omega⟩⟩
    exact z.put hB hgcw hgw r1
   have FN := hide RR
   dsimp only [nv]
   try simp only [List.getElem_toArray, List.getElem_cons_succ, List.getElem_cons_zero, List.getElem?_toArray, List.getElem?_cons_succ, List.getElem?_cons_zero, Act.put, List.setIfInBounds_toArray, List.set_cons_zero, List.set_cons_succ]
   refine fan_done (by kernel_rfl) ?_
   show wpList _ _ _ _ _ _
   obtain ⟨⟨y0, y1, y2, y3⟩, yf⟩ := cells4 E3
   dsimp only [List.drop]
   clear RR n1 n2 kr1 E2 E3 q2 r1 r2 r3 r4 r5 S1 NB2 RB2
   go_wp2_with fail
   go_meet
   exact ⟨g12, _, _, _, av', ns', rfl, FN⟩
 case rest =>
  obtain ⟨g12, kv', vv', dv', av', ns', rfl, hR⟩ := hcut
  obtain ⟨ka', kc', va', vc', da', dc', rfl, rfl, rfl⟩ := hR.out.rd.rd.slices
  have KB := hide (pbare_any wc MM _ (.slice va' MM.vals.length vc') (.slice da' MM.kids.length dc') hR.out.rd.rd.keys ⟨rfl, rfl⟩)
  obtain ⟨⟨y0, y1, y2, y3⟩, yf⟩ := cells4 hR.out.b12
  have g1 : IntKind.i64.wrap ((kx : Int) + 1) = (kx : Int) + 1 := IntWalk.i64_in _ (by have := hkids.out; omega)
  dsimp only [nv] at KB
  go_wp2_with fail
  refine KB.out.mono ?_
  rintro e w2 ⟨rfl, b2⟩
  have R2 := hide (hR.out.to b2 hB)
  have hbb : Hid ((!MM.leaf && decide (MM.keys.length = 0)) = bareB MM) := rfl
  rw [hbb.out]
  clear KB y0 y1 y2 y3 yf b2 hR
  go_upto_if 52 with fail
  go_cut [13, 14] from 52 to 63 (fun f t wx => ∃ (jk jv jd : Value), f = .int .i64 (rbF kx MM : Int) ∧ t = .int .i64 (rbT kx MM : Int) ∧ Hid (R4 B gc g next m (rbJ l n kx MM) AD n (.slice ka KN kc) (.slice va VN vc) (.slice (some ⟨db, dO, none⟩) Z dc) w wx g12 jk jv jd av' ns'))
  case first =>
   cases hb : bareB MM with
   | false =>
    have q1 : Hid (rbF kx MM = kx ∧ rbT kx MM = kx + 1 ∧ rbJ l n kx MM = MM) := by
     unfold rbF rbT rbJ
     rw [hb]
     exact ⟨rfl, rfl, rfl⟩
    replace hb := hide hb
    go_wp2_with fail
    go_meet
    refine ⟨.slice ka' MM.keys.length kc', .slice va' MM.vals.length vc', .slice da' MM.kids.length dc', by rw [q1.out.1], by rw [q1.out.2.1]; push_cast; rfl, ?_⟩
    rw [q1.out.2.2]
    exact R2
   | true =>
    have NR := HN.out.krb HNR.out R2.out.kr HH.out.box
    have SS := HS.out w2 R2.out.kr R2.out.ch (cells4 R2.out.nb).1.2.2.2
    have CM : ChM w2 gc g bm k m := ⟨SS.1.1, SS.1.2.1, SS.2.2⟩
    obtain ⟨e0, b0, hde, hx1, hx2, hb2, hx3⟩ := sh_bare hsh.out hb
    have W := HW.out
    clear hde hx1 hx2 hx3
    by_cases hk1 : kx = 0
    ·skip
     subst hk1
     obtain ⟨c, hc1⟩ : ∃ c, (P ++ [X] ++ S)[1]? = some c := ⟨_, List.getElem?_eq_getElem (by have := W.two; omega)⟩
     obtain ⟨sb, sk, sv, sd, sis, slf, sm, swf, sR, sL⟩ := hsib.out 1 c hb hc1
     have SR := sR.krb sL R2.out.kr HH.out.box
     have hsl : ShOk sb := (show ShN 1 sb from by
      obtain ⟨q1, q2, q3⟩ := inr_to sis.ok slf
      exact ⟨brs sb, q1, by unfold brs; simp, q2.1, by have := sis.ok.2.2.2.2; omega⟩).ok
     have KJ := hide (pjoin_behind w2 gc g bm k m n MM sb (.slice ka KN kc) (.slice va VN vc) (.slice (some ⟨db, dO, none⟩) Z dc) _ _ _ sk sv sd 0 c.2 c.1 CM NR.rd R2.out.rd.rd SR.rd (W.sib 1 c hc1).1 swf sm (W.keys 0 c hc1) hb2 (kids_len sis.ok slf) (by have := (hsh.out.ok).len; omega) (by have := hsl.len; omega) (by rw [hZ.out]; have := hkids.out; omega))
     obtain ⟨JJ, hJJ⟩ : ∃ J, J = inr (brs MM ++ (c.1, sb.kids.headD 0) :: (brs sb).tail) := ⟨_, rfl⟩
     rw [← hJJ] at KJ
     have q1 : Hid (rbF 0 MM = 0 ∧ rbT 0 MM = 0 + 2 ∧ rbJ l n 0 MM = JJ) := by
      unfold rbF rbT rbJ
      rw [if_pos hb, if_pos hb, if_pos hb, hJJ]
      exact ⟨by omega, by omega, join_zero (W.sib 1 c hc1).1 (W.keys 0 c hc1) sis⟩
     obtain ⟨⟨y0, y1, y2, y3⟩, yf⟩ := cells4 R2.out.b12
     obtain ⟨⟨n0, n1, n2, n3⟩, nf⟩ := cells4 R2.out.nb
     have hJl : Hid (JJ.leaf = false) := by show _ = _; rw [hJJ]; rfl
     dsimp only [nv] at KJ
     rw [HLF.out] at KJ
     (try rw [show ((0 : Nat) : Int) = 0 from rfl] at KJ)
     replace hJJ := hide hJJ
     replace hb := hide hb
     have m1 : IntKind.i64.wrap (-1) = -1 := by decide
     clear sR SR hsl NR CM W sis slf sm swf sL hc1 hb2 SS
     go_wp2_with fail
     refine KJ.out.mono ?_
     rintro e w3 ⟨kj, dj, rfl, oJ, bJ⟩
     have Rb := R2.out.to bJ hB
     have RJ := hide (Rb.put hB hgcw hgw oJ.rdk)
     obtain ⟨⟨z0, z1, z2, z3⟩, zf⟩ := cells4 Rb.b12
     obtain ⟨kja, kjc, hkj⟩ := oJ.keys.rd.slice
     obtain ⟨dja, djc, hdj⟩ := oJ.kids.rd.slice
     subst hkj hdj
     dsimp only [nv]
     clear KJ y0 y1 y2 y3 yf n0 n1 n2 n3 nf Rb oJ bJ
     go_wp2_with fail
     go_meet
     refine ⟨.slice kja JJ.keys.length kjc, .slice none 0 0, .slice dja JJ.kids.length djc, by rw [q1.out.1]; rfl, by rw [q1.out.2.1]; push_cast; rfl, ?_⟩
     rw [q1.out.2.2]
     exact RJ
    ·skip
     obtain ⟨i, rfl⟩ : ∃ i, kx = i + 1 := ⟨kx - 1, by omega⟩
     obtain ⟨c, hc1⟩ : ∃ c, (P ++ [X] ++ S)[i]? = some c := ⟨_, List.getElem?_eq_getElem (by have := W.len; simp; omega)⟩
     have hcX : (P ++ [X] ++ S)[i + 1]? = some X := by rw [List.append_assoc, List.getElem?_append_right (by rw [W.len]; exact Nat.le_refl _), W.len]; simp
     obtain ⟨sb, sk, sv, sd, sis, slf, sm, swf, sR, sL⟩ := hsib.out i c hb hc1
     have SR := sR.krb sL R2.out.kr HH.out.box
     have hsl : ShOk sb := (show ShN 1 sb from by
      obtain ⟨q1, q2, q3⟩ := inr_to sis.ok slf
      exact ⟨brs sb, q1, by unfold brs; simp, q2.1, by have := sis.ok.2.2.2.2; omega⟩).ok
     have KJ := hide (pjoin_ahead w2 gc g bm k m n MM sb (.slice ka KN kc) (.slice va VN vc) (.slice (some ⟨db, dO, none⟩) Z dc) _ _ _ sk sv sd i c.2 X.1 CM NR.rd R2.out.rd.rd SR.rd (W.sib i c hc1).1 swf sm (W.keys i X hcX) hb2 (kids_len sis.ok slf) (by have := (hsh.out.ok).len; omega) (by have := hsl.len; omega) (by rw [hZ.out]; have := hkids.out; omega))
     obtain ⟨JJ, hJJ⟩ : ∃ J, J = inr (brs sb ++ (X.1, MM.kids.headD 0) :: (brs MM).tail) := ⟨_, rfl⟩
     rw [← hJJ] at KJ
     have q1 : Hid (rbF (i + 1) MM = i ∧ rbT (i + 1) MM = i + 2 ∧ rbJ l n (i + 1) MM = JJ) := by
      unfold rbF rbT rbJ
      rw [if_pos hb, if_pos hb, if_pos hb, hJJ]
      exact ⟨by omega, by omega, join_succ (W.sib i c hc1).1 (W.keys i X hcX) sis⟩
     obtain ⟨⟨y0, y1, y2, y3⟩, yf⟩ := cells4 R2.out.b12
     obtain ⟨⟨n0, n1, n2, n3⟩, nf⟩ := cells4 R2.out.nb
     have hJl : Hid (JJ.leaf = false) := by show _ = _; rw [hJJ]; rfl
     dsimp only [nv] at KJ
     rw [HLF.out] at KJ
     (try rw [show ((0 : Nat) : Int) = 0 from rfl] at KJ)
     replace hJJ := hide hJJ
     replace hb := hide hb
     have m1 : IntKind.i64.wrap (i : Int) = (i : Int) := IntWalk.i64_in _ (by have := hkids.out; omega)
     have m2 : ¬ (i : Int) < 0 := by omega
     have m3 : IntKind.i64.wrap ((i : Int) + 2) = (i : Int) + 2 := IntWalk.i64_in _ (by have := hkids.out; omega)
     clear sR SR hsl NR CM W sis slf sm swf sL hc1 hcX hb2 SS
     go_wp2_with fail
     refine KJ.out.mono ?_
     rintro e w3 ⟨kj, dj, rfl, oJ, bJ⟩
     have Rb := R2.out.to bJ hB
     have RJ := hide (Rb.put hB hgcw hgw oJ.rdk)
     obtain ⟨⟨z0, z1, z2, z3⟩, zf⟩ := cells4 Rb.b12
     obtain ⟨kja, kjc, hkj⟩ := oJ.keys.rd.slice
     obtain ⟨dja, djc, hdj⟩ := oJ.kids.rd.slice
     subst hkj hdj
     dsimp only [nv]
     clear KJ y0 y1 y2 y3 yf n0 n1 n2 n3 nf Rb oJ bJ
     go_wp2_with fail
     go_meet
     refine ⟨.slice kja JJ.keys.length kjc, .slice none 0 0, .slice dja JJ.kids.length djc, by rw [q1.out.1], by rw [q1.out.2.1]; push_cast; rfl, ?_⟩
     rw [q1.out.2.2]
     exact RJ
  case rest =>
   obtain ⟨jk, jv, jd, rfl, rfl, hJ⟩ := hcut
   have HF : Hid ((rbF kx MM < rbT kx MM ∧ rbT kx MM ≤ (brs n).length) ∧ rbF kx MM < (brs n).length) := by
    have h2 := HW.out.two
    have h3 : (brs n).length = (P ++ [X] ++ S).length := by rw [HW.out.brs]
    have h4 := hbrl.out
    show (_ ∧ _) ∧ _
    unfold rbF rbT
    split <;> omega
   have SJ : Hid (ShN d (rbJ l n kx MM)) := by
    show ShN _ _
    unfold rbJ
    split
    ·exact join_shape HW.out hsh.out (by assumption)
    ·exact hsh.out
   obtain ⟨fr, hfr⟩ : ∃ x, rbF kx MM = x := ⟨_, rfl⟩
   obtain ⟨tt, htt⟩ : ∃ x, rbT kx MM = x := ⟨_, rfl⟩
   obtain ⟨JJ, hJJ⟩ : ∃ x, rbJ l n kx MM = x := ⟨_, rfl⟩
   rw [hfr, htt] at HF
   rw [hfr, htt, hJJ] at hreb
   rw [hJJ] at SJ hJ
   rw [hfr, htt]
   replace hfr := hide hfr
   replace htt := hide htt
   replace hJJ := hide hJJ
   obtain ⟨y, hy⟩ : ∃ y, (brs n)[fr]? = some y := ⟨_, List.getElem?_eq_getElem HF.out.2⟩
   have hyD : (brs n).getD fr ([], 0) = y := by rw [List.getD_eq_getElem?_getD, hy]; rfl
   rw [hyD] at hreb
   replace hy := hide hy
   replace hyD := hide hyD
   have hBl : Hid ((brs n).length ≤ 201) := by
    have h1 := hbrl.out
    have h2 := hkids.out
    show _ ≤ _
    omega
   obtain ⟨BL, hBL⟩ : ∃ x, x = (brs n).length := ⟨_, rfl⟩
   rw [← hBL] at HF hBl
   have hnl : Hid (ns'.length ≤ 900) := by
    have h1 := (reb_len l next key ed d nd []).2
    rw [← hAD.out, ← hJ.out.eq, List.length_map] at h1
    show _ ≤ _
    simp at h1
    omega
   have NR := HN.out.krb HNR.out hJ.out.kr HH.out.box
   have KBr := hide (pbrs_any wc n _ _ _ NR.rd (by rw [hZ.out, hKN.out]; exact hkids.out) (by rw [hKN.out]; omega))
   obtain ⟨⟨n0, n1, n2, n3⟩, nf⟩ := cells4 hJ.out.nb
   obtain ⟨jka, jkc, jva, jvc, jda, jdc, hjk, hjv, hjd⟩ := hJ.out.rd.rd.slices
   subst hjk hjv hjd
   dsimp only [nv] at KBr
   rw [HLF.out] at KBr
   replace hBL := hide hBL
   clear NR
   go_wp2_with fail
   refine KBr.out.mono ?_
   rintro e w3 ⟨vb, rfl, oB, b3⟩
   have R3 := hide (hJ.out.to b3 hB)
   obtain ⟨gb, cb, hvb, hgb, y1, y2, yf⟩ := oB.at hy.out
   rw [← hBL.out] at hvb
   subst hvb
   have OB := hide oB
   have hgb3 : gb < w3.heap.size := cell_lt y1
   have hCC : Hid (w.heap.size + 1 < wc.heap.size) := lt_of_block hJ.out.rb
   have hav : Hid (∀ b, av'.ownBlock = some b → b < wc.heap.size) := fun b hb => (World.ownsRow.lt hJ.out.ch.row b hb).2
   have y1' := hide y1
   clear KBr n0 n1 n2 n3 nf oB y1 y2 yf
   have f1 : fr < BL := HF.out.2
   go_upto_region 11 with fail
   have bd : Below w3.heap.size w3 w3.drew := below_drewN' w3 1 _
   have R3' := hide (R3.out.to bd hB)
   have KL := hide (plaid_gen B w3.drew gc g next av' ns' JJ _ _ _ y.1 R3'.out.ch R3'.out.al (Nat.le_trans (Nat.le_trans hB R3.out.kr.size) bd.size) (fun b hb => by have := R3.out.kr.row b hb; omega) hgc hnl.out hnx R3'.out.rd SJ.out.ok)
   have S0 : ((w3.drew.cell? ⟨g12, 0, none⟩ = some (.bool JJ.leaf) ∧ w3.drew.cell? ⟨g12, 1, none⟩ = some (.slice jka JJ.keys.length jkc) ∧ w3.drew.cell? ⟨g12, 2, none⟩ = some (.slice jva JJ.vals.length jvc) ∧ w3.drew.cell? ⟨g12, 3, none⟩ = some (.slice jda JJ.kids.length jdc)) ∧ w3.drew.cell? ⟨gb, fr * 2, none⟩ = some (st y.1)) := ⟨(cells4 R3'.out.b12).1, (bd.cell hgb3).trans y1'.out⟩
   refine wp_region_sched (fun w9 => (w9.cell? ⟨g12, 0, none⟩ = some (.bool JJ.leaf) ∧ w9.cell? ⟨g12, 1, none⟩ = some (.slice jka JJ.keys.length jkc) ∧ w9.cell? ⟨g12, 2, none⟩ = some (.slice jva JJ.vals.length jvc) ∧ w9.cell? ⟨g12, 3, none⟩ = some (.slice jda JJ.kids.length jdc)) ∧ w9.cell? ⟨gb, fr * 2, none⟩ = some (st y.1)) [(0, true), (1, true), (2, true), (3, true), (4, true), (5, true), (6, true), (7, false)] 8 mixed (by kernel_rfl) (fun _ _ _ _ h => h) ?_
   iterate 7
    refine sched_take (v := ?_) rfl (by kernel_rfl) S0 ?_ ?_
    rotate_left
    ·rintro w9 ⟨⟨s1, s2, s3, s4⟩, s5⟩
     go_simp
     try with_reducible rfl
    try simp only [List.getElem_toArray, List.getElem_cons_succ, List.getElem_cons_zero, List.getElem?_toArray, List.getElem?_cons_succ, List.getElem?_cons_zero, Act.put, List.setIfInBounds_toArray, List.set_cons_zero, List.set_cons_succ]
   refine sched_run rfl (by kernel_rfl) fun K hK => ?_
   refine wp_call_of 65 _ _ (by rfl) _ (by simp [Act.eval]) (Tryz.call65 _ _) KL.out ?_
   rintro e w4 ⟨u, av2, more, rfl, nw, c4, al4, e4, k4, ng4⟩
   have hkk : Hid (∀ b, b < w3.heap.size → b ≠ gc → av'.ownBlock ≠ some b → w4.heap[b]? = w3.drew.heap[b]?) := fun b h1 h2 h3 => k4.keep b (Nat.lt_of_lt_of_le h1 bd.size) h2 h3
   have hg12 : g12 < w3.heap.size := lt_of_block R3.out.b12
   have S4' : ((w4.cell? ⟨g12, 0, none⟩ = some (.bool JJ.leaf) ∧ w4.cell? ⟨g12, 1, none⟩ = some (.slice jka JJ.keys.length jkc) ∧ w4.cell? ⟨g12, 2, none⟩ = some (.slice jva JJ.vals.length jvc) ∧ w4.cell? ⟨g12, 3, none⟩ = some (.slice jda JJ.kids.length jdc)) ∧ w4.cell? ⟨gb, fr * 2, none⟩ = some (st y.1)) := by
    have e1 := hkk.out g12 hg12 (by have := R3.out.l12; omega) (fun e => (R3.out.na _ e).1 rfl)
    have e2 := hkk.out gb hgb3 (by have := hCC.out; omega) (fun e => by have := hav.out _ e; omega)
    obtain ⟨⟨q1, q2, q3, q4⟩, q5⟩ := S0
    simp only [World.cell?] at q1 q2 q3 q4 q5 ⊢
    rw [e1, e2]
    exact ⟨⟨q1, q2, q3, q4⟩, q5⟩
   refine ⟨_, rfl, hK _ _ S4' ?_⟩
   clear hK K S4' S0 KL
   try simp only [List.getElem_toArray, List.getElem_cons_succ, List.getElem_cons_zero, List.getElem?_toArray, List.getElem?_cons_succ, List.getElem?_cons_zero, Act.put, List.setIfInBounds_toArray, List.set_cons_zero, List.set_cons_succ]
   have O4 : Hid (OwnBr wc.heap.size w4 (.slice (some ⟨gb, 0, none⟩) BL cb) (brs n)) := row_block (rows_to OB.out bd) fun b hb => by
    cases hb
    exact hkk.out gb hgb3 (by have := hCC.out; omega) (fun e => by have := hav.out _ e; omega)
   have hMp : ns'.map (·.1) = AD := R3.out.eq
   rw [hMp] at nw e4
   obtain ⟨NW, hNW⟩ : ∃ x, (laidOf next AD JJ y.1).1 = x := ⟨_, rfl⟩
   have hN2 : Hid (NW.length ≤ 2) := by
    have := (laid_shape SJ.out next AD y.1).1
    rw [hNW] at this
    exact this
   rw [hNW] at nw hreb
   have KP := hide (prepl_any wc.heap.size w4 (.slice (some ⟨gb, 0, none⟩) BL cb) u (brs n) NW fr tt O4.out (by have h1 := k4.size; have h2 := bd.size; have h3 := hgb; omega) (by
    rcases nw with nw | ⟨gn, q1, q2, q3, q4⟩
    ·exact .inl nw
    ·refine .inr ⟨gn, q1, q2, q3, fun b hb => ?_⟩
     have hb' : gb = b := Option.some.inj hb
     have := bd.size
     omega) hN2.out HF.out.1.1 (by rw [← hBL.out]; exact HF.out.1.2) (by have := hBl.out; rw [← hBL.out]; omega))
   have FI := hide (fun (w5 w6 : World) (kI dI : Value) (M' : Nd) (gr : w4.grownBy w5 (some gb)) (b6 : Below w5.heap.size w5 w6) (oI : OwnN w5.heap.size w6 kI (.slice none 0 0) dI M') (hM : M'.leaf = false) => R3'.out.fin hB hgcw hgw hCC.out hav.out hgb (Nat.lt_of_lt_of_le hgb3 bd.size) k4 c4 al4 e4 O4.out gr b6 oI hM)
   have hrl : Hid ((rplc (brs n) fr tt NW).length ≤ 1000) := by
    have h1 : (rplc (brs n) fr tt NW).length ≤ (brs n).length + NW.length + (brs n).length := by
     unfold rplc
     simp only [List.length_append, List.length_take, List.length_drop]
     omega
    have h2 := hN2.out
    have h3 := hBl.out
    have h4 := hBL.out
    show _ ≤ _
    omega
   replace hNW := hide hNW
   replace hMp := hide hMp
   clear nw e4 k4 c4 al4 ng4 hkk
   show wpList _ _ _ _ _ _
   dsimp only [List.drop]
   go_wp2_with fail
   refine KP.out.mono ?_
   rintro e w5 ⟨v5, rfl, o5, gr⟩
   have KI := hide (pinr_any _ w5 v5 _ o5 hrl.out)
   obtain ⟨va5, vc5, hv5⟩ := o5.slice
   obtain ⟨LL, hLL⟩ : ∃ x, x = (rplc (brs n) fr tt NW).length := ⟨_, rfl⟩
   rw [← hLL] at hv5
   subst hv5
   have GR := hide gr
   replace hLL := hide hLL
   clear o5 gr KP
   go_wp2_with fail
   refine KI.out.mono ?_
   rintro e w6 ⟨kI, dI, rfl, oI, b6⟩
   have FF := hide (FI.out w5 w6 kI dI _ GR.out b6 oI rfl)
   obtain ⟨kia, kic, hki⟩ := oI.keys.rd.slice
   obtain ⟨dia, dic, hdi⟩ := oI.kids.rd.slice
   subst hki hdi
   obtain ⟨⟨z0, z1, z2, z3⟩, zf⟩ := cells4 FF.out.1
   clear KI oI b6
   obtain ⟨MI, hMI⟩ : ∃ M, M = inr (rplc (brs n) fr tt NW) := ⟨_, rfl⟩
   have hMl : MI.leaf = false := by rw [hMI]; rfl
   rw [← hMI] at FF hreb ⊢
   dsimp only [nv]
   rw [hMl]
   replace hMI := hide hMI
   replace hMl := hide hMl
   go_wp2
   refine retN rfl rfl (w.heap.size + 1) rfl _ _ (0, 0) (heap_set4 FF.out.1 _ _ _ _) _ Tryz.underlying76 rfl info_nd10 ?_
   obtain ⟨a1, a2, a3, a4, a5, h0, h1, h2, h3, h4, h5⟩ := FF.out.2
   unfold RbR
   rw [hreb.out]
   refine ⟨a1, a2, a3, a4, a5, ?_, h1, h2, h3, h4, h5⟩
   rw [← h0]
   dsimp only [nv]
   rw [hMl.out]
end Go.Proofs.YtgmkknonnidgaaaGreat

namespace Go.Proofs.YtgmkknonnidgaaaGreat
open Go.RowKit
def EdCl (B : Nat) (w : World) (F : Nat) (caps : Array Value) (key : Str) (ed : Nd → Nd) (good : List Pr → Prop) : Prop :=
 ∀ (u : World) (ps : List Pr) (kv vv dv : Value), Below w.heap.size w u → OwnN B u kv vv dv (lf ps) → Dj kv vv dv → PrOk ps → nsize (lf ps) ≤ 244 → good ps →
  Calls Tryz.prog F (#[nv (lf ps) kv vv dv, .int .i64 (nfind (lf ps) key), .bool (nhas (lf ps) key)] ++ caps) u fun e u' => ∃ kv' vv' dv', e = .returned (nv (ed (lf ps)) kv' vv' dv') ∧ OwnN B u' kv' vv' dv' (ed (lf ps)) ∧ KEd B kv vv u u'
theorem EdCl.to {B : Nat} {w w' : World} {F : Nat} {caps : Array Value} {key : Str} {ed : Nd → Nd} {good : List Pr → Prop} (h : EdCl B w F caps key ed good) (b : Below w.heap.size w w') : EdCl B w' F caps key ed good :=
 fun u ps kv vv dv bu => h u ps kv vv dv (b.trans (bu.mono b.size))
theorem ids_nd {l : List Wrt} {id : Int} {nd : Nd} (h : NdIs l id nd) : ∀ d, idsOf l d id = id :: nI l d nd
 | 0 => rfl
 | d + 1 => by
  show id :: (nodeAt l id).kids.flatMap (idsOf l d) = _
  rw [h.at]; rfl
theorem CW.node {w : World} {B g bm k : Nat} {l : List Wrt} {m : Int → Option Value} (h : CW w B g bm k l m) {i : Int} (hi : (m i).isSome = true) {nd : Nd} (hn : NdIs l i nd) : ∃ kv vv dv, m i = some (nv nd kv vv dv) ∧ OwnN B w kv vv dv nd ∧ Dj kv vv dv := by
 obtain ⟨v, hv⟩ := Option.isSome_iff_exists.1 hi
 obtain ⟨x, nd', kv, vv, dv, h1, h2, rfl, h4, h5⟩ := h.nds i v hv
 have e : nd' = nd := (show NdIs l i nd' from ⟨x, h1, h2⟩).at.symm.trans hn.at
 subst e
 exact ⟨kv, vv, dv, hv, h4, h5⟩
theorem LfB.of {m : Int → Option Value} {i : Int} {nd : Nd} {kv vv dv : Value} (h : m i = some (nv nd kv vv dv)) (hl : nd.leaf = true) : ∀ b, kv.ownBlock = some b ∨ vv.ownBlock = some b → LfB m b := fun b hb => ⟨i, nd, kv, vv, dv, h, hl, hb⟩
theorem wf_small {i : Int} (h : 1 ≤ i ∧ i ≤ 65536) : (Lit.int .i64 i).wf = true := WalkArith.wf_i64 (by omega)
theorem keys_few {n : Nd} (h : NOk n) (hl : n.leaf = false) : n.keys.length ≤ 200 :=
 (show ShN 1 n from by
  obtain ⟨q1, q2, q3⟩ := inr_to h hl
  exact ⟨brs n, q1, by unfold brs; simp, q2.1, by have := h.2.2.2.2; omega⟩).ok.len
theorem preb_any {B gc g bm k : Nat} {next : Int} {l : List Wrt} {m : Int → Option Value} {key : Str} {Fn : Nat} {caps : Array Value} {ed : Nd → Nd} {upd : List Pr → List Pr} {good : List Pr → Prop} (hE : EdOk key upd ed) (hgc : gc ≠ g) (hnx : 0 ≤ next ∧ next ≤ 65536)
  (hG : ∀ A X C, (∀ y ∈ A, slt y.1 key = true) → (∀ y ∈ C, slt key y.1 = true) → good (A ++ X ++ C) → good X) (he : ∀ args u, (callFunc Fn args).run Tryz.prog u = .ok (.enter Fn args) u) :
  ∀ (d : Nat) (n : Nd) (lo : Str) (hi : Option Str) (w : World) (kv vv dv : Value), d ≤ 20 → CW w B g bm k l m → ChI B w gc g next (.slice none 0 0) [] → B ≤ w.heap.size → OwnN B w kv vv dv n → Dj kv vv dv → (n.leaf = true → ∀ b, kv.ownBlock = some b ∨ vv.ownBlock = some b → LfB m b) → (n.leaf = false → ∀ b, RowOf (nv n kv vv dv) b → ¬ LfB m b) →
   NO l d n lo hi → nsize n ≤ 244 → (d ≠ 0 → n.keys ≠ []) → (∀ i ∈ nI l d n, (m i).isSome = true ∧ 1 ≤ i ∧ i ≤ 65536) → good (nP l d n) → EdCl B w Fn caps key ed good →
   Calls Tryz.prog 48 #[.pointer (some ⟨gc, 0, none⟩), nv n kv vv dv, st key, .func (.func Fn) #[] caps] w fun e w' => RbR B gc g next l m d key ed n w w' e
 | 0, n, lo, hi, w, kv, vv, dv, hd, hC, hh, hB, hO, hD, hL, hI, hN, hsz, hk0, hid, hgo, hcl => by
  obtain ⟨ps, rfl, hp, hin⟩ := hN
  have hgo' : good ps := by
   have : nP l 0 (lf ps) = ps := npr_lf ps
   rw [this] at hgo
   exact hgo
  refine (preb_leaf B w gc (lf ps) kv vv dv key Fn caps hB hO.rd (lf_ok hp hsz).fit rfl (ed (lf ps)) (fun u bu => hcl u ps kv vv dv bu (hO.to bu) hD hp hsz hgo') (fun b hb => by
   rcases hb with hb | hb
   ·exact (World.ownsRow.lt hO.keys b hb).2
   ·exact (World.ownsRow.lt hO.vals b hb).2) he).mono ?_
  rintro e w' ⟨kv', vv', dv', rfl, o', k'⟩
  have hne : ∀ (b : Nat) (cs : Array Value) (T : TypeId) (fr : Nat × Nat), w.heap[b]? = some (.cells cs T fr) → T ≠ 9 → w'.heap[b]? = w.heap[b]? := fun b cs T fr hb hT => by
   refine k'.keep b (lt_of_block hb) (fun e => ?_) (fun e => ?_)
   ·obtain ⟨cur, fr', q⟩ := hO.rdk.tk b e
    rw [hb] at q
    simp only [Option.some.injEq, Obj.cells.injEq] at q
    exact hT q.2.1
   ·obtain ⟨cur, fr', q⟩ := hO.rdk.tv b e
    rw [hb] at q
    simp only [Option.some.injEq, Obj.cells.injEq] at q
    exact hT q.2.1
  refine ⟨kv', vv', dv', .slice none 0 0, [], rfl, o'.rdk, ⟨(hne _ _ _ _ hh.box (by decide)).trans hh.box, World.ownsRow_nil _ _ _ _, ?_, hh.hC⟩, fun y hy => (by cases hy), rfl, ⟨fun b h1 h2 h3 => k'.keep b h1 (fun e => h3 (hL rfl b (.inl e))) (fun e => h3 (hL rfl b (.inr e))), fun b hb => (by cases hb), k'.bel, k'.size⟩⟩
  exact (k'.bel.cell hC.hg).trans hh.nxt
 | d + 1, n, lo, hi, w, kv, vv, dv, hd, hC, hh, hB, hO, hD, hL, hI, hN, hsz, hk0, hid, hgo, hcl => by
  obtain ⟨kx, P, X, S, nd, lo', hi', W⟩ := way_of hN hsz (hk0 (by omega)) key
  have hnl : n.leaf = false := by rw [hN.leaf]; simp
  have hok : NOk n := hN.ok (hk0 (by omega)) hsz
  have hsm := W.isn.small W.no
  have hX : X.2 ∈ nI l (d + 1) n := W.ids X.2 (by rw [ids_nd W.isn]; exact List.mem_cons_self ..)
  have hXs := hid X.2 hX
  obtain ⟨kk, kvv, kd, hm, oX, dX⟩ := hC.node hXs.1 W.isn
  have hshp := reb_shape (l := l) (next := next) hE d nd lo' hi' [] W.no hsm.1 hsm.2
  have hgd : good (nP l d nd) := by
   rw [W.prs] at hgo
   exact hG _ _ _ W.lt W.gt hgo
  refine preb_step B gc g bm k next l m d n kv vv dv key Fn caps ed w kx P X S nd lo' hi' kk kvv kd hC hh hB hgc hnx (by omega) hO.rdk (hI hnl) hok hnl (keys_few hok hnl) W hm (wf_small hXs.2) ?_ ?_ hshp
  ·intro i b hb hbi
   obtain ⟨e0, b0, hd0, _⟩ := sh_bare hshp hb
   obtain ⟨hkid, sb, lo2, hi2, sis, sno⟩ := W.sib i b hbi
   have hsl : sb.leaf = false := by rw [sno.leaf, hd0]; simp
   have hbm : b.2 ∈ nI l (d + 1) n := by
    rw [(no_brs hN).2.2.2.2, W.brs]
    exact List.mem_flatMap.2 ⟨b, List.mem_of_getElem? hbi, by rw [ids_nd sis]; exact List.mem_cons_self ..⟩
   have hbs := hid b.2 hbm
   obtain ⟨sk, sv, sd, sm, so, sdj⟩ := hC.node hbs.1 sis
   exact ⟨sb, sk, sv, sd, sis, hsl, sm, wf_small hbs.2, so.rdk, fun q hq => hC.inner sm hsl hq⟩
  ·intro u bu
   refine preb_any hE hgc hnx hG he d nd lo' hi' u kk kvv kd (by omega) (hC.to bu) (hh.to bu) (Nat.le_trans hB bu.size) (oX.to bu) dX (fun hl => LfB.of hm hl) (fun hl b hb => hC.inner hm hl hb) W.no hsm.1 hsm.2 (fun i hi9 => hid i (W.ids i (by rw [ids_nd W.isn]; exact List.mem_cons_of_mem _ hi9))) hgd (hcl.to bu)
end Go.Proofs.YtgmkknonnidgaaaGreat

namespace Go.Proofs.YtgmkknonnidgaaaGreat
open Go.RowKit
def RoR (B gc g : Nat) (next : Int) (av : Value) (ns : List NV) (top : Nd) (w w' : World) (e : Ending) : Prop := ∃ av' more, e = .returned (.int .i64 (rootOf next (ns.map (·.1)) top).1) ∧ ChI B w' gc g next av' (ns ++ more) ∧ AllK w' (ns ++ more) ∧ (ns ++ more).map (·.1) = (rootOf next (ns.map (·.1)) top).2 ∧ KCh B gc av av' w w'
theorem now_own {C : Nat} {w : World} {u : Value} {now : List Br} (h : NowV C w u now) (hl : now.length ≤ 1000) : OwnBr C w u now := by
 rcases h with ⟨rfl, rfl⟩ | ⟨gn, rfl, h1, h2, h3⟩
 ·exact World.ownsRow_nil _ _ _ _
 ·exact ⟨bcl_len now, .inr ⟨gn, now.length, (bcl now).toArray, rfl, h3, h2, Nat.le_refl _, by unfold maxLen; omega, by simp [bcl_len], by simp [← bcl_len now]⟩⟩
theorem root_bare {next : Int} {ad : List Nd} {top : Nd} (h : bareB top = true) : rootOf next ad top = (top.kids.headD 0, ad) := by unfold rootOf; rw [if_pos h]
theorem root_nil {next : Int} {ad : List Nd} {top : Nd} (h : bareB top = false) (h1 : (laidOf next ad top []).1 = []) : rootOf next ad top = (0, (laidOf next ad top []).2) := by unfold rootOf; rw [if_neg (by rw [h]; simp), h1]
theorem root_one {next : Int} {ad : List Nd} {top : Nd} {b : Br} (h : bareB top = false) (h1 : (laidOf next ad top []).1 = [b]) : rootOf next ad top = (b.2, (laidOf next ad top []).2) := by unfold rootOf; rw [if_neg (by rw [h]; simp), h1]
theorem root_two {next : Int} {ad : List Nd} {top : Nd} {b c : Br} (h : bareB top = false) (h1 : (laidOf next ad top []).1 = [b, c]) : rootOf next ad top = (next + ((laidOf next ad top []).2.length : Int), (laidOf next ad top []).2 ++ [inr [b, c]]) := by unfold rootOf; rw [if_neg (by rw [h]; simp), h1]
theorem ret_i8 {a b : Int} (h : a = b) : Ending.returned (.int .i64 a) = Ending.returned (.int .i64 b) := by rw [h]
set_option maxRecDepth 100000 in
set_option maxHeartbeats 8000000 in
theorem proot_gen (B : Nat) (w : World) (gc g : Nat) (next : Int) (av : Value) (ns : List NV) (top : Nd) (kv vv dv : Value) (d : Nat) (h : ChI B w gc g next av ns) (hA : AllK w ns) (hB : B ≤ w.heap.size) (hg : ∀ b, av.ownBlock = some b → b ≠ g) (hgc : gc ≠ g) (hns : ns.length ≤ 800) (hnx : 0 ≤ next ∧ next ≤ 65536) (hr : RdK w kv vv dv top) (hs : ShN d top) :
  Calls Tryz.prog 47 #[.pointer (some ⟨gc, 0, none⟩), nv top kv vv dv] w fun e w' => RoR B gc g next av ns top w w' e := by
 obtain ⟨ka, kc, va, vc, da, dc, rfl, rfl, rfl⟩ := hr.rd.slices
 obtain ⟨W, hW, DW, bW, sW⟩ := boxedN w #[.bool top.leaf, .slice ka top.keys.length kc, .slice va top.vals.length vc, .slice da top.kids.length dc] 76
 obtain ⟨⟨E0, E1, E2, E3⟩, EF⟩ := cells4 DW
 have KB := hide (pbare_any W top _ (.slice va top.vals.length vc) (.slice da top.kids.length dc) (hr.rd.to bW).keys ⟨rfl, rfl⟩)
 have HW := hide (h.to bW)
 have HA := hide (hA.to bW)
 have HK := hide (KCh.of (gc := gc) (av := av) bW hB)
 have HD := hide DW
 have HR := hide (hr.to bW)
 have hBW : Hid (B ≤ W.heap.size) := Nat.le_trans hB bW.size
 replace hg := hide hg
 replace hgc := hide hgc
 replace hs := hide hs
 dsimp only [nv] at KB ⊢
 rw [hW] at E0 E1 E2 E3 EF KB
 clear DW bW h hr hB hA
 go_enter Tryz.func47, Tryz.ntmps47
 go_wp2_with fail
 refine KB.out.mono ?_
 rintro e w1 ⟨rfl, b1⟩
 rw [← hW] at b1
 clear E0 E1 E2 E3 EF KB
 replace hW := hide hW
 have H1 := hide (HW.out.to b1)
 have A1 := hide (HA.out.to b1)
 have R1 := hide (HR.out.to b1)
 have K1 := hide (HK.out.trans (KCh.of (gc := gc) (av := av) b1 hBW.out))
 have D1 := (b1.block _ (lt_of_block HD.out)).trans HD.out
 have hB1 : Hid (B ≤ w1.heap.size) := Nat.le_trans hBW.out b1.size
 have hbb : Hid ((!top.leaf && decide (top.keys.length = 0)) = bareB top) := rfl
 rw [hbb.out]
 cases hb : bareB top with
 | true =>
  obtain ⟨e0, b0, hx3, hx1, hx4, hx2, hx5⟩ := sh_bare hs.out hb
  clear hx3 hx4 hx5
  have hk0 : top.kids[0]? = some b0 := by
   cases hkk : top.kids with
   | nil => rw [hkk] at hx2; simp at hx2
   | cons a r => rw [hkk] at hx1; simp at hx1; simp [hx1]
  obtain ⟨db, dO, e4, hcd⟩ := (show RdI w1 (.slice da top.kids.length dc) top.kids from R1.out.rd.kids).intAt hk0
  subst e4
  rw [Nat.add_zero] at hcd
  have hkl : 0 < top.kids.length := by omega
  have hro : Hid (rootOf next (ns.map (·.1)) top = (b0, ns.map (·.1))) := by
   show _ = _
   rw [root_bare hb, hx1]
  obtain ⟨⟨E0, E1, E2, E3⟩, EF⟩ := cells4 D1
  generalize top.kids.length = KL at *
  replace hb := hide hb
  replace hk0 := hide hk0
  replace hx1 := hide hx1
  replace hx2 := hide hx2
  clear D1 b1
  go_wp2
  go_ret
  exact ⟨av, [], ret_i8 (congrArg Prod.fst hro.out).symm, by rw [List.append_nil]; exact H1.out, by rw [List.append_nil]; exact A1.out, by rw [List.append_nil, hro.out], K1.out⟩
 | false =>
  have KL := hide (plaid_gen B w1 gc g next av ns top _ _ _ [] H1.out A1.out hB1.out hg.out hgc.out (by omega) hnx R1.out hs.out.ok)
  have hsl := hide (laid_shape hs.out next (ns.map (·.1)) [])
  obtain ⟨⟨E0, E1, E2, E3⟩, EF⟩ := cells4 D1
  dsimp only [nv] at KL
  replace hb := hide hb
  clear D1 b1
  go_wp2_with fail
  refine KL.out.mono ?_
  rintro e w2 ⟨u, av2, more, rfl, nw, c2, al2, e2, k2, ng2⟩
  have C2 := hide (And.intro c2 (And.intro al2 (And.intro e2 (And.intro (K1.out.trans k2) ng2))))
  have hB2 : Hid (B ≤ w2.heap.size) := Nat.le_trans hB1.out k2.size
  obtain ⟨NW, hNW⟩ : ∃ x, (laidOf next (ns.map (·.1)) top []).1 = x := ⟨_, rfl⟩
  rw [hNW] at nw
  have hN2 : NW.length ≤ 2 := by rw [← hNW]; exact hsl.out.1
  clear c2 al2 e2 k2 ng2 KL E0 E1 E2 E3 EF
  rcases NW with _ | ⟨b, _ | ⟨c, r⟩⟩
  ·obtain rfl : u = .slice none 0 0 := by
    rcases nw with ⟨rfl, _⟩ | ⟨gn, _, q, _⟩
    ·rfl
    ·simp at q
   have hro := hide (root_nil hb.out hNW)
   replace hNW := hide hNW
   clear nw hN2
   go_wp2
   go_ret
   obtain ⟨c2, al2, e2, k2, ng2⟩ := C2.out
   exact ⟨av2, more, ret_i8 (congrArg Prod.fst hro.out).symm, c2, al2, by rw [e2, hro.out], k2⟩
  ·obtain ⟨gn, hu, hgn⟩ : ∃ gn, u = .slice (some ⟨gn, 0, none⟩) 1 1 ∧ w2.heap[gn]? = some (.cells #[st b.1, .int .i64 b.2] 133 (0, 0)) := by
    rcases nw with ⟨_, q⟩ | ⟨gn, q1, q2, q3, q4⟩
    ·simp at q
    ·exact ⟨gn, q1, q3⟩
   subst hu
   have q1 := cellN hgn (i := 1) rfl
   have hro := hide (root_one hb.out hNW)
   replace hNW := hide hNW
   clear nw hN2 hgn
   go_wp2
   go_ret
   obtain ⟨c2, al2, e2, k2, ng2⟩ := C2.out
   exact ⟨av2, more, ret_i8 (congrArg Prod.fst hro.out).symm, c2, al2, by rw [e2, hro.out], k2⟩
  ·obtain rfl : r = [] := by
    cases r with
    | nil => rfl
    | cons a r => simp at hN2
   obtain ⟨gn, hu⟩ : ∃ gn, u = .slice (some ⟨gn, 0, none⟩) 2 2 := by
    rcases nw with ⟨_, q⟩ | ⟨gn, q1, q2, q3, q4⟩
    ·simp at q
    ·exact ⟨gn, q1⟩
   have KI := hide (pinr_any _ w2 u [b, c] (now_own nw (by simp)) (by simp))
   subst hu
   have hro := hide (root_two hb.out hNW)
   replace hNW := hide hNW
   clear nw hN2
   go_wp2_with fail
   refine KI.out.mono ?_
   rintro e w3 ⟨kI, dI, rfl, oI, b3⟩
   obtain ⟨c2, al2, e2, k2, ng2⟩ := C2.out
   have hlen : (ns ++ more).length ≤ 1000 := by
    have h1 := (laid_len next (ns.map (·.1)) top []).2
    rw [← e2, List.length_map, List.length_map] at h1
    omega
   have KA := hide (padd_any B w3 gc g next av2 (ns ++ more) (inr [b, c]) kI (.slice none 0 0) dI (c2.to b3) (Nat.le_trans hB2.out b3.size) ng2 hgc.out hlen hnx ⟨(by obtain ⟨a, c, e⟩ := oI.keys.rd.slice; rw [e]; rfl), rfl, (by obtain ⟨a, c, e⟩ := oI.kids.rd.slice; rw [e]; rfl)⟩)
   have A3 := hide (al2.to b3)
   have I3 := hide oI.rdk
   have K3 := hide (k2.trans (KCh.of (gc := gc) (av := av2) b3 hB2.out))
   have C3 := hide (c2.to b3)
   obtain ⟨kia, kic, hki⟩ := oI.keys.rd.slice
   obtain ⟨dia, dic, hdi⟩ := oI.kids.rd.slice
   subst hki hdi
   obtain ⟨MI, hMI⟩ : ∃ M, M = inr [b, c] := ⟨_, rfl⟩
   have hMl : MI.leaf = false := by rw [hMI]; rfl
   rw [← hMI] at KA I3 hro ⊢
   dsimp only [nv] at KA ⊢
   rw [hMl] at KA ⊢
   have hlen2 : Hid ((laidOf next (ns.map (·.1)) top []).2.length = (ns ++ more).length) := by
    show _ = _
    rw [← e2, List.length_map]
   obtain ⟨LL, hLL⟩ : ∃ x, x = (ns ++ more).length := ⟨_, rfl⟩
   rw [← hLL] at KA hlen2
   replace hMI := hide hMI
   replace hMl := hide hMl
   replace hLL := hide hLL
   clear c2 al2 e2 k2 ng2 oI b3 KI
   go_wp2_with fail
   refine KA.out.mono ?_
   rintro e w4 ⟨av4, rfl, c4, k4⟩
   have kt : ∀ e, e ≠ 108 → e ≠ 76 → KeepT e w3 w4 := fun e h1 h2 => k4.keepT C3.out h1 h2
   have A4 := hide ((A3.out.keepT (kt _ (by decide) (by decide)) (kt _ (by decide) (by decide))).snoc (y := (MI, .slice kia MI.keys.length kic, .slice none 0 0, .slice dia MI.kids.length dic)) (I3.out.keepT (kt _ (by decide) (by decide)) (kt _ (by decide) (by decide))))
   have C4 := hide (And.intro c4 (K3.out.trans k4))
   clear c4 k4 kt KA
   obtain ⟨z, hz⟩ : ∃ z : Int, z = next + (LL : Int) := ⟨_, rfl⟩
   rw [← hz]
   replace hz := hide hz
   go_wp2
   go_ret
   refine ⟨av4, more ++ [(MI, .slice kia MI.keys.length kic, .slice none 0 0, .slice dia MI.kids.length dic)], ?_, by rw [← List.append_assoc]; exact C4.out.1, by rw [← List.append_assoc]; exact A4.out, ?_, C4.out.2⟩
   ·refine ret_i8 ?_
    rw [hro.out, hlen2.out, hz.out]
   ·obtain ⟨c2, al2, e2, k2, ng2⟩ := C2.out
    rw [hro.out, ← List.append_assoc, List.map_append, e2]
    rfl
end Go.Proofs.YtgmkknonnidgaaaGreat

namespace Go.Proofs.YtgmkknonnidgaaaGreat
open Go.RowKit
def TopV (root : Int) (m : Int → Option Value) (nd : Nd) (kv vv dv : Value) : Prop := (kv.ownBlock = none ∧ vv.ownBlock = none ∧ dv.ownBlock = none) ∨ m root = some (nv nd kv vv dv)
set_option maxRecDepth 100000 in
set_option maxHeartbeats 2000000 in
theorem ptop_at (w0 w : World) (B g bm : Nat) (t : Tr) (pv : Value) (s : Sw) (m : Int → Option Value) (H : PWk w0 w B g bm t pv s m) (hroot : (Lit.int .i64 t.root).wf = true) (ht : twalk t = some s) :
  Calls Tryz.prog 26 #[.pointer (some ⟨g, 0, none⟩)] w fun e w' => ∃ nd kv vv dv, e = .returned (nv nd kv vv dv) ∧ TopIs t nd ∧ OwnN B w' kv vv dv nd ∧ Below w.heap.size w w' ∧ Dj kv vv dv ∧ TopV t.root m nd kv vv dv := by
 obtain ⟨root, next, ps⟩ := t
 obtain ⟨W, hW, DW, bW, sW⟩ := boxedN w #[.bool false, .slice none 0 0, .slice none 0 0, .slice none 0 0] 76
 have HW := H.to bW
 obtain ⟨⟨C0, C1, C2, C3⟩, ⟨C4, C5⟩, CF⟩ := HW.cell
 obtain ⟨⟨E0, E1, E2, E3⟩, EF⟩ := cells4 DW
 dsimp only at C0 C1 C2 C3 C4 C5 hroot
 have HB := hide bW
 have HD := hide DW
 have HC := hide (And.intro HW.cell (cells4 DW))
 rw [hW] at C0 C1 C2 C3 C4 C5 CF E0 E1 E2 E3 EF
 by_cases r0 : root = 0
 ·have q : (root == 0) = true := by simp [r0]
  have hT : Hid (TopIs ⟨root, next, ps⟩ nd0) := .inl ⟨r0, rfl⟩
  replace r0 := hide r0
  clear DW bW
  go_enter Tryz.func26, Tryz.ntmps26
  go_wp2
  refine retN rfl rfl w.heap.size rfl _ _ _ (heap_alloc_last w _) _ Tryz.underlying76 rfl info_nd10 ?_
  exact ⟨nd0, _, _, _, rfl, hT.out, OwnN.nil _ _ _, (Below.refl _ _).alloc (Nat.le_refl _) _, Dj.nil, .inl ⟨rfl, rfl, rfl⟩⟩
 ·have q : (root == 0) = false := by simp [r0]
  obtain ⟨h1, _⟩ := root_seen ht r0
  obtain ⟨v, hv, x, nd, kv, vv, dv, n1, n2, rfl, n4, n5⟩ := HW.node h1.1
  replace n5 := hide n5
  have hTV : Hid (TopV root m nd kv vv dv) := .inr hv
  have bD : Below W.heap.size W W.drew := below_drewN' W 1 _
  have HD2 := HW.to bD
  have hlk1 := HW.map.look Tryz.underlying86 (zeroNd W) hroot false
  have hlk2 := HD2.map.look Tryz.underlying86 (zeroNd W.drew) hroot false
  rw [hv] at hlk1 hlk2
  simp only [Option.getD_some, Bool.false_eq_true, if_false] at hlk1 hlk2
  have hT : Hid (TopIs ⟨root, next, ps⟩ nd) := .inr ⟨r0, x, n1, n2⟩
  obtain ⟨ka, kc, va, vc, da, dc, rfl, rfl, rfl⟩ := n4.rd.slices
  dsimp only [nv] at hlk1 hlk2
  have HN4 := hide n4
  replace r0 := hide r0
  have HD0 := hide DW
  clear HD DW bW
  go_enter Tryz.func26, Tryz.ntmps26
  go_upto_region 3 with fail
  rw [← hW]
  clear C0 C1 C2 C3 C4 C5 CF E0 E1 E2 E3 EF
  obtain ⟨⟨⟨C0, C1, C2, C3⟩, ⟨C4, C5⟩, CF⟩, ⟨E0, E1, E2, E3⟩, EF⟩ := HC.out
  dsimp only at C0 C1 C2 C3 C4 C5
  replace hW := hide hW
  go_region
  go_wp2
  refine retN rfl rfl w.heap.size rfl _ _ (0, 0) (drewHeap (heap_set4 HD0.out _ _ _ _)) _ Tryz.underlying76 rfl info_nd10 ?_
  refine ⟨nd, _, _, _, rfl, hT.out, ?_, ?_, n5.out, hTV.out⟩
  ·have k := fun e he => s4_keep (w := W) HD0.out (.bool nd.leaf) (.slice ka nd.keys.length kc) (.slice va nd.vals.length vc) (.slice da nd.kids.length dc) (e := e) he
   exact OwnN.to (HN4.out.keepT (k _ (by decide)) (k _ (by decide)) : OwnN B (S4 w.heap.size W _ _ _ _) _ _ _ nd) (below_drewN' _ 1 _)
  ·exact (below_set4n HB.out (Nat.le_refl _) _ _ _ _).trans (below_drewN' _ 1 _)
theorem TopIs.of {t : Tr} {nd : Nd} (h : TopIs t nd) : topOf t = nd := by
 unfold topOf
 rcases h with ⟨h0, rfl⟩ | ⟨h0, x, h1, h2⟩
 ·rw [if_pos h0]; rfl
 ·rw [if_neg h0]; exact (show NdIs t.pages t.root nd from ⟨x, h1, h2⟩).at
theorem ttop_seen {t : Tr} {s : Sw} (h : twalk t = some s) : ∃ d, TTop t d s.prs ∧ ∀ i ∈ nI t.pages d (topOf t), i ∈ s.seen := by
 unfold twalk at h
 split at h
 ·rename_i h0
  have : s = ⟨[], none, []⟩ := (Option.some.inj h).symm
  subst this
  exact ⟨0, .inl ⟨h0, rfl, rfl⟩, fun i hi => by cases hi⟩
 ·rename_i h0
  obtain ⟨e, d, h1, h2, h3, h4, h5, h6, h7, h8⟩ := wk_tok 16 t.root [] none _ s h
  refine ⟨d, .inr ⟨h0, by omega, h4, h6, by simpa using h8⟩, fun i hi => ?_⟩
  obtain ⟨nd, hN, q1, q2, q3⟩ := tok_no h4
  have ht : topOf t = nd := by unfold topOf; rw [if_neg h0]; exact hN.at
  rw [ht] at hi
  rw [h5, q2]
  simp [hi]
theorem PWk.cw {w0 w : World} {B g bm : Nat} {t : Tr} {pv : Value} {s : Sw} {m : Int → Option Value} (h : PWk w0 w B g bm t pv s m) : CW w B g bm s.seen.length t.pages m := ⟨h.cell.1.2.2.2, h.map, h.nds, h.apt, h.hg.2, h.hm.2⟩
theorem put_cl {B : Nat} {w : World} {key val : Str} {gk gl : Nat} (hk : w.heap[gk]? = some (.cells #[st key] 9 (0, 0))) (hgk : gk < B) (hv : w.heap[gl]? = some (.cells #[st val] 9 (0, 0))) (hgl : gl < B) (hB : B ≤ w.heap.size) :
  EdCl B w 35 #[.pointer (some ⟨gl, 0, none⟩), .pointer (some ⟨gk, 0, none⟩)] key (edPut key val) (fun _ => True) := by
 intro u ps kv vv dv bu o dj hp hs _
 have hk' := (bu.block _ (lt_of_block hk)).trans hk
 have hv' := (bu.block _ (lt_of_block hv)).trans hv
 have hlen : (lf ps).keys.length ≤ 1000 := by have := (lf_ok hp hs).few; omega
 have hlv : (lf ps).vals.length = (lf ps).keys.length := by simp [lf]
 obtain ⟨A, C, f1, f2, hA, hC, hc⟩ := leaf_at hp hs key
 rcases hc with ⟨h1, v, h2⟩ | ⟨h1, h2⟩
 ·have hi : A.length < (lf ps).keys.length := by rw [h2]; simp [lf]
  have e : edPut key val (lf ps) = ⟨(lf ps).leaf, (lf ps).keys, (lf ps).vals.set A.length val, (lf ps).kids⟩ := by unfold edPut; rw [if_pos h1, f1]
  rw [e, f2, h1]
  refine Calls.mono (pputcl_set B u (lf ps) kv vv dv key val A.length gk gl o dj (Nat.le_trans hB bu.size) hlen hlv hi hv' hgl) ?_
  rintro e9 u' ⟨kv', vv', r1, r2, r3⟩
  exact ⟨kv', vv', dv, r1, r2, r3⟩
 ·have hi : A.length ≤ (lf ps).keys.length := by rw [h2]; simp [lf]
  have e : edPut key val (lf ps) = ⟨(lf ps).leaf, (lf ps).keys.take A.length ++ key :: (lf ps).keys.drop A.length, (lf ps).vals.take A.length ++ val :: (lf ps).vals.drop A.length, (lf ps).kids⟩ := by unfold edPut; rw [if_neg (by rw [h1]; simp), f1]
  rw [e, f2, h1]
  refine Calls.mono (pputcl_ins B u (lf ps) kv vv dv key val A.length gk gl o dj (Nat.le_trans hB bu.size) hlen hlv hi hk' hgk hv' hgl) ?_
  rintro e9 u' ⟨kv', vv', r1, r2, r3⟩
  exact ⟨kv', vv', dv, r1, r2, r3⟩
def KIn (key : Str) (ps : List Pr) : Prop := ∃ v, (key, v) ∈ ps
theorem kin_mid {key : Str} (A X C : List Pr) (hA : ∀ y ∈ A, slt y.1 key = true) (hC : ∀ y ∈ C, slt key y.1 = true) (h : KIn key (A ++ X ++ C)) : KIn key X := by
 obtain ⟨v, hv⟩ := h
 rw [List.mem_append, List.mem_append] at hv
 rcases hv with (hv | hv) | hv
 ·have := hA _ hv; rw [slt_irr] at this; cases this
 ·exact ⟨v, hv⟩
 ·have := hC _ hv; rw [slt_irr] at this; cases this
theorem del_cl {B : Nat} {w : World} {key : Str} (hB : B ≤ w.heap.size) : EdCl B w 40 #[] key (edDel key) (KIn key) := by
 intro u ps kv vv dv bu o dj hp hs hg
 have hlen : (lf ps).keys.length ≤ 1000 := by have := (lf_ok hp hs).few; omega
 have hlv : (lf ps).vals.length = (lf ps).keys.length := by simp [lf]
 obtain ⟨A, C, f1, f2, hA, hC, hc⟩ := leaf_at hp hs key
 rcases hc with ⟨h1, v, h2⟩ | ⟨h1, h2⟩
 ·have hi : A.length < (lf ps).keys.length := by rw [h2]; simp [lf]
  have e : edDel key (lf ps) = ⟨(lf ps).leaf, (lf ps).keys.take A.length ++ (lf ps).keys.drop (A.length + 1), (lf ps).vals.take A.length ++ (lf ps).vals.drop (A.length + 1), (lf ps).kids⟩ := by unfold edDel; rw [if_pos h1, f1]
  rw [e, f2, h1]
  refine Calls.mono (pdelcl_any B u (lf ps) kv vv dv A.length true o dj (Nat.le_trans hB bu.size) hlen hlv hi) ?_
  rintro e9 u' ⟨kv', vv', r1, r2, r3⟩
  exact ⟨kv', vv', dv, r1, r2, r3⟩
 ·exfalso
  obtain ⟨v, hv⟩ := hg
  rw [h2, List.mem_append] at hv
  rcases hv with hv | hv
  ·have := hA _ hv; rw [slt_irr] at this; cases this
  ·have := hC _ hv; rw [slt_irr] at this; cases this
end Go.Proofs.YtgmkknonnidgaaaGreat

namespace Go.Proofs.YtgmkknonnidgaaaGreat
open Go.RowKit
theorem pgs_at : ∀ {z : Int} {ad : List Nd} {i : Nat} {n : Nd}, ad[i]? = some n → (pgs z ad)[i]? = some (z + (i : Int), nenc n)
 | z, [], i, n, h => by cases h
 | z, x :: r, 0, n, h => by
  simp only [List.getElem?_cons_zero, Option.some.injEq] at h
  subst h
  simp [pgs]
 | z, x :: r, i + 1, n, h => by
  have := pgs_at (z := z + 1) (ad := r) (i := i) (n := n) (by simpa using h)
  simp only [pgs, List.getElem?_cons_succ, this, Option.some.injEq, Prod.mk.injEq, and_true]
  push_cast
  omega
theorem pgs_next {z : Int} {ad : List Nd} {i : Nat} {n : Nd} (h : ad[i]? = some n) : (pgs z ad).take (i + 1) = (pgs z ad).take i ++ [(z + (i : Int), nenc n)] := by
 rw [List.take_add_one, pgs_at h]; rfl
theorem OwnNs.slice {B : Nat} {w : World} {v : Value} {ns : List NV} (h : OwnNs B w v ns) : ∃ a c, v = .slice a ns.length c := by
 rcases h.2 with ⟨rfl, e⟩ | ⟨g, cap, cur, rfl, _⟩
 ·exact ⟨none, 0, by rw [e]⟩
 ·exact ⟨_, _, rfl⟩
theorem OwnNs.at {B : Nat} {w : World} {a : Option Addr} {L c : Nat} {ns : List NV} (h : OwnNs B w (.slice a L c) ns) {i : Nat} {y : NV} (hy : ns[i]? = some y) : ∃ g, a = some ⟨g, 0, none⟩ ∧ B ≤ g ∧ w.cell? ⟨g, i * 4, none⟩ = some (.bool y.1.leaf) ∧ w.cell? ⟨g, i * 4 + 1, none⟩ = some y.2.1 ∧ w.cell? ⟨g, i * 4 + 2, none⟩ = some y.2.2.1 ∧ w.cell? ⟨g, i * 4 + 3, none⟩ = some y.2.2.2 := by
 have hi := (List.getElem?_eq_some_iff.1 hy).1
 obtain ⟨g, cap, cur, e, hB, hg, hk, hm, hs, ht⟩ := own_block h (by omega)
 obtain ⟨c1, c2, c3, c4⟩ := ncl_at ns i y hy
 have hcell : ∀ j, j < ns.length * 4 → w.cell? ⟨g, j, none⟩ = (ncl ns)[j]? := fun j hj => by
  rw [← ht, List.getElem?_take, if_pos hj]
  simp [World.cell?, hg]
 simp only [Value.slice.injEq] at e
 exact ⟨g, e.1, hB, by rw [hcell _ (by omega), c1], by rw [hcell _ (by omega), c2], by rw [hcell _ (by omega), c3], by rw [hcell _ (by omega), c4]⟩
def ChgE (w0 w' : World) (t : Tr) (key : Str) (ed : Nd → Nd) (d : Nat) (e : Ending) : Prop :=
 (∃ pv', t.next + ((chgR t key ed d).2.length : Int) ≤ 65536 ∧ e = .returned (.tuple #[tv (chgT t key ed d) pv', .int .i64 0]) ∧ OwnPg w0.heap.size w' pv' (chgT t key ed d).pages ∧ Below w0.heap.size w0 w') ∨
 (65536 < t.next + ((chgR t key ed d).2.length : Int) ∧ e = .returned (.tuple #[tv ⟨0, 0, []⟩ (.slice none 0 0), .int .i64 51]) ∧ Below w0.heap.size w0 w')
structure C3 (w0 w w3 : World) (B g : Nat) (t : Tr) (pv : Value) (bm : Nat) (s : Sw) (RT : Int) (AD : List Nd) (NS : List NV) (av : Value) : Prop where
 ch : ChI B w3 (w.heap.size + 1) g t.next av NS
 al : AllK w3 NS
 ad : NS.map (·.1) = AD
 dr : w3.heap[w.heap.size]? = some (.cells #[.int .i64 0, .int .i64 0, .slice none 0 0] 27 (0, 0))
 gb : w3.heap[g]? = some (.cells (pcl6 t pv bm s) 88 (0, 0))
 bel : Below w0.heap.size w0 w3
theorem C3.to {w0 w w3 w4 : World} {B g : Nat} {t : Tr} {pv : Value} {bm : Nat} {s : Sw} {RT : Int} {AD : List Nd} {NS : List NV} {av : Value} (h : C3 w0 w w3 B g t pv bm s RT AD NS av) (b : Below w3.heap.size w3 w4) : C3 w0 w w4 B g t pv bm s RT AD NS av :=
 ⟨h.ch.to b, h.al.to b, h.ad, (b.block _ (lt_of_block h.dr)).trans h.dr, (b.block _ (lt_of_block h.gb)).trans h.gb, h.bel.trans (b.mono h.bel.size)⟩
set_option maxRecDepth 100000 in
set_option maxHeartbeats 16000000 in
theorem pchanged_any (w0 w : World) (B g bm : Nat) (t : Tr) (pv : Value) (s : Sw) (m : Int → Option Value) (key : Str) (F : Nat) (caps : Array Value) (ed : Nd → Nd) (upd : List Pr → List Pr) (good : List Pr → Prop) (d : Nat) (H : PWk w0 w B g bm t pv s m) (hB : B ≤ w.heap.size) (hroot : (Lit.int .i64 t.root).wf = true) (ht : twalk t = some s) (hpn : PNum t)
  (hps : s.prs.length ≤ 4096) (hTT : TTop t d s.prs) (hseen : ∀ i ∈ nI t.pages d (topOf t), i ∈ s.seen) (hx : ∀ x ∈ t.pages, x.2.length ≤ 140737488351232) (hE : EdOk key upd ed) (hG : ∀ A X C, (∀ y ∈ A, slt y.1 key = true) → (∀ y ∈ C, slt key y.1 = true) → good (A ++ X ++ C) → good X) (hgood : good s.prs) (hcl : EdCl B w F caps key ed good)
  (he : ∀ args u, (callFunc F args).run Tryz.prog u = .ok (.enter F args) u) (hTN : TNum t) :
  Calls Tryz.prog 34 #[.pointer (some ⟨g, 0, none⟩), st key, .func (.func F) #[] caps] w fun e w' => ChgE w0 w' t key ed d e := by
 obtain ⟨W, hW, DW, bW, sW⟩ := boxedN w #[.int .i64 0, .int .i64 0, .slice none 0 0] 27
 obtain ⟨X, hX, DX, bX, sX⟩ := boxedN W #[.pointer (some ⟨g, 0, none⟩), .slice none 0 0] 108
 have bWX := bW.trans (bX.mono bW.size)
 have PX := H.to bWX
 have KT := hide (ptop_at w0 X B g bm t pv s m PX hroot ht)
 have D1 := (bX.block _ (lt_of_block DW)).trans DW
 rw [sW] at DX
 have HX := hide (And.intro bWX (And.intro PX (And.intro D1 DX)))
 rw [hX, hW] at KT
 have HNL : Hid (∀ b, w.heap.size ≤ b → ¬ LfB m b) := fun b hb hL => by have := (H.cw.leaf hL).2; omega
 have HBL : Hid (∀ b, b < B → ¬ LfB m b) := fun b hb hL => by have := (H.cw.leaf hL).1; omega
 replace H := hide H
 replace hcl := hide hcl
 replace hE := hide hE
 replace hG := hide hG
 replace hgood := hide hgood
 replace hTT := hide hTT
 replace hseen := hide hseen
 replace ht := hide ht
 replace hpn := hide hpn
 replace hTN := hide hTN
 replace hx := hide hx
 clear D1 DX bWX PX DW bW bX
 go_enter Tryz.func34, Tryz.ntmps34
 go_wp2_with fail
 refine KT.out.mono ?_
 rintro e w1 ⟨nd9, kv, vv, dv, rfl, hT9, ho, b1, hdj, htv⟩
 rw [← hW, ← hX] at b1
 obtain ⟨bWX, PX, D1, DX⟩ := HX.out
 have P1 := PX.to b1
 have hnb : Hid (w.heap.size ≤ w1.heap.size) := Nat.le_trans bWX.size b1.size
 have hB1 : B ≤ w1.heap.size := Nat.le_trans hB hnb.out
 have bw1 := bWX.trans (b1.mono bWX.size)
 have D2 := (b1.block _ (lt_of_block D1)).trans D1
 have C2 := (b1.block _ (lt_of_block DX)).trans DX
 have Ch1 : ChI B w1 (w.heap.size + 1) g t.next (.slice none 0 0) [] := ⟨C2, World.ownsRow_nil _ _ _ _, cellN P1.box rfl, by omega⟩
 have hgg : w.heap.size + 1 ≠ g := by have := P1.hg.2; omega
 have hto := hT9.of
 obtain ⟨q1, q2, q3, q4, q5⟩ := top_no hTT.out
 have hsn := hseen.out
 rw [hto] at q1 q2 q3 q4 q5 hsn
 have hdd := ttop_deep hTT.out hps
 have hnx : 0 ≤ t.next ∧ t.next ≤ 65536 := ⟨by have := hpn.out.1; omega, hpn.out.2.1⟩
 have KR := hide (preb_any (next := t.next) hE.out hgg hnx hG.out he d nd9 [] none w1 kv vv dv (by omega) P1.cw Ch1 hB1 ho hdj (fun hl b hb => by
   rcases htv with ⟨z1, z2, z3⟩ | htv
   ·rcases hb with hb | hb
    ·rw [z1] at hb; cases hb
    ·rw [z2] at hb; cases hb
   ·exact LfB.of htv hl b hb) (fun hl b hb => by
   rcases htv with ⟨z1, z2, z3⟩ | htv
   ·rcases row_nv hb with hb | hb | hb
    ·rw [z1] at hb; cases hb
    ·rw [z2] at hb; cases hb
    ·rw [z3] at hb; cases hb
   ·exact P1.cw.inner htv hl hb) q1 q2 q3 (fun i hi => by
   have h1 := hsn i hi
   have h2 := P1.ok.2.1 i h1
   exact ⟨by rw [P1.has]; exact decide_eq_true h1, h2.1, by omega⟩) (by rw [q5]; exact hgood.out) (hcl.out.to bw1))
 have hsh := hide (reb_shape (l := t.pages) (next := t.next) hE.out d nd9 [] none [] q1 q2 q3)
 have hrl := hide (reb_len t.pages t.next key ed d nd9 []).2
 have hchg : Hid (chgR t key ed d = rootOf t.next (rebOf t.pages t.next key ed d nd9 []).2 (rebOf t.pages t.next key ed d nd9 []).1) := by show _ = _; unfold chgR; rw [hto]
 unfold RbR at KR
 obtain ⟨MM, hMM⟩ : ∃ M, M = (rebOf t.pages t.next key ed d nd9 []).1 := ⟨_, rfl⟩
 obtain ⟨AD, hAD⟩ : ∃ A, A = (rebOf t.pages t.next key ed d nd9 []).2 := ⟨_, rfl⟩
 rw [← hMM, ← hAD] at KR hchg
 rw [← hMM] at hsh
 rw [← hAD] at hrl
 have H1 := hide (And.intro P1 (And.intro D2 C2))
 obtain ⟨ka, kc, va, vc, da, dc, rfl, rfl, rfl⟩ := ho.rd.slices
 dsimp only [nv] at KR
 replace hX := hide hX
 replace hW := hide hW
 replace hMM := hide hMM
 replace hAD := hide hAD
 replace hto := hide hto
 replace htv := hide htv
 clear KT ho b1 hT9 bWX PX D1 DX P1 D2 C2 bw1 HX Ch1 q1 q2 q3 q4 q5 hsn
 go_wp2_with fail
 refine KR.out.mono ?_
 rintro e w2 ⟨kv', vv', dv', av2, ns2, rfl, r2, c2, al2, e2, k2⟩
 obtain ⟨P1, D1, C1⟩ := H1.out
 have hB2 : B ≤ w2.heap.size := Nat.le_trans hB1 k2.size
 have hgB : Hid (w0.heap.size ≤ g ∧ g < B) := P1.hg
 have hws : Hid (w.heap.size < w1.heap.size) := lt_of_block D1
 have D2 := (k2.keep _ (lt_of_block D1) (by omega) (HNL.out _ (Nat.le_refl _))).trans D1
 have G2 := (k2.keep _ (lt_of_block P1.box) (Ne.symm hgg) (HBL.out _ hgB.out.2)).trans P1.box
 have hlen2 : ns2.length ≤ 800 := by
  have h1 := hrl.out
  rw [← e2, List.length_map] at h1
  simp at h1
  omega
 have hav2 : Hid (∀ b, av2.ownBlock = some b → w1.heap.size ≤ b) := k2.row
 have KO := hide (proot_gen B w2 (w.heap.size + 1) g t.next av2 ns2 MM kv' vv' dv' d c2 al2 hB2 (fun b hb => by have := k2.row b hb; have := hgB.out; omega) hgg hlen2 hnx r2 hsh.out)
 unfold RoR at KO
 rw [e2, ← hchg.out] at KO
 have bel2 : Below w0.heap.size w0 w2 := P1.bel.trans (k2.bel.mono (by have := hgB.out; omega))
 have H2 := hide (And.intro D2 (And.intro G2 bel2))
 have hw0B : Hid (w0.heap.size ≤ B) := by have := hgB.out; show _ ≤ _; omega
 obtain ⟨ka', kc', va', vc', da', dc', rfl, rfl, rfl⟩ := r2.rd.slices
 dsimp only [nv] at KO
 replace e2 := hide e2
 clear r2 c2 al2 k2 P1 D1 C1 D2 G2 KR H1 bel2
 dsimp only [nv]
 go_wp2_with fail
 refine KO.out.mono ?_
 rintro e w3 ⟨av3, more, rfl, c3, al3, e3, k3⟩
 obtain ⟨NS, hNS⟩ : ∃ x, x = ns2 ++ more := ⟨_, rfl⟩
 rw [← hNS] at c3 al3 e3
 obtain ⟨RT, hRT⟩ : ∃ r, r = (chgR t key ed d).1 := ⟨_, rfl⟩
 obtain ⟨A3, hA3⟩ : ∃ r, r = (chgR t key ed d).2 := ⟨_, rfl⟩
 rw [← hRT]
 rw [← hA3] at e3
 have CC : C3 w0 w w3 B g t pv bm s RT A3 NS av3 := by
  obtain ⟨D2, G2, bel2⟩ := H2.out
  refine ⟨c3, al3, e3, (k3.keep _ (lt_of_block D2) (by omega) (fun e => ?_)).trans D2, (k3.keep _ (lt_of_block G2) (Ne.symm hgg) (fun e => ?_)).trans G2, bel2.trans (k3.bel.mono hw0B.out)⟩
  ·have h1 := hav2.out _ e
   have h2 := lt_of_block D2
   have h3 := hws.out
   omega
  ·have h1 := hav2.out _ e
   have := hgB.out
   omega
 have bD : Below w3.heap.size w3 w3.drew := below_drewN' w3 1 _
 have C4 := hide (CC.to bD)
 have hlen : t.pages.length ≤ 65536 := by have := tups_len hpn.out.2.2 hpn.out.1; have := hpn.out.2.1; omega
 have KC := hide (pcopied_any w3.drew t pv (H.out.pg.to0 C4.out.bel) hlen hx.out)
 have hB4 : Hid (B ≤ w3.drew.heap.size) := Nat.le_trans (Nat.le_trans hB2 k3.size) bD.size
 obtain ⟨pa, pc, hpv⟩ := H.out.pg.slice
 subst hpv
 obtain ⟨a3, cap3, hav3⟩ := OwnNs.slice CC.ch.row
 obtain ⟨NL, hNL⟩ : ∃ n, n = NS.length := ⟨_, rfl⟩
 rw [← hNL] at hav3
 subst hav3
 have hAl : Hid (A3.length = NL) := by show _ = _; rw [hNL, ← CC.ad, List.length_map]
 have hNLb : NL ≤ 1000 := by
  have h1 := root_len t.next AD MM
  rw [← hchg.out, ← hA3, hAl.out] at h1
  have h2 := hrl.out
  simp at h2
  omega
 have Q0 := cellN CC.ch.box (i := 0) rfl
 have Q1 := cellN CC.ch.box (i := 1) rfl
 have Q2 := CC.ch.nxt
 have U0 := cellN C4.out.ch.box (i := 0) rfl
 have U1 := cellN C4.out.ch.box (i := 1) rfl
 have X0 := cellN C4.out.gb (i := 0) rfl
 have X1 := cellN C4.out.gb (i := 1) rfl
 have X2 := cellN C4.out.gb (i := 2) rfl
 have hwz : wrap64 (t.next + (NL : Int)) = t.next + (NL : Int) := by have := hpn.out.1; have := hpn.out.2.1; unfold wrap64; omega
 dsimp only [tv] at KC
 replace hRT := hide hRT
 replace hA3 := hide hA3
 replace hNS := hide hNS
 replace hNL := hide hNL
 clear c3 k3 al3 e3 CC bD KO H2
 go_upto_region 3 with fail
 go_region
 clear hwz Q0 Q1 Q2
 obtain ⟨V, hV⟩ : ∃ V, V = w3.drew := ⟨_, rfl⟩
 obtain ⟨NX, hNX⟩ : ∃ z, z = t.next + (NL : Int) := ⟨_, rfl⟩
 rw [← hV] at KC U0 U1 X0 X1 X2 C4 hB4 ⊢
 rw [← hNX]
 replace hNX := hide hNX
 replace hV := hide hV
 have hcl2 : Hid (t.next + ((chgR t key ed d).2.length : Int) = NX) := by show _ = _; rw [← hA3.out, hAl.out, hNX.out]
 by_cases hfit : 65536 < NX
 ·have hq : NX > 65536 := hfit
  have HDR := hide C4.out.dr
  obtain ⟨⟨J0, J1, J2⟩, JF⟩ := cells3p HDR.out
  have h0w : w0.heap.size ≤ w.heap.size := H.out.bel.size
  have BF := hide (below_set3t C4.out.bel h0w (.int .i64 0) (.int .i64 0) (.slice none 0 0))
  clear U0 U1 X0 X1 X2
  go_wp2
  (try simp only [Exit.inBlock, Exit.then])
  refine retNT rfl rfl w.heap.size rfl _ _ (0, 0) (heap_set3t HDR.out _ _ _) _ Tryz.underlying27 rfl info_tr _ rfl ?_
  exact .inr ⟨by rw [hcl2.out]; exact hfit, rfl, BF.out⟩
 ·have hfin : ¬ NX > 65536 := hfit
  have hoks := hide (chg_ok hTN.out hTT.out hps hE.out (by rw [hcl2.out]; omega)).1
  rw [← hA3.out] at hoks
  clear hfit
  go_wp2_with fail
  refine KC.out.mono ?_
  rintro e w5 ⟨pv5, rfl, o5, b5⟩
  obtain ⟨a5, q5, h5⟩ := o5.shape
  subst h5
  obtain ⟨Y, hY, DY, bY, sY⟩ := boxedN w5 #[.int .i64 t.root, .int .i64 t.next, .slice a5 t.pages.length q5] 27
  have bVY := b5.trans (bY.mono b5.size)
  have OY : OwnPg V.heap.size Y (.slice a5 t.pages.length q5) t.pages := o5.to9 bY
  have cY := C4.out.to bVY
  have U1' := cellN cY.ch.box (i := 1) rfl
  rw [hY] at U1'
  have hyb : Hid (V.heap.size ≤ w5.heap.size) := b5.size
  obtain ⟨PG, hPG⟩ : ∃ x, x = pgs t.next A3 := ⟨_, rfl⟩
  have CI0 : Hid (∃ pv', Y.heap[w5.heap.size]? = some (.cells #[.int .i64 t.root, .int .i64 t.next, pv'] 27 (0, 0)) ∧ OwnPg V.heap.size Y pv' (t.pages ++ PG.take 0) ∧ Below V.heap.size V Y) := ⟨_, DY, by simpa using OY, bVY⟩
  have hPl : Hid (PG.length = NL) := by show _ = _; rw [hPG, pgs_len, hAl.out]
  replace hPG := hide hPG
  clear KC o5 b5 DY bY OY cY bVY U0 U1 X0 X1 X2
  dsimp only [tv]
  go_wp2_with fail
  rw [← hY]
  clear U1'
  replace hY := hide hY
  go_loopw [46] (fun p wr => ∃ k : Nat, k ≤ NL ∧ p = .int .i64 k ∧ Hid (∃ pv', wr.heap[w5.heap.size]? = some (.cells #[.int .i64 t.root, .int .i64 t.next, pv'] 27 (0, 0)) ∧ OwnPg V.heap.size wr pv' (t.pages ++ PG.take k) ∧ Below V.heap.size V wr)) (fun p _ => NL - (intOf p).toNat)
  case atStart => exact ⟨0, Nat.zero_le _, rfl, CI0⟩
  case round =>
   obtain ⟨k, hk, rfl, hI⟩ := hrel
   clear CI0
   obtain ⟨pv6, d6, o6, b6⟩ := hI.out
   have C6 := C4.out.to b6
   by_cases hlt : k < NL
   ·have hq : ((k : Nat) : Int) < (NL : Int) := by omega
    obtain ⟨⟨nd', kv', vv', dv'⟩, hy⟩ : ∃ y, NS[k]? = some y := ⟨_, List.getElem?_eq_getElem (by rw [← hNL.out]; exact hlt)⟩
    obtain ⟨g3, hg3, hBg3, R0, R1, R2, R3⟩ := OwnNs.at C6.ch.row hy
    have hyA : A3[k]? = some nd' := by rw [← C6.ad, List.getElem?_map, hy]; rfl
    have hok : NOk nd' := hoks.out nd' (List.mem_of_getElem? hyA)
    have N6 : RdK wr kv' vv' dv' nd' := C6.al _ (List.mem_of_getElem? hy)
    subst hg3
    obtain ⟨ka', kc', va', vc', da', dc', hs1, hs2, hs3⟩ := N6.rd.slices
    subst hs1 hs2 hs3
    dsimp only at R0 R1 R2 R3
    obtain ⟨Z, hZ, DZ, bZ, sZ⟩ := boxedN wr #[.bool nd'.leaf, .slice ka' nd'.keys.length kc', .slice va' nd'.vals.length vc', .slice da' nd'.kids.length dc'] 76
    have KE := hide (penc_any Z _ _ _ nd' (N6.to bZ).rd hok.fit)
    obtain ⟨⟨E0, E1, E2, E3⟩, EF⟩ := cells4 DZ
    rw [hZ] at KE E0 E1 E2 E3 EF
    dsimp only [nv] at KE
    rw [(nout_ok hok).1, (nout_ok hok).2] at KE
    have HQ := hide (And.intro d6 (And.intro o6 (And.intro b6 (And.intro C6 bZ))))
    have hnx2 : Hid (PG.take (k + 1) = PG.take k ++ [(t.next + (k : Int), nenc nd')]) := by show _ = _; rw [hPG.out]; exact pgs_next hyA
    replace hy := hide hy
    replace hyA := hide hyA
    replace hok := hide hok
    clear d6 o6 b6 C6 bZ DZ N6 hI
    go_wp2_with fail
    refine KE.out.mono ?_
    rintro e w7 ⟨v7, rfl, o7, b7⟩
    rw [← hZ] at b7 o7
    obtain ⟨d6, o6, b6, C6, bZ⟩ := HQ.out
    have bz7 := bZ.trans (b7.mono bZ.size)
    have bD : Below w7.heap.size w7 w7.drew := below_drewN' w7 1 _
    have bb := bz7.trans (bD.mono bz7.size)
    have d7 := (bz7.block _ (lt_of_block d6)).trans d6
    have O7 : OwnPg V.heap.size w7 pv6 (t.pages ++ PG.take k) := o6.to9 bz7
    have C7 := C6.to bb
    have B7 := b6.trans (bz7.mono b6.size)
    have S7 : OwnB V.heap.size w7 v7 (nenc nd') := rows_mono o7 (Nat.le_trans b6.size bZ.size)
    obtain ⟨va7, vc7, hv7⟩ := o7.rd.slice
    subst hv7
    obtain ⟨pa6, pc6, hp6⟩ := O7.shape
    obtain ⟨PK, hPK⟩ : ∃ x, x = t.pages ++ PG.take k := ⟨_, rfl⟩
    rw [← hPK] at hp6 O7
    obtain ⟨PL, hPL⟩ : ∃ x, x = PK.length := ⟨_, rfl⟩
    have hPLb : PL ≤ 70000 := by rw [hPL, hPK, List.length_append, List.length_take]; omega
    rw [← hPL] at hp6
    subst hp6
    have Y2 := cellN (drewHeap d7) (i := 2) rfl
    have Y0 := cellN C7.ch.box (i := 0) rfl
    have Y1 := cellN C7.gb (i := 1) rfl
    obtain ⟨EL, hEL⟩ : ∃ n, n = (nenc nd').length := ⟨_, rfl⟩
    have S7' : OwnB V.heap.size w7 (.slice va7 EL vc7) (nenc nd') := by rw [hEL]; exact S7
    rw [← hEL]
    have H7 := hide (And.intro d7 (And.intro O7 (And.intro B7 S7')))
    replace hEL := hide hEL
    replace hZ := hide hZ
    replace hPK := hide hPK
    replace hPL := hide hPL
    clear d6 o6 b6 C6 bZ b7 bz7 bD bb d7 O7 C7 B7 S7 S7' o7 E0 E1 E2 E3 EF R0 R1 R2 R3 KE
    have hnz2 : IntKind.i64.wrap (t.next + (k : Int)) = t.next + (k : Int) := IntWalk.i64_in _ (by have := hpn.out.1; have := hpn.out.2.1; omega)
    go_upto_region 11 with fail
    refine wp_region_mid (fun w' => w'.cell? ⟨w5.heap.size, 2, none⟩ = some (.slice pa6 PL pc6) ∧ w'.cell? ⟨w.heap.size + 1, 0, none⟩ = some (.pointer (some ⟨g, 0, none⟩)) ∧ w'.cell? ⟨g, 1, none⟩ = some (.int .i64 t.next)) 11 13 mixed (by kernel_rfl) (fun _ _ _ _ h => h) ⟨Y2, Y0, Y1⟩ ?_
    dsimp only [List.take, List.drop]
    iterate 11
     refine take_one (v := ?_) (by rfl) ?_ ?_
     rotate_left
     ·rintro w' ⟨s1, s2, s3⟩
      go_simp
      try with_reducible rfl
     try simp only [Act.put, List.setIfInBounds_toArray, List.set_cons_zero, List.set_cons_succ]
    refine mid_one fun K hK => ?_
    rw [if_pos (by rfl)]
    go_simp
    refine hK _ _ ⟨Y2, Y0, Y1⟩ ?_
    clear hK K
    refine mid_one fun K hK => ?_
    rw [if_pos (by rfl)]
    go_simp
    refine hK _ _ ⟨cellAl Y2 _, cellAl Y0 _, cellAl Y1 _⟩ ?_
    clear hK K
    show wpList _ _ _ _ _ _
    (try simp only [hnz2])
    obtain ⟨TK, hTK⟩ : ∃ z, z = t.next + (k : Int) := ⟨_, rfl⟩
    rw [← hTK] at hnx2 ⊢
    obtain ⟨d7, O7, B7, S7⟩ := H7.out
    obtain ⟨Qa, hQa, DQa, bQa, sQ⟩ := boxedN w7 #[.int .i64 TK, .slice va7 EL vc7] 56
    obtain ⟨Q, hQ⟩ : ∃ Q, Q = (w7.alloc (.cells #[.int .i64 TK, .slice va7 EL vc7] 56)).drew := ⟨_, rfl⟩
    have bQ : Below w7.heap.size w7 Q := by rw [hQ, ← hQa]; exact bQa.trans (below_drewN' Qa 1 _)
    have DQ : Q.heap[w7.heap.size]? = some (.cells #[.int .i64 TK, .slice va7 EL vc7] 56 (0, 0)) := by rw [hQ, ← hQa]; exact drewHeap DQa
    obtain ⟨⟨Z0, Z1⟩, _⟩ := cells2r DQ
    have OZ := O7.to9 bQ
    have SZ : OwnB V.heap.size Q (.slice va7 EL vc7) (nenc nd') := rows_to S7 bQ
    have BQ := B7.trans (bQ.mono B7.size)
    have hBq : V.heap.size ≤ Q.heap.size := BQ.size
    have dQ := (bQ.block _ (lt_of_block d7)).trans d7
    have FIN : ∀ v5 w6, OwnPg V.heap.size w6 v5 (PK ++ [(TK, nenc nd')]) → Below V.heap.size Q w6 → (∀ e, e ≠ 56 → KeepT e Q w6) →
      Hid (∃ pv', (w6.setCell ⟨w5.heap.size, 2, none⟩ v5).heap[w5.heap.size]? = some (.cells #[.int .i64 t.root, .int .i64 t.next, pv'] 27 (0, 0)) ∧ OwnPg V.heap.size (w6.setCell ⟨w5.heap.size, 2, none⟩ v5) pv' (t.pages ++ PG.take (k + 1)) ∧ Below V.heap.size V (w6.setCell ⟨w5.heap.size, 2, none⟩ v5)) ∧
      w6.cell? ⟨w5.heap.size, 2, none⟩ = some (.slice pa6 PL pc6) ∧ w6.frozen? ⟨w5.heap.size, 2, none⟩ = false := fun v5 w6 o5 b5 k5 => by
     have d8 := k5 _ (by decide) _ _ _ dQ
     have d9 := heap_setN d8 2 v5
     have kk := fun e (he : e ≠ 27) => KeepT.set (a := ⟨w5.heap.size, 2, none⟩) d8 he v5
     have o9 : OwnPg V.heap.size w6 v5 (t.pages ++ PG.take (k + 1)) := by rw [hnx2.out, ← List.append_assoc, ← hPK.out]; exact o5
     exact ⟨⟨v5, by simpa using d9, o9.keepT (kk _ (by decide)) (kk _ (by decide)), (BQ.trans b5).setCell hyb.out _⟩, cellN d8 rfl, frozN d8 2⟩
    rw [hQ] at Z0 Z1 OZ SZ hBq FIN
    replace FIN := hide FIN
    have hpl : (PK.length + 1) * 32 ≤ 140737488355328 := by rw [← hPL.out]; omega
    have OZ' := hide OZ
    replace hTK := hide hTK
    clear d7 O7 B7 S7 DQ bQ hQ dQ BQ H7 Y2 Y0 Y1 hnz2 hQa DQa bQa sQ
    refine wpList_appPg rfl _ _ rfl V.heap.size (.slice pa6 PL pc6) PK (TK, nenc nd') (.slice va7 EL vc7) w7.heap.size rfl rfl OZ SZ rfl Z0 Z1 hpl hBq ?_
    intro v5 w6 o5 _ b5 k5
    obtain ⟨a9, c9, h9⟩ := o5.shape
    subst h9
    obtain ⟨F1, F2, F3⟩ := FIN.out _ w6 o5 b5 k5
    generalize (PK ++ [(TK, nenc nd')]).length = L9 at *
    clear o5 b5 k5 FIN Z0 Z1 OZ SZ hBq hpl OZ'
    go_wp2
    go_roundw
    case rel => exact ⟨k + 1, hlt, by go_num, F1⟩
    case measure => simp [intOf]; omega
   ·obtain rfl : k = NL := by omega
    have hq : ¬ ((k : Nat) : Int) < (k : Int) := by omega
    have D6 := C6.dr
    obtain ⟨pa6, pc6, hp6⟩ := o6.shape
    subst hp6
    have htk : PG.take k = PG := List.take_of_length_le (by rw [hPl.out]; exact Nat.le_refl _)
    rw [htk] at o6 d6
    obtain ⟨L9, hL9⟩ : ∃ n, n = (t.pages ++ PG).length := ⟨_, rfl⟩
    have o6' : OwnPg V.heap.size wr (.slice pa6 L9 pc6) (t.pages ++ PG) := by rw [hL9]; exact o6
    rw [← hL9] at d6
    obtain ⟨⟨E0, E1, E2⟩, EF⟩ := cells3p d6
    have hne : w5.heap.size ≠ w.heap.size := by have := hyb.out; have := lt_of_block C4.out.dr; omega
    obtain ⟨Q, hQ⟩ : ∃ Q, Q = (wr.setCell ⟨w5.heap.size, 0, none⟩ (.int .i64 RT)).setCell ⟨w5.heap.size, 1, none⟩ (.int .i64 NX) := ⟨_, rfl⟩
    have dq := heap_setN (heap_setN d6 0 (.int .i64 RT)) 1 (.int .i64 NX)
    have DQ : Q.heap[w5.heap.size]? = some (.cells #[.int .i64 RT, .int .i64 NX, .slice pa6 L9 pc6] 27 (0, 0)) := by rw [hQ]; simpa using dq
    have DR : Q.heap[w.heap.size]? = some (.cells #[.int .i64 0, .int .i64 0, .slice none 0 0] 27 (0, 0)) := by
     rw [hQ]; exact (Below.heap_setCell _ _ _ _ (Ne.symm hne)).trans ((Below.heap_setCell _ _ _ _ (Ne.symm hne)).trans D6)
    have kq : ∀ e, e ≠ 27 → KeepT e wr Q := fun e he => by
     rw [hQ]; exact (KeepT.set (a := ⟨w5.heap.size, 0, none⟩) d6 he _).trans (KeepT.set (a := ⟨w5.heap.size, 1, none⟩) (heap_setN d6 0 _) he _)
    have bq : Below w0.heap.size w0 Q := by
     rw [hQ]
     have h9 : w0.heap.size ≤ w5.heap.size := Nat.le_trans C4.out.bel.size hyb.out
     exact (C6.bel.setCell h9 _).setCell h9 _
    have ks := fun e (he : e ≠ 27) => s3_keep9 DR (.int .i64 RT) (.int .i64 NX) (.slice pa6 L9 pc6) he
    have OF := hide ((o6'.keepT (kq _ (by decide)) (kq _ (by decide))).keepT (ks _ (by decide)) (ks _ (by decide)))
    have h0w : w0.heap.size ≤ w.heap.size := H.out.bel.size
    have BF := hide (below_set3t bq h0w (.int .i64 RT) (.int .i64 NX) (.slice pa6 L9 pc6))
    obtain ⟨⟨P0, P1, P2⟩, PF⟩ := cells3p DQ
    obtain ⟨⟨J0, J1, J2⟩, JF⟩ := cells3p DR
    have HDR := hide DR
    have hVb : Hid (w0.heap.size ≤ V.heap.size) := C4.out.bel.size
    rw [hQ] at P0 P1 P2 PF J0 J1 J2 JF HDR OF BF
    replace htk := hide htk
    clear dq DQ DR kq bq ks o6 o6' d6 b6 hI D6 C6 hQ hL9
    go_wp2
    refine retNT rfl rfl w.heap.size rfl _ _ (0, 0) (heap_set3t HDR.out _ _ _) _ Tryz.underlying27 rfl info_tr _ rfl ?_
    have eT : chgT t key ed d = ⟨RT, NX, t.pages ++ PG⟩ := by
     unfold chgT
     rw [hcl2.out, ← hRT.out, ← hA3.out, ← hPG.out]
    refine .inl ⟨.slice pa6 L9 pc6, by rw [hcl2.out]; omega, by rw [eT]; rfl, ?_, BF.out⟩
    rw [eT]
    exact OwnX.base (OF.out) hVb.out
end Go.Proofs.YtgmkknonnidgaaaGreat

namespace Go.Proofs.YtgmkknonnidgaaaGreat
open Go.RowKit
structure Chg (t u : Tr) (ps' : List Pr) : Prop where
 prs : tprs u = some ps'
 nxt : t.next ≤ u.next ∧ u.next ≤ t.next + 40
 pgs : ∃ more, u.pages = t.pages ++ more ∧ more.length ≤ 40 ∧ ∀ x ∈ more, x.2.length ≤ 244
 num : TNum u
 rwf : (Lit.int .i64 u.root).wf = true
 how : u = t ∨ ∃ (key : Str) (upd : List Pr → List Pr) (ed : Nd → Nd) (d : Nat) (ps : List Pr), TTop t d ps ∧ EdOk key upd ed ∧ u = chgT t key ed d ∧ ps' = upd ps
theorem pgs_small : ∀ {z : Int} {ad : List Nd}, (∀ n ∈ ad, NOk n) → ∀ x ∈ pgs z ad, x.2.length ≤ 244
 | z, [], h, x, hx => by cases hx
 | z, n :: r, h, x, hx => by
  simp only [pgs, List.mem_cons] at hx
  rcases hx with rfl | hx
  ·have h1 := h n (List.mem_cons_self ..)
   have h2 := nenc_len h1
   have h3 := h1.2.2.2.2
   dsimp only
   omega
  ·exact pgs_small (fun n hn => h n (List.mem_cons_of_mem _ hn)) x hx
theorem chgR_len {t : Tr} {key : Str} {ed : Nd → Nd} {d : Nat} (hd : d ≤ 12) : (chgR t key ed d).2.length ≤ 27 := by
 unfold chgR
 have h1 := (reb_len t.pages t.next key ed d (topOf t) []).2
 have h2 := (root_len t.next (rebOf t.pages t.next key ed d (topOf t) []).2 (rebOf t.pages t.next key ed d (topOf t) []).1).2
 simp at h1
 omega
theorem TNum.rwf {t : Tr} (h : TNum t) : (Lit.int .i64 t.root).wf = true := by
 rcases h.2.2.2 with h0 | h0
 ·rw [h0]; rfl
 ·cases hq : tpage t.pages t.root with
  | none => exact absurd hq h0
  | some x =>
   have := tpage_bd h.2.2.1 hq
   have := h.2.1
   exact WalkArith.wf_i64 (by omega)
theorem chg_is {t : Tr} {d : Nat} {ps : List Pr} {key : Str} {upd : List Pr → List Pr} {ed : Nd → Nd} (hT : TNum t) (h : TTop t d ps) (hps : ps.length ≤ 4096) (hE : EdOk key upd ed) (hM : t.next + ((chgR t key ed d).2.length : Int) ≤ 65536) (hl : (upd ps).length ≤ 4096) : Chg t (chgT t key ed d) (upd ps) := by
 obtain ⟨a1, a2, a3, d', a4⟩ := chg_ok hT h hps hE hM
 obtain ⟨s, hs, e⟩ := ttop_to a4
 have hd := ttop_deep h hps
 have hc := chgR_len (t := t) (key := key) (ed := ed) hd
 refine ⟨?_, ?_, ⟨_, rfl, by rw [pgs_len]; omega, pgs_small a1⟩, a3, a3.rwf, .inr ⟨key, upd, ed, d, ps, h, hE, rfl, rfl⟩⟩
 ·rw [tprs_of ⟨a3.1, a3.2.1, a3.2.2.1⟩ hs (by rw [e]; exact hl), e]
 ·show t.next ≤ t.next + ((chgR t key ed d).2.length : Int) ∧ t.next + ((chgR t key ed d).2.length : Int) ≤ t.next + 40
  omega
theorem three_parts (key : Str) : ∀ ps : List Pr, (ps.filter (fun y => slt y.1 key)).length + (ps.filter (fun y => slt key y.1)).length + (ps.filter (fun y => y.1 == key)).length = ps.length
 | [] => rfl
 | y :: r => by
  have ih := three_parts key r
  rcases slt_tot y.1 key with h | h | h
  ·have h1 : slt key y.1 = false := slt_asym h
   have h2 : (y.1 == key) = false := by
    rw [beq_eq_false_iff_ne]
    intro e
    rw [e, slt_irr] at h
    cases h
   simp only [List.filter_cons, h, h1, h2, if_true, Bool.false_eq_true, if_false, List.length_cons]
   omega
  ·have h1 : slt key y.1 = false := by rw [h]; exact slt_irr _
   have h2 : slt y.1 key = false := by rw [h]; exact slt_irr _
   have h3 : (y.1 == key) = true := by rw [h]; simp
   simp only [List.filter_cons, h1, h2, h3, if_true, Bool.false_eq_true, if_false, List.length_cons]
   omega
  ·have h1 : slt y.1 key = false := slt_asym h
   have h2 : (y.1 == key) = false := by
    rw [beq_eq_false_iff_ne]
    intro e
    rw [e, slt_irr] at h
    cases h
   simp only [List.filter_cons, h, h1, h2, if_true, Bool.false_eq_true, if_false, List.length_cons]
   omega
theorem pins_len (key v : Str) (ps : List Pr) : (pins key v ps).length + (ps.filter (fun y => y.1 == key)).length = ps.length + 1 := by
 have h := three_parts key ps
 have e : (pins key v ps).length = (ps.filter (fun y => slt y.1 key)).length + ((ps.filter (fun y => slt key y.1)).length + 1) := by
  unfold pins
  rw [List.length_append, List.length_cons]
 rw [e]
 omega
theorem phas_len {key : Str} {ps : List Pr} (h : phas ps key = true) : 1 ≤ (ps.filter (fun y => y.1 == key)).length := by
 unfold phas at h
 obtain ⟨y, hy, e⟩ := List.any_eq_true.1 h
 exact List.length_pos_of_mem (List.mem_filter.2 ⟨hy, e⟩)
theorem pget_phas (ps : List Pr) (key : Str) : (pget ps key).isSome = phas ps key := by
 unfold pget phas
 rw [Option.isSome_map]
 induction ps with
 | nil => rfl
 | cons y r ih =>
  rw [List.find?_cons, List.any_cons]
  cases h : (y.1 == key) with
  | true => simp
  | false => simp [ih]
theorem phas_kin {key : Str} {ps : List Pr} (h : phas ps key = true) : KIn key ps := by
 unfold phas at h
 obtain ⟨y, hy, e⟩ := List.any_eq_true.1 h
 have e' : y.1 = key := by simpa using e
 exact ⟨y.2, by rw [← e']; exact hy⟩
theorem pdel_none {key : Str} {ps : List Pr} (h : phas ps key = false) : pdel key ps = ps := by
 unfold pdel
 refine filter_all fun y hy => ?_
 unfold phas at h
 have := List.any_eq_false.1 h y hy
 simpa using this
theorem pdel_len (key : Str) (ps : List Pr) : (pdel key ps).length ≤ ps.length := List.length_filter_le _ _
def perr (t : Tr) (k v : Str) : Int := match tprs t with
 | none => 9
 | some ps => if tkey k = true then (if 64 < v.length then 5 else if 4096 ≤ ps.length ∧ phas ps k = false then 51 else 0) else 91
theorem perr_none {t : Tr} {k v : Str} (h : tprs t = none) : perr t k v = 9 := by unfold perr; rw [h]
theorem perr_key {t : Tr} {k v : Str} {ps : List Pr} (h : tprs t = some ps) (hk : tkey k = false) : perr t k v = 91 := by unfold perr; rw [h]; simp [hk]
theorem perr_long {t : Tr} {k v : Str} {ps : List Pr} (h : tprs t = some ps) (hk : tkey k = true) (hv : 64 < v.length) : perr t k v = 5 := by unfold perr; rw [h]; simp [hk, hv]
theorem perr_full {t : Tr} {k v : Str} {ps : List Pr} (h : tprs t = some ps) (hk : tkey k = true) (hv : ¬ 64 < v.length) (h4 : 4096 ≤ ps.length) (hh : phas ps k = false) : perr t k v = 51 := by unfold perr; rw [h]; simp [hk, hv, h4, hh]
theorem perr_ok {t : Tr} {k v : Str} {ps : List Pr} (h : tprs t = some ps) (hk : tkey k = true) (hv : ¬ 64 < v.length) (h4 : ¬ (4096 ≤ ps.length ∧ phas ps k = false)) : perr t k v = 0 := by unfold perr; rw [h]; dsimp only; rw [if_pos hk, if_neg hv, if_neg h4]
def PutA (w w' : World) (t : Tr) (k v : Str) (e : Ending) : Prop :=
 (∃ err, e = .returned (.tuple #[tv ⟨0, 0, []⟩ (.slice none 0 0), .int .i64 err]) ∧ err ≠ 0 ∧ (err = perr t k v ∨ (err = 51 ∧ perr t k v = 0 ∧ 65495 < t.next)) ∧ Below w.heap.size w w') ∨
 (∃ u pv', e = .returned (.tuple #[tv u pv', .int .i64 0]) ∧ OwnPg w.heap.size w' pv' u.pages ∧ Below w.heap.size w w' ∧ perr t k v = 0 ∧ ∃ ps, tprs t = some ps ∧ Chg t u (pins k v ps))
def DelA (w w' : World) (t : Tr) (k : Str) (e : Ending) : Prop :=
 (∃ err, e = .returned (.tuple #[tv ⟨0, 0, []⟩ (.slice none 0 0), .bool false, .int .i64 err]) ∧ err ≠ 0 ∧ ((tprs t = none ∧ err = 9) ∨ ((∃ ps, tprs t = some ps) ∧ tkey k = false ∧ err = 91) ∨ ((∃ ps, tprs t = some ps) ∧ tkey k = true ∧ err = 51 ∧ 65495 < t.next)) ∧ Below w.heap.size w w') ∨
 (∃ u pv' ps, e = .returned (.tuple #[tv u pv', .bool (phas ps k), .int .i64 0]) ∧ OwnPg w.heap.size w' pv' u.pages ∧ Below w.heap.size w w' ∧ tkey k = true ∧ tprs t = some ps ∧ Chg t u (pdel k ps))
theorem tprs_num {t : Tr} {ps : List Pr} (h : tprs t = some ps) : TNum t ∧ ps.length ≤ 4096 ∧ ∃ s, twalk t = some s ∧ s.prs = ps := by
 unfold tprs at h
 split at h
 ·rename_i hT
  cases hw : twalk t with
  | none => rw [hw] at h; cases h
  | some s =>
   rw [hw] at h
   simp only [Option.bind_some] at h
   split at h
   ·rename_i hl
    have e := Option.some.inj h
    exact ⟨hT, by rw [← e]; exact hl, s, rfl, e⟩
   ·cases h
 ·cases h
theorem Chg.same {t : Tr} {ps : List Pr} (h : tprs t = some ps) : Chg t t ps :=
 ⟨h, ⟨Int.le_refl _, by omega⟩, ⟨[], by simp, by simp, fun x hx => by cases hx⟩, (tprs_num h).1, (tprs_num h).1.rwf, .inl rfl⟩
end Go.Proofs.YtgmkknonnidgaaaGreat

namespace Go.Proofs.YtgmkknonnidgaaaGreat
open Go.RowKit
theorem valOf_has (ps : List Pr) (key : Str) : (valOf (pget ps key)).2 = phas ps key := by
 rw [← pget_phas]; cases pget ps key <;> rfl
theorem tkey_is {k : Str} (h : tkey k = true) : 1 ≤ k.length ∧ k.length ≤ 32 := by unfold tkey at h; have := of_decide_eq_true h; omega
theorem OwnPg.base {B C : Nat} {w : World} {pv : Value} {l : List Wrt} (h : OwnPg C w pv l) (hBC : B ≤ C) : OwnPg B w pv l := OwnX.base h hBC
set_option maxRecDepth 100000 in
set_option maxHeartbeats 8000000 in
theorem pput_any (w : World) (t : Tr) (pv : Value) (key val : Str) (h : RdC w pv t.pages) (hx : ∀ x ∈ t.pages, x.2.length ≤ 140737488351232) (hroot : (Lit.int .i64 t.root).wf = true) (hkl : key.length ≤ 9223372036854775807) :
  Calls Tryz.prog 16 #[tv t pv, st key, st val] w fun e w' => PutA w w' t key val e := by
 obtain ⟨W1, hW1, D1, b1, s1⟩ := boxedN w #[.int .i64 t.root, .int .i64 t.next, pv] 27
 obtain ⟨W2, hW2, D2, b2, s2⟩ := boxedN W1 #[st key] 9
 obtain ⟨W3, hW3, D3, b3, s3⟩ := boxedN W2 #[st val] 9
 obtain ⟨X, hX, D4, b4, s4⟩ := boxedN W3 #[.int .i64 0, .int .i64 0, .slice none 0 0] 27
 have b34 := b3.trans (b4.mono b3.size)
 have b24 := b2.trans (b34.mono b2.size)
 have bX := b1.trans (b24.mono b1.size)
 have E1 := (b24.block _ (lt_of_block D1)).trans D1
 have E2 := (b34.block _ (lt_of_block D2)).trans D2
 have E3 := (b4.block _ (lt_of_block D3)).trans D3
 rw [s1] at E2
 rw [s2, s1] at E3
 rw [s3, s2, s1] at D4
 have sX : X.heap.size = w.heap.size + 1 + 1 + 1 + 1 := by rw [s4, s3, s2, s1]
 have KW := hide (pwalkfor_any X t pv key hkl (h.to0 bX) hroot)
 obtain ⟨pa, pc, rfl⟩ := h.slice
 have HE := hide (And.intro E1 (And.intro E2 (And.intro E3 D4)))
 have BX := hide bX
 obtain ⟨⟨A0, A1, A2⟩, AF⟩ := cells3p E1
 have A3 := cellN E2 (i := 0) rfl
 have A4 := cellN E3 (i := 0) rfl
 rw [hX, hW3, hW2, hW1] at A0 A1 A2 AF A3 A4 KW
 dsimp only [tv] at KW ⊢
 replace hx := hide hx
 replace sX := hide sX
 clear D1 b1 D2 b2 D3 b3 D4 b4 b34 b24 bX E1 E2 E3 h s1 s2 s3 s4
 go_enter Tryz.func16, Tryz.ntmps16
 go_wp2_with fail
 refine KW.out.mono ?_
 rintro e w1 hp
 rw [← hW1, ← hW2, ← hW3, ← hX] at hp
 clear A0 A1 A2 AF A3 A4 KW
 replace hX := hide hX
 replace hW1 := hide hW1
 replace hW2 := hide hW2
 replace hW3 := hide hW3
 rcases hp with ⟨g, bm, B, s, m, rfl, r2, r3, r4, r5, P1, hB1⟩ | ⟨err, rfl, r2, r3⟩
 ·have hps := tprs_of r3 r4 r5
  obtain ⟨E1, E2, E3, D4⟩ := HE.out
  have F2 := (P1.bel.block _ (lt_of_block E2)).trans E2
  have F3 := (P1.bel.block _ (lt_of_block E3)).trans E3
  have F4 := (P1.bel.block _ (lt_of_block D4)).trans D4
  have A3 := cellN F2 (i := 0) rfl
  have A4 := cellN F3 (i := 0) rfl
  by_cases hv : 64 < val.length
  ·have hq : (val.length : Int) > 64 := by omega
   have HF := hide F4
   obtain ⟨⟨J0, J1, J2⟩, JF⟩ := cells3p F4
   have HR : Hid (5 = perr t key val) := (perr_long hps r2 hv).symm
   have B1 := hide (BX.out.trans (P1.bel.mono BX.out.size))
   replace P1 := hide P1
   replace hps := hide hps
   replace r2 := hide r2
   replace r3 := hide r3
   replace r4 := hide r4
   clear E1 E2 E3 D4 F2 F3 F4 A3
   go_wp2
   (try simp only [Exit.inBlock, Exit.then])
   refine retNT rfl rfl (w.heap.size + 1 + 1 + 1) rfl _ _ (0, 0) (heap_set3t HF.out _ _ _) _ Tryz.underlying27 rfl info_tr _ rfl ?_
   exact .inl ⟨5, rfl, by decide, .inl HR.out, below_set3t B1.out (show w.heap.size ≤ w.heap.size + 1 + 1 + 1 by omega) _ _ _⟩
  ·have hq : ¬ (val.length : Int) > 64 := by omega
   have KV := hide (pvalue_any X w1 B g bm t _ s m key P1 hB1 hroot r4)
   rw [valOf_has] at KV
   obtain ⟨TH, hTH⟩ : ∃ b, b = phas s.prs key := ⟨_, rfl⟩
   rw [← hTH] at KV
   have HP := hide (And.intro P1 (And.intro hB1 (And.intro F2 (And.intro F3 F4))))
   have HD4 := hide D4
   have hgB : Hid (X.heap.size ≤ g ∧ g < B) := P1.hg
   replace hps := hide hps
   replace r2 := hide r2
   replace r3 := hide r3
   replace r4 := hide r4
   replace hTH := hide hTH
   clear E1 E2 E3 D4 F2 F3 F4 P1 HE
   go_wp2_with fail
   refine KV.out.mono ?_
   rintro e w2 ⟨rfl, b2⟩
   obtain ⟨P1, hB1', F2, F3, F4⟩ := HP.out
   have P2 := P1.to b2
   have G2 := (b2.block _ (lt_of_block F2)).trans F2
   have G3 := (b2.block _ (lt_of_block F3)).trans F3
   have G4 := (b2.block _ (lt_of_block F4)).trans F4
   have hB2 : B ≤ w2.heap.size := Nat.le_trans hB1 b2.size
   obtain ⟨d, hTT, hseen⟩ := ttop_seen r4.out
   have hTN := (tprs_num hps.out).1
   have KG := hide (pchanged_any X w2 B g bm t (.slice pa t.pages.length pc) s m key 35 #[.pointer (some ⟨w.heap.size + 1 + 1, 0, none⟩), .pointer (some ⟨w.heap.size + 1, 0, none⟩)] (edPut key val) (pins key val) (fun _ => True) d P2 hB2 hroot r4.out r3.out r5 hTT hseen hx.out (put_ed (tkey_is r2.out) (by omega)) (fun _ _ _ _ _ _ => trivial) trivial
    (put_cl G2 (by have := sX.out; have := hgB.out; omega) G3 (by have := sX.out; have := hgB.out; omega) hB2) (fun args u => Tryz.call35 args u) hTN)
   obtain ⟨⟨C0, C1, C2, C3⟩, ⟨C4, C5⟩, CF⟩ := P2.cell
   have B4 := cellN G2 (i := 0) rfl
   have B5 := cellN G3 (i := 0) rfl
   have B2 := hide (BX.out.trans (P2.bel.mono BX.out.size))
   have HG4 := hide G4
   replace hTT := hide hTT
   replace hseen := hide hseen
   replace hTN := hide hTN
   clear P1 F2 F3 F4 HP KV A3 A4 b2 P2 G2 G3 G4 C0 C1 C2 C3 C5
   have hcase : (TH = true ∧ Hid (perr t key val = 0 ∧ (pins key val s.prs).length ≤ 4096)) ∨ (TH = false ∧ ((s.prs.length : Nat) : Int) ≥ 4096 ∧ Hid (perr t key val = 51)) ∨ (TH = false ∧ ¬ ((s.prs.length : Nat) : Int) ≥ 4096 ∧ Hid (perr t key val = 0 ∧ (pins key val s.prs).length ≤ 4096)) := by
    have hl := pins_len key val s.prs
    cases TH with
    | true =>
     refine .inl ⟨rfl, perr_ok hps.out r2.out hv (fun hh => by rw [← hTH.out] at hh; exact absurd hh.2 (by simp)), ?_⟩
     have := phas_len hTH.out.symm
     omega
    | false =>
     by_cases h4 : 4096 ≤ s.prs.length
     ·exact .inr (.inl ⟨rfl, by omega, perr_full hps.out r2.out hv h4 hTH.out.symm⟩)
     ·refine .inr (.inr ⟨rfl, by omega, perr_ok hps.out r2.out hv (fun hh => h4 hh.1), ?_⟩)
      omega
   rcases hcase with ⟨rfl, hO⟩ | ⟨rfl, hf, hO⟩ | ⟨rfl, hf, hO⟩
   rotate_left
   ·obtain ⟨⟨J0, J1, J2⟩, JF⟩ := cells3p HG4.out
    clear KG B4 B5
    go_wp2
    (try simp only [Exit.inBlock, Exit.then])
    refine retNT rfl rfl (w.heap.size + 1 + 1 + 1) rfl _ _ (0, 0) (heap_set3t HG4.out _ _ _) _ Tryz.underlying27 rfl info_tr _ rfl ?_
    exact .inl ⟨51, rfl, by decide, .inl hO.out.symm, below_set3t B2.out (show w.heap.size ≤ w.heap.size + 1 + 1 + 1 by omega) _ _ _⟩
   all_goals
    go_wp2_with fail
    refine KG.out.mono ?_
    rintro e w3 hc
    rcases hc with ⟨pv3, hM, rfl, o3, b3⟩ | ⟨hM, rfl, b3⟩
    ·have hC := hide (chg_is hTN.out hTT.out r5 (put_ed (tkey_is r2.out) (by omega)) hM hO.out.2)
     obtain ⟨a3, c3, h3⟩ := o3.shape
     subst h3
     have D3 := (b3.block _ (lt_of_block HD4.out)).trans HD4.out
     have HD3 := hide D3
     obtain ⟨⟨J0, J1, J2⟩, JF⟩ := cells3p D3
     have B3 := hide (BX.out.trans (b3.mono BX.out.size))
     obtain ⟨L9, hL9⟩ : ∃ n, n = (chgT t key (edPut key val) d).pages.length := ⟨_, rfl⟩
     rw [← hL9] at o3
     obtain ⟨R9, hR9⟩ : ∃ n, n = (chgT t key (edPut key val) d).root := ⟨_, rfl⟩
     obtain ⟨N9, hN9⟩ : ∃ n, n = (chgT t key (edPut key val) d).next := ⟨_, rfl⟩
     dsimp only [tv]
     rw [← hL9, ← hR9, ← hN9]
     replace hL9 := hide hL9
     replace hR9 := hide hR9
     replace hN9 := hide hN9
     have O3 := hide o3
     replace hM := hide hM
     clear KG o3 b3 D3 C4 CF B4 B5
     go_wp2
     (try simp only [Exit.inBlock, Exit.then])
     refine retNT rfl rfl (w.heap.size + 1 + 1 + 1) rfl _ _ (0, 0) (heap_set3t HD3.out _ _ _) _ Tryz.underlying27 rfl info_tr _ rfl ?_
     have ks := fun e (he : e ≠ 27) => s3_keep9 HD3.out (.int .i64 R9) (.int .i64 N9) (.slice a3 L9 c3) he
     refine .inr ⟨chgT t key (edPut key val) d, .slice a3 L9 c3, by rw [hR9.out, hN9.out]; rfl, ?_, below_set3t B3.out (show w.heap.size ≤ w.heap.size + 1 + 1 + 1 by omega) _ _ _, hO.out.1, s.prs, hps.out, hC.out⟩
     exact OwnPg.base (O3.out.keepT (ks _ (by decide)) (ks _ (by decide))) BX.out.size
    ·have D3 := (b3.block _ (lt_of_block HD4.out)).trans HD4.out
     have HD3 := hide D3
     obtain ⟨⟨J0, J1, J2⟩, JF⟩ := cells3p D3
     have B3 := hide (BX.out.trans (b3.mono BX.out.size))
     have hN : Hid (65495 < t.next) := by
      show _ < _
      have h1 := chgR_len (t := t) (key := key) (ed := edPut key val) (ttop_deep hTT.out r5)
      omega
     replace hM := hide hM
     clear KG b3 D3 C4 CF B4 B5
     dsimp only [tv]
     go_wp2
     (try simp only [Exit.inBlock, Exit.then])
     refine retNT rfl rfl (w.heap.size + 1 + 1 + 1) rfl _ _ (0, 0) (heap_set3t HD3.out _ _ _) _ Tryz.underlying27 rfl info_tr _ rfl ?_
     exact .inl ⟨51, rfl, by decide, .inr ⟨rfl, hO.out.1, hN.out⟩, below_set3t B3.out (show w.heap.size ≤ w.heap.size + 1 + 1 + 1 by omega) _ _ _⟩
 ·have hne : (err != 0) = true := by rcases r2 with ⟨_, rfl⟩ | ⟨_, _, _, rfl⟩ <;> rfl
  have HR : Hid (err ≠ 0 ∧ err = perr t key val) := by
   rcases r2 with ⟨q, rfl⟩ | ⟨l, q1, q2, rfl⟩
   ·exact ⟨by decide, (perr_none q).symm⟩
   ·exact ⟨by decide, (perr_key q1 q2).symm⟩
  have HF := hide ((r3.block _ (lt_of_block HE.out.2.2.2)).trans HE.out.2.2.2)
  obtain ⟨⟨J0, J1, J2⟩, JF⟩ := cells3p HF.out
  have B1 := hide (BX.out.trans (r3.mono BX.out.size))
  clear r2 r3
  go_wp2
  (try simp only [Exit.inBlock, Exit.then])
  refine retNT rfl rfl (w.heap.size + 1 + 1 + 1) rfl _ _ (0, 0) (heap_set3t HF.out _ _ _) _ Tryz.underlying27 rfl info_tr _ rfl ?_
  exact .inl ⟨err, rfl, HR.out.1, .inl HR.out.2, below_set3t B1.out (show w.heap.size ≤ w.heap.size + 1 + 1 + 1 by omega) _ _ _⟩
end Go.Proofs.YtgmkknonnidgaaaGreat

namespace Go.Proofs.YtgmkknonnidgaaaGreat
open Go.RowKit
set_option maxRecDepth 100000 in
set_option maxHeartbeats 8000000 in
theorem pdel_any (w : World) (t : Tr) (pv : Value) (key : Str) (h : RdC w pv t.pages) (hx : ∀ x ∈ t.pages, x.2.length ≤ 140737488351232) (hroot : (Lit.int .i64 t.root).wf = true) (hkl : key.length ≤ 9223372036854775807) :
  Calls Tryz.prog 22 #[tv t pv, st key] w fun e w' => DelA w w' t key e := by
 obtain ⟨W1, hW1, D1, b1, s1⟩ := boxedN w #[.int .i64 t.root, .int .i64 t.next, pv] 27
 obtain ⟨X, hX, D4, b4, s4⟩ := boxedN W1 #[.int .i64 0, .int .i64 0, .slice none 0 0] 27
 have bX := b1.trans (b4.mono b1.size)
 have E1 := (b4.block _ (lt_of_block D1)).trans D1
 rw [s1] at D4
 have sX : X.heap.size = w.heap.size + 1 + 1 := by rw [s4, s1]
 have KW := hide (pwalkfor_any X t pv key hkl (h.to0 bX) hroot)
 obtain ⟨pa, pc, rfl⟩ := h.slice
 have HE := hide D4
 have BX := hide bX
 obtain ⟨⟨A0, A1, A2⟩, AF⟩ := cells3p E1
 rw [hX, hW1] at A0 A1 A2 AF KW
 dsimp only [tv] at KW ⊢
 replace hx := hide hx
 replace sX := hide sX
 clear D1 b1 D4 b4 bX E1 h s1 s4
 go_enter Tryz.func22, Tryz.ntmps22
 go_wp2_with fail
 refine KW.out.mono ?_
 rintro e w1 hp
 rw [← hW1, ← hX] at hp
 clear A0 A1 A2 AF KW
 replace hX := hide hX
 replace hW1 := hide hW1
 rcases hp with ⟨g, bm, B, s, m, rfl, r2, r3, r4, r5, P1, hB1⟩ | ⟨err, rfl, r2, r3⟩
 ·have hps := tprs_of r3 r4 r5
  have F4 := (P1.bel.block _ (lt_of_block HE.out)).trans HE.out
  have KV := hide (pvalue_any X w1 B g bm t _ s m key P1 hB1 hroot r4)
  rw [valOf_has] at KV
  obtain ⟨TH, hTH⟩ : ∃ b, b = phas s.prs key := ⟨_, rfl⟩
  rw [← hTH] at KV
  have HP := hide (And.intro P1 F4)
  have hgB : Hid (X.heap.size ≤ g ∧ g < B) := P1.hg
  replace hps := hide hps
  replace r2 := hide r2
  replace r3 := hide r3
  replace r4 := hide r4
  replace hTH := hide hTH
  clear F4 P1
  go_wp2_with fail
  refine KV.out.mono ?_
  rintro e w2 ⟨rfl, b2⟩
  obtain ⟨P1, F4⟩ := HP.out
  have P2 := P1.to b2
  have G4 := (b2.block _ (lt_of_block F4)).trans F4
  have hB2 : B ≤ w2.heap.size := Nat.le_trans hB1 b2.size
  obtain ⟨d, hTT, hseen⟩ := ttop_seen r4.out
  have hTN := (tprs_num hps.out).1
  have B2 := hide (BX.out.trans (P2.bel.mono BX.out.size))
  have HG4 := hide G4
  cases TH with
  | false =>
   have hlen : t.pages.length ≤ 65536 := by have := tups_len r3.out.2.2 r3.out.1; have := r3.out.2.1; omega
   have KC := hide (pcopied_any w2 t (.slice pa t.pages.length pc) (P2.pg.to0 P2.bel) hlen hx.out)
   obtain ⟨⟨C0, C1, C2, C3⟩, ⟨C4, C5⟩, CF⟩ := P2.cell
   replace hTT := hide hTT
   replace hseen := hide hseen
   replace hTN := hide hTN
   dsimp only [tv] at KC
   clear P1 F4 HP KV b2 P2 G4 C3 C4 C5 hlen
   go_wp2_with fail
   refine KC.out.mono ?_
   rintro e w3 ⟨pv3, rfl, o3, b3⟩
   obtain ⟨a3, c3, h3⟩ := o3.shape
   subst h3
   have D3 := (b3.block _ (lt_of_block HG4.out)).trans HG4.out
   have HD3 := hide D3
   obtain ⟨⟨J0, J1, J2⟩, JF⟩ := cells3p D3
   have B3 := hide (B2.out.trans (b3.mono B2.out.size))
   have O3 := hide o3
   clear KC o3 b3 D3 CF C0 C1 C2
   dsimp only [tv]
   go_wp2
   (try simp only [Exit.inBlock, Exit.then])
   refine retNTT rfl rfl (w.heap.size + 1) rfl _ _ (0, 0) (heap_set3t HD3.out _ _ _) _ Tryz.underlying27 rfl info_tr _ rfl _ rfl ?_
   have ks := fun e (he : e ≠ 27) => s3_keep9 HD3.out (.int .i64 t.root) (.int .i64 t.next) (.slice a3 t.pages.length c3) he
   refine .inr ⟨t, .slice a3 t.pages.length c3, s.prs, by rw [← hTH.out]; rfl, ?_, below_set3t B3.out (show w.heap.size ≤ w.heap.size + 1 by omega) _ _ _, r2.out, hps.out, ?_⟩
   ·exact OwnPg.base (O3.out.keepT (ks _ (by decide)) (ks _ (by decide))) B2.out.size
   ·rw [pdel_none hTH.out.symm]
    exact Chg.same hps.out
  | true =>
   have KG := hide (pchanged_any X w2 B g bm t (.slice pa t.pages.length pc) s m key 40 #[] (edDel key) (pdel key) (KIn key) d P2 hB2 hroot r4.out r3.out r5 hTT hseen hx.out (del_ed key) kin_mid (phas_kin hTH.out.symm)
    (del_cl hB2) (fun args u => Tryz.call40 args u) hTN)
   replace hTT := hide hTT
   replace hseen := hide hseen
   replace hTN := hide hTN
   clear P1 F4 HP KV b2 P2 G4
   go_wp2_with fail
   refine KG.out.mono ?_
   rintro e w3 hc
   rcases hc with ⟨pv3, hM, rfl, o3, b3⟩ | ⟨hM, rfl, b3⟩
   ·have hC := hide (chg_is hTN.out hTT.out r5 (del_ed key) hM (Nat.le_trans (pdel_len key s.prs) r5))
    obtain ⟨a3, c3, h3⟩ := o3.shape
    subst h3
    have D3 := (b3.block _ (lt_of_block HE.out)).trans HE.out
    have B3 := hide (BX.out.trans (b3.mono BX.out.size))
    obtain ⟨L9, hL9⟩ : ∃ n, n = (chgT t key (edDel key) d).pages.length := ⟨_, rfl⟩
    rw [← hL9] at o3
    obtain ⟨R9, hR9⟩ : ∃ n, n = (chgT t key (edDel key) d).root := ⟨_, rfl⟩
    obtain ⟨N9, hN9⟩ : ∃ n, n = (chgT t key (edDel key) d).next := ⟨_, rfl⟩
    dsimp only [tv]
    rw [← hL9, ← hR9, ← hN9]
    replace hL9 := hide hL9
    replace hR9 := hide hR9
    replace hN9 := hide hN9
    obtain ⟨Y, hY, DY, bY, sY⟩ := boxedN w3 #[.int .i64 R9, .int .i64 N9, .slice a3 L9 c3] 27
    have RY := (bY.block _ (lt_of_block D3)).trans D3
    have OY := o3.to9 bY
    have ks := fun e (he : e ≠ 27) => s3_keep9 RY (.int .i64 R9) (.int .i64 N9) (.slice a3 L9 c3) he
    have OF := hide (OwnPg.base (OwnX.keepT OY (ks _ (by decide)) (ks _ (by decide))) BX.out.size)
    have BF := hide (below_set3t (B3.out.trans (bY.mono B3.out.size)) (show w.heap.size ≤ w.heap.size + 1 by omega) (.int .i64 R9) (.int .i64 N9) (.slice a3 L9 c3))
    obtain ⟨⟨L0, L1, L2⟩, LF⟩ := cells3p DY
    obtain ⟨⟨M0, M1, M2⟩, MF⟩ := cells3p RY
    have HRZ := hide RY
    rw [hY] at L0 L1 L2 LF M0 M1 M2 MF HRZ OF BF
    replace hM := hide hM
    clear KG o3 b3 D3 RY OY ks DY bY hY sY
    go_wp2
    (try simp only [Exit.inBlock, Exit.then])
    refine retNTT rfl rfl (w.heap.size + 1) rfl _ _ (0, 0) (heap_set3t HRZ.out _ _ _) _ Tryz.underlying27 rfl info_tr _ rfl _ rfl ?_
    refine .inr ⟨chgT t key (edDel key) d, .slice a3 L9 c3, s.prs, by rw [← hTH.out, hR9.out, hN9.out]; rfl, OF.out, BF.out, r2.out, hps.out, hC.out⟩
   ·have D3 := (b3.block _ (lt_of_block HE.out)).trans HE.out
    have B3 := hide (BX.out.trans (b3.mono BX.out.size))
    obtain ⟨Y, hY, DY, bY, sY⟩ := boxedN w3 #[.int .i64 0, .int .i64 0, .slice none 0 0] 27
    have RY := (bY.block _ (lt_of_block D3)).trans D3
    have BF := hide (below_set3t (B3.out.trans (bY.mono B3.out.size)) (show w.heap.size ≤ w.heap.size + 1 by omega) (.int .i64 0) (.int .i64 0) (.slice none 0 0))
    have hN : Hid (65495 < t.next) := by
     show _ < _
     have h1 := chgR_len (t := t) (key := key) (ed := edDel key) (ttop_deep hTT.out r5)
     omega
    obtain ⟨⟨L0, L1, L2⟩, LF⟩ := cells3p DY
    obtain ⟨⟨M0, M1, M2⟩, MF⟩ := cells3p RY
    have HRZ := hide RY
    rw [hY] at L0 L1 L2 LF M0 M1 M2 MF HRZ BF
    replace hM := hide hM
    clear KG b3 D3 RY DY bY hY sY
    dsimp only [tv]
    go_wp2
    (try simp only [Exit.inBlock, Exit.then])
    refine retNTT rfl rfl (w.heap.size + 1) rfl _ _ (0, 0) (heap_set3t HRZ.out _ _ _) _ Tryz.underlying27 rfl info_tr _ rfl _ rfl ?_
    exact .inl ⟨51, rfl, by decide, .inr (.inr ⟨⟨_, hps.out⟩, r2.out, rfl, hN.out⟩), BF.out⟩
 ·have hne : (err != 0) = true := by rcases r2 with ⟨_, rfl⟩ | ⟨_, _, _, rfl⟩ <;> rfl
  have HR : Hid (err ≠ 0 ∧ ((tprs t = none ∧ err = 9) ∨ ((∃ ps, tprs t = some ps) ∧ tkey key = false ∧ err = 91))) := by
   rcases r2 with ⟨q, rfl⟩ | ⟨l, q1, q2, rfl⟩
   ·exact ⟨by decide, .inl ⟨q, rfl⟩⟩
   ·exact ⟨by decide, .inr ⟨⟨l, q1⟩, q2, rfl⟩⟩
  have HF := hide ((r3.block _ (lt_of_block HE.out)).trans HE.out)
  obtain ⟨⟨J0, J1, J2⟩, JF⟩ := cells3p HF.out
  have B1 := hide (BX.out.trans (r3.mono BX.out.size))
  clear r2 r3
  go_wp2
  (try simp only [Exit.inBlock, Exit.then])
  refine retNTT rfl rfl (w.heap.size + 1) rfl _ _ (0, 0) (heap_set3t HF.out _ _ _) _ Tryz.underlying27 rfl info_tr _ rfl _ rfl ?_
  exact .inl ⟨err, rfl, HR.out.1, HR.out.2.elim .inl (fun q => .inr (.inl q)), below_set3t B1.out (show w.heap.size ≤ w.heap.size + 1 by omega) _ _ _⟩
end Go.Proofs.YtgmkknonnidgaaaGreat

namespace Go.Proofs.YtgmkknonnidgaaaGreat
open Go.RowKit
theorem kin_lo {lo : Str} {hi : Option Str} {k : Str} (h : kin lo hi k = true) : slt k lo = false := by
 simp only [kin, Bool.and_eq_true, Bool.not_eq_true'] at h
 exact h.1
theorem kin_some {lo b : Str} {k : Str} (h : kin lo (some b) k = true) : slt k b = true := by
 simp only [kin, Bool.and_eq_true] at h
 exact h.2
theorem Seg.low {l : List Wrt} {d : Nat} : ∀ {bs : List Br} {lo : Str} {hi : Option Str}, Seg l d lo hi bs → ∀ y ∈ sprs l d bs, slt y.1 lo = false
 | [], _, _, k => k.elim
 | [b], lo, hi, k => fun y hy => kin_lo (TOk.kin k y (by simpa [sprs] using hy))
 | b :: c :: r, lo, hi, k => fun y hy => by
  have e : sprs l d (b :: c :: r) = pOf l d b.2 ++ sprs l d (c :: r) := by simp [sprs]
  rw [e, List.mem_append] at hy
  rcases hy with hy | hy
  ·exact kin_lo (TOk.kin k.1 y hy)
  ·have h1 := Seg.low k.2 y hy
   have h2 := TOk.room k.1
   exact slt_trans_le (slt_asym h2) h1
theorem seg_rise {l : List Wrt} {d : Nat} (ih : ∀ {id : Int} {lo : Str} {hi : Option Str}, TOk l d id lo hi → Rise ((pOf l d id).map (·.1))) : ∀ {bs : List Br} {lo : Str} {hi : Option Str}, Seg l d lo hi bs → Rise ((sprs l d bs).map (·.1))
 | [], _, _, k => k.elim
 | [b], lo, hi, k => by
  have e : sprs l d [b] = pOf l d b.2 := by simp [sprs]
  rw [e]
  exact ih k
 | b :: c :: r, lo, hi, k => by
  have e : sprs l d (b :: c :: r) = pOf l d b.2 ++ sprs l d (c :: r) := by simp [sprs]
  rw [e, List.map_append]
  refine List.pairwise_append.2 ⟨ih k.1, seg_rise ih k.2, fun a ha x hx => ?_⟩
  obtain ⟨y, hy, rfl⟩ := List.mem_map.1 ha
  obtain ⟨z, hz, rfl⟩ := List.mem_map.1 hx
  exact slt_lt_le (kin_some (TOk.kin k.1 y hy)) (Seg.low k.2 z hz)
theorem tok_rise {l : List Wrt} : ∀ {d : Nat} {id : Int} {lo : Str} {hi : Option Str}, TOk l d id lo hi → Rise ((pOf l d id).map (·.1))
 | 0, id, lo, hi, h => by
  obtain ⟨nd, _, ⟨ps, rfl, hp, _⟩, _, e⟩ := tok_no h
  rw [e]
  show Rise ((npr (lf ps)).map (·.1))
  rw [npr_lf]
  exact hp.1
 | d + 1, id, lo, hi, h => by
  obtain ⟨nd, _, ⟨bs, rfl, _, sg⟩, _, e⟩ := tok_no h
  rw [e]
  show Rise (((inr bs).kids.flatMap (pOf l d)).map (·.1))
  rw [sprs_inr]
  exact seg_rise (fun h => tok_rise h) sg
theorem tprs_rise {t : Tr} {ps : List Pr} (h : tprs t = some ps) : Rise (ps.map (·.1)) := by
 obtain ⟨_, _, s, hs, e⟩ := tprs_num h
 obtain ⟨d, hT⟩ := ttop_of hs
 rw [e] at hT
 rcases hT with ⟨_, _, rfl⟩ | ⟨_, _, hk, _, rfl⟩
 ·exact List.Pairwise.nil
 ·exact tok_rise hk
theorem pdel_snoc (k : Str) (l : List Pr) {i : Nat} {y : Pr} (h : l[i]? = some y) : pdel k (l.take (i + 1)) = if (y.1 == k) = true then pdel k (l.take i) else pdel k (l.take i) ++ [y] := by
 unfold pdel
 rw [List.take_add_one, h, List.filter_append]
 by_cases e : (y.1 == k) = true
 ·rw [if_pos e]; simp [List.filter_cons, e]
 ·rw [if_neg e]; simp [List.filter_cons, e]
theorem pdel_less (k : Str) : ∀ l : List Pr, decide ((pdel k l).length < l.length) = phas l k
 | [] => rfl
 | y :: r => by
  have ih := pdel_less k r
  have h1 := pdel_len k r
  unfold pdel phas at *
  rw [List.filter_cons, List.any_cons]
  cases e : (y.1 == k) with
  | true =>
   simp only [Bool.not_true, Bool.false_eq_true, if_false, Bool.true_or, decide_eq_true_eq, List.length_cons]
   omega
  | false =>
   simp only [Bool.not_false, if_true, Bool.false_or, List.length_cons]
   rw [← ih]
   apply decide_eq_decide.2
   omega
set_option maxRecDepth 100000 in
set_option maxHeartbeats 2000000 in
theorem rwo_any (w : World) (v : Value) (l : List Pr) (key : Str) (h : RdP w v l) (hl : l.length ≤ 1000000) :
  Calls Tryz.prog 23 #[v, st key] w fun e w' => ∃ v', e = .returned (.tuple #[v', .bool (phas l key)]) ∧ OwnP w.heap.size w' v' (pdel key l) ∧ Below w.heap.size w w' := by
 obtain ⟨a, c, rfl⟩ := h.slice
 obtain ⟨L, hL⟩ : ∃ L, L = l.length := ⟨_, rfl⟩
 rw [← hL] at h hl ⊢
 replace hL := hide hL
 have HH := hide h
 clear h
 go_enter Tryz.func23, Tryz.ntmps23
 go_wp2
 go_loopw [6, 7] (fun o p wr => ∃ i : Nat, i ≤ L ∧ p = .int .i64 i ∧ Hid (OwnP w.heap.size wr o (pdel key (l.take i)) ∧ Below w.heap.size w wr)) (fun _ p _ => L - (intOf p).toNat)
 case atStart => exact ⟨0, Nat.zero_le _, rfl, hide ⟨World.ownsRow_nil _ _ _ _, Below.refl _ _⟩⟩
 case round =>
  obtain ⟨i, hi, rfl, hI⟩ := hrel
  by_cases hlt : i < L
  ·have hq : (i : Int) < (L : Int) := by omega
   obtain ⟨y, hy⟩ := some_el l (k := i) (by rw [← hL.out]; exact hlt)
   obtain ⟨b, off, rfl, hc1, hc2⟩ := (HH.out.to0 hI.out.2).prAt hy
   have hS := hide (pdel_snoc key l hy)
   have hN : Hid ((pdel key (l.take i)).length ≤ i) := by
    show _ ≤ _
    have h1 := pdel_len key (l.take i)
    have h2 := List.length_take_le i l
    omega
   obtain ⟨out, hs⟩ : ∃ s, s = pdel key (l.take i) := ⟨_, rfl⟩
   rw [← hs] at hI hS hN
   replace hs := hide hs
   replace hy := hide hy
   obtain ⟨y1, y2⟩ := y
   dsimp only at hc1 hc2
   cases he : (y1 == key) with
   | true =>
    rw [if_pos he] at hS
    go_wp2
    go_roundw
    case rel => exact ⟨i + 1, by omega, by go_num, by rw [hS.out]; exact hI⟩
    case measure => simp [intOf]; omega
   | false =>
    rw [if_neg (by simp [he])] at hS
    obtain ⟨V, hV, D, bV, sV⟩ := boxedN wr #[st y1, st y2] 62
    obtain ⟨⟨C0, C1⟩, _⟩ := cells2r D
    have OW := rows_to hI.out.1 bV
    have BB := hide (hI.out.2.trans (bV.mono hI.out.2.size))
    have hn : (out.length + 1) * 32 ≤ 140737488355328 := by have := hN.out; omega
    have hB2 : w.heap.size ≤ V.heap.size := BB.out.size
    rw [hV] at C0 C1 OW hB2
    replace C0 := hide C0
    replace C1 := hide C1
    replace OW := hide OW
    clear D bV
    go_wp2_with (at_builtin; refine wpList_appP rfl _ _ rfl w.heap.size _ out (y1, y2) wr.heap.size rfl rfl OW.out C0.out C1.out hn hB2 ?_; intro v1 w3 o1 b1 _)
    replace o1 := hide o1
    rw [← hV] at b1
    have B3 := hide (BB.out.trans b1)
    clear b1
    go_wp2
    go_roundw
    case rel => exact ⟨i + 1, by omega, by go_num, by rw [hS.out]; exact ⟨o1.out, B3.out⟩⟩
    case measure => simp [intOf]; omega
  ·have hq : ¬ (i : Int) < (L : Int) := by omega
   have ht : l.take i = l := List.take_of_length_le (by rw [← hL.out]; omega)
   rw [ht] at hI
   obtain ⟨oa, oc, ho⟩ := (OwnP.rd hI.out.1).slice
   obtain ⟨M, hM⟩ : ∃ n, n = (pdel key l).length := ⟨_, rfl⟩
   have hr := pdel_less key l
   rw [← hM, ← hL.out] at hr
   rw [← hM] at ho
   subst ho
   replace hM := hide hM
   replace hr := hide hr
   go_wp2
   go_ret2
   exact ⟨.slice oa M oc, congrArg (fun b => Ending.returned (.tuple #[.slice oa M oc, .bool b])) hr.out, hI.out.1, hI.out.2⟩
set_option maxRecDepth 100000 in
set_option maxHeartbeats 2000000 in
theorem rputerr_any (w : World) (t : Tr) (pv : Value) (k v : Str) (hk : k.length ≤ 9223372036854775807) (hv : v.length ≤ 9223372036854775807) (h : RdC w pv t.pages) : Calls Tryz.prog 21 #[tv t pv, st k, st v] w fun e w' =>
  e = .returned (.int .i64 (perr t k v)) ∧ Below w.heap.size w w' := by
 obtain ⟨W, hW, D, bW, sW⟩ := boxedN w #[.int .i64 t.root, .int .i64 t.next, pv] 40
 have KN := hide (rprs_any W t pv (h.to0 bW))
 obtain ⟨a, c, rfl⟩ := h.slice
 obtain ⟨⟨D0, D1, D2⟩, _⟩ := cells3p D
 have HB := hide bW
 rw [hW] at D0 D1 D2 KN
 dsimp only [tv] at KN ⊢
 clear h bW D sW
 generalize t.root = root at *
 generalize t.next = next at *
 generalize t.pages.length = L at *
 obtain ⟨R, hR⟩ : ∃ R, R = perr t k v := ⟨_, rfl⟩
 rw [← hR]
 replace hR := hide hR
 go_enter Tryz.func21, Tryz.ntmps21
 go_wp2_with fail
 refine KN.out.mono ?_
 rintro e w1 ⟨pv1, err, rfl, hp, b1⟩
 rw [← hW] at b1
 have B1 := hide (HB.out.trans (b1.mono HB.out.size))
 clear b1 KN HB hW D0 D1 D2
 rcases hp with ⟨l, h1, rfl, h3⟩ | ⟨h1, rfl, rfl⟩
 ·have KK := hide (rkey_any w1 k hk)
  have KH := hide (rhas10_any w1 _ l k (OwnP.rd h3))
  obtain ⟨pa, pc, rfl⟩ := (OwnP.rd h3).slice
  obtain ⟨M, hM⟩ : ∃ M, M = l.length := ⟨_, rfl⟩
  rw [← hM] at KH ⊢
  replace hM := hide hM
  replace h1 := hide h1
  clear h3
  go_wp2_with fail
  refine KK.out.mono ?_
  rintro e w2 ⟨rfl, rfl⟩
  cases ht : tkey k with
  | false =>
   have hr : Hid (R = 91) := by show _ = _; rw [hR.out]; exact perr_key h1.out ht
   go_wp2
   go_ret
   exact ⟨ret_i hr.out.symm, B1.out⟩
  | true =>
   replace ht := hide ht
   by_cases h6 : 64 < v.length
   ·have hr : Hid (R = 5) := by show _ = _; rw [hR.out]; exact perr_long h1.out ht.out h6
    have hq : (v.length : Int) > 64 := by omega
    go_wp2
    go_ret
    exact ⟨ret_i hr.out.symm, B1.out⟩
   ·have hq : ¬ (v.length : Int) > 64 := by omega
    by_cases h4 : 4096 ≤ M
    ·have hq4 : (M : Int) ≥ 4096 := by omega
     go_wp2_with fail
     refine KH.out.mono ?_
     rintro e w2 ⟨rfl, rfl⟩
     cases hh : phas l k with
     | true =>
      have hr : Hid (R = 0) := by show _ = _; rw [hR.out]; exact perr_ok h1.out ht.out h6 (fun q => by rw [hh] at q; exact absurd q.2 (by simp))
      go_wp2
      go_ret
      exact ⟨ret_i hr.out.symm, B1.out⟩
     | false =>
      have hr : Hid (R = 51) := by show _ = _; rw [hR.out]; exact perr_full h1.out ht.out h6 (by rw [← hM.out]; exact h4) hh
      go_wp2
      go_ret
      exact ⟨ret_i hr.out.symm, B1.out⟩
    ·have hq4 : ¬ (M : Int) ≥ 4096 := by omega
     have hr : Hid (R = 0) := by show _ = _; rw [hR.out]; exact perr_ok h1.out ht.out h6 (fun q => h4 (by rw [hM.out]; exact q.1))
     go_wp2
     go_ret
     exact ⟨ret_i hr.out.symm, B1.out⟩
 ·have hr : Hid (R = 9) := by show _ = _; rw [hR.out]; exact perr_none h1
  go_wp2
  go_ret
  exact ⟨ret_i hr.out.symm, B1.out⟩
end Go.Proofs.YtgmkknonnidgaaaGreat

namespace Go.Proofs.YtgmkknonnidgaaaGreat
open Go.RowKit
abbrev OwnPr (B : Nat) (w : World) (v : Value) (ws : List Wrt) : Prop := OwnX 82 B w v ws
theorem infoPr10 : (Tryz.prog.info? 82).map (fun i => (i.zero, i.size, i.bytes)) = some (some (.agg #[.int .i64 0, .slice none 0 0]), 2, 32) := by kernel_rfl
theorem info_tr9 : (Tryz.prog.info? 40).map (·.size) = some 3 := by kernel_rfl
theorem wpList_appPr {ops : Array Oper} {rest : List Oper} {o : Oper} {a : Act} {w : World} {Q : Exit → Act → World → Prop} (hgd : o.guard = none) (s x : Operand)
  (ho : o.op = .call { callee := .builtin .append, args := #[s, x], argTypes := #[38, 38] }) (B : Nat) (v : Value) (ws : List Wrt) (f : Wrt) (sv : Value) (g : Nat) (hs : a.eval s = v) (hx : a.eval x = .slice (some ⟨g, 0, none⟩) 1 1)
  (hown : OwnPr B w v ws) (hsv : OwnB B w sv f.2) (hone : sv.oneCell' = true) (hc1 : w.cell? ⟨g, 0, none⟩ = some (.int .i64 f.1)) (hc2 : w.cell? ⟨g, 1, none⟩ = some sv) (hlen : (ws.length + 1) * 32 ≤ 140737488355328) (hB : B ≤ w.heap.size)
  (h : ∀ v' w', OwnPr B w' v' (ws ++ [f]) → w.grownBy w' v.ownBlock → Below B w w' → (∀ e, e ≠ 82 → KeepT e w w') → wpList Tryz.prog ops Q rest (a.put o.dst v') w') : wpList Tryz.prog ops Q (o :: rest) a w := by
 obtain ⟨i0, hi, hz0, hz1, hz2⟩ := info_parts infoPr10
 obtain ⟨svs, h1, h2, h3⟩ := hown
 have n2 : ∀ j u, [Value.int .i64 f.1, sv][j]? = some u → w.cell? ((⟨g, 0, none⟩ : Addr).add j) = some u := by
  intro j u hj
  match j, hj with
  | 0, hj => simp at hj; subst hj; simpa [Addr.add] using hc1
  | 1, hj => simp at hj; subst hj; simpa [Addr.add] using hc2
  | j + 2, hj => simp at hj
 refine wpList_append_own _ hgd s x 38 ho B 82 i0 (.agg #[.int .i64 0, .slice none 0 0]) 2 32 Tryz.underlying38 hi hz0 hz1 hz2 rfl (by decide) v ws.length (wcells ws svs) hs h2 ⟨g, 0, none⟩ 1 1 [.int .i64 f.1, sv] hx rfl n2
  (fun u hu => by simp at hu; rcases hu with rfl | rfl; rfl; exact hone) (by rw [show maxLen = 9223372036854775807 from rfl]; omega) hlen hB ?_
 intro v' w' q1 q2 _
 exact h v' w' (OwnX.snoc (by decide) h1 h2 h3 hsv q2 (by simpa using q1)) q2 ((Below.refl _ _).grown q2 hB (fun k hk => (World.ownsRow.lt h2 k hk).1)) (fun e he => KeepT.grown h2 q2 he)
set_option maxRecDepth 100000 in
set_option maxHeartbeats 4000000 in
theorem ppg10_any (w : World) (t : Tr) (pv : Value) (h : RdC w pv t.pages) (hl : (t.pages.length + 1) * 32 ≤ 140737488355328) (hx : ∀ x ∈ t.pages, x.2.length ≤ 140737488351232) :
  Calls Tryz.prog 11 #[tv t pv] w fun e w' => ∃ pv', e = .returned (tv t pv') ∧ OwnPr w.heap.size w' pv' t.pages ∧ Below w.heap.size w w' := by
 obtain ⟨root, next, ps⟩ := t
 obtain ⟨a, c, rfl⟩ := h.slice
 dsimp only [tv] at *
 obtain ⟨W, hW, DW, bW, sW⟩ := boxedN w #[.int .i64 root, .int .i64 next, .slice a ps.length c] 27
 obtain ⟨X, hX, DX, bX, sX⟩ := boxedN W #[.int .i64 0, .int .i64 0, .slice none 0 0] 40
 obtain ⟨Y, hY, DY, bY, sY⟩ := boxedN X #[.int .i64 root, .int .i64 next, .slice none 0 0] 40
 have bWX := bW.trans (bX.mono bW.size)
 have bWY := bWX.trans (bY.mono bWX.size)
 have O1 : OwnPr Y.heap.size Y (.slice none 0 0) [] := ⟨[], rfl, World.ownsRow_nil _ _ _ _, fun i hi => by simp at hi⟩
 have D0 := (bX.block _ (lt_of_block DW)).trans DW
 obtain ⟨⟨E0, E1, E2⟩, EF⟩ := cells3p D0
 have D1 := (bY.block _ (lt_of_block D0)).trans D0
 have X1 := (bY.block _ (lt_of_block DX)).trans DX
 have HH := hide h
 have HY := hide bWY
 have hBX := hide D1
 have hRX := hide X1
 have hOX := hide DY
 rw [sW] at hRX
 rw [sX, sW] at hOX
 have hsz : Hid (Y.heap.size = w.heap.size + 1 + 1 + 1) := by show _ = _; rw [sY, sX, sW]
 have HI : Hid (OwnPr Y.heap.size Y (.slice none 0 0) (ps.take 0) ∧ Y.heap[w.heap.size + 1 + 1]? = some (.cells #[.int .i64 root, .int .i64 next, .slice none 0 0] 40 (0, 0)) ∧ Y.heap[w.heap.size]? = some (.cells #[.int .i64 root, .int .i64 next, .slice a ps.length c] 27 (0, 0)) ∧ Y.heap[w.heap.size + 1]? = some (.cells #[.int .i64 0, .int .i64 0, .slice none 0 0] 40 (0, 0)) ∧ Below w.heap.size w Y) := ⟨O1, hOX.out, hBX.out, hRX.out, bWY⟩
 rw [hX, hW] at E0 E1 E2 EF
 clear h bW bX DW DX D1 X1 O1 bWX bWY DY D0 bY
 go_enter Tryz.func11, Tryz.ntmps11
 go_wp2
 rw [← hW, ← hX, ← hY]
 replace hX := hide hX
 replace hW := hide hW
 replace hY := hide hY
 clear E0 E1 E2 EF hBX hRX hOX
 go_loopw [4] (fun p wr => ∃ k : Nat, k ≤ ps.length ∧ p = .int .i64 k ∧ ∃ v, Hid (OwnPr Y.heap.size wr v (ps.take k) ∧ wr.heap[w.heap.size + 1 + 1]? = some (.cells #[.int .i64 root, .int .i64 next, v] 40 (0, 0)) ∧ wr.heap[w.heap.size]? = some (.cells #[.int .i64 root, .int .i64 next, .slice a ps.length c] 27 (0, 0)) ∧ wr.heap[w.heap.size + 1]? = some (.cells #[.int .i64 0, .int .i64 0, .slice none 0 0] 40 (0, 0)) ∧ Below w.heap.size w wr)) (fun p _ => ps.length - (intOf p).toNat)
 case atStart => exact ⟨0, Nat.zero_le _, rfl, _, HI⟩
 case round =>
  obtain ⟨k, hk, rfl, v, hI⟩ := hrel
  clear HI
  obtain ⟨oa, oc, ho⟩ := hI.out.1.shape
  rw [List.length_take, Nat.min_eq_left hk] at ho
  subst ho
  obtain ⟨⟨A0, A1, A2⟩, AF⟩ := cells3p hI.out.2.2.1
  obtain ⟨⟨T0, T1, T2⟩, TF⟩ := cells3p hI.out.2.1
  by_cases hlt : k < ps.length
  ·have hq : (k : Int) < (ps.length : Int) := by omega
   obtain ⟨y, hy⟩ : ∃ y, ps[k]? = some y := ⟨_, List.getElem?_eq_getElem hlt⟩
   have hxl := hx y (List.mem_of_getElem? hy)
   have hsn := hide (take_snoc9 hy)
   obtain ⟨b, off, u, e1, hc1, hc2, hr⟩ := HH.out.wrt hy
   subst e1
   obtain ⟨z, x⟩ := y
   dsimp only at hc1 hc2 hr hxl
   obtain ⟨au, cu, rfl⟩ := hr.slice
   replace hc1 := (hI.out.2.2.2.2.cell (cell_lt hc1)).trans hc1
   replace hc2 := (hI.out.2.2.2.2.cell (cell_lt hc2)).trans hc2
   have bd : Below wr.heap.size wr wr.drew := below_drewN' wr 1 _
   have KC := hide (copy_any wr.drew _ x ((hr.to hI.out.2.2.2.2).to bd) (by omega))
   have hn : (k + 1) * 32 ≤ 140737488355328 := by omega
   have hlk : Hid ((ps.take k).length = k) := by show _ = _; rw [List.length_take, Nat.min_eq_left hk]
   obtain ⟨XL, hXL⟩ : ∃ XL, XL = x.length := ⟨_, rfl⟩
   rw [← hXL] at KC hc2
   replace hXL := hide hXL
   have d1 := (bd.cell (cell_lt hc1)).trans hc1
   have d2 := (bd.cell (cell_lt hc2)).trans hc2
   have d3 := (bd.cell (cell_lt A2)).trans A2
   have d4 := (bd.cell (cell_lt T2)).trans T2
   clear hr hy A0 A1 T0 T1
   go_upto_region 5 with fail
   clear A2 AF T2 TF hc1 hc2
   refine wp_region_mid (fun w' => w'.cell? ⟨b, off + k * 2, none⟩ = some (.int .i64 z) ∧ w'.cell? ⟨b, off + k * 2 + 1, none⟩ = some (.slice au XL cu) ∧ w'.cell? ⟨w.heap.size, 2, none⟩ = some (.slice (some ⟨b, off, none⟩) ps.length c) ∧ w'.cell? ⟨w.heap.size + 1 + 1, 2, none⟩ = some (.slice oa k oc)) 14 17 mixed (by kernel_rfl) (fun _ _ _ _ h => h) ⟨d1, d2, d3, d4⟩ ?_
   dsimp only [List.take, List.drop]
   iterate 14
    refine take_one (v := ?_) (by rfl) ?_ ?_
    rotate_left
    ·rintro w' ⟨s1, s2, s3, s4⟩
     go_simp
     try with_reducible rfl
    try simp only [Act.put, List.setIfInBounds_toArray, List.set_cons_zero, List.set_cons_succ]
   refine mid_one fun K hK => ?_
   refine step_call (by rfl) 30 _ _ (by rfl) #[.slice au XL cu] (by simp [Act.eval]) (Tryz.call30 _ _) KC.out ?_
   rintro e w2 ⟨v2, rfl, o2, b2⟩
   obtain ⟨va, vc, hv2⟩ := o2.rd.slice
   rw [← hXL.out] at hv2
   subst hv2
   have x1 := (b2.cell (cell_lt d1)).trans d1
   have x2 := (b2.cell (cell_lt d2)).trans d2
   have x3 := (b2.cell (cell_lt d3)).trans d3
   have x4 := (b2.cell (cell_lt d4)).trans d4
   refine ⟨_, rfl, hK _ _ ⟨x1, x2, x3, x4⟩ ?_⟩
   clear hK K
   have bw2 := bd.trans (b2.mono bd.size)
   have I2 := hide (And.intro (hI.out.1.to9 bw2) (And.intro ((bw2.block _ (lt_of_block hI.out.2.1)).trans hI.out.2.1) (And.intro ((bw2.block _ (lt_of_block hI.out.2.2.1)).trans hI.out.2.2.1) (And.intro ((bw2.block _ (lt_of_block hI.out.2.2.2.1)).trans hI.out.2.2.2.1) (hI.out.2.2.2.2.trans (bw2.mono hI.out.2.2.2.2.size))))))
   have O2 : Hid (OwnB Y.heap.size w2 (.slice va XL vc) x) := rows_mono o2 (by rw [hsz.out]; have := lt_of_block hI.out.2.1; have := bd.size; omega)
   have HS : Hid (Y.heap.size ≤ w2.heap.size) := by
    show _ ≤ _
    rw [hsz.out]
    have := lt_of_block hI.out.2.1
    have := bw2.size
    omega
   clear b2 o2 KC d1 d2 d3 d4 hI bw2 bd
   try simp only [Act.put, List.setIfInBounds_toArray, List.set_cons_zero, List.set_cons_succ]
   refine mid_one fun K hK => ?_
   rw [if_pos (by rfl)]
   go_simp
   refine hK _ _ ⟨x1, x2, x3, x4⟩ ?_
   clear hK K
   refine mid_one fun K hK => ?_
   rw [if_pos (by rfl)]
   go_simp
   refine hK _ _ ⟨cellAl9 x1 _, cellAl9 x2 _, cellAl9 x3 _, cellAl9 x4 _⟩ ?_
   clear hK K x1 x2 x3 x4
   show wpList _ _ _ _ _ _
   obtain ⟨Z, hZ, DZ, bZ, sZ⟩ := boxedN w2 #[.int .i64 z, .slice va XL vc] 82
   obtain ⟨⟨Z0, Z1⟩, _⟩ := cells2r DZ
   have OZ : OwnPr Y.heap.size Z (.slice oa k oc) (ps.take k) := I2.out.1.to9 bZ
   have SZ : OwnB Y.heap.size Z (.slice va XL vc) x := rows_to O2.out bZ
   have hB : Y.heap.size ≤ Z.heap.size := by have := HS.out; have := bZ.size; omega
   rw [hZ] at Z0 Z1 OZ SZ hB
   refine wpList_appPr rfl _ _ rfl Y.heap.size (.slice oa k oc) (ps.take k) (z, x) (.slice va XL vc) w2.heap.size rfl rfl OZ SZ rfl Z0 Z1 (by rw [hlk.out]; exact hn) hB ?_
   intro v5 w5 o5 g5 b5 _
   rw [← hZ] at b5
   rw [← hsn.out] at o5
   obtain ⟨na, nc, hv5⟩ := o5.shape
   generalize (ps.take (k + 1)).length = nl at hv5
   subst hv5
   have bZ2 := hide bZ
   have blk : ∀ j, j < Y.heap.size → ∀ o, w2.heap[j]? = some o → w5.heap[j]? = some o := fun j hj o ho => (b5.block j hj).trans ((bZ2.out.block j (lt_of_block ho)).trans ho)
   have T5 := blk _ (by rw [hsz.out]; omega) _ I2.out.2.1
   have A5 := blk _ (by rw [hsz.out]; omega) _ I2.out.2.2.1
   have R5 := blk _ (by rw [hsz.out]; omega) _ I2.out.2.2.2.1
   have bb5 : Below w.heap.size w w5 := (I2.out.2.2.2.2.trans (bZ2.out.mono I2.out.2.2.2.2.size)).trans (b5.mono (by rw [hsz.out]; omega))
   obtain ⟨⟨T0, T1, T2⟩, TF⟩ := cells3p T5
   have d0 := heap_setN T5 2 (.slice na nl nc)
   have D7 : (w5.setCell ⟨w.heap.size + 1 + 1, 2, none⟩ (.slice na nl nc)).heap[w.heap.size + 1 + 1]? = some (.cells #[.int .i64 root, .int .i64 next, (.slice na nl nc)] 40 (0, 0)) := by simpa using d0
   have A7 : (w5.setCell ⟨w.heap.size + 1 + 1, 2, none⟩ (.slice na nl nc)).heap[w.heap.size]? = _ := (Below.heap_setCell _ _ _ _ (show w.heap.size ≠ w.heap.size + 1 + 1 by omega)).trans A5
   have R7 : (w5.setCell ⟨w.heap.size + 1 + 1, 2, none⟩ (.slice na nl nc)).heap[w.heap.size + 1]? = _ := (Below.heap_setCell _ _ _ _ (show w.heap.size + 1 ≠ w.heap.size + 1 + 1 by omega)).trans R5
   have kk : ∀ e, e ≠ 40 → KeepT e w5 (w5.setCell ⟨w.heap.size + 1 + 1, 2, none⟩ (.slice na nl nc)) := fun e he => KeepT.set (a := ⟨w.heap.size + 1 + 1, 2, none⟩) T5 he _
   have I5 := hide (And.intro (o5.keepT (kk _ (by decide)) (kk _ (by decide))) (And.intro D7 (And.intro A7 (And.intro R7 (bb5.setCell (p := ⟨w.heap.size + 1 + 1, 2, none⟩) (show w.heap.size ≤ w.heap.size + 1 + 1 by omega) (.slice na nl nc))))))
   clear o5 g5 b5 Z0 Z1 OZ SZ hB DZ bZ hZ I2 O2 blk A5 R5 bb5 d0 D7 A7 R7 kk bZ2 T5 HS
   go_wp2
   go_roundw
   case rel => exact ⟨k + 1, by omega, by go_num, _, I5⟩
   case measure => simp [intOf]; omega
  ·have hq : ¬ (k : Int) < (ps.length : Int) := by omega
   obtain rfl : k = ps.length := by omega
   have htk : ps.take ps.length = ps := List.take_of_length_le (by omega)
   rw [htk] at hI
   have R6 := hI.out.2.2.2.1
   obtain ⟨⟨F0, F1, F2⟩, FF⟩ := cells3p R6
   have HR := hide R6
   have OO := hide (hI.out.1.keepT (s3_keep9 R6 (.int .i64 root) (.int .i64 next) (.slice oa ps.length oc) (by decide)) (s3_keep9 R6 (.int .i64 root) (.int .i64 next) (.slice oa ps.length oc) (by decide)))
   have BB := hide (below_set3t hI.out.2.2.2.2 (show w.heap.size ≤ w.heap.size + 1 by omega) (.int .i64 root) (.int .i64 next) (.slice oa ps.length oc))
   have hYw : Hid (w.heap.size ≤ Y.heap.size) := HY.out.size
   clear hI R6
   go_wp2
   refine retN rfl rfl (w.heap.size + 1) rfl _ _ (0, 0) (heap_set3t HR.out _ _ _) _ Tryz.underlying40 rfl info_tr9 ?_
   refine ⟨_, rfl, ?_, BB.out⟩
   exact OwnX.base OO.out hYw.out
end Go.Proofs.YtgmkknonnidgaaaGreat

namespace Go.Proofs.YtgmkknonnidgaaaGreat
open Go.RowKit
def PutB (B : Nat) (c : World) (t : Tr) (k v : Str) (u : Tr) (pv : Value) (err : Int) : Prop :=
 (err ≠ 0 ∧ (err = perr t k v ∨ (err = 51 ∧ perr t k v = 0 ∧ 65495 < t.next))) ∨
 (err = 0 ∧ perr t k v = 0 ∧ OwnPg B c pv u.pages ∧ ∃ ps, tprs t = some ps ∧ Chg t u (pins k v ps))
def DelB (B : Nat) (c : World) (t : Tr) (k : Str) (u : Tr) (pv : Value) (was : Bool) (err : Int) : Prop :=
 (err ≠ 0 ∧ (tprs t = none ∨ tkey k = false ∨ 65495 < t.next)) ∨
 (err = 0 ∧ tkey k = true ∧ OwnPg B c pv u.pages ∧ ∃ ps, tprs t = some ps ∧ was = phas ps k ∧ Chg t u (pdel k ps))
theorem PutA.to {w w' : World} {t : Tr} {k v : Str} {e : Ending} (h : PutA w w' t k v e) : ∃ u a n c err, e = .returned (.tuple #[.agg #[.int .i64 u.root, .int .i64 u.next, .slice a n c], .int .i64 err]) ∧ PutB w.heap.size w' t k v u (.slice a n c) err ∧ Below w.heap.size w w' := by
 rcases h with ⟨err, rfl, h1, h2, h3⟩ | ⟨u, pv, rfl, h1, h2, h3, h4⟩
 ·exact ⟨⟨0, 0, []⟩, _, _, _, err, rfl, .inl ⟨h1, h2⟩, h3⟩
 ·obtain ⟨a, c, hp⟩ := h1.shape
  subst hp
  exact ⟨u, _, _, _, 0, rfl, .inr ⟨rfl, h3, h1, h4⟩, h2⟩
theorem DelA.to {w w' : World} {t : Tr} {k : Str} {e : Ending} (h : DelA w w' t k e) : ∃ u a n c was err, e = .returned (.tuple #[.agg #[.int .i64 u.root, .int .i64 u.next, .slice a n c], .bool was, .int .i64 err]) ∧ DelB w.heap.size w' t k u (.slice a n c) was err ∧ Below w.heap.size w w' := by
 rcases h with ⟨err, rfl, h1, h2, h3⟩ | ⟨u, pv, ps, rfl, h1, h2, h3, h4, h5⟩
 ·refine ⟨⟨0, 0, []⟩, _, _, _, _, err, rfl, .inl ⟨h1, ?_⟩, h3⟩
  rcases h2 with ⟨q, _⟩ | ⟨_, q, _⟩ | ⟨_, _, _, q⟩
  ·exact .inl q
  ·exact .inr (.inl q)
  ·exact .inr (.inr q)
 ·obtain ⟨a, c, hp⟩ := h1.shape
  subst hp
  exact ⟨u, _, _, _, _, 0, rfl, .inr ⟨rfl, h3, h1, ps, h4, rfl, h5⟩, h2⟩
theorem PutB.keep {B : Nat} {c c' : World} {t : Tr} {k v : Str} {u : Tr} {pv : Value} {err : Int} (h : PutB B c t k v u pv err) (k1 : ∀ e, e ≠ 27 → KeepT e c c') : PutB B c' t k v u pv err := by
 rcases h with h | ⟨h1, h2, h3, h4⟩
 ·exact .inl h
 ·exact .inr ⟨h1, h2, OwnX.keepT h3 (k1 _ (by decide)) (k1 _ (by decide)), h4⟩
theorem DelB.keep {B : Nat} {c c' : World} {t : Tr} {k : Str} {u : Tr} {pv : Value} {was : Bool} {err : Int} (h : DelB B c t k u pv was err) (k1 : ∀ e, e ≠ 27 → KeepT e c c') : DelB B c' t k u pv was err := by
 rcases h with h | ⟨h1, h2, h3, h4⟩
 ·exact .inl h
 ·exact .inr ⟨h1, h2, OwnX.keepT h3 (k1 _ (by decide)) (k1 _ (by decide)), h4⟩
theorem PutB.to {B : Nat} {c c' : World} {t : Tr} {k v : Str} {u : Tr} {pv : Value} {err : Int} (h : PutB B c t k v u pv err) (b : Below c.heap.size c c') : PutB B c' t k v u pv err := h.keep fun e _ => KeepT.below b
theorem DelB.to {B : Nat} {c c' : World} {t : Tr} {k : Str} {u : Tr} {pv : Value} {was : Bool} {err : Int} (h : DelB B c t k u pv was err) (b : Below c.heap.size c c') : DelB B c' t k u pv was err := h.keep fun e _ => KeepT.below b
theorem PutB.base {B C : Nat} {c : World} {t : Tr} {k v : Str} {u : Tr} {pv : Value} {err : Int} (h : PutB C c t k v u pv err) (hb : B ≤ C) : PutB B c t k v u pv err := by
 rcases h with h | ⟨h1, h2, h3, h4⟩
 ·exact .inl h
 ·exact .inr ⟨h1, h2, OwnPg.base h3 hb, h4⟩
theorem DelB.base {B C : Nat} {c : World} {t : Tr} {k : Str} {u : Tr} {pv : Value} {was : Bool} {err : Int} (h : DelB C c t k u pv was err) (hb : B ≤ C) : DelB B c t k u pv was err := by
 rcases h with h | ⟨h1, h2, h3, h4⟩
 ·exact .inl h
 ·exact .inr ⟨h1, h2, OwnPg.base h3 hb, h4⟩
theorem Chg.len {t u : Tr} {ps : List Pr} {q : List Pr} (h : Chg t u ps) (ht : tprs t = some q) : (u.pages.length + 1) * 32 ≤ 140737488355328 := by
 obtain ⟨more, e, h1, _⟩ := h.pgs
 have hT := (tprs_num ht).1
 have h2 := tups_len hT.2.2.1 hT.1
 have h3 := hT.2.1
 rw [e, List.length_append]
 omega
theorem Chg.small {t u : Tr} {ps : List Pr} (h : Chg t u ps) (hx : ∀ x ∈ t.pages, x.2.length ≤ 140737488351232) : ∀ x ∈ u.pages, x.2.length ≤ 140737488351232 := by
 obtain ⟨more, e, _, h2⟩ := h.pgs
 intro x hx'
 rw [e, List.mem_append] at hx'
 rcases hx' with hx' | hx'
 ·exact hx x hx'
 ·have := h2 x hx'; omega
end Go.Proofs.YtgmkknonnidgaaaGreat

namespace Go.Proofs.YtgmkknonnidgaaaGreat
open Go.RowKit
def un (b : Bool) : Nat := cond b 0 1
def pput (k v : Str) (s : List Pr × Bool) (y : Pr) : List Pr × Bool := if s.2 = false ∧ slt y.1 k = false then (s.1 ++ [(k, v)], true) else s
def pstep (k v : Str) (s : List Pr × Bool) (y : Pr) : List Pr × Bool := if (y.1 == k) = true then pput k v s y else ((pput k v s y).1 ++ [y], (pput k v s y).2)
def pall (k v : Str) (l : List Pr) : List Pr × Bool := l.foldl (pstep k v) ([], false)
def pwith (l : List Pr) (k v : Str) : List Pr := if (pall k v l).2 = true then (pall k v l).1 else (pall k v l).1 ++ [(k, v)]
theorem pall_snoc (k v : Str) (l : List Pr) {i : Nat} {y : Pr} (h : l[i]? = some y) : pall k v (l.take (i + 1)) = pstep k v (pall k v (l.take i)) y := by
 unfold pall
 rw [List.take_add_one, h, List.foldl_append]
 rfl
theorem pput_len (k v : Str) (s : List Pr × Bool) (y : Pr) : (pput k v s y).1.length + un (pput k v s y).2 ≤ s.1.length + un s.2 := by
 unfold pput
 split
 ·rename_i h; rw [h.1]; simp [un]
 ·omega
theorem pall_len (k v : Str) (l : List Pr) : (pall k v l).1.length + un (pall k v l).2 ≤ l.length + 1 := by
 have : ∀ (l : List Pr) (s : List Pr × Bool), (l.foldl (pstep k v) s).1.length + un (l.foldl (pstep k v) s).2 ≤ l.length + (s.1.length + un s.2) := by
  intro l
  induction l with
  | nil => intro s; simp
  | cons y r ih =>
   intro s
   have a := ih (pstep k v s y)
   have b := pput_len k v s y
   have c : (pstep k v s y).1.length + un (pstep k v s y).2 ≤ s.1.length + un s.2 + 1 := by
    unfold pstep
    split
    ·omega
    ·simp only [List.length_append, List.length_singleton]; omega
   simp only [List.foldl_cons, List.length_cons]
   omega
 have h := this l ([], false)
 simpa [pall, un] using h
theorem pall_laid (k v : Str) : ∀ (l : List Pr) (o : List Pr), (∀ y ∈ l, slt k y.1 = true) → l.foldl (pstep k v) (o, true) = (o ++ l, true)
 | [], o, h => by simp
 | y :: r, o, h => by
  have h1 := h y (List.mem_cons_self ..)
  have h2 : (y.1 == k) = false := by
   rw [beq_eq_false_iff_ne]
   intro e
   rw [e, slt_irr] at h1
   cases h1
  have h3 : pstep k v (o, true) y = (o ++ [y], true) := by unfold pstep pput; rw [if_neg (by simp [h2])]; simp
  rw [List.foldl_cons, h3, pall_laid k v r _ (fun z hz => h z (List.mem_cons_of_mem _ hz))]
  simp
theorem pall_rise (k v : Str) : ∀ (l : List Pr) (o : List Pr), Rise (l.map (·.1)) → (if (l.foldl (pstep k v) (o, false)).2 = true then (l.foldl (pstep k v) (o, false)).1 else (l.foldl (pstep k v) (o, false)).1 ++ [(k, v)]) = o ++ pins k v l
 | [], o, h => by simp [pins]
 | y :: r, o, h => by
  rw [List.map_cons] at h
  replace h := List.pairwise_cons.1 h
  have hr : ∀ z ∈ r, slt y.1 z.1 = true := fun z hz => h.1 _ (List.mem_map_of_mem hz)
  have hR : Rise (r.map (·.1)) := h.2
  rcases slt_tot y.1 k with h1 | h1 | h1
  ·have h2 : slt k y.1 = false := slt_asym h1
   have h4 : (y.1 == k) = false := by
    rw [beq_eq_false_iff_ne]
    intro e
    rw [e, slt_irr] at h1
    cases h1
   have h3 : pstep k v (o, false) y = (o ++ [y], false) := by
    unfold pstep pput
    rw [if_neg (by simp [h4]), if_neg (by simp [h1])]
   rw [List.foldl_cons, h3, pall_rise k v r _ hR]
   simp [pins, List.filter_cons, h1, h2]
  ·have h2 : slt k y.1 = false := by rw [h1]; exact slt_irr _
   have h5 : slt y.1 k = false := by rw [h1]; exact slt_irr _
   have h4 : (y.1 == k) = true := by rw [h1]; simp
   have h3 : pstep k v (o, false) y = (o ++ [(k, v)], true) := by
    unfold pstep pput
    rw [if_pos h4, if_pos (by simp [h5])]
   have hr' : ∀ z ∈ r, slt k z.1 = true := fun z hz => by rw [← h1]; exact hr z hz
   have f1 : r.filter (fun z => slt z.1 k) = [] := List.filter_eq_nil_iff.2 fun z hz => by simp [slt_asym (hr' z hz)]
   have f2 : r.filter (fun z => slt k z.1) = r := filter_all fun z hz => hr' z hz
   rw [List.foldl_cons, h3, pall_laid k v r _ hr']
   simp [pins, List.filter_cons, h5, h2, f1, f2]
  ·have h5 : slt y.1 k = false := slt_asym h1
   have h4 : (y.1 == k) = false := by
    rw [beq_eq_false_iff_ne]
    intro e
    rw [e, slt_irr] at h1
    cases h1
   have h3 : pstep k v (o, false) y = (o ++ [(k, v)] ++ [y], true) := by
    unfold pstep pput
    rw [if_neg (by simp [h4]), if_pos (by simp [h5])]
   have hr' : ∀ z ∈ r, slt k z.1 = true := fun z hz => slt_trans h1 (hr z hz)
   have f1 : r.filter (fun z => slt z.1 k) = [] := List.filter_eq_nil_iff.2 fun z hz => by simp [slt_asym (hr' z hz)]
   have f2 : r.filter (fun z => slt k z.1) = r := filter_all fun z hz => hr' z hz
   rw [List.foldl_cons, h3, pall_laid k v r _ hr']
   simp [pins, List.filter_cons, h5, h1, f1, f2]
theorem pwith_pins {l : List Pr} (h : Rise (l.map (·.1))) (k v : Str) : pwith l k v = pins k v l := by
 have := pall_rise k v l [] h
 rw [List.nil_append] at this
 exact this
set_option maxRecDepth 100000 in
set_option maxHeartbeats 20000000 in
theorem rwith_any (w : World) (v : Value) (l : List Pr) (key val : Str) (h : RdP w v l) (hl : l.length ≤ 1000000) :
  Calls Tryz.prog 18 #[v, st key, st val] w fun e w' => ∃ v', e = .returned v' ∧ OwnP w.heap.size w' v' (pwith l key val) ∧ Below w.heap.size w w' := by
 obtain ⟨a, c, rfl⟩ := h.slice
 obtain ⟨L, hL⟩ : ∃ L, L = l.length := ⟨_, rfl⟩
 rw [← hL] at h hl ⊢
 replace hL := hide hL
 have HH := hide h
 clear h
 go_enter Tryz.func18, Tryz.ntmps18
 go_wp2
 go_loopw [7, 8, 9] (fun o d p wr => ∃ i : Nat, i ≤ L ∧ p = .int .i64 i ∧ d = .bool (pall key val (l.take i)).2 ∧ Hid (OwnP w.heap.size wr o (pall key val (l.take i)).1 ∧ Below w.heap.size w wr)) (fun _ _ p _ => L - (intOf p).toNat)
 case atStart => exact ⟨0, Nat.zero_le _, rfl, rfl, hide ⟨World.ownsRow_nil _ _ _ _, Below.refl _ _⟩⟩
 case round =>
  obtain ⟨i, hi, rfl, rfl, hI⟩ := hrel
  by_cases hlt : i < L
  ·have hq : (i : Int) < (L : Int) := by omega
   obtain ⟨y, hy⟩ := some_el l (k := i) (by rw [← hL.out]; exact hlt)
   obtain ⟨b, off, rfl, hc1, hc2⟩ := (HH.out.to0 hI.out.2).prAt hy
   have hS := hide (pall_snoc key val l hy)
   have hN := hide (pall_len key val (l.take i))
   obtain ⟨⟨out, laid⟩, hs⟩ : ∃ s, s = pall key val (l.take i) := ⟨_, rfl⟩
   rw [← hs] at hI hS hN ⊢
   dsimp only at hI ⊢
   replace hs := hide hs
   replace hy := hide hy
   obtain ⟨y1, y2⟩ := y
   dsimp only at hc1 hc2
   cases laid with
   | true =>
    have hp : Hid (pput key val (out, true) (y1, y2) = (out, true)) := by show _ = _; unfold pput; rw [if_neg (by simp)]
    cases he : (y1 == key) with
    | true =>
     have hR : Hid (pall key val (l.take (i + 1)) = (out, true)) := by show _ = _; rw [hS.out, pstep, if_pos he, hp.out]
     go_wp2
     go_roundw
     case rel => exact ⟨i + 1, by omega, by go_num, by rw [hR.out], by rw [hR.out]; exact hI⟩
     case measure => simp [intOf]; omega
    | false =>
     have hR : Hid (pall key val (l.take (i + 1)) = (out ++ [(y1, y2)], true)) := by show _ = _; rw [hS.out, pstep, if_neg (by simp [he]), hp.out]
     obtain ⟨V, hV, D, bV, sV⟩ := boxedN wr #[st y1, st y2] 62
     obtain ⟨⟨C0, C1⟩, _⟩ := cells2r D
     have OW := rows_to hI.out.1 bV
     have BB := hide (hI.out.2.trans (bV.mono hI.out.2.size))
     have hn : (out.length + 1) * 32 ≤ 140737488355328 := by have h1 : out.length + 0 ≤ (l.take i).length + 1 := hN.out; have h2 := List.length_take_le i l; omega
     have hB2 : w.heap.size ≤ V.heap.size := BB.out.size
     rw [hV] at C0 C1 OW hB2
     replace C0 := hide C0
     replace C1 := hide C1
     replace OW := hide OW
     clear D bV
     have FLAG : True := trivial
     go_wp2_with (at_builtin; clear FLAG; refine wpList_appP rfl _ _ rfl w.heap.size _ out (y1, y2) wr.heap.size rfl rfl OW.out C0.out C1.out hn hB2 ?_; intro v1 w3 o1 b1 _)
     replace o1 := hide o1
     rw [← hV] at b1
     have B3 := hide (BB.out.trans b1)
     clear b1
     go_wp2
     go_roundw
     case rel => exact ⟨i + 1, by omega, by go_num, by rw [hR.out], by rw [hR.out]; exact ⟨o1.out, B3.out⟩⟩
     case measure => simp [intOf]; omega
   | false =>
    cases hb : Op.bytesLess y1 key with
    | true =>
     have he : (y1 == key) = false := by
      apply Bool.eq_false_iff.2
      intro e
      have : y1 = key := by simpa using e
      subst this
      rw [show Op.bytesLess y1 y1 = false from slt_irr y1] at hb; cases hb
     have hp : Hid (pput key val (out, false) (y1, y2) = (out, false)) := by show _ = _; unfold pput; rw [if_neg (by simp [slt, hb])]
     have hR : Hid (pall key val (l.take (i + 1)) = (out ++ [(y1, y2)], false)) := by show _ = _; rw [hS.out, pstep, if_neg (by simp [he]), hp.out]
     obtain ⟨V3, hV3, D3, bV3, sV3⟩ := boxedN wr #[st y1, st y2] 62
     obtain ⟨⟨C0, C1⟩, _⟩ := cells2r D3
     have OW := rows_to hI.out.1 bV3
     have BB3 := hide (hI.out.2.trans (bV3.mono hI.out.2.size))
     have hn3 : ((out).length + 1) * 32 ≤ 140737488355328 := by have h1 : out.length + 1 ≤ (l.take i).length + 1 := hN.out; have h2 := List.length_take_le i l; omega
     have hB3 : w.heap.size ≤ V3.heap.size := BB3.out.size
     rw [hV3] at C0 C1 OW hB3
     replace C0 := hide C0
     replace C1 := hide C1
     replace OW := hide OW
     clear D3 bV3
     have FLAG : True := trivial
     go_wp2_with (at_builtin; clear FLAG; refine wpList_appP rfl _ _ rfl w.heap.size _ (out) (y1, y2) wr.heap.size rfl rfl OW.out C0.out C1.out hn3 hB3 ?_; intro v3 w3 o3 b3 _)
     replace o3 := hide o3
     rw [← hV3] at b3
     have B3 := hide (BB3.out.trans b3)
     clear b3 C0 C1 OW hB3 hn3
     go_wp2
     go_roundw
     case rel => exact ⟨i + 1, by omega, by go_num, by rw [hR.out], by rw [hR.out]; exact ⟨o3.out, B3.out⟩⟩
     case measure => simp [intOf]; omega
    | false =>
     have hp : Hid (pput key val (out, false) (y1, y2) = (out ++ [(key, val)], true)) := by show _ = _; unfold pput; rw [if_pos (by simp [slt, hb])]
     cases he : (y1 == key) with
     | true =>
      have hR : Hid (pall key val (l.take (i + 1)) = (out ++ [(key, val)], true)) := by show _ = _; rw [hS.out, pstep, if_pos he, hp.out]
      obtain ⟨V3, hV3, D3, bV3, sV3⟩ := boxedN wr #[st key, st val] 62
      obtain ⟨⟨C0, C1⟩, _⟩ := cells2r D3
      have OW := rows_to hI.out.1 bV3
      have BB3 := hide (hI.out.2.trans (bV3.mono hI.out.2.size))
      have hn3 : ((out).length + 1) * 32 ≤ 140737488355328 := by have h1 : out.length + 1 ≤ (l.take i).length + 1 := hN.out; have h2 := List.length_take_le i l; omega
      have hB3 : w.heap.size ≤ V3.heap.size := BB3.out.size
      rw [hV3] at C0 C1 OW hB3
      replace C0 := hide C0
      replace C1 := hide C1
      replace OW := hide OW
      clear D3 bV3
      have FLAG : True := trivial
      go_wp2_with (at_builtin; clear FLAG; refine wpList_appP rfl _ _ rfl w.heap.size _ (out) (key, val) wr.heap.size rfl rfl OW.out C0.out C1.out hn3 hB3 ?_; intro v3 w3 o3 b3 _; replace o3 := hide o3; rw [← hV3] at b3; have B3 := hide (BB3.out.trans b3); clear b3 C0 C1 OW hB3 hn3; obtain ⟨b', off', e, hd1, hd2⟩ := (HH.out.to0 B3.out).prAt hy.out; simp only [Option.some.injEq, Addr.mk.injEq, and_true] at e; obtain ⟨rfl, rfl⟩ := e; dsimp only at hd1 hd2)
      go_wp2
      go_roundw
      case rel => exact ⟨i + 1, by omega, by go_num, by rw [hR.out], by rw [hR.out]; exact ⟨o3.out, B3.out⟩⟩
      case measure => simp [intOf]; omega
     | false =>
      have hR : Hid (pall key val (l.take (i + 1)) = (out ++ [(key, val)] ++ [(y1, y2)], true)) := by show _ = _; rw [hS.out, pstep, if_neg (by simp [he]), hp.out]
      obtain ⟨V3, hV3, D3, bV3, sV3⟩ := boxedN wr #[st key, st val] 62
      obtain ⟨⟨C0, C1⟩, _⟩ := cells2r D3
      have OW := rows_to hI.out.1 bV3
      have BB3 := hide (hI.out.2.trans (bV3.mono hI.out.2.size))
      have hn3 : ((out).length + 1) * 32 ≤ 140737488355328 := by have h1 : out.length + 1 ≤ (l.take i).length + 1 := hN.out; have h2 := List.length_take_le i l; omega
      have hB3 : w.heap.size ≤ V3.heap.size := BB3.out.size
      rw [hV3] at C0 C1 OW hB3
      replace C0 := hide C0
      replace C1 := hide C1
      replace OW := hide OW
      clear D3 bV3
      have hn4 : Hid (((out ++ [(key, val)]).length + 1) * 32 ≤ 140737488355328) := by
       show _ ≤ _
       have hE : (out ++ [(key, val)]).length = out.length + 1 := by rw [List.length_append]; rfl
       rw [hE]
       have h3 : out.length + 1 + 1 ≤ 1000002 := by have h1 : out.length + 1 ≤ (l.take i).length + 1 := hN.out; have h2 := List.length_take_le i l; omega
       exact Nat.le_trans (Nat.mul_le_mul_right 32 h3) (by decide)
      have FLAG : True := trivial
      go_wp2_with (at_builtin; first | (clear FLAG; refine wpList_appP rfl _ _ rfl w.heap.size _ (out) (key, val) wr.heap.size rfl rfl OW.out C0.out C1.out hn3 hB3 ?_; intro v3 w3 o3 b3 _; replace o3 := hide o3; rw [← hV3] at b3; have B3 := hide (BB3.out.trans b3); clear b3 C0 C1 OW hB3 hn3; obtain ⟨b', off', e, hd1, hd2⟩ := (HH.out.to0 B3.out).prAt hy.out; simp only [Option.some.injEq, Addr.mk.injEq, and_true] at e; obtain ⟨rfl, rfl⟩ := e; dsimp only at hd1 hd2; obtain ⟨V4, hV4, D4, bV4, sV4⟩ := boxedN w3 #[st y1, st y2] 62; obtain ⟨⟨C0, C1⟩, _⟩ := cells2r D4; have OW := rows_to o3.out bV4; have BB4 := hide (B3.out.trans (bV4.mono B3.out.size)); have hB4 : w.heap.size ≤ V4.heap.size := BB4.out.size; rw [hV4] at C0 C1 OW hB4; replace C0 := hide C0; replace C1 := hide C1; replace OW := hide OW; clear D4 bV4; have FLAG2 : True := trivial) | (clear FLAG2; refine wpList_appP rfl _ _ rfl w.heap.size _ (out ++ [(key, val)]) (y1, y2) w3.heap.size rfl rfl OW.out C0.out C1.out hn4.out hB4 ?_; intro v4 w4 o4 b4 _))
      replace o4 := hide o4
      rw [← hV4] at b4
      have B4 := hide (BB4.out.trans b4)
      clear b4 C0 C1 OW hB4 hn4
      go_wp2
      go_roundw
      case rel => exact ⟨i + 1, by omega, by go_num, by rw [hR.out], by rw [hR.out]; exact ⟨o4.out, B4.out⟩⟩
      case measure => simp [intOf]; omega
  ·have hq : ¬ (i : Int) < (L : Int) := by omega
   have ht : Hid (l.take i = l) := by show _ = _; exact List.take_of_length_le (by rw [← hL.out]; omega)
   rw [ht.out] at hI ⊢
   have hN := hide (pall_len key val l)
   have hR : Hid (pwith l key val = if (pall key val l).2 = true then (pall key val l).1 else (pall key val l).1 ++ [(key, val)]) := (rfl : _ = _)
   obtain ⟨⟨out, laid⟩, hs⟩ : ∃ s, s = pall key val l := ⟨_, rfl⟩
   rw [← hs] at hI hR hN ⊢
   dsimp only at hI hR ⊢
   replace hs := hide hs
   cases laid with
   | true =>
    rw [if_pos rfl] at hR
    go_wp2
    go_ret
    rw [hR.out]
    exact ⟨_, rfl, hI.out.1, hI.out.2⟩
   | false =>
    rw [if_neg (by simp)] at hR
    obtain ⟨V3, hV3, D3, bV3, sV3⟩ := boxedN wr #[st key, st val] 62
    obtain ⟨⟨C0, C1⟩, _⟩ := cells2r D3
    have OW := rows_to hI.out.1 bV3
    have BB3 := hide (hI.out.2.trans (bV3.mono hI.out.2.size))
    have hn3 : ((out).length + 1) * 32 ≤ 140737488355328 := by have h1 : out.length + 1 ≤ l.length + 1 := hN.out; rw [← hL.out] at h1; omega
    have hB3 : w.heap.size ≤ V3.heap.size := BB3.out.size
    rw [hV3] at C0 C1 OW hB3
    replace C0 := hide C0
    replace C1 := hide C1
    replace OW := hide OW
    clear D3 bV3
    have FLAG : True := trivial
    go_wp2_with (at_builtin; clear FLAG; refine wpList_appP rfl _ _ rfl w.heap.size _ (out) (key, val) wr.heap.size rfl rfl OW.out C0.out C1.out hn3 hB3 ?_; intro v3 w3 o3 b3 _)
    replace o3 := hide o3
    rw [← hV3] at b3
    have B3 := hide (BB3.out.trans b3)
    clear b3 C0 C1 OW hB3 hn3
    go_wp2
    go_ret
    rw [hR.out]
    exact ⟨_, rfl, o3.out, B3.out⟩
end Go.Proofs.YtgmkknonnidgaaaGreat

namespace Go.Proofs.YtgmkknonnidgaaaGreat
open Go.RowKit
structure Bu (B : Nat) (w : World) (t : Tr) (pv : Value) (want : List Pr) (wv : Value) (k : Nat) : Prop where
 own : OwnPg B w pv t.pages
 prs : tprs t = some want
 nxt : t.next ≤ 1 + 40 * (k : Int)
 sml : ∀ x ∈ t.pages, x.2.length ≤ 244
 wnt : OwnP B w wv want
 cnt : want.length ≤ k
theorem Bu.keep {B : Nat} {w w' : World} {t : Tr} {pv : Value} {want : List Pr} {wv : Value} {k : Nat} (h : Bu B w t pv want wv k) (kk : ∀ e, e ≠ 27 → KeepT e w w') : Bu B w' t pv want wv k :=
 ⟨OwnX.keepT h.own (kk _ (by decide)) (kk _ (by decide)), h.prs, h.nxt, h.sml, rows_keepT h.wnt (kk _ (by decide)), h.cnt⟩
theorem Bu.to {B : Nat} {w w' : World} {t : Tr} {pv : Value} {want : List Pr} {wv : Value} {k : Nat} (h : Bu B w t pv want wv k) (b : Below w.heap.size w w') : Bu B w' t pv want wv k := h.keep fun e _ => KeepT.below b
theorem Bu.more {B : Nat} {w : World} {t : Tr} {pv : Value} {want : List Pr} {wv : Value} {k n : Nat} (h : Bu B w t pv want wv k) (hn : k ≤ n) : Bu B w t pv want wv n := ⟨h.own, h.prs, by have := h.nxt; omega, h.sml, h.wnt, by have := h.cnt; omega⟩
theorem Bu.rwf {B : Nat} {w : World} {t : Tr} {pv : Value} {want : List Pr} {wv : Value} {k : Nat} (h : Bu B w t pv want wv k) : (Lit.int .i64 t.root).wf = true := (tprs_num h.prs).1.rwf
theorem Bu.big {B : Nat} {w : World} {t : Tr} {pv : Value} {want : List Pr} {wv : Value} {k : Nat} (h : Bu B w t pv want wv k) : ∀ x ∈ t.pages, x.2.length ≤ 140737488351232 := fun x hx => by have := h.sml x hx; omega
theorem Bu.len {B : Nat} {w : World} {t : Tr} {pv : Value} {want : List Pr} {wv : Value} {k : Nat} (h : Bu B w t pv want wv k) : (t.pages.length + 1) * 32 ≤ 140737488355328 := (Chg.same h.prs).len h.prs
structure BI (w wr : World) (g5 : Nat) (t : Tr) (pv : Value) (want : List Pr) (wv : Value) (k : Nat) : Prop where
 bu : Bu w.heap.size wr t pv want wv k
 rb : wr.heap[w.heap.size]? = some (.cells #[.int .i64 0, .int .i64 0, .slice none 0 0] 27 (0, 0))
 tb : wr.heap[g5]? = some (.cells #[.int .i64 t.root, .int .i64 t.next, pv] 27 (0, 0))
 bel : Below w.heap.size w wr
theorem BI.to {w wr wr' : World} {g5 : Nat} {t : Tr} {pv : Value} {want : List Pr} {wv : Value} {k : Nat} (h : BI w wr g5 t pv want wv k) (b : Below wr.heap.size wr wr') : BI w wr' g5 t pv want wv k :=
 ⟨h.bu.to b, (b.block _ (lt_of_block h.rb)).trans h.rb, (b.block _ (lt_of_block h.tb)).trans h.tb, h.bel.trans (b.mono h.bel.size)⟩
theorem BI.put {w c : World} {g5 : Nat} {t u : Tr} {pv pv' : Value} {want want' : List Pr} {wv wv' : Value} {k : Nat} (h : BI w c g5 t pv want wv k) (hg : w.heap.size < g5) (hC : Chg t u want') (o : OwnPg w.heap.size c pv' u.pages) (ow : OwnP w.heap.size c wv' want') (hc : want'.length ≤ want.length + 1) :
  BI w (((c.setCell ⟨g5, 0, none⟩ (.int .i64 u.root)).setCell ⟨g5, 1, none⟩ (.int .i64 u.next)).setCell ⟨g5, 2, none⟩ pv') g5 u pv' want' wv' (k + 1) := by
 have kk := fun e (he : e ≠ 27) => s3_keep9 h.tb (.int .i64 u.root) (.int .i64 u.next) pv' he
 have hne : w.heap.size ≠ g5 := by omega
 obtain ⟨more, e, _, h2⟩ := hC.pgs
 refine ⟨⟨OwnX.keepT o (kk _ (by decide)) (kk _ (by decide)), hC.prs, ?_, ?_, rows_keepT ow (kk _ (by decide)), by have := h.bu.cnt; omega⟩, ?_, heap_set3t h.tb _ _ _, below_set3t h.bel (Nat.le_of_lt hg) _ _ _⟩
 ·have h1 := h.bu.nxt
  have h3 := hC.nxt
  push_cast
  omega
 ·intro x hx
  rw [e, List.mem_append] at hx
  rcases hx with hx | hx
  ·exact h.bu.sml x hx
  ·exact h2 x hx
 ·exact (Below.heap_setCell _ _ _ _ hne).trans ((Below.heap_setCell _ _ _ _ hne).trans ((Below.heap_setCell _ _ _ _ hne).trans h.rb))
theorem BI.succ {w wr : World} {g5 : Nat} {t : Tr} {pv : Value} {want : List Pr} {wv : Value} {k : Nat} (h : BI w wr g5 t pv want wv k) : BI w wr g5 t pv want wv (k + 1) := ⟨h.bu.more (by omega), h.rb, h.tb, h.bel⟩
theorem tprs_new : tprs ⟨0, 1, []⟩ = some [] := tprs_of (t := ⟨0, 1, []⟩) (s := ⟨[], none, []⟩) ⟨by decide, by decide, fun i hi => by simp at hi⟩ rfl (by decide)
set_option maxRecDepth 100000 in
set_option maxHeartbeats 16000000 in
theorem pbuild_any (w : World) (v : Value) (ls : List Sp3) (h : RdSt w v ls) (hf : ∀ x ∈ ls, sp3fit x) :
  Calls Tryz.prog 6 #[v] w fun e w' => ∃ t pv want wv, e = .returned (.tuple #[tv t pv, wv, .bool true]) ∧ Bu w.heap.size w' t pv want wv 400 ∧ Below w.heap.size w w' := by
 obtain ⟨a, c, rfl⟩ := h.slice
 obtain ⟨L, hL⟩ : ∃ L, L = ls.length := ⟨_, rfl⟩
 rw [← hL] at h ⊢
 replace hL := hide hL
 obtain ⟨W, hW, DW, bW, sW⟩ := boxedN w #[.int .i64 0, .int .i64 0, .slice none 0 0] 27
 have KN0 := hide (pnew10_any W)
 dsimp only [tv] at KN0
 rw [hW] at KN0
 have HH := hide h
 have HW := hide (And.intro DW bW)
 replace hf := hide hf
 clear h DW bW
 go_enter Tryz.func6, Tryz.ntmps6
 go_wp2_with fail
 refine KN0.out.mono ?_
 rintro e w1 ⟨rfl, b1⟩
 rw [← hW] at b1
 replace hW := hide hW
 obtain ⟨Y, hY, DY, bY, sY⟩ := boxedN w1 #[.int .i64 0, .int .i64 1, .slice none 0 0] 27
 have b1Y := b1.trans (bY.mono b1.size)
 have HI : Hid (∃ t pv want, BI w Y w1.heap.size t pv want (.slice none 0 0) 0) := by
  refine ⟨⟨0, 1, []⟩, .slice none 0 0, [], ⟨⟨⟨[], rfl, World.ownsRow_nil _ _ _ _, fun i hi => by simp at hi⟩, tprs_new, by decide, (fun x hx => by cases hx), World.ownsRow_nil _ _ _ _, Nat.zero_le _⟩, (b1Y.block _ (lt_of_block HW.out.1)).trans HW.out.1, DY, HW.out.2.trans (b1Y.mono HW.out.2.size)⟩⟩
 have hg5 : Hid (w.heap.size < w1.heap.size) := by show _ < _; have := lt_of_block HW.out.1; have := b1.size; omega
 clear KN0 b1 DY bY sY b1Y HW
 go_wp2
 rw [← hY]
 replace hY := hide hY
 obtain ⟨g5, hg⟩ : ∃ g, g = w1.heap.size := ⟨_, rfl⟩
 rw [← hg] at HI hg5 ⊢
 clear hg hY sW
 go_loopw [6, 7] (fun v6 p wr => ∃ (k : Nat) (wv : Value), wv = v6 ∧ k ≤ L ∧ k ≤ 400 ∧ p = .int .i64 k ∧ Hid (∃ t pv want, BI w wr g5 t pv want wv k)) (fun _ p _ => L - (intOf p).toNat)
 case atStart => exact ⟨0, _, rfl, Nat.zero_le _, Nat.zero_le _, rfl, HI⟩
 case round =>
  obtain ⟨k, wv, rfl, hk, hk4, rfl, hI⟩ := hrel
  clear HI
  obtain ⟨t, pv, want, hB⟩ := hI.out
  obtain ⟨pa, pc, hpv⟩ := hB.bu.own.shape
  obtain ⟨pn, hpn⟩ : ∃ n, n = t.pages.length := ⟨_, rfl⟩
  rw [← hpn] at hpv
  subst hpv
  replace hpn := hide hpn
  obtain ⟨root, hrn⟩ : ∃ z, z = t.root := ⟨_, rfl⟩
  obtain ⟨next, hnn⟩ : ∃ z, z = t.next := ⟨_, rfl⟩
  have hTB := hB.tb
  rw [← hrn, ← hnn] at hTB
  replace hrn := hide hrn
  replace hnn := hide hnn
  obtain ⟨⟨A0, A1, A2⟩, AF⟩ := cells3p hTB
  replace hB := hide hB
  by_cases hlt : k < L ∧ k < 400
  ·obtain ⟨hlt, hlt4⟩ := hlt
   have hq : (k : Int) < (L : Int) := by omega
   have hq4 : (k : Int) < 400 := by omega
   obtain ⟨y, hy⟩ : ∃ y, ls[k]? = some y := ⟨_, List.getElem?_eq_getElem (by rw [← hL.out]; exact hlt)⟩
   obtain ⟨sb, so, rfl, s0, s1, s2⟩ := (HH.out.to0 hB.out.bel).spAt hy
   have hfy := hf.out y (List.mem_of_getElem? hy)
   obtain ⟨wh, key, val⟩ := y
   dsimp only at s0 s1 s2 hfy
   have hkl : Hid (key.length ≤ 9223372036854775807) := hfy.2.1
   have hvl : Hid (val.length ≤ 9223372036854775807) := hfy.2.2
   have hn16 : Hid (t.next ≤ 16001) := by show _ ≤ _; have := hB.out.bu.nxt; omega
   have HSF : Hid (∀ w9, Below wr.heap.size wr w9 → w9.cell? ⟨g5, 0, none⟩ = some (.int .i64 root) ∧ w9.cell? ⟨g5, 1, none⟩ = some (.int .i64 next) ∧ w9.cell? ⟨g5, 2, none⟩ = some (.slice pa pn pc) ∧ w9.cell? ⟨sb, so + k * 3 + 1, none⟩ = some (st key) ∧ w9.cell? ⟨sb, so + k * 3 + 2, none⟩ = some (st val)) := fun w9 b9 =>
    ⟨(b9.cell (cell_lt A0)).trans A0, (b9.cell (cell_lt A1)).trans A1, (b9.cell (cell_lt A2)).trans A2, (b9.cell (cell_lt s1)).trans s1, (b9.cell (cell_lt s2)).trans s2⟩
   have hTD := hide hTB
   replace hy := hide hy
   replace hfy := hide hfy
   clear hTB hI
   by_cases h0 : wh = 0
   ·subst h0
    go_upto_region 7 with fail
    have KU : Hid (∀ w9, Below wr.heap.size wr w9 → Calls Tryz.prog 16 #[.agg #[.int .i64 root, .int .i64 next, .slice pa pn pc], st key, st val] w9 fun e w6 => ∃ u ua un9 uc err, e = .returned (.tuple #[.agg #[.int .i64 u.root, .int .i64 u.next, .slice ua un9 uc], .int .i64 err]) ∧ PutB w9.heap.size w6 t key val u (.slice ua un9 uc) err ∧ Below w9.heap.size w9 w6) := fun w9 b9 => by
     have h9 := pput_any w9 t (.slice pa pn pc) key val (hB.out.bu.to b9).own.rd hB.out.bu.big hB.out.bu.rwf hkl.out
     dsimp only [tv] at h9
     rw [← hrn.out, ← hnn.out] at h9
     exact Calls.mono h9 fun e w6 h => h.to
    go_cut [8, 9] from 16 to 129 (fun pp ee wx => ∃ (g7 : Nat) (u : Tr) (ua : Option Addr) (un9 uc : Nat) (err : Int), pp = .pointer (some ⟨g7, 0, none⟩) ∧ ee = .int .i64 err ∧ Hid (Below wr.heap.size wr wx ∧ wx.heap[g7]? = some (.cells #[.int .i64 u.root, .int .i64 u.next, .slice ua un9 uc] 27 (0, 0)) ∧ PutB wr.heap.size wx t key val u (.slice ua un9 uc) err ∧ wr.heap.size ≤ g7))
    case first =>
     have HS := HSF
     have b0 : Below wr.heap.size wr wr.drew := (Below.refl _ _).drew
     refine wp_region_fan (fun w9 => w9.cell? ⟨g5, 0, none⟩ = some (.int .i64 root) ∧ w9.cell? ⟨g5, 1, none⟩ = some (.int .i64 next) ∧ w9.cell? ⟨g5, 2, none⟩ = some (.slice pa pn pc) ∧ w9.cell? ⟨sb, so + k * 3 + 1, none⟩ = some (st key) ∧ w9.cell? ⟨sb, so + k * 3 + 2, none⟩ = some (st val)) 17 mixed (by simp) ?_
     generalize wr.drew = c0 at *
     clear A0 A1 A2 AF s0 s1 s2
     refine fan_take (i := 0) (v := ?_) rfl (by kernel_rfl) (fun _ _ _ _ h => h) (by kernel_rfl) (HS.out _ b0) ?_ ?_
     rotate_left
     ·rintro w9 ⟨t0, t1, t2, t3, t4⟩
      go_simp
      try with_reducible rfl
     try simp only [Act.put, List.setIfInBounds_toArray, List.set_cons_zero, List.set_cons_succ]
     refine fan_take (i := 1) (v := ?_) rfl (by kernel_rfl) (fun _ _ _ _ h => h) (by kernel_rfl) (HS.out _ b0) ?_ ?_
     rotate_left
     ·rintro w9 ⟨t0, t1, t2, t3, t4⟩
      go_simp
      try with_reducible rfl
     try simp only [Act.put, List.setIfInBounds_toArray, List.set_cons_zero, List.set_cons_succ]
     refine fan_take (i := 2) (v := ?_) rfl (by kernel_rfl) (fun _ _ _ _ h => h) (by kernel_rfl) (HS.out _ b0) ?_ ?_
     rotate_left
     ·rintro w9 ⟨t0, t1, t2, t3, t4⟩
      go_simp
      try with_reducible rfl
     try simp only [Act.put, List.setIfInBounds_toArray, List.set_cons_zero, List.set_cons_succ]
     refine fan_take (i := 3) (v := ?_) rfl (by kernel_rfl) (fun _ _ _ _ h => h) (by kernel_rfl) (HS.out _ b0) ?_ ?_
     rotate_left
     ·rintro w9 ⟨t0, t1, t2, t3, t4⟩
      go_simp
      try with_reducible rfl
     try simp only [Act.put, List.setIfInBounds_toArray, List.set_cons_zero, List.set_cons_succ]
     refine fan_take (i := 4) (v := ?_) rfl (by kernel_rfl) (fun _ _ _ _ h => h) (by kernel_rfl) (HS.out _ b0) ?_ ?_
     rotate_left
     ·rintro w9 ⟨t0, t1, t2, t3, t4⟩
      go_simp
      try with_reducible rfl
     try simp only [Act.put, List.setIfInBounds_toArray, List.set_cons_zero, List.set_cons_succ]
     refine fan_take (i := 5) (v := ?_) rfl (by kernel_rfl) (fun _ _ _ _ h => h) (by kernel_rfl) (HS.out _ b0) ?_ ?_
     rotate_left
     ·rintro w9 ⟨t0, t1, t2, t3, t4⟩
      go_simp
      try with_reducible rfl
     try simp only [Act.put, List.setIfInBounds_toArray, List.set_cons_zero, List.set_cons_succ]
     refine fan_take (i := 6) (v := ?_) rfl (by kernel_rfl) (fun _ _ _ _ h => h) (by kernel_rfl) (HS.out _ b0) ?_ ?_
     rotate_left
     ·rintro w9 ⟨t0, t1, t2, t3, t4⟩
      go_simp
      try with_reducible rfl
     try simp only [Act.put, List.setIfInBounds_toArray, List.set_cons_zero, List.set_cons_succ]
     refine fan_take (i := 7) (v := ?_) rfl (by kernel_rfl) (fun _ _ _ _ h => h) (by kernel_rfl) (HS.out _ b0) ?_ ?_
     rotate_left
     ·rintro w9 ⟨t0, t1, t2, t3, t4⟩
      go_simp
      try with_reducible rfl
     try simp only [Act.put, List.setIfInBounds_toArray, List.set_cons_zero, List.set_cons_succ]
     refine fan_take (i := 8) (v := ?_) rfl (by kernel_rfl) (fun _ _ _ _ h => h) (by kernel_rfl) (HS.out _ b0) ?_ ?_
     rotate_left
     ·rintro w9 ⟨t0, t1, t2, t3, t4⟩
      go_simp
      try with_reducible rfl
     try simp only [Act.put, List.setIfInBounds_toArray, List.set_cons_zero, List.set_cons_succ]
     refine fan_take (i := 9) (v := ?_) rfl (by kernel_rfl) (fun _ _ _ _ h => h) (by kernel_rfl) (HS.out _ b0) ?_ ?_
     rotate_left
     ·rintro w9 ⟨t0, t1, t2, t3, t4⟩
      go_simp
      try with_reducible rfl
     try simp only [Act.put, List.setIfInBounds_toArray, List.set_cons_zero, List.set_cons_succ]
     refine fan_take (i := 10) (v := ?_) rfl (by kernel_rfl) (fun _ _ _ _ h => h) (by kernel_rfl) (HS.out _ b0) ?_ ?_
     rotate_left
     ·rintro w9 ⟨t0, t1, t2, t3, t4⟩
      go_simp
      try with_reducible rfl
     try simp only [Act.put, List.setIfInBounds_toArray, List.set_cons_zero, List.set_cons_succ]
     refine fan_two 11 15 (by kernel_rfl) ?_ ?_
     ·
      refine fan_step rfl (by kernel_rfl) fun K hK => ?_
      refine wp_call_of 16 _ _ (by rfl) #[.agg #[.int .i64 root, .int .i64 next, .slice pa pn pc], st key, st val] (by simp [Act.eval]) (Tryz.call16 _ _) (KU.out _ b0) ?_
      rintro e c2 ⟨u, ua, un9, uc, err, rfl, pB, bF⟩
      have b2 := b0.trans (bF.mono b0.size)
      replace pB := pB.base (B := wr.heap.size) b0.size
      clear bF
      refine ⟨_, rfl, hK _ _ (HS.out _ b2) ?_⟩
      clear hK K
      try simp only [Act.put, List.setIfInBounds_toArray, List.set_cons_zero, List.set_cons_succ]
      refine fan_take (i := 12) (v := ?_) rfl (by kernel_rfl) (fun _ _ _ _ h => h) (by kernel_rfl) (HS.out _ b2) ?_ ?_
      rotate_left
      ·rintro w9 ⟨t0, t1, t2, t3, t4⟩
       go_simp
       try with_reducible rfl
      try simp only [Act.put, List.setIfInBounds_toArray, List.set_cons_zero, List.set_cons_succ]
      refine fan_take (i := 13) (v := ?_) rfl (by kernel_rfl) (fun _ _ _ _ h => h) (by kernel_rfl) (HS.out _ b2) ?_ ?_
      rotate_left
      ·rintro w9 ⟨t0, t1, t2, t3, t4⟩
       go_simp
       try with_reducible rfl
      try simp only [Act.put, List.setIfInBounds_toArray, List.set_cons_zero, List.set_cons_succ]
      refine fan_take (i := 14) (v := ?_) rfl (by kernel_rfl) (fun _ _ _ _ h => h) (by kernel_rfl) (HS.out _ b2) ?_ ?_
      rotate_left
      ·rintro w9 ⟨t0, t1, t2, t3, t4⟩
       go_simp
       try with_reducible rfl
      try simp only [Act.put, List.setIfInBounds_toArray, List.set_cons_zero, List.set_cons_succ]
      refine fan_one 15 (by kernel_rfl) ?_
      refine fan_step rfl (by kernel_rfl) fun K hK => ?_
      go_simp
      obtain ⟨c3, hc, h7, bc, sc⟩ := boxedN c2 #[.int .i64 0, .int .i64 0, .slice none 0 0] 27
      rw [← hc]
      have b3 := b2.trans (bc.mono b2.size)
      obtain ⟨g7, hg⟩ : ∃ g, g = c2.heap.size := ⟨_, rfl⟩
      rw [← hg] at h7
      rw [← hg]
      have lg7 : wr.heap.size ≤ g7 := by have := b2.size; omega
      replace pB := pB.to bc
      refine hK _ _ (HS.out _ b3) ?_
      clear hK K hc bc sc hg
      try simp only [Act.put, List.setIfInBounds_toArray, List.set_cons_zero, List.set_cons_succ]
      refine fan_one 16 (by kernel_rfl) ?_
      have y9 := cells3p h7
      obtain ⟨⟨y0, y1, y2⟩, yF⟩ := y9
      refine fan_step rfl (by kernel_rfl) fun K hK => ?_
      go_simp
      obtain ⟨d1, hd⟩ : ∃ d, d = ((c3.setCell ⟨g7, 0, none⟩ (.int .i64 u.root)).setCell ⟨g7, 1, none⟩ (.int .i64 u.next)).setCell ⟨g7, 2, none⟩ (.slice ua un9 uc) := ⟨_, rfl⟩
      rw [← hd]
      have e1 : Below wr.heap.size wr d1 := by rw [hd]; exact below_set3t b3 lg7 _ _ _
      have i7 : d1.heap[g7]? = some (.cells #[(.int .i64 u.root), (.int .i64 u.next), (.slice ua un9 uc)] 27 (0, 0)) := by rw [hd]; exact heap_set3t h7 _ _ _
      have kd := fun e (he : e ≠ 27) => s3_keep9 h7 (.int .i64 u.root) (.int .i64 u.next) (.slice ua un9 uc) he
      rw [← hd] at kd
      have pD := pB.keep kd
      refine hK _ _ (HS.out _ e1) ?_
      clear hK K y0 y1 y2 yF hd kd
      try simp only [Act.put, List.setIfInBounds_toArray, List.set_cons_zero, List.set_cons_succ]
      refine fan_done (by kernel_rfl) ?_
      show wpList _ _ _ _ _ _
      have FIN := hide (And.intro e1 (And.intro i7 (And.intro pD lg7)))
      clear e1 i7 pD pB lg7 h7
      go_wp2_with fail
      go_meet
      exact ⟨g7, u, _, _, _, err, rfl, rfl, FIN⟩
     ·
      refine fan_step rfl (by kernel_rfl) fun K hK => ?_
      go_simp
      obtain ⟨c2, hc, h7, bc, sc⟩ := boxedN c0 #[.int .i64 0, .int .i64 0, .slice none 0 0] 27
      rw [← hc]
      have b2 := b0.trans (bc.mono b0.size)
      obtain ⟨g7, hg⟩ : ∃ g, g = c0.heap.size := ⟨_, rfl⟩
      rw [← hg] at h7
      rw [← hg]
      have lg7 : wr.heap.size ≤ g7 := by have := b0.size; omega
      refine hK _ _ (HS.out _ b2) ?_
      clear hK K hc bc sc hg
      try simp only [Act.put, List.setIfInBounds_toArray, List.set_cons_zero, List.set_cons_succ]
      refine fan_one 11 (by kernel_rfl) ?_
      refine fan_step rfl (by kernel_rfl) fun K hK => ?_
      refine wp_call_of 16 _ _ (by rfl) #[.agg #[.int .i64 root, .int .i64 next, .slice pa pn pc], st key, st val] (by simp [Act.eval]) (Tryz.call16 _ _) (KU.out _ b2) ?_
      rintro e c3 ⟨u, ua, un9, uc, err, rfl, pB, bF⟩
      have b3 := b2.trans (bF.mono b2.size)
      replace pB := pB.base (B := wr.heap.size) b2.size
      replace h7 := (bF.block _ (lt_of_block h7)).trans h7
      clear bF
      refine ⟨_, rfl, hK _ _ (HS.out _ b3) ?_⟩
      clear hK K
      try simp only [Act.put, List.setIfInBounds_toArray, List.set_cons_zero, List.set_cons_succ]
      refine fan_take (i := 12) (v := ?_) rfl (by kernel_rfl) (fun _ _ _ _ h => h) (by kernel_rfl) (HS.out _ b3) ?_ ?_
      rotate_left
      ·rintro w9 ⟨t0, t1, t2, t3, t4⟩
       go_simp
       try with_reducible rfl
      try simp only [Act.put, List.setIfInBounds_toArray, List.set_cons_zero, List.set_cons_succ]
      refine fan_take (i := 13) (v := ?_) rfl (by kernel_rfl) (fun _ _ _ _ h => h) (by kernel_rfl) (HS.out _ b3) ?_ ?_
      rotate_left
      ·rintro w9 ⟨t0, t1, t2, t3, t4⟩
       go_simp
       try with_reducible rfl
      try simp only [Act.put, List.setIfInBounds_toArray, List.set_cons_zero, List.set_cons_succ]
      refine fan_take (i := 14) (v := ?_) rfl (by kernel_rfl) (fun _ _ _ _ h => h) (by kernel_rfl) (HS.out _ b3) ?_ ?_
      rotate_left
      ·rintro w9 ⟨t0, t1, t2, t3, t4⟩
       go_simp
       try with_reducible rfl
      try simp only [Act.put, List.setIfInBounds_toArray, List.set_cons_zero, List.set_cons_succ]
      refine fan_one 16 (by kernel_rfl) ?_
      have y9 := cells3p h7
      obtain ⟨⟨y0, y1, y2⟩, yF⟩ := y9
      refine fan_step rfl (by kernel_rfl) fun K hK => ?_
      go_simp
      obtain ⟨d1, hd⟩ : ∃ d, d = ((c3.setCell ⟨g7, 0, none⟩ (.int .i64 u.root)).setCell ⟨g7, 1, none⟩ (.int .i64 u.next)).setCell ⟨g7, 2, none⟩ (.slice ua un9 uc) := ⟨_, rfl⟩
      rw [← hd]
      have e1 : Below wr.heap.size wr d1 := by rw [hd]; exact below_set3t b3 lg7 _ _ _
      have i7 : d1.heap[g7]? = some (.cells #[(.int .i64 u.root), (.int .i64 u.next), (.slice ua un9 uc)] 27 (0, 0)) := by rw [hd]; exact heap_set3t h7 _ _ _
      have kd := fun e (he : e ≠ 27) => s3_keep9 h7 (.int .i64 u.root) (.int .i64 u.next) (.slice ua un9 uc) he
      rw [← hd] at kd
      have pD := pB.keep kd
      refine hK _ _ (HS.out _ e1) ?_
      clear hK K y0 y1 y2 yF hd kd
      try simp only [Act.put, List.setIfInBounds_toArray, List.set_cons_zero, List.set_cons_succ]
      refine fan_done (by kernel_rfl) ?_
      show wpList _ _ _ _ _ _
      have FIN := hide (And.intro e1 (And.intro i7 (And.intro pD lg7)))
      clear e1 i7 pD pB lg7 h7
      go_wp2_with fail
      go_meet
      exact ⟨g7, u, _, _, _, err, rfl, rfl, FIN⟩
    case rest =>
     obtain ⟨g7, u, ua, un9, uc, err, rfl, rfl, hC⟩ := hcut
     have KN := hide (pnum10_any wc err)
     have TC := hide (hB.out.to hC.out.1)
     clear A0 A1 A2 AF s0 s1 s2 KU
     go_wp2_with fail
     refine KN.out.mono ?_
     rintro e w5 ⟨rfl, rfl⟩
     by_cases herr : err = 0
     ·subst herr
      rcases hC.out.2.2.1 with ⟨q, _⟩ | ⟨_, q2, q3, ps, q4, q5⟩
      ·exact absurd rfl q
      obtain rfl : ps = want := Option.some.inj (q4.symm.trans hB.out.bu.prs)
      have bd : Below wc.heap.size wc wc.drew := below_drewN' wc 1 _
      have TD := TC.out.to bd
      have KW := hide (rwith_any wc.drew wv ps key val (OwnP.rd TD.bu.wnt) (by have := (tprs_num q4).2.1; omega))
      rw [pwith_pins (tprs_rise q4)] at KW
      have G7 := (bd.block _ (lt_of_block hC.out.2.1)).trans hC.out.2.1
      obtain ⟨⟨U0, U1, U2⟩, _⟩ := cells3p G7
      obtain ⟨_, _, _, d3, d4⟩ := HSF.out _ (hC.out.1.trans (bd.mono hC.out.1.size))
      have HQ := hide (And.intro q3 (And.intro q4 (And.intro q5 (And.intro bd TD))))
      replace q2 := hide q2
      clear q3 q4 q5 bd TD G7 KN
      go_upto_region 11 with fail
      refine wp_region_mid (fun w' => w'.cell? ⟨g7, 0, none⟩ = some (.int .i64 u.root) ∧ w'.cell? ⟨g7, 1, none⟩ = some (.int .i64 u.next) ∧ w'.cell? ⟨g7, 2, none⟩ = some (.slice ua un9 uc) ∧ w'.cell? ⟨sb, so + k * 3 + 1, none⟩ = some (st key) ∧ w'.cell? ⟨sb, so + k * 3 + 2, none⟩ = some (st val)) 12 13 mixed (by kernel_rfl) (fun _ _ _ _ h => h) ⟨U0, U1, U2, d3, d4⟩ ?_
      dsimp only [List.take, List.drop]
      iterate 12
       refine take_one (v := ?_) (by rfl) ?_ ?_
       rotate_left
       ·rintro w' ⟨t0, t1, t2, t3, t4⟩
        go_simp
        try with_reducible rfl
       try simp only [Act.put, List.setIfInBounds_toArray, List.set_cons_zero, List.set_cons_succ]
      refine mid_one fun K hK => ?_
      refine step_call (by rfl) 18 _ _ (by rfl) #[wv, st key, st val] (by simp [Act.eval]) (Tryz.call18 _ _) KW.out ?_
      rintro e w8 ⟨v8, rfl, o8, b8⟩
      have x0 := (b8.cell (cell_lt U0)).trans U0
      have x1 := (b8.cell (cell_lt U1)).trans U1
      have x2 := (b8.cell (cell_lt U2)).trans U2
      have x3 := (b8.cell (cell_lt d3)).trans d3
      have x4 := (b8.cell (cell_lt d4)).trans d4
      refine ⟨_, rfl, hK _ _ ⟨x0, x1, x2, x3, x4⟩ ?_⟩
      clear hK K
      show wpList _ _ _ _ _ _
      try simp only [Act.put, List.setIfInBounds_toArray, List.set_cons_zero, List.set_cons_succ]
      obtain ⟨q3, q4, q5, bd, TD⟩ := HQ.out
      have T8 := TD.to b8
      have FIN := hide (T8.put hg5.out q5 (OwnPg.base (q3.to9 (bd.trans (b8.mono bd.size))) hB.out.bel.size) (rows_mono o8 TD.bel.size) (by have := pins_len key val ps; omega))
      obtain ⟨⟨J0, J1, J2⟩, JF⟩ := cells3p T8.tb
      clear q3 q4 q5 bd TD T8 o8 b8 KW x0 x1 x2 x3 x4 U0 U1 U2 d3 d4 HQ
      go_wp2
      go_roundw
      case rel => exact ⟨k + 1, _, rfl, by omega, by omega, by go_num, ⟨u, _, _, FIN.out⟩⟩
      case measure => simp [intOf]; omega
     ·have hne : (err != 0) = true := by simpa using herr
      have hpe : Hid (perr t key val = err) := by
       show _ = _
       rcases hC.out.2.2.1 with ⟨_, q⟩ | ⟨q, _⟩
       ·rcases q with q | ⟨_, _, q3⟩
        ·exact q.symm
        ·exfalso; have := hn16.out; omega
       ·exact absurd q herr
      have KP : Hid (∀ w9, Below wc.heap.size wc w9 → Calls Tryz.prog 11 #[.agg #[.int .i64 root, .int .i64 next, .slice pa pn pc]] w9 fun e w6 => ∃ a6 c6, e = .returned (.agg #[.int .i64 root, .int .i64 next, .slice a6 pn c6]) ∧ OwnPr w9.heap.size w6 (.slice a6 pn c6) t.pages ∧ Below w9.heap.size w9 w6) := fun w9 b9 => by
       have h9 := ppg10_any w9 t (.slice pa pn pc) (TC.out.bu.to b9).own.rd TC.out.bu.len TC.out.bu.big
       dsimp only [tv] at h9
       rw [← hrn.out, ← hnn.out] at h9
       refine Calls.mono h9 ?_
       rintro e w6 ⟨pv6, rfl, o6, b6⟩
       obtain ⟨a6, c6, h6⟩ := o6.shape
       rw [← hpn.out] at h6
       subst h6
       exact ⟨a6, c6, rfl, o6, b6⟩
      have KE : Hid (∀ w9 a6 c6, RdC w9 (.slice a6 pn c6) t.pages → Calls Tryz.prog 21 #[.agg #[.int .i64 root, .int .i64 next, .slice a6 pn c6], st key, st val] w9 fun e w6 => e = .returned (.int .i64 err) ∧ Below w9.heap.size w9 w6) := fun w9 a6 c6 r9 => by
       have h9 := rputerr_any w9 t (.slice a6 pn c6) key val hkl.out hvl.out r9
       dsimp only [tv] at h9
       rw [← hrn.out, ← hnn.out, hpe.out] at h9
       exact h9
      have HS : Hid (∀ w9, Below wc.heap.size wc w9 → w9.cell? ⟨g5, 0, none⟩ = some (.int .i64 root) ∧ w9.cell? ⟨g5, 1, none⟩ = some (.int .i64 next) ∧ w9.cell? ⟨g5, 2, none⟩ = some (.slice pa pn pc) ∧ w9.cell? ⟨sb, so + k * 3 + 1, none⟩ = some (st key) ∧ w9.cell? ⟨sb, so + k * 3 + 2, none⟩ = some (st val)) := fun w9 b9 => HSF.out w9 (hC.out.1.trans (b9.mono hC.out.1.size))
      have b0 : Below wc.heap.size wc wc.drew := (Below.refl _ _).drew
      replace herr := hide herr
      go_upto_region 9 with fail
      refine wp_region_fan (fun w9 => w9.cell? ⟨g5, 0, none⟩ = some (.int .i64 root) ∧ w9.cell? ⟨g5, 1, none⟩ = some (.int .i64 next) ∧ w9.cell? ⟨g5, 2, none⟩ = some (.slice pa pn pc) ∧ w9.cell? ⟨sb, so + k * 3 + 1, none⟩ = some (st key) ∧ w9.cell? ⟨sb, so + k * 3 + 2, none⟩ = some (st val)) 14 mixed (by simp) ?_
      generalize wc.drew = c0 at *
      refine fan_take (i := 0) (v := ?_) rfl (by kernel_rfl) (fun _ _ _ _ h => h) (by kernel_rfl) (HS.out _ b0) ?_ ?_
      rotate_left
      ·rintro w9 ⟨t0, t1, t2, t3, t4⟩
       go_simp
       try with_reducible rfl
      try simp only [Act.put, List.setIfInBounds_toArray, List.set_cons_zero, List.set_cons_succ]
      refine fan_take (i := 2) (v := ?_) rfl (by kernel_rfl) (fun _ _ _ _ h => h) (by kernel_rfl) (HS.out _ b0) ?_ ?_
      rotate_left
      ·rintro w9 ⟨t0, t1, t2, t3, t4⟩
       go_simp
       try with_reducible rfl
      try simp only [Act.put, List.setIfInBounds_toArray, List.set_cons_zero, List.set_cons_succ]
      refine fan_take (i := 3) (v := ?_) rfl (by kernel_rfl) (fun _ _ _ _ h => h) (by kernel_rfl) (HS.out _ b0) ?_ ?_
      rotate_left
      ·rintro w9 ⟨t0, t1, t2, t3, t4⟩
       go_simp
       try with_reducible rfl
      try simp only [Act.put, List.setIfInBounds_toArray, List.set_cons_zero, List.set_cons_succ]
      refine fan_take (i := 4) (v := ?_) rfl (by kernel_rfl) (fun _ _ _ _ h => h) (by kernel_rfl) (HS.out _ b0) ?_ ?_
      rotate_left
      ·rintro w9 ⟨t0, t1, t2, t3, t4⟩
       go_simp
       try with_reducible rfl
      try simp only [Act.put, List.setIfInBounds_toArray, List.set_cons_zero, List.set_cons_succ]
      refine fan_take (i := 5) (v := ?_) rfl (by kernel_rfl) (fun _ _ _ _ h => h) (by kernel_rfl) (HS.out _ b0) ?_ ?_
      rotate_left
      ·rintro w9 ⟨t0, t1, t2, t3, t4⟩
       go_simp
       try with_reducible rfl
      try simp only [Act.put, List.setIfInBounds_toArray, List.set_cons_zero, List.set_cons_succ]
      refine fan_take (i := 6) (v := ?_) rfl (by kernel_rfl) (fun _ _ _ _ h => h) (by kernel_rfl) (HS.out _ b0) ?_ ?_
      rotate_left
      ·rintro w9 ⟨t0, t1, t2, t3, t4⟩
       go_simp
       try with_reducible rfl
      try simp only [Act.put, List.setIfInBounds_toArray, List.set_cons_zero, List.set_cons_succ]
      refine fan_take (i := 7) (v := ?_) rfl (by kernel_rfl) (fun _ _ _ _ h => h) (by kernel_rfl) (HS.out _ b0) ?_ ?_
      rotate_left
      ·rintro w9 ⟨t0, t1, t2, t3, t4⟩
       go_simp
       try with_reducible rfl
      try simp only [Act.put, List.setIfInBounds_toArray, List.set_cons_zero, List.set_cons_succ]
      refine fan_take (i := 8) (v := ?_) rfl (by kernel_rfl) (fun _ _ _ _ h => h) (by kernel_rfl) (HS.out _ b0) ?_ ?_
      rotate_left
      ·rintro w9 ⟨t0, t1, t2, t3, t4⟩
       go_simp
       try with_reducible rfl
      try simp only [Act.put, List.setIfInBounds_toArray, List.set_cons_zero, List.set_cons_succ]
      refine fan_take (i := 9) (v := ?_) rfl (by kernel_rfl) (fun _ _ _ _ h => h) (by kernel_rfl) (HS.out _ b0) ?_ ?_
      rotate_left
      ·rintro w9 ⟨t0, t1, t2, t3, t4⟩
       go_simp
       try with_reducible rfl
      try simp only [Act.put, List.setIfInBounds_toArray, List.set_cons_zero, List.set_cons_succ]
      refine fan_take (i := 10) (v := ?_) rfl (by kernel_rfl) (fun _ _ _ _ h => h) (by kernel_rfl) (HS.out _ b0) ?_ ?_
      rotate_left
      ·rintro w9 ⟨t0, t1, t2, t3, t4⟩
       go_simp
       try with_reducible rfl
      try simp only [Act.put, List.setIfInBounds_toArray, List.set_cons_zero, List.set_cons_succ]
      refine fan_take (i := 11) (v := ?_) rfl (by kernel_rfl) (fun _ _ _ _ h => h) (by kernel_rfl) (HS.out _ b0) ?_ ?_
      rotate_left
      ·rintro w9 ⟨t0, t1, t2, t3, t4⟩
       go_simp
       try with_reducible rfl
      try simp only [Act.put, List.setIfInBounds_toArray, List.set_cons_zero, List.set_cons_succ]
      refine fan_take (i := 13) (v := ?_) rfl (by kernel_rfl) (fun _ _ _ _ h => h) (by kernel_rfl) (HS.out _ b0) ?_ ?_
      rotate_left
      ·rintro w9 ⟨t0, t1, t2, t3, t4⟩
       go_simp
       try with_reducible rfl
      try simp only [Act.put, List.setIfInBounds_toArray, List.set_cons_zero, List.set_cons_succ]
      refine fan_one 1 (by kernel_rfl) ?_
      refine fan_step rfl (by kernel_rfl) fun K hK => ?_
      refine wp_call_of 11 _ _ (by rfl) #[.agg #[.int .i64 root, .int .i64 next, .slice pa pn pc]] (by simp [Act.eval]) (Tryz.call11 _ _) (KP.out _ b0) ?_
      rintro e c1 ⟨a6, c6, rfl, o6, bF⟩
      have b1 := b0.trans (bF.mono b0.size)
      clear bF
      refine ⟨_, rfl, hK _ _ (HS.out _ b1) ?_⟩
      clear hK K
      try simp only [Act.put, List.setIfInBounds_toArray, List.set_cons_zero, List.set_cons_succ]
      refine fan_one 12 (by kernel_rfl) ?_
      refine fan_step rfl (by kernel_rfl) fun K hK => ?_
      refine wp_call_of 21 _ _ (by rfl) #[.agg #[.int .i64 root, .int .i64 next, .slice a6 pn c6], st key, st val] (by simp [Act.eval]) (Tryz.call21 _ _) (KE.out _ _ _ o6.rd) ?_
      rintro e c2 ⟨rfl, bF⟩
      have b2 := b1.trans (bF.mono b1.size)
      clear bF
      refine ⟨_, rfl, hK _ _ (HS.out _ b2) ?_⟩
      clear hK K
      try simp only [Act.put, List.setIfInBounds_toArray, List.set_cons_zero, List.set_cons_succ]
      refine fan_done (by kernel_rfl) ?_
      show wpList _ _ _ _ _ _
      have KN2 := hide (pnum10_any c2 err)
      have FIN := hide (TC.out.to b2).succ
      clear b2 b1 b0 o6 KP KE
      have hee : (err != err) = false := by simp
      go_wp2_with fail
      refine KN2.out.mono ?_
      rintro e w7 ⟨rfl, rfl⟩
      go_wp2
      go_roundw
      case rel => exact ⟨k + 1, _, rfl, by omega, by omega, by go_num, ⟨t, _, _, FIN.out⟩⟩
      case measure => simp [intOf]; omega
   ·have hq0 : (wh == 0) = false := by simpa using h0
    go_upto_region 12 with fail
    have KU : Hid (∀ w9, Below wr.heap.size wr w9 → Calls Tryz.prog 22 #[.agg #[.int .i64 root, .int .i64 next, .slice pa pn pc], st key] w9 fun e w6 => ∃ u ua un9 uc was err, e = .returned (.tuple #[.agg #[.int .i64 u.root, .int .i64 u.next, .slice ua un9 uc], .bool was, .int .i64 err]) ∧ DelB w9.heap.size w6 t key u (.slice ua un9 uc) was err ∧ Below w9.heap.size w9 w6) := fun w9 b9 => by
     have h9 := pdel_any w9 t (.slice pa pn pc) key (hB.out.bu.to b9).own.rd hB.out.bu.big hB.out.bu.rwf hkl.out
     dsimp only [tv] at h9
     rw [← hrn.out, ← hnn.out] at h9
     exact Calls.mono h9 fun e w6 h => h.to
    go_cut [10, 11, 12] from 16 to 129 (fun pp qq ee wx => ∃ (g7 : Nat) (u : Tr) (ua : Option Addr) (un9 uc : Nat) (was : Bool) (err : Int), pp = .pointer (some ⟨g7, 0, none⟩) ∧ qq = .bool was ∧ ee = .int .i64 err ∧ Hid (Below wr.heap.size wr wx ∧ wx.heap[g7]? = some (.cells #[.int .i64 u.root, .int .i64 u.next, .slice ua un9 uc] 27 (0, 0)) ∧ DelB wr.heap.size wx t key u (.slice ua un9 uc) was err ∧ wr.heap.size ≤ g7))
    case first =>
     have HS := HSF
     have b0 : Below wr.heap.size wr wr.drew := (Below.refl _ _).drew
     refine wp_region_fan (fun w9 => w9.cell? ⟨g5, 0, none⟩ = some (.int .i64 root) ∧ w9.cell? ⟨g5, 1, none⟩ = some (.int .i64 next) ∧ w9.cell? ⟨g5, 2, none⟩ = some (.slice pa pn pc) ∧ w9.cell? ⟨sb, so + k * 3 + 1, none⟩ = some (st key) ∧ w9.cell? ⟨sb, so + k * 3 + 2, none⟩ = some (st val)) 14 mixed (by simp) ?_
     generalize wr.drew = c0 at *
     clear A0 A1 A2 AF s0 s1 s2
     refine fan_take (i := 0) (v := ?_) rfl (by kernel_rfl) (fun _ _ _ _ h => h) (by kernel_rfl) (HS.out _ b0) ?_ ?_
     rotate_left
     ·rintro w9 ⟨t0, t1, t2, t3, t4⟩
      go_simp
      try with_reducible rfl
     try simp only [Act.put, List.setIfInBounds_toArray, List.set_cons_zero, List.set_cons_succ]
     refine fan_take (i := 1) (v := ?_) rfl (by kernel_rfl) (fun _ _ _ _ h => h) (by kernel_rfl) (HS.out _ b0) ?_ ?_
     rotate_left
     ·rintro w9 ⟨t0, t1, t2, t3, t4⟩
      go_simp
      try with_reducible rfl
     try simp only [Act.put, List.setIfInBounds_toArray, List.set_cons_zero, List.set_cons_succ]
     refine fan_take (i := 2) (v := ?_) rfl (by kernel_rfl) (fun _ _ _ _ h => h) (by kernel_rfl) (HS.out _ b0) ?_ ?_
     rotate_left
     ·rintro w9 ⟨t0, t1, t2, t3, t4⟩
      go_simp
      try with_reducible rfl
     try simp only [Act.put, List.setIfInBounds_toArray, List.set_cons_zero, List.set_cons_succ]
     refine fan_take (i := 3) (v := ?_) rfl (by kernel_rfl) (fun _ _ _ _ h => h) (by kernel_rfl) (HS.out _ b0) ?_ ?_
     rotate_left
     ·rintro w9 ⟨t0, t1, t2, t3, t4⟩
      go_simp
      try with_reducible rfl
     try simp only [Act.put, List.setIfInBounds_toArray, List.set_cons_zero, List.set_cons_succ]
     refine fan_take (i := 4) (v := ?_) rfl (by kernel_rfl) (fun _ _ _ _ h => h) (by kernel_rfl) (HS.out _ b0) ?_ ?_
     rotate_left
     ·rintro w9 ⟨t0, t1, t2, t3, t4⟩
      go_simp
      try with_reducible rfl
     try simp only [Act.put, List.setIfInBounds_toArray, List.set_cons_zero, List.set_cons_succ]
     refine fan_take (i := 5) (v := ?_) rfl (by kernel_rfl) (fun _ _ _ _ h => h) (by kernel_rfl) (HS.out _ b0) ?_ ?_
     rotate_left
     ·rintro w9 ⟨t0, t1, t2, t3, t4⟩
      go_simp
      try with_reducible rfl
     try simp only [Act.put, List.setIfInBounds_toArray, List.set_cons_zero, List.set_cons_succ]
     refine fan_two 6 11 (by kernel_rfl) ?_ ?_
     ·
      refine fan_step rfl (by kernel_rfl) fun K hK => ?_
      refine wp_call_of 22 _ _ (by rfl) #[.agg #[.int .i64 root, .int .i64 next, .slice pa pn pc], st key] (by simp [Act.eval]) (Tryz.call22 _ _) (KU.out _ b0) ?_
      rintro e c2 ⟨u, ua, un9, uc, was, err, rfl, pB, bF⟩
      have b2 := b0.trans (bF.mono b0.size)
      replace pB := pB.base (B := wr.heap.size) b0.size
      clear bF
      refine ⟨_, rfl, hK _ _ (HS.out _ b2) ?_⟩
      clear hK K
      try simp only [Act.put, List.setIfInBounds_toArray, List.set_cons_zero, List.set_cons_succ]
      refine fan_take (i := 7) (v := ?_) rfl (by kernel_rfl) (fun _ _ _ _ h => h) (by kernel_rfl) (HS.out _ b2) ?_ ?_
      rotate_left
      ·rintro w9 ⟨t0, t1, t2, t3, t4⟩
       go_simp
       try with_reducible rfl
      try simp only [Act.put, List.setIfInBounds_toArray, List.set_cons_zero, List.set_cons_succ]
      refine fan_take (i := 8) (v := ?_) rfl (by kernel_rfl) (fun _ _ _ _ h => h) (by kernel_rfl) (HS.out _ b2) ?_ ?_
      rotate_left
      ·rintro w9 ⟨t0, t1, t2, t3, t4⟩
       go_simp
       try with_reducible rfl
      try simp only [Act.put, List.setIfInBounds_toArray, List.set_cons_zero, List.set_cons_succ]
      refine fan_take (i := 9) (v := ?_) rfl (by kernel_rfl) (fun _ _ _ _ h => h) (by kernel_rfl) (HS.out _ b2) ?_ ?_
      rotate_left
      ·rintro w9 ⟨t0, t1, t2, t3, t4⟩
       go_simp
       try with_reducible rfl
      try simp only [Act.put, List.setIfInBounds_toArray, List.set_cons_zero, List.set_cons_succ]
      refine fan_take (i := 10) (v := ?_) rfl (by kernel_rfl) (fun _ _ _ _ h => h) (by kernel_rfl) (HS.out _ b2) ?_ ?_
      rotate_left
      ·rintro w9 ⟨t0, t1, t2, t3, t4⟩
       go_simp
       try with_reducible rfl
      try simp only [Act.put, List.setIfInBounds_toArray, List.set_cons_zero, List.set_cons_succ]
      refine fan_one 11 (by kernel_rfl) ?_
      refine fan_step rfl (by kernel_rfl) fun K hK => ?_
      go_simp
      obtain ⟨c3, hc, h7, bc, sc⟩ := boxedN c2 #[.int .i64 0, .int .i64 0, .slice none 0 0] 27
      rw [← hc]
      have b3 := b2.trans (bc.mono b2.size)
      obtain ⟨g7, hg⟩ : ∃ g, g = c2.heap.size := ⟨_, rfl⟩
      rw [← hg] at h7
      rw [← hg]
      have lg7 : wr.heap.size ≤ g7 := by have := b2.size; omega
      replace pB := pB.to bc
      refine hK _ _ (HS.out _ b3) ?_
      clear hK K hc bc sc hg
      try simp only [Act.put, List.setIfInBounds_toArray, List.set_cons_zero, List.set_cons_succ]
      refine fan_one 12 (by kernel_rfl) ?_
      have y9 := cells3p h7
      obtain ⟨⟨y0, y1, y2⟩, yF⟩ := y9
      refine fan_step rfl (by kernel_rfl) fun K hK => ?_
      go_simp
      obtain ⟨d1, hd⟩ : ∃ d, d = ((c3.setCell ⟨g7, 0, none⟩ (.int .i64 u.root)).setCell ⟨g7, 1, none⟩ (.int .i64 u.next)).setCell ⟨g7, 2, none⟩ (.slice ua un9 uc) := ⟨_, rfl⟩
      rw [← hd]
      have e1 : Below wr.heap.size wr d1 := by rw [hd]; exact below_set3t b3 lg7 _ _ _
      have i7 : d1.heap[g7]? = some (.cells #[(.int .i64 u.root), (.int .i64 u.next), (.slice ua un9 uc)] 27 (0, 0)) := by rw [hd]; exact heap_set3t h7 _ _ _
      have kd := fun e (he : e ≠ 27) => s3_keep9 h7 (.int .i64 u.root) (.int .i64 u.next) (.slice ua un9 uc) he
      rw [← hd] at kd
      have pD := pB.keep kd
      refine hK _ _ (HS.out _ e1) ?_
      clear hK K y0 y1 y2 yF hd kd
      try simp only [Act.put, List.setIfInBounds_toArray, List.set_cons_zero, List.set_cons_succ]
      refine fan_take (i := 13) (v := ?_) rfl (by kernel_rfl) (fun _ _ _ _ h => h) (by kernel_rfl) (HS.out _ e1) ?_ ?_
      rotate_left
      ·rintro w9 ⟨t0, t1, t2, t3, t4⟩
       go_simp
       try with_reducible rfl
      try simp only [Act.put, List.setIfInBounds_toArray, List.set_cons_zero, List.set_cons_succ]
      refine fan_done (by kernel_rfl) ?_
      show wpList _ _ _ _ _ _
      have FIN := hide (And.intro e1 (And.intro i7 (And.intro pD lg7)))
      clear e1 i7 pD pB lg7 h7
      go_wp2_with fail
      go_meet
      exact ⟨g7, u, _, _, _, was, err, rfl, rfl, rfl, FIN⟩
     ·
      refine fan_step rfl (by kernel_rfl) fun K hK => ?_
      go_simp
      obtain ⟨c2, hc, h7, bc, sc⟩ := boxedN c0 #[.int .i64 0, .int .i64 0, .slice none 0 0] 27
      rw [← hc]
      have b2 := b0.trans (bc.mono b0.size)
      obtain ⟨g7, hg⟩ : ∃ g, g = c0.heap.size := ⟨_, rfl⟩
      rw [← hg] at h7
      rw [← hg]
      have lg7 : wr.heap.size ≤ g7 := by have := b0.size; omega
      refine hK _ _ (HS.out _ b2) ?_
      clear hK K hc bc sc hg
      try simp only [Act.put, List.setIfInBounds_toArray, List.set_cons_zero, List.set_cons_succ]
      refine fan_one 6 (by kernel_rfl) ?_
      refine fan_step rfl (by kernel_rfl) fun K hK => ?_
      refine wp_call_of 22 _ _ (by rfl) #[.agg #[.int .i64 root, .int .i64 next, .slice pa pn pc], st key] (by simp [Act.eval]) (Tryz.call22 _ _) (KU.out _ b2) ?_
      rintro e c3 ⟨u, ua, un9, uc, was, err, rfl, pB, bF⟩
      have b3 := b2.trans (bF.mono b2.size)
      replace pB := pB.base (B := wr.heap.size) b2.size
      replace h7 := (bF.block _ (lt_of_block h7)).trans h7
      clear bF
      refine ⟨_, rfl, hK _ _ (HS.out _ b3) ?_⟩
      clear hK K
      try simp only [Act.put, List.setIfInBounds_toArray, List.set_cons_zero, List.set_cons_succ]
      refine fan_take (i := 7) (v := ?_) rfl (by kernel_rfl) (fun _ _ _ _ h => h) (by kernel_rfl) (HS.out _ b3) ?_ ?_
      rotate_left
      ·rintro w9 ⟨t0, t1, t2, t3, t4⟩
       go_simp
       try with_reducible rfl
      try simp only [Act.put, List.setIfInBounds_toArray, List.set_cons_zero, List.set_cons_succ]
      refine fan_take (i := 8) (v := ?_) rfl (by kernel_rfl) (fun _ _ _ _ h => h) (by kernel_rfl) (HS.out _ b3) ?_ ?_
      rotate_left
      ·rintro w9 ⟨t0, t1, t2, t3, t4⟩
       go_simp
       try with_reducible rfl
      try simp only [Act.put, List.setIfInBounds_toArray, List.set_cons_zero, List.set_cons_succ]
      refine fan_take (i := 9) (v := ?_) rfl (by kernel_rfl) (fun _ _ _ _ h => h) (by kernel_rfl) (HS.out _ b3) ?_ ?_
      rotate_left
      ·rintro w9 ⟨t0, t1, t2, t3, t4⟩
       go_simp
       try with_reducible rfl
      try simp only [Act.put, List.setIfInBounds_toArray, List.set_cons_zero, List.set_cons_succ]
      refine fan_take (i := 10) (v := ?_) rfl (by kernel_rfl) (fun _ _ _ _ h => h) (by kernel_rfl) (HS.out _ b3) ?_ ?_
      rotate_left
      ·rintro w9 ⟨t0, t1, t2, t3, t4⟩
       go_simp
       try with_reducible rfl
      try simp only [Act.put, List.setIfInBounds_toArray, List.set_cons_zero, List.set_cons_succ]
      refine fan_one 12 (by kernel_rfl) ?_
      have y9 := cells3p h7
      obtain ⟨⟨y0, y1, y2⟩, yF⟩ := y9
      refine fan_step rfl (by kernel_rfl) fun K hK => ?_
      go_simp
      obtain ⟨d1, hd⟩ : ∃ d, d = ((c3.setCell ⟨g7, 0, none⟩ (.int .i64 u.root)).setCell ⟨g7, 1, none⟩ (.int .i64 u.next)).setCell ⟨g7, 2, none⟩ (.slice ua un9 uc) := ⟨_, rfl⟩
      rw [← hd]
      have e1 : Below wr.heap.size wr d1 := by rw [hd]; exact below_set3t b3 lg7 _ _ _
      have i7 : d1.heap[g7]? = some (.cells #[(.int .i64 u.root), (.int .i64 u.next), (.slice ua un9 uc)] 27 (0, 0)) := by rw [hd]; exact heap_set3t h7 _ _ _
      have kd := fun e (he : e ≠ 27) => s3_keep9 h7 (.int .i64 u.root) (.int .i64 u.next) (.slice ua un9 uc) he
      rw [← hd] at kd
      have pD := pB.keep kd
      refine hK _ _ (HS.out _ e1) ?_
      clear hK K y0 y1 y2 yF hd kd
      try simp only [Act.put, List.setIfInBounds_toArray, List.set_cons_zero, List.set_cons_succ]
      refine fan_take (i := 13) (v := ?_) rfl (by kernel_rfl) (fun _ _ _ _ h => h) (by kernel_rfl) (HS.out _ e1) ?_ ?_
      rotate_left
      ·rintro w9 ⟨t0, t1, t2, t3, t4⟩
       go_simp
       try with_reducible rfl
      try simp only [Act.put, List.setIfInBounds_toArray, List.set_cons_zero, List.set_cons_succ]
      refine fan_done (by kernel_rfl) ?_
      show wpList _ _ _ _ _ _
      have FIN := hide (And.intro e1 (And.intro i7 (And.intro pD lg7)))
      clear e1 i7 pD pB lg7 h7
      go_wp2_with fail
      go_meet
      exact ⟨g7, u, _, _, _, was, err, rfl, rfl, rfl, FIN⟩
    case rest =>
     obtain ⟨g7, u, ua, un9, uc, was, err, rfl, rfl, rfl, hC⟩ := hcut
     have TC := hide (hB.out.to hC.out.1)
     have hwl := (tprs_num hB.out.bu.prs).2.1
     have KW := hide (rwo_any wc wv want key (OwnP.rd TC.out.bu.wnt) (by omega))
     obtain ⟨IS, hIS⟩ : ∃ b, b = phas want key := ⟨_, rfl⟩
     rw [← hIS] at KW
     replace hIS := hide hIS
     clear A0 A1 A2 AF s0 s1 s2 KU hwl
     obtain ⟨_, _, _, s1, s2⟩ := HSF.out wc hC.out.1
     go_wp2_with fail
     refine KW.out.mono ?_
     rintro e w4 ⟨v4, rfl, o4, b4⟩
     have T4 := hide (TC.out.to b4)
     have G7 := hide ((b4.block _ (lt_of_block hC.out.2.1)).trans hC.out.2.1)
     have KN := hide (pnum10_any w4 err)
     clear s1 s2
     obtain ⟨_, _, _, s1, s2⟩ := HSF.out w4 (hC.out.1.trans (b4.mono hC.out.1.size))
     have O4 := hide o4
     have B4 := hide b4
     clear o4 b4 KW
     go_wp2_with fail
     refine KN.out.mono ?_
     rintro e w5 ⟨rfl, rfl⟩
     by_cases herr : err = 0
     ·subst herr
      rcases hC.out.2.2.1 with ⟨q, _⟩ | ⟨_, q2, q3, ps, q4, q5, q6⟩
      ·exact absurd rfl q
      obtain rfl : ps = want := Option.some.inj (q4.symm.trans hB.out.bu.prs)
      obtain rfl : was = IS := q5.trans hIS.out.symm
      have hbb : (was != was) = false := by simp
      have FIN := hide (T4.out.put hg5.out q6 (OwnPg.base (q3.to9 B4.out) hB.out.bel.size) (rows_mono O4.out TC.out.bel.size) (by have := pdel_len key ps; omega))
      obtain ⟨⟨J0, J1, J2⟩, JF⟩ := cells3p T4.out.tb
      obtain ⟨⟨U0, U1, U2⟩, _⟩ := cells3p G7.out
      replace q2 := hide q2
      replace q5 := hide q5
      clear q3 q4 q6 KN s1 s2
      go_wp2
      go_roundw
      case rel => exact ⟨k + 1, _, rfl, by omega, by omega, by go_num, ⟨u, _, _, FIN.out⟩⟩
      case measure => simp [intOf]; omega
     ·have hne : (err != 0) = true := by simpa using herr
      have htk : tkey key = false := by
       rcases hC.out.2.2.1 with ⟨_, q⟩ | ⟨q, _⟩
       ·rcases q with q | q | q
        ·rw [hB.out.bu.prs] at q; cases q
        ·exact q
        ·exfalso; have := hn16.out; omega
       ·exact absurd q herr
      have htl : ¬ (1 ≤ key.length ∧ key.length ≤ 32) := by unfold tkey at htk; exact of_decide_eq_false htk
      have FIN := hide T4.out.succ
      replace herr := hide herr
      replace htk := hide htk
      by_cases k1 : 1 ≤ key.length
      ·have k1' : (key.length : Int) ≥ 1 := by omega
       have k2' : ¬ (key.length : Int) ≤ 32 := by omega
       replace htl := hide htl
       go_wp2
       go_roundw
       case rel => exact ⟨k + 1, _, rfl, by omega, by omega, by go_num, ⟨t, _, _, FIN.out⟩⟩
       case measure => simp [intOf]; omega
      ·have k1' : ¬ (key.length : Int) ≥ 1 := by omega
       replace htl := hide htl
       go_wp2
       go_roundw
       case rel => exact ⟨k + 1, _, rfl, by omega, by omega, by go_num, ⟨t, _, _, FIN.out⟩⟩
       case measure => simp [intOf]; omega
  ·have hz : ¬ k < L ∨ (k < L ∧ ¬ k < 400) := by omega
   have HRB := hide hB.out.rb
   obtain ⟨⟨J0, J1, J2⟩, JF⟩ := cells3p HRB.out
   have ks := fun e (he : e ≠ 27) => s3_keep9 HRB.out (.int .i64 root) (.int .i64 next) (.slice pa pn pc) he
   have FIN := hide (And.intro ((hB.out.bu.keep ks).more hk4) (below_set3t hB.out.bel (Nat.le_refl _) (.int .i64 root) (.int .i64 next) (.slice pa pn pc)))
   clear ks hI
   rcases hz with hz | ⟨hz, hz4⟩
   ·have hq : ¬ (k : Int) < (L : Int) := by omega
    go_wp2
    refine retNTT rfl rfl w.heap.size rfl _ _ (0, 0) (heap_set3t HRB.out _ _ _) _ Tryz.underlying27 rfl info_tr _ rfl _ rfl ?_
    exact ⟨t, .slice pa pn pc, want, wv, by rw [hrn.out, hnn.out]; rfl, FIN.out.1, FIN.out.2⟩
   ·have hq : (k : Int) < (L : Int) := by omega
    have hq4 : ¬ (k : Int) < 400 := by omega
    go_wp2
    refine retNTT rfl rfl w.heap.size rfl _ _ (0, 0) (heap_set3t HRB.out _ _ _) _ Tryz.underlying27 rfl info_tr _ rfl _ rfl ?_
    exact ⟨t, .slice pa pn pc, want, wv, by rw [hrn.out, hnn.out]; rfl, FIN.out.1, FIN.out.2⟩
end Go.Proofs.YtgmkknonnidgaaaGreat

namespace Go.Proofs.YtgmkknonnidgaaaGreat
open Go.RowKit
theorem OwnB.put {B : Nat} {w : World} {v : Value} {zs : List UInt8} (h : OwnB B w v zs) (g k : Nat) (z : UInt8) : ∃ ys : List UInt8, ys.length = zs.length ∧ OwnB B (w.setCell ⟨g, k, none⟩ (enc z)) v ys := by
 rcases h.2 with ⟨rfl, h0⟩ | ⟨g', cap, cur, rfl, hb, hg, r⟩
 ·exact ⟨zs, rfl, h.1, .inl ⟨rfl, h0⟩⟩
 ·by_cases e : g' = g
  ·subst e
   have := (World.ownsRow.stored h k (enc z)).1
   refine ⟨zs.set k z, by simp, ?_⟩
   unfold OwnB
   rw [List.length_set, List.map_set]
   exact this
  ·exact ⟨zs, rfl, h.1, .inr ⟨g', cap, cur, rfl, hb, (Below.heap_setCell _ _ _ _ e).trans hg, r⟩⟩
def AllB (w w' : World) : Prop := ∀ (B : Nat) (v : Value) (zs : List UInt8), OwnB B w v zs → ∃ ys : List UInt8, ys.length = zs.length ∧ OwnB B w' v ys
theorem AllB.refl (w : World) : AllB w w := fun _ _ zs h => ⟨zs, rfl, h⟩
theorem AllB.trans {a b c : World} (h : AllB a b) (k : AllB b c) : AllB a c := fun B v zs x => by
 obtain ⟨ys, e1, h1⟩ := h B v zs x
 obtain ⟨us, e2, h2⟩ := k B v ys h1
 exact ⟨us, e2.trans e1, h2⟩
theorem AllB.below {w w' : World} (b : Below w.heap.size w w') : AllB w w' := fun _ _ zs h => ⟨zs, rfl, rows_to h b⟩
set_option maxRecDepth 100000 in
set_option maxHeartbeats 400000 in
theorem spoil_all (B : Nat) (w : World) (v : Value) (xs : List UInt8) (h : OwnB B w v xs) (hm : xs.length ≤ 140737488355328) :
  Calls Tryz.prog 17 #[v] w fun e w' => e = .returned (.tuple #[]) ∧ w.grownBy w' v.ownBlock ∧ AllB w w' := by
 rcases h.2 with ⟨rfl, h0⟩ | ⟨g, cap, cur, rfl, hb, hg, hn, hmx, hs, ht⟩
 ·go_enter Tryz.func17, Tryz.ntmps17
  go_wp2
  refine wp_loop_rounds 1 ?_
  rw [rounds_succ]
  go_wp2
  go_end0
  exact ⟨rfl, World.grownBy.refl _ _, AllB.refl _⟩
 ·obtain ⟨n, hnn⟩ : ∃ n, xs.length = n := ⟨_, rfl⟩
  unfold OwnB at h
  rw [hnn] at h hm ⊢
  have hn' := hnn
  have h0 : ∃ ys : List UInt8, ys.length = n ∧ w.ownsRow B 5 1 (.slice (some ⟨g, 0, none⟩) n cap) n (ys.map enc) := ⟨xs, hnn, h⟩
  have hA0 := hide (AllB.refl w)
  clear h hg hs ht hn hmx hnn
  go_enter Tryz.func17, Tryz.ntmps17
  go_wp2
  go_loopw [2] (fun i wr => ∃ k : Nat, k ≤ n ∧ i = .int .i64 k ∧ (∃ ys : List UInt8, ys.length = n ∧ wr.ownsRow B 5 1 (.slice (some ⟨g, 0, none⟩) n cap) n (ys.map enc)) ∧ w.grownBy wr (some g) ∧ Hid (AllB w wr)) (fun i _ => n - (intOf i).toNat)
  case atStart => exact ⟨0, Nat.zero_le _, rfl, h0, World.grownBy.refl _ _, hA0⟩
  case round =>
   obtain ⟨k, hk, rfl, ⟨ys, hyl, ho⟩, hgr, hAl⟩ := hrel
   clear h0
   by_cases hlt : k < n
   ·have hq : (k : Int) < (n : Int) := by omega
    have fz := ho.frozenAt k
    have cl : wr.cell? ⟨g, k, none⟩ = some (.int .u8 (bt ys k)) := by
     rw [ho.cellAt k (by omega)]
     simp [enc, bt, show k < ys.length by omega]
    have hx : bits .xor .u8 (bt ys k) 85 = ((ys.getD k 0 ^^^ 85).toNat : Int) := by
     unfold bt
     rw [show (85 : Int) = ((85 : Nat) : Int) from rfl, u8_xor_nat _ _ (UInt8.toNat_lt _) (by omega), UInt8.toNat_xor]
     rfl
    have hst := ho.stored k (enc (ys.getD k 0 ^^^ 85))
    have HS : Hid (∃ zs : List UInt8, zs.length = n ∧ (wr.setCell ⟨g, k, none⟩ (enc (ys.getD k 0 ^^^ 85))).ownsRow B 5 1 (.slice (some ⟨g, 0, none⟩) n cap) n (zs.map enc)) :=
     ⟨ys.set k (ys.getD k 0 ^^^ 85), by simpa using hyl, by rw [List.map_set]; exact hst.1⟩
    have HG : Hid (w.grownBy (wr.setCell ⟨g, k, none⟩ (enc (ys.getD k 0 ^^^ 85))) (some g)) :=
     grown_trans hgr hst.2
    have HA : Hid (AllB w (wr.setCell ⟨g, k, none⟩ (enc (ys.getD k 0 ^^^ 85)))) := hAl.out.trans fun B v zs h => h.put g k _
    have hbd := bt_bd ys k
    unfold enc at HS HG HA
    generalize (ys.getD k 0 ^^^ 85).toNat = z at *
    clear ho hgr hst hAl
    go_wp2
    go_roundw
    case rel => exact ⟨k + 1, by omega, by go_num, HS.out, HG.out, HA⟩
    case measure => simp [intOf]; omega
   ·go_wp2
    go_end0
    exact ⟨rfl, hgr, hAl.out⟩
structure OwI (B C : Nat) (w0 wr : World) : Prop where
 kt : ∀ e, e ≠ 5 → KeepT e w0 wr
 al : AllB w0 wr
 hi : ∀ j, C ≤ j → j < w0.heap.size → wr.heap[j]? = w0.heap[j]?
 bel : Below B w0 wr
theorem OwI.refl (B C : Nat) (w : World) : OwI B C w w := ⟨fun e _ => KeepT.refl e w, AllB.refl w, fun _ _ _ => rfl, Below.refl _ _⟩
theorem OwI.to {B C : Nat} {w0 wr w' : World} (h : OwI B C w0 wr) (hB : B ≤ w0.heap.size) (b : Below wr.heap.size wr w') : OwI B C w0 w' :=
 ⟨fun e he => (h.kt e he).trans (KeepT.below b), h.al.trans (AllB.below b), fun j h1 h2 => (b.block j (Nat.lt_of_lt_of_le h2 h.bel.size)).trans (h.hi j h1 h2), h.bel.trans (b.mono (Nat.le_trans hB h.bel.size))⟩
theorem OwI.spoil {B C : Nat} {w0 wr w' : World} {v : Value} {xs : List UInt8} (h : OwI B C w0 wr) (ho : OwnB B wr v xs) (hlt : ∀ g, v.ownBlock = some g → g < C) (hg : wr.grownBy w' v.ownBlock) (hA : AllB wr w') (hB : B ≤ w0.heap.size) : OwI B C w0 w' :=
 ⟨fun e he => (h.kt e he).trans (KeepT.grown ho hg he), h.al.trans hA,
  fun j h1 h2 => (hg.block j (Nat.lt_of_lt_of_le h2 h.bel.size) fun e => by have := hlt j e.symm; omega).trans (h.hi j h1 h2),
  h.bel.grown hg (Nat.le_trans hB h.bel.size) fun k hk => (World.ownsRow.lt ho k hk).1⟩
theorem OwnX.high {T B C : Nat} {w0 wr : World} {v : Value} {ws : List Wrt} (h : OwnX T C w0 v ws) (i : OwI B C w0 wr) (hT : T ≠ 5) : OwnX T C wr v ws := by
 obtain ⟨svs, h1, h2, h3⟩ := h
 refine ⟨svs, h1, rows_keepT h2 (i.kt T hT), fun k hk => ?_⟩
 obtain ⟨q1, q2⟩ := h3 k hk
 refine ⟨q1, ?_⟩
 rcases q2 with hn | ⟨g, cap, cur, hv, hgb, hg, r⟩
 ·exact .inl hn
 ·exact .inr ⟨g, cap, cur, hv, hgb, (i.hi g hgb (lt_of_block hg)).trans hg, r⟩
theorem OwnX.el {T B : Nat} {w : World} {v : Value} {ws : List Wrt} (h : OwnX T B w v ws) {i : Nat} {y : Wrt} (hy : ws[i]? = some y) : ∃ g cap sv, v = .slice (some ⟨g, 0, none⟩) ws.length cap ∧ OwnB B w sv y.2 ∧ ∀ w', KeepT T w w' → w'.cell? ⟨g, i * 2, none⟩ = some (.int .i64 y.1) ∧ w'.cell? ⟨g, i * 2 + 1, none⟩ = some sv := by
 obtain ⟨svs, h1, h2, h3⟩ := h
 have hi : i < ws.length := (List.getElem?_eq_some_iff.1 hy).1
 rcases h2.2 with ⟨rfl, h0⟩ | ⟨g, cap, cur, rfl, hgb, hg, hn, hm, hs, ht⟩
 ·omega
 ·obtain ⟨c1, c2⟩ := wcells_at ws svs i h1 hi
  have hr := h3 i hi
  rw [getD_some hy] at c1 hr
  refine ⟨g, cap, _, rfl, hr, fun w' k => ?_⟩
  have h2' := rows_keepT h2 k
  exact ⟨by rw [h2'.cellAt (i * 2) (by omega)]; exact c1, by rw [h2'.cellAt (i * 2 + 1) (by omega)]; exact c2⟩
theorem put_ok9 {B : Nat} {c : World} {t u : Tr} {k v : Str} {pv : Value} {err : Int} (h : PutB B c t k v u pv err) (hp : perr t k v = 0) (hn : t.next ≤ 65495) : err = 0 ∧ OwnPg B c pv u.pages ∧ ∃ ps, tprs t = some ps ∧ Chg t u (pins k v ps) := by
 rcases h with ⟨h1, h2 | ⟨_, _, h2⟩⟩ | ⟨h1, _, h2, h3⟩
 ·rw [hp] at h2; exact absurd h2 h1
 ·omega
 ·exact ⟨h1, h2, h3⟩
end Go.Proofs.YtgmkknonnidgaaaGreat

namespace Go.Proofs.YtgmkknonnidgaaaGreat
open Go.RowKit
end Go.Proofs.YtgmkknonnidgaaaGreat

namespace Go.Proofs.YtgmkknonnidgaaaGreat.treeOwn
open Go.ChangeShapes Go.WideShapes Go.ChangeAt Go.RowKit
theorem tscan_is {t : Tr} {ps : List Pr} (h : tprs t = some ps) (a b : Str) : tscan t a b = (pscan ps a b, 0) := by unfold tscan; rw [h]
theorem pscan_all (l : List Pr) : pscan l [] [] = l := by
 unfold pscan
 refine filter_all fun y _ => ?_
 unfold pin
 have : slt y.1 [] = false := by cases y.1 <;> rfl
 rw [this]
 rfl
set_option maxRecDepth 100000 in
set_option maxHeartbeats 16000000 in
theorem walk (w : World) (a0 : Option Addr) (len0 cap0 : Nat) (ls : List Sp3) (g0 : SSteps10.rd w [.slice a0 len0 cap0] ls) (m0 : ls.length * 40 ≤ 140737488351232 ∧ ∀ x ∈ ls, sp3fit x) (cs1 : Array Value) (x1 : Sp3) (g1 : SStep10.rd w cs1.toList x1) (m1 : sp3fit x1) :
  Calls Tryz.prog 4 #[.slice a0 len0 cap0, .agg cs1] w fun e w' => e = .returned (.bool true) ∧ Below w.heap.size w w' := by
 obtain ⟨v0, e0, R0⟩ := g0
 obtain rfl : v0 = .slice a0 len0 cap0 := by simpa using e0.symm
 have HF := hide m0.2
 have HR := hide R0
 rw [step_form g1]
 clear e0 m0 R0 g1 m1
 obtain ⟨z1, z2, z3⟩ := x1
 dsimp only
 obtain ⟨w0, hw0, D0, b0, s0⟩ := boxedN w #[.int .i64 z1, st z2, st z3] 49
 have KA := hide (palive10_any w0)
 have HW0 := hide b0
 rw [hw0] at KA
 clear D0 b0 s0
 go_enter Tryz.func4, Tryz.ntmps4
 go_wp2_with fail
 refine KA.out.mono ?_
 rintro e w1 ⟨rfl, b1⟩
 rw [← hw0] at b1
 replace hw0 := hide hw0
 replace b1 := HW0.out.trans (b1.mono HW0.out.size)
 clear KA HW0
 have KB := hide (pbuild_any w1 _ ls (HR.out.to0 b1) HF.out)
 have B1 := hide b1
 clear b1
 go_wp2_with fail
 refine KB.out.mono ?_
 rintro e w2 ⟨t, pv, want, wv, rfl, bu, b2⟩
 obtain ⟨pa, pc, hpv⟩ := bu.own.shape
 obtain ⟨pn, hpn⟩ : ∃ n, n = t.pages.length := ⟨_, rfl⟩
 rw [← hpn] at hpv
 subst hpv
 replace hpn := hide hpn
 obtain ⟨wa, wc, hwv⟩ := (OwnP.rd bu.wnt).slice
 obtain ⟨wn, hwn⟩ : ∃ n, n = want.length := ⟨_, rfl⟩
 rw [← hwn] at hwv
 subst hwv
 replace hwn := hide hwn
 obtain ⟨root, hrn⟩ : ∃ z, z = t.root := ⟨_, rfl⟩
 obtain ⟨next, hnn⟩ : ∃ z, z = t.next := ⟨_, rfl⟩
 dsimp only [tv]
 rw [← hrn, ← hnn]
 obtain ⟨W, hW, DW, bW, sW⟩ := boxedN w2 #[.int .i64 root, .int .i64 next, .slice pa pn pc] 27
 have BU := hide (bu.to bW)
 have B2 := hide (B1.out.trans ((b2.trans (bW.mono b2.size)).mono B1.out.size))
 obtain ⟨⟨A0, A1, A2⟩, AF⟩ := cells3p DW
 have hpr := hide bu.prs
 replace hrn := hide hrn
 replace hnn := hide hnn
 have KP := ppg10_any W t (.slice pa pn pc) BU.out.own.rd BU.out.len BU.out.big
 dsimp only [tv] at KP
 rw [← hrn.out, ← hnn.out] at KP
 replace KP := hide KP
 rw [hW] at A0 A1 A2 AF KP
 clear KB bu b2 DW bW sW
 go_wp2_with fail
 refine KP.out.mono ?_
 rintro e w3 ⟨pv3, rfl, o3, b3⟩
 rw [← hW] at b3 o3
 clear KP A0 A1 A2 AF
 obtain ⟨a3, c3, h3⟩ := o3.shape
 have KO := pof10_any w3 t pv3 o3.rd BU.out.len BU.out.big
 rw [← hpn.out] at h3
 subst h3
 dsimp only [tv] at KO
 rw [← hrn.out, ← hnn.out] at KO
 replace KO := hide KO
 replace hW := hide hW
 have B3 := hide (B2.out.trans (b3.mono B2.out.size))
 have BU3 := hide (BU.out.to b3)
 clear o3 b3
 go_wp2_with fail
 refine KO.out.mono ?_
 rintro e w4 ⟨pv4, rfl, o4, b4⟩
 clear KO
 obtain ⟨a4, c4, h4⟩ := o4.shape
 rw [← hpn.out] at h4
 subst h4
 obtain ⟨V, hV, DV, bV, sV⟩ := boxedN w4 #[.int .i64 root, .int .i64 next, .slice a4 pn c4] 27
 have b4V := b4.trans (bV.mono b4.size)
 have O4 := hide (o4.to9 bV)
 have BU4 := hide (BU3.out.to b4V)
 have B4 := hide (B3.out.trans (b4V.mono B3.out.size))
 have hC3 : Hid (w.heap.size ≤ w3.heap.size) := B3.out.size
 have hC4 : Hid (w3.heap.size ≤ V.heap.size) := b4V.size
 have HD := hide DV
 have KU := pput_any V t (.slice a4 pn c4) [107] [118] O4.out.rd BU.out.big BU.out.rwf (by decide)
 dsimp only [tv] at KU
 rw [← hrn.out, ← hnn.out] at KU
 replace KU := hide KU
 obtain ⟨⟨A0, A1, A2⟩, AF⟩ := cells3p DV
 rw [hV] at A0 A1 A2 AF KU
 clear o4 b4 DV bV sV b4V BU3 B3
 go_wp2_with fail
 refine KU.out.mono ?_
 rintro e w5 h5
 rw [← hV] at h5
 clear KU A0 A1 A2 AF
 replace hV := hide hV
 obtain ⟨u, a5, n5, c5, err, rfl, h6, b5⟩ := PutA.to h5
 have hcn := BU.out.cnt
 obtain ⟨rfl, o5, ps, hps, hC⟩ := put_ok9 h6 (perr_ok hpr.out (by decide) (by decide) (by omega)) (by have := BU.out.nxt; omega)
 rw [hpr.out] at hps
 cases hps
 obtain ⟨X, hX, DX, bX, sX⟩ := boxedN w5 #[.int .i64 u.root, .int .i64 u.next, .slice a5 n5 c5] 27
 have b5X := b5.trans (bX.mono b5.size)
 have OU := hide (o5.to9 bX)
 have O5 := hide (O4.out.to9 b5X)
 have WN := hide (BU4.out.to b5X).wnt
 have B5 := hide (B4.out.trans (b5X.mono B4.out.size))
 have T5 := (b5X.block _ (lt_of_block HD.out)).trans HD.out
 have HT := hide T5
 have HX := hide DX
 have hHC := hide hC
 have hsz : Hid (w3.heap.size ≤ X.heap.size) := Nat.le_trans hC4.out b5X.size
 have hI0 : Hid (OwI w3.heap.size V.heap.size X X) := OwI.refl _ _ _
 have hO4 := hide (fun (i : Nat) (y : Wrt) (hy : t.pages[i]? = some y) => OwnX.el O4.out hy)
 have hKT := hide (show ∀ e, KeepT e V X from fun e => KeepT.below b5X)
 have hAB := hide (AllB.below b5X)
 have hlen : pn ≤ 65536 := by
  have hT := (tprs_num hpr.out).1
  have h1 := tups_len hT.2.2.1 hT.1
  have h2 := hT.2.1
  rw [hpn.out]
  omega
 have hsm := hide BU.out.sml
 have hcn' := hide BU.out.cnt
 have hw1 : Hid (w.heap.size ≤ w1.heap.size) := B1.out.size
 have hpw := hide (pwith_pins (tprs_rise hpr.out) [107] [118]).symm
 clear h5 h6 b5 o5 hC sX b5X T5 hcn BU4 B4 bX DX
 go_wp2
 rw [← hX]
 replace hX := hide hX
 go_loopw [11] (fun p wr => ∃ k : Nat, k ≤ pn ∧ p = .int .i64 k ∧ Hid (OwI w3.heap.size V.heap.size X wr)) (fun p _ => pn - (intOf p).toNat)
 case atStart => exact ⟨0, Nat.zero_le _, rfl, hI0⟩
 case round =>
  obtain ⟨k, hk, rfl, hI⟩ := hrel
  have TR := hI.out.kt _ (by decide) _ _ _ HT.out
  have XR := hI.out.kt _ (by decide) _ _ _ HX.out
  obtain ⟨⟨A0, A1, A2⟩, AF⟩ := cells3p TR
  by_cases hlt : k < pn
  ·have hq : (k : Int) < (pn : Int) := by omega
   obtain ⟨y, hy⟩ := some_el t.pages (k := k) (by rw [← hpn.out]; exact hlt)
   obtain ⟨g, cap, sv, e1, ho, hc⟩ := hO4.out _ _ hy
   simp only [Value.slice.injEq] at e1
   obtain ⟨rfl, e2, rfl⟩ := e1
   obtain ⟨c1, c2⟩ := hc wr ((hKT.out _).trans (hI.out.kt _ (by decide)))
   obtain ⟨ys, hyl, hO⟩ := hI.out.al _ _ _ ((hAB.out _ _ _ ho).choose_spec.2)
   have hyl2 : ys.length = y.2.length := hyl.trans (hAB.out _ _ _ ho).choose_spec.1
   obtain ⟨sa, sc, rfl⟩ := hO.rd.slice
   have hlt9 := hide (fun q hq => (World.ownsRow.lt ho q hq).2)
   have hyb := hsm.out y (List.mem_of_getElem? hy)
   have KS := hide (spoil_all _ wr _ ys hO (by omega))
   have HO := hide hO
   obtain ⟨ysl, hysl⟩ : ∃ n, n = ys.length := ⟨_, rfl⟩
   rw [← hysl] at KS HO c2 hlt9
   replace hysl := hide hysl
   clear hc hyl hyl2 hyb ho hy hO TR XR e2
   go_wp2_with fail
   refine KS.out.mono ?_
   rintro e wn ⟨rfl, hg, hA⟩
   have hN : Hid (OwI w3.heap.size V.heap.size X wn) := hI.out.spoil HO.out hlt9.out hg hA hsz.out
   clear KS hg hA A0 A1 A2 AF c1 c2
   go_wp2
   go_roundw
   case rel => exact ⟨k + 1, by omega, by go_num, hN⟩
   case measure => simp [intOf]; omega
  ·have hq : ¬ (k : Int) < (pn : Int) := by omega
   have OUW := hide (OwnX.high OU.out hI.out (by decide))
   have WW : Hid (OwnP w.heap.size wr (.slice wa wn wc) want) := by
    refine rows_base (rows_keepT WN.out (hI.out.kt _ (by decide))) fun b hb => ?_
    have h1 := (World.ownsRow.lt WN.out b hb).1
    exact Nat.le_trans hw1.out h1
   have BR := hide (B5.out.trans (hI.out.bel.mono hC3.out))
   have HXR := hide XR
   clear TR XR
   go_wp2_with fail
   refine (pnum10_any _ _).mono ?_
   rintro e w7 ⟨rfl, rfl⟩
   clear A0 A1 A2 AF
   obtain ⟨⟨C0, C1, C2⟩, CF⟩ := cells3p HXR.out
   have KS := pscan10_any wr u (.slice a5 n5 c5) [] [] OUW.out.rd hHC.out.rwf
   rw [tscan_is hHC.out.prs, pscan_all] at KS
   dsimp only [tv] at KS
   replace KS := hide KS
   go_wp2_with fail
   refine KS.out.mono ?_
   rintro e w8 ⟨v8, rfl, o8, b8⟩
   clear KS C0 C1 C2 CF
   have KW := hide (rwith_any w8 (.slice wa wn wc) want [107] [118] (OwnP.rd (rows_to WW.out b8)) (by have := hcn'.out; omega))
   have R8 := hide (OwnP.rd o8)
   obtain ⟨va8, vc8, hv8⟩ := R8.out.slice
   subst hv8
   have B8 := hide (BR.out.trans (b8.mono BR.out.size))
   clear o8 b8
   dsimp only
   go_wp2_with fail
   refine (pnum10_any _ _).mono ?_
   rintro e w7 ⟨rfl, rfl⟩
   go_wp2_with fail
   refine KW.out.mono ?_
   rintro e w9 ⟨v9, rfl, o9, b9⟩
   clear KW
   have KE := hide (samep_any w9 _ _ _ _ (R8.out.to0 b9) (OwnP.rd o9))
   rw [decide_eq_true hpw.out] at KE
   have B9 := hide (B8.out.trans (b9.mono B8.out.size))
   clear o9 b9
   go_wp2_with fail
   refine KE.out.mono ?_
   rintro e w10 ⟨rfl, b10⟩
   have BZ := hide (B9.out.trans (b10.mono B9.out.size))
   clear KE b10
   go_wp2
   go_ret
   exact ⟨rfl, BZ.out⟩
set_option maxRecDepth 100000 in
theorem lifted (os : Os) (started : os.Started) (H : Type) (enc : TypeId × Value → H) :
  ReturnsInHanded {} Tryz.checked os 4 .any (Rows.treeOwnSpec.pre6 enc Tryz.prog Tryz.f4 Rows.treeOwnRow.domain false) (Rows.treeOwnSpec.post enc Tryz.prog Tryz.f4 false true false false) := by
 refine returnsInHanded_of_change_sized (C := Tryz.checked) own started (by kernel_rfl) Tryz.func4
  (ChangeSpec.witness6 (enc := enc) (C := Tryz.checked) false ⟨#[], #[.slice none 0 0, .agg #[.int .i64 0, .string ⟨#[]⟩, .string ⟨#[]⟩]], []⟩ 8 (by kernel_rfl) (by kernel_rfl) (by kernel_rfl) (by kernel_rfl)) ?_
 intro W base args ds gs before hval0 hW hcnd hsz0 _
 have hsz : (DataW.weightsEach Tryz.prog (Tryz.f4.params.toList ++ Rows.treeOwnSpec.plain.varTypes Tryz.prog) (ds ++ gs)).all (· ≤ reachBytes) = true := hsz0
 have hval : ∀ (j : Nat) t v, Tryz.f4.params[j]? = some t → args[j]? = some v → Value.okWide Tryz.prog W .any base t v := hval0
 have hW' := hW
 obtain ⟨p, q, hA0, hV, rfl, hfz, hnd⟩ := hW
 have hA : DataW.TrodAll enc Tryz.prog W 0 (fun _ => true) true Tryz.f4.params.toList args.toList ds p := hA0
 rw [Tryz.params4] at hA hval hsz
 obtain ⟨v0, vs0, d0, ds0, p0, q0, hargs, rfl, rfl, h0, r0⟩ := trodAll_cons hA
 obtain ⟨v1, vs1, d1, ds1, p1, q1, rfl, rfl, rfl, h1, r1⟩ := trodAll_cons r0
 obtain ⟨rfl, rfl, rfl⟩ := trodAll_nil r1
 obtain rfl : args = #[v0, v1] := by cases args; simp_all
 obtain ⟨rfl, rfl⟩ := trodVars_none hV
 obtain ⟨a0, len0, cap0, rfl⟩ := okWide_slice Tryz.underlying22 (hval 0 22 v0 rfl rfl)
 have lt0 : ∀ x ∈ p0, x.block < W.heap.size := by obtain ⟨m, hm⟩ := h0; exact DataW.trod_lt m _ _ _ hm
 have hh0 := h0
 obtain ⟨fu0, hf0⟩ := hh0
 obtain ⟨x0, g0, f0, b0⟩ := open_steps10.opened hf0
 obtain ⟨cs1, rfl, _⟩ := okWide_struct Tryz.underlying49 (hval 1 49 v1 rfl rfl)
 have lt1 : ∀ x ∈ p1, x.block < W.heap.size := by obtain ⟨m, hm⟩ := h1; exact DataW.trod_lt m _ _ _ hm
 have hh1 := h1
 obtain ⟨fu1, hf1⟩ := hh1
 obtain ⟨x1, g1, f1, b1⟩ := open_step10.opened hf1
 have m0 := f0 (reach_of hsz (j := 0) rfl rfl)
 have m1 := f1 (reach_of hsz (j := 1) rfl rfl)
 clear hA0 hval0 hsz0 hsz
 refine (walk W a0 len0 cap0 x0 g0 m0 cs1 x1 g1 m1).mono fun e W' ⟨he, bel⟩ => ?_
 subst he
 exact ⟨_, rfl, _, _, _, [], _, [], hW', trodAll_mk1 (shut_bool Tryz.underlying4 _), (trodAll_cons_mk (Below.trod laidOut (by kernel_rfl) (of_decide_eq_true (by kernel_rfl)) h0 bel lt0) (trodAll_cons_mk (Below.trod laidOut (by kernel_rfl) (of_decide_eq_true (by kernel_rfl)) h1 bel lt1) trodAll_mk0)), rfl, bel.frame _, fun h => by cases h⟩
theorem over : Rows.treeOwnRow.holds Tryz.pinned (OpenSpec.ofChange Rows.treeOwnSpec) :=
 OpenClaim.holds_of_wide 4 Tryz.f4 rfl rfl rfl rfl rfl rfl rfl ⟨rfl, rfl, rfl, rfl, rfl⟩ rfl rfl rfl rfl rfl (by kernel_rfl) Tryz.func4 (by kernel_rfl)
  (of_decide_eq_true (by kernel_rfl)) (by unfold Func.isWrapper; first | (rw [if_pos (by decide +kernel)]; kernel_rfl) | (rw [if_neg (by decide +kernel)]; exact ⟨rfl, rfl⟩))
  (fun os started H enc _ => lifted os started H enc)
end Go.Proofs.YtgmkknonnidgaaaGreat.treeOwn
namespace Go.Proofs.YtgmkknonnidgaaaGreat
theorem treeOwn_holds : Rows.TreeOwnSaid := treeOwn.over
end Go.Proofs.YtgmkknonnidgaaaGreat
