/- Several texts in one: PgDecR PgPB PgDiskR PgPC WFlushR WTruR WRow WRecR WOf WPC WPB WPD WLg WPE WPH UPB. -/
import Derived.Deep.CutRange
import Derived.Test.YtjjicajodjophaaGoLURng1
import Derived.Test.YtjjicajodjophaaGoLURng0
import Derived.Laws.MakeOwn
set_option linter.unusedVariables false
set_option linter.unusedSimpArgs false
namespace Go.Proofs.Ytjjicajodjophaa
open Go.RowKit
end Go.Proofs.Ytjjicajodjophaa

namespace Go.Proofs.Ytjjicajodjophaa
open Go.RowKit
end Go.Proofs.Ytjjicajodjophaa

namespace Go.Proofs.Ytjjicajodjophaa
open Go.RowKit
end Go.Proofs.Ytjjicajodjophaa

namespace Go.Proofs.Ytjjicajodjophaa
open Go.RowKit
end Go.Proofs.Ytjjicajodjophaa

namespace Go.Proofs.Ytjjicajodjophaa
open Go.RowKit
end Go.Proofs.Ytjjicajodjophaa

namespace Go.Proofs.Ytjjicajodjophaa
open Go.RowKit
abbrev S3 (g : Nat) (w : World) (x y z : Value) : World := ((w.setCell ⟨g, 0, none⟩ x).setCell ⟨g, 1, none⟩ y).setCell ⟨g, 2, none⟩ z
theorem S3.size (g : Nat) (w : World) (x y z : Value) : (S3 g w x y z).heap.size = w.heap.size := by simp
end Go.Proofs.Ytjjicajodjophaa

namespace Go.Proofs.Ytjjicajodjophaa
open Go.RowKit
theorem OwnV.keepT {B C : Nat} {w w' : World} {v : Value} {xss : List (List UInt8)} (h : OwnV B C w v xss) (k1 : KeepT 5 w w') (k2 : KeepT 62 w w') : OwnV B C w' v xss := by
 obtain ⟨vs, h1, h2, h3⟩ := h
 exact ⟨vs, h1, rows_keepT h2 k2, fun i hi => rows_keepT (h3 i hi) k1⟩
structure RInv (TS TL : Nat) (w wr : World) (o c : Value) (st : Wst) : Prop where
 box : wr.heap[w.heap.size + 1]? = some (.cells #[c, .int .i64 st.1.2, .slice none 0 0] TL (0, 0))
 ans : wr.heap[w.heap.size]? = some (.cells #[.slice none 0 0, .int .i64 0, .slice none 0 0] TL (0, 0))
 segs : OwnW TS w.heap.size wr c st.1.1
 recs : OwnV w.heap.size 0 wr o st.2
 bel : Below w.heap.size w wr
theorem RInv.to {TS TL : Nat} {w wr w' : World} {o c : Value} {st : Wst} (h : RInv TS TL w wr o c st) (hb : Below wr.heap.size wr w') : RInv TS TL w w' o c st :=
 ⟨(hb.block _ (lt_of_block h.box)).trans h.box, (hb.block _ (lt_of_block h.ans)).trans h.ans, h.segs.keepT (KeepT.below hb) (KeepT.below hb), h.recs.keepT (KeepT.below hb) (KeepT.below hb), h.bel.trans (hb.mono h.bel.size)⟩
theorem RInv.all {TS TL : Nat} {w u w' : World} {o o' c : Value} {a : List Wrt × Int} {rs rs' : List (List UInt8)} (h : RInv TS TL w u o c (a, rs)) (t2 : TS ≠ 62) (t4 : TL ≠ 62) (ho : OwnV w.heap.size 0 w' o' rs') (hb : Below w.heap.size u w') (hk : ∀ e, e ≠ 62 → KeepT e u w') : RInv TS TL w w' o' c (a, rs') :=
 ⟨hk _ t4 _ _ _ h.box, hk _ t4 _ _ _ h.ans, h.segs.keepT (hk _ (by decide)) (hk _ t2), ho, h.bel.trans hb⟩
end Go.Proofs.Ytjjicajodjophaa

namespace Go.Proofs.Ytjjicajodjophaa
open Go.RowKit
end Go.Proofs.Ytjjicajodjophaa

namespace Go.Proofs.Ytjjicajodjophaa
open Go.RowKit
end Go.Proofs.Ytjjicajodjophaa

namespace Go.Proofs.Ytjjicajodjophaa
open Go.RowKit
end Go.Proofs.Ytjjicajodjophaa

namespace Go.Proofs.Ytjjicajodjophaa
open Go.RowKit
end Go.Proofs.Ytjjicajodjophaa

namespace Go.Proofs.Ytjjicajodjophaa
open Go.RowKit
end Go.Proofs.Ytjjicajodjophaa

namespace Go.Proofs.Ytjjicajodjophaa
open Go.RowKit
theorem rows_keepB {w w' : World} {B e s n : Nat} {v : Value} {xs : List Value} (h : w.ownsRow B e s v n xs) (k : ∀ b, B ≤ b → b < w.heap.size → w'.heap[b]? = w.heap[b]?) : w'.ownsRow B e s v n xs := by
 refine ⟨h.1, ?_⟩
 rcases h.2 with hn | ⟨g, cap, cur, hv, hgb, hg, r⟩
 ·exact .inl hn
 ·exact .inr ⟨g, cap, cur, hv, hgb, (k g hgb (lt_of_block hg)).trans hg, r⟩
theorem OwnV.keepB {B : Nat} {w w' : World} {v : Value} {xss : List (List UInt8)} (h : OwnV B B w v xss) (k : ∀ b, B ≤ b → b < w.heap.size → w'.heap[b]? = w.heap[b]?) : OwnV B B w' v xss := by
 obtain ⟨vs, h1, h2, h3⟩ := h
 exact ⟨vs, h1, rows_keepB h2 k, fun i hi => rows_keepB (h3 i hi) k⟩
theorem Own.keepB {α : Type} {s : Shp α} {B : Nat} {w w' : World} {cs : List Value} {x : α} (h : Own s B w cs x) (k : ∀ b, B ≤ b → b < w.heap.size → w'.heap[b]? = w.heap[b]?) : Own s B w' cs x :=
 let ⟨F, h1, h2, h3⟩ := h; ⟨F, s.own_to h1 fun b hb' => k b (h3 b hb') (s.own_lt h1 b hb'), h2, h3⟩
theorem OwnW.mono {T B C : Nat} {w : World} {v : Value} {ws : List Wrt} (h : OwnW T B w v ws) (hC : C ≤ B) : OwnW T C w v ws := by
 obtain ⟨vs, h1, h2, h3⟩ := h
 exact ⟨vs, h1, rows_mono h2 hC, h3⟩
def LgF (T B : Nat) (w : World) (sv wv : Value) (l : Wlg) : Prop := Own (Shp.list T SWr) B w [sv] l.1 ∧ OwnV B B w wv l.2.2
theorem LgF.keepB {T B : Nat} {w w' : World} {sv wv : Value} {l : Wlg} (h : LgF T B w sv wv l) (k : ∀ b, B ≤ b → b < w.heap.size → w'.heap[b]? = w.heap[b]?) : LgF T B w' sv wv l := ⟨h.1.keepB k, h.2.keepB k⟩
theorem LgF.to {T B : Nat} {w w' : World} {sv wv : Value} {l : Wlg} (h : LgF T B w sv wv l) (hb : Below w.heap.size w w') : LgF T B w' sv wv l := h.keepB fun b _ hb' => hb.block b hb'
theorem LgF.set {T B : Nat} {w : World} {sv wv : Value} {l : Wlg} (h : LgF T B w sv wv l) {a : Addr} (ha : a.block < B) (u : Value) : LgF T B (w.setCell a u) sv wv l := h.keepB fun b hb _ => Below.heap_setCell _ _ _ _ (fun e => by omega)
theorem LgF.mono {T B C : Nat} {w : World} {sv wv : Value} {l : Wlg} (h : LgF T B w sv wv l) (hC : C ≤ B) : LgF T C w sv wv l := ⟨h.1.mono hC, h.2.mono hC hC⟩
theorem LgF.zero (T B : Nat) (w : World) : LgF T B w (.slice none 0 0) (.slice none 0 0) wzero := ⟨Own.nil _ _ _ _, OwnV.nil _ _ _⟩
end Go.Proofs.Ytjjicajodjophaa

namespace Go.Proofs.Ytjjicajodjophaa
open Go.RowKit
end Go.Proofs.Ytjjicajodjophaa

namespace Go.Proofs.Ytjjicajodjophaa
open Go.RowKit
end Go.Proofs.Ytjjicajodjophaa

namespace Go.Proofs.Ytjjicajodjophaa
open Go.RowKit
abbrev TDP : Nat := 42
theorem infoDP : (Try.prog.info? 42).map (fun i => (i.zero, i.size, i.bytes)) = some (some (.agg #[.int .i64 0, .int .i64 0, .int .i64 0]), 3, 24) := by kernel_rfl
end Go.Proofs.Ytjjicajodjophaa
