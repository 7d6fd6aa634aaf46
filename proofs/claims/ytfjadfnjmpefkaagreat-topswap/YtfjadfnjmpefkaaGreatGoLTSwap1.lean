/- What TopSwap rests on. -/
import Derived.Test.YtfjadfnjmpefkaaGreatGoLTSwap0
import Derived.Deep.AppendLies
import Derived.Deep.WholeRow
import Derived.Laws.CopyOwn
import Derived.Laws.BitsAllLaws
import Derived.Deep.RegionLaw
import Derived.StillTail
import Derived.OrdersHeld
import Derived.StillTailTactics
import Derived.Laws.IdiomStrings
import Derived.Deep.QuietTactic
import Derived.BigQuiet
import Derived.Laws.Cover1
import Derived.Laws.AppendOwnNone
import Derived.Lib.AppendStr
set_option maxRecDepth 100000
set_option maxHeartbeats 4000000
set_option linter.unusedVariables false
set_option linter.unusedSimpArgs false
namespace Go.Proofs.YtfjadfnjmpefkaaGreat
theorem KZ.{u}:type_of% @List.cons.injEq.{u}:=@List.cons.injEq
theorem KY:type_of% @Nat.mod_two_eq_zero_or_one:=@Nat.mod_two_eq_zero_or_one
theorem KX:type_of% @Go.World.cell?_of_block:=@Go.World.cell?_of_block
theorem Ky.{u}:type_of% @List.mem_append_left.{u}:=@List.mem_append_left
theorem Kw:type_of% @Go.Proofs.Tryz.underlying9:=@Go.Proofs.Tryz.underlying9
theorem Ks.{u}:type_of% @List.mem_append_right.{u}:=@List.mem_append_right
theorem Kr:type_of% @Nat.xor_assoc:=@Nat.xor_assoc
theorem Kn.{u}:type_of% @List.drop_zero.{u}:=@List.drop_zero
theorem Km.{u}:type_of% @List.nodup_nil.{u}:=@List.nodup_nil
theorem Kl.{u}:type_of% @List.getElem?_cons_succ.{u}:=@List.getElem?_cons_succ
theorem Kk.{u}:type_of% @List.drop_left'.{u}:=@List.drop_left'
theorem Kg.{u}:type_of% @List.take_length.{u}:=@List.take_length
theorem Kf:type_of% @Go.getD_replicate_false:=@Go.getD_replicate_false
theorem Ke.{u}:type_of% @List.mem_of_mem_take.{u}:=@List.mem_of_mem_take
theorem Kb:type_of% @Go.run_loadVar_row:=@Go.run_loadVar_row
theorem kW.{u}:type_of% @List.getElem?_cons_zero.{u}:=@List.getElem?_cons_zero
theorem kV.{u,v}:type_of% @List.map_take.{u,v}:=@List.map_take
theorem kT:type_of% @Nat.mul_one:=@Nat.mul_one
theorem kS.{u}:type_of% @if_true.{u}:=@if_true
theorem kR.{u,v}:type_of% @List.foldl_cons.{u,v}:=@List.foldl_cons
theorem kQ:type_of% @Go.IntWalk.wrap64_in:=@Go.IntWalk.wrap64_in
theorem kK.{u,v}:type_of% @List.map_drop.{u,v}:=@List.map_drop
theorem kH.{u,v}:type_of% @List.flatMap_append.{u,v}:=@List.flatMap_append
theorem kE.{u}:type_of% @beq_eq_false_iff_ne.{u}:=@beq_eq_false_iff_ne
theorem kA:type_of% @Int.toNat_natCast:=@Int.toNat_natCast
theorem ku.{u}:type_of% @List.mem_singleton.{u}:=@List.mem_singleton
theorem kh.{u}:type_of% @List.nodup_cons.{u}:=@List.nodup_cons
theorem ke:type_of% @Nat.min_eq_left:=@Nat.min_eq_left
theorem X9:type_of% @Bool.eq_false_iff:=@Bool.eq_false_iff
theorem XX:type_of% @Go.setRow_heap:=@Go.setRow_heap
theorem XU:type_of% @decide_eq_true_eq:=@decide_eq_true_eq
theorem XS:type_of% @and_true:=@and_true
theorem XQ.{u}:type_of% @List.getElem?_drop.{u}:=@List.getElem?_drop
theorem XO:type_of% @Go.Addr.mk.injEq:=@Go.Addr.mk.injEq
theorem XN:type_of% @Nat.add_sub_cancel:=@Nat.add_sub_cancel
theorem XK:type_of% @Nat.add_zero:=@Nat.add_zero
theorem XJ.{u}:type_of% @if_false.{u}:=@if_false
theorem XH:type_of% @Go.setRow_other:=@Go.setRow_other
theorem XE.{u,v}:type_of% @congrArg.{u,v}:=@congrArg
theorem XD:type_of% @Nat.zero_add:=@Nat.zero_add
theorem XA.{u}:type_of% @List.getElem?_eq_none.{u}:=@List.getElem?_eq_none
theorem Xy.{u}:type_of% @List.getElem_mem.{u}:=@List.getElem_mem
theorem Xv.{u}:type_of% @List.drop_eq_getElem_cons.{u}:=@List.drop_eq_getElem_cons
theorem Xu.{u}:type_of% @List.getElem?_append_left.{u}:=@List.getElem?_append_left
theorem Xr:type_of% @Go.World.news_of_block:=@Go.World.news_of_block
theorem Xo.{u}:type_of% @List.take_left'.{u}:=@List.take_left'
theorem Xn.{u,v}:type_of% @List.map_cons.{u,v}:=@List.map_cons
theorem Xj.{u,v}:type_of% @List.map_append.{u,v}:=@List.map_append
theorem Xf.{u}:type_of% @List.take_add_one.{u}:=@List.take_add_one
theorem Xd:type_of% @Go.Proofs.Tryz.underlying43:=@Go.Proofs.Tryz.underlying43
theorem Xc.{u}:type_of% @Array.getElem?_modify.{u}:=@Array.getElem?_modify
theorem x8.{u}:type_of% @Array.length_toList.{u}:=@Array.length_toList
theorem x7.{u}:type_of% @List.take_append_drop.{u}:=@List.take_append_drop
theorem xY.{u}:type_of% @List.getElem?_append_right.{u}:=@List.getElem?_append_right
theorem xU.{u}:type_of% @List.mem_cons.{u}:=@List.mem_cons
theorem xR:type_of% @Go.RowKit.Below.heap_alloc:=@Go.RowKit.Below.heap_alloc
theorem xQ.{u}:type_of% @List.mem_of_getElem?.{u}:=@List.mem_of_getElem?
theorem xO.{u,v}:type_of% @List.flatMap_cons.{u,v}:=@List.flatMap_cons
theorem xN.{u}:type_of% @List.nodup_append.{u}:=@List.nodup_append
theorem xM.{u}:type_of% @Option.getD_some.{u}:=@Option.getD_some
theorem xL:type_of% @Bool.and_eq_true:=@Bool.and_eq_true
theorem xK.{u}:type_of% @List.append_nil.{u}:=@List.append_nil
theorem xI:type_of% @Bool.false_eq_true:=@Bool.false_eq_true
theorem xH:type_of% @Go.Value.slice.injEq:=@Go.Value.slice.injEq
theorem xE.{u}:type_of% @List.length_drop.{u}:=@List.length_drop
theorem xB:type_of% @Go.IntWalk.i64_in:=@Go.IntWalk.i64_in
theorem xz.{u}:type_of% @List.append_assoc.{u}:=@List.append_assoc
theorem xy:type_of% @Go.heap_alloc_last:=@Go.heap_alloc_last
theorem xx.{u}:type_of% @List.take_of_length_le.{u}:=@List.take_of_length_le
theorem xw:type_of% @decide_eq_false:=@decide_eq_false
theorem xv:type_of% @decide_eq_true:=@decide_eq_true
theorem xu.{u}:type_of% @List.mem_append.{u}:=@List.mem_append
theorem xr.{u}:type_of% @Option.some.injEq.{u}:=@Option.some.injEq
theorem xp.{u}:type_of% @List.length_take.{u}:=@List.length_take
theorem xo:type_of% @Go.World.ownsRow.lt:=@Go.World.ownsRow.lt
theorem xk.{u}:type_of% @List.length_append.{u}:=@List.length_append
theorem xi:type_of% @Nat.le_trans:=@Nat.le_trans
theorem xe.{u}:type_of% @List.getD_eq_getElem?_getD.{u}:=@List.getD_eq_getElem?_getD
theorem xb:type_of% @And.intro:=@And.intro
variable {a:Act} {ops:Array Oper} {sh:Bool} {at' id z:Int} {S ss:List (List UInt8)} {F:List Nat} {l:List Oper} {b d x xs y ys:List UInt8} {c0 cc cs:List Value} {B C N T g i j k m n q r s:Nat} {o:Oper} {P:Program} {t ty:TypeId} {c kv v vv:Value} {U u w w' w0:World}
theorem qB1:type_of% (xb @List.setIfInBounds_toArray.{0} (xb @List.set_cons_zero.{0} (@List.set_cons_succ.{0}))):=xb @List.setIfInBounds_toArray.{0} (xb @List.set_cons_zero.{0} (@List.set_cons_succ.{0}))
open Go.RowKit
theorem OwnB.from (h:OwnB B w v xs):∀ k,v.ownBlock=some k->B<=k:=by
 intro k hk;rcases h.2 with ⟨rfl,_⟩|⟨g,cap,cur,rfl,hb,_⟩
 ·cases hk
 simp only[Value.ownBlock,xr] at hk;omega
theorem qx {rest:List Oper} {Q:Exit->Act->World->Prop} (hgd:o.guard=none) (s x:Operand)
 (ho:o.op=.call {callee:=.builtin .append,args:=#[s,x],argTypes:=#[52,52]}) (B:Nat) (v v2:Value) (xs ys:List UInt8) (hs:a.eval s=v) (hx:a.eval x=v2)
 (hown:OwnB B w v xs) (hrd:Rd w v2 ys) (hlen:xs.length+ys.length<=140737488355328) (hB:B<=w.heap.size)
 (h:∀ v' w',OwnB B w' v' (xs++ys)->Below B w w'->w.grownBy w' v.ownBlock->wpList Tryz.prog ops Q rest (a.put o.dst v') w'):wpList Tryz.prog ops Q (o::rest) a w:=by
 obtain⟨i0,hi,hz0,hz1,hz2⟩:=Xh YD;obtain⟨ao,c,rfl,l1,m1,n1,r1⟩:=hrd;cases ao with
 | none =>
  have:ys=[]:=by
   rcases r1 with r1|⟨b,off,h,_⟩
   ·exact r1
   cases h
  subst this;obtain rfl:c=0:=n1 rfl;refine wpList_append_own_none hgd s x 52 ho B 5 i0 1 xW hi v xs.length (xs.map enc) hs hown hx ?_;exact h v w (by simpa using hown) (xm _ _) (World.grownBy.refl _ _)
 | some ad =>
  have e1:(ys.map enc).length=ys.length*1:=by simp
  have e2:∀ j u,(ys.map enc)[j]?=some u->w.cell? (ad.add j)=some u:=by
   rcases r1 with rfl|⟨b,off,h,hc⟩
   ·intro j u hj;simp at hj
   obtain rfl:ad=⟨b,off,none⟩:=by simpa using h
   exact Y9 hc
  refine kO _ hgd s x 52 ho B 5 i0 (.int .u8 0) 1 1 xW hi hz0 hz1 hz2 rfl (by decide) v xs.length (xs.map enc) hs hown ad ys.length c (ys.map enc) hx e1 e2 (qc6 ys)
   (by rw[show maxLen=9223372036854775807 from rfl];omega) (by omega) hB ?_
  intro v' w' h1 h2 _;refine h v' w' ?_ ((xm _ _).grown h2 hB hown.from) h2;unfold OwnB
  simpa using h1
structure Shp (α : Type) where
 n:Nat
 rd:World->List Value -> α -> Prop
 own:List Nat->World->List Value -> α -> Prop
 rd_n:∀ {w cs x},rd w cs x->cs.length=n
 rd_to:∀ {w w':World} {cs x},rd w cs x->(∀ b,b<w.heap.size->w'.heap[b]?=w.heap[b]?)->rd w' cs x
 rd_one:∀ {w cs x},rd w cs x->∀ u∈cs,u.oneCell'=true
 own_rd:∀ {F w cs x},own F w cs x->rd w cs x
 own_to:∀ {F} {w w':World} {cs x},own F w cs x->(∀ b,b∈F->w'.heap[b]?=w.heap[b]?)->own F w' cs x
 own_lt:∀ {F w cs x},own F w cs x->∀ b,b∈F->b<w.heap.size
def Own {α : Type} (s:Shp α) (B:Nat) (w:World) (cs:List Value) (x : α):Prop:=∃ F,s.own F w cs x/\F.Nodup/\∀ b,b∈F->B<=b
theorem J4 (w:World) (x y:Value) (t:TypeId):∃ u,u=w.alloc (.cells #[x,y] t)/\u.cell? ⟨w.heap.size,0,none⟩=some x/\u.cell? ⟨w.heap.size,1,none⟩=some y/\Below w.heap.size w u/\u.heap.size=w.heap.size+1:=by
 refine⟨_,rfl,?_,?_,(xm _ _).alloc (xc _) _,by simp⟩
 ·rw[Xi _ _ 0 _ _ (0,0) (xy w _)];rfl
 rw[Xi _ _ 1 _ _ (0,0) (xy w _)];rfl
theorem Vh (h:OwnB B w v xs) (hg:g<B) (i:Nat) (x:Value):OwnB B (w.setCell ⟨g,i,none⟩ x) v xs:=by
 refine⟨h.1,?_⟩;rcases h.2 with hn|⟨g',cap,cur,hv,hb,hgg,r⟩
 ·exact .inl hn
 refine .inr ⟨g',cap,cur,hv,hb,?_,r⟩;rw[<-hgg];simp[World.setCell,Xc,show ¬ g=g' by omega]
theorem qR {a b:Value} {fr:Nat×Nat} (h:u.heap[g]?=some (.cells #[a,b] t fr)) (x y:Value):((u.setCell ⟨g,0,none⟩ x).setCell ⟨g,1,none⟩ y).heap[g]?=some (.cells #[x,y] t fr):=by
 simp[World.setCell,Xc,h]
theorem qF (h:Below B w u) (hg:B<=g) (x y:Value):Below B w ((u.setCell ⟨g,0,none⟩ x).setCell ⟨g,1,none⟩ y) :=
 (h.setCell (p:=⟨g,0,none⟩) hg x).setCell (p:=⟨g,1,none⟩) hg y
theorem qfq {fn:Func} {R:Ending->World->Prop} {p:Tmp} (h:fn.results=#[.cell p ty]) (hd:a.defers=[]) (g:Nat) (hp:a.tmps.getD p undef=.pointer (some ⟨g,0,none⟩))
 (x y:Value) (t:TypeId) (fr:Nat×Nat) (hg:w.heap[g]?=some (.cells #[x,y] t fr)) (d:TypeDesc) (hu:P.underlying ty=some d) (hr:(match d with | .struct _ | .array _ _=>true|_=>false)=true) (hi:(P.info? ty).map (·.size)=some 2)
 (hR:R (.returned (.agg #[x,y])) w):bodyPost P fn R .ret a w:=by
 refine Xk (v:=.agg #[x,y]) ?_ hd hR;have hp':a.tmps[p]?.getD undef=.pointer (some ⟨g,0,none⟩):=by simpa using hp
 simp[results,h,hp',asAddr,Kb w g t ty #[x,y] fr d hg hu hr hi]
theorem Qz {fn:Func} {R:Ending->World->Prop} {p u1:Tmp} (h:fn.results=#[.cell p ty,.tmp u1]) (hd:a.defers=[]) (g:Nat) (hp:a.tmps.getD p undef=.pointer (some ⟨g,0,none⟩))
 (x y:Value) (t:TypeId) (fr:Nat×Nat) (hg:w.heap[g]?=some (.cells #[x,y] t fr)) (d:TypeDesc) (hu:P.underlying ty=some d) (hr:(match d with | .struct _ | .array _ _=>true|_=>false)=true) (hi:(P.info? ty).map (·.size)=some 2)
 (v1:Value) (e1:a.tmps.getD u1 undef=v1) (hR:R (.returned (.tuple #[.agg #[x,y],v1])) w):bodyPost P fn R .ret a w:=by
 refine Xk (v:=.tuple #[.agg #[x,y],v1]) ?_ hd hR;have hp':a.tmps[p]?.getD undef=.pointer (some ⟨g,0,none⟩):=by simpa using hp
 have e1':a.tmps[u1]?.getD undef=v1:=by simpa using e1
 simp[results,h,hp',e1',asAddr,Kb w g t ty #[x,y] fr d hg hu hr hi]
section
variable {α β : Type}
theorem Shp.to (s:Shp α) {x : α} (h:s.rd w cs x) (hB:w.heap.size<=B) (hb:Below B w w'):s.rd w' cs x :=
 s.rd_to h fun b hb'=>hb.block b (by omega)
theorem Shp.to0 (s:Shp α) {x : α} (h:s.rd w cs x) (hb:Below w.heap.size w w'):s.rd w' cs x:=s.to h (xc _) hb
theorem Own.rd {s:Shp α} {x : α} (h:Own s B w cs x):s.rd w cs x:=let ⟨_,h,_⟩:=h;s.own_rd h
theorem Own.mono {s:Shp α} {x : α} (h:Own s B w cs x) (hC:C<=B):Own s C w cs x :=
 let ⟨F,h1,h2,h3⟩:=h;⟨F,h1,h2,fun b hb=>xi hC (h3 b hb)⟩
theorem Own.below {s:Shp α} {x : α} (h:Own s B w cs x) (hC:w.heap.size<=C) (hb:Below C w w'):Own s B w' cs x :=
 let ⟨F,h1,h2,h3⟩:=h;⟨F,s.own_to h1 fun b hb'=>hb.block b (by have:=s.own_lt h1 b hb';omega),h2,h3⟩
theorem Own.to {s:Shp α} {x : α} (h:Own s B w cs x) (hb:Below w.heap.size w w'):Own s B w' cs x:=h.below (xc _) hb
theorem Own.grown {s:Shp α} {row:Option Nat} {x : α} (h:Own s B w cs x) (hg:w.grownBy w' row) (hr:∀ k,row=some k->k<B):Own s B w' cs x :=
 let ⟨F,h1,h2,h3⟩:=h;⟨F,s.own_to h1 fun b hb'=>hg.block b (s.own_lt h1 b hb') (fun e=>by have:=hr b e.symm;have:=h3 b hb';omega),h2,h3⟩
theorem Own.set {s:Shp α} {x : α} (h:Own s B w cs x) {a:Addr} (ha:a.block<B) (u:Value):Own s B (w.setCell a u) cs x :=
 let ⟨F,h1,h2,h3⟩:=h;⟨F,s.own_to h1 fun b hb'=>xd _ _ _ _ (fun e=>by have:=h3 b hb';omega),h2,h3⟩
def Shp.int (k:IntKind):Shp Int where
 n:=1
 rd _ cs x:=cs=[.int k x]
 own F _ cs x:=F=[]/\cs=[.int k x]
 rd_n h:=by rw[h];rfl
 rd_to h _:=h
 rd_one h u hu:=by rw[h] at hu;simp at hu;subst hu;rfl
 own_rd h:=h.2
 own_to h _:=h
 own_lt h b hb:=by rw[h.1] at hb;cases hb
def Shp.bool:Shp Bool where
 n:=1
 rd _ cs x:=cs=[.bool x]
 own F _ cs x:=F=[]/\cs=[.bool x]
 rd_n h:=by rw[h];rfl
 rd_to h _:=h
 rd_one h u hu:=by rw[h] at hu;simp at hu;subst hu;rfl
 own_rd h:=h.2
 own_to h _:=h
 own_lt h b hb:=by rw[h.1] at hb;cases hb
def Shp.octs:Shp (List UInt8) where
 n:=1
 rd w cs x:=∃ v,cs=[v]/\Rd w v x
 own F w cs x:=∃ v,cs=[v]/\OwnB 0 w v x/\F=v.ownBlock.toList
 rd_n h:=by obtain⟨v,rfl,_⟩:=h;rfl
 rd_to:=by
  rintro w w' cs x ⟨v,rfl,ao,cap,rfl,h1,h2,h3,h4⟩ hb;refine⟨_,rfl,ao,cap,rfl,h1,h2,h3,?_⟩;rcases h4 with h4|⟨b,off,rfl,hc⟩
  ·exact .inl h4
  refine .inr ⟨b,off,rfl,fun i hi=>?_⟩;have:=hc i hi
  rw[KX (w:=w) (hb b (qe this))];exact this
 rd_one:=by
  rintro w cs x ⟨v,rfl,h⟩ u hu;obtain⟨ao,cap,rfl⟩:=h.slice;simp at hu;subst hu;rfl
 own_rd:=by rintro F w cs x ⟨v,rfl,h,_⟩;exact⟨v,rfl,h.rd⟩
 own_to:=by
  rintro F w w' cs x ⟨v,rfl,h,rfl⟩ hb;refine⟨v,rfl,⟨h.1,?_⟩,rfl⟩;rcases h.2 with h2|⟨g,cap,cur,rfl,h0,hg,r⟩
  ·exact .inl h2
  exact .inr ⟨g,cap,cur,rfl,h0,(hb g (by simp[Value.ownBlock])).trans hg,r⟩
 own_lt:=by
  rintro F w cs x ⟨v,rfl,h,rfl⟩ b hb;exact(xo h b (by simpa using hb)).2
theorem OwnB.toOwn (h:OwnB B w v xs):Own Shp.octs B w [v] xs:=by
 refine⟨v.ownBlock.toList,⟨v,rfl,h.mono (xt _),rfl⟩,?_,fun b hb=>(xo h b (by simpa using hb)).1⟩
 cases v.ownBlock<;>simp
def Shp.pair (s:Shp α) (t:Shp β):Shp (α × β) where
 n:=s.n+t.n
 rd w cs x:=∃ c d,cs=c++d/\s.rd w c x.1/\t.rd w d x.2
 own F w cs x:=∃ c d G H,cs=c++d/\F=G++H/\s.own G w c x.1/\t.own H w d x.2
 rd_n:=by rintro w cs x ⟨c,d,rfl,h1,h2⟩;rw[xk,s.rd_n h1,t.rd_n h2]
 rd_to:=by rintro w w' cs x ⟨c,d,rfl,h1,h2⟩ hb;exact⟨c,d,rfl,s.rd_to h1 hb,t.rd_to h2 hb⟩
 rd_one:=by
  rintro w cs x ⟨c,d,rfl,h1,h2⟩ u hu;rcases xu.1 hu with h|h
  ·exact s.rd_one h1 u h
  exact t.rd_one h2 u h
 own_rd:=by rintro F w cs x ⟨c,d,G,H,rfl,rfl,h1,h2⟩;exact⟨c,d,rfl,s.own_rd h1,t.own_rd h2⟩
 own_to:=by
  rintro F w w' cs x ⟨c,d,G,H,rfl,rfl,h1,h2⟩ hb;exact⟨c,d,G,H,rfl,rfl,s.own_to h1 fun b h=>hb b (Ky _ h),t.own_to h2 fun b h=>hb b (Ks _ h)⟩
 own_lt:=by
  rintro F w cs x ⟨c,d,G,H,rfl,rfl,h1,h2⟩ b hb;rcases xu.1 hb with h|h
  ·exact s.own_lt h1 b h
  exact t.own_lt h2 b h
theorem Own.pair {s:Shp α} {t:Shp β} {c d:List Value} {x : α} {y : β} (h1:Own s B w c x) (hb:Below w.heap.size w w') (h2:Own t C w' d y) (hC:w.heap.size<=C) (hBC:B<=C):Own (s.pair t) B w' (c++d) (x,y):=by
 obtain⟨F,a1,a2,a3⟩:=h1;obtain⟨G,b1,b2,b3⟩:=h2;refine⟨F++G,⟨c,d,F,G,rfl,rfl,s.own_to a1 fun b hb'=>hb.block b (s.own_lt a1 b hb'),b1⟩,?_,?_⟩
 ·refine xN.2 ⟨a2,b2,fun x hx y hy e=>?_⟩;have q1:=s.own_lt a1 x hx
  have q2:=b3 y hy
  omega
 intro b hb';rcases xu.1 hb' with h|h
 ·exact a3 b h
 have:=b3 b h;omega
theorem Own.pair' {s:Shp α} {t:Shp β} {c d:List Value} {x : α} {y : β} (h2:Own t B w d y) (hb:Below w.heap.size w w') (h1:Own s C w' c x) (hC:w.heap.size<=C) (hBC:B<=C):Own (s.pair t) B w' (c++d) (x,y):=by
 obtain⟨F,a1,a2,a3⟩:=h1;obtain⟨G,b1,b2,b3⟩:=h2;refine⟨F++G,⟨c,d,F,G,rfl,rfl,a1,t.own_to b1 fun b hb'=>hb.block b (t.own_lt b1 b hb')⟩,?_,?_⟩
 ·refine xN.2 ⟨a2,b2,fun x hx y hy e=>?_⟩;have q1:=t.own_lt b1 y hy
  have q2:=a3 x hx
  omega
 intro b hb';rcases xu.1 hb' with h|h
 ·have:=a3 b h;omega
 exact b3 b h
theorem Own.fst {s:Shp α} {t:Shp β} {c d:List Value} {z : α × β} (h:Own (s.pair t) B w (c++d) z) (hc:c.length=s.n):Own s B w c z.1/\Own t B w d z.2:=by
 obtain⟨F,⟨c',d',G,H,e,rfl,h1,h2⟩,hn,hB⟩:=h;have hl:=s.rd_n (s.own_rd h1)
 obtain⟨rfl,rfl⟩:=List.append_inj e (by rw[hc,hl])
 have:=xN.1 hn
 exact⟨⟨G,h1,this.1,fun b hb=>hB b (Ky _ hb)⟩,⟨H,h2,this.2.1,fun b hb=>hB b (Ks _ hb)⟩⟩
def zt (s:Shp α) (w:World):List Nat->List Value->List α -> Prop
 | F,cc,[]=>F=[]/\cc=[]
 | F,cc,x::xs=>∃ F1 F2 c1 c2,F=F1++F2/\cc=c1++c2/\s.own F1 w c1 x/\zt s w F2 c2 xs
theorem Zi {s:Shp α} {w w':World}:∀ {xs:List α} {F cc},zt s w F cc xs->(∀ b,b∈F->w'.heap[b]?=w.heap[b]?)->zt s w' F cc xs
 | [],F,cc,h,_=>h
 | x::xs,F,cc,⟨F1,F2,c1,c2,e1,e2,h1,h2⟩,hb=>⟨F1,F2,c1,c2,e1,e2,s.own_to h1 fun b h=>hb b (by rw[e1];exact Ky _ h),Zi h2 fun b h=>hb b (by rw[e1];exact Ks _ h)⟩
theorem Zj {s:Shp α} {w:World}:∀ {xs:List α} {F cc},zt s w F cc xs->∀ b,b∈F->b<w.heap.size
 | [],F,cc,h,b,hb=>by rw[h.1] at hb;cases hb
 | x::xs,F,cc,⟨F1,F2,c1,c2,e1,e2,h1,h2⟩,b,hb=>by
  rw[e1] at hb;rcases xu.1 hb with h|h
  ·exact s.own_lt h1 b h
  exact Zj h2 b h
theorem Zl {s:Shp α} {w:World}:∀ {xs ys:List α} {F G cc dd},zt s w F cc xs->zt s w G dd ys->zt s w (F++G) (cc++dd) (xs++ys)
 | [],ys,F,G,cc,dd,h,k=>by obtain⟨rfl,rfl⟩:=h;exact k
 | x::xs,ys,F,G,cc,dd,⟨F1,F2,c1,c2,e1,e2,h1,h2⟩,k=>⟨F1,F2++G,c1,c2++dd,by rw[e1,xz],by rw[e2,xz],h1,Zl h2 k⟩
theorem J5 {s:Shp α} {F c} {x : α} (h:s.own F w c x):zt s w F c [x]:=⟨F,[],c,[],by simp,by simp,h,rfl,rfl⟩
theorem Jm {s:Shp α} {w:World}:∀ {xs:List α} {F cc} (i:Nat) (x : α),zt s w F cc xs->xs[i]?=some x ->
 ∃ F1 F2 F3 c1 c2 c3,F=F1++(F2++F3)/\cc=c1++(c2++c3)/\c1.length=i*s.n/\zt s w F1 c1 (xs.take i)/\s.own F2 w c2 x/\zt s w F3 c3 (xs.drop (i+1))
 | [],F,cc,i,x,h,hx=>by simp at hx
 | y::xs,F,cc,0,x,⟨F1,F2,c1,c2,e1,e2,h1,h2⟩,hx=>by
  simp at hx;subst hx;exact⟨[],F1,F2,[],c1,c2,e1,e2,by simp,⟨rfl,rfl⟩,h1,h2⟩
 | y::xs,F,cc,i+1,x,⟨F1,F2,c1,c2,e1,e2,h1,h2⟩,hx=>by
  obtain⟨G1,G2,G3,d1,d2,d3,rfl,rfl,hl,k1,k2,k3⟩:=Jm i x h2 (by simpa using hx)
  refine⟨F1++G1,G2,G3,c1++d1,d2,d3,by rw[e1,xz],by rw[e2,xz],?_,⟨F1,G1,c1,d1,rfl,rfl,h1,k1⟩,k2,k3⟩
  rw[xk,hl,s.rd_n (s.own_rd h1),Nat.add_mul,Nat.one_mul,Nat.add_comm]
def RdS (s:Shp α) (w:World) (v:Value) (xs:List α):Prop :=
 ∃ ao cap,v=.slice ao xs.length cap/\xs.length<=cap/\cap<=maxLen/\(ao=none->cap=0)/\
  (xs=[]\/∃ b off,ao=some ⟨b,off,none⟩/\∀ i x,xs[i]?=some x->∃ c,s.rd w c x/\∀ j u,c[j]?=some u->w.cell? ⟨b,off+i*s.n+j,none⟩=some u)
theorem RdS.slice {s:Shp α} {xs:List α} (h:RdS s w v xs):∃ ao cap,v=.slice ao xs.length cap:=by
 obtain⟨ao,cap,rfl,_⟩:=h;exact⟨_,_,rfl⟩
theorem RdS.to {s:Shp α} {xs:List α} (h:RdS s w v xs) (hB:w.heap.size<=B) (hb:Below B w w'):RdS s w' v xs:=by
 obtain⟨ao,cap,rfl,h1,h2,h3,h4⟩:=h;refine⟨ao,cap,rfl,h1,h2,h3,?_⟩;rcases h4 with h4|⟨b,off,rfl,hc⟩
 ·exact .inl h4
 refine .inr ⟨b,off,rfl,fun i x hx=>?_⟩;obtain⟨c,k1,k2⟩:=hc i x hx;refine⟨c,s.to k1 hB hb,fun j u hj=>?_⟩;have:=k2 j u hj
 rw[hb.cell (p:=⟨b,off+i*s.n+j,none⟩) (by have:=qe this;show b<B;omega)]
 exact this
theorem RdS.to0 {s:Shp α} {xs:List α} (h:RdS s w v xs) (hb:Below w.heap.size w w'):RdS s w' v xs:=h.to (xc _) hb
theorem RdS.nil (s:Shp α) (w:World):RdS s w (.slice none 0 0) []:=⟨none,0,rfl,xc _,xt _,fun _=>rfl,.inl rfl⟩
theorem RdS.bd {s:Shp α} {xs:List α} (h:RdS s w v xs):xs.length<=9223372036854775807:=by
 obtain⟨ao,cap,rfl,h1,h2,_⟩:=h;rw[show maxLen=9223372036854775807 from rfl] at h2;omega
theorem RdS.at1 {s:Shp α} (hs:s.n=1) {a:Option Addr} {cap:Nat} {xs:List α} (h:RdS s w (.slice a n cap) xs) {x : α} (hx:xs[i]?=some x) :
 ∃ b off u,a=some ⟨b,off,none⟩/\w.cell? ⟨b,off+i,none⟩=some u/\s.rd w [u] x:=by
 obtain⟨ao,c,e,h1,h2,h3,h4⟩:=h;cases e
 rcases h4 with rfl|⟨b,off,rfl,hc⟩
 ·simp at hx
 obtain⟨c,k1,k2⟩:=hc i x hx;have:=s.rd_n k1
 rw[hs] at this k2
 match c,this with
 | [u],_ =>
  have:=k2 0 u rfl
  rw[kT,XK] at this;exact⟨b,off,u,rfl,this,k1⟩
theorem RdS.at2 {s:Shp α} {t:Shp β} (hs:s.n=1) (ht:t.n=1) {a:Option Addr} {cap:Nat} {xs:List (α × β)} (h:RdS (s.pair t) w (.slice a n cap) xs) {x : α × β} (hx:xs[i]?=some x) :
 ∃ b off u v,a=some ⟨b,off,none⟩/\w.cell? ⟨b,off+i*2,none⟩=some u/\w.cell? ⟨b,off+i*2+1,none⟩=some v/\s.rd w [u] x.1/\t.rd w [v] x.2:=by
 obtain⟨ao,c,e,h1,h2,h3,h4⟩:=h;cases e
 rcases h4 with rfl|⟨b,off,rfl,hc⟩
 ·simp at hx
 obtain⟨c,⟨c1,c2,rfl,k1,k3⟩,k2⟩:=hc i x hx;have e1:=s.rd_n k1
 have e2:=t.rd_n k3
 rw[show (s.pair t).n=2 from by show s.n+t.n=2;omega] at k2
 rw[hs] at e1;rw[ht] at e2
 match c1,e1,c2,e2 with
 | [u],_,[v],_=>exact⟨b,off,u,v,rfl,by simpa using k2 0 u rfl,by simpa using k2 1 v rfl,k1,k3⟩
theorem jN (h:w.ownsRow 0 T n v m cc) {cap:Nat} (hv:v=.slice (some ⟨g,0,none⟩) m cap) {u:Value} (hj:cc[j]?=some u):w.cell? ⟨g,j,none⟩=some u:=by
 subst hv;rw[h.cellAt j (by rw[<-h.1];exact(xn.1 hj).1)]
 exact hj
def Shp.list (T:Nat) (s:Shp α):Shp (List α) where
 n:=1
 rd w cs xs:=∃ v,cs=[v]/\RdS s w v xs
 own F w cs xs:=∃ v cc G,cs=[v]/\w.ownsRow 0 T s.n v xs.length cc/\zt s w G cc xs/\F=v.ownBlock.toList++G
 rd_n:=by rintro w cs x ⟨v,rfl,_⟩;rfl
 rd_to:=by
  rintro w w' cs xs ⟨v,rfl,ao,cap,rfl,h1,h2,h3,h4⟩ hb;refine⟨_,rfl,ao,cap,rfl,h1,h2,h3,?_⟩;rcases h4 with h4|⟨b,off,rfl,hc⟩
  ·exact .inl h4
  refine .inr ⟨b,off,rfl,fun i x hx=>?_⟩;obtain⟨c,k1,k2⟩:=hc i x hx;refine⟨c,s.rd_to k1 hb,fun j u hj=>?_⟩;have:=k2 j u hj
  rw[KX (w:=w) (hb b (qe this))];exact this
 rd_one:=by
  rintro w cs x ⟨v,rfl,h⟩ u hu;obtain⟨ao,cap,rfl⟩:=h.slice;simp at hu;subst hu;rfl
 own_rd:=by
  rintro F w cs xs ⟨v,cc,G,rfl,h1,h2,_⟩;refine⟨v,rfl,?_⟩;rcases h1.2 with ⟨rfl,h0⟩|⟨g,cap,cur,hv,hb,hg,hn,hm,_⟩
  ·rw[xq h0];exact⟨none,0,rfl,xc _,xt _,fun _=>rfl,.inl rfl⟩
  refine⟨_,cap,hv,hn,hm,(fun h=>by cases h),.inr ⟨g,0,rfl,fun i x hx=>?_⟩⟩
  obtain⟨F1,F2,F3,c1,c2,c3,_,e2,hl,_,k2,_⟩:=Jm i x h2 hx;refine⟨c2,s.own_rd k2,fun j u hj=>?_⟩;rw[XD];refine jN h1 hv ?_;have hjl:j<c2.length:=(xn.1 hj).1
  rw[e2,<-hl,xY (by omega),Nat.add_sub_cancel_left,Xu hjl]
  exact hj
 own_to:=by
  rintro F w w' cs xs ⟨v,cc,G,rfl,h1,h2,rfl⟩ hb;refine⟨v,cc,G,rfl,⟨h1.1,?_⟩,Zi h2 fun b h=>hb b (Ks _ h),rfl⟩;rcases h1.2 with h|⟨g,cap,cur,rfl,h0,hg,r⟩
  ·exact .inl h
  exact .inr ⟨g,cap,cur,rfl,h0,(hb g (by simp[Value.ownBlock])).trans hg,r⟩
 own_lt:=by
  rintro F w cs xs ⟨v,cc,G,rfl,h1,h2,rfl⟩ b hb;rcases xu.1 hb with h|h
  ·exact(xo h1 b (by simpa using h)).2
  exact Zj h2 b h
theorem Own.rdS {s:Shp α} {xs:List α} (h:Own (Shp.list T s) B w [v] xs):RdS s w v xs:=by
 obtain⟨v',e,r⟩:=h.rd;simp at e;subst e;exact r
theorem Own.nil (T:Nat) (s:Shp α) (B:Nat) (w:World):Own (Shp.list T s) B w [.slice none 0 0] [] :=
 ⟨[],⟨_,[],[],rfl,xA _ _ _ _,⟨rfl,rfl⟩,by simp[Value.ownBlock]⟩,Km,fun b hb=>by cases hb⟩
theorem Qt (h:w.ownsRow B T n v m cc) (hC:∀ b,v.ownBlock=some b->C<=b):w.ownsRow C T n v m cc:=by
 refine⟨h.1,?_⟩;rcases h.2 with h2|⟨g,cap,cur,rfl,h0,r⟩
 ·exact .inl h2
 exact .inr ⟨g,cap,cur,rfl,hC g rfl,r⟩
theorem Own.cap (T:Nat) (s:Shp α) (h:w.ownsRow B T s.n v 0 []):Own (Shp.list T s) B w [v] []:=by
 refine⟨v.ownBlock.toList,⟨v,[],[],rfl,Qt h fun _ _=>xt _,⟨rfl,rfl⟩,by simp⟩,?_,fun b hb=>(xo h b (by simpa using hb)).1⟩
 cases v.ownBlock<;>simp
def OwnF (s:Shp α) (F:List Nat) (w:World) (cs:List Value) (x : α):Prop:=s.own F w cs x/\F.Nodup
theorem OwnF.own {s:Shp α} {x : α} (h:OwnF s F w cs x) (hB:∀ b,b∈F->B<=b):Own s B w cs x:=⟨F,h.1,h.2,hB⟩
theorem Own.foot {s:Shp α} {x : α} (h:Own s B w cs x):∃ F,OwnF s F w cs x/\∀ b,b∈F->B<=b:=let ⟨F,h1,h2,h3⟩:=h;⟨F,⟨h1,h2⟩,h3⟩
theorem OwnF.rd {s:Shp α} {x : α} (h:OwnF s F w cs x):s.rd w cs x:=s.own_rd h.1
theorem OwnF.lt {s:Shp α} {x : α} (h:OwnF s F w cs x):∀ b,b∈F->b<w.heap.size:=s.own_lt h.1
theorem OwnF.keep {s:Shp α} {x : α} (h:OwnF s F w cs x) (hb:∀ b,b∈F->w'.heap[b]?=w.heap[b]?):OwnF s F w' cs x:=⟨s.own_to h.1 hb,h.2⟩
theorem OwnF.to {s:Shp α} {x : α} (h:OwnF s F w cs x) (hb:Below w.heap.size w w'):OwnF s F w' cs x:=h.keep fun b hb'=>hb.block b (h.lt b hb')
theorem OwnF.set {s:Shp α} {x : α} (h:OwnF s F w cs x) {a:Addr} (ha:a.block ∉ F) (u:Value):OwnF s F (w.setCell a u) cs x :=
 h.keep fun b hb'=>xd _ _ _ _ (fun e=>ha (by rw[<-e];exact hb'))
theorem OwnF.split {s:Shp α} {t:Shp β} {c d:List Value} {z : α × β} (h:OwnF (s.pair t) F w (c++d) z) (hc:c.length=s.n) :
 ∃ F1 F2,F=F1++F2/\OwnF s F1 w c z.1/\OwnF t F2 w d z.2/\∀ b,b∈F1->b ∉ F2:=by
 obtain⟨⟨c',d',G,H,e,rfl,h1,h2⟩,hn⟩:=h;have hl:=s.rd_n (s.own_rd h1)
 obtain⟨rfl,rfl⟩:=List.append_inj e (by rw[hc,hl])
 have:=xN.1 hn
 exact⟨G,H,rfl,⟨h1,this.1⟩,⟨h2,this.2.1⟩,fun b hb hb'=>this.2.2 b hb b hb' rfl⟩
theorem OwnF.join {s:Shp α} {t:Shp β} {F1 F2:List Nat} {c d:List Value} {x : α} {y : β} (h1:OwnF s F1 w c x) (h2:OwnF t F2 w d y) (hd:∀ b,b∈F1->b ∉ F2):OwnF (s.pair t) (F1++F2) w (c++d) (x,y) :=
 ⟨⟨c,d,F1,F2,rfl,rfl,h1.1,h2.1⟩,xN.2 ⟨h1.2,h2.2,fun a ha b hb e=>hd a ha (by rw[e];exact hb)⟩⟩
theorem OwnF.grow {s:Shp α} {xs:List α} (h:OwnF (Shp.list T s) F w [v] xs) :
 ∃ cc,w.ownsRow 0 T s.n v xs.length cc/\(∀ b,v.ownBlock=some b->b∈F)/\∀ (w1 w2 w3:World) (c:List Value) (x : α) (g cap:Nat),Below w.heap.size w w1->Own s w.heap.size w1 c x->Below w1.heap.size w1 w2->w2.grownBy w3 v.ownBlock ->
  w3.ownsRow 0 T s.n (.slice (some ⟨g,0,none⟩) (xs.length+1) cap) (xs.length+1) (cc++c)->(v.ownBlock=some g\/g=w2.heap.size)->
  ∃ F',OwnF (Shp.list T s) F' w3 [.slice (some ⟨g,0,none⟩) (xs.length+1) cap] (xs++[x])/\∀ b,b∈F'->b∈F\/w.heap.size<=b:=by
 obtain⟨⟨v',cc,G,e,h1,h2,rfl⟩,hn⟩:=h;simp at e;subst e;refine⟨cc,h1,fun b hb=>by simp[hb],?_⟩
 intro w1 w2 w3 c x g cap b1 he b2 hg hr hat;obtain⟨F2,k1,k2,k3⟩:=he;have lt1:=Zj h2
 have hn':=xN.1 hn
 have ng:g ∉ G:=by
  intro hgG;rcases hat with hat|rfl
  ·exact hn'.2.2 g (by simp[hat]) g hgG rfl
  have:=lt1 _ hgG;have:=b1.size;have:=b2.size;omega
 have ng2:g ∉ F2:=by
  intro hgF;have q:=k3 g hgF
  rcases hat with hat|rfl
  ·have:=(xo h1 g hat).2;omega
  have:=s.own_lt k1 _ hgF;have:=b2.size;omega
 refine⟨(g::(G++F2)),⟨⟨_,cc++c,G++F2,rfl,?_,?_,rfl⟩,?_⟩,?_⟩
 ·rw[xk];exact hr
 ·refine Zl (Zi h2 fun b hb=>?_) (J5 (s.own_to k1 fun b hb=>?_))
  ·rw[hg.block b (by have:=lt1 b hb;have:=b1.size;have:=b2.size;omega) (fun e=>hn'.2.2 b (by simp[<-e]) b hb rfl),b2.block b (by have:=lt1 b hb;have:=b1.size;omega),b1.block b (lt1 b hb)]
  rw[hg.block b (by have:=s.own_lt k1 b hb;have:=b2.size;omega) (fun e=>by have:=(xo h1 b e.symm).2;have:=k3 b hb;omega),b2.block b (s.own_lt k1 b hb)]
 ·refine kh.2 ⟨fun hm=>?_,xN.2 ⟨hn'.2.1,k2,fun a ha b hb e=>?_⟩⟩
  ·rcases xu.1 hm with q|q
   ·exact ng q
   exact ng2 q
  have:=lt1 a ha;have:=k3 b hb;omega
 intro b hb;rcases xU.1 hb with rfl|hb
 ·rcases hat with hat|rfl
  ·left;simp[hat]
  right;have:=b1.size;have:=b2.size;omega
 rcases xu.1 hb with q|q
 ·left;simp[q]
 right;exact k3 b q
theorem OwnF.growSnd {γ : Type} {s:Shp α} {r:Shp γ} {a : γ} {xs:List α} (h:OwnF (r.pair (Shp.list T s)) F w (c0++[v]) (a,xs)) (hc:c0.length=r.n) :
 ∃ cc,w.ownsRow 0 T s.n v xs.length cc/\(∀ b,v.ownBlock=some b->b∈F)/\∀ (w1 w2 w3:World) (c:List Value) (x : α) (g cap:Nat),Below w.heap.size w w1->Own s w.heap.size w1 c x->Below w1.heap.size w1 w2->w2.grownBy w3 v.ownBlock ->
  w3.ownsRow 0 T s.n (.slice (some ⟨g,0,none⟩) (xs.length+1) cap) (xs.length+1) (cc++c)->(v.ownBlock=some g\/g=w2.heap.size)->
  ∃ F',OwnF (r.pair (Shp.list T s)) F' w3 (c0++[.slice (some ⟨g,0,none⟩) (xs.length+1) cap]) (a,xs++[x])/\∀ b,b∈F'->b∈F\/w.heap.size<=b:=by
 obtain⟨F1,F2,rfl,h1,h2,hd⟩:=h.split hc;obtain⟨cc,k1,k2,k3⟩:=h2.grow;refine⟨cc,k1,fun b hb=>by simp[k2 b hb],?_⟩
 intro w1 w2 w3 c x g cap b1 he b2 hg hr hat;obtain⟨F',o1,o2⟩:=k3 w1 w2 w3 c x g cap b1 he b2 hg hr hat;refine⟨F1++F',OwnF.join (h1.keep fun b hb=>?_) o1 (fun b hb hb'=>?_),fun b hb=>?_⟩
 ·have:=h1.lt b hb
  have:=b1.size
  rw[hg.block b (by have:=b2.size;omega) (fun e=>hd b hb (k2 b e.symm)),b2.block b (by omega),b1.block b (h1.lt b hb)]
 ·rcases o2 b hb' with q|q
  ·exact hd b hb q
  have:=h1.lt b hb;omega
 rcases xu.1 hb with q|q
 ·left;simp[q]
 rcases o2 b q with q|q
 ·left;simp[q]
 right;exact q
theorem qB (h:w.ownsRow B T n v m cc) (hb:Below w.heap.size w w'):w'.ownsRow B T n v m cc:=by
 refine⟨h.1,?_⟩;rcases h.2 with h2|⟨g,cap,cur,e,h0,hg,r⟩
 ·exact .inl h2
 exact .inr ⟨g,cap,cur,e,h0,(hb.block g (xa hg)).trans hg,r⟩
theorem qn7 {s:Shp α} {R:World->List Nat->Value -> α -> Prop} (hrow:w.ownsRow 0 T s.n v n cc) (hm:∀ b,v.ownBlock=some b->b∈F)
 (k3:∀ (w1 w2 w3:World) (c:List Value) (x : α) (g cap:Nat),Below w.heap.size w w1->Own s w.heap.size w1 c x->Below w1.heap.size w1 w2->w2.grownBy w3 v.ownBlock ->
  w3.ownsRow 0 T s.n (.slice (some ⟨g,0,none⟩) (n+1) cap) (n+1) (cc++c)->(v.ownBlock=some g\/g=w2.heap.size)->∃ F',R w3 F' (.slice (some ⟨g,0,none⟩) (n+1) cap) x/\∀ b,b∈F'->b∈F\/w.heap.size<=b) :
 (∀ u,Below w.heap.size w u->u.ownsRow 0 T s.n v n cc)/\∀ (w2:World) (c:List Value) (x : α) (T':Nat) (w3 w5:World) (g cap:Nat),Below w.heap.size w w2->Own s w.heap.size w2 c x->w3.heap=(w2.alloc (.cells c.toArray T')).heap->w3.os=w2.os->w3.tape=w2.tape->w3.output=w2.output->w3.grownBy w5 v.ownBlock ->
  w5.ownsRow 0 T s.n (.slice (some ⟨g,0,none⟩) (n+1) cap) (n+1) (cc++c)->(v.ownBlock=some g\/g=w2.heap.size+1)->
  (∃ F',R w5 F' (.slice (some ⟨g,0,none⟩) (n+1) cap) x/\∀ b,b∈F'->b∈F\/w.heap.size<=b)/\(∀ B,(∀ b,b∈F->B<=b)->B<=w.heap.size->Below B w w5)/\∀ b,b<w.heap.size->b ∉ F->w5.heap[b]?=w.heap[b]?:=by
 refine⟨fun u hu=>qB hrow hu,?_⟩;intro w2 c x T' w3 w5 g cap b1 he hh h1 h2 h3 hg hr hat;have hsz:w3.heap.size=w2.heap.size+1:=by rw[hh];simp
 have b2:Below w2.heap.size w2 w3:=⟨h1,h2,h3,by omega,fun k hk=>by rw[hh];exact xR _ _ _ hk⟩
 refine⟨k3 w2 w3 w5 c x g cap b1 he b2 hg hr (by rw[hsz];exact hat),fun B hF hB=>?_,fun b hb hnb=>?_⟩
 ·exact(((b1.mono hB).trans (b2.mono (by have:=b1.size;omega)))).grown hg (by have:=b1.size;omega) (fun k hk=>hF k (hm k hk))
 have:=b1.size
 rw[hg.block b (by omega) (fun e=>hnb (hm b e.symm)),b2.block b (by omega),b1.block b hb]
theorem OwnF.lit {s:Shp α} {xs:List α} (h:OwnF (Shp.list T s) F w [v] xs) (hn:xs.length=n):∃ cc,
 (∀ u,Below w.heap.size w u->u.ownsRow 0 T s.n v n cc)/\∀ (w2:World) (c:List Value) (x : α) (T':Nat) (w3 w5:World) (g cap:Nat),Below w.heap.size w w2->Own s w.heap.size w2 c x->w3.heap=(w2.alloc (.cells c.toArray T')).heap->w3.os=w2.os->w3.tape=w2.tape->w3.output=w2.output->w3.grownBy w5 v.ownBlock ->
  w5.ownsRow 0 T s.n (.slice (some ⟨g,0,none⟩) (n+1) cap) (n+1) (cc++c)->(v.ownBlock=some g\/g=w2.heap.size+1)->
  (∃ F',OwnF (Shp.list T s) F' w5 [.slice (some ⟨g,0,none⟩) (n+1) cap] (xs++[x])/\∀ b,b∈F'->b∈F\/w.heap.size<=b)/\(∀ B,(∀ b,b∈F->B<=b)->B<=w.heap.size->Below B w w5)/\∀ b,b<w.heap.size->b ∉ F->w5.heap[b]?=w.heap[b]?:=by
 subst hn;obtain⟨cc,k1,k2,k3⟩:=h.grow;exact⟨cc,qn7 (R:=fun w5 F' v' x=>OwnF (Shp.list T s) F' w5 [v'] (xs++[x])) k1 k2 k3⟩
theorem OwnF.litSnd {γ : Type} {s:Shp α} {r:Shp γ} {a : γ} {xs:List α} (h:OwnF (r.pair (Shp.list T s)) F w (c0++[v]) (a,xs)) (hc:c0.length=r.n) (hn:xs.length=n):∃ cc,
 (∀ u,Below w.heap.size w u->u.ownsRow 0 T s.n v n cc)/\∀ (w2:World) (c:List Value) (x : α) (T':Nat) (w3 w5:World) (g cap:Nat),Below w.heap.size w w2->Own s w.heap.size w2 c x->w3.heap=(w2.alloc (.cells c.toArray T')).heap->w3.os=w2.os->w3.tape=w2.tape->w3.output=w2.output->w3.grownBy w5 v.ownBlock ->
  w5.ownsRow 0 T s.n (.slice (some ⟨g,0,none⟩) (n+1) cap) (n+1) (cc++c)->(v.ownBlock=some g\/g=w2.heap.size+1)->
  (∃ F',OwnF (r.pair (Shp.list T s)) F' w5 (c0++[.slice (some ⟨g,0,none⟩) (n+1) cap]) (a,xs++[x])/\∀ b,b∈F'->b∈F\/w.heap.size<=b)/\(∀ B,(∀ b,b∈F->B<=b)->B<=w.heap.size->Below B w w5)/\∀ b,b<w.heap.size->b ∉ F->w5.heap[b]?=w.heap[b]?:=by
 subst hn;obtain⟨cc,k1,k2,k3⟩:=h.growSnd hc;exact⟨cc,qn7 (R:=fun w5 F' v' x=>OwnF (r.pair (Shp.list T s)) F' w5 (c0++[v']) (a,xs++[x])) k1 k2 k3⟩
theorem yK (xs:List α) (i:Nat) (x : α) (hi:i<xs.length):xs.set i x=xs.take i++([x]++xs.drop (i+1)):=by
 rw[List.set_eq_take_append_cons_drop,xj hi];rfl
theorem OwnF.at {s:Shp α} {xs:List α} (h:OwnF (Shp.list T s) F w [v] xs) {x : α} (hx:xs[i]?=some x) :
 ∃ g cap F2 c,v=.slice (some ⟨g,0,none⟩) xs.length cap/\xs.length<=cap/\cap<=maxLen/\g∈F/\s.own F2 w c x/\(∀ b,b∈F2->b∈F/\b≠g)/\(∀ j u,c[j]?=some u->w.cell? ⟨g,i*s.n+j,none⟩=some u)/\
  ∀ w' x',s.own F2 w' c x'->(∀ b,b∈F->b ∉ F2->w'.heap[b]?=w.heap[b]?)->OwnF (Shp.list T s) F w' [v] (xs.set i x'):=by
 have hi:i<xs.length:=(xn.1 hx).1
 obtain⟨⟨v',cc,G,e,h1,h2,rfl⟩,hn⟩:=h;simp at e;subst e;obtain⟨F1,F2,F3,c1,c2,c3,e1,e2,hl,k1,k2,k3⟩:=Jm i x h2 hx;have hn':=xN.1 hn
 have hG:=hn'.2.1
 rw[e1] at hG;have hG1:=xN.1 hG
 have hG2:=xN.1 hG1.2.1
 rcases h1.2 with ⟨rfl,h0⟩|⟨g,cap,cur,hv,hb,hg,hnn,hm,_⟩
 ·omega
 have nF2:∀ b,b∈F2->b∈G:=fun b hb=>by rw[e1];simp[hb]
 refine⟨g,cap,F2,c2,hv,hnn,hm,by simp[hv,Value.ownBlock],k2,fun b hb=>⟨by simp[nF2 b hb],fun e=>hn'.2.2 g (by simp[hv,Value.ownBlock]) g (by rw[<-e];exact nF2 b hb) rfl⟩,fun j u hj=>?_,fun w' x' ho hk=>⟨⟨v,cc,G,rfl,?_,?_,rfl⟩,hn⟩⟩
 ·have hjl:j<c2.length:=(xn.1 hj).1
  refine jN h1 hv ?_;rw[e2,<-hl,xY (by omega),Nat.add_sub_cancel_left,Xu hjl]
  exact hj
 ·rw[List.length_set];refine⟨h1.1,?_⟩;rcases h1.2 with h|⟨g',cap',cur',e',h0',hg',r⟩
  ·exact .inl h
  refine .inr ⟨g',cap',cur',e',h0',(hk g' (by simp[e',Value.ownBlock]) fun hm=>?_).trans hg',r⟩
  exact hn'.2.2 g' (by simp[e',Value.ownBlock]) g' (nF2 g' hm) rfl
 rw[yK xs i x' hi,e1,e2];refine Zl (Zi k1 fun b hb=>hk b (by rw[e1];simp[hb]) fun hm=>?_) (Zl (J5 ho) (Zi k3 fun b hb=>hk b (by rw[e1];simp[hb]) fun hm=>?_))
 ·exact hG1.2.2 b hb b (by simp[hm]) rfl
 exact hG2.2.2 b hm b hb rfl
theorem Own.store {s:Shp α} {xs:List α} (h:Own (Shp.list T s) B w [v] xs) (hs:s.n=1) (hBw:B<=w.heap.size) (hi:i<xs.length) :
 ∃ g cap,v=.slice (some ⟨g,0,none⟩) xs.length cap/\xs.length<=cap/\B<=g/\g<w.heap.size/\w.frozen? ⟨g,i,none⟩=false/\(∃ u0,w.cell? ⟨g,i,none⟩=some u0)/\
  ∀ w1 u x',Below w.heap.size w w1->Own s w.heap.size w1 [u] x'->Own (Shp.list T s) B (w1.setCell ⟨g,i,none⟩ u) [v] (xs.set i x'):=by
 obtain⟨x,hx⟩:∃ x,xs[i]?=some x:=⟨_,xg hi⟩;obtain⟨F,⟨v',cc,G,e,h1,h2,rfl⟩,hn,hB⟩:=h;simp at e;subst e;obtain⟨F1,F2,F3,c1,c2,c3,e1,e2,hl,k1,k2,k3⟩:=Jm i x h2 hx;have hn':=xN.1 hn
 have hG:=hn'.2.1
 rw[e1] at hG;have hG1:=xN.1 hG
 have hG2:=xN.1 hG1.2.1
 rcases h1.2 with ⟨rfl,h0⟩|⟨g,cap,cur,hv,hb,hg,hnn,hm,_⟩
 ·omega
 subst hv;have hgl:=xa hg
 have hl2:c2.length=1:=by rw[s.rd_n (s.own_rd k2),hs]
 obtain⟨u0,rfl⟩:∃ u0,c2=[u0]:=by
  match c2,hl2 with
  | [u0],_=>exact⟨u0,rfl⟩
 rw[hs,kT] at hl;refine⟨g,cap,rfl,hnn,hB g (by simp[Value.ownBlock]),hgl,h1.frozenAt i,⟨u0,jN h1 rfl (by rw[e2,xY (by omega),hl];simp)⟩,fun w1 u x' b1 ho=>?_⟩
 obtain⟨F2',o1,o2,o3⟩:=ho
 have h1':w1.ownsRow 0 T s.n (.slice (some ⟨g,0,none⟩) xs.length cap) xs.length cc:=by
  refine⟨h1.1,?_⟩;rcases h1.2 with h|⟨g',cap',cur',e',h0',hg',r⟩
  ·exact .inl h
  exact .inr ⟨g',cap',cur',e',h0',(b1.block g' (xa hg')).trans hg',r⟩
 have hst:=h1'.stored i u
 have other:∀ b,b≠g->(w1.setCell ⟨g,i,none⟩ u).heap[b]?=w1.heap[b]?:=fun b hb=>xd _ _ _ _ hb
 have gG:g ∉ G:=fun hm=>hn'.2.2 g (by simp[Value.ownBlock]) g hm rfl
 refine⟨g::(F1++(F2'++F3)),⟨_,cc.set i u,F1++(F2'++F3),rfl,?_,?_,rfl⟩,?_,?_⟩
 ·rw[List.length_set];exact hst.1
 ·rw[yK xs i x' hi,e2]
  have ec:(c1++([u0]++c3)).set i u=c1++([u]++c3):=by
   rw[<-hl,List.set_append_right _ _ (xc _),Nat.sub_self];rfl
  rw[ec];refine Zl (Zi k1 fun b hb=>?_) (Zl (J5 (s.own_to o1 fun b hb=>?_)) (Zi k3 fun b hb=>?_))
  ·rw[other b (fun e=>gG (by rw[e1,<-e];simp[hb])),b1.block b (Zj k1 b hb)]
  ·exact other b (fun e=>by have:=o3 b hb;omega)
  rw[other b (fun e=>gG (by rw[e1,<-e];simp[hb])),b1.block b (Zj k3 b hb)]
 ·refine kh.2 ⟨fun hm=>?_,xN.2 ⟨hG1.1,xN.2 ⟨o2,hG2.2.1,fun a ha b hb e=>?_⟩,fun a ha b hb e=>?_⟩⟩
  ·simp only[xu] at hm;rcases hm with hm|hm|hm
   ·exact gG (by rw[e1];simp[hm])
   ·have:=o3 g hm;omega
   exact gG (by rw[e1];simp[hm])
  ·have:=o3 a ha;have:=Zj k3 b hb;omega
  rcases xu.1 hb with hb|hb
  ·have:=o3 b hb;have:=Zj k1 a ha;omega
  exact hG1.2.2 a ha b (by simp[hb]) e
 intro b hb;simp only[xU,xu] at hb;rcases hb with rfl|hb|hb|hb
 ·exact hB b (by simp[Value.ownBlock])
 ·exact hB b (by rw[e1];simp[hb])
 ·have:=o3 b hb;omega
 exact hB b (by rw[e1];simp[hb])
theorem Own.made {s:Shp α} {u0:Value} {x0 : α} (hs:∀ w,s.own [] w [u0] x0) (h:w.ownsRow B T s.n v n (List.replicate n u0)):Own (Shp.list T s) B w [v] (List.replicate n x0):=by
 have each:∀ n,zt s w [] (List.replicate n u0) (List.replicate n x0):=by
  intro n
  induction n with
  | zero=>exact⟨rfl,rfl⟩
  | succ n ih=>exact⟨[],[],[u0],List.replicate n u0,rfl,rfl,hs w,ih⟩
 refine⟨v.ownBlock.toList,⟨v,_,[],rfl,?_,each n,by simp⟩,?_,fun b hb=>(xo h b (by simpa using hb)).1⟩
 ·rw[ki];exact Qt h fun _ _=>xt _
 cases v.ownBlock<;>simp
theorem qm1 (w:World):Shp.octs.own [] w [.slice none 0 0] []:=⟨_,rfl,xA _ _ _ _,rfl⟩
end
open Go.RowKit
def over (xs ys:List UInt8):List UInt8:=ys.take xs.length++xs.drop ys.length
theorem zS (xs ys:List UInt8):(over xs ys).length=xs.length:=by simp[over];omega
theorem qat (h:xs.length=ys.length):over xs ys=ys:=by
 unfold over;rw[xx (by omega),List.drop_of_length_le (by omega),xK]
theorem yN {v2:Value} (ty:TypeId) (hown:OwnB B w v xs) (hrd:Rd w v2 ys) :
 ∃ w',(Builtin.copy_ #[52,52] ty #[v,v2]).run Tryz.prog w=.ok (goInt (Nat.min ys.length xs.length)) w'/\OwnB B w' v (over xs ys)/\Below B w w'/\w.grownBy w' v.ownBlock:=by
 have hi:(Tryz.prog.info? 5).map (·.size)=some 1:=by kernel_rfl
 obtain⟨ao,c,rfl,l1,m1,n1,r1⟩:=hrd;obtain⟨dp,dc,rfl⟩:=hown.rd.slice;by_cases h0:Nat.min ys.length xs.length=0
 ·have hrun:=run_copy_none (P:=Tryz.prog) w 52 52 ty 5 dp ao xs.length dc ys.length c xW hi h0
  have e:over xs ys=xs:=by
   have h0':min ys.length xs.length=0:=h0
   unfold over;by_cases hy:ys.length=0
   ·rw[xq hy];simp
   have hx:xs.length=0:=by omega
   rw[xq hx];simp
  refine⟨w,?_,by rw[e];exact hown,xm _ _,World.grownBy.refl _ _⟩
  rw[h0];exact hrun
 have h0':¬ min ys.length xs.length=0:=h0
 rcases hown with ⟨_,⟨e,h1⟩|⟨g,cap,cur,e,hb,hg,hn,hmx,hsz,ht⟩⟩
 ·omega
 cases e
 rcases r1 with r1|⟨b,off,rfl,hc⟩
 ·rw[r1] at h0';simp at h0'
 have ecs:((ys.take xs.length).map enc).length=Nat.min ys.length xs.length:=by
  simp only[Xe,xp];exact Nat.min_comm _ _
 have ecs':((ys.take xs.length).map enc).length=min ys.length xs.length:=ecs
 have hsrc:∀ j u,((ys.take xs.length).map enc)[j]?=some u->w.cell? ((⟨b,off,none⟩:Addr).add j)=some u:=by
  intro j u hj;refine Y9 (xs:=ys) hc j u ?_
  have hjl:j<xs.length:=by
   have:=(xn.1 hj).1
   rw[ecs'] at this;omega
  rw[<-hj,kV,xP,xj hjl]
 have hrun:=run_copy_row (P:=Tryz.prog) w 52 52 ty 5 g 0 xs.length dc ⟨b,off,none⟩ ys.length c cur 5 ((ys.take xs.length).map enc) xW hi hg ecs hsrc (by rw[ecs'];omega) (fun u hu=>qc6 _ u hu)
 rw[ecs] at hrun;have hgl:g<w.heap.size:=xa hg
 have hL:((ys.take xs.length).map enc).length<=cur.toList.length:=by
  have hq:cur.toList.length=cur.size:=x8
  have hmm:min ys.length xs.length<=xs.length:=Nat.min_le_right _ _
  rw[ecs',hq];omega
 refine⟨_,hrun,?_,below_setRow (xm _ _) hb _,⟨rfl,rfl,rfl,by simp[World.setRow],fun k _ hk=>XH w g k _ (by rintro rfl;exact hk rfl)⟩⟩
 have hcl:cur.toList.length=dc:=by rw[x8];omega
 have hmx':min ys.length xs.length<=xs.length:=Nat.min_le_right _ _
 have emin:Nat.min ys.length xs.length=min ys.length xs.length:=rfl
 try rw[emin]
 refine⟨by simp[zS],.inr ⟨g,dc,_,by rw[zS],hb,XX w g _ _ _ _ hg,by rw[zS];exact hn,hmx,?_,?_⟩⟩
 ·simp only[List.take_zero,xG,XD,Xb,xk,xE];rw[ecs',hcl];omega
 rw[zS];simp only[List.take_zero,xG,XD,kT] at ht |-
 have e1:over xs ys=ys.take xs.length++xs.drop (min ys.length xs.length):=by
  unfold over
  congr 1
  by_cases hxy:ys.length<=xs.length
  ·rw[ke hxy]
  rw[Nat.min_eq_right (by omega),List.drop_of_length_le (by omega),List.drop_of_length_le (xc _)]
 rw[e1,Xj,kK,<-ht,List.drop_take,List.take_append,ecs',xx (by rw[ecs'];omega)]
abbrev Wrt:=Int×List UInt8
abbrev Dsk:=List (List UInt8)×List Wrt
abbrev SWr:Shp Wrt:=(Shp.int .i64).pair Shp.octs
abbrev zp (w:World) (v:Value) (ss:List (List UInt8)):Prop:=RdS Shp.octs w v ss
abbrev RdC (w:World) (v:Value) (ws:List Wrt):Prop:=RdS SWr w v ws
theorem RdS.oct {a:Option Addr} {cap:Nat} (h:zp w (.slice a n cap) ss) (hx:ss[i]?=some x) :
 ∃ b off u,a=some ⟨b,off,none⟩/\w.cell? ⟨b,off+i,none⟩=some u/\Rd w u x:=by
 obtain⟨b,off,u,e,hc,v,e2,hr⟩:=RdS.at1 rfl h hx;simp at e2;subst e2;exact⟨b,off,u,e,hc,hr⟩
theorem RdS.wrt {a:Option Addr} {cap:Nat} {ws:List Wrt} (h:RdC w (.slice a n cap) ws) {y:Wrt} (hy:ws[i]?=some y) :
 ∃ b off u,a=some ⟨b,off,none⟩/\w.cell? ⟨b,off+i*2,none⟩=some (.int .i64 y.1)/\w.cell? ⟨b,off+i*2+1,none⟩=some u/\Rd w u y.2:=by
 obtain⟨b,off,u,v,e,hc,hc2,e1,v',e2,hr⟩:=RdS.at2 rfl rfl h hy;simp at e2;subst e2;have:[u]=[Value.int .i64 y.1]:=e1
 simp at this;subst this;exact⟨b,off,v,e,hc,hc2,hr⟩
theorem jh {α : Type} (xs:List α) (h:k<xs.length):∃ x,xs[k]?=some x/\x∈xs:=⟨xs[k],xg h,Xy h⟩
def pad (x:List UInt8):List UInt8:=over (List.replicate 64 0) x
theorem qid (x:List UInt8):(pad x).length=64:=by unfold pad;rw[zS];simp
theorem vj (h:x.length=64):pad x=x:=by unfold pad;exact qat (by simp[h])
def DOk (d:Dsk):Prop:=1<=d.1.length/\d.1.length<=1024/\d.2.length<=4096/\(∀ x∈d.1,x.length=64)/\∀ y∈d.2,(0<=y.1/\y.1<d.1.length)/\y.2.length=64
instance (d:Dsk):Decidable (DOk d):=by unfold DOk;infer_instance
def yJ (d:Dsk) (k:Int):Prop:=0<=k/\k<d.1.length
instance (d:Dsk) (k:Int):Decidable (yJ d k):=by unfold yJ;infer_instance
def Z4 (d:Dsk):Int:=if DOk d then 0 else 9
def zX (d:Dsk) (k:Int):Int:=if DOk d then(if yJ d k then 0 else 41) else 9
theorem Zb {d:Dsk} (h:DOk d):Z4 d=0:=xj h
theorem zg {d:Dsk} (h:¬ DOk d):Z4 d=9:=xh h
theorem ZC {d:Dsk} {k:Int}:zX d k=0↔DOk d/\yJ d k:=by
 unfold zX;by_cases h:DOk d
 ·rw[xj h];by_cases h2:yJ d k
  ·rw[xj h2];exact⟨fun _=>⟨h,h2⟩,fun _=>rfl⟩
  rw[xh h2];constructor
  ·intro e;cases e
  intro e;exact absurd e.2 h2
 rw[xh h];constructor
 ·intro e;cases e
 intro e;exact absurd e.1 h
def Zv (d:Dsk) (k:Int) (x:List UInt8):Dsk×Int :=
 if zX d k≠0 then(([],[]),zX d k) else if 64<x.length then(([],[]),5) else if 4096<=d.2.length then(([],[]),51) else((d.1,d.2++[(k,pad x)]),0)
def QF (k:Int) (x:List UInt8) (ws:List Wrt):List UInt8:=ws.foldl (fun b y=>if y.1=k then y.2 else b) x
def Qk (d:Dsk) (k:Int):List UInt8×Int:=if zX d k≠0 then([],zX d k) else(QF k (d.1.getD k.toNat []) d.2,0)
def Qx (f:Nat->Nat) (ss:List (List UInt8)) (ws:List Wrt):Nat->List (List UInt8)
 | 0=>ss
 | k+1=>match ws[k]? with
  | some y=>(Qx f ss ws k).set y.1.toNat (over ((Qx f ss ws k).getD y.1.toNat []) (y.2.take (f k)))
  | none=>Qx f ss ws k
def qlm (d:Dsk) (f:Nat->Nat):Dsk×Int:=if DOk d then((Qx f d.1 d.2 d.2.length,[]),0) else(([],[]),9)
def qh9 (cut:Int):Nat:=(max 0 (min cut 64)).toNat
def Qv (keep:List Bool) (torn cut:Int) (i:Nat):Nat:=if keep[i]?=some true then(if(i:Int)=torn then qh9 cut else 64) else 0
def yS (d:Dsk) (keep:List Bool) (torn cut:Int):Dsk×Int:=qlm d (Qv keep torn cut)
def JB (d:Dsk):Dsk×Int:=qlm d (fun _=>64)
def qbl (n:Int):Dsk×Int:=if n<1\/1024<n then(([],[]),4) else((List.replicate n.toNat (List.replicate 64 0),[]),0)
theorem qog (cut:Int):qh9 cut<=64:=by unfold qh9;omega
theorem qkj (keep:List Bool) (torn cut:Int) (i:Nat):Qv keep torn cut i<=64:=by
 unfold Qv
 split
 ·split
  ·exact qog cut
  exact xc _
 exact xt _
theorem qf0 (x:List UInt8):over x []=x:=by unfold over;simp
theorem zh (f:Nat->Nat) (ss:List (List UInt8)) (ws:List Wrt) (k:Nat):(Qx f ss ws k).length=ss.length:=by
 induction k with
 | zero=>rfl
 | succ k ih =>
  unfold Qx;cases h:ws[k]? with
  | none=>simpa[h] using ih
  | some y=>simpa[h] using ih
theorem yR {f:Nat->Nat} {ws:List Wrt} {y:Wrt} (h:ws[k]?=some y):Qx f ss ws (k+1)=(Qx f ss ws k).set y.1.toNat (over ((Qx f ss ws k).getD y.1.toNat []) (y.2.take (f k))):=by
 conv=>lhs;unfold Qx
 rw[h]
theorem qab {f:Nat->Nat} {ws:List Wrt} (h:∀ x∈ss,x.length=64) (k:Nat):∀ x∈Qx f ss ws k,x.length=64:=by
 induction k with
 | zero=>exact h
 | succ k ih =>
  unfold Qx;cases hk:ws[k]? with
  | none=>simpa using ih
  | some y =>
   intro x hx;simp only at hx;rcases List.mem_or_eq_of_mem_set hx with hx|rfl
   ·exact ih x hx
   rw[zS];by_cases hl:y.1.toNat<(Qx f ss ws k).length
   ·exact ih _ (by rw[xe,xg hl];exact Xy hl)
   rw[List.set_eq_of_length_le (by omega)] at hx
   have:=ih _ hx
   rw[zS] at this;exact this
theorem VM (h:k<ss.length):ss.getD k []∈ss:=by rw[xe,xg h];exact Xy h
theorem getD_some {α : Type} {xs:List α} {x d : α} (h:xs[k]?=some x):xs.getD k d=x:=by rw[xe,h];rfl
def dv:Nat:=2197175160
def M32:Nat:=4294967296
def stc (m:Nat):Nat:=m/2 ^^^ (if m%2=1 then dv else 0)
def stn:Nat->Nat->Nat
 | 0,m=>m
 | k+1,m=>stn k (stc m)
theorem qry (a b:Nat):stc (a ^^^ b)=stc a ^^^ stc b:=by
 have h:(a ^^^ b)/2=a/2 ^^^ b/2:=by
  apply Nat.eq_of_testBit_eq;intro i;simp[Nat.testBit_div_two,Nat.testBit_xor]
 have h0:(a ^^^ b)%2=(a%2+b%2)%2:=by
  have:=Nat.xor_mod_two_pow (a:=a) (b:=b) (n:=1)
  simp at this;rw[this];have ha:=KY a
  have hb:=KY b
  rcases ha with ha|ha<;>rcases hb with hb|hb<;>simp[ha,hb]
 unfold stc;rw[h,h0];have ha:=KY a
 have hb:=KY b
 rcases ha with ha|ha<;>rcases hb with hb|hb<;>simp[ha,hb]
 ·rw[Kr]
 ·rw[Kr,Nat.xor_comm (b/2),<-Kr]
 rw[show a/2 ^^^ dv ^^^ (b/2 ^^^ dv)=a/2 ^^^ (dv ^^^ dv) ^^^ b/2 from by
  rw[Nat.xor_comm (b/2) dv,<-Kr,Kr (a/2) dv dv]]
 simp
theorem qi6 (k:Nat):∀ a b,stn k (a ^^^ b)=stn k a ^^^ stn k b:=by
 induction k with
 | zero=>intro a b;rfl
 | succ k ih=>intro a b;show stn k (stc (a ^^^ b))=_;rw[qry,ih];rfl
theorem qnv (k:Nat):stn k 0=0:=by
 induction k with
 | zero=>rfl
 | succ k ih=>exact ih
theorem qqk (a b m:Nat):stn (a+b) m=stn a (stn b m):=by
 induction b generalizing m with
 | zero=>rfl
 | succ b ih=>exact ih (stc m)
theorem qag (k m:Nat):stn (k+1) m=stc (stn k m):=by rw[Nat.add_comm,qqk];rfl
theorem qsq (h:m<M32):stc m<M32:=by
 unfold stc;have h1:m/2<2^32:=by unfold M32 at h;omega
 have h2:(if m%2=1 then dv else 0)<2^32:=by split<;>decide
 exact Nat.xor_lt_two_pow h1 h2
theorem Vw (k:Nat):∀ {m:Nat},m<M32->stn k m<M32:=by
 induction k with
 | zero=>intro m h;exact h
 | succ k ih=>intro m h;exact ih (qsq h)
theorem qmc {a b:Nat} (ha:a<M32) (hb:b<M32):a ^^^ b<M32:=Nat.xor_lt_two_pow (n:=32) ha hb
theorem qp9 (q:Nat):stc (2*q)=q:=by
 unfold stc;simp
theorem qqd (k:Nat):∀ q,stn k (2^k*q)=q:=by
 induction k with
 | zero=>intro q;simp[stn]
 | succ k ih =>
  intro q;show stn k (stc (2^(k+1)*q))=q
  rw[show 2^(k+1)*q=2*(2^k*q) from by rw[Nat.pow_succ];ac_rfl,qp9,ih]
theorem qlf (k r:Nat):r=(r%2^k) ^^^ (2^k*(r/2^k)):=by
 apply Nat.eq_of_testBit_eq;intro i;rw[Nat.testBit_xor,Nat.testBit_mod_two_pow,Nat.testBit_two_pow_mul,Nat.testBit_div_two_pow];by_cases h:i<k
 ·simp[h,show ¬ k<=i by omega]
 simp[h,show k<=i by omega]
def tn (r o:Nat):Nat:=stn 8 (r ^^^ o)
theorem qss {o:Nat} (h:r<M32) (ho:o<256):tn r o<M32:=Vw 8 (qmc h (by unfold M32;omega))
theorem qow (r o:Nat):tn r o=(r/256) ^^^ stn 8 (r%256 ^^^ o):=by
 unfold tn;have h:=qlf 8 r
 have e:r ^^^ o=(r%256 ^^^ o) ^^^ (2^8*(r/256)):=by
  conv=>lhs;rw[h]
  show (r%256) ^^^ (2^8*(r/256)) ^^^ o=_
  rw[Kr,Nat.xor_comm (2^8*(r/256)) o,<-Kr]
 rw[e,qi6,qqd,Nat.xor_comm]
def reg (r:Nat) (xs:List UInt8):Nat:=xs.foldl (fun r x=>tn r x.toNat) r
theorem qpo (r:Nat) (xs ys:List UInt8):reg r (xs++ys)=reg (reg r xs) ys:=by simp[reg]
theorem qmh (xs:List UInt8):∀ {r:Nat},r<M32->reg r xs<M32:=by
 induction xs with
 | nil=>intro r h;exact h
 | cons x xs ih=>intro r h;exact ih (qss h (UInt8.toNat_lt x))
def num:List UInt8->Nat
 | []=>0
 | x::xs=>x.toNat ^^^ (2^8*num xs)
theorem qq0:∃ n:Nat,n=4294967295:=⟨_,rfl⟩
noncomputable def ff:Nat:=Classical.choose qq0
theorem qq6:ff=4294967295:=Classical.choose_spec qq0
noncomputable def inv (r:Nat):Nat:=ff ^^^ r
theorem qhm (h:r<M32):inv r<M32:=qmc (by rw[qq6];decide) h
noncomputable def ext (c:Nat) (xs:List UInt8):Nat:=inv (reg (inv c) xs)
noncomputable def sum (xs:List UInt8):Nat:=ext 0 xs
theorem qr2 {c:Nat} (h:c<M32) (xs:List UInt8):ext c xs<M32:=qhm (qmh xs (qhm h))
theorem ve (xs:List UInt8):sum xs<M32:=qr2 (by decide) xs
abbrev Blk:=Int×Int×Int×Int×Int
def bls (b:Blk):List Int:=[b.1,b.2.1,b.2.2.1,b.2.2.2.1,b.2.2.2.2]
def Zz (n:Int):Prop:=0<=n/\n<=1099511627776
instance (n:Int):Decidable (Zz n):=by unfold Zz;infer_instance
def bok (b:Blk):Prop:=∀ n∈bls b,Zz n
instance (b:Blk):Decidable (bok b):=by unfold bok;infer_instance
def vK:Blk:=(0,0,0,0,0)
def qge (b:Blk):Int:=if bok b then 0 else 4
def smark:List UInt8:=[116,115,98,49]
def ocs (l:List Int):List UInt8:=l.flatMap fun n=>oc n.toNat 8
def JX (b:Blk):List UInt8:=smark++ocs (bls b)
noncomputable def zq (b:Blk):List UInt8:=JX b++oc (sum (JX b)) 4++List.replicate 16 0
open Classical in
noncomputable def JM (b:Blk):List UInt8×Int:=if bok b then(zq b,0) else([],4)
def zd (x:List UInt8) (i:Nat):Nat:=Qg ((x.take (12+8*i)).drop (4+8*i))
def qqw (x:List UInt8):Blk:=(zd x 0,zd x 1,zd x 2,zd x 3,zd x 4)
def qpf (x:List UInt8):Prop:=∀ i,i<5->zd x i<=1099511627776
instance (x:List UInt8):Decidable (qpf x):=by unfold qpf;infer_instance
noncomputable def jb (x:List UInt8):Int :=
 if x.length≠64 then 3 else if x.take 4≠smark then 22 else if(x.take 48).drop 44≠oc (sum (x.take 44)) 4 then 21 else if x.drop 48≠List.replicate 16 0 then 23 else 0
noncomputable def zJ (x:List UInt8):Blk×Int:=if jb x≠0 then(vK,jb x) else if ¬ qpf x then(vK,4) else(qqw x,0)
noncomputable def ZT (a b:List UInt8):Blk×Int×Int :=
 if(zJ a).2≠0/\(zJ b).2≠0 then(vK,0,21) else if(zJ a).2≠0\/((zJ b).2=0/\(zJ a).1.1<(zJ b).1.1) then((zJ b).1,1,0) else((zJ a).1,0,0)
def sdisk (d:Dsk):Int:=if Z4 d≠0 then Z4 d else if d.1.length<2 then 41 else 0
noncomputable def JL (d:Dsk):Blk×Int×Int:=if sdisk d≠0 then(vK,0,sdisk d) else ZT (Qk d 0).1 (Qk d 1).1
noncomputable def ZU (d:Dsk) (b:Blk):Dsk×Int :=
 if sdisk d≠0 then(([],[]),sdisk d) else if(JM b).2≠0 then(([],[]),(JM b).2) else
  if(Zv d (b.1.tmod 2) (JM b).1).2≠0 then(([],[]),(Zv d (b.1.tmod 2) (JM b).1).2) else JB (Zv d (b.1.tmod 2) (JM b).1).1
theorem YR {b:Blk} (h:bok b):JM b=(zq b,0):=xj h
theorem qpn {b:Blk} (h:¬ bok b):JM b=([],4):=xh h
theorem qi1 (l:List Int):(ocs l).length=8*l.length:=by
 induction l with
 | nil=>rfl
 | cons x r ih =>
  unfold ocs at *;rw[xO,xk,qv,ih,xC];omega
theorem qpq (a b:List Int):ocs (a++b)=ocs a++ocs b:=by unfold ocs;rw[kH]
theorem qe6 (a:Int) (b:List Int):ocs (a::b)=oc a.toNat 8++ocs b:=by unfold ocs;rw[xO]
theorem jn (b:Blk):(JX b).length=44:=by
 unfold JX;rw[xk,qi1];rfl
theorem vi (b:Blk):(zq b).length=64:=by
 unfold zq;rw[xk,xk,jn,qv,ki]
theorem qhh (b:Blk):(zq b).take 4=smark:=by
 unfold zq JX;rw[xz,xz,Xo (by rfl)]
theorem qd4 (b:Blk):(zq b).take 44=JX b:=by
 unfold zq;rw[xz,Xo (jn b)]
theorem qoz (b:Blk):((zq b).take 48).drop 44=oc (sum (JX b)) 4:=by
 unfold zq;rw[Xo (by rw[xk,jn,qv]),Kk (jn b)]
theorem qj8 (b:Blk):(zq b).drop 48=List.replicate 16 0:=by
 unfold zq;rw[Kk (by rw[xk,jn,qv])]
theorem qrj (l:List Int) (c:List UInt8):∀ (i:Nat) (n:Int),l[i]?=some n->((ocs l++c).take (8+8*i)).drop (8*i)=oc n.toNat 8:=by
 induction l with
 | nil=>intro i n h;simp at h
 | cons x r ih =>
  intro i n h;rw[qe6,xz];cases i with
  | zero =>
   simp only[kW,xr] at h;subst h;rw[Nat.mul_zero,Kn,XK,Xo (qv _ _)]
  | succ i =>
   have:=ih i n (by simpa using h)
   rw[List.take_append,List.drop_append,qv,List.drop_eq_nil_of_le (by rw[xp,qv];omega),xG,xp,qv]
   rw[show min (8+8*(i+1)) 8=8 by omega,show 8+8*(i+1)-8=8+8*i by omega,show 8*(i+1)-8=8*i by omega]
   exact this
theorem qoj {b:Blk} (h:bok b) (i:Nat) (n:Int) (hi:(bls b)[i]?=some n):(zd (zq b) i:Int)=n:=by
 have hn:Zz n:=h n (xQ hi)
 have hil:i<5:=(xn.1 hi).1
 unfold zd
 have e:((zq b).take (12+8*i)).drop (4+8*i)=oc n.toNat 8:=by
  rw[<-qrj (bls b) (oc (sum (JX b)) 4++List.replicate 16 0) i n hi];unfold zq
  conv=>lhs;unfold JX
  rw[xz,xz,List.take_append,List.drop_append,List.drop_eq_nil_of_le (by rw[xp];show min _ 4<=_;omega),xG,xp]
  rw[show smark.length=4 from rfl,show min (12+8*i) 4=4 by omega,show 12+8*i-4=8+8*i by omega,show 4+8*i-4=8*i by omega]
  rfl
 rw[e,jz _ _ (by unfold Zz at hn;omega)]
 unfold Zz at hn;omega
theorem qmu (b:Blk):jb (zq b)=0:=by
 unfold jb;rw[xh (fun h=>h (vi b)),xh (fun h=>h (qhh b)),xh (fun h=>h (by rw[qoz,qd4])),xh (fun h=>h (qj8 b))]
theorem VH {b:Blk} (h:bok b):zJ (zq b)=(b,0):=by
 have hn:=qoj h
 unfold zJ
 have e:qqw (zq b)=b:=by
  obtain⟨a0,a1,a2,a3,a4⟩:=b;unfold qqw;rw[hn 0 a0 rfl,hn 1 a1 rfl,hn 2 a2 rfl,hn 3 a3 rfl,hn 4 a4 rfl]
 rw[xh (fun h=>h (qmu b)),xh,e];intro hf;refine hf fun i hi=>?_;obtain⟨n,hn'⟩:∃ n,(bls b)[i]?=some n:=⟨_,xg (show i<(bls b).length from hi)⟩;have:=hn i n hn'
 have:=h n (xQ hn')
 unfold Zz at this;omega
theorem qkv (h:jb x=0):x.length=64/\x.take 4=smark/\(x.take 48).drop 44=oc (sum (x.take 44)) 4/\x.drop 48=List.replicate 16 0:=by
 unfold jb at h;by_cases h1:x.length≠64
 ·rw[xj h1] at h;cases h
 rw[xh h1] at h;by_cases h2:x.take 4≠smark
 ·rw[xj h2] at h;cases h
 rw[xh h2] at h;by_cases h3:(x.take 48).drop 44≠oc (sum (x.take 44)) 4
 ·rw[xj h3] at h;cases h
 rw[xh h3] at h;by_cases h4:x.drop 48≠List.replicate 16 0
 ·rw[xj h4] at h;cases h
 exact⟨Decidable.not_not.1 h1,Decidable.not_not.1 h2,Decidable.not_not.1 h3,Decidable.not_not.1 h4⟩
def pgmark:List UInt8:=[112,103]
def ZH (id:Nat) (d:List UInt8):List UInt8:=pgmark++oc d.length 2++oc id 4++d++List.replicate (244-d.length) 0
noncomputable def QY (id:Nat) (d:List UInt8):List UInt8:=ZH id d++oc (sum (ZH id d)) 4
noncomputable def zL (id:Int) (d:List UInt8):List UInt8×Int :=
 if id<0\/2147483647<id then([],4) else if 244<d.length then([],5) else(QY id.toNat d,0)
def pgn (b:List UInt8):Nat:=Qg ((b.take 4).drop 2)
def Vg (b:List UInt8):Nat:=Qg ((b.take 8).drop 4)
noncomputable def Q7 (b:List UInt8):Int×List UInt8×Int :=
 if b.length≠256 then(0,[],3) else if Qg (b.drop 252)≠sum (b.take 252) then(0,[],21) else if b.take 2≠pgmark then(0,[],22) else
  if 244<pgn b then(0,[],5) else if 2147483647<Vg b then(0,[],4) else
   if(b.take 252).drop (8+pgn b)≠List.replicate (244-pgn b) 0 then(0,[],23) else(Vg b,(b.take (8+pgn b)).drop 8,0)
def QX (d:Dsk) (at':Int):Int:=if ¬ DOk d then 9 else if at'<0\/(d.1.length:Int)-4<at' then 41 else 0
def JQ (b:List UInt8) (i:Nat):List UInt8:=(b.take (64*i+64)).drop (64*i)
def pws (at':Int) (b:List UInt8):Nat->List Wrt
 | 0=>[]
 | k+1=>pws at' b k++[(at'+k,JQ b k)]
noncomputable def zG (d:Dsk) (at' id:Int) (x:List UInt8):Dsk×Int :=
 if QX d at'≠0 then(([],[]),QX d at') else if(zL id x).2≠0 then(([],[]),(zL id x).2) else
  if 4092<d.2.length then(([],[]),51) else((d.1,d.2++pws at' (zL id x).1 4),0)
def jC (d:Dsk) (at':Int):Nat->List UInt8
 | 0=>[]
 | k+1=>jC d at' k++(Qk d (at'+k)).1
noncomputable def jq (d:Dsk) (at' id:Int):List UInt8×Int :=
 if QX d at'≠0 then([],QX d at') else if(Q7 (jC d at' 4)).2.2≠0\/(Q7 (jC d at' 4)).1≠id then([],21) else((Q7 (jC d at' 4)).2.1,0)
theorem JA (id:Nat) (h:d.length<=244):(ZH id d).length=252:=by
 unfold ZH;simp only[xk,qv,ki];show 2+2+4+_+_=_
 omega
theorem Y3 (id:Nat) (h:d.length<=244):(QY id d).length=256:=by
 unfold QY;rw[xk,JA id h,qv]
theorem JY (h:id<0\/2147483647<id):zL id d=([],4):=xj h
theorem qal (h:¬ (id<0\/2147483647<id)) (h2:244<d.length):zL id d=([],5):=by unfold zL;rw[xh h,xj h2]
theorem vk (h:¬ (id<0\/2147483647<id)) (h2:¬ 244<d.length):zL id d=(QY id.toNat d,0):=by unfold zL;rw[xh h,xh h2]
theorem y8 (h:(zL id d).2=0):(0<=id/\id<=2147483647)/\d.length<=244/\zL id d=(QY id.toNat d,0):=by
 by_cases h1:id<0\/2147483647<id
 ·rw[JY h1] at h;cases h
 by_cases h2:244<d.length
 ·rw[qal h1 h2] at h;cases h
 exact⟨by omega,by omega,vk h1 h2⟩
theorem qc8 {α : Type} (a b c:List α) (hi:a.length=i) (hj:a.length+b.length=j):((a++b++c).take j).drop i=b:=by
 rw[Xo (by rw[xk];omega),Kk hi]
theorem qae (id:Nat) (h:d.length<=244):(QY id d).take 252=ZH id d:=by
 unfold QY;rw[Xo (JA id h)]
theorem qhp (id:Nat) (h:d.length<=244):(QY id d).drop 252=oc (sum (ZH id d)) 4:=by
 unfold QY;rw[Kk (JA id h)]
theorem YB (id:Nat) (d:List UInt8):QY id d=pgmark++(oc d.length 2++(oc id 4++(d++(List.replicate (244-d.length) 0++oc (sum (ZH id d)) 4)))):=by
 unfold QY
 conv=>lhs;unfold ZH
 simp only[xz];rfl
theorem qnw (id:Nat) (d:List UInt8):(QY id d).take 2=pgmark:=by
 rw[YB,Xo (show pgmark.length=2 from rfl)]
theorem qs6 (id:Nat) (h:d.length<=244):pgn (QY id d)=d.length:=by
 unfold pgn;rw[YB,<-xz,qc8 pgmark (oc d.length 2) _ (show pgmark.length=2 from rfl) (show pgmark.length+(oc d.length 2).length=4 by rw[qv];rfl),jz _ _ (by omega)]
theorem qsu {id:Nat} (d:List UInt8) (h:id<=2147483647):Vg (QY id d)=id:=by
 unfold Vg;rw[YB,<-xz,<-xz,qc8 (pgmark++oc d.length 2) (oc id 4) _ (show (pgmark++oc d.length 2).length=4 by rw[xk,qv];rfl) (show (pgmark++oc d.length 2).length+(oc id 4).length=8 by rw[xk,qv,qv];rfl),jz _ _ (by omega)]
theorem qpg (id:Nat) (d:List UInt8):((QY id d).take (8+d.length)).drop 8=d:=by
 rw[YB,<-xz,<-xz,<-xz];exact qc8 (pgmark++oc d.length 2++oc id 4) d _ (by simp only[xk,qv];rfl) (by simp only[xk,qv];rfl)
theorem qqc (id:Nat) (h:d.length<=244):((QY id d).take 252).drop (8+d.length)=List.replicate (244-d.length) 0:=by
 rw[qae id h];unfold ZH;exact Kk (by simp only[xk,qv];show 2+2+4+_=_;omega)
theorem qli {id:Nat} (h:id<=2147483647) (hd:d.length<=244):Q7 (QY id d)=((id:Int),d,0):=by
 have hs:=ve (ZH id d)
 unfold M32 at hs;unfold Q7;rw[xh (fun k=>k (Y3 id hd)),xh (fun k=>k (by rw[qhp id hd,qae id hd,jz _ _ (by omega)])),xh (fun k=>k (qnw id d)),qs6 id hd,qsu d h,xh (by omega),xh (by omega),xh (fun k=>k (qqc id hd)),qpg id d]
theorem qg4 (xs ys:List UInt8) (k:Nat) (h:zP xs k=zP ys k):∀ i,i<k->xs.getD i 0=ys.getD i 0:=by
 induction k with
 | zero=>intro i hi;omega
 | succ k ih =>
  simp only[zP] at h;have h1:=(xs.getD k 0).toNat_lt
  have h2:=(ys.getD k 0).toNat_lt
  intro i hi;by_cases e:i=k
  ·subst e;exact UInt8.toNat_inj.1 (by omega)
  exact ih (by omega) i (by omega)
theorem qho (hl:xs.length=ys.length) (h:Qg xs=Qg ys):xs=ys:=by
 unfold Qg at h;rw[hl] at h;apply List.ext_getElem hl;intro i h1 h2;have:=qg4 xs ys ys.length h i h2
 simpa[h1,h2] using this
theorem Yl (h:b.length=256) (hi:i<4):(JQ b i).length=64:=by
 unfold JQ;rw[xE,xp];omega
theorem qni (h:b.length=256):JQ b 0++JQ b 1++JQ b 2++JQ b 3=b:=by
 unfold JQ
 have e:∀ i j:Nat,i<=j->b.take i++(b.take j).drop i=b.take j:=by
  intro i j hij
  conv=>rhs;rw[<-x7 i (b.take j),List.take_take,ke hij]
 show (b.take 64).drop 0++(b.take 128).drop 64++(b.take 192).drop 128++(b.take 256).drop 192=b
 rw[Kn,e 64 128 (by omega),e 128 192 (by omega),e 192 256 (by omega),xx (by omega)]
theorem yr (at':Int) (b:List UInt8):∀ k,(pws at' b k).length=k
 | 0=>rfl
 | k+1=>by rw[pws,xk,yr at' b k];rfl
theorem Vr {at':Int} {b:List UInt8}:∀ {k:Nat} {y:Wrt},y∈pws at' b k->∃ i:Nat,i<k/\y=(at'+i,JQ b i)
 | 0,y,h=>nomatch h
 | k+1,y,h=>by
  rw[pws,xu] at h;rcases h with h|h
  ·obtain⟨i,hi,e⟩:=Vr h;exact⟨i,by omega,e⟩
  simp only[ku] at h;exact⟨k,by omega,h⟩
theorem Vs (k:Int) (x:List UInt8) (a b:List Wrt):QF k x (a++b)=QF k (QF k x a) b:=by unfold QF;rw[List.foldl_append]
theorem qa6 (j at':Int) (b x:List UInt8):∀ k,QF j x (pws at' b k)=if at'<=j/\j<at'+k then JQ b (j-at').toNat else x
 | 0=>by
  rw[xh (by omega)];rfl
 | k+1=>by
  rw[pws,Vs,qa6 j at' b x k];show (if at'+k=j then JQ b k else _)=_
  by_cases h:at'+k=j
  ·rw[xj h,xj (by omega)]
   congr 1;omega
  rw[xh h];by_cases h2:at'<=j/\j<at'+k
  ·rw[xj h2,xj (by omega)]
  rw[xh h2,xh (by omega)]
theorem yl {d:Dsk} :QX d at'=0↔DOk d/\0<=at'/\at'<=(d.1.length:Int)-4:=by
 unfold QX;by_cases h:DOk d
 ·rw[xh (fun k=>k h)];by_cases h2:at'<0\/(d.1.length:Int)-4<at'
  ·rw[xj h2];exact⟨fun e=>(by cases e),fun e=>(by omega)⟩
  rw[xh h2];exact⟨fun _=>⟨h,by omega,by omega⟩,fun _=>rfl⟩
 rw[xj h];exact⟨fun e=>(by cases e),fun e=>absurd e.1 h⟩
theorem jg {d:Dsk} {k:Int} (h:DOk d) (h0:0<=k) (h1:k<d.1.length):Qk d k=(QF k (d.1.getD k.toNat []) d.2,0):=by
 unfold Qk;rw[xh (fun e=>e (ZC.2 ⟨h,h0,h1⟩))]
theorem qck {d:Dsk} (h:DOk d) (hb:b.length=256) (h0:0<=at') (h1:at'<=(d.1.length:Int)-4) (hc:d.2.length<=4092):DOk (d.1,d.2++pws at' b 4):=by
 refine⟨h.1,h.2.1,?_,h.2.2.2.1,?_⟩
 ·show (d.2++_).length<=_
  rw[xk,yr];omega
 intro y hy;rcases xu.1 hy with hy|hy
 ·exact h.2.2.2.2 y hy
 obtain⟨i,hi,rfl⟩:=Vr hy;exact⟨⟨by dsimp only;omega,by dsimp only;omega⟩,Yl hb hi⟩
theorem qfu {d:Dsk} (h:DOk d) (h0:0<=at') (h1:at'<=(d.1.length:Int)-4) (h2:(zL id x).2=0) (hc:d.2.length<=4092):zG d at' id x=((d.1,d.2++pws at' (QY id.toNat x) 4),0):=by
 unfold zG;rw[xh (fun k=>k (yl.2 ⟨h,h0,h1⟩)),xh (fun k=>k h2),xh (by omega),(y8 h2).2.2]
theorem Jh {d:Dsk} (h:DOk d) (hb:b.length=256) (h0:0<=at') (h1:at'<=(d.1.length:Int)-4) (hc:d.2.length<=4092) {j:Int} (hj:0<=j) (hj1:j<d.1.length) :
 (Qk (d.1,d.2++pws at' b 4) j).1=if at'<=j/\j<at'+4 then JQ b (j-at').toNat else(Qk d j).1:=by
 rw[jg (qck h hb h0 h1 hc) hj hj1,jg h hj hj1];dsimp only;rw[Vs,qa6];rfl
theorem qhy {d:Dsk} (h:DOk d) (hb:b.length=256) (h0:0<=at') (h1:at'<=(d.1.length:Int)-4) (hc:d.2.length<=4092):jC (d.1,d.2++pws at' b 4) at' 4=b:=by
 have e:∀ i:Nat,i<4->(Qk (d.1,d.2++pws at' b 4) (at'+i)).1=JQ b i:=by
  intro i hi;rw[Jh h hb h0 h1 hc (by omega) (by omega),xj (by omega)]
  congr 1;omega
 show ([]++(Qk _ (at'+(0:Nat))).1++(Qk _ (at'+(1:Nat))).1++(Qk _ (at'+(2:Nat))).1++(Qk _ (at'+(3:Nat))).1)=b
 rw[e 0 (by decide),e 1 (by decide),e 2 (by decide),e 3 (by decide),xG,qni hb]
theorem qhj {d:Dsk} (h:DOk d) (hb:b.length=256) (h0:0<=at') (h1:at'<=(d.1.length:Int)-4) (hc:d.2.length<=4092) {to':Int} (t0:0<=to') (t1:to'<=(d.1.length:Int)-4) (ht:to'+4<=at'\/at'+4<=to'):jC (d.1,d.2++pws at' b 4) to' 4=jC d to' 4:=by
 have e:∀ i:Nat,i<4->(Qk (d.1,d.2++pws at' b 4) (to'+i)).1=(Qk d (to'+i)).1:=by
  intro i hi;rw[Jh h hb h0 h1 hc (by omega) (by omega),xh (by omega)]
 show ([]++(Qk _ (to'+(0:Nat))).1++(Qk _ (to'+(1:Nat))).1++(Qk _ (to'+(2:Nat))).1++(Qk _ (to'+(3:Nat))).1)=([]++(Qk _ (to'+(0:Nat))).1++(Qk _ (to'+(1:Nat))).1++(Qk _ (to'+(2:Nat))).1++(Qk _ (to'+(3:Nat))).1)
 rw[e 0 (by decide),e 1 (by decide),e 2 (by decide),e 3 (by decide)]
def jE (n:Nat):List (List UInt8):=List.replicate n (List.replicate 64 0)
theorem qex (h:1<=n) (h2:n<=1024):qbl (n:Int)=((jE n,[]),0):=by
 unfold qbl;rw[xh (by omega),kA];rfl
theorem qqv (h:1<=n) (h2:n<=1024):DOk (jE n,[]):=by
 refine⟨by simp[jE];omega,by simp[jE];omega,by simp,?_,fun y hy=>nomatch hy⟩
 intro x hx;rw[(List.mem_replicate.1 hx).2];simp
theorem qen (n:Nat):(jE n).length=n:=by simp[jE]
abbrev SSec:Shp (List (List UInt8)):=Shp.list 52 Shp.octs
theorem qp4 (u:World):(Instr.makeSlice 52 (.int .i64 64) (.int .i64 64)).run Tryz.prog u =
      .ok (.slice (some ⟨u.heap.size,0,none⟩) 64 64) (u.alloc (.cells (madeCells #[.int .u8 0] 64) 5)):=YY (n:=64) (by omega) u
theorem Zr (w:World) (v:Value) (x:List UInt8) (h:Rd w v x) :
 Calls Tryz.prog 50 #[v] w fun e w'=>∃ v',e=.returned v'/\OwnB w.heap.size w' v' (pad x)/\Below w.heap.size w w':=by
 have hmk:=qp4
 have om:=qaw w 64 (by unfold maxLen;omega)
 obtain⟨w1,hw1⟩:∃ w1,w1=w.alloc (.cells (madeCells #[.int .u8 0] 64) 5):=⟨_,rfl⟩;rw[<-hw1] at om;have b1:Below w.heap.size w w1:=by rw[hw1];exact(xm _ _).alloc (xc _) _
 obtain⟨w2,hrun,o2,b2,_⟩:=yN 3 om (h.to b1);rw[ki,hw1] at hrun;replace hw1:=qa hw1;have B2:=qa (b1.trans b2)
 have O2:=qa o2
 obtain⟨a,c,rfl⟩:=h.slice;clear b1 b2 o2 om h;go_enter Tryz.func50,Tryz.ntmps50;go_wp2;go_ret;exact⟨_,rfl,O2.out,B2.out⟩
theorem qsj:(Tryz.prog.info? 52).map (fun i=>(i.zero,i.size,i.bytes))=some (some (.slice none 0 0),1,24):=by kernel_rfl
theorem Vu (hn:n<=10000000000000) (u:World):(Instr.makeSlice 40 (.int .i64 (n:Int)) (.int .i64 (n:Int))).run Tryz.prog u =
      .ok (.slice (some ⟨u.heap.size,0,none⟩) n n) (u.alloc (.cells (madeCells #[.slice none 0 0] n) 52)):=by
 obtain⟨i0,hi,hz0,hz1,hz2⟩:=Xh qsj;have h:=run_make (P:=Tryz.prog) u 40 52 i0 (.slice none 0 0) Tryz.underlying40 hi hz0 .i64 .i64 (n:Int) (n:Int) (by omega) (Kj _) (by rw[hz2];omega) (by omega)
 simpa[hz1,Value.cells] using h
theorem qbq (w:World) (n:Nat) (h:n<=10000000000000):Own SSec w.heap.size (w.alloc (.cells (madeCells #[.slice none 0 0] n) 52)) [.slice (some ⟨w.heap.size,0,none⟩) n n] (List.replicate n []):=by
 refine Own.made qm1 ?_;have:=World.ownsRow_lit (base:=w.heap.size) (e:=52) (size:=1) w (madeCells #[.slice none 0 0] n) n (xc _) (by unfold maxLen;omega) (by simp[madeCells])
 rw[toList_madeCells_one] at this;exact this
theorem qnd {α β : Type} (f : α -> β) (z : β) (xs:List α) {x : α} (hx:xs[k]?=some x):((xs.take k).map f++List.replicate (xs.length-k) z).set k (f x)=(xs.take (k+1)).map f++List.replicate (xs.length-(k+1)) z:=by
 have hk:k<xs.length:=(xn.1 hx).1
 rw[show xs.length-k=(xs.length-(k+1))+1 from by omega,List.replicate_succ]
 rw[List.set_append_right _ _ (by simp;omega)]
 have e:k-((xs.take k).map f).length=0:=by simp;omega
 rw[e,List.set_cons_zero,Xf,hx];simp
theorem OwnF.sector {sv:Value} (h:OwnF SSec F w [sv] ss) (hx:ss[k]?=some x) :
 ∃ g cap u,sv=.slice (some ⟨g,0,none⟩) ss.length cap/\ss.length<=cap/\w.cell? ⟨g,k,none⟩=some u/\OwnB 0 w u x/\g∈F/\(∀ b,u.ownBlock=some b->b∈F/\b≠g)/\
  ∀ w' x',OwnB 0 w' u x'->(∀ b,b∈F->some b≠u.ownBlock->w'.heap[b]?=w.heap[b]?)->OwnF SSec F w' [sv] (ss.set k x'):=by
 obtain⟨g,cap,F2,c,hv,hcap,_,hgF,⟨u,rfl,ho,rfl⟩,hF2,hc,fin⟩:=OwnF.at h hx;refine⟨g,cap,u,hv,hcap,?_,ho,hgF,fun b hb=>hF2 b (by simp[hb]),fun w' x' ho' hk=>fin w' x' ⟨u,rfl,ho',rfl⟩ fun b hb hn=>hk b hb fun e=>hn (by simp[<-e])⟩
 have:=hc 0 u rfl
 simpa[Shp.octs] using this
theorem jT (w:World) (v:Value) (ss:List (List UInt8)) (h:zp w v ss) (hm:ss.length<=10000000000000) :
 Calls Tryz.prog 37 #[v] w fun e w'=>∃ v',e=.returned v'/\Own SSec w.heap.size w' [v'] (ss.map pad)/\Below w.heap.size w w':=by
 have hmk:=fun u=>Vu hm u
 obtain⟨a,c,rfl⟩:=h.slice;have ol:=qbq w ss.length hm
 have hb0:Below w.heap.size w (w.alloc (.cells (madeCells #[.slice none 0 0] ss.length) 52)):=(xm _ _).alloc (xc _) _
 have OL:=qa ol
 have HB0:=qa hb0
 clear ol hb0;go_enter Tryz.func37,Tryz.ntmps37;go_wp2
 go_loopw [10] (fun i wr=>∃ k:Nat,k<=ss.length/\i=.int .i64 k/\Own SSec w.heap.size wr [.slice (some ⟨w.heap.size,0,none⟩) ss.length ss.length] ((ss.take k).map pad++List.replicate (ss.length-k) [])/\Below w.heap.size w wr)
  (fun i _=>ss.length-(intOf i).toNat)
 case atStart=>exact⟨0,xt _,rfl,by simpa using OL.out,HB0.out⟩
 case round =>
 obtain⟨k,hk,rfl,ho,hb⟩:=hrel;clear OL HB0;by_cases hlt:k<ss.length
 ·have hq:(k:Int)<(ss.length:Int):=by omega
  obtain⟨x,hx,_⟩:=jh ss hlt;obtain⟨b1,o1,u,rfl,hc,hr⟩:=(h.to0 hb).oct hx;obtain⟨g,cap,e,hcap,hBg,hgl,hfz,⟨u0,hc0⟩,fin⟩:=ho.store rfl hb.size (i:=k) (by simp;omega)
  have hlen:((ss.take k).map pad++List.replicate (ss.length-k) []).length=ss.length:=by simp;omega
  rw[hlen] at e;cases e
  have em:=qnd pad [] ss hx
  have HX:=qa hx
  have HB:=qa hb
  clear ho hb hx
  go_wp2_with fail
  refine(Zr _ _ x hr).mono ?_;rintro e w1 ⟨v1,rfl,o1',b1'⟩;have f2:=fin w1 v1 (pad x) b1' o1'.toOwn
  rw[em] at f2;have F2:=qa f2
  have hc1:=(b1'.cell (qe hc0)).trans hc0
  have hf1:=(b1'.frozen (p:=⟨w.heap.size,k,none⟩) (by exact hgl)).trans hfz
  have HB1:=qa ((HB.out.trans (b1'.mono HB.out.size)).setCell (p:=⟨w.heap.size,k,none⟩) (xc _) v1)
  obtain⟨a1,c1,hv1⟩:=o1'.rd.slice;clear f2 fin o1' b1' hc hc0 hfz em hr;subst hv1;go_wp2;go_roundw
  case rel=>exact⟨k+1,by omega,by go_num,F2.out,HB1.out⟩
  case measure=>simp[intOf];omega
 obtain rfl:k=ss.length:=by omega
 go_wp2;go_ret;refine⟨_,rfl,?_,hb⟩
 simpa using ho
theorem qk {K:Act->World->Prop} {Q:Exit->Act->World->Prop} (n:FuncId) (xs:Array Operand) (ts:Array TypeId)
 (ho:o.op=.call {callee:=.value (.func n),args:=xs,argTypes:=ts}) (vals:Array Value) (hv:xs.map a.eval=vals) (hent:(callFunc n vals).run P w=.ok (.enter n vals) w) {R:Ending->World->Prop} (hc:Calls P n vals w R)
 (h:∀ e w',R e w'->∃ v,e=.returned v/\K (a.put o.dst v) w'):o.wp P a w K Q:=by
 unfold Oper.wp;have he:a.eval (.func n)=.func (.func n) #[] #[]:=rfl
 simp[execOp,ho,resolve,invoke,hv,he,Deferred.ofValue];rw[hent,Oper.upon_enter];refine hc.mono ?_;intro e w' hr;obtain⟨v,rfl,hk⟩:=h e w' hr;exact hk
theorem ZJ {K:Act->World->Prop} {Q:Exit->Act->World->Prop} {E:Prop} (hgd:o.guard=none) (n:FuncId) (xs:Array Operand) (ts:Array TypeId)
 (ho:o.op=.call {callee:=.value (.func n),args:=xs,argTypes:=ts}) (vals:Array Value) (hv:xs.map a.eval=vals) (hent:(callFunc n vals).run P w=.ok (.enter n vals) w) {R:Ending->World->Prop} (hc:Calls P n vals w R)
 (h:∀ e w',R e w'->∃ v,e=.returned v/\K (a.put o.dst v) w'):if Region.wanted o (yielded ops a.tmps)=true then Oper.wp P o a w K Q else E:=by
 rw[xj (by simp[Region.wanted,hgd])]
 exact qk n xs ts ho vals hv hent hc h
abbrev Vm:Shp (List Wrt):=Shp.list 113 SWr
abbrev Zd:Shp Dsk:=SSec.pair Vm
def qet (y:Wrt):Wrt:=(y.1,pad y.2)
theorem qon:(Tryz.prog.info? 113).map (fun i=>(i.zero,i.size,i.bytes))=some (some (.agg #[.int .i64 0,.slice none 0 0]),2,32):=by kernel_rfl
theorem Qh:(Tryz.prog.info? 43).map (·.size)=some 2:=by kernel_rfl
theorem qii (h:OwnB B w v x):Own SWr B w [.int .i64 z,v] (z,x):=by
 obtain⟨F,h1,h2,h3⟩:=h.toOwn;exact⟨F,⟨[.int .i64 z],[v],[],F,rfl,rfl,⟨rfl,rfl⟩,h1⟩,h2,h3⟩
theorem ql8 {α β : Type} (f : α -> β) (xs:List α) {x : α} (hx:xs[k]?=some x):(xs.take k).map f++[f x]=(xs.take (k+1)).map f:=by
 rw[Xf,hx];simp
theorem qsl (hn:n<=1000000000000) (u:World):(Instr.makeSlice 41 (.int .i64 0) (.int .i64 (n:Int))).run Tryz.prog u =
      .ok (.slice (some ⟨u.heap.size,0,none⟩) 0 n) (u.alloc (.cells (madeCells #[.int .i64 0,.slice none 0 0] (n*2)) 113)):=by
 obtain⟨i0,hi,hz0,hz1,hz2⟩:=Xh qon;have h:=run_make (P:=Tryz.prog) u 41 113 i0 _ Tryz.underlying41 hi hz0 .i64 .i64 0 (n:Int) (by omega) (by omega) (by rw[hz2];omega) (by omega)
 simpa[hz1,Value.cells] using h
theorem qn8 (w:World) (n:Nat) (h:n<=1000000000000):Own Vm w.heap.size (w.alloc (.cells (madeCells #[.int .i64 0,.slice none 0 0] (n*2)) 113)) [.slice (some ⟨w.heap.size,0,none⟩) 0 n] [] :=
 Own.cap _ _ ⟨rfl,.inr ⟨w.heap.size,n,_,rfl,xc _,xy w _,xt _,by unfold maxLen;omega,by simp[madeCells,SWr,Shp.pair,Shp.int,Shp.octs],by simp⟩⟩
theorem qe1 (w:World) (sv cv:Value) (d:Dsk) (h1:zp w sv d.1) (h2:RdC w cv d.2) (hm1:d.1.length<=100000) (hm2:d.2.length<=100000) :
 Calls Tryz.prog 49 #[.agg #[sv,cv]] w fun e w'=>∃ sv' cv',e=.returned (.agg #[sv',cv'])/\Own Zd w.heap.size w' [sv',cv'] (d.1.map pad,d.2.map qet)/\Below w.heap.size w w':=by
 obtain⟨i0,hi,hz0,hz1,hz2⟩:=Xh qon;obtain⟨a1,c1,rfl⟩:=h1.slice;obtain⟨a2,c2,rfl⟩:=h2.slice;obtain⟨W1,hW1,D0,D1,bW1,sW1⟩:=J4 w (.slice a1 d.1.length c1) (.slice a2 d.2.length c2) 43;obtain⟨W,hW⟩:∃ W,W=W1.alloc (.cells #[.slice none 0 0,.slice none 0 0] 43):=⟨_,rfl⟩;have bW2:Below W1.heap.size W1 W:=by rw[hW];exact(xm _ _).alloc (xc _) _
 have sW:W.heap.size=w.heap.size+1+1:=by rw[hW];simp[sW1]
 have hZ:W.heap[w.heap.size+1]?=some (.cells #[.slice none 0 0,.slice none 0 0] 43 (0,0)):=by rw[hW,<-sW1];exact xy W1 _
 replace D0:=(bW2.cell (qe D0)).trans D0;replace D1:=(bW2.cell (qe D1)).trans D1;have bW:=bW1.trans (bW2.mono bW1.size)
 replace h1:=h1.to0 bW;replace h2:=h2.to0 bW;have hmk:∀ u:World,(Instr.makeSlice 41 (.int .i64 0) (.int .i64 ((d.2.length:Int)+1))).run Tryz.prog u=_:=fun u=>qsl (n:=d.2.length+1) (by omega) u
 have oc:=qn8 W (d.2.length+1) (by omega)
 obtain⟨U,hU⟩:∃ U,U=W.alloc (.cells (madeCells #[.int .i64 0,.slice none 0 0] ((d.2.length+1)*2)) 113):=⟨_,rfl⟩;rw[<-hU] at oc;have bU:Below W.heap.size W U:=by rw[hU];exact(xm _ _).alloc (xc _) _
 rw[hW1] at hW;rw[hW] at hU;have e0:=(bU.cell (qe D0)).trans D0
 have e1:=(bU.cell (qe D1)).trans D1
 rw[sW] at oc;have OC:=qa oc
 have HZ:=qa hZ
 have BU:=qa bU
 have BW:=qa bW
 clear oc hZ bU bW bW1 bW2;go_enter Tryz.func49,Tryz.ntmps49;go_wp2;rw[<-hU];replace hU:=qa hU;replace hW:=qa hW;replace hW1:=qa hW1;clear hmk e0 e1
 go_loopw [3,14] (fun c i wr=>∃ k:Nat,k<=d.2.length/\i=.int .i64 k/\Own Vm (w.heap.size+1+1) wr [c] ((d.2.take k).map qet)/\Below W.heap.size W wr) (fun _ i _=>d.2.length-(intOf i).toNat)
 case atStart=>exact⟨0,xt _,rfl,OC.out,BU.out⟩
 case round =>
 obtain⟨k,hk,rfl,ho,hb⟩:=hrel;clear OC BU;by_cases hlt:k<d.2.length
 ·have hq:(k:Int)<(d.2.length:Int):=by omega
  obtain⟨y,hy,_⟩:=jh d.2 hlt;obtain⟨b1,o1,u,rfl,hc1,hc2,hr⟩:=(h2.to0 hb).wrt hy;obtain⟨au,cu,rfl⟩:=hr.slice;obtain⟨V,hV,V0,V1,bV,sV⟩:=J4 wr (.int .i64 y.1) (.slice au y.2.length cu) 113;have hrV:Rd V.drew _ _:=hr.to bV.drew
  obtain⟨F,hF,hFB⟩:=ho.foot;have hxl:((d.2.take k).map qet).length=k:=by simp;omega
  obtain⟨cc,rowT,fin⟩:=OwnF.lit (hF.to bV) hxl;have hbV:=hb.trans (bV.mono hb.size)
  have hsn:=ql8 qet d.2 hy
  have FIN:Hid (∀ (w2:World) (av:Option Addr) (cv2:Nat) (w5:World) (g cap:Nat),Below V.heap.size V.drew w2->OwnB V.heap.size w2 (.slice av 64 cv2) (pad y.2)->(w2.alloc (.cells #[.int .i64 y.1,.slice av 64 cv2] 113)).grownBy w5 u3.ownBlock ->
   w5.ownsRow 0 113 2 (.slice (some ⟨g,0,none⟩) (k+1) cap) (k+1) (cc++[.int .i64 y.1,.slice av 64 cv2])->(u3.ownBlock=some g\/g=w2.heap.size+1)->
   Own Vm (w.heap.size+1+1) w5 [.slice (some ⟨g,0,none⟩) (k+1) cap] ((d.2.take (k+1)).map qet)/\Below W.heap.size W w5):=fun w2 av cv2 w5 g cap k1 k2 k3 k4 k5=>by
   obtain⟨⟨F',q1,q2⟩,q3,_⟩:=fin w2 [.int .i64 y.1,.slice av 64 cv2] (qet y) 113 _ w5 g cap ((xm _ _).drew.trans k1) (qii k2) rfl rfl rfl rfl k3 k4 k5;rw[hsn] at q1;have hWV:W.heap.size<=V.heap.size:=hbV.size
   exact⟨q1.own fun b hb'=>(q2 b hb').elim (hFB b) (fun h=>by omega),hbV.trans (q3 W.heap.size (fun b hb'=>by have:=hFB b hb';omega) hWV)⟩
  have ROW:Hid (∀ u,Below V.heap.size V.drew u->∀ o:Obj,(u.alloc o).ownsRow 0 113 2 u3 k cc):=fun u hu o=>rowT _ (((xm _ _).drew.trans hu).alloc hu.size o)
  have KS:=qa (Zr V.drew _ y.2 hrV)
  have h63:k+1<=maxLen:=by rw[show maxLen=9223372036854775807 from rfl];omega
  have hby:(k+1)*32<=140737488355328:=by omega
  clear fin rowT hrV hsn hxl hF hFB ho hr hbV bV hb hy;obtain⟨z,hz⟩:∃ z,z=y.1:=⟨_,rfl⟩;obtain⟨L,hL⟩:∃ L,L=y.2.length:=⟨_,rfl⟩;obtain⟨P,hP⟩:∃ P,P=pad y.2:=⟨_,rfl⟩;have hPL:P.length=64:=by rw[hP];exact qid _
  rw[<-hz] at hc1 hV V0 FIN;rw[<-hP] at KS FIN;rw[<-hL] at hc2 hV V1 KS;replace hz:=qa hz;replace hL:=qa hL;replace hP:=qa hP;replace hPL:=qa hPL;go_wp2;rw[<-hV];replace hV:=qa hV
  go_region_law (first
   | (refine ZJ (by rfl) 50 _ _ (by rfl) #[.slice au L cu] (by simp[Act.eval]) (Tryz.call50 _ _) KS.out ?_;rintro e w2 ⟨v2,rfl,o2,b2⟩;obtain⟨av,cv2,hv2⟩:=o2.rd.slice;rw[hPL.out] at hv2;subst hv2;refine⟨_,rfl,?_⟩;have y0:=(b2.cell (p:=⟨wr.heap.size,0,none⟩) (qe V0)).trans V0)
   | (refine step_append_lies _ (by rfl) _ _ _ (by rfl) 0 113 i0 _ 2 32 Tryz.underlying41 hi hz0 hz1 hz2 rfl (by omega) u3 k cc (by rfl) (ROW.out w2 b2 _) ⟨w2.heap.size,0,none⟩ 1 1 [.int .i64 z,.slice av 64 cv2] (by rfl) (by rfl) (Xr (xy w2 _)) (by simp[Value.oneCell']) (by omega) h63 hby (xt _) (w2.heap.size+1) (by simp) ?_;intro g cap w5 ho5 hg5 hat5 hlt5))
  all_goals
   have HF:=qa (FIN.out w2 av cv2 w5 g cap b2 o2 hg5 ho5 hat5)
   clear ho5 hg5 hat5 FIN ROW KS o2 b2;go_wp2;go_roundw
   case rel=>exact⟨k+1,by omega,by go_num,HF.out⟩
   case measure=>simp[intOf];omega
 obtain rfl:k=d.2.length:=by omega
 rw[xx (xc _)] at ho;replace h1:=h1.to0 hb;have E0:=(hb.cell (qe D0)).trans D0
 have Z1:=(hb.block (w.heap.size+1) (by omega)).trans HZ.out
 have cc:=BW.out.trans (hb.mono BW.out.size)
 have hs1:w.heap.size+1+1<=wr.heap.size:=by have:=hb.size;omega
 clear D0 D1 h2 hb HZ BW hi hz0 hz1 hz2
 go_wp2_with fail
 refine(jT _ _ d.1 h1 (by omega)).mono ?_
 rintro e w1 ⟨v1,rfl,o1,b1⟩;have oo:=(ho.pair' b1 o1 (xc _) hs1)
 have Z2:=(b1.block (w.heap.size+1) (by omega)).trans Z1
 have c1:=cc.trans (b1.mono cc.size)
 have f0:w1.frozen? ⟨w.heap.size+1,0,none⟩=false:=frozen_of_row _ _ 0 _ _ Z2
 have f1:w1.frozen? ⟨w.heap.size+1,1,none⟩=false:=frozen_of_row _ _ 1 _ _ Z2
 have g0:w1.cell? ⟨w.heap.size+1,0,none⟩=some (.slice none 0 0):=by rw[Xi _ _ 0 _ _ (0,0) Z2];rfl
 have g1:w1.cell? ⟨w.heap.size+1,1,none⟩=some (.slice none 0 0):=by rw[Xi _ _ 1 _ _ (0,0) Z2];rfl
 obtain⟨av,ca,hv1⟩:=o1.rdS.slice;obtain⟨ac,cc',hv2⟩:=ho.rdS.slice;rw[Xe] at hv1 hv2;subst hv1 hv2;have OO:=qa oo
 have ZZ:=qa Z2
 have CC:=qa c1
 clear oo Z2 c1 o1 b1 ho h1 E0 Z1 cc;go_wp2;refine qfq rfl rfl (w.heap.size+1) rfl _ _ _ _ (qR ZZ.out _ _) _ Xd rfl Qh ?_;exact⟨_,_,rfl,((OO.out.set (a:=⟨w.heap.size+1,0,none⟩) (by simp) _).set (a:=⟨w.heap.size+1,1,none⟩) (by simp) _).mono (show w.heap.size<=w.heap.size+1+1 by omega),qF CC.out (show w.heap.size<=w.heap.size+1 by omega) _ _⟩
section
variable {P:Program} {ops:Array Oper} {md:Region.Mode} {Q:Exit->Act->World->Prop} {S:World->Prop}
def JG (P:Program) (md:Region.Mode) (ops:Array Oper) (Q:Exit->Act->World->Prop) (S:World->Prop) (m:Nat) (L:Array Bool->Act->World->Prop):Nat->Array Bool->Act->World->Prop
 | 0,listed,a,w=>L listed a w
 | f+1,listed,a,w=>Region.ready md ops listed≠[]/\∀ i∈Region.ready md ops listed,i<m/\wpOp P ops Q i (fun a' w'=>S w'/\JG P md ops Q S m L f (listed.setIfInBounds i true) a' w') a w
theorem ja {m g:Nat} {L:Array Bool->Act->World->Prop} (hL:∀ listed a w,L listed a w->wpAny P md ops Q g listed a w) :
 ∀ (f:Nat) (listed:Array Bool) (a:Act) (w:World),JG P md ops Q S m L f listed a w->wpAny P md ops Q (f+g) listed a w
 | 0,listed,a,w,h=>by rw[XD];exact hL _ _ _ h
 | f+1,listed,a,w,h=>by
  rw[show f+1+g=(f+g)+1 by omega]
  exact⟨fun h0=>absurd h0 h.1,fun i hi=>wpOp_mono (fun a' w' h'=>ja hL f _ a' w' h'.2) (h.2 i hi).2⟩
theorem qar (a:Act) (d:Option Tmp) (v:Value):a.put d v={a with tmps:=(a.put d v).tmps}:=by cases d<;>rfl
theorem Jl {oi:Oper} {L:Array Bool->Act->World->Prop} (hi:ops[i]?=some oi) (hsel:∀ (j:Nat) (o:Oper) cs b,ops[j]?=some o->o.op≠.select cs b)
 (hs:Region.sinkB md ops m=true) (hc:Region.chainB md ops m=true) (hm:m<ops.size) (him:i<m) (hQ:∀ c a w,Q (.panic c) (a.put oi.dst v) w->Q (.panic c) a w)
 (hdone:∀ listed a w,L listed a w->∀ j∈Region.ready md ops listed,m<=j) :
 ∀ (f:Nat) (listed:Array Bool) (a:Act) (w:World),HeadInv md ops m listed ->
  (∀ j oj,ops[j]?=some oj->j≠i->listed.getD j true=false->(∀ e∈oj.after,Region.binds md e=true->e.on≠i)->oi.apart ops oj=true)->
  i∈Region.ready md ops listed->YieldsIf P ops S oi v a->S w ->
  JG P md ops Q S m L f (listed.setIfInBounds i true) (a.put oi.dst v) w->JG P md ops Q S m L (f+1) listed a w:=by
 intro f
 induction f with
 | zero =>
  intro listed a w inv _ hr hy hS H;have hun:=(mem_ready.1 hr).1
  refine⟨fun h=>(by rw[h] at hr;cases hr),fun j hj=>?_⟩
  have hjn:j<m:=by
   rcases Nat.lt_or_ge j m with h|h
   ·exact h
   exact absurd hj (tail_waits hs hc hm inv _ i rfl him hun j h)
  refine⟨hjn,?_⟩;by_cases hji:j=i
  ·subst hji;exact hy.wpOp hi hS ⟨hS,H⟩
  have:=hdone _ _ _ H j (ready_mono hj hji)
  omega
 | succ f ih =>
  intro listed a w inv hfree hr hy hS H;have hun:=(mem_ready.1 hr).1
  refine⟨fun h=>(by rw[h] at hr;cases hr),fun j hj=>?_⟩
  have hjn:j<m:=by
   rcases Nat.lt_or_ge j m with h|h
   ·exact h
   exact absurd hj (tail_waits hs hc hm inv _ i rfl him hun j h)
  refine⟨hjn,?_⟩;by_cases hji:j=i
  ·subst hji;exact hy.wpOp hi hS ⟨hS,H⟩
  have h1:=(H.2 j (ready_mono hj hji)).2
  obtain⟨hjun,oj,hoj,hall⟩:=mem_ready.1 hj
  have hnot:∀ e∈oj.after,Region.binds md e=true->e.on≠i:=fun e he hb heq=>by
   have h1:=hall e he hb
   rw[heq,getD_both hun] at h1;cases h1
  have h2:=wpOp_putIf hoj (hfree j oj hoj hji hjun hnot) (fun cs b=>hsel i oi cs b hi) (fun cs b=>hsel j oj cs b hoj) hQ hy h1
  have hfree':∀ k ok,ops[k]?=some ok->k≠i->(listed.setIfInBounds j true).getD k true=false ->
   (∀ e∈ok.after,Region.binds md e=true->e.on≠i)->oi.apart ops ok=true:=fun k ok hk hki hun hno=>by
   refine hfree k ok hk hki ?_ hno;by_cases hjk:j=k
   ·subst hjk;exact hjun
   rw[getD_set_ne true hjk] at hun;exact hun
  refine wpOp_mono (fun a' w' h3=>⟨h3.2.1,ih (listed.setIfInBounds j true) a' w' (inv.set hj hjn) hfree' (ready_mono hr (Ne.symm hji)) h3.1 h3.2.1 ?_⟩) h2;rw[Array.setIfInBounds_comm _ _ hji];exact h3.2.2
def VY (P:Program) (ops:Array Oper) (S:World->Prop) (Z:Act->Prop):List Oper->Act->Prop
 | [],a=>Z a
 | o::l,a=>∃ v,YieldsIf P ops S o v a/\VY P ops S Z l (a.put o.dst v)
def ZO (P:Program) (ops:Array Oper) (Q:Exit->Act->World->Prop) (S:World->Prop) (Z:Act->World->Prop):List Oper->Act->World->Prop
 | [],a,w=>Z a w
 | o::l,a,w=>if Region.wanted o (yielded ops a.tmps)=true then o.wp P a w (fun a' w'=>S w'/\ZO P ops Q S Z l a' w') Q else S w/\ZO P ops Q S Z l (a.put o.dst undef) w
theorem Vt {m g:Nat} {Z:Act->World->Prop}:∀ (l:List Oper) (k:Nat) (listed:Array Bool) (a:Act) (w:World),(∀ j,j<l.length->l[j]?=ops[k+j]?)->k+l.length=m ->
 Region.seqB md ops (l.length+g) k listed=true->ZO P ops Q S Z l a w->JG P md ops Q S m (fun listed' a' w'=>Region.seqB md ops g m listed'=true/\Z a' w') l.length listed a w
 | [],k,listed,a,w,_,hk,hB,h=>by
  have:k=m:=by simpa using hk
  subst this;exact⟨by simpa using hB,h⟩
 | o::l,k,listed,a,w,hl,hk,hB,h=>by
  have h0:ops[k]?=some o:=by simpa using (hl 0 (by simp)).symm
  rw[xC,show l.length+1+g=(l.length+g)+1 by omega] at hB
  simp only[Region.seqB,xL,XU] at hB;refine⟨fun h1=>(by rw[hB.1] at h1;cases h1),fun i hi=>?_⟩
  rw[hB.1] at hi;have hik:i=k:=by simpa using hi
  subst hik;refine⟨by simp only[xC] at hk;omega,?_⟩
  have hw:wpOp P ops Q i (fun a' w'=>S w'/\ZO P ops Q S Z l a' w') a w:=by
   unfold wpOp;simp only[h0];unfold ZO at h
   split
   ·rename_i hwd;rw[xj hwd] at h;exact .inl h
   rename_i hwd;rw[xh hwd] at h;exact h
  exact wpOp_mono (fun a' w' h'=>⟨h'.1,Vt l (i+1) _ a' w' (fun j hj=>by have:=hl (j+1) (by simp;omega);simpa[Nat.add_assoc,Nat.add_comm 1 j] using this) (by simp only[xC] at hk;omega) hB.2 h'.2⟩) hw
theorem vP {n m g f:Nat} {L:Array Bool->Act->World->Prop} {Z:Act->Prop} (hsel:Region.noSelect ops=true) (hs:Region.sinkB md ops m=true) (hc:Region.chainB md ops m=true) (hm:m<ops.size) (hnm:n<=m)
 (hQ:∀ c (a:Act) t w,Q (.panic c) {a with tmps:=t} w->Q (.panic c) a w) (hdone:∀ listed a w,L listed a w->∀ j∈Region.ready md ops listed,m<=j) {w:World} (hS:S w)
 (hZ:∀ listed a,Region.seqB md ops g n listed=true->HeadInv md ops m listed->Z a->JG P md ops Q S m L f listed a w) :
 ∀ (l:List Oper) (k:Nat) (listed:Array Bool) (a:Act),(∀ j,j<l.length->l[j]?=ops[k+j]?)->k+l.length=n->HeadInv md ops m listed ->
 Region.lexHead md ops g l.length k listed=true->VY P ops S Z l a->JG P md ops Q S m L (l.length+f) listed a w
 | [],k,listed,a,_,hk,inv,hB,h=>by
  have:k=n:=by simpa using hk
  subst this;rw[xX,XD];exact hZ _ _ (by simpa[Region.lexHead] using hB) inv h
 | o::l,k,listed,a,hl,hk,inv,hB,h=>by
  have h0:ops[k]?=some o:=by simpa using (hl 0 (by simp)).symm
  simp only[xC,Region.lexHead,xL] at hB;obtain⟨⟨hr,hf⟩,hB'⟩:=hB;have hkn:k<m:=by simp only[xC] at hk;omega
  have hr':k∈Region.ready md ops listed:=by simpa using hr
  obtain⟨v,hy,hK⟩:=h;rw[xC,show l.length+1+f=(l.length+f)+1 by omega]
  exact Jl h0 (Region.noSelect_spec hsel) hs hc hm hkn (fun c a w h=>hQ c a (a.put o.dst v).tmps w (by rw[<-qar];exact h)) hdone _ listed a w inv (Region.free_spec h0 hf) hr' hy hS
   (vP hsel hs hc hm hnm hQ hdone hS hZ l (k+1) _ _ (fun j hj=>by have:=hl (j+1) (by simp;omega);simpa[Nat.add_assoc,Nat.add_comm 1 j] using this) (by simp only[xC] at hk;omega) (inv.set hr' hkn) hB' hK)
def qso (md:Region.Mode) (ops:Array Oper) (n m:Nat):Bool :=
 Region.noSelect ops&&decide (n<=m)&&decide (m<ops.size)&&Region.sinkB md ops m&&Region.chainB md ops m&&Region.lexHead md ops (ops.size-n) n 0 (Array.replicate ops.size false)
theorem qj {id:Nat} (S:World->Prop) (n m:Nat) (hf:P.follows .mixedOrders=true) (hB:qso .any l.toArray n m=true)
 (hQ:∀ c (a:Act) t w,Q (.panic c) {a with tmps:=t} w->Q (.panic c) a w) (hS:S w.drew)
 (h:VY P l.toArray S (fun a'=>ZO P l.toArray Q S (fun a'' w''=>wpList P l.toArray Q (l.drop m) a'' w'') ((l.take m).drop n) a' w.drew) (l.take n) a):(Code.region id l.toArray true).wp P Q a w:=by
 simp only[qso,xL,XU] at hB;obtain⟨⟨⟨⟨⟨hsel,hnm⟩,hm⟩,hs⟩,hc⟩,hlex⟩:=hB;have hm':m<l.length:=by simpa using hm
 have hln:(l.take n).length=n:=by simp;omega
 have hlm:((l.take m).drop n).length=m-n:=by simp;omega
 have hld:(l.drop m).length=l.length-m:=by simp
 have inv0:HeadInv .any l.toArray m (Array.replicate l.toArray.size false) :=
  ⟨by simp,fun j oj _ hl=>(by rw[Kf] at hl;cases hl),fun t _ ht=>getD_in (by simpa using ht) (Kf _ _)⟩
 have H:=vP (md:=.any) (g:=l.toArray.size-n) (f:=m-n) (L:=fun listed' a' w'=>Region.seqB .any l.toArray (l.length-m) m listed'=true/\wpList P l.toArray Q (l.drop m) a' w') hsel hs hc hm hnm hQ
  (fun listed a w hL=>seqB_ready hL.1) (w:=w.drew) hS (fun listed a hseq inv hz=>by
   have hsz:l.toArray.size-n=((l.take m).drop n).length+(l.length-m):=by rw[hlm];simp;omega
   rw[hsz] at hseq
   have:=Vt (md:=.any) (m:=m) ((l.take m).drop n) n listed a w.drew (fun j hj=>by
    rw[hlm] at hj;rw[XQ,xP,xj (by omega)]
    simp) (by rw[hlm];omega) hseq hz
   rwa [hlm] at this) (l.take n) 0 _ a (fun j hj=>by
    rw[hln] at hj;rw[xP,xj hj];simp) (by rw[hln];omega) inv0 (by rw[hln];exact hlex) h
 refine wp_region_any hf ?_
 have:=ja (Q:=Q) (g:=l.length-m) (fun listed a' w' hL=>by
  have:=wpAny_of_seq (md:=.any) (Q':=Q) (l.drop m) m listed a' w' (fun j=>by simp[XQ]) (by rw[hld];exact hL.1) hL.2
  rwa [hld] at this) _ _ _ _ H
 rw[hln,show n+(m-n)+(l.length-m)=l.toArray.size by simp;omega] at this
 exact this
theorem qA {Z:Act->Prop} (hw:Region.wanted o (yielded ops a.tmps)=true) (hy:∀ w,S w->(execOp a.eval o).run P w=.ok (.value v) w) (h:VY P ops S Z l (a.put o.dst v)):VY P ops S Z (o::l) a :=
 ⟨v,.inl ⟨hw,hy⟩,h⟩
theorem qM {Z:Act->World->Prop} (h:∀ K:Act->World->Prop,(∀ a' w',S w'->ZO P ops Q S Z l a' w'->K a' w')->if Region.wanted o (yielded ops a.tmps)=true then o.wp P a w K Q else K (a.put o.dst undef) w):ZO P ops Q S Z (o::l) a w:=by
 have:=h (fun a' w'=>S w'/\ZO P ops Q S Z l a' w') (fun a' w' h1 h2=>⟨h1,h2⟩)
 unfold ZO;exact this
end
open Go.RowKit
theorem qG:Tryz.prog.follows .mixedOrders=true:=by kernel_rfl
theorem qqe {id:Nat} {Q:Exit->Act->World->Prop} (n:Nat) (hm:P.follows .mixedOrders=true) (hB:Region.lexTailB .any l.toArray n=true)
 (h:wpStill P l.toArray w.drew (fun a'=>wpList P l.toArray Q (l.drop n) a' w.drew) (l.take n) a):(Code.region id l.toArray true).wp P Q a w :=
 wp_region_still_tail n hm hB h
theorem qlh {α : Type} (xs:List α) {x : α} (hx:xs[k]?=some x):xs.take k++[x]=xs.take (k+1):=by
 rw[Xf,hx];rfl
def qs9 (d:Dsk):Prop:=d.1.length*24<=140737488351232/\(∀ x∈d.1,x.length<=140737488351232)/\d.2.length*32<=140737488351232/\∀ y∈d.2,y.2.length<=140737488351232
theorem qh {x y:Value} (h:w.heap[g]?=some (.cells #[x,y] t (0,0))):w.cell? ⟨g,0,none⟩=some x/\w.cell? ⟨g,1,none⟩=some y/\w.frozen? ⟨g,0,none⟩=false/\w.frozen? ⟨g,1,none⟩=false :=
 ⟨by rw[Xi _ _ 0 _ _ (0,0) h];rfl,by rw[Xi _ _ 1 _ _ (0,0) h];rfl,frozen_of_row _ _ 0 _ _ h,frozen_of_row _ _ 1 _ _ h⟩
theorem qg9 {b:Nat} (h:w.cell? ⟨b,i,none⟩=some v) (o:Obj):(w.alloc o).cell? ⟨b,i,none⟩=some v :=
 (KX (a:=⟨b,i,none⟩) (xR w o b (qe h))).trans h
theorem qos {x y:Value} (h:w.heap[g]?=some (.cells #[x,y] t (0,0))) (u:Value):(w.setCell ⟨g,1,none⟩ u).heap[g]?=some (.cells #[x,u] t (0,0)):=by
 simp[World.setCell,Xc,h]
theorem DOk.fit {d:Dsk} (h:DOk d):qs9 d:=by
 obtain⟨_,h2,h3,h4,h5⟩:=h;refine⟨by omega,fun x hx=>by rw[h4 x hx];omega,by omega,fun y hy=>by rw[(h5 y hy).2];omega⟩
theorem zz (T B:Nat) (w:World):Own (SSec.pair (Shp.list T SWr)) B w [.slice none 0 0,.slice none 0 0] ([],[]) :=
 ⟨[],⟨[.slice none 0 0],[.slice none 0 0],[],[],rfl,rfl,⟨_,[],[],rfl,xA _ _ _ _,⟨rfl,rfl⟩,by simp[Value.ownBlock]⟩,⟨_,[],[],rfl,xA _ _ _ _,⟨rfl,rfl⟩,by simp[Value.ownBlock]⟩⟩,Km,fun b hb=>by cases hb⟩
theorem qpu:pad []=List.replicate 64 0:=by unfold pad;exact qf0 _
theorem qn6 (w:World) (x y:Value) (t:TypeId):∃ W,W=(w.alloc (.cells #[x,y] t)).alloc (.cells #[.slice none 0 0,.slice none 0 0] t)/\W.heap[w.heap.size]?=some (.cells #[x,y] t (0,0))/\W.heap[w.heap.size+1]?=some (.cells #[.slice none 0 0,.slice none 0 0] t (0,0))/\Below w.heap.size w W/\W.heap.size=w.heap.size+1+1:=by
 refine⟨_,rfl,?_,?_,((xm _ _).alloc (xc _) _).alloc (by simp) _,by simp⟩
 ·rw[xR _ _ _ (by simp)];exact xy w _
 have:=xy (w.alloc (.cells #[x,y] t)) (.cells #[.slice none 0 0,.slice none 0 0] t);simpa using this
theorem qeq (z:Int) (x:List UInt8) (ws:List Wrt) (y:Wrt):QF z x (ws++[y])=if y.1=z then y.2 else QF z x ws:=by
 unfold QF;rw[List.foldl_append];rfl
theorem vV {ws:List Wrt} {y:Wrt} (h:ws[k]?=some y):QF z x (ws.take (k+1))=if y.1=z then y.2 else QF z x (ws.take k):=by
 rw[<-qlh ws h,qeq]
theorem qmw {d:Dsk} (h:yJ d z):∃ (k:Nat) (x:List UInt8),z=(k:Int)/\k<d.1.length/\d.1[k]?=some x:=by
 obtain⟨h1,h2⟩:=h;refine⟨z.toNat,d.1[z.toNat]'(by omega),by omega,by omega,xg _⟩
def Q5 (i:Nat):Int:=((2+4*i:Nat):Int)
structure Hv (d:Dsk) (N:Nat) (a b:List UInt8) (xs:List (List UInt8)):Prop where
 ok:DOk d
 n:d.1.length=N
 s0:(Qk d 0).1=a
 s1:(Qk d 1).1=b
 fit:2+4*xs.length<=N
 few:xs.length<=250
 c:d.2.length<=4*xs.length+1
 sm:∀ x∈xs,x.length<=244
 pg:∀ i x,xs[i]?=some x->jC d (Q5 i) 4=QY (i+1) x
theorem Hv.start (h1:2<=N) (h2:N<=1024):Hv (jE N,[]) N (List.replicate 64 0) (List.replicate 64 0) []:=by
 have hk:=qqv (n:=N) (by omega) h2
 have g:∀ k:Nat,k<N->(Qk (jE N,[]) (k:Int)).1=List.replicate 64 0:=fun k hk'=>by
  rw[jg (k:=(k:Int)) hk (by omega) (by show (k:Int)<((jE N).length:Int);rw[qen];omega)]
  show QF (k:Int) ((jE N).getD (k:Int).toNat []) []=_
  unfold QF jE;rw[kA,xe,List.getElem?_replicate,xj hk'];rfl
 exact⟨hk,qen N,g 0 (by omega),g 1 (by omega),by simpa using h1,by simp,by simp,fun x hx=>by simp at hx,fun i x hx=>by simp at hx⟩
theorem qrk (hx:x.length<=244) (hi:i<=260):(zL ((i+1:Nat):Int) x).2=0/\(QY (i+1) x).length=256:=⟨by rw[vk (by omega) (by omega)],Y3 _ hx⟩
theorem Hv.write {d:Dsk} {a:List UInt8} {xs:List (List UInt8)} (h:Hv d N a b xs) (hx:x.length<=244) (hf:2+4*(xs.length+1)<=N) (hw:xs.length+1<=250) :
 zG d (Q5 xs.length) ((xs.length+1:Nat):Int) x=((d.1,d.2++pws (Q5 xs.length) (QY (xs.length+1) x) 4),0)/\Hv (d.1,d.2++pws (Q5 xs.length) (QY (xs.length+1) x) 4) N a b (xs++[x]):=by
 obtain⟨e1,e2⟩:=qrk (i:=xs.length) hx (by omega)
 have hn:=h.n
 have hc:=h.c
 have a0:0<=Q5 xs.length:=by unfold Q5;omega
 have a1:Q5 xs.length<=(d.1.length:Int)-4:=by unfold Q5;omega
 have ac:d.2.length<=4092:=by omega
 have hY:=qfu h.ok a0 a1 e1 ac
 rw[kA] at hY;refine⟨hY,qck h.ok e2 a0 a1 ac,hn,?_,?_,by simp;omega,by simp;omega,by simp[yr];omega,?_,?_⟩
 ·rw[Jh h.ok e2 a0 a1 ac (by omega) (by omega),xh (by unfold Q5;omega)];exact h.s0
 ·rw[Jh h.ok e2 a0 a1 ac (by omega) (by omega),xh (by unfold Q5;omega)];exact h.s1
 ·intro y hy;rw[xu] at hy;rcases hy with hy|hy
  ·exact h.sm y hy
  simp at hy;rw[hy];exact hx
 intro i y hy;by_cases hi:i<xs.length
 ·rw[Xu hi] at hy;rw[qhj h.ok e2 a0 a1 ac (by unfold Q5;omega) (by unfold Q5;omega) (by unfold Q5;omega)]
  exact h.pg i y hy
 have hil:i=xs.length:=by have:=(xn.1 hy).1;simp at this;omega
 subst hil;simp at hy;subst hy;exact qhy h.ok e2 a0 a1 ac
theorem qep {d e:Dsk} (h:∀ j:Nat,2+4*i<=j->j<6+4*i->(Qk d (j:Int)).1=(Qk e (j:Int)).1):jC d (Q5 i) 4=jC e (Q5 i) 4:=by
 have k:∀ r:Nat,r<4->(Qk d (Q5 i+(r:Nat))).1=(Qk e (Q5 i+(r:Nat))).1:=fun r hr=>by
  have:=h (2+4*i+r) (by omega) (by omega)
  rw[Int.natCast_add] at this;exact this
 show ([]++(Qk _ (Q5 i+(0:Nat))).1++(Qk _ (Q5 i+(1:Nat))).1++(Qk _ (Q5 i+(2:Nat))).1++(Qk _ (Q5 i+(3:Nat))).1)=([]++(Qk _ (Q5 i+(0:Nat))).1++(Qk _ (Q5 i+(1:Nat))).1++(Qk _ (Q5 i+(2:Nat))).1++(Qk _ (Q5 i+(3:Nat))).1)
 rw[k 0 (by decide),k 1 (by decide),k 2 (by decide),k 3 (by decide)]
theorem qqn {ws:List Wrt} (h1:∀ x∈ss,x.length=64) (h2:∀ y∈ws,(0<=y.1/\y.1<(ss.length:Int))/\y.2.length=64) (hj:j<ss.length) (n:Nat) (hn:n<=ws.length) :
 (Qx (fun _=>64) ss ws n).getD j []=QF (j:Int) (ss.getD j []) (ws.take n):=by
 induction n with
 | zero=>rfl
 | succ n ih =>
  obtain⟨y,hy,hym⟩:=jh ws (k:=n) (by omega)
  rw[yR hy,vV hy];have hy2:=h2 y hym
  by_cases hjy:y.1=(j:Int)
  ·have:y.1.toNat=j:=by omega
   have hjl:j<(Qx (fun _=>64) ss ws n).length:=by rw[zh];exact hj
   rw[xj hjy,this,xe,List.getElem?_set_self hjl,xx (by rw[hy2.2];exact xc _)]
   show over _ _=_
   exact qat (by rw[qab h1 n _ (VM hjl)];exact hy2.2.symm)
  rw[xh hjy,xe,List.getElem?_set_ne (by omega),<-xe]
  exact ih (by omega)
theorem qio {f:Nat->Nat} {ss:List (List UInt8)} {ws:List Wrt} {j:Nat} (h:∀ y∈ws,0<=y.1/\y.1≠(j:Int)):∀ n,(Qx f ss ws n).getD j []=ss.getD j []
 | 0=>rfl
 | n+1=>by
  have ih:=qio (f:=f) (ss:=ss) h n
  cases hy:ws[n]? with
  | none=>rw[show Qx f ss ws (n+1)=Qx f ss ws n by simp only[Qx,hy]];exact ih
  | some y =>
   have:=h y (xQ hy)
   rw[yR hy,xe,List.getElem?_set_ne (by omega),<-xe]
   exact ih
theorem qo8 {ws:List Wrt} {j:Int} (x:List UInt8) (h:∀ y∈ws,y.1≠j):QF j x ws=x:=by
 unfold QF
 induction ws generalizing x with
 | nil=>rfl
 | cons y r ih =>
  rw[kR,xh (h y (by simp))]
  exact ih x fun z hz=>h z (by simp[hz])
theorem qdj {d:Dsk} (h:DOk d) (f:Nat->Nat):qlm d f=((Qx f d.1 d.2 d.2.length,[]),0)/\DOk (Qx f d.1 d.2 d.2.length,[]):=by
 refine⟨xj h,?_,?_,by simp,qab h.2.2.2.1 _,by simp⟩
 ·show 1<=(Qx _ _ _ _).length;rw[zh];exact h.1
 show (Qx _ _ _ _).length<=1024;rw[zh];exact h.2.1
theorem vz (ok:DOk (S,[])) (hj:j<S.length):(Qk (S,[]) (j:Int)).1=S.getD j []:=by
 rw[jg ok (by omega) (by show (j:Int)<(S.length:Int);omega)]
 rfl
theorem Hv.same {d e:Dsk} {a a' b':List UInt8} {xs:List (List UInt8)} (h:Hv d N a b xs) (ok:DOk e) (n:e.1.length=N) (c:e.2=[]) (s0:(Qk e 0).1=a') (s1:(Qk e 1).1=b')
 (hg:∀ j:Nat,2<=j->j<2+4*m->j<N->(Qk e (j:Int)).1=(Qk d (j:Int)).1):Hv e N a' b' (xs.take m):=by
 have hf:=h.fit
 have hw:=h.few
 refine⟨ok,n,s0,s1,by rw[xp];omega,by rw[xp];omega,by rw[c];simp,fun x hx=>h.sm x (Ke hx),?_⟩
 intro i x hx;rw[xP] at hx
 split at hx
 ·rename_i hi
  have hil:=(xn.1 hx).1
  rw[qep (e:=d) fun j h1 h2=>hg j (by omega) (by omega) (by omega)]
  exact h.pg i x hx
 cases hx
theorem Hv.flush {d:Dsk} {a:List UInt8} {xs:List (List UInt8)} (h:Hv d N a b xs):∃ S,JB d=((S,[]),0)/\Hv (S,[]) N a b xs:=by
 obtain⟨e,ok⟩:=qdj h.ok (fun _=>64);have hN:2<=N:=by have:=h.fit;omega
 have hl:(Qx (fun _=>64) d.1 d.2 d.2.length).length=N:=by rw[zh];exact h.n
 have g:∀ j:Nat,j<N->(Qk (Qx (fun _=>64) d.1 d.2 d.2.length,[]) (j:Int)).1=(Qk d (j:Int)).1:=fun j hj=>by
  rw[vz ok (by rw[hl];exact hj),jg h.ok (by omega) (by rw[h.n];omega),qqn h.ok.2.2.2.1 h.ok.2.2.2.2 (by rw[h.n];exact hj) _ (xc _),Kg,kA]
 refine⟨_,e,?_⟩;have:=h.same (m:=xs.length) ok hl rfl ((g 0 (by omega)).trans h.s0) ((g 1 (by omega)).trans h.s1) fun j _ _ hj=>g j hj
 rwa [Kg] at this
theorem Hv.put {a:List UInt8} {xs:List (List UInt8)} (h:Hv (S,[]) N a b xs) (hx:x.length=64) :
 (Zv (S,[]) 0 x=((S,[(0,x)]),0)/\Hv (S,[(0,x)]) N x b xs)/\(Zv (S,[]) 1 x=((S,[(1,x)]),0)/\Hv (S,[(1,x)]) N a x xs):=by
 have hN:2<=N:=by have:=h.fit;omega
 have hn:=h.n
 dsimp only at hn
 have key:∀ k:Nat,k<2->Zv (S,[]) (k:Int) x=((S,[((k:Int),x)]),0)/\DOk (S,[((k:Int),x)])/\∀ j:Nat,j<N->(Qk (S,[((k:Int),x)]) (j:Int)).1=if j=k then x else(Qk (S,[]) (j:Int)).1:=fun k hk=>by
  have ok:DOk (S,[((k:Int),x)]):=by
   refine⟨h.ok.1,h.ok.2.1,by simp,h.ok.2.2.2.1,?_⟩
   intro y hy;simp at hy;subst hy;exact⟨⟨by simp,by show (k:Int)<(S.length:Int);omega⟩,hx⟩
  refine⟨?_,ok,fun j hj=>?_⟩
  ·unfold Zv;rw[xh (by rw[ZC.2 ⟨h.ok,by unfold yJ;show 0<=(k:Int)/\(k:Int)<(S.length:Int);omega⟩];simp),xh (by omega),xh (by simp),vj hx,xG]
  rw[jg ok (by omega) (by show (j:Int)<(S.length:Int);omega),jg h.ok (by omega) (by show (j:Int)<(S.length:Int);omega)]
  show QF _ _ [((k:Int),x)]=_
  unfold QF;simp only[kR,List.foldl_nil];by_cases e:j=k
  ·rw[xj (by omega),xj e]
  rw[xh (by omega),xh e]
  try rfl
 have fin:∀ k:Nat,k<2->∀ a' b',((Qk (S,[((k:Int),x)]) 0).1=a')->((Qk (S,[((k:Int),x)]) 1).1=b')->Hv (S,[((k:Int),x)]) N a' b' xs:=fun k hk a' b' h0 h1=>by
  obtain⟨_,ok,g⟩:=key k hk;refine⟨ok,hn,h0,h1,h.fit,h.few,by simp,h.sm,fun i y hy=>?_⟩
  have hil:=(xn.1 hy).1
  have hf:=h.fit
  rw[qep (e:=(S,[])) fun j j1 j2=>by rw[g j (by omega),xh (by omega)]]
  exact h.pg i y hy
 obtain⟨e0,_,g0⟩:=key 0 (by decide)
 obtain⟨e1,_,g1⟩:=key 1 (by decide)
 exact⟨⟨e0,fin 0 (by decide) x b (by have:=g0 0 (by omega);simpa using this) ((by have:=g0 1 (by omega);simpa using this:(Qk (S,[(((0:Nat):Int),x)]) 1).1=_).trans h.s1)⟩,
  ⟨e1,fin 1 (by decide) a x ((by have:=g1 0 (by omega);simpa using this:(Qk (S,[(((1:Nat):Int),x)]) 0).1=_).trans h.s0) (by have:=g1 1 (by omega);simpa using this)⟩⟩
theorem Hv.crashE {d:Dsk} {a:List UInt8} {xs:List (List UInt8)} (h:Hv d N a b xs) (hm:∀ y∈d.2,Q5 m<=y.1) (keep:List Bool) (torn cut:Int):∃ S,yS d keep torn cut=((S,[]),0)/\Hv (S,[]) N a b (xs.take m):=by
 obtain⟨e,ok⟩:=qdj h.ok (Qv keep torn cut);have hN:2<=N:=by have:=h.fit;omega
 have hl:(Qx (Qv keep torn cut) d.1 d.2 d.2.length).length=N:=by rw[zh];exact h.n
 have g:∀ j:Nat,j<2+4*m->j<N->(Qk (Qx (Qv keep torn cut) d.1 d.2 d.2.length,[]) (j:Int)).1=(Qk d (j:Int)).1:=fun j hj hjN=>by
  have hne:∀ y∈d.2,0<=y.1/\y.1≠(j:Int):=fun y hy=>by have:=hm y hy;unfold Q5 at this;omega
  rw[vz ok (by rw[hl];exact hjN),jg h.ok (by omega) (by rw[h.n];omega),qio hne,kA,qo8 _ fun y hy=>(hne y hy).2]
 exact⟨_,e,h.same ok hl rfl ((g 0 (by omega) (by omega)).trans h.s0) ((g 1 (by omega) (by omega)).trans h.s1) fun j _ h2 hj=>g j h2 hj⟩
theorem Hv.crashO {a:List UInt8} {xs:List (List UInt8)} (h:Hv (S,[]) N a b xs) (hx:x.length=64) (keep:List Bool) (cut:Int):∃ S' a',yS (S,[(0,x)]) keep (-1) cut=((S',[]),0)/\(a'=a\/a'=x)/\Hv (S',[]) N a' b xs:=by
 have hN:2<=N:=by have:=h.fit;omega
 have hn:=h.n
 dsimp only at hn;have hS:0<S.length:=by rw[hn];omega
 obtain⟨e,ok⟩:=qdj (h.put hx).1.2.ok (Qv keep (-1) cut);dsimp only[List.length_cons,List.length_nil] at e ok;have hl:(Qx (Qv keep (-1) cut) S [(0,x)] (0+1)).length=N:=by rw[zh];exact hn
 have hL:Qx (Qv keep (-1) cut) S [(0,x)] (0+1)=S.set 0 (over (S.getD 0 []) (x.take (Qv keep (-1) cut 0))):=rfl
 have s0:(S.getD 0 []).length=64:=h.ok.2.2.2.1 _ (VM (by omega))
 have hS0:S.getD 0 []=a:=by have:=vz h.ok (j:=0) (by omega);rw[<-this];exact h.s0
 have g0:(Qx (Qv keep (-1) cut) S [(0,x)] (0+1)).getD 0 []=over a (x.take (Qv keep (-1) cut 0)):=by
  rw[hL,xe,List.getElem?_set_self hS,hS0];rfl
 have gj:∀ j:Nat,0<j->(Qx (Qv keep (-1) cut) S [(0,x)] (0+1)).getD j []=S.getD j []:=fun j hj=>by
  rw[hL,xe,List.getElem?_set_ne (by omega),<-xe]
 have ha':over a (x.take (Qv keep (-1) cut 0))=a\/over a (x.take (Qv keep (-1) cut 0))=x:=by
  unfold Qv
  split
  ·rw[xh (by omega),xx (by omega)]
   exact .inr (qat (by rw[<-hS0,s0,hx]))
  left;rw[List.take_zero];exact qf0 _
 refine⟨_,_,e,ha',?_⟩
 have gg:∀ j:Nat,0<j->j<N->(Qk (Qx (Qv keep (-1) cut) S [(0,x)] (0+1),[]) (j:Int)).1=(Qk (S,[]) (j:Int)).1:=fun j h0 hj=>by
  rw[vz ok (by rw[hl];exact hj),gj j h0,vz h.ok (by omega)]
 have:=h.same (m:=xs.length) ok hl rfl (a':=over a (x.take (Qv keep (-1) cut 0))) (by have:=vz ok (j:=0) (by rw[hl];omega);rw[g0] at this;exact this) ((gg 1 (by omega) (by omega)).trans h.s1) fun j h1 _ hj=>gg j (by omega) hj
 rwa [Kg] at this
theorem Hv.read {d:Dsk} {a:List UInt8} {xs:List (List UInt8)} (h:Hv d N a b xs) (hx:xs[i]?=some x):jq d (Q5 i) ((i+1:Nat):Int)=(x,0):=by
 have hil:=(xn.1 hx).1
 have hf:=h.fit
 have hw:=h.few
 have hs:=h.sm x (xQ hx)
 unfold jq;rw[xh (fun k=>k (yl.2 ⟨h.ok,by unfold Q5;omega,by rw[h.n];unfold Q5;omega⟩)),h.pg i x hx,qli (by omega) hs]
 dsimp only;rw[xh];rintro (k|k)
 ·exact k rfl
 exact k rfl
theorem qbj (w:World) (v:Value) (xs:List UInt8) (h:Rd w v xs) (h8:xs.length<=8) :
 Calls Tryz.prog 142 #[v] w fun e w'=>e=.returned (.int .u64 (Qg xs:Nat))/\w=w':=by
 obtain⟨a1,c1,rfl,l1,m1,n1,r1⟩:=h;rw[show maxLen=9223372036854775807 from rfl] at m1;go_enter Tryz.func142,Tryz.ntmps142;go_wp2
 go_loop [3,4] (fun s i=>∃ k:Nat,k<=xs.length/\i=.int .i64 k/\s=.int .u64 (zP xs k:Nat)) (fun _ i=>xs.length-(intOf i).toNat)
 case atStart=>exact⟨0,xt _,rfl,rfl⟩
 case round =>
 obtain⟨k,hk,rfl,rfl⟩:=hrel;by_cases hlt:k<xs.length
 ·rcases r1 with r1|⟨b1,o1,rfl,hc1⟩
  ·rw[r1] at hlt;simp at hlt
  have g1:=hc1 k hlt
  have hq:(k:Int)<(xs.length:Int):=by omega
  have hb:=qoh xs k
  have hnl:zP xs k<72057594037927936:=by
   have h1:=YI xs k
   have h2:(2:Nat)^(8*k)<=2^56:=km (by omega) (by omega)
   have h3:(2:Nat)^56=72057594037927936:=by decide
   omega
  have HS:Hid (((zP xs (k+1):Nat):Int)=(zP xs k:Nat)*256+bt xs k):=by
   show ((zP xs k*256+(xs.getD k 0).toNat:Nat):Int)=_
   rw[Int.natCast_add,Int.natCast_mul];rfl
  generalize zP xs k=z at *;generalize bt xs k=y at *;clear hc1;go_wp2
  go_round
  case rel=>exact⟨k+1,by omega,by go_num,by rw[HS.out]⟩
  case measure=>simp[intOf];omega
 go_wp2;go_ret;exact⟨by rw[show k=xs.length from by omega];rfl,rfl⟩
theorem qgt {a:Option Addr} {len cap:Nat} (h:Rd w (.slice a len cap) xs) {to:Nat} (h1:q<=to) (h2:to<=len) :
 Rd w (.slice (a.map fun x=>x.add q) (to-q) (cap-q)) ((xs.take to).drop q)/\(cap=q->Rd w (.slice a (to-q) 0) ((xs.take to).drop q)):=by
 obtain⟨ao,c,e,l1,m1,n1,r1⟩:=h;simp only[xH] at e;obtain⟨rfl,rfl,rfl⟩:=e;have el:((xs.take to).drop q).length=to-q:=by simp;omega
 refine⟨⟨a.map fun x=>x.add q,cap-q,by rw[el],by rw[el];omega,by omega,?_,?_⟩,fun hc=>?_⟩
 ·intro h;cases a with
  | none=>rw[n1 rfl];simp
  | some x=>cases h
 ·rcases r1 with rfl|⟨b,off,rfl,hc⟩
  ·left;simp
  by_cases h0:to=q
  ·left;apply xq;rw[el];omega
  right
  refine⟨b,off+q,?_,fun i hi=>?_⟩
  ·simp[Addr.add]
  rw[el] at hi;have:=hc (q+i) (by omega)
  rw[show off+q+i=off+(q+i) from by omega,this]
  simp only[bt]
  congr 3
  simp only[xe,XQ,xP];rw[xj (by omega)]
 have h0:to-q=0:=by omega
 have en:(xs.take to).drop q=[]:=xq (by rw[el,h0])
 rw[en,h0];exact⟨a,0,rfl,xc _,xt _,fun _=>rfl,.inl rfl⟩
theorem qmm {a:Option Addr} {len cap:Nat} (h:Rd w (.slice a len cap) xs) {to:Nat} (h1:q<=to) (h2:to<=len) :
 ∃ A,(if cap=q then a else Option.map (fun x=>x.add q) a)=A/\Rd w (.slice A (to-q) (cap-q)) ((xs.take to).drop q):=by
 obtain⟨s1,s2⟩:=qgt h h1 h2;by_cases hc:cap=q
 ·refine⟨a,xj hc,?_⟩;rw[show cap-q=0 from by omega]
  exact s2 hc
 exact⟨_,xh hc,s1⟩
theorem qf (w:World) (cs:Array Value) (t:TypeId):∃ u,u=w.alloc (.cells cs t)/\u.heap[w.heap.size]?=some (.cells cs t (0,0))/\Below w.heap.size w u/\u.heap.size=w.heap.size+1 :=
 ⟨_,rfl,xy w _,(xm _ _).alloc (xc _) _,by simp⟩
theorem Js {fn:Func} {R:Ending->World->Prop} {p:Tmp} (h:fn.results=#[.cell p ty]) (hd:a.defers=[]) (g:Nat) (hp:a.tmps.getD p undef=.pointer (some ⟨g,0,none⟩))
 (cs:Array Value) (t:TypeId) (fr:Nat×Nat) (hg:w.heap[g]?=some (.cells cs t fr)) (d:TypeDesc) (hu:P.underlying ty=some d) (hr:(match d with | .struct _ | .array _ _=>true|_=>false)=true) (hi:(P.info? ty).map (·.size)=some cs.size)
 (hR:R (.returned (.agg cs)) w):bodyPost P fn R .ret a w:=by
 refine Xk (v:=.agg cs) ?_ hd hR;have hp':a.tmps[p]?.getD undef=.pointer (some ⟨g,0,none⟩):=by simpa using hp
 simp[results,h,hp',asAddr,Kb w g t ty cs fr d hg hu hr hi]
theorem QD {fn:Func} {R:Ending->World->Prop} {p u1:Tmp} (h:fn.results=#[.cell p ty,.tmp u1]) (hd:a.defers=[]) (g:Nat) (hp:a.tmps.getD p undef=.pointer (some ⟨g,0,none⟩))
 (cs:Array Value) (t:TypeId) (fr:Nat×Nat) (hg:w.heap[g]?=some (.cells cs t fr)) (d:TypeDesc) (hu:P.underlying ty=some d) (hr:(match d with | .struct _ | .array _ _=>true|_=>false)=true) (hi:(P.info? ty).map (·.size)=some cs.size)
 (v1:Value) (e1:a.tmps.getD u1 undef=v1) (hR:R (.returned (.tuple #[.agg cs,v1])) w):bodyPost P fn R .ret a w:=by
 refine Xk (v:=.tuple #[.agg cs,v1]) ?_ hd hR;have hp':a.tmps[p]?.getD undef=.pointer (some ⟨g,0,none⟩):=by simpa using hp
 have e1':a.tmps[u1]?.getD undef=v1:=by simpa using e1
 simp[results,h,hp',e1',asAddr,Kb w g t ty cs fr d hg hu hr hi]
theorem ZI {fn:Func} {R:Ending->World->Prop} {p u1 u2:Tmp} (h:fn.results=#[.cell p ty,.tmp u1,.tmp u2]) (hd:a.defers=[]) (g:Nat) (hp:a.tmps.getD p undef=.pointer (some ⟨g,0,none⟩))
 (cs:Array Value) (t:TypeId) (fr:Nat×Nat) (hg:w.heap[g]?=some (.cells cs t fr)) (d:TypeDesc) (hu:P.underlying ty=some d) (hr:(match d with | .struct _ | .array _ _=>true|_=>false)=true) (hi:(P.info? ty).map (·.size)=some cs.size)
 (v1:Value) (e1:a.tmps.getD u1 undef=v1) (v2:Value) (e2:a.tmps.getD u2 undef=v2) (hR:R (.returned (.tuple #[.agg cs,v1,v2])) w):bodyPost P fn R .ret a w:=by
 refine Xk (v:=.tuple #[.agg cs,v1,v2]) ?_ hd hR;have hp':a.tmps[p]?.getD undef=.pointer (some ⟨g,0,none⟩):=by simpa using hp
 have e1':a.tmps[u1]?.getD undef=v1:=by simpa using e1
 have e2':a.tmps[u2]?.getD undef=v2:=by simpa using e2
 simp[results,h,hp',e1',e2',asAddr,Kb w g t ty cs fr d hg hu hr hi]
theorem Yi (h:Rd w v xs) (h0:0<xs.length):(convert 52 9 v).run Tryz.prog w=.ok (.string ⟨xs.toArray⟩) w:=by
 obtain⟨ao,cap,rfl,h1,h2,h3,h4⟩:=h;rcases h4 with h4|⟨b,off,rfl,hc⟩
 ·subst h4;simp at h0
 refine run_convert_bytes_back w 52 9 5 ⟨b,off,none⟩ cap xs xW Tryz.underlying5 Kw fun j hj=>?_;have:=hc j hj
 rw[show (⟨b,off,none⟩:Addr).add j=⟨b,off+j,none⟩ by simp[Addr.add],this]
 unfold bt;simp[xe,hj]
theorem qol (xs ys:List UInt8):(xs == ys)=vM xs ys:=by
 unfold vM;by_cases h:xs=ys
 ·subst h;simp
 rw[xw h];exact kE.2 h
theorem YP (h:xs≠ys):vM xs ys=false:=by unfold vM;exact xw h
theorem rdN (h:Rd w v x) (hl:x.length=n) (hn:0<n):∃ b o c,v=.slice (some ⟨b,o,none⟩) n c/\n<=c/\c<=9223372036854775807/\(∀ q te,q<=te->te<=n->Rd w (.slice (some ⟨b,o+q,none⟩) (te-q) (c-q)) ((x.take te).drop q))/\∀ i,i<n->w.cell? ⟨b,o+i,none⟩=some (.int .u8 (bt x i)):=by
 obtain⟨a,c,e⟩:=h.slice;subst e;have h':=h
 obtain⟨a',c',e,l1,m1,n1,r1⟩:=h;simp only[xH,true_and] at e;obtain⟨rfl,rfl⟩:=e;rcases r1 with r1|⟨b,o,rfl,hc⟩
 ·subst r1;simp at hl;omega
 refine⟨b,o,c,by rw[hl],by omega,m1,fun q te h1 h2=>?_,fun i hi=>hc i (by omega)⟩
 have:=(qgt h' (q:=q) (to:=te) h1 (by omega)).1
 by_cases hq:q=0
 ·subst hq;simpa[Addr.add] using this
 simpa[Addr.add,hq] using this
abbrev Str:=List UInt8
structure Nd where
 leaf:Bool
 keys:List Str
 vals:List Str
 kids:List Int
deriving DecidableEq
abbrev slt (a b:Str):Bool:=Op.bytesLess a b
theorem qU:∀ a:Str,slt a a=false
 | []=>rfl
 | a::x=>by
  have:=qU x
  simp only[slt] at this;simp[slt,Op.bytesLess,this]
theorem qqm:∀ a:Str,slt a []=false
 | []=>rfl
 | a::x=>rfl
theorem qas (a b:UInt8) (x y:Str):slt (a::x) (b::y)=true↔a<b\/(a=b/\slt x y=true):=by
 simp[slt,Op.bytesLess]
theorem QO:∀ {a b c:Str},slt a b=true->slt b c=true->slt a c=true
 | [],[],c,h,k=>k
 | [],b::y,[],h,k=>by simp[slt,Op.bytesLess] at k
 | [],b::y,c::z,h,k=>by simp[slt,Op.bytesLess]
 | a::x,[],c,h,k=>by simp[slt,Op.bytesLess] at h
 | a::x,b::y,[],h,k=>by simp[slt,Op.bytesLess] at k
 | a::x,b::y,c::z,h,k=>by
  rw[qas] at h k |-;rcases h with h|⟨rfl,h⟩<;>rcases k with k|⟨rfl,k⟩
  ·exact .inl (UInt8.lt_trans h k)
  ·exact .inl h
  ·exact .inl k
  exact .inr ⟨rfl,QO h k⟩
theorem jI:∀ (a b:Str),slt a b=true\/a=b\/slt b a=true
 | [],[]=>.inr (.inl rfl)
 | [],b::y=>.inl rfl
 | a::x,[]=>.inr (.inr rfl)
 | a::x,b::y=>by
  rw[qas,qas];rcases jI x y with h|h|h<;>rcases UInt8.lt_or_lt_of_ne (a:=a) (b:=b) |> fun f=>(Decidable.em (a=b)).imp id f with e|e|e
  ·exact .inl (.inr ⟨e,h⟩)
  ·exact .inl (.inl e)
  ·exact .inr (.inr (.inl e))
  ·exact .inr (.inl (by rw[e,h]))
  ·exact .inl (.inl e)
  ·exact .inr (.inr (.inl e))
  ·exact .inr (.inr (.inr ⟨e.symm,h⟩))
  ·exact .inl (.inl e)
  exact .inr (.inr (.inl e))
theorem Qb {a b:Str} (h:slt a b=true):slt b a=false:=by
 cases hb:slt b a
 ·rfl
 have:=QO h hb;rw[qU] at this;cases this
theorem qie (a b:Str):(Op.bytesLess a b||a == b) = !(slt b a):=by
 rcases jI a b with h|h|h
 ·have h':Op.bytesLess a b=true:=h
  rw[h',Qb h];rfl
 ·subst h;rw[qU];simp
 have h1:Op.bytesLess a b=false:=Qb h
 have h2:(a == b)=false:=by
  apply X9.2;intro e;have:a=b:=by simpa using e
  subst this;rw[qU] at h;cases h
 rw[h1,h2,h];rfl
def nsz (n:Nd):Nat->Int
 | 0=>2
 | k+1=>nsz n k+(1+((n.keys[k]?.getD []).length:Int)+if n.leaf then 1+((n.vals[k]?.getD []).length:Int) else 0)
def qp (n:Nd):Int:=nsz n n.keys.length+if n.leaf then 0 else 4*(n.kids.length:Int)
theorem y6 (n:Nd):∀ k:Nat,2+(k:Int)<=nsz n k
 | 0=>by simp[nsz]
 | k+1=>by
  have:=y6 n k
  simp only[nsz]
  split<;>omega
def Qy (n:Nd) (k:Nat):Str:=n.keys[k]?.getD []
def Vc (n:Nd) (k:Nat):Prop:=1<=(Qy n k).length/\(Qy n k).length<=32/\(0<k->slt (Qy n (k-1)) (Qy n k)=true)
instance (n:Nd) (k:Nat):Decidable (Vc n k):=by unfold Vc;infer_instance
def QZ (n:Nd) (m:Nat):Prop:=∀ k,k<m->Vc n k
def qP (n:Nd):Prop:=if n.leaf then n.vals.length=n.keys.length/\n.kids.length=0 else n.vals.length=0/\1<=n.keys.length/\n.kids.length=n.keys.length+1
def zl (n:Nd) (m:Nat):Prop:=∀ k,k<m->(n.vals[k]?.getD []).length<=64
def zB (n:Nd) (m:Nat):Prop:=∀ k,k<m->1<=n.kids[k]?.getD 0/\n.kids[k]?.getD 0<=65536
instance (n:Nd) (m:Nat):Decidable (QZ n m):=by unfold QZ;infer_instance
instance (n:Nd):Decidable (qP n):=by unfold qP;infer_instance
instance (n:Nd) (m:Nat):Decidable (zl n m):=by unfold zl;infer_instance
instance (n:Nd) (m:Nat):Decidable (zB n m):=by unfold zB;infer_instance
def qE (n:Nd):Int :=
 if QZ n n.keys.length then if qP n then if zl n n.vals.length then if zB n n.kids.length then if 244<qp n then 51 else 0 else 4 else 5 else 3 else 91
def NOk (n:Nd):Prop:=QZ n n.keys.length/\qP n/\zl n n.vals.length/\zB n n.kids.length/\qp n<=244
theorem ze (n:Nd):qE n=0↔NOk n:=by
 unfold qE NOk;by_cases h1:QZ n n.keys.length<;>by_cases h2:qP n<;>by_cases h3:zl n n.vals.length<;>by_cases h4:zB n n.kids.length<;>by_cases h5:244<qp n<;>simp[h1,h2,h3,h4,h5]<;>omega
theorem Jw (n:Nd) (m:Nat):QZ n (m+1)↔QZ n m/\Vc n m:=by
 constructor
 ·exact fun h=>⟨fun k hk=>h k (by omega),h m (by omega)⟩
 rintro ⟨h1,h2⟩ k hk;by_cases e:k=m
 ·subst e;exact h2
 exact h1 k (by omega)
theorem Ya (n:Nd) (m:Nat):zl n (m+1)↔zl n m/\(n.vals[m]?.getD []).length<=64:=by
 constructor
 ·exact fun h=>⟨fun k hk=>h k (by omega),h m (by omega)⟩
 rintro ⟨h1,h2⟩ k hk;by_cases e:k=m
 ·subst e;exact h2
 exact h1 k (by omega)
theorem yZ (n:Nd) (m:Nat):zB n (m+1)↔zB n m/\(1<=n.kids[m]?.getD 0/\n.kids[m]?.getD 0<=65536):=by
 constructor
 ·exact fun h=>⟨fun k hk=>h k (by omega),h m (by omega)⟩
 rintro ⟨h1,h2⟩ k hk;by_cases e:k=m
 ·subst e;exact h2
 exact h1 k (by omega)
theorem qga (n:Nd) (m:Nat) (h:∀ k,k<m->(Qy n k).length<=32) (hv:n.leaf=true->∀ k,k<m->(n.vals[k]?.getD []).length<=64):∀ k,k<=m->nsz n k<=2+98*(k:Int)
 | 0,_=>by simp[nsz]
 | k+1,hk=>by
  have i:=qga n m h hv k (by omega)
  have a:=h k (by omega)
  unfold Qy at a;simp only[nsz]
  split
  ·have:=hv (by assumption) k (by omega);omega
  omega
def JN (leaf:Bool) (key:Str):List Str->Int
 | []=>0
 | k::r=>(if slt k key||(!leaf&&k == key) then 1 else 0)+JN leaf key r
def nis (key:Str) (l:List Str):Bool:=l.any (· == key)
def n4 (z:Int):List UInt8:=[UInt8.ofNat (z.toNat/16777216),UInt8.ofNat (z.toNat/65536),UInt8.ofNat (z.toNat/256),UInt8.ofNat z.toNat]
def qcm (n:Nd) (k:Nat):List UInt8 :=
 [UInt8.ofNat (Qy n k).length]++Qy n k++if n.leaf then [UInt8.ofNat (n.vals[k]?.getD []).length]++n.vals[k]?.getD [] else n4 (n.kids[k+1]?.getD 0)
def Qd (n:Nd):Nat->List UInt8
 | 0=>[]
 | k+1=>Qd n k++qcm n k
def zD (n:Nd):List UInt8:=[if n.leaf then 1 else 0,UInt8.ofNat n.keys.length]++if n.leaf then [] else n4 (n.kids[0]?.getD 0)
def QN (n:Nd):List UInt8:=zD n++Qd n n.keys.length
def qsn (n:Nd):Prop:=n.keys.length<2\/(n.leaf=false/\n.keys.length<3)
instance (n:Nd):Decidable (qsn n):=by unfold qsn;infer_instance
def Qw:Nd:=⟨false,[],[],[]⟩
abbrev st (x:Str):Value:=.string ⟨x.toArray⟩
def Shp.str:Shp Str where
 n:=1
 rd _ cs x:=cs=[st x]
 own F _ cs x:=F=[]/\cs=[st x]
 rd_n h:=by rw[h];rfl
 rd_to h _:=h
 rd_one h u hu:=by rw[h] at hu;simp at hu;subst hu;rfl
 own_rd h:=h.2
 own_to h _:=h
 own_lt h b hb:=by rw[h.1] at hb;cases hb
abbrev RdT (w:World) (v:Value) (l:List Str):Prop:=RdS Shp.str w v l
abbrev RdI (w:World) (v:Value) (l:List Int):Prop:=RdS (Shp.int .i64) w v l
theorem RdS.strAt {a:Option Addr} {cap:Nat} {l:List Str} (h:RdT w (.slice a n cap) l) {x:Str} (hx:l[i]?=some x):∃ b off,a=some ⟨b,off,none⟩/\w.cell? ⟨b,off+i,none⟩=some (st x):=by
 obtain⟨b,off,u,e,hc,hr⟩:=RdS.at1 rfl h hx;have hr':[u]=[st x]:=hr
 simp only[KZ,XS] at hr';subst hr';exact⟨b,off,e,hc⟩
theorem RdS.intAt {a:Option Addr} {cap:Nat} {l:List Int} (h:RdI w (.slice a n cap) l) {x:Int} (hx:l[i]?=some x):∃ b off,a=some ⟨b,off,none⟩/\w.cell? ⟨b,off+i,none⟩=some (.int .i64 x):=by
 obtain⟨b,off,u,e,hc,hr⟩:=RdS.at1 rfl h hx;have hr':[u]=[Value.int .i64 x]:=hr
 simp only[KZ,XS] at hr';subst hr';exact⟨b,off,e,hc⟩
theorem qdw (x:Str):(ByteArray.mk x.toArray).size=x.length:=by simp[ByteArray.size]
structure RdN (w:World) (kv vv dv:Value) (n:Nd):Prop where
 keys:RdT w kv n.keys
 vals:RdT w vv n.vals
 kids:RdI w dv n.kids
theorem RdN.to {dv:Value} {n:Nd} (h:RdN w kv vv dv n) (hb:Below w.heap.size w w'):RdN w' kv vv dv n:=⟨h.keys.to0 hb,h.vals.to0 hb,h.kids.to0 hb⟩
theorem RdN.slices {dv:Value} {n:Nd} (h:RdN w kv vv dv n):∃ a c a' c' a'' c'',kv=.slice a n.keys.length c/\vv=.slice a' n.vals.length c'/\dv=.slice a'' n.kids.length c'':=by
 obtain⟨a,c,e⟩:=h.keys.slice;obtain⟨a',c',e'⟩:=h.vals.slice;obtain⟨a'',c'',e''⟩:=h.kids.slice;exact⟨a,c,a',c',a'',c'',e,e',e''⟩
abbrev nv (n:Nd) (kv vv dv:Value):Value:=.agg #[.bool n.leaf,kv,vv,dv]
theorem qb {a b d:Value} (h:w.heap[g]?=some (.cells #[a,b,c,d] t (0,0))) :
 (w.cell? ⟨g,0,none⟩=some a/\w.cell? ⟨g,1,none⟩=some b/\w.cell? ⟨g,2,none⟩=some c/\w.cell? ⟨g,3,none⟩=some d)/\∀ i,w.frozen? ⟨g,i,none⟩=false:=by
 refine⟨⟨?_,?_,?_,?_⟩,fun i=>?_⟩
 ·rw[Xi _ _ 0 _ _ (0,0) h];rfl
 ·rw[Xi _ _ 1 _ _ (0,0) h];rfl
 ·rw[Xi _ _ 2 _ _ (0,0) h];rfl
 ·rw[Xi _ _ 3 _ _ (0,0) h];rfl
 simp[World.frozen?,h]
theorem qz {α : Type} (l:List α) (h:k<l.length):∃ x,l[k]?=some x:=⟨_,xg h⟩
theorem ZN (a b:Int):wrap64 (wrap64 a+b)=wrap64 (a+b):=by unfold wrap64;omega
theorem jy (a b:Int):wrap64 (a+wrap64 b)=wrap64 (a+b):=by unfold wrap64;omega
theorem qbw (w:World) (kv vv dv:Value) (n:Nd) (h:RdN w kv vv dv n) :
 Calls Tryz.prog 143 #[nv n kv vv dv] w fun e w'=>e=.returned (.int .i64 (wrap64 (qp n)))/\Below w.heap.size w w':=by
 have lk:=h.keys.bd
 have lv:=h.vals.bd
 have ld:=h.kids.bd
 obtain⟨a,c,a',c',a'',c'',rfl,rfl,rfl⟩:=h.slices;obtain⟨leaf,keys,vals,kids⟩:=n;dsimp only[nv] at *;obtain⟨W,hW,D,bW,sW⟩:=qf w #[.bool leaf,.slice a keys.length c,.slice a' vals.length c',.slice a'' kids.length c''] 206;replace h:=h.to bW;have HH:=qa h
 have HB:=qa bW
 obtain⟨⟨D0,D1,D2,D3⟩,_⟩:=qb D;have HD:=qa (xb D0 (xb D1 (xb D2 D3)))
 clear h bW D;rw[hW] at D0 D1 D2 D3;generalize hN:(⟨leaf,keys,vals,kids⟩:Nd)=N at *;have N1:Hid (N.keys=keys/\N.vals=vals/\N.kids=kids/\N.leaf=leaf):=by subst hN;exact⟨rfl,rfl,rfl,rfl⟩
 replace hN:=qa hN;go_enter Tryz.func143,Tryz.ntmps143;go_wp2;rw[<-hW];replace hW:=qa hW;clear D0 D1 D2 D3
 go_loopw [3,4] (fun a b wr=>∃ k:Nat,k<=keys.length/\b=.int .i64 k/\a=.int .i64 (wrap64 (nsz N k))/\Hid (Below W.heap.size W wr)) (fun _ b _=>keys.length-(intOf b).toNat)
 case atStart=>exact⟨0,xt _,rfl,by rw[show nsz N 0=2 from rfl,kQ 2 (by omega)],qa (xm _ _)⟩
 case round =>
 obtain⟨k,hk,rfl,rfl,hb⟩:=hrel;have D0:=(hb.out.cell (qe HD.out.1)).trans HD.out.1
 have D1:=(hb.out.cell (qe HD.out.2.1)).trans HD.out.2.1
 have D2:=(hb.out.cell (qe HD.out.2.2.1)).trans HD.out.2.2.1
 have D3:=(hb.out.cell (qe HD.out.2.2.2)).trans HD.out.2.2.2
 by_cases hlt:k<keys.length
 ·have hq:(k:Int)<(keys.length:Int):=by omega
  obtain⟨x,hx⟩:=qz keys hlt;have hs:=qa (show nsz N (k+1)=nsz N k+(1+(x.length:Int)+if leaf then 1+((vals[k]?.getD []).length:Int) else 0) by simp only[nsz,N1.out.1,N1.out.2.1,N1.out.2.2.2,hx];rfl)
  obtain⟨b,off,rfl,hc1⟩:=(HH.out.to hb.out).keys.strAt (N1.out.1▸hx);have hx':=qa hx
  clear hx;generalize nsz N k=Z at *;cases leaf with
  | false =>
   go_wp2;go_roundw
   case rel=>exact⟨k+1,by omega,by go_num,by rw[hs.out];simp only[ZN];congr 2;rw[xh (by decide)];omega,hb⟩
   case measure=>simp[intOf];omega
  | true =>
   by_cases hv:k<vals.length
   ·have hq':(k:Int)<(vals.length:Int):=by omega
    obtain⟨y,hy⟩:=qz vals hv;obtain⟨b',off',rfl,hc2⟩:=(HH.out.to hb.out).vals.strAt (N1.out.2.1▸hy);replace hy:=qa hy;go_wp2;go_roundw
    case rel=>exact⟨k+1,by omega,by go_num,by rw[hs.out];simp only[ZN];congr 2;rw[xj trivial,hy.out];simp only[xM];omega,hb⟩
    case measure=>simp[intOf];omega
   have hq':¬ (k:Int)<(vals.length:Int):=by omega
   go_wp2;go_roundw
   case rel=>exact⟨k+1,by omega,by go_num,by rw[hs.out];simp only[ZN];congr 2;rw[xj trivial,XA (by omega)];simp only[Option.getD_none,xX];omega,hb⟩
   case measure=>simp[intOf];omega
 have hq:¬ (k:Int)<(keys.length:Int):=by omega
 obtain rfl:k=keys.length:=by omega
 cases leaf with
 | false =>
  have hr:=qa (show wrap64 (wrap64 (nsz N keys.length)+wrap64 (4*(kids.length:Int)))=wrap64 (qp N) by rw[ZN,jy];unfold qp;rw[N1.out.1,N1.out.2.2.1,N1.out.2.2.2];rfl)
  go_wp2;go_ret;exact⟨qo hr.out,HB.out.trans (hb.out.mono HB.out.size)⟩
 | true =>
  have hr:=qa (show wrap64 (nsz N keys.length)=wrap64 (qp N) by unfold qp;rw[N1.out.1,N1.out.2.2.1,N1.out.2.2.2];simp)
  go_wp2;go_ret;exact⟨qo hr.out,HB.out.trans (hb.out.mono HB.out.size)⟩
theorem qh6 {n:Nd} (hk:k<n.keys.length) (h:¬ Vc n k):qE n=91:=by
 unfold qE;rw[xh fun hh=>h (hh k hk)]
theorem qdb {n:Nd} (h1:QZ n n.keys.length) (h:¬ qP n):qE n=3:=by
 unfold qE;rw[xj h1,xh h]
theorem qak {n:Nd} (h1:QZ n n.keys.length) (h2:qP n) (hk:k<n.vals.length) (h:¬ (n.vals[k]?.getD []).length<=64):qE n=5:=by
 unfold qE;rw[xj h1,xj h2,xh fun hh=>h (hh k hk)]
theorem Jz {n:Nd} (h1:QZ n n.keys.length) (h2:qP n) (h3:zl n n.vals.length) (hk:k<n.kids.length) (h:¬ (1<=n.kids[k]?.getD 0/\n.kids[k]?.getD 0<=65536)):qE n=4:=by
 unfold qE;rw[xj h1,xj h2,xj h3,xh fun hh=>h (hh k hk)]
theorem vW {n:Nd} (h1:QZ n n.keys.length) (h2:qP n) (h3:zl n n.vals.length) (h4:zB n n.kids.length):qE n=if 244<qp n then 51 else 0:=by
 unfold qE;rw[xj h1,xj h2,xj h3,xj h4]
def jH (n:Nd):Prop:=n.keys.length<=140737488355328/\n.vals.length<=140737488355328/\n.kids.length<=140737488355328
theorem VP {n:Nd} (h0:jH n) (h1:QZ n n.keys.length) (h2:qP n) (h3:zl n n.vals.length):0<=qp n/\qp n<=18014398509481984:=by
 have a:=qga n n.keys.length (fun k hk=>(h1 k hk).2.1) (fun hl k hk=>h3 k (by unfold qP at h2;rw[xj hl] at h2;omega)) n.keys.length (xc _)
 have b:=y6 n n.keys.length
 unfold qp;unfold jH at h0
 split<;>omega
def NInv (w W:World) (n:Nd) (kv vv dv:Value) (wr:World):Prop:=Below W.heap.size W wr/\(wr.cell? ⟨w.heap.size,0,none⟩=some (.bool n.leaf)/\wr.cell? ⟨w.heap.size,1,none⟩=some kv/\wr.cell? ⟨w.heap.size,2,none⟩=some vv/\wr.cell? ⟨w.heap.size,3,none⟩=some dv)/\RdN wr kv vv dv n
theorem NInv.to {W:World} {n:Nd} {dv:Value} {wr:World} (h:NInv w W n kv vv dv wr) (hb:Below wr.heap.size wr w'):NInv w W n kv vv dv w' :=
 ⟨h.1.trans (hb.mono h.1.size),⟨(hb.cell (qe h.2.1.1)).trans h.2.1.1,(hb.cell (qe h.2.1.2.1)).trans h.2.1.2.1,(hb.cell (qe h.2.1.2.2.1)).trans h.2.1.2.2.1,(hb.cell (qe h.2.1.2.2.2)).trans h.2.1.2.2.2⟩,h.2.2.to hb⟩
theorem vQ (w:World) (kv vv dv:Value) (n:Nd) (h:RdN w kv vv dv n) (hf:jH n) :
 Calls Tryz.prog 139 #[nv n kv vv dv] w fun e w'=>e=.returned (.int .i64 (qE n))/\Below w.heap.size w w':=by
 have lk:=h.keys.bd
 have lv:=h.vals.bd
 have ld:=h.kids.bd
 obtain⟨a,c,a',c',a'',c'',rfl,rfl,rfl⟩:=h.slices;obtain⟨leaf,keys,vals,kids⟩:=n;dsimp only[nv] at *;obtain⟨W,hW,D,bW,sW⟩:=qf w #[.bool leaf,.slice a keys.length c,.slice a' vals.length c',.slice a'' kids.length c''] 206;replace h:=h.to bW;have HB:=qa bW
 obtain⟨D4,_⟩:=qb D;have HI:Hid (NInv w W _ _ _ _ W):=qa ⟨xm _ _,D4,h⟩
 obtain⟨D0,D1,D2,D3⟩:=D4;clear h bW D;rw[hW] at D0 D1 D2 D3;generalize hN:(⟨leaf,keys,vals,kids⟩:Nd)=N at *;have N1:Hid (N.keys=keys/\N.vals=vals/\N.kids=kids/\N.leaf=leaf):=by subst hN;exact⟨rfl,rfl,rfl,rfl⟩
 replace hN:=qa hN;replace hf:=qa hf;go_enter Tryz.func139,Tryz.ntmps139;go_wp2;rw[<-hW];replace hW:=qa hW;clear D0 D1 D2 D3
 go_loopw [3] (fun b wr=>∃ k:Nat,k<=keys.length/\b=.int .i64 k/\Hid (QZ N k/\NInv w W N (.slice a keys.length c) (.slice a' vals.length c') (.slice a'' kids.length c'') wr)) (fun b _=>keys.length-(intOf b).toNat)
 case atStart=>exact⟨0,xt _,rfl,qa ⟨fun k hk=>by omega,HI.out⟩⟩
 case round =>
 obtain⟨k,hk,rfl,hb⟩:=hrel;obtain⟨D0,D1,D2,D3⟩:=hb.out.2.2.1;rw[N1.out.2.2.2] at D0;have hE:Hid (∀ w',Below wr.heap.size wr w'->Below w.heap.size w w'):=fun w' b=>HB.out.trans ((hb.out.2.to b).1.mono HB.out.size)
 by_cases hlt:k<keys.length
 ·have hq:(k:Int)<(keys.length:Int):=by omega
  obtain⟨x,hx⟩:=qz keys hlt;have hnk:Hid (Qy N k=x):=by show _=_;unfold Qy;rw[N1.out.1,hx];rfl
  have hbad:Hid (¬ Vc N k->qE N=91):=fun hn=>qh6 (by rw[N1.out.1];exact hlt) hn
  obtain⟨b,off,rfl,hc1⟩:=hb.out.2.2.2.keys.strAt (N1.out.1▸hx);have hx':=qa hx
  clear hx;by_cases c1:(x.length:Int)<1
  ·have g1:decide ((x.length:Int)<1)=true:=xv c1
   have hr:Hid (qE N=91):=hbad.out fun hn=>by have:=hn.1;rw[hnk.out] at this;omega
   go_wp2_with fail
   go_quiet (fail)
   go_wp2;go_ret;exact⟨qo hr.out.symm,hE.out _ (qg wr _ _)⟩
  have g1:decide ((x.length:Int)<1)=false:=xw c1
  by_cases c2:(32:Int)<(x.length:Int)
  ·have g2:decide ((32:Int)<(x.length:Int))=true:=xv c2
   have hr:Hid (qE N=91):=hbad.out fun hn=>by have:=hn.2.1;rw[hnk.out] at this;omega
   go_wp2_with fail
   go_quiet (fail)
   go_wp2;go_ret;exact⟨qo hr.out.symm,hE.out _ (qg wr _ _)⟩
  have g2:decide ((32:Int)<(x.length:Int))=false:=xw c2
  by_cases c3:k=0
  ·have g3:decide (0<k)=false:=xw (by omega)
   have hr:Hid (QZ N (k+1)):=(Jw N k).2 ⟨hb.out.1,by rw[Vc,hnk.out];exact⟨by omega,by omega,fun h=>by omega⟩⟩
   replace c3:=qa c3
   go_wp2_with fail
   go_quiet (fail)
   go_wp2;go_roundw
   case rel=>exact⟨k+1,by omega,by go_num,qa ⟨hr.out,hb.out.2.to (qg wr _ _)⟩⟩
   case measure=>simp[intOf];omega
  obtain⟨j,hj⟩:∃ j,k=j+1:=⟨k-1,by omega⟩
  have g3:decide (0<k)=true:=xv (by omega)
  have hj1:(k:Int)-1=(j:Int):=by omega
  have hj2:(j:Int)<(keys.length:Int):=by omega
  have hj3:IntKind.i64.wrap (j:Int)=(j:Int):=xB _ (by omega)
  obtain⟨y,hy⟩:=qz keys (k:=j) (by omega)
  have hny:Hid (Qy N j=y):=by show _=_;unfold Qy;rw[N1.out.1,hy];rfl
  obtain⟨b',off',e,hc0⟩:=hb.out.2.2.2.keys.strAt (N1.out.1▸hy);simp only[xr,XO,XS] at e;obtain⟨rfl,rfl⟩:=e;replace hy:=qa hy;have hj':Hid (k-1=j):=by show _=_;omega
  replace hj:=qa hj;by_cases c4:slt y x=true
  ·have e1:Op.bytesLess x y=false:=Qb c4
   have e2:(x == y)=false:=by
    apply X9.2;intro e;have:x=y:=by simpa using e
    subst this;rw[qU] at c4;cases c4
   have hr:Hid (QZ N (k+1)):=(Jw N k).2 ⟨hb.out.1,by rw[Vc,hnk.out,hj'.out,hny.out];exact⟨by omega,by omega,fun h=>c4⟩⟩
   clear c4
   go_wp2_with fail
   go_quiet (fail)
   go_wp2;go_roundw
   case rel=>exact⟨k+1,by omega,by go_num,qa ⟨hr.out,hb.out.2.to (qg wr _ _)⟩⟩
   case measure=>simp[intOf];omega
  have hr:Hid (qE N=91):=hbad.out fun hn=>by have:=hn.2.2 (by omega);rw[hnk.out,hj'.out,hny.out] at this;exact c4 this
  have hle:(Op.bytesLess x y||x == y)=true:=by rw[qie];simpa using c4
  clear c4;cases e1:Op.bytesLess x y with
  | true =>
   clear hle
   go_wp2_with fail
   go_quiet (fail)
   go_wp2;go_ret;exact⟨qo hr.out.symm,hE.out _ (qg wr _ _)⟩
  | false =>
   have e2:(x == y)=true:=by simpa[e1] using hle
   clear hle
   go_wp2_with fail
   go_quiet (fail)
   go_wp2;go_ret;exact⟨qo hr.out.symm,hE.out _ (qg wr _ _)⟩
 have hq:¬ (k:Int)<(keys.length:Int):=by omega
 obtain rfl:k=keys.length:=by omega
 have hK:Hid (QZ N N.keys.length):=by show QZ _ _;rw[N1.out.1];exact hb.out.1
 have hI:=qa hb.out.2
 clear hb;by_cases hc:qP N
 ·replace hc:=qa hc;cases leaf with
  | false =>
   have q:=hc.out
   unfold qP at q;rw[N1.out.1,N1.out.2.1,N1.out.2.2.1,N1.out.2.2.2,xh (by decide)] at q
   have g1:decide (0<vals.length)=false:=xw (by omega)
   have g2:decide ((keys.length:Int)<1)=false:=xw (by omega)
   have g3:((kids.length:Int) != wrap64 ((keys.length:Int)+1))=false:=by rw[kQ _ (by omega)];simp;omega
   clear q;go_wp2;clear D0 D1 D2 D3 g1 g2 g3 hE
   go_loopw [4] (fun b wr=>∃ k:Nat,k<=vals.length/\b=.int .i64 k/\Hid (zl N k/\NInv w W N (.slice a keys.length c) (.slice a' vals.length c') (.slice a'' kids.length c'') wr)) (fun b _=>vals.length-(intOf b).toNat)
   case atStart=>exact⟨0,xt _,rfl,qa ⟨fun k hk=>by omega,hI.out⟩⟩
   case round =>
   obtain⟨k,hk,rfl,hb⟩:=hrel;obtain⟨D0,D1,D2,D3⟩:=hb.out.2.2.1;rw[N1.out.2.2.2] at D0;have hE:Hid (∀ w',Below wr.heap.size wr w'->Below w.heap.size w w'):=fun w' b=>HB.out.trans ((hb.out.2.to b).1.mono HB.out.size)
   by_cases hlt:k<vals.length
   ·have hq:(k:Int)<(vals.length:Int):=by omega
    obtain⟨x,hx⟩:=qz vals hlt;have hnx:Hid (N.vals[k]?.getD []=x):=by show _=_;rw[N1.out.2.1,hx];rfl
    obtain⟨b,off,rfl,hc1⟩:=hb.out.2.2.2.vals.strAt (N1.out.2.1▸hx);replace hx:=qa hx;by_cases c1:(64:Int)<(x.length:Int)
    ·have hr:Hid (qE N=5):=qak hK.out hc.out (k:=k) (by rw[N1.out.2.1];exact hlt) (by rw[hnx.out];omega)
     go_wp2;go_ret;exact⟨qo hr.out.symm,hE.out _ (xm _ _)⟩
    have hr:Hid (zl N (k+1)):=(Ya N k).2 ⟨hb.out.1,by rw[hnx.out];omega⟩
    go_wp2;go_roundw
    case rel=>exact⟨k+1,by omega,by go_num,qa ⟨hr.out,hb.out.2⟩⟩
    case measure=>simp[intOf];omega
   have hq:¬ (k:Int)<(vals.length:Int):=by omega
   obtain rfl:k=vals.length:=by omega
   have hV:Hid (zl N N.vals.length):=by show zl _ _;rw[N1.out.2.1];exact hb.out.1
   have hI:=qa hb.out.2
   clear hb;go_wp2;clear D0 D1 D2 D3 hE
   go_loopw [5] (fun b wr=>∃ k:Nat,k<=kids.length/\b=.int .i64 k/\Hid (zB N k/\NInv w W N (.slice a keys.length c) (.slice a' vals.length c') (.slice a'' kids.length c'') wr)) (fun b _=>kids.length-(intOf b).toNat)
   case atStart=>exact⟨0,xt _,rfl,qa ⟨fun k hk=>by omega,hI.out⟩⟩
   case round =>
   obtain⟨k,hk,rfl,hb⟩:=hrel;obtain⟨D0,D1,D2,D3⟩:=hb.out.2.2.1;rw[N1.out.2.2.2] at D0;have hE:Hid (∀ w',Below wr.heap.size wr w'->Below w.heap.size w w'):=fun w' b=>HB.out.trans ((hb.out.2.to b).1.mono HB.out.size)
   by_cases hlt:k<kids.length
   ·have hq:(k:Int)<(kids.length:Int):=by omega
    obtain⟨x,hx⟩:=qz kids hlt;have hnx:Hid (N.kids[k]?.getD 0=x):=by show _=_;rw[N1.out.2.2.1,hx];rfl
    obtain⟨b,off,rfl,hc1⟩:=hb.out.2.2.2.kids.intAt (N1.out.2.2.1▸hx);replace hx:=qa hx;by_cases c1:x<1
    ·have hr:Hid (qE N=4):=Jz hK.out hc.out hV.out (k:=k) (by rw[N1.out.2.2.1];exact hlt) (by rw[hnx.out];omega)
     go_wp2;go_ret;exact⟨qo hr.out.symm,hE.out _ (xm _ _)⟩
    by_cases c2:65536<x
    ·have hr:Hid (qE N=4):=Jz hK.out hc.out hV.out (k:=k) (by rw[N1.out.2.2.1];exact hlt) (by rw[hnx.out];omega)
     go_wp2;go_ret;exact⟨qo hr.out.symm,hE.out _ (xm _ _)⟩
    have hr:Hid (zB N (k+1)):=(yZ N k).2 ⟨hb.out.1,by rw[hnx.out];omega⟩
    go_wp2;go_roundw
    case rel=>exact⟨k+1,by omega,by go_num,qa ⟨hr.out,hb.out.2⟩⟩
    case measure=>simp[intOf];omega
   have hq:¬ (k:Int)<(kids.length:Int):=by omega
   obtain rfl:k=kids.length:=by omega
   have hD:Hid (zB N N.kids.length):=by show zB _ _;rw[N1.out.2.2.1];exact hb.out.1
   have KK:=qa (qbw wr _ _ _ N hb.out.2.2.2)
   rw[nv,N1.out.2.2.2] at KK;have hz:=VP hf.out hK.out hc.out hV.out
   rw[kQ _ (by omega)] at KK
   have hr:=qa (vW hK.out hc.out hV.out hD.out)
   generalize qp N=Z at *;clear hb
   go_wp2_with fail
   refine KK.out.mono ?_;rintro e w2 ⟨rfl,b2⟩;replace b2:=qa b2;by_cases hz2:244<Z
   ·go_wp2;go_ret;exact⟨qo (by rw[hr.out,xj hz2]),hE.out _ b2.out⟩
   go_wp2;go_ret;exact⟨qo (by rw[hr.out,xh (by omega)]),hE.out _ b2.out⟩
  | true =>
   have q:=hc.out
   unfold qP at q;rw[N1.out.1,N1.out.2.1,N1.out.2.2.1,N1.out.2.2.2,xj rfl] at q;have g1:((vals.length:Int) != (keys.length:Int))=false:=by simp;omega
   have g2:decide (0<kids.length)=false:=xw (by omega)
   clear q;go_wp2;clear D0 D1 D2 D3 g1 g2 hE
   go_loopw [4] (fun b wr=>∃ k:Nat,k<=vals.length/\b=.int .i64 k/\Hid (zl N k/\NInv w W N (.slice a keys.length c) (.slice a' vals.length c') (.slice a'' kids.length c'') wr)) (fun b _=>vals.length-(intOf b).toNat)
   case atStart=>exact⟨0,xt _,rfl,qa ⟨fun k hk=>by omega,hI.out⟩⟩
   case round =>
   obtain⟨k,hk,rfl,hb⟩:=hrel;obtain⟨D0,D1,D2,D3⟩:=hb.out.2.2.1;rw[N1.out.2.2.2] at D0;have hE:Hid (∀ w',Below wr.heap.size wr w'->Below w.heap.size w w'):=fun w' b=>HB.out.trans ((hb.out.2.to b).1.mono HB.out.size)
   by_cases hlt:k<vals.length
   ·have hq:(k:Int)<(vals.length:Int):=by omega
    obtain⟨x,hx⟩:=qz vals hlt;have hnx:Hid (N.vals[k]?.getD []=x):=by show _=_;rw[N1.out.2.1,hx];rfl
    obtain⟨b,off,rfl,hc1⟩:=hb.out.2.2.2.vals.strAt (N1.out.2.1▸hx);replace hx:=qa hx;by_cases c1:(64:Int)<(x.length:Int)
    ·have hr:Hid (qE N=5):=qak hK.out hc.out (k:=k) (by rw[N1.out.2.1];exact hlt) (by rw[hnx.out];omega)
     go_wp2;go_ret;exact⟨qo hr.out.symm,hE.out _ (xm _ _)⟩
    have hr:Hid (zl N (k+1)):=(Ya N k).2 ⟨hb.out.1,by rw[hnx.out];omega⟩
    go_wp2;go_roundw
    case rel=>exact⟨k+1,by omega,by go_num,qa ⟨hr.out,hb.out.2⟩⟩
    case measure=>simp[intOf];omega
   have hq:¬ (k:Int)<(vals.length:Int):=by omega
   obtain rfl:k=vals.length:=by omega
   have hV:Hid (zl N N.vals.length):=by show zl _ _;rw[N1.out.2.1];exact hb.out.1
   have hI:=qa hb.out.2
   clear hb;go_wp2;clear D0 D1 D2 D3 hE
   go_loopw [5] (fun b wr=>∃ k:Nat,k<=kids.length/\b=.int .i64 k/\Hid (zB N k/\NInv w W N (.slice a keys.length c) (.slice a' vals.length c') (.slice a'' kids.length c'') wr)) (fun b _=>kids.length-(intOf b).toNat)
   case atStart=>exact⟨0,xt _,rfl,qa ⟨fun k hk=>by omega,hI.out⟩⟩
   case round =>
   obtain⟨k,hk,rfl,hb⟩:=hrel;obtain⟨D0,D1,D2,D3⟩:=hb.out.2.2.1;rw[N1.out.2.2.2] at D0;have hE:Hid (∀ w',Below wr.heap.size wr w'->Below w.heap.size w w'):=fun w' b=>HB.out.trans ((hb.out.2.to b).1.mono HB.out.size)
   by_cases hlt:k<kids.length
   ·have hq:(k:Int)<(kids.length:Int):=by omega
    obtain⟨x,hx⟩:=qz kids hlt;have hnx:Hid (N.kids[k]?.getD 0=x):=by show _=_;rw[N1.out.2.2.1,hx];rfl
    obtain⟨b,off,rfl,hc1⟩:=hb.out.2.2.2.kids.intAt (N1.out.2.2.1▸hx);replace hx:=qa hx;by_cases c1:x<1
    ·have hr:Hid (qE N=4):=Jz hK.out hc.out hV.out (k:=k) (by rw[N1.out.2.2.1];exact hlt) (by rw[hnx.out];omega)
     go_wp2;go_ret;exact⟨qo hr.out.symm,hE.out _ (xm _ _)⟩
    by_cases c2:65536<x
    ·have hr:Hid (qE N=4):=Jz hK.out hc.out hV.out (k:=k) (by rw[N1.out.2.2.1];exact hlt) (by rw[hnx.out];omega)
     go_wp2;go_ret;exact⟨qo hr.out.symm,hE.out _ (xm _ _)⟩
    have hr:Hid (zB N (k+1)):=(yZ N k).2 ⟨hb.out.1,by rw[hnx.out];omega⟩
    go_wp2;go_roundw
    case rel=>exact⟨k+1,by omega,by go_num,qa ⟨hr.out,hb.out.2⟩⟩
    case measure=>simp[intOf];omega
   have hq:¬ (k:Int)<(kids.length:Int):=by omega
   obtain rfl:k=kids.length:=by omega
   have hD:Hid (zB N N.kids.length):=by show zB _ _;rw[N1.out.2.2.1];exact hb.out.1
   have KK:=qa (qbw wr _ _ _ N hb.out.2.2.2)
   rw[nv,N1.out.2.2.2] at KK;have hz:=VP hf.out hK.out hc.out hV.out
   rw[kQ _ (by omega)] at KK
   have hr:=qa (vW hK.out hc.out hV.out hD.out)
   generalize qp N=Z at *;clear hb
   go_wp2_with fail
   refine KK.out.mono ?_;rintro e w2 ⟨rfl,b2⟩;replace b2:=qa b2;by_cases hz2:244<Z
   ·go_wp2;go_ret;exact⟨qo (by rw[hr.out,xj hz2]),hE.out _ b2.out⟩
   go_wp2;go_ret;exact⟨qo (by rw[hr.out,xh (by omega)]),hE.out _ b2.out⟩
 have hr:Hid (qE N=3):=qdb hK.out hc
 unfold qP at hc;rw[N1.out.1,N1.out.2.1,N1.out.2.2.1,N1.out.2.2.2] at hc;clear hI;cases leaf with
 | false =>
  rw[xh (by decide)] at hc
  by_cases c1:0<vals.length
  ·have g1:decide (0<vals.length)=true:=xv c1
   clear hc c1;go_wp2;go_ret;exact⟨qo hr.out.symm,hE.out _ (xm _ _)⟩
  have g1:decide (0<vals.length)=false:=xw c1
  by_cases c2:(keys.length:Int)<1
  ·have g2:decide ((keys.length:Int)<1)=true:=xv c2
   clear hc c1;go_wp2;go_ret;exact⟨qo hr.out.symm,hE.out _ (xm _ _)⟩
  have g2:decide ((keys.length:Int)<1)=false:=xw c2
  have g3:((kids.length:Int) != wrap64 ((keys.length:Int)+1))=true:=by rw[kQ _ (by have:=hf.out.1;rw[N1.out.1] at this;omega)];simp;omega
  clear hc c1 c2;go_wp2;go_ret;exact⟨qo hr.out.symm,hE.out _ (xm _ _)⟩
 | true =>
  rw[xj rfl] at hc;by_cases c1:vals.length=keys.length
  ·have g1:((vals.length:Int) != (keys.length:Int))=false:=by simp;omega
   have g2:decide (0<kids.length)=true:=xv (by omega)
   clear hc c1;go_wp2;go_ret;exact⟨qo hr.out.symm,hE.out _ (xm _ _)⟩
  have g1:((vals.length:Int) != (keys.length:Int))=true:=by simp;omega
  clear hc c1;go_wp2;go_ret;exact⟨qo hr.out.symm,hE.out _ (xm _ _)⟩
theorem qiw {a b:Int} (h:a=b):(a == b)=true:=by simp[h]
theorem qay {a b:Int} (h:a≠b):(a == b)=false:=by simp[h]
theorem qkf (w:World) (v:Value) (N:Nd) (h:RdT w v N.keys) :
 Calls Tryz.prog 108 #[v] w fun e w'=>e=.returned (.bool (decide (QZ N N.keys.length)))/\w=w':=by
 have lk:=h.bd
 obtain⟨a,c,rfl⟩:=h.slice;obtain⟨keys,hkeys⟩:∃ l,l=N.keys:=⟨_,rfl⟩;rw[<-hkeys] at h lk |-;obtain⟨R,hR⟩:∃ R,R=decide (QZ N keys.length):=⟨_,rfl⟩;rw[<-hR];replace hR:=qa hR;have HH:=qa h
 replace hkeys:=qa hkeys;clear h;go_enter Tryz.func108,Tryz.ntmps108;go_wp2
 go_loopw [7] (fun i wr=>∃ k:Nat,k<=keys.length/\i=.int .i64 k/\w=wr/\Hid (QZ N k)) (fun i _=>keys.length-(intOf i).toNat)
 case atStart=>exact⟨0,xt _,rfl,rfl,qa (fun k hk=>by omega)⟩
 case round =>
 obtain⟨k,hk,rfl,rfl,hb⟩:=hrel;by_cases hlt:k<keys.length
 ·have hq:(k:Int)<(keys.length:Int):=by omega
  obtain⟨x,hx⟩:=qz keys hlt;have hnk:Hid (Qy N k=x):=by show _=_;unfold Qy;rw[<-hkeys.out,hx];rfl
  have hbad:Hid (¬ Vc N k->R=false):=fun hn=>by rw[hR.out];exact xw fun hh=>hn (hh k hlt)
  obtain⟨b,off,rfl,hc1⟩:=HH.out.strAt hx;replace hx:=qa hx;by_cases c1:(x.length:Int)<1
  ·have g1:decide ((x.length:Int)<1)=true:=xv c1
   have hr:Hid (R=false):=hbad.out fun hn=>by have:=hn.1;rw[hnk.out] at this;omega
   go_wp2;go_ret;exact⟨QV hr.out.symm,rfl⟩
  have g1:decide ((x.length:Int)<1)=false:=xw c1
  by_cases c2:(32:Int)<(x.length:Int)
  ·have g2:decide ((32:Int)<(x.length:Int))=true:=xv c2
   have hr:Hid (R=false):=hbad.out fun hn=>by have:=hn.2.1;rw[hnk.out] at this;omega
   go_wp2;go_ret;exact⟨QV hr.out.symm,rfl⟩
  have g2:decide ((32:Int)<(x.length:Int))=false:=xw c2
  by_cases c3:k=0
  ·have g3:decide (0<k)=false:=xw (by omega)
   have hr:Hid (QZ N (k+1)):=(Jw N k).2 ⟨hb.out,by rw[Vc,hnk.out];exact⟨by omega,by omega,fun h=>by omega⟩⟩
   replace c3:=qa c3;go_wp2;go_roundw
   case rel=>exact⟨k+1,by omega,by go_num,trivial,hr⟩
   case measure=>simp[intOf];omega
  obtain⟨j,hj⟩:∃ j,k=j+1:=⟨k-1,by omega⟩
  have g3:decide (0<k)=true:=xv (by omega)
  have hj1:(k:Int)-1=(j:Int):=by omega
  have hj2:(j:Int)<(keys.length:Int):=by omega
  have hj3:IntKind.i64.wrap (j:Int)=(j:Int):=xB _ (by omega)
  obtain⟨y,hy⟩:=qz keys (k:=j) (by omega)
  have hny:Hid (Qy N j=y):=by show _=_;unfold Qy;rw[<-hkeys.out,hy];rfl
  obtain⟨b',off',e,hc0⟩:=HH.out.strAt hy;simp only[xr,XO,XS] at e;obtain⟨rfl,rfl⟩:=e;replace hy:=qa hy;have hj':Hid (k-1=j):=by show _=_;omega
  replace hj:=qa hj;by_cases c4:slt y x=true
  ·have e1:Op.bytesLess x y=false:=Qb c4
   have e2:(x == y)=false:=by
    apply X9.2;intro e;have:x=y:=by simpa using e
    subst this;rw[qU] at c4;cases c4
   have hr:Hid (QZ N (k+1)):=(Jw N k).2 ⟨hb.out,by rw[Vc,hnk.out,hj'.out,hny.out];exact⟨by omega,by omega,fun h=>c4⟩⟩
   clear c4;go_wp2;go_roundw
   case rel=>exact⟨k+1,by omega,by go_num,trivial,hr⟩
   case measure=>simp[intOf];omega
  have hr:Hid (R=false):=hbad.out fun hn=>by have:=hn.2.2 (by omega);rw[hnk.out,hj'.out,hny.out] at this;exact c4 this
  have hle:(Op.bytesLess x y||x == y)=true:=by rw[qie];simpa using c4
  clear c4;cases e1:Op.bytesLess x y with
  | true =>
   clear hle;go_wp2;go_ret;exact⟨QV hr.out.symm,rfl⟩
  | false =>
   have e2:(x == y)=true:=by simpa[e1] using hle
   clear hle;go_wp2;go_ret;exact⟨QV hr.out.symm,rfl⟩
 have hq:¬ (k:Int)<(keys.length:Int):=by omega
 obtain rfl:k=keys.length:=by omega
 have hr:Hid (R=true):=by show _=_;rw[hR.out];exact xv hb.out
 go_wp2;go_ret;exact⟨QV hr.out.symm,rfl⟩
theorem qe8 (w:World) (kv vv dv:Value) (n:Nd) (h:RdN w kv vv dv n) :
 Calls Tryz.prog 109 #[nv n kv vv dv] w fun e w'=>e=.returned (.bool (decide (qP n)))/\Below w.heap.size w w':=by
 have lk:=h.keys.bd
 have lv:=h.vals.bd
 have ld:=h.kids.bd
 obtain⟨a,c,a',c',a'',c'',rfl,rfl,rfl⟩:=h.slices;obtain⟨leaf,keys,vals,kids⟩:=n;dsimp only[nv] at *;obtain⟨W,hW,D,bW,sW⟩:=qf w #[.bool leaf,.slice a keys.length c,.slice a' vals.length c',.slice a'' kids.length c''] 84;obtain⟨⟨D0,D1,D2,D3⟩,_⟩:=qb D;have HB:=qa bW
 clear bW D h;rw[hW] at D0 D1 D2 D3;rw[hW] at HB;clear hW sW;cases leaf with
 | true =>
  have hr:Hid (decide (qP ⟨true,keys,vals,kids⟩)=(decide (vals.length=keys.length)&&decide (kids.length=0))):=by
   show _=_;unfold qP;simp
  rw[hr.out];clear hr;by_cases c1:vals.length=keys.length
  ·have c1':((vals.length:Int) == (keys.length:Int))=true:=qiw (by omega)
   by_cases c2:kids.length=0
   ·have c2':((kids.length:Int) == 0)=true:=qiw (by omega)
    rw[xv c1,xv c2];clear c1 c2;go_enter Tryz.func109,Tryz.ntmps109;go_wp2;go_ret;exact⟨rfl,HB.out⟩
   have c2':((kids.length:Int) == 0)=false:=qay (by omega)
   rw[xv c1,xw c2];clear c1 c2;go_enter Tryz.func109,Tryz.ntmps109;go_wp2;go_ret;exact⟨rfl,HB.out⟩
  have c1':((vals.length:Int) == (keys.length:Int))=false:=qay (by omega)
  rw[xw c1];clear c1;go_enter Tryz.func109,Tryz.ntmps109;go_wp2;go_ret;exact⟨rfl,HB.out⟩
 | false =>
  have hr:Hid (decide (qP ⟨false,keys,vals,kids⟩)=(decide (vals.length=0)&&(decide (1<=keys.length)&&decide (kids.length=keys.length+1)))):=by
   show _=_;unfold qP;simp
  rw[hr.out];clear hr;by_cases c1:vals.length=0
  ·have c1':((vals.length:Int) == 0)=true:=qiw (by omega)
   by_cases c2:1<=keys.length
   ·have c2':decide (0<keys.length)=true:=xv (by omega)
    by_cases c3:kids.length=keys.length+1
    ·have c3':((kids.length:Int) == wrap64 ((keys.length:Int)+1))=true:=by rw[kQ _ (by omega)];exact qiw (by omega)
     rw[xv c1,xv c2,xv c3];clear c1 c2 c3;go_enter Tryz.func109,Tryz.ntmps109;go_wp2;go_ret;exact⟨rfl,HB.out⟩
    have c3':((kids.length:Int) == wrap64 ((keys.length:Int)+1))=false:=qay (by unfold wrap64;omega)
    rw[xv c1,xv c2,xw c3];clear c1 c2 c3;go_enter Tryz.func109,Tryz.ntmps109;go_wp2;go_ret;exact⟨rfl,HB.out⟩
   have c2':decide (0<keys.length)=false:=xw (by omega)
   rw[xv c1,xw c2];clear c1 c2;go_enter Tryz.func109,Tryz.ntmps109;go_wp2;go_ret;exact⟨rfl,HB.out⟩
  have c1':((vals.length:Int) == 0)=false:=qay (by omega)
  rw[xw c1];clear c1;go_enter Tryz.func109,Tryz.ntmps109;go_wp2;go_ret;exact⟨rfl,HB.out⟩
theorem qfz (w:World) (x:Int):Calls Tryz.prog 111 #[.int .i64 x] w fun e w'=>e=.returned (.bool (decide (¬ (1<=x/\x<=65536))))/\w=w':=by
 by_cases c1:x<1
 ·have g1:decide (x<1)=true:=xv c1
  rw[xv (show ¬ (1<=x/\x<=65536) by omega)]
  clear c1;go_enter Tryz.func111,Tryz.ntmps111;go_wp2;go_ret;exact⟨rfl,rfl⟩
 have g1:decide (x<1)=false:=xw c1
 by_cases c2:65536<x
 ·have g2:decide (65536<x)=true:=xv c2
  rw[xv (show ¬ (1<=x/\x<=65536) by omega)]
  clear c1 c2;go_enter Tryz.func111,Tryz.ntmps111;go_wp2;go_ret;exact⟨rfl,rfl⟩
 have g2:decide (65536<x)=false:=xw c2
 rw[xw (show ¬ ¬ (1<=x/\x<=65536) by omega)]
 clear c1 c2;go_enter Tryz.func111,Tryz.ntmps111;go_wp2;go_ret;exact⟨rfl,rfl⟩
theorem qgb (w:World) (x:Str):Calls Tryz.prog 107 #[st x] w fun e w'=>e=.returned (.bool (decide (64<x.length)))/\w=w':=by
 by_cases c1:64<x.length
 ·have g1:decide ((64:Int)<(x.length:Int))=true:=xv (by omega)
  rw[xv c1];clear c1;go_enter Tryz.func107,Tryz.ntmps107;go_wp2;go_ret;exact⟨by first|rfl|(apply QV;simpa using g1),rfl⟩
 have g1:decide ((64:Int)<(x.length:Int))=false:=xw (by omega)
 rw[xw c1];clear c1;go_enter Tryz.func107,Tryz.ntmps107;go_wp2;go_ret;exact⟨by first|rfl|(apply QV;simpa using g1),rfl⟩
theorem qk3 (w:World) (v:Value) (N:Nd) (h:RdT w v N.vals) :
 Calls Tryz.prog 125 #[v,.func (.func 107) #[] #[]] w fun e w'=>∃ k:Int,e=.returned (.int .i64 k)/\(0<=k↔¬ zl N N.vals.length)/\w=w':=by
 have lb:=h.bd
 obtain⟨a,c,rfl⟩:=h.slice;obtain⟨ws,hws⟩:∃ l,l=N.vals:=⟨_,rfl⟩;rw[<-hws] at h lb |-;have HH:=qa h
 replace hws:=qa hws;clear h;go_enter Tryz.func125,Tryz.ntmps125;go_wp2
 go_loopw [8] (fun i wr=>∃ k:Nat,k<=ws.length/\i=.int .i64 k/\w=wr/\Hid (zl N k)) (fun i _=>ws.length-(intOf i).toNat)
 case atStart=>exact⟨0,xt _,rfl,rfl,qa (fun j hj=>by omega)⟩
 case round =>
 obtain⟨k,hk,rfl,rfl,hI⟩:=hrel;by_cases hlt:k<ws.length
 ·have hq:(k:Int)<(ws.length:Int):=by omega
  obtain⟨x,hx⟩:=qz ws hlt;have hnx:Hid (N.vals[k]?.getD []=x):=by show _=_;rw[<-hws.out,hx];rfl
  obtain⟨b1,o1,rfl,hc1⟩:=HH.out.strAt hx;have KK:=qa (qgb w x)
  replace hx:=qa hx
  go_wp2_with fail
  refine KK.out.mono ?_;rintro e w' ⟨rfl,rfl⟩;clear KK;by_cases hl:64<x.length
  ·rw[xv hl];have hE:Hid ((0:Int)<=(k:Int)↔¬ zl N ws.length):=⟨fun _ q=>by have:=q k hlt;rw[hnx.out] at this;omega,fun _=>by omega⟩
   replace hl:=qa hl;go_wp2;go_ret;exact⟨_,rfl,hE.out,rfl⟩
  rw[xw hl];have hI':Hid (zl N (k+1)):=(Ya N k).2 ⟨hI.out,by rw[hnx.out];omega⟩
  replace hl:=qa hl;go_wp2;go_roundw
  case rel=>exact⟨k+1,by omega,by go_num,trivial,hI'⟩
  case measure=>simp[intOf];omega
 have hq:¬ (k:Int)<(ws.length:Int):=by omega
 obtain rfl:k=ws.length:=by omega
 have hE:Hid ((0:Int)<= -1↔¬ zl N ws.length):=⟨fun q=>by omega,fun q=>absurd hI.out q⟩
 go_wp2;go_ret;exact⟨_,rfl,hE.out,rfl⟩
theorem qj6 (w:World) (v:Value) (N:Nd) (h:RdT w v N.vals) :
 Calls Tryz.prog 93 #[v,.func (.func 107) #[] #[]] w fun e w'=>e=.returned (.bool (decide (¬ zl N N.vals.length)))/\w=w':=by
 have KK:=qa (qk3 w v N h)
 obtain⟨a,c,rfl⟩:=h.slice;obtain⟨R,hR⟩:∃ R,R=decide (¬ zl N N.vals.length):=⟨_,rfl⟩;rw[<-hR];replace hR:=qa hR;clear h;go_enter Tryz.func93,Tryz.ntmps93
 go_wp2_with fail
 refine KK.out.mono ?_;rintro e w' ⟨k,rfl,hk,rfl⟩;clear KK;by_cases h0:0<=k
 ·have hE:Hid (R=true):=by show _=_;rw[hR.out];exact xv (hk.1 h0)
  clear hk;go_wp2;go_ret;exact⟨QV (by rw[hE.out];try (first|rfl|simpa using h0)),rfl⟩
 have hE:Hid (R=false):=by show _=_;rw[hR.out];exact xw fun q=>h0 (hk.2 q)
 clear hk;go_wp2;go_ret;exact⟨QV (by rw[hE.out];try (first|rfl|simpa using h0)),rfl⟩
theorem qki (w:World) (v:Value) (N:Nd) (h:RdI w v N.kids) :
 Calls Tryz.prog 130 #[v,.func (.func 111) #[] #[]] w fun e w'=>∃ k:Int,e=.returned (.int .i64 k)/\(0<=k↔¬ zB N N.kids.length)/\w=w':=by
 have lb:=h.bd
 obtain⟨a,c,rfl⟩:=h.slice;obtain⟨ws,hws⟩:∃ l,l=N.kids:=⟨_,rfl⟩;rw[<-hws] at h lb |-;have HH:=qa h
 replace hws:=qa hws;clear h;go_enter Tryz.func130,Tryz.ntmps130;go_wp2
 go_loopw [8] (fun i wr=>∃ k:Nat,k<=ws.length/\i=.int .i64 k/\w=wr/\Hid (zB N k)) (fun i _=>ws.length-(intOf i).toNat)
 case atStart=>exact⟨0,xt _,rfl,rfl,qa (fun j hj=>by omega)⟩
 case round =>
 obtain⟨k,hk,rfl,rfl,hI⟩:=hrel;by_cases hlt:k<ws.length
 ·have hq:(k:Int)<(ws.length:Int):=by omega
  obtain⟨x,hx⟩:=qz ws hlt;have hnx:Hid (N.kids[k]?.getD 0=x):=by show _=_;rw[<-hws.out,hx];rfl
  obtain⟨b1,o1,rfl,hc1⟩:=HH.out.intAt hx;have KK:=qa (qfz w x)
  replace hx:=qa hx
  go_wp2_with fail
  refine KK.out.mono ?_;rintro e w' ⟨rfl,rfl⟩;clear KK;by_cases hl:(1<=x/\x<=65536)
  ·rw[xw (show ¬ ¬ (1<=x/\x<=65536) from fun q=>q hl)];have hI':Hid (zB N (k+1)):=(yZ N k).2 ⟨hI.out,by rw[hnx.out];exact hl⟩
   replace hl:=qa hl;go_wp2;go_roundw
   case rel=>exact⟨k+1,by omega,by go_num,trivial,hI'⟩
   case measure=>simp[intOf];omega
  rw[xv hl];have hE:Hid ((0:Int)<=(k:Int)↔¬ zB N ws.length):=⟨fun _ q=>by have:=q k hlt;rw[hnx.out] at this;exact hl this,fun _=>by omega⟩
  replace hl:=qa hl;go_wp2;go_ret;exact⟨_,rfl,hE.out,rfl⟩
 have hq:¬ (k:Int)<(ws.length:Int):=by omega
 obtain rfl:k=ws.length:=by omega
 have hE:Hid ((0:Int)<= -1↔¬ zB N ws.length):=⟨fun q=>by omega,fun q=>absurd hI.out q⟩
 go_wp2;go_ret;exact⟨_,rfl,hE.out,rfl⟩
theorem qk0 (w:World) (v:Value) (N:Nd) (h:RdI w v N.kids) :
 Calls Tryz.prog 110 #[v,.func (.func 111) #[] #[]] w fun e w'=>e=.returned (.bool (decide (¬ zB N N.kids.length)))/\w=w':=by
 have KK:=qa (qki w v N h)
 obtain⟨a,c,rfl⟩:=h.slice;obtain⟨R,hR⟩:∃ R,R=decide (¬ zB N N.kids.length):=⟨_,rfl⟩;rw[<-hR];replace hR:=qa hR;clear h;go_enter Tryz.func110,Tryz.ntmps110
 go_wp2_with fail
 refine KK.out.mono ?_;rintro e w' ⟨k,rfl,hk,rfl⟩;clear KK;by_cases h0:0<=k
 ·have hE:Hid (R=true):=by show _=_;rw[hR.out];exact xv (hk.1 h0)
  clear hk;go_wp2;go_ret;exact⟨QV (by rw[hE.out];try (first|rfl|simpa using h0)),rfl⟩
 have hE:Hid (R=false):=by show _=_;rw[hR.out];exact xw fun q=>h0 (hk.2 q)
 clear hk;go_wp2;go_ret;exact⟨QV (by rw[hE.out];try (first|rfl|simpa using h0)),rfl⟩
abbrev OwnT (B:Nat) (w:World) (v:Value) (l:List Str):Prop:=w.ownsRow B 9 1 v l.length (l.map st)
abbrev OwnJ (B:Nat) (w:World) (v:Value) (l:List Int):Prop:=w.ownsRow B 3 1 v l.length (l.map (Value.int .i64))
abbrev qsw:Shp (List Str):=Shp.list 9 Shp.str
abbrev qsi:Shp (List Int):=Shp.list 3 (Shp.int .i64)
theorem qiz {α : Type} {s:Shp α} {f : α -> Value} (hs:∀ (w:World) x,s.own [] w [f x] x) {l:List α} (h:w.ownsRow B T s.n v l.length (l.map f)):Own (Shp.list T s) B w [v] l:=by
 have each:∀ l:List α,zt s w [] (l.map f) l:=by
  intro l
  induction l with
  | nil=>exact⟨rfl,rfl⟩
  | cons x r ih=>exact⟨[],[],[f x],r.map f,rfl,rfl,hs w x,ih⟩
 refine⟨v.ownBlock.toList,⟨v,_,[],rfl,?_,each l,by simp⟩,?_,fun b hb=>(xo h b (by simpa using hb)).1⟩
 ·exact Qt h fun _ _=>xt _
 cases v.ownBlock<;>simp
theorem OwnT.own {l:List Str} (h:OwnT B w v l):Own qsw B w [v] l:=qiz (s:=Shp.str) (f:=st) (fun _ _=>⟨rfl,rfl⟩) h
theorem OwnJ.own {l:List Int} (h:OwnJ B w v l):Own qsi B w [v] l:=qiz (s:=Shp.int .i64) (f:=Value.int .i64) (fun _ _=>⟨rfl,rfl⟩) h
theorem OwnT.rd {l:List Str} (h:OwnT B w v l):RdT w v l:=h.own.rdS
theorem OwnJ.rd {l:List Int} (h:OwnJ B w v l):RdI w v l:=h.own.rdS
theorem qmq:(Tryz.prog.info? 9).map (fun i=>(i.zero,i.size,i.bytes))=some (some (.string ⟨#[]⟩),1,16):=by kernel_rfl
theorem qmg:(Tryz.prog.info? 3).map (fun i=>(i.zero,i.size,i.bytes))=some (some (.int .i64 0),1,8):=by kernel_rfl
section
variable {P:Program} {ops:Array Oper} {md:Region.Mode} {Q:Exit->Act->World->Prop} {S:World->Prop}
def vm (md:Region.Mode) (ops:Array Oper) (m:Nat):List (Nat×Bool)->Array Bool->Bool
 | [],listed=>Region.seqB md ops (ops.size-m) m listed
 | (i,true)::r,listed=>decide (i<m)&&(Region.ready md ops listed).contains i&&Region.free md ops listed i&&vm md ops m r (listed.setIfInBounds i true)
 | (i,false)::r,listed=>decide (i<m)&&decide (Region.ready md ops listed=[i])&&vm md ops m r (listed.setIfInBounds i true)
def z6 (P:Program) (ops:Array Oper) (Q:Exit->Act->World->Prop) (S:World->Prop) (Z:Act->World->Prop):List (Nat×Bool)->Act->World->Prop
 | [],a,w=>Z a w
 | (i,true)::r,a,w=>∃ o v,ops[i]?=some o/\YieldsIf P ops S o v a/\S w/\z6 P ops Q S Z r (a.put o.dst v) w
 | (i,false)::r,a,w=>∃ o,ops[i]?=some o/\if Region.wanted o (yielded ops a.tmps)=true then o.wp P a w (fun a' w'=>S w'/\z6 P ops Q S Z r a' w') Q else S w/\z6 P ops Q S Z r (a.put o.dst undef) w
theorem JD {m:Nat} {Z:Act->World->Prop} (hsel:Region.noSelect ops=true) (hs:Region.sinkB md ops m=true) (hc:Region.chainB md ops m=true) (hm:m<ops.size) (hQ:∀ c (a:Act) t w,Q (.panic c) {a with tmps:=t} w->Q (.panic c) a w) :
 ∀ (l:List (Nat×Bool)) (listed:Array Bool) (a:Act) (w:World),HeadInv md ops m listed->vm md ops m l listed=true->z6 P ops Q S Z l a w ->
  JG P md ops Q S m (fun listed' a' w'=>Region.seqB md ops (ops.size-m) m listed'=true/\Z a' w') l.length listed a w
 | [],listed,a,w,_,hB,h=>⟨hB,h⟩
 | (i,true)::r,listed,a,w,inv,hB,⟨o,v,ho,hy,hS,h⟩=>by
  simp only[vm,xL,XU] at hB;obtain⟨⟨⟨him,hr⟩,hf⟩,hB'⟩:=hB;have hr':i∈Region.ready md ops listed:=by simpa using hr
  exact Jl ho (Region.noSelect_spec hsel) hs hc hm him (fun c a w h=>hQ c a (a.put o.dst v).tmps w (by rw[<-qar];exact h)) (fun listed a w hL=>seqB_ready hL.1) _ listed a w inv (Region.free_spec ho hf) hr' hy hS
   (JD hsel hs hc hm hQ r _ _ _ (inv.set hr' him) hB' h)
 | (i,false)::r,listed,a,w,inv,hB,⟨o,ho,h⟩=>by
  simp only[vm,xL,XU] at hB;obtain⟨⟨him,hr⟩,hB'⟩:=hB;refine⟨fun h1=>(by rw[hr] at h1;cases h1),fun j hj=>?_⟩
  have hj0:=hj
  rw[hr] at hj;have hji:j=i:=by simpa using hj
  subst hji;refine⟨him,?_⟩
  have hw:wpOp P ops Q j (fun a' w'=>S w'/\z6 P ops Q S Z r a' w') a w:=by
   unfold wpOp;simp only[ho]
   split
   ·rename_i hwd;rw[xj hwd] at h;exact .inl h
   rename_i hwd;rw[xh hwd] at h;exact h
  exact wpOp_mono (fun a' w' h'=>⟨h'.1,JD hsel hs hc hm hQ r _ _ _ (inv.set hj0 him) hB' h'.2⟩) hw
def qf2 (md:Region.Mode) (ops:Array Oper) (m:Nat) (l:List (Nat×Bool)):Bool :=
 Region.noSelect ops&&decide (l.length=m)&&decide (m<ops.size)&&Region.sinkB md ops m&&Region.chainB md ops m&&vm md ops m l (Array.replicate ops.size false)
theorem qN {id:Nat} (S:World->Prop) (s:List (Nat×Bool)) (m:Nat) (hf:P.follows .mixedOrders=true) (hB:qf2 .any l.toArray m s=true)
 (hQ:∀ c (a:Act) t w,Q (.panic c) {a with tmps:=t} w->Q (.panic c) a w)
 (h:z6 P l.toArray Q S (fun a'' w''=>wpList P l.toArray Q (l.drop m) a'' w'') s a w.drew):(Code.region id l.toArray true).wp P Q a w:=by
 simp only[qf2,xL,XU] at hB;obtain⟨⟨⟨⟨⟨hsel,hlen⟩,hm⟩,hs⟩,hc⟩,hsch⟩:=hB;have hm':m<l.length:=by simpa using hm
 have hld:(l.drop m).length=l.length-m:=by simp
 have inv0:HeadInv .any l.toArray m (Array.replicate l.toArray.size false) :=
  ⟨by simp,fun j oj _ hl=>(by rw[Kf] at hl;cases hl),fun t _ ht=>getD_in (by simpa using ht) (Kf _ _)⟩
 have H:=JD (md:=.any) hsel hs hc hm hQ s _ a w.drew inv0 hsch h
 refine wp_region_any hf ?_
 have:=ja (Q:=Q) (g:=l.length-m) (fun listed a' w' hL=>by
  have:=wpAny_of_seq (md:=.any) (Q':=Q) (l.drop m) m listed a' w' (fun j=>by simp[XQ]) (by rw[hld];exact hL.1) hL.2
  rwa [hld] at this) _ _ _ _ H
 rw[hlen,show m+(l.length-m)=l.toArray.size by simp;omega] at this
 exact this
theorem Qj {r:List (Nat×Bool)} {Z:Act->World->Prop} (ho:ops[i]?=some o) (hw:Region.wanted o (yielded ops a.tmps)=true) (hS:S w) (hy:∀ w,S w->(execOp a.eval o).run P w=.ok (.value v) w) (h:z6 P ops Q S Z r (a.put o.dst v) w):z6 P ops Q S Z ((i,true)::r) a w :=
 ⟨o,v,ho,.inl ⟨hw,hy⟩,hS,h⟩
theorem qly {r:List (Nat×Bool)} {Z:Act->World->Prop} (ho:ops[i]?=some o) (h:∀ K:Act->World->Prop,(∀ a' w',S w'->z6 P ops Q S Z r a' w'->K a' w')->if Region.wanted o (yielded ops a.tmps)=true then o.wp P a w K Q else K (a.put o.dst undef) w):z6 P ops Q S Z ((i,false)::r) a w:=by
 have:=h (fun a' w'=>S w'/\z6 P ops Q S Z r a' w') (fun a' w' h1 h2=>⟨h1,h2⟩)
 exact⟨o,ho,this⟩
theorem qL {r:List (Nat×Bool)} {Z:Act->World->Prop} (ho:ops[i]?=some o) (hw:Region.wanted o (yielded ops a.tmps)=true) (h:∀ K:Act->World->Prop,(∀ a' w',S w'->z6 P ops Q S Z r a' w'->K a' w')->o.wp P a w K Q):z6 P ops Q S Z ((i,false)::r) a w:=by
 refine qly ho fun K hK=>?_;rw[xj hw];exact h K hK
end
open Go.RowKit
structure OwnN (B:Nat) (w:World) (kv vv dv:Value) (n:Nd):Prop where
 keys:OwnT B w kv n.keys
 vals:OwnT B w vv n.vals
 kids:OwnJ B w dv n.kids
theorem OwnN.to {dv:Value} {n:Nd} (h:OwnN B w kv vv dv n) (hb:Below w.heap.size w w'):OwnN B w' kv vv dv n:=⟨qB h.keys hb,qB h.vals hb,qB h.kids hb⟩
theorem OwnN.rd {dv:Value} {n:Nd} (h:OwnN B w kv vv dv n):RdN w kv vv dv n:=⟨h.keys.rd,h.vals.rd,h.kids.rd⟩
theorem QA (h:w.ownsRow B T n v m cc) (hC:C<=B):w.ownsRow C T n v m cc :=
 Qt h fun b hb=>xi hC (xo h b hb).1
theorem OwnN.mono {dv:Value} {n:Nd} (h:OwnN B w kv vv dv n) (hC:C<=B):OwnN C w kv vv dv n:=⟨QA h.keys hC,QA h.vals hC,QA h.kids hC⟩
theorem OwnN.nil (B:Nat) (w:World) (l:Bool):OwnN B w (.slice none 0 0) (.slice none 0 0) (.slice none 0 0) ⟨l,[],[],[]⟩:=⟨xA _ _ _ _,xA _ _ _ _,xA _ _ _ _⟩
theorem Qm (h:w.ownsRow B T n v m cc) (hg:g<B) (i:Nat) (x:Value):(w.setCell ⟨g,i,none⟩ x).ownsRow B T n v m cc:=ownsRow_setCell_below h (a:=⟨g,i,none⟩) hg x
theorem OwnN.set {dv:Value} {n:Nd} (h:OwnN B w kv vv dv n) (hg:g<B) (i:Nat) (x:Value):OwnN B (w.setCell ⟨g,i,none⟩ x) kv vv dv n:=⟨Qm h.keys hg i x,Qm h.vals hg i x,Qm h.kids hg i x⟩
theorem qu {a b d:Value} {fr:Nat×Nat} (h:u.heap[g]?=some (.cells #[a,b,c,d] t fr)) (x y z v:Value):((((u.setCell ⟨g,0,none⟩ x).setCell ⟨g,1,none⟩ y).setCell ⟨g,2,none⟩ z).setCell ⟨g,3,none⟩ v).heap[g]?=some (.cells #[x,y,z,v] t fr):=by
 simp[World.setCell,Xc,h]
theorem qn (h:Below B w u) (hg:B<=g) (x y z v:Value):Below B w ((((u.setCell ⟨g,0,none⟩ x).setCell ⟨g,1,none⟩ y).setCell ⟨g,2,none⟩ z).setCell ⟨g,3,none⟩ v) :=
 (((h.setCell (p:=⟨g,0,none⟩) hg x).setCell (p:=⟨g,1,none⟩) hg y).setCell (p:=⟨g,2,none⟩) hg z).setCell (p:=⟨g,3,none⟩) hg v
def nbig (n:Nd):Prop:=n.keys.length*16<=140737488351232/\n.vals.length*16<=140737488351232/\n.kids.length*8<=140737488351232
theorem nbig.fit {n:Nd} (h:nbig n):jH n:=by unfold nbig at h;unfold jH;omega
theorem Zf:(Tryz.prog.info? 84).map (·.size)=some 4:=by kernel_rfl
theorem qri (w:World) (x y z v:Value) (t t':TypeId):∃ W,W=(w.alloc (.cells #[x,y,z,v] t)).alloc (.cells #[.bool false,.slice none 0 0,.slice none 0 0,.slice none 0 0] t')/\W.heap[w.heap.size]?=some (.cells #[x,y,z,v] t (0,0))/\W.heap[w.heap.size+1]?=some (.cells #[.bool false,.slice none 0 0,.slice none 0 0,.slice none 0 0] t' (0,0))/\Below w.heap.size w W/\W.heap.size=w.heap.size+2:=by
 refine⟨_,rfl,?_,?_,((xm _ _).alloc (xc _) _).alloc (by simp) _,by simp⟩
 ·rw[xR _ _ _ (by simp)];exact xy w _
 have:=xy (w.alloc (.cells #[x,y,z,v] t)) (.cells #[.bool false,.slice none 0 0,.slice none 0 0,.slice none 0 0] t');simpa using this
theorem qc4 (w:World) (x y z v:Value) (t:TypeId):∃ W,W=((w.alloc (.cells #[x,y,z,v] t)).alloc (.cells #[.bool false,.slice none 0 0,.slice none 0 0,.slice none 0 0] t)).alloc (.cells #[.bool false,.slice none 0 0,.slice none 0 0,.slice none 0 0] t)/\W.heap[w.heap.size]?=some (.cells #[x,y,z,v] t (0,0))/\
 W.heap[w.heap.size+1]?=some (.cells #[.bool false,.slice none 0 0,.slice none 0 0,.slice none 0 0] t (0,0))/\W.heap[w.heap.size+2]?=some (.cells #[.bool false,.slice none 0 0,.slice none 0 0,.slice none 0 0] t (0,0))/\Below w.heap.size w W/\W.heap.size=w.heap.size+3:=by
 obtain⟨U,hU,u1,u2,u3,u4⟩:=qri w x y z v t t;rw[<-hU];refine⟨_,rfl,?_,?_,?_,u3.alloc (by omega) _,by simp[u4]⟩
 ·rw[xR _ _ _ (by omega)];exact u1
 ·rw[xR _ _ _ (by omega)];exact u2
 have:=xy U (.cells #[.bool false,.slice none 0 0,.slice none 0 0,.slice none 0 0] t);rw[u4] at this;exact this
theorem qbr (b off n:Nat):(⟨b,off,none⟩:Addr).add n=⟨b,off+n,none⟩:=by
 by_cases h:n=0
 ·subst h;simp[Addr.add]
 simp[Addr.add,h]
theorem qmk {α : Type} {s:Shp α} {a:Option Addr} {len cap:Nat} {xs:List α} (h:RdS s w (.slice a len cap) xs) {to:Nat} (h1:q<=to) (h2:to<=len) :
 ∃ A,(if cap=q then a else Option.map (fun x=>x.add (q*s.n)) a)=A/\RdS s w (.slice A (to-q) (cap-q)) ((xs.take to).drop q):=by
 obtain⟨ao,c,e,l1,m1,n1,r1⟩:=h;simp only[xH] at e;obtain⟨rfl,rfl,rfl⟩:=e;have el:((xs.take to).drop q).length=to-q:=by simp;omega
 by_cases hc:cap=q
 ·refine⟨a,xj hc,⟨a,cap-q,by rw[el],by rw[el];omega,by omega,fun _=>by omega,.inl (xq (by rw[el];omega))⟩⟩
 refine⟨_,xh hc,⟨_,cap-q,by rw[el],by rw[el];omega,by omega,?_,?_⟩⟩
 ·intro h;cases a with
  | none=>rw[n1 rfl];simp
  | some x=>cases h
 rcases r1 with rfl|⟨b,off,rfl,hcc⟩
 ·left;simp
 right
 refine⟨b,off+q*s.n,by simp[qbr],fun i x hx=>?_⟩
 rw[XQ] at hx
 have hlt:q+i<to:=by
  rcases Nat.lt_or_ge (q+i) to with h|h
  ·exact h
  rw[XA (by simp;omega)] at hx;cases hx
 rw[xP,xj hlt] at hx;obtain⟨c,k1,k2⟩:=hcc (q+i) x hx;refine⟨c,k1,fun j u hj=>?_⟩;have:=k2 j u hj
 rw[Nat.add_mul] at this;rw[show off+q*s.n+i*s.n+j=off+(q*s.n+i*s.n)+j by omega]
 exact this
theorem Jp {α : Type} {s:Shp α} {a:Option Addr} {c:Nat} {xs:List α} (h:RdS s w (.slice a n c) xs):xs.length<=c:=by
 obtain⟨ao,c',e,l1,_⟩:=h;simp only[xH] at e;omega
theorem jo {α : Type} {s:Shp α} {a:Option Addr} {len cap:Nat} {xs:List α} (h:RdS s w (.slice a len cap) xs) (h1:q<=len):RdS s w (.slice a q cap) (xs.take q):=by
 obtain⟨ao,c,e,l1,m1,n1,r1⟩:=h;simp only[xH] at e;obtain⟨rfl,rfl,rfl⟩:=e;have el:(xs.take q).length=q:=by simp;omega
 refine⟨a,cap,by rw[el],by rw[el];omega,m1,n1,?_⟩
 rcases r1 with rfl|⟨b,off,rfl,hcc⟩
 ·left;simp
 right
 refine⟨b,off,rfl,fun i x hx=>hcc i x ?_⟩;rw[xP] at hx
 split at hx
 ·exact hx
 cases hx
theorem JW {α : Type} {s:Shp α} (hs:s.n=1) {b off:Nat} {len cap:Nat} {xs:List α} (h:RdS s w (.slice (some ⟨b,off,none⟩) len cap) xs) (h1:q<=len) (h2:¬ cap=q):RdS s w (.slice (some ⟨b,off+q,none⟩) (len-q) (cap-q)) (xs.drop q):=by
 obtain⟨A,hA,p⟩:=qmk h h1 (xc _)
 have hl:xs.length=len:=by
  obtain⟨ao,c,e,_⟩:=h;simp only[xH] at e;omega
 rw[xh h2,Option.map_some,hs,kT,qbr] at hA;subst hA;rw[xx (by omega)] at p
 exact p
theorem qhs {g':Nat} (hne:g≠g') {a b d a' b' c' d':Value} {t':TypeId} (h:u.heap[g]?=some (.cells #[a,b,c,d] t (0,0))) (h':u.heap[g']?=some (.cells #[a',b',c',d'] t' (0,0))) (hb:Below B w u) (hg:B<=g) (hg':B<=g') (x y z v x' y' z' v':Value) :
 ∃ U,U=(((((((u.setCell ⟨g,0,none⟩ x).setCell ⟨g,1,none⟩ y).setCell ⟨g,2,none⟩ z).setCell ⟨g,3,none⟩ v).setCell ⟨g',0,none⟩ x').setCell ⟨g',1,none⟩ y').setCell ⟨g',2,none⟩ z').setCell ⟨g',3,none⟩ v'/\U.heap[g]?=some (.cells #[x,y,z,v] t (0,0))/\U.heap[g']?=some (.cells #[x',y',z',v'] t' (0,0))/\Below B w U:=by
 refine⟨_,rfl,?_,qu (a:=a') (b:=b') (c:=c') (d:=d') ?_ _ _ _ _,qn (qn hb hg _ _ _ _) hg' _ _ _ _⟩
 ·rw[xd _ _ _ _ hne,xd _ _ _ _ hne,xd _ _ _ _ hne,xd _ _ _ _ hne];exact qu h _ _ _ _
 rw[xd _ _ _ _ hne.symm,xd _ _ _ _ hne.symm,xd _ _ _ _ hne.symm,xd _ _ _ _ hne.symm];exact h'
theorem zU:(Tryz.prog.info? 206).map (·.size)=some 4:=by kernel_rfl
def JP:List Str->Int
 | []=>0
 | x::r=>1+(x.length:Int)+JP r
def jG:List Str->Int
 | []=>0
 | x::r=>(x.length:Int)+jG r
theorem qfc:∀ a b:List Str,JP (a++b)=JP a+JP b
 | [],b=>by simp[JP]
 | x::r,b=>by simp only[xD,JP,qfc r b];omega
theorem qeb:∀ a b:List Str,jG (a++b)=jG a+jG b
 | [],b=>by simp[jG]
 | x::r,b=>by simp only[xD,jG,qeb r b];omega
theorem qbx {l:List Str} {x:Str} (h:l[k]?=some x):JP (l.take (k+1))=JP (l.take k)+(1+(x.length:Int)):=by
 rw[Xf,h,qfc];simp[JP]
theorem vn {l:List Str} {x:Str} (h:l[k]?=some x):jG (l.take (k+1))=jG (l.take k)+(x.length:Int):=by
 rw[Xf,h,qeb];simp[jG]
theorem qdy (n:Nd):∀ k,k<=n.keys.length->nsz n k=2+JP (n.keys.take k)+if n.leaf then(k:Int)+jG (n.vals.take k) else 0
 | 0,_=>by simp[nsz,JP,jG]
 | k+1,hk=>by
  obtain⟨x,hx⟩:=qz n.keys (k:=k) (by omega)
  rw[nsz,qdy n k (by omega),qbx hx,hx]
  simp only[xM]
  split
  ·by_cases hv:k<n.vals.length
   ·obtain⟨y,hy⟩:=qz n.vals hv;rw[vn hy,hy];simp only[xM];omega
   rw[XA (by omega),xx (l:=n.vals) (i:=k) (by omega),xx (l:=n.vals) (i:=k+1) (by omega)]
   simp only[Option.getD_none,xX];omega
  omega
theorem zT (w:World) (kv vv dv:Value) (n:Nd) (h:RdN w kv vv dv n) :
 Calls Tryz.prog 87 #[nv n kv vv dv] w fun e w'=>e=.returned (.int .i64 (wrap64 (qp n)))/\Below w.heap.size w w':=by
 have lk:=h.keys.bd
 have lv:=h.vals.bd
 have ld:=h.kids.bd
 obtain⟨R,hR⟩:∃ R,R=wrap64 (qp n):=⟨_,rfl⟩;rw[<-hR];obtain⟨a,c,a',c',a'',c'',rfl,rfl,rfl⟩:=h.slices;obtain⟨leaf,keys,vals,kids⟩:=n;dsimp only[nv] at *;obtain⟨W,hW,D,bW,sW⟩:=qf w #[.bool leaf,.slice a keys.length c,.slice a' vals.length c',.slice a'' kids.length c''] 84;replace h:=h.to bW;have HK:=qa h.keys
 have HV:=qa h.vals
 dsimp only at HK HV;have HB:=qa bW
 obtain⟨⟨D0,D1,D2,D3⟩,_⟩:=qb D;have HD:=qa (xb D0 (xb D1 (xb D2 D3)))
 replace hR:=qa hR;clear h bW D;rw[hW] at D0 D1 D2 D3;go_enter Tryz.func87,Tryz.ntmps87;go_wp2;rw[<-hW];replace hW:=qa hW;clear D0 D1 D2 D3
 go_loopw [3,11] (fun p i wr=>∃ k:Nat,k<=keys.length/\i=.int .i64 k/\p=.int .i64 (wrap64 (2+JP (keys.take k)))/\wr=W) (fun _ i _=>keys.length-(intOf i).toNat)
 case atStart=>exact⟨0,xt _,rfl,by simp[JP,wrap64],rfl⟩
 case round =>
 obtain⟨k,hk,rfl,rfl,rfl⟩:=hrel;by_cases hlt:k<keys.length
 ·have hq:(k:Int)<(keys.length:Int):=by omega
  obtain⟨x,hx⟩:=qz keys hlt;obtain⟨b,off,rfl,hc1⟩:=HK.out.strAt hx;have t1:=qa (qbx hx)
  replace hx:=qa hx;generalize JP (keys.take k)=Z at *;go_wp2;go_roundw
  case rel=>exact⟨k+1,by omega,by go_num,by rw[t1.out];simp only[ZN,jy];congr 2;omega,trivial⟩
  case measure=>simp[intOf];omega
 have hq:¬ (k:Int)<(keys.length:Int):=by omega
 obtain rfl:k=keys.length:=by omega
 rw[Kg];obtain⟨D0,D1,D2,D3⟩:=HD.out;cases leaf with
 | false =>
  have hr:Hid (wrap64 (wrap64 (2+JP keys)+wrap64 (4*(kids.length:Int)))=R):=by
   show _=_
   rw[hR.out,ZN,jy,qp,qdy _ _ (xc _)];dsimp only;rw[Kg,xh (by decide),xh (by decide)]
   congr 1;omega
  generalize JP keys=Z at *;go_wp2;go_ret;exact⟨qo hr.out,HB.out⟩
 | true =>
  obtain⟨m,hm⟩:∃ m:Nat,m=min vals.length keys.length:=⟨_,rfl⟩;have hm1:m<=vals.length:=by omega
  have hmc:m<=c':=by have:=Jp HV.out;omega
  have hmI:min (vals.length:Int) (keys.length:Int)=(m:Int):=by omega
  have hr:Hid (∀ S:Int,S=jG (vals.take m)->wrap64 (2+JP keys+(keys.length:Int)+S)=R):=by
   intro S hS;rw[hR.out,qp,qdy _ _ (xc _)];dsimp only;rw[Kg,xj rfl,xj rfl,hS]
   have:vals.take m=vals.take keys.length:=by
    by_cases q:vals.length<=keys.length
    ·rw[xx (by omega),xx (by omega)]
    congr 1;omega
   rw[this]
   congr 1;omega
  replace hm:=qa hm;generalize JP keys=Z at *;go_wp2
  ·clear D0 D1 D2 D3;have hM:Hid (keys.length=m):=by show _=_;have:=hm.out;omega
   go_loopw [3,47] (fun p i wx=>∃ k:Nat,k<=keys.length/\i=.int .i64 k/\p=.int .i64 (wrap64 (2+Z+(keys.length:Int)+jG (vals.take k)))/\wx=wr) (fun _ i _=>keys.length-(intOf i).toNat)
   case atStart=>exact⟨0,xt _,rfl,by simp only[jG,List.take_zero,ZN,jy];congr 2;omega,rfl⟩
   case round =>
   obtain⟨k,hk,rfl,rfl,rfl⟩:=hrel;by_cases hlt:k<keys.length
   ·have hq:(k:Int)<(keys.length:Int):=by omega
    obtain⟨x,hx⟩:=qz vals (k:=k) (by have:=hM.out;omega)
    obtain⟨b,off,rfl,hc1⟩:=HV.out.strAt hx;have t1:=qa (vn hx)
    replace hx:=qa hx;generalize jG (vals.take k)=Y at *;go_wp2;go_roundw
    case rel=>exact⟨k+1,by omega,by go_num,by rw[t1.out];simp only[ZN,jy];congr 2;omega,trivial⟩
    case measure=>simp[intOf];omega
   have hq:¬ (k:Int)<(keys.length:Int):=by omega
   have e2:=qa (hr.out (jG (vals.take k)) (by rw[show k=m by have:=hM.out;omega]))
   generalize jG (vals.take k)=Y at *;go_wp2;go_ret;exact⟨qo e2.out,HB.out⟩
  clear D0 D1 D2 D3;have hM:Hid (vals.length=m):=by show _=_;have:=hm.out;omega
  go_loopw [3,47] (fun p i wx=>∃ k:Nat,k<=vals.length/\i=.int .i64 k/\p=.int .i64 (wrap64 (2+Z+(keys.length:Int)+jG (vals.take k)))/\wx=wr) (fun _ i _=>vals.length-(intOf i).toNat)
  case atStart=>exact⟨0,xt _,rfl,by simp only[jG,List.take_zero,ZN,jy];congr 2;omega,rfl⟩
  case round =>
  obtain⟨k,hk,rfl,rfl,rfl⟩:=hrel;by_cases hlt:k<vals.length
  ·have hq:(k:Int)<(vals.length:Int):=by omega
   obtain⟨x,hx⟩:=qz vals (k:=k) (by have:=hM.out;omega)
   obtain⟨b,off,rfl,hc1⟩:=HV.out.strAt hx;have t1:=qa (vn hx)
   replace hx:=qa hx;generalize jG (vals.take k)=Y at *;go_wp2;go_roundw
   case rel=>exact⟨k+1,by omega,by go_num,by rw[t1.out];simp only[ZN,jy];congr 2;omega,trivial⟩
   case measure=>simp[intOf];omega
  have hq:¬ (k:Int)<(vals.length:Int):=by omega
  have e2:=qa (hr.out (jG (vals.take k)) (by rw[show k=m by have:=hM.out;omega]))
  generalize jG (vals.take k)=Y at *;go_wp2;go_ret;exact⟨qo e2.out,HB.out⟩
theorem qkn (n:Nd):qE n=if QZ n n.keys.length then if qP n then if ¬ zl n n.vals.length then 5 else if ¬ zB n n.kids.length then 4 else if 244<qp n then 51 else 0 else 3 else 91:=by
 unfold qE;by_cases h1:QZ n n.keys.length<;>by_cases h2:qP n<;>by_cases h3:zl n n.vals.length<;>by_cases h4:zB n n.kids.length<;>simp[h1,h2,h3,h4]
theorem J7 (w:World) (kv vv dv:Value) (n:Nd) (h:RdN w kv vv dv n) (hf:jH n) :
 Calls Tryz.prog 78 #[nv n kv vv dv] w fun e w'=>e=.returned (.int .i64 (qE n))/\Below w.heap.size w w':=by
 obtain⟨W,hW,D,bW,sW⟩:=qf w #[.bool n.leaf,kv,vv,dv] 84;replace h:=h.to bW;have KA:=qa (qkf W kv n h.keys)
 have KB:=qa (qe8 W kv vv dv n h)
 have KC:=qa (fun w1 (b:Below W.heap.size W w1)=>qj6 w1 vv n (h.to b).vals)
 have KD:=qa (fun w1 (b:Below W.heap.size W w1)=>qk0 w1 dv n (h.to b).kids)
 have KE:=qa (fun w1 (b:Below W.heap.size W w1)=>zT w1 kv vv dv n (h.to b))
 have hz:Hid (QZ n n.keys.length->qP n->zl n n.vals.length->wrap64 (qp n)=qp n):=fun h1 h2 h3=>by
  have:=VP hf h1 h2 h3
  exact kQ _ (by omega)
 have hR:=qa (qkn n)
 obtain⟨D4,_⟩:=qb D
 have HD:Hid (∀ w1,Below W.heap.size W w1->w1.cell? ⟨w.heap.size,0,none⟩=some (.bool n.leaf)/\w1.cell? ⟨w.heap.size,1,none⟩=some kv/\w1.cell? ⟨w.heap.size,2,none⟩=some vv/\w1.cell? ⟨w.heap.size,3,none⟩=some dv):=fun w1 b =>
  ⟨(b.cell (p:=⟨w.heap.size,0,none⟩) (qe D4.1)).trans D4.1,(b.cell (p:=⟨w.heap.size,1,none⟩) (qe D4.2.1)).trans D4.2.1,(b.cell (p:=⟨w.heap.size,2,none⟩) (qe D4.2.2.1)).trans D4.2.2.1,(b.cell (p:=⟨w.heap.size,3,none⟩) (qe D4.2.2.2)).trans D4.2.2.2⟩
 have HE:Hid (∀ w1,Below W.heap.size W w1->Below w.heap.size w w1):=fun w1 b=>bW.trans (b.mono bW.size)
 obtain⟨D0,D1,D2,D3⟩:=D4;obtain⟨a,c,a',c',a'',c'',rfl,rfl,rfl⟩:=h.slices;dsimp only[nv] at *;generalize n.keys.length=lk at *;generalize n.vals.length=lv at *;generalize n.kids.length=ld at *;generalize n.leaf=leaf at *;clear h bW D hf;rw[hW] at D0 D1 D2 D3;go_enter Tryz.func78,Tryz.ntmps78
 go_wp2_with fail
 rw[<-hW];replace hW:=qa hW;clear D0 D1 D2 D3;refine KA.out.mono ?_;rintro e w1 ⟨rfl,rfl⟩;clear KA;obtain⟨D0,D1,D2,D3⟩:=HD.out W (xm _ _);by_cases c1:QZ n lk
 ·rw[xv c1];replace c1:=qa c1
  go_wp2_with fail
  clear D0 D1 D2 D3;refine KB.out.mono ?_;rintro e w1 ⟨rfl,b1⟩;obtain⟨D0,D1,D2,D3⟩:=HD.out w1 b1;replace b1:=qa b1;clear KB;by_cases c2:qP n
  ·rw[xv c2];replace c2:=qa c2
   go_wp2_with fail
   refine(KC.out _ b1.out).mono ?_;rintro e w2 ⟨rfl,rfl⟩;clear KC;by_cases c3:zl n lv
   ·rw[xw (not_not_intro c3)];replace c3:=qa c3
    go_wp2_with fail
    refine(KD.out _ b1.out).mono ?_;rintro e w2 ⟨rfl,rfl⟩;clear KD;by_cases c4:zB n ld
    ·rw[xw (not_not_intro c4)];replace c4:=qa c4
     go_wp2_with fail
     refine(KE.out _ b1.out).mono ?_;rintro e w2 ⟨rfl,b2⟩;replace b2:=qa b2;clear KE D0 D1 D2 D3;rw[hz.out c1.out c2.out c3.out];have r:=hR.out
     rw[xj c1.out,xj c2.out,xh (not_not_intro c3.out),xh (not_not_intro c4.out)] at r;replace r:=qa r;have bb:=qa (HE.out _ (b1.out.trans (b2.out.mono b1.out.size)))
     generalize qp n=Z at *;by_cases c5:244<Z
     ·go_wp2;go_ret;exact⟨qo (by rw[r.out,xj c5]),bb.out⟩
     go_wp2;go_ret;exact⟨qo (by rw[r.out,xh (by omega)]),bb.out⟩
    rw[xv c4];have r:Hid (qE n=4):=by show _=_;rw[hR.out,xj c1.out,xj c2.out,xh (not_not_intro c3.out),xj c4]
    replace c4:=qa c4;go_wp2;go_ret;exact⟨qo r.out.symm,HE.out _ b1.out⟩
   rw[xv c3];have r:Hid (qE n=5):=by show _=_;rw[hR.out,xj c1.out,xj c2.out,xj c3]
   replace c3:=qa c3;go_wp2;go_ret;exact⟨qo r.out.symm,HE.out _ b1.out⟩
  rw[xw c2];have r:Hid (qE n=3):=by show _=_;rw[hR.out,xj c1.out,xh c2]
  replace c2:=qa c2;go_wp2;go_ret;exact⟨qo r.out.symm,HE.out _ b1.out⟩
 rw[xw c1];have r:Hid (qE n=91):=by show _=_;rw[hR.out,xh c1]
 replace c1:=qa c1;go_wp2;go_ret;exact⟨qo r.out.symm,HE.out _ (xm _ _)⟩
theorem jV (k:Nat):oc k 1=[UInt8.ofNat k]:=by simp[oc,ob,List.range_succ]
theorem yD (z:Int):oc z.toNat 4=n4 z:=by simp[oc,ob,n4,List.range_succ]
theorem qdc (x:Str):Lib.strCells ⟨x.toArray⟩=x.map enc:=by
 unfold Lib.strCells enc;rfl
theorem yg (w:World) (B:Nat) (v:Value) (xs:List UInt8) (n s:Nat) (ho:OwnB B w v xs) (hB:B<=w.heap.size) (h1:1<=s) (h8:s<=8) (hn:n<2^(8*s)) (h63:n<9223372036854775808) (hl:xs.length<=1000000) :
 Calls Tryz.prog 88 #[v,.int .i64 (n:Int),.int .i64 (s:Int)] w fun e w'=>∃ v',e=.returned v'/\OwnB B w' v' (xs++oc n s)/\Below B w w':=by
 have KK:=qa (ZQ n s w h1 h8 hn (by omega))
 have hw:IntKind.u64.wrap (n:Int)=(n:Int):=by unfold IntKind.wrap;simp[IntKind.bits,IntKind.signed];omega
 obtain⟨a,c,hv⟩:=ho.rd.slice;have HO:=qa ho
 have hlo:=qa (qv n s)
 clear ho;subst hv;go_enter Tryz.func88,Tryz.ntmps88
 go_wp2_with fail
 refine KK.out.mono ?_;rintro e w1 ⟨v1,rfl,o1,b1⟩;obtain⟨a1,c1,rfl⟩:=o1.rd.slice;rw[hlo.out];rw[hlo.out] at o1;have o2:=HO.out.below (xc _) b1
 have r1:=o1.rd
 have hsz:B<=w1.heap.size:=xi hB b1.size
 have hL:xs.length+(oc n s).length<=140737488355328:=by rw[hlo.out];omega
 have bb:=qa (b1.mono hB)
 clear o1 b1 KK
 go_wp2_with (at_builtin;refine qx rfl _ _ rfl B _ _ _ _ rfl rfl o2 r1 hL hsz ?_;intro v6 w6 o6 b6 _)
 go_ret;exact⟨_,rfl,o6,bb.out.trans b6⟩
theorem Y8 (w:World) (B:Nat) (v:Value) (xs:List UInt8) (x:Str) (ho:OwnB B w v xs) (hB:B<=w.heap.size) (hx:x.length<=255) (hl:xs.length<=1000000) :
 Calls Tryz.prog 89 #[v,st x] w fun e w'=>∃ v',e=.returned v'/\OwnB B w' v' (xs++[UInt8.ofNat x.length]++x)/\Below B w w':=by
 have KK:=qa (yg w B v xs x.length 1 ho hB (by decide) (by decide) (by omega) (by omega) hl)
 obtain⟨a,c,hv⟩:=ho.rd.slice;obtain⟨i0,hi,hz0,hz1,hz2⟩:=Xh YD;clear ho;subst hv;go_enter Tryz.func89,Tryz.ntmps89
 go_wp2_with fail
 refine KK.out.mono ?_;rintro e w1 ⟨v1,rfl,o1,b1⟩;clear KK;rw[jV] at o1;obtain⟨a1,c1,rfl⟩:=o1.rd.slice;have hsz:B<=w1.heap.size:=xi hB b1.size
 have BB:=qa b1
 have hL1:(xs++[UInt8.ofNat x.length]).length+(ByteArray.mk x.toArray).size<=maxLen:=by rw[qdw,show maxLen=9223372036854775807 from rfl];simp;omega
 have hL2:(xs++[UInt8.ofNat x.length]).length+(ByteArray.mk x.toArray).size<=140737488355328:=by rw[qdw];simp;omega
 have fr:=qa o1.from
 generalize hX:xs++[UInt8.ofNat x.length]=X at *;replace hX:=qa hX;clear b1
 go_wp2_with (at_builtin;(refine Lib.wpList_append_own_string _ rfl _ _ 52 9 rfl B 5 i0 xW Kw hi hz0 hz1 hz2 _ _ _ rfl o1 _ rfl hL1 hL2 hsz ?_;intro v6 w6 o6 g6 _))
 go_ret;refine⟨_,rfl,?_,BB.out.trans ((xm _ _).grown g6 hsz fr.out)⟩;rw[qdc,qdw] at o6;rw[hX.out];unfold OwnB
 simpa using o6
structure Rr where
 rest:List UInt8
 short:Bool
def rtk (s:Nat) (r:Rr):List UInt8:=if r.rest.length<s then [] else r.rest.take s
def rst (s:Nat) (r:Rr):Rr:=if r.rest.length<s then⟨r.rest,true⟩ else⟨r.rest.drop s,r.short⟩
def qQ (s:Nat) (r:Rr):Nat:=Qg (rtk s r)
def rtx (r:Rr):Str:=rtk (qQ 1 r) (rst 1 r)
def rts (r:Rr):Rr:=rst (qQ 1 r) (rst 1 r)
theorem qh8 (s:Nat) (r:Rr):(rtk s r).length<=s:=by unfold rtk;split<;>simp<;>omega
theorem yB (s:Nat) (r:Rr):qQ s r<2^(8*s):=by
 unfold qQ Qg;refine xV (YI _ _) (km (by decide) ?_)
 have:=qh8 s r
 omega
def KpG (g:Nat) (w U:World):Prop:=(∀ b,b<w.heap.size->b≠g->U.heap[b]?=w.heap[b]?)/\w.heap.size<=U.heap.size/\∀ B,B<=g->B<=w.heap.size->Below B w U
theorem KpG.of (h:Below w.heap.size w U):KpG g w U:=⟨fun b hb _=>h.block b hb,h.size,fun B _ hB=>h.mono hB⟩
theorem KpG.refl (g:Nat) (w:World):KpG g w w:=KpG.of (xm _ _)
theorem KpG.trans {V:World} (h:KpG g w U) (k:KpG g U V):KpG g w V :=
 ⟨fun b hb hn=>(k.1 b (xV hb h.2.1) hn).trans (h.1 b hb hn),xi h.2.1 k.2.1,fun B hB hw=>(h.2.2 B hB hw).trans (k.2.2 B hB (xi hw h.2.1))⟩
theorem KpG.set (h:KpG g w U) (i:Nat) (v:Value):KpG g w (U.setCell ⟨g,i,none⟩ v) :=
 ⟨fun b hb hn=>(xd _ _ _ _ hn).trans (h.1 b hb hn),by simpa using h.2.1,fun B hB hw=>(h.2.2 B hB hw).setCell (p:=⟨g,i,none⟩) hB v⟩
theorem KpG.row (h:KpG g w U) (ho:w.ownsRow B T n v m cc) (hg:g<B):U.ownsRow B T n v m cc:=by
 rcases ho with ⟨h1,h2|⟨k,cap,cur,hv,hB,hk,hr⟩⟩
 ·exact⟨h1,.inl h2⟩
 refine⟨h1,.inr ⟨k,cap,cur,hv,hB,?_,hr⟩⟩;rw[h.1 k (xa hk) (by omega)];exact hk
theorem JE {a b:Value} {fr:Nat×Nat} (h:u.heap[g]?=some (.cells #[a,b] t fr)) (x:Value):(u.setCell ⟨g,0,none⟩ x).heap[g]?=some (.cells #[x,b] t fr)/\(u.setCell ⟨g,1,none⟩ x).heap[g]?=some (.cells #[a,x] t fr):=by
 constructor<;>simp[World.setCell,Xc,h]
theorem qc5 (w:World):Rd w (.slice none 0 0) []:=⟨none,0,rfl,xc _,xt _,fun _=>rfl,.inl rfl⟩
theorem Qc {a b:Value} (h:w.heap[g]?=some (.cells #[a,b] t (0,0))):(w.cell? ⟨g,0,none⟩=some a/\w.cell? ⟨g,1,none⟩=some b)/\∀ i,w.frozen? ⟨g,i,none⟩=false:=by
 refine⟨⟨?_,?_⟩,fun i=>?_⟩
 ·rw[Xi _ _ 0 _ _ (0,0) h];rfl
 ·rw[Xi _ _ 1 _ _ (0,0) h];rfl
 simp[World.frozen?,h]
theorem qnj {a:Option Addr} {len cap:Nat} (h:Rd w (.slice a len cap) xs) (hn:n<=len):Rd w (.slice a n cap) (xs.take n):=by
 obtain⟨ao,c,e,l1,m1,n1,r1⟩:=h;simp only[xH] at e;obtain⟨rfl,rfl,rfl⟩:=e;have el:(xs.take n).length=n:=by simp;omega
 refine⟨a,cap,by rw[el],by rw[el];omega,m1,n1,?_⟩
 rcases r1 with rfl|⟨b,off,rfl,hc⟩
 ·left;simp
 right
 refine⟨b,off,rfl,fun i hi=>?_⟩;rw[el] at hi;rw[hc i (by omega)]
 simp only[bt]
 congr 3
 simp only[xe,xP];rw[xj hi]
theorem Yd {a:Option Addr} {c:Nat} (h:Rd w (.slice a xs.length c) xs):(convert 52 9 (.slice a xs.length c)).run Tryz.prog w=.ok (.string ⟨xs.toArray⟩) w:=by
 by_cases h0:0<xs.length
 ·exact Yi h h0
 have:xs=[]:=xq (by omega)
 subst this;show (convert 52 9 (.slice a 0 c)).run Tryz.prog w=_
 rw[run_convert_bytes_string (P:=Tryz.prog) w 52 9 5 a 0 c xW Tryz.underlying5 Kw];cases a<;>simp[Conv.bytesToString,loadCells]
 all_goals rfl
def QU:Nat->Rr->Nd->Nd×Rr
 | 0,r,n=>(n,r)
 | k+1,r,n=>QU k (rts (rts r)) ⟨n.leaf,n.keys++[rtx r],n.vals++[rtx (rts r)],n.kids⟩
def zj:Nat->Rr->Nd->Nd×Rr
 | 0,r,n=>(⟨n.leaf,n.keys,n.vals,n.kids++[((qQ 4 r:Nat):Int)]⟩,rst 4 r)
 | k+1,r,n=>zj k (rts (rst 4 r)) ⟨n.leaf,n.keys++[rtx (rst 4 r)],n.vals,n.kids++[((qQ 4 r:Nat):Int)]⟩
def zV (p:Nd×Rr):Nd×Int:=if p.2.short then(Qw,8) else if 0<p.2.rest.length then(Qw,23) else(p.1,0)
def qW (xs:List UInt8):Nd×Int :=
 let r0:Rr:=⟨xs,false⟩
 let r2:=rst 1 (rst 1 r0)
 if r2.short then(Qw,8) else if qQ 1 r0=1 then zV (QU (qQ 1 (rst 1 r0)) r2 ⟨true,[],[],[]⟩) else if qQ 1 r0=0 then zV (zj (qQ 1 (rst 1 r0)) r2 ⟨false,[],[],[]⟩) else(Qw,22)
def QJ (xs:List UInt8):Nd×Int:=if(qW xs).2=0 then if qE (qW xs).1=0 then qW xs else(Qw,qE (qW xs).1) else(Qw,(qW xs).2)
theorem zR (h:(rst 1 (rst 1 ⟨xs,false⟩)).short=true):qW xs=(Qw,8):=by
 unfold qW;simp only[h,kS]
theorem Jv (h:(rst 1 (rst 1 ⟨xs,false⟩)).short=false) (h1:qQ 1 ⟨xs,false⟩=1):qW xs=zV (QU (qQ 1 (rst 1 ⟨xs,false⟩)) (rst 1 (rst 1 ⟨xs,false⟩)) ⟨true,[],[],[]⟩):=by
 unfold qW;simp only[h,h1,kS,xI,XJ]
theorem jO (h:(rst 1 (rst 1 ⟨xs,false⟩)).short=false) (h1:qQ 1 ⟨xs,false⟩=0):qW xs=zV (zj (qQ 1 (rst 1 ⟨xs,false⟩)) (rst 1 (rst 1 ⟨xs,false⟩)) ⟨false,[],[],[]⟩):=by
 unfold qW;simp only[h,h1,kS,xI,XJ];simp
theorem Yb (h:(rst 1 (rst 1 ⟨xs,false⟩)).short=false) (h1:¬ qQ 1 ⟨xs,false⟩=1) (h0:¬ qQ 1 ⟨xs,false⟩=0):qW xs=(Qw,22):=by
 unfold qW;simp only[h,xI,XJ];rw[xh h1,xh h0]
theorem yV (n:Nd):∀ k:Nat,((zD n++Qd n k).length:Int)=nsz n k+if n.leaf then 0 else 4*((k:Int)+1)
 | 0=>by
  unfold zD Qd nsz;cases n.leaf<;>simp[n4]
 | k+1=>by
  have:=yV n k
  simp only[Qd,nsz,qcm,xk] at this |-;unfold Qy;cases hl:n.leaf
  ·simp[hl,n4] at this |-;omega
  simp[hl] at this |-;omega
theorem qor {n:Nd} (h:NOk n):((QN n).length:Int)=qp n:=by
 unfold QN qp;rw[yV];have h2:=h.2.1
 unfold qP at h2;cases hl:n.leaf
 ·rw[hl,xh (by decide)] at h2
  simp;omega
 simp
theorem NOk.few {n:Nd} (h:NOk n):n.keys.length<=242:=by
 have h1:=y6 n n.keys.length
 have h2:=h.2.2.2.2
 unfold qp at h2
 split at h2<;>omega
theorem NOk.val {n:Nd} (h:NOk n) (k:Nat):(n.vals[k]?.getD []).length<=64:=by
 by_cases hk:k<n.vals.length
 ·exact h.2.2.1 k hk
 rw[XA (by omega)];simp
theorem NOk.key {n:Nd} (h:NOk n) (k:Nat):(Qy n k).length<=32:=by
 by_cases hk:k<n.keys.length
 ·exact(h.1 k hk).2.1
 unfold Qy;rw[XA (by omega)];simp
theorem NOk.len {n:Nd} (h:NOk n) (hk:k<=n.keys.length):(zD n++Qd n k).length<=500000:=by
 have h0:=yV n k
 have h1:=qga n n.keys.length (fun k _=>h.key k) (fun _ k _=>h.val k) k hk
 have h2:=h.few
 split at h0<;>omega
theorem NOk.size {n:Nd} (h:NOk n):2<=qp n/\qp n<=244:=by
 refine⟨?_,h.2.2.2.2⟩;have h1:=y6 n n.keys.length
 unfold qp
 split<;>omega
theorem qg0 {a b d:Value} (h1:a=c) (h2:b=d):Ending.returned (.tuple #[a,b])=.returned (.tuple #[c,d]):=by rw[h1,h2]
def qhx (n:Nd):List UInt8:=if qE n=0 then QN n else []
theorem qfe (w:World) (kv vv dv:Value) (n:Nd) (h:RdN w kv vv dv n) (hf:jH n) :
 Calls Tryz.prog 61 #[nv n kv vv dv] w fun e w'=>∃ v',e=.returned (.tuple #[v',.int .i64 (qE n)])/\OwnB w.heap.size w' v' (qhx n)/\Below w.heap.size w w':=by
 have lk:=h.keys.bd
 have lv:=h.vals.bd
 have ld:=h.kids.bd
 obtain⟨W,hW,D,bW,sW⟩:=qf w #[.bool n.leaf,kv,vv,dv] 84;replace h:=h.to bW;have KC:=qa (J7 W kv vv dv n h hf)
 have KE:=qa (fun w1 (b:Below W.heap.size W w1)=>zT w1 kv vv dv n (h.to b))
 have HN:=qa (fun w1 (b:Below W.heap.size W w1)=>h.to b)
 obtain⟨D4,_⟩:=qb D
 have HD:Hid (∀ w1,Below W.heap.size W w1->w1.cell? ⟨w.heap.size,0,none⟩=some (.bool n.leaf)/\w1.cell? ⟨w.heap.size,1,none⟩=some kv/\w1.cell? ⟨w.heap.size,2,none⟩=some vv/\w1.cell? ⟨w.heap.size,3,none⟩=some dv):=fun w1 b =>
  ⟨(b.cell (p:=⟨w.heap.size,0,none⟩) (qe D4.1)).trans D4.1,(b.cell (p:=⟨w.heap.size,1,none⟩) (qe D4.2.1)).trans D4.2.1,(b.cell (p:=⟨w.heap.size,2,none⟩) (qe D4.2.2.1)).trans D4.2.2.1,(b.cell (p:=⟨w.heap.size,3,none⟩) (qe D4.2.2.2)).trans D4.2.2.2⟩
 have HE:Hid (∀ w1,Below W.heap.size W w1->Below w.heap.size w w1):=fun w1 b=>bW.trans (b.mono bW.size)
 obtain⟨D0,D1,D2,D3⟩:=D4;obtain⟨a,c,a',c',a'',c'',rfl,rfl,rfl⟩:=h.slices;obtain⟨i0,hi,hz0,hz1,hz2⟩:=Xh YD;dsimp only[nv] at *;clear h bW D hf;rw[hW] at D0 D1 D2 D3;generalize hlK:n.keys.length=lK at *;generalize hlV:n.vals.length=lV at *;generalize hlD:n.kids.length=lD at *;generalize hleaf:n.leaf=leaf at *;replace hlK:=qa hlK;replace hlV:=qa hlV;replace hlD:=qa hlD;replace hleaf:=qa hleaf;go_enter Tryz.func61,Tryz.ntmps61
 go_wp2_with fail
 rw[<-hW];replace hW:=qa hW;clear D0 D1 D2 D3;refine KC.out.mono ?_;rintro e w1 ⟨rfl,b1⟩;clear KC;by_cases hz:qE n=0
 ·have hok:=qa ((ze n).1 hz)
  have ho:Hid (qhx n=QN n):=xj hz
  have hzz:=qa hz
  rw[hz];clear hz;obtain⟨D0,D1,D2,D3⟩:=HD.out w1 b1;have B1:=qa b1
  clear b1
  go_wp2_with fail
  clear D0 D1 D2 D3;refine(KE.out w1 B1.out).mono ?_;rintro e w2 ⟨rfl,b2⟩;clear KE;have hs:=hok.out.size
  rw[kQ _ (by omega)]
  obtain⟨S,hS⟩:∃ S:Nat,qp n=(S:Int):=⟨(qp n).toNat,by omega⟩
  rw[hS] at hs |-;have b3:Below W.heap.size W w2:=B1.out.trans (b2.mono B1.out.size)
  obtain⟨D0,D1,D2,D3⟩:=HD.out w2 b3;have B3:=qa b3
  clear b2 B1 b3;obtain⟨w3,hmk,own3,gr3⟩:=run_make_own (P:=Tryz.prog) w2 w2.heap.size 52 5 i0 (.int .u8 0) 1 xW hi hz0 hz1 .i64 .i64 S (by rw[hz2];omega) (by unfold maxLen;omega) (xc _)
  have b3:Below w2.heap.size w2 w3:=(xm _ _).grown gr3 (xc _) (fun k h=>by cases h)
  have O3:Hid (OwnB w2.heap.size w3 (.slice (some ⟨w2.heap.size,0,none⟩) 0 S) []):=own3
  have s3:=b3.size
  have B4:=qa b3
  have B5:=qa (B3.out.trans (b3.mono B3.out.size))
  obtain⟨E0,E1,E2,E3⟩:=HD.out w3 B5.out;have hf2:=hok.out.few
  rw[hlK.out] at hf2;have hcn:=hok.out.2.1
  unfold qP at hcn;rw[hlK.out,hlV.out,hlD.out,hleaf.out] at hcn;have HL:Hid (∀ w9,Below w2.heap.size w2 w9->Below W.heap.size W w9):=fun w9 b=>B3.out.trans (b.mono B3.out.size)
  clear own3 gr3 b3 D0 D1 D2 D3;cases leaf with
  | true =>
   rw[xj rfl] at hcn;obtain⟨hc1,hc2⟩:=hcn;replace hc2:=qa hc2;replace hc1:=qa hc1;have rl:Rd (w3.alloc (.cells #[.int .u8 1] 5)) (.slice (some ⟨w3.heap.size,0,none⟩) 1 1) [1]:=qlq w3 [1] #[.int .u8 1] w3.heap.size 1 rfl rfl rfl (by decide)
   have bX:Below w2.heap.size w2 (w3.alloc (.cells #[.int .u8 1] 5)):=B4.out.alloc s3 _
   have oX:OwnB w2.heap.size (w3.alloc (.cells #[.int .u8 1] 5)) (.slice (some ⟨w2.heap.size,0,none⟩) 0 S) []:=O3.out.below (xc _) ((xm _ _).alloc (xc _) _)
   have hLX:([]:List UInt8).length+([1]:List UInt8).length<=140737488355328:=by simp
   have hsX:=bX.size
   have BX:=qa bX
   clear bX
   go_wp2_with (at_builtin;refine qx rfl _ _ rfl w2.heap.size _ _ _ _ rfl rfl oX rl hLX hsX ?_;intro v6 w6 o6 b6 _;have B6:=qa (BX.out.trans b6);obtain⟨F0,F1,F2,F3⟩:=HD.out w6 (HL.out _ B6.out))
   clear oX rl E0 E1 E2 E3 F0 F1 F2 F3 hLX;have KN:=qa (yg w6 w2.heap.size v6 [1] lK 1 o6 B6.out.size (by decide) (by decide) (by omega) (by omega) (by simp))
   clear o6 b6;refine KN.out.mono ?_;rintro e w7 ⟨v7,rfl,o7,b7⟩;clear KN;have B7:=qa (B6.out.trans b7)
   obtain⟨F0,F1,F2,F3⟩:=HD.out w7 (HL.out _ B7.out)
   have O7:Hid (OwnB w2.heap.size w7 v7 (zD n++Qd n 0)/\Below w2.heap.size w2 w7):=⟨by
    have e:zD n++Qd n 0=[1]++oc lK 1:=by unfold zD Qd;rw[hleaf.out,hlK.out,jV];simp
    rw[e];exact o7,B7.out⟩
   clear o7 b7 B7;go_wp2;clear F0 F1 F2 F3
   go_loopw [5,31] (fun v i wr=>∃ k:Nat,k<=lK/\i=.int .i64 k/\Hid (OwnB w2.heap.size wr v (zD n++Qd n k)/\Below w2.heap.size w2 wr)) (fun _ i _=>lK-(intOf i).toNat)
   case atStart=>exact⟨0,xt _,rfl,O7⟩
   case round =>
   obtain⟨k,hk,rfl,hI⟩:=hrel;clear O7;by_cases hlt:k<lK
   ·have hq:(k:Int)<(lK:Int):=by omega
    have hqv:(k:Int)<(lV:Int):=by have:=hc1.out;omega
    obtain⟨x,hx⟩:=qz n.keys (k:=k) (by rw[hlK.out];exact hlt)
    obtain⟨y,hy⟩:=qz n.vals (k:=k) (by rw[hlV.out,hc1.out];exact hlt)
    have R2:=HN.out w2 B3.out
    obtain⟨b,off,rfl,g1⟩:=R2.keys.strAt hx;obtain⟨b',off',rfl,g2⟩:=R2.vals.strAt hy;have hc9:=(hI.out.2.cell (p:=⟨b,off+k,none⟩) (qe g1)).trans g1
    have g3:=(HD.out w2 B3.out).2.2.1
    have HS:Hid (∀ w9,Below w2.heap.size w2 w9->w9.cell? ⟨w.heap.size,2,none⟩=some (.slice (some ⟨b',off',none⟩) lV c')/\w9.cell? ⟨b',off'+k,none⟩=some (st y)):=fun w9 b9 =>
     ⟨(b9.cell (p:=⟨w.heap.size,2,none⟩) (qe g3)).trans g3,(b9.cell (p:=⟨b',off'+k,none⟩) (qe g2)).trans g2⟩
    have hxl:=hok.out.key k
    have hyl:=hok.out.val k
    have ek:Hid (Qy n k=x):=by show _=_;unfold Qy;rw[hx];rfl
    have ev:Hid (n.vals[k]?.getD []=y):=by show _=_;rw[hy];rfl
    rw[ek.out] at hxl;rw[ev.out] at hyl;have hll:=hok.out.len (k:=k) (by rw[hlK.out];omega)
    have eN:Hid (zD n++Qd n k++[UInt8.ofNat x.length]++x++[UInt8.ofNat y.length]++y=zD n++Qd n (k+1)):=by
     show _=_
     rw[Qd,qcm,ek.out,ev.out,hleaf.out];simp
    have b0:Below w2.heap.size wr wr.drew:=(xm _ _).drew
    have bD:=hI.out.2.trans b0
    have K1:=qa (Y8 wr.drew w2.heap.size u5 (zD n++Qd n k) x (hI.out.1.below (xc _) ((xm _ _).drew)) bD.size (by omega) (by omega))
    have BD:=qa bD
    clear R2 g1 g2 g3 hx hy bD b0 hI;generalize zD n++Qd n k=X at *;go_wp2;refine qN (fun w9=>w9.cell? ⟨w.heap.size,2,none⟩=some (.slice (some ⟨b',off',none⟩) lV c')/\w9.cell? ⟨b',off'+k,none⟩=some (st y)) [(0,true),(1,true),(3,true),(4,true),(5,true),(6,true),(7,true),(2,false),(8,false)] 9 qG (by kernel_rfl) (fun _ _ _ _ h=>h) ?_
    iterate 7
     refine Qj (v:=?_) rfl (by kernel_rfl) (HS.out _ BD.out) ?_ ?_
     rotate_left
     ·rintro w9 ⟨r1,r2⟩;go_simp;try with_reducible rfl
     try simp only[Act.put,qB1]
    refine qL rfl (by kernel_rfl) fun K hK=>?_
    refine qk 89 _ _ (by rfl) #[u5,st x] (by simp[Act.eval]) (Tryz.call89 _ _) K1.out ?_
    rintro e w8 ⟨v8,rfl,o8,b8⟩;have d8:Below w2.heap.size w2 w8:=BD.out.trans b8
    refine⟨_,rfl,hK _ _ (HS.out _ d8) ?_⟩;clear hK K;have K2:=qa (Y8 w8 w2.heap.size v8 _ y o8 d8.size (by omega) (by simp;omega))
    try simp only[Act.put,qB1]
    refine qL rfl (by kernel_rfl) fun K hK=>?_
    refine qk 89 _ _ (by rfl) #[v8,st y] (by simp[Act.eval]) (Tryz.call89 _ _) K2.out ?_
    rintro e w9 ⟨v9,rfl,o9,b9⟩;have d9:Below w2.heap.size w2 w9:=d8.trans b9
    refine⟨_,rfl,hK _ _ (HS.out _ d9) ?_⟩;clear hK K;try simp only[Act.put,qB1]
    rw[eN.out] at o9;have I9:=qa (xb o9 d9)
    clear o8 b8 d8 o9 b9 d9 K1 K2;show wpList _ _ _ _ _ _
    dsimp only[List.drop];go_wp2;go_roundw
    case rel=>exact⟨k+1,by omega,by go_num,I9⟩
    case measure=>simp[intOf];omega
   have hq:¬ (k:Int)<(lK:Int):=by omega
   have e:Hid (qhx n=zD n++Qd n k):=by show _=_;rw[ho.out,QN,hlK.out,show k=lK by omega]
   go_wp2
   go_ret2
   refine⟨u5,qg0 rfl (XE (Value.int .i64) hzz.out.symm),?_,HE.out _ (HL.out _ hI.out.2)⟩;rw[e.out];exact hI.out.1.mono (HE.out _ B3.out).size
  | false =>
   rw[xh (by decide)] at hcn
   obtain⟨hc1,hc2,hc3⟩:=hcn;replace hc1:=qa hc1;replace hc3:=qa hc3;have rl:Rd (w3.alloc (.cells #[.int .u8 0] 5)) (.slice (some ⟨w3.heap.size,0,none⟩) 1 1) [0]:=qlq w3 [0] #[.int .u8 0] w3.heap.size 1 rfl rfl rfl (by decide)
   have bX:Below w2.heap.size w2 (w3.alloc (.cells #[.int .u8 0] 5)):=B4.out.alloc s3 _
   have oX:OwnB w2.heap.size (w3.alloc (.cells #[.int .u8 0] 5)) (.slice (some ⟨w2.heap.size,0,none⟩) 0 S) []:=O3.out.below (xc _) ((xm _ _).alloc (xc _) _)
   have hLX:([]:List UInt8).length+([0]:List UInt8).length<=140737488355328:=by simp
   have hsX:=bX.size
   have BX:=qa bX
   clear bX
   go_wp2_with (at_builtin;refine qx rfl _ _ rfl w2.heap.size _ _ _ _ rfl rfl oX rl hLX hsX ?_;intro v6 w6 o6 b6 _;have B6:=qa (BX.out.trans b6);obtain⟨F0,F1,F2,F3⟩:=HD.out w6 (HL.out _ B6.out))
   clear oX rl E0 E1 E2 E3 F0 F1 F2 F3 hLX;have KN:=qa (yg w6 w2.heap.size v6 [0] lK 1 o6 B6.out.size (by decide) (by decide) (by omega) (by omega) (by simp))
   clear o6 b6;refine KN.out.mono ?_;rintro e w7 ⟨v7,rfl,o7,b7⟩;clear KN;have B7:=qa (B6.out.trans b7)
   obtain⟨F0,F1,F2,F3⟩:=HD.out w7 (HL.out _ B7.out);have hD0:0<n.kids.length:=by rw[hlD.out,hc3.out];omega
   obtain⟨z,hzd⟩:=qz n.kids hD0;obtain⟨bd,od,rfl,gd⟩:=(HN.out w2 B3.out).kids.intAt hzd;have hzr:=hok.out.2.2.2.1 0 hD0
   have ez:Hid (n.kids[0]?.getD 0=z):=by show _=_;rw[hzd];rfl
   rw[ez.out] at hzr;obtain⟨Zn,hZn⟩:∃ Zn:Nat,z=(Zn:Int):=⟨z.toNat,by omega⟩
   subst hZn;have q7:=(B7.out.cell (p:=⟨bd,od+0,none⟩) (qe gd)).trans gd
   have qd:(0:Int)<(lD:Int):=by have:=hc3.out;omega
   rw[XK] at q7;have KM:=qa (yg w7 w2.heap.size v7 ([0]++oc lK 1) Zn 4 o7 B7.out.size (by decide) (by decide) (by omega) (by omega) (by rw[jV];simp))
   clear o7 b7 gd hzd hD0
   go_wp2_with fail
   clear F0 F1 F2 F3 q7;refine KM.out.mono ?_;rintro e w8 ⟨v8,rfl,o8,b8⟩;clear KM;have B8:=qa (B7.out.trans b8)
   obtain⟨F0,F1,F2,F3⟩:=HD.out w8 (HL.out _ B8.out)
   have O7:Hid (OwnB w2.heap.size w8 v8 (zD n++Qd n 0)/\Below w2.heap.size w2 w8):=⟨by
    have e:zD n++Qd n 0=[0]++oc lK 1++oc Zn 4:=by unfold zD Qd;rw[hleaf.out,hlK.out,jV,ez.out,<-yD];simp
    rw[e];exact o8,B8.out⟩
   clear o8 b8 B7 B8;go_wp2;clear F0 F1 F2 F3
   go_loopw [5,64] (fun v i wr=>∃ k:Nat,k<=lK/\i=.int .i64 k/\Hid (OwnB w2.heap.size wr v (zD n++Qd n k)/\Below w2.heap.size w2 wr)) (fun _ i _=>lK-(intOf i).toNat)
   case atStart=>exact⟨0,xt _,rfl,O7⟩
   case round =>
   obtain⟨k,hk,rfl,hI⟩:=hrel;clear O7;by_cases hlt:k<lK
   ·have hq:(k:Int)<(lK:Int):=by omega
    obtain⟨j,hj⟩:∃ j,j=k+1:=⟨_,rfl⟩;have hj1:(k:Int)+1=(j:Int):=by omega
    have hj2:(j:Int)<(lD:Int):=by have:=hc3.out;omega
    have hj3:IntKind.i64.wrap (j:Int)=(j:Int):=xB _ (by omega)
    replace hj:=qa hj;obtain⟨x,hx⟩:=qz n.keys (k:=k) (by rw[hlK.out];exact hlt)
    obtain⟨y0,hy⟩:=qz n.kids (k:=j) (by rw[hlD.out,hc3.out,hj.out];omega)
    have R2:=HN.out w2 B3.out
    obtain⟨b,off,rfl,g1⟩:=R2.keys.strAt hx;obtain⟨b',off',e',g2⟩:=R2.kids.intAt hy;obtain⟨rfl,rfl⟩:b'=bd/\off'=od:=by simp only[xr,XO,XS] at e';exact⟨e'.1.symm,e'.2.symm⟩
    clear e';have hc9:=(hI.out.2.cell (p:=⟨b,off+k,none⟩) (qe g1)).trans g1
    have g3:=(HD.out w2 B3.out).2.2.2
    have hxl:=hok.out.key k
    have hyr:=hok.out.2.2.2.1 j (by rw[hlD.out,hc3.out,hj.out];omega)
    have ev:Hid (n.kids[j]?.getD 0=y0):=by show _=_;rw[hy];rfl
    rw[ev.out] at hyr;obtain⟨y,hyn⟩:∃ y:Nat,y0=(y:Int):=⟨y0.toNat,by omega⟩
    subst hyn;have ek:Hid (Qy n k=x):=by show _=_;unfold Qy;rw[hx];rfl
    rw[ek.out] at hxl;have hll:=hok.out.len (k:=k) (by rw[hlK.out];omega)
    have HS:Hid (∀ w9,Below w2.heap.size w2 w9->w9.cell? ⟨w.heap.size,3,none⟩=some (.slice (some ⟨b',off',none⟩) lD c'')/\w9.cell? ⟨b',off'+j,none⟩=some (.int .i64 (y:Int))):=fun w9 b9 =>
     ⟨(b9.cell (p:=⟨w.heap.size,3,none⟩) (qe g3)).trans g3,(b9.cell (p:=⟨b',off'+j,none⟩) (qe g2)).trans g2⟩
    have eN:Hid (zD n++Qd n k++[UInt8.ofNat x.length]++x++oc y 4=zD n++Qd n (k+1)):=by
     show _=_
     rw[Qd,qcm,ek.out,<-hj.out,ev.out,hleaf.out,<-yD];simp
    have b0:Below w2.heap.size wr wr.drew:=(xm _ _).drew
    have bD:=hI.out.2.trans b0
    have K1:=qa (Y8 wr.drew w2.heap.size u5 (zD n++Qd n k) x (hI.out.1.below (xc _) ((xm _ _).drew)) bD.size (by omega) (by omega))
    have BD:=qa bD
    clear R2 g1 g2 g3 hx hy bD b0 hI;generalize zD n++Qd n k=X at *;go_wp2;refine qN (fun w9=>w9.cell? ⟨w.heap.size,3,none⟩=some (.slice (some ⟨b',off',none⟩) lD c'')/\w9.cell? ⟨b',off'+j,none⟩=some (.int .i64 (y:Int))) [(0,true),(1,true),(3,true),(4,true),(5,true),(6,true),(7,true),(8,true),(2,false),(9,false)] 10 qG (by kernel_rfl) (fun _ _ _ _ h=>h) ?_
    iterate 8
     refine Qj (v:=?_) rfl (by kernel_rfl) (HS.out _ BD.out) ?_ ?_
     rotate_left
     ·rintro w9 ⟨r1,r2⟩;go_simp;try with_reducible rfl
     try simp only[Act.put,qB1]
    refine qL rfl (by kernel_rfl) fun K hK=>?_
    refine qk 89 _ _ (by rfl) #[u5,st x] (by simp[Act.eval]) (Tryz.call89 _ _) K1.out ?_
    rintro e w8 ⟨v8,rfl,o8,b8⟩;have d8:Below w2.heap.size w2 w8:=BD.out.trans b8
    refine⟨_,rfl,hK _ _ (HS.out _ d8) ?_⟩;clear hK K;have K2:=qa (yg w8 w2.heap.size v8 _ y 4 o8 d8.size (by decide) (by decide) (by omega) (by omega) (by simp;omega))
    try simp only[Act.put,qB1]
    refine qL rfl (by kernel_rfl) fun K hK=>?_
    refine qk 88 _ _ (by rfl) #[v8,.int .i64 (y:Int),.int .i64 4] (by simp[Act.eval]) (Tryz.call88 _ _) K2.out ?_
    rintro e w9 ⟨v9,rfl,o9,b9⟩;have d9:Below w2.heap.size w2 w9:=d8.trans b9
    refine⟨_,rfl,hK _ _ (HS.out _ d9) ?_⟩;clear hK K;try simp only[Act.put,qB1]
    rw[eN.out] at o9;have I9:=qa (xb o9 d9)
    clear o8 b8 d8 o9 b9 d9 K1 K2;show wpList _ _ _ _ _ _
    dsimp only[List.drop];clear hj1 hj2 hj3;go_wp2;go_roundw
    case rel=>exact⟨k+1,by omega,by go_num,I9⟩
    case measure=>simp[intOf];omega
   have hq:¬ (k:Int)<(lK:Int):=by omega
   have e:Hid (qhx n=zD n++Qd n k):=by show _=_;rw[ho.out,QN,hlK.out,show k=lK by omega]
   go_wp2
   go_ret2
   refine⟨u5,qg0 rfl (XE (Value.int .i64) hzz.out.symm),?_,HE.out _ (HL.out _ hI.out.2)⟩;rw[e.out];exact hI.out.1.mono (HE.out _ B3.out).size
 have ho:Hid (qhx n=[]):=xh hz
 obtain⟨Z,hZ⟩:∃ Z,Z=qE n:=⟨_,rfl⟩;rw[<-hZ] at hz |-;replace hZ:=qa hZ;have bb:=qa (HE.out _ b1)
 clear b1;go_wp2
 go_ret2
 refine⟨.slice none 0 0,qg0 rfl (XE (Value.int .i64) hZ.out),?_,bb.out⟩;rw[ho.out];exact xA _ _ _ _
theorem qbt (b:UInt8):Qg [b]=b.toNat:=by simp[Qg,zP]
theorem qdu (h:x.length=s):rtk s ⟨x++y,sh⟩=x/\rst s ⟨x++y,sh⟩=⟨y,sh⟩:=by
 subst h;unfold rtk rst;rw[xh (by simp),xh (by simp)]
 exact⟨by simp,by simp⟩
theorem YV (h:n<2^(8*s)):qQ s ⟨oc n s++y,sh⟩=n/\rst s ⟨oc n s++y,sh⟩=⟨y,sh⟩:=by
 obtain⟨h1,h2⟩:=qdu (s:=s) (x:=oc n s) (y:=y) (sh:=sh) (qv n s);refine⟨?_,h2⟩;unfold qQ;rw[h1,jz n s h]
theorem qdq (h:x.length<256):rtx ⟨[UInt8.ofNat x.length]++x++y,sh⟩=x/\rts ⟨[UInt8.ofNat x.length]++x++y,sh⟩=⟨y,sh⟩:=by
 have h1:=YV (s:=1) (n:=x.length) (y:=x++y) (sh:=sh) (by omega)
 rw[jV,<-xz] at h1;unfold rtx rts;rw[h1.1,h1.2];exact qdu rfl
theorem qe5 {r:Rr} (h:(rst s r).short=false):r.short=false/\r.rest=rtk s r++(rst s r).rest/\(rtk s r).length=s:=by
 unfold rst at h;unfold rst rtk;by_cases hl:r.rest.length<s
 ·rw[xj hl] at h;cases h
 rw[xh hl] at h;rw[xh hl,xh hl];exact⟨h,by simp,by simp;omega⟩
theorem qr4 (h:x.length=s) (h14:s=1\/s=4):oc (Qg x) s=x:=by
 rcases h14 with rfl|rfl
 ·obtain⟨b,rfl⟩:∃ b,x=[b]:=List.length_eq_one_iff.1 h;rw[qbt,jV];simp
 match x,h with
 | [a,b,c,d],_ =>
  have ha:=a.toNat_lt
  have hb:=b.toNat_lt
  have hc:=c.toNat_lt
  have hd:=d.toNat_lt
  have e:Qg [a,b,c,d]=((a.toNat*256+b.toNat)*256+c.toNat)*256+d.toNat:=by simp[Qg,zP]
  rw[e];simp only[oc,ob,List.range_succ,List.range_zero,xG,Xn,List.map_nil,xD,KZ,XS];refine⟨?_,?_,?_,?_⟩<;>(apply UInt8.toNat_inj.1;rw[UInt8.toNat_ofNat'];simp;try omega)
theorem Jc {r:Rr} (h:(rst s r).short=false) (h14:s=1\/s=4):r.short=false/\r.rest=oc (qQ s r) s++(rst s r).rest:=by
 obtain⟨h1,h2,h3⟩:=qe5 h;refine⟨h1,?_⟩;unfold qQ;rw[qr4 h3 h14];exact h2
theorem qau {r:Rr} (h:(rts r).short=false):r.short=false/\r.rest=[UInt8.ofNat (rtx r).length]++rtx r++(rts r).rest:=by
 unfold rts at h |-;obtain⟨h1,h2,h3⟩:=qe5 h;obtain⟨h4,h5⟩:=Jc h1 (.inl rfl);refine⟨h4,?_⟩;rw[h5,jV,h2];unfold rtx;rw[h3];simp
def zm:List Str->List Str->List UInt8
 | k::ks,v::vs=>([UInt8.ofNat k.length]++k)++([UInt8.ofNat v.length]++v)++zm ks vs
 | _,_=>[]
theorem qaa:∀ (ks vs:List Str) (n:Nd) (y:List UInt8) (sh:Bool),ks.length=vs.length->(∀ k∈ks,k.length<256)->(∀ v∈vs,v.length<256)->QU ks.length ⟨zm ks vs++y,sh⟩ n=(⟨n.leaf,n.keys++ks,n.vals++vs,n.kids⟩,⟨y,sh⟩)
 | [],[],n,y,sh,_,_,_=>by simp[QU,zm]
 | [],v::vs,n,y,sh,h,_,_=>by simp at h
 | k::ks,[],n,y,sh,h,_,_=>by simp at h
 | k::ks,v::vs,n,y,sh,h,hk,hv=>by
  have a1:=qdq (x:=k) (y:=[UInt8.ofNat v.length]++v++(zm ks vs++y)) (sh:=sh) (hk k (by simp))
  have a2:=qdq (x:=v) (y:=zm ks vs++y) (sh:=sh) (hv v (by simp))
  have e:zm (k::ks) (v::vs)++y=[UInt8.ofNat k.length]++k++([UInt8.ofNat v.length]++v++(zm ks vs++y)):=by simp[zm]
  rw[xC,QU,e,a1.1,a1.2,a2.1,a2.2,qaa ks vs _ y sh (by simpa using h) (fun x hx=>hk x (by simp[hx])) (fun x hx=>hv x (by simp[hx]))]
  simp
theorem vO:∀ (k:Nat) (r:Rr) (n:Nd),(QU k r n).2.short=false->r.short=false/\∃ ks vs,ks.length=k/\vs.length=k/\r.rest=zm ks vs++(QU k r n).2.rest/\(QU k r n).1=⟨n.leaf,n.keys++ks,n.vals++vs,n.kids⟩
 | 0,r,n,h=>⟨h,[],[],rfl,rfl,by simp[zm,QU],by simp[QU]⟩
 | k+1,r,n,h=>by
  rw[QU] at h;obtain⟨h1,ks,vs,e1,e2,e3,e4⟩:=vO k _ _ h;obtain⟨h2,e5⟩:=qau h1;obtain⟨h3,e6⟩:=qau h2;refine⟨h3,rtx r::ks,rtx (rts r)::vs,by simp[e1],by simp[e2],?_,?_⟩
  ·rw[e6,e5,e3,QU];simp[zm]
  rw[QU,e4];simp
def zO:List Str->List Int->List UInt8
 | k::ks,d::ds=>([UInt8.ofNat k.length]++k)++n4 d++zO ks ds
 | _,_=>[]
theorem qb0:∀ (ks:List Str) (d:Int) (ds:List Int) (n:Nd) (y:List UInt8) (sh:Bool),ks.length=ds.length->(∀ k∈ks,k.length<256)->(0<=d/\d<4294967296)->(∀ d∈ds,0<=d/\d<4294967296)->zj ks.length ⟨n4 d++(zO ks ds++y),sh⟩ n=(⟨n.leaf,n.keys++ks,n.vals,n.kids++d::ds⟩,⟨y,sh⟩)
 | [],d,[],n,y,sh,_,_,hd,_=>by
  have a1:=YV (s:=4) (n:=d.toNat) (y:=y) (sh:=sh) (by omega)
  rw[yD] at a1;simp only[xX,zO,xG,zj];rw[a1.1,a1.2,Int.toNat_of_nonneg hd.1];simp
 | [],d,e::ds,n,y,sh,h,_,_,_=>by simp at h
 | k::ks,d,[],n,y,sh,h,_,_,_=>by simp at h
 | k::ks,d,d'::ds,n,y,sh,h,hk,hd,hds=>by
  have a1:=YV (s:=4) (n:=d.toNat) (y:=zO (k::ks) (d'::ds)++y) (sh:=sh) (by omega)
  rw[yD] at a1;have a2:=qdq (x:=k) (y:=n4 d'++(zO ks ds++y)) (sh:=sh) (hk k (by simp))
  have e:zO (k::ks) (d'::ds)++y=[UInt8.ofNat k.length]++k++(n4 d'++(zO ks ds++y)):=by simp[zO]
  rw[xC,zj,a1.1,a1.2,e,a2.1,a2.2,Int.toNat_of_nonneg hd.1,qb0 ks d' ds _ y sh (by simpa using h) (fun x hx=>hk x (by simp[hx])) (hds d' (by simp)) (fun x hx=>hds x (by simp[hx]))]
  simp
theorem qaz:∀ (k:Nat) (r:Rr) (n:Nd),(zj k r n).2.short=false->r.short=false/\∃ ks d ds,ks.length=k/\ds.length=k/\r.rest=n4 d++(zO ks ds++(zj k r n).2.rest)/\(zj k r n).1=⟨n.leaf,n.keys++ks,n.vals,n.kids++d::ds⟩
 | 0,r,n,h=>by
  rw[zj] at h;obtain⟨h1,e1⟩:=Jc h (.inr rfl);refine⟨h1,[],(qQ 4 r:Nat),[],rfl,rfl,?_,by simp[zj]⟩
  rw[<-yD];simp only[kA,zO,xG,zj];exact e1
 | k+1,r,n,h=>by
  rw[zj] at h;obtain⟨h1,ks,d,ds,e1,e2,e3,e4⟩:=qaz k _ _ h;obtain⟨h2,e5⟩:=qau h1;obtain⟨h3,e6⟩:=Jc h2 (.inr rfl);refine⟨h3,rtx (rst 4 r)::ks,(qQ 4 r:Nat),d::ds,by simp[e1],by simp[e2],?_,?_⟩
  ·rw[<-yD,kA,zj];refine e6.trans ?_;rw[e5,e3];simp[zO]
  rw[zj,e4];simp
theorem Va (n:Nd) (hl:n.leaf=true) (hv:n.vals.length=n.keys.length):Qd n n.keys.length=zm n.keys n.vals:=by
 have key:∀ (k:Nat) (ks vs:List Str),k+ks.length=n.keys.length->ks=n.keys.drop k->vs=n.vals.drop k->Qd n n.keys.length=Qd n k++zm ks vs:=by
  intro k ks
  induction ks generalizing k with
  | nil =>
   intro vs h1 h2 h3;have:k=n.keys.length:=by simpa using h1
   subst this;simp[zm]
  | cons x r ih =>
   intro vs h1 h2 h3;have hk:k<n.keys.length:=by simp at h1;omega
   have d1:=Xv hk
   have d2:=Xv (l:=n.vals) (i:=k) (by omega)
   rw[d1] at h2;rw[d2] at h3;obtain⟨hx,hr⟩:=List.cons.inj h2;subst h3;have:=ih (k+1) (n.vals.drop (k+1)) (by simp at h1;omega) hr rfl
   rw[this,Qd,qcm,Qy,hl,hx,xg hk,xg (l:=n.vals) (i:=k) (by omega)]
   simp[zm]
 have:=key 0 n.keys n.vals (by simp) rfl rfl
 simpa[Qd] using this
theorem YN (n:Nd) (hl:n.leaf=false) (d:Int) (ds:List Int) (hd:n.kids=d::ds) (hv:ds.length=n.keys.length):Qd n n.keys.length=zO n.keys ds:=by
 have key:∀ (k:Nat) (ks:List Str) (es:List Int),k+ks.length=n.keys.length->ks=n.keys.drop k->es=ds.drop k->Qd n n.keys.length=Qd n k++zO ks es:=by
  intro k ks
  induction ks generalizing k with
  | nil =>
   intro vs h1 h2 h3;have:k=n.keys.length:=by simpa using h1
   subst this;simp[zO]
  | cons x r ih =>
   intro vs h1 h2 h3;have hk:k<n.keys.length:=by simp at h1;omega
   have d1:=Xv hk
   have d2:=Xv (l:=ds) (i:=k) (by omega)
   rw[d1] at h2;rw[d2] at h3;obtain⟨hx,hr⟩:=List.cons.inj h2;subst h3;have:=ih (k+1) (ds.drop (k+1)) (by simp at h1;omega) hr rfl
   rw[this,Qd,qcm,Qy,hl,hx,xg hk,hd,Kl,xg (l:=ds) (i:=k) (by omega)]
   simp[zO]
 have:=key 0 n.keys ds (by simp) rfl rfl
 simpa[Qd] using this
theorem qbz {n:Nd} (h:NOk n):∀ k∈n.keys,k.length<256:=by
 intro k hk;obtain⟨i,hi,e⟩:=List.mem_iff_getElem.1 hk;have:=h.key i
 unfold Qy at this;rw[xg hi,e] at this;simp at this;omega
theorem qjh {n:Nd} (h:NOk n):∀ k∈n.vals,k.length<256:=by
 intro k hk;obtain⟨i,hi,e⟩:=List.mem_iff_getElem.1 hk;have:=h.val i
 rw[xg hi,e] at this;simp at this;omega
theorem qll {n:Nd} (h:NOk n):∀ k∈n.kids,0<=k/\k<4294967296:=by
 intro k hk;obtain⟨i,hi,e⟩:=List.mem_iff_getElem.1 hk;have:=h.2.2.2.1 i hi
 rw[xg hi,e] at this;simp at this;omega
theorem qd2 (m:UInt8) (k:Nat) (y:List UInt8) (hk:k<256):qQ 1 ⟨[m,UInt8.ofNat k]++y,false⟩=m.toNat/\qQ 1 (rst 1 ⟨[m,UInt8.ofNat k]++y,false⟩)=k/\rst 1 (rst 1 ⟨[m,UInt8.ofNat k]++y,false⟩)=⟨y,false⟩:=by
 have a1:=qdu (s:=1) (x:=[m]) (y:=[UInt8.ofNat k]++y) (sh:=false) rfl
 have a2:=YV (s:=1) (n:=k) (y:=y) (sh:=false) (by omega)
 rw[jV] at a2;have e:[m,UInt8.ofNat k]++y=[m]++([UInt8.ofNat k]++y):=by simp
 rw[e,a1.2];refine⟨?_,a2.1,a2.2⟩;unfold qQ;rw[a1.1,qbt]
theorem qkd {n:Nd} (h:NOk n):qW (QN n)=(n,0):=by
 have hf:=h.few
 have hc:=h.2.1
 unfold qP at hc;obtain⟨leaf,keys,vals,kids⟩:=n;cases leaf with
 | true =>
  rw[xj rfl] at hc;dsimp only at hc hf;have hp:=Va ⟨true,keys,vals,kids⟩ rfl hc.1
  dsimp only at hp;have hk0:kids=[]:=xq hc.2
  subst hk0;have e:QN ⟨true,keys,vals,[]⟩=[1,UInt8.ofNat keys.length]++zm keys vals:=by unfold QN zD;dsimp only;rw[hp];simp
  obtain⟨m1,m2,m3⟩:=qd2 1 keys.length (zm keys vals) (by omega)
  rw[<-e] at m1 m2 m3;rw[Jv (by rw[m3]) m1,m2,m3]
  have:=qaa keys vals ⟨true,[],[],[]⟩ [] false hc.1.symm (qbz h) (qjh h)
  rw[xK] at this;rw[this];simp[zV]
 | false =>
  rw[xh (show ¬ (false=true) by decide)] at hc
  dsimp only at hc hf;have hv0:vals=[]:=xq hc.1
  subst hv0
  match kids,hc with
  | d::ds,hc =>
   have hl:ds.length=keys.length:=by simp at hc;omega
   have hp:=YN ⟨false,keys,[],d::ds⟩ rfl d ds rfl hl
   dsimp only at hp;have hs:=qll h
   have e:QN ⟨false,keys,[],d::ds⟩=[0,UInt8.ofNat keys.length]++(n4 d++zO keys ds):=by unfold QN zD;dsimp only;rw[hp];simp
   obtain⟨m1,m2,m3⟩:=qd2 0 keys.length (n4 d++zO keys ds) (by omega)
   rw[<-e] at m1 m2 m3;rw[jO (by rw[m3]) m1,m2,m3]
   have:=qb0 keys d ds ⟨false,[],[],[]⟩ [] false hl.symm (qbz h) (hs d (by simp)) (fun x hx=>hs x (by simp[hx]))
   rw[xK] at this;rw[this];simp[zV]
theorem qd3 {n:Nd} (h:NOk n):QJ (QN n)=(n,0):=by
 unfold QJ;rw[qkd h];simp[(ze n).2 h]
theorem qi2 {p:Nd×Rr} (h:(zV p).2=0):p.2.short=false/\p.2.rest=[]/\(zV p).1=p.1:=by
 unfold zV at h |-;by_cases h1:p.2.short=true
 ·rw[xj h1] at h;cases h
 rw[xh h1] at h |-;by_cases h2:0<p.2.rest.length
 ·rw[xj h2] at h;cases h
 rw[xh h2];exact⟨by simpa using h1,xq (by omega),rfl⟩
theorem qhn (h:(qW xs).2=0):QN (qW xs).1=xs:=by
 cases hs:(rst 1 (rst 1 ⟨xs,false⟩)).short with
 | true=>rw[zR hs] at h;cases h
 | false =>
  obtain⟨s1,f1⟩:=Jc hs (.inl rfl);obtain⟨_,f2⟩:=Jc s1 (.inl rfl);dsimp only at f2;rw[f1,jV,jV] at f2;have hlt:=yB 1 (rst 1 ⟨xs,false⟩)
  by_cases m1:qQ 1 ⟨xs,false⟩=1
  ·rw[Jv hs m1] at h |-;obtain⟨g1,g2,g3⟩:=qi2 h;obtain⟨_,ks,vs,e1,e2,e3,e4⟩:=vO _ _ _ g1;rw[g3,e4];rw[g2,xK] at e3;rw[e3,m1] at f2;have hp:=Va ⟨true,ks,vs,[]⟩ rfl (by simp[e1,e2])
   dsimp only at hp;simp only[xG];unfold QN zD;dsimp only;rw[hp,e1];refine Eq.trans ?_ f2.symm;simp
  by_cases m0:qQ 1 ⟨xs,false⟩=0
  ·rw[jO hs m0] at h |-;obtain⟨g1,g2,g3⟩:=qi2 h;obtain⟨_,ks,d,ds,e1,e2,e3,e4⟩:=qaz _ _ _ g1;rw[g3,e4];rw[g2,xK] at e3;rw[e3,m0] at f2;have hp:=YN ⟨false,ks,[],d::ds⟩ rfl d ds rfl (by simp[e1,e2])
   dsimp only at hp;simp only[xG];unfold QN zD;dsimp only;rw[hp,e1];refine Eq.trans ?_ f2.symm;simp
  rw[Yb hs m1 m0] at h;cases h
theorem vB (h:(QJ xs).2=0):NOk (QJ xs).1/\QN (QJ xs).1=xs:=by
 unfold QJ at h |-;by_cases h1:(qW xs).2=0
 ·rw[xj h1] at h |-;by_cases h2:qE (qW xs).1=0
  ·rw[xj h2];exact⟨(ze _).1 h2,qhn h1⟩
  rw[xh h2] at h;exact absurd h h2
 rw[xh h1] at h;exact absurd h h1
def jD (s:Nat) (r:Rr):List UInt8:=if r.short then [] else rtk s r
def Q4 (s:Nat) (r:Rr):Rr:=if r.short then r else rst s r
def Zc (s:Nat) (r:Rr):Nat:=Qg (jD s r)
theorem qip (s:Nat) (r:Rr):(jD s r).length<=s:=by
 unfold jD;split
 ·simp
 exact qh8 s r
theorem jY (s:Nat) (r:Rr):Zc s r<2^(8*s):=by
 unfold Zc Qg;refine xV (YI _ _) (km (by decide) ?_)
 have:=qip s r
 omega
theorem qg2 {r:Rr} (h:r.short=true):(Q4 s r).short=true:=by unfold Q4;rw[xj h];exact h
theorem ZL {r:Rr} (h:r.short=true):(rst s r).short=true:=by unfold rst;split<;>simp[h]
theorem yw {r:Rr} (h:r.short=true):(rts r).short=true:=ZL (ZL h)
theorem Yj:∀ (k:Nat) (r:Rr) (n:Nd),r.short=true->(QU k r n).2.short=true
 | 0,r,n,h=>h
 | k+1,r,n,h=>Yj k _ _ (yw (yw h))
structure RdrPA (w0:World) (g:Nat) (w:World) (a:Option Addr) (c L at':Nat) (xs:List UInt8) (r:Rr):Prop where
 box:w.heap[g]?=some (.cells #[.slice a L c,.int .i64 (at':Int),.bool r.short] 217 (0,0))
 rd:Rd w0 (.slice a L c) xs
 len:xs.length=L
 le:at'<=L
 rest:r.rest=xs.drop at'
 bel:Below w0.heap.size w0 w
 hg:w0.heap.size<=g
def RdrP (w0:World) (g:Nat) (w:World) (xs:List UInt8) (r:Rr):Prop:=∃ a c L at',RdrPA w0 g w a c L at' xs r
theorem RdrP.to {r:Rr} (h:RdrP w0 g w xs r) (k:Below w.heap.size w U):RdrP w0 g U xs r:=by
 obtain⟨a,c,L,at',h⟩:=h;exact⟨a,c,L,at',(k.block _ (xa h.box)).trans h.box,h.rd,h.len,h.le,h.rest,h.bel.trans (k.mono h.bel.size),h.hg⟩
theorem RdrP.bel {r:Rr} (h:RdrP w0 g w xs r):Below w0.heap.size w0 w:=by obtain⟨_,_,_,_,h⟩:=h;exact h.bel
theorem yW {a b:Value} {fr:Nat×Nat} (h:u.heap[g]?=some (.cells #[a,b,c] t fr)) (x:Value):(u.setCell ⟨g,1,none⟩ x).heap[g]?=some (.cells #[a,x,c] t fr)/\(u.setCell ⟨g,2,none⟩ x).heap[g]?=some (.cells #[a,b,x] t fr):=by
 constructor<;>simp[World.setCell,Xc,h]
theorem ql {a b:Value} (h:w.heap[g]?=some (.cells #[a,b,c] t (0,0))):(w.cell? ⟨g,0,none⟩=some a/\w.cell? ⟨g,1,none⟩=some b/\w.cell? ⟨g,2,none⟩=some c)/\∀ i,w.frozen? ⟨g,i,none⟩=false:=by
 refine⟨⟨?_,?_,?_⟩,fun i=>?_⟩
 ·rw[Xi _ _ 0 _ _ (0,0) h];rfl
 ·rw[Xi _ _ 1 _ _ (0,0) h];rfl
 ·rw[Xi _ _ 2 _ _ (0,0) h];rfl
 simp[World.frozen?,h]
theorem yt (w0:World) (g:Nat) (w:World) (xs:List UInt8) (r:Rr) (s:Nat) (h:RdrP w0 g w xs r) (hs:s<=1000000000000) :
 Calls Tryz.prog 138 #[.pointer (some ⟨g,0,none⟩),.int .i64 (s:Int)] w fun e w'=>∃ a1 c1,e=.returned (.slice a1 (jD s r).length c1)/\Rd w0 (.slice a1 (jD s r).length c1) (jD s r)/\RdrP w0 g w' xs (Q4 s r)/\KpG g w w':=by
 obtain⟨a,c,L,at',h⟩:=h;obtain⟨⟨A0,A1,A2⟩,af⟩:=ql h.box;have f1:=af 1
 have f2:=af 2
 have lb:L<=9223372036854775807:=by obtain⟨_,_,e,_,m1,_⟩:=h.rd;simp only[xH] at e;unfold maxLen at m1;have:=h.len;omega
 have hcap:L<=c:=by obtain⟨_,_,e,l1,_⟩:=h.rd;simp only[xH] at e;have:=h.len;omega
 have hle:=h.le
 have HH:=qa h
 clear af h;have KW:Hid (∀ n,KpG g w (w.drewN n)):=fun n=>KpG.of (qg w n _)
 cases hsh:r.short with
 | true =>
  rw[hsh] at A2;have e1:Hid (jD s r=[]):=by show _=_;unfold jD;rw[xj hsh]
  have e2:Hid (Q4 s r=r):=by show _=_;unfold Q4;rw[xj hsh]
  have hsh':=qa hsh
  clear hsh;go_enter Tryz.func138,Tryz.ntmps138
  go_wp2_with fail
  go_quiet (fail)
  go_wp2;go_ret;refine⟨none,0,by rw[e1.out];rfl,by rw[e1.out];exact qc5 _,?_,(KW.out nq).set 2 _⟩
  rw[e2.out];have bx:(w.drewN nq).heap[g]?=some (.cells #[.slice a L c,.int .i64 (at':Int),.bool r.short] 217 (0,0)):=HH.out.box
  refine⟨a,c,L,at',?_,HH.out.rd,HH.out.len,HH.out.le,HH.out.rest,(HH.out.bel.trans (qg w nq _)).setCell (p:=⟨g,2,none⟩) HH.out.hg _,HH.out.hg⟩;rw[hsh'.out];exact(yW bx _).2
 | false =>
  rw[hsh] at A2;have hsh':=qa hsh
  clear hsh;obtain⟨D,hD⟩:∃ D,D=L-at':=⟨_,rfl⟩;have hd1:(L:Int)-(at':Int)=(D:Int):=by omega
  have hd2:IntKind.i64.wrap (D:Int)=(D:Int):=xB _ (by omega)
  have hrl:Hid (r.rest.length=D):=by show _=_;rw[HH.out.rest,xE,HH.out.len];omega
  by_cases hlt:D<s
  ·have g1:decide ((D:Int)<(s:Int))=true:=xv (by omega)
   have g2:decide (D<s)=true:=xv hlt
   have e1:Hid (jD s r=[]):=by show _=_;unfold jD rtk;rw[xh (by rw[hsh'.out];decide),xj (by rw[hrl.out];exact hlt)]
   have e2:Hid (Q4 s r=⟨r.rest,true⟩):=by show _=_;unfold Q4 rst;rw[xh (by rw[hsh'.out];decide),xj (by rw[hrl.out];exact hlt)]
   replace hD:=qa hD;go_enter Tryz.func138,Tryz.ntmps138
   go_wp2_with fail
   go_quiet (fail)
   go_wp2;go_ret;refine⟨none,0,by rw[e1.out];rfl,by rw[e1.out];exact qc5 _,?_,(KW.out nq).set 2 _⟩
   rw[e2.out];have bx:(w.drewN nq).heap[g]?=some (.cells #[.slice a L c,.int .i64 (at':Int),.bool r.short] 217 (0,0)):=HH.out.box
   exact⟨a,c,L,at',(yW bx _).2,HH.out.rd,HH.out.len,HH.out.le,HH.out.rest,(HH.out.bel.trans (qg w nq _)).setCell (p:=⟨g,2,none⟩) HH.out.hg _,HH.out.hg⟩
  have g1:decide ((D:Int)<(s:Int))=false:=xw (by omega)
  have g2:decide (D<s)=false:=xw hlt
  have e1:Hid (jD s r=r.rest.take s):=by show _=_;unfold jD rtk;rw[xh (by rw[hsh'.out];decide),xh (by rw[hrl.out];exact hlt)]
  have e2:Hid (Q4 s r=⟨r.rest.drop s,r.short⟩):=by show _=_;unfold Q4 rst;rw[xh (by rw[hsh'.out];decide),xh (by rw[hrl.out];exact hlt)]
  obtain⟨E,hE⟩:∃ E,E=at'+s:=⟨_,rfl⟩;have h1:(at':Int)+(s:Int)=(E:Int):=by omega
  have h2:IntKind.i64.wrap (E:Int)=(E:Int):=xB _ (by omega)
  have h3:(E:Int)-(s:Int)=(at':Int):=by omega
  have h4:IntKind.i64.wrap (at':Int)=(at':Int):=xB _ (by omega)
  have h5:(at':Int)<=(E:Int):=by omega
  have h6:(E:Int)<=(c:Int):=by omega
  have h7:(E:Int)<=(L:Int):=by omega
  obtain⟨A,hA,R1⟩:=qmm HH.out.rd (q:=at') (to:=E) (by omega) (by omega)
  have hx:(xs.take E).drop at'=r.rest.take s:=by rw[HH.out.rest,List.drop_take];congr 1;omega
  rw[hx] at R1;have hes:E-at'=s:=by omega
  rw[hes] at R1;have hls:Hid ((r.rest.take s).length=s):=by show _=_;rw[xp,hrl.out];omega
  have hre:Hid (r.rest.drop s=xs.drop E):=by show _=_;rw[HH.out.rest,List.drop_drop,hE]
  have hEL:Hid (E<=L):=by show _<=_;omega
  replace hD:=qa hD;replace hE:=qa hE;replace R1:=qa R1;clear hx;go_enter Tryz.func138,Tryz.ntmps138
  go_wp2_with fail
  go_quiet (fail)
  go_wp2;have bx:(w.drewN nq).heap[g]?=some (.cells #[.slice a L c,.int .i64 (at':Int),.bool r.short] 217 (0,0)):=HH.out.box
  obtain⟨X,hX⟩:∃ X,X=(w.drewN nq).setCell ⟨g,1,none⟩ (.int .i64 (E:Int)):=⟨_,rfl⟩;have bX:X.heap[g]?=some (.cells #[.slice a L c,.int .i64 (E:Int),.bool r.short] 217 (0,0)):=by rw[hX];exact(yW bx _).1
  have kX:=qa ((KW.out nq).set 1 (.int .i64 (E:Int)))
  have lX:=qa ((HH.out.bel.trans (qg w nq _)).setCell (p:=⟨g,1,none⟩) HH.out.hg (.int .i64 (E:Int)))
  rw[<-hX] at kX lX |-;replace hX:=qa hX;obtain⟨⟨C0,C1,C2⟩,_⟩:=ql bX;have BX:=qa bX
  clear A0 A1 A2 f1 f2 bx bX
  go_quiet (fail)
  go_wp2;go_ret;refine⟨A,c-at',by rw[e1.out,hls.out];first|rfl|(rw[<-hes];rfl),by rw[e1.out,hls.out];exact R1.out,?_,kX.out.trans (KpG.of (qg X _ _))⟩
  rw[e2.out];exact⟨a,c,L,E,BX.out,HH.out.rd,HH.out.len,hEL.out,hre.out,lX.out.trans (qg X _ _),HH.out.hg⟩
theorem ZE (w0:World) (g:Nat) (w:World) (xs:List UInt8) (r:Rr) (s:Nat) (h:RdrP w0 g w xs r) (hs:s<=7) :
 Calls Tryz.prog 137 #[.pointer (some ⟨g,0,none⟩),.int .i64 (s:Int)] w fun e w'=>e=.returned (.int .i64 (Zc s r:Nat))/\RdrP w0 g w' xs (Q4 s r)/\KpG g w w':=by
 have KT:=qa (yt w0 g w xs r s h (by omega))
 have hn:=jY s r
 have hn2:2^(8*s)<=2^56:=km (by decide) (by omega)
 have hn3:Zc s r<9223372036854775808:=by
  have e56:(2:Nat)^56=72057594037927936:=by decide
  omega
 have le:=qip s r
 clear hn hn2 h;go_enter Tryz.func137,Tryz.ntmps137
 go_wp2_with fail
 refine KT.out.mono ?_;rintro e w1 ⟨a1,c1,rfl,d1,r1,k1⟩;clear KT;have KG:=qa (qbj w1 _ _ (d1.to r1.bel) (by omega))
 rw[show Qg (jD s r)=Zc s r from rfl] at KG;generalize (jD s r).length=TL at *;generalize hV:Zc s r=V at *;replace hV:=qa hV;have hv:IntKind.i64.wrap (V:Int)=(V:Int):=xB _ (by omega)
 have R1:=qa (xb r1 k1)
 clear d1 r1 k1
 go_wp2_with fail
 refine KG.out.mono ?_;rintro e w2 ⟨rfl,rfl⟩;clear KG;go_wp2;go_ret;exact⟨qo (by rw[hV.out]),R1.out.1,R1.out.2⟩
structure Tr where
 root:Int
 next:Int
 pages:List Wrt
abbrev tv (t:Tr) (pv:Value):Value:=.agg #[.int .i64 t.root,.int .i64 t.next,pv]
def tid (l:List Wrt) (i:Nat):Int:=(l[i]?.map (·.1)).getD 0
theorem JC {l:List Wrt} {y:Wrt} (h:l[k]?=some y):tid l k=y.1:=by unfold tid;rw[h];rfl
def je (next:Int) (l:List Wrt) (k:Nat):Prop:=∀ i,i<k->(if i=0 then 0 else tid l (i-1))<tid l i/\tid l i<next
def tUp (l:List Wrt):Prop:=∀ i j,i<j->j<l.length->tid l i<tid l j
theorem YK {next:Int} {l:List Wrt} (h:je next l l.length):tUp l:=by
 intro i j
 induction j with
 | zero=>intro a;omega
 | succ j ih =>
  intro h1 h2;have hs:=(h (j+1) h2).1
  rw[xh (by omega),XN] at hs
  by_cases e:i=j
  ·subst e;exact hs
  have:=ih (by omega) (by omega);omega
theorem qdg {next:Int} {l:List Wrt} (h:je next l l.length):∀ i:Nat,i<l.length->(i:Int)+1<=tid l i
 | 0,hi=>by have:=(h 0 hi).1;rw[xj rfl] at this;omega
 | i+1,hi=>by
  have:=qdg h i (by omega)
  have hs:=(h (i+1) hi).1
  rw[xh (by omega),XN] at hs
  omega
theorem Zu {next:Int} {l:List Wrt} (h:je next l l.length) (hn:1<=next):(l.length:Int)<next:=by
 by_cases e:l.length=0
 ·omega
 have:=qdg h (l.length-1) (by omega)
 have:=(h (l.length-1) (by omega)).2
 omega
def qH:List Wrt->Int->Option (List UInt8)
 | [],_=>none
 | y::r,id=>if y.1=id then some y.2 else qH r id
theorem vA:∀ {l:List Wrt} {id:Int} {i:Nat} {y:Wrt},tUp l->l[i]?=some y->y.1=id->qH l id=some y.2
 | [],id,i,y,_,h,_=>by simp at h
 | x::r,id,0,y,_,h,e=>by
  have:x=y:=by simpa using h
  subst this;unfold qH;rw[xj e]
 | x::r,id,i+1,y,hu,h,e=>by
  have hl:=(xn.1 h).1
  have h0:=hu 0 (i+1) (by omega) hl
  rw[JC h,JC (l:=x::r) (k:=0) (y:=x) rfl] at h0;unfold qH;rw[xh (by omega)]
  exact vA (l:=r) (i:=i) (fun a b h1 h2=>hu (a+1) (b+1) (by omega) (by simpa using h2)) (by simpa using h) e
theorem jw:∀ {l:List Wrt} {id:Int},(∀ i,i<l.length->tid l i≠id)->qH l id=none
 | [],id,_=>rfl
 | x::r,id,h=>by
  unfold qH;rw[xh (show ¬ x.1=id from h 0 (by simp))]
  exact jw fun i hi=>h (i+1) (by simpa using hi)
def qst (w:World) (l:List Wrt) (id:Int) (bv:Value) (ok:Bool):Prop:=(ok=true/\∃ x,qH l id=some x/\Rd w bv x)\/(ok=false/\qH l id=none/\bv=.slice none 0 0)
def qsh (w w':World) (l:List Wrt) (id:Int) (e:Ending):Prop:=∃ bv ok,e=.returned (.tuple #[bv,.bool ok])/\qst w' l id bv ok/\Below w.heap.size w w'
def qmz (w0 w w':World) (l:List Wrt) (id:Int) (e:Ending):Prop:=∃ bv ok,e=.returned (.tuple #[bv,.bool ok])/\qst w0 l id bv ok/\Below w.heap.size w w'
theorem vF {a b:Int} (h:a=b):Ending.returned (.int .i64 a)=.returned (.int .i64 b):=by rw[h]
def yH (a b:Int):Int:=if a<b then -1 else if b<a then 1 else 0
theorem qb8 (w:World) (a:Int):Calls Tryz.prog 133 #[.int .i64 a] w fun e w'=>e=.returned (.bool false)/\w=w':=by
 have h:(a != a)=false:=by simp
 go_enter Tryz.func133,Tryz.ntmps133;go_wp2;go_ret;exact⟨rfl,rfl⟩
theorem qjo (w:World) (a b:Int):Calls Tryz.prog 123 #[.int .i64 a,.int .i64 b] w fun e w'=>e=.returned (.int .i64 (yH a b))/\w=w':=by
 have K1:=qa (qb8 w a)
 have K2:=qa (qb8 w b)
 go_enter Tryz.func123,Tryz.ntmps123
 go_wp2_with fail
 refine K1.out.mono ?_;rintro e w1 ⟨rfl,rfl⟩
 go_wp2_with fail
 refine K2.out.mono ?_;rintro e w1 ⟨rfl,rfl⟩;by_cases h1:a<b
 ·have hr:Hid (yH a b = -1):=by show _=_;rw[yH,xj h1]
  go_wp2;go_ret;exact⟨vF hr.out.symm,rfl⟩
 by_cases h2:b<a
 ·have hr:Hid (yH a b=1):=by show _=_;rw[yH,xh h1,xj h2]
  have h3:a>b:=h2
  go_wp2;go_ret;exact⟨vF hr.out.symm,rfl⟩
 have hr:Hid (yH a b=0):=by show _=_;rw[yH,xh h1,xh h2]
 have h3:¬ a>b:=h2
 go_wp2;go_ret;exact⟨vF hr.out.symm,rfl⟩
theorem qmr (w:World) (a b:Int) (u:Value) (hu:u.oneCell'=true):Calls Tryz.prog 122 #[.agg #[.int .i64 a,u],.int .i64 b] w fun e w'=>e=.returned (.int .i64 (yH a b))/\Below w.heap.size w w':=by
 obtain⟨W,hW,D,bW,sW⟩:=qf w #[.int .i64 a,u] 97;obtain⟨⟨D0,D1⟩,_⟩:=Qc D;have K1:=qa (qjo W a b)
 have HB:=qa bW
 rw[hW] at D0 D1 K1 HB;clear D bW;go_enter Tryz.func122,Tryz.ntmps122
 go_wp2_with fail
 refine K1.out.mono ?_;rintro e w1 ⟨rfl,rfl⟩;go_wp2;go_ret;exact⟨rfl,HB.out⟩
def BoolR (p:Prop) (w w':World) (e:Ending):Prop:=∃ R:Bool,e=.returned (.bool R)/\(R=true↔p)/\Below w.heap.size w w'
theorem BoolR.no {p:Prop} (h:¬ p) (b:Below w.heap.size w w'):BoolR p w w' (.returned (.bool false)):=⟨false,rfl,⟨fun h=>(by cases h),fun q=>absurd q h⟩,b⟩
theorem BoolR.yes {p:Prop} (h:p) (b:Below w.heap.size w w'):BoolR p w w' (.returned (.bool true)):=⟨true,rfl,⟨fun _=>h,fun _=>rfl⟩,b⟩
def BsR (w w':World) (ps:List Wrt) (id:Int) (e:Ending):Prop:=∃ (i:Nat) (ok:Bool),e=.returned (.tuple #[.int .i64 i,.bool ok])/\((ok=true/\∃ y,ps[i]?=some y/\y.1=id)\/(ok=false/\qH ps id=none))/\Below w.heap.size w w'
theorem qp1 (w0 w:World) (pv:Value) (ps:List Wrt) (id:Int) (h:RdC w0 pv ps) (h0:Below w0.heap.size w0 w) (hu:tUp ps) (hl:ps.length<=65536) :
 Calls Tryz.prog 121 #[pv,.int .i64 id,.func (.func 122) #[] #[]] w fun e w'=>BsR w w' ps id e:=by
 obtain⟨a,c,rfl⟩:=h.slice;obtain⟨L,hL⟩:∃ L,L=ps.length:=⟨_,rfl⟩;rw[<-hL] at hl;have HH:=qa h
 have H0:=qa h0
 rw[<-hL] at HH |-;replace hL:=qa hL;have HK:Hid (∀ t s,t<s->s<L->tid ps t<tid ps s):=fun t s h1 h2=>hu t s h1 (by rw[<-hL.out];exact h2)
 have KC:=qa (fun w a u hu=>qmr w a id u hu)
 clear hu h h0;go_enter Tryz.func121,Tryz.ntmps121;go_wp2
 go_loopw [9,10] (fun p q wr=>∃ i j:Nat,i<=j/\j<=L/\p=.int .i64 i/\q=.int .i64 j/\Hid (Below w.heap.size w wr/\(∀ t,t<i->tid ps t<id)/\∀ t,j<=t->t<L->id<=tid ps t)) (fun p q _=>(intOf q).toNat-(intOf p).toNat)
 case atStart=>exact⟨0,L,xt _,xc _,rfl,rfl,qa ⟨xm _ _,fun t h=>by omega,fun t h1 h2=>by omega⟩⟩
 case round =>
 obtain⟨i,j,hij,hjL,rfl,rfl,hI⟩:=hrel;have HW:=qa (H0.out.trans (hI.out.1.mono H0.out.size))
 by_cases hlt:i<j
 ·have hq:(i:Int)<(j:Int):=by omega
  obtain⟨s,hs⟩:∃ s:Nat,(i:Int)+(j:Int)=(s:Int):=⟨i+j,by omega⟩
  have hs1:IntKind.i64.wrap (s:Int)=(s:Int):=xB _ (by omega)
  obtain⟨m,hm⟩:∃ m:Nat,(s:Int)/2=(m:Int):=⟨s/2,by omega⟩
  have hm2:(m:Int)<(L:Int):=by omega
  have hmi:Hid (i<=m/\m<j):=by show _/\_;omega
  obtain⟨y,hy⟩:=qz ps (k:=m) (by rw[<-hL.out];omega)
  have hny:=qa (JC hy)
  obtain⟨b,off,u,rfl,hc1,hc2,hr⟩:=HH.out.wrt hy;obtain⟨au,cu,rfl⟩:=hr.slice;replace hc1:=(HW.out.cell (qe hc1)).trans hc1;replace hc2:=(HW.out.cell (qe hc2)).trans hc2;replace hy:=qa hy;obtain⟨z,hz⟩:∃ z,z=y.1:=⟨_,rfl⟩;rw[<-hz] at hc1;replace hz:=qa hz;clear hr
  go_wp2_with fail
  refine(KC.out _ _ _ rfl).mono ?_;rintro e w1 ⟨rfl,b1⟩;by_cases hlx:z<id
  ·have hI':Hid (Below w.heap.size w w1/\(∀ t,t<m+1->tid ps t<id)/\∀ t,j<=t->t<L->id<=tid ps t):=⟨hI.out.1.trans (b1.mono hI.out.1.size),fun t ht=>by
    by_cases e:t=m
    ·subst e;rw[hny.out,<-hz.out];exact hlx
    have h1:=HK.out t m (by omega) (by omega)
    rw[hny.out,<-hz.out] at h1;omega,hI.out.2.2⟩
   have hcm:yH z id = -1:=by rw[yH,xj hlx]
   rw[hcm];clear b1 hcm;replace hlx:=qa hlx;go_wp2;go_roundw
   case rel=>exact⟨m+1,j,by have:=hmi.out;omega,hjL,by go_num,rfl,hI'⟩
   case measure=>have:=hmi.out;simp[intOf];omega
  have hI':Hid (Below w.heap.size w w1/\(∀ t,t<i->tid ps t<id)/\∀ t,m<=t->t<L->id<=tid ps t):=⟨hI.out.1.trans (b1.mono hI.out.1.size),hI.out.2.1,fun t h1 h2=>by
   by_cases e:t=m
   ·subst e;rw[hny.out,<-hz.out];omega
   have h3:=HK.out m t (by omega) h2
   rw[hny.out,<-hz.out] at h3;omega⟩
  obtain⟨q,hq9⟩:∃ q,q=yH z id:=⟨_,rfl⟩;have hcm:¬ q<0:=by rw[hq9,yH,xh hlx];split<;>omega
  rw[<-hq9];clear b1 hq9;replace hlx:=qa hlx;go_wp2;go_roundw
  case rel=>exact⟨i,m,hmi.out.1,by have:=hmi.out;omega,rfl,rfl,hI'⟩
  case measure=>have:=hmi.out;simp[intOf];omega
 have hq:¬ (i:Int)<(j:Int):=by omega
 obtain rfl:i=j:=by omega
 by_cases hiL:i<L
 ·have hq2:(i:Int)<(L:Int):=by omega
  obtain⟨y,hy⟩:=qz ps (k:=i) (by rw[<-hL.out];omega)
  have hny:=qa (JC hy)
  obtain⟨b,off,u,rfl,hc1,hc2,hr⟩:=HH.out.wrt hy;obtain⟨au,cu,rfl⟩:=hr.slice;replace hc1:=(HW.out.cell (qe hc1)).trans hc1;replace hc2:=(HW.out.cell (qe hc2)).trans hc2;replace hy:=qa hy;obtain⟨z,hz⟩:∃ z,z=y.1:=⟨_,rfl⟩;rw[<-hz] at hc1;replace hz:=qa hz;clear hr
  go_wp2_with fail
  refine(KC.out _ _ _ rfl).mono ?_;rintro e w1 ⟨rfl,b1⟩;have HE:=qa (hI.out.1.trans (b1.mono hI.out.1.size))
  by_cases he:z=id
  ·have hcm:yH z id=0:=by rw[yH,xh (by omega),xh (by omega)]
   have hR:Hid (∃ y,ps[i]?=some y/\y.1=id):=⟨y,hy.out,by rw[<-hz.out];exact he⟩
   rw[hcm];clear b1 hcm;replace he:=qa he;go_wp2
   go_ret2
   exact⟨i,true,rfl,.inl ⟨rfl,hR.out⟩,HE.out⟩
  have hp:Hid (qH ps id=none):=jw fun t ht=>by
   by_cases h1:t<i
   ·have:=hI.out.2.1 t h1;omega
   by_cases h2:t=i
   ·subst h2;rw[hny.out,<-hz.out];exact he
   have h3:=HK.out i t (by omega) (by rw[hL.out];exact ht)
   have h4:=hI.out.2.2 i (xc _) hiL
   omega
  obtain⟨q,hq9⟩:∃ q,q=yH z id:=⟨_,rfl⟩
  have hcm:(q == 0)=false:=by
   have:q≠0:=by
    rw[hq9,yH]
    split
    ·omega
    split<;>omega
   simpa using this
  rw[<-hq9];clear b1 hq9;replace he:=qa he;go_wp2
  go_ret2
  exact⟨i,false,rfl,.inr ⟨rfl,hp.out⟩,HE.out⟩
 have hq2:¬ (i:Int)<(L:Int):=by omega
 have hp:Hid (qH ps id=none):=jw fun t ht=>by have:=hI.out.2.1 t (by rw[<-hL.out] at ht;omega);omega
 go_wp2
 go_ret2
 exact⟨i,false,rfl,.inr ⟨rfl,hp.out⟩,hI.out.1⟩
theorem qfb (w0 w:World) (pv:Value) (T:Tr) (id:Int) (h:RdC w0 pv T.pages) (h0:Below w0.heap.size w0 w) (hu:tUp T.pages) (hl:T.pages.length<=65536) :
 Calls Tryz.prog 91 #[tv T pv,.int .i64 id] w fun e w'=>qmz w0 w w' T.pages id e:=by
 obtain⟨root,next,ps⟩:=T
 obtain⟨W,hW,D,bW,sW⟩:=qf w #[.int .i64 root,.int .i64 next,pv] 27
 have KB:=qa (qp1 w0 W pv ps id h (h0.trans (bW.mono h0.size)) hu hl)
 obtain⟨⟨D0,D1,D2⟩,_⟩:=ql D;obtain⟨a,c,rfl⟩:=h.slice;have HH:=qa h
 have H0:=qa (h0.trans (bW.mono h0.size))
 have HB:=qa bW
 have E2:=qa D2
 dsimp only[tv] at *;rw[hW] at D0 D1 D2 KB;replace hu:=qa hu;obtain⟨L,hL⟩:∃ L,L=ps.length:=⟨_,rfl⟩;rw[<-hL] at D2 E2 KB hW |-;replace hL:=qa hL;clear h h0 bW D;go_enter Tryz.func91,Tryz.ntmps91
 go_wp2_with fail
 refine KB.out.mono ?_;rintro e w1 ⟨i,ok,rfl,hp,b1⟩;rw[<-hW] at b1;have B1:=qa (HB.out.trans (b1.mono HB.out.size))
 have H1:=qa (H0.out.trans (b1.mono H0.out.size))
 have D2':w1.cell? ⟨w.heap.size,2,none⟩=some (.slice a L c):=(b1.cell (qe E2.out)).trans E2.out
 clear b1 KB HB H0 E2 D0 D1 D2;cases ok with
 | false =>
  have hp':Hid (qH ps id=none):=by
   rcases hp with ⟨q,_⟩|⟨_,q⟩
   ·cases q
   exact q
  clear hp;go_wp2
  go_ret2
  exact⟨_,false,rfl,.inr ⟨rfl,hp'.out,rfl⟩,B1.out⟩
 | true =>
  obtain⟨y,hy,he⟩:∃ y,ps[i]?=some y/\y.1=id:=by
   rcases hp with ⟨_,q⟩|⟨q,_⟩
   ·exact q
   cases q
  clear hp;have hil:(i:Int)<(L:Int):=by rw[hL.out];have:=(xn.1 hy).1;omega
  obtain⟨b,off,u,rfl,hc1,hc2,hr⟩:=HH.out.wrt hy;obtain⟨au,cu,rfl⟩:=hr.slice;replace hc1:=(H1.out.cell (qe hc1)).trans hc1;replace hc2:=(H1.out.cell (qe hc2)).trans hc2;have hR:Hid (qH ps id=some y.2):=vA hu.out hy he
  replace hr:=qa hr;replace hy:=qa hy;replace he:=qa he;go_wp2
  go_ret2
  exact⟨_,true,rfl,.inl ⟨rfl,_,hR.out,hr.out⟩,B1.out⟩
theorem qeu {next:Int} {l:List Wrt} {m:Nat} (h:je next l m):∀ i:Nat,i<m->(i:Int)+1<=tid l i
 | 0,hi=>by have:=(h 0 hi).1;rw[xj rfl] at this;omega
 | i+1,hi=>by
  have:=qeu h i (by omega)
  have hs:=(h (i+1) hi).1
  rw[xh (by omega),XN] at hs
  omega
def ye (t:Tr):Prop:=1<=t.next/\t.next<=65536/\je t.next t.pages t.pages.length
theorem qh0 {n:Int} {l:List Wrt} (h:je n l k) (h2:(if k=0 then 0 else tid l (k-1))<tid l k/\tid l k<n):je n l (k+1):=by
 intro i hi;by_cases e:i=k
 ·subst e;exact h2
 exact h i (by omega)
theorem qkb (w:World) (pv:Value) (T:Tr) (h:RdC w pv T.pages) :
 Calls Tryz.prog 65 #[tv T pv] w fun e w'=>BoolR (ye T) w w' e:=by
 obtain⟨a,c,rfl⟩:=h.slice;have lp:=h.bd
 obtain⟨root,next,ps⟩:=T
 dsimp only[tv] at *;obtain⟨L,hL⟩:∃ L,L=ps.length:=⟨_,rfl⟩;obtain⟨W,hW,D,bW,sW⟩:=qf w #[.int .i64 root,.int .i64 next,.slice a ps.length c] 27
 have HH:=qa h
 have HB:=qa bW
 obtain⟨⟨D0,D1,D2⟩,_⟩:=ql D;have E1:=qa D1
 rw[hW] at D0 D1 D2;rw[<-hL] at hW D2 HH lp |-;replace hL:=qa hL;clear h bW D;go_enter Tryz.func65,Tryz.ntmps65;by_cases n1:next<1
 ·have hr:Hid (¬ ye ⟨root,next,ps⟩):=fun hn=>by have:=hn.1;simp at this;omega
  go_wp2;go_ret;rw[<-hW];exact BoolR.no hr.out HB.out
 by_cases n2:next>65536
 ·have hr:Hid (¬ ye ⟨root,next,ps⟩):=fun hn=>by have:=hn.2.1;simp at this;omega
  go_wp2;go_ret;rw[<-hW];exact BoolR.no hr.out HB.out
 go_wp2;rw[<-hW];replace hW:=qa hW;clear D0 D1 D2
 go_loopw [17,3] (fun b l wr=>∃ (k:Nat) (m:Int),k<=L/\b=.int .i64 k/\l=.int .i64 m/\Hid (m=(if k=0 then 0 else tid ps (k-1))+1/\je next ps k/\Below W.heap.size W wr)) (fun b _ _=>L-(intOf b).toNat)
 case atStart=>exact⟨0,1,xt _,rfl,rfl,qa ⟨rfl,fun k hk=>by omega,xm _ _⟩⟩
 case round =>
 obtain⟨k,m,hk,rfl,rfl,hb⟩:=hrel;have D1:wr.cell? ⟨w.heap.size,1,none⟩=some (.int .i64 next):=(hb.out.2.2.cell (qe E1.out)).trans E1.out
 have hE:=qa (HB.out.trans (hb.out.2.2.mono HB.out.size))
 by_cases hlt:k<L
 ·have hq:(k:Int)<(L:Int):=by omega
  obtain⟨y,hy⟩:=qz ps (k:=k) (by rw[<-hL.out];exact hlt)
  have hny:=qa (JC hy)
  obtain⟨b,off,u,rfl,hc1,hc2,hr⟩:=HH.out.wrt hy;obtain⟨au,cu,rfl⟩:=hr.slice;replace hc1:=(hE.out.cell (qe hc1)).trans hc1;replace hc2:=(hE.out.cell (qe hc2)).trans hc2;replace hy:=qa hy;obtain⟨z,hz⟩:∃ z,z=y.1:=⟨_,rfl⟩;rw[<-hz] at hc1;replace hz:=qa (hny.out.trans hz.symm);clear hny hr;obtain⟨V,hV,DV,bV,sV⟩:=qf wr #[.int .i64 z,.slice au y.2.length cu] 97;obtain⟨⟨V0,V1⟩,_⟩:=Qc DV;have D1':=(bV.cell (qe D1)).trans D1
  have BV:=qa (hb.out.2.2.trans (bV.mono hb.out.2.2.size))
  generalize y.2.length=ly at *;rw[hV] at V0 V1 D1';clear DV bV;by_cases c1:z<m
  ·have hr:Hid (¬ ye ⟨root,next,ps⟩):=fun hn=>by
    have h1:=(hn.2.2 k (by rw[<-hL.out];exact hlt)).1
    have h2:=hb.out.1
    dsimp only at h1;rw[hz.out] at h1;omega
   go_wp2;go_ret;rw[<-hV];exact BoolR.no hr.out (HB.out.trans (BV.out.mono HB.out.size))
  by_cases c2:next<=z
  ·have hr:Hid (¬ ye ⟨root,next,ps⟩):=fun hn=>by
    have h1:=(hn.2.2 k (by rw[<-hL.out];exact hlt)).2
    dsimp only at h1;rw[hz.out] at h1;omega
   go_wp2;go_ret;rw[<-hV];exact BoolR.no hr.out (HB.out.trans (BV.out.mono HB.out.size))
  have hr:Hid (je next ps (k+1)):=qh0 hb.out.2.1 (by have:=hb.out.1;rw[hz.out];omega)
  have hz':Hid (z+1=(if k+1=0 then 0 else tid ps (k+1-1))+1):=by show _=_;rw[xh (by omega),XN,hz.out]
  have c3:¬ z>=next:=c2
  have hm0:1<=m:=by
   have h1:=hb.out.1
   by_cases e:k=0
   ·rw[xj e] at h1;omega
   have h2:=(hb.out.2.1 (k-1) (by omega)).1
   rw[xh e] at h1
   have:0<=(if k-1=0 then(0:Int) else tid ps (k-1-1)):=by
    split
    ·omega
    have:=qeu hb.out.2.1 (k-1-1) (by omega)
    omega
   omega
  obtain⟨z2,hz2⟩:∃ z2,z+1=z2:=⟨_,rfl⟩;have hw2:IntKind.i64.wrap z2=z2:=xB _ (by omega)
  rw[hz2] at hz';go_wp2;rw[<-hV];go_roundw
  case rel=>exact⟨k+1,z2,by omega,by go_num,rfl,qa ⟨hz'.out,hr.out,BV.out⟩⟩
  case measure=>simp[intOf];omega
 have hq:¬ (k:Int)<(L:Int):=by omega
 have hU:Hid (ye ⟨root,next,ps⟩):=by
  obtain rfl:k=L:=by omega
  refine⟨by simpa using n1,by simpa using n2,?_⟩
  show je next ps ps.length
  rw[<-hL.out];exact hb.out.2.1
 go_wp2;go_ret;exact BoolR.yes hU.out hE.out
end Go.Proofs.YtfjadfnjmpefkaaGreat
