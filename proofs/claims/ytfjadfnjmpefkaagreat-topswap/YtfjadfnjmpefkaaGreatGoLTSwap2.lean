/- What TopSwap rests on. -/
import Derived.Deep.QuietTactic
import Derived.BigQuiet
import Derived.Laws.Cover1
import Derived.Test.YtfjadfnjmpefkaaGreatGoLTSwap1
import Derived.Laws.StructEq
import Derived.Deep.AppendLies
import Derived.Maps.OwnSet
import Derived.Test.YtfjadfnjmpefkaaGreatGoLTSwap0
import Derived.WalkMore
import Derived.ScopeJumps
import Derived.Laws.IdiomStrings
import Derived.Lib.SliceRun
import Derived.ArgAppend
import Derived.Test.YtfjadfnjmpefkaaGreatChecked
import Derived.BigRegion
import Derived.Deep.WholeRow
import Derived.Laws.ResultCell
import Derived.Great.Walk
import Derived.Lib.AppendZerosOnto
import Derived.Lib.UnsafeStr
import Derived.RangeFuncNested
import Derived.RangeFuncCalls
import Derived.Lib.AppendStr
import Derived.Laws.Rows
import Derived.RangeFuncBox
import Derived.RangeFuncBound
import Derived.RangeFuncLeaves
import Derived.Shelf.Abstract
import Derived.Shelf.RegionOpen
import Derived.OwnWalkIn
import Derived.TacticsInMore
import Derived.LoopNIn
import Derived.LoopIn
set_option maxRecDepth 100000
set_option maxHeartbeats 8000000
set_option linter.unusedVariables false
set_option linter.unusedSimpArgs false
namespace Go.Proofs.YtfjadfnjmpefkaaGreat
theorem Kq:type_of% @Go.Proofs.Tryz.underlying31:=@Go.Proofs.Tryz.underlying31
theorem Ko:type_of% @Go.Proofs.Tryz.underlying82:=@Go.Proofs.Tryz.underlying82
theorem Kc.{u,v}:type_of% @List.length_zip.{u,v}:=@List.length_zip
theorem kM.{u,v}:type_of% @List.mem_flatMap.{u,v}:=@List.mem_flatMap
theorem kL:type_of% @Go.run_underlying:=@Go.run_underlying
theorem kF:type_of% @Go.Obj.cells.injEq:=@Go.Obj.cells.injEq
theorem ky:type_of% @Go.IntKind.wrap_i64:=@Go.IntKind.wrap_i64
theorem X8:type_of% @Go.Proofs.Tryz.underlying3:=@Go.Proofs.Tryz.underlying3
theorem XY:type_of% @Go.Lib.wpList_append_run:=@Go.Lib.wpList_append_run
theorem XT.{u,v}:type_of% @List.getElem?_map.{u,v}:=@List.getElem?_map
theorem XR.{u}:type_of% @List.all_eq_true.{u}:=@List.all_eq_true
theorem XB:type_of% @Go.Addr.add_lit:=@Go.Addr.add_lit
theorem Xz:type_of% @Go.Proofs.Tryz.underlying81:=@Go.Proofs.Tryz.underlying81
theorem Xw.{u}:type_of% @List.getElem_of_mem.{u}:=@List.getElem_of_mem
theorem Xs.{u}:type_of% @Array.getElem?_eq_some_iff.{u}:=@Array.getElem?_eq_some_iff
theorem Xq:type_of% @Go.wpList_append_lies:=@Go.wpList_append_lies
theorem Xm:type_of% @Go.Result.andThen_ok:=@Go.Result.andThen_ok
theorem xJ:type_of% @Go.Proofs.Tryz.underlying84:=@Go.Proofs.Tryz.underlying84
variable {a:Act} {ops:Array Oper} {cs:Array Value} {d:Dsk} {id z:Int} {F:List Nat} {rest:List Oper} {x0 xs:List UInt8} {cc svs:List Value} {l ws:List Wrt} {B T b bs c c' e f g g' i k m m' n nb s:Nat} {nd:Nd} {o:Oper} {P:Program} {r r':Rr} {x:Str} {t:Tr} {ty:TypeId} {kv prv pv v v' vv:Value} {U V V' W X Y u w w' w0:World}
theorem qB2:type_of% (xb @List.setIfInBounds_toArray.{0} (xb @List.set_cons_zero.{0} (@List.set_cons_succ.{0}))):=xb @List.setIfInBounds_toArray.{0} (xb @List.set_cons_zero.{0} (@List.set_cons_succ.{0}))
open Go.RowKit
theorem VA (w0 w:World) (pv:Value) (T:Tr) (id:Int) (h:RdC w0 pv T.pages) (h0:Below w0.heap.size w0 w) (hu:tUp T.pages) (hl:T.pages.length<=65536) :
 Calls Tryz.prog 105 #[tv T pv,.int .i64 id] w fun e w'=>qmz w0 w w' T.pages id e:=by
 obtain⟨a,c,rfl⟩:=h.slice;obtain⟨root,next,ps⟩:=T
 dsimp only[tv] at *;obtain⟨L,hL⟩:∃ L,L=ps.length:=⟨_,rfl⟩;rw[<-hL] at hl;obtain⟨W,hW,D,bW,sW⟩:=qf w #[.int .i64 root,.int .i64 next,.slice a ps.length c] 68
 have HH:=qa h
 have H0:=qa (h0.trans (bW.mono h0.size))
 have HB:=qa bW
 obtain⟨⟨D0,D1,D2⟩,_⟩:=ql D;clear h bW D h0;have E2:=qa D2
 rw[hW] at D0 D1 D2;rw[<-hL] at hW D2 E2 HH |-;replace hL:=qa hL;have HK:Hid (∀ t s,t<s->s<L->tid ps t<tid ps s):=fun t s h1 h2=>hu t s h1 (by rw[<-hL.out];exact h2)
 clear hu;go_enter Tryz.func105,Tryz.ntmps105;go_wp2
 go_region
 go_wp2;rw[<-hW];replace hW:=qa hW;clear D0 D1 D2;have E2:=E2.out
 have bD:Below W.heap.size W W.drew:=qg W 1 _
 replace H0:=qa (H0.out.trans (bD.mono H0.out.size));replace HB:=qa (HB.out.trans (bD.mono HB.out.size));replace E2:=(bD.cell (qe E2)).trans E2;clear bD;generalize W.drew=W' at *
 go_loopw [6,7] (fun p q wr=>∃ i j:Nat,i<=j/\j<=L/\p=.int .i64 i/\q=.int .i64 j/\W'=wr/\Hid ((∀ t,t<i->tid ps t<id)/\∀ t,j<=t->t<L->id<=tid ps t)) (fun p q _=>(intOf q).toNat-(intOf p).toNat)
 case atStart=>exact⟨0,L,xt _,xc _,rfl,rfl,rfl,qa ⟨fun t h=>by omega,fun t h1 h2=>by omega⟩⟩
 case round =>
 obtain⟨i,j,hij,hjL,rfl,rfl,rfl,hI⟩:=hrel;by_cases hlt:i<j
 ·have hq:(i:Int)<(j:Int):=by omega
  obtain⟨s,hs⟩:∃ s:Nat,(i:Int)+(j:Int)=(s:Int):=⟨i+j,by omega⟩
  have hs1:IntKind.i64.wrap (s:Int)=(s:Int):=xB _ (by omega)
  obtain⟨m,hm⟩:∃ m:Nat,(s:Int)/2=(m:Int):=⟨s/2,by omega⟩
  have hm2:(m:Int)<(L:Int):=by omega
  have hmi:Hid (i<=m/\m<j):=by show _/\_;omega
  obtain⟨y,hy⟩:=qz ps (k:=m) (by rw[<-hL.out];omega)
  have hny:=qa (JC hy)
  obtain⟨b,off,u,rfl,hc1,hc2,hr⟩:=HH.out.wrt hy;replace hy:=qa hy;obtain⟨z,hz⟩:∃ z,z=y.1:=⟨_,rfl⟩;rw[<-hz] at hc1;replace hz:=qa hz;replace hc1:=(H0.out.cell (qe hc1)).trans hc1;clear hc2 hr;by_cases hlx:z<id
  ·have hI':Hid ((∀ t,t<m+1->tid ps t<id)/\∀ t,j<=t->t<L->id<=tid ps t):=⟨fun t ht=>by
    by_cases e:t=m
    ·subst e;rw[hny.out,<-hz.out];exact hlx
    have h1:=HK.out t m (by omega) (by omega)
    rw[hny.out,<-hz.out] at h1;omega,hI.out.2⟩
   go_wp2;go_roundw
   case rel=>exact⟨m+1,j,by have:=hmi.out;omega,hjL,by go_num,rfl,trivial,hI'⟩
   case measure=>have:=hmi.out;simp[intOf];omega
  have hI':Hid ((∀ t,t<i->tid ps t<id)/\∀ t,m<=t->t<L->id<=tid ps t):=⟨hI.out.1,fun t h1 h2=>by
   by_cases e:t=m
   ·subst e;rw[hny.out,<-hz.out];omega
   have h3:=HK.out m t (by omega) h2
   rw[hny.out,<-hz.out] at h3;omega⟩
  go_wp2;go_roundw
  case rel=>exact⟨i,m,hmi.out.1,by have:=hmi.out;omega,rfl,rfl,trivial,hI'⟩
  case measure=>have:=hmi.out;simp[intOf];omega
 have hq:¬ (i:Int)<(j:Int):=by omega
 obtain rfl:i=j:=by omega
 by_cases hiL:i<L
 ·have hq2:(i:Int)<(L:Int):=by omega
  obtain⟨y,hy⟩:=qz ps (k:=i) (by rw[<-hL.out];omega)
  have hny:=qa (JC hy)
  obtain⟨b,off,u,rfl,hc1,hc2,hr⟩:=HH.out.wrt hy;obtain⟨au,cu,rfl⟩:=hr.slice;replace hc1:=(H0.out.cell (qe hc1)).trans hc1;replace hc2:=(H0.out.cell (qe hc2)).trans hc2;replace hy:=qa hy;replace hr:=qa hr;obtain⟨z,hz⟩:∃ z,z=y.1:=⟨_,rfl⟩;rw[<-hz] at hc1;replace hz:=qa hz;by_cases he:z=id
  ·have hp:Hid (qH ps id=some y.2):=vA (fun a b h1 h2=>HK.out a b h1 (by rw[hL.out];exact h2)) hy.out (by rw[<-hz.out];exact he)
   go_wp2
   go_ret2
   exact⟨_,true,rfl,.inl ⟨rfl,_,hp.out,hr.out⟩,HB.out⟩
  have hp:Hid (qH ps id=none):=jw fun t ht=>by
   by_cases h1:t<i
   ·have:=hI.out.1 t h1;omega
   by_cases h2:t=i
   ·subst h2;rw[hny.out,<-hz.out];exact he
   have h3:=HK.out i t (by omega) (by rw[hL.out];exact ht)
   have h4:=hI.out.2 i (xc _) hiL
   omega
  go_wp2
  go_ret2
  exact⟨_,false,rfl,.inr ⟨rfl,hp.out,rfl⟩,HB.out⟩
 have hq2:¬ (i:Int)<(L:Int):=by omega
 have hp:Hid (qH ps id=none):=jw fun t ht=>by have:=hI.out.1 t (by rw[<-hL.out] at ht;omega);omega
 go_wp2
 go_ret2
 exact⟨_,false,rfl,.inr ⟨rfl,hp.out,rfl⟩,HB.out⟩
theorem qkz (w:World) (pv:Value) (T:Tr) (id:Int) (h:RdC w pv T.pages) (hu:tUp T.pages) (hl:T.pages.length<=65536) :
 Calls Tryz.prog 105 #[tv T pv,.int .i64 id] w fun e w'=>qsh w w' T.pages id e:=by
 refine(VA w w pv T id h (xm _ _) hu hl).mono ?_;rintro e w' ⟨bv,ok,rfl,hp,b⟩;refine⟨bv,ok,rfl,?_,b⟩;rcases hp with ⟨h1,x,h2,h3⟩|hp
 ·exact .inl ⟨h1,x,h2,h3.to b⟩
 exact .inr hp
def TNum (t:Tr):Prop:=1<=t.next/\t.next<=65536/\je t.next t.pages t.pages.length/\(t.root=0\/qH t.pages t.root≠none)
instance (n:Int) (l:List Wrt) (k:Nat):Decidable (je n l k):=by unfold je;infer_instance
instance (t:Tr):Decidable (TNum t):=by unfold TNum;infer_instance
theorem qlg {n:Int} (h:je n l k) (h2:(if k=0 then 0 else tid l (k-1))<tid l k/\tid l k<n):je n l (k+1):=by
 intro i hi;by_cases e:i=k
 ·subst e;exact h2
 exact h i (by omega)
def TInvN (w W:World) (root next:Int) (pv:Value) (ps:List Wrt) (wr:World):Prop:=Below W.heap.size W wr/\(wr.cell? ⟨w.heap.size,0,none⟩=some (.int .i64 root)/\wr.cell? ⟨w.heap.size,1,none⟩=some (.int .i64 next)/\wr.cell? ⟨w.heap.size,2,none⟩=some pv)/\RdC wr pv ps
theorem TInvN.to {root next:Int} {ps:List Wrt} {wr:World} (h:TInvN w W root next pv ps wr) (hb:Below wr.heap.size wr w'):TInvN w W root next pv ps w' :=
 ⟨h.1.trans (hb.mono h.1.size),⟨(hb.cell (qe h.2.1.1)).trans h.2.1.1,(hb.cell (qe h.2.1.2.1)).trans h.2.1.2.1,(hb.cell (qe h.2.1.2.2)).trans h.2.1.2.2⟩,h.2.2.to0 hb⟩
theorem qc2 (w:World) (pv:Value) (T:Tr) (h:RdC w pv T.pages) :
 Calls Tryz.prog 76 #[tv T pv] w fun e w'=>e=.returned (.bool (decide (TNum T)))/\Below w.heap.size w w':=by
 obtain⟨a,c,rfl⟩:=h.slice;have lp:=h.bd
 obtain⟨root,next,ps⟩:=T
 dsimp only[tv] at *;obtain⟨L,hL⟩:∃ L,L=ps.length:=⟨_,rfl⟩;obtain⟨W,hW,D,bW,sW⟩:=qf w #[.int .i64 root,.int .i64 next,.slice a ps.length c] 68
 have HH:=qa (h.to0 bW)
 have HB:=qa bW
 obtain⟨⟨D0,D1,D2⟩,_⟩:=ql D;clear h bW D;have E:=qa (xb D0 (xb D1 D2))
 rw[hW] at D0 D1 D2;rw[<-hL] at hW D2 E HH lp |-;replace hL:=qa hL;obtain⟨R,hR⟩:∃ R,R=decide (TNum ⟨root,next,ps⟩):=⟨_,rfl⟩
 rw[<-hR];have hF:Hid (¬ TNum ⟨root,next,ps⟩->R=false):=fun hn=>by rw[hR];exact xw hn
 have hT:Hid (TNum ⟨root,next,ps⟩->R=true):=fun hn=>by rw[hR];exact xv hn
 clear hR;go_enter Tryz.func76,Tryz.ntmps76;by_cases n1:next<1
 ·have hr:Hid (R=false):=hF.out fun hn=>by have:=hn.1;simp at this;omega
  go_wp2;go_ret;rw[<-hW];exact⟨XE _ (XE _ hr.out.symm),HB.out⟩
 by_cases n2:next>65536
 ·have hr:Hid (R=false):=hF.out fun hn=>by have:=hn.2.1;simp at this;omega
  go_wp2;go_ret;rw[<-hW];exact⟨XE _ (XE _ hr.out.symm),HB.out⟩
 go_wp2;rw[<-hW];replace hW:=qa hW;clear D0 D1 D2;have HI:Hid (TInvN w W root next (.slice a L c) ps W):=⟨xm _ _,E.out,HH.out⟩
 clear HH E
 go_loopw [4,3] (fun b l wr=>∃ k:Nat,k<=L/\b=.int .i64 k/\l=.int .i64 (if k=0 then 0 else tid ps (k-1))/\Hid (je next ps k/\TInvN w W root next (.slice a L c) ps wr)) (fun b _ _=>L-(intOf b).toNat)
 case atStart=>exact⟨0,xt _,rfl,rfl,qa ⟨fun k hk=>by omega,HI.out⟩⟩
 case round =>
 obtain⟨k,hk,rfl,rfl,hb⟩:=hrel;obtain⟨D0,D1,D2⟩:=hb.out.2.2.1;have hE:Hid (∀ w',Below wr.heap.size wr w'->Below w.heap.size w w'):=fun w' b=>HB.out.trans ((hb.out.2.to b).1.mono HB.out.size)
 obtain⟨l,hl⟩:∃ l,l=(if k=0 then 0 else tid ps (k-1)):=⟨_,rfl⟩
 rw[<-hl];replace hl:=qa hl;by_cases hlt:k<L
 ·have hq:(k:Int)<(L:Int):=by omega
  obtain⟨y,hy⟩:=qz ps (k:=k) (by rw[<-hL.out];exact hlt)
  have hny:=qa (JC hy)
  obtain⟨b,off,u,rfl,hc1,_,_⟩:=hb.out.2.2.2.wrt hy;replace hy:=qa hy;obtain⟨z,hz⟩:∃ z,z=y.1:=⟨_,rfl⟩;rw[<-hz] at hc1;replace hz:=qa (hny.out.trans hz.symm);clear hny;by_cases c1:z<=l
  ·have g1:decide (z<=l)=true:=xv c1
   have hr:Hid (R=false):=hF.out fun hn=>by have:=(hn.2.2.1 k (by rw[<-hL.out];exact hlt)).1;dsimp only at this;rw[<-hl.out,hz.out] at this;omega
   go_wp2_with fail
   go_quiet (fail)
   go_wp2;go_ret;exact⟨XE _ (XE _ hr.out.symm),hE.out _ (qg wr _ _)⟩
  have g1:decide (z<=l)=false:=xw c1
  by_cases c2:next<=z
  ·have g2:decide (next<=z)=true:=xv c2
   have hr:Hid (R=false):=hF.out fun hn=>by have:=(hn.2.2.1 k (by rw[<-hL.out];exact hlt)).2;dsimp only at this;rw[hz.out] at this;omega
   go_wp2_with fail
   go_quiet (fail)
   go_wp2;go_ret;exact⟨XE _ (XE _ hr.out.symm),hE.out _ (qg wr _ _)⟩
  have g2:decide (next<=z)=false:=xw c2
  have hr:Hid (je next ps (k+1)):=qlg hb.out.1 (by rw[<-hl.out,hz.out];omega)
  have hz':Hid (z=if k+1=0 then 0 else tid ps (k+1-1)):=by show _=_;rw[xh (by omega),XN,hz.out]
  go_wp2_with fail
  go_quiet (fail)
  go_wp2;go_roundw
  case rel=>exact⟨k+1,by omega,by go_num,XE _ hz'.out,qa ⟨hr.out,hb.out.2.to (qg wr _ _)⟩⟩
  case measure=>simp[intOf];omega
 have hq:¬ (k:Int)<(L:Int):=by omega
 have hU:Hid (je next ps ps.length):=by
  obtain rfl:k=L:=by omega
  rw[<-hL.out];exact hb.out.1
 have hlen:ps.length<=65536:=by have:=Zu hU.out (by omega);omega
 have KP:=qa (qkz wr (.slice a L c) ⟨root,next,ps⟩ root hb.out.2.2.2 (YK hU.out) hlen)
 have HI:=qa hb.out.2
 clear hb hlen
 go_wp2_with fail
 refine KP.out.mono ?_;rintro e w1 ⟨bv,ok,rfl,hp,b1⟩;have hE1:=qa (hE.out _ b1)
 obtain⟨D0,D1,D2⟩:=(HI.out.to b1).2.1
 have hR:Hid ((root == 0||ok)=R):=by
  show _=_
  have hiff:TNum ⟨root,next,ps⟩↔(root=0\/ok=true):=by
   refine⟨fun hn=>?_,fun hn=>⟨by simpa using n1,by simpa using n2,hU.out,?_⟩⟩
   ·rcases hn.2.2.2 with h0|h0
    ·exact .inl h0
    rcases hp with ⟨o,_⟩|⟨_,o,_⟩
    ·exact .inr o
    exact absurd o h0
   rcases hn with h0|h0
   ·exact .inl h0
   refine .inr ?_;rcases hp with ⟨_,x,o,_⟩|⟨o,_⟩
   ·show qH ps root≠none
    rw[o];simp
   rw[o] at h0;cases h0
  by_cases hn:TNum ⟨root,next,ps⟩
  ·rw[hT.out hn];simpa using hiff.1 hn
  rw[hF.out hn];have:=mt hiff.2 hn
  apply X9.2
  simpa using this
 clear hp KP HI hE;by_cases r0:root=0
 ·have hr:Hid (R=true):=by show _=_;rw[<-hR.out,r0];rfl
  go_wp2;go_ret;exact⟨XE _ (XE _ hr.out.symm),hE1.out⟩
 go_wp2;go_ret;exact⟨XE _ (XE _ hR.out),hE1.out⟩
abbrev Pr:=Str×Str
abbrev SPr:Shp Pr:=Shp.str.pair Shp.str
abbrev RdP (w:World) (v:Value) (l:List Pr):Prop:=RdS SPr w v l
theorem RdS.prAt {a:Option Addr} {cap:Nat} {l:List Pr} (h:RdP w (.slice a n cap) l) {y:Pr} (hy:l[i]?=some y) :
 ∃ b off,a=some ⟨b,off,none⟩/\w.cell? ⟨b,off+i*2,none⟩=some (st y.1)/\w.cell? ⟨b,off+i*2+1,none⟩=some (st y.2):=by
 obtain⟨b,off,u,v,e,hc,hc2,e1,e2⟩:=RdS.at2 rfl rfl h hy;have q1:[u]=[st y.1]:=e1
 have q2:[v]=[st y.2]:=e2
 simp at q1 q2;subst q1;subst q2;exact⟨b,off,e,hc,hc2⟩
def ZR (k:Str):Bool:=decide (1<=k.length/\k.length<=32)
def ZS (l:List Pr) (k:Str):Bool:=l.any fun y=>y.1 == k
theorem VV {a b:Bool} (h:a=b):Ending.returned (.bool a)=.returned (.bool b):=by rw[h]
theorem qnz (w:World) (k:Str) (hk:k.length<=9223372036854775807):Calls Tryz.prog 55 #[st k] w fun e w'=>e=.returned (.bool (ZR k))/\w=w':=by
 obtain⟨n,hn⟩:∃ n,n=k.length:=⟨_,rfl⟩;obtain⟨R,hR⟩:∃ R,R=ZR k:=⟨_,rfl⟩;rw[<-hR];have hR':Hid (R=decide (1<=k.length/\k.length<=32)):=hR
 clear hR;go_enter Tryz.func55,Tryz.ntmps55;by_cases c1:(1:Int)<=(k.length:Int)
 ·go_wp2;go_ret;refine⟨VV ?_,rfl⟩;rw[hR'.out];by_cases c2:k.length<=32
  ·have:1<=k.length:=by omega
   simp[c2,this];omega
  simp[c2];try omega
 go_wp2;go_ret;refine⟨VV ?_,rfl⟩;rw[hR'.out];have:¬ 1<=k.length:=by omega
 simp[this];try omega
theorem qgf (w:World) (v:Value) (l:List Pr) (key:Str) (h:RdP w v l):Calls Tryz.prog 56 #[v,st key] w fun e w'=>e=.returned (.bool (ZS l key))/\w=w':=by
 have lb:=h.bd
 obtain⟨a,c,rfl⟩:=h.slice;obtain⟨L,hL⟩:∃ L,L=l.length:=⟨_,rfl⟩;rw[<-hL] at h lb |-;replace hL:=qa hL;have HH:=qa h
 clear h;go_enter Tryz.func56,Tryz.ntmps56;go_wp2
 go_loopw [5] (fun p wr=>∃ i:Nat,i<=L/\p=.int .i64 i/\w=wr/\Hid (∀ t y,t<i->l[t]?=some y->(y.1 == key)=false)) (fun p _=>L-(intOf p).toNat)
 case atStart=>exact⟨0,xt _,rfl,rfl,qa fun t y h=>by omega⟩
 case round =>
 obtain⟨i,hi,rfl,rfl,hI⟩:=hrel;by_cases hlt:i<L
 ·have hq:(i:Int)<(L:Int):=by omega
  obtain⟨y,hy⟩:=qz l (k:=i) (by rw[<-hL.out];exact hlt)
  obtain⟨b,off,rfl,hc1,_⟩:=HH.out.prAt hy;replace hy:=qa hy;obtain⟨x,hx⟩:∃ x,x=y.1:=⟨_,rfl⟩;rw[<-hx] at hc1;replace hx:=qa hx;cases he:(x == key) with
  | true =>
   have hr:Hid (ZS l key=true):=by
    show _=_
    unfold ZS;rw[List.any_eq_true];exact⟨y,xQ hy.out,by rw[<-hx.out];exact he⟩
   go_wp2;go_ret;exact⟨VV hr.out.symm,rfl⟩
  | false =>
   have hI':Hid (∀ t y,t<i+1->l[t]?=some y->(y.1 == key)=false):=fun t z ht hz=>by
    by_cases e:t=i
    ·subst e;have:=hz.symm.trans hy.out
     simp at this;subst this;rw[<-hx.out];exact he
    exact hI.out t z (by omega) hz
   go_wp2;go_roundw
   case rel=>exact⟨i+1,by omega,by go_num,trivial,hI'⟩
   case measure=>simp[intOf];omega
 have hq:¬ (i:Int)<(L:Int):=by omega
 have hr:Hid (ZS l key=false):=by
  show _=_
  unfold ZS;rw[List.any_eq_false];intro y hy;obtain⟨t,ht,e⟩:=Xw hy;have:=hI.out t y (by have:=hL.out;omega) (by rw[xg ht,e])
  simp[this]
 go_wp2;go_ret;exact⟨VV hr.out.symm,rfl⟩
theorem qmp (a b c d:Str) (w:World):(binOp .neq 63 (.agg #[st a,st b]) (.agg #[st c,st d])).run Tryz.prog w=.ok (.bool (!(a == c&&b == d))) w:=by
 have e1:Tryz.prog.underlying 63=some (.struct (Tryz.prog.fieldsOf 63)):=by kernel_rfl
 have e2:Tryz.prog.stoodInHeld 63=false:=by kernel_rfl
 rw[run_neq_struct,run_equalIn_struct w 9999 _ _ _ e1 e2];have e3 : (Tryz.prog.fieldsOf 63).toList.map (fun f => (f.name == "_", f.type, f.offset)) = [(false, 9, 0), (false, 9, 1)] := by kernel_rfl
 have e4:Tryz.prog.underlying 9=some .string:=by kernel_rfl
 have p0:∀ x y:Value,(part 9 #[x,y] 0).run Tryz.prog w=.ok x w:=fun x y=>by kernel_rfl
 have p1:∀ x y:Value,(part 9 #[x,y] 1).run Tryz.prog w=.ok y w:=fun x y=>by kernel_rfl
 have e5:∀ x y:Str,(Op.equalIn 9999 9 (st x) (st y)).run Tryz.prog w=.ok (x == y) w:=fun x y=>by
  rw[run_equalIn_string w 9998 _ _ _ e4,ByteArray.toList_eq,ByteArray.toList_eq]
 generalize (Tryz.prog.fieldsOf 63).toList=fs at e3 |-;rcases fs with _|⟨f0,_|⟨f1,_|⟨f2,r⟩⟩⟩<;>simp at e3
 obtain⟨⟨a1,a2,a3⟩,b1,b2,b3⟩:=e3;simp only[Op.eqFields,a1,a2,a3,b1,b2,b3,ne_eq,not_false_eq_true,kS,Sem.run_bind,p0,p1,e5,Xm,Sem.run_ite,Sem.run_pure];cases (a == c)<;>cases (b == d)<;>rfl
theorem qod (op:BinOp) (x y:Operand) (a b:Array Value) (w:World):(eqGuard op 63 x y (.agg a) (.agg b)).run Tryz.prog w=.ok () w :=
 run_eqGuard_agg w op _ x y a b (by kernel_rfl)
theorem yE (w:World) (v u:Value) (l m:List Pr) (h1:RdP w v l) (h2:RdP w u m):Calls Tryz.prog 17 #[v,u] w fun e w'=>e=.returned (.bool (decide (l=m)))/\Below w.heap.size w w':=by
 have lb:=h1.bd
 have mb:=h2.bd
 obtain⟨a,c,rfl⟩:=h1.slice;obtain⟨a2,c2,rfl⟩:=h2.slice;obtain⟨R,hR⟩:∃ R,R=decide (l=m):=⟨_,rfl⟩;rw[<-hR];replace hR:=qa hR;obtain⟨L,hL⟩:∃ L,L=l.length:=⟨_,rfl⟩;obtain⟨M,hM⟩:∃ M,M=m.length:=⟨_,rfl⟩;rw[<-hL] at h1 lb |-;rw[<-hM] at h2 mb |-;replace hL:=qa hL;replace hM:=qa hM;have H1:=qa h1
 have H2:=qa h2
 clear h1 h2;go_enter Tryz.func17,Tryz.ntmps17;by_cases hl:L=M
 ·subst hl;go_wp2
  go_loopw [5] (fun p wr=>∃ i:Nat,i<=L/\p=.int .i64 i/\Hid (Below w.heap.size w wr/\∀ t,t<i->l[t]?=m[t]?)) (fun p _=>L-(intOf p).toNat)
  case atStart=>exact⟨0,xt _,rfl,qa ⟨xm _ _,fun t h=>by omega⟩⟩
  case round =>
  obtain⟨i,hi,rfl,hI⟩:=hrel;by_cases hlt:i<L
  ·have hq:(i:Int)<(L:Int):=by omega
   obtain⟨y,hy⟩:=qz l (k:=i) (by rw[<-hL.out];exact hlt)
   obtain⟨z,hz⟩:=qz m (k:=i) (by rw[<-hM.out];exact hlt)
   obtain⟨b,off,rfl,hc1,hc2⟩:=(H1.out.to0 hI.out.1).prAt hy;obtain⟨b',off',rfl,hd1,hd2⟩:=(H2.out.to0 hI.out.1).prAt hz;replace hy:=qa hy;replace hz:=qa hz;obtain⟨y1,y2⟩:=y;obtain⟨z1,z2⟩:=z;dsimp only at hc1 hc2 hd1 hd2;have q1:=qmp y1 y2 z1 z2
   have q2:=qod .neq
   cases hq3:(y1 == z1&&y2 == z2) with
   | true =>
    rw[hq3] at q1
    have hI':Hid (∀ t,t<i+1->l[t]?=m[t]?):=fun t ht=>by
     by_cases e:t=i
     ·subst e;rw[hy.out,hz.out];simp at hq3;rw[hq3.1,hq3.2]
     exact hI.out.2 t (by omega)
    replace hq3:=qa hq3
    go_wp2_with fail
    go_region
    go_wp2;go_roundw
    case rel=>exact⟨i+1,by omega,by go_num,qa ⟨hI.out.1.trans (qg _ 1 _),hI'.out⟩⟩
    case measure=>simp[intOf];omega
   | false =>
    rw[hq3] at q1
    have hr:Hid (R=false):=by
     show _=_
     rw[hR.out];refine xw fun e=>?_;have:=hy.out.symm.trans ((XE (·[i]?) e).trans hz.out)
     simp at this;rw[this.1,this.2] at hq3;simp at hq3
    replace hq3:=qa hq3
    go_wp2_with fail
    go_region
    go_wp2;go_ret;exact⟨VV hr.out.symm,hI.out.1.trans (qg _ 1 _)⟩
  have hq:¬ (i:Int)<(L:Int):=by omega
  have hr:Hid (R=true):=by
   show _=_
   rw[hR.out];refine xv (List.ext_getElem? fun t=>?_);by_cases ht:t<i
   ·exact hI.out.2 t ht
   rw[XA (by rw[<-hL.out];omega),XA (by rw[<-hM.out];omega)]
  go_wp2;go_ret;exact⟨VV hr.out.symm,hI.out.1⟩
 have hq:((L:Int) != (M:Int))=true:=by simp;omega
 have hr:Hid (R=false):=by
  show _=_
  rw[hR.out];refine xw fun e=>hl ?_;rw[hL.out,hM.out,e]
 replace hl:=qa hl;go_wp2;go_ret;exact⟨VV hr.out.symm,xm _ _⟩
def kin (lo:Str) (hi:Option Str) (k:Str):Bool := !slt k lo&&(match hi with|none=>true|some h=>slt k h)
structure Sw where
 seen:List Int
 dep:Option Nat
 prs:List Pr
def Qi (n:Nd) (lo:Str) (i:Nat):Str:=if i=0 then lo else n.keys.getD (i-1) []
def qZ (n:Nd) (hi:Option Str) (i:Nat):Option Str:=if i<n.keys.length then some (n.keys.getD i []) else hi
def wkK (g:Int->Str->Option Str->Sw->Option Sw) (n:Nd) (lo:Str) (hi:Option Str):Nat->List Int->Sw->Option Sw
 | _,[],s=>some s
 | i,k::r,s=>(g k (Qi n lo i) (qZ n hi i) s).bind (wkK g n lo hi (i+1) r)
def npr (n:Nd):List Pr:=n.keys.zip n.vals
def wk (l:List Wrt):Nat->Int->Str->Option Str->Sw->Option Sw
 | 0,_,_,_,_=>none
 | f+1,id,lo,hi,s =>
  match qH l id with
  | none=>none
  | some x =>
   if id∈s.seen then none
   else if(QJ x).2≠0 then none
   else if(QJ x).1.keys.all (kin lo hi)=false then none
   else if(QJ x).1.leaf=true then
    if(QJ x).1.keys=[]\/(s.dep≠none/\s.dep≠some f) then none
    else some ⟨id::s.seen,some f,s.prs++npr (QJ x).1⟩
   else wkK (wk l f) (QJ x).1 lo hi 0 (QJ x).1.kids ⟨id::s.seen,s.dep,s.prs⟩
theorem qed (g:Int->Str->Option Str->Sw->Option Sw) (n:Nd) (lo:Str) (hi:Option Str):∀ (a:List Int) (i:Nat) (k:Int) (s:Sw),
 wkK g n lo hi i (a++[k]) s=(wkK g n lo hi i a s).bind (g k (Qi n lo (i+a.length)) (qZ n hi (i+a.length)))
 | [],i,k,s=>by
  simp only[xG,wkK,xX,XK,Option.bind_some];cases g k (Qi n lo i) (qZ n hi i) s<;>rfl
 | b::a,i,k,s=>by
  simp only[xD,wkK,xC];cases g b (Qi n lo i) (qZ n hi i) s with
  | none=>rfl
  | some s' =>
   simp only[Option.bind_some];rw[qed g n lo hi a (i+1) k s',show i+1+a.length=i+(a.length+1) from by omega]
theorem Vz (g:Int->Str->Option Str->Sw->Option Sw) (n:Nd) (lo:Str) (hi:Option Str) (l:List Int) (s:Sw) {k:Int} (h:l[i]?=some k) :
 wkK g n lo hi 0 (l.take (i+1)) s=(wkK g n lo hi 0 (l.take i) s).bind (g k (Qi n lo i) (qZ n hi i)):=by
 rw[Xf,h];show wkK g n lo hi 0 (l.take i++[k]) s=_
 have hl:(l.take i).length=i:=by rw[xp,ke];have:=(xn.1 h).1;omega
 rw[qed,hl,XD]
theorem Jr {lo:Str} {hi:Option Str} {s:Sw} (h:qH l id=none):wk l f id lo hi s=none:=by
 cases f with
 | zero=>rfl
 | succ f=>unfold wk;rw[h]
theorem Yk {lo:Str} {hi:Option Str} {s:Sw} (h:id∈s.seen):wk l f id lo hi s=none:=by
 cases f with
 | zero=>rfl
 | succ f=>unfold wk;cases qH l id<;>simp[h]
theorem qcy {lo:Str} {hi:Option Str} {s:Sw} {x:List UInt8} (hx:qH l id=some x) (h:(QJ x).2≠0):wk l f id lo hi s=none:=by
 cases f with
 | zero=>rfl
 | succ f=>unfold wk;rw[hx];simp[h]
theorem qra {lo:Str} {hi:Option Str} {s:Sw} {x:List UInt8} (hx:qH l id=some x) {j:Nat} {k:Str} (hj:(QJ x).1.keys[j]?=some k) (hk:kin lo hi k=false):wk l f id lo hi s=none:=by
 cases f with
 | zero=>rfl
 | succ f =>
  have:(QJ x).1.keys.all (kin lo hi)=false:=by
   rw[List.all_eq_false];exact⟨k,xQ hj,by simp[hk]⟩
  unfold wk;rw[hx];simp[this]
theorem yq {lo:Str} {hi:Option Str} {s:Sw} {x:List UInt8} {n:Nd} (hx:qH l id=some x) (hs:id ∉ s.seen) (hd:QJ x=(n,0)) (ha:n.keys.all (kin lo hi)=true) (hl:n.leaf=true) :
 wk l (f+1) id lo hi s=if n.keys=[]\/(s.dep≠none/\s.dep≠some f) then none else some ⟨id::s.seen,some f,s.prs++npr n⟩:=by
 conv=>lhs;unfold wk
 rw[hx];simp only[hs,hd,ha,hl,XJ,kS];simp
theorem J8 {lo:Str} {hi:Option Str} {s:Sw} {x:List UInt8} {n:Nd} (hx:qH l id=some x) (hs:id ∉ s.seen) (hd:QJ x=(n,0)) (ha:n.keys.all (kin lo hi)=true) (hl:n.leaf=false) :
 wk l (f+1) id lo hi s=wkK (wk l f) n lo hi 0 n.kids ⟨id::s.seen,s.dep,s.prs⟩:=by
 conv=>lhs;unfold wk
 rw[hx];simp only[hs,hd,ha,hl,XJ];simp
theorem qi3 {l:List Str} {lo:Str} {hi:Option Str} (h:∀ (j:Nat) (k:Str),l[j]?=some k->kin lo hi k=true):l.all (kin lo hi)=true:=by
 rw[XR];intro k hk;obtain⟨j,hj,e⟩:=Xw hk;exact h j k (by rw[xg hj,e])
theorem qd9 {g:Int->Str->Option Str->Sw->Option Sw} (hg:∀ k lo hi s s',g k lo hi s=some s'->s.prs.length<=s'.prs.length) (n:Nd) (lo:Str) (hi:Option Str) :
 ∀ (ks:List Int) (i:Nat) (s s':Sw),wkK g n lo hi i ks s=some s'->s.prs.length<=s'.prs.length
 | [],i,s,s',h=>by simp only[wkK,xr] at h;subst h;exact xc _
 | k::r,i,s,s',h=>by
  simp only[wkK] at h;cases h1:g k (Qi n lo i) (qZ n hi i) s with
  | none=>rw[h1] at h;cases h
  | some s1 =>
   rw[h1] at h;exact xi (hg _ _ _ _ _ h1) (qd9 hg n lo hi r (i+1) s1 s' h)
theorem qiv (l:List Wrt):∀ (f:Nat) (id:Int) (lo:Str) (hi:Option Str) (s s':Sw),wk l f id lo hi s=some s'->s.prs.length<=s'.prs.length
 | 0,id,lo,hi,s,s',h=>by cases h
 | f+1,id,lo,hi,s,s',h=>by
  unfold wk at h
  split at h
  ·cases h
  split at h
  ·cases h
  split at h
  ·cases h
  split at h
  ·cases h
  split at h
  ·split at h
   ·cases h
   simp only[xr] at h;subst h;simp
  have:=qd9 (fun k lo hi s s' hk=>qiv l f k lo hi s s' hk) _ lo hi _ 0 _ s' h
  exact this
theorem qn1 {g:Int->Str->Option Str->Sw->Option Sw} (hg:∀ k lo hi s s',g k lo hi s=some s'->s.prs.length<=s'.prs.length) (n:Nd) (lo:Str) (hi:Option Str) (l:List Int) (s s'':Sw) (h:wkK g n lo hi 0 l s=some s'') :
 ∀ d k,k+d=l.length->∃ sk,wkK g n lo hi 0 (l.take k) s=some sk/\sk.prs.length<=s''.prs.length
 | 0,k,hk=>⟨s'',by rw[xx (by omega)];exact h,xc _⟩
 | d+1,k,hk=>by
  obtain⟨s1,h1,h2⟩:=qn1 hg n lo hi l s s'' h d (k+1) (by omega)
  obtain⟨x,hx⟩:∃ x,l[k]?=some x:=⟨_,xg (by omega)⟩
  rw[Vz _ _ _ _ _ _ hx] at h1;cases h3:wkK g n lo hi 0 (l.take k) s with
  | none=>rw[h3] at h1;cases h1
  | some sk =>
   rw[h3] at h1;exact⟨sk,rfl,xi (hg _ _ _ _ _ h1) h2⟩
def Qn (t:Tr):Option Sw:=if t.root=0 then some ⟨[],none,[]⟩ else wk t.pages 16 t.root [] none ⟨[],none,[]⟩
def QR (t:Tr):Option (List Pr):=if TNum t then(Qn t).bind fun s=>if s.prs.length<=4096 then some s.prs else none else none
abbrev qm:Value:=.slice none 0 0
theorem Q8 {own:Option Nat} (g:w.grownBy w' own) (h:w.ownsRow B T n v m cc) (hd:∀ k,own=some k->v.ownBlock≠some k):w'.ownsRow B T n v m cc :=
 h.kept g (by
  cases hv:v.ownBlock with
  | none=>exact .inl rfl
  | some k=>right;intro e;exact hd k e.symm hv)
theorem qO (h:w.ownsRow B T n v m cc):∀ k,v.ownBlock=some k->B<=k/\k<w.heap.size:=fun k hk=>xo h k hk
theorem ZX {sz:Nat} {own o:Option Nat} (hg:own=some g'\/g'=sz) (hd:∀ k,own=some k->o≠some k) (hlt:∀ k,o=some k->k<sz):∀ k,(Value.slice (some ⟨g',0,none⟩) m' c').ownBlock=some k->o≠some k:=by
 intro k e e';have hk:g'=k:=by simpa[Value.ownBlock] using e
 subst hk;rcases hg with hg|hg
 ·exact hd _ hg e'
 have:=hlt _ e';omega
theorem ZF {a b c d:Value} {t:TypeId} {fr:Nat×Nat} (h:u.heap[g]?=some (.cells #[a,b,c,d] t fr)) (x:Value):(u.setCell ⟨g,1,none⟩ x).heap[g]?=some (.cells #[a,x,c,d] t fr)/\(u.setCell ⟨g,2,none⟩ x).heap[g]?=some (.cells #[a,b,x,d] t fr)/\(u.setCell ⟨g,3,none⟩ x).heap[g]?=some (.cells #[a,b,c,x] t fr):=by
 refine⟨?_,?_,?_⟩<;>simp[World.setCell,Xc,h]
structure RStP (w0:World) (xs:List UInt8) (nb:Nat) (w:World) (kv vv dv:Value) (n:Nd) (r:Rr):Prop where
 rdr:RdrP w0 (w0.heap.size+1) w xs r
 res:w.heap[w0.heap.size]?=some (.cells #[.bool false,qm,qm,qm] 206 (0,0))
 box:w.heap[nb]?=some (.cells #[.bool n.leaf,kv,vv,dv] 206 (0,0))
 own:OwnN (nb+1) w kv vv dv n
 hnb:w0.heap.size+1<nb
 d1:∀ k,kv.ownBlock=some k->vv.ownBlock≠some k
 d2:∀ k,kv.ownBlock=some k->dv.ownBlock≠some k
 d3:∀ k,vv.ownBlock=some k->dv.ownBlock≠some k
theorem RStP.below {dv:Value} {n:Nd} (h:RStP w0 xs nb w kv vv dv n r) (b:Below w.heap.size w U):RStP w0 xs nb U kv vv dv n r :=
 ⟨h.rdr.to b,(b.block _ (xa h.res)).trans h.res,(b.block _ (xa h.box)).trans h.box,h.own.to b,h.hnb,h.d1,h.d2,h.d3⟩
theorem RStP.call {dv:Value} {n:Nd} (h:RStP w0 xs nb w kv vv dv n r) (k:KpG (w0.heap.size+1) w U) (hr:RdrP w0 (w0.heap.size+1) U xs r'):RStP w0 xs nb U kv vv dv n r' :=
 ⟨hr,(k.1 _ (xa h.res) (by omega)).trans h.res,(k.1 _ (xa h.box) (by have:=h.hnb;omega)).trans h.box,⟨k.row h.own.keys (by have:=h.hnb;omega),k.row h.own.vals (by have:=h.hnb;omega),k.row h.own.kids (by have:=h.hnb;omega)⟩,h.hnb,h.d1,h.d2,h.d3⟩
theorem YZ {own:Option Nat} (h:RdrP w0 g w xs r) (k:w.grownBy w' own) (hg:∀ b,own=some b->g<b):RdrP w0 g w' xs r:=by
 obtain⟨a,c,L,at',h⟩:=h;have hl:=xa h.box
 have hs:=h.bel.size
 exact⟨a,c,L,at',(k.block g hl (fun e=>by have:=hg g e.symm;omega)).trans h.box,h.rd,h.len,h.le,h.rest,h.bel.grown k hs (fun b e=>by have:=hg b e;have:=h.hg;omega),h.hg⟩
theorem VX (h:RdrP w0 g w xs r) (hn:g<nb) (i:Nat) (v:Value):RdrP w0 g (w.setCell ⟨nb,i,none⟩ v) xs r:=by
 obtain⟨a,c,L,at',h⟩:=h;exact⟨a,c,L,at',(xd _ _ _ _ (by show g≠nb;omega)).trans h.box,h.rd,h.len,h.le,h.rest,h.bel.setCell (p:=⟨nb,i,none⟩) (by have:=h.hg;show w0.heap.size<=nb;omega) v,h.hg⟩
theorem RStP.keys {dv:Value} {n:Nd} (h:RStP w0 xs nb w kv vv dv n r) (hv:v'=.slice (some ⟨g',0,none⟩) m' c') (o:OwnT (nb+1) w' v' (n.keys++[x])) (k:w.grownBy w' kv.ownBlock) (hg:kv.ownBlock=some g'\/g'=w.heap.size) :
 RStP w0 xs nb (w'.setCell ⟨nb,1,none⟩ v') v' vv dv ⟨n.leaf,n.keys++[x],n.vals,n.kids⟩ r:=by
 have hn:=h.hnb
 have fr:=qO h.own.keys
 have nbl:=xa h.box
 have rsl:=xa h.res
 subst hv
 exact⟨VX (YZ h.rdr k fun b e=>by have:=(fr b e).1;omega) (by omega) 1 _,
  (xd _ _ _ _ (by show w0.heap.size≠nb;omega)).trans ((k.block _ rsl (fun e=>by have:=(fr _ e.symm).1;omega)).trans h.res),
  (ZF ((k.block _ nbl (fun e=>by have:=(fr _ e.symm).1;omega)).trans h.box) _).1,
  ⟨Qm o (show nb<nb+1 by omega) 1 _,Qm (Q8 k h.own.vals h.d1) (show nb<nb+1 by omega) 1 _,Qm (Q8 k h.own.kids h.d2) (show nb<nb+1 by omega) 1 _⟩,hn,ZX hg h.d1 (fun k e=>(qO h.own.vals k e).2),ZX hg h.d2 (fun k e=>(qO h.own.kids k e).2),h.d3⟩
theorem RStP.vals {dv:Value} {n:Nd} (h:RStP w0 xs nb w kv vv dv n r) (hv:v'=.slice (some ⟨g',0,none⟩) m' c') (o:OwnT (nb+1) w' v' (n.vals++[x])) (k:w.grownBy w' vv.ownBlock) (hg:vv.ownBlock=some g'\/g'=w.heap.size) :
 RStP w0 xs nb (w'.setCell ⟨nb,2,none⟩ v') kv v' dv ⟨n.leaf,n.keys,n.vals++[x],n.kids⟩ r:=by
 have hn:=h.hnb
 have fr:=qO h.own.vals
 have nbl:=xa h.box
 have rsl:=xa h.res
 subst hv
 exact⟨VX (YZ h.rdr k fun b e=>by have:=(fr b e).1;omega) (by omega) 2 _,
  (xd _ _ _ _ (by show w0.heap.size≠nb;omega)).trans ((k.block _ rsl (fun e=>by have:=(fr _ e.symm).1;omega)).trans h.res),
  (ZF ((k.block _ nbl (fun e=>by have:=(fr _ e.symm).1;omega)).trans h.box) _).2.1,
  ⟨Qm (Q8 k h.own.keys (fun k e e'=>h.d1 k e' e)) (show nb<nb+1 by omega) 2 _,Qm o (show nb<nb+1 by omega) 2 _,Qm (Q8 k h.own.kids h.d3) (show nb<nb+1 by omega) 2 _⟩,hn,(fun k e e'=>ZX hg (fun k e e'=>h.d1 k e' e) (fun k e=>(qO h.own.keys k e).2) k e' e),h.d2,ZX hg h.d3 (fun k e=>(qO h.own.kids k e).2)⟩
theorem RStP.kids {dv:Value} {n:Nd} (h:RStP w0 xs nb w kv vv dv n r) {x:Int} (hv:v'=.slice (some ⟨g',0,none⟩) m' c') (o:OwnJ (nb+1) w' v' (n.kids++[x])) (k:w.grownBy w' dv.ownBlock) (hg:dv.ownBlock=some g'\/g'=w.heap.size) :
 RStP w0 xs nb (w'.setCell ⟨nb,3,none⟩ v') kv vv v' ⟨n.leaf,n.keys,n.vals,n.kids++[x]⟩ r:=by
 have hn:=h.hnb
 have fr:=qO h.own.kids
 have nbl:=xa h.box
 have rsl:=xa h.res
 subst hv
 exact⟨VX (YZ h.rdr k fun b e=>by have:=(fr b e).1;omega) (by omega) 3 _,
  (xd _ _ _ _ (by show w0.heap.size≠nb;omega)).trans ((k.block _ rsl (fun e=>by have:=(fr _ e.symm).1;omega)).trans h.res),
  (ZF ((k.block _ nbl (fun e=>by have:=(fr _ e.symm).1;omega)).trans h.box) _).2.2,
  ⟨Qm (Q8 k h.own.keys (fun k e e'=>h.d2 k e' e)) (show nb<nb+1 by omega) 3 _,Qm (Q8 k h.own.vals (fun k e e'=>h.d3 k e' e)) (show nb<nb+1 by omega) 3 _,Qm o (show nb<nb+1 by omega) 3 _⟩,hn,h.d1,(fun k e e'=>ZX hg (fun k e e'=>h.d2 k e' e) (fun k e=>(qO h.own.keys k e).2) k e' e),(fun k e e'=>ZX hg (fun k e e'=>h.d3 k e' e) (fun k e=>(qO h.own.vals k e).2) k e' e)⟩
open Go.RowKit Go.Maps
def rdH (v:Value):Option (DataW Value×List MemPlace):=some (.held v,[])
def MapI (w:World) (b n:Nat) (m:Int->Option Value):Prop :=
 ∃ D:DataW Value,w.ownsMap Tryz.prog 3 rdH b n D/\∀ i,(Lit.int .i64 i).wf=true->Maps.has D (.int .i64 i)=(m i).isSome/\∀ z,D.atKey (.int .i64 i) z=(match m i with|some v=>.held v|none=>z)
theorem keyI:Keyed Tryz.prog 3:=int_keyed X8
theorem qhz {i:Int} (h:(Lit.int .i64 i).wf=true):keyOf Tryz.prog 3 (.int .i64 i)=some (.int .i64 i):=keyOf_int_mk X8 h
theorem MapI.made (w:World):MapI (w.alloc (.map #[] 0)) w.heap.size 0 fun _=>none :=
 ⟨.map [],World.ownsMap_made _ _ _ _,fun i _=>⟨rfl,fun z=>rfl⟩⟩
theorem MapI.kept {m:Int->Option Value} (h:MapI w b n m) (e:w'.heap[b]?=w.heap[b]?):MapI w' b n m:=by
 obtain⟨D,⟨es,c,hb,r⟩,r2⟩:=h;exact⟨D,⟨es,c,e.trans hb,r⟩,r2⟩
theorem MapI.lt {m:Int->Option Value} (h:MapI w b n m):b<w.heap.size:=by
 obtain⟨D,h,_⟩:=h;exact h.lt
theorem MapI.ne {m:Int->Option Value} (h:MapI w b n m) {t:TypeId} {fr:Nat×Nat} (hg:w.heap[g]?=some (.cells cs t fr)):b≠g:=by
 obtain⟨D,⟨es,c,hb,r⟩,_⟩:=h;intro e;rw[e,hg] at hb;cases hb
theorem MapI.mono {n':Nat} {m:Int->Option Value} (h:MapI w b n m) (hn:n<=n'):MapI w b n' m:=by
 obtain⟨D,h,r⟩:=h;exact⟨D,h.mono hn,r⟩
theorem MapI.look {m:Int->Option Value} (h:MapI w b n m) {t e:TypeId} (ht:Tryz.prog.underlying t=some (.map 3 e)) {z:Value} (hz:(zeroValue e).run Tryz.prog w=.ok z w) {i:Int} (hi:(Lit.int .i64 i).wf=true) (c:Bool) :
 (Instr.lookup t (.map (some b)) (.int .i64 i) c).run Tryz.prog w=.ok (if c then .tuple #[(m i).getD z,.bool (m i).isSome] else(m i).getD z) w:=by
 obtain⟨D,h,r⟩:=h;obtain⟨es,clock,hb,F,_,rfl⟩:=h;obtain⟨r1,r2⟩:=r i hi;rcases Maps.fit_look c keyI ht hz hb F (qhz hi) with ⟨hrun,_,hat⟩|⟨e0,y,_,_,hrun,hRv,hat,_⟩
 ·have hs:(m i).isSome=false:=by
   cases hm:m i with
   | none=>rfl
   | some v =>
    have h1:=r2 .nil
    rw[hm,hat] at h1;cases h1
  have hm:m i=none:=by simpa using hs
  rw[hrun,hm];rfl
 have h1:=r2 .nil
 rw[hat] at h1
 have hy:y=(.held e0.val,[]):=by
  have:some (DataW.held e0.val,[])=some y:=hRv
  simpa using this.symm
 rw[hy] at h1;cases hm:m i with
 | none=>rw[hm] at h1;cases h1
 | some v =>
  rw[hm] at h1;simp only[DataW.held.injEq] at h1;subst h1;rw[hrun];rfl
theorem MapI.store {m:Int->Option Value} (h:MapI w b n m) {t e:TypeId} (ht:Tryz.prog.underlying t=some (.map 3 e)) (hn:n<maxLen) {i:Int} (hi:(Lit.int .i64 i).wf=true) (v:Value) :
 ∃ w',(Instr.mapUpdate t (.map (some b)) (.int .i64 i) v).run Tryz.prog w=.ok () w'/\MapI w' b (n+1) (fun j=>if j=i then some v else m j)/\w.grownBy w' (some b):=by
 obtain⟨D,h,r⟩:=h;have hm:=h.isMap
 have hkl:=keyI.key (qhz hi)
 obtain⟨w',h1,h2,h3⟩:=h.update keyI ht hn (qhz hi) (show rdH v=some (.held v,[]) from rfl);refine⟨w',h1,⟨_,h2,fun j hj=>?_⟩,h3⟩;dsimp only;by_cases e:j=i
 ·subst e;rw[xj rfl];exact⟨has_put_same hm hkl _,fun z=>atKey_put_same hm hkl _ _⟩
 rw[xh e];have hne:(Lit.int .i64 j)≠ .int .i64 i:=fun h=>e (by simpa using h)
 exact⟨(has_put_other hne _).trans (r j hj).1,fun z=>(atKey_put_other hne _ _).trans ((r j hj).2 z)⟩
structure RdrAt (w0:World) (g:Nat) (w:World) (a:Option Addr) (c:Nat) (r:Rr):Prop where
 box:w.heap[g]?=some (.cells #[.slice a r.rest.length c,.bool r.short] 212 (0,0))
 rd:Rd w0 (.slice a r.rest.length c) r.rest
 bel:Below w0.heap.size w0 w
 hg:w0.heap.size<=g
theorem RdrAt.kp {a:Option Addr} (h:RdrAt w0 g w a c r) (k:Below w.heap.size w U):RdrAt w0 g U a c r :=
 ⟨(k.block _ (xa h.box)).trans h.box,h.rd,h.bel.trans (k.mono h.bel.size),h.hg⟩
def RdrX (w0:World) (g:Nat) (w:World) (r:Rr):Prop:=∃ a c,RdrAt w0 g w a c r
theorem RdrX.to (h:RdrX w0 g w r) (k:Below w.heap.size w U):RdrX w0 g U r:=by
 obtain⟨a,c,h⟩:=h;exact⟨a,c,h.kp k⟩
theorem RdrX.bel (h:RdrX w0 g w r):Below w0.heap.size w0 w:=by obtain⟨_,_,h⟩:=h;exact h.bel
theorem RdrX.lt (h:RdrX w0 g w r):g<w.heap.size:=by obtain⟨_,_,h⟩:=h;exact xa h.box
theorem qci (w0:World) (g:Nat) (w:World) (r:Rr) (s:Nat) (h:RdrX w0 g w r) (hs:s<=1000000000000) :
 Calls Tryz.prog 141 #[.pointer (some ⟨g,0,none⟩),.int .i64 (s:Int)] w fun e w'=>∃ a1 c1,e=.returned (.slice a1 (rtk s r).length c1)/\Rd w0 (.slice a1 (rtk s r).length c1) (rtk s r)/\RdrX w0 g w' (rst s r)/\KpG g w w':=by
 obtain⟨a,c,h⟩:=h;obtain⟨⟨A0,A1⟩,af⟩:=Qc h.box;have f0:=af 0
 have f1:=af 1
 have lb:r.rest.length<=9223372036854775807:=by obtain⟨_,_,e,_,m1,_⟩:=h.rd;simp only[xH] at e;unfold maxLen at m1;omega
 have hcap:r.rest.length<=c:=by obtain⟨_,_,e,l1,_⟩:=h.rd;simp only[xH] at e;omega
 have HH:=qa h
 obtain⟨L,hL⟩:∃ L,L=r.rest.length:=⟨_,rfl⟩;rw[<-hL] at A0 lb hcap;replace hL:=qa hL;clear af h;by_cases hlt:L<s
 ·have hq:(L:Int)<(s:Int):=by omega
  have e1:Hid (rtk s r=[]):=by show _=_;unfold rtk;rw[<-hL.out,xj hlt]
  have e2:Hid (rst s r=⟨r.rest,true⟩):=by show _=_;unfold rst;rw[<-hL.out,xj hlt]
  go_enter Tryz.func141,Tryz.ntmps141;go_wp2;go_ret;refine⟨none,0,by rw[e1.out];rfl,by rw[e1.out];exact qc5 _,?_,(KpG.refl g w).set 1 _⟩
  rw[e2.out];exact⟨a,c,(JE HH.out.box _).2,HH.out.rd,HH.out.bel.setCell (p:=⟨g,1,none⟩) HH.out.hg _,HH.out.hg⟩
 have hq:¬ (L:Int)<(s:Int):=by omega
 have hq2:(s:Int)<=(L:Int):=by omega
 have hq3:(s:Int)<=(c:Int):=by omega
 have e1:Hid (rtk s r=r.rest.take s):=by show _=_;unfold rtk;rw[<-hL.out,xh hlt]
 have e2:Hid (rst s r=⟨r.rest.drop s,r.short⟩):=by show _=_;unfold rst;rw[<-hL.out,xh hlt]
 have R0:=HH.out.rd
 rw[<-hL.out] at R0;obtain⟨A,hA,R1⟩:=qmm R0 (q:=s) (to:=L) (by omega) (xc _)
 have R2:=qa (qnj R0 (n:=s) (by omega))
 rw[xx (by rw[hL.out];omega)] at R1
 replace R1:=qa R1;clear R0;go_enter Tryz.func141,Tryz.ntmps141;go_wp2;go_ret;have l1:(r.rest.take s).length=s:=by rw[xp,<-hL.out];omega
 have l2:(r.rest.drop s).length=L-s:=by rw[xE,<-hL.out]
 refine⟨a,c,by rw[e1.out,l1];rfl,by rw[e1.out,l1];exact R2.out,?_,(KpG.refl g w).set 0 _⟩
 rw[e2.out];refine⟨A,c-s,?_,?_,HH.out.bel.setCell (p:=⟨g,0,none⟩) HH.out.hg _,HH.out.hg⟩
 ·show _=some (Obj.cells #[.slice A (r.rest.drop s).length (c-s),.bool r.short] _ _)
  rw[l2];exact(JE HH.out.box _).1
 show Rd w0 (.slice A (r.rest.drop s).length (c-s)) (r.rest.drop s)
 rw[l2];exact R1.out
theorem zQ (w0:World) (g:Nat) (w:World) (r:Rr) (s:Nat) (h:RdrX w0 g w r) (h1:1<=s) (hs:s<=7) :
 Calls Tryz.prog 134 #[.pointer (some ⟨g,0,none⟩),.int .i64 (s:Int)] w fun e w'=>e=.returned (.int .i64 (qQ s r:Nat))/\RdrX w0 g w' (rst s r)/\KpG g w w':=by
 have KT:=qa (qci w0 g w r s h (by omega))
 have hn:=yB s r
 have hn2:2^(8*s)<=2^56:=km (by decide) (by omega)
 have hn3:qQ s r<9223372036854775808:=by
  have e56:(2:Nat)^56=72057594037927936:=by decide
  omega
 clear hn hn2 h;go_enter Tryz.func134,Tryz.ntmps134
 go_wp2_with fail
 refine KT.out.mono ?_;rintro e w1 ⟨a1,c1,rfl,d1,r1,k1⟩;clear KT;have D1:=d1.to r1.bel
 have KG:Hid (Calls Tryz.prog 103 #[.slice a1 (rtk s r).length c1] w1 fun e w'=>∃ z:Int,e=.returned (.tuple #[.int .u64 (qQ s r:Nat),.int .i64 z])/\Below w1.heap.size w1 w'):=by
  have le:=qh8 s r
  by_cases h0:(rtk s r).length<1
  ·refine(qrp w1 _ _ D1 (.inl h0)).mono ?_;rintro e w' ⟨rfl,b⟩;refine⟨3,?_,b⟩
   have:qQ s r=0:=by
    unfold qQ;rw[xq (l:=rtk s r) (by omega)]
    rfl
   rw[this];rfl
  refine(jM w1 _ _ D1 (by omega) (by omega)).mono ?_
  rintro e w' ⟨rfl,b⟩;exact⟨0,rfl,b⟩
 generalize (rtk s r).length=TL at *;generalize hV:qQ s r=V at *;replace hV:=qa hV;have hv:IntKind.i64.wrap (V:Int)=(V:Int):=xB _ (by omega)
 have R1:=qa (xb r1 k1)
 clear d1 D1 r1 k1
 go_wp2_with fail
 refine KG.out.mono ?_;rintro e w2 ⟨z,rfl,b2⟩;clear KG;replace b2:=qa b2;go_wp2;go_ret;exact⟨qo (by rw[hV.out]),R1.out.1.to b2.out,R1.out.2.trans (KpG.of b2.out)⟩
theorem Yz (w0:World) (g:Nat) (w:World) (r:Rr) (h:RdrX w0 g w r) :
 Calls Tryz.prog 135 #[.pointer (some ⟨g,0,none⟩)] w fun e w'=>e=.returned (st (rtx r))/\RdrX w0 g w' (rts r)/\KpG g w w':=by
 have KN:=qa (zQ w0 g w r 1 h (by decide) (by decide))
 have hn:=yB 1 r
 have e1:Hid (rtx r=rtk (qQ 1 r) (rst 1 r)):=rfl
 have e2:Hid (rts r=rst (qQ 1 r) (rst 1 r)):=rfl
 clear h;go_enter Tryz.func135,Tryz.ntmps135
 go_wp2_with fail
 refine KN.out.mono ?_;rintro e w1 ⟨rfl,r1,k1⟩;clear KN;have KT:=qa (qci w0 g w1 (rst 1 r) (qQ 1 r) r1 (by omega))
 rw[<-e1.out,<-e2.out] at KT;generalize qQ 1 r=V at *;have K1:=qa k1
 clear r1 k1
 go_wp2_with fail
 refine KT.out.mono ?_;rintro e w2 ⟨a2,c2,rfl,d2,r2,k2⟩;clear KT;have hcv:=Yd (d2.to r2.bel)
 have R2:=qa (xb r2 (K1.out.trans k2))
 clear d2 r2 k2;generalize hX:rtx r=X at *;replace hX:=qa hX;go_wp2;go_ret;exact⟨by rw[hX.out];rfl,R2.out.1,R2.out.2⟩
def qlx (J:Nat->Act->World->Prop) (Q:Exit->Act->World->Prop):Exit->Act->World->Prop
 | .goto l,a,w=>J l a w
 | e,a,w=>Q e a w
theorem Vf {Q:Exit->Act->World->Prop} {c:Code} (J:Nat->Act->World->Prop) (μ : Nat->Act->World->Nat) (hf:∀ l a w,J l a w->(findLabel c l).isSome=true)
 (first:c.wp P (qlx J Q) a w)
 (pass:∀ l a w,J l a w->((findLabel c l).getD .skip).wp P (qlx (fun l' a' w'=>J l' a' w' /\ μ l' a' w' < μ l a w) Q) a w):(Code.scope c).wp P Q a w:=by
 intro b k cs
 have hg:∀ l a w,J l a w->gotoIn l (.inScope c::k)=some (.code ((findLabel c l).getD .skip)::.inScope c::k):=fun l a w h=>by
  have:=hf l a w h
  cases hq:findLabel c l with
  | none=>rw[hq] at this;cases this
  | some R=>simp[gotoIn,hq]
 have key:∀ n l a w,μ l a w=n->J l a w->∃ e a' w',Q e a' w'/\Arrives P (lone (b.at a (.code ((findLabel c l).getD .skip)::.inScope c::k)) cs w) b k cs e a' w':=by
  intro n
  induction n using Nat.strongRecOn with
  | _ n ih =>
   intro l a w hn hJ;obtain⟨e,a₁,w₁,hq,harr⟩:=pass l a w hJ b (.inScope c::k) cs;cases e with
   | normal=>exact⟨.normal,a₁,w₁,hq,Steps.trans harr (.one step_inScope)⟩
   | exit id=>exact⟨.exit id,a₁,w₁,hq,fun k' hk=>harr k' (by simp[exitTo,hk])⟩
   | goto l' =>
    obtain⟨hJ',hlt⟩:=hq;obtain⟨e₂,a₂,w₂,hq₂,harr₂⟩:=ih _ (by omega) l' a₁ w₁ rfl hJ'
    exact⟨e₂,a₂,w₂,hq₂,.of_steps (harr _ (hg l' a₁ w₁ hJ')) harr₂⟩
   | ret=>exact⟨_,a₁,w₁,hq,harr⟩
   | panic ch=>exact⟨_,a₁,w₁,hq,harr⟩
   | outgrown=>exact⟨_,a₁,w₁,hq,harr⟩
 obtain⟨e,a₁,w₁,hq,harr⟩:=first b (.inScope c::k) cs;cases e with
 | normal=>exact⟨.normal,a₁,w₁,hq,.head step_scope (Steps.trans harr (.one step_inScope))⟩
 | exit id=>exact⟨.exit id,a₁,w₁,hq,fun k' hk=>.head step_scope (harr k' (by simp[exitTo,hk]))⟩
 | goto l' =>
  have hJ':J l' a₁ w₁ := hq
  obtain⟨e₂,a₂,w₂,hq₂,harr₂⟩:=key _ l' a₁ w₁ rfl hJ';exact⟨e₂,a₂,w₂,hq₂,.of_steps (.head step_scope (harr _ (hg l' a₁ w₁ hJ'))) harr₂⟩
 | ret=>exact⟨_,a₁,w₁,hq,.of_steps (.one step_scope) harr⟩
 | panic ch=>exact⟨_,a₁,w₁,hq,.of_steps (.one step_scope) harr⟩
 | outgrown=>exact⟨_,a₁,w₁,hq,.of_steps (.one step_scope) harr⟩
structure RSt (w0:World) (nb:Nat) (w:World) (kv vv dv:Value) (n:Nd) (r:Rr):Prop where
 rdr:RdrX w0 (w0.heap.size+1) w r
 res:w.heap[w0.heap.size]?=some (.cells #[.bool false,qm,qm,qm] 84 (0,0))
 box:w.heap[nb]?=some (.cells #[.bool n.leaf,kv,vv,dv] 84 (0,0))
 own:OwnN (nb+1) w kv vv dv n
 hnb:w0.heap.size+1<nb
 d1:∀ k,kv.ownBlock=some k->vv.ownBlock≠some k
 d2:∀ k,kv.ownBlock=some k->dv.ownBlock≠some k
 d3:∀ k,vv.ownBlock=some k->dv.ownBlock≠some k
def Dj (kv vv dv:Value):Prop:=(∀ k,kv.ownBlock=some k->vv.ownBlock≠some k)/\(∀ k,kv.ownBlock=some k->dv.ownBlock≠some k)/\∀ k,vv.ownBlock=some k->dv.ownBlock≠some k
theorem Dj.nil:Dj qm qm qm:=⟨(fun k h=>by cases h),(fun k h=>by cases h),(fun k h=>by cases h)⟩
theorem RSt.below {dv:Value} {n:Nd} (h:RSt w0 nb w kv vv dv n r) (b:Below w.heap.size w U):RSt w0 nb U kv vv dv n r :=
 ⟨h.rdr.to b,(b.block _ (xa h.res)).trans h.res,(b.block _ (xa h.box)).trans h.box,h.own.to b,h.hnb,h.d1,h.d2,h.d3⟩
theorem RSt.call {dv:Value} {n:Nd} (h:RSt w0 nb w kv vv dv n r) (k:KpG (w0.heap.size+1) w U) (hr:RdrX w0 (w0.heap.size+1) U r'):RSt w0 nb U kv vv dv n r' :=
 ⟨hr,(k.1 _ (xa h.res) (by omega)).trans h.res,(k.1 _ (xa h.box) (by have:=h.hnb;omega)).trans h.box,⟨k.row h.own.keys (by have:=h.hnb;omega),k.row h.own.vals (by have:=h.hnb;omega),k.row h.own.kids (by have:=h.hnb;omega)⟩,h.hnb,h.d1,h.d2,h.d3⟩
theorem Vv {own:Option Nat} (h:RdrX w0 g w r) (k:w.grownBy w' own) (hg:∀ b,own=some b->g<b):RdrX w0 g w' r:=by
 obtain⟨a,c,h⟩:=h;have hl:=xa h.box
 have hs:=h.bel.size
 exact⟨a,c,(k.block g hl (fun e=>by have:=hg g e.symm;omega)).trans h.box,h.rd,h.bel.grown k hs (fun b e=>by have:=hg b e;have:=h.hg;omega),h.hg⟩
theorem qdm (h:RdrX w0 g w r) (hn:g<nb) (i:Nat) (v:Value):RdrX w0 g (w.setCell ⟨nb,i,none⟩ v) r:=by
 obtain⟨a,c,h⟩:=h;exact⟨a,c,(xd _ _ _ _ (by show g≠nb;omega)).trans h.box,h.rd,h.bel.setCell (p:=⟨nb,i,none⟩) (by have:=h.hg;show w0.heap.size<=nb;omega) v,h.hg⟩
theorem RSt.keys {dv:Value} {n:Nd} (h:RSt w0 nb w kv vv dv n r) (hv:v'=.slice (some ⟨g',0,none⟩) m' c') (o:OwnT (nb+1) w' v' (n.keys++[x])) (k:w.grownBy w' kv.ownBlock) (hg:kv.ownBlock=some g'\/g'=w.heap.size) :
 RSt w0 nb (w'.setCell ⟨nb,1,none⟩ v') v' vv dv ⟨n.leaf,n.keys++[x],n.vals,n.kids⟩ r:=by
 have hn:=h.hnb
 have fr:=qO h.own.keys
 have nbl:=xa h.box
 have rsl:=xa h.res
 subst hv
 exact⟨qdm (Vv h.rdr k fun b e=>by have:=(fr b e).1;omega) (by omega) 1 _,
  (xd _ _ _ _ (by show w0.heap.size≠nb;omega)).trans ((k.block _ rsl (fun e=>by have:=(fr _ e.symm).1;omega)).trans h.res),
  (ZF ((k.block _ nbl (fun e=>by have:=(fr _ e.symm).1;omega)).trans h.box) _).1,
  ⟨Qm o (show nb<nb+1 by omega) 1 _,Qm (Q8 k h.own.vals h.d1) (show nb<nb+1 by omega) 1 _,Qm (Q8 k h.own.kids h.d2) (show nb<nb+1 by omega) 1 _⟩,hn,ZX hg h.d1 (fun k e=>(qO h.own.vals k e).2),ZX hg h.d2 (fun k e=>(qO h.own.kids k e).2),h.d3⟩
theorem RSt.vals {dv:Value} {n:Nd} (h:RSt w0 nb w kv vv dv n r) (hv:v'=.slice (some ⟨g',0,none⟩) m' c') (o:OwnT (nb+1) w' v' (n.vals++[x])) (k:w.grownBy w' vv.ownBlock) (hg:vv.ownBlock=some g'\/g'=w.heap.size) :
 RSt w0 nb (w'.setCell ⟨nb,2,none⟩ v') kv v' dv ⟨n.leaf,n.keys,n.vals++[x],n.kids⟩ r:=by
 have hn:=h.hnb
 have fr:=qO h.own.vals
 have nbl:=xa h.box
 have rsl:=xa h.res
 subst hv
 exact⟨qdm (Vv h.rdr k fun b e=>by have:=(fr b e).1;omega) (by omega) 2 _,
  (xd _ _ _ _ (by show w0.heap.size≠nb;omega)).trans ((k.block _ rsl (fun e=>by have:=(fr _ e.symm).1;omega)).trans h.res),
  (ZF ((k.block _ nbl (fun e=>by have:=(fr _ e.symm).1;omega)).trans h.box) _).2.1,
  ⟨Qm (Q8 k h.own.keys (fun k e e'=>h.d1 k e' e)) (show nb<nb+1 by omega) 2 _,Qm o (show nb<nb+1 by omega) 2 _,Qm (Q8 k h.own.kids h.d3) (show nb<nb+1 by omega) 2 _⟩,hn,(fun k e e'=>ZX hg (fun k e e'=>h.d1 k e' e) (fun k e=>(qO h.own.keys k e).2) k e' e),h.d2,ZX hg h.d3 (fun k e=>(qO h.own.kids k e).2)⟩
theorem RSt.kids {dv:Value} {n:Nd} (h:RSt w0 nb w kv vv dv n r) {x:Int} (hv:v'=.slice (some ⟨g',0,none⟩) m' c') (o:OwnJ (nb+1) w' v' (n.kids++[x])) (k:w.grownBy w' dv.ownBlock) (hg:dv.ownBlock=some g'\/g'=w.heap.size) :
 RSt w0 nb (w'.setCell ⟨nb,3,none⟩ v') kv vv v' ⟨n.leaf,n.keys,n.vals,n.kids++[x]⟩ r:=by
 have hn:=h.hnb
 have fr:=qO h.own.kids
 have nbl:=xa h.box
 have rsl:=xa h.res
 subst hv
 exact⟨qdm (Vv h.rdr k fun b e=>by have:=(fr b e).1;omega) (by omega) 3 _,
  (xd _ _ _ _ (by show w0.heap.size≠nb;omega)).trans ((k.block _ rsl (fun e=>by have:=(fr _ e.symm).1;omega)).trans h.res),
  (ZF ((k.block _ nbl (fun e=>by have:=(fr _ e.symm).1;omega)).trans h.box) _).2.2,
  ⟨Qm (Q8 k h.own.keys (fun k e e'=>h.d2 k e' e)) (show nb<nb+1 by omega) 3 _,Qm (Q8 k h.own.vals (fun k e e'=>h.d3 k e' e)) (show nb<nb+1 by omega) 3 _,Qm o (show nb<nb+1 by omega) 3 _⟩,hn,h.d1,(fun k e e'=>ZX hg (fun k e e'=>h.d2 k e' e) (fun k e=>(qO h.own.keys k e).2) k e' e),(fun k e e'=>ZX hg (fun k e e'=>h.d3 k e' e) (fun k e=>(qO h.own.vals k e).2) k e' e)⟩
def KeepT (e:Nat) (w w':World):Prop:=∀ (b:Nat) (cur:Array Value) (fr:Nat×Nat),w.heap[b]?=some (Obj.cells cur e fr)->w'.heap[b]?=some (Obj.cells cur e fr)
theorem KeepT.refl (e:Nat) (w:World):KeepT e w w:=fun _ _ _ h=>h
theorem KeepT.trans {a b c:World} (h:KeepT e a b) (k:KeepT e b c):KeepT e a c:=fun i cur fr x=>k i cur fr (h i cur fr x)
theorem KeepT.below (h:Below w.heap.size w w'):KeepT e w w':=fun b cur fr x=>(h.block b (xa x)).trans x
theorem KeepT.grown {e':Nat} {xs:List Value} (hr:w.ownsRow B e' s v n xs) (hg:w.grownBy w' v.ownBlock) (hne:e≠e'):KeepT e w w':=fun b cur fr x=>by
 refine(hg.block b (xa x) fun h=>?_).trans x;rcases hr.2 with ⟨rfl,_⟩|⟨g,cap,cur',rfl,_,hg',_⟩
 ·cases h
 simp only[Value.ownBlock,xr] at h;subst h;rw[x] at hg';simp only[xr,kF] at hg';exact hne hg'.2.1
theorem KeepT.set {t:Nat} {a:Addr} {fr:Nat×Nat} (h:w.heap[a.block]?=some (.cells cs t fr)) (hne:e≠t) (u:Value):KeepT e w (w.setCell a u):=fun b cur fr' x=>by
 refine(xd _ _ _ _ fun h'=>?_).trans x;rw[h',h] at x;simp only[xr,kF] at x;exact hne x.2.1.symm
theorem qs {xs:List Value} (h:w.ownsRow B e s v n xs) (k:KeepT e w w'):w'.ownsRow B e s v n xs:=by
 refine⟨h.1,?_⟩;rcases h.2 with hn|⟨g,cap,cur,hv,hgb,hg,r⟩
 ·exact .inl hn
 exact .inr ⟨g,cap,cur,hv,hgb,k _ _ _ hg,r⟩
theorem qt {t:TypeId} (h:w.heap[g]?=some (.cells cs t (0,0))) (hv:cs[i]?=some v):w.cell? ⟨g,i,none⟩=some v:=by
 rw[Xi _ _ i _ _ (0,0) h];exact hv
theorem j5 {t:TypeId} (h:w.heap[g]?=some (.cells cs t (0,0))) (i:Nat):w.frozen? ⟨g,i,none⟩=false:=by simp[World.frozen?,h]
theorem qw {t:TypeId} {fr:Nat×Nat} (h:u.heap[g]?=some (.cells cs t fr)) (i:Nat) (x:Value):(u.setCell ⟨g,i,none⟩ x).heap[g]?=some (.cells (cs.setIfInBounds i x) t fr):=by
 simp[World.setCell,Xc,h]
def pcl (l:List Pr):List Value:=l.flatMap fun y=>[st y.1,st y.2]
theorem qdo (l m:List Pr):pcl (l++m)=pcl l++pcl m:=by unfold pcl;rw[kH]
abbrev OwnP (B:Nat) (w:World) (v:Value) (l:List Pr):Prop:=w.ownsRow B 63 2 v l.length (pcl l)
theorem OwnP.own {l:List Pr} (h:OwnP B w v l):Own (Shp.list 63 SPr) B w [v] l:=by
 have each:∀ l:List Pr,zt SPr w [] (pcl l) l:=by
  intro l
  induction l with
  | nil=>exact⟨rfl,rfl⟩
  | cons x r ih=>exact⟨[],[],[st x.1,st x.2],pcl r,rfl,rfl,⟨[st x.1],[st x.2],[],[],rfl,rfl,⟨rfl,rfl⟩,⟨rfl,rfl⟩⟩,ih⟩
 refine⟨v.ownBlock.toList,⟨v,_,[],rfl,?_,each l,by simp⟩,?_,fun b hb=>(xo h b (by simpa using hb)).1⟩
 ·exact Qt h fun _ _=>xt _
 cases v.ownBlock<;>simp
theorem OwnP.rd {l:List Pr} (h:OwnP B w v l):RdP w v l:=h.own.rdS
theorem qn9:(Tryz.prog.info? 63).map (fun i=>(i.zero,i.size,i.bytes))=some (some (.agg #[.string ⟨#[]⟩,.string ⟨#[]⟩]),2,32):=by kernel_rfl
theorem qcv (l:List Pr):∀ u∈pcl l,u.oneCell'=true:=by
 intro u hu;obtain⟨y,_,hy⟩:=kM.1 hu;simp at hy;rcases hy with rfl|rfl<;>rfl
theorem zW {Q:Exit->Act->World->Prop} (hgd:o.guard=none) (s x:Operand)
 (ho:o.op=.call {callee:=.builtin .append,args:=#[s,x],argTypes:=#[28,28]}) (B:Nat) (v:Value) (xs:List Pr) (y:Pr) (g:Nat) (hs:a.eval s=v) (hx:a.eval x=.slice (some ⟨g,0,none⟩) 1 1)
 (hown:OwnP B w v xs) (hc1:w.cell? ⟨g,0,none⟩=some (st y.1)) (hc2:w.cell? ⟨g,1,none⟩=some (st y.2)) (hlen:(xs.length+1)*32<=140737488355328) (hB:B<=w.heap.size)
 (h:∀ v' w',OwnP B w' v' (xs++[y])->Below B w w'->(∀ e,e≠63->KeepT e w w')->wpList Tryz.prog ops Q rest (a.put o.dst v') w'):wpList Tryz.prog ops Q (o::rest) a w:=by
 obtain⟨i0,hi,hz0,hz1,hz2⟩:=Xh qn9
 have n2:∀ j u,(pcl [y])[j]?=some u->w.cell? ((⟨g,0,none⟩:Addr).add j)=some u:=by
  intro j u hj
  match j,hj with
  | 0,hj=>simp[pcl] at hj;subst hj;simpa[Addr.add] using hc1
  | 1,hj=>simp[pcl] at hj;subst hj;simpa[Addr.add] using hc2
  | j+2,hj=>simp[pcl] at hj
 refine kO _ hgd s x 28 ho B 63 i0 (.agg #[.string ⟨#[]⟩,.string ⟨#[]⟩]) 2 32 Tryz.underlying28 hi hz0 hz1 hz2 rfl (by decide) v xs.length (pcl xs) hs hown ⟨g,0,none⟩ 1 1 (pcl [y]) hx rfl n2 (qcv [y])
  (by rw[show maxLen=9223372036854775807 from rfl];omega) hlen hB ?_
 intro v' w' h1 h2 _;refine h v' w' ?_ ((xm _ _).grown h2 hB (fun k hk=>(xo hown k hk).1)) (fun e he=>KeepT.grown hown h2 he);show World.ownsRow _ _ _ _ _ _ _
 rw[qdo]
 simpa using h1
theorem qko {K:Act->World->Prop} {Q:Exit->Act->World->Prop} {E:Prop} (hgd:o.guard=none) (s x:Operand)
 (ho:o.op=.call {callee:=.builtin .append,args:=#[s,x],argTypes:=#[28,28]}) (B:Nat) (v:Value) (xs:List Pr) (y:Pr) (g:Nat) (hs:a.eval s=v) (hx:a.eval x=.slice (some ⟨g,0,none⟩) 1 1)
 (hown:OwnP B w v xs) (hc1:w.cell? ⟨g,0,none⟩=some (st y.1)) (hc2:w.cell? ⟨g,1,none⟩=some (st y.2)) (hlen:(xs.length+1)*32<=140737488355328) (hB:B<=w.heap.size)
 (h:∀ v' w',OwnP B w' v' (xs++[y])->Below B w w'->(∀ e,e≠63->KeepT e w w')->K (a.put o.dst v') w'):if Region.wanted o (yielded ops a.tmps)=true then Oper.wp Tryz.prog o a w K Q else E:=by
 rw[xj (by simp[Region.wanted,hgd])]
 obtain⟨i0,hi,hz0,hz1,hz2⟩:=Xh qn9
 have n2:∀ j u,(pcl [y])[j]?=some u->w.cell? ((⟨g,0,none⟩:Addr).add j)=some u:=by
  intro j u hj
  match j,hj with
  | 0,hj=>simp[pcl] at hj;subst hj;simpa[Addr.add] using hc1
  | 1,hj=>simp[pcl] at hj;subst hj;simpa[Addr.add] using hc2
  | j+2,hj=>simp[pcl] at hj
 refine wp_append_own _ s x 28 ho B 63 i0 (.agg #[.string ⟨#[]⟩,.string ⟨#[]⟩]) 2 32 Tryz.underlying28 hi hz0 hz1 hz2 rfl (by decide) v xs.length (pcl xs) hs hown ⟨g,0,none⟩ 1 1 (pcl [y]) hx rfl n2 (qcv [y])
  (by rw[show maxLen=9223372036854775807 from rfl];omega) hlen hB ?_
 intro v' w' h1 h2 _;refine h v' w' ?_ ((xm _ _).grown h2 hB (fun k hk=>(xo hown k hk).1)) (fun e he=>KeepT.grown hown h2 he);show World.ownsRow _ _ _ _ _ _ _
 rw[qdo]
 simpa using h1
def yL (n:Nat) (s:List Int):List Bool:=(List.range n).map fun(i:Nat)=>decide ((i:Int)∈s)
theorem jX (n:Nat) (s:List Int):(yL n s).length=n:=by simp[yL]
theorem Yf (n:Nat) (s:List Int) (h:i<n):(yL n s)[i]?=some (decide ((i:Int)∈s)):=by simp[yL,h]
theorem qk9 (n:Nat) (s:List Int) (i:Nat):(yL n s).set i true=yL n ((i:Int)::s):=by
 apply List.ext_getElem?;intro j;rw[List.getElem?_set];by_cases hj:j<n
 ·rw[Yf n _ hj,Yf n _ hj,jX];by_cases e:i=j
  ·subst e;simp[hj]
  rw[xh e];have:(j:Int)≠(i:Int):=by omega
  simp[this]
 have h1:(yL n s)[j]?=none:=XA (by rw[jX];omega)
 have h2:(yL n ((i:Int)::s))[j]?=none:=XA (by rw[jX];omega)
 rw[h1,h2,jX]
 split
 ·rw[xh (by omega)]
 rfl
theorem qk1 (n:Nat):yL n []=List.replicate n false:=by
 apply List.ext_getElem?;intro j;by_cases hj:j<n
 ·rw[Yf n _ hj];simp[List.getElem?_replicate,hj]
 rw[XA (by rw[jX];omega),XA (by simp;omega)]
def Ve (s:Sw):Int:=match s.dep with|none=>0|some f=>16-(f:Int)
abbrev SeenW (bs n:Nat) (s:List Int) (w:World):Prop:=w.ownsRow bs 4 1 (.slice (some ⟨bs,0,none⟩) n n) n ((yL n s).map Value.bool)
abbrev wcl (t:Tr) (pv:Value) (bs n:Nat) (s:Sw) (bad:Bool) (prv:Value):Array Value :=
 #[.int .i64 t.root,.int .i64 t.next,pv,.slice (some ⟨bs,0,none⟩) n n,.bool bad,.int .i64 (Ve s),.bool s.dep.isSome,prv]
def SwOk (next:Int) (s:Sw):Prop:=s.seen.Nodup/\(∀ i∈s.seen,1<=i/\i<next)/\s.prs.length<=300*s.seen.length
theorem vC:∀ (n:Nat) (l:List Int),l.Nodup->(∀ i∈l,1<=i/\i<(n:Int)+1)->l.length<=n
 | 0,l,_,h=>by
  cases l with
  | nil=>exact xc _
  | cons a r=>have:=h a (by simp);omega
 | n+1,l,hn,h=>by
  have h1:=vC n (l.erase ((n:Int)+1)) (hn.erase _) (fun i hi=>by
   have h2:=h i (List.mem_of_mem_erase hi)
   have h3:i≠(n:Int)+1:=fun e=>by
    subst e;exact(List.Nodup.not_mem_erase hn) hi
   omega)
  have h4:=List.length_erase (a:=(n:Int)+1) (l:=l)
  rw[h4] at h1
  split at h1<;>omega
theorem SwOk.len {next:Int} {s:Sw} (h:SwOk next s) (hn:next<=65536):s.prs.length<=300*65536:=by
 have h1:=vC 65536 s.seen h.1 (fun i hi=>by have:=h.2.1 i hi;omega)
 have h2:=h.2.2
 omega
theorem SwOk.see {next:Int} {s:Sw} (h:SwOk next s) {i:Int} (hi:1<=i/\i<next) (hm:i ∉ s.seen) (d:Option Nat) {l:List Pr} (hl:l.length<=300):SwOk next ⟨i::s.seen,d,s.prs++l⟩:=by
 refine⟨kh.2 ⟨hm,h.1⟩,fun j hj=>?_,?_⟩
 ·rcases xU.1 hj with rfl|hj
  ·exact hi
  exact h.2.1 j hj
 have:=h.2.2
 simp only[xk,xC];omega
theorem JI {n:Nd} (h:NOk n):(npr n).length<=300/\n.keys.length<=300:=by
 have h1:=h.2.2.2.2
 have h2:=y6 n n.keys.length
 unfold qp at h1;have h3:(npr n).length<=n.keys.length:=by unfold npr;rw[Kc];exact Nat.min_le_left _ _
 have h4:0<=(if n.leaf=true then(0:Int) else 4*(n.kids.length:Int)):=by split<;>omega
 omega
def KeepW (w w':World):Prop:=∀ e,e≠151->e≠4->e≠63->KeepT e w w'
theorem KeepW.refl (w:World):KeepW w w:=fun e _ _ _=>KeepT.refl _ _
theorem KeepW.trans {a b c:World} (h:KeepW a b) (k:KeepW b c):KeepW a c:=fun e h1 h2 h3=>(h e h1 h2 h3).trans (k e h1 h2 h3)
theorem KeepW.below (h:Below w.heap.size w w'):KeepW w w':=fun e _ _ _=>KeepT.below h
structure RWk (w0 w:World) (g bs n:Nat) (t:Tr) (pv prv:Value) (s:Sw) (bad:Bool):Prop where
 box:w.heap[g]?=some (.cells (wcl t pv bs n s bad prv) 151 (0,0))
 seen:SeenW bs n s.seen w
 prs:OwnP w0.heap.size w prv s.prs
 pg:RdC w0 pv t.pages
 ok:SwOk t.next s
 bel:Below w0.heap.size w0 w
 hg:w0.heap.size<=g
 hs:w0.heap.size<=bs
theorem RWk.to {s:Sw} {bad:Bool} (h:RWk w0 w g bs n t pv prv s bad) (hb:Below w.heap.size w w'):RWk w0 w' g bs n t pv prv s bad :=
 ⟨(hb.block _ (xa h.box)).trans h.box,qB h.seen hb,qB h.prs hb,h.pg,h.ok,h.bel.trans (hb.mono h.bel.size),h.hg,h.hs⟩
theorem RWk.rd {s:Sw} {bad:Bool} (h:RWk w0 w g bs n t pv prv s bad):RdC w pv t.pages:=h.pg.to0 h.bel
theorem KeepW.set (h:w.heap[g]?=some (.cells cs 151 (0,0))) (i:Nat) (x:Value):KeepW w (w.setCell ⟨g,i,none⟩ x):=fun e h1 _ _=>KeepT.set (a:=⟨g,i,none⟩) h h1 x
theorem RWk.put {s:Sw} {bad:Bool} (h:RWk w0 w g bs n t pv prv s bad) (i:Nat) (x:Value) {s':Sw} {bad':Bool} {prv':Value} (hc:(wcl t pv bs n s bad prv).setIfInBounds i x=wcl t pv bs n s' bad' prv')
 (h1:s'.seen=s.seen) (h2:OwnP w0.heap.size w prv' s'.prs) (h3:SwOk t.next s'):RWk w0 (w.setCell ⟨g,i,none⟩ x) g bs n t pv prv' s' bad'/\KeepW w (w.setCell ⟨g,i,none⟩ x):=by
 have hk:∀ e,e≠151->KeepT e w (w.setCell ⟨g,i,none⟩ x):=fun e he=>KeepT.set (a:=⟨g,i,none⟩) h.box he x
 refine⟨⟨?_,?_,qs h2 (hk _ (by decide)),h.pg,h3,h.bel.setCell h.hg _,h.hg,h.hs⟩,KeepW.set h.box i x⟩
 ·rw[<-hc];exact qw h.box i x
 rw[h1];exact qs h.seen (hk _ (by decide))
theorem RWk.bad {s:Sw} {bad:Bool} (h:RWk w0 w g bs n t pv prv s bad):RWk w0 (w.setCell ⟨g,4,none⟩ (.bool true)) g bs n t pv prv s true/\KeepW w (w.setCell ⟨g,4,none⟩ (.bool true)) :=
 h.put 4 _ (by simp[wcl]) rfl h.prs h.ok
theorem RWk.cell {s:Sw} {bad:Bool} (h:RWk w0 w g bs n t pv prv s bad) :
 (w.cell? ⟨g,0,none⟩=some (.int .i64 t.root)/\w.cell? ⟨g,1,none⟩=some (.int .i64 t.next)/\w.cell? ⟨g,2,none⟩=some pv/\w.cell? ⟨g,3,none⟩=some (.slice (some ⟨bs,0,none⟩) n n))/\
 (w.cell? ⟨g,4,none⟩=some (.bool bad)/\w.cell? ⟨g,5,none⟩=some (.int .i64 (Ve s))/\w.cell? ⟨g,6,none⟩=some (.bool s.dep.isSome)/\w.cell? ⟨g,7,none⟩=some prv)/\∀ i,w.frozen? ⟨g,i,none⟩=false :=
 ⟨⟨qt h.box rfl,qt h.box rfl,qt h.box rfl,qt h.box rfl⟩,⟨qt h.box rfl,qt h.box rfl,qt h.box rfl,qt h.box rfl⟩,j5 h.box⟩
theorem RWk.deep {s:Sw} {bad:Bool} (h:RWk w0 w g bs n t pv prv s bad) (f:Nat) :
 RWk w0 ((w.setCell ⟨g,6,none⟩ (.bool true)).setCell ⟨g,5,none⟩ (.int .i64 (16-(f:Int)))) g bs n t pv prv ⟨s.seen,some f,s.prs⟩ bad/\KeepW w ((w.setCell ⟨g,6,none⟩ (.bool true)).setCell ⟨g,5,none⟩ (.int .i64 (16-(f:Int)))):=by
 obtain⟨a1,k1⟩:=h.put 6 (.bool true) (s':=⟨s.seen,some (s.dep.getD 16),s.prs⟩) (bad':=bad) (prv':=prv) (by cases hd:s.dep<;>simp[wcl,Ve,hd]) rfl h.prs h.ok
 obtain⟨a2,k2⟩:=a1.put 5 (.int .i64 (16-(f:Int))) (s':=⟨s.seen,some f,s.prs⟩) (bad':=bad) (prv':=prv) (by simp[wcl,Ve]) rfl a1.prs h.ok
 exact⟨a2,k1.trans k2⟩
theorem RWk.app {wA w5:World} {v5:Value} {s:Sw} {bad:Bool} (h:RWk w0 w g bs n t pv prv s bad) {l:List Pr} (bA:Below w.heap.size w wA) (o:OwnP w0.heap.size w5 v5 l) (b5:Below w0.heap.size wA w5)
 (k5:∀ e,e≠63->KeepT e wA w5) (ok:SwOk t.next ⟨s.seen,s.dep,l⟩):RWk w0 (w5.setCell ⟨g,7,none⟩ v5) g bs n t pv v5 ⟨s.seen,s.dep,l⟩ bad/\KeepW w (w5.setCell ⟨g,7,none⟩ v5):=by
 have hA:=h.to bA
 have hbox:=k5 _ (by decide) _ _ _ hA.box
 have hk:∀ e,e≠151->KeepT e w5 (w5.setCell ⟨g,7,none⟩ v5):=fun e he=>KeepT.set (a:=⟨g,7,none⟩) hbox he v5
 refine⟨⟨?_,qs (qs hA.seen (k5 _ (by decide))) (hk _ (by decide)),qs o (hk _ (by decide)),h.pg,ok,(hA.bel.trans b5).setCell h.hg _,h.hg,h.hs⟩,?_⟩
 ·have:=qw hbox 7 v5
  simpa[wcl,Ve] using this
 exact(KeepW.below bA).trans fun e h1 h2 h3=>(k5 e h3).trans (hk e h1)
theorem RWk.see {s:Sw} {bad:Bool} (h:RWk w0 w g bs n t pv prv s bad) (hi:1<=(i:Int)/\(i:Int)<t.next) (hm:(i:Int) ∉ s.seen) :
 RWk w0 (w.setCell ⟨bs,i,none⟩ (.bool true)) g bs n t pv prv ⟨(i:Int)::s.seen,s.dep,s.prs⟩ bad/\KeepW w (w.setCell ⟨bs,i,none⟩ (.bool true)):=by
 have hbs:∃ cur,w.heap[bs]?=some (.cells cur 4 (0,0)):=by
  rcases h.seen.2 with ⟨hn,_⟩|⟨g',cap,cur,hv,_,hg',_⟩
  ·cases hn
  simp only[xH,xr,XO] at hv;obtain⟨⟨rfl,_⟩,_⟩:=hv;exact⟨cur,hg'⟩
 obtain⟨cur,hcur⟩:=hbs;have hk:∀ e,e≠4->KeepT e w (w.setCell ⟨bs,i,none⟩ (.bool true)):=fun e he=>KeepT.set (a:=⟨bs,i,none⟩) hcur he _
 refine⟨⟨hk _ (by decide) _ _ _ h.box,?_,qs h.prs (hk _ (by decide)),h.pg,by have:=h.ok.see hi hm s.dep (l:=[]) (by simp);simpa using this,h.bel.setCell h.hs _,h.hg,h.hs⟩,fun e _ h2 _=>hk e h2⟩
 have:=(World.ownsRow.stored h.seen i (.bool true)).1
 show World.ownsRow _ _ _ _ _ _ _
 rw[<-qk9,List.map_set];exact this
theorem RWk.seenAt {s:Sw} {bad:Bool} (h:RWk w0 w g bs n t pv prv s bad) (hi:i<n):w.cell? ⟨bs,i,none⟩=some (.bool (decide ((i:Int)∈s.seen)))/\w.frozen? ⟨bs,i,none⟩=false :=
 ⟨jN (Qt h.seen fun _ _=>xt _) rfl (by rw[XT,Yf n _ hi];rfl),World.ownsRow.frozenAt h.seen i⟩
structure NdAt (w:World) (nb:Nat) (kv vv dv:Value) (nd:Nd):Prop where
 box:w.heap[nb]?=some (.cells #[.bool nd.leaf,kv,vv,dv] 206 (0,0))
 own:OwnN 0 w kv vv dv nd
theorem NdAt.keep {dv:Value} (h:NdAt w nb kv vv dv nd) (k:KeepW w w'):NdAt w' nb kv vv dv nd :=
 ⟨k _ (by decide) (by decide) (by decide) _ _ _ h.box,qs h.own.keys (k _ (by decide) (by decide) (by decide)),qs h.own.vals (k _ (by decide) (by decide) (by decide)),qs h.own.kids (k _ (by decide) (by decide) (by decide))⟩
theorem NdAt.cell {dv:Value} (h:NdAt w nb kv vv dv nd):w.cell? ⟨nb,0,none⟩=some (.bool nd.leaf)/\w.cell? ⟨nb,1,none⟩=some kv/\w.cell? ⟨nb,2,none⟩=some vv/\w.cell? ⟨nb,3,none⟩=some dv :=
 ⟨qt h.box rfl,qt h.box rfl,qt h.box rfl,qt h.box rfl⟩
def WkR (o:Option Sw) (bad:Bool) (s':Sw) (bad':Bool):Prop:=(bad=true->bad'=true)/\(bad=false->(o=some s'/\bad'=false)\/(o=none/\bad'=true))
def WkRes (w0 w w':World) (g bs n:Nat) (t:Tr) (pv:Value) (o:Option Sw) (bad:Bool):Prop:=∃ prv s' bad',RWk w0 w' g bs n t pv prv s' bad'/\KeepW w w'/\WkR o bad s' bad'
theorem WkRes.no {o:Option Sw} {s:Sw} {bad:Bool} (h:RWk w0 w' g bs n t pv prv s true) (k:KeepW w w') (ho:bad=false->o=none):WkRes w0 w w' g bs n t pv o bad :=
 ⟨_,_,_,h,k,fun _=>rfl,fun hb=>.inr ⟨ho hb,rfl⟩⟩
theorem ZG {J:Nat->Act->World->Prop} {Q:Exit->Act->World->Prop} :qlx J Q Exit.ret a w=Q Exit.ret a w:=rfl
def Fr9 (w0:World) (left nb:Nat) (a':Act):Prop:=∃ u0 u1 u5 u8 u9 u10 u11 u12 u13 u14 u15 u16 u17 u18 u19 u20 u21 u22 u23 u24 u25 u26 u27 u28 u29 u30 u31 u32 u33 u34 u35 u36 u37 u38 u39 u40 u41 u42 u43 u44 u45 u46 u47 u48 u49 u50 u51 u52 u53 u54 u55 u56 u57 u58 u59 u60 u61 u62 u63 u64 u65 u66 u67 u68 u69 u70 u71 u72:Value,a'={tmps:=#[u0,u1,.pointer (some ⟨w0.heap.size,0,none⟩),.int .i64 0,.pointer (some ⟨w0.heap.size+1,0,none⟩),u5,.int .i64 (left:Int),.pointer (some ⟨nb,0,none⟩),u8,u9,u10,u11,u12,u13,u14,u15,u16,u17,u18,u19,u20,u21,u22,u23,u24,u25,u26,u27,u28,u29,u30,u31,u32,u33,u34,u35,u36,u37,u38,u39,u40,u41,u42,u43,u44,u45,u46,u47,u48,u49,u50,u51,u52,u53,u54,u55,u56,u57,u58,u59,u60,u61,u62,u63,u64,u65,u66,u67,u68,u69,u70,u71,u72],defers:=[]}
def G9 (xs:List UInt8) (l left:Nat) (n:Nd) (r:Rr):Prop :=
 (l=0/\qW xs=zV (QU left r n)\/l=1/\qW xs=zV (zj left r n)\/l=2/\qW xs=zV (n,r))/\(l=2\/n.keys.length+left<=256/\n.vals.length+left<=256/\n.kids.length+left<=256)
def J9 (w0:World) (xs:List UInt8) (l:Nat) (a':Act) (w':World):Prop:=∃ (left nb:Nat) (kv vv dv:Value) (n:Nd) (r:Rr),Fr9 w0 left nb a'/\RSt w0 nb w' kv vv dv n r/\G9 xs l left n r
theorem qs0 {dv:Value} {n:Nd} (h:OwnN B w kv vv dv n):∃ a c a' c' a'' c'',kv=.slice a n.keys.length c/\vv=.slice a' n.vals.length c'/\dv=.slice a'' n.kids.length c'':=h.rd.slices
theorem frz {t:TypeId} (h:w.heap[g]?=some (.cells cs t (0,0))) (i:Nat):w.frozen? ⟨g,i,none⟩=false:=by simp[World.frozen?,h]
theorem qgp (w:World) (v:Value) (xs:List UInt8) (h:Rd w v xs) :
 Calls Tryz.prog 124 #[v] w fun e w'=>∃ kv vv dv,e=.returned (.tuple #[nv (qW xs).1 kv vv dv,.int .i64 (qW xs).2])/\OwnN w.heap.size w' kv vv dv (qW xs).1/\Below w.heap.size w w'/\Dj kv vv dv:=by
 obtain⟨a,c,rfl⟩:=h.slice;obtain⟨i0,ii,iz0,iz1,iz2⟩:=Xh qmq;obtain⟨j0,ji,jz0,jz1,jz2⟩:=Xh qmg;have HH:=qa h
 clear h;go_enter Tryz.func124,Tryz.ntmps124;go_wp2;refine Vf (J9 w xs) (fun l a' _=>if l=2 then 0 else(intOf (a'.tmps.getD 6 undef)).toNat+1) ?_ ?_ ?_
 ·rintro l a' w' ⟨left,nb,kv,vv,dv,n,r,_,_,hg,_⟩;rcases hg with ⟨rfl,_⟩|⟨rfl,_⟩|⟨rfl,_⟩<;>kernel_rfl
 ·obtain⟨X,hX⟩:∃ X,X=((w.alloc (.cells #[.bool false,qm,qm,qm] 84)).alloc (.cells #[.slice a xs.length c,.bool false] 212)):=⟨_,rfl⟩;have bX:Below w.heap.size w X:=by rw[hX];exact((xm _ _).alloc (xc _) _).alloc (by simp) _
  have sX:X.heap.size=w.heap.size+1+1:=by rw[hX];simp
  have gX:X.heap[w.heap.size+1]?=some (.cells #[.slice a xs.length c,.bool false] 212 (0,0)):=by
   rw[hX];have:=xy (w.alloc (.cells #[.bool false,qm,qm,qm] 84)) (.cells #[.slice a xs.length c,.bool false] 212)
   simpa using this
  have rX:X.heap[w.heap.size]?=some (.cells #[.bool false,qm,qm,qm] 84 (0,0)):=by
   rw[hX,xR _ _ _ (by simp)];exact xy w _
  obtain⟨r0,hr0⟩:∃ r:Rr,r=⟨xs,false⟩:=⟨_,rfl⟩;have x0:RdrX w (w.heap.size+1) X r0:=by subst hr0;exact⟨a,c,gX,HH.out,bX,by omega⟩
  have K1:=qa (zQ w (w.heap.size+1) X r0 1 x0 (by decide) (by decide))
  have RX:=qa (xb rX sX)
  have HR:=qa hr0
  clear bX gX rX x0 hr0
  go_wp2_with fail
  rw[<-hX];replace hX:=qa hX;refine K1.out.mono ?_;rintro e w1 ⟨rfl,r1,k1⟩;clear K1;have K2:=qa (zQ w (w.heap.size+1) w1 (rst 1 r0) 1 r1 (by decide) (by decide))
  have RY:Hid (w1.heap[w.heap.size]?=some (.cells #[.bool false,qm,qm,qm] 84 (0,0))/\w.heap.size+1+1<=w1.heap.size):=⟨(k1.1 _ (by have:=RX.out.2;omega) (by omega)).trans RX.out.1,by have:=k1.2.1;have:=RX.out.2;omega⟩
  obtain⟨M,hM⟩:∃ M,M=qQ 1 r0:=⟨_,rfl⟩;rw[<-hM];replace hM:=qa hM;clear r1 k1 RX
  go_wp2_with fail
  refine K2.out.mono ?_;rintro e w2 ⟨rfl,r2,k2⟩;clear K2;have RZ:Hid (w2.heap[w.heap.size]?=some (.cells #[.bool false,qm,qm,qm] 84 (0,0))/\w.heap.size+1+1<=w2.heap.size):=⟨(k2.1 _ (by have:=RY.out.2;omega) (by omega)).trans RY.out.1,by have:=k2.2.1;have:=RY.out.2;omega⟩
  have hL:qQ 1 (rst 1 r0)<256:=yB 1 _
  obtain⟨left,hleft⟩:∃ L,L=qQ 1 (rst 1 r0):=⟨_,rfl⟩;rw[<-hleft] at hL |-;replace hleft:=qa hleft;obtain⟨r,hr⟩:∃ q,q=rst 1 (rst 1 r0):=⟨_,rfl⟩;rw[<-hr] at r2;replace hr:=qa hr;obtain⟨nb,hnb⟩:∃ nb,nb=w2.heap.size:=⟨_,rfl⟩
  have ST:Hid (∀ b:Bool,RSt w nb (w2.alloc (.cells #[.bool b,qm,qm,qm] 84)) qm qm qm ⟨b,[],[],[]⟩ r):=fun b=>by
   have bb:Below w2.heap.size w2 (w2.alloc (.cells #[.bool b,qm,qm,qm] 84)):=(xm _ _).alloc (xc _) _
   refine⟨r2.to bb,(bb.block _ (xa RZ.out.1)).trans RZ.out.1,by rw[hnb];exact xy w2 _,OwnN.nil _ _ _,by have:=RZ.out.2;omega,?_,?_,?_⟩<;>(intro k e;cases e)
  clear r2 k2 RY;by_cases m1:M=1
  ·subst m1;have S0:=qa (ST.out true)
   clear ST;have hM1:=hM
   clear hM;obtain⟨V,hV⟩:∃ V,V=w2.alloc (.cells #[.bool true,qm,qm,qm] 84):=⟨_,rfl⟩;rw[<-hV] at S0;obtain⟨ra,rc,hrd⟩:=S0.out.rdr;obtain⟨⟨A0,A1⟩,_⟩:=Qc hrd.box;have RES:=qa S0.out.res
   have BEL:=qa hrd.bel
   clear hrd;obtain⟨⟨R0,R1,R2,R3⟩,Rf⟩:=qb RES.out;have Rf0:=Rf 0
   have Rf1:=Rf 1
   have Rf2:=Rf 2
   have Rf3:=Rf 3
   clear Rf;have N0:=(qb S0.out.box).1.1
   rw[hnb] at N0;cases hsh:r.short with
   | true =>
    rw[hsh] at A1;have e:Hid (qW xs=(Qw,8)):=zR (by rw[<-HR.out,<-hr.out];exact hsh)
    replace hsh:=qa hsh;rw[hV] at A0 A1 N0 R0 R1 R2 R3 Rf0 Rf1 Rf2 Rf3;go_wp2;rw[<-hV];rw[ZG];refine QD rfl rfl w.heap.size rfl _ _ (0,0) (qu (u:=V) RES.out _ _ _ _) _ xJ rfl Zf (.int .i64 8) rfl ?_;exact⟨qm,qm,qm,by rw[e.out];rfl,by rw[e.out];exact OwnN.nil _ _ _,qn BEL.out (xc _) _ _ _ _,Dj.nil⟩
   | false =>
    rw[hsh] at A1;have hs0:Hid ((rst 1 (rst 1 ⟨xs,false⟩)).short=false):=by show _=_;rw[<-HR.out,<-hr.out];exact hsh
    replace hsh:=qa hsh;rw[hV] at A0 A1 N0 R0 R1 R2 R3 Rf0 Rf1 Rf2 Rf3;go_wp2
    go_step3
    rw[<-hV];exact⟨left,nb,_,_,_,⟨true,[],[],[]⟩,r,by rw[hnb];exact⟨_,_,_,_,_,_,_,_,_,_,_,_,_,_,_,_,_,_,_,_,_,_,_,_,_,_,_,_,_,_,_,_,_,_,_,_,_,_,_,_,_,_,_,_,_,_,_,_,_,_,_,_,_,_,_,_,_,_,_,_,_,_,_,_,_,_,_,_,rfl⟩,S0.out,.inl ⟨rfl,by rw[hleft.out,hr.out,HR.out];exact Jv hs0.out (by rw[<-HR.out,<-hM1.out])⟩,.inr ⟨by simp;omega,by simp;omega,by simp;omega⟩⟩
  by_cases m0:M=0
  ·subst m0;have S0:=qa (ST.out false)
   clear ST m1;have hM1:=hM
   clear hM;obtain⟨V,hV⟩:∃ V,V=w2.alloc (.cells #[.bool false,qm,qm,qm] 84):=⟨_,rfl⟩;rw[<-hV] at S0;obtain⟨ra,rc,hrd⟩:=S0.out.rdr;obtain⟨⟨A0,A1⟩,_⟩:=Qc hrd.box;have RES:=qa S0.out.res
   have BEL:=qa hrd.bel
   clear hrd;obtain⟨⟨R0,R1,R2,R3⟩,Rf⟩:=qb RES.out;have Rf0:=Rf 0
   have Rf1:=Rf 1
   have Rf2:=Rf 2
   have Rf3:=Rf 3
   clear Rf;have N0:=(qb S0.out.box).1.1
   rw[hnb] at N0;cases hsh:r.short with
   | true =>
    rw[hsh] at A1;have e:Hid (qW xs=(Qw,8)):=zR (by rw[<-HR.out,<-hr.out];exact hsh)
    replace hsh:=qa hsh;rw[hV] at A0 A1 N0 R0 R1 R2 R3 Rf0 Rf1 Rf2 Rf3;go_wp2;rw[<-hV];rw[ZG];refine QD rfl rfl w.heap.size rfl _ _ (0,0) (qu (u:=V) RES.out _ _ _ _) _ xJ rfl Zf (.int .i64 8) rfl ?_;exact⟨qm,qm,qm,by rw[e.out];rfl,by rw[e.out];exact OwnN.nil _ _ _,qn BEL.out (xc _) _ _ _ _,Dj.nil⟩
   | false =>
    rw[hsh] at A1;have hs0:Hid ((rst 1 (rst 1 ⟨xs,false⟩)).short=false):=by show _=_;rw[<-HR.out,<-hr.out];exact hsh
    replace hsh:=qa hsh;rw[hV] at A0 A1 N0 R0 R1 R2 R3 Rf0 Rf1 Rf2 Rf3;go_wp2
    go_step3
    rw[<-hV];obtain⟨n,hn⟩:∃ n:Nd,n=⟨false,[],[],[]⟩:=⟨_,rfl⟩;rw[<-hn] at S0;have hb1:n.keys.length+left<=256:=by rw[hn];simp;omega
    have hb2:n.vals.length+left<=256:=by rw[hn];simp;omega
    have hb3:n.kids.length+left<=256:=by rw[hn];simp;omega
    have hG:Hid (qW xs=zV (zj left r n)):=by
     show _=_
     rw[hn,hleft.out,hr.out,HR.out];exact jO hs0.out (by rw[<-HR.out,<-hM1.out])
    replace hn:=qa hn;rw[<-hnb];replace hnb:=qa hnb;replace hV:=qa hV;clear A0 A1 N0 R0 R1 R2 R3 Rf0 Rf1 Rf2 Rf3;by_cases h0:left=0
    ·subst h0;have hG2:Hid (qW xs=zV (zj 0 r n)):=hG
     clear hG;go_wp2;have SD6:Hid (RSt w nb V.drew qm qm qm (⟨n.leaf,n.keys,n.vals,n.kids⟩:Nd) r):=qa (S0.out.below ((xm V.heap.size V).drew))
     have KT6:=qa (zQ w (w.heap.size+1) V.drew r 4 SD6.out.rdr (by decide) (by decide))
     have CB6:Hid (∀ (U:World) (q:Rr),RSt w nb U qm qm qm (⟨n.leaf,n.keys,n.vals,n.kids⟩:Nd) q->U.cell? ⟨nb,3,none⟩=some qm):=fun U q h=>(qb h.box).1.2.2.2
     refine qN (fun w9=>w9.cell? ⟨nb,3,none⟩=some qm) [(0,true),(1,true),(2,false),(3,false)] 4 qG (by kernel_rfl) (fun _ _ _ _ h=>h) ?_
     iterate 2
      refine Qj (v:=?_) rfl (by kernel_rfl) (CB6.out _ _ SD6.out) ?_ ?_
      rotate_left
      ·intro w9 r1;go_simp;try with_reducible rfl
      try simp only[Act.put,qB2]
     refine qL rfl (by kernel_rfl) fun K hK=>?_
     refine qk 134 _ _ (by rfl) #[.pointer (some ⟨w.heap.size+1,0,none⟩),.int .i64 4] (by simp[Act.eval]) (Tryz.call134 _ _) KT6.out ?_
     rintro e wa6 ⟨rfl,ra6,ka6⟩;have sa6:=SD6.out.call ka6 ra6
     refine⟨_,rfl,hK _ _ (CB6.out _ _ sa6) ?_⟩;clear hK K;have SA6:=qa sa6
     clear sa6 ra6 ka6;try simp only[Act.put,qB2]
     refine qL rfl (by kernel_rfl) fun K hK=>?_
     have sb6:=SA6.out.below ((xm wa6.heap.size wa6).alloc (xc _) (.cells #[(.int .i64 ((qQ 4 r:Nat):Int))] 3))
     go_simp;refine hK _ _ (CB6.out _ _ sb6) ?_;clear hK K;try simp only[Act.put,qB2]
     show wpList _ _ _ _ _ _
     dsimp only[List.drop]
     have FI6:Hid (∀ (g cp:Nat) (U:World),U.ownsRow (nb+1) 3 1 (.slice (some ⟨g,0,none⟩) (n.kids.length+1) cp) (n.kids.length+1) (n.kids.map (Value.int .i64)++[(.int .i64 ((qQ 4 r:Nat):Int))])->(wa6.alloc (.cells #[(.int .i64 ((qQ 4 r:Nat):Int))] 3)).grownBy U (Value.ownBlock qm)->(Value.ownBlock qm=some g\/g=wa6.heap.size+1)->U.cell? ⟨nb,3,none⟩=some qm/\U.frozen? ⟨nb,3,none⟩=false/\Hid (RSt w nb (U.setCell ⟨nb,3,none⟩ (.slice (some ⟨g,0,none⟩) (n.kids.length+1) cp)) qm qm (.slice (some ⟨g,0,none⟩) (n.kids.length+1) cp) (⟨n.leaf,n.keys,n.vals,(n.kids++[((qQ 4 r:Nat):Int)])⟩:Nd) (rst 4 r))):=fun g cp U ob kb hb=>by
      have sb:=sb6
      have nbl:=(kb.block nb (xa sb.box) (fun e=>by have:=(qO sb.own.kids nb e.symm).1;omega)).trans sb.box
      have oo:OwnJ (nb+1) U (.slice (some ⟨g,0,none⟩) (n.kids.length+1) cp) (n.kids++[((qQ 4 r:Nat):Int)]):=by show World.ownsRow _ _ _ _ _ _ _;simpa using ob
      exact⟨(qb nbl).1.2.2.2,frz nbl 3,qa (sb.kids rfl oo kb (by rcases hb with h|h;exact .inl h;exact .inr (by simpa using h)))⟩
     have own6:=sb6.own.kids
     dsimp only at own6;have lt6:=xa sb6.box
     clear sb6 KT6 CB6 SD6 SA6
     go_wp2_with (at_builtin;refine Xq _ rfl _ _ 82 rfl (nb+1) 3 _ (.int .i64 0) 1 8 Ko ji jz0 jz1 jz2 rfl (by decide) qm n.kids.length (n.kids.map (Value.int .i64)) rfl own6 ⟨wa6.heap.size,0,none⟩ 1 1 [(.int .i64 ((qQ 4 r:Nat):Int))] rfl rfl (Xr (xy wa6 _)) (by simp[Value.oneCell']) (by decide) (by rw[show maxLen=9223372036854775807 from rfl];first|omega|(simp;omega)) (by first|omega|(simp;omega)) (by omega) (wa6.heap.size+1) (by simp) ?_;intro ga6 ca6 wb6 ob6 kb6 hb6 _;obtain⟨cc6,fz6,ST6⟩:=FI6.out ga6 ca6 wb6 ob6 kb6 hb6;clear ob6 kb6 hb6 FI6 own6 lt6)
     clear cc6 fz6
     go_step3
     exact⟨0,nb,_,_,_,(⟨n.leaf,n.keys,n.vals,(n.kids++[((qQ 4 r:Nat):Int)])⟩:Nd),(rst 4 r),⟨_,_,_,_,_,_,_,_,_,_,_,_,_,_,_,_,_,_,_,_,_,_,_,_,_,_,_,_,_,_,_,_,_,_,_,_,_,_,_,_,_,_,_,_,_,_,_,_,_,_,_,_,_,_,_,_,_,_,_,_,_,_,_,_,_,_,_,_,rfl⟩,ST6.out,⟨.inr (.inr ⟨rfl,hG2.out⟩),.inl rfl⟩⟩
    skip
    obtain⟨j,hj⟩:∃ j,left=j+1:=⟨left-1,by omega⟩
    have hj1:(left:Int)-1=(j:Int):=by omega
    have hj3:IntKind.i64.wrap (j:Int)=(j:Int):=xB _ (by omega)
    have hj4:((left:Int) == 0)=false:=qay (by omega)
    replace hj:=qa hj;clear h0;have hG2:Hid (qW xs=zV (zj (j+1) r n)):=by show _=_;rw[<-hj.out];exact hG.out
    clear hG;go_wp2;have SD7:Hid (RSt w nb V.drew qm qm qm (⟨n.leaf,n.keys,n.vals,n.kids⟩:Nd) r):=qa (S0.out.below ((xm V.heap.size V).drew))
    have KT7:=qa (zQ w (w.heap.size+1) V.drew r 4 SD7.out.rdr (by decide) (by decide))
    have CB7:Hid (∀ (U:World) (q:Rr),RSt w nb U qm qm qm (⟨n.leaf,n.keys,n.vals,n.kids⟩:Nd) q->U.cell? ⟨nb,3,none⟩=some qm):=fun U q h=>(qb h.box).1.2.2.2
    refine qN (fun w9=>w9.cell? ⟨nb,3,none⟩=some qm) [(0,true),(1,true),(2,false),(3,false)] 4 qG (by kernel_rfl) (fun _ _ _ _ h=>h) ?_
    iterate 2
     refine Qj (v:=?_) rfl (by kernel_rfl) (CB7.out _ _ SD7.out) ?_ ?_
     rotate_left
     ·intro w9 r1;go_simp;try with_reducible rfl
     try simp only[Act.put,qB2]
    refine qL rfl (by kernel_rfl) fun K hK=>?_
    refine qk 134 _ _ (by rfl) #[.pointer (some ⟨w.heap.size+1,0,none⟩),.int .i64 4] (by simp[Act.eval]) (Tryz.call134 _ _) KT7.out ?_
    rintro e wa7 ⟨rfl,ra7,ka7⟩;have sa7:=SD7.out.call ka7 ra7
    refine⟨_,rfl,hK _ _ (CB7.out _ _ sa7) ?_⟩;clear hK K;have SA7:=qa sa7
    clear sa7 ra7 ka7;try simp only[Act.put,qB2]
    refine qL rfl (by kernel_rfl) fun K hK=>?_
    have sb7:=SA7.out.below ((xm wa7.heap.size wa7).alloc (xc _) (.cells #[(.int .i64 ((qQ 4 r:Nat):Int))] 3))
    go_simp;refine hK _ _ (CB7.out _ _ sb7) ?_;clear hK K;try simp only[Act.put,qB2]
    show wpList _ _ _ _ _ _
    dsimp only[List.drop]
    have FI7:Hid (∀ (g cp:Nat) (U:World),U.ownsRow (nb+1) 3 1 (.slice (some ⟨g,0,none⟩) (n.kids.length+1) cp) (n.kids.length+1) (n.kids.map (Value.int .i64)++[(.int .i64 ((qQ 4 r:Nat):Int))])->(wa7.alloc (.cells #[(.int .i64 ((qQ 4 r:Nat):Int))] 3)).grownBy U (Value.ownBlock qm)->(Value.ownBlock qm=some g\/g=wa7.heap.size+1)->U.cell? ⟨nb,3,none⟩=some qm/\U.frozen? ⟨nb,3,none⟩=false/\Hid (RSt w nb (U.setCell ⟨nb,3,none⟩ (.slice (some ⟨g,0,none⟩) (n.kids.length+1) cp)) qm qm (.slice (some ⟨g,0,none⟩) (n.kids.length+1) cp) (⟨n.leaf,n.keys,n.vals,(n.kids++[((qQ 4 r:Nat):Int)])⟩:Nd) (rst 4 r))):=fun g cp U ob kb hb=>by
     have sb:=sb7
     have nbl:=(kb.block nb (xa sb.box) (fun e=>by have:=(qO sb.own.kids nb e.symm).1;omega)).trans sb.box
     have oo:OwnJ (nb+1) U (.slice (some ⟨g,0,none⟩) (n.kids.length+1) cp) (n.kids++[((qQ 4 r:Nat):Int)]):=by show World.ownsRow _ _ _ _ _ _ _;simpa using ob
     exact⟨(qb nbl).1.2.2.2,frz nbl 3,qa (sb.kids rfl oo kb (by rcases hb with h|h;exact .inl h;exact .inr (by simpa using h)))⟩
    have own7:=sb7.own.kids
    dsimp only at own7;have lt7:=xa sb7.box
    clear sb7 KT7 CB7 SD7 SA7
    go_wp2_with (at_builtin;refine Xq _ rfl _ _ 82 rfl (nb+1) 3 _ (.int .i64 0) 1 8 Ko ji jz0 jz1 jz2 rfl (by decide) qm n.kids.length (n.kids.map (Value.int .i64)) rfl own7 ⟨wa7.heap.size,0,none⟩ 1 1 [(.int .i64 ((qQ 4 r:Nat):Int))] rfl rfl (Xr (xy wa7 _)) (by simp[Value.oneCell']) (by decide) (by rw[show maxLen=9223372036854775807 from rfl];first|omega|(simp;omega)) (by first|omega|(simp;omega)) (by omega) (wa7.heap.size+1) (by simp) ?_;intro ga7 ca7 wb7 ob7 kb7 hb7 _;obtain⟨cc7,fz7,ST7⟩:=FI7.out ga7 ca7 wb7 ob7 kb7 hb7;clear ob7 kb7 hb7 FI7 own7 lt7)
    clear cc7 fz7;obtain⟨V8,hV8⟩:∃ U,U=(wb7.setCell ⟨nb,3,none⟩ (.slice (some ⟨ga7,0,none⟩) (n.kids.length+1) ca7)):=⟨_,rfl⟩;rw[<-hV8];rw[<-hV8] at ST7;replace hV8:=qa hV8;have SD8:Hid (RSt w nb V8.drew qm qm (.slice (some ⟨ga7,0,none⟩) (n.kids.length+1) ca7) (⟨n.leaf,n.keys,n.vals,(n.kids++[((qQ 4 r:Nat):Int)])⟩:Nd) (rst 4 r)):=qa (ST7.out.below ((xm V8.heap.size V8).drew))
    have KT8:=qa (Yz w (w.heap.size+1) V8.drew (rst 4 r) SD8.out.rdr)
    have CB8:Hid (∀ (U:World) (q:Rr),RSt w nb U qm qm (.slice (some ⟨ga7,0,none⟩) (n.kids.length+1) ca7) (⟨n.leaf,n.keys,n.vals,(n.kids++[((qQ 4 r:Nat):Int)])⟩:Nd) q->U.cell? ⟨nb,1,none⟩=some qm):=fun U q h=>(qb h.box).1.2.1
    refine qN (fun w9=>w9.cell? ⟨nb,1,none⟩=some qm) [(0,true),(1,true),(2,false),(3,false)] 4 qG (by kernel_rfl) (fun _ _ _ _ h=>h) ?_
    iterate 2
     refine Qj (v:=?_) rfl (by kernel_rfl) (CB8.out _ _ SD8.out) ?_ ?_
     rotate_left
     ·intro w9 r1;go_simp;try with_reducible rfl
     try simp only[Act.put,qB2]
    refine qL rfl (by kernel_rfl) fun K hK=>?_
    refine qk 135 _ _ (by rfl) #[.pointer (some ⟨w.heap.size+1,0,none⟩)] (by simp[Act.eval]) (Tryz.call135 _ _) KT8.out ?_
    rintro e wa8 ⟨rfl,ra8,ka8⟩;have sa8:=SD8.out.call ka8 ra8
    refine⟨_,rfl,hK _ _ (CB8.out _ _ sa8) ?_⟩;clear hK K;have SA8:=qa sa8
    clear sa8 ra8 ka8;try simp only[Act.put,qB2]
    refine qL rfl (by kernel_rfl) fun K hK=>?_
    have sb8:=SA8.out.below ((xm wa8.heap.size wa8).alloc (xc _) (.cells #[(st (rtx (rst 4 r)))] 9))
    go_simp;refine hK _ _ (CB8.out _ _ sb8) ?_;clear hK K;try simp only[Act.put,qB2]
    show wpList _ _ _ _ _ _
    dsimp only[List.drop]
    have FI8:Hid (∀ (g cp:Nat) (U:World),U.ownsRow (nb+1) 9 1 (.slice (some ⟨g,0,none⟩) (n.keys.length+1) cp) (n.keys.length+1) (n.keys.map st++[(st (rtx (rst 4 r)))])->(wa8.alloc (.cells #[(st (rtx (rst 4 r)))] 9)).grownBy U (Value.ownBlock qm)->(Value.ownBlock qm=some g\/g=wa8.heap.size+1)->U.cell? ⟨nb,1,none⟩=some qm/\U.frozen? ⟨nb,1,none⟩=false/\Hid (RSt w nb (U.setCell ⟨nb,1,none⟩ (.slice (some ⟨g,0,none⟩) (n.keys.length+1) cp)) (.slice (some ⟨g,0,none⟩) (n.keys.length+1) cp) qm (.slice (some ⟨ga7,0,none⟩) (n.kids.length+1) ca7) (⟨n.leaf,(n.keys++[(rtx (rst 4 r))]),n.vals,(n.kids++[((qQ 4 r:Nat):Int)])⟩:Nd) (rts (rst 4 r)))):=fun g cp U ob kb hb=>by
     have sb:=sb8
     have nbl:=(kb.block nb (xa sb.box) (fun e=>by have:=(qO sb.own.keys nb e.symm).1;omega)).trans sb.box
     have oo:OwnT (nb+1) U (.slice (some ⟨g,0,none⟩) (n.keys.length+1) cp) (n.keys++[(rtx (rst 4 r))]):=by show World.ownsRow _ _ _ _ _ _ _;simpa using ob
     exact⟨(qb nbl).1.2.1,frz nbl 1,qa (sb.keys rfl oo kb (by rcases hb with h|h;exact .inl h;exact .inr (by simpa using h)))⟩
    have own8:=sb8.own.keys
    dsimp only at own8;have lt8:=xa sb8.box
    clear sb8 KT8 CB8 SD8 SA8
    go_wp2_with (at_builtin;refine Xq _ rfl _ _ 81 rfl (nb+1) 9 _ (.string ⟨#[]⟩) 1 16 Xz ii iz0 iz1 iz2 rfl (by decide) qm n.keys.length (n.keys.map st) rfl own8 ⟨wa8.heap.size,0,none⟩ 1 1 [(st (rtx (rst 4 r)))] rfl rfl (Xr (xy wa8 _)) (by simp[Value.oneCell']) (by decide) (by rw[show maxLen=9223372036854775807 from rfl];first|omega|(simp;omega)) (by first|omega|(simp;omega)) (by omega) (wa8.heap.size+1) (by simp) ?_;intro ga8 ca8 wb8 ob8 kb8 hb8 _;obtain⟨cc8,fz8,ST8⟩:=FI8.out ga8 ca8 wb8 ob8 kb8 hb8;clear ob8 kb8 hb8 FI8 own8 lt8)
    clear cc8 fz8
    go_step3
    exact⟨j,nb,_,_,_,(⟨n.leaf,(n.keys++[(rtx (rst 4 r))]),n.vals,(n.kids++[((qQ 4 r:Nat):Int)])⟩:Nd),(rts (rst 4 r)),⟨_,_,_,_,_,_,_,_,_,_,_,_,_,_,_,_,_,_,_,_,_,_,_,_,_,_,_,_,_,_,_,_,_,_,_,_,_,_,_,_,_,_,_,_,_,_,_,_,_,_,_,_,_,_,_,_,_,_,_,_,_,_,_,_,_,_,_,_,rfl⟩,ST8.out,⟨.inr (.inl ⟨rfl,hG2.out⟩),.inr ⟨by have:=hj.out;simp;omega,by have:=hj.out;simp;omega,by have:=hj.out;simp;omega⟩⟩⟩
  have S0:=qa (ST.out ((M:Int) == 1))
  clear ST;have hM1:=hM
  clear hM;obtain⟨V,hV⟩:∃ V,V=w2.alloc (.cells #[.bool ((M:Int) == 1),qm,qm,qm] 84):=⟨_,rfl⟩;rw[<-hV] at S0;obtain⟨ra,rc,hrd⟩:=S0.out.rdr;obtain⟨⟨A0,A1⟩,_⟩:=Qc hrd.box;have RES:=qa S0.out.res
  have BEL:=qa hrd.bel
  clear hrd;obtain⟨⟨R0,R1,R2,R3⟩,Rf⟩:=qb RES.out;have Rf0:=Rf 0
  have Rf1:=Rf 1
  have Rf2:=Rf 2
  have Rf3:=Rf 3
  clear Rf;have N0:=(qb S0.out.box).1.1
  rw[hnb] at N0;cases hsh:r.short with
  | true =>
   rw[hsh] at A1;have e:Hid (qW xs=(Qw,8)):=zR (by rw[<-HR.out,<-hr.out];exact hsh)
   replace hsh:=qa hsh;rw[hV] at A0 A1 N0 R0 R1 R2 R3 Rf0 Rf1 Rf2 Rf3;go_wp2;rw[<-hV];rw[ZG];refine QD rfl rfl w.heap.size rfl _ _ (0,0) (qu (u:=V) RES.out _ _ _ _) _ xJ rfl Zf (.int .i64 8) rfl ?_;exact⟨qm,qm,qm,by rw[e.out];rfl,by rw[e.out];exact OwnN.nil _ _ _,qn BEL.out (xc _) _ _ _ _,Dj.nil⟩
  | false =>
   rw[hsh] at A1;have hs0:Hid ((rst 1 (rst 1 ⟨xs,false⟩)).short=false):=by show _=_;rw[<-HR.out,<-hr.out];exact hsh
   replace hsh:=qa hsh;rw[hV] at A0 A1 N0 R0 R1 R2 R3 Rf0 Rf1 Rf2 Rf3;have e:Hid (qW xs=(Qw,22)):=Yb hs0.out (by rw[<-HR.out,<-hM1.out];exact m1) (by rw[<-HR.out,<-hM1.out];exact m0)
   have g2:((M:Int) != 1)=true:=by simp;omega
   have g3:((M:Int) != 0)=true:=by simp;omega
   go_wp2;rw[<-hV];rw[ZG];refine QD rfl rfl w.heap.size rfl _ _ (0,0) (qu (u:=V) RES.out _ _ _ _) _ xJ rfl Zf (.int .i64 22) rfl ?_;exact⟨qm,qm,qm,by rw[e.out];rfl,by rw[e.out];exact OwnN.nil _ _ _,qn BEL.out (xc _) _ _ _ _,Dj.nil⟩
 rintro l a' w' ⟨left,nb,kv,vv,dv,n,r,⟨u0,u1,u5,u8,u9,u10,u11,u12,u13,u14,u15,u16,u17,u18,u19,u20,u21,u22,u23,u24,u25,u26,u27,u28,u29,u30,u31,u32,u33,u34,u35,u36,u37,u38,u39,u40,u41,u42,u43,u44,u45,u46,u47,u48,u49,u50,u51,u52,u53,u54,u55,u56,u57,u58,u59,u60,u61,u62,u63,u64,u65,u66,u67,u68,u69,u70,u71,u72,rfl⟩,hs,hg,hbd⟩;obtain⟨ak,ck,av,cv,ad,cd,rfl,rfl,rfl⟩:=qs0 hs.own;have S0:=qa hs
 clear hs;rcases hg with ⟨rfl,hg⟩|⟨rfl,hg⟩|⟨rfl,hg⟩
 ·obtain⟨hb1,hb2,hb3⟩:n.keys.length+left<=256/\n.vals.length+left<=256/\n.kids.length+left<=256:=by rcases hbd with h|h;cases h;exact h
  have hG:=qa hg
  clear hg hbd;simp only[findLabel];by_cases h0:left=0
  ·subst h0;have hG2:Hid (qW xs=zV (QU 0 r n)):=hG
   clear hG;go_wp2
   go_step3
   exact xb ⟨0,nb,_,_,_,(⟨n.leaf,n.keys,n.vals,n.kids⟩:Nd),r,⟨_,_,_,_,_,_,_,_,_,_,_,_,_,_,_,_,_,_,_,_,_,_,_,_,_,_,_,_,_,_,_,_,_,_,_,_,_,_,_,_,_,_,_,_,_,_,_,_,_,_,_,_,_,_,_,_,_,_,_,_,_,_,_,_,_,_,_,_,rfl⟩,S0.out,⟨.inr (.inr ⟨rfl,hG2.out⟩),.inl rfl⟩⟩ (by simp[intOf])
  skip
  obtain⟨j,hj⟩:∃ j,left=j+1:=⟨left-1,by omega⟩
  have hj1:(left:Int)-1=(j:Int):=by omega
  have hj3:IntKind.i64.wrap (j:Int)=(j:Int):=xB _ (by omega)
  have hj4:((left:Int) == 0)=false:=qay (by omega)
  replace hj:=qa hj;clear h0;have hG2:Hid (qW xs=zV (QU (j+1) r n)):=by show _=_;rw[<-hj.out];exact hG.out
  clear hG;go_wp2;have SD1:Hid (RSt w nb w'.drew (.slice ak n.keys.length ck) (.slice av n.vals.length cv) (.slice ad n.kids.length cd) (⟨n.leaf,n.keys,n.vals,n.kids⟩:Nd) r):=qa (S0.out.below ((xm w'.heap.size w').drew))
  have KT1:=qa (Yz w (w.heap.size+1) w'.drew r SD1.out.rdr)
  have CB1:Hid (∀ (U:World) (q:Rr),RSt w nb U (.slice ak n.keys.length ck) (.slice av n.vals.length cv) (.slice ad n.kids.length cd) (⟨n.leaf,n.keys,n.vals,n.kids⟩:Nd) q->U.cell? ⟨nb,1,none⟩=some (.slice ak n.keys.length ck)):=fun U q h=>(qb h.box).1.2.1
  refine qN (fun w9=>w9.cell? ⟨nb,1,none⟩=some (.slice ak n.keys.length ck)) [(0,true),(1,true),(2,false),(3,false)] 4 qG (by kernel_rfl) (fun _ _ _ _ h=>h) ?_
  iterate 2
   refine Qj (v:=?_) rfl (by kernel_rfl) (CB1.out _ _ SD1.out) ?_ ?_
   rotate_left
   ·intro w9 r1;go_simp;try with_reducible rfl
   try simp only[Act.put,qB2]
  refine qL rfl (by kernel_rfl) fun K hK=>?_
  refine qk 135 _ _ (by rfl) #[.pointer (some ⟨w.heap.size+1,0,none⟩)] (by simp[Act.eval]) (Tryz.call135 _ _) KT1.out ?_
  rintro e wa1 ⟨rfl,ra1,ka1⟩;have sa1:=SD1.out.call ka1 ra1
  refine⟨_,rfl,hK _ _ (CB1.out _ _ sa1) ?_⟩;clear hK K;have SA1:=qa sa1
  clear sa1 ra1 ka1;try simp only[Act.put,qB2]
  refine qL rfl (by kernel_rfl) fun K hK=>?_
  have sb1:=SA1.out.below ((xm wa1.heap.size wa1).alloc (xc _) (.cells #[(st (rtx r))] 9))
  go_simp;refine hK _ _ (CB1.out _ _ sb1) ?_;clear hK K;try simp only[Act.put,qB2]
  show wpList _ _ _ _ _ _
  dsimp only[List.drop]
  have FI1:Hid (∀ (g cp:Nat) (U:World),U.ownsRow (nb+1) 9 1 (.slice (some ⟨g,0,none⟩) (n.keys.length+1) cp) (n.keys.length+1) (n.keys.map st++[(st (rtx r))])->(wa1.alloc (.cells #[(st (rtx r))] 9)).grownBy U (Value.ownBlock (.slice ak n.keys.length ck))->(Value.ownBlock (.slice ak n.keys.length ck)=some g\/g=wa1.heap.size+1)->U.cell? ⟨nb,1,none⟩=some (.slice ak n.keys.length ck)/\U.frozen? ⟨nb,1,none⟩=false/\Hid (RSt w nb (U.setCell ⟨nb,1,none⟩ (.slice (some ⟨g,0,none⟩) (n.keys.length+1) cp)) (.slice (some ⟨g,0,none⟩) (n.keys.length+1) cp) (.slice av n.vals.length cv) (.slice ad n.kids.length cd) (⟨n.leaf,(n.keys++[(rtx r)]),n.vals,n.kids⟩:Nd) (rts r))):=fun g cp U ob kb hb=>by
   have sb:=sb1
   have nbl:=(kb.block nb (xa sb.box) (fun e=>by have:=(qO sb.own.keys nb e.symm).1;omega)).trans sb.box
   have oo:OwnT (nb+1) U (.slice (some ⟨g,0,none⟩) (n.keys.length+1) cp) (n.keys++[(rtx r)]):=by show World.ownsRow _ _ _ _ _ _ _;simpa using ob
   exact⟨(qb nbl).1.2.1,frz nbl 1,qa (sb.keys rfl oo kb (by rcases hb with h|h;exact .inl h;exact .inr (by simpa using h)))⟩
  have own1:=sb1.own.keys
  dsimp only at own1;have lt1:=xa sb1.box
  clear sb1 KT1 CB1 SD1 SA1
  go_wp2_with (at_builtin;refine Xq _ rfl _ _ 81 rfl (nb+1) 9 _ (.string ⟨#[]⟩) 1 16 Xz ii iz0 iz1 iz2 rfl (by decide) (.slice ak n.keys.length ck) n.keys.length (n.keys.map st) rfl own1 ⟨wa1.heap.size,0,none⟩ 1 1 [(st (rtx r))] rfl rfl (Xr (xy wa1 _)) (by simp[Value.oneCell']) (by decide) (by rw[show maxLen=9223372036854775807 from rfl];first|omega|(simp;omega)) (by first|omega|(simp;omega)) (by omega) (wa1.heap.size+1) (by simp) ?_;intro ga1 ca1 wb1 ob1 kb1 hb1 _;obtain⟨cc1,fz1,ST1⟩:=FI1.out ga1 ca1 wb1 ob1 kb1 hb1;clear ob1 kb1 hb1 FI1 own1 lt1)
  clear cc1 fz1;obtain⟨V2,hV2⟩:∃ U,U=(wb1.setCell ⟨nb,1,none⟩ (.slice (some ⟨ga1,0,none⟩) (n.keys.length+1) ca1)):=⟨_,rfl⟩;rw[<-hV2];rw[<-hV2] at ST1;replace hV2:=qa hV2;have SD2:Hid (RSt w nb V2.drew (.slice (some ⟨ga1,0,none⟩) (n.keys.length+1) ca1) (.slice av n.vals.length cv) (.slice ad n.kids.length cd) (⟨n.leaf,(n.keys++[(rtx r)]),n.vals,n.kids⟩:Nd) (rts r)):=qa (ST1.out.below ((xm V2.heap.size V2).drew))
  have KT2:=qa (Yz w (w.heap.size+1) V2.drew (rts r) SD2.out.rdr)
  have CB2:Hid (∀ (U:World) (q:Rr),RSt w nb U (.slice (some ⟨ga1,0,none⟩) (n.keys.length+1) ca1) (.slice av n.vals.length cv) (.slice ad n.kids.length cd) (⟨n.leaf,(n.keys++[(rtx r)]),n.vals,n.kids⟩:Nd) q->U.cell? ⟨nb,2,none⟩=some (.slice av n.vals.length cv)):=fun U q h=>(qb h.box).1.2.2.1
  refine qN (fun w9=>w9.cell? ⟨nb,2,none⟩=some (.slice av n.vals.length cv)) [(0,true),(1,true),(2,false),(3,false)] 4 qG (by kernel_rfl) (fun _ _ _ _ h=>h) ?_
  iterate 2
   refine Qj (v:=?_) rfl (by kernel_rfl) (CB2.out _ _ SD2.out) ?_ ?_
   rotate_left
   ·intro w9 r1;go_simp;try with_reducible rfl
   try simp only[Act.put,qB2]
  refine qL rfl (by kernel_rfl) fun K hK=>?_
  refine qk 135 _ _ (by rfl) #[.pointer (some ⟨w.heap.size+1,0,none⟩)] (by simp[Act.eval]) (Tryz.call135 _ _) KT2.out ?_
  rintro e wa2 ⟨rfl,ra2,ka2⟩;have sa2:=SD2.out.call ka2 ra2
  refine⟨_,rfl,hK _ _ (CB2.out _ _ sa2) ?_⟩;clear hK K;have SA2:=qa sa2
  clear sa2 ra2 ka2;try simp only[Act.put,qB2]
  refine qL rfl (by kernel_rfl) fun K hK=>?_
  have sb2:=SA2.out.below ((xm wa2.heap.size wa2).alloc (xc _) (.cells #[(st (rtx (rts r)))] 9))
  go_simp;refine hK _ _ (CB2.out _ _ sb2) ?_;clear hK K;try simp only[Act.put,qB2]
  show wpList _ _ _ _ _ _
  dsimp only[List.drop]
  have FI2:Hid (∀ (g cp:Nat) (U:World),U.ownsRow (nb+1) 9 1 (.slice (some ⟨g,0,none⟩) (n.vals.length+1) cp) (n.vals.length+1) (n.vals.map st++[(st (rtx (rts r)))])->(wa2.alloc (.cells #[(st (rtx (rts r)))] 9)).grownBy U (Value.ownBlock (.slice av n.vals.length cv))->(Value.ownBlock (.slice av n.vals.length cv)=some g\/g=wa2.heap.size+1)->U.cell? ⟨nb,2,none⟩=some (.slice av n.vals.length cv)/\U.frozen? ⟨nb,2,none⟩=false/\Hid (RSt w nb (U.setCell ⟨nb,2,none⟩ (.slice (some ⟨g,0,none⟩) (n.vals.length+1) cp)) (.slice (some ⟨ga1,0,none⟩) (n.keys.length+1) ca1) (.slice (some ⟨g,0,none⟩) (n.vals.length+1) cp) (.slice ad n.kids.length cd) (⟨n.leaf,(n.keys++[(rtx r)]),(n.vals++[(rtx (rts r))]),n.kids⟩:Nd) (rts (rts r)))):=fun g cp U ob kb hb=>by
   have sb:=sb2
   have nbl:=(kb.block nb (xa sb.box) (fun e=>by have:=(qO sb.own.vals nb e.symm).1;omega)).trans sb.box
   have oo:OwnT (nb+1) U (.slice (some ⟨g,0,none⟩) (n.vals.length+1) cp) (n.vals++[(rtx (rts r))]):=by show World.ownsRow _ _ _ _ _ _ _;simpa using ob
   exact⟨(qb nbl).1.2.2.1,frz nbl 2,qa (sb.vals rfl oo kb (by rcases hb with h|h;exact .inl h;exact .inr (by simpa using h)))⟩
  have own2:=sb2.own.vals
  dsimp only at own2;have lt2:=xa sb2.box
  clear sb2 KT2 CB2 SD2 SA2
  go_wp2_with (at_builtin;refine Xq _ rfl _ _ 81 rfl (nb+1) 9 _ (.string ⟨#[]⟩) 1 16 Xz ii iz0 iz1 iz2 rfl (by decide) (.slice av n.vals.length cv) n.vals.length (n.vals.map st) rfl own2 ⟨wa2.heap.size,0,none⟩ 1 1 [(st (rtx (rts r)))] rfl rfl (Xr (xy wa2 _)) (by simp[Value.oneCell']) (by decide) (by rw[show maxLen=9223372036854775807 from rfl];first|omega|(simp;omega)) (by first|omega|(simp;omega)) (by omega) (wa2.heap.size+1) (by simp) ?_;intro ga2 ca2 wb2 ob2 kb2 hb2 _;obtain⟨cc2,fz2,ST2⟩:=FI2.out ga2 ca2 wb2 ob2 kb2 hb2;clear ob2 kb2 hb2 FI2 own2 lt2)
  clear cc2 fz2
  go_step3
  exact xb ⟨j,nb,_,_,_,(⟨n.leaf,(n.keys++[(rtx r)]),(n.vals++[(rtx (rts r))]),n.kids⟩:Nd),(rts (rts r)),⟨_,_,_,_,_,_,_,_,_,_,_,_,_,_,_,_,_,_,_,_,_,_,_,_,_,_,_,_,_,_,_,_,_,_,_,_,_,_,_,_,_,_,_,_,_,_,_,_,_,_,_,_,_,_,_,_,_,_,_,_,_,_,_,_,_,_,_,_,rfl⟩,ST2.out,⟨.inl ⟨rfl,hG2.out⟩,.inr ⟨by have:=hj.out;simp;omega,by have:=hj.out;simp;omega,by have:=hj.out;simp;omega⟩⟩⟩ (by have:=hj.out;simp[intOf];omega)
 ·obtain⟨hb1,hb2,hb3⟩:n.keys.length+left<=256/\n.vals.length+left<=256/\n.kids.length+left<=256:=by rcases hbd with h|h;cases h;exact h
  have hG:=qa hg
  clear hg hbd;simp only[findLabel];by_cases h0:left=0
  ·subst h0;have hG2:Hid (qW xs=zV (zj 0 r n)):=hG
   clear hG;go_wp2;have SD3:Hid (RSt w nb w'.drew (.slice ak n.keys.length ck) (.slice av n.vals.length cv) (.slice ad n.kids.length cd) (⟨n.leaf,n.keys,n.vals,n.kids⟩:Nd) r):=qa (S0.out.below ((xm w'.heap.size w').drew))
   have KT3:=qa (zQ w (w.heap.size+1) w'.drew r 4 SD3.out.rdr (by decide) (by decide))
   have CB3:Hid (∀ (U:World) (q:Rr),RSt w nb U (.slice ak n.keys.length ck) (.slice av n.vals.length cv) (.slice ad n.kids.length cd) (⟨n.leaf,n.keys,n.vals,n.kids⟩:Nd) q->U.cell? ⟨nb,3,none⟩=some (.slice ad n.kids.length cd)):=fun U q h=>(qb h.box).1.2.2.2
   refine qN (fun w9=>w9.cell? ⟨nb,3,none⟩=some (.slice ad n.kids.length cd)) [(0,true),(1,true),(2,false),(3,false)] 4 qG (by kernel_rfl) (fun _ _ _ _ h=>h) ?_
   iterate 2
    refine Qj (v:=?_) rfl (by kernel_rfl) (CB3.out _ _ SD3.out) ?_ ?_
    rotate_left
    ·intro w9 r1;go_simp;try with_reducible rfl
    try simp only[Act.put,qB2]
   refine qL rfl (by kernel_rfl) fun K hK=>?_
   refine qk 134 _ _ (by rfl) #[.pointer (some ⟨w.heap.size+1,0,none⟩),.int .i64 4] (by simp[Act.eval]) (Tryz.call134 _ _) KT3.out ?_
   rintro e wa3 ⟨rfl,ra3,ka3⟩;have sa3:=SD3.out.call ka3 ra3
   refine⟨_,rfl,hK _ _ (CB3.out _ _ sa3) ?_⟩;clear hK K;have SA3:=qa sa3
   clear sa3 ra3 ka3;try simp only[Act.put,qB2]
   refine qL rfl (by kernel_rfl) fun K hK=>?_
   have sb3:=SA3.out.below ((xm wa3.heap.size wa3).alloc (xc _) (.cells #[(.int .i64 ((qQ 4 r:Nat):Int))] 3))
   go_simp;refine hK _ _ (CB3.out _ _ sb3) ?_;clear hK K;try simp only[Act.put,qB2]
   show wpList _ _ _ _ _ _
   dsimp only[List.drop]
   have FI3:Hid (∀ (g cp:Nat) (U:World),U.ownsRow (nb+1) 3 1 (.slice (some ⟨g,0,none⟩) (n.kids.length+1) cp) (n.kids.length+1) (n.kids.map (Value.int .i64)++[(.int .i64 ((qQ 4 r:Nat):Int))])->(wa3.alloc (.cells #[(.int .i64 ((qQ 4 r:Nat):Int))] 3)).grownBy U (Value.ownBlock (.slice ad n.kids.length cd))->(Value.ownBlock (.slice ad n.kids.length cd)=some g\/g=wa3.heap.size+1)->U.cell? ⟨nb,3,none⟩=some (.slice ad n.kids.length cd)/\U.frozen? ⟨nb,3,none⟩=false/\Hid (RSt w nb (U.setCell ⟨nb,3,none⟩ (.slice (some ⟨g,0,none⟩) (n.kids.length+1) cp)) (.slice ak n.keys.length ck) (.slice av n.vals.length cv) (.slice (some ⟨g,0,none⟩) (n.kids.length+1) cp) (⟨n.leaf,n.keys,n.vals,(n.kids++[((qQ 4 r:Nat):Int)])⟩:Nd) (rst 4 r))):=fun g cp U ob kb hb=>by
    have sb:=sb3
    have nbl:=(kb.block nb (xa sb.box) (fun e=>by have:=(qO sb.own.kids nb e.symm).1;omega)).trans sb.box
    have oo:OwnJ (nb+1) U (.slice (some ⟨g,0,none⟩) (n.kids.length+1) cp) (n.kids++[((qQ 4 r:Nat):Int)]):=by show World.ownsRow _ _ _ _ _ _ _;simpa using ob
    exact⟨(qb nbl).1.2.2.2,frz nbl 3,qa (sb.kids rfl oo kb (by rcases hb with h|h;exact .inl h;exact .inr (by simpa using h)))⟩
   have own3:=sb3.own.kids
   dsimp only at own3;have lt3:=xa sb3.box
   clear sb3 KT3 CB3 SD3 SA3
   go_wp2_with (at_builtin;refine Xq _ rfl _ _ 82 rfl (nb+1) 3 _ (.int .i64 0) 1 8 Ko ji jz0 jz1 jz2 rfl (by decide) (.slice ad n.kids.length cd) n.kids.length (n.kids.map (Value.int .i64)) rfl own3 ⟨wa3.heap.size,0,none⟩ 1 1 [(.int .i64 ((qQ 4 r:Nat):Int))] rfl rfl (Xr (xy wa3 _)) (by simp[Value.oneCell']) (by decide) (by rw[show maxLen=9223372036854775807 from rfl];first|omega|(simp;omega)) (by first|omega|(simp;omega)) (by omega) (wa3.heap.size+1) (by simp) ?_;intro ga3 ca3 wb3 ob3 kb3 hb3 _;obtain⟨cc3,fz3,ST3⟩:=FI3.out ga3 ca3 wb3 ob3 kb3 hb3;clear ob3 kb3 hb3 FI3 own3 lt3)
   clear cc3 fz3
   go_step3
   exact xb ⟨0,nb,_,_,_,(⟨n.leaf,n.keys,n.vals,(n.kids++[((qQ 4 r:Nat):Int)])⟩:Nd),(rst 4 r),⟨_,_,_,_,_,_,_,_,_,_,_,_,_,_,_,_,_,_,_,_,_,_,_,_,_,_,_,_,_,_,_,_,_,_,_,_,_,_,_,_,_,_,_,_,_,_,_,_,_,_,_,_,_,_,_,_,_,_,_,_,_,_,_,_,_,_,_,_,rfl⟩,ST3.out,⟨.inr (.inr ⟨rfl,hG2.out⟩),.inl rfl⟩⟩ (by simp[intOf])
  skip
  obtain⟨j,hj⟩:∃ j,left=j+1:=⟨left-1,by omega⟩
  have hj1:(left:Int)-1=(j:Int):=by omega
  have hj3:IntKind.i64.wrap (j:Int)=(j:Int):=xB _ (by omega)
  have hj4:((left:Int) == 0)=false:=qay (by omega)
  replace hj:=qa hj;clear h0;have hG2:Hid (qW xs=zV (zj (j+1) r n)):=by show _=_;rw[<-hj.out];exact hG.out
  clear hG;go_wp2;have SD4:Hid (RSt w nb w'.drew (.slice ak n.keys.length ck) (.slice av n.vals.length cv) (.slice ad n.kids.length cd) (⟨n.leaf,n.keys,n.vals,n.kids⟩:Nd) r):=qa (S0.out.below ((xm w'.heap.size w').drew))
  have KT4:=qa (zQ w (w.heap.size+1) w'.drew r 4 SD4.out.rdr (by decide) (by decide))
  have CB4:Hid (∀ (U:World) (q:Rr),RSt w nb U (.slice ak n.keys.length ck) (.slice av n.vals.length cv) (.slice ad n.kids.length cd) (⟨n.leaf,n.keys,n.vals,n.kids⟩:Nd) q->U.cell? ⟨nb,3,none⟩=some (.slice ad n.kids.length cd)):=fun U q h=>(qb h.box).1.2.2.2
  refine qN (fun w9=>w9.cell? ⟨nb,3,none⟩=some (.slice ad n.kids.length cd)) [(0,true),(1,true),(2,false),(3,false)] 4 qG (by kernel_rfl) (fun _ _ _ _ h=>h) ?_
  iterate 2
   refine Qj (v:=?_) rfl (by kernel_rfl) (CB4.out _ _ SD4.out) ?_ ?_
   rotate_left
   ·intro w9 r1;go_simp;try with_reducible rfl
   try simp only[Act.put,qB2]
  refine qL rfl (by kernel_rfl) fun K hK=>?_
  refine qk 134 _ _ (by rfl) #[.pointer (some ⟨w.heap.size+1,0,none⟩),.int .i64 4] (by simp[Act.eval]) (Tryz.call134 _ _) KT4.out ?_
  rintro e wa4 ⟨rfl,ra4,ka4⟩;have sa4:=SD4.out.call ka4 ra4
  refine⟨_,rfl,hK _ _ (CB4.out _ _ sa4) ?_⟩;clear hK K;have SA4:=qa sa4
  clear sa4 ra4 ka4;try simp only[Act.put,qB2]
  refine qL rfl (by kernel_rfl) fun K hK=>?_
  have sb4:=SA4.out.below ((xm wa4.heap.size wa4).alloc (xc _) (.cells #[(.int .i64 ((qQ 4 r:Nat):Int))] 3))
  go_simp;refine hK _ _ (CB4.out _ _ sb4) ?_;clear hK K;try simp only[Act.put,qB2]
  show wpList _ _ _ _ _ _
  dsimp only[List.drop]
  have FI4:Hid (∀ (g cp:Nat) (U:World),U.ownsRow (nb+1) 3 1 (.slice (some ⟨g,0,none⟩) (n.kids.length+1) cp) (n.kids.length+1) (n.kids.map (Value.int .i64)++[(.int .i64 ((qQ 4 r:Nat):Int))])->(wa4.alloc (.cells #[(.int .i64 ((qQ 4 r:Nat):Int))] 3)).grownBy U (Value.ownBlock (.slice ad n.kids.length cd))->(Value.ownBlock (.slice ad n.kids.length cd)=some g\/g=wa4.heap.size+1)->U.cell? ⟨nb,3,none⟩=some (.slice ad n.kids.length cd)/\U.frozen? ⟨nb,3,none⟩=false/\Hid (RSt w nb (U.setCell ⟨nb,3,none⟩ (.slice (some ⟨g,0,none⟩) (n.kids.length+1) cp)) (.slice ak n.keys.length ck) (.slice av n.vals.length cv) (.slice (some ⟨g,0,none⟩) (n.kids.length+1) cp) (⟨n.leaf,n.keys,n.vals,(n.kids++[((qQ 4 r:Nat):Int)])⟩:Nd) (rst 4 r))):=fun g cp U ob kb hb=>by
   have sb:=sb4
   have nbl:=(kb.block nb (xa sb.box) (fun e=>by have:=(qO sb.own.kids nb e.symm).1;omega)).trans sb.box
   have oo:OwnJ (nb+1) U (.slice (some ⟨g,0,none⟩) (n.kids.length+1) cp) (n.kids++[((qQ 4 r:Nat):Int)]):=by show World.ownsRow _ _ _ _ _ _ _;simpa using ob
   exact⟨(qb nbl).1.2.2.2,frz nbl 3,qa (sb.kids rfl oo kb (by rcases hb with h|h;exact .inl h;exact .inr (by simpa using h)))⟩
  have own4:=sb4.own.kids
  dsimp only at own4;have lt4:=xa sb4.box
  clear sb4 KT4 CB4 SD4 SA4
  go_wp2_with (at_builtin;refine Xq _ rfl _ _ 82 rfl (nb+1) 3 _ (.int .i64 0) 1 8 Ko ji jz0 jz1 jz2 rfl (by decide) (.slice ad n.kids.length cd) n.kids.length (n.kids.map (Value.int .i64)) rfl own4 ⟨wa4.heap.size,0,none⟩ 1 1 [(.int .i64 ((qQ 4 r:Nat):Int))] rfl rfl (Xr (xy wa4 _)) (by simp[Value.oneCell']) (by decide) (by rw[show maxLen=9223372036854775807 from rfl];first|omega|(simp;omega)) (by first|omega|(simp;omega)) (by omega) (wa4.heap.size+1) (by simp) ?_;intro ga4 ca4 wb4 ob4 kb4 hb4 _;obtain⟨cc4,fz4,ST4⟩:=FI4.out ga4 ca4 wb4 ob4 kb4 hb4;clear ob4 kb4 hb4 FI4 own4 lt4)
  clear cc4 fz4;obtain⟨V5,hV5⟩:∃ U,U=(wb4.setCell ⟨nb,3,none⟩ (.slice (some ⟨ga4,0,none⟩) (n.kids.length+1) ca4)):=⟨_,rfl⟩;rw[<-hV5];rw[<-hV5] at ST4;replace hV5:=qa hV5;have SD5:Hid (RSt w nb V5.drew (.slice ak n.keys.length ck) (.slice av n.vals.length cv) (.slice (some ⟨ga4,0,none⟩) (n.kids.length+1) ca4) (⟨n.leaf,n.keys,n.vals,(n.kids++[((qQ 4 r:Nat):Int)])⟩:Nd) (rst 4 r)):=qa (ST4.out.below ((xm V5.heap.size V5).drew))
  have KT5:=qa (Yz w (w.heap.size+1) V5.drew (rst 4 r) SD5.out.rdr)
  have CB5:Hid (∀ (U:World) (q:Rr),RSt w nb U (.slice ak n.keys.length ck) (.slice av n.vals.length cv) (.slice (some ⟨ga4,0,none⟩) (n.kids.length+1) ca4) (⟨n.leaf,n.keys,n.vals,(n.kids++[((qQ 4 r:Nat):Int)])⟩:Nd) q->U.cell? ⟨nb,1,none⟩=some (.slice ak n.keys.length ck)):=fun U q h=>(qb h.box).1.2.1
  refine qN (fun w9=>w9.cell? ⟨nb,1,none⟩=some (.slice ak n.keys.length ck)) [(0,true),(1,true),(2,false),(3,false)] 4 qG (by kernel_rfl) (fun _ _ _ _ h=>h) ?_
  iterate 2
   refine Qj (v:=?_) rfl (by kernel_rfl) (CB5.out _ _ SD5.out) ?_ ?_
   rotate_left
   ·intro w9 r1;go_simp;try with_reducible rfl
   try simp only[Act.put,qB2]
  refine qL rfl (by kernel_rfl) fun K hK=>?_
  refine qk 135 _ _ (by rfl) #[.pointer (some ⟨w.heap.size+1,0,none⟩)] (by simp[Act.eval]) (Tryz.call135 _ _) KT5.out ?_
  rintro e wa5 ⟨rfl,ra5,ka5⟩;have sa5:=SD5.out.call ka5 ra5
  refine⟨_,rfl,hK _ _ (CB5.out _ _ sa5) ?_⟩;clear hK K;have SA5:=qa sa5
  clear sa5 ra5 ka5;try simp only[Act.put,qB2]
  refine qL rfl (by kernel_rfl) fun K hK=>?_
  have sb5:=SA5.out.below ((xm wa5.heap.size wa5).alloc (xc _) (.cells #[(st (rtx (rst 4 r)))] 9))
  go_simp;refine hK _ _ (CB5.out _ _ sb5) ?_;clear hK K;try simp only[Act.put,qB2]
  show wpList _ _ _ _ _ _
  dsimp only[List.drop]
  have FI5:Hid (∀ (g cp:Nat) (U:World),U.ownsRow (nb+1) 9 1 (.slice (some ⟨g,0,none⟩) (n.keys.length+1) cp) (n.keys.length+1) (n.keys.map st++[(st (rtx (rst 4 r)))])->(wa5.alloc (.cells #[(st (rtx (rst 4 r)))] 9)).grownBy U (Value.ownBlock (.slice ak n.keys.length ck))->(Value.ownBlock (.slice ak n.keys.length ck)=some g\/g=wa5.heap.size+1)->U.cell? ⟨nb,1,none⟩=some (.slice ak n.keys.length ck)/\U.frozen? ⟨nb,1,none⟩=false/\Hid (RSt w nb (U.setCell ⟨nb,1,none⟩ (.slice (some ⟨g,0,none⟩) (n.keys.length+1) cp)) (.slice (some ⟨g,0,none⟩) (n.keys.length+1) cp) (.slice av n.vals.length cv) (.slice (some ⟨ga4,0,none⟩) (n.kids.length+1) ca4) (⟨n.leaf,(n.keys++[(rtx (rst 4 r))]),n.vals,(n.kids++[((qQ 4 r:Nat):Int)])⟩:Nd) (rts (rst 4 r)))):=fun g cp U ob kb hb=>by
   have sb:=sb5
   have nbl:=(kb.block nb (xa sb.box) (fun e=>by have:=(qO sb.own.keys nb e.symm).1;omega)).trans sb.box
   have oo:OwnT (nb+1) U (.slice (some ⟨g,0,none⟩) (n.keys.length+1) cp) (n.keys++[(rtx (rst 4 r))]):=by show World.ownsRow _ _ _ _ _ _ _;simpa using ob
   exact⟨(qb nbl).1.2.1,frz nbl 1,qa (sb.keys rfl oo kb (by rcases hb with h|h;exact .inl h;exact .inr (by simpa using h)))⟩
  have own5:=sb5.own.keys
  dsimp only at own5;have lt5:=xa sb5.box
  clear sb5 KT5 CB5 SD5 SA5
  go_wp2_with (at_builtin;refine Xq _ rfl _ _ 81 rfl (nb+1) 9 _ (.string ⟨#[]⟩) 1 16 Xz ii iz0 iz1 iz2 rfl (by decide) (.slice ak n.keys.length ck) n.keys.length (n.keys.map st) rfl own5 ⟨wa5.heap.size,0,none⟩ 1 1 [(st (rtx (rst 4 r)))] rfl rfl (Xr (xy wa5 _)) (by simp[Value.oneCell']) (by decide) (by rw[show maxLen=9223372036854775807 from rfl];first|omega|(simp;omega)) (by first|omega|(simp;omega)) (by omega) (wa5.heap.size+1) (by simp) ?_;intro ga5 ca5 wb5 ob5 kb5 hb5 _;obtain⟨cc5,fz5,ST5⟩:=FI5.out ga5 ca5 wb5 ob5 kb5 hb5;clear ob5 kb5 hb5 FI5 own5 lt5)
  clear cc5 fz5
  go_step3
  exact xb ⟨j,nb,_,_,_,(⟨n.leaf,(n.keys++[(rtx (rst 4 r))]),n.vals,(n.kids++[((qQ 4 r:Nat):Int)])⟩:Nd),(rts (rst 4 r)),⟨_,_,_,_,_,_,_,_,_,_,_,_,_,_,_,_,_,_,_,_,_,_,_,_,_,_,_,_,_,_,_,_,_,_,_,_,_,_,_,_,_,_,_,_,_,_,_,_,_,_,_,_,_,_,_,_,_,_,_,_,_,_,_,_,_,_,_,_,rfl⟩,ST5.out,⟨.inr (.inl ⟨rfl,hG2.out⟩),.inr ⟨by have:=hj.out;simp;omega,by have:=hj.out;simp;omega,by have:=hj.out;simp;omega⟩⟩⟩ (by have:=hj.out;simp[intOf];omega)
 have hG:=qa hg
 clear hg hbd;simp only[findLabel];obtain⟨ra,rc,hr⟩:=S0.out.rdr;obtain⟨⟨A0,A1⟩,_⟩:=Qc hr.box;have RES:=qa S0.out.res
 have BEL:=qa hr.bel
 clear hr;obtain⟨⟨R0,R1,R2,R3⟩,Rf⟩:=qb RES.out;have Rf0:=Rf 0
 have Rf1:=Rf 1
 have Rf2:=Rf 2
 have Rf3:=Rf 3
 clear Rf;obtain⟨⟨N0,N1,N2,N3⟩,_⟩:=qb S0.out.box;cases hsh:r.short with
 | true =>
  rw[hsh] at A1;have e:Hid (qW xs=(Qw,8)):=by show _=_;rw[hG.out];unfold zV;rw[hsh];rfl
  replace hsh:=qa hsh;go_wp2;rw[ZG];refine QD rfl rfl w.heap.size rfl _ _ (0,0) (qu (u:=w') RES.out _ _ _ _) _ xJ rfl Zf (.int .i64 8) rfl ?_;exact⟨qm,qm,qm,by rw[e.out];rfl,by rw[e.out];exact OwnN.nil _ _ _,qn BEL.out (xc _) _ _ _ _,Dj.nil⟩
 | false =>
  rw[hsh] at A1;by_cases hl:0<r.rest.length
  ·have e:Hid (qW xs=(Qw,23)):=by show _=_;rw[hG.out];unfold zV;rw[hsh,xh (by decide),xj hl]
   have hq:(0:Int)<(r.rest.length:Int):=by omega
   replace hsh:=qa hsh;go_wp2;rw[ZG];refine QD rfl rfl w.heap.size rfl _ _ (0,0) (qu (u:=w') RES.out _ _ _ _) _ xJ rfl Zf (.int .i64 23) rfl ?_;exact⟨qm,qm,qm,by rw[e.out];rfl,by rw[e.out];exact OwnN.nil _ _ _,qn BEL.out (xc _) _ _ _ _,Dj.nil⟩
  have e:Hid (qW xs=(n,0)):=by show _=_;rw[hG.out];unfold zV;rw[hsh,xh (by decide),xh hl]
  have hq:¬ (0:Int)<(r.rest.length:Int):=by omega
  have hq2:r.rest.length=0:=by omega
  rw[hq2] at A0;replace hsh:=qa hsh;replace hq2:=qa hq2;clear hq hl;go_wp2;rw[ZG];refine QD rfl rfl w.heap.size rfl _ _ (0,0) (qu (u:=w') RES.out _ _ _ _) _ xJ rfl Zf (.int .i64 0) rfl ?_;have hnb:=S0.out.hnb
  have hlt:w.heap.size<nb+1:=by omega
  exact⟨_,_,_,by rw[e.out],by rw[e.out];exact((((S0.out.own.set hlt 0 _).set hlt 1 _).set hlt 2 _).set hlt 3 _).mono (by omega),qn BEL.out (xc _) _ _ _ _,⟨S0.out.d1,S0.out.d2,S0.out.d3⟩⟩
theorem VZ (p:Nd×Rr):(zV p).1=p.1\/(zV p).1=Qw:=by
 unfold zV
 split
 ·exact .inr rfl
 split
 ·exact .inr rfl
 exact .inl rfl
theorem qa1:∀ (k:Nat) (r:Rr) (n:Nd),(QU k r n).1.keys.length=n.keys.length+k/\(QU k r n).1.vals.length=n.vals.length+k/\(QU k r n).1.kids.length=n.kids.length
 | 0,r,n=>⟨rfl,rfl,rfl⟩
 | k+1,r,n=>by
  have:=qa1 k (rts (rts r)) ⟨n.leaf,n.keys++[rtx r],n.vals++[rtx (rts r)],n.kids⟩
  simp only[QU] at this |-;simp at this;omega
theorem qco:∀ (k:Nat) (r:Rr) (n:Nd),(zj k r n).1.keys.length=n.keys.length+k/\(zj k r n).1.vals.length=n.vals.length/\(zj k r n).1.kids.length=n.kids.length+k+1
 | 0,r,n=>by simp[zj]
 | k+1,r,n=>by
  have:=qco k (rts (rst 4 r)) ⟨n.leaf,n.keys++[rtx (rst 4 r)],n.vals,n.kids++[((qQ 4 r:Nat):Int)]⟩
  simp only[zj] at this |-;simp at this;omega
theorem qjv (xs:List UInt8):jH (qW xs).1:=by
 have hl:qQ 1 (rst 1 ⟨xs,false⟩)<256:=yB 1 _
 have hn:jH Qw:=⟨by simp[Qw],by simp[Qw],by simp[Qw]⟩
 unfold qW;dsimp only
 split
 ·exact hn
 split
 ·rcases VZ (QU (qQ 1 (rst 1 ⟨xs,false⟩)) (rst 1 (rst 1 ⟨xs,false⟩)) ⟨true,[],[],[]⟩) with e|e
  ·rw[e];obtain⟨p,q,r⟩:=qa1 (qQ 1 (rst 1 ⟨xs,false⟩)) (rst 1 (rst 1 ⟨xs,false⟩)) ⟨true,[],[],[]⟩;unfold jH;rw[p,q,r];simp;omega
  rw[e];exact hn
 split
 ·rcases VZ (zj (qQ 1 (rst 1 ⟨xs,false⟩)) (rst 1 (rst 1 ⟨xs,false⟩)) ⟨false,[],[],[]⟩) with e|e
  ·rw[e];obtain⟨p,q,r⟩:=qco (qQ 1 (rst 1 ⟨xs,false⟩)) (rst 1 (rst 1 ⟨xs,false⟩)) ⟨false,[],[],[]⟩;unfold jH;rw[p,q,r];simp;omega
  rw[e];exact hn
 exact hn
theorem qkx (w:World) (v:Value) (xs:List UInt8) (h:Rd w v xs) :
 Calls Tryz.prog 92 #[v] w fun e w'=>∃ kv vv dv,e=.returned (.tuple #[nv (QJ xs).1 kv vv dv,.int .i64 (QJ xs).2])/\OwnN w.heap.size w' kv vv dv (QJ xs).1/\Below w.heap.size w w'/\Dj kv vv dv:=by
 obtain⟨X,hX,D,bX,sX⟩:=qf w #[.bool false,qm,qm,qm] 84;obtain⟨a,c,rfl⟩:=h.slice;have KR:=qa (qgp X _ xs (h.to bX))
 have hfit:=qa (qjv xs)
 have RX:=qa (xb D sX)
 have BX:=qa bX
 obtain⟨nr,hnr⟩:∃ p,p=qW xs:=⟨_,rfl⟩;have hd:Hid (QJ xs=if nr.2=0 then if qE nr.1=0 then nr else(Qw,qE nr.1) else(Qw,nr.2)):=by show _=_;unfold QJ;rw[hnr]
 rw[<-hnr] at KR hfit;generalize QJ xs=dd at *;clear h D bX sX hnr;go_enter Tryz.func92,Tryz.ntmps92
 go_wp2_with fail
 rw[<-hX];replace hX:=qa hX;refine KR.out.mono ?_;rintro e w1 ⟨kv,vv,dv,rfl,o1,b1,dj1⟩;have HJ:=qa dj1
 clear KR dj1;obtain⟨n,err⟩:=nr;dsimp only at *;obtain⟨ak,ck,av,cv,ad,cd,rfl,rfl,rfl⟩:=o1.rd.slices
 -- the node's box
 obtain⟨V,hV⟩:∃ V,V=w1.alloc (.cells #[.bool n.leaf,.slice ak n.keys.length ck,.slice av n.vals.length cv,.slice ad n.kids.length cd] 84):=⟨_,rfl⟩;have bV:Below w1.heap.size w1 V:=by rw[hV];exact(xm _ _).alloc (xc _) _
 have gV:V.heap[w1.heap.size]?=some (.cells #[.bool n.leaf,.slice ak n.keys.length ck,.slice av n.vals.length cv,.slice ad n.kids.length cd] 84 (0,0)):=by rw[hV];exact xy w1 _
 have o2:=o1.to bV
 have KC:=qa (J7 V _ _ _ n o2.rd hfit.out)
 have b2:Below X.heap.size X V:=b1.trans (bV.mono b1.size)
 have RES:Hid (∀ U,Below V.heap.size V U->U.heap[w.heap.size]?=some (.cells #[.bool false,qm,qm,qm] 84 (0,0))):=fun U b=>((b2.trans (b.mono b2.size)).block _ (by have:=RX.out.2;omega)).trans RX.out.1
 have BB:Hid (∀ U,Below V.heap.size V U->Below w.heap.size w U):=fun U b=>BX.out.trans ((b2.trans (b.mono b2.size)).mono BX.out.size)
 have BOX:Hid (∀ U,Below V.heap.size V U->U.heap[w1.heap.size]?=some (.cells #[.bool n.leaf,.slice ak n.keys.length ck,.slice av n.vals.length cv,.slice ad n.kids.length cd] 84 (0,0))):=fun U b=>(b.block _ (xa gV)).trans gV
 have OO:Hid (∀ U,Below V.heap.size V U->OwnN (w.heap.size+1) U (.slice ak n.keys.length ck) (.slice av n.vals.length cv) (.slice ad n.kids.length cd) n):=fun U b=>(o2.to b).mono (by have:=RX.out.2;omega)
 have D1:=(qb (RES.out V (xm _ _)))
 obtain⟨⟨R0,R1,R2,R3⟩,Rf⟩:=D1;have Rf0:=Rf 0
 have Rf1:=Rf 1
 have Rf2:=Rf 2
 have Rf3:=Rf 3
 obtain⟨⟨N0,N1,N2,N3⟩,_⟩:=qb gV;clear o1 o2 b1 b2 bV gV Rf RX BX;by_cases he:err=0
 ·subst he;rw[xj rfl] at hd;rw[hV] at N0 N1 N2 N3
  go_wp2_with fail
  rw[<-hV];clear N0 N1 N2 N3 R0 R1 R2 R3 Rf0 Rf1 Rf2 Rf3;replace hV:=qa hV;refine KC.out.mono ?_;rintro e w2 ⟨rfl,b2⟩;clear KC;obtain⟨⟨R0,R1,R2,R3⟩,Rf⟩:=qb (RES.out w2 b2);have Rf0:=Rf 0
  have Rf1:=Rf 1
  have Rf2:=Rf 2
  have Rf3:=Rf 3
  obtain⟨⟨N0,N1,N2,N3⟩,_⟩:=qb (BOX.out w2 b2);have B2:=qa b2
  clear Rf b2;by_cases hz:qE n=0
  ·rw[xj hz] at hd;rw[hz];replace hz:=qa hz;go_wp2;refine QD rfl rfl w.heap.size rfl _ _ (0,0) (qu (u:=w2) (RES.out w2 B2.out) _ _ _ _) _ xJ rfl Zf (.int .i64 0) rfl ?_;have hlt:w.heap.size<w.heap.size+1:=by omega
   exact⟨_,_,_,by rw[hd.out],by rw[hd.out];exact(((((OO.out w2 B2.out).set hlt 0 _).set hlt 1 _).set hlt 2 _).set hlt 3 _).mono (by omega),qn (BB.out w2 B2.out) (xc _) _ _ _ _,HJ.out⟩
  rw[xh hz] at hd;generalize qE n=Z at *;go_wp2;refine QD rfl rfl w.heap.size rfl _ _ (0,0) (qu (u:=w2) (RES.out w2 B2.out) _ _ _ _) _ xJ rfl Zf (.int .i64 Z) rfl ?_;exact⟨qm,qm,qm,by rw[hd.out];rfl,by rw[hd.out];exact OwnN.nil _ _ _,qn (BB.out w2 B2.out) (xc _) _ _ _ _,Dj.nil⟩
 rw[xh he] at hd;rw[hV] at R0 R1 R2 R3 Rf0 Rf1 Rf2 Rf3;go_wp2;rw[<-hV];refine QD rfl rfl w.heap.size rfl _ _ (0,0) (qu (u:=V) (RES.out V (xm _ _)) _ _ _ _) _ xJ rfl Zf (.int .i64 err) rfl ?_;exact⟨qm,qm,qm,by rw[hd.out];rfl,by rw[hd.out];exact OwnN.nil _ _ _,qn (BB.out V (xm _ _)) (xc _) _ _ _ _,Dj.nil⟩
def Qf (n:Nd) (key:Str):Int:=if qE n=0 then JN n.leaf key n.keys else 0
def jQ (n:Nd) (key:Str):Bool:=if qE n=0 then nis key n.keys else false
theorem qiq {a b:Int} {x y:Bool} {c d:Int} (h1:a=b) (h2:x=y) (h3:c=d):Ending.returned (.tuple #[.int .i64 a,.bool x,.int .i64 c])=Ending.returned (.tuple #[.int .i64 b,.bool y,.int .i64 d]):=by rw[h1,h2,h3]
theorem qc1 {a b c d:Value} (h1:a=c) (h2:b=d):Ending.returned (.tuple #[a,b])=.returned (.tuple #[c,d]):=by rw[h1,h2]
theorem YQ {n:Nd} (h:QZ n n.keys.length):∀ (j i:Nat),i<j->j<n.keys.length->slt (Qy n i) (Qy n j)=true
 | 0,i,hi,_=>by omega
 | j+1,i,hi,hj=>by
  have hs:=(h (j+1) hj).2.2 (by omega)
  rw[XN] at hs;by_cases e:i=j
  ·subst e;exact hs
  exact QO (YQ h j i (by omega) (by omega)) hs
theorem jm {n:Nd} (h:n.keys[k]?=some x):Qy n k=x:=by unfold Qy;rw[h];rfl
theorem Yp (leaf:Bool) (key:Str):∀ (l:List Str) (i:Nat),i<=l.length->(∀ j x,j<i->l[j]?=some x->slt x key=true)->(∀ j x,i<=j->l[j]?=some x->slt x key=false/\(x == key)=false)->JN leaf key l=i/\nis key l=false
 | [],i,hi,_,_=>by
  have:i=0:=by simpa using hi
  subst this;exact⟨rfl,rfl⟩
 | x::r,0,_,h1,h2=>by
  have hx:=h2 0 x (xc _) rfl
  obtain⟨a,b⟩:=Yp leaf key r 0 (xt _) (fun j y hj=>by omega) (fun j y _ hy=>h2 (j+1) y (by omega) (by simpa using hy))
  refine⟨?_,?_⟩
  ·simp only[JN,hx.1,hx.2,a];simp
  unfold nis at b |-;rw[List.any_cons,hx.2,b];rfl
 | x::r,i+1,hi,h1,h2=>by
  have hx:=h1 0 x (by omega) rfl
  obtain⟨a,b⟩:=Yp leaf key r i (by simpa using hi) (fun j y hj hy=>h1 (j+1) y (by omega) (by simpa using hy)) (fun j y hj hy=>h2 (j+1) y (by omega) (by simpa using hy))
  have hne:(x == key)=false:=by
   apply X9.2;intro e;have:x=key:=by simpa using e
   subst this;rw[qU] at hx;cases hx
  refine⟨?_,?_⟩
  ·simp only[JN,hx,a];simp;omega
  unfold nis at b |-;rw[List.any_cons,hne,b];rfl
theorem qd6 (leaf:Bool) (key:Str):∀ (l:List Str) (i:Nat),l[i]?=some key->(∀ j x,j<i->l[j]?=some x->slt x key=true)->(∀ j x,i<j->l[j]?=some x->slt key x=true)->JN leaf key l=(i:Int)+(if leaf then 0 else 1)/\nis key l=true
 | [],i,h,_,_=>by simp at h
 | x::r,0,h,h1,h2=>by
  have hx:x=key:=by simpa using h
  subst hx
  obtain⟨a,_⟩:=Yp leaf x r 0 (xt _) (fun j y hj=>by omega) (fun j y _ hy=>by
   have:=h2 (j+1) y (by omega) (by simpa using hy)
   refine⟨Qb this,?_⟩;apply X9.2;intro e;have e':y=x:=by simpa using e
   subst e';rw[qU] at this;cases this)
  refine⟨?_,?_⟩
  ·simp only[JN,qU,a];cases leaf<;>simp
  unfold nis;simp
 | x::r,i+1,h,h1,h2=>by
  have hx:=h1 0 x (by omega) rfl
  obtain⟨a,b⟩:=qd6 leaf key r i (by simpa using h) (fun j y hj hy=>h1 (j+1) y (by omega) (by simpa using hy)) (fun j y hj hy=>h2 (j+1) y (by omega) (by simpa using hy))
  refine⟨?_,?_⟩
  ·simp only[JN,hx,a];simp;omega
  unfold nis at b |-;simp at b |-;exact .inr b
theorem qmd (w:World) (x:Str):Calls Tryz.prog 131 #[st x] w fun e w'=>e=.returned (.bool false)/\w=w':=by
 have h:(x != x)=false:=by simp
 have h':(x == x)=true:=by simp
 go_enter Tryz.func131,Tryz.ntmps131;go_wp2;go_ret;exact⟨by first|rfl|simp,rfl⟩
theorem qkg (w:World) (x:Str):Calls Tryz.prog 113 #[st x] w fun e w'=>e=.returned (.bool false)/\w=w':=by
 have h:(x != x)=false:=by simp
 have h':(x == x)=true:=by simp
 go_enter Tryz.func113,Tryz.ntmps113;go_wp2;go_ret;exact⟨by first|rfl|simp,rfl⟩
theorem qjb (w:World) (x y:Str):Calls Tryz.prog 112 #[st x,st y] w fun e w'=>e=.returned (.bool (slt x y))/\w=w':=by
 have K:=qa (qmd w x)
 go_enter Tryz.func112,Tryz.ntmps112
 go_wp2_with fail
 refine K.out.mono ?_;rintro e w1 ⟨rfl,rfl⟩;go_wp2;go_ret;exact⟨rfl,rfl⟩
structure Low (n:Nd) (key:Str) (i:Nat):Prop where
 le:i<=n.keys.length
 lo:∀ t,t<i->slt (Qy n t) key=true
 hi:∀ t,i<=t->t<n.keys.length->slt (Qy n t) key=false
theorem qpd (w:World) (v:Value) (N:Nd) (key:Str) (h:RdT w v N.keys) (hk:QZ N N.keys.length) (hl:N.keys.length<=1000) :
 Calls Tryz.prog 79 #[v,st key] w fun e w'=>∃ i:Nat,e=.returned (.tuple #[.int .i64 i,.bool (decide (i<N.keys.length)&&(Qy N i == key))])/\Low N key i/\w=w':=by
 obtain⟨a,c,rfl⟩:=h.slice;obtain⟨keys,hkeys⟩:∃ l,l=N.keys:=⟨_,rfl⟩;obtain⟨L,hL⟩:∃ L,L=N.keys.length:=⟨_,rfl⟩;have HK:Hid (∀ t s,t<s->s<L->slt (Qy N t) (Qy N s)=true):=fun t s h1 h2=>YQ hk s t h1 (by omega)
 have HH:=qa h
 rw[<-hL] at hl |-;replace hL:=qa hL;have KL:=qa (fun x=>qjb w x key)
 clear h hk hkeys;go_enter Tryz.func79,Tryz.ntmps79;go_wp2
 go_loopw [7,8] (fun p q wr=>∃ i j:Nat,i<=j/\j<=L/\p=.int .i64 i/\q=.int .i64 j/\w=wr/\Hid ((∀ t,t<i->slt (Qy N t) key=true)/\∀ t,j<=t->t<L->slt (Qy N t) key=false)) (fun p q _=>(intOf q).toNat-(intOf p).toNat)
 case atStart=>exact⟨0,L,xt _,xc _,rfl,rfl,rfl,qa ⟨fun t h=>by omega,fun t h1 h2=>by omega⟩⟩
 case round =>
 obtain⟨i,j,hij,hjL,rfl,rfl,rfl,hI⟩:=hrel;by_cases hlt:i<j
 ·have hq:(i:Int)<(j:Int):=by omega
  obtain⟨s,hs⟩:∃ s:Nat,(i:Int)+(j:Int)=(s:Int):=⟨i+j,by omega⟩
  have hs1:IntKind.i64.wrap (s:Int)=(s:Int):=xB _ (by omega)
  obtain⟨m,hm⟩:∃ m:Nat,(s:Int)/2=(m:Int):=⟨s/2,by omega⟩
  have hm2:(m:Int)<(L:Int):=by omega
  have hmi:Hid (i<=m/\m<j):=by show _/\_;omega
  obtain⟨x,hx⟩:=qz N.keys (k:=m) (by rw[<-hL.out];omega)
  have hnx:=qa (jm hx)
  obtain⟨b,off,rfl,hc1⟩:=HH.out.strAt hx;replace hx:=qa hx
  go_wp2_with fail
  refine(KL.out x).mono ?_;rintro e w1 ⟨rfl,rfl⟩;cases hlx:slt x key with
  | true =>
   have hI':Hid ((∀ t,t<m+1->slt (Qy N t) key=true)/\∀ t,j<=t->t<L->slt (Qy N t) key=false):=⟨fun t ht=>by
    by_cases e:t=m
    ·subst e;rw[hnx.out];exact hlx
    have h1:=HK.out t m (by omega) (by omega)
    rw[hnx.out] at h1;exact QO h1 hlx,hI.out.2⟩
   replace hlx:=qa hlx;go_wp2;go_roundw
   case rel=>exact⟨m+1,j,by have:=hmi.out;omega,hjL,by go_num,rfl,trivial,hI'⟩
   case measure=>have:=hmi.out;simp[intOf];omega
  | false =>
   have hI':Hid ((∀ t,t<i->slt (Qy N t) key=true)/\∀ t,m<=t->t<L->slt (Qy N t) key=false):=⟨hI.out.1,fun t h1 h2=>by
    by_cases e:t=m
    ·subst e;rw[hnx.out];exact hlx
    have h3:=HK.out m t (by omega) h2
    rw[hnx.out] at h3;cases h4:slt (Qy N t) key
    ·rfl
    rw[QO h3 h4] at hlx;cases hlx⟩
   replace hlx:=qa hlx;go_wp2;go_roundw
   case rel=>exact⟨i,m,hmi.out.1,by have:=hmi.out;omega,rfl,rfl,trivial,hI'⟩
   case measure=>have:=hmi.out;simp[intOf];omega
 have hq:¬ (i:Int)<(j:Int):=by omega
 obtain rfl:i=j:=by omega
 have LO:Hid (Low N key i):=⟨by rw[<-hL.out];omega,hI.out.1,fun t h1 h2=>hI.out.2 t h1 (by rw[hL.out];exact h2)⟩
 clear hI;by_cases hiL:i<L
 ·have hq2:(i:Int)<(L:Int):=by omega
  have hd:decide (i<L)=true:=xv hiL
  obtain⟨x,hx⟩:=qz N.keys (k:=i) (by rw[<-hL.out];omega)
  have hnx:=qa (jm hx)
  obtain⟨b,off,rfl,hc1⟩:=HH.out.strAt hx;replace hx:=qa hx;cases he:(x == key) with
  | true =>
   have hr:Hid ((decide (i<L)&&Qy N i == key)=true):=by show _=_;rw[hd,hnx.out,he];rfl
   clear hd;go_wp2
   go_ret2
   exact⟨i,qc1 rfl (XE Value.bool hr.out.symm),LO.out,rfl⟩
  | false =>
   have hr:Hid ((decide (i<L)&&Qy N i == key)=false):=by show _=_;rw[hd,hnx.out,he];rfl
   have KS:=qa (qkg w x)
   clear hd
   go_wp2_with fail
   refine KS.out.mono ?_;rintro e w1 ⟨rfl,rfl⟩;go_wp2
   go_ret2
   exact⟨i,qc1 rfl (XE Value.bool hr.out.symm),LO.out,rfl⟩
 have hq2:¬ (i:Int)<(L:Int):=by omega
 have hr:Hid ((decide (i<L)&&Qy N i == key)=false):=by show _=_;rw[xw hiL];rfl
 go_wp2
 go_ret2
 exact⟨i,qc1 rfl (XE Value.bool hr.out.symm),LO.out,rfl⟩
theorem qnb {n:Nd} {key:Str} (h:Low n key i) (hk:QZ n n.keys.length):nis key n.keys=(decide (i<n.keys.length)&&(Qy n i == key))/\JN n.leaf key n.keys=if(decide (i<n.keys.length)&&(Qy n i == key))=true/\n.leaf=false then(i:Int)+1 else(i:Int):=by
 cases hb:(decide (i<n.keys.length)&&(Qy n i == key)) with
 | true =>
  rw[xL,XU] at hb;have hkey:Qy n i=key:=by simpa using hb.2
  obtain⟨x,hx⟩:=qz n.keys hb.1;have hx':=jm hx
  rw[hkey] at hx';subst hx'
  obtain⟨p,q⟩:=qd6 n.leaf key n.keys i hx (fun j y hj hy=>by have:=h.lo j hj;rw[jm hy] at this;exact this) (fun j y hj hy=>by
   have:=YQ hk j i hj ((xn.1 hy).1)
   rw[hkey,jm hy] at this;exact this)
  rw[p,q];refine⟨rfl,?_⟩;cases n.leaf<;>simp
 | false =>
  obtain⟨p,q⟩:=Yp n.leaf key n.keys i h.le (fun j y hj hy=>by have:=h.lo j hj;rw[jm hy] at this;exact this) (fun j y hj hy=>by
   have hjl:=(xn.1 hy).1
   have h1:=h.hi j hj hjl
   rw[jm hy] at h1;refine⟨h1,?_⟩;apply X9.2;intro e;have e':y=key:=by simpa using e
   by_cases hji:j=i
   ·subst hji;rw[jm hy,e',xv hjl] at hb;simp at hb
   have h2:=YQ hk j i (by omega) hjl
   rw[jm hy,e'] at h2;have h3:=h.hi i (xc _) (by omega)
   rw[h2] at h3;cases h3)
  rw[p,q];simp
theorem jp (w:World) (kv vv dv:Value) (n:Nd) (key:Str) (h:RdN w kv vv dv n) (hf:jH n) :
 Calls Tryz.prog 58 #[nv n kv vv dv,st key] w fun e w'=>e=.returned (.tuple #[.int .i64 (Qf n key),.bool (jQ n key),.int .i64 (qE n)])/\Below w.heap.size w w':=by
 obtain⟨W,hW,D,bW,sW⟩:=qf w #[.bool n.leaf,kv,vv,dv] 84;replace h:=h.to bW;have KC:=qa (J7 W kv vv dv n h hf)
 have HN:=qa (fun w1 (b:Below W.heap.size W w1)=>h.to b)
 obtain⟨D4,_⟩:=qb D
 have HD:Hid (∀ w1,Below W.heap.size W w1->w1.cell? ⟨w.heap.size,0,none⟩=some (.bool n.leaf)/\w1.cell? ⟨w.heap.size,1,none⟩=some kv/\w1.cell? ⟨w.heap.size,2,none⟩=some vv/\w1.cell? ⟨w.heap.size,3,none⟩=some dv):=fun w1 b =>
  ⟨(b.cell (p:=⟨w.heap.size,0,none⟩) (qe D4.1)).trans D4.1,(b.cell (p:=⟨w.heap.size,1,none⟩) (qe D4.2.1)).trans D4.2.1,(b.cell (p:=⟨w.heap.size,2,none⟩) (qe D4.2.2.1)).trans D4.2.2.1,(b.cell (p:=⟨w.heap.size,3,none⟩) (qe D4.2.2.2)).trans D4.2.2.2⟩
 have HE:Hid (∀ w1,Below W.heap.size W w1->Below w.heap.size w w1):=fun w1 b=>bW.trans (b.mono bW.size)
 obtain⟨D0,D1,D2,D3⟩:=D4;obtain⟨a,c,a',c',a'',c'',rfl,rfl,rfl⟩:=h.slices;dsimp only[nv] at *;clear h bW D hf;rw[hW] at D0 D1 D2 D3;generalize hlK:n.keys.length=lK at *;generalize hlV:n.vals.length=lV at *;generalize hlD:n.kids.length=lD at *;generalize hleaf:n.leaf=leaf at *;replace hlK:=qa hlK;replace hlV:=qa hlV;replace hlD:=qa hlD;replace hleaf:=qa hleaf;go_enter Tryz.func58,Tryz.ntmps58
 go_wp2_with fail
 rw[<-hW];replace hW:=qa hW;clear D0 D1 D2 D3;refine KC.out.mono ?_;rintro e w1 ⟨rfl,b1⟩;clear KC;by_cases hz:qE n=0
 ·have hok:=(ze n).1 hz
  have hfind:Hid (Qf n key=JN n.leaf key n.keys/\jQ n key=nis key n.keys):=by
   show _/\_
   unfold Qf jQ;rw[xj hz,xj hz];exact⟨rfl,rfl⟩
  have few:n.keys.length<=1000:=by
   have h1:=y6 n n.keys.length
   have h2:=hok.2.2.2.2
   unfold qp at h2
   split at h2<;>omega
  have KB:=qa (qpd w1 (.slice a lK c) n key (HN.out w1 b1).keys hok.1 few)
  have LF:=qa (fun(i:Nat) (hl:Low n key i)=>qnb hl hok.1)
  obtain⟨D0,D1,D2,D3⟩:=HD.out w1 b1;have hzz:=qa hz
  rw[hz];have B1:=qa (HE.out w1 b1)
  rw[hlK.out] at few;clear hz hok b1
  go_wp2_with fail
  refine KB.out.mono ?_;rintro e w2 ⟨i,rfl,lo,rfl⟩;clear KB;obtain⟨f1,f2⟩:=LF.out i lo;have hib:i<9223372036854775807:=by have:=lo.le;rw[hlK.out] at this;omega
  rw[hlK.out] at f1 f2 |-;rw[hleaf.out] at f2;generalize hbb:(decide (i<lK)&&Qy n i == key)=BB at *;replace hbb:=qa hbb;have F1:Hid (jQ n key=BB):=by show _=_;rw[hfind.out.2];exact f1
  have F2:Hid (Qf n key=if BB=true/\leaf=false then(i:Int)+1 else(i:Int)):=by show _=_;rw[hfind.out.1,hleaf.out];exact f2
  clear f1 f2 lo hfind LF;cases BB<;>cases leaf
  all_goals
   have g:=F2.out
   simp at g;replace g:=qa g;go_wp2
   go_ret3
   exact⟨qiq g.out.symm F1.out.symm hzz.out.symm,B1.out⟩
 have hr:Hid (Qf n key=0/\jQ n key=false):=by
  show _/\_
  unfold Qf jQ;rw[xh hz,xh hz];exact⟨rfl,rfl⟩
 obtain⟨Z,hZ⟩:∃ Z,Z=qE n:=⟨_,rfl⟩;rw[<-hZ] at hz |-;replace hZ:=qa hZ;have bb:=qa (HE.out _ b1)
 clear b1;go_wp2
 go_ret3
 exact⟨qiq hr.out.1.symm hr.out.2.symm hZ.out,bb.out⟩
def Ze:List Wrt->List Value->List Value
 | f::fs,sv::svs=>.int .i64 f.1::sv::Ze fs svs
 | _,_=>[]
theorem yk:∀ (fs:List Wrt) (svs:List Value) (f:Wrt) (sv:Value),svs.length=fs.length->Ze (fs++[f]) (svs++[sv])=Ze fs svs++[.int .i64 f.1,sv]
 | [],svs,f,sv,h=>by
  have:svs=[]:=xq (by simpa using h)
  subst this;rfl
 | g::fs,[],f,sv,h=>by simp at h
 | g::fs,s::svs,f,sv,h=>by
  have:=yk fs svs f sv (by simpa using h)
  simp only[xD,Ze,this]
theorem vf:∀ (fs:List Wrt) (svs:List Value) (i:Nat),svs.length=fs.length->i<fs.length ->
 (Ze fs svs)[i*2]?=some (.int .i64 (fs.getD i (0,[])).1)/\(Ze fs svs)[i*2+1]?=some (svs.getD i undef)
 | [],_,i,_,hi=>by simp at hi
 | f::fs,[],i,h,hi=>by simp at h
 | f::fs,sv::svs,0,h,hi=>by simp[Ze]
 | f::fs,sv::svs,i+1,h,hi=>by
  have:=vf fs svs i (by simpa using h) (by simpa using hi)
  rw[show (i+1)*2=i*2+1+1 from by omega,show i*2+1+1+1=(i*2+1)+1+1 from rfl]
  simpa[Ze] using this
def OwnW (T B:Nat) (w:World) (v:Value) (ws:List Wrt):Prop :=
 ∃ svs:List Value,svs.length=ws.length/\w.ownsRow B T 2 v ws.length (Ze ws svs)/\∀ i,i<ws.length->OwnB 0 w (svs.getD i undef) (ws.getD i (0,[])).2
theorem OwnW.nil (T B:Nat) (w:World):OwnW T B w (.slice none 0 0) []:=⟨[],rfl,xA _ _ _ _,fun i hi=>by simp at hi⟩
theorem OwnW.keepT (h:OwnW T B w v ws) (k1:KeepT 5 w w') (k2:KeepT T w w'):OwnW T B w' v ws:=by
 obtain⟨vs,h1,h2,h3⟩:=h;exact⟨vs,h1,qs h2 k2,fun i hi=>qs (h3 i hi) k1⟩
theorem OwnW.snoc {f:Wrt} {sv:Value} (hT:T≠5) (h1:svs.length=ws.length) (h2:w.ownsRow B T 2 v ws.length (Ze ws svs))
 (h3:∀ i,i<ws.length->OwnB 0 w (svs.getD i undef) (ws.getD i (0,[])).2) (hs:OwnB 0 w sv f.2)
 (hg:w.grownBy w' v.ownBlock) (hw:w'.ownsRow B T 2 v' (ws.length+1) (Ze ws svs++[.int .i64 f.1,sv])):OwnW T B w' v' (ws++[f]):=by
 refine⟨svs++[sv],by simp[h1],?_,?_⟩
 ·rw[yk ws svs f sv h1,xk];exact hw
 intro i hi;simp only[xk,xC,xX] at hi;by_cases hlt:i<ws.length
 ·have e1:(svs++[sv]).getD i undef=svs.getD i undef:=by simp[xe,Xu (show i<svs.length by omega)]
  have e2:(ws++[f]).getD i (0,[])=ws.getD i (0,[]):=by simp[xe,Xu hlt]
  rw[e1,e2];exact qs (h3 i hlt) (KeepT.grown h2 hg (Ne.symm hT))
 obtain rfl:i=ws.length:=by omega
 have e1:(svs++[sv]).getD ws.length undef=sv:=by rw[<-h1];simp[xe]
 have e2:(ws++[f]).getD ws.length (0,[])=f:=by simp[xe]
 rw[e1,e2];exact qs hs (KeepT.grown h2 hg (Ne.symm hT))
theorem OwnW.rd (h:OwnW T B w v ws):RdC w v ws:=by
 obtain⟨svs,h1,h2,h3⟩:=h;rcases h2.2 with ⟨rfl,h0⟩|⟨g,cap,cur,rfl,hgb,hg,hn,hm,hs,ht⟩
 ·have:ws=[]:=xq h0
  subst this;exact RdS.nil _ _
 refine⟨_,cap,rfl,hn,hm,(fun h=>by cases h),.inr ⟨g,0,rfl,fun i x hx=>?_⟩⟩
 have hi:i<ws.length:=(xn.1 hx).1
 obtain⟨c1,c2⟩:=vf ws svs i h1 hi;have hr:=(h3 i hi).rd
 rw[getD_some hx] at c1 hr;refine⟨[.int .i64 x.1,svs.getD i undef],⟨[_],[_],rfl,rfl,_,rfl,hr⟩,fun j u hj=>?_⟩
 match j,hj with
 | 0,hj =>
  simp only[kW,xr] at hj;subst hj;show w.cell? ⟨g,0+i*2+0,none⟩=_
  rw[XD,XK,h2.cellAt (i*2) (by omega)];exact c1
 | 1,hj =>
  simp only[Kl,kW,xr] at hj;subst hj;show w.cell? ⟨g,0+i*2+1,none⟩=_
  rw[XD,h2.cellAt (i*2+1) (by omega)];exact c2
 | j+2,hj=>simp at hj
def OwnX (T B:Nat) (w:World) (v:Value) (ws:List Wrt):Prop :=
 ∃ svs:List Value,svs.length=ws.length/\w.ownsRow B T 2 v ws.length (Ze ws svs)/\∀ i,i<ws.length->OwnB B w (svs.getD i undef) (ws.getD i (0,[])).2
theorem OwnX.nil (T B:Nat) (w:World):OwnX T B w (.slice none 0 0) []:=⟨[],rfl,xA _ _ _ _,fun i hi=>by simp at hi⟩
theorem OwnX.keepT (h:OwnX T B w v ws) (k1:KeepT 5 w w') (k2:KeepT T w w'):OwnX T B w' v ws:=by
 obtain⟨vs,h1,h2,h3⟩:=h;exact⟨vs,h1,qs h2 k2,fun i hi=>qs (h3 i hi) k1⟩
theorem OwnX.snoc {f:Wrt} {sv:Value} (hT:T≠5) (h1:svs.length=ws.length) (h2:w.ownsRow B T 2 v ws.length (Ze ws svs))
 (h3:∀ i,i<ws.length->OwnB B w (svs.getD i undef) (ws.getD i (0,[])).2) (hs:OwnB B w sv f.2)
 (hg:w.grownBy w' v.ownBlock) (hw:w'.ownsRow B T 2 v' (ws.length+1) (Ze ws svs++[.int .i64 f.1,sv])):OwnX T B w' v' (ws++[f]):=by
 refine⟨svs++[sv],by simp[h1],?_,?_⟩
 ·rw[yk ws svs f sv h1,xk];exact hw
 intro i hi;simp only[xk,xC,xX] at hi;by_cases hlt:i<ws.length
 ·have e1:(svs++[sv]).getD i undef=svs.getD i undef:=by simp[xe,Xu (show i<svs.length by omega)]
  have e2:(ws++[f]).getD i (0,[])=ws.getD i (0,[]):=by simp[xe,Xu hlt]
  rw[e1,e2];exact qs (h3 i hlt) (KeepT.grown h2 hg (Ne.symm hT))
 obtain rfl:i=ws.length:=by omega
 have e1:(svs++[sv]).getD ws.length undef=sv:=by rw[<-h1];simp[xe]
 have e2:(ws++[f]).getD ws.length (0,[])=f:=by simp[xe]
 rw[e1,e2];exact qs hs (KeepT.grown h2 hg (Ne.symm hT))
theorem OwnX.rd (h:OwnX T B w v ws):RdC w v ws:=by
 obtain⟨svs,h1,h2,h3⟩:=h;rcases h2.2 with ⟨rfl,h0⟩|⟨g,cap,cur,rfl,hgb,hg,hn,hm,hs,ht⟩
 ·have:ws=[]:=xq h0
  subst this;exact RdS.nil _ _
 refine⟨_,cap,rfl,hn,hm,(fun h=>by cases h),.inr ⟨g,0,rfl,fun i x hx=>?_⟩⟩
 have hi:i<ws.length:=(xn.1 hx).1
 obtain⟨c1,c2⟩:=vf ws svs i h1 hi;have hr:=(h3 i hi).rd
 rw[getD_some hx] at c1 hr;refine⟨[.int .i64 x.1,svs.getD i undef],⟨[_],[_],rfl,rfl,_,rfl,hr⟩,fun j u hj=>?_⟩
 match j,hj with
 | 0,hj =>
  simp only[kW,xr] at hj;subst hj;show w.cell? ⟨g,0+i*2+0,none⟩=_
  rw[XD,XK,h2.cellAt (i*2) (by omega)];exact c1
 | 1,hj =>
  simp only[Kl,kW,xr] at hj;subst hj;show w.cell? ⟨g,0+i*2+1,none⟩=_
  rw[XD,h2.cellAt (i*2+1) (by omega)];exact c2
 | j+2,hj=>simp at hj
theorem OwnX.base {C:Nat} (h:OwnX T C w v ws) (hBC:B<=C):OwnX T B w v ws:=by
 obtain⟨svs,q1,q2,q3⟩:=h;exact⟨svs,q1,Qt q2 (fun b hb=>xi hBC (xo q2 b hb).1),fun i hi=>Qt (q3 i hi) (fun b hb=>xi hBC (xo (q3 i hi) b hb).1)⟩
theorem qil {o:Nat} (hn:xs.length=n) (h:Rd w (.slice (some ⟨b,o,none⟩) n c) xs):(convert 52 9 (.slice (some ⟨b,o,none⟩) n c)).run Tryz.prog w=.ok (.string ⟨xs.toArray⟩) w:=by
 subst hn;obtain⟨ao,cap,e,h1,h2,h3,h4⟩:=h;simp only[xH,true_and] at e;obtain⟨rfl,rfl⟩:=e;refine run_convert_bytes_back w 52 9 5 ⟨b,o,none⟩ c xs xW Tryz.underlying5 Kw fun j hj=>?_;rcases h4 with h4|⟨b',off,e,hc⟩
 ·subst h4;simp at hj
 simp only[xr,XO,XS] at e;obtain⟨rfl,rfl⟩:=e;have:=hc j hj
 rw[show (⟨b,o,none⟩:Addr).add j=⟨b,o+j,none⟩ by simp[Addr.add],this]
 unfold bt;simp[xe,hj]
theorem yj (w:World) (v1 v2:Value) (xs ys:List UInt8) (h1:Rd w v1 xs) (h2:Rd w v2 ys) (p1:0<xs.length) (p2:0<ys.length) :
 Calls Tryz.prog 104 #[v1,v2] w fun e w'=>e=.returned (.bool (vM xs ys))/\w=w':=by
 have k1:=Yi h1 p1
 have k2:=Yi h2 p2
 obtain⟨a1,c1,rfl⟩:=h1.slice;obtain⟨a2,c2,rfl⟩:=h2.slice;go_enter Tryz.func104,Tryz.ntmps104;go_wp2;go_ret;exact⟨QV (qol xs ys),rfl⟩
theorem qgm (w:World) (b1 o1 n1 c1 b2 o2 n2 c2:Nat) (xs ys:List UInt8) (h1:Rd w (.slice (some ⟨b1,o1,none⟩) n1 c1) xs) (h2:Rd w (.slice (some ⟨b2,o2,none⟩) n2 c2) ys) (l1:xs.length=n1) (l2:ys.length=n2) :
 Calls Tryz.prog 104 #[.slice (some ⟨b1,o1,none⟩) n1 c1,.slice (some ⟨b2,o2,none⟩) n2 c2] w fun e w'=>e=.returned (.bool (vM xs ys))/\w=w':=by
 have k1:=qil l1 h1
 have k2:=qil l2 h2
 go_enter Tryz.func104,Tryz.ntmps104;go_wp2;go_ret;exact⟨QV (qol xs ys),rfl⟩
theorem qcn (w:World) (b o n c:Nat) (xs:List UInt8) (h:Rd w (.slice (some ⟨b,o,none⟩) n c) xs) (hm:xs.length<=140737488351232) :
 Calls Tryz.prog 64 #[.slice (some ⟨b,o,none⟩) n c] w fun e w'=>∃ v',e=.returned v'/\OwnB w.heap.size w' v' xs/\Below w.heap.size w w':=by
 obtain⟨X,hX⟩:∃ u,u=w.alloc (.cells #[] 5):=⟨_,rfl⟩;have oX:OwnB w.heap.size X (.slice (some ⟨w.heap.size,0,none⟩) 0 0) []:=by rw[hX];exact qcw w [] (by decide)
 have bX:Below w.heap.size w X:=by rw[hX];exact(xm _ _).alloc (xc _) _
 have rX:=h.to bX
 have hl:([]:List UInt8).length+xs.length<=140737488355328:=by simp;omega
 have hsz:=bX.size
 have hnil:(binOp .eql 52 (.slice (some ⟨b,o,none⟩) n c) (.slice none 0 0)).run Tryz.prog w=.ok (.bool false) w:=Lib.run_eql_slice_nil w 52 5 _ n c 0 0 xW
 clear h;go_enter Tryz.func64,Tryz.ntmps64
 go_wp2_with (at_builtin;rw[<-hX];refine qx rfl _ _ rfl w.heap.size _ _ _ _ rfl rfl oX rX hl hsz ?_;intro v6 w6 o6 b6 _)
 go_ret;exact⟨_,rfl,by simpa using o6,bX.trans b6⟩
section
variable {P:Program} {ops:Array Oper} {Q:Exit->Act->World->Prop} {S:World->Prop} {Z:Act->World->Prop} {m:Nat}
def Fan (P:Program) (ops:Array Oper) (Q:Exit->Act->World->Prop) (S:World->Prop) (Z:Act->World->Prop) (m n:Nat) (listed:Array Bool) (a:Act) (w:World):Prop :=
 HeadInv .any ops m listed->JG P .any ops Q S m (fun listed' a' w'=>Region.seqB .any ops (ops.size-m) m listed'=true/\Z a' w') n listed a w
def jJ (P:Program) (ops:Array Oper) (Q:Exit->Act->World->Prop) (S:World->Prop) (Z:Act->World->Prop) (m n i:Nat) (listed:Array Bool) (a:Act) (w:World):Prop :=
 ∃ o,ops[i]?=some o/\∀ K:Act->World->Prop,(∀ a' w',S w'->Fan P ops Q S Z m n (listed.setIfInBounds i true) a' w'->K a' w')->if Region.wanted o (yielded ops a.tmps)=true then o.wp P a w K Q else K (a.put o.dst undef) w
def qq2 (ops:Array Oper) (m:Nat):Bool:=Region.noSelect ops&&decide (m<ops.size)&&Region.sinkB .any ops m&&Region.chainB .any ops m
def qo2 (ops:Array Oper) (m i:Nat) (listed:Array Bool):Bool:=qq2 ops m&&decide (i<m)&&(Region.ready .any ops listed).contains i&&Region.free .any ops listed i
def Yq (ops:Array Oper) (m:Nat) (is:List Nat) (listed:Array Bool):Bool:=decide (Region.ready .any ops listed=is)&&is.all (fun i=>decide (i<m)) && !is.isEmpty
theorem qc {listed:Array Bool} (ho:ops[i]?=some o) (hB:qo2 ops m i listed=true) (hQ:∀ c (a:Act) t w,Q (.panic c) {a with tmps:=t} w->Q (.panic c) a w) (hw:Region.wanted o (yielded ops a.tmps)=true) (hS:S w)
 (hy:∀ w,S w->(execOp a.eval o).run P w=.ok (.value v) w) (h:Fan P ops Q S Z m n (listed.setIfInBounds i true) (a.put o.dst v) w):Fan P ops Q S Z m (n+1) listed a w:=by
 intro inv;simp only[qo2,qq2,xL,XU] at hB;obtain⟨⟨⟨⟨⟨⟨hsel,hm⟩,hs⟩,hc⟩,him⟩,hr⟩,hf⟩:=hB;have hr':i∈Region.ready .any ops listed:=by simpa using hr
 exact Jl ho (Region.noSelect_spec hsel) hs hc hm him (fun c a w h=>hQ c a (a.put o.dst v).tmps w (by rw[<-qar];exact h)) (fun listed a w hL=>seqB_ready hL.1) _ listed a w inv (Region.free_spec ho hf) hr' (.inl ⟨hw,hy⟩) hS (h (inv.set hr' him))
theorem qc7 {is:List Nat} {listed:Array Bool} (hB:Yq ops m is listed=true) (h:∀ i∈is,jJ P ops Q S Z m n i listed a w):Fan P ops Q S Z m (n+1) listed a w:=by
 intro inv;simp only[Yq,xL,XU,XR] at hB;obtain⟨⟨hr,hlt⟩,hne⟩:=hB;refine⟨fun h1=>?_,fun j hj=>?_⟩
 ·rw[hr] at h1;subst h1;simp at hne
 have hj0:=hj
 rw[hr] at hj;have him:=hlt j hj
 refine⟨him,?_⟩;obtain⟨o,ho,hK⟩:=h j hj;have:=hK (fun a' w'=>S w'/\Fan P ops Q S Z m n (listed.setIfInBounds j true) a' w') (fun a' w' h1 h2=>⟨h1,h2⟩)
 have hw:wpOp P ops Q j (fun a' w'=>S w'/\Fan P ops Q S Z m n (listed.setIfInBounds j true) a' w') a w:=by
  unfold wpOp;simp only[ho]
  split
  ·rename_i hwd;rw[xj hwd] at this;exact .inl this
  rename_i hwd;rw[xh hwd] at this;exact this
 exact wpOp_mono (fun a' w' h'=>⟨h'.1,h'.2 (inv.set hj0 him)⟩) hw
theorem qr {listed:Array Bool} (i:Nat) (hB:Yq ops m [i] listed=true) (h:jJ P ops Q S Z m n i listed a w):Fan P ops Q S Z m (n+1) listed a w :=
 qc7 hB fun j hj=>by simp at hj;subst hj;exact h
theorem zM {listed:Array Bool} (i j:Nat) (hB:Yq ops m [i,j] listed=true) (h1:jJ P ops Q S Z m n i listed a w) (h2:jJ P ops Q S Z m n j listed a w):Fan P ops Q S Z m (n+1) listed a w :=
 qc7 hB fun k hk=>by
  simp at hk;rcases hk with rfl|rfl
  ·exact h1
  exact h2
theorem qce {listed:Array Bool} (i j k:Nat) (hB:Yq ops m [i,j,k] listed=true) (h1:jJ P ops Q S Z m n i listed a w) (h2:jJ P ops Q S Z m n j listed a w) (h3:jJ P ops Q S Z m n k listed a w):Fan P ops Q S Z m (n+1) listed a w :=
 qc7 hB fun q hq=>by
  simp at hq;rcases hq with rfl|rfl|rfl
  ·exact h1
  ·exact h2
  exact h3
theorem qi {listed:Array Bool} (ho:ops[i]?=some o) (hw:Region.wanted o (yielded ops a.tmps)=true) (h:∀ K:Act->World->Prop,(∀ a' w',S w'->Fan P ops Q S Z m n (listed.setIfInBounds i true) a' w'->K a' w')->o.wp P a w K Q):jJ P ops Q S Z m n i listed a w :=
 ⟨o,ho,fun K hK=>by rw[xj hw];exact h K hK⟩
theorem qT {listed:Array Bool} (hB:Region.seqB .any ops (ops.size-m) m listed=true) (h:Z a w):Fan P ops Q S Z m 0 listed a w:=fun _=>⟨hB,h⟩
theorem Ql {id:Nat} {l:List Oper} (S:World->Prop) (m:Nat) (hf:P.follows .mixedOrders=true) (hm:m<l.length)
 (h:Fan P l.toArray Q S (fun a'' w''=>wpList P l.toArray Q (l.drop m) a'' w'') m m (Array.replicate l.toArray.size false) a w.drew):(Code.region id l.toArray true).wp P Q a w:=by
 have hld:(l.drop m).length=l.length-m:=by simp
 have inv0:HeadInv .any l.toArray m (Array.replicate l.toArray.size false) :=
  ⟨by simp,fun j oj _ hl=>(by rw[Kf] at hl;cases hl),fun t _ ht=>getD_in (by simpa using ht) (Kf _ _)⟩
 have H:=h inv0
 refine wp_region_any hf ?_
 have:=ja (Q:=Q) (g:=l.length-m) (fun listed a' w' hL=>by
  have:=wpAny_of_seq (md:=.any) (Q':=Q) (l.drop m) m listed a' w' (fun j=>by simp[XQ]) (by rw[hld];simpa using hL.1) hL.2
  rwa [hld] at this) _ _ _ _ H
 rw[show m+(l.length-m)=l.toArray.size by simp;omega] at this
 exact this
end
open Go.RowKit
theorem qse (r:Nat) (h:r<M32):(r%2=1->bits .xor .u32 ((r:Int)/2) 2197175160=(stc r:Int))/\(r%2≠1->(r:Int)/2=(stc r:Int)):=by
 unfold M32 at h;refine⟨fun h1=>?_,fun h1=>?_⟩
 ·rw[show (r:Int)/2=((r/2:Nat):Int) from by omega,show (2197175160:Int)=((2197175160:Nat):Int) from rfl,u32_xor_nat _ _ (by omega) (by omega)]
  unfold stc;rw[xj h1];rfl
 unfold stc;rw[xh h1];simp
theorem qox (r:Nat) (h:r<M32):bits .and .u32 (r:Int) 1=((r%2:Nat):Int):=by
 unfold M32 at h;rw[show (1:Int)=((1:Nat):Int) from rfl,u32_and_nat _ _ (by omega) (by omega),nat_mask1]
theorem qm7 (w:World) (r:Nat) (h:r<M32) :
 Calls Tryz.prog 136 #[.int .u32 r] w fun e w'=>e=.returned (.int .u32 (stc r:Nat))/\w=w':=by
 obtain⟨h1,h2⟩:=qse r h;have ha:=qox r h
 by_cases hr:r%2=1
 ·have hb:(bits .and .u32 (r:Int) 1 != 0)=true:=by rw[ha,hr];rfl
  replace h1:=qa (h1 hr);clear h2 ha hr;go_enter Tryz.func136,Tryz.ntmps136;go_wp2;go_ret;exact⟨qo h1.out,rfl⟩
 have hb:(bits .and .u32 (r:Int) 1 != 0)=false:=by rw[ha,show r%2=0 by omega];rfl
 replace h2:=qa (h2 hr);clear h1 ha hr;go_enter Tryz.func136,Tryz.ntmps136;go_wp2;go_ret;exact⟨qo h2.out,rfl⟩
theorem qd0 (a b:Nat) (ha:a<M32) (hb:b<M32):bits .xor .u32 (a:Int) (b:Int)=((a ^^^ b:Nat):Int):=u32_xor_nat a b ha hb
theorem qic (r:Nat) (h:r<M32):bits .xor .u32 IntKind.u32.max (r:Int)=((inv r:Nat):Int):=by
 show bits .xor .u32 4294967295 (r:Int)=_
 unfold inv;rw[qq6,show (4294967295:Int)=((4294967295:Nat):Int) from rfl];exact qd0 _ _ (by decide) h
def cv (c:Nat->Nat):List Value:=(List.range 256).map fun i=>.int .u32 (c i:Nat)
def up (c:Nat->Nat) (i v:Nat):Nat->Nat:=fun j=>if j=i then v else c j
theorem Ji (c:Nat->Nat):(cv c).length=256:=by simp[cv]
theorem qsx (c:Nat->Nat) (i v:Nat):(cv c).set i (.int .u32 (v:Nat))=cv (up c i v):=by
 apply List.ext_getElem
 ·simp[cv]
 intro j h1 h2;simp only[cv,List.getElem_set,List.getElem_map,List.getElem_range,up];by_cases h:i=j
 ·simp[h]
 simp[h,Ne.symm h]
theorem qsm (c:Nat->Nat) (i:Nat) (h:i<256):(cv c)[i]?=some (.int .u32 (c i:Nat)):=by
 simp[cv,h]
def Tab (B:Nat) (w:World) (g:Nat) (c:Nat->Nat):Prop:=w.ownsRow B 203 1 (.slice (some ⟨g,0,none⟩) 256 256) 256 (cv c)
theorem Tab.cell {c:Nat->Nat} (h:Tab B w g c) (i:Nat) (hi:i<256):w.cell? ⟨g,i,none⟩=some (.int .u32 (c i:Nat)):=by
 rw[h.cellAt i (by omega),qsm c i hi]
theorem Tab.frozen {c:Nat->Nat} (h:Tab B w g c) (i:Nat):w.frozen? ⟨g,i,none⟩=false:=h.frozenAt i
theorem Tab.set {c:Nat->Nat} (h:Tab B w g c) (i v:Nat):Tab B (w.setCell ⟨g,i,none⟩ (.int .u32 (v:Nat))) g (up c i v):=by
 unfold Tab;rw[<-qsx];exact(h.stored i _).1
def low (k:Nat):Nat:=(bits .and .i64 (k:Int) (-(k:Int))).toNat
theorem qoe:∀ k:Nat,k<256->bits .and .i64 (k:Int) (-(k:Int))=(low k:Int)/\low k<=k/\low k ^^^ (k-low k)=k/\(k=0\/(k-low k<k/\∃ j,j<8/\low k=128/2^j)):=by
 decide +kernel
theorem qrt:∀ k:Nat,k<8->stn (k+1) 1=stn 8 (128/2^k)/\(128:Int)/2^k=((128/2^k:Nat):Int)/\128/2^k<256:=by
 decide +kernel
theorem vh:(∀ w,(zeroValue 203).run Tryz.prog w=.ok (.agg (Array.replicate 256 (.int .u32 0))) w)/\(Tryz.prog.info? 203).map (·.size)=some 256 :=
 zero_of_info (by kernel_rfl)
theorem Tab.blk {c:Nat->Nat} (h:Tab B w g c) (e:w'.heap[g]?=w.heap[g]?):Tab B w' g c:=by
 refine⟨h.1,?_⟩;rcases h.2 with hn|⟨g',cap,cur,hv,hb,hg,r⟩
 ·exact .inl hn
 refine .inr ⟨g',cap,cur,hv,hb,?_,r⟩;simp only[xH,xr,XO] at hv;obtain⟨⟨rfl,_⟩,_⟩:=hv;rw[e];exact hg
theorem Tab.row {c:Nat->Nat} (h:Tab B w g c):B<=g/\w.heap[g]?=some (.cells (cv c).toArray 203 (0,0)):=by
 rcases h.2 with hn|⟨g',cap,cur,hv,hb,hg,_,_,hs,ht⟩
 ·simp at hn
 simp only[xH,xr,XO,true_and,XS] at hv;obtain⟨rfl,rfl⟩:=hv;refine⟨hb,?_⟩;rw[hg]
 have:cur=(cv c).toArray:=by
  apply Array.ext';rw[<-ht,xx (by simp;omega)]
 rw[this]
theorem Tab.of {c:Nat->Nat} (hB:B<=g) (h:w.heap[g]?=some (.cells (cv c).toArray 203 (0,0))):Tab B w g c :=
 ⟨by simp[Ji],.inr ⟨g,256,_,rfl,hB,h,by omega,by decide,by simp[Ji],by rw[xx (by simp[Ji])]⟩⟩
theorem Tab.other {c:Nat->Nat} (h:Tab B w g c) (hne:g≠g') (i:Nat) (v:Value):Tab B (w.setCell ⟨g',i,none⟩ v) g c :=
 h.blk (by simp[World.setCell,Xc,Ne.symm hne])
theorem qf8:Array.replicate 256 (Value.int .u32 0)=(cv fun _=>0).toArray:=by
 apply Array.ext';simp[cv,List.map_const']
theorem qq7 {c:Nat->Nat} (h:∀ i,c i<M32) (k:Nat) {v:Nat} (hv:v<M32):∀ i,up c k v i<M32:=by
 intro i;unfold up;split
 ·exact hv
 exact h i
theorem qrr {c:Nat->Nat} (hk:k<8) (h:∀ j,j<k->c (128/2^j)=stn 8 (128/2^j)):∀ j,j<k+1->up c (128/2^k) (stn 8 (128/2^k)) (128/2^j)=stn 8 (128/2^j):=by
 intro j hj;unfold up;by_cases e:128/2^j=128/2^k
 ·rw[xj e,e]
 rw[xh e];exact h j (by rcases Nat.lt_or_eq_of_le (Nat.le_of_lt_succ hj) with h1|h1;exact h1;subst h1;exact absurd rfl e)
theorem qr0 {c:Nat->Nat} (hk:k<256) (h8:∀ j,j<8->c (128/2^j)=stn 8 (128/2^j)) (h:∀ j,j<k->c j=stn 8 j) :
 c (low k) ^^^ c (k-low k)=stn 8 k/\(∀ j,j<8->up c k (stn 8 k) (128/2^j)=stn 8 (128/2^j))/\(∀ j,j<k+1->up c k (stn 8 k) j=stn 8 j):=by
 obtain⟨_,_,h1,h2⟩:=qoe k hk;refine⟨?_,fun j hj=>?_,fun j hj=>?_⟩
 ·rcases h2 with h2|⟨h2,j,hj,e⟩
  ·subst h2;have:low 0=0:=by decide
   rw[this,show (0:Nat)-0=0 from rfl,Nat.xor_self,qnv]
  have e2:c (low k)=stn 8 (low k):=by rw[e];exact h8 j hj
  rw[e2,h _ h2,<-qi6,h1]
 ·unfold up;by_cases e:128/2^j=k
  ·rw[xj e,e]
  rw[xh e];exact h8 j hj
 unfold up;by_cases e:j=k
 ·rw[xj e,e]
 rw[xh e];exact h j (by omega)
theorem yQ (h:Below B w w'):Below B w w'.drew:=⟨h.os,h.tape,h.output,h.size,h.block⟩
theorem below_setRow (h:Below B w w') (hg:B<=g) (cs:Array Value):Below B w (w'.setRow g cs) :=
 ⟨h.os,h.tape,h.output,by simpa[World.setRow] using h.size,fun k hk=>by
  rw[<-h.block k hk];simp[World.setRow,Xc,show ¬ g=k by omega]⟩
theorem qiy (c:Nat->Nat):(cv c).toArray.all (·.oneCell')=true:=by
 rw[Array.all_eq_true_iff_forall_mem];intro v hv;simp only[cv,List.mem_toArray,Xx] at hv;obtain⟨i,_,rfl⟩:=hv;rfl
theorem qj3 (w:World) :
 Calls Tryz.prog 126 #[] w fun e w'=>e=.returned (.agg (cv (stn 8)).toArray)/\Below w.heap.size w w':=by
 have hv:=vh.1
 rw[qf8] at hv
 have h0:Tab w.heap.size ((w.alloc (.cells (cv fun _=>0).toArray 203)).alloc (.cells (cv fun _=>0).toArray 203)) w.heap.size (fun _=>0) :=
  .of (xc _) (by show ((w.heap.push _).push _)[_]?=_;simp[Array.getElem?_push])
 have h1:Tab w.heap.size ((w.alloc (.cells (cv fun _=>0).toArray 203)).alloc (.cells (cv fun _=>0).toArray 203)) (w.heap.size+1) (fun _=>0) :=
  .of (Nat.le_succ _) (by have:=xy (w.alloc (.cells (cv fun _=>0).toArray 203)) (.cells (cv fun _=>0).toArray 203);simpa using this)
 have hb0:Below w.heap.size w ((w.alloc (.cells (cv fun _=>0).toArray 203)).alloc (.cells (cv fun _=>0).toArray 203)) :=
  ((xm _ _).alloc (xc _) _).alloc (by simp) _
 go_enter Tryz.func126,Tryz.ntmps126;go_wp2
 go_loopw [2,6] (fun r i wr=>∃ (k:Nat) (c:Nat->Nat),k<=8/\(∀ i,c i<M32)/\i=.int .i64 k/\r=.int .u32 (stn k 1:Nat)/\Tab w.heap.size wr w.heap.size (fun _=>0)/\Tab w.heap.size wr (w.heap.size+1) c/\(∀ j,j<k->c (128/2^j)=stn 8 (128/2^j))/\Below w.heap.size w wr) (fun _ i _=>8-(intOf i).toNat)
 case atStart=>exact⟨0,_,xt _,fun _=>by decide,rfl,rfl,h0,h1,fun j hj=>absurd hj (Nat.not_lt_zero _),hb0⟩
 case round =>
 obtain⟨k,c,hk,hcl,rfl,rfl,hA,hT,hc,hb⟩:=hrel;clear h0 h1 hb0;by_cases hlt:k<8
 ·have hq:(k:Int)<8:=by omega
  obtain⟨p1,p2,p3⟩:=qrt k hlt;have hs:=Vw k (show 1<M32 by decide)
  have hx:=hT.cell _ p3
  have hf:=hT.frozen (128/2^k)
  have H1:=qa (hT.set (128/2^k) (stn 8 (128/2^k)))
  have H2:=qa (hA.other (show w.heap.size≠w.heap.size+1 by omega) (128/2^k) (.int .u32 (stn 8 (128/2^k):Nat)))
  have H3:=qa (qrr hlt hc)
  have H4:=qa (hb.setCell (p:=⟨w.heap.size+1,128/2^k,none⟩) (Nat.le_succ _) (.int .u32 (stn 8 (128/2^k):Nat)))
  have H5:=qa (qag k 1)
  have H6:=qa (qq7 hcl (128/2^k) (Vw 8 (m:=128/2^k) (by unfold M32;omega)))
  rw[<-p1,qag] at H1 H2 H4 H6;rw[<-p1,qag] at H3;clear hT hA hb hc hcl;replace p1:=qa p1;generalize stn k 1=s at *;generalize 128/2^k=p at *
  go_wp2_with (go_at_call 136;refine(qm7 _ _ (by assumption)).mono ?_;rintro e w' ⟨rfl,rfl⟩)
  go_roundw
  case rel=>exact⟨k+1,_,by omega,H6.out,by go_num,by rw[H5.out],H2.out,H1.out,H3.out,H4.out⟩
  case measure=>simp[intOf];omega
 obtain rfl:k=8:=by omega
 have hc8:=qa hc
 clear hc;replace hcl:=qa hcl;go_wp2
 go_loopw [16] (fun i wx=>∃ (k:Nat) (c:Nat->Nat),k<=256/\(∀ i,c i<M32)/\i=.int .i64 k/\Tab w.heap.size wx w.heap.size (fun _=>0)/\Tab w.heap.size wx (w.heap.size+1) c/\Hid (∀ j,j<8->c (128/2^j)=stn 8 (128/2^j))/\Hid (∀ j,j<k->c j=stn 8 j)/\Below w.heap.size w wx) (fun i _=>256-(intOf i).toNat)
 case atStart=>exact⟨0,c,xt _,hcl.out,rfl,hA,hT,hc8,qa (fun j hj=>absurd hj (Nat.not_lt_zero _)),hb⟩
 case round =>
 clear hA hT hb hc8 hcl;rename_i K1 a1
 replace a1:=qa a1;obtain⟨k,c,hk,hcl,rfl,hA,hT,hc8,hc,hb⟩:=hrel;by_cases hlt:k<256
 ·have hq:(k:Int)<256:=by omega
  obtain⟨p1,p2,_,_⟩:=qoe k hlt;obtain⟨q1,q2,q3⟩:=qr0 hlt hc8.out hc.out;have hx:=hT.cell (low k) (by omega)
  have hy:=hT.cell (k-low k) (by omega)
  have hz:=hT.cell k hlt
  have hf:=hT.frozen k
  have HX:=qd0 (c (low k)) (c (k-low k)) (hcl _) (hcl _)
  rw[q1] at HX;have H1:=qa (hT.set k (stn 8 k))
  have H2:=qa (hA.other (show w.heap.size≠w.heap.size+1 by omega) k (.int .u32 (stn 8 k:Nat)))
  have H4:=qa (hb.setCell (p:=⟨w.heap.size+1,k,none⟩) (Nat.le_succ _) (.int .u32 (stn 8 k:Nat)))
  have H3:=qa q2
  have H6:=qa (qq7 hcl k (Vw 8 (m:=k) (by unfold M32;omega)))
  have H5:=qa q3
  clear hT hA hb hc hc8 q1 q2 q3 hcl;generalize stn 8 k=s at *;generalize c (low k)=cl at *;generalize c (k-low k)=cm at *;have hl1:((low k:Nat):Int)<256:=by omega
  have hl2:(k:Int)-((low k:Nat):Int)=((k-low k:Nat):Int):=by omega
  have hl3:((k-low k:Nat):Int)<256:=by omega
  go_wp2
  go_region
  go_wp2;go_roundw
  case rel=>exact⟨k+1,_,by omega,H6.out,by go_num,H2.out.blk rfl,H1.out.blk rfl,H3,H5,yQ H4.out⟩
  case measure=>simp[intOf];omega
 obtain rfl:k=256:=by omega
 have hcv:cv c=cv (stn 8):=by
  unfold cv;exact List.map_congr_left fun i hi=>by rw[hc.out i (List.mem_range.1 hi)]
 clear hc hc8 hcl;have hB:=hb.size
 have hr:=hT.row.2
 have hr0:=hA.row.2
 rw[hcv] at hr;clear hA hT;go_wp2;refine a1.out _ _ ?_;refine wp_seq (wp_region_list ?_);refine wpList_load_row rfl _ _ rfl (w.heap.size+1) rfl _ _ _ _ hr Tryz.underlying203 rfl (by rw[show (cv (stn 8)).toArray.size=256 from by simp[Ji]];exact vh.2) ?_
 refine wpList_store_row rfl _ _ _ rfl w.heap.size _ rfl rfl _ _ hr0 (by rw[show (cv (stn 8)).toArray.size=256 from by simp[Ji]];exact vh.2) ?_ ?_ ?_
 ·simp[Ji]
 ·exact qiy _
 refine wp_ret ?_;refine Xk (v:=.agg (cv (stn 8)).toArray) ?_ rfl ⟨rfl,below_setRow hb (xc _) _⟩;exact results_cell_row rfl _ _ w.heap.size _ _ _ _ rfl (XX _ _ _ _ _ _ hr0) Tryz.underlying203 rfl (by rw[show (cv (stn 8)).toArray.size=256 from by simp[Ji]];exact vh.2)
theorem qer (w:World) (c d:Nat->Nat):(w.alloc (.cells (cv c).toArray 203)).setRow w.heap.size (cv d).toArray=w.alloc (.cells (cv d).toArray 203) :=
 World.setRow_alloc_new w _ _ _
theorem qjs {Q:Exit->Act->World->Prop} {dst:Option Tmp} {pos:String} {after:Array Edge} (hz:(zeroValue 203).run Tryz.prog w=.ok (.agg (cv fun _=>0).toArray) w)
 (h:wpList Tryz.prog ops Q rest (a.put dst (.pointer (some ⟨w.heap.size,0,none⟩))) (w.alloc (.cells (cv fun _=>0).toArray 203))) :
 wpList Tryz.prog ops Q ({dst:=dst,op:=.alloc 203,type:=ty,pos:=pos,after:=after,guard:=none}::rest) a w :=
 Great.wpList_allocTo rfl dst rfl _ _ (by simp[execOp,Instr.alloc,hz,newVar,newRow,Value.cells]) h
theorem qo4:(Tryz.prog.info? 203).map (·.size)=some (cv (stn 8)).toArray.size:=by
 rw[show (cv (stn 8)).toArray.size=256 from by simp[Ji]];exact vh.2
theorem qn2 {w1:World} (hb:Below w.heap.size w w1):∃ w2,w2=w1.alloc (.cells (cv (stn 8)).toArray 203)/\(∀ i,i<256->w2.cell? ⟨w1.heap.size,i,none⟩=some (.int .u32 (stn 8 i:Nat)))/\Below w.heap.size w w2:=by
 refine⟨_,rfl,fun i hi=>?_,hb.alloc hb.size _⟩;rw[Xi _ _ i _ _ (0,0) (xy w1 _)];simp[cv,hi]
theorem qjc (r x:Nat) (hr:r<M32) (hx:x<256) :
 IntKind.u8.wrap (r:Int)=((r%256:Nat):Int)/\bits .xor .u8 ((r%256:Nat):Int) (x:Int)=((r%256 ^^^ x:Nat):Int)/\r%256 ^^^ x<256 /\
 bits .xor .u32 ((r:Int)/256) ((stn 8 (r%256 ^^^ x):Nat):Int)=((tn r x:Nat):Int):=by
 have hlt:r%256 ^^^ x<2^8:=Nat.xor_lt_two_pow (by omega) hx
 refine⟨?_,u8_xor_nat _ _ (by omega) hx,hlt,?_⟩
 ·rw[IntKind.wrap_u8'];omega
 rw[show (r:Int)/256=((r/256:Nat):Int) from by omega,qd0 _ _ (by unfold M32 at *;omega) (Vw 8 (by unfold M32;omega)),qow]
theorem qlo (r:Nat) (xs:List UInt8) (k:Nat) (h:k<xs.length):reg r (xs.take (k+1))=tn (reg r (xs.take k)) (xs.getD k 0).toNat:=by
 rw[Xf,xg h,qpo];simp[reg,h]
theorem qqu (w:World) (c:Nat) (v:Value) (xs:List UInt8) (hc:c<M32) (hrd:Rd w v xs) (hm:xs.length<=1000000000000000) :
 Calls Tryz.prog 99 #[.int .u32 c,v] w fun e w'=>e=.returned (.int .u32 (ext c xs:Nat))/\Below w.heap.size w w':=by
 obtain⟨ao,cap,rfl⟩:=hrd.slice;have hic:=qhm hc
 have HI:=qic c hc
 have hv:=vh.1
 rw[qf8] at hv;go_enter Tryz.func99,Tryz.ntmps99
 go_wp2_with (go_at_call 126;refine(qj3 _).mono ?_;rintro e w1 ⟨rfl,hb⟩;rename_i K2 hK2;refine hK2 _ _ ?_;clear hK2;refine qjs (hv _) ?_;refine wpList_store_row rfl _ _ _ rfl w1.heap.size _ rfl rfl _ _ (xy _ _) qo4 (by simp[Ji]) (qiy _) ?_;rw[qer];obtain⟨w2,hw2,hcell,hb2⟩:=qn2 hb;rw[<-hw2];replace hw2:=qa hw2;clear hv;replace hrd:=hrd.to hb2;clear hw2 hb;generalize w1.heap.size=g at *;obtain⟨a1,c1,e1,l1,m1,n1,r1⟩:=hrd;cases e1;unfold maxLen at m1;generalize (cv (stn 8)).toArray=T at *)
 go_loop [6,14] (fun r i=>∃ k:Nat,k<=xs.length/\i=.int .i64 k/\r=.int .u32 (reg (inv c) (xs.take k):Nat)) (fun _ i=>xs.length-(intOf i).toNat)
 case atStart=>exact⟨0,xt _,rfl,rfl⟩
 case round =>
 obtain⟨k,hk,rfl,rfl⟩:=hrel;have hreg:=qmh (xs.take k) hic
 by_cases hlt:k<xs.length
 ·rcases r1 with r1|⟨b1,o1,rfl,hc1⟩
  ·rw[r1] at hlt;simp at hlt
  have g1:=hc1 k hlt
  have hq:(k:Int)<(xs.length:Int):=by omega
  have HS:=qa (qlo (inv c) xs k hlt)
  have hx:=UInt8.toNat_lt (xs.getD k 0)
  unfold bt at g1;generalize (xs.getD k 0).toNat=x at *;generalize reg (inv c) (xs.take k)=r at *;obtain⟨q1,q2,q3,q4⟩:=qjc r x hreg hx;have g2:=hcell _ q3
  have q5:((r%256 ^^^ x:Nat):Int)<256:=by omega
  clear hcell hc1 HI;generalize r%256 ^^^ x=y at *;generalize stn 8 y=z at *;generalize tn r x=s at *;generalize r%256=rr at *;go_wp2
  go_round
  case rel=>exact⟨k+1,by omega,by go_num,by rw[HS.out]⟩
  case measure=>simp[intOf];omega
 obtain rfl:k=xs.length:=by omega
 rw[Kg] at *;have HF:=qic _ hreg
 go_wp2;go_ret;exact⟨rfl,hb2⟩
theorem qik (w:World) (v:Value) (xs:List UInt8) (hrd:Rd w v xs) (hm:xs.length<=1000000000000000) :
 Calls Tryz.prog 72 #[v] w fun e w'=>e=.returned (.int .u32 (sum xs:Nat))/\Below w.heap.size w w':=by
 go_enter Tryz.func72,Tryz.ntmps72
 go_wp2_with (go_at_call 99;refine(qqu _ 0 _ _ (by decide) hrd hm).mono ?_;rintro e w1 ⟨rfl,hb⟩)
 go_ret;exact⟨rfl,hb⟩
theorem js (m:Nat):Builtin.zeroCells #[.int .u8 0] m=(List.replicate m (Value.int .u8 0)).toArray:=by
 apply Array.ext
 ·simp[Builtin.zeroCells]
 intro i h1 h2;simp[Builtin.zeroCells,Nat.mod_one]
theorem qb5 (m:Nat):(List.replicate m (0:UInt8)).map enc=List.replicate m (Value.int .u8 0):=by
 rw[List.map_replicate];rfl
theorem j4 (w:World) (ty:TypeId) (hown:OwnB B w v xs) (m:Nat) (hbytes:xs.length+m<=140737488355328) (hbase:B<=w.heap.size) :
 ∃ v' w',(Builtin.append_ #[52,3] ty #[v,.int .i64 (m:Int)]).run Tryz.prog w=.ok v' w'/\OwnB B w' v' (xs++List.replicate m 0)/\w.grownBy w' v.ownBlock:=by
 obtain⟨i0,hi,hz0,hz1,hz2⟩:=Xh YD;have ht:=xW
 have htn:=X8
 have hw:IntKind.i64.wrap (m:Int)=m:=by rw[ky];omega
 have hneg:¬ ((m:Int)<0):=by omega
 have h48i:¬ (281474976710656<(m:Int)*(i0.bytes:Int)):=by rw[hz2];omega
 have hlen:(xs++List.replicate m 0).length=xs.length+m:=by simp
 by_cases hm:m=0
 ·subst hm;have hw0:IntKind.i64.wrap (0:Int)=0:=by rw[ky];omega
  rw[List.replicate_zero,xK];rcases hown.2 with ⟨rfl,h0⟩|⟨g,cap,cur,rfl,hbg,hg,hnc,hcm,hcs,htake⟩
  ·refine⟨.slice none 0 0,w,?_,hown,⟨rfl,rfl,rfl,xc _,fun _ _ _=>rfl⟩⟩;simp[Builtin.append_,kL ht,kL htn,sizeOf,typeInfo,hi,asInt,asIntOf,hw0]
  refine⟨_,w,?_,hown,⟨rfl,rfl,rfl,xc _,fun _ _ _=>rfl⟩⟩;simp[Builtin.append_,kL ht,kL htn,sizeOf,typeInfo,hi,asInt,asIntOf,hw0,hnc,storeCells]
 have hns:¬ (m*i0.size=0):=by rw[hz1];omega
 have grown:∀ (old:Nat),old<xs.length+m->∀ (row:Option Nat),
  OwnB B (w.drew.alloc (.cells ((xs.map enc).toArray++Builtin.zeroCells #[.int .u8 0] m++Builtin.zeroCells #[.int .u8 0] (grownCap w (xs.length+m) old 5-(xs.length+m))) 5))
   (.slice (some ⟨w.heap.size,0,none⟩) (xs.length+m) (grownCap w (xs.length+m) old 5)) (xs++List.replicate m 0)/\
  w.grownBy (w.drew.alloc (.cells ((xs.map enc).toArray++Builtin.zeroCells #[.int .u8 0] m++Builtin.zeroCells #[.int .u8 0] (grownCap w (xs.length+m) old 5-(xs.length+m))) 5)) row:=by
  intro old ho row;have hge:=grownCap_ge w (xs.length+m) old 5
  have hcm:grownCap w (xs.length+m) old 5<=maxLen:=grownCap_le_maxLen w (xs.length+m) old _ (by unfold maxLen;omega)
  refine⟨⟨by simp,.inr ⟨w.heap.size,_,_,by rw[hlen],hbase,heap_alloc_new w.drew _,by rw[hlen];exact hge,hcm,?_,?_⟩⟩,⟨rfl,rfl,rfl,by simp,fun k hk _=>xR w.drew _ k hk⟩⟩
  ·simp only[js,Array.size_append,Xb,Xe,ki];omega
  simp only[js,Array.toList_append];rw[hlen,Xj,qb5];exact Xo (by simp)
 rcases hown.2 with ⟨rfl,h0⟩|⟨g,cap,cur,rfl,hbg,hg,hnc,hcm,hcs,htake⟩
 ·have hx:xs=[]:=xq h0
  subst hx;have hr:=Lib.run_append_nil_zeros (P:=Tryz.prog) w 52 3 ty 5 i0 (.int .u8 0) .i64 .i64 ht htn hi hz0 m (by omega) (by rw[hz1];omega) (by omega) (by rw[hz2];omega)
  have hgr:=grown 0 (by simp;omega) (Value.ownBlock (.slice none 0 0))
  simp only[xX,XD,List.map_nil,Array.empty_append,xG] at hgr |-;exact⟨_,_,hr,by simpa[Value.cells] using hgr.1,by simpa[Value.cells] using hgr.2⟩
 by_cases hroom:xs.length+m<=cap
 ·have hst:=run_storeCells_at Tryz.prog g xs.length 5 (List.replicate m (Value.int .u8 0)) 0 cur w hg (by simp;omega) (by intro v hv;rw[(List.mem_replicate.1 hv).2];rfl)
  simp only[XK] at hst;obtain⟨R,hR⟩:∃ R:Array Value,R=(cur.toList.take xs.length++List.replicate m (Value.int .u8 0)++cur.toList.drop (xs.length+(List.replicate m (Value.int .u8 0)).length)).toArray:=⟨_,rfl⟩;rw[<-hR] at hst;refine⟨.slice (some ⟨g,0,none⟩) (xs.length+m) cap,w.setRow g R,?_,⟨by simp,.inr ⟨g,cap,R,by rw[hlen],hbg,XX w g cur _ _ _ hg,by rw[hlen];exact hroom,hcm,?_,?_⟩⟩,⟨rfl,rfl,rfl,by simp,fun k _ hk=>XH w g k _ (fun e=>hk (by simp[Value.ownBlock,e]))⟩⟩
  ·have h48j:¬ (281474976710656<(m:Int)):=by omega
   simp[Builtin.append_,kL ht,kL htn,sizeOf,typeInfo,zeroValue,hi,hz0,hz1,asInt,asIntOf,hw,hm,hz2,hroom,XB,Value.cells,js,h48j,hst];exact fun h=>absurd h hneg
  ·rw[hR];simp only[Xb,xk,xp,xE,ki,x8];omega
  have h1:cur.toList.take xs.length=xs.map enc:=by simpa using htake
  rw[hR,hlen,h1,Xj,qb5];exact Xo (by simp)
 have holds:∀ j u,(xs.map enc)[j]?=some u->w.cell? ((⟨g,0,none⟩:Addr).add j)=some u:=World.ownsRow.cells hown (g:=g) rfl
 have hold:=run_firstCells_some (P:=Tryz.prog) w.drew i0.size xs.length ⟨g,0,none⟩ xs.length cap (xs.map enc) (by rw[hz1];simp) holds
 have hr:=Lib.run_append_grow_zeros (P:=Tryz.prog) w 52 3 ty 5 i0 (.int .u8 0) .i64 .i64 ht htn hi hz0 (some ⟨g,0,none⟩) xs.length cap (xs.map enc) hold m (by omega) (by rw[hz1];omega) (by omega) (by omega) (by rw[hz2];omega) (by rw[hz2];have:=nextslicecap_le (need:=xs.length+m) (old:=cap) (by omega);omega)
 have hgr:=grown cap (by omega) (Value.ownBlock (.slice (some ⟨g,0,none⟩) xs.length cap))
 exact⟨_,_,hr,hgr.1,hgr.2⟩
theorem qre (xs:List UInt8):IntKind.u64.wrap ((sum xs:Nat):Int)=((sum xs:Nat):Int):=by
 have hS:=ve xs
 unfold M32 at hS;rw[Ki];omega
section
variable {F:Fence} {n m:Nat} {P:Program}
def qrm (B l:Nat) (r:Loop) (R:Ending->World->Prop) (V:World):Exit->Act->World->Prop
 | .normal,_,W=>KeepsFrom B V W/\R (.returned (.bool true)) (W.putObj l (.loop {r with state:=.ready,pending:=none}))
 | .ret,_,W=>KeepsFrom B V W/\R (.returned (.bool false)) (W.putObj l (.loop {r with state:=.done,pending:=some .ret}))
 | .exit id,_,W=>KeepsFrom B V W/\R (.returned (.bool false)) (W.putObj l (.loop {r with state:=.done,pending:=some (.exit id)}))
 | .goto t,_,W=>KeepsFrom B V W/\R (.returned (.bool false)) (W.putObj l (.loop {r with state:=.done,pending:=some (.goto t)}))
 | .panic _,_,_=>False
 | .outgrown,_,_=>False
theorem qgx {l:Nat} {r:Loop} {args:Array Value} {R:Ending->World->Prop} (hB:B<=l) (hf:F.fn r.fn) (hl:W.heap[l]?=some (.loop r)) (hr:r.state=.ready) (hs:args.size=r.params.size) (A:Act->World->Prop)
 (ha:∀ K:Act->World->Prop,(∀ a V,KeepsFrom B W V->A a V->K a V)->r.assign.wpIn (F.inRound l) m P (Exit.then K fun _ _ _=>False) {tmps:=(r.params.zip args).foldl (fun t (p,v)=>t.setIfInBounds p v) r.tmps,defers:=[]} W)
 (hb:∀ a V,KeepsFrom B W V->A a V->r.body.wpIn (F.inRound l) m P (qrm B l r R (V.putObj l (.loop {r with state:=.busy}))) a (V.putObj l (.loop {r with state:=.busy}))):YieldAt F m P l args W R:=by
 refine⟨_,_,_,_,run_yield hl hs,roundIn_of_wpIn hf (ha _ fun a V hk hA=>?_)⟩;have hV:=hk.same l _ hB hl rfl
 refine⟨_,run_beginRound hV hr,wpIn_mono (hb a V hk hA) ?_⟩;have hb2:(V.putObj l (.loop {r with state:=.busy})).heap[l]?=some (.loop {r with state:=.busy}):=World.putObj_heap_same (Xs.1 hV).1
 have fin:∀ W2,KeepsFrom B (V.putObj l (.loop {r with state:=.busy})) W2->∀ j:Option Code,(Instr.endRound l j).run P W2=.ok (.bool j.isNone) (W2.putObj l (.loop {r with state:=if j.isNone then .ready else .done,pending:=j})):=fun W2 h j=>by
  have:=run_endRound (P:=P) j (h.same l _ hB hb2 rfl)
  simpa using this
 intro e a2 W2 h;cases e with
 | normal=>exact⟨_,_,fin W2 h.1 none,h.2⟩
 | ret=>exact⟨_,_,fin W2 h.1 (some .ret),h.2⟩
 | exit id=>exact⟨_,_,fin W2 h.1 (some (.exit id)),h.2⟩
 | goto t=>exact⟨_,_,fin W2 h.1 (some (.goto t)),h.2⟩
 | panic c=>exact h.elim
 | outgrown=>exact h.elim
def qqz {β : Type} (J : β -> World->Prop):Prop:=∀ s W W',J s W->W.grownBy W' none->J s W'
def qoy {α : Type} (F:Fence) (n:Nat) (P:Program) (g:Nat) (lb:Array Value) (encs : α -> Array Value) (Kp:World->World->Prop) (R:List α -> α -> World->Prop) (S:List α -> World->Prop) (w:World):Prop :=
 ∀ (l:Nat) (J Jx:List α -> World->Prop) (W:World),Below w.heap.size w W->qqz J->qqz Jx ->
  (∀ pre x V,J pre V->R pre x V->YieldAt F (n-1) P l (encs x) V fun e V'=>(e=.returned (.bool true)/\J (pre++[x]) V'/\Kp V V')\/(e=.returned (.bool false)/\Jx (pre++[x]) V'))->
  J [] W ->
  CallsIn F n P g (#[.func (.yield l) #[] #[]]++lb) W fun e V=>(∃ v,e=.returned v)/\((∃ xs,S xs V/\J xs V)\/∃ pre,Jx pre V)
theorem Je {α : Type} {g:Operand} {ps:Array Tmp} {assign body:Code} {Q:Exit->Act->World->Prop} (hro:F.round=none) (h1:1<=n)
 {gf:Nat} {lb:Array Value} (hg:a.eval g=.func (.func gf) #[] lb) (hF:F.fn gf) (eg:∀ args u,(callFunc gf args).run P u=.ok (.enter gf args) u)
 {encs : α -> Array Value} {Kp:World->World->Prop} {R:List α -> α -> World->Prop} {S:List α -> World->Prop} (hseq:qoy F (n-1) P gf lb encs Kp R S w)
 (hKt:∀ {X Y Z:World},Kp X Y->Kp Y Z->Kp X Z) (hKb:∀ (X:World) (l:Nat) (o o':Obj),w.heap.size<=l->X.heap[l]?=some o->o.isCells=false->o.isWalk=false->Kp X (X.putObj l o')) (hps:∀ x,(encs x).size=ps.size)
 (I:List α -> World->Prop) (Ix:Code->List α -> World->Prop) (A:List α -> α -> Act->World->Prop)
 (hI:OwnFrom w.heap.size I) (hIx:∀ c,OwnFrom w.heap.size (Ix c)) (hS:OwnFrom w.heap.size S) (hA:∀ pre x a',OwnFrom w.heap.size (fun(_:Unit) V=>A pre x a' V)) (h0:I [] w)
 (hassign:∀ (l:Nat) (pre:List α) (x : α) (W:World) (K:Act->World->Prop),I pre W->R pre x W->(∀ a' V,KeepsFrom w.heap.size W V->Kp W V->A pre x a' V->K a' V)->
  assign.wpIn (F.inRound l) (n-1-1) P (Exit.then K fun _ _ _=>False) {tmps:=(ps.zip (encs x)).foldl (fun t (p,v)=>t.setIfInBounds p v) a.tmps,defers:=[]} W)
 (hbody:∀ (l:Nat) (pre:List α) (x : α) (a':Act) (W:World),w.heap.size<=l->A pre x a' W->body.wpIn (F.inRound l) (n-1-1) P (ownPostG w.heap.size Kp I Ix (pre++[x]) W) a' W)
 (hdone:∀ (D:Nat) (xs:List α) (W:World),w.heap.size<=D->S xs W->I xs W->W.heap[D]?=some (.deferred (some []))->Q .normal {a with defers:={target:=.collected D,args:=#[]}::a.defers} W)
 (hstop:∀ (D:Nat) (c:Code) (pre:List α) (W:World),w.heap.size<=D->Ix c pre W->W.heap[D]?=some (.deferred (some []))->c.wpIn F n P Q {a with defers:={target:=.collected D,args:=#[]}::a.defers} W) :
 (Code.rangeFunc g ps assign body).wpIn F n P Q a w:=by
 refine wpIn_rangeFunc fun fn hfn=>?_;rw[hro]
 -- D: the block for deferred calls,L: the record
 obtain⟨D,hD⟩:∃ D,D=w.heap.size:=⟨_,rfl⟩;obtain⟨r,hr⟩:∃ r:Loop,r={state:=.ready,pending:=none,fn:=fn,tmps:=a.tmps,params:=ps,assign:=assign,body:=body,defers:=D}:=⟨_,rfl⟩;obtain⟨W1,hW1⟩:∃ W1,W1=(w.alloc (.deferred (some []))).alloc (.loop r):=⟨_,rfl⟩;have hb1:Below w.heap.size w W1:=by rw[hW1];exact((xm _ w).alloc (xc _) _).alloc (by simp) _
 have hL:W1.heap[D+1]?=some (.loop r):=by
  rw[hW1,hD];have:=World.alloc_heap_new (w.alloc (.deferred (some []))) (.loop r);rwa [Ku] at this
 have hK:W1.heap[D]?=some (.deferred (some [])):=by rw[hW1,hD];exact(xR _ _ _ (by simp)).trans (World.alloc_heap_new w _)
 have hI1:I [] W1:=by rw[hW1];exact hI.alloc _ (hI.alloc _ h0)
 refine⟨D+1,[{target:=.collected D,args:=#[]}],W1,{target:=.fn (.func gf) lb,args:=#[.func (.yield (D+1)) #[] #[]]},W1,gf,#[.func (.yield (D+1)) #[] #[]]++lb,W1,?_,?_,?_,?_,fun _=>h1,?_⟩
 ·rw[hW1,hr,hD];exact run_enterLoop_outer _ _ _ _ _
 ·simp only[resolve,hg];simp[go_sem]
 ·intro f' hf';simp[Target.leads] at hf';subst hf';exact hF
 ·simp[invoke,go_sem,eg]
 -- the two blocks stay through all but the rounds' own book-keeping
 have lay:∀ {X Y:World} {k:Nat} {o:Obj},X.heap[k]?=some o->X.grownBy Y none->Y.heap[k]?=some o:=fun h hg=>(hg.block _ (Xs.1 h).1 (by simp)).trans h
 refine(hseq (D+1) (fun pre X=>I pre X/\X.heap[D+1]?=some (.loop r)/\X.heap[D]?=some (.deferred (some [])))
  (fun pre X=>∃ c,Ix c pre X/\X.heap[D+1]?=some (.loop {r with state:=.done,pending:=some c})/\X.heap[D]?=some (.deferred (some []))) W1 hb1
  (fun s X Y h hg=>⟨hI s X Y none h.1 hg (fun _ e=>by cases e),lay h.2.1 hg,lay h.2.2 hg⟩)
  (fun s X Y h hg=>by obtain⟨c,h,h2,h3⟩:=h;exact⟨c,hIx c s X Y none h hg (fun _ e=>by cases e),lay h2 hg,lay h3 hg⟩) ?_ ⟨hI1,hL,hK⟩).mono ?_
 ·rintro pre x V ⟨hi,hl,hk⟩ hx;refine qgx (B:=w.heap.size) (A:=fun a' X=>A pre x a' X/\Kp V X) (by omega) (by rw[hr];exact hfn) hl (by rw[hr]) (by rw[hr];exact hps x) ?_ ?_
  ·intro K hKK;rw[hr];exact hassign _ pre x V K hi hx fun a' X h2 h3 h4=>hKK a' X h2 ⟨h4,h3⟩
  rintro a' X hkf ⟨hax,hkx⟩;have hl2:=hkf.same _ _ (by omega) hl rfl
  have hk2:=hkf.same _ _ (by omega) hk rfl
  have hlt:D+1<X.heap.size:=(Xs.1 hl2).1
  have hl3:(X.putObj (D+1) (.loop {r with state:=.busy})).heap[D+1]?=some (.loop {r with state:=.busy}):=World.putObj_heap_same hlt
  have hk3:(X.putObj (D+1) (.loop {r with state:=.busy})).heap[D]?=some (.deferred (some [])):=(XC (by omega)).trans hk2
  have hkp:Kp V (X.putObj (D+1) (.loop {r with state:=.busy})):=hKt hkx (hKb _ _ _ _ (by omega) hl2 rfl rfl)
  have hb':∀ (l:Nat) (pre:List α) (x : α) (a':Act) (W:World),w.heap.size<=l->A pre x a' W->r.body.wpIn (F.inRound l) (n-1-1) P (ownPostG w.heap.size Kp I Ix (pre++[x]) W) a' W:=by rw[hr];exact hbody
  refine wpIn_mono (hb' (D+1) pre x a' _ (by omega) ((hA pre x a').putObj (s:=()) _ hax (by omega) hl2 rfl)) ?_
  have fin:∀ W3,KeepsFrom w.heap.size (X.putObj (D+1) (.loop {r with state:=.busy})) W3->W3.heap[D+1]?=some (.loop {r with state:=.busy})/\W3.heap[D]?=some (.deferred (some []))/\∀ o,(W3.putObj (D+1) o).heap[D+1]?=some o/\(W3.putObj (D+1) o).heap[D]?=some (.deferred (some [])):=fun W3 h=>by
   have e1:=h.same _ _ (by omega) hl3 rfl
   have e2:=h.same _ _ (by omega) hk3 rfl
   exact⟨e1,e2,fun o=>⟨World.putObj_heap_same (Xs.1 e1).1,(XC (by omega)).trans e2⟩⟩
  have hrr:({r with state:=.ready,pending:=none}:Loop)=r:=by rw[hr]
  intro e a3 W3 hp;cases e with
  | normal =>
   obtain⟨k1,k2,k3⟩:=hp;obtain⟨e1,e2,e3⟩:=fin W3 k1;refine⟨k1,?_⟩;rw[hrr];exact .inl ⟨rfl,⟨hI.putObj _ k3 (by omega) e1 rfl,e3 _⟩,hKt hkp (hKt k2 (hKb _ _ _ _ (by omega) e1 rfl rfl))⟩
  | ret =>
   obtain⟨k1,k3⟩:=hp;obtain⟨e1,e2,e3⟩:=fin W3 k1;exact⟨k1,.inr ⟨rfl,.ret,(hIx _).putObj _ k3 (by omega) e1 rfl,e3 _⟩⟩
  | exit id =>
   obtain⟨k1,k3⟩:=hp;obtain⟨e1,e2,e3⟩:=fin W3 k1;exact⟨k1,.inr ⟨rfl,.exit id,(hIx _).putObj _ k3 (by omega) e1 rfl,e3 _⟩⟩
  | goto t =>
   obtain⟨k1,k3⟩:=hp;obtain⟨e1,e2,e3⟩:=fin W3 k1;exact⟨k1,.inr ⟨rfl,.goto t,(hIx _).putObj _ k3 (by omega) e1 rfl,e3 _⟩⟩
  | panic c=>exact hp.elim
  | outgrown=>exact hp.elim
 rintro e V ⟨⟨v,rfl⟩,⟨xs,hs,hi,hl,hk⟩|⟨pre,c,hi,hl,hk⟩⟩
 ·refine⟨_,_,run_endLoop hl (by rw[hr];simp),?_⟩
  rw[show r.pending=none from by rw[hr]]
  exact hdone D xs _ (by omega) (hS.putObj _ hs (by omega) hl rfl) (hI.putObj _ hi (by omega) hl rfl) ((XC (by omega)).trans hk)
 refine⟨_,_,run_endLoop hl (by simp),?_⟩
 exact hstop D c pre _ (by omega) ((hIx c).putObj _ hi (by omega) hl rfl) ((XC (by omega)).trans hk)
end
open Go.RowKit
theorem vG (w:World) (v:Value) (xs:List UInt8) (h:Rd w v xs) (hm:xs.length<=1000) :
 Calls Tryz.prog 96 #[v] w fun e w'=>∃ v',e=.returned v'/\OwnB w.heap.size w' v' (oc (sum xs) 4)/\Below w.heap.size w w':=by
 obtain⟨a,c,rfl⟩:=h.slice;have hS:=ve xs
 have hws:=qre xs
 unfold M32 at hS;go_enter Tryz.func96,Tryz.ntmps96
 go_wp2_with fail
 refine(qik w _ xs h (by omega)).mono ?_
 rintro e w1 ⟨rfl,b1⟩;have KP:=qa (ZQ (sum xs) 4 w1 (by decide) (by decide) (by omega) (by omega))
 generalize hSe:sum xs=S at *;replace hSe:=qa hSe
 go_wp2_with fail
 refine KP.out.mono ?_;rintro e w2 ⟨v2,rfl,o2,b2⟩;go_wp2;go_ret;exact⟨_,rfl,by rw[hSe.out];exact o2.mono b1.size,b1.trans (b2.mono b1.size)⟩
theorem qej:Lib.strCells ⟨#[112,103]⟩=pgmark.map enc:=by rfl
theorem VG (w:World) (id:Int) (v:Value) (d:List UInt8) (hrd:Rd w v d) :
 Calls Tryz.prog 68 #[.int .i64 id,v] w fun e w'=>∃ v',e=.returned (.tuple #[v',.int .i64 (zL id d).2])/\OwnB w.heap.size w' v' (zL id d).1/\Below w.heap.size w w':=by
 obtain⟨i0,hi,hz0,hz1,hz2⟩:=Xh YD;obtain⟨a,c,rfl⟩:=hrd.slice;by_cases h1:id<0
 ·rw[JY (.inl h1)];go_enter Tryz.func68,Tryz.ntmps68;go_wp2
  go_ret2
  exact⟨_,rfl,xA _ _ _ _,xm _ _⟩
 by_cases h2:2147483647<id
 ·rw[JY (.inr h2)];go_enter Tryz.func68,Tryz.ntmps68;go_wp2
  go_ret2
  exact⟨_,rfl,xA _ _ _ _,xm _ _⟩
 by_cases h3:244<d.length
 ·have hq:(244:Int)<(d.length:Int):=by omega
  rw[qal (by omega) h3]
  go_enter Tryz.func68,Tryz.ntmps68;go_wp2
  go_ret2
  exact⟨_,rfl,xA _ _ _ _,xm _ _⟩
 have hq:¬ (244:Int)<(d.length:Int):=by omega
 rw[vk (by omega) h3]
 obtain⟨m,rfl⟩:∃ m:Nat,id=(m:Int):=⟨id.toNat,by omega⟩
 rw[kA];have hm:m<=2147483647:=by omega
 have hwl:IntKind.u64.wrap (d.length:Int)=(d.length:Int):=by rw[Ki];omega
 have hwm:IntKind.u64.wrap (m:Int)=(m:Int):=by rw[Ki];omega
 have KP1:=qa (ZQ d.length 2 w (by decide) (by decide) (by omega) (by omega))
 have KP2:=qa (fun u=>ZQ m 4 u (by decide) (by decide) (by omega) (by omega))
 have gd:=qa hrd
 clear hrd;go_enter Tryz.func68,Tryz.ntmps68
 go_wp2_with fail
 refine KP1.out.mono ?_;rintro e w1 ⟨v1,rfl,o1,b1⟩
 go_wp2_with fail
 refine(KP2.out w1).mono ?_;rintro e w2 ⟨v2,rfl,o2,b2⟩;clear KP1 KP2;have c2:=b1.trans (b2.mono b1.size)
 have o1':=o1.below (xc _) b2
 have hle1:=c2.size
 obtain⟨w3,hmk,own3,gr3⟩:=run_make_own (P:=Tryz.prog) w2 w2.heap.size 52 5 i0 (.int .u8 0) 1 xW hi hz0 hz1 .i64 .i64 256 (by rw[hz2];decide) (by decide) (xc _)
 replace hmk:(Instr.makeSlice 52 (.int .i64 0) (.int .i64 256)).run Tryz.prog w2=.ok (.slice (some ⟨w2.heap.size,0,none⟩) 0 256) w3:=hmk;have b3:Below w2.heap.size w2 w3:=(xm _ _).grown gr3 (xc _) (fun k hk=>by cases hk)
 have r1:=qa o1'.rd
 have r2:=qa o2.rd
 have r3:=qa (gd.out.to c2)
 have hw3:=b3.size
 have C2:=qa c2
 have l5:pgmark.length+(oc d.length 2).length<=140737488355328:=by rw[qv];decide
 have l6:(pgmark++oc d.length 2).length+(oc m 4).length<=140737488355328:=by rw[xk,qv,qv];decide
 have e6:(pgmark++oc d.length 2++oc m 4).length=8:=by rw[xk,xk,qv,qv];rfl
 have l7:(pgmark++oc d.length 2++oc m 4).length+d.length<=140737488355328:=by omega
 obtain⟨K,hK⟩:∃ K,K=8+d.length:=⟨_,rfl⟩;have e7:(pgmark++oc d.length 2++oc m 4++d).length=K:=by rw[xk,e6,hK]
 have hKq:(K:Int)<=252:=by omega
 have hz:Hid (∀ v7 w7,OwnB w2.heap.size w7 v7 (pgmark++oc d.length 2++oc m 4++d)->Below w2.heap.size w2 w7->∃ v8 w8,(Builtin.append_ #[52,3] 52 #[v7,.int .i64 (252-(K:Int))]).run Tryz.prog w7=.ok v8 w8/\OwnB w2.heap.size w8 v8 (ZH m d)/\Below w2.heap.size w2 w8):=fun v7 w7 o7 b7=>by
  obtain⟨v8,w8,hr8,o8,gr8⟩:=j4 w7 52 o7 (244-d.length) (by omega) b7.size
  refine⟨v8,w8,?_,o8,b7.grown gr8 (by exact b7.size) o7.from⟩
  rw[show (252-(K:Int))=((244-d.length:Nat):Int) by omega]
  exact hr8
 have hpl:=qa (JA m (d:=d) (by omega))
 replace hK:=qa hK;replace e6:=qa e6;replace e7:=qa e7;clear o1 o1' o2 b1 b2 c2 gd
 go_wp2_with (first
  | (at_builtin;refine Lib.wpList_append_own_string _ rfl _ _ 52 9 rfl w2.heap.size 5 i0 xW Kw hi hz0 hz1 hz2 _ 0 [] rfl own3 ⟨#[112,103]⟩ rfl (by decide) (by decide) hw3 ?_;intro v4 w4 own4 gr4 _;rw[qej] at own4;have o4:OwnB w2.heap.size w4 v4 pgmark:=own4;have b4:=b3.grown gr4 (by exact hw3) (fun k hk=>(xo own3 k hk).1);clear own4 gr4)
  | (at_builtin;refine qx rfl _ _ rfl w2.heap.size _ _ _ _ rfl rfl o4 (r1.out.to b4) l5 b4.size ?_;intro v5 w5 o5 g5 _;have b5:=b4.trans g5)
  | (at_builtin;refine qx rfl _ _ rfl w2.heap.size _ _ _ _ rfl rfl o5 (r2.out.to b5) l6 b5.size ?_;intro v6 w6 o6 g6 _;have b6:=b5.trans g6)
  | (at_builtin;refine qx rfl _ _ rfl w2.heap.size _ _ _ _ rfl rfl o6 (r3.out.to b6) l7 b6.size ?_;intro v7 w7 o7 g7 _;obtain⟨v8,w8,hr8,o8,b8⟩:=hz.out v7 w7 o7 (b6.trans g7);obtain⟨ha,hc,hv⟩:=o7.rd.slice;rw[e7.out] at hv;subst hv;clear o4 o5 o6 o7 g5 g6 g7 b4 b5 b6)
  | (at_builtin;refine XY _ rfl _ _ _ _ rfl _ _ rfl rfl _ _ hr8 ?_))
 clear hr8 hmk own3 gr3 b3 hw3 hz r1 r2 r3 l5 l6 l7;have KS:=qa (vG w8 _ _ o8.rd (by rw[hpl.out];decide))
 refine KS.out.mono ?_;rintro e w9 ⟨v9,rfl,o9,b9⟩;clear KS;have oA:=o8.below (xc _) b9
 have bA:=b8.trans (b9.mono b8.size)
 have lA:(ZH m d).length+(oc (sum (ZH m d)) 4).length<=140737488355328:=by rw[hpl.out,qv];decide
 go_wp2_with (at_builtin;refine qx rfl _ _ rfl w2.heap.size _ _ _ _ rfl rfl oA o9.rd lA bA.size ?_;intro v10 w10 o10 g10 _)
 go_ret2
 exact⟨_,rfl,by unfold QY;exact o10.mono C2.out.size,C2.out.trans ((bA.trans g10).mono C2.out.size)⟩
theorem qea (w:World) (sv cv:Value) (d:Dsk) (k:Int) (h1:zp w sv d.1) (h2:RdC w cv d.2) :
 Calls Tryz.prog 70 #[.agg #[sv,cv],.int .i64 k] w fun e w'=>e=.returned (.bool (decide (yJ d k)))/\Below w.heap.size w w':=by
 obtain⟨a1,c1,rfl⟩:=h1.slice;obtain⟨a2,c2,rfl⟩:=h2.slice;obtain⟨W,hW,D0,D1,bW,sW⟩:=J4 w (.slice a1 d.1.length c1) (.slice a2 d.2.length c2) 43;by_cases hk:0<=k
 ·by_cases hl:k<d.1.length
  ·have hr:Hid (decide (yJ d k)=true):=by show _=_;simp[yJ,hk,hl]
   go_enter Tryz.func70,Tryz.ntmps70;go_wp2;go_ret;exact⟨QV hr.out.symm,by rw[<-hW];exact bW⟩
  have hr:Hid (decide (yJ d k)=false):=by show _=_;simp[yJ,hk,hl]
  go_enter Tryz.func70,Tryz.ntmps70;go_wp2;go_ret;exact⟨QV hr.out.symm,by rw[<-hW];exact bW⟩
 have hr:Hid (decide (yJ d k)=false):=by show _=_;simp[yJ,hk]
 go_enter Tryz.func70,Tryz.ntmps70;go_wp2;go_ret;exact⟨QV hr.out.symm,by rw[<-hW];exact bW⟩
theorem ju (w:World) (sv cv:Value) (d:Dsk) (h1:zp w sv d.1) (h2:RdC w cv d.2) :
 Calls Tryz.prog 40 #[.agg #[sv,cv]] w fun e w'=>e=.returned (.int .i64 (Z4 d))/\Below w.heap.size w w':=by
 obtain⟨a1,c1,rfl⟩:=h1.slice;obtain⟨a2,c2,rfl⟩:=h2.slice;have l1:=h1.bd
 have l2:=h2.bd
 obtain⟨W,hW,D0,D1,bW,sW⟩:=J4 w (.slice a1 d.1.length c1) (.slice a2 d.2.length c2) 43;replace h1:=h1.to0 bW;replace h2:=h2.to0 bW;by_cases hA:(d.1.length:Int)<1
 ·have hr:Hid (Z4 d=9):=by apply zg;unfold DOk;omega
  go_enter Tryz.func40,Tryz.ntmps40;go_wp2;go_ret;exact⟨qo hr.out.symm,by rw[<-hW];exact bW⟩
 by_cases hB:(1024:Int)<(d.1.length:Int)
 ·have hr:Hid (Z4 d=9):=by apply zg;unfold DOk;omega
  go_enter Tryz.func40,Tryz.ntmps40;go_wp2;go_ret;exact⟨qo hr.out.symm,by rw[<-hW];exact bW⟩
 by_cases hC:(4096:Int)<(d.2.length:Int)
 ·have hr:Hid (Z4 d=9):=by apply zg;unfold DOk;omega
  go_enter Tryz.func40,Tryz.ntmps40;go_wp2;go_ret;exact⟨qo hr.out.symm,by rw[<-hW];exact bW⟩
 go_enter Tryz.func40,Tryz.ntmps40;go_wp2;rw[<-hW];replace hW:=qa hW
 go_loopw [26] (fun i wr=>∃ k:Nat,k<=d.1.length/\i=.int .i64 k/\(∀ i x,i<k->d.1[i]?=some x->x.length=64)/\Below W.heap.size W wr) (fun i _=>d.1.length-(intOf i).toNat)
 case atStart=>exact⟨0,xt _,rfl,fun i x h=>absurd h (Nat.not_lt_zero _),xm _ _⟩
 case round =>
 obtain⟨k,hk,rfl,hs,hb⟩:=hrel;have HS:=qa hs
 have E0:=(hb.cell (qe D0)).trans D0
 have E1:=(hb.cell (qe D1)).trans D1
 have q1:=h1.to0 hb
 have q2:=h2.to0 hb
 have bb:=bW.trans (hb.mono bW.size)
 clear hs D0 D1;by_cases hlt:k<d.1.length
 ·have hq:(k:Int)<(d.1.length:Int):=by omega
  obtain⟨x,hx,hm⟩:=jh d.1 hlt;obtain⟨b1,o1,u,rfl,hc,hr⟩:=q1.oct hx;obtain⟨au,cu,rfl⟩:=hr.slice;have HB:=qa hb
  have HX:=qa (xb hx hm)
  clear hb hx hm;by_cases he:x.length=64
  ·have hne:((x.length:Int) != 64)=false:=by simp;omega
   replace he:=qa he;go_wp2;go_roundw
   case rel=>exact⟨k+1,by omega,by go_num,fun i z hi hz=>by
    by_cases h:i=k
    ·subst h;rw[HX.out.1] at hz;cases hz;exact he.out
    exact HS.out i z (by omega) hz,HB.out⟩
   case measure=>simp[intOf];omega
  have hne:((x.length:Int) != 64)=true:=by simp;omega
  have hd:Hid (Z4 d=9):=by apply zg;intro h;exact he (h.2.2.2.1 x HX.out.2)
  clear he;go_wp2;go_ret;exact⟨qo hd.out.symm,bb⟩
 have ek:∀ x∈d.1,x.length=64:=by
  intro x hx;obtain⟨i,hi,e⟩:=Xw hx;exact HS.out i x (by omega) (by rw[xg hi,e])
 have EK:=qa ek
 have HB:=qa bb
 clear ek HS hb h1 h2 bb bW;generalize wr=W2 at *;go_wp2
 go_loopw [37] (fun i wr=>∃ k:Nat,k<=d.2.length/\i=.int .i64 k/\(∀ i y,i<k->d.2[i]?=some y->(0<=y.1/\y.1<d.1.length)/\y.2.length=64)/\Below W2.heap.size W2 wr) (fun i _=>d.2.length-(intOf i).toNat)
 case atStart=>exact⟨0,xt _,rfl,fun i x h=>absurd h (Nat.not_lt_zero _),xm _ _⟩
 case round =>
 obtain⟨j,hj,rfl,hs,hb⟩:=hrel;have HS:=qa hs
 have G0:=(hb.cell (qe E0)).trans E0
 have G1:=(hb.cell (qe E1)).trans E1
 have p2:=q2.to0 hb
 have HBB:=qa (HB.out.trans (hb.mono HB.out.size))
 have hq1:=q1
 have hq2:=q2
 clear hs E0 E1 q1 q2 HB;by_cases hlt2:j<d.2.length
 ·have hq:(j:Int)<(d.2.length:Int):=by omega
  obtain⟨y,hy,hm⟩:=jh d.2 hlt2;obtain⟨b1,o1,u,rfl,hc1,hc2,hr⟩:=p2.wrt hy;obtain⟨au,cu,rfl⟩:=hr.slice;have HY:=qa (xb hy hm)
  obtain⟨V,hV,V0,V1,bV,_⟩:=J4 wr (.int .i64 y.1) (.slice au y.2.length cu) 113;have HB2:=qa (hb.trans (bV.mono hb.size))
  have HB3:=qa (HBB.out.trans (bV.mono HBB.out.size))
  have I0:=(bV.cell (qe G0)).trans G0
  have I1:=(bV.cell (qe G1)).trans G1
  clear hb hy hm p2 bV hr HBB;obtain⟨z,hz⟩:∃ z,z=y.1:=⟨_,rfl⟩;obtain⟨L,hL⟩:∃ L,L=y.2.length:=⟨_,rfl⟩;rw[<-hz] at hc1 hV V0;rw[<-hL] at hc2 hV V1;replace hz:=qa hz;replace hL:=qa hL;have p1:=(hq1.to0 HB2.out)
  rw[hV] at I0 I1;have hh:=qea V _ _ d z p1 (hq2.to0 HB2.out)
  have HH:=qa hh
  clear hh p1;by_cases e2:yJ d z
  ·rw[xv e2] at HH;by_cases e3:L=64
   ·have hne:((L:Int) != 64)=false:=by simp;omega
    have HE:=qa (xb e2 e3)
    clear e3 e2
    go_wp2_with fail
    rw[<-hV];replace hV:=qa hV;refine HH.out.mono ?_;rintro e w5 ⟨rfl,b5⟩;have B5:=qa (HB2.out.trans (b5.mono HB2.out.size))
    replace V1:=(b5.cell (qe V1)).trans V1;clear b5;go_wp2;go_roundw
    case rel=>exact⟨j+1,by omega,by go_num,fun i q hi hqq=>by
     by_cases h:i=j
     ·subst h;rw[HY.out.1] at hqq;cases hqq;rw[<-hz.out,<-hL.out];exact HE.out
     exact HS.out i q (by omega) hqq,B5.out⟩
    case measure=>simp[intOf];omega
   have hne:((L:Int) != 64)=true:=by simp;omega
   have hd:Hid (Z4 d=9):=by apply zg;intro h;exact e3 (by rw[hL.out];exact(h.2.2.2.2 y HY.out.2).2)
   clear e3
   go_wp2_with fail
   rw[<-hV];replace hV:=qa hV;refine HH.out.mono ?_;rintro e w5 ⟨rfl,b5⟩;have B5:=qa (HB3.out.trans (b5.mono HB3.out.size))
   replace V1:=(b5.cell (qe V1)).trans V1;clear b5;go_wp2;go_ret;exact⟨qo hd.out.symm,B5.out⟩
  have hd:Hid (Z4 d=9):=by apply zg;intro h;have:=(h.2.2.2.2 y HY.out.2).1;rw[<-hz.out] at this;exact e2 this
  rw[xw e2] at HH
  go_wp2_with fail
  rw[<-hV];replace hV:=qa hV;refine HH.out.mono ?_;rintro e w5 ⟨rfl,b5⟩;have B5:=qa (HB3.out.trans (b5.mono HB3.out.size))
  clear b5;go_wp2;go_ret;exact⟨qo hd.out.symm,B5.out⟩
 have hd:Hid (Z4 d=0):=by
  apply Zb;refine⟨by omega,by omega,by omega,EK.out,fun y hy=>?_⟩
  obtain⟨i,hi,e⟩:=Xw hy;exact HS.out i y (by omega) (by rw[xg hi,e])
 go_wp2;go_ret;exact⟨qo hd.out.symm,HBB.out⟩
theorem vZ (w:World) (sv cv:Value) (d:Dsk) (k:Int) (h1:zp w sv d.1) (h2:RdC w cv d.2) :
 Calls Tryz.prog 48 #[.agg #[sv,cv],.int .i64 k] w fun e w'=>e=.returned (.int .i64 (zX d k))/\Below w.heap.size w w':=by
 obtain⟨a1,c1,rfl⟩:=h1.slice;obtain⟨a2,c2,rfl⟩:=h2.slice;obtain⟨W,hW,D0,D1,bW,sW⟩:=J4 w (.slice a1 d.1.length c1) (.slice a2 d.2.length c2) 43;replace h1:=h1.to0 bW;replace h2:=h2.to0 bW;go_enter Tryz.func48,Tryz.ntmps48
 go_wp2_with fail
 rw[<-hW];replace hW:=qa hW;refine(ju _ _ _ d h1 h2).mono ?_;rintro e w1 ⟨rfl,b1⟩;have B1:=qa (bW.trans (b1.mono bW.size))
 by_cases hok:DOk d
 ·rw[Zb hok];replace D0:=(b1.cell (qe D0)).trans D0;replace D1:=(b1.cell (qe D1)).trans D1;replace h1:=h1.to0 b1;replace h2:=h2.to0 b1;clear b1 bW
  go_wp2_with fail
  refine(qea _ _ _ d k h1 h2).mono ?_;rintro e w2 ⟨rfl,b2⟩;have B2:=qa (B1.out.trans (b2.mono B1.out.size))
  clear b2 h1 h2 B1;by_cases hh:yJ d k
  ·have hr:Hid (zX d k=0):=by show _=_;unfold zX;rw[xj hok,xj hh]
   rw[xv hh];go_wp2;go_ret;exact⟨qo hr.out.symm,B2.out⟩
  have hr:Hid (zX d k=41):=by show _=_;unfold zX;rw[xj hok,xh hh]
  rw[xw hh];go_wp2;go_ret;exact⟨qo hr.out.symm,B2.out⟩
 have hr:Hid (zX d k=9):=by show _=_;unfold zX;rw[xh hok]
 rw[zg hok];clear b1 bW h1 h2;go_wp2;go_ret;exact⟨qo hr.out.symm,B1.out⟩
theorem qca {sv cv:Value} (h:OwnF (SSec.pair (Shp.list T SWr)) F w [sv,cv] d):∃ al cl ac cc,sv=.slice al d.1.length cl/\cv=.slice ac d.2.length cc:=by
 obtain⟨F1,F2,_,p1,p2,_⟩:=OwnF.split (c:=[sv]) (d:=[cv]) h rfl;obtain⟨v1,e1,r1⟩:=p1.rd;obtain⟨v2,e2,r2⟩:=p2.rd;simp at e1 e2;subst e1 e2;obtain⟨al,cl,rfl⟩:=r1.slice;obtain⟨ac,cc',rfl⟩:=r2.slice;exact⟨al,cl,ac,cc',rfl,rfl⟩
theorem qig (h:DOk d):d.1.map pad=d.1/\d.2.map qet=d.2:=by
 refine⟨?_,?_⟩
 ·conv=>rhs;rw[<-List.map_id d.1]
  exact List.map_congr_left fun x hx=>vj (h.2.2.2.1 x hx)
 conv=>rhs;rw[<-List.map_id d.2]
 exact List.map_congr_left fun y hy=>by unfold qet;rw[vj (h.2.2.2.2 y hy).2];rfl
theorem VF (w:World) (sv cv v:Value) (d:Dsk) (z:Int) (x:List UInt8) (h1:zp w sv d.1) (h2:RdC w cv d.2) (hx:Rd w v x) :
 Calls Tryz.prog 14 #[.agg #[sv,cv],.int .i64 z,v] w fun e w'=>∃ sv' cv',e=.returned (.tuple #[.agg #[sv',cv'],.int .i64 (Zv d z x).2])/\Own Zd w.heap.size w' [sv',cv'] (Zv d z x).1/\Below w.heap.size w w':=by
 obtain⟨j0,ji,jz0,jz1,jz2⟩:=Xh qon;obtain⟨a1,c1,rfl⟩:=h1.slice;obtain⟨a2,c2,rfl⟩:=h2.slice;obtain⟨a3,c3,rfl⟩:=hx.slice;obtain⟨W,hW,hA,hZ,bW,sW⟩:=qn6 w (.slice a1 d.1.length c1) (.slice a2 d.2.length c2) 43;replace h1:=h1.to0 bW;replace h2:=h2.to0 bW;obtain⟨A0,A1,_,_⟩:=qh hA;go_enter Tryz.func14,Tryz.ntmps14
 go_wp2_with fail
 rw[<-hW];replace hW:=qa hW;refine(vZ _ _ _ d z h1 h2).mono ?_;rintro e w1 ⟨rfl,b1⟩;have c1w:=bW.trans (b1.mono bW.size)
 have Z1:=(b1.block (w.heap.size+1) (by omega)).trans hZ
 obtain⟨y0,y1,y2,y3⟩:=qh Z1;by_cases hs0:zX d z=0
 ·obtain⟨hok,hh⟩:=ZC.1 hs0;rw[hs0];have A0':=(b1.cell (qe A0)).trans A0
  have A1':=(b1.cell (qe A1)).trans A1
  by_cases hl:64<x.length
  ·have hq:(64:Int)<(x.length:Int):=by omega
   have hR:Hid (Zv d z x=(([],[]),5)):=by show _=_;unfold Zv;rw[xh (by simp[hs0]),xj hl]
   clear hs0;go_wp2;refine Qz rfl rfl (w.heap.size+1) rfl _ _ _ _ (qR Z1 _ _) _ Xd rfl Qh _ rfl ?_;rw[hR.out];exact⟨_,_,rfl,zz _ _ _,qF c1w (show w.heap.size<=w.heap.size+1 by omega) _ _⟩
  have hq:¬ (64:Int)<(x.length:Int):=by omega
  by_cases hc:4096<=d.2.length
  ·have hq2:(4096:Int)<=(d.2.length:Int):=by omega
   have hR:Hid (Zv d z x=(([],[]),51)):=by show _=_;unfold Zv;rw[xh (by simp[hs0]),xh hl,xj hc]
   clear hs0;go_wp2;refine Qz rfl rfl (w.heap.size+1) rfl _ _ _ _ (qR Z1 _ _) _ Xd rfl Qh _ rfl ?_;rw[hR.out];exact⟨_,_,rfl,zz _ _ _,qF c1w (show w.heap.size<=w.heap.size+1 by omega) _ _⟩
  have hq2:(d.2.length:Int)<4096:=by omega
  have hR:Hid (Zv d z x=((d.1,d.2++[(z,pad x)]),0)):=by show _=_;unfold Zv;rw[xh (by simp[hs0]),xh hl,xh hc]
  have HLL:=qa (xb hl hc)
  have g1:=h1.to0 b1
  have g2:=h2.to0 b1
  have hlen1:=hok.2.1
  obtain⟨pd1,pd2⟩:=qig hok;have PD:=qa (xb pd1 pd2)
  clear hs0 hl hc pd1 pd2
  go_wp2_with fail
  refine(qe1 _ _ _ d g1 g2 (by omega) (by have:=hq2;omega)).mono ?_
  rintro e w3 ⟨sv',cv',rfl,o3,b3⟩;rw[PD.out.1,PD.out.2] at o3;have c3w:=c1w.trans (b3.mono c1w.size)
  have b13:=b1.trans (b3.mono b1.size)
  obtain⟨F,hF,hFB⟩:=o3.foot
  obtain⟨al,cl,ac,cc',rfl,rfl⟩:∃ al cl ac cc',sv'=.slice al d.1.length cl/\cv'=.slice ac d.2.length cc':=by
   obtain⟨F1,F2,_,p1,p2,_⟩:=OwnF.split (c:=[sv']) (d:=[cv']) hF rfl;obtain⟨v1,e1,r1⟩:=p1.rd;obtain⟨v2,e2,r2⟩:=p2.rd;simp at e1 e2;subst e1 e2;obtain⟨al,cl,rfl⟩:=r1.slice;obtain⟨ac,cc',rfl⟩:=r2.slice;exact⟨al,cl,ac,cc',rfl,rfl⟩
  obtain⟨X,hX,X0,X1,bX,sX⟩:=J4 w3 (.slice al d.1.length cl) (.slice ac d.2.length cc') 43;have hT:X.heap[w3.heap.size]?=some (.cells #[.slice al d.1.length cl,.slice ac d.2.length cc'] 43 (0,0)):=by rw[hX];exact xy w3 _
  obtain⟨gb,hgb⟩:∃ gb,gb=w3.heap.size:=⟨_,rfl⟩;rw[<-hgb] at hT X0 X1;have hgF:gb ∉ F:=fun hm=>by have:=hF.lt gb hm;omega
  have Z3:=((b13.trans (bX.mono b13.size)).block (w.heap.size+1) (by omega)).trans hZ
  have hs3:w.heap.size+1+1<=gb:=by have:=b13.size;omega
  have hs2:w.heap.size+1+1<=w1.heap.size:=by have:=b1.size;omega
  have cX:=c3w.trans (bX.mono c3w.size)
  have hxX:=hx.to cX
  obtain⟨cc,rowT,fin⟩:=OwnF.litSnd (c0:=[.slice al d.1.length cl]) (hF.to bX) rfl (n:=d.2.length) rfl
  have FIN:Hid (∀ (w5 w6:World) (u:Value) (g cap:Nat),Below X.heap.size X.drew w5->OwnB X.heap.size w5 u (pad x)->(w5.alloc (.cells #[.int .i64 z,u] 113)).grownBy w6 (Value.slice ac d.2.length cc').ownBlock ->
   w6.ownsRow 0 113 2 (.slice (some ⟨g,0,none⟩) (d.2.length+1) cap) (d.2.length+1) (cc++[.int .i64 z,u])->((Value.slice ac d.2.length cc').ownBlock=some g\/g=w5.heap.size+1)->
   w6.heap[gb]?=some (.cells #[.slice al d.1.length cl,.slice ac d.2.length cc'] 43 (0,0))/\w6.heap[w.heap.size+1]?=some (.cells #[.slice none 0 0,.slice none 0 0] 43 (0,0))/\Hid (∃ F',OwnF Zd F' w6 [.slice al d.1.length cl,.slice (some ⟨g,0,none⟩) (d.2.length+1) cap] (d.1,d.2++[(z,pad x)])/\(∀ b,b∈F'->w.heap.size+1+1<=b)/\gb ∉ F')/\Hid (Below w.heap.size w w6)):=fun w5 w6 u g cap k1 k2 k3 k4 k5=>by
   obtain⟨⟨F',q1,q2⟩,q3,q4⟩:=fin w5 [.int .i64 z,u] (z,pad x) 113 _ w6 g cap ((xm _ _).drew.trans k1) (qii k2) rfl rfl rfl rfl k3 k4 k5;refine⟨(q4 _ (by omega) hgF).trans hT,(q4 _ (by omega) fun hm=>by have:=hFB _ hm;omega).trans Z3,⟨F',q1,fun b hb=>(q2 b hb).elim (fun h=>by have:=hFB b h;omega) (fun h=>by omega),fun hm=>(q2 _ hm).elim hgF (fun h=>by omega)⟩,?_⟩
   exact cX.trans (q3 w.heap.size (fun b hb=>by have:=hFB b hb;omega) (by omega))
  have ROW:Hid (∀ u,Below X.heap.size X.drew u->∀ o:Obj,(u.alloc o).ownsRow 0 113 2 (.slice ac d.2.length cc') d.2.length cc):=fun u hu o=>rowT _ (((xm _ _).drew.trans hu).alloc hu.size o)
  have KS:=qa (Zr X.drew _ x (hxX.to (xm _ _).drew))
  have h63:d.2.length+1<=maxLen:=by rw[show maxLen=9223372036854775807 from rfl];have:=hq2;omega
  have hby:(d.2.length+1)*32<=140737488355328:=by have:=hq2;omega
  clear fin rowT hF hFB o3 b3 c3w hT Z3 cX bX A0' A1' g1 g2 b13 c1w b1 h1 h2 hA hZ bW A0 A1 hok hh hgF hx hxX y0 y1 y2 y3 Z1;obtain⟨PX,hPX⟩:∃ PX,PX=pad x:=⟨_,rfl⟩;have hPL:PX.length=64:=by rw[hPX];exact qid _
  rw[<-hPX] at FIN KS hR;replace hPX:=qa hPX;replace hPL:=qa hPL;generalize x.length=L at *;go_wp2;rw[<-hX,<-hgb];replace hX:=qa hX;replace hgb:=qa hgb;refine qj (fun w'=>w'.cell? ⟨gb,1,none⟩=some (.slice ac d.2.length cc')) 4 7 qG (by kernel_rfl) (fun _ _ _ _ h=>h) X1 ?_
  dsimp only[List.take,List.drop]
  iterate 4
   refine qA (v:=?_) (by rfl) ?_ ?_
   rotate_left
   ·intro w' s1;go_simp;try with_reducible rfl
   try simp only[Act.put,qB2]
  refine qM fun K hK=>?_;refine ZJ (by rfl) 50 _ _ (by rfl) #[.slice a3 L c3] (by simp[Act.eval]) (Tryz.call50 _ _) KS.out ?_
  rintro e w5 ⟨v5,rfl,o5,b5⟩;obtain⟨av,cv5,hv5⟩:=o5.rd.slice;rw[hPL.out] at hv5;subst hv5;have x1:=(b5.cell (p:=⟨gb,1,none⟩) (qe X1)).trans X1
  refine⟨_,rfl,hK _ _ x1 ?_⟩;clear hK K;try simp only[Act.put,qB2]
  refine qM fun K hK=>?_;rw[xj (by rfl)]
  go_simp;refine hK _ _ x1 ?_;clear hK K;refine qM fun K hK=>?_;rw[xj (by rfl)]
  go_simp;refine hK _ _ (qg9 x1 _) ?_;clear hK K;show wpList _ _ _ _ _ _
  go_wp2_with (at_builtin;refine Xq _ rfl _ _ 41 rfl 0 113 j0 _ 2 32 Tryz.underlying41 ji jz0 jz1 jz2 rfl (by decide) (.slice ac d.2.length cc') d.2.length cc rfl (ROW.out w5 b5 _) ⟨w5.heap.size,0,none⟩ 1 1 [.int .i64 z,.slice av 64 cv5] rfl rfl (Xr (xy w5 _)) (by simp[Value.oneCell']) (by decide) h63 hby (xt _) (w5.heap.size+1) (by simp) ?_;intro g cap w6 ho6 hg6 hat6 hlt6;obtain⟨T6,Z6,HO,HB6⟩:=FIN.out w5 w6 _ g cap b5 o5 hg6 ho6 hat6;obtain⟨t0,t1,t2,t3⟩:=qh T6;have T7:=qos T6 (.slice (some ⟨g,0,none⟩) (d.2.length+1) cap);obtain⟨e0,e1,e2,e3⟩:=qh T7;have Z7:=(xd w6 ⟨gb,1,none⟩ (.slice (some ⟨g,0,none⟩) (d.2.length+1) cap) (w.heap.size+1) (by show w.heap.size+1≠gb;omega)).trans Z6;obtain⟨i0',i1,i2,i3⟩:=qh Z7;have ZZ:=qa Z7;clear T6 Z6 T7 Z7 ho6 hg6 hat6 FIN ROW o5 b5 KS)
  refine Qz rfl rfl (w.heap.size+1) rfl _ _ _ _ (qR ZZ.out _ _) _ Xd rfl Qh _ rfl ?_;rw[hR.out];obtain⟨F',q1,q2,q3⟩:=HO.out;have nB1:w.heap.size+1 ∉ F':=fun hm=>by have:=q2 _ hm;omega
  exact⟨_,_,rfl,(((q1.set (a:=⟨gb,1,none⟩) q3 _).set (a:=⟨w.heap.size+1,0,none⟩) nB1 _).set (a:=⟨w.heap.size+1,1,none⟩) nB1 _).own (fun b hb=>by have:=q2 b hb;omega),qF (HB6.out.setCell (p:=⟨gb,1,none⟩) (by show w.heap.size<=gb;omega) _) (show w.heap.size<=w.heap.size+1 by omega) _ _⟩
 have hne:(zX d z != 0)=true:=by simpa using hs0
 have hR:Hid (Zv d z x=(([],[]),zX d z)):=by show _=_;unfold Zv;rw[xj hs0]
 generalize hD:zX d z=D at *;clear hD hs0;go_wp2;refine Qz rfl rfl (w.heap.size+1) rfl _ _ _ _ (qR Z1 _ _) _ Xd rfl Qh _ rfl ?_;rw[hR.out];exact⟨_,_,rfl,zz _ _ _,qF c1w (show w.heap.size<=w.heap.size+1 by omega) _ _⟩
theorem ZY (d:TypeDesc) (hd:(match d with | .struct _ | .array _ _=>true|_=>false)=false) (hu:P.underlying ty=some d) (hc:w.cell? ⟨b,0,none⟩=some v):(loadVar ty ⟨b,0,none⟩).run P w=.ok v w:=by
 have ha:(isAgg ty).run P w=.ok false w:=by
  unfold isAgg;rw[Sem.run_bind,kL hu w];cases d<;>simp_all
 simp[loadVar,Sem.run_bind,ha,hc]
theorem jR {fn:Func} {p q:Tmp} {t1 t2:TypeId} (h:fn.results=#[.cell p t1,.cell q t2]) (tmps:Array Value) (w:World) (g1 g2:Nat) (v1 v2:Value) (d1 d2:TypeDesc)
 (hd1:(match d1 with | .struct _ | .array _ _=>true|_=>false)=false) (hd2:(match d2 with | .struct _ | .array _ _=>true|_=>false)=false) (hu1:P.underlying t1=some d1) (hu2:P.underlying t2=some d2) (hp:tmps.getD p undef=.pointer (some ⟨g1,0,none⟩)) (hq:tmps.getD q undef=.pointer (some ⟨g2,0,none⟩))
 (c1:w.cell? ⟨g1,0,none⟩=some v1) (c2:w.cell? ⟨g2,0,none⟩=some v2):(results fn tmps).run P w=.ok (.tuple #[v1,v2]) w:=by
 have hp':tmps[p]?.getD undef=.pointer (some ⟨g1,0,none⟩):=by simpa using hp
 have hq':tmps[q]?.getD undef=.pointer (some ⟨g2,0,none⟩):=by simpa using hq
 simp[results,h,hp',hq',asAddr,ZY d1 hd1 hu1 c1,ZY d2 hd2 hu2 c2]
open Go.RowKit Go.Shelf
attribute [local go_sem] ub
structure WE where
 y:Wrt
 sv:Value
def ql2 (x:WE):Array Value:=#[.agg #[.int .i64 x.y.1,x.sv]]
def KpC (V V':World):Prop:=V.heap.size<=V'.heap.size/\∀ (k:Nat) (o:Obj),V.heap[k]?=some o->o.isCells=true->V'.heap[k]?=some o
theorem KpC.trans {Z:World} (h:KpC X Y) (k:KpC Y Z):KpC X Z:=⟨xi h.1 k.1,fun i o h1 h2=>k.2 i o (h.2 i o h1 h2) h2⟩
theorem KpC.put (W:World) (l:Nat) (o o':Obj) (h:W.heap[l]?=some o) (ho:o.isCells=false):KpC W (W.putObj l o'):=by
 refine⟨by simp[World.putObj],fun k q hq hc=>?_⟩
 rw[XC (by rintro rfl;rw[h] at hq;cases hq;rw[ho] at hc;cases hc)]
 exact hq
theorem KpC.alloc (W:World) (o:Obj):KpC W (W.alloc o):=⟨by simp,fun k q hq _=>(xR W o k (Xs.1 hq).1).trans hq⟩
theorem qnl (h:w.cell? ⟨b,i,none⟩=some v):∃ o,w.heap[b]?=some o/\o.isCells=true:=by
 have hb:=qe h
 refine⟨w.heap[b],Array.getElem?_eq_getElem hb,?_⟩;have e:w.heap[b]?=some w.heap[b]:=Array.getElem?_eq_getElem hb
 unfold World.cell? at h;rw[show (⟨b,i,none⟩:Addr).block=b from rfl,e] at h;cases hh:w.heap[b] with
 | cells c t f=>rfl
 | _=>rw[hh] at h;simp at h
theorem KpC.cell (h:KpC V V') (hc:V.cell? ⟨b,i,none⟩=some v):V'.cell? ⟨b,i,none⟩=some v:=by
 obtain⟨o,h1,h2⟩:=qnl hc;rw[KX (w:=V) (show V'.heap[b]?=V.heap[b]? from(h.2 b o h1 h2).trans h1.symm)];exact hc
theorem KpC.rd (h:KpC V V') (hr:Rd V v xs):Rd V' v xs:=by
 obtain⟨ao,cap,rfl,h1,h2,h3,h4⟩:=hr;refine⟨ao,cap,rfl,h1,h2,h3,?_⟩;rcases h4 with h4|⟨b,off,rfl,hc⟩
 ·exact .inl h4
 exact .inr ⟨b,off,rfl,fun i hi=>h.cell (hc i hi)⟩
theorem KpC.rdC (h:KpC V V') (hr:RdC V v ws):RdC V' v ws:=by
 obtain⟨ao,cap,rfl,h1,h2,h3,h4⟩:=hr;refine⟨ao,cap,rfl,h1,h2,h3,?_⟩;rcases h4 with h4|⟨b,off,rfl,hc⟩
 ·exact .inl h4
 refine .inr ⟨b,off,rfl,fun i x hx=>?_⟩;obtain⟨c,⟨c1,c2,e,e1,v,e2,hv⟩,hcell⟩:=hc i x hx;exact⟨c,⟨c1,c2,e,e1,v,e2,h.rd hv⟩,fun j u hj=>h.cell (hcell j u hj)⟩
def RW (ws:List Wrt) (pre:List WE) (x:WE) (V:World):Prop:=Rd V x.sv x.y.2/\∃ k,k+1+pre.length=ws.length/\ws[k]?=some x.y/\pre.map WE.y=(ws.drop (k+1)).reverse
def SW (ws:List Wrt) (xs:List WE) (V:World):Prop:=xs.map WE.y=ws.reverse
theorem qbk (ws:List Wrt) (v:Value) (W0:World) (hr0:RdC W0 v ws) (Bs:Nat) (bs:Boxed W0 Bs 41 v) (n:Nat) :
 qoy Fence.wide n Tryz.prog 127 #[.pointer (some ⟨Bs,0,none⟩)] ql2 KpC (RW ws) (SW ws) W0:=by
 intro l J Jx W hW hJ hJx hY h0;have lb:=hr0.bd
 obtain⟨ao,cap,rfl⟩:=hr0.slice;have i0:=hr0.to0 hW
 have bs0:Boxed W Bs 41 (.slice ao ws.length cap):=(hW.block Bs bs.lt).trans bs
 have I0:=qa (xb i0 bs0)
 have cb0:=bs0.cell
 clear i0 bs0 bs hW hr0;refine callsIn_of_wp Tryz.func127 rfl trivial ?_ rfl;simp only[Tryz.ntmps127,Xb,xC,xX,Nat.reduceAdd,Nat.reduceSub,kD,kC,kN,kG,xG,xD]
 gi_wp2
 clear cb0
 gi_loopw [3] (fun i wr=>∃ (pre:List WE) (k:Nat),i=.int .i64 ((k:Int)-1)/\k+pre.length=ws.length/\Hid (pre.map WE.y=(ws.drop k).reverse)/\Hid (RdC wr (.slice ao ws.length cap) ws/\Boxed wr Bs 41 (.slice ao ws.length cap))/\J pre wr) (fun i _=>(intOf i+1).toNat)
 case atStart=>exact⟨[],ws.length,by simp,rfl,by show _=_;simp,I0,h0⟩
 case round =>
 obtain⟨pre,k,rfl,hk,hpre,hit,hJs⟩:=hrel;clear I0;have cb:=hit.out.2.cell
 cases k with
 | zero =>
  have hS:SW ws pre wr:=by
   show pre.map WE.y=ws.reverse
   have:=hpre.out
   rwa [Kn] at this
  have HS:=qa hS
  have HJ:=qa hJs
  have hq0:((0:Nat):Int)-1 = -1:=by omega
  rw[hq0];clear hS hJs hpre hit hq0
  gi_wp2
  go_end0
  exact⟨⟨_,rfl⟩,.inl ⟨_,HS.out,HJ.out⟩⟩
 | succ k =>
  obtain⟨y,hy,_⟩:=jh ws (k:=k) (by omega)
  obtain⟨b1,o1,u,rfl,hc1,hc2,hru⟩:=hit.out.1.wrt hy;have hx:RW ws pre ⟨y,u⟩ wr:=⟨hru,k,by omega,hy,hpre.out⟩
  have Y:=hY pre ⟨y,u⟩ wr hJs hx
  obtain⟨fn,tmps,assign,body,hy',hR⟩:=Y;dsimp only[ql2] at hy';obtain⟨au,cu,rfl⟩:=hru.slice;have hq1:(0:Int)<=((k+1:Nat):Int)-1:=by omega
  have hq2:((k+1:Nat):Int)-1=(k:Int):=by omega
  have hq3:(k:Int)<(ws.length:Int):=by omega
  have hdr:(pre++[(⟨y,.slice au y.2.length cu⟩:WE)]).map WE.y=(ws.drop k).reverse:=by
   rw[Xj,hpre.out]
   have:ws.drop k=y::ws.drop (k+1):=by
    rw[Xv (by omega)]
    congr 1
    have:=(xn.1 hy)
    obtain⟨h,e⟩:=this;exact e
   rw[this];simp
  have HD:=qa hdr
  have HIT:=hit
  clear hdr hit hJs hpre hx hY hru hy;rw[hq2]
  gi_wp2
  refine⟨(fun h=>by cases h),hR.mono ?_⟩
  rintro e W3 (⟨rfl,hJ3,hk3⟩|⟨rfl,hJx3⟩)
  ·have h3:Hid (RdC W3 (.slice (some ⟨b1,o1,none⟩) ws.length cap) ws/\Boxed W3 Bs 41 (.slice (some ⟨b1,o1,none⟩) ws.length cap)):=⟨hk3.rdC HIT.out.1,hk3.2 _ _ HIT.out.2 rfl⟩
   have HJ3:=qa hJ3
   clear hJ3 hk3 HIT hR hy' cb hc1 hc2
   gi_wp2
   go_roundw
   case rel=>exact⟨pre++[⟨y,.slice au y.2.length cu⟩],k,by go_num,by simp;omega,HD,h3,HJ3.out⟩
   case measure=>simp[intOf]<;>omega
  clear hR hy' cb hc1 hc2
  gi_wp2
  refine Xk (Xp rfl _ _ _) rfl ?_;exact⟨⟨_,rfl⟩,.inr ⟨_,hJx3⟩⟩
theorem qh1 (w:World) (v:Value) (ws:List Wrt) (hr:RdC w v ws):Calls Tryz.prog 100 #[v] w fun e w'=>e=.returned (.func (.func 127) #[] #[.pointer (some ⟨w.heap.size,0,none⟩)])/\w'=w.alloc (.cells #[v] 41):=by
 obtain⟨ao,cap,rfl⟩:=hr.slice;go_enter Tryz.func100,Tryz.ntmps100;go_wp2;go_ret;exact⟨rfl,rfl⟩
theorem qnr {y:Wrt} (h:d.2[k]?=some y) (hz:y.1=z) (hl:∀ q∈d.2.drop (k+1),q.1≠z):QF z x0 d.2=y.2:=by
 have e:d.2=d.2.take (k+1)++d.2.drop (k+1):=(x7 _ _).symm
 rw[e];unfold QF;rw[List.foldl_append]
 have h1:List.foldl (fun b (y:Wrt)=>if y.1=z then y.2 else b) x0 (d.2.take (k+1))=y.2:=by
  have:=vV (z:=z) (x:=x0) h
  rw[xj hz] at this;exact this
 rw[h1];clear h1 e h;generalize d.2.drop (k+1)=r at *
 induction r with
 | nil=>rfl
 | cons q r ih =>
  rw[kR,xh (hl q (by simp))]
  exact ih fun p hp=>hl p (by simp[hp])
theorem qkr (hl:∀ q∈ws,q.1≠z):QF z x0 ws=x0:=by
 induction ws with
 | nil=>rfl
 | cons q r ih =>
  show QF z (if q.1=z then q.2 else x0) r=x0
  rw[xh (hl q (by simp))]
  exact ih fun p hp=>hl p (by simp[hp])
theorem KpC.of_grown {row:Option Nat} (hg:X.grownBy Y row) (hr:∀ r,row=some r->B<=r/\∃ o:Obj,X.heap[r]?=some o/\o.isCells=false):KpC X Y:=by
 refine⟨hg.size,fun k o h1 h2=>(hg.block k (Xs.1 h1).1 fun e=>?_).trans h1⟩;obtain⟨_,o',h3,h4⟩:=hr k e.symm;rw[h1] at h3;cases h3
 rw[h2] at h4;cases h4
theorem KpC.own (h:KpC V V') (o:OwnB B V v xs):OwnB B V' v xs:=by
 rcases o with ⟨h1,h2|⟨g,cap,cur,hv,hB,hg,hr⟩⟩
 ·exact⟨h1,.inl h2⟩
 exact⟨h1,.inr ⟨g,cap,cur,hv,hB,h.2 g _ hg rfl,hr⟩⟩
def IG (w2:World) (z:Int) (pre:List WE) (V:World):Prop:=Below w2.heap.size w2 V/\∀ e∈pre,e.y.1≠z
def XG (w:World) (B:Nat) (ws:List Wrt) (z:Int) (c:Code) (pre:List WE) (V:World):Prop:=c=.ret/\∃ (p0:List WE) (x:WE) (v':Value) (k:Nat),pre=p0++[x]/\x.y.1=z/\(∀ e∈p0,e.y.1≠z)/\ws[k]?=some x.y/\p0.map WE.y=(ws.drop (k+1)).reverse /\
 Boxed V (w.heap.size+1+1) 52 v'/\Boxed V (w.heap.size+1+1+1) 31 (.int .i64 0)/\OwnB B V v' (pad x.y.2)/\Below w.heap.size w V
def qpw (w:World) (sv cv:Value) (z:Int) (g:Nat) (x:WE) (Bx:Nat):Act:={tmps:=#[.agg #[sv,cv],.int .i64 z,.pointer (some ⟨w.heap.size,0,none⟩),.pointer (some ⟨w.heap.size+1,0,none⟩),.pointer (some ⟨w.heap.size+1+1,0,none⟩),.pointer (some ⟨w.heap.size+1+1+1,0,none⟩),.int .i64 0,.pointer (some ⟨Bx,0,none⟩),.agg #[sv,cv],.int .i64 z,.int .i64 0,.int .i64 0,.bool false,undef,.pointer (some ⟨w.heap.size,1,none⟩),cv,.func (.func 127) #[] #[.pointer (some ⟨g,0,none⟩)],.agg #[.int .i64 x.y.1,x.sv],undef,undef,undef,undef,undef,undef,undef,undef,undef,undef,undef,undef,undef],defers:=[]}
def AG (w w2:World) (sv cv:Value) (ws:List Wrt) (z:Int) (g:Nat) (pre:List WE) (x:WE) (a:Act) (V:World):Prop :=
 IG w2 z pre V/\RW ws pre x V/\∃ Bx,V.heap[Bx]?=some (.cells #[.int .i64 x.y.1,x.sv] 113 (0,0))/\a=qpw w sv cv z g x Bx
theorem qg8 (w2:World) (z:Int):OwnFrom w2.heap.size (IG w2 z):=by
 rintro pre X Y row ⟨h1,h2⟩ hg hr;exact⟨h1.grown hg h1.size (fun k e=>(hr k e).1),h2⟩
theorem qrl (w w2:World) (hw:w.heap.size<=w2.heap.size) (ws:List Wrt) (z:Int) (c:Code):OwnFrom w2.heap.size (XG w w2.heap.size ws z c):=by
 rintro pre X Y row ⟨rfl,p0,x,v',k,e1,e2,e3,e4,e5,b1,b2,o,hb⟩ hg hr;have kp:=KpC.of_grown hg hr
 exact⟨rfl,p0,x,v',k,e1,e2,e3,e4,e5,kp.2 _ _ b1 rfl,kp.2 _ _ b2 rfl,kp.own o,hb.grown hg hb.size (fun k e=>by have:=(hr k e).1;omega)⟩
theorem qrg (w w2:World) (sv cv:Value) (ws:List Wrt) (z:Int) (g:Nat) (pre:List WE) (x:WE) (a:Act):OwnFrom w2.heap.size (fun(_:Unit) V=>AG w w2 sv cv ws z g pre x a V):=by
 rintro _ X Y row ⟨h1,⟨h2,h3⟩,Bx,h4,h5⟩ hg hr;have kp:=KpC.of_grown hg hr
 exact⟨qg8 w2 z pre X Y row h1 hg hr,⟨kp.rd h2,h3⟩,Bx,kp.2 _ _ h4 rfl,h5⟩
theorem qsg (ws:List Wrt) (B:Nat):OwnFrom B (SW ws):=fun _ _ _ _ h _ _=>h
theorem VK (w:World) (sv cv:Value) (d:Dsk) (z:Int) (h1:zp w sv d.1) (h2:RdC w cv d.2) :
 Calls Tryz.prog 73 #[.agg #[sv,cv],.int .i64 z] w fun e w'=>∃ v',e=.returned (.tuple #[v',.int .i64 (Qk d z).2])/\OwnB w.heap.size w' v' (Qk d z).1/\Below w.heap.size w w':=by
 refine(kB (n:=5)).1 ?_;obtain⟨a1,c1,rfl⟩:=h1.slice;obtain⟨a2,c2,rfl⟩:=h2.slice;obtain⟨W,hW⟩:∃ W,W=(((w.alloc (.cells #[.slice a1 d.1.length c1,.slice a2 d.2.length c2] 43)).alloc (.cells #[.int .i64 z] 3)).alloc (.cells #[.slice none 0 0] 52)).alloc (.cells #[.int .i64 0] 31):=⟨_,rfl⟩;have sW:W.heap.size=w.heap.size+1+1+1+1:=by rw[hW];simp
 have bW:Below w.heap.size w W:=by rw[hW];exact((((xm _ _).alloc (xc _) _).alloc (by simp) _).alloc (by simp<;>omega) _).alloc (by simp<;>omega) _
 have hA:W.heap[w.heap.size]?=some (.cells #[.slice a1 d.1.length c1,.slice a2 d.2.length c2] 43 (0,0)):=by
  rw[hW,xR _ _ _ (by simp<;>omega),xR _ _ _ (by simp<;>omega),xR _ _ _ (by simp)];exact xy w _
 have hB:Boxed W (w.heap.size+1) 3 (.int .i64 z):=by
  show W.heap[_]?=_
  rw[hW,xR _ _ _ (by simp<;>omega),xR _ _ _ (by simp)]
  have:=xy (w.alloc (.cells #[.slice a1 d.1.length c1,.slice a2 d.2.length c2] 43)) (.cells #[.int .i64 z] 3);simpa using this
 have hC:Boxed W (w.heap.size+1+1) 52 (.slice none 0 0):=by
  show W.heap[_]?=_
  rw[hW,xR _ _ _ (by simp)]
  have:=xy ((w.alloc (.cells #[.slice a1 d.1.length c1,.slice a2 d.2.length c2] 43)).alloc (.cells #[.int .i64 z] 3)) (.cells #[.slice none 0 0] 52);simpa using this
 have hD:Boxed W (w.heap.size+1+1+1) 31 (.int .i64 0):=by
  show W.heap[_]?=_
  rw[hW];have:=xy (((w.alloc (.cells #[.slice a1 d.1.length c1,.slice a2 d.2.length c2] 43)).alloc (.cells #[.int .i64 z] 3)).alloc (.cells #[.slice none 0 0] 52)) (.cells #[.int .i64 0] 31);simpa using this
 obtain⟨A0,A1,_,_⟩:=qh hA;have q1:=h1.to0 bW
 have q2:=h2.to0 bW
 have B0:=hB.cell
 refine callsIn_of_wp_marks Tryz.func73 rfl trivial ?_ rfl;simp only[Tryz.ntmps73,Xb,xC,xX,Nat.reduceAdd,Nat.reduceSub,kD,kC,kN,kG,xG,xD]
 gi_wp2_with fail
 rw[<-hW];replace hW:=qa hW;refine⟨trivial,?_⟩;refine(kB.2 (vZ _ _ _ d z q1 q2)).mono ?_;rintro e w1 ⟨rfl,b1⟩;have c1w:=bW.trans (b1.mono bW.size)
 have hA1:=(b1.block w.heap.size (by omega)).trans hA
 have hB1:Boxed w1 (w.heap.size+1) 3 (.int .i64 z):=(b1.block _ (by omega)).trans hB
 have hC1:Boxed w1 (w.heap.size+1+1) 52 (.slice none 0 0):=(b1.block _ (by omega)).trans hC
 have hD1:Boxed w1 (w.heap.size+1+1+1) 31 (.int .i64 0):=(b1.block _ (by omega)).trans hD
 have hs1:w.heap.size+1+1+1+1<=w1.heap.size:=by have:=b1.size;omega
 clear hA hB hC hD A0 A1 B0 q1 q2 b1 bW;by_cases hs0:zX d z=0
 ·obtain⟨hok,hh⟩:=ZC.1 hs0;rw[hs0];obtain⟨A0,A1,_,_⟩:=qh hA1;have KL:=qa (qh1 w1 _ d.2 (h2.to0 c1w))
  gi_wp2_with fail
  refine⟨trivial,?_⟩;refine(kB.2 KL.out).mono ?_;rintro e w2' ⟨rfl,rfl⟩;clear KL;obtain⟨w2,hw2⟩:∃ w2,w2=w1.alloc (.cells #[.slice a2 d.2.length c2] 41):=⟨_,rfl⟩;have b2:Below w1.heap.size w1 w2:=by rw[hw2];exact(xm _ _).alloc (xc _) _
  have s2:w2.heap.size=w1.heap.size+1:=by rw[hw2];simp
  have bs:Boxed w2 w1.heap.size 41 (.slice a2 d.2.length c2):=by rw[hw2];exact Kz w1 _ _
  have c2w:=c1w.trans (b2.mono c1w.size)
  have hA2:=(b2.block w.heap.size (by omega)).trans hA1
  have hB2:Boxed w2 (w.heap.size+1) 3 (.int .i64 z):=(b2.block _ (by omega)).trans hB1
  have hC2:Boxed w2 (w.heap.size+1+1) 52 (.slice none 0 0):=(b2.block _ (by omega)).trans hC1
  have hD2:Boxed w2 (w.heap.size+1+1+1) 31 (.int .i64 0):=(b2.block _ (by omega)).trans hD1
  have r2:=h2.to0 c2w
  have r1:=h1.to0 c2w
  have HX:=qa (xb hA2 (xb hB2 (xb hC2 hD2)))
  have BS:=qa bs
  have R2:=qa r2
  have R1:=qa r1
  have C2:=qa c2w
  have HOK:=qa (xb hok hh)
  obtain⟨kz,x0,hzk,hkl,hkx⟩:=qmw hh
  have hR:Hid (Qk d z=(QF z x0 d.2,0)):=by
   show _=_;unfold Qk;rw[xh (by simp[hs0])]
   rw[hzk,show ((kz:Int)).toNat=kz from by omega,getD_some hkx]
  have HKX:=qa (xb hzk hkx)
  clear hA1 hB1 hC1 hD1 hA2 hB2 hC2 hD2 bs r1 r2 c2w c1w b2 A0 A1 hok hh hs0 hkx h1 h2 hzk
  gi_wp2
  rw[<-hw2];replace hw2:=qa hw2
  refine Je rfl (by decide) (gf:=127) (lb:=#[.pointer (some ⟨w1.heap.size,0,none⟩)]) rfl trivial (enters_of Tryz.func127 (by kernel_rfl) rfl)
   (qbk d.2 _ w2 R2.out w1.heap.size BS.out (5-1)) KpC.trans (fun X l o o' _ h1 h2 _=>KpC.put X l o o' h1 h2) (fun _=>rfl) (IG w2 z) (XG w w2.heap.size d.2 z) (AG w w2 (.slice a1 d.1.length c1) (.slice a2 d.2.length c2) d.2 z w1.heap.size)
   (qg8 w2 z) (qrl w w2 (by omega) d.2 z) (qsg d.2 _) (qrg w w2 _ _ d.2 z _) ⟨xm _ _,fun e he=>by cases he⟩ ?assign ?body ?done ?stop
  case assign =>
   rintro l pre ⟨y,u⟩ W' K hI hRW hK;obtain⟨au,cu,hu⟩:=hRW.1.slice;dsimp only at hu;subst hu
   have hk:=hK (qpw w (.slice a1 d.1.length c1) (.slice a2 d.2.length c2) z w1.heap.size ⟨y,.slice au y.2.length cu⟩ W'.heap.size) (W'.alloc (.cells #[.int .i64 y.1,.slice au y.2.length cu] 113)) ((KeepsOthers.alloc _ _).from _) (KpC.alloc _ _)
    ⟨(qg8 w2 z).alloc _ hI,⟨(KpC.alloc W' _).rd hRW.1,hRW.2⟩,W'.heap.size,xy W' _,rfl⟩
   have HK:=qa hk
   clear hk hK hI hRW;dsimp only[ql2]
   gi_wp2
   exact HK.out
  case body =>
   rintro l pre ⟨y,u⟩ a' W' hl ⟨⟨hBel,hne⟩,⟨hrd,k,hk1,hk2,hk3⟩,Bx,hBx,rfl⟩;obtain⟨au,cu,hu⟩:=hrd.slice;dsimp only at hu;subst hu;obtain⟨x0',x1',_,_⟩:=qh hBx;have zb:Boxed W' (w.heap.size+1) 3 (.int .i64 z):=(hBel.block _ (by omega)).trans HX.out.2.1
   have zc:=zb.cell
   have cb:Boxed W' (w.heap.size+1+1) 52 (.slice none 0 0):=(hBel.block _ (by omega)).trans HX.out.2.2.1
   have db:Boxed W' (w.heap.size+1+1+1) 31 (.int .i64 0):=(hBel.block _ (by omega)).trans HX.out.2.2.2
   dsimp only at hrd hk2 x0' x1';obtain⟨yz,yx⟩:=y;dsimp only at hrd hk2 x0' x1';by_cases he:yz=z
   ·have hbe:(yz == z)=true:=by simp[he]
    have KS:=qa (Zr W' _ yx hrd)
    have HALL:=qa (xb hBel (xb hne (xb hk2 (xb hk3 (xb cb (xb db he))))))
    clear hBel hne hk1 hk2 hk3 cb db zb hrd hBx he;dsimp only[qpw]
    gi_wp2_with fail
    refine⟨trivial,?_⟩;refine(kB.2 KS.out).mono ?_;rintro e w5 ⟨v5,rfl,o5,b5⟩;obtain⟨hBel,hne,hk2,hk3,cb,db,he⟩:=HALL.out;have cb5:Boxed w5 (w.heap.size+1+1) 52 (.slice none 0 0):=(b5.block _ (by have:=hBel.size;omega)).trans cb
    have db5:Boxed w5 (w.heap.size+1+1+1) 31 (.int .i64 0):=(b5.block _ (by have:=hBel.size;omega)).trans db
    have p1:=cb5.cell
    have p2:=cb5.frozen
    have p3:=(db5.other (by omega:w.heap.size+1+1+1≠w.heap.size+1+1) v5).cell
    have p4:=(db5.other (by omega:w.heap.size+1+1+1≠w.heap.size+1+1) v5).frozen
    obtain⟨av,cv5,hv5⟩:=o5.rd.slice
    have hX:Hid (XG w w2.heap.size d.2 z .ret (pre++[⟨(yz,yx),.slice au yx.length cu⟩]) ((w5.setCell ⟨w.heap.size+1+1,0,none⟩ v5).setCell ⟨w.heap.size+1+1+1,0,none⟩ (.int .i64 0))):=by
     refine⟨rfl,pre,_,v5,k,rfl,he,hne,hk2,hk3,?_,?_,?_,?_⟩
     ·exact(cb5.set v5).other (by omega:w.heap.size+1+1≠w.heap.size+1+1+1) _
     ·exact(db5.other (by omega:w.heap.size+1+1+1≠w.heap.size+1+1) v5).set _
     ·exact(Vh (Vh (o5.mono hBel.size) (g:=w.heap.size+1+1) (by omega) 0 v5) (g:=w.heap.size+1+1+1) (by omega) 0 _)
     have cc:=C2.out.trans ((hBel.mono (show w.heap.size<=w2.heap.size by omega)).trans (b5.mono (by have:=hBel.size;omega)))
     exact(cc.setCell (p:=⟨w.heap.size+1+1,0,none⟩) (by show w.heap.size<=w.heap.size+1+1;omega) _).setCell (p:=⟨w.heap.size+1+1+1,0,none⟩) (by show w.heap.size<=w.heap.size+1+1+1;omega) _
    have hKF:Hid (KeepsFrom w2.heap.size W' ((w5.setCell ⟨w.heap.size+1+1,0,none⟩ v5).setCell ⟨w.heap.size+1+1+1,0,none⟩ (.int .i64 0))):=by
     have k1:KeepsOthers W' w5:=⟨b5.size,fun k o h _=>(b5.block k (Xs.1 h).1).trans h⟩
     exact((k1.trans (XV _ _ _)).trans (XV _ _ _)).from _
    clear cb5 db5 o5 b5 hBel hne hk2 hk3 cb db he HALL KS;subst hv5
    gi_wp2
    exact⟨hKF.out,hX.out⟩
   have hbe:(yz == z)=false:=by simpa using he
   have HI:Hid (IG w2 z (pre++[⟨(yz,yx),.slice au yx.length cu⟩]) W'):=⟨hBel,fun e he'=>by
    rcases xu.1 he' with h|h
    ·exact hne e h
    obtain rfl:e=_:=by simpa using h
    exact he⟩
   clear hBel hne hk1 hk2 hk3 cb db zb hrd hBx he;dsimp only[qpw]
   gi_wp2
   exact⟨KeepsFrom.refl _ _,⟨xc _,fun _ _ h _=>h⟩,HI.out⟩
  case done =>
   rintro D xs W' hD hSW ⟨hBel,hne⟩ hK;obtain⟨rfl,hkx⟩:=HKX.out
   have hall:∀ q∈d.2,q.1≠(kz:Int):=by
    intro q hq;have hm:q∈xs.map WE.y:=by rw[hSW];simpa using hq
    obtain⟨e,he,rfl⟩:=Xx.1 hm;exact hne e he
   have hlast:=qkr (x0:=x0) hall
   have hx64:=HOK.out.1.2.2.2.1 x0 (xQ hkx)
   rw[hlast] at hR;obtain⟨b1,o1,u,rfl,hc,hr⟩:=(R1.out.to0 hBel).oct hkx;obtain⟨au,cu,rfl⟩:=hr.slice;have hA':=(hBel.block w.heap.size (by omega)).trans HX.out.1
   obtain⟨A0,A1,_,_⟩:=qh hA';have zb:Boxed W' (w.heap.size+1) 3 (.int .i64 (kz:Int)):=(hBel.block _ (by omega)).trans HX.out.2.1
   have zc:=zb.cell
   have cb:Boxed W' (w.heap.size+1+1) 52 (.slice none 0 0):=(hBel.block _ (by omega)).trans HX.out.2.2.1
   have db:Boxed W' (w.heap.size+1+1+1) 31 (.int .i64 0):=(hBel.block _ (by omega)).trans HX.out.2.2.2
   have KS:=qa (Zr W' _ x0 hr)
   rw[vj hx64] at KS;have hq:(kz:Int)<(d.1.length:Int):=by omega
   have HALL:=qa (xb hBel (xb cb (xb db hK)))
   clear hBel hne hSW cb db hK zb hr hall hlast hx64 hkx hA'
   gi_wp2_with fail
   refine⟨trivial,?_⟩;refine(kB.2 KS.out).mono ?_;rintro e w5 ⟨v5,rfl,o5,b5⟩;obtain⟨hBel,cb,db,hK⟩:=HALL.out;have hDl:D<W'.heap.size:=(Xs.1 hK).1
   have hDw:w.heap.size+1+1+1+1<=D:=by omega
   have hK5:=(b5.block D hDl).trans hK
   have cb5:Boxed w5 (w.heap.size+1+1) 52 (.slice none 0 0):=(b5.block _ (by have:=hBel.size;omega)).trans cb
   have db5:Boxed w5 (w.heap.size+1+1+1) 31 (.int .i64 0):=(b5.block _ (by have:=hBel.size;omega)).trans db
   have p1:=cb5.cell
   have p2:=cb5.frozen
   have p3:=(db5.other (by omega:w.heap.size+1+1+1≠w.heap.size+1+1) v5).cell
   have p4:=(db5.other (by omega:w.heap.size+1+1+1≠w.heap.size+1+1) v5).frozen
   have hK6:((w5.setCell ⟨w.heap.size+1+1,0,none⟩ v5).setCell ⟨w.heap.size+1+1+1,0,none⟩ (.int .i64 0)).heap[D]?=some (.deferred (some [])):=by
    rw[xd _ _ _ _ (by show D≠w.heap.size+1+1+1;omega),xd _ _ _ _ (by show D≠w.heap.size+1+1;omega)];exact hK5
   have e1:Boxed ((w5.setCell ⟨w.heap.size+1+1,0,none⟩ v5).setCell ⟨w.heap.size+1+1+1,0,none⟩ (.int .i64 0)) (w.heap.size+1+1) 52 v5:=(cb5.set v5).other (by omega:w.heap.size+1+1≠w.heap.size+1+1+1) _
   have e2:Boxed ((w5.setCell ⟨w.heap.size+1+1,0,none⟩ v5).setCell ⟨w.heap.size+1+1+1,0,none⟩ (.int .i64 0)) (w.heap.size+1+1+1) 31 (.int .i64 0):=(db5.other (by omega:w.heap.size+1+1+1≠w.heap.size+1+1) v5).set _
   have e3:=Vh (Vh (o5.mono hBel.size) (g:=w.heap.size+1+1) (by omega) 0 v5) (g:=w.heap.size+1+1+1) (by omega) 0 (.int .i64 0)
   have cc:=C2.out.trans ((hBel.mono (show w.heap.size<=w2.heap.size by omega)).trans (b5.mono (by have:=hBel.size;omega)))
   have e4:=(cc.setCell (p:=⟨w.heap.size+1+1,0,none⟩) (by show w.heap.size<=w.heap.size+1+1;omega) v5).setCell (p:=⟨w.heap.size+1+1+1,0,none⟩) (by show w.heap.size<=w.heap.size+1+1+1;omega) (.int .i64 0)
   have FIN:=qa (xb hK6 (xb e1 (xb e2 (xb e3 e4))))
   obtain⟨av,cv5,hv5⟩:=o5.rd.slice;clear hK6 e1 e2 e3 e4 cc cb5 db5 o5 b5 hBel cb db hK hK5 HALL KS;subst hv5
   gi_wp2
   obtain⟨hK6,e1,e2,e3,e4⟩:=FIN.out;have kp:=KpC.put _ D _ (.deferred none) hK6 rfl
   refine⟨by simp,.inl ⟨_,_,rfl,Kt hK6,?_⟩⟩
   refine⟨_,jR rfl _ _ _ _ _ _ _ _ rfl rfl xW Kq rfl rfl (kp.cell e1.cell) (kp.cell e2.cell),?_⟩;rw[hR.out];exact⟨_,rfl,(kp.own e3).mono (by omega),e4.trans ⟨rfl,rfl,rfl,by simp[World.putObj],fun k hk=>XC (by omega)⟩⟩
  case stop =>
  rintro D c pre W' hD ⟨rfl,p0,x,v',k,e1,e2,e3,e4,e5,b1,b2,o,hb⟩ hK
  have hlast:QF z x0 d.2=x.y.2:=qnr e4 e2 (fun q hq=>by
   have hm:q∈p0.map WE.y:=by rw[e5];simpa using hq
   obtain⟨e,he,rfl⟩:=Xx.1 hm;exact e3 e he)
  have hx64:=(HOK.out.1.2.2.2.2 x.y (xQ e4)).2
  rw[vj hx64] at o;rw[hlast] at hR
  gi_wp2
  have kp:=KpC.put _ D _ (.deferred none) hK rfl
  refine⟨by simp,.inl ⟨_,_,rfl,Kt hK,?_⟩⟩
  refine⟨_,jR rfl _ _ _ _ _ _ _ _ rfl rfl xW Kq rfl rfl (kp.cell b1.cell) (kp.cell b2.cell),?_⟩;rw[hR.out];exact⟨_,rfl,(kp.own o).mono (by omega),hb.trans ⟨rfl,rfl,rfl,by simp[World.putObj],fun k hk=>XC (by omega)⟩⟩
 have hne:(zX d z != 0)=true:=by simpa using hs0
 have hR:Hid (Qk d z=([],zX d z)):=by show _=_;unfold Qk;rw[xj hs0]
 generalize hDD:zX d z=D at *;have cc:=hC1.cell
 have cf:=hC1.frozen
 have dc:=hD1.cell
 have df:=hD1.frozen
 have cb5:=(hC1.set (.slice none 0 0)).other (by omega:w.heap.size+1+1≠w.heap.size+1+1+1) (.int .i64 D)
 have db5:=(hD1.other (by omega:w.heap.size+1+1+1≠w.heap.size+1+1) (.slice none 0 0)).set (.int .i64 D)
 have cc5:=(c1w.setCell (p:=⟨w.heap.size+1+1,0,none⟩) (by show w.heap.size<=w.heap.size+1+1;omega) (.slice none 0 0)).setCell (p:=⟨w.heap.size+1+1+1,0,none⟩) (by show w.heap.size<=w.heap.size+1+1+1;omega) (.int .i64 D)
 have HX:=qa (xb cb5 (xb db5 cc5))
 clear hDD hs0 cb5 db5 cc5
 gi_wp2
 refine⟨_,jR rfl _ _ _ _ _ _ _ _ rfl rfl xW Kq rfl rfl HX.out.1.cell HX.out.2.1.cell,?_⟩;rw[hR.out];exact⟨_,rfl,xA _ _ _ _,HX.out.2.2⟩
theorem qg6 {K:Act->World->Prop} {Q:Exit->Act->World->Prop} (n:FuncId) (c:Operand) (xs:Array Operand) (ts:Array TypeId) (lb:Array Value)
 (ho:o.op=.call {callee:=.value c,args:=xs,argTypes:=ts}) (hc:a.eval c=.func (.func n) #[] lb) (vals:Array Value) (hv:xs.map a.eval=vals) (hent:(callFunc n (vals++lb)).run P w=.ok (.enter n (vals++lb)) w) {R:Ending->World->Prop} (hcall:Calls P n (vals++lb) w R)
 (h:∀ e w',R e w'->∃ v,e=.returned v/\K (a.put o.dst v) w'):o.wp P a w K Q:=by
 unfold Oper.wp;simp[execOp,ho,resolve,invoke,hv,hc,Deferred.ofValue];rw[hent,Oper.upon_enter];refine hcall.mono ?_;intro e w' hr;obtain⟨v,rfl,hk⟩:=h e w' hr;exact hk
theorem qc0 {K:Act->World->Prop} {Q:Exit->Act->World->Prop} {E:Prop} (hgd:o.guard=none) (n:FuncId) (c:Operand) (xs:Array Operand) (ts:Array TypeId) (lb:Array Value)
 (ho:o.op=.call {callee:=.value c,args:=xs,argTypes:=ts}) (hc:a.eval c=.func (.func n) #[] lb) (vals:Array Value) (hv:xs.map a.eval=vals) (hent:(callFunc n (vals++lb)).run P w=.ok (.enter n (vals++lb)) w) {R:Ending->World->Prop} (hcall:Calls P n (vals++lb) w R)
 (h:∀ e w',R e w'->∃ v,e=.returned v/\K (a.put o.dst v) w'):if Region.wanted o (yielded ops a.tmps)=true then Oper.wp P o a w K Q else E:=by
 rw[xj (by simp[Region.wanted,hgd])]
 exact qg6 n c xs ts lb ho hc vals hv hent hcall h
theorem qpj {a:Option Addr} {len cap:Nat} (h:Rd w (.slice a len cap) xs) (hn:n<=len):Rd w (.slice a n cap) (xs.take n):=by
 obtain⟨ao,c,e,l1,m1,n1,r1⟩:=h;simp only[xH] at e;obtain⟨rfl,rfl,rfl⟩:=e;have el:(xs.take n).length=n:=by simp;omega
 refine⟨a,cap,by rw[el],by rw[el];omega,m1,n1,?_⟩
 rcases r1 with rfl|⟨b,off,rfl,hc⟩
 ·left;simp
 right
 refine⟨b,off,rfl,fun i hi=>?_⟩;rw[el] at hi;rw[hc i (by omega)]
 simp only[bt]
 congr 3
 simp only[xe,xP];rw[xj hi]
theorem qrf {a:Option Addr} (h:Rd w (.slice a n c) xs):n<=c:=by
 obtain⟨_,_,e,l,_⟩:=h;simp only[xH] at e;omega
theorem OwnF.cacheNil {sv:Value} {ss:List (List UInt8)} (T:Nat) (h:OwnF SSec F w [sv] ss):OwnF (SSec.pair (Shp.list T SWr)) F w [sv,.slice none 0 0] (ss,[]):=by
 have:=OwnF.join (t:=Shp.list T SWr) (F2:=[]) (d:=[.slice none 0 0]) (y:=[]) h ⟨⟨_,[],[],rfl,xA _ _ _ _,⟨rfl,rfl⟩,by simp[Value.ownBlock]⟩,Km⟩ (fun b _ h=>by cases h)
 rw[xK] at this;exact this
theorem qa7 (w:World) (sv cv:Value) (d:Dsk) (fn:Nat) (lb:Array Value) (f:Nat->Nat) (h1:zp w sv d.1) (h2:RdC w cv d.2) (hok:DOk d) (hf:∀ i,f i<=64) (hent:∀ args u,(callFunc fn args).run Tryz.prog u=.ok (.enter fn args) u)
 (hcl:∀ (W:World) (i:Nat),Below w.heap.size w W->Calls Tryz.prog fn (#[.int .i64 (i:Int)]++lb) W fun e w'=>e=.returned (.int .i64 (f i:Nat))/\W=w') :
 Calls Tryz.prog 41 #[.agg #[sv,cv],.func (.func fn) #[] lb] w fun e w'=>∃ sv',e=.returned (.agg #[sv',.slice none 0 0])/\Own Zd w.heap.size w' [sv',.slice none 0 0] (Qx f d.1 d.2 d.2.length,[])/\Below w.heap.size w w':=by
 obtain⟨a1,c1,rfl⟩:=h1.slice;obtain⟨a2,c2,rfl⟩:=h2.slice;obtain⟨W,hW,hA,hZ,bW,sW⟩:=qn6 w (.slice a1 d.1.length c1) (.slice a2 d.2.length c2) 43;obtain⟨A0,A1,_,_⟩:=qh hA;have q1:=h1.to0 bW
 have hlen1:=hok.2.1
 have hlen2:=hok.2.2.1
 obtain⟨pd1,_⟩:=qig hok;have PD:=qa pd1
 have HOK:=qa hok
 have HCL:=qa hcl
 clear pd1 hok hcl;go_enter Tryz.func41,Tryz.ntmps41
 go_wp2_with fail
 rw[<-hW];replace hW:=qa hW;refine(jT _ _ d.1 q1 (by omega)).mono ?_
 rintro e w1 ⟨v1,rfl,o1,b1⟩;rw[PD.out] at o1;obtain⟨F,hF,hFB⟩:=o1.foot;obtain⟨g,hg,rfl⟩:∃ al cl,v1=.slice al d.1.length cl:=o1.rdS.slice;have Z1:=(b1.block (w.heap.size+1) (by omega)).trans hZ
 have A1':=(b1.cell (qe A1)).trans A1
 have c1w:=bW.trans (b1.mono bW.size)
 have HF:=qa (xb hF hFB)
 have ZZ:=qa Z1
 have hw1:w.heap.size+1+1<=w1.heap.size:=by have:=b1.size;omega
 have AA:=qa ((b1.block w.heap.size (by omega)).trans hA)
 clear o1 hF hFB b1 bW hA hZ A0 A1 q1 Z1;go_wp2
 go_loopw [14] (fun i wr=>∃ k:Nat,k<=d.2.length/\i=.int .i64 k/\OwnF SSec F wr [.slice g d.1.length hg] (Qx f d.1 d.2 k)/\Below (w.heap.size+1+1) w1 wr) (fun i _=>d.2.length-(intOf i).toNat)
 case atStart=>exact⟨0,xt _,rfl,HF.out.1,xm _ _⟩
 case round =>
 obtain⟨k,hk,rfl,hF,hb⟩:=hrel;have cw:=c1w.trans (hb.mono (show w.heap.size<=w.heap.size+1+1 by omega))
 by_cases hlt:k<d.2.length
 ·have hqk:(k:Int)<(d.2.length:Int):=by omega
  obtain⟨y,hy,hym⟩:=jh d.2 hlt;obtain⟨b1,o1,u,rfl,hc1,hc2,hr⟩:=(h2.to0 cw).wrt hy;have hyk:=HOK.out.2.2.2.2 y hym
  have hls:=yR (f:=f) (ss:=d.1) hy
  obtain⟨z,x⟩:=y;dsimp only at hc1 hc2 hr hyk hls;obtain⟨kz,rfl⟩:∃ kz:Nat,z=(kz:Int):=⟨z.toNat,by omega⟩
  rw[show ((kz:Int)).toNat=kz from by omega] at hls
  obtain⟨s,hs,hsm⟩:=jh (Qx f d.1 d.2 k) (k:=kz) (by rw[zh];omega)
  rw[getD_some hs] at hls;have hs64:=qab (f:=f) (ws:=d.2) HOK.out.2.2.2.1 k s hsm
  obtain⟨au,cu,rfl⟩:=hr.slice;rw[hyk.2] at hc2 hr;obtain⟨V,hV,V0,V1,bV,sV⟩:=J4 wr (.int .i64 (kz:Int)) (.slice au 64 cu) 113;obtain⟨gs,cap,us,ev,hcap,hcs,hos,hgsF,husF,fin⟩:=(hF.to bV).sector hs;rw[zh] at ev hcap;cases ev
  obtain⟨asx,cs,rfl⟩:=hos.rd.slice;rw[hs64] at hcs hos husF fin;have hrV:=hr.to bV
  have hfk:=hf k
  have KC:=qa (HCL.out V.drew k (cw.trans (bV.mono cw.size)).drew)
  have hsB:OwnB (w.heap.size+1+1) V.drew (.slice asx 64 cs) s:=by
   refine⟨by rw[Xe,kT],?_⟩
   rcases hos.2 with ⟨e,h0⟩|⟨g',cap',cur,e,_,r⟩
   ·exact .inl ⟨e,h0⟩
   refine .inr ⟨g',cap',cur,e,?_,r⟩;rw[hs64] at e;cases e
   have:=HF.out.2 g' (husF g' rfl).1
   omega
  obtain⟨w5,hrun,o5,b5,g5⟩:=yN 3 hsB (qpj (hrV.to (xm _ _).drew) (n:=f k) (by omega))
  have hxl:(x.take (f k)).length=f k:=by rw[xp];omega
  rw[hxl,hs64] at hrun;have hmn:Nat.min (f k) 64=f k:=ke (by omega)
  rw[hmn] at hrun
  have f5:Hid (OwnF SSec F w5 [.slice (some ⟨gs,0,none⟩) d.1.length hg] (Qx f d.1 d.2 (k+1))):=by
   rw[hls];exact fin w5 _ (o5.mono (xt _)) (fun b hb' hne=>g5.block b (by have:=hF.lt b hb';have:=bV.size;show b<V.heap.size;omega) hne)
  have B5:Hid (Below (w.heap.size+1+1) w1 w5):=(hb.trans (bV.mono (by have:=hb.size;omega))).trans ((xm _ _).drew.trans b5)
  have hcap0:f k<=cu:=by have:=qrf hr;omega
  have hq5:(f k:Int)<=(cu:Int):=by omega
  have hq6:(kz:Int)<(d.1.length:Int):=by omega
  have hxr:(x.take (f k)).length=f k:=hxl
  clear hos husF fin hF hr hrV hb cw bV hls hs hsm hy hym hyk hgsF hsB o5 b5 g5 hxl hxr;generalize hfkn:f k=n at *;replace hfkn:=qa hfkn;go_wp2;rw[<-hV];refine qj (fun w'=>w'.cell? ⟨wr.heap.size,0,none⟩=some (.int .i64 (kz:Int))/\w'.cell? ⟨wr.heap.size,1,none⟩=some (.slice au 64 cu)/\w'.cell? ⟨gs,kz,none⟩=some (.slice asx 64 cs)) 9 11 qG (by kernel_rfl) (fun _ _ _ _ h=>h) ⟨V0,V1,hcs⟩ ?_
  replace hV:=qa hV;dsimp only[List.take,List.drop]
  iterate 9
   refine qA (v:=?_) (by rfl) ?_ ?_
   rotate_left
   ·rintro w' ⟨s1,s2,s3⟩;go_simp;try with_reducible rfl
   try simp only[Act.put,qB2]
  refine qM fun K hK=>?_;refine qc0 (by rfl) fn _ _ _ lb (by rfl) (by rfl) #[.int .i64 (k:Int)] (by simp[Act.eval]) (hent _ _) KC.out ?_
  rintro e w' ⟨rfl,rfl⟩;refine⟨_,rfl,hK _ _ ⟨V0,V1,hcs⟩ ?_⟩;clear hK K;try simp only[Act.put,qB2]
  refine qM fun K hK=>?_;rw[xj (by rfl)]
  go_simp;refine hK _ _ ⟨V0,V1,hcs⟩ ?_;clear hK K;show wpList _ _ _ _ _ _
  go_wp2;go_roundw
  case rel=>exact⟨k+1,by omega,by go_num,f5.out,B5.out⟩
  case measure=>simp[intOf];omega
 obtain rfl:k=d.2.length:=by omega
 have Z2:=(hb.block (w.heap.size+1) (by omega)).trans ZZ.out
 obtain⟨y0,y1,y2,y3⟩:=qh Z2;have hgF2:w.heap.size+1 ∉ F:=fun hm=>by have:=HF.out.2 _ hm;omega
 have OO:=qa (((hF.cacheNil 113).set (a:=⟨w.heap.size+1,0,none⟩) hgF2 (.slice g d.1.length hg)).set (a:=⟨w.heap.size+1,1,none⟩) hgF2 (.slice none 0 0))
 have Z3:=qa Z2
 clear hF hb Z2;go_wp2;refine qfq rfl rfl (w.heap.size+1) rfl _ _ _ _ (qR Z3.out _ _) _ Xd rfl Qh ?_;exact⟨_,rfl,OO.out.own (fun b hb=>by have:=HF.out.2 b hb;omega),qF cw (show w.heap.size<=w.heap.size+1 by omega) _ _⟩
theorem qh3 (W:World) (i:Nat):Calls Tryz.prog 42 (#[.int .i64 (i:Int)]++#[]) W fun e w'=>e=.returned (.int .i64 ((64:Nat):Int))/\W=w':=by
 go_enter Tryz.func42,Tryz.ntmps42;go_wp2;go_ret;exact⟨rfl,rfl⟩
theorem Vy (w:World) (sv cv:Value) (d:Dsk) (h1:zp w sv d.1) (h2:RdC w cv d.2) :
 Calls Tryz.prog 11 #[.agg #[sv,cv]] w fun e w'=>∃ sv' cv',e=.returned (.tuple #[.agg #[sv',cv'],.int .i64 (JB d).2])/\Own Zd w.heap.size w' [sv',cv'] (JB d).1/\Below w.heap.size w w':=by
 obtain⟨a1,c1,rfl⟩:=h1.slice;obtain⟨a2,c2,rfl⟩:=h2.slice;obtain⟨W,hW,hA,hZ,bW,sW⟩:=qn6 w (.slice a1 d.1.length c1) (.slice a2 d.2.length c2) 43;replace h1:=h1.to0 bW;replace h2:=h2.to0 bW;obtain⟨A0,A1,_,_⟩:=qh hA;go_enter Tryz.func11,Tryz.ntmps11
 go_wp2_with fail
 rw[<-hW];replace hW:=qa hW;refine(ju _ _ _ d h1 h2).mono ?_;rintro e w1 ⟨rfl,b1⟩;have c1w:=bW.trans (b1.mono bW.size)
 have Z1:=(b1.block (w.heap.size+1) (by omega)).trans hZ
 by_cases hok:DOk d
 ·rw[Zb hok];have hR:Hid (JB d=((Qx (fun _=>64) d.1 d.2 d.2.length,[]),0)):=xj hok
  have A0':=(b1.cell (qe A0)).trans A0
  have A1':=(b1.cell (qe A1)).trans A1
  have KL:=qa (qa7 w1 _ _ d 42 #[] (fun _=>64) (h1.to0 b1) (h2.to0 b1) hok (fun _=>xc _) (enters_of Tryz.func42 (by kernel_rfl) rfl) (fun W i _=>qh3 W i))
  have hs1:w.heap.size+1+1<=w1.heap.size:=by have:=b1.size;omega
  clear h1 h2 A0 A1 hA hok b1 bW
  go_wp2_with fail
  refine KL.out.mono ?_;rintro e w2 ⟨sv',rfl,o2,b2⟩;have Z2:=(b2.block (w.heap.size+1) (by omega)).trans Z1
  obtain⟨y0,y1,y2,y3⟩:=qh Z2;have c2w:=c1w.trans (b2.mono c1w.size)
  obtain⟨F,hF,hFB⟩:=o2.foot;obtain⟨al,cl,ac,cc',rfl,ecv⟩:=qca hF;have OO:=qa ((o2.set (a:=⟨w.heap.size+1,0,none⟩) (by show w.heap.size+1<_;omega) (.slice al (Qx (fun _=>64) d.1 d.2 d.2.length).length cl)).set (a:=⟨w.heap.size+1,1,none⟩) (by show w.heap.size+1<_;omega) (.slice none 0 0))
  rw[zh] at OO;have ZZ:=qa Z2
  have CC:=qa c2w
  clear hF hFB o2 Z2 c2w b2 ecv Z1 c1w hZ KL;rw[zh];go_wp2;refine Qz rfl rfl (w.heap.size+1) rfl _ _ _ _ (qR ZZ.out _ _) _ Xd rfl Qh _ rfl ?_;rw[hR.out];exact⟨_,_,rfl,OO.out.mono (by omega),qF CC.out (show w.heap.size<=w.heap.size+1 by omega) _ _⟩
 rw[zg hok];have hR:Hid (JB d=(([],[]),9)):=xh hok
 obtain⟨y0,y1,y2,y3⟩:=qh Z1;go_wp2;refine Qz rfl rfl (w.heap.size+1) rfl _ _ _ _ (qR Z1 _ _) _ Xd rfl Qh _ rfl ?_;rw[hR.out];exact⟨_,_,rfl,zz _ _ _,qF c1w (show w.heap.size<=w.heap.size+1 by omega) _ _⟩
abbrev qqq (w:World) (v:Value) (keep:List Bool):Prop:=RdS Shp.bool w v keep
theorem RdS.bl {a:Option Addr} {cap:Nat} {ks:List Bool} (h:qqq w (.slice a n cap) ks) {x:Bool} (hx:ks[i]?=some x) :
 ∃ b off,a=some ⟨b,off,none⟩/\w.cell? ⟨b,off+i,none⟩=some (.bool x):=by
 obtain⟨b,off,u,e,hc,e2⟩:=RdS.at1 rfl h hx;have:[u]=[Value.bool x]:=e2
 simp at this;subst this;exact⟨b,off,e,hc⟩
theorem qh2 (W:World) (p:Nat) (kv:Value) (keep:List Bool) (torn cut:Int) (i:Nat) (hk:qqq W kv keep) (c1:W.cell? ⟨p,0,none⟩=some kv) (c2:W.cell? ⟨p+1,0,none⟩=some (.int .i64 torn)) (c3:W.cell? ⟨p+1+1,0,none⟩=some (.int .i64 cut)) :
 Calls Tryz.prog 51 (#[.int .i64 (i:Int)]++#[.pointer (some ⟨p,0,none⟩),.pointer (some ⟨p+1,0,none⟩),.pointer (some ⟨p+1+1,0,none⟩)]) W fun e w'=>e=.returned (.int .i64 (Qv keep torn cut i:Nat))/\W=w':=by
 obtain⟨a,c,rfl⟩:=hk.slice;by_cases hl:keep.length<=i
 ·have hq:(keep.length:Int)<=(i:Int):=by omega
  have hR:Hid (Qv keep torn cut i=0):=by show _=_;unfold Qv;rw[XA hl];rfl
  go_enter Tryz.func51,Tryz.ntmps51;go_wp2;go_ret;rw[hR.out];exact⟨rfl,rfl⟩
 have hq:(i:Int)<(keep.length:Int):=by omega
 have hq':¬ (keep.length:Int)<=(i:Int):=by omega
 obtain⟨x,hx,_⟩:=jh keep (k:=i) (by omega)
 obtain⟨b,off,rfl,hc⟩:=hk.bl hx;clear hl;cases x with
 | false =>
  have hR:Hid (Qv keep torn cut i=0):=by show _=_;unfold Qv;rw[hx];rfl
  clear hx hk;go_enter Tryz.func51,Tryz.ntmps51;go_wp2;go_ret;rw[hR.out];exact⟨rfl,rfl⟩
 | true =>
  by_cases ht:(i:Int)=torn
  ·have hR:Hid (((Qv keep torn cut i:Nat):Int)=min (max cut 0) 64):=by
    show _=_;unfold Qv qh9;rw[hx,xj rfl,xj ht];omega
   have hbe:((i:Int) == torn)=true:=by simp[ht]
   clear hx hk ht;go_enter Tryz.func51,Tryz.ntmps51;go_wp2
   all_goals
    go_ret;refine⟨qo ?_,rfl⟩;rw[hR.out]<;>omega
  have hR:Hid (Qv keep torn cut i=64):=by show _=_;unfold Qv;rw[hx,xj rfl,xh ht]
  have hbe:((i:Int) == torn)=false:=by simpa using ht
  clear hx hk ht;go_enter Tryz.func51,Tryz.ntmps51;go_wp2;go_ret;rw[hR.out];exact⟨rfl,rfl⟩
theorem qg3 (w:World) (sv cv kv:Value) (d:Dsk) (keep:List Bool) (torn cut:Int) (h1:zp w sv d.1) (h2:RdC w cv d.2) (hk:qqq w kv keep) :
 Calls Tryz.prog 15 #[.agg #[sv,cv],kv,.int .i64 torn,.int .i64 cut] w fun e w'=>∃ sv' cv',e=.returned (.tuple #[.agg #[sv',cv'],.int .i64 (yS d keep torn cut).2])/\Own Zd w.heap.size w' [sv',cv'] (yS d keep torn cut).1/\Below w.heap.size w w':=by
 obtain⟨a1,c1,rfl⟩:=h1.slice;obtain⟨a2,c2,rfl⟩:=h2.slice;obtain⟨a3,c3,rfl⟩:=hk.slice;obtain⟨W,hW⟩:∃ W,W=((((w.alloc (.cells #[.slice a1 d.1.length c1,.slice a2 d.2.length c2] 43)).alloc (.cells #[.slice a3 keep.length c3] 23)).alloc (.cells #[.int .i64 torn] 3)).alloc (.cells #[.int .i64 cut] 3)).alloc (.cells #[.slice none 0 0,.slice none 0 0] 43):=⟨_,rfl⟩;have sW:W.heap.size=w.heap.size+1+1+1+1+1:=by rw[hW];simp
 have bW:Below w.heap.size w W:=by rw[hW];exact(((((xm _ _).alloc (xc _) _).alloc (by simp) _).alloc (by simp<;>omega) _).alloc (by simp<;>omega) _).alloc (by simp<;>omega) _
 have hA:W.heap[w.heap.size]?=some (.cells #[.slice a1 d.1.length c1,.slice a2 d.2.length c2] 43 (0,0)):=by
  rw[hW,xR _ _ _ (by simp<;>omega),xR _ _ _ (by simp<;>omega),xR _ _ _ (by simp<;>omega),xR _ _ _ (by simp)];exact xy w _
 have hB:W.heap[w.heap.size+1]?=some (.cells #[.slice a3 keep.length c3] 23 (0,0)):=by
  rw[hW,xR _ _ _ (by simp<;>omega),xR _ _ _ (by simp<;>omega),xR _ _ _ (by simp)]
  have:=xy (w.alloc (.cells #[.slice a1 d.1.length c1,.slice a2 d.2.length c2] 43)) (.cells #[.slice a3 keep.length c3] 23);simpa using this
 have hC:W.heap[w.heap.size+1+1]?=some (.cells #[.int .i64 torn] 3 (0,0)):=by
  rw[hW,xR _ _ _ (by simp<;>omega),xR _ _ _ (by simp)]
  have:=xy ((w.alloc (.cells #[.slice a1 d.1.length c1,.slice a2 d.2.length c2] 43)).alloc (.cells #[.slice a3 keep.length c3] 23)) (.cells #[.int .i64 torn] 3);simpa using this
 have hD:W.heap[w.heap.size+1+1+1]?=some (.cells #[.int .i64 cut] 3 (0,0)):=by
  rw[hW,xR _ _ _ (by simp)]
  have:=xy (((w.alloc (.cells #[.slice a1 d.1.length c1,.slice a2 d.2.length c2] 43)).alloc (.cells #[.slice a3 keep.length c3] 23)).alloc (.cells #[.int .i64 torn] 3)) (.cells #[.int .i64 cut] 3);simpa using this
 have hZ:W.heap[w.heap.size+1+1+1+1]?=some (.cells #[.slice none 0 0,.slice none 0 0] 43 (0,0)):=by
  rw[hW];have:=xy ((((w.alloc (.cells #[.slice a1 d.1.length c1,.slice a2 d.2.length c2] 43)).alloc (.cells #[.slice a3 keep.length c3] 23)).alloc (.cells #[.int .i64 torn] 3)).alloc (.cells #[.int .i64 cut] 3)) (.cells #[.slice none 0 0,.slice none 0 0] 43);simpa using this
 replace h1:=h1.to0 bW;replace h2:=h2.to0 bW;replace hk:=hk.to0 bW;obtain⟨A0,A1,_,_⟩:=qh hA;have HX:=qa (xb hB (xb hC hD))
 clear hB hC hD;go_enter Tryz.func15,Tryz.ntmps15
 go_wp2_with fail
 rw[<-hW];replace hW:=qa hW;refine(ju _ _ _ d h1 h2).mono ?_;rintro e w1 ⟨rfl,b1⟩;have c1w:=bW.trans (b1.mono bW.size)
 have Z1:=(b1.block (w.heap.size+1+1+1+1) (by omega)).trans hZ
 by_cases hok:DOk d
 ·rw[Zb hok];have hR:Hid (yS d keep torn cut=((Qx (Qv keep torn cut) d.1 d.2 d.2.length,[]),0)):=xj hok
  have A0':=(b1.cell (qe A0)).trans A0
  have A1':=(b1.cell (qe A1)).trans A1
  have hs1:w.heap.size+1+1+1+1+1<=w1.heap.size:=by have:=b1.size;omega
  have k1:=hk.to0 b1
  have e1:=(b1.block (w.heap.size+1) (by omega)).trans HX.out.1
  have e2:=(b1.block (w.heap.size+1+1) (by omega)).trans HX.out.2.1
  have e3:=(b1.block (w.heap.size+1+1+1) (by omega)).trans HX.out.2.2
  have KL:=qa (qa7 w1 _ _ d 51 #[.pointer (some ⟨w.heap.size+1,0,none⟩),.pointer (some ⟨w.heap.size+1+1,0,none⟩),.pointer (some ⟨w.heap.size+1+1+1,0,none⟩)] (Qv keep torn cut) (h1.to0 b1) (h2.to0 b1) hok (qkj keep torn cut) (enters_of Tryz.func51 (by kernel_rfl) rfl)
   (fun V i hV=>qh2 V (w.heap.size+1) _ keep torn cut i (k1.to0 hV) (by rw[Xi _ _ 0 _ _ (0,0) ((hV.block _ (by omega)).trans e1)];rfl) (by rw[Xi _ _ 0 _ _ (0,0) ((hV.block _ (by omega)).trans e2)];rfl) (by rw[Xi _ _ 0 _ _ (0,0) ((hV.block _ (by omega)).trans e3)];rfl)))
  clear h1 h2 A0 A1 hA hok b1 bW hk k1 e1 e2 e3 HX
  go_wp2_with fail
  refine KL.out.mono ?_;rintro e w2 ⟨sv',rfl,o2,b2⟩;have Z2:=(b2.block (w.heap.size+1+1+1+1) (by omega)).trans Z1
  obtain⟨y0,y1,y2,y3⟩:=qh Z2;have c2w:=c1w.trans (b2.mono c1w.size)
  obtain⟨F,hF,hFB⟩:=o2.foot;obtain⟨al,cl,ac,cc',rfl,ecv⟩:=qca hF;have OO:=qa ((o2.set (a:=⟨w.heap.size+1+1+1+1,0,none⟩) (by show w.heap.size+1+1+1+1<_;omega) (.slice al (Qx (Qv keep torn cut) d.1 d.2 d.2.length).length cl)).set (a:=⟨w.heap.size+1+1+1+1,1,none⟩) (by show w.heap.size+1+1+1+1<_;omega) (.slice none 0 0))
  rw[zh] at OO;have ZZ:=qa Z2
  have CC:=qa c2w
  clear hF hFB o2 Z2 c2w b2 ecv Z1 c1w hZ KL;rw[zh];go_wp2;refine Qz rfl rfl (w.heap.size+1+1+1+1) rfl _ _ _ _ (qR ZZ.out _ _) _ Xd rfl Qh _ rfl ?_;rw[hR.out];exact⟨_,_,rfl,OO.out.mono (by omega),qF CC.out (show w.heap.size<=w.heap.size+1+1+1+1 by omega) _ _⟩
 rw[zg hok];have hR:Hid (yS d keep torn cut=(([],[]),9)):=xh hok
 obtain⟨y0,y1,y2,y3⟩:=qh Z1;go_wp2;refine Qz rfl rfl (w.heap.size+1+1+1+1) rfl _ _ _ _ (qR Z1 _ _) _ Xd rfl Qh _ rfl ?_;rw[hR.out];exact⟨_,_,rfl,zz _ _ _,qF c1w (show w.heap.size<=w.heap.size+1+1+1+1 by omega) _ _⟩
theorem qec (n:Nat):(List.replicate n ([]:List UInt8)).map pad=List.replicate n (List.replicate 64 0):=by
 rw[List.map_replicate,qpu]
theorem qd8 (w:World) (n:Int) :
 Calls Tryz.prog 9 #[.int .i64 n] w fun e w'=>∃ sv' cv',e=.returned (.tuple #[.agg #[sv',cv'],.int .i64 (qbl n).2])/\Own Zd w.heap.size w' [sv',cv'] (qbl n).1/\Below w.heap.size w w':=by
 obtain⟨W,hW⟩:∃ W,W=w.alloc (.cells #[.slice none 0 0,.slice none 0 0] 43):=⟨_,rfl⟩;have hZ:W.heap[w.heap.size]?=some (.cells #[.slice none 0 0,.slice none 0 0] 43 (0,0)):=by rw[hW];exact xy w _
 have bW:Below w.heap.size w W:=by rw[hW];exact(xm _ _).alloc (xc _) _
 have sW:W.heap.size=w.heap.size+1:=by rw[hW];simp
 by_cases hl:n<1
 ·have hR:Hid (qbl n=(([],[]),4)):=xj (.inl hl)
  obtain⟨y0,y1,y2,y3⟩:=qh hZ;rw[hW] at y0 y1 y2 y3;go_enter Tryz.func9,Tryz.ntmps9;go_wp2;rw[<-hW];refine Qz rfl rfl w.heap.size rfl _ _ _ _ hZ _ Xd rfl Qh _ rfl ?_;rw[hR.out];exact⟨_,_,rfl,zz _ _ _,bW⟩
 by_cases hg:1024<n
 ·have hR:Hid (qbl n=(([],[]),4)):=xj (.inr hg)
  obtain⟨y0,y1,y2,y3⟩:=qh hZ;rw[hW] at y0 y1 y2 y3;go_enter Tryz.func9,Tryz.ntmps9;go_wp2;rw[<-hW];refine Qz rfl rfl w.heap.size rfl _ _ _ _ hZ _ Xd rfl Qh _ rfl ?_;rw[hR.out];exact⟨_,_,rfl,zz _ _ _,bW⟩
 obtain⟨m,rfl⟩:∃ m:Nat,n=(m:Int):=⟨n.toNat,by omega⟩
 have hR:Hid (qbl m=((List.replicate m (List.replicate 64 0),[]),0)):=by
  show _=_;unfold qbl;rw[xh (by omega),show ((m:Int)).toNat=m from by omega]
 have hmk:=fun u=>Vu (n:=m) (by omega) u
 have ol:=qbq W m (by omega)
 obtain⟨X,hX⟩:∃ X,X=W.alloc (.cells (madeCells #[.slice none 0 0] m) 52):=⟨_,rfl⟩;rw[<-hX,sW] at ol;have bX:Below W.heap.size W X:=by rw[hX];exact(xm _ _).alloc (xc _) _
 rw[hW] at hX;have KS:=qa (jT X _ (List.replicate m []) ol.rdS (by simp<;>omega))
 rw[qec] at KS;have Z1:=(bX.block w.heap.size (by omega)).trans hZ
 have c1:=bW.trans (bX.mono bW.size)
 have hsX:w.heap.size+1<=X.heap.size:=by have:=bX.size;omega
 have hl':¬ ((m:Int)<1):=hl
 clear ol bX bW hZ;go_enter Tryz.func9,Tryz.ntmps9
 go_wp2_with fail
 rw[<-hX];replace hX:=qa hX;replace hW:=qa hW;refine KS.out.mono ?_;rintro e w2 ⟨sv',rfl,o2,b2⟩;have Z2:=(b2.block w.heap.size (by omega)).trans Z1
 obtain⟨y0,y1,y2,y3⟩:=qh Z2;have c2:=c1.trans (b2.mono c1.size)
 obtain⟨F,hF,hFB⟩:=o2.foot;obtain⟨al,cl,hv⟩:=o2.rdS.slice;rw[ki] at hv;subst hv;have nF:w.heap.size ∉ F:=fun hm=>by have:=hFB _ hm;omega
 have OO:=qa ((((hF.cacheNil 113).set (a:=⟨w.heap.size,0,none⟩) nF (.slice al m cl)).set (a:=⟨w.heap.size,1,none⟩) nF (.slice none 0 0)).own (B:=w.heap.size) (fun b hb=>by have:=hFB b hb;omega))
 have ZZ:=qa Z2
 have CC:=qa c2
 clear hF hFB o2 Z2 c2 b2 Z1 c1 KS hmk;go_wp2;refine Qz rfl rfl w.heap.size rfl _ _ _ _ (qR ZZ.out _ _) _ Xd rfl Qh _ rfl ?_;rw[hR.out];exact⟨_,_,rfl,OO.out,qF CC.out (xc _) _ _⟩
end Go.Proofs.YtfjadfnjmpefkaaGreat
