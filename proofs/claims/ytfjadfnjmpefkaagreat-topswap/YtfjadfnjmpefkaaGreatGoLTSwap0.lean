/- What TopSwap rests on. -/
import Derived.WalkKit
import Derived.Deep.QuietTactic
import Derived.BigQuiet
import Derived.Laws.AppendOwnNone
import Derived.Test.YtfjadfnjmpefkaaGreatChecked
import Derived.RangeFuncNested
import Derived.RangeFuncBound
import Derived.RangeFuncCalls
import Derived.RangeFuncLeaves
import Derived.Shelf.Abstract
import Derived.Shelf.RegionOpen
import Derived.OwnWalkIn
import Derived.TacticsInMore
import Derived.LoopNIn
import Derived.LoopIn
import Derived.RangeFuncBox
import Derived.BigRegionIn
set_option maxRecDepth 100000
set_option maxHeartbeats 4000000
set_option linter.unusedVariables false
set_option linter.unusedSimpArgs false
namespace Go.Proofs.YtfjadfnjmpefkaaGreat
theorem ub:type_of% @Go.Oper.semAt_some:=@Go.Oper.semAt_some
theorem Kz:type_of% @Go.Boxed.new:=@Go.Boxed.new
theorem Ku:type_of% @Go.World.size_alloc:=@Go.World.size_alloc
theorem Kt:type_of% @Go.run_takeDeferred:=@Go.run_takeDeferred
theorem Kj:type_of% @Int.le_refl:=@Int.le_refl
theorem Ki:type_of% @Go.IntKind.wrap_u64:=@Go.IntKind.wrap_u64
theorem kO:type_of% @Go.wpList_append_own:=@Go.wpList_append_own
theorem kN.{u}:type_of% @List.push_toArray.{u}:=@List.push_toArray
theorem kG.{u}:type_of% @List.append_toArray.{u}:=@List.append_toArray
theorem kD.{u}:type_of% @Array.replicate_succ.{u}:=@Array.replicate_succ
theorem kC.{u}:type_of% @Array.replicate_zero.{u}:=@Array.replicate_zero
theorem kB:type_of% @Go.callsIn_wide:=@Go.callsIn_wide
theorem km:type_of% @Nat.pow_le_pow_right:=@Nat.pow_le_pow_right
theorem ki.{u}:type_of% @List.length_replicate.{u}:=@List.length_replicate
theorem XV:type_of% @Go.KeepsOthers.setCell:=@Go.KeepsOthers.setCell
theorem XC:type_of% @Go.World.putObj_heap_other:=@Go.World.putObj_heap_other
theorem Xx.{u,v}:type_of% @List.mem_map.{u,v}:=@List.mem_map
theorem Xp:type_of% @Go.results_none:=@Go.results_none
theorem Xk:type_of% @Go.bodyPost_ret:=@Go.bodyPost_ret
theorem Xi:type_of% @Go.cell_of_row:=@Go.cell_of_row
theorem Xh:type_of% @Go.info_parts:=@Go.info_parts
theorem Xe.{u,v}:type_of% @List.length_map.{u,v}:=@List.length_map
theorem Xb.{u}:type_of% @List.size_toArray.{u}:=@List.size_toArray
theorem xZ:type_of% @Nat.le_of_lt:=@Nat.le_of_lt
theorem xX.{u}:type_of% @List.length_nil.{u}:=@List.length_nil
theorem xW:type_of% @Go.Proofs.Tryz.underlying52:=@Go.Proofs.Tryz.underlying52
theorem xV:type_of% @Nat.lt_of_lt_of_le:=@Nat.lt_of_lt_of_le
theorem xP.{u}:type_of% @List.getElem?_take.{u}:=@List.getElem?_take
theorem xG.{u}:type_of% @List.nil_append.{u}:=@List.nil_append
theorem xD.{u}:type_of% @List.cons_append.{u}:=@List.cons_append
theorem xC.{u}:type_of% @List.length_cons.{u}:=@List.length_cons
theorem xA:type_of% @Go.World.ownsRow_nil:=@Go.World.ownsRow_nil
theorem xt:type_of% @Nat.zero_le:=@Nat.zero_le
theorem xq.{u}:type_of% @List.eq_nil_of_length_eq_zero.{u}:=@List.eq_nil_of_length_eq_zero
theorem xn.{u}:type_of% @List.getElem?_eq_some_iff.{u}:=@List.getElem?_eq_some_iff
theorem xm:type_of% @Go.RowKit.Below.refl:=@Go.RowKit.Below.refl
theorem xj.{u}:type_of% @if_pos.{u}:=@if_pos
theorem xh.{u}:type_of% @if_neg.{u}:=@if_neg
theorem xg.{u}:type_of% @List.getElem?_eq_getElem.{u}:=@List.getElem?_eq_getElem
theorem xd:type_of% @Go.RowKit.Below.heap_setCell:=@Go.RowKit.Below.heap_setCell
theorem xc:type_of% @Nat.le_refl:=@Nat.le_refl
theorem xa:type_of% @Go.lt_of_block:=@Go.lt_of_block
variable {xs:List UInt8} {B Bs C b k n off s:Nat} {v:Value} {A W w w':World}
open Go.RowKit
theorem qa {p:Prop} (h:p):Hid p:=h
def bt (xs:List UInt8) (i:Nat):Int:=((xs.getD i 0).toNat:Int)
theorem qoh (xs:List UInt8) (i:Nat):0<=bt xs i/\bt xs i<=255:=by
 unfold bt;have:=(xs.getD i 0).toNat_lt;omega
def Rd (w:World) (v:Value) (xs:List UInt8):Prop :=
 ∃ ao cap,v=.slice ao xs.length cap/\xs.length<=cap/\cap<=maxLen/\(ao=none->cap=0)/\
  (xs=[]\/∃ b off,ao=some ⟨b,off,none⟩/\∀ i,i<xs.length->w.cell? ⟨b,off+i,none⟩=some (.int .u8 (bt xs i)))
theorem qe (h:w.cell? ⟨b,off,none⟩=some v):b<w.heap.size:=by
 by_cases hb:b<w.heap.size
 ·exact hb
 have e:w.heap[b]?=none:=by simp;omega
 simp[World.cell?,e] at h
theorem Rd.below (h:Rd w v xs) (hB:w.heap.size<=B) (hb:Below B w w'):Rd w' v xs:=by
 obtain⟨ao,cap,rfl,h1,h2,h3,h4⟩:=h;refine⟨ao,cap,rfl,h1,h2,h3,?_⟩;rcases h4 with h4|⟨b,off,rfl,hc⟩
 ·exact .inl h4
 refine .inr ⟨b,off,rfl,fun i hi=>?_⟩;have:=hc i hi
 rw[hb.cell (p:=⟨b,off+i,none⟩) (by have:=qe this;show b<B;omega)]
 exact this
theorem Rd.to (h:Rd w v xs) (hb:Below w.heap.size w w'):Rd w' v xs:=h.below (xc _) hb
theorem Rd.drewN (h:Rd w v xs) (n:Nat):Rd (w.drewN n) v xs:=by
 obtain⟨ao,cap,rfl,h1,h2,h3,h4⟩:=h;exact⟨ao,cap,rfl,h1,h2,h3,h4⟩
theorem qg (w:World) (n:Nat) (B:Nat):Below B w (w.drewN n):=⟨rfl,rfl,rfl,xc _,fun _ _=>rfl⟩
theorem Rd.slice (h:Rd w v xs):∃ ao cap,v=.slice ao xs.length cap:=by
 obtain⟨ao,cap,rfl,_⟩:=h;exact⟨_,_,rfl⟩
def vM (xs ys:List UInt8):Bool:=decide (xs=ys)
theorem Yc {ys:List UInt8} (h:xs=ys):vM xs ys=true:=by simp[vM,h]
theorem QV {a b:Bool} (h:a=b):Ending.returned (.bool a)=.returned (.bool b):=by rw[h]
theorem qo {k:IntKind} {a b:Int} (h:a=b):Ending.returned (.int k a)=.returned (.int k b):=by rw[h]
def enc (x:UInt8):Value:=.int .u8 x.toNat
def OwnB (B:Nat) (w:World) (v:Value) (xs:List UInt8):Prop:=w.ownsRow B 5 1 v xs.length (xs.map enc)
theorem OwnB.rd (h:OwnB B w v xs):Rd w v xs:=by
 rcases h with ⟨_,⟨rfl,h0⟩|⟨g,cap,cur,rfl,hb,hg,hn,hm,hs,ht⟩⟩
 ·have:xs=[]:=xq h0
  subst this;exact⟨none,0,rfl,xc _,xt _,fun _=>rfl,.inl rfl⟩
 refine⟨_,cap,rfl,hn,hm,(fun h=>by cases h),.inr ⟨g,0,rfl,fun i hi=>?_⟩⟩
 rw[Xi w g (0+i) cur _ (0,0) hg]
 have e:cur[0+i]?=(cur.toList.take (xs.length*1))[i]?:=by
  rw[xP,xj (by omega)];simp
 rw[e,ht];simp[enc,bt,hi]
theorem OwnB.below (h:OwnB B w v xs) (hC:w.heap.size<=C) (hb:Below C w w'):OwnB B w' v xs:=by
 rcases h with ⟨h1,h2|⟨g,cap,cur,hv,hB,hg,hr⟩⟩
 ·exact⟨h1,.inl h2⟩
 refine⟨h1,.inr ⟨g,cap,cur,hv,hB,?_,hr⟩⟩;rw[hb.block g (by have:=xa hg;omega)];exact hg
theorem OwnB.mono (h:OwnB B w v xs) (hC:C<=B):OwnB C w v xs:=by
 rcases h with ⟨h1,h2|⟨g,cap,cur,hv,hB,hr⟩⟩
 ·exact⟨h1,.inl h2⟩
 exact⟨h1,.inr ⟨g,cap,cur,hv,by omega,hr⟩⟩
theorem YD:(Tryz.prog.info? 5).map (fun i=>(i.zero,i.size,i.bytes))=some (some (.int .u8 0),1,1):=by kernel_rfl
theorem YY (hn:n<=281474976710656) (u:World):(Instr.makeSlice 52 (.int .i64 (n:Int)) (.int .i64 (n:Int))).run Tryz.prog u =
      .ok (.slice (some ⟨u.heap.size,0,none⟩) n n) (u.alloc (.cells (madeCells #[.int .u8 0] n) 5)):=by
 obtain⟨i0,hi,hz0,hz1,hz2⟩:=Xh YD;have h:=run_make (P:=Tryz.prog) u 52 5 i0 (.int .u8 0) xW hi hz0 .i64 .i64 (n:Int) (n:Int) (by omega) (Kj _) (by rw[hz2];omega) (by omega)
 simpa[hz1,Value.cells] using h
theorem qaw (w:World) (n:Nat) (h:n<=maxLen):OwnB w.heap.size (w.alloc (.cells (madeCells #[.int .u8 0] n) 5)) (.slice (some ⟨w.heap.size,0,none⟩) n n) (List.replicate n 0):=by
 have:=World.ownsRow_lit (base:=w.heap.size) (e:=5) (size:=1) w (madeCells #[.int .u8 0] n) n (xc _) h (by simp[madeCells])
 rw[toList_madeCells_one] at this;unfold OwnB;rw[ki,List.map_replicate];exact this
theorem Y9 (hc:∀ i,i<xs.length->w.cell? ⟨b,off+i,none⟩=some (.int .u8 (bt xs i))) :
 ∀ j u,(xs.map enc)[j]?=some u->w.cell? ((⟨b,off,none⟩:Addr).add j)=some u:=by
 intro j u hj
 have hj':j<xs.length:=by
  have:=(xn.1 hj).1
  simpa using this
 have ea:(⟨b,off,none⟩:Addr).add j=⟨b,off+j,none⟩:=by
  by_cases h0:j=0
  ·subst h0;simp[Addr.add]
  simp[Addr.add,h0]
 rw[ea,hc j hj',<-hj];simp[bt,enc,hj']
theorem qc6 (xs:List UInt8):∀ u∈xs.map enc,u.oneCell'=true:=by
 intro u hu;obtain⟨x,_,rfl⟩:=Xx.1 hu;rfl
theorem qmo (w:World) (v:Value) (xs:List UInt8) (h:Rd w v xs) (hm:xs.length<=140737488355328) :
 Calls Tryz.prog 57 #[v] w fun e w'=>∃ v',e=.returned v'/\OwnB w.heap.size w' v' xs/\Below w.heap.size w w':=by
 obtain⟨a,c,rfl,l1,m1,n1,r1⟩:=h;obtain⟨i0,hi,hz0,hz1,hz2⟩:=Xh YD;cases a with
 | none =>
  have:xs=[]:=by
   rcases r1 with r1|⟨b,off,h,_⟩
   ·exact r1
   cases h
  subst this;obtain rfl:c=0:=n1 rfl;go_enter Tryz.func57,Tryz.ntmps57
  go_wp2_with (at_builtin;refine wpList_append_own_none rfl _ _ 52 rfl w.heap.size 5 i0 1 xW hi (.slice none 0 0) 0 [] rfl (xA _ _ _ _) rfl ?_)
  go_ret;exact⟨_,rfl,xA _ _ _ _,xm _ _⟩
 | some ad =>
  have n1:(xs.map enc).length=xs.length*1:=by simp
  have n2:∀ j u,(xs.map enc)[j]?=some u->w.cell? (ad.add j)=some u:=by
   rcases r1 with rfl|⟨b,off,h,hc⟩
   ·intro j u hj;simp at hj
   obtain rfl:ad=⟨b,off,none⟩:=by simpa using h
   exact Y9 hc
  have n3:=qc6 xs
  have n4:0+xs.length<=maxLen:=by rw[show maxLen=9223372036854775807 from rfl];omega
  have n5:(0+xs.length)*1<=140737488355328:=by omega
  have N2:=qa n2
  clear n2 r1;go_enter Tryz.func57,Tryz.ntmps57
  go_wp2_with (at_builtin;refine kO _ rfl _ _ 52 rfl w.heap.size 5 i0 (.int .u8 0) 1 1 xW hi hz0 hz1 hz2 rfl (by decide) (.slice none 0 0) 0 [] rfl (xA _ _ _ _) ad xs.length c (xs.map enc) rfl n1 N2.out n3 n4 n5 (xc _) ?_;intro v1 w3 hown1 hgrow1 hnil1)
  go_ret;refine⟨_,rfl,?_,(xm _ _).grown hgrow1 (xc _) (fun k h=>by cases h)⟩
  unfold OwnB
  simpa using hown1
theorem qcw (w:World) (xs:List UInt8) (h:xs.length<=1000):OwnB w.heap.size (w.alloc (.cells (xs.map enc).toArray 5)) (.slice (some ⟨w.heap.size,0,none⟩) xs.length xs.length) xs:=by
 have:=World.ownsRow_lit (base:=w.heap.size) (e:=5) (size:=1) w (xs.map enc).toArray xs.length (xc _) (by unfold maxLen;omega) (by simp)
 simpa[OwnB] using this
theorem qlq (w:World) (xs:List UInt8) (cs:Array Value) (b n:Nat) (hcs:cs=(xs.map enc).toArray) (hb:b=w.heap.size) (hn:n=xs.length) (h:xs.length<=1000) :
 Rd (w.alloc (.cells cs 5)) (.slice (some ⟨b,0,none⟩) n n) xs:=by
 subst hcs hb hn;exact(qcw w xs h).rd
def ob (n k:Nat):UInt8:=UInt8.ofNat (n/2^(8*k))
def oc (n s:Nat):List UInt8:=(List.range s).map fun j=>ob n (s-1-j)
theorem qv (n s:Nat):(oc n s).length=s:=by simp[oc]
theorem qr3 (n k:Nat):enc (ob n k)=.int .u8 ((n:Int)/2^(8*k)%256):=by
 unfold enc ob
 congr 1
def zP (xs:List UInt8):Nat->Nat
 | 0=>0
 | k+1=>zP xs k*256+(xs.getD k 0).toNat
def Qg (xs:List UInt8):Nat:=zP xs xs.length
theorem YI (xs:List UInt8) (k:Nat):zP xs k<2^(8*k):=by
 induction k with
 | zero=>simp[zP]
 | succ k ih =>
  have:=(xs.getD k 0).toNat_lt
  simp only[zP];rw[show 8*(k+1)=8*k+8 from by omega,Nat.pow_add]
  omega
theorem qmv (n k:Nat):(ob n k).toNat=n/2^(8*k)%256:=by
 unfold ob;rw[UInt8.toNat_ofNat']
theorem qo9 (n s k:Nat) (hk:k<=s) (hn:n<2^(8*s)):zP (oc n s) k=n/2^(8*(s-k)):=by
 induction k with
 | zero=>simp[zP,Nat.div_eq_of_lt hn]
 | succ k ih =>
  simp only[zP];rw[ih (by omega)]
  have e:(oc n s).getD k 0=ob n (s-1-k):=by simp[oc,show k<s from by omega]
  rw[e,qmv,show s-1-k=s-(k+1) from by omega,show s-k=(s-(k+1))+1 from by omega,show 8*(s-(k+1)+1)=8*(s-(k+1))+8 from by omega,Nat.pow_add,<-Nat.div_div_eq_div_mul]
  omega
theorem jz (n s:Nat) (hn:n<2^(8*s)):Qg (oc n s)=n:=by
 unfold Qg;rw[qv,qo9 n s s (xc _) hn];simp
open Go.RowKit Go.Shelf
attribute [local go_sem] ub
abbrev Pl (size:Nat):Type:={k:Nat // k<size}
def qai (size:Nat) (x:Pl size):Array Value:=#[.int .i64 (x.1:Int),.int .i64 (8*((size:Int)-1-(x.1:Int)))]
def jZ (size k:Nat) (h:k<=size):List (Pl size):=(List.finRange k).map fun i=>⟨i.1,xV i.2 h⟩
theorem qfd (size k:Nat) (h:k<=size):(jZ size k h).length=k:=by simp[jZ]
theorem qcg (size k:Nat) (h:k<size):jZ size (k+1) h=jZ size k (xZ h)++[⟨k,h⟩]:=by
 apply List.ext_getElem
 ·simp[jZ]
 intro i h1 h2;simp only[jZ,Xe,List.length_finRange] at h1;by_cases hk:i<k
 ·rw[List.getElem_append_left (by simp[jZ];exact hk)]
  simp[jZ]
 obtain rfl:i=k:=by omega
 rw[List.getElem_append_right (by simp[jZ])]
 simp[jZ]
def KeepsBox (Bs:Nat) (W W':World):Prop:=W'.heap[Bs]?=W.heap[Bs]?
theorem KeepsBox.refl (Bs:Nat) (W:World):KeepsBox Bs W W:=rfl
theorem KeepsBox.trans {B C:World} (h:KeepsBox Bs A B) (k:KeepsBox Bs B C):KeepsBox Bs A C:=Eq.trans k h
theorem KeepsBox.boxed {B:World} (h:KeepsBox Bs A B) {t:TypeId} (k:Boxed A Bs t v):Boxed B Bs t v:=Eq.trans h k
theorem KeepsBox.put (hl:Bs<w.heap.size) (W:World) (l:Nat) (o o':Obj) (h:w.heap.size<=l) (_:W.heap[l]?=some o) (_:o.isCells=false) (_:o.isWalk=false):KeepsBox Bs W (W.putObj l o') :=
 XC (by omega)
theorem KeepsBox.setCell (v:Value) (h:Bs≠b):KeepsBox Bs W (W.setCell ⟨b,off,none⟩ v):=xd _ _ _ _ h
theorem qht (F:Fence) (n:Nat) (hf:F.fn 98) (hro:F.round=none) (hn:1<=n) (l Bs size:Nat) (hs8:size<=8) (J Jx:List (Pl size)->World->Prop)
 (hY:∀ pre x W,J pre W->pre.length<size->YieldAt F (n-1) Tryz.prog l (qai size x) W fun e W' =>
  (e=.returned (.bool true)/\J (pre++[x]) W'/\KeepsBox Bs W W')\/(e=.returned (.bool false)/\Jx (pre++[x]) W'))
 (W:World) (hBs:Boxed W Bs 3 (.int .i64 (size:Int))) (h0:J [] W) :
 CallsIn F n Tryz.prog 98 #[.func (.yield l) #[] #[],.pointer (some ⟨Bs,0,none⟩)] W fun e W'=>(∃ v,e=.returned v)/\
  ((∃ ys,ys=jZ size size (xc _)/\J ys W')\/(∃ pre,True/\Jx pre W')):=by
 refine callsIn_of_wp Tryz.func98 rfl hf ?_ hro;simp only[Tryz.ntmps98,Xb,xC,xX,Nat.reduceAdd,Nat.reduceSub,kD,kC,kN,kG,xG,xD];have hc0:=hBs.cell
 gi_wp2
 gi_loopw [5] (fun i wr=>∃ (k:Nat) (h:k<=size),i=.int .i64 k/\J (jZ size k h) wr/\KeepsBox Bs W wr)
  (fun i _=>size-(intOf i).toNat)
 case atStart=>exact⟨0,xt _,rfl,h0,KeepsBox.refl _ _⟩
 case round =>
 obtain⟨k,hk,rfl,hJs,hnx⟩:=hrel;have hcx:wr.cell? ⟨Bs,0,none⟩=some (.int .i64 (size:Int)):=(hnx.boxed hBs).cell
 by_cases hlt:k<size
 ·obtain⟨fn,tmps,assign,body,hy,hR⟩:=hY _ ⟨k,hlt⟩ wr hJs (by rw[qfd];exact hlt)
  dsimp only[qai] at hy;have hq:(k:Int)<(size:Int):=by omega
  gi_wp2
  refine hR.mono ?_;rintro e W3 (⟨rfl,hJ3,hk3⟩|⟨rfl,hJx3⟩)
  ·gi_wp2
   go_roundw
   case rel=>exact⟨k+1,hlt,by simp,by rw[qcg];exact hJ3,hnx.trans hk3⟩
   case measure=>simp[intOf];omega
  gi_wp2
  refine Xk (Xp rfl _ _ _) rfl ?_;exact⟨⟨_,rfl⟩,.inr ⟨_,trivial,hJx3⟩⟩
 obtain rfl:k=size:=by omega
 gi_wp2
 go_end0
 exact⟨⟨_,rfl⟩,.inl ⟨_,rfl,hJs⟩⟩
theorem qby (F:Fence) (n:Nat) (hf:F.fn 71) (hro:F.round=none) (size:Int) (w:World) :
 CallsIn F n Tryz.prog 71 #[.int .i64 size] w fun e w'=>e=.returned (.func (.func 98) #[] #[.pointer (some ⟨w.heap.size,0,none⟩)])/\w'=w.alloc (.cells #[.int .i64 size] 3):=by
 refine callsIn_of_wp Tryz.func71 rfl hf ?_ hro;simp only[Tryz.ntmps71,Xb,xC,xX,Nat.reduceAdd,Nat.reduceSub,kD,kC,kN,kG,xG,xD]
 gi_wp2
 go_ret;exact⟨rfl,rfl⟩
theorem YA (F:Fence) (n:Nat) (hf:F.fn 98) (hro:F.round=none) (hn:1<=n) (Bs size:Nat) (hs8:size<=8) (w:World) (hc:Boxed w Bs 3 (.int .i64 (size:Int))) :
 SeqStopsK F n Tryz.prog 98 #[.pointer (some ⟨Bs,0,none⟩)] (qai size) (KeepsBox Bs) (fun ys=>ys=jZ size size (xc _)) (fun _=>True) size w:=fun l J Jx W hW _ _ hY h0=>by
 have hc':Boxed W Bs 3 (.int .i64 (size:Int)):=(hW.block Bs hc.lt).trans hc
 exact qht F n hf hro hn l Bs size hs8 J Jx hY W hc' h0
attribute [local go_sem] ub
def Z5 (n s:Nat) (pre:List (Pl s)):List UInt8:=(List.range s).map fun j=>if j∈pre.map (·.1) then ob n (s-1-j) else 0
theorem qdd (n s:Nat) (pre:List (Pl s)):(Z5 n s pre).length=s:=by simp[Z5]
theorem qla (n s:Nat):(Z5 n s []).map enc=List.replicate s (.int .u8 0):=by
 apply List.ext_getElem
 ·simp[Z5]
 intro i h1 h2;simp[Z5,enc]
theorem qgi (n s:Nat) (pre:List (Pl s)) (x:Pl s):((Z5 n s pre).map enc).set x.1 (enc (ob n (s-1-x.1)))=(Z5 n s (pre++[x])).map enc:=by
 rw[<-List.map_set]
 congr 1
 apply List.ext_getElem
 ·simp[Z5]
 intro i h1 h2;rw[List.getElem_set];by_cases h:x.1=i
 ·subst h;simp[Z5]
 have h':¬ i=x.1:=fun e=>h e.symm
 rw[xh h];simp[Z5,h']
theorem qm8 (s j:Nat) (h:j<s):j∈(jZ s s (xc _)).map (·.1):=by
 simp[jZ];exact⟨⟨j,h⟩,rfl⟩
theorem qk8 (n s:Nat):Z5 n s (jZ s s (xc _))=oc n s:=by
 unfold Z5 oc;apply List.map_congr_left;intro j hj;rw[xj (qm8 s j (List.mem_range.1 hj))]
theorem qk4 {β : Type} (n₀ g e s:Nat) (f : β -> List Value):Own (fun(x : β) W=>W.ownsRow n₀ e 1 (.slice (some ⟨g,0,none⟩) s s) s (f x)):=by
 intro x X Y row hr hg hrow;refine hr.kept hg (.inr fun e'=>?_);rcases hr.2 with ⟨h,_⟩|⟨g',cap,cur,hv,_,hgb,_⟩
 ·cases h
 obtain⟨rfl,rfl⟩:g=g'/\s=cap:=by simpa using hv
 obtain⟨o,ho,hc⟩:=hrow g (by simpa[Value.ownBlock] using e'.symm)
 rw[hgb] at ho;cases ho;cases hc
theorem qqf (n s k:Nat) (h:k<s):Value.int .u8 (IntKind.u8.wrap ((n:Int)/2^(8*((s:Int)-1-(k:Int))).toNat))=enc (ob n (s-1-k)):=by
 rw[qr3,show (8*((s:Int)-1-(k:Int))).toNat=8*(s-1-k) from by omega,IntKind.wrap_u8']
theorem qoi (hk:k<s) {pre:List (Pl s)} (bn:Boxed W B 108 (.int .u64 (n:Int))) (bb:Boxed W (B+1+1) 52 (.slice (some ⟨B+1,0,none⟩) s s))
 (hr:W.ownsRow B 5 1 (.slice (some ⟨B+1,0,none⟩) s s) s ((Z5 n s pre).map enc)) (hB:Below B w W) :
 KeepsOthers W (W.setCell ⟨B+1,k,none⟩ (.int .u8 (IntKind.u8.wrap ((n:Int)/2^(8*((s:Int)-1-(k:Int))).toNat)))).drew /\
 KeepsBox (B+1+1+1) W (W.setCell ⟨B+1,k,none⟩ (.int .u8 (IntKind.u8.wrap ((n:Int)/2^(8*((s:Int)-1-(k:Int))).toNat)))).drew /\
 (Boxed (W.setCell ⟨B+1,k,none⟩ (.int .u8 (IntKind.u8.wrap ((n:Int)/2^(8*((s:Int)-1-(k:Int))).toNat)))).drew B 108 (.int .u64 (n:Int))/\
  Boxed (W.setCell ⟨B+1,k,none⟩ (.int .u8 (IntKind.u8.wrap ((n:Int)/2^(8*((s:Int)-1-(k:Int))).toNat)))).drew (B+1+1) 52 (.slice (some ⟨B+1,0,none⟩) s s)/\
  (W.setCell ⟨B+1,k,none⟩ (.int .u8 (IntKind.u8.wrap ((n:Int)/2^(8*((s:Int)-1-(k:Int))).toNat)))).drew.ownsRow B 5 1 (.slice (some ⟨B+1,0,none⟩) s s) s ((Z5 n s (pre++[⟨k,hk⟩])).map enc))/\
 Below B w (W.setCell ⟨B+1,k,none⟩ (.int .u8 (IntKind.u8.wrap ((n:Int)/2^(8*((s:Int)-1-(k:Int))).toNat)))).drew:=by
 rw[qqf n s k hk];refine⟨(XV W _ _).trans (KeepsOthers.drew _),KeepsBox.setCell _ (by omega),⟨?_,?_,?_⟩,(hB.setCell (p:=⟨B+1,k,none⟩) (by simp) _).drew⟩
 ·exact(xd W ⟨B+1,k,none⟩ _ B (by simp)).trans bn
 ·exact(xd W ⟨B+1,k,none⟩ _ (B+1+1) (by simp)).trans bb
 rw[<-qgi n s pre ⟨k,hk⟩];exact(hr.stored k (enc (ob n (s-1-k)))).1
theorem qsa (F:Fence) (m:Nat) (hro:F.round=none) (f0:F.fn 46) (f1:F.fn 71) (f2:F.fn 98) (hm:4<=m) (n s:Nat) (w:World) (h1:1<=s) (h8:s<=8) (hn:n<2^(8*s)) (hn64:n<18446744073709551616) :
 CallsIn F m Tryz.prog 46 #[.int .u64 (n:Int),.int .i64 (s:Int)] w fun e w'=>∃ v,e=.returned (.tuple #[v,.int .i64 0])/\OwnB w.heap.size w' v (oc n s)/\Below w.heap.size w w':=by
 have hm1:1<=m:=by omega
 obtain⟨i0,hi,hz0,hz1,hz2⟩:=Xh YD;have hd1:decide ((s:Int)<1)=false:=by simp;omega
 have hd2:decide (8<(s:Int))=false:=by simp;omega
 have hz:((n:Int)/2^(8*s) != 0)=false:=by
  simp
  exact_mod_cast Nat.div_eq_of_lt hn
 have hmk:∀ u:World,(Instr.makeSlice 52 (.int .i64 (s:Int)) (.int .i64 (s:Int))).run Tryz.prog u =
  .ok (.slice (some ⟨u.heap.size,0,none⟩) s s) (u.alloc (.cells (madeCells #[.int .u8 0] s) 5)):=fun u=>by
  have h:=run_make (P:=Tryz.prog) u 52 5 i0 (.int .u8 0) xW hi hz0 .i64 .i64 (s:Int) (s:Int) (by omega) (Kj _) (by rw[hz2];omega) (by omega)
  simpa[hz1,Value.cells] using h
 have HN:Hid (n<2^(8*s)):=hn
 clear hn;refine callsIn_of_wp_marks Tryz.func46 rfl f0 ?_ hro;simp only[Tryz.ntmps46,Xb,xC,xX,Nat.reduceAdd,Nat.reduceSub,kD,kC,kN,kG,xG,xD]
 gi_wp2_with (gi_at_call 71;refine(qby F _ f1 hro _ _).mono ?_;rintro e w' ⟨rfl,rfl⟩)
 obtain⟨B,hBd⟩:∃ B,w.heap.size=B:=⟨_,rfl⟩;rw[hBd];obtain⟨W0,hW0⟩:∃ W0,(((w.alloc (.cells #[.int .u64 (n:Int)] 108)).alloc (.cells (madeCells #[.int .u8 0] s) 5)).alloc (.cells #[.slice (some ⟨B+1,0,none⟩) s s] 52)).alloc (.cells #[.int .i64 (s:Int)] 3)=W0:=⟨_,rfl⟩;have hsz:W0.heap.size=B+4:=by rw[<-hW0];simp[hBd]
 have bn:Boxed W0 B 108 (.int .u64 (n:Int)):=by
  rw[<-hW0,<-hBd];exact(((Kz w _ _).alloc _).alloc _).alloc _
 have bb:Boxed W0 (B+1+1) 52 (.slice (some ⟨B+1,0,none⟩) s s):=by
  rw[<-hW0];have:=Kz ((w.alloc (.cells #[.int .u64 (n:Int)] 108)).alloc (.cells (madeCells #[.int .u8 0] s) 5)) 52 (.slice (some ⟨B+1,0,none⟩) s s)
  simp only[Ku,hBd] at this;exact this.alloc _
 have bs:Boxed W0 (B+1+1+1) 3 (.int .i64 (s:Int)):=by
  rw[<-hW0];have:=Kz (((w.alloc (.cells #[.int .u64 (n:Int)] 108)).alloc (.cells (madeCells #[.int .u8 0] s) 5)).alloc (.cells #[.slice (some ⟨B+1,0,none⟩) s s] 52)) 3 (.int .i64 (s:Int))
  simp only[Ku,hBd] at this;exact this
 have hrow:W0.ownsRow B 5 1 (.slice (some ⟨B+1,0,none⟩) s s) s ((Z5 n s []).map enc):=by
  rw[qla,<-hW0,<-toList_madeCells_one];have:=World.ownsRow_lit (base:=B) (e:=5) (size:=1) (w.alloc (.cells #[.int .u64 (n:Int)] 108)) (madeCells #[.int .u8 0] s) s (by simp[hBd]) (by unfold maxLen;omega) (by simp[madeCells])
  simp only[Ku,hBd] at this;exact(this.alloc _).alloc _
 have hB0:Below B w W0:=by
  rw[<-hW0,<-hBd];exact((((xm _ w).alloc (xc _) _).alloc (by simp) _).alloc (by simp;omega) _).alloc (by simp;omega) _
 rw[hW0]
 refine wpIn_rangeFunc_ownF hro hm1 (gf:=98) (lb:=#[.pointer (some ⟨B+1+1+1,0,none⟩)]) rfl f2 (enters_of Tryz.func98 (by kernel_rfl) rfl)
  (YA F (m-1) f2 hro (by omega) (B+1+1+1) s h8 W0 bs) KeepsBox.trans (KeepsBox.put (by omega)) (xm _ _) (fun _=>rfl)
  (fun pre W=>(Boxed W B 108 (.int .u64 (n:Int))/\Boxed W (B+1+1) 52 (.slice (some ⟨B+1,0,none⟩) s s)/\W.ownsRow B 5 1 (.slice (some ⟨B+1,0,none⟩) s s) s ((Z5 n s pre).map enc))/\Below B w W)
  (fun _ _ _=>False)
  (OwnFrom.and (OwnFrom.and (Own.from (boxed_own _ _ _) _) (OwnFrom.and (Own.from (boxed_own _ _ _) _) (Own.from (qk4 _ _ _ _ _) _))) (ownFrom_below (by omega) (by omega)))
  (fun _ _ _ _ _ hs _ _=>hs)
  ⟨⟨bn,bb,hrow⟩,hB0⟩
  (fun x=>{tmps:=#[.int .u64 (n:Int),.int .i64 (s:Int),.pointer (some ⟨B,0,none⟩),undef,.slice none 0 0,.int .i64 0,.pointer (some ⟨B+1+1,0,none⟩),.int .i64 (x.1:Int),.int .i64 (8*((s:Int)-1-(x.1:Int))),.int .i64 (s:Int),.bool false,.bool false,.int .i64 (s:Int),.bool false,.bool false,.int .u64 (n:Int),.int .i64 (s:Int),.int .i64 (8*(s:Int)),.int .u64 ((n:Int)/2^(8*s)),.bool false,.int .i64 (s:Int),.slice (some ⟨B+1,0,none⟩) s s,.int .i64 (s:Int),.func (.func 98) #[] #[.pointer (some ⟨B+1+1+1,0,none⟩)],.int .i64 (x.1:Int),.int .i64 (8*((s:Int)-1-(x.1:Int))),undef,undef,undef,undef,undef,undef,undef,undef],defers:=[]}) ?assign ?body ?done ?stop
 case assign =>
  intro l x W K hK;dsimp only[qai]
  gi_wp2
  exact hK
 case body =>
  rintro l pre ⟨k,hk⟩ W ⟨⟨bn,bb,hr⟩,hB⟩ _;have cn:=bn.cell
  have cb:=bb.cell
  have hq:(k:Int)<(s:Int):=by omega
  have fz:=hr.frozenAt k
  obtain⟨u,cl⟩:∃ u,W.cell? ⟨B+1,k,none⟩=some u:=by
   rw[hr.cellAt k (by omega)]
   exact⟨_,xg (by simp[qdd];exact hk)⟩
  have fin:=qoi hk bn bb hr hB
  have FIN:=qa fin
  clear fin hmk hW0 hrow bs hB0 hi hz0 hz1 hz2 hB hr bb bn hz hd1 hd2 hro f0 f1 f2
  gi_wp2
  gi_region
  all_goals gi_wp2
  all_goals exact FIN.out
 case done =>
  rintro D ys W hD rfl ⟨⟨bn,bb,hr⟩,hB⟩ hK;have cb:=bb.cell
  gi_wp2
  refine⟨by simp,.inl ⟨_,_,rfl,Kt hK,?_⟩⟩
  refine⟨_,results_tmp2 rfl _ _ _,_,rfl,?_,?_⟩
  ·unfold OwnB;rw[qv,hBd,<-qk8];exact ownsRow_putObj hr _ hK rfl
  rw[hBd];exact hB.trans (belowK_b (w:=W0) (by omega) W D _ _ hD hK rfl rfl)
 case stop =>
 rintro D c pre W _ _ h _;exact h.elim
theorem ZQ (n s:Nat) (w:World) (h1:1<=s) (h8:s<=8) (hn:n<2^(8*s)) (hn64:n<18446744073709551616) :
 Calls Tryz.prog 46 #[.int .u64 (n:Int),.int .i64 (s:Int)] w fun e w'=>∃ v,e=.returned (.tuple #[v,.int .i64 0])/\OwnB w.heap.size w' v (oc n s)/\Below w.heap.size w w' :=
 (kB (n:=5)).1 (qsa Fence.wide 5 rfl trivial trivial trivial (by omega) n s w h1 h8 hn hn64)
attribute [local go_sem] ub
def ZA (xs:List UInt8) {s:Nat} (pre:List (Pl s)):Nat:=pre.foldl (fun a k=>a ||| (xs.getD k.1 0).toNat*2^(8*(s-1-k.1))) 0
theorem VS (xs:List UInt8) (pre:List (Pl s)) (k:Pl s):ZA xs (pre++[k])=ZA xs pre ||| (xs.getD k.1 0).toNat*2^(8*(s-1-k.1)):=by
 simp[ZA]
theorem YE (xs:List UInt8) (hk:k<s):(xs.getD k 0).toNat*2^(8*(s-1-k))<2^(8*(s-k)):=by
 have:=(xs.getD k 0).toNat_lt
 rw[show s-k=(s-1-k)+1 from by omega,show 8*(s-1-k+1)=8*(s-1-k)+8 from by omega,Nat.pow_add]
 have h2:=Nat.two_pow_pos (8*(s-1-k))
 rw[Nat.mul_comm (2^_) (2^8)];exact(Nat.mul_lt_mul_right h2).2 this
theorem qn4 (xs:List UInt8) (h8:s<=8) (pre:List (Pl s)):ZA xs pre<18446744073709551616:=by
 have h64:(18446744073709551616:Nat)=2^64:=by decide
 rw[h64];unfold ZA
 have h:∀ (l:List (Pl s)) (a:Nat),a<2^64->l.foldl (fun a k=>a ||| (xs.getD k.1 0).toNat*2^(8*(s-1-k.1))) a<2^64:=by
  intro l
  induction l with
  | nil=>intro a ha;exact ha
  | cons k r ih =>
   intro a ha;refine ih _ (Nat.or_lt_two_pow ha ?_);exact xV (YE xs k.2) (km (by omega) (by omega))
 exact h pre 0 (by decide)
theorem qok (xs:List UInt8) (s k:Nat) (hk:k<=s):ZA xs (jZ s k hk)=zP xs k*2^(8*(s-k)):=by
 induction k with
 | zero=>simp[ZA,jZ,zP]
 | succ k ih =>
  rw[qcg s k hk,VS,ih (by omega)]
  simp only;rw[nat_join (8*(s-k)) _ _ (Nat.mul_mod_left _ _) (YE xs hk)];simp only[zP];rw[show s-k=(s-1-k)+1 from by omega,show s-(k+1)=s-1-k from by omega,show 8*(s-1-k+1)=8*(s-1-k)+8 from by omega,Nat.pow_add,Nat.add_mul]
  congr 1
  rw[Nat.mul_comm (2^(8*(s-1-k))) (2^8),<-Nat.mul_assoc]
theorem qle (xs:List UInt8):ZA xs (jZ xs.length xs.length (xc _))=Qg xs:=by
 rw[qok];simp[Qg]
theorem qrp (w:World) (v:Value) (xs:List UInt8) (h:Rd w v xs) (hl:xs.length<1\/8<xs.length) :
 Calls Tryz.prog 103 #[v] w fun e w'=>e=.returned (.tuple #[.int .u64 0,.int .i64 3])/\Below w.heap.size w w':=by
 obtain⟨a,c,rfl,l1,m1,n1,r1⟩:=h;unfold maxLen at m1;have hB:Below w.heap.size w (w.alloc (.cells #[.slice a xs.length c] 52)):=(xm _ _).alloc (xc _) _
 by_cases h0:xs.length<1
 ·go_enter Tryz.func103,Tryz.ntmps103;go_wp2
  go_ret2
  exact⟨rfl,hB⟩
 have h':8<xs.length:=by omega
 go_enter Tryz.func103,Tryz.ntmps103;go_wp2
 go_ret2
 exact⟨rfl,hB⟩
theorem qhd (xs:List UInt8) (s k:Nat) (hk:k<s) (h8:s<=8):IntKind.u64.wrap (IntKind.u64.wrap (bt xs k)*2^(8*((s:Int)-1-(k:Int))).toNat)=(((xs.getD k 0).toNat*2^(8*(s-1-k)):Nat):Int):=by
 have hb:=qoh xs k
 have hl:=YE xs hk
 have h64:2^(8*(s-k))<=2^64:=km (by omega) (by omega)
 have e64:(2:Nat)^64=18446744073709551616:=by decide
 rw[e64] at h64;rw[show (8*((s:Int)-1-(k:Int))).toNat=8*(s-1-k) from by omega,Ki,Ki,Int.emod_eq_of_lt hb.1 (by omega)]
 have e:bt xs k*2^(8*(s-1-k))=(((xs.getD k 0).toNat*2^(8*(s-1-k)):Nat):Int):=by
  unfold bt;rw[Int.natCast_mul,Int.natCast_pow];rfl
 rw[e];omega
theorem qlw (hk:k<s) (h8:s<=8) {pre:List (Pl s)} {sv:Value} (bb:Boxed W B 52 sv) (bn:Boxed W (B+1) 108 (.int .u64 (ZA xs pre:Nat))) (hB:Below B w W) :
 KeepsOthers W (W.setCell ⟨B+1,0,none⟩ (.int .u64 (bits .or .u64 (ZA xs pre:Nat) (IntKind.u64.wrap (IntKind.u64.wrap (bt xs k)*2^(8*((s:Int)-1-(k:Int))).toNat))))).drew /\
 KeepsBox (B+1+1) W (W.setCell ⟨B+1,0,none⟩ (.int .u64 (bits .or .u64 (ZA xs pre:Nat) (IntKind.u64.wrap (IntKind.u64.wrap (bt xs k)*2^(8*((s:Int)-1-(k:Int))).toNat))))).drew /\
 (Boxed (W.setCell ⟨B+1,0,none⟩ (.int .u64 (bits .or .u64 (ZA xs pre:Nat) (IntKind.u64.wrap (IntKind.u64.wrap (bt xs k)*2^(8*((s:Int)-1-(k:Int))).toNat))))).drew B 52 sv /\
  Boxed (W.setCell ⟨B+1,0,none⟩ (.int .u64 (bits .or .u64 (ZA xs pre:Nat) (IntKind.u64.wrap (IntKind.u64.wrap (bt xs k)*2^(8*((s:Int)-1-(k:Int))).toNat))))).drew (B+1) 108 (.int .u64 (ZA xs (pre++[⟨k,hk⟩]):Nat)))/\
 Below B w (W.setCell ⟨B+1,0,none⟩ (.int .u64 (bits .or .u64 (ZA xs pre:Nat) (IntKind.u64.wrap (IntKind.u64.wrap (bt xs k)*2^(8*((s:Int)-1-(k:Int))).toNat))))).drew:=by
 have e64:(2:Nat)^64=18446744073709551616:=by decide
 have h64:2^(8*(s-k))<=2^64:=km (by omega) (by omega)
 rw[qhd xs s k hk h8,u64_or_nat _ _ (qn4 xs h8 pre) (by have:=YE xs hk;omega),<-VS xs pre ⟨k,hk⟩]
 refine⟨(XV W _ _).trans (KeepsOthers.drew _),KeepsBox.setCell _ (by omega),⟨?_,?_⟩,(hB.setCell (p:=⟨B+1,0,none⟩) (by simp) _).drew⟩
 ·exact(xd W ⟨B+1,0,none⟩ _ B (by simp)).trans bb
 exact bn.set _
theorem qr5 (F:Fence) (m:Nat) (hro:F.round=none) (f0:F.fn 103) (f1:F.fn 71) (f2:F.fn 98) (hm:4<=m) (w:World) (v:Value) (xs:List UInt8) (hv:Rd w v xs) (h1:1<=xs.length) (h8:xs.length<=8) :
 CallsIn F m Tryz.prog 103 #[v] w fun e w'=>e=.returned (.tuple #[.int .u64 (Qg xs:Nat),.int .i64 0])/\Below w.heap.size w w':=by
 have hm1:1<=m:=by omega
 obtain⟨a,c,rfl,l1,mx,n1,r1⟩:=hv;rw[show maxLen=9223372036854775807 from rfl] at mx;rcases r1 with rfl|⟨b,off,rfl,hc⟩
 ·simp at h1
 have hbl:b<w.heap.size:=qe (hc 0 (by omega))
 obtain⟨s,hs⟩:∃ s,xs.length=s:=⟨_,rfl⟩;have HS:=qa hs
 rw[hs] at h1 h8 l1 hc |-;clear hs;have hd1:decide ((s:Int)<1)=false:=by simp;omega
 have hd2:decide (8<(s:Int))=false:=by simp;omega
 refine callsIn_of_wp_marks Tryz.func103 rfl f0 ?_ hro;simp only[Tryz.ntmps103,Xb,xC,xX,Nat.reduceAdd,Nat.reduceSub,kD,kC,kN,kG,xG,xD]
 gi_wp2_with (gi_at_call 71;refine(qby F _ f1 hro _ _).mono ?_;rintro e w' ⟨rfl,rfl⟩)
 obtain⟨B,hBd⟩:∃ B,w.heap.size=B:=⟨_,rfl⟩;rw[hBd];obtain⟨W0,hW0⟩:∃ W0,((w.alloc (.cells #[.slice (some ⟨b,off,none⟩) s c] 52)).alloc (.cells #[.int .u64 0] 108)).alloc (.cells #[.int .i64 (s:Int)] 3)=W0:=⟨_,rfl⟩;have hsz:W0.heap.size=B+3:=by rw[<-hW0];simp[hBd]
 have bb:Boxed W0 B 52 (.slice (some ⟨b,off,none⟩) s c):=by
  rw[<-hW0,<-hBd];exact((Kz w _ _).alloc _).alloc _
 have bn:Boxed W0 (B+1) 108 (.int .u64 (ZA xs (s:=s) []:Nat)):=by
  rw[<-hW0];have:=Kz (w.alloc (.cells #[.slice (some ⟨b,off,none⟩) s c] 52)) 108 (.int .u64 0)
  simp only[Ku,hBd] at this;exact this.alloc _
 have bs:Boxed W0 (B+1+1) 3 (.int .i64 (s:Int)):=by
  rw[<-hW0];have:=Kz ((w.alloc (.cells #[.slice (some ⟨b,off,none⟩) s c] 52)).alloc (.cells #[.int .u64 0] 108)) 3 (.int .i64 (s:Int))
  simp only[Ku,hBd] at this;exact this
 have hB0:Below B w W0:=by
  rw[<-hW0,<-hBd];exact(((xm _ w).alloc (xc _) _).alloc (by simp) _).alloc (by simp;omega) _
 rw[hW0]
 refine wpIn_rangeFunc_ownF hro hm1 (gf:=98) (lb:=#[.pointer (some ⟨B+1+1,0,none⟩)]) rfl f2 (enters_of Tryz.func98 (by kernel_rfl) rfl)
  (YA F (m-1) f2 hro (by omega) (B+1+1) s h8 W0 bs) KeepsBox.trans (KeepsBox.put (by omega)) (xm _ _) (fun _=>rfl)
  (fun pre W=>(Boxed W B 52 (.slice (some ⟨b,off,none⟩) s c)/\Boxed W (B+1) 108 (.int .u64 (ZA xs pre:Nat)))/\Below B w W)
  (fun _ _ _=>False)
  (OwnFrom.and (OwnFrom.and (Own.from (boxed_own _ _ _) _) (Own.from (boxed_own _ _ _) _)) (ownFrom_below (by omega) (by omega)))
  (fun _ _ _ _ _ hs _ _=>hs)
  ⟨⟨bb,bn⟩,hB0⟩
  (fun x=>{tmps:=#[.slice (some ⟨b,off,none⟩) s c,.pointer (some ⟨B,0,none⟩),.int .u64 0,.int .i64 0,.pointer (some ⟨B+1,0,none⟩),.int .i64 (x.1:Int),.int .i64 (8*((s:Int)-1-(x.1:Int))),.slice (some ⟨b,off,none⟩) s c,.int .i64 (s:Int),.bool false,.bool false,.slice (some ⟨b,off,none⟩) s c,.int .i64 (s:Int),.bool false,.bool false,.slice (some ⟨b,off,none⟩) s c,.int .i64 (s:Int),.func (.func 98) #[] #[.pointer (some ⟨B+1+1,0,none⟩)],.int .i64 (x.1:Int),.int .i64 (8*((s:Int)-1-(x.1:Int))),undef,undef,undef,undef,undef,undef,undef,undef,undef,undef],defers:=[]}) ?assign ?body ?done ?stop
 case assign =>
  intro l x W K hK;dsimp only[qai]
  gi_wp2
  exact hK
 case body =>
  rintro l pre ⟨k,hk⟩ W ⟨⟨bb,bn⟩,hB⟩ _;have cb:=bb.cell
  have cn:=bn.cell
  have fn:=bn.frozen
  have hq:(k:Int)<(s:Int):=by omega
  have cc:W.cell? ⟨b,off+k,none⟩=some (.int .u8 (bt xs k)):=(hB.cell (p:=⟨b,off+k,none⟩) (by rw[<-hBd];exact hbl)).trans (hc k hk)
  have hbd:=qoh xs k
  have fin:=qlw hk h8 bb bn hB
  have FIN:=qa fin
  clear fin hW0 bs hB0 hro f0 f1 f2 hc bb bn hB
  gi_wp2
  gi_region
  all_goals gi_wp2
  all_goals exact FIN.out
 case done =>
  rintro D ys W hD rfl ⟨⟨bb,bn⟩,hB⟩ hK;have cn:=bn.cell
  gi_wp2
  refine⟨by simp,.inl ⟨_,_,rfl,Kt hK,?_⟩⟩
  refine⟨_,results_tmp2 rfl _ _ _,?_,?_⟩
  ·have e:ZA xs (jZ s s (xc _))=Qg xs:=by
    have:=HS.out
    subst this;exact qle xs
   rw[<-e];rfl
  rw[hBd];exact hB.trans (belowK_b (w:=W0) (by omega) W D _ _ hD hK rfl rfl)
 case stop =>
 rintro D c pre W _ _ h _;exact h.elim
theorem jM (w:World) (v:Value) (xs:List UInt8) (hv:Rd w v xs) (h1:1<=xs.length) (h8:xs.length<=8) :
 Calls Tryz.prog 103 #[v] w fun e w'=>e=.returned (.tuple #[.int .u64 (Qg xs:Nat),.int .i64 0])/\Below w.heap.size w w' :=
 (kB (n:=5)).1 (qr5 Fence.wide 5 rfl trivial trivial trivial (by omega) w v xs hv h1 h8)
end Go.Proofs.YtfjadfnjmpefkaaGreat
