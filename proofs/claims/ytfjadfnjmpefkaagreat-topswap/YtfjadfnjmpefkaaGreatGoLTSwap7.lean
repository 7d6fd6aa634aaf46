/- What TopSwap rests on. -/
import Derived.Deep.CutRange
import Derived.Test.YtfjadfnjmpefkaaGreatGoLTSwap2
import Derived.Test.YtfjadfnjmpefkaaGreatGoLTSwap1
import Derived.Test.YtfjadfnjmpefkaaGreatGoLTSwap0
import Derived.RangeFuncBox
import Derived.RangeFuncBound
import Derived.RangeFuncLeaves
import Derived.Shelf.Abstract
import Derived.Shelf.RegionOpen
import Derived.OwnWalkIn
import Derived.TacticsInMore
import Derived.LoopNIn
import Derived.LoopIn
import Derived.Deep.QuietTactic
import Derived.BigQuiet
import Derived.Laws.Cover1
import Derived.Test.YtfjadfnjmpefkaaGreatGoLTSwap6
import Derived.Test.YtfjadfnjmpefkaaGreatGoLTSwap4
import Derived.Test.YtfjadfnjmpefkaaGreatGoLTSwap3
import Derived.Laws.StructEq
set_option maxRecDepth 100000
set_option maxHeartbeats 20000000
set_option linter.unusedVariables false
set_option linter.unusedSimpArgs false
namespace Go.Proofs.YtfjadfnjmpefkaaGreat
theorem Kh.{u}:type_of% @List.length_take_le.{u}:=@List.length_take_le
variable {ops:Array Oper} {was:Bool} {d d' d0:Dsk} {E at' e err id y:Int} {xs:List (List UInt8)} {rest:List Oper} {out ps:List Pr} {a b x:List UInt8} {cs:List Value} {l:List Wrt} {B Ba Bp C N f g g4 g7 gD gT ga gp i k n:Nat} {nd:Nd} {o:Oper} {fr:Str} {t u:Tr} {c c0 pv s s' s0 v:Value} {U V V' X Y c' w w' wr wr' wx:World}
theorem qA7:type_of% (xb @List.getElem_toArray.{0} (xb @List.getElem_cons_succ.{0} (xb @List.getElem_cons_zero.{0} (xb @List.getElem?_toArray.{0} (xb @List.getElem?_cons_succ.{0} (@List.getElem?_cons_zero.{0})))))):=xb @List.getElem_toArray.{0} (xb @List.getElem_cons_succ.{0} (xb @List.getElem_cons_zero.{0} (xb @List.getElem?_toArray.{0} (xb @List.getElem?_cons_succ.{0} (@List.getElem?_cons_zero.{0})))))
theorem qB7:type_of% (xb @List.setIfInBounds_toArray.{0} (xb @List.set_cons_zero.{0} (@List.set_cons_succ.{0}))):=xb @List.setIfInBounds_toArray.{0} (xb @List.set_cons_zero.{0} (@List.set_cons_succ.{0}))
open Go.RowKit
theorem qp5 (b:List UInt8) (h:4<=b.length):bits .or .i64 (bt b 2*256) (bt b 3)=((pgn b:Nat):Int)/\pgn b<65536:=by
 have e:pgn b=(b.getD 2 0).toNat*256+(b.getD 3 0).toNat:=by
  unfold pgn Qg;have hl:((b.take 4).drop 2).length=2:=by rw[xE,xp];omega
  rw[hl];simp only[zP]
  have g:∀ i,i<2->((b.take 4).drop 2).getD i 0=b.getD (2+i) 0:=by
   intro i hi;simp[xe,XQ,show 2+i<4 by omega]
  rw[g 0 (by decide),g 1 (by decide)]
  show (0*256+(b.getD 2 0).toNat)*256+(b.getD 3 0).toNat=_
  omega
 have h2:=(b.getD 2 0).toNat_lt
 have h3:=(b.getD 3 0).toNat_lt
 refine⟨?_,by omega⟩
 unfold bt;rw[e,show ((b.getD 2 0).toNat:Int)*256=(((b.getD 2 0).toNat*256:Nat):Int) from by rw[Int.natCast_mul];rfl]
 generalize (b.getD 2 0).toNat=p at *;generalize (b.getD 3 0).toNat=q at *
 have key:(BitVec.ofInt 64 ((p*256:Nat):Int) ||| BitVec.ofInt 64 (q:Int)).toNat=p*256+q:=by
  rw[BitVec.toNat_or,BitVec.ofInt_natCast,BitVec.ofInt_natCast,BitVec.toNat_ofNat,BitVec.toNat_ofNat,Nat.mod_eq_of_lt (by omega),Nat.mod_eq_of_lt (by omega)]
  exact nat_join 8 (p*256) q (by simp) (by omega)
 show IntKind.i64.wrap (((BitVec.ofInt 64 ((p*256:Nat):Int) ||| BitVec.ofInt 64 (q:Int)).toNat:Nat):Int)=_
 rw[key,ky];omega
theorem qqa (h:b.length≠256):Q7 b=(0,[],3):=xj h
theorem qnk (h:b.length=256) (h2:Qg (b.drop 252)≠sum (b.take 252)):Q7 b=(0,[],21):=by
 unfold Q7;rw[xh (fun k=>k h),xj h2]
theorem qlr (h:b.length=256) (h2:Qg (b.drop 252)=sum (b.take 252)) (h3:b.take 2≠pgmark):Q7 b=(0,[],22):=by
 unfold Q7;rw[xh (fun k=>k h),xh (fun k=>k h2),xj h3]
theorem qpr {b:List UInt8} (h:b.length=256) (h2:Qg (b.drop 252)=sum (b.take 252)) (h3:b.take 2=pgmark) (h4:244<pgn b):Q7 b=(0,[],5):=by
 unfold Q7;rw[xh (fun k=>k h),xh (fun k=>k h2),xh (fun k=>k h3),xj h4]
theorem qps {b:List UInt8} (h:b.length=256) (h2:Qg (b.drop 252)=sum (b.take 252)) (h3:b.take 2=pgmark) (h4:¬ 244<pgn b) (h5:2147483647<Vg b):Q7 b=(0,[],4):=by
 unfold Q7;rw[xh (fun k=>k h),xh (fun k=>k h2),xh (fun k=>k h3),xh h4,xj h5]
theorem qmb {b:List UInt8} (h:b.length=256) (h2:Qg (b.drop 252)=sum (b.take 252)) (h3:b.take 2=pgmark) (h4:¬ 244<pgn b) (h5:¬ 2147483647<Vg b) (h6:(b.take 252).drop (8+pgn b)≠List.replicate (244-pgn b) 0):Q7 b=(0,[],23):=by
 unfold Q7;rw[xh (fun k=>k h),xh (fun k=>k h2),xh (fun k=>k h3),xh h4,xh h5,xj h6]
theorem qp7 {b:List UInt8} (h:b.length=256) (h2:Qg (b.drop 252)=sum (b.take 252)) (h3:b.take 2=pgmark) (h4:¬ 244<pgn b) (h5:¬ 2147483647<Vg b) (h6:(b.take 252).drop (8+pgn b)=List.replicate (244-pgn b) 0):Q7 b=((Vg b:Int),(b.take (8+pgn b)).drop 8,0):=by
 unfold Q7;rw[xh (fun k=>k h),xh (fun k=>k h2),xh (fun k=>k h3),xh h4,xh h5,xh (fun k=>k h6)]
theorem qnm (h:¬ DOk d):QX d at'=9:=xj h
theorem qcf (h:DOk d) (h2:at'<0\/(d.1.length:Int)-4<at'):QX d at'=41:=by unfold QX;rw[xh (fun k=>k h),xj h2]
theorem qdi {d:Dsk} {at' id:Int} {x:List UInt8} (h:QX d at'≠0):zG d at' id x=(([],[]),QX d at'):=xj h
theorem qef {d:Dsk} {at' id:Int} {x:List UInt8} (h:QX d at'=0) (h2:(zL id x).2≠0):zG d at' id x=(([],[]),(zL id x).2):=by
 unfold zG;rw[xh (fun k=>k h),xj h2]
theorem qdv {d:Dsk} {at' id:Int} {x:List UInt8} (h:QX d at'=0) (h2:(zL id x).2=0) (h3:4092<d.2.length):zG d at' id x=(([],[]),51):=by
 unfold zG;rw[xh (fun k=>k h),xh (fun k=>k h2),xj h3]
theorem qi7 {d:Dsk} {at' id:Int} {x:List UInt8} (h:QX d at'=0) (h2:(zL id x).2=0) (h3:¬ 4092<d.2.length):zG d at' id x=((d.1,d.2++pws at' (zL id x).1 4),0):=by
 unfold zG;rw[xh (fun k=>k h),xh (fun k=>k h2),xh h3]
theorem qgh {k:Int} {ws:List Wrt} (hx:x.length=64) (hw:∀ y∈ws,y.2.length=64):(QF k x ws).length=64:=by
 unfold QF
 induction ws generalizing x with
 | nil=>exact hx
 | cons y r ih =>
  rw[kR];exact ih (by split;exact hw y (XP ..);exact hx) fun z hz=>hw z (Xg _ hz)
theorem qfo {d:Dsk} {k:Int} (h:DOk d) (h0:0<=k) (h1:k<d.1.length):(Qk d k).1.length=64:=by
 rw[jg h h0 h1];exact qgh (h.2.2.2.1 _ (VM (by omega))) fun y hy=>(h.2.2.2.2 y hy).2
theorem qeg {d:Dsk} {at':Int} (h:DOk d) (h0:0<=at') (h1:at'<=(d.1.length:Int)-4):∀ K,K<=4->(jC d at' K).length=64*K
 | 0,_=>rfl
 | K+1,hK=>by
  rw[jC,xk,qeg h h0 h1 K (by omega),qfo h (by omega) (by omega)];omega
theorem qe3 (h:QX d at'≠0):jq d at' id=([],QX d at'):=xj h
theorem qj7 {d:Dsk} {at' id:Int} (h:QX d at'=0) (h2:(Q7 (jC d at' 4)).2.2≠0\/(Q7 (jC d at' 4)).1≠id):jq d at' id=([],21):=by
 unfold jq;rw[xh (fun k=>k h),xj h2]
theorem qnx {d:Dsk} {at' id:Int} (h:QX d at'=0) (h2:(Q7 (jC d at' 4)).2.2=0) (h3:(Q7 (jC d at' 4)).1=id):jq d at' id=((Q7 (jC d at' 4)).2.1,0):=by
 unfold jq;rw[xh (fun k=>k h),xh];rintro (k|k)
 ·exact k h2
 exact k h3
structure PagesSay:Prop where
 encS:∀ (w:World) (id:Int) (v:Value) (d:List UInt8),Rd w v d->(-9223372036854775808<=id/\id<=9223372036854775807)->d.length<=140737488351232 ->
  Calls Tryz.prog 68 #[.int .i64 id,v] w fun e w'=>∃ v',e=.returned (.tuple #[v',.int .i64 (zL id d).2])/\OwnB w.heap.size w' v' (zL id d).1/\Below w.heap.size w w'
 decS:∀ (w:World) (v:Value) (x:List UInt8),Rd w v x->x.length<=140737488351232 ->
  Calls Tryz.prog 75 #[v] w fun e w'=>∃ v',e=.returned (.tuple #[.int .i64 (Q7 x).1,v',.int .i64 (Q7 x).2.2])/\OwnB w.heap.size w' v' (Q7 x).2.1/\Below w.heap.size w w'
 writeS:∀ (w:World) (sv cv v:Value) (d:Dsk) (at' id:Int) (x:List UInt8),zp w sv d.1->RdC w cv d.2->Rd w v x->(-9223372036854775808<=at'/\at'<=9223372036854775807)->(-9223372036854775808<=id/\id<=9223372036854775807)->x.length<=140737488351232 ->
  Calls Tryz.prog 38 #[.agg #[sv,cv],.int .i64 at',.int .i64 id,v] w fun e w'=>∃ sv' cv',e=.returned (.tuple #[.agg #[sv',cv'],.int .i64 (zG d at' id x).2])/\Own Zd w.heap.size w' [sv',cv'] (zG d at' id x).1/\Below w.heap.size w w'
 readS:∀ (w:World) (sv cv:Value) (d:Dsk) (at' id:Int),zp w sv d.1->RdC w cv d.2->(-9223372036854775808<=at'/\at'<=9223372036854775807)->(-9223372036854775808<=id/\id<=9223372036854775807)->
  Calls Tryz.prog 53 #[.agg #[sv,cv],.int .i64 at',.int .i64 id] w fun e w'=>∃ v',e=.returned (.tuple #[v',.int .i64 (jq d at' id).2])/\OwnB w.heap.size w' v' (jq d at' id).1/\Below w.heap.size w w'
noncomputable def ZK (x:List UInt8):Int:=if x.length≠256 then 3 else if Qg (x.drop 252)≠sum (x.take 252) then 21 else if x.take 2≠pgmark then 22 else 0
theorem qa0 (h:b.length≠256):ZK b=3:=xj h
theorem vl (h:b.length=256) (h2:Qg (b.drop 252)≠sum (b.take 252)):ZK b=21:=by
 unfold ZK;rw[xh (fun k=>k h),xj h2]
theorem vg (h:b.length=256) (h2:Qg (b.drop 252)=sum (b.take 252)) (h3:b.take 2≠pgmark):ZK b=22:=by
 unfold ZK;rw[xh (fun k=>k h),xh (fun k=>k h2),xj h3]
theorem qfs (h:b.length=256) (h2:Qg (b.drop 252)=sum (b.take 252)) (h3:b.take 2=pgmark):ZK b=0:=by
 unfold ZK;rw[xh (fun k=>k h),xh (fun k=>k h2),xh (fun k=>k h3)]
theorem qg7 (h:ZK b=0):b.length=256/\Qg (b.drop 252)=sum (b.take 252)/\b.take 2=pgmark:=by
 by_cases h1:b.length=256
 ·by_cases h2:Qg (b.drop 252)=sum (b.take 252)
  ·by_cases h3:b.take 2=pgmark
   ·exact⟨h1,h2,h3⟩
   rw[vg h1 h2 h3] at h;cases h
  rw[vl h1 h2] at h;cases h
 rw[qa0 h1] at h;cases h
theorem qg5 (h:ZK b≠0):Q7 b=(0,[],ZK b):=by
 by_cases h1:b.length=256
 ·by_cases h2:Qg (b.drop 252)=sum (b.take 252)
  ·by_cases h3:b.take 2=pgmark
   ·exact absurd (qfs h1 h2 h3) h
   rw[vg h1 h2 h3,qlr h1 h2 h3]
  rw[vl h1 h2,qnk h1 h2]
 rw[qa0 h1,qqa h1]
theorem qqs {y:List UInt8} (hl:y.length=4) (hn:n<4294967296):y=oc n 4↔Qg y=n:=by
 constructor
 ·rintro rfl;exact jz _ _ (by omega)
 intro h;exact qho (by rw[qv,hl]) (by rw[h,jz _ _ (by omega)])
theorem qgw (w:World) (v:Value) (x:List UInt8) (hx:Rd w v x):Calls Tryz.prog 102 #[v] w fun e w'=>e=.returned (.int .i64 (ZK x))/\Below w.heap.size w w':=by
 by_cases h1:x.length=256
 ·obtain⟨b,o,c,rfl,hc,hcm,hR,hC⟩:=rdN hx h1 (by decide)
  have hS:=ve (x.take 252)
  unfold M32 at hS;have r252:Rd w (.slice (some ⟨b,o,none⟩) 252 c) (x.take 252):=by simpa using hR 0 252 (by omega) (by omega)
  have rS:Rd w (.slice (some ⟨b,o+252,none⟩) 4 (c-252)) (x.drop 252):=by
   have:=hR 252 256 (by omega) (by omega)
   rwa [xx (by omega)] at this
  have r2:Rd w (.slice (some ⟨b,o,none⟩) 2 c) (x.take 2):=by simpa using hR 0 2 (by omega) (by omega)
  have lS:(x.drop 252).length=4:=by rw[xE];omega
  have l252:(x.take 252).length=252:=by rw[xp];omega
  have hq252:(252:Int)<=(c:Int):=by omega
  have hq256:(256:Int)<=(c:Int):=by omega
  have hq2:(2:Int)<=(c:Int):=by omega
  have hn252:¬ c=252:=by omega
  have K1:=qa (fun u (h:Rd u (.slice (some ⟨b,o,none⟩) 252 c) (x.take 252))=>vG u _ _ h (by omega))
  have hS4:=qqs lS hS
  have HR:=qa (xb r252 (xb rS r2))
  have HL:=qa lS
  have HI:=qa hS4
  have h1':=qa h1
  clear r252 rS r2 lS l252 hS4 hS h1 hx hR hC hc hcm;go_enter Tryz.func102,Tryz.ntmps102
  go_wp2_with fail
  refine qj (fun _=>True) 4 5 qG (by kernel_rfl) (fun _ _ _ _ h=>h) trivial ?_
  dsimp only[List.take,List.drop]
  iterate 4
   refine qA (v:=?_) (by rfl) ?_ ?_
   rotate_left
   ·intro w' s1;go_simp;try with_reducible rfl
   try simp only[Act.put,qB7]
  refine qM fun K hK=>?_;refine ZJ (by rfl) 96 _ _ (by rfl) #[.slice (some ⟨b,o,none⟩) 252 c] (by simp[Act.eval]) (Tryz.call96 _ _) (K1.out w.drew (HR.out.1.drewN 1)) ?_
  rintro e w1 ⟨v1,rfl,o1,b1⟩;refine⟨_,rfl,hK _ _ trivial ?_⟩;clear hK K;try simp only[Act.put,qB7]
  show wpList _ _ _ _ _ _
  clear K1;have c1:Below w.heap.size w w1:=(xm _ _).drew.trans b1
  have K2:=qa (yj w1 _ _ _ _ (HR.out.2.1.to c1) o1.rd (by rw[HL.out];decide) (by rw[qv];decide))
  have k2:=Yi (HR.out.2.2.to c1) (by rw[xp,h1'.out];decide)
  obtain⟨va,vc,rfl⟩:=o1.rd.slice;rw[qv] at K2 |-;clear o1 b1;by_cases h2:x.drop 252=oc (sum (x.take 252)) 4
  ·have h2':=qa (HI.out.1 h2)
   rw[Yc h2] at K2;clear h2
   go_wp2_with fail
   refine K2.out.mono ?_;rintro e w' ⟨rfl,rfl⟩;clear K2;by_cases h3:x.take 2=pgmark
   ·have hE:=qa (qfs h1'.out h2'.out h3)
    rw[h3] at k2;replace h3:=qa h3;go_wp2;go_ret;exact⟨qo hE.out.symm,c1⟩
   have hE:=qa (vg h1'.out h2'.out h3)
   have hd2:(x.take 2 == [112,103])=false:=kE.2 h3
   replace h3:=qa h3;go_wp2;go_ret;exact⟨qo hE.out.symm,c1⟩
  have hE:=qa (vl h1'.out (fun k=>h2 (HI.out.2 k)))
  rw[YP h2] at K2;replace h2:=qa h2
  go_wp2_with fail
  refine K2.out.mono ?_;rintro e w' ⟨rfl,rfl⟩;go_wp2;go_ret;exact⟨qo hE.out.symm,c1⟩
 have hq:((x.length:Int) != 256)=true:=by simp only[bne_iff_ne];omega
 have hE:=qa (qa0 h1)
 obtain⟨a,c,rfl⟩:=hx.slice;replace h1:=qa h1;go_enter Tryz.func102,Tryz.ntmps102;go_wp2;go_ret;exact⟨qo hE.out.symm,xm _ _⟩
theorem VE (w:World) (v:Value) (x:List UInt8) (hx:Rd w v x):Calls Tryz.prog 75 #[v] w fun e w'=>∃ v',e=.returned (.tuple #[.int .i64 (Q7 x).1,v',.int .i64 (Q7 x).2.2])/\OwnB w.heap.size w' v' (Q7 x).2.1/\Below w.heap.size w w':=by
 have KO:=qa (qgw w v x hx)
 by_cases h0:ZK x=0
 ·rw[h0] at KO;obtain⟨h1,h2,h3⟩:=qg7 h0;have D5:=qa (fun h=>@qpr x h1 h2 h3 h)
  have D4:=qa (fun h=>@qps x h1 h2 h3 h)
  have D23:=qa (fun h=>@qmb x h1 h2 h3 h)
  have D0:=qa (fun h=>@qp7 x h1 h2 h3 h)
  obtain⟨b,o,c,rfl,hc,hcm,hR,hC⟩:=rdN hx h1 (by decide)
  have ll:((x.take 4).drop 2).length=2:=by rw[xE,xp];omega
  have li:((x.take 8).drop 4).length=4:=by rw[xE,xp];omega
  have KG:=qa (fun u h=>jM u (.slice (some ⟨b,o+2,none⟩) 2 (c-2)) ((x.take 4).drop 2) h (by omega) (by omega))
  have KI:=qa (fun u h=>jM u (.slice (some ⟨b,o+4,none⟩) 4 (c-4)) ((x.take 8).drop 4) h (by omega) (by omega))
  obtain⟨pn,pn2⟩:=qp5 x (by omega)
  have pi2:Vg x<4294967296:=by
   have:=YI ((x.take 8).drop 4) ((x.take 8).drop 4).length
   unfold Vg Qg;rw[li] at this |-;omega
  rw[show Qg ((x.take 4).drop 2)=pgn x from rfl] at KG;rw[show Qg ((x.take 8).drop 4)=Vg x from rfl] at KI;obtain⟨n,hn⟩:∃ n,n=pgn x:=⟨_,rfl⟩;obtain⟨I,hI⟩:∃ I,I=Vg x:=⟨_,rfl⟩;rw[<-hn] at KG pn2 D5 D4 D23 D0;rw[<-hI] at KI pi2 D4 D23 D0;have hq4:(4:Int)<=(c:Int):=by omega
  have hq8:(8:Int)<=(c:Int):=by omega
  have hq252:(252:Int)<=(c:Int):=by omega
  have hn2:¬ c=2:=by omega
  have hn4:¬ c=4:=by omega
  have hn8:¬ c=8:=by omega
  have hwn:IntKind.i64.wrap (n:Int)=(n:Int):=by rw[ky];omega
  have hwI:IntKind.i64.wrap (I:Int)=(I:Int):=by rw[ky];omega
  have HR:=qa hR
  have h1':=qa h1
  have hc':=qa hc
  replace hn:=qa hn;replace hI:=qa hI;clear h0 h1 h2 h3 hx hR hC hc hcm ll li pn;go_enter Tryz.func75,Tryz.ntmps75
  go_wp2_with fail
  refine KO.out.mono ?_;rintro e w1 ⟨rfl,b1⟩;clear KO
  go_wp2_with fail
  refine(KG.out w1 ((HR.out 2 4 (by omega) (by omega)).to b1)).mono ?_
  rintro e w2 ⟨rfl,b2⟩;clear KG;have c2:=b1.trans (b2.mono b1.size)
  go_wp2_with fail
  refine(KI.out w2 ((HR.out 4 8 (by omega) (by omega)).to c2)).mono ?_
  rintro e w3 ⟨rfl,b3⟩;clear KI;have c3:=c2.trans (b3.mono c2.size)
  clear b1 b2 b3 c2;by_cases h4:244<n
  ·have hq:(244:Int)<(n:Int):=by omega
   have hD:=qa (D5.out h4)
   replace h4:=qa h4;go_wp2
   go_ret3
   rw[hD.out];exact⟨_,rfl,xA _ _ _ _,c3⟩
  have hq:¬ (244:Int)<(n:Int):=by omega
  by_cases h5:2147483647<I
  ·have hq5:(2147483647:Int)<(I:Int):=by omega
   have hD:=qa (D4.out h4 h5)
   replace h4:=qa h4;replace h5:=qa h5;go_wp2
   go_ret3
   rw[hD.out];exact⟨_,rfl,xA _ _ _ _,c3⟩
  have hq5:¬ (2147483647:Int)<(I:Int):=by omega
  have hn244:n<=244:=by omega
  have D23':=qa (D23.out h4 h5)
  have D0':=qa (D0.out h4 h5)
  have hq8n:(8:Int)<=8+(n:Int):=by omega
  have hqn:8+(n:Int)<=(c:Int):=by omega
  have hqn2:8+(n:Int)<=252:=by omega
  have hnn:¬ c=8+n:=by have:=hc'.out;omega
  replace h4:=qa h4;replace h5:=qa h5
  go_wp2_with fail
  go_quiet (fail)
  obtain⟨w4,hw4⟩:∃ u,u=w3.drewN nq:=⟨_,rfl⟩;rw[<-hw4];have c4:Below w.heap.size w w4:=c3.trans (by rw[hw4];exact qg w3 nq _)
  obtain⟨R,hRe⟩:∃ R,R=252-(8+n):=⟨_,rfl⟩;obtain⟨D,hDe⟩:∃ D,D=8+n-8:=⟨_,rfl⟩;rw[<-hRe,<-hDe]
  have rT:Rd w4 (.slice (some ⟨b,o+(8+n),none⟩) R (c-(8+n))) ((x.take 252).drop (8+n)):=by
   rw[hRe];exact(HR.out (8+n) 252 (by omega) (by omega)).to c4
  have rD:Rd w4 (.slice (some ⟨b,o+8,none⟩) D (c-8)) ((x.take (8+n)).drop 8):=by
   rw[hDe];exact(HR.out 8 (8+n) (by omega) (by omega)).to c4
  have lT:((x.take 252).drop (8+n)).length=R:=by rw[xE,xp,h1'.out,hRe];omega
  have hRn:R=244-n:=by omega
  have hmk:=YY (n:=R) (by omega) w4
  have oz:=qaw w4 R (by rw[show maxLen=9223372036854775807 from rfl];omega)
  obtain⟨w5,hw5⟩:∃ u,u=w4.alloc (.cells (madeCells #[.int .u8 0] R) 5):=⟨_,rfl⟩;rw[<-hw5] at hmk oz;have b5:Below w4.heap.size w4 w5:=by rw[hw5];exact(xm _ _).alloc (xc _) _
  have K3:=qa (qgm w5 _ _ _ _ _ _ _ _ _ _ (rT.to b5) oz.rd lT (by simp))
  have c5:=c4.trans (b5.mono c4.size)
  have KC:=qa (qcn w5 _ _ _ _ _ (rD.to b5) (by rw[xE,xp,h1'.out];omega))
  replace hw4:=qa hw4;replace hw5:=qa hw5;replace hDe:=qa hDe;replace hRe:=qa hRe;rw[<-hRn] at D23' D0';replace hRn:=qa hRn;clear rT rD lT oz b5 c4 c3;by_cases h6:(x.take 252).drop (8+n)=List.replicate R 0
  ·have hD:=qa (D0'.out h6)
   rw[Yc h6] at K3;replace h6:=qa h6
   go_wp2_with fail
   refine K3.out.mono ?_;rintro e w' ⟨rfl,rfl⟩;clear K3
   go_wp2_with fail
   refine KC.out.mono ?_;rintro e w6 ⟨v6,rfl,o6,b6⟩;go_wp2
   go_ret3
   rw[hD.out];exact⟨_,rfl,o6.mono c5.size,c5.trans (b6.mono c5.size)⟩
  have hD:=qa (D23'.out h6)
  rw[YP h6] at K3;replace h6:=qa h6
  go_wp2_with fail
  refine K3.out.mono ?_;rintro e w' ⟨rfl,rfl⟩;clear K3;go_wp2
  go_ret3
  rw[hD.out];exact⟨_,rfl,xA _ _ _ _,c5⟩
 have hD:=qa (qg5 h0)
 have hbe:(ZK x != 0)=true:=by simpa using h0
 obtain⟨a,c,rfl⟩:=hx.slice;replace h0:=qa h0;go_enter Tryz.func75,Tryz.ntmps75
 go_wp2_with fail
 refine KO.out.mono ?_;rintro e w1 ⟨rfl,b1⟩;go_wp2
 go_ret3
 rw[hD.out];exact⟨_,rfl,xA _ _ _ _,b1⟩
theorem vI (w:World) (sv cv:Value) (d:Dsk) (at':Int) (h1:zp w sv d.1) (h2:RdC w cv d.2) :
 Calls Tryz.prog 67 #[.agg #[sv,cv],.int .i64 at'] w fun e w'=>e=.returned (.int .i64 (QX d at'))/\Below w.heap.size w w':=by
 have lb:=h1.bd
 obtain⟨a1,c1,rfl⟩:=h1.slice;obtain⟨a2,c2,rfl⟩:=h2.slice;obtain⟨X,hX,X0,bX,sX⟩:=qf w #[.slice a1 d.1.length c1,.slice a2 d.2.length c2] 43;obtain⟨A0,A1,_,_⟩:=qh X0;have KC:=qa (ju X _ _ d (h1.to0 bX) (h2.to0 bX))
 rw[hX] at A0 A1;go_enter Tryz.func67,Tryz.ntmps67;by_cases hok:DOk d
 ·rw[Zb hok] at KC
  go_wp2_with fail
  rw[<-hX];rw[<-hX] at A0 A1;replace hX:=qa hX;refine KC.out.mono ?_;rintro e w1 ⟨rfl,b1⟩;replace A0:=(b1.cell (qe A0)).trans A0;by_cases hl:at'<0
  ·have hE:=qa (qcf hok (.inl hl))
   replace hok:=qa hok;go_wp2;go_ret;exact⟨qo hE.out.symm,bX.trans (b1.mono bX.size)⟩
  by_cases hl2:(d.1.length:Int)-4<at'
  ·have hE:=qa (qcf hok (.inr hl2))
   replace hok:=qa hok;go_wp2;go_ret;exact⟨qo hE.out.symm,bX.trans (b1.mono bX.size)⟩
  have hE:=qa (yl.2 ⟨hok,by omega,by omega⟩:QX d at'=0)
  replace hok:=qa hok;go_wp2;go_ret;exact⟨qo hE.out.symm,bX.trans (b1.mono bX.size)⟩
 rw[zg hok] at KC;have hE:=qa (qnm (at':=at') hok)
 replace hok:=qa hok
 go_wp2_with fail
 rw[<-hX];replace hX:=qa hX;refine KC.out.mono ?_;rintro e w1 ⟨rfl,b1⟩;go_wp2;go_ret;exact⟨qo hE.out.symm,bX.trans (b1.mono bX.size)⟩
theorem qe0 (w:World) (sv cv:Value) (d:Dsk) (at' id:Int) (h1:zp w sv d.1) (h2:RdC w cv d.2) :
 Calls Tryz.prog 53 #[.agg #[sv,cv],.int .i64 at',.int .i64 id] w fun e w'=>∃ v',e=.returned (.tuple #[v',.int .i64 (jq d at' id).2])/\OwnB w.heap.size w' v' (jq d at' id).1/\Below w.heap.size w w':=by
 obtain⟨a1,c1,rfl⟩:=h1.slice;obtain⟨a2,c2,rfl⟩:=h2.slice;obtain⟨X,hX,X0,bX,sX⟩:=qf w #[.slice a1 d.1.length c1,.slice a2 d.2.length c2] 43;have H1:=qa (h1.to0 bX)
 have H2:=qa (h2.to0 bX)
 have KC:=qa (vI X _ _ d at' H1.out H2.out)
 obtain⟨E,hE⟩:∃ E,E=QX d at':=⟨_,rfl⟩;rw[<-hE] at KC;obtain⟨A0,A1,_,_⟩:=qh X0;rw[hX] at A0 A1;go_enter Tryz.func53,Tryz.ntmps53
 go_wp2_with fail
 rw[<-hX];clear A0 A1;replace hX:=qa hX;refine KC.out.mono ?_;rintro e w1 ⟨rfl,b1⟩;clear KC h1 h2;have X1:=qa ((b1.block _ (xa X0)).trans X0)
 have c1w:=qa (bX.trans (b1.mono bX.size))
 replace H1:=qa (H1.out.to0 b1);replace H2:=qa (H2.out.to0 b1);have hlt:w.heap.size<w1.heap.size:=xa X1.out
 clear X0 bX b1;by_cases h0:E=0
 ·have hsec:Hid (QX d at'=0):=by show _=_;rw[<-hE];exact h0
  subst h0;replace hE:=qa hE;obtain⟨hok,hp0,hp1⟩:=yl.1 hsec.out;have hsl:=hok.2.1
  have hgl:=qa (qeg hok hp0 hp1)
  have hdl:=qa (fun k p q=>@qfo d k hok p q)
  have hok':=qa hok
  clear hok;go_wp2
  go_loopw [9,22] (fun v i wr=>∃ K:Nat,K<=4/\i=.int .i64 K/\Hid (OwnB w1.heap.size wr v (jC d at' K)/\Below w1.heap.size w1 wr)) (fun _ i _=>4-(intOf i).toNat)
  case atStart=>exact⟨0,by omega,rfl,qa ⟨xA _ _ _ _,xm _ _⟩⟩
  case round =>
  obtain⟨K,hK,rfl,hI⟩:=hrel;by_cases hlk:K<4
  ·have hqk:(K:Int)<4:=by omega
   obtain⟨A0,A1,_,_⟩:=qh ((hI.out.2.block _ hlt).trans X1.out);have KG:=qa (VK wr _ _ d (at'+K) (H1.out.to0 hI.out.2) (H2.out.to0 hI.out.2))
   have hl64:=qa (hdl.out (at'+K) (by omega) (by omega))
   have hnx:Hid (jC d at' (K+1)=jC d at' K++(Qk d (at'+K)).1):=rfl
   obtain⟨g,ge,hg⟩:∃ g ge,Qk d (at'+K)=(g,ge):=⟨_,_,rfl⟩;rw[hg] at KG hl64 hnx;dsimp only at KG hl64 hnx;clear hg;obtain⟨Y,hY⟩:∃ Y,Y=jC d at' K:=⟨_,rfl⟩;have hYl:Hid (Y.length=64*K):=by show _=_;rw[hY];exact hgl.out K (by omega)
   rw[<-hY] at hnx hI;replace hY:=qa hY;obtain⟨s9,t9,h9⟩:=hI.out.1.rd.slice;subst h9
   go_wp2_with fail
   refine KG.out.mono ?_;rintro e w3 ⟨v3,rfl,o3,b3⟩;clear KG A0 A1;have oA:=hI.out.1.below (xc _) b3
   have bA:=qa (hI.out.2.trans (b3.mono hI.out.2.size))
   have r3:=o3.rd
   obtain⟨s3,t3,h3⟩:=r3.slice;subst h3;have hl:Y.length+g.length<=140737488355328:=by rw[hYl.out,hl64.out];omega
   have hsz:=bA.out.size
   clear o3 b3 hI
   go_wp2_with (at_builtin;refine qx rfl _ _ rfl w1.heap.size _ _ Y g rfl rfl oA r3 hl hsz ?_;intro v6 w6 o6 b6 _)
   go_roundw
   case rel=>exact⟨K+1,by omega,by go_num,qa ⟨by rw[hnx.out];exact o6,bA.out.trans b6⟩⟩
   case measure=>simp[intOf];omega
  have hqk:¬ (K:Int)<4:=by omega
  obtain rfl:K=4:=by omega
  have oH:=hI.out.1
  have bH:=qa hI.out.2
  have KD:=qa (VE wr _ _ oH.rd)
  have sN:=qa (fun h=>@qj7 d at' id hsec.out h)
  have sY:=qa (fun h h2=>@qnx d at' id hsec.out h h2)
  obtain⟨Y,hY⟩:∃ Y,Y=jC d at' 4:=⟨_,rfl⟩;rw[<-hY] at KD sN sY oH;obtain⟨n,x,er,hD⟩:∃ n x er,Q7 Y=(n,x,er):=⟨_,_,_,rfl⟩;rw[hD] at KD sN sY;dsimp only at KD sN sY;obtain⟨s9,t9,h9⟩:=oH.rd.slice;subst h9;clear hD hY hI oH
  go_wp2_with fail
  refine KD.out.mono ?_;rintro e w3 ⟨v3,rfl,o3,b3⟩;have c3:=qa (c1w.out.trans (((bH.out).trans (b3.mono bH.out.size)).mono c1w.out.size))
  obtain⟨s3,t3,h3⟩:=o3.rd.slice;subst h3;have hb3:Hid (w.heap.size<=wr.heap.size):=xi c1w.out.size bH.out.size
  replace o3:=qa o3;clear b3 KD;by_cases he:er=0
  ·subst he;by_cases hn:n=id
   ·have hS:=qa (sY.out (by trivial) hn)
    subst hn;go_wp2
    go_ret2
    rw[hS.out];exact⟨_,rfl,o3.out.mono hb3.out,c3.out⟩
   have hS:=qa (sN.out (.inr hn))
   have hne:(n != id)=true:=by simpa using hn
   replace hn:=qa hn;go_wp2
   go_ret2
   rw[hS.out];exact⟨_,rfl,xA _ _ _ _,c3.out⟩
  have hS:=qa (sN.out (.inl he))
  have hee:(er != 0)=true:=by simpa using he
  replace he:=qa he;go_wp2
  go_ret2
  rw[hS.out];exact⟨_,rfl,xA _ _ _ _,c3.out⟩
 have hS:=qa (qe3 (d:=d) (at':=at') (id:=id) (by rw[<-hE];exact h0))
 have hbe:(E != 0)=true:=by simpa using h0
 replace h0:=qa h0;replace hE:=qa hE;go_wp2
 go_ret2
 rw[hS.out];exact⟨_,by rw[<-hE.out];rfl,xA _ _ _ _,c1w.out⟩
open Go.RowKit Go.Shelf
attribute [local go_sem] ub
def yM (at':Int) (b o c:Nat) (x:Nat):Array Value:=#[.int .i64 (at'+(x:Int)),.slice (some ⟨b,o+64*x,none⟩) 64 (c-64*x)]
def KpP (Ba Bp:Nat) (V V':World):Prop:=∀ (k:Nat) (o:Obj),(k=Ba\/k=Bp)->V.heap[k]?=some o->o.isCells=true->V'.heap[k]?=some o
theorem KpP.trans {Z:World} (h:KpP Ba Bp X Y) (k:KpP Ba Bp Y Z):KpP Ba Bp X Z:=fun i o hi h1 h2=>k i o hi (h i o hi h1 h2) h2
theorem KpP.put (W:World) (l:Nat) (o o':Obj) (h:W.heap[l]?=some o) (ho:o.isCells=false):KpP Ba Bp W (W.putObj l o'):=by
 intro k q _ hq hc;rw[XC (by rintro rfl;rw[h] at hq;cases hq;rw[ho] at hc;cases hc)]
 exact hq
def RP (pre:List Nat) (x:Nat) (V:World):Prop:=x=pre.length/\x<4
def SP (xs:List Nat) (V:World):Prop:=xs.length=4
theorem Vd (w:World) (at':Int) (v:Value) (b:List UInt8) (hrd:Rd w v b):Calls Tryz.prog 69 #[.int .i64 at',v] w fun e w'=>e=.returned (.func (.func 97) #[] #[.pointer (some ⟨w.heap.size,0,none⟩),.pointer (some ⟨w.heap.size+1,0,none⟩)])/\w'=(w.alloc (.cells #[.int .i64 at'] 3)).alloc (.cells #[v] 52):=by
 obtain⟨ao,cap,rfl⟩:=hrd.slice;go_enter Tryz.func69,Tryz.ntmps69;go_wp2;go_ret;exact⟨rfl,rfl⟩
theorem qah (at':Int) (ha0:0<=at') (ha1:at'+4<=9223372036854775807) (b o c:Nat) (hc:256<=c) (W0:World) (Ba Bp:Nat) (ba:Boxed W0 Ba 3 (.int .i64 at')) (bp:Boxed W0 Bp 52 (.slice (some ⟨b,o,none⟩) 256 c)) (n:Nat) :
 qoy Fence.wide n Tryz.prog 97 #[.pointer (some ⟨Ba,0,none⟩),.pointer (some ⟨Bp,0,none⟩)] (yM at' b o c) (KpP Ba Bp) RP SP W0:=by
 intro l J Jx W hW hJ hJx hY h0;have I0:Hid (Boxed W Ba 3 (.int .i64 at')/\Boxed W Bp 52 (.slice (some ⟨b,o,none⟩) 256 c)):=⟨(hW.block Ba ba.lt).trans ba,(hW.block Bp bp.lt).trans bp⟩
 have hmx:Tryz.prog.follows .mixedOrders=true:=qG
 clear ba bp hW;refine callsIn_of_wp Tryz.func97 rfl trivial ?_ rfl;simp only[Tryz.ntmps97,Xb,xC,xX,Nat.reduceAdd,Nat.reduceSub,kD,kC,kN,kG,xG,xD]
 gi_wp2
 gi_loopw [5] (fun i wr=>∃ (pre:List Nat) (k:Nat),i=.int .i64 (k:Int)/\k=pre.length/\k<=4/\Hid (Boxed wr Ba 3 (.int .i64 at')/\Boxed wr Bp 52 (.slice (some ⟨b,o,none⟩) 256 c))/\J pre wr) (fun i _=>4-(intOf i).toNat)
 case atStart=>exact⟨[],0,rfl,rfl,by omega,I0,h0⟩
 case round =>
 obtain⟨pre,k,rfl,hk,hk4,hit,hJs⟩:=hrel;clear I0;replace hk:=qa hk;have cb:=hit.out.1.cell
 have cp:=hit.out.2.cell
 have HJ:=qa (hJ _ _ wr.drew hJs ⟨rfl,rfl,rfl,xc _,fun _ _ _=>rfl⟩)
 have HB:Hid (Boxed wr.drew Ba 3 (.int .i64 at')/\Boxed wr.drew Bp 52 (.slice (some ⟨b,o,none⟩) 256 c)):=hit
 have hcases:k=0\/k=1\/k=2\/k=3\/k=4:=by omega
 rcases hcases with rfl|rfl|rfl|rfl|rfl
 -- ROUNDS
 ·have hx:RP pre 0 wr.drew:=⟨hk.out,by decide⟩
  obtain⟨fn,tmps,assign,body,hy',hR0⟩:=hY pre 0 wr.drew HJ.out hx;rw[show yM at' b o c 0=#[.int .i64 (at'),.slice (some ⟨b,o,none⟩) 64 (c)] from by simp[yM]] at hy'
  have hR:Hid (RoundIn Fence.wide (n-1) Tryz.prog l fn tmps assign body wr.drew fun e V'=>∃ B:Bool,e=.returned (.bool B)/\(B=true/\J (pre++[0]) V'/\KpP Ba Bp wr.drew V'\/B=false/\Jx (pre++[0]) V')):=hR0.mono (by rintro e V' (⟨rfl,h⟩|⟨rfl,h⟩);exact⟨true,rfl,.inl ⟨rfl,h⟩⟩;exact⟨false,rfl,.inr ⟨rfl,h⟩⟩)
  have hqh:(64:Int)<=(c:Int):=by omega
  have hn0:¬ c=0:=by omega
  have x0:IntKind.i64.wrap (0:Int)=0:=by decide
  have x1:IntKind.i64.wrap (64:Int)=64:=by decide
  have x3:IntKind.i64.wrap (1:Int)=1:=by decide
  have x2:IntKind.i64.wrap (at')=at':=by rw[ky];omega
  clear hR0 hY hx hJs hit HJ
  gi_wp2_with fail
  gi_region_with_o (refine⟨(fun h=>by cases h),hR.out.mono ?_⟩;rintro e W3 ⟨B,rfl,hB⟩)
  all_goals
   cases B with
   | true =>
    rcases hB with ⟨_,hJ3,hk3⟩|⟨h,_⟩
    ·have h3:Hid (Boxed W3 Ba 3 (.int .i64 at')/\Boxed W3 Bp 52 (.slice (some ⟨b,o,none⟩) 256 c)):=⟨hk3 _ _ (.inl rfl) HB.out.1 rfl,hk3 _ _ (.inr rfl) HB.out.2 rfl⟩
     have HJ3:=qa hJ3
     clear hJ3 hk3 hR hy' cb cp HB
     gi_wp2
     go_roundw
     case rel=>exact⟨pre++[0],1,by go_num,by rw[xk,<-hk.out];rfl,by omega,h3,HJ3.out⟩
     case measure=>simp[intOf]
    cases h
   | false =>
    rcases hB with ⟨h,_⟩|⟨_,hJx3⟩
    ·cases h
    clear hR hy' cb cp HB
    gi_wp2
    refine Xk (Xp rfl _ _ _) rfl ?_;exact⟨⟨_,rfl⟩,.inr ⟨_,hJx3⟩⟩
 ·have hx:RP pre 1 wr.drew:=⟨hk.out,by decide⟩
  obtain⟨fn,tmps,assign,body,hy',hR0⟩:=hY pre 1 wr.drew HJ.out hx;rw[show yM at' b o c 1=#[.int .i64 (at'+1),.slice (some ⟨b,o+64,none⟩) 64 (c-64)] from by simp[yM]] at hy'
  have hR:Hid (RoundIn Fence.wide (n-1) Tryz.prog l fn tmps assign body wr.drew fun e V'=>∃ B:Bool,e=.returned (.bool B)/\(B=true/\J (pre++[1]) V'/\KpP Ba Bp wr.drew V'\/B=false/\Jx (pre++[1]) V')):=hR0.mono (by rintro e V' (⟨rfl,h⟩|⟨rfl,h⟩);exact⟨true,rfl,.inl ⟨rfl,h⟩⟩;exact⟨false,rfl,.inr ⟨rfl,h⟩⟩)
  have hqh:(128:Int)<=(c:Int):=by omega
  have hn0:¬ c=64:=by omega
  have x0:IntKind.i64.wrap (64:Int)=64:=by decide
  have x1:IntKind.i64.wrap (128:Int)=128:=by decide
  have x3:IntKind.i64.wrap (2:Int)=2:=by decide
  have x2:IntKind.i64.wrap (at'+1)=at'+1:=by rw[ky];omega
  clear hR0 hY hx hJs hit HJ
  gi_wp2_with fail
  gi_region_with_o (refine⟨(fun h=>by cases h),hR.out.mono ?_⟩;rintro e W3 ⟨B,rfl,hB⟩)
  all_goals
   cases B with
   | true =>
    rcases hB with ⟨_,hJ3,hk3⟩|⟨h,_⟩
    ·have h3:Hid (Boxed W3 Ba 3 (.int .i64 at')/\Boxed W3 Bp 52 (.slice (some ⟨b,o,none⟩) 256 c)):=⟨hk3 _ _ (.inl rfl) HB.out.1 rfl,hk3 _ _ (.inr rfl) HB.out.2 rfl⟩
     have HJ3:=qa hJ3
     clear hJ3 hk3 hR hy' cb cp HB
     gi_wp2
     go_roundw
     case rel=>exact⟨pre++[1],2,by go_num,by rw[xk,<-hk.out];rfl,by omega,h3,HJ3.out⟩
     case measure=>simp[intOf]
    cases h
   | false =>
    rcases hB with ⟨h,_⟩|⟨_,hJx3⟩
    ·cases h
    clear hR hy' cb cp HB
    gi_wp2
    refine Xk (Xp rfl _ _ _) rfl ?_;exact⟨⟨_,rfl⟩,.inr ⟨_,hJx3⟩⟩
 ·have hx:RP pre 2 wr.drew:=⟨hk.out,by decide⟩
  obtain⟨fn,tmps,assign,body,hy',hR0⟩:=hY pre 2 wr.drew HJ.out hx;rw[show yM at' b o c 2=#[.int .i64 (at'+2),.slice (some ⟨b,o+128,none⟩) 64 (c-128)] from by simp[yM]] at hy'
  have hR:Hid (RoundIn Fence.wide (n-1) Tryz.prog l fn tmps assign body wr.drew fun e V'=>∃ B:Bool,e=.returned (.bool B)/\(B=true/\J (pre++[2]) V'/\KpP Ba Bp wr.drew V'\/B=false/\Jx (pre++[2]) V')):=hR0.mono (by rintro e V' (⟨rfl,h⟩|⟨rfl,h⟩);exact⟨true,rfl,.inl ⟨rfl,h⟩⟩;exact⟨false,rfl,.inr ⟨rfl,h⟩⟩)
  have hqh:(192:Int)<=(c:Int):=by omega
  have hn0:¬ c=128:=by omega
  have x0:IntKind.i64.wrap (128:Int)=128:=by decide
  have x1:IntKind.i64.wrap (192:Int)=192:=by decide
  have x3:IntKind.i64.wrap (3:Int)=3:=by decide
  have x2:IntKind.i64.wrap (at'+2)=at'+2:=by rw[ky];omega
  clear hR0 hY hx hJs hit HJ
  gi_wp2_with fail
  gi_region_with_o (refine⟨(fun h=>by cases h),hR.out.mono ?_⟩;rintro e W3 ⟨B,rfl,hB⟩)
  all_goals
   cases B with
   | true =>
    rcases hB with ⟨_,hJ3,hk3⟩|⟨h,_⟩
    ·have h3:Hid (Boxed W3 Ba 3 (.int .i64 at')/\Boxed W3 Bp 52 (.slice (some ⟨b,o,none⟩) 256 c)):=⟨hk3 _ _ (.inl rfl) HB.out.1 rfl,hk3 _ _ (.inr rfl) HB.out.2 rfl⟩
     have HJ3:=qa hJ3
     clear hJ3 hk3 hR hy' cb cp HB
     gi_wp2
     go_roundw
     case rel=>exact⟨pre++[2],3,by go_num,by rw[xk,<-hk.out];rfl,by omega,h3,HJ3.out⟩
     case measure=>simp[intOf]
    cases h
   | false =>
    rcases hB with ⟨h,_⟩|⟨_,hJx3⟩
    ·cases h
    clear hR hy' cb cp HB
    gi_wp2
    refine Xk (Xp rfl _ _ _) rfl ?_;exact⟨⟨_,rfl⟩,.inr ⟨_,hJx3⟩⟩
 ·have hx:RP pre 3 wr.drew:=⟨hk.out,by decide⟩
  obtain⟨fn,tmps,assign,body,hy',hR0⟩:=hY pre 3 wr.drew HJ.out hx;rw[show yM at' b o c 3=#[.int .i64 (at'+3),.slice (some ⟨b,o+192,none⟩) 64 (c-192)] from by simp[yM]] at hy'
  have hR:Hid (RoundIn Fence.wide (n-1) Tryz.prog l fn tmps assign body wr.drew fun e V'=>∃ B:Bool,e=.returned (.bool B)/\(B=true/\J (pre++[3]) V'/\KpP Ba Bp wr.drew V'\/B=false/\Jx (pre++[3]) V')):=hR0.mono (by rintro e V' (⟨rfl,h⟩|⟨rfl,h⟩);exact⟨true,rfl,.inl ⟨rfl,h⟩⟩;exact⟨false,rfl,.inr ⟨rfl,h⟩⟩)
  have hqh:(256:Int)<=(c:Int):=by omega
  have hn0:¬ c=192:=by omega
  have x0:IntKind.i64.wrap (192:Int)=192:=by decide
  have x1:IntKind.i64.wrap (256:Int)=256:=by decide
  have x3:IntKind.i64.wrap (4:Int)=4:=by decide
  have x2:IntKind.i64.wrap (at'+3)=at'+3:=by rw[ky];omega
  clear hR0 hY hx hJs hit HJ
  gi_wp2_with fail
  gi_region_with_o (refine⟨(fun h=>by cases h),hR.out.mono ?_⟩;rintro e W3 ⟨B,rfl,hB⟩)
  all_goals
   cases B with
   | true =>
    rcases hB with ⟨_,hJ3,hk3⟩|⟨h,_⟩
    ·have h3:Hid (Boxed W3 Ba 3 (.int .i64 at')/\Boxed W3 Bp 52 (.slice (some ⟨b,o,none⟩) 256 c)):=⟨hk3 _ _ (.inl rfl) HB.out.1 rfl,hk3 _ _ (.inr rfl) HB.out.2 rfl⟩
     have HJ3:=qa hJ3
     clear hJ3 hk3 hR hy' cb cp HB
     gi_wp2
     go_roundw
     case rel=>exact⟨pre++[3],4,by go_num,by rw[xk,<-hk.out];rfl,by omega,h3,HJ3.out⟩
     case measure=>simp[intOf]
    cases h
   | false =>
    rcases hB with ⟨h,_⟩|⟨_,hJx3⟩
    ·cases h
    clear hR hy' cb cp HB
    gi_wp2
    refine Xk (Xp rfl _ _ _) rfl ?_;exact⟨⟨_,rfl⟩,.inr ⟨_,hJx3⟩⟩
 -- ROUNDS END
 have hS:SP pre wr:=hk.out.symm
 have HS:=qa hS
 have HJ0:=qa hJs
 clear hS hJs HJ hit HB cb cp hY
 gi_wp2
 go_end0
 exact⟨⟨_,rfl⟩,.inl ⟨_,HS.out,HJ0.out⟩⟩
attribute [local go_sem] ub
theorem qeo (h:DOk d) (hb:b.length=256) (h0:0<=at') (h1:at'<=(d.1.length:Int)-4) (hk:k<=4) (hc:d.2.length+k<=4096):DOk (d.1,d.2++pws at' b k):=by
 refine⟨h.1,h.2.1,?_,h.2.2.2.1,?_⟩
 ·show (d.2++_).length<=_
  rw[xk,yr];omega
 intro y hy;rcases xu.1 hy with hy|hy
 ·exact h.2.2.2.2 y hy
 obtain⟨i,hi,rfl⟩:=Vr hy;exact⟨⟨by dsimp only;omega,by dsimp only;omega⟩,Yl hb (by omega)⟩
theorem qka (h:DOk d) (hb:b.length=256) (h0:0<=at') (h1:at'<=(d.1.length:Int)-4) (hk:k<4) (hc:d.2.length+k<4096):Zv (d.1,d.2++pws at' b k) (at'+k) (JQ b k)=((d.1,d.2++pws at' b (k+1)),0):=by
 have hs:zX (d.1,d.2++pws at' b k) (at'+k)=0:=ZC.2 ⟨qeo h hb h0 h1 (by omega) (by omega),by show 0<=at'+(k:Int)/\at'+(k:Int)<(d.1.length:Int);omega⟩
 have hl:=Yl hb hk
 unfold Zv;rw[xh (fun e=>e hs),xh (by omega),xh (by show ¬ 4096<=(d.2++_).length;rw[xk,yr];omega),vj hl]
 show ((d.1,d.2++pws at' b k++[(at'+k,JQ b k)]),0)=_
 rw[xz];rfl
theorem qbg (h:DOk d) (hb:b.length=256) (h0:0<=at') (h1:at'<=(d.1.length:Int)-4) (hk:k<4) (hc:d.2.length+k=4096):Zv (d.1,d.2++pws at' b k) (at'+k) (JQ b k)=(([],[]),51):=by
 have hs:zX (d.1,d.2++pws at' b k) (at'+k)=0:=ZC.2 ⟨qeo h hb h0 h1 (by omega) (by omega),by show 0<=at'+(k:Int)/\at'+(k:Int)<(d.1.length:Int);omega⟩
 have hl:=Yl hb hk
 unfold Zv;rw[xh (fun e=>e hs),xh (by omega),xj (by show 4096<=(d.2++_).length;rw[xk,yr];omega)]
def ZP {α : Type} (s:Shp α):Prop:=∀ {F w cs x},s.own F w cs x->∀ b,b∈F->∃ o,w.heap[b]?=some o/\o.isCells=true
theorem qfv (k:IntKind):ZP (Shp.int k):=by
 rintro F w cs x ⟨rfl,_⟩ b hb;cases hb
theorem Yn:ZP Shp.octs:=by
 rintro F w cs x ⟨v,rfl,h,rfl⟩ b hb;rcases h.2 with ⟨rfl,_⟩|⟨g,cap,cur,rfl,h0,hg,r⟩
 ·cases hb
 simp[Value.ownBlock] at hb;subst hb;exact⟨_,hg,rfl⟩
theorem YU {α β : Type} {s:Shp α} {t:Shp β} (h1:ZP s) (h2:ZP t):ZP (s.pair t):=by
 rintro F w cs x ⟨c,d,G,H,rfl,rfl,k1,k2⟩ b hb;rcases xu.1 hb with h|h
 ·exact h1 k1 b h
 exact h2 k2 b h
theorem Yv {α : Type} {s:Shp α} (h1:ZP s) {w:World}:∀ {xs:List α} {F cc},zt s w F cc xs->∀ b,b∈F->∃ o,w.heap[b]?=some o/\o.isCells=true
 | [],F,cc,h,b,hb=>by rw[h.1] at hb;cases hb
 | x::xs,F,cc,⟨F1,F2,c1,c2,e1,e2,k1,k2⟩,b,hb=>by
  rw[e1] at hb;rcases xu.1 hb with h|h
  ·exact h1 k1 b h
  exact Yv h1 k2 b h
theorem YF {α : Type} {s:Shp α} (T:Nat) (h1:ZP s):ZP (Shp.list T s):=by
 rintro F w cs xs ⟨v,cc,G,rfl,k1,k2,rfl⟩ b hb;rcases xu.1 hb with h|h
 ·rcases k1.2 with ⟨rfl,_⟩|⟨g,cap,cur,rfl,h0,hg,r⟩
  ·cases h
  simp[Value.ownBlock] at h;subst h;exact⟨_,hg,rfl⟩
 exact Yv h1 k2 b h
theorem yP:ZP Zd:=YU (YF _ Yn) (YF _ (YU (qfv _) Yn))
theorem KpC.ownS {α : Type} {s:Shp α} (hs:ZP s) (h:KpC V V') {x : α} (o:Own s B V cs x):Own s B V' cs x:=by
 obtain⟨F,h1,h2,h3⟩:=o;refine⟨F,s.own_to h1 fun b hb=>?_,h2,h3⟩;obtain⟨o,e,hc⟩:=hs h1 b hb;exact(h.2 b o e hc).trans e.symm
theorem KpC.rdSec (h:KpC V V') {ss:List (List UInt8)} (hr:zp V v ss):zp V' v ss:=by
 obtain⟨ao,cap,rfl,h1,h2,h3,h4⟩:=hr;refine⟨ao,cap,rfl,h1,h2,h3,?_⟩;rcases h4 with h4|⟨b,off,rfl,hc⟩
 ·exact .inl h4
 refine .inr ⟨b,off,rfl,fun i x hx=>?_⟩;obtain⟨c,⟨v,e,hv⟩,hcell⟩:=hc i x hx;exact⟨c,⟨v,e,h.rd hv⟩,fun j u hj=>h.cell (hcell j u hj)⟩
theorem qq5 {o c:Nat} (h:Rd w (.slice (some ⟨g,o,none⟩) n c) b) (hg:V.heap[g]?=w.heap[g]?):Rd V (.slice (some ⟨g,o,none⟩) n c) b:=by
 obtain⟨ao,cap,e,h1,h2,h3,h4⟩:=h;refine⟨ao,cap,e,h1,h2,h3,?_⟩;rcases h4 with h4|⟨b',off,rfl,hc⟩
 ·exact .inl h4
 simp only[xH,xr,XO,XS] at e;obtain⟨⟨rfl,rfl⟩,_,_⟩:=e;exact .inr ⟨_,_,rfl,fun i hi=>(KX hg).trans (hc i hi)⟩
theorem Zq {P:Program} {fn:Func} {p q:Tmp} {t1 t2:TypeId} (h:fn.results=#[.cell p t1,.cell q t2]) (tmps:Array Value) (w:World) (g1 g2:Nat) (x y v2:Value) (t:TypeId) (fr:Nat×Nat) (d1 d2:TypeDesc)
 (hu1:P.underlying t1=some d1) (hd1:(match d1 with | .struct _ | .array _ _=>true|_=>false)=true) (hd2:(match d2 with | .struct _ | .array _ _=>true|_=>false)=false) (hi:(P.info? t1).map (·.size)=some 2) (hu2:P.underlying t2=some d2) (hp:tmps.getD p undef=.pointer (some ⟨g1,0,none⟩)) (hq:tmps.getD q undef=.pointer (some ⟨g2,0,none⟩))
 (c1:w.heap[g1]?=some (.cells #[x,y] t fr)) (c2:w.cell? ⟨g2,0,none⟩=some v2):(results fn tmps).run P w=.ok (.tuple #[.agg #[x,y],v2]) w:=by
 have hp':tmps[p]?.getD undef=.pointer (some ⟨g1,0,none⟩):=by simpa using hp
 have hq':tmps[q]?.getD undef=.pointer (some ⟨g2,0,none⟩):=by simpa using hq
 simp[results,h,hp',hq',asAddr,Kb w g1 t t1 #[x,y] fr d1 c1 hu1 hd1 hi,ZY d2 hd2 hu2 c2]
def ZM (U:World) (g:Nat) (p q r:Value):World:=((U.setCell ⟨g+1,0,none⟩ p).setCell ⟨g+1,1,none⟩ q).setCell ⟨g+1+1,0,none⟩ r
theorem Jt {x y:Value} {t:TypeId} {fr:Nat×Nat} (h:U.heap[g+1]?=some (.cells #[x,y] t fr)) (p q r:Value):(ZM U g p q r).heap[g+1]?=some (.cells #[p,q] t fr):=by
 unfold ZM;rw[xd _ _ _ _ (by show g+1≠g+1+1;omega)]
 exact qR h p q
theorem Jj {t:TypeId} (h:Boxed U (g+1+1) t v) (p q r:Value):Boxed (ZM U g p q r) (g+1+1) t r:=by
 unfold ZM
 have:Boxed ((U.setCell ⟨g+1,0,none⟩ p).setCell ⟨g+1,1,none⟩ q) (g+1+1) t v:=by
  show (_:Option Obj)=_
  rw[xd _ _ _ _ (by show g+1+1≠g+1;omega),xd _ _ _ _ (by show g+1+1≠g+1;omega)];exact h
 exact this.set r
theorem jj (h:Below B w U) (hg:B<=g) (p q r:Value):Below B w (ZM U g p q r) :=
 (qF h (show B<=g+1 by omega) p q).setCell (p:=⟨g+1+1,0,none⟩) (show B<=g+1+1 by omega) r
theorem qhf {α : Type} {s:Shp α} {x : α} (h:Own s B U cs x) (hg:g+1+1<B) (p q r:Value):Own s B (ZM U g p q r) cs x :=
 ((h.set (a:=⟨g+1,0,none⟩) (show g+1<B by omega) p).set (a:=⟨g+1,1,none⟩) (show g+1<B by omega) q).set (a:=⟨g+1+1,0,none⟩) hg r
theorem qcu (h1:k≠g+1) (h2:k≠g+1+1) (p q r:Value):(ZM U g p q r).heap[k]?=U.heap[k]?:=by
 unfold ZM;rw[xd _ _ _ _ h2,xd _ _ _ _ h1,xd _ _ _ _ h1]
theorem qcq (U:World) (g:Nat) (p q r:Value):KeepsOthers U (ZM U g p q r):=((XV _ _ _).trans (XV _ _ _)).trans (XV _ _ _)
def Jo (U:World) (g ge:Nat) (p q r:Value):World:=((U.setCell ⟨g,0,none⟩ p).setCell ⟨g,1,none⟩ q).setCell ⟨ge,0,none⟩ r
theorem Za {ge:Nat} (h1:k≠g) (h2:k≠ge) (p q r:Value):(Jo U g ge p q r).heap[k]?=U.heap[k]?:=by
 unfold Jo;rw[xd _ _ _ _ h2,xd _ _ _ _ h1,xd _ _ _ _ h1]
theorem Yr (U:World) (g ge:Nat) (p q r:Value):KeepsOthers U (Jo U g ge p q r):=((XV _ _ _).trans (XV _ _ _)).trans (XV _ _ _)
def IW (w:World) (d:Dsk) (at':Int) (b:List UInt8) (w2:World) (gb:Nat) (pre:List Nat) (V:World):Prop :=
 ∃ s c,Below w.heap.size w V/\V.heap[w.heap.size]?=some (.cells #[s,c] 43 (0,0))/\V.heap[w.heap.size+1]?=some (.cells #[.slice none 0 0,.slice none 0 0] 43 (0,0))/\Boxed V (w.heap.size+1+1) 31 (.int .i64 0)/\Boxed V w2.heap.size 31 (.int .i64 0)/\
  V.heap[gb]?=w2.heap[gb]? /\ zp V s d.1/\RdC V c (d.2++pws at' b pre.length)/\(1<=pre.length->Own Zd (w2.heap.size+1) V [s,c] (d.1,d.2++pws at' b pre.length))/\d.2.length+pre.length<=4096
def XW (w:World) (d:Dsk) (c:Code) (pre:List Nat) (V:World):Prop :=
 c=.ret/\4092<d.2.length/\Below w.heap.size w V/\V.heap[w.heap.size+1]?=some (.cells #[.slice none 0 0,.slice none 0 0] 43 (0,0))/\Boxed V (w.heap.size+1+1) 31 (.int .i64 51)
def qql (w w2:World) (s1 s2 s3:Value) (at' id:Int) (gb go gc:Nat) (x:Nat):Act:={tmps:=#[.agg #[s1,s2],.int .i64 at',.int .i64 id,s3,.pointer (some ⟨w.heap.size,0,none⟩),undef,undef,undef,.pointer (some ⟨w.heap.size+1,0,none⟩),.pointer (some ⟨w.heap.size+1+1,0,none⟩),.int .i64 0,.slice (some ⟨gb,go,none⟩) 256 gc,.pointer (some ⟨w2.heap.size,0,none⟩),.int .i64 (at'+(x:Int)),.slice (some ⟨gb,go+64*x,none⟩) 64 (gc-64*x),.agg #[s1,s2],.int .i64 at',.int .i64 0,.int .i64 0,.bool false,undef,undef,.tuple #[.slice (some ⟨gb,go,none⟩) 256 gc,.int .i64 0],.int .i64 id,s3,.tuple #[.slice (some ⟨gb,go,none⟩) 256 gc,.int .i64 0],.slice (some ⟨gb,go,none⟩) 256 gc,.int .i64 0,.int .i64 0,.bool false,undef,undef,.int .i64 at',.slice (some ⟨gb,go,none⟩) 256 gc,.func (.func 97) #[] #[.pointer (some ⟨w2.heap.size+1,0,none⟩),.pointer (some ⟨w2.heap.size+1+1,0,none⟩)],.int .i64 (at'+(x:Int)),.slice (some ⟨gb,go+64*x,none⟩) 64 (gc-64*x),undef,undef,undef,undef,undef,undef,undef,undef,undef,undef,undef,undef],defers:=[]}
def AW (w:World) (d:Dsk) (at':Int) (b:List UInt8) (w2:World) (s1 s2 s3:Value) (id:Int) (gb go gc:Nat) (pre:List Nat) (x:Nat) (a:Act) (V:World):Prop :=
 IW w d at' b w2 gb pre V/\RP pre x V/\a=qql w w2 s1 s2 s3 at' id gb go gc x
theorem qsc {w2:World} {gb:Nat} {pre:List Nat} (k:KpC X Y) (hb:Below w.heap.size w Y) (hgb:∃ o,w2.heap[gb]?=some o/\o.isCells=true) (h:IW w d at' b w2 gb pre X):IW w d at' b w2 gb pre Y:=by
 obtain⟨s,c,h1,h2,h3,h4,h5,h6,h7,h8,h9,h10⟩:=h;obtain⟨o,ho,hc⟩:=hgb;exact⟨s,c,hb,k.2 _ _ h2 rfl,k.2 _ _ h3 rfl,k.2 _ _ h4 rfl,k.2 _ _ h5 rfl,(k.2 _ _ (h6.trans ho) hc).trans ho.symm,k.rdSec h7,k.rdC h8,fun q=>k.ownS yP (h9 q),h10⟩
theorem qm9 (w:World) (d:Dsk) (at':Int) (b:List UInt8) (w2:World) (gb B:Nat) (hB:w.heap.size<=B) (hgb:∃ o,w2.heap[gb]?=some o/\o.isCells=true):OwnFrom B (IW w d at' b w2 gb):=by
 rintro pre X Y row h hg hr;have hb:Below w.heap.size w X:=by obtain⟨s,c,h1,_⟩:=h;exact h1
 exact qsc (KpC.of_grown hg hr) (hb.grown hg hb.size (fun k e=>by have:=(hr k e).1;omega)) hgb h
theorem qru (w:World) (d:Dsk) (B:Nat) (hB:w.heap.size<=B) (c:Code):OwnFrom B (XW w d c):=by
 rintro pre X Y row ⟨rfl,h0,hb,h2,h3⟩ hg hr;have kp:=KpC.of_grown hg hr
 exact⟨rfl,h0,hb.grown hg hb.size (fun k e=>by have:=(hr k e).1;omega),kp.2 _ _ h2 rfl,kp.2 _ _ h3 rfl⟩
theorem qdl (w:World) (sv cv v:Value) (d:Dsk) (at' id:Int) (x:List UInt8) (h1:zp w sv d.1) (h2:RdC w cv d.2) (hx:Rd w v x) :
 Calls Tryz.prog 38 #[.agg #[sv,cv],.int .i64 at',.int .i64 id,v] w fun e w'=>∃ sv' cv',e=.returned (.tuple #[.agg #[sv',cv'],.int .i64 (zG d at' id x).2])/\Own Zd w.heap.size w' [sv',cv'] (zG d at' id x).1/\Below w.heap.size w w':=by
 refine(kB (n:=5)).1 ?_;have sD:=qa (fun h=>@qdi d at' id x h)
 have sE:=qa (fun h h2=>@qef d at' id x h h2)
 have sF:=qa (fun h h2 h3=>@qdv d at' id x h h2 h3)
 have sY:=qa (fun h h2 h3=>@qi7 d at' id x h h2 h3)
 have KE:=qa (fun u h=>VG u id v x h)
 have hbl:=qa (fun(h:(zL id x).2=0)=>show (zL id x).1.length=256 by rw[(y8 h).2.2];exact Y3 _ (y8 h).2.1)
 obtain⟨bb,er,hb⟩:∃ bb er,zL id x=(bb,er):=⟨_,_,rfl⟩;rw[hb] at sE sF sY KE hbl;dsimp only at sE sF sY KE hbl;generalize hST:zG d at' id x=ST at *;clear hb hST;obtain⟨a1,c1,rfl⟩:=h1.slice;obtain⟨a2,c2,rfl⟩:=h2.slice;obtain⟨a3,c3,rfl⟩:=hx.slice;obtain⟨W,hW⟩:∃ W,W=((w.alloc (.cells #[.slice a1 d.1.length c1,.slice a2 d.2.length c2] 43)).alloc (.cells #[.slice none 0 0,.slice none 0 0] 43)).alloc (.cells #[.int .i64 0] 31):=⟨_,rfl⟩;have sW:W.heap.size=w.heap.size+1+1+1:=by rw[hW];simp
 have bW:Below w.heap.size w W:=by rw[hW];exact(((xm _ _).alloc (xc _) _).alloc (by simp) _).alloc (by simp<;>omega) _
 have hA:W.heap[w.heap.size]?=some (.cells #[.slice a1 d.1.length c1,.slice a2 d.2.length c2] 43 (0,0)):=by
  rw[hW,xR _ _ _ (by simp<;>omega),xR _ _ _ (by simp)];exact xy w _
 have hB:W.heap[w.heap.size+1]?=some (.cells #[.slice none 0 0,.slice none 0 0] 43 (0,0)):=by
  rw[hW,xR _ _ _ (by simp)]
  have:=xy (w.alloc (.cells #[.slice a1 d.1.length c1,.slice a2 d.2.length c2] 43)) (.cells #[.slice none 0 0,.slice none 0 0] 43);simpa using this
 have hC:Boxed W (w.heap.size+1+1) 31 (.int .i64 0):=by
  show W.heap[_]?=_
  rw[hW];have:=xy ((w.alloc (.cells #[.slice a1 d.1.length c1,.slice a2 d.2.length c2] 43)).alloc (.cells #[.slice none 0 0,.slice none 0 0] 43)) (.cells #[.int .i64 0] 31);simpa using this
 obtain⟨A0,A1,_,_⟩:=qh hA;have KC:=qa (vI W _ _ d at' (h1.to0 bW) (h2.to0 bW))
 obtain⟨E,hE⟩:∃ E,E=QX d at':=⟨_,rfl⟩;rw[<-hE] at KC;refine callsIn_of_wp_marks Tryz.func38 rfl trivial ?_ rfl;simp only[Tryz.ntmps38,Xb,xC,xX,Nat.reduceAdd,Nat.reduceSub,kD,kC,kN,kG,xG,xD]
 gi_wp2_with fail
 rw[<-hW];replace hW:=qa hW;refine⟨trivial,?_⟩;refine(kB.2 KC.out).mono ?_;rintro e w1 ⟨rfl,b1⟩;clear KC;have c1w:=bW.trans (b1.mono bW.size)
 have hA1:=(b1.block w.heap.size (by omega)).trans hA
 have hB1:=(b1.block (w.heap.size+1) (by omega)).trans hB
 have hC1:Boxed w1 (w.heap.size+1+1) 31 (.int .i64 0):=(b1.block _ (by omega)).trans hC
 have hs1:w.heap.size+1+1+1<=w1.heap.size:=by have:=b1.size;omega
 clear hA hB hC A0 A1 b1 bW;by_cases h0:E=0
 ·have hsec:Hid (QX d at'=0):=by show _=_;rw[<-hE];exact h0
  subst h0;replace hE:=qa hE;have KE1:=qa (KE.out w1 (hx.to c1w))
  clear KE
  gi_wp2_with fail
  refine⟨trivial,?_⟩;refine(kB.2 KE1.out).mono ?_;rintro e w2 ⟨v2,rfl,o2,b2⟩;clear KE1;have c2w:=c1w.trans (b2.mono c1w.size)
  have hA2:=(b2.block w.heap.size (by omega)).trans hA1
  have hB2:=(b2.block (w.heap.size+1) (by omega)).trans hB1
  have hC2:Boxed w2 (w.heap.size+1+1) 31 (.int .i64 0):=(b2.block _ (by omega)).trans hC1
  have hs2:=b2.size
  obtain⟨w4,hw4⟩:∃ u,u=w2.alloc (.cells #[.int .i64 er] 31):=⟨_,rfl⟩;have s4:w4.heap.size=w2.heap.size+1:=by rw[hw4];simp
  have b4:Below w2.heap.size w2 w4:=by rw[hw4];exact(xm _ _).alloc (xc _) _
  have hD4:Boxed w4 w2.heap.size 31 (.int .i64 er):=by rw[hw4];exact Kz w2 _ _
  have hk4:∀ k,k<w2.heap.size->w4.heap[k]?=w2.heap[k]?:=fun k hk=>b4.block k hk
  have c4w:=c2w.trans (b4.mono c2w.size)
  have hA4:=(hk4 w.heap.size (by omega)).trans hA2
  have hB4:=(hk4 (w.heap.size+1) (by omega)).trans hB2
  have hC4:Boxed w4 (w.heap.size+1+1) 31 (.int .i64 0):=(hk4 _ (by omega)).trans hC2
  clear hA1 hB1 hC1 hA2 hB2 hC2 b2 b4;by_cases he:er=0
  ·have hbL:=qa (hbl.out he)
   obtain⟨gb,go,gc,hv2,hgc,hgm,_,_⟩:=rdN o2.rd hbL.out (by decide)
   subst hv2
   have hgo:∃ o,w2.heap[gb]?=some o/\o.isCells=true:=by
    rcases o2.2 with ⟨e,_⟩|⟨g,cap,cur,e,_,hg,_⟩
    ·cases e
    simp only[xH,xr,XO,XS] at e;obtain⟨⟨rfl,rfl⟩,_,_⟩:=e;exact⟨_,hg,rfl⟩
   have hgb:gb<w2.heap.size:=by obtain⟨o,ho,_⟩:=hgo;exact xa ho
   have hgw:w1.heap.size<=gb:=o2.from gb rfl
   have r4:=qq5 o2.rd (hk4 gb hgb)
   have r2:=qa o2.rd
   subst he
   gi_wp2_with fail
   rw[<-hw4];replace hw4:=qa hw4;refine⟨trivial,?_⟩;refine(kB.2 (Vd w4 at' _ bb r4)).mono ?_;rintro e w' ⟨rfl,rfl⟩
   gi_wp2
   obtain⟨w5,hw5⟩:∃ u,u=(w4.alloc (.cells #[.int .i64 at'] 3)).alloc (.cells #[.slice (some ⟨gb,go,none⟩) 256 gc] 52):=⟨_,rfl⟩;have s5:w5.heap.size=w2.heap.size+1+1+1:=by rw[hw5];simp[s4]
   have b5:Below w4.heap.size w4 w5:=by rw[hw5];exact((xm _ _).alloc (xc _) _).alloc (by simp) _
   have ba:Boxed w5 (w2.heap.size+1) 3 (.int .i64 at'):=by
    rw[hw5,<-s4];exact(Kz w4 _ _).alloc _
   have bp:Boxed w5 (w2.heap.size+1+1) 52 (.slice (some ⟨gb,go,none⟩) 256 gc):=by
    rw[hw5,<-s4];have:=Kz (w4.alloc (.cells #[.int .i64 at'] 3)) 52 (.slice (some ⟨gb,go,none⟩) 256 gc)
    simpa using this
   have k5:∀ k,k<w4.heap.size->w5.heap[k]?=w4.heap[k]?:=fun k hk=>b5.block k hk
   have c5w:=c4w.trans (b5.mono c4w.size)
   obtain⟨hok,hp0,hp1⟩:=yl.1 hsec.out;have hsl:=hok.2.1
   have hcl:=hok.2.2.1
   have i5:IW w d at' bb w2 gb [] w5:=⟨_,_,c5w,(k5 _ (by omega)).trans hA4,(k5 _ (by omega)).trans hB4,(k5 _ (by omega)).trans hC4,(k5 _ (by omega)).trans hD4,(k5 _ (by omega)).trans (hk4 _ hgb),h1.to0 c5w,by simpa[pws] using h2.to0 c5w,fun h=>by simp at h,by simpa using hcl⟩
   rw[<-hw5];replace hw5:=qa hw5
   refine Je rfl (by decide) (gf:=97) (lb:=#[.pointer (some ⟨w2.heap.size+1,0,none⟩),.pointer (some ⟨w2.heap.size+1+1,0,none⟩)]) rfl trivial (enters_of Tryz.func97 (by kernel_rfl) rfl)
    (qah at' hp0 (by omega) gb go gc hgc w5 _ _ ba bp (5-1)) KpP.trans (fun X l o o' _ h1 h2 _=>KpP.put X l o o' h1 h2) (fun _=>rfl) (IW w d at' bb w2 gb) (XW w d) (AW w d at' bb w2 (.slice a1 d.1.length c1) (.slice a2 d.2.length c2) (.slice a3 x.length c3) id gb go gc)
    (qm9 w d at' bb w2 gb _ (by omega) hgo) (qru w d _ (by omega)) (fun _ _ _ _ h _ _=>h) (fun pre y a _ X Y row h hg hr=>⟨qm9 w d at' bb w2 gb _ (by omega) hgo pre X Y row h.1 hg hr,h.2⟩) i5 ?assign ?body ?done ?stop
   case assign =>
    rintro l pre y W' K hI hRW hK;have hk:=hK (qql w w2 (.slice a1 d.1.length c1) (.slice a2 d.2.length c2) (.slice a3 x.length c3) at' id gb go gc y) W' (KeepsFrom.refl _ _) (fun _ _ _ h _=>h) ⟨hI,hRW,rfl⟩
    have HK:=qa hk
    clear hk hK hI hRW;dsimp only[yM]
    gi_wp2
    exact HK.out
   case body =>
    rintro l pre y a' W' hl ⟨⟨s,c,i1,i2,i3,i4,i5',i6,i7,i8,i9,i10⟩,⟨hy,hy4⟩,rfl⟩;rw[<-hy] at i8 i9 i10;obtain⟨sa,sc,hs⟩:=i7.slice;obtain⟨ca,cc,hcv⟩:=i8.slice;obtain⟨L,hL⟩:∃ L,L=(d.2++pws at' bb y).length:=⟨_,rfl⟩;rw[<-hL] at hcv;subst hs hcv;obtain⟨gb',go',gc',hv',_,_,hR,_⟩:=rdN (qq5 r2.out i6) hbL.out (by decide)
    simp only[xH,xr,XO,XS,true_and] at hv';obtain⟨⟨rfl,rfl⟩,rfl⟩:=hv'
    have rP:Rd W' (.slice (some ⟨gb,go+64*y,none⟩) 64 (gc-64*y)) (JQ bb y):=by
     have:=hR (64*y) (64*y+64) (by omega) (by omega)
     rwa [show 64*y+64-64*y=64 by omega] at this
    have KP:=qa (VF W' _ _ _ (d.1,d.2++pws at' bb y) (at'+(y:Int)) (JQ bb y) i7 i8 rP)
    obtain⟨q0,q1,_,_⟩:=qh i2;have hWs:w2.heap.size+1<=W'.heap.size:=i5'.lt
    have hgw1:w.heap.size+1+1<w2.heap.size:=by omega
    have HI:=qa (xb i1 (xb i2 (xb i3 (xb i4 (xb i5' i6)))))
    have hyl:Hid ((pre++[y]).length=y+1):=by show _=_;rw[xk,<-hy];rfl
    have hi10:=qa i10
    have HOK:=qa hok
    replace hL:=qa hL;replace hy:=qa hy;clear i1 i2 i3 i4 i5' i6 i7 i8 i9 i10 hR rP hok hA4 hB4 hC4 hD4 ba bp;by_cases hf:d.2.length+y<4096
    ·rw[qka HOK.out hbL.out hp0 hp1 hy4 hf] at KP;dsimp only at KP;dsimp only[qql]
     gi_wp2_with fail
     refine⟨trivial,?_⟩;refine(kB.2 KP.out).mono ?_;rintro e w6 ⟨ys,yc,rfl,o6,b6⟩;clear KP q0 q1;obtain⟨P1,P2⟩:=Own.fst (c:=[ys]) (d:=[yc]) o6 rfl;obtain⟨ya,yx,hs⟩:=P1.rdS.slice;obtain⟨yb,yy,hcv⟩:=P2.rdS.slice;obtain⟨L2,hL2⟩:∃ L,L=(d.2++pws at' bb (y+1)).length:=⟨_,rfl⟩;rw[<-hL2] at hcv;replace hL2:=qa hL2;dsimp only at hs;subst hs hcv;clear P1 P2;obtain⟨i1,i2,i3,i4,i5',i6⟩:=HI.out;have A6:=(b6.block _ (xa i2)).trans i2
     obtain⟨y0,y1,y2,y3⟩:=qh A6
     have D6:Boxed ((w6.setCell ⟨w.heap.size,0,none⟩ (.slice ya d.1.length yx)).setCell ⟨w.heap.size,1,none⟩ (.slice yb L2 yy)) w2.heap.size 31 (.int .i64 0):=by
      show (_:Option Obj)=_
      rw[xd _ _ _ _ (by show w2.heap.size≠w.heap.size;omega),xd _ _ _ _ (by show w2.heap.size≠w.heap.size;omega)]
      exact(b6.block _ i5'.lt).trans i5'
     have p1:=D6.cell
     have p2:=D6.frozen
     have p3:=(D6.set (.int .i64 0)).cell
     have FIN:Hid (KeepsFrom w5.heap.size W' (Jo w6 w.heap.size w2.heap.size (.slice ya d.1.length yx) (.slice yb L2 yy) (.int .i64 0))/\KpP (w2.heap.size+1) (w2.heap.size+1+1) W' (Jo w6 w.heap.size w2.heap.size (.slice ya d.1.length yx) (.slice yb L2 yy) (.int .i64 0))/\
      IW w d at' bb w2 gb (pre++[y]) (Jo w6 w.heap.size w2.heap.size (.slice ya d.1.length yx) (.slice yb L2 yy) (.int .i64 0))):=by
      have k1:KeepsOthers W' w6:=⟨b6.size,fun k o h _=>(b6.block k (Xs.1 h).1).trans h⟩
      have oN:Own Zd (w2.heap.size+1) (Jo w6 w.heap.size w2.heap.size (.slice ya d.1.length yx) (.slice yb L2 yy) (.int .i64 0)) [.slice ya d.1.length yx,.slice yb L2 yy] (d.1,d.2++pws at' bb (y+1)) :=
       (((o6.set (a:=⟨w.heap.size,0,none⟩) (by show w.heap.size<W'.heap.size;omega) _).set (a:=⟨w.heap.size,1,none⟩) (by show w.heap.size<W'.heap.size;omega) _).set (a:=⟨w2.heap.size,0,none⟩) (by show w2.heap.size<W'.heap.size;omega) _).mono hWs
      obtain⟨P1,P2⟩:=Own.fst (c:=[.slice ya d.1.length yx]) (d:=[.slice yb L2 yy]) oN rfl;refine⟨(k1.trans (Yr _ _ _ _ _ _)).from _,?_,_,_,?_,?_,?_,?_,D6.set _,?_,P1.rdS,by rw[hyl.out];exact P2.rdS,fun _=>by rw[hyl.out];exact oN,by rw[hyl.out];omega⟩
      ·intro k o hk h1 _;rw[Za (by rcases hk with rfl|rfl<;>omega) (by rcases hk with rfl|rfl<;>omega)]
       exact(b6.block k (Xs.1 h1).1).trans h1
      ·exact(qF (i1.trans (b6.mono i1.size)) (xc _) _ _).setCell (p:=⟨w2.heap.size,0,none⟩) (by show w.heap.size<=w2.heap.size;omega) _
      ·unfold Jo;rw[xd _ _ _ _ (by show w.heap.size≠w2.heap.size;omega)]
       exact qR A6 _ _
      ·rw[Za (by omega) (by omega)];exact(b6.block _ (xa i3)).trans i3
      ·show (_:Option Obj)=_
       rw[Za (by omega) (by omega)];exact(b6.block _ i4.lt).trans i4
      rw[Za (by omega) (by omega)];exact(b6.block _ (by omega)).trans i6
     clear A6 D6 i1 i2 i3 i4 i5' i6 o6 b6 HI
     gi_wp2
     exact FIN.out
    have hf':d.2.length+y=4096:=by have:=hi10.out;omega
    rw[qbg HOK.out hbL.out hp0 hp1 hy4 hf'] at KP;dsimp only at KP;dsimp only[qql];replace hf:=qa hf;replace hf':=qa hf'
    gi_wp2_with fail
    refine⟨trivial,?_⟩;refine(kB.2 KP.out).mono ?_;rintro e w6 ⟨ys,yc,rfl,o6,b6⟩;clear KP q0 q1;obtain⟨P1,P2⟩:=Own.fst (c:=[ys]) (d:=[yc]) o6 rfl;obtain⟨ya,yx,hs⟩:=P1.rdS.slice;obtain⟨yb,yy,hcv⟩:=P2.rdS.slice;dsimp only[List.length_nil] at hs hcv;subst hs hcv;clear P1 P2;obtain⟨i1,i2,i3,i4,i5',i6⟩:=HI.out;have A6:=(b6.block _ (xa i2)).trans i2
    obtain⟨y0,y1,y2,y3⟩:=qh A6
    have D6:Boxed ((w6.setCell ⟨w.heap.size,0,none⟩ (.slice ya 0 yx)).setCell ⟨w.heap.size,1,none⟩ (.slice yb 0 yy)) w2.heap.size 31 (.int .i64 0):=by
     show (_:Option Obj)=_
     rw[xd _ _ _ _ (by show w2.heap.size≠w.heap.size;omega),xd _ _ _ _ (by show w2.heap.size≠w.heap.size;omega)]
     exact(b6.block _ i5'.lt).trans i5'
    have p1:=D6.cell
    have p2:=D6.frozen
    have p3:=(D6.set (.int .i64 51)).cell
    obtain⟨U,hU⟩:∃ U,U=Jo w6 w.heap.size w2.heap.size (.slice ya 0 yx) (.slice yb 0 yy) (.int .i64 51):=⟨_,rfl⟩;have B6:U.heap[w.heap.size+1]?=some (.cells #[.slice none 0 0,.slice none 0 0] 43 (0,0)):=by rw[hU,Za (by omega) (by omega)];exact(b6.block _ (xa i3)).trans i3
    have C6:Boxed U (w.heap.size+1+1) 31 (.int .i64 0):=by
     show (_:Option Obj)=_
     rw[hU,Za (by omega) (by omega)];exact(b6.block _ i4.lt).trans i4
    have bU:Below w.heap.size w U:=by
     rw[hU];exact(qF (i1.trans (b6.mono i1.size)) (xc _) _ _).setCell (p:=⟨w2.heap.size,0,none⟩) (by show w.heap.size<=w2.heap.size;omega) _
    have kU:KeepsOthers W' U:=by
     have k1:KeepsOthers W' w6:=⟨b6.size,fun k o h _=>(b6.block k (Xs.1 h).1).trans h⟩
     rw[hU];exact k1.trans (Yr _ _ _ _ _ _)
    have pU:U.cell? ⟨w2.heap.size,0,none⟩=some (.int .i64 51):=by rw[hU];exact p3
    obtain⟨r0,r1,f0,f1⟩:=qh B6;have e0:=C6.cell
    have e1:=C6.frozen
    have FIN:Hid (KeepsFrom w5.heap.size W' (ZM U w.heap.size (.slice none 0 0) (.slice none 0 0) (.int .i64 51)).drew/\XW w d .ret (pre++[y]) (ZM U w.heap.size (.slice none 0 0) (.slice none 0 0) (.int .i64 51)).drew) :=
     ⟨((kU.trans (qcq _ _ _ _ _)).trans (KeepsOthers.drew _)).from _,rfl,by have:=hf'.out;omega,yQ (jj bU (xc _) _ _ _),Jt B6 _ _ _,Jj C6 _ _ _⟩
    replace hU:((w6.setCell ⟨w.heap.size,0,none⟩ (.slice ya 0 yx)).setCell ⟨w.heap.size,1,none⟩ (.slice yb 0 yy)).setCell ⟨w2.heap.size,0,none⟩ (.int .i64 51)=U:=hU.symm;clear A6 D6 i1 i2 i3 i4 i5' i6 o6 b6 HI B6 C6 bU kU
    gi_wp2_with fail
    replace hU:=qa hU;have hmx:Tryz.prog.follows .mixedOrders=true:=qG
    gi_region_with_o (fail)
    all_goals
     gi_wp2
     exact FIN.out
   case done =>
    rintro D xs W' hD hSP ⟨s,c,i1,i2,i3,i4,i5',i6,i7,i8,i9,i10⟩ hK;have hx4:xs.length=4:=hSP
    rw[hx4] at i8 i9 i10;have hS:=qa (sY.out hsec.out (by trivial) (by omega))
    obtain⟨sa,sc,hs⟩:=i7.slice;obtain⟨ca,cc,hcv⟩:=i8.slice;obtain⟨L,hL⟩:∃ L,L=(d.2++pws at' bb 4).length:=⟨_,rfl⟩;rw[<-hL] at hcv;replace hL:=qa hL;subst hs hcv;obtain⟨q0,q1,_,_⟩:=qh i2;obtain⟨r0,r1,f0,f1⟩:=qh i3;have e0:=i4.cell
    have e1:=i4.frozen
    have hK6:(ZM W' w.heap.size (.slice sa d.1.length sc) (.slice ca L cc) (.int .i64 0)).heap[D]?=some (.deferred (some [])):=by rw[qcu (by omega) (by omega)];exact hK
    have FIN:=qa (xb hK6 (xb (Jt i3 (.slice sa d.1.length sc) (.slice ca L cc) (.int .i64 0)) (xb (Jj i4 (.slice sa d.1.length sc) (.slice ca L cc) (.int .i64 0)) (xb (qhf (g:=w.heap.size) (i9 (by decide)) (by omega) (.slice sa d.1.length sc) (.slice ca L cc) (.int .i64 0)) (jj i1 (xc _) (.slice sa d.1.length sc) (.slice ca L cc) (.int .i64 0))))))
    clear i1 i2 i3 i4 i5' i6 i7 i8 i9 i10 hK6 hx4 hSP hA4 hB4 hC4 hD4 ba bp
    gi_wp2
    obtain⟨hK6,e1',e2',e3',e4'⟩:=FIN.out;have kp:=KpC.put _ D _ (.deferred none) hK6 rfl
    refine⟨by simp,.inl ⟨_,_,rfl,Kt hK6,?_⟩⟩
    refine⟨_,Zq rfl _ _ _ _ _ _ _ _ _ _ _ Xd rfl rfl Qh Kq rfl rfl (kp.2 _ _ e1' rfl) (kp.cell e2'.cell),?_⟩;rw[hS.out];exact⟨_,_,rfl,(kp.ownS yP e3').mono (by omega),e4'.trans ⟨rfl,rfl,rfl,by simp[World.putObj,ZM],fun k hk=>XC (by omega)⟩⟩
   case stop =>
   rintro D c pre W' hD ⟨rfl,hf,hb,e1,e2⟩ hK;have hS:=qa (sF.out hsec.out (by trivial) hf)
   gi_wp2
   have kp:=KpC.put _ D _ (.deferred none) hK rfl
   refine⟨by simp,.inl ⟨_,_,rfl,Kt hK,?_⟩⟩
   refine⟨_,Zq rfl _ _ _ _ _ _ _ _ _ _ _ Xd rfl rfl Qh Kq rfl rfl (kp.2 _ _ e1 rfl) (kp.cell e2.cell),?_⟩;rw[hS.out];exact⟨_,_,rfl,zz _ _ _,hb.trans ⟨rfl,rfl,rfl,by simp[World.putObj],fun k hk=>XC (by omega)⟩⟩
  have hS:=qa (sE.out hsec.out he)
  have hee:(er != 0)=true:=by simpa using he
  replace he:=qa he;obtain⟨s2',t2',hv2⟩:=o2.rd.slice;subst hv2;obtain⟨r0,r1,f0,f1⟩:=qh hB4;have e0:=hC4.cell
  have e1:=hC4.frozen
  have d4:=hD4.cell
  rw[hw4] at d4;clear o2
  gi_wp2_with fail
  rw[<-hw4];rw[<-hw4] at d4;replace hw4:=qa hw4;have HX:Hid (Below w.heap.size w w4/\_/\_):=⟨c4w,hB4,hC4⟩
  clear hA4 hB4 hC4
  gi_region
  gi_wp2
  refine⟨_,Zq rfl _ _ _ _ _ _ _ _ _ _ _ Xd rfl rfl Qh Kq rfl rfl (Jt HX.out.2.1 _ _ _) (Jj HX.out.2.2 _ _ _).cell,?_⟩;rw[hS.out];exact⟨_,_,rfl,zz _ _ _,yQ (jj HX.out.1 (xc _) _ _ _)⟩
 have hS:=qa (sD.out (by rw[<-hE];exact h0))
 have hbe:(E != 0)=true:=by simpa using h0
 replace h0:=qa h0;replace hE:=qa hE;obtain⟨r0,r1,f0,f1⟩:=qh hB1;have cc:=(hC1.other (by omega:w.heap.size+1+1≠w.heap.size+1) (.slice none 0 0)).cell
 have cf:=hC1.frozen
 have HX:Hid (Below w.heap.size w w1/\_/\_):=⟨c1w,hB1,hC1⟩
 clear hA1 hB1 hC1
 gi_wp2
 refine⟨_,Zq rfl _ _ _ _ _ _ _ _ _ _ _ Xd rfl rfl Qh Kq rfl rfl (Jt HX.out.2.1 _ _ _) (Jj HX.out.2.2 _ _ _).cell,?_⟩;rw[hS.out];exact⟨_,_,by rw[<-hE.out],zz _ _ _,jj HX.out.1 (xc _) _ _ _⟩
theorem pages_say:PagesSay where
 encS w id v d h _ _:=VG w id v d h
 decS w v x h _:=VE w v x h
 writeS w sv cv v d at' id x h1 h2 hx _ _ _:=qdl w sv cv v d at' id x h1 h2 hx
 readS w sv cv d at' id h1 h2 _ _:=qe0 w sv cv d at' id h1 h2
theorem qcb (ps:List Pr) (key:Str):(qfl (Zo ps key)).2=ZS ps key:=by
 rw[<-qk2];cases Zo ps key<;>rfl
theorem qib {k:Str} (h:ZR k=true):1<=k.length/\k.length<=32:=by unfold ZR at h;have:=k6 h;omega
theorem OwnPg.base (h:OwnPg C w pv l) (hBC:B<=C):OwnPg B w pv l:=OwnX.base h hBC
theorem qft (w:World) (t:Tr) (pv:Value) (key val:Str) (h:RdC w pv t.pages) (hx:∀ x∈t.pages,x.2.length<=140737488351232) (hroot:(Lit.int .i64 t.root).wf=true) (hkl:key.length<=9223372036854775807) :
 Calls Tryz.prog 6 #[tv t pv,st key,st val] w fun e w'=>PutA w w' t key val e:=by
 obtain⟨W1,hW1,D1,b1,s1⟩:=qf w #[.int .i64 t.root,.int .i64 t.next,pv] 27
 obtain⟨W2,hW2,D2,b2,s2⟩:=qf W1 #[st key] 9;obtain⟨W3,hW3,D3,b3,s3⟩:=qf W2 #[st val] 9;obtain⟨X,hX,D4,b4,s4⟩:=qf W3 #[.int .i64 0,.int .i64 0,.slice none 0 0] 27;have b34:=b3.trans (b4.mono b3.size)
 have b24:=b2.trans (b34.mono b2.size)
 have bX:=b1.trans (b24.mono b1.size)
 have E1:=(b24.block _ (xa D1)).trans D1
 have E2:=(b34.block _ (xa D2)).trans D2
 have E3:=(b4.block _ (xa D3)).trans D3
 rw[s1] at E2;rw[s2,s1] at E3;rw[s3,s2,s1] at D4;have sX:X.heap.size=w.heap.size+1+1+1+1:=by rw[s4,s3,s2,s1]
 have KW:=qa (JH X t pv key hkl (h.to0 bX) hroot)
 obtain⟨pa,pc,rfl⟩:=h.slice;have HE:=qa (xb E1 (xb E2 (xb E3 D4)))
 have BX:=qa bX
 obtain⟨⟨A0,A1,A2⟩,AF⟩:=ql E1;have A3:=qt E2 (i:=0) rfl
 have A4:=qt E3 (i:=0) rfl
 rw[hX,hW3,hW2,hW1] at A0 A1 A2 AF A3 A4 KW;dsimp only[tv] at KW |-;replace hx:=qa hx;replace sX:=qa sX;clear D1 b1 D2 b2 D3 b3 D4 b4 b34 b24 bX E1 E2 E3 h s1 s2 s3 s4;go_enter Tryz.func6,Tryz.ntmps6
 go_wp2_with fail
 refine KW.out.mono ?_;rintro e w1 hp;rw[<-hW1,<-hW2,<-hW3,<-hX] at hp;clear A0 A1 A2 AF A3 A4 KW;replace hX:=qa hX;replace hW1:=qa hW1;replace hW2:=qa hW2;replace hW3:=qa hW3;rcases hp with ⟨g,bm,B,s,m,rfl,r2,r3,r4,r5,P1,hB1⟩|⟨err,rfl,r2,r3⟩
 ·have hps:=jK r3 r4 r5
  obtain⟨E1,E2,E3,D4⟩:=HE.out;have F2:=(P1.bel.block _ (xa E2)).trans E2
  have F3:=(P1.bel.block _ (xa E3)).trans E3
  have F4:=(P1.bel.block _ (xa D4)).trans D4
  have A3:=qt F2 (i:=0) rfl
  have A4:=qt F3 (i:=0) rfl
  by_cases hv:64<val.length
  ·have hq:(val.length:Int)>64:=by omega
   have HF:=qa F4
   obtain⟨⟨J0,J1,J2⟩,JF⟩:=ql F4;have HR:Hid (5=jc t key val):=(qcl hps r2 hv).symm
   have B1:=qa (BX.out.trans (P1.bel.mono BX.out.size))
   replace P1:=qa P1;replace hps:=qa hps;replace r2:=qa r2;replace r3:=qa r3;replace r4:=qa r4;clear E1 E2 E3 D4 F2 F3 F4 A3;go_wp2
   (try simp only[Exit.inBlock,Exit.then])
   refine QD rfl rfl (w.heap.size+1+1+1) rfl _ _ (0,0) (qK HF.out _ _ _) _ Xt rfl zi _ rfl ?_;exact .inl ⟨5,rfl,by decide,.inl HR.out,qD B1.out (show w.heap.size<=w.heap.size+1+1+1 by omega) _ _ _⟩
  have hq:¬ (val.length:Int)>64:=by omega
  have KV:=qa (yT X w1 B g bm t _ s m key P1 hB1 hroot r4)
  rw[qcb] at KV;obtain⟨TH,hTH⟩:∃ b,b=ZS s.prs key:=⟨_,rfl⟩;rw[<-hTH] at KV;have HP:=qa (xb P1 (xb hB1 (xb F2 (xb F3 F4))))
  have HD4:=qa D4
  have hgB:Hid (X.heap.size<=g/\g<B):=P1.hg
  replace hps:=qa hps;replace r2:=qa r2;replace r3:=qa r3;replace r4:=qa r4;replace hTH:=qa hTH;clear E1 E2 E3 D4 F2 F3 F4 P1 HE
  go_wp2_with fail
  refine KV.out.mono ?_;rintro e w2 ⟨rfl,b2⟩;obtain⟨P1,hB1',F2,F3,F4⟩:=HP.out;have P2:=P1.to b2
  have G2:=(b2.block _ (xa F2)).trans F2
  have G3:=(b2.block _ (xa F3)).trans F3
  have G4:=(b2.block _ (xa F4)).trans F4
  have hB2:B<=w2.heap.size:=xi hB1 b2.size
  obtain⟨d,hTT,hseen⟩:=qbs r4.out;have hTN:=(zI hps.out).1
  have KG:=qa (YS X w2 B g bm t (.slice pa t.pages.length pc) s m key 27 #[.pointer (some ⟨w.heap.size+1+1,0,none⟩),.pointer (some ⟨w.heap.size+1,0,none⟩)] (Jd key val) (jF key val) (fun _=>True) d P2 hB2 hroot r4.out r3.out r5 hTT hseen hx.out (qnq (qib r2.out) (by omega)) (fun _ _ _ _ _ _=>trivial) trivial
   (qsd G2 (by have:=sX.out;have:=hgB.out;omega) G3 (by have:=sX.out;have:=hgB.out;omega) hB2) (fun args u=>Tryz.call27 args u) hTN)
  obtain⟨⟨C0,C1,C2,C3⟩,⟨C4,C5⟩,CF⟩:=P2.cell;have B4:=qt G2 (i:=0) rfl
  have B5:=qt G3 (i:=0) rfl
  have B2:=qa (BX.out.trans (P2.bel.mono BX.out.size))
  have HG4:=qa G4
  replace hTT:=qa hTT;replace hseen:=qa hseen;replace hTN:=qa hTN;clear P1 F2 F3 F4 HP KV A3 A4 b2 P2 G2 G3 G4 C0 C1 C2 C3 C5
  have hcase:(TH=true/\Hid (jc t key val=0/\(jF key val s.prs).length<=4096))\/(TH=false/\((s.prs.length:Nat):Int)>=4096/\Hid (jc t key val=51))\/(TH=false/\¬ ((s.prs.length:Nat):Int)>=4096/\Hid (jc t key val=0/\(jF key val s.prs).length<=4096)):=by
   have hl:=qev key val s.prs
   cases TH with
   | true =>
    refine .inl ⟨rfl,Vn hps.out r2.out hv (fun hh=>by rw[<-hTH.out] at hh;exact absurd hh.2 (by simp)),?_⟩
    have:=qob hTH.out.symm
    omega
   | false =>
    by_cases h4:4096<=s.prs.length
    ·exact .inr (.inl ⟨rfl,by omega,qcd hps.out r2.out hv h4 hTH.out.symm⟩)
    refine .inr (.inr ⟨rfl,by omega,Vn hps.out r2.out hv (fun hh=>h4 hh.1),?_⟩)
    omega
  rcases hcase with ⟨rfl,hO⟩|⟨rfl,hf,hO⟩|⟨rfl,hf,hO⟩
  rotate_left
  ·obtain⟨⟨J0,J1,J2⟩,JF⟩:=ql HG4.out;clear KG B4 B5;go_wp2
   (try simp only[Exit.inBlock,Exit.then])
   refine QD rfl rfl (w.heap.size+1+1+1) rfl _ _ (0,0) (qK HG4.out _ _ _) _ Xt rfl zi _ rfl ?_;exact .inl ⟨51,rfl,by decide,.inl hO.out.symm,qD B2.out (show w.heap.size<=w.heap.size+1+1+1 by omega) _ _ _⟩
  all_goals
   go_wp2_with fail
   refine KG.out.mono ?_;rintro e w3 hc;rcases hc with ⟨pv3,hM,rfl,o3,b3⟩|⟨hM,rfl,b3⟩
   ·have hC:=qa (qng hTN.out hTT.out r5 (qnq (qib r2.out) (by omega)) hM hO.out.2)
    obtain⟨a3,c3,h3⟩:=o3.shape;subst h3;have D3:=(b3.block _ (xa HD4.out)).trans HD4.out
    have HD3:=qa D3
    obtain⟨⟨J0,J1,J2⟩,JF⟩:=ql D3;have B3:=qa (BX.out.trans (b3.mono BX.out.size))
    obtain⟨L9,hL9⟩:∃ n,n=(JO t key (Jd key val) d).pages.length:=⟨_,rfl⟩;rw[<-hL9] at o3;obtain⟨R9,hR9⟩:∃ n,n=(JO t key (Jd key val) d).root:=⟨_,rfl⟩;obtain⟨N9,hN9⟩:∃ n,n=(JO t key (Jd key val) d).next:=⟨_,rfl⟩
    dsimp only[tv];rw[<-hL9,<-hR9,<-hN9];replace hL9:=qa hL9;replace hR9:=qa hR9;replace hN9:=qa hN9;have O3:=qa o3
    replace hM:=qa hM;clear KG o3 b3 D3 C4 CF B4 B5;go_wp2
    (try simp only[Exit.inBlock,Exit.then])
    refine QD rfl rfl (w.heap.size+1+1+1) rfl _ _ (0,0) (qK HD3.out _ _ _) _ Xt rfl zi _ rfl ?_;have ks:=fun e (he:e≠27)=>QM HD3.out (.int .i64 R9) (.int .i64 N9) (.slice a3 L9 c3) he
    refine .inr ⟨JO t key (Jd key val) d,.slice a3 L9 c3,by rw[hR9.out,hN9.out];rfl,?_,qD B3.out (show w.heap.size<=w.heap.size+1+1+1 by omega) _ _ _,hO.out.1,s.prs,hps.out,hC.out⟩
    exact OwnPg.base (O3.out.keepT (ks _ (by decide)) (ks _ (by decide))) BX.out.size
   have D3:=(b3.block _ (xa HD4.out)).trans HD4.out
   have HD3:=qa D3
   obtain⟨⟨J0,J1,J2⟩,JF⟩:=ql D3;have B3:=qa (BX.out.trans (b3.mono BX.out.size))
   have hN:Hid (65495<t.next):=by
    show _<_
    have h1:=qaq (t:=t) (key:=key) (ed:=Jd key val) (Jf hTT.out r5)
    omega
   replace hM:=qa hM;clear KG b3 D3 C4 CF B4 B5;dsimp only[tv];go_wp2
   (try simp only[Exit.inBlock,Exit.then])
   refine QD rfl rfl (w.heap.size+1+1+1) rfl _ _ (0,0) (qK HD3.out _ _ _) _ Xt rfl zi _ rfl ?_;exact .inl ⟨51,rfl,by decide,.inr ⟨rfl,hO.out.1,hN.out⟩,qD B3.out (show w.heap.size<=w.heap.size+1+1+1 by omega) _ _ _⟩
 have hne:(err != 0)=true:=by rcases r2 with ⟨_,rfl⟩|⟨_,_,_,rfl⟩<;>rfl
 have HR:Hid (err≠0/\err=jc t key val):=by
  rcases r2 with ⟨q,rfl⟩|⟨l,q1,q2,rfl⟩
  ·exact⟨by decide,(qb4 q).symm⟩
  exact⟨by decide,(qes q1 q2).symm⟩
 have HF:=qa ((r3.block _ (xa HE.out.2.2.2)).trans HE.out.2.2.2)
 obtain⟨⟨J0,J1,J2⟩,JF⟩:=ql HF.out;have B1:=qa (BX.out.trans (r3.mono BX.out.size))
 clear r2 r3;go_wp2
 (try simp only[Exit.inBlock,Exit.then])
 refine QD rfl rfl (w.heap.size+1+1+1) rfl _ _ (0,0) (qK HF.out _ _ _) _ Xt rfl zi _ rfl ?_;exact .inl ⟨err,rfl,HR.out.1,.inl HR.out.2,qD B1.out (show w.heap.size<=w.heap.size+1+1+1 by omega) _ _ _⟩
theorem qfn (w:World) (t:Tr) (pv:Value) (key:Str) (h:RdC w pv t.pages) (hx:∀ x∈t.pages,x.2.length<=140737488351232) (hroot:(Lit.int .i64 t.root).wf=true) (hkl:key.length<=9223372036854775807) :
 Calls Tryz.prog 7 #[tv t pv,st key] w fun e w'=>DelA w w' t key e:=by
 obtain⟨W1,hW1,D1,b1,s1⟩:=qf w #[.int .i64 t.root,.int .i64 t.next,pv] 27
 obtain⟨X,hX,D4,b4,s4⟩:=qf W1 #[.int .i64 0,.int .i64 0,.slice none 0 0] 27;have bX:=b1.trans (b4.mono b1.size)
 have E1:=(b4.block _ (xa D1)).trans D1
 rw[s1] at D4;have sX:X.heap.size=w.heap.size+1+1:=by rw[s4,s1]
 have KW:=qa (JH X t pv key hkl (h.to0 bX) hroot)
 obtain⟨pa,pc,rfl⟩:=h.slice;have HE:=qa D4
 have BX:=qa bX
 obtain⟨⟨A0,A1,A2⟩,AF⟩:=ql E1;rw[hX,hW1] at A0 A1 A2 AF KW;dsimp only[tv] at KW |-;replace hx:=qa hx;replace sX:=qa sX;clear D1 b1 D4 b4 bX E1 h s1 s4;go_enter Tryz.func7,Tryz.ntmps7
 go_wp2_with fail
 refine KW.out.mono ?_;rintro e w1 hp;rw[<-hW1,<-hX] at hp;clear A0 A1 A2 AF KW;replace hX:=qa hX;replace hW1:=qa hW1;rcases hp with ⟨g,bm,B,s,m,rfl,r2,r3,r4,r5,P1,hB1⟩|⟨err,rfl,r2,r3⟩
 ·have hps:=jK r3 r4 r5
  have F4:=(P1.bel.block _ (xa HE.out)).trans HE.out
  have KV:=qa (yT X w1 B g bm t _ s m key P1 hB1 hroot r4)
  rw[qcb] at KV;obtain⟨TH,hTH⟩:∃ b,b=ZS s.prs key:=⟨_,rfl⟩;rw[<-hTH] at KV;have HP:=qa (xb P1 F4)
  have hgB:Hid (X.heap.size<=g/\g<B):=P1.hg
  replace hps:=qa hps;replace r2:=qa r2;replace r3:=qa r3;replace r4:=qa r4;replace hTH:=qa hTH;clear F4 P1
  go_wp2_with fail
  refine KV.out.mono ?_;rintro e w2 ⟨rfl,b2⟩;obtain⟨P1,F4⟩:=HP.out;have P2:=P1.to b2
  have G4:=(b2.block _ (xa F4)).trans F4
  have hB2:B<=w2.heap.size:=xi hB1 b2.size
  obtain⟨d,hTT,hseen⟩:=qbs r4.out;have hTN:=(zI hps.out).1
  have B2:=qa (BX.out.trans (P2.bel.mono BX.out.size))
  have HG4:=qa G4
  cases TH with
  | false =>
   have hlen:t.pages.length<=65536:=by have:=Zu r3.out.2.2 r3.out.1;have:=r3.out.2.1;omega
   have KC:=qa (yh w2 t (.slice pa t.pages.length pc) (P2.pg.to0 P2.bel) hlen hx.out)
   obtain⟨⟨C0,C1,C2,C3⟩,⟨C4,C5⟩,CF⟩:=P2.cell;replace hTT:=qa hTT;replace hseen:=qa hseen;replace hTN:=qa hTN;dsimp only[tv] at KC;clear P1 F4 HP KV b2 P2 G4 C3 C4 C5 hlen
   go_wp2_with fail
   refine KC.out.mono ?_;rintro e w3 ⟨pv3,rfl,o3,b3⟩;obtain⟨a3,c3,h3⟩:=o3.shape;subst h3;have D3:=(b3.block _ (xa HG4.out)).trans HG4.out
   have HD3:=qa D3
   obtain⟨⟨J0,J1,J2⟩,JF⟩:=ql D3;have B3:=qa (B2.out.trans (b3.mono B2.out.size))
   have O3:=qa o3
   clear KC o3 b3 D3 CF C0 C1 C2;dsimp only[tv];go_wp2
   (try simp only[Exit.inBlock,Exit.then])
   refine ZI rfl rfl (w.heap.size+1) rfl _ _ (0,0) (qK HD3.out _ _ _) _ Xt rfl zi _ rfl _ rfl ?_;have ks:=fun e (he:e≠27)=>QM HD3.out (.int .i64 t.root) (.int .i64 t.next) (.slice a3 t.pages.length c3) he
   refine .inr ⟨t,.slice a3 t.pages.length c3,s.prs,by rw[<-hTH.out];rfl,?_,qD B3.out (show w.heap.size<=w.heap.size+1 by omega) _ _ _,r2.out,hps.out,?_⟩
   ·exact OwnPg.base (O3.out.keepT (ks _ (by decide)) (ks _ (by decide))) B2.out.size
   rw[qkq hTH.out.symm];exact Chg.same hps.out
  | true =>
   have KG:=qa (YS X w2 B g bm t (.slice pa t.pages.length pc) s m key 30 #[] (J6 key) (ZW key) (KIn key) d P2 hB2 hroot r4.out r3.out r5 hTT hseen hx.out (qo1 key) qpb (qm4 hTH.out.symm)
    (qrs hB2) (fun args u=>Tryz.call30 args u) hTN)
   replace hTT:=qa hTT;replace hseen:=qa hseen;replace hTN:=qa hTN;clear P1 F4 HP KV b2 P2 G4
   go_wp2_with fail
   refine KG.out.mono ?_;rintro e w3 hc;rcases hc with ⟨pv3,hM,rfl,o3,b3⟩|⟨hM,rfl,b3⟩
   ·have hC:=qa (qng hTN.out hTT.out r5 (qo1 key) hM (xi (Yh key s.prs) r5))
    obtain⟨a3,c3,h3⟩:=o3.shape;subst h3;have D3:=(b3.block _ (xa HE.out)).trans HE.out
    have B3:=qa (BX.out.trans (b3.mono BX.out.size))
    obtain⟨L9,hL9⟩:∃ n,n=(JO t key (J6 key) d).pages.length:=⟨_,rfl⟩;rw[<-hL9] at o3;obtain⟨R9,hR9⟩:∃ n,n=(JO t key (J6 key) d).root:=⟨_,rfl⟩;obtain⟨N9,hN9⟩:∃ n,n=(JO t key (J6 key) d).next:=⟨_,rfl⟩
    dsimp only[tv];rw[<-hL9,<-hR9,<-hN9];replace hL9:=qa hL9;replace hR9:=qa hR9;replace hN9:=qa hN9;obtain⟨Y,hY,DY,bY,sY⟩:=qf w3 #[.int .i64 R9,.int .i64 N9,.slice a3 L9 c3] 27;have RY:=(bY.block _ (xa D3)).trans D3
    have OY:=o3.to9 bY
    have ks:=fun e (he:e≠27)=>QM RY (.int .i64 R9) (.int .i64 N9) (.slice a3 L9 c3) he
    have OF:=qa (OwnPg.base (OwnX.keepT OY (ks _ (by decide)) (ks _ (by decide))) BX.out.size)
    have BF:=qa (qD (B3.out.trans (bY.mono B3.out.size)) (show w.heap.size<=w.heap.size+1 by omega) (.int .i64 R9) (.int .i64 N9) (.slice a3 L9 c3))
    obtain⟨⟨L0,L1,L2⟩,LF⟩:=ql DY;obtain⟨⟨M0,M1,M2⟩,MF⟩:=ql RY;have HRZ:=qa RY
    rw[hY] at L0 L1 L2 LF M0 M1 M2 MF HRZ OF BF;replace hM:=qa hM;clear KG o3 b3 D3 RY OY ks DY bY hY sY;go_wp2
    (try simp only[Exit.inBlock,Exit.then])
    refine ZI rfl rfl (w.heap.size+1) rfl _ _ (0,0) (qK HRZ.out _ _ _) _ Xt rfl zi _ rfl _ rfl ?_;refine .inr ⟨JO t key (J6 key) d,.slice a3 L9 c3,s.prs,by rw[<-hTH.out,hR9.out,hN9.out];rfl,OF.out,BF.out,r2.out,hps.out,hC.out⟩
   have D3:=(b3.block _ (xa HE.out)).trans HE.out
   have B3:=qa (BX.out.trans (b3.mono BX.out.size))
   obtain⟨Y,hY,DY,bY,sY⟩:=qf w3 #[.int .i64 0,.int .i64 0,.slice none 0 0] 27;have RY:=(bY.block _ (xa D3)).trans D3
   have BF:=qa (qD (B3.out.trans (bY.mono B3.out.size)) (show w.heap.size<=w.heap.size+1 by omega) (.int .i64 0) (.int .i64 0) (.slice none 0 0))
   have hN:Hid (65495<t.next):=by
    show _<_
    have h1:=qaq (t:=t) (key:=key) (ed:=J6 key) (Jf hTT.out r5)
    omega
   obtain⟨⟨L0,L1,L2⟩,LF⟩:=ql DY;obtain⟨⟨M0,M1,M2⟩,MF⟩:=ql RY;have HRZ:=qa RY
   rw[hY] at L0 L1 L2 LF M0 M1 M2 MF HRZ BF;replace hM:=qa hM;clear KG b3 D3 RY DY bY hY sY;dsimp only[tv];go_wp2
   (try simp only[Exit.inBlock,Exit.then])
   refine ZI rfl rfl (w.heap.size+1) rfl _ _ (0,0) (qK HRZ.out _ _ _) _ Xt rfl zi _ rfl _ rfl ?_;exact .inl ⟨51,rfl,by decide,.inr (.inr ⟨⟨_,hps.out⟩,r2.out,rfl,hN.out⟩),BF.out⟩
 have hne:(err != 0)=true:=by rcases r2 with ⟨_,rfl⟩|⟨_,_,_,rfl⟩<;>rfl
 have HR:Hid (err≠0/\((QR t=none/\err=9)\/((∃ ps,QR t=some ps)/\ZR key=false/\err=91))):=by
  rcases r2 with ⟨q,rfl⟩|⟨l,q1,q2,rfl⟩
  ·exact⟨by decide,.inl ⟨q,rfl⟩⟩
  exact⟨by decide,.inr ⟨⟨l,q1⟩,q2,rfl⟩⟩
 have HF:=qa ((r3.block _ (xa HE.out)).trans HE.out)
 obtain⟨⟨J0,J1,J2⟩,JF⟩:=ql HF.out;have B1:=qa (BX.out.trans (r3.mono BX.out.size))
 clear r2 r3;go_wp2
 (try simp only[Exit.inBlock,Exit.then])
 refine ZI rfl rfl (w.heap.size+1) rfl _ _ (0,0) (qK HF.out _ _ _) _ Xt rfl zi _ rfl _ rfl ?_;exact .inl ⟨err,rfl,HR.out.1,HR.out.2.elim .inl (fun q=>.inr (.inl q)),qD B1.out (show w.heap.size<=w.heap.size+1 by omega) _ _ _⟩
theorem qnt {lo:Str} {hi:Option Str} {k:Str} (h:kin lo hi k=true):slt k lo=false:=by
 simp only[kin,xL,Xl] at h;exact h.1
theorem qo3 {lo b:Str} {k:Str} (h:kin lo (some b) k=true):slt k b=true:=by
 simp only[kin,xL] at h;exact h.2
theorem Seg.low {l:List Wrt} {d:Nat}:∀ {bs:List Br} {lo:Str} {hi:Option Str},Seg l d lo hi bs->∀ y∈Qp l d bs,slt y.1 lo=false
 | [],_,_,k=>k.elim
 | [b],lo,hi,k=>fun y hy=>qnt (TOk.kin k y (by simpa[Qp] using hy))
 | b::c::r,lo,hi,k=>fun y hy=>by
  have e:Qp l d (b::c::r)=pOf l d b.2++Qp l d (c::r):=by simp[Qp]
  rw[e,xu] at hy;rcases hy with hy|hy
  ·exact qnt (TOk.kin k.1 y hy)
  have h1:=Seg.low k.2 y hy
  have h2:=TOk.room k.1
  exact YW (Qb h2) h1
theorem qei {l:List Wrt} {d:Nat} (ih:∀ {id:Int} {lo:Str} {hi:Option Str},TOk l d id lo hi->jf ((pOf l d id).map (·.1))):∀ {bs:List Br} {lo:Str} {hi:Option Str},Seg l d lo hi bs->jf ((Qp l d bs).map (·.1))
 | [],_,_,k=>k.elim
 | [b],lo,hi,k=>by
  have e:Qp l d [b]=pOf l d b.2:=by simp[Qp]
  rw[e];exact ih k
 | b::c::r,lo,hi,k=>by
  have e:Qp l d (b::c::r)=pOf l d b.2++Qp l d (c::r):=by simp[Qp]
  rw[e,Xj];refine Kd.2 ⟨ih k.1,qei ih k.2,fun a ha x hx=>?_⟩;obtain⟨y,hy,rfl⟩:=Xx.1 ha;obtain⟨z,hz,rfl⟩:=Xx.1 hx;exact zx (qo3 (TOk.kin k.1 y hy)) (Seg.low k.2 z hz)
theorem qfg {l:List Wrt}:∀ {d:Nat} {id:Int} {lo:Str} {hi:Option Str},TOk l d id lo hi->jf ((pOf l d id).map (·.1))
 | 0,id,lo,hi,h=>by
  obtain⟨nd,_,⟨ps,rfl,hp,_⟩,_,e⟩:=JR h;rw[e];show jf ((npr (lf ps)).map (·.1))
  rw[yX];exact hp.1
 | d+1,id,lo,hi,h=>by
  obtain⟨nd,_,⟨bs,rfl,_,sg⟩,_,e⟩:=JR h;rw[e];show jf (((inr bs).kids.flatMap (pOf l d)).map (·.1))
  rw[zu];exact qei (fun h=>qfg h) sg
theorem qkw (h:QR t=some ps):jf (ps.map (·.1)):=by
 obtain⟨_,_,s,hs,e⟩:=zI h;obtain⟨d,hT⟩:=qqo hs;rw[e] at hT;rcases hT with ⟨_,_,rfl⟩|⟨_,_,hk,_,rfl⟩
 ·exact List.Pairwise.nil
 exact qfg hk
theorem qkl (k:Str) (l:List Pr) {y:Pr} (h:l[i]?=some y):ZW k (l.take (i+1))=if(y.1 == k)=true then ZW k (l.take i) else ZW k (l.take i)++[y]:=by
 unfold ZW;rw[Xf,h,X6];by_cases e:(y.1 == k)=true
 ·rw[xj e];simp[X7,e]
 rw[xh e];simp[X7,e]
theorem qb3 (k:Str):∀ l:List Pr,decide ((ZW k l).length<l.length)=ZS l k
 | []=>rfl
 | y::r=>by
  have ih:=qb3 k r
  have h1:=Yh k r
  unfold ZW ZS at *;rw[X7,List.any_cons];cases e:(y.1 == k) with
  | true =>
   simp only[Bool.not_true,xI,XJ,Bool.true_or,XU,xC];omega
  | false =>
   simp only[Bool.not_false,kS,Bool.false_or,xC];rw[<-ih];apply decide_eq_decide.2;omega
theorem qqb (w:World) (v:Value) (l:List Pr) (key:Str) (h:RdP w v l) (hl:l.length<=1000000) :
 Calls Tryz.prog 23 #[v,st key] w fun e w'=>∃ v',e=.returned (.tuple #[v',.bool (ZS l key)])/\OwnP w.heap.size w' v' (ZW key l)/\Below w.heap.size w w':=by
 obtain⟨a,c,rfl⟩:=h.slice;obtain⟨L,hL⟩:∃ L,L=l.length:=⟨_,rfl⟩;rw[<-hL] at h hl |-;replace hL:=qa hL;have HH:=qa h
 clear h;go_enter Tryz.func23,Tryz.ntmps23;go_wp2
 go_loopw [6,7] (fun o p wr=>∃ i:Nat,i<=L/\p=.int .i64 i/\Hid (OwnP w.heap.size wr o (ZW key (l.take i))/\Below w.heap.size w wr)) (fun _ p _=>L-(intOf p).toNat)
 case atStart=>exact⟨0,xt _,rfl,qa ⟨xA _ _ _ _,xm _ _⟩⟩
 case round =>
 obtain⟨i,hi,rfl,hI⟩:=hrel;by_cases hlt:i<L
 ·have hq:(i:Int)<(L:Int):=by omega
  obtain⟨y,hy⟩:=qz l (k:=i) (by rw[<-hL.out];exact hlt)
  obtain⟨b,off,rfl,hc1,hc2⟩:=(HH.out.to0 hI.out.2).prAt hy;have hS:=qa (qkl key l hy)
  have hN:Hid ((ZW key (l.take i)).length<=i):=by
   show _<=_
   have h1:=Yh key (l.take i)
   have h2:=Kh i l
   omega
  obtain⟨out,hs⟩:∃ s,s=ZW key (l.take i):=⟨_,rfl⟩;rw[<-hs] at hI hS hN;replace hs:=qa hs;replace hy:=qa hy;obtain⟨y1,y2⟩:=y;dsimp only at hc1 hc2;cases he:(y1 == key) with
  | true =>
   rw[xj he] at hS;go_wp2;go_roundw
   case rel=>exact⟨i+1,by omega,by go_num,by rw[hS.out];exact hI⟩
   case measure=>simp[intOf];omega
  | false =>
   rw[xh (by simp[he])] at hS
   obtain⟨V,hV,D,bV,sV⟩:=qf wr #[st y1,st y2] 63;obtain⟨⟨C0,C1⟩,_⟩:=Qc D;have OW:=qB hI.out.1 bV
   have BB:=qa (hI.out.2.trans (bV.mono hI.out.2.size))
   have hn:(out.length+1)*32<=140737488355328:=by have:=hN.out;omega
   have hB2:w.heap.size<=V.heap.size:=BB.out.size
   rw[hV] at C0 C1 OW hB2;replace C0:=qa C0;replace C1:=qa C1;replace OW:=qa OW;clear D bV
   go_wp2_with (at_builtin;refine zW rfl _ _ rfl w.heap.size _ out (y1,y2) wr.heap.size rfl rfl OW.out C0.out C1.out hn hB2 ?_;intro v1 w3 o1 b1 _)
   replace o1:=qa o1;rw[<-hV] at b1;have B3:=qa (BB.out.trans b1)
   clear b1;go_wp2;go_roundw
   case rel=>exact⟨i+1,by omega,by go_num,by rw[hS.out];exact⟨o1.out,B3.out⟩⟩
   case measure=>simp[intOf];omega
 have hq:¬ (i:Int)<(L:Int):=by omega
 have ht:l.take i=l:=xx (by rw[<-hL.out];omega)
 rw[ht] at hI;obtain⟨oa,oc,ho⟩:=(OwnP.rd hI.out.1).slice;obtain⟨M,hM⟩:∃ n,n=(ZW key l).length:=⟨_,rfl⟩;have hr:=qb3 key l
 rw[<-hM,<-hL.out] at hr;rw[<-hM] at ho;subst ho;replace hM:=qa hM;replace hr:=qa hr;go_wp2
 go_ret2
 exact⟨.slice oa M oc,XE (fun b=>Ending.returned (.tuple #[.slice oa M oc,.bool b])) hr.out,hI.out.1,hI.out.2⟩
theorem qe9 (w:World) (t:Tr) (pv:Value) (k v:Str) (hk:k.length<=9223372036854775807) (hv:v.length<=9223372036854775807) (h:RdC w pv t.pages):Calls Tryz.prog 20 #[tv t pv,st k,st v] w fun e w' =>
 e=.returned (.int .i64 (jc t k v))/\Below w.heap.size w w':=by
 obtain⟨W,hW,D,bW,sW⟩:=qf w #[.int .i64 t.root,.int .i64 t.next,pv] 68
 have KN:=qa (qnn W t pv (h.to0 bW))
 obtain⟨a,c,rfl⟩:=h.slice;obtain⟨⟨D0,D1,D2⟩,_⟩:=ql D;have HB:=qa bW
 rw[hW] at D0 D1 D2 KN;dsimp only[tv] at KN |-;clear h bW D sW;generalize t.root=root at *;generalize t.next=next at *
 generalize t.pages.length=L at *;obtain⟨R,hR⟩:∃ R,R=jc t k v:=⟨_,rfl⟩;rw[<-hR];replace hR:=qa hR;go_enter Tryz.func20,Tryz.ntmps20
 go_wp2_with fail
 refine KN.out.mono ?_;rintro e w1 ⟨pv1,err,rfl,hp,b1⟩;rw[<-hW] at b1;have B1:=qa (HB.out.trans (b1.mono HB.out.size))
 clear b1 KN HB hW D0 D1 D2;rcases hp with ⟨l,h1,rfl,h3⟩|⟨h1,rfl,rfl⟩
 ·have KK:=qa (qnz w1 k hk)
  have KH:=qa (qgf w1 _ l k (OwnP.rd h3))
  obtain⟨pa,pc,rfl⟩:=(OwnP.rd h3).slice;obtain⟨M,hM⟩:∃ M,M=l.length:=⟨_,rfl⟩;rw[<-hM] at KH |-;replace hM:=qa hM;replace h1:=qa h1;clear h3
  go_wp2_with fail
  refine KK.out.mono ?_;rintro e w2 ⟨rfl,rfl⟩;cases ht:ZR k with
  | false =>
   have hr:Hid (R=91):=by show _=_;rw[hR.out];exact qes h1.out ht
   go_wp2;go_ret;exact⟨qb6 hr.out.symm,B1.out⟩
  | true =>
   replace ht:=qa ht;by_cases h6:64<v.length
   ·have hr:Hid (R=5):=by show _=_;rw[hR.out];exact qcl h1.out ht.out h6
    have hq:(v.length:Int)>64:=by omega
    go_wp2;go_ret;exact⟨qb6 hr.out.symm,B1.out⟩
   have hq:¬ (v.length:Int)>64:=by omega
   by_cases h4:4096<=M
   ·have hq4:(M:Int)>=4096:=by omega
    go_wp2_with fail
    refine KH.out.mono ?_;rintro e w2 ⟨rfl,rfl⟩;cases hh:ZS l k with
    | true =>
     have hr:Hid (R=0):=by show _=_;rw[hR.out];exact Vn h1.out ht.out h6 (fun q=>by rw[hh] at q;exact absurd q.2 (by simp))
     go_wp2;go_ret;exact⟨qb6 hr.out.symm,B1.out⟩
    | false =>
     have hr:Hid (R=51):=by show _=_;rw[hR.out];exact qcd h1.out ht.out h6 (by rw[<-hM.out];exact h4) hh
     go_wp2;go_ret;exact⟨qb6 hr.out.symm,B1.out⟩
   have hq4:¬ (M:Int)>=4096:=by omega
   have hr:Hid (R=0):=by show _=_;rw[hR.out];exact Vn h1.out ht.out h6 (fun q=>h4 (by rw[hM.out];exact q.1))
   go_wp2;go_ret;exact⟨qb6 hr.out.symm,B1.out⟩
 have hr:Hid (R=9):=by show _=_;rw[hR.out];exact qb4 h1
 go_wp2;go_ret;exact⟨qb6 hr.out.symm,B1.out⟩
abbrev vU (B:Nat) (w:World) (v:Value) (ws:List Wrt):Prop:=OwnX 120 B w v ws
theorem ql9:(Tryz.prog.info? 120).map (fun i=>(i.zero,i.size,i.bytes))=some (some (.agg #[.int .i64 0,.slice none 0 0]),2,32):=by kernel_rfl
theorem qna:(Tryz.prog.info? 68).map (·.size)=some 3:=by kernel_rfl
theorem qdt {a:Act} {Q:Exit->Act->World->Prop} (hgd:o.guard=none) (s x:Operand)
 (ho:o.op=.call {callee:=.builtin .append,args:=#[s,x],argTypes:=#[66,66]}) (B:Nat) (v:Value) (ws:List Wrt) (f:Wrt) (sv:Value) (g:Nat) (hs:a.eval s=v) (hx:a.eval x=.slice (some ⟨g,0,none⟩) 1 1)
 (hown:vU B w v ws) (hsv:OwnB B w sv f.2) (hone:sv.oneCell'=true) (hc1:w.cell? ⟨g,0,none⟩=some (.int .i64 f.1)) (hc2:w.cell? ⟨g,1,none⟩=some sv) (hlen:(ws.length+1)*32<=140737488355328) (hB:B<=w.heap.size)
 (h:∀ v' w',vU B w' v' (ws++[f])->w.grownBy w' v.ownBlock->Below B w w'->(∀ e,e≠120->KeepT e w w')->wpList Tryz.prog ops Q rest (a.put o.dst v') w'):wpList Tryz.prog ops Q (o::rest) a w:=by
 obtain⟨i0,hi,hz0,hz1,hz2⟩:=Xh ql9;obtain⟨svs,h1,h2,h3⟩:=hown
 have n2:∀ j u,[Value.int .i64 f.1,sv][j]?=some u->w.cell? ((⟨g,0,none⟩:Addr).add j)=some u:=by
  intro j u hj
  match j,hj with
  | 0,hj=>simp at hj;subst hj;simpa[Addr.add] using hc1
  | 1,hj=>simp at hj;subst hj;simpa[Addr.add] using hc2
  | j+2,hj=>simp at hj
 refine kO _ hgd s x 66 ho B 120 i0 (.agg #[.int .i64 0,.slice none 0 0]) 2 32 Tryz.underlying66 hi hz0 hz1 hz2 rfl (by decide) v ws.length (Ze ws svs) hs h2 ⟨g,0,none⟩ 1 1 [.int .i64 f.1,sv] hx rfl n2
  (fun u hu=>by simp at hu;rcases hu with rfl|rfl;rfl;exact hone) (by rw[show maxLen=9223372036854775807 from rfl];omega) hlen hB ?_
 intro v' w' q1 q2 _;exact h v' w' (OwnX.snoc (by decide) h1 h2 h3 hsv q2 (by simpa using q1)) q2 ((xm _ _).grown q2 hB (fun k hk=>(xo h2 k hk).1)) (fun e he=>KeepT.grown h2 q2 he)
theorem qje (w:World) (t:Tr) (pv:Value) (h:RdC w pv t.pages) (hl:(t.pages.length+1)*32<=140737488355328) (hx:∀ x∈t.pages,x.2.length<=140737488351232) :
 Calls Tryz.prog 21 #[tv t pv] w fun e w'=>∃ pv',e=.returned (tv t pv')/\vU w.heap.size w' pv' t.pages/\Below w.heap.size w w':=by
 obtain⟨root,next,ps⟩:=t
 obtain⟨a,c,rfl⟩:=h.slice;dsimp only[tv] at *;obtain⟨W,hW,DW,bW,sW⟩:=qf w #[.int .i64 root,.int .i64 next,.slice a ps.length c] 27
 obtain⟨X,hX,DX,bX,sX⟩:=qf W #[.int .i64 0,.int .i64 0,.slice none 0 0] 68;obtain⟨Y,hY,DY,bY,sY⟩:=qf X #[.int .i64 root,.int .i64 next,.slice none 0 0] 68
 have bWX:=bW.trans (bX.mono bW.size)
 have bWY:=bWX.trans (bY.mono bWX.size)
 have O1:vU Y.heap.size Y (.slice none 0 0) []:=⟨[],rfl,xA _ _ _ _,fun i hi=>by simp at hi⟩
 have D0:=(bX.block _ (xa DW)).trans DW
 obtain⟨⟨E0,E1,E2⟩,EF⟩:=ql D0;have D1:=(bY.block _ (xa D0)).trans D0
 have X1:=(bY.block _ (xa DX)).trans DX
 have HH:=qa h
 have HY:=qa bWY
 have hBX:=qa D1
 have hRX:=qa X1
 have hOX:=qa DY
 rw[sW] at hRX;rw[sX,sW] at hOX;have hsz:Hid (Y.heap.size=w.heap.size+1+1+1):=by show _=_;rw[sY,sX,sW]
 have HI:Hid (vU Y.heap.size Y (.slice none 0 0) (ps.take 0)/\Y.heap[w.heap.size+1+1]?=some (.cells #[.int .i64 root,.int .i64 next,.slice none 0 0] 68 (0,0))/\Y.heap[w.heap.size]?=some (.cells #[.int .i64 root,.int .i64 next,.slice a ps.length c] 27 (0,0))/\Y.heap[w.heap.size+1]?=some (.cells #[.int .i64 0,.int .i64 0,.slice none 0 0] 68 (0,0))/\Below w.heap.size w Y):=⟨O1,hOX.out,hBX.out,hRX.out,bWY⟩
 rw[hX,hW] at E0 E1 E2 EF;clear h bW bX DW DX D1 X1 O1 bWX bWY DY D0 bY;go_enter Tryz.func21,Tryz.ntmps21;go_wp2;rw[<-hW,<-hX,<-hY];replace hX:=qa hX;replace hW:=qa hW;replace hY:=qa hY;clear E0 E1 E2 EF hBX hRX hOX
 go_loopw [4] (fun p wr=>∃ k:Nat,k<=ps.length/\p=.int .i64 k/\∃ v,Hid (vU Y.heap.size wr v (ps.take k)/\wr.heap[w.heap.size+1+1]?=some (.cells #[.int .i64 root,.int .i64 next,v] 68 (0,0))/\wr.heap[w.heap.size]?=some (.cells #[.int .i64 root,.int .i64 next,.slice a ps.length c] 27 (0,0))/\wr.heap[w.heap.size+1]?=some (.cells #[.int .i64 0,.int .i64 0,.slice none 0 0] 68 (0,0))/\Below w.heap.size w wr)) (fun p _=>ps.length-(intOf p).toNat)
 case atStart=>exact⟨0,xt _,rfl,_,HI⟩
 case round =>
 obtain⟨k,hk,rfl,v,hI⟩:=hrel;clear HI;obtain⟨oa,oc,ho⟩:=hI.out.1.shape;rw[xp,ke hk] at ho;subst ho;obtain⟨⟨A0,A1,A2⟩,AF⟩:=ql hI.out.2.2.1;obtain⟨⟨T0,T1,T2⟩,TF⟩:=ql hI.out.2.1;by_cases hlt:k<ps.length
 ·have hq:(k:Int)<(ps.length:Int):=by omega
  obtain⟨y,hy⟩:∃ y,ps[k]?=some y:=⟨_,xg hlt⟩;have hxl:=hx y (xQ hy)
  have hsn:=qa (qap hy)
  obtain⟨b,off,u,e1,hc1,hc2,hr⟩:=HH.out.wrt hy;subst e1;obtain⟨z,x⟩:=y;dsimp only at hc1 hc2 hr hxl;obtain⟨au,cu,rfl⟩:=hr.slice;replace hc1:=(hI.out.2.2.2.2.cell (qe hc1)).trans hc1;replace hc2:=(hI.out.2.2.2.2.cell (qe hc2)).trans hc2;have bd:Below wr.heap.size wr wr.drew:=qg wr 1 _
  have KC:=qa (qmo wr.drew _ x ((hr.to hI.out.2.2.2.2).to bd) (by omega))
  have hn:(k+1)*32<=140737488355328:=by omega
  have hlk:Hid ((ps.take k).length=k):=by show _=_;rw[xp,ke hk]
  obtain⟨XL,hXL⟩:∃ XL,XL=x.length:=⟨_,rfl⟩;rw[<-hXL] at KC hc2;replace hXL:=qa hXL;have d1:=(bd.cell (qe hc1)).trans hc1
  have d2:=(bd.cell (qe hc2)).trans hc2
  have d3:=(bd.cell (qe A2)).trans A2
  have d4:=(bd.cell (qe T2)).trans T2
  clear hr hy A0 A1 T0 T1
  go_upto_region 5 with fail
  clear A2 AF T2 TF hc1 hc2;refine qj (fun w'=>w'.cell? ⟨b,off+k*2,none⟩=some (.int .i64 z)/\w'.cell? ⟨b,off+k*2+1,none⟩=some (.slice au XL cu)/\w'.cell? ⟨w.heap.size,2,none⟩=some (.slice (some ⟨b,off,none⟩) ps.length c)/\w'.cell? ⟨w.heap.size+1+1,2,none⟩=some (.slice oa k oc)) 14 17 qG (by kernel_rfl) (fun _ _ _ _ h=>h) ⟨d1,d2,d3,d4⟩ ?_
  dsimp only[List.take,List.drop]
  iterate 14
   refine qA (v:=?_) (by rfl) ?_ ?_
   rotate_left
   ·rintro w' ⟨s1,s2,s3,s4⟩;go_simp;try with_reducible rfl
   try simp only[Act.put,qB7]
  refine qM fun K hK=>?_;refine ZJ (by rfl) 57 _ _ (by rfl) #[.slice au XL cu] (by simp[Act.eval]) (Tryz.call57 _ _) KC.out ?_
  rintro e w2 ⟨v2,rfl,o2,b2⟩;obtain⟨va,vc,hv2⟩:=o2.rd.slice;rw[<-hXL.out] at hv2;subst hv2;have x1:=(b2.cell (qe d1)).trans d1
  have x2:=(b2.cell (qe d2)).trans d2
  have x3:=(b2.cell (qe d3)).trans d3
  have x4:=(b2.cell (qe d4)).trans d4
  refine⟨_,rfl,hK _ _ ⟨x1,x2,x3,x4⟩ ?_⟩;clear hK K;have bw2:=bd.trans (b2.mono bd.size)
  have I2:=qa (xb (hI.out.1.to9 bw2) (xb ((bw2.block _ (xa hI.out.2.1)).trans hI.out.2.1) (xb ((bw2.block _ (xa hI.out.2.2.1)).trans hI.out.2.2.1) (xb ((bw2.block _ (xa hI.out.2.2.2.1)).trans hI.out.2.2.2.1) (hI.out.2.2.2.2.trans (bw2.mono hI.out.2.2.2.2.size))))))
  have O2:Hid (OwnB Y.heap.size w2 (.slice va XL vc) x):=QA o2 (by rw[hsz.out];have:=xa hI.out.2.1;have:=bd.size;omega)
  have HS:Hid (Y.heap.size<=w2.heap.size):=by
   show _<=_
   rw[hsz.out];have:=xa hI.out.2.1
   have:=bw2.size
   omega
  clear b2 o2 KC d1 d2 d3 d4 hI bw2 bd;try simp only[Act.put,qB7]
  refine qM fun K hK=>?_;rw[xj (by rfl)]
  go_simp;refine hK _ _ ⟨x1,x2,x3,x4⟩ ?_;clear hK K;refine qM fun K hK=>?_;rw[xj (by rfl)]
  go_simp;refine hK _ _ ⟨yC x1 _,yC x2 _,yC x3 _,yC x4 _⟩ ?_;clear hK K x1 x2 x3 x4;show wpList _ _ _ _ _ _
  obtain⟨Z,hZ,DZ,bZ,sZ⟩:=qf w2 #[.int .i64 z,.slice va XL vc] 120;obtain⟨⟨Z0,Z1⟩,_⟩:=Qc DZ;have OZ:vU Y.heap.size Z (.slice oa k oc) (ps.take k):=I2.out.1.to9 bZ
  have SZ:OwnB Y.heap.size Z (.slice va XL vc) x:=qB O2.out bZ
  have hB:Y.heap.size<=Z.heap.size:=by have:=HS.out;have:=bZ.size;omega
  rw[hZ] at Z0 Z1 OZ SZ hB;refine qdt rfl _ _ rfl Y.heap.size (.slice oa k oc) (ps.take k) (z,x) (.slice va XL vc) w2.heap.size rfl rfl OZ SZ rfl Z0 Z1 (by rw[hlk.out];exact hn) hB ?_
  intro v5 w5 o5 g5 b5 _;rw[<-hZ] at b5;rw[<-hsn.out] at o5;obtain⟨na,nc,hv5⟩:=o5.shape;generalize (ps.take (k+1)).length=nl at hv5;subst hv5;have bZ2:=qa bZ
  have blk:∀ j,j<Y.heap.size->∀ o,w2.heap[j]?=some o->w5.heap[j]?=some o:=fun j hj o ho=>(b5.block j hj).trans ((bZ2.out.block j (xa ho)).trans ho)
  have T5:=blk _ (by rw[hsz.out];omega) _ I2.out.2.1
  have A5:=blk _ (by rw[hsz.out];omega) _ I2.out.2.2.1
  have R5:=blk _ (by rw[hsz.out];omega) _ I2.out.2.2.2.1
  have bb5:Below w.heap.size w w5:=(I2.out.2.2.2.2.trans (bZ2.out.mono I2.out.2.2.2.2.size)).trans (b5.mono (by rw[hsz.out];omega))
  obtain⟨⟨T0,T1,T2⟩,TF⟩:=ql T5;have d0:=qw T5 2 (.slice na nl nc)
  have D7:(w5.setCell ⟨w.heap.size+1+1,2,none⟩ (.slice na nl nc)).heap[w.heap.size+1+1]?=some (.cells #[.int .i64 root,.int .i64 next,(.slice na nl nc)] 68 (0,0)):=by simpa using d0
  have A7:(w5.setCell ⟨w.heap.size+1+1,2,none⟩ (.slice na nl nc)).heap[w.heap.size]?=_:=(xd _ _ _ _ (show w.heap.size≠w.heap.size+1+1 by omega)).trans A5
  have R7:(w5.setCell ⟨w.heap.size+1+1,2,none⟩ (.slice na nl nc)).heap[w.heap.size+1]?=_:=(xd _ _ _ _ (show w.heap.size+1≠w.heap.size+1+1 by omega)).trans R5
  have kk:∀ e,e≠68->KeepT e w5 (w5.setCell ⟨w.heap.size+1+1,2,none⟩ (.slice na nl nc)):=fun e he=>KeepT.set (a:=⟨w.heap.size+1+1,2,none⟩) T5 he _
  have I5:=qa (xb (o5.keepT (kk _ (by decide)) (kk _ (by decide))) (xb D7 (xb A7 (xb R7 (bb5.setCell (p:=⟨w.heap.size+1+1,2,none⟩) (show w.heap.size<=w.heap.size+1+1 by omega) (.slice na nl nc))))))
  clear o5 g5 b5 Z0 Z1 OZ SZ hB DZ bZ hZ I2 O2 blk A5 R5 bb5 d0 D7 A7 R7 kk bZ2 T5 HS;go_wp2;go_roundw
  case rel=>exact⟨k+1,by omega,by go_num,_,I5⟩
  case measure=>simp[intOf];omega
 have hq:¬ (k:Int)<(ps.length:Int):=by omega
 obtain rfl:k=ps.length:=by omega
 have htk:ps.take ps.length=ps:=xx (by omega)
 rw[htk] at hI;have R6:=hI.out.2.2.2.1
 obtain⟨⟨F0,F1,F2⟩,FF⟩:=ql R6;have HR:=qa R6
 have OO:=qa (hI.out.1.keepT (QM R6 (.int .i64 root) (.int .i64 next) (.slice oa ps.length oc) (by decide)) (QM R6 (.int .i64 root) (.int .i64 next) (.slice oa ps.length oc) (by decide)))
 have BB:=qa (qD hI.out.2.2.2.2 (show w.heap.size<=w.heap.size+1 by omega) (.int .i64 root) (.int .i64 next) (.slice oa ps.length oc))
 have hYw:Hid (w.heap.size<=Y.heap.size):=HY.out.size
 clear hI R6;go_wp2;refine Js rfl rfl (w.heap.size+1) rfl _ _ (0,0) (qK HR.out _ _ _) _ Tryz.underlying68 rfl qna ?_;refine⟨_,rfl,?_,BB.out⟩;exact OwnX.base OO.out hYw.out
def PutB (B:Nat) (c:World) (t:Tr) (k v:Str) (u:Tr) (pv:Value) (err:Int):Prop :=
 (err≠0/\(err=jc t k v\/(err=51/\jc t k v=0/\65495<t.next)))\/
 (err=0/\jc t k v=0/\OwnPg B c pv u.pages/\∃ ps,QR t=some ps/\Chg t u (jF k v ps))
def DelB (B:Nat) (c:World) (t:Tr) (k:Str) (u:Tr) (pv:Value) (was:Bool) (err:Int):Prop :=
 (err≠0/\(QR t=none\/ZR k=false\/65495<t.next))\/
 (err=0/\ZR k=true/\OwnPg B c pv u.pages/\∃ ps,QR t=some ps/\was=ZS ps k/\Chg t u (ZW k ps))
theorem PutA.to {k v:Str} {e:Ending} (h:PutA w w' t k v e):∃ u a n c err,e=.returned (.tuple #[.agg #[.int .i64 u.root,.int .i64 u.next,.slice a n c],.int .i64 err])/\PutB w.heap.size w' t k v u (.slice a n c) err/\Below w.heap.size w w':=by
 rcases h with ⟨err,rfl,h1,h2,h3⟩|⟨u,pv,rfl,h1,h2,h3,h4⟩
 ·exact⟨⟨0,0,[]⟩,_,_,_,err,rfl,.inl ⟨h1,h2⟩,h3⟩
 obtain⟨a,c,hp⟩:=h1.shape;subst hp;exact⟨u,_,_,_,0,rfl,.inr ⟨rfl,h3,h1,h4⟩,h2⟩
theorem DelA.to {k:Str} {e:Ending} (h:DelA w w' t k e):∃ u a n c was err,e=.returned (.tuple #[.agg #[.int .i64 u.root,.int .i64 u.next,.slice a n c],.bool was,.int .i64 err])/\DelB w.heap.size w' t k u (.slice a n c) was err/\Below w.heap.size w w':=by
 rcases h with ⟨err,rfl,h1,h2,h3⟩|⟨u,pv,ps,rfl,h1,h2,h3,h4,h5⟩
 ·refine⟨⟨0,0,[]⟩,_,_,_,_,err,rfl,.inl ⟨h1,?_⟩,h3⟩;rcases h2 with ⟨q,_⟩|⟨_,q,_⟩|⟨_,_,_,q⟩
  ·exact .inl q
  ·exact .inr (.inl q)
  exact .inr (.inr q)
 obtain⟨a,c,hp⟩:=h1.shape;subst hp;exact⟨u,_,_,_,_,0,rfl,.inr ⟨rfl,h3,h1,ps,h4,rfl,h5⟩,h2⟩
theorem PutB.keep {c:World} {k v:Str} (h:PutB B c t k v u pv err) (k1:∀ e,e≠27->KeepT e c c'):PutB B c' t k v u pv err:=by
 rcases h with h|⟨h1,h2,h3,h4⟩
 ·exact .inl h
 exact .inr ⟨h1,h2,OwnX.keepT h3 (k1 _ (by decide)) (k1 _ (by decide)),h4⟩
theorem DelB.keep {c:World} {k:Str} (h:DelB B c t k u pv was err) (k1:∀ e,e≠27->KeepT e c c'):DelB B c' t k u pv was err:=by
 rcases h with h|⟨h1,h2,h3,h4⟩
 ·exact .inl h
 exact .inr ⟨h1,h2,OwnX.keepT h3 (k1 _ (by decide)) (k1 _ (by decide)),h4⟩
theorem PutB.to {c:World} {k v:Str} (h:PutB B c t k v u pv err) (b:Below c.heap.size c c'):PutB B c' t k v u pv err:=h.keep fun e _=>KeepT.below b
theorem DelB.to {c:World} {k:Str} (h:DelB B c t k u pv was err) (b:Below c.heap.size c c'):DelB B c' t k u pv was err:=h.keep fun e _=>KeepT.below b
theorem PutB.base {c:World} {k v:Str} (h:PutB C c t k v u pv err) (hb:B<=C):PutB B c t k v u pv err:=by
 rcases h with h|⟨h1,h2,h3,h4⟩
 ·exact .inl h
 exact .inr ⟨h1,h2,OwnPg.base h3 hb,h4⟩
theorem DelB.base {c:World} {k:Str} (h:DelB C c t k u pv was err) (hb:B<=C):DelB B c t k u pv was err:=by
 rcases h with h|⟨h1,h2,h3,h4⟩
 ·exact .inl h
 exact .inr ⟨h1,h2,OwnPg.base h3 hb,h4⟩
theorem Chg.len {q:List Pr} (h:Chg t u ps) (ht:QR t=some q):(u.pages.length+1)*32<=140737488355328:=by
 obtain⟨more,e,h1,_⟩:=h.pgs;have hT:=(zI ht).1
 have h2:=Zu hT.2.2.1 hT.1
 have h3:=hT.2.1
 rw[e,xk];omega
theorem Chg.small (h:Chg t u ps) (hx:∀ x∈t.pages,x.2.length<=140737488351232):∀ x∈u.pages,x.2.length<=140737488351232:=by
 obtain⟨more,e,_,h2⟩:=h.pgs;intro x hx';rw[e,xu] at hx';rcases hx' with hx'|hx'
 ·exact hx x hx'
 have:=h2 x hx';omega
theorem qbo (w:World) (i:Nat) (hi:i<=300):Calls Tryz.prog 39 #[.int .i64 ((i+1:Nat):Int)] w fun e w'=>e=.returned (.int .i64 (Q5 i))/\w=w':=by
 obtain⟨z,hz⟩:∃ z:Int,z=((i+1:Nat):Int):=⟨_,rfl⟩;have e1:Q5 i=2+4*(z-1):=by unfold Q5;omega
 rw[<-hz,e1];have b1:0<=z-1/\z-1<=300:=by omega
 replace hz:=qa hz;go_enter Tryz.func39,Tryz.ntmps39;go_wp2;go_ret;exact⟨rfl,rfl⟩
theorem yu (o:Own Zd B w [s,c] d):zp w s d.1/\RdC w c d.2:=by
 obtain⟨c1,c2,e,⟨v1,e1,h1⟩,⟨v2,e2,h2⟩⟩:=o.rd;subst e1 e2;simp only[xD,xG,KZ,XS] at e;obtain⟨rfl,rfl⟩:=e;exact⟨h1,h2⟩
def SvV (w wr:World) (n:Nat) (s0 c0:Value) (d0:Dsk) (s c:Value) (d:Dsk):Prop:=((s=s0/\c=c0/\d=d0)/\zp w s d.1/\RdC w c d.2)\/Own Zd (w.heap.size+n) wr [s,c] d
theorem SvV.rd (h:SvV w wr n s0 c0 d0 s c d) (b:Below w.heap.size w wr):zp wr s d.1/\RdC wr c d.2:=by
 rcases h with ⟨_,h⟩|h
 ·exact⟨h.1.to0 b,h.2.to0 b⟩
 exact yu h
theorem SvV.to (h:SvV w wr n s0 c0 d0 s c d) (b:Below wr.heap.size wr w'):SvV w w' n s0 c0 d0 s c d:=by
 rcases h with h|h
 ·exact .inl h
 exact .inr (h.to b)
theorem SvV.set (h:SvV w wr n s0 c0 d0 s c d) {a:Addr} (ha:a.block<w.heap.size+n) (u:Value):SvV w (wr.setCell a u) n s0 c0 d0 s c d:=by
 rcases h with h|h
 ·exact .inl h
 exact .inr (h.set ha u)
def CaB (d:Dsk) (m:Nat):Prop:=∀ y∈d.2,Q5 m<=y.1
theorem CaB.write {m:Nat} (h:CaB d m) (hm:m<=i):CaB (d.1,d.2++pws (Q5 i) b 4) m:=by
 intro y hy;rw[xu] at hy;rcases hy with hy|hy
 ·exact h y hy
 obtain⟨k,_,rfl⟩:=Vr hy;unfold Q5;dsimp only;omega
structure SvI (w wr:World) (t:Tr) (pv:Value) (N:Nat) (a b:List UInt8) (f k:Nat) (s0 c0:Value) (d0:Dsk) (s c:Value) (d:Dsk):Prop where
 hv:Hv d N a b ((t.pages.map (·.2)).take (max k (f-1)))
 ca:∀ m,m<=f-1->CaB d0 m->CaB d m
 sv:SvV w wr 3 s0 c0 d0 s c d
 b3:wr.heap[w.heap.size]?=some (.cells #[s,c] 43 (0,0))
 b4:wr.heap[w.heap.size+1]?=some (.cells #[.int .i64 t.root,.int .i64 t.next,pv] 27 (0,0))
 b6:wr.heap[w.heap.size+1+1]?=some (.cells #[.slice none 0 0,.slice none 0 0] 43 (0,0))
 bel:Below w.heap.size w wr
theorem SvI.drew (h:SvI w wr t pv N a b f k s0 c0 d0 s c d) (bb:Below wr.heap.size wr w'):SvI w w' t pv N a b f k s0 c0 d0 s c d :=
 ⟨h.hv,h.ca,h.sv.to bb,(bb.block _ (xa h.b3)).trans h.b3,(bb.block _ (xa h.b4)).trans h.b4,(bb.block _ (xa h.b6)).trans h.b6,h.bel.trans (bb.mono h.bel.size)⟩
theorem qgq {ps:List Wrt} {y:Wrt} (h:ps[k]?=some y):(ps.map (·.2))[k]?=some y.2:=by rw[XT,h];rfl
theorem qju (h:xs[k]?=some x):xs.take (k+1)=xs.take k++[x]:=by rw[Xf,h];rfl
theorem SvI.next (h:SvI w wr t pv N a b f k s0 c0 d0 s c d) (B:Below wr.heap.size wr U) {c':Value} (o:Own Zd (w.heap.size+3) U [s',c'] d')
 (hv:Hv d' N a b ((t.pages.map (·.2)).take (max (k+1) (f-1)))) (ca:∀ m,m<=f-1->CaB d0 m->CaB d' m):SvI w ((U.setCell ⟨w.heap.size,0,none⟩ s').setCell ⟨w.heap.size,1,none⟩ c') t pv N a b f (k+1) s0 c0 d0 s' c' d':=by
 have l3:=xa h.b3
 have q1:w.heap.size+1≠w.heap.size:=by omega
 have q2:w.heap.size+1+1≠w.heap.size:=by omega
 exact⟨hv,ca,.inr ((o.set (a:=⟨w.heap.size,0,none⟩) (by show w.heap.size<_;omega) _).set (a:=⟨w.heap.size,1,none⟩) (by show w.heap.size<_;omega) _),qR ((B.block _ l3).trans h.b3) _ _,
  (xd _ _ _ _ q1).trans ((xd _ _ _ _ q1).trans ((B.block _ (xa h.b4)).trans h.b4)),(xd _ _ _ _ q2).trans ((xd _ _ _ _ q2).trans ((B.block _ (xa h.b6)).trans h.b6)),
  qF (h.bel.trans (B.mono h.bel.size)) (xc _) _ _⟩
theorem SvI.skip (h:SvI w wr t pv N a b f k s0 c0 d0 s c d) (hk:k+1<f):SvI w wr t pv N a b f (k+1) s0 c0 d0 s c d :=
 ⟨by rw[show max (k+1) (f-1)=max k (f-1) by omega];exact h.hv,h.ca,h.sv,h.b3,h.b4,h.b6,h.bel⟩
def qs3 (w:World) (sv cv:Value) (d:Dsk) (t:Tr) (N:Nat) (a b:List UInt8) (f:Nat) (e:Ending) (w':World):Prop:=∃ (sv' cv':Value) (d':Dsk),e=.returned (.tuple #[.agg #[sv',cv'],.bool true])/\((sv'=sv/\cv'=cv/\d'=d)\/Own Zd w.heap.size w' [sv',cv'] d')/\Hv d' N a b (t.pages.map (·.2))/\(∀ m,m<=f-1->CaB d m->CaB d' m)/\Below w.heap.size w w'
theorem qmy (w:World) (sv cv pv:Value) (d:Dsk) (t:Tr) (N:Nat) (a b:List UInt8) (f:Nat) (h1:zp w sv d.1) (h2:RdC w cv d.2) (hp:RdC w pv t.pages) (hs:Seq t) (f1:1<=f) (f2:f<=t.pages.length+1) (H:Hv d N a b ((t.pages.map (·.2)).take (f-1))) (hN:2+4*t.pages.length<=N) (h250:t.pages.length<=250) (hsm:∀ x∈t.pages,x.2.length<=244) :
 Calls Tryz.prog 10 #[.agg #[sv,cv],tv t pv,.int .i64 (f:Int)] w fun e w'=>qs3 w sv cv d t N a b f e w':=by
 obtain⟨W1,hW1,D1,b1,s1⟩:=qf w #[sv,cv] 43;obtain⟨W2,hW2,D2,b2,s2⟩:=qf W1 #[.int .i64 t.root,.int .i64 t.next,pv] 27
 obtain⟨W3,hW3,D3,b3,s3⟩:=qf W2 #[.slice none 0 0,.slice none 0 0] 43
 have hI0:Hid (SvI w W3 t pv N a b f 0 sv cv d sv cv d):=by
  rw[s1] at D2;rw[s2,s1] at D3;have bb:=(b1.trans (b2.mono b1.size)).trans (b3.mono (xi b1.size b2.size))
  exact⟨by rw[Nat.zero_max];exact H,fun m _ hm=>hm,.inl ⟨⟨rfl,rfl,rfl⟩,h1,h2⟩,(b3.block _ (by omega)).trans ((b2.block _ (by omega)).trans D1),(b3.block _ (by omega)).trans D2,D3,bb⟩
 obtain⟨sa,sc,rfl⟩:=h1.slice;obtain⟨ca,cc,rfl⟩:=h2.slice;have HP:=qa hp
 obtain⟨pa,pc,hpv⟩:=hp.slice;obtain⟨L,hL⟩:∃ L,L=t.pages.length:=⟨_,rfl⟩;rw[<-hL] at hpv f2 hN h250;replace hL:=qa hL;have HSM:=qa hsm
 have HSQ:=qa hs
 subst hpv;generalize d.1.length=SL at *;generalize d.2.length=CL at *;dsimp only[tv];clear h1 h2 hp H hsm hs D1 D2 D3 b1 b2 b3 s1 s2 s3;go_enter Tryz.func10,Tryz.ntmps10
 go_wp2_with fail
 rw[<-hW1,<-hW2,<-hW3];replace hW1:=qa hW1;replace hW2:=qa hW2;replace hW3:=qa hW3
 go_loopw [8] (fun p wr=>∃ (k:Nat) (s c:Value) (dk:Dsk),k<=L/\p=.int .i64 k/\Hid (SvI w wr t (.slice pa L pc) N a b f k (.slice sa SL sc) (.slice ca CL cc) d s c dk)) (fun p _=>L-(intOf p).toNat)
 case atStart=>exact⟨0,_,_,_,xt _,rfl,hI0⟩
 case round =>
 obtain⟨k,s,c,dk,hk,rfl,hI⟩:=hrel;obtain⟨⟨T0,T1,T2⟩,_⟩:=ql hI.out.b4;by_cases hlt:k<L
 ·have hq:(k:Int)<(L:Int):=by omega
  obtain⟨y,hy⟩:=qz t.pages (k:=k) (by rw[<-hL.out];exact hlt)
  have hid:y.1=((k+1:Nat):Int):=by have:=HSQ.out.2 k y hy;push_cast;exact this
  obtain⟨pb,po,dv,rfl,r0,r1,r2⟩:=(HP.out.to0 hI.out.bel).wrt hy;rw[hid] at r0;have hym:=xQ hy
  have HY:=qa hy
  by_cases hlf:k+1<f
  ·have g1:((k+1:Nat):Int)<(f:Int):=by omega
   have hN2:=qa (hI.out.skip hlf)
   clear hy hid;go_wp2;go_roundw
   case rel=>exact⟨k+1,_,_,_,by omega,by go_num,hN2⟩
   case measure=>simp[intOf];omega
  have g1:¬ ((k+1:Nat):Int)<(f:Int):=by omega
  have hmax:max k (f-1)=k:=by omega
  have hHv:=hI.out.hv
  rw[hmax] at hHv;have hxl:((t.pages.map (·.2)).take k).length=k:=by rw[xp,Xe,<-hL.out];omega
  obtain⟨e1,e2⟩:=hHv.write (x:=y.2) (HSM.out y hym) (by rw[hxl];omega) (by rw[hxl];omega)
  rw[hxl] at e1 e2;rw[<-qju (qgq hy)] at e2;obtain⟨D',hD'⟩:∃ D,D=(dk.1,dk.2++pws (Q5 k) (QY (k+1) y.2) 4):=⟨_,rfl⟩;rw[<-hD'] at e1 e2;have hcaN:Hid (∀ m,m<=f-1->CaB d m->CaB D' m):=fun m hm hd=>by rw[hD'];exact(hI.out.ca m hm hd).write (by omega)
  have hHN:Hid (Hv D' N a b ((t.pages.map (·.2)).take (max (k+1) (f-1)))):=by rw[show max (k+1) (f-1)=k+1 by omega];exact e2
  obtain⟨rs,rc⟩:=hI.out.sv.rd hI.out.bel;obtain⟨al,cl,rfl⟩:=rs.slice;obtain⟨ac,cd,rfl⟩:=rc.slice;obtain⟨ad,cdd,rfl⟩:=r2.slice;have hyl:Hid (y.2.length<=244):=HSM.out y hym
  have KW:Hid (∀ cw,Below wr.heap.size wr cw->Calls Tryz.prog 38 #[.agg #[.slice al dk.1.length cl,.slice ac dk.2.length cd],.int .i64 (Q5 k),.int .i64 ((k+1:Nat):Int),.slice ad y.2.length cdd] cw fun e w'=>∃ a6 l6 c6 a7 l7 c7,e=.returned (.tuple #[.agg #[.slice a6 l6 c6,.slice a7 l7 c7],.int .i64 0])/\Own Zd cw.heap.size w' [.slice a6 l6 c6,.slice a7 l7 c7] D'/\Below cw.heap.size cw w'):=fun cw hb=>by
   refine(pages_say.writeS cw _ _ _ dk (Q5 k) ((k+1:Nat):Int) y.2 (rs.to0 hb) (rc.to0 hb) (r2.to hb) (by unfold Q5;omega) (by omega) (by have:=hyl.out;omega)).mono ?_
   rintro e w' ⟨sv',cv',he,ho,hb'⟩;rw[e1] at he ho;obtain⟨o1,o2⟩:=yu ho;obtain⟨a6,c6,rfl⟩:=o1.slice;obtain⟨a7,c7,rfl⟩:=o2.slice;exact⟨a6,_,c6,a7,_,c7,he,ho,hb'⟩
  have KH:=qa (fun cw=>qbo cw k (by omega))
  obtain⟨z0,z1,z2,z3⟩:=qh hI.out.b3;have HSF:Hid (∀ cw,Below wr.heap.size wr cw->cw.cell? ⟨w.heap.size,0,none⟩=some (.slice al dk.1.length cl)/\cw.cell? ⟨w.heap.size,1,none⟩=some (.slice ac dk.2.length cd)/\cw.cell? ⟨w.heap.size+1,2,none⟩=some (.slice (some ⟨pb,po,none⟩) L pc)/\cw.cell? ⟨pb,po+k*2,none⟩=some (.int .i64 ((k+1:Nat):Int))/\cw.cell? ⟨pb,po+k*2+1,none⟩=some (.slice ad y.2.length cdd)):=fun cw hb=>⟨(hb.cell (qe z0)).trans z0,(hb.cell (qe z1)).trans z1,(hb.cell (qe T2)).trans T2,(hb.cell (qe r0)).trans r0,(hb.cell (qe r1)).trans r1⟩
  generalize dk.1.length=SL2 at *;generalize dk.2.length=CL2 at *;generalize y.2.length=YL at *;have hwl:Hid (w.heap.size+3<=wr.heap.size):=by have:=xa hI.out.b6;show _<=_;omega
  clear hy hid e1 e2 hHv rs rc r2 hD' hym
  go_upto_region 5 with fail
  clear z0 z1 z2 z3 T0 T1 T2 r0 r1;refine Ql (fun w9=>w9.cell? ⟨w.heap.size,0,none⟩=some (.slice al SL2 cl)/\w9.cell? ⟨w.heap.size,1,none⟩=some (.slice ac CL2 cd)/\w9.cell? ⟨w.heap.size+1,2,none⟩=some (.slice (some ⟨pb,po,none⟩) L pc)/\w9.cell? ⟨pb,po+k*2,none⟩=some (.int .i64 ((k+1:Nat):Int))/\w9.cell? ⟨pb,po+k*2+1,none⟩=some (.slice ad YL cdd)) 26 qG (by simp) ?_
  have b0:Below wr.heap.size wr wr.drew:=qg wr 1 _
  generalize wr.drew=c0 at *;refine qc (i:=0) (v:=?_) rfl (by kernel_rfl) (fun _ _ _ _ h=>h) (by kernel_rfl) (HSF.out _ b0) ?_ ?_
  rotate_left
  ·rintro w9 ⟨t0,t1,t2,t3,t4⟩;go_simp;try with_reducible rfl
  try simp only[qA7,Act.put,qB7]
  refine qc (i:=1) (v:=?_) rfl (by kernel_rfl) (fun _ _ _ _ h=>h) (by kernel_rfl) (HSF.out _ b0) ?_ ?_
  rotate_left
  ·rintro w9 ⟨t0,t1,t2,t3,t4⟩;go_simp;try with_reducible rfl
  try simp only[qA7,Act.put,qB7]
  refine qc (i:=2) (v:=?_) rfl (by kernel_rfl) (fun _ _ _ _ h=>h) (by kernel_rfl) (HSF.out _ b0) ?_ ?_
  rotate_left
  ·rintro w9 ⟨t0,t1,t2,t3,t4⟩;go_simp;try with_reducible rfl
  try simp only[qA7,Act.put,qB7]
  refine qc (i:=3) (v:=?_) rfl (by kernel_rfl) (fun _ _ _ _ h=>h) (by kernel_rfl) (HSF.out _ b0) ?_ ?_
  rotate_left
  ·rintro w9 ⟨t0,t1,t2,t3,t4⟩;go_simp;try with_reducible rfl
  try simp only[qA7,Act.put,qB7]
  refine qc (i:=4) (v:=?_) rfl (by kernel_rfl) (fun _ _ _ _ h=>h) (by kernel_rfl) (HSF.out _ b0) ?_ ?_
  rotate_left
  ·rintro w9 ⟨t0,t1,t2,t3,t4⟩;go_simp;try with_reducible rfl
  try simp only[qA7,Act.put,qB7]
  refine qc (i:=5) (v:=?_) rfl (by kernel_rfl) (fun _ _ _ _ h=>h) (by kernel_rfl) (HSF.out _ b0) ?_ ?_
  rotate_left
  ·rintro w9 ⟨t0,t1,t2,t3,t4⟩;go_simp;try with_reducible rfl
  try simp only[qA7,Act.put,qB7]
  refine qc (i:=6) (v:=?_) rfl (by kernel_rfl) (fun _ _ _ _ h=>h) (by kernel_rfl) (HSF.out _ b0) ?_ ?_
  rotate_left
  ·rintro w9 ⟨t0,t1,t2,t3,t4⟩;go_simp;try with_reducible rfl
  try simp only[qA7,Act.put,qB7]
  refine qc (i:=8) (v:=?_) rfl (by kernel_rfl) (fun _ _ _ _ h=>h) (by kernel_rfl) (HSF.out _ b0) ?_ ?_
  rotate_left
  ·rintro w9 ⟨t0,t1,t2,t3,t4⟩;go_simp;try with_reducible rfl
  try simp only[qA7,Act.put,qB7]
  refine qc (i:=9) (v:=?_) rfl (by kernel_rfl) (fun _ _ _ _ h=>h) (by kernel_rfl) (HSF.out _ b0) ?_ ?_
  rotate_left
  ·rintro w9 ⟨t0,t1,t2,t3,t4⟩;go_simp;try with_reducible rfl
  try simp only[qA7,Act.put,qB7]
  refine qc (i:=10) (v:=?_) rfl (by kernel_rfl) (fun _ _ _ _ h=>h) (by kernel_rfl) (HSF.out _ b0) ?_ ?_
  rotate_left
  ·rintro w9 ⟨t0,t1,t2,t3,t4⟩;go_simp;try with_reducible rfl
  try simp only[qA7,Act.put,qB7]
  refine qc (i:=11) (v:=?_) rfl (by kernel_rfl) (fun _ _ _ _ h=>h) (by kernel_rfl) (HSF.out _ b0) ?_ ?_
  rotate_left
  ·rintro w9 ⟨t0,t1,t2,t3,t4⟩;go_simp;try with_reducible rfl
  try simp only[qA7,Act.put,qB7]
  refine qc (i:=12) (v:=?_) rfl (by kernel_rfl) (fun _ _ _ _ h=>h) (by kernel_rfl) (HSF.out _ b0) ?_ ?_
  rotate_left
  ·rintro w9 ⟨t0,t1,t2,t3,t4⟩;go_simp;try with_reducible rfl
  try simp only[qA7,Act.put,qB7]
  refine qc (i:=13) (v:=?_) rfl (by kernel_rfl) (fun _ _ _ _ h=>h) (by kernel_rfl) (HSF.out _ b0) ?_ ?_
  rotate_left
  ·rintro w9 ⟨t0,t1,t2,t3,t4⟩;go_simp;try with_reducible rfl
  try simp only[qA7,Act.put,qB7]
  refine qc (i:=14) (v:=?_) rfl (by kernel_rfl) (fun _ _ _ _ h=>h) (by kernel_rfl) (HSF.out _ b0) ?_ ?_
  rotate_left
  ·rintro w9 ⟨t0,t1,t2,t3,t4⟩;go_simp;try with_reducible rfl
  try simp only[qA7,Act.put,qB7]
  refine qc (i:=15) (v:=?_) rfl (by kernel_rfl) (fun _ _ _ _ h=>h) (by kernel_rfl) (HSF.out _ b0) ?_ ?_
  rotate_left
  ·rintro w9 ⟨t0,t1,t2,t3,t4⟩;go_simp;try with_reducible rfl
  try simp only[qA7,Act.put,qB7]
  refine qc (i:=16) (v:=?_) rfl (by kernel_rfl) (fun _ _ _ _ h=>h) (by kernel_rfl) (HSF.out _ b0) ?_ ?_
  rotate_left
  ·rintro w9 ⟨t0,t1,t2,t3,t4⟩;go_simp;try with_reducible rfl
  try simp only[qA7,Act.put,qB7]
  refine qc (i:=17) (v:=?_) rfl (by kernel_rfl) (fun _ _ _ _ h=>h) (by kernel_rfl) (HSF.out _ b0) ?_ ?_
  rotate_left
  ·rintro w9 ⟨t0,t1,t2,t3,t4⟩;go_simp;try with_reducible rfl
  try simp only[qA7,Act.put,qB7]
  refine qc (i:=18) (v:=?_) rfl (by kernel_rfl) (fun _ _ _ _ h=>h) (by kernel_rfl) (HSF.out _ b0) ?_ ?_
  rotate_left
  ·rintro w9 ⟨t0,t1,t2,t3,t4⟩;go_simp;try with_reducible rfl
  try simp only[qA7,Act.put,qB7]
  refine qc (i:=19) (v:=?_) rfl (by kernel_rfl) (fun _ _ _ _ h=>h) (by kernel_rfl) (HSF.out _ b0) ?_ ?_
  rotate_left
  ·rintro w9 ⟨t0,t1,t2,t3,t4⟩;go_simp;try with_reducible rfl
  try simp only[qA7,Act.put,qB7]
  refine zM 7 24 (by kernel_rfl) ?_ ?_
  ·
   refine qi rfl (by kernel_rfl) fun K hK=>?_
   refine qk 39 _ _ (by rfl) #[.int .i64 ((k+1:Nat):Int)] (by simp[Act.eval]) (Tryz.call39 _ _) (KH.out c0) ?_
   rintro e w9 ⟨rfl,rfl⟩;refine⟨_,rfl,hK _ _ (HSF.out _ b0) ?_⟩;clear hK K;try simp only[qA7,Act.put,qB7]
   refine zM 20 24 (by kernel_rfl) ?_ ?_
   ·
    refine qi rfl (by kernel_rfl) fun K hK=>?_
    refine qk 38 _ _ (by rfl) #[.agg #[.slice al SL2 cl,.slice ac CL2 cd],.int .i64 (Q5 k),.int .i64 ((k+1:Nat):Int),.slice ad YL cdd] (by simp[Act.eval]) (Tryz.call38 _ _) (KW.out _ b0) ?_
    rintro e c1 ⟨a6,l6,c6,a7,l7,c7,rfl,oF,bF⟩;have b1:=b0.trans (bF.mono b0.size)
    have HO:Hid (Own Zd c0.heap.size c1 [.slice a6 l6 c6,.slice a7 l7 c7] D'):=oF
    refine⟨_,rfl,hK _ _ (HSF.out _ b1) ?_⟩;clear hK K oF;try simp only[qA7,Act.put,qB7]
    refine qc (i:=21) (v:=?_) rfl (by kernel_rfl) (fun _ _ _ _ h=>h) (by kernel_rfl) (HSF.out _ b1) ?_ ?_
    rotate_left
    ·rintro w9 ⟨t0,t1,t2,t3,t4⟩;go_simp;try with_reducible rfl
    try simp only[qA7,Act.put,qB7]
    refine qc (i:=22) (v:=?_) rfl (by kernel_rfl) (fun _ _ _ _ h=>h) (by kernel_rfl) (HSF.out _ b1) ?_ ?_
    rotate_left
    ·rintro w9 ⟨t0,t1,t2,t3,t4⟩;go_simp;try with_reducible rfl
    try simp only[qA7,Act.put,qB7]
    refine qc (i:=23) (v:=?_) rfl (by kernel_rfl) (fun _ _ _ _ h=>h) (by kernel_rfl) (HSF.out _ b1) ?_ ?_
    rotate_left
    ·rintro w9 ⟨t0,t1,t2,t3,t4⟩;go_simp;try with_reducible rfl
    try simp only[qA7,Act.put,qB7]
    refine qr 24 (by kernel_rfl) ?_
    refine qi rfl (by kernel_rfl) fun K hK=>?_
    go_simp;obtain⟨c2,hc,h9,bc,sc⟩:=qf c1 #[.slice none 0 0,.slice none 0 0] 43;rw[<-hc];have b2:=b1.trans (bc.mono b1.size)
    obtain⟨g9,hg9⟩:∃ g,g=c1.heap.size:=⟨_,rfl⟩;rw[<-hg9] at h9;rw[<-hg9];have l9:wr.heap.size<=g9:=by have:=b1.size;omega
    replace HO:Hid (∃ F,OwnF Zd F c2 [.slice a6 l6 c6,.slice a7 l7 c7] D'/\g9 ∉ F/\∀ b,b∈F->w.heap.size+3<=b):=by
     obtain⟨F,q1,q2,q3⟩:=HO.out;have hF:OwnF Zd F c1 [.slice a6 l6 c6,.slice a7 l7 c7] D':=⟨q1,q2⟩
     exact⟨F,hF.to bc,fun hh=>by have:=hF.lt _ hh;omega,fun b hb=>by have:=q3 b hb;have:=b0.size;have:=hwl.out;omega⟩
    refine hK _ _ (HSF.out _ b2) ?_;clear hK K hc bc sc hg9;try simp only[qA7,Act.put,qB7]
    obtain⟨y0,y1,y2,y3⟩:=qh h9;refine qr 25 (by kernel_rfl) ?_
    refine qi rfl (by kernel_rfl) fun K hK=>?_
    go_simp;obtain⟨U,hU⟩:∃ U,U=(c2.setCell ⟨g9,0,none⟩ (.slice a6 l6 c6)).setCell ⟨g9,1,none⟩ (.slice a7 l7 c7):=⟨_,rfl⟩;rw[<-hU];have u9:U.heap[g9]?=some (.cells #[.slice a6 l6 c6,.slice a7 l7 c7] 43 (0,0)):=by rw[hU];exact qR h9 _ _
    have uB:Below wr.heap.size wr U:=by rw[hU];exact qF b2 l9 _ _
    have uO:Own Zd (w.heap.size+3) U [.slice a6 l6 c6,.slice a7 l7 c7] D':=by
     obtain⟨F,q1,q2,q3⟩:=HO.out;rw[hU];exact((q1.set (a:=⟨g9,0,none⟩) q2 _).set (a:=⟨g9,1,none⟩) q2 _).own q3
    refine hK _ _ (HSF.out _ uB) ?_;clear hK K y0 y1 y2 y3 hU;try simp only[qA7,Act.put,qB7]
    refine qT (by kernel_rfl) ?_
    show wpList _ _ _ _ _ _
    have u3:=(uB.block _ (xa hI.out.b3)).trans hI.out.b3
    have hNX:=qa (hI.out.next uB uO hHN.out hcaN.out)
    obtain⟨x0,x1,x2,x3⟩:=qh u9;obtain⟨v0,v1,v2,v3⟩:=qh u3;clear u9 uB uO u3 h9 b0 b2;try clear b1
    go_wp2;go_roundw
    case rel=>exact⟨k+1,_,_,_,by omega,by go_num,hNX⟩
    case measure=>simp[intOf];omega
   
   refine qi rfl (by kernel_rfl) fun K hK=>?_
   go_simp;obtain⟨c1,hc,h9,bc,sc⟩:=qf c0 #[.slice none 0 0,.slice none 0 0] 43;rw[<-hc];have b1:=b0.trans (bc.mono b0.size)
   obtain⟨g9,hg9⟩:∃ g,g=c0.heap.size:=⟨_,rfl⟩;rw[<-hg9] at h9;rw[<-hg9];have l9:wr.heap.size<=g9:=by have:=b0.size;omega
   have s9:g9<c1.heap.size:=xa h9
   refine hK _ _ (HSF.out _ b1) ?_;clear hK K hc bc sc hg9;try simp only[qA7,Act.put,qB7]
   refine qr 20 (by kernel_rfl) ?_
   refine qi rfl (by kernel_rfl) fun K hK=>?_
   refine qk 38 _ _ (by rfl) #[.agg #[.slice al SL2 cl,.slice ac CL2 cd],.int .i64 (Q5 k),.int .i64 ((k+1:Nat):Int),.slice ad YL cdd] (by simp[Act.eval]) (Tryz.call38 _ _) (KW.out _ b1) ?_
   rintro e c2 ⟨a6,l6,c6,a7,l7,c7,rfl,oF,bF⟩;have b2:=b1.trans (bF.mono b1.size)
   replace h9:=(bF.block _ (xa h9)).trans h9
   have HO:Hid (∃ F,OwnF Zd F c2 [.slice a6 l6 c6,.slice a7 l7 c7] D'/\g9 ∉ F/\∀ b,b∈F->w.heap.size+3<=b):=by
    obtain⟨F,q1,q2,q3⟩:=oF;exact⟨F,⟨q1,q2⟩,fun hh=>by have:=q3 _ hh;omega,fun b hb=>by have:=q3 b hb;have:=b1.size;have:=hwl.out;omega⟩
   refine⟨_,rfl,hK _ _ (HSF.out _ b2) ?_⟩;clear hK K oF;try simp only[qA7,Act.put,qB7]
   refine qc (i:=21) (v:=?_) rfl (by kernel_rfl) (fun _ _ _ _ h=>h) (by kernel_rfl) (HSF.out _ b2) ?_ ?_
   rotate_left
   ·rintro w9 ⟨t0,t1,t2,t3,t4⟩;go_simp;try with_reducible rfl
   try simp only[qA7,Act.put,qB7]
   refine qc (i:=22) (v:=?_) rfl (by kernel_rfl) (fun _ _ _ _ h=>h) (by kernel_rfl) (HSF.out _ b2) ?_ ?_
   rotate_left
   ·rintro w9 ⟨t0,t1,t2,t3,t4⟩;go_simp;try with_reducible rfl
   try simp only[qA7,Act.put,qB7]
   refine qc (i:=23) (v:=?_) rfl (by kernel_rfl) (fun _ _ _ _ h=>h) (by kernel_rfl) (HSF.out _ b2) ?_ ?_
   rotate_left
   ·rintro w9 ⟨t0,t1,t2,t3,t4⟩;go_simp;try with_reducible rfl
   try simp only[qA7,Act.put,qB7]
   obtain⟨y0,y1,y2,y3⟩:=qh h9;refine qr 25 (by kernel_rfl) ?_
   refine qi rfl (by kernel_rfl) fun K hK=>?_
   go_simp;obtain⟨U,hU⟩:∃ U,U=(c2.setCell ⟨g9,0,none⟩ (.slice a6 l6 c6)).setCell ⟨g9,1,none⟩ (.slice a7 l7 c7):=⟨_,rfl⟩;rw[<-hU];have u9:U.heap[g9]?=some (.cells #[.slice a6 l6 c6,.slice a7 l7 c7] 43 (0,0)):=by rw[hU];exact qR h9 _ _
   have uB:Below wr.heap.size wr U:=by rw[hU];exact qF b2 l9 _ _
   have uO:Own Zd (w.heap.size+3) U [.slice a6 l6 c6,.slice a7 l7 c7] D':=by
    obtain⟨F,q1,q2,q3⟩:=HO.out;rw[hU];exact((q1.set (a:=⟨g9,0,none⟩) q2 _).set (a:=⟨g9,1,none⟩) q2 _).own q3
   refine hK _ _ (HSF.out _ uB) ?_;clear hK K y0 y1 y2 y3 hU;try simp only[qA7,Act.put,qB7]
   refine qT (by kernel_rfl) ?_
   show wpList _ _ _ _ _ _
   have u3:=(uB.block _ (xa hI.out.b3)).trans hI.out.b3
   have hNX:=qa (hI.out.next uB uO hHN.out hcaN.out)
   obtain⟨x0,x1,x2,x3⟩:=qh u9;obtain⟨v0,v1,v2,v3⟩:=qh u3;clear u9 uB uO u3 h9 b0 b2;try clear b1
   go_wp2;go_roundw
   case rel=>exact⟨k+1,_,_,_,by omega,by go_num,hNX⟩
   case measure=>simp[intOf];omega
  
  refine qi rfl (by kernel_rfl) fun K hK=>?_
  go_simp;obtain⟨c1,hc,h9,bc,sc⟩:=qf c0 #[.slice none 0 0,.slice none 0 0] 43;rw[<-hc];have b1:=b0.trans (bc.mono b0.size)
  obtain⟨g9,hg9⟩:∃ g,g=c0.heap.size:=⟨_,rfl⟩;rw[<-hg9] at h9;rw[<-hg9];have l9:wr.heap.size<=g9:=by have:=b0.size;omega
  have s9:g9<c1.heap.size:=xa h9
  refine hK _ _ (HSF.out _ b1) ?_;clear hK K hc bc sc hg9;try simp only[qA7,Act.put,qB7]
  refine qr 7 (by kernel_rfl) ?_
  refine qi rfl (by kernel_rfl) fun K hK=>?_
  refine qk 39 _ _ (by rfl) #[.int .i64 ((k+1:Nat):Int)] (by simp[Act.eval]) (Tryz.call39 _ _) (KH.out c1) ?_
  rintro e w9 ⟨rfl,rfl⟩;refine⟨_,rfl,hK _ _ (HSF.out _ b1) ?_⟩;clear hK K;try simp only[qA7,Act.put,qB7]
  refine qr 20 (by kernel_rfl) ?_
  refine qi rfl (by kernel_rfl) fun K hK=>?_
  refine qk 38 _ _ (by rfl) #[.agg #[.slice al SL2 cl,.slice ac CL2 cd],.int .i64 (Q5 k),.int .i64 ((k+1:Nat):Int),.slice ad YL cdd] (by simp[Act.eval]) (Tryz.call38 _ _) (KW.out _ b1) ?_
  rintro e c2 ⟨a6,l6,c6,a7,l7,c7,rfl,oF,bF⟩;have b2:=b1.trans (bF.mono b1.size)
  replace h9:=(bF.block _ (xa h9)).trans h9
  have HO:Hid (∃ F,OwnF Zd F c2 [.slice a6 l6 c6,.slice a7 l7 c7] D'/\g9 ∉ F/\∀ b,b∈F->w.heap.size+3<=b):=by
   obtain⟨F,q1,q2,q3⟩:=oF;exact⟨F,⟨q1,q2⟩,fun hh=>by have:=q3 _ hh;omega,fun b hb=>by have:=q3 b hb;have:=b1.size;have:=hwl.out;omega⟩
  refine⟨_,rfl,hK _ _ (HSF.out _ b2) ?_⟩;clear hK K oF;try simp only[qA7,Act.put,qB7]
  refine qc (i:=21) (v:=?_) rfl (by kernel_rfl) (fun _ _ _ _ h=>h) (by kernel_rfl) (HSF.out _ b2) ?_ ?_
  rotate_left
  ·rintro w9 ⟨t0,t1,t2,t3,t4⟩;go_simp;try with_reducible rfl
  try simp only[qA7,Act.put,qB7]
  refine qc (i:=22) (v:=?_) rfl (by kernel_rfl) (fun _ _ _ _ h=>h) (by kernel_rfl) (HSF.out _ b2) ?_ ?_
  rotate_left
  ·rintro w9 ⟨t0,t1,t2,t3,t4⟩;go_simp;try with_reducible rfl
  try simp only[qA7,Act.put,qB7]
  refine qc (i:=23) (v:=?_) rfl (by kernel_rfl) (fun _ _ _ _ h=>h) (by kernel_rfl) (HSF.out _ b2) ?_ ?_
  rotate_left
  ·rintro w9 ⟨t0,t1,t2,t3,t4⟩;go_simp;try with_reducible rfl
  try simp only[qA7,Act.put,qB7]
  obtain⟨y0,y1,y2,y3⟩:=qh h9;refine qr 25 (by kernel_rfl) ?_
  refine qi rfl (by kernel_rfl) fun K hK=>?_
  go_simp;obtain⟨U,hU⟩:∃ U,U=(c2.setCell ⟨g9,0,none⟩ (.slice a6 l6 c6)).setCell ⟨g9,1,none⟩ (.slice a7 l7 c7):=⟨_,rfl⟩;rw[<-hU];have u9:U.heap[g9]?=some (.cells #[.slice a6 l6 c6,.slice a7 l7 c7] 43 (0,0)):=by rw[hU];exact qR h9 _ _
  have uB:Below wr.heap.size wr U:=by rw[hU];exact qF b2 l9 _ _
  have uO:Own Zd (w.heap.size+3) U [.slice a6 l6 c6,.slice a7 l7 c7] D':=by
   obtain⟨F,q1,q2,q3⟩:=HO.out;rw[hU];exact((q1.set (a:=⟨g9,0,none⟩) q2 _).set (a:=⟨g9,1,none⟩) q2 _).own q3
  refine hK _ _ (HSF.out _ uB) ?_;clear hK K y0 y1 y2 y3 hU;try simp only[qA7,Act.put,qB7]
  refine qT (by kernel_rfl) ?_
  show wpList _ _ _ _ _ _
  have u3:=(uB.block _ (xa hI.out.b3)).trans hI.out.b3
  have hNX:=qa (hI.out.next uB uO hHN.out hcaN.out)
  obtain⟨x0,x1,x2,x3⟩:=qh u9;obtain⟨v0,v1,v2,v3⟩:=qh u3;clear u9 uB uO u3 h9 b0 b2;try clear b1
  go_wp2;go_roundw
  case rel=>exact⟨k+1,_,_,_,by omega,by go_num,hNX⟩
  case measure=>simp[intOf];omega
 have hq:¬ (k:Int)<(L:Int):=by omega
 obtain⟨rs,rc⟩:=hI.out.sv.rd hI.out.bel;obtain⟨al,cl,rfl⟩:=rs.slice;obtain⟨ac,cd,rfl⟩:=rc.slice
 have hHF:Hid (Hv dk N a b (t.pages.map (·.2))):=by
  have:=hI.out.hv
  rw[xx (by rw[Xe,<-hL.out];omega)] at this
  exact this
 generalize dk.1.length=SL2 at *;generalize dk.2.length=CL2 at *;obtain⟨z0,z1,z2,z3⟩:=qh hI.out.b3;obtain⟨y0,y1,y2,y3⟩:=qh hI.out.b6;clear rs rc;go_wp2
 (try simp only[Exit.inBlock,Exit.then])
 refine Qz (p:=6) (u1:=7) (ty:=43) (by rfl) (by rfl) (w.heap.size+1+1) (by rfl) _ _ _ (0,0) (qR hI.out.b6 _ _) _ Xd rfl Qh _ (by rfl) ?_
 have hs2:=(hI.out.sv.set (a:=⟨w.heap.size+1+1,0,none⟩) (by show w.heap.size+1+1<_;omega) (.slice al SL2 cl)).set (a:=⟨w.heap.size+1+1,1,none⟩) (by show w.heap.size+1+1<_;omega) (.slice ac CL2 cd)
 have hb2:=qF hI.out.bel (show w.heap.size<=w.heap.size+1+1 by omega) (.slice al SL2 cl) (.slice ac CL2 cd)
 exact⟨_,_,dk,rfl,(hs2.imp (fun h=>h.1) (fun h=>h.mono (by omega))),hHF.out,hI.out.ca,hb2⟩
theorem ql5 {a b:List UInt8} (h1:(zJ a).2≠0) (h2:(zJ b).2≠0):ZT a b=(vK,0,21):=xj ⟨h1,h2⟩
theorem qpe {a b:List UInt8} (h2:(zJ b).2=0) (h1:(zJ a).2≠0\/(zJ a).1.1<(zJ b).1.1):ZT a b=((zJ b).1,1,0):=by
 unfold ZT;rw[xh (fun h=>h.2 h2),xj (h1.imp id fun h=>⟨h2,h⟩)]
theorem qp3 {a b:List UInt8} (h1:(zJ a).2=0) (h2:(zJ b).2≠0\/(zJ b).1.1<=(zJ a).1.1):ZT a b=((zJ a).1,0,0):=by
 unfold ZT;rw[xh (fun h=>h.1 h1),xh];rintro (h|⟨h,k⟩)
 ·exact h h1
 rcases h2 with h2|h2
 ·exact h2 h
 omega
theorem qjk (w:World) (v1 v2:Value) (a b:List UInt8) (h1:Rd w v1 a) (h2:Rd w v2 b):Calls Tryz.prog 74 #[v1,v2] w fun e w'=>e=.returned (.tuple #[.agg #[.int .i64 (ZT a b).1.1,.int .i64 (ZT a b).1.2.1,.int .i64 (ZT a b).1.2.2.1,.int .i64 (ZT a b).1.2.2.2.1,.int .i64 (ZT a b).1.2.2.2.2],.int .i64 (ZT a b).2.1,.int .i64 (ZT a b).2.2])/\Below w.heap.size w w':=by
 obtain⟨p0,p1,p2,p3,p4,er,hA⟩:∃ p0 p1 p2 p3 p4 er,zJ a=((p0,p1,p2,p3,p4),er):=⟨_,_,_,_,_,_,rfl⟩;obtain⟨q0,q1,q2,q3,q4,fr,hB⟩:∃ q0 q1 q2 q3 q4 fr,zJ b=((q0,q1,q2,q3,q4),fr):=⟨_,_,_,_,_,_,rfl⟩;have spA:=qa (fun h=>@qp3 a b h)
 have spB:=qa (fun h=>@qpe a b h)
 have spN:=qa (fun h=>@ql5 a b h)
 rw[hA,hB] at spA spB spN;dsimp only at spA spB spN;have KD1:=qa (fun u (h:Rd u v1 a)=>vH u v1 a h)
 have KD2:=qa (fun u (h:Rd u v2 b)=>vH u v2 b h)
 rw[hA] at KD1;rw[hB] at KD2;dsimp only at KD1 KD2;clear hA hB;obtain⟨X,hX,X0,bX,sX⟩:=qf w #[.int .i64 0,.int .i64 0,.int .i64 0,.int .i64 0,.int .i64 0] 51;replace h1:=qa (h1.to bX);replace h2:=qa (h2.to bX);obtain⟨a1,c1,hv1⟩:=h1.out.slice;obtain⟨a2,c2,hv2⟩:=h2.out.slice;subst hv1 hv2;go_enter Tryz.func74,Tryz.ntmps74
 go_wp2_with fail
 rw[<-hX];replace hX:=qa hX;refine(KD1.out X h1.out).mono ?_;rintro e w1 ⟨rfl,b1⟩;clear KD1;obtain⟨Y,hY,Y0,bY,sY⟩:=qf w1 #[.int .i64 p0,.int .i64 p1,.int .i64 p2,.int .i64 p3,.int .i64 p4] 51;have X1:Y.heap[w.heap.size]?=_:=(bY.block _ (by have:=b1.size;omega)).trans ((b1.block _ (by omega)).trans X0)
 have bXY:=b1.trans (bY.mono b1.size)
 have cY:=bX.trans (bXY.mono bX.size)
 have h3:=qa (h2.out.to bXY)
 obtain⟨g1,hg1⟩:∃ g,g=w1.heap.size:=⟨_,rfl⟩;rw[<-hg1] at Y0;have hgw1:w.heap.size<g1:=by rw[hg1];have:=b1.size;omega
 clear X0 bX b1 bY bXY h1 h2;replace X1:=qa X1;replace Y0:=qa Y0;replace cY:=qa cY
 go_wp2_with fail
 rw[<-hY,<-hg1];replace hY:=qa hY;replace hg1:=qa hg1;refine(KD2.out Y h3.out).mono ?_;rintro e w2 ⟨rfl,b2⟩;clear KD2 h3;obtain⟨Z,hZ,Z0,bZ,sZ⟩:=qf w2 #[.int .i64 q0,.int .i64 q1,.int .i64 q2,.int .i64 q3,.int .i64 q4] 51;have bYZ:=b2.trans (bZ.mono b2.size)
 have X2:=(bYZ.block _ (xa X1.out)).trans X1.out
 have Y2:=(bYZ.block _ (xa Y0.out)).trans Y0.out
 have cZ:=qa (cY.out.trans (bYZ.mono cY.out.size))
 obtain⟨g2,hg2⟩:∃ g,g=w2.heap.size:=⟨_,rfl⟩;rw[<-hg2] at Z0;clear X1 Y0 cY b2 bZ bYZ
 go_upto_region 3 with fail
 rw[<-hZ,<-hg2];replace hZ:=qa hZ;replace hg2:=qa hg2;obtain⟨⟨r0,r1,r2,r3,r4⟩,rf⟩:=QS X2;obtain⟨⟨y0,y1,y2,y3,y4⟩,_⟩:=QS Y2;obtain⟨⟨z0,z1,z2,z3,z4⟩,_⟩:=QS Z0;have f0:=rf 0
 have f1:=rf 1
 have f2:=rf 2
 have f3:=rf 3
 have f4:=rf 4
 replace X2:=qa X2;clear Y2 Z0 rf;by_cases he:er=0
 ·subst he;by_cases hf:fr=0
  ·subst hf;by_cases hlt:p0<q0
   ·have hS:=qa (spB.out rfl (.inr hlt))
    go_wp2;refine ZI rfl rfl w.heap.size rfl _ _ (0,0) (QH (u:=Z) X2.out _ _ _ _ _) _ XM rfl Zy _ rfl _ rfl ?_;rw[hS.out];exact⟨rfl,Qr cZ.out (xc _) _ _ _ _ _⟩
   have hS:=qa (spA.out rfl (.inr (by omega)))
   go_wp2;refine ZI rfl rfl w.heap.size rfl _ _ (0,0) (QH (u:=Z) X2.out _ _ _ _ _) _ XM rfl Zy _ rfl _ rfl ?_;rw[hS.out];exact⟨rfl,Qr cZ.out (xc _) _ _ _ _ _⟩
  have hS:=qa (spA.out rfl (.inl hf))
  have hfe:(fr != 0)=true:=by simpa using hf
  have hfe2:(fr == 0)=false:=by simpa using hf
  replace hf:=qa hf;go_wp2;refine ZI rfl rfl w.heap.size rfl _ _ (0,0) (QH (u:=Z) X2.out _ _ _ _ _) _ XM rfl Zy _ rfl _ rfl ?_;rw[hS.out];exact⟨rfl,Qr cZ.out (xc _) _ _ _ _ _⟩
 have hee:(er != 0)=true:=by simpa using he
 by_cases hf:fr=0
 ·subst hf;have hS:=qa (spB.out rfl (.inl he))
  replace he:=qa he;go_wp2;refine ZI rfl rfl w.heap.size rfl _ _ (0,0) (QH (u:=Z) X2.out _ _ _ _ _) _ XM rfl Zy _ rfl _ rfl ?_;rw[hS.out];exact⟨rfl,Qr cZ.out (xc _) _ _ _ _ _⟩
 have hfe:(fr != 0)=true:=by simpa using hf
 have hS:=qa (spN.out he hf)
 replace he:=qa he;replace hf:=qa hf;go_wp2;refine ZI rfl rfl w.heap.size rfl _ _ (0,0) (QH (u:=Z) X2.out _ _ _ _ _) _ XM rfl Zy _ rfl _ rfl ?_;rw[hS.out];exact⟨rfl,Qr cZ.out (xc _) _ _ _ _ _⟩
theorem qd7 (w:World) (x y:Value) (t:TypeId):∃ u,u=w.alloc (.cells #[x,y] t)/\u.heap[w.heap.size]?=some (.cells #[x,y] t (0,0))/\Below w.heap.size w u/\u.heap.size=w.heap.size+1:=qf w #[x,y] t
theorem qpi (h:¬ DOk d):sdisk d=9:=by unfold sdisk;rw[zg h];rfl
theorem qov (h:DOk d) (h2:d.1.length<2):sdisk d=41:=by unfold sdisk;rw[Zb h,xh (by decide),xj h2]
theorem qpv (h:DOk d) (h2:¬ d.1.length<2):sdisk d=0:=by unfold sdisk;rw[Zb h,xh (by decide),xh h2]
theorem qlv (h:sdisk d≠0):JL d=(vK,0,sdisk d):=xj h
theorem Y7 (h:sdisk d=0):JL d=ZT (Qk d 0).1 (Qk d 1).1:=xh (fun k=>k h)
theorem yO (w:World) (sv cv:Value) (d:Dsk) (h1:zp w sv d.1) (h2:RdC w cv d.2) :
 Calls Tryz.prog 43 #[.agg #[sv,cv]] w fun e w'=>e=.returned (.int .i64 (sdisk d))/\Below w.heap.size w w':=by
 obtain⟨a1,c1,rfl⟩:=h1.slice;obtain⟨a2,c2,rfl⟩:=h2.slice;obtain⟨X,hX,X0,bX,sX⟩:=qd7 w (.slice a1 d.1.length c1) (.slice a2 d.2.length c2) 43;obtain⟨A0,A1,_,_⟩:=qh X0;have KC:=qa (ju X _ _ d (h1.to0 bX) (h2.to0 bX))
 rw[hX] at A0 A1;go_enter Tryz.func43,Tryz.ntmps43;by_cases hok:DOk d
 ·rw[Zb hok] at KC
  go_wp2_with fail
  rw[<-hX];rw[<-hX] at A0 A1;replace hX:=qa hX;refine KC.out.mono ?_;rintro e w1 ⟨rfl,b1⟩;replace A0:=(b1.cell (qe A0)).trans A0;by_cases hl:d.1.length<2
  ·have hE:=qa (qov hok hl)
   have hq:(d.1.length:Int)<2:=by omega
   replace hok:=qa hok;replace hl:=qa hl;go_wp2;go_ret;exact⟨qo hE.out.symm,bX.trans (b1.mono bX.size)⟩
  have hE:=qa (qpv hok hl)
  have hq:¬ (d.1.length:Int)<2:=by omega
  replace hok:=qa hok;replace hl:=qa hl;go_wp2;go_ret;exact⟨qo hE.out.symm,bX.trans (b1.mono bX.size)⟩
 rw[zg hok] at KC;have hE:=qa (qpi hok)
 replace hok:=qa hok
 go_wp2_with fail
 rw[<-hX];replace hX:=qa hX;refine KC.out.mono ?_;rintro e w1 ⟨rfl,b1⟩;go_wp2;go_ret;exact⟨qo hE.out.symm,bX.trans (b1.mono bX.size)⟩
theorem qlj (w:World) (sv cv:Value) (d:Dsk) (h1:zp w sv d.1) (h2:RdC w cv d.2):Calls Tryz.prog 52 #[.agg #[sv,cv]] w fun e w'=>e=.returned (.tuple #[.agg #[.int .i64 (JL d).1.1,.int .i64 (JL d).1.2.1,.int .i64 (JL d).1.2.2.1,.int .i64 (JL d).1.2.2.2.1,.int .i64 (JL d).1.2.2.2.2],.int .i64 (JL d).2.1,.int .i64 (JL d).2.2])/\Below w.heap.size w w':=by
 obtain⟨a1,c1,rfl⟩:=h1.slice;obtain⟨a2,c2,rfl⟩:=h2.slice;obtain⟨V,hV,V0,bV,sV⟩:=qd7 w (.slice a1 d.1.length c1) (.slice a2 d.2.length c2) 43;obtain⟨X,hX,X0,bX,sX⟩:=qf V #[.int .i64 0,.int .i64 0,.int .i64 0,.int .i64 0,.int .i64 0] 51;have V1:X.heap[w.heap.size]?=_:=(bX.block _ (by omega)).trans V0
 have cX:=bV.trans (bX.mono bV.size)
 rw[sV] at X0;obtain⟨A0,A1,_,_⟩:=qh V1;have H1:=qa (h1.to0 cX)
 have H2:=qa (h2.to0 cX)
 have KC:=qa (yO X _ _ d H1.out H2.out)
 obtain⟨E,hE⟩:∃ E,E=sdisk d:=⟨_,rfl⟩;rw[<-hE] at KC;rw[hX,hV] at A0 A1;go_enter Tryz.func52,Tryz.ntmps52
 go_wp2_with fail
 rw[<-hV,<-hX];clear A0 A1;replace hX:=qa hX;replace hV:=qa hV;refine KC.out.mono ?_;rintro e w1 ⟨rfl,b1⟩;clear KC V0 bV bX;by_cases h0:E=0
 ·have hS:=qa (Y7 (d:=d) (by rw[<-hE];exact h0))
  subst h0;replace hE:=qa hE;have B0:=qa (VK w1 _ _ d 0 (H1.out.to0 b1) (H2.out.to0 b1))
  have V2:=(b1.block _ (xa V1)).trans V1
  have X2:=(b1.block _ (xa X0)).trans X0
  have c2w:=qa (cX.trans (b1.mono cX.size))
  obtain⟨A0,A1,_,_⟩:=qh V2;obtain⟨x0,e0,hg0⟩:∃ x e,Qk d 0=(x,e):=⟨_,_,rfl⟩;obtain⟨x1,e1,hg1⟩:∃ x e,Qk d 1=(x,e):=⟨_,_,rfl⟩;rw[hg0,hg1] at hS;rw[hg0] at B0;dsimp only at hS B0;replace hg1:=qa hg1;clear hg0 X0 V1 cX
  go_wp2_with fail
  refine B0.out.mono ?_;rintro e w2 ⟨u0,rfl,o0,b2⟩;clear B0;have B1:=qa (VK w2 _ _ d 1 ((H1.out.to0 b1).to0 b2) ((H2.out.to0 b1).to0 b2))
  rw[hg1.out] at B1;dsimp only at B1;replace A0:=(b2.cell (qe A0)).trans A0;replace A1:=(b2.cell (qe A1)).trans A1;obtain⟨s0,t0,hu0⟩:=o0.rd.slice;subst hu0;have q0:=qa o0.rd
  have X3:=(b2.block _ (xa X2)).trans X2
  have c3w:=qa (c2w.out.trans (b2.mono c2w.out.size))
  clear V2 X2 b1 b2 o0 c2w H1 H2
  go_wp2_with fail
  refine B1.out.mono ?_;rintro e w3 ⟨u1,rfl,o1,b3⟩;clear B1 A0 A1;have KP:=qa (qjk w3 _ _ x0 x1 (q0.out.to b3) o1.rd)
  obtain⟨s1,t1,hu1⟩:=o1.rd.slice;subst hu1;obtain⟨p0,p1,p2,p3,p4,n1,er,hp⟩:∃ p0 p1 p2 p3 p4 n1 er,ZT x0 x1=((p0,p1,p2,p3,p4),n1,er):=⟨_,_,_,_,_,_,_,rfl⟩;rw[hp] at KP hS;dsimp only at KP;have X4:=(b3.block _ (xa X3)).trans X3
  have c4w:=qa (c3w.out.trans (b3.mono c3w.out.size))
  clear hp o1 q0 X3 c3w b3
  go_wp2_with fail
  refine KP.out.mono ?_;rintro e w4 ⟨rfl,b4⟩;have X5:=(b4.block _ (xa X4)).trans X4
  have c5w:=qa (c4w.out.trans (b4.mono c4w.out.size))
  clear KP X4 c4w b4;obtain⟨⟨r0,r1,r2,r3,r4⟩,rf⟩:=QS X5;have f0:=rf 0
  have f1:=rf 1
  have f2:=rf 2
  have f3:=rf 3
  have f4:=rf 4
  go_wp2;refine ZI rfl rfl (w.heap.size+1) rfl _ _ (0,0) (QH (u:=w4) X5 _ _ _ _ _) _ XM rfl Zy _ rfl _ rfl ?_;rw[hS.out];exact⟨rfl,Qr c5w.out (Nat.le_succ _) _ _ _ _ _⟩
 have hS:=qa (qlv (d:=d) (by rw[<-hE];exact h0))
 have hbe:(E != 0)=true:=by simpa using h0
 replace h0:=qa h0;replace hE:=qa hE;have X2:=(b1.block _ (xa X0)).trans X0
 have c2w:=qa (cX.trans (b1.mono cX.size))
 clear X0 V1 cX b1;obtain⟨⟨r0,r1,r2,r3,r4⟩,rf⟩:=QS X2;have f0:=rf 0
 have f1:=rf 1
 have f2:=rf 2
 have f3:=rf 3
 have f4:=rf 4
 go_wp2;refine ZI rfl rfl (w.heap.size+1) rfl _ _ (0,0) (QH (u:=w1) X2 _ _ _ _ _) _ XM rfl Zy _ rfl _ rfl ?_;rw[hS.out];exact⟨by rw[<-hE.out];rfl,Qr c2w.out (Nat.le_succ _) _ _ _ _ _⟩
theorem qf3 {a:Act} {Q:Exit->Act->World->Prop} (hgd:o.guard=none) (s x:Operand)
 (ho:o.op=.call {callee:=.builtin .append,args:=#[s,x],argTypes:=#[28,28]}) (B:Nat) (v:Value) (xs:List Pr) (y:Pr) (g:Nat) (hs:a.eval s=v) (hx:a.eval x=.slice (some ⟨g,0,none⟩) 1 1)
 (hown:OwnP B w v xs) (hc1:w.cell? ⟨g,0,none⟩=some (st y.1)) (hc2:w.cell? ⟨g,1,none⟩=some (st y.2)) (hlen:(xs.length+1)*32<=140737488355328) (hB:B<=w.heap.size)
 (h:∀ v' w',OwnP B w' v' (xs++[y])->w.grownBy w' v.ownBlock->wpList Tryz.prog ops Q rest (a.put o.dst v') w'):wpList Tryz.prog ops Q (o::rest) a w:=by
 obtain⟨i0,hi,hz0,hz1,hz2⟩:=Xh qn9
 have n2:∀ j u,(pcl [y])[j]?=some u->w.cell? ((⟨g,0,none⟩:Addr).add j)=some u:=by
  intro j u hj
  match j,hj with
  | 0,hj=>simp[pcl] at hj;subst hj;simpa[Addr.add] using hc1
  | 1,hj=>simp[pcl] at hj;subst hj;simpa[Addr.add] using hc2
  | j+2,hj=>simp[pcl] at hj
 refine kO _ hgd s x 28 ho B 63 i0 (.agg #[.string ⟨#[]⟩,.string ⟨#[]⟩]) 2 32 Tryz.underlying28 hi hz0 hz1 hz2 rfl (by decide) v xs.length (pcl xs) hs hown ⟨g,0,none⟩ 1 1 (pcl [y]) hx rfl n2 (qcv [y])
  (by rw[show maxLen=9223372036854775807 from rfl];omega) hlen hB ?_
 intro v' w' h1 h2 _;refine h v' w' ?_ h2;show World.ownsRow _ _ _ _ _ _ _
 rw[qdo]
 simpa using h1
structure KSc (C:Nat) (w w':World):Prop where
 typ:∀ e,e≠28->e≠63->KeepT e w w'
 map:∀ (b:Nat) es c,w.heap[b]?=some (.map es c)->w'.heap[b]?=some (.map es c)
 bel:Below C w w'
theorem KSc.of (h:Below w.heap.size w w') (hC:C<=w.heap.size):KSc C w w':=⟨fun e _ _=>KeepT.below h,fun b es c x=>(h.block b (xa x)).trans x,h.mono hC⟩
theorem KSc.refl (C:Nat) (w:World):KSc C w w:=⟨fun e _ _=>KeepT.refl _ _,fun b es c x=>x,xm _ _⟩
theorem KSc.trans {a b c:World} (h:KSc C a b) (k:KSc C b c):KSc C a c:=⟨fun e h1 h2=>(h.typ e h1 h2).trans (k.typ e h1 h2),fun i es q x=>k.map i es q (h.map i es q x),h.bel.trans k.bel⟩
theorem KSc.app {xs:List Pr} (ho:OwnP B w v xs) (hg:w.grownBy w' v.ownBlock) (hB:C<=B) (hC:C<=w.heap.size):KSc C w w':=by
 refine⟨fun e _ h2=>KeepT.grown ho hg h2,fun b es c x=>?_,(xm _ _).grown hg hC (fun k hk=>xi hB (xo ho k hk).1)⟩;refine(hg.block b (xa x) fun h=>?_).trans x;rcases ho.2 with ⟨hn,_⟩|⟨g,cap,cur,hv,_,hg',_⟩
 ·rw[hn] at h;cases h
 rw[hv] at h;simp only[Value.ownBlock,xr] at h;subst h;rw[x] at hg';cases hg'
theorem KSc.set {cs:Array Value} (h:w.heap[g]?=some (.cells cs 28 (0,0))) (hC:C<=g) (i:Nat) (x:Value):KSc C w (w.setCell ⟨g,i,none⟩ x):=by
 refine⟨fun e h1 _=>KeepT.set (a:=⟨g,i,none⟩) h h1 x,fun b es c y=>?_,(xm _ _).setCell hC _⟩;refine(xd _ _ _ _ fun h'=>?_).trans y;dsimp only at h';rw[h',h] at y;cases y
structure ScI (C:Nat) (w:World) (ga gp:Nat) (fr tw:Str) (out:List Pr):Prop where
 ask:w.heap[ga]?=some (.cells #[st fr,st tw] 90 (0,0))
 var:∃ v,w.heap[gp]?=some (.cells #[v] 28 (0,0))/\OwnP C w v out
 hC:C<=gp
theorem ScI.to {tw:Str} (h:ScI C w ga gp fr tw out) (b:Below w.heap.size w w'):ScI C w' ga gp fr tw out:=by
 obtain⟨v,h1,h2⟩:=h.var;exact⟨(b.block _ (xa h.ask)).trans h.ask,⟨v,(b.block _ (xa h1)).trans h1,qB h2 b⟩,h.hC⟩
theorem ScI.app {wA w5:World} {tw:Str} {y:Pr} {v5:Value} (h:ScI C w ga gp fr tw out) (hv:w.heap[gp]?=some (.cells #[v] 28 (0,0))) (ho:OwnP C w v out) (bA:Below w.heap.size w wA) (hC:C<=w.heap.size)
 (o5:OwnP C w5 v5 (out++[y])) (g5:wA.grownBy w5 v.ownBlock):ScI C (w5.setCell ⟨gp,0,none⟩ v5) ga gp fr tw (out++[y])/\KSc C w (w5.setCell ⟨gp,0,none⟩ v5)/\w5.cell? ⟨gp,0,none⟩=some v/\w5.frozen? ⟨gp,0,none⟩=false:=by
 have k1:=KSc.of bA hC
 have k2:=KSc.app (C:=C) (qB ho bA) g5 (xc _) (xi hC bA.size)
 have hA:=(bA.block _ (xa hv)).trans hv
 have h5:=KeepT.grown (qB ho bA) g5 (e:=28) (by decide) _ _ _ hA
 have k3:=KSc.set (C:=C) h5 h.hC 0 v5
 refine⟨⟨(((k1.trans k2).trans k3).typ _ (by decide) (by decide)) _ _ _ h.ask,⟨v5,?_,qs o5 (KeepT.set (a:=⟨gp,0,none⟩) h5 (by decide) v5)⟩,h.hC⟩,(k1.trans k2).trans k3,qt h5 rfl,j5 h5 0⟩
 have:=qw h5 0 v5
 simpa using this
def qlt (tw:Str):Option Str:=if tw=[] then none else some tw
theorem Vi (tw:Str):qeh (qlt tw)/\(qlt tw).getD []=tw:=by
 unfold qlt qeh;by_cases h:tw=[]
 ·subst h;simp
 simp[h]
theorem qph (fr tw:Str) (y:Pr):pin fr tw y=kin fr (qlt tw) y.1:=by
 rw[qo6 (Vi tw).1,(Vi tw).2];rfl
theorem qsb {a b:Str} (h1:nd.keys[k]?=some a) (h2:nd.vals[k]?=some b):(npr nd)[k]?=some (a,b):=by simp[npr,kP,h1,h2]
theorem qee (C:Nat) (w:World) (ga gp:Nat) (fr tw:Str) (out:List Pr) (nd:Nd) (kv vv dv:Value) (hS:ScI C w ga gp fr tw out) (hC:C<=w.heap.size) (hN:OwnN B w kv vv dv nd) (hlv:nd.vals.length=nd.keys.length) (hlen:out.length+(npr nd).length<=4096) :
 Calls Tryz.prog 35 #[nv nd kv vv dv,.pointer (some ⟨ga,0,none⟩),.pointer (some ⟨gp,0,none⟩)] w fun e w'=>e=.returned (.tuple #[])/\ScI C w' ga gp fr tw (out++zr (npr nd) fr tw)/\KSc C w w':=by
 have hnl:(npr nd).length=nd.keys.length:=by rw[npr,Kc,hlv,Nat.min_self]
 obtain⟨X,hX,DX,bX,sX⟩:=qf w #[.bool nd.leaf,kv,vv,dv] 84;have HS:=qa (hS.to bX)
 have HK:=qa (KSc.of bX hC)
 have HN:=qa (hN.to bX)
 have HD:=qa DX
 obtain⟨ka,kc,va,vc,da,dc,rfl,rfl,rfl⟩:=hN.rd.slices;obtain⟨⟨E0,E1,E2,E3⟩,EF⟩:=qb DX;rw[hX] at E0 E1 E2 E3 EF;obtain⟨K,hK⟩:∃ K,K=nd.keys.length:=⟨_,rfl⟩;have hKb:K<=4096:=by omega
 replace hlen:=qa hlen;replace hnl:=qa hnl;replace hlv:=qa hlv;have hCX:Hid (C<=w.heap.size):=hC
 clear hS hN DX bX hC;dsimp only[nv];go_enter Tryz.func35,Tryz.ntmps35;go_wp2;rw[<-hX];rw[<-hK] at HD HN |-;replace hX:=qa hX;replace hK:=qa hK;clear E0 E1 E2 E3 EF;obtain⟨nb,hnb⟩:∃ nb,nb=w.heap.size:=⟨_,rfl⟩;rw[<-hnb] at HD |-;have hCX2:Hid (C<=X.heap.size):=by show _<=_;have:=hCX.out;omega
 clear hnb sX
 go_loopw [9] (fun p wr=>∃ i:Nat,i<=K/\p=.int .i64 i/\Hid (ScI C wr ga gp fr tw (out++zr ((npr nd).take i) fr tw)/\KSc C X wr)) (fun p _=>K-(intOf p).toNat)
 case atStart=>exact⟨0,xt _,rfl,qa ⟨by simpa[zr] using HS.out,KSc.refl _ _⟩⟩
 case round =>
 obtain⟨i,hi,rfl,hI⟩:=hrel;have D6:=hI.out.2.typ _ (by decide) (by decide) _ _ _ HD.out
 have N6:=HN.out.keepT (hI.out.2.typ _ (by decide) (by decide)) (hI.out.2.typ _ (by decide) (by decide))
 obtain⟨⟨E0,E1,E2,E3⟩,EF⟩:=qb D6;obtain⟨⟨A0,A1⟩,AF⟩:=Qc hI.out.1.ask;by_cases hlt:i<K
 ·have hq:(i:Int)<(K:Int):=by omega
  obtain⟨y1,hy1⟩:=qz nd.keys (k:=i) (by rw[<-hK.out];exact hlt)
  obtain⟨y2,hy2⟩:=qz nd.vals (k:=i) (by rw[hlv.out,<-hK.out];exact hlt)
  have hpa:=qa (qsb hy1 hy2)
  have hsn:=qa (qhi (npr nd) fr tw hpa.out)
  obtain⟨b,off,e1,hc1⟩:=N6.rd.keys.strAt hy1;subst e1;have KL:=qa (qbc wr fr (qlt tw) y1 (Vi tw).1)
  dsimp only[sv] at KL;rw[(Vi tw).2,<-qph fr tw (y1,y2)] at KL;have HD6:=qa D6
  have HN6:=qa N6
  clear D6 N6
  go_wp2_with fail
  refine KL.out.mono ?_;rintro e w1 ⟨rfl,b1⟩;have I1:=qa (xb (hI.out.1.to b1) (hI.out.2.trans (KSc.of b1 (xi hCX2.out hI.out.2.bel.size))))
  have D7:=(b1.block _ (xa HD6.out)).trans HD6.out
  have N7:=HN6.out.to b1
  have hC1:Hid (C<=w1.heap.size):=xi (xi hCX2.out hI.out.2.bel.size) b1.size
  clear E0 E1 E2 E3 EF A0 A1 AF hc1 KL hI HD6 HN6 b1;obtain⟨⟨E0,E1,E2,E3⟩,EF⟩:=qb D7;cases hp:pin fr tw (y1,y2) with
  | false =>
   rw[hp,xh (by simp)] at hsn
   replace hp:=qa hp;go_wp2;go_roundw
   case rel=>exact⟨i+1,by omega,by go_num,by rw[hsn.out];exact I1⟩
   case measure=>simp[intOf];omega
  | true =>
   rw[hp,xj rfl,] at hsn;obtain⟨b2,off2,e2,hc2⟩:=N7.rd.vals.strAt hy2;subst e2;have hq2:(i:Int)<(nd.vals.length:Int):=by have:=hlv.out;have:=hK.out;omega
   obtain⟨v,v1,v2⟩:=I1.out.1.var;obtain⟨cur,hcur⟩:∃ c,c=out++zr ((npr nd).take i) fr tw:=⟨_,rfl⟩;rw[<-hcur] at v2
   have hn:(cur.length+1)*32<=140737488355328:=by
    have h1:=List.length_filter_le (pin fr tw) ((npr nd).take i)
    have h2:=List.length_take_le' i (npr nd)
    have h3:=hlen.out
    have h4:cur.length=out.length+(zr ((npr nd).take i) fr tw).length:=by rw[hcur,xk]
    have h5:(zr ((npr nd).take i) fr tw).length<=(npr nd).length:=xi h1 h2
    omega
   obtain⟨pa,pc,rfl⟩:=(OwnP.rd v2).slice;obtain⟨WA,hWA⟩:∃ WA,WA=(w1.alloc (.cells #[st y1,st y2] 63)).drew:=⟨_,rfl⟩;obtain⟨wa,hwa,DA,bA0,sA⟩:=qf w1 #[st y1,st y2] 63;have bA:Below w1.heap.size w1 WA:=by rw[hWA,<-hwa];exact bA0.trans (qg wa 1 _)
   have nc0:WA.cell? ⟨w1.heap.size,0,none⟩=some (st y1):=by rw[hWA,<-hwa];exact((qg wa 1 wa.heap.size).cell (p:=⟨w1.heap.size,_,none⟩) (xa DA)).trans (qt DA rfl)
   have nc1:WA.cell? ⟨w1.heap.size,1,none⟩=some (st y2):=by rw[hWA,<-hwa];exact((qg wa 1 wa.heap.size).cell (p:=⟨w1.heap.size,_,none⟩) (xa DA)).trans (qt DA rfl)
   have hsz:C<=WA.heap.size:=xi hC1.out bA.size
   obtain⟨Lc,hLc⟩:∃ L,L=cur.length:=⟨_,rfl⟩;have hOW:OwnP C WA (.slice pa Lc pc) cur:=by rw[hLc];exact qB v2 bA
   have FIN:∀ v5 w5,OwnP C w5 v5 (cur++[(y1,y2)])->WA.grownBy w5 (Value.slice pa Lc pc).ownBlock ->
    Hid (ScI C (w5.setCell ⟨gp,0,none⟩ v5) ga gp fr tw (out++zr ((npr nd).take (i+1)) fr tw)/\KSc C X (w5.setCell ⟨gp,0,none⟩ v5))/\w5.cell? ⟨gp,0,none⟩=some (.slice pa Lc pc)/\w5.frozen? ⟨gp,0,none⟩=false:=fun v5 w5 o5 g5=>by
    have hs1:=I1.out.1
    rw[<-hcur] at hs1;rw[hLc] at g5;obtain⟨a1,a2,a3,a4⟩:=hs1.app v1 v2 bA hC1.out o5 g5;rw[hsn.out,<-xz,<-hcur,hLc];exact⟨⟨a1,I1.out.2.trans a2⟩,a3,a4⟩
   have V1:=qt v1 (i:=0) rfl
   rw[<-hLc] at V1;rw[hWA] at nc0 nc1 hOW hsz FIN;replace nc0:=qa nc0;replace nc1:=qa nc1;replace hOW:=qa hOW;replace hsz:=qa hsz;replace FIN:=qa FIN;replace hn:=qa hn;replace hp:=qa hp;replace hcur:=qa hcur;replace hLc:=qa hLc;clear hWA hwa DA bA0 sA bA v1 v2;go_wp2;refine qj (fun w'=>w'.cell? ⟨gp,0,none⟩=some (.slice pa Lc pc)/\w'.cell? ⟨nb,2,none⟩=some (.slice (some ⟨b2,off2,none⟩) nd.vals.length vc)/\w'.cell? ⟨b2,off2+i,none⟩=some (st y2)) 7 9 qG (by kernel_rfl) (fun _ _ _ _ h=>h) ⟨V1,E2,hc2⟩ ?_
   dsimp only[List.take,List.drop]
   iterate 7
    refine qA (v:=?_) (by rfl) ?_ ?_
    rotate_left
    ·rintro w' ⟨s1,s2,s3⟩;go_simp;try with_reducible rfl
    try simp only[Act.put,qB7]
   refine qM fun K hK=>?_;rw[xj (by rfl)]
   go_simp;refine hK _ _ ⟨V1,E2,hc2⟩ ?_;clear hK K;refine qM fun K hK=>?_;rw[xj (by rfl)]
   go_simp;refine hK _ _ ⟨Qq V1 _,Qq E2 _,Qq hc2 _⟩ ?_;clear hK K;show wpList _ _ _ _ _ _
   refine qf3 rfl _ _ rfl C (.slice pa Lc pc) cur (y1,y2) w1.heap.size rfl rfl hOW.out nc0.out nc1.out hn.out hsz.out ?_;intro v5 w5 o5 g5;obtain⟨a5,c5,h5⟩:=(OwnP.rd o5).slice;subst h5;obtain⟨F1,F2,F3⟩:=FIN.out _ w5 o5 g5;generalize (cur++[(y1,y2)]).length=m5 at *;clear o5 g5 FIN;go_wp2;go_roundw
   case rel=>exact⟨i+1,by omega,by go_num,F1⟩
   case measure=>simp[intOf];omega
 have hq:¬ (i:Int)<(K:Int):=by omega
 have htk:(npr nd).take i=npr nd:=xx (by rw[hnl.out,<-hK.out];omega)
 rw[htk] at hI;clear D6 N6;go_wp2
 (try simp only[Exit.inBlock,Exit.then])
 first
  | refine Xk (Xp rfl _ _ _) rfl ?_
  | refine bodyPost_end (Xp rfl _ _ _) rfl ?_
 exact⟨rfl,hI.out.1,HK.out.trans hI.out.2⟩
def j6 (l:List Wrt) (k:Nat) (nd:Nd):List Pr:=if nd.leaf=true then npr nd else nd.kids.flatMap (zE l k)
def SN (l:List Wrt) (S:List Int) (k:Nat) (nd:Nd):Prop:=NOk nd/\(nd.leaf=false->∃ lo hi,∀ (i:Nat) kid,nd.kids[i]?=some kid->WOk l S k kid (Qi nd lo i) (qZ nd hi i))
theorem SN.top {s:Sw} (ht:Qn t=some s) (h:TopIs t nd):SN t.pages s.seen 15 nd/\j6 t.pages 15 nd=s.prs:=by
 rcases h with ⟨h0,rfl⟩|⟨h0,x,h1,h2⟩
 ·refine⟨⟨qha,fun h=>by cases h⟩,?_⟩
  unfold Qn at ht;rw[xj h0] at ht;simp only[xr] at ht;subst ht;rfl
 obtain⟨⟨a1,x',nd',b1,b2,b3,b4,b5⟩,c⟩:=yA ht h0;rw[h1] at b1;simp only[xr] at b1;subst b1;rw[h2] at b2;simp only[K8,XS] at b2;subst b2;refine⟨⟨jL h2,fun hl=>⟨[],none,b5 hl⟩⟩,?_⟩;unfold j6;cases hl:nd.leaf with
 | true=>rw[c,ZB h1 h2 hl];simp
 | false=>rw[c,Zm h1 h2 hl];simp
theorem SN.kid {S:List Int} (h:SN l S k nd) (hl:nd.leaf=false) {kid:Int} (hk:nd.kids[i]?=some kid) :
 kid∈S/\∃ k' x nd',k=k'+1/\qH l kid=some x/\QJ x=(nd',0)/\SN l S k' nd'/\j6 l k' nd'=zE l k kid:=by
 obtain⟨lo,hi,h1⟩:=h.2 hl;have hw:=h1 i kid hk
 cases k with
 | zero=>exact hw.elim
 | succ k' =>
  obtain⟨b0,x,nd',b1,b2,b3,b4,b5⟩:=hw;refine⟨b0,k',x,nd',rfl,b1,b2,⟨jL b2,fun hl'=>⟨_,_,b5 hl'⟩⟩,?_⟩;unfold j6;cases hl':nd'.leaf with
  | true=>rw[ZB b1 b2 hl'];simp
  | false=>rw[Zm b1 b2 hl'];simp
theorem PWk.sc {w0:World} {bm:Nat} {s:Sw} {m:Int->Option Value} (h:PWk w0 w B g bm t pv s m) (k:KSc C w w') (hC:w0.heap.size<=C):PWk w0 w' B g bm t pv s m:=by
 have hm:w'.heap[bm]?=w.heap[bm]?:=by
  obtain⟨D,⟨es,c,hb,_⟩,_⟩:=h.map;rw[hb];exact k.map _ _ _ hb
 refine⟨k.typ _ (by decide) (by decide) _ _ _ h.box,h.map.kept hm,h.has,fun i v hv=>?_,h.pg,h.ok,h.dep,h.bel.trans (k.bel.mono hC),h.hg,h.hm,h.apt⟩
 obtain⟨x,nd,kv,vv,dv,h1,h2,h3,h4,h5⟩:=h.nds i v hv;exact⟨x,nd,kv,vv,dv,h1,h2,h3,h4.keepT (k.typ _ (by decide) (by decide)) (k.typ _ (by decide) (by decide)),h5⟩
theorem qjr (a b:List Pr) (x y:Str):zr (a++b) x y=zr a x y++zr b x y:=by unfold zr;rw[X6]
theorem qop (a:List Pr) (x y:Str):(zr a x y).length<=a.length:=List.length_filter_le _ _
abbrev clo (ga gp:Nat):Value:=.func (.func 35) #[] #[.pointer (some ⟨ga,0,none⟩),.pointer (some ⟨gp,0,none⟩)]
theorem qkm (w0:World) (B g bm C ga gp:Nat) (t:Tr) (pv:Value) (s:Sw) (m:Int->Option Value) (fr tw:Str) (hw0:w0.heap.size<=C):∀ (k:Nat) (w:World) (nd:Nd) (kv vv dv:Value) (out:List Pr),
 PWk w0 w B g bm t pv s m->ScI C w ga gp fr tw out->C<=w.heap.size->OwnN B w kv vv dv nd->SN t.pages s.seen k nd->out.length+(j6 t.pages k nd).length<=4096 ->
 Calls Tryz.prog 33 #[.pointer (some ⟨g,0,none⟩),nv nd kv vv dv,clo ga gp] w fun e w'=>e=.returned (.tuple #[])/\ScI C w' ga gp fr tw (out++zr (j6 t.pages k nd) fr tw)/\KSc C w w':=by
 intro k
 induction k with
 | zero =>
  intro w nd kv vv dv out H hS hC hN hs hlen;obtain⟨X,hX,DX,bX,sX⟩:=qf w #[.bool nd.leaf,kv,vv,dv] 84;have HX:=qa (H.to bX)
  have SX:=qa (hS.to bX)
  have HK:=qa (KSc.of bX hC)
  have HN:=qa (hN.to bX)
  have HD:=qa DX
  have hCX:Hid (C<=X.heap.size):=xi hC bX.size
  obtain⟨ka,kc,va,vc,da,dc,rfl,rfl,rfl⟩:=hN.rd.slices;obtain⟨⟨E0,E1,E2,E3⟩,EF⟩:=qb DX;replace hs:=qa hs;clear H hS hN DX bX hC;dsimp only[nv,clo];cases hl:nd.leaf with
  | true =>
   have hlv:nd.vals.length=nd.keys.length:=by
    have h1:=hs.out.1.2.1
    unfold qP at h1;rw[xj hl] at h1;exact h1.1
   have hnp:Hid (j6 t.pages 0 nd=npr nd):=by show _=_;unfold j6;rw[xj hl]
   have KC:=qa (qee C X ga gp fr tw out nd _ _ _ SX.out hCX.out HN.out hlv (by rw[<-hnp.out];exact hlen))
   rw[hl] at E0 hX;dsimp only[nv] at KC;rw[hl] at KC;replace hlen:=qa hlen;replace hl:=qa hl;rw[hX] at E0 E1 E2 E3 EF KC;clear hlv;go_enter Tryz.func33,Tryz.ntmps33
   go_wp2_with fail
   refine KC.out.mono ?_;rintro e w1 ⟨rfl,q1,q2⟩;rw[<-hX] at q2;have Q:=qa (xb q1 (HK.out.trans q2))
   clear q1 q2 KC E0 E1 E2 E3 EF;go_wp2
   (try simp only[Exit.inBlock,Exit.then])
   first
    | refine Xk (Xp rfl _ _ _) rfl ?_
    | refine bodyPost_end (Xp rfl _ _ _) rfl ?_
   rw[hnp.out];exact⟨rfl,Q.out.1,Q.out.2⟩
  | false =>
   exfalso
   have h1:=Q9 hs.out.1 hl
   obtain⟨lo,hi,h2⟩:=hs.out.2 hl;exact h2 0 _ (xg (by omega))
 | succ k ih =>
  intro w nd kv vv dv out H hS hC hN hs hlen;obtain⟨X,hX,DX,bX,sX⟩:=qf w #[.bool nd.leaf,kv,vv,dv] 84;have HX:=qa (H.to bX)
  have SX:=qa (hS.to bX)
  have HK:=qa (KSc.of bX hC)
  have HN:=qa (hN.to bX)
  have HD:=qa DX
  have hCX:Hid (C<=X.heap.size):=xi hC bX.size
  obtain⟨ka,kc,va,vc,da,dc,rfl,rfl,rfl⟩:=hN.rd.slices;obtain⟨⟨E0,E1,E2,E3⟩,EF⟩:=qb DX;replace hs:=qa hs;replace ih:=qa ih;clear H hS hN DX bX hC;dsimp only[nv,clo];cases hl:nd.leaf with
  | true =>
   have hlv:nd.vals.length=nd.keys.length:=by
    have h1:=hs.out.1.2.1
    unfold qP at h1;rw[xj hl] at h1;exact h1.1
   have hnp:Hid (j6 t.pages (k+1) nd=npr nd):=by show _=_;unfold j6;rw[xj hl]
   have KC:=qa (qee C X ga gp fr tw out nd _ _ _ SX.out hCX.out HN.out hlv (by rw[<-hnp.out];exact hlen))
   rw[hl] at E0 hX;dsimp only[nv] at KC;rw[hl] at KC;replace hlen:=qa hlen;replace hl:=qa hl;rw[hX] at E0 E1 E2 E3 EF KC;clear hlv;go_enter Tryz.func33,Tryz.ntmps33
   go_wp2_with fail
   refine KC.out.mono ?_;rintro e w1 ⟨rfl,q1,q2⟩;rw[<-hX] at q2;have Q:=qa (xb q1 (HK.out.trans q2))
   clear q1 q2 KC E0 E1 E2 E3 EF;go_wp2
   (try simp only[Exit.inBlock,Exit.then])
   first
    | refine Xk (Xp rfl _ _ _) rfl ?_
    | refine bodyPost_end (Xp rfl _ _ _) rfl ?_
   rw[hnp.out];exact⟨rfl,Q.out.1,Q.out.2⟩
  | false =>
   have hnp:Hid (j6 t.pages (k+1) nd=nd.kids.flatMap (zE t.pages (k+1))):=by show _=_;unfold j6;rw[hl];rfl
   rw[hnp.out] at hlen;have hD3:nd.kids.length<=301:=by have h1:=Q9 hs.out.1 hl;have:=(JI hs.out.1).2;omega
   have HL:=qa hl
   rw[hl] at E0 hX HD;obtain⟨D,hD⟩:∃ D,D=nd.kids.length:=⟨_,rfl⟩;replace hlen:=qa hlen;rw[<-hD] at E3 hX hD3 HN HD |-;rw[hX] at E0 E1 E2 E3 EF;replace hD:=qa hD;replace hl:=qa hl;go_enter Tryz.func33,Tryz.ntmps33;go_wp2;rw[<-hX];replace hX:=qa hX;clear E0 E1 E2 E3 EF
   go_loopw [16] (fun p wr=>∃ i:Nat,i<=D/\p=.int .i64 i/\Hid (ScI C wr ga gp fr tw (out++zr ((nd.kids.take i).flatMap (zE t.pages (k+1))) fr tw)/\KSc C X wr)) (fun p _=>D-(intOf p).toNat)
   case atStart=>exact⟨0,xt _,rfl,qa ⟨by simpa[zr] using SX.out,KSc.refl _ _⟩⟩
   case round =>
   obtain⟨i,hi,rfl,hI⟩:=hrel;have PW:=HX.out.sc hI.out.2 hw0
   have N6:=HN.out.keepT (hI.out.2.typ _ (by decide) (by decide)) (hI.out.2.typ _ (by decide) (by decide))
   obtain⟨⟨C0,C1,C2,C3⟩,⟨C4,C5⟩,CF⟩:=PW.cell;by_cases hlt:i<D
   ·have hq:(i:Int)<(D:Int):=by omega
    obtain⟨kid,hkid⟩:=qz nd.kids (k:=i) (by rw[<-hD.out];exact hlt)
    obtain⟨b3,off3,e3,hc3⟩:=N6.rd.kids.intAt hkid;subst e3;obtain⟨s4,k',x,nd',hk',n1,n2,s5,s6⟩:=hs.out.kid HL.out hkid;have hk'':k=k':=by omega
    subst hk'';obtain⟨v,hv,x',nd'',kv',vv',dv',z1,z2,rfl,z4,_⟩:=PW.node s4;rw[n1] at z1;simp only[xr] at z1;subst z1;rw[n2] at z2;simp only[K8,XS] at z2;subst z2
    have hkw:(Lit.int .i64 kid).wf=true:=by
     have:=hs.out.1.2.2.2.1 i (by rw[<-hD.out];exact hlt)
     rw[hkid] at this;simp only[xM] at this;exact Kv (by omega)
    have hlk1:=PW.map.look xS (QG wr) hkw false
    rw[hv] at hlk1;simp only[xM,xI,XJ] at hlk1
    have htk:Hid ((nd.kids.take (i+1)).flatMap (zE t.pages (k+1))=(nd.kids.take i).flatMap (zE t.pages (k+1))++zE t.pages (k+1) kid):=by
     show _=_
     rw[Xf,hkid,kH];simp
    have hle:(out++zr ((nd.kids.take i).flatMap (zE t.pages (k+1))) fr tw).length+(j6 t.pages k nd').length<=4096:=by
     have h1:=qop ((nd.kids.take i).flatMap (zE t.pages (k+1))) fr tw
     have h2:=hlen.out
     have h3:((nd.kids.take i).flatMap (zE t.pages (k+1))).length+(zE t.pages (k+1) kid).length<=(nd.kids.flatMap (zE t.pages (k+1))).length:=by
      rw[<-xk,<-htk.out]
      conv=>rhs;rw[<-x7 (i+1) nd.kids,kH,xk]
      omega
     rw[xk,s6];omega
    have KR:=qa (ih.out wr nd' kv' vv' dv' _ PW hI.out.1 (xi hCX.out hI.out.2.bel.size) z4 s5 hle)
    obtain⟨ka',kc',va',vc',da',dc',rfl,rfl,rfl⟩:=z4.rd.slices;dsimp only[nv,clo] at hlk1 KR;have HI:=qa hI.out.2
    have s6':=qa s6
    clear s4 n1 n2 s5 s6 hv z4 hkw hI PW N6 hle hk' C0 C1 C2 C4 C5 CF hkid
    go_wp2_with fail
    refine KR.out.mono ?_;rintro e w7 ⟨rfl,q1,q2⟩;rw[xz,<-qjr,s6'.out,<-htk.out] at q1;have Q:=qa (xb q1 (HI.out.trans q2))
    clear q1 q2 KR hlk1;go_wp2;go_roundw
    case rel=>exact⟨i+1,by omega,by go_num,Q⟩
    case measure=>simp[intOf];omega
   have hq:¬ (i:Int)<(D:Int):=by omega
   have htk:nd.kids.take i=nd.kids:=xx (by rw[<-hD.out];omega)
   rw[htk] at hI;clear PW N6;go_wp2
   (try simp only[Exit.inBlock,Exit.then])
   first
    | refine Xk (Xp rfl _ _ _) rfl ?_
    | refine bodyPost_end (Xp rfl _ _ _) rfl ?_
   rw[hnp.out];exact⟨rfl,hI.out.1,HK.out.trans hI.out.2⟩
theorem vN (w:World) (t:Tr) (pv:Value) (fr tw:Str) (h:RdC w pv t.pages) (hroot:(Lit.int .i64 t.root).wf=true):Calls Tryz.prog 8 #[tv t pv,st fr,st tw] w fun e w' =>
 ∃ v,e=.returned (.tuple #[v,.int .i64 (qa4 t fr tw).2])/\OwnP w.heap.size w' v (qa4 t fr tw).1/\Below w.heap.size w w':=by
 obtain⟨W,hW,D,bW,sW⟩:=qf w #[.int .i64 t.root,.int .i64 t.next,pv] 27
 have KN:=qa (vJ W t pv (h.to0 bW) hroot)
 obtain⟨a,c,rfl⟩:=h.slice;obtain⟨⟨D0,D1,D2⟩,_⟩:=ql D;have HB:=qa bW
 rw[hW] at D0 D1 D2 KN;dsimp only[tv] at KN |-;clear h bW D sW;obtain⟨R,hR⟩:∃ R,R=qa4 t fr tw:=⟨_,rfl⟩;rw[<-hR];replace hR:=qa hR;go_enter Tryz.func8,Tryz.ntmps8
 go_wp2_with fail
 refine KN.out.mono ?_;rintro e w1 hp;rw[<-hW] at hp;rcases hp with ⟨g,bm,B,s,m,rfl,p1,p2,p3,p4,p5⟩|⟨rfl,p1,p2⟩
 ·have hr:Hid (R=(zr s.prs fr tw,0)):=by show _=_;rw[hR.out];unfold qa4;rw[jK p1 p2 p3]
  obtain⟨X,hX,DX,bX,sX⟩:=qf w1 #[.slice none 0 0] 28;obtain⟨Y,hY,DY,bY,sY⟩:=qf X #[st fr,st tw] 90;have bXY:=bX.trans (bY.mono bX.size)
  have PY:=qa (p4.to bXY)
  have B1:=qa (HB.out.trans (p4.bel.mono HB.out.size))
  have BY:=qa (xb bXY B1.out)
  have hSc:Hid (ScI w1.heap.size Y (w1.heap.size+1) w1.heap.size fr tw []):=⟨by rw[<-sX];exact DY,⟨_,(bY.block _ (xa DX)).trans DX,xA _ _ _ _⟩,xc _⟩
  have KT:=qa (qam W Y B g bm t _ s m PY.out hroot p2)
  have hWw:Hid (W.heap.size<=w1.heap.size):=p4.bel.size
  rw[hY,hX] at KT;have hp2:=qa p2
  have hp3:=qa p3
  clear p1 p2 p3 p4 p5 KN hW D0 D1 D2 DX DY bX bY
  go_wp2_with fail
  refine KT.out.mono ?_;rintro e w2 ⟨nd,kv,vv,dv,rfl,hT,ho,b2,_⟩;rw[<-hX,<-hY] at b2;obtain⟨q1,q2⟩:=SN.top hp2.out hT;have KE:=qa (qkm W B g bm w1.heap.size (w1.heap.size+1) w1.heap.size t _ s m fr tw hWw.out 15 w2 nd kv vv dv [] (PY.out.to b2) (hSc.out.to b2) (xi bXY.size b2.size) ho q1 (by rw[q2];simpa using hp3.out))
  rw[q2] at KE;have B2:=qa (xb (bXY.trans (b2.mono bXY.size)) B1.out)
  dsimp only[clo] at KE;clear KT q1 q2 ho b2 hT bXY hX hY
  go_wp2_with fail
  refine KE.out.mono ?_;rintro e w3 ⟨rfl,r1,r2⟩;obtain⟨v,v1,v2⟩:=r1.var;rw[xG] at v2;obtain⟨pa,pc,rfl⟩:=(OwnP.rd v2).slice;have V1:=qt v1 (i:=0) rfl
  have O3:=qa v2
  have B3:=qa (B1.out.trans ((B2.out.1.trans r2.bel).mono B1.out.size))
  clear r1 r2 v1 v2 KE;go_wp2
  go_ret2
  rw[hr.out];exact⟨_,rfl,QA O3.out B1.out.size,B3.out⟩
 have hr:Hid (R=([],9)):=by show _=_;rw[hR.out];unfold qa4;rw[p1]
 have B1:=qa (HB.out.trans (p2.mono HB.out.size))
 clear p1 p2 KN HB hW D0 D1 D2;go_wp2
 go_ret2
 rw[hr.out];exact⟨_,rfl,xA _ _ _ _,B1.out⟩
theorem qew (h:QR t=some ps):qa4 t [] []=(zr ps [] [],0):=by unfold qa4;rw[h]
theorem qqy {a b d e:Value} {t:TypeId} (h:w.heap[g]?=some (.cells #[a,b,c,d,e] t (0,0))) :
 (w.cell? ⟨g,0,none⟩=some a/\w.cell? ⟨g,1,none⟩=some b/\w.cell? ⟨g,2,none⟩=some c/\w.cell? ⟨g,3,none⟩=some d/\w.cell? ⟨g,4,none⟩=some e)/\∀ i,w.frozen? ⟨g,i,none⟩=false:=by
 refine⟨⟨?_,?_,?_,?_,?_⟩,fun i=>?_⟩
 ·rw[Xi _ _ 0 _ _ (0,0) h];rfl
 ·rw[Xi _ _ 1 _ _ (0,0) h];rfl
 ·rw[Xi _ _ 2 _ _ (0,0) h];rfl
 ·rw[Xi _ _ 3 _ _ (0,0) h];rfl
 ·rw[Xi _ _ 4 _ _ (0,0) h];rfl
 simp[World.frozen?,h]
theorem qf9 {u:World} {a b:Value} {t:TypeId} {fr:Nat×Nat} (h:u.heap[g]?=some (.cells #[a,b,c] t fr)) (x:Value):(u.setCell ⟨g,2,none⟩ x).heap[g]?=some (.cells #[a,b,x] t fr):=by
 simp[World.setCell,Xc,h]
structure LdI (w wr:World) (g4 g7:Nat) (t:Tr) (pv sv cv:Value) (e x y:Int) (k:Nat):Prop where
 b1:wr.heap[w.heap.size]?=some (.cells #[sv,cv] 43 (0,0))
 b4:wr.heap[g4]?=some (.cells #[.int .i64 e,.int .i64 t.root,.int .i64 x,.int .i64 t.next,.int .i64 y] 51 (0,0))
 b7:wr.heap[g7]?=some (.cells #[.int .i64 t.root,.int .i64 t.next,pv] 27 (0,0))
 own:OwnPg (g7+1) wr pv (t.pages.take k)
 bel:Below w.heap.size w wr
 l4:w.heap.size<g4/\g4<g7
theorem LdI.to {sv cv:Value} {x:Int} (h:LdI w wr g4 g7 t pv sv cv e x y k) (b:Below wr.heap.size wr wr'):LdI w wr' g4 g7 t pv sv cv e x y k :=
 ⟨(b.block _ (xa h.b1)).trans h.b1,(b.block _ (xa h.b4)).trans h.b4,(b.block _ (xa h.b7)).trans h.b7,h.own.to9 b,h.bel.trans (b.mono h.bel.size),h.l4⟩
theorem qhb {xs:List Wrt} {x:Wrt} (h:xs[k]?=some x):xs.take (k+1)=xs.take k++[x]:=by rw[Xf,h];rfl
theorem LdI.app {pv' sv cv:Value} {x:Int} (h:LdI w wr g4 g7 t pv sv cv e x y k) (b:Below (g7+1) wr U) (o:OwnPg (g7+1) U pv' (t.pages.take (k+1))) (kt:∀ e,e≠27->KeepT e U (U.setCell ⟨g7,2,none⟩ pv')):LdI w (U.setCell ⟨g7,2,none⟩ pv') g4 g7 t pv' sv cv e x y (k+1):=by
 obtain⟨l1,l2⟩:=h.l4
 exact⟨(xd _ _ _ _ (show w.heap.size≠g7 by omega)).trans ((b.block _ (by omega)).trans h.b1),(xd _ _ _ _ (show g4≠g7 by omega)).trans ((b.block _ (by omega)).trans h.b4),qf9 ((b.block _ (by omega)).trans h.b7) _,
  OwnX.keepT o (kt _ (by decide)) (kt _ (by decide)),(h.bel.trans (b.mono (by omega))).setCell (p:=⟨g7,2,none⟩) (by show _<=g7;omega) _,h.l4⟩
theorem qhe {a b:Value} (h:U.heap[g]?=some (.cells #[a,b,c] 27 (0,0))) (x:Value):∀ e,e≠27->KeepT e U (U.setCell ⟨g,2,none⟩ x):=fun e he b cur fr z=>by
 have hbg:b≠g:=fun q=>by
  rw[q,h] at z;simp only[xr,kF] at z;exact he z.2.1.symm
 exact(xd _ _ _ _ hbg).trans z
def qq3 (w:World) (ps:List Pr) (e:Ending) (w':World):Prop:=∃ v,e=.returned (.tuple #[v,.bool true])/\OwnP w.heap.size w' v (zr ps [] [])/\Below w.heap.size w w'
theorem YT (w:World) (sv cv:Value) (d:Dsk) (t:Tr) (ps:List Pr) (N:Nat) (a b:List UInt8) (h1:zp w sv d.1) (h2:RdC w cv d.2) (hs:Seq t) (H:Hv d N a b (t.pages.map (·.2))) (hl:∃ bk ix,JL d=(bk,ix,0)/\bk.2.1=t.root/\bk.2.2.2.1=t.next) (hps:QR t=some ps) :
 Calls Tryz.prog 16 #[.agg #[sv,cv]] w fun e w'=>qq3 w ps e w':=by
 obtain⟨⟨e0,r0,x0,t0,y0⟩,ix,hsl,hr0,ht0⟩:=hl;dsimp only at hr0 ht0;subst hr0 ht0;obtain⟨W,hW,D,bW,sW⟩:=qf w #[sv,cv] 43;have KL:=qlj W sv cv d (h1.to0 bW) (h2.to0 bW)
 rw[hsl] at KL;dsimp only at KL;replace KL:=qa KL;have RS:=qa (xb h1 h2)
 obtain⟨sa,sc,rfl⟩:=h1.slice;obtain⟨ca,cc,rfl⟩:=h2.slice;have hfew:=H.few
 rw[Xe] at hfew;have HH:=qa H
 have HS:=qa hs
 have HPS:=qa hps
 obtain⟨L,hL⟩:∃ L,L=t.pages.length:=⟨_,rfl⟩;have hnx:t.next=((L+1:Nat):Int):=by rw[hs.1,hL];push_cast;omega
 have hrw:Hid ((Lit.int .i64 t.root).wf=true):=(zI hps).1.rwf
 rw[<-hL] at hfew;replace hL:=qa hL;have HNX:=qa hnx
 clear hnx;generalize d.1.length=SL at *;generalize d.2.length=CL at *;have BW:=qa (xb D (xb bW sW))
 rw[hW] at KL;clear h1 h2 H hs hps hsl D bW sW;go_enter Tryz.func16,Tryz.ntmps16
 go_wp2_with fail
 refine KL.out.mono ?_;rintro e w2 ⟨rfl,b2⟩;rw[<-hW] at b2;replace hW:=qa hW;clear KL;have B2:=BW.out.2.1.trans (b2.mono BW.out.2.1.size)
 have D2:=(b2.block _ (xa BW.out.1)).trans BW.out.1
 obtain⟨Y,hY,DY,bY,sY⟩:=qf w2 #[.int .i64 e0,.int .i64 t.root,.int .i64 x0,.int .i64 t.next,.int .i64 y0] 51
 obtain⟨Z,hZ,DZ,bZ,sZ⟩:=qf Y #[.int .i64 t.root,.int .i64 t.next,.slice none 0 0] 27
 have hI0:Hid (LdI w Z w2.heap.size (w2.heap.size+1) t (.slice none 0 0) (.slice sa SL sc) (.slice ca CL cc) e0 x0 y0 0):=by
  rw[sY] at DZ;have l2:=xa D2
  exact⟨(bZ.block _ (by omega)).trans ((bY.block _ l2).trans D2),(bZ.block _ (by omega)).trans DY,DZ,OwnX.nil _ _ _,(B2.trans (bY.mono B2.size)).trans (bZ.mono (xi B2.size bY.size)),l2,by omega⟩
 have hg:Hid (w.heap.size<=w2.heap.size):=B2.size
 clear B2 D2 b2 BW DY DZ bY bZ sY sZ
 go_upto_region 5 with fail
 rw[<-hY,<-hZ];replace hY:=qa hY;replace hZ:=qa hZ;generalize w2.heap.size=g4 at *;go_wp2
 go_loopw [8] (fun p wr=>∃ (k:Nat) (z:Int) (pv:Value),k<=L/\p=.int .i64 z/\Hid (z=((k+1:Nat):Int))/\Hid (LdI w wr g4 (g4+1) t pv (.slice sa SL sc) (.slice ca CL cc) e0 x0 y0 k)) (fun p _=>L+1-(intOf p).toNat)
 case atStart=>exact⟨0,1,_,xt _,rfl,qa rfl,hI0⟩
 case round =>
 obtain⟨k,z,pv,hk,rfl,hz,hI⟩:=hrel;have z1:z<=(k:Int)+1:=by have:=hz.out;omega
 have z2:(k:Int)+1<=z:=by have:=hz.out;omega
 obtain⟨⟨E0,E1,E2,E3,E4⟩,_⟩:=qqy hI.out.b4;obtain⟨oa,oc,ho⟩:=hI.out.own.rd.slice;obtain⟨PL,hPL⟩:∃ P,P=(t.pages.take k).length:=⟨_,rfl⟩;rw[<-hPL] at ho;subst ho;replace hPL:=qa hPL;by_cases hlt:k<L
 ·have q1:z<t.next:=by rw[HNX.out];omega
  have q2:z<260:=by omega
  obtain⟨y,hy⟩:=qz t.pages (k:=k) (by rw[<-hL.out];exact hlt)
  have hid:y.1=z:=by rw[hz.out];have:=HS.out.2 k y hy;push_cast;exact this
  have hread:=HH.out.read (qgq hy)
  rw[<-hz.out] at hread
  have KR:Hid (∀ cw,Below wr.heap.size wr cw->Calls Tryz.prog 53 #[.agg #[.slice sa SL sc,.slice ca CL cc],.int .i64 (Q5 k),.int .i64 z] cw fun e w'=>∃ a6 c6,e=.returned (.tuple #[.slice a6 y.2.length c6,.int .i64 0])/\OwnB cw.heap.size w' (.slice a6 y.2.length c6) y.2/\Below cw.heap.size cw w'):=fun cw hb=>by
   refine(pages_say.readS cw _ _ d (Q5 k) z (RS.out.1.to0 (hI.out.bel.trans (hb.mono hI.out.bel.size))) (RS.out.2.to0 (hI.out.bel.trans (hb.mono hI.out.bel.size))) (by unfold Q5;omega) (by omega)).mono ?_
   rintro e w' ⟨v',he,ho,hb'⟩;rw[hread] at he ho;obtain⟨a6,c6,rfl⟩:=ho.rd.slice;exact⟨a6,c6,he,ho,hb'⟩
  have KH:=qa (fun cw=>qbo cw k (by omega))
  rw[<-hz.out] at KH;obtain⟨z0,z1,z2,z3⟩:=qh hI.out.b1;have HSF:Hid (∀ cw,Below wr.heap.size wr cw->cw.cell? ⟨w.heap.size,0,none⟩=some (.slice sa SL sc)/\cw.cell? ⟨w.heap.size,1,none⟩=some (.slice ca CL cc)):=fun cw hb=>⟨(hb.cell (qe z0)).trans z0,(hb.cell (qe z1)).trans z1⟩
  have HYM:Hid (y.2.length<=244/\t.pages.take (k+1)=t.pages.take k++[(z,y.2)]):=⟨HH.out.sm _ (xQ (qgq hy)),by rw[qhb hy,<-hid]⟩
  obtain⟨X,hX⟩:∃ X,X=y.2:=⟨_,rfl⟩;rw[<-hX] at KR HYM;generalize hXL:X.length=XL at *;have HXL:=qa hXL
  clear hy hid hread hX hXL
  go_upto_region 8 with fail
  clear z0 z1 z2 z3 E0 E1 E2 E3 E4;refine Ql (fun w9=>w9.cell? ⟨w.heap.size,0,none⟩=some (.slice sa SL sc)/\w9.cell? ⟨w.heap.size,1,none⟩=some (.slice ca CL cc)) 9 qG (by simp) ?_
  have b0:Below wr.heap.size wr wr.drew:=qg wr 1 _
  generalize wr.drew=c0 at *;refine qc (i:=0) (v:=?_) rfl (by kernel_rfl) (fun _ _ _ _ h=>h) (by kernel_rfl) (HSF.out _ b0) ?_ ?_
  rotate_left
  ·rintro w9 ⟨t0,t1⟩;go_simp;try with_reducible rfl
  try simp only[qA7,Act.put,qB7]
  refine qc (i:=1) (v:=?_) rfl (by kernel_rfl) (fun _ _ _ _ h=>h) (by kernel_rfl) (HSF.out _ b0) ?_ ?_
  rotate_left
  ·rintro w9 ⟨t0,t1⟩;go_simp;try with_reducible rfl
  try simp only[qA7,Act.put,qB7]
  refine qc (i:=3) (v:=?_) rfl (by kernel_rfl) (fun _ _ _ _ h=>h) (by kernel_rfl) (HSF.out _ b0) ?_ ?_
  rotate_left
  ·rintro w9 ⟨t0,t1⟩;go_simp;try with_reducible rfl
  try simp only[qA7,Act.put,qB7]
  refine qr 2 (by kernel_rfl) ?_
  refine qi rfl (by kernel_rfl) fun K hK=>?_
  refine qk 39 _ _ (by rfl) #[.int .i64 z] (by simp[Act.eval]) (Tryz.call39 _ _) (KH.out c0) ?_
  rintro e w9 ⟨rfl,rfl⟩;refine⟨_,rfl,hK _ _ (HSF.out _ b0) ?_⟩;clear hK K;try simp only[qA7,Act.put,qB7]
  refine qr 4 (by kernel_rfl) ?_
  refine qi rfl (by kernel_rfl) fun K hK=>?_
  refine qk 53 _ _ (by rfl) #[.agg #[.slice sa SL sc,.slice ca CL cc],.int .i64 (Q5 k),.int .i64 z] (by simp[Act.eval]) (Tryz.call53 _ _) (KR.out _ b0) ?_
  rintro e c1 ⟨a6,c6,rfl,oF,bF⟩;have b1:=b0.trans (bF.mono b0.size)
  refine⟨_,rfl,hK _ _ (HSF.out _ b1) ?_⟩;clear hK K;try simp only[qA7,Act.put,qB7]
  refine qc (i:=5) (v:=?_) rfl (by kernel_rfl) (fun _ _ _ _ h=>h) (by kernel_rfl) (HSF.out _ b1) ?_ ?_
  rotate_left
  ·rintro w9 ⟨t0,t1⟩;go_simp;try with_reducible rfl
  try simp only[qA7,Act.put,qB7]
  refine qc (i:=6) (v:=?_) rfl (by kernel_rfl) (fun _ _ _ _ h=>h) (by kernel_rfl) (HSF.out _ b1) ?_ ?_
  rotate_left
  ·rintro w9 ⟨t0,t1⟩;go_simp;try with_reducible rfl
  try simp only[qA7,Act.put,qB7]
  refine qc (i:=7) (v:=?_) rfl (by kernel_rfl) (fun _ _ _ _ h=>h) (by kernel_rfl) (HSF.out _ b1) ?_ ?_
  rotate_left
  ·rintro w9 ⟨t0,t1⟩;go_simp;try with_reducible rfl
  try simp only[qA7,Act.put,qB7]
  refine qc (i:=8) (v:=?_) rfl (by kernel_rfl) (fun _ _ _ _ h=>h) (by kernel_rfl) (HSF.out _ b1) ?_ ?_
  rotate_left
  ·rintro w9 ⟨t0,t1⟩;go_simp;try with_reducible rfl
  try simp only[qA7,Act.put,qB7]
  refine qT (by kernel_rfl) ?_
  show wpList _ _ _ _ _ _
  have hI1:=qa (hI.out.to b1)
  have hwg:Hid (g4+1+1<=wr.heap.size):=by have:=xa hI.out.b7;show _<=_;omega
  have O1:Hid (OwnB (g4+1+1) c1 (.slice a6 XL c6) X):=Qt oF (fun b hb=>by have:=(xo oF b hb).1;have:=b0.size;have:=hwg.out;omega)
  have S1:Hid (g4+1+1<=c1.heap.size):=by have:=xa hI1.out.b7;show _<=_;omega
  clear b0 b1 bF oF;obtain⟨⟨T0,T1,T2⟩,TF⟩:=ql hI1.out.b7;obtain⟨V,hV,DV,bV,sV⟩:=qf c1 #[.int .i64 z,.slice a6 XL c6] 97;obtain⟨v0,v1,v2,v3⟩:=qh DV;have hIV:=qa (hI1.out.to bV)
  have OV:=qa (hIV.out.own)
  have O2:Hid (OwnB (g4+1+1) V (.slice a6 XL c6) X):=qB O1.out bV
  have SV:Hid (g4+1+1<=V.heap.size):=xi S1.out bV.size
  have hpl:Hid (((t.pages.take k).length+1)*32<=140737488355328):=by show _<=_;rw[xp,<-hL.out];omega
  rw[hV] at v0 v1 OV O2 SV;clear DV bV sV v2 v3
  go_wp2_with (at_builtin;refine Z9 rfl _ _ rfl (g4+1+1) _ (t.pages.take k) (z,X) (.slice a6 XL c6) c1.heap.size rfl rfl OV.out O2.out rfl v0 v1 hpl.out SV.out ?_;intro v7 w7 o7 g7 b7 k7;rw[<-HYM.out.2] at o7;rw[<-hV] at b7;have D7:=(b7.block (g4+1) (by omega)).trans hIV.out.b7;have c7:=(ql D7).1.2.2;have f7:=(ql D7).2;obtain⟨oa7,oc7,ho7⟩:=o7.rd.slice;obtain⟨P7,hP7⟩:∃ P,P=(List.take (k+1) t.pages).length:=⟨_,rfl⟩;rw[<-hP7] at ho7;subst ho7;replace hP7:=qa hP7;have F7:=qa (hIV.out.app b7 o7 (qhe D7 _));clear o7 g7 b7 k7)
  go_roundw
  case rel=>exact⟨k+1,z+1,_,by omega,rfl,(by have:=hz.out;show _=_;omega),F7⟩
  case measure=>simp[intOf];omega
 have q1:¬ z<t.next:=by rw[HNX.out];omega
 have hkL:k=L:=by omega
 have hTT:Hid ((⟨t.root,t.next,t.pages.take k⟩:Tr)=t):=by
  show _=_
  rw[xx (by have:=hL.out;omega)]
 have KS:=vN wr t (.slice oa PL oc) [] [] (by have:=hI.out.own.rd;rw[xx (by have:=hL.out;omega)] at this;exact this) hrw.out
 rw[qew HPS.out] at KS;dsimp only[tv] at KS;replace KS:=qa KS;obtain⟨⟨T0,T1,T2⟩,_⟩:=ql hI.out.b7;have HB:=qa hI.out.bel
 have hRR:Hid (∀ e w',(∃ v,e=.returned (.tuple #[v,.bool true])/\OwnP w.heap.size w' v (zr ps [] [])/\Below w.heap.size w w')->qq3 w ps e w'):=fun _ _ h=>h
 generalize zr ps [] []=R at *
 go_wp2_with fail
 refine KS.out.mono ?_;rintro e w5 ⟨v5,rfl,o5,b5⟩;have F:=qa (xb (Qt o5 (fun b hb=>xi HB.out.size (xo o5 b hb).1)) (HB.out.trans (b5.mono HB.out.size)))
 obtain⟨ra,rc,hv5⟩:∃ a c,v5=.slice a R.length c:=by
  rcases o5.2 with h|⟨g,cap,cur,h,_⟩
  ·exact⟨none,0,by rw[h.1,h.2]⟩
  exact⟨_,_,h⟩
 subst hv5;clear KS o5 b5;go_wp2
 go_ret2
 exact hRR.out _ _ ⟨_,rfl,F.out.1,F.out.2⟩
theorem qey {d:Dsk} {b:Blk} (h:sdisk d≠0):ZU d b=(([],[]),sdisk d):=xj h
theorem qgv {d:Dsk} {b:Blk} (h:sdisk d=0) (h2:(JM b).2≠0):ZU d b=(([],[]),(JM b).2):=by
 unfold ZU;rw[xh (fun k=>k h),xj h2]
theorem qhu {d:Dsk} {b:Blk} (h:sdisk d=0) (h2:(JM b).2=0) (h3:(Zv d (b.1.tmod 2) (JM b).1).2≠0):ZU d b=(([],[]),(Zv d (b.1.tmod 2) (JM b).1).2):=by
 unfold ZU;rw[xh (fun k=>k h),xh (fun k=>k h2),xj h3]
theorem qa8 {d:Dsk} {b:Blk} (h:sdisk d=0) (h2:(JM b).2=0) (h3:(Zv d (b.1.tmod 2) (JM b).1).2=0):ZU d b=JB (Zv d (b.1.tmod 2) (JM b).1).1:=by
 unfold ZU;rw[xh (fun k=>k h),xh (fun k=>k h2),xh (fun k=>k h3)]
theorem qm0 (d:Dsk) (k:Int) (x:List UInt8):(Zv d k x).1.2.length<=4096:=by
 unfold Zv
 split
 ·simp
 split
 ·simp
 split
 ·simp
 simp;omega
theorem qgs (w:World) (sv cv:Value) (d:Dsk) (b:Blk) (h1:zp w sv d.1) (h2:RdC w cv d.2):Calls Tryz.prog 12 #[.agg #[sv,cv],.agg #[.int .i64 b.1,.int .i64 b.2.1,.int .i64 b.2.2.1,.int .i64 b.2.2.2.1,.int .i64 b.2.2.2.2]] w fun e w'=>∃ sv' cv',e=.returned (.tuple #[.agg #[sv',cv'],.int .i64 (ZU d b).2])/\Own Zd w.heap.size w' [sv',cv'] (ZU d b).1/\Below w.heap.size w w':=by
 have sD:=qa (fun h=>@qey d b h)
 have sE:=qa (fun h h2=>@qgv d b h h2)
 have sP:=qa (fun h h2 h3=>@qhu d b h h2 h3)
 have sY:=qa (fun h h2 h3=>@qa8 d b h h2 h3)
 have KE:=fun u=>vR u b
 obtain⟨x,er,hx⟩:∃ x er,JM b=(x,er):=⟨_,_,rfl⟩;rw[hx] at sE sP sY KE;dsimp only at sE sP sY KE;generalize hST:ZU d b=ST at *;obtain⟨n0,n1,n2,n3,n4⟩:=b;dsimp only at sE sP sY KE |-;obtain⟨pd,gr,hpd⟩:∃ pd gr,Zv d (n0.tmod 2) x=(pd,gr):=⟨_,_,rfl⟩;have hpl:Hid (pd.2.length<=4096):=by have:=qm0 d (n0.tmod 2) x;rw[hpd] at this;exact this
 rw[hpd] at sP sY;dsimp only at sP sY;replace KE:=qa KE;clear hx hST;obtain⟨a1,c1,rfl⟩:=h1.slice;obtain⟨a2,c2,rfl⟩:=h2.slice;obtain⟨V,hV,V0,bV,sV⟩:=qd7 w (.slice a1 d.1.length c1) (.slice a2 d.2.length c2) 43;obtain⟨U,hU,U0,bU,sU⟩:=qf V #[.int .i64 n0,.int .i64 n1,.int .i64 n2,.int .i64 n3,.int .i64 n4] 51;obtain⟨X,hX,X0,bX,sX⟩:=qd7 U (.slice none 0 0) (.slice none 0 0) 43;have bVX:=bU.trans (bX.mono bU.size)
 have V1:X.heap[w.heap.size]?=_:=(bVX.block _ (by omega)).trans V0
 have U1:X.heap[V.heap.size]?=_:=(bX.block _ (by omega)).trans U0
 rw[sV] at U1;have hX0:U.heap.size=w.heap.size+1+1:=by omega
 rw[hX0] at X0;have cX:=bV.trans (bVX.mono bV.size)
 have H1:=qa (h1.to0 cX)
 have H2:=qa (h2.to0 cX)
 obtain⟨A0,A1,_,_⟩:=qh V1;rw[hX,hU,hV] at A0 A1;have KC:=qa (yO X _ _ d H1.out H2.out)
 obtain⟨E,hE⟩:∃ E,E=sdisk d:=⟨_,rfl⟩;rw[<-hE] at KC;go_enter Tryz.func12,Tryz.ntmps12
 go_wp2_with fail
 rw[<-hV,<-hU,<-hX];clear A0 A1;replace hX:=qa hX;replace hU:=qa hU;replace hV:=qa hV;refine KC.out.mono ?_;rintro e w1 ⟨rfl,b1⟩;clear KC V0 U0 bV bU bX bVX hX0;by_cases h0:E=0
 ·have hd:Hid (sdisk d=0):=by show _=_;rw[<-hE];exact h0
  subst h0;replace hE:=qa hE;have V2:=(b1.block _ (xa V1)).trans V1
  have U2:=(b1.block _ (xa U1)).trans U1
  have X2:=(b1.block _ (xa X0)).trans X0
  have c2w:=qa (cX.trans (b1.mono cX.size))
  obtain⟨⟨m0,m1,m2,m3,m4⟩,_⟩:=QS U2;replace H1:=qa (H1.out.to0 b1);replace H2:=qa (H2.out.to0 b1);clear b1 V1 U1 X0 cX
  go_wp2_with fail
  refine(KE.out w1).mono ?_;rintro e w2 ⟨v2,rfl,o2,b2⟩;clear KE m0 m1 m2 m3 m4;have V3:=(b2.block _ (xa V2)).trans V2
  have U3:=(b2.block _ (xa U2)).trans U2
  have X3:=(b2.block _ (xa X2)).trans X2
  have c3w:=qa (c2w.out.trans (b2.mono c2w.out.size))
  have KP:=qa (VF w2 _ _ _ d (n0.tmod 2) x (H1.out.to0 b2) (H2.out.to0 b2) o2.rd)
  rw[hpd] at KP;dsimp only at KP;obtain⟨s2,t2,hv2⟩:=o2.rd.slice;subst hv2;clear b2 V2 U2 X2 c2w H1 H2 o2 hpd;by_cases he:er=0
  ·subst he;obtain⟨A0,A1,_,_⟩:=qh V3;obtain⟨⟨m0,m1,m2,m3,m4⟩,_⟩:=QS U3;replace X3:=qa X3;clear V3 U3;generalize x.length=xl at *
   go_wp2_with fail
   refine KP.out.mono ?_;rintro e w3 ⟨ps,pc,rfl,o3,b3⟩;clear KP A0 A1 m0 m1 m2 m3 m4;obtain⟨P1,P2⟩:=Own.fst (c:=[ps]) (d:=[pc]) o3 rfl;obtain⟨a3,c3,hps⟩:=P1.rdS.slice;obtain⟨a4,c4,hpc⟩:=P2.rdS.slice;subst hps hpc;obtain⟨Y,hY,Y0,bY,sY'⟩:=qd7 w3 (.slice a3 pd.1.length c3) (.slice a4 pd.2.length c4) 43;have b3Y:=b3.trans (bY.mono b3.size)
   have X4:=(b3Y.block _ (xa X3.out)).trans X3.out
   have c4w:=qa (c3w.out.trans (b3Y.mono c3w.out.size))
   have KF:=qa (Vy Y _ _ pd (P1.rdS.to0 bY) (P2.rdS.to0 bY))
   obtain⟨g3,hg3⟩:∃ g,g=w3.heap.size:=⟨_,rfl⟩;rw[<-hg3] at Y0;obtain⟨B0,B1,_,_⟩:=qh Y0;clear P1 P2 o3 b3 bY b3Y X3 c3w Y0;by_cases hg:gr=0
   ·have hS:=qa (sY.out hd.out (by trivial) hg)
    subst hg;obtain⟨fd,fe,hfd⟩:∃ fd fe,JB pd=(fd,fe):=⟨_,_,rfl⟩;rw[hfd] at KF hS;dsimp only at KF;clear hfd;replace X4:=qa X4;rw[hY] at B0 B1;rw[hg3] at B0 B1
    go_wp2_with fail
    rw[<-hY];clear B0 B1;replace hY:=qa hY;replace hg3:=qa hg3;refine KF.out.mono ?_;rintro e w5 ⟨fs,fc,rfl,o5,b5⟩;obtain⟨P1,P2⟩:=Own.fst (c:=[fs]) (d:=[fc]) o5 rfl;obtain⟨a5,c5,hfs⟩:=P1.rdS.slice;obtain⟨a6,c6,hfc⟩:=P2.rdS.slice;subst hfs hfc;have X5:=(b5.block _ (xa X4.out)).trans X4.out
    have c5w:=qa (c4w.out.trans (b5.mono c4w.out.size))
    have hXlt:w.heap.size+1+1<Y.heap.size:=xa X4.out
    replace o5:=qa o5;clear P1 P2 KF b5;obtain⟨r0,r1,f0,f1⟩:=qh X5;go_wp2;refine Qz rfl rfl (w.heap.size+1+1) rfl _ _ _ _ (qR (u:=w5) X5 _ _) _ Xd rfl Qh _ rfl ?_;rw[hS.out];refine⟨_,_,rfl,?_,qF c5w.out (by omega) _ _⟩
    exact((o5.out.set (a:=⟨w.heap.size+1+1,0,none⟩) hXlt _).set (a:=⟨w.heap.size+1+1,1,none⟩) hXlt _).mono c4w.out.size
   have hS:=qa (sP.out hd.out (by trivial) hg)
   have hge:(gr != 0)=true:=by simpa using hg
   replace hg:=qa hg;clear KF
   go_upto_region 8 with fail
   rw[<-hY];clear B0 B1;replace hY:=qa hY;replace hg3:=qa hg3;obtain⟨r0,r1,f0,f1⟩:=qh X4;go_wp2;refine Qz rfl rfl (w.heap.size+1+1) rfl _ _ _ _ (qR (u:=Y) X4 _ _) _ Xd rfl Qh _ rfl ?_;rw[hS.out];exact⟨_,_,rfl,zz _ _ _,qF c4w.out (by omega) _ _⟩
  have hS:=qa (sE.out hd.out he)
  have hee:(er != 0)=true:=by simpa using he
  replace he:=qa he;clear KP V3 U3;obtain⟨r0,r1,f0,f1⟩:=qh X3;go_wp2;refine Qz rfl rfl (w.heap.size+1+1) rfl _ _ _ _ (qR (u:=w2) X3 _ _) _ Xd rfl Qh _ rfl ?_;rw[hS.out];exact⟨_,_,rfl,zz _ _ _,qF c3w.out (by omega) _ _⟩
 have hS:=qa (sD.out (by rw[<-hE];exact h0))
 have hbe:(E != 0)=true:=by simpa using h0
 replace h0:=qa h0;replace hE:=qa hE;have X2:=(b1.block _ (xa X0)).trans X0
 have c2w:=qa (cX.trans (b1.mono cX.size))
 clear X0 V1 U1 cX b1;obtain⟨r0,r1,f0,f1⟩:=qh X2;go_wp2;refine Qz rfl rfl (w.heap.size+1+1) rfl _ _ _ _ (qR (u:=w1) X2 _ _) _ Xd rfl Qh _ rfl ?_;rw[hS.out];exact⟨_,_,by rw[<-hE.out];rfl,zz _ _ _,qF c2w.out (by omega) _ _⟩
theorem qmn (w:World) (t:Tr) (pv:Value) (s:Sw) (key val:Str) (nd:Nd) (h:RdC w pv t.pages) (hx:∀ x∈t.pages,x.2.length<=140737488351232) (hroot:(Lit.int .i64 t.root).wf=true) (hkey:ZR key=true) (hval:val.length<=64)
 (hpn:ye t) (ht:Qn t=some s) (hs4:s.prs.length<4096) (hT:TopIs t nd) (hl:nd.leaf=true) (hnext:t.next+1<=65536) (hfi:Qf nd key=(nd.keys.length:Int)) (hha:jQ nd key=false) (hg:Zo s.prs key=none)
 (hok:NOk ⟨nd.leaf,nd.keys++[key],nd.vals++[val],nd.kids⟩) :
 Calls Tryz.prog 6 #[tv t pv,st key,st val] w fun e w'=>∃ pv',e=.returned (.tuple #[tv ⟨t.next,t.next+1,t.pages++[(t.next,QN ⟨nd.leaf,nd.keys++[key],nd.vals++[val],nd.kids⟩)]⟩ pv',.int .i64 0])/\
  OwnPg w.heap.size w' pv' (t.pages++[(t.next,QN ⟨nd.leaf,nd.keys++[key],nd.vals++[val],nd.kids⟩)])/\Below w.heap.size w w':=by
 have hkl:key.length<=9223372036854775807:=by unfold ZR at hkey;have:=k6 hkey;omega
 obtain⟨W1,hW1,D1,b1,s1⟩:=qf w #[.int .i64 t.root,.int .i64 t.next,pv] 27
 obtain⟨W2,hW2,D2,b2,s2⟩:=qf W1 #[st key] 9;obtain⟨W3,hW3,D3,b3,s3⟩:=qf W2 #[st val] 9;obtain⟨X,hX,D4,b4,s4⟩:=qf W3 #[.int .i64 0,.int .i64 0,.slice none 0 0] 27;have b34:=b3.trans (b4.mono b3.size)
 have b24:=b2.trans (b34.mono b2.size)
 have bX:=b1.trans (b24.mono b1.size)
 have E1:=(b24.block _ (xa D1)).trans D1
 have E2:=(b34.block _ (xa D2)).trans D2
 have E3:=(b4.block _ (xa D3)).trans D3
 rw[s1] at E2;rw[s2,s1] at E3;rw[s3,s2,s1] at D4;have sX:X.heap.size=w.heap.size+1+1+1+1:=by rw[s4,s3,s2,s1]
 have KW:=qa (JH X t pv key hkl (h.to0 bX) hroot)
 obtain⟨pa,pc,rfl⟩:=h.slice;have HE:=qa (xb E1 (xb E2 (xb E3 D4)))
 have BX:=qa bX
 obtain⟨⟨A0,A1,A2⟩,AF⟩:=ql E1;have A3:=qt E2 (i:=0) rfl
 have A4:=qt E3 (i:=0) rfl
 rw[hX,hW3,hW2,hW1] at A0 A1 A2 AF A3 A4 KW;dsimp only[tv] at KW |-;replace hx:=qa hx;replace ht:=qa ht;replace hl:=qa hl;replace hfi:=qa hfi;replace hha:=qa hha;replace hg:=qa hg;replace hok:=qa hok;replace hkey:=qa hkey;replace hpn:=qa hpn;replace hT:=qa hT;replace sX:=qa sX;have hv64:¬ (val.length:Int)>64:=by omega
 clear D1 b1 D2 b2 D3 b3 D4 b4 b34 b24 bX E1 E2 E3 h s1 s2 s3 s4;go_enter Tryz.func6,Tryz.ntmps6
 go_wp2_with fail
 refine KW.out.mono ?_;rintro e w1 hp;rw[<-hW1,<-hW2,<-hW3,<-hX] at hp;clear A0 A1 A2 AF A3 A4 KW
 have hgood:∃ g bm B s' m,e=.returned (.tuple #[.pointer (some ⟨g,0,none⟩),.int .i64 0])/\s'=s/\PWk X w1 B g bm t (.slice pa t.pages.length pc) s m/\B<=w1.heap.size:=by
  rcases hp with ⟨g,bm,B,s',m,r1,r2,r3,r4,r5,r6,r7⟩|⟨err,r1,r2,r3⟩
  ·rw[ht.out] at r4;simp only[xr] at r4;subst r4;exact⟨g,bm,B,s,m,r1,rfl,r6,r7⟩
  exfalso
  rcases r2 with ⟨q,_⟩|⟨l,_,q,_⟩
  ·rw[jK hpn.out ht.out (by omega)] at q;cases q
  rw[hkey.out] at q;cases q
 obtain⟨g,bm,B,s',m,rfl,_,P1,hB1⟩:=hgood;clear hp;have KV:=qa (yT X w1 B g bm t _ s m key P1 hB1 hroot ht.out)
 rw[hg.out] at KV;obtain⟨E1,E2,E3,D4⟩:=HE.out;have F2:=(P1.bel.block _ (xa E2)).trans E2
 have F3:=(P1.bel.block _ (xa E3)).trans E3
 have F4:=(P1.bel.block _ (xa D4)).trans D4
 have A3:=qt F2 (i:=0) rfl
 have A4:=qt F3 (i:=0) rfl
 have HP:=qa (xb P1 (xb hB1 (xb F2 (xb F3 F4))))
 replace hX:=qa hX;replace hW1:=qa hW1;replace hW2:=qa hW2;replace hW3:=qa hW3;have HD4:=qa D4
 clear E1 E2 E3 D4 F2 F3 F4 P1 HE
 go_wp2_with fail
 refine KV.out.mono ?_;rintro e w2 ⟨rfl,b2⟩;obtain⟨P1,hB1',F2,F3,F4⟩:=HP.out;have P2:=P1.to b2
 have G2:=(b2.block _ (xa F2)).trans F2
 have G3:=(b2.block _ (xa F3)).trans F3
 have G4:=(b2.block _ (xa F4)).trans F4
 have hB2:B<=w2.heap.size:=xi hB1 b2.size
 have hgB:X.heap.size<=g/\g<B:=P2.hg
 have hlv:nd.vals.length=nd.keys.length:=by
  have h1:=hT.out.ok.2.1
  unfold qP at h1;rw[xj hl.out] at h1;exact h1.1
 have hkl3:nd.keys.length<=1000:=by have:=(JI hT.out.ok).2;omega
 have KG:=qa (qda X w2 B g bm t (.slice pa t.pages.length pc) s m key 27 #[.pointer (some ⟨w.heap.size+1+1,0,none⟩),.pointer (some ⟨w.heap.size+1,0,none⟩)] nd ⟨nd.leaf,nd.keys++[key],nd.vals++[val],nd.kids⟩ P2 hB2 hroot ht.out hpn.out hT.out hl.out hx.out hnext
  (fun kv vv dv u ho hdj bu hBu=>by
   have k1:=(bu.block _ (xa G2)).trans G2
   have k2:=(bu.block _ (xa G3)).trans G3
   have hh:=qh7 B u nd kv vv dv key val nd.keys.length false (w.heap.size+1) (w.heap.size+1+1) ho hdj hBu hkl3 hlv k1 (by have:=sX.out;omega) k2 (by have:=sX.out;omega) ⟨rfl,rfl⟩
   rw[hfi.out,hha.out];refine Calls.mono hh ?_;rintro e u' ⟨kv',vv',r1,r2,r3⟩;exact⟨kv',vv',dv,r1,r2,r3⟩)
  (fun args u=>Tryz.call27 args u) hok.out hl.out (by simp))
 obtain⟨⟨C0,C1,C2,C3⟩,⟨C4,C5⟩,CF⟩:=P2.cell;have hnf:¬ ((s.prs.length:Nat):Int)>=4096:=by omega
 have B4:=qt G2 (i:=0) rfl
 have B5:=qt G3 (i:=0) rfl
 dsimp only[tv] at KG;replace hlv:=qa hlv;clear P1 F2 F3 F4 HP KV A3 A4 b2 P2 G2 G3 G4 C0 C1 C2 C3 C5;dsimp only[qfl]
 go_wp2_with fail
 refine KG.out.mono ?_;rintro e w3 ⟨pv3,rfl,o3,b3⟩;obtain⟨a3,c3,h3⟩:=o3.shape;subst h3;have D3:=(b3.block _ (xa HD4.out)).trans HD4.out
 have HD3:=qa D3
 obtain⟨⟨J0,J1,J2⟩,JF⟩:=ql D3;have O3:=qa o3
 have B3:=qa (BX.out.trans (b3.mono BX.out.size))
 obtain⟨L9,hL9⟩:∃ n,n=(t.pages++[(t.next,QN ⟨nd.leaf,nd.keys++[key],nd.vals++[val],nd.kids⟩)]).length:=⟨_,rfl⟩
 rw[<-hL9];replace hL9:=qa hL9;clear KG o3 b3 D3 C4 CF B4 B5;go_wp2
 (try simp only[Exit.inBlock,Exit.then])
 refine QD rfl rfl (w.heap.size+1+1+1) rfl _ _ (0,0) (qK HD3.out _ _ _) _ Xt rfl zi _ rfl ?_;have ks:=fun e (he:e≠27)=>QM HD3.out (.int .i64 t.next) (.int .i64 (t.next+1)) (.slice a3 L9 c3) he
 refine⟨_,rfl,?_,qD B3.out (show w.heap.size<=w.heap.size+1+1+1 by omega) _ _ _⟩
 have O3':OwnPg X.heap.size w3 (.slice a3 L9 c3) (t.pages++[(t.next,QN ⟨nd.leaf,nd.keys++[key],nd.vals++[val],nd.kids⟩)]):=by rw[hL9.out];exact O3.out
 exact OwnX.base (O3'.keepT (ks _ (by decide)) (ks _ (by decide))) BX.out.size
abbrev qqr:Nd:=⟨true,[[97]],[[49]],[]⟩
abbrev t010:Tr:=⟨0,1,[]⟩
abbrev ta10:Tr:=⟨1,2,[(1,QN qqr)]⟩
theorem qij:NOk qqr:=(ze _).1 (by decide)
theorem tw0:Qn t010=some ⟨[],none,[]⟩:=rfl
theorem qlk {n:Nd} (hp:qH l id=some (QN n)) (hn:NOk n) (hl:n.leaf=true) (hk:n.keys≠[]) (ha:n.keys.all (kin [] none)=true):wk l 16 id [] none ⟨[],none,[]⟩=some ⟨[id],some 15,npr n⟩:=by
 rw[yq (f:=15) hp (by simp) (qd3 hn) ha hl,xh (by rintro (h|⟨h,_⟩);exact hk h;exact h rfl)]
 simp
theorem twa:Qn ta10=some ⟨[1],some 15,[([97],[49])]⟩:=by
 unfold Qn;rw[xh (by decide)]
 exact qlk (l:=ta10.pages) (id:=1) (n:=qqr) rfl qij rfl (by simp) (by decide)
theorem pn0:ye t010:=⟨by decide,by decide,fun i hi=>by simp at hi⟩
theorem pna:ye ta10:=⟨by decide,by decide,by decide⟩
theorem yY (w:World) (n:Int):Calls Tryz.prog 19 #[.int .i64 n] w fun e w'=>e=.returned (.int .i64 n)/\w=w':=by
 go_enter Tryz.func19,Tryz.ntmps19;go_wp2;go_ret;exact⟨rfl,rfl⟩
theorem ql0 (a b c d:Str) (w:World):(binOp .eql 63 (.agg #[st a,st b]) (.agg #[st c,st d])).run Tryz.prog w=.ok (.bool (a == c&&b == d)) w:=by
 have h:=qmp a b c d w
 rw[run_neq_struct] at h;rw[run_eql_struct];cases hq:(Op.equalIn 10000 63 (.agg #[st a,st b]) (.agg #[st c,st d])).run Tryz.prog w with
 | ok x w' =>
  rw[hq] at h;simp only[Xm,Result.ok.injEq,Value.bool.injEq] at h |-;obtain⟨h1,h2⟩:=h;refine⟨?_,h2⟩;cases x<;>cases hq2:(a == c&&b == d)<;>simp[hq2] at h1 |-
 | halt e w' =>
  rw[hq] at h;simp[Result.andThen] at h
theorem jB (ps:List Pr):zr ps [] []=ps:=by
 unfold zr;refine List.filter_eq_self.2 fun y _=>?_;unfold pin;have:slt y.1 []=false:=by cases y.1<;>rfl
 rw[this];rfl
def vw (E:Int) (t:Tr):Blk:=(E,t.root,0,t.next,0)
theorem qb9:∀ {l:List Wrt} {id:Int},qH l id≠none->∃ y∈l,y.1=id
 | [],id,h=>absurd rfl h
 | y::r,id,h=>by
  by_cases e:y.1=id
  ·exact⟨y,by simp,e⟩
  obtain⟨z,hz,e2⟩:=qb9 (l:=r) (id:=id) (by unfold qH at h;rw[xh e] at h;exact h)
  exact⟨z,by simp[hz],e2⟩
theorem Yw (hs:Seq t) (h:QR t=some ps) (hE:0<=E/\E<=2):bok (vw E t):=by
 obtain⟨⟨n1,n2,_,hr⟩,_⟩:=zI h
 have hroot:0<=t.root/\t.root<=65536:=by
  rcases hr with hr|hr
  ·omega
  obtain⟨y,hy,e⟩:=qb9 hr;obtain⟨i,hi⟩:=List.getElem?_of_mem hy;have:=hs.2 i y hi
  have:=(xn.1 hi).1
  have:=hs.1
  omega
 intro n hn;unfold bls vw at hn;simp only[xU,List.not_mem_nil,or_false] at hn;unfold Zz;rcases hn with rfl|rfl|rfl|rfl|rfl<;>omega
theorem ql1:(zJ (List.replicate 64 0)).2≠0:=by
 have h:jb (List.replicate 64 0)=22:=by
  unfold jb;rw[xh (by simp),xj (by decide)]
 unfold zJ;rw[h,xj (by decide)]
 exact(by decide:(22:Int)≠0)
theorem Hv.sdisk (h:Hv d N a b xs):sdisk d=0:=by
 have:=h.fit
 unfold Go.Proofs.YtfjadfnjmpefkaaGreat.sdisk;rw[xh (by rw[Zb h.ok];simp),xh (by rw[h.n];omega)]
theorem Hv.old {k:Blk} (hk:bok k) (h:Hv d N (List.replicate 64 0) (zq k) xs):JL d=(k,1,0):=by
 rw[Y7 h.sdisk,h.s0,h.s1];unfold ZT;rw[VH hk];rw[xh (by rintro ⟨_,q⟩;exact q rfl),xj (.inl ql1)]
theorem Hv.new {k l:Blk} (hk:bok k) (hl:bok l) (hkl:l.1<=k.1) (h:Hv d N (zq k) (zq l) xs):JL d=(k,0,0):=by
 rw[Y7 h.sdisk,h.s0,h.s1];unfold ZT;rw[VH hk,VH hl];rw[xh (by rintro ⟨q,_⟩;exact q rfl),xh (by rintro (q|⟨_,q⟩);exact q rfl;dsimp only at q;omega)]
theorem Hv.store {S:List (List UInt8)} {k:Blk} (h:Hv (S,[]) N a b xs) (hk:bok k) (h1:k.1=1):∃ S',ZU (S,[]) k=((S',[]),0)/\Hv (S',[]) N a (zq k) xs:=by
 obtain⟨p1,p2⟩:=(h.put (x:=zq k) (vi k)).2;have e:k.1.tmod 2=1:=by rw[h1];rfl
 obtain⟨S',q1,q2⟩:=p2.flush;refine⟨S',?_,q2⟩;rw[qa8 h.sdisk (by rw[YR hk]) (by rw[e,YR hk,p1]),e,YR hk,p1,q1]
structure DBx (g:Nat) (w:World) (d:Dsk) (s c:Value):Prop where
 bx:w.heap[g]?=some (.cells #[s,c] 43 (0,0))
 st:∃ F,OwnF Zd F w [s,c] d/\g ∉ F
theorem DBx.rd (h:DBx g w d s c):zp w s d.1/\RdC w c d.2:=by
 obtain⟨F,h1,_⟩:=h.st;exact yu (h1.own fun b _=>xt b)
theorem DBx.to (h:DBx g w d s c) (b:Below w.heap.size w w'):DBx g w' d s c:=by
 obtain⟨F,h1,h2⟩:=h.st;exact⟨(b.block g (xa h.bx)).trans h.bx,F,h1.to b,h2⟩
theorem DBx.lt (h:DBx g w d s c):g<w.heap.size:=xa h.bx
theorem DBx.mk' (o:Own Zd B w [s,c] d) {u:World} (hu:u.heap[w.heap.size]?=some (.cells #[s,c] 43 (0,0))) (b:Below w.heap.size w u):DBx w.heap.size u d s c:=by
 obtain⟨F,h1,h2⟩:=o.foot;exact⟨hu,F,h1.to b,fun h=>by have:=h1.lt _ h;omega⟩
theorem DBx.over {c':Value} (h:DBx g w d s c) (b:Below w.heap.size w wx) (o:(s'=s/\c'=c/\d'=d)\/Own Zd w.heap.size wx [s',c'] d'):DBx g ((wx.setCell ⟨g,0,none⟩ s').setCell ⟨g,1,none⟩ c') d' s' c':=by
 have hx:=h.to b
 rcases o with ⟨rfl,rfl,rfl⟩|o
 ·obtain⟨F,h1,h2⟩:=hx.st;exact⟨qR hx.bx _ _,F,(h1.set (a:=⟨g,0,none⟩) h2 _).set (a:=⟨g,1,none⟩) h2 _,h2⟩
 obtain⟨F,h1,h2⟩:=o.foot;have nb:g ∉ F:=fun hh=>by have:=h2 g hh;have:=h.lt;omega
 exact⟨qR hx.bx _ _,F,(h1.set (a:=⟨g,0,none⟩) nb _).set (a:=⟨g,1,none⟩) nb _,nb⟩
theorem DBx.keep (h:DBx g w d s c) (x y:Value):∀ e,e≠43->KeepT e w ((w.setCell ⟨g,0,none⟩ x).setCell ⟨g,1,none⟩ y):=fun e he b cur fr z=>by
 have hbg:b≠g:=fun q=>by
  rw[q,h.bx] at z;simp only[xr,kF] at z;exact he z.2.1.symm
 exact(xd _ _ _ _ hbg).trans ((xd _ _ _ _ hbg).trans z)
theorem qde:Seq ta10:=⟨rfl,fun i x h=>by
 match i,h with
 | 0,h=>simp at h;subst h;rfl
 | i+1,h=>simp at h⟩
theorem qdf:QR ta10=some [([97],[49])]:=jK pna twa (by decide)
theorem qnu:(QN qqr).length<=244:=by decide
def DOp (w:World) (s c:Value) (d d':Dsk) (r:Value) (e:Ending) (w':World):Prop :=
 ∃ a1 l1 c1 a2 l2 c2,e=.returned (.tuple #[.agg #[.slice a1 l1 c1,.slice a2 l2 c2],r])/\((Value.slice a1 l1 c1=s/\Value.slice a2 l2 c2=c/\d'=d)\/Own Zd w.heap.size w' [.slice a1 l1 c1,.slice a2 l2 c2] d')/\Below w.heap.size w w'
theorem DOp.own {r:Value} {e:Ending} (h:∃ sv' cv',e=.returned (.tuple #[.agg #[sv',cv'],r])/\Own Zd w.heap.size w' [sv',cv'] d'/\Below w.heap.size w w'):DOp w s c d d' r e w':=by
 obtain⟨sv',cv',rfl,o,b⟩:=h;obtain⟨q1,q2⟩:=yu o;obtain⟨a1,c1,rfl⟩:=q1.slice;obtain⟨a2,c2,rfl⟩:=q2.slice;exact⟨_,_,_,_,_,_,rfl,.inr o,b⟩
theorem VB (S:DBx g w d s c) (hf:JB d=(d',0)):Calls Tryz.prog 11 #[.agg #[s,c]] w fun e w'=>DOp w s c d d' (.int .i64 0) e w':=by
 have:=Vy w s c d S.rd.1 S.rd.2
 rw[hf] at this;exact this.mono fun e w' h=>DOp.own h
theorem qf7 (S:DBx g w d s c) {keep:List Bool} {kv:Value} {torn cut:Int} (hk:qqq w kv keep) (hf:yS d keep torn cut=(d',0)):Calls Tryz.prog 15 #[.agg #[s,c],kv,.int .i64 torn,.int .i64 cut] w fun e w'=>DOp w s c d d' (.int .i64 0) e w':=by
 have:=qg3 w s c kv d keep torn cut S.rd.1 S.rd.2 hk
 rw[hf] at this;exact this.mono fun e w' h=>DOp.own h
theorem qrx (S:DBx g w d s c) (hx:Rd w v x) (hf:Zv d 0 x=(d',0)):Calls Tryz.prog 14 #[.agg #[s,c],.int .i64 0,v] w fun e w'=>DOp w s c d d' (.int .i64 0) e w':=by
 have:=VF w s c v d 0 x S.rd.1 S.rd.2 hx
 rw[hf] at this;exact this.mono fun e w' h=>DOp.own h
theorem qfw (S:DBx g w d s c) (hf:ZU d (vw E t)=(d',0)):Calls Tryz.prog 12 #[.agg #[s,c],.agg #[.int .i64 E,.int .i64 t.root,.int .i64 0,.int .i64 t.next,.int .i64 0]] w fun e w'=>DOp w s c d d' (.int .i64 0) e w':=by
 have:=qgs w s c d (vw E t) S.rd.1 S.rd.2
 rw[hf] at this;exact this.mono fun e w' h=>DOp.own h
theorem qc3 (S:DBx g w d s c) (hp:RdC w pv t.pages) (hs:Seq t) (f1:1<=f) (f2:f<=t.pages.length+1) (H:Hv d N a b ((t.pages.map (·.2)).take (f-1))) (hN:2+4*t.pages.length<=N) (h250:t.pages.length<=250) (hsm:∀ x∈t.pages,x.2.length<=244) :
 Calls Tryz.prog 10 #[.agg #[s,c],tv t pv,.int .i64 (f:Int)] w fun e w'=>∃ d',Hv d' N a b (t.pages.map (·.2))/\(∀ m,m<=f-1->CaB d m->CaB d' m)/\DOp w s c d d' (.bool true) e w':=by
 refine(qmy w s c pv d t N a b f S.rd.1 S.rd.2 hp hs f1 f2 H hN h250 hsm).mono ?_;rintro e w' ⟨sv',cv',d',rfl,ho,hv,hc,hb⟩;refine⟨d',hv,hc,?_⟩;rcases ho with ⟨rfl,rfl,rfl⟩|o
 ·obtain⟨q1,q2⟩:=S.rd;obtain⟨a1,c1,rfl⟩:=q1.slice;obtain⟨a2,c2,rfl⟩:=q2.slice;exact⟨_,_,_,_,_,_,rfl,.inl ⟨rfl,rfl,rfl⟩,hb⟩
 exact DOp.own ⟨_,_,rfl,o,hb⟩
structure AlS (w wr:World) (gT gD:Nat) (t:Tr) (pv:Value) (d:Dsk) (s c:Value):Prop where
 bT:wr.heap[gT]?=some (.cells #[.int .i64 t.root,.int .i64 t.next,pv] 27 (0,0))
 own:OwnPg w.heap.size wr pv t.pages
 bx:DBx gD wr d s c
 bel:Below w.heap.size w wr
 ne:w.heap.size<=gT/\w.heap.size<=gD/\gT≠gD
theorem AlS.to (h:AlS w wr gT gD t pv d s c) (b:Below wr.heap.size wr wr'):AlS w wr' gT gD t pv d s c :=
 ⟨(b.block _ (xa h.bT)).trans h.bT,h.own.to9 b,h.bx.to b,h.bel.trans (b.mono h.bel.size),h.ne⟩
theorem AlS.over {c':Value} (h:AlS w wr gT gD t pv d s c) (b:Below wr.heap.size wr wx) (o:(s'=s/\c'=c/\d'=d)\/Own Zd wr.heap.size wx [s',c'] d'):AlS w ((wx.setCell ⟨gD,0,none⟩ s').setCell ⟨gD,1,none⟩ c') gT gD t pv d' s' c':=by
 have h1:=h.to b
 have kk:=h1.bx.keep s' c'
 obtain⟨n1,n2,n3⟩:=h.ne;exact⟨(xd _ _ _ _ n3).trans ((xd _ _ _ _ n3).trans h1.bT),OwnX.keepT h1.own (kk _ (by decide)) (kk _ (by decide)),h.bx.over b o,qF h1.bel n2 _ _,h.ne⟩
theorem qfa (w:World):Calls Tryz.prog 4 #[] w fun e w'=>e=.returned (.bool true)/\Below w.heap.size w w':=by
 have hroot:∀ z:Int,0<=z->z<=65536->(Lit.int .i64 z).wf=true:=fun z h1 h2=>Kv (by omega)
 have KN:=qa (qbb w)
 go_enter Tryz.func4,Tryz.ntmps4
 go_wp2_with fail
 refine KN.out.mono ?_;rintro e w1 ⟨rfl,b1⟩;have rd0:RdC w1 (.slice none 0 0) t010.pages:=(OwnX.nil 97 0 w1).rd
 have KP1:Hid (Calls Tryz.prog 6 #[.agg #[.int .i64 0,.int .i64 1,.slice none 0 0],st [97],st [49]] w1 fun e w'=>∃ pv',e=.returned (.tuple #[.agg #[.int .i64 1,.int .i64 2,pv'],.int .i64 0])/\OwnPg w1.heap.size w' pv' ta10.pages/\Below w1.heap.size w1 w') :=
  qmn w1 t010 (.slice none 0 0) ⟨[],none,[]⟩ [97] [49] nd0 rd0 (fun x hx=>by cases hx) (hroot 0 (by decide) (by decide)) (by decide) (by decide) pn0 tw0 (by decide) (.inl ⟨rfl,rfl⟩) rfl (by decide) (by decide) (by decide) rfl qij
 have B1:=qa b1
 clear KN b1 rd0;dsimp only[tv]
 go_wp2_with fail
 refine KP1.out.mono ?_;rintro e w2 ⟨pv1,rfl,o1,b2⟩;obtain⟨pa1,pc1,h1⟩:=o1.shape;subst h1;obtain⟨X,hX,DX,bX,sX⟩:=qf w2 #[.int .i64 1,.int .i64 2,.slice pa1 ta10.pages.length pc1] 27;have B2:=qa (B1.out.trans ((b2.trans (bX.mono b2.size)).mono B1.out.size))
 have OX:Hid (OwnPg w.heap.size X (.slice pa1 ta10.pages.length pc1) ta10.pages):=(o1.to9 bX).base B1.out.size
 have HX:=qa DX
 have LX:Hid (w.heap.size<=w2.heap.size/\X.heap.size=w2.heap.size+1):=⟨xi B1.out.size b2.size,sX⟩
 have KD:=qa (qd8 X 200)
 rw[show qbl 200=((jE 200,[]),0) from qex (n:=200) (by decide) (by decide)] at KD
 rw[hX] at KD;clear KP1 o1 b2 DX bX sX
 go_wp2_with fail
 refine KD.out.mono ?_;rintro e w3 ⟨sv,cv,rfl,o3,b3⟩;rw[<-hX] at b3;replace hX:=qa hX;clear KD;obtain⟨q1,q2⟩:=yu o3;obtain⟨a1,c1,rfl⟩:=q1.slice;obtain⟨a2,c2,rfl⟩:=q2.slice;obtain⟨Y,hY,DY,bY,sY⟩:=qf w3 #[.slice a1 (jE 200).length c1,.slice a2 0 c2] 43
 have hS0:Hid (AlS w Y w2.heap.size w3.heap.size ta10 (.slice pa1 ta10.pages.length pc1) (jE 200,[]) (.slice a1 (jE 200).length c1) (.slice a2 0 c2)):=by
  have b4:=b3.trans (bY.mono b3.size)
  have:=LX.out
  have:=b3.size
  exact⟨(b4.block _ (xa HX.out)).trans HX.out,OX.out.to9 b4,DBx.mk' o3 DY bY,B2.out.trans (b4.mono B2.out.size),by omega,by omega,by omega⟩
 obtain⟨gT,hgT⟩:∃ g,g=w2.heap.size:=⟨_,rfl⟩;obtain⟨gD,hgD⟩:∃ g,g=w3.heap.size:=⟨_,rfl⟩;rw[<-hgT,<-hgD] at hS0;generalize (jE 200).length=Z1 at *;clear q1 q2 o3 b3 DY bY sY OX HX B2 LX
 go_upto_region 3 with fail
 rw[<-hY,<-hgT,<-hgD];replace hY:=qa hY;clear hgT hgD;obtain⟨⟨T0,T1,T2⟩,_⟩:=ql hS0.out.bT;have KO:=qa (qc3 hS0.out.bx (t:=ta10) (N:=200) (a:=List.replicate 64 0) (b:=List.replicate 64 0) (f:=1) hS0.out.own.rd qde (by decide) (by decide) (Hv.start (by decide) (by decide)) (by decide) (by decide) (fun x hx=>by simp at hx;subst hx;exact qnu))
 dsimp only[tv] at KO;obtain⟨x0,x1,x2,x3⟩:=qh hS0.out.bx.bx
 go_wp2_with fail
 refine KO.out.mono ?_;rintro e q3 ⟨d3,hv3,-,a3,l3,c3,a3',l3',c3',rfl,oN,bN⟩;have HV3:=qa hv3
 clear KO x0 x1 x2 x3 T0 T1 T2 hv3;have hS1:=qa (hS0.out.over bN oN)
 have TN:=qa (hS0.out.to bN)
 obtain⟨x0,x1,x2,x3⟩:=qh TN.out.bx.bx;clear oN bN
 go_upto_region 4 with fail
 obtain⟨V3,hV⟩:∃ V,V=(q3.setCell ⟨gD,0,none⟩ (.slice a3 l3 c3)).setCell ⟨gD,1,none⟩ (.slice a3' l3' c3'):=⟨_,rfl⟩;rw[<-hV] at hS1;rw[<-hV];replace hV:=qa hV;clear TN x0 x1 x2 x3;obtain⟨S4,hf4,hv4⟩:=HV3.out.flush;have HV4:=qa hv4
 have KO:=qa (VB hS1.out.bx hf4)
 obtain⟨x0,x1,x2,x3⟩:=qh hS1.out.bx.bx
 go_wp2_with fail
 refine KO.out.mono ?_;rintro e q4 ⟨a4,l4,c4,a4',l4',c4',rfl,oN,bN⟩;clear KO x0 x1 x2 x3;have hS2:=qa (hS1.out.over bN oN)
 have TN:=qa (hS1.out.to bN)
 obtain⟨x0,x1,x2,x3⟩:=qh TN.out.bx.bx;clear oN bN
 go_upto_region 5 with fail
 obtain⟨V4,hV⟩:∃ V,V=(q4.setCell ⟨gD,0,none⟩ (.slice a4 l4 c4)).setCell ⟨gD,1,none⟩ (.slice a4' l4' c4'):=⟨_,rfl⟩;rw[<-hV] at hS2;rw[<-hV];replace hV:=qa hV;clear TN x0 x1 x2 x3;obtain⟨S5,hf5,hv5⟩:=HV4.out.store (k:=vw 1 ta10) (Yw qde qdf (by decide)) rfl
 have HV5:=qa hv5
 obtain⟨⟨T0,T1,T2⟩,_⟩:=ql hS2.out.bT;clear hv4 hv5;have KO:=qa (qfw (t:=ta10) (E:=1) hS2.out.bx hf5)
 obtain⟨x0,x1,x2,x3⟩:=qh hS2.out.bx.bx
 go_wp2_with fail
 refine KO.out.mono ?_;rintro e q5 ⟨a5,l5,c5,a5',l5',c5',rfl,oN,bN⟩;clear KO x0 x1 x2 x3;have hS3:=qa (hS2.out.over bN oN)
 have TN:=qa (hS2.out.to bN)
 obtain⟨x0,x1,x2,x3⟩:=qh TN.out.bx.bx;clear oN bN
 go_upto_region 6 with fail
 obtain⟨V5,hV⟩:∃ V,V=(q5.setCell ⟨gD,0,none⟩ (.slice a5 l5 c5)).setCell ⟨gD,1,none⟩ (.slice a5' l5' c5'):=⟨_,rfl⟩;rw[<-hV] at hS3;rw[<-hV];replace hV:=qa hV;clear TN x0 x1 x2 x3;clear T0 T1 T2;have KO:=qa (YT V5 _ _ _ ta10 [([97],[49])] 200 _ _ hS3.out.bx.rd.1 hS3.out.bx.rd.2 qde HV5.out ⟨_,_,HV5.out.old (Yw qde qdf (by decide)),rfl,rfl⟩ qdf)
 obtain⟨x0,x1,x2,x3⟩:=qh hS3.out.bx.bx
 go_wp2_with fail
 refine KO.out.mono ?_;rintro e w6 ⟨v6,rfl,o6,b6⟩;rw[jB] at o6;clear KO x0 x1 x2 x3;have FB:=qa (hS3.out.bel.trans (b6.mono hS3.out.bel.size))
 obtain⟨ma,mc,hm6⟩:=(OwnP.rd o6).slice;subst hm6;obtain⟨b9,off9,e9,hc1,hc2⟩:=(OwnP.rd o6).prAt (i:=0) (y:=([97],[49])) rfl;subst e9;have q1:=ql0 [97] [49] [97] [49]
 have q2:=qod .eql
 clear o6 b6;dsimp only at hc1 hc2;simp only[Nat.zero_mul,XK] at hc1 hc2
 go_wp2_with fail
 go_ret;exact⟨rfl,FB.out⟩
def un (b:Bool):Nat:=cond b 0 1
def yI (k v:Str) (s:List Pr×Bool) (y:Pr):List Pr×Bool:=if s.2=false/\slt y.1 k=false then(s.1++[(k,v)],true) else s
def zH (k v:Str) (s:List Pr×Bool) (y:Pr):List Pr×Bool:=if(y.1 == k)=true then yI k v s y else((yI k v s y).1++[y],(yI k v s y).2)
def jW (k v:Str) (l:List Pr):List Pr×Bool:=l.foldl (zH k v) ([],false)
def qno (l:List Pr) (k v:Str):List Pr:=if(jW k v l).2=true then(jW k v l).1 else(jW k v l).1++[(k,v)]
theorem qk5 (k v:Str) (l:List Pr) {y:Pr} (h:l[i]?=some y):jW k v (l.take (i+1))=zH k v (jW k v (l.take i)) y:=by
 unfold jW;rw[Xf,h,List.foldl_append];rfl
theorem ql6 (k v:Str) (s:List Pr×Bool) (y:Pr):(yI k v s y).1.length+un (yI k v s y).2<=s.1.length+un s.2:=by
 unfold yI
 split
 ·rename_i h;rw[h.1];simp[un]
 omega
theorem qf6 (k v:Str) (l:List Pr):(jW k v l).1.length+un (jW k v l).2<=l.length+1:=by
 have:∀ (l:List Pr) (s:List Pr×Bool),(l.foldl (zH k v) s).1.length+un (l.foldl (zH k v) s).2<=l.length+(s.1.length+un s.2):=by
  intro l
  induction l with
  | nil=>intro s;simp
  | cons y r ih =>
   intro s;have a:=ih (zH k v s y)
   have b:=ql6 k v s y
   have c:(zH k v s y).1.length+un (zH k v s y).2<=s.1.length+un s.2+1:=by
    unfold zH
    split
    ·omega
    simp only[xk,List.length_singleton];omega
   simp only[kR,xC];omega
 have h:=this l ([],false)
 simpa[jW,un] using h
theorem Y5 (k v:Str):∀ (l:List Pr) (o:List Pr),(∀ y∈l,slt k y.1=true)->l.foldl (zH k v) (o,true)=(o++l,true)
 | [],o,h=>by simp
 | y::r,o,h=>by
  have h1:=h y (XP ..)
  have h2:(y.1 == k)=false:=by
   rw[kE];intro e;rw[e,qU] at h1;cases h1
  have h3:zH k v (o,true) y=(o++[y],true):=by unfold zH yI;rw[xh (by simp[h2])];simp
  rw[kR,h3,Y5 k v r _ (fun z hz=>h z (Xg _ hz))];simp
theorem qbn (k v:Str):∀ (l:List Pr) (o:List Pr),jf (l.map (·.1))->(if(l.foldl (zH k v) (o,false)).2=true then(l.foldl (zH k v) (o,false)).1 else(l.foldl (zH k v) (o,false)).1++[(k,v)])=o++jF k v l
 | [],o,h=>by simp[jF]
 | y::r,o,h=>by
  rw[Xn] at h;replace h:=kJ.1 h;have hr:∀ z∈r,slt y.1 z.1=true:=fun z hz=>h.1 _ (List.mem_map_of_mem hz)
  have hR:jf (r.map (·.1)):=h.2
  rcases jI y.1 k with h1|h1|h1
  ·have h2:slt k y.1=false:=Qb h1
   have h4:(y.1 == k)=false:=by
    rw[kE];intro e;rw[e,qU] at h1;cases h1
   have h3:zH k v (o,false) y=(o++[y],false):=by
    unfold zH yI;rw[xh (by simp[h4]),xh (by simp[h1])]
   rw[kR,h3,qbn k v r _ hR];simp[jF,X7,h1,h2]
  ·have h2:slt k y.1=false:=by rw[h1];exact qU _
   have h5:slt y.1 k=false:=by rw[h1];exact qU _
   have h4:(y.1 == k)=true:=by rw[h1];simp
   have h3:zH k v (o,false) y=(o++[(k,v)],true):=by
    unfold zH yI;rw[xj h4,xj (by simp[h5])]
   have hr':∀ z∈r,slt k z.1=true:=fun z hz=>by rw[<-h1];exact hr z hz
   have f1:r.filter (fun z=>slt z.1 k)=[]:=List.filter_eq_nil_iff.2 fun z hz=>by simp[Qb (hr' z hz)]
   have f2:r.filter (fun z=>slt k z.1)=r:=Q6 fun z hz=>hr' z hz
   rw[kR,h3,Y5 k v r _ hr'];simp[jF,X7,h5,h2,f1,f2]
  have h5:slt y.1 k=false:=Qb h1
  have h4:(y.1 == k)=false:=by
   rw[kE];intro e;rw[e,qU] at h1;cases h1
  have h3:zH k v (o,false) y=(o++[(k,v)]++[y],true):=by
   unfold zH yI;rw[xh (by simp[h4]),xj (by simp[h5])]
  have hr':∀ z∈r,slt k z.1=true:=fun z hz=>QO h1 (hr z hz)
  have f1:r.filter (fun z=>slt z.1 k)=[]:=List.filter_eq_nil_iff.2 fun z hz=>by simp[Qb (hr' z hz)]
  have f2:r.filter (fun z=>slt k z.1)=r:=Q6 fun z hz=>hr' z hz
  rw[kR,h3,Y5 k v r _ hr'];simp[jF,X7,h5,h1,f1,f2]
theorem qhq {l:List Pr} (h:jf (l.map (·.1))) (k v:Str):qno l k v=jF k v l:=by
 have:=qbn k v l [] h
 rw[xG] at this;exact this
theorem qi9 (w:World) (v:Value) (l:List Pr) (key val:Str) (h:RdP w v l) (hl:l.length<=1000000) :
 Calls Tryz.prog 22 #[v,st key,st val] w fun e w'=>∃ v',e=.returned v'/\OwnP w.heap.size w' v' (qno l key val)/\Below w.heap.size w w':=by
 obtain⟨a,c,rfl⟩:=h.slice;obtain⟨L,hL⟩:∃ L,L=l.length:=⟨_,rfl⟩;rw[<-hL] at h hl |-;replace hL:=qa hL;have HH:=qa h
 clear h;go_enter Tryz.func22,Tryz.ntmps22;go_wp2
 go_loopw [7,8,9] (fun o d p wr=>∃ i:Nat,i<=L/\p=.int .i64 i/\d=.bool (jW key val (l.take i)).2/\Hid (OwnP w.heap.size wr o (jW key val (l.take i)).1/\Below w.heap.size w wr)) (fun _ _ p _=>L-(intOf p).toNat)
 case atStart=>exact⟨0,xt _,rfl,rfl,qa ⟨xA _ _ _ _,xm _ _⟩⟩
 case round =>
 obtain⟨i,hi,rfl,rfl,hI⟩:=hrel;by_cases hlt:i<L
 ·have hq:(i:Int)<(L:Int):=by omega
  obtain⟨y,hy⟩:=qz l (k:=i) (by rw[<-hL.out];exact hlt)
  obtain⟨b,off,rfl,hc1,hc2⟩:=(HH.out.to0 hI.out.2).prAt hy;have hS:=qa (qk5 key val l hy)
  have hN:=qa (qf6 key val (l.take i))
  obtain⟨⟨out,laid⟩,hs⟩:∃ s,s=jW key val (l.take i):=⟨_,rfl⟩;rw[<-hs] at hI hS hN |-;dsimp only at hI |-;replace hs:=qa hs;replace hy:=qa hy;obtain⟨y1,y2⟩:=y;dsimp only at hc1 hc2;cases laid with
  | true =>
   have hp:Hid (yI key val (out,true) (y1,y2)=(out,true)):=by show _=_;unfold yI;rw[xh (by simp)]
   cases he:(y1 == key) with
   | true =>
    have hR:Hid (jW key val (l.take (i+1))=(out,true)):=by show _=_;rw[hS.out,zH,xj he,hp.out]
    go_wp2;go_roundw
    case rel=>exact⟨i+1,by omega,by go_num,by rw[hR.out],by rw[hR.out];exact hI⟩
    case measure=>simp[intOf];omega
   | false =>
    have hR:Hid (jW key val (l.take (i+1))=(out++[(y1,y2)],true)):=by show _=_;rw[hS.out,zH,xh (by simp[he]),hp.out]
    obtain⟨V,hV,D,bV,sV⟩:=qf wr #[st y1,st y2] 63;obtain⟨⟨C0,C1⟩,_⟩:=Qc D;have OW:=qB hI.out.1 bV
    have BB:=qa (hI.out.2.trans (bV.mono hI.out.2.size))
    have hn:(out.length+1)*32<=140737488355328:=by have h1:out.length+0<=(l.take i).length+1:=hN.out;have h2:=Kh i l;omega
    have hB2:w.heap.size<=V.heap.size:=BB.out.size
    rw[hV] at C0 C1 OW hB2;replace C0:=qa C0;replace C1:=qa C1;replace OW:=qa OW;clear D bV;have FLAG:True:=trivial
    go_wp2_with (at_builtin;clear FLAG;refine zW rfl _ _ rfl w.heap.size _ out (y1,y2) wr.heap.size rfl rfl OW.out C0.out C1.out hn hB2 ?_;intro v1 w3 o1 b1 _)
    replace o1:=qa o1;rw[<-hV] at b1;have B3:=qa (BB.out.trans b1)
    clear b1;go_wp2;go_roundw
    case rel=>exact⟨i+1,by omega,by go_num,by rw[hR.out],by rw[hR.out];exact⟨o1.out,B3.out⟩⟩
    case measure=>simp[intOf];omega
  | false =>
   cases hb:Op.bytesLess y1 key with
   | true =>
    have he:(y1 == key)=false:=by
     apply X9.2;intro e;have:y1=key:=by simpa using e
     subst this;rw[show Op.bytesLess y1 y1=false from qU y1] at hb;cases hb
    have hp:Hid (yI key val (out,false) (y1,y2)=(out,false)):=by show _=_;unfold yI;rw[xh (by simp[slt,hb])]
    have hR:Hid (jW key val (l.take (i+1))=(out++[(y1,y2)],false)):=by show _=_;rw[hS.out,zH,xh (by simp[he]),hp.out]
    obtain⟨V3,hV3,D3,bV3,sV3⟩:=qf wr #[st y1,st y2] 63;obtain⟨⟨C0,C1⟩,_⟩:=Qc D3;have OW:=qB hI.out.1 bV3
    have BB3:=qa (hI.out.2.trans (bV3.mono hI.out.2.size))
    have hn3:((out).length+1)*32<=140737488355328:=by have h1:out.length+1<=(l.take i).length+1:=hN.out;have h2:=Kh i l;omega
    have hB3:w.heap.size<=V3.heap.size:=BB3.out.size
    rw[hV3] at C0 C1 OW hB3;replace C0:=qa C0;replace C1:=qa C1;replace OW:=qa OW;clear D3 bV3;have FLAG:True:=trivial
    go_wp2_with (at_builtin;clear FLAG;refine zW rfl _ _ rfl w.heap.size _ (out) (y1,y2) wr.heap.size rfl rfl OW.out C0.out C1.out hn3 hB3 ?_;intro v3 w3 o3 b3 _)
    replace o3:=qa o3;rw[<-hV3] at b3;have B3:=qa (BB3.out.trans b3)
    clear b3 C0 C1 OW hB3 hn3;go_wp2;go_roundw
    case rel=>exact⟨i+1,by omega,by go_num,by rw[hR.out],by rw[hR.out];exact⟨o3.out,B3.out⟩⟩
    case measure=>simp[intOf];omega
   | false =>
    have hp:Hid (yI key val (out,false) (y1,y2)=(out++[(key,val)],true)):=by show _=_;unfold yI;rw[xj (by simp[slt,hb])]
    cases he:(y1 == key) with
    | true =>
     have hR:Hid (jW key val (l.take (i+1))=(out++[(key,val)],true)):=by show _=_;rw[hS.out,zH,xj he,hp.out]
     obtain⟨V3,hV3,D3,bV3,sV3⟩:=qf wr #[st key,st val] 63;obtain⟨⟨C0,C1⟩,_⟩:=Qc D3;have OW:=qB hI.out.1 bV3
     have BB3:=qa (hI.out.2.trans (bV3.mono hI.out.2.size))
     have hn3:((out).length+1)*32<=140737488355328:=by have h1:out.length+1<=(l.take i).length+1:=hN.out;have h2:=Kh i l;omega
     have hB3:w.heap.size<=V3.heap.size:=BB3.out.size
     rw[hV3] at C0 C1 OW hB3;replace C0:=qa C0;replace C1:=qa C1;replace OW:=qa OW;clear D3 bV3;have FLAG:True:=trivial
     go_wp2_with (at_builtin;clear FLAG;refine zW rfl _ _ rfl w.heap.size _ (out) (key,val) wr.heap.size rfl rfl OW.out C0.out C1.out hn3 hB3 ?_;intro v3 w3 o3 b3 _;replace o3:=qa o3;rw[<-hV3] at b3;have B3:=qa (BB3.out.trans b3);clear b3 C0 C1 OW hB3 hn3;obtain⟨b',off',e,hd1,hd2⟩:=(HH.out.to0 B3.out).prAt hy.out;simp only[xr,XO,XS] at e;obtain⟨rfl,rfl⟩:=e;dsimp only at hd1 hd2)
     go_wp2;go_roundw
     case rel=>exact⟨i+1,by omega,by go_num,by rw[hR.out],by rw[hR.out];exact⟨o3.out,B3.out⟩⟩
     case measure=>simp[intOf];omega
    | false =>
     have hR:Hid (jW key val (l.take (i+1))=(out++[(key,val)]++[(y1,y2)],true)):=by show _=_;rw[hS.out,zH,xh (by simp[he]),hp.out]
     obtain⟨V3,hV3,D3,bV3,sV3⟩:=qf wr #[st key,st val] 63;obtain⟨⟨C0,C1⟩,_⟩:=Qc D3;have OW:=qB hI.out.1 bV3
     have BB3:=qa (hI.out.2.trans (bV3.mono hI.out.2.size))
     have hn3:((out).length+1)*32<=140737488355328:=by have h1:out.length+1<=(l.take i).length+1:=hN.out;have h2:=Kh i l;omega
     have hB3:w.heap.size<=V3.heap.size:=BB3.out.size
     rw[hV3] at C0 C1 OW hB3;replace C0:=qa C0;replace C1:=qa C1;replace OW:=qa OW;clear D3 bV3
     have hn4:Hid (((out++[(key,val)]).length+1)*32<=140737488355328):=by
      show _<=_
      have hE:(out++[(key,val)]).length=out.length+1:=by rw[xk];rfl
      rw[hE];have h3:out.length+1+1<=1000002:=by have h1:out.length+1<=(l.take i).length+1:=hN.out;have h2:=Kh i l;omega
      exact xi (Nat.mul_le_mul_right 32 h3) (by decide)
     have FLAG:True:=trivial
     go_wp2_with (at_builtin;first|(clear FLAG;refine zW rfl _ _ rfl w.heap.size _ (out) (key,val) wr.heap.size rfl rfl OW.out C0.out C1.out hn3 hB3 ?_;intro v3 w3 o3 b3 _;replace o3:=qa o3;rw[<-hV3] at b3;have B3:=qa (BB3.out.trans b3);clear b3 C0 C1 OW hB3 hn3;obtain⟨b',off',e,hd1,hd2⟩:=(HH.out.to0 B3.out).prAt hy.out;simp only[xr,XO,XS] at e;obtain⟨rfl,rfl⟩:=e;dsimp only at hd1 hd2;obtain⟨V4,hV4,D4,bV4,sV4⟩:=qf w3 #[st y1,st y2] 63;obtain⟨⟨C0,C1⟩,_⟩:=Qc D4;have OW:=qB o3.out bV4;have BB4:=qa (B3.out.trans (bV4.mono B3.out.size));have hB4:w.heap.size<=V4.heap.size:=BB4.out.size;rw[hV4] at C0 C1 OW hB4;replace C0:=qa C0;replace C1:=qa C1;replace OW:=qa OW;clear D4 bV4;have FLAG2:True:=trivial)|(clear FLAG2;refine zW rfl _ _ rfl w.heap.size _ (out++[(key,val)]) (y1,y2) w3.heap.size rfl rfl OW.out C0.out C1.out hn4.out hB4 ?_;intro v4 w4 o4 b4 _))
     replace o4:=qa o4;rw[<-hV4] at b4;have B4:=qa (BB4.out.trans b4)
     clear b4 C0 C1 OW hB4 hn4;go_wp2;go_roundw
     case rel=>exact⟨i+1,by omega,by go_num,by rw[hR.out],by rw[hR.out];exact⟨o4.out,B4.out⟩⟩
     case measure=>simp[intOf];omega
 have hq:¬ (i:Int)<(L:Int):=by omega
 have ht:Hid (l.take i=l):=by show _=_;exact xx (by rw[<-hL.out];omega)
 rw[ht.out] at hI |-;have hN:=qa (qf6 key val l)
 have hR:Hid (qno l key val=if(jW key val l).2=true then(jW key val l).1 else(jW key val l).1++[(key,val)]):=(rfl:_=_)
 obtain⟨⟨out,laid⟩,hs⟩:∃ s,s=jW key val l:=⟨_,rfl⟩;rw[<-hs] at hI hR hN |-;dsimp only at hI hR |-;replace hs:=qa hs;cases laid with
 | true =>
  rw[xj rfl] at hR;go_wp2;go_ret;rw[hR.out];exact⟨_,rfl,hI.out.1,hI.out.2⟩
 | false =>
  rw[xh (by simp)] at hR
  obtain⟨V3,hV3,D3,bV3,sV3⟩:=qf wr #[st key,st val] 63;obtain⟨⟨C0,C1⟩,_⟩:=Qc D3;have OW:=qB hI.out.1 bV3
  have BB3:=qa (hI.out.2.trans (bV3.mono hI.out.2.size))
  have hn3:((out).length+1)*32<=140737488355328:=by have h1:out.length+1<=l.length+1:=hN.out;rw[<-hL.out] at h1;omega
  have hB3:w.heap.size<=V3.heap.size:=BB3.out.size
  rw[hV3] at C0 C1 OW hB3;replace C0:=qa C0;replace C1:=qa C1;replace OW:=qa OW;clear D3 bV3;have FLAG:True:=trivial
  go_wp2_with (at_builtin;clear FLAG;refine zW rfl _ _ rfl w.heap.size _ (out) (key,val) wr.heap.size rfl rfl OW.out C0.out C1.out hn3 hB3 ?_;intro v3 w3 o3 b3 _)
  replace o3:=qa o3;rw[<-hV3] at b3;have B3:=qa (BB3.out.trans b3)
  clear b3 C0 C1 OW hB3 hn3;go_wp2;go_ret;rw[hR.out];exact⟨_,rfl,o3.out,B3.out⟩
end Go.Proofs.YtfjadfnjmpefkaaGreat
