/- What TopSwap rests on. -/
import Derived.Test.YtfjadfnjmpefkaaGreatGoLTSwap1
import Derived.Test.YtfjadfnjmpefkaaGreatGoLTSwap2
import Derived.ArgAppend
import Derived.Lib.AppendStr
import Derived.Test.YtfjadfnjmpefkaaGreatGoLTSwap0
import Derived.Test.YtfjadfnjmpefkaaGreatRows
import Derived.ProofKit
import Derived.OpenShut
import Derived.ShutString
import Derived.ChangeOld
import Derived.Below
import Derived.SizedLaws
import Derived.JoinedCond
import Derived.Deep.Slices
import Derived.ChangeSame
import Derived.WideShapes
import Derived.ChangeArms
import Derived.ChangeMaps5
set_option maxRecDepth 100000
set_option maxHeartbeats 4000000
set_option linter.unusedVariables false
set_option linter.unusedSimpArgs false
namespace Go.Proofs.YtfjadfnjmpefkaaGreat
theorem K8.{u,v}:type_of% @Prod.mk.injEq.{u,v}:=@Prod.mk.injEq
theorem Ka:type_of% @Go.DataW.weights_mem_each:=@Go.DataW.weights_mem_each
theorem kf.{u}:type_of% @List.sum_cons.{u}:=@List.sum_cons
theorem XM:type_of% @Go.Proofs.Tryz.underlying51:=@Go.Proofs.Tryz.underlying51
variable {n:Int} {x:List UInt8} {B K g i:Nat} {t:TypeId} {a b c d e v:Value} {u w:World}
theorem qB3:type_of% (xb @List.setIfInBounds_toArray.{0} (xb @List.set_cons_zero.{0} (@List.set_cons_succ.{0}))):=xb @List.setIfInBounds_toArray.{0} (xb @List.set_cons_zero.{0} (@List.set_cons_succ.{0}))
open Go.RowKit
theorem QS (h:w.heap[g]?=some (.cells #[a,b,c,d,e] t (0,0))) :
 (w.cell? ⟨g,0,none⟩=some a/\w.cell? ⟨g,1,none⟩=some b/\w.cell? ⟨g,2,none⟩=some c/\w.cell? ⟨g,3,none⟩=some d/\w.cell? ⟨g,4,none⟩=some e)/\∀ i,w.frozen? ⟨g,i,none⟩=false:=by
 refine⟨⟨?_,?_,?_,?_,?_⟩,fun i=>?_⟩
 ·rw[Xi _ _ 0 _ _ (0,0) h];rfl
 ·rw[Xi _ _ 1 _ _ (0,0) h];rfl
 ·rw[Xi _ _ 2 _ _ (0,0) h];rfl
 ·rw[Xi _ _ 3 _ _ (0,0) h];rfl
 ·rw[Xi _ _ 4 _ _ (0,0) h];rfl
 simp[World.frozen?,h]
def qr6 (u:World) (g:Nat) (a b c d e:Value):World:=((((u.setCell ⟨g,0,none⟩ a).setCell ⟨g,1,none⟩ b).setCell ⟨g,2,none⟩ c).setCell ⟨g,3,none⟩ d).setCell ⟨g,4,none⟩ e
theorem QH {fr:Nat×Nat} (h:u.heap[g]?=some (.cells #[a,b,c,d,e] t fr)) (x y z p q:Value) :
 (qr6 u g x y z p q).heap[g]?=some (.cells #[x,y,z,p,q] t fr):=by
 simp[qr6,World.setCell,Xc,h]
theorem Qr (h:Below B w u) (hg:B<=g) (x y z p q:Value):Below B w (qr6 u g x y z p q) :=
 ((((h.setCell (p:=⟨g,0,none⟩) hg x).setCell (p:=⟨g,1,none⟩) hg y).setCell (p:=⟨g,2,none⟩) hg z).setCell (p:=⟨g,3,none⟩) hg p).setCell (p:=⟨g,4,none⟩) hg q
theorem qrd:(Tryz.prog.info? 104).map (·.size)=some 5:=by kernel_rfl
theorem Zy:(Tryz.prog.info? 51).map (·.size)=some 5:=by kernel_rfl
theorem jU (w:World) (g:Nat):Calls Tryz.prog 45 #[.pointer (some ⟨g,0,none⟩)] w fun e w'=>e=.returned (.agg #[.pointer (some ⟨g,0,none⟩),.pointer (some ⟨g,1,none⟩),.pointer (some ⟨g,2,none⟩),.pointer (some ⟨g,3,none⟩),.pointer (some ⟨g,4,none⟩)])/\Below w.heap.size w w':=by
 obtain⟨X,hX,X0,bX,sX⟩:=qf w #[.pointer none,.pointer none,.pointer none,.pointer none,.pointer none] 104;obtain⟨⟨c0,c1,c2,c3,c4⟩,cf⟩:=QS X0;have f0:=cf 0
 have f1:=cf 1
 have f2:=cf 2
 have f3:=cf 3
 have f4:=cf 4
 go_enter Tryz.func45,Tryz.ntmps45
 go_wp2_with fail
 rw[<-hX];replace hX:=qa hX;refine qqe 16 qG (by kernel_rfl) ?_
 simp only[List.take_succ_cons,List.take_zero,List.drop_succ_cons,Kn]
 repeat still_step
 refine wpStill_nil ?_;go_wp2;refine Js rfl rfl w.heap.size rfl _ _ (0,0) (QH (u:=X) X0 _ _ _ _ _) _ Tryz.underlying104 rfl qrd ?_;exact⟨rfl,(Qr bX (xc _) _ _ _ _ _).drew⟩
def fitTo (b:Blk) (K:Int):Prop:=∀ (j:Nat) (n:Int),(j:Int)<K->(bls b)[j]?=some n->Zz n
theorem fitTo.zero (b:Blk):fitTo b 0:=fun j n hj=>by omega
theorem fitTo.next {b:Blk} (h:fitTo b K) (hn:(bls b)[K]?=some n) (hf:Zz n):fitTo b ((K+1:Nat):Int):=fun j m hj hm=>by
 by_cases e:j=K
 ·subst e;rw[hn] at hm;simp only[xr] at hm;subst hm;exact hf
 exact h j m (by omega) hm
theorem fitTo.all {b:Blk} (h:fitTo b 5):bok b:=fun n hn=>by
 obtain⟨j,hj⟩:=List.getElem?_of_mem hn;exact h j n (by have:=(xn.1 hj).1;have:(bls b).length=5:=rfl;omega) hj
theorem jS {b:Blk} (hn:(bls b)[K]?=some n) (hf:¬ Zz n):¬ bok b:=fun h=>hf (h n (xQ hn))
theorem zA {b:Blk} (h:¬ bok b):qge b=4:=xh h
theorem qcp {b:Blk} (h:bok b):qge b=0:=xj h
theorem qq9 (x0 x1 x2 x3 x4:Value) (u:World):(Instr.index 104 (.agg #[x0,x1,x2,x3,x4]) (.int .i64 0)).run Tryz.prog u=.ok x0 u:=by kernel_rfl
theorem qr7 (x0 x1 x2 x3 x4:Value) (u:World):(Instr.index 104 (.agg #[x0,x1,x2,x3,x4]) (.int .i64 1)).run Tryz.prog u=.ok x1 u:=by kernel_rfl
theorem qsf (x0 x1 x2 x3 x4:Value) (u:World):(Instr.index 104 (.agg #[x0,x1,x2,x3,x4]) (.int .i64 2)).run Tryz.prog u=.ok x2 u:=by kernel_rfl
theorem qr8 (x0 x1 x2 x3 x4:Value) (u:World):(Instr.index 104 (.agg #[x0,x1,x2,x3,x4]) (.int .i64 3)).run Tryz.prog u=.ok x3 u:=by kernel_rfl
theorem qr9 (x0 x1 x2 x3 x4:Value) (u:World):(Instr.index 104 (.agg #[x0,x1,x2,x3,x4]) (.int .i64 4)).run Tryz.prog u=.ok x4 u:=by kernel_rfl
theorem qba (w:World) (b:Blk):Calls Tryz.prog 44 #[.agg #[.int .i64 b.1,.int .i64 b.2.1,.int .i64 b.2.2.1,.int .i64 b.2.2.2.1,.int .i64 b.2.2.2.2]] w fun e w'=>e=.returned (.int .i64 (qge b))/\Below w.heap.size w w':=by
 obtain⟨n0,n1,n2,n3,n4⟩:=b;dsimp only;obtain⟨X,hX,X0,bX,sX⟩:=qf w #[.int .i64 n0,.int .i64 n1,.int .i64 n2,.int .i64 n3,.int .i64 n4] 51;go_enter Tryz.func44,Tryz.ntmps44
 go_wp2_with fail
 rw[<-hX];replace hX:=qa hX;refine(jU X w.heap.size).mono ?_;rintro e w1 ⟨rfl,b1⟩;have c1:=bX.trans (b1.mono bX.size)
 have X1:w1.heap[w.heap.size]?=_:=(b1.block _ (by omega)).trans X0
 obtain⟨⟨d0,d1,d2,d3,d4⟩,_⟩:=QS X1;clear X0 bX X1 b1;have ix0:=fun u=>qq9 (.pointer (some ⟨w.heap.size,0,none⟩)) (.pointer (some ⟨w.heap.size,1,none⟩)) (.pointer (some ⟨w.heap.size,2,none⟩)) (.pointer (some ⟨w.heap.size,3,none⟩)) (.pointer (some ⟨w.heap.size,4,none⟩)) u
 have ix1:=fun u=>qr7 (.pointer (some ⟨w.heap.size,0,none⟩)) (.pointer (some ⟨w.heap.size,1,none⟩)) (.pointer (some ⟨w.heap.size,2,none⟩)) (.pointer (some ⟨w.heap.size,3,none⟩)) (.pointer (some ⟨w.heap.size,4,none⟩)) u
 have ix2:=fun u=>qsf (.pointer (some ⟨w.heap.size,0,none⟩)) (.pointer (some ⟨w.heap.size,1,none⟩)) (.pointer (some ⟨w.heap.size,2,none⟩)) (.pointer (some ⟨w.heap.size,3,none⟩)) (.pointer (some ⟨w.heap.size,4,none⟩)) u
 have ix3:=fun u=>qr8 (.pointer (some ⟨w.heap.size,0,none⟩)) (.pointer (some ⟨w.heap.size,1,none⟩)) (.pointer (some ⟨w.heap.size,2,none⟩)) (.pointer (some ⟨w.heap.size,3,none⟩)) (.pointer (some ⟨w.heap.size,4,none⟩)) u
 have ix4:=fun u=>qr9 (.pointer (some ⟨w.heap.size,0,none⟩)) (.pointer (some ⟨w.heap.size,1,none⟩)) (.pointer (some ⟨w.heap.size,2,none⟩)) (.pointer (some ⟨w.heap.size,3,none⟩)) (.pointer (some ⟨w.heap.size,4,none⟩)) u
 go_wp2
 go_loopw [6] (fun i wr=>∃ K:Nat,K<=5/\i=.int .i64 K/\w1=wr/\Hid (fitTo (n0,n1,n2,n3,n4) K)) (fun i _=>5-(intOf i).toNat)
 case atStart=>exact⟨0,by omega,rfl,rfl,qa (fitTo.zero _)⟩
 case round =>
 obtain⟨K,hK,rfl,rfl,hF⟩:=hrel;have hcases:K=0\/K=1\/K=2\/K=3\/K=4\/K=5:=by omega
 rcases hcases with rfl|rfl|rfl|rfl|rfl|rfl
 ·by_cases h0:n0<0
  ·go_wp2;go_ret;exact⟨qo (zA (jS (K:=0) (n:=n0) rfl (fun h=>by unfold Zz at h;omega))).symm,c1⟩
  by_cases h1:1099511627776<n0
  ·go_wp2;go_ret;exact⟨qo (zA (jS (K:=0) (n:=n0) rfl (fun h=>by unfold Zz at h;omega))).symm,c1⟩
  go_wp2;go_roundw
  case rel=>exact⟨0+1,by omega,by go_num,trivial,qa (hF.out.next (n:=n0) rfl (by unfold Zz;omega))⟩
  case measure=>simp[intOf]
 ·by_cases h0:n1<0
  ·go_wp2;go_ret;exact⟨qo (zA (jS (K:=1) (n:=n1) rfl (fun h=>by unfold Zz at h;omega))).symm,c1⟩
  by_cases h1:1099511627776<n1
  ·go_wp2;go_ret;exact⟨qo (zA (jS (K:=1) (n:=n1) rfl (fun h=>by unfold Zz at h;omega))).symm,c1⟩
  go_wp2;go_roundw
  case rel=>exact⟨1+1,by omega,by go_num,trivial,qa (hF.out.next (n:=n1) rfl (by unfold Zz;omega))⟩
  case measure=>simp[intOf]
 ·by_cases h0:n2<0
  ·go_wp2;go_ret;exact⟨qo (zA (jS (K:=2) (n:=n2) rfl (fun h=>by unfold Zz at h;omega))).symm,c1⟩
  by_cases h1:1099511627776<n2
  ·go_wp2;go_ret;exact⟨qo (zA (jS (K:=2) (n:=n2) rfl (fun h=>by unfold Zz at h;omega))).symm,c1⟩
  go_wp2;go_roundw
  case rel=>exact⟨2+1,by omega,by go_num,trivial,qa (hF.out.next (n:=n2) rfl (by unfold Zz;omega))⟩
  case measure=>simp[intOf]
 ·by_cases h0:n3<0
  ·go_wp2;go_ret;exact⟨qo (zA (jS (K:=3) (n:=n3) rfl (fun h=>by unfold Zz at h;omega))).symm,c1⟩
  by_cases h1:1099511627776<n3
  ·go_wp2;go_ret;exact⟨qo (zA (jS (K:=3) (n:=n3) rfl (fun h=>by unfold Zz at h;omega))).symm,c1⟩
  go_wp2;go_roundw
  case rel=>exact⟨3+1,by omega,by go_num,trivial,qa (hF.out.next (n:=n3) rfl (by unfold Zz;omega))⟩
  case measure=>simp[intOf]
 ·by_cases h0:n4<0
  ·go_wp2;go_ret;exact⟨qo (zA (jS (K:=4) (n:=n4) rfl (fun h=>by unfold Zz at h;omega))).symm,c1⟩
  by_cases h1:1099511627776<n4
  ·go_wp2;go_ret;exact⟨qo (zA (jS (K:=4) (n:=n4) rfl (fun h=>by unfold Zz at h;omega))).symm,c1⟩
  go_wp2;go_roundw
  case rel=>exact⟨4+1,by omega,by go_num,trivial,qa (hF.out.next (n:=n4) rfl (by unfold Zz;omega))⟩
  case measure=>simp[intOf]
 go_wp2;go_ret;exact⟨qo (qcp hF.out.all).symm,c1⟩
theorem qsz (xs:List UInt8):IntKind.u64.wrap ((sum xs:Nat):Int)=((sum xs:Nat):Int):=by
 have hS:=ve xs
 unfold M32 at hS;rw[Ki];omega
theorem Zt (n:Nat) (h:n<=1099511627776):IntKind.u64.wrap (n:Int)=(n:Int):=by rw[Ki];omega
theorem qcc (w:World) (v:Value) (xs:List UInt8) (h:Rd w v xs) (hm:xs.length<=1000) :
 Calls Tryz.prog 47 #[v] w fun e w'=>∃ v',e=.returned v'/\OwnB w.heap.size w' v' (oc (sum xs) 4)/\Below w.heap.size w w':=by
 obtain⟨a,c,rfl⟩:=h.slice;have hS:=ve xs
 have hws:=qsz xs
 unfold M32 at hS;go_enter Tryz.func47,Tryz.ntmps47
 go_wp2_with fail
 refine(qik w _ xs h (by omega)).mono ?_
 rintro e w1 ⟨rfl,b1⟩;have KP:=qa (ZQ (sum xs) 4 w1 (by decide) (by decide) (by omega) (by omega))
 generalize hSe:sum xs=S at *;replace hSe:=qa hSe
 go_wp2_with fail
 refine KP.out.mono ?_;rintro e w2 ⟨v2,rfl,o2,b2⟩;go_wp2;go_ret;exact⟨_,rfl,by rw[hSe.out];exact o2.mono b1.size,b1.trans (b2.mono b1.size)⟩
theorem qbi:Lib.strCells ⟨#[116,115,98,49]⟩=smark.map enc:=by rfl
theorem YJ (h:Zz n):∃ m:Nat,n=(m:Int)/\m<=1099511627776:=by
 unfold Zz at h;exact⟨n.toNat,by omega,by omega⟩
theorem JV {l:List Int} {m:Nat} (h:l[K]?=some (m:Int)):ocs (l.take (K+1))=ocs (l.take K)++oc m 8:=by
 rw[Xf,h,qpq];show _++ocs [(m:Int)]=_
 rw[qe6,kA];show _++(_++[])=_
 rw[xK]
theorem Zs (b:Blk) (K:Nat) (h:K<=5):(smark++ocs ((bls b).take K)).length=4+8*K:=by
 rw[xk,qi1,xp];show 4+8*min K 5=_
 omega
theorem vR (w:World) (b:Blk):Calls Tryz.prog 13 #[.agg #[.int .i64 b.1,.int .i64 b.2.1,.int .i64 b.2.2.1,.int .i64 b.2.2.2.1,.int .i64 b.2.2.2.2]] w fun e w'=>∃ v',e=.returned (.tuple #[v',.int .i64 (JM b).2])/\OwnB w.heap.size w' v' (JM b).1/\Below w.heap.size w w':=by
 obtain⟨i0,hi,hz0,hz1,hz2⟩:=Xh YD;by_cases hok:bok b
 ·have KC:=fun u=>qba u b
  rw[qcp hok] at KC;rw[YR hok];obtain⟨n0,n1,n2,n3,n4⟩:=b;dsimp only at KC |-;obtain⟨m0,rfl,hm0⟩:=YJ (hok n0 (by simp[bls]))
  obtain⟨m1,rfl,hm1⟩:=YJ (hok n1 (by simp[bls]))
  obtain⟨m2,rfl,hm2⟩:=YJ (hok n2 (by simp[bls]))
  obtain⟨m3,rfl,hm3⟩:=YJ (hok n3 (by simp[bls]))
  obtain⟨m4,rfl,hm4⟩:=YJ (hok n4 (by simp[bls]))
  replace KC:=qa KC;clear hok;obtain⟨X,hX,X0,bX,sX⟩:=qf w #[.int .i64 (m0:Int),.int .i64 (m1:Int),.int .i64 (m2:Int),.int .i64 (m3:Int),.int .i64 (m4:Int)] 51;obtain⟨⟨d0,d1,d2,d3,d4⟩,_⟩:=QS X0;rw[hX] at d0 d1 d2 d3 d4;go_enter Tryz.func13,Tryz.ntmps13
  go_wp2_with fail
  rw[<-hX];clear d0 d1 d2 d3 d4;replace hX:=qa hX;refine(KC.out X).mono ?_;rintro e w1 ⟨rfl,b1⟩;have c1:=bX.trans (b1.mono bX.size)
  have X1:w1.heap[w.heap.size]?=_:=(b1.block _ (by omega)).trans X0
  have hg1:w.heap.size<w1.heap.size:=xa X1
  obtain⟨w2,hmk,own2,gr2⟩:=run_make_own (P:=Tryz.prog) w1 w1.heap.size 52 5 i0 (.int .u8 0) 1 xW hi hz0 hz1 .i64 .i64 64 (by rw[hz2];decide) (by decide) (xc _)
  replace hmk:(Instr.makeSlice 52 (.int .i64 0) (.int .i64 64)).run Tryz.prog w1=.ok (.slice (some ⟨w1.heap.size,0,none⟩) 0 64) w2:=hmk;have b2:Below w1.heap.size w1 w2:=(xm _ _).grown gr2 (xc _) (fun k hk=>by cases hk)
  clear X0 bX b1;replace c1:=qa c1;replace X1:=qa X1;have hw2:=b2.size
  go_wp2_with (at_builtin;refine Lib.wpList_append_own_string _ rfl _ _ 52 9 rfl w1.heap.size 5 i0 xW Kw hi hz0 hz1 hz2 _ 0 [] rfl own2 ⟨#[116,115,98,49]⟩ rfl (by decide) (by decide) hw2 ?_;intro v3 w3 own3 gr3 _)
  have o3:OwnB w1.heap.size w3 v3 smark:=by
   have:=own3
   rw[qbi] at this;exact this
  have b3:Below w1.heap.size w1 w3:=b2.grown gr3 (by exact hw2) (fun k hk=>(xo own2 k hk).1)
  clear own2 own3 gr2 gr3 hmk b2 hw2;refine(jU w3 w.heap.size).mono ?_;rintro e w4 ⟨rfl,b4⟩;have I0:=qa (xb (o3.below (xc _) b4) (b3.trans (b4.mono b3.size)))
  clear o3 b3 b4;have ix0:=fun u=>qq9 (.pointer (some ⟨w.heap.size,0,none⟩)) (.pointer (some ⟨w.heap.size,1,none⟩)) (.pointer (some ⟨w.heap.size,2,none⟩)) (.pointer (some ⟨w.heap.size,3,none⟩)) (.pointer (some ⟨w.heap.size,4,none⟩)) u
  have ix1:=fun u=>qr7 (.pointer (some ⟨w.heap.size,0,none⟩)) (.pointer (some ⟨w.heap.size,1,none⟩)) (.pointer (some ⟨w.heap.size,2,none⟩)) (.pointer (some ⟨w.heap.size,3,none⟩)) (.pointer (some ⟨w.heap.size,4,none⟩)) u
  have ix2:=fun u=>qsf (.pointer (some ⟨w.heap.size,0,none⟩)) (.pointer (some ⟨w.heap.size,1,none⟩)) (.pointer (some ⟨w.heap.size,2,none⟩)) (.pointer (some ⟨w.heap.size,3,none⟩)) (.pointer (some ⟨w.heap.size,4,none⟩)) u
  have ix3:=fun u=>qr8 (.pointer (some ⟨w.heap.size,0,none⟩)) (.pointer (some ⟨w.heap.size,1,none⟩)) (.pointer (some ⟨w.heap.size,2,none⟩)) (.pointer (some ⟨w.heap.size,3,none⟩)) (.pointer (some ⟨w.heap.size,4,none⟩)) u
  have ix4:=fun u=>qr9 (.pointer (some ⟨w.heap.size,0,none⟩)) (.pointer (some ⟨w.heap.size,1,none⟩)) (.pointer (some ⟨w.heap.size,2,none⟩)) (.pointer (some ⟨w.heap.size,3,none⟩)) (.pointer (some ⟨w.heap.size,4,none⟩)) u
  go_wp2
  go_loopw [5,19] (fun v i wr=>∃ K:Nat,K<=5/\i=.int .i64 K/\Hid (OwnB w1.heap.size wr v (smark++ocs ((bls ((m0:Int),(m1:Int),(m2:Int),(m3:Int),(m4:Int))).take K))/\Below w1.heap.size w1 wr)) (fun _ i _=>5-(intOf i).toNat)
  case atStart=>exact⟨0,by omega,rfl,qa ⟨by simpa[ocs] using I0.out.1,I0.out.2⟩⟩
  case round =>
  obtain⟨K,hK,rfl,hI⟩:=hrel;clear I0;obtain⟨⟨d0,d1,d2,d3,d4⟩,_⟩:=QS ((hI.out.2.block _ hg1).trans X1.out);have hcases:K=0\/K=1\/K=2\/K=3\/K=4\/K=5:=by omega
  rcases hcases with rfl|rfl|rfl|rfl|rfl|rfl
  ·have hwr:=Zt m0 hm0
   go_wp2_with fail
   refine(ZQ m0 8 wr (by decide) (by decide) (by omega) (by omega)).mono ?_
   rintro e w5 ⟨v5,rfl,o5,b5⟩;have bA:=hI.out.2.trans (b5.mono hI.out.2.size)
   obtain⟨Y,hY,oA⟩:∃ Y,Y=smark++ocs ((bls ((m0:Int),(m1:Int),(m2:Int),(m3:Int),(m4:Int))).take 0)/\OwnB w1.heap.size w5 u5 Y:=⟨_,rfl,hI.out.1.below (xc _) b5⟩;obtain⟨Z,hZ,r5⟩:∃ Z,Z=oc m0 8/\Rd w5 v5 Z:=⟨_,rfl,o5.rd⟩;have hl:Y.length+Z.length<=140737488355328:=by rw[hY,hZ,Zs _ _ (by omega),qv];omega
   have hsz:=bA.size
   obtain⟨ha,hc,rfl⟩:=oA.rd.slice;obtain⟨hb,hd,rfl⟩:=r5.slice;replace hY:=qa hY;replace hZ:=qa hZ;replace bA:=qa bA;clear d0 d1 d2 d3 d4 o5 b5 hI
   go_wp2_with (at_builtin;refine qx rfl _ _ rfl w1.heap.size _ _ _ _ rfl rfl oA r5 hl hsz ?_;intro v6 w6 o6 b6 _)
   go_roundw
   case rel=>exact⟨0+1,by omega,by go_num,qa ⟨by rw[JV (K:=0) (m:=m0) rfl,<-xz,<-hY.out,<-hZ.out];exact o6,bA.out.trans b6⟩⟩
   case measure=>simp[intOf]
  ·have hwr:=Zt m1 hm1
   go_wp2_with fail
   refine(ZQ m1 8 wr (by decide) (by decide) (by omega) (by omega)).mono ?_
   rintro e w5 ⟨v5,rfl,o5,b5⟩;have bA:=hI.out.2.trans (b5.mono hI.out.2.size)
   obtain⟨Y,hY,oA⟩:∃ Y,Y=smark++ocs ((bls ((m0:Int),(m1:Int),(m2:Int),(m3:Int),(m4:Int))).take 1)/\OwnB w1.heap.size w5 u5 Y:=⟨_,rfl,hI.out.1.below (xc _) b5⟩;obtain⟨Z,hZ,r5⟩:∃ Z,Z=oc m1 8/\Rd w5 v5 Z:=⟨_,rfl,o5.rd⟩;have hl:Y.length+Z.length<=140737488355328:=by rw[hY,hZ,Zs _ _ (by omega),qv];omega
   have hsz:=bA.size
   obtain⟨ha,hc,rfl⟩:=oA.rd.slice;obtain⟨hb,hd,rfl⟩:=r5.slice;replace hY:=qa hY;replace hZ:=qa hZ;replace bA:=qa bA;clear d0 d1 d2 d3 d4 o5 b5 hI
   go_wp2_with (at_builtin;refine qx rfl _ _ rfl w1.heap.size _ _ _ _ rfl rfl oA r5 hl hsz ?_;intro v6 w6 o6 b6 _)
   go_roundw
   case rel=>exact⟨1+1,by omega,by go_num,qa ⟨by rw[JV (K:=1) (m:=m1) rfl,<-xz,<-hY.out,<-hZ.out];exact o6,bA.out.trans b6⟩⟩
   case measure=>simp[intOf]
  ·have hwr:=Zt m2 hm2
   go_wp2_with fail
   refine(ZQ m2 8 wr (by decide) (by decide) (by omega) (by omega)).mono ?_
   rintro e w5 ⟨v5,rfl,o5,b5⟩;have bA:=hI.out.2.trans (b5.mono hI.out.2.size)
   obtain⟨Y,hY,oA⟩:∃ Y,Y=smark++ocs ((bls ((m0:Int),(m1:Int),(m2:Int),(m3:Int),(m4:Int))).take 2)/\OwnB w1.heap.size w5 u5 Y:=⟨_,rfl,hI.out.1.below (xc _) b5⟩;obtain⟨Z,hZ,r5⟩:∃ Z,Z=oc m2 8/\Rd w5 v5 Z:=⟨_,rfl,o5.rd⟩;have hl:Y.length+Z.length<=140737488355328:=by rw[hY,hZ,Zs _ _ (by omega),qv];omega
   have hsz:=bA.size
   obtain⟨ha,hc,rfl⟩:=oA.rd.slice;obtain⟨hb,hd,rfl⟩:=r5.slice;replace hY:=qa hY;replace hZ:=qa hZ;replace bA:=qa bA;clear d0 d1 d2 d3 d4 o5 b5 hI
   go_wp2_with (at_builtin;refine qx rfl _ _ rfl w1.heap.size _ _ _ _ rfl rfl oA r5 hl hsz ?_;intro v6 w6 o6 b6 _)
   go_roundw
   case rel=>exact⟨2+1,by omega,by go_num,qa ⟨by rw[JV (K:=2) (m:=m2) rfl,<-xz,<-hY.out,<-hZ.out];exact o6,bA.out.trans b6⟩⟩
   case measure=>simp[intOf]
  ·have hwr:=Zt m3 hm3
   go_wp2_with fail
   refine(ZQ m3 8 wr (by decide) (by decide) (by omega) (by omega)).mono ?_
   rintro e w5 ⟨v5,rfl,o5,b5⟩;have bA:=hI.out.2.trans (b5.mono hI.out.2.size)
   obtain⟨Y,hY,oA⟩:∃ Y,Y=smark++ocs ((bls ((m0:Int),(m1:Int),(m2:Int),(m3:Int),(m4:Int))).take 3)/\OwnB w1.heap.size w5 u5 Y:=⟨_,rfl,hI.out.1.below (xc _) b5⟩;obtain⟨Z,hZ,r5⟩:∃ Z,Z=oc m3 8/\Rd w5 v5 Z:=⟨_,rfl,o5.rd⟩;have hl:Y.length+Z.length<=140737488355328:=by rw[hY,hZ,Zs _ _ (by omega),qv];omega
   have hsz:=bA.size
   obtain⟨ha,hc,rfl⟩:=oA.rd.slice;obtain⟨hb,hd,rfl⟩:=r5.slice;replace hY:=qa hY;replace hZ:=qa hZ;replace bA:=qa bA;clear d0 d1 d2 d3 d4 o5 b5 hI
   go_wp2_with (at_builtin;refine qx rfl _ _ rfl w1.heap.size _ _ _ _ rfl rfl oA r5 hl hsz ?_;intro v6 w6 o6 b6 _)
   go_roundw
   case rel=>exact⟨3+1,by omega,by go_num,qa ⟨by rw[JV (K:=3) (m:=m3) rfl,<-xz,<-hY.out,<-hZ.out];exact o6,bA.out.trans b6⟩⟩
   case measure=>simp[intOf]
  ·have hwr:=Zt m4 hm4
   go_wp2_with fail
   refine(ZQ m4 8 wr (by decide) (by decide) (by omega) (by omega)).mono ?_
   rintro e w5 ⟨v5,rfl,o5,b5⟩;have bA:=hI.out.2.trans (b5.mono hI.out.2.size)
   obtain⟨Y,hY,oA⟩:∃ Y,Y=smark++ocs ((bls ((m0:Int),(m1:Int),(m2:Int),(m3:Int),(m4:Int))).take 4)/\OwnB w1.heap.size w5 u5 Y:=⟨_,rfl,hI.out.1.below (xc _) b5⟩;obtain⟨Z,hZ,r5⟩:∃ Z,Z=oc m4 8/\Rd w5 v5 Z:=⟨_,rfl,o5.rd⟩;have hl:Y.length+Z.length<=140737488355328:=by rw[hY,hZ,Zs _ _ (by omega),qv];omega
   have hsz:=bA.size
   obtain⟨ha,hc,rfl⟩:=oA.rd.slice;obtain⟨hb,hd,rfl⟩:=r5.slice;replace hY:=qa hY;replace hZ:=qa hZ;replace bA:=qa bA;clear d0 d1 d2 d3 d4 o5 b5 hI
   go_wp2_with (at_builtin;refine qx rfl _ _ rfl w1.heap.size _ _ _ _ rfl rfl oA r5 hl hsz ?_;intro v6 w6 o6 b6 _)
   go_roundw
   case rel=>exact⟨4+1,by omega,by go_num,qa ⟨by rw[JV (K:=4) (m:=m4) rfl,<-xz,<-hY.out,<-hZ.out];exact o6,bA.out.trans b6⟩⟩
   case measure=>simp[intOf]
  have oH:OwnB w1.heap.size wr u5 (JX ((m0:Int),(m1:Int),(m2:Int),(m3:Int),(m4:Int))):=hI.out.1
  have bH:=hI.out.2
  obtain⟨ha,hc,rfl⟩:=oH.rd.slice;have hsl:=jn ((m0:Int),(m1:Int),(m2:Int),(m3:Int),(m4:Int))
  have KS:=qa (qcc wr _ _ oH.rd (by omega))
  generalize hhd:JX ((m0:Int),(m1:Int),(m2:Int),(m3:Int),(m4:Int))=H at *;replace hhd:=qa hhd;replace hsl:=qa hsl;replace oH:=qa oH;replace bH:=qa bH;clear d0 d1 d2 d3 d4 hI
  go_wp2_with fail
  refine KS.out.mono ?_;rintro e w5 ⟨v5,rfl,o5,b5⟩;have oA:=oH.out.below (xc _) b5
  have bA:=bH.out.trans (b5.mono bH.out.size)
  obtain⟨Z,hZ,r5⟩:∃ Z,Z=oc (sum H) 4/\Rd w5 v5 Z:=⟨_,rfl,o5.rd⟩;have hzl:Z.length=4:=by rw[hZ,qv]
  have hl:H.length+Z.length<=140737488355328:=by rw[hzl,hsl.out];omega
  have hsz:=bA.size
  obtain⟨hb,hd,rfl⟩:=r5.slice;replace hZ:=qa hZ;replace hzl:=qa hzl;clear o5 b5 KS
  have hzr:∀ v6 w6,OwnB w1.heap.size w6 v6 (H++Z)->Below w1.heap.size w5 w6->∃ v7 w7,(Builtin.append_ #[52,3] 52 #[v6,.int .i64 16]).run Tryz.prog w6=.ok v7 w7/\OwnB w1.heap.size w7 v7 (H++Z++List.replicate 16 0)/\Below w1.heap.size w1 w7:=fun v6 w6 o6 b6=>by
   have bB:=bA.trans b6
   have hl6:(H++Z).length=48:=by rw[xk,hzl.out,hsl.out]
   obtain⟨v7,w7,hr7,o7,gr7⟩:=j4 w6 52 o6 16 (by omega) bB.size
   exact⟨v7,w7,hr7,o7,bB.grown gr7 (by exact bB.size) o6.from⟩
  replace hzr:=qa hzr
  go_wp2_with (first
   | (at_builtin;refine qx rfl _ _ rfl w1.heap.size _ _ _ _ rfl rfl oA r5 hl hsz ?_;intro v6 w6 o6 b6 _;obtain⟨v7,w7,hr7,o7,b7⟩:=hzr.out v6 w6 o6 b6)
   | (at_builtin;refine XY _ rfl _ _ _ _ rfl _ _ rfl rfl _ _ hr7 ?_))
  go_ret2
  refine⟨_,rfl,?_,c1.out.trans (b7.mono c1.out.size)⟩;unfold zq;rw[hhd.out,<-hZ.out];exact o7.mono c1.out.size
 have KC:=fun u=>qba u b
 rw[zA hok] at KC;rw[qpn hok];obtain⟨n0,n1,n2,n3,n4⟩:=b;dsimp only at KC |-;replace KC:=qa KC;clear hok;obtain⟨X,hX,X0,bX,sX⟩:=qf w #[.int .i64 n0,.int .i64 n1,.int .i64 n2,.int .i64 n3,.int .i64 n4] 51;obtain⟨⟨d0,d1,d2,d3,d4⟩,_⟩:=QS X0;rw[hX] at d0 d1 d2 d3 d4;go_enter Tryz.func13,Tryz.ntmps13
 go_wp2_with fail
 rw[<-hX];clear d0 d1 d2 d3 d4;replace hX:=qa hX;refine(KC.out X).mono ?_;rintro e w1 ⟨rfl,b1⟩;go_wp2
 go_ret2
 exact⟨_,rfl,xA _ _ _ _,bX.trans (b1.mono bX.size)⟩
theorem qs2 (h:Rd w v x) (hl:x.length=64):∃ b o c,v=.slice (some ⟨b,o,none⟩) 64 c/\64<=c/\c<=9223372036854775807/\∀ q to,q<=to->to<=64->Rd w (.slice (some ⟨b,o+q,none⟩) (to-q) (c-q)) ((x.take to).drop q):=by
 obtain⟨a,c,e⟩:=h.slice;subst e;have h':=h
 obtain⟨a',c',e,l1,m1,n1,r1⟩:=h;simp only[xH,true_and] at e;obtain⟨rfl,rfl⟩:=e;rcases r1 with r1|⟨b,o,rfl,hc⟩
 ·subst r1;simp at hl
 refine⟨b,o,c,by rw[hl],by omega,m1,fun q to h1 h2=>?_⟩
 have:=(qgt h' (q:=q) (to:=to) h1 (by omega)).1
 by_cases hq:q=0
 ·subst hq;simpa[Addr.add] using this
 simpa[Addr.add,hq] using this
theorem qrw (h:x.length≠64):jb x=3:=xj h
theorem qp8 (h:x.length=64) (h2:x.take 4≠smark):jb x=22:=by
 unfold jb;rw[xh (fun k=>k h),xj h2]
theorem qqj (h:x.length=64) (h2:x.take 4=smark) (h3:(x.take 48).drop 44≠oc (sum (x.take 44)) 4):jb x=21:=by
 unfold jb;rw[xh (fun k=>k h),xh (fun k=>k h2),xj h3]
theorem qqp (h:x.length=64) (h2:x.take 4=smark) (h3:(x.take 48).drop 44=oc (sum (x.take 44)) 4) (h4:x.drop 48≠List.replicate 16 0):jb x=23:=by
 unfold jb;rw[xh (fun k=>k h),xh (fun k=>k h2),xh (fun k=>k h3),xj h4]
theorem qrz (h:x.length=64) (h2:x.take 4=smark) (h3:(x.take 48).drop 44=oc (sum (x.take 44)) 4) (h4:x.drop 48=List.replicate 16 0):jb x=0:=by
 unfold jb;rw[xh (fun k=>k h),xh (fun k=>k h2),xh (fun k=>k h3),xh (fun k=>k h4)]
theorem Vb (w:World) (v:Value) (x:List UInt8) (hx:Rd w v x):Calls Tryz.prog 128 #[v] w fun e w'=>e=.returned (.int .i64 (jb x))/\Below w.heap.size w w':=by
 by_cases h1:x.length=64
 ·obtain⟨b,o,c,rfl,hc,hcm,hR⟩:=qs2 hx h1;have r4:Rd w (.slice (some ⟨b,o,none⟩) 4 c) (x.take 4):=by simpa using hR 0 4 (by omega) (by omega)
  have r44:Rd w (.slice (some ⟨b,o,none⟩) 44 c) (x.take 44):=by simpa using hR 0 44 (by omega) (by omega)
  have rS:Rd w (.slice (some ⟨b,o+44,none⟩) 4 (c-44)) ((x.take 48).drop 44):=hR 44 48 (by omega) (by omega)
  have rT:Rd w (.slice (some ⟨b,o+48,none⟩) 16 (c-48)) (x.drop 48):=by
   have:=hR 48 64 (by omega) (by omega)
   rwa [xx (by omega)] at this
  have l4:(x.take 4).length=4:=by rw[xp];omega
  have lS:((x.take 48).drop 44).length=4:=by rw[xE,xp];omega
  have lT:(x.drop 48).length=16:=by rw[xE];omega
  have l44:(x.take 44).length=44:=by rw[xp];omega
  have k4:=Yi r4 (by omega)
  have hq4:(4:Int)<=(c:Int):=by omega
  have hq44:(44:Int)<=(c:Int):=by omega
  have hq48:(48:Int)<=(c:Int):=by omega
  have hq64:(64:Int)<=(c:Int):=by omega
  have hn44:¬ c=44:=by omega
  have hn48:¬ c=48:=by omega
  by_cases h2:x.take 4=smark
  ·have K1:=qa (qcc w.drew _ _ (r44.drewN 1) (by omega))
   have hx2:=qa h2
   rw[h2] at k4;have hL:=qa (xb lS lT)
   have hR':=qa (xb rS rT)
   have h1':=qa h1
   clear h2 r4 r44 l4 l44 lS lT rS rT h1 hx hR hc hcm;go_enter Tryz.func128,Tryz.ntmps128
   go_wp2_with fail
   refine qj (fun _=>True) 4 5 qG (by kernel_rfl) (fun _ _ _ _ h=>h) trivial ?_
   dsimp only[List.take,List.drop]
   iterate 4
    refine qA (v:=?_) (by rfl) ?_ ?_
    rotate_left
    ·intro w' s1;go_simp;try with_reducible rfl
    try simp only[Act.put,qB3]
   refine qM fun K hK=>?_;refine ZJ (by rfl) 47 _ _ (by rfl) #[.slice (some ⟨b,o,none⟩) 44 c] (by simp[Act.eval]) (Tryz.call47 _ _) K1.out ?_
   rintro e w1 ⟨v1,rfl,o1,b1⟩;refine⟨_,rfl,hK _ _ trivial ?_⟩;clear hK K;try simp only[Act.put,qB3]
   show wpList _ _ _ _ _ _
   clear K1;have c1:Below w.heap.size w w1:=(xm _ _).drew.trans b1
   have K2:=qa (yj w1 _ _ _ _ (hR'.out.1.to c1) o1.rd (by rw[hL.out.1];decide) (by rw[qv];decide))
   obtain⟨va,vc,rfl⟩:=o1.rd.slice;rw[qv] at K2 |-;clear o1 b1;have rT:=qa (hR'.out.2.to c1)
   by_cases h3:(x.take 48).drop 44=oc (sum (x.take 44)) 4
   ·rw[Yc h3] at K2;replace h3:=qa h3
    go_wp2_with fail
    refine K2.out.mono ?_;rintro e w' ⟨rfl,rfl⟩;clear K2
    go_wp2_with fail
    have hmk:=YY (n:=16) (by decide) w1.drew
    replace hmk:(Instr.makeSlice 52 (.int .i64 16) (.int .i64 16)).run Tryz.prog w1.drew=.ok (.slice (some ⟨w1.drew.heap.size,0,none⟩) 16 16) (w1.drew.alloc (.cells (madeCells #[.int .u8 0] 16) 5)):=hmk;have oz:=qaw w1.drew 16 (by decide)
    obtain⟨w2,hw2⟩:∃ u,u=w1.drew.alloc (.cells (madeCells #[.int .u8 0] 16) 5):=⟨_,rfl⟩;rw[<-hw2] at hmk oz;have bz:Below w1.heap.size w1 w2:=by rw[hw2];exact((xm _ _).drew).alloc (xc _) _
    have K3:=qa (yj w2 _ _ _ _ (rT.out.to bz) oz.rd (by rw[hL.out.2];decide) (by decide))
    have c2:=qa (c1.trans (bz.mono c1.size))
    clear c1 bz oz hw2;refine qj (fun _=>True) 2 3 qG (by kernel_rfl) (fun _ _ _ _ h=>h) trivial ?_
    dsimp only[List.take,List.drop]
    iterate 2
     refine qA (v:=?_) (by rfl) ?_ ?_
     rotate_left
     ·intro w' s1;go_simp;try with_reducible rfl
     try simp only[Act.put,qB3]
    refine qM fun K hK=>?_;rw[xj (by rfl)]
    go_simp;refine hK _ _ trivial ?_;clear hK K;show wpList _ _ _ _ _ _
    by_cases h4:x.drop 48=List.replicate 16 0
    ·have hE:=qa (qrz h1'.out hx2.out h3.out h4)
     rw[Yc h4] at K3;replace h4:=qa h4
     go_wp2_with fail
     refine K3.out.mono ?_;rintro e w' ⟨rfl,rfl⟩;go_wp2;go_ret;exact⟨qo hE.out.symm,c2.out⟩
    have hE:=qa (qqp h1'.out hx2.out h3.out h4)
    rw[YP h4] at K3;replace h4:=qa h4
    go_wp2_with fail
    refine K3.out.mono ?_;rintro e w' ⟨rfl,rfl⟩;go_wp2;go_ret;exact⟨qo hE.out.symm,c2.out⟩
   have hE:=qa (qqj h1'.out hx2.out h3)
   rw[YP h3] at K2;replace h3:=qa h3
   go_wp2_with fail
   refine K2.out.mono ?_;rintro e w' ⟨rfl,rfl⟩;go_wp2;go_ret;exact⟨qo hE.out.symm,c1⟩
  have hE:=qa (qp8 h1 h2)
  have hd4:(x.take 4 == [116,115,98,49])=false:=kE.2 h2
  clear h2 r4 r44 l4 l44 lS lT rS rT h1 hx hR hc hcm;go_enter Tryz.func128,Tryz.ntmps128;go_wp2;go_ret;exact⟨qo hE.out.symm,xm _ _⟩
 have hq:((x.length:Int) != 64)=true:=by
  simp only[bne_iff_ne];omega
 have hE:=qa (qrw h1)
 obtain⟨a,c,rfl⟩:=hx.slice;replace h1:=qa h1;go_enter Tryz.func128,Tryz.ntmps128;go_wp2;go_ret;exact⟨qo hE.out.symm,xm _ _⟩
def snv (x:List UInt8) (K j:Nat):Int:=if j<K then(zd x j:Nat) else 0
def dcs (x:List UInt8) (K:Nat):Array Value:=#[.int .i64 (snv x K 0),.int .i64 (snv x K 1),.int .i64 (snv x K 2),.int .i64 (snv x K 3),.int .i64 (snv x K 4)]
theorem qma (h:jb x≠0):zJ x=(vK,jb x):=xj h
theorem qav (h:jb x=0) (hi:i<5) (hn:1099511627776<zd x i):zJ x=(vK,4):=by
 unfold zJ;rw[xh (fun k=>k h),xj (fun k=>by have:=k i hi;omega)]
theorem qrv (h:jb x=0) (hf:qpf x):zJ x=(qqw x,0):=by
 unfold zJ;rw[xh (fun k=>k h),xh (fun k=>k hf)]
theorem Zp (n:Nat) (h:n<=1099511627776):IntKind.i64.wrap (n:Int)=(n:Int):=by rw[ky];omega
def qgc (w:World) (gR gD tR tD:Nat) (x:List UInt8) (K:Nat) (wr:World):Prop :=
 Below w.heap.size w wr/\wr.heap[gR]?=some (.cells #[.int .i64 0,.int .i64 0,.int .i64 0,.int .i64 0,.int .i64 0] tR (0,0))/\wr.heap[gD]?=some (.cells (dcs x K) tD (0,0))/\∀ i,i<K->zd x i<=1099511627776
theorem vH (w:World) (v:Value) (x:List UInt8) (hx:Rd w v x):Calls Tryz.prog 101 #[v] w fun e w'=>e=.returned (.tuple #[.agg #[.int .i64 (zJ x).1.1,.int .i64 (zJ x).1.2.1,.int .i64 (zJ x).1.2.2.1,.int .i64 (zJ x).1.2.2.2.1,.int .i64 (zJ x).1.2.2.2.2],.int .i64 (zJ x).2])/\Below w.heap.size w w':=by
 obtain⟨a,c,hv⟩:=hx.slice;obtain⟨X,hX,X0,bX,sX⟩:=qf w #[.int .i64 0,.int .i64 0,.int .i64 0,.int .i64 0,.int .i64 0] 51;have KO:=qa (Vb X _ x (hx.to bX))
 rw[hv] at KO |-;obtain⟨E,hE⟩:∃ E,E=jb x:=⟨_,rfl⟩;rw[<-hE] at KO;go_enter Tryz.func101,Tryz.ntmps101
 go_wp2_with fail
 rw[<-hX];replace hX:=qa hX;refine KO.out.mono ?_;rintro e w1 ⟨rfl,b1⟩;clear KO;have c1:=bX.trans (b1.mono bX.size)
 have X1:w1.heap[w.heap.size]?=_:=(b1.block _ (by omega)).trans X0
 obtain⟨⟨r0,r1,r2,r3,r4⟩,rf⟩:=QS X1;have f0:=rf 0
 have f1:=rf 1
 have f2:=rf 2
 have f3:=rf 3
 have f4:=rf 4
 by_cases h0:E=0
 ·have ho:jb x=0:=by rw[<-hE];exact h0
  obtain⟨bb,oo,cc,hv2,hc,hcm,hRR⟩:=qs2 hx (qkv ho).1;rw[hv] at hv2;simp only[xH] at hv2;obtain⟨rfl,hl64,rfl⟩:=hv2;subst h0;obtain⟨Y,hY,Y0,bY,sY⟩:=qf w1 #[.int .i64 0,.int .i64 0,.int .i64 0,.int .i64 0,.int .i64 0] 51;have X2:=(bY.block _ (xa X1)).trans X1
  have c2:=c1.trans (bY.mono c1.size)
  obtain⟨gD,hgD⟩:∃ g,g=w1.heap.size:=⟨_,rfl⟩;have hgR:w.heap.size<gD:=by rw[hgD];exact xa X1
  rw[<-hgD] at Y0;replace c2:=qa c2;replace X2:=qa X2;replace Y0:=qa Y0;replace ho:=qa ho;clear X0 bX b1 X1 c1 bY r0 r1 r2 r3 r4 f0 f1 f2 f3 f4 rf hE
  go_wp2_with fail
  rw[<-hY,<-hgD];replace hY:=qa hY;replace hgD:=qa hgD;refine(jU Y gD).mono ?_;rintro e w2 ⟨rfl,b2⟩;have I0:Hid (qgc w w.heap.size gD 51 51 x 0 w2):=⟨c2.out.trans (b2.mono c2.out.size),(b2.block _ (xa X2.out)).trans X2.out,(b2.block _ (xa Y0.out)).trans Y0.out,fun i hi=>by omega⟩
  clear b2 c2 X2 Y0;have ix0:=fun u=>qq9 (.pointer (some ⟨gD,0,none⟩)) (.pointer (some ⟨gD,1,none⟩)) (.pointer (some ⟨gD,2,none⟩)) (.pointer (some ⟨gD,3,none⟩)) (.pointer (some ⟨gD,4,none⟩)) u
  have ix1:=fun u=>qr7 (.pointer (some ⟨gD,0,none⟩)) (.pointer (some ⟨gD,1,none⟩)) (.pointer (some ⟨gD,2,none⟩)) (.pointer (some ⟨gD,3,none⟩)) (.pointer (some ⟨gD,4,none⟩)) u
  have ix2:=fun u=>qsf (.pointer (some ⟨gD,0,none⟩)) (.pointer (some ⟨gD,1,none⟩)) (.pointer (some ⟨gD,2,none⟩)) (.pointer (some ⟨gD,3,none⟩)) (.pointer (some ⟨gD,4,none⟩)) u
  have ix3:=fun u=>qr8 (.pointer (some ⟨gD,0,none⟩)) (.pointer (some ⟨gD,1,none⟩)) (.pointer (some ⟨gD,2,none⟩)) (.pointer (some ⟨gD,3,none⟩)) (.pointer (some ⟨gD,4,none⟩)) u
  have ix4:=fun u=>qr9 (.pointer (some ⟨gD,0,none⟩)) (.pointer (some ⟨gD,1,none⟩)) (.pointer (some ⟨gD,2,none⟩)) (.pointer (some ⟨gD,3,none⟩)) (.pointer (some ⟨gD,4,none⟩)) u
  go_wp2
  go_loopw [18] (fun i wr=>∃ K:Nat,K<=5/\i=.int .i64 K/\Hid (qgc w w.heap.size gD 51 51 x K wr)) (fun i _=>5-(intOf i).toNat)
  case atStart=>exact⟨0,by omega,rfl,I0⟩
  case round =>
  obtain⟨K,hK,rfl,hI⟩:=hrel;clear I0;have hcases:K=0\/K=1\/K=2\/K=3\/K=4\/K=5:=by omega
  rcases hcases with rfl|rfl|rfl|rfl|rfl|rfl
  ·have hq:(12:Int)<=(c:Int):=by omega
   have hn:¬ c=4:=by omega
   have KG:=qa (jM wr _ _ ((hRR 4 12 (by omega) (by omega)).to hI.out.1) (by rw[xE,xp];omega) (by rw[xE,xp];omega))
   obtain⟨N,hN⟩:∃ N,N=Qg ((x.take 12).drop 4):=⟨_,rfl⟩;have hNs:zd x 0=N:=hN.symm
   rw[<-hN] at KG;replace hN:=qa hN;replace hNs:=qa hNs
   go_wp2_with fail
   refine KG.out.mono ?_;rintro e w5 ⟨rfl,b5⟩;clear KG;have c5:=hI.out.1.trans (b5.mono hI.out.1.size)
   have R5:=(b5.block _ (xa hI.out.2.1)).trans hI.out.2.1
   have D5:w5.heap[gD]?=some (.cells #[.int .i64 0,.int .i64 0,.int .i64 0,.int .i64 0,.int .i64 0] 51 (0,0)):=(b5.block _ (xa hI.out.2.2.1)).trans hI.out.2.2.1
   have hfit:=qa hI.out.2.2.2
   clear hI b5;by_cases hm:N<=1099511627776
   ·have hmI:¬ (1099511627776:Int)<(N:Int):=by omega
    have hwr:=Zp N hm
    obtain⟨⟨z0,z1,z2,z3,z4⟩,zf⟩:=QS D5;have g0:=zf 0
    have FIN:Hid (qgc w w.heap.size gD 51 51 x (0+1) (w5.setCell ⟨gD,0,none⟩ (.int .i64 (N:Int)))):=by
     refine⟨c5.setCell (p:=⟨gD,0,none⟩) (xZ hgR) _,?_,?_,fun j hj=>?_⟩
     ·rw[xd _ _ _ _ (Nat.ne_of_lt hgR)];exact R5
     ·show (_:Option Obj)=some (Obj.cells #[.int .i64 ((zd x 0:Nat):Int),.int .i64 0,.int .i64 0,.int .i64 0,.int .i64 0] 51 (0,0))
      rw[hNs.out];simp[World.setCell,Xc,D5]
     by_cases hj':j=0
     ·subst hj';rw[hNs.out];exact hm
     exact hfit.out j (by omega)
    clear R5 D5 c5 zf;go_wp2;go_roundw
    case rel=>exact⟨0+1,by omega,by go_num,FIN⟩
    case measure=>simp[intOf]
   have hmI:(1099511627776:Int)<(N:Int):=by omega
   have hS:=qa (qav ho.out (i:=0) (by omega) (by rw[hNs.out];omega))
   obtain⟨⟨r0,r1,r2,r3,r4⟩,rf⟩:=QS R5;have f0:=rf 0
   have f1:=rf 1
   have f2:=rf 2
   have f3:=rf 3
   have f4:=rf 4
   go_wp2;refine QD rfl rfl w.heap.size rfl _ _ (0,0) (QH (u:=w5) R5 _ _ _ _ _) _ XM rfl Zy _ rfl ?_;rw[hS.out];exact⟨rfl,Qr c5 (xc _) _ _ _ _ _⟩
  ·have hq:(20:Int)<=(c:Int):=by omega
   have hn:¬ c=12:=by omega
   have KG:=qa (jM wr _ _ ((hRR 12 20 (by omega) (by omega)).to hI.out.1) (by rw[xE,xp];omega) (by rw[xE,xp];omega))
   obtain⟨N,hN⟩:∃ N,N=Qg ((x.take 20).drop 12):=⟨_,rfl⟩;have hNs:zd x 1=N:=hN.symm
   rw[<-hN] at KG;replace hN:=qa hN;replace hNs:=qa hNs
   go_wp2_with fail
   refine KG.out.mono ?_;rintro e w5 ⟨rfl,b5⟩;clear KG;have c5:=hI.out.1.trans (b5.mono hI.out.1.size)
   have R5:=(b5.block _ (xa hI.out.2.1)).trans hI.out.2.1
   have D5:w5.heap[gD]?=some (.cells #[.int .i64 ((zd x 0:Nat):Int),.int .i64 0,.int .i64 0,.int .i64 0,.int .i64 0] 51 (0,0)):=(b5.block _ (xa hI.out.2.2.1)).trans hI.out.2.2.1
   have hfit:=qa hI.out.2.2.2
   clear hI b5;by_cases hm:N<=1099511627776
   ·have hmI:¬ (1099511627776:Int)<(N:Int):=by omega
    have hwr:=Zp N hm
    obtain⟨⟨z0,z1,z2,z3,z4⟩,zf⟩:=QS D5;have g0:=zf 1
    have FIN:Hid (qgc w w.heap.size gD 51 51 x (1+1) (w5.setCell ⟨gD,1,none⟩ (.int .i64 (N:Int)))):=by
     refine⟨c5.setCell (p:=⟨gD,1,none⟩) (xZ hgR) _,?_,?_,fun j hj=>?_⟩
     ·rw[xd _ _ _ _ (Nat.ne_of_lt hgR)];exact R5
     ·show (_:Option Obj)=some (Obj.cells #[.int .i64 ((zd x 0:Nat):Int),.int .i64 ((zd x 1:Nat):Int),.int .i64 0,.int .i64 0,.int .i64 0] 51 (0,0))
      rw[hNs.out];simp[World.setCell,Xc,D5]
     by_cases hj':j=1
     ·subst hj';rw[hNs.out];exact hm
     exact hfit.out j (by omega)
    clear R5 D5 c5 zf;go_wp2;go_roundw
    case rel=>exact⟨1+1,by omega,by go_num,FIN⟩
    case measure=>simp[intOf]
   have hmI:(1099511627776:Int)<(N:Int):=by omega
   have hS:=qa (qav ho.out (i:=1) (by omega) (by rw[hNs.out];omega))
   obtain⟨⟨r0,r1,r2,r3,r4⟩,rf⟩:=QS R5;have f0:=rf 0
   have f1:=rf 1
   have f2:=rf 2
   have f3:=rf 3
   have f4:=rf 4
   go_wp2;refine QD rfl rfl w.heap.size rfl _ _ (0,0) (QH (u:=w5) R5 _ _ _ _ _) _ XM rfl Zy _ rfl ?_;rw[hS.out];exact⟨rfl,Qr c5 (xc _) _ _ _ _ _⟩
  ·have hq:(28:Int)<=(c:Int):=by omega
   have hn:¬ c=20:=by omega
   have KG:=qa (jM wr _ _ ((hRR 20 28 (by omega) (by omega)).to hI.out.1) (by rw[xE,xp];omega) (by rw[xE,xp];omega))
   obtain⟨N,hN⟩:∃ N,N=Qg ((x.take 28).drop 20):=⟨_,rfl⟩;have hNs:zd x 2=N:=hN.symm
   rw[<-hN] at KG;replace hN:=qa hN;replace hNs:=qa hNs
   go_wp2_with fail
   refine KG.out.mono ?_;rintro e w5 ⟨rfl,b5⟩;clear KG;have c5:=hI.out.1.trans (b5.mono hI.out.1.size)
   have R5:=(b5.block _ (xa hI.out.2.1)).trans hI.out.2.1
   have D5:w5.heap[gD]?=some (.cells #[.int .i64 ((zd x 0:Nat):Int),.int .i64 ((zd x 1:Nat):Int),.int .i64 0,.int .i64 0,.int .i64 0] 51 (0,0)):=(b5.block _ (xa hI.out.2.2.1)).trans hI.out.2.2.1
   have hfit:=qa hI.out.2.2.2
   clear hI b5;by_cases hm:N<=1099511627776
   ·have hmI:¬ (1099511627776:Int)<(N:Int):=by omega
    have hwr:=Zp N hm
    obtain⟨⟨z0,z1,z2,z3,z4⟩,zf⟩:=QS D5;have g0:=zf 2
    have FIN:Hid (qgc w w.heap.size gD 51 51 x (2+1) (w5.setCell ⟨gD,2,none⟩ (.int .i64 (N:Int)))):=by
     refine⟨c5.setCell (p:=⟨gD,2,none⟩) (xZ hgR) _,?_,?_,fun j hj=>?_⟩
     ·rw[xd _ _ _ _ (Nat.ne_of_lt hgR)];exact R5
     ·show (_:Option Obj)=some (Obj.cells #[.int .i64 ((zd x 0:Nat):Int),.int .i64 ((zd x 1:Nat):Int),.int .i64 ((zd x 2:Nat):Int),.int .i64 0,.int .i64 0] 51 (0,0))
      rw[hNs.out];simp[World.setCell,Xc,D5]
     by_cases hj':j=2
     ·subst hj';rw[hNs.out];exact hm
     exact hfit.out j (by omega)
    clear R5 D5 c5 zf;go_wp2;go_roundw
    case rel=>exact⟨2+1,by omega,by go_num,FIN⟩
    case measure=>simp[intOf]
   have hmI:(1099511627776:Int)<(N:Int):=by omega
   have hS:=qa (qav ho.out (i:=2) (by omega) (by rw[hNs.out];omega))
   obtain⟨⟨r0,r1,r2,r3,r4⟩,rf⟩:=QS R5;have f0:=rf 0
   have f1:=rf 1
   have f2:=rf 2
   have f3:=rf 3
   have f4:=rf 4
   go_wp2;refine QD rfl rfl w.heap.size rfl _ _ (0,0) (QH (u:=w5) R5 _ _ _ _ _) _ XM rfl Zy _ rfl ?_;rw[hS.out];exact⟨rfl,Qr c5 (xc _) _ _ _ _ _⟩
  ·have hq:(36:Int)<=(c:Int):=by omega
   have hn:¬ c=28:=by omega
   have KG:=qa (jM wr _ _ ((hRR 28 36 (by omega) (by omega)).to hI.out.1) (by rw[xE,xp];omega) (by rw[xE,xp];omega))
   obtain⟨N,hN⟩:∃ N,N=Qg ((x.take 36).drop 28):=⟨_,rfl⟩;have hNs:zd x 3=N:=hN.symm
   rw[<-hN] at KG;replace hN:=qa hN;replace hNs:=qa hNs
   go_wp2_with fail
   refine KG.out.mono ?_;rintro e w5 ⟨rfl,b5⟩;clear KG;have c5:=hI.out.1.trans (b5.mono hI.out.1.size)
   have R5:=(b5.block _ (xa hI.out.2.1)).trans hI.out.2.1
   have D5:w5.heap[gD]?=some (.cells #[.int .i64 ((zd x 0:Nat):Int),.int .i64 ((zd x 1:Nat):Int),.int .i64 ((zd x 2:Nat):Int),.int .i64 0,.int .i64 0] 51 (0,0)):=(b5.block _ (xa hI.out.2.2.1)).trans hI.out.2.2.1
   have hfit:=qa hI.out.2.2.2
   clear hI b5;by_cases hm:N<=1099511627776
   ·have hmI:¬ (1099511627776:Int)<(N:Int):=by omega
    have hwr:=Zp N hm
    obtain⟨⟨z0,z1,z2,z3,z4⟩,zf⟩:=QS D5;have g0:=zf 3
    have FIN:Hid (qgc w w.heap.size gD 51 51 x (3+1) (w5.setCell ⟨gD,3,none⟩ (.int .i64 (N:Int)))):=by
     refine⟨c5.setCell (p:=⟨gD,3,none⟩) (xZ hgR) _,?_,?_,fun j hj=>?_⟩
     ·rw[xd _ _ _ _ (Nat.ne_of_lt hgR)];exact R5
     ·show (_:Option Obj)=some (Obj.cells #[.int .i64 ((zd x 0:Nat):Int),.int .i64 ((zd x 1:Nat):Int),.int .i64 ((zd x 2:Nat):Int),.int .i64 ((zd x 3:Nat):Int),.int .i64 0] 51 (0,0))
      rw[hNs.out];simp[World.setCell,Xc,D5]
     by_cases hj':j=3
     ·subst hj';rw[hNs.out];exact hm
     exact hfit.out j (by omega)
    clear R5 D5 c5 zf;go_wp2;go_roundw
    case rel=>exact⟨3+1,by omega,by go_num,FIN⟩
    case measure=>simp[intOf]
   have hmI:(1099511627776:Int)<(N:Int):=by omega
   have hS:=qa (qav ho.out (i:=3) (by omega) (by rw[hNs.out];omega))
   obtain⟨⟨r0,r1,r2,r3,r4⟩,rf⟩:=QS R5;have f0:=rf 0
   have f1:=rf 1
   have f2:=rf 2
   have f3:=rf 3
   have f4:=rf 4
   go_wp2;refine QD rfl rfl w.heap.size rfl _ _ (0,0) (QH (u:=w5) R5 _ _ _ _ _) _ XM rfl Zy _ rfl ?_;rw[hS.out];exact⟨rfl,Qr c5 (xc _) _ _ _ _ _⟩
  ·have hq:(44:Int)<=(c:Int):=by omega
   have hn:¬ c=36:=by omega
   have KG:=qa (jM wr _ _ ((hRR 36 44 (by omega) (by omega)).to hI.out.1) (by rw[xE,xp];omega) (by rw[xE,xp];omega))
   obtain⟨N,hN⟩:∃ N,N=Qg ((x.take 44).drop 36):=⟨_,rfl⟩;have hNs:zd x 4=N:=hN.symm
   rw[<-hN] at KG;replace hN:=qa hN;replace hNs:=qa hNs
   go_wp2_with fail
   refine KG.out.mono ?_;rintro e w5 ⟨rfl,b5⟩;clear KG;have c5:=hI.out.1.trans (b5.mono hI.out.1.size)
   have R5:=(b5.block _ (xa hI.out.2.1)).trans hI.out.2.1
   have D5:w5.heap[gD]?=some (.cells #[.int .i64 ((zd x 0:Nat):Int),.int .i64 ((zd x 1:Nat):Int),.int .i64 ((zd x 2:Nat):Int),.int .i64 ((zd x 3:Nat):Int),.int .i64 0] 51 (0,0)):=(b5.block _ (xa hI.out.2.2.1)).trans hI.out.2.2.1
   have hfit:=qa hI.out.2.2.2
   clear hI b5;by_cases hm:N<=1099511627776
   ·have hmI:¬ (1099511627776:Int)<(N:Int):=by omega
    have hwr:=Zp N hm
    obtain⟨⟨z0,z1,z2,z3,z4⟩,zf⟩:=QS D5;have g0:=zf 4
    have FIN:Hid (qgc w w.heap.size gD 51 51 x (4+1) (w5.setCell ⟨gD,4,none⟩ (.int .i64 (N:Int)))):=by
     refine⟨c5.setCell (p:=⟨gD,4,none⟩) (xZ hgR) _,?_,?_,fun j hj=>?_⟩
     ·rw[xd _ _ _ _ (Nat.ne_of_lt hgR)];exact R5
     ·show (_:Option Obj)=some (Obj.cells #[.int .i64 ((zd x 0:Nat):Int),.int .i64 ((zd x 1:Nat):Int),.int .i64 ((zd x 2:Nat):Int),.int .i64 ((zd x 3:Nat):Int),.int .i64 ((zd x 4:Nat):Int)] 51 (0,0))
      rw[hNs.out];simp[World.setCell,Xc,D5]
     by_cases hj':j=4
     ·subst hj';rw[hNs.out];exact hm
     exact hfit.out j (by omega)
    clear R5 D5 c5 zf;go_wp2;go_roundw
    case rel=>exact⟨4+1,by omega,by go_num,FIN⟩
    case measure=>simp[intOf]
   have hmI:(1099511627776:Int)<(N:Int):=by omega
   have hS:=qa (qav ho.out (i:=4) (by omega) (by rw[hNs.out];omega))
   obtain⟨⟨r0,r1,r2,r3,r4⟩,rf⟩:=QS R5;have f0:=rf 0
   have f1:=rf 1
   have f2:=rf 2
   have f3:=rf 3
   have f4:=rf 4
   go_wp2;refine QD rfl rfl w.heap.size rfl _ _ (0,0) (QH (u:=w5) R5 _ _ _ _ _) _ XM rfl Zy _ rfl ?_;rw[hS.out];exact⟨rfl,Qr c5 (xc _) _ _ _ _ _⟩
  have R5:=hI.out.2.1
  have D5:wr.heap[gD]?=some (.cells #[.int .i64 ((zd x 0:Nat):Int),.int .i64 ((zd x 1:Nat):Int),.int .i64 ((zd x 2:Nat):Int),.int .i64 ((zd x 3:Nat):Int),.int .i64 ((zd x 4:Nat):Int)] 51 (0,0)):=hI.out.2.2.1
  have c5:=hI.out.1
  have hS:=qa (qrv ho.out (fun i hi=>hI.out.2.2.2 i hi))
  obtain⟨⟨z0,z1,z2,z3,z4⟩,_⟩:=QS D5;obtain⟨⟨r0,r1,r2,r3,r4⟩,rf⟩:=QS R5;have f0:=rf 0
  have f1:=rf 1
  have f2:=rf 2
  have f3:=rf 3
  have f4:=rf 4
  go_wp2;refine QD rfl rfl w.heap.size rfl _ _ (0,0) (QH (u:=wr) R5 _ _ _ _ _) _ XM rfl Zy _ rfl ?_;rw[hS.out];exact⟨rfl,Qr c5 (xc _) _ _ _ _ _⟩
 have hbe:(E != 0)=true:=by simpa using h0
 have hS:=qa (qma (x:=x) (by rw[<-hE];exact h0))
 replace h0:=qa h0;have hE':=qa hE
 clear hE;go_wp2;refine QD rfl rfl w.heap.size rfl _ _ (0,0) (QH (u:=w1) X1 _ _ _ _ _) _ XM rfl Zy _ rfl ?_;rw[hS.out];exact⟨by rw[<-hE'.out];rfl,Qr c1 (xc _) _ _ _ _ _⟩
theorem OwnB.set {xs:List UInt8} (h:OwnB B w v xs) {a:Addr} (ha:v.ownBlock≠some a.block) (u:Value):OwnB B (w.setCell a u) v xs:=by
 refine⟨h.1,?_⟩;rcases h.2 with hn|⟨g',cap,cur,hv,hb,hgg,r⟩
 ·exact .inl hn
 refine .inr ⟨g',cap,cur,hv,hb,(xd _ _ _ _ (fun e=>ha (by rw[hv];simp[Value.ownBlock,e]))).trans hgg,r⟩
abbrev SKeep:Shp (List Bool):=Shp.list 4 Shp.bool
open Go.ChangeShapes Go.WideShapes Go.ChangeAt Go.RowKit
theorem own:ownKnob Tryz.prog.godebug=none:=by kernel_rfl
theorem qct:laidOutB Tryz.prog=true:=by kernel_rfl
def octs (zs:List Int):List UInt8:=zs.map fun z=>UInt8.ofNat z.toNat
theorem qa3 {H:Type} (d:DataW H):1<=Rows.uptoBulk d:=by
 cases d with
 | lit l=>cases l<;>simp[Rows.uptoBulk]
 | nil=>simp[Rows.uptoBulk]
 | ptr d=>simp[Rows.uptoBulk]
 | slice el sp=>simp[Rows.uptoBulk]
 | agg ps=>simp[Rows.uptoBulk]
 | iface t d=>simp[Rows.uptoBulk]
 | map es=>simp[Rows.uptoBulk]
 | held h=>simp[Rows.uptoBulk]
structure Opens {α : Type} (s:Shp α) (t:TypeId) (fits : α -> Prop) (bulk : α -> Nat):Prop where
 cells:Tryz.prog.cellsOf t=s.n
 opened:∀ {H:Type} {enc:TypeId×Value->H} {W:World} {fuel:Nat} {cs:List Value} {x:DataW H×List MemPlace},DataW.trod enc Tryz.prog W 0 (fun _=>true) true fuel t cs=some x ->
  ∃ a,s.rd W cs a/\((∀ n∈x.1.weights Tryz.prog t,n<=reachBytes)->fits a)/\bulk a<=Rows.uptoBulk x.1
theorem qk6 {k:IntKind} (ht:Tryz.prog.underlying t=some (.int k)) (hc:Tryz.prog.cellsOf t=1):Opens (Shp.int k) t (fun _=>True) (fun _=>1):=by
 refine⟨hc,fun{H enc W fuel cs x} h=>?_⟩;obtain⟨z,hz,_,_⟩:=DataW.trod_int ht h;exact⟨z,hz,fun _=>trivial,qa3 _⟩
theorem qhk (ht:Tryz.prog.underlying t=some .bool) (hc:Tryz.prog.cellsOf t=1):Opens Shp.bool t (fun _=>True) (fun _=>1):=by
 refine⟨hc,fun{H enc W fuel cs x} h=>?_⟩;obtain⟨b,hb,_⟩:=DataW.trod_bool ht h;exact⟨b,hb,fun _=>trivial,qa3 _⟩
theorem vS {α : Type} {p:Nat -> α -> Prop}:∀ n:Nat,(∀ i,i<n->∃ x,p i x)->∃ xs:List α,xs.length=n/\∀ i x,xs[i]?=some x->p i x
 | 0,_=>⟨[],rfl,fun i x h=>by simp at h⟩
 | n+1,h=>by
  obtain⟨xs,h1,h2⟩:=vS n fun i hi=>h i (by omega)
  obtain⟨x,hx⟩:=h n (by omega)
  refine⟨xs++[x],by simp[h1],fun i y hy=>?_⟩
  by_cases e:i<n
  ·rw[Xu (by omega)] at hy
   exact h2 i y hy
  rw[xY (by omega)] at hy
  have hi:i-xs.length=0:=by
   have:=(xn.1 hy).1
   simp at this;omega
  rw[hi] at hy;simp at hy;subst hy;obtain rfl:i=n:=by omega
  exact hx
theorem qad {H:Type} {e:TypeId} {d:DataW H} {l:List (DataW H)} (hd:d∈l) {n:Nat} (hn:n∈d.weights Tryz.prog e):n∈DataW.weightsAll Tryz.prog e l:=by
 induction l with
 | nil=>cases hd
 | cons x r ih =>
  simp only[DataW.weightsAll,xu];rcases xU.1 hd with h|h
  ·subst h;exact .inl hn
  exact .inr (ih h)
theorem qff {H α : Type} (bulk : α -> Nat):∀ (xs:List α) (D:Nat->DataW H),(∀ i x,xs[i]?=some x->bulk x<=Rows.uptoBulk (D i))->(xs.map bulk).sum<=Rows.uptoBulkAll ((List.range xs.length).map D)
 | [],_,_=>by simp
 | x::xs,D,h=>by
  simp only[xC,List.range_succ_eq_map,Xn,List.map_map,kf,Rows.uptoBulkAll];have h0:=h 0 x rfl
  have:=qff bulk xs (D∘Nat.succ) fun i y hy=>h (i+1) y (by simpa using hy)
  omega
theorem Opens.list {α : Type} {s:Shp α} {e t T bts:Nat} {fits : α -> Prop} {bulk : α -> Nat} (o:Opens s e fits bulk) (ht:Tryz.prog.underlying t=some (.slice e)) (hc:Tryz.prog.cellsOf t=1) (hb:Tryz.prog.bytesOf e=bts) (hn:0<s.n) :
 Opens (Shp.list T s) t (fun xs=>xs.length*bts<=140737488351232/\∀ x∈xs,fits x) (fun xs=>(xs.map bulk).sum):=by
 refine⟨hc,fun{H enc W fuel cs x} h=>?_⟩;rcases Deep.open_slice ht h with ⟨rfl,rfl⟩|⟨a,len,cap,m,n,D,Pl,rfl,_,hl,hm,hmm,rfl,hx⟩
 ·exact⟨[],⟨_,rfl,RdS.nil _ _⟩,fun _=>⟨by simp,fun x hx=>by cases hx⟩,by simp⟩
 simp only[kS] at hmm;subst hmm
 have each:∀ i,i<len->∃ x,(∃ c,s.rd W c x/\∀ j u,c[j]?=some u->W.cell? ((a.add (i*s.n)).add j)=some u)/\((∀ n∈(D i).weights Tryz.prog e,n<=reachBytes)->fits x)/\bulk x<=Rows.uptoBulk (D i):=by
  intro i hi;obtain⟨cs',h1,h2⟩:=hx i (by omega)
  obtain⟨x,hr,hf,hbk⟩:=o.opened h2;rw[o.cells] at h1;obtain⟨_,hlen,hcell⟩:=World.cells?_some h1;refine⟨x,⟨cs',hr,fun j u hj=>?_⟩,hf,hbk⟩;have hjl:j<cs'.length:=(xn.1 hj).1
  have:=hcell j (by omega)
  rw[this];exact hj
 obtain⟨xs,h1,h2⟩:=vS len each;refine⟨xs,⟨_,rfl,some a,m,by rw[h1],by omega,hm,(fun h=>by cases h),?_⟩,fun hw=>⟨?_,fun x hx'=>?_⟩,?_⟩
 ·by_cases h0:len=0
  ·left;exact xq (by omega)
  right
  obtain⟨b,off,spot⟩:=a;obtain⟨x0,hx0⟩:∃ x0,xs[0]?=some x0:=⟨_,xg (by omega)⟩
  obtain⟨⟨c,hr,hc'⟩,_⟩:=h2 0 x0 hx0;have hcl:=s.rd_n hr
  obtain⟨u0,hu0⟩:∃ u0,c[0]?=some u0:=⟨_,xg (by omega)⟩
  have hspot:spot=none:=by
   have:=World.cell?_spot (hc' 0 u0 hu0)
   simpa[Addr.add] using this
  subst hspot;refine⟨b,off,rfl,fun i x hxi=>?_⟩;obtain⟨⟨c,hr,hc'⟩,_⟩:=h2 i x hxi;refine⟨c,hr,fun j u hj=>?_⟩;have:=hc' j u hj
  have ea:((⟨b,off,none⟩:Addr).add (i*s.n)).add j=⟨b,off+i*s.n+j,none⟩:=by
   rw[Deep.add_add];unfold Addr.add
   split<;>simp_all[Nat.add_assoc]
  rw[ea] at this;exact this
 ·have:=hw ((len+(m-len))*bts) (by simp[DataW.weights,ht,hb])
  simp only[reachBytes] at this;rw[h1];have h3:len*bts<=(len+(m-len))*bts:=Nat.mul_le_mul_right _ (by omega)
  omega
 ·obtain⟨i,hi,e⟩:=Xw hx';have hxi:xs[i]?=some x:=by rw[xg hi,e]
  refine(h2 i x hxi).2.1 fun n hn=>hw n ?_;simp only[DataW.weights,ht,xU,xu]
  right;left
  exact qad (d:=D i) (Xx.2 ⟨i,List.mem_range.2 (by omega),rfl⟩) hn
 have:=qff bulk xs D fun i x hxi=>(h2 i x hxi).2.2
 rw[h1] at this;simp only[Rows.uptoBulk];omega
theorem Opens.pair {α β : Type} {s:Shp α} {r:Shp β} {f0 f1:Field} {fa : α -> Prop} {fb : β -> Prop} {ba : α -> Nat} {bb : β -> Nat} (o:Opens s f0.type fa ba) (q:Opens r f1.type fb bb) (ht:Tryz.prog.underlying t=some (.struct #[f0,f1])) (hc:Tryz.prog.cellsOf t=s.n+r.n) (h0:f0.offset=0) (h1:f1.offset=s.n) :
 Opens (s.pair r) t (fun z=>fa z.1/\fb z.2) (fun z=>ba z.1+bb z.2):=by
 refine⟨hc,fun{H enc W fuel cs x} h=>?_⟩;obtain⟨xs,k,hk,hxy,hlen,hxl,hf⟩:=DataW.trod_struct ht h
 match xs,hxl with
 | [y0,y1],_ =>
  have g0:=hf 0 f0 rfl
  have g1:=hf 1 f1 rfl
  rw[h0,o.cells,Kn] at g0;rw[h1,q.cells] at g1;obtain⟨a,ra,fa',ba'⟩:=o.opened (x:=y0) (by simpa using g0)
  obtain⟨b,rb,fb',bb'⟩:=q.opened (x:=y1) (by simpa using g1)
  have hcs:cs=cs.take s.n++(cs.drop s.n).take r.n:=by
   have:(cs.drop s.n).take r.n=cs.drop s.n:=xx (by rw[xE,hlen,hc];omega)
   rw[this,x7]
  obtain⟨d,p⟩:=x;simp only[K8] at hxy;obtain⟨rfl,_⟩:=hxy;refine⟨(a,b),⟨_,_,hcs,ra,rb⟩,fun hw=>⟨fa' fun n hn=>hw n ?_,fb' fun n hn=>hw n ?_⟩,?_⟩
  ·simp only[DataW.weights,ht];exact Ka (j:=0) (t:=f0.type) (d:=y0.1) rfl rfl n hn
  ·simp only[DataW.weights,ht];exact Ka (j:=1) (t:=f1.type) (d:=y1.1) rfl rfl n hn
  simp only[Xn,List.map_nil,Rows.uptoBulk,Rows.uptoBulkAll];omega
theorem qa2 {H:Type} {ts:List TypeId} {ds:List (DataW H)} (hsz:(DataW.weightsEach Tryz.prog ts ds).all (· <= reachBytes)=true) {j:Nat} {d:DataW H} (ht:ts[j]?=some t) (hd:ds[j]?=some d):∀ n∈d.weights Tryz.prog t,n<=reachBytes:=by
 intro n hn;have:=XR.1 hsz _ (Ka ht hd _ hn)
 simpa using this
theorem Opens.three {α β γ : Type} {s:Shp α} {r:Shp β} {u:Shp γ} {f0 f1 f2:Field} {fa : α -> Prop} {fb : β -> Prop} {fc : γ -> Prop} {ba : α -> Nat} {bb : β -> Nat} {bc : γ -> Nat} (o:Opens s f0.type fa ba) (q:Opens r f1.type fb bb) (p:Opens u f2.type fc bc)
 (ht:Tryz.prog.underlying t=some (.struct #[f0,f1,f2])) (hc:Tryz.prog.cellsOf t=s.n+(r.n+u.n)) (h0:f0.offset=0) (h1:f1.offset=s.n) (h2:f2.offset=s.n+r.n) :
 Opens (s.pair (r.pair u)) t (fun z=>fa z.1/\(fb z.2.1/\fc z.2.2)) (fun z=>ba z.1+(bb z.2.1+bc z.2.2)):=by
 refine⟨hc,fun{H enc W fuel cs x} h=>?_⟩;obtain⟨xs,k,hk,hxy,hlen,hxl,hf⟩:=DataW.trod_struct ht h
 match xs,hxl with
 | [y0,y1,y2],_ =>
  have g0:=hf 0 f0 rfl
  have g1:=hf 1 f1 rfl
  have g2:=hf 2 f2 rfl
  rw[h0,o.cells,Kn] at g0;rw[h1,q.cells] at g1;rw[h2,p.cells] at g2;obtain⟨a,ra,fa',ba'⟩:=o.opened (x:=y0) (by simpa using g0)
  obtain⟨b,rb,fb',bb'⟩:=q.opened (x:=y1) (by simpa using g1)
  obtain⟨c,rc,fc',bc'⟩:=p.opened (x:=y2) (by simpa using g2)
  have hcs:cs=cs.take s.n++((cs.drop s.n).take r.n++(cs.drop (s.n+r.n)).take u.n):=by
   have e1:(cs.drop (s.n+r.n)).take u.n=cs.drop (s.n+r.n):=xx (by rw[xE,hlen,hc];omega)
   rw[e1,<-List.drop_drop,x7,x7]
  obtain⟨d,pl⟩:=x;simp only[K8] at hxy;obtain⟨rfl,_⟩:=hxy;refine⟨(a,(b,c)),⟨_,_,hcs,ra,⟨_,_,rfl,rb,rc⟩⟩,fun hw=>⟨fa' fun n hn=>hw n ?_,fb' fun n hn=>hw n ?_,fc' fun n hn=>hw n ?_⟩,?_⟩
  ·simp only[DataW.weights,ht];exact Ka (j:=0) (t:=f0.type) (d:=y0.1) rfl rfl n hn
  ·simp only[DataW.weights,ht];exact Ka (j:=1) (t:=f1.type) (d:=y1.1) rfl rfl n hn
  ·simp only[DataW.weights,ht];exact Ka (j:=2) (t:=f2.type) (d:=y2.1) rfl rfl n hn
  simp only[Xn,List.map_nil,Rows.uptoBulk,Rows.uptoBulkAll];omega
abbrev Sp3:=Int×(Str×Str)
abbrev SStep10:Shp Sp3:=(Shp.int .i64).pair (Shp.str.pair Shp.str)
abbrev SSteps10:Shp (List Sp3):=Shp.list 33 SStep10
theorem qan:Opens Shp.str 9 (fun x=>x.length<=maxLen) (fun _=>1):=by
 refine⟨by kernel_rfl,fun{H enc W fuel cs x} h=>?_⟩
 obtain⟨s,hs,_,hl⟩:=DataW.trod_string Kw h;exact⟨s.data.toList,by rw[hs];rfl,fun _=>by simpa using hl,qa3 _⟩
def vd (z:Sp3):Prop:=True/\(z.2.1.length<=maxLen/\z.2.2.length<=maxLen)
theorem open_step10:Opens SStep10 33 vd (fun _=>1+(1+1)) :=
 Opens.three (qk6 X8 (by kernel_rfl)) qan qan Tryz.underlying33 (by kernel_rfl) rfl rfl rfl
theorem open_steps10:Opens SSteps10 22 (fun xs=>xs.length*40<=140737488351232/\∀ x∈xs,vd x) (fun xs=>(xs.map (fun _=>1+(1+1))).sum) :=
 open_step10.list Tryz.underlying22 (by kernel_rfl) (by kernel_rfl) (by decide)
abbrev qr1 (w:World) (v:Value) (l:List Sp3):Prop:=RdS SStep10 w v l
theorem RdS.spAt {a:Option Addr} {n cap:Nat} {l:List Sp3} (h:qr1 w (.slice a n cap) l) {y:Sp3} (hy:l[i]?=some y) :
 ∃ b off,a=some ⟨b,off,none⟩/\w.cell? ⟨b,off+i*3,none⟩=some (.int .i64 y.1)/\w.cell? ⟨b,off+i*3+1,none⟩=some (st y.2.1)/\w.cell? ⟨b,off+i*3+2,none⟩=some (st y.2.2):=by
 obtain⟨ao,c,e,h1,h2,h3,h4⟩:=h;cases e
 rcases h4 with rfl|⟨b,off,rfl,hc⟩
 ·simp at hy
 obtain⟨c,⟨c1,c2,rfl,k1,⟨c3,c4,rfl,k3,k4⟩⟩,k2⟩:=hc i y hy;have e1:c1=[Value.int .i64 y.1]:=k1
 have e3:c3=[st y.2.1]:=k3
 have e4:c4=[st y.2.2]:=k4
 subst e1 e3 e4;rw[show SStep10.n=3 from rfl] at k2;exact⟨b,off,rfl,by simpa using k2 0 _ rfl,by simpa using k2 1 _ rfl,by simpa using k2 2 _ rfl⟩
theorem open_bools:Opens SKeep 23 (fun xs=>xs.length*1<=140737488351232/\∀ x∈xs,True) (fun xs=>(xs.map (fun _=>1)).sum) :=
 (qhk Tryz.underlying4 (by kernel_rfl)).list Tryz.underlying23 (by kernel_rfl) (by kernel_rfl) (by decide)
end Go.Proofs.YtfjadfnjmpefkaaGreat
