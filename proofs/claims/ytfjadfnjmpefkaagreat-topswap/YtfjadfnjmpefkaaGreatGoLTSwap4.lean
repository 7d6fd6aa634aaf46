/- What TopSwap rests on. -/
import Derived.Deep.CutRange
import Derived.Test.YtfjadfnjmpefkaaGreatGoLTSwap2
import Derived.Test.YtfjadfnjmpefkaaGreatGoLTSwap1
import Derived.Deep.QuietTactic
import Derived.BigQuiet
import Derived.Laws.Cover1
import Derived.Deep.LoopGhost
import Derived.OwnWalkIn
import Derived.Test.YtfjadfnjmpefkaaGreatGoLTSwap3
set_option maxRecDepth 100000
set_option maxHeartbeats 8000000
set_option linter.unusedVariables false
set_option linter.unusedSimpArgs false
namespace Go.Proofs.YtfjadfnjmpefkaaGreat
theorem Kv:type_of% @Go.WalkArith.wf_i64:=@Go.WalkArith.wf_i64
theorem k6:type_of% @of_decide_eq_true:=@of_decide_eq_true
theorem kP.{u,v}:type_of% @List.getElem?_zip_eq_some.{u,v}:=@List.getElem?_zip_eq_some
theorem kJ.{u}:type_of% @List.pairwise_cons.{u}:=@List.pairwise_cons
theorem X6.{u}:type_of% @List.filter_append.{u}:=@List.filter_append
theorem XZ:type_of% @Go.Proofs.Tryz.underlying206:=@Go.Proofs.Tryz.underlying206
theorem XP.{u}:type_of% @List.mem_cons_self.{u}:=@List.mem_cons_self
theorem Xt:type_of% @Go.Proofs.Tryz.underlying27:=@Go.Proofs.Tryz.underlying27
theorem Xl:type_of% @Bool.not_eq_true':=@Bool.not_eq_true'
theorem Xg.{u}:type_of% @List.mem_cons_of_mem.{u}:=@List.mem_cons_of_mem
theorem Xa.{u}:type_of% @List.tail_cons.{u}:=@List.tail_cons
theorem xS:type_of% @Go.Proofs.Tryz.underlying77:=@Go.Proofs.Tryz.underlying77
variable {ops:Array Oper} {cs:Array Value} {D d0 id:Int} {S ds:List Int} {rest:List Oper} {prs ps:List Pr} {ks:List Str} {x xs:List UInt8} {cc:List Value} {l l' ws:List Wrt} {B L T b bm d e f g gc i j k m nb s:Nat} {n nd:Nd} {o:Oper} {r:Rr} {a c lo':Str} {t:Tr} {av c0 c1 c2 c3 kv pv v vv y:Value} {U V u w w' w0 w5 wr wx:World}
theorem qB4:type_of% (xb @List.setIfInBounds_toArray.{0} (xb @List.set_cons_zero.{0} (@List.set_cons_succ.{0}))):=xb @List.setIfInBounds_toArray.{0} (xb @List.set_cons_zero.{0} (@List.set_cons_succ.{0}))
open Go.RowKit
theorem Yg (h:(Q4 s r).short=false):r.short=false/\Q4 s r=rst s r/\jD s r=rtk s r:=by
 unfold Q4 at h;by_cases hs:r.short=true
 ·rw[xj hs,hs] at h;cases h
 have hs':r.short=false:=by simpa using hs
 unfold Q4 jD;rw[xh hs,xh hs];exact⟨hs',rfl,rfl⟩
theorem zK (h:r.short=false):Q4 s r=rst s r/\jD s r=rtk s r/\Zc s r=qQ s r:=by
 have:¬ r.short=true:=by rw[h];decide
 unfold Q4 Zc qQ jD;rw[xh this,xh this];exact⟨rfl,rfl,rfl⟩
theorem qnh {t:TypeId} (h:w.heap[g]?=some (.cells cs t (0,0))) (i:Nat):w.frozen? ⟨g,i,none⟩=false:=by simp[World.frozen?,h]
def txS (r:Rr):Str:=jD (Zc 1 r) (Q4 1 r)
def tsS (r:Rr):Rr:=Q4 (Zc 1 r) (Q4 1 r)
theorem VQ (h:(tsS r).short=false):r.short=false/\tsS r=rts r/\txS r=rtx r:=by
 unfold tsS at h;obtain⟨h1,h2,h3⟩:=Yg h;obtain⟨h4,h5,h6⟩:=Yg h1;have h7:=(zK (s:=1) h4).2.2
 refine⟨h4,?_,?_⟩
 ·unfold tsS rts;rw[h2,h7,h5]
 unfold txS rtx;rw[h3,h7,h5]
theorem qdh (h:r.short=false) (hb:(tsS r).short=true):(rts r).short=true:=by
 obtain⟨e1,_,e3⟩:=zK (s:=1) h;unfold tsS at hb;rw[e1,e3] at hb;unfold rts;cases hq:(rst 1 r).short with
 | true=>exact ZL hq
 | false=>rw[(zK hq).1] at hb;exact hb
def rk2:Nat->Rr->Nd->Nd×Rr
 | 0,r,n=>(n,r)
 | k+1,r,n=>rk2 k (rst 4 (rts r)) ⟨n.leaf,n.keys++[rtx r],n.vals,n.kids++[((qQ 4 (rts r):Nat):Int)]⟩
theorem qb1:∀ (k:Nat) (r:Rr) (n:Nd),zj k r n=rk2 k (rst 4 r) ⟨n.leaf,n.keys,n.vals,n.kids++[((qQ 4 r:Nat):Int)]⟩
 | 0,r,n=>rfl
 | k+1,r,n=>by
  rw[zj,qb1 k];rfl
theorem vr:∀ (k:Nat) (r:Rr) (n:Nd),r.short=true->(rk2 k r n).2.short=true
 | 0,r,n,h=>h
 | k+1,r,n,h=>vr k _ _ (ZL (yw h))
theorem qbd {p:Nd×Rr} (h:p.2.short=true):(zV p).2≠0:=by unfold zV;rw[xj h];decide
def GP (xs:List UInt8) (j:Nat) (r:Rr) (n:Nd):Prop:=(r.short=false/\qW xs=zV (QU j r n))\/(r.short=true/\(qW xs).2≠0)
def GK (xs:List UInt8) (j:Nat) (r:Rr) (n:Nd):Prop:=(r.short=false/\qW xs=zV (rk2 j r n))\/(r.short=true/\(qW xs).2≠0)
theorem GP.next (h:GP xs (j+1) r n) (hs:r.short=false):GP xs j (tsS (tsS r)) ⟨n.leaf,n.keys++[txS r],n.vals++[txS (tsS r)],n.kids⟩:=by
 rcases h with ⟨_,h⟩|⟨h,_⟩
 ·rw[QU] at h;cases hq:(tsS (tsS r)).short with
  | false =>
   obtain⟨a1,a2,a3⟩:=VQ hq;obtain⟨b1,b2,b3⟩:=VQ a1
   left
   refine⟨hq,?_⟩;rw[a2,a3,b2,b3];exact h
  | true =>
   right
   refine⟨hq,?_⟩;rw[h];apply qbd;apply Yj;cases hr:(tsS r).short with
   | true=>exact yw (qdh hs hr)
   | false =>
    have:=qdh hr hq
    rw[(VQ hr).2.1] at this;exact this
 rw[hs] at h;cases h
theorem GK.next (h:GK xs (j+1) r n) (hs:r.short=false):GK xs j (Q4 4 (tsS r)) ⟨n.leaf,n.keys++[txS r],n.vals,n.kids++[((Zc 4 (tsS r):Nat):Int)]⟩:=by
 rcases h with ⟨_,h⟩|⟨h,_⟩
 ·rw[rk2] at h;cases hq:(Q4 4 (tsS r)).short with
  | false =>
   obtain⟨a1,a2,_⟩:=Yg hq;have a3:=(zK (s:=4) a1).2.2
   obtain⟨b1,b2,b3⟩:=VQ a1
   left
   refine⟨hq,?_⟩;rw[a2,a3,b2,b3];exact h
  | true =>
   right
   refine⟨hq,?_⟩;rw[h];apply qbd;apply vr;cases hr:(tsS r).short with
   | true=>exact ZL (qdh hs hr)
   | false =>
    rw[(zK hr).1,(VQ hr).2.1] at hq;exact hq
 rw[hs] at h;cases h
theorem GP.start (hm:qQ 1 ⟨xs,false⟩=1):GP xs (Zc 1 (Q4 1 ⟨xs,false⟩)) (Q4 1 (Q4 1 ⟨xs,false⟩)) ⟨true,[],[],[]⟩:=by
 have e1:=zK (s:=1) (r:=⟨xs,false⟩) rfl
 rw[e1.1];cases hq:(Q4 1 (rst 1 ⟨xs,false⟩)).short with
 | false =>
  obtain⟨a1,a2,_⟩:=Yg hq;have a3:=(zK (s:=1) a1).2.2
  left
  refine⟨hq,?_⟩;rw[a2] at hq |-;rw[a3];exact Jv hq hm
 | true =>
  right
  refine⟨hq,?_⟩
  have:(rst 1 (rst 1 ⟨xs,false⟩)).short=true:=by
   cases hr:(rst 1 ⟨xs,false⟩).short with
   | true=>exact ZL hr
   | false=>rw[(zK hr).1] at hq;exact hq
  rw[zR this]
  decide
theorem GK.start (hm:qQ 1 ⟨xs,false⟩=0):GK xs (Zc 1 (Q4 1 ⟨xs,false⟩)) (Q4 4 (Q4 1 (Q4 1 ⟨xs,false⟩))) ⟨false,[],[],[((Zc 4 (Q4 1 (Q4 1 ⟨xs,false⟩)):Nat):Int)]⟩:=by
 have e1:=zK (s:=1) (r:=⟨xs,false⟩) rfl
 rw[e1.1];cases hp:(Q4 1 (rst 1 ⟨xs,false⟩)).short with
 | false =>
  obtain⟨a1,a2,_⟩:=Yg hp;have a3:=(zK (s:=1) a1).2.2
  obtain⟨c1,_,c3⟩:=zK (s:=4) hp;rw[c1,c3,a2,a3];rw[a2] at hp;have hn:=jO hp hm
  rw[qb1] at hn;cases hq:(rst 4 (rst 1 (rst 1 ⟨xs,false⟩))).short with
  | false=>exact .inl ⟨hq,hn⟩
  | true=>exact .inr ⟨hq,by rw[hn];exact qbd (vr _ _ _ hq)⟩
 | true =>
  right
  refine⟨qg2 hp,?_⟩
  have:(rst 1 (rst 1 ⟨xs,false⟩)).short=true:=by
   cases hr:(rst 1 ⟨xs,false⟩).short with
   | true=>exact ZL hr
   | false=>rw[(zK hr).1] at hp;exact hp
  rw[zR this]
  decide
theorem qm6 (h:1<qQ 1 ⟨xs,false⟩):(QJ xs).2≠0:=by
 have:(qW xs).2≠0:=by
  cases hs:(rst 1 (rst 1 ⟨xs,false⟩)).short with
  | true=>rw[zR hs];decide
  | false=>rw[Yb hs (by omega) (by omega)];decide
 unfold QJ;rw[xh this];exact this
theorem yG (h:(qW xs).2≠0):(QJ xs).2≠0:=by unfold QJ;rw[xh h];exact h
def DecR (xs:List UInt8) (n:Nd) (err:Int):Prop:=(err=0/\QJ xs=(n,0))\/(err≠0/\n=Qw/\(QJ xs).2≠0)
theorem DecR.fin (h:qW xs=zV (n,r)) (hs:r.short=false) (hr:r.rest.length=0):DecR xs (if qE n=0 then n else Qw) (qE n):=by
 have e:qW xs=(n,0):=by rw[h];unfold zV;dsimp only;rw[hs,xh (by decide),xh (by omega)]
 unfold DecR QJ;rw[e];by_cases hz:qE n=0
 ·rw[xj hz,hz];left;exact⟨rfl,by simp[hz]⟩
 right;exact⟨hz,xh hz,by simp[hz]⟩
theorem qkk (w:World) (v:Value) (xs:List UInt8) (h:Rd w v xs) :
 Calls Tryz.prog 129 #[v] w fun e w'=>∃ n err kv vv dv,e=.returned (.tuple #[nv n kv vv dv,.int .i64 err])/\DecR xs n err/\OwnN w.heap.size w' kv vv dv n/\Below w.heap.size w w':=by
 obtain⟨a,c,rfl⟩:=h.slice;obtain⟨i0,ii,iz0,iz1,iz2⟩:=Xh qmq;obtain⟨j0,ji,jz0,jz1,jz2⟩:=Xh qmg;have lxs:xs.length<=9223372036854775807:=by obtain⟨_,_,e,_,m1,_⟩:=h;simp only[xH] at e;unfold maxLen at m1;omega
 have HH:=qa h
 obtain⟨X,hX⟩:∃ X,X=((w.alloc (.cells #[.bool false,qm,qm,qm] 206)).alloc (.cells #[.slice a xs.length c,.int .i64 0,.bool false] 217)):=⟨_,rfl⟩;have bX:Below w.heap.size w X:=by rw[hX];exact((xm _ _).alloc (xc _) _).alloc (by simp) _
 have sX:X.heap.size=w.heap.size+1+1:=by rw[hX];simp
 have gX:X.heap[w.heap.size+1]?=some (.cells #[.slice a xs.length c,.int .i64 0,.bool false] 217 (0,0)):=by
  rw[hX];have:=xy (w.alloc (.cells #[.bool false,qm,qm,qm] 206)) (.cells #[.slice a xs.length c,.int .i64 0,.bool false] 217)
  simpa using this
 have rX:X.heap[w.heap.size]?=some (.cells #[.bool false,qm,qm,qm] 206 (0,0)):=by
  rw[hX,xR _ _ _ (by simp)];exact xy w _
 obtain⟨r0,hr0⟩:∃ r:Rr,r=⟨xs,false⟩:=⟨_,rfl⟩;have x0:RdrP w (w.heap.size+1) X xs r0:=by subst hr0;exact⟨a,c,xs.length,0,gX,h,rfl,xt _,by simp,bX,by omega⟩
 have K1:=qa (ZE w (w.heap.size+1) X xs r0 1 x0 (by decide))
 rw[(zK (s:=1) (r:=r0) (by rw[hr0])).2.2] at K1
 have RX:=qa (xb rX sX)
 have HR:=qa hr0
 clear bX gX rX x0 hr0 h sX;go_enter Tryz.func129,Tryz.ntmps129
 go_wp2_with fail
 rw[<-hX];replace hX:=qa hX;refine K1.out.mono ?_;rintro e w1 ⟨rfl,r1,k1⟩;clear K1;have RY:Hid (w1.heap[w.heap.size]?=some (.cells #[.bool false,qm,qm,qm] 206 (0,0))/\w.heap.size+1+1<=w1.heap.size):=⟨(k1.1 _ (by have:=RX.out.2;omega) (by omega)).trans RX.out.1,by have:=k1.2.1;have:=RX.out.2;omega⟩
 obtain⟨M,hM⟩:∃ M,M=qQ 1 r0:=⟨_,rfl⟩;rw[<-hM];replace hM:=qa hM;have R1:=qa r1
 have hML:M<256:=by rw[hM.out];exact yB 1 _
 obtain⟨ra,rc,rL,rat,hrd⟩:=r1;have C2:=(ql hrd.box).1.2.2
 have B1:=qa hrd.bel
 clear hrd k1 RX;by_cases m2:1<M
 ·have hs1:(Q4 1 r0).short=false:=by
   rw[(zK (s:=1) (r:=r0) (by rw[HR.out])).1]
   unfold rst;by_cases hl:r0.rest.length<1
   ·exfalso
    have:qQ 1 r0=0:=by unfold qQ rtk;rw[xj hl];rfl
    have:=hM.out
    omega
   rw[xh hl,HR.out]
  rw[hs1] at C2;have g1:decide ((1:Int)<(M:Int))=true:=xv (by omega)
  have g2:decide (1<M)=true:=xv m2
  have e:Hid (DecR xs Qw 22):=.inr ⟨by decide,rfl,qm6 (by rw[<-HR.out,<-hM.out];exact m2)⟩
  obtain⟨⟨Q0,Q1,Q2,Q3⟩,Rf⟩:=qb RY.out.1;have Rf0:=Rf 0
  have Rf1:=Rf 1
  have Rf2:=Rf 2
  have Rf3:=Rf 3
  clear Rf hs1;go_wp2;refine QD rfl rfl w.heap.size rfl _ _ (0,0) (qu (u:=w1) RY.out.1 _ _ _ _) _ XZ rfl zU (.int .i64 22) rfl ?_;exact⟨Qw,22,qm,qm,qm,rfl,e.out,OwnN.nil _ _ _,qn B1.out (xc _) _ _ _ _⟩
 go_upto_region 3 with fail
 go_cut [28] from 20 to 28 (fun s wx=>s=.bool false/\w1=wx)
 case first =>
  have g1:decide ((1:Int)<(M:Int))=false:=xw (by omega)
  have g2:decide (1<M)=false:=xw m2
  cases hb:(Q4 1 r0).short
  all_goals
   rw[hb] at C2;replace hb:=qa hb
   go_wp2_with fail
   all_goals (go_meet;exact⟨rfl,rfl⟩)
 case rest =>
 obtain⟨rfl,rfl⟩:=hcut;clear C2;have K2:=qa (ZE w (w.heap.size+1) w1 xs (Q4 1 r0) 1 R1.out (by decide))
 go_wp2_with fail
 refine K2.out.mono ?_;rintro e w2 ⟨rfl,r2,k2⟩;clear K2;have RZ:Hid (w2.heap[w.heap.size]?=some (.cells #[.bool false,qm,qm,qm] 206 (0,0))/\w.heap.size+1+1<=w2.heap.size):=⟨(k2.1 _ (by have:=RY.out.2;omega) (by omega)).trans RY.out.1,by have:=k2.2.1;have:=RY.out.2;omega⟩
 have hL:Zc 1 (Q4 1 r0)<256:=jY 1 _
 obtain⟨left,hleft⟩:∃ L,L=Zc 1 (Q4 1 r0):=⟨_,rfl⟩;rw[<-hleft] at hL |-;replace hleft:=qa hleft;obtain⟨r,hr⟩:∃ q,q=Q4 1 (Q4 1 r0):=⟨_,rfl⟩;rw[<-hr] at r2;replace hr:=qa hr;obtain⟨nb,hnb⟩:∃ nb,nb=w2.heap.size:=⟨_,rfl⟩
 have ST:Hid (∀ b:Bool,RStP w xs nb (w2.alloc (.cells #[.bool b,qm,qm,qm] 206)) qm qm qm ⟨b,[],[],[]⟩ r):=fun b=>by
  have bb:Below w2.heap.size w2 (w2.alloc (.cells #[.bool b,qm,qm,qm] 206)):=(xm _ _).alloc (xc _) _
  refine⟨r2.to bb,(bb.block _ (xa RZ.out.1)).trans RZ.out.1,by rw[hnb];exact xy w2 _,OwnN.nil _ _ _,by have:=RZ.out.2;omega,?_,?_,?_⟩<;>(intro k e;cases e)
 clear r2 k2 RY;rcases (show M=1\/M=0 by omega) with m1|m1
 ·subst m1;have S0:Hid (RStP w xs nb (w2.alloc (.cells #[.bool true,qm,qm,qm] 206)) qm qm qm ⟨true,[],[],[]⟩ r):=qa (ST.out true)
  clear ST;obtain⟨V,hV⟩:∃ V,V=w2.alloc (.cells #[.bool true,qm,qm,qm] 206):=⟨_,rfl⟩;rw[<-hV] at S0;have N0:=(qb S0.out.box).1.1
  have G0:Hid (GP xs left r ⟨true,[],[],[]⟩):=by
   rw[hleft.out,hr.out,HR.out];exact GP.start (by rw[<-HR.out,<-hM.out])
  rw[hV,hnb] at N0;go_wp2;rw[<-hV,<-hnb];replace hV:=qa hV;replace hnb:=qa hnb;clear N0
  go_loopw [8] (fun p wr=>∃ i:Nat,i<=left/\p=.int .i64 i/\Hid (∃ (kv vv dv:Value) (n:Nd) (r:Rr),RStP w xs nb wr kv vv dv n r/\GP xs (left-i) r n/\n.leaf=true/\n.keys.length+(left-i)<=256/\n.vals.length+(left-i)<=256/\n.kids.length+(left-i)<=257)) (fun p _=>left-(intOf p).toNat)
  case atStart=>exact⟨0,xt _,rfl,⟨_,_,_,_,_,S0.out,G0.out,rfl,by simp;omega,by simp;omega,by simp;omega⟩⟩
  case round =>
  obtain⟨i,hi,rfl,hI⟩:=hrel;obtain⟨kv,vv,dv,n,r,hs,hg,hlf,hb1,hb2,hb3⟩:=hI.out;obtain⟨ak,ck,av,cv,ad,cd,rfl,rfl,rfl⟩:=hs.own.rd.slices;have S0:=qa hs
  replace hlf:=qa hlf;obtain⟨ra,rc,rL,rat,hrd⟩:=hs.rdr;have C2:=(ql hrd.box).1.2.2
  clear hs hI;cases hsh:r.short with
  | true =>
   rw[hsh] at C2
   have hG:Hid ((qW xs).2≠0):=by
    rcases hg with ⟨h,_⟩|⟨_,h⟩
    ·rw[hsh] at h;cases h
    exact h
   clear hg hrd;replace hsh:=qa hsh;by_cases hlt:i<left
   ·have hq:(i:Int)<(left:Int):=by omega
    have RES:=qa S0.out.res
    have BEL:=qa S0.out.rdr.bel
    obtain⟨⟨Q0,Q1,Q2,Q3⟩,Rf⟩:=qb RES.out;have Rf0:=Rf 0
    have Rf1:=Rf 1
    have Rf2:=Rf 2
    have Rf3:=Rf 3
    clear Rf;have e:Hid (DecR xs Qw 8):=.inr ⟨by decide,rfl,yG hG.out⟩
    go_wp2;refine QD rfl rfl w.heap.size rfl _ _ (0,0) (qu (u:=wr) RES.out _ _ _ _) _ XZ rfl zU (.int .i64 8) rfl ?_;exact⟨Qw,8,qm,qm,qm,rfl,e.out,OwnN.nil _ _ _,qn BEL.out (xc _) _ _ _ _⟩
   have hq:¬ (i:Int)<(left:Int):=by omega
   have RES:=qa S0.out.res
   have BEL:=qa S0.out.rdr.bel
   obtain⟨⟨Q0,Q1,Q2,Q3⟩,Rf⟩:=qb RES.out;have Rf0:=Rf 0
   have Rf1:=Rf 1
   have Rf2:=Rf 2
   have Rf3:=Rf 3
   clear Rf;have e:Hid (DecR xs Qw 8):=.inr ⟨by decide,rfl,yG hG.out⟩
   go_wp2;refine QD rfl rfl w.heap.size rfl _ _ (0,0) (qu (u:=wr) RES.out _ _ _ _) _ XZ rfl zU (.int .i64 8) rfl ?_;exact⟨Qw,8,qm,qm,qm,rfl,e.out,OwnN.nil _ _ _,qn BEL.out (xc _) _ _ _ _⟩
  | false =>
   rw[hsh] at C2;replace hsh:=qa hsh;by_cases hlt:i<left
   ·have hq:(i:Int)<(left:Int):=by omega
    have g1:decide (i<left)=true:=xv hlt
    obtain⟨j,hj⟩:∃ j,left-i=j+1:=⟨left-i-1,by omega⟩
    rw[hj] at hg;have HG:=qa (GP.next hg hsh.out)
    clear hg hrd;replace hj:=qa hj
    go_wp2_with fail
    clear C2;have KN1:=qa (ZE w (w.heap.size+1) wr xs r 1 S0.out.rdr (by decide))
    obtain⟨m1,hm1⟩:∃ m,m=Zc 1 r:=⟨_,rfl⟩;have hz1:m1<256:=by rw[hm1];exact jY 1 _
    obtain⟨q1,hq1⟩:∃ q,q=Q4 1 r:=⟨_,rfl⟩;rw[<-hm1,<-hq1] at KN1;replace hm1:=qa hm1;replace hq1:=qa hq1;refine KN1.out.mono ?_;rintro e wn1 ⟨rfl,rn1,kn1⟩;clear KN1;have ST1:Hid (RStP w xs nb wn1 (.slice ak n.keys.length ck) (.slice av n.vals.length cv) (.slice ad n.kids.length cd) (⟨n.leaf,n.keys,n.vals,n.kids⟩:Nd) q1):=qa (S0.out.call kn1 rn1)
    clear rn1 kn1;have KN2:=qa (yt w (w.heap.size+1) wn1 xs q1 m1 ST1.out.rdr (by omega))
    obtain⟨x2,hx2⟩:∃ x,x=jD m1 q1:=⟨_,rfl⟩;obtain⟨q2,hq2⟩:∃ q,q=Q4 m1 q1:=⟨_,rfl⟩;rw[<-hx2,<-hq2] at KN2;replace hx2:=qa hx2;replace hq2:=qa hq2
    go_wp2_with fail
    refine KN2.out.mono ?_;rintro e wn2 ⟨ta2,tc2,rfl,td2,rn2,kn2⟩;clear KN2;have ST2:Hid (RStP w xs nb wn2 (.slice ak n.keys.length ck) (.slice av n.vals.length cv) (.slice ad n.kids.length cd) (⟨n.leaf,n.keys,n.vals,n.kids⟩:Nd) q2):=qa (ST1.out.call kn2 rn2)
    have cv2:=Yd (td2.to rn2.bel)
    clear rn2 kn2 td2;have sb3:=ST2.out.below ((xm wn2.heap.size wn2).alloc (xc _) (.cells #[(st x2)] 9))
    have ca3:=(qb ST2.out.box).1.2.1
    have FI3:Hid (∀ (g cp:Nat) (U:World),U.ownsRow (nb+1) 9 1 (.slice (some ⟨g,0,none⟩) (n.keys.length+1) cp) (n.keys.length+1) (n.keys.map st++[(st x2)])->(wn2.alloc (.cells #[(st x2)] 9)).grownBy U (Value.ownBlock (.slice ak n.keys.length ck))->(Value.ownBlock (.slice ak n.keys.length ck)=some g\/g=wn2.heap.size+1)->U.cell? ⟨nb,1,none⟩=some (.slice ak n.keys.length ck)/\U.frozen? ⟨nb,1,none⟩=false/\Hid (RStP w xs nb (U.setCell ⟨nb,1,none⟩ (.slice (some ⟨g,0,none⟩) (n.keys.length+1) cp)) (.slice (some ⟨g,0,none⟩) (n.keys.length+1) cp) (.slice av n.vals.length cv) (.slice ad n.kids.length cd) (⟨n.leaf,(n.keys++[x2]),n.vals,n.kids⟩:Nd) q2)):=fun g cp U ob kb hb=>by
     have sb:=sb3
     have nbl:=(kb.block nb (xa sb.box) (fun e=>by have:=(qO sb.own.keys nb e.symm).1;omega)).trans sb.box
     have oo:OwnT (nb+1) U (.slice (some ⟨g,0,none⟩) (n.keys.length+1) cp) (n.keys++[x2]):=by show World.ownsRow _ _ _ _ _ _ _;simpa using ob
     exact⟨(qb nbl).1.2.1,qnh nbl 1,qa (sb.keys rfl oo kb (by rcases hb with h|h;exact .inl h;exact .inr (by simpa using h)))⟩
    have own3:=sb3.own.keys
    dsimp only at own3;have lt3:=xa ST2.out.box
    clear sb3
    go_wp2_with (at_builtin;refine Xq _ rfl _ _ 81 rfl (nb+1) 9 _ (.string ⟨#[]⟩) 1 16 Xz ii iz0 iz1 iz2 rfl (by decide) (.slice ak n.keys.length ck) n.keys.length (n.keys.map st) rfl own3 ⟨wn2.heap.size,0,none⟩ 1 1 [(st x2)] rfl rfl (Xr (xy wn2 _)) (by simp[Value.oneCell']) (by decide) (by rw[show maxLen=9223372036854775807 from rfl];first|omega|(simp;omega)) (by first|omega|(simp;omega)) (by first|omega|(simp;omega)) (wn2.heap.size+1) (by simp) ?_;intro ga3 cb3 wb3 ob3 kb3 hb3 _;obtain⟨cc3,fz3,ST3⟩:=FI3.out ga3 cb3 wb3 ob3 kb3 hb3;clear ob3 kb3 hb3 FI3 own3 lt3;have N9:(wb3.setCell ⟨nb,1,none⟩ (.slice (some ⟨ga3,0,none⟩) (n.keys.length+1) cb3)).cell? ⟨nb,0,none⟩=some (.bool true):=(by have q9:=(qb ST3.out.box).1.1;rw[hlf.out] at q9;exact q9))
    clear cc3 fz3 ca3;clear cv2 N9;obtain⟨V4,hV4⟩:∃ U,U=(wb3.setCell ⟨nb,1,none⟩ (.slice (some ⟨ga3,0,none⟩) (n.keys.length+1) cb3)):=⟨_,rfl⟩;rw[<-hV4] at ST3;rw[<-hV4];replace hV4:=qa hV4;have KN5:=qa (ZE w (w.heap.size+1) V4 xs q2 1 ST3.out.rdr (by decide))
    obtain⟨m5,hm5⟩:∃ m,m=Zc 1 q2:=⟨_,rfl⟩;have hz5:m5<256:=by rw[hm5];exact jY 1 _
    obtain⟨q5,hq5⟩:∃ q,q=Q4 1 q2:=⟨_,rfl⟩;rw[<-hm5,<-hq5] at KN5;replace hm5:=qa hm5;replace hq5:=qa hq5;refine KN5.out.mono ?_;rintro e wn5 ⟨rfl,rn5,kn5⟩;clear KN5;have ST5:Hid (RStP w xs nb wn5 (.slice (some ⟨ga3,0,none⟩) (n.keys.length+1) cb3) (.slice av n.vals.length cv) (.slice ad n.kids.length cd) (⟨n.leaf,(n.keys++[x2]),n.vals,n.kids⟩:Nd) q5):=qa (ST3.out.call kn5 rn5)
    clear rn5 kn5;have KN6:=qa (yt w (w.heap.size+1) wn5 xs q5 m5 ST5.out.rdr (by omega))
    obtain⟨x6,hx6⟩:∃ x,x=jD m5 q5:=⟨_,rfl⟩;obtain⟨q6,hq6⟩:∃ q,q=Q4 m5 q5:=⟨_,rfl⟩;rw[<-hx6,<-hq6] at KN6;replace hx6:=qa hx6;replace hq6:=qa hq6
    go_wp2_with fail
    refine KN6.out.mono ?_;rintro e wn6 ⟨ta6,tc6,rfl,td6,rn6,kn6⟩;clear KN6;have ST6:Hid (RStP w xs nb wn6 (.slice (some ⟨ga3,0,none⟩) (n.keys.length+1) cb3) (.slice av n.vals.length cv) (.slice ad n.kids.length cd) (⟨n.leaf,(n.keys++[x2]),n.vals,n.kids⟩:Nd) q6):=qa (ST5.out.call kn6 rn6)
    have cv6:=Yd (td6.to rn6.bel)
    clear rn6 kn6 td6;have sb7:=ST6.out.below ((xm wn6.heap.size wn6).alloc (xc _) (.cells #[(st x6)] 9))
    have ca7:=(qb ST6.out.box).1.2.2.1
    have FI7:Hid (∀ (g cp:Nat) (U:World),U.ownsRow (nb+1) 9 1 (.slice (some ⟨g,0,none⟩) (n.vals.length+1) cp) (n.vals.length+1) (n.vals.map st++[(st x6)])->(wn6.alloc (.cells #[(st x6)] 9)).grownBy U (Value.ownBlock (.slice av n.vals.length cv))->(Value.ownBlock (.slice av n.vals.length cv)=some g\/g=wn6.heap.size+1)->U.cell? ⟨nb,2,none⟩=some (.slice av n.vals.length cv)/\U.frozen? ⟨nb,2,none⟩=false/\Hid (RStP w xs nb (U.setCell ⟨nb,2,none⟩ (.slice (some ⟨g,0,none⟩) (n.vals.length+1) cp)) (.slice (some ⟨ga3,0,none⟩) (n.keys.length+1) cb3) (.slice (some ⟨g,0,none⟩) (n.vals.length+1) cp) (.slice ad n.kids.length cd) (⟨n.leaf,(n.keys++[x2]),(n.vals++[x6]),n.kids⟩:Nd) q6)):=fun g cp U ob kb hb=>by
     have sb:=sb7
     have nbl:=(kb.block nb (xa sb.box) (fun e=>by have:=(qO sb.own.vals nb e.symm).1;omega)).trans sb.box
     have oo:OwnT (nb+1) U (.slice (some ⟨g,0,none⟩) (n.vals.length+1) cp) (n.vals++[x6]):=by show World.ownsRow _ _ _ _ _ _ _;simpa using ob
     exact⟨(qb nbl).1.2.2.1,qnh nbl 2,qa (sb.vals rfl oo kb (by rcases hb with h|h;exact .inl h;exact .inr (by simpa using h)))⟩
    have own7:=sb7.own.vals
    dsimp only at own7;have lt7:=xa ST6.out.box
    clear sb7
    go_wp2_with (at_builtin;refine Xq _ rfl _ _ 81 rfl (nb+1) 9 _ (.string ⟨#[]⟩) 1 16 Xz ii iz0 iz1 iz2 rfl (by decide) (.slice av n.vals.length cv) n.vals.length (n.vals.map st) rfl own7 ⟨wn6.heap.size,0,none⟩ 1 1 [(st x6)] rfl rfl (Xr (xy wn6 _)) (by simp[Value.oneCell']) (by decide) (by rw[show maxLen=9223372036854775807 from rfl];first|omega|(simp;omega)) (by first|omega|(simp;omega)) (by first|omega|(simp;omega)) (wn6.heap.size+1) (by simp) ?_;intro ga7 cb7 wb7 ob7 kb7 hb7 _;obtain⟨cc7,fz7,ST7⟩:=FI7.out ga7 cb7 wb7 ob7 kb7 hb7;clear ob7 kb7 hb7 FI7 own7 lt7)
    clear cc7 fz7 ca7;clear cv6
    have HG2:Hid (GP xs (left-(i+1)) q6 (⟨n.leaf,(n.keys++[x2]),(n.vals++[x6]),n.kids⟩:Nd)):=by
     rw[show left-(i+1)=j by have:=hj.out;omega,hq6.out,hx6.out,hq5.out,hm5.out,hq2.out,hx2.out,hq1.out,hm1.out]
     exact HG.out
    go_roundw
    case rel=>exact⟨i+1,by omega,by go_num,qa ⟨_,_,_,_,_,ST7.out,HG2.out,hlf.out,by have:=hj.out;simp;omega,by have:=hj.out;simp;omega,by have:=hj.out;simp;omega⟩⟩
    case measure=>simp[intOf];omega
   have hq:¬ (i:Int)<(left:Int):=by omega
   have hG:Hid (qW xs=zV (n,r)):=by
    rw[show left-i=0 by omega] at hg
    rcases hg with ⟨_,h⟩|⟨h,_⟩
    ·exact h
    rw[hsh.out] at h;cases h
   clear hg;have RES:=qa S0.out.res
   have BEL:=qa S0.out.rdr.bel
   obtain⟨⟨Q0,Q1,Q2,Q3⟩,Rf⟩:=qb RES.out;have Rf0:=Rf 0
   have Rf1:=Rf 1
   have Rf2:=Rf 2
   have Rf3:=Rf 3
   clear Rf;obtain⟨⟨N0,N1,N2,N3⟩,_⟩:=qb S0.out.box;have C1:=(ql hrd.box).1.2.1
   have hrl:r.rest.length=rL-rat:=by rw[hrd.rest,xE,hrd.len]
   have hrle:=hrd.le
   have hlen:=hrd.len
   by_cases hl:rat<rL
   ·have hq:(rat:Int)<(xs.length:Int):=by omega
    have e:Hid (DecR xs Qw 23):=.inr ⟨by decide,rfl,yG (by rw[hG.out];unfold zV;dsimp only;rw[hsh.out,xh (by decide),xj (by omega)];decide)⟩
    replace hrl:=qa hrl;clear hrle;replace hlen:=qa hlen;go_wp2;refine QD rfl rfl w.heap.size rfl _ _ (0,0) (qu (u:=wr) RES.out _ _ _ _) _ XZ rfl zU (.int .i64 23) rfl ?_;exact⟨Qw,23,qm,qm,qm,rfl,e.out,OwnN.nil _ _ _,qn BEL.out (xc _) _ _ _ _⟩
   have hq:¬ (rat:Int)<(xs.length:Int):=by omega
   have e:=qa (DecR.fin hG.out hsh.out (by omega))
   have fit:jH n:=by unfold jH;omega
   have KC:=qa (vQ wr _ _ _ n S0.out.own.rd fit)
   dsimp only[nv] at KC;obtain⟨Z,hZ⟩:∃ Z,Z=qE n:=⟨_,rfl⟩;rw[<-hZ] at KC e;replace hZ:=qa hZ;replace hrl:=qa hrl;clear hrle fit hrd;replace hlen:=qa hlen
   go_wp2_with fail
   clear N0 N1 N2 N3 Q0 Q1 Q2 Q3 Rf0 Rf1 Rf2 Rf3 C1;refine KC.out.mono ?_;rintro e' we ⟨rfl,be⟩;clear KC;have RE:=qa ((be.block _ (xa RES.out)).trans RES.out)
   have BE:=qa (BEL.out.trans (be.mono BEL.out.size))
   have OE:=qa (S0.out.own.to be)
   have hnb9:=qa S0.out.hnb
   have Q0:=(qb RE.out).1.1
   have Q1:=(qb RE.out).1.2.1
   have Q2:=(qb RE.out).1.2.2.1
   have Q3:=(qb RE.out).1.2.2.2
   have Rf0:=(qb RE.out).2 0
   have Rf1:=(qb RE.out).2 1
   have Rf2:=(qb RE.out).2 2
   have Rf3:=(qb RE.out).2 3
   have BO:=qa ((be.block _ (xa S0.out.box)).trans S0.out.box)
   have N0:=(qb BO.out).1.1
   have N1:=(qb BO.out).1.2.1
   have N2:=(qb BO.out).1.2.2.1
   have N3:=(qb BO.out).1.2.2.2
   clear be;by_cases hz:Z=0
   ·subst hz;rw[xj rfl] at e;go_wp2;refine QD rfl rfl w.heap.size rfl _ _ (0,0) (qu (u:=we) RE.out _ _ _ _) _ XZ rfl zU (.int .i64 0) rfl ?_;have hlt':w.heap.size<nb+1:=by have:=hnb9.out;omega
    exact⟨n,0,_,_,_,rfl,e.out,((((OE.out.set hlt' 0 _).set hlt' 1 _).set hlt' 2 _).set hlt' 3 _).mono (by omega),qn BE.out (xc _) _ _ _ _⟩
   rw[xh hz] at e;go_wp2;refine QD rfl rfl w.heap.size rfl _ _ (0,0) (qu (u:=we) RE.out _ _ _ _) _ XZ rfl zU (.int .i64 Z) rfl ?_;exact⟨Qw,Z,qm,qm,qm,rfl,e.out,OwnN.nil _ _ _,qn BE.out (xc _) _ _ _ _⟩
 subst m1;have S0:Hid (RStP w xs nb (w2.alloc (.cells #[.bool false,qm,qm,qm] 206)) qm qm qm ⟨false,[],[],[]⟩ r):=qa (ST.out false)
 clear ST;obtain⟨V,hV⟩:∃ V,V=w2.alloc (.cells #[.bool false,qm,qm,qm] 206):=⟨_,rfl⟩;rw[<-hV] at S0;have N0:=(qb S0.out.box).1.1
 have G0:Hid (GK xs left (Q4 4 r) ⟨false,[],[],[((Zc 4 r:Nat):Int)]⟩):=by
  rw[hleft.out,hr.out,HR.out];exact GK.start (by rw[<-HR.out,<-hM.out])
 rw[hV,hnb] at N0;go_wp2;rw[<-hV,<-hnb];replace hV:=qa hV;replace hnb:=qa hnb;clear N0;obtain⟨n,hn⟩:∃ n:Nd,n=⟨false,[],[],[]⟩:=⟨_,rfl⟩;rw[<-hn] at S0;have SD:Hid (RStP w xs nb V.drew qm qm qm n r):=qa (S0.out.below ((xm V.heap.size V).drew))
 have KT:=qa (ZE w (w.heap.size+1) V.drew xs r 4 SD.out.rdr (by decide))
 obtain⟨m9,hm9⟩:∃ m,m=Zc 4 r:=⟨_,rfl⟩;obtain⟨q9,hq9⟩:∃ q,q=Q4 4 r:=⟨_,rfl⟩;rw[<-hm9,<-hq9] at KT G0;replace hm9:=qa hm9;replace hq9:=qa hq9;have CB:Hid (∀ (U:World) (q:Rr),RStP w xs nb U qm qm qm n q->U.cell? ⟨nb,3,none⟩=some qm):=fun U q h=>(qb h.box).1.2.2.2
 have HN:=qa hn
 clear hn;refine qN (fun w9=>w9.cell? ⟨nb,3,none⟩=some qm) [(0,true),(1,true),(2,true),(3,false),(4,false)] 5 qG (by kernel_rfl) (fun _ _ _ _ h=>h) ?_
 iterate 3
  refine Qj (v:=?_) rfl (by kernel_rfl) (CB.out _ _ SD.out) ?_ ?_
  rotate_left
  ·intro w9 r1;go_simp;try with_reducible rfl
  try simp only[Act.put,qB4]
 refine qL rfl (by kernel_rfl) fun K hK=>?_
 refine qk 137 _ _ (by rfl) #[.pointer (some ⟨w.heap.size+1,0,none⟩),.int .i64 4] (by simp[Act.eval]) (Tryz.call137 _ _) KT.out ?_
 rintro e wa ⟨rfl,ra,ka⟩;have SA:Hid (RStP w xs nb wa qm qm qm n q9):=qa (SD.out.call ka ra)
 refine⟨_,rfl,hK _ _ (CB.out _ _ SA.out) ?_⟩;clear hK K ra ka;try simp only[Act.put,qB4]
 refine qL rfl (by kernel_rfl) fun K hK=>?_
 have sb:=SA.out.below ((xm wa.heap.size wa).alloc (xc _) (.cells #[.int .i64 (m9:Int)] 3))
 go_simp;refine hK _ _ (CB.out _ _ sb) ?_;clear hK K;try simp only[Act.put,qB4]
 show wpList _ _ _ _ _ _
 dsimp only[List.drop]
 have FI:Hid (∀ (g cp:Nat) (U:World),U.ownsRow (nb+1) 3 1 (.slice (some ⟨g,0,none⟩) 1 cp) 1 [.int .i64 (m9:Int)]->(wa.alloc (.cells #[.int .i64 (m9:Int)] 3)).grownBy U (Value.ownBlock qm)->(Value.ownBlock qm=some g\/g=wa.heap.size+1)->U.cell? ⟨nb,3,none⟩=some qm/\U.frozen? ⟨nb,3,none⟩=false/\Hid (RStP w xs nb (U.setCell ⟨nb,3,none⟩ (.slice (some ⟨g,0,none⟩) 1 cp)) qm qm (.slice (some ⟨g,0,none⟩) 1 cp) ⟨false,[],[],[(m9:Int)]⟩ q9)):=fun g cp U ob kb hb=>by
  have sb:=sb
  have nbl:=(kb.block nb (xa sb.box) (fun e=>by have:=(qO sb.own.kids nb e.symm).1;omega)).trans sb.box
  have oo:OwnJ (nb+1) U (.slice (some ⟨g,0,none⟩) 1 cp) (n.kids++[(m9:Int)]):=by rw[HN.out];exact ob
  have st:=sb.kids rfl oo kb (by rcases hb with h|h;exact .inl h;exact .inr (by simpa using h))
  rw[HN.out] at st;exact⟨(qb nbl).1.2.2.2,qnh nbl 3,qa st⟩
 have own0:(wa.alloc (.cells #[.int .i64 (m9:Int)] 3)).ownsRow (nb+1) 3 1 qm 0 []:=xA _ _ _ _
 have lt0:=xa SA.out.box
 clear sb KT CB SD SA
 go_wp2_with (at_builtin;refine Xq _ rfl _ _ 82 rfl (nb+1) 3 _ (.int .i64 0) 1 8 Ko ji jz0 jz1 jz2 rfl (by decide) qm 0 [] rfl own0 ⟨wa.heap.size,0,none⟩ 1 1 [.int .i64 (m9:Int)] rfl rfl (Xr (xy wa _)) (by simp[Value.oneCell']) (by decide) (by rw[show maxLen=9223372036854775807 from rfl];omega) (by omega) (by first|omega|(simp;omega)) (wa.heap.size+1) (by simp) ?_;intro ga cb wb ob kb hb _;obtain⟨cc,fz,STK⟩:=FI.out ga cb wb ob kb hb;clear ob kb hb FI own0 lt0)
 clear cc fz
 go_loopw [8] (fun p wr=>∃ i:Nat,i<=left/\p=.int .i64 i/\Hid (∃ (kv vv dv:Value) (n:Nd) (r:Rr),RStP w xs nb wr kv vv dv n r/\GK xs (left-i) r n/\n.leaf=false/\n.keys.length+(left-i)<=256/\n.vals.length+(left-i)<=256/\n.kids.length+(left-i)<=257)) (fun p _=>left-(intOf p).toNat)
 case atStart=>exact⟨0,xt _,rfl,⟨_,_,_,_,_,STK.out,G0.out,rfl,by simp;omega,by simp;omega,by simp;omega⟩⟩
 case round =>
 obtain⟨i,hi,rfl,hI⟩:=hrel;obtain⟨kv,vv,dv,n,r,hs,hg,hlf,hb1,hb2,hb3⟩:=hI.out;obtain⟨ak,ck,av,cv,ad,cd,rfl,rfl,rfl⟩:=hs.own.rd.slices;have S0:=qa hs
 replace hlf:=qa hlf;obtain⟨ra,rc,rL,rat,hrd⟩:=hs.rdr;have C2:=(ql hrd.box).1.2.2
 clear hs hI;cases hsh:r.short with
 | true =>
  rw[hsh] at C2
  have hG:Hid ((qW xs).2≠0):=by
   rcases hg with ⟨h,_⟩|⟨_,h⟩
   ·rw[hsh] at h;cases h
   exact h
  clear hg hrd;replace hsh:=qa hsh;by_cases hlt:i<left
  ·have hq:(i:Int)<(left:Int):=by omega
   have RES:=qa S0.out.res
   have BEL:=qa S0.out.rdr.bel
   obtain⟨⟨Q0,Q1,Q2,Q3⟩,Rf⟩:=qb RES.out;have Rf0:=Rf 0
   have Rf1:=Rf 1
   have Rf2:=Rf 2
   have Rf3:=Rf 3
   clear Rf;have e:Hid (DecR xs Qw 8):=.inr ⟨by decide,rfl,yG hG.out⟩
   go_wp2;refine QD rfl rfl w.heap.size rfl _ _ (0,0) (qu (u:=wr) RES.out _ _ _ _) _ XZ rfl zU (.int .i64 8) rfl ?_;exact⟨Qw,8,qm,qm,qm,rfl,e.out,OwnN.nil _ _ _,qn BEL.out (xc _) _ _ _ _⟩
  have hq:¬ (i:Int)<(left:Int):=by omega
  have RES:=qa S0.out.res
  have BEL:=qa S0.out.rdr.bel
  obtain⟨⟨Q0,Q1,Q2,Q3⟩,Rf⟩:=qb RES.out;have Rf0:=Rf 0
  have Rf1:=Rf 1
  have Rf2:=Rf 2
  have Rf3:=Rf 3
  clear Rf;have e:Hid (DecR xs Qw 8):=.inr ⟨by decide,rfl,yG hG.out⟩
  go_wp2;refine QD rfl rfl w.heap.size rfl _ _ (0,0) (qu (u:=wr) RES.out _ _ _ _) _ XZ rfl zU (.int .i64 8) rfl ?_;exact⟨Qw,8,qm,qm,qm,rfl,e.out,OwnN.nil _ _ _,qn BEL.out (xc _) _ _ _ _⟩
 | false =>
  rw[hsh] at C2;replace hsh:=qa hsh;by_cases hlt:i<left
  ·have hq:(i:Int)<(left:Int):=by omega
   have g1:decide (i<left)=true:=xv hlt
   obtain⟨j,hj⟩:∃ j,left-i=j+1:=⟨left-i-1,by omega⟩
   rw[hj] at hg;have HG:=qa (GK.next hg hsh.out)
   clear hg hrd;replace hj:=qa hj
   go_wp2_with fail
   clear C2;have KN8:=qa (ZE w (w.heap.size+1) wr xs r 1 S0.out.rdr (by decide))
   obtain⟨m8,hm8⟩:∃ m,m=Zc 1 r:=⟨_,rfl⟩;have hz8:m8<256:=by rw[hm8];exact jY 1 _
   obtain⟨q8,hq8⟩:∃ q,q=Q4 1 r:=⟨_,rfl⟩;rw[<-hm8,<-hq8] at KN8;replace hm8:=qa hm8;replace hq8:=qa hq8;refine KN8.out.mono ?_;rintro e wn8 ⟨rfl,rn8,kn8⟩;clear KN8;have ST8:Hid (RStP w xs nb wn8 (.slice ak n.keys.length ck) (.slice av n.vals.length cv) (.slice ad n.kids.length cd) (⟨n.leaf,n.keys,n.vals,n.kids⟩:Nd) q8):=qa (S0.out.call kn8 rn8)
   clear rn8 kn8;have KN9:=qa (yt w (w.heap.size+1) wn8 xs q8 m8 ST8.out.rdr (by omega))
   obtain⟨x9,hx9⟩:∃ x,x=jD m8 q8:=⟨_,rfl⟩;obtain⟨q9,hq9⟩:∃ q,q=Q4 m8 q8:=⟨_,rfl⟩;rw[<-hx9,<-hq9] at KN9;replace hx9:=qa hx9;replace hq9:=qa hq9
   go_wp2_with fail
   refine KN9.out.mono ?_;rintro e wn9 ⟨ta9,tc9,rfl,td9,rn9,kn9⟩;clear KN9;have ST9:Hid (RStP w xs nb wn9 (.slice ak n.keys.length ck) (.slice av n.vals.length cv) (.slice ad n.kids.length cd) (⟨n.leaf,n.keys,n.vals,n.kids⟩:Nd) q9):=qa (ST8.out.call kn9 rn9)
   have cv9:=Yd (td9.to rn9.bel)
   clear rn9 kn9 td9;have sb10:=ST9.out.below ((xm wn9.heap.size wn9).alloc (xc _) (.cells #[(st x9)] 9))
   have ca10:=(qb ST9.out.box).1.2.1
   have FI10:Hid (∀ (g cp:Nat) (U:World),U.ownsRow (nb+1) 9 1 (.slice (some ⟨g,0,none⟩) (n.keys.length+1) cp) (n.keys.length+1) (n.keys.map st++[(st x9)])->(wn9.alloc (.cells #[(st x9)] 9)).grownBy U (Value.ownBlock (.slice ak n.keys.length ck))->(Value.ownBlock (.slice ak n.keys.length ck)=some g\/g=wn9.heap.size+1)->U.cell? ⟨nb,1,none⟩=some (.slice ak n.keys.length ck)/\U.frozen? ⟨nb,1,none⟩=false/\Hid (RStP w xs nb (U.setCell ⟨nb,1,none⟩ (.slice (some ⟨g,0,none⟩) (n.keys.length+1) cp)) (.slice (some ⟨g,0,none⟩) (n.keys.length+1) cp) (.slice av n.vals.length cv) (.slice ad n.kids.length cd) (⟨n.leaf,(n.keys++[x9]),n.vals,n.kids⟩:Nd) q9)):=fun g cp U ob kb hb=>by
    have sb:=sb10
    have nbl:=(kb.block nb (xa sb.box) (fun e=>by have:=(qO sb.own.keys nb e.symm).1;omega)).trans sb.box
    have oo:OwnT (nb+1) U (.slice (some ⟨g,0,none⟩) (n.keys.length+1) cp) (n.keys++[x9]):=by show World.ownsRow _ _ _ _ _ _ _;simpa using ob
    exact⟨(qb nbl).1.2.1,qnh nbl 1,qa (sb.keys rfl oo kb (by rcases hb with h|h;exact .inl h;exact .inr (by simpa using h)))⟩
   have own10:=sb10.own.keys
   dsimp only at own10;have lt10:=xa ST9.out.box
   clear sb10
   go_wp2_with (at_builtin;refine Xq _ rfl _ _ 81 rfl (nb+1) 9 _ (.string ⟨#[]⟩) 1 16 Xz ii iz0 iz1 iz2 rfl (by decide) (.slice ak n.keys.length ck) n.keys.length (n.keys.map st) rfl own10 ⟨wn9.heap.size,0,none⟩ 1 1 [(st x9)] rfl rfl (Xr (xy wn9 _)) (by simp[Value.oneCell']) (by decide) (by rw[show maxLen=9223372036854775807 from rfl];first|omega|(simp;omega)) (by first|omega|(simp;omega)) (by first|omega|(simp;omega)) (wn9.heap.size+1) (by simp) ?_;intro ga10 cb10 wb10 ob10 kb10 hb10 _;obtain⟨cc10,fz10,ST10⟩:=FI10.out ga10 cb10 wb10 ob10 kb10 hb10;clear ob10 kb10 hb10 FI10 own10 lt10;have N9:(wb10.setCell ⟨nb,1,none⟩ (.slice (some ⟨ga10,0,none⟩) (n.keys.length+1) cb10)).cell? ⟨nb,0,none⟩=some (.bool false):=(by have q9:=(qb ST10.out.box).1.1;rw[hlf.out] at q9;exact q9))
   clear cc10 fz10 ca10;clear cv9 N9;obtain⟨V11,hV11⟩:∃ U,U=(wb10.setCell ⟨nb,1,none⟩ (.slice (some ⟨ga10,0,none⟩) (n.keys.length+1) cb10)):=⟨_,rfl⟩;rw[<-hV11] at ST10;rw[<-hV11];replace hV11:=qa hV11;have KN12:=qa (ZE w (w.heap.size+1) V11 xs q9 4 ST10.out.rdr (by decide))
   obtain⟨m12,hm12⟩:∃ m,m=Zc 4 q9:=⟨_,rfl⟩;have hz12:m12<4294967296:=by rw[hm12];exact jY 4 _
   obtain⟨q12,hq12⟩:∃ q,q=Q4 4 q9:=⟨_,rfl⟩;rw[<-hm12,<-hq12] at KN12;replace hm12:=qa hm12;replace hq12:=qa hq12;refine KN12.out.mono ?_;rintro e wn12 ⟨rfl,rn12,kn12⟩;clear KN12;have ST12:Hid (RStP w xs nb wn12 (.slice (some ⟨ga10,0,none⟩) (n.keys.length+1) cb10) (.slice av n.vals.length cv) (.slice ad n.kids.length cd) (⟨n.leaf,(n.keys++[x9]),n.vals,n.kids⟩:Nd) q12):=qa (ST10.out.call kn12 rn12)
   clear rn12 kn12;have sb13:=ST12.out.below ((xm wn12.heap.size wn12).alloc (xc _) (.cells #[(.int .i64 (m12:Int))] 3))
   have ca13:=(qb ST12.out.box).1.2.2.2
   have FI13:Hid (∀ (g cp:Nat) (U:World),U.ownsRow (nb+1) 3 1 (.slice (some ⟨g,0,none⟩) (n.kids.length+1) cp) (n.kids.length+1) (n.kids.map (Value.int .i64)++[(.int .i64 (m12:Int))])->(wn12.alloc (.cells #[(.int .i64 (m12:Int))] 3)).grownBy U (Value.ownBlock (.slice ad n.kids.length cd))->(Value.ownBlock (.slice ad n.kids.length cd)=some g\/g=wn12.heap.size+1)->U.cell? ⟨nb,3,none⟩=some (.slice ad n.kids.length cd)/\U.frozen? ⟨nb,3,none⟩=false/\Hid (RStP w xs nb (U.setCell ⟨nb,3,none⟩ (.slice (some ⟨g,0,none⟩) (n.kids.length+1) cp)) (.slice (some ⟨ga10,0,none⟩) (n.keys.length+1) cb10) (.slice av n.vals.length cv) (.slice (some ⟨g,0,none⟩) (n.kids.length+1) cp) (⟨n.leaf,(n.keys++[x9]),n.vals,(n.kids++[(m12:Int)])⟩:Nd) q12)):=fun g cp U ob kb hb=>by
    have sb:=sb13
    have nbl:=(kb.block nb (xa sb.box) (fun e=>by have:=(qO sb.own.kids nb e.symm).1;omega)).trans sb.box
    have oo:OwnJ (nb+1) U (.slice (some ⟨g,0,none⟩) (n.kids.length+1) cp) (n.kids++[(m12:Int)]):=by show World.ownsRow _ _ _ _ _ _ _;simpa using ob
    exact⟨(qb nbl).1.2.2.2,qnh nbl 3,qa (sb.kids rfl oo kb (by rcases hb with h|h;exact .inl h;exact .inr (by simpa using h)))⟩
   have own13:=sb13.own.kids
   dsimp only at own13;have lt13:=xa ST12.out.box
   clear sb13
   go_wp2_with (at_builtin;refine Xq _ rfl _ _ 82 rfl (nb+1) 3 _ (.int .i64 0) 1 8 Ko ji jz0 jz1 jz2 rfl (by decide) (.slice ad n.kids.length cd) n.kids.length (n.kids.map (Value.int .i64)) rfl own13 ⟨wn12.heap.size,0,none⟩ 1 1 [(.int .i64 (m12:Int))] rfl rfl (Xr (xy wn12 _)) (by simp[Value.oneCell']) (by decide) (by rw[show maxLen=9223372036854775807 from rfl];first|omega|(simp;omega)) (by first|omega|(simp;omega)) (by first|omega|(simp;omega)) (wn12.heap.size+1) (by simp) ?_;intro ga13 cb13 wb13 ob13 kb13 hb13 _;obtain⟨cc13,fz13,ST13⟩:=FI13.out ga13 cb13 wb13 ob13 kb13 hb13;clear ob13 kb13 hb13 FI13 own13 lt13)
   clear cc13 fz13 ca13
   have HG2:Hid (GK xs (left-(i+1)) q12 (⟨n.leaf,(n.keys++[x9]),n.vals,(n.kids++[(m12:Int)])⟩:Nd)):=by
    rw[show left-(i+1)=j by have:=hj.out;omega,hq12.out,hm12.out,hq9.out,hx9.out,hq8.out,hm8.out]
    exact HG.out
   go_roundw
   case rel=>exact⟨i+1,by omega,by go_num,qa ⟨_,_,_,_,_,ST13.out,HG2.out,hlf.out,by have:=hj.out;simp;omega,by have:=hj.out;simp;omega,by have:=hj.out;simp;omega⟩⟩
   case measure=>simp[intOf];omega
  have hq:¬ (i:Int)<(left:Int):=by omega
  have hG:Hid (qW xs=zV (n,r)):=by
   rw[show left-i=0 by omega] at hg
   rcases hg with ⟨_,h⟩|⟨h,_⟩
   ·exact h
   rw[hsh.out] at h;cases h
  clear hg;have RES:=qa S0.out.res
  have BEL:=qa S0.out.rdr.bel
  obtain⟨⟨Q0,Q1,Q2,Q3⟩,Rf⟩:=qb RES.out;have Rf0:=Rf 0
  have Rf1:=Rf 1
  have Rf2:=Rf 2
  have Rf3:=Rf 3
  clear Rf;obtain⟨⟨N0,N1,N2,N3⟩,_⟩:=qb S0.out.box;have C1:=(ql hrd.box).1.2.1
  have hrl:r.rest.length=rL-rat:=by rw[hrd.rest,xE,hrd.len]
  have hrle:=hrd.le
  have hlen:=hrd.len
  by_cases hl:rat<rL
  ·have hq:(rat:Int)<(xs.length:Int):=by omega
   have e:Hid (DecR xs Qw 23):=.inr ⟨by decide,rfl,yG (by rw[hG.out];unfold zV;dsimp only;rw[hsh.out,xh (by decide),xj (by omega)];decide)⟩
   replace hrl:=qa hrl;clear hrle;replace hlen:=qa hlen;go_wp2;refine QD rfl rfl w.heap.size rfl _ _ (0,0) (qu (u:=wr) RES.out _ _ _ _) _ XZ rfl zU (.int .i64 23) rfl ?_;exact⟨Qw,23,qm,qm,qm,rfl,e.out,OwnN.nil _ _ _,qn BEL.out (xc _) _ _ _ _⟩
  have hq:¬ (rat:Int)<(xs.length:Int):=by omega
  have e:=qa (DecR.fin hG.out hsh.out (by omega))
  have fit:jH n:=by unfold jH;omega
  have KC:=qa (vQ wr _ _ _ n S0.out.own.rd fit)
  dsimp only[nv] at KC;obtain⟨Z,hZ⟩:∃ Z,Z=qE n:=⟨_,rfl⟩;rw[<-hZ] at KC e;replace hZ:=qa hZ;replace hrl:=qa hrl;clear hrle fit hrd;replace hlen:=qa hlen
  go_wp2_with fail
  clear N0 N1 N2 N3 Q0 Q1 Q2 Q3 Rf0 Rf1 Rf2 Rf3 C1;refine KC.out.mono ?_;rintro e' we ⟨rfl,be⟩;clear KC;have RE:=qa ((be.block _ (xa RES.out)).trans RES.out)
  have BE:=qa (BEL.out.trans (be.mono BEL.out.size))
  have OE:=qa (S0.out.own.to be)
  have hnb9:=qa S0.out.hnb
  have Q0:=(qb RE.out).1.1
  have Q1:=(qb RE.out).1.2.1
  have Q2:=(qb RE.out).1.2.2.1
  have Q3:=(qb RE.out).1.2.2.2
  have Rf0:=(qb RE.out).2 0
  have Rf1:=(qb RE.out).2 1
  have Rf2:=(qb RE.out).2 2
  have Rf3:=(qb RE.out).2 3
  have BO:=qa ((be.block _ (xa S0.out.box)).trans S0.out.box)
  have N0:=(qb BO.out).1.1
  have N1:=(qb BO.out).1.2.1
  have N2:=(qb BO.out).1.2.2.1
  have N3:=(qb BO.out).1.2.2.2
  clear be;by_cases hz:Z=0
  ·subst hz;rw[xj rfl] at e;go_wp2;refine QD rfl rfl w.heap.size rfl _ _ (0,0) (qu (u:=we) RE.out _ _ _ _) _ XZ rfl zU (.int .i64 0) rfl ?_;have hlt':w.heap.size<nb+1:=by have:=hnb9.out;omega
   exact⟨n,0,_,_,_,rfl,e.out,((((OE.out.set hlt' 0 _).set hlt' 1 _).set hlt' 2 _).set hlt' 3 _).mono (by omega),qn BE.out (xc _) _ _ _ _⟩
  rw[xh hz] at e;go_wp2;refine QD rfl rfl w.heap.size rfl _ _ (0,0) (qu (u:=we) RE.out _ _ _ _) _ XZ rfl zU (.int .i64 Z) rfl ?_;exact⟨Qw,Z,qm,qm,qm,rfl,e.out,OwnN.nil _ _ _,qn BE.out (xc _) _ _ _ _⟩
abbrev sv (lo:Str) (hi:Option Str):Value:=.agg #[st lo,st (hi.getD [])]
def qeh (hi:Option Str):Prop:=hi≠some []
theorem qo6 {hi:Option Str} (h:qeh hi) (lo x:Str):kin lo hi x=(!slt x lo&&(hi.getD [] == []||slt x (hi.getD []))):=by
 cases hi with
 | none=>simp[kin]
 | some y =>
  have:y≠[]:=fun e=>h (by rw[e])
  cases y with
  | nil=>exact absurd rfl this
  | cons a r=>simp[kin]
theorem qbc (w:World) (lo:Str) (hi:Option Str) (k:Str) (hh:qeh hi):Calls Tryz.prog 36 #[sv lo hi,st k] w fun e w'=>e=.returned (.bool (!kin lo hi k))/\Below w.heap.size w w':=by
 have hk:=qa (qo6 hh lo k)
 dsimp only[sv];obtain⟨h,hhi⟩:∃ h,h=hi.getD []:=⟨_,rfl⟩;rw[<-hhi] at hk |-;clear hhi hh;obtain⟨R,hR⟩:∃ R,R=kin lo hi k:=⟨_,rfl⟩;rw[<-hR] at hk |-;clear hR hi;obtain⟨W,hW,D,bW,sW⟩:=qf w #[st lo,st h] 90;obtain⟨⟨D0,D1⟩,_⟩:=Qc D;have HB:=qa bW
 rw[hW] at D0 D1 HB;clear D bW hW sW;go_enter Tryz.func36,Tryz.ntmps36;cases h1:Op.bytesLess k lo with
 | true =>
  have hr:Hid (R=false):=by show _=_;rw[hk.out,show slt k lo=true from h1];rfl
  go_wp2;go_ret;rw[hr.out];exact⟨rfl,HB.out⟩
 | false =>
  cases h with
  | nil =>
   have hr:Hid (R=true):=by show _=_;rw[hk.out,show slt k lo=false from h1];rfl
   go_wp2;go_ret;rw[hr.out];exact⟨rfl,HB.out⟩
  | cons a r =>
   have hr:Hid (R=Op.bytesLess k (a::r)):=by show _=_;rw[hk.out,show slt k lo=false from h1];rfl
   obtain⟨h,hh⟩:∃ h,h=a::r:=⟨_,rfl⟩;rw[<-hh] at hr D1 HB |-;have hem:h.isEmpty=false:=by rw[hh];rfl
   have hem2:(h == [])=false:=by rw[hh];rfl
   have hem3:¬ h=[]:=by rw[hh];simp
   replace hh:=qa hh;go_wp2;go_ret;rw[hr.out];exact⟨rfl,HB.out⟩
def SpI (w wx:World) (x y:Value):Prop:=wx.heap[w.heap.size]?=some (.cells #[x,y] 90 (0,0))/\wx.heap[w.heap.size+1]?=some (.cells #[st [],st []] 90 (0,0))/\Below w.heap.size w wx
theorem SpI.put0 {x:Value} (h:SpI w wx x y) (z:Value):SpI w (wx.setCell ⟨w.heap.size,0,none⟩ z) z y :=
 ⟨(JE h.1 z).1,(xd _ _ _ _ (show w.heap.size+1≠w.heap.size by omega)).trans h.2.1,h.2.2.setCell (xc _) _⟩
theorem SpI.put1 {x:Value} (h:SpI w wx x y) (z:Value):SpI w (wx.setCell ⟨w.heap.size,1,none⟩ z) x z :=
 ⟨(JE h.1 z).2,(xd _ _ _ _ (show w.heap.size+1≠w.heap.size by omega)).trans h.2.1,h.2.2.setCell (xc _) _⟩
theorem qqi:(Tryz.prog.info? 90).map (·.size)=some 2:=by kernel_rfl
theorem qh4 (w:World) (lo:Str) (hi:Option Str) (kv:Value) (nd:Nd) (i:Nat) (h:RdT w kv nd.keys) (hi9:i<=nd.keys.length):Calls Tryz.prog 95 #[sv lo hi,kv,.int .i64 i] w fun e w' =>
 e=.returned (sv (Qi nd lo i) (qZ nd hi i))/\Below w.heap.size w w':=by
 obtain⟨a,c,rfl⟩:=h.slice;have lb:=h.bd
 obtain⟨K,hK⟩:∃ K,K=nd.keys.length:=⟨_,rfl⟩;dsimp only[sv];obtain⟨hs,hhs⟩:∃ x,x=hi.getD []:=⟨_,rfl⟩;rw[<-hhs];rw[<-hK] at h lb hi9 |-;replace hK:=qa hK;replace hhs:=qa hhs;obtain⟨W,hW,D,bW,sW⟩:=qf w #[st lo,st hs] 90;obtain⟨X,hX,DX,bX,sX⟩:=qf W #[st [],st []] 90;have HH:=qa (h.to0 (bW.trans (bX.mono bW.size)))
 have HB:=qa (bW.trans (bX.mono bW.size))
 have D':=(bX.block _ (xa D)).trans D
 obtain⟨⟨D0,D1⟩,DF⟩:=Qc D';obtain⟨⟨X0,X1⟩,XF⟩:=Qc DX;rw[sW] at DX X0 X1 XF;have BX:=qa (xb D' DX)
 have H9:Hid (∀ w9,Below w.heap.size w w9->RdT w9 (.slice a K c) nd.keys):=fun w9 b=>h.to0 b
 have HHb:Hid (∀ {y:Str} {j b4 off4:Nat},nd.keys[j]?=some y->a=some ⟨b4,off4,none⟩->b4<w.heap.size):=fun{y j b4 off4} hy e=>by
  obtain⟨b',off',e',hc⟩:=h.strAt hy;rw[e] at e';simp only[xr,XO,XS] at e';obtain⟨rfl,rfl⟩:=e';exact qe hc
 clear h D bW bX D' DX;go_enter Tryz.func95,Tryz.ntmps95
 go_upto_if 8 with fail
 rw[<-hW,<-hX];replace hW:=qa hW;replace hX:=qa hX;replace sW:=qa sW;replace sX:=qa sX
 go_cut [] from 8 to 14 (fun wx=>Hid (SpI w wx (st (Qi nd lo i)) (st hs)/\RdT wx (.slice a K c) nd.keys))
 case first =>
  by_cases h0:i=0
  ·have hq2:¬ (0:Int)<(i:Int):=by omega
   have hl:Hid (Qi nd lo i=lo):=by show _=_;rw[Qi,xj h0]
   replace h0:=qa h0
   go_wp2_with fail
   go_meet
   case rel=>exact⟨⟨by rw[hl.out];exact BX.out.1,BX.out.2,HB.out⟩,HH.out⟩
  have hq2:(0:Int)<(i:Int):=by omega
  obtain⟨j,hj⟩:∃ j,i=j+1:=⟨i-1,by omega⟩
  obtain⟨y,hy⟩:=qz nd.keys (k:=j) (by rw[<-hK.out];omega)
  have hl:Hid (Qi nd lo i=y):=by show _=_;rw[Qi,xh h0,hj,XN,xe,hy];rfl
  obtain⟨b4,off4,rfl,hc4⟩:=HH.out.strAt hy;have hj1:(i:Int)-1=(j:Int):=by omega
  have hj2:IntKind.i64.wrap (j:Int)=(j:Int):=xB _ (by omega)
  have hj3:(j:Int)<(K:Int):=by omega
  have hb4:b4<w.heap.size:=HHb.out hy rfl
  have FF:Hid (SpI w (X.setCell ⟨w.heap.size,0,none⟩ (st y)) (st y) (st hs)/\RdT (X.setCell ⟨w.heap.size,0,none⟩ (st y)) (.slice (some ⟨b4,off4,none⟩) K c) nd.keys):=⟨SpI.put0 ⟨BX.out.1,BX.out.2,HB.out⟩ _,H9.out _ (HB.out.setCell (xc _) _)⟩
  replace h0:=qa h0;replace hj:=qa hj;replace hy:=qa hy
  go_wp2_with fail
  go_meet
  case rel=>rw[hl.out];exact FF
 case rest =>
 clear HB HH BX D0 D1 DF X0 X1 XF;obtain⟨⟨D0,D1⟩,DF⟩:=Qc hcut.out.1.1;obtain⟨⟨X0,X1⟩,XF⟩:=Qc hcut.out.1.2.1
 go_upto_if 18 with fail
 go_cut [] from 18 to 23 (fun wx=>Hid (SpI w wx (st (Qi nd lo i)) (st ((qZ nd hi i).getD []))))
 case first =>
  by_cases h0:i<K
  ·have hq2:(i:Int)<(K:Int):=by omega
   obtain⟨y,hy⟩:=qz nd.keys (k:=i) (by rw[<-hK.out];omega)
   have hl:Hid (qZ nd hi i=some y):=by show _=_;rw[qZ,xj (by rw[<-hK.out];exact h0),xe,hy];rfl
   obtain⟨b4,off4,rfl,hc4⟩:=hcut.out.2.strAt hy;have FF:Hid (SpI w (wc.setCell ⟨w.heap.size,1,none⟩ (st y)) (st (Qi nd lo i)) (st y)):=SpI.put1 hcut.out.1 _
   replace hy:=qa hy
   go_wp2_with fail
   go_meet
   case rel=>rw[hl.out];exact FF
  have hq2:¬ (i:Int)<(K:Int):=by omega
  have hl:Hid (qZ nd hi i=hi):=by show _=_;rw[qZ,xh (by rw[<-hK.out];exact h0)]
  go_wp2_with fail
  go_meet
  case rel=>rw[hl.out,<-hhs.out];exact hcut.out.1
 case rest =>
 clear D0 D1 DF X0 X1 XF;obtain⟨⟨D0,D1⟩,DF⟩:=Qc hcut.out.1;obtain⟨⟨X0,X1⟩,XF⟩:=Qc hcut.out.2.1;go_wp2;refine Js rfl rfl (w.heap.size+1) rfl _ _ _ (qR hcut.out.2.1 _ _) _ Tryz.underlying90 rfl qqi ?_;exact⟨rfl,qF hcut.out.2.2 (show w.heap.size<=w.heap.size+1 by omega) _ _⟩
theorem BoolR.no' {p:Prop} {b:Bool} (hb:b=false) (h:¬ p) (k:Below w.heap.size w w'):BoolR p w w' (.returned (.bool b)):=by subst hb;exact BoolR.no h k
theorem BoolR.yes' {p:Prop} {b:Bool} (hb:b=true) (h:p) (k:Below w.heap.size w w'):BoolR p w w' (.returned (.bool b)):=by subst hb;exact BoolR.yes h k
def qn3 (lo:Str) (hi:Option Str) (l:List Str):Prop:=l.all (kin lo hi)=false
def qtc (p:Prop) (w w':World) (e:Ending):Prop:=∃ k:Int,e=.returned (.int .i64 k)/\((0<=k/\p)\/(k<0/\¬ p))/\Below w.heap.size w w'
theorem qns (w:World) (lo:Str) (hi:Option Str) (hh:qeh hi) (kv:Value) (l:List Str) (h:RdT w kv l):Calls Tryz.prog 125 #[kv,.func (.func 36) #[sv lo hi] #[]] w fun e w' =>
 qtc (qn3 lo hi l) w w' e:=by
 obtain⟨a,c,rfl⟩:=h.slice;have lb:=h.bd
 obtain⟨K,hK⟩:∃ K,K=l.length:=⟨_,rfl⟩;rw[<-hK] at h lb |-;replace hK:=qa hK;have HH:=qa h
 have KL:=qa (fun w k=>qbc w lo hi k hh)
 dsimp only[sv] at KL |-;generalize hi.getD []=hs at *;clear h hh;go_enter Tryz.func125,Tryz.ntmps125;go_wp2
 go_loopw [8] (fun p wr=>∃ i:Nat,i<=K/\p=.int .i64 i/\Hid (Below w.heap.size w wr/\∀ j k,j<i->l[j]?=some k->kin lo hi k=true)) (fun p _=>K-(intOf p).toNat)
 case atStart=>exact⟨0,xt _,rfl,qa ⟨xm _ _,fun j k h=>by omega⟩⟩
 case round =>
 obtain⟨i,hi9,rfl,hI⟩:=hrel;by_cases hlt:i<K
 ·have hq:(i:Int)<(K:Int):=by omega
  obtain⟨y,hy⟩:=qz l (k:=i) (by rw[<-hK.out];exact hlt)
  obtain⟨b,off,rfl,hc⟩:=(HH.out.to0 hI.out.1).strAt hy;replace hy:=qa hy
  go_wp2_with fail
  refine(KL.out _ _).mono ?_;rintro e w1 ⟨rfl,b1⟩;have HE:=qa (hI.out.1.trans (b1.mono hI.out.1.size))
  clear b1;cases hkv:kin lo hi y with
  | false =>
   have hz:Hid (qn3 lo hi l):=by
    show _=_
    rw[List.all_eq_false];exact⟨y,xQ hy.out,by simp[hkv]⟩
   replace hkv:=qa hkv;go_wp2;go_ret;exact⟨_,rfl,.inl ⟨by omega,hz.out⟩,HE.out⟩
  | true =>
   have hI':Hid (Below w.heap.size w w1/\∀ j k,j<i+1->l[j]?=some k->kin lo hi k=true):=⟨HE.out,fun j k hj hk=>by
    by_cases e:j=i
    ·subst e;rw[hy.out] at hk;simp only[xr] at hk;subst hk;exact hkv
    exact hI.out.2 j k (by omega) hk⟩
   replace hkv:=qa hkv;go_wp2;go_roundw
   case rel=>exact⟨i+1,by omega,by go_num,hI'⟩
   case measure=>simp[intOf];omega
 have hq:¬ (i:Int)<(K:Int):=by omega
 have hz:Hid (¬ qn3 lo hi l):=fun h=>by
  unfold qn3 at h;rw[qi3 fun j k hk=>hI.out.2 j k (by have:=(xn.1 hk).1;rw[<-hK.out] at this;omega) hk] at h
  cases h
 go_wp2;go_ret;exact⟨_,rfl,.inr ⟨by decide,hz.out⟩,hI.out.1⟩
theorem qjn (w:World) (lo:Str) (hi:Option Str) (hh:qeh hi) (kv:Value) (l:List Str) (h:RdT w kv l):Calls Tryz.prog 93 #[kv,.func (.func 36) #[sv lo hi] #[]] w fun e w' =>
 BoolR (qn3 lo hi l) w w' e:=by
 have KI:=qa (qns w lo hi hh kv l h)
 go_enter Tryz.func93,Tryz.ntmps93
 go_wp2_with fail
 refine KI.out.mono ?_;rintro e w1 ⟨k,rfl,hp,b1⟩;rcases hp with ⟨h0,hp⟩|⟨h0,hp⟩
 ·have HP:=qa hp
  have h1:decide (0<=k)=true:=xv h0
  clear hp;go_wp2;go_ret;exact BoolR.yes' rfl HP.out b1
 have HP:=qa hp
 have h1:decide (0<=k)=false:=xw (by omega)
 clear hp;go_wp2;go_ret;exact BoolR.no' rfl HP.out b1
def KpM (g m:Nat) (w U:World):Prop:=(∀ b,b<w.heap.size->b≠g->b≠m->U.heap[b]?=w.heap[b]?)/\w.heap.size<=U.heap.size/\∀ B,B<=g->B<=m->B<=w.heap.size->Below B w U
theorem KpM.of (h:Below w.heap.size w U):KpM g m w U:=⟨fun b hb _ _=>h.block b hb,h.size,fun B _ _ hB=>h.mono hB⟩
theorem KpM.refl (g m:Nat) (w:World):KpM g m w w:=KpM.of (xm _ _)
theorem KpM.trans (h:KpM g m w U) (k:KpM g m U V):KpM g m w V :=
 ⟨fun b hb h1 h2=>(k.1 b (xV hb h.2.1) h1 h2).trans (h.1 b hb h1 h2),xi h.2.1 k.2.1,fun B h1 h2 h3=>(h.2.2 B h1 h2 h3).trans (k.2.2 B h1 h2 (xi h3 h.2.1))⟩
theorem KpM.set (h:KpM g m w U) (i:Nat) (v:Value):KpM g m w (U.setCell ⟨g,i,none⟩ v) :=
 ⟨fun b hb h1 h2=>(xd _ _ _ _ h1).trans (h.1 b hb h1 h2),by simpa using h.2.1,fun B h1 h2 h3=>(h.2.2 B h1 h2 h3).setCell h1 _⟩
theorem KpM.map (h:KpM g m w U) (k:U.grownBy V (some m)):KpM g m w V :=
 ⟨fun b hb h1 h2=>(k.block b (xV hb h.2.1) (fun e=>h2 (by simpa using e))).trans (h.1 b hb h1 h2),xi h.2.1 k.size,fun B h1 h2 h3=>(h.2.2 B h1 h2 h3).grown k (xi h3 h.2.1) (fun j hj=>by simp only[xr] at hj;omega)⟩
theorem KpM.row (h:KpM g m w U) {n:Nat} (ho:w.ownsRow B T n v k cc) (hg:g<B) (hm:m<B):U.ownsRow B T n v k cc:=by
 refine⟨ho.1,?_⟩;rcases ho.2 with hn|⟨b,cap,cur,hv,hgb,hb,r⟩
 ·exact .inl hn
 exact .inr ⟨b,cap,cur,hv,hgb,(h.1 b (xa hb) (by omega) (by omega)).trans hb,r⟩
theorem KpM.node (h:KpM g m w U) {dv:Value} (ho:OwnN B w kv vv dv nd) (hg:g<B) (hm:m<B):OwnN B U kv vv dv nd:=⟨h.row ho.keys hg hm,h.row ho.vals hg hm,h.row ho.kids hg hm⟩
def NdOf (l:List Wrt) (B:Nat) (w:World) (i:Int) (v:Value):Prop:=∃ x nd kv vv dv,qH l i=some x/\QJ x=(nd,0)/\v=nv nd kv vv dv/\OwnN B w kv vv dv nd/\Dj kv vv dv
def Z8 (v:Value) (b:Nat):Prop:=∃ x y z u,v=.agg #[x,y,z,u]/\(y.ownBlock=some b\/z.ownBlock=some b\/u.ownBlock=some b)
theorem qo7 {dv:Value} (h:Z8 (nv nd kv vv dv) b):kv.ownBlock=some b\/vv.ownBlock=some b\/dv.ownBlock=some b:=by
 obtain⟨x,y,z,u,e,h⟩:=h;simp only[nv,Value.agg.injEq,Array.mk.injEq,KZ,XS] at e;obtain⟨_,rfl,rfl,rfl⟩:=e;exact h
theorem OwnN.row {dv:Value} (o:OwnN B w kv vv dv nd) (h:Z8 (nv nd kv vv dv) b):B<=b/\b<w.heap.size:=by
 rcases qo7 h with h|h|h
 ·exact xo o.keys b h
 ·exact xo o.vals b h
 exact xo o.kids b h
theorem qnc {m:Int->Option Value} (h:∀ i v,m i=some v->NdOf l B w i v) {dv:Value} (o:OwnN w.heap.size w' kv vv dv nd):∀ i u,m i=some u->∀ b,Z8 (nv nd kv vv dv) b->¬ Z8 u b:=fun i u hu b hb hc=>by
 obtain⟨x,nd',kv',vv',dv',_,_,rfl,o',_⟩:=h i u hu;have h1:=(o.row hb).1
 have h2:=(o'.row hc).2
 omega
abbrev qrb (t:Tr) (pv:Value) (bm:Nat) (s:Sw):Array Value:=#[.int .i64 t.root,.int .i64 t.next,pv,.map (some bm),.int .i64 s.prs.length,.int .i64 (Ve s)]
structure PWk (w0 w:World) (B g bm:Nat) (t:Tr) (pv:Value) (s:Sw) (m:Int->Option Value):Prop where
 box:w.heap[g]?=some (.cells (qrb t pv bm s) 79 (0,0))
 map:MapI w bm s.seen.length m
 has:∀ i,(m i).isSome=decide (i∈s.seen)
 nds:∀ i v,m i=some v->NdOf t.pages B w i v
 pg:RdC w0 pv t.pages
 ok:SwOk t.next s
 dep:s.dep=none↔s.prs=[]
 bel:Below w0.heap.size w0 w
 hg:w0.heap.size<=g/\g<B
 hm:w0.heap.size<=bm/\bm<B
 apt:∀ i j v u,m i=some v->m j=some u->i≠j->∀ b,Z8 v b->¬ Z8 u b
theorem PWk.to {s:Sw} {m:Int->Option Value} (h:PWk w0 w B g bm t pv s m) (hb:Below w.heap.size w w'):PWk w0 w' B g bm t pv s m:=by
 refine⟨(hb.block _ (xa h.box)).trans h.box,h.map.kept (hb.block _ h.map.lt),h.has,fun i v hv=>?_,h.pg,h.ok,h.dep,h.bel.trans (hb.mono h.bel.size),h.hg,h.hm,h.apt⟩;obtain⟨x,nd,kv,vv,dv,h1,h2,h3,h4,h5⟩:=h.nds i v hv;exact⟨x,nd,kv,vv,dv,h1,h2,h3,h4.to hb,h5⟩
theorem PWk.cell {s:Sw} {m:Int->Option Value} (h:PWk w0 w B g bm t pv s m) :
 (w.cell? ⟨g,0,none⟩=some (.int .i64 t.root)/\w.cell? ⟨g,1,none⟩=some (.int .i64 t.next)/\w.cell? ⟨g,2,none⟩=some pv/\w.cell? ⟨g,3,none⟩=some (.map (some bm)))/\
 (w.cell? ⟨g,4,none⟩=some (.int .i64 s.prs.length)/\w.cell? ⟨g,5,none⟩=some (.int .i64 (Ve s)))/\∀ i,w.frozen? ⟨g,i,none⟩=false :=
 ⟨⟨qt h.box rfl,qt h.box rfl,qt h.box rfl,qt h.box rfl⟩,⟨qt h.box rfl,qt h.box rfl⟩,j5 h.box⟩
theorem NdOf.keep {i:Int} (h:NdOf l B w i v) (k:KpM g bm w U) (hg:g<B) (hm:bm<B):NdOf l B U i v:=by
 obtain⟨x,nd,kv,vv,dv,h1,h2,h3,h4,h5⟩:=h;exact⟨x,nd,kv,vv,dv,h1,h2,h3,k.node h4 hg hm,h5⟩
theorem PWk.see {s:Sw} {m:Int->Option Value} (h:PWk w0 w B g bm t pv s m) (hgr:w.grownBy w5 (some bm)) (hmap:MapI w5 bm (s.seen.length+1) (fun j=>if j=id then some v else m j))
 (hi:1<=id/\id<t.next) (hn:id ∉ s.seen) (hnd:NdOf t.pages B w id v) (hfr:∀ i u,m i=some u->∀ b,Z8 v b->¬ Z8 u b):PWk w0 w5 B g bm t pv ⟨id::s.seen,s.dep,s.prs⟩ (fun j=>if j=id then some v else m j)/\KpM g bm w w5:=by
 have k:KpM g bm w w5:=(KpM.refl g bm w).map hgr
 have hne:=h.map.ne h.box
 refine⟨⟨(hgr.block g (xa h.box) (fun e=>hne (by simpa using e.symm))).trans h.box,hmap,fun i=>?_,fun i u hu=>?_,h.pg,?_,h.dep,h.bel.trans (k.2.2 _ h.hg.1 h.hm.1 h.bel.size),h.hg,h.hm,?_⟩,k⟩
 ·dsimp only;by_cases e:i=id
  ·subst e;simp
  rw[xh e,h.has];simp[e]
 ·by_cases e:i=id
  ·subst e;rw[xj rfl] at hu;simp only[xr] at hu;subst hu;exact hnd.keep k h.hg.2 h.hm.2
  rw[xh e] at hu;exact(h.nds i u hu).keep k h.hg.2 h.hm.2
 ·have:=h.ok.see hi hn s.dep (l:=[]) (by simp)
  simpa using this
 intro i j v1 u1 hv1 hu1 hij b hb1 hb2;by_cases e1:i=id
 ·rw[xj e1] at hv1;rw[xh (fun e=>hij (e1.trans e.symm))] at hu1;cases hv1
  exact hfr j u1 hu1 b hb1 hb2
 rw[xh e1] at hv1;by_cases e2:j=id
 ·rw[xj e2] at hu1;cases hu1
  exact hfr i v1 hv1 b hb2 hb1
 rw[xh e2] at hu1;exact h.apt i j v1 u1 hv1 hu1 hij b hb1 hb2
theorem PWk.leaf {w6:World} {s:Sw} {m:Int->Option Value} (h:PWk w0 w B g bm t pv s m) {l:List Pr} (kg:KpG g w w6)
 (hb:w6.heap[g]?=some (.cells #[.int .i64 t.root,.int .i64 t.next,pv,.map (some bm),.int .i64 ((s.prs.length+l.length:Nat):Int),.int .i64 (16-(f:Int))] 79 (0,0))) (hl:l≠[]) (ok:SwOk t.next ⟨s.seen,some f,s.prs++l⟩) :
 PWk w0 w6 B g bm t pv ⟨s.seen,some f,s.prs++l⟩ m:=by
 have k:KpM g bm w w6:=⟨fun b h1 h2 _=>kg.1 b h1 h2,kg.2.1,fun C h1 _ h3=>kg.2.2 C h1 h3⟩
 have hne:=h.map.ne h.box
 refine⟨?_,h.map.kept (kg.1 bm h.map.lt hne),h.has,fun i u hu=>(h.nds i u hu).keep k h.hg.2 h.hm.2,h.pg,ok,?_,h.bel.trans (k.2.2 _ h.hg.1 h.hm.1 h.bel.size),h.hg,h.hm,h.apt⟩
 ·rw[hb];simp[qrb,Ve]
 simp[hl]
theorem QG (w:World):(zeroValue 84).run Tryz.prog w=.ok (.agg #[.bool false,.slice none 0 0,.slice none 0 0,.slice none 0 0]) w:=by kernel_rfl
def CntR (w w':World) (g:Nat) (c0 c1 c2 c3:Value) (L n:Nat) (D d:Int) (e:Ending):Prop:=∃ R:Bool,e=.returned (.bool R)/\KpG g w w' /\
 w'.heap[g]?=some (.cells #[c0,c1,c2,c3,.int .i64 ((L+n:Nat):Int),.int .i64 (if L=0 then d else D)] 79 (0,0))/\(R=true↔(0<n/\d=(if L=0 then d else D)/\L+n<=4096))
theorem CntR.no {n:Nat} {d:Int} (h1:KpG g w w') (h2:w'.heap[g]?=some (.cells #[c0,c1,c2,c3,.int .i64 ((L+n:Nat):Int),.int .i64 (if L=0 then d else D)] 79 (0,0))) (h3:¬ (0<n/\d=(if L=0 then d else D)/\L+n<=4096)) {b:Bool} (hb:b=false):CntR w w' g c0 c1 c2 c3 L n D d (.returned (.bool b)):=⟨false,by rw[hb],h1,h2,⟨fun h=>(by cases h),fun h=>absurd h h3⟩⟩
theorem CntR.yes {n:Nat} {d:Int} (h1:KpG g w w') (h2:w'.heap[g]?=some (.cells #[c0,c1,c2,c3,.int .i64 ((L+n:Nat):Int),.int .i64 (if L=0 then d else D)] 79 (0,0))) (h3:(0<n/\d=(if L=0 then d else D)/\L+n<=4096)) {b:Bool} (hb:b=true):CntR w w' g c0 c1 c2 c3 L n D d (.returned (.bool b)):=⟨true,by rw[hb],h1,h2,⟨fun _=>h3,fun _=>rfl⟩⟩
theorem qhr (w:World) (g:Nat) (c0 c1 c2 c3:Value) (L n:Nat) (D d:Int) (h:w.heap[g]?=some (.cells #[c0,c1,c2,c3,.int .i64 (L:Int),.int .i64 D] 79 (0,0))) (hL:L<=100000000) (hn:n<=1000) :
 Calls Tryz.prog 94 #[.pointer (some ⟨g,0,none⟩),.int .i64 (n:Int),.int .i64 d] w fun e w'=>CntR w w' g c0 c1 c2 c3 L n D d e:=by
 obtain⟨E,hE⟩:∃ E:Int,E=if L=0 then d else D:=⟨_,rfl⟩
 obtain⟨S,hS⟩:∃ S:Nat,(L:Int)+(n:Int)=(S:Int):=⟨L+n,by omega⟩
 have hS2:IntKind.i64.wrap (S:Int)=(S:Int):=xB _ (by omega)
 have C4:w.cell? ⟨g,4,none⟩=some (.int .i64 (L:Int)):=qt h rfl
 have C5:w.cell? ⟨g,5,none⟩=some (.int .i64 D):=qt h rfl
 have CF:=j5 h
 have HH:=qa h
 clear h;go_enter Tryz.func94,Tryz.ntmps94
 go_upto_if 11 with fail
 go_cut [] from 11 to 15 (fun wx=>Hid (KpG g w wx/\wx.heap[g]?=some (.cells #[c0,c1,c2,c3,.int .i64 (L:Int),.int .i64 E] 79 (0,0))))
 case first =>
  by_cases h0:L=0
  ·have hq:((L:Int) == 0)=true:=by simp[h0]
   have FF:Hid (KpG g w (w.setCell ⟨g,5,none⟩ (.int .i64 d))/\(w.setCell ⟨g,5,none⟩ (.int .i64 d)).heap[g]?=some (.cells #[c0,c1,c2,c3,.int .i64 (L:Int),.int .i64 E] 79 (0,0))):=by
    refine⟨(KpG.refl g w).set 5 _,?_⟩;rw[hE,xj h0];have:=qw HH.out 5 (.int .i64 d)
    simpa using this
   replace h0:=qa h0
   go_wp2_with fail
   go_meet
   case rel=>exact FF
  have hq:((L:Int) == 0)=false:=by simp[h0]
  have FF:Hid (KpG g w w/\w.heap[g]?=some (.cells #[c0,c1,c2,c3,.int .i64 (L:Int),.int .i64 E] 79 (0,0))):=by
   refine⟨KpG.refl g w,?_⟩;rw[hE,xh h0];exact HH.out
  replace h0:=qa h0
  go_wp2_with fail
  go_meet
  case rel=>exact FF
 case rest =>
 clear C4 C5 CF HH;have C4:wc.cell? ⟨g,4,none⟩=some (.int .i64 (L:Int)):=qt hcut.out.2 rfl
 have C5:wc.cell? ⟨g,5,none⟩=some (.int .i64 E):=qt hcut.out.2 rfl
 have CF:=j5 hcut.out.2
 obtain⟨X,hX⟩:∃ X,X=wc.setCell ⟨g,4,none⟩ (.int .i64 (S:Int)):=⟨_,rfl⟩
 have HX:Hid (KpG g w X/\X.heap[g]?=some (.cells #[c0,c1,c2,c3,.int .i64 ((L+n:Nat):Int),.int .i64 (if L=0 then d else D)] 79 (0,0))):=by
  rw[hX];refine⟨hcut.out.1.set 4 _,?_⟩;have:=qw hcut.out.2 4 (.int .i64 (S:Int))
  rw[<-hE,show ((L+n:Nat):Int)=(S:Int) from by omega]
  simpa using this
 have X4:X.cell? ⟨g,4,none⟩=some (.int .i64 (S:Int)):=by rw[show (S:Int)=((L+n:Nat):Int) from by omega];exact qt HX.out.2 rfl
 have X5:X.cell? ⟨g,5,none⟩=some (.int .i64 E):=by rw[hE];exact qt HX.out.2 rfl
 replace hE:=qa hE
 go_upto_region 4 with fail
 rw[<-hX];clear hX C4 C5 CF;by_cases c1:(n:Int)>0
 ·by_cases c2:d=E
  ·have hq:(d == E)=true:=by simp[c2]
   by_cases c4:(S:Int)<=4096
   ·have hz:Hid (0<n/\d=(if L=0 then d else D)/\L+n<=4096):=⟨by omega,by rw[<-hE.out];exact c2,by omega⟩
    replace c2:=qa c2;go_wp2;go_ret;exact CntR.yes HX.out.1 HX.out.2 hz.out (by first|rfl|simp[c4]|(simp;omega))
   have hz:Hid (¬ (0<n/\d=(if L=0 then d else D)/\L+n<=4096)):=fun h=>by have:=h.2.2;omega
   replace c2:=qa c2;go_wp2;go_ret;exact CntR.no HX.out.1 HX.out.2 hz.out (by first|rfl|simp[c4]|(simp;omega))
  have hq:(d == E)=false:=by simp[c2]
  have hz:Hid (¬ (0<n/\d=(if L=0 then d else D)/\L+n<=4096)):=fun h=>by have:=h.2.1;rw[<-hE.out] at this;exact c2 this
  replace c2:=qa c2;go_wp2;go_ret;exact CntR.no HX.out.1 HX.out.2 hz.out (by first|rfl|simp)
 have hz:Hid (¬ (0<n/\d=(if L=0 then d else D)/\L+n<=4096)):=fun h=>by have:=h.1;omega
 go_wp2;go_ret;exact CntR.no HX.out.1 HX.out.2 hz.out (by first|rfl|simp)
theorem qf1:∀ {l:List Wrt} {id:Int} {x:List UInt8},qH l id=some x->∃ (i:Nat) (y:Wrt),l[i]?=some y/\y.1=id/\y.2=x
 | [],_,_,h=>by cases h
 | y::r,id,x,h=>by
  unfold qH at h
  split at h
  ·rename_i e
   exact⟨0,y,rfl,e,by simpa using h⟩
  obtain⟨i,z,h1,h2⟩:=qf1 h;exact⟨i+1,z,by simpa using h1,h2⟩
theorem Yy {next:Int} (hu:je next l l.length) (h:qH l id=some x):1<=id/\id<next:=by
 obtain⟨i,y,h1,rfl,_⟩:=qf1 h;have hi:=(xn.1 h1).1
 have h2:=(hu i hi).2
 have h3:=qdg hu i hi
 rw[JC h1] at h2 h3;omega
theorem Qq (h:w.cell? ⟨b,i,none⟩=some v) (o:Obj):(w.alloc o).cell? ⟨b,i,none⟩=some v :=
 (((xm w.heap.size w).alloc (xc _) o).cell (p:=⟨b,i,none⟩) (qe h)).trans h
theorem qpa (w0:World) (t:Tr) (pv:Value) (g bs n:Nat) (hn:(n:Int)=t.next+1) (hN:1<=t.next/\t.next<=65536) (hU:je t.next t.pages t.pages.length) :
 ∀ (f:Nat),f<=16->∀ (w:World) (prv:Value) (s:Sw) (bad:Bool) (id:Int) (lo:Str) (hi:Option Str),RWk w0 w g bs n t pv prv s bad ->
 Calls Tryz.prog 106 #[.pointer (some ⟨g,0,none⟩),.int .i64 id,.int .i64 (17-(f:Int)),st lo,st (hi.getD []),.bool hi.isSome] w fun e w' =>
  e=.returned (.tuple #[])/\WkRes w0 w w' g bs n t pv (wk t.pages f id lo hi s) bad:=by
 intro f
 induction f with
 | zero =>
  intro hf w prv s bad id lo hi H;obtain⟨root,next,ps⟩:=t
  obtain⟨a,c,rfl⟩:=H.pg.slice;have lp:ps.length<=65536:=by have:=Zu hU hN.1;dsimp only at this hN;omega
  have KP:=qa (VA w0 w _ ⟨root,next,ps⟩ id H.pg H.bel (YK hU) lp)
  obtain⟨dep,hdep⟩:∃ d:Int,d=17-((0:Nat):Int):=⟨_,rfl⟩;obtain⟨hs,hhs⟩:∃ x,x=hi.getD []:=⟨_,rfl⟩;obtain⟨hb,hhb⟩:∃ x,x=hi.isSome:=⟨_,rfl⟩;rw[<-hdep,<-hhs,<-hhb];have hd16:dep>16:=by omega
  replace hdep:=qa hdep;replace hhs:=qa hhs;replace hhb:=qa hhb;obtain⟨⟨C0,C1,C2,C3⟩,⟨C4,C5,C6,C7⟩,CF⟩:=H.cell;have hsok:=qa H.ok
  replace H:=qa H;replace hU:=qa hU;dsimp only at C0 C1 C2 C3 C4 C5 C6 C7 hn hN;replace lp:=qa lp;replace hn:=qa hn;replace hN:=qa hN;go_enter Tryz.func106,Tryz.ntmps106
  go_wp2_with fail
  refine KP.out.mono ?_;rintro e w1 ⟨bv,ok,rfl,hp,b1⟩;clear C0 C1 C2 C3 C4 C5 C6 C7 CF;have H1:=H.out.to b1
  have k1:=KeepW.below b1
  obtain⟨⟨C0,C1,C2,C3⟩,⟨C4,C5,C6,C7⟩,CF⟩:=H1.cell;replace H1:=qa (xb H1 k1);dsimp only at C0 C1 C2 C3 C4 C5 C6 C7;clear KP H b1 k1;cases bad with
  | true =>
   replace hp:=qa hp;go_wp2
   (try simp only[Exit.inBlock,Exit.then])
   refine Xk (Xp rfl _ _ _) rfl ?_;obtain⟨r1,r2⟩:=H1.out.1.bad;exact⟨rfl,WkRes.no r1 (H1.out.2.trans r2) (fun h=>by cases h)⟩
  | false =>
   cases ok with
   | false =>
    have hx:Hid (qH ps id=none):=by
     rcases hp with ⟨o,_⟩|⟨_,o,_⟩
     ·cases o
     exact o
    clear hp;go_wp2
    (try simp only[Exit.inBlock,Exit.then])
    refine Xk (Xp rfl _ _ _) rfl ?_;obtain⟨r1,r2⟩:=H1.out.1.bad;exact⟨rfl,WkRes.no r1 (H1.out.2.trans r2) (fun _=>Jr hx.out)⟩
   | true =>
    replace hp:=qa hp;go_wp2
    (try simp only[Exit.inBlock,Exit.then])
    refine Xk (Xp rfl _ _ _) rfl ?_;obtain⟨r1,r2⟩:=H1.out.1.bad;exact⟨rfl,WkRes.no r1 (H1.out.2.trans r2) (fun _=>rfl)⟩
 | succ f ih =>
  intro hf w prv s bad id lo hi H;obtain⟨root,next,ps⟩:=t
  obtain⟨a,c,rfl⟩:=H.pg.slice;have lp:ps.length<=65536:=by have:=Zu hU hN.1;dsimp only at this hN;omega
  have KP:=qa (VA w0 w _ ⟨root,next,ps⟩ id H.pg H.bel (YK hU) lp)
  obtain⟨dep,hdep⟩:∃ d:Int,d=17-((f+1:Nat):Int):=⟨_,rfl⟩;obtain⟨hs,hhs⟩:∃ x,x=hi.getD []:=⟨_,rfl⟩;obtain⟨hb,hhb⟩:∃ x,x=hi.isSome:=⟨_,rfl⟩;rw[<-hdep,<-hhs,<-hhb];have hd16:¬ dep>16:=by omega
  replace hdep:=qa hdep;replace hhs:=qa hhs;replace hhb:=qa hhb;obtain⟨⟨C0,C1,C2,C3⟩,⟨C4,C5,C6,C7⟩,CF⟩:=H.cell;have hsok:=qa H.ok
  replace H:=qa H;replace hU:=qa hU;dsimp only at C0 C1 C2 C3 C4 C5 C6 C7 hn hN;replace ih:=qa ih;replace lp:=qa lp;replace hn:=qa hn;replace hN:=qa hN;go_enter Tryz.func106,Tryz.ntmps106
  go_wp2_with fail
  refine KP.out.mono ?_;rintro e w1 ⟨bv,ok,rfl,hp,b1⟩;clear C0 C1 C2 C3 C4 C5 C6 C7 CF;have H1:=H.out.to b1
  have k1:=KeepW.below b1
  obtain⟨⟨C0,C1,C2,C3⟩,⟨C4,C5,C6,C7⟩,CF⟩:=H1.cell;replace H1:=qa (xb H1 k1);dsimp only at C0 C1 C2 C3 C4 C5 C6 C7;clear KP H b1 k1;cases bad with
  | true =>
   replace hp:=qa hp;go_wp2
   (try simp only[Exit.inBlock,Exit.then])
   refine Xk (Xp rfl _ _ _) rfl ?_;obtain⟨r1,r2⟩:=H1.out.1.bad;exact⟨rfl,WkRes.no r1 (H1.out.2.trans r2) (fun h=>by cases h)⟩
  | false =>
   cases ok with
   | false =>
    have hx:Hid (qH ps id=none):=by
     rcases hp with ⟨o,_⟩|⟨_,o,_⟩
     ·cases o
     exact o
    clear hp;go_wp2
    (try simp only[Exit.inBlock,Exit.then])
    refine Xk (Xp rfl _ _ _) rfl ?_;obtain⟨r1,r2⟩:=H1.out.1.bad;exact⟨rfl,WkRes.no r1 (H1.out.2.trans r2) (fun _=>Jr hx.out)⟩
   | true =>
    obtain⟨x,hx,hr⟩:∃ x,qH ps id=some x/\Rd w0 bv x:=by
     rcases hp with ⟨_,o⟩|⟨o,_⟩
     ·exact o
     cases o
    clear hp;have hb1:=Yy hU.out hx
    obtain⟨ni,hni⟩:∃ ni:Nat,id=(ni:Int):=⟨id.toNat,by omega⟩
    subst hni;have hnn:ni<n:=by have:=hn.out;omega
    obtain⟨S1,S2⟩:=H1.out.1.seenAt hnn;have hin:(ni:Int)<(n:Int):=by omega
    replace hx:=qa hx;replace hr:=qa hr;by_cases hs1:(ni:Int)∈s.seen
    ·rw[xv hs1] at S1;have hz:Hid (wk ps (f+1) (ni:Int) lo hi s=none):=Yk hs1
     replace hs1:=qa hs1;go_wp2
     (try simp only[Exit.inBlock,Exit.then])
     refine Xk (Xp rfl _ _ _) rfl ?_;obtain⟨r1,r2⟩:=H1.out.1.bad;exact⟨rfl,WkRes.no r1 (H1.out.2.trans r2) (fun _=>hz.out)⟩
    rw[xw hs1] at S1;replace hs1:=qa hs1;obtain⟨r1,r2⟩:=H1.out.1.see hb1 hs1.out;have H2:=qa (xb r1 (H1.out.2.trans r2))
    have KD:=qa (qkk _ bv x (hr.out.to H2.out.1.bel))
    clear r1 r2
    go_wp2_with fail
    refine KD.out.mono ?_;rintro e w3 ⟨nd,err,kv,vv,dv,rfl,hd,hon,b3⟩;obtain⟨U,hUU,DU,bU,sU⟩:=qf w3 #[.bool nd.leaf,kv,vv,dv] 206;have bb:=b3.trans (bU.mono b3.size)
    have H3:=qa (xb (H2.out.1.to bb) (H2.out.2.trans (KeepW.below bb)))
    have HN:Hid (NdAt U w3.heap.size kv vv dv nd):=⟨DU,(hon.to bU).mono (xt _)⟩
    obtain⟨⟨C0,C1,C2,C3⟩,⟨C4,C5,C6,C7⟩,CF⟩:=H3.out.1.cell;obtain⟨E0,E1,E2,E3⟩:=HN.out.cell;obtain⟨ka,kc,va,vc,da,dc,rfl,rfl,rfl⟩:=hon.rd.slices;rw[hUU] at C0 C1 C2 C3 C4 C5 C6 C7 CF E0 E1 E2 E3;dsimp only at C0 C1 C2 C3 C4 C5 C6 C7;clear KD bb b3 bU hon H2 H1 DU sU S1 S2 hr;rcases hd with ⟨rfl,hd⟩|⟨he,rfl,hd⟩
    rotate_left
    ·have hz:Hid (wk ps (f+1) (ni:Int) lo hi s=none):=qcy hx.out hd
     have hq:(err != 0)=true:=by simpa using he
     replace he:=qa he;replace hd:=qa hd;go_wp2
     (try simp only[Exit.inBlock,Exit.then])
     refine Xk (Xp rfl _ _ _) rfl ?_;rw[<-hUU];obtain⟨r1,r2⟩:=H3.out.1.bad;exact⟨rfl,WkRes.no r1 (H3.out.2.trans r2) (fun _=>hz.out)⟩
    have hok:NOk nd:=by have:=(vB (xs:=x) (by rw[hd])).1;rw[hd] at this;exact this
    replace hd:=qa hd;replace hok:=qa hok;go_wp2;rw[<-hUU];replace hUU:=qa hUU;clear C0 C1 C2 C3 C4 C5 C6 C7 CF E0 E1 E2 E3;obtain⟨E0,E1,E2,E3⟩:=HN.out.cell;obtain⟨⟨C0,C1,C2,C3⟩,⟨C4,C5,C6,C7⟩,CF⟩:=H3.out.1.cell;dsimp only at C0 C1 C2 C3 C4 C5 C6 C7;obtain⟨K,hK⟩:∃ K,K=nd.keys.length:=⟨_,rfl⟩;obtain⟨V,hV⟩:∃ V,V=nd.vals.length:=⟨_,rfl⟩;obtain⟨D,hD⟩:∃ D,D=nd.kids.length:=⟨_,rfl⟩;rw[<-hK] at E1 HN;rw[<-hV] at E2 HN;rw[<-hD] at E3 HN;have hK3:K<=300:=by have:=(JI hok.out).2;omega
    replace hK:=qa hK;replace hV:=qa hV;replace hD:=qa hD;obtain⟨nb,hnb⟩:∃ nb,nb=w3.heap.size:=⟨_,rfl⟩;rw[<-hnb] at HN E0 E1 E2 E3 |-;clear hnb
    have hkf:Hid (∀ x,kin lo hi x=(!slt x lo&&(!hb||slt x hs))):=fun x=>by
     rw[hhb.out,hhs.out];cases hi<;>simp[kin]
    go_loopw [16] (fun p wr=>∃ i:Nat,i<=K/\p=.int .i64 i/\U=wr/\Hid (∀ j k,j<i->nd.keys[j]?=some k->kin lo hi k=true)) (fun p _=>K-(intOf p).toNat)
    case atStart=>exact⟨0,xt _,rfl,rfl,qa fun j k h=>by omega⟩
    case round =>
    obtain⟨i,hi2,rfl,rfl,hI⟩:=hrel;by_cases hlt:i<K
    ·have hq:(i:Int)<(K:Int):=by omega
     obtain⟨y,hy⟩:=qz nd.keys (k:=i) (by rw[<-hK.out];exact hlt)
     obtain⟨b,off,rfl,hc⟩:=HN.out.own.keys.rd.strAt hy;replace hy:=qa hy
     go_upto_region 10 with fail
     go_cut [96] from 71 to 99 (fun s wx=>s=.bool (!kin lo hi y)/\U=wx)
     case first =>
      cases hl:Op.bytesLess y lo with
      | true =>
       have hkv:Hid (kin lo hi y=false):=by show _=_;rw[hkf.out y,show slt y lo=true from hl];rfl
       go_wp2_with fail
       go_meet
       case rel=>exact⟨by rw[hkv.out];rfl,rfl⟩
      | false =>
       cases hb with
       | false =>
        have hkv:Hid (kin lo hi y=true):=by show _=_;rw[hkf.out y,show slt y lo=false from hl];rfl
        go_wp2_with fail
        go_meet
        case rel=>exact⟨by rw[hkv.out];rfl,rfl⟩
       | true =>
        have hkv:Hid (kin lo hi y=Op.bytesLess y hs):=by show _=_;rw[hkf.out y,show slt y lo=false from hl];rfl
        go_wp2_with fail
        go_meet
        case rel=>exact⟨by rw[hkv.out],rfl⟩
     case rest =>
     obtain⟨rfl,rfl⟩:=hcut;cases hkv:kin lo hi y with
     | false =>
      have hz:Hid (wk ps (f+1) (ni:Int) lo hi s=none):=qra hx.out (by rw[hd.out];exact hy.out) hkv
      go_wp2
      (try simp only[Exit.inBlock,Exit.then])
      refine Xk (Xp rfl _ _ _) rfl ?_;obtain⟨r1,r2⟩:=H3.out.1.bad;exact⟨rfl,WkRes.no r1 (H3.out.2.trans r2) (fun _=>hz.out)⟩
     | true =>
      have hI':Hid (∀ j k,j<i+1->nd.keys[j]?=some k->kin lo hi k=true):=fun j k hj hk=>by
       by_cases e:j=i
       ·subst e;rw[hy.out] at hk;simp only[xr] at hk;subst hk;exact hkv
       exact hI.out j k (by omega) hk
      replace hkv:=qa hkv;go_wp2;go_roundw
      case rel=>exact⟨i+1,by omega,by go_num,trivial,hI'⟩
      case measure=>simp[intOf];omega
    have hq:¬ (i:Int)<(K:Int):=by omega
    have hall:Hid (nd.keys.all (kin lo hi)=true):=qi3 fun j k hk=>hI.out j k (by have:=(xn.1 hk).1;rw[<-hK.out] at this;omega) hk
    clear hI hkf;cases hlf:nd.leaf with
    | true =>
     have hW:=qa (yq (f:=f) hx.out hs1.out hd.out hall.out hlf)
     obtain⟨s1,hs1'⟩:∃ s1:Sw,s1=⟨(ni:Int)::s.seen,s.dep,s.prs⟩:=⟨_,rfl⟩;rw[hlf] at E0;rw[<-hs1'] at H3 C5;obtain⟨sd,hsd⟩:∃ d:Int,d=Ve s1:=⟨_,rfl⟩;obtain⟨sa,hsa⟩:∃ b:Bool,b=s.dep.isSome:=⟨_,rfl⟩;rw[<-hsd] at C5;rw[<-hsa] at C6;obtain⟨cnd,hcnd⟩:∃ c:Bool,c=decide (nd.keys=[]\/(s.dep≠none/\s.dep≠some f)):=⟨_,rfl⟩;have hde:Hid (s1.dep=s.dep):=by show _=_;rw[hs1']
     replace hsd:Hid (sd=match s.dep with|none=>0|some f=>16-(f:Int)):=by show _=_;rw[hsd,Ve,hde.out];cases s.dep<;>rfl
     replace hlf:=qa hlf;replace hsa:=qa hsa;replace hs1':=qa hs1';replace hcnd:=qa hcnd;replace hall:=qa hall
     go_upto_region 13 with fail
     go_cut [119] from 71 to 99 (fun s wx=>s=.bool cnd/\U=wx)
     case first =>
      by_cases hK0:K=0
      ·have hq2:((K:Int) == 0)=true:=by simp[hK0]
       have hc1:Hid (cnd=true):=by
        show _=_
        rw[hcnd.out];exact xv (.inl (xq (by rw[<-hK.out];exact hK0)))
       replace hK0:=qa hK0
       go_wp2_with fail
       go_meet
       case rel=>exact⟨by rw[hc1.out],rfl⟩
      have hq2:((K:Int) == 0)=false:=by simp[hK0]
      have hne:Hid (nd.keys≠[]):=fun h=>hK0 (by rw[hK.out,h];rfl)
      replace hK0:=qa hK0;cases sa with
      | false =>
       have hc1:Hid (cnd=false):=by
        show _=_
        rw[hcnd.out];refine xw fun h=>?_;rcases h with h|⟨h,_⟩
        ·exact hne.out h
        have:=hsa.out;cases hd2:s.dep<;>simp[hd2] at h this
       go_wp2_with fail
       go_meet
       case rel=>exact⟨by rw[hc1.out],rfl⟩
      | true =>
       have hc1:Hid (cnd=(sd != dep)):=by
        show _=_
        have e1:=hsa.out
        have e2:=hsd.out
        have e3:=hdep.out
        rw[hcnd.out];cases hd2:s.dep with
        | none=>rw[hd2] at e1;cases e1
        | some f' =>
         rw[hd2] at e2;dsimp only at e2;have hn:=hne.out
         by_cases ef:f'=f
         ·subst ef;have:sd=dep:=by omega
          simp[hn,this]
         have:sd≠dep:=by omega
         simp[hn,this,ef]
       go_wp2_with fail
       go_meet
       case rel=>exact⟨by rw[hc1.out],rfl⟩
     case rest =>
     obtain⟨rfl,rfl⟩:=hcut
     go_upto_if 119 with fail
     clear C5 C6 C7
     go_cut [] from 71 to 99 (fun wx=>Hid (RWk w0 wx g bs n ⟨root,next,ps⟩ (.slice a ps.length c) prv s1 cnd/\KeepW U wx))
     case first =>
      cases cnd with
      | true =>
       go_wp2_with fail
       go_meet
       case rel=>exact H3.out.1.bad
      | false =>
       go_wp2_with fail
       go_meet
       case rel=>exact⟨H3.out.1,KeepW.refl _⟩
     case rest =>
     replace H3:=qa H3.out.2;obtain⟨⟨C0,C1,C2,C3⟩,⟨C4,C5,C6,C7⟩,CF⟩:=hcut.out.1.cell;dsimp only at C0 C1 C2 C3 C4 C5 C6 C7
     have hX:Hid (RWk w0 ((wc.setCell ⟨g,6,none⟩ (.bool true)).setCell ⟨g,5,none⟩ (.int .i64 dep)) g bs n ⟨root,next,ps⟩ (.slice a ps.length c) prv ⟨s1.seen,some f,s1.prs++(npr nd).take 0⟩ cnd /\
      KeepW U ((wc.setCell ⟨g,6,none⟩ (.bool true)).setCell ⟨g,5,none⟩ (.int .i64 dep))):=by
      have e:dep=16-(f:Int):=by have:=hdep.out;omega
      obtain⟨a1,a2⟩:=hcut.out.1.deep f;rw[e];exact⟨by simpa using a1,hcut.out.2.trans a2⟩
     go_wp2;clear C0 C1 C2 C3 C4 C5 C6 C7 CF hcut;generalize (wc.setCell ⟨g,6,none⟩ (.bool true)).setCell ⟨g,5,none⟩ (.int .i64 dep)=W6 at *
     have hlv:Hid (V=K):=by
      have h1:=hok.out.2.1
      have h2:=hlf.out
      show V=K
      rw[hV.out,hK.out];unfold qP at h1;rw[xj h2] at h1;exact h1.1
     go_loopw [17] (fun p wr=>∃ k:Nat,k<=K/\p=.int .i64 k/\Hid (∃ prv',RWk w0 wr g bs n ⟨root,next,ps⟩ (.slice a ps.length c) prv' ⟨s1.seen,some f,s1.prs++(npr nd).take k⟩ cnd/\KeepW U wr)) (fun p _=>K-(intOf p).toNat)
     case atStart=>exact⟨0,xt _,rfl,qa ⟨_,hX.out⟩⟩
     case round =>
     obtain⟨k,hk,rfl,hI⟩:=hrel;obtain⟨pv2,r1,r2⟩:=hI.out;clear hI;have HN2:=HN.out.keep r2
     obtain⟨E0,E1,E2,E3⟩:=HN2.cell;obtain⟨pa,pc,hpv⟩:=r1.prs.rd.slice;subst hpv;obtain⟨⟨_,_,_,_⟩,⟨_,_,_,C7⟩,CF⟩:=r1.cell;dsimp only at C7;by_cases hlt:k<K
     ·have hq:(k:Int)<(K:Int):=by omega
      obtain⟨y1,hy1⟩:=qz nd.keys (k:=k) (by rw[<-hK.out];exact hlt)
      obtain⟨y2,hy2⟩:=qz nd.vals (k:=k) (by rw[<-hV.out,hlv.out];exact hlt)
      obtain⟨b,off,rfl,hc⟩:=HN2.own.keys.rd.strAt hy1;obtain⟨b2,off2,rfl,hc2⟩:=HN2.own.vals.rd.strAt hy2;have hq2:(k:Int)<(V:Int):=by have:=hlv.out;omega
      have hpr:Hid ((npr nd).take (k+1)=(npr nd).take k++[(y1,y2)]):=by
       show _=_
       rw[Xf]
       congr 1
       simp[npr,kP,hy1,hy2]
      replace hy1:=qa hy1;replace hy2:=qa hy2;have R1:=qa (xb r1 r2)
      obtain⟨lp2,hlp2⟩:∃ m,m=(s1.prs++(npr nd).take k).length:=⟨_,rfl⟩;rw[<-hlp2] at C7;clear HN2 r2 r1
      have hok2:Hid (SwOk next ⟨s1.seen,some f,s1.prs++(npr nd).take k++[(y1,y2)]⟩):=by
       have e:=hs1'.out
       rw[xz,<-hpr.out,e];exact hsok.out.see hb1 hs1.out (some f) (by have:=(JI hok.out).1;rw[xp];omega)
      have hbd:(lp2+1)*32<=140737488355328:=by
       have h1:=R1.out.1.ok.len hN.out.2
       dsimp only at h1;omega
      obtain⟨WA,hWA⟩:∃ WA,WA=(wr.alloc (.cells #[st y1,st y2] 63)).drew:=⟨_,rfl⟩;obtain⟨wa,hwa,DA,bA0,sA⟩:=qf wr #[st y1,st y2] 63;have bA:Below wr.heap.size wr WA:=by rw[hWA,<-hwa];exact bA0.trans (qg wa 1 _)
      have nc0:WA.cell? ⟨wr.heap.size,0,none⟩=some (st y1):=by rw[hWA,<-hwa];exact((qg wa 1 wa.heap.size).cell (p:=⟨wr.heap.size,_,none⟩) (xa DA)).trans (qt DA rfl)
      have nc1:WA.cell? ⟨wr.heap.size,1,none⟩=some (st y2):=by rw[hWA,<-hwa];exact((qg wa 1 wa.heap.size).cell (p:=⟨wr.heap.size,_,none⟩) (xa DA)).trans (qt DA rfl)
      have hOW:OwnP w0.heap.size WA (.slice pa lp2 pc) (s1.prs++(npr nd).take k):=by
       rw[hlp2];exact qB R1.out.1.prs bA
      have hsz:w0.heap.size<=WA.heap.size:=(R1.out.1.to bA).bel.size
      have hbd2:((s1.prs++(npr nd).take k).length+1)*32<=140737488355328:=by rw[<-hlp2];exact hbd
      have FIN:∀ v5 w5,OwnP w0.heap.size w5 v5 (s1.prs++(npr nd).take k++[(y1,y2)])->Below w0.heap.size WA w5->(∀ e,e≠63->KeepT e WA w5)->
       Hid (∃ prv',RWk w0 (w5.setCell ⟨g,7,none⟩ v5) g bs n ⟨root,next,ps⟩ (.slice a ps.length c) prv' ⟨s1.seen,some f,s1.prs++(npr nd).take (k+1)⟩ cnd/\KeepW U (w5.setCell ⟨g,7,none⟩ v5))/\w5.frozen? ⟨g,7,none⟩=false/\w5.cell? ⟨g,7,none⟩=some (.slice pa lp2 pc)/\w5.cell? ⟨nb,1,none⟩=some (.slice (some ⟨b,off,none⟩) K kc)/\w5.cell? ⟨b,off+k,none⟩=some (st y1)/\w5.cell? ⟨nb,2,none⟩=some (.slice (some ⟨b2,off2,none⟩) V vc)/\w5.cell? ⟨b2,off2+k,none⟩=some (st y2):=fun v5 w5 o5 b5 k5=>by
       have N5:=HN.out.keep (R1.out.2.trans ((KeepW.below bA).trans fun e _ _ h3=>k5 e h3))
       obtain⟨_,n1,n2,_⟩:=N5.cell;obtain⟨b',off',e',hc'⟩:=N5.own.keys.rd.strAt hy1.out;obtain⟨b2',off2',e2',hc2'⟩:=N5.own.vals.rd.strAt hy2.out;simp only[xr,XO,XS] at e' e2';obtain⟨rfl,rfl⟩:=e';obtain⟨rfl,rfl⟩:=e2';obtain⟨a1,a2⟩:=R1.out.1.app bA o5 b5 k5 hok2.out;have hbx:=k5 _ (by decide) _ _ _ (R1.out.1.to bA).box
       refine⟨⟨v5,?_,R1.out.2.trans a2⟩,j5 hbx 7,?_,n1,hc',n2,hc2'⟩
       ·rw[hpr.out,<-xz];exact a1
       rw[hlp2];exact qt hbx rfl
      rw[hWA] at nc0 nc1 hOW hsz FIN;replace nc0:=qa nc0;replace nc1:=qa nc1;replace hOW:=qa hOW;replace hsz:=qa hsz;replace FIN:=qa FIN;replace hbd2:=qa hbd2;clear hWA hwa DA bA0 sA bA hbd;replace hlp2:=qa hlp2;go_wp2;refine qj (fun w'=>w'.cell? ⟨g,7,none⟩=some (.slice pa lp2 pc)/\w'.cell? ⟨nb,1,none⟩=some (.slice (some ⟨b,off,none⟩) K kc)/\w'.cell? ⟨b,off+k,none⟩=some (st y1)/\w'.cell? ⟨nb,2,none⟩=some (.slice (some ⟨b2,off2,none⟩) V vc)/\w'.cell? ⟨b2,off2+k,none⟩=some (st y2)) 15 18 qG (by kernel_rfl) (fun _ _ _ _ h=>h) ⟨C7,E1,hc,E2,hc2⟩ ?_
      dsimp only[List.take,List.drop]
      iterate 15
       refine qA (v:=?_) (by rfl) ?_ ?_
       rotate_left
       ·rintro w' ⟨s1,s2,s3,s4,s5⟩;go_simp;try with_reducible rfl
       try simp only[Act.put,qB4]
      refine qM fun K hK=>?_;rw[xj (by rfl)]
      go_simp;refine hK _ _ ⟨C7,E1,hc,E2,hc2⟩ ?_;clear hK K;refine qM fun K hK=>?_;rw[xj (by rfl)]
      go_simp;refine hK _ _ ⟨Qq C7 _,Qq E1 _,Qq hc _,Qq E2 _,Qq hc2 _⟩ ?_;clear hK K;refine qM fun K hK=>?_;refine qko rfl _ _ rfl w0.heap.size (.slice pa lp2 pc) (s1.prs++(npr nd).take k) (y1,y2) wr.heap.size rfl rfl hOW.out nc0.out nc1.out hbd2.out hsz.out ?_;intro v5 w5 o5 b5 k5;obtain⟨a5,c5,h5⟩:=(OwnP.rd o5).slice;subst h5;obtain⟨F1,F2,F3,F4,F5,F6,F7⟩:=FIN.out _ w5 o5 b5 k5;generalize (s1.prs++(npr nd).take k++[(y1,y2)]).length=m5 at *;refine hK _ _ ⟨F3,F4,F5,F6,F7⟩ ?_;clear hK K o5 b5 k5 FIN;show wpList _ _ _ _ _ _
      go_wp2;go_roundw
      case rel=>exact⟨k+1,by omega,by go_num,F1⟩
      case measure=>simp[intOf];omega
     have hq:¬ (k:Int)<(K:Int):=by omega
     have ht:(npr nd).take k=npr nd:=xx (by unfold npr;rw[Kc,<-hK.out];omega)
     rw[ht] at r1;have R1:=qa (xb r1 r2)
     clear ht r1 r2 HN2;go_wp2
     (try simp only[Exit.inBlock,Exit.then])
     refine Xk (Xp rfl _ _ _) rfl ?_;refine⟨rfl,_,_,_,R1.out.1,H3.out.trans R1.out.2,(fun h=>by cases h),fun _=>?_⟩
     rw[hW.out,hs1'.out];cases hcc:cnd with
     | true=>exact .inr ⟨xj (k6 (hcnd.out.symm.trans hcc)),rfl⟩
     | false=>exact .inl ⟨xh (of_decide_eq_false (hcnd.out.symm.trans hcc)),rfl⟩
    | false =>
     have hW:=qa (J8 (f:=f) hx.out hs1.out hd.out hall.out hlf)
     obtain⟨s1,hs1'⟩:∃ s1:Sw,s1=⟨(ni:Int)::s.seen,s.dep,s.prs⟩:=⟨_,rfl⟩;rw[hlf] at E0;rw[<-hs1'] at H3 hW
     have hDK:Hid (D=K+1/\1<=K):=by
      have h1:=hok.out.2.1
      unfold qP at h1;rw[hlf,xh (by decide),<-hK.out,<-hD.out] at h1
      exact⟨h1.2.2,h1.2.1⟩
     have hD3:D<=301:=by have:=hDK.out;omega
     obtain⟨dp,hdp⟩:∃ d:Int,dep+1=d:=⟨_,rfl⟩;have hdw:IntKind.i64.wrap dp=dp:=xB _ (by have:=hdep.out;omega)
     have hde:Hid (dp=17-(f:Int)):=by show _=_;have:=hdep.out;omega
     replace hlf:=qa hlf;replace hs1':=qa hs1';replace hall:=qa hall;clear C0 C1 C2 C3 C4 C5 C6 C7 CF;go_wp2
     go_loopw [18] (fun p wr=>∃ k:Nat,k<=D/\p=.int .i64 k/\Hid (∃ prv' s' bad',RWk w0 wr g bs n ⟨root,next,ps⟩ (.slice a ps.length c) prv' s' bad'/\KeepW U wr/\WkR (wkK (wk ps f) nd lo hi 0 (nd.kids.take k) s1) false s' bad')) (fun p _=>D-(intOf p).toNat)
     case atStart=>exact⟨0,xt _,rfl,qa ⟨_,_,_,H3.out.1,KeepW.refl _,⟨(fun h=>by cases h),fun _=>.inl ⟨rfl,rfl⟩⟩⟩⟩
     case round =>
     obtain⟨k,hk,rfl,hI⟩:=hrel;obtain⟨pv2,s2,bad2,r1,r2,r3⟩:=hI.out;clear hI;have HN2:=HN.out.keep r2
     clear E0 E1 E2 E3;obtain⟨E0,E1,E2,E3⟩:=HN2.cell;by_cases hlt:k<D
     ·have hq:(k:Int)<(D:Int):=by omega
      obtain⟨kid,hkid⟩:=qz nd.kids (k:=k) (by rw[<-hD.out];exact hlt)
      obtain⟨b3,off3,rfl,hc3⟩:=HN2.own.kids.rd.intAt hkid;have KC:=qa (ih.out (by omega) wr pv2 s2 bad2 kid (Qi nd lo k) (qZ nd hi k) r1)
      have hst:Hid (wkK (wk ps f) nd lo hi 0 (nd.kids.take (k+1)) s1=(wkK (wk ps f) nd lo hi 0 (nd.kids.take k) s1).bind (wk ps f kid (Qi nd lo k) (qZ nd hi k))):=Vz _ _ _ _ _ _ hkid
      replace hkid:=qa hkid;have R3:=qa (xb r2 r3)
      have HN2':=qa HN2
      clear r1 r2 r3 HN2
      go_upto_if 168 with fail
      go_cut [19] from 157 to 196 (fun v wx=>v=st (Qi nd lo k)/\wr=wx)
      case first =>
       by_cases hk0:k=0
       ·have hq2:¬ (0:Int)<(k:Int):=by omega
        have hl:Hid (Qi nd lo k=lo):=by show _=_;rw[Qi,xj hk0]
        replace hk0:=qa hk0
        go_wp2_with fail
        go_meet
        case rel=>exact⟨by rw[hl.out],rfl⟩
       have hq2:(0:Int)<(k:Int):=by omega
       obtain⟨j,hj⟩:∃ j,k=j+1:=⟨k-1,by omega⟩
       obtain⟨y,hy⟩:=qz nd.keys (k:=j) (by have:=hDK.out;rw[<-hK.out];omega)
       obtain⟨b4,off4,rfl,hc4⟩:=HN2'.out.own.keys.rd.strAt hy;have hl:Hid (Qi nd lo k=y):=by show _=_;rw[Qi,xh hk0,hj,XN,xe,hy];rfl
       have hj1:(k:Int)-1=(j:Int):=by omega
       have hj2:IntKind.i64.wrap (j:Int)=(j:Int):=xB _ (by have:=hDK.out;omega)
       have hj3:(j:Int)<(K:Int):=by have:=hDK.out;omega
       replace hk0:=qa hk0;replace hj:=qa hj;replace hy:=qa hy
       go_wp2_with fail
       go_meet
       case rel=>exact⟨by rw[hl.out],rfl⟩
      case rest =>
      obtain⟨rfl,rfl⟩:=hcut
      go_upto_if 179 with fail
      go_cut [20,21] from 157 to 196 (fun v v2 wx=>v=st ((qZ nd hi k).getD [])/\v2=.bool (qZ nd hi k).isSome/\wr=wx)
      case first =>
       by_cases hkK:k<K
       ·have hq2:(k:Int)<(K:Int):=by omega
        obtain⟨y,hy⟩:=qz nd.keys (k:=k) (by rw[<-hK.out];exact hkK)
        obtain⟨b4,off4,rfl,hc4⟩:=HN2'.out.own.keys.rd.strAt hy;have hl:Hid (qZ nd hi k=some y):=by show _=_;rw[qZ,xj (by rw[<-hK.out];exact hkK),xe,hy];rfl
        replace hy:=qa hy
        go_wp2_with fail
        go_meet
        case rel=>exact⟨by rw[hl.out];rfl,by rw[hl.out];rfl,rfl⟩
       have hq2:¬ (k:Int)<(K:Int):=by omega
       have hl:Hid (qZ nd hi k=hi):=by show _=_;rw[qZ,xh (by rw[<-hK.out];exact hkK)]
       go_wp2_with fail
       go_meet
       case rel=>exact⟨by rw[hl.out,hhs.out],by rw[hl.out,hhb.out],rfl⟩
      case rest =>
      obtain⟨rfl,rfl,rfl⟩:=hcut;rw[<-hde.out] at KC
      go_wp2_with fail
      refine KC.out.mono ?_;rintro e w7 ⟨rfl,pv7,s7,bad7,r1,r2,r3⟩
      have hI':Hid (∃ prv' s' bad',RWk w0 w7 g bs n ⟨root,next,ps⟩ (.slice a ps.length c) prv' s' bad'/\KeepW U w7/\WkR (wkK (wk ps f) nd lo hi 0 (nd.kids.take (k+1)) s1) false s' bad'):=by
       refine⟨_,_,_,r1,R3.out.1.trans r2,fun h=>(by cases h),fun _=>?_⟩
       rw[hst.out];rcases R3.out.2.2 rfl with ⟨h1,h2⟩|⟨h1,h2⟩
       ·rw[h1];exact r3.2 h2
       rw[h1];exact .inr ⟨rfl,r3.1 h2⟩
      clear r1 r2 r3 KC;go_wp2;go_roundw
      case rel=>exact⟨k+1,by omega,by go_num,hI'⟩
      case measure=>simp[intOf];omega
     have hq:¬ (k:Int)<(D:Int):=by omega
     have ht:nd.kids.take k=nd.kids:=xx (by rw[<-hD.out];omega)
     rw[ht,<-hW.out] at r3;have R1:=qa (xb r1 (xb r2 r3))
     clear r1 r2 r3 ht HN2;go_wp2
     (try simp only[Exit.inBlock,Exit.then])
     first
      | refine Xk (Xp rfl _ _ _) rfl ?_
      | refine bodyPost_end (Xp rfl _ _ _) rfl ?_
     exact⟨rfl,_,_,_,R1.out.1,H3.out.2.trans R1.out.2.1,R1.out.2.2⟩
def RchR (w0 w w':World) (B g bm:Nat) (t:Tr) (pv:Value) (o:Option Sw) (e:Ending):Prop:=∃ R:Bool,e=.returned (.bool R)/\KpM g bm w w' /\
 ((R=true/\∃ s' m',o=some s'/\s'.prs.length<=4096/\PWk w0 w' B g bm t pv s' m')\/(R=false/\∀ s',o=some s'->4096<s'.prs.length))
theorem RchR.no {o:Option Sw} {b:Bool} (hb:b=false) (h:KpM g bm w w') (ho:o=none):RchR w0 w w' B g bm t pv o (.returned (.bool b)) :=
 ⟨false,by rw[hb],h,.inr ⟨rfl,fun s' e=>by rw[ho] at e;cases e⟩⟩
theorem qom {o:Option Sw} {s:Sw} {d:Int} (hW:o=if nd.keys=[]\/(s.dep≠none/\s.dep≠some f) then none else some ⟨id::s.seen,some f,s.prs++npr nd⟩) (hlv:nd.vals.length=nd.keys.length) (hdep:s.dep=none↔s.prs=[])
 (hd:d=16-(f:Int)) (hD:D=match s.dep with|none=>0|some f=>16-(f:Int)) :
 ((0<nd.keys.length/\d=(if s.prs.length=0 then d else D)/\s.prs.length+nd.keys.length<=4096)->o=some ⟨id::s.seen,some f,s.prs++npr nd⟩/\(s.prs++npr nd).length<=4096)/\
 (¬ (0<nd.keys.length/\d=(if s.prs.length=0 then d else D)/\s.prs.length+nd.keys.length<=4096)->∀ s',o=some s'->4096<s'.prs.length):=by
 have hl:(s.prs++npr nd).length=s.prs.length+nd.keys.length:=by rw[xk,npr,Kc,hlv,Nat.min_self]
 refine⟨fun⟨h1,h2,h3⟩=>?_,fun h s' hs'=>?_⟩
 ·refine⟨?_,by omega⟩
  rw[hW,xh];rintro (h4|⟨h4,h5⟩)
  ·rw[h4] at h1;simp at h1
  by_cases h0:s.prs.length=0
  ·exact h4 (hdep.2 (xq h0))
  rw[xh h0] at h2;cases hd2:s.dep with
  | none=>exact h4 hd2
  | some f' =>
   rw[hd2] at hD;dsimp only at hD;exact h5 (by rw[hd2];congr 1;omega)
 rw[hW] at hs'
 split at hs'
 ·cases hs'
 rename_i hc
 simp only[xr] at hs';subst hs';show 4096<(s.prs++npr nd).length
 rw[hl];apply Nat.lt_of_not_le;intro h5;refine h ⟨?_,?_,h5⟩
 ·apply Nat.pos_of_ne_zero;intro h6;exact hc (.inl (xq h6))
 by_cases h0:s.prs.length=0
 ·rw[xj h0]
 rw[xh h0];cases hd2:s.dep with
 | none=>exact absurd (by rw[hdep.1 hd2];rfl) h0
 | some f' =>
  rw[hd2] at hD;dsimp only at hD;by_cases ef:f'=f
  ·subst ef;omega
  exact absurd (.inr ⟨by rw[hd2];simp,by rw[hd2];simpa using ef⟩) hc
theorem qp0 {lo:Str} {hi:Option Str} {s:Sw} (hx:qH l id=some x) (h:(QJ x).1.keys.all (kin lo hi)=false):wk l f id lo hi s=none:=by
 cases f with
 | zero=>rfl
 | succ f=>unfold wk;rw[hx];simp[h]
theorem qgr (w0:World) (t:Tr) (pv:Value) (B g bm:Nat) (hN:1<=t.next/\t.next<=65536) (hU:je t.next t.pages t.pages.length) :
 ∀ (f:Nat),f<=16->∀ (w:World) (s:Sw) (m:Int->Option Value) (id:Int) (lo:Str) (hi:Option Str),PWk w0 w B g bm t pv s m->s.prs.length<=4096->B<=w.heap.size->qeh hi->(Lit.int .i64 id).wf=true ->
 Calls Tryz.prog 66 #[.pointer (some ⟨g,0,none⟩),.int .i64 id,.int .i64 (17-(f:Int)),sv lo hi] w fun e w'=>RchR w0 w w' B g bm t pv (wk t.pages f id lo hi s) e:=by
 intro f
 induction f with
 | zero =>
  intro hf w s m id lo hi H hs4 hBw hh hid;obtain⟨root,next,ps⟩:=t
  obtain⟨a,c,rfl⟩:=H.pg.slice;have lp:ps.length<=65536:=by have:=Zu hU hN.1;dsimp only at this hN;omega
  obtain⟨dep,hdep⟩:∃ d:Int,d=17-((0:Nat):Int):=⟨_,rfl⟩;dsimp only[sv];obtain⟨hs,hhs⟩:∃ x,x=hi.getD []:=⟨_,rfl⟩;rw[<-hdep,<-hhs];have hd16:dep>16:=by omega
  replace hdep:=qa hdep;replace hhs:=qa hhs;obtain⟨W,hW,DW,bW,sW⟩:=qf w #[st lo,st hs] 90;have HW:=H.to bW
  have KP:=qa (qfb w0 W _ ⟨root,next,ps⟩ id HW.pg HW.bel (YK hU) lp)
  obtain⟨⟨C0,C1,C2,C3⟩,⟨C4,C5⟩,CF⟩:=HW.cell;dsimp only at C0 C1 C2 C3 C4 C5 hN;rw[hW] at C0 C1 C2 C3 C4 C5 CF KP;replace H:=qa H;replace HW:=qa HW;replace hU:=qa hU;replace lp:=qa lp;replace hN:=qa hN;replace hh:=qa hh;replace hid:=qa hid;replace hBw:=qa hBw;replace hs4:=qa hs4;have BW:=qa bW
  have DW':=qa DW
  clear bW DW;go_enter Tryz.func66,Tryz.ntmps66
  go_wp2_with fail
  refine KP.out.mono ?_;rintro e w1 ⟨bv,ok,rfl,hp,b1⟩;rw[<-hW] at b1;clear C0 C1 C2 C3 C4 C5 CF KP;replace hW:=qa hW;have H1:=HW.out.to b1
  have K1:=qa (KpM.of (g:=g) (m:=bm) (BW.out.trans (b1.mono BW.out.size)))
  have S1:=qa ((b1.block _ (xa DW'.out)).trans DW'.out)
  obtain⟨⟨C0,C1,C2,C3⟩,⟨C4,C5⟩,CF⟩:=H1.cell;dsimp only at C0 C1 C2 C3 C4 C5;have hlk:=H1.map.look xS (QG w1) hid.out true
  simp only[kS] at hlk;by_cases hin:id∈s.seen
  ·have hs2:(m id).isSome=true:=by rw[H1.has];exact xv hin
   obtain⟨v,hv⟩:=Option.isSome_iff_exists.1 hs2;obtain⟨x,nd,kv,vv,dv,_,_,rfl,ho,_⟩:=H1.nds id v hv;rw[hv] at hlk;have hz:Hid (wk ps 0 id lo hi s=none):=Yk hin
   dsimp only[Option.getD,Option.isSome,nv] at hlk;obtain⟨ka,kc,va,vc,da,dc,rfl,rfl,rfl⟩:=ho.rd.slices;replace hin:=qa hin;replace hp:=qa hp;replace hv:=qa hv;obtain⟨V,hV,DV,bV,sV⟩:=qf w1 #[.bool nd.leaf,.slice ka nd.keys.length kc,.slice va nd.vals.length vc,.slice da nd.kids.length dc] 84;have KV:=qa (K1.out.trans (KpM.of bV))
   rw[hV] at KV;clear hs2 ho DV bV sV hV;go_wp2;go_ret;exact RchR.no rfl KV.out hz.out
  have hs2:m id=none:=by
   have h1:=H1.has id
   rw[xw hin] at h1;cases hm:m id with
   | none=>rfl
   | some v=>rw[hm] at h1;cases h1
  rw[hs2] at hlk;dsimp only[Option.getD,Option.isSome] at hlk;obtain⟨V,hV,DV,bV,sV⟩:=qf w1 #[.bool false,.slice none 0 0,.slice none 0 0,.slice none 0 0] 84;have KV:=qa (K1.out.trans (KpM.of bV))
  have HV:=qa (H1.to bV)
  have SV:=qa ((bV.block _ (xa S1.out)).trans S1.out)
  replace hs2:=qa hs2;clear DV bV H1 K1 S1;cases ok with
  | false =>
   have hz:Hid (wk ps 0 id lo hi s=none):=by
    refine Jr ?_;rcases hp with ⟨o,_⟩|⟨_,o,_⟩
    ·cases o
    exact o
   rw[hV] at KV;clear hp;replace hin:=qa hin;go_wp2;go_ret;exact RchR.no rfl KV.out hz.out
  | true =>
   replace hp:=qa hp;replace hin:=qa hin;rw[hV] at KV;go_wp2;go_ret;exact RchR.no rfl KV.out rfl
 | succ f ih =>
  intro hf w s m id lo hi H hs4 hBw hh hid;obtain⟨root,next,ps⟩:=t
  obtain⟨a,c,rfl⟩:=H.pg.slice;have lp:ps.length<=65536:=by have:=Zu hU hN.1;dsimp only at this hN;omega
  obtain⟨dep,hdep⟩:∃ d:Int,d=17-((f+1:Nat):Int):=⟨_,rfl⟩;dsimp only[sv];obtain⟨hs,hhs⟩:∃ x,x=hi.getD []:=⟨_,rfl⟩;rw[<-hdep,<-hhs];have hd16:¬ dep>16:=by omega
  replace hdep:=qa hdep;replace hhs:=qa hhs;obtain⟨W,hW,DW,bW,sW⟩:=qf w #[st lo,st hs] 90;have HW:=H.to bW
  have KP:=qa (qfb w0 W _ ⟨root,next,ps⟩ id HW.pg HW.bel (YK hU) lp)
  obtain⟨⟨C0,C1,C2,C3⟩,⟨C4,C5⟩,CF⟩:=HW.cell;dsimp only at C0 C1 C2 C3 C4 C5 hN;rw[hW] at C0 C1 C2 C3 C4 C5 CF KP;replace H:=qa H;replace HW:=qa HW;replace hU:=qa hU;replace ih:=qa ih;replace lp:=qa lp;replace hN:=qa hN;replace hh:=qa hh;replace hid:=qa hid;replace hBw:=qa hBw;replace hs4:=qa hs4;have BW:=qa bW
  have DW':=qa DW
  clear bW DW;go_enter Tryz.func66,Tryz.ntmps66
  go_wp2_with fail
  refine KP.out.mono ?_;rintro e w1 ⟨bv,ok,rfl,hp,b1⟩;rw[<-hW] at b1;clear C0 C1 C2 C3 C4 C5 CF KP;replace hW:=qa hW;have H1:=HW.out.to b1
  have K1:=qa (KpM.of (g:=g) (m:=bm) (BW.out.trans (b1.mono BW.out.size)))
  have S1:=qa ((b1.block _ (xa DW'.out)).trans DW'.out)
  obtain⟨⟨C0,C1,C2,C3⟩,⟨C4,C5⟩,CF⟩:=H1.cell;dsimp only at C0 C1 C2 C3 C4 C5;have hlk:=H1.map.look xS (QG w1) hid.out true
  simp only[kS] at hlk;by_cases hin:id∈s.seen
  ·have hs2:(m id).isSome=true:=by rw[H1.has];exact xv hin
   obtain⟨v,hv⟩:=Option.isSome_iff_exists.1 hs2;obtain⟨x,nd,kv,vv,dv,_,_,rfl,ho,_⟩:=H1.nds id v hv;rw[hv] at hlk;have hz:Hid (wk ps (f+1) id lo hi s=none):=Yk hin
   dsimp only[Option.getD,Option.isSome,nv] at hlk;obtain⟨ka,kc,va,vc,da,dc,rfl,rfl,rfl⟩:=ho.rd.slices;replace hin:=qa hin;replace hp:=qa hp;replace hv:=qa hv;obtain⟨V,hV,DV,bV,sV⟩:=qf w1 #[.bool nd.leaf,.slice ka nd.keys.length kc,.slice va nd.vals.length vc,.slice da nd.kids.length dc] 84;have KV:=qa (K1.out.trans (KpM.of bV))
   rw[hV] at KV;clear hs2 ho DV bV sV hV;go_wp2;go_ret;exact RchR.no rfl KV.out hz.out
  have hs2:m id=none:=by
   have h1:=H1.has id
   rw[xw hin] at h1;cases hm:m id with
   | none=>rfl
   | some v=>rw[hm] at h1;cases h1
  rw[hs2] at hlk;dsimp only[Option.getD,Option.isSome] at hlk;obtain⟨V,hV,DV,bV,sV⟩:=qf w1 #[.bool false,.slice none 0 0,.slice none 0 0,.slice none 0 0] 84;have KV:=qa (K1.out.trans (KpM.of bV))
  have HV:=qa (H1.to bV)
  have SV:=qa ((bV.block _ (xa S1.out)).trans S1.out)
  replace hs2:=qa hs2;clear DV bV H1 K1 S1;cases ok with
  | false =>
   have hz:Hid (wk ps (f+1) id lo hi s=none):=by
    refine Jr ?_;rcases hp with ⟨o,_⟩|⟨_,o,_⟩
    ·cases o
    exact o
   rw[hV] at KV;clear hp;replace hin:=qa hin;go_wp2;go_ret;exact RchR.no rfl KV.out hz.out
  | true =>
   obtain⟨x,hx,hr⟩:∃ x,qH ps id=some x/\Rd w0 bv x:=by
    rcases hp with ⟨_,o⟩|⟨o,_⟩
    ·exact o
    cases o
   clear hp;replace hin:=qa hin;have KD:=qa (qkx V bv x (hr.to HV.out.bel))
   replace hx:=qa hx;clear hr;rw[hV] at KD
   go_wp2_with fail
   refine KD.out.mono ?_;rintro e w3 ⟨kv,vv,dv,rfl,hon,b3,hdj⟩;replace hdj:=qa hdj;rw[<-hV] at b3 hon;clear C0 C1 C2 C3 C4 C5 CF hlk KD;replace hV:=qa hV;obtain⟨nd,hnd⟩:∃ nd,nd=(QJ x).1:=⟨_,rfl⟩;obtain⟨err,herr⟩:∃ err,err=(QJ x).2:=⟨_,rfl⟩;rw[<-hnd] at hon |-;rw[<-herr];obtain⟨U,hUU,DU,bU,sU⟩:=qf w3 #[.bool nd.leaf,kv,vv,dv] 84;have bb:=b3.trans (bU.mono b3.size)
   have HU1:=qa (HV.out.to bb)
   have KU:=qa (KV.out.trans (KpM.of bb))
   have SU:=qa ((bb.block _ (xa SV.out)).trans SV.out)
   have hBV:B<=V.heap.size:=xi hBw.out KV.out.2.1
   have ON:=qa ((hon.to bU).mono hBV)
   have hnb:Hid (B<=w3.heap.size/\B<=w.heap.size):=⟨xi hBV b3.size,hBw.out⟩
   obtain⟨⟨E0,E1,E2,E3⟩,EF⟩:=qb DU;obtain⟨ka,kc,va,vc,da,dc,rfl,rfl,rfl⟩:=hon.rd.slices;obtain⟨⟨S0,S1⟩,_⟩:=Qc SU.out;obtain⟨⟨C0,C1,C2,C3⟩,⟨C4,C5⟩,CF⟩:=HU1.out.cell;dsimp only at C0 C1 C2 C3 C4 C5;have KC:=qa (qjn U lo hi hh.out _ nd.keys ON.out.rd.keys)
   dsimp only[sv] at KC;rw[<-hhs.out,hUU] at KC;have DU':=qa DU
   rw[hUU] at E0 E1 E2 E3 S0 S1 C0 C1 C2 C3 C4 C5 CF;have hfr:=qa (qnc HV.out.nds hon)
   clear DU b3 bU bb hon KV HV SV hBV;by_cases he:err=0
   ·subst he;have hd:Hid (QJ x=(nd,0)):=by show _=_;rw[hnd,herr]
    replace hnd:=qa hnd;replace herr:=qa herr
    go_wp2_with fail
    refine KC.out.mono ?_;rintro e w4 ⟨R,rfl,hR,b4⟩;rw[<-hUU] at b4;clear E0 E1 E2 E3 S0 S1 C0 C1 C2 C3 C4 C5 CF KC;replace hUU:=qa hUU;have H4:=qa (HU1.out.to b4)
    have K4:=qa (KU.out.trans (KpM.of b4))
    have N4:=qa (ON.out.to b4)
    have D4:=qa ((b4.block _ (xa DU'.out)).trans DU'.out)
    have S4:=qa ((b4.block _ (xa SU.out)).trans SU.out)
    clear HU1 KU ON DU' SU b4;cases R with
    | true =>
     have hz:Hid (wk ps (f+1) id lo hi s=none):=qp0 hx.out (by rw[<-hnd.out];exact hR.1 rfl)
     clear hR;go_wp2;go_ret;exact RchR.no rfl K4.out hz.out
    | false =>
     have hall:Hid (nd.keys.all (kin lo hi)=true):=by
      show _=_
      cases hq:nd.keys.all (kin lo hi) with
      | true=>rfl
      | false=>have:=hR.2 hq;cases this
     clear hR;have hb1:=qa (Yy hU.out hx.out)
     have hlen:Hid (s.seen.length<maxLen):=by
      have:=vC 65536 s.seen H4.out.ok.1 (fun i hi=>by have h1:=H4.out.ok.2.1 i hi;have h2:=hN.out;dsimp only at h1;omega)
      show _<_
      unfold maxLen;omega
     have bD:Below w4.heap.size w4 w4.drew:=qg w4 1 _
     have HD:=H4.out.to bD
     obtain⟨w5,hrun,hmap,hgr⟩:=HD.map.store xS hlen.out hid.out (nv nd (.slice ka nd.keys.length kc) (.slice va nd.vals.length vc) (.slice da nd.kids.length dc));have ND:NdOf ps B w4.drew id (nv nd (.slice ka nd.keys.length kc) (.slice va nd.vals.length vc) (.slice da nd.kids.length dc)):=⟨x,nd,_,_,_,hx.out,hd.out,rfl,N4.out.to bD,hdj.out⟩
     obtain⟨P5,k5⟩:=HD.see hgr hmap hb1.out hin.out ND hfr.out;have DD:=(bD.block _ (xa D4.out)).trans D4.out
     obtain⟨⟨E0,E1,E2,E3⟩,EF⟩:=qb DD;obtain⟨⟨C0,C1,C2,C3⟩,⟨C4,C5⟩,CF⟩:=HD.cell;have hgn:Hid (g<B/\bm<B):=⟨H4.out.hg.2,H4.out.hm.2⟩
     have N5:=qa (k5.node (N4.out.to bD) hgn.out.1 hgn.out.2)
     have D5:=qa ((k5.1 _ (xa DD) (by have:=hgn.out;have:=hnb.out;omega) (by have:=hgn.out;have:=hnb.out;omega)).trans DD)
     have SD:=(bD.block _ (xa S4.out)).trans S4.out
     have S5:=qa ((k5.1 _ (xa SD) (by have:=hgn.out;have:=hnb.out;omega) (by have:=hgn.out;have:=hnb.out;omega)).trans SD)
     have K5:=qa ((K4.out.trans (KpM.of bD)).trans k5)
     obtain⟨m5,P5⟩:∃ m5,PWk w0 w5 B g bm ⟨root,next,ps⟩ (.slice a ps.length c) ⟨id::s.seen,s.dep,s.prs⟩ m5:=⟨_,P5⟩
     replace P5:=qa P5;dsimp only[nv] at hrun;have hrun':=qa hrun
     clear HD hmap hgr ND k5 DD SD bD hrun H4 K4 N4 D4 S4;go_wp2;refine qj (fun w'=>w'.cell? ⟨g,3,none⟩=some (.map (some bm))/\w'.cell? ⟨w3.heap.size,0,none⟩=some (.bool nd.leaf)/\w'.cell? ⟨w3.heap.size,1,none⟩=some (.slice ka nd.keys.length kc)/\w'.cell? ⟨w3.heap.size,2,none⟩=some (.slice va nd.vals.length vc)/\w'.cell? ⟨w3.heap.size,3,none⟩=some (.slice da nd.kids.length dc)) 6 6 qG (by kernel_rfl) (fun _ _ _ _ h=>h) ⟨C3,E0,E1,E2,E3⟩ ?_
     dsimp only[List.take,List.drop]
     iterate 6
      refine qA (v:=?_) (by rfl) ?_ ?_
      rotate_left
      ·rintro w' ⟨s1,s2,s3,s4,s5⟩;go_simp;try with_reducible rfl
      try simp only[Act.put,qB4]
     show wpList _ _ _ _ _ _
     have hrun:=hrun'.out
     clear C0 C1 C2 C3 C4 C5 CF E0 E1 E2 E3 EF;obtain⟨⟨E0,E1,E2,E3⟩,EF⟩:=qb D5.out;have hok:NOk nd:=by have:=(vB (xs:=x) (by rw[hd.out])).1;rw[hd.out] at this;exact this
     have hK3:nd.keys.length<=300:=(JI hok).2
     replace hok:=qa hok;cases hlf:nd.leaf with
     | true =>
      rw[hlf] at E0 hrun
      have hlv:Hid (nd.vals.length=nd.keys.length):=by
       have h1:=hok.out.2.1
       unfold qP at h1;rw[xj hlf] at h1;exact h1.1
      have hW:=yq (f:=f) hx.out hin.out hd.out hall.out hlf
      have hL:s.prs.length<=100000000:=by have:=P5.out.ok.len hN.out.2;dsimp only at this;omega
      have hdep':dep=16-(f:Int):=by have:=hdep.out;omega
      have FIN:=qa (qom hW hlv.out P5.out.dep hdep' (D:=Ve s) (by unfold Ve;rfl))
      have KCt:=qa (qhr w5 g _ _ _ _ s.prs.length nd.keys.length _ dep P5.out.box hL (by omega))
      replace hlf:=qa hlf;clear hW hL;replace hdep':=qa hdep'
      go_wp2_with fail
      refine KCt.out.mono ?_;rintro e w6 ⟨R2,rfl,kg,hbx,hR2⟩;have K6:KpM g bm w5 w6:=⟨fun b h1 h2 _=>kg.1 b h1 h2,kg.2.1,fun C h1 _ h3=>kg.2.2 C h1 h3⟩
      have RR:Hid (RchR w0 w w6 B g bm ⟨root,next,ps⟩ (.slice a ps.length c) (wk ps (f+1) id lo hi s) (.returned (.bool R2))):=by
       refine⟨R2,rfl,K5.out.trans K6,?_⟩;cases hr:R2 with
       | true =>
        have hc:=hR2.1 hr
        obtain⟨f1,f2⟩:=FIN.out.1 hc;refine .inl ⟨rfl,_,m5,f1,f2,?_⟩;have hnl:(npr nd).length=nd.keys.length:=by rw[npr,Kc,hlv.out,Nat.min_self]
        refine P5.out.leaf kg ?_ (fun h=>by rw[h] at hnl;have:=hc.1;simp at hnl;omega) ?_
        ·rw[hnl,<-hdep'.out,hc.2.1];exact hbx
        exact H.out.ok.see hb1.out hin.out (some f) (JI hok.out).1
       | false=>exact .inr ⟨rfl,FIN.out.2 (fun h=>by have:=hR2.2 h;rw[hr] at this;cases this)⟩
      clear kg hbx hR2 K6 KCt FIN;go_wp2;go_ret;exact RR.out
     | false =>
      rw[hlf] at E0 hrun;have hW:=qa (J8 (f:=f) hx.out hin.out hd.out hall.out hlf)
      obtain⟨s1,hs1'⟩:∃ s1:Sw,s1=⟨id::s.seen,s.dep,s.prs⟩:=⟨_,rfl⟩;rw[<-hs1'] at P5 hW
      have hDK:nd.kids.length=nd.keys.length+1:=by
       have h1:=hok.out.2.1
       unfold qP at h1;rw[hlf,xh (by decide)] at h1
       exact h1.2.2
      obtain⟨D,hD⟩:∃ D,D=nd.kids.length:=⟨_,rfl⟩;obtain⟨KK,hKK⟩:∃ K,K=nd.keys.length:=⟨_,rfl⟩;have hD3:D<=301:=by omega
      have hDK':Hid (D=KK+1):=by show _=_;omega
      rw[<-hD] at hrun E3 D5 N5;rw[<-hKK] at hrun E1 D5 N5;rw[<-hD,<-hKK];replace hDK:=qa hDK;replace hD:=qa hD;replace hKK:=qa hKK;obtain⟨dp,hdp⟩:∃ d:Int,dep+1=d:=⟨_,rfl⟩;have hdw:IntKind.i64.wrap dp=dp:=xB _ (by have:=hdep.out;omega)
      have hde:Hid (dp=17-(f:Int)):=by show _=_;have:=hdep.out;omega
      replace hlf:=qa hlf;replace hs1':=qa hs1';go_wp2;clear hrun E0 E1 E2 E3 EF
      go_loopw [75] (fun p wr=>∃ k:Nat,k<=D/\p=.int .i64 k/\Hid (∃ s' m',wkK (wk ps f) nd lo hi 0 (nd.kids.take k) s1=some s'/\s'.prs.length<=4096/\PWk w0 wr B g bm ⟨root,next,ps⟩ (.slice a ps.length c) s' m'/\KpM g bm w5 wr)) (fun p _=>D-(intOf p).toNat)
      case atStart=>exact⟨0,xt _,rfl,qa ⟨s1,m5,rfl,by rw[hs1'.out];exact hs4.out,P5.out,KpM.refl _ _ _⟩⟩
      case round =>
      obtain⟨k,hk,rfl,hI⟩:=hrel;obtain⟨s2,m2,q1,q2,q3,q4⟩:=hI.out;clear hI;have N6:=q4.node N5.out hgn.out.1 hgn.out.2
      have D6:=(q4.1 _ (xa D5.out) (by have:=hgn.out;have:=hnb.out;omega) (by have:=hgn.out;have:=hnb.out;omega)).trans D5.out
      have S6:=(q4.1 _ (xa S5.out) (by have:=hgn.out;have:=hnb.out;omega) (by have:=hgn.out;have:=hnb.out;omega)).trans S5.out
      obtain⟨⟨E0,E1,E2,E3⟩,EF⟩:=qb D6;obtain⟨⟨T0,T1⟩,_⟩:=Qc S6;by_cases hlt:k<D
      ·have hq:(k:Int)<(D:Int):=by omega
       obtain⟨kid,hkid⟩:=qz nd.kids (k:=k) (by rw[<-hD.out];exact hlt)
       obtain⟨b3,off3,e3,hc3⟩:=N6.rd.kids.intAt hkid;have KO:=qa (qh4 wr lo hi (.slice ka KK kc) nd k N6.rd.keys (by have:=hDK'.out;rw[<-hKK.out];omega))
       have hst:Hid (wkK (wk ps f) nd lo hi 0 (nd.kids.take (k+1)) s1=wk ps f kid (Qi nd lo k) (qZ nd hi k) s2):=by show _=_;rw[Vz _ _ _ _ _ _ hkid,q1];rfl
       have hkw:Hid ((Lit.int .i64 kid).wf=true):=by
        have:=hok.out.2.2.2.1 k (by rw[<-hD.out];exact hlt)
        rw[hkid] at this;simp only[xM] at this;exact Kv (by omega)
       have hho:Hid (qeh (qZ nd hi k)):=by
        unfold qZ
        split
        ·rename_i hlk
         have:=(hok.out.1 k hlk).1
         unfold Qy at this;intro h9;simp only[xr,xe] at h9;rw[h9] at this;simp at this
        exact hh.out
       have R3:=qa (xb q1 (xb q2 (xb q3 q4)))
       have hBr:Hid (B<=wr.heap.size):=xi hBw.out (xi K5.out.2.1 q4.2.1)
       replace hkid:=qa hkid;dsimp only[sv] at KO;rw[<-hhs.out] at KO;clear q1 q2 q3 q4 N6 D6 S6;subst e3
       go_wp2_with fail
       refine KO.out.mono ?_;rintro e w7 ⟨rfl,b7⟩;have KR:=qa (ih.out (by omega) w7 s2 m2 kid (Qi nd lo k) (qZ nd hi k) (R3.out.2.2.1.to b7) R3.out.2.1 (xi hBr.out b7.size) hho.out hkw.out)
       rw[<-hde.out] at KR;have K7:=qa (R3.out.2.2.2.trans (KpM.of b7))
       clear b7 KO
       go_wp2_with fail
       refine KR.out.mono ?_;rintro e w8 ⟨R8,rfl,k8,h8⟩;cases R8 with
       | true =>
        have hI':Hid (∃ s' m',wkK (wk ps f) nd lo hi 0 (nd.kids.take (k+1)) s1=some s'/\s'.prs.length<=4096/\PWk w0 w8 B g bm ⟨root,next,ps⟩ (.slice a ps.length c) s' m'/\KpM g bm w5 w8):=by
         rcases h8 with ⟨_,s',m',p1,p2,p3⟩|⟨p,_⟩
         ·exact⟨s',m',by rw[hst.out];exact p1,p2,p3,K7.out.trans k8⟩
         cases p
        clear h8 k8 KR;go_wp2;go_roundw
        case rel=>exact⟨k+1,by omega,by go_num,hI'⟩
        case measure=>simp[intOf];omega
       | false =>
        have RR:Hid (RchR w0 w w8 B g bm ⟨root,next,ps⟩ (.slice a ps.length c) (wk ps (f+1) id lo hi s) (.returned (.bool false))):=by
         refine⟨false,rfl,K5.out.trans (K7.out.trans k8),.inr ⟨rfl,fun s' hs'=>?_⟩⟩;rw[hW.out] at hs';obtain⟨sk,z1,z2⟩:=qn1 (qiv ps f) nd lo hi nd.kids s1 s' hs' (nd.kids.length-(k+1)) (k+1) (by rw[<-hD.out];omega)
         rw[hst.out] at z1;rcases h8 with ⟨p,_⟩|⟨_,p⟩
         ·cases p
         have:=p sk z1;omega
        clear h8 k8 KR;go_wp2;go_ret;exact RR.out
      have hq:¬ (k:Int)<(D:Int):=by omega
      have ht:nd.kids.take k=nd.kids:=xx (by rw[<-hD.out];omega)
      rw[ht,<-hW.out] at q1;have RR:Hid (RchR w0 w wr B g bm ⟨root,next,ps⟩ (.slice a ps.length c) (wk ps (f+1) id lo hi s) (.returned (.bool true))):=⟨true,rfl,K5.out.trans q4,.inl ⟨rfl,s2,m2,q1,q2,q3⟩⟩
      clear q1 q2 q3 q4 ht N6 D6 S6;go_wp2;go_ret;exact RR.out
   have hq:(err != 0)=true:=by simpa using he
   have hz:Hid (wk ps (f+1) id lo hi s=none):=qcy hx.out (by rw[<-herr];exact he)
   replace he:=qa he;replace hnd:=qa hnd;replace herr:=qa herr;rw[hUU] at KU;go_wp2;go_ret;exact RchR.no rfl KU.out hz.out
theorem qld:(Tryz.prog.info? 4).map (fun i=>(i.zero,i.size,i.bytes))=some (some (.bool false),1,1):=by kernel_rfl
theorem qf4 {n:Nat} (hn:n<=281474976710656) (u:World):(Instr.makeSlice 23 (.int .i64 (n:Int)) (.int .i64 (n:Int))).run Tryz.prog u =
      .ok (.slice (some ⟨u.heap.size,0,none⟩) n n) (u.alloc (.cells (madeCells #[.bool false] n) 4)):=by
 obtain⟨i0,hi,hz0,hz1,hz2⟩:=Xh qld;have h:=run_make (P:=Tryz.prog) u 23 4 i0 (.bool false) Tryz.underlying23 hi hz0 .i64 .i64 (n:Int) (n:Int) (by omega) (Kj _) (by rw[hz2];omega) (by omega)
 simpa[hz1,Value.cells] using h
theorem SeenW.made (w:World) (n:Nat) (h:n<=281474976710656):SeenW w.heap.size n [] (w.alloc (.cells (madeCells #[.bool false] n) 4)):=by
 have:=World.ownsRow_lit (base:=w.heap.size) (e:=4) (size:=1) w (madeCells #[.bool false] n) n (xc _) (by unfold maxLen;omega) (by simp[madeCells])
 rw[toList_madeCells_one] at this;show World.ownsRow _ _ _ _ _ _ _
 rw[qk1,List.map_replicate];exact this
def qs4 (w w':World) (t:Tr) (pv:Value) (n:Nat) (e:Ending):Prop :=
 ∃ g bs prv s bad,e=.returned (.pointer (some ⟨g,0,none⟩))/\RWk w w' g bs n t pv prv s bad/\((Qn t=some s/\bad=false)\/(Qn t=none/\bad=true))
theorem qh5 (w:World) (t:Tr) (pv:Value) (n:Nat) (hn:(n:Int)=t.next+1) (hN:1<=t.next/\t.next<=65536) (hU:je t.next t.pages t.pages.length) (h:RdC w pv t.pages) :
 Calls Tryz.prog 77 #[tv t pv] w fun e w'=>qs4 w w' t pv n e:=by
 have hmk:=fun u=>qf4 (n:=n) (by omega) u
 have KG:=qa (qpa w t pv)
 obtain⟨root,next,ps⟩:=t
 obtain⟨a,c,rfl⟩:=h.slice;obtain⟨W,hW,D,bW,sW⟩:=qf w #[.int .i64 root,.int .i64 next,.slice a ps.length c] 68
 obtain⟨⟨D0,D1,D2⟩,_⟩:=ql D;dsimp only[tv] at *;have hnw:IntKind.i64.wrap (n:Int)=(n:Int):=xB _ (by omega)
 have hE:=qa (xb D0 (xb D1 D2))
 rw[hW] at D0 D1 D2;have hn2:next+1=(n:Int):=hn.symm
 replace hn:=qa hn;go_enter Tryz.func77,Tryz.ntmps77;go_wp2;rw[<-hW];replace hW:=qa hW;obtain⟨D0,D1,D2⟩:=hE.out
 go_region
 obtain⟨X1,hX1⟩:∃ X,X=W.alloc (.cells (madeCells #[.bool false] n) 4):=⟨_,rfl⟩;obtain⟨X2,hX2,DX,bX2,sX2⟩:=qf X1 #[.int .i64 root,.int .i64 next,.slice a ps.length c,.slice (some ⟨w.heap.size+1,0,none⟩) n n,.bool false,.int .i64 0,.bool false,.slice none 0 0] 151
 have s1:X1.heap.size=w.heap.size+1+1:=by rw[hX1];simp[sW]
 have b1:Below W.heap.size W X1:=by rw[hX1];exact(xm _ _).alloc (xc _) _
 have sw0:SeenW (w.heap.size+1) n [] X1:=by rw[hX1,<-sW];exact SeenW.made W n (by have:=hn.out;omega)
 have bw:=bW.trans ((b1.mono bW.size).trans (bX2.mono (by omega)))
 have R0:RWk w X2 (w.heap.size+1+1) (w.heap.size+1) n ⟨root,next,ps⟩ (.slice a ps.length c) (.slice none 0 0) ⟨[],none,[]⟩ false :=
  ⟨by rw[<-s1];exact DX,qB sw0 bX2,xA _ _ _ _,h,⟨Km,(fun i hi=>by cases hi),xt _⟩,bw,by omega,by omega⟩
 have bd:Below X2.heap.size X2 X2.drew:=qg X2 1 _
 replace R0:=R0.to bd;have HB:=qa (bw.trans (bd.mono bw.size))
 have e0:=(HB.out.cell (p:=⟨w.heap.size,0,none⟩))
 have E0:X2.drew.cell? ⟨w.heap.size,0,none⟩=some (.int .i64 root):=by
  have q:Below W.heap.size W X2.drew:=(b1.trans (bX2.mono b1.size)).trans (bd.mono (b1.trans (bX2.mono b1.size)).size)
  exact(q.cell (qe D0)).trans D0
 rw[<-hX1];rw[<-hX2];clear e0 D0 D1 D2 hE;have RR:=qa R0
 have KC:=qa (KG.out (w.heap.size+1+1) (w.heap.size+1) n hn.out hN hU 16 (xc _) X2.drew _ _ false root [] none R0)
 clear R0 bw bd DX bX2 sX2 s1 b1 sw0 hX1 hX2 KG hmk D bW sW hn2 hnw;generalize X2.drew=Y at *;replace hU:=qa hU;replace h:=qa h;replace hN:=qa hN;by_cases r0:root=0
 ·have hr:Hid (Qn ⟨root,next,ps⟩=some ⟨[],none,[]⟩):=by show _=_;unfold Qn;rw[xj r0]
  have r1:(root != 0)=false:=by simp[r0]
  replace r0:=qa r0;go_wp2;go_ret;exact⟨_,_,_,_,_,rfl,RR.out,.inl ⟨hr.out,rfl⟩⟩
 have hr:Hid (Qn ⟨root,next,ps⟩=wk ps 16 root [] none ⟨[],none,[]⟩):=by show _=_;unfold Qn;rw[xh r0]
 have r1:(root != 0)=true:=by simp[r0]
 replace r0:=qa r0
 go_wp2_with fail
 refine KC.out.mono ?_;rintro e w7 ⟨rfl,pv7,s7,bad7,q1,q2,q3⟩;have Q:=qa (xb q1 q3)
 clear q1 q2 q3 KC;go_wp2;go_ret;refine⟨_,_,_,_,_,rfl,Q.out.1,?_⟩;rw[hr.out];exact Q.out.2.2 rfl
def qtb (B:Nat) (w':World) (o:Option (List Pr)) (v:Value) (err:Int):Prop:=(∃ l,o=some l/\err=0/\OwnP B w' v l)\/(o=none/\err=9/\v=.slice none 0 0)
theorem qnn (w:World) (t:Tr) (pv:Value) (h:RdC w pv t.pages) :
 Calls Tryz.prog 54 #[tv t pv] w fun e w'=>∃ v err,e=.returned (.tuple #[v,.int .i64 err])/\qtb w.heap.size w' (QR t) v err/\Below w.heap.size w w':=by
 obtain⟨root,next,ps⟩:=t
 obtain⟨a,c,rfl⟩:=h.slice;obtain⟨W,hW,D,bW,sW⟩:=qf w #[.int .i64 root,.int .i64 next,.slice a ps.length c] 68
 dsimp only[tv] at *;have KN:=qa (qc2 W (.slice a ps.length c) ⟨root,next,ps⟩ (h.to0 bW))
 obtain⟨⟨D0,D1,D2⟩,_⟩:=ql D;have hE:=qa (xb D0 (xb D1 D2))
 have HB:=qa bW
 have HH:=qa h
 rw[hW] at D0 D1 D2 KN;dsimp only[tv] at KN;clear h bW D sW;go_enter Tryz.func54,Tryz.ntmps54
 go_wp2_with fail
 refine KN.out.mono ?_;rintro e w1 ⟨rfl,b1⟩;rw[<-hW] at b1;replace hW:=qa hW;have B1:=qa (HB.out.trans (b1.mono HB.out.size))
 have E1:Hid (w1.cell? ⟨w.heap.size,0,none⟩=some (.int .i64 root)/\w1.cell? ⟨w.heap.size,1,none⟩=some (.int .i64 next)/\w1.cell? ⟨w.heap.size,2,none⟩=some (.slice a ps.length c)) :=
  ⟨(b1.cell (qe hE.out.1)).trans hE.out.1,(b1.cell (qe hE.out.2.1)).trans hE.out.2.1,(b1.cell (qe hE.out.2.2)).trans hE.out.2.2⟩
 clear b1 KN hE D0 D1 D2;by_cases hT:TNum ⟨root,next,ps⟩
 ·have q1:decide (TNum ⟨root,next,ps⟩)=true:=xv hT
  have hr:Hid (QR ⟨root,next,ps⟩=(Qn ⟨root,next,ps⟩).bind fun s=>if s.prs.length<=4096 then some s.prs else none):=by show _=_;unfold QR;rw[xj hT]
  obtain⟨n,hn⟩:∃ n:Nat,(n:Int)=next+1:=⟨(next+1).toNat,by have:=hT.1;dsimp only at this;omega⟩
  have KW:=qa (qh5 w1 ⟨root,next,ps⟩ (.slice a ps.length c) n hn ⟨hT.1,hT.2.1⟩ hT.2.2.1 (HH.out.to0 B1.out))
  dsimp only[tv] at KW;replace hT:=qa hT;replace hn:=qa hn;obtain⟨D0,D1,D2⟩:=E1.out;rw[q1];clear q1
  go_wp2_with fail
  refine KW.out.mono ?_;rintro e w2 ⟨g,bs,prv,s,bad,rfl,q1,q2⟩;have Q:=qa (xb q1 q2)
  have B2:=qa (B1.out.trans (q1.bel.mono B1.out.size))
  obtain⟨⟨_,_,_,_⟩,⟨C4,_,_,C7⟩,CF⟩:=q1.cell;obtain⟨pa,pc,hpv⟩:=q1.prs.rd.slice;subst hpv;clear q1 q2 KW;cases bad with
  | true =>
   have hz:Hid (QR ⟨root,next,ps⟩=none):=by
    show _=_
    rw[hr.out];rcases Q.out.2 with ⟨_,q⟩|⟨q,_⟩
    ·cases q
    rw[q];rfl
   go_wp2
   go_ret2
   exact⟨_,_,rfl,.inr ⟨hz.out,rfl,rfl⟩,B2.out⟩
  | false =>
   have hs:Hid (Qn ⟨root,next,ps⟩=some s):=by
    rcases Q.out.2 with ⟨q,_⟩|⟨_,q⟩
    ·exact q
    cases q
   obtain⟨m,hm⟩:∃ m,m=s.prs.length:=⟨_,rfl⟩;rw[<-hm] at C7;replace hm:=qa hm;by_cases hgt:(m:Int)>4096
   ·have hz:Hid (QR ⟨root,next,ps⟩=none):=by
     show _=_
     rw[hr.out,hs.out];show (if s.prs.length<=4096 then _ else _)=_
     rw[xh (by rw[<-hm.out];omega)]
    go_wp2
    go_ret2
    exact⟨_,_,rfl,.inr ⟨hz.out,rfl,rfl⟩,B2.out⟩
   have hz:Hid (QR ⟨root,next,ps⟩=some s.prs):=by
    show _=_
    rw[hr.out,hs.out];show (if s.prs.length<=4096 then _ else _)=_
    rw[xj (by rw[<-hm.out];omega)]
   have O2:Hid (OwnP w.heap.size w2 (.slice pa m pc) s.prs):=by rw[hm.out];exact QA Q.out.1.prs B1.out.size
   go_wp2
   go_ret2
   exact⟨_,_,rfl,.inl ⟨_,hz.out,rfl,O2.out⟩,B2.out⟩
 have q1:decide (TNum ⟨root,next,ps⟩)=false:=xw hT
 have hr:Hid (QR ⟨root,next,ps⟩=none):=by show _=_;unfold QR;rw[xh hT]
 replace hT:=qa hT;rw[q1];clear q1;go_wp2
 go_ret2
 exact⟨_,_,rfl,.inr ⟨hr.out,rfl,rfl⟩,B1.out⟩
def Zo (l:List Pr) (k:Str):Option Str:=(l.find? fun y=>y.1 == k).map (·.2)
def pin (a b:Str) (y:Pr):Bool := !slt y.1 a&&(b == []||slt y.1 b)
def zr (l:List Pr) (a b:Str):List Pr:=l.filter (pin a b)
def qa4 (t:Tr) (a b:Str):List Pr×Int:=match QR t with
 | none=>([],9)
 | some l=>(zr l a b,0)
theorem qb6 {a b:Int} (h:a=b):Ending.returned (.int .i64 a)=.returned (.int .i64 b):=by rw[h]
theorem qlz {l:List Pr} {y:Pr} {k:Str} (hy:l[i]?=some y) (h:(y.1 == k)=true) (hb:∀ t z,t<i->l[t]?=some z->(z.1 == k)=false):Zo l k=some y.2:=by
 unfold Zo
 have:l.find? (fun y=>y.1 == k)=some y:=by
  induction l generalizing i with
  | nil=>simp at hy
  | cons x r ih =>
   cases i with
   | zero =>
    have:x=y:=by simpa using hy
    subst this;simp[List.find?,h]
   | succ i =>
    have h0:=hb 0 x (by omega) rfl
    rw[List.find?_cons,h0];exact ih (i:=i) (by simpa using hy) (fun t z ht hz=>hb (t+1) z (by omega) (by simpa using hz))
 rw[this];rfl
theorem qks {l:List Pr} {k:Str} (hb:∀ (t:Nat) z,l[t]?=some z->(z.1 == k)=false):Zo l k=none:=by
 unfold Zo
 have:l.find? (fun y=>y.1 == k)=none:=by
  rw[List.find?_eq_none];intro z hz;obtain⟨t,ht,e⟩:=Xw hz;simp[hb t z (by rw[xg ht,e])]
 rw[this];rfl
theorem qhi (l:List Pr) (a b:Str) {y:Pr} (h:l[i]?=some y):zr (l.take (i+1)) a b=if pin a b y=true then zr (l.take i) a b++[y] else zr (l.take i) a b:=by
 unfold zr;rw[Xf,h,X6];cases hp:pin a b y<;>simp[hp]
theorem TNum.p (h:TNum t):ye t:=⟨h.1,h.2.1,h.2.2.1⟩
theorem qlb {s:Sw} (h:Qn t=some s):t.root=0\/qH t.pages t.root≠none:=by
 unfold Qn at h;by_cases e:t.root=0
 ·exact .inl e
 rw[xh e] at h;refine .inr fun h1=>?_;rw[Jr h1] at h;cases h
theorem jK {s:Sw} (hp:ye t) (h:Qn t=some s) (hl:s.prs.length<=4096):QR t=some s.prs:=by
 unfold QR;rw[xj (show TNum t from⟨hp.1,hp.2.1,hp.2.2,qlb h⟩),h];simp[hl]
theorem qqg (h:¬ ye t):QR t=none:=by
 unfold QR;rw[xh fun h1=>h h1.p]
theorem qln (h:∀ s,Qn t=some s->4096<s.prs.length):QR t=none:=by
 unfold QR
 split
 ·cases hw:Qn t with
  | none=>rfl
  | some s =>
   have:=h s hw
   simp[show ¬ s.prs.length<=4096 by omega]
 rfl
def qs7 (w w':World) (t:Tr) (pv:Value) (e:Ending):Prop :=
 (∃ g bm B s m,e=.returned (.tuple #[.pointer (some ⟨g,0,none⟩),.int .i64 0])/\ye t/\Qn t=some s/\s.prs.length<=4096/\PWk w w' B g bm t pv s m/\B<=w'.heap.size)\/
 (e=.returned (.tuple #[.pointer none,.int .i64 9])/\QR t=none/\Below w.heap.size w w')
theorem vJ (w:World) (t:Tr) (pv:Value) (h:RdC w pv t.pages) (hroot:(Lit.int .i64 t.root).wf=true):Calls Tryz.prog 32 #[tv t pv] w fun e w'=>qs7 w w' t pv e:=by
 have hmm:=@run_makeMap Tryz.prog
 obtain⟨root,next,ps⟩:=t
 obtain⟨a,c,rfl⟩:=h.slice;obtain⟨W,hW,DW,bW,sW⟩:=qf w #[.int .i64 root,.int .i64 next,.slice a ps.length c] 27
 obtain⟨⟨D0,D1,D2⟩,_⟩:=ql DW;dsimp only[tv] at *;obtain⟨M,hM⟩:∃ M,M=W.alloc (.map #[] 0):=⟨_,rfl⟩;have sM:M.heap.size=w.heap.size+1+1:=by rw[hM];simp[sW]
 have bM:Below W.heap.size W M:=by rw[hM];exact(xm _ _).alloc (xc _) _
 obtain⟨X,hX,DX,bX,sX⟩:=qf M #[.int .i64 root,.int .i64 next,.slice a ps.length c,.map (some (w.heap.size+1)),.int .i64 0,.int .i64 0] 79
 have mI:MapI M (w.heap.size+1) 0 fun _=>none:=by rw[hM,<-sW];exact MapI.made W
 have bw:=bW.trans ((bM.mono bW.size).trans (bX.mono (by omega)))
 have P0:PWk w X (w.heap.size+1+1+1) (w.heap.size+1+1) (w.heap.size+1) ⟨root,next,ps⟩ (.slice a ps.length c) ⟨[],none,[]⟩ (fun _=>none) :=
  ⟨by rw[<-sM];exact DX,mI.kept (bX.block _ mI.lt),(fun i=>by simp),(fun i v hv=>by cases hv),h,⟨Km,(fun i hi=>by cases hi),xt _⟩,by simp,bw,by omega,by omega,(fun i j v u hv=>by cases hv)⟩
 have KN:=qa (qkb X (.slice a ps.length c) ⟨root,next,ps⟩ (h.to0 bw))
 obtain⟨⟨C0,C1,C2,C3⟩,⟨C4,C5⟩,CF⟩:=P0.cell;dsimp only[tv] at KN C0 C1 C2 C3 C4 C5;rw[hW] at D0 D1 D2;have HP:=qa P0
 rw[hX,hM,hW] at KN C0 C1 C2 C3 C4 C5 CF;clear h DW bW DX bX bM mI bw P0;go_enter Tryz.func32,Tryz.ntmps32
 go_wp2_with fail
 refine KN.out.mono ?_;rintro e w1 ⟨R,rfl,hR,b1⟩;rw[<-hW,<-hM,<-hX] at b1;clear KN C0 C1 C2 C3 C4 C5 CF D0 D1 D2;replace hX:=qa hX;replace hM:=qa hM;replace hW:=qa hW;have P1:=HP.out.to b1
 have hBs:Hid (w.heap.size+1+1+1<=w1.heap.size):=by have:=b1.size;show _<=_;omega
 obtain⟨⟨C0,C1,C2,C3⟩,⟨C4,C5⟩,CF⟩:=P1.cell;dsimp only at C0 C1 C2 C3 C4 C5;clear HP b1;cases R with
 | false =>
  have hz:Hid (QR ⟨root,next,ps⟩=none):=qqg fun h=>by have:=hR.2 h;cases this
  have PB:=qa P1.bel
  clear hR P1;go_wp2
  go_ret2
  exact .inr ⟨rfl,hz.out,PB.out⟩
 | true =>
  have hp:Hid (ye ⟨root,next,ps⟩):=hR.1 rfl
  have HP1:=qa P1
  have KR:=qa (qgr w ⟨root,next,ps⟩ (.slice a ps.length c) (w.heap.size+1+1+1) (w.heap.size+1+1) (w.heap.size+1) ⟨hp.out.1,hp.out.2.1⟩ hp.out.2.2 16 (xc _) w1 _ _ root [] none P1 (xt _) hBs.out (fun h=>by cases h) hroot)
  rw[show (17-((16:Nat):Int))=1 from rfl] at KR;replace hroot:=qa hroot;clear hR P1;by_cases r0:root=0
  ·have hr:Hid (Qn ⟨root,next,ps⟩=some ⟨[],none,[]⟩):=by show _=_;unfold Qn;rw[xj r0]
   have r1:(root != 0)=false:=by simp[r0]
   replace r0:=qa r0;go_wp2
   go_ret2
   exact .inl ⟨_,_,_,_,_,rfl,hp.out,hr.out,xt _,HP1.out,hBs.out⟩
  have hr:Hid (Qn ⟨root,next,ps⟩=wk ps 16 root [] none ⟨[],none,[]⟩):=by show _=_;unfold Qn;rw[xh r0]
  have r1:(root != 0)=true:=by simp[r0]
  replace r0:=qa r0
  go_wp2_with fail
  refine KR.out.mono ?_;rintro e w7 ⟨R7,rfl,k7,h7⟩;clear KR;cases R7 with
  | true =>
   obtain⟨s',m',q1,q2,q3⟩:∃ s' m',wk ps 16 root [] none ⟨[],none,[]⟩=some s'/\s'.prs.length<=4096/\PWk w w7 (w.heap.size+1+1+1) (w.heap.size+1+1) (w.heap.size+1) ⟨root,next,ps⟩ (.slice a ps.length c) s' m':=by
    rcases h7 with ⟨_,p⟩|⟨p,_⟩
    ·exact p
    cases p
   have Q:=qa (xb (hr.out.trans q1) (xb q2 (xb q3 (xi hBs.out k7.2.1))))
   clear h7 k7 q1 q2 q3;go_wp2
   go_ret2
   exact .inl ⟨_,_,_,_,_,rfl,hp.out,Q.out.1,Q.out.2.1,Q.out.2.2.1,Q.out.2.2.2⟩
  | false =>
   have hz:Hid (QR ⟨root,next,ps⟩=none):=qln fun s hs=>by
    rw[hr.out] at hs;rcases h7 with ⟨p,_⟩|⟨_,p⟩
    ·cases p
    exact p s hs
   have PB:=qa (HP1.out.bel.trans (k7.2.2 w.heap.size (by omega) (by omega) HP1.out.bel.size))
   clear h7 k7;go_wp2
   go_ret2
   exact .inr ⟨rfl,hz.out,PB.out⟩
def qs1 (w w':World) (t:Tr) (pv:Value) (k:Str) (e:Ending):Prop :=
 (∃ g bm B s m,e=.returned (.tuple #[.pointer (some ⟨g,0,none⟩),.int .i64 0])/\ZR k=true/\ye t/\Qn t=some s/\s.prs.length<=4096/\PWk w w' B g bm t pv s m/\B<=w'.heap.size)\/
 (∃ err,e=.returned (.tuple #[.pointer none,.int .i64 err])/\((QR t=none/\err=9)\/(∃ l,QR t=some l/\ZR k=false/\err=91))/\Below w.heap.size w w')
theorem PWk.from {v:World} {s:Sw} {m:Int->Option Value} (h:PWk w0 w B g bm t pv s m) (hb:Below v.heap.size v w0) (hr:RdC v pv t.pages):PWk v w B g bm t pv s m :=
 ⟨h.box,h.map,h.has,h.nds,hr,h.ok,h.dep,hb.trans (h.bel.mono hb.size),⟨xi hb.size h.hg.1,h.hg.2⟩,⟨xi hb.size h.hm.1,h.hm.2⟩,h.apt⟩
theorem JH (w:World) (t:Tr) (pv:Value) (k:Str) (hk:k.length<=9223372036854775807) (h:RdC w pv t.pages) (hroot:(Lit.int .i64 t.root).wf=true):Calls Tryz.prog 24 #[tv t pv,st k] w fun e w'=>qs1 w w' t pv k e:=by
 obtain⟨W,hW,D,bW,sW⟩:=qf w #[.int .i64 t.root,.int .i64 t.next,pv] 27
 have KN:=qa (vJ W t pv (h.to0 bW) hroot)
 have HH:=qa h
 obtain⟨a,c,rfl⟩:=h.slice;obtain⟨⟨D0,D1,D2⟩,_⟩:=ql D;have HB:=qa bW
 rw[hW] at D0 D1 D2 KN;dsimp only[tv] at KN |-;clear h bW D sW hroot;go_enter Tryz.func24,Tryz.ntmps24
 go_wp2_with fail
 refine KN.out.mono ?_;rintro e w1 hp;rw[<-hW] at hp;rcases hp with ⟨g,bm,B,s,m,rfl,p1,p2,p3,p4,p5⟩|⟨rfl,p1,p2⟩
 ·have ht:Hid (QR t=some s.prs):=jK p1 p2 p3
  have P4:=qa (p4.from HB.out HH.out)
  have QQ:=qa (xb p1 (xb p2 (xb p3 p5)))
  have hkd:Hid (ZR k=decide (1<=k.length/\k.length<=32)):=(rfl:_=_)
  clear p1 p2 p3 p4 p5 KN hW D0 D1 D2;by_cases c1:(k.length:Int)<1
  ·have hz:Hid (ZR k=false):=by show _=_;rw[hkd.out];exact xw (by omega)
   go_wp2
   go_ret2
   exact .inr ⟨_,rfl,.inr ⟨_,ht.out,hz.out,rfl⟩,P4.out.bel⟩
  by_cases c2:(k.length:Int)>32
  ·have hz:Hid (ZR k=false):=by show _=_;rw[hkd.out];exact xw (by omega)
   go_wp2
   go_ret2
   exact .inr ⟨_,rfl,.inr ⟨_,ht.out,hz.out,rfl⟩,P4.out.bel⟩
  have hz:Hid (ZR k=true):=by show _=_;rw[hkd.out];exact xv (by omega)
  go_wp2
  go_ret2
  exact .inl ⟨_,_,_,_,_,rfl,hz.out,QQ.out.1,QQ.out.2.1,QQ.out.2.2.1,P4.out,QQ.out.2.2.2⟩
 have B1:=qa (HB.out.trans (p2.mono HB.out.size))
 replace p1:=qa p1;clear p2 KN HB hW D0 D1 D2;go_wp2
 go_ret2
 exact .inr ⟨_,rfl,.inl ⟨p1.out,rfl⟩,B1.out⟩
def zE (l:List Wrt):Nat->Int->List Pr
 | 0,_=>[]
 | f+1,id=>match qH l id with
  | none=>[]
  | some x=>if(QJ x).1.leaf=true then npr (QJ x).1 else(QJ x).1.kids.flatMap (zE l f)
def WOk (l:List Wrt) (S:List Int):Nat->Int->Str->Option Str->Prop
 | 0,_,_,_=>False
 | f+1,id,lo,hi=>id∈S/\∃ x nd,qH l id=some x/\QJ x=(nd,0)/\nd.keys.all (kin lo hi)=true/\(nd.leaf=true->nd.keys≠[])/\
  (nd.leaf=false->∀ (i:Nat) kid,nd.kids[i]?=some kid->WOk l S f kid (Qi nd lo i) (qZ nd hi i))
theorem WOk.mono {l:List Wrt} {S S':List Int} (hS:∀ i∈S,i∈S'):∀ {f:Nat} {id:Int} {lo:Str} {hi:Option Str},WOk l S f id lo hi->WOk l S' f id lo hi
 | 0,_,_,_,h=>h
 | f+1,id,lo,hi,⟨h0,x,nd,h1,h2,h3,h4,h5⟩=>⟨hS _ h0,x,nd,h1,h2,h3,h4,fun hl i kid hk=>WOk.mono hS (h5 hl i kid hk)⟩
theorem ZB (h1:qH l id=some x) (h2:QJ x=(nd,0)) (hl:nd.leaf=true):zE l (f+1) id=npr nd:=by
 conv=>lhs;unfold zE
 rw[h1];simp[h2,hl]
theorem Zm (h1:qH l id=some x) (h2:QJ x=(nd,0)) (hl:nd.leaf=false):zE l (f+1) id=nd.kids.flatMap (zE l f):=by
 conv=>lhs;unfold zE
 rw[h1];simp[h2,hl]
theorem qnf {l:List Wrt} {f:Nat} (ih:∀ (id:Int) (lo:Str) (hi:Option Str) (s s':Sw),wk l f id lo hi s=some s'->(∀ i∈s.seen,i∈s'.seen)/\WOk l s'.seen f id lo hi/\s'.prs=s.prs++zE l f id) (n:Nd) (lo:Str) (hi:Option Str) :
 ∀ (ks:List Int) (i:Nat) (s s':Sw),wkK (wk l f) n lo hi i ks s=some s'->(∀ j∈s.seen,j∈s'.seen)/\(∀ (j:Nat) kid,ks[j]?=some kid->WOk l s'.seen f kid (Qi n lo (i+j)) (qZ n hi (i+j)))/\s'.prs=s.prs++ks.flatMap (zE l f)
 | [],i,s,s',h=>by
  simp only[wkK,xr] at h;subst h;exact⟨fun _ h=>h,fun j kid h=>by simp at h,by simp⟩
 | k::r,i,s,s',h=>by
  simp only[wkK] at h;cases h1:wk l f k (Qi n lo i) (qZ n hi i) s with
  | none=>rw[h1] at h;cases h
  | some s1 =>
   rw[h1] at h;obtain⟨a1,a2,a3⟩:=ih _ _ _ _ _ h1;obtain⟨b1,b2,b3⟩:=qnf ih n lo hi r (i+1) s1 s' h;refine⟨fun j hj=>b1 j (a1 j hj),fun j kid hk=>?_,by rw[b3,a3];simp⟩
   cases j with
   | zero =>
    have:k=kid:=by simpa using hk
    subst this;exact a2.mono b1
   | succ j =>
    have:=b2 j kid (by simpa using hk)
    rw[show i+(j+1)=i+1+j from by omega]
    exact this
theorem qq8 {l:List Wrt}:∀ (f:Nat) (id:Int) (lo:Str) (hi:Option Str) (s s':Sw),wk l f id lo hi s=some s'->(∀ i∈s.seen,i∈s'.seen)/\WOk l s'.seen f id lo hi/\s'.prs=s.prs++zE l f id
 | 0,id,lo,hi,s,s',h=>by cases h
 | f+1,id,lo,hi,s,s',h=>by
  cases hx:qH l id with
  | none=>rw[Jr hx] at h;cases h
  | some x =>
   by_cases hs:id∈s.seen
   ·rw[Yk hs] at h;cases h
   by_cases he:(QJ x).2=0
   ·obtain⟨nd,hnd⟩:∃ nd,nd=(QJ x).1:=⟨_,rfl⟩;have hd:QJ x=(nd,0):=by rw[hnd,<-he]
    cases ha:nd.keys.all (kin lo hi) with
    | false =>
     unfold wk at h;rw[hx] at h;simp[hs,hd,ha] at h
    | true =>
     cases hl:nd.leaf with
     | true =>
      rw[yq hx hs hd ha hl] at h
      split at h
      ·cases h
      rename_i hc
      simp only[xr] at h;subst h;refine⟨fun i hi=>Xg _ hi,⟨XP ..,x,nd,hx,hd,ha,fun _ h0=>hc (.inl h0),fun h0=>by rw[hl] at h0;cases h0⟩,?_⟩
      rw[ZB hx hd hl]
     | false =>
      rw[J8 hx hs hd ha hl] at h;obtain⟨b1,b2,b3⟩:=qnf (qq8 f) nd lo hi nd.kids 0 _ s' h;refine⟨fun i hi=>b1 i (Xg _ hi),⟨b1 _ (XP ..),x,nd,hx,hd,ha,(fun h0=>by rw[hl] at h0;cases h0),fun _ i kid hk=>?_⟩,?_⟩
      ·have:=b2 i kid hk
       rw[XD] at this;exact this
      rw[b3,Zm hx hd hl]
   rw[qcy hx he] at h;cases h
abbrev jf (l:List Str):Prop:=l.Pairwise fun a b=>slt a b=true
theorem qcx (h:QZ n n.keys.length):jf n.keys:=by
 apply List.pairwise_iff_getElem.2;intro i j hi hj hij;have:=YQ h j i hij hj
 simpa[Qy,hi,hj] using this
theorem qbm {b:Str} (h1:slt b a=false) (h2:slt b c=true):slt a c=true:=by
 rcases jI a b with h|h|h
 ·exact QO h h2
 ·subst h;exact h2
 rw[h] at h1;cases h1
theorem zx {b:Str} (h1:slt a b=true) (h2:slt c b=false):slt a c=true:=by
 rcases jI b c with h|h|h
 ·exact QO h1 h
 ·subst h;exact h1
 rw[h] at h2;cases h2
theorem qaj {b:Str} (h:slt a b=true):(a == b)=false:=by
 apply X9.2;intro e;have:a=b:=by simpa using e
 subst this;rw[qU] at h;cases h
theorem Vo {b:Str} (h:slt b a=true):(a == b)=false:=by
 apply X9.2;intro e;have:a=b:=by simpa using e
 subst this;rw[qU] at h;cases h
theorem Y4 (leaf:Bool) (key:Str):∀ l:List Str,(∀ x∈l,slt key x=true)->JN leaf key l=0
 | [],_=>rfl
 | k::r,h=>by
  have h1:=h k (by simp)
  have h2:=Qb h1
  simp only[JN];rw[Y4 leaf key r fun x hx=>h x (Xg _ hx),h2,Vo h1];simp
theorem Jn (key:Str):∀ l:List Str,jf l->∃ i:Nat,JN false key l=(i:Int)/\i<=l.length/\(∀ (j:Nat) x,j<i->l[j]?=some x->slt key x=false)/\(∀ (j:Nat) x,i<=j->l[j]?=some x->slt key x=true)
 | [],_=>⟨0,rfl,xc _,fun j x h=>by omega,fun j x _ h=>by simp at h⟩
 | k::r,h=>by
  obtain⟨h1,h2⟩:=kJ.1 h;cases hk:slt key k with
  | true =>
   have hall:∀ x∈r,slt key x=true:=fun x hx=>QO hk (h1 x hx)
   refine⟨0,Y4 false key _ (fun x hx=>?_),xt _,fun j x h=>by omega,fun j x _ hx=>?_⟩
   ·rcases xU.1 hx with rfl|hx
    ·exact hk
    exact hall x hx
   rcases xU.1 (xQ hx) with rfl|hx
   ·exact hk
   exact hall x hx
  | false =>
   obtain⟨i,a1,a2,a3,a4⟩:=Jn key r h2;refine⟨i+1,?_,by simp;omega,fun j x hj hx=>?_,fun j x hj hx=>?_⟩
   ·simp only[JN]
    have:(slt k key||(!false&&k == key))=true:=by
     rcases jI k key with h|h|h
     ·simp[h]
     ·simp[h]
     rw[h] at hk;cases hk
    rw[xj this,a1];omega
   ·cases j with
    | zero=>have:k=x:=by simpa using hx
            subst this;exact hk
    | succ j=>exact a3 j x (by omega) (by simpa using hx)
   cases j with
   | zero=>omega
   | succ j=>exact a4 j x (by omega) (by simpa using hx)
theorem vx (key:Str):∀ l:List Str,jf l->∃ i:Nat,JN true key l=(i:Int)/\i<=l.length/\(nis key l=true->l[i]?=some key)/\(∀ (j:Nat) x,j<i->l[j]?=some x->slt x key=true)/\(∀ (j:Nat) x,i<=j->l[j]?=some x->slt x key=false)
 | [],_=>⟨0,rfl,xc _,fun h=>by simp[nis] at h,fun j x h=>by omega,fun j x _ h=>by simp at h⟩
 | k::r,h=>by
  obtain⟨h1,h2⟩:=kJ.1 h;cases hk:slt k key with
  | true =>
   obtain⟨i,a1,a2,a3,a4,a5⟩:=vx key r h2;refine⟨i+1,?_,by simp;omega,fun hn=>?_,fun j x hj hx=>?_,fun j x hj hx=>?_⟩
   ·simp only[JN];rw[xj (by simp[hk]),a1]
    omega
   ·have:nis key r=true:=by
     simp only[nis,List.any_cons,qaj hk,Bool.false_or] at hn;exact hn
    simpa using a3 this
   ·cases j with
    | zero=>have:k=x:=by simpa using hx
            subst this;exact hk
    | succ j=>exact a4 j x (by omega) (by simpa using hx)
   cases j with
   | zero=>omega
   | succ j=>exact a5 j x (by omega) (by simpa using hx)
  | false =>
   have hall:∀ x∈r,slt key x=true:=fun x hx=>qbm hk (h1 x hx)
   refine⟨0,?_,xt _,fun hn=>?_,fun j x h=>by omega,fun j x _ hx=>?_⟩
   ·simp only[JN];rw[xh (by simp[hk]),Y4 true key r hall]
    rfl
   ·have hkk:k=key:=by
     simp only[nis,List.any_cons,Bool.or_eq_true] at hn;rcases hn with h|h
     ·simpa using h
     obtain⟨x,hx,e⟩:=List.any_eq_true.1 h;have:x=key:=by simpa using e
     subst this;have:=hall x hx
     rw[qU] at this;cases this
    simp[hkk]
   rcases xU.1 (xQ hx) with rfl|hx
   ·exact hk
   exact Qb (hall x hx)
theorem qiu {lo:Str} {hi:Option Str} (ha:n.keys.all (kin lo hi)=true) (hi9:i<=n.keys.length) {k:Str} (h:kin (Qi n lo i) (qZ n hi i) k=true):kin lo hi k=true:=by
 have hall:=XR.1 ha
 simp only[kin,xL,Xl] at h |-;refine⟨?_,?_⟩
 ·by_cases h0:i=0
  ·rw[Qi,xj h0] at h;exact h.1
  have hlt:i-1<n.keys.length:=by omega
  have hk:=hall (n.keys[i-1]) (Xy hlt)
  simp only[kin,xL,Xl] at hk;have e:Qi n lo i=n.keys[i-1]:=by rw[Qi,xh h0];simp[hlt]
  rw[e] at h;cases hc:slt k lo with
  | false=>rfl
  | true =>
   have:=zx hc hk.1
   rw[this] at h;cases h.1
 by_cases h0:i<n.keys.length
 ·have hk:=hall (n.keys[i]) (Xy h0)
  simp only[kin,xL,Xl] at hk;have e:qZ n hi i=some n.keys[i]:=by rw[qZ,xj h0];simp[h0]
  rw[e] at h;cases hi with
  | none=>rfl
  | some b=>exact QO h.2 hk.2
 rw[qZ,xh h0] at h;exact h.2
theorem Q9 (hok:NOk nd) (hl:nd.leaf=false):nd.kids.length=nd.keys.length+1:=by
 have h1:=hok.2.1
 unfold qP at h1;rw[hl,xh (by decide)] at h1
 exact h1.2.2
theorem jL (h:QJ x=(nd,0)):NOk nd:=by have:=(vB (xs:=x) (by rw[h])).1;rw[h] at this;exact this
theorem WOk.kin {l:List Wrt} {S:List Int}:∀ {f:Nat} {id:Int} {lo:Str} {hi:Option Str},WOk l S f id lo hi->∀ y∈zE l f id,kin lo hi y.1=true
 | 0,_,_,_,h,_,_=>h.elim
 | f+1,id,lo,hi,⟨h0,x,nd,h1,h2,h3,h4,h5⟩,y,hy=>by
  cases hl:nd.leaf with
  | true =>
   rw[ZB h1 h2 hl] at hy;exact XR.1 h3 _ (List.of_mem_zip hy).1
  | false =>
   rw[Zm h1 h2 hl] at hy;obtain⟨kid,hk,hy⟩:=kM.1 hy;obtain⟨i,hi9,e⟩:=Xw hk;have hk':nd.kids[i]?=some kid:=by rw[xg hi9,e]
   have:=WOk.kin (h5 hl i kid hk') y hy
   exact qiu h3 (by rw[Q9 (jL h2) hl] at hi9;omega) this
theorem qn0 (a b:List Pr) (k:Str) (h:∀ y∈a,(y.1 == k)=false):Zo (a++b) k=Zo b k:=by
 unfold Zo;rw[List.find?_append]
 have:a.find? (fun y=>y.1 == k)=none:=by
  rw[List.find?_eq_none];intro y hy;simp[h y hy]
 rw[this];rfl
theorem qjl (a b:List Pr) (k:Str) (h:∀ y∈b,(y.1 == k)=false):Zo (a++b) k=Zo a k:=by
 unfold Zo;rw[List.find?_append]
 have:b.find? (fun y=>y.1 == k)=none:=by
  rw[List.find?_eq_none];intro y hy;simp[h y hy]
 rw[this];simp
theorem qbu {g:Int->List Pr} {k:Str}:∀ (ks:List Int) (i:Nat) (kid:Int),ks[i]?=some kid->(∀ (j:Nat) kd,j≠i->ks[j]?=some kd->∀ y∈g kd,(y.1 == k)=false)->Zo (ks.flatMap g) k=Zo (g kid) k
 | [],i,kid,h,_=>by simp at h
 | a::r,0,kid,h,hn=>by
  have:a=kid:=by simpa using h
  subst this;rw[xO];apply qjl;intro y hy;obtain⟨kd,hk,hy⟩:=kM.1 hy;obtain⟨j,hj,e⟩:=Xw hk;exact hn (j+1) kd (by omega) (by simp[hj,e]) y hy
 | a::r,i+1,kid,h,hn=>by
  rw[xO,qn0 _ _ _ (hn 0 a (by omega) rfl)]
  exact qbu r i kid (by simpa using h) fun j kd hj hk=>hn (j+1) kd (by omega) (by simpa using hk)
theorem qta {lo:Str} {hi:Option Str} (hok:NOk nd) (hl:nd.leaf=false) (key:Str) (h5:∀ (i:Nat) kid,nd.kids[i]?=some kid->WOk l S f kid (Qi nd lo i) (qZ nd hi i)) :
 ∃ (i:Nat) (kid:Int),Qf nd key=(i:Int)/\nd.kids[i]?=some kid/\i<nd.kids.length/\Zo (nd.kids.flatMap (zE l f)) key=Zo (zE l f kid) key:=by
 obtain⟨i,a1,a2,a3,a4⟩:=Jn key nd.keys (qcx hok.1);have hlen:=Q9 hok hl
 obtain⟨kid,hkid⟩:∃ kid,nd.kids[i]?=some kid:=⟨_,xg (by omega)⟩
 refine⟨i,kid,?_,hkid,by omega,?_⟩
 ·rw[Qf,xj ((ze nd).2 hok),hl];exact a1
 refine qbu nd.kids i kid hkid fun j kd hj hk y hy=>?_;have hb:=(h5 j kd hk).kin y hy
 have hjl:=(xn.1 hk).1
 simp only[Go.Proofs.YtfjadfnjmpefkaaGreat.kin,xL,Xl] at hb;rcases Nat.lt_or_gt_of_ne hj with h|h
 ·have hjk:j<nd.keys.length:=by omega
  have e:qZ nd hi j=some nd.keys[j]:=by rw[qZ,xj hjk];simp[hjk]
  rw[e] at hb;have h1:=a3 j nd.keys[j] h (xg hjk)
  exact qaj (zx hb.2 h1)
 have hjk:j-1<nd.keys.length:=by omega
 have e:Qi nd lo j=nd.keys[j-1]:=by rw[Qi,xh (by omega)];simp[hjk]
 rw[e] at hb;have h1:=a4 (j-1) nd.keys[j-1] (by omega) (xg hjk)
 exact Vo (zx h1 hb.1)
theorem qmi (hr:jf nd.keys) (hv:nd.vals.length=nd.keys.length) (key:Str):∃ i:Nat,JN true key nd.keys=(i:Int)/\i<=nd.keys.length /\
 ((nis key nd.keys=true/\i<nd.vals.length/\Zo (npr nd) key=nd.vals[i]?)\/(nis key nd.keys=false/\Zo (npr nd) key=none)):=by
 obtain⟨i,a1,a2,a3,a4,a5⟩:=vx key nd.keys hr;refine⟨i,a1,a2,?_⟩;cases hn:nis key nd.keys with
 | true =>
  have hk:=a3 hn
  have hil:=(xn.1 hk).1
  obtain⟨v,hv2⟩:∃ v,nd.vals[i]?=some v:=⟨_,xg (by omega)⟩
  refine .inl ⟨rfl,by omega,?_⟩
  rw[hv2];have hz:(npr nd)[i]?=some (key,v):=by simp[npr,kP,hk,hv2]
  exact qlz hz (by simp) fun t z ht hz2=>by
   rw[npr,kP] at hz2;exact qaj (a4 t z.1 ht hz2.1)
 | false =>
  refine .inr ⟨rfl,qks fun t z hz=>?_⟩;rw[npr,kP] at hz;simp only[nis,List.any_eq_false] at hn;have:=hn z.1 (xQ hz.1)
  simpa using this
abbrev nd0:Nd:=⟨true,[],[],[]⟩
theorem qha:NOk nd0:=by
 refine⟨fun k hk=>by simp at hk,?_,fun k hk=>by simp at hk,fun k hk=>by simp at hk,by decide⟩
 simp[qP]
def TopIs (t:Tr) (nd:Nd):Prop:=(t.root=0/\nd=nd0)\/(t.root≠0/\∃ x,qH t.pages t.root=some x/\QJ x=(nd,0))
theorem Qe:(Tryz.prog.info? 84).map (·.size)=some 4:=by kernel_rfl
theorem yA {s:Sw} (h:Qn t=some s) (h0:t.root≠0):WOk t.pages s.seen 16 t.root [] none/\s.prs=zE t.pages 16 t.root:=by
 unfold Qn at h;rw[xh h0] at h;obtain⟨_,a,b⟩:=qq8 16 _ _ _ _ _ h;exact⟨a,by simpa using b⟩
theorem PWk.node {s:Sw} {m:Int->Option Value} (h:PWk w0 w B g bm t pv s m) (hi:id∈s.seen):∃ v,m id=some v/\NdOf t.pages B w id v:=by
 have h1:=h.has id
 rw[xv hi] at h1;obtain⟨v,hv⟩:=Option.isSome_iff_exists.1 h1;exact⟨v,hv,h.nds id v hv⟩
theorem qy {o:Option Obj} (h:w.heap[b]?=o):w.drew.heap[b]?=o:=h
abbrev S4 (g:Nat) (w:World) (x y z v:Value):World:=(((w.setCell ⟨g,0,none⟩ x).setCell ⟨g,1,none⟩ y).setCell ⟨g,2,none⟩ z).setCell ⟨g,3,none⟩ v
theorem z8 (h:w.heap[g]?=some (.cells cs T (0,0))) (x y z v:Value) (he:e≠T):KeepT e w (S4 g w x y z v) :=
 (((KeepT.set (a:=⟨g,0,none⟩) h he x).trans (KeepT.set (a:=⟨g,1,none⟩) (qw h 0 x) he y)).trans (KeepT.set (a:=⟨g,2,none⟩) (qw (qw h 0 x) 1 y) he z)).trans (KeepT.set (a:=⟨g,3,none⟩) (qw (qw (qw h 0 x) 1 y) 2 z) he v)
theorem QE (x y z v:Value) (h:b≠g):(S4 g w x y z v).heap[b]?=w.heap[b]?:=by
 rw[xd _ _ _ _ h,xd _ _ _ _ h,xd _ _ _ _ h,xd _ _ _ _ h]
theorem OwnN.keepT {dv:Value} (h:OwnN B w kv vv dv nd) (k1:KeepT 9 w w') (k2:KeepT 3 w w'):OwnN B w' kv vv dv nd:=⟨qs h.keys k1,qs h.vals k1,qs h.kids k2⟩
theorem PWk.side {s:Sw} {m:Int->Option Value} (h:PWk w0 w B g bm t pv s m) (k:∀ e,e≠84->KeepT e w w') (hm:w'.heap[bm]?=w.heap[bm]?) (hb:Below w0.heap.size w0 w'):PWk w0 w' B g bm t pv s m:=by
 refine⟨k _ (by decide) _ _ _ h.box,h.map.kept hm,h.has,fun i v hv=>?_,h.pg,h.ok,h.dep,hb,h.hg,h.hm,h.apt⟩
 obtain⟨x,nd,kv,vv,dv,h1,h2,h3,h4,h5⟩:=h.nds i v hv;exact⟨x,nd,kv,vv,dv,h1,h2,h3,h4.keepT (k _ (by decide)) (k _ (by decide)),h5⟩
theorem qam (w0 w:World) (B g bm:Nat) (t:Tr) (pv:Value) (s:Sw) (m:Int->Option Value) (H:PWk w0 w B g bm t pv s m) (hroot:(Lit.int .i64 t.root).wf=true) (ht:Qn t=some s) :
 Calls Tryz.prog 34 #[.pointer (some ⟨g,0,none⟩)] w fun e w'=>∃ nd kv vv dv,e=.returned (nv nd kv vv dv)/\TopIs t nd/\OwnN B w' kv vv dv nd/\Below w.heap.size w w'/\Dj kv vv dv:=by
 obtain⟨root,next,ps⟩:=t
 obtain⟨W,hW,DW,bW,sW⟩:=qf w #[.bool false,.slice none 0 0,.slice none 0 0,.slice none 0 0] 84;have HW:=H.to bW
 obtain⟨⟨C0,C1,C2,C3⟩,⟨C4,C5⟩,CF⟩:=HW.cell;obtain⟨⟨E0,E1,E2,E3⟩,EF⟩:=qb DW;dsimp only at C0 C1 C2 C3 C4 C5 hroot;have HB:=qa bW
 have HD:=qa DW
 have HC:=qa (xb HW.cell (qb DW))
 rw[hW] at C0 C1 C2 C3 C4 C5 CF E0 E1 E2 E3 EF;by_cases r0:root=0
 ·have q:(root == 0)=true:=by simp[r0]
  have hT:Hid (TopIs ⟨root,next,ps⟩ nd0):=.inl ⟨r0,rfl⟩
  replace r0:=qa r0;clear DW bW;go_enter Tryz.func34,Tryz.ntmps34;go_wp2;refine Js rfl rfl w.heap.size rfl _ _ _ (xy w _) _ xJ rfl Qe ?_;exact⟨nd0,_,_,_,rfl,hT.out,OwnN.nil _ _ _,(xm _ _).alloc (xc _) _,Dj.nil⟩
 have q:(root == 0)=false:=by simp[r0]
 obtain⟨h1,_⟩:=yA ht r0;obtain⟨v,hv,x,nd,kv,vv,dv,n1,n2,rfl,n4,n5⟩:=HW.node h1.1;replace n5:=qa n5;have bD:Below W.heap.size W W.drew:=qg W 1 _
 have HD2:=HW.to bD
 have hlk1:=HW.map.look xS (QG W) hroot false
 have hlk2:=HD2.map.look xS (QG W.drew) hroot false
 rw[hv] at hlk1 hlk2;simp only[xM,xI,XJ] at hlk1 hlk2;have hT:Hid (TopIs ⟨root,next,ps⟩ nd):=.inr ⟨r0,x,n1,n2⟩
 obtain⟨ka,kc,va,vc,da,dc,rfl,rfl,rfl⟩:=n4.rd.slices;dsimp only[nv] at hlk1 hlk2;have HN4:=qa n4
 replace r0:=qa r0;have HD0:=qa DW
 clear HD DW bW;go_enter Tryz.func34,Tryz.ntmps34
 go_upto_region 3 with fail
 rw[<-hW];clear C0 C1 C2 C3 C4 C5 CF E0 E1 E2 E3 EF;obtain⟨⟨⟨C0,C1,C2,C3⟩,⟨C4,C5⟩,CF⟩,⟨E0,E1,E2,E3⟩,EF⟩:=HC.out;dsimp only at C0 C1 C2 C3 C4 C5;replace hW:=qa hW
 go_region
 go_wp2;refine Js rfl rfl w.heap.size rfl _ _ (0,0) (qy (qu HD0.out _ _ _ _)) _ xJ rfl Qe ?_;refine⟨nd,_,_,_,rfl,hT.out,?_,?_,n5.out⟩
 ·have k:=fun e he=>z8 (w:=W) HD0.out (.bool nd.leaf) (.slice ka nd.keys.length kc) (.slice va nd.vals.length vc) (.slice da nd.kids.length dc) (e:=e) he
  exact OwnN.to (HN4.out.keepT (k _ (by decide)) (k _ (by decide)):OwnN B (S4 w.heap.size W _ _ _ _) _ _ _ nd) (qg _ 1 _)
 exact(qn HB.out (xc _) _ _ _ _).trans (qg _ 1 _)
def SK (l:List Wrt) (S:List Int) (prs:List Pr) (key:Str) (k:Nat) (nd:Nd):Prop:=NOk nd/\((nd.leaf=true/\Zo prs key=Zo (npr nd) key)\/
 (nd.leaf=false/\∃ lo hi,(∀ (i:Nat) kid,nd.kids[i]?=some kid->WOk l S k kid (Qi nd lo i) (qZ nd hi i))/\Zo prs key=Zo (nd.kids.flatMap (zE l k)) key))
theorem SK.top {s:Sw} (ht:Qn t=some s) (h:TopIs t nd) (key:Str):SK t.pages s.seen s.prs key 15 nd:=by
 rcases h with ⟨h0,rfl⟩|⟨h0,x,h1,h2⟩
 ·refine⟨qha,.inl ⟨rfl,?_⟩⟩;unfold Qn at ht;rw[xj h0] at ht;simp only[xr] at ht;subst ht;rfl
 obtain⟨⟨a1,x',nd',b1,b2,b3,b4,b5⟩,c⟩:=yA ht h0;rw[h1] at b1;simp only[xr] at b1;subst b1;rw[h2] at b2;simp only[K8,XS] at b2;subst b2;refine⟨jL h2,?_⟩;cases hl:nd.leaf with
 | true=>exact .inl ⟨rfl,by rw[c,ZB h1 h2 hl]⟩
 | false=>exact .inr ⟨rfl,[],none,b5 hl,by rw[c,Zm h1 h2 hl]⟩
theorem SK.step {key:Str} (h:SK l S prs key k nd) (hl:nd.leaf=false) :
 ∃ (i:Nat) (kid:Int),Qf nd key=(i:Int)/\nd.kids[i]?=some kid/\i<nd.kids.length/\kid∈S/\∃ k' x nd',k=k'+1/\qH l kid=some x/\QJ x=(nd',0)/\SK l S prs key k' nd':=by
 obtain⟨hok,h|⟨_,lo,hi,h1,h2⟩⟩:=h
 ·rw[hl] at h;cases h.1
 obtain⟨i,kid,a1,a2,a3,a4⟩:=qta hok hl key h1;have hw:=h1 i kid a2
 cases k with
 | zero=>exact hw.elim
 | succ k' =>
  obtain⟨b0,x,nd',b1,b2,b3,b4,b5⟩:=hw;refine⟨i,kid,a1,a2,a3,b0,k',x,nd',rfl,b1,b2,jL b2,?_⟩;cases hl':nd'.leaf with
  | true=>exact .inl ⟨rfl,by rw[h2,a4,ZB b1 b2 hl']⟩
  | false=>exact .inr ⟨rfl,_,_,b5 hl',by rw[h2,a4,Zm b1 b2 hl']⟩
theorem SK.leaf {key:Str} (h:SK l S prs key k nd) (hl:nd.leaf=true) :
 ∃ i:Nat,Qf nd key=(i:Int)/\((jQ nd key=true/\i<nd.vals.length/\Zo prs key=nd.vals[i]?)\/(jQ nd key=false/\Zo prs key=none)):=by
 obtain⟨hok,⟨_,h⟩|⟨h,_⟩⟩:=h
 ·have hv:nd.vals.length=nd.keys.length:=by
   have h1:=hok.2.1
   unfold qP at h1;rw[xj hl] at h1;exact h1.1
  obtain⟨i,a1,a2,a3⟩:=qmi (qcx hok.1) hv key;refine⟨i,by rw[Qf,xj ((ze nd).2 hok),hl];exact a1,?_⟩
  rw[jQ,xj ((ze nd).2 hok),h];rcases a3 with ⟨b1,b2,b3⟩|⟨b1,b2⟩
  ·exact .inl ⟨b1,b2,b3⟩
  exact .inr ⟨b1,b2⟩
 rw[hl] at h;cases h
theorem NOk.fit (h:NOk nd):jH nd:=by
 have h1:=(JI h).2
 have h2:=h.2.1
 unfold qP at h2;unfold jH
 split at h2<;>omega
structure VI (w0 w wr:World) (B g bm:Nat) (t:Tr) (pv:Value) (s:Sw) (m:Int->Option Value) (nb:Nat) (key:Str) (k:Nat) (nd:Nd) (kv vv dv:Value):Prop where
 box:wr.heap[nb]?=some (.cells #[.bool nd.leaf,kv,vv,dv] 84 (0,0))
 own:OwnN B wr kv vv dv nd
 pw:PWk w0 wr B g bm t pv s m
 sk:SK t.pages s.seen s.prs key k nd
 bel:Below w.heap.size w wr
theorem VI.to {s:Sw} {m:Int->Option Value} {key:Str} {dv:Value} (h:VI w0 w wr B g bm t pv s m nb key k nd kv vv dv) (b:Below wr.heap.size wr w'):VI w0 w w' B g bm t pv s m nb key k nd kv vv dv :=
 ⟨(b.block _ (xa h.box)).trans h.box,h.own.to b,h.pw.to b,h.sk,h.bel.trans (b.mono h.bel.size)⟩
theorem VI.put {s:Sw} {m:Int->Option Value} {key:Str} {k':Nat} {nd':Nd} {dv kv' vv' dv':Value} (h:VI w0 w wr B g bm t pv s m nb key k nd kv vv dv) (hnb:w.heap.size<=nb) (hw:w0.heap.size<=w.heap.size)
 (ho:OwnN B wr kv' vv' dv' nd') (hs:SK t.pages s.seen s.prs key k' nd'):VI w0 w (S4 nb wr (.bool nd'.leaf) kv' vv' dv').drew B g bm t pv s m nb key k' nd' kv' vv' dv':=by
 have kk:=fun e (he:e≠84)=>z8 h.box (.bool nd'.leaf) kv' vv' dv' he
 refine VI.to (wr:=S4 nb wr (.bool nd'.leaf) kv' vv' dv') ⟨qu h.box _ _ _ _,ho.keepT (kk _ (by decide)) (kk _ (by decide)),?_,hs,qn h.bel hnb _ _ _ _⟩ (qg _ 1 _)
 exact h.pw.side kk (QE _ _ _ _ (h.pw.map.ne h.box)) (qn h.pw.bel (xi hw hnb) _ _ _ _)
def qfl (o:Option Str):Str×Bool:=match o with|some v=>(v,true)|none=>([],false)
theorem yT (w0 w:World) (B g bm:Nat) (t:Tr) (pv:Value) (s:Sw) (m:Int->Option Value) (key:Str) (H:PWk w0 w B g bm t pv s m) (hB:B<=w.heap.size) (hroot:(Lit.int .i64 t.root).wf=true) (ht:Qn t=some s) :
 Calls Tryz.prog 25 #[.pointer (some ⟨g,0,none⟩),st key] w fun e w'=>e=.returned (.tuple #[st (qfl (Zo s.prs key)).1,.bool (qfl (Zo s.prs key)).2])/\Below w.heap.size w w':=by
 have KT:=qa (qam w0 w B g bm t pv s m H hroot ht)
 obtain⟨R,hR⟩:∃ R,R=qfl (Zo s.prs key):=⟨_,rfl⟩;rw[<-hR];replace hR:=qa hR;replace H:=qa H;replace ht:=qa ht;go_enter Tryz.func25,Tryz.ntmps25
 go_wp2_with fail
 refine KT.out.mono ?_;rintro e w1 ⟨nd,kv,vv,dv,rfl,hT,ho,b1,_⟩;obtain⟨X,hX,DX,bX,sX⟩:=qf w1 #[.bool nd.leaf,kv,vv,dv] 84;have bw:=b1.trans (bX.mono b1.size)
 have HX:=qa (H.out.to bw)
 have SK0:=SK.top ht.out hT key
 have KF:=qa (jp X kv vv dv nd key (ho.to bX).rd SK0.1.fit)
 obtain⟨ka,kc,va,vc,da,dc,rfl,rfl,rfl⟩:=ho.rd.slices;obtain⟨⟨E0,E1,E2,E3⟩,EF⟩:=qb DX;rw[hX] at E0 E1 E2 E3 EF KF;have OX:=qa (ho.to bX)
 have DX':=qa DX
 have BX:=qa bw
 replace SK0:=qa SK0;have hnb:Hid (w.heap.size<=w1.heap.size):=b1.size
 dsimp only[nv] at KF;clear DX bX bw ho b1 hT KT
 go_wp2_with fail
 refine KF.out.mono ?_;rintro e w2 ⟨rfl,b2⟩;rw[<-hX] at b2;replace hX:=qa hX;have VI0:Hid (VI w0 w w2 B g bm t pv s m w1.heap.size key 15 nd (.slice ka nd.keys.length kc) (.slice va nd.vals.length vc) (.slice da nd.kids.length dc)):=VI.to ⟨DX'.out,OX.out,HX.out,SK0.out,BX.out⟩ b2
 have hw0:Hid (w0.heap.size<=w.heap.size):=H.out.bel.size
 obtain⟨nb,hnb'⟩:∃ nb,nb=w1.heap.size:=⟨_,rfl⟩;rw[<-hnb'] at VI0 hnb |-;clear hnb' DX' OX HX SK0 BX KF E0 E1 E2 E3 EF b2;go_wp2
 go_loopg [7,8] 15 (fun k a b wr=>∃ nd kv vv dv,a=.int .i64 (Qf nd key)/\b=.bool (jQ nd key)/\Hid (VI w0 w wr B g bm t pv s m nb key k nd kv vv dv))
 case atStart=>exact⟨nd,_,_,_,rfl,rfl,VI0⟩
 case round =>
 obtain⟨nd,kv,vv,dv,rfl,rfl,hI⟩:=hrel;clear VI0;obtain⟨ka,kc,va,vc,da,dc,rfl,rfl,rfl⟩:=hI.out.own.rd.slices;obtain⟨⟨E0,E1,E2,E3⟩,EF⟩:=qb hI.out.box;obtain⟨⟨C0,C1,C2,C3⟩,⟨C4,C5⟩,CF⟩:=hI.out.pw.cell;cases hl:nd.leaf with
 | false =>
  rw[hl] at E0;obtain⟨i,kid,s1,s2,s3,s4,k',x,nd',rfl,n1,n2,s5⟩:=hI.out.sk.step hl;obtain⟨v,hv,x',nd'',kv',vv',dv',z1,z2,rfl,z4,_⟩:=hI.out.pw.node s4;rw[n1] at z1;simp only[xr] at z1;subst z1;rw[n2] at z2;simp only[K8,XS] at z2;subst z2;obtain⟨b5,off5,e5,hc5⟩:=hI.out.own.rd.kids.intAt s2;subst e5
  have hkw:(Lit.int .i64 kid).wf=true:=by
   have:=hI.out.sk.1.2.2.2.1 i s3
   rw[s2] at this;simp only[xM] at this;exact Kv (by omega)
  have bD:Below wr.heap.size wr wr.drew:=qg wr 1 _
  have hlk1:=hI.out.pw.map.look xS (QG wr) hkw false
  have hlk2:=(hI.out.pw.to bD).map.look xS (QG wr.drew) hkw false
  rw[hv] at hlk1 hlk2;simp only[xM,xI,XJ] at hlk1 hlk2;have VN:=qa (hI.out.put (kv':=kv') (vv':=vv') (dv':=dv') hnb.out hw0.out z4 s5)
  obtain⟨ka',kc',va',vc',da',dc',rfl,rfl,rfl⟩:=z4.rd.slices;dsimp only[nv] at hlk1 hlk2;have hil:(i:Int)<(nd.kids.length:Int):=by omega
  have KF:=qa (jp _ _ _ _ nd' key VN.out.own.rd s5.1.fit)
  obtain⟨⟨F0,F1,F2,F3⟩,FF⟩:=qb VN.out.box;rw[s1];replace hl:=qa hl;clear s1 s2 s4 n1 n2 s5 hv z4 bD hkw hI;obtain⟨Y,hY⟩:∃ Y,Y=(S4 nb wr (.bool nd'.leaf) (.slice ka' nd'.keys.length kc') (.slice va' nd'.vals.length vc') (.slice da' nd'.kids.length dc')).drew:=⟨_,rfl⟩;rw[<-hY] at VN KF F0 F1 F2 F3 FF;dsimp only[S4] at hY;dsimp only[nv] at KF;go_wp2
  go_region
  rw[<-hY];clear hY hlk1 hlk2 E0 E1 E2 E3 EF C0 C1 C2 C3 C4 C5 CF
  go_wp2_with fail
  refine KF.out.mono ?_;rintro e w5 ⟨rfl,b5⟩;have VN5:=qa (VN.out.to b5)
  clear b5 VN KF F0 F1 F2 F3 FF;go_wp2
  go_roundg k'
  case measure=>omega
  case rel=>exact⟨nd',_,_,_,rfl,rfl,VN5⟩
 | true =>
  rw[hl] at E0;obtain⟨i,s1,s2⟩:=hI.out.sk.leaf hl;have BB:=qa hI.out.bel
  rw[s1];rcases s2 with ⟨s2,s3,s4⟩|⟨s2,s3⟩
  ·obtain⟨v,hv⟩:=qz nd.vals (k:=i) s3;have hr:Hid (R=(v,true)):=by show _=_;rw[hR.out,s4,hv];rfl
   obtain⟨b5,off5,e5,hc5⟩:=hI.out.own.rd.vals.strAt hv;subst e5;have hil:(i:Int)<(nd.vals.length:Int):=by omega
   rw[s2];replace hl:=qa hl;clear s1 s2 s4 hv hI;go_wp2
   go_ret2
   rw[hr.out];exact⟨rfl,BB.out⟩
  have hr:Hid (R=([],false)):=by show _=_;rw[hR.out,s3];rfl
  rw[s2];replace hl:=qa hl;clear s1 s2 s3 hI;go_wp2
  go_ret2
  rw[hr.out];exact⟨rfl,BB.out⟩
abbrev OwnPg (B:Nat) (w:World) (v:Value) (ws:List Wrt):Prop:=OwnX 97 B w v ws
theorem qlu:(Tryz.prog.info? 97).map (fun i=>(i.zero,i.size,i.bytes))=some (some (.agg #[.int .i64 0,.slice none 0 0]),2,32):=by kernel_rfl
theorem OwnX.shape (h:OwnX T B w v ws):∃ a c,v=.slice a ws.length c:=by
 obtain⟨svs,h1,h2,h3⟩:=h;rcases h2.2 with ⟨rfl,e⟩|⟨g,cap,cur,rfl,_⟩
 ·exact⟨none,0,by rw[e]⟩
 exact⟨_,_,rfl⟩
theorem OwnX.to9 (h:OwnX T B w v ws) (b:Below w.heap.size w w'):OwnX T B w' v ws:=h.keepT (KeepT.below b) (KeepT.below b)
theorem Z9 {a:Act} {Q:Exit->Act->World->Prop} (hgd:o.guard=none) (s x:Operand)
 (ho:o.op=.call {callee:=.builtin .append,args:=#[s,x],argTypes:=#[25,25]}) (B:Nat) (v:Value) (ws:List Wrt) (f:Wrt) (sv:Value) (g:Nat) (hs:a.eval s=v) (hx:a.eval x=.slice (some ⟨g,0,none⟩) 1 1)
 (hown:OwnPg B w v ws) (hsv:OwnB B w sv f.2) (hone:sv.oneCell'=true) (hc1:w.cell? ⟨g,0,none⟩=some (.int .i64 f.1)) (hc2:w.cell? ⟨g,1,none⟩=some sv) (hlen:(ws.length+1)*32<=140737488355328) (hB:B<=w.heap.size)
 (h:∀ v' w',OwnPg B w' v' (ws++[f])->w.grownBy w' v.ownBlock->Below B w w'->(∀ e,e≠97->KeepT e w w')->wpList Tryz.prog ops Q rest (a.put o.dst v') w'):wpList Tryz.prog ops Q (o::rest) a w:=by
 obtain⟨i0,hi,hz0,hz1,hz2⟩:=Xh qlu;obtain⟨svs,h1,h2,h3⟩:=hown
 have n2:∀ j u,[Value.int .i64 f.1,sv][j]?=some u->w.cell? ((⟨g,0,none⟩:Addr).add j)=some u:=by
  intro j u hj
  match j,hj with
  | 0,hj=>simp at hj;subst hj;simpa[Addr.add] using hc1
  | 1,hj=>simp at hj;subst hj;simpa[Addr.add] using hc2
  | j+2,hj=>simp at hj
 refine kO _ hgd s x 25 ho B 97 i0 (.agg #[.int .i64 0,.slice none 0 0]) 2 32 Tryz.underlying25 hi hz0 hz1 hz2 rfl (by decide) v ws.length (Ze ws svs) hs h2 ⟨g,0,none⟩ 1 1 [.int .i64 f.1,sv] hx rfl n2
  (fun u hu=>by simp at hu;rcases hu with rfl|rfl;rfl;exact hone) (by rw[show maxLen=9223372036854775807 from rfl];omega) hlen hB ?_
 intro v' w' q1 q2 _;exact h v' w' (OwnX.snoc (by decide) h1 h2 h3 hsv q2 (by simpa using q1)) q2 ((xm _ _).grown q2 hB (fun k hk=>(xo h2 k hk).1)) (fun e he=>KeepT.grown h2 q2 he)
theorem qme (w:World) (v:Value) (xs:List UInt8) (h:Rd w v xs) (hm:xs.length<=140737488351232) :
 Calls Tryz.prog 64 #[v] w fun e w'=>∃ v',e=.returned v'/\OwnB w.heap.size w' v' xs/\Below w.heap.size w w':=by
 have h':=h
 obtain⟨ao,cap,rfl,h1,h2,h3,h4⟩:=h;cases ao with
 | none =>
  have:xs=[]:=by
   rcases h4 with h4|⟨b,off,e,_⟩
   ·exact h4
   cases e
  subst this;obtain rfl:cap=0:=h3 rfl;clear h' h1 h2 h3 h4;have hnil:(binOp .eql 52 (.slice none 0 0) (.slice none 0 0)).run Tryz.prog w=.ok (.bool true) w:=Lib.run_eql_slice_nil w 52 5 _ 0 0 0 0 xW
  go_enter Tryz.func64,Tryz.ntmps64;go_wp2;go_ret;exact⟨_,rfl,xA _ _ _ _,xm _ _⟩
 | some ad =>
  rcases h4 with h4|⟨b,off,e,_⟩
  ·subst h4;obtain⟨X,hX⟩:∃ u,u=w.alloc (.cells #[] 5):=⟨_,rfl⟩;have oX:OwnB w.heap.size X (.slice (some ⟨w.heap.size,0,none⟩) 0 0) []:=by rw[hX];exact qcw w [] (by decide)
   have bX:Below w.heap.size w X:=by rw[hX];exact(xm _ _).alloc (xc _) _
   have rX:=h'.to bX
   have hl:([]:List UInt8).length+([]:List UInt8).length<=140737488355328:=by simp
   have hsz:=bX.size
   have hnil:(binOp .eql 52 (.slice (some ad) 0 cap) (.slice none 0 0)).run Tryz.prog w=.ok (.bool false) w:=Lib.run_eql_slice_nil w 52 5 _ 0 cap 0 0 xW
   clear h' h1 h2 h3;go_enter Tryz.func64,Tryz.ntmps64
   go_wp2_with (at_builtin;rw[<-hX];refine qx rfl _ _ rfl w.heap.size _ _ _ _ rfl rfl oX rX hl hsz ?_;intro v6 w6 o6 b6 _)
   go_ret;exact⟨_,rfl,by simpa using o6,bX.trans b6⟩
  simp only[xr] at e;subst e;exact qcn w b off _ cap xs h' hm
theorem qK {a b c:Value} {t:TypeId} {fr:Nat×Nat} (h:u.heap[g]?=some (.cells #[a,b,c] t fr)) (x y z:Value):(((u.setCell ⟨g,0,none⟩ x).setCell ⟨g,1,none⟩ y).setCell ⟨g,2,none⟩ z).heap[g]?=some (.cells #[x,y,z] t fr):=by
 have:=qw (qw (qw h 0 x) 1 y) 2 z
 simpa using this
theorem qD (h:Below B w u) (hg:B<=g) (x y z:Value):Below B w (((u.setCell ⟨g,0,none⟩ x).setCell ⟨g,1,none⟩ y).setCell ⟨g,2,none⟩ z):=((h.setCell hg _).setCell hg _).setCell hg _
theorem QM {a b c:Value} {T:TypeId} (h:u.heap[g]?=some (.cells #[a,b,c] T (0,0))) (x y z:Value) (he:e≠T):KeepT e u (((u.setCell ⟨g,0,none⟩ x).setCell ⟨g,1,none⟩ y).setCell ⟨g,2,none⟩ z) :=
 ((KeepT.set (a:=⟨g,0,none⟩) h he x).trans (KeepT.set (a:=⟨g,1,none⟩) (qw h 0 x) he y)).trans (KeepT.set (a:=⟨g,2,none⟩) (qw (qw h 0 x) 1 y) he z)
theorem vp {P:Program} (w:World) {a:Act} {Q:Exit->Act->World->Prop} (hg:o.guard=none) (l c:Operand) (t:TypeId) (hop:o.op=Op.makeSlice t l c)
 (kl kc:IntKind) (C:Int) (n:Nat) (hl:a.eval l=.int kl 0) (hc:a.eval c=.int kc C) (hC:C=(n:Int)) (v:Value) (w':World) (hr:(Instr.makeSlice t (.int kl 0) (.int kc (n:Int))).run P w=.ok v w') (h:wpList P ops Q rest (a.put o.dst v) w'):wpList P ops Q (o::rest) a w:=by
 refine wpList_plain hg fun K hK'=>?_;subst hC;unfold Oper.wp;simp[execOp,hop,hl,hc,hr,Result.andThen];exact hK' _ _ h
theorem zi:(Tryz.prog.info? 27).map (·.size)=some 3:=by kernel_rfl
theorem qap {y:Wrt} (h:l[k]?=some y):l.take (k+1)=l.take k++[y]:=by rw[Xf,h];rfl
theorem yC (h:w.cell? ⟨b,i,none⟩=some v) (o:Obj):(w.alloc o).cell? ⟨b,i,none⟩=some v :=
 (((xm w.heap.size w).alloc (xc _) o).cell (p:=⟨b,i,none⟩) (qe h)).trans h
theorem yh (w:World) (t:Tr) (pv:Value) (h:RdC w pv t.pages) (hl:t.pages.length<=65536) (hx:∀ x∈t.pages,x.2.length<=140737488351232) :
 Calls Tryz.prog 29 #[tv t pv] w fun e w'=>∃ pv',e=.returned (tv t pv')/\OwnPg w.heap.size w' pv' t.pages/\Below w.heap.size w w':=by
 obtain⟨j0,ji,jz0,jz1,jz2⟩:=Xh qlu;obtain⟨root,next,ps⟩:=t
 obtain⟨a,c,rfl⟩:=h.slice;dsimp only[tv] at *;obtain⟨W,hW,DW,bW,sW⟩:=qf w #[.int .i64 root,.int .i64 next,.slice a ps.length c] 27
 obtain⟨X,hX,DX,bX,sX⟩:=qf W #[.int .i64 0,.int .i64 0,.slice none 0 0] 27;obtain⟨w1,hmk,own1,gr1⟩:=run_make_own (P:=Tryz.prog) X X.heap.size 25 97 j0 _ 2 Tryz.underlying25 ji jz0 jz1 .i64 .i64 ps.length (by rw[jz2];omega) (by unfold maxLen;omega) (xc _)
 have b1:Below X.heap.size X w1:=(xm _ _).grown gr1 (xc _) (fun k h=>by cases h)
 have bWX:=bW.trans (bX.mono bW.size)
 have D1:=(b1.block _ (by rw[sX,sW];omega)).trans ((bX.block _ (xa DW)).trans DW)
 have X1:=(b1.block _ (xa DX)).trans DX
 have O1:OwnPg X.heap.size w1 (.slice (some ⟨X.heap.size,0,none⟩) 0 ps.length) []:=⟨[],rfl,own1,fun i hi=>by simp at hi⟩
 obtain⟨⟨E0,E1,E2⟩,EF⟩:=ql ((bX.block _ (xa DW)).trans DW);obtain⟨⟨F0,F1,F2⟩,FF⟩:=ql D1;have HH:=qa h
 have HX:=qa bWX
 have hBX:=qa ((bX.block _ (xa DW)).trans DW)
 have hRX:=qa DX
 have hsl:(Value.slice (some ⟨X.heap.size,0,none⟩) 0 ps.length)=.slice (some ⟨w.heap.size+1+1,0,none⟩) 0 ps.length:=by rw[sX,sW]
 have HI:Hid (OwnPg X.heap.size w1 (.slice (some ⟨w.heap.size+1+1,0,none⟩) 0 ps.length) []/\Below X.heap.size X w1):=by rw[<-hsl];exact⟨O1,b1⟩
 have hsz:Hid (X.heap.size=w.heap.size+1+1):=by show _=_;rw[sX,sW]
 obtain⟨L,hL⟩:∃ L,L=ps.length:=⟨_,rfl⟩;rw[sW] at hRX;rw[hX,hW] at hmk E0 E1 E2 EF;clear h bW bX DW DX D1 X1 O1 own1 gr1 b1 bWX;go_enter Tryz.func29,Tryz.ntmps29
 go_wp2_with (at_make;refine vp _ rfl _ _ 25 rfl _ _ _ ps.length rfl rfl rfl _ _ hmk ?_)
 clear hmk E0 E1 E2 EF F0 F1 F2 FF;replace hX:=qa hX;replace hW:=qa hW
 go_loopw [3,13] (fun o p wr=>∃ k:Nat,k<=ps.length/\p=.int .i64 k/\Hid (OwnPg X.heap.size wr o (ps.take k)/\Below X.heap.size X wr)) (fun _ p _=>ps.length-(intOf p).toNat)
 case atStart=>exact⟨0,xt _,rfl,HI⟩
 case round =>
 obtain⟨k,hk,rfl,hI⟩:=hrel;clear HI;have BW:=qa (HX.out.trans (hI.out.2.mono HX.out.size))
 by_cases hlt:k<ps.length
 ·have hq:(k:Int)<(ps.length:Int):=by omega
  obtain⟨y,hy⟩:∃ y,ps[k]?=some y:=⟨_,xg hlt⟩;have hxl:=hx y (xQ hy)
  have hsn:=qa (qap hy)
  obtain⟨b,off,u,e1,hc1,hc2,hr⟩:=HH.out.wrt hy;subst e1;obtain⟨z,x⟩:=y;dsimp only at hc1 hc2 hr hxl;obtain⟨au,cu,rfl⟩:=hr.slice;replace hc1:=(BW.out.cell (qe hc1)).trans hc1;replace hc2:=(BW.out.cell (qe hc2)).trans hc2;obtain⟨V,hV,DV,bV,sV⟩:=qf wr #[.int .i64 z,.slice au x.length cu] 97;have VD:=DV
  obtain⟨⟨V0,V1⟩,_⟩:=Qc DV;have bVd:Below V.heap.size V V.drew:=qg V 1 _
  have bwV:=bV.trans (bVd.mono bV.size)
  have V0d:=(bVd.cell (qe V0)).trans V0
  have V1d:=(bVd.cell (qe V1)).trans V1
  have KC:=qa (qme V.drew _ x (hr.to (BW.out.trans (bwV.mono BW.out.size))) hxl)
  have II:=qa (xb (hI.out.1.to9 bwV) (hI.out.2.trans (bwV.mono hI.out.2.size)))
  obtain⟨oa,oc,ho⟩:=hI.out.1.shape;rw[xp,ke hk] at ho;subst ho;have hn:(k+1)*32<=140737488355328:=by omega
  have hlk:Hid ((ps.take k).length=k):=by show _=_;rw[xp,ke hk]
  obtain⟨XL,hXL⟩:∃ XL,XL=x.length:=⟨_,rfl⟩;rw[<-hXL] at KC hV V1 V1d hc2;replace hXL:=qa hXL;rw[hV] at V0 V1;clear hr bwV bVd bV DV VD hI hy
  go_upto_region 5 with fail
  rw[<-hV];replace hV:=qa hV;clear V0 V1 hc1 hc2;refine qj (fun w'=>w'.cell? ⟨wr.heap.size,0,none⟩=some (.int .i64 z)/\w'.cell? ⟨wr.heap.size,1,none⟩=some (.slice au XL cu)) 5 8 qG (by kernel_rfl) (fun _ _ _ _ h=>h) ⟨V0d,V1d⟩ ?_
  dsimp only[List.take,List.drop]
  iterate 5
   refine qA (v:=?_) (by rfl) ?_ ?_
   rotate_left
   ·rintro w' ⟨s1,s2⟩;go_simp;try with_reducible rfl
   try simp only[Act.put,qB4]
  refine qM fun K hK=>?_;refine ZJ (by rfl) 64 _ _ (by rfl) #[.slice au XL cu] (by simp[Act.eval]) (Tryz.call64 _ _) KC.out ?_
  rintro e w2 ⟨v2,rfl,o2,b2⟩;obtain⟨va,vc,hv2⟩:=o2.rd.slice;rw[<-hXL.out] at hv2;subst hv2;have U0:=(b2.cell (qe V0d)).trans V0d
  have U1:=(b2.cell (qe V1d)).trans V1d
  refine⟨_,rfl,hK _ _ ⟨U0,U1⟩ ?_⟩;clear hK K;have I2:=qa (xb (II.out.1.to9 b2) (II.out.2.trans (b2.mono II.out.2.size)))
  have O2:Hid (OwnB X.heap.size w2 (.slice va XL vc) x):=QA o2 II.out.2.size
  clear b2 o2 KC V0d V1d II;try simp only[Act.put,qB4]
  refine qM fun K hK=>?_;rw[xj (by rfl)]
  go_simp;refine hK _ _ ⟨U0,U1⟩ ?_;clear hK K;refine qM fun K hK=>?_;rw[xj (by rfl)]
  go_simp;refine hK _ _ ⟨yC U0 _,yC U1 _⟩ ?_;clear hK K;show wpList _ _ _ _ _ _
  obtain⟨Z,hZ,DZ,bZ,sZ⟩:=qf w2 #[.int .i64 z,.slice va XL vc] 97;obtain⟨⟨Z0,Z1⟩,_⟩:=Qc DZ;have OZ:OwnPg X.heap.size Z (.slice oa k oc) (ps.take k):=I2.out.1.to9 bZ
  have SZ:OwnB X.heap.size Z (.slice va XL vc) x:=qB O2.out bZ
  have BZ:=qa (I2.out.2.trans (bZ.mono I2.out.2.size))
  have hB:X.heap.size<=Z.heap.size:=BZ.out.size
  rw[hZ] at Z0 Z1 OZ SZ hB;refine Z9 rfl _ _ rfl X.heap.size (.slice oa k oc) (ps.take k) (z,x) (.slice va XL vc) w2.heap.size rfl rfl OZ SZ rfl Z0 Z1 (by rw[hlk.out];exact hn) hB ?_
  intro v5 w5 o5 g5 b5 _;rw[<-hZ] at b5;rw[<-hsn.out] at o5;have I5:=qa (xb o5 (BZ.out.trans b5))
  clear o5 g5 b5 Z0 Z1 OZ SZ hB DZ bZ hZ I2 O2 U0 U1;go_wp2;go_roundw
  case rel=>exact⟨k+1,by omega,by go_num,I5⟩
  case measure=>simp[intOf];omega
 have hq:¬ (k:Int)<(ps.length:Int):=by omega
 have htk:ps.take k=ps:=xx (by omega)
 rw[htk] at hI;have D6:=(hI.out.2.block _ (xa hBX.out)).trans hBX.out
 have R6:=(hI.out.2.block _ (xa hRX.out)).trans hRX.out
 obtain⟨⟨E0,E1,E2⟩,EF⟩:=ql D6;obtain⟨⟨F0,F1,F2⟩,FF⟩:=ql R6;obtain⟨oa,oc,ho⟩:=hI.out.1.shape;subst ho;have d0:=qw D6 2 (.slice oa ps.length oc)
 have D7:(wr.setCell ⟨w.heap.size,2,none⟩ (.slice oa ps.length oc)).heap[w.heap.size]?=some (.cells #[.int .i64 root,.int .i64 next,.slice oa ps.length oc] 27 (0,0)):=by simpa using d0
 have R7:(wr.setCell ⟨w.heap.size,2,none⟩ (.slice oa ps.length oc)).heap[w.heap.size+1]?=_:=(xd _ _ _ _ (show w.heap.size+1≠w.heap.size by omega)).trans R6
 obtain⟨⟨G0,G1,G2⟩,GF⟩:=ql D7;obtain⟨⟨J0,J1,J2⟩,JF⟩:=ql R7;have HR7:=qa R7
 have k1:∀ e,e≠27->KeepT e wr (((((wr.setCell ⟨w.heap.size,2,none⟩ (.slice oa ps.length oc)).setCell ⟨w.heap.size+1,0,none⟩ (.int .i64 root)).setCell ⟨w.heap.size+1,1,none⟩ (.int .i64 next)).setCell ⟨w.heap.size+1,2,none⟩ (.slice oa ps.length oc))):=fun e he =>
  (KeepT.set (a:=⟨w.heap.size,2,none⟩) D6 he _).trans (QM R7 _ _ _ he)
 have OO:=qa (hI.out.1.keepT (k1 _ (by decide)) (k1 _ (by decide)))
 have bb0:Below w.heap.size w (wr.setCell ⟨w.heap.size,2,none⟩ (.slice oa ps.length oc)):=BW.out.setCell (xc _) _
 have BB:=qa (qD bb0 (show w.heap.size<=w.heap.size+1 by omega) (.int .i64 root) (.int .i64 next) (.slice oa ps.length oc))
 have hXw:Hid (w.heap.size<=X.heap.size):=HX.out.size
 clear D6 R6 D7 R7 d0 k1 hI bb0;go_wp2;refine Js rfl rfl (w.heap.size+1) rfl _ _ (0,0) (qK HR7.out _ _ _) _ Xt rfl zi ?_;refine⟨_,rfl,?_,BB.out⟩;exact OwnX.base OO.out hXw.out
theorem qbb (w:World):Calls Tryz.prog 18 #[] w fun e w'=>e=.returned (tv ⟨0,1,[]⟩ (.slice none 0 0))/\Below w.heap.size w w':=by
 go_enter Tryz.func18,Tryz.ntmps18;go_wp2;refine Js rfl rfl w.heap.size rfl _ _ _ (xy w _) _ Xt rfl zi ?_;exact⟨rfl,(xm _ _).alloc (xc _) _⟩
abbrev NV:=Nd×Value×Value×Value
def ncl (ns:List NV):List Value:=ns.flatMap fun n=>[.bool n.1.leaf,n.2.1,n.2.2.1,n.2.2.2]
theorem qp2 (a b:List NV):ncl (a++b)=ncl a++ncl b:=by unfold ncl;rw[kH]
theorem qo5:∀ (l:List NV) (i:Nat) (y:NV),l[i]?=some y->(ncl l)[i*4]?=some (.bool y.1.leaf)/\(ncl l)[i*4+1]?=some y.2.1/\(ncl l)[i*4+2]?=some y.2.2.1/\(ncl l)[i*4+3]?=some y.2.2.2
 | [],i,y,h=>by simp at h
 | x::r,0,y,h=>by
  have:x=y:=by simpa using h
  subst this;exact⟨rfl,rfl,rfl,rfl⟩
 | x::r,i+1,y,h=>by
  have:=qo5 r i y (by simpa using h)
  rw[show (i+1)*4=i*4+4 from by omega,show i*4+4+1=i*4+1+4 from by omega,show i*4+4+2=i*4+2+4 from by omega,show i*4+4+3=i*4+3+4 from by omega]
  exact this
abbrev OwnNs (B:Nat) (w:World) (v:Value) (ns:List NV):Prop:=w.ownsRow B 84 4 v ns.length (ncl ns)
theorem qpy:(Tryz.prog.info? 84).map (fun i=>(i.zero,i.size,i.bytes))=some (some (.agg #[.bool false,.slice none 0 0,.slice none 0 0,.slice none 0 0]),4,80):=by kernel_rfl
theorem qj5 {a:Act} {K:Act->World->Prop} {Q:Exit->Act->World->Prop} {E:Prop} (hgd:o.guard=none) (s x:Operand)
 (ho:o.op=.call {callee:=.builtin .append,args:=#[s,x],argTypes:=#[124,124]}) (B:Nat) (v:Value) (ns:List NV) (y:NV) (g:Nat) (hs:a.eval s=v) (hx:a.eval x=.slice (some ⟨g,0,none⟩) 1 1)
 (hown:OwnNs B w v ns) (ho1:y.2.1.oneCell'=true/\y.2.2.1.oneCell'=true/\y.2.2.2.oneCell'=true) (hbx:w.heap[g]?=some (.cells #[.bool y.1.leaf,y.2.1,y.2.2.1,y.2.2.2] 84 (0,0))) (hlen:(ns.length+1)*80<=140737488355328) (hB:B<=w.heap.size)
 (h:∀ g' cap w',OwnNs B w' (.slice (some ⟨g',0,none⟩) (ns.length+1) cap) (ns++[y])->w.grownBy w' v.ownBlock->(v.ownBlock=some g'\/g'=w.heap.size)->K (a.put o.dst (.slice (some ⟨g',0,none⟩) (ns.length+1) cap)) w'):if Region.wanted o (yielded ops a.tmps)=true then Oper.wp Tryz.prog o a w K Q else E:=by
 obtain⟨i0,hi,hz0,hz1,hz2⟩:=Xh qpy
 have n2:∀ j u,(ncl [y])[j]?=some u->w.cell? ((⟨g,0,none⟩:Addr).add j)=some u:=by
  intro j u hj
  have e:(⟨g,0,none⟩:Addr).add j=⟨g,j,none⟩:=by
   by_cases h0:j=0
   ·subst h0;rfl
   simp[Addr.add,h0]
  rw[e];exact qt hbx (by simpa[ncl] using hj)
 refine step_append_lies _ hgd s x 124 ho B 84 i0 (.agg #[.bool false,.slice none 0 0,.slice none 0 0,.slice none 0 0]) 4 80 Tryz.underlying124 hi hz0 hz1 hz2 rfl (by decide) v ns.length (ncl ns) hs hown ⟨g,0,none⟩ 1 1 (ncl [y]) hx rfl n2
  (fun u hu=>by simp[ncl] at hu;rcases hu with rfl|rfl|rfl|rfl;rfl;exact ho1.1;exact ho1.2.1;exact ho1.2.2) (by decide) (by rw[show maxLen=9223372036854775807 from rfl];omega) hlen hB _ rfl ?_
 intro g' cap w' h1 h2 h3 _;refine h g' cap w' ?_ h2 h3;show World.ownsRow _ _ _ _ _ _ _
 rw[qp2]
 simpa using h1
structure ChI (B:Nat) (w:World) (gc g:Nat) (next:Int) (av:Value) (ns:List NV):Prop where
 box:w.heap[gc]?=some (.cells #[.pointer (some ⟨g,0,none⟩),av] 126 (0,0))
 row:OwnNs B w av ns
 nxt:w.cell? ⟨g,1,none⟩=some (.int .i64 next)
 hC:B<=gc
theorem ChI.to {next:Int} {ns:List NV} (h:ChI B w gc g next av ns) (b:Below w.heap.size w w'):ChI B w' gc g next av ns :=
 ⟨(b.block _ (xa h.box)).trans h.box,qB h.row b,(b.cell (qe h.nxt)).trans h.nxt,h.hC⟩
structure KCh (B gc:Nat) (av av':Value) (w w':World):Prop where
 keep:∀ b,b<w.heap.size->b≠gc->av.ownBlock≠some b->w'.heap[b]?=w.heap[b]?
 row:∀ b,av'.ownBlock=some b->av.ownBlock=some b\/w.heap.size<=b
 size:w.heap.size<=w'.heap.size
 bel:Below B w w'
theorem KCh.of (b:Below w.heap.size w w') (hB:B<=w.heap.size):KCh B gc av av w w':=⟨fun i hi _ _=>b.block i hi,fun i h=>.inl h,b.size,b.mono hB⟩
theorem KCh.trans {a b c:Value} {v:World} (h:KCh B gc a b u v) (k:KCh B gc b c v w):KCh B gc a c u w :=
 ⟨fun i h1 h2 h3=>(k.keep i (xV h1 h.size) h2 (fun e=>by
  rcases h.row i e with q|q
  ·exact h3 q
  ·omega)).trans (h.keep i h1 h2 h3),
  fun i e=>by
   rcases k.row i e with q|q
   ·exact h.row i q
   exact .inr (xi h.size q),
  xi h.size k.size,h.bel.trans k.bel⟩
theorem ChI.app {wA:World} {g' cap:Nat} {next:Int} {ns:List NV} {y:NV} (h:ChI B w gc g next av ns) (bA:Below w.heap.size w wA) (hB:B<=w.heap.size) (hg:∀ b,av.ownBlock=some b->b≠g) (hgc:gc≠g)
 (o5:OwnNs B w5 (.slice (some ⟨g',0,none⟩) (ns.length+1) cap) (ns++[y])) (g5:wA.grownBy w5 av.ownBlock) (l5:av.ownBlock=some g'\/g'=wA.heap.size) :
 ChI B (w5.setCell ⟨gc,1,none⟩ (.slice (some ⟨g',0,none⟩) (ns.length+1) cap)) gc g next (.slice (some ⟨g',0,none⟩) (ns.length+1) cap) (ns++[y])/\KCh B gc av (.slice (some ⟨g',0,none⟩) (ns.length+1) cap) w (w5.setCell ⟨gc,1,none⟩ (.slice (some ⟨g',0,none⟩) (ns.length+1) cap))/\
  w5.cell? ⟨gc,0,none⟩=some (.pointer (some ⟨g,0,none⟩))/\w5.cell? ⟨gc,1,none⟩=some av/\∀ i,w5.frozen? ⟨gc,i,none⟩=false:=by
 have hA:=h.to bA
 have hbx:=KeepT.grown hA.row g5 (e:=126) (by decide) _ _ _ hA.box
 have hkeep:∀ b,b<w.heap.size->av.ownBlock≠some b->w5.heap[b]?=w.heap[b]?:=fun b h1 h2=>(g5.block b (xV h1 bA.size) (fun e=>h2 e.symm)).trans (bA.block b h1)
 have hgl:g<w.heap.size:=qe h.nxt
 refine⟨⟨?_,qs o5 (KeepT.set (a:=⟨gc,1,none⟩) hbx (by decide) _),?_,h.hC⟩,⟨fun b h1 h2 h3=>(xd _ _ _ _ h2).trans (hkeep b h1 h3),fun b hb=>?_,?_,?_⟩,qt hbx rfl,qt hbx rfl,j5 hbx⟩
 ·have:=qw hbx 1 (.slice (some ⟨g',0,none⟩) (ns.length+1) cap)
  simpa using this
 ·have e1:(w5.setCell ⟨gc,1,none⟩ (.slice (some ⟨g',0,none⟩) (ns.length+1) cap)).heap[g]?=w.heap[g]?:=(xd _ _ _ _ (Ne.symm hgc)).trans (hkeep g hgl (fun e=>hg g e rfl))
  have:=h.nxt
  simp only[World.cell?] at this |-;rw[e1];exact this
 ·have:g'=b:=by simpa[Value.ownBlock] using hb
  subst this;rcases l5 with l5|l5
  ·exact .inl l5
  exact .inr (by rw[l5];exact bA.size)
 ·have:=g5.size
  have:=bA.size
  simp;omega
 exact((bA.mono hB).trans ((xm _ _).grown g5 (xi hB bA.size) (fun k hk=>(xo hA.row k hk).1))).setCell h.hC _
theorem yi (B:Nat) (w:World) (gc g:Nat) (next:Int) (av:Value) (ns:List NV) (nd:Nd) (kv vv dv:Value) (h:ChI B w gc g next av ns) (hB:B<=w.heap.size) (hg:∀ b,av.ownBlock=some b->b≠g) (hgc:gc≠g) (hns:ns.length<=1000) (hnx:0<=next/\next<=65536)
 (ho1:kv.oneCell'=true/\vv.oneCell'=true/\dv.oneCell'=true) :
 Calls Tryz.prog 82 #[.pointer (some ⟨gc,0,none⟩),nv nd kv vv dv] w fun e w'=>∃ av',e=.returned (.int .i64 (next+(ns.length:Int)))/\ChI B w' gc g next av' (ns++[(nd,kv,vv,dv)])/\KCh B gc av av' w w':=by
 obtain⟨W,hW,DW,bW,sW⟩:=qf w #[.bool nd.leaf,kv,vv,dv] 84;have hCW:=h.to bW
 obtain⟨aa,ac,hav⟩:∃ a c,av=.slice a ns.length c:=by
  rcases h.row.2 with ⟨rfl,e⟩|⟨g',cap,cur,rfl,_⟩
  ·exact⟨none,0,by rw[e]⟩
  exact⟨_,_,rfl⟩
 subst hav;obtain⟨Z,hZ⟩:∃ Z,Z=(W.alloc (.cells #[.bool nd.leaf,kv,vv,dv] 84)).drew:=⟨_,rfl⟩;obtain⟨za,hza,DA,bA0,sA⟩:=qf W #[.bool nd.leaf,kv,vv,dv] 84;have bWZ:Below W.heap.size W Z:=by rw[hZ,<-hza];exact bA0.trans (qg za 1 _)
 have bZ:Below w.heap.size w Z:=bW.trans (bWZ.mono bW.size)
 have DZ:Z.heap[W.heap.size]?=some (.cells #[.bool nd.leaf,kv,vv,dv] 84 (0,0)):=by rw[hZ,<-hza];exact qy DA
 have hOZ:OwnNs B Z (.slice aa ns.length ac) ns:=qB h.row bZ
 have hBZ:B<=Z.heap.size:=xi hB bZ.size
 have FIN:∀ g' cap w5,OwnNs B w5 (.slice (some ⟨g',0,none⟩) (ns.length+1) cap) (ns++[(nd,kv,vv,dv)])->Z.grownBy w5 (Value.slice aa ns.length ac).ownBlock->((Value.slice aa ns.length ac).ownBlock=some g'\/g'=Z.heap.size)->_:=fun g' cap w5 o5 g5 l5=>h.app bZ hB hg hgc o5 g5 l5
 have hK5:∀ w5,Z.grownBy w5 (Value.slice aa ns.length ac).ownBlock->w5.heap[w.heap.size]?=some (.cells #[.bool nd.leaf,kv,vv,dv] 84 (0,0)):=fun w5 g5=>by
  refine(g5.block w.heap.size (by have:=bWZ.size;omega) fun e=>?_).trans ((bWZ.block _ (by omega)).trans DW)
  have:=(xo h.row w.heap.size e.symm).2
  omega
 have bWd:Below W.heap.size W W.drew:=qg W 1 _
 have C1:W.drew.cell? ⟨gc,1,none⟩=some (.slice aa ns.length ac):=qt (qy hCW.box) rfl
 have C0:W.drew.cell? ⟨gc,0,none⟩=some (.pointer (some ⟨g,0,none⟩)):=qt (qy hCW.box) rfl
 obtain⟨⟨E0,E1,E2,E3⟩,_⟩:=qb (qy DW);obtain⟨m,hm⟩:∃ m:Nat,m=ns.length:=⟨_,rfl⟩;obtain⟨z1,hz1⟩:∃ z:Int,next+((m+1:Nat):Int)=z:=⟨_,rfl⟩
 have hzw:IntKind.i64.wrap z1=z1:=xB _ (by omega)
 obtain⟨z2,hz2⟩:∃ z:Int,z1-1=z:=⟨_,rfl⟩;have hzw2:IntKind.i64.wrap z2=z2:=xB _ (by omega)
 have hres:Hid (z2=next+(ns.length:Int)):=by show _=_;omega
 rw[sW] at DZ;rw[hZ] at DZ hOZ hBZ FIN hK5;replace DZ:=qa DZ;replace hOZ:=qa hOZ;replace hBZ:=qa hBZ;replace FIN:=qa FIN;replace hK5:=qa hK5;have hns':Hid ((ns.length+1)*80<=140737488355328):=by show _<=_;omega
 have hBw:=qa hB
 clear hZ hza DA bA0 sA bWZ bZ DW bW bWd hCW h hg hgc hB;dsimp only[nv];go_enter Tryz.func82,Tryz.ntmps82
 go_upto_region 1 with fail
 rw[<-hW];replace hW:=qa hW;refine qj (fun w'=>w'.cell? ⟨gc,1,none⟩=some (.slice aa ns.length ac)/\w'.cell? ⟨w.heap.size,0,none⟩=some (.bool nd.leaf)/\w'.cell? ⟨w.heap.size,1,none⟩=some kv/\w'.cell? ⟨w.heap.size,2,none⟩=some vv/\w'.cell? ⟨w.heap.size,3,none⟩=some dv) 6 8 qG (by kernel_rfl) (fun _ _ _ _ h=>h) ⟨C1,E0,E1,E2,E3⟩ ?_
 dsimp only[List.take,List.drop]
 iterate 6
  refine qA (v:=?_) (by rfl) ?_ ?_
  rotate_left
  ·rintro w' ⟨s1,s2,s3,s4,s5⟩;go_simp;try with_reducible rfl
  try simp only[Act.put,qB4]
 refine qM fun K hK=>?_;rw[xj (by rfl)]
 go_simp;refine hK _ _ ⟨Qq C1 _,Qq E0 _,Qq E1 _,Qq E2 _,Qq E3 _⟩ ?_;clear hK K;refine qM fun K hK=>?_;refine qj5 rfl _ _ rfl B (.slice aa ns.length ac) ns (nd,kv,vv,dv) (w.heap.size+1) rfl rfl hOZ.out ho1 DZ.out hns'.out hBZ.out ?_;intro g' cap w5 o5 g5 l5;obtain⟨f1,f2,f3,f4,f5⟩:=FIN.out g' cap w5 o5 g5 l5;obtain⟨⟨H0,H1,H2,H3⟩,_⟩:=qb (hK5.out w5 g5);refine hK _ _ ⟨f4,H0,H1,H2,H3⟩ ?_;have Q0:=qt f1.box (i:=0) rfl
 have Q1:=qt f1.box (i:=1) rfl
 have Q2:=f1.nxt
 have FF:=qa (xb f1 f2)
 rw[<-hm] at Q0 Q1 Q2 |-;clear hK K f1 f2 o5 g5 l5 FIN hK5 DZ hOZ hBZ H0 H1 H2 H3 C0 C1 E0 E1 E2 E3;rw[<-hm] at f4;show wpList _ _ _ _ _ _
 obtain⟨Y,hY⟩:∃ Y,Y=w5.setCell ⟨gc,1,none⟩ (.slice (some ⟨g',0,none⟩) (m+1) cap):=⟨_,rfl⟩;rw[<-hm] at FF;rw[<-hY] at Q0 Q1 Q2 FF;replace hm:=qa hm
 go_upto_region 2 with fail
 rw[<-hY];clear hY f3 f4 f5
 go_region
 go_wp2;go_ret;have bY:Below Y.heap.size Y Y.drew:=qg Y 1 _
 exact⟨_,vF (by have:=hm.out;unfold wrap64;omega),FF.out.1.to bY,by rw[<-hm.out];exact FF.out.2.trans (KCh.of bY (xi hBw.out FF.out.2.size))⟩
theorem vD (w:World) (nd:Nd) (kv vv dv:Value) (h:RdT w kv nd.keys) (hv:vv.oneCell'=true/\dv.oneCell'=true):Calls Tryz.prog 80 #[nv nd kv vv dv] w fun e w'=>e=.returned (.bool (!nd.leaf&&decide (nd.keys.length=0)))/\Below w.heap.size w w':=by
 obtain⟨a,c,rfl⟩:=h.slice;obtain⟨W,hW,DW,bW,sW⟩:=qf w #[.bool nd.leaf,.slice a nd.keys.length c,vv,dv] 84;obtain⟨⟨E0,E1,E2,E3⟩,EF⟩:=qb DW;have HB:=qa bW
 rw[hW] at E0 E1 E2 E3 EF HB;obtain⟨K,hK⟩:∃ K,K=nd.keys.length:=⟨_,rfl⟩;rw[<-hK] at E0 E1 E2 E3 EF HB |-;clear hK DW bW hW sW h;dsimp only[nv];go_enter Tryz.func80,Tryz.ntmps80;cases hl:nd.leaf with
 | true =>
  rw[hl] at E0 E1 E2 E3 EF HB;go_wp2;go_ret;exact⟨rfl,HB.out⟩
 | false =>
  rw[hl] at E0 E1 E2 E3 EF HB;by_cases h0:K=0
  ·have hq:((K:Int) == 0)=true:=by simp[h0]
   have hd:Hid (decide (K=0)=true):=xv h0
   replace h0:=qa h0;go_wp2;go_ret;exact⟨by rw[hd.out];rfl,HB.out⟩
  have hq:((K:Int) == 0)=false:=by simp[h0]
  have hd:Hid (decide (K=0)=false):=xw h0
  replace h0:=qa h0;go_wp2;go_ret;exact⟨by rw[hd.out];rfl,HB.out⟩
theorem qj9 (B:Nat) (w:World) (gc g:Nat) (next:Int) (av:Value) (ns:List NV) (nd:Nd) (kv vv dv:Value) (ahead:Str) (h:ChI B w gc g next av ns) (hB:B<=w.heap.size) (hg:∀ b,av.ownBlock=some b->b≠g) (hgc:gc≠g) (hns:ns.length<=1000) (hnx:0<=next/\next<=65536)
 (hr:RdN w kv vv dv nd) (hfit:jH nd) (hk0:nd.keys.length≠0) (hsz:qp nd<=244) (hsz0:0<=qp nd) :
 Calls Tryz.prog 81 #[.pointer (some ⟨gc,0,none⟩),nv nd kv vv dv,st ahead] w fun e w'=>∃ av' gb,e=.returned (.slice (some ⟨gb,0,none⟩) 1 1)/\w'.cell? ⟨gb,0,none⟩=some (st ahead)/\w'.cell? ⟨gb,1,none⟩=some (.int .i64 (next+(ns.length:Int)))/\
  ChI B w' gc g next av' (ns++[(nd,kv,vv,dv)])/\KCh B gc av av' w w':=by
 obtain⟨ka,kc,va,vc,da,dc,rfl,rfl,rfl⟩:=hr.slices;obtain⟨W,hW,DW,bW,sW⟩:=qf w #[.bool nd.leaf,.slice ka nd.keys.length kc,.slice va nd.vals.length vc,.slice da nd.kids.length dc] 84;obtain⟨⟨E0,E1,E2,E3⟩,EF⟩:=qb DW;have KS:=qa (zT W _ _ _ nd (hr.to bW))
 have HW:=qa (h.to bW)
 have HK:=qa (KCh.of (gc:=gc) (av:=av) bW hB)
 have HD:=qa DW
 have hBW:Hid (B<=W.heap.size):=xi hB bW.size
 have hq0:((nd.keys.length:Int) == 0)=false:=by simpa using hk0
 replace hsz:=qa hsz;replace hsz0:=qa hsz0;replace hg:=qa hg;replace hgc:=qa hgc;replace hk0:=qa hk0;rw[hW] at E0 E1 E2 E3 EF KS;dsimp only[nv] at KS |-;clear DW bW h hr hB hfit;go_enter Tryz.func81,Tryz.ntmps81
 go_wp2_with fail
 refine KS.out.mono ?_;rintro e w1 ⟨rfl,b1⟩;rw[<-hW] at b1;clear E0 E1 E2 E3 EF KS;replace hW:=qa hW;have hws:wrap64 (qp nd)=qp nd:=by have:=hsz.out;have:=hsz0.out;unfold wrap64;omega
 rw[hws];have hle:qp nd<=244:=hsz.out
 have H1:=qa (HW.out.to b1)
 have K1:=qa (HK.out.trans (KCh.of (gc:=gc) (av:=av) b1 hBW.out))
 have D1:=(b1.block _ (xa HD.out)).trans HD.out
 obtain⟨⟨E0,E1,E2,E3⟩,EF⟩:=qb D1;have hB1:Hid (B<=w1.heap.size):=xi hBW.out b1.size
 have KA:=qa (yi B w1 gc g next av ns nd (.slice ka nd.keys.length kc) (.slice va nd.vals.length vc) (.slice da nd.kids.length dc) H1.out hB1.out hg.out hgc.out hns hnx ⟨rfl,rfl,rfl⟩)
 dsimp only[nv] at KA;clear b1 HW HK HD hws D1;generalize qp nd=sz at *
 go_wp2_with fail
 refine KA.out.mono ?_;rintro e w2 ⟨av2,rfl,c2,k2⟩;have C2:=qa c2
 have K2:=qa (K1.out.trans k2)
 have hB2:Hid (B<=w2.heap.size):=xi hB1.out k2.size
 obtain⟨kid,hkid⟩:∃ k:Int,k=next+(ns.length:Int):=⟨_,rfl⟩
 rw[<-hkid];obtain⟨Y,hY,DY,bY,sY⟩:=qf w2 #[st ahead,.int .i64 kid] 160
 have FIN:Hid (Y.cell? ⟨w2.heap.size,0,none⟩=some (st ahead)/\Y.cell? ⟨w2.heap.size,1,none⟩=some (.int .i64 kid)/\ChI B Y gc g next av2 (ns++[(nd,.slice ka nd.keys.length kc,.slice va nd.vals.length vc,.slice da nd.kids.length dc)])/\KCh B gc av av2 w Y) :=
  ⟨qt DY rfl,qt DY rfl,C2.out.to bY,K2.out.trans (KCh.of bY hB2.out)⟩
 rw[hY] at FIN;replace hkid:=qa hkid;clear c2 k2 KA E0 E1 E2 E3 EF DY bY hY;go_wp2;go_ret;exact⟨_,_,rfl,FIN.out.1,by rw[<-hkid.out];exact FIN.out.2.1,FIN.out.2.2⟩
theorem qjj (B:Nat) (w:World) (gc g:Nat) (next:Int) (av:Value) (ns:List NV) (nd:Nd) (kv vv dv:Value) (h:ChI B w gc g next av ns) (hB:B<=w.heap.size) (hg:∀ b,av.ownBlock=some b->b≠g) (hgc:gc≠g) (hns:ns.length<=1000) (hnx:0<=next/\next<=65536)
 (hr:RdN w kv vv dv nd) (hfit:jH nd) (hl:nd.leaf=true) (hk0:nd.keys.length≠0) (hsz:qp nd<=244) (hsz0:0<=qp nd) :
 Calls Tryz.prog 59 #[.pointer (some ⟨gc,0,none⟩),nv nd kv vv dv] w fun e w'=>∃ av',e=.returned (.int .i64 (next+(ns.length:Int)))/\ChI B w' gc g next av' (ns++[(nd,kv,vv,dv)])/\KCh B gc av av' w w':=by
 obtain⟨ka,kc,va,vc,da,dc,rfl,rfl,rfl⟩:=hr.slices;obtain⟨W,hW,DW,bW,sW⟩:=qf w #[.bool nd.leaf,.slice ka nd.keys.length kc,.slice va nd.vals.length vc,.slice da nd.kids.length dc] 84;obtain⟨⟨E0,E1,E2,E3⟩,EF⟩:=qb DW;have KB:=qa (vD W nd _ (.slice va nd.vals.length vc) (.slice da nd.kids.length dc) (hr.to bW).keys ⟨rfl,rfl⟩)
 have HW:=qa (h.to bW)
 have HK:=qa (KCh.of (gc:=gc) (av:=av) bW hB)
 have HD:=qa DW
 have HR:=qa (hr.to bW)
 have hBW:Hid (B<=W.heap.size):=xi hB bW.size
 replace hsz:=qa hsz;replace hsz0:=qa hsz0;replace hg:=qa hg;replace hgc:=qa hgc;replace hk0:=qa hk0;replace hfit:=qa hfit;have HL:=qa hl
 dsimp only[nv] at KB |-;rw[hl] at KB E0 hW HD |-;rw[hW] at E0 E1 E2 E3 EF KB;clear DW bW h hr hB;go_enter Tryz.func59,Tryz.ntmps59
 go_wp2_with fail
 refine KB.out.mono ?_;rintro e w1 ⟨rfl,b1⟩;rw[<-hW] at b1;clear E0 E1 E2 E3 EF KB;replace hW:=qa hW;have H1:=qa (HW.out.to b1)
 have K1:=qa (HK.out.trans (KCh.of (gc:=gc) (av:=av) b1 hBW.out))
 have D1:=(b1.block _ (xa HD.out)).trans HD.out
 obtain⟨⟨E0,E1,E2,E3⟩,EF⟩:=qb D1;have hB1:Hid (B<=w1.heap.size):=xi hBW.out b1.size
 have KL:=qa (qj9 B w1 gc g next av ns nd (.slice ka nd.keys.length kc) (.slice va nd.vals.length vc) (.slice da nd.kids.length dc) [] H1.out hB1.out hg.out hgc.out hns hnx (HR.out.to b1) hfit.out hk0.out hsz.out hsz0.out)
 dsimp only[nv] at KL;rw[HL.out] at KL;clear b1 D1
 go_wp2_with fail
 refine KL.out.mono ?_;rintro e w2 ⟨av2,gb,rfl,q0,q1,c2,k2⟩;have C2:=qa (xb c2 (K1.out.trans k2))
 obtain⟨kid,hkid⟩:∃ k:Int,k=next+(ns.length:Int):=⟨_,rfl⟩
 rw[<-hkid] at q1;replace hkid:=qa hkid;clear c2 k2 KL E0 E1 E2 E3 EF;go_wp2;go_ret;exact⟨_,vF hkid.out,C2.out.1,C2.out.2⟩
def TyB (w:World) (v:Value) (T:TypeId):Prop:=∀ b,v.ownBlock=some b->∃ cur fr,w.heap[b]?=some (.cells cur T fr)
theorem TyB.nil (w:World) (T:TypeId) (n c:Nat):TyB w (.slice none n c) T:=fun b hb=>by cases hb
theorem TyB.keep {T:TypeId} (h:TyB w v T) (k:KeepT T w w'):TyB w' v T:=fun b hb=>by
 obtain⟨cur,fr,e⟩:=h b hb;exact⟨cur,fr,k b cur fr e⟩
theorem TyB.part {a:Option Addr} {n c:Nat} {T:TypeId} (h:TyB w (.slice a n c) T) {off off' n' c':Nat} (ha:a=some ⟨b,off,none⟩):TyB w (.slice (some ⟨b,off',none⟩) n' c') T:=fun k hk=>by
 subst ha;exact h k hk
theorem TyB.same {a:Option Addr} {n c:Nat} {T:TypeId} (h:TyB w (.slice a n c) T) (n' c':Nat):TyB w (.slice a n' c') T:=fun k hk=>h k (by cases a with|none=>cases hk|some x=>exact hk)
theorem TyB.own {n:Nat} (h:w.ownsRow B T n v k cc):TyB w v T:=fun b hb=>by
 rcases h.2 with ⟨rfl,_⟩|⟨g,cap,cur,rfl,_,hg,_⟩
 ·cases hb
 have:g=b:=by simpa[Value.ownBlock] using hb
 subst this;exact⟨cur,_,hg⟩
theorem yp {xs:List Str} (h:RdT w v xs) (hk:∀ b,v.ownBlock=some b->w'.heap[b]?=w.heap[b]?):RdT w' v xs:=by
 obtain⟨a,c,rfl,l1,m1,n1,r1⟩:=h;refine⟨a,c,rfl,l1,m1,n1,?_⟩;rcases r1 with r1|⟨b,off,e1,hc⟩
 ·exact .inl r1
 subst e1;refine .inr ⟨b,off,rfl,fun i x hx=>?_⟩;obtain⟨cs,k1,k2⟩:=hc i x hx;refine⟨cs,k1,fun j u hj=>?_⟩;have e:=hk b rfl
 have:=k2 j u hj
 simp only[World.cell?] at this |-;rw[e];exact this
theorem qb7 {xs:List Int} (h:RdI w v xs) (hk:∀ b,v.ownBlock=some b->w'.heap[b]?=w.heap[b]?):RdI w' v xs:=by
 obtain⟨a,c,rfl,l1,m1,n1,r1⟩:=h;refine⟨a,c,rfl,l1,m1,n1,?_⟩;rcases r1 with r1|⟨b,off,e1,hc⟩
 ·exact .inl r1
 subst e1;refine .inr ⟨b,off,rfl,fun i x hx=>?_⟩;obtain⟨cs,k1,k2⟩:=hc i x hx;refine⟨cs,k1,fun j u hj=>?_⟩;have e:=hk b rfl
 have:=k2 j u hj
 simp only[World.cell?] at this |-;rw[e];exact this
structure RdK (w:World) (kv vv dv:Value) (n:Nd):Prop where
 rd:RdN w kv vv dv n
 tk:TyB w kv 9
 tv:TyB w vv 9
 td:TyB w dv 3
theorem RdK.keepT {dv:Value} (h:RdK w kv vv dv n) (k1:KeepT 9 w w') (k2:KeepT 3 w w'):RdK w' kv vv dv n :=
 ⟨⟨yp h.rd.keys fun b hb=>(by obtain⟨cur,fr,e⟩:=h.tk b hb;rw[e];exact k1 b cur fr e),yp h.rd.vals fun b hb=>(by obtain⟨cur,fr,e⟩:=h.tv b hb;rw[e];exact k1 b cur fr e),qb7 h.rd.kids fun b hb=>(by obtain⟨cur,fr,e⟩:=h.td b hb;rw[e];exact k2 b cur fr e)⟩,h.tk.keep k1,h.tv.keep k1,h.td.keep k2⟩
theorem RdK.to {dv:Value} (h:RdK w kv vv dv n) (b:Below w.heap.size w w'):RdK w' kv vv dv n:=h.keepT (KeepT.below b) (KeepT.below b)
theorem OwnN.rdk {dv:Value} (h:OwnN B w kv vv dv n):RdK w kv vv dv n:=⟨h.rd,TyB.own h.keys,TyB.own h.vals,TyB.own h.kids⟩
theorem KCh.keepT {av':Value} {next:Int} {ns:List NV} (h:KCh B gc av av' w w') (c:ChI B w gc g next av ns) (h1:e≠126) (h2:e≠84):KeepT e w w':=fun b cur fr hb=>by
 refine(h.keep b (xa hb) (fun e9=>?_) (fun e9=>?_)).trans hb
 ·subst e9;rw[c.box] at hb;simp only[xr,kF] at hb;exact h1 hb.2.1.symm
 obtain⟨cur',fr',e8⟩:=TyB.own c.row b e9;rw[e8] at hb;simp only[xr,kF] at hb;exact h2 hb.2.1.symm
def AllK (w:World) (ns:List NV):Prop:=∀ y∈ns,RdK w y.2.1 y.2.2.1 y.2.2.2 y.1
theorem AllK.keepT {ns:List NV} (h:AllK w ns) (k1:KeepT 9 w w') (k2:KeepT 3 w w'):AllK w' ns:=fun y hy=>(h y hy).keepT k1 k2
theorem AllK.to {ns:List NV} (h:AllK w ns) (b:Below w.heap.size w w'):AllK w' ns:=h.keepT (KeepT.below b) (KeepT.below b)
theorem AllK.snoc {ns:List NV} {y:NV} (h:AllK w ns) (k:RdK w y.2.1 y.2.2.1 y.2.2.2 y.1):AllK w (ns++[y]):=fun z hz=>by
 simp only[xu,ku] at hz;rcases hz with hz|rfl
 ·exact h z hz
 exact k
def NdIs (l:List Wrt) (id:Int) (nd:Nd):Prop:=∃ x,qH l id=some x/\QJ x=(nd,0)
def zw (l:List Wrt) (id:Int):Nd:=match qH l id with|none=>Qw|some x=>(QJ x).1
theorem NdIs.at (h:NdIs l id nd):zw l id=nd:=by
 obtain⟨x,h1,h2⟩:=h;unfold zw;rw[h1];show (QJ x).1=nd;rw[h2]
theorem NdIs.ok (h:NdIs l id nd):NOk nd:=by
 obtain⟨x,h1,h2⟩:=h;exact jL h2
def qV (l:List Wrt):Nat->Int->List Int
 | 0,id=>[id]
 | d+1,id=>id::(zw l id).kids.flatMap (qV l d)
def pOf (l:List Wrt):Nat->Int->List Pr
 | 0,id=>npr (zw l id)
 | d+1,id=>(zw l id).kids.flatMap (pOf l d)
def TOk (l:List Wrt):Nat->Int->Str->Option Str->Prop
 | 0,id,lo,hi=>∃ nd,NdIs l id nd/\nd.leaf=true/\nd.keys≠[]/\nd.keys.all (kin lo hi)=true
 | d+1,id,lo,hi=>∃ nd,NdIs l id nd/\nd.leaf=false/\nd.keys.all (kin lo hi)=true/\∀ (i:Nat) kid,nd.kids[i]?=some kid->TOk l d kid (Qi nd lo i) (qZ nd hi i)
theorem qi0 {l:List Wrt} {f:Nat} (ih:∀ (id:Int) (lo:Str) (hi:Option Str) (s s':Sw),wk l f id lo hi s=some s'->∃ e d,f=e+1+d/\s'.dep=some e/\(s.dep=none\/s.dep=some e)/\TOk l d id lo hi/\s'.seen=(qV l d id).reverse++s.seen/\(qV l d id).Nodup/\(∀ i∈qV l d id,i ∉ s.seen)/\s'.prs=s.prs++pOf l d id) (n:Nd) (lo:Str) (hi:Option Str) :
 ∀ (ks:List Int) (i:Nat) (s s':Sw),wkK (wk l f) n lo hi i ks s=some s'->(ks=[]/\s'=s)\/∃ e d,f=e+1+d/\s'.dep=some e/\(s.dep=none\/s.dep=some e)/\(∀ (j:Nat) kid,ks[j]?=some kid->TOk l d kid (Qi n lo (i+j)) (qZ n hi (i+j)))/\
  s'.seen=(ks.flatMap (qV l d)).reverse++s.seen/\(ks.flatMap (qV l d)).Nodup/\(∀ i∈ks.flatMap (qV l d),i ∉ s.seen)/\s'.prs=s.prs++ks.flatMap (pOf l d)
 | [],i,s,s',h=>by
  simp only[wkK,xr] at h;exact .inl ⟨rfl,h.symm⟩
 | k::r,i,s,s',h=>by
  simp only[wkK] at h;cases h1:wk l f k (Qi n lo i) (qZ n hi i) s with
  | none=>rw[h1] at h;cases h
  | some s1 =>
   rw[h1] at h;obtain⟨e,d,a0,a1,a2,a3,a4,a5,a6,a7⟩:=ih _ _ _ _ _ h1;refine .inr ?_;rcases qi0 ih n lo hi r (i+1) s1 s' h with ⟨rfl,rfl⟩|⟨e',d',b0,b1,b2,b3,b4,b5,b6,b7⟩
   ·refine⟨e,d,a0,a1,a2,fun j kid hk=>?_,by simpa using a4,by simpa using a5,by simpa using a6,by simpa using a7⟩
    cases j with
    | zero=>have:k=kid:=by simpa using hk
            subst this;exact a3
    | succ j=>simp at hk
   have ee:e'=e:=by
    rcases b2 with b2|b2
    ·rw[a1] at b2;cases b2
    rw[a1] at b2;simp at b2;exact b2.symm
   subst ee;obtain rfl:d'=d:=by omega
   refine⟨e',d',a0,b1,a2,fun j kid hk=>?_,?_,?_,?_,?_⟩
   ·cases j with
    | zero=>have:k=kid:=by simpa using hk
            subst this;exact a3
    | succ j =>
     have:=b3 j kid (by simpa using hk)
     rw[show i+(j+1)=i+1+j from by omega]
     exact this
   ·rw[b4,a4];simp
   ·rw[xO,xN];refine⟨a5,b5,fun x hx y hy e=>?_⟩;subst e;apply b6 x hy;rw[a4];simp[hx]
   ·intro x hx;rw[xO,xu] at hx;rcases hx with hx|hx
    ·exact a6 x hx
    have:=b6 x hx
    rw[a4] at this;exact fun h9=>this (by simp[h9])
   rw[b7,a7];simp
theorem qgu {l:List Wrt}:∀ (f:Nat) (id:Int) (lo:Str) (hi:Option Str) (s s':Sw),wk l f id lo hi s=some s'->∃ e d,f=e+1+d/\s'.dep=some e/\(s.dep=none\/s.dep=some e)/\TOk l d id lo hi/\s'.seen=(qV l d id).reverse++s.seen/\(qV l d id).Nodup/\(∀ i∈qV l d id,i ∉ s.seen)/\s'.prs=s.prs++pOf l d id
 | 0,id,lo,hi,s,s',h=>by cases h
 | f+1,id,lo,hi,s,s',h=>by
  cases hx:qH l id with
  | none=>rw[Jr hx] at h;cases h
  | some x =>
   by_cases hs:id∈s.seen
   ·rw[Yk hs] at h;cases h
   by_cases he:(QJ x).2=0
   ·obtain⟨nd,hnd⟩:∃ nd,nd=(QJ x).1:=⟨_,rfl⟩;have hd:QJ x=(nd,0):=by rw[hnd,<-he]
    have hN:NdIs l id nd:=⟨x,hx,hd⟩
    cases ha:nd.keys.all (kin lo hi) with
    | false =>
     unfold wk at h;rw[hx] at h;simp[hs,hd,ha] at h
    | true =>
     cases hl:nd.leaf with
     | true =>
      rw[yq hx hs hd ha hl] at h
      split at h
      ·cases h
      rename_i hc
      simp only[xr] at h;subst h;refine⟨f,0,by omega,rfl,?_,⟨nd,hN,hl,fun h0=>hc (.inl h0),ha⟩,by simp[qV],by simp[qV],by simpa[qV] using hs,by show _=_;rw[pOf,hN.at]⟩
      cases hdp:s.dep with
      | none=>exact .inl rfl
      | some e =>
       refine .inr ?_;by_cases e9:e=f
       ·rw[e9]
       exact absurd (.inr ⟨by rw[hdp];simp,by rw[hdp];simpa using e9⟩) hc
     | false =>
      rw[J8 hx hs hd ha hl] at h;have hk:=Q9 (jL hd) hl
      rcases qi0 (qgu f) nd lo hi nd.kids 0 _ s' h with ⟨h0,_⟩|⟨e,d,b0,b1,b2,b3,b4,b5,b6,b7⟩
      ·rw[h0] at hk;simp at hk
      refine⟨e,d+1,by omega,b1,b2,⟨nd,hN,hl,ha,fun i kid hk=>?_⟩,?_,?_,?_,?_⟩
      ·have:=b3 i kid hk
       rw[XD] at this;exact this
      ·rw[b4,qV,hN.at];simp
      ·rw[qV,hN.at,kh];exact⟨fun h9=>b6 id h9 (by simp),b5⟩
      ·intro i hi9;rw[qV,hN.at] at hi9;rcases xU.1 hi9 with h9|h9
       ·rw[h9];exact hs
       exact fun h8=>b6 i h9 (by simp[h8])
      rw[b7,pOf,hN.at]
   rw[qcy hx he] at h;cases h
theorem qmf {l:List Wrt} {d e:Nat} (ih:∀ (id:Int) (lo:Str) (hi:Option Str) (s:Sw),TOk l d id lo hi->(qV l d id).Nodup->(∀ i∈qV l d id,i ∉ s.seen)->(s.dep=none\/s.dep=some e)->wk l (e+1+d) id lo hi s=some ⟨(qV l d id).reverse++s.seen,some e,s.prs++pOf l d id⟩) (n:Nd) (lo:Str) (hi:Option Str) :
 ∀ (ks:List Int) (i:Nat) (s:Sw),ks≠[]->(∀ (j:Nat) kid,ks[j]?=some kid->TOk l d kid (Qi n lo (i+j)) (qZ n hi (i+j)))->(ks.flatMap (qV l d)).Nodup->(∀ i∈ks.flatMap (qV l d),i ∉ s.seen)->(s.dep=none\/s.dep=some e)->
  wkK (wk l (e+1+d)) n lo hi i ks s=some ⟨(ks.flatMap (qV l d)).reverse++s.seen,some e,s.prs++ks.flatMap (pOf l d)⟩
 | [],i,s,h,_,_,_,_=>absurd rfl h
 | k::r,i,s,_,h1,h2,h3,h4=>by
  rw[xO] at h2 h3;rw[xN] at h2;simp only[wkK];rw[ih k (Qi n lo i) (qZ n hi i) s (h1 0 k rfl) h2.1 (fun x hx=>h3 x (by simp[hx])) h4]
  simp only[Option.bind_some];by_cases hr:r=[]
  ·subst hr;simp[wkK]
  rw[qmf ih n lo hi r (i+1) _ hr (fun j kid hk=>by have:=h1 (j+1) kid (by simpa using hk);rw[show i+1+j=i+(j+1) from by omega];exact this) h2.2.1 (fun x hx h9=>?_) (.inr rfl)]
  ·simp
  rcases xu.1 h9 with h9|h9
  ·exact h2.2.2 x (by simpa using h9) x hx rfl
  exact h3 x (by simp[hx]) h9
theorem qq4 {l:List Wrt} {e:Nat}:∀ (d:Nat) (id:Int) (lo:Str) (hi:Option Str) (s:Sw),TOk l d id lo hi->(qV l d id).Nodup->(∀ i∈qV l d id,i ∉ s.seen)->(s.dep=none\/s.dep=some e)->wk l (e+1+d) id lo hi s=some ⟨(qV l d id).reverse++s.seen,some e,s.prs++pOf l d id⟩
 | 0,id,lo,hi,s,⟨nd,hN,hl,h0,ha⟩,h2,h3,h4=>by
  obtain⟨x,hx,hd⟩:=hN;rw[show e+1+0=e+1 from rfl,yq hx (h3 id (by simp[qV])) hd ha hl,xh]
  ·rw[pOf,NdIs.at ⟨x,hx,hd⟩];rfl
  rintro (h|⟨h,h9⟩)
  ·exact h0 h
  rcases h4 with h4|h4
  ·exact h h4
  exact h9 h4
 | d+1,id,lo,hi,s,⟨nd,hN,hl,ha,hk⟩,h2,h3,h4=>by
  have hN':=hN
  obtain⟨x,hx,hd⟩:=hN';rw[qV,hN.at] at h2 h3;rw[kh] at h2;rw[show e+1+(d+1)=(e+1+d)+1 from rfl,J8 hx (h3 id (by simp)) hd ha hl,qmf (qq4 d) nd lo hi nd.kids 0 ⟨id::s.seen,s.dep,s.prs⟩ ?_ (fun j kid hj=>by rw[XD];exact hk j kid hj) h2.2 ?_ h4]
  ·rw[qV,pOf,hN.at];simp
  ·intro h9;have:=Q9 hN.ok hl
   rw[h9] at this;simp at this
  intro i hi9 h8;rcases xU.1 h8 with h8|h8
  ·rw[h8] at hi9;exact h2.1 hi9
  exact h3 i (by simp[hi9]) h8
def Ext (l l':List Wrt):Prop:=∀ id x,qH l id=some x->qH l' id=some x
theorem Ext.refl (l:List Wrt):Ext l l:=fun _ _ h=>h
theorem Ext.trans {a b c:List Wrt} (h:Ext a b) (k:Ext b c):Ext a c:=fun i x hx=>k i x (h i x hx)
theorem NdIs.ext (h:Ext l l') (k:NdIs l id nd):NdIs l' id nd:=by
 obtain⟨x,h1,h2⟩:=k;exact⟨x,h id x h1,h2⟩
theorem Zw {α β : Type} {f g : α -> List β}:∀ (l:List α),(∀ x∈l,f x=g x)->l.flatMap f=l.flatMap g
 | [],_=>rfl
 | a::r,h=>by rw[xO,xO,h a (by simp),Zw r fun x hx=>h x (by simp[hx])]
theorem qcr {α : Type} {l:List α} {x : α} (h:x∈l):∃ i:Nat,l[i]?=some x:=by
 obtain⟨i,hi,e⟩:=Xw h;exact⟨i,by rw[xg hi,e]⟩
theorem TOk.ext {l l':List Wrt} (h:Ext l l'):∀ {d:Nat} {id:Int} {lo:Str} {hi:Option Str},TOk l d id lo hi->TOk l' d id lo hi/\qV l' d id=qV l d id/\pOf l' d id=pOf l d id
 | 0,id,lo,hi,⟨nd,hN,h1,h2,h3⟩=>⟨⟨nd,hN.ext h,h1,h2,h3⟩,rfl,by rw[pOf,pOf,hN.at,(hN.ext h).at]⟩
 | d+1,id,lo,hi,⟨nd,hN,h1,h2,h3⟩=>by
  refine⟨⟨nd,hN.ext h,h1,h2,fun i kid hk=>(TOk.ext h (h3 i kid hk)).1⟩,?_,?_⟩
  ·rw[qV,qV,hN.at,(hN.ext h).at]
   congr 1
   exact Zw _ fun x hx=>by obtain⟨i,hi⟩:=qcr hx;exact(TOk.ext h (h3 i x hi)).2.1
  rw[pOf,pOf,hN.at,(hN.ext h).at];exact Zw _ fun x hx=>by obtain⟨i,hi⟩:=qcr hx;exact(TOk.ext h (h3 i x hi)).2.2
def Wide (lo:Str) (hi:Option Str) (lo':Str) (hi':Option Str):Prop:=slt lo lo'=false/\(match hi',hi with|none,_=>True|some _,none=>False|some b,some a=>slt b a=false)
theorem Wide.kin {lo:Str} {hi hi':Option Str} (h:Wide lo hi lo' hi') {k:Str} (hk:kin lo hi k=true):kin lo' hi' k=true:=by
 simp only[Go.Proofs.YtfjadfnjmpefkaaGreat.kin,xL,Xl] at hk |-;refine⟨?_,?_⟩
 ·cases hc:slt k lo' with
  | false=>rfl
  | true =>
   have:=zx hc h.1
   rw[this] at hk;cases hk.1
 have h2:=h.2
 cases hi' with
 | none=>rfl
 | some b =>
  cases hi with
  | none=>exact h2.elim
  | some a=>exact zx hk.2 h2
theorem Wide.refl (lo:Str) (hi:Option Str):Wide lo hi lo hi:=⟨qU _,by cases hi<;>simp[qU]⟩
theorem TOk.wide {l:List Wrt}:∀ {d:Nat} {id:Int} {lo lo':Str} {hi hi':Option Str},TOk l d id lo hi->Wide lo hi lo' hi'->TOk l d id lo' hi'
 | 0,id,lo,lo',hi,hi',⟨nd,hN,h1,h2,h3⟩,hw=>⟨nd,hN,h1,h2,XR.2 fun k hk=>hw.kin (XR.1 h3 k hk)⟩
 | d+1,id,lo,lo',hi,hi',⟨nd,hN,h1,h2,h3⟩,hw=>by
  refine⟨nd,hN,h1,XR.2 fun k hk=>hw.kin (XR.1 h2 k hk),fun i kid hk=>TOk.wide (h3 i kid hk) ?_⟩;refine⟨?_,?_⟩
  ·unfold Qi
   split
   ·exact hw.1
   exact qU _
  by_cases h9:i<nd.keys.length
  ·rw[qZ,qZ,xj h9,xj h9];exact qU _
  rw[qZ,qZ,xh h9,xh h9];exact hw.2
theorem qn5 (hok:NOk nd) (hl:nd.leaf=true):(npr nd).length=nd.keys.length:=by
 have h1:=hok.2.1
 unfold qP at h1;rw[xj hl] at h1;rw[npr,Kc,h1.1,Nat.min_self]
theorem TOk.many {l:List Wrt}:∀ {d:Nat} {id:Int} {lo:Str} {hi:Option Str},TOk l d id lo hi->2^d<=(pOf l d id).length
 | 0,id,lo,hi,⟨nd,hN,h1,h2,h3⟩=>by
  rw[pOf,hN.at,qn5 hN.ok h1];have:nd.keys.length≠0:=fun h=>h2 (xq h)
  simp;omega
 | d+1,id,lo,hi,⟨nd,hN,h1,h2,h3⟩=>by
  rw[pOf,hN.at];have hk:=Q9 hN.ok h1
  have hc:=hN.ok.2.1
  unfold qP at hc;rw[h1,xh (by decide)] at hc
  cases hkk:nd.kids with
  | nil=>rw[hkk] at hk;simp at hk
  | cons a r1 =>
   cases r1 with
   | nil=>rw[hkk] at hk;simp only[xC,xX] at hk;omega
   | cons b r =>
    have ha:=TOk.many (h3 0 a (by rw[hkk];rfl))
    have hb:=TOk.many (h3 1 b (by rw[hkk];rfl))
    simp only[xO,xk,Nat.pow_succ];omega
theorem TOk.kin {l:List Wrt}:∀ {d:Nat} {id:Int} {lo:Str} {hi:Option Str},TOk l d id lo hi->∀ y∈pOf l d id,kin lo hi y.1=true
 | 0,id,lo,hi,⟨nd,hN,h1,h2,h3⟩,y,hy=>by
  rw[pOf,hN.at] at hy;exact XR.1 h3 _ (List.of_mem_zip hy).1
 | d+1,id,lo,hi,⟨nd,hN,h1,h2,h3⟩,y,hy=>by
  rw[pOf,hN.at] at hy;obtain⟨kid,hk,hy⟩:=kM.1 hy;obtain⟨i,hi9⟩:=qcr hk;have:=TOk.kin (h3 i kid hi9) y hy
  have hlt:=(xn.1 hi9).1
  exact qiu h2 (by rw[Q9 hN.ok h1] at hlt;omega) this
theorem TOk.room {lo:Str} {b:Str} (h:TOk l d id lo (some b)):slt lo b=true:=by
 have hm:=h.many
 have:0<(pOf l d id).length:=xV (Nat.two_pow_pos d) hm
 obtain⟨y,hy⟩:=List.exists_mem_of_length_pos this;have:=h.kin y hy
 simp only[Go.Proofs.YtfjadfnjmpefkaaGreat.kin,xL,Xl] at this;exact qbm this.1 this.2
abbrev Br:=Str×Int
def lf (ps:List Pr):Nd:=⟨true,ps.map (·.1),ps.map (·.2),[]⟩
def inr (bs:List Br):Nd:=⟨false,bs.tail.map (·.1),[],bs.map (·.2)⟩
def brs (n:Nd):List Br:=([],n.kids.headD 0)::n.keys.zip n.kids.tail
theorem yX (ps:List Pr):npr (lf ps)=ps:=by
 unfold npr lf;show (ps.map (·.1)).zip (ps.map (·.2))=ps
 induction ps with
 | nil=>rfl
 | cons a r ih=>simp[ih]
theorem Jg {α β : Type}:∀ (a:List α) (b:List β),a.length=b.length->(a.zip b).map (·.1)=a/\(a.zip b).map (·.2)=b
 | [],[],_=>⟨rfl,rfl⟩
 | [],_::_,h=>by simp at h
 | _::_,[],h=>by simp at h
 | x::a,y::b,h=>by
  obtain⟨h1,h2⟩:=Jg a b (by simpa using h)
  simp[h1,h2]
theorem qrq (hok:NOk n) (hl:n.leaf=true):lf (npr n)=n:=by
 have h1:=hok.2.1
 unfold qP at h1;rw[xj hl] at h1;obtain⟨leaf,keys,vals,kids⟩:=n;obtain⟨a,b⟩:=Jg keys vals (by simpa using h1.1.symm)
 have hk:kids=[]:=xq h1.2
 dsimp only at hl;subst hl hk;unfold lf npr;simp only[Nd.mk.injEq,true_and,XS];exact⟨a,b⟩
theorem qqh (hl:n.leaf=false) (hv:n.vals=[]) (hk:n.kids.length=n.keys.length+1):inr (brs n)=n:=by
 obtain⟨leaf,keys,vals,kids⟩:=n;dsimp only at hl hv hk;subst hl hv;cases kids with
 | nil=>simp at hk
 | cons d r =>
  obtain⟨a,b⟩:=Jg keys r (by simpa using hk.symm)
  unfold inr brs;simp only[Xa,Xn,List.headD_cons,Nd.mk.injEq,true_and,a,b]
theorem Ju (hk:n.kids.length=n.keys.length+1):(brs n).length=n.kids.length:=by
 unfold brs;simp only[xC,Kc,List.length_tail,hk];omega
theorem NOk.vals0 (hok:NOk n) (hl:n.leaf=false):n.vals=[]:=by
 have h1:=hok.2.1
 unfold qP at h1;rw[hl,xh (by decide)] at h1
 exact xq h1.1
theorem qd5 (hok:NOk n) (hl:n.leaf=false):inr (brs n)=n:=qqh hl (hok.vals0 hl) (Q9 hok hl)
def Seg (l:List Wrt) (d:Nat):Str->Option Str->List Br->Prop
 | _,_,[]=>False
 | lo,hi,[b]=>TOk l d b.2 lo hi
 | lo,hi,b::c::r=>TOk l d b.2 lo (some c.1)/\Seg l d c.1 hi (c::r)
theorem Seg.ne {lo:Str} {hi:Option Str} {bs:List Br} (h:Seg l d lo hi bs):bs≠[]:=by
 intro e;subst e;exact h
theorem Seg.ext {l l':List Wrt} (h:Ext l l') {d:Nat}:∀ {bs:List Br} {lo:Str} {hi:Option Str},Seg l d lo hi bs->Seg l' d lo hi bs
 | [],_,_,k=>k
 | [b],_,_,k=>(TOk.ext h k).1
 | b::c::r,_,_,k=>⟨(TOk.ext h k.1).1,Seg.ext h k.2⟩
theorem Seg.each {l:List Wrt} {d:Nat}:∀ {bs:List Br} {lo:Str} {hi:Option Str},Seg l d lo hi bs->∀ b∈bs,∃ lo' hi',TOk l d b.2 lo' hi'
 | [],_,_,k,b,hb=>by cases hb
 | [c],_,_,k,b,hb=>by
  have:b=c:=by simpa using hb
  subst this;exact⟨_,_,k⟩
 | c::e::r,_,_,k,b,hb=>by
  rcases xU.1 hb with rfl|hb
  ·exact⟨_,_,k.1⟩
  exact Seg.each k.2 b hb
theorem Jq {l:List Wrt} {d:Nat}:∀ {a:List Br} {lo:Str} {hi:Option Str} {c:Br} {r:List Br},a≠[]->(Seg l d lo hi (a++c::r)↔Seg l d lo (some c.1) a/\Seg l d c.1 hi (c::r))
 | [],_,_,_,_,h=>absurd rfl h
 | [b],lo,hi,c,r,_=>Iff.rfl
 | b::e::a,lo,hi,c,r,_=>by
  have ih:=Jq (l:=l) (d:=d) (a:=e::a) (lo:=e.1) (hi:=hi) (c:=c) (r:=r) (by simp)
  show (TOk l d b.2 lo (some e.1)/\Seg l d e.1 hi (e::a++c::r))↔(TOk l d b.2 lo (some e.1)/\Seg l d e.1 (some c.1) (e::a))/\_
  rw[ih,and_assoc]
theorem qb2 {lo:Str} {hi:Option Str} {b c:Br} {r:List Br} (h:b.2=c.2):Seg l d lo hi (b::r)↔Seg l d lo hi (c::r):=by
 cases r with
 | nil=>show TOk l d b.2 lo hi↔TOk l d c.2 lo hi;rw[h]
 | cons e r=>show (TOk l d b.2 lo _/\_)↔(TOk l d c.2 lo _/\_);rw[h]
theorem YW {b:Str} (h1:slt b a=false) (h2:slt c b=false):slt c a=false:=by
 cases h:slt c a with
 | false=>rfl
 | true =>
  have:=zx h h1
  rw[this] at h2;cases h2
theorem Seg.room {l:List Wrt} {d:Nat}:∀ {bs:List Br} {lo:Str} {b:Str},Seg l d lo (some b) bs->slt lo b=true
 | [],_,_,k=>k.elim
 | [c],lo,b,k=>TOk.room k
 | c::e::r,lo,b,k=>QO (TOk.room k.1) (Seg.room k.2)
theorem Seg.hi {l:List Wrt} {d:Nat}:∀ {bs:List Br} {lo:Str} {hi hi':Option Str},Seg l d lo hi bs->(∀ lo,Wide lo hi lo hi')->Seg l d lo hi' bs
 | [],_,_,_,k,_=>k
 | [c],_,_,_,k,hw=>TOk.wide k (hw _)
 | c::e::r,_,_,_,k,hw=>⟨k.1,Seg.hi k.2 hw⟩
theorem Seg.lo {bs:List Br} {lo:Str} {hi:Option Str} (k:Seg l d lo hi bs) (hw:slt lo lo'=false):Seg l d lo' hi bs:=by
 match bs,k with
 | [c],k=>exact TOk.wide k ⟨hw,(Wide.refl lo hi).2⟩
 | c::e::r,k=>exact⟨TOk.wide k.1 ⟨hw,qU _⟩,k.2⟩
theorem Seg.keys {l:List Wrt} {d:Nat}:∀ {bs:List Br} {lo:Str} {hi:Option Str},Seg l d lo hi bs->jf (bs.tail.map (·.1))/\∀ k∈bs.tail.map (·.1),slt lo k=true/\kin lo hi k=true
 | [],_,_,k=>k.elim
 | [c],lo,hi,k=>⟨List.Pairwise.nil,fun k hk=>by simp at hk⟩
 | c::e::r,lo,hi,k=>by
  obtain⟨h1,h2⟩:=Seg.keys k.2;have hr:=TOk.room k.1
  have he:kin lo hi e.1=true:=by
   simp only[Go.Proofs.YtfjadfnjmpefkaaGreat.kin,xL,Xl];refine⟨Qb hr,?_⟩;cases hi with
   | none=>rfl
   | some b=>exact Seg.room k.2
  refine⟨?_,fun y hy=>?_⟩
  ·show jf (e.1::(e::r).tail.map (·.1))
   exact kJ.2 ⟨fun y hy=>(h2 y hy).1,h1⟩
  have hy':y=e.1\/y∈(e::r).tail.map (·.1):=by simpa using hy
  rcases hy' with rfl|hy'
  ·exact⟨hr,he⟩
  obtain⟨a,b⟩:=h2 y hy';refine⟨QO hr a,?_⟩;simp only[Go.Proofs.YtfjadfnjmpefkaaGreat.kin,xL,Xl] at b |-;exact⟨Qb (QO hr a),b.2⟩
def Qp (l:List Wrt) (d:Nat) (bs:List Br):List Pr:=bs.flatMap fun b=>pOf l d b.2
def QI (l:List Wrt) (d:Nat) (bs:List Br):List Int:=bs.flatMap fun b=>qV l d b.2
theorem Zx (l:List Wrt) (d:Nat) (a b:List Br):Qp l d (a++b)=Qp l d a++Qp l d b:=by unfold Qp;rw[kH]
theorem QC (l:List Wrt) (d:Nat) (a b:List Br):QI l d (a++b)=QI l d a++QI l d b:=by unfold QI;rw[kH]
theorem zu (l:List Wrt) (d:Nat) (bs:List Br):(inr bs).kids.flatMap (pOf l d)=Qp l d bs:=by
 unfold inr Qp;show (bs.map (·.2)).flatMap (pOf l d)=_
 rw[List.flatMap_map]
theorem zv (l:List Wrt) (d:Nat) (bs:List Br):(inr bs).kids.flatMap (qV l d)=QI l d bs:=by
 unfold inr QI;show (bs.map (·.2)).flatMap (qV l d)=_
 rw[List.flatMap_map]
theorem yv (h:Ext l l') {bs:List Br} (k:∀ b∈bs,∃ lo' hi',TOk l d b.2 lo' hi'):Qp l' d bs=Qp l d bs/\QI l' d bs=QI l d bs :=
 ⟨Zw _ fun b hb=>by obtain⟨_,_,q⟩:=k b hb;exact(TOk.ext h q).2.2,Zw _ fun b hb=>by obtain⟨_,_,q⟩:=k b hb;exact(TOk.ext h q).2.1⟩
theorem Seg.kin {l:List Wrt} {d:Nat}:∀ {bs:List Br} {lo:Str} {hi:Option Str},Seg l d lo hi bs->∀ y∈Qp l d bs,kin lo hi y.1=true
 | [],_,_,k,_,_=>k.elim
 | [c],lo,hi,k,y,hy=>TOk.kin k y (by simpa[Qp] using hy)
 | c::e::r,lo,hi,k,y,hy=>by
  have hy':y∈pOf l d c.2\/y∈Qp l d (e::r):=by simpa[Qp] using hy
  have hr:=TOk.room k.1
  rcases hy' with hy|hy
  ·have:=TOk.kin k.1 y hy
   simp only[Go.Proofs.YtfjadfnjmpefkaaGreat.kin,xL,Xl] at this |-;refine⟨this.1,?_⟩;cases hi with
   | none=>rfl
   | some b=>exact QO this.2 (Seg.room k.2)
  have:=Seg.kin k.2 y hy
  simp only[Go.Proofs.YtfjadfnjmpefkaaGreat.kin,xL,Xl] at this |-;refine⟨?_,this.2⟩;exact YW (Qb hr) this.1
theorem VJ {b:Str} {vals:List Str} {lf:Bool} (lo:Str) (i:Nat):Qi ⟨lf,a::ks,vals,d0::ds⟩ lo (i+1)=Qi ⟨lf,ks,vals,ds⟩ a i:=by
 unfold Qi;rw[xh (by omega)]
 cases i with
 | zero=>simp
 | succ i=>simp
theorem qax {vals:List Str} {lf:Bool} (hi:Option Str) (i:Nat):qZ ⟨lf,a::ks,vals,d0::ds⟩ hi (i+1)=qZ ⟨lf,ks,vals,ds⟩ hi i:=by
 unfold qZ;simp
theorem qac {l:List Wrt} {d:Nat}:∀ {bs:List Br} {lo:Str} {hi:Option Str},bs≠[]->(Seg l d lo hi bs↔∀ (i:Nat) kid,(inr bs).kids[i]?=some kid->TOk l d kid (Qi (inr bs) lo i) (qZ (inr bs) hi i))
 | [],_,_,h=>absurd rfl h
 | [b],lo,hi,_=>by
  constructor
  ·intro h i kid hk;cases i with
   | zero =>
    have:b.2=kid:=by simpa[inr] using hk
    subst this;exact h
   | succ i=>simp[inr] at hk
  intro h;exact h 0 b.2 rfl
 | b::c::r,lo,hi,_=>by
  have ih:=qac (l:=l) (d:=d) (bs:=c::r) (lo:=c.1) (hi:=hi) (by simp)
  have e:inr (b::c::r)=⟨false,c.1::(inr (c::r)).keys,[],b.2::(inr (c::r)).kids⟩:=rfl
  have e2:inr (c::r)=⟨false,(inr (c::r)).keys,[],(inr (c::r)).kids⟩:=rfl
  show (TOk l d b.2 lo (some c.1)/\Seg l d c.1 hi (c::r))↔_
  rw[ih];constructor
  ·rintro ⟨h1,h2⟩ i kid hk;cases i with
   | zero =>
    have:b.2=kid:=by simpa[inr] using hk
    subst this;exact h1
   | succ i =>
    rw[e,VJ (b:=c.1),qax,<-e2];exact h2 i kid (by rw[e] at hk;simpa using hk)
  intro h;refine⟨h 0 b.2 rfl,fun i kid hk=>?_⟩;have:=h (i+1) kid (by rw[e];simpa using hk)
  rw[e,VJ (b:=c.1),qax,<-e2] at this;exact this
theorem qds {lo:Str} {hi:Option Str} (h:TOk l (d+1) id lo hi):∃ nd,NdIs l id nd/\nd.leaf=false/\Seg l d lo hi (brs nd)/\qV l (d+1) id=id::QI l d (brs nd)/\pOf l (d+1) id=Qp l d (brs nd):=by
 obtain⟨nd,hN,h1,h2,h3⟩:=h;have e:=qd5 hN.ok h1
 refine⟨nd,hN,h1,?_,?_,?_⟩
 ·rw[qac (by unfold brs;simp),e];exact h3
 ·rw[qV,hN.at,<-zv,e]
 rw[pOf,hN.at,<-zu,e]
theorem Vl {lo:Str} {hi:Option Str} {bs:List Br} (hN:NdIs l id (inr bs)) (h:Seg l d lo hi bs):TOk l (d+1) id lo hi/\qV l (d+1) id=id::QI l d bs/\pOf l (d+1) id=Qp l d bs:=by
 refine⟨⟨_,hN,rfl,XR.2 fun k hk=>(h.keys.2 k hk).2,(qac h.ne).1 h⟩,?_,?_⟩
 ·rw[qV,hN.at,zv]
 rw[pOf,hN.at,zu]
theorem qhw {lo:Str} {hi:Option Str} (hN:NdIs l id (lf ps)) (h0:ps≠[]) (h:∀ y∈ps,kin lo hi y.1=true):TOk l 0 id lo hi/\qV l 0 id=[id]/\pOf l 0 id=ps:=by
 refine⟨⟨_,hN,rfl,by simpa[lf] using h0,XR.2 fun k hk=>?_⟩,rfl,by rw[pOf,hN.at,yX]⟩
 obtain⟨y,hy,rfl⟩:=Xx.1 hk;exact h y hy
def pw (y:Pr):Nat:=2+y.1.length+y.2.length
def bw (b:Br):Nat:=5+b.1.length
theorem zo {ws:List Nat} {x:Nat} (h:ws[k]?=some x):(ws.take (k+1)).sum=(ws.take k).sum+x:=by
 rw[Xf,h];simp
theorem qo0 (ps:List Pr):∀ k,k<=ps.length->nsz (lf ps) k=2+(((ps.map pw).take k).sum:Int)
 | 0,_=>by simp[nsz]
 | k+1,h=>by
  have ih:=qo0 ps k (by omega)
  have hk:ps[k]?=some ps[k]:=xg (by omega)
  have hw:(ps.map pw)[k]?=some (pw ps[k]):=by simp[hk]
  rw[zo hw];simp only[nsz,ih];have e1:(lf ps).keys[k]?=some ps[k].1:=by simp[lf,hk]
  have e2:(lf ps).vals[k]?=some ps[k].2:=by simp[lf,hk]
  have e3:(lf ps).leaf=true:=rfl
  rw[e1,e2,e3];simp only[xM,kS,pw]
  push_cast
  omega
theorem zy (ps:List Pr):qp (lf ps)=2+((ps.map pw).sum:Int):=by
 unfold qp;have e:(lf ps).keys.length=ps.length:=by simp[lf]
 rw[e,qo0 ps ps.length (xc _),show (lf ps).leaf=true from rfl];have:(ps.map pw).take ps.length=ps.map pw:=xx (by simp)
 rw[this];simp
theorem qia (b:Br) (r:List Br):∀ k,k<=r.length->nsz (inr (b::r)) k+4*(k:Int)=2+(((r.map bw).take k).sum:Int)
 | 0,_=>by simp[nsz]
 | k+1,h=>by
  have ih:=qia b r k (by omega)
  have hk:r[k]?=some r[k]:=xg (by omega)
  have hw:(r.map bw)[k]?=some (bw r[k]):=by simp[hk]
  rw[zo hw];simp only[nsz];have e1:(inr (b::r)).keys[k]?=some r[k].1:=by simp[inr,hk]
  have e3:(inr (b::r)).leaf=false:=rfl
  rw[e1,e3];simp only[xM,bw]
  push_cast
  simp;omega
theorem Zk (b:Br) (r:List Br):qp (inr (b::r))=6+((r.map bw).sum:Int):=by
 unfold qp;have e:(inr (b::r)).keys.length=r.length:=by simp[inr]
 have e2:(inr (b::r)).kids.length=r.length+1:=by simp[inr]
 have h:=qia b r r.length (xc _)
 have:(r.map bw).take r.length=r.map bw:=xx (by simp)
 rw[this] at h;rw[e,e2,show (inr (b::r)).leaf=false from rfl]
 push_cast
 try simp
 omega
theorem qfy (h:jf n.keys) (hl:∀ k∈n.keys,1<=k.length/\k.length<=32):QZ n n.keys.length:=by
 intro k hk;have e:∀ j,j<n.keys.length->Qy n j=n.keys[j]?.getD []:=fun j _=>rfl
 have e1:Qy n k=n.keys[k]:=by rw[Qy,xg hk];rfl
 have hm:=hl n.keys[k] (Xy hk)
 refine⟨by rw[e1];exact hm.1,by rw[e1];exact hm.2,fun h0=>?_⟩
 have e2:Qy n (k-1)=n.keys[k-1]:=by rw[Qy,xg (by omega)];rfl
 rw[e1,e2];exact List.pairwise_iff_getElem.1 h (k-1) k (by omega) hk (by omega)
theorem Ye (h:QZ n n.keys.length):jf n.keys/\∀ k∈n.keys,1<=k.length/\k.length<=32:=by
 refine⟨qcx h,fun k hk=>?_⟩;obtain⟨i,hi,e⟩:=Xw hk;have:=h i hi
 have e1:Qy n i=k:=by rw[Qy,xg hi,e];rfl
 rw[Vc,e1] at this;exact⟨this.1,this.2.1⟩
def qek (ps:List Pr):Prop:=jf (ps.map (·.1))/\∀ y∈ps,(1<=y.1.length/\y.1.length<=32)/\y.2.length<=64
theorem qao (h:qek ps) (hs:qp (lf ps)<=244):NOk (lf ps):=by
 refine⟨qfy h.1 (fun k hk=>?_),?_,fun k hk=>?_,fun k hk=>?_,hs⟩
 ·obtain⟨y,hy,rfl⟩:=Xx.1 hk;exact(h.2 y hy).1
 ·unfold qP;rw[show (lf ps).leaf=true from rfl,xj rfl];exact⟨by simp[lf],rfl⟩
 ·have hk':k<ps.length:=by simpa[lf] using hk
  have:(lf ps).vals[k]?=some ps[k].2:=by simp[lf,hk']
  rw[this];exact(h.2 _ (Xy hk')).2
 simp[lf] at hk
theorem qsv (hok:NOk nd) (hl:nd.leaf=true):nd=lf (npr nd)/\qek (npr nd):=by
 have e:=qrq hok hl
 refine⟨e.symm,?_⟩;obtain⟨h1,h2⟩:=Ye hok.1;rw[<-e] at h1 h2;refine⟨h1,fun y hy=>⟨h2 y.1 (Xx.2 ⟨y,hy,rfl⟩),?_⟩⟩;have hv:=hok.2.2.1
 have hm:y.2∈nd.vals:=(List.of_mem_zip hy).2
 obtain⟨i,hi,e⟩:=Xw hm;have:=hv i hi
 rw[xg hi,e] at this;exact this
def qbe (bs:List Br):Prop:=(∀ b∈bs.tail,1<=b.1.length/\b.1.length<=32)/\∀ b∈bs,1<=b.2/\b.2<=65536
theorem qc9 {bs:List Br} (hr:jf (bs.tail.map (·.1))) (h:qbe bs) (h0:bs.tail≠[]) (hs:qp (inr bs)<=244):NOk (inr bs):=by
 have hb:bs.length=bs.tail.length+1:=by cases bs with|nil=>exact absurd rfl h0|cons a r=>simp
 refine⟨qfy hr (fun k hk=>?_),?_,fun k hk=>?_,fun k hk=>?_,hs⟩
 ·obtain⟨y,hy,rfl⟩:=Xx.1 hk;exact h.1 y hy
 ·unfold qP;rw[show (inr bs).leaf=false from rfl,xh (by decide)]
  refine⟨rfl,?_,?_⟩
  ·have:(inr bs).keys.length=bs.tail.length:=by simp[inr]
   have h9:bs.tail.length≠0:=fun h=>h0 (xq h)
   omega
  simp only[inr,Xe];exact hb
 ·simp[inr] at hk
 have hk':k<bs.length:=by simpa[inr] using hk
 have:(inr bs).kids[k]?=some bs[k].2:=by simp[inr,hk']
 rw[this];exact h.2 _ (Xy hk')
theorem ZD (hok:NOk nd) (hl:nd.leaf=false):nd=inr (brs nd)/\qbe (brs nd)/\(brs nd).tail≠[]:=by
 have e:=qd5 hok hl
 obtain⟨h1,h2⟩:=Ye hok.1;have hk:=Q9 hok hl
 have hc:=hok.2.1
 unfold qP at hc;rw[hl,xh (by decide)] at hc
 refine⟨e.symm,⟨fun b hb=>?_,fun b hb=>?_⟩,fun h9=>?_⟩
 ·have:b.1∈(inr (brs nd)).keys:=Xx.2 ⟨b,hb,rfl⟩
  rw[e] at this;exact h2 _ this
 ·have:b.2∈(inr (brs nd)).kids:=Xx.2 ⟨b,hb,rfl⟩
  rw[e] at this;obtain⟨i,hi,e9⟩:=Xw this;have:=hok.2.2.2.1 i hi
  rw[xg hi,e9] at this;exact this
 have:(inr (brs nd)).keys=[]:=by unfold inr;rw[h9];rfl
 rw[e] at this;rw[this] at hc;simp at hc
def QT (n:Nd) (k:Nat):Nd:=if n.leaf then⟨true,n.keys.take k,n.vals.take k,[]⟩ else⟨false,n.keys.take k,[],n.kids.take (k+1)⟩
def QW (n:Nd) (k:Nat):Nd:=if n.leaf then⟨true,n.keys.drop k,n.vals.drop k,[]⟩ else⟨false,n.keys.drop (k+1),[],n.kids.drop (k+1)⟩
def jx (n:Nd) (k:Nat):Int:=max (qp (QT n k)) (qp (QW n k))
def zC (n:Nd):Nat->Nat×Int
 | 0=>(0,qp n)
 | k+1=>if jx n k<(zC n k).2 then(k,jx n k) else zC n k
def qX (n:Nd):Nat:=(zC n n.keys.length).1
theorem Vx (n:Nd):∀ k,(∀ j,j<k->(zC n k).2<=jx n j)/\(zC n k).2<=qp n/\((zC n k).2<qp n->(zC n k).1<k/\jx n (zC n k).1=(zC n k).2)
 | 0=>⟨fun j h=>by omega,Kj _,fun h=>by simp[zC] at h⟩
 | k+1=>by
  obtain⟨h1,h2,h3⟩:=Vx n k;simp only[zC]
  split
  ·rename_i hc
   refine⟨fun j hj=>?_,by show jx n k<=_;omega,fun _=>⟨by show k<k+1;omega,rfl⟩⟩
   show jx n k<=jx n j
   by_cases e:j=k
   ·subst e;exact Kj _
   have:=h1 j (by omega);omega
  rename_i hc
  refine⟨fun j hj=>?_,h2,fun h=>⟨by have:=(h3 h).1;omega,(h3 h).2⟩⟩
  by_cases e:j=k
  ·subst e;omega
  exact h1 j (by omega)
theorem YO (ps:List Pr) (k:Nat):QT (lf ps) k=lf (ps.take k):=by simp[QT,lf,kV]
theorem Vq (ps:List Pr) (k:Nat):QW (lf ps) k=lf (ps.drop k):=by simp[QW,lf,kK]
theorem ym (b:Br) (r:List Br) (k:Nat):QT (inr (b::r)) k=inr (b::r.take k):=by simp[QT,inr,kV]
theorem YC (b:Br) (r:List Br) (k:Nat):QW (inr (b::r)) k=inr (r.drop k):=by simp[QW,inr,kK]
theorem qsy (ws:List Nat) (M:Nat) (h:M<ws.sum):∃ j,j<ws.length/\(ws.take j).sum<=M/\M<(ws.take (j+1)).sum:=by
 induction ws generalizing M with
 | nil=>simp at h
 | cons a r ih =>
  by_cases ha:M<a
  ·exact⟨0,by simp,by simp,by simpa using ha⟩
  obtain⟨j,h1,h2,h3⟩:=ih (M-a) (by simp at h;omega)
  refine⟨j+1,by simp;omega,by simp;omega,by simp at h3 |-;omega⟩
theorem Jb (ws:List Nat) (j:Nat):(ws.take j).sum+(ws.drop j).sum=ws.sum:=by
 conv=>rhs;rw[<-x7 j ws]
 rw[List.sum_append]
theorem qez (hw:∀ y∈ps,pw y<=98) (h1:244<qp (lf ps)) (h2:qp (lf ps)<=342):0<qX (lf ps)/\qX (lf ps)<ps.length/\qp (lf (ps.take (qX (lf ps))))<=244/\qp (lf (ps.drop (qX (lf ps))))<=244:=by
 have hk:(lf ps).keys.length=ps.length:=by simp[lf]
 obtain⟨a,b,c⟩:=Vx (lf ps) ps.length;have em:qX (lf ps)=(zC (lf ps) ps.length).1:=by rw[qX,hk]
 have hs:=zy ps
 obtain⟨j,j1,j2,j3⟩:=qsy (ps.map pw) 242 (by omega)
 have jl:j<ps.length:=by simpa using j1
 have hwj:(ps.map pw)[j]?=some (pw ps[j]):=by simp[jl]
 have hle:=hw ps[j] (Xy jl)
 rw[zo hwj] at j3;have hsp:=Jb (ps.map pw) j
 have hg:jx (lf ps) j<=244:=by
  unfold jx;rw[YO,Vq,zy,zy,kV,kK];omega
 have hlt:=a j jl
 obtain⟨c1,c2⟩:=c (by omega)
 rw[<-em] at c1 c2;have hg2:jx (lf ps) (qX (lf ps))<=244:=by omega
 unfold jx at hg2;rw[YO,Vq] at hg2;refine⟨?_,c1,by omega,by omega⟩
 apply Nat.pos_of_ne_zero;intro h0;rw[h0] at hg2;simp only[Kn] at hg2;omega
theorem qi5 {b0:Br} {r:List Br} (hw:∀ y∈r,bw y<=37) (h1:244<qp (inr (b0::r))) (h2:qp (inr (b0::r))<=281) :
 0<qX (inr (b0::r))/\qX (inr (b0::r))+1<r.length/\qp (inr (b0::r.take (qX (inr (b0::r)))))<=244/\qp (inr (r.drop (qX (inr (b0::r)))))<=244:=by
 have hk:(inr (b0::r)).keys.length=r.length:=by simp[inr]
 obtain⟨a,b,c⟩:=Vx (inr (b0::r)) r.length;obtain⟨m,em⟩:∃ m,m=qX (inr (b0::r)):=⟨_,rfl⟩;have em':m=(zC (inr (b0::r)) r.length).1:=by rw[em,qX,hk]
 rw[<-em];have hs:=Zk b0 r
 have hbp:∀ y:Br,5<=bw y:=fun y=>by unfold bw;omega
 -- sizes of the parts
 have hG:∀ j,j<r.length->∃ x:Nat,x=bw r[j]! /\ x<=37/\5<=x/\((r.map bw).take j).sum+x+((r.map bw).drop (j+1)).sum=(r.map bw).sum/\qp (QT (inr (b0::r)) j)=6+(((r.map bw).take j).sum:Int)/\qp (QW (inr (b0::r)) j)=6+(((r.map bw).drop (j+1)).sum:Int):=by
  intro j hj;have hwj:(r.map bw)[j]?=some (bw r[j]):=by simp[hj]
  have hsp:=Jb (r.map bw) (j+1)
  rw[zo hwj] at hsp;refine⟨bw r[j],by rw[getElem!_pos r j hj],hw _ (Xy hj),hbp _,hsp,?_,?_⟩
  ·rw[ym,Zk,kV]
  rw[YC];have e:r.drop j=r[j]::r.drop (j+1):=Xv hj
  rw[e,Zk,kK]
 have hlen:6<r.length:=by
  have:∀ l:List Br,(∀ y∈l,bw y<=37)->(l.map bw).sum<=37*l.length:=by
   intro l
   induction l with
   | nil=>intro _;simp
   | cons a l ih =>
    intro h;have h1:=ih fun y hy=>h y (by simp[hy])
    have h2:=h a (by simp)
    simp only[Xn,kf,xC];omega
  have:=this r hw
  omega
 obtain⟨j,j1,j2,j3⟩:=qsy (r.map bw) 238 (by omega)
 have jl:j<r.length:=by simpa using j1
 obtain⟨x,_,x1,x2,x3,x4,x5⟩:=hG j jl;have hwj:(r.map bw)[j]?=some (bw r[j]):=by simp[jl]
 rw[zo hwj] at j3
 have hxj:x=bw r[j]:=by
  obtain⟨x',h9,_⟩:=hG j jl;have:r[j]! = r[j]:=getElem!_pos r j jl
  simp_all
 have hg:jx (inr (b0::r)) j<=244:=by unfold jx;rw[x4,x5];omega
 have hlt:=a j jl
 obtain⟨c1,c2⟩:=c (by omega)
 rw[<-em'] at c1 c2;have hgm:jx (inr (b0::r)) m<=244:=by omega
 have hmin:∀ j,j<r.length->jx (inr (b0::r)) m<=jx (inr (b0::r)) j:=fun j hj=>by have:=a j hj;omega
 refine⟨?_,?_,?_,?_⟩
 ·apply Nat.pos_of_ne_zero;intro h0;have hm1:=hmin 1 (by omega)
  rw[h0] at hm1;obtain⟨y,_,y1,y2,y3,y4,y5⟩:=hG 0 (by omega)
  obtain⟨z,_,z1,z2,z3,z4,z5⟩:=hG 1 (by omega)
  have e0:((r.map bw).take 0).sum=0:=by simp
  have hw0:(r.map bw)[0]?=some (bw r[0]):=by simp[show 0<r.length by omega]
  have e1:=zo hw0
  have hsp0:=Jb (r.map bw) 1
  have b1:=hw r[0] (Xy (by omega))
  unfold jx at hm1;rw[y4,y5,z4,z5] at hm1;simp only[XD] at *;omega
 ·by_cases h9:m+1<r.length
  ·exact h9
  exfalso
  have hmm:m=r.length-1:=by omega
  have hm1:=hmin (r.length-2) (by omega)
  rw[hmm] at hm1;obtain⟨y,_,y1,y2,y3,y4,y5⟩:=hG (r.length-1) (by omega)
  obtain⟨z,_,z1,z2,z3,z4,z5⟩:=hG (r.length-2) (by omega)
  have ed:((r.map bw).drop (r.length-1+1)).sum=0:=by rw[List.drop_eq_nil_of_le (by simp;omega)];rfl
  have hwl:(r.map bw)[r.length-2]?=some (bw r[r.length-2]):=by simp[show r.length-2<r.length by omega]
  have e1:=zo hwl
  rw[show r.length-2+1=r.length-1 by omega] at e1 z3 z5
  have hwl2:(r.map bw)[r.length-1]?=some (bw r[r.length-1]):=by simp[show r.length-1<r.length by omega]
  have hsp0:=Jb (r.map bw) (r.length-1)
  have b1:=hbp r[r.length-2]
  unfold jx at hm1;rw[y4,y5,z4,z5] at hm1;omega
 ·rw[<-ym];unfold jx at hgm;omega
 rw[<-YC (b:=b0)];unfold jx at hgm;omega
end Go.Proofs.YtfjadfnjmpefkaaGreat
