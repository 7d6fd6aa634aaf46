/- TopSwap: for every input: a tree on a disk is changed, its new pages are written and flushed, then the superblock; a crash anywhere in that: behind it the disk has all pairs of before, or all of after. No condition beside the statement. -/
import Derived.Test.YtfjadfnjmpefkaaGreatGoLTSwap3
import Derived.Test.YtfjadfnjmpefkaaGreatGoLTSwap7
import Derived.Test.YtfjadfnjmpefkaaGreatGoLTSwap6
import Derived.Test.YtfjadfnjmpefkaaGreatGoLTSwap2
import Derived.Deep.CutRange
set_option maxRecDepth 100000
set_option maxHeartbeats 64000000
set_option linter.unusedVariables false
set_option linter.unusedSimpArgs false
namespace Go.Proofs.YtfjadfnjmpefkaaGreat
theorem K9:type_of% @Go.trodAll_cons_mk:=@Go.trodAll_cons_mk
variable {want:List Pr} {B g5 k:Nat} {t:Tr} {pv wv:Value} {w w' wr:World}
theorem qA8:type_of% (xb @List.getElem_toArray.{0} (xb @List.getElem_cons_succ.{0} (xb @List.getElem_cons_zero.{0} (xb @List.getElem?_toArray.{0} (xb @List.getElem?_cons_succ.{0} (@List.getElem?_cons_zero.{0})))))):=xb @List.getElem_toArray.{0} (xb @List.getElem_cons_succ.{0} (xb @List.getElem_cons_zero.{0} (xb @List.getElem?_toArray.{0} (xb @List.getElem?_cons_succ.{0} (@List.getElem?_cons_zero.{0})))))
theorem qB8:type_of% (xb @List.setIfInBounds_toArray.{0} (xb @List.set_cons_zero.{0} (@List.set_cons_succ.{0}))):=xb @List.setIfInBounds_toArray.{0} (xb @List.set_cons_zero.{0} (@List.set_cons_succ.{0}))
open Go.RowKit
structure Bu (B:Nat) (w:World) (t:Tr) (pv:Value) (want:List Pr) (wv:Value) (k:Nat):Prop where
 own:OwnPg B w pv t.pages
 prs:QR t=some want
 nxt:t.next<=1+40*(k:Int)
 sml:∀ x∈t.pages,x.2.length<=244
 wnt:OwnP B w wv want
 cnt:want.length<=k
 seq:Seq t
theorem Bu.keep (h:Bu B w t pv want wv k) (kk:∀ e,e≠27->KeepT e w w'):Bu B w' t pv want wv k :=
 ⟨OwnX.keepT h.own (kk _ (by decide)) (kk _ (by decide)),h.prs,h.nxt,h.sml,qs h.wnt (kk _ (by decide)),h.cnt,h.seq⟩
theorem Bu.to (h:Bu B w t pv want wv k) (b:Below w.heap.size w w'):Bu B w' t pv want wv k:=h.keep fun e _=>KeepT.below b
theorem Bu.more {n:Nat} (h:Bu B w t pv want wv k) (hn:k<=n):Bu B w t pv want wv n:=⟨h.own,h.prs,by have:=h.nxt;omega,h.sml,h.wnt,by have:=h.cnt;omega,h.seq⟩
theorem Bu.rwf (h:Bu B w t pv want wv k):(Lit.int .i64 t.root).wf=true:=(zI h.prs).1.rwf
theorem Bu.big (h:Bu B w t pv want wv k):∀ x∈t.pages,x.2.length<=140737488351232:=fun x hx=>by have:=h.sml x hx;omega
theorem Bu.len (h:Bu B w t pv want wv k):(t.pages.length+1)*32<=140737488355328:=(Chg.same h.prs).len h.prs
structure BI (w wr:World) (g5:Nat) (t:Tr) (pv:Value) (want:List Pr) (wv:Value) (k:Nat):Prop where
 bu:Bu w.heap.size wr t pv want wv k
 rb:wr.heap[w.heap.size]?=some (.cells #[.int .i64 0,.int .i64 0,.slice none 0 0] 27 (0,0))
 tb:wr.heap[g5]?=some (.cells #[.int .i64 t.root,.int .i64 t.next,pv] 27 (0,0))
 bel:Below w.heap.size w wr
theorem BI.to {wr':World} (h:BI w wr g5 t pv want wv k) (b:Below wr.heap.size wr wr'):BI w wr' g5 t pv want wv k :=
 ⟨h.bu.to b,(b.block _ (xa h.rb)).trans h.rb,(b.block _ (xa h.tb)).trans h.tb,h.bel.trans (b.mono h.bel.size)⟩
theorem BI.put {c:World} {u:Tr} {pv':Value} {want':List Pr} {wv':Value} (h:BI w c g5 t pv want wv k) (hg:w.heap.size<g5) (hC:Chg t u want') (o:OwnPg w.heap.size c pv' u.pages) (ow:OwnP w.heap.size c wv' want') (hc:want'.length<=want.length+1) :
 BI w (((c.setCell ⟨g5,0,none⟩ (.int .i64 u.root)).setCell ⟨g5,1,none⟩ (.int .i64 u.next)).setCell ⟨g5,2,none⟩ pv') g5 u pv' want' wv' (k+1):=by
 have kk:=fun e (he:e≠27)=>QM h.tb (.int .i64 u.root) (.int .i64 u.next) pv' he
 have hne:w.heap.size≠g5:=by omega
 obtain⟨more,e,_,h2⟩:=hC.pgs;refine⟨⟨OwnX.keepT o (kk _ (by decide)) (kk _ (by decide)),hC.prs,?_,?_,qs ow (kk _ (by decide)),by have:=h.bu.cnt;omega,hC.seq h.bu.seq⟩,?_,qK h.tb _ _ _,qD h.bel (xZ hg) _ _ _⟩
 ·have h1:=h.bu.nxt
  have h3:=hC.nxt
  push_cast
  omega
 ·intro x hx;rw[e,xu] at hx;rcases hx with hx|hx
  ·exact h.bu.sml x hx
  exact h2 x hx
 exact(xd _ _ _ _ hne).trans ((xd _ _ _ _ hne).trans ((xd _ _ _ _ hne).trans h.rb))
theorem BI.succ (h:BI w wr g5 t pv want wv k):BI w wr g5 t pv want wv (k+1):=⟨h.bu.more (by omega),h.rb,h.tb,h.bel⟩
theorem qmj:QR ⟨0,1,[]⟩=some []:=jK (t:=⟨0,1,[]⟩) (s:=⟨[],none,[]⟩) ⟨by decide,by decide,fun i hi=>by simp at hi⟩ rfl (by decide)
theorem qgz (w:World) (v:Value) (ls:List Sp3) (h:qr1 w v ls) (hf:∀ x∈ls,vd x) :
 Calls Tryz.prog 5 #[v] w fun e w'=>∃ t pv want wv,e=.returned (.tuple #[tv t pv,wv,.bool true])/\Bu w.heap.size w' t pv want wv 400/\Below w.heap.size w w':=by
 obtain⟨a,c,rfl⟩:=h.slice;obtain⟨L,hL⟩:∃ L,L=ls.length:=⟨_,rfl⟩;rw[<-hL] at h |-;replace hL:=qa hL;obtain⟨W,hW,DW,bW,sW⟩:=qf w #[.int .i64 0,.int .i64 0,.slice none 0 0] 27;have KN0:=qa (qbb W)
 dsimp only[tv] at KN0;rw[hW] at KN0;have HH:=qa h
 have HW:=qa (xb DW bW)
 replace hf:=qa hf;clear h DW bW;go_enter Tryz.func5,Tryz.ntmps5
 go_wp2_with fail
 refine KN0.out.mono ?_;rintro e w1 ⟨rfl,b1⟩;rw[<-hW] at b1;replace hW:=qa hW;obtain⟨Y,hY,DY,bY,sY⟩:=qf w1 #[.int .i64 0,.int .i64 1,.slice none 0 0] 27;have b1Y:=b1.trans (bY.mono b1.size)
 have HI:Hid (∃ t pv want,BI w Y w1.heap.size t pv want (.slice none 0 0) 0):=by
  refine⟨⟨0,1,[]⟩,.slice none 0 0,[],⟨⟨⟨[],rfl,xA _ _ _ _,fun i hi=>by simp at hi⟩,qmj,by decide,(fun x hx=>by cases hx),xA _ _ _ _,xt _,qqx⟩,(b1Y.block _ (xa HW.out.1)).trans HW.out.1,DY,HW.out.2.trans (b1Y.mono HW.out.2.size)⟩⟩
 have hg5:Hid (w.heap.size<w1.heap.size):=by show _<_;have:=xa HW.out.1;have:=b1.size;omega
 clear KN0 b1 DY bY sY b1Y HW;go_wp2;rw[<-hY];replace hY:=qa hY;obtain⟨g5,hg⟩:∃ g,g=w1.heap.size:=⟨_,rfl⟩;rw[<-hg] at HI hg5 |-;clear hg hY sW
 go_loopw [6,7] (fun v6 p wr=>∃ (k:Nat) (wv:Value),wv=v6/\k<=L/\k<=400/\p=.int .i64 k/\Hid (∃ t pv want,BI w wr g5 t pv want wv k)) (fun _ p _=>L-(intOf p).toNat)
 case atStart=>exact⟨0,_,rfl,xt _,xt _,rfl,HI⟩
 case round =>
 obtain⟨k,wv,rfl,hk,hk4,rfl,hI⟩:=hrel;clear HI;obtain⟨t,pv,want,hB⟩:=hI.out;obtain⟨pa,pc,hpv⟩:=hB.bu.own.shape;obtain⟨pn,hpn⟩:∃ n,n=t.pages.length:=⟨_,rfl⟩;rw[<-hpn] at hpv;subst hpv;replace hpn:=qa hpn;obtain⟨root,hrn⟩:∃ z,z=t.root:=⟨_,rfl⟩;obtain⟨next,hnn⟩:∃ z,z=t.next:=⟨_,rfl⟩
 have hTB:=hB.tb
 rw[<-hrn,<-hnn] at hTB;replace hrn:=qa hrn;replace hnn:=qa hnn;obtain⟨⟨A0,A1,A2⟩,AF⟩:=ql hTB;replace hB:=qa hB;by_cases hlt:k<L/\k<400
 ·obtain⟨hlt,hlt4⟩:=hlt;have hq:(k:Int)<(L:Int):=by omega
  have hq4:(k:Int)<400:=by omega
  obtain⟨y,hy⟩:∃ y,ls[k]?=some y:=⟨_,xg (by rw[<-hL.out];exact hlt)⟩
  obtain⟨sb,so,rfl,s0,s1,s2⟩:=(HH.out.to0 hB.out.bel).spAt hy;have hfy:=hf.out y (xQ hy)
  obtain⟨wh,key,val⟩:=y;dsimp only at s0 s1 s2 hfy;have hkl:Hid (key.length<=9223372036854775807):=hfy.2.1
  have hvl:Hid (val.length<=9223372036854775807):=hfy.2.2
  have hn16:Hid (t.next<=16001):=by show _<=_;have:=hB.out.bu.nxt;omega
  have HSF:Hid (∀ w9,Below wr.heap.size wr w9->w9.cell? ⟨g5,0,none⟩=some (.int .i64 root)/\w9.cell? ⟨g5,1,none⟩=some (.int .i64 next)/\w9.cell? ⟨g5,2,none⟩=some (.slice pa pn pc)/\w9.cell? ⟨sb,so+k*3+1,none⟩=some (st key)/\w9.cell? ⟨sb,so+k*3+2,none⟩=some (st val)):=fun w9 b9 =>
   ⟨(b9.cell (qe A0)).trans A0,(b9.cell (qe A1)).trans A1,(b9.cell (qe A2)).trans A2,(b9.cell (qe s1)).trans s1,(b9.cell (qe s2)).trans s2⟩
  have hTD:=qa hTB
  replace hy:=qa hy;replace hfy:=qa hfy;clear hTB hI;by_cases h0:wh=0
  ·subst h0
   go_upto_region 7 with fail
   have KU:Hid (∀ w9,Below wr.heap.size wr w9->Calls Tryz.prog 6 #[.agg #[.int .i64 root,.int .i64 next,.slice pa pn pc],st key,st val] w9 fun e w6=>∃ u ua un9 uc err,e=.returned (.tuple #[.agg #[.int .i64 u.root,.int .i64 u.next,.slice ua un9 uc],.int .i64 err])/\PutB w9.heap.size w6 t key val u (.slice ua un9 uc) err/\Below w9.heap.size w9 w6):=fun w9 b9=>by
    have h9:=qft w9 t (.slice pa pn pc) key val (hB.out.bu.to b9).own.rd hB.out.bu.big hB.out.bu.rwf hkl.out
    dsimp only[tv] at h9;rw[<-hrn.out,<-hnn.out] at h9;exact Calls.mono h9 fun e w6 h=>h.to
   go_cut [8,9] from 16 to 129 (fun pp ee wx=>∃ (g7:Nat) (u:Tr) (ua:Option Addr) (un9 uc:Nat) (err:Int),pp=.pointer (some ⟨g7,0,none⟩)/\ee=.int .i64 err/\Hid (Below wr.heap.size wr wx/\wx.heap[g7]?=some (.cells #[.int .i64 u.root,.int .i64 u.next,.slice ua un9 uc] 27 (0,0))/\PutB wr.heap.size wx t key val u (.slice ua un9 uc) err/\wr.heap.size<=g7))
   case first =>
    have HS:=HSF
    have b0:Below wr.heap.size wr wr.drew:=(xm _ _).drew
    refine Ql (fun w9=>w9.cell? ⟨g5,0,none⟩=some (.int .i64 root)/\w9.cell? ⟨g5,1,none⟩=some (.int .i64 next)/\w9.cell? ⟨g5,2,none⟩=some (.slice pa pn pc)/\w9.cell? ⟨sb,so+k*3+1,none⟩=some (st key)/\w9.cell? ⟨sb,so+k*3+2,none⟩=some (st val)) 17 qG (by simp) ?_
    generalize wr.drew=c0 at *;clear A0 A1 A2 AF s0 s1 s2;refine qc (i:=0) (v:=?_) rfl (by kernel_rfl) (fun _ _ _ _ h=>h) (by kernel_rfl) (HS.out _ b0) ?_ ?_
    rotate_left
    ·rintro w9 ⟨t0,t1,t2,t3,t4⟩;go_simp;try with_reducible rfl
    try simp only[Act.put,qB8]
    refine qc (i:=1) (v:=?_) rfl (by kernel_rfl) (fun _ _ _ _ h=>h) (by kernel_rfl) (HS.out _ b0) ?_ ?_
    rotate_left
    ·rintro w9 ⟨t0,t1,t2,t3,t4⟩;go_simp;try with_reducible rfl
    try simp only[Act.put,qB8]
    refine qc (i:=2) (v:=?_) rfl (by kernel_rfl) (fun _ _ _ _ h=>h) (by kernel_rfl) (HS.out _ b0) ?_ ?_
    rotate_left
    ·rintro w9 ⟨t0,t1,t2,t3,t4⟩;go_simp;try with_reducible rfl
    try simp only[Act.put,qB8]
    refine qc (i:=3) (v:=?_) rfl (by kernel_rfl) (fun _ _ _ _ h=>h) (by kernel_rfl) (HS.out _ b0) ?_ ?_
    rotate_left
    ·rintro w9 ⟨t0,t1,t2,t3,t4⟩;go_simp;try with_reducible rfl
    try simp only[Act.put,qB8]
    refine qc (i:=4) (v:=?_) rfl (by kernel_rfl) (fun _ _ _ _ h=>h) (by kernel_rfl) (HS.out _ b0) ?_ ?_
    rotate_left
    ·rintro w9 ⟨t0,t1,t2,t3,t4⟩;go_simp;try with_reducible rfl
    try simp only[Act.put,qB8]
    refine qc (i:=5) (v:=?_) rfl (by kernel_rfl) (fun _ _ _ _ h=>h) (by kernel_rfl) (HS.out _ b0) ?_ ?_
    rotate_left
    ·rintro w9 ⟨t0,t1,t2,t3,t4⟩;go_simp;try with_reducible rfl
    try simp only[Act.put,qB8]
    refine qc (i:=6) (v:=?_) rfl (by kernel_rfl) (fun _ _ _ _ h=>h) (by kernel_rfl) (HS.out _ b0) ?_ ?_
    rotate_left
    ·rintro w9 ⟨t0,t1,t2,t3,t4⟩;go_simp;try with_reducible rfl
    try simp only[Act.put,qB8]
    refine qc (i:=7) (v:=?_) rfl (by kernel_rfl) (fun _ _ _ _ h=>h) (by kernel_rfl) (HS.out _ b0) ?_ ?_
    rotate_left
    ·rintro w9 ⟨t0,t1,t2,t3,t4⟩;go_simp;try with_reducible rfl
    try simp only[Act.put,qB8]
    refine qc (i:=8) (v:=?_) rfl (by kernel_rfl) (fun _ _ _ _ h=>h) (by kernel_rfl) (HS.out _ b0) ?_ ?_
    rotate_left
    ·rintro w9 ⟨t0,t1,t2,t3,t4⟩;go_simp;try with_reducible rfl
    try simp only[Act.put,qB8]
    refine qc (i:=9) (v:=?_) rfl (by kernel_rfl) (fun _ _ _ _ h=>h) (by kernel_rfl) (HS.out _ b0) ?_ ?_
    rotate_left
    ·rintro w9 ⟨t0,t1,t2,t3,t4⟩;go_simp;try with_reducible rfl
    try simp only[Act.put,qB8]
    refine qc (i:=10) (v:=?_) rfl (by kernel_rfl) (fun _ _ _ _ h=>h) (by kernel_rfl) (HS.out _ b0) ?_ ?_
    rotate_left
    ·rintro w9 ⟨t0,t1,t2,t3,t4⟩;go_simp;try with_reducible rfl
    try simp only[Act.put,qB8]
    refine zM 11 15 (by kernel_rfl) ?_ ?_
    ·
     refine qi rfl (by kernel_rfl) fun K hK=>?_
     refine qk 6 _ _ (by rfl) #[.agg #[.int .i64 root,.int .i64 next,.slice pa pn pc],st key,st val] (by simp[Act.eval]) (Tryz.call6 _ _) (KU.out _ b0) ?_
     rintro e c2 ⟨u,ua,un9,uc,err,rfl,pB,bF⟩;have b2:=b0.trans (bF.mono b0.size)
     replace pB:=pB.base (B:=wr.heap.size) b0.size;clear bF;refine⟨_,rfl,hK _ _ (HS.out _ b2) ?_⟩;clear hK K;try simp only[Act.put,qB8]
     refine qc (i:=12) (v:=?_) rfl (by kernel_rfl) (fun _ _ _ _ h=>h) (by kernel_rfl) (HS.out _ b2) ?_ ?_
     rotate_left
     ·rintro w9 ⟨t0,t1,t2,t3,t4⟩;go_simp;try with_reducible rfl
     try simp only[Act.put,qB8]
     refine qc (i:=13) (v:=?_) rfl (by kernel_rfl) (fun _ _ _ _ h=>h) (by kernel_rfl) (HS.out _ b2) ?_ ?_
     rotate_left
     ·rintro w9 ⟨t0,t1,t2,t3,t4⟩;go_simp;try with_reducible rfl
     try simp only[Act.put,qB8]
     refine qc (i:=14) (v:=?_) rfl (by kernel_rfl) (fun _ _ _ _ h=>h) (by kernel_rfl) (HS.out _ b2) ?_ ?_
     rotate_left
     ·rintro w9 ⟨t0,t1,t2,t3,t4⟩;go_simp;try with_reducible rfl
     try simp only[Act.put,qB8]
     refine qr 15 (by kernel_rfl) ?_
     refine qi rfl (by kernel_rfl) fun K hK=>?_
     go_simp;obtain⟨c3,hc,h7,bc,sc⟩:=qf c2 #[.int .i64 0,.int .i64 0,.slice none 0 0] 27;rw[<-hc];have b3:=b2.trans (bc.mono b2.size)
     obtain⟨g7,hg⟩:∃ g,g=c2.heap.size:=⟨_,rfl⟩;rw[<-hg] at h7;rw[<-hg];have lg7:wr.heap.size<=g7:=by have:=b2.size;omega
     replace pB:=pB.to bc;refine hK _ _ (HS.out _ b3) ?_;clear hK K hc bc sc hg;try simp only[Act.put,qB8]
     refine qr 16 (by kernel_rfl) ?_
     have y9:=ql h7
     obtain⟨⟨y0,y1,y2⟩,yF⟩:=y9;refine qi rfl (by kernel_rfl) fun K hK=>?_
     go_simp;obtain⟨d1,hd⟩:∃ d,d=((c3.setCell ⟨g7,0,none⟩ (.int .i64 u.root)).setCell ⟨g7,1,none⟩ (.int .i64 u.next)).setCell ⟨g7,2,none⟩ (.slice ua un9 uc):=⟨_,rfl⟩
     rw[<-hd];have e1:Below wr.heap.size wr d1:=by rw[hd];exact qD b3 lg7 _ _ _
     have i7:d1.heap[g7]?=some (.cells #[(.int .i64 u.root),(.int .i64 u.next),(.slice ua un9 uc)] 27 (0,0)):=by rw[hd];exact qK h7 _ _ _
     have kd:=fun e (he:e≠27)=>QM h7 (.int .i64 u.root) (.int .i64 u.next) (.slice ua un9 uc) he
     rw[<-hd] at kd;have pD:=pB.keep kd
     refine hK _ _ (HS.out _ e1) ?_;clear hK K y0 y1 y2 yF hd kd;try simp only[Act.put,qB8]
     refine qT (by kernel_rfl) ?_
     show wpList _ _ _ _ _ _
     have FIN:=qa (xb e1 (xb i7 (xb pD lg7)))
     clear e1 i7 pD pB lg7 h7
     go_wp2_with fail
     go_meet
     exact⟨g7,u,_,_,_,err,rfl,rfl,FIN⟩
    
    refine qi rfl (by kernel_rfl) fun K hK=>?_
    go_simp;obtain⟨c2,hc,h7,bc,sc⟩:=qf c0 #[.int .i64 0,.int .i64 0,.slice none 0 0] 27;rw[<-hc];have b2:=b0.trans (bc.mono b0.size)
    obtain⟨g7,hg⟩:∃ g,g=c0.heap.size:=⟨_,rfl⟩;rw[<-hg] at h7;rw[<-hg];have lg7:wr.heap.size<=g7:=by have:=b0.size;omega
    refine hK _ _ (HS.out _ b2) ?_;clear hK K hc bc sc hg;try simp only[Act.put,qB8]
    refine qr 11 (by kernel_rfl) ?_
    refine qi rfl (by kernel_rfl) fun K hK=>?_
    refine qk 6 _ _ (by rfl) #[.agg #[.int .i64 root,.int .i64 next,.slice pa pn pc],st key,st val] (by simp[Act.eval]) (Tryz.call6 _ _) (KU.out _ b2) ?_
    rintro e c3 ⟨u,ua,un9,uc,err,rfl,pB,bF⟩;have b3:=b2.trans (bF.mono b2.size)
    replace pB:=pB.base (B:=wr.heap.size) b2.size;replace h7:=(bF.block _ (xa h7)).trans h7;clear bF;refine⟨_,rfl,hK _ _ (HS.out _ b3) ?_⟩;clear hK K;try simp only[Act.put,qB8]
    refine qc (i:=12) (v:=?_) rfl (by kernel_rfl) (fun _ _ _ _ h=>h) (by kernel_rfl) (HS.out _ b3) ?_ ?_
    rotate_left
    ·rintro w9 ⟨t0,t1,t2,t3,t4⟩;go_simp;try with_reducible rfl
    try simp only[Act.put,qB8]
    refine qc (i:=13) (v:=?_) rfl (by kernel_rfl) (fun _ _ _ _ h=>h) (by kernel_rfl) (HS.out _ b3) ?_ ?_
    rotate_left
    ·rintro w9 ⟨t0,t1,t2,t3,t4⟩;go_simp;try with_reducible rfl
    try simp only[Act.put,qB8]
    refine qc (i:=14) (v:=?_) rfl (by kernel_rfl) (fun _ _ _ _ h=>h) (by kernel_rfl) (HS.out _ b3) ?_ ?_
    rotate_left
    ·rintro w9 ⟨t0,t1,t2,t3,t4⟩;go_simp;try with_reducible rfl
    try simp only[Act.put,qB8]
    refine qr 16 (by kernel_rfl) ?_
    have y9:=ql h7
    obtain⟨⟨y0,y1,y2⟩,yF⟩:=y9;refine qi rfl (by kernel_rfl) fun K hK=>?_
    go_simp;obtain⟨d1,hd⟩:∃ d,d=((c3.setCell ⟨g7,0,none⟩ (.int .i64 u.root)).setCell ⟨g7,1,none⟩ (.int .i64 u.next)).setCell ⟨g7,2,none⟩ (.slice ua un9 uc):=⟨_,rfl⟩
    rw[<-hd];have e1:Below wr.heap.size wr d1:=by rw[hd];exact qD b3 lg7 _ _ _
    have i7:d1.heap[g7]?=some (.cells #[(.int .i64 u.root),(.int .i64 u.next),(.slice ua un9 uc)] 27 (0,0)):=by rw[hd];exact qK h7 _ _ _
    have kd:=fun e (he:e≠27)=>QM h7 (.int .i64 u.root) (.int .i64 u.next) (.slice ua un9 uc) he
    rw[<-hd] at kd;have pD:=pB.keep kd
    refine hK _ _ (HS.out _ e1) ?_;clear hK K y0 y1 y2 yF hd kd;try simp only[Act.put,qB8]
    refine qT (by kernel_rfl) ?_
    show wpList _ _ _ _ _ _
    have FIN:=qa (xb e1 (xb i7 (xb pD lg7)))
    clear e1 i7 pD pB lg7 h7
    go_wp2_with fail
    go_meet
    exact⟨g7,u,_,_,_,err,rfl,rfl,FIN⟩
   case rest =>
   obtain⟨g7,u,ua,un9,uc,err,rfl,rfl,hC⟩:=hcut;have KN:=qa (yY wc err)
   have TC:=qa (hB.out.to hC.out.1)
   clear A0 A1 A2 AF s0 s1 s2 KU
   go_wp2_with fail
   refine KN.out.mono ?_;rintro e w5 ⟨rfl,rfl⟩;by_cases herr:err=0
   ·subst herr;rcases hC.out.2.2.1 with ⟨q,_⟩|⟨_,q2,q3,ps,q4,q5⟩
    ·exact absurd rfl q
    obtain rfl:ps=want:=k9 (q4.symm.trans hB.out.bu.prs);have bd:Below wc.heap.size wc wc.drew:=qg wc 1 _
    have TD:=TC.out.to bd
    have KW:=qa (qi9 wc.drew wv ps key val (OwnP.rd TD.bu.wnt) (by have:=(zI q4).2.1;omega))
    rw[qhq (qkw q4)] at KW;have G7:=(bd.block _ (xa hC.out.2.1)).trans hC.out.2.1
    obtain⟨⟨U0,U1,U2⟩,_⟩:=ql G7;obtain⟨_,_,_,d3,d4⟩:=HSF.out _ (hC.out.1.trans (bd.mono hC.out.1.size));have HQ:=qa (xb q3 (xb q4 (xb q5 (xb bd TD))))
    replace q2:=qa q2;clear q3 q4 q5 bd TD G7 KN
    go_upto_region 11 with fail
    refine qj (fun w'=>w'.cell? ⟨g7,0,none⟩=some (.int .i64 u.root)/\w'.cell? ⟨g7,1,none⟩=some (.int .i64 u.next)/\w'.cell? ⟨g7,2,none⟩=some (.slice ua un9 uc)/\w'.cell? ⟨sb,so+k*3+1,none⟩=some (st key)/\w'.cell? ⟨sb,so+k*3+2,none⟩=some (st val)) 12 13 qG (by kernel_rfl) (fun _ _ _ _ h=>h) ⟨U0,U1,U2,d3,d4⟩ ?_
    dsimp only[List.take,List.drop]
    iterate 12
     refine qA (v:=?_) (by rfl) ?_ ?_
     rotate_left
     ·rintro w' ⟨t0,t1,t2,t3,t4⟩;go_simp;try with_reducible rfl
     try simp only[Act.put,qB8]
    refine qM fun K hK=>?_;refine ZJ (by rfl) 22 _ _ (by rfl) #[wv,st key,st val] (by simp[Act.eval]) (Tryz.call22 _ _) KW.out ?_
    rintro e w8 ⟨v8,rfl,o8,b8⟩;have x0:=(b8.cell (qe U0)).trans U0
    have x1:=(b8.cell (qe U1)).trans U1
    have x2:=(b8.cell (qe U2)).trans U2
    have x3:=(b8.cell (qe d3)).trans d3
    have x4:=(b8.cell (qe d4)).trans d4
    refine⟨_,rfl,hK _ _ ⟨x0,x1,x2,x3,x4⟩ ?_⟩;clear hK K;show wpList _ _ _ _ _ _
    try simp only[Act.put,qB8]
    obtain⟨q3,q4,q5,bd,TD⟩:=HQ.out;have T8:=TD.to b8
    have FIN:=qa (T8.put hg5.out q5 (OwnPg.base (q3.to9 (bd.trans (b8.mono bd.size))) hB.out.bel.size) (QA o8 TD.bel.size) (by have:=qev key val ps;omega))
    obtain⟨⟨J0,J1,J2⟩,JF⟩:=ql T8.tb;clear q3 q4 q5 bd TD T8 o8 b8 KW x0 x1 x2 x3 x4 U0 U1 U2 d3 d4 HQ;go_wp2;go_roundw
    case rel=>exact⟨k+1,_,rfl,by omega,by omega,by go_num,⟨u,_,_,FIN.out⟩⟩
    case measure=>simp[intOf];omega
   have hne:(err != 0)=true:=by simpa using herr
   have hpe:Hid (jc t key val=err):=by
    show _=_
    rcases hC.out.2.2.1 with ⟨_,q⟩|⟨q,_⟩
    ·rcases q with q|⟨_,_,q3⟩
     ·exact q.symm
     exfalso;have:=hn16.out;omega
    exact absurd q herr
   have KP:Hid (∀ w9,Below wc.heap.size wc w9->Calls Tryz.prog 21 #[.agg #[.int .i64 root,.int .i64 next,.slice pa pn pc]] w9 fun e w6=>∃ a6 c6,e=.returned (.agg #[.int .i64 root,.int .i64 next,.slice a6 pn c6])/\vU w9.heap.size w6 (.slice a6 pn c6) t.pages/\Below w9.heap.size w9 w6):=fun w9 b9=>by
    have h9:=qje w9 t (.slice pa pn pc) (TC.out.bu.to b9).own.rd TC.out.bu.len TC.out.bu.big
    dsimp only[tv] at h9;rw[<-hrn.out,<-hnn.out] at h9;refine Calls.mono h9 ?_;rintro e w6 ⟨pv6,rfl,o6,b6⟩;obtain⟨a6,c6,h6⟩:=o6.shape;rw[<-hpn.out] at h6;subst h6;exact⟨a6,c6,rfl,o6,b6⟩
   have KE:Hid (∀ w9 a6 c6,RdC w9 (.slice a6 pn c6) t.pages->Calls Tryz.prog 20 #[.agg #[.int .i64 root,.int .i64 next,.slice a6 pn c6],st key,st val] w9 fun e w6=>e=.returned (.int .i64 err)/\Below w9.heap.size w9 w6):=fun w9 a6 c6 r9=>by
    have h9:=qe9 w9 t (.slice a6 pn c6) key val hkl.out hvl.out r9
    dsimp only[tv] at h9;rw[<-hrn.out,<-hnn.out,hpe.out] at h9;exact h9
   have HS:Hid (∀ w9,Below wc.heap.size wc w9->w9.cell? ⟨g5,0,none⟩=some (.int .i64 root)/\w9.cell? ⟨g5,1,none⟩=some (.int .i64 next)/\w9.cell? ⟨g5,2,none⟩=some (.slice pa pn pc)/\w9.cell? ⟨sb,so+k*3+1,none⟩=some (st key)/\w9.cell? ⟨sb,so+k*3+2,none⟩=some (st val)):=fun w9 b9=>HSF.out w9 (hC.out.1.trans (b9.mono hC.out.1.size))
   have b0:Below wc.heap.size wc wc.drew:=(xm _ _).drew
   replace herr:=qa herr
   go_upto_region 9 with fail
   refine Ql (fun w9=>w9.cell? ⟨g5,0,none⟩=some (.int .i64 root)/\w9.cell? ⟨g5,1,none⟩=some (.int .i64 next)/\w9.cell? ⟨g5,2,none⟩=some (.slice pa pn pc)/\w9.cell? ⟨sb,so+k*3+1,none⟩=some (st key)/\w9.cell? ⟨sb,so+k*3+2,none⟩=some (st val)) 14 qG (by simp) ?_
   generalize wc.drew=c0 at *;refine qc (i:=0) (v:=?_) rfl (by kernel_rfl) (fun _ _ _ _ h=>h) (by kernel_rfl) (HS.out _ b0) ?_ ?_
   rotate_left
   ·rintro w9 ⟨t0,t1,t2,t3,t4⟩;go_simp;try with_reducible rfl
   try simp only[Act.put,qB8]
   refine qc (i:=2) (v:=?_) rfl (by kernel_rfl) (fun _ _ _ _ h=>h) (by kernel_rfl) (HS.out _ b0) ?_ ?_
   rotate_left
   ·rintro w9 ⟨t0,t1,t2,t3,t4⟩;go_simp;try with_reducible rfl
   try simp only[Act.put,qB8]
   refine qc (i:=3) (v:=?_) rfl (by kernel_rfl) (fun _ _ _ _ h=>h) (by kernel_rfl) (HS.out _ b0) ?_ ?_
   rotate_left
   ·rintro w9 ⟨t0,t1,t2,t3,t4⟩;go_simp;try with_reducible rfl
   try simp only[Act.put,qB8]
   refine qc (i:=4) (v:=?_) rfl (by kernel_rfl) (fun _ _ _ _ h=>h) (by kernel_rfl) (HS.out _ b0) ?_ ?_
   rotate_left
   ·rintro w9 ⟨t0,t1,t2,t3,t4⟩;go_simp;try with_reducible rfl
   try simp only[Act.put,qB8]
   refine qc (i:=5) (v:=?_) rfl (by kernel_rfl) (fun _ _ _ _ h=>h) (by kernel_rfl) (HS.out _ b0) ?_ ?_
   rotate_left
   ·rintro w9 ⟨t0,t1,t2,t3,t4⟩;go_simp;try with_reducible rfl
   try simp only[Act.put,qB8]
   refine qc (i:=6) (v:=?_) rfl (by kernel_rfl) (fun _ _ _ _ h=>h) (by kernel_rfl) (HS.out _ b0) ?_ ?_
   rotate_left
   ·rintro w9 ⟨t0,t1,t2,t3,t4⟩;go_simp;try with_reducible rfl
   try simp only[Act.put,qB8]
   refine qc (i:=7) (v:=?_) rfl (by kernel_rfl) (fun _ _ _ _ h=>h) (by kernel_rfl) (HS.out _ b0) ?_ ?_
   rotate_left
   ·rintro w9 ⟨t0,t1,t2,t3,t4⟩;go_simp;try with_reducible rfl
   try simp only[Act.put,qB8]
   refine qc (i:=8) (v:=?_) rfl (by kernel_rfl) (fun _ _ _ _ h=>h) (by kernel_rfl) (HS.out _ b0) ?_ ?_
   rotate_left
   ·rintro w9 ⟨t0,t1,t2,t3,t4⟩;go_simp;try with_reducible rfl
   try simp only[Act.put,qB8]
   refine qc (i:=9) (v:=?_) rfl (by kernel_rfl) (fun _ _ _ _ h=>h) (by kernel_rfl) (HS.out _ b0) ?_ ?_
   rotate_left
   ·rintro w9 ⟨t0,t1,t2,t3,t4⟩;go_simp;try with_reducible rfl
   try simp only[Act.put,qB8]
   refine qc (i:=10) (v:=?_) rfl (by kernel_rfl) (fun _ _ _ _ h=>h) (by kernel_rfl) (HS.out _ b0) ?_ ?_
   rotate_left
   ·rintro w9 ⟨t0,t1,t2,t3,t4⟩;go_simp;try with_reducible rfl
   try simp only[Act.put,qB8]
   refine qc (i:=11) (v:=?_) rfl (by kernel_rfl) (fun _ _ _ _ h=>h) (by kernel_rfl) (HS.out _ b0) ?_ ?_
   rotate_left
   ·rintro w9 ⟨t0,t1,t2,t3,t4⟩;go_simp;try with_reducible rfl
   try simp only[Act.put,qB8]
   refine qc (i:=13) (v:=?_) rfl (by kernel_rfl) (fun _ _ _ _ h=>h) (by kernel_rfl) (HS.out _ b0) ?_ ?_
   rotate_left
   ·rintro w9 ⟨t0,t1,t2,t3,t4⟩;go_simp;try with_reducible rfl
   try simp only[Act.put,qB8]
   refine qr 1 (by kernel_rfl) ?_
   refine qi rfl (by kernel_rfl) fun K hK=>?_
   refine qk 21 _ _ (by rfl) #[.agg #[.int .i64 root,.int .i64 next,.slice pa pn pc]] (by simp[Act.eval]) (Tryz.call21 _ _) (KP.out _ b0) ?_
   rintro e c1 ⟨a6,c6,rfl,o6,bF⟩;have b1:=b0.trans (bF.mono b0.size)
   clear bF;refine⟨_,rfl,hK _ _ (HS.out _ b1) ?_⟩;clear hK K;try simp only[Act.put,qB8]
   refine qr 12 (by kernel_rfl) ?_
   refine qi rfl (by kernel_rfl) fun K hK=>?_
   refine qk 20 _ _ (by rfl) #[.agg #[.int .i64 root,.int .i64 next,.slice a6 pn c6],st key,st val] (by simp[Act.eval]) (Tryz.call20 _ _) (KE.out _ _ _ o6.rd) ?_
   rintro e c2 ⟨rfl,bF⟩;have b2:=b1.trans (bF.mono b1.size)
   clear bF;refine⟨_,rfl,hK _ _ (HS.out _ b2) ?_⟩;clear hK K;try simp only[Act.put,qB8]
   refine qT (by kernel_rfl) ?_
   show wpList _ _ _ _ _ _
   have KN2:=qa (yY c2 err)
   have FIN:=qa (TC.out.to b2).succ
   clear b2 b1 b0 o6 KP KE;have hee:(err != err)=false:=by simp
   go_wp2_with fail
   refine KN2.out.mono ?_;rintro e w7 ⟨rfl,rfl⟩;go_wp2;go_roundw
   case rel=>exact⟨k+1,_,rfl,by omega,by omega,by go_num,⟨t,_,_,FIN.out⟩⟩
   case measure=>simp[intOf];omega
  have hq0:(wh == 0)=false:=by simpa using h0
  go_upto_region 12 with fail
  have KU:Hid (∀ w9,Below wr.heap.size wr w9->Calls Tryz.prog 7 #[.agg #[.int .i64 root,.int .i64 next,.slice pa pn pc],st key] w9 fun e w6=>∃ u ua un9 uc was err,e=.returned (.tuple #[.agg #[.int .i64 u.root,.int .i64 u.next,.slice ua un9 uc],.bool was,.int .i64 err])/\DelB w9.heap.size w6 t key u (.slice ua un9 uc) was err/\Below w9.heap.size w9 w6):=fun w9 b9=>by
   have h9:=qfn w9 t (.slice pa pn pc) key (hB.out.bu.to b9).own.rd hB.out.bu.big hB.out.bu.rwf hkl.out
   dsimp only[tv] at h9;rw[<-hrn.out,<-hnn.out] at h9;exact Calls.mono h9 fun e w6 h=>h.to
  go_cut [10,11,12] from 16 to 129 (fun pp qq ee wx=>∃ (g7:Nat) (u:Tr) (ua:Option Addr) (un9 uc:Nat) (was:Bool) (err:Int),pp=.pointer (some ⟨g7,0,none⟩)/\qq=.bool was/\ee=.int .i64 err/\Hid (Below wr.heap.size wr wx/\wx.heap[g7]?=some (.cells #[.int .i64 u.root,.int .i64 u.next,.slice ua un9 uc] 27 (0,0))/\DelB wr.heap.size wx t key u (.slice ua un9 uc) was err/\wr.heap.size<=g7))
  case first =>
   have HS:=HSF
   have b0:Below wr.heap.size wr wr.drew:=(xm _ _).drew
   refine Ql (fun w9=>w9.cell? ⟨g5,0,none⟩=some (.int .i64 root)/\w9.cell? ⟨g5,1,none⟩=some (.int .i64 next)/\w9.cell? ⟨g5,2,none⟩=some (.slice pa pn pc)/\w9.cell? ⟨sb,so+k*3+1,none⟩=some (st key)/\w9.cell? ⟨sb,so+k*3+2,none⟩=some (st val)) 14 qG (by simp) ?_
   generalize wr.drew=c0 at *;clear A0 A1 A2 AF s0 s1 s2;refine qc (i:=0) (v:=?_) rfl (by kernel_rfl) (fun _ _ _ _ h=>h) (by kernel_rfl) (HS.out _ b0) ?_ ?_
   rotate_left
   ·rintro w9 ⟨t0,t1,t2,t3,t4⟩;go_simp;try with_reducible rfl
   try simp only[Act.put,qB8]
   refine qc (i:=1) (v:=?_) rfl (by kernel_rfl) (fun _ _ _ _ h=>h) (by kernel_rfl) (HS.out _ b0) ?_ ?_
   rotate_left
   ·rintro w9 ⟨t0,t1,t2,t3,t4⟩;go_simp;try with_reducible rfl
   try simp only[Act.put,qB8]
   refine qc (i:=2) (v:=?_) rfl (by kernel_rfl) (fun _ _ _ _ h=>h) (by kernel_rfl) (HS.out _ b0) ?_ ?_
   rotate_left
   ·rintro w9 ⟨t0,t1,t2,t3,t4⟩;go_simp;try with_reducible rfl
   try simp only[Act.put,qB8]
   refine qc (i:=3) (v:=?_) rfl (by kernel_rfl) (fun _ _ _ _ h=>h) (by kernel_rfl) (HS.out _ b0) ?_ ?_
   rotate_left
   ·rintro w9 ⟨t0,t1,t2,t3,t4⟩;go_simp;try with_reducible rfl
   try simp only[Act.put,qB8]
   refine qc (i:=4) (v:=?_) rfl (by kernel_rfl) (fun _ _ _ _ h=>h) (by kernel_rfl) (HS.out _ b0) ?_ ?_
   rotate_left
   ·rintro w9 ⟨t0,t1,t2,t3,t4⟩;go_simp;try with_reducible rfl
   try simp only[Act.put,qB8]
   refine qc (i:=5) (v:=?_) rfl (by kernel_rfl) (fun _ _ _ _ h=>h) (by kernel_rfl) (HS.out _ b0) ?_ ?_
   rotate_left
   ·rintro w9 ⟨t0,t1,t2,t3,t4⟩;go_simp;try with_reducible rfl
   try simp only[Act.put,qB8]
   refine zM 6 11 (by kernel_rfl) ?_ ?_
   ·
    refine qi rfl (by kernel_rfl) fun K hK=>?_
    refine qk 7 _ _ (by rfl) #[.agg #[.int .i64 root,.int .i64 next,.slice pa pn pc],st key] (by simp[Act.eval]) (Tryz.call7 _ _) (KU.out _ b0) ?_
    rintro e c2 ⟨u,ua,un9,uc,was,err,rfl,pB,bF⟩;have b2:=b0.trans (bF.mono b0.size)
    replace pB:=pB.base (B:=wr.heap.size) b0.size;clear bF;refine⟨_,rfl,hK _ _ (HS.out _ b2) ?_⟩;clear hK K;try simp only[Act.put,qB8]
    refine qc (i:=7) (v:=?_) rfl (by kernel_rfl) (fun _ _ _ _ h=>h) (by kernel_rfl) (HS.out _ b2) ?_ ?_
    rotate_left
    ·rintro w9 ⟨t0,t1,t2,t3,t4⟩;go_simp;try with_reducible rfl
    try simp only[Act.put,qB8]
    refine qc (i:=8) (v:=?_) rfl (by kernel_rfl) (fun _ _ _ _ h=>h) (by kernel_rfl) (HS.out _ b2) ?_ ?_
    rotate_left
    ·rintro w9 ⟨t0,t1,t2,t3,t4⟩;go_simp;try with_reducible rfl
    try simp only[Act.put,qB8]
    refine qc (i:=9) (v:=?_) rfl (by kernel_rfl) (fun _ _ _ _ h=>h) (by kernel_rfl) (HS.out _ b2) ?_ ?_
    rotate_left
    ·rintro w9 ⟨t0,t1,t2,t3,t4⟩;go_simp;try with_reducible rfl
    try simp only[Act.put,qB8]
    refine qc (i:=10) (v:=?_) rfl (by kernel_rfl) (fun _ _ _ _ h=>h) (by kernel_rfl) (HS.out _ b2) ?_ ?_
    rotate_left
    ·rintro w9 ⟨t0,t1,t2,t3,t4⟩;go_simp;try with_reducible rfl
    try simp only[Act.put,qB8]
    refine qr 11 (by kernel_rfl) ?_
    refine qi rfl (by kernel_rfl) fun K hK=>?_
    go_simp;obtain⟨c3,hc,h7,bc,sc⟩:=qf c2 #[.int .i64 0,.int .i64 0,.slice none 0 0] 27;rw[<-hc];have b3:=b2.trans (bc.mono b2.size)
    obtain⟨g7,hg⟩:∃ g,g=c2.heap.size:=⟨_,rfl⟩;rw[<-hg] at h7;rw[<-hg];have lg7:wr.heap.size<=g7:=by have:=b2.size;omega
    replace pB:=pB.to bc;refine hK _ _ (HS.out _ b3) ?_;clear hK K hc bc sc hg;try simp only[Act.put,qB8]
    refine qr 12 (by kernel_rfl) ?_
    have y9:=ql h7
    obtain⟨⟨y0,y1,y2⟩,yF⟩:=y9;refine qi rfl (by kernel_rfl) fun K hK=>?_
    go_simp;obtain⟨d1,hd⟩:∃ d,d=((c3.setCell ⟨g7,0,none⟩ (.int .i64 u.root)).setCell ⟨g7,1,none⟩ (.int .i64 u.next)).setCell ⟨g7,2,none⟩ (.slice ua un9 uc):=⟨_,rfl⟩
    rw[<-hd];have e1:Below wr.heap.size wr d1:=by rw[hd];exact qD b3 lg7 _ _ _
    have i7:d1.heap[g7]?=some (.cells #[(.int .i64 u.root),(.int .i64 u.next),(.slice ua un9 uc)] 27 (0,0)):=by rw[hd];exact qK h7 _ _ _
    have kd:=fun e (he:e≠27)=>QM h7 (.int .i64 u.root) (.int .i64 u.next) (.slice ua un9 uc) he
    rw[<-hd] at kd;have pD:=pB.keep kd
    refine hK _ _ (HS.out _ e1) ?_;clear hK K y0 y1 y2 yF hd kd;try simp only[Act.put,qB8]
    refine qc (i:=13) (v:=?_) rfl (by kernel_rfl) (fun _ _ _ _ h=>h) (by kernel_rfl) (HS.out _ e1) ?_ ?_
    rotate_left
    ·rintro w9 ⟨t0,t1,t2,t3,t4⟩;go_simp;try with_reducible rfl
    try simp only[Act.put,qB8]
    refine qT (by kernel_rfl) ?_
    show wpList _ _ _ _ _ _
    have FIN:=qa (xb e1 (xb i7 (xb pD lg7)))
    clear e1 i7 pD pB lg7 h7
    go_wp2_with fail
    go_meet
    exact⟨g7,u,_,_,_,was,err,rfl,rfl,rfl,FIN⟩
   
   refine qi rfl (by kernel_rfl) fun K hK=>?_
   go_simp;obtain⟨c2,hc,h7,bc,sc⟩:=qf c0 #[.int .i64 0,.int .i64 0,.slice none 0 0] 27;rw[<-hc];have b2:=b0.trans (bc.mono b0.size)
   obtain⟨g7,hg⟩:∃ g,g=c0.heap.size:=⟨_,rfl⟩;rw[<-hg] at h7;rw[<-hg];have lg7:wr.heap.size<=g7:=by have:=b0.size;omega
   refine hK _ _ (HS.out _ b2) ?_;clear hK K hc bc sc hg;try simp only[Act.put,qB8]
   refine qr 6 (by kernel_rfl) ?_
   refine qi rfl (by kernel_rfl) fun K hK=>?_
   refine qk 7 _ _ (by rfl) #[.agg #[.int .i64 root,.int .i64 next,.slice pa pn pc],st key] (by simp[Act.eval]) (Tryz.call7 _ _) (KU.out _ b2) ?_
   rintro e c3 ⟨u,ua,un9,uc,was,err,rfl,pB,bF⟩;have b3:=b2.trans (bF.mono b2.size)
   replace pB:=pB.base (B:=wr.heap.size) b2.size;replace h7:=(bF.block _ (xa h7)).trans h7;clear bF;refine⟨_,rfl,hK _ _ (HS.out _ b3) ?_⟩;clear hK K;try simp only[Act.put,qB8]
   refine qc (i:=7) (v:=?_) rfl (by kernel_rfl) (fun _ _ _ _ h=>h) (by kernel_rfl) (HS.out _ b3) ?_ ?_
   rotate_left
   ·rintro w9 ⟨t0,t1,t2,t3,t4⟩;go_simp;try with_reducible rfl
   try simp only[Act.put,qB8]
   refine qc (i:=8) (v:=?_) rfl (by kernel_rfl) (fun _ _ _ _ h=>h) (by kernel_rfl) (HS.out _ b3) ?_ ?_
   rotate_left
   ·rintro w9 ⟨t0,t1,t2,t3,t4⟩;go_simp;try with_reducible rfl
   try simp only[Act.put,qB8]
   refine qc (i:=9) (v:=?_) rfl (by kernel_rfl) (fun _ _ _ _ h=>h) (by kernel_rfl) (HS.out _ b3) ?_ ?_
   rotate_left
   ·rintro w9 ⟨t0,t1,t2,t3,t4⟩;go_simp;try with_reducible rfl
   try simp only[Act.put,qB8]
   refine qc (i:=10) (v:=?_) rfl (by kernel_rfl) (fun _ _ _ _ h=>h) (by kernel_rfl) (HS.out _ b3) ?_ ?_
   rotate_left
   ·rintro w9 ⟨t0,t1,t2,t3,t4⟩;go_simp;try with_reducible rfl
   try simp only[Act.put,qB8]
   refine qr 12 (by kernel_rfl) ?_
   have y9:=ql h7
   obtain⟨⟨y0,y1,y2⟩,yF⟩:=y9;refine qi rfl (by kernel_rfl) fun K hK=>?_
   go_simp;obtain⟨d1,hd⟩:∃ d,d=((c3.setCell ⟨g7,0,none⟩ (.int .i64 u.root)).setCell ⟨g7,1,none⟩ (.int .i64 u.next)).setCell ⟨g7,2,none⟩ (.slice ua un9 uc):=⟨_,rfl⟩
   rw[<-hd];have e1:Below wr.heap.size wr d1:=by rw[hd];exact qD b3 lg7 _ _ _
   have i7:d1.heap[g7]?=some (.cells #[(.int .i64 u.root),(.int .i64 u.next),(.slice ua un9 uc)] 27 (0,0)):=by rw[hd];exact qK h7 _ _ _
   have kd:=fun e (he:e≠27)=>QM h7 (.int .i64 u.root) (.int .i64 u.next) (.slice ua un9 uc) he
   rw[<-hd] at kd;have pD:=pB.keep kd
   refine hK _ _ (HS.out _ e1) ?_;clear hK K y0 y1 y2 yF hd kd;try simp only[Act.put,qB8]
   refine qc (i:=13) (v:=?_) rfl (by kernel_rfl) (fun _ _ _ _ h=>h) (by kernel_rfl) (HS.out _ e1) ?_ ?_
   rotate_left
   ·rintro w9 ⟨t0,t1,t2,t3,t4⟩;go_simp;try with_reducible rfl
   try simp only[Act.put,qB8]
   refine qT (by kernel_rfl) ?_
   show wpList _ _ _ _ _ _
   have FIN:=qa (xb e1 (xb i7 (xb pD lg7)))
   clear e1 i7 pD pB lg7 h7
   go_wp2_with fail
   go_meet
   exact⟨g7,u,_,_,_,was,err,rfl,rfl,rfl,FIN⟩
  case rest =>
  obtain⟨g7,u,ua,un9,uc,was,err,rfl,rfl,rfl,hC⟩:=hcut;have TC:=qa (hB.out.to hC.out.1)
  have hwl:=(zI hB.out.bu.prs).2.1
  have KW:=qa (qqb wc wv want key (OwnP.rd TC.out.bu.wnt) (by omega))
  obtain⟨IS,hIS⟩:∃ b,b=ZS want key:=⟨_,rfl⟩;rw[<-hIS] at KW;replace hIS:=qa hIS;clear A0 A1 A2 AF s0 s1 s2 KU hwl;obtain⟨_,_,_,s1,s2⟩:=HSF.out wc hC.out.1
  go_wp2_with fail
  refine KW.out.mono ?_;rintro e w4 ⟨v4,rfl,o4,b4⟩;have T4:=qa (TC.out.to b4)
  have G7:=qa ((b4.block _ (xa hC.out.2.1)).trans hC.out.2.1)
  have KN:=qa (yY w4 err)
  clear s1 s2;obtain⟨_,_,_,s1,s2⟩:=HSF.out w4 (hC.out.1.trans (b4.mono hC.out.1.size));have O4:=qa o4
  have B4:=qa b4
  clear o4 b4 KW
  go_wp2_with fail
  refine KN.out.mono ?_;rintro e w5 ⟨rfl,rfl⟩;by_cases herr:err=0
  ·subst herr;rcases hC.out.2.2.1 with ⟨q,_⟩|⟨_,q2,q3,ps,q4,q5,q6⟩
   ·exact absurd rfl q
   obtain rfl:ps=want:=k9 (q4.symm.trans hB.out.bu.prs);obtain rfl:was=IS:=q5.trans hIS.out.symm;have hbb:(was != was)=false:=by simp
   have FIN:=qa (T4.out.put hg5.out q6 (OwnPg.base (q3.to9 B4.out) hB.out.bel.size) (QA O4.out TC.out.bel.size) (by have:=Yh key ps;omega))
   obtain⟨⟨J0,J1,J2⟩,JF⟩:=ql T4.out.tb;obtain⟨⟨U0,U1,U2⟩,_⟩:=ql G7.out;replace q2:=qa q2;replace q5:=qa q5;clear q3 q4 q6 KN s1 s2;go_wp2;go_roundw
   case rel=>exact⟨k+1,_,rfl,by omega,by omega,by go_num,⟨u,_,_,FIN.out⟩⟩
   case measure=>simp[intOf];omega
  have hne:(err != 0)=true:=by simpa using herr
  have htk:ZR key=false:=by
   rcases hC.out.2.2.1 with ⟨_,q⟩|⟨q,_⟩
   ·rcases q with q|q|q
    ·rw[hB.out.bu.prs] at q;cases q
    ·exact q
    exfalso;have:=hn16.out;omega
   exact absurd q herr
  have htl:¬ (1<=key.length/\key.length<=32):=by unfold ZR at htk;exact of_decide_eq_false htk
  have FIN:=qa T4.out.succ
  replace herr:=qa herr;replace htk:=qa htk;by_cases k1:1<=key.length
  ·have k1':(key.length:Int)>=1:=by omega
   have k2':¬ (key.length:Int)<=32:=by omega
   replace htl:=qa htl;go_wp2;go_roundw
   case rel=>exact⟨k+1,_,rfl,by omega,by omega,by go_num,⟨t,_,_,FIN.out⟩⟩
   case measure=>simp[intOf];omega
  have k1':¬ (key.length:Int)>=1:=by omega
  replace htl:=qa htl;go_wp2;go_roundw
  case rel=>exact⟨k+1,_,rfl,by omega,by omega,by go_num,⟨t,_,_,FIN.out⟩⟩
  case measure=>simp[intOf];omega
 have hz:¬ k<L\/(k<L/\¬ k<400):=by omega
 have HRB:=qa hB.out.rb
 obtain⟨⟨J0,J1,J2⟩,JF⟩:=ql HRB.out;have ks:=fun e (he:e≠27)=>QM HRB.out (.int .i64 root) (.int .i64 next) (.slice pa pn pc) he
 have FIN:=qa (xb ((hB.out.bu.keep ks).more hk4) (qD hB.out.bel (xc _) (.int .i64 root) (.int .i64 next) (.slice pa pn pc)))
 clear ks hI;rcases hz with hz|⟨hz,hz4⟩
 ·have hq:¬ (k:Int)<(L:Int):=by omega
  go_wp2;refine ZI rfl rfl w.heap.size rfl _ _ (0,0) (qK HRB.out _ _ _) _ Xt rfl zi _ rfl _ rfl ?_;exact⟨t,.slice pa pn pc,want,wv,by rw[hrn.out,hnn.out];rfl,FIN.out.1,FIN.out.2⟩
 have hq:(k:Int)<(L:Int):=by omega
 have hq4:¬ (k:Int)<400:=by omega
 go_wp2;refine ZI rfl rfl w.heap.size rfl _ _ (0,0) (qK HRB.out _ _ _) _ Xt rfl zi _ rfl _ rfl ?_;exact⟨t,.slice pa pn pc,want,wv,by rw[hrn.out,hnn.out];rfl,FIN.out.1,FIN.out.2⟩
end Go.Proofs.YtfjadfnjmpefkaaGreat
namespace Go.Proofs.YtfjadfnjmpefkaaGreat.topSwap
variable {d:Dsk} {err:Int} {had want:List Pr} {B gD gT gU:Nat} {k:Str} {t u u':Tr} {hv pv pvT pvU s wv:Value} {c w wr wr':World}
open Go.ChangeShapes Go.WideShapes Go.ChangeAt Go.RowKit
structure SwL (w wr:World) (gT gU:Nat) (t u:Tr) (pvT pvU hv:Value) (had:List Pr):Prop where
 bT:wr.heap[gT]?=some (.cells #[.int .i64 t.root,.int .i64 t.next,pvT] 27 (0,0))
 bU:wr.heap[gU]?=some (.cells #[.int .i64 u.root,.int .i64 u.next,pvU] 27 (0,0))
 oT:OwnPg w.heap.size wr pvT t.pages
 oU:OwnPg w.heap.size wr pvU u.pages
 oH:OwnP w.heap.size wr hv had
 pT:QR t=some had
 pU:∃ ps,QR u=some ps
 sT:Seq t
 sU:Seq u
 sm:∀ x∈u.pages,x.2.length<=244
 ext:∃ more,u.pages=t.pages++more
 bel:Below w.heap.size w wr
 ne:w.heap.size<=gT/\w.heap.size<=gU/\gT≠gU
theorem SwL.to (h:SwL w wr gT gU t u pvT pvU hv had) (b:Below wr.heap.size wr wr'):SwL w wr' gT gU t u pvT pvU hv had :=
 ⟨(b.block _ (xa h.bT)).trans h.bT,(b.block _ (xa h.bU)).trans h.bU,h.oT.to9 b,h.oU.to9 b,qB h.oH b,h.pT,h.pU,h.sT,h.sU,h.sm,h.ext,h.bel.trans (b.mono h.bel.size),h.ne⟩
theorem SwL.rwf (h:SwL w wr gT gU t u pvT pvU hv had):(Lit.int .i64 u.root).wf=true:=by
 obtain⟨q,hq⟩:=h.pU;exact(zI hq).1.rwf
theorem SwL.big (h:SwL w wr gT gU t u pvT pvU hv had):∀ x∈u.pages,x.2.length<=140737488351232:=fun x hx=>by have:=h.sm x hx;omega
def SwCB (B:Nat) (c:World) (u u':Tr) (pv:Value) (err:Int):Prop:=err≠0\/(err=0/\OwnPg B c pv u'.pages/\∃ ps,Chg u u' ps)
theorem SwCB.put {v:Str} (h:PutB B c t k v u pv err):SwCB B c t u pv err:=by
 rcases h with ⟨h,_⟩|⟨h1,_,h2,ps,_,h3⟩
 ·exact .inl h
 exact .inr ⟨h1,h2,_,h3⟩
theorem SwCB.del {was:Bool} (h:DelB B c t k u pv was err):SwCB B c t u pv err:=by
 rcases h with ⟨h,_⟩|⟨h1,_,h2,ps,_,_,h3⟩
 ·exact .inl h
 exact .inr ⟨h1,h2,_,h3⟩
theorem SwCB.keep {c':World} (h:SwCB B c t u pv err) (k1:∀ e,e≠27->KeepT e c c'):SwCB B c' t u pv err:=by
 rcases h with h|⟨h1,h2,h3⟩
 ·exact .inl h
 exact .inr ⟨h1,OwnX.keepT h2 (k1 _ (by decide)) (k1 _ (by decide)),h3⟩
theorem SwCB.base {C:Nat} (h:SwCB C c t u pv err) (hb:B<=C):SwCB B c t u pv err:=by
 rcases h with h|⟨h1,h2,h3⟩
 ·exact .inl h
 exact .inr ⟨h1,h2.base hb,h3⟩
theorem SwL.put {pvU':Value} (h:SwL w c gT gU t u pvT pvU hv had) {ps:List Pr} (hC:Chg u u' ps) (o:OwnPg w.heap.size c pvU' u'.pages) :
 SwL w (((c.setCell ⟨gU,0,none⟩ (.int .i64 u'.root)).setCell ⟨gU,1,none⟩ (.int .i64 u'.next)).setCell ⟨gU,2,none⟩ pvU') gT gU t u' pvT pvU' hv had:=by
 have kk:=fun e (he:e≠27)=>QM h.bU (.int .i64 u'.root) (.int .i64 u'.next) pvU' he
 obtain⟨n1,n2,n3⟩:=h.ne;obtain⟨more,e,_,h2⟩:=hC.pgs;obtain⟨m0,e0⟩:=h.ext;refine⟨(xd _ _ _ _ n3).trans ((xd _ _ _ _ n3).trans ((xd _ _ _ _ n3).trans h.bT)),qK h.bU _ _ _,OwnX.keepT h.oT (kk _ (by decide)) (kk _ (by decide)),OwnX.keepT o (kk _ (by decide)) (kk _ (by decide)),qs h.oH (kk _ (by decide)),h.pT,⟨_,hC.prs⟩,h.sT,hC.seq h.sU,?_,⟨m0++more,by rw[e,e0,xz]⟩,qD h.bel n2 _ _ _,h.ne⟩
 intro x hx;rw[e,xu] at hx;rcases hx with hx|hx
 ·exact h.sm x hx
 exact h2 x hx
structure SwP (w wx:World) (gT gU g18:Nat) (t u u':Tr) (pvT pvU pv' hv:Value) (had:List Pr) (err:Int):Prop where
 sl:SwL w wx gT gU t u pvT pvU hv had
 b8:wx.heap[g18]?=some (.cells #[.int .i64 u'.root,.int .i64 u'.next,pv'] 27 (0,0))
 cb:SwCB w.heap.size wx u u' pv' err
theorem SwP.mk' {g18:Nat} {pv' a b d:Value} (h:SwL w wr gT gU t u pvT pvU hv had) (b8:wr.heap[g18]?=some (.cells #[a,b,d] 27 (0,0))) (b0:Below wr.heap.size wr c) (hg:gT≠g18/\gU≠g18/\w.heap.size<=g18) (cb:SwCB wr.heap.size c u u' pv' err) :
 SwP w (((c.setCell ⟨g18,0,none⟩ (.int .i64 u'.root)).setCell ⟨g18,1,none⟩ (.int .i64 u'.next)).setCell ⟨g18,2,none⟩ pv') gT gU g18 t u u' pvT pvU pv' hv had err:=by
 have h1:=h.to b0
 have b9:=(b0.block _ (xa b8)).trans b8
 have kk:=fun e (he:e≠27)=>QM b9 (.int .i64 u'.root) (.int .i64 u'.next) pv' he
 obtain⟨n1,n2,n3⟩:=hg;exact⟨⟨(xd _ _ _ _ n1).trans ((xd _ _ _ _ n1).trans ((xd _ _ _ _ n1).trans h1.bT)),(xd _ _ _ _ n2).trans ((xd _ _ _ _ n2).trans ((xd _ _ _ _ n2).trans h1.bU)),OwnX.keepT h1.oT (kk _ (by decide)) (kk _ (by decide)),OwnX.keepT h1.oU (kk _ (by decide)) (kk _ (by decide)),qs h1.oH (kk _ (by decide)),h1.pT,h1.pU,h1.sT,h1.sU,h1.sm,h1.ext,qD h1.bel n3 _ _ _,h1.ne⟩,qK b9 _ _ _,(cb.base h.bel.size).keep kk⟩
structure SwM (w wr:World) (gT gU gD:Nat) (t u:Tr) (pvT pvU hv wv:Value) (had want:List Pr) (d:Dsk) (s c:Value):Prop where
 sl:SwL w wr gT gU t u pvT pvU hv had
 oW:OwnP w.heap.size wr wv want
 bx:DBx gD wr d s c
 ne:gT≠gD/\gU≠gD/\w.heap.size<=gD
theorem SwM.to {c:Value} (h:SwM w wr gT gU gD t u pvT pvU hv wv had want d s c) (b:Below wr.heap.size wr wr'):SwM w wr' gT gU gD t u pvT pvU hv wv had want d s c :=
 ⟨h.sl.to b,qB h.oW b,h.bx.to b,h.ne⟩
theorem SwM.over {wx:World} {d':Dsk} {c s' c':Value} (h:SwM w wr gT gU gD t u pvT pvU hv wv had want d s c) (b:Below wr.heap.size wr wx) (o:(s'=s/\c'=c/\d'=d)\/Own Zd wr.heap.size wx [s',c'] d'):SwM w ((wx.setCell ⟨gD,0,none⟩ s').setCell ⟨gD,1,none⟩ c') gT gU gD t u pvT pvU hv wv had want d' s' c':=by
 have h1:=h.to b
 have kk:=h1.bx.keep s' c'
 obtain⟨n1,n2,n3⟩:=h.ne;exact⟨⟨(xd _ _ _ _ n1).trans ((xd _ _ _ _ n1).trans h1.sl.bT),(xd _ _ _ _ n2).trans ((xd _ _ _ _ n2).trans h1.sl.bU),OwnX.keepT h1.sl.oT (kk _ (by decide)) (kk _ (by decide)),OwnX.keepT h1.sl.oU (kk _ (by decide)) (kk _ (by decide)),qs h1.sl.oH (kk _ (by decide)),h1.sl.pT,h1.sl.pU,h1.sl.sT,h1.sl.sU,h1.sl.sm,h1.sl.ext,qF h1.sl.bel n3 _ _,h1.sl.ne⟩,qs h1.oW (kk _ (by decide)),h.bx.over b o,h.ne⟩
theorem qpm {N:Nat} {a b:List UInt8} {xs:List (List UInt8)} (h:Hv d N a b xs) (hc:d.2=[]) (m:Nat):Hv d N a b (xs.take m):=h.same h.ok h.n hc h.s0 h.s1 fun _ _ _ _=>rfl
theorem qd1 (h:∃ more,u.pages=t.pages++more):(u.pages.map (·.2)).take t.pages.length=t.pages.map (·.2):=by
 obtain⟨m,e⟩:=h;rw[e,Xj,Xo (by simp)]
theorem qm5 {α : Type} {s:Shp α} {a:Option Addr} {n cap:Nat} {l:List α} (h:RdS s w (.slice a n cap) l) {k:Nat} (hk:k<=n):RdS s w (.slice a k cap) (l.take k):=by
 obtain⟨ao,c,e,h1,h2,h3,h4⟩:=h;simp only[xH] at e;obtain⟨rfl,e2,rfl⟩:=e;have hl:(l.take k).length=k:=by rw[xp];omega
 refine⟨a,cap,by rw[hl],by rw[hl];omega,h2,h3,?_⟩
 rcases h4 with rfl|⟨b,off,rfl,hc⟩
 ·left;simp
 right
 refine⟨b,off,rfl,fun i x hx=>hc i x ?_⟩;rw[xP] at hx
 split at hx
 ·exact hx
 cases hx
theorem qs8 (w:World) (a0:Option Addr) (len0 cap0:Nat) (ls:List Sp3) (g0:SSteps10.rd w [.slice a0 len0 cap0] ls) (m0:ls.length*40<=140737488351232/\∀ x∈ls,vd x) (a1:Option Addr) (len1 cap1:Nat) (ms:List Sp3) (g1:SSteps10.rd w [.slice a1 len1 cap1] ms) (m1:ms.length*40<=140737488351232/\∀ x∈ms,vd x)
 (av:Int) (hav:(Lit.int .i64 av).wf=true) (a3:Option Addr) (len3 cap3:Nat) (ks:List Bool) (g3:SKeep.rd w [.slice a3 len3 cap3] ks) (m3:ks.length*1<=140737488351232/\∀ x∈ks,True) (tv5:Int) (htv:(Lit.int .i64 tv5).wf=true) (cv6:Int) (hcv:(Lit.int .i64 cv6).wf=true) :
 Calls Tryz.prog 3 #[.slice a0 len0 cap0,.slice a1 len1 cap1,.int .i64 av,.slice a3 len3 cap3,.int .i64 tv5,.int .i64 cv6] w fun e w'=>e=.returned (.bool true)/\Below w.heap.size w w':=by
 obtain⟨v0,e0,R0⟩:=g0;obtain rfl:v0=.slice a0 len0 cap0:=by simpa using e0.symm
 obtain⟨v1,e1,R1⟩:=g1;obtain rfl:v1=.slice a1 len1 cap1:=by simpa using e1.symm
 obtain⟨v3,e3,R3⟩:=g3;obtain rfl:v3=.slice a3 len3 cap3:=by simpa using e3.symm
 have HF0:=qa m0.2
 have HF1:=qa m1.2
 have HR0:=qa R0
 have HR1:=qa R1
 have HR3:=qa R3
 obtain⟨a0',c0',h0'⟩:=R0.slice;simp only[xH] at h0';obtain⟨rfl,hM0,rfl⟩:=h0';obtain⟨a1',c1',h1'⟩:=R1.slice;simp only[xH] at h1';obtain⟨rfl,hM1,rfl⟩:=h1';have lb0:len0<=cap0:=by obtain⟨_,_,e,l1,_⟩:=R0;simp only[xH] at e;omega
 have lb1:len1<=140737488355328:=by have:=m1.1;omega
 replace hM0:=qa hM0;replace hM1:=qa hM1;have HAV:=qa hav
 clear e0 e1 e3 m0 m1 m3 R0 R1 R3 htv hcv hav;have KA:=qa (qfa w)
 go_enter Tryz.func3,Tryz.ntmps3
 go_wp2_with fail
 refine KA.out.mono ?_;rintro e w1 ⟨rfl,b1⟩;have B1:=qa b1
 clear KA b1
 go_upto_if 34 with fail
 go_cut [0] from 34 to 36 (fun v wx=>w1=wx/\∃ (n9:Nat) (lt:List Sp3),v=.slice a0 n9 cap0/\Hid (qr1 w (.slice a0 n9 cap0) lt/\∀ x∈lt,vd x))
 case first =>
  by_cases hb:(25:Int)<(len0:Int)
  ·have h25:(25:Int)<=(cap0:Int):=by omega
   go_wp2_with fail
   go_meet
   exact⟨rfl,25,ls.take 25,rfl,qa ⟨qm5 HR0.out (by omega),fun x hx=>HF0.out x (Ke hx)⟩⟩
  go_wp2_with fail
  go_meet
  exact⟨rfl,_,ls,rfl,qa ⟨HR0.out,HF0.out⟩⟩
 case rest =>
 obtain⟨rfl,n9,lt,rfl,hLT⟩:=hcut;have KB:=qa (qgz w1 (.slice a0 n9 cap0) lt (hLT.out.1.to0 B1.out) hLT.out.2)
 go_wp2_with fail
 refine KB.out.mono ?_;rintro e w2 ⟨t,pvT,had,hv,rfl,hbu,b2⟩;obtain⟨ta,tc,rfl⟩:=hbu.own.shape;obtain⟨ha,hc,rfl⟩:=(OwnP.rd hbu.wnt).slice;dsimp only[tv];obtain⟨TL,hTL⟩:∃ L,L=t.pages.length:=⟨_,rfl⟩;obtain⟨HL,hHL⟩:∃ L,L=had.length:=⟨_,rfl⟩;rw[<-hTL,<-hHL];rw[<-hTL] at hbu;rw[<-hHL] at hbu;obtain⟨Y1,hY1,DY1,bY1,sY1⟩:=qf w2 #[.int .i64 t.root,.int .i64 t.next,.slice ta TL tc] 27
 obtain⟨Y2,hY2,DY2,bY2,sY2⟩:=qf Y1 #[.int .i64 t.root,.int .i64 t.next,.slice ta TL tc] 27
 have B2:=B1.out.trans (b2.mono B1.out.size)
 have hS0:Hid (SwL w Y2 w2.heap.size (w2.heap.size+1) t t (.slice ta TL tc) (.slice ta TL tc) (.slice ha HL hc) had):=by
  rw[sY1] at DY2;have b12:=bY1.trans (bY2.mono bY1.size)
  have bs:=B2.size
  exact⟨(bY2.block _ (by omega)).trans DY1,DY2,(hbu.own.to9 b12).base B1.out.size,(hbu.own.to9 b12).base B1.out.size,qB (Qt hbu.wnt (fun b hb=>xi B1.out.size (xo hbu.wnt b hb).1)) b12,hbu.prs,⟨_,hbu.prs⟩,hbu.seq,hbu.seq,hbu.sml,⟨[],by simp⟩,B2.trans (b12.mono B2.size),by omega,by omega,by omega⟩
 replace hTL:=qa hTL;replace hHL:=qa hHL;clear KB hbu b2 DY1 bY1 sY1 DY2 bY2 sY2 B2
 go_upto_region 7 with fail
 rw[<-hY1,<-hY2];replace hY1:=qa hY1;replace hY2:=qa hY2;generalize w2.heap.size=gT at *;obtain⟨gU,hgU⟩:∃ g,g=gT+1:=⟨_,rfl⟩;rw[<-hgU] at hS0;rw[<-hgU];clear hgU;go_wp2
 go_loopw [17] (fun p wr=>∃ (k:Nat) (u:Tr) (pvU:Value),k<=len1/\p=.int .i64 k/\Hid (SwL w wr gT gU t u (.slice ta TL tc) pvU (.slice ha HL hc) had)) (fun p _=>len1-(intOf p).toNat)
 case atStart=>exact⟨0,t,_,xt _,rfl,hS0⟩
 case round =>
 obtain⟨k,u,pvU,hk,rfl,hI⟩:=hrel;obtain⟨ua,uc,hpu⟩:=hI.out.oU.shape;obtain⟨UL,hUL⟩:∃ L,L=u.pages.length:=⟨_,rfl⟩;rw[<-hUL] at hpu;replace hUL:=qa hUL;subst hpu
 go_upto_region 8 with fail
 go_cut [51] from 44 to 50 (fun v wx=>v=.bool (decide ((k:Int)<(len1:Int)/\(k:Int)<6))/\wr=wx)
 case first =>
  by_cases q1:(k:Int)<(len1:Int)
  ·by_cases q2:(k:Int)<6
   ·go_wp2_with fail
    go_meet
    exact⟨(by rw[xv (show (k:Int)<(len1:Int)/\(k:Int)<6 by omega)]<;>first|rfl|simp|(simp;omega)),rfl⟩
   go_wp2_with fail
   go_meet
   exact⟨(by rw[xw (show ¬ ((k:Int)<(len1:Int)/\(k:Int)<6) by omega)]<;>first|rfl|simp|(simp;omega)),rfl⟩
  go_wp2_with fail
  go_meet
  exact⟨(by rw[xw (show ¬ ((k:Int)<(len1:Int)/\(k:Int)<6) by omega)];first|done|rfl|simp|(simp;omega)),rfl⟩
 case rest =>
 obtain⟨rfl,rfl⟩:=hcut;by_cases hgo:(k:Int)<(len1:Int)/\(k:Int)<6
 ·rw[xv hgo];obtain⟨g1,g2⟩:=hgo;obtain⟨y,hy⟩:=qz ms (k:=k) (by rw[<-hM1.out];omega)
  have hfy:=HF1.out y (xQ hy)
  obtain⟨wh,key,val⟩:=y;have hkl:Hid (key.length<=9223372036854775807):=hfy.2.1
  obtain⟨X,hX,DX,bX,sX⟩:=qf wr #[.int .i64 u.root,.int .i64 u.next,.slice ua UL uc] 27
  obtain⟨⟨U0,U1,U2⟩,_⟩:=ql hI.out.bU;have IX:=qa (hI.out.to bX)
  obtain⟨sb,so,rfl,c0,c1,c2⟩:=(HR1.out.to0 IX.out.bel).spAt hy;dsimp only at c0 c1 c2;have hcw:=(HR1.out).spAt hy
  have hgW:Hid (gU<wr.heap.size/\sb<wr.heap.size/\gT<wr.heap.size):=by
   have l1:=xa hI.out.bT
   have l2:=xa hI.out.bU
   have l3:=hI.out.bel.size
   obtain⟨b9,o9,e9,_,z9,_⟩:=hcw;have:=qe z9
   simp only[xr,XO,XS] at e9;exact⟨l2,by rw[e9.1];omega,l1⟩
  clear hcw;have HX:=qa DX
  have hgX:Hid (gT≠wr.heap.size/\gU≠wr.heap.size/\w.heap.size<=wr.heap.size):=by
   have l1:=xa hI.out.bT
   have l2:=xa hI.out.bU
   have l3:=hI.out.bel.size
   exact⟨by omega,by omega,l3⟩
  clear DX bX sX hy hfy
  go_upto_region 11 with fail
  rw[<-hX];replace hX:=qa hX;generalize wr.heap.size=g18 at *;clear U0 U1 U2;obtain⟨⟨U0,U1,U2⟩,_⟩:=ql IX.out.bU
  go_upto_if 60 with fail
  go_cut [19] from 60 to 86 (fun v wx=>∃ (err:Int) (u':Tr) (a':Option Addr) (n' c':Nat),v=.int .i64 err/\Hid (SwP w wx gT gU g18 t u u' (.slice ta TL tc) (.slice ua UL uc) (.slice a' n' c') (.slice ha HL hc) had err))
  case first =>
   have bd:Below X.heap.size X X.drew:=qg X 1 _
   have ID:=qa (IX.out.to bd)
   have d0:=(bd.cell (qe U0)).trans U0
   have d1:=(bd.cell (qe U1)).trans U1
   have d2:=(bd.cell (qe U2)).trans U2
   have e1:=(bd.cell (qe c1)).trans c1
   have e2:=(bd.cell (qe c2)).trans c2
   have HBD:=qa bd
   have hgS:Hid (g18<=X.heap.size):=by have:=xa HX.out;show _<=_;omega
   have HSF:Hid (∀ cw,Below g18 X cw->cw.cell? ⟨gU,0,none⟩=some (.int .i64 u.root)/\cw.cell? ⟨gU,1,none⟩=some (.int .i64 u.next)/\cw.cell? ⟨gU,2,none⟩=some (.slice ua UL uc)/\cw.cell? ⟨sb,so+k*3+1,none⟩=some (st key)/\cw.cell? ⟨sb,so+k*3+2,none⟩=some (st val)):=fun cw hb=>by
    obtain⟨z1,z2,z3⟩:=hgW.out;exact⟨(hb.cell (p:=⟨gU,0,none⟩) z1).trans U0,(hb.cell (p:=⟨gU,1,none⟩) z1).trans U1,(hb.cell (p:=⟨gU,2,none⟩) z1).trans U2,(hb.cell (p:=⟨sb,so+k*3+1,none⟩) z2).trans c1,(hb.cell (p:=⟨sb,so+k*3+2,none⟩) z2).trans c2⟩
   by_cases hw0:wh=0
   ·subst hw0
    have KP:Hid (Calls Tryz.prog 6 #[.agg #[.int .i64 u.root,.int .i64 u.next,.slice ua UL uc],st key,st val] X.drew fun e w'=>∃ u' a' n' c' err,e=.returned (.tuple #[.agg #[.int .i64 u'.root,.int .i64 u'.next,.slice a' n' c'],.int .i64 err])/\PutB X.drew.heap.size w' u key val u' (.slice a' n' c') err/\Below X.drew.heap.size X.drew w') :=
     (qft X.drew u (.slice ua UL uc) key val ID.out.oU.rd ID.out.big ID.out.rwf hkl.out).mono fun e w' h=>h.to
    clear bd d0 d1 d2 e1 e2
    go_upto_region 12 with fail
    clear U0 U1 U2 c0 c1 c2;refine Ql (fun w9=>w9.cell? ⟨gU,0,none⟩=some (.int .i64 u.root)/\w9.cell? ⟨gU,1,none⟩=some (.int .i64 u.next)/\w9.cell? ⟨gU,2,none⟩=some (.slice ua UL uc)/\w9.cell? ⟨sb,so+k*3+1,none⟩=some (st key)/\w9.cell? ⟨sb,so+k*3+2,none⟩=some (st val)) 16 qG (by simp) ?_
    have bD:Below g18 X X.drew:=(qg X 1 _).mono hgS.out
    generalize X.drew=V at *;refine qc (i:=0) (v:=?_) rfl (by kernel_rfl) (fun _ _ _ _ h=>h) (by kernel_rfl) (HSF.out _ bD) ?_ ?_
    rotate_left
    ·rintro w9 ⟨t0,t1,t2,t3,t4⟩;go_simp;try with_reducible rfl
    try simp only[qA8,Act.put,qB8]
    refine qc (i:=1) (v:=?_) rfl (by kernel_rfl) (fun _ _ _ _ h=>h) (by kernel_rfl) (HSF.out _ bD) ?_ ?_
    rotate_left
    ·rintro w9 ⟨t0,t1,t2,t3,t4⟩;go_simp;try with_reducible rfl
    try simp only[qA8,Act.put,qB8]
    refine qc (i:=2) (v:=?_) rfl (by kernel_rfl) (fun _ _ _ _ h=>h) (by kernel_rfl) (HSF.out _ bD) ?_ ?_
    rotate_left
    ·rintro w9 ⟨t0,t1,t2,t3,t4⟩;go_simp;try with_reducible rfl
    try simp only[qA8,Act.put,qB8]
    refine qc (i:=3) (v:=?_) rfl (by kernel_rfl) (fun _ _ _ _ h=>h) (by kernel_rfl) (HSF.out _ bD) ?_ ?_
    rotate_left
    ·rintro w9 ⟨t0,t1,t2,t3,t4⟩;go_simp;try with_reducible rfl
    try simp only[qA8,Act.put,qB8]
    refine qc (i:=4) (v:=?_) rfl (by kernel_rfl) (fun _ _ _ _ h=>h) (by kernel_rfl) (HSF.out _ bD) ?_ ?_
    rotate_left
    ·rintro w9 ⟨t0,t1,t2,t3,t4⟩;go_simp;try with_reducible rfl
    try simp only[qA8,Act.put,qB8]
    refine qc (i:=5) (v:=?_) rfl (by kernel_rfl) (fun _ _ _ _ h=>h) (by kernel_rfl) (HSF.out _ bD) ?_ ?_
    rotate_left
    ·rintro w9 ⟨t0,t1,t2,t3,t4⟩;go_simp;try with_reducible rfl
    try simp only[qA8,Act.put,qB8]
    refine qc (i:=6) (v:=?_) rfl (by kernel_rfl) (fun _ _ _ _ h=>h) (by kernel_rfl) (HSF.out _ bD) ?_ ?_
    rotate_left
    ·rintro w9 ⟨t0,t1,t2,t3,t4⟩;go_simp;try with_reducible rfl
    try simp only[qA8,Act.put,qB8]
    refine qc (i:=7) (v:=?_) rfl (by kernel_rfl) (fun _ _ _ _ h=>h) (by kernel_rfl) (HSF.out _ bD) ?_ ?_
    rotate_left
    ·rintro w9 ⟨t0,t1,t2,t3,t4⟩;go_simp;try with_reducible rfl
    try simp only[qA8,Act.put,qB8]
    refine qc (i:=8) (v:=?_) rfl (by kernel_rfl) (fun _ _ _ _ h=>h) (by kernel_rfl) (HSF.out _ bD) ?_ ?_
    rotate_left
    ·rintro w9 ⟨t0,t1,t2,t3,t4⟩;go_simp;try with_reducible rfl
    try simp only[qA8,Act.put,qB8]
    refine qc (i:=9) (v:=?_) rfl (by kernel_rfl) (fun _ _ _ _ h=>h) (by kernel_rfl) (HSF.out _ bD) ?_ ?_
    rotate_left
    ·rintro w9 ⟨t0,t1,t2,t3,t4⟩;go_simp;try with_reducible rfl
    try simp only[qA8,Act.put,qB8]
    refine qc (i:=10) (v:=?_) rfl (by kernel_rfl) (fun _ _ _ _ h=>h) (by kernel_rfl) (HSF.out _ bD) ?_ ?_
    rotate_left
    ·rintro w9 ⟨t0,t1,t2,t3,t4⟩;go_simp;try with_reducible rfl
    try simp only[qA8,Act.put,qB8]
    refine qr 11 (by kernel_rfl) ?_
    refine qi rfl (by kernel_rfl) fun K hK=>?_
    refine qk 6 _ _ (by rfl) #[.agg #[.int .i64 u.root,.int .i64 u.next,.slice ua UL uc],st key,st val] (by simp[Act.eval]) (Tryz.call6 _ _) KP.out ?_
    rintro e q1 ⟨u',a',n',c',err,rfl,hPB,bP⟩;have b0:=HBD.out.trans (bP.mono HBD.out.size)
    have bS:=b0.mono hgS.out
    refine⟨_,rfl,hK _ _ (HSF.out _ bS) ?_⟩;clear hK K;try simp only[qA8,Act.put,qB8]
    refine qc (i:=12) (v:=?_) rfl (by kernel_rfl) (fun _ _ _ _ h=>h) (by kernel_rfl) (HSF.out _ bS) ?_ ?_
    rotate_left
    ·rintro w9 ⟨t0,t1,t2,t3,t4⟩;go_simp;try with_reducible rfl
    try simp only[qA8,Act.put,qB8]
    refine qc (i:=13) (v:=?_) rfl (by kernel_rfl) (fun _ _ _ _ h=>h) (by kernel_rfl) (HSF.out _ bS) ?_ ?_
    rotate_left
    ·rintro w9 ⟨t0,t1,t2,t3,t4⟩;go_simp;try with_reducible rfl
    try simp only[qA8,Act.put,qB8]
    refine qc (i:=14) (v:=?_) rfl (by kernel_rfl) (fun _ _ _ _ h=>h) (by kernel_rfl) (HSF.out _ bS) ?_ ?_
    rotate_left
    ·rintro w9 ⟨t0,t1,t2,t3,t4⟩;go_simp;try with_reducible rfl
    try simp only[qA8,Act.put,qB8]
    have hP:=qa (SwP.mk' IX.out HX.out b0 hgX.out ((SwCB.put hPB).base HBD.out.size))
    obtain⟨⟨x0,x1,x2⟩,xF⟩:=ql ((b0.block _ (xa HX.out)).trans HX.out);refine qr 15 (by kernel_rfl) ?_
    refine qi rfl (by kernel_rfl) fun K hK=>?_
    go_simp;obtain⟨Q,hQ⟩:∃ Q,Q=((q1.setCell ⟨g18,0,none⟩ (.int .i64 u'.root)).setCell ⟨g18,1,none⟩ (.int .i64 u'.next)).setCell ⟨g18,2,none⟩ (.slice a' n' c'):=⟨_,rfl⟩
    rw[<-hQ];rw[<-hQ] at hP;have bQ:Below g18 X Q:=by rw[hQ];exact qD bS (xc _) _ _ _
    refine hK _ _ (HSF.out _ bQ) ?_;clear hK K x0 x1 x2 xF hQ;try simp only[qA8,Act.put,qB8]
    refine qT (by kernel_rfl) ?_
    show wpList _ _ _ _ _ _
    clear hPB bP b0 bS bQ bD
    go_wp2_with fail
    go_meet
    exact⟨err,u',a',n',c',rfl,hP⟩
   have hw1:(wh == 0)=false:=by simpa using hw0
   replace hw0:=qa hw0
   have KP:Hid (Calls Tryz.prog 7 #[.agg #[.int .i64 u.root,.int .i64 u.next,.slice ua UL uc],st key] X.drew fun e w'=>∃ u' a' n' c' was err,e=.returned (.tuple #[.agg #[.int .i64 u'.root,.int .i64 u'.next,.slice a' n' c'],.bool was,.int .i64 err])/\DelB X.drew.heap.size w' u key u' (.slice a' n' c') was err/\Below X.drew.heap.size X.drew w') :=
    (qfn X.drew u (.slice ua UL uc) key ID.out.oU.rd ID.out.big ID.out.rwf hkl.out).mono fun e w' h=>h.to
   clear bd d0 d1 d2 e1 e2
   go_upto_region 13 with fail
   clear U0 U1 U2 c0 c1 c2;refine Ql (fun w9=>w9.cell? ⟨gU,0,none⟩=some (.int .i64 u.root)/\w9.cell? ⟨gU,1,none⟩=some (.int .i64 u.next)/\w9.cell? ⟨gU,2,none⟩=some (.slice ua UL uc)/\w9.cell? ⟨sb,so+k*3+1,none⟩=some (st key)/\w9.cell? ⟨sb,so+k*3+2,none⟩=some (st val)) 12 qG (by simp) ?_
   have bD:Below g18 X X.drew:=(qg X 1 _).mono hgS.out
   generalize X.drew=V at *;refine qc (i:=0) (v:=?_) rfl (by kernel_rfl) (fun _ _ _ _ h=>h) (by kernel_rfl) (HSF.out _ bD) ?_ ?_
   rotate_left
   ·rintro w9 ⟨t0,t1,t2,t3,t4⟩;go_simp;try with_reducible rfl
   try simp only[qA8,Act.put,qB8]
   refine qc (i:=1) (v:=?_) rfl (by kernel_rfl) (fun _ _ _ _ h=>h) (by kernel_rfl) (HSF.out _ bD) ?_ ?_
   rotate_left
   ·rintro w9 ⟨t0,t1,t2,t3,t4⟩;go_simp;try with_reducible rfl
   try simp only[qA8,Act.put,qB8]
   refine qc (i:=2) (v:=?_) rfl (by kernel_rfl) (fun _ _ _ _ h=>h) (by kernel_rfl) (HSF.out _ bD) ?_ ?_
   rotate_left
   ·rintro w9 ⟨t0,t1,t2,t3,t4⟩;go_simp;try with_reducible rfl
   try simp only[qA8,Act.put,qB8]
   refine qc (i:=3) (v:=?_) rfl (by kernel_rfl) (fun _ _ _ _ h=>h) (by kernel_rfl) (HSF.out _ bD) ?_ ?_
   rotate_left
   ·rintro w9 ⟨t0,t1,t2,t3,t4⟩;go_simp;try with_reducible rfl
   try simp only[qA8,Act.put,qB8]
   refine qc (i:=4) (v:=?_) rfl (by kernel_rfl) (fun _ _ _ _ h=>h) (by kernel_rfl) (HSF.out _ bD) ?_ ?_
   rotate_left
   ·rintro w9 ⟨t0,t1,t2,t3,t4⟩;go_simp;try with_reducible rfl
   try simp only[qA8,Act.put,qB8]
   refine qc (i:=5) (v:=?_) rfl (by kernel_rfl) (fun _ _ _ _ h=>h) (by kernel_rfl) (HSF.out _ bD) ?_ ?_
   rotate_left
   ·rintro w9 ⟨t0,t1,t2,t3,t4⟩;go_simp;try with_reducible rfl
   try simp only[qA8,Act.put,qB8]
   refine qr 6 (by kernel_rfl) ?_
   refine qi rfl (by kernel_rfl) fun K hK=>?_
   refine qk 7 _ _ (by rfl) #[.agg #[.int .i64 u.root,.int .i64 u.next,.slice ua UL uc],st key] (by simp[Act.eval]) (Tryz.call7 _ _) KP.out ?_
   rintro e q1 ⟨u',a',n',c',was,err,rfl,hPB,bP⟩;have b0:=HBD.out.trans (bP.mono HBD.out.size)
   have bS:=b0.mono hgS.out
   refine⟨_,rfl,hK _ _ (HSF.out _ bS) ?_⟩;clear hK K;try simp only[qA8,Act.put,qB8]
   refine qc (i:=7) (v:=?_) rfl (by kernel_rfl) (fun _ _ _ _ h=>h) (by kernel_rfl) (HSF.out _ bS) ?_ ?_
   rotate_left
   ·rintro w9 ⟨t0,t1,t2,t3,t4⟩;go_simp;try with_reducible rfl
   try simp only[qA8,Act.put,qB8]
   refine qc (i:=8) (v:=?_) rfl (by kernel_rfl) (fun _ _ _ _ h=>h) (by kernel_rfl) (HSF.out _ bS) ?_ ?_
   rotate_left
   ·rintro w9 ⟨t0,t1,t2,t3,t4⟩;go_simp;try with_reducible rfl
   try simp only[qA8,Act.put,qB8]
   refine qc (i:=9) (v:=?_) rfl (by kernel_rfl) (fun _ _ _ _ h=>h) (by kernel_rfl) (HSF.out _ bS) ?_ ?_
   rotate_left
   ·rintro w9 ⟨t0,t1,t2,t3,t4⟩;go_simp;try with_reducible rfl
   try simp only[qA8,Act.put,qB8]
   refine qc (i:=10) (v:=?_) rfl (by kernel_rfl) (fun _ _ _ _ h=>h) (by kernel_rfl) (HSF.out _ bS) ?_ ?_
   rotate_left
   ·rintro w9 ⟨t0,t1,t2,t3,t4⟩;go_simp;try with_reducible rfl
   try simp only[qA8,Act.put,qB8]
   have hP:=qa (SwP.mk' IX.out HX.out b0 hgX.out ((SwCB.del hPB).base HBD.out.size))
   obtain⟨⟨x0,x1,x2⟩,xF⟩:=ql ((b0.block _ (xa HX.out)).trans HX.out);refine qr 11 (by kernel_rfl) ?_
   refine qi rfl (by kernel_rfl) fun K hK=>?_
   go_simp;obtain⟨Q,hQ⟩:∃ Q,Q=((q1.setCell ⟨g18,0,none⟩ (.int .i64 u'.root)).setCell ⟨g18,1,none⟩ (.int .i64 u'.next)).setCell ⟨g18,2,none⟩ (.slice a' n' c'):=⟨_,rfl⟩
   rw[<-hQ];rw[<-hQ] at hP;have bQ:Below g18 X Q:=by rw[hQ];exact qD bS (xc _) _ _ _
   refine hK _ _ (HSF.out _ bQ) ?_;clear hK K x0 x1 x2 xF hQ;try simp only[qA8,Act.put,qB8]
   refine qT (by kernel_rfl) ?_
   show wpList _ _ _ _ _ _
   clear hPB bP b0 bS bQ bD
   go_wp2_with fail
   go_meet
   exact⟨err,u',a',n',c',rfl,hP⟩
  case rest =>
  obtain⟨err,u',a',n',c',rfl,hP⟩:=hcut;clear U0 U1 U2 c0 c1 c2;by_cases he:err=0
  ·subst he;obtain⟨⟨x0,x1,x2⟩,xF⟩:=ql hP.out.b8;obtain⟨⟨U0,U1,U2⟩,UF⟩:=ql hP.out.sl.bU
   have hN:Hid (SwL w (((wc.setCell ⟨gU,0,none⟩ (.int .i64 u'.root)).setCell ⟨gU,1,none⟩ (.int .i64 u'.next)).setCell ⟨gU,2,none⟩ (.slice a' n' c')) gT gU t u' (.slice ta TL tc) (.slice a' n' c') (.slice ha HL hc) had):=by
    rcases hP.out.cb with q|⟨_,o,ps,hC⟩
    ·exact absurd rfl q
    exact hP.out.sl.put hC o
   go_wp2;go_roundw
   case rel=>exact⟨k+1,u',_,by omega,by go_num,hN⟩
   case measure=>simp[intOf];omega
  have he':(err == 0)=false:=by simpa using he
  have hN:=qa hP.out.sl
  replace he:=qa he;go_wp2;go_roundw
  case rel=>exact⟨k+1,u,_,by omega,by go_num,hN⟩
  case measure=>simp[intOf];omega
 rw[xw hgo];obtain⟨ps,hps⟩:=hI.out.pU;have KS:=vN wr u (.slice ua UL uc) [] [] hI.out.oU.rd hI.out.rwf
 rw[qew hps,jB] at KS;dsimp only[tv] at KS;replace KS:=qa KS;have HPS:=qa hps
 obtain⟨⟨U0,U1,U2⟩,_⟩:=ql hI.out.bU;clear hgo hps
 go_wp2_with fail
 refine KS.out.mono ?_;rintro e w5 ⟨wv,rfl,o5,b5⟩;obtain⟨wa,wcp,rfl⟩:=(OwnP.rd o5).slice;obtain⟨WL,hWL⟩:∃ L,L=ps.length:=⟨_,rfl⟩;have I5:=qa (hI.out.to b5)
 have OW:Hid (OwnP w.heap.size w5 (.slice wa ps.length wcp) ps):=Qt o5 (fun b hb=>xi hI.out.bel.size (xo o5 b hb).1)
 rw[<-hWL] at OW;rw[<-hWL];replace hWL:=qa hWL;clear KS U0 U1 U2 o5 b5;obtain⟨⟨U0,U1,U2⟩,_⟩:=ql I5.out.bU;by_cases hbig:(250:Int)<u.next
 ·go_wp2;go_ret;exact⟨by simp,I5.out.bel⟩
 have hnx:u.next=1+(UL:Int):=by rw[I5.out.sU.1,hUL.out]
 have nb1:1<=u.next:=by omega
 have nb2:u.next<=250:=by omega
 obtain⟨N,hN⟩:∃ N:Nat,N=6+4*UL:=⟨_,rfl⟩
 have hdn:qbl (2+4*u.next)=((jE N,[]),0):=by
  rw[show (2+4*u.next)=((N:Nat):Int) by omega]
  exact qex (by omega) (by omega)
 have hUb:Hid (UL<=249/\N=6+4*UL):=⟨by omega,hN⟩
 have HV0:Hid (Hv (jE N,[]) N (List.replicate 64 0) (List.replicate 64 0) []):=Hv.start (by omega) (by omega)
 have hTU:Hid (t.pages.length<=UL):=by
  obtain⟨m,e⟩:=I5.out.ext;show _<=_
  rw[hUL.out,e,xk];omega
 have hsmT:Hid (∀ x∈t.pages,x.2.length<=244):=fun x hx=>by
  obtain⟨m,e⟩:=I5.out.ext;exact I5.out.sm x (by rw[e];exact Ky _ hx)
 have KD:=qd8 w5 (2+4*u.next)
 rw[hdn] at KD;replace KD:=qa KD;clear hnx hdn hN
 go_wp2_with fail
 refine KD.out.mono ?_;rintro e w6 ⟨sv,cv,rfl,o6,b6⟩;obtain⟨q1,q2⟩:=yu o6;obtain⟨a1',c1',rfl⟩:=q1.slice;obtain⟨a2',c2',rfl⟩:=q2.slice;obtain⟨Y,hY,DY,bY,sY⟩:=qf w6 #[.slice a1' (jE N).length c1',.slice a2' 0 c2'] 43
 have hM0:Hid (SwM w Y gT gU w6.heap.size t u (.slice ta TL tc) (.slice ua UL uc) (.slice ha HL hc) (.slice wa WL wcp) had ps (jE N,[]) (.slice a1' (jE N).length c1') (.slice a2' 0 c2')):=by
  have b7:=b6.trans (bY.mono b6.size)
  have l1:=xa I5.out.bT
  have l2:=xa I5.out.bU
  have l3:=I5.out.bel.size
  have l4:=b6.size
  exact⟨I5.out.to b7,qB OW.out b7,DBx.mk' o6 DY bY,by omega,by omega,by omega⟩
 clear KD q1 q2 o6 b6 DY bY sY OW U0 U1 U2
 go_upto_region 20 with fail
 rw[<-hY];replace hY:=qa hY;generalize w6.heap.size=gD at *;generalize (jE N).length=Z1 at *;obtain⟨⟨T0,T1,T2⟩,_⟩:=ql hM0.out.sl.bT;have KO:=qa (qc3 hM0.out.bx (t:=t) (N:=N) (a:=List.replicate 64 0) (b:=List.replicate 64 0) (f:=1) hM0.out.sl.oT.rd hM0.out.sl.sT (by decide) (by omega) HV0.out (by have:=hUb.out;have:=hTU.out;omega) (by have:=hUb.out;have:=hTU.out;omega) hsmT.out)
 dsimp only[tv] at KO;obtain⟨x0,x1,x2,x3⟩:=qh hM0.out.bx.bx
 go_wp2_with fail
 refine KO.out.mono ?_;rintro e q3 ⟨d3,hv3,-,a3q,l3,c3,a3p,l3p,c3p,rfl,oN,bN⟩;have HV3:=qa hv3
 clear KO x0 x1 x2 x3 T0 T1 T2 hv3;have hM1':=qa (hM0.out.over bN oN)
 have TN:=qa (hM0.out.to bN)
 obtain⟨x0,x1,x2,x3⟩:=qh TN.out.bx.bx;clear oN bN
 go_upto_region 21 with fail
 obtain⟨V3,hV⟩:∃ V,V=(q3.setCell ⟨gD,0,none⟩ (.slice a3q l3 c3)).setCell ⟨gD,1,none⟩ (.slice a3p l3p c3p):=⟨_,rfl⟩;rw[<-hV] at hM1';rw[<-hV];replace hV:=qa hV;clear TN x0 x1 x2 x3;obtain⟨S4,hf4,hv4⟩:=HV3.out.flush;have HV4:=qa hv4
 have KO:=qa (VB hM1'.out.bx hf4)
 obtain⟨x0,x1,x2,x3⟩:=qh hM1'.out.bx.bx
 go_wp2_with fail
 refine KO.out.mono ?_;rintro e q4 ⟨a4,l4,c4,a4p,l4p,c4p,rfl,oN,bN⟩;clear KO x0 x1 x2 x3;have hM2:=qa (hM1'.out.over bN oN)
 have TN:=qa (hM1'.out.to bN)
 obtain⟨x0,x1,x2,x3⟩:=qh TN.out.bx.bx;clear oN bN
 go_upto_region 22 with fail
 obtain⟨V4,hV⟩:∃ V,V=(q4.setCell ⟨gD,0,none⟩ (.slice a4 l4 c4)).setCell ⟨gD,1,none⟩ (.slice a4p l4p c4p):=⟨_,rfl⟩;rw[<-hV] at hM2;rw[<-hV];replace hV:=qa hV;clear TN x0 x1 x2 x3;obtain⟨S5,hf5,hv5⟩:=HV4.out.store (k:=vw 1 t) (Yw hM2.out.sl.sT hM2.out.sl.pT (by decide)) rfl
 have HV5:=qa hv5
 obtain⟨⟨T0,T1,T2⟩,_⟩:=ql hM2.out.sl.bT;clear hv4 hv5;have KO:=qa (qfw (t:=t) (E:=1) hM2.out.bx hf5)
 obtain⟨x0,x1,x2,x3⟩:=qh hM2.out.bx.bx
 go_wp2_with fail
 refine KO.out.mono ?_;rintro e q5 ⟨a5,l5,c5,a5p,l5p,c5p,rfl,oN,bN⟩;clear KO x0 x1 x2 x3;have hM3:=qa (hM2.out.over bN oN)
 have TN:=qa (hM2.out.to bN)
 obtain⟨x0,x1,x2,x3⟩:=qh TN.out.bx.bx;clear oN bN
 go_upto_region 23 with fail
 obtain⟨V5,hV⟩:∃ V,V=(q5.setCell ⟨gD,0,none⟩ (.slice a5 l5 c5)).setCell ⟨gD,1,none⟩ (.slice a5p l5p c5p):=⟨_,rfl⟩;rw[<-hV] at hM3;rw[<-hV];replace hV:=qa hV;clear TN x0 x1 x2 x3;clear T0 T1 T2;obtain⟨⟨T0,T1,T2⟩,_⟩:=ql hM3.out.sl.bT;obtain⟨⟨U0,U1,U2⟩,_⟩:=ql hM3.out.sl.bU;have KO:=qc3 hM3.out.bx (t:=u) (N:=N) (a:=List.replicate 64 0) (b:=zq (vw 1 t)) (f:=t.pages.length+1) hM3.out.sl.oU.rd hM3.out.sl.sU (by omega) (by have:=hTU.out;have:=hUL.out;omega) (by rw[XN,qd1 hM3.out.sl.ext];exact HV5.out) (by have:=hUb.out;have:=hUL.out;omega) (by have:=hUb.out;have:=hUL.out;omega) hM3.out.sl.sm
 rw[show ((t.pages.length+1:Nat):Int)=t.next by rw[hM3.out.sl.sT.1];push_cast;omega] at KO
 dsimp only[tv] at KO;replace KO:=qa KO;obtain⟨x0,x1,x2,x3⟩:=qh hM3.out.bx.bx
 go_wp2_with fail
 refine KO.out.mono ?_;rintro e q6 ⟨d6,hv6,hca6,a6,l6,c6,a6p,l6p,c6p,rfl,oN,bN⟩;have HV6:=qa hv6
 have HCA:Hid (CaB d6 t.pages.length):=hca6 _ (by omega) (fun y hy=>by simp at hy)
 clear KO x0 x1 x2 x3 T0 T1 T2 U0 U1 U2 hv6 hca6;have hM4:=qa (hM3.out.over bN oN)
 have TN:=qa (hM3.out.to bN)
 obtain⟨x0,x1,x2,x3⟩:=qh TN.out.bx.bx;clear oN bN
 go_upto_region 26 with fail
 obtain⟨V6,hV⟩:∃ V,V=(q6.setCell ⟨gD,0,none⟩ (.slice a6 l6 c6)).setCell ⟨gD,1,none⟩ (.slice a6p l6p c6p):=⟨_,rfl⟩;rw[<-hV] at hM4;rw[<-hV];replace hV:=qa hV;clear TN x0 x1 x2 x3;have hx3 : -2<av.tmod 2/\av.tmod 2<2:=⟨by have:=Int.lt_tmod_of_pos av (show (0:Int)<2 by omega);omega,Int.tmod_lt_of_pos av (show (0:Int)<2 by omega)⟩
 have hx4:IntKind.i64.wrap (av.tmod 2+2)=av.tmod 2+2:=xB _ (by omega)
 have hbk1:Hid (bok (vw 1 t)):=Yw hM4.out.sl.sT hM4.out.sl.pT (by decide)
 have hbk2:Hid (bok (vw 2 u)):=Yw hM4.out.sl.sU HPS.out (by decide)
 by_cases hb:av.tmod 2%2=1
 rotate_left
 ·have hb':(av.tmod 2%2 == 1)=false:=by simpa using hb
  replace hb:=qa hb;obtain⟨S7,hf7,hv7⟩:=HV6.out.crashE HCA.out ks tv5 cv6;rw[qd1 hM4.out.sl.ext] at hv7;have HV7:=qa hv7
  have HK:=qa (HR3.out.to0 hM4.out.sl.bel)
  clear hv7;have KO:=qa (qf7 hM4.out.bx HK.out hf7)
  obtain⟨x0,x1,x2,x3⟩:=qh hM4.out.bx.bx
  go_wp2_with fail
  refine KO.out.mono ?_;rintro e q7 ⟨a7,l7,c7,a7p,l7p,c7p,rfl,oN,bN⟩;clear KO x0 x1 x2 x3;have hM5:=qa (hM4.out.over bN oN)
  have TN:=qa (hM4.out.to bN)
  obtain⟨x0,x1,x2,x3⟩:=qh TN.out.bx.bx;clear oN bN
  go_upto_region 38 with fail
  obtain⟨V7,hV⟩:∃ V,V=(q7.setCell ⟨gD,0,none⟩ (.slice a7 l7 c7)).setCell ⟨gD,1,none⟩ (.slice a7p l7p c7p):=⟨_,rfl⟩;rw[<-hV] at hM5;rw[<-hV];replace hV:=qa hV;clear TN x0 x1 x2 x3;have KO:=qa (YT V7 _ _ _ t had N _ _ hM5.out.bx.rd.1 hM5.out.bx.rd.2 hM5.out.sl.sT HV7.out ⟨_,_,HV7.out.old hbk1.out,rfl,rfl⟩ hM5.out.sl.pT)
  obtain⟨x0,x1,x2,x3⟩:=qh hM5.out.bx.bx
  go_wp2_with fail
  refine KO.out.mono ?_;rintro e r1 ⟨g1,rfl,oL,bL⟩;rw[jB] at oL;obtain⟨ga,gc,rfl⟩:=(OwnP.rd oL).slice;obtain⟨GL,hGL⟩:∃ L,L=had.length:=⟨_,rfl⟩;have hML:=qa (hM5.out.to bL)
  have OL:=qa oL
  rw[<-hGL] at OL;rw[<-hGL];replace hGL:=qa hGL;clear KO x0 x1 x2 x3 oL bL;have KP:=yE r1 (.slice ga GL gc) (.slice ha HL hc) had had (OwnP.rd OL.out) (OwnP.rd hML.out.sl.oH)
  rw[xv (show had=had from rfl)] at KP;replace KP:=qa KP
  go_wp2_with fail
  refine KP.out.mono ?_;rintro e r2 ⟨rfl,bP⟩;have FB:=qa (hML.out.sl.bel.trans (bP.mono hML.out.sl.bel.size))
  clear KP bP;go_wp2;go_ret;exact⟨by simp,FB.out⟩
 have hb':(av.tmod 2%2 == 1)=true:=by simpa using hb
 replace hb:=qa hb;obtain⟨S7,hf7,hv7⟩:=HV6.out.flush;have HV7:=qa hv7
 clear hv7;have KO:=qa (VB hM4.out.bx hf7)
 obtain⟨x0,x1,x2,x3⟩:=qh hM4.out.bx.bx
 go_wp2_with fail
 refine KO.out.mono ?_;rintro e q7 ⟨a7,l7,c7,a7p,l7p,c7p,rfl,oN,bN⟩;clear KO x0 x1 x2 x3;have hM5:=qa (hM4.out.over bN oN)
 have TN:=qa (hM4.out.to bN)
 obtain⟨x0,x1,x2,x3⟩:=qh TN.out.bx.bx;clear oN bN
 go_upto_region 30 with fail
 obtain⟨V7,hV⟩:∃ V,V=(q7.setCell ⟨gD,0,none⟩ (.slice a7 l7 c7)).setCell ⟨gD,1,none⟩ (.slice a7p l7p c7p):=⟨_,rfl⟩;rw[<-hV] at hM5;rw[<-hV];replace hV:=qa hV;clear TN x0 x1 x2 x3;have KE:=vR V7 (vw 2 u)
 rw[YR hbk2.out] at KE;dsimp only[vw] at KE;obtain⟨BX,hBX⟩:∃ b,b=zq (vw 2 u):=⟨_,rfl⟩;have hBl:Hid (BX.length=64):=by show _=_;rw[hBX];exact vi _
 rw[show zq (2,u.root,0,u.next,0)=BX from hBX.symm] at KE
 replace KE:=qa KE;have HBX:=qa hBX
 obtain⟨⟨U0,U1,U2⟩,_⟩:=ql hM5.out.sl.bU;clear hBX
 go_wp2_with fail
 refine KE.out.mono ?_;rintro e q8 ⟨ev,rfl,oE,bE⟩;obtain⟨ea,ec,rfl⟩:=oE.rd.slice;have hM5':=qa (hM5.out.to bE)
 have RE:=qa oE.rd
 rw[hBl.out] at RE;rw[hBl.out];obtain⟨⟨pf,pv⟩,_⟩:=HV7.out.put hBl.out;have HV8:=qa pv
 clear KE U0 U1 U2 oE bE;have KO:=qa (qrx hM5'.out.bx RE.out pf)
 obtain⟨x0,x1,x2,x3⟩:=qh hM5'.out.bx.bx
 go_wp2_with fail
 refine KO.out.mono ?_;rintro e q9 ⟨a9,l9,c9,a9p,l9p,c9p,rfl,oN,bN⟩;clear KO x0 x1 x2 x3;have hM6:=qa (hM5'.out.over bN oN)
 have TN:=qa (hM5'.out.to bN)
 obtain⟨x0,x1,x2,x3⟩:=qh TN.out.bx.bx;clear oN bN
 go_upto_region 34 with fail
 obtain⟨V9,hV⟩:∃ V,V=(q9.setCell ⟨gD,0,none⟩ (.slice a9 l9 c9)).setCell ⟨gD,1,none⟩ (.slice a9p l9p c9p):=⟨_,rfl⟩;rw[<-hV] at hM6;rw[<-hV];replace hV:=qa hV;clear TN x0 x1 x2 x3;obtain⟨S10,aa,hf10,haa,hv10⟩:=HV7.out.crashO hBl.out ks cv6;have HV10:=qa hv10
 have HK:=qa (HR3.out.to0 hM6.out.sl.bel)
 clear hv10;have KO:=qa (qf7 hM6.out.bx HK.out hf10)
 obtain⟨x0,x1,x2,x3⟩:=qh hM6.out.bx.bx
 go_wp2_with fail
 refine KO.out.mono ?_;rintro e q10 ⟨a10,l10,c10,a10p,l10p,c10p,rfl,oN,bN⟩;clear KO x0 x1 x2 x3;have hM7:=qa (hM6.out.over bN oN)
 have TN:=qa (hM6.out.to bN)
 obtain⟨x0,x1,x2,x3⟩:=qh TN.out.bx.bx;clear oN bN
 go_upto_region 38 with fail
 obtain⟨V10,hV⟩:∃ V,V=(q10.setCell ⟨gD,0,none⟩ (.slice a10 l10 c10)).setCell ⟨gD,1,none⟩ (.slice a10p l10p c10p):=⟨_,rfl⟩;rw[<-hV] at hM7;rw[<-hV];replace hV:=qa hV;clear TN x0 x1 x2 x3;rcases haa with rfl|rfl
 ·have HV11:Hid (Hv (S10,[]) N (List.replicate 64 0) (zq (vw 1 t)) (t.pages.map (·.2))):=by
   have:=qpm HV10.out rfl t.pages.length
   rwa [qd1 hM7.out.sl.ext] at this
  have KO:=qa (YT V10 _ _ _ t had N _ _ hM7.out.bx.rd.1 hM7.out.bx.rd.2 hM7.out.sl.sT HV11.out ⟨_,_,HV11.out.old hbk1.out,rfl,rfl⟩ hM7.out.sl.pT)
  obtain⟨x0,x1,x2,x3⟩:=qh hM7.out.bx.bx
  go_wp2_with fail
  refine KO.out.mono ?_;rintro e r1 ⟨g1,rfl,oL,bL⟩;rw[jB] at oL;obtain⟨ga,gc,rfl⟩:=(OwnP.rd oL).slice;obtain⟨GL,hGL⟩:∃ L,L=had.length:=⟨_,rfl⟩;have hML:=qa (hM7.out.to bL)
  have OL:=qa oL
  rw[<-hGL] at OL;rw[<-hGL];replace hGL:=qa hGL;clear KO x0 x1 x2 x3 oL bL;have KP:=yE r1 (.slice ga GL gc) (.slice ha HL hc) had had (OwnP.rd OL.out) (OwnP.rd hML.out.sl.oH)
  rw[xv (show had=had from rfl)] at KP;replace KP:=qa KP
  go_wp2_with fail
  refine KP.out.mono ?_;rintro e r2 ⟨rfl,bP⟩;have FB:=qa (hML.out.sl.bel.trans (bP.mono hML.out.sl.bel.size))
  clear KP bP;go_wp2;go_ret;exact⟨by simp,FB.out⟩
 rw[HBX.out] at HV10;have KO:=qa (YT V10 _ _ _ u ps N _ _ hM7.out.bx.rd.1 hM7.out.bx.rd.2 hM7.out.sl.sU HV10.out ⟨_,_,HV10.out.new hbk2.out hbk1.out (show (1:Int)<=2 by decide),rfl,rfl⟩ HPS.out)
 obtain⟨x0,x1,x2,x3⟩:=qh hM7.out.bx.bx
 go_wp2_with fail
 refine KO.out.mono ?_;rintro e r2 ⟨g2,rfl,oL,bL⟩;rw[jB] at oL;obtain⟨ga,gc,rfl⟩:=(OwnP.rd oL).slice;obtain⟨GL,hGL⟩:∃ L,L=ps.length:=⟨_,rfl⟩;have hML:=qa (hM7.out.to bL)
 have OL:=qa oL
 rw[<-hGL] at OL;rw[<-hGL];replace hGL:=qa hGL;clear KO x0 x1 x2 x3 oL bL;have KP:=yE r2 (.slice ga GL gc) (.slice ha HL hc) ps had (OwnP.rd OL.out) (OwnP.rd hML.out.sl.oH)
 replace KP:=qa KP
 have KQ:Hid (∀ c:World,Below r2.heap.size r2 c->Calls Tryz.prog 17 #[.slice ga GL gc,.slice wa WL wcp] c fun e w'=>e=.returned (.bool true)/\Below c.heap.size c w'):=fun c hb=>by
  have:=yE c (.slice ga GL gc) (.slice wa WL wcp) ps ps (OwnP.rd (qB OL.out hb)) (OwnP.rd (qB hML.out.oW hb))
  rw[xv (show ps=ps from rfl)] at this;exact this
 go_wp2_with fail
 refine KP.out.mono ?_;rintro e r3 ⟨rfl,bP⟩;by_cases hsm:ps=had
 ·rw[xv hsm];have FB:=qa (hML.out.sl.bel.trans (bP.mono hML.out.sl.bel.size))
  replace hsm:=qa hsm;clear KP bP;go_wp2;go_ret;exact⟨by simp,FB.out⟩
 rw[xw hsm];have KR:=qa (KQ.out r3 bP)
 have HB:=qa bP
 replace hsm:=qa hsm;clear KP KQ bP
 go_wp2_with fail
 refine KR.out.mono ?_;rintro e r4 ⟨rfl,bR⟩;have bb:=HB.out.trans (bR.mono HB.out.size)
 have FB:=qa (hML.out.sl.bel.trans (bb.mono hML.out.sl.bel.size))
 clear KR bR bb;go_wp2;go_ret;exact⟨by simp,FB.out⟩
theorem qrn (os:Os) (started:os.Started) (H:Type) (enc:TypeId×Value->H) :
 ReturnsInHanded {} Tryz.checked os 3 .any (Rows.topSwapSpec.pre6 enc Tryz.prog Tryz.f3 Rows.topSwapRow.domain false) (Rows.topSwapSpec.post enc Tryz.prog Tryz.f3 false true false false):=by
 refine returnsInHanded_of_change_sized (C:=Tryz.checked) own started (by kernel_rfl) Tryz.func3
  (ChangeSpec.witness6 (enc:=enc) (C:=Tryz.checked) false ⟨#[],#[.slice none 0 0,.slice none 0 0,.int .i64 0,.slice none 0 0,.int .i64 0,.int .i64 0],[]⟩ 8 (by kernel_rfl) (by kernel_rfl) (by kernel_rfl) (by kernel_rfl)) ?_
 intro W base args ds gs before hval0 hW hcnd hsz0 _;have hsz:(DataW.weightsEach Tryz.prog (Tryz.f3.params.toList++Rows.topSwapSpec.plain.varTypes Tryz.prog) (ds++gs)).all (· <= reachBytes)=true:=hsz0
 have hval:∀ (j:Nat) t v,Tryz.f3.params[j]?=some t->args[j]?=some v->Value.okWide Tryz.prog W .any base t v:=hval0
 have hW':=hW
 obtain⟨p,q,hA0,hV,rfl,hfz,hnd⟩:=hW;have hA:DataW.TrodAll enc Tryz.prog W 0 (fun _=>true) true Tryz.f3.params.toList args.toList ds p:=hA0
 rw[Tryz.params3] at hA hval hsz;obtain⟨v0,vs0,d0,ds0,p0,q0,hargs,rfl,rfl,h0,r0⟩:=trodAll_cons hA;obtain⟨v1,vs1,d1,ds1,p1,q1,rfl,rfl,rfl,h1,r1⟩:=trodAll_cons r0;obtain⟨v2,vs2,d2,ds2,p2,q2,rfl,rfl,rfl,h2,r2⟩:=trodAll_cons r1;obtain⟨v3,vs3,d3,ds3,p3,q3,rfl,rfl,rfl,h3,r3⟩:=trodAll_cons r2;obtain⟨v4,vs4,d4,ds4,p4,q4,rfl,rfl,rfl,h4,r4⟩:=trodAll_cons r3;obtain⟨v5,vs5,d5,ds5,p5,q5,rfl,rfl,rfl,h5,r5⟩:=trodAll_cons r4;obtain⟨rfl,rfl,rfl⟩:=trodAll_nil r5;obtain rfl:args=#[v0,v1,v2,v3,v4,v5]:=by cases args;simp_all
 obtain⟨rfl,rfl⟩:=trodVars_none hV;obtain⟨a0,len0,cap0,rfl⟩:=okWide_slice Tryz.underlying22 (hval 0 22 v0 rfl rfl);have lt0:∀ x∈p0,x.block<W.heap.size:=by obtain⟨m,hm⟩:=h0;exact DataW.trod_lt m _ _ _ hm
 have hh0:=h0
 obtain⟨fu0,hf0⟩:=hh0;obtain⟨x0,g0,f0,b0⟩:=open_steps10.opened hf0;obtain⟨a1,len1,cap1,rfl⟩:=okWide_slice Tryz.underlying22 (hval 1 22 v1 rfl rfl);have lt1:∀ x∈p1,x.block<W.heap.size:=by obtain⟨m,hm⟩:=h1;exact DataW.trod_lt m _ _ _ hm
 have hh1:=h1
 obtain⟨fu1,hf1⟩:=hh1;obtain⟨x1,g1,f1,b1⟩:=open_steps10.opened hf1;obtain⟨a2,rfl,rfl,rfl,w2⟩:=open_int X8 (hval 2 3 v2 rfl rfl) h2;obtain⟨a3,len3,cap3,rfl⟩:=okWide_slice Tryz.underlying23 (hval 3 23 v3 rfl rfl);have lt3:∀ x∈p3,x.block<W.heap.size:=by obtain⟨m,hm⟩:=h3;exact DataW.trod_lt m _ _ _ hm
 have hh3:=h3
 obtain⟨fu3,hf3⟩:=hh3;obtain⟨x3,g3,f3,b3⟩:=open_bools.opened hf3;obtain⟨a4,rfl,rfl,rfl,w4⟩:=open_int X8 (hval 4 3 v4 rfl rfl) h4;obtain⟨a5,rfl,rfl,rfl,w5⟩:=open_int X8 (hval 5 3 v5 rfl rfl) h5;have m0:=f0 (qa2 hsz (j:=0) rfl rfl)
 have m1:=f1 (qa2 hsz (j:=1) rfl rfl)
 have m3:=f3 (qa2 hsz (j:=3) rfl rfl)
 clear hA0 hval0 hsz0 hsz;refine(qs8 W a0 len0 cap0 x0 g0 m0 a1 len1 cap1 x1 g1 m1 a2 w2 a3 len3 cap3 x3 g3 m3 a4 w4 a5 w5).mono fun e W' ⟨he,bel⟩=>?_;subst he;exact⟨_,rfl,_,_,_,[],_,[],hW',trodAll_mk1 (shut_bool Tryz.underlying4 _),(K9 (Below.trod qct (by kernel_rfl) (k6 (by kernel_rfl)) h0 bel lt0) (K9 (Below.trod qct (by kernel_rfl) (k6 (by kernel_rfl)) h1 bel lt1) (K9 (shut_int X8 w2) (K9 (Below.trod qct (by kernel_rfl) (k6 (by kernel_rfl)) h3 bel lt3) (K9 (shut_int X8 w4) (K9 (shut_int X8 w5) trodAll_mk0)))))),rfl,bel.frame _,fun h=>by cases h⟩
theorem over:Rows.topSwapRow.holds Tryz.pinned (OpenSpec.ofChange Rows.topSwapSpec) :=
 OpenClaim.holds_of_wide 3 Tryz.f3 rfl rfl rfl rfl rfl rfl rfl ⟨rfl,rfl,rfl,rfl,rfl⟩ rfl rfl rfl rfl rfl (by kernel_rfl) Tryz.func3 (by kernel_rfl)
  (k6 (by kernel_rfl)) (by unfold Func.isWrapper;first|(rw[xj (by decide +kernel)];kernel_rfl)|(rw[xh (by decide +kernel)];exact⟨rfl,rfl⟩))
  (fun os started H enc _=>qrn os started H enc)
end Go.Proofs.YtfjadfnjmpefkaaGreat.topSwap
namespace Go.Proofs.YtfjadfnjmpefkaaGreat
theorem topSwap_holds:Rows.TopSwapSaid:=topSwap.over
end Go.Proofs.YtfjadfnjmpefkaaGreat
