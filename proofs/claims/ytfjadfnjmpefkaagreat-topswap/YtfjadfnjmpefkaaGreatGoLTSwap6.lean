/- What TopSwap rests on. -/
import Derived.Test.YtfjadfnjmpefkaaGreatGoLTSwap5
import Derived.Test.YtfjadfnjmpefkaaGreatGoLTSwap4
import Derived.Deep.QuietTactic
import Derived.BigQuiet
import Derived.Laws.Cover1
import Derived.OwnWalkIn
import Derived.Laws.Externs
import Derived.Shelf.RegionOpenPlain
import Derived.Test.YtfjadfnjmpefkaaGreatGoLTSwap1
set_option maxRecDepth 100000
set_option maxHeartbeats 16000000
set_option linter.unusedVariables false
set_option linter.unusedSimpArgs false
namespace Go.Proofs.YtfjadfnjmpefkaaGreat
theorem k9.{u}:type_of% @Option.some.inj.{u}:=@Option.some.inj
theorem X7.{u}:type_of% @List.filter_cons.{u}:=@List.filter_cons
variable {id:Int} {P S now:List Br} {AD ad:List Nd} {A C ps:List Pr} {xs:List Str} {l:List Wrt} {B L b bm c d g g12 gc i k:Nat} {J M a m n nd sb:Nd} {v:Str} {t:Tr} {av av' dv' jd jk jv kv kv' pv vv vv':Value} {u w w' w0 w3 w4 wx:World}
theorem qA6:type_of% (xb @List.getElem_toArray.{0} (xb @List.getElem_cons_succ.{0} (xb @List.getElem_cons_zero.{0} (xb @List.getElem?_toArray.{0} (xb @List.getElem?_cons_succ.{0} (@List.getElem?_cons_zero.{0})))))):=xb @List.getElem_toArray.{0} (xb @List.getElem_cons_succ.{0} (xb @List.getElem_cons_zero.{0} (xb @List.getElem?_toArray.{0} (xb @List.getElem?_cons_succ.{0} (@List.getElem?_cons_zero.{0})))))
theorem qB6:type_of% (xb @List.setIfInBounds_toArray.{0} (xb @List.set_cons_zero.{0} (@List.set_cons_succ.{0}))):=xb @List.setIfInBounds_toArray.{0} (xb @List.set_cons_zero.{0} (@List.set_cons_succ.{0}))
def zn (next:Int) (ad:List Nd) (top:Nd):Int×List Nd :=
 if zN top=true then(top.kids.headD 0,ad)
 else match(qC next ad top []).1 with
  | []=>(0,(qC next ad top []).2)
  | [b]=>(b.2,(qC next ad top []).2)
  | b::c::r=>(next+((qC next ad top []).2.length:Int),(qC next ad top []).2++[inr (b::c::r)])
def Zg (t:Tr):Nd:=if t.root=0 then lf [] else zw t.pages t.root
def JK (t:Tr) (key:Str) (ed:Nd->Nd) (d:Nat):Int×List Nd:=zn t.next (Qo t.pages t.next key ed d (Zg t) []).2 (Qo t.pages t.next key ed d (Zg t) []).1
def JO (t:Tr) (key:Str) (ed:Nd->Nd) (d:Nat):Tr:=⟨(JK t key ed d).1,t.next+((JK t key ed d).2.length:Int),t.pages++pgs t.next (JK t key ed d).2⟩
theorem VC (next:Int) (ad:List Nd) (top:Nd):ad.length<=(zn next ad top).2.length/\(zn next ad top).2.length<=ad.length+3:=by
 have h:=Ja next ad top []
 unfold zn
 split
 ·exact⟨xc _,by simp⟩
 split<;>simp<;>omega
def qbf (t:Tr) (d:Nat) (ps:List Pr):Prop:=(t.root=0/\d=0/\ps=[])\/(t.root≠0/\d<=15/\TOk t.pages d t.root [] none/\(qV t.pages d t.root).Nodup/\ps=pOf t.pages d t.root)
theorem qqo {s:Sw} (h:Qn t=some s):∃ d,qbf t d s.prs:=by
 unfold Qn at h
 split at h
 ·rename_i h0
  have:s=⟨[],none,[]⟩:=(k9 h).symm
  subst this;exact⟨0,.inl ⟨h0,rfl,rfl⟩⟩
 rename_i h0
 obtain⟨e,d,h1,h2,h3,h4,h5,h6,h7,h8⟩:=qgu 16 t.root [] none _ s h;exact⟨d,.inr ⟨h0,by omega,h4,h6,by simpa using h8⟩⟩
theorem qpk (h:qbf t d ps):∃ s,Qn t=some s/\s.prs=ps:=by
 unfold Qn;rcases h with ⟨h0,_,rfl⟩|⟨h0,hd,h1,h2,rfl⟩
 ·rw[xj h0];exact⟨_,rfl,rfl⟩
 rw[xh h0];have:=qq4 (l:=t.pages) (e:=15-d) d t.root [] none ⟨[],none,[]⟩ h1 h2 (fun i _=>by simp) (.inl rfl)
 rw[show 15-d+1+d=16 by omega] at this
 exact⟨_,this,by simp⟩
theorem Jf (h:qbf t d ps) (hl:ps.length<=4096):d<=12:=by
 rcases h with ⟨_,rfl,_⟩|⟨h0,hd,h1,h2,rfl⟩
 ·omega
 have h3:=h1.many
 have h4:2^d<=2^12:=by omega
 exact(Nat.pow_le_pow_iff_right (by omega)).1 h4
theorem qpz (k:Str):kin [] none k=true:=by simp[kin,qqm]
theorem qlp (h:qbf t d ps):NO t.pages d (Zg t) [] none/\qp (Zg t)<=244/\(d≠0->(Zg t).keys≠[])/\(nI t.pages d (Zg t)).Nodup/\nP t.pages d (Zg t)=ps:=by
 unfold Zg;rcases h with ⟨h0,rfl,rfl⟩|⟨h0,hd,h1,h2,rfl⟩
 ·rw[xj h0];refine⟨⟨[],rfl,⟨List.Pairwise.nil,(fun y hy=>by cases hy)⟩,(fun y hy=>by cases hy)⟩,by rw[zy];simp,fun h=>absurd rfl h,Km,rfl⟩
 rw[xh h0];obtain⟨nd,hN,h3,h4,h5⟩:=JR h1;rw[hN.at];refine⟨h3,hN.ok.2.2.2.2,fun h9=>?_,?_,h5.symm⟩
 ·have hl9:nd.leaf=false:=by rw[h3.leaf];simpa using h9
  obtain⟨a,b,c⟩:=ZD hN.ok hl9;rw[a];intro h;have h7:(brs nd).tail.map (·.1)=[]:=h
  exact c (List.map_eq_nil_iff.1 h7)
 rw[h4] at h2;exact(kh.1 h2).2
theorem TOk.is {lo:Str} {hi:Option Str} (h:TOk l d id lo hi):qH l id≠none:=by
 obtain⟨nd,⟨x,hx,_⟩,_⟩:=JR h;rw[hx];simp
theorem qdx:∀ {z:Int} {ad:List Nd} {i:Nat},i<ad.length->tid (pgs z ad) i=z+i
 | z,[],i,h=>by simp at h
 | z,n::r,0,h=>by simp[pgs,tid]
 | z,n::r,i+1,h=>by
  have ih:=qdx (z:=z+1) (ad:=r) (i:=i) (by simpa using h)
  have:tid (pgs z (n::r)) (i+1)=tid (pgs (z+1) r) i:=by simp[pgs,tid]
  rw[this,ih];push_cast;omega
theorem qa5 {a b:List Wrt} (h:i<a.length):tid (a++b) i=tid a i:=by unfold tid;rw[Xu h]
theorem qfr {a b:List Wrt} :tid (a++b) (a.length+i)=tid b i:=by unfold tid;rw[xY (by omega)];congr 3;omega
theorem qja {next:Int} (h:je next l l.length) (h1:1<=next) (ad:List Nd):je (next+ad.length) (l++pgs next ad) (l++pgs next ad).length:=by
 intro i hi;rw[xk,YG] at hi;by_cases hl:i<l.length
 ·rw[qa5 hl];obtain⟨a,b⟩:=h i hl;refine⟨?_,by omega⟩
  by_cases e:i=0
  ·rw[xj e] at a |-;exact a
  rw[xh e] at a |-;rw[qa5 (by omega)];exact a
 obtain⟨j,rfl⟩:∃ j,i=l.length+j:=⟨i-l.length,by omega⟩
 rw[qfr,qdx (by omega)]
 refine⟨?_,by omega⟩
 by_cases e:l.length+j=0
 ·rw[xj e];omega
 rw[xh e];by_cases hj:j=0
 ·subst hj;rw[XK,qa5 (by omega)]
  have:=(h (l.length-1) (by omega)).2
  omega
 rw[show l.length+j-1=l.length+(j-1) by omega,qfr,qdx (by omega)]
 omega
theorem qoo {key:Str} {upd:List Pr->List Pr} {ed:Nd->Nd} (hT:TNum t) (h:qbf t d ps) (hps:ps.length<=4096) (hE:EdOk key upd ed) (hM:t.next+((JK t key ed d).2.length:Int)<=65536) :
 (∀ x∈(JK t key ed d).2,NOk x)/\(JK t key ed d).2.length<=2*d+3/\TNum (JO t key ed d)/\∃ d',qbf (JO t key ed d) d' (upd ps):=by
 have hnl:∀ id x,qH t.pages id=some x->id<t.next:=fun id x h9=>(Yy hT.2.2.1 h9).2
 obtain⟨q1,q2,q3,q4,q5⟩:=qlp h;have hd:=Jf h hps
 have hl1:=Yt t.pages t.next key ed d (Zg t) []
 have R:=ql4 hnl hT.1 hE d (Zg t) [] none [] q1 q2 q3 (qpz key) q4
 unfold JO;unfold JK at hM |-;obtain⟨⟨top,ad⟩,hp⟩:∃ p,p=Qo t.pages t.next key ed d (Zg t) []:=⟨_,rfl⟩
 rw[<-hp] at hM R hl1 |-;dsimp only at hM R hl1 |-;have hl2:=VC t.next ad top
 replace R:=R (by omega)
 obtain⟨more,e1,hmok⟩:=R.more;rw[xG] at e1;subst e1;have hups:∀ ad9:List Nd,t.next+(ad9.length:Int)<=65536->∀ r,(r=0\/qH (t.pages++pgs t.next ad9) r≠none)->TNum ⟨r,t.next+(ad9.length:Int),t.pages++pgs t.next ad9⟩:=fun ad9 h9 r hr=>⟨by have:=hT.1;dsimp only;omega,h9,qja hT.2.2.1 hT.1 ad9,hr⟩
 have hlenr:(zn t.next ad top).2.length<=2*d+3:=by simp only[xX] at hl1;omega
 have hold:∀ i∈nI (lp t.pages t.next ad) d top,i<t.next+(ad.length:Int):=fun i hi=>by
  rcases R.ids i hi with h8|h8
  ·have hth:∀ i∈nI t.pages d (Zg t),i<t.next:=by
    cases d with
    | zero=>intro i hi;cases hi
    | succ d =>
     obtain⟨en,hb,hs,e1,e2⟩:=vE q1;rw[e2];exact hs.there hnl
   have:=hth i h8;omega
  omega
 by_cases hb:zN top=true
 ·have er:zn t.next ad top=(top.kids.headD 0,ad):=by unfold zn;rw[xj hb]
  rw[er] at hM hlenr |-;dsimp only at hM hlenr |-;obtain⟨e,b,rfl,hb0,hb1,hb2,hb3,hb4,hb5,hb6⟩:=qfh R.no hb;rw[hb0];refine⟨hmok,hlenr,hups ad hM b (.inr hb2.is),e,.inr ⟨?_,by omega,hb2,?_,?_⟩⟩
  ·show b≠0;omega
  ·show (qV (lp t.pages t.next ad) e b).Nodup
   rw[<-hb4];exact R.nod
  show upd ps=pOf (lp t.pages t.next ad) e b
  rw[<-hb3,R.prs,q5]
 have hnb:top.leaf=true\/top.keys≠[]:=by
  unfold zN at hb;cases hml:top.leaf with
  | true=>exact .inl rfl
  | false=>exact .inr fun h=>by rw[hml,h] at hb;simp at hb
 have er:zn t.next ad top=match(qC t.next ad top []).1 with
  | []=>(0,(qC t.next ad top []).2)
  | [b]=>(b.2,(qC t.next ad top []).2)
  | b::c::r=>(t.next+((qC t.next ad top []).2.length:Int),(qC t.next ad top []).2++[inr (b::c::r)]):=by unfold zn;rw[xh hb]
 have La:=qis (ahead:=[]) hnl hT.1 R.no R.siz R.nod hold
 rw[er] at hM hlenr hl2 |-;obtain⟨⟨bs,ad2⟩,hq⟩:∃ q,q=qC t.next ad top []:=⟨_,rfl⟩
 rw[<-hq] at hM La hlenr hl2 |-;dsimp only at hM La hlenr hl2 |-;have hprs:nP (lp t.pages t.next ad) d top=upd ps:=by rw[R.prs,q5]
 rw[hprs.symm]
 match bs,hM,La,hlenr,hl2 with
 | [],hM,La,hlenr,hl2 =>
  dsimp only at hM hlenr |-;have L:=La hM hnb
  obtain⟨m2,rfl,_,hok2⟩:=L.more;refine⟨fun x hx=>?_,hlenr,hups _ hM 0 (.inl rfl),0,.inl ⟨rfl,rfl,?_⟩⟩
  ·rcases xu.1 hx with h9|h9
   ·exact hmok x h9
   exact hok2 x h9
  rw[<-L.prs];rfl
 | [b],hM,La,hlenr,hl2 =>
  dsimp only at hM hlenr |-;have L:=La hM hnb
  obtain⟨m2,rfl,_,hok2⟩:=L.more
  have hs:TOk (lp t.pages t.next (ad++m2)) d b.2 [] none:=by
   rcases L.seg with h9|⟨k,r,e,h9⟩
   ·cases h9.1
   exact h9
  have hb9:=L.br.2 b (XP ..)
  have hn9:=L.nod
  have hp9:=L.prs
  simp only[QI,Qp,xO,XI,xK] at hn9 hp9;refine⟨fun x hx=>?_,hlenr,hups _ hM b.2 (.inr hs.is),d,.inr ⟨?_,by omega,hs,hn9,hp9.symm⟩⟩
  ·rcases xu.1 hx with h9|h9
   ·exact hmok x h9
   exact hok2 x h9
  show b.2≠0;omega
 | b::c::r,hM,La,hlenr,hl2 =>
  dsimp only at hM hlenr |-;have hM2:t.next+(ad2.length:Int)+1<=65536:=by simp at hM;omega
  have L:=La (by omega) hnb
  obtain⟨m2,rfl,_,hok2⟩:=L.more;have hr:r=[]:=by have:=L.len;simp at this;exact this
  subst hr
  have hs:Seg (lp t.pages t.next (ad++m2)) d [] none [b,c]:=by
   rcases L.seg with h9|⟨k,r,e,h9⟩
   ·cases h9.1
   exact h9
  have hc:=L.br.1 c (by simp)
  have hok:NOk (inr [b,c]):=qc9 hs.keys.1 L.br (by simp) (by rw[Zk];simp[bw];omega)
  have hx:=YH t.pages t.next (ad++m2) [inr [b,c]]
  have his:NdIs (lp t.pages t.next (ad++m2++[inr [b,c]])) (t.next+((ad++m2).length:Int)) (inr [b,c]):=vq hnl hok
  obtain⟨t1,t2,t3⟩:=Vl his (hs.ext hx);have es:=yv hx hs.each
  rw[es.1,L.prs] at t3;rw[es.2] at t2;refine⟨fun x hx=>?_,hlenr,hups _ hM _ (.inr t1.is),d+1,.inr ⟨?_,by omega,t1,?_,t3.symm⟩⟩
  ·simp only[xu,ku] at hx;rcases hx with (h9|h9)|h9
   ·exact hmok x h9
   ·exact hok2 x h9
   subst h9;exact hok
  ·have:=hT.1
   dsimp only;omega
  dsimp only;rw[t2,kh];refine⟨fun h9=>?_,L.nod⟩;rcases L.ids _ h9 with h8|h8
  ·have:=hold _ h8
   simp only[xk] at this;omega
  omega
def jF (key v:Str) (ps:List Pr):List Pr:=ps.filter (fun y=>slt y.1 key)++(key,v)::ps.filter (fun y=>slt key y.1)
def ZW (key:Str) (ps:List Pr):List Pr:=ps.filter (fun y => !(y.1 == key))
def Jd (key v:Str) (n:Nd):Nd :=
 if jQ n key=true then⟨n.leaf,n.keys,n.vals.set (Qf n key).toNat v,n.kids⟩
 else⟨n.leaf,n.keys.take (Qf n key).toNat++key::n.keys.drop (Qf n key).toNat,n.vals.take (Qf n key).toNat++v::n.vals.drop (Qf n key).toNat,n.kids⟩
def J6 (key:Str) (n:Nd):Nd :=
 if jQ n key=true then⟨n.leaf,n.keys.take (Qf n key).toNat++n.keys.drop ((Qf n key).toNat+1),n.vals.take (Qf n key).toNat++n.vals.drop ((Qf n key).toNat+1),n.kids⟩
 else n
theorem Q6 {α : Type} {p : α -> Bool} {l:List α} (h:∀ y∈l,p y=true):l.filter p=l:=List.filter_eq_self.2 h
theorem jP {α : Type} {p : α -> Bool} {l:List α} (h:∀ y∈l,p y=false):l.filter p=[]:=List.filter_eq_nil_iff.2 fun y hy=>by rw[h y hy];simp
theorem Vk (hp:qek ps) (hs:qp (lf ps)<=244) (key:Str):∃ A C:List Pr,(Qf (lf ps) key).toNat=A.length/\Qf (lf ps) key=(A.length:Int)/\(∀ y∈A,slt y.1 key=true)/\(∀ y∈C,slt key y.1=true)/\
 ((jQ (lf ps) key=true/\∃ v,ps=A++(key,v)::C)\/(jQ (lf ps) key=false/\ps=A++C)):=by
 have hok:=qao hp hs
 have hz:=(ze _).2 hok
 obtain⟨i,a1,a2,a3,a4,a5⟩:=vx key (lf ps).keys hp.1;have hf:Qf (lf ps) key=(i:Int):=by unfold Qf;rw[xj hz];exact a1
 have hh:jQ (lf ps) key=nis key (lf ps).keys:=by unfold jQ;rw[xj hz]
 have hil:i<=ps.length:=by simpa[lf] using a2
 have hA:∀ y∈ps.take i,slt y.1 key=true:=fun y hy=>by
  obtain⟨j,hj,e⟩:=Xw hy;have hj':j<i:=by simp at hj;omega
  have hj2:j<ps.length:=by omega
  refine a4 j y.1 hj' ?_;rw[List.getElem_take] at e;simp[lf,hj2,e]
 have hge:∀ y∈ps.drop i,slt y.1 key=false:=fun y hy=>by
  obtain⟨j,hj,e⟩:=Xw hy;have hj2:i+j<ps.length:=by simp at hj;omega
  refine a5 (i+j) y.1 (by omega) ?_
  rw[List.getElem_drop] at e;simp[lf,hj2,e]
 cases hn:nis key (lf ps).keys with
 | true =>
  have hk:=a3 hn
  have hlt:i<ps.length:=by
   have:=(xn.1 hk).1
   simpa[lf] using this
  have e:ps=ps.take i++ps[i]::ps.drop (i+1):=by rw[<-Xv hlt,x7]
  have hk1:ps[i].1=key:=by simpa[lf,hlt] using hk
  have hr:jf (ps.map (·.1)):=hp.1
  refine⟨ps.take i,ps.drop (i+1),by rw[hf,xp];omega,by rw[hf,xp];congr 1;omega,hA,fun y hy=>?_,.inl ⟨by rw[hh,hn],ps[i].2,?_⟩⟩
  ·rw[e,Xj,Xn] at hr;have:=(kJ.1 (Kd.1 hr).2.1).1 y.1 (Xx.2 ⟨y,hy,rfl⟩)
   rw[hk1] at this;exact this
  rw[<-hk1];exact e
 | false =>
  refine⟨ps.take i,ps.drop i,by rw[hf,xp];omega,by rw[hf,xp];congr 1;omega,hA,fun y hy=>?_,.inr ⟨by rw[hh,hn],(x7 i ps).symm⟩⟩
  rcases jI y.1 key with h|h|h
  ·rw[hge y hy] at h;cases h
  ·exfalso
   have:nis key (lf ps).keys=true:=by
    unfold nis;exact List.any_eq_true.2 ⟨y.1,Xx.2 ⟨y,Kx hy,rfl⟩,by simp[h]⟩
   rw[hn] at this;cases this
  exact h
theorem qim {key:Str} (hA:∀ y∈A,slt y.1 key=true) (hC:∀ y∈C,slt key y.1=true):jF key v (A++C)=A++(key,v)::C/\∀ u,jF key v (A++(key,u)::C)=A++(key,v)::C:=by
 have h1:=Q6 hA
 have h2:A.filter (fun y=>slt key y.1)=[]:=jP fun y hy=>Qb (hA y hy)
 have h3:=Q6 hC
 have h4:C.filter (fun y=>slt y.1 key)=[]:=jP fun y hy=>Qb (hC y hy)
 refine⟨?_,fun u=>?_⟩
 ·unfold jF;rw[X6,X6,h1,h2,h3,h4];simp
 unfold jF;simp only[X6,X7,qU,h1,h2,h3,h4];simp
theorem qif {key:Str} (hA:∀ y∈A,slt y.1 key=true) (hC:∀ y∈C,slt key y.1=true):ZW key (A++C)=A++C/\∀ u,ZW key (A++(key,u)::C)=A++C:=by
 have h1:A.filter (fun y => !(y.1 == key))=A:=Q6 fun y hy=>by rw[qaj (hA y hy)];rfl
 have h3:C.filter (fun y => !(y.1 == key))=C:=Q6 fun y hy=>by rw[Vo (hC y hy)];rfl
 refine⟨?_,fun u=>?_⟩
 ·unfold ZW;rw[X6,h1,h3]
 unfold ZW;rw[X6,X7,h1,h3];simp
theorem qml (key v:Str) (A X C:List Pr) (hA:∀ y∈A,slt y.1 key=true) (hC:∀ y∈C,slt key y.1=true):jF key v (A++X++C)=A++jF key v X++C:=by
 have h1:=Q6 hA
 have h2:A.filter (fun y=>slt key y.1)=[]:=jP fun y hy=>Qb (hA y hy)
 have h3:=Q6 hC
 have h4:C.filter (fun y=>slt y.1 key)=[]:=jP fun y hy=>Qb (hC y hy)
 unfold jF;simp only[X6,h1,h2,h3,h4];simp
theorem qou (key:Str) (A X C:List Pr) (hA:∀ y∈A,slt y.1 key=true) (hC:∀ y∈C,slt key y.1=true):ZW key (A++X++C)=A++ZW key X++C:=by
 have h1:A.filter (fun y => !(y.1 == key))=A:=Q6 fun y hy=>by rw[qaj (hA y hy)];rfl
 have h3:C.filter (fun y => !(y.1 == key))=C:=Q6 fun y hy=>by rw[Vo (hC y hy)];rfl
 unfold ZW;simp only[X6,h1,h3]
theorem qel {key:Str} (h:jf ((A++C).map (·.1))) (hA:∀ y∈A,slt y.1 key=true) (hC:∀ y∈C,slt key y.1=true):jf ((A++(key,v)::C).map (·.1)):=by
 rw[Xj] at h;obtain⟨h1,h2,h3⟩:=Kd.1 h;rw[Xj,Xn];refine Kd.2 ⟨h1,kJ.2 ⟨fun y hy=>?_,h2⟩,fun a ha b hb=>?_⟩
 ·obtain⟨z,hz,rfl⟩:=Xx.1 hy;exact hC z hz
 obtain⟨z,hz,rfl⟩:=Xx.1 ha;rcases xU.1 hb with rfl|hb
 ·exact hA z hz
 exact h3 _ ha _ hb
theorem qnq {key:Str} (hk:1<=key.length/\key.length<=32) (hv:v.length<=64):EdOk key (jF key v) (Jd key v):=by
 refine⟨fun ps hp hs=>?_,fun A X C=>qml key v A X C⟩;obtain⟨A,C,e0,e1,hA,hC,h⟩:=Vk hp hs key;rw[zy] at hs;unfold Jd;rw[e0];rcases h with ⟨hh,u,rfl⟩|⟨hh,rfl⟩
 ·rw[xj hh,(qim hA hC).2 u]
  have hr:jf ((A++C).map (·.1)):=by
   have:=hp.1
   rw[Xj,Xn] at this;rw[Xj];exact this.sublist (List.Sublist.append_left (List.sublist_cons_self _ _) _)
  refine⟨?_,⟨qel hr hA hC,fun y hy=>?_⟩,?_,fun y hy=>?_⟩
  ·simp[lf]
  ·simp only[xu,xU] at hy;rcases hy with hy|rfl|hy
   ·exact hp.2 y (by simp[hy])
   ·exact⟨hk,hv⟩
   exact hp.2 y (by simp[hy])
  ·rw[zy];simp only[Xj,Xn,List.sum_append,kf,pw] at hs |-
   push_cast at hs |-
   omega
  simp only[xu,xU] at hy |-;rcases hy with hy|rfl|hy
  ·exact .inl (.inl hy)
  ·exact .inr rfl
  exact .inl (.inr (.inr hy))
 rw[xh (by rw[hh];decide),(qim hA hC).1]
 refine⟨?_,⟨qel hp.1 hA hC,fun y hy=>?_⟩,?_,fun y hy=>?_⟩
 ·simp[lf]
 ·simp only[xu,xU] at hy;rcases hy with hy|rfl|hy
  ·exact hp.2 y (by simp[hy])
  ·exact⟨hk,hv⟩
  exact hp.2 y (by simp[hy])
 ·rw[zy];simp only[Xj,Xn,List.sum_append,kf,pw] at hs |-
  push_cast at hs |-
  omega
 simp only[xu,xU] at hy |-;rcases hy with hy|rfl|hy
 ·exact .inl (.inl hy)
 ·exact .inr rfl
 exact .inl (.inr hy)
theorem qo1 (key:Str):EdOk key (ZW key) (J6 key):=by
 refine⟨fun ps hp hs=>?_,fun A X C=>qou key A X C⟩;obtain⟨A,C,e0,e1,hA,hC,h⟩:=Vk hp hs key;rw[zy] at hs;unfold J6;rw[e0];rcases h with ⟨hh,u,rfl⟩|⟨hh,rfl⟩
 ·rw[xj hh,(qif hA hC).2 u];have hsub:List.Sublist (A++C) (A++(key,u)::C):=List.Sublist.append_left (List.sublist_cons_self _ _) _
  refine⟨?_,⟨hp.1.sublist (hsub.map _),fun y hy=>hp.2 y (hsub.subset hy)⟩,?_,fun y hy=>.inl (hsub.subset hy)⟩
  ·have hd:∀ (x:Str) (a c:List Str),a.length=A.length->(a++x::c).drop (A.length+1)=c:=fun x a c h=>by rw[<-h,<-List.drop_drop];simp
   simp[lf];exact⟨hd _ _ _ (by simp),hd _ _ _ (by simp)⟩
  rw[zy];simp only[Xj,Xn,List.sum_append,kf,pw] at hs |-
  push_cast at hs |-
  omega
 rw[xh (by rw[hh];decide),(qif hA hC).1]
 exact⟨rfl,hp,by rw[zy];omega,fun y hy=>.inl hy⟩
open Go.RowKit
def qm2 (bs:List Br):Prop:=∀ b∈bs.tail,1<=b.1.length/\b.1.length<=32
def ShN:Nat->Nd->Prop
 | 0,n=>∃ ps,n=lf ps/\qek ps/\qp n<=342
 | _+1,n=>∃ bs,n=inr bs/\bs≠[]/\qm2 bs/\qp n<=281
theorem qgj {α : Type} (f : α -> Nat) (c:Nat) (h:∀ x,c<=f x):∀ l:List α,c*l.length<=(l.map f).sum
 | []=>by simp
 | a::l=>by
  have h1:=qgj f c h l
  have h2:=h a
  simp only[Xn,kf,xC,Nat.mul_add];omega
theorem YX (ws:List Nat) (j:Nat):(ws.take j).sum<=ws.sum/\(ws.drop j).sum<=ws.sum:=by
 have:=Jb ws j
 omega
structure ShOk (n:Nd):Prop where
 len:n.keys.length<=200
 cnt:(n.leaf=true/\n.vals.length=n.keys.length)\/(n.leaf=false/\n.kids.length=n.keys.length+1)
 bd:NBd n
 mid:244<qp n->qX n<n.keys.length
theorem ShN.ok (h:ShN d n):ShOk n:=by
 cases d with
 | zero =>
  obtain⟨ps,rfl,hp,hs⟩:=h;have hsz:=zy ps
  have hlen:=qgj pw 2 (fun y=>by unfold pw;omega) ps
  have hk:(lf ps).keys.length=ps.length:=by simp[lf]
  have hw:∀ y∈ps,pw y<=98:=fun y hy=>by have:=hp.2 y hy;unfold pw;omega
  refine⟨by omega,.inl ⟨rfl,by simp[lf]⟩,⟨⟨by omega,by omega⟩,fun i hi=>?_,fun i hi=>?_⟩,fun h1=>?_⟩
  ·rw[YO,zy,kV];have:=(YX (ps.map pw) i).1
   omega
  ·rw[Vq,zy,kK];have:=(YX (ps.map pw) i).2
   omega
  rw[hk];exact(qez hw h1 hs).2.1
 | succ d =>
  obtain⟨bs,rfl,h0,hk,hs⟩:=h;cases bs with
  | nil=>exact absurd rfl h0
  | cons b r =>
   have hsz:=Zk b r
   have hlen:=qgj bw 5 (fun y=>by unfold bw;omega) r
   have hkl:(inr (b::r)).keys.length=r.length:=by simp[inr]
   have hw:∀ y∈r,bw y<=37:=fun y hy=>by have:=hk y (by simpa using hy);unfold bw;omega
   refine⟨by omega,.inr ⟨rfl,by simp[inr]⟩,⟨⟨by omega,by omega⟩,fun i hi=>?_,fun i hi=>?_⟩,fun h1=>?_⟩
   ·rw[ym,Zk,kV];have:=(YX (r.map bw) i).1
    omega
   ·rw[hkl] at hi;rw[YC];have e:r.drop i=r[i]::r.drop (i+1):=Xv hi
    rw[e,Zk,kK];have:=(YX (r.map bw) (i+1)).2
    omega
   rw[hkl];have:=(qi5 hw h1 hs).2.1
   omega
theorem qbv (B:Nat) (w:World) (gc g:Nat) (next:Int) (av:Value) (ns:List NV) (n:Nd) (kv vv dv:Value) (ahead:Str) (h:ChI B w gc g next av ns) (hA:AllK w ns) (hB:B<=w.heap.size) (hg:∀ b,av.ownBlock=some b->b≠g) (hgc:gc≠g) (hns:ns.length<=900) (hnx:0<=next/\next<=65536) (hr:RdK w kv vv dv n) (hs:ShOk n) :
 Calls Tryz.prog 81 #[.pointer (some ⟨gc,0,none⟩),nv n kv vv dv,st ahead] w fun e w'=>LdR B gc g next av ns n ahead w w' e:=by
 by_cases hk0:n.keys.length=0
 ·exact qg1 B w gc g next av ns n kv vv dv ahead h hA hB hg hgc hns hnx hr hk0
 by_cases h1:qp n<=244
 ·exact qkh B w gc g next av ns n kv vv dv ahead h hA hB hg hgc hns hnx hr hk0 h1 hs.bd.self.1
 exact qkt B w gc g next av ns n kv vv dv ahead h hA hB hg hgc hns hnx hr hk0 (by have:=hs.len;omega) hs.cnt hs.bd (by omega) (hs.mid (by omega))
theorem jr (h:ShN d n) (next:Int) (ad:List Nd) (ahead:Str):(qC next ad n ahead).1.length<=2/\qm2 (qC next ad n ahead).1/\(∀ b r,(qC next ad n ahead).1=b::r->b.1=ahead)/\((qC next ad n ahead).1=[]->n.keys=[]):=by
 unfold qC
 split
 ·rename_i h0
  exact⟨by simp,(fun b hb=>by cases hb),(fun b r e=>by cases e),fun _=>xq h0⟩
 split
 ·exact⟨by simp,(fun b hb=>by cases hb),(fun b r e=>by simp at e;rw[<-e.1]),(fun e=>by simp at e)⟩
 rename_i h0 h1
 refine⟨by simp,fun b hb=>?_,(fun b r e=>by simp at e;rw[<-e.1]),(fun e=>by simp at e)⟩
 simp only[Xa,ku] at hb;subst hb;have hm:=h.ok.mid (by omega)
 cases d with
 | zero =>
  obtain⟨ps,rfl,hp,hs⟩:=h;have hml:qX (lf ps)<ps.length:=by simpa[lf] using hm
  have e:(lf ps).keys.getD (qX (lf ps)) []=(ps[qX (lf ps)]'hml).1:=by
   rw[xe];show ((ps.map (·.1))[qX (lf ps)]?).getD []=_
   rw[XT,xg hml];rfl
  show 1<=((lf ps).keys.getD (qX (lf ps)) []).length/\_
  rw[e];exact(hp.2 _ (Xy hml)).1
 | succ d =>
  obtain⟨bs,rfl,hb0,hk,hs⟩:=h;have hml:qX (inr bs)<bs.tail.length:=by simpa[inr] using hm
  have e:(inr bs).keys.getD (qX (inr bs)) []=(bs.tail[qX (inr bs)]'hml).1:=by
   rw[xe];show ((bs.tail.map (·.1))[qX (inr bs)]?).getD []=_
   rw[XT,xg hml];rfl
  show 1<=((inr bs).keys.getD (qX (inr bs)) []).length/\_
  rw[e];exact hk _ (Xy hml)
theorem yU {Y:List Br} {y:Br} (hb:qm2 (P++(y::Y)++S)) (hs:qp (inr (P++(y::Y)++S))<=244) (hn:now.length<=2) (hk:qm2 now) (hf:∀ b r,now=b::r->b.1=y.1) (h0:P++now++S≠[]) (d:Nat):ShN (d+1) (inr (P++now++S)):=by
 have hpn:P++(y::Y)++S≠[]:=by simp
 rw[qY hpn] at hs;refine⟨_,rfl,h0,fun b hb9=>?_,?_⟩
 ·cases P with
  | nil =>
   cases now with
   | nil=>exact hb b (by simp only[xG,xD,Xa,xu] at hb9 |-;exact .inr (List.mem_of_mem_tail hb9))
   | cons z r =>
    simp only[xG,xD,Xa,xu] at hb9;rcases hb9 with h|h
    ·exact hk b (by simpa using h)
    exact hb b (by simp[h])
  | cons p P =>
   simp only[xD,Xa,xu] at hb9;rcases hb9 with (h|h)|h
   ·exact hb b (by simp[h])
   ·cases now with
    | nil=>cases h
    | cons z r =>
     rcases xU.1 h with rfl|h
     ·rw[hf _ _ rfl];exact hb y (by simp)
     exact hk b (by simpa using h)
   exact hb b (by simp[h])
 rw[qY h0];cases now with
 | nil =>
  cases P with
  | nil =>
   have:tw S.tail<=tw S:=by cases S with|nil=>simp[tw]|cons a r=>simp[tw]
   simp only[xG,xD,Xa,jt] at hs |-
   push_cast at hs |-;omega
  | cons p P=>simp only[xD,Xa,jt,xK] at hs |-;push_cast at hs |-;omega
 | cons z r =>
  have hr:tw r<=37:=by
   have h1:=qq1 (bs:=r) (fun b hb9=>(hk b (by simpa using hb9)).2)
   have h2:=hn
   simp only[xC] at h2;have:37*r.length<=37:=by omega
   omega
  cases P with
  | nil=>simp only[xG,xD,Xa,jt] at hs |-;push_cast at hs |-;omega
  | cons p P =>
   have e1:tw (z::r)=bw y+tw r:=by simp[tw,bw,hf _ _ rfl]
   have e2:tw (y::Y)=bw y+tw Y:=by simp[tw,bw]
   simp only[xD,Xa,jt,e1,e2] at hs |-;push_cast at hs |-;omega
structure Way (l:List Wrt) (d:Nat) (n:Nd) (key:Str) (k:Nat) (P:List Br) (X:Br) (S:List Br) (nd:Nd) (lo':Str) (hi':Option Str):Prop where
 fnd:Qf n key=(k:Int)
 brs:brs n=P++[X]++S
 len:P.length=k
 kid:n.kids[k]?=some X.2
 isn:NdIs l X.2 nd
 no:NO l d nd lo' hi'
 kl:qm2 (P++[X]++S)
 two:2<=(P++[X]++S).length
 sib:∀ (i:Nat) (b:Br),(P++[X]++S)[i]?=some b->n.kids[i]?=some b.2/\∃ sb lo hi,NdIs l b.2 sb/\NO l d sb lo hi
 keys:∀ (i:Nat) (b:Br),(P++[X]++S)[i+1]?=some b->n.keys[i]?=some b.1
 prs:nP l (d+1) n=Qp l d P++nP l d nd++Qp l d S
 lt:∀ y∈Qp l d P,slt y.1 key=true
 gt:∀ y∈Qp l d S,slt key y.1=true
 ids:∀ i∈qV l d X.2,i∈nI l (d+1) n
theorem qny {lo:Str} {hi:Option Str} (hN:NO l (d+1) n lo hi) (hsz:qp n<=244) (hkn:n.keys≠[]) (key:Str):∃ k P X S nd lo' hi',Way l d n key k P X S nd lo' hi':=by
 have hok:NOk n:=hN.ok hkn hsz
 obtain⟨en,hb,hs,e1,e2⟩:=vE hN;have hz:=(ze n).2 hok
 obtain⟨k,f1,f2,f3,f4⟩:=Jn key n.keys (Ye hok.1).1;have hlf:n.leaf=false:=by have:=hN.leaf;simpa using this
 have hfk:Qf n key=(k:Int):=by unfold Qf;rw[xj hz,hlf,f1]
 have hkids:=Q9 hok hlf
 have hbl:(brs n).length=n.kids.length:=Ju hkids
 have hkl:k<(brs n).length:=by omega
 have hkeys:n.keys=(brs n).tail.map (·.1):=by
  have:=XE Nd.keys en
  exact this
 have hkd:n.kids=(brs n).map (·.2):=by
  have:=XE Nd.kids en
  exact this
 have eb:=qfm hkl
 have eb':brs n=(brs n).take k++[(brs n)[k]]++(brs n).drop (k+1):=by
  rw[xz];exact eb
 have hn2:2<=(brs n).length:=by
  have:n.keys.length≠0:=fun h=>hkn (xq h)
  omega
 have hX:=hs.each (brs n)[k] (Xy hkl)
 obtain⟨lo',hi',hT⟩:=hX;obtain⟨nd,hNd,hNO,hni,hnp⟩:=JR hT;have hXX:∀ j c,(brs n)[j+1]?=some c->n.keys[j]?=some c.1:=fun j c h=>by rw[hkeys,XT,List.getElem?_tail,h];rfl
 have hs3:=hs
 rw[eb',qhl] at hs3;obtain⟨s1,s2,s3⟩:=hs3;refine⟨k,(brs n).take k,(brs n)[k],(brs n).drop (k+1),nd,lo',hi',hfk,eb',by rw[xp];omega,by rw[hkd];simp[hkl],hNd,hNO,by rw[<-eb'];exact hb.1,by rw[<-eb'];exact hn2,fun i b hi9=>?_,fun i b hi9=>?_,?_,?_,?_,?_⟩
 ·rw[<-eb'] at hi9;refine⟨by rw[hkd,XT,hi9];rfl,?_⟩
  obtain⟨lo2,hi2,hT2⟩:=hs.each b (xQ hi9);obtain⟨sb,h1,h2,_⟩:=JR hT2;exact⟨sb,lo2,hi2,h1,h2⟩
 ·rw[<-eb'] at hi9;rw[hkeys,XT,List.getElem?_tail,hi9];rfl
 ·rw[e1,<-hnp]
  conv=>lhs;rw[eb',Zx,Zx]
  simp[Qp]
 ·intro y hy;rcases s1 with s1|s1
  ·rw[s1] at hy;simp[Qp] at hy
  have h9:=Seg.kin s1 y hy
  simp only[Go.Proofs.YtfjadfnjmpefkaaGreat.kin,xL] at h9
  have hk1:0<k:=by
   have hne:=s1.ne
   rcases Nat.eq_zero_or_pos k with h|h
   ·subst h;simp at hne
   exact h
  exact zx h9.2 (f3 (k-1) _ (by omega) (hXX (k-1) _ (by rw[show k-1+1=k by omega];exact xg hkl)))
 ·intro y hy;rcases s3 with s3|⟨c,r,hcr,s3⟩
  ·rw[s3] at hy;simp[Qp] at hy
  have h9:=Seg.kin s3 y hy
  simp only[Go.Proofs.YtfjadfnjmpefkaaGreat.kin,xL,Xl] at h9
  have hc9:(brs n)[k+1]?=some c:=by
   have:((brs n).drop (k+1))[0]?=some c:=by rw[hcr];rfl
   rw[XQ] at this
   simpa using this
  exact zx (f4 k c.1 (xc _) (hXX k c hc9)) h9.1
 intro i hi9;rw[e2];exact kM.2 ⟨(brs n)[k],Xy hkl,hi9⟩
theorem NdIs.small {lo:Str} {hi:Option Str} (h:NdIs l id nd) (hN:NO l d nd lo hi):qp nd<=244/\(d≠0->nd.keys≠[]):=by
 refine⟨h.ok.2.2.2.2,fun h9=>?_⟩;have hl9:nd.leaf=false:=by rw[hN.leaf];simpa using h9
 obtain⟨a,b,c⟩:=ZD h.ok hl9;rw[a];intro h;have h7:(Go.Proofs.YtfjadfnjmpefkaaGreat.brs nd).tail.map (·.1)=[]:=h
 exact c (List.map_eq_nil_iff.1 h7)
theorem YM (h:ShN d m) (hb:zN m=true):∃ e b,d=e+1/\m.kids.headD 0=b/\brs m=[([],b)]/\m.kids.length=m.keys.length+1/\m.keys=[]:=by
 unfold zN at hb;simp only[xL,Xl,XU] at hb;have hk:m.keys=[]:=xq hb.2
 cases d with
 | zero =>
  obtain⟨ps,rfl,_⟩:=h;cases hb.1
 | succ e =>
  refine⟨e,_,rfl,rfl,?_,?_,hk⟩
  ·show ([],m.kids.headD 0)::m.keys.zip m.kids.tail=_
   rw[hk];rfl
  rcases h.ok.cnt with h9|h9
  ·rw[hb.1] at h9;cases h9.1
  exact h9.2
theorem qgg {key:Str} {X:Br} {lo':Str} {hi':Option Str} (W:Way l d n key k P X S nd lo' hi') (ih:ShN d m) (hbare:zN m=true):ShN d (QL l n (k-1) k m):=by
 have hbX:(P++[X]++S)[k]?=some X:=by rw[xz,xY (by rw[W.len];exact xc _),W.len];simp
 obtain⟨e,b,rfl,hb0,hb1,hb2,hb3⟩:=YM ih hbare;by_cases hk1:k=0
 ·subst hk1;have hP0:P=[]:=xq W.len
  subst hP0;cases S with
  | nil=>have:=W.two;simp at this
  | cons c r =>
   have hc1:([]++[X]++c::r:List Br)[1]?=some c:=rfl
   obtain⟨hs1,sb,lo2,hi2,hsb,hsn⟩:=W.sib 1 c hc1;have hkey:=W.keys 0 c hc1
   have hjn:QL l n (0-1) 0 m=inr ([([],b)]++(c.1,sb.kids.headD 0)::(brs sb).tail):=by
    unfold QL;simp only[Nat.zero_sub,kS,XD];have q1:n.kids.getD 1 0=c.2:=by rw[xe,hs1];rfl
    have q2:n.keys.getD 0 []=c.1:=by rw[xe,hkey];rfl
    rw[q1,q2,hb1,hsb.at]
   rw[hjn];have hlb:sb.leaf=false:=by have:=hsn.leaf;simpa using this
   obtain⟨g1,g2,g3⟩:=ZD hsb.ok hlb;refine⟨_,rfl,by simp,fun x hx9=>?_,?_⟩
   ·simp only[xD,xG,Xa,xU] at hx9;rcases hx9 with rfl|hx9
    ·exact W.kl c (by simp)
    exact g2.1 x hx9
   rw[xD,xG,qY (by simp)]
   have h7:=hsb.ok.2.2.2.2
   have h8:1<=c.1.length/\c.1.length<=32:=W.kl c (by simp)
   rw[g1,qY (by unfold Go.Proofs.YtfjadfnjmpefkaaGreat.brs;simp)] at h7
   simp only[Xa,tw,Xn,kf,bw] at h7 |-
   push_cast
   omega
 obtain⟨P',c,rfl⟩:∃ P' c,P=P'++[c]:=by
  rcases List.eq_nil_or_concat P with h|⟨P',c,h⟩
  ·subst h;have:=W.len;simp at this;omega
  exact⟨P',c,by simpa using h⟩
 have hPl':P'.length=k-1:=by have:=W.len;simp at this;omega
 have ebs:P'++[c]++[X]++S=P'++(c::[X])++S:=by simp
 have hc1:(P'++[c]++[X]++S)[k-1]?=some c:=by rw[ebs,xz,xY (by omega),hPl'];simp
 have hk2:k-1+1=k:=by omega
 obtain⟨hs1,sb,lo2,hi2,hsb,hsn⟩:=W.sib (k-1) c hc1;have hkey:=W.keys (k-1) X (by rw[hk2];exact hbX)
 have hjn:QL l n (k-1) k m=inr (brs sb++[(X.1,b)]):=by
  unfold QL;rw[xh (by omega),xh (by omega)]
  have q1:n.kids.getD (k-1) 0=c.2:=by rw[xe,hs1];rfl
  have q2:n.keys.getD (k-1) []=X.1:=by rw[xe,hkey];rfl
  rw[q1,q2,hb1,hb0,hsb.at];rfl
 rw[hjn];have hlb:sb.leaf=false:=by have:=hsn.leaf;simpa using this
 obtain⟨g1,g2,g3⟩:=ZD hsb.ok hlb;have hXk:1<=X.1.length/\X.1.length<=32:=W.kl X (by cases P'<;>simp)
 refine⟨_,rfl,by simp,fun x hx9=>?_,?_⟩
 ·have hx8:x∈(brs sb).tail\/x=(X.1,b):=by
   unfold Go.Proofs.YtfjadfnjmpefkaaGreat.brs at hx9 |-
   simpa using hx9
  rcases hx8 with hx8|rfl
  ·exact g2.1 x hx8
  exact hXk
 rw[qY (by simp)]
 have h7:=hsb.ok.2.2.2.2
 rw[g1,qY (by unfold Go.Proofs.YtfjadfnjmpefkaaGreat.brs;simp)] at h7
 have h6:(brs sb++[(X.1,b)]).tail=(brs sb).tail++[(X.1,b)]:=by unfold Go.Proofs.YtfjadfnjmpefkaaGreat.brs;simp
 rw[h6,jt];simp only[tw,Xn,List.map_nil,kf,List.sum_nil,bw] at h7 |-
 push_cast
 omega
theorem vt {l:List Wrt} {next:Int} {key:Str} {upd:List Pr->List Pr} {ed:Nd->Nd} (hE:EdOk key upd ed) :
 ∀ (d:Nat) (n:Nd) (lo:Str) (hi:Option Str) (ad:List Nd),NO l d n lo hi->qp n<=244->(d≠0->n.keys≠[])->ShN d (Qo l next key ed d n ad).1
 | 0,n,lo,hi,ad,hN,hsz,_=>by
  obtain⟨ps,rfl,hp,hin⟩:=hN;obtain⟨e,a1,a2,a3⟩:=hE.leaf ps hp hsz;show ShN 0 (ed (lf ps))
  rw[e];exact⟨_,rfl,a1,a2⟩
 | d+1,n,lo,hi,ad,hN,hsz,hk0=>by
  obtain⟨k,P,X,S,nd,lo',hi',W⟩:=qny hN hsz (hk0 (by omega)) key
  obtain⟨en,_⟩:=vE hN;have hfk:(Qf n key).toNat=k:=by rw[W.fnd];simp
  have hsm:=W.isn.small W.no
  have ih:=vt (next:=next) hE d nd lo' hi' ad W.no hsm.1 hsm.2
  simp only[Qo];rw[hfk];have hgk:n.kids.getD k 0=X.2:=by rw[xe,W.kid];rfl
  rw[hgk,W.isn.at];obtain⟨⟨m,ad1⟩,hp⟩:∃ p,p=Qo l next key ed d nd ad:=⟨_,rfl⟩
  rw[<-hp] at ih |-;dsimp only at ih |-;have hbX:(P++[X]++S)[k]?=some X:=by rw[xz,xY (by rw[W.len];exact xc _),W.len];simp
  rw[en,W.brs] at hsz;rw[W.brs];by_cases hbare:zN m=true
  ·rw[xj hbare];dsimp only;obtain⟨e,b,rfl,hb0,hb1,hb2,hb3⟩:=YM ih hbare;by_cases hk1:k=0
   ·subst hk1;have hP0:P=[]:=xq W.len
    subst hP0;cases S with
    | nil=>have:=W.two;simp at this
    | cons c r =>
     have hc1:([]++[X]++c::r:List Br)[1]?=some c:=rfl
     obtain⟨hs1,sb,lo2,hi2,hsb,hsn⟩:=W.sib 1 c hc1;have hkey:=W.keys 0 c hc1
     have hjn:QL l n (0-1) 0 m=inr ([([],b)]++(c.1,sb.kids.headD 0)::(brs sb).tail):=by
      unfold QL;simp only[Nat.zero_sub,kS,XD];have q1:n.kids.getD 1 0=c.2:=by rw[xe,hs1];rfl
      have q2:n.keys.getD 0 []=c.1:=by rw[xe,hkey];rfl
      rw[q1,q2,hb1,hsb.at]
     have hJ:ShN (e+1) (QL l n (0-1) 0 m):=by
      rw[hjn];have hlb:sb.leaf=false:=by have:=hsn.leaf;simpa using this
      obtain⟨g1,g2,g3⟩:=ZD hsb.ok hlb;refine⟨_,rfl,by simp,fun x hx9=>?_,?_⟩
      ·simp only[xD,xG,Xa,xU] at hx9;rcases hx9 with rfl|hx9
       ·exact W.kl c (by simp)
       exact g2.1 x hx9
      rw[xD,xG,qY (by simp)]
      have h7:=hsb.ok.2.2.2.2
      have h8:1<=c.1.length/\c.1.length<=32:=W.kl c (by simp)
      rw[g1,qY (by unfold Go.Proofs.YtfjadfnjmpefkaaGreat.brs;simp)] at h7
      simp only[Xa,tw,Xn,kf,bw] at h7 |-
      push_cast
      omega
     have hJk:(QL l n (0-1) 0 m).keys≠[]:=by rw[hjn];simp[inr]
     obtain⟨l1,l2,l3,l4⟩:=jr hJ next ad1 (([]++[X]++c::r:List Br).getD (0-1) ([],0)).1
     obtain⟨q,hq⟩:∃ q,q=qC next ad1 (QL l n (0-1) 0 m) (([]++[X]++c::r:List Br).getD (0-1) ([],0)).1:=⟨_,rfl⟩
     rw[<-hq] at l1 l2 l3 l4 |-;have hrp:zk ([]++[X]++c::r) (0-1) (0-1+2) q.1=[]++q.1++r:=j8 (P:=[]) (Y:=[X,c]) rfl rfl
     rw[hrp]
     exact yU (P:=[]) (y:=X) (Y:=[c]) (S:=r) W.kl hsz l1 l2 (fun b' r' e'=>l3 b' r' e') (fun e9=>by
      have:=kZ.1 e9
      exact hJk (l4 (by simpa using this.1))) (e+1)
   obtain⟨P',c,rfl⟩:∃ P' c,P=P'++[c]:=by
    rcases List.eq_nil_or_concat P with h|⟨P',c,h⟩
    ·subst h;have:=W.len;simp at this;omega
    exact⟨P',c,by simpa using h⟩
   have hPl':P'.length=k-1:=by have:=W.len;simp at this;omega
   have ebs:P'++[c]++[X]++S=P'++(c::[X])++S:=by simp
   have hc1:(P'++[c]++[X]++S)[k-1]?=some c:=by rw[ebs,xz,xY (by omega),hPl'];simp
   have hk2:k-1+1=k:=by omega
   obtain⟨hs1,sb,lo2,hi2,hsb,hsn⟩:=W.sib (k-1) c hc1;have hkey:=W.keys (k-1) X (by rw[hk2];exact hbX)
   have hjn:QL l n (k-1) k m=inr (brs sb++[(X.1,b)]):=by
    unfold QL;rw[xh (by omega),xh (by omega)]
    have q1:n.kids.getD (k-1) 0=c.2:=by rw[xe,hs1];rfl
    have q2:n.keys.getD (k-1) []=X.1:=by rw[xe,hkey];rfl
    rw[q1,q2,hb1,hb0,hsb.at];rfl
   have hJ:ShN (e+1) (QL l n (k-1) k m):=by
    rw[hjn];have hlb:sb.leaf=false:=by have:=hsn.leaf;simpa using this
    obtain⟨g1,g2,g3⟩:=ZD hsb.ok hlb;have hXk:1<=X.1.length/\X.1.length<=32:=W.kl X (by cases P'<;>simp)
    refine⟨_,rfl,by simp,fun x hx9=>?_,?_⟩
    ·have hx8:x∈(brs sb).tail\/x=(X.1,b):=by
      unfold Go.Proofs.YtfjadfnjmpefkaaGreat.brs at hx9 |-
      simpa using hx9
     rcases hx8 with hx8|rfl
     ·exact g2.1 x hx8
     exact hXk
    rw[qY (by simp)]
    have h7:=hsb.ok.2.2.2.2
    rw[g1,qY (by unfold Go.Proofs.YtfjadfnjmpefkaaGreat.brs;simp)] at h7
    have h6:(brs sb++[(X.1,b)]).tail=(brs sb).tail++[(X.1,b)]:=by unfold Go.Proofs.YtfjadfnjmpefkaaGreat.brs;simp
    rw[h6,jt];simp only[tw,Xn,List.map_nil,kf,List.sum_nil,bw] at h7 |-
    push_cast
    omega
   have hJk:(QL l n (k-1) k m).keys≠[]:=by rw[hjn];unfold Go.Proofs.YtfjadfnjmpefkaaGreat.brs;simp[inr]
   have hga:((P'++[c]++[X]++S).getD (k-1) ([],0)).1=c.1:=by rw[xe,hc1];rfl
   rw[hga];obtain⟨l1,l2,l3,l4⟩:=jr hJ next ad1 c.1
   obtain⟨q,hq⟩:∃ q,q=qC next ad1 (QL l n (k-1) k m) c.1:=⟨_,rfl⟩
   rw[<-hq] at l1 l2 l3 l4 |-;have hkl:=W.kl
   rw[ebs] at hkl hsz |-;rw[j8 hPl' (by rw[hPl'];rfl)]
   exact yU hkl hsz l1 l2 l3 (fun e9=>by
    have:=kZ.1 (kZ.1 e9).1
    exact hJk (l4 this.2)) (e+1)
  rw[xh hbare];dsimp only;have hga:((P++[X]++S).getD k ([],0)).1=X.1:=by rw[xe,hbX];rfl
  rw[hga];obtain⟨l1,l2,l3,l4⟩:=jr ih next ad1 X.1
  obtain⟨q,hq⟩:∃ q,q=qC next ad1 m X.1:=⟨_,rfl⟩
  rw[<-hq] at l1 l2 l3 l4 |-;rw[j8 W.len (by rw[W.len];rfl)]
  refine yU W.kl hsz l1 l2 l3 (fun e9=>?_) d;have h1:=kZ.1 e9
  have h2:=kZ.1 h1.1
  have:=W.two
  rw[h2.1,h1.2] at this;simp at this
structure ChM (w:World) (gc g bm k:Nat) (m:Int->Option Value):Prop where
 c:w.cell? ⟨gc,0,none⟩=some (.pointer (some ⟨g,0,none⟩))
 s:w.cell? ⟨g,3,none⟩=some (.map (some bm))
 map:MapI w bm k m
theorem ChM.to {m:Int->Option Value} (h:ChM w gc g bm k m) (b:Below w.heap.size w w'):ChM w' gc g bm k m :=
 ⟨(b.cell (qe h.c)).trans h.c,(b.cell (qe h.s)).trans h.s,h.map.kept (b.block _ h.map.lt)⟩
theorem OwnBr.first {v:Value} {y:Br} {r:List Br} (h:OwnBr B w v (y::r)) (x:Str):∃ g cap,v=.slice (some ⟨g,0,none⟩) (r.length+1) cap/\B<=g/\OwnBr B (w.setCell ⟨g,0,none⟩ (st x)) v ((x,y.2)::r)/\(∀ b,b≠g->(w.setCell ⟨g,0,none⟩ (st x)).heap[b]?=w.heap[b]?)/\w.cell? ⟨g,0,none⟩=some (st y.1)/\w.frozen? ⟨g,0,none⟩=false:=by
 obtain⟨g,cap,cur,e,hB,hg,hk,hm,hs,ht⟩:=zZ h (by simp)
 have e0:cur.toList=[st y.1,.int .i64 y.2]++bcl r++cur.toList.drop ((y::r).length*2):=by
  conv=>lhs;rw[<-x7 ((y::r).length*2) cur.toList,ht]
  rfl
 refine⟨g,cap,e,hB,⟨by rw[qS],.inr ⟨g,cap,_,e,hB,qw hg 0 (st x),hk,hm,by simpa using hs,?_⟩⟩,fun b hb=>xd _ _ _ _ hb,?_,j5 hg 0⟩
 ·rw[Array.toList_setIfInBounds,e0];show ([st x,.int .i64 y.2]++bcl r++_).take _=_
  rw[Xo (by rw[xk,qS];simp;omega)]
  rfl
 refine qt hg ?_;have:cur.toList[0]?=some (st y.1):=by rw[e0];rfl
 simpa using this
theorem Ys {ops:Array Oper} {rest:List Oper} {o:Oper} {a:Act} {Q:Exit->Act->World->Prop} (hgd:o.guard=none) (s x:Operand)
 (ho:o.op=.call {callee:=.builtin .append,args:=#[s,x],argTypes:=#[157,157]}) (B C:Nat) (v u:Value) (bs cs:List Br) (hs:a.eval s=v) (hx:a.eval x=u)
 (hown:OwnBr B w v bs) (hu:OwnBr C w u cs) (h0:0<cs.length) (hlen:bs.length+cs.length<=10000) (hB:B<=w.heap.size)
 (h:∀ v' w',OwnBr B w' v' (bs++cs)->w.grownBy w' v.ownBlock->wpList Tryz.prog ops Q rest (a.put o.dst v') w'):wpList Tryz.prog ops Q (o::rest) a w:=by
 obtain⟨i0,hi,hz0,hz1,hz2⟩:=Xh vu;obtain⟨g,cap,cur,rfl,hC,hg,hk,hm,hcs,ht⟩:=zZ hu h0
 have n2:∀ j q,(bcl cs)[j]?=some q->w.cell? ((⟨g,0,none⟩:Addr).add j)=some q:=fun j q hj=>by
  have hjl:=(xn.1 hj).1
  rw[qS] at hjl;rw[XB,QP hg];have:cur.toList[j]?=(bcl cs)[j]?:=by rw[<-ht,xP,xj hjl]
  rw[XD,this,hj]
 refine kO _ hgd s x 157 ho B 160 i0 (.agg #[.string ⟨#[]⟩,.int .i64 0]) 2 24 xT hi hz0 hz1 hz2 rfl (by decide) v bs.length (bcl bs) hs hown ⟨g,0,none⟩ cs.length cap (bcl cs) hx (qS _) n2
  (zF _) (by rw[show maxLen=9223372036854775807 from rfl];omega) (by omega) hB ?_
 intro v' w' q1 q2 _;refine h v' w' ?_ q2;show World.ownsRow _ _ _ _ _ _ _
 rw[Jy,xk];exact q1
theorem qdr (w:World) (gc g bm k:Nat) (m:Int->Option Value) (n a s:Nd) (kv vv dv ak av' ad sk sv sd:Value) (i:Nat) (sid:Int) (key:Str) (hM:ChM w gc g bm k m) (hn:RdN w kv vv dv n) (ha:RdN w ak av' ad a) (hs:RdN w sk sv sd s) (hsid:n.kids[(i+1)]?=some sid) (hwf:(Lit.int .i64 sid).wf=true) (hm:m sid=some (nv s sk sv sd)) (hkey:n.keys[i]?=some key)
 (hka:a.kids.length=a.keys.length+1) (hks:s.kids.length=s.keys.length+1) (hla:a.keys.length<=400) (hls:s.keys.length<=400) (hln:n.kids.length<=1000) :
 Calls Tryz.prog 84 #[.pointer (some ⟨gc,0,none⟩),nv n kv vv dv,.int .i64 (i:Int),.int .i64 ((i:Int)),nv a ak av' ad] w fun e w'=>∃ kv' dv',e=.returned (nv (inr (brs a++(key,s.kids.headD 0)::(brs s).tail)) kv' (.slice none 0 0) dv')/\OwnN w.heap.size w' kv' (.slice none 0 0) dv' (inr (brs a++(key,s.kids.headD 0)::(brs s).tail))/\Below w.heap.size w w':=by
 obtain⟨ka,kc,va,vc,da,dc,rfl,rfl,rfl⟩:=hn.slices;obtain⟨aka,akc,ava,avc,ada,adc,rfl,rfl,rfl⟩:=ha.slices;obtain⟨ska,skc,sva,svc,sda,sdc,rfl,rfl,rfl⟩:=hs.slices;obtain⟨W1,hW1,D1,b1,s1⟩:=qf w #[.bool n.leaf,.slice ka n.keys.length kc,.slice va n.vals.length vc,.slice da n.kids.length dc] 84;obtain⟨W2,hW2,D2,b2,s2⟩:=qf W1 #[.bool a.leaf,.slice aka a.keys.length akc,.slice ava a.vals.length avc,.slice ada a.kids.length adc] 84;obtain⟨X,hX,D3,b3,s3⟩:=qf W2 #[.bool false,.slice none 0 0,.slice none 0 0,.slice none 0 0] 84;have b12:=b1.trans (b2.mono b1.size)
 have bX:=b12.trans (b3.mono b12.size)
 have sX:X.heap.size=w.heap.size+1+1+1:=by rw[s3,s2,s1]
 rw[s1] at D2;rw[s2,s1] at D3;have HX:=qa (xb ((b3.block _ (xa ((b2.block _ (xa D1)).trans D1))).trans ((b2.block _ (xa D1)).trans D1)) (xb ((b3.block _ (xa D2)).trans D2) (xb D3 bX)))
 obtain⟨db,dO,rfl,hcd⟩:=hn.kids.intAt hsid;obtain⟨kb,ko,rfl,hck⟩:=hn.keys.strAt hkey;have hZ9:(i+1)<n.kids.length:=(xn.1 hsid).1
 have hK9:i<n.keys.length:=(xn.1 hkey).1
 have HN:=qa hn
 have HA:=qa ha
 have HS:=qa hs
 have HM:=qa hM
 obtain⟨Z,hZ⟩:∃ q,q=n.kids.length:=⟨_,rfl⟩;obtain⟨KK,hKK⟩:∃ q,q=n.keys.length:=⟨_,rfl⟩;rw[<-hZ] at hZ9 hln;rw[<-hKK] at hK9;simp only[<-hZ,<-hKK] at HX hW1;dsimp only[nv];rw[<-hZ,<-hKK];replace hZ:=qa hZ;replace hKK:=qa hKK;have hka':=qa hka
 have hks':=qa hks
 have hm':=qa hm
 have hwf':=qa hwf
 have hsX:=qa sX
 have e1:IntKind.i64.wrap ((i:Int)+1)=(i:Int)+1:=xB _ (by omega)
 have e2:(0:Int)<=(i:Int)+1:=by omega
 have e3:((i:Int)+1).toNat=i+1:=by omega
 have e4:(i:Int)+1<(Z:Int):=by omega
 have f1:((i:Int) == (i:Int))=true:=by simp
 have f2:(i:Int)<(Z:Int):=by omega
 have f3:(i:Int)<(KK:Int):=by omega
 clear hn ha hs hM D1 D2 D3 b1 b2 b3 b12 bX s1 s2 s3 sX hka hks hm hwf hsid hkey;go_enter Tryz.func84,Tryz.ntmps84
 go_upto_region 1 with fail
 rw[<-hW1,<-hW2,<-hX];replace hW1:=qa hW1;replace hW2:=qa hW2;replace hX:=qa hX
 go_cut [11,12] from 14 to 15 (fun p11 p12 wx=>∃ g11 g12:Nat,p11=.pointer (some ⟨g11,0,none⟩)/\p12=.pointer (some ⟨g12,0,none⟩)/\Hid (X.heap.size<=g11/\X.heap.size<=g12/\g11≠g12/\Below X.heap.size X wx/\wx.heap[g11]?=some (.cells #[.bool a.leaf,.slice aka a.keys.length akc,.slice ava a.vals.length avc,.slice ada a.kids.length adc] 84 (0,0))/\wx.heap[g12]?=some (.cells #[.bool a.leaf,.slice aka a.keys.length akc,.slice ava a.vals.length avc,.slice ada a.kids.length adc] 84 (0,0))))
 case first =>
  have b0:Below X.heap.size X X.drew:=qg X 1 _
  have S0:=(qb ((b0.block _ (xa HX.out.2.1)).trans HX.out.2.1)).1
  have HSS:Hid (∀ w',Below X.heap.size X w'->_):=fun w' q=>(qb ((q.block _ (xa HX.out.2.1)).trans HX.out.2.1)).1
  refine Ql (fun w'=>w'.cell? ⟨w.heap.size+1,0,none⟩=some (.bool a.leaf)/\w'.cell? ⟨w.heap.size+1,1,none⟩=some (.slice aka a.keys.length akc)/\w'.cell? ⟨w.heap.size+1,2,none⟩=some (.slice ava a.vals.length avc)/\w'.cell? ⟨w.heap.size+1,3,none⟩=some (.slice ada a.kids.length adc)) 5 qG (by simp) ?_
  generalize X.drew=c0 at *;refine qc (i:=0) (v:=?_) rfl (by kernel_rfl) (fun _ _ _ _ h=>h) (by kernel_rfl) S0 ?_ ?_
  rotate_left
  ·rintro w' ⟨s1,s2,s3,s4⟩;go_simp;try with_reducible rfl
  try simp only[Act.put,qB6]
  refine qc (i:=1) (v:=?_) rfl (by kernel_rfl) (fun _ _ _ _ h=>h) (by kernel_rfl) S0 ?_ ?_
  rotate_left
  ·rintro w' ⟨s1,s2,s3,s4⟩;go_simp;try with_reducible rfl
  try simp only[Act.put,qB6]
  refine zM 2 3 (by kernel_rfl) ?_ ?_
  ·refine qi rfl (by kernel_rfl) fun K' hK'=>?_
   go_simp;obtain⟨d1,hc1,E1,q1,r1⟩:=qf c0 #[.bool false,.slice none 0 0,.slice none 0 0,.slice none 0 0] 84;rw[<-hc1];obtain⟨x1,hx1⟩:∃ q,q=c0.heap.size:=⟨_,rfl⟩;rw[<-hx1] at E1 |-;have bb1:=b0.trans (q1.mono b0.size)
   refine hK' _ _ (HSS.out _ bb1) ?_;clear hK' K';try simp only[Act.put,qB6]
   replace hx1:=qa hx1;clear hc1 r1;refine qr 3 (by kernel_rfl) ?_
   refine qi rfl (by kernel_rfl) fun K' hK'=>?_
   go_simp;obtain⟨d2,hc2,E2,q2,r2⟩:=qf d1 #[.bool false,.slice none 0 0,.slice none 0 0,.slice none 0 0] 84;rw[<-hc2];obtain⟨x2,hx2⟩:∃ q,q=d1.heap.size:=⟨_,rfl⟩;rw[<-hx2] at E2 |-;have bb2:=bb1.trans (q2.mono bb1.size)
   have E1':=(q2.block _ (xa E1)).trans E1
   have hne:x1≠x2:=by have:=xa E1;omega
   have l1:X.heap.size<=x1:=by have:=hx1.out;have:=b0.size;omega
   have l2:X.heap.size<=x2:=by have:=bb1.size;omega
   refine hK' _ _ (HSS.out _ bb2) ?_;clear hK' K';try simp only[Act.put,qB6]
   replace hx2:=qa hx2;clear hc2 r2;obtain⟨V,hV,v1,v2,v3⟩:=qhs (hne) (E1') (E2) bb2 (l1) (l2) (.bool a.leaf) (.slice aka a.keys.length akc) (.slice ava a.vals.length avc) (.slice ada a.kids.length adc) (.bool a.leaf) (.slice aka a.keys.length akc) (.slice ava a.vals.length avc) (.slice ada a.kids.length adc);have FN:=qa (xb v1 (xb v2 v3))
   rw[hV] at FN;have Z1:=E1'
   have Z2:=Qs E2 (show x2≠x1 by omega) (.bool a.leaf) (.slice aka a.keys.length akc) (.slice ava a.vals.length avc) (.slice ada a.kids.length adc)
   have B2:=Qs ((bb2.block _ (xa HX.out.2.1)).trans HX.out.2.1) (show w.heap.size+1≠x1 by have:=hsX.out;omega) (.bool a.leaf) (.slice aka a.keys.length akc) (.slice ava a.vals.length avc) (.slice ada a.kids.length adc)
   obtain⟨⟨y0,y1,y2,y3⟩,yf⟩:=qb Z1;refine qr 4 (by kernel_rfl) ?_
   refine qi rfl (by kernel_rfl) fun K' hK'=>?_
   clear hV v1 v2 v3;go_simp;refine hK' _ _ (qb B2).1 ?_;clear hK' K';refine qT (by kernel_rfl) ?_
   show wpList _ _ _ _ _ _
   obtain⟨⟨z0,z1,z2,z3⟩,zf⟩:=qb Z2;dsimp only[List.drop];clear y0 y1 y2 y3 yf E1 E1' E2 Z1 Z2 B2 q1 q2 bb1 bb2
   go_wp2_with fail
   go_meet
   exact⟨_,_,rfl,rfl,qa ⟨l1,l2,hne,FN.out.2.2,FN.out.1,FN.out.2.1⟩⟩
  refine qi rfl (by kernel_rfl) fun K' hK'=>?_
  go_simp;obtain⟨d1,hc1,E1,q1,r1⟩:=qf c0 #[.bool false,.slice none 0 0,.slice none 0 0,.slice none 0 0] 84;rw[<-hc1];obtain⟨x1,hx1⟩:∃ q,q=c0.heap.size:=⟨_,rfl⟩;rw[<-hx1] at E1 |-;have bb1:=b0.trans (q1.mono b0.size)
  refine hK' _ _ (HSS.out _ bb1) ?_;clear hK' K';try simp only[Act.put,qB6]
  replace hx1:=qa hx1;clear hc1 r1;refine qr 2 (by kernel_rfl) ?_
  refine qi rfl (by kernel_rfl) fun K' hK'=>?_
  go_simp;obtain⟨d2,hc2,E2,q2,r2⟩:=qf d1 #[.bool false,.slice none 0 0,.slice none 0 0,.slice none 0 0] 84;rw[<-hc2];obtain⟨x2,hx2⟩:∃ q,q=d1.heap.size:=⟨_,rfl⟩;rw[<-hx2] at E2 |-;have bb2:=bb1.trans (q2.mono bb1.size)
  have E1':=(q2.block _ (xa E1)).trans E1
  have hne:x1≠x2:=by have:=xa E1;omega
  have l1:X.heap.size<=x1:=by have:=hx1.out;have:=b0.size;omega
  have l2:X.heap.size<=x2:=by have:=bb1.size;omega
  refine hK' _ _ (HSS.out _ bb2) ?_;clear hK' K';try simp only[Act.put,qB6]
  replace hx2:=qa hx2;clear hc2 r2;obtain⟨V,hV,v1,v2,v3⟩:=qhs (hne.symm) (E2) (E1') bb2 (l2) (l1) (.bool a.leaf) (.slice aka a.keys.length akc) (.slice ava a.vals.length avc) (.slice ada a.kids.length adc) (.bool a.leaf) (.slice aka a.keys.length akc) (.slice ava a.vals.length avc) (.slice ada a.kids.length adc);have FN:=qa (xb v1 (xb v2 v3))
  rw[hV] at FN;have Z1:=E2
  have Z2:=Qs E1' (show x1≠x2 by omega) (.bool a.leaf) (.slice aka a.keys.length akc) (.slice ava a.vals.length avc) (.slice ada a.kids.length adc)
  have B2:=Qs ((bb2.block _ (xa HX.out.2.1)).trans HX.out.2.1) (show w.heap.size+1≠x2 by have:=hsX.out;omega) (.bool a.leaf) (.slice aka a.keys.length akc) (.slice ava a.vals.length avc) (.slice ada a.kids.length adc)
  obtain⟨⟨y0,y1,y2,y3⟩,yf⟩:=qb Z1;refine qr 4 (by kernel_rfl) ?_
  refine qi rfl (by kernel_rfl) fun K' hK'=>?_
  clear hV v1 v2 v3;go_simp;refine hK' _ _ (qb B2).1 ?_;clear hK' K';refine qT (by kernel_rfl) ?_
  show wpList _ _ _ _ _ _
  obtain⟨⟨z0,z1,z2,z3⟩,zf⟩:=qb Z2;dsimp only[List.drop];clear y0 y1 y2 y3 yf E1 E1' E2 Z1 Z2 B2 q1 q2 bb1 bb2
  go_wp2_with fail
  go_meet
  exact⟨_,_,rfl,rfl,qa ⟨l2,l1,hne.symm,FN.out.2.2,FN.out.1,FN.out.2.1⟩⟩
 case rest =>
 obtain⟨g11,g12,rfl,rfl,hT⟩:=hcut
 go_upto_region 3 with fail
 obtain⟨l11,l12,hne,bT,D11,D12⟩:=hT.out;have b0:Below wc.heap.size wc wc.drew:=qg wc 1 _
 obtain⟨c1,hc1⟩:∃ c,c=wc.drew:=⟨_,rfl⟩;rw[<-hc1] at b0;have bTc:=bT.trans (b0.mono bT.size)
 have belc:=HX.out.2.2.2.trans (bTc.mono HX.out.2.2.2.size)
 have M1:=HM.out.to belc
 have N0:=(bTc.block _ (xa HX.out.1)).trans HX.out.1
 have R0:=(bTc.block _ (xa HX.out.2.2.1)).trans HX.out.2.2.1
 have G11:=(b0.block _ (xa D11)).trans D11
 have G12:=(b0.block _ (xa D12)).trans D12
 obtain⟨⟨E0,E1,E2,E3⟩,EF⟩:=qb N0;have kc9:=(belc.cell (qe hcd)).trans hcd
 refine qj (fun w'=>(w'.cell? ⟨gc,0,none⟩=some (.pointer (some ⟨g,0,none⟩))/\w'.cell? ⟨g,3,none⟩=some (.map (some bm))/\w'.cell? ⟨w.heap.size,3,none⟩=some (.slice (some ⟨db,dO,none⟩) Z dc))/\w'.cell? ⟨db,dO+(i+1),none⟩=some (.int .i64 sid)/\MapI w' bm k m) 14 14 qG (by kernel_rfl) (fun _ _ _ _ h=>h) (by rw[<-hc1];exact⟨⟨M1.c,M1.s,E3⟩,kc9,M1.map⟩) ?_
 rw[<-hc1];replace hc1:=qa hc1;dsimp only[List.take,List.drop]
 iterate 14
  refine qA (v:=?_) (by rfl) ?_ ?_
  rotate_left
  ·rintro w' ⟨⟨s1,s2,s3⟩,s4,s5⟩;have hlk:=s5.look xS (QG w') hwf'.out false
   rw[hm'.out] at hlk;simp only[xM,xI,XJ] at hlk;dsimp only[nv] at hlk;go_simp;try with_reducible rfl
  try simp only[Act.put,qB6]
 show wpList _ _ _ _ _ _
 obtain⟨V,hV⟩:∃ V,V=S4 g12 c1 (.bool s.leaf) (.slice ska s.keys.length skc) (.slice sva s.vals.length svc) (.slice sda s.kids.length sdc):=⟨_,rfl⟩;have hsz:=hsX.out
 have VT:V.heap[g12]?=some (.cells #[.bool s.leaf,.slice ska s.keys.length skc,.slice sva s.vals.length svc,.slice sda s.kids.length sdc] 84 (0,0)):=by rw[hV];exact qu G12 _ _ _ _
 have VO:V.heap[g11]?=some (.cells #[.bool a.leaf,.slice aka a.keys.length akc,.slice ava a.vals.length avc,.slice ada a.kids.length adc] 84 (0,0)):=by rw[hV];exact Qs G11 (by omega) _ _ _ _
 have VN:V.heap[w.heap.size]?=some (.cells #[.bool n.leaf,.slice (some ⟨kb,ko,none⟩) KK kc,.slice va n.vals.length vc,.slice (some ⟨db,dO,none⟩) Z dc] 84 (0,0)):=by rw[hV];exact Qs N0 (by omega) _ _ _ _
 have VR:V.heap[w.heap.size+1+1]?=some (.cells #[.bool false,.slice none 0 0,.slice none 0 0,.slice none 0 0] 84 (0,0)):=by rw[hV];exact Qs R0 (by omega) _ _ _ _
 have bV:Below w.heap.size w V:=by rw[hV];exact qn belc (by omega) _ _ _ _
 have KB:=qa (yn V s _ _ _ (HS.out.to bV) hks'.out (by omega))
 have HV:=qa (xb VN (xb VR (xb VT (xb VO bV))))
 obtain⟨⟨y0,y1,y2,y3⟩,yf⟩:=qb G12;obtain⟨⟨t0,t1,t2,t3⟩,tf⟩:=qb VT;rw[hV] at KB t0 t1 t2 t3 tf;dsimp only[nv] at KB;clear VT VO VN VR bV M1 N0 R0 belc bTc bT b0 E0 E1 E2 E3 EF kc9 G11 G12 D11 D12
 go_wp2_with fail
 refine KB.out.mono ?_;rintro e w5 ⟨v5,rfl,o5,b5⟩;have hV':=hV
 rw[<-hV'] at o5 b5;replace hV:=qa hV;clear KB y0 y1 y2 y3 yf t0 t1 t2 t3 tf hV';obtain⟨VN,VR,VT,VO,bV⟩:=HV.out;have bw5:=bV.trans (b5.mono bV.size)
 have hbr:brs s=([],s.kids.headD 0)::(brs s).tail:=rfl
 rw[hbr] at o5;obtain⟨gB,capB,rfl,lB,oB,keepB,cB,fB⟩:=OwnBr.first o5 key;obtain⟨U,hU⟩:∃ U,U=w5.setCell ⟨gB,0,none⟩ (st key):=⟨_,rfl⟩;rw[<-hU] at oB keepB;have N5:=(b5.block _ (xa VN)).trans VN
 obtain⟨⟨E0,E1,E2,E3⟩,EF⟩:=qb N5;have ck:=(bw5.cell (qe hck)).trans hck
 have bU:Below w.heap.size w U:=by rw[hU];exact bw5.setCell (p:=⟨gB,0,none⟩) (xi bV.size lB) _
 have hgl:g11≠gB:=by have:=xa VO;omega
 have UL:=(keepB g11 hgl).trans ((b5.block _ (xa VO)).trans VO)
 have UR:=(keepB (w.heap.size+1+1) (by have:=xa VR;omega)).trans ((b5.block _ (xa VR)).trans VR)
 have sU:U.heap.size=w5.heap.size:=by rw[hU];simp
 have KL:=qa (yn U a _ _ _ (HA.out.to bU) hka'.out (by omega))
 obtain⟨⟨t0,t1,t2,t3⟩,tf⟩:=qb UL;have HU:=qa (xb UR (xb oB bU))
 generalize hLB:((brs s).tail.length+1)=LB at *;replace hLB:=qa hLB;have hLB0:0<LB:=by have:=hLB.out;omega
 rw[hU] at KL t0 t1 t2 t3 tf;dsimp only[nv] at KL;clear UL UR oB bU N5 o5 b5 bw5 keepB
 go_wp2_with fail
 refine KL.out.mono ?_;rintro e w6 ⟨v6,rfl,o6,b6⟩;rw[<-hU] at o6 b6;replace hU:=qa hU;clear KL t0 t1 t2 t3 tf E0 E1 E2 E3 EF ck cB fB;obtain⟨UR,oB,bU⟩:=HU.out;have oB6:=qB oB b6
 obtain⟨a6,c6,hv6⟩:=o6.slice
 have lt6:(brs s).tail.length<=400:=by
  have h9:=Ju hks'.out
  rw[hks'.out,hbr,xC] at h9;omega
 have ll6:(brs a).length<=401:=by rw[Ju hka'.out,hka'.out];omega
 have H6:=qa (xb ((b6.block _ (xa UR)).trans UR) (xb o6 (bU.trans (b6.mono bU.size))))
 have o6':=qa o6
 have oB6':Hid (OwnBr V.heap.size w6 (.slice (some ⟨gB,0,none⟩) LB capB) ((key,s.kids.headD 0)::(brs s).tail)):=oB6
 have hl6:U.heap.size<=w6.heap.size:=b6.size
 have hbU:w.heap.size<=U.heap.size:=bU.size
 have hbU2:w.heap.size+1+1<U.heap.size:=xa UR
 clear oB6 oB UR bU b6 o6;obtain⟨LL,hLL⟩:∃ q,q=(brs a).length:=⟨_,rfl⟩;rw[<-hLL] at hv6;replace hLL:=qa hLL
 have hl9:Hid ((brs a).length+((key,s.kids.headD 0)::(brs s).tail).length<=10000/\(brs a++(key,s.kids.headD 0)::(brs s).tail).length<=1000):=by
  rw[xk,xC];exact⟨by omega,by omega⟩
 subst hv6;clear lt6 ll6
 go_wp2_with (at_builtin;refine Ys rfl _ _ rfl U.heap.size V.heap.size _ _ _ _ rfl rfl o6'.out oB6'.out (by simp) hl9.out.1 hl6 ?_;intro v7 w7 o7 r7)
 have KI:=qa (Yo U.heap.size w7 v7 _ o7 hl9.out.2)
 obtain⟨R6,o6,b6⟩:=H6.out;have bw7:Below w.heap.size w w7:=b6.grown r7 (xi hbU hl6) (fun q hq=>xi hbU (xo o6 q hq).1)
 have R7:w7.heap[w.heap.size+1+1]?=some (.cells #[.bool false,.slice none 0 0,.slice none 0 0,.slice none 0 0] 84 (0,0)):=(r7.block _ (xa R6) (fun e9=>by have:=(xo o6 _ e9.symm).1;omega)).trans R6
 obtain⟨a7,c7,hv7⟩:=o7.slice;obtain⟨L7,hL7⟩:∃ q,q=(brs a++(key,s.kids.headD 0)::(brs s).tail).length:=⟨_,rfl⟩;rw[<-hL7] at hv7;replace hL7:=qa hL7;subst hv7;have H7:=qa (xb R7 bw7)
 clear o6 b6 R6 R7 bw7 o7 r7 o6' oB6' H6 HU HV
 go_wp2_with fail
 refine KI.out.mono ?_;rintro e w8 ⟨kv8,dv8,rfl,o8,b8⟩;obtain⟨R7,bw7⟩:=H7.out;have R8:=(b8.block _ (xa R7)).trans R7
 have HR8:=qa R8
 obtain⟨⟨J0,J1,J2,J3⟩,JF⟩:=qb R8;obtain⟨k8a,k8c,hk8⟩:=o8.keys.rd.slice;obtain⟨d8a,d8c,hd8⟩:=o8.kids.rd.slice;have o8':=qa o8
 have B8:=qa (bw7.trans (b8.mono bw7.size))
 have hw7:Hid (w.heap.size<=w7.heap.size):=bw7.size
 generalize hNN:inr (brs a++(key,s.kids.headD 0)::(brs s).tail)=NN at *;have hNl:NN.leaf=false:=by rw[<-hNN];rfl
 replace hNN:=qa hNN;subst hk8 hd8;clear o8 b8 R7 bw7 R8 KI H7;dsimp only[nv];go_wp2;refine Js rfl rfl (w.heap.size+1+1) rfl _ _ (0,0) (qu HR8.out _ _ _ _) _ xJ rfl Qe ?_;have k1:=fun e (he:e≠84)=>z8 HR8.out (.bool false) (.slice k8a NN.keys.length k8c) (.slice none 0 0) (.slice d8a NN.kids.length d8c) he
 refine⟨_,_,rfl,?_,qn B8.out (by omega) _ _ _ _⟩
 rw[hNN.out];exact(o8'.out.mono hw7.out).keepT (k1 _ (by decide)) (k1 _ (by decide))
theorem qfj (w:World) (gc g bm k:Nat) (m:Int->Option Value) (n a s:Nd) (kv vv dv ak av' ad sk sv sd:Value) (i:Nat) (sid:Int) (key:Str) (hM:ChM w gc g bm k m) (hn:RdN w kv vv dv n) (ha:RdN w ak av' ad a) (hs:RdN w sk sv sd s) (hsid:n.kids[i]?=some sid) (hwf:(Lit.int .i64 sid).wf=true) (hm:m sid=some (nv s sk sv sd)) (hkey:n.keys[i]?=some key)
 (hka:a.kids.length=a.keys.length+1) (hks:s.kids.length=s.keys.length+1) (hla:a.keys.length<=400) (hls:s.keys.length<=400) (hln:n.kids.length<=1000) :
 Calls Tryz.prog 84 #[.pointer (some ⟨gc,0,none⟩),nv n kv vv dv,.int .i64 (i:Int),.int .i64 ((i:Int)+1),nv a ak av' ad] w fun e w'=>∃ kv' dv',e=.returned (nv (inr (brs s++(key,a.kids.headD 0)::(brs a).tail)) kv' (.slice none 0 0) dv')/\OwnN w.heap.size w' kv' (.slice none 0 0) dv' (inr (brs s++(key,a.kids.headD 0)::(brs a).tail))/\Below w.heap.size w w':=by
 obtain⟨ka,kc,va,vc,da,dc,rfl,rfl,rfl⟩:=hn.slices;obtain⟨aka,akc,ava,avc,ada,adc,rfl,rfl,rfl⟩:=ha.slices;obtain⟨ska,skc,sva,svc,sda,sdc,rfl,rfl,rfl⟩:=hs.slices;obtain⟨W1,hW1,D1,b1,s1⟩:=qf w #[.bool n.leaf,.slice ka n.keys.length kc,.slice va n.vals.length vc,.slice da n.kids.length dc] 84;obtain⟨W2,hW2,D2,b2,s2⟩:=qf W1 #[.bool a.leaf,.slice aka a.keys.length akc,.slice ava a.vals.length avc,.slice ada a.kids.length adc] 84;obtain⟨X,hX,D3,b3,s3⟩:=qf W2 #[.bool false,.slice none 0 0,.slice none 0 0,.slice none 0 0] 84;have b12:=b1.trans (b2.mono b1.size)
 have bX:=b12.trans (b3.mono b12.size)
 have sX:X.heap.size=w.heap.size+1+1+1:=by rw[s3,s2,s1]
 rw[s1] at D2;rw[s2,s1] at D3;have HX:=qa (xb ((b3.block _ (xa ((b2.block _ (xa D1)).trans D1))).trans ((b2.block _ (xa D1)).trans D1)) (xb ((b3.block _ (xa D2)).trans D2) (xb D3 bX)))
 obtain⟨db,dO,rfl,hcd⟩:=hn.kids.intAt hsid;obtain⟨kb,ko,rfl,hck⟩:=hn.keys.strAt hkey;have hZ9:i<n.kids.length:=(xn.1 hsid).1
 have hK9:i<n.keys.length:=(xn.1 hkey).1
 have HN:=qa hn
 have HA:=qa ha
 have HS:=qa hs
 have HM:=qa hM
 obtain⟨Z,hZ⟩:∃ q,q=n.kids.length:=⟨_,rfl⟩;obtain⟨KK,hKK⟩:∃ q,q=n.keys.length:=⟨_,rfl⟩;rw[<-hZ] at hZ9 hln;rw[<-hKK] at hK9;simp only[<-hZ,<-hKK] at HX hW1;dsimp only[nv];rw[<-hZ,<-hKK];replace hZ:=qa hZ;replace hKK:=qa hKK;have hka':=qa hka
 have hks':=qa hks
 have hm':=qa hm
 have hwf':=qa hwf
 have hsX:=qa sX
 have f1:((i:Int) == (i:Int)+1)=false:=by simp;omega
 have f2:(i:Int)<(Z:Int):=by omega
 have f3:(i:Int)<(KK:Int):=by omega
 clear hn ha hs hM D1 D2 D3 b1 b2 b3 b12 bX s1 s2 s3 sX hka hks hm hwf hsid hkey;go_enter Tryz.func84,Tryz.ntmps84
 go_upto_region 1 with fail
 rw[<-hW1,<-hW2,<-hX];replace hW1:=qa hW1;replace hW2:=qa hW2;replace hX:=qa hX
 go_cut [11,12] from 14 to 15 (fun p11 p12 wx=>∃ g11 g12:Nat,p11=.pointer (some ⟨g11,0,none⟩)/\p12=.pointer (some ⟨g12,0,none⟩)/\Hid (X.heap.size<=g11/\X.heap.size<=g12/\g11≠g12/\Below X.heap.size X wx/\wx.heap[g11]?=some (.cells #[.bool a.leaf,.slice aka a.keys.length akc,.slice ava a.vals.length avc,.slice ada a.kids.length adc] 84 (0,0))/\wx.heap[g12]?=some (.cells #[.bool a.leaf,.slice aka a.keys.length akc,.slice ava a.vals.length avc,.slice ada a.kids.length adc] 84 (0,0))))
 case first =>
  have b0:Below X.heap.size X X.drew:=qg X 1 _
  have S0:=(qb ((b0.block _ (xa HX.out.2.1)).trans HX.out.2.1)).1
  have HSS:Hid (∀ w',Below X.heap.size X w'->_):=fun w' q=>(qb ((q.block _ (xa HX.out.2.1)).trans HX.out.2.1)).1
  refine Ql (fun w'=>w'.cell? ⟨w.heap.size+1,0,none⟩=some (.bool a.leaf)/\w'.cell? ⟨w.heap.size+1,1,none⟩=some (.slice aka a.keys.length akc)/\w'.cell? ⟨w.heap.size+1,2,none⟩=some (.slice ava a.vals.length avc)/\w'.cell? ⟨w.heap.size+1,3,none⟩=some (.slice ada a.kids.length adc)) 5 qG (by simp) ?_
  generalize X.drew=c0 at *;refine qc (i:=0) (v:=?_) rfl (by kernel_rfl) (fun _ _ _ _ h=>h) (by kernel_rfl) S0 ?_ ?_
  rotate_left
  ·rintro w' ⟨s1,s2,s3,s4⟩;go_simp;try with_reducible rfl
  try simp only[Act.put,qB6]
  refine qc (i:=1) (v:=?_) rfl (by kernel_rfl) (fun _ _ _ _ h=>h) (by kernel_rfl) S0 ?_ ?_
  rotate_left
  ·rintro w' ⟨s1,s2,s3,s4⟩;go_simp;try with_reducible rfl
  try simp only[Act.put,qB6]
  refine zM 2 3 (by kernel_rfl) ?_ ?_
  ·refine qi rfl (by kernel_rfl) fun K' hK'=>?_
   go_simp;obtain⟨d1,hc1,E1,q1,r1⟩:=qf c0 #[.bool false,.slice none 0 0,.slice none 0 0,.slice none 0 0] 84;rw[<-hc1];obtain⟨x1,hx1⟩:∃ q,q=c0.heap.size:=⟨_,rfl⟩;rw[<-hx1] at E1 |-;have bb1:=b0.trans (q1.mono b0.size)
   refine hK' _ _ (HSS.out _ bb1) ?_;clear hK' K';try simp only[Act.put,qB6]
   replace hx1:=qa hx1;clear hc1 r1;refine qr 3 (by kernel_rfl) ?_
   refine qi rfl (by kernel_rfl) fun K' hK'=>?_
   go_simp;obtain⟨d2,hc2,E2,q2,r2⟩:=qf d1 #[.bool false,.slice none 0 0,.slice none 0 0,.slice none 0 0] 84;rw[<-hc2];obtain⟨x2,hx2⟩:∃ q,q=d1.heap.size:=⟨_,rfl⟩;rw[<-hx2] at E2 |-;have bb2:=bb1.trans (q2.mono bb1.size)
   have E1':=(q2.block _ (xa E1)).trans E1
   have hne:x1≠x2:=by have:=xa E1;omega
   have l1:X.heap.size<=x1:=by have:=hx1.out;have:=b0.size;omega
   have l2:X.heap.size<=x2:=by have:=bb1.size;omega
   refine hK' _ _ (HSS.out _ bb2) ?_;clear hK' K';try simp only[Act.put,qB6]
   replace hx2:=qa hx2;clear hc2 r2;obtain⟨V,hV,v1,v2,v3⟩:=qhs (hne) (E1') (E2) bb2 (l1) (l2) (.bool a.leaf) (.slice aka a.keys.length akc) (.slice ava a.vals.length avc) (.slice ada a.kids.length adc) (.bool a.leaf) (.slice aka a.keys.length akc) (.slice ava a.vals.length avc) (.slice ada a.kids.length adc);have FN:=qa (xb v1 (xb v2 v3))
   rw[hV] at FN;have Z1:=E1'
   have Z2:=Qs E2 (show x2≠x1 by omega) (.bool a.leaf) (.slice aka a.keys.length akc) (.slice ava a.vals.length avc) (.slice ada a.kids.length adc)
   have B2:=Qs ((bb2.block _ (xa HX.out.2.1)).trans HX.out.2.1) (show w.heap.size+1≠x1 by have:=hsX.out;omega) (.bool a.leaf) (.slice aka a.keys.length akc) (.slice ava a.vals.length avc) (.slice ada a.kids.length adc)
   obtain⟨⟨y0,y1,y2,y3⟩,yf⟩:=qb Z1;refine qr 4 (by kernel_rfl) ?_
   refine qi rfl (by kernel_rfl) fun K' hK'=>?_
   clear hV v1 v2 v3;go_simp;refine hK' _ _ (qb B2).1 ?_;clear hK' K';refine qT (by kernel_rfl) ?_
   show wpList _ _ _ _ _ _
   obtain⟨⟨z0,z1,z2,z3⟩,zf⟩:=qb Z2;dsimp only[List.drop];clear y0 y1 y2 y3 yf E1 E1' E2 Z1 Z2 B2 q1 q2 bb1 bb2
   go_wp2_with fail
   go_meet
   exact⟨_,_,rfl,rfl,qa ⟨l1,l2,hne,FN.out.2.2,FN.out.1,FN.out.2.1⟩⟩
  refine qi rfl (by kernel_rfl) fun K' hK'=>?_
  go_simp;obtain⟨d1,hc1,E1,q1,r1⟩:=qf c0 #[.bool false,.slice none 0 0,.slice none 0 0,.slice none 0 0] 84;rw[<-hc1];obtain⟨x1,hx1⟩:∃ q,q=c0.heap.size:=⟨_,rfl⟩;rw[<-hx1] at E1 |-;have bb1:=b0.trans (q1.mono b0.size)
  refine hK' _ _ (HSS.out _ bb1) ?_;clear hK' K';try simp only[Act.put,qB6]
  replace hx1:=qa hx1;clear hc1 r1;refine qr 2 (by kernel_rfl) ?_
  refine qi rfl (by kernel_rfl) fun K' hK'=>?_
  go_simp;obtain⟨d2,hc2,E2,q2,r2⟩:=qf d1 #[.bool false,.slice none 0 0,.slice none 0 0,.slice none 0 0] 84;rw[<-hc2];obtain⟨x2,hx2⟩:∃ q,q=d1.heap.size:=⟨_,rfl⟩;rw[<-hx2] at E2 |-;have bb2:=bb1.trans (q2.mono bb1.size)
  have E1':=(q2.block _ (xa E1)).trans E1
  have hne:x1≠x2:=by have:=xa E1;omega
  have l1:X.heap.size<=x1:=by have:=hx1.out;have:=b0.size;omega
  have l2:X.heap.size<=x2:=by have:=bb1.size;omega
  refine hK' _ _ (HSS.out _ bb2) ?_;clear hK' K';try simp only[Act.put,qB6]
  replace hx2:=qa hx2;clear hc2 r2;obtain⟨V,hV,v1,v2,v3⟩:=qhs (hne.symm) (E2) (E1') bb2 (l2) (l1) (.bool a.leaf) (.slice aka a.keys.length akc) (.slice ava a.vals.length avc) (.slice ada a.kids.length adc) (.bool a.leaf) (.slice aka a.keys.length akc) (.slice ava a.vals.length avc) (.slice ada a.kids.length adc);have FN:=qa (xb v1 (xb v2 v3))
  rw[hV] at FN;have Z1:=E2
  have Z2:=Qs E1' (show x1≠x2 by omega) (.bool a.leaf) (.slice aka a.keys.length akc) (.slice ava a.vals.length avc) (.slice ada a.kids.length adc)
  have B2:=Qs ((bb2.block _ (xa HX.out.2.1)).trans HX.out.2.1) (show w.heap.size+1≠x2 by have:=hsX.out;omega) (.bool a.leaf) (.slice aka a.keys.length akc) (.slice ava a.vals.length avc) (.slice ada a.kids.length adc)
  obtain⟨⟨y0,y1,y2,y3⟩,yf⟩:=qb Z1;refine qr 4 (by kernel_rfl) ?_
  refine qi rfl (by kernel_rfl) fun K' hK'=>?_
  clear hV v1 v2 v3;go_simp;refine hK' _ _ (qb B2).1 ?_;clear hK' K';refine qT (by kernel_rfl) ?_
  show wpList _ _ _ _ _ _
  obtain⟨⟨z0,z1,z2,z3⟩,zf⟩:=qb Z2;dsimp only[List.drop];clear y0 y1 y2 y3 yf E1 E1' E2 Z1 Z2 B2 q1 q2 bb1 bb2
  go_wp2_with fail
  go_meet
  exact⟨_,_,rfl,rfl,qa ⟨l2,l1,hne.symm,FN.out.2.2,FN.out.1,FN.out.2.1⟩⟩
 case rest =>
 obtain⟨g11,g12,rfl,rfl,hT⟩:=hcut
 go_upto_region 4 with fail
 obtain⟨l11,l12,hne,bT,D11,D12⟩:=hT.out;have b0:Below wc.heap.size wc wc.drew:=qg wc 1 _
 obtain⟨c1,hc1⟩:∃ c,c=wc.drew:=⟨_,rfl⟩;rw[<-hc1] at b0;have bTc:=bT.trans (b0.mono bT.size)
 have belc:=HX.out.2.2.2.trans (bTc.mono HX.out.2.2.2.size)
 have M1:=HM.out.to belc
 have N0:=(bTc.block _ (xa HX.out.1)).trans HX.out.1
 have R0:=(bTc.block _ (xa HX.out.2.2.1)).trans HX.out.2.2.1
 have G11:=(b0.block _ (xa D11)).trans D11
 have G12:=(b0.block _ (xa D12)).trans D12
 obtain⟨⟨E0,E1,E2,E3⟩,EF⟩:=qb N0;have kc9:=(belc.cell (qe hcd)).trans hcd
 refine qj (fun w'=>(w'.cell? ⟨gc,0,none⟩=some (.pointer (some ⟨g,0,none⟩))/\w'.cell? ⟨g,3,none⟩=some (.map (some bm))/\w'.cell? ⟨w.heap.size,3,none⟩=some (.slice (some ⟨db,dO,none⟩) Z dc))/\w'.cell? ⟨db,dO+i,none⟩=some (.int .i64 sid)/\MapI w' bm k m) 13 13 qG (by kernel_rfl) (fun _ _ _ _ h=>h) (by rw[<-hc1];exact⟨⟨M1.c,M1.s,E3⟩,kc9,M1.map⟩) ?_
 rw[<-hc1];replace hc1:=qa hc1;dsimp only[List.take,List.drop]
 iterate 13
  refine qA (v:=?_) (by rfl) ?_ ?_
  rotate_left
  ·rintro w' ⟨⟨s1,s2,s3⟩,s4,s5⟩;have hlk:=s5.look xS (QG w') hwf'.out false
   rw[hm'.out] at hlk;simp only[xM,xI,XJ] at hlk;dsimp only[nv] at hlk;go_simp;try with_reducible rfl
  try simp only[Act.put,qB6]
 show wpList _ _ _ _ _ _
 obtain⟨V,hV⟩:∃ V,V=S4 g11 c1 (.bool s.leaf) (.slice ska s.keys.length skc) (.slice sva s.vals.length svc) (.slice sda s.kids.length sdc):=⟨_,rfl⟩;have hsz:=hsX.out
 have VT:V.heap[g11]?=some (.cells #[.bool s.leaf,.slice ska s.keys.length skc,.slice sva s.vals.length svc,.slice sda s.kids.length sdc] 84 (0,0)):=by rw[hV];exact qu G11 _ _ _ _
 have VO:V.heap[g12]?=some (.cells #[.bool a.leaf,.slice aka a.keys.length akc,.slice ava a.vals.length avc,.slice ada a.kids.length adc] 84 (0,0)):=by rw[hV];exact Qs G12 (by omega) _ _ _ _
 have VN:V.heap[w.heap.size]?=some (.cells #[.bool n.leaf,.slice (some ⟨kb,ko,none⟩) KK kc,.slice va n.vals.length vc,.slice (some ⟨db,dO,none⟩) Z dc] 84 (0,0)):=by rw[hV];exact Qs N0 (by omega) _ _ _ _
 have VR:V.heap[w.heap.size+1+1]?=some (.cells #[.bool false,.slice none 0 0,.slice none 0 0,.slice none 0 0] 84 (0,0)):=by rw[hV];exact Qs R0 (by omega) _ _ _ _
 have bV:Below w.heap.size w V:=by rw[hV];exact qn belc (by omega) _ _ _ _
 have KB:=qa (yn V a _ _ _ (HA.out.to bV) hka'.out (by omega))
 have HV:=qa (xb VN (xb VR (xb VT (xb VO bV))))
 obtain⟨⟨y0,y1,y2,y3⟩,yf⟩:=qb G11;obtain⟨⟨t0,t1,t2,t3⟩,tf⟩:=qb VO;rw[hV] at KB t0 t1 t2 t3 tf;dsimp only[nv] at KB;clear VT VO VN VR bV M1 N0 R0 belc bTc bT b0 E0 E1 E2 E3 EF kc9 G11 G12 D11 D12
 go_wp2_with fail
 refine KB.out.mono ?_;rintro e w5 ⟨v5,rfl,o5,b5⟩;have hV':=hV
 rw[<-hV'] at o5 b5;replace hV:=qa hV;clear KB y0 y1 y2 y3 yf t0 t1 t2 t3 tf hV';obtain⟨VN,VR,VT,VO,bV⟩:=HV.out;have bw5:=bV.trans (b5.mono bV.size)
 have hbr:brs a=([],a.kids.headD 0)::(brs a).tail:=rfl
 rw[hbr] at o5;obtain⟨gB,capB,rfl,lB,oB,keepB,cB,fB⟩:=OwnBr.first o5 key;obtain⟨U,hU⟩:∃ U,U=w5.setCell ⟨gB,0,none⟩ (st key):=⟨_,rfl⟩;rw[<-hU] at oB keepB;have N5:=(b5.block _ (xa VN)).trans VN
 obtain⟨⟨E0,E1,E2,E3⟩,EF⟩:=qb N5;have ck:=(bw5.cell (qe hck)).trans hck
 have bU:Below w.heap.size w U:=by rw[hU];exact bw5.setCell (p:=⟨gB,0,none⟩) (xi bV.size lB) _
 have hgl:g11≠gB:=by have:=xa VT;omega
 have UL:=(keepB g11 hgl).trans ((b5.block _ (xa VT)).trans VT)
 have UR:=(keepB (w.heap.size+1+1) (by have:=xa VR;omega)).trans ((b5.block _ (xa VR)).trans VR)
 have sU:U.heap.size=w5.heap.size:=by rw[hU];simp
 have KL:=qa (yn U s _ _ _ (HS.out.to bU) hks'.out (by omega))
 obtain⟨⟨t0,t1,t2,t3⟩,tf⟩:=qb UL;have HU:=qa (xb UR (xb oB bU))
 generalize hLB:((brs a).tail.length+1)=LB at *;replace hLB:=qa hLB;have hLB0:0<LB:=by have:=hLB.out;omega
 rw[hU] at KL t0 t1 t2 t3 tf;dsimp only[nv] at KL;clear UL UR oB bU N5 o5 b5 bw5 keepB
 go_wp2_with fail
 refine KL.out.mono ?_;rintro e w6 ⟨v6,rfl,o6,b6⟩;rw[<-hU] at o6 b6;replace hU:=qa hU;clear KL t0 t1 t2 t3 tf E0 E1 E2 E3 EF ck cB fB;obtain⟨UR,oB,bU⟩:=HU.out;have oB6:=qB oB b6
 obtain⟨a6,c6,hv6⟩:=o6.slice
 have lt6:(brs a).tail.length<=400:=by
  have h9:=Ju hka'.out
  rw[hka'.out,hbr,xC] at h9;omega
 have ll6:(brs s).length<=401:=by rw[Ju hks'.out,hks'.out];omega
 have H6:=qa (xb ((b6.block _ (xa UR)).trans UR) (xb o6 (bU.trans (b6.mono bU.size))))
 have o6':=qa o6
 have oB6':Hid (OwnBr V.heap.size w6 (.slice (some ⟨gB,0,none⟩) LB capB) ((key,a.kids.headD 0)::(brs a).tail)):=oB6
 have hl6:U.heap.size<=w6.heap.size:=b6.size
 have hbU:w.heap.size<=U.heap.size:=bU.size
 have hbU2:w.heap.size+1+1<U.heap.size:=xa UR
 clear oB6 oB UR bU b6 o6;obtain⟨LL,hLL⟩:∃ q,q=(brs s).length:=⟨_,rfl⟩;rw[<-hLL] at hv6;replace hLL:=qa hLL
 have hl9:Hid ((brs s).length+((key,a.kids.headD 0)::(brs a).tail).length<=10000/\(brs s++(key,a.kids.headD 0)::(brs a).tail).length<=1000):=by
  rw[xk,xC];exact⟨by omega,by omega⟩
 subst hv6;clear lt6 ll6
 go_wp2_with (at_builtin;refine Ys rfl _ _ rfl U.heap.size V.heap.size _ _ _ _ rfl rfl o6'.out oB6'.out (by simp) hl9.out.1 hl6 ?_;intro v7 w7 o7 r7)
 have KI:=qa (Yo U.heap.size w7 v7 _ o7 hl9.out.2)
 obtain⟨R6,o6,b6⟩:=H6.out;have bw7:Below w.heap.size w w7:=b6.grown r7 (xi hbU hl6) (fun q hq=>xi hbU (xo o6 q hq).1)
 have R7:w7.heap[w.heap.size+1+1]?=some (.cells #[.bool false,.slice none 0 0,.slice none 0 0,.slice none 0 0] 84 (0,0)):=(r7.block _ (xa R6) (fun e9=>by have:=(xo o6 _ e9.symm).1;omega)).trans R6
 obtain⟨a7,c7,hv7⟩:=o7.slice;obtain⟨L7,hL7⟩:∃ q,q=(brs s++(key,a.kids.headD 0)::(brs a).tail).length:=⟨_,rfl⟩;rw[<-hL7] at hv7;replace hL7:=qa hL7;subst hv7;have H7:=qa (xb R7 bw7)
 clear o6 b6 R6 R7 bw7 o7 r7 o6' oB6' H6 HU HV
 go_wp2_with fail
 refine KI.out.mono ?_;rintro e w8 ⟨kv8,dv8,rfl,o8,b8⟩;obtain⟨R7,bw7⟩:=H7.out;have R8:=(b8.block _ (xa R7)).trans R7
 have HR8:=qa R8
 obtain⟨⟨J0,J1,J2,J3⟩,JF⟩:=qb R8;obtain⟨k8a,k8c,hk8⟩:=o8.keys.rd.slice;obtain⟨d8a,d8c,hd8⟩:=o8.kids.rd.slice;have o8':=qa o8
 have B8:=qa (bw7.trans (b8.mono bw7.size))
 have hw7:Hid (w.heap.size<=w7.heap.size):=bw7.size
 generalize hNN:inr (brs s++(key,a.kids.headD 0)::(brs a).tail)=NN at *;have hNl:NN.leaf=false:=by rw[<-hNN];rfl
 replace hNN:=qa hNN;subst hk8 hd8;clear o8 b8 R7 bw7 R8 KI H7;dsimp only[nv];go_wp2;refine Js rfl rfl (w.heap.size+1+1) rfl _ _ (0,0) (qu HR8.out _ _ _ _) _ xJ rfl Qe ?_;have k1:=fun e (he:e≠84)=>z8 HR8.out (.bool false) (.slice k8a NN.keys.length k8c) (.slice none 0 0) (.slice d8a NN.kids.length d8c) he
 refine⟨_,_,rfl,?_,qn B8.out (by omega) _ _ _ _⟩
 rw[hNN.out];exact(o8'.out.mono hw7.out).keepT (k1 _ (by decide)) (k1 _ (by decide))
theorem qix:(Tryz.prog.info? 9).map (·.size)=some 1:=by kernel_rfl
theorem qhv (xs:List Str):∀ v∈xs.map st,v.oneCell'=true:=by
 intro v hv;obtain⟨x,_,rfl⟩:=Xx.1 hv;rfl
theorem JT {cur:Array Value} {T:TypeId} {fr:Nat×Nat} (h:w.heap[g]?=some (.cells cur T fr)) (j:Nat):w.cell? ⟨g,j,none⟩=cur.toList[j]?:=by
 simp[World.cell?,h]
theorem qjx (B:Nat) (w:World) (xs:List Str) (y:Str) (g cap gv i:Nat) (cur:Array Value) (hg:w.heap[g]?=some (.cells cur 9 (0,0))) (hcs:cur.size=cap) (hct:cur.toList.take xs.length=xs.map st) (hcm:cap<=9223372036854775807) (hroom:xs.length+1<=cap)
 (hb:w.heap[gv]?=some (.cells #[st y] 9 (0,0))) (hne:gv≠g) (hi:i<xs.length) :
 Calls Tryz.prog 28 #[.slice (some ⟨g,0,none⟩) xs.length cap,.int .i64 (i:Int),.slice (some ⟨gv,0,none⟩) 1 1] w fun e w'=>e=.returned (.slice (some ⟨g,0,none⟩) (xs.length+1) cap)/\w'=w.drew.setRow g (seg (seg cur.toList (i+1) ((xs.drop i).map st)) i [st y]).toArray:=by
 obtain⟨n,hn⟩:∃ n,n=xs.length:=⟨_,rfl⟩;have hcl:cur.toList.length=cap:=by rw[x8];exact hcs
 have hat:∀ j,j<xs.length->cur.toList[j]?=(xs.map st)[j]?:=fun j hj=>by rw[<-hct,xP,xj hj]
 have hov:Hid (∀ lb cb,(callFunc 62 #[.slice (some ⟨gv,0,none⟩) 1 1,.slice (some ⟨g,i+1,none⟩) lb cb]).run Tryz.prog w=.ok (.value (.bool false)) w):=fun lb cb=>by
  rw[run_callFunc_extern Tryz.func62 (by kernel_rfl) (by kernel_rfl) (by kernel_rfl) (e:=Extern.SlicesOverlaps.overlaps #[81,81] #[4]) (by kernel_rfl),
   Lib.run_overlaps_apart w 81 4 9 Xz 1 (fun w=>by kernel_rfl) ⟨gv,0,none⟩ ⟨g,i+1,none⟩ 1 1 lb cb hne 9 9 1 cap (by simp[World.shape?,hb]) (by simp[World.shape?,hg,hcs]) (by omega) (by simp[World.frozen?,hb]) (by simp[World.frozen?,hb])]
  rfl
 have hgd:w.drew.heap[g]?=some (.cells cur 9 (0,0)):=qy hg
 have hcp1:Hid (∀ ty dc sc,(Builtin.copy_ #[81,81] ty #[.slice (some ⟨g,i+1,none⟩) (xs.length-i) dc,.slice (some ⟨g,i,none⟩) (xs.length+1-i) sc]).run Tryz.prog w.drew=.ok (goInt (xs.length-i:Nat)) (w.drew.setRow g (seg cur.toList (i+1) ((xs.drop i).map st)).toArray)):=fun ty dc sc=>by
  refine QK w.drew _ _ ty 9 1 g (i+1) _ dc ⟨g,i,none⟩ _ sc cur 9 ((xs.drop i).map st) (xs.length-i) Xz qix hgd ?_ (by simp) (fun j v hj=>?_) (by simp;omega) (qhv _)
  ·show _=min _ _
   omega
  rw[XB,JT hgd];have hjl:=(xn.1 hj).1
  simp only[Xe,xE] at hjl;rw[hat (i+j) (by omega)]
  rw[<-hj,kK,XQ]
 obtain⟨W1,hW1⟩:∃ W,W=w.drew.setRow g (seg cur.toList (i+1) ((xs.drop i).map st)).toArray:=⟨_,rfl⟩;have hseg:(seg cur.toList (i+1) ((xs.drop i).map st)).length=cap:=by rw[Qu (by simp;omega)];exact hcl
 have hg1:W1.heap[g]?=some (.cells (seg cur.toList (i+1) ((xs.drop i).map st)).toArray 9 (0,0)):=by rw[hW1];exact XX _ g cur _ _ _ hgd
 have hb1:W1.heap[gv]?=some (.cells #[st y] 9 (0,0)):=by rw[hW1];exact(XH _ g gv _ hne).trans (qy hb)
 have hcp2:Hid (∀ ty dc,(Builtin.copy_ #[81,81] ty #[.slice (some ⟨g,i,none⟩) (xs.length+1-i) dc,.slice (some ⟨gv,0,none⟩) 1 1]).run Tryz.prog W1=.ok (goInt (1:Nat)) (W1.setRow g (seg (seg cur.toList (i+1) ((xs.drop i).map st)) i [st y]).toArray)):=fun ty dc=>by
  refine QK W1 _ _ ty 9 1 g i _ dc ⟨gv,0,none⟩ 1 1 _ 9 [st y] 1 Xz qix hg1 ?_ rfl (fun j v hj=>?_) ?_ (fun v hv=>by simp at hv;subst hv;rfl)
  ·show _=min _ _
   omega
  ·rw[XB,JT hb1]
   simpa using hj
  show i+1<=(seg cur.toList (i+1) ((xs.drop i).map st)).toArray.size
  rw[Xb,hseg];omega
 rw[<-hW1] at hcp1;have hfin:Hid (W1.setRow g (seg (seg cur.toList (i+1) ((xs.drop i).map st)) i [st y]).toArray=w.drew.setRow g (seg (seg cur.toList (i+1) ((xs.drop i).map st)) i [st y]).toArray):=by show _=_;rw[hW1,setRow_setRow]
 rw[<-hn] at hcp1 hcp2 hroom hi |-;replace hn:=qa hn;have hz2:((i:Int) == (n:Int))=false:=by simp;omega
 have hw1:IntKind.i64.wrap ((i:Int)+1)=(i:Int)+1:=xB _ (by omega)
 have hw2:IntKind.i64.wrap ((n:Int)+1)=(n:Int)+1:=xB _ (by omega)
 have hb1':(0:Int)<=(i:Int)+1:=by omega
 have hin:i<=n:=by omega
 have htn:((i:Int)+1).toNat=i+1:=by omega
 have htn2:((n:Int)+1).toNat=n+1:=by omega
 have hb2:¬ (cap=i+1):=by omega
 have hb3:(i:Int)<=(n:Int)+1:=by omega
 have hb4:¬ (cap=i):=by omega
 clear hcs hct hat hcl hgd hseg hg1 hb1 hg hb hne hW1;have hmix:=qG
 go_enter Tryz.func28,Tryz.ntmps28
 go_wp2_with (simp only[hov.out])
 refine qj (fun _=>True) 8 8 qG (by kernel_rfl) (fun _ _ _ _ h=>h) trivial ?_
 dsimp only[List.take,List.drop]
 iterate 8
  refine qA (v:=?_) (by rfl) ?_ ?_
  rotate_left
  ·rintro w' _;go_simp;try with_reducible rfl
  try simp only[Act.put,qB6]
 show wpList _ _ _ _ _ _
 refine QB _ rfl _ _ 81 81 rfl _ _ rfl rfl _ _ (hcp1.out _ _ _) ?_
 go_wp2_with (simp only[hcp2.out,Xm])
 go_ret;refine⟨rfl,Eq.trans ?_ hfin.out⟩;rw[kK]
theorem qmt:(Tryz.prog.info? 9).map (fun i=>(i.zero,i.size,i.bytes))=some (some (.string ⟨#[]⟩),1,16):=by kernel_rfl
theorem qku (w:World) (xs:List Str) (y:Str) (g cap gv i:Nat) (cur:Array Value) (hg:w.heap[g]?=some (.cells cur 9 (0,0))) (hcs:cur.size=cap) (hct:cur.toList.take xs.length=xs.map st) (hroom:cap<xs.length+1) (hcap:xs.length<=cap)
 (hb:w.heap[gv]?=some (.cells #[st y] 9 (0,0))) (hi:i<xs.length) (hl:xs.length<=1000000) :
 Calls Tryz.prog 28 #[.slice (some ⟨g,0,none⟩) xs.length cap,.int .i64 (i:Int),.slice (some ⟨gv,0,none⟩) 1 1] w fun e w'=>∃ G,e=.returned (.slice (some ⟨w.heap.size,0,none⟩) (xs.length+1) G)/\OwnT w.heap.size w' (.slice (some ⟨w.heap.size,0,none⟩) (xs.length+1) G) (xs.take i++y::xs.drop i)/\w.grownBy w' none:=by
 obtain⟨n,hn⟩:∃ n,n=xs.length:=⟨_,rfl⟩;have hat:∀ j,j<xs.length->cur.toList[j]?=(xs.map st)[j]?:=fun j hj=>by rw[<-hct,xP,xj hj]
 obtain⟨i0,hi0,hz0,hz1,hz2⟩:=Xh qmt;have hA:((xs.take i).map st).length=i*1:=by simp;omega
 have hAt:cur.toList.take (i*1)=(xs.take i).map st:=by
  have:cur.toList.take i=(cur.toList.take xs.length).take i:=by rw[List.take_take];congr 1;omega
  rw[kT,this,hct,kV]
 obtain⟨G,ROW,hr,hR1,hR2,hR3,hR4⟩:=qbp w 81 3 81 9 i0 _ .i64 1 16 Xz X8 hi0 hz0 hz1 hz2 rfl (by omega) g cap i (xs.length+1-i) cur ((xs.take i).map st) hg hA hAt (by omega) (by omega) (by omega) (by omega) (by omega)
 have hik:i+(xs.length+1-i)=xs.length+1:=by omega
 rw[hik] at hr hR3;rw[hA,kT] at hR2;obtain⟨W1,hW1⟩:∃ W,W=w.drew.alloc (.cells ROW 9):=⟨_,rfl⟩;have hd1:W1.heap[w.heap.size]?=some (.cells ROW 9 (0,0)):=by rw[hW1];exact xy w.drew _
 have hgl:g<w.heap.size:=xa hg
 have hvl:gv<w.heap.size:=xa hb
 have ho1:∀ k,k<w.heap.size->W1.heap[k]?=w.heap[k]?:=fun k hk=>by
  rw[hW1];simp only[World.alloc,Array.getElem?_push];rw[xh (show k≠w.drew.heap.size from by have:w.drew.heap.size=w.heap.size:=rfl;omega)]
  rfl
 have hs1:W1.heap.size=w.heap.size+1:=by rw[hW1];simp[World.alloc]
 obtain⟨L2,hL2⟩:∃ L,L=seg ROW.toList i [st y]:=⟨_,rfl⟩;have hRl:ROW.toList.length=G:=by rw[x8,hR1];omega
 have hl2:L2.length=G:=by rw[hL2,Qu (by simp;omega)];exact hRl
 obtain⟨W2,hW2⟩:∃ W,W=W1.setRow w.heap.size L2.toArray:=⟨_,rfl⟩;have hd2:W2.heap[w.heap.size]?=some (.cells L2.toArray 9 (0,0)):=by rw[hW2];exact XX _ _ _ _ _ _ hd1
 have ho2:∀ k,k<w.heap.size->W2.heap[k]?=w.heap[k]?:=fun k hk=>by rw[hW2];exact(XH _ _ _ _ (by omega)).trans (ho1 k hk)
 have hcp1:Hid (∀ ty dc,(Builtin.copy_ #[81,81] ty #[.slice (some ⟨w.heap.size,i,none⟩) (xs.length+1-i) dc,.slice (some ⟨gv,0,none⟩) 1 1]).run Tryz.prog W1=.ok (goInt (1:Nat)) W2):=fun ty dc=>by
  rw[hW2,hL2];refine QK W1 _ _ ty 9 1 w.heap.size i _ dc ⟨gv,0,none⟩ 1 1 ROW 9 [st y] 1 Xz qix hd1 ?_ rfl (fun j v hj=>?_) (by simp;omega) (fun v hv=>by simp at hv;subst hv;rfl)
  ·show _=min _ _
   omega
  rw[XB,JT ((ho1 gv hvl).trans hb)]
  simpa using hj
 obtain⟨L3,hL3⟩:∃ L,L=seg L2 (i+1) ((xs.drop i).map st):=⟨_,rfl⟩;have hl3:L3.length=G:=by rw[hL3,Qu (by simp;omega)];exact hl2
 obtain⟨W3,hW3⟩:∃ W,W=W2.drew.setRow w.heap.size L3.toArray:=⟨_,rfl⟩;have hd2':W2.drew.heap[w.heap.size]?=some (.cells L2.toArray 9 (0,0)):=qy hd2
 have hcp2:Hid (∀ ty dc,(Builtin.copy_ #[81,81] ty #[.slice (some ⟨w.heap.size,i+1,none⟩) (xs.length-i) dc,.slice (some ⟨g,i,none⟩) (xs.length-i) (cap-i)]).run Tryz.prog W2.drew=.ok (goInt (xs.length-i:Nat)) W3):=fun ty dc=>by
  rw[hW3,hL3,show L2=L2.toArray.toList by simp]
  refine QK W2.drew _ _ ty 9 1 w.heap.size (i+1) _ dc ⟨g,i,none⟩ _ _ L2.toArray 9 ((xs.drop i).map st) (xs.length-i) Xz qix hd2' ?_ (by simp) (fun j v hj=>?_) (by simp;omega) (qhv _)
  ·show _=min _ _
   omega
  rw[XB,JT (w:=W2.drew) (qy ((ho2 g hgl).trans hg))];have hjl:=(xn.1 hj).1
  simp only[Xe,xE] at hjl;rw[hat (i+j) (by omega),<-hj,kK,XQ]
 have FIN:Hid (OwnT w.heap.size W3 (.slice (some ⟨w.heap.size,0,none⟩) (xs.length+1) G) (xs.take i++y::xs.drop i)/\w.grownBy W3 none):=by
  have hlen:(xs.take i++y::xs.drop i).length=xs.length+1:=by simp;omega
  have h9:=yo (L:=ROW.toList) (A:=(xs.take i).map st) (V:=[st y]) (C:=(xs.drop i).map st) (by rw[show ((xs.take i).map st).length=i by simp;omega];exact hR2) (by rw[hRl];simp;omega)
  rw[show ((xs.take i).map st).length=i by simp;omega] at h9
  have h8:L3.take ((xs.length+1)*1)=(xs.take i++y::xs.drop i).map st:=by
   rw[hL3,hL2];have:i+[st y].length+((xs.drop i).map st).length=(xs.length+1)*1:=by simp;omega
   rw[this] at h9
   simpa using h9
  have hrow:=Ym (B:=w.heap.size) (k:=xs.length+1) (cap:=G) (n:=1) hd2' (xc _) hR3 (by unfold maxLen;exact hR4) (by rw[hl3];omega) (by rw[Xe,hlen];omega) h8
  refine⟨?_,?_⟩
  ·have:=hrow.1
   rw[<-hW3] at this;show World.ownsRow _ _ _ _ _ _ _
   rw[hlen];exact this
  refine⟨by rw[hW3,hW2,hW1];rfl,by rw[hW3,hW2,hW1];rfl,by rw[hW3,hW2,hW1];rfl,?_,fun k hk _=>?_⟩
  ·rw[hW3,setRow_size];show w.heap.size<=W2.heap.size
   rw[hW2,setRow_size,hs1];omega
  rw[hW3];exact(XH _ _ _ _ (by omega)).trans (ho2 k hk)
 rw[<-hW1] at hr;rw[<-hn] at hcp1 hcp2 hroom hi hr FIN hcap hl hR3 |-;replace hn:=qa hn;have hz2:((i:Int) == (n:Int))=false:=by simp;omega
 have hw1:IntKind.i64.wrap ((i:Int)+1)=(i:Int)+1:=xB _ (by omega)
 have hw2:IntKind.i64.wrap ((n:Int)+1)=(n:Int)+1:=xB _ (by omega)
 have hw3:IntKind.i64.wrap ((n:Int)+1-i)=(n:Int)+1-i:=xB _ (by omega)
 have hcc:(cap:Int)<(n:Int)+1:=by omega
 have hb1':(0:Int)<=(i:Int)+1:=by omega
 have hin:i<=n:=by omega
 have hic:i<=cap:=by omega
 have htn:((i:Int)+1).toNat=i+1:=by omega
 have hb2:¬ (G=i+1):=by omega
 have hb3:(i:Int)<=(n:Int)+1:=by omega
 have hb4:¬ (cap=i):=by omega
 have hb5:¬ (G=i):=by omega
 have hap:Hid ((Builtin.append_ #[81,3] 81 #[.slice (some ⟨g,0,none⟩) i cap,.int .i64 ((n:Int)+1-(i:Int))]).run Tryz.prog w=.ok (.slice (some ⟨w.heap.size,0,none⟩) (n+1) G) W1):=by
  show _=_
  rw[show (n:Int)+1-(i:Int)=((n+1-i:Nat):Int) by omega]
  exact hr
 clear hcs hct hat hr hR1 hR2 hR4 hd1 ho1 hs1 hd2 hd2' ho2 hg hb hW1 hW2 hW3 hL2 hL3 hl2 hl3 hRl hA hAt hik hz0 hz1 hi0 hgl hvl;go_enter Tryz.func28,Tryz.ntmps28
 go_wp2_with (first|(at_builtin;refine XY _ rfl _ _ _ _ rfl _ _ rfl rfl _ _ hap.out ?_)|simp only[hcp1.out,Xm])
 refine qj (fun _=>True) 8 8 qG (by kernel_rfl) (fun _ _ _ _ h=>h) trivial ?_
 dsimp only[List.take,List.drop]
 iterate 8
  refine qA (v:=?_) (by rfl) ?_ ?_
  rotate_left
  ·rintro w' _;go_simp;try with_reducible rfl
  try simp only[Act.put,qB6]
 show wpList _ _ _ _ _ _
 refine QB _ rfl _ _ 81 81 rfl _ _ rfl rfl _ _ (hcp2.out _ _) ?_;go_wp2;go_ret;exact⟨_,rfl,FIN.out.1,FIN.out.2⟩
theorem qe7 (B:Nat) (w:World) (v:Value) (xs:List Str) (y:Str) (gv i:Nat) (h:OwnT B w v xs) (hb:w.heap[gv]?=some (.cells #[st y] 9 (0,0))) (hne:∀ b,v.ownBlock=some b->gv≠b) (hB:B<=w.heap.size) (hl:xs.length<=1000000) (hi:i<=xs.length) :
 Calls Tryz.prog 28 #[v,.int .i64 (i:Int),.slice (some ⟨gv,0,none⟩) 1 1] w fun e w'=>qp6 B w w' v (xs.take i++y::xs.drop i) e:=by
 have hlen:(xs.take i++y::xs.drop i).length=xs.length+1:=by simp;omega
 by_cases hiE:i=xs.length
 ·subst hiE;have:=qa9 B w v xs y gv h (qt hb rfl) hB hl
  simpa using this
 obtain⟨g,cap,cur,rfl,hBg,hg,hkc,hcm,hcs,hct⟩:=zZ h (by omega)
 rw[kT] at hcs hct;unfold maxLen at hcm;have hgne:=hne g rfl
 by_cases hroom:xs.length+1<=cap
 ·refine(qjx B w xs y g cap gv i cur hg hcs hct hcm hroom hb hgne (by omega)).mono ?_
  rintro e w' ⟨rfl,rfl⟩;have hcl:cur.toList.length=cap:=by rw[x8];exact hcs
  have h9:=qir (L:=cur.toList) (A:=(xs.take i).map st) (V:=[st y]) (C:=(xs.drop i).map st) (by
   rw[show ((xs.take i).map st).length=i by simp;omega]
   have:cur.toList.take i=(cur.toList.take xs.length).take i:=by rw[List.take_take];congr 1;omega
   rw[this,hct,kV]) (by rw[hcl];simp;omega)
  rw[show ((xs.take i).map st).length=i by simp;omega] at h9
  have h8:(seg (seg cur.toList (i+1) ((xs.drop i).map st)) i [st y]).take ((xs.length+1)*1)=(xs.take i++y::xs.drop i).map st:=by
   have:i+[st y].length+((xs.drop i).map st).length=(xs.length+1)*1:=by simp;omega
   rw[this] at h9
   simpa using h9
  have hsl:(seg (seg cur.toList (i+1) ((xs.drop i).map st)) i [st y]).length=cap*1:=by
   have h7:(seg cur.toList (i+1) ((xs.drop i).map st)).length=cap:=by rw[Qu (by simp;omega)];exact hcl
   rw[Qu (show i+[st y].length<=_ by rw[h7];simp;omega),h7];omega
  have hrow:=Ym (B:=B) (k:=xs.length+1) (cap:=cap) (n:=1) (w:=w.drew) (qy hg) hBg hroom (by unfold maxLen;exact hcm) hsl (by rw[Xe,hlen];omega) h8
  refine⟨g,cap,by rw[hlen],?_,⟨rfl,rfl,rfl,by simp,fun k hk hk2=>(hrow.2.block k hk hk2)⟩,.inl rfl⟩
  show World.ownsRow _ _ _ _ _ _ _
  rw[hlen];exact hrow.1
 refine(qku w xs y g cap gv i cur hg hcs hct (by omega) hkc hb (by omega) hl).mono ?_
 rintro e w' ⟨G,rfl,o1,g1⟩;refine⟨w.heap.size,G,by rw[hlen],?_,⟨g1.os,g1.tape,g1.output,g1.size,fun k hk _=>g1.block k hk (by simp)⟩,.inr rfl⟩
 rw[hlen];exact Qt o1 (fun b hb9=>xi hB (xo o1 b hb9).1)
theorem qsp (w:World):(zeroValue 9).run Tryz.prog w=.ok (.string ⟨#[]⟩) w:=by kernel_rfl
theorem qch (B:Nat) (w:World) (v:Value) (xs:List Str) (i:Nat) (h:OwnT B w v xs) (hi:i<xs.length) (hl:xs.length<=1000000) :
 Calls Tryz.prog 31 #[v,.int .i64 (i:Int),.int .i64 ((i:Int)+1)] w fun e w'=>∃ g cap,v.ownBlock=some g/\e=.returned (.slice (some ⟨g,0,none⟩) (xs.length-1) cap)/\OwnT B w' (.slice (some ⟨g,0,none⟩) (xs.length-1) cap) (xs.take i++xs.drop (i+1))/\w.grownBy w' v.ownBlock:=by
 obtain⟨g,cap,cur,rfl,hBg,hg,hkc,hcm,hcs,hct⟩:=zZ h (by omega)
 rw[kT] at hcs hct;unfold maxLen at hcm;obtain⟨n,hn⟩:∃ n,n=xs.length:=⟨_,rfl⟩;obtain⟨i0,hi0,hz0,hz1,hz2⟩:=Xh qmt;have hcl:cur.toList.length=cap:=by rw[x8];exact hcs
 have hat:∀ j,j<xs.length->cur.toList[j]?=(xs.map st)[j]?:=fun j hj=>by rw[<-hct,xP,xj hj]
 have hgd:w.drew.heap[g]?=some (.cells cur 9 (0,0)):=qy hg
 obtain⟨L1,hL1⟩:∃ L,L=seg cur.toList i ((xs.drop (i+1)).map st):=⟨_,rfl⟩;obtain⟨W1,hW1⟩:∃ W,W=w.drew.setRow g L1.toArray:=⟨_,rfl⟩;have hl1:L1.length=cap:=by rw[hL1,Qu (by simp;omega)];exact hcl
 have hap:Hid (∀ A sc,A=(if cap=i+1 then(⟨g,0,none⟩:Addr) else⟨g,i+1,none⟩)->(Builtin.append_ #[81,81] 81 #[.slice (some ⟨g,0,none⟩) i cap,.slice (some A) (xs.length-(i+1)) sc]).run Tryz.prog w.drew=.ok (.slice (some ⟨g,0,none⟩) (xs.length-1) cap) W1):=fun A sc hA=>by
  have h9:=run_append_room (P:=Tryz.prog) w.drew 81 81 9 i0 Xz hi0 g i cap cur hgd A (xs.length-(i+1)) sc ((xs.drop (i+1)).map st) (by rw[hz1];simp) (fun j u hj=>by
   have hjl:=(xn.1 hj).1
   simp only[Xe,xE] at hjl;rw[hA,xh (by omega),XB,JT hgd,hat (i+1+j) (by omega),<-hj,kK,XQ]) (qhv _) (by omega) (by rw[hz1];simp;omega)
  have e1:i+(xs.length-(i+1))=xs.length-1:=by omega
  rw[h9,hW1,hL1,hz1,kT,e1];rfl
 have hg1:W1.heap[g]?=some (.cells L1.toArray 9 (0,0)):=by rw[hW1];exact XX _ g cur _ _ _ hgd
 obtain⟨L2,hL2⟩:∃ L,L=seg L1 (xs.length-1) (Builtin.zeroCells (Value.string ⟨#[]⟩).cells 1).toList:=⟨_,rfl⟩;have hzl:(Builtin.zeroCells (Value.string ⟨#[]⟩).cells 1).toList.length=1:=by rw[x8,size_zeroCells];rfl
 have hl2:L2.length=cap:=by rw[hL2,Qu (by rw[hzl];omega)];exact hl1
 obtain⟨W2,hW2⟩:∃ W,W=W1.setRow g L2.toArray:=⟨_,rfl⟩
 have hcr:Hid (∀ ty c,(Builtin.clear_ #[81] ty #[.slice (some ⟨g,xs.length-1,none⟩) 1 c]).run Tryz.prog W1=.ok (.tuple #[]) W2):=fun ty c=>by
  rw[hW2,hL2];have h9:=jA W1 81 9 ty (.string ⟨#[]⟩) 1 g (xs.length-1) 1 c L1.toArray 9 Xz qsp rfl (fun v hv=>by simp[Value.cells] at hv;subst hv;rfl) hg1 (by simp;omega) (by omega)
  simpa using h9
 have FIN:Hid (OwnT B W2 (.slice (some ⟨g,0,none⟩) (xs.length-1) cap) (xs.take i++xs.drop (i+1))/\w.grownBy W2 (some g)):=by
  have hlen:(xs.take i++xs.drop (i+1)).length=xs.length-1:=by simp;omega
  have hti:cur.toList.take i=(xs.take i).map st:=by
   have:cur.toList.take i=(cur.toList.take xs.length).take i:=by rw[List.take_take];congr 1;omega
   rw[this,hct,kV]
  have h8:L2.take ((xs.length-1)*1)=(xs.take i++xs.drop (i+1)).map st:=by
   rw[kT,hL2,j7 (by rw[hzl];omega) (xc _),hL1,seg,hti,<-Xj,Xo (by rw[Xe,hlen])]
  have hrow:=Ym (B:=B) (k:=xs.length-1) (cap:=cap) (n:=1) hg1 hBg (by omega) (by unfold maxLen;exact hcm) (by rw[hl2];omega) (by rw[Xe,hlen];omega) h8
  rw[<-hW2] at hrow;refine⟨?_,⟨by rw[hW2,hW1];rfl,by rw[hW2,hW1];rfl,by rw[hW2,hW1];rfl,by rw[hW2,hW1];simp,fun k hk hk2=>?_⟩⟩
  ·show World.ownsRow _ _ _ _ _ _ _
   rw[hlen];exact hrow.1
  have hkg:k≠g:=fun e=>hk2 (by rw[e])
  rw[hW2,hW1];exact(XH _ _ _ _ hkg).trans (XH _ _ _ _ hkg)
 rw[<-hn] at hap hcr FIN hi hkc hl |-;replace hn:=qa hn;have hz3:((i:Int) == (i:Int)+1)=false:=by simp;omega
 have hin:i<=n:=by omega
 have hic:i<=cap:=by omega
 have hj0:(0:Int)<=(i:Int)+1:=by omega
 have hjn:(i:Int)+1<=(n:Int):=by omega
 have hji:(i:Int)<=(i:Int)+1:=by omega
 have htn:((i:Int)+1).toNat=i+1:=by omega
 have hb5:¬ (cap=n-1):=by omega
 have hn1:((n-1:Nat):Int)<=(n:Int):=by omega
 have hn2:n-(n-1)=1:=by omega
 have hn3:n-1<=n:=by omega
 by_cases hb2:cap=i+1
 ·subst hb2;obtain rfl:n=i+1:=by omega
  have hap':Hid ((Builtin.append_ #[81,81] 81 #[.slice (some ⟨g,0,none⟩) i (i+1),.slice (some ⟨g,0,none⟩) 0 0]).run Tryz.prog w.drew=.ok (.slice (some ⟨g,0,none⟩) i (i+1)) W1):=by
   have:=hap.out ⟨g,0,none⟩ 0 (by rw[xj rfl])
   rw[Nat.sub_self,XN] at this;exact this
  rw[XN] at hcr FIN |-;clear hb5 hn1 hn2 hn3;have hn2:i+1-i=1:=by omega
  have hb5:¬ (i+1=i):=by omega
  clear hcs hct hat hcl hgd hg1 hg hW1 hW2 hL1 hL2 hl1 hl2 hzl hz0 hz1 hi0 h hap;go_enter Tryz.func31,Tryz.ntmps31
  go_wp2_with fail
  refine qj (fun _=>True) 6 6 qG (by kernel_rfl) (fun _ _ _ _ h=>h) trivial ?_
  dsimp only[List.take,List.drop]
  iterate 6
   refine qA (v:=?_) (by rfl) ?_ ?_
   rotate_left
   ·rintro w' _;go_simp;try with_reducible rfl
   try simp only[Act.put,qB6]
  show wpList _ _ _ _ _ _
  refine XY _ rfl _ _ _ _ rfl _ _ rfl rfl _ _ hap'.out ?_
  go_wp2_with (simp only[hn2,hcr.out,Xm])
  go_ret;exact⟨g,i+1,rfl,rfl,FIN.out.1,FIN.out.2⟩
 have hap':=qa (hap.out ⟨g,i+1,none⟩ (cap-(i+1)) (by rw[xh hb2]))
 clear hcs hct hat hcl hgd hg1 hg hW1 hW2 hL1 hL2 hl1 hl2 hzl hz0 hz1 hi0 h hap;go_enter Tryz.func31,Tryz.ntmps31
 go_wp2_with fail
 refine qj (fun _=>True) 6 6 qG (by kernel_rfl) (fun _ _ _ _ h=>h) trivial ?_
 dsimp only[List.take,List.drop]
 iterate 6
  refine qA (v:=?_) (by rfl) ?_ ?_
  rotate_left
  ·rintro w' _;go_simp;try with_reducible rfl
  try simp only[Act.put,qB6]
 show wpList _ _ _ _ _ _
 refine XY _ rfl _ _ _ _ rfl _ _ rfl rfl _ _ hap'.out ?_
 go_wp2_with (simp only[hn2,hcr.out,Xm])
 go_ret;exact⟨g,cap,rfl,rfl,FIN.out.1,FIN.out.2⟩
def qro (nd:Nd) (key val:Str) (at9:Nat) (there:Bool):Nd:=if there=true then⟨nd.leaf,nd.keys,nd.vals.set at9 val,nd.kids⟩ else⟨nd.leaf,nd.keys++[key],nd.vals++[val],nd.kids⟩
structure KS9 (B:Nat) (w w':World):Prop where
 typ:∀ e,e≠9->KeepT e w w'
 bel:Below B w w'
 size:w.heap.size<=w'.heap.size
theorem KS9.of (b:Below w.heap.size w w') (hB:B<=w.heap.size):KS9 B w w':=⟨fun e _=>KeepT.below b,b.mono hB,b.size⟩
theorem KS9.trans {a b c:World} (h:KS9 B a b) (k:KS9 B b c):KS9 B a c:=⟨fun e he=>(h.typ e he).trans (k.typ e he),h.bel.trans k.bel,xi h.size k.size⟩
theorem KS9.grown {v:Value} (h:OwnT B w v xs) (g:w.grownBy w' v.ownBlock) (hB:B<=w.heap.size):KS9 B w w' :=
 ⟨fun e he=>KeepT.grown h g he,(xm _ _).grown g hB (fun k hk=>(xo h k hk).1),g.size⟩
theorem qh7 (B:Nat) (w:World) (nd:Nd) (kv vv dv:Value) (key val:Str) (at9:Nat) (there:Bool) (gk gl:Nat) (hN:OwnN B w kv vv dv nd) (hD:Dj kv vv dv) (hB:B<=w.heap.size) (hlen:nd.keys.length<=1000) (hlv:nd.vals.length=nd.keys.length)
 (hk:w.heap[gk]?=some (.cells #[st key] 9 (0,0))) (hgk:gk<B) (hv:w.heap[gl]?=some (.cells #[st val] 9 (0,0))) (hgl:gl<B) (ha:there=false/\at9=nd.keys.length) :
 Calls Tryz.prog 27 #[nv nd kv vv dv,.int .i64 (at9:Int),.bool there,.pointer (some ⟨gl,0,none⟩),.pointer (some ⟨gk,0,none⟩)] w fun e w'=>∃ kv' vv',e=.returned (nv (qro nd key val at9 there) kv' vv' dv)/\OwnN B w' kv' vv' dv (qro nd key val at9 there)/\KS9 B w w':=by
 obtain⟨W,hW,DW,bW,sW⟩:=qf w #[.bool nd.leaf,kv,vv,dv] 84;obtain⟨X,hX,DX,bX,sX⟩:=qf W #[.bool false,.slice none 0 0,.slice none 0 0,.slice none 0 0] 84;have bWX:=bW.trans (bX.mono bW.size)
 have NX:=hN.to bWX
 have D1:=(bX.block _ (xa DW)).trans DW
 rw[sW] at DX;have kX:=(bWX.block _ (xa hk)).trans hk
 have vX:=(bWX.block _ (xa hv)).trans hv
 have K0:=qa (KS9.of bWX hB)
 have hBX:B<=X.heap.size:=xi hB bWX.size
 obtain⟨ka,kc,va,vc,da,dc,rfl,rfl,rfl⟩:=hN.rd.slices;obtain⟨⟨E0,E1,E2,E3⟩,EF⟩:=qb D1;obtain⟨⟨F0,F1,F2,F3⟩,FF⟩:=qb DX;have G0:=qt kX (i:=0) rfl
 have L0:=qt vX (i:=0) rfl
 dsimp only[nv];replace hlv:=qa hlv;replace hD:=qa hD;obtain⟨rfl,rfl⟩:=ha
 have hpn:Hid (qro nd key val nd.keys.length false=⟨nd.leaf,nd.keys++[key],nd.vals++[val],nd.kids⟩):=rfl
 obtain⟨Y,hY,DY,bY,sY⟩:=qf X #[st key] 9;have KI:=qa (qa9 B Y (.slice ka nd.keys.length kc) nd.keys key X.heap.size (qB NX.keys bY) (qt DY rfl) (xi hBX bY.size) (by omega))
 have HY:=qa (xb bY (xb NX (xb D1 DX)))
 have kY:=qa ((bY.block _ (xa vX)).trans vX)
 have hsX:Hid (X.heap.size=w.heap.size+1+1):=by show _=_;rw[sX,sW]
 rw[sX,sW] at KI;rw[hY,hX,hW] at KI;rw[hX,hW] at E0 E1 E2 E3 EF F0 F1 F2 F3 FF G0 L0;clear DY bY NX D1 DX kX vX DW bW bX bWX hk hv hN;go_enter Tryz.func27,Tryz.ntmps27
 go_wp2_with fail
 refine KI.out.mono ?_;rintro e w2 ⟨g2,c2,rfl,o2,r2,l2⟩;rw[<-hW,<-hX,<-hY] at r2 l2;clear E0 E1 E2 E3 EF F0 F1 F2 F3 FF G0 L0 KI;have o2':OwnT B w2 (.slice (some ⟨g2,0,none⟩) (nd.keys++[key]).length c2) (nd.keys++[key]):=o2
 clear o2;obtain⟨KL,hKL⟩:∃ n,n=(nd.keys++[key]).length:=⟨_,rfl⟩;have o2:OwnT B w2 (.slice (some ⟨g2,0,none⟩) KL c2) (nd.keys++[key]):=by rw[hKL];exact o2'
 rw[<-hKL];replace hKL:=qa hKL;clear o2';obtain⟨bY,NX,D1,DX⟩:=HY.out;have hE:Hid (∀ b,b<X.heap.size->(Value.slice ka nd.keys.length kc).ownBlock≠some b->w2.heap[b]?=X.heap[b]?):=fun b hb hne=>(r2.block b (xV hb bY.size) (fun e=>hne e.symm)).trans (bY.block b hb)
 have kk:=KS9.grown (qB NX.keys bY) r2 (xi hBX bY.size)
 have K2:=qa ((K0.out.trans (KS9.of bY hBX)).trans kk)
 have V2:OwnT B w2 (.slice va nd.vals.length vc) nd.vals:=Q8 r2 (qB NX.vals bY) hD.out.1
 have J2:OwnJ B w2 (.slice da nd.kids.length dc) nd.kids:=Q8 r2 (qB NX.kids bY) hD.out.2.1
 have D2:=kk.typ _ (by decide) _ _ _ ((bY.block _ (xa D1)).trans D1)
 have R2:=kk.typ _ (by decide) _ _ _ ((bY.block _ (xa DX)).trans DX)
 have L2:=(kk.bel.block gl hgl).trans kY.out
 have hdj:Hid (∀ b,(Value.slice (some ⟨g2,0,none⟩) KL c2).ownBlock=some b->(Value.slice va nd.vals.length vc).ownBlock≠some b):=fun b hb hb2=>by
  have:g2=b:=by simpa[Value.ownBlock] using hb
  subst this;rcases l2 with l2|l2
  ·exact hD.out.1 _ l2 hb2
  have:=(xo NX.vals _ hb2).2
  have:=bY.size
  omega
 have hBs:Hid (B<=w2.heap.size):=xi (xi hBX bY.size) kk.size
 -- the keys are stored
 obtain⟨U,hU⟩:∃ U,U=w2.setCell ⟨w.heap.size,1,none⟩ (.slice (some ⟨g2,0,none⟩) KL c2):=⟨_,rfl⟩;have kU:∀ e,e≠84->KeepT e w2 U:=fun e he=>by rw[hU];exact KeepT.set (a:=⟨w.heap.size,1,none⟩) D2 he _
 have DU:U.heap[w.heap.size]?=some (.cells #[.bool nd.leaf,.slice (some ⟨g2,0,none⟩) KL c2,.slice va nd.vals.length vc,.slice da nd.kids.length dc] 84 (0,0)):=by
  rw[hU];have:=qw D2 1 (.slice (some ⟨g2,0,none⟩) KL c2);simpa using this
 have RU:U.heap[w.heap.size+1]?=some (.cells #[.bool false,.slice none 0 0,.slice none 0 0,.slice none 0 0] 84 (0,0)):=by rw[hU];exact(xd _ _ _ _ (show w.heap.size+1≠w.heap.size by omega)).trans R2
 have LU:U.heap[gl]?=some (.cells #[st val] 9 (0,0)):=kU _ (by decide) _ _ _ L2
 obtain⟨⟨E0,E1,E2,E3⟩,EF⟩:=qb D2;obtain⟨⟨P0,P1,P2,P3⟩,PF⟩:=qb DU;have L0:=qt LU (i:=0) rfl
 have sU:U.heap.size=w2.heap.size:=by rw[hU];simp
 have KU:=qa (qs o2 (kU _ (by decide)))
 have VU:=qs V2 (kU _ (by decide))
 have JU:=qa (qs J2 (kU _ (by decide)))
 have bU2:Below B w2 U:=by rw[hU];exact(xm _ _).setCell (show B<=w.heap.size from hB) _
 have K2U:=qa (K2.out.bel.trans bU2)
 have hBU:B<=U.heap.size:=by rw[sU];exact hBs.out
 obtain⟨Z,hZ,DZ,bZ,sZ⟩:=qf U #[st val] 9
 have KI2:Hid (Calls Tryz.prog 28 #[.slice va nd.vals.length vc,.int .i64 (nd.keys.length:Int),.slice (some ⟨U.heap.size,0,none⟩) 1 1] Z fun e w'=>qp6 B Z w' (.slice va nd.vals.length vc) (nd.vals++[val]) e):=by
  have h9:=qa9 B Z (.slice va nd.vals.length vc) nd.vals val U.heap.size (qB VU bZ) (qt DZ rfl) (xi hBU bZ.size) (by have:=hlv.out;omega)
  have e9:(nd.keys.length:Int)=(nd.vals.length:Int):=by rw[hlv.out]
  rw[e9];exact h9
 have HZ:=qa (xb bZ (xb VU (xb DU RU)))
 have K2t:=qa (fun e (h1:e≠9) (h2:e≠84)=>(K2.out.typ e h1).trans (kU e h2))
 rw[hZ,sU,hU] at KI2;rw[hU] at P0 P1 P2 P3 PF L0;clear DZ bZ VU DU RU D2 R2 L2 LU V2 J2 o2 r2 l2 kk D1 DX NX bY HY kY hE kU bU2
 go_wp2_with fail
 refine KI2.out.mono ?_;rintro e w3 ⟨g3,c3,rfl,o3',r3,l3⟩;obtain⟨VL,hVL⟩:∃ n,n=(nd.vals++[val]).length:=⟨_,rfl⟩;have o3:OwnT B w3 (.slice (some ⟨g3,0,none⟩) VL c3) (nd.vals++[val]):=by rw[hVL];exact o3'
 rw[<-hVL];replace hVL:=qa hVL;clear o3';rw[<-hU,<-hZ] at r3 l3;clear E0 E1 E2 E3 EF P0 P1 P2 P3 PF L0 KI2;obtain⟨bZ,VU,DU,RU⟩:=HZ.out;have kk:=KS9.grown (qB VU bZ) r3 (xi hBU bZ.size)
 have D3:=kk.typ _ (by decide) _ _ _ ((bZ.block _ (xa DU)).trans DU)
 have R3:=kk.typ _ (by decide) _ _ _ ((bZ.block _ (xa RU)).trans RU)
 have K3:OwnT B w3 (.slice (some ⟨g2,0,none⟩) KL c2) (nd.keys++[key]):=Q8 r3 (qB KU.out bZ) (fun k hk hk2=>hdj.out k hk2 hk)
 have J3:OwnJ B w3 (.slice da nd.kids.length dc) nd.kids:=qs (qB JU.out bZ) (kk.typ _ (by decide))
 have d9:=qw D3 2 (.slice (some ⟨g3,0,none⟩) VL c3)
 have D4:(w3.setCell ⟨w.heap.size,2,none⟩ (.slice (some ⟨g3,0,none⟩) VL c3)).heap[w.heap.size]?=some (.cells #[.bool nd.leaf,.slice (some ⟨g2,0,none⟩) KL c2,.slice (some ⟨g3,0,none⟩) VL c3,.slice da nd.kids.length dc] 84 (0,0)):=by simpa using d9
 have R4:(w3.setCell ⟨w.heap.size,2,none⟩ (.slice (some ⟨g3,0,none⟩) VL c3)).heap[w.heap.size+1]?=some (.cells #[.bool false,.slice none 0 0,.slice none 0 0,.slice none 0 0] 84 (0,0)):=(xd _ _ _ _ (show w.heap.size+1≠w.heap.size by omega)).trans R3
 obtain⟨⟨E0,E1,E2,E3⟩,EF⟩:=qb D3;obtain⟨⟨P0,P1,P2,P3⟩,PF⟩:=qb D4;obtain⟨⟨F0,F1,F2,F3⟩,FF⟩:=qb R4
 have k4:∀ e,e≠84->KeepT e w3 (S4 (w.heap.size+1) (w3.setCell ⟨w.heap.size,2,none⟩ (.slice (some ⟨g3,0,none⟩) VL c3)) (.bool nd.leaf) (.slice (some ⟨g2,0,none⟩) KL c2) (.slice (some ⟨g3,0,none⟩) VL c3) (.slice da nd.kids.length dc)):=fun e he =>
  (KeepT.set (a:=⟨w.heap.size,2,none⟩) D3 he _).trans (z8 R4 _ _ _ _ he)
 have b4:Below B w (w3.setCell ⟨w.heap.size,2,none⟩ (.slice (some ⟨g3,0,none⟩) VL c3)):=((K2U.out.trans (bZ.mono hBU)).trans kk.bel).setCell (show B<=w.heap.size from hB) _
 have FN:Hid (OwnN B (S4 (w.heap.size+1) (w3.setCell ⟨w.heap.size,2,none⟩ (.slice (some ⟨g3,0,none⟩) VL c3)) (.bool nd.leaf) (.slice (some ⟨g2,0,none⟩) KL c2) (.slice (some ⟨g3,0,none⟩) VL c3) (.slice da nd.kids.length dc)) (.slice (some ⟨g2,0,none⟩) KL c2) (.slice (some ⟨g3,0,none⟩) VL c3) (.slice da nd.kids.length dc) ⟨nd.leaf,nd.keys++[key],nd.vals++[val],nd.kids⟩) :=
  ⟨qs K3 (k4 _ (by decide)),qs o3 (k4 _ (by decide)),qs J3 (k4 _ (by decide))⟩
 have FB:=qa (qn b4 (show B<=w.heap.size+1 by omega) (.bool nd.leaf) (.slice (some ⟨g2,0,none⟩) KL c2) (.slice (some ⟨g3,0,none⟩) VL c3) (.slice da nd.kids.length dc))
 have TY:Hid (∀ e,e≠9->KeepT e w (S4 (w.heap.size+1) (w3.setCell ⟨w.heap.size,2,none⟩ (.slice (some ⟨g3,0,none⟩) VL c3)) (.bool nd.leaf) (.slice (some ⟨g2,0,none⟩) KL c2) (.slice (some ⟨g3,0,none⟩) VL c3) (.slice da nd.kids.length dc))):=fun e he b cur fr hb=>by
  have hbl:=xa hb
  have h1:=K2.out.typ e he b cur fr hb
  have h2:U.heap[b]?=some (.cells cur e fr):=by rw[hU];exact(xd _ _ _ _ (show b≠w.heap.size by omega)).trans h1
  have h3:=kk.typ e he _ _ _ ((bZ.block _ (xa h2)).trans h2)
  exact(QE _ _ _ _ (show b≠w.heap.size+1 by omega)).trans ((xd _ _ _ _ (show b≠w.heap.size by omega)).trans h3)
 have HR4:=qa R4
 clear D3 R3 K3 J3 D4 R4 d9 k4 b4 o3 r3 l3 kk DU RU VU bZ;go_wp2;refine Js rfl rfl (w.heap.size+1) rfl _ _ (0,0) (qu HR4.out _ _ _ _) _ xJ rfl Qe ?_;exact⟨_,_,rfl,FN.out,⟨TY.out,FB.out,FB.out.size⟩⟩
theorem qbh (B C:Nat) (w:World) (gc:Nat) (nd:Nd) (kv vv dv:Value) (key:Str) (F:Nat) (caps:Array Value) (hB:B<=w.heap.size) (hr:RdN w kv vv dv nd) (hfit:jH nd) (hl:nd.leaf=true) (nd':Nd)
 (hF:∀ u,Below w.heap.size w u->Calls Tryz.prog F (#[nv nd kv vv dv,.int .i64 (Qf nd key),.bool (jQ nd key)]++caps) u fun e u'=>∃ kv' vv' dv',e=.returned (nv nd' kv' vv' dv')/\OwnN B u' kv' vv' dv' nd'/\KS9 B u u')
 (he:∀ args u,(callFunc F args).run Tryz.prog u=.ok (.enter F args) u) :
 Calls Tryz.prog 60 #[.pointer (some ⟨gc,0,none⟩),nv nd kv vv dv,st key,.func (.func F) #[] caps] w fun e w'=>∃ kv' vv' dv',e=.returned (nv nd' kv' vv' dv')/\OwnN B w' kv' vv' dv' nd'/\KS9 B w w':=by
 obtain⟨W,hW,DW,bW,sW⟩:=qf w #[.bool nd.leaf,kv,vv,dv] 84;obtain⟨X,hX,DX,bX,sX⟩:=qf W #[.bool false,.slice none 0 0,.slice none 0 0,.slice none 0 0] 84;have bWX:=bW.trans (bX.mono bW.size)
 have KF:=qa (jp X kv vv dv nd key (hr.to bWX) hfit)
 have D1:=(bX.block _ (xa DW)).trans DW
 rw[sW] at DX;have HD:=qa (xb D1 DX)
 have BX:=qa bWX
 obtain⟨ka,kc,va,vc,da,dc,rfl,rfl,rfl⟩:=hr.slices;obtain⟨⟨E0,E1,E2,E3⟩,EF⟩:=qb D1;obtain⟨⟨F0,F1,F2,F3⟩,FF⟩:=qb DX;dsimp only[nv] at KF |-;rw[hX,hW] at E0 E1 E2 E3 EF F0 F1 F2 F3 FF KF;replace hF:=qa hF;have HL:=qa hl
 clear hl DW DX bW bX bWX D1 hr;go_enter Tryz.func60,Tryz.ntmps60
 go_wp2_with fail
 refine KF.out.mono ?_;rintro e w1 ⟨rfl,b1⟩;rw[<-hW,<-hX] at b1;clear E0 E1 E2 E3 EF F0 F1 F2 F3 FF KF;have B1:=qa (BX.out.trans (b1.mono BX.out.size))
 have D1:=(b1.block _ (xa HD.out.1)).trans HD.out.1
 have R1:=(b1.block _ (xa HD.out.2)).trans HD.out.2
 have HR:=qa R1
 obtain⟨⟨E0,E1,E2,E3⟩,EF⟩:=qb D1;rw[HL.out] at E0;have KF2:=qa (hF.out w1 B1.out)
 dsimp only[nv] at KF2;rw[HL.out] at KF2;replace hX:=qa hX;replace hW:=qa hW;clear D1 R1 b1 HD
 go_wp2_with fail
 refine KF2.out.mono ?_;rintro e w2 ⟨kv',vv',dv',rfl,o2,k2⟩;obtain⟨ka',kc',va',vc',da',dc',rfl,rfl,rfl⟩:=o2.rd.slices;have R2:=k2.typ _ (by decide) _ _ _ HR.out
 have HR2:=qa R2
 obtain⟨⟨F0,F1,F2,F3⟩,FF⟩:=qb R2;have O2:=qa o2
 have K2:=qa ((KS9.of B1.out hB).trans k2)
 clear o2 k2 R2 E0 E1 E2 E3 EF KF2 hF;dsimp only[nv];go_wp2;refine Js rfl rfl (w.heap.size+1) rfl _ _ (0,0) (qu HR2.out _ _ _ _) _ xJ rfl Qe ?_;have k:=fun e (he:e≠84)=>z8 HR2.out (.bool nd'.leaf) (.slice ka' nd'.keys.length kc') (.slice va' nd'.vals.length vc') (.slice da' nd'.kids.length dc') he
 have fb:=qn K2.out.bel (show B<=w.heap.size+1 by omega) (.bool nd'.leaf) (.slice ka' nd'.keys.length kc') (.slice va' nd'.vals.length vc') (.slice da' nd'.kids.length dc')
 refine⟨_,_,_,rfl,O2.out.keepT (k _ (by decide)) (k _ (by decide)),⟨fun e he b cur fr hb=>?_,fb,fb.size⟩⟩
 have hbl:=xa hb
 exact(QE _ _ _ _ (show b≠w.heap.size+1 by omega)).trans (K2.out.typ e he b cur fr hb)
theorem TopIs.uniq {b:Nd} (h:TopIs t a) (k:TopIs t b):a=b:=by
 rcases h with ⟨h0,rfl⟩|⟨h0,x,h1,h2⟩<;>rcases k with ⟨k0,rfl⟩|⟨k0,y,k1,k2⟩
 ·rfl
 ·exact absurd h0 k0
 ·exact absurd k0 h0
 rw[h1] at k1;simp only[xr] at k1;subst k1;rw[h2] at k2
 simpa using k2
theorem TopIs.ok (h:TopIs t a):NOk a:=by
 rcases h with ⟨h0,rfl⟩|⟨h0,x,h1,h2⟩
 ·exact qha
 exact jL h2
theorem qfi (h:NOk n):qp n<=244/\0<=qp n:=by
 refine⟨h.2.2.2.2,?_⟩;have h2:=y6 n n.keys.length
 unfold qp
 split<;>omega
theorem Vp (h:NOk n):qhx n=QN n/\qE n=0:=by
 have:=(ze n).2 h
 exact⟨by unfold qhx;rw[xj this],this⟩
theorem qda (w0 w:World) (B g bm:Nat) (t:Tr) (pv:Value) (s:Sw) (m:Int->Option Value) (key:Str) (F:Nat) (caps:Array Value) (nd nd':Nd) (H:PWk w0 w B g bm t pv s m) (hB:B<=w.heap.size) (hroot:(Lit.int .i64 t.root).wf=true) (ht:Qn t=some s) (hpn:ye t)
 (hT:TopIs t nd) (hl:nd.leaf=true) (hx:∀ x∈t.pages,x.2.length<=140737488351232) (hnext:t.next+1<=65536)
 (hF:∀ kv vv dv u,OwnN B u kv vv dv nd->Dj kv vv dv->Below w.heap.size w u->B<=u.heap.size->Calls Tryz.prog F (#[nv nd kv vv dv,.int .i64 (Qf nd key),.bool (jQ nd key)]++caps) u fun e u'=>∃ kv' vv' dv',e=.returned (nv nd' kv' vv' dv')/\OwnN B u' kv' vv' dv' nd'/\KS9 B u u')
 (he:∀ args u,(callFunc F args).run Tryz.prog u=.ok (.enter F args) u) (hok:NOk nd') (hl':nd'.leaf=true) (hk0:nd'.keys.length≠0) :
 Calls Tryz.prog 26 #[.pointer (some ⟨g,0,none⟩),st key,.func (.func F) #[] caps] w fun e w'=>∃ pv',e=.returned (.tuple #[tv ⟨t.next,t.next+1,t.pages++[(t.next,QN nd')]⟩ pv',.int .i64 0])/\OwnPg w0.heap.size w' pv' (t.pages++[(t.next,QN nd')])/\Below w0.heap.size w0 w':=by
 obtain⟨W,hW,DW,bW,sW⟩:=qf w #[.int .i64 0,.int .i64 0,.slice none 0 0] 27;obtain⟨X,hX,DX,bX,sX⟩:=qf W #[.pointer (some ⟨g,0,none⟩),.slice none 0 0] 126;have bWX:=bW.trans (bX.mono bW.size)
 have PX:=H.to bWX
 have KT:=qa (qam w0 X B g bm t pv s m PX hroot ht)
 have D1:=(bX.block _ (xa DW)).trans DW
 rw[sW] at DX;have HX:=qa (xb bWX (xb PX (xb D1 DX)))
 rw[hX,hW] at KT;replace H:=qa H;replace hF:=qa hF;replace hl:=qa hl;replace hl':=qa hl';replace hk0:=qa hk0;replace ht:=qa ht;replace hpn:=qa hpn;replace hok:=qa hok;replace hx:=qa hx;clear D1 DX bWX PX DW bW bX;go_enter Tryz.func26,Tryz.ntmps26
 go_wp2_with fail
 refine KT.out.mono ?_;rintro e w1 ⟨nd9,kv,vv,dv,rfl,hT9,ho,b1,hdj⟩;obtain rfl:=TopIs.uniq hT9 hT;rw[<-hW,<-hX] at b1;obtain⟨bWX,PX,D1,DX⟩:=HX.out;have P1:=PX.to b1
 have hnb:Hid (w.heap.size<=w1.heap.size):=xi bWX.size b1.size
 have hB1:B<=w1.heap.size:=xi hB hnb.out
 have bw1:=bWX.trans (b1.mono bWX.size)
 have KR:=qa (qbh B 0 w1 (w.heap.size+1) nd9 kv vv dv key F caps hB1 ho.rd hT9.ok.fit hl.out nd' (fun u bu=>hF.out kv vv dv u (ho.to bu) hdj (bw1.trans (bu.mono bw1.size)) (xi hB1 bu.size)) he)
 have D2:=(b1.block _ (xa D1)).trans D1
 have C2:=(b1.block _ (xa DX)).trans DX
 have H1:=qa (xb P1 (xb D2 C2))
 obtain⟨ka,kc,va,vc,da,dc,rfl,rfl,rfl⟩:=ho.rd.slices;dsimp only[nv] at KR;replace hX:=qa hX;replace hW:=qa hW;clear KT ho b1 hT9 hT bWX PX D1 DX P1 D2 C2 bw1 HX
 go_wp2_with fail
 refine KR.out.mono ?_;rintro e w2 ⟨kv',vv',dv',rfl,o2,k2⟩;obtain⟨P1,D1,C1⟩:=H1.out;have D2:=k2.typ _ (by decide) _ _ _ D1
 have C2:=k2.typ _ (by decide) _ _ _ C1
 have G2:=k2.typ _ (by decide) _ _ _ P1.box
 have hB2:B<=w2.heap.size:=xi hB1 k2.size
 have hBg:B<=w.heap.size+1:=by omega
 have Ch:ChI B w2 (w.heap.size+1) g t.next (.slice none 0 0) []:=⟨C2,xA _ _ _ _,qt G2 rfl,hBg⟩
 have hgg:w.heap.size+1≠g:=by have:=P1.hg.2;omega
 have KO:=qa (qjj B w2 (w.heap.size+1) g t.next (.slice none 0 0) [] nd' kv' vv' dv' Ch hB2 (fun b hb=>by cases hb) hgg (xt _) ⟨by have:=hpn.out.1;omega,hpn.out.2.1⟩ o2.rd hok.out.fit hl'.out hk0.out (qfi hok.out).1 (qfi hok.out).2)
 have bel2:Below w0.heap.size w0 w2:=P1.bel.trans (k2.bel.mono (by have:=P1.hg;omega))
 have H2:=qa (xb D2 (xb G2 (xb o2 (xb bel2 C2))))
 have hw0B:Hid (w0.heap.size<=B):=by have:=P1.hg;show _<=_;omega
 obtain⟨ka',kc',va',vc',da',dc',rfl,rfl,rfl⟩:=o2.rd.slices;dsimp only[nv] at KO;have hgB:Hid (g<B):=P1.hg.2
 clear o2 k2 P1 D1 C1 D2 C2 G2 Ch KR H1 bel2;dsimp only[nv]
 go_wp2_with fail
 refine KO.out.mono ?_;rintro e w3 ⟨av3,rfl,c3,k3⟩;obtain⟨D2,G2,o2,bel2,C2⟩:=H2.out;have hnob:∀ b,(Value.slice none 0 0).ownBlock≠some b:=fun b hb=>by cases hb
 have D3:=(k3.keep _ (xa D2) (by omega) (hnob _)).trans D2
 have G3:=(k3.keep _ (xa G2) (by have:=hgB.out;omega) (hnob _)).trans G2
 obtain⟨g3,cap3,hav⟩:∃ g3 cap3,av3=.slice (some ⟨g3,0,none⟩) 1 cap3:=by
  rcases c3.row.2 with ⟨_,e⟩|⟨g',cap,cur,hv,_⟩
  ·simp at e
  exact⟨g',cap,by simpa using hv⟩
 subst hav
 have N3:OwnN B w3 (.slice ka' nd'.keys.length kc') (.slice va' nd'.vals.length vc') (.slice da' nd'.kids.length dc') nd':=by
  have kp:∀ {T n:Nat} {v:Value} {q:Nat} {cc:List Value},w2.ownsRow B T n v q cc->T≠126->w3.ownsRow B T n v q cc:=fun{T n v q cc} hrow hT=>by
   refine⟨hrow.1,?_⟩;rcases hrow.2 with hn|⟨b,cap,cur,hv,hgb,hb,r⟩
   ·exact .inl hn
   refine .inr ⟨b,cap,cur,hv,hgb,(k3.keep b (xa hb) (fun e9=>?_) (hnob b)).trans hb,r⟩;subst e9;rw[C2] at hb;simp only[xr,kF] at hb;exact hT hb.2.1.symm
  exact⟨kp o2.keys (by decide),kp o2.vals (by decide),kp o2.kids (by decide)⟩
 have bel3:Below w0.heap.size w0 w3:=bel2.trans (k3.bel.mono hw0B.out)
 have bD:Below w3.heap.size w3 w3.drew:=qg w3 1 _
 have c4:=c3.to bD
 have D4:=(bD.block _ (xa D3)).trans D3
 have G4:=(bD.block _ (xa G3)).trans G3
 have N4:=N3.to bD
 have bel4:=bel3.trans (bD.mono bel3.size)
 have hlen:t.pages.length<=65536:=by have:=Zu hpn.out.2.2 hpn.out.1;have:=hpn.out.2.1;omega
 have KC:=qa (yh w3.drew t pv (H.out.pg.to0 bel4) hlen hx.out)
 obtain⟨pa,pc,hpv⟩:=H.out.pg.slice;subst hpv;have Q0:=qt c3.box (i:=0) rfl
 have Q1:=qt c3.box (i:=1) rfl
 have Q2:=c3.nxt
 have U0:=qt c4.box (i:=0) rfl
 have U1:=qt c4.box (i:=1) rfl
 have X0:=qt G4 (i:=0) rfl
 have X1:=qt G4 (i:=1) rfl
 have X2:=qt G4 (i:=2) rfl
 have H4:=qa (xb c4 (xb D4 (xb G4 (xb N4 bel4))))
 have hB4:Hid (B<=w3.drew.heap.size):=xi (xi hB2 k3.size) bD.size
 have hfin:¬ wrap64 (t.next+1)>65536:=by have:=hpn.out.1;unfold wrap64;omega
 have hwz:wrap64 (t.next+1)=t.next+1:=by have:=hpn.out.1;have:=hpn.out.2.1;unfold wrap64;omega
 dsimp only[tv] at KC;clear c3 k3 D2 G2 o2 bel2 C2 D3 G3 N3 bel3 c4 D4 G4 N4 bel4 bD KO H2 hnob
 go_upto_region 3 with fail
 go_region
 rw[hwz];clear hwz Q0 Q1 Q2;obtain⟨V,hV⟩:∃ V,V=w3.drew:=⟨_,rfl⟩;rw[<-hV] at KC U0 U1 X0 X1 X2 H4 hB4 |-;clear hV hfin;have hfin:¬ t.next+1>65536:=by omega
 go_wp2_with fail
 refine KC.out.mono ?_;rintro e w5 ⟨pv5,rfl,o5,b5⟩;obtain⟨c4,D4,G4,N4,bel4⟩:=H4.out;obtain⟨a5,q5,h5⟩:=o5.shape;subst h5;obtain⟨Y,hY,DY,bY,sY⟩:=qf w5 #[.int .i64 t.root,.int .i64 t.next,.slice a5 t.pages.length q5] 27
 have bVY:=b5.trans (bY.mono b5.size)
 have OY:OwnPg V.heap.size Y (.slice a5 t.pages.length q5) t.pages:=o5.to9 bY
 have cY:=c4.to bVY
 have U1':=qt cY.box (i:=1) rfl
 have HY:=qa (xb cY (xb ((bVY.block _ (xa D4)).trans D4) (xb ((bVY.block _ (xa G4)).trans G4) (xb (N4.to bVY) (xb (bel4.trans (bVY.mono bel4.size)) (xb OY (xb DY bVY)))))))
 rw[hY] at U1';have hyb:Hid (V.heap.size<=w5.heap.size):=b5.size
 have CI0:Hid (∃ pv',Y.heap[w5.heap.size]?=some (.cells #[.int .i64 t.root,.int .i64 t.next,pv'] 27 (0,0))/\OwnPg V.heap.size Y pv' (t.pages++[(t.next,QN nd')].take 0)/\Below V.heap.size V Y):=⟨_,DY,by simpa using OY,bVY⟩
 clear KC o5 b5 c4 D4 G4 N4 bel4 DY bY OY cY bVY U0 U1 X0 X1 X2 HY;dsimp only[tv]
 go_wp2_with fail
 rw[<-hY];clear U1';replace hY:=qa hY
 go_loopw [46] (fun p wr=>∃ k:Nat,k<=1/\p=.int .i64 k/\Hid (∃ pv',wr.heap[w5.heap.size]?=some (.cells #[.int .i64 t.root,.int .i64 t.next,pv'] 27 (0,0))/\OwnPg V.heap.size wr pv' (t.pages++[(t.next,QN nd')].take k)/\Below V.heap.size V wr)) (fun p _=>1-(intOf p).toNat)
 case atStart=>exact⟨0,xt _,rfl,CI0⟩
 case round =>
 obtain⟨k,hk,rfl,hI⟩:=hrel;clear CI0;obtain⟨pv6,d6,o6,b6⟩:=hI.out;obtain⟨c4,D4,G4,N4,bel4⟩:=H4.out;by_cases hlt:k<1
 ·obtain rfl:k=0:=by omega
  have hq:((0:Nat):Int)<1:=by omega
  have C6:=(b6.block _ (xa c4.box)).trans c4.box
  have G6:=(b6.block _ (xa G4)).trans G4
  have N6:=N4.to b6
  have r6:=qB c4.row b6
  have R0:=jN (Qt r6 fun _ _=>xt _) rfl (j:=0) (u:=.bool nd'.leaf) rfl
  have R1:=jN (Qt r6 fun _ _=>xt _) rfl (j:=1) (u:=.slice ka' nd'.keys.length kc') rfl
  have R2:=jN (Qt r6 fun _ _=>xt _) rfl (j:=2) (u:=.slice va' nd'.vals.length vc') rfl
  have R3:=jN (Qt r6 fun _ _=>xt _) rfl (j:=3) (u:=.slice da' nd'.kids.length dc') rfl
  obtain⟨Z,hZ,DZ,bZ,sZ⟩:=qf wr #[.bool nd'.leaf,.slice ka' nd'.keys.length kc',.slice va' nd'.vals.length vc',.slice da' nd'.kids.length dc'] 84;have KE:=qa (qfe Z _ _ _ nd' (N6.to bZ).rd hok.out.fit)
  obtain⟨⟨E0,E1,E2,E3⟩,EF⟩:=qb DZ;rw[hZ] at KE E0 E1 E2 E3 EF;dsimp only[nv] at KE;rw[(Vp hok.out).1,(Vp hok.out).2] at KE;have HQ:=qa (xb d6 (xb o6 (xb b6 (xb C6 (xb G6 bZ)))))
  clear d6 o6 b6 C6 G6 bZ DZ N6 r6 hI c4 D4 G4 N4 bel4
  go_wp2_with fail
  refine KE.out.mono ?_;rintro e w7 ⟨v7,rfl,o7,b7⟩;rw[<-hZ] at b7 o7;obtain⟨d6,o6,b6,C6,G6,bZ⟩:=HQ.out;have bz7:=bZ.trans (b7.mono bZ.size)
  have bD:Below w7.heap.size w7 w7.drew:=qg w7 1 _
  have bb:=bz7.trans (bD.mono bz7.size)
  have d7:=(bz7.block _ (xa d6)).trans d6
  have O7:OwnPg V.heap.size w7 pv6 t.pages:=by have:=o6.to9 bz7;simpa using this
  have C7:=(bb.block _ (xa C6)).trans C6
  have G7:=(bb.block _ (xa G6)).trans G6
  have B7:=b6.trans (bz7.mono b6.size)
  have S7:OwnB V.heap.size w7 v7 (QN nd'):=QA o7 (xi b6.size bZ.size)
  obtain⟨va7,vc7,hv7⟩:=o7.rd.slice;subst hv7;obtain⟨pa6,pc6,hp6⟩:=O7.shape;subst hp6;have Y2:=qt (qy d7) (i:=2) rfl
  have Y0:=qt C7 (i:=0) rfl
  have Y1:=qt G7 (i:=1) rfl
  have hnz:wrap64 (t.next+0)=t.next:=by have:=hpn.out.1;unfold wrap64;omega
  obtain⟨EL,hEL⟩:∃ n,n=(QN nd').length:=⟨_,rfl⟩;have S7':OwnB V.heap.size w7 (.slice va7 EL vc7) (QN nd'):=by rw[hEL];exact S7
  rw[<-hEL];have H7:=qa (xb d7 (xb O7 (xb B7 S7')))
  replace hEL:=qa hEL;replace hZ:=qa hZ;clear d6 o6 b6 C6 G6 bZ b7 bz7 bD bb d7 O7 C7 G7 B7 S7 S7' o7 E0 E1 E2 E3 EF R0 R1 R2 R3 KE
  go_upto_region 11 with fail
  refine qj (fun w'=>w'.cell? ⟨w5.heap.size,2,none⟩=some (.slice pa6 t.pages.length pc6)/\w'.cell? ⟨w.heap.size+1,0,none⟩=some (.pointer (some ⟨g,0,none⟩))/\w'.cell? ⟨g,1,none⟩=some (.int .i64 t.next)) 11 13 qG (by kernel_rfl) (fun _ _ _ _ h=>h) ⟨Y2,Y0,Y1⟩ ?_
  dsimp only[List.take,List.drop]
  iterate 11
   refine qA (v:=?_) (by rfl) ?_ ?_
   rotate_left
   ·rintro w' ⟨s1,s2,s3⟩;go_simp;try with_reducible rfl
   try simp only[Act.put,qB6]
  refine qM fun K hK=>?_;rw[xj (by rfl)]
  go_simp;refine hK _ _ ⟨Y2,Y0,Y1⟩ ?_;clear hK K;refine qM fun K hK=>?_;rw[xj (by rfl)]
  go_simp;refine hK _ _ ⟨Qq Y2 _,Qq Y0 _,Qq Y1 _⟩ ?_;clear hK K;show wpList _ _ _ _ _ _
  have hnz2:IntKind.i64.wrap t.next=t.next:=xB _ (by have:=hpn.out.1;omega)
  simp only[hnz2];obtain⟨d7,O7,B7,S7⟩:=H7.out;obtain⟨Qa,hQa,DQa,bQa,sQ⟩:=qf w7 #[.int .i64 t.next,.slice va7 EL vc7] 97
  obtain⟨Q,hQ⟩:∃ Q,Q=(w7.alloc (.cells #[.int .i64 t.next,.slice va7 EL vc7] 97)).drew:=⟨_,rfl⟩
  have bQ:Below w7.heap.size w7 Q:=by rw[hQ,<-hQa];exact bQa.trans (qg Qa 1 _)
  have DQ:Q.heap[w7.heap.size]?=some (.cells #[.int .i64 t.next,.slice va7 EL vc7] 97 (0,0)):=by rw[hQ,<-hQa];exact qy DQa
  obtain⟨⟨Z0,Z1⟩,_⟩:=Qc DQ;have OZ:=O7.to9 bQ
  have SZ:OwnB V.heap.size Q (.slice va7 EL vc7) (QN nd'):=qB S7 bQ
  have BQ:=B7.trans (bQ.mono B7.size)
  have hBq:V.heap.size<=Q.heap.size:=BQ.size
  have dQ:=(bQ.block _ (xa d7)).trans d7
  have FIN:∀ v5 w6,OwnPg V.heap.size w6 v5 (t.pages++[(t.next,QN nd')])->Below V.heap.size Q w6->(∀ e,e≠97->KeepT e Q w6)->
   Hid (∃ pv',(w6.setCell ⟨w5.heap.size,2,none⟩ v5).heap[w5.heap.size]?=some (.cells #[.int .i64 t.root,.int .i64 t.next,pv'] 27 (0,0))/\OwnPg V.heap.size (w6.setCell ⟨w5.heap.size,2,none⟩ v5) pv' (t.pages++[(t.next,QN nd')].take 1)/\Below V.heap.size V (w6.setCell ⟨w5.heap.size,2,none⟩ v5))/\
   w6.cell? ⟨w5.heap.size,2,none⟩=some (.slice pa6 t.pages.length pc6)/\w6.frozen? ⟨w5.heap.size,2,none⟩=false:=fun v5 w6 o5 b5 k5=>by
   have d8:=k5 _ (by decide) _ _ _ dQ
   have d9:=qw d8 2 v5
   have kk:=fun e (he:e≠27)=>KeepT.set (a:=⟨w5.heap.size,2,none⟩) d8 he v5
   exact⟨⟨v5,by simpa using d9,by simpa using o5.keepT (kk _ (by decide)) (kk _ (by decide)),(BQ.trans b5).setCell hyb.out _⟩,qt d8 rfl,j5 d8 2⟩
  rw[hQ] at Z0 Z1 OZ SZ hBq FIN;replace FIN:=qa FIN;have hpl:(t.pages.length+1)*32<=140737488355328:=by omega
  clear d7 O7 B7 S7 DQ bQ hQ dQ BQ H7 Y2 Y0 Y1 hnz hnz2 hQa DQa bQa sQ;refine Z9 rfl _ _ rfl V.heap.size (.slice pa6 t.pages.length pc6) t.pages (t.next,QN nd') (.slice va7 EL vc7) w7.heap.size rfl rfl OZ SZ rfl Z0 Z1 hpl hBq ?_
  intro v5 w6 o5 _ b5 k5;obtain⟨a9,c9,h9⟩:=o5.shape;subst h9;obtain⟨F1,F2,F3⟩:=FIN.out _ w6 o5 b5 k5;generalize (t.pages++[(t.next,QN nd')]).length=L9 at *
  clear o5 b5 k5 FIN Z0 Z1 OZ SZ hBq hpl;go_wp2;go_roundw
  case rel=>exact⟨1,xc _,by go_num,F1⟩
  case measure=>simp[intOf]
 obtain rfl:k=1:=by omega
 have hq:¬ ((1:Nat):Int)<1:=by omega
 have D6:=(b6.block _ (xa D4)).trans D4
 obtain⟨pa6,pc6,hp6⟩:=o6.shape;subst hp6;have htk:[(t.next,QN nd')].take 1=[(t.next,QN nd')]:=rfl
 rw[htk] at o6 d6;obtain⟨L9,hL9⟩:∃ n,n=(t.pages++[(t.next,QN nd')]).length:=⟨_,rfl⟩
 have o6':OwnPg V.heap.size wr (.slice pa6 L9 pc6) (t.pages++[(t.next,QN nd')]):=by rw[hL9];exact o6
 rw[<-hL9] at d6;obtain⟨⟨E0,E1,E2⟩,EF⟩:=ql d6;have hne:w5.heap.size≠w.heap.size:=by have:=hyb.out;have:=xa D4;omega
 obtain⟨Q,hQ⟩:∃ Q,Q=(wr.setCell ⟨w5.heap.size,0,none⟩ (.int .i64 t.next)).setCell ⟨w5.heap.size,1,none⟩ (.int .i64 (t.next+1)):=⟨_,rfl⟩
 have dq:=qw (qw d6 0 (.int .i64 t.next)) 1 (.int .i64 (t.next+1))
 have DQ:Q.heap[w5.heap.size]?=some (.cells #[.int .i64 t.next,.int .i64 (t.next+1),.slice pa6 L9 pc6] 27 (0,0)):=by rw[hQ];simpa using dq
 have DR:Q.heap[w.heap.size]?=some (.cells #[.int .i64 0,.int .i64 0,.slice none 0 0] 27 (0,0)):=by
  rw[hQ];exact(xd _ _ _ _ (Ne.symm hne)).trans ((xd _ _ _ _ (Ne.symm hne)).trans D6)
 have kq:∀ e,e≠27->KeepT e wr Q:=fun e he=>by
  rw[hQ];exact(KeepT.set (a:=⟨w5.heap.size,0,none⟩) d6 he _).trans (KeepT.set (a:=⟨w5.heap.size,1,none⟩) (qw d6 0 _) he _)
 have bq:Below w0.heap.size w0 Q:=by
  rw[hQ];have b9:=bel4.trans (b6.mono (xi bel4.size (xc _)))
  have h9:w0.heap.size<=w5.heap.size:=xi bel4.size hyb.out
  exact(b9.setCell h9 _).setCell h9 _
 have ks:=fun e (he:e≠27)=>QM DR (.int .i64 t.next) (.int .i64 (t.next+1)) (.slice pa6 L9 pc6) he
 have OF:=qa ((o6'.keepT (kq _ (by decide)) (kq _ (by decide))).keepT (ks _ (by decide)) (ks _ (by decide)))
 have h0w:w0.heap.size<=w.heap.size:=H.out.bel.size
 have BF:=qa (qD bq h0w (.int .i64 t.next) (.int .i64 (t.next+1)) (.slice pa6 L9 pc6))
 obtain⟨⟨P0,P1,P2⟩,PF⟩:=ql DQ;obtain⟨⟨J0,J1,J2⟩,JF⟩:=ql DR;have HDR:=qa DR
 have hVb:Hid (w0.heap.size<=V.heap.size):=bel4.size
 rw[hQ] at P0 P1 P2 PF J0 J1 J2 JF HDR OF BF;clear dq DQ DR kq bq ks o6 o6' d6 b6 hI D6 c4 D4 G4 N4 bel4 hQ hL9 htk;go_wp2;refine QD rfl rfl w.heap.size rfl _ _ (0,0) (qK HDR.out _ _ _) _ Xt rfl zi _ rfl ?_;refine⟨_,rfl,?_,BF.out⟩;exact OwnX.base (OF.out) hVb.out
structure KEd (B:Nat) (kv vv:Value) (w w':World):Prop where
 keep:∀ b,b<w.heap.size->kv.ownBlock≠some b->vv.ownBlock≠some b->w'.heap[b]?=w.heap[b]?
 bel:Below B w w'
 size:w.heap.size<=w'.heap.size
theorem qJ {T n:Nat} {v:Value} {cc:List Value} (h:w.ownsRow B T n v k cc) (hk:∀ b,v.ownBlock=some b->w'.heap[b]?=w.heap[b]?):w'.ownsRow B T n v k cc:=by
 refine⟨h.1,?_⟩;rcases h.2 with hn|⟨b,cap,cur,hv,hgb,hb,r⟩
 ·exact .inl hn
 exact .inr ⟨b,cap,cur,hv,hgb,(hk b (by rw[hv];rfl)).trans hb,r⟩
theorem JS {n:Nat} (h:(Value.slice (some ⟨g,0,none⟩) n c).ownBlock=some b):g=b:=by simpa[Value.ownBlock] using h
theorem qhc (B:Nat) (w:World) (nd:Nd) (kv vv dv:Value) (key val:Str) (i:Nat) (gk gl:Nat) (hN:OwnN B w kv vv dv nd) (hD:Dj kv vv dv) (hB:B<=w.heap.size) (hlen:nd.keys.length<=1000) (hlv:nd.vals.length=nd.keys.length) (hi:i<=nd.keys.length)
 (hk:w.heap[gk]?=some (.cells #[st key] 9 (0,0))) (hgk:gk<B) (hv:w.heap[gl]?=some (.cells #[st val] 9 (0,0))) (hgl:gl<B) :
 Calls Tryz.prog 27 #[nv nd kv vv dv,.int .i64 (i:Int),.bool false,.pointer (some ⟨gl,0,none⟩),.pointer (some ⟨gk,0,none⟩)] w fun e w'=>∃ kv' vv',e=.returned (nv ⟨nd.leaf,nd.keys.take i++key::nd.keys.drop i,nd.vals.take i++val::nd.vals.drop i,nd.kids⟩ kv' vv' dv)/\OwnN B w' kv' vv' dv ⟨nd.leaf,nd.keys.take i++key::nd.keys.drop i,nd.vals.take i++val::nd.vals.drop i,nd.kids⟩/\KEd B kv vv w w':=by
 obtain⟨W,hW,DW,bW,sW⟩:=qf w #[.bool nd.leaf,kv,vv,dv] 84;obtain⟨X,hX,DX,bX,sX⟩:=qf W #[.bool false,.slice none 0 0,.slice none 0 0,.slice none 0 0] 84;have bWX:=bW.trans (bX.mono bW.size)
 have NX:=hN.to bWX
 have D1:=(bX.block _ (xa DW)).trans DW
 rw[sW] at DX;have kX:=(bWX.block _ (xa hk)).trans hk
 have vX:=(bWX.block _ (xa hv)).trans hv
 have hBX:B<=X.heap.size:=xi hB bWX.size
 have hltK:∀ b,kv.ownBlock=some b->b<w.heap.size:=fun b hb=>(xo hN.keys b hb).2
 have hltV:∀ b,vv.ownBlock=some b->b<w.heap.size:=fun b hb=>(xo hN.vals b hb).2
 have hgeK:∀ b,kv.ownBlock=some b->B<=b:=fun b hb=>(xo hN.keys b hb).1
 have hgeV:∀ b,vv.ownBlock=some b->B<=b:=fun b hb=>(xo hN.vals b hb).1
 have hltJ:∀ b,dv.ownBlock=some b->b<w.heap.size:=fun b hb=>(xo hN.kids b hb).2
 have HLT:=qa (xb hltK (xb hltV (xb hgeK (xb hgeV hltJ))))
 have hsX:X.heap.size=w.heap.size+1+1:=by rw[sX,sW]
 obtain⟨Y,hY,DY,bY,sY⟩:=qf X #[st key] 9;have NY:=NX.to bY
 have hsY:Y.heap.size=w.heap.size+1+1+1:=by rw[sY,hsX]
 have KI:=qa (qe7 B Y kv nd.keys key X.heap.size i NY.keys DY (fun b hb=>by have:=hltK b hb;omega) (xi hBX bY.size) (by omega) hi)
 have bwY:=bWX.trans (bY.mono bWX.size)
 have HY:=qa (xb NY (xb ((bY.block _ (xa D1)).trans D1) (xb ((bY.block _ (xa DX)).trans DX) (xb ((bY.block _ (xa vX)).trans vX) bwY))))
 obtain⟨ka,kc,va,vc,da,dc,rfl,rfl,rfl⟩:=hN.rd.slices;obtain⟨⟨E0,E1,E2,E3⟩,EF⟩:=qb D1;obtain⟨⟨F0,F1,F2,F3⟩,FF⟩:=qb DX;have G0:=qt kX (i:=0) rfl
 have L0:=qt vX (i:=0) rfl
 replace hlv:=qa hlv;replace hD:=qa hD;replace hsY:=qa hsY;dsimp only[nv];rw[hsX] at KI;rw[hY,hX,hW] at KI;rw[hX,hW] at E0 E1 E2 E3 EF F0 F1 F2 F3 FF G0 L0;clear DY bY NX D1 DX kX vX DW bW bX bWX hk hv hN NY bwY sX sW sY hsX hltK hltV hgeK hgeV hltJ;go_enter Tryz.func27,Tryz.ntmps27
 go_wp2_with fail
 refine KI.out.mono ?_;rintro e w2 ⟨g2,c2,rfl,o2,r2,l2⟩;rw[<-hW,<-hX,<-hY] at r2 l2;clear E0 E1 E2 E3 EF F0 F1 F2 F3 FF G0 L0 KI;obtain⟨K2,hK2⟩:∃ l,l=nd.keys.take i++key::nd.keys.drop i:=⟨_,rfl⟩;rw[<-hK2] at o2 |-;obtain⟨KL,hKL⟩:∃ q,q=K2.length:=⟨_,rfl⟩;rw[<-hKL] at o2 |-;replace hKL:=qa hKL;obtain⟨NY,D1,R1,vY,bwY⟩:=HY.out;obtain⟨hltK,hltV,hgeK,hgeV,hltJ⟩:=HLT.out;have hsY':=hsY.out
 have kp2:∀ b,b<Y.heap.size->(Value.slice ka nd.keys.length kc).ownBlock≠some b->w2.heap[b]?=Y.heap[b]?:=fun b hb hne=>r2.block b hb (fun e=>hne e.symm)
 have V2:OwnT B w2 (.slice va nd.vals.length vc) nd.vals:=qJ NY.vals fun b hb=>kp2 b (xo NY.vals b hb).2 (fun e=>hD.out.1 b e hb)
 have J2:OwnJ B w2 (.slice da nd.kids.length dc) nd.kids:=qJ NY.kids fun b hb=>kp2 b (xo NY.kids b hb).2 (fun e=>hD.out.2.1 b e hb)
 have D2:=(kp2 w.heap.size (by omega) (fun e=>by have:=hltK _ e;omega)).trans D1
 have R2:=(kp2 (w.heap.size+1) (by omega) (fun e=>by have:=hltK _ e;omega)).trans R1
 have L2:=(kp2 gl (xa vY) (fun e=>by have:=hgeK _ e;omega)).trans vY
 have b2:Below B w w2:=(bwY.mono hB).grown r2 (xi hB bwY.size) hgeK
 -- the keys are stored
 obtain⟨U,hU⟩:∃ U,U=w2.setCell ⟨w.heap.size,1,none⟩ (.slice (some ⟨g2,0,none⟩) KL c2):=⟨_,rfl⟩
 have DU:U.heap[w.heap.size]?=some (.cells #[.bool nd.leaf,.slice (some ⟨g2,0,none⟩) KL c2,.slice va nd.vals.length vc,.slice da nd.kids.length dc] 84 (0,0)):=by
  rw[hU];have:=qw D2 1 (.slice (some ⟨g2,0,none⟩) KL c2);simpa using this
 have kpU:∀ b,b≠w.heap.size->U.heap[b]?=w2.heap[b]?:=fun b hb=>by rw[hU];exact xd _ _ _ _ hb
 have hg2:g2≠w.heap.size:=by
  rcases l2 with h|h
  ·have:=hltK _ h;omega
  omega
 have KU:OwnT B U (.slice (some ⟨g2,0,none⟩) KL c2) K2:=qJ o2 fun b hb=>kpU b (fun e9=>hg2 ((JS hb).trans e9))
 have VU:OwnT B U (.slice va nd.vals.length vc) nd.vals:=qJ V2 fun b hb=>kpU b (by have:=hltV b hb;omega)
 have JU:OwnJ B U (.slice da nd.kids.length dc) nd.kids:=qJ J2 fun b hb=>kpU b (by have:=hltJ b hb;omega)
 have RU:=(kpU (w.heap.size+1) (by omega)).trans R2
 have LU:=(kpU gl (by omega)).trans L2
 have bU:Below B w U:=by rw[hU];exact b2.setCell (p:=⟨w.heap.size,1,none⟩) hB _
 have sU:U.heap.size=w2.heap.size:=by rw[hU];simp
 have hU2:Y.heap.size<=U.heap.size:=by rw[sU];exact r2.size
 obtain⟨Z,hZ,DZ,bZ,sZ⟩:=qf U #[st val] 9
 have KI2:Hid (Calls Tryz.prog 28 #[.slice va nd.vals.length vc,.int .i64 (i:Int),.slice (some ⟨U.heap.size,0,none⟩) 1 1] Z fun e w'=>qp6 B Z w' (.slice va nd.vals.length vc) (nd.vals.take i++val::nd.vals.drop i) e) :=
  qe7 B Z _ nd.vals val U.heap.size i (qB VU bZ) DZ (fun b hb=>by have:=hltV b hb;omega) (by have:=bZ.size;omega) (by have:=hlv.out;omega) (by rw[hlv.out];exact hi)
 have HZ:=qa (xb KU (xb VU (xb JU (xb DU (xb RU bU)))))
 have HKP:=qa (xb kp2 (xb kpU bwY))
 have HBZ:=qa bZ
 have hgg:=qa (xb hg2 l2)
 have hsU:=qa (xb sU hU2)
 obtain⟨⟨E0,E1,E2,E3⟩,EF⟩:=qb D2;obtain⟨⟨P0,P1,P2,P3⟩,PF⟩:=qb DU;have L0:=qt LU (i:=0) rfl
 rw[hZ,sU,hU] at KI2;rw[hU] at P0 P1 P2 P3 PF L0;clear KU VU JU DU RU LU bU sU DZ bZ sZ hU2 kp2 kpU V2 J2 D2 R2 L2 b2 o2 r2 l2 hg2 NY D1 R1 vY bwY hltK hltV hgeK hgeV hltJ hsY'
 go_wp2_with fail
 refine KI2.out.mono ?_;rintro e w3 ⟨g3,c3,rfl,o3,r3,l3⟩;rw[<-hU,<-hZ] at r3 l3;clear E0 E1 E2 E3 EF P0 P1 P2 P3 PF L0 KI2;obtain⟨V3,hV3⟩:∃ l,l=nd.vals.take i++val::nd.vals.drop i:=⟨_,rfl⟩;rw[<-hV3] at o3 |-;obtain⟨VL,hVL⟩:∃ q,q=V3.length:=⟨_,rfl⟩;rw[<-hVL] at o3 |-;replace hVL:=qa hVL;obtain⟨KU,VU,JU,DU,RU,bU⟩:=HZ.out;obtain⟨hltK,hltV,hgeK,hgeV,hltJ⟩:=HLT.out;obtain⟨sU,hU2⟩:=hsU.out;have bZ:=HBZ.out
 have hsY':=hsY.out
 have kp3:∀ b,b<U.heap.size->(Value.slice va nd.vals.length vc).ownBlock≠some b->w3.heap[b]?=U.heap[b]?:=fun b hb hne=>(r3.block b (xV hb bZ.size) (fun e=>hne e.symm)).trans (bZ.block b hb)
 have hdj:∀ b,(Value.slice (some ⟨g2,0,none⟩) KL c2).ownBlock=some b->(Value.slice va nd.vals.length vc).ownBlock≠some b:=fun b hb hb2=>by
  have e9:g2=b:=by simpa[Value.ownBlock] using hb
  subst e9;rcases hgg.out.2 with h|h
  ·exact hD.out.1 _ h hb2
  have:=hltV _ hb2;omega
 have K3:OwnT B w3 (.slice (some ⟨g2,0,none⟩) KL c2) K2:=qJ KU fun b hb=>kp3 b (xo KU b hb).2 (hdj b hb)
 have J3:OwnJ B w3 (.slice da nd.kids.length dc) nd.kids:=qJ JU fun b hb=>kp3 b (xo JU b hb).2 (fun e=>hD.out.2.2 b e hb)
 have D3:=(kp3 w.heap.size (by omega) (fun e=>by have:=hltV _ e;omega)).trans DU
 have R3:=(kp3 (w.heap.size+1) (by omega) (fun e=>by have:=hltV _ e;omega)).trans RU
 have b3:Below B w w3:=(bU.trans (bZ.mono (by omega))).grown r3 (by have:=bZ.size;omega) hgeV
 have hg3:g3≠w.heap.size/\g3≠w.heap.size+1:=by
  rcases l3 with h|h
  ·have:=hltV _ h;omega
  have:=bZ.size;omega
 have d9:=qw D3 2 (.slice (some ⟨g3,0,none⟩) VL c3)
 have D4:(w3.setCell ⟨w.heap.size,2,none⟩ (.slice (some ⟨g3,0,none⟩) VL c3)).heap[w.heap.size]?=some (.cells #[.bool nd.leaf,.slice (some ⟨g2,0,none⟩) KL c2,.slice (some ⟨g3,0,none⟩) VL c3,.slice da nd.kids.length dc] 84 (0,0)):=by simpa using d9
 have R4:(w3.setCell ⟨w.heap.size,2,none⟩ (.slice (some ⟨g3,0,none⟩) VL c3)).heap[w.heap.size+1]?=some (.cells #[.bool false,.slice none 0 0,.slice none 0 0,.slice none 0 0] 84 (0,0)):=(xd _ _ _ _ (show w.heap.size+1≠w.heap.size by omega)).trans R3
 obtain⟨⟨E0,E1,E2,E3⟩,EF⟩:=qb D3;obtain⟨⟨P0,P1,P2,P3⟩,PF⟩:=qb D4;obtain⟨⟨F0,F1,F2,F3⟩,FF⟩:=qb R4;have kp4:∀ b,b≠w.heap.size->b≠w.heap.size+1->(S4 (w.heap.size+1) (w3.setCell ⟨w.heap.size,2,none⟩ (.slice (some ⟨g3,0,none⟩) VL c3)) (.bool nd.leaf) (.slice (some ⟨g2,0,none⟩) KL c2) (.slice (some ⟨g3,0,none⟩) VL c3) (.slice da nd.kids.length dc)).heap[b]?=w3.heap[b]?:=fun b h1 h2=>(QE _ _ _ _ h2).trans (xd _ _ _ _ h1)
 have hg2n:g2≠w.heap.size+1:=by
  rcases hgg.out.2 with h|h
  ·have:=hltK _ h;omega
  omega
 have FN:Hid (OwnN B (S4 (w.heap.size+1) (w3.setCell ⟨w.heap.size,2,none⟩ (.slice (some ⟨g3,0,none⟩) VL c3)) (.bool nd.leaf) (.slice (some ⟨g2,0,none⟩) KL c2) (.slice (some ⟨g3,0,none⟩) VL c3) (.slice da nd.kids.length dc)) (.slice (some ⟨g2,0,none⟩) KL c2) (.slice (some ⟨g3,0,none⟩) VL c3) (.slice da nd.kids.length dc) ⟨nd.leaf,K2,V3,nd.kids⟩) :=
  ⟨qJ K3 fun b hb=>(by rw[<-JS hb];exact kp4 _ hgg.out.1 hg2n),qJ o3 fun b hb=>(by rw[<-JS hb];exact kp4 _ hg3.1 hg3.2),qJ J3 fun b hb=>(by have:=hltJ b hb;exact kp4 _ (by omega) (by omega))⟩
 have b4:Below B w (w3.setCell ⟨w.heap.size,2,none⟩ (.slice (some ⟨g3,0,none⟩) VL c3)):=b3.setCell (p:=⟨w.heap.size,2,none⟩) hB _
 have FB:=qa (qn b4 (show B<=w.heap.size+1 by omega) (.bool nd.leaf) (.slice (some ⟨g2,0,none⟩) KL c2) (.slice (some ⟨g3,0,none⟩) VL c3) (.slice da nd.kids.length dc))
 have FK:Hid (KEd B (.slice ka nd.keys.length kc) (.slice va nd.vals.length vc) w (S4 (w.heap.size+1) (w3.setCell ⟨w.heap.size,2,none⟩ (.slice (some ⟨g3,0,none⟩) VL c3)) (.bool nd.leaf) (.slice (some ⟨g2,0,none⟩) KL c2) (.slice (some ⟨g3,0,none⟩) VL c3) (.slice da nd.kids.length dc))):=by
  obtain⟨kp2,kpU,bwY⟩:=HKP.out;refine⟨fun b hb h1 h2=>(kp4 b (by omega) (by omega)).trans ((kp3 b (by omega) h2).trans ((kpU b (by omega)).trans ((kp2 b (by omega) h1).trans (bwY.block b hb)))),FB.out,?_⟩
  have s3:=r3.size
  have:=bZ.size
  simp[S4];omega
 have HR4:=qa R4
 clear D3 R3 K3 J3 D4 R4 d9 b4 o3 r3 l3 DU RU VU JU KU bZ kp3 kp4 b3 bU hdj hg3 hg2n hltK hltV hgeK hgeV hltJ sU hU2 hsY';go_wp2;refine Js rfl rfl (w.heap.size+1) rfl _ _ (0,0) (qu HR4.out _ _ _ _) _ xJ rfl Qe ?_;subst hK2 hV3;exact⟨_,_,rfl,FN.out,FK.out⟩
theorem OwnT.set {n:Nat} (h:OwnT B w (.slice (some ⟨g,0,none⟩) n c) xs) (hn:n=xs.length) (hi:i<xs.length) (y:Str):OwnT B (w.setCell ⟨g,i,none⟩ (st y)) (.slice (some ⟨g,0,none⟩) n c) (xs.set i y):=by
 obtain⟨g',cap,cur,e,hB,hg,hk,hm,hs,ht⟩:=zZ h (by omega)
 simp only[xH,xr,XO] at e;obtain⟨⟨rfl,_⟩,_,rfl⟩:=e;refine⟨by simp,.inr ⟨g,c,_,by rw[List.length_set,hn],hB,qw hg i (st y),by rw[List.length_set];exact hk,hm,by simpa using hs,?_⟩⟩
 rw[Array.toList_setIfInBounds,List.length_set,List.take_set,ht,List.map_set]
theorem qhg (B:Nat) (w:World) (nd:Nd) (kv vv dv:Value) (key val:Str) (i:Nat) (gk gl:Nat) (hN:OwnN B w kv vv dv nd) (hD:Dj kv vv dv) (hB:B<=w.heap.size) (hlen:nd.keys.length<=1000) (hlv:nd.vals.length=nd.keys.length) (hi:i<nd.keys.length)
 (hv:w.heap[gl]?=some (.cells #[st val] 9 (0,0))) (hgl:gl<B) :
 Calls Tryz.prog 27 #[nv nd kv vv dv,.int .i64 (i:Int),.bool true,.pointer (some ⟨gl,0,none⟩),.pointer (some ⟨gk,0,none⟩)] w fun e w'=>∃ kv' vv',e=.returned (nv ⟨nd.leaf,nd.keys,nd.vals.set i val,nd.kids⟩ kv' vv' dv)/\OwnN B w' kv' vv' dv ⟨nd.leaf,nd.keys,nd.vals.set i val,nd.kids⟩/\KEd B kv vv w w':=by
 obtain⟨W,hW,DW,bW,sW⟩:=qf w #[.bool nd.leaf,kv,vv,dv] 84;obtain⟨X,hX,DX,bX,sX⟩:=qf W #[.bool false,.slice none 0 0,.slice none 0 0,.slice none 0 0] 84;have bWX:=bW.trans (bX.mono bW.size)
 have NX:=hN.to bWX
 have D1:=(bX.block _ (xa DW)).trans DW
 rw[sW] at DX;have vX:=(bWX.block _ (xa hv)).trans hv
 have hsX:X.heap.size=w.heap.size+1+1:=by rw[sX,sW]
 obtain⟨gV,cV,cur,rfl,hBV,hgV,hkV,hmV,hsV,htV⟩:=zZ NX.vals (by omega)
 have hvw:gV<w.heap.size:=(xo hN.vals gV rfl).2
 have hltK:∀ b,kv.ownBlock=some b->b<w.heap.size:=fun b hb=>(xo hN.keys b hb).2
 have hltJ:∀ b,dv.ownBlock=some b->b<w.heap.size:=fun b hb=>(xo hN.kids b hb).2
 obtain⟨U,hU⟩:∃ U,U=X.setCell ⟨gV,i,none⟩ (st val):=⟨_,rfl⟩;have kpU:∀ b,b≠gV->U.heap[b]?=X.heap[b]?:=fun b hb=>by rw[hU];exact xd _ _ _ _ hb
 have VU:OwnT B U (.slice (some ⟨gV,0,none⟩) nd.vals.length cV) (nd.vals.set i val):=by rw[hU];exact NX.vals.set rfl (by omega) val
 have KU:OwnT B U kv nd.keys:=qJ NX.keys fun b hb=>kpU b (fun e=>hD.1 b hb (by rw[e];rfl))
 have JU:OwnJ B U dv nd.kids:=qJ NX.kids fun b hb=>kpU b (fun e=>hD.2.2 gV rfl (by rw[<-e];exact hb))
 have DU:=(kpU w.heap.size (by omega)).trans D1
 have RU:=(kpU (w.heap.size+1) (by omega)).trans DX
 have bU:Below B w U:=by rw[hU];exact(bWX.mono hB).setCell (p:=⟨gV,i,none⟩) hBV _
 obtain⟨ov,hov⟩:∃ x,nd.vals[i]?=some x:=⟨_,xg (by omega)⟩
 have cV0:X.cell? ⟨gV,i,none⟩=some (st ov):=by
  refine qt hgV ?_;have h9:cur.toList[i]?=(nd.vals.map st)[i]?:=by rw[<-htV,xP,xj (by omega)]
  rw[XT,hov] at h9
  simpa using h9
 have fV:X.frozen? ⟨gV,i,none⟩=false:=j5 hgV i
 obtain⟨ka,kc,hka⟩:=hN.keys.rd.slice;obtain⟨da,dc,hda⟩:=hN.kids.rd.slice;subst hka hda;obtain⟨⟨E0,E1,E2,E3⟩,EF⟩:=qb D1;obtain⟨⟨P0,P1,P2,P3⟩,PF⟩:=qb DU;obtain⟨⟨F0,F1,F2,F3⟩,FF⟩:=qb RU;have L0:=qt vX (i:=0) rfl
 have kp4:∀ b,b≠w.heap.size+1->(S4 (w.heap.size+1) U (.bool nd.leaf) (.slice ka nd.keys.length kc) (.slice (some ⟨gV,0,none⟩) nd.vals.length cV) (.slice da nd.kids.length dc)).heap[b]?=U.heap[b]?:=fun b h2=>QE _ _ _ _ h2
 have FN:Hid (OwnN B (S4 (w.heap.size+1) U (.bool nd.leaf) (.slice ka nd.keys.length kc) (.slice (some ⟨gV,0,none⟩) nd.vals.length cV) (.slice da nd.kids.length dc)) (.slice ka nd.keys.length kc) (.slice (some ⟨gV,0,none⟩) nd.vals.length cV) (.slice da nd.kids.length dc) ⟨nd.leaf,nd.keys,nd.vals.set i val,nd.kids⟩) :=
  ⟨qJ KU fun b hb=>kp4 b (by have:=hltK b hb;omega),qJ VU fun b hb=>kp4 b (by have:=JS hb;omega),qJ JU fun b hb=>kp4 b (by have:=hltJ b hb;omega)⟩
 have FB:=qa (qn bU (show B<=w.heap.size+1 by omega) (.bool nd.leaf) (.slice ka nd.keys.length kc) (.slice (some ⟨gV,0,none⟩) nd.vals.length cV) (.slice da nd.kids.length dc))
 have FK:Hid (KEd B (.slice ka nd.keys.length kc) (.slice (some ⟨gV,0,none⟩) nd.vals.length cV) w (S4 (w.heap.size+1) U (.bool nd.leaf) (.slice ka nd.keys.length kc) (.slice (some ⟨gV,0,none⟩) nd.vals.length cV) (.slice da nd.kids.length dc))):=by
  refine⟨fun b hb h1 h2=>(kp4 b (by omega)).trans ((kpU b (fun e=>h2 (by rw[e];rfl))).trans (bWX.block b hb)),FB.out,?_⟩
  rw[hU];simp[S4];omega
 have HR4:=qa RU
 have hi2:(i:Int)<(nd.vals.length:Int):=by omega
 rw[hU] at P0 P1 P2 P3 PF F0 F1 F2 F3 FF FN FK HR4;rw[hX,hW] at E0 E1 E2 E3 EF P0 P1 P2 P3 PF F0 F1 F2 F3 FF L0 cV0 fV FN FK HR4;dsimp only[nv];replace hlv:=qa hlv;replace hov:=qa hov;clear hD hN NX D1 DX vX DW bW bX bWX hv hgV htV hsV hkV hmV VU KU JU DU RU bU kp4 kpU hU FB hltK hltJ hW hX hsX sX sW hvw hBV;go_enter Tryz.func27,Tryz.ntmps27;go_wp2;refine Js rfl rfl (w.heap.size+1) rfl _ _ (0,0) (qu HR4.out _ _ _ _) _ xJ rfl Qe ?_;exact⟨_,_,rfl,FN.out,FK.out⟩
theorem qgd (B:Nat) (w:World) (nd:Nd) (kv vv dv:Value) (i:Nat) (th:Bool) (hN:OwnN B w kv vv dv nd) (hD:Dj kv vv dv) (hB:B<=w.heap.size) (hlen:nd.keys.length<=1000) (hlv:nd.vals.length=nd.keys.length) (hi:i<nd.keys.length) :
 Calls Tryz.prog 30 #[nv nd kv vv dv,.int .i64 (i:Int),.bool th] w fun e w'=>∃ kv' vv',e=.returned (nv ⟨nd.leaf,nd.keys.take i++nd.keys.drop (i+1),nd.vals.take i++nd.vals.drop (i+1),nd.kids⟩ kv' vv' dv)/\OwnN B w' kv' vv' dv ⟨nd.leaf,nd.keys.take i++nd.keys.drop (i+1),nd.vals.take i++nd.vals.drop (i+1),nd.kids⟩/\KEd B kv vv w w':=by
 obtain⟨W,hW,DW,bW,sW⟩:=qf w #[.bool nd.leaf,kv,vv,dv] 84;obtain⟨X,hX,DX,bX,sX⟩:=qf W #[.bool false,.slice none 0 0,.slice none 0 0,.slice none 0 0] 84;have bWX:=bW.trans (bX.mono bW.size)
 have NX:=hN.to bWX
 have D1:=(bX.block _ (xa DW)).trans DW
 rw[sW] at DX;have hltK:∀ b,kv.ownBlock=some b->b<w.heap.size:=fun b hb=>(xo hN.keys b hb).2
 have hltV:∀ b,vv.ownBlock=some b->b<w.heap.size:=fun b hb=>(xo hN.vals b hb).2
 have hgeK:∀ b,kv.ownBlock=some b->B<=b:=fun b hb=>(xo hN.keys b hb).1
 have hgeV:∀ b,vv.ownBlock=some b->B<=b:=fun b hb=>(xo hN.vals b hb).1
 have hltJ:∀ b,dv.ownBlock=some b->b<w.heap.size:=fun b hb=>(xo hN.kids b hb).2
 have HLT:=qa (xb hltK (xb hltV (xb hgeK (xb hgeV hltJ))))
 have hsX:X.heap.size=w.heap.size+1+1:=by rw[sX,sW]
 have KI:=qa (qch B X kv nd.keys i NX.keys hi (by omega))
 have HX:=qa (xb NX (xb D1 (xb DX (xb bWX hsX))))
 obtain⟨ka,kc,va,vc,da,dc,rfl,rfl,rfl⟩:=hN.rd.slices;obtain⟨⟨E0,E1,E2,E3⟩,EF⟩:=qb D1;obtain⟨⟨F0,F1,F2,F3⟩,FF⟩:=qb DX;replace hlv:=qa hlv;replace hD:=qa hD;have f1:IntKind.i64.wrap ((i:Int)+1)=(i:Int)+1:=xB _ (by omega)
 dsimp only[nv];rw[hX,hW] at KI;rw[hX,hW] at E0 E1 E2 E3 EF F0 F1 F2 F3 FF;clear NX D1 DX DW bW bX bWX hN sX sW hsX hltK hltV hgeK hgeV hltJ;go_enter Tryz.func30,Tryz.ntmps30
 go_wp2_with fail
 refine KI.out.mono ?_;rintro e w2 ⟨g2,c2,hown2,rfl,o2,r2⟩;rw[<-hW,<-hX] at r2;replace hW:=qa hW;replace hX:=qa hX;clear E0 E1 E2 E3 EF F0 F1 F2 F3 FF KI;obtain⟨K2,hK2⟩:∃ l,l=nd.keys.take i++nd.keys.drop (i+1):=⟨_,rfl⟩;rw[<-hK2] at o2;obtain⟨KL,hKL⟩:∃ q,q=nd.keys.length-1:=⟨_,rfl⟩;rw[<-hKL] at o2 |-;replace hKL:=qa hKL;obtain⟨NX,D1,R1,bwX,hsX⟩:=HX.out;obtain⟨hltK,hltV,hgeK,hgeV,hltJ⟩:=HLT.out;have kp2:∀ b,b<X.heap.size->(Value.slice ka nd.keys.length kc).ownBlock≠some b->w2.heap[b]?=X.heap[b]?:=fun b hb hne=>r2.block b hb (fun e=>hne e.symm)
 have V2:OwnT B w2 (.slice va nd.vals.length vc) nd.vals:=qJ NX.vals fun b hb=>kp2 b (xo NX.vals b hb).2 (fun e=>hD.out.1 b e hb)
 have J2:OwnJ B w2 (.slice da nd.kids.length dc) nd.kids:=qJ NX.kids fun b hb=>kp2 b (xo NX.kids b hb).2 (fun e=>hD.out.2.1 b e hb)
 have D2:=(kp2 w.heap.size (by omega) (fun e=>by have:=hltK _ e;omega)).trans D1
 have R2:=(kp2 (w.heap.size+1) (by omega) (fun e=>by have:=hltK _ e;omega)).trans R1
 have b2:Below B w w2:=(bwX.mono hB).grown r2 (xi hB bwX.size) hgeK
 obtain⟨U,hU⟩:∃ U,U=w2.setCell ⟨w.heap.size,1,none⟩ (.slice (some ⟨g2,0,none⟩) KL c2):=⟨_,rfl⟩
 have DU:U.heap[w.heap.size]?=some (.cells #[.bool nd.leaf,.slice (some ⟨g2,0,none⟩) KL c2,.slice va nd.vals.length vc,.slice da nd.kids.length dc] 84 (0,0)):=by
  rw[hU];have:=qw D2 1 (.slice (some ⟨g2,0,none⟩) KL c2);simpa using this
 have kpU:∀ b,b≠w.heap.size->U.heap[b]?=w2.heap[b]?:=fun b hb=>by rw[hU];exact xd _ _ _ _ hb
 have hg2:g2<w.heap.size:=hltK _ hown2
 have KU:OwnT B U (.slice (some ⟨g2,0,none⟩) KL c2) K2:=qJ o2 fun b hb=>kpU b (by have:=JS hb;omega)
 have VU:OwnT B U (.slice va nd.vals.length vc) nd.vals:=qJ V2 fun b hb=>kpU b (by have:=hltV b hb;omega)
 have JU:OwnJ B U (.slice da nd.kids.length dc) nd.kids:=qJ J2 fun b hb=>kpU b (by have:=hltJ b hb;omega)
 have RU:=(kpU (w.heap.size+1) (by omega)).trans R2
 have bU:Below B w U:=by rw[hU];exact b2.setCell (p:=⟨w.heap.size,1,none⟩) hB _
 have sU:U.heap.size=w2.heap.size:=by rw[hU];simp
 have hU2:X.heap.size<=U.heap.size:=by rw[sU];exact r2.size
 have KI2:=qa (qch B U (.slice va nd.vals.length vc) nd.vals i VU (by rw[hlv.out];exact hi) (by have:=hlv.out;omega))
 have HZ:=qa (xb KU (xb VU (xb JU (xb DU (xb RU bU)))))
 have HKP:=qa (xb kp2 (xb kpU (xb bwX (xb hsX (xb sU (xb hU2 hown2))))))
 obtain⟨⟨E0,E1,E2,E3⟩,EF⟩:=qb D2;obtain⟨⟨P0,P1,P2,P3⟩,PF⟩:=qb DU;rw[hU] at P0 P1 P2 P3 PF KI2;clear KU VU JU DU RU bU sU hU2 kp2 kpU V2 J2 D2 R2 b2 o2 r2 NX D1 R1 bwX hltK hltV hgeK hgeV hltJ hsX hown2
 go_wp2_with fail
 refine KI2.out.mono ?_;rintro e w3 ⟨g3,c3,hown3,rfl,o3,r3⟩;rw[<-hU] at r3;replace hU:=qa hU;clear E0 E1 E2 E3 EF P0 P1 P2 P3 PF KI2;obtain⟨V3,hV3⟩:∃ l,l=nd.vals.take i++nd.vals.drop (i+1):=⟨_,rfl⟩;rw[<-hV3] at o3;obtain⟨VL,hVL⟩:∃ q,q=nd.vals.length-1:=⟨_,rfl⟩;rw[<-hVL] at o3 |-;replace hVL:=qa hVL;obtain⟨KU,VU,JU,DU,RU,bU⟩:=HZ.out;obtain⟨hltK,hltV,hgeK,hgeV,hltJ⟩:=HLT.out;obtain⟨kp2,kpU,bwX,hsX,sU,hU2,hown2⟩:=HKP.out;have kp3:∀ b,b<U.heap.size->(Value.slice va nd.vals.length vc).ownBlock≠some b->w3.heap[b]?=U.heap[b]?:=fun b hb hne=>r3.block b hb (fun e=>hne e.symm)
 have K3:OwnT B w3 (.slice (some ⟨g2,0,none⟩) KL c2) K2:=qJ KU fun b hb=>kp3 b (xo KU b hb).2 (fun e=>by rw[<-JS hb] at e;exact hD.out.1 _ hown2 e)
 have J3:OwnJ B w3 (.slice da nd.kids.length dc) nd.kids:=qJ JU fun b hb=>kp3 b (xo JU b hb).2 (fun e=>hD.out.2.2 b e hb)
 have D3:=(kp3 w.heap.size (by omega) (fun e=>by have:=hltV _ e;omega)).trans DU
 have R3:=(kp3 (w.heap.size+1) (by omega) (fun e=>by have:=hltV _ e;omega)).trans RU
 have b3:Below B w w3:=bU.grown r3 (by omega) hgeV
 have hg2:g2<w.heap.size:=hltK _ hown2
 have hg3:g3<w.heap.size:=hltV _ hown3
 have d9:=qw D3 2 (.slice (some ⟨g3,0,none⟩) VL c3)
 have D4:(w3.setCell ⟨w.heap.size,2,none⟩ (.slice (some ⟨g3,0,none⟩) VL c3)).heap[w.heap.size]?=some (.cells #[.bool nd.leaf,.slice (some ⟨g2,0,none⟩) KL c2,.slice (some ⟨g3,0,none⟩) VL c3,.slice da nd.kids.length dc] 84 (0,0)):=by simpa using d9
 have R4:(w3.setCell ⟨w.heap.size,2,none⟩ (.slice (some ⟨g3,0,none⟩) VL c3)).heap[w.heap.size+1]?=some (.cells #[.bool false,.slice none 0 0,.slice none 0 0,.slice none 0 0] 84 (0,0)):=(xd _ _ _ _ (show w.heap.size+1≠w.heap.size by omega)).trans R3
 obtain⟨⟨E0,E1,E2,E3⟩,EF⟩:=qb D3;obtain⟨⟨P0,P1,P2,P3⟩,PF⟩:=qb D4;obtain⟨⟨F0,F1,F2,F3⟩,FF⟩:=qb R4;have kp4:∀ b,b≠w.heap.size->b≠w.heap.size+1->(S4 (w.heap.size+1) (w3.setCell ⟨w.heap.size,2,none⟩ (.slice (some ⟨g3,0,none⟩) VL c3)) (.bool nd.leaf) (.slice (some ⟨g2,0,none⟩) KL c2) (.slice (some ⟨g3,0,none⟩) VL c3) (.slice da nd.kids.length dc)).heap[b]?=w3.heap[b]?:=fun b h1 h2=>(QE _ _ _ _ h2).trans (xd _ _ _ _ h1)
 have FN:Hid (OwnN B (S4 (w.heap.size+1) (w3.setCell ⟨w.heap.size,2,none⟩ (.slice (some ⟨g3,0,none⟩) VL c3)) (.bool nd.leaf) (.slice (some ⟨g2,0,none⟩) KL c2) (.slice (some ⟨g3,0,none⟩) VL c3) (.slice da nd.kids.length dc)) (.slice (some ⟨g2,0,none⟩) KL c2) (.slice (some ⟨g3,0,none⟩) VL c3) (.slice da nd.kids.length dc) ⟨nd.leaf,K2,V3,nd.kids⟩) :=
  ⟨qJ K3 fun b hb=>(by have:=JS hb;exact kp4 _ (by omega) (by omega)),qJ o3 fun b hb=>(by have:=JS hb;exact kp4 _ (by omega) (by omega)),qJ J3 fun b hb=>(by have:=hltJ b hb;exact kp4 _ (by omega) (by omega))⟩
 have b4:Below B w (w3.setCell ⟨w.heap.size,2,none⟩ (.slice (some ⟨g3,0,none⟩) VL c3)):=b3.setCell (p:=⟨w.heap.size,2,none⟩) hB _
 have FB:=qa (qn b4 (show B<=w.heap.size+1 by omega) (.bool nd.leaf) (.slice (some ⟨g2,0,none⟩) KL c2) (.slice (some ⟨g3,0,none⟩) VL c3) (.slice da nd.kids.length dc))
 have FK:Hid (KEd B (.slice ka nd.keys.length kc) (.slice va nd.vals.length vc) w (S4 (w.heap.size+1) (w3.setCell ⟨w.heap.size,2,none⟩ (.slice (some ⟨g3,0,none⟩) VL c3)) (.bool nd.leaf) (.slice (some ⟨g2,0,none⟩) KL c2) (.slice (some ⟨g3,0,none⟩) VL c3) (.slice da nd.kids.length dc))):=by
  refine⟨fun b hb h1 h2=>(kp4 b (by omega) (by omega)).trans ((kp3 b (by omega) h2).trans ((kpU b (by omega)).trans ((kp2 b (by omega) h1).trans (bwX.block b hb)))),FB.out,?_⟩
  have s3:=r3.size
  simp[S4];omega
 have HR4:=qa R4
 clear D3 R3 K3 J3 D4 R4 d9 b4 o3 r3 DU RU VU JU KU kp2 kpU kp3 kp4 b3 bU hg2 hg3 hltK hltV hgeK hgeV hltJ sU hU2 hsX hown2 hown3 bwX;go_wp2;refine Js rfl rfl (w.heap.size+1) rfl _ _ (0,0) (qu HR4.out _ _ _ _) _ xJ rfl Qe ?_;subst hK2 hV3;exact⟨_,_,rfl,FN.out,FK.out⟩
def LfB (m:Int->Option Value) (b:Nat):Prop:=∃ i nd kv vv dv,m i=some (nv nd kv vv dv)/\nd.leaf=true/\(kv.ownBlock=some b\/vv.ownBlock=some b)
structure CW (w:World) (B g bm k:Nat) (l:List Wrt) (m:Int->Option Value):Prop where
 s:w.cell? ⟨g,3,none⟩=some (.map (some bm))
 map:MapI w bm k m
 nds:∀ i v,m i=some v->NdOf l B w i v
 apt:∀ i j v u,m i=some v->m j=some u->i≠j->∀ b,Z8 v b->¬ Z8 u b
 hg:g<B
 hm:bm<B
theorem CW.to {m:Int->Option Value} (h:CW w B g bm k l m) (b:Below w.heap.size w w'):CW w' B g bm k l m:=by
 refine⟨(b.cell (qe h.s)).trans h.s,h.map.kept (b.block _ h.map.lt),fun i v hv=>?_,h.apt,h.hg,h.hm⟩;obtain⟨x,nd,kv,vv,dv,h1,h2,h3,h4,h5⟩:=h.nds i v hv;exact⟨x,nd,kv,vv,dv,h1,h2,h3,h4.to b,h5⟩
theorem qoa {b:Nd} {k1 v1 d1 k2 v2 d2:Value} (h:nv a k1 v1 d1=nv b k2 v2 d2):a.leaf=b.leaf/\k1=k2/\v1=v2/\d1=d2:=by
 simp only[nv,Value.agg.injEq,Array.mk.injEq,KZ,Value.bool.injEq,XS] at h;exact⟨h.1,h.2.1,h.2.2.1,h.2.2.2⟩
theorem CW.leaf {m:Int->Option Value} (h:CW w B g bm k l m) (hb:LfB m b):B<=b/\b<w.heap.size:=by
 obtain⟨i,nd,kv,vv,dv,h1,h2,h3⟩:=hb;obtain⟨x,nd',kv',vv',dv',q1,q2,q3,q4,q5⟩:=h.nds i _ h1;obtain⟨_,rfl,rfl,rfl⟩:=qoa q3;rcases h3 with h3|h3
 ·exact xo q4.keys b h3
 exact xo q4.vals b h3
theorem CW.inner {m:Int->Option Value} (h:CW w B g bm k l m) {j:Int} {dv:Value} (hj:m j=some (nv nd kv vv dv)) (hl:nd.leaf=false) (hb:Z8 (nv nd kv vv dv) b):¬ LfB m b:=by
 rintro ⟨i,nd',kv',vv',dv',h1,h2,h3⟩;by_cases e:i=j
 ·subst e;rw[hj] at h1;have:=qoa (k9 h1)
  rw[hl,h2] at this;cases this.1
 refine h.apt i j _ _ h1 hj e b ⟨_,_,_,_,rfl,?_⟩ hb;rcases h3 with h3|h3
 ·exact .inl h3
 exact .inr (.inl h3)
structure KRb (B gc:Nat) (m:Int->Option Value) (av:Value) (w w':World):Prop where
 keep:∀ b,b<w.heap.size->b≠gc->¬ LfB m b->w'.heap[b]?=w.heap[b]?
 row:∀ b,av.ownBlock=some b->w.heap.size<=b
 bel:Below B w w'
 size:w.heap.size<=w'.heap.size
theorem KRb.first {m:Int->Option Value} (b:Below u.heap.size u w) (hB:B<=u.heap.size) (h:KRb B gc m av w w'):KRb B gc m av u w' :=
 ⟨fun i h1 h2 h3=>(h.keep i (xV h1 b.size) h2 h3).trans (b.block i h1),fun i hi=>xi b.size (h.row i hi),(b.mono hB).trans h.bel,xi b.size h.size⟩
theorem KRb.then {m:Int->Option Value} (h:KRb B gc m av u w) (k:KCh B gc av av' w w'):KRb B gc m av' u w' :=
 ⟨fun i h1 h2 h3=>(k.keep i (xV h1 h.size) h2 (fun e=>by have:=h.row i e;omega)).trans (h.keep i h1 h2 h3),fun i hi=>by
  rcases k.row i hi with q|q
  ·exact h.row i q
  exact xi h.size q,h.bel.trans k.bel,xi h.size k.size⟩
def RbR (B gc g:Nat) (next:Int) (l:List Wrt) (m:Int->Option Value) (d:Nat) (key:Str) (ed:Nd->Nd) (n:Nd) (w w':World) (e:Ending):Prop :=
 ∃ kv' vv' dv' av' ns',e=.returned (nv (Qo l next key ed d n []).1 kv' vv' dv')/\RdK w' kv' vv' dv' (Qo l next key ed d n []).1/\ChI B w' gc g next av' ns'/\AllK w' ns'/\ns'.map (·.1)=(Qo l next key ed d n []).2/\KRb B gc m av' w w'
theorem qk7 (B:Nat) (w:World) (gc:Nat) (nd:Nd) (kv vv dv:Value) (key:Str) (F:Nat) (caps:Array Value) (hB:B<=w.heap.size) (hr:RdN w kv vv dv nd) (hfit:jH nd) (hl:nd.leaf=true) (nd':Nd)
 (hF:∀ u,Below w.heap.size w u->Calls Tryz.prog F (#[nv nd kv vv dv,.int .i64 (Qf nd key),.bool (jQ nd key)]++caps) u fun e u'=>∃ kv' vv' dv',e=.returned (nv nd' kv' vv' dv')/\OwnN B u' kv' vv' dv' nd'/\KEd B kv vv u u')
 (hlt:∀ b,kv.ownBlock=some b\/vv.ownBlock=some b->b<w.heap.size)
 (he:∀ args u,(callFunc F args).run Tryz.prog u=.ok (.enter F args) u) :
 Calls Tryz.prog 60 #[.pointer (some ⟨gc,0,none⟩),nv nd kv vv dv,st key,.func (.func F) #[] caps] w fun e w'=>∃ kv' vv' dv',e=.returned (nv nd' kv' vv' dv')/\OwnN B w' kv' vv' dv' nd'/\KEd B kv vv w w':=by
 obtain⟨W,hW,DW,bW,sW⟩:=qf w #[.bool nd.leaf,kv,vv,dv] 84;obtain⟨X,hX,DX,bX,sX⟩:=qf W #[.bool false,.slice none 0 0,.slice none 0 0,.slice none 0 0] 84;have bWX:=bW.trans (bX.mono bW.size)
 have KF:=qa (jp X kv vv dv nd key (hr.to bWX) hfit)
 have D1:=(bX.block _ (xa DW)).trans DW
 rw[sW] at DX;have HD:=qa (xb D1 DX)
 have BX:=qa bWX
 replace hlt:=qa hlt;obtain⟨ka,kc,va,vc,da,dc,rfl,rfl,rfl⟩:=hr.slices;obtain⟨⟨E0,E1,E2,E3⟩,EF⟩:=qb D1;obtain⟨⟨F0,F1,F2,F3⟩,FF⟩:=qb DX;dsimp only[nv] at KF |-;rw[hX,hW] at E0 E1 E2 E3 EF F0 F1 F2 F3 FF KF;replace hF:=qa hF;have HL:=qa hl
 clear hl DW DX bW bX bWX D1 hr;go_enter Tryz.func60,Tryz.ntmps60
 go_wp2_with fail
 refine KF.out.mono ?_;rintro e w1 ⟨rfl,b1⟩;rw[<-hW,<-hX] at b1;clear E0 E1 E2 E3 EF F0 F1 F2 F3 FF KF;have B1:=qa (BX.out.trans (b1.mono BX.out.size))
 have D1:=(b1.block _ (xa HD.out.1)).trans HD.out.1
 have R1:=(b1.block _ (xa HD.out.2)).trans HD.out.2
 have HR:=qa R1
 obtain⟨⟨E0,E1,E2,E3⟩,EF⟩:=qb D1;rw[HL.out] at E0;have KF2:=qa (hF.out w1 B1.out)
 dsimp only[nv] at KF2;rw[HL.out] at KF2;replace hX:=qa hX;replace hW:=qa hW;clear D1 R1 b1 HD
 go_wp2_with fail
 refine KF2.out.mono ?_;rintro e w2 ⟨kv',vv',dv',rfl,o2,k2⟩;obtain⟨ka',kc',va',vc',da',dc',rfl,rfl,rfl⟩:=o2.rd.slices;have hn1:∀ q,q=w.heap.size\/q=w.heap.size+1->(Value.slice ka nd.keys.length kc).ownBlock≠some q/\(Value.slice va nd.vals.length vc).ownBlock≠some q:=fun q hq=>⟨fun e=>by have:=hlt.out q (.inl e);omega,fun e=>by have:=hlt.out q (.inr e);omega⟩
 have R2:=(k2.keep _ (xa HR.out) (hn1 _ (.inr rfl)).1 (hn1 _ (.inr rfl)).2).trans HR.out
 have HR2:=qa R2
 obtain⟨⟨F0,F1,F2,F3⟩,FF⟩:=qb R2;have O2:=qa o2
 have K2:=qa k2
 have hB1:Hid (B<=w1.heap.size):=xi hB B1.out.size
 clear o2 k2 R2 E0 E1 E2 E3 EF KF2 hF;dsimp only[nv];go_wp2;refine Js rfl rfl (w.heap.size+1) rfl _ _ (0,0) (qu HR2.out _ _ _ _) _ xJ rfl Qe ?_;have k:=fun e (he:e≠84)=>z8 HR2.out (.bool nd'.leaf) (.slice ka' nd'.keys.length kc') (.slice va' nd'.vals.length vc') (.slice da' nd'.kids.length dc') he
 have fb:=qn ((B1.out.mono hB).trans K2.out.bel) (show B<=w.heap.size+1 by omega) (.bool nd'.leaf) (.slice ka' nd'.keys.length kc') (.slice va' nd'.vals.length vc') (.slice da' nd'.kids.length dc')
 refine⟨_,_,_,rfl,O2.out.keepT (k _ (by decide)) (k _ (by decide)),⟨fun b hb h1 h2=>?_,fb,fb.size⟩⟩
 exact(QE _ _ _ _ (show b≠w.heap.size+1 by omega)).trans ((K2.out.keep b (xV hb B1.out.size) h1 h2).trans (B1.out.block b hb))
structure R4 (B gc g:Nat) (next:Int) (m:Int->Option Value) (M:Nd) (AD:List Nd) (n:Nd) (kv vv dv:Value) (w wx:World) (g12:Nat) (kv' vv' dv' av':Value) (ns':List NV):Prop where
 b12:wx.heap[g12]?=some (.cells #[.bool M.leaf,kv',vv',dv'] 84 (0,0))
 rd:RdK wx kv' vv' dv' M
 ch:ChI B wx gc g next av' ns'
 al:AllK wx ns'
 eq:ns'.map (·.1)=AD
 kr:KRb B gc m av' w wx
 nb:wx.heap[w.heap.size]?=some (.cells #[.bool false,kv,vv,dv] 84 (0,0))
 rb:wx.heap[w.heap.size+1]?=some (.cells #[.bool false,.slice none 0 0,.slice none 0 0,.slice none 0 0] 84 (0,0))
 l12:w.heap.size+1<g12
 na:∀ b,av'.ownBlock=some b->b≠g12/\b≠w.heap.size/\b≠w.heap.size+1
theorem R4.to {next:Int} {m:Int->Option Value} {dv:Value} {wy:World} {ns':List NV} (h:R4 B gc g next m M AD n kv vv dv w wx g12 kv' vv' dv' av' ns') (b:Below wx.heap.size wx wy) (hB:B<=w.heap.size):R4 B gc g next m M AD n kv vv dv w wy g12 kv' vv' dv' av' ns' :=
 ⟨(b.block _ (xa h.b12)).trans h.b12,h.rd.to b,h.ch.to b,h.al.to b,h.eq,h.kr.then (KCh.of b (xi hB h.kr.size)),(b.block _ (xa h.nb)).trans h.nb,(b.block _ (xa h.rb)).trans h.rb,h.l12,h.na⟩
theorem R4.put {next:Int} {m:Int->Option Value} {dv:Value} {ns':List NV} (h:R4 B gc g next m M AD n kv vv dv w wx g12 kv' vv' dv' av' ns') (hB:B<=w.heap.size) (hgc:gc<w.heap.size) (hg:g<w.heap.size) (hj:RdK wx jk jv jd J) :
 R4 B gc g next m J AD n kv vv dv w (S4 g12 wx (.bool J.leaf) jk jv jd) g12 jk jv jd av' ns':=by
 have kt:∀ e,e≠84->KeepT e wx (S4 g12 wx (.bool J.leaf) jk jv jd):=fun e he=>z8 h.b12 _ _ _ _ he
 have hot:∀ b,b≠g12->(S4 g12 wx (.bool J.leaf) jk jv jd).heap[b]?=wx.heap[b]?:=fun b hb=>QE _ _ _ _ hb
 have l12:=h.l12
 refine⟨qu h.b12 _ _ _ _,hj.keepT (kt _ (by decide)) (kt _ (by decide)),⟨(hot gc (by omega)).trans h.ch.box,qJ h.ch.row fun b hb=>hot b (h.na b hb).1,?_,h.ch.hC⟩,h.al.keepT (kt _ (by decide)) (kt _ (by decide)),h.eq,⟨fun b h1 h2 h3=>(hot b (by omega)).trans (h.kr.keep b h1 h2 h3),h.kr.row,qn h.kr.bel (by omega) _ _ _ _,?_⟩,(hot _ (by omega)).trans h.nb,(hot _ (by omega)).trans h.rb,l12,h.na⟩
 ·have e1:=hot g (by omega)
  have:=h.ch.nxt
  simp only[World.cell?] at this |-;rw[e1];exact this
 have:=h.kr.size
 simpa[S4] using this
def RbX (B gc g:Nat) (next:Int) (m:Int->Option Value) (M:Nd) (AD:List Nd) (w w':World) (e:Ending):Prop :=
 ∃ kv' vv' dv' av' ns',e=.returned (nv M kv' vv' dv')/\RdK w' kv' vv' dv' M/\ChI B w' gc g next av' ns'/\AllK w' ns'/\ns'.map (·.1)=AD/\KRb B gc m av' w w'
def rbJ (l:List Wrt) (n:Nd) (kx:Nat) (M:Nd):Nd:=if zN M=true then QL l n (kx-1) kx M else M
def rbF (kx:Nat) (M:Nd):Nat:=if zN M=true then kx-1 else kx
def rbT (kx:Nat) (M:Nd):Nat:=if zN M=true then kx-1+2 else kx+1
theorem qrc {next:Int} {key:Str} {ed:Nd->Nd} {kx:Nat} (h1:(Qf n key).toNat=kx) (h2:zw l (n.kids.getD kx 0)=nd) :
 Qo l next key ed (d+1) n []=(inr (zk (brs n) (rbF kx (Qo l next key ed d nd []).1) (rbT kx (Qo l next key ed d nd []).1) (qC next (Qo l next key ed d nd []).2 (rbJ l n kx (Qo l next key ed d nd []).1) ((brs n).getD (rbF kx (Qo l next key ed d nd []).1) ([],0)).1).1),(qC next (Qo l next key ed d nd []).2 (rbJ l n kx (Qo l next key ed d nd []).1) ((brs n).getD (rbF kx (Qo l next key ed d nd []).1) ([],0)).1).2):=by
 simp only[Qo];rw[h1,h2];unfold rbF rbT rbJ
 split<;>rfl
theorem RdK.krb {m:Int->Option Value} {dv:Value} {cs:Array Value} {fr:Nat×Nat} (h:RdK w kv vv dv n) (hL:∀ b,Z8 (nv n kv vv dv) b->¬ LfB m b) (k:KRb B gc m av w w') (hc:w.heap[gc]?=some (.cells cs 126 fr)):RdK w' kv vv dv n:=by
 have hk:∀ (T:TypeId) (v:Value),T≠126->TyB w v T->(∀ b,v.ownBlock=some b->Z8 (nv n kv vv dv) b)->∀ b,v.ownBlock=some b->w'.heap[b]?=w.heap[b]?:=fun T v hT ht hr b hb=>by
  obtain⟨cur,fr',e⟩:=ht b hb;refine k.keep b (xa e) (fun e9=>?_) (hL b (hr b hb));subst e9;rw[hc] at e;simp only[xr,kF] at e;exact hT e.2.1.symm
 have k1:=hk _ kv (by decide) h.tk (fun b hb=>⟨_,_,_,_,rfl,.inl hb⟩)
 have k2:=hk _ vv (by decide) h.tv (fun b hb=>⟨_,_,_,_,rfl,.inr (.inl hb)⟩)
 have k3:=hk _ dv (by decide) h.td (fun b hb=>⟨_,_,_,_,rfl,.inr (.inr hb)⟩)
 refine⟨⟨yp h.rd.keys k1,yp h.rd.vals k2,qb7 h.rd.kids k3⟩,fun b hb=>?_,fun b hb=>?_,fun b hb=>?_⟩
 ·obtain⟨cur,fr',e⟩:=h.tk b hb;exact⟨cur,fr',(k1 b hb).trans e⟩
 ·obtain⟨cur,fr',e⟩:=h.tv b hb;exact⟨cur,fr',(k2 b hb).trans e⟩
 obtain⟨cur,fr',e⟩:=h.td b hb;exact⟨cur,fr',(k3 b hb).trans e⟩
theorem qky {c:Br} (h1:n.kids[1]?=some c.2) (h2:n.keys[0]?=some c.1) (h3:NdIs l c.2 sb):QL l n (0-1) 0 M=inr (brs M++(c.1,sb.kids.headD 0)::(brs sb).tail):=by
 unfold QL;simp only[Nat.zero_sub,kS,XD];have q1:n.kids.getD 1 0=c.2:=by rw[xe,h1];rfl
 have q2:n.keys.getD 0 []=c.1:=by rw[xe,h2];rfl
 rw[q1,q2,h3.at]
theorem qkp {c:Int} {x:Str} (h1:n.kids[i]?=some c) (h2:n.keys[i]?=some x) (h3:NdIs l c sb):QL l n (i+1-1) (i+1) M=inr (brs sb++(x,M.kids.headD 0)::(brs M).tail):=by
 unfold QL;rw[XN,xh (by omega),xh (by omega)]
 have q1:n.kids.getD i 0=c:=by rw[xe,h1];rfl
 have q2:n.keys.getD i []=x:=by rw[xe,h2];rfl
 rw[q1,q2,h3.at]
theorem R4.fin {next:Int} {m:Int->Option Value} {M':Nd} {AD2:List Nd} {dv:Value} {w5 w6:World} {gb C cap:Nat} {av2 kI dI:Value} {ns ns2:List NV} {bs:List Br}
 (h:R4 B gc g next m J AD n kv vv dv w w3 g12 jk jv jd av ns) (hB:B<=w.heap.size) (hgc:gc<w.heap.size) (hg:g<w.heap.size) (hC:w.heap.size+1<C) (hav:∀ b,av.ownBlock=some b->b<C) (hCb:C<=gb) (hb3:gb<w3.heap.size)
 (k4:KCh B gc av av2 w3 w4) (c4:ChI B w4 gc g next av2 ns2) (al4:AllK w4 ns2) (e4:ns2.map (·.1)=AD2) (o4:OwnBr C w4 (.slice (some ⟨gb,0,none⟩) L cap) bs) (gr:w4.grownBy w5 (some gb)) (b6:Below w5.heap.size w5 w6) (oI:OwnN w5.heap.size w6 kI (.slice none 0 0) dI M') (hM:M'.leaf=false) :
 w6.heap[w.heap.size+1]?=some (.cells #[.bool false,.slice none 0 0,.slice none 0 0,.slice none 0 0] 84 (0,0))/\RbX B gc g next m M' AD2 w (S4 (w.heap.size+1) w6 (.bool false) kI (.slice none 0 0) dI) (.returned (nv M' kI (.slice none 0 0) dI)):=by
 have ha2:∀ b,av2.ownBlock=some b->b≠gb/\b≠w.heap.size+1:=fun b hb=>by
  rcases k4.row b hb with q|q
  ·have:=hav b q
   exact⟨by omega,(h.na b q).2.2⟩
  exact⟨by omega,by omega⟩
 have rb4:=(k4.keep _ (xa h.rb) (by omega) (fun e=>(h.na _ e).2.2 rfl)).trans h.rb
 have hst:∀ b,b<w4.heap.size->b≠gb->w6.heap[b]?=w4.heap[b]?:=fun b h1 h2=>(b6.block b (xV h1 gr.size)).trans (gr.block b h1 (fun e=>h2 (k9 e)))
 have rb6:=(hst _ (xa rb4) (by omega)).trans rb4
 have kt:∀ e,e≠84->KeepT e w6 (S4 (w.heap.size+1) w6 (.bool false) kI (.slice none 0 0) dI):=fun e he=>z8 rb6 _ _ _ _ he
 have hot:∀ b,b≠w.heap.size+1->(S4 (w.heap.size+1) w6 (.bool false) kI (.slice none 0 0) dI).heap[b]?=w6.heap[b]?:=fun b hb=>QE _ _ _ _ hb
 have hall:∀ b,b<w4.heap.size->b≠gb->b≠w.heap.size+1->(S4 (w.heap.size+1) w6 (.bool false) kI (.slice none 0 0) dI).heap[b]?=w4.heap[b]?:=fun b h1 h2 h3=>(hot b h3).trans (hst b h1 h2)
 have k46:∀ e,e≠160->e≠84->KeepT e w4 (S4 (w.heap.size+1) w6 (.bool false) kI (.slice none 0 0) dI):=fun e h1 h2=>((KeepT.grown o4 gr h1).trans (KeepT.below b6)).trans (kt e h2)
 have kr4:=h.kr.then k4
 have hs4:=kr4.size
 refine⟨rb6,kI,.slice none 0 0,dI,av2,ns2,rfl,oI.rdk.keepT (kt _ (by decide)) (kt _ (by decide)),⟨(hall gc (by omega) (by omega) (by omega)).trans c4.box,qJ c4.row fun b hb=>hall b (xo c4.row b hb).2 (ha2 b hb).1 (ha2 b hb).2,?_,c4.hC⟩,al4.keepT (k46 _ (by decide) (by decide)) (k46 _ (by decide) (by decide)),e4,⟨fun b h1 h2 h3=>(hall b (by omega) (by omega) (by omega)).trans (kr4.keep b h1 h2 h3),kr4.row,?_,?_⟩⟩
 ·have e1:=hall g (by omega) (by omega) (by omega)
  have:=c4.nxt
  simp only[World.cell?] at this |-;rw[e1];exact this
 ·have hs5:=gr.size
  exact qn (((kr4.bel.grown gr (by omega) (fun k e=>by cases e;omega))).trans (b6.mono (by omega))) (by omega) _ _ _ _
 have:=b6.size
 have:=gr.size
 simp only[S4,World.setCell,Array.size_modify];omega
def qsk (B:Nat) (w:World) (l:List Wrt) (m:Int->Option Value) (b:Br):Prop:=∃ sb sk sv sd,NdIs l b.2 sb/\sb.leaf=false/\m b.2=some (nv sb sk sv sd)/\(Lit.int .i64 b.2).wf=true/\RdK w sk sv sd sb/\∀ q,Z8 (nv sb sk sv sd) q->¬ LfB m q
theorem qji (B gc g bm k:Nat) (next:Int) (l:List Wrt) (m:Int->Option Value) (d:Nat) (n:Nd) (kv vv dv:Value) (key:Str) (Fn:Nat) (caps:Array Value) (ed:Nd->Nd) (w:World) (kx:Nat) (P:List Br) (X:Br) (S:List Br) (nd:Nd) (lo':Str) (hi':Option Str) (kk kvv kd:Value)
 (hC:CW w B g bm k l m) (hh:ChI B w gc g next (.slice none 0 0) []) (hB:B<=w.heap.size) (hgc:gc≠g) (hnx:0<=next/\next<=65536) (hd:d<=20) (hn:RdK w kv vv dv n) (hnr:∀ b,Z8 (nv n kv vv dv) b->¬ LfB m b) (hok:NOk n) (hl:n.leaf=false) (hlen:n.keys.length<=200)
 (W:Way l d n key kx P X S nd lo' hi') (hm:m X.2=some (nv nd kk kvv kd)) (hwf:(Lit.int .i64 X.2).wf=true) (hsib:∀ (i:Nat) (b:Br),zN (Qo l next key ed d nd []).1=true->(P++[X]++S)[i]?=some b->qsk B w l m b)
 (IH:∀ u,Below w.heap.size w u->Calls Tryz.prog 60 #[.pointer (some ⟨gc,0,none⟩),nv nd kk kvv kd,st key,.func (.func Fn) #[] caps] u fun e u'=>RbR B gc g next l m d key ed nd u u' e) (hsh:ShN d (Qo l next key ed d nd []).1) :
 Calls Tryz.prog 60 #[.pointer (some ⟨gc,0,none⟩),nv n kv vv dv,st key,.func (.func Fn) #[] caps] w fun e w'=>RbR B gc g next l m (d+1) key ed n w w' e:=by
 have hfk:(Qf n key).toNat=kx:=by rw[W.fnd];simp
 have hgk:n.kids.getD kx 0=X.2:=by rw[xe,W.kid];rfl
 have hreb:=qa (qrc (l:=l) (next:=next) (key:=key) (ed:=ed) (d:=d) (nd:=nd) hfk (by rw[hgk];exact W.isn.at))
 obtain⟨MM,hMM⟩:∃ M,M=(Qo l next key ed d nd []).1:=⟨_,rfl⟩
 obtain⟨AD,hAD⟩:∃ A,A=(Qo l next key ed d nd []).2:=⟨_,rfl⟩
 rw[<-hMM,<-hAD] at hreb;rw[<-hMM] at hsh hsib;have hkids:n.kids.length=n.keys.length+1:=Q9 hok hl
 have hbrl:(brs n).length=n.kids.length:=Ju hkids
 obtain⟨ka,kc,va,vc,da,dc,e1,e2,e3⟩:=hn.rd.slices;obtain⟨db,dO,e4,hcd⟩:=(show RdI w (.slice da n.kids.length dc) n.kids by rw[<-e3];exact hn.rd.kids).intAt W.kid
 subst e4;subst e1 e2 e3;obtain⟨W1,hW1,D1,b1,s1⟩:=qf w #[.bool n.leaf,.slice ka n.keys.length kc,.slice va n.vals.length vc,.slice (some ⟨db,dO,none⟩) n.kids.length dc] 84;obtain⟨X1,hX1,D2,b2,s2⟩:=qf W1 #[.bool false,.slice none 0 0,.slice none 0 0,.slice none 0 0] 84;have bX:=b1.trans (b2.mono b1.size)
 have DN:=(b2.block _ (xa D1)).trans D1
 rw[s1] at D2;have KF:=qa (jp X1 _ _ _ n key (hn.rd.to bX) hok.fit)
 have hgcw:gc<w.heap.size:=xa hh.box
 have hgw:g<w.heap.size:=qe hh.nxt
 have hdbw:db<w.heap.size:=qe hcd
 have hdbL:¬ LfB m db:=hnr db ⟨_,_,_,_,rfl,.inr (.inr rfl)⟩
 have HNL:Hid (∀ b,w.heap.size<=b->¬ LfB m b):=fun b hb hL=>by have:=(hC.leaf hL).2;omega
 have HBL:Hid (∀ b,b<B->¬ LfB m b):=fun b hb hL=>by have:=(hC.leaf hL).1;omega
 have hkxl:kx<n.kids.length:=(xn.1 W.kid).1
 have HX:=qa (xb DN (xb D2 bX))
 have HC:=qa hC
 have HH:=qa hh
 have HN:=qa hn
 have HNR:=qa hnr
 obtain⟨⟨E0,E1,E2,E3⟩,EF⟩:=qb DN
 have HS:Hid (∀ w' {av':Value} {ns':List NV},KRb B gc m av' w w'->ChI B w' gc g next av' ns'->w'.cell? ⟨w.heap.size,3,none⟩=some (.slice (some ⟨db,dO,none⟩) n.kids.length dc)->(w'.cell? ⟨gc,0,none⟩=some (.pointer (some ⟨g,0,none⟩))/\w'.cell? ⟨g,3,none⟩=some (.map (some bm))/\w'.cell? ⟨w.heap.size,3,none⟩=some (.slice (some ⟨db,dO,none⟩) n.kids.length dc))/\w'.cell? ⟨db,dO+kx,none⟩=some (.int .i64 X.2)/\MapI w' bm k m):=fun w' av' ns' kr c h3=>by
  have hkc:∀ b j u,w.cell? ⟨b,j,none⟩=some u->b≠gc->¬ LfB m b->w'.cell? ⟨b,j,none⟩=some u:=fun b j u hc h1 h2=>by
   have e9:=kr.keep b (qe hc) h1 h2
   simp only[World.cell?] at hc |-;rw[e9];exact hc
  refine⟨⟨qt c.box rfl,hkc _ _ _ hC.s (Ne.symm hgc) (HBL.out g hC.hg),h3⟩,hkc _ _ _ hcd ?_ hdbL,hC.map.kept (kr.keep bm hC.map.lt (hC.map.ne hh.box) (HBL.out bm hC.hm))⟩;intro e9;subst e9;obtain⟨cur,fr,e8⟩:=hn.td db rfl;rw[hh.box] at e8;simp at e8
 have HS2:Hid (∀ u d2:World,((u.cell? ⟨gc,0,none⟩=some (.pointer (some ⟨g,0,none⟩))/\u.cell? ⟨g,3,none⟩=some (.map (some bm))/\u.cell? ⟨w.heap.size,3,none⟩=some (.slice (some ⟨db,dO,none⟩) n.kids.length dc))/\u.cell? ⟨db,dO+kx,none⟩=some (.int .i64 X.2)/\MapI u bm k m)->Below u.heap.size u d2->(d2.cell? ⟨gc,0,none⟩=some (.pointer (some ⟨g,0,none⟩))/\d2.cell? ⟨g,3,none⟩=some (.map (some bm))/\d2.cell? ⟨w.heap.size,3,none⟩=some (.slice (some ⟨db,dO,none⟩) n.kids.length dc))/\d2.cell? ⟨db,dO+kx,none⟩=some (.int .i64 X.2)/\MapI d2 bm k m):=fun u d2 ⟨⟨h1,h2,h3⟩,h4,h5⟩ q=>⟨⟨(q.cell (qe h1)).trans h1,(q.cell (qe h2)).trans h2,(q.cell (qe h3)).trans h3⟩,(q.cell (qe h4)).trans h4,h5.kept (q.block _ h5.lt)⟩
 have hfnd:=qa W.fnd
 have HW:=qa W
 have IH':Hid (∀ u,Below w.heap.size w u->Calls Tryz.prog 60 #[.pointer (some ⟨gc,0,none⟩),nv nd kk kvv kd,st key,.func (.func Fn) #[] caps] u fun e u'=>RbX B gc g next m MM AD u u' e):=fun u b=>(IH u b).mono fun e u' h9=>by
  rw[hMM,hAD];exact h9
 clear IH;have IH:=IH'
 clear IH';replace hm:=qa hm;replace hwf:=qa hwf;replace hsh:=qa hsh;replace hsib:=qa hsib;have HOK:=qa hok
 have HLF:=qa hl
 rw[W.fnd] at KF;rw[hl] at hW1 E0 HX;dsimp only[nv] at KF |-;rw[hl] at KF |-;generalize hZ:n.kids.length=Z at *;generalize hKN:n.keys.length=KN at *;generalize hVN:n.vals.length=VN at *;replace hZ:=qa hZ;replace hKN:=qa hKN;replace hVN:=qa hVN;replace hkids:=qa hkids;replace hbrl:=qa hbrl;replace hMM:=qa hMM;replace hAD:=qa hAD;rw[hX1,hW1] at E0 E1 E2 E3 EF KF;clear D1 D2 b1 b2 s1 s2 bX DN hn hnr hC hok hl W hfk hgk;go_enter Tryz.func60,Tryz.ntmps60
 go_wp2_with fail
 refine KF.out.mono ?_;rintro e w1 ⟨rfl,b1⟩;rw[<-hW1,<-hX1] at b1;clear E0 E1 E2 E3 EF KF;replace hW1:=qa hW1;replace hX1:=qa hX1;have NB1:=(b1.block _ (xa HX.out.1)).trans HX.out.1
 have RB1:=(b1.block _ (xa HX.out.2.1)).trans HX.out.2.1
 have bw1:=HX.out.2.2.trans (b1.mono HX.out.2.2.size)
 have H1:=qa (xb NB1 (xb RB1 bw1))
 obtain⟨⟨E0,E1,E2,E3⟩,EF⟩:=qb NB1;clear NB1 RB1 bw1 b1
 go_upto_region 4 with fail
 clear E0 E1 E2 E3 EF
 go_cut [12] from 31 to 47 (fun p12 wx=>∃ (g12:Nat) (kv' vv' dv' av':Value) (ns':List NV),p12=.pointer (some ⟨g12,0,none⟩)/\Hid (R4 B gc g next m MM AD n (.slice ka KN kc) (.slice va VN vc) (.slice (some ⟨db,dO,none⟩) Z dc) w wx g12 kv' vv' dv' av' ns'))
 case first =>
  obtain⟨NB1,RB1,bw1⟩:=H1.out;have b0:Below w1.heap.size w1 w1.drew:=qg w1 1 _
  have NB0:=(b0.block _ (xa NB1)).trans NB1
  have RB0:=(b0.block _ (xa RB1)).trans RB1
  have bwc:=bw1.trans (b0.mono bw1.size)
  refine Ql (fun w'=>(w'.cell? ⟨gc,0,none⟩=some (.pointer (some ⟨g,0,none⟩))/\w'.cell? ⟨g,3,none⟩=some (.map (some bm))/\w'.cell? ⟨w.heap.size,3,none⟩=some (.slice (some ⟨db,dO,none⟩) Z dc))/\w'.cell? ⟨db,dO+kx,none⟩=some (.int .i64 X.2)/\MapI w' bm k m) 18 qG (by simp) ?_
  generalize w1.drew=c0 at *;have S0:(c0.cell? ⟨gc,0,none⟩=some (.pointer (some ⟨g,0,none⟩))/\c0.cell? ⟨g,3,none⟩=some (.map (some bm))/\c0.cell? ⟨w.heap.size,3,none⟩=some (.slice (some ⟨db,dO,none⟩) Z dc))/\c0.cell? ⟨db,dO+kx,none⟩=some (.int .i64 X.2)/\MapI c0 bm k m:=HS.out c0 (KRb.first bwc hB ⟨fun _ _ _ _=>rfl,(fun b hb=>by cases hb),xm _ _,xc _⟩) (HH.out.to bwc) (qb NB0).1.2.2.2
  have HCA:Hid (∀ u1 av' ns',KRb B gc m av' c0 u1->ChI B u1 gc g next av' ns'->((u1.cell? ⟨gc,0,none⟩=some (.pointer (some ⟨g,0,none⟩))/\u1.cell? ⟨g,3,none⟩=some (.map (some bm))/\u1.cell? ⟨w.heap.size,3,none⟩=some (.slice (some ⟨db,dO,none⟩) Z dc))/\u1.cell? ⟨db,dO+kx,none⟩=some (.int .i64 X.2)/\MapI u1 bm k m)/\u1.heap[w.heap.size]?=some (.cells #[.bool false,.slice ka KN kc,.slice va VN vc,.slice (some ⟨db,dO,none⟩) Z dc] 84 (0,0))/\u1.heap[w.heap.size+1]?=some (.cells #[.bool false,.slice none 0 0,.slice none 0 0,.slice none 0 0] 84 (0,0))/\KRb B gc m av' w u1):=fun u1 av' ns' r5 r2=>by
   have n1:=(r5.keep _ (xa NB0) (by omega) (HNL.out _ (xc _))).trans NB0
   exact⟨HS.out u1 (KRb.first bwc hB r5) r2 (qb n1).1.2.2.2,n1,(r5.keep _ (xa RB0) (by omega) (HNL.out _ (by omega))).trans RB0,KRb.first bwc hB r5⟩
  clear NB1 RB1 bw1 b0;refine qc (i:=0) (v:=?_) rfl (by kernel_rfl) (fun _ _ _ _ h=>h) (by kernel_rfl) S0 ?_ ?_
  rotate_left
  ·rintro w' ⟨⟨s1,s2,s3⟩,s4,s5⟩;have hlk:=s5.look xS (QG w') hwf.out false
   rw[hm.out] at hlk;simp only[xM,xI,XJ] at hlk;dsimp only[nv] at hlk;go_simp;try with_reducible rfl
  try simp only[qA6,Act.put,qB6]
  refine qc (i:=1) (v:=?_) rfl (by kernel_rfl) (fun _ _ _ _ h=>h) (by kernel_rfl) S0 ?_ ?_
  rotate_left
  ·rintro w' ⟨⟨s1,s2,s3⟩,s4,s5⟩;have hlk:=s5.look xS (QG w') hwf.out false
   rw[hm.out] at hlk;simp only[xM,xI,XJ] at hlk;dsimp only[nv] at hlk;go_simp;try with_reducible rfl
  try simp only[qA6,Act.put,qB6]
  refine qc (i:=2) (v:=?_) rfl (by kernel_rfl) (fun _ _ _ _ h=>h) (by kernel_rfl) S0 ?_ ?_
  rotate_left
  ·rintro w' ⟨⟨s1,s2,s3⟩,s4,s5⟩;have hlk:=s5.look xS (QG w') hwf.out false
   rw[hm.out] at hlk;simp only[xM,xI,XJ] at hlk;dsimp only[nv] at hlk;go_simp;try with_reducible rfl
  try simp only[qA6,Act.put,qB6]
  refine qc (i:=3) (v:=?_) rfl (by kernel_rfl) (fun _ _ _ _ h=>h) (by kernel_rfl) S0 ?_ ?_
  rotate_left
  ·rintro w' ⟨⟨s1,s2,s3⟩,s4,s5⟩;have hlk:=s5.look xS (QG w') hwf.out false
   rw[hm.out] at hlk;simp only[xM,xI,XJ] at hlk;dsimp only[nv] at hlk;go_simp;try with_reducible rfl
  try simp only[qA6,Act.put,qB6]
  refine qc (i:=4) (v:=?_) rfl (by kernel_rfl) (fun _ _ _ _ h=>h) (by kernel_rfl) S0 ?_ ?_
  rotate_left
  ·rintro w' ⟨⟨s1,s2,s3⟩,s4,s5⟩;have hlk:=s5.look xS (QG w') hwf.out false
   rw[hm.out] at hlk;simp only[xM,xI,XJ] at hlk;dsimp only[nv] at hlk;go_simp;try with_reducible rfl
  try simp only[qA6,Act.put,qB6]
  refine qc (i:=5) (v:=?_) rfl (by kernel_rfl) (fun _ _ _ _ h=>h) (by kernel_rfl) S0 ?_ ?_
  rotate_left
  ·rintro w' ⟨⟨s1,s2,s3⟩,s4,s5⟩;have hlk:=s5.look xS (QG w') hwf.out false
   rw[hm.out] at hlk;simp only[xM,xI,XJ] at hlk;dsimp only[nv] at hlk;go_simp;try with_reducible rfl
  try simp only[qA6,Act.put,qB6]
  refine qc (i:=6) (v:=?_) rfl (by kernel_rfl) (fun _ _ _ _ h=>h) (by kernel_rfl) S0 ?_ ?_
  rotate_left
  ·rintro w' ⟨⟨s1,s2,s3⟩,s4,s5⟩;have hlk:=s5.look xS (QG w') hwf.out false
   rw[hm.out] at hlk;simp only[xM,xI,XJ] at hlk;dsimp only[nv] at hlk;go_simp;try with_reducible rfl
  try simp only[qA6,Act.put,qB6]
  refine qc (i:=7) (v:=?_) rfl (by kernel_rfl) (fun _ _ _ _ h=>h) (by kernel_rfl) S0 ?_ ?_
  rotate_left
  ·rintro w' ⟨⟨s1,s2,s3⟩,s4,s5⟩;have hlk:=s5.look xS (QG w') hwf.out false
   rw[hm.out] at hlk;simp only[xM,xI,XJ] at hlk;dsimp only[nv] at hlk;go_simp;try with_reducible rfl
  try simp only[qA6,Act.put,qB6]
  refine qc (i:=8) (v:=?_) rfl (by kernel_rfl) (fun _ _ _ _ h=>h) (by kernel_rfl) S0 ?_ ?_
  rotate_left
  ·rintro w' ⟨⟨s1,s2,s3⟩,s4,s5⟩;have hlk:=s5.look xS (QG w') hwf.out false
   rw[hm.out] at hlk;simp only[xM,xI,XJ] at hlk;dsimp only[nv] at hlk;go_simp;try with_reducible rfl
  try simp only[qA6,Act.put,qB6]
  refine qc (i:=9) (v:=?_) rfl (by kernel_rfl) (fun _ _ _ _ h=>h) (by kernel_rfl) S0 ?_ ?_
  rotate_left
  ·rintro w' ⟨⟨s1,s2,s3⟩,s4,s5⟩;have hlk:=s5.look xS (QG w') hwf.out false
   rw[hm.out] at hlk;simp only[xM,xI,XJ] at hlk;dsimp only[nv] at hlk;go_simp;try with_reducible rfl
  try simp only[qA6,Act.put,qB6]
  refine qc (i:=10) (v:=?_) rfl (by kernel_rfl) (fun _ _ _ _ h=>h) (by kernel_rfl) S0 ?_ ?_
  rotate_left
  ·rintro w' ⟨⟨s1,s2,s3⟩,s4,s5⟩;have hlk:=s5.look xS (QG w') hwf.out false
   rw[hm.out] at hlk;simp only[xM,xI,XJ] at hlk;dsimp only[nv] at hlk;go_simp;try with_reducible rfl
  try simp only[qA6,Act.put,qB6]
  refine qc (i:=11) (v:=?_) rfl (by kernel_rfl) (fun _ _ _ _ h=>h) (by kernel_rfl) S0 ?_ ?_
  rotate_left
  ·rintro w' ⟨⟨s1,s2,s3⟩,s4,s5⟩;have hlk:=s5.look xS (QG w') hwf.out false
   rw[hm.out] at hlk;simp only[xM,xI,XJ] at hlk;dsimp only[nv] at hlk;go_simp;try with_reducible rfl
  try simp only[qA6,Act.put,qB6]
  refine qc (i:=12) (v:=?_) rfl (by kernel_rfl) (fun _ _ _ _ h=>h) (by kernel_rfl) S0 ?_ ?_
  rotate_left
  ·rintro w' ⟨⟨s1,s2,s3⟩,s4,s5⟩;have hlk:=s5.look xS (QG w') hwf.out false
   rw[hm.out] at hlk;simp only[xM,xI,XJ] at hlk;dsimp only[nv] at hlk;go_simp;try with_reducible rfl
  try simp only[qA6,Act.put,qB6]
  refine qc (i:=13) (v:=?_) rfl (by kernel_rfl) (fun _ _ _ _ h=>h) (by kernel_rfl) S0 ?_ ?_
  rotate_left
  ·rintro w' ⟨⟨s1,s2,s3⟩,s4,s5⟩;have hlk:=s5.look xS (QG w') hwf.out false
   rw[hm.out] at hlk;simp only[xM,xI,XJ] at hlk;dsimp only[nv] at hlk;go_simp;try with_reducible rfl
  try simp only[qA6,Act.put,qB6]
  refine qc (i:=14) (v:=?_) rfl (by kernel_rfl) (fun _ _ _ _ h=>h) (by kernel_rfl) S0 ?_ ?_
  rotate_left
  ·rintro w' ⟨⟨s1,s2,s3⟩,s4,s5⟩;have hlk:=s5.look xS (QG w') hwf.out false
   rw[hm.out] at hlk;simp only[xM,xI,XJ] at hlk;dsimp only[nv] at hlk;go_simp;try with_reducible rfl
  try simp only[qA6,Act.put,qB6]
  refine qc (i:=15) (v:=?_) rfl (by kernel_rfl) (fun _ _ _ _ h=>h) (by kernel_rfl) S0 ?_ ?_
  rotate_left
  ·rintro w' ⟨⟨s1,s2,s3⟩,s4,s5⟩;have hlk:=s5.look xS (QG w') hwf.out false
   rw[hm.out] at hlk;simp only[xM,xI,XJ] at hlk;dsimp only[nv] at hlk;go_simp;try with_reducible rfl
  try simp only[qA6,Act.put,qB6]
  refine zM 16 17 (by kernel_rfl) ?_ ?_
  ·refine qi rfl (by kernel_rfl) fun K' hK'=>?_
   refine qk 60 _ _ (by rfl) _ (by simp[Act.eval]) (Tryz.call60 _ _) (IH.out c0 bwc) ?_
   rintro e u1 ⟨kv',vv',dv',av',ns',rfl,r1,r2,r3,r4,r5⟩;have Q1:=HCA.out u1 av' ns' r5 r2
   refine⟨_,rfl,hK' _ _ Q1.1 ?_⟩;clear hK' K';try simp only[qA6,Act.put,qB6]
   obtain⟨S1,n1,n2,kr1⟩:=Q1;obtain⟨ka',kc',va',vc',da',dc',rfl,rfl,rfl⟩:=r1.rd.slices;dsimp only[nv];try simp only[qA6,Act.put,qB6]
   refine qr 17 (by kernel_rfl) ?_
   refine qi rfl (by kernel_rfl) fun K' hK'=>?_
   go_simp;obtain⟨d2,hc2,E2,q2,s2⟩:=qf u1 #[.bool false,.slice none 0 0,.slice none 0 0,.slice none 0 0] 84;rw[<-hc2];obtain⟨g12,hg12⟩:∃ q,q=u1.heap.size:=⟨_,rfl⟩;rw[<-hg12] at E2 |-
   have RR:R4 B gc g next m MM AD n (.slice ka KN kc) (.slice va VN vc) (.slice (some ⟨db,dO,none⟩) Z dc) w (S4 g12 d2 (.bool MM.leaf) (.slice ka' MM.keys.length kc') (.slice va' MM.vals.length vc') (.slice da' MM.kids.length dc')) g12 (.slice ka' MM.keys.length kc') (.slice va' MM.vals.length vc') (.slice da' MM.kids.length dc') av' ns':=by
    have z:R4 B gc g next m ⟨false,[],[],[]⟩ AD n (.slice ka KN kc) (.slice va VN vc) (.slice (some ⟨db,dO,none⟩) Z dc) w d2 g12 (.slice none 0 0) (.slice none 0 0) (.slice none 0 0) av' ns' :=
     ⟨E2,(OwnN.nil 0 _ _).rdk,r2.to q2,r3.to q2,r4,kr1.then (KCh.of q2 (xi hB kr1.size)),(q2.block _ (xa n1)).trans n1,(q2.block _ (xa n2)).trans n2,by have:=xa n2;omega,fun b hb=>⟨by have:=(xo r2.row b hb).2;omega,by have:=r5.row b hb;have:=xa NB0;omega,by have:=r5.row b hb;have:=xa RB0;omega⟩⟩
    exact z.put hB hgcw hgw (r1.to q2)
   have FN:=qa RR
   refine hK' _ _ (HS2.out u1 d2 S1 q2) ?_;clear hK' K';try simp only[qA6,Act.put,qB6]
   replace hg12:=qa hg12;refine qT (by kernel_rfl) ?_
   show wpList _ _ _ _ _ _
   obtain⟨⟨y0,y1,y2,y3⟩,yf⟩:=qb E2;dsimp only[List.drop];clear RR n1 n2 kr1 E2 q2 s2 hc2 r1 r2 r3 r4 r5 S1
   go_wp2_with fail
   go_meet
   exact⟨g12,_,_,_,av',ns',rfl,FN⟩
  refine qi rfl (by kernel_rfl) fun K' hK'=>?_
  go_simp;obtain⟨d2,hc2,E2,q2,s2⟩:=qf c0 #[.bool false,.slice none 0 0,.slice none 0 0,.slice none 0 0] 84;rw[<-hc2];obtain⟨g12,hg12⟩:∃ q,q=c0.heap.size:=⟨_,rfl⟩;rw[<-hg12] at E2 |-;have bwd:=bwc.trans (q2.mono bwc.size)
  refine hK' _ _ (HS2.out c0 d2 S0 q2) ?_;clear hK' K';try simp only[qA6,Act.put,qB6]
  have NB2:=(q2.block _ (xa NB0)).trans NB0
  have RB2:=(q2.block _ (xa RB0)).trans RB0
  have l12:w.heap.size+1<g12:=by have:=xa RB0;omega
  have h12:g12<d2.heap.size:=xa E2
  replace hg12:=qa hg12;clear hc2 s2
  have HCB:Hid (∀ u1 av' ns',KRb B gc m av' d2 u1->ChI B u1 gc g next av' ns'->((u1.cell? ⟨gc,0,none⟩=some (.pointer (some ⟨g,0,none⟩))/\u1.cell? ⟨g,3,none⟩=some (.map (some bm))/\u1.cell? ⟨w.heap.size,3,none⟩=some (.slice (some ⟨db,dO,none⟩) Z dc))/\u1.cell? ⟨db,dO+kx,none⟩=some (.int .i64 X.2)/\MapI u1 bm k m)/\u1.heap[w.heap.size]?=some (.cells #[.bool false,.slice ka KN kc,.slice va VN vc,.slice (some ⟨db,dO,none⟩) Z dc] 84 (0,0))/\u1.heap[w.heap.size+1]?=some (.cells #[.bool false,.slice none 0 0,.slice none 0 0,.slice none 0 0] 84 (0,0))/\KRb B gc m av' w u1/\u1.heap[g12]?=some (.cells #[.bool false,.slice none 0 0,.slice none 0 0,.slice none 0 0] 84 (0,0))):=fun u1 av' ns' r5 r2=>by
   have n1:=(r5.keep _ (xa NB2) (by omega) (HNL.out _ (xc _))).trans NB2
   exact⟨HS.out u1 (KRb.first bwd hB r5) r2 (qb n1).1.2.2.2,n1,(r5.keep _ (xa RB2) (by omega) (HNL.out _ (by omega))).trans RB2,KRb.first bwd hB r5,(r5.keep _ h12 (by omega) (HNL.out _ (by omega))).trans E2⟩
  refine qr 16 (by kernel_rfl) ?_
  refine qi rfl (by kernel_rfl) fun K' hK'=>?_
  refine qk 60 _ _ (by rfl) _ (by simp[Act.eval]) (Tryz.call60 _ _) (IH.out d2 bwd) ?_
  rintro e u1 ⟨kv',vv',dv',av',ns',rfl,r1,r2,r3,r4,r5⟩;have Q1:=HCB.out u1 av' ns' r5 r2
  refine⟨_,rfl,hK' _ _ Q1.1 ?_⟩;clear hK' K' HCB;try simp only[qA6,Act.put,qB6]
  obtain⟨S1,n1,n2,kr1,E3⟩:=Q1;obtain⟨ka',kc',va',vc',da',dc',rfl,rfl,rfl⟩:=r1.rd.slices
  have RR:R4 B gc g next m MM AD n (.slice ka KN kc) (.slice va VN vc) (.slice (some ⟨db,dO,none⟩) Z dc) w (S4 g12 u1 (.bool MM.leaf) (.slice ka' MM.keys.length kc') (.slice va' MM.vals.length vc') (.slice da' MM.kids.length dc')) g12 (.slice ka' MM.keys.length kc') (.slice va' MM.vals.length vc') (.slice da' MM.kids.length dc') av' ns':=by
   have z:R4 B gc g next m ⟨false,[],[],[]⟩ AD n (.slice ka KN kc) (.slice va VN vc) (.slice (some ⟨db,dO,none⟩) Z dc) w u1 g12 (.slice none 0 0) (.slice none 0 0) (.slice none 0 0) av' ns' :=
    ⟨E3,(OwnN.nil 0 _ _).rdk,r2,r3,r4,kr1,n1,n2,l12,fun b hb=>⟨by have:=r5.row b hb;omega,by have:=r5.row b hb;have:=xa NB2;omega,by have:=r5.row b hb;have:=xa RB2;omega⟩⟩
   exact z.put hB hgcw hgw r1
  have FN:=qa RR
  dsimp only[nv];try simp only[qA6,Act.put,qB6]
  refine qT (by kernel_rfl) ?_
  show wpList _ _ _ _ _ _
  obtain⟨⟨y0,y1,y2,y3⟩,yf⟩:=qb E3;dsimp only[List.drop];clear RR n1 n2 kr1 E2 E3 q2 r1 r2 r3 r4 r5 S1 NB2 RB2
  go_wp2_with fail
  go_meet
  exact⟨g12,_,_,_,av',ns',rfl,FN⟩
 case rest =>
 obtain⟨g12,kv',vv',dv',av',ns',rfl,hR⟩:=hcut;obtain⟨ka',kc',va',vc',da',dc',rfl,rfl,rfl⟩:=hR.out.rd.rd.slices;have KB:=qa (vD wc MM _ (.slice va' MM.vals.length vc') (.slice da' MM.kids.length dc') hR.out.rd.rd.keys ⟨rfl,rfl⟩)
 obtain⟨⟨y0,y1,y2,y3⟩,yf⟩:=qb hR.out.b12;have g1:IntKind.i64.wrap ((kx:Int)+1)=(kx:Int)+1:=xB _ (by have:=hkids.out;omega)
 dsimp only[nv] at KB
 go_wp2_with fail
 refine KB.out.mono ?_;rintro e w2 ⟨rfl,b2⟩;have R2:=qa (hR.out.to b2 hB)
 have hbb:Hid ((!MM.leaf&&decide (MM.keys.length=0))=zN MM):=rfl
 rw[hbb.out];clear KB y0 y1 y2 y3 yf b2 hR
 go_upto_if 52 with fail
 go_cut [13,14] from 52 to 63 (fun f t wx=>∃ (jk jv jd:Value),f=.int .i64 (rbF kx MM:Int)/\t=.int .i64 (rbT kx MM:Int)/\Hid (R4 B gc g next m (rbJ l n kx MM) AD n (.slice ka KN kc) (.slice va VN vc) (.slice (some ⟨db,dO,none⟩) Z dc) w wx g12 jk jv jd av' ns'))
 case first =>
  cases hb:zN MM with
  | false =>
   have q1:Hid (rbF kx MM=kx/\rbT kx MM=kx+1/\rbJ l n kx MM=MM):=by
    unfold rbF rbT rbJ;rw[hb];exact⟨rfl,rfl,rfl⟩
   replace hb:=qa hb
   go_wp2_with fail
   go_meet
   refine⟨.slice ka' MM.keys.length kc',.slice va' MM.vals.length vc',.slice da' MM.kids.length dc',by rw[q1.out.1],by rw[q1.out.2.1];push_cast;rfl,?_⟩
   rw[q1.out.2.2];exact R2
  | true =>
   have NR:=HN.out.krb HNR.out R2.out.kr HH.out.box
   have SS:=HS.out w2 R2.out.kr R2.out.ch (qb R2.out.nb).1.2.2.2
   have CM:ChM w2 gc g bm k m:=⟨SS.1.1,SS.1.2.1,SS.2.2⟩
   obtain⟨e0,b0,hde,hx1,hx2,hb2,hx3⟩:=YM hsh.out hb;have W:=HW.out
   clear hde hx1 hx2 hx3;by_cases hk1:kx=0
   ·skip
    subst hk1;obtain⟨c,hc1⟩:∃ c,(P++[X]++S)[1]?=some c:=⟨_,xg (by have:=W.two;omega)⟩
    obtain⟨sb,sk,sv,sd,sis,slf,sm,swf,sR,sL⟩:=hsib.out 1 c hb hc1;have SR:=sR.krb sL R2.out.kr HH.out.box
    have hsl:ShOk sb:=(show ShN 1 sb from by
     obtain⟨q1,q2,q3⟩:=ZD sis.ok slf;exact⟨brs sb,q1,by unfold brs;simp,q2.1,by have:=sis.ok.2.2.2.2;omega⟩).ok
    have KJ:=qa (qdr w2 gc g bm k m n MM sb (.slice ka KN kc) (.slice va VN vc) (.slice (some ⟨db,dO,none⟩) Z dc) _ _ _ sk sv sd 0 c.2 c.1 CM NR.rd R2.out.rd.rd SR.rd (W.sib 1 c hc1).1 swf sm (W.keys 0 c hc1) hb2 (Q9 sis.ok slf) (by have:=(hsh.out.ok).len;omega) (by have:=hsl.len;omega) (by rw[hZ.out];have:=hkids.out;omega))
    obtain⟨JJ,hJJ⟩:∃ J,J=inr (brs MM++(c.1,sb.kids.headD 0)::(brs sb).tail):=⟨_,rfl⟩;rw[<-hJJ] at KJ
    have q1:Hid (rbF 0 MM=0/\rbT 0 MM=0+2/\rbJ l n 0 MM=JJ):=by
     unfold rbF rbT rbJ;rw[xj hb,xj hb,xj hb,hJJ];exact⟨by omega,by omega,qky (W.sib 1 c hc1).1 (W.keys 0 c hc1) sis⟩
    obtain⟨⟨y0,y1,y2,y3⟩,yf⟩:=qb R2.out.b12;obtain⟨⟨n0,n1,n2,n3⟩,nf⟩:=qb R2.out.nb;have hJl:Hid (JJ.leaf=false):=by show _=_;rw[hJJ];rfl
    dsimp only[nv] at KJ;rw[HLF.out] at KJ
    (try rw[show ((0:Nat):Int)=0 from rfl] at KJ)
    replace hJJ:=qa hJJ;replace hb:=qa hb;have m1:IntKind.i64.wrap (-1) = -1:=by decide
    clear sR SR hsl NR CM W sis slf sm swf sL hc1 hb2 SS
    go_wp2_with fail
    refine KJ.out.mono ?_;rintro e w3 ⟨kj,dj,rfl,oJ,bJ⟩;have Rb:=R2.out.to bJ hB
    have RJ:=qa (Rb.put hB hgcw hgw oJ.rdk)
    obtain⟨⟨z0,z1,z2,z3⟩,zf⟩:=qb Rb.b12;obtain⟨kja,kjc,hkj⟩:=oJ.keys.rd.slice;obtain⟨dja,djc,hdj⟩:=oJ.kids.rd.slice;subst hkj hdj;dsimp only[nv];clear KJ y0 y1 y2 y3 yf n0 n1 n2 n3 nf Rb oJ bJ
    go_wp2_with fail
    go_meet
    refine⟨.slice kja JJ.keys.length kjc,.slice none 0 0,.slice dja JJ.kids.length djc,by rw[q1.out.1];rfl,by rw[q1.out.2.1];push_cast;rfl,?_⟩
    rw[q1.out.2.2];exact RJ
   skip
   obtain⟨i,rfl⟩:∃ i,kx=i+1:=⟨kx-1,by omega⟩
   obtain⟨c,hc1⟩:∃ c,(P++[X]++S)[i]?=some c:=⟨_,xg (by have:=W.len;simp;omega)⟩
   have hcX:(P++[X]++S)[i+1]?=some X:=by rw[xz,xY (by rw[W.len];exact xc _),W.len];simp
   obtain⟨sb,sk,sv,sd,sis,slf,sm,swf,sR,sL⟩:=hsib.out i c hb hc1;have SR:=sR.krb sL R2.out.kr HH.out.box
   have hsl:ShOk sb:=(show ShN 1 sb from by
    obtain⟨q1,q2,q3⟩:=ZD sis.ok slf;exact⟨brs sb,q1,by unfold brs;simp,q2.1,by have:=sis.ok.2.2.2.2;omega⟩).ok
   have KJ:=qa (qfj w2 gc g bm k m n MM sb (.slice ka KN kc) (.slice va VN vc) (.slice (some ⟨db,dO,none⟩) Z dc) _ _ _ sk sv sd i c.2 X.1 CM NR.rd R2.out.rd.rd SR.rd (W.sib i c hc1).1 swf sm (W.keys i X hcX) hb2 (Q9 sis.ok slf) (by have:=(hsh.out.ok).len;omega) (by have:=hsl.len;omega) (by rw[hZ.out];have:=hkids.out;omega))
   obtain⟨JJ,hJJ⟩:∃ J,J=inr (brs sb++(X.1,MM.kids.headD 0)::(brs MM).tail):=⟨_,rfl⟩;rw[<-hJJ] at KJ
   have q1:Hid (rbF (i+1) MM=i/\rbT (i+1) MM=i+2/\rbJ l n (i+1) MM=JJ):=by
    unfold rbF rbT rbJ;rw[xj hb,xj hb,xj hb,hJJ];exact⟨by omega,by omega,qkp (W.sib i c hc1).1 (W.keys i X hcX) sis⟩
   obtain⟨⟨y0,y1,y2,y3⟩,yf⟩:=qb R2.out.b12;obtain⟨⟨n0,n1,n2,n3⟩,nf⟩:=qb R2.out.nb;have hJl:Hid (JJ.leaf=false):=by show _=_;rw[hJJ];rfl
   dsimp only[nv] at KJ;rw[HLF.out] at KJ
   (try rw[show ((0:Nat):Int)=0 from rfl] at KJ)
   replace hJJ:=qa hJJ;replace hb:=qa hb;have m1:IntKind.i64.wrap (i:Int)=(i:Int):=xB _ (by have:=hkids.out;omega)
   have m2:¬ (i:Int)<0:=by omega
   have m3:IntKind.i64.wrap ((i:Int)+2)=(i:Int)+2:=xB _ (by have:=hkids.out;omega)
   clear sR SR hsl NR CM W sis slf sm swf sL hc1 hcX hb2 SS
   go_wp2_with fail
   refine KJ.out.mono ?_;rintro e w3 ⟨kj,dj,rfl,oJ,bJ⟩;have Rb:=R2.out.to bJ hB
   have RJ:=qa (Rb.put hB hgcw hgw oJ.rdk)
   obtain⟨⟨z0,z1,z2,z3⟩,zf⟩:=qb Rb.b12;obtain⟨kja,kjc,hkj⟩:=oJ.keys.rd.slice;obtain⟨dja,djc,hdj⟩:=oJ.kids.rd.slice;subst hkj hdj;dsimp only[nv];clear KJ y0 y1 y2 y3 yf n0 n1 n2 n3 nf Rb oJ bJ
   go_wp2_with fail
   go_meet
   refine⟨.slice kja JJ.keys.length kjc,.slice none 0 0,.slice dja JJ.kids.length djc,by rw[q1.out.1],by rw[q1.out.2.1];push_cast;rfl,?_⟩
   rw[q1.out.2.2];exact RJ
 case rest =>
 obtain⟨jk,jv,jd,rfl,rfl,hJ⟩:=hcut
 have HF:Hid ((rbF kx MM<rbT kx MM/\rbT kx MM<=(brs n).length)/\rbF kx MM<(brs n).length):=by
  have h2:=HW.out.two
  have h3:(brs n).length=(P++[X]++S).length:=by rw[HW.out.brs]
  have h4:=hbrl.out
  show (_/\_)/\_
  unfold rbF rbT
  split<;>omega
 have SJ:Hid (ShN d (rbJ l n kx MM)):=by
  show ShN _ _
  unfold rbJ
  split
  ·exact qgg HW.out hsh.out (by assumption)
  exact hsh.out
 obtain⟨fr,hfr⟩:∃ x,rbF kx MM=x:=⟨_,rfl⟩;obtain⟨tt,htt⟩:∃ x,rbT kx MM=x:=⟨_,rfl⟩;obtain⟨JJ,hJJ⟩:∃ x,rbJ l n kx MM=x:=⟨_,rfl⟩;rw[hfr,htt] at HF;rw[hfr,htt,hJJ] at hreb;rw[hJJ] at SJ hJ;rw[hfr,htt];replace hfr:=qa hfr;replace htt:=qa htt;replace hJJ:=qa hJJ;obtain⟨y,hy⟩:∃ y,(brs n)[fr]?=some y:=⟨_,xg HF.out.2⟩;have hyD:(brs n).getD fr ([],0)=y:=by rw[xe,hy];rfl
 rw[hyD] at hreb;replace hy:=qa hy;replace hyD:=qa hyD
 have hBl:Hid ((brs n).length<=201):=by
  have h1:=hbrl.out
  have h2:=hkids.out
  show _<=_
  omega
 obtain⟨BL,hBL⟩:∃ x,x=(brs n).length:=⟨_,rfl⟩;rw[<-hBL] at HF hBl
 have hnl:Hid (ns'.length<=900):=by
  have h1:=(Yt l next key ed d nd []).2
  rw[<-hAD.out,<-hJ.out.eq,Xe] at h1;show _<=_
  simp at h1;omega
 have NR:=HN.out.krb HNR.out hJ.out.kr HH.out.box
 have KBr:=qa (yn wc n _ _ _ NR.rd (by rw[hZ.out,hKN.out];exact hkids.out) (by rw[hKN.out];omega))
 obtain⟨⟨n0,n1,n2,n3⟩,nf⟩:=qb hJ.out.nb;obtain⟨jka,jkc,jva,jvc,jda,jdc,hjk,hjv,hjd⟩:=hJ.out.rd.rd.slices;subst hjk hjv hjd;dsimp only[nv] at KBr;rw[HLF.out] at KBr;replace hBL:=qa hBL;clear NR
 go_wp2_with fail
 refine KBr.out.mono ?_;rintro e w3 ⟨vb,rfl,oB,b3⟩;have R3:=qa (hJ.out.to b3 hB)
 obtain⟨gb,cb,hvb,hgb,y1,y2,yf⟩:=oB.at hy.out;rw[<-hBL.out] at hvb;subst hvb;have OB:=qa oB
 have hgb3:gb<w3.heap.size:=qe y1
 have hCC:Hid (w.heap.size+1<wc.heap.size):=xa hJ.out.rb
 have hav:Hid (∀ b,av'.ownBlock=some b->b<wc.heap.size):=fun b hb=>(xo hJ.out.ch.row b hb).2
 have y1':=qa y1
 clear KBr n0 n1 n2 n3 nf oB y1 y2 yf;have f1:fr<BL:=HF.out.2
 go_upto_region 11 with fail
 have bd:Below w3.heap.size w3 w3.drew:=qg w3 1 _
 have R3':=qa (R3.out.to bd hB)
 have KL:=qa (qbv B w3.drew gc g next av' ns' JJ _ _ _ y.1 R3'.out.ch R3'.out.al (xi (xi hB R3.out.kr.size) bd.size) (fun b hb=>by have:=R3.out.kr.row b hb;omega) hgc hnl.out hnx R3'.out.rd SJ.out.ok)
 have S0:((w3.drew.cell? ⟨g12,0,none⟩=some (.bool JJ.leaf)/\w3.drew.cell? ⟨g12,1,none⟩=some (.slice jka JJ.keys.length jkc)/\w3.drew.cell? ⟨g12,2,none⟩=some (.slice jva JJ.vals.length jvc)/\w3.drew.cell? ⟨g12,3,none⟩=some (.slice jda JJ.kids.length jdc))/\w3.drew.cell? ⟨gb,fr*2,none⟩=some (st y.1)):=⟨(qb R3'.out.b12).1,(bd.cell hgb3).trans y1'.out⟩
 refine qN (fun w9=>(w9.cell? ⟨g12,0,none⟩=some (.bool JJ.leaf)/\w9.cell? ⟨g12,1,none⟩=some (.slice jka JJ.keys.length jkc)/\w9.cell? ⟨g12,2,none⟩=some (.slice jva JJ.vals.length jvc)/\w9.cell? ⟨g12,3,none⟩=some (.slice jda JJ.kids.length jdc))/\w9.cell? ⟨gb,fr*2,none⟩=some (st y.1)) [(0,true),(1,true),(2,true),(3,true),(4,true),(5,true),(6,true),(7,false)] 8 qG (by kernel_rfl) (fun _ _ _ _ h=>h) ?_
 iterate 7
  refine Qj (v:=?_) rfl (by kernel_rfl) S0 ?_ ?_
  rotate_left
  ·rintro w9 ⟨⟨s1,s2,s3,s4⟩,s5⟩;go_simp;try with_reducible rfl
  try simp only[qA6,Act.put,qB6]
 refine qL rfl (by kernel_rfl) fun K hK=>?_
 refine qk 81 _ _ (by rfl) _ (by simp[Act.eval]) (Tryz.call81 _ _) KL.out ?_
 rintro e w4 ⟨u,av2,more,rfl,nw,c4,al4,e4,k4,ng4⟩;have hkk:Hid (∀ b,b<w3.heap.size->b≠gc->av'.ownBlock≠some b->w4.heap[b]?=w3.drew.heap[b]?):=fun b h1 h2 h3=>k4.keep b (xV h1 bd.size) h2 h3
 have hg12:g12<w3.heap.size:=xa R3.out.b12
 have S4':((w4.cell? ⟨g12,0,none⟩=some (.bool JJ.leaf)/\w4.cell? ⟨g12,1,none⟩=some (.slice jka JJ.keys.length jkc)/\w4.cell? ⟨g12,2,none⟩=some (.slice jva JJ.vals.length jvc)/\w4.cell? ⟨g12,3,none⟩=some (.slice jda JJ.kids.length jdc))/\w4.cell? ⟨gb,fr*2,none⟩=some (st y.1)):=by
  have e1:=hkk.out g12 hg12 (by have:=R3.out.l12;omega) (fun e=>(R3.out.na _ e).1 rfl)
  have e2:=hkk.out gb hgb3 (by have:=hCC.out;omega) (fun e=>by have:=hav.out _ e;omega)
  obtain⟨⟨q1,q2,q3,q4⟩,q5⟩:=S0;simp only[World.cell?] at q1 q2 q3 q4 q5 |-;rw[e1,e2];exact⟨⟨q1,q2,q3,q4⟩,q5⟩
 refine⟨_,rfl,hK _ _ S4' ?_⟩;clear hK K S4' S0 KL;try simp only[qA6,Act.put,qB6]
 have O4:Hid (OwnBr wc.heap.size w4 (.slice (some ⟨gb,0,none⟩) BL cb) (brs n)):=qJ (qB OB.out bd) fun b hb=>by
  cases hb
  exact hkk.out gb hgb3 (by have:=hCC.out;omega) (fun e=>by have:=hav.out _ e;omega)
 have hMp:ns'.map (·.1)=AD:=R3.out.eq
 rw[hMp] at nw e4;obtain⟨NW,hNW⟩:∃ x,(qC next AD JJ y.1).1=x:=⟨_,rfl⟩
 have hN2:Hid (NW.length<=2):=by
  have:=(jr SJ.out next AD y.1).1
  rw[hNW] at this;exact this
 rw[hNW] at nw hreb
 have KP:=qa (qj0 wc.heap.size w4 (.slice (some ⟨gb,0,none⟩) BL cb) u (brs n) NW fr tt O4.out (by have h1:=k4.size;have h2:=bd.size;have h3:=hgb;omega) (by
  rcases nw with nw|⟨gn,q1,q2,q3,q4⟩
  ·exact .inl nw
  refine .inr ⟨gn,q1,q2,q3,fun b hb=>?_⟩;have hb':gb=b:=k9 hb
  have:=bd.size
  omega) hN2.out HF.out.1.1 (by rw[<-hBL.out];exact HF.out.1.2) (by have:=hBl.out;rw[<-hBL.out];omega))
 have FI:=qa (fun(w5 w6:World) (kI dI:Value) (M':Nd) (gr:w4.grownBy w5 (some gb)) (b6:Below w5.heap.size w5 w6) (oI:OwnN w5.heap.size w6 kI (.slice none 0 0) dI M') (hM:M'.leaf=false)=>R3'.out.fin hB hgcw hgw hCC.out hav.out hgb (xV hgb3 bd.size) k4 c4 al4 e4 O4.out gr b6 oI hM)
 have hrl:Hid ((zk (brs n) fr tt NW).length<=1000):=by
  have h1:(zk (brs n) fr tt NW).length<=(brs n).length+NW.length+(brs n).length:=by
   unfold zk;simp only[xk,xp,xE];omega
  have h2:=hN2.out
  have h3:=hBl.out
  have h4:=hBL.out
  show _<=_
  omega
 replace hNW:=qa hNW;replace hMp:=qa hMp;clear nw e4 k4 c4 al4 ng4 hkk;show wpList _ _ _ _ _ _
 dsimp only[List.drop]
 go_wp2_with fail
 refine KP.out.mono ?_;rintro e w5 ⟨v5,rfl,o5,gr⟩;have KI:=qa (Yo _ w5 v5 _ o5 hrl.out)
 obtain⟨va5,vc5,hv5⟩:=o5.slice;obtain⟨LL,hLL⟩:∃ x,x=(zk (brs n) fr tt NW).length:=⟨_,rfl⟩;rw[<-hLL] at hv5;subst hv5;have GR:=qa gr
 replace hLL:=qa hLL;clear o5 gr KP
 go_wp2_with fail
 refine KI.out.mono ?_;rintro e w6 ⟨kI,dI,rfl,oI,b6⟩;have FF:=qa (FI.out w5 w6 kI dI _ GR.out b6 oI rfl)
 obtain⟨kia,kic,hki⟩:=oI.keys.rd.slice;obtain⟨dia,dic,hdi⟩:=oI.kids.rd.slice;subst hki hdi;obtain⟨⟨z0,z1,z2,z3⟩,zf⟩:=qb FF.out.1;clear KI oI b6;obtain⟨MI,hMI⟩:∃ M,M=inr (zk (brs n) fr tt NW):=⟨_,rfl⟩;have hMl:MI.leaf=false:=by rw[hMI];rfl
 rw[<-hMI] at FF hreb |-;dsimp only[nv];rw[hMl];replace hMI:=qa hMI;replace hMl:=qa hMl;go_wp2;refine Js rfl rfl (w.heap.size+1) rfl _ _ (0,0) (qu FF.out.1 _ _ _ _) _ xJ rfl Qe ?_;obtain⟨a1,a2,a3,a4,a5,h0,h1,h2,h3,h4,h5⟩:=FF.out.2;unfold RbR;rw[hreb.out];refine⟨a1,a2,a3,a4,a5,?_,h1,h2,h3,h4,h5⟩;rw[<-h0];dsimp only[nv];rw[hMl.out]
def EdCl (B:Nat) (w:World) (F:Nat) (caps:Array Value) (key:Str) (ed:Nd->Nd) (good:List Pr->Prop):Prop :=
 ∀ (u:World) (ps:List Pr) (kv vv dv:Value),Below w.heap.size w u->OwnN B u kv vv dv (lf ps)->Dj kv vv dv->qek ps->qp (lf ps)<=244->good ps ->
  Calls Tryz.prog F (#[nv (lf ps) kv vv dv,.int .i64 (Qf (lf ps) key),.bool (jQ (lf ps) key)]++caps) u fun e u'=>∃ kv' vv' dv',e=.returned (nv (ed (lf ps)) kv' vv' dv')/\OwnN B u' kv' vv' dv' (ed (lf ps))/\KEd B kv vv u u'
theorem EdCl.to {F:Nat} {caps:Array Value} {key:Str} {ed:Nd->Nd} {good:List Pr->Prop} (h:EdCl B w F caps key ed good) (b:Below w.heap.size w w'):EdCl B w' F caps key ed good :=
 fun u ps kv vv dv bu=>h u ps kv vv dv (b.trans (bu.mono b.size))
theorem qgy (h:NdIs l id nd):∀ d,qV l d id=id::nI l d nd
 | 0=>rfl
 | d+1=>by
  show id::(zw l id).kids.flatMap (qV l d)=_
  rw[h.at];rfl
theorem CW.node {m:Int->Option Value} (h:CW w B g bm k l m) {i:Int} (hi:(m i).isSome=true) (hn:NdIs l i nd):∃ kv vv dv,m i=some (nv nd kv vv dv)/\OwnN B w kv vv dv nd/\Dj kv vv dv:=by
 obtain⟨v,hv⟩:=Option.isSome_iff_exists.1 hi;obtain⟨x,nd',kv,vv,dv,h1,h2,rfl,h4,h5⟩:=h.nds i v hv;have e:nd'=nd:=(show NdIs l i nd' from⟨x,h1,h2⟩).at.symm.trans hn.at
 subst e;exact⟨kv,vv,dv,hv,h4,h5⟩
theorem LfB.of {m:Int->Option Value} {i:Int} {dv:Value} (h:m i=some (nv nd kv vv dv)) (hl:nd.leaf=true):∀ b,kv.ownBlock=some b\/vv.ownBlock=some b->LfB m b:=fun b hb=>⟨i,nd,kv,vv,dv,h,hl,hb⟩
theorem qe4 {i:Int} (h:1<=i/\i<=65536):(Lit.int .i64 i).wf=true:=Kv (by omega)
theorem qls (h:NOk n) (hl:n.leaf=false):n.keys.length<=200 :=
 (show ShN 1 n from by
  obtain⟨q1,q2,q3⟩:=ZD h hl;exact⟨brs n,q1,by unfold brs;simp,q2.1,by have:=h.2.2.2.2;omega⟩).ok.len
theorem qf5 {B gc g bm k:Nat} {next:Int} {l:List Wrt} {m:Int->Option Value} {key:Str} {Fn:Nat} {caps:Array Value} {ed:Nd->Nd} {upd:List Pr->List Pr} {good:List Pr->Prop} (hE:EdOk key upd ed) (hgc:gc≠g) (hnx:0<=next/\next<=65536)
 (hG:∀ A X C,(∀ y∈A,slt y.1 key=true)->(∀ y∈C,slt key y.1=true)->good (A++X++C)->good X) (he:∀ args u,(callFunc Fn args).run Tryz.prog u=.ok (.enter Fn args) u) :
 ∀ (d:Nat) (n:Nd) (lo:Str) (hi:Option Str) (w:World) (kv vv dv:Value),d<=20->CW w B g bm k l m->ChI B w gc g next (.slice none 0 0) []->B<=w.heap.size->OwnN B w kv vv dv n->Dj kv vv dv->(n.leaf=true->∀ b,kv.ownBlock=some b\/vv.ownBlock=some b->LfB m b)->(n.leaf=false->∀ b,Z8 (nv n kv vv dv) b->¬ LfB m b)->
  NO l d n lo hi->qp n<=244->(d≠0->n.keys≠[])->(∀ i∈nI l d n,(m i).isSome=true/\1<=i/\i<=65536)->good (nP l d n)->EdCl B w Fn caps key ed good ->
  Calls Tryz.prog 60 #[.pointer (some ⟨gc,0,none⟩),nv n kv vv dv,st key,.func (.func Fn) #[] caps] w fun e w'=>RbR B gc g next l m d key ed n w w' e
 | 0,n,lo,hi,w,kv,vv,dv,hd,hC,hh,hB,hO,hD,hL,hI,hN,hsz,hk0,hid,hgo,hcl=>by
  obtain⟨ps,rfl,hp,hin⟩:=hN
  have hgo':good ps:=by
   have:nP l 0 (lf ps)=ps:=yX ps
   rw[this] at hgo;exact hgo
  refine(qk7 B w gc (lf ps) kv vv dv key Fn caps hB hO.rd (qao hp hsz).fit rfl (ed (lf ps)) (fun u bu=>hcl u ps kv vv dv bu (hO.to bu) hD hp hsz hgo') (fun b hb=>by
   rcases hb with hb|hb
   ·exact(xo hO.keys b hb).2
   exact(xo hO.vals b hb).2) he).mono ?_
  rintro e w' ⟨kv',vv',dv',rfl,o',k'⟩
  have hne:∀ (b:Nat) (cs:Array Value) (T:TypeId) (fr:Nat×Nat),w.heap[b]?=some (.cells cs T fr)->T≠9->w'.heap[b]?=w.heap[b]?:=fun b cs T fr hb hT=>by
   refine k'.keep b (xa hb) (fun e=>?_) (fun e=>?_)
   ·obtain⟨cur,fr',q⟩:=hO.rdk.tk b e;rw[hb] at q;simp only[xr,kF] at q;exact hT q.2.1
   obtain⟨cur,fr',q⟩:=hO.rdk.tv b e;rw[hb] at q;simp only[xr,kF] at q;exact hT q.2.1
  refine⟨kv',vv',dv',.slice none 0 0,[],rfl,o'.rdk,⟨(hne _ _ _ _ hh.box (by decide)).trans hh.box,xA _ _ _ _,?_,hh.hC⟩,fun y hy=>(by cases hy),rfl,⟨fun b h1 h2 h3=>k'.keep b h1 (fun e=>h3 (hL rfl b (.inl e))) (fun e=>h3 (hL rfl b (.inr e))),fun b hb=>(by cases hb),k'.bel,k'.size⟩⟩
  exact(k'.bel.cell hC.hg).trans hh.nxt
 | d+1,n,lo,hi,w,kv,vv,dv,hd,hC,hh,hB,hO,hD,hL,hI,hN,hsz,hk0,hid,hgo,hcl=>by
  obtain⟨kx,P,X,S,nd,lo',hi',W⟩:=qny hN hsz (hk0 (by omega)) key
  have hnl:n.leaf=false:=by rw[hN.leaf];simp
  have hok:NOk n:=hN.ok (hk0 (by omega)) hsz
  have hsm:=W.isn.small W.no
  have hX:X.2∈nI l (d+1) n:=W.ids X.2 (by rw[qgy W.isn];exact XP ..)
  have hXs:=hid X.2 hX
  obtain⟨kk,kvv,kd,hm,oX,dX⟩:=hC.node hXs.1 W.isn;have hshp:=vt (l:=l) (next:=next) hE d nd lo' hi' [] W.no hsm.1 hsm.2
  have hgd:good (nP l d nd):=by
   rw[W.prs] at hgo;exact hG _ _ _ W.lt W.gt hgo
  refine qji B gc g bm k next l m d n kv vv dv key Fn caps ed w kx P X S nd lo' hi' kk kvv kd hC hh hB hgc hnx (by omega) hO.rdk (hI hnl) hok hnl (qls hok hnl) W hm (qe4 hXs.2) ?_ ?_ hshp
  ·intro i b hb hbi;obtain⟨e0,b0,hd0,_⟩:=YM hshp hb;obtain⟨hkid,sb,lo2,hi2,sis,sno⟩:=W.sib i b hbi;have hsl:sb.leaf=false:=by rw[sno.leaf,hd0];simp
   have hbm:b.2∈nI l (d+1) n:=by
    rw[(vE hN).2.2.2.2,W.brs];exact kM.2 ⟨b,xQ hbi,by rw[qgy sis];exact XP ..⟩
   have hbs:=hid b.2 hbm
   obtain⟨sk,sv,sd,sm,so,sdj⟩:=hC.node hbs.1 sis;exact⟨sb,sk,sv,sd,sis,hsl,sm,qe4 hbs.2,so.rdk,fun q hq=>hC.inner sm hsl hq⟩
  intro u bu;refine qf5 hE hgc hnx hG he d nd lo' hi' u kk kvv kd (by omega) (hC.to bu) (hh.to bu) (xi hB bu.size) (oX.to bu) dX (fun hl=>LfB.of hm hl) (fun hl b hb=>hC.inner hm hl hb) W.no hsm.1 hsm.2 (fun i hi9=>hid i (W.ids i (by rw[qgy W.isn];exact Xg _ hi9))) hgd (hcl.to bu)
def RoR (B gc g:Nat) (next:Int) (av:Value) (ns:List NV) (top:Nd) (w w':World) (e:Ending):Prop:=∃ av' more,e=.returned (.int .i64 (zn next (ns.map (·.1)) top).1)/\ChI B w' gc g next av' (ns++more)/\AllK w' (ns++more)/\(ns++more).map (·.1)=(zn next (ns.map (·.1)) top).2/\KCh B gc av av' w w'
theorem qpc {C:Nat} {u:Value} (h:qpp C w u now) (hl:now.length<=1000):OwnBr C w u now:=by
 rcases h with ⟨rfl,rfl⟩|⟨gn,rfl,h1,h2,h3⟩
 ·exact xA _ _ _ _
 exact⟨qS now,.inr ⟨gn,now.length,(bcl now).toArray,rfl,h3,h2,xc _,by unfold maxLen;omega,by simp[qS],by simp[<-qS now]⟩⟩
theorem qjw {next:Int} {top:Nd} (h:zN top=true):zn next ad top=(top.kids.headD 0,ad):=by unfold zn;rw[xj h]
theorem qm3 {next:Int} {top:Nd} (h:zN top=false) (h1:(qC next ad top []).1=[]):zn next ad top=(0,(qC next ad top []).2):=by unfold zn;rw[xh (by rw[h];simp),h1]
theorem qnp {next:Int} {top:Nd} {b:Br} (h:zN top=false) (h1:(qC next ad top []).1=[b]):zn next ad top=(b.2,(qC next ad top []).2):=by unfold zn;rw[xh (by rw[h];simp),h1]
theorem qne {next:Int} {top:Nd} {b c:Br} (h:zN top=false) (h1:(qC next ad top []).1=[b,c]):zn next ad top=(next+((qC next ad top []).2.length:Int),(qC next ad top []).2++[inr [b,c]]):=by unfold zn;rw[xh (by rw[h];simp),h1]
theorem qcz {a b:Int} (h:a=b):Ending.returned (.int .i64 a)=Ending.returned (.int .i64 b):=by rw[h]
theorem qjm (B:Nat) (w:World) (gc g:Nat) (next:Int) (av:Value) (ns:List NV) (top:Nd) (kv vv dv:Value) (d:Nat) (h:ChI B w gc g next av ns) (hA:AllK w ns) (hB:B<=w.heap.size) (hg:∀ b,av.ownBlock=some b->b≠g) (hgc:gc≠g) (hns:ns.length<=800) (hnx:0<=next/\next<=65536) (hr:RdK w kv vv dv top) (hs:ShN d top) :
 Calls Tryz.prog 59 #[.pointer (some ⟨gc,0,none⟩),nv top kv vv dv] w fun e w'=>RoR B gc g next av ns top w w' e:=by
 obtain⟨ka,kc,va,vc,da,dc,rfl,rfl,rfl⟩:=hr.rd.slices;obtain⟨W,hW,DW,bW,sW⟩:=qf w #[.bool top.leaf,.slice ka top.keys.length kc,.slice va top.vals.length vc,.slice da top.kids.length dc] 84;obtain⟨⟨E0,E1,E2,E3⟩,EF⟩:=qb DW;have KB:=qa (vD W top _ (.slice va top.vals.length vc) (.slice da top.kids.length dc) (hr.rd.to bW).keys ⟨rfl,rfl⟩)
 have HW:=qa (h.to bW)
 have HA:=qa (hA.to bW)
 have HK:=qa (KCh.of (gc:=gc) (av:=av) bW hB)
 have HD:=qa DW
 have HR:=qa (hr.to bW)
 have hBW:Hid (B<=W.heap.size):=xi hB bW.size
 replace hg:=qa hg;replace hgc:=qa hgc;replace hs:=qa hs;dsimp only[nv] at KB |-;rw[hW] at E0 E1 E2 E3 EF KB;clear DW bW h hr hB hA;go_enter Tryz.func59,Tryz.ntmps59
 go_wp2_with fail
 refine KB.out.mono ?_;rintro e w1 ⟨rfl,b1⟩;rw[<-hW] at b1;clear E0 E1 E2 E3 EF KB;replace hW:=qa hW;have H1:=qa (HW.out.to b1)
 have A1:=qa (HA.out.to b1)
 have R1:=qa (HR.out.to b1)
 have K1:=qa (HK.out.trans (KCh.of (gc:=gc) (av:=av) b1 hBW.out))
 have D1:=(b1.block _ (xa HD.out)).trans HD.out
 have hB1:Hid (B<=w1.heap.size):=xi hBW.out b1.size
 have hbb:Hid ((!top.leaf&&decide (top.keys.length=0))=zN top):=rfl
 rw[hbb.out];cases hb:zN top with
 | true =>
  obtain⟨e0,b0,hx3,hx1,hx4,hx2,hx5⟩:=YM hs.out hb;clear hx3 hx4 hx5
  have hk0:top.kids[0]?=some b0:=by
   cases hkk:top.kids with
   | nil=>rw[hkk] at hx2;simp at hx2
   | cons a r=>rw[hkk] at hx1;simp at hx1;simp[hx1]
  obtain⟨db,dO,e4,hcd⟩:=(show RdI w1 (.slice da top.kids.length dc) top.kids from R1.out.rd.kids).intAt hk0;subst e4;rw[XK] at hcd;have hkl:0<top.kids.length:=by omega
  have hro:Hid (zn next (ns.map (·.1)) top=(b0,ns.map (·.1))):=by
   show _=_
   rw[qjw hb,hx1]
  obtain⟨⟨E0,E1,E2,E3⟩,EF⟩:=qb D1;generalize top.kids.length=KL at *;replace hb:=qa hb;replace hk0:=qa hk0;replace hx1:=qa hx1;replace hx2:=qa hx2;clear D1 b1;go_wp2;go_ret;exact⟨av,[],qcz (XE Prod.fst hro.out).symm,by rw[xK];exact H1.out,by rw[xK];exact A1.out,by rw[xK,hro.out],K1.out⟩
 | false =>
  have KL:=qa (qbv B w1 gc g next av ns top _ _ _ [] H1.out A1.out hB1.out hg.out hgc.out (by omega) hnx R1.out hs.out.ok)
  have hsl:=qa (jr hs.out next (ns.map (·.1)) [])
  obtain⟨⟨E0,E1,E2,E3⟩,EF⟩:=qb D1;dsimp only[nv] at KL;replace hb:=qa hb;clear D1 b1
  go_wp2_with fail
  refine KL.out.mono ?_;rintro e w2 ⟨u,av2,more,rfl,nw,c2,al2,e2,k2,ng2⟩;have C2:=qa (xb c2 (xb al2 (xb e2 (xb (K1.out.trans k2) ng2))))
  have hB2:Hid (B<=w2.heap.size):=xi hB1.out k2.size
  obtain⟨NW,hNW⟩:∃ x,(qC next (ns.map (·.1)) top []).1=x:=⟨_,rfl⟩
  rw[hNW] at nw;have hN2:NW.length<=2:=by rw[<-hNW];exact hsl.out.1
  clear c2 al2 e2 k2 ng2 KL E0 E1 E2 E3 EF;rcases NW with _|⟨b,_|⟨c,r⟩⟩
  ·obtain rfl:u=.slice none 0 0:=by
    rcases nw with ⟨rfl,_⟩|⟨gn,_,q,_⟩
    ·rfl
    simp at q
   have hro:=qa (qm3 hb.out hNW)
   replace hNW:=qa hNW;clear nw hN2;go_wp2;go_ret;obtain⟨c2,al2,e2,k2,ng2⟩:=C2.out;exact⟨av2,more,qcz (XE Prod.fst hro.out).symm,c2,al2,by rw[e2,hro.out],k2⟩
  ·obtain⟨gn,hu,hgn⟩:∃ gn,u=.slice (some ⟨gn,0,none⟩) 1 1/\w2.heap[gn]?=some (.cells #[st b.1,.int .i64 b.2] 160 (0,0)):=by
    rcases nw with ⟨_,q⟩|⟨gn,q1,q2,q3,q4⟩
    ·simp at q
    exact⟨gn,q1,q3⟩
   subst hu;have q1:=qt hgn (i:=1) rfl
   have hro:=qa (qnp hb.out hNW)
   replace hNW:=qa hNW;clear nw hN2 hgn;go_wp2;go_ret;obtain⟨c2,al2,e2,k2,ng2⟩:=C2.out;exact⟨av2,more,qcz (XE Prod.fst hro.out).symm,c2,al2,by rw[e2,hro.out],k2⟩
  obtain rfl:r=[]:=by
   cases r with
   | nil=>rfl
   | cons a r=>simp at hN2
  obtain⟨gn,hu⟩:∃ gn,u=.slice (some ⟨gn,0,none⟩) 2 2:=by
   rcases nw with ⟨_,q⟩|⟨gn,q1,q2,q3,q4⟩
   ·simp at q
   exact⟨gn,q1⟩
  have KI:=qa (Yo _ w2 u [b,c] (qpc nw (by simp)) (by simp))
  subst hu;have hro:=qa (qne hb.out hNW)
  replace hNW:=qa hNW;clear nw hN2
  go_wp2_with fail
  refine KI.out.mono ?_;rintro e w3 ⟨kI,dI,rfl,oI,b3⟩;obtain⟨c2,al2,e2,k2,ng2⟩:=C2.out
  have hlen:(ns++more).length<=1000:=by
   have h1:=(Ja next (ns.map (·.1)) top []).2
   rw[<-e2,Xe,Xe] at h1;omega
  have KA:=qa (yi B w3 gc g next av2 (ns++more) (inr [b,c]) kI (.slice none 0 0) dI (c2.to b3) (xi hB2.out b3.size) ng2 hgc.out hlen hnx ⟨(by obtain⟨a,c,e⟩:=oI.keys.rd.slice;rw[e];rfl),rfl,(by obtain⟨a,c,e⟩:=oI.kids.rd.slice;rw[e];rfl)⟩)
  have A3:=qa (al2.to b3)
  have I3:=qa oI.rdk
  have K3:=qa (k2.trans (KCh.of (gc:=gc) (av:=av2) b3 hB2.out))
  have C3:=qa (c2.to b3)
  obtain⟨kia,kic,hki⟩:=oI.keys.rd.slice;obtain⟨dia,dic,hdi⟩:=oI.kids.rd.slice;subst hki hdi;obtain⟨MI,hMI⟩:∃ M,M=inr [b,c]:=⟨_,rfl⟩;have hMl:MI.leaf=false:=by rw[hMI];rfl
  rw[<-hMI] at KA I3 hro |-;dsimp only[nv] at KA |-;rw[hMl] at KA |-
  have hlen2:Hid ((qC next (ns.map (·.1)) top []).2.length=(ns++more).length):=by
   show _=_
   rw[<-e2,Xe]
  obtain⟨LL,hLL⟩:∃ x,x=(ns++more).length:=⟨_,rfl⟩;rw[<-hLL] at KA hlen2;replace hMI:=qa hMI;replace hMl:=qa hMl;replace hLL:=qa hLL;clear c2 al2 e2 k2 ng2 oI b3 KI
  go_wp2_with fail
  refine KA.out.mono ?_;rintro e w4 ⟨av4,rfl,c4,k4⟩;have kt:∀ e,e≠126->e≠84->KeepT e w3 w4:=fun e h1 h2=>k4.keepT C3.out h1 h2
  have A4:=qa ((A3.out.keepT (kt _ (by decide) (by decide)) (kt _ (by decide) (by decide))).snoc (y:=(MI,.slice kia MI.keys.length kic,.slice none 0 0,.slice dia MI.kids.length dic)) (I3.out.keepT (kt _ (by decide) (by decide)) (kt _ (by decide) (by decide))))
  have C4:=qa (xb c4 (K3.out.trans k4))
  clear c4 k4 kt KA;obtain⟨z,hz⟩:∃ z:Int,z=next+(LL:Int):=⟨_,rfl⟩
  rw[<-hz];replace hz:=qa hz;go_wp2;go_ret;refine⟨av4,more++[(MI,.slice kia MI.keys.length kic,.slice none 0 0,.slice dia MI.kids.length dic)],?_,by rw[<-xz];exact C4.out.1,by rw[<-xz];exact A4.out,?_,C4.out.2⟩
  ·refine qcz ?_;rw[hro.out,hlen2.out,hz.out]
  obtain⟨c2,al2,e2,k2,ng2⟩:=C2.out;rw[hro.out,<-xz,Xj,e2];rfl
def qsr (root:Int) (m:Int->Option Value) (nd:Nd) (kv vv dv:Value):Prop:=(kv.ownBlock=none/\vv.ownBlock=none/\dv.ownBlock=none)\/m root=some (nv nd kv vv dv)
theorem qpx (w0 w:World) (B g bm:Nat) (t:Tr) (pv:Value) (s:Sw) (m:Int->Option Value) (H:PWk w0 w B g bm t pv s m) (hroot:(Lit.int .i64 t.root).wf=true) (ht:Qn t=some s) :
 Calls Tryz.prog 34 #[.pointer (some ⟨g,0,none⟩)] w fun e w'=>∃ nd kv vv dv,e=.returned (nv nd kv vv dv)/\TopIs t nd/\OwnN B w' kv vv dv nd/\Below w.heap.size w w'/\Dj kv vv dv/\qsr t.root m nd kv vv dv:=by
 obtain⟨root,next,ps⟩:=t
 obtain⟨W,hW,DW,bW,sW⟩:=qf w #[.bool false,.slice none 0 0,.slice none 0 0,.slice none 0 0] 84;have HW:=H.to bW
 obtain⟨⟨C0,C1,C2,C3⟩,⟨C4,C5⟩,CF⟩:=HW.cell;obtain⟨⟨E0,E1,E2,E3⟩,EF⟩:=qb DW;dsimp only at C0 C1 C2 C3 C4 C5 hroot;have HB:=qa bW
 have HD:=qa DW
 have HC:=qa (xb HW.cell (qb DW))
 rw[hW] at C0 C1 C2 C3 C4 C5 CF E0 E1 E2 E3 EF;by_cases r0:root=0
 ·have q:(root == 0)=true:=by simp[r0]
  have hT:Hid (TopIs ⟨root,next,ps⟩ nd0):=.inl ⟨r0,rfl⟩
  replace r0:=qa r0;clear DW bW;go_enter Tryz.func34,Tryz.ntmps34;go_wp2;refine Js rfl rfl w.heap.size rfl _ _ _ (xy w _) _ xJ rfl Qe ?_;exact⟨nd0,_,_,_,rfl,hT.out,OwnN.nil _ _ _,(xm _ _).alloc (xc _) _,Dj.nil,.inl ⟨rfl,rfl,rfl⟩⟩
 have q:(root == 0)=false:=by simp[r0]
 obtain⟨h1,_⟩:=yA ht r0;obtain⟨v,hv,x,nd,kv,vv,dv,n1,n2,rfl,n4,n5⟩:=HW.node h1.1;replace n5:=qa n5;have hTV:Hid (qsr root m nd kv vv dv):=.inr hv
 have bD:Below W.heap.size W W.drew:=qg W 1 _
 have HD2:=HW.to bD
 have hlk1:=HW.map.look xS (QG W) hroot false
 have hlk2:=HD2.map.look xS (QG W.drew) hroot false
 rw[hv] at hlk1 hlk2;simp only[xM,xI,XJ] at hlk1 hlk2;have hT:Hid (TopIs ⟨root,next,ps⟩ nd):=.inr ⟨r0,x,n1,n2⟩
 obtain⟨ka,kc,va,vc,da,dc,rfl,rfl,rfl⟩:=n4.rd.slices;dsimp only[nv] at hlk1 hlk2;have HN4:=qa n4
 replace r0:=qa r0;have HD0:=qa DW
 clear HD DW bW;go_enter Tryz.func34,Tryz.ntmps34
 go_upto_region 3 with fail
 rw[<-hW];clear C0 C1 C2 C3 C4 C5 CF E0 E1 E2 E3 EF;obtain⟨⟨⟨C0,C1,C2,C3⟩,⟨C4,C5⟩,CF⟩,⟨E0,E1,E2,E3⟩,EF⟩:=HC.out;dsimp only at C0 C1 C2 C3 C4 C5;replace hW:=qa hW
 go_region
 go_wp2;refine Js rfl rfl w.heap.size rfl _ _ (0,0) (qy (qu HD0.out _ _ _ _)) _ xJ rfl Qe ?_;refine⟨nd,_,_,_,rfl,hT.out,?_,?_,n5.out,hTV.out⟩
 ·have k:=fun e he=>z8 (w:=W) HD0.out (.bool nd.leaf) (.slice ka nd.keys.length kc) (.slice va nd.vals.length vc) (.slice da nd.kids.length dc) (e:=e) he
  exact OwnN.to (HN4.out.keepT (k _ (by decide)) (k _ (by decide)):OwnN B (S4 w.heap.size W _ _ _ _) _ _ _ nd) (qg _ 1 _)
 exact(qn HB.out (xc _) _ _ _ _).trans (qg _ 1 _)
theorem TopIs.of (h:TopIs t nd):Zg t=nd:=by
 unfold Zg;rcases h with ⟨h0,rfl⟩|⟨h0,x,h1,h2⟩
 ·rw[xj h0];rfl
 rw[xh h0];exact(show NdIs t.pages t.root nd from⟨x,h1,h2⟩).at
theorem qbs {s:Sw} (h:Qn t=some s):∃ d,qbf t d s.prs/\∀ i∈nI t.pages d (Zg t),i∈s.seen:=by
 unfold Qn at h
 split at h
 ·rename_i h0
  have:s=⟨[],none,[]⟩:=(k9 h).symm
  subst this;exact⟨0,.inl ⟨h0,rfl,rfl⟩,fun i hi=>by cases hi⟩
 rename_i h0
 obtain⟨e,d,h1,h2,h3,h4,h5,h6,h7,h8⟩:=qgu 16 t.root [] none _ s h;refine⟨d,.inr ⟨h0,by omega,h4,h6,by simpa using h8⟩,fun i hi=>?_⟩
 obtain⟨nd,hN,q1,q2,q3⟩:=JR h4;have ht:Zg t=nd:=by unfold Zg;rw[xh h0];exact hN.at
 rw[ht] at hi;rw[h5,q2];simp[hi]
theorem PWk.cw {s:Sw} {m:Int->Option Value} (h:PWk w0 w B g bm t pv s m):CW w B g bm s.seen.length t.pages m:=⟨h.cell.1.2.2.2,h.map,h.nds,h.apt,h.hg.2,h.hm.2⟩
theorem qsd {key val:Str} {gk gl:Nat} (hk:w.heap[gk]?=some (.cells #[st key] 9 (0,0))) (hgk:gk<B) (hv:w.heap[gl]?=some (.cells #[st val] 9 (0,0))) (hgl:gl<B) (hB:B<=w.heap.size) :
 EdCl B w 27 #[.pointer (some ⟨gl,0,none⟩),.pointer (some ⟨gk,0,none⟩)] key (Jd key val) (fun _=>True):=by
 intro u ps kv vv dv bu o dj hp hs _;have hk':=(bu.block _ (xa hk)).trans hk
 have hv':=(bu.block _ (xa hv)).trans hv
 have hlen:(lf ps).keys.length<=1000:=by have:=(qao hp hs).few;omega
 have hlv:(lf ps).vals.length=(lf ps).keys.length:=by simp[lf]
 obtain⟨A,C,f1,f2,hA,hC,hc⟩:=Vk hp hs key;rcases hc with ⟨h1,v,h2⟩|⟨h1,h2⟩
 ·have hi:A.length<(lf ps).keys.length:=by rw[h2];simp[lf]
  have e:Jd key val (lf ps)=⟨(lf ps).leaf,(lf ps).keys,(lf ps).vals.set A.length val,(lf ps).kids⟩:=by unfold Jd;rw[xj h1,f1]
  rw[e,f2,h1];refine Calls.mono (qhg B u (lf ps) kv vv dv key val A.length gk gl o dj (xi hB bu.size) hlen hlv hi hv' hgl) ?_;rintro e9 u' ⟨kv',vv',r1,r2,r3⟩;exact⟨kv',vv',dv,r1,r2,r3⟩
 have hi:A.length<=(lf ps).keys.length:=by rw[h2];simp[lf]
 have e:Jd key val (lf ps)=⟨(lf ps).leaf,(lf ps).keys.take A.length++key::(lf ps).keys.drop A.length,(lf ps).vals.take A.length++val::(lf ps).vals.drop A.length,(lf ps).kids⟩:=by unfold Jd;rw[xh (by rw[h1];simp),f1]
 rw[e,f2,h1];refine Calls.mono (qhc B u (lf ps) kv vv dv key val A.length gk gl o dj (xi hB bu.size) hlen hlv hi hk' hgk hv' hgl) ?_;rintro e9 u' ⟨kv',vv',r1,r2,r3⟩;exact⟨kv',vv',dv,r1,r2,r3⟩
def KIn (key:Str) (ps:List Pr):Prop:=∃ v,(key,v)∈ps
theorem qpb {key:Str} (A X C:List Pr) (hA:∀ y∈A,slt y.1 key=true) (hC:∀ y∈C,slt key y.1=true) (h:KIn key (A++X++C)):KIn key X:=by
 obtain⟨v,hv⟩:=h;rw[xu,xu] at hv;rcases hv with (hv|hv)|hv
 ·have:=hA _ hv;rw[qU] at this;cases this
 ·exact⟨v,hv⟩
 have:=hC _ hv;rw[qU] at this;cases this
theorem qrs {key:Str} (hB:B<=w.heap.size):EdCl B w 30 #[] key (J6 key) (KIn key):=by
 intro u ps kv vv dv bu o dj hp hs hg;have hlen:(lf ps).keys.length<=1000:=by have:=(qao hp hs).few;omega
 have hlv:(lf ps).vals.length=(lf ps).keys.length:=by simp[lf]
 obtain⟨A,C,f1,f2,hA,hC,hc⟩:=Vk hp hs key;rcases hc with ⟨h1,v,h2⟩|⟨h1,h2⟩
 ·have hi:A.length<(lf ps).keys.length:=by rw[h2];simp[lf]
  have e:J6 key (lf ps)=⟨(lf ps).leaf,(lf ps).keys.take A.length++(lf ps).keys.drop (A.length+1),(lf ps).vals.take A.length++(lf ps).vals.drop (A.length+1),(lf ps).kids⟩:=by unfold J6;rw[xj h1,f1]
  rw[e,f2,h1];refine Calls.mono (qgd B u (lf ps) kv vv dv A.length true o dj (xi hB bu.size) hlen hlv hi) ?_;rintro e9 u' ⟨kv',vv',r1,r2,r3⟩;exact⟨kv',vv',dv,r1,r2,r3⟩
 exfalso
 obtain⟨v,hv⟩:=hg;rw[h2,xu] at hv;rcases hv with hv|hv
 ·have:=hA _ hv;rw[qU] at this;cases this
 have:=hC _ hv;rw[qU] at this;cases this
theorem qof:∀ {z:Int} {ad:List Nd} {i:Nat} {n:Nd},ad[i]?=some n->(pgs z ad)[i]?=some (z+(i:Int),QN n)
 | z,[],i,n,h=>by cases h
 | z,x::r,0,n,h=>by
  simp only[kW,xr] at h;subst h;simp[pgs]
 | z,x::r,i+1,n,h=>by
  have:=qof (z:=z+1) (ad:=r) (i:=i) (n:=n) (by simpa using h)
  simp only[pgs,Kl,this,xr,K8,XS]
  push_cast
  omega
theorem qmx {z:Int} (h:ad[i]?=some n):(pgs z ad).take (i+1)=(pgs z ad).take i++[(z+(i:Int),QN n)]:=by
 rw[Xf,qof h];rfl
theorem OwnNs.slice {v:Value} {ns:List NV} (h:OwnNs B w v ns):∃ a c,v=.slice a ns.length c:=by
 rcases h.2 with ⟨rfl,e⟩|⟨g,cap,cur,rfl,_⟩
 ·exact⟨none,0,by rw[e]⟩
 exact⟨_,_,rfl⟩
theorem OwnNs.at {a:Option Addr} {ns:List NV} (h:OwnNs B w (.slice a L c) ns) {y:NV} (hy:ns[i]?=some y):∃ g,a=some ⟨g,0,none⟩/\B<=g/\w.cell? ⟨g,i*4,none⟩=some (.bool y.1.leaf)/\w.cell? ⟨g,i*4+1,none⟩=some y.2.1/\w.cell? ⟨g,i*4+2,none⟩=some y.2.2.1/\w.cell? ⟨g,i*4+3,none⟩=some y.2.2.2:=by
 have hi:=(xn.1 hy).1
 obtain⟨g,cap,cur,e,hB,hg,hk,hm,hs,ht⟩:=zZ h (by omega)
 obtain⟨c1,c2,c3,c4⟩:=qo5 ns i y hy
 have hcell:∀ j,j<ns.length*4->w.cell? ⟨g,j,none⟩=(ncl ns)[j]?:=fun j hj=>by
  rw[<-ht,xP,xj hj];simp[World.cell?,hg]
 simp only[xH] at e;exact⟨g,e.1,hB,by rw[hcell _ (by omega),c1],by rw[hcell _ (by omega),c2],by rw[hcell _ (by omega),c3],by rw[hcell _ (by omega),c4]⟩
def qs5 (w0 w':World) (t:Tr) (key:Str) (ed:Nd->Nd) (d:Nat) (e:Ending):Prop :=
 (∃ pv',t.next+((JK t key ed d).2.length:Int)<=65536/\e=.returned (.tuple #[tv (JO t key ed d) pv',.int .i64 0])/\OwnPg w0.heap.size w' pv' (JO t key ed d).pages/\Below w0.heap.size w0 w')\/
 (65536<t.next+((JK t key ed d).2.length:Int)/\e=.returned (.tuple #[tv ⟨0,0,[]⟩ (.slice none 0 0),.int .i64 51])/\Below w0.heap.size w0 w')
structure C3 (w0 w w3:World) (B g:Nat) (t:Tr) (pv:Value) (bm:Nat) (s:Sw) (RT:Int) (AD:List Nd) (NS:List NV) (av:Value):Prop where
 ch:ChI B w3 (w.heap.size+1) g t.next av NS
 al:AllK w3 NS
 ad:NS.map (·.1)=AD
 dr:w3.heap[w.heap.size]?=some (.cells #[.int .i64 0,.int .i64 0,.slice none 0 0] 27 (0,0))
 gb:w3.heap[g]?=some (.cells (qrb t pv bm s) 79 (0,0))
 bel:Below w0.heap.size w0 w3
theorem C3.to {s:Sw} {RT:Int} {NS:List NV} (h:C3 w0 w w3 B g t pv bm s RT AD NS av) (b:Below w3.heap.size w3 w4):C3 w0 w w4 B g t pv bm s RT AD NS av :=
 ⟨h.ch.to b,h.al.to b,h.ad,(b.block _ (xa h.dr)).trans h.dr,(b.block _ (xa h.gb)).trans h.gb,h.bel.trans (b.mono h.bel.size)⟩
theorem YS (w0 w:World) (B g bm:Nat) (t:Tr) (pv:Value) (s:Sw) (m:Int->Option Value) (key:Str) (F:Nat) (caps:Array Value) (ed:Nd->Nd) (upd:List Pr->List Pr) (good:List Pr->Prop) (d:Nat) (H:PWk w0 w B g bm t pv s m) (hB:B<=w.heap.size) (hroot:(Lit.int .i64 t.root).wf=true) (ht:Qn t=some s) (hpn:ye t)
 (hps:s.prs.length<=4096) (hTT:qbf t d s.prs) (hseen:∀ i∈nI t.pages d (Zg t),i∈s.seen) (hx:∀ x∈t.pages,x.2.length<=140737488351232) (hE:EdOk key upd ed) (hG:∀ A X C,(∀ y∈A,slt y.1 key=true)->(∀ y∈C,slt key y.1=true)->good (A++X++C)->good X) (hgood:good s.prs) (hcl:EdCl B w F caps key ed good)
 (he:∀ args u,(callFunc F args).run Tryz.prog u=.ok (.enter F args) u) (hTN:TNum t) :
 Calls Tryz.prog 26 #[.pointer (some ⟨g,0,none⟩),st key,.func (.func F) #[] caps] w fun e w'=>qs5 w0 w' t key ed d e:=by
 obtain⟨W,hW,DW,bW,sW⟩:=qf w #[.int .i64 0,.int .i64 0,.slice none 0 0] 27;obtain⟨X,hX,DX,bX,sX⟩:=qf W #[.pointer (some ⟨g,0,none⟩),.slice none 0 0] 126;have bWX:=bW.trans (bX.mono bW.size)
 have PX:=H.to bWX
 have KT:=qa (qpx w0 X B g bm t pv s m PX hroot ht)
 have D1:=(bX.block _ (xa DW)).trans DW
 rw[sW] at DX;have HX:=qa (xb bWX (xb PX (xb D1 DX)))
 rw[hX,hW] at KT;have HNL:Hid (∀ b,w.heap.size<=b->¬ LfB m b):=fun b hb hL=>by have:=(H.cw.leaf hL).2;omega
 have HBL:Hid (∀ b,b<B->¬ LfB m b):=fun b hb hL=>by have:=(H.cw.leaf hL).1;omega
 replace H:=qa H;replace hcl:=qa hcl;replace hE:=qa hE;replace hG:=qa hG;replace hgood:=qa hgood;replace hTT:=qa hTT;replace hseen:=qa hseen;replace ht:=qa ht;replace hpn:=qa hpn;replace hTN:=qa hTN;replace hx:=qa hx;clear D1 DX bWX PX DW bW bX;go_enter Tryz.func26,Tryz.ntmps26
 go_wp2_with fail
 refine KT.out.mono ?_;rintro e w1 ⟨nd9,kv,vv,dv,rfl,hT9,ho,b1,hdj,htv⟩;rw[<-hW,<-hX] at b1;obtain⟨bWX,PX,D1,DX⟩:=HX.out;have P1:=PX.to b1
 have hnb:Hid (w.heap.size<=w1.heap.size):=xi bWX.size b1.size
 have hB1:B<=w1.heap.size:=xi hB hnb.out
 have bw1:=bWX.trans (b1.mono bWX.size)
 have D2:=(b1.block _ (xa D1)).trans D1
 have C2:=(b1.block _ (xa DX)).trans DX
 have Ch1:ChI B w1 (w.heap.size+1) g t.next (.slice none 0 0) []:=⟨C2,xA _ _ _ _,qt P1.box rfl,by omega⟩
 have hgg:w.heap.size+1≠g:=by have:=P1.hg.2;omega
 have hto:=hT9.of
 obtain⟨q1,q2,q3,q4,q5⟩:=qlp hTT.out;have hsn:=hseen.out
 rw[hto] at q1 q2 q3 q4 q5 hsn;have hdd:=Jf hTT.out hps
 have hnx:0<=t.next/\t.next<=65536:=⟨by have:=hpn.out.1;omega,hpn.out.2.1⟩
 have KR:=qa (qf5 (next:=t.next) hE.out hgg hnx hG.out he d nd9 [] none w1 kv vv dv (by omega) P1.cw Ch1 hB1 ho hdj (fun hl b hb=>by
  rcases htv with ⟨z1,z2,z3⟩|htv
  ·rcases hb with hb|hb
   ·rw[z1] at hb;cases hb
   rw[z2] at hb;cases hb
  ·exact LfB.of htv hl b hb) (fun hl b hb=>by
  rcases htv with ⟨z1,z2,z3⟩|htv
  ·rcases qo7 hb with hb|hb|hb
   ·rw[z1] at hb;cases hb
   ·rw[z2] at hb;cases hb
   rw[z3] at hb;cases hb
  ·exact P1.cw.inner htv hl hb) q1 q2 q3 (fun i hi=>by
  have h1:=hsn i hi
  have h2:=P1.ok.2.1 i h1
  exact⟨by rw[P1.has];exact xv h1,h2.1,by omega⟩) (by rw[q5];exact hgood.out) (hcl.out.to bw1))
 have hsh:=qa (vt (l:=t.pages) (next:=t.next) hE.out d nd9 [] none [] q1 q2 q3)
 have hrl:=qa (Yt t.pages t.next key ed d nd9 []).2
 have hchg:Hid (JK t key ed d=zn t.next (Qo t.pages t.next key ed d nd9 []).2 (Qo t.pages t.next key ed d nd9 []).1):=by show _=_;unfold JK;rw[hto]
 unfold RbR at KR;obtain⟨MM,hMM⟩:∃ M,M=(Qo t.pages t.next key ed d nd9 []).1:=⟨_,rfl⟩
 obtain⟨AD,hAD⟩:∃ A,A=(Qo t.pages t.next key ed d nd9 []).2:=⟨_,rfl⟩
 rw[<-hMM,<-hAD] at KR hchg;rw[<-hMM] at hsh;rw[<-hAD] at hrl;have H1:=qa (xb P1 (xb D2 C2))
 obtain⟨ka,kc,va,vc,da,dc,rfl,rfl,rfl⟩:=ho.rd.slices;dsimp only[nv] at KR;replace hX:=qa hX;replace hW:=qa hW;replace hMM:=qa hMM;replace hAD:=qa hAD;replace hto:=qa hto;replace htv:=qa htv;clear KT ho b1 hT9 bWX PX D1 DX P1 D2 C2 bw1 HX Ch1 q1 q2 q3 q4 q5 hsn
 go_wp2_with fail
 refine KR.out.mono ?_;rintro e w2 ⟨kv',vv',dv',av2,ns2,rfl,r2,c2,al2,e2,k2⟩;obtain⟨P1,D1,C1⟩:=H1.out;have hB2:B<=w2.heap.size:=xi hB1 k2.size
 have hgB:Hid (w0.heap.size<=g/\g<B):=P1.hg
 have hws:Hid (w.heap.size<w1.heap.size):=xa D1
 have D2:=(k2.keep _ (xa D1) (by omega) (HNL.out _ (xc _))).trans D1
 have G2:=(k2.keep _ (xa P1.box) (Ne.symm hgg) (HBL.out _ hgB.out.2)).trans P1.box
 have hlen2:ns2.length<=800:=by
  have h1:=hrl.out
  rw[<-e2,Xe] at h1;simp at h1;omega
 have hav2:Hid (∀ b,av2.ownBlock=some b->w1.heap.size<=b):=k2.row
 have KO:=qa (qjm B w2 (w.heap.size+1) g t.next av2 ns2 MM kv' vv' dv' d c2 al2 hB2 (fun b hb=>by have:=k2.row b hb;have:=hgB.out;omega) hgg hlen2 hnx r2 hsh.out)
 unfold RoR at KO;rw[e2,<-hchg.out] at KO;have bel2:Below w0.heap.size w0 w2:=P1.bel.trans (k2.bel.mono (by have:=hgB.out;omega))
 have H2:=qa (xb D2 (xb G2 bel2))
 have hw0B:Hid (w0.heap.size<=B):=by have:=hgB.out;show _<=_;omega
 obtain⟨ka',kc',va',vc',da',dc',rfl,rfl,rfl⟩:=r2.rd.slices;dsimp only[nv] at KO;replace e2:=qa e2;clear r2 c2 al2 k2 P1 D1 C1 D2 G2 KR H1 bel2;dsimp only[nv]
 go_wp2_with fail
 refine KO.out.mono ?_;rintro e w3 ⟨av3,more,rfl,c3,al3,e3,k3⟩;obtain⟨NS,hNS⟩:∃ x,x=ns2++more:=⟨_,rfl⟩;rw[<-hNS] at c3 al3 e3;obtain⟨RT,hRT⟩:∃ r,r=(JK t key ed d).1:=⟨_,rfl⟩;obtain⟨A3,hA3⟩:∃ r,r=(JK t key ed d).2:=⟨_,rfl⟩;rw[<-hRT];rw[<-hA3] at e3
 have CC:C3 w0 w w3 B g t pv bm s RT A3 NS av3:=by
  obtain⟨D2,G2,bel2⟩:=H2.out;refine⟨c3,al3,e3,(k3.keep _ (xa D2) (by omega) (fun e=>?_)).trans D2,(k3.keep _ (xa G2) (Ne.symm hgg) (fun e=>?_)).trans G2,bel2.trans (k3.bel.mono hw0B.out)⟩
  ·have h1:=hav2.out _ e
   have h2:=xa D2
   have h3:=hws.out
   omega
  have h1:=hav2.out _ e
  have:=hgB.out
  omega
 have bD:Below w3.heap.size w3 w3.drew:=qg w3 1 _
 have C4:=qa (CC.to bD)
 have hlen:t.pages.length<=65536:=by have:=Zu hpn.out.2.2 hpn.out.1;have:=hpn.out.2.1;omega
 have KC:=qa (yh w3.drew t pv (H.out.pg.to0 C4.out.bel) hlen hx.out)
 have hB4:Hid (B<=w3.drew.heap.size):=xi (xi hB2 k3.size) bD.size
 obtain⟨pa,pc,hpv⟩:=H.out.pg.slice;subst hpv;obtain⟨a3,cap3,hav3⟩:=OwnNs.slice CC.ch.row;obtain⟨NL,hNL⟩:∃ n,n=NS.length:=⟨_,rfl⟩;rw[<-hNL] at hav3;subst hav3;have hAl:Hid (A3.length=NL):=by show _=_;rw[hNL,<-CC.ad,Xe]
 have hNLb:NL<=1000:=by
  have h1:=VC t.next AD MM
  rw[<-hchg.out,<-hA3,hAl.out] at h1;have h2:=hrl.out
  simp at h2;omega
 have Q0:=qt CC.ch.box (i:=0) rfl
 have Q1:=qt CC.ch.box (i:=1) rfl
 have Q2:=CC.ch.nxt
 have U0:=qt C4.out.ch.box (i:=0) rfl
 have U1:=qt C4.out.ch.box (i:=1) rfl
 have X0:=qt C4.out.gb (i:=0) rfl
 have X1:=qt C4.out.gb (i:=1) rfl
 have X2:=qt C4.out.gb (i:=2) rfl
 have hwz:wrap64 (t.next+(NL:Int))=t.next+(NL:Int):=by have:=hpn.out.1;have:=hpn.out.2.1;unfold wrap64;omega
 dsimp only[tv] at KC;replace hRT:=qa hRT;replace hA3:=qa hA3;replace hNS:=qa hNS;replace hNL:=qa hNL;clear c3 k3 al3 e3 CC bD KO H2
 go_upto_region 3 with fail
 go_region
 clear hwz Q0 Q1 Q2;obtain⟨V,hV⟩:∃ V,V=w3.drew:=⟨_,rfl⟩;obtain⟨NX,hNX⟩:∃ z,z=t.next+(NL:Int):=⟨_,rfl⟩
 rw[<-hV] at KC U0 U1 X0 X1 X2 C4 hB4 |-;rw[<-hNX];replace hNX:=qa hNX;replace hV:=qa hV;have hcl2:Hid (t.next+((JK t key ed d).2.length:Int)=NX):=by show _=_;rw[<-hA3.out,hAl.out,hNX.out]
 by_cases hfit:65536<NX
 ·have hq:NX>65536:=hfit
  have HDR:=qa C4.out.dr
  obtain⟨⟨J0,J1,J2⟩,JF⟩:=ql HDR.out;have h0w:w0.heap.size<=w.heap.size:=H.out.bel.size
  have BF:=qa (qD C4.out.bel h0w (.int .i64 0) (.int .i64 0) (.slice none 0 0))
  clear U0 U1 X0 X1 X2;go_wp2
  (try simp only[Exit.inBlock,Exit.then])
  refine QD rfl rfl w.heap.size rfl _ _ (0,0) (qK HDR.out _ _ _) _ Xt rfl zi _ rfl ?_;exact .inr ⟨by rw[hcl2.out];exact hfit,rfl,BF.out⟩
 have hfin:¬ NX>65536:=hfit
 have hoks:=qa (qoo hTN.out hTT.out hps hE.out (by rw[hcl2.out];omega)).1
 rw[<-hA3.out] at hoks;clear hfit
 go_wp2_with fail
 refine KC.out.mono ?_;rintro e w5 ⟨pv5,rfl,o5,b5⟩;obtain⟨a5,q5,h5⟩:=o5.shape;subst h5;obtain⟨Y,hY,DY,bY,sY⟩:=qf w5 #[.int .i64 t.root,.int .i64 t.next,.slice a5 t.pages.length q5] 27
 have bVY:=b5.trans (bY.mono b5.size)
 have OY:OwnPg V.heap.size Y (.slice a5 t.pages.length q5) t.pages:=o5.to9 bY
 have cY:=C4.out.to bVY
 have U1':=qt cY.ch.box (i:=1) rfl
 rw[hY] at U1';have hyb:Hid (V.heap.size<=w5.heap.size):=b5.size
 obtain⟨PG,hPG⟩:∃ x,x=pgs t.next A3:=⟨_,rfl⟩
 have CI0:Hid (∃ pv',Y.heap[w5.heap.size]?=some (.cells #[.int .i64 t.root,.int .i64 t.next,pv'] 27 (0,0))/\OwnPg V.heap.size Y pv' (t.pages++PG.take 0)/\Below V.heap.size V Y):=⟨_,DY,by simpa using OY,bVY⟩
 have hPl:Hid (PG.length=NL):=by show _=_;rw[hPG,YG,hAl.out]
 replace hPG:=qa hPG;clear KC o5 b5 DY bY OY cY bVY U0 U1 X0 X1 X2;dsimp only[tv]
 go_wp2_with fail
 rw[<-hY];clear U1';replace hY:=qa hY
 go_loopw [46] (fun p wr=>∃ k:Nat,k<=NL/\p=.int .i64 k/\Hid (∃ pv',wr.heap[w5.heap.size]?=some (.cells #[.int .i64 t.root,.int .i64 t.next,pv'] 27 (0,0))/\OwnPg V.heap.size wr pv' (t.pages++PG.take k)/\Below V.heap.size V wr)) (fun p _=>NL-(intOf p).toNat)
 case atStart=>exact⟨0,xt _,rfl,CI0⟩
 case round =>
 obtain⟨k,hk,rfl,hI⟩:=hrel;clear CI0;obtain⟨pv6,d6,o6,b6⟩:=hI.out;have C6:=C4.out.to b6
 by_cases hlt:k<NL
 ·have hq:((k:Nat):Int)<(NL:Int):=by omega
  obtain⟨⟨nd',kv',vv',dv'⟩,hy⟩:∃ y,NS[k]?=some y:=⟨_,xg (by rw[<-hNL.out];exact hlt)⟩
  obtain⟨g3,hg3,hBg3,R0,R1,R2,R3⟩:=OwnNs.at C6.ch.row hy;have hyA:A3[k]?=some nd':=by rw[<-C6.ad,XT,hy];rfl
  have hok:NOk nd':=hoks.out nd' (xQ hyA)
  have N6:RdK wr kv' vv' dv' nd':=C6.al _ (xQ hy)
  subst hg3;obtain⟨ka',kc',va',vc',da',dc',hs1,hs2,hs3⟩:=N6.rd.slices;subst hs1 hs2 hs3;dsimp only at R0 R1 R2 R3;obtain⟨Z,hZ,DZ,bZ,sZ⟩:=qf wr #[.bool nd'.leaf,.slice ka' nd'.keys.length kc',.slice va' nd'.vals.length vc',.slice da' nd'.kids.length dc'] 84;have KE:=qa (qfe Z _ _ _ nd' (N6.to bZ).rd hok.fit)
  obtain⟨⟨E0,E1,E2,E3⟩,EF⟩:=qb DZ;rw[hZ] at KE E0 E1 E2 E3 EF;dsimp only[nv] at KE;rw[(Vp hok).1,(Vp hok).2] at KE;have HQ:=qa (xb d6 (xb o6 (xb b6 (xb C6 bZ))))
  have hnx2:Hid (PG.take (k+1)=PG.take k++[(t.next+(k:Int),QN nd')]):=by show _=_;rw[hPG.out];exact qmx hyA
  replace hy:=qa hy;replace hyA:=qa hyA;replace hok:=qa hok;clear d6 o6 b6 C6 bZ DZ N6 hI
  go_wp2_with fail
  refine KE.out.mono ?_;rintro e w7 ⟨v7,rfl,o7,b7⟩;rw[<-hZ] at b7 o7;obtain⟨d6,o6,b6,C6,bZ⟩:=HQ.out;have bz7:=bZ.trans (b7.mono bZ.size)
  have bD:Below w7.heap.size w7 w7.drew:=qg w7 1 _
  have bb:=bz7.trans (bD.mono bz7.size)
  have d7:=(bz7.block _ (xa d6)).trans d6
  have O7:OwnPg V.heap.size w7 pv6 (t.pages++PG.take k):=o6.to9 bz7
  have C7:=C6.to bb
  have B7:=b6.trans (bz7.mono b6.size)
  have S7:OwnB V.heap.size w7 v7 (QN nd'):=QA o7 (xi b6.size bZ.size)
  obtain⟨va7,vc7,hv7⟩:=o7.rd.slice;subst hv7;obtain⟨pa6,pc6,hp6⟩:=O7.shape;obtain⟨PK,hPK⟩:∃ x,x=t.pages++PG.take k:=⟨_,rfl⟩;rw[<-hPK] at hp6 O7;obtain⟨PL,hPL⟩:∃ x,x=PK.length:=⟨_,rfl⟩;have hPLb:PL<=70000:=by rw[hPL,hPK,xk,xp];omega
  rw[<-hPL] at hp6;subst hp6;have Y2:=qt (qy d7) (i:=2) rfl
  have Y0:=qt C7.ch.box (i:=0) rfl
  have Y1:=qt C7.gb (i:=1) rfl
  obtain⟨EL,hEL⟩:∃ n,n=(QN nd').length:=⟨_,rfl⟩;have S7':OwnB V.heap.size w7 (.slice va7 EL vc7) (QN nd'):=by rw[hEL];exact S7
  rw[<-hEL];have H7:=qa (xb d7 (xb O7 (xb B7 S7')))
  replace hEL:=qa hEL;replace hZ:=qa hZ;replace hPK:=qa hPK;replace hPL:=qa hPL;clear d6 o6 b6 C6 bZ b7 bz7 bD bb d7 O7 C7 B7 S7 S7' o7 E0 E1 E2 E3 EF R0 R1 R2 R3 KE;have hnz2:IntKind.i64.wrap (t.next+(k:Int))=t.next+(k:Int):=xB _ (by have:=hpn.out.1;have:=hpn.out.2.1;omega)
  go_upto_region 11 with fail
  refine qj (fun w'=>w'.cell? ⟨w5.heap.size,2,none⟩=some (.slice pa6 PL pc6)/\w'.cell? ⟨w.heap.size+1,0,none⟩=some (.pointer (some ⟨g,0,none⟩))/\w'.cell? ⟨g,1,none⟩=some (.int .i64 t.next)) 11 13 qG (by kernel_rfl) (fun _ _ _ _ h=>h) ⟨Y2,Y0,Y1⟩ ?_
  dsimp only[List.take,List.drop]
  iterate 11
   refine qA (v:=?_) (by rfl) ?_ ?_
   rotate_left
   ·rintro w' ⟨s1,s2,s3⟩;go_simp;try with_reducible rfl
   try simp only[Act.put,qB6]
  refine qM fun K hK=>?_;rw[xj (by rfl)]
  go_simp;refine hK _ _ ⟨Y2,Y0,Y1⟩ ?_;clear hK K;refine qM fun K hK=>?_;rw[xj (by rfl)]
  go_simp;refine hK _ _ ⟨Qq Y2 _,Qq Y0 _,Qq Y1 _⟩ ?_;clear hK K;show wpList _ _ _ _ _ _
  (try simp only[hnz2])
  obtain⟨TK,hTK⟩:∃ z,z=t.next+(k:Int):=⟨_,rfl⟩
  rw[<-hTK] at hnx2 |-;obtain⟨d7,O7,B7,S7⟩:=H7.out;obtain⟨Qa,hQa,DQa,bQa,sQ⟩:=qf w7 #[.int .i64 TK,.slice va7 EL vc7] 97;obtain⟨Q,hQ⟩:∃ Q,Q=(w7.alloc (.cells #[.int .i64 TK,.slice va7 EL vc7] 97)).drew:=⟨_,rfl⟩;have bQ:Below w7.heap.size w7 Q:=by rw[hQ,<-hQa];exact bQa.trans (qg Qa 1 _)
  have DQ:Q.heap[w7.heap.size]?=some (.cells #[.int .i64 TK,.slice va7 EL vc7] 97 (0,0)):=by rw[hQ,<-hQa];exact qy DQa
  obtain⟨⟨Z0,Z1⟩,_⟩:=Qc DQ;have OZ:=O7.to9 bQ
  have SZ:OwnB V.heap.size Q (.slice va7 EL vc7) (QN nd'):=qB S7 bQ
  have BQ:=B7.trans (bQ.mono B7.size)
  have hBq:V.heap.size<=Q.heap.size:=BQ.size
  have dQ:=(bQ.block _ (xa d7)).trans d7
  have FIN:∀ v5 w6,OwnPg V.heap.size w6 v5 (PK++[(TK,QN nd')])->Below V.heap.size Q w6->(∀ e,e≠97->KeepT e Q w6)->
   Hid (∃ pv',(w6.setCell ⟨w5.heap.size,2,none⟩ v5).heap[w5.heap.size]?=some (.cells #[.int .i64 t.root,.int .i64 t.next,pv'] 27 (0,0))/\OwnPg V.heap.size (w6.setCell ⟨w5.heap.size,2,none⟩ v5) pv' (t.pages++PG.take (k+1))/\Below V.heap.size V (w6.setCell ⟨w5.heap.size,2,none⟩ v5))/\
   w6.cell? ⟨w5.heap.size,2,none⟩=some (.slice pa6 PL pc6)/\w6.frozen? ⟨w5.heap.size,2,none⟩=false:=fun v5 w6 o5 b5 k5=>by
   have d8:=k5 _ (by decide) _ _ _ dQ
   have d9:=qw d8 2 v5
   have kk:=fun e (he:e≠27)=>KeepT.set (a:=⟨w5.heap.size,2,none⟩) d8 he v5
   have o9:OwnPg V.heap.size w6 v5 (t.pages++PG.take (k+1)):=by rw[hnx2.out,<-xz,<-hPK.out];exact o5
   exact⟨⟨v5,by simpa using d9,o9.keepT (kk _ (by decide)) (kk _ (by decide)),(BQ.trans b5).setCell hyb.out _⟩,qt d8 rfl,j5 d8 2⟩
  rw[hQ] at Z0 Z1 OZ SZ hBq FIN;replace FIN:=qa FIN;have hpl:(PK.length+1)*32<=140737488355328:=by rw[<-hPL.out];omega
  have OZ':=qa OZ
  replace hTK:=qa hTK;clear d7 O7 B7 S7 DQ bQ hQ dQ BQ H7 Y2 Y0 Y1 hnz2 hQa DQa bQa sQ;refine Z9 rfl _ _ rfl V.heap.size (.slice pa6 PL pc6) PK (TK,QN nd') (.slice va7 EL vc7) w7.heap.size rfl rfl OZ SZ rfl Z0 Z1 hpl hBq ?_;intro v5 w6 o5 _ b5 k5;obtain⟨a9,c9,h9⟩:=o5.shape;subst h9;obtain⟨F1,F2,F3⟩:=FIN.out _ w6 o5 b5 k5;generalize (PK++[(TK,QN nd')]).length=L9 at *;clear o5 b5 k5 FIN Z0 Z1 OZ SZ hBq hpl OZ';go_wp2;go_roundw
  case rel=>exact⟨k+1,hlt,by go_num,F1⟩
  case measure=>simp[intOf];omega
 obtain rfl:k=NL:=by omega
 have hq:¬ ((k:Nat):Int)<(k:Int):=by omega
 have D6:=C6.dr
 obtain⟨pa6,pc6,hp6⟩:=o6.shape;subst hp6;have htk:PG.take k=PG:=xx (by rw[hPl.out];exact xc _)
 rw[htk] at o6 d6;obtain⟨L9,hL9⟩:∃ n,n=(t.pages++PG).length:=⟨_,rfl⟩;have o6':OwnPg V.heap.size wr (.slice pa6 L9 pc6) (t.pages++PG):=by rw[hL9];exact o6
 rw[<-hL9] at d6;obtain⟨⟨E0,E1,E2⟩,EF⟩:=ql d6;have hne:w5.heap.size≠w.heap.size:=by have:=hyb.out;have:=xa C4.out.dr;omega
 obtain⟨Q,hQ⟩:∃ Q,Q=(wr.setCell ⟨w5.heap.size,0,none⟩ (.int .i64 RT)).setCell ⟨w5.heap.size,1,none⟩ (.int .i64 NX):=⟨_,rfl⟩;have dq:=qw (qw d6 0 (.int .i64 RT)) 1 (.int .i64 NX)
 have DQ:Q.heap[w5.heap.size]?=some (.cells #[.int .i64 RT,.int .i64 NX,.slice pa6 L9 pc6] 27 (0,0)):=by rw[hQ];simpa using dq
 have DR:Q.heap[w.heap.size]?=some (.cells #[.int .i64 0,.int .i64 0,.slice none 0 0] 27 (0,0)):=by
  rw[hQ];exact(xd _ _ _ _ (Ne.symm hne)).trans ((xd _ _ _ _ (Ne.symm hne)).trans D6)
 have kq:∀ e,e≠27->KeepT e wr Q:=fun e he=>by
  rw[hQ];exact(KeepT.set (a:=⟨w5.heap.size,0,none⟩) d6 he _).trans (KeepT.set (a:=⟨w5.heap.size,1,none⟩) (qw d6 0 _) he _)
 have bq:Below w0.heap.size w0 Q:=by
  rw[hQ];have h9:w0.heap.size<=w5.heap.size:=xi C4.out.bel.size hyb.out
  exact(C6.bel.setCell h9 _).setCell h9 _
 have ks:=fun e (he:e≠27)=>QM DR (.int .i64 RT) (.int .i64 NX) (.slice pa6 L9 pc6) he
 have OF:=qa ((o6'.keepT (kq _ (by decide)) (kq _ (by decide))).keepT (ks _ (by decide)) (ks _ (by decide)))
 have h0w:w0.heap.size<=w.heap.size:=H.out.bel.size
 have BF:=qa (qD bq h0w (.int .i64 RT) (.int .i64 NX) (.slice pa6 L9 pc6))
 obtain⟨⟨P0,P1,P2⟩,PF⟩:=ql DQ;obtain⟨⟨J0,J1,J2⟩,JF⟩:=ql DR;have HDR:=qa DR
 have hVb:Hid (w0.heap.size<=V.heap.size):=C4.out.bel.size
 rw[hQ] at P0 P1 P2 PF J0 J1 J2 JF HDR OF BF;replace htk:=qa htk;clear dq DQ DR kq bq ks o6 o6' d6 b6 hI D6 C6 hQ hL9;go_wp2;refine QD rfl rfl w.heap.size rfl _ _ (0,0) (qK HDR.out _ _ _) _ Xt rfl zi _ rfl ?_
 have eT:JO t key ed d=⟨RT,NX,t.pages++PG⟩:=by
  unfold JO;rw[hcl2.out,<-hRT.out,<-hA3.out,<-hPG.out]
 refine .inl ⟨.slice pa6 L9 pc6,by rw[hcl2.out];omega,by rw[eT];rfl,?_,BF.out⟩
 rw[eT];exact OwnX.base (OF.out) hVb.out
structure Chg (t u:Tr) (ps':List Pr):Prop where
 prs:QR u=some ps'
 nxt:t.next<=u.next/\u.next<=t.next+40
 pgs:∃ more,u.pages=t.pages++more/\more.length<=40/\∀ x∈more,x.2.length<=244
 num:TNum u
 rwf:(Lit.int .i64 u.root).wf=true
 how:u=t\/∃ (key:Str) (upd:List Pr->List Pr) (ed:Nd->Nd) (d:Nat) (ps:List Pr),qbf t d ps/\EdOk key upd ed/\u=JO t key ed d/\ps'=upd ps
theorem qcj:∀ {z:Int} {ad:List Nd},(∀ n∈ad,NOk n)->∀ x∈pgs z ad,x.2.length<=244
 | z,[],h,x,hx=>by cases hx
 | z,n::r,h,x,hx=>by
  simp only[pgs,xU] at hx;rcases hx with rfl|hx
  ·have h1:=h n (XP ..)
   have h2:=qor h1
   have h3:=h1.2.2.2.2
   dsimp only;omega
  exact qcj (fun n hn=>h n (Xg _ hn)) x hx
theorem qaq {key:Str} {ed:Nd->Nd} (hd:d<=12):(JK t key ed d).2.length<=27:=by
 unfold JK;have h1:=(Yt t.pages t.next key ed d (Zg t) []).2
 have h2:=(VC t.next (Qo t.pages t.next key ed d (Zg t) []).2 (Qo t.pages t.next key ed d (Zg t) []).1).2
 simp at h1;omega
theorem TNum.rwf (h:TNum t):(Lit.int .i64 t.root).wf=true:=by
 rcases h.2.2.2 with h0|h0
 ·rw[h0];rfl
 cases hq:qH t.pages t.root with
 | none=>exact absurd hq h0
 | some x =>
  have:=Yy h.2.2.1 hq
  have:=h.2.1
  exact Kv (by omega)
theorem qng {key:Str} {upd:List Pr->List Pr} {ed:Nd->Nd} (hT:TNum t) (h:qbf t d ps) (hps:ps.length<=4096) (hE:EdOk key upd ed) (hM:t.next+((JK t key ed d).2.length:Int)<=65536) (hl:(upd ps).length<=4096):Chg t (JO t key ed d) (upd ps):=by
 obtain⟨a1,a2,a3,d',a4⟩:=qoo hT h hps hE hM;obtain⟨s,hs,e⟩:=qpk a4;have hd:=Jf h hps
 have hc:=qaq (t:=t) (key:=key) (ed:=ed) hd
 refine⟨?_,?_,⟨_,rfl,by rw[YG];omega,qcj a1⟩,a3,a3.rwf,.inr ⟨key,upd,ed,d,ps,h,hE,rfl,rfl⟩⟩
 ·rw[jK ⟨a3.1,a3.2.1,a3.2.2.1⟩ hs (by rw[e];exact hl),e]
 show t.next<=t.next+((JK t key ed d).2.length:Int)/\t.next+((JK t key ed d).2.length:Int)<=t.next+40
 omega
theorem vT (key:Str):∀ ps:List Pr,(ps.filter (fun y=>slt y.1 key)).length+(ps.filter (fun y=>slt key y.1)).length+(ps.filter (fun y=>y.1 == key)).length=ps.length
 | []=>rfl
 | y::r=>by
  have ih:=vT key r
  rcases jI y.1 key with h|h|h
  ·have h1:slt key y.1=false:=Qb h
   have h2:(y.1 == key)=false:=by
    rw[kE];intro e;rw[e,qU] at h;cases h
   simp only[X7,h,h1,h2,kS,xI,XJ,xC];omega
  ·have h1:slt key y.1=false:=by rw[h];exact qU _
   have h2:slt y.1 key=false:=by rw[h];exact qU _
   have h3:(y.1 == key)=true:=by rw[h];simp
   simp only[X7,h1,h2,h3,kS,xI,XJ,xC];omega
  have h1:slt y.1 key=false:=Qb h
  have h2:(y.1 == key)=false:=by
   rw[kE];intro e;rw[e,qU] at h;cases h
  simp only[X7,h,h1,h2,kS,xI,XJ,xC];omega
theorem qev (key v:Str) (ps:List Pr):(jF key v ps).length+(ps.filter (fun y=>y.1 == key)).length=ps.length+1:=by
 have h:=vT key ps
 have e:(jF key v ps).length=(ps.filter (fun y=>slt y.1 key)).length+((ps.filter (fun y=>slt key y.1)).length+1):=by
  unfold jF;rw[xk,xC]
 rw[e];omega
theorem qob {key:Str} (h:ZS ps key=true):1<=(ps.filter (fun y=>y.1 == key)).length:=by
 unfold ZS at h;obtain⟨y,hy,e⟩:=List.any_eq_true.1 h;exact List.length_pos_of_mem (List.mem_filter.2 ⟨hy,e⟩)
theorem qk2 (ps:List Pr) (key:Str):(Zo ps key).isSome=ZS ps key:=by
 unfold Zo ZS;rw[Option.isSome_map]
 induction ps with
 | nil=>rfl
 | cons y r ih =>
  rw[List.find?_cons,List.any_cons];cases h:(y.1 == key) with
  | true=>simp
  | false=>simp[ih]
theorem qm4 {key:Str} (h:ZS ps key=true):KIn key ps:=by
 unfold ZS at h;obtain⟨y,hy,e⟩:=List.any_eq_true.1 h;have e':y.1=key:=by simpa using e
 exact⟨y.2,by rw[<-e'];exact hy⟩
theorem qkq {key:Str} (h:ZS ps key=false):ZW key ps=ps:=by
 unfold ZW;refine Q6 fun y hy=>?_;unfold ZS at h;have:=List.any_eq_false.1 h y hy
 simpa using this
theorem Yh (key:Str) (ps:List Pr):(ZW key ps).length<=ps.length:=List.length_filter_le _ _
def jc (t:Tr) (k v:Str):Int:=match QR t with
 | none=>9
 | some ps=>if ZR k=true then(if 64<v.length then 5 else if 4096<=ps.length/\ZS ps k=false then 51 else 0) else 91
theorem qb4 {k:Str} (h:QR t=none):jc t k v=9:=by unfold jc;rw[h]
theorem qes {k:Str} (h:QR t=some ps) (hk:ZR k=false):jc t k v=91:=by unfold jc;rw[h];simp[hk]
theorem qcl {k:Str} (h:QR t=some ps) (hk:ZR k=true) (hv:64<v.length):jc t k v=5:=by unfold jc;rw[h];simp[hk,hv]
theorem qcd {k:Str} (h:QR t=some ps) (hk:ZR k=true) (hv:¬ 64<v.length) (h4:4096<=ps.length) (hh:ZS ps k=false):jc t k v=51:=by unfold jc;rw[h];simp[hk,hv,h4,hh]
theorem Vn {k:Str} (h:QR t=some ps) (hk:ZR k=true) (hv:¬ 64<v.length) (h4:¬ (4096<=ps.length/\ZS ps k=false)):jc t k v=0:=by unfold jc;rw[h];dsimp only;rw[xj hk,xh hv,xh h4]
def PutA (w w':World) (t:Tr) (k v:Str) (e:Ending):Prop :=
 (∃ err,e=.returned (.tuple #[tv ⟨0,0,[]⟩ (.slice none 0 0),.int .i64 err])/\err≠0/\(err=jc t k v\/(err=51/\jc t k v=0/\65495<t.next))/\Below w.heap.size w w')\/
 (∃ u pv',e=.returned (.tuple #[tv u pv',.int .i64 0])/\OwnPg w.heap.size w' pv' u.pages/\Below w.heap.size w w'/\jc t k v=0/\∃ ps,QR t=some ps/\Chg t u (jF k v ps))
def DelA (w w':World) (t:Tr) (k:Str) (e:Ending):Prop :=
 (∃ err,e=.returned (.tuple #[tv ⟨0,0,[]⟩ (.slice none 0 0),.bool false,.int .i64 err])/\err≠0/\((QR t=none/\err=9)\/((∃ ps,QR t=some ps)/\ZR k=false/\err=91)\/((∃ ps,QR t=some ps)/\ZR k=true/\err=51/\65495<t.next))/\Below w.heap.size w w')\/
 (∃ u pv' ps,e=.returned (.tuple #[tv u pv',.bool (ZS ps k),.int .i64 0])/\OwnPg w.heap.size w' pv' u.pages/\Below w.heap.size w w'/\ZR k=true/\QR t=some ps/\Chg t u (ZW k ps))
theorem zI (h:QR t=some ps):TNum t/\ps.length<=4096/\∃ s,Qn t=some s/\s.prs=ps:=by
 unfold QR at h
 split at h
 ·rename_i hT
  cases hw:Qn t with
  | none=>rw[hw] at h;cases h
  | some s =>
   rw[hw] at h;simp only[Option.bind_some] at h
   split at h
   ·rename_i hl
    have e:=k9 h
    exact⟨hT,by rw[<-e];exact hl,s,rfl,e⟩
   cases h
 cases h
theorem Chg.same (h:QR t=some ps):Chg t t ps :=
 ⟨h,⟨Kj _,by omega⟩,⟨[],by simp,by simp,fun x hx=>by cases hx⟩,(zI h).1,(zI h).1.rwf,.inl rfl⟩
def Seq (t:Tr):Prop:=t.next=1+(t.pages.length:Int)/\∀ (i:Nat) (x:Wrt),t.pages[i]?=some x->x.1=(i:Int)+1
theorem qqx:Seq ⟨0,1,[]⟩:=⟨rfl,fun i x h=>by simp at h⟩
theorem qih:∀ (z:Int) (ad:List Nd) (i:Nat) (x:Wrt),(pgs z ad)[i]?=some x->x.1=z+(i:Int)
 | z,[],i,x,h=>by simp[pgs] at h
 | z,n::r,0,x,h=>by simp[pgs] at h;subst h;simp
 | z,n::r,i+1,x,h=>by
  have:=qih (z+1) r i x (by simpa[pgs] using h)
  rw[this];push_cast;omega
theorem Chg.seq {u:Tr} (h:Chg t u ps) (hs:Seq t):Seq u:=by
 rcases h.how with rfl|⟨key,upd,ed,d,ps,_,_,rfl,_⟩
 ·exact hs
 obtain⟨h1,h2⟩:=hs;unfold JO;refine⟨?_,fun i x hx=>?_⟩
 ·dsimp only;rw[xk,YG];push_cast;omega
 dsimp only at hx;by_cases hi:i<t.pages.length
 ·rw[Xu hi] at hx;exact h2 i x hx
 rw[xY (by omega)] at hx
 have:=qih _ _ _ _ hx
 omega
end Go.Proofs.YtfjadfnjmpefkaaGreat
