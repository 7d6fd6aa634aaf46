/- What TopSwap rests on. -/
import Derived.Deep.QuietTactic
import Derived.BigQuiet
import Derived.Laws.Cover1
import Derived.OwnWalkIn
import Derived.Test.YtfjadfnjmpefkaaGreatGoLTSwap4
import Derived.Test.YtfjadfnjmpefkaaGreatGoLTSwap1
import Derived.Laws.CopyOwn
import Derived.Laws.OwnMore
import Derived.Lib.AppendZerosOnto
import Derived.Lib.Overlaps
import Derived.Laws.Externs
import Derived.Test.YtfjadfnjmpefkaaGreatGoLTSwap2
set_option maxRecDepth 100000
set_option maxHeartbeats 8000000
set_option linter.unusedVariables false
set_option linter.unusedSimpArgs false
namespace Go.Proofs.YtfjadfnjmpefkaaGreat
theorem Kx.{u}:type_of% @List.mem_of_mem_drop.{u}:=@List.mem_of_mem_drop
theorem Kd.{u}:type_of% @List.pairwise_append.{u}:=@List.pairwise_append
theorem kZ.{u}:type_of% @List.append_eq_nil_iff.{u}:=@List.append_eq_nil_iff
theorem XI.{u,v}:type_of% @List.flatMap_nil.{u,v}:=@List.flatMap_nil
theorem xT:type_of% @Go.Proofs.Tryz.underlying157:=@Go.Proofs.Tryz.underlying157
variable {a:Act} {ops:Array Oper} {cur:Array Value} {id:Int} {S Y bs now:List Br} {ad:List Nd} {rest:List Oper} {A C L V cc vs:List Value} {l:List Wrt} {B T b d g g7 g9 gc i j k nb:Nat} {m n:Nd} {o:Oper} {P:Program} {av av' d1 d2 k1 k2 kv v v' v1 v2 vv:Value} {X w w' w0:World}
theorem qB5:type_of% (xb @List.setIfInBounds_toArray.{0} (xb @List.set_cons_zero.{0} (@List.set_cons_succ.{0}))):=xb @List.setIfInBounds_toArray.{0} (xb @List.set_cons_zero.{0} (@List.set_cons_succ.{0}))
open Go.RowKit
theorem qgl {fn:Func} {R:Ending->World->Prop} {p q u1:Tmp} {ty ty':TypeId} (h:fn.results=#[.cell p ty,.tmp u1,.cell q ty']) (hd:a.defers=[]) (g g':Nat) (hp:a.tmps.getD p undef=.pointer (some ⟨g,0,none⟩)) (hq:a.tmps.getD q undef=.pointer (some ⟨g',0,none⟩))
 (cs cs':Array Value) (t t':TypeId) (fr fr':Nat×Nat) (hg:w.heap[g]?=some (.cells cs t fr)) (hg':w.heap[g']?=some (.cells cs' t' fr')) (d d':TypeDesc) (hu:P.underlying ty=some d) (hr:(match d with | .struct _ | .array _ _=>true|_=>false)=true) (hi:(P.info? ty).map (·.size)=some cs.size)
 (hu':P.underlying ty'=some d') (hr':(match d' with | .struct _ | .array _ _=>true|_=>false)=true) (hi':(P.info? ty').map (·.size)=some cs'.size)
 (v1:Value) (e1:a.tmps.getD u1 undef=v1) (hR:R (.returned (.tuple #[.agg cs,v1,.agg cs'])) w):bodyPost P fn R .ret a w:=by
 refine Xk (v:=.tuple #[.agg cs,v1,.agg cs']) ?_ hd hR;have hp':a.tmps[p]?.getD undef=.pointer (some ⟨g,0,none⟩):=by simpa using hp
 have hq':a.tmps[q]?.getD undef=.pointer (some ⟨g',0,none⟩):=by simpa using hq
 have e1':a.tmps[u1]?.getD undef=v1:=by simpa using e1
 simp[results,h,hp',hq',e1',asAddr,Kb w g t ty cs fr d hg hu hr hi,Kb w g' t' ty' cs' fr' d' hg' hu' hr' hi']
abbrev qpt (w w':World) (n:Nd) (i:Nat) (e:Ending):Prop:=∃ k1 v1 d1 k2 v2 d2,e=.returned (.tuple #[nv (QT n i) k1 v1 d1,st (n.keys.getD i []),nv (QW n i) k2 v2 d2])/\RdK w' k1 v1 d1 (QT n i)/\RdK w' k2 v2 d2 (QW n i)/\Below w.heap.size w w'
theorem Vj (w:World):RdT w (.slice none 0 0) []:=⟨none,0,rfl,by simp,by decide,fun _=>rfl,.inl rfl⟩
theorem qi4 (w:World):RdI w (.slice none 0 0) []:=⟨none,0,rfl,by simp,by decide,fun _=>rfl,.inl rfl⟩
theorem qjp (w:World) (n:Nd) (kv vv dv:Value) (i:Nat) (h0:RdK w kv vv dv n) (hi:i<n.keys.length) (hl:n.keys.length<=1000) (hlf:n.leaf=true) (hlv:n.vals.length=n.keys.length) :
 Calls Tryz.prog 114 #[nv n kv vv dv,.int .i64 (i:Int)] w fun e w'=>qpt w w' n i e:=by
 have hr:=h0.rd
 obtain⟨ka,kc,va,vc,da,dc,rfl,rfl,rfl⟩:=hr.slices;obtain⟨x,hx⟩:∃ x,n.keys[i]?=some x:=⟨_,xg hi⟩;have hgd:n.keys.getD i []=x:=by rw[xe,hx];rfl
 obtain⟨X,hX,D0,D1,D2,bX,sX⟩:=qc4 w (.bool n.leaf) (.slice ka n.keys.length kc) (.slice va n.vals.length vc) (.slice da n.kids.length dc) 84;have hkc:=Jp hr.keys
 obtain⟨kb,ko,rfl,hcx⟩:=hr.keys.strAt hx;have hkbw:Hid (kb<w.heap.size):=qe hcx
 replace hcx:=(bX.cell (qe hcx)).trans hcx;have hvc:=Jp hr.vals
 obtain⟨y,hy⟩:∃ y,n.vals[i]?=some y:=⟨_,xg (by omega)⟩
 obtain⟨vb,vo,rfl,hvx⟩:=hr.vals.strAt hy;have hck:¬ kc=i:=by omega
 have hcv:¬ vc=i:=by omega
 have RL:RdK w (.slice (some ⟨kb,ko,none⟩) i kc) (.slice (some ⟨vb,vo,none⟩) i vc) (.slice none 0 0) (QT n i):=by
  unfold QT;rw[hlf,xj rfl];exact⟨⟨jo hr.keys (by omega),jo hr.vals (by omega),qi4 _⟩,h0.tk.same _ _,h0.tv.same _ _,TyB.nil _ _ _ _⟩
 have RR:RdK w (.slice (some ⟨kb,ko+i,none⟩) (n.keys.length-i) (kc-i)) (.slice (some ⟨vb,vo+i,none⟩) (n.vals.length-i) (vc-i)) (.slice none 0 0) (QW n i):=by
  unfold QW;rw[hlf,xj rfl];exact⟨⟨JW rfl hr.keys (by omega) hck,JW rfl hr.vals (by omega) hcv,qi4 _⟩,h0.tk.part rfl,h0.tv.part rfl,TyB.nil _ _ _ _⟩
 have HRR:=qa (xb RL RR)
 obtain⟨⟨E0,E1,E2,E3⟩,EF⟩:=qb D0;have HD:=qa (xb D0 (xb D1 D2))
 have HB:=qa bX
 have hsX:=qa sX
 obtain⟨K,hK⟩:∃ K,K=n.keys.length:=⟨_,rfl⟩;obtain⟨V,hV⟩:∃ K,K=n.vals.length:=⟨_,rfl⟩;obtain⟨Z,hZ⟩:∃ K,K=n.kids.length:=⟨_,rfl⟩;rw[<-hK] at hi hl hX HD E1 hkc
 (try rw[<-hK] at HRR)
 simp only[<-hV,<-hZ] at hX HRR HD E2 E3;dsimp only[nv];rw[<-hK,<-hV,<-hZ];have hcl:=qa (show (∀ a b c,nv (QT n i) a b c=.agg #[.bool true,a,b,c])/\∀ a b c,nv (QW n i) a b c=.agg #[.bool true,a,b,c] by unfold QT QW;rw[hlf];exact⟨fun _ _ _=>rfl,fun _ _ _=>rfl⟩)
 have g1:i<=K:=by omega
 have g2:i<=V:=by omega
 have g3:i<=kc:=by omega
 have g4:i<=vc:=by rw[<-hV] at hvc;omega
 rw[hlf] at hX HD E0 |-;have hXd:Hid (Below X.heap.size X X.drew):=qg X 1 _
 rw[hX] at E0 E1 E2 E3 EF;replace hK:=qa hK;replace hV:=qa hV;replace hZ:=qa hZ;replace hgd:=qa hgd;replace hlf:=qa hlf;replace hx:=qa hx;clear D0 D1 D2 bX hr h0 RL RR hy hvx hvc hlv;go_enter Tryz.func114,Tryz.ntmps114
 go_upto_region 2 with fail
 rw[<-hX];replace hX:=qa hX;clear E0 E1 E2 E3 EF
 -- the left part
 obtain⟨⟨E0,E1,E2,E3⟩,EF⟩:=qb (qy HD.out.1);refine qj (fun w'=>w'.cell? ⟨w.heap.size,1,none⟩=some (.slice (some ⟨kb,ko,none⟩) K kc)/\w'.cell? ⟨w.heap.size,2,none⟩=some (.slice (some ⟨vb,vo,none⟩) V vc)) 9 10 qG (by kernel_rfl) (fun _ _ _ _ h=>h) ⟨E1,E2⟩ ?_
 dsimp only[List.take,List.drop]
 iterate 9
  refine qA (v:=?_) (by rfl) ?_ ?_
  rotate_left
  ·rintro w' ⟨s1,s2⟩;go_simp;try with_reducible rfl
  try simp only[Act.put,qB5]
 refine qM fun K' hK'=>?_;rw[xj (by rfl)]
 go_simp;refine hK' _ _ ⟨Qq E1 _,Qq E2 _⟩ ?_;clear hK' K';show wpList _ _ _ _ _ _
 obtain⟨Y,hY,DY,bY,sY⟩:=qf X.drew #[.bool true,(.slice (some ⟨kb,ko,none⟩) i kc),(.slice (some ⟨vb,vo,none⟩) i vc),(.slice none 0 0)] 84;have bXY:=hXd.out.trans (bY.mono hXd.out.size)
 have HY:=qa (xb (xb ((bXY.block _ (xa HD.out.1)).trans HD.out.1) (xb ((bXY.block _ (xa HD.out.2.1)).trans HD.out.2.1) ((bXY.block _ (xa HD.out.2.2)).trans HD.out.2.2))) (xb DY bXY))
 have hsY:Hid (Y.heap.size=w.heap.size+3+1):=by show _=_;rw[sY];show X.heap.size+1=_;rw[hsX.out]
 clear E0 E1 E2 E3 EF DY bY bXY sY
 go_upto_region 3 with fail
 have hY':(X.alloc (.cells #[.bool true,(.slice (some ⟨kb,ko,none⟩) i kc),(.slice (some ⟨vb,vo,none⟩) i vc),(.slice none 0 0)] 84)).drew=Y:=by rw[hY];rfl
 rw[hY'];clear hY';replace hY:=qa hY
 -- the right part
 have hYd:Hid (Below Y.heap.size Y Y.drew):=qg Y 1 _
 obtain⟨⟨E0,E1,E2,E3⟩,EF⟩:=qb (qy HY.out.1.1);refine qj (fun w'=>w'.cell? ⟨w.heap.size,1,none⟩=some (.slice (some ⟨kb,ko,none⟩) K kc)/\w'.cell? ⟨w.heap.size,2,none⟩=some (.slice (some ⟨vb,vo,none⟩) V vc)) 9 10 qG (by kernel_rfl) (fun _ _ _ _ h=>h) ⟨E1,E2⟩ ?_
 dsimp only[List.take,List.drop]
 iterate 9
  refine qA (v:=?_) (by rfl) ?_ ?_
  rotate_left
  ·rintro w' ⟨s1,s2⟩;go_simp;try with_reducible rfl
  try simp only[Act.put,qB5]
 refine qM fun K' hK'=>?_;rw[xj (by rfl)]
 go_simp;refine hK' _ _ ⟨Qq E1 _,Qq E2 _⟩ ?_;clear hK' K';show wpList _ _ _ _ _ _
 obtain⟨U,hU,DU,bU,sU⟩:=qf Y.drew #[.bool true,(.slice (some ⟨kb,ko+i,none⟩) (K-i) (kc-i)),(.slice (some ⟨vb,vo+i,none⟩) (V-i) (vc-i)),(.slice none 0 0)] 84;have bYU:=hYd.out.trans (bU.mono hYd.out.size)
 have bXU:=HY.out.2.2.trans (bYU.mono HY.out.2.2.size)
 have DL:=(bYU.block _ (xa HY.out.2.1)).trans HY.out.2.1
 have e3:X.drew.heap.size=w.heap.size+3:=hsX.out
 have e4:Y.drew.heap.size=w.heap.size+3+1:=hsY.out
 rw[e3] at DL;rw[e4] at DU;have HU:=qa (xb (xb ((bYU.block _ (xa HY.out.1.1)).trans HY.out.1.1) (xb ((bYU.block _ (xa HY.out.1.2.1)).trans HY.out.1.2.1) ((bYU.block _ (xa HY.out.1.2.2)).trans HY.out.1.2.2))) (xb DL (xb DU bXU)))
 have hsU:Hid (U.heap.size=w.heap.size+3+1+1):=by show _=_;rw[sU,e4]
 clear E0 E1 E2 E3 EF DU DL bU bYU bXU sU HY
 go_upto_region 4 with fail
 have hU':(Y.alloc (.cells #[.bool true,(.slice (some ⟨kb,ko+i,none⟩) (K-i) (kc-i)),(.slice (some ⟨vb,vo+i,none⟩) (V-i) (vc-i)),(.slice none 0 0)] 84)).drew=U:=by rw[hU];rfl
 rw[hU',hsY.out];clear hU';replace hU:=qa hU;clear e3 e4
 -- both are told
 have hUd:Hid (Below U.heap.size U U.drew):=qg U 1 _
 obtain⟨Z',hZ'⟩:∃ Z,Z=U.drew:=⟨_,rfl⟩;rw[<-hZ'] at hUd;obtain⟨⟨E0,E1,E2,E3⟩,EF⟩:=qb ((hUd.out.block _ (xa HU.out.1.1)).trans HU.out.1.1);obtain⟨⟨L0,L1,L2,L3⟩,LF⟩:=qb ((hUd.out.block _ (xa HU.out.2.1)).trans HU.out.2.1);obtain⟨⟨R0,R1,R2,R3⟩,RF⟩:=qb ((hUd.out.block _ (xa HU.out.2.2.1)).trans HU.out.2.2.1);have R1':=(hUd.out.block _ (xa HU.out.1.2.1)).trans HU.out.1.2.1
 have R2':=(hUd.out.block _ (xa HU.out.1.2.2)).trans HU.out.1.2.2
 obtain⟨⟨P0,P1,P2,P3⟩,PF⟩:=qb R1';have cx:=(hUd.out.cell (xV (qe hcx) HU.out.2.2.2.size)).trans ((HU.out.2.2.2.cell (qe hcx)).trans hcx)
 have hbw:kb<w.heap.size:=hkbw.out
 obtain⟨Q,hQ,q1,q2,q3⟩:=qhs (show w.heap.size+1≠w.heap.size+2 by omega) R1' R2' ((HB.out.trans ((HU.out.2.2.2.trans (hUd.out.mono HU.out.2.2.2.size)).mono HB.out.size))) (show w.heap.size<=w.heap.size+1 by omega) (show w.heap.size<=w.heap.size+2 by omega) (.bool true) (.slice (some ⟨kb,ko,none⟩) i kc) (.slice (some ⟨vb,vo,none⟩) i vc) (.slice none 0 0) (.bool true) (.slice (some ⟨kb,ko+i,none⟩) (K-i) (kc-i)) (.slice (some ⟨vb,vo+i,none⟩) (V-i) (vc-i)) (.slice none 0 0)
 refine qj (fun w'=>(w'.cell? ⟨w.heap.size,1,none⟩=some (.slice (some ⟨kb,ko,none⟩) K kc)/\w'.cell? ⟨kb,ko+i,none⟩=some (st x))/\(w'.cell? ⟨w.heap.size+3,0,none⟩=some (.bool true)/\w'.cell? ⟨w.heap.size+3,1,none⟩=some (.slice (some ⟨kb,ko,none⟩) i kc)/\w'.cell? ⟨w.heap.size+3,2,none⟩=some (.slice (some ⟨vb,vo,none⟩) i vc)/\w'.cell? ⟨w.heap.size+3,3,none⟩=some (.slice none 0 0))/\
  (w'.cell? ⟨w.heap.size+3+1,0,none⟩=some (.bool true)/\w'.cell? ⟨w.heap.size+3+1,1,none⟩=some (.slice (some ⟨kb,ko+i,none⟩) (K-i) (kc-i))/\w'.cell? ⟨w.heap.size+3+1,2,none⟩=some (.slice (some ⟨vb,vo+i,none⟩) (V-i) (vc-i))/\w'.cell? ⟨w.heap.size+3+1,3,none⟩=some (.slice none 0 0))) 7 9 qG (by kernel_rfl) (fun _ _ _ _ h=>h) (by rw[<-hZ'];exact⟨⟨E1,cx⟩,⟨L0,L1,L2,L3⟩,⟨R0,R1,R2,R3⟩⟩) ?_
 dsimp only[List.take,List.drop]
 iterate 7
  refine qA (v:=?_) (by rfl) ?_ ?_
  rotate_left
  ·rintro w' ⟨⟨s1,s2⟩,⟨s3,s4,s5,s6⟩,⟨s7,s8,s9,s10⟩⟩;go_simp;try with_reducible rfl
  try simp only[Act.put,qB5]
 rw[<-hZ'];replace hZ':=qa hZ';refine qM fun K' hK'=>?_;rw[xj (by rfl)]
 go_simp
 have oth:∀ (b j:Nat) (u:Value),Z'.cell? ⟨b,j,none⟩=some u->b≠w.heap.size+1->(S4 (w.heap.size+1) Z' (.bool true) (.slice (some ⟨kb,ko,none⟩) i kc) (.slice (some ⟨vb,vo,none⟩) i vc) (.slice none 0 0)).cell? ⟨b,j,none⟩=some u:=fun b j u hc hne=>by
  have e9:=QE (w:=Z') (g:=w.heap.size+1) (.bool true) (.slice (some ⟨kb,ko,none⟩) i kc) (.slice (some ⟨vb,vo,none⟩) i vc) (.slice none 0 0) hne
  simp only[World.cell?] at hc |-;rw[e9];exact hc
 refine hK' _ _ ⟨⟨oth _ _ _ E1 (by omega),oth _ _ _ cx (by omega)⟩,⟨oth _ _ _ L0 (by omega),oth _ _ _ L1 (by omega),oth _ _ _ L2 (by omega),oth _ _ _ L3 (by omega)⟩,⟨oth _ _ _ R0 (by omega),oth _ _ _ R1 (by omega),oth _ _ _ R2 (by omega),oth _ _ _ R3 (by omega)⟩⟩ ?_
 clear hK' K';refine qM fun K' hK'=>?_;rw[xj (by rfl)]
 go_simp;refine hK' _ _ ⟨⟨oth _ _ _ E1 (by omega),oth _ _ _ cx (by omega)⟩,⟨oth _ _ _ L0 (by omega),oth _ _ _ L1 (by omega),oth _ _ _ L2 (by omega),oth _ _ _ L3 (by omega)⟩,⟨oth _ _ _ R0 (by omega),oth _ _ _ R1 (by omega),oth _ _ _ R2 (by omega),oth _ _ _ R3 (by omega)⟩⟩ ?_
 clear hK' K';show wpList _ _ _ _ _ _
 have O2:(S4 (w.heap.size+1) Z' (.bool true) (.slice (some ⟨kb,ko,none⟩) i kc) (.slice (some ⟨vb,vo,none⟩) i vc) (.slice none 0 0)).heap[w.heap.size+1+1]?=some (.cells #[.bool false,.slice none 0 0,.slice none 0 0,.slice none 0 0] 84 (0,0)):=(QE _ _ _ _ (show w.heap.size+1+1≠w.heap.size+1 by omega)).trans R2'
 obtain⟨⟨M0,M1,M2,M3⟩,MF⟩:=qb O2;have FIN:Hid (RdK Q (.slice (some ⟨kb,ko,none⟩) i kc) (.slice (some ⟨vb,vo,none⟩) i vc) (.slice none 0 0) (QT n i)/\RdK Q (.slice (some ⟨kb,ko+i,none⟩) (K-i) (kc-i)) (.slice (some ⟨vb,vo+i,none⟩) (V-i) (vc-i)) (.slice none 0 0) (QW n i)):=⟨HRR.out.1.to q3,HRR.out.2.to q3⟩
 have HQ1:=qa q1
 have HQ2:=qa q2
 have HQ3:=qa q3
 rw[hQ] at HQ1 HQ2 HQ3 FIN;clear E0 E1 E2 E3 EF L0 L1 L2 L3 LF R0 R1 R2 R3 RF P0 P1 P2 P3 PF R1' R2' cx oth q1 q2 q3 hQ O2;go_wp2;refine qgl rfl rfl (w.heap.size+1) (w.heap.size+2) rfl rfl _ _ _ _ (0,0) (0,0) HQ1.out HQ2.out _ _ xJ rfl Qe xJ rfl Qe _ rfl ?_;refine⟨_,_,_,_,_,_,?_,FIN.out.1,FIN.out.2,HQ3.out⟩;rw[hgd.out,hcl.out.1,hcl.out.2];rfl
theorem qj2 (w:World) (n:Nd) (kv vv dv:Value) (i:Nat) (h0:RdK w kv vv dv n) (hi:i<n.keys.length) (hl:n.keys.length<=1000) (hlf:n.leaf=false) (hkd:n.kids.length=n.keys.length+1) (hq:∀ a c,kv=.slice a n.keys.length c->¬ c=i+1) :
 Calls Tryz.prog 114 #[nv n kv vv dv,.int .i64 (i:Int)] w fun e w'=>qpt w w' n i e:=by
 have hr:=h0.rd
 obtain⟨ka,kc,va,vc,da,dc,rfl,rfl,rfl⟩:=hr.slices;obtain⟨x,hx⟩:∃ x,n.keys[i]?=some x:=⟨_,xg hi⟩;have hgd:n.keys.getD i []=x:=by rw[xe,hx];rfl
 obtain⟨X,hX,D0,D1,D2,bX,sX⟩:=qc4 w (.bool n.leaf) (.slice ka n.keys.length kc) (.slice va n.vals.length vc) (.slice da n.kids.length dc) 84;have hkc:=Jp hr.keys
 obtain⟨kb,ko,rfl,hcx⟩:=hr.keys.strAt hx;have hkbw:Hid (kb<w.heap.size):=qe hcx
 replace hcx:=(bX.cell (qe hcx)).trans hcx;have hck:=hq _ _ rfl
 have hdc:=Jp hr.kids
 obtain⟨y,hy⟩:∃ y,n.kids[0]?=some y:=⟨_,xg (by omega)⟩
 obtain⟨db,dO,rfl,hvx⟩:=hr.kids.intAt hy;have hcv:¬ dc=i+1:=by omega
 have RL:RdK w (.slice (some ⟨kb,ko,none⟩) i kc) (.slice none 0 0) (.slice (some ⟨db,dO,none⟩) (i+1) dc) (QT n i):=by
  unfold QT;rw[hlf,xh (by decide)]
  exact⟨⟨jo hr.keys (by omega),Vj _,jo hr.kids (by omega)⟩,h0.tk.same _ _,TyB.nil _ _ _ _,h0.td.same _ _⟩
 have RR:RdK w (.slice (some ⟨kb,ko+(i+1),none⟩) (n.keys.length-(i+1)) (kc-(i+1))) (.slice none 0 0) (.slice (some ⟨db,dO+(i+1),none⟩) (n.kids.length-(i+1)) (dc-(i+1))) (QW n i):=by
  unfold QW;rw[hlf,xh (by decide)]
  exact⟨⟨JW rfl hr.keys (by omega) hck,Vj _,JW rfl hr.kids (by omega) hcv⟩,h0.tk.part rfl,TyB.nil _ _ _ _,h0.td.part rfl⟩
 have HRR:=qa (xb RL RR)
 obtain⟨⟨E0,E1,E2,E3⟩,EF⟩:=qb D0;have HD:=qa (xb D0 (xb D1 D2))
 have HB:=qa bX
 have hsX:=qa sX
 obtain⟨K,hK⟩:∃ K,K=n.keys.length:=⟨_,rfl⟩;obtain⟨V,hV⟩:∃ K,K=n.vals.length:=⟨_,rfl⟩;obtain⟨Z,hZ⟩:∃ K,K=n.kids.length:=⟨_,rfl⟩;rw[<-hK] at hi hl hX HD E1 hkc
 (try rw[<-hK] at HRR)
 simp only[<-hV,<-hZ] at hX HRR HD E2 E3;dsimp only[nv];rw[<-hK,<-hV,<-hZ];have hcl:=qa (show (∀ a b c,nv (QT n i) a b c=.agg #[.bool false,a,b,c])/\∀ a b c,nv (QW n i) a b c=.agg #[.bool false,a,b,c] by unfold QT QW;rw[hlf];exact⟨fun _ _ _=>rfl,fun _ _ _=>rfl⟩)
 have g2:i+1<=Z:=by rw[hZ,hkd];omega
 have g4:i+1<=dc:=by omega
 have g5:IntKind.i64.wrap ((i:Int)+1)=(i:Int)+1:=xB _ (by omega)
 have g6:(0:Int)<=(i:Int)+1:=by omega
 have g7:((i:Int)+1).toNat=i+1:=by omega
 have g8:(i:Int)+1<=(Z:Int):=by omega
 have g9:(i:Int)+1<=(dc:Int):=by omega
 have g1:i<=K:=by omega
 have g3:i<=kc:=by omega
 have g10:(i:Int)+1<=(K:Int):=by omega
 have g11:(i:Int)+1<=(kc:Int):=by omega
 have g12:i+1<=K:=by omega
 rw[hlf] at hX HD E0 |-;have hXd:Hid (Below X.heap.size X X.drew):=qg X 1 _
 rw[hX] at E0 E1 E2 E3 EF;replace hK:=qa hK;replace hV:=qa hV;replace hZ:=qa hZ;replace hgd:=qa hgd;replace hlf:=qa hlf;replace hx:=qa hx;clear D0 D1 D2 bX hr h0 RL RR hy hvx hdc hkd hq;go_enter Tryz.func114,Tryz.ntmps114
 go_upto_region 5 with fail
 rw[<-hX];replace hX:=qa hX;clear E0 E1 E2 E3 EF
 -- the left part
 obtain⟨⟨E0,E1,E2,E3⟩,EF⟩:=qb (qy HD.out.1);refine qj (fun w'=>w'.cell? ⟨w.heap.size,1,none⟩=some (.slice (some ⟨kb,ko,none⟩) K kc)/\w'.cell? ⟨w.heap.size,3,none⟩=some (.slice (some ⟨db,dO,none⟩) Z dc)) 10 11 qG (by kernel_rfl) (fun _ _ _ _ h=>h) ⟨E1,E3⟩ ?_
 dsimp only[List.take,List.drop]
 iterate 10
  refine qA (v:=?_) (by rfl) ?_ ?_
  rotate_left
  ·rintro w' ⟨s1,s2⟩;go_simp;try with_reducible rfl
  try simp only[Act.put,qB5]
 refine qM fun K' hK'=>?_;rw[xj (by rfl)]
 go_simp;refine hK' _ _ ⟨Qq E1 _,Qq E3 _⟩ ?_;clear hK' K';show wpList _ _ _ _ _ _
 obtain⟨Y,hY,DY,bY,sY⟩:=qf X.drew #[.bool false,(.slice (some ⟨kb,ko,none⟩) i kc),(.slice none 0 0),(.slice (some ⟨db,dO,none⟩) (i+1) dc)] 84;have bXY:=hXd.out.trans (bY.mono hXd.out.size)
 have HY:=qa (xb (xb ((bXY.block _ (xa HD.out.1)).trans HD.out.1) (xb ((bXY.block _ (xa HD.out.2.1)).trans HD.out.2.1) ((bXY.block _ (xa HD.out.2.2)).trans HD.out.2.2))) (xb DY bXY))
 have hsY:Hid (Y.heap.size=w.heap.size+3+1):=by show _=_;rw[sY];show X.heap.size+1=_;rw[hsX.out]
 clear E0 E1 E2 E3 EF DY bY bXY sY
 go_upto_region 6 with fail
 have hY':(X.alloc (.cells #[.bool false,(.slice (some ⟨kb,ko,none⟩) i kc),(.slice none 0 0),(.slice (some ⟨db,dO,none⟩) (i+1) dc)] 84)).drew=Y:=by rw[hY];rfl
 rw[hY'];clear hY';replace hY:=qa hY
 -- the right part
 have hYd:Hid (Below Y.heap.size Y Y.drew):=qg Y 1 _
 obtain⟨⟨E0,E1,E2,E3⟩,EF⟩:=qb (qy HY.out.1.1);refine qj (fun w'=>w'.cell? ⟨w.heap.size,1,none⟩=some (.slice (some ⟨kb,ko,none⟩) K kc)/\w'.cell? ⟨w.heap.size,3,none⟩=some (.slice (some ⟨db,dO,none⟩) Z dc)) 11 12 qG (by kernel_rfl) (fun _ _ _ _ h=>h) ⟨E1,E3⟩ ?_
 dsimp only[List.take,List.drop]
 iterate 11
  refine qA (v:=?_) (by rfl) ?_ ?_
  rotate_left
  ·rintro w' ⟨s1,s2⟩;go_simp;try with_reducible rfl
  try simp only[Act.put,qB5]
 refine qM fun K' hK'=>?_;rw[xj (by rfl)]
 go_simp;refine hK' _ _ ⟨Qq E1 _,Qq E3 _⟩ ?_;clear hK' K';show wpList _ _ _ _ _ _
 obtain⟨U,hU,DU,bU,sU⟩:=qf Y.drew #[.bool false,(.slice (some ⟨kb,ko+(i+1),none⟩) (K-(i+1)) (kc-(i+1))),(.slice none 0 0),(.slice (some ⟨db,dO+(i+1),none⟩) (Z-(i+1)) (dc-(i+1)))] 84;have bYU:=hYd.out.trans (bU.mono hYd.out.size)
 have bXU:=HY.out.2.2.trans (bYU.mono HY.out.2.2.size)
 have DL:=(bYU.block _ (xa HY.out.2.1)).trans HY.out.2.1
 have e3:X.drew.heap.size=w.heap.size+3:=hsX.out
 have e4:Y.drew.heap.size=w.heap.size+3+1:=hsY.out
 rw[e3] at DL;rw[e4] at DU;have HU:=qa (xb (xb ((bYU.block _ (xa HY.out.1.1)).trans HY.out.1.1) (xb ((bYU.block _ (xa HY.out.1.2.1)).trans HY.out.1.2.1) ((bYU.block _ (xa HY.out.1.2.2)).trans HY.out.1.2.2))) (xb DL (xb DU bXU)))
 have hsU:Hid (U.heap.size=w.heap.size+3+1+1):=by show _=_;rw[sU,e4]
 clear E0 E1 E2 E3 EF DU DL bU bYU bXU sU HY
 go_upto_region 7 with fail
 have hU':(Y.alloc (.cells #[.bool false,(.slice (some ⟨kb,ko+(i+1),none⟩) (K-(i+1)) (kc-(i+1))),(.slice none 0 0),(.slice (some ⟨db,dO+(i+1),none⟩) (Z-(i+1)) (dc-(i+1)))] 84)).drew=U:=by rw[hU];rfl
 rw[hU',hsY.out];clear hU';replace hU:=qa hU;clear e3 e4
 -- both are told
 have hUd:Hid (Below U.heap.size U U.drew):=qg U 1 _
 obtain⟨Z',hZ'⟩:∃ Z,Z=U.drew:=⟨_,rfl⟩;rw[<-hZ'] at hUd;obtain⟨⟨E0,E1,E2,E3⟩,EF⟩:=qb ((hUd.out.block _ (xa HU.out.1.1)).trans HU.out.1.1);obtain⟨⟨L0,L1,L2,L3⟩,LF⟩:=qb ((hUd.out.block _ (xa HU.out.2.1)).trans HU.out.2.1);obtain⟨⟨R0,R1,R2,R3⟩,RF⟩:=qb ((hUd.out.block _ (xa HU.out.2.2.1)).trans HU.out.2.2.1);have R1':=(hUd.out.block _ (xa HU.out.1.2.1)).trans HU.out.1.2.1
 have R2':=(hUd.out.block _ (xa HU.out.1.2.2)).trans HU.out.1.2.2
 obtain⟨⟨P0,P1,P2,P3⟩,PF⟩:=qb R1';have cx:=(hUd.out.cell (xV (qe hcx) HU.out.2.2.2.size)).trans ((HU.out.2.2.2.cell (qe hcx)).trans hcx)
 have hbw:kb<w.heap.size:=hkbw.out
 obtain⟨Q,hQ,q1,q2,q3⟩:=qhs (show w.heap.size+1≠w.heap.size+2 by omega) R1' R2' ((HB.out.trans ((HU.out.2.2.2.trans (hUd.out.mono HU.out.2.2.2.size)).mono HB.out.size))) (show w.heap.size<=w.heap.size+1 by omega) (show w.heap.size<=w.heap.size+2 by omega) (.bool false) (.slice (some ⟨kb,ko,none⟩) i kc) (.slice none 0 0) (.slice (some ⟨db,dO,none⟩) (i+1) dc) (.bool false) (.slice (some ⟨kb,ko+(i+1),none⟩) (K-(i+1)) (kc-(i+1))) (.slice none 0 0) (.slice (some ⟨db,dO+(i+1),none⟩) (Z-(i+1)) (dc-(i+1)))
 refine qj (fun w'=>(w'.cell? ⟨w.heap.size,1,none⟩=some (.slice (some ⟨kb,ko,none⟩) K kc)/\w'.cell? ⟨kb,ko+i,none⟩=some (st x))/\(w'.cell? ⟨w.heap.size+3,0,none⟩=some (.bool false)/\w'.cell? ⟨w.heap.size+3,1,none⟩=some (.slice (some ⟨kb,ko,none⟩) i kc)/\w'.cell? ⟨w.heap.size+3,2,none⟩=some (.slice none 0 0)/\w'.cell? ⟨w.heap.size+3,3,none⟩=some (.slice (some ⟨db,dO,none⟩) (i+1) dc))/\
  (w'.cell? ⟨w.heap.size+3+1,0,none⟩=some (.bool false)/\w'.cell? ⟨w.heap.size+3+1,1,none⟩=some (.slice (some ⟨kb,ko+(i+1),none⟩) (K-(i+1)) (kc-(i+1)))/\w'.cell? ⟨w.heap.size+3+1,2,none⟩=some (.slice none 0 0)/\w'.cell? ⟨w.heap.size+3+1,3,none⟩=some (.slice (some ⟨db,dO+(i+1),none⟩) (Z-(i+1)) (dc-(i+1))))) 7 9 qG (by kernel_rfl) (fun _ _ _ _ h=>h) (by rw[<-hZ'];exact⟨⟨E1,cx⟩,⟨L0,L1,L2,L3⟩,⟨R0,R1,R2,R3⟩⟩) ?_
 dsimp only[List.take,List.drop]
 iterate 7
  refine qA (v:=?_) (by rfl) ?_ ?_
  rotate_left
  ·rintro w' ⟨⟨s1,s2⟩,⟨s3,s4,s5,s6⟩,⟨s7,s8,s9,s10⟩⟩;go_simp;try with_reducible rfl
  try simp only[Act.put,qB5]
 rw[<-hZ'];replace hZ':=qa hZ';refine qM fun K' hK'=>?_;rw[xj (by rfl)]
 go_simp
 have oth:∀ (b j:Nat) (u:Value),Z'.cell? ⟨b,j,none⟩=some u->b≠w.heap.size+1->(S4 (w.heap.size+1) Z' (.bool false) (.slice (some ⟨kb,ko,none⟩) i kc) (.slice none 0 0) (.slice (some ⟨db,dO,none⟩) (i+1) dc)).cell? ⟨b,j,none⟩=some u:=fun b j u hc hne=>by
  have e9:=QE (w:=Z') (g:=w.heap.size+1) (.bool false) (.slice (some ⟨kb,ko,none⟩) i kc) (.slice none 0 0) (.slice (some ⟨db,dO,none⟩) (i+1) dc) hne
  simp only[World.cell?] at hc |-;rw[e9];exact hc
 refine hK' _ _ ⟨⟨oth _ _ _ E1 (by omega),oth _ _ _ cx (by omega)⟩,⟨oth _ _ _ L0 (by omega),oth _ _ _ L1 (by omega),oth _ _ _ L2 (by omega),oth _ _ _ L3 (by omega)⟩,⟨oth _ _ _ R0 (by omega),oth _ _ _ R1 (by omega),oth _ _ _ R2 (by omega),oth _ _ _ R3 (by omega)⟩⟩ ?_
 clear hK' K';refine qM fun K' hK'=>?_;rw[xj (by rfl)]
 go_simp;refine hK' _ _ ⟨⟨oth _ _ _ E1 (by omega),oth _ _ _ cx (by omega)⟩,⟨oth _ _ _ L0 (by omega),oth _ _ _ L1 (by omega),oth _ _ _ L2 (by omega),oth _ _ _ L3 (by omega)⟩,⟨oth _ _ _ R0 (by omega),oth _ _ _ R1 (by omega),oth _ _ _ R2 (by omega),oth _ _ _ R3 (by omega)⟩⟩ ?_
 clear hK' K';show wpList _ _ _ _ _ _
 have O2:(S4 (w.heap.size+1) Z' (.bool false) (.slice (some ⟨kb,ko,none⟩) i kc) (.slice none 0 0) (.slice (some ⟨db,dO,none⟩) (i+1) dc)).heap[w.heap.size+1+1]?=some (.cells #[.bool false,.slice none 0 0,.slice none 0 0,.slice none 0 0] 84 (0,0)):=(QE _ _ _ _ (show w.heap.size+1+1≠w.heap.size+1 by omega)).trans R2'
 obtain⟨⟨M0,M1,M2,M3⟩,MF⟩:=qb O2;have FIN:Hid (RdK Q (.slice (some ⟨kb,ko,none⟩) i kc) (.slice none 0 0) (.slice (some ⟨db,dO,none⟩) (i+1) dc) (QT n i)/\RdK Q (.slice (some ⟨kb,ko+(i+1),none⟩) (K-(i+1)) (kc-(i+1))) (.slice none 0 0) (.slice (some ⟨db,dO+(i+1),none⟩) (Z-(i+1)) (dc-(i+1))) (QW n i)):=⟨HRR.out.1.to q3,HRR.out.2.to q3⟩
 have HQ1:=qa q1
 have HQ2:=qa q2
 have HQ3:=qa q3
 rw[hQ] at HQ1 HQ2 HQ3 FIN;clear E0 E1 E2 E3 EF L0 L1 L2 L3 LF R0 R1 R2 R3 RF P0 P1 P2 P3 PF R1' R2' cx oth q1 q2 q3 hQ O2;go_wp2;refine qgl rfl rfl (w.heap.size+1) (w.heap.size+2) rfl rfl _ _ _ _ (0,0) (0,0) HQ1.out HQ2.out _ _ xJ rfl Qe xJ rfl Qe _ rfl ?_;refine⟨_,_,_,_,_,_,?_,FIN.out.1,FIN.out.2,HQ3.out⟩;rw[hgd.out,hcl.out.1,hcl.out.2];rfl
theorem qj4 (w:World) (n:Nd) (kv vv dv:Value) (i:Nat) (h0:RdK w kv vv dv n) (hi:i<n.keys.length) (hl:n.keys.length<=1000) (hlf:n.leaf=false) (hkd:n.kids.length=n.keys.length+1) (hq:∃ a,kv=.slice a n.keys.length (i+1)) :
 Calls Tryz.prog 114 #[nv n kv vv dv,.int .i64 (i:Int)] w fun e w'=>qpt w w' n i e:=by
 have hr:=h0.rd
 obtain⟨ka,kc,va,vc,da,dc,rfl,rfl,rfl⟩:=hr.slices;obtain⟨x,hx⟩:∃ x,n.keys[i]?=some x:=⟨_,xg hi⟩;have hgd:n.keys.getD i []=x:=by rw[xe,hx];rfl
 obtain⟨X,hX,D0,D1,D2,bX,sX⟩:=qc4 w (.bool n.leaf) (.slice ka n.keys.length kc) (.slice va n.vals.length vc) (.slice da n.kids.length dc) 84;have hkc:=Jp hr.keys
 obtain⟨kb,ko,rfl,hcx⟩:=hr.keys.strAt hx;have hkbw:Hid (kb<w.heap.size):=qe hcx
 replace hcx:=(bX.cell (qe hcx)).trans hcx
 have hkc9:kc=i+1:=by
  obtain⟨a9,e9⟩:=hq;simp only[xH] at e9;exact e9.2.2
 clear hq;subst hkc9;have hkl:n.keys.length=i+1:=by omega
 have hdc:=Jp hr.kids
 obtain⟨y,hy⟩:∃ y,n.kids[0]?=some y:=⟨_,xg (by omega)⟩
 obtain⟨db,dO,rfl,hvx⟩:=hr.kids.intAt hy;have hcv:¬ dc=i+1:=by omega
 have RL:RdK w (.slice (some ⟨kb,ko,none⟩) i (i+1)) (.slice none 0 0) (.slice (some ⟨db,dO,none⟩) (i+1) dc) (QT n i):=by
  unfold QT;rw[hlf,xh (by decide)]
  exact⟨⟨jo hr.keys (by omega),Vj _,jo hr.kids (by omega)⟩,h0.tk.same _ _,TyB.nil _ _ _ _,h0.td.same _ _⟩
 have RR:RdK w (.slice (some ⟨kb,ko,none⟩) 0 0) (.slice none 0 0) (.slice (some ⟨db,dO+(i+1),none⟩) (n.kids.length-(i+1)) (dc-(i+1))) (QW n i):=by
  unfold QW;rw[hlf,xh (by decide)]
  have e0:n.keys.drop (i+1)=[]:=List.drop_of_length_le (by omega)
  refine⟨⟨?_,Vj _,JW rfl hr.kids (by omega) hcv⟩,h0.tk.part rfl,TyB.nil _ _ _ _,h0.td.part rfl⟩
  show RdT _ _ (n.keys.drop (i+1))
  rw[e0];exact⟨_,0,rfl,by simp,by decide,(fun h=>by cases h),.inl rfl⟩
 have HRR:=qa (xb RL RR)
 obtain⟨⟨E0,E1,E2,E3⟩,EF⟩:=qb D0;have HD:=qa (xb D0 (xb D1 D2))
 have HB:=qa bX
 have hsX:=qa sX
 obtain⟨K,hK⟩:∃ K,K=n.keys.length:=⟨_,rfl⟩;obtain⟨V,hV⟩:∃ K,K=n.vals.length:=⟨_,rfl⟩;obtain⟨Z,hZ⟩:∃ K,K=n.kids.length:=⟨_,rfl⟩;rw[<-hK] at hi hl hX HD E1 hkc
 (try rw[<-hK] at HRR)
 simp only[<-hV,<-hZ] at hX HRR HD E2 E3;dsimp only[nv];rw[<-hK,<-hV,<-hZ];obtain rfl:K=i+1:=by omega
 have hcl:=qa (show (∀ a b c,nv (QT n i) a b c=.agg #[.bool false,a,b,c])/\∀ a b c,nv (QW n i) a b c=.agg #[.bool false,a,b,c] by unfold QT QW;rw[hlf];exact⟨fun _ _ _=>rfl,fun _ _ _=>rfl⟩)
 have g2:i+1<=Z:=by rw[hZ,hkd];omega
 have g4:i+1<=dc:=by omega
 have g5:IntKind.i64.wrap ((i:Int)+1)=(i:Int)+1:=xB _ (by omega)
 have g6:(0:Int)<=(i:Int)+1:=by omega
 have g7:((i:Int)+1).toNat=i+1:=by omega
 have g8:(i:Int)+1<=(Z:Int):=by omega
 have g9:(i:Int)+1<=(dc:Int):=by omega
 have g1:(i:Int)<=(i:Int)+1:=by omega
 have g3:(i:Int)<(i:Int)+1:=by omega
 rw[hlf] at hX HD E0 |-;have hXd:Hid (Below X.heap.size X X.drew):=qg X 1 _
 rw[hX] at E0 E1 E2 E3 EF;replace hK:=qa hK;replace hV:=qa hV;replace hZ:=qa hZ;replace hgd:=qa hgd;replace hlf:=qa hlf;replace hx:=qa hx;clear D0 D1 D2 bX hr h0 RL RR hy hvx hdc hkd hkl;go_enter Tryz.func114,Tryz.ntmps114
 go_upto_region 5 with fail
 rw[<-hX];replace hX:=qa hX;clear E0 E1 E2 E3 EF
 -- the left part
 obtain⟨⟨E0,E1,E2,E3⟩,EF⟩:=qb (qy HD.out.1);refine qj (fun w'=>w'.cell? ⟨w.heap.size,1,none⟩=some (.slice (some ⟨kb,ko,none⟩) (i+1) (i+1))/\w'.cell? ⟨w.heap.size,3,none⟩=some (.slice (some ⟨db,dO,none⟩) Z dc)) 10 11 qG (by kernel_rfl) (fun _ _ _ _ h=>h) ⟨E1,E3⟩ ?_
 dsimp only[List.take,List.drop]
 iterate 10
  refine qA (v:=?_) (by rfl) ?_ ?_
  rotate_left
  ·rintro w' ⟨s1,s2⟩;go_simp;try with_reducible rfl
  try simp only[Act.put,qB5]
 refine qM fun K' hK'=>?_;rw[xj (by rfl)]
 go_simp;refine hK' _ _ ⟨Qq E1 _,Qq E3 _⟩ ?_;clear hK' K';show wpList _ _ _ _ _ _
 obtain⟨Y,hY,DY,bY,sY⟩:=qf X.drew #[.bool false,(.slice (some ⟨kb,ko,none⟩) i (i+1)),(.slice none 0 0),(.slice (some ⟨db,dO,none⟩) (i+1) dc)] 84;have bXY:=hXd.out.trans (bY.mono hXd.out.size)
 have HY:=qa (xb (xb ((bXY.block _ (xa HD.out.1)).trans HD.out.1) (xb ((bXY.block _ (xa HD.out.2.1)).trans HD.out.2.1) ((bXY.block _ (xa HD.out.2.2)).trans HD.out.2.2))) (xb DY bXY))
 have hsY:Hid (Y.heap.size=w.heap.size+3+1):=by show _=_;rw[sY];show X.heap.size+1=_;rw[hsX.out]
 clear E0 E1 E2 E3 EF DY bY bXY sY
 go_upto_region 6 with fail
 have hY':(X.alloc (.cells #[.bool false,(.slice (some ⟨kb,ko,none⟩) i (i+1)),(.slice none 0 0),(.slice (some ⟨db,dO,none⟩) (i+1) dc)] 84)).drew=Y:=by rw[hY];rfl
 rw[hY'];clear hY';replace hY:=qa hY
 -- the right part
 have hYd:Hid (Below Y.heap.size Y Y.drew):=qg Y 1 _
 obtain⟨⟨E0,E1,E2,E3⟩,EF⟩:=qb (qy HY.out.1.1);refine qj (fun w'=>w'.cell? ⟨w.heap.size,1,none⟩=some (.slice (some ⟨kb,ko,none⟩) (i+1) (i+1))/\w'.cell? ⟨w.heap.size,3,none⟩=some (.slice (some ⟨db,dO,none⟩) Z dc)) 11 12 qG (by kernel_rfl) (fun _ _ _ _ h=>h) ⟨E1,E3⟩ ?_
 dsimp only[List.take,List.drop]
 iterate 11
  refine qA (v:=?_) (by rfl) ?_ ?_
  rotate_left
  ·rintro w' ⟨s1,s2⟩;go_simp;try with_reducible rfl
  try simp only[Act.put,qB5]
 refine qM fun K' hK'=>?_;rw[xj (by rfl)]
 go_simp;refine hK' _ _ ⟨Qq E1 _,Qq E3 _⟩ ?_;clear hK' K';show wpList _ _ _ _ _ _
 obtain⟨U,hU,DU,bU,sU⟩:=qf Y.drew #[.bool false,(.slice (some ⟨kb,ko,none⟩) 0 0),(.slice none 0 0),(.slice (some ⟨db,dO+(i+1),none⟩) (Z-(i+1)) (dc-(i+1)))] 84;have bYU:=hYd.out.trans (bU.mono hYd.out.size)
 have bXU:=HY.out.2.2.trans (bYU.mono HY.out.2.2.size)
 have DL:=(bYU.block _ (xa HY.out.2.1)).trans HY.out.2.1
 have e3:X.drew.heap.size=w.heap.size+3:=hsX.out
 have e4:Y.drew.heap.size=w.heap.size+3+1:=hsY.out
 rw[e3] at DL;rw[e4] at DU;have HU:=qa (xb (xb ((bYU.block _ (xa HY.out.1.1)).trans HY.out.1.1) (xb ((bYU.block _ (xa HY.out.1.2.1)).trans HY.out.1.2.1) ((bYU.block _ (xa HY.out.1.2.2)).trans HY.out.1.2.2))) (xb DL (xb DU bXU)))
 have hsU:Hid (U.heap.size=w.heap.size+3+1+1):=by show _=_;rw[sU,e4]
 clear E0 E1 E2 E3 EF DU DL bU bYU bXU sU HY
 go_upto_region 7 with fail
 have hU':(Y.alloc (.cells #[.bool false,(.slice (some ⟨kb,ko,none⟩) 0 0),(.slice none 0 0),(.slice (some ⟨db,dO+(i+1),none⟩) (Z-(i+1)) (dc-(i+1)))] 84)).drew=U:=by rw[hU];rfl
 rw[hU',hsY.out];clear hU';replace hU:=qa hU;clear e3 e4
 -- both are told
 have hUd:Hid (Below U.heap.size U U.drew):=qg U 1 _
 obtain⟨Z',hZ'⟩:∃ Z,Z=U.drew:=⟨_,rfl⟩;rw[<-hZ'] at hUd;obtain⟨⟨E0,E1,E2,E3⟩,EF⟩:=qb ((hUd.out.block _ (xa HU.out.1.1)).trans HU.out.1.1);obtain⟨⟨L0,L1,L2,L3⟩,LF⟩:=qb ((hUd.out.block _ (xa HU.out.2.1)).trans HU.out.2.1);obtain⟨⟨R0,R1,R2,R3⟩,RF⟩:=qb ((hUd.out.block _ (xa HU.out.2.2.1)).trans HU.out.2.2.1);have R1':=(hUd.out.block _ (xa HU.out.1.2.1)).trans HU.out.1.2.1
 have R2':=(hUd.out.block _ (xa HU.out.1.2.2)).trans HU.out.1.2.2
 obtain⟨⟨P0,P1,P2,P3⟩,PF⟩:=qb R1';have cx:=(hUd.out.cell (xV (qe hcx) HU.out.2.2.2.size)).trans ((HU.out.2.2.2.cell (qe hcx)).trans hcx)
 have hbw:kb<w.heap.size:=hkbw.out
 obtain⟨Q,hQ,q1,q2,q3⟩:=qhs (show w.heap.size+1≠w.heap.size+2 by omega) R1' R2' ((HB.out.trans ((HU.out.2.2.2.trans (hUd.out.mono HU.out.2.2.2.size)).mono HB.out.size))) (show w.heap.size<=w.heap.size+1 by omega) (show w.heap.size<=w.heap.size+2 by omega) (.bool false) (.slice (some ⟨kb,ko,none⟩) i (i+1)) (.slice none 0 0) (.slice (some ⟨db,dO,none⟩) (i+1) dc) (.bool false) (.slice (some ⟨kb,ko,none⟩) 0 0) (.slice none 0 0) (.slice (some ⟨db,dO+(i+1),none⟩) (Z-(i+1)) (dc-(i+1)))
 refine qj (fun w'=>(w'.cell? ⟨w.heap.size,1,none⟩=some (.slice (some ⟨kb,ko,none⟩) (i+1) (i+1))/\w'.cell? ⟨kb,ko+i,none⟩=some (st x))/\(w'.cell? ⟨w.heap.size+3,0,none⟩=some (.bool false)/\w'.cell? ⟨w.heap.size+3,1,none⟩=some (.slice (some ⟨kb,ko,none⟩) i (i+1))/\w'.cell? ⟨w.heap.size+3,2,none⟩=some (.slice none 0 0)/\w'.cell? ⟨w.heap.size+3,3,none⟩=some (.slice (some ⟨db,dO,none⟩) (i+1) dc))/\
  (w'.cell? ⟨w.heap.size+3+1,0,none⟩=some (.bool false)/\w'.cell? ⟨w.heap.size+3+1,1,none⟩=some (.slice (some ⟨kb,ko,none⟩) 0 0)/\w'.cell? ⟨w.heap.size+3+1,2,none⟩=some (.slice none 0 0)/\w'.cell? ⟨w.heap.size+3+1,3,none⟩=some (.slice (some ⟨db,dO+(i+1),none⟩) (Z-(i+1)) (dc-(i+1))))) 7 9 qG (by kernel_rfl) (fun _ _ _ _ h=>h) (by rw[<-hZ'];exact⟨⟨E1,cx⟩,⟨L0,L1,L2,L3⟩,⟨R0,R1,R2,R3⟩⟩) ?_
 dsimp only[List.take,List.drop]
 iterate 7
  refine qA (v:=?_) (by rfl) ?_ ?_
  rotate_left
  ·rintro w' ⟨⟨s1,s2⟩,⟨s3,s4,s5,s6⟩,⟨s7,s8,s9,s10⟩⟩;go_simp;try with_reducible rfl
  try simp only[Act.put,qB5]
 rw[<-hZ'];replace hZ':=qa hZ';refine qM fun K' hK'=>?_;rw[xj (by rfl)]
 go_simp
 have oth:∀ (b j:Nat) (u:Value),Z'.cell? ⟨b,j,none⟩=some u->b≠w.heap.size+1->(S4 (w.heap.size+1) Z' (.bool false) (.slice (some ⟨kb,ko,none⟩) i (i+1)) (.slice none 0 0) (.slice (some ⟨db,dO,none⟩) (i+1) dc)).cell? ⟨b,j,none⟩=some u:=fun b j u hc hne=>by
  have e9:=QE (w:=Z') (g:=w.heap.size+1) (.bool false) (.slice (some ⟨kb,ko,none⟩) i (i+1)) (.slice none 0 0) (.slice (some ⟨db,dO,none⟩) (i+1) dc) hne
  simp only[World.cell?] at hc |-;rw[e9];exact hc
 refine hK' _ _ ⟨⟨oth _ _ _ E1 (by omega),oth _ _ _ cx (by omega)⟩,⟨oth _ _ _ L0 (by omega),oth _ _ _ L1 (by omega),oth _ _ _ L2 (by omega),oth _ _ _ L3 (by omega)⟩,⟨oth _ _ _ R0 (by omega),oth _ _ _ R1 (by omega),oth _ _ _ R2 (by omega),oth _ _ _ R3 (by omega)⟩⟩ ?_
 clear hK' K';refine qM fun K' hK'=>?_;rw[xj (by rfl)]
 go_simp;refine hK' _ _ ⟨⟨oth _ _ _ E1 (by omega),oth _ _ _ cx (by omega)⟩,⟨oth _ _ _ L0 (by omega),oth _ _ _ L1 (by omega),oth _ _ _ L2 (by omega),oth _ _ _ L3 (by omega)⟩,⟨oth _ _ _ R0 (by omega),oth _ _ _ R1 (by omega),oth _ _ _ R2 (by omega),oth _ _ _ R3 (by omega)⟩⟩ ?_
 clear hK' K';show wpList _ _ _ _ _ _
 have O2:(S4 (w.heap.size+1) Z' (.bool false) (.slice (some ⟨kb,ko,none⟩) i (i+1)) (.slice none 0 0) (.slice (some ⟨db,dO,none⟩) (i+1) dc)).heap[w.heap.size+1+1]?=some (.cells #[.bool false,.slice none 0 0,.slice none 0 0,.slice none 0 0] 84 (0,0)):=(QE _ _ _ _ (show w.heap.size+1+1≠w.heap.size+1 by omega)).trans R2'
 obtain⟨⟨M0,M1,M2,M3⟩,MF⟩:=qb O2;have FIN:Hid (RdK Q (.slice (some ⟨kb,ko,none⟩) i (i+1)) (.slice none 0 0) (.slice (some ⟨db,dO,none⟩) (i+1) dc) (QT n i)/\RdK Q (.slice (some ⟨kb,ko,none⟩) 0 0) (.slice none 0 0) (.slice (some ⟨db,dO+(i+1),none⟩) (Z-(i+1)) (dc-(i+1))) (QW n i)):=⟨HRR.out.1.to q3,HRR.out.2.to q3⟩
 have HQ1:=qa q1
 have HQ2:=qa q2
 have HQ3:=qa q3
 rw[hQ] at HQ1 HQ2 HQ3 FIN;clear E0 E1 E2 E3 EF L0 L1 L2 L3 LF R0 R1 R2 R3 RF P0 P1 P2 P3 PF R1' R2' cx oth q1 q2 q3 hQ O2;go_wp2;refine qgl rfl rfl (w.heap.size+1) (w.heap.size+2) rfl rfl _ _ _ _ (0,0) (0,0) HQ1.out HQ2.out _ _ xJ rfl Qe xJ rfl Qe _ rfl ?_;refine⟨_,_,_,_,_,_,?_,FIN.out.1,FIN.out.2,HQ3.out⟩;rw[hgd.out,hcl.out.1,hcl.out.2];rfl
theorem qfk (w:World) (n:Nd) (kv vv dv:Value) (i:Nat) (h:RdK w kv vv dv n) (hi:i<n.keys.length) (hl:n.keys.length<=1000) (hc:(n.leaf=true/\n.vals.length=n.keys.length)\/(n.leaf=false/\n.kids.length=n.keys.length+1)) :
 Calls Tryz.prog 114 #[nv n kv vv dv,.int .i64 (i:Int)] w fun e w'=>qpt w w' n i e:=by
 rcases hc with ⟨h1,h2⟩|⟨h1,h2⟩
 ·exact qjp w n kv vv dv i h hi hl h1 h2
 obtain⟨a,c,rfl⟩:=h.rd.keys.slice;by_cases hq:c=i+1
 ·subst hq;exact qj4 w n _ vv dv i h hi hl h1 h2 ⟨a,rfl⟩
 refine qj2 w n _ vv dv i h hi hl h1 h2 fun a' c' e=>?_;simp only[xH] at e;rw[<-e.2.2];exact hq
theorem qgk (n:Nd) (k:Nat):zC n (k+1)=if jx n k<(zC n k).2 then(k,jx n k) else zC n k:=rfl
structure NBd (n:Nd):Prop where
 self:0<=qp n/\qp n<=1000000
 left:∀ i,i<n.keys.length->0<=qp (QT n i)/\qp (QT n i)<=1000000
 right:∀ i,i<n.keys.length->0<=qp (QW n i)/\qp (QW n i)<=1000000
theorem qms (w:World) (n:Nd) (kv vv dv:Value) (h:RdK w kv vv dv n) (hl:n.keys.length<=1000) (hc:(n.leaf=true/\n.vals.length=n.keys.length)\/(n.leaf=false/\n.kids.length=n.keys.length+1)) (hbd:NBd n) :
 Calls Tryz.prog 115 #[nv n kv vv dv] w fun e w'=>e=.returned (.int .i64 (qX n:Int))/\Below w.heap.size w w':=by
 obtain⟨ka,kc,va,vc,da,dc,rfl,rfl,rfl⟩:=h.rd.slices;obtain⟨W,hW,DW,bW,sW⟩:=qf w #[.bool n.leaf,.slice ka n.keys.length kc,.slice va n.vals.length vc,.slice da n.kids.length dc] 84;have HN:=qa (h.to bW)
 have KS:=qa (zT W _ _ _ n HN.out.rd)
 obtain⟨⟨E0,E1,E2,E3⟩,EF⟩:=qb DW;have HD:=qa DW
 have HB:=qa bW
 replace hbd:=qa hbd;replace hc:=qa hc;rw[hW] at E0 E1 E2 E3 EF KS;dsimp only[nv] at KS |-;clear h DW bW;have hmd:Hid (qX n=(zC n n.keys.length).1):=rfl
 have hbs:=qa (xb hbd.out.self (xb hbd.out.left hbd.out.right))
 generalize hK:n.keys.length=K at *;replace hK:=qa hK;go_enter Tryz.func115,Tryz.ntmps115
 go_wp2_with fail
 refine KS.out.mono ?_;rintro e w1 ⟨rfl,b1⟩;rw[<-hW] at b1;replace hW:=qa hW;clear E0 E1 E2 E3 EF KS;have hws:wrap64 (qp n)=qp n:=by have:=hbd.out.self;unfold wrap64;omega
 rw[hws];have D1:=(b1.block _ (xa HD.out)).trans HD.out
 obtain⟨⟨E0,E1,E2,E3⟩,EF⟩:=qb D1;have HI:Hid (Below W.heap.size W w1):=b1
 have hm0:Hid (zC n 0=(0,qp n)):=rfl
 clear D1 b1 hws
 go_wp2_with fail
 clear E0 E1 E2 E3 EF
 go_loopw [3,4,15] (fun bst lst p wr=>∃ k:Nat,k<=K/\p=.int .i64 k/\bst=.int .i64 ((zC n k).1:Int)/\lst=.int .i64 (zC n k).2/\Hid (Below W.heap.size W wr)) (fun _ _ p _=>K-(intOf p).toNat)
 case atStart=>exact⟨0,xt _,rfl,rfl,rfl,HI⟩
 case round =>
 obtain⟨k,hk,rfl,rfl,rfl,hI⟩:=hrel;clear HI;by_cases hlt:k<K
 ·have hq:(k:Int)<(K:Int):=by omega
  have D1:=(hI.out.block _ (xa HD.out)).trans HD.out
  obtain⟨⟨E0,E1,E2,E3⟩,EF⟩:=qb D1;have KC:=qa (qfk wr n _ _ _ k (HN.out.to hI.out) (by rw[hK.out];exact hlt) (by rw[hK.out];exact hl) (by rw[hK.out];exact hc.out))
  have gL:=hbs.out.2.1 k hlt
  have gR:=hbs.out.2.2 k hlt
  have hms:=qa (qgk n k)
  dsimp only[nv] at KC;clear D1
  go_wp2_with fail
  refine KC.out.mono ?_;rintro e w2 ⟨k1,v1,d1,k2,v2,d2,rfl,r1,r2,b2⟩;clear E0 E1 E2 E3 EF KC;have B2:=qa (hI.out.trans (b2.mono hI.out.size))
  obtain⟨k1a,k1c,v1a,v1c,d1a,d1c,rfl,rfl,rfl⟩:=r1.rd.slices;obtain⟨k2a,k2c,v2a,v2c,d2a,d2c,rfl,rfl,rfl⟩:=r2.rd.slices;obtain⟨Y1,hY1,DY1,bY1,sY1⟩:=qf w2 #[.bool (QT n k).leaf,.slice k1a (QT n k).keys.length k1c,.slice v1a (QT n k).vals.length v1c,.slice d1a (QT n k).kids.length d1c] 84;obtain⟨Y2,hY2,DY2,bY2,sY2⟩:=qf Y1 #[.bool (QW n k).leaf,.slice k2a (QW n k).keys.length k2c,.slice v2a (QW n k).vals.length v2c,.slice d2a (QW n k).kids.length d2c] 84;rw[sY1] at DY2;have bY:=bY1.trans (bY2.mono bY1.size)
  have HY:=qa (xb ((bY2.block _ (xa DY1)).trans DY1) (xb DY2 (xb (r1.to bY) (xb (r2.to bY) (B2.out.trans (bY.mono B2.out.size))))))
  clear DY1 DY2 bY1 bY2 bY r1 r2 b2 hI;dsimp only[nv]
  go_upto_region 6 with fail
  rw[<-hY1,<-hY2];replace hY1:=qa hY1;replace hY2:=qa hY2;obtain⟨D1,D2,r1,r2,bB⟩:=HY.out;have b0:Below Y2.heap.size Y2 Y2.drew:=qg Y2 1 _
  obtain⟨X1,hX1⟩:∃ X,X=Y2.drew:=⟨_,rfl⟩;rw[<-hX1] at b0;have HR:=qa (xb (r1.to b0) (r2.to b0))
  have HS:Hid (∀ u,Below Y2.heap.size Y2 u->(Y2.heap.size<=u.heap.size)/\u.heap[w2.heap.size]?=some (.cells #[.bool (QT n k).leaf,.slice k1a (QT n k).keys.length k1c,.slice v1a (QT n k).vals.length v1c,.slice d1a (QT n k).kids.length d1c] 84 (0,0))/\u.heap[w2.heap.size+1]?=some (.cells #[.bool (QW n k).leaf,.slice k2a (QW n k).keys.length k2c,.slice v2a (QW n k).vals.length v2c,.slice d2a (QW n k).kids.length d2c] 84 (0,0))):=fun u bu=>⟨bu.size,(bu.block _ (xa D1)).trans D1,(bu.block _ (xa D2)).trans D2⟩
  have K1:=qa (zT X1 _ _ _ (QT n k) HR.out.1.rd)
  have K2:Hid (∀ u,Below X1.heap.size X1 u->_):=fun u bu=>zT u _ _ _ (QW n k) (HR.out.2.to bu).rd
  dsimp only[nv] at K1 K2;have w1s:wrap64 (qp (QT n k))=qp (QT n k):=by unfold wrap64;omega
  have w2s:wrap64 (qp (QW n k))=qp (QW n k):=by unfold wrap64;omega
  rw[w1s] at K1;simp only[w2s] at K2;have hG:Hid (jx n k=max (qp (QT n k)) (qp (QW n k))):=rfl
  generalize qp (QT n k)=N1 at *;generalize qp (QW n k)=N2 at *;generalize (QT n k).keys.length=A1 at *;generalize (QT n k).vals.length=A2 at *;generalize (QT n k).kids.length=A3 at *;generalize (QW n k).keys.length=B1 at *;generalize (QW n k).vals.length=B2 at *;generalize (QW n k).kids.length=B3 at *;clear w1s w2s
  have HSS:Hid (∀ w',Below Y2.heap.size Y2 w'->(w'.cell? ⟨w2.heap.size,0,none⟩=some (.bool (QT n k).leaf)/\w'.cell? ⟨w2.heap.size,1,none⟩=some (.slice k1a A1 k1c)/\w'.cell? ⟨w2.heap.size,2,none⟩=some (.slice v1a A2 v1c)/\w'.cell? ⟨w2.heap.size,3,none⟩=some (.slice d1a A3 d1c))/\(w'.cell? ⟨w2.heap.size+1,0,none⟩=some (.bool (QW n k).leaf)/\w'.cell? ⟨w2.heap.size+1,1,none⟩=some (.slice k2a B1 k2c)/\w'.cell? ⟨w2.heap.size+1,2,none⟩=some (.slice v2a B2 v2c)/\w'.cell? ⟨w2.heap.size+1,3,none⟩=some (.slice d2a B3 d2c))):=fun u bu=>by
   obtain⟨_,q1,q2⟩:=HS.out u bu;exact⟨(qb q1).1,(qb q2).1⟩
  have B3':=qa bB
  clear D1 D2 r1 r2 bB HY HS;refine qN (fun w'=>(w'.cell? ⟨w2.heap.size,0,none⟩=some (.bool (QT n k).leaf)/\w'.cell? ⟨w2.heap.size,1,none⟩=some (.slice k1a A1 k1c)/\w'.cell? ⟨w2.heap.size,2,none⟩=some (.slice v1a A2 v1c)/\w'.cell? ⟨w2.heap.size,3,none⟩=some (.slice d1a A3 d1c))/\(w'.cell? ⟨w2.heap.size+1,0,none⟩=some (.bool (QW n k).leaf)/\w'.cell? ⟨w2.heap.size+1,1,none⟩=some (.slice k2a B1 k2c)/\w'.cell? ⟨w2.heap.size+1,2,none⟩=some (.slice v2a B2 v2c)/\w'.cell? ⟨w2.heap.size+1,3,none⟩=some (.slice d2a B3 d2c))) [(0,true),(2,true),(1,false),(3,false)] 4 qG (by kernel_rfl) (fun _ _ _ _ h=>h) ?_
  rw[<-hX1];replace hX1:=qa hX1
  iterate 2
   refine Qj (v:=?_) rfl (by kernel_rfl) (HSS.out _ b0) ?_ ?_
   rotate_left
   ·rintro w' ⟨⟨s1,s2,s3,s4⟩,⟨t1,t2,t3,t4⟩⟩;go_simp;try with_reducible rfl
   try simp only[Act.put,qB5]
  refine qL rfl (by kernel_rfl) fun K' hK'=>?_
  refine qk 87 _ _ (by rfl) _ (by simp[Act.eval]) (Tryz.call87 _ _) K1.out ?_
  rintro e w4 ⟨rfl,b4⟩;have b04:=b0.trans (b4.mono b0.size)
  refine⟨_,rfl,hK' _ _ (HSS.out _ b04) ?_⟩;clear hK' K';try simp only[Act.put,qB5]
  refine qL rfl (by kernel_rfl) fun K' hK'=>?_
  refine qk 87 _ _ (by rfl) _ (by simp[Act.eval]) (Tryz.call87 _ _) (K2.out w4 b4) ?_
  rintro e w5 ⟨rfl,b5⟩;have b05:=b04.trans (b5.mono b04.size)
  refine⟨_,rfl,hK' _ _ (HSS.out _ b05) ?_⟩;clear hK' K';try simp only[Act.put,qB5]
  show wpList _ _ _ _ _ _
  dsimp only[List.drop];have B5:=qa (B3'.out.trans (b05.mono B3'.out.size))
  clear b4 b04 b5 b05 b0 K1 K2 HSS B3' HR;obtain⟨⟨M1,M2⟩,hM⟩:∃ q,q=zC n k:=⟨_,rfl⟩;rw[<-hM];dsimp only;replace hM:=qa hM.symm;by_cases hmx:N1<=N2
  ·by_cases hcp:N2<M2
   ·have hz:Hid (zC n (k+1)=(k,N2)):=by
     show _=_
     rw[hms.out,hG.out,hM.out];dsimp only;rw[show max N1 N2=N2 by omega]
     exact xj hcp
    go_wp2;go_roundw
    case rel=>exact⟨k+1,by omega,by go_num,by rw[hz.out],by first|(rw[hz.out];done)|(rw[hz.out];dsimp only;congr 1;first|omega|(split<;>omega)),B5⟩
    case measure=>simp[intOf];omega
   skip
   have hz:Hid (zC n (k+1)=(M1,M2)):=by
    show _=_
    rw[hms.out,hG.out,hM.out];dsimp only;rw[show max N1 N2=N2 by omega]
    exact xh hcp
   go_wp2;go_roundw
   case rel=>exact⟨k+1,by omega,by go_num,by rw[hz.out],by first|(rw[hz.out];done)|(rw[hz.out];dsimp only;congr 1;first|omega|(split<;>omega)),B5⟩
   case measure=>simp[intOf];omega
  have hmx':N2<N1:=by omega
  by_cases hcp:N1<M2
  ·skip
   have hz:Hid (zC n (k+1)=(k,N1)):=by
    show _=_
    rw[hms.out,hG.out,hM.out];dsimp only;rw[show max N1 N2=N1 by omega]
    exact xj hcp
   go_wp2;go_roundw
   case rel=>exact⟨k+1,by omega,by go_num,by rw[hz.out],by first|(rw[hz.out];done)|(rw[hz.out];dsimp only;congr 1;first|omega|(split<;>omega)),B5⟩
   case measure=>simp[intOf];omega
  skip
  have hz:Hid (zC n (k+1)=(M1,M2)):=by
   show _=_
   rw[hms.out,hG.out,hM.out];dsimp only;rw[show max N1 N2=N1 by omega]
   exact xh hcp
  go_wp2;go_roundw
  case rel=>exact⟨k+1,by omega,by go_num,by rw[hz.out],by first|(rw[hz.out];done)|(rw[hz.out];dsimp only;congr 1;first|omega|(split<;>omega)),B5⟩
  case measure=>simp[intOf];omega
 have hq:¬ (k:Int)<(K:Int):=by omega
 obtain rfl:k=K:=by omega
 have hr:Hid (((zC n k).1:Int)=(qX n:Int)):=by show _=_;rw[hmd.out]
 have BB:=qa (HB.out.trans (hI.out.mono HB.out.size))
 go_wp2;go_ret;exact⟨vF hr.out,BB.out⟩
theorem JZ {Q:Exit->Act->World->Prop} (hgd:o.guard=none) (s x:Operand)
 (ho:o.op=.call {callee:=.builtin .append,args:=#[s,x],argTypes:=#[81,81]}) (B:Nat) (v:Value) (xs:List Str) (y:Str) (g:Nat) (hs:a.eval s=v) (hx:a.eval x=.slice (some ⟨g,0,none⟩) 1 1)
 (hown:OwnT B w v xs) (hc:w.cell? ⟨g,0,none⟩=some (st y)) (hlen:(xs.length+1)*16<=140737488355328) (hB:B<=w.heap.size)
 (h:∀ g' cap w',OwnT B w' (.slice (some ⟨g',0,none⟩) (xs.length+1) cap) (xs++[y])->w.grownBy w' v.ownBlock->(v.ownBlock=some g'\/g'=w.heap.size)->wpList Tryz.prog ops Q rest (a.put o.dst (.slice (some ⟨g',0,none⟩) (xs.length+1) cap)) w'):wpList Tryz.prog ops Q (o::rest) a w:=by
 obtain⟨i0,hi,hz0,hz1,hz2⟩:=Xh qmq
 have n2:∀ j u,([y].map st)[j]?=some u->w.cell? ((⟨g,0,none⟩:Addr).add j)=some u:=by
  intro j u hj
  match j,hj with
  | 0,hj=>simp at hj;subst hj;simpa[Addr.add] using hc
  | j+1,hj=>simp at hj
 refine Xq _ hgd s x 81 ho B 9 i0 (.string ⟨#[]⟩) 1 16 Xz hi hz0 hz1 hz2 rfl (by decide) v xs.length (xs.map st) hs hown ⟨g,0,none⟩ 1 1 ([y].map st) hx rfl n2
  (fun u hu=>by simp at hu;subst hu;rfl) (by decide) (by rw[show maxLen=9223372036854775807 from rfl];omega) hlen hB _ rfl ?_
 intro g' cap w' h1 h2 h3 _;refine h g' cap w' ?_ h2 h3;show World.ownsRow _ _ _ _ _ _ _
 rw[Xj]
 simpa using h1
def qp6 (B:Nat) (w w':World) (v:Value) (xs:List Str) (e:Ending):Prop:=∃ g' cap,e=.returned (.slice (some ⟨g',0,none⟩) xs.length cap)/\OwnT B w' (.slice (some ⟨g',0,none⟩) xs.length cap) xs/\w.grownBy w' v.ownBlock/\(v.ownBlock=some g'\/g'=w.heap.size)
theorem qa9 (B:Nat) (w:World) (v:Value) (xs:List Str) (y:Str) (gv:Nat) (h:OwnT B w v xs) (hc:w.cell? ⟨gv,0,none⟩=some (st y)) (hB:B<=w.heap.size) (hl:xs.length<=1000000) :
 Calls Tryz.prog 28 #[v,.int .i64 (xs.length:Int),.slice (some ⟨gv,0,none⟩) 1 1] w fun e w'=>qp6 B w w' v (xs++[y]) e:=by
 obtain⟨a,c,hv⟩:=h.rd.slice;subst hv
 have hcap:xs.length<=c:=by
  rcases h.2 with ⟨e,e2⟩|⟨g,cap,cur,e,_,_,hn,_⟩
  ·simp only[xH] at e;omega
  simp only[xH] at e;omega
 have hn:(xs.length+1)*16<=140737488355328:=by omega
 have hq:((xs.length:Int) == (xs.length:Int))=true:=by simp
 have HC:=qa hc
 by_cases hcc:c=xs.length
 ·subst hcc;have HO:=qa h
  clear h;go_enter Tryz.func28,Tryz.ntmps28
  go_upto_region 7 with fail
  go_wp2_with (at_builtin;refine JZ rfl _ _ rfl B _ xs y gv rfl rfl HO.out HC.out hn hB ?_;intro g' cap w' o5 g5 l5)
  have FF:=qa (xb o5 (xb g5 l5))
  clear o5 g5 l5;go_wp2;go_ret;refine⟨g',cap,?_,?_,FF.out.2.1,FF.out.2.2⟩
  ·rw[xk];rfl
  rw[xk];exact FF.out.1
 have HO:=qa h
 clear h;go_enter Tryz.func28,Tryz.ntmps28
 go_upto_region 7 with fail
 go_wp2_with (at_builtin;refine JZ rfl _ _ rfl B _ xs y gv rfl rfl HO.out HC.out hn hB ?_;intro g' cap w' o5 g5 l5)
 have FF:=qa (xb o5 (xb g5 l5))
 clear o5 g5 l5;go_wp2;go_ret;refine⟨g',cap,?_,?_,FF.out.2.1,FF.out.2.2⟩
 ·rw[xk];rfl
 rw[xk];exact FF.out.1
def seg (L:List Value) (o:Nat) (vs:List Value):List Value:=L.take o++vs++L.drop (o+vs.length)
theorem Qu {o:Nat} (h:o+vs.length<=L.length):(seg L o vs).length=L.length:=by
 unfold seg;simp;omega
theorem qgn {o:Nat} (h:o+vs.length<=L.length) (hj:j<o\/o+vs.length<=j):(seg L o vs)[j]?=L[j]?:=by
 unfold seg;rcases hj with hj|hj
 ·rw[xz,Xu (by simp;omega),xP,xj hj]
 rw[xY (by simp;omega),XQ]
 congr 1
 simp;omega
theorem j7 {o:Nat} (h:o+vs.length<=L.length) (hk:k<=o):(seg L o vs).take k=L.take k:=by
 unfold seg;rw[xz,List.take_append_of_le_length (by simp;omega),List.take_take]
 congr 1;omega
theorem qir (hA:L.take A.length=A) (hl:A.length+V.length+C.length<=L.length):(seg (seg L (A.length+V.length) C) A.length V).take (A.length+V.length+C.length)=A++V++C:=by
 have e1:seg L (A.length+V.length) C=L.take (A.length+V.length)++C++L.drop (A.length+V.length+C.length):=rfl
 have h1:(seg L (A.length+V.length) C).take A.length=A:=by rw[j7 hl (by omega),hA]
 have h2:(seg L (A.length+V.length) C).drop (A.length+V.length)=C++L.drop (A.length+V.length+C.length):=by
  rw[e1,xz,Kk (by simp;omega)]
 have e2:seg (seg L (A.length+V.length) C) A.length V=(A++V++C)++L.drop (A.length+V.length+C.length):=by
  rw[seg,h1,h2];simp
 rw[e2,Xo (by simp;omega)]
theorem yo (hA:L.take A.length=A) (hl:A.length+V.length+C.length<=L.length):(seg (seg L A.length V) (A.length+V.length) C).take (A.length+V.length+C.length)=A++V++C:=by
 have h0:(seg L A.length V).length=L.length:=Qu (by omega)
 have h1:(seg L A.length V).take (A.length+V.length)=A++V:=by
  rw[seg,hA,Xo (by simp)]
 have e2:seg (seg L A.length V) (A.length+V.length) C=(A++V++C)++(seg L A.length V).drop (A.length+V.length+C.length):=by
  rw[seg,h1]
 rw[e2,Xo (by simp;omega)]
theorem QK (w:World) (dT sT ty elem:TypeId) (n g o dLen dCap:Nat) (a:Addr) (sLen sCap:Nat) (cur:Array Value) (t:TypeId) (cs:List Value) (m:Nat)
 (hu:P.underlying dT=some (.slice elem)) (hs:(P.info? elem).map (·.size)=some n) (hg:w.heap[g]?=some (.cells cur t (0,0))) (hm:m=Nat.min sLen dLen) (hn:cs.length=m*n)
 (hsrc:∀ j v,cs[j]?=some v->w.cell? (a.add j)=some v) (hfit:o+cs.length<=cur.size) (h1:∀ v∈cs,v.oneCell'=true) :
 (Builtin.copy_ #[dT,sT] ty #[.slice (some ⟨g,o,none⟩) dLen dCap,.slice (some a) sLen sCap]).run P w=.ok (goInt m) (w.setRow g (seg cur.toList o cs).toArray):=by
 have hf:=run_firstCells_some (P:=P) w n m a sLen sCap cs hn hsrc
 have hst:=run_storeCells_at P g o t cs 0 cur w hg (by simpa using hfit) h1
 simp only[XK] at hst;cases hq:P.info? elem with
 | none=>simp[hq] at hs
 | some i =>
  have hi:i.size=n:=by simpa[hq] using hs
  simp[Builtin.copy_,kL hu,Builtin.lenOf,sizeOf,typeInfo,hq,hi,<-hm,hf,hst,seg]
theorem VW (w:World) (dT sT ty elem:TypeId) (n:Nat) (g:Addr) (dLen dCap:Nat) (hu:P.underlying dT=some (.slice elem)) (hs:(P.info? elem).map (·.size)=some n) :
 (Builtin.copy_ #[dT,sT] ty #[.slice (some g) dLen dCap,.slice none 0 0]).run P w=.ok (goInt 0) w:=run_copy_nil P w dT sT ty elem g dLen dCap hu (by rw[hs];rfl)
theorem jA (w:World) (t e ty:TypeId) (z:Value) (n g o m c:Nat) (cur:Array Value) (T:TypeId) (ht:P.underlying t=some (.slice e)) (hv:∀ w,(zeroValue e).run P w=.ok z w) (hz:z.cells.size=n) (h1:∀ v∈z.cells,v.oneCell'=true)
 (hg:w.heap[g]?=some (.cells cur T (0,0))) (hfit:o+m*n<=cur.size) (hm:0<m) :
 (Builtin.clear_ #[t] ty #[.slice (some ⟨g,o,none⟩) m c]).run P w=.ok (.tuple #[]) (w.setRow g (seg cur.toList o (Builtin.zeroCells z.cells m).toList).toArray):=by
 have hl:(Builtin.zeroCells z.cells m).toList.length=m*n:=by simp[Builtin.zeroCells,hz]
 have h1':∀ v∈(Builtin.zeroCells z.cells m).toList,v.oneCell'=true:=by
  intro v hv';simp only[Builtin.zeroCells,Array.toList_map,Array.toList_range,Xx,List.mem_range] at hv';obtain⟨j,hj,rfl⟩:=hv';by_cases hn0:z.cells.size=0
  ·rw[hn0,Nat.mul_zero] at hj;omega
  have hlt:j%z.cells.size<z.cells.size:=Nat.mod_lt _ (by omega)
  rw[getElem!_pos z.cells _ hlt];exact h1 _ (Array.getElem_mem hlt)
 have hst:=run_storeCells_at P g o T (Builtin.zeroCells z.cells m).toList 0 cur w hg (by rw[hl];simpa using hfit) h1'
 simp only[XK] at hst;obtain⟨k,rfl⟩:∃ k,m=k+1:=⟨m-1,by omega⟩
 simp[Builtin.clear_,kL ht,hv,hst,seg]
theorem yd (w:World) (t e ty:TypeId) (a:Option Addr) (c:Nat) (ht:P.underlying t=some (.slice e)):(Builtin.clear_ #[t] ty #[.slice a 0 c]).run P w=.ok (.tuple #[]) w:=by
 cases a<;>simp[Builtin.clear_,kL ht]
theorem qbp (w:World) (t tn ty e:TypeId) (i0:TypeInfo) (z:Value) (kn:IntKind) (n by8:Nat) (ht:P.underlying t=some (.slice e)) (htn:P.underlying tn=some (.int kn)) (hi0:P.info? e=some i0) (hz:i0.zero=some z) (hs:i0.size=n) (hby:i0.bytes=by8) (hzs:z.cells.size=n) (hn:0<n)
 (g cap i k:Nat) (cur:Array Value) (A:List Value) (hg:w.heap[g]?=some (.cells cur e (0,0))) (hA:A.length=i*n) (hct:cur.toList.take (i*n)=A) (hk:0<k) (hroom:cap<i+k) (hbig:(i+k)*by8<=140737488355328) (h63:i+k<=1000000000) (hk8:k*by8<=281474976710656) :
 ∃ G ROW,(Builtin.append_ #[t,tn] ty #[.slice (some ⟨g,0,none⟩) i cap,.int .i64 (k:Int)]).run P w=.ok (.slice (some ⟨w.heap.size,0,none⟩) (i+k) G) (w.drew.alloc (.cells ROW e))/\ROW.size=G*n/\ROW.toList.take A.length=A/\i+k<=G/\G<=9223372036854775807:=by
 have hold:(Builtin.firstCells i0.size i (.slice (some ⟨g,0,none⟩) i cap)).run P w.drew=.ok A.toArray w.drew:=by
  rw[hs];refine run_firstCells_some w.drew n i ⟨g,0,none⟩ i cap A hA (fun j v hj=>?_);have hj':=hj
  rw[<-hct,xP] at hj'
  split at hj'
  ·have:(⟨g,0,none⟩:Addr).add j=⟨g,j,none⟩:=by rw[XB];simp
   rw[this];show w.cell? _=_
   simp only[World.cell?,hg]
   simpa using hj'
  cases hj'
 have h:=Lib.run_append_grow_zeros w t tn ty e i0 z .i64 kn ht htn hi0 hz (some ⟨g,0,none⟩) i cap A hold k hk (by omega) (by omega) (by omega) (by rw[hby];exact hk8) (by rw[hby];exact growslice_fits hroom hbig)
 have hge:=grownCap_ge w (i+k) cap e
 have hle:=grownCap_le_maxLen w (i+k) cap e (by unfold maxLen;omega)
 refine⟨_,_,h,?_,?_,hge,by unfold maxLen at hle;exact hle⟩
 ·rw[Array.size_append,Array.size_append,size_zeroCells,size_zeroCells,hzs,Xb,hA,<-Nat.add_mul,<-Nat.add_mul]
  congr 1
  omega
 rw[Array.toList_append,Array.toList_append,xz,Xo];rfl
theorem qe2 (w:World) {K:Act->World->Prop} {Q:Exit->Act->World->Prop} (d s:Operand) (t t':TypeId)
 (ho:o.op=.call {callee:=.builtin .copy,args:=#[d,s],argTypes:=#[t,t']}) (v u:Value) (hd:a.eval d=v) (hs:a.eval s=u) (v':Value) (w':World)
 (hr:(Builtin.copy_ #[t,t'] o.type #[v,u]).run P w=.ok v' w') (h:K (a.put o.dst v') w'):o.wp P a w K Q:=by
 unfold Oper.wp;simp[execOp,ho,resolve,invoke,builtin,hd,hs,hr,Result.andThen];exact h
theorem QB (w:World) {Q:Exit->Act->World->Prop} (hgd:o.guard=none) (d s:Operand) (t t':TypeId)
 (ho:o.op=.call {callee:=.builtin .copy,args:=#[d,s],argTypes:=#[t,t']}) (v u:Value) (hd:a.eval d=v) (hs:a.eval s=u) (v':Value) (w':World)
 (hr:(Builtin.copy_ #[t,t'] o.type #[v,u]).run P w=.ok v' w') (h:wpList P ops Q rest (a.put o.dst v') w'):wpList P ops Q (o::rest) a w :=
 wpList_plain hgd fun _ hK=>qe2 w d s t t' ho v u hd hs v' w' hr (hK _ _ h)
theorem Ym {n cap:Nat} (hg:w.heap[g]?=some (.cells cur T (0,0))) (hB:B<=g) (hk:k<=cap) (hc:cap<=maxLen) (hs:L.length=cap*n) (hl:cc.length=k*n) (ht:L.take (k*n)=cc) :
 (w.setRow g L.toArray).ownsRow B T n (.slice (some ⟨g,0,none⟩) k cap) k cc/\w.grownBy (w.setRow g L.toArray) (some g) :=
 ⟨⟨hl,.inr ⟨g,cap,_,rfl,hB,XX w g cur _ T _ hg,hk,hc,by simpa using hs,by simpa using ht⟩⟩,⟨rfl,rfl,rfl,by simp,fun j _ hj=>XH w g j _ (fun e=>hj (by simp[e]))⟩⟩
theorem zZ {n:Nat} (h:w.ownsRow B T n v k cc) (hk:0<k):∃ g cap cur,v=.slice (some ⟨g,0,none⟩) k cap/\B<=g/\w.heap[g]?=some (.cells cur T (0,0))/\k<=cap/\cap<=maxLen/\cur.size=cap*n/\cur.toList.take (k*n)=cc:=by
 rcases h.2 with ⟨_,e⟩|h
 ·omega
 exact h
def bcl (bs:List Br):List Value:=bs.flatMap fun b=>[st b.1,.int .i64 b.2]
theorem Jy (a b:List Br):bcl (a++b)=bcl a++bcl b:=by unfold bcl;rw[kH]
theorem qS (l:List Br):(bcl l).length=l.length*2:=by
 induction l with
 | nil=>rfl
 | cons y r ih=>show ([_,_]++bcl r).length=_;rw[xk,ih];simp;omega
theorem qoc:∀ (l:List Br) (i:Nat) (y:Br),l[i]?=some y->(bcl l)[i*2]?=some (st y.1)/\(bcl l)[i*2+1]?=some (.int .i64 y.2)
 | [],i,y,h=>by simp at h
 | x::r,0,y,h=>by
  have:x=y:=by simpa using h
  subst this;exact⟨rfl,rfl⟩
 | x::r,i+1,y,h=>by
  have:=qoc r i y (by simpa using h)
  rw[show (i+1)*2=i*2+2 from by omega,show i*2+2+1=i*2+1+2 from by omega]
  exact this
theorem zF (l:List Br):∀ v∈bcl l,v.oneCell'=true:=by
 intro v hv;obtain⟨y,_,hv⟩:=kM.1 hv;simp at hv;rcases hv with rfl|rfl<;>rfl
theorem qoq (l:List Br) (k:Nat):(bcl l).take (k*2)=bcl (l.take k):=by
 rcases Nat.lt_or_ge k l.length with h|h
 ·have e:l=l.take k++l.drop k:=(x7 k l).symm
  have:bcl l=bcl (l.take k)++bcl (l.drop k):=by rw[<-Jy,<-e]
  rw[this,Xo (by rw[qS,xp];congr 1;omega)]
 rw[xx (by rw[qS];omega),xx h]
abbrev OwnBr (B:Nat) (w:World) (v:Value) (bs:List Br):Prop:=w.ownsRow B 160 2 v bs.length (bcl bs)
theorem vu:(Tryz.prog.info? 160).map (fun i=>(i.zero,i.size,i.bytes))=some (some (.agg #[.string ⟨#[]⟩,.int .i64 0]),2,24):=by kernel_rfl
theorem OwnBr.slice (h:OwnBr B w v bs):∃ a c,v=.slice a bs.length c:=by
 rcases h.2 with ⟨rfl,e⟩|⟨g,cap,cur,rfl,_⟩
 ·exact⟨none,0,by rw[e]⟩
 exact⟨_,_,rfl⟩
theorem OwnBr.at (h:OwnBr B w v bs) {y:Br} (hy:bs[i]?=some y):∃ g cap,v=.slice (some ⟨g,0,none⟩) bs.length cap/\B<=g/\w.cell? ⟨g,i*2,none⟩=some (st y.1)/\w.cell? ⟨g,i*2+1,none⟩=some (.int .i64 y.2)/\∀ j,w.frozen? ⟨g,j,none⟩=false:=by
 have hi:=(xn.1 hy).1
 obtain⟨g,cap,cur,e,hB,hg,hk,hm,hs,ht⟩:=zZ h (by omega)
 obtain⟨c1,c2⟩:=qoc bs i y hy
 have hcell:∀ j,j<bs.length*2->w.cell? ⟨g,j,none⟩=(bcl bs)[j]?:=fun j hj=>by
  rw[<-ht,xP,xj hj];simp[World.cell?,hg]
 exact⟨g,cap,e,hB,by rw[hcell _ (by omega),c1],by rw[hcell _ (by omega),c2],j5 hg⟩
theorem qdp {Q:Exit->Act->World->Prop} (hgd:o.guard=none) (s x:Operand)
 (ho:o.op=.call {callee:=.builtin .append,args:=#[s,x],argTypes:=#[157,157]}) (B:Nat) (v:Value) (bs:List Br) (y:Br) (g:Nat) (hs:a.eval s=v) (hx:a.eval x=.slice (some ⟨g,0,none⟩) 1 1)
 (hown:OwnBr B w v bs) (hc1:w.cell? ⟨g,0,none⟩=some (st y.1)) (hc2:w.cell? ⟨g,1,none⟩=some (.int .i64 y.2)) (hlen:(bs.length+1)*24<=140737488355328) (hB:B<=w.heap.size)
 (h:∀ v' w',OwnBr B w' v' (bs++[y])->Below B w w'->wpList Tryz.prog ops Q rest (a.put o.dst v') w'):wpList Tryz.prog ops Q (o::rest) a w:=by
 obtain⟨i0,hi,hz0,hz1,hz2⟩:=Xh vu
 have n2:∀ j u,(bcl [y])[j]?=some u->w.cell? ((⟨g,0,none⟩:Addr).add j)=some u:=by
  intro j u hj
  match j,hj with
  | 0,hj=>simp[bcl] at hj;subst hj;simpa[Addr.add] using hc1
  | 1,hj=>simp[bcl] at hj;subst hj;simpa[Addr.add] using hc2
  | j+2,hj=>simp[bcl] at hj
 refine kO _ hgd s x 157 ho B 160 i0 (.agg #[.string ⟨#[]⟩,.int .i64 0]) 2 24 xT hi hz0 hz1 hz2 rfl (by decide) v bs.length (bcl bs) hs hown ⟨g,0,none⟩ 1 1 (bcl [y]) hx rfl n2
  (zF _) (by rw[show maxLen=9223372036854775807 from rfl];omega) hlen hB ?_
 intro v' w' q1 q2 _;refine h v' w' ?_ ((xm _ _).grown q2 hB (fun k hk=>(xo hown k hk).1));show World.ownsRow _ _ _ _ _ _ _
 rw[Jy,xk];exact q1
theorem qi8 (y:Br):OwnBr w.heap.size (w.alloc (.cells #[st y.1,.int .i64 y.2] 160)) (.slice (some ⟨w.heap.size,0,none⟩) 1 1) [y] :=
 ⟨rfl,.inr ⟨w.heap.size,1,_,rfl,xc _,xy w _,xc _,by decide,rfl,rfl⟩⟩
theorem yn (w:World) (n:Nd) (kv vv dv:Value) (h:RdN w kv vv dv n) (hk:n.kids.length=n.keys.length+1) (hl:n.keys.length<=1000) :
 Calls Tryz.prog 85 #[nv n kv vv dv] w fun e w'=>∃ v',e=.returned v'/\OwnBr w.heap.size w' v' (brs n)/\Below w.heap.size w w':=by
 obtain⟨ka,kc,va,vc,da,dc,rfl,rfl,rfl⟩:=h.slices;obtain⟨W,hW,DW,bW,sW⟩:=qf w #[.bool n.leaf,.slice ka n.keys.length kc,.slice va n.vals.length vc,.slice da n.kids.length dc] 84;obtain⟨d0,hd0⟩:∃ d,n.kids[0]?=some d:=⟨_,xg (by omega)⟩
 obtain⟨db,doff,rfl,hdc⟩:=(h.to bW).kids.intAt hd0;rw[XK] at hdc;obtain⟨⟨E0,E1,E2,E3⟩,EF⟩:=qb DW;have hbl:(brs n).length=n.keys.length+1:=by rw[Ju hk];exact hk
 have hb0:(brs n).take 1=[([],d0)]:=by
  unfold brs
  have:n.kids.headD 0=d0:=by
   cases hn:n.kids with
   | nil=>rw[hn] at hd0;simp at hd0
   | cons a r=>rw[hn] at hd0;simpa using hd0
  rw[this];rfl
 have hbk:∀ (k:Nat) x d,n.keys[k]?=some x->n.kids[k+1]?=some d->(brs n)[k+1]?=some (x,d):=fun k x d h1 h2=>by
  unfold brs;rw[Kl,kP];exact⟨h1,by rw[List.getElem?_tail];exact h2⟩
 obtain⟨X,hX⟩:∃ X,X=W.alloc (.cells #[st [],.int .i64 d0] 160):=⟨_,rfl⟩;have bX:Below W.heap.size W X:=by rw[hX];exact(xm _ _).alloc (xc _) _
 have oX:OwnBr W.heap.size X (.slice (some ⟨W.heap.size,0,none⟩) 1 1) ((brs n).take 1):=by rw[hb0,hX];exact qi8 ([],d0)
 have HI:Hid (OwnBr W.heap.size X (.slice (some ⟨w.heap.size+1,0,none⟩) 1 1) ((brs n).take (0+1))/\Below W.heap.size W X):=by rw[<-sW];exact⟨oX,bX⟩
 have HH:=qa (h.to bW)
 have HD:=qa DW
 have HB:=qa bW
 have hkk:Hid (n.kids.length=n.keys.length+1):=hk
 have hK0:¬ n.kids.length=0:=by omega
 have X1:=(bX.cell (qe E1)).trans E1
 have XF:X.frozen? ⟨w.heap.size,0,none⟩=false:=j5 ((bX.block _ (xa DW)).trans DW) 0
 replace hbl:=qa hbl;replace hbk:=qa hbk;replace hb0:=qa hb0;have hsW:=qa sW
 rw[hW] at E0 E1 E2 E3 EF hdc;rw[hX,hW] at X1 XF;clear h DW bW hk oX bX;dsimp only[nv];go_enter Tryz.func85,Tryz.ntmps85;generalize hK:n.keys.length=K at *;generalize hKd:n.kids.length=KD at *;replace hKd:=qa hKd
 go_wp2_with fail
 rw[<-hW,<-hX];replace hW:=qa hW;replace hX:=qa hX;replace hK:=qa hK;clear E0 E1 E2 E3 EF X1 XF hdc
 go_loopw [3,15] (fun o p wr=>∃ k:Nat,k<=K/\p=.int .i64 k/\Hid (OwnBr W.heap.size wr o ((brs n).take (k+1))/\Below W.heap.size W wr)) (fun _ p _=>K-(intOf p).toNat)
 case atStart=>exact⟨0,xt _,rfl,HI⟩
 case round =>
 obtain⟨k,hk,rfl,hI⟩:=hrel;clear HI;by_cases hlt:k<K
 ·have hq:(k:Int)<(K:Int):=by omega
  obtain⟨x,hx⟩:∃ x,n.keys[k]?=some x:=⟨_,xg (by rw[hK.out];exact hlt)⟩
  obtain⟨d,hd⟩:∃ d,n.kids[k+1]?=some d:=⟨_,xg (by rw[hKd.out];have:=hkk.out;omega)⟩
  obtain⟨kb,koff,rfl,hc1⟩:=(HH.out.to hI.out.2).keys.strAt hx;obtain⟨db',doff',e9,hc2⟩:=(HH.out.to hI.out.2).kids.intAt hd;simp only[xr,XO,XS] at e9;obtain⟨rfl,rfl⟩:=e9;have D6:=(hI.out.2.block _ (xa HD.out)).trans HD.out
  obtain⟨⟨E0,E1,E2,E3⟩,EF⟩:=qb D6;have hsn:Hid ((brs n).take (k+1+1)=(brs n).take (k+1)++[(x,d)]):=by show _=_;rw[Xf,hbk.out k x d hx hd];rfl
  obtain⟨oa,oc,ho⟩:=hI.out.1.slice;have htl:((brs n).take (k+1)).length=k+1:=by rw[xp,hbl.out];have:=hK.out;omega
  rw[htl] at ho;subst ho;obtain⟨V,hV,DV,bV,sV⟩:=qf wr #[st x,.int .i64 d] 160;have V0:=qt DV (i:=0) rfl
  have V1:=qt DV (i:=1) rfl
  have OV:OwnBr W.heap.size V (.slice oa (k+1) oc) ((brs n).take (k+1)):=qB hI.out.1 bV
  have hBV:W.heap.size<=V.heap.size:=xi hI.out.2.size bV.size
  have BV:=qa (hI.out.2.trans (bV.mono hI.out.2.size))
  have hn8:(((brs n).take (k+1)).length+1)*24<=140737488355328:=by rw[htl];omega
  replace htl:=qa htl;replace hx:=qa hx;replace hd:=qa hd;have hkd:(k:Int)+1<(KD:Int):=by have:=hkk.out;omega
  have hw1:IntKind.i64.wrap ((k:Int)+1)=(k:Int)+1:=xB _ (by omega)
  have htn:((k:Int)+1).toNat=k+1:=by omega
  rw[hV] at V0 V1 OV hBV;clear D6 DV bV sV hI
  go_wp2_with (at_builtin;refine qdp rfl _ _ rfl W.heap.size _ _ (x,d) wr.heap.size rfl rfl OV V0 V1 hn8 hBV ?_;intro v5 w5 o5 b5)
  rw[<-hsn.out] at o5;rw[<-hV] at b5;have I5:=qa (xb o5 (BV.out.trans b5))
  clear o5 b5 OV V0 V1 hBV hn8 hc1 hc2 E0 E1 E2 E3 EF;go_wp2;go_roundw
  case rel=>exact⟨k+1,by omega,by go_num,I5⟩
  case measure=>simp[intOf];omega
 have hq:¬ (k:Int)<(K:Int):=by omega
 have htk:(brs n).take (k+1)=brs n:=xx (by rw[hbl.out];have:=hK.out;omega)
 rw[htk] at hI;have hBB:Hid (w.heap.size<=W.heap.size):=HB.out.size
 go_wp2;go_ret;exact⟨_,rfl,QA hI.out.1 hBB.out,HB.out.trans (hI.out.2.mono hBB.out)⟩
structure ISt (X:World) (nb:Nat) (w:World) (kv dv:Value) (n:Nd):Prop where
 bel:Below nb X w
 box:w.heap[nb]?=some (.cells #[.bool false,kv,.slice none 0 0,dv] 84 (0,0))
 keys:OwnT (nb+1) w kv n.keys
 kids:OwnJ (nb+1) w dv n.kids
 hs:nb+1<=w.heap.size
theorem ISt.to {dv:Value} (h:ISt X nb w kv dv n) (b:Below w.heap.size w w'):ISt X nb w' kv dv n :=
 ⟨h.bel.trans (b.mono (by have:=h.hs;omega)),(b.block _ (xa h.box)).trans h.box,qB h.keys b,qB h.kids b,xi h.hs b.size⟩
theorem ISt.key {dv:Value} {x:Str} (h:ISt X nb w kv dv n) (o:OwnT (nb+1) w' v' (n.keys++[x])) (g:w.grownBy w' kv.ownBlock) :
 ISt X nb (w'.setCell ⟨nb,1,none⟩ v') v' dv ⟨n.leaf,n.keys++[x],n.vals,n.kids⟩:=by
 have kt:=fun e (he:e≠9)=>KeepT.grown h.keys g he
 have bx:=kt _ (by decide) _ _ _ h.box
 have b1:Below nb X w':=h.bel.grown g (by have:=h.hs;have:=h.bel.size;omega) (fun k hk=>by have:=(xo h.keys k hk).1;omega)
 refine⟨b1.setCell (p:=⟨nb,1,none⟩) (xc _) _,?_,qs o (KeepT.set (a:=⟨nb,1,none⟩) bx (by decide) _),qs (qs h.kids (kt _ (by decide))) (KeepT.set (a:=⟨nb,1,none⟩) bx (by decide) _),?_⟩
 ·have:=qw bx 1 v'
  simpa using this
 have:=g.size;have:=h.hs
 simp;omega
theorem ISt.kid {dv:Value} {x:Int} (h:ISt X nb w kv dv n) (o:OwnJ (nb+1) w' v' (n.kids++[x])) (g:w.grownBy w' dv.ownBlock) :
 ISt X nb (w'.setCell ⟨nb,3,none⟩ v') kv v' ⟨n.leaf,n.keys,n.vals,n.kids++[x]⟩:=by
 have kt:=fun e (he:e≠3)=>KeepT.grown h.kids g he
 have bx:=kt _ (by decide) _ _ _ h.box
 have b1:Below nb X w':=h.bel.grown g (by have:=h.hs;have:=h.bel.size;omega) (fun k hk=>by have:=(xo h.kids k hk).1;omega)
 refine⟨b1.setCell (p:=⟨nb,3,none⟩) (xc _) _,?_,qs (qs h.keys (kt _ (by decide))) (KeepT.set (a:=⟨nb,3,none⟩) bx (by decide) _),qs o (KeepT.set (a:=⟨nb,3,none⟩) bx (by decide) _),?_⟩
 ·have:=qw bx 3 v'
  simpa using this
 have:=g.size;have:=h.hs
 simp;omega
def qI (bs:List Br) (k:Nat):Nd:=⟨false,(bs.take k).tail.map (·.1),[],(bs.take k).map (·.2)⟩
theorem qaf (bs:List Br):qI bs 0=⟨false,[],[],[]⟩:=by simp[qI]
theorem qfx {y:Br} (h:bs[0]?=some y):qI bs (0+1)=⟨false,[],[],[y.2]⟩:=by
 cases bs with
 | nil=>simp at h
 | cons a r=>simp at h;subst h;simp[qI]
theorem qgo {y:Br} (h:bs[k]?=some y) (hk:0<k):qI bs (k+1)=⟨false,(qI bs k).keys++[y.1],[],(qI bs k).kids++[y.2]⟩:=by
 unfold qI;rw[Xf,h]
 have:(bs.take k)≠[]:=fun e=>by
  have:=XE List.length e
  have hl:=(xn.1 h).1
  simp at this;rcases this with h9|h9
  ·omega
  subst h9;simp at hl
 cases ht:bs.take k with
 | nil=>exact absurd ht this
 | cons a r=>simp
theorem qjd (bs:List Br):qI bs bs.length=inr bs:=by unfold qI inr;rw[xx (xc _)]
theorem vy (bs:List Br) (k:Nat):(qI bs k).keys.length<=bs.length/\(qI bs k).kids.length<=bs.length:=by unfold qI;simp;omega
theorem vL {Q:Exit->Act->World->Prop} (hgd:o.guard=none) (s x:Operand)
 (ho:o.op=.call {callee:=.builtin .append,args:=#[s,x],argTypes:=#[82,82]}) (B:Nat) (v:Value) (xs:List Int) (y:Int) (g:Nat) (hs:a.eval s=v) (hx:a.eval x=.slice (some ⟨g,0,none⟩) 1 1)
 (hown:OwnJ B w v xs) (hc:w.cell? ⟨g,0,none⟩=some (.int .i64 y)) (hlen:(xs.length+1)*8<=140737488355328) (hB:B<=w.heap.size)
 (h:∀ g' cap w',OwnJ B w' (.slice (some ⟨g',0,none⟩) (xs.length+1) cap) (xs++[y])->w.grownBy w' v.ownBlock->wpList Tryz.prog ops Q rest (a.put o.dst (.slice (some ⟨g',0,none⟩) (xs.length+1) cap)) w'):wpList Tryz.prog ops Q (o::rest) a w:=by
 obtain⟨i0,hi,hz0,hz1,hz2⟩:=Xh qmg
 have n2:∀ j u,([y].map (Value.int .i64))[j]?=some u->w.cell? ((⟨g,0,none⟩:Addr).add j)=some u:=by
  intro j u hj
  match j,hj with
  | 0,hj=>simp at hj;subst hj;simpa[Addr.add] using hc
  | j+1,hj=>simp at hj
 refine Xq _ hgd s x 82 ho B 3 i0 (.int .i64 0) 1 8 Ko hi hz0 hz1 hz2 rfl (by decide) v xs.length (xs.map (Value.int .i64)) hs hown ⟨g,0,none⟩ 1 1 ([y].map (Value.int .i64)) hx rfl n2
  (fun u hu=>by simp at hu;subst hu;rfl) (by decide) (by rw[show maxLen=9223372036854775807 from rfl];omega) hlen hB _ rfl ?_
 intro g' cap w' h1 h2 h3 _;refine h g' cap w' ?_ h2;show World.ownsRow _ _ _ _ _ _ _
 rw[Xj]
 simpa using h1
theorem Yo (B:Nat) (w:World) (v:Value) (bs:List Br) (h:OwnBr B w v bs) (hl:bs.length<=1000) :
 Calls Tryz.prog 83 #[v] w fun e w'=>∃ kv dv,e=.returned (nv (inr bs) kv (.slice none 0 0) dv)/\OwnN w.heap.size w' kv (.slice none 0 0) dv (inr bs)/\Below w.heap.size w w':=by
 obtain⟨a,c,rfl⟩:=h.slice;obtain⟨W,hW,DW,bW,sW⟩:=qf w #[.bool false,.slice none 0 0,.slice none 0 0,.slice none 0 0] 84;obtain⟨X,hX,DX,bX,sX⟩:=qf W #[.bool false,.slice none 0 0,.slice none 0 0,.slice none 0 0] 84;have bWX:=bW.trans (bX.mono bW.size)
 rw[sW] at DX
 have I0:Hid (ISt X (w.heap.size+1) X (.slice none 0 0) (.slice none 0 0) (qI bs 0)):=by
  show ISt _ _ _ _ _ _
  rw[qaf];exact⟨xm _ _,DX,xA _ _ _ _,xA _ _ _ _,by rw[sX,sW];omega⟩
 have HO:Hid (OwnBr B X (.slice a bs.length c) bs):=qB h bWX
 have HR:Hid (X.heap[w.heap.size]?=some (.cells #[.bool false,.slice none 0 0,.slice none 0 0,.slice none 0 0] 84 (0,0))):=(bX.block _ (xa DW)).trans DW
 have HB:=qa bWX
 have HP:Hid (OwnBr B w (.slice a bs.length c) bs):=h
 generalize hK:bs.length=K at *;replace hK:=qa hK;clear h DW DX bW bX bWX;go_enter Tryz.func83,Tryz.ntmps83
 go_wp2_with fail
 rw[<-hW,<-hX];replace hW:=qa hW;replace hX:=qa hX
 go_loopw [8] (fun p wr=>∃ k:Nat,k<=K/\p=.int .i64 k/\Hid (∃ kv dv,ISt X (w.heap.size+1) wr kv dv (qI bs k))) (fun p _=>K-(intOf p).toNat)
 case atStart=>exact⟨0,xt _,rfl,qa ⟨_,_,I0.out⟩⟩
 case round =>
 obtain⟨k,hk,rfl,hI⟩:=hrel;clear I0;obtain⟨kv,dv,I1⟩:=hI.out;by_cases hlt:k<K
 ·have hq:(k:Int)<(K:Int):=by omega
  obtain⟨⟨x,d⟩,hy⟩:∃ y,bs[k]?=some y:=⟨_,xg (by rw[hK.out];exact hlt)⟩
  obtain⟨g,cap,e9,hBg,c1,c2,cf⟩:=HP.out.at hy;simp only[xH] at e9;obtain⟨rfl,h9,rfl⟩:=e9;clear h9;have bw1:Below w.heap.size w wr:=HB.out.trans (I1.bel.mono (by omega))
  replace c1:=(bw1.cell (qe c1)).trans c1;replace c2:=(bw1.cell (qe c2)).trans c2;obtain⟨V,hV,DV,bV,sV⟩:=qf wr #[st x,.int .i64 d] 160;have IV:=I1.to bV
  have DV':=qa DV
  clear hI bw1 bV;by_cases h0:k=0
  ·subst h0;have hn9:Hid (((qI bs 0).kids.length+1)*8<=140737488355328):=by show _<=_;have:=(vy bs 0).2;have:=hK.out;omega
   have hres:Hid (qI bs (0+1)=⟨(qI bs 0).leaf,(qI bs 0).keys,(qI bs 0).vals,(qI bs 0).kids++[d]⟩):=by show _=_;rw[qfx hy,qaf];rfl
   go_upto_region 7 with fail
   rw[<-hV];obtain⟨Y,hY⟩:∃ Y,Y=V:=⟨_,rfl⟩;have IY:ISt X (w.heap.size+1) Y kv dv (qI bs 0):=by rw[hY];exact IV
   have Y1:Y.cell? ⟨wr.heap.size,1,none⟩=some (.int .i64 d):=by rw[hY];exact qt DV rfl
   rw[<-hY];replace hV:=qa hV;clear IV DV DV' I1 c1 c2 hY
   -- the kid is appended
   obtain⟨⟨E0,E1,E2,E3⟩,EF⟩:=qb IY.box;obtain⟨T,hT,DT,bT,sT⟩:=qf Y #[.int .i64 d] 3;have IT:=IY.to bT
   have T0:=qt DT (i:=0) rfl
   have OT:=IT.kids
   have hBT:w.heap.size+1+1<=T.heap.size:=IT.hs
   obtain⟨da,dc,hdv⟩:=IT.kids.rd.slice;subst hdv
   have FIN:Hid (∀ g5 cap5 w5,OwnJ (w.heap.size+1+1) w5 (.slice (some ⟨g5,0,none⟩) ((qI bs 0).kids.length+1) cap5) ((qI bs 0).kids++[d])->T.grownBy w5 (Value.slice da (qI bs 0).kids.length dc).ownBlock ->
    w5.cell? ⟨w.heap.size+1,3,none⟩=some (.slice da (qI bs 0).kids.length dc)/\w5.frozen? ⟨w.heap.size+1,3,none⟩=false/\Hid (∃ kv dv,ISt X (w.heap.size+1) (w5.setCell ⟨w.heap.size+1,3,none⟩ (.slice (some ⟨g5,0,none⟩) ((qI bs 0).kids.length+1) cap5)) kv dv (qI bs (0+1)))):=fun g5 cap5 w5 o5 r5=>by
    have bx5:=KeepT.grown IT.kids r5 (show 84≠3 by decide) _ _ _ IT.box
    obtain⟨⟨F0,F1,F2,F3⟩,FF⟩:=qb bx5;have I5:=IT.kid o5 r5
    exact⟨F3,FF 3,qa ⟨_,_,Eq.mp (XE (ISt X (w.heap.size+1) _ _ _) hres.out.symm) I5⟩⟩
   rw[hT] at T0 OT hBT FIN;clear IT DT bT IY
   go_wp2_with (at_builtin;refine vL rfl _ _ rfl (w.heap.size+1+1) _ _ d Y.heap.size rfl rfl OT T0 hn9.out hBT ?_;intro g5 cap5 w5 o5 r5;obtain⟨F1,F2,F3⟩:=FIN.out g5 cap5 w5 o5 r5;clear o5 r5)
   go_roundw
   case rel=>exact⟨0+1,by omega,by go_num,F3⟩
   case measure=>simp[intOf];omega
  have hp:(k:Int)>0:=by omega
  have hn9:Hid (((qI bs k).kids.length+1)*8<=140737488355328):=by show _<=_;have:=(vy bs k).2;have:=hK.out;omega
  have hres:Hid (qI bs (k+1)=⟨(qI bs k).leaf,(qI bs k).keys++[x],(qI bs k).vals,(qI bs k).kids++[d]⟩):=by show _=_;rw[qgo hy (by omega)];rfl
  obtain⟨⟨E0,E1,E2,E3⟩,EF⟩:=qb IV.box;have V0:=qt DV (i:=0) rfl
  obtain⟨T,hT,DT,bT,sT⟩:=qf V #[st x] 9;have IT:=IV.to bT
  have T0:=qt DT (i:=0) rfl
  have DT':=(bT.block _ (xa DV)).trans DV
  have OT:=IT.keys
  have hBT:w.heap.size+1+1<=T.heap.size:=IT.hs
  have hn8:((qI bs k).keys.length+1)*16<=140737488355328:=by have:=(vy bs k).1;have:=hK.out;omega
  obtain⟨ka,kc,hkv⟩:=IT.keys.rd.slice;subst hkv
  have FIN:Hid (∀ g5 cap5 w5,OwnT (w.heap.size+1+1) w5 (.slice (some ⟨g5,0,none⟩) ((qI bs k).keys.length+1) cap5) ((qI bs k).keys++[x])->T.grownBy w5 (Value.slice ka (qI bs k).keys.length kc).ownBlock ->
   w5.cell? ⟨w.heap.size+1,1,none⟩=some (.slice ka (qI bs k).keys.length kc)/\w5.frozen? ⟨w.heap.size+1,1,none⟩=false/\Hid (∃ kv,ISt X (w.heap.size+1) (w5.setCell ⟨w.heap.size+1,1,none⟩ (.slice (some ⟨g5,0,none⟩) ((qI bs k).keys.length+1) cap5)) kv dv ⟨(qI bs k).leaf,(qI bs k).keys++[x],(qI bs k).vals,(qI bs k).kids⟩/\
    (w5.setCell ⟨w.heap.size+1,1,none⟩ (.slice (some ⟨g5,0,none⟩) ((qI bs k).keys.length+1) cap5)).cell? ⟨wr.heap.size,1,none⟩=some (.int .i64 d))):=fun g5 cap5 w5 o5 r5=>by
   have bx5:=KeepT.grown IT.keys r5 (show 84≠9 by decide) _ _ _ IT.box
   have br5:=KeepT.grown IT.keys r5 (show 160≠9 by decide) _ _ _ DT'
   obtain⟨⟨F0,F1,F2,F3⟩,FF⟩:=qb bx5;have I5:=IT.key o5 r5
   refine⟨F1,FF 1,_,I5,qt ((xd _ _ _ _ (show wr.heap.size≠w.heap.size+1 from ?_)).trans br5) rfl⟩;have:=I1.hs
   omega
  rw[sV] at T0;rw[hV] at E0 E1 E2 E3 EF V0;rw[hT,hV] at T0 OT hBT FIN;replace h0:=qa h0;clear IT DT bT IV DV DV' DT'
  go_upto_region 7 with (at_builtin;refine JZ rfl _ _ rfl (w.heap.size+1+1) _ _ x (wr.heap.size+1) rfl rfl OT T0 hn8 hBT ?_;intro g5 cap5 w5 o5 r5 l5;obtain⟨F1,F2,F3⟩:=FIN.out g5 cap5 w5 o5 r5;clear o5 r5 l5)
  obtain⟨kv5,IY,Y1⟩:=F3.out;obtain⟨Y,hY⟩:∃ Y,Y=w5.setCell ⟨w.heap.size+1,1,none⟩ (.slice (some ⟨g5,0,none⟩) ((qI bs k).keys.length+1) cap5):=⟨_,rfl⟩;rw[<-hY] at IY Y1 |-;replace hV:=qa hV;clear E0 E1 E2 E3 EF V0 T0 OT hBT FIN I1 c1 c2 hY F1 F2 F3 hT hn8
  -- the kid is appended
  obtain⟨⟨E0,E1,E2,E3⟩,EF⟩:=qb IY.box;obtain⟨T,hT,DT,bT,sT⟩:=qf Y #[.int .i64 d] 3;have IT:=IY.to bT
  have T0:=qt DT (i:=0) rfl
  have OT:=IT.kids
  have hBT:w.heap.size+1+1<=T.heap.size:=IT.hs
  obtain⟨da,dc,hdv⟩:=IT.kids.rd.slice;subst hdv
  have FIN:Hid (∀ g5 cap5 w5,OwnJ (w.heap.size+1+1) w5 (.slice (some ⟨g5,0,none⟩) ((⟨(qI bs k).leaf,(qI bs k).keys++[x],(qI bs k).vals,(qI bs k).kids⟩:Nd).kids.length+1) cap5) ((⟨(qI bs k).leaf,(qI bs k).keys++[x],(qI bs k).vals,(qI bs k).kids⟩:Nd).kids++[d])->T.grownBy w5 (Value.slice da (⟨(qI bs k).leaf,(qI bs k).keys++[x],(qI bs k).vals,(qI bs k).kids⟩:Nd).kids.length dc).ownBlock ->
   w5.cell? ⟨w.heap.size+1,3,none⟩=some (.slice da (⟨(qI bs k).leaf,(qI bs k).keys++[x],(qI bs k).vals,(qI bs k).kids⟩:Nd).kids.length dc)/\w5.frozen? ⟨w.heap.size+1,3,none⟩=false/\Hid (∃ kv dv,ISt X (w.heap.size+1) (w5.setCell ⟨w.heap.size+1,3,none⟩ (.slice (some ⟨g5,0,none⟩) ((⟨(qI bs k).leaf,(qI bs k).keys++[x],(qI bs k).vals,(qI bs k).kids⟩:Nd).kids.length+1) cap5)) kv dv (qI bs (k+1)))):=fun g5 cap5 w5 o5 r5=>by
   have bx5:=KeepT.grown IT.kids r5 (show 84≠3 by decide) _ _ _ IT.box
   obtain⟨⟨F0,F1,F2,F3⟩,FF⟩:=qb bx5;have I5:=IT.kid o5 r5
   exact⟨F3,FF 3,qa ⟨_,_,Eq.mp (XE (ISt X (w.heap.size+1) _ _ _) hres.out.symm) I5⟩⟩
  rw[hT] at T0 OT hBT FIN;clear IT DT bT IY
  go_wp2_with (at_builtin;refine vL rfl _ _ rfl (w.heap.size+1+1) _ _ d Y.heap.size rfl rfl OT T0 hn9.out hBT ?_;intro g5 cap5 w5 o5 r5;obtain⟨F1,F2,F3⟩:=FIN.out g5 cap5 w5 o5 r5;clear o5 r5)
  go_roundw
  case rel=>exact⟨k+1,by omega,by go_num,F3⟩
  case measure=>simp[intOf];omega
 have hq:¬ (k:Int)<(K:Int):=by omega
 obtain rfl:k=K:=by omega
 rw[<-hK.out,qjd] at I1;have R6:=(I1.bel.block _ (show w.heap.size<w.heap.size+1 by omega)).trans HR.out
 obtain⟨⟨E0,E1,E2,E3⟩,EF⟩:=qb I1.box;obtain⟨⟨J0,J1,J2,J3⟩,JF⟩:=qb R6;have HR7:=qa R6
 obtain⟨ka,kc,hkv⟩:=I1.keys.rd.slice;obtain⟨da,dc,hdv⟩:=I1.kids.rd.slice;subst hkv hdv;have k1:∀ e,e≠84->KeepT e wr (S4 w.heap.size wr (.bool false) (.slice ka (inr bs).keys.length kc) (.slice none 0 0) (.slice da (inr bs).kids.length dc)):=fun e he=>z8 R6 _ _ _ _ he
 have OO:Hid (OwnN w.heap.size (S4 w.heap.size wr (.bool false) (.slice ka (inr bs).keys.length kc) (.slice none 0 0) (.slice da (inr bs).kids.length dc)) (.slice ka (inr bs).keys.length kc) (.slice none 0 0) (.slice da (inr bs).kids.length dc) (inr bs)) :=
  ⟨QA (qs I1.keys (k1 _ (by decide))) (by omega),xA _ _ _ _,QA (qs I1.kids (k1 _ (by decide))) (by omega)⟩
 have bw1:Below w.heap.size w wr:=HB.out.trans (I1.bel.mono (by omega))
 have BB:=qa (qn bw1 (xc _) (.bool false) (.slice ka (inr bs).keys.length kc) (.slice none 0 0) (.slice da (inr bs).kids.length dc))
 clear I1 R6 k1 bw1 hI;go_wp2;refine Js rfl rfl w.heap.size rfl _ _ (0,0) (qu HR7.out _ _ _ _) _ xJ rfl Qe ?_;exact⟨_,_,rfl,OO.out,BB.out⟩
def pgs:Int->List Nd->List Wrt
 | _,[]=>[]
 | z,n::r=>(z,QN n)::pgs (z+1) r
theorem YG:∀ (z:Int) (ad:List Nd),(pgs z ad).length=ad.length
 | _,[]=>rfl
 | z,n::r=>by simp[pgs,YG (z+1) r]
theorem qin:∀ (z:Int) (a b:List Nd),pgs z (a++b)=pgs z a++pgs (z+a.length) b
 | z,[],b=>by simp[pgs]
 | z,n::a,b=>by
  simp only[xD,pgs,xC];rw[qin (z+1) a b]
  congr 3
  push_cast
  omega
theorem Y6 (b:List Wrt) (id:Int):∀ a:List Wrt,qH (a++b) id=match qH a id with|some x=>some x|none=>qH b id
 | []=>rfl
 | y::a=>by
  simp only[xD,qH]
  split
  ·rfl
  exact Y6 b id a
theorem Yu:∀ {z:Int} {ad:List Nd} {i:Nat} {n:Nd},ad[i]?=some n->qH (pgs z ad) (z+i)=some (QN n)
 | z,[],i,n,h=>by simp at h
 | z,m::r,0,n,h=>by
  have:m=n:=by simpa using h
  subst this;simp[pgs,qH]
 | z,m::r,i+1,n,h=>by
  have ih:=Yu (z:=z+1) (ad:=r) (i:=i) (n:=n) (by simpa using h)
  simp only[pgs,qH];rw[xh (by push_cast;omega),show z+((i+1:Nat):Int)=z+1+(i:Int) by push_cast;omega]
  exact ih
abbrev lp (l:List Wrt) (next:Int) (ad:List Nd):List Wrt:=l++pgs next ad
theorem qdz (a b:List Wrt):Ext a (a++b):=fun id x h=>by rw[Y6,h]
theorem YH (l:List Wrt) (next:Int) (ad more:List Nd):Ext (lp l next ad) (lp l next (ad++more)):=by
 rw[lp,lp,qin,<-xz];exact qdz _ _
theorem vq {next:Int} {more:List Nd} (hnl:∀ id x,qH l id=some x->id<next) (hok:NOk n):NdIs (lp l next (ad++n::more)) (next+ad.length) n:=by
 refine⟨QN n,?_,qd3 hok⟩;rw[Y6];cases h:qH l (next+(ad.length:Int)) with
 | some x=>have:=hnl _ _ h;omega
 | none=>exact Yu (by simp)
def NO (l:List Wrt):Nat->Nd->Str->Option Str->Prop
 | 0,n,lo,hi=>∃ ps,n=lf ps/\qek ps/\∀ y∈ps,kin lo hi y.1=true
 | d+1,n,lo,hi=>∃ bs,n=inr bs/\qbe bs/\Seg l d lo hi bs
def nP (l:List Wrt):Nat->Nd->List Pr
 | 0,n=>npr n
 | d+1,n=>n.kids.flatMap (pOf l d)
def nI (l:List Wrt):Nat->Nd->List Int
 | 0,_=>[]
 | d+1,n=>n.kids.flatMap (qV l d)
def Lim:Nat->Int
 | 0=>342
 | _+1=>281
theorem NO.ext {l':List Wrt} (h:Ext l l') {lo:Str} {hi:Option Str} (k:NO l d n lo hi):NO l' d n lo hi/\nP l' d n=nP l d n/\nI l' d n=nI l d n:=by
 cases d with
 | zero=>exact⟨k,rfl,rfl⟩
 | succ d =>
  obtain⟨bs,rfl,h1,h2⟩:=k;have hs:=yv h h2.each
  refine⟨⟨bs,rfl,h1,h2.ext h⟩,?_,?_⟩
  ·rw[nP,nP,zu,zu];exact hs.1
  rw[nI,nI,zv,zv];exact hs.2
theorem JR {lo:Str} {hi:Option Str} (h:TOk l d id lo hi):∃ nd,NdIs l id nd/\NO l d nd lo hi/\qV l d id=id::nI l d nd/\pOf l d id=nP l d nd:=by
 cases d with
 | zero =>
  obtain⟨nd,hN,h1,h2,h3⟩:=h;obtain⟨e,hp⟩:=qsv hN.ok h1;refine⟨nd,hN,⟨_,e,hp,fun y hy=>XR.1 h3 _ (List.of_mem_zip hy).1⟩,rfl,by rw[pOf,hN.at];rfl⟩
 | succ d =>
  obtain⟨nd,hN,h1,h2,h3,h4⟩:=qds h;obtain⟨e,hb,_⟩:=ZD hN.ok h1;refine⟨nd,hN,⟨_,e,hb,h2⟩,?_,?_⟩
  ·rw[h3,nI]
   conv=>rhs;rw[e]
   rw[zv]
  rw[h4,nP]
  conv=>rhs;rw[e]
  rw[zu]
theorem qrh {lo:Str} {hi:Option Str} (h:NO l d n lo hi) (hN:NdIs l id n) (h0:n.keys≠[]):TOk l d id lo hi/\qV l d id=id::nI l d n/\pOf l d id=nP l d n:=by
 cases d with
 | zero =>
  obtain⟨ps,rfl,h1,h2⟩:=h;obtain⟨a,b,c⟩:=qhw hN (fun e=>h0 (by subst e;rfl)) h2
  exact⟨a,b,by rw[c,nP,yX]⟩
 | succ d =>
  obtain⟨bs,rfl,h1,h2⟩:=h;obtain⟨a,b,c⟩:=Vl hN h2;exact⟨a,by rw[b,nI,zv],by rw[c,nP,zu]⟩
theorem NO.ok {lo:Str} {hi:Option Str} (h:NO l d n lo hi) (h0:n.keys≠[]) (hs:qp n<=244):NOk n:=by
 cases d with
 | zero =>
  obtain⟨ps,rfl,h1,h2⟩:=h;exact qao h1 hs
 | succ d =>
  obtain⟨bs,rfl,h1,h2⟩:=h;exact qc9 h2.keys.1 h1 (fun e=>h0 (by unfold inr;rw[e];rfl)) hs
theorem NO.leaf {lo:Str} {hi:Option Str} (h:NO l d n lo hi):n.leaf=decide (d=0):=by
 cases d with
 | zero=>obtain⟨ps,rfl,_⟩:=h;rfl
 | succ d=>obtain⟨ps,rfl,_⟩:=h;rfl
theorem TOk.there {l:List Wrt} {next:Int} (hnl:∀ id x,qH l id=some x->id<next):∀ {d:Nat} {id:Int} {lo:Str} {hi:Option Str},TOk l d id lo hi->∀ i∈qV l d id,i<next
 | 0,id,lo,hi,⟨nd,⟨x,hx,_⟩,_⟩,i,hi9=>by
  have:i=id:=by simpa[qV] using hi9
  subst this;exact hnl _ _ hx
 | d+1,id,lo,hi,⟨nd,hN,h1,h2,h3⟩,i,hi9=>by
  rw[qV,hN.at] at hi9;rcases xU.1 hi9 with rfl|hi9
  ·obtain⟨x,hx,_⟩:=hN;exact hnl _ _ hx
  obtain⟨kid,hk,hi9⟩:=kM.1 hi9;obtain⟨j,hj⟩:=qcr hk;exact TOk.there hnl (h3 j kid hj) i hi9
theorem Seg.there {next:Int} (hnl:∀ id x,qH l id=some x->id<next) {lo:Str} {hi:Option Str} (h:Seg l d lo hi bs):∀ i∈QI l d bs,i<next:=by
 intro i hi9;obtain⟨b,hb,hi9⟩:=kM.1 hi9;obtain⟨_,_,q⟩:=h.each b hb;exact q.there hnl i hi9
def qC (next:Int) (ad:List Nd) (n:Nd) (ahead:Str):List Br×List Nd :=
 if n.keys.length=0 then([],ad)
 else if qp n<=244 then([(ahead,next+(ad.length:Int))],ad++[n])
 else([(ahead,next+(ad.length:Int)),(n.keys.getD (qX n) [],next+(ad.length:Int)+1)],ad++[QT n (qX n),QW n (qX n)])
structure Laid (l:List Wrt) (next:Int) (ad ad':List Nd) (d:Nat) (n:Nd) (ahead lo:Str) (hi:Option Str) (bs:List Br):Prop where
 more:∃ more,ad'=ad++more/\more.length<=2/\∀ x∈more,NOk x
 prs:Qp (lp l next ad') d bs=nP (lp l next ad) d n
 nod:(QI (lp l next ad') d bs).Nodup
 ids:∀ i∈QI (lp l next ad') d bs,i∈nI (lp l next ad) d n\/(next+(ad.length:Int)<=i/\i<next+(ad'.length:Int))
 seg:(bs=[]/\n.keys=[])\/(∃ k r,bs=(ahead,k)::r/\Seg (lp l next ad') d lo hi bs)
 br:qbe bs
 len:bs.length<=2
theorem Ja (next:Int) (ad:List Nd) (n:Nd) (ahead:Str):ad.length<=(qC next ad n ahead).2.length/\(qC next ad n ahead).2.length<=ad.length+2:=by
 unfold qC
 split
 ·exact⟨xc _,Nat.le_add_right _ _⟩
 split<;>simp
theorem qke {a b:Int} {x y:List Int} (h:(x++y).Nodup) (hab:a≠b) (ha:a ∉ x++y) (hb:b ∉ x++y):((a::x)++(b::y)).Nodup:=by
 rw[xN] at h |-;simp only[xu,not_or] at ha hb;refine⟨kh.2 ⟨ha.1,h.1⟩,kh.2 ⟨hb.2,h.2.1⟩,fun p hp q hq e=>?_⟩;subst e;rcases xU.1 hp with rfl|hp<;>rcases xU.1 hq with h9|hq
 ·exact hab h9
 ·exact ha.2 hq
 ·subst h9;exact hb.1 hp
 exact h.2.2 p hp p hq rfl
theorem qis {next:Int} {ahead lo:Str} {hi:Option Str} (hnl:∀ id x,qH l id=some x->id<next) (hn1:1<=next) (hN:NO (lp l next ad) d n lo hi) (hL:qp n<=Lim d) (hnod:(nI (lp l next ad) d n).Nodup)
 (hold:∀ i∈nI (lp l next ad) d n,i<next+(ad.length:Int)) (hM:next+((qC next ad n ahead).2.length:Int)<=65536) (hnb:n.leaf=true\/n.keys≠[]) :
 Laid l next ad (qC next ad n ahead).2 d n ahead lo hi (qC next ad n ahead).1:=by
 unfold qC at hM |-;by_cases h0:n.keys.length=0
 ·rw[xj h0] at hM |-;have hk:n.keys=[]:=xq h0
  have hl:n.leaf=true:=by
   rcases hnb with h|h
   ·exact h
   exact absurd hk h
  have hd:d=0:=by have:=hN.leaf;rw[hl] at this;simpa using this.symm
  subst hd;refine⟨⟨[],by simp,by simp,fun x hx=>by cases hx⟩,?_,by simp[QI],fun i hi=>by simp[QI] at hi,.inl ⟨rfl,hk⟩,⟨(fun b hb=>by cases hb),(fun b hb=>by cases hb)⟩,by simp⟩
  show Qp _ _ []=npr n
  rw[npr,hk];rfl
 rw[xh h0] at hM |-;have hk:n.keys≠[]:=fun e=>h0 (by rw[e];rfl)
 by_cases h1:qp n<=244
 ·rw[xj h1] at hM |-;dsimp only at hM |-;have hok:=hN.ok hk h1
  obtain⟨hN2,e1,e2⟩:=hN.ext (YH l next ad [n])
  have his:NdIs (lp l next (ad++[n])) (next+ad.length) n:=vq hnl hok
  obtain⟨t1,t2,t3⟩:=qrh hN2 his hk;have hM':next+((ad.length:Int)+1)<=65536:=by simpa using hM
  refine⟨⟨[n],rfl,by simp,fun x hx=>by simp at hx;subst hx;exact hok⟩,?_,?_,?_,.inr ⟨_,[],rfl,t1⟩,⟨(fun b hb=>by cases hb),fun b hb=>?_⟩,by simp⟩
  ·simp only[Qp,xO,XI,xK];rw[t3,e1]
  ·simp only[QI,xO,XI,xK];rw[t2,e2,kh];exact⟨fun h=>by have:=hold _ h;omega,hnod⟩
  ·intro i hi9;simp only[QI,xO,XI,xK] at hi9;rw[t2,e2] at hi9;rcases xU.1 hi9 with rfl|hi9
   ·exact .inr ⟨Kj _,by simp;omega⟩
   exact .inl hi9
  simp only[ku] at hb;subst hb;show 1<=next+(ad.length:Int)/\next+(ad.length:Int)<=65536
  omega
 rw[xh h1] at hM |-;dsimp only at hM |-;have hM':next+((ad.length:Int)+2)<=65536:=by simpa using hM
 have e9:ad++[QT n (qX n),QW n (qX n)]=(ad++[QT n (qX n)])++[QW n (qX n)]:=by simp
 have e8:(next+(ad.length:Int)+1)=next+((ad++[QT n (qX n)]).length:Int):=by simp;omega
 cases d with
 | zero =>
  obtain⟨ps,rfl,hp,hin⟩:=hN;have hw:∀ y∈ps,pw y<=98:=fun y hy=>by have:=hp.2 y hy;unfold pw;omega
  obtain⟨m1,m2,m3,m4⟩:=qez hw (by omega) hL
  obtain⟨m,hm⟩:∃ m,m=qX (lf ps):=⟨_,rfl⟩;rw[<-hm] at m1 m2 m3 m4 e9 e8 |-;rw[YO,Vq] at e9 |-;rw[YO] at e8;have hr:=hp.1
  have eps:ps.take m++ps.drop m=ps:=x7 m ps
  have hr2:=hr
  rw[<-eps,Xj] at hr2;obtain⟨r1,r2,r3⟩:=Kd.1 hr2;have hgk:(lf ps).keys.getD m []=ps[m].1:=by simp[lf,m2]
  rw[hgk];have hdr:ps.drop m=ps[m]::ps.drop (m+1):=Xv m2
  have okL:NOk (lf (ps.take m)):=qao ⟨r1,fun y hy=>hp.2 y (Ke hy)⟩ m3
  have okR:NOk (lf (ps.drop m)):=qao ⟨r2,fun y hy=>hp.2 y (Kx hy)⟩ m4
  have isL:NdIs (lp l next (ad++[lf (ps.take m),lf (ps.drop m)])) (next+ad.length) (lf (ps.take m)):=vq hnl okL
  have isR:NdIs (lp l next (ad++[lf (ps.take m),lf (ps.drop m)])) (next+(ad.length:Int)+1) (lf (ps.drop m)):=by rw[e9,e8];exact vq hnl okR
  have hmm:ps[m].1∈(ps.drop m).map (·.1):=Xx.2 ⟨ps[m],by rw[hdr];exact XP ..,rfl⟩
  obtain⟨a1,a2,a3⟩:=qhw (lo:=lo) (hi:=some ps[m].1) isL (fun e=>by have:=XE List.length e;simp only[xp,xX] at this;omega) (fun y hy=>by
   have h8:=hin y (Ke hy)
   simp only[Go.Proofs.YtfjadfnjmpefkaaGreat.kin,xL,Xl] at h8 |-;exact⟨h8.1,r3 y.1 (Xx.2 ⟨y,hy,rfl⟩) _ hmm⟩)
  obtain⟨b1,b2,b3⟩:=qhw (lo:=ps[m].1) (hi:=hi) isR (fun e=>by have:=XE List.length e;simp only[xE,xX] at this;omega) (fun y hy=>by
   have h8:=hin y (Kx hy)
   simp only[Go.Proofs.YtfjadfnjmpefkaaGreat.kin,xL,Xl] at h8 |-;refine⟨?_,h8.2⟩;rw[hdr] at hy r2;rcases xU.1 hy with rfl|hy
   ·exact qU _
   rw[Xn] at r2;exact Qb ((kJ.1 r2).1 y.1 (Xx.2 ⟨y,hy,rfl⟩)))
  refine⟨⟨_,rfl,by simp,fun x hx=>?_⟩,?_,?_,?_,.inr ⟨_,_,rfl,a1,b1⟩,⟨fun b hb=>?_,fun b hb=>?_⟩,by simp⟩
  ·simp at hx;rcases hx with rfl|rfl
   ·exact okL
   exact okR
  ·simp only[Qp,xO,XI,xK];rw[a3,b3,eps,nP,yX]
  ·simp only[QI,xO,XI,xK];rw[a2,b2];refine xN.2 ⟨by simp,by simp,fun a ha b hb e=>?_⟩
   simp only[ku] at ha hb;omega
  ·intro i hi9;simp only[QI,xO,XI,xK] at hi9;rw[a2,b2] at hi9;refine .inr ?_;simp at hi9 |-;omega
  ·simp only[Xa,ku] at hb;subst hb;exact(hp.2 ps[m] (Xy m2)).1
  simp only[xU,List.not_mem_nil,or_false] at hb;rcases hb with rfl|rfl
  ·show 1<=next+(ad.length:Int)/\next+(ad.length:Int)<=65536
   omega
  show 1<=next+(ad.length:Int)+1/\next+(ad.length:Int)+1<=65536
  omega
 | succ d =>
  have hNe:=hN.ext (YH l next ad [QT n (qX n),QW n (qX n)])
  obtain⟨bs,rfl,hb,hsg⟩:=hN;cases bs with
  | nil=>exact hsg.elim
  | cons b0 r =>
   have hw:∀ y∈r,bw y<=37:=fun y hy=>by have:=hb.1 y (by simpa using hy);unfold bw;omega
   obtain⟨m1,m2,m3,m4⟩:=qi5 hw (by omega) hL
   obtain⟨m,hm⟩:∃ m,m=qX (inr (b0::r)):=⟨_,rfl⟩;rw[<-hm] at m1 m2 m3 m4 e9 e8 hNe |-;rw[ym,YC] at e9 hNe |-;rw[ym] at e8;have hml:m<r.length:=by omega
   have hgk:(inr (b0::r)).keys.getD m []=r[m].1:=by simp[inr,hml]
   rw[hgk];have hdr:r.drop m=r[m]::r.drop (m+1):=Xv hml
   have eb:b0::r=(b0::r.take m)++r[m]::r.drop (m+1):=by rw[xD,<-hdr,x7]
   obtain⟨L2,hL2⟩:∃ L,L=lp l next (ad++[inr (b0::r.take m),inr (r.drop m)]):=⟨_,rfl⟩
   rw[<-hL2] at hNe;obtain⟨⟨bs',ebs,_,sg2⟩,e1,e2⟩:=hNe;have sg:Seg L2 d lo hi (b0::r):=by rw[hL2];exact hsg.ext (YH l next ad _)
   have sgk:=sg.keys.1
   rw[eb,Jq (by simp)] at sg
   have kr:jf (r.map (·.1)):=sgk
   rw[<-x7 m r,Xj] at kr;obtain⟨r1,r2,r3⟩:=Kd.1 kr;have okL:NOk (inr (b0::r.take m)):=qc9 r1 ⟨fun b h9=>hb.1 b (Ke h9),fun b h9=>hb.2 b (by rcases xU.1 h9 with rfl|h9;exact XP ..;exact Xg _ (Ke h9))⟩ (fun e=>by have:=XE List.length e;simp only[Xa,xp,xX] at this;omega) m3
   have okR:NOk (inr (r.drop m)):=by
    refine qc9 ?_ ⟨fun b h9=>hb.1 b (Kx (List.mem_of_mem_tail h9)),fun b h9=>hb.2 b (Xg _ (Kx h9))⟩ (fun e=>by have:=XE List.length e;simp only[List.length_tail,xE,xX] at this;omega) m4
    rw[hdr,Xn] at r2;rw[hdr];exact(kJ.1 r2).2
   have isL:NdIs L2 (next+ad.length) (inr (b0::r.take m)):=by rw[hL2];exact vq hnl okL
   have isR:NdIs L2 (next+(ad.length:Int)+1) (inr (r.drop m)):=by rw[hL2,e9,e8];exact vq hnl okR
   obtain⟨a1,a2,a3⟩:=Vl isL sg.1;rw[<-hdr] at sg;obtain⟨b1,b2,b3⟩:=Vl isR sg.2
   have es:QI L2 d (b0::r.take m)++QI L2 d (r.drop m)=nI (lp l next ad) (d+1) (inr (b0::r)):=by
    rw[<-QC,xD,x7,<-e2,nI,zv]
   have ep:Qp L2 d (b0::r.take m)++Qp L2 d (r.drop m)=nP (lp l next ad) (d+1) (inr (b0::r)):=by
    rw[<-Zx,xD,x7,<-e1,nP,zu]
   refine⟨⟨_,rfl,by simp,fun x hx=>?_⟩,?_,?_,?_,.inr ⟨_,_,rfl,?_⟩,⟨fun b h9=>?_,fun b h9=>?_⟩,by simp⟩
   ·simp at hx;rcases hx with rfl|rfl
    ·exact okL
    exact okR
   ·rw[<-hL2];simp only[Qp,xO,XI,xK];rw[a3,b3,ep]
   ·rw[<-hL2];simp only[QI,xO,XI,xK];rw[a2,b2];rw[<-es] at hnod hold;exact qke hnod (by omega) (fun h=>by have:=hold _ h;omega) (fun h=>by have:=hold _ h;omega)
   ·rw[<-hL2];intro i hi9;simp only[QI,xO,XI,xK] at hi9;rw[a2,b2] at hi9;rw[<-es];simp only[xD,xU,xu] at hi9;rcases hi9 with rfl|hi9|rfl|hi9
    ·exact .inr ⟨Kj _,by simp;omega⟩
    ·exact .inl (Ky _ hi9)
    ·exact .inr ⟨by omega,by simp;omega⟩
    exact .inl (Ks _ hi9)
   ·rw[<-hL2];exact⟨a1,b1⟩
   ·simp only[Xa,ku] at h9;subst h9;exact hb.1 r[m] (by simp)
   simp only[xU,List.not_mem_nil,or_false] at h9;rcases h9 with rfl|rfl
   ·show 1<=next+(ad.length:Int)/\next+(ad.length:Int)<=65536
    omega
   show 1<=next+(ad.length:Int)+1/\next+(ad.length:Int)+1<=65536
   omega
def loY (P:List Br) (a lo:Str):Str:=if P=[] then lo else a
def hiS:List Br->Option Str->Option Str
 | [],hi=>hi
 | c::_,_=>some c.1
theorem qhl {lo:Str} {hi:Option Str} {P:List Br} {y:Br} :
 Seg l d lo hi (P++(y::Y)++S)↔(P=[]\/Seg l d lo (some y.1) P)/\Seg l d (loY P y.1 lo) (hiS S hi) (y::Y)/\(S=[]\/∃ c r,S=c::r/\Seg l d c.1 hi S):=by
 cases P with
 | nil =>
  simp only[xG,loY,kS,true_or,true_and];cases S with
  | nil=>simp[hiS]
  | cons c r =>
   rw[Jq (by simp)]
   constructor
   ·rintro ⟨h1,h2⟩;exact⟨h1,.inr ⟨c,r,rfl,h2⟩⟩
   rintro ⟨h1,h2|⟨c',r',e,h2⟩⟩
   ·cases h2
   cases e;exact⟨h1,h2⟩
 | cons p P =>
  have e:loY (p::P) y.1 lo=y.1:=by simp[loY]
  rw[e,xz,xD (a:=y),Jq (by simp)]
  have hp:(p::P=[]\/Seg l d lo (some y.1) (p::P))↔Seg l d lo (some y.1) (p::P):=by simp
  rw[hp];refine and_congr_right fun _=>?_;cases S with
  | nil=>simp[hiS]
  | cons c r =>
   rw[<-xD,Jq (by simp)]
   constructor
   ·rintro ⟨h1,h2⟩;exact⟨h1,.inr ⟨c,r,rfl,h2⟩⟩
   rintro ⟨h1,h2|⟨c',r',e,h2⟩⟩
   ·cases h2
   cases e;exact⟨h1,h2⟩
theorem qit {a:Str} {hi:Option Str} (h:Seg l d a hi Y) (lo:Str):Wide lo (some a) lo hi:=by
 refine⟨qU _,?_⟩;cases hi with
 | none=>trivial
 | some b=>exact Qb h.room
theorem ql3 {lo:Str} {hi:Option Str} {P:List Br} {y:Br} (h:Seg l d lo hi (P++(y::Y)++S)) (h0:P++S≠[]):Seg l d lo hi (P++S):=by
 obtain⟨h1,h2,h3⟩:=qhl.1 h;cases P with
 | nil =>
  cases S with
  | nil=>simp at h0
  | cons c r =>
   rcases h3 with h3|⟨c',r',e,h3⟩
   ·cases h3
   cases e
   simp only[loY,kS,hiS] at h2;exact h3.lo (Qb h2.room)
 | cons p P =>
  have e:loY (p::P) y.1 lo=y.1:=by simp[loY]
  rw[e] at h2
  have hP:Seg l d lo (some y.1) (p::P):=by
   rcases h1 with h1|h1
   ·cases h1
   exact h1
  cases S with
  | nil=>rw[xK];exact hP.hi (fun lo=>qit h2 lo)
  | cons c r =>
   rcases h3 with h3|⟨c',r',e,h3⟩
   ·cases h3
   cases e
   rw[Jq (by simp)]
   exact⟨hP.hi (fun lo=>qit h2 lo),h3⟩
def tw (bs:List Br):Nat:=(bs.map bw).sum
theorem jt (a b:List Br):tw (a++b)=tw a+tw b:=by simp[tw]
theorem qq1 (h:∀ b∈bs,b.1.length<=32):tw bs<=37*bs.length:=by
 induction bs with
 | nil=>simp[tw]
 | cons b r ih =>
  have h1:=ih fun x hx=>h x (by simp[hx])
  have h2:=h b (by simp)
  simp only[tw,Xn,kf,xC,bw] at h1 |-;omega
theorem qY (h:bs≠[]):qp (inr bs)=6+(tw bs.tail:Int):=by
 cases bs with
 | nil=>exact absurd rfl h
 | cons b r=>rw[Zk];rfl
structure Now (l:List Wrt) (d:Nat) (y:Br) (lo:Str) (hi:Option Str) (now:List Br):Prop where
 seg:now=[]\/∃ k r,now=(y.1,k)::r/\Seg l d lo hi now
 br:qbe now
 len:now.length<=2
theorem qpl {lo:Str} {hi:Option Str} {P:List Br} {y:Br} (h:Seg l d lo hi (P++(y::Y)++S)) (h0:P++S≠[]\/now≠[]) (hN:Now l d y (loY P y.1 lo) (hiS S hi) now) (hb:qbe (P++(y::Y)++S)) :
 Seg l d lo hi (P++now++S)/\qbe (P++now++S)/\qp (inr (P++now++S))<=qp (inr (P++(y::Y)++S))+37:=by
 have hpn:P++(y::Y)++S≠[]:=by simp
 rcases hN.seg with rfl|⟨k,r,rfl,hs⟩
 ·rw[xK];have h9:P++S≠[]:=by rcases h0 with h0|h0;exact h0;exact absurd rfl h0
  refine⟨ql3 h h9,⟨fun b hb9=>?_,fun b hb9=>hb.2 b (by simp only[xu] at hb9 |-;rcases hb9 with h|h<;>simp[h])⟩,?_⟩
  ·refine hb.1 b ?_;cases P with
   | nil=>simp only[xG] at hb9;simp[List.mem_of_mem_tail hb9]
   | cons p P =>
    simp only[xD,Xa,xu] at hb9 |-;rcases hb9 with h|h<;>simp[h]
  rw[qY h9,qY hpn];cases P with
  | nil =>
   have:tw S.tail<=tw S:=by cases S with|nil=>simp[tw]|cons a r=>simp[tw]
   simp only[xG,xD,Xa,jt]
   push_cast;omega
  | cons p P=>simp only[xD,Xa,jt];push_cast;omega
 have hr:tw r<=37:=by
  have h1:=qq1 (bs:=r) (fun b hb9=>(hN.br.1 b (by simpa using hb9)).2)
  have h2:=hN.len
  simp only[xC] at h2;have:37*r.length<=37:=by omega
  omega
 obtain⟨a1,a2,a3⟩:=qhl.1 h;refine⟨qhl.2 ⟨a1,hs,a3⟩,⟨fun b hb9=>?_,fun b hb9=>?_⟩,?_⟩
 ·cases P with
  | nil =>
   simp only[xG,xD,Xa,xu] at hb9;rcases hb9 with h9|h9
   ·exact hN.br.1 b (by simpa using h9)
   exact hb.1 b (by simp[h9])
  | cons p P =>
   simp only[xD,Xa,xu,xU] at hb9;rcases hb9 with (h9|rfl|h9)|h9
   ·exact hb.1 b (by simp[h9])
   ·exact hb.1 y (by simp)
   ·exact hN.br.1 b (by simpa using h9)
   exact hb.1 b (by simp[h9])
 ·simp only[xu] at hb9;rcases hb9 with (h9|h9)|h9
  ·exact hb.2 b (by simp[h9])
  ·exact hN.br.2 b h9
  exact hb.2 b (by simp[h9])
 rw[qY (by simp),qY hpn]
 cases P with
 | nil=>simp only[xG,xD,Xa,jt];push_cast;omega
 | cons p P =>
  have e1:tw ((y.1,k)::r)=bw y+tw r:=by simp[tw,bw]
  have e2:tw (y::Y)=bw y+tw Y:=by simp[tw,bw]
  simp only[xD,Xa,jt,e1,e2];push_cast;omega
def zN (n:Nd):Bool := !n.leaf&&decide (n.keys.length=0)
def QL (l:List Wrt) (n:Nd) (fr k:Nat) (now:Nd):Nd :=
 inr (brs (if fr=k then now else zw l (n.kids.getD fr 0)) ++
  (n.keys.getD fr [],(if fr=k then zw l (n.kids.getD (fr+1) 0) else now).kids.headD 0)::(brs (if fr=k then zw l (n.kids.getD (fr+1) 0) else now)).tail)
def zk (bs:List Br) (i j:Nat) (now:List Br):List Br:=bs.take i++now++bs.drop j
def Qo (l:List Wrt) (next:Int) (key:Str) (ed:Nd->Nd):Nat->Nd->List Nd->Nd×List Nd
 | 0,n,ad=>(ed n,ad)
 | d+1,n,ad =>
  let k:=(Qf n key).toNat
  let p:=Qo l next key ed d (zw l (n.kids.getD k 0)) ad
  if zN p.1=true then
   let q:=qC next p.2 (QL l n (k-1) k p.1) ((brs n).getD (k-1) ([],0)).1
   (inr (zk (brs n) (k-1) (k-1+2) q.1),q.2)
  else
   let q:=qC next p.2 p.1 ((brs n).getD k ([],0)).1
   (inr (zk (brs n) k (k+1) q.1),q.2)
theorem Yt (l:List Wrt) (next:Int) (key:Str) (ed:Nd->Nd):∀ (d:Nat) (n:Nd) (ad:List Nd),ad.length<=(Qo l next key ed d n ad).2.length/\(Qo l next key ed d n ad).2.length<=ad.length+2*d
 | 0,n,ad=>⟨xc _,xc _⟩
 | d+1,n,ad=>by
  have ih:=Yt l next key ed d (zw l (n.kids.getD (Qf n key).toNat 0)) ad
  simp only[Qo]
  split
  ·have:=Ja next (Qo l next key ed d (zw l (n.kids.getD (Qf n key).toNat 0)) ad).2 (QL l n ((Qf n key).toNat-1) (Qf n key).toNat (Qo l next key ed d (zw l (n.kids.getD (Qf n key).toNat 0)) ad).1) ((brs n).getD ((Qf n key).toNat-1) ([],0)).1
   dsimp only;omega
  have:=Ja next (Qo l next key ed d (zw l (n.kids.getD (Qf n key).toNat 0)) ad).2 (Qo l next key ed d (zw l (n.kids.getD (Qf n key).toNat 0)) ad).1 ((brs n).getD (Qf n key).toNat ([],0)).1
  dsimp only;omega
structure EdOk (key:Str) (upd:List Pr->List Pr) (ed:Nd->Nd):Prop where
 leaf:∀ ps,qek ps->qp (lf ps)<=244->ed (lf ps)=lf (upd ps)/\qek (upd ps)/\qp (lf (upd ps))<=342/\∀ y∈upd ps,y∈ps\/y.1=key
 loc:∀ A X C,(∀ y∈A,slt y.1 key=true)->(∀ y∈C,slt key y.1=true)->upd (A++X++C)=A++upd X++C
structure Reb (l:List Wrt) (next:Int) (upd:List Pr->List Pr) (d:Nat) (n:Nd) (lo:Str) (hi:Option Str) (ad:List Nd) (n':Nd) (ad':List Nd):Prop where
 more:∃ more,ad'=ad++more/\∀ x∈more,NOk x
 no:NO (lp l next ad') d n' lo hi
 prs:nP (lp l next ad') d n'=upd (nP l d n)
 nod:(nI (lp l next ad') d n').Nodup
 ids:∀ i∈nI (lp l next ad') d n',i∈nI l d n\/(next+(ad.length:Int)<=i/\i<next+(ad'.length:Int))
 siz:qp n'<=Lim d
theorem qqt (bs:List Br) (h:bs≠[]):∃ b r,bs=b::r/\brs (inr bs)=([],b.2)::r:=by
 cases bs with
 | nil=>exact absurd rfl h
 | cons b r =>
  refine⟨b,r,rfl,?_⟩;unfold brs inr;simp only[Xa,Xn,List.headD_cons]
  congr 1
  exact zip_map r
where zip_map:∀ r:List Br,(r.map (·.1)).zip (r.map (·.2))=r
 | []=>rfl
 | a::r=>by simp[zip_map r]
theorem vE {lo:Str} {hi:Option Str} (h:NO l (d+1) n lo hi):n=inr (brs n)/\qbe (brs n)/\Seg l d lo hi (brs n)/\nP l (d+1) n=Qp l d (brs n)/\nI l (d+1) n=QI l d (brs n):=by
 obtain⟨bs,rfl,h1,h2⟩:=h;obtain⟨b,r,rfl,e⟩:=qqt bs h2.ne
 have h1':qbe (([],b.2)::r):=⟨h1.1,fun x hx=>by
  rcases xU.1 hx with rfl|hx
  ·exact h1.2 b (XP ..)
  exact h1.2 x (Xg _ hx)⟩
 rw[e];refine⟨rfl,h1',(qb2 (b:=b) (c:=([],b.2)) rfl).1 h2,?_,?_⟩
 ·rw[nP,zu];rfl
 rw[nI,zv];rfl
theorem ZV:(Tryz.prog.info? 160).map (·.size)=some 2:=by kernel_rfl
theorem qcs (w:World):(zeroValue 160).run Tryz.prog w=.ok (.agg #[.string ⟨#[]⟩,.int .i64 0]) w:=by kernel_rfl
theorem QP {T:TypeId} {fr:Nat×Nat} (h:w.heap[g]?=some (.cells cur T fr)) (j:Nat):w.cell? ⟨g,j,none⟩=cur.toList[j]?:=by
 simp[World.cell?,h]
theorem j9 (l:List Br) (k q:Nat) (hk:k<=l.length):(bcl (l.drop k))[q]?=(bcl l)[k*2+q]?:=by
 have e:bcl l=bcl (l.take k)++bcl (l.drop k):=by rw[<-Jy,x7]
 rw[e,xY (by rw[qS,xp,ke hk];omega)]
 congr 1
 rw[qS,xp,ke hk];omega
theorem zY (h:L.take (bs.length*2)=bcl bs) (hi:i<=bs.length):L.take (i*2)=bcl (bs.take i):=by
 have:L.take (i*2)=(L.take (bs.length*2)).take (i*2):=by rw[List.take_take];congr 1;omega
 rw[this,h,qoq]
theorem qfp (bs now:List Br) (i j:Nat):bcl (zk bs i j now)=bcl (bs.take i)++bcl now++bcl (bs.drop j):=by unfold zk;rw[Jy,Jy]
theorem Yx (hi:i<=bs.length):(zk bs i j now).length=i+now.length+(bs.length-j):=by
 unfold zk;rw[xk,xk,xp,xE,ke hi]
theorem Jk {cap:Nat} (hg:w.heap[g]?=some (.cells cur 160 (0,0))) (hk:i+now.length+(bs.length-j)<=cap) (hcm:cap<=9223372036854775807) (hL:L.length=cap*2) (hi:i<=bs.length)
 (ht:L.take ((i+now.length+(bs.length-j))*2)=bcl (bs.take i)++bcl now++bcl (bs.drop j)) (hw:w0.grownBy w (some g)) :
 OwnBr g (w.setRow g L.toArray) (.slice (some ⟨g,0,none⟩) (i+now.length+(bs.length-j)) cap) (zk bs i j now)/\w0.grownBy (w.setRow g L.toArray) (some g):=by
 have hrow:=Ym (B:=g) (k:=i+now.length+(bs.length-j)) (cap:=cap) (n:=2) (cc:=bcl (zk bs i j now)) hg (xc _) hk (by unfold maxLen;exact hcm) hL (by rw[qS,Yx hi]) (by rw[qfp];exact ht)
 refine⟨?_,⟨hrow.2.os.trans hw.os,hrow.2.tape.trans hw.tape,hrow.2.output.trans hw.output,xi hw.size hrow.2.size,fun k hk h2=>(hrow.2.block k (xV hk hw.size) h2).trans (hw.block k hk h2)⟩⟩;show World.ownsRow _ _ _ _ _ _ _
 rw[Yx hi];exact hrow.1
theorem zbl (m:Nat):(Builtin.zeroCells (Value.agg #[.string ⟨#[]⟩,.int .i64 0]).cells m).toList.length=m*2:=by rw[x8,size_zeroCells];rfl
theorem qdn:∀ v∈(Value.agg #[.string ⟨#[]⟩,.int .i64 0]).cells,v.oneCell'=true:=by
 intro v hv;simp[Value.cells] at hv;rcases hv with rfl|rfl<;>rfl
theorem ql7 (w:World) (bs now:List Br) (g cap i j:Nat) (cur:Array Value) (hg:w.heap[g]?=some (.cells cur 160 (0,0))) (hcs:cur.size=cap*2) (hct:cur.toList.take (bs.length*2)=bcl bs) (hcm:cap<=9223372036854775807) (hkc:bs.length<=cap) (hl:bs.length<=1000) (hij:i<j) (gn:Nat) (hb:w.heap[gn]?=some (.cells (bcl now).toArray 160 (0,0))) (hne:g≠gn) (hj:j<bs.length) (hx:j<i+now.length) (hm2:now.length<=2) (hroom:i+now.length+(bs.length-j)<=cap) :
 Calls Tryz.prog 86 #[.slice (some ⟨g,0,none⟩) bs.length cap,.int .i64 (i:Int),.int .i64 (j:Int),.slice (some ⟨gn,0,none⟩) now.length now.length] w fun e w'=>∃ v',e=.returned v'/\OwnBr g w' v' (zk bs i j now)/\w.grownBy w' (some g):=by
 have hcl:cur.toList.length=cap*2:=by rw[x8];exact hcs
 have hat:∀ q,q<bs.length*2->cur.toList[q]?=(bcl bs)[q]?:=fun q hq=>by rw[<-hct,xP,xj hq]
 have hAt:=zY hct (show i<=bs.length by omega)
 have hAl:(bcl (bs.take i)).length=i*2:=by rw[qS,xp];congr 1;omega
 have hCl:(bcl (bs.drop j)).length=(bs.length-j)*2:=by rw[qS,xE]
 have hVl:=qS now
 have hgd:w.drew.drew.heap[g]?=some (.cells cur 160 (0,0)):=qy (qy hg)
 obtain⟨L1,hL1⟩:∃ L,L=seg cur.toList ((i+now.length)*2) (bcl (bs.drop j)):=⟨_,rfl⟩;have hl1:L1.length=cap*2:=by rw[hL1,Qu (by rw[hCl];omega)];exact hcl
 obtain⟨W1,hW1⟩:∃ W,W=w.drew.drew.setRow g L1.toArray:=⟨_,rfl⟩;have hg1:W1.heap[g]?=some (.cells L1.toArray 160 (0,0)):=by rw[hW1];exact XX _ g cur _ _ _ hgd
 have hb1:W1.heap[gn]?=some (.cells (bcl now).toArray 160 (0,0)):=by rw[hW1];exact(XH _ g gn _ (Ne.symm hne)).trans (qy (qy hb))
 have hov:Hid (∀ la ca,(callFunc 117 #[.slice (some ⟨g,(i+now.length)*2,none⟩) la ca,.slice (some ⟨gn,0,none⟩) now.length now.length]).run Tryz.prog w.drew=.ok (.value (.bool false)) w.drew):=fun la ca=>by
  rw[run_callFunc_extern Tryz.func117 (by kernel_rfl) (by kernel_rfl) (by kernel_rfl) (e:=Extern.SlicesOverlaps.overlaps #[157,157] #[4]) (by kernel_rfl),
   Lib.run_overlaps_apart w.drew 157 4 160 xT 2 (fun w=>by kernel_rfl) ⟨g,(i+now.length)*2,none⟩ ⟨gn,0,none⟩ la ca now.length now.length hne 160 160 (cap*2) (now.length*2) (by simp[World.shape?,qy hg,hcs]) (by simp[World.shape?,qy hb,hVl]) (by omega) (by simp[World.frozen?,qy hg]) (by simp[World.frozen?,qy hg])]
  rfl
 have hcp1:Hid (∀ ty dc sc,(Builtin.copy_ #[157,157] ty #[.slice (some ⟨g,(i+now.length)*2,none⟩) (bs.length-j) dc,.slice (some ⟨g,j*2,none⟩) (bs.length-j) sc]).run Tryz.prog w.drew.drew=.ok (goInt (bs.length-j:Nat)) W1):=fun ty dc sc=>by
  rw[hW1,hL1];refine QK w.drew.drew _ _ ty 160 2 g ((i+now.length)*2) _ dc ⟨g,j*2,none⟩ _ sc cur 160 (bcl (bs.drop j)) (bs.length-j) xT ZV hgd ?_ hCl (fun q v hq=>?_) (by rw[hCl];omega) (zF _)
  ·show _=min _ _
   omega
  rw[XB,QP hgd];have hql:=(xn.1 hq).1
  rw[hCl] at hql;rw[hat _ (by omega),<-j9 _ _ _ (by omega)]
  exact hq
 obtain⟨L2,hL2⟩:∃ L,L=seg L1 (i*2) (bcl now):=⟨_,rfl⟩;have hl2:L2.length=cap*2:=by rw[hL2,Qu (by rw[hVl];omega)];exact hl1
 have hcp2:Hid (∀ ty dc,(Builtin.copy_ #[157,157] ty #[.slice (some ⟨g,i*2,none⟩) (i+now.length+(bs.length-j)-i) dc,.slice (some ⟨gn,0,none⟩) now.length now.length]).run Tryz.prog W1=.ok (goInt now.length) (W1.setRow g L2.toArray)):=fun ty dc=>by
  have h9:=QK (P:=Tryz.prog) W1 157 157 ty 160 2 g (i*2) (i+now.length+(bs.length-j)-i) dc ⟨gn,0,none⟩ now.length now.length L1.toArray 160 (bcl now) now.length xT ZV hg1 (by show _=min _ _;omega) hVl (fun q v hq=>by
   rw[XB,QP hb1]
   simpa using hq) (by rw[hVl,Xb];omega) (zF _)
  rw[h9,hL2]
 have h8:=qir (L:=cur.toList) (A:=bcl (bs.take i)) (V:=bcl now) (C:=bcl (bs.drop j)) (by rw[hAl];exact hAt) (by rw[hAl,hVl,hCl,hcl];omega)
 have FIN:Hid (OwnBr g (W1.setRow g L2.toArray) (.slice (some ⟨g,0,none⟩) (i+now.length+(bs.length-j)) cap) (zk bs i j now)/\w.grownBy (W1.setRow g L2.toArray) (some g)):=by
  refine Jk hg1 hroom hcm hl2 (by omega) ?_ ?_
  ·rw[hL2,hL1];rw[hAl,hVl,hCl] at h8;rw[show (i+now.length+(bs.length-j))*2=i*2+now.length*2+(bs.length-j)*2 by omega,show (i+now.length)*2=i*2+now.length*2 by omega]
   exact h8
  rw[hW1];exact⟨rfl,rfl,rfl,by simp,fun k hk h2=>(XH _ _ _ _ (fun e=>h2 (by rw[e]))).trans rfl⟩
 obtain⟨n,hn⟩:∃ n,n=bs.length:=⟨_,rfl⟩;obtain⟨m,hm⟩:∃ m,m=now.length:=⟨_,rfl⟩;obtain⟨IM,hIM⟩:∃ q,q=i+now.length:=⟨_,rfl⟩;obtain⟨D,hD⟩:∃ q,q=bs.length-j:=⟨_,rfl⟩;obtain⟨T,hT⟩:∃ q,q=i+now.length+(bs.length-j):=⟨_,rfl⟩;rw[<-hT] at hcp2 FIN hroom;rw[<-hIM] at hov hcp1 hx;rw[<-hD] at hcp1;rw[<-hn,<-hm];rw[<-hm] at hov hcp2 hm2;have f1:n-j=D:=by omega
 have f2:T-IM=D:=by omega
 have f3:(i:Int)+(m:Int)=(IM:Int):=by omega
 have f4:(IM:Int)+(D:Int)=(T:Int):=by omega
 have f5:IntKind.i64.wrap (IM:Int)=(IM:Int):=xB _ (by omega)
 have f6:IntKind.i64.wrap (T:Int)=(T:Int):=xB _ (by omega)
 have f7:((i:Int) == (j:Int))=false:=by simp;omega
 have f8:((j:Int) == (n:Int))=false:=by simp;omega
 have f9:¬ (cap=IM):=by omega
 have f10:¬ (cap=i):=by omega
 have f11:¬ (cap=j):=by omega
 have f12:¬ (IM:Int)<=(j:Int):=by omega
 have f13:¬ (T:Int)>(cap:Int):=by omega
 have f14:i<=j:=by omega
 have f15:j<=n:=by omega
 have f16:i<=n:=by omega
 have f17:IM<=T:=by omega
 have f18:i<=T:=by omega
 have f19:j<=cap:=by omega
 have f20:i<=cap:=by omega
 replace hn:=qa hn;replace hm:=qa hm;replace hIM:=qa hIM;replace hD:=qa hD;replace hT:=qa hT;clear hcs hct hcl hat hAt hAl hCl hVl hgd hL1 hl1 hW1 hg1 hb1 hL2 hl2 h8 hg hb hne;go_enter Tryz.func86,Tryz.ntmps86
 go_wp2_with fail
 refine qj (fun _=>True) 12 12 qG (by kernel_rfl) (fun _ _ _ _ h=>h) trivial ?_
 dsimp only[List.take,List.drop]
 iterate 12
  refine qA (v:=?_) (by rfl) ?_ ?_
  rotate_left
  ·rintro w' _;go_simp;try with_reducible rfl
  try simp only[Act.put,qB5]
 show wpList _ _ _ _ _ _
 go_wp2_with (simp only[hov.out])
 refine qj (fun _=>True) 9 9 qG (by kernel_rfl) (fun _ _ _ _ h=>h) trivial ?_
 dsimp only[List.take,List.drop]
 iterate 9
  refine qA (v:=?_) (by rfl) ?_ ?_
  rotate_left
  ·rintro w' _;go_simp;try with_reducible rfl
  try simp only[Act.put,qB5]
 show wpList _ _ _ _ _ _
 refine QB _ rfl _ _ 157 157 rfl _ _ rfl rfl _ _ (hcp1.out _ _ _) ?_
 go_wp2_with (simp only[hcp2.out,Xm])
 go_ret;exact⟨_,rfl,FIN.out.1,FIN.out.2⟩
theorem qlc (w:World) (bs now:List Br) (g cap i j:Nat) (cur:Array Value) (hg:w.heap[g]?=some (.cells cur 160 (0,0))) (hcs:cur.size=cap*2) (hct:cur.toList.take (bs.length*2)=bcl bs) (hcm:cap<=9223372036854775807) (hkc:bs.length<=cap) (hl:bs.length<=1000) (hij:i<j) (gn:Nat) (hb:w.heap[gn]?=some (.cells (bcl now).toArray 160 (0,0))) (hne:g≠gn) (hj:j<bs.length) (hx:i+now.length<=j) (hm0:0<now.length) (hlt:i+now.length<j) :
 Calls Tryz.prog 86 #[.slice (some ⟨g,0,none⟩) bs.length cap,.int .i64 (i:Int),.int .i64 (j:Int),.slice (some ⟨gn,0,none⟩) now.length now.length] w fun e w'=>∃ v',e=.returned v'/\OwnBr g w' v' (zk bs i j now)/\w.grownBy w' (some g):=by
 have hcl:cur.toList.length=cap*2:=by rw[x8];exact hcs
 have hat:∀ q,q<bs.length*2->cur.toList[q]?=(bcl bs)[q]?:=fun q hq=>by rw[<-hct,xP,xj hq]
 have hAt:=zY hct (show i<=bs.length by omega)
 have hAl:(bcl (bs.take i)).length=i*2:=by rw[qS,xp];congr 1;omega
 have hCl:(bcl (bs.drop j)).length=(bs.length-j)*2:=by rw[qS,xE]
 have hVl:=qS now
 have hgd:w.drew.heap[g]?=some (.cells cur 160 (0,0)):=qy hg
 have hbd:w.drew.heap[gn]?=some (.cells (bcl now).toArray 160 (0,0)):=qy hb
 obtain⟨L1,hL1⟩:∃ L,L=seg cur.toList (i*2) (bcl now):=⟨_,rfl⟩;have hl1:L1.length=cap*2:=by rw[hL1,Qu (by rw[hVl];omega)];exact hcl
 obtain⟨W1,hW1⟩:∃ W,W=w.drew.setRow g L1.toArray:=⟨_,rfl⟩;have hg1:W1.heap[g]?=some (.cells L1.toArray 160 (0,0)):=by rw[hW1];exact XX _ g cur _ _ _ hgd
 have hg1d:W1.drew.heap[g]?=some (.cells L1.toArray 160 (0,0)):=qy hg1
 have hcp1:Hid (∀ ty dc,(Builtin.copy_ #[157,157] ty #[.slice (some ⟨g,i*2,none⟩) (i+now.length+(bs.length-j)-i) dc,.slice (some ⟨gn,0,none⟩) now.length now.length]).run Tryz.prog w.drew=.ok (goInt now.length) W1):=fun ty dc=>by
  have h9:=QK (P:=Tryz.prog) w.drew 157 157 ty 160 2 g (i*2) (i+now.length+(bs.length-j)-i) dc ⟨gn,0,none⟩ now.length now.length cur 160 (bcl now) now.length xT ZV hgd (by show _=min _ _;omega) hVl (fun q v hq=>by
   rw[XB,QP hbd]
   simpa using hq) (by rw[hVl,hcs];omega) (zF _)
  rw[h9,hW1,hL1]
 obtain⟨L2,hL2⟩:∃ L,L=seg L1 ((i+now.length)*2) (bcl (bs.drop j)):=⟨_,rfl⟩;have hl2:L2.length=cap*2:=by rw[hL2,Qu (by rw[hCl];omega)];exact hl1
 obtain⟨W2,hW2⟩:∃ W,W=W1.drew.setRow g L2.toArray:=⟨_,rfl⟩;have hg2:W2.heap[g]?=some (.cells L2.toArray 160 (0,0)):=by rw[hW2];exact XX _ g L1.toArray _ _ _ hg1d
 have hcp2:Hid (∀ ty dc sc,(Builtin.copy_ #[157,157] ty #[.slice (some ⟨g,(i+now.length)*2,none⟩) (bs.length-j) dc,.slice (some ⟨g,j*2,none⟩) (bs.length-j) sc]).run Tryz.prog W1.drew=.ok (goInt (bs.length-j:Nat)) W2):=fun ty dc sc=>by
  have h9:=QK (P:=Tryz.prog) W1.drew 157 157 ty 160 2 g ((i+now.length)*2) (bs.length-j) dc ⟨g,j*2,none⟩ (bs.length-j) sc L1.toArray 160 (bcl (bs.drop j)) (bs.length-j) xT ZV hg1d (by show _=min _ _;omega) hCl (fun q v hq=>by
   rw[XB,QP hg1d];have hql:=(xn.1 hq).1
   rw[hCl] at hql;show L1[j*2+q]?=some v
   rw[hL1,qgn (by rw[hVl];omega) (.inr (by rw[hVl];omega)),hat _ (by omega),<-j9 _ _ _ (by omega)]
   exact hq) (by rw[hCl,Xb];omega) (zF _)
  rw[h9,hW2,hL2]
 have h8:=yo (L:=cur.toList) (A:=bcl (bs.take i)) (V:=bcl now) (C:=bcl (bs.drop j)) (by rw[hAl];exact hAt) (by rw[hAl,hVl,hCl,hcl];omega)
 have h82:L2.take ((i+now.length+(bs.length-j))*2)=bcl (bs.take i)++bcl now++bcl (bs.drop j):=by
  rw[hAl,hVl,hCl] at h8;rw[hL2,hL1,show (i+now.length+(bs.length-j))*2=i*2+now.length*2+(bs.length-j)*2 by omega,show (i+now.length)*2=i*2+now.length*2 by omega]
  exact h8
 have hgr2:w.grownBy W2 (some g):=by
  rw[hW2,hW1];refine⟨rfl,rfl,rfl,by simp,fun k hk h2=>(XH _ _ _ _ (fun e=>h2 (by rw[e]))).trans ?_⟩
  exact(XH (w.drew) g k L1.toArray (fun e=>h2 (by rw[e]))).trans rfl
 obtain⟨L3,hL3⟩:∃ L,L=seg L2 ((i+now.length+(bs.length-j))*2) (Builtin.zeroCells (Value.agg #[.string ⟨#[]⟩,.int .i64 0]).cells (bs.length-(i+now.length+(bs.length-j)))).toList:=⟨_,rfl⟩;have hl3:L3.length=cap*2:=by rw[hL3,Qu (by rw[zbl];omega)];exact hl2
 have hcr:Hid (∀ ty c,(Builtin.clear_ #[157] ty #[.slice (some ⟨g,(i+now.length+(bs.length-j))*2,none⟩) (bs.length-(i+now.length+(bs.length-j))) c]).run Tryz.prog W2=.ok (.tuple #[]) (W2.setRow g L3.toArray)):=fun ty c=>by
  have h9:=jA (P:=Tryz.prog) W2 157 160 ty _ 2 g ((i+now.length+(bs.length-j))*2) (bs.length-(i+now.length+(bs.length-j))) c L2.toArray 160 xT qcs rfl qdn hg2 (by rw[Xb];omega) (by omega)
  rw[h9,hL3]
 have FIN:Hid (OwnBr g (W2.setRow g L3.toArray) (.slice (some ⟨g,0,none⟩) (i+now.length+(bs.length-j)) cap) (zk bs i j now)/\w.grownBy (W2.setRow g L3.toArray) (some g)):=by
  refine Jk hg2 (by omega) hcm hl3 (by omega) ?_ hgr2
  rw[hL3,j7 (by rw[zbl];omega) (xc _)]
  exact h82
 clear hL3 hl3;obtain⟨n,hn⟩:∃ n,n=bs.length:=⟨_,rfl⟩;obtain⟨m,hm⟩:∃ m,m=now.length:=⟨_,rfl⟩;obtain⟨IM,hIM⟩:∃ q,q=i+now.length:=⟨_,rfl⟩;obtain⟨D,hD⟩:∃ q,q=bs.length-j:=⟨_,rfl⟩;obtain⟨T,hT⟩:∃ q,q=i+now.length+(bs.length-j):=⟨_,rfl⟩;rw[<-hT] at hcp1 hcr FIN;rw[<-hIM] at hcp2 hx;rw[<-hD] at hcp2;rw[<-hn,<-hm];rw[<-hn] at hcr;rw[<-hm] at hcp1 hm0;have f1:n-j=D:=by omega
 have f2:T-IM=D:=by omega
 have f3:(i:Int)+(m:Int)=(IM:Int):=by omega
 have f4:(IM:Int)+(D:Int)=(T:Int):=by omega
 have f5:IntKind.i64.wrap (IM:Int)=(IM:Int):=xB _ (by omega)
 have f6:IntKind.i64.wrap (T:Int)=(T:Int):=xB _ (by omega)
 have f7:((i:Int) == (j:Int))=false:=by simp;omega
 have f8:((j:Int) == (n:Int))=false:=by simp;omega
 have f10:¬ (cap=i):=by omega
 have f11:¬ (cap=j):=by omega
 have f14:i<=j:=by omega
 have f15:j<=n:=by omega
 have f16:i<=n:=by omega
 have f17:IM<=T:=by omega
 have f18:i<=T:=by omega
 have f19:j<=cap:=by omega
 have f20:i<=cap:=by omega
 have f9:¬ (cap=IM):=by omega
 have f12:(IM:Int)<=(j:Int):=by omega
 have f13:¬ (T:Int)>(cap:Int):=by omega
 have f21:T<=n:=by omega
 have f22:¬ (cap=T):=by omega
 replace hn:=qa hn;replace hm:=qa hm;replace hIM:=qa hIM;replace hD:=qa hD;replace hT:=qa hT;clear hcs hct hcl hat hAt hAl hCl hVl hgd hbd hL1 hl1 hW1 hg1 hg1d hL2 hl2 hW2 hg2 h8 h82 hgr2 hg hb hne;go_enter Tryz.func86,Tryz.ntmps86
 go_wp2_with fail
 refine qj (fun _=>True) 12 12 qG (by kernel_rfl) (fun _ _ _ _ h=>h) trivial ?_
 dsimp only[List.take,List.drop]
 iterate 12
  refine qA (v:=?_) (by rfl) ?_ ?_
  rotate_left
  ·rintro w' _;go_simp;try with_reducible rfl
  try simp only[Act.put,qB5]
 show wpList _ _ _ _ _ _
 go_wp2_with (simp only[hcp1.out,Xm])
 refine qj (fun _=>True) 9 9 qG (by kernel_rfl) (fun _ _ _ _ h=>h) trivial ?_
 dsimp only[List.take,List.drop]
 iterate 9
  refine qA (v:=?_) (by rfl) ?_ ?_
  rotate_left
  ·rintro w' _;go_simp;try with_reducible rfl
  try simp only[Act.put,qB5]
 show wpList _ _ _ _ _ _
 refine QB _ rfl _ _ 157 157 rfl _ _ rfl rfl _ _ (hcp2.out _ _ _) ?_
 go_wp2_with (simp only[hcr.out,Xm])
 go_ret;exact⟨_,rfl,FIN.out.1,FIN.out.2⟩
theorem qkc (w:World) (bs now:List Br) (g cap i j:Nat) (cur:Array Value) (hg:w.heap[g]?=some (.cells cur 160 (0,0))) (hcs:cur.size=cap*2) (hct:cur.toList.take (bs.length*2)=bcl bs) (hcm:cap<=9223372036854775807) (hkc:bs.length<=cap) (hl:bs.length<=1000) (hij:i<j) (gn:Nat) (hb:w.heap[gn]?=some (.cells (bcl now).toArray 160 (0,0))) (hne:g≠gn) (hj:j<bs.length) (hx:i+now.length<=j) (hm0:0<now.length) (hlt:i+now.length=j) (hcap:cap=bs.length) :
 Calls Tryz.prog 86 #[.slice (some ⟨g,0,none⟩) bs.length cap,.int .i64 (i:Int),.int .i64 (j:Int),.slice (some ⟨gn,0,none⟩) now.length now.length] w fun e w'=>∃ v',e=.returned v'/\OwnBr g w' v' (zk bs i j now)/\w.grownBy w' (some g):=by
 have hcl:cur.toList.length=cap*2:=by rw[x8];exact hcs
 have hat:∀ q,q<bs.length*2->cur.toList[q]?=(bcl bs)[q]?:=fun q hq=>by rw[<-hct,xP,xj hq]
 have hAt:=zY hct (show i<=bs.length by omega)
 have hAl:(bcl (bs.take i)).length=i*2:=by rw[qS,xp];congr 1;omega
 have hCl:(bcl (bs.drop j)).length=(bs.length-j)*2:=by rw[qS,xE]
 have hVl:=qS now
 have hgd:w.drew.heap[g]?=some (.cells cur 160 (0,0)):=qy hg
 have hbd:w.drew.heap[gn]?=some (.cells (bcl now).toArray 160 (0,0)):=qy hb
 obtain⟨L1,hL1⟩:∃ L,L=seg cur.toList (i*2) (bcl now):=⟨_,rfl⟩;have hl1:L1.length=cap*2:=by rw[hL1,Qu (by rw[hVl];omega)];exact hcl
 obtain⟨W1,hW1⟩:∃ W,W=w.drew.setRow g L1.toArray:=⟨_,rfl⟩;have hg1:W1.heap[g]?=some (.cells L1.toArray 160 (0,0)):=by rw[hW1];exact XX _ g cur _ _ _ hgd
 have hg1d:W1.drew.heap[g]?=some (.cells L1.toArray 160 (0,0)):=qy hg1
 have hcp1:Hid (∀ ty dc,(Builtin.copy_ #[157,157] ty #[.slice (some ⟨g,i*2,none⟩) (i+now.length+(bs.length-j)-i) dc,.slice (some ⟨gn,0,none⟩) now.length now.length]).run Tryz.prog w.drew=.ok (goInt now.length) W1):=fun ty dc=>by
  have h9:=QK (P:=Tryz.prog) w.drew 157 157 ty 160 2 g (i*2) (i+now.length+(bs.length-j)-i) dc ⟨gn,0,none⟩ now.length now.length cur 160 (bcl now) now.length xT ZV hgd (by show _=min _ _;omega) hVl (fun q v hq=>by
   rw[XB,QP hbd]
   simpa using hq) (by rw[hVl,hcs];omega) (zF _)
  rw[h9,hW1,hL1]
 obtain⟨L2,hL2⟩:∃ L,L=seg L1 ((i+now.length)*2) (bcl (bs.drop j)):=⟨_,rfl⟩;have hl2:L2.length=cap*2:=by rw[hL2,Qu (by rw[hCl];omega)];exact hl1
 obtain⟨W2,hW2⟩:∃ W,W=W1.drew.setRow g L2.toArray:=⟨_,rfl⟩;have hg2:W2.heap[g]?=some (.cells L2.toArray 160 (0,0)):=by rw[hW2];exact XX _ g L1.toArray _ _ _ hg1d
 have hcp2:Hid (∀ ty dc sc,(Builtin.copy_ #[157,157] ty #[.slice (some ⟨g,(i+now.length)*2,none⟩) (bs.length-j) dc,.slice (some ⟨g,j*2,none⟩) (bs.length-j) sc]).run Tryz.prog W1.drew=.ok (goInt (bs.length-j:Nat)) W2):=fun ty dc sc=>by
  have h9:=QK (P:=Tryz.prog) W1.drew 157 157 ty 160 2 g ((i+now.length)*2) (bs.length-j) dc ⟨g,j*2,none⟩ (bs.length-j) sc L1.toArray 160 (bcl (bs.drop j)) (bs.length-j) xT ZV hg1d (by show _=min _ _;omega) hCl (fun q v hq=>by
   rw[XB,QP hg1d];have hql:=(xn.1 hq).1
   rw[hCl] at hql;show L1[j*2+q]?=some v
   rw[hL1,qgn (by rw[hVl];omega) (.inr (by rw[hVl];omega)),hat _ (by omega),<-j9 _ _ _ (by omega)]
   exact hq) (by rw[hCl,Xb];omega) (zF _)
  rw[h9,hW2,hL2]
 have h8:=yo (L:=cur.toList) (A:=bcl (bs.take i)) (V:=bcl now) (C:=bcl (bs.drop j)) (by rw[hAl];exact hAt) (by rw[hAl,hVl,hCl,hcl];omega)
 have h82:L2.take ((i+now.length+(bs.length-j))*2)=bcl (bs.take i)++bcl now++bcl (bs.drop j):=by
  rw[hAl,hVl,hCl] at h8;rw[hL2,hL1,show (i+now.length+(bs.length-j))*2=i*2+now.length*2+(bs.length-j)*2 by omega,show (i+now.length)*2=i*2+now.length*2 by omega]
  exact h8
 have hgr2:w.grownBy W2 (some g):=by
  rw[hW2,hW1];refine⟨rfl,rfl,rfl,by simp,fun k hk h2=>(XH _ _ _ _ (fun e=>h2 (by rw[e]))).trans ?_⟩
  exact(XH (w.drew) g k L1.toArray (fun e=>h2 (by rw[e]))).trans rfl
 have hcr:Hid (∀ ty A c,(Builtin.clear_ #[157] ty #[.slice A 0 c]).run Tryz.prog W2=.ok (.tuple #[]) W2):=fun ty A c=>yd W2 _ _ ty A c xT
 have FIN:Hid (OwnBr g W2 (.slice (some ⟨g,0,none⟩) (i+now.length+(bs.length-j)) cap) (zk bs i j now)/\w.grownBy W2 (some g)):=by
  have h9:=Jk (w0:=w) hg2 (show i+now.length+(bs.length-j)<=cap by omega) hcm hl2 (by omega) h82 hgr2
  rw[setRow_self W2 g L2.toArray _ _ hg2] at h9;exact h9
 obtain⟨n,hn⟩:∃ n,n=bs.length:=⟨_,rfl⟩;obtain⟨m,hm⟩:∃ m,m=now.length:=⟨_,rfl⟩;obtain⟨IM,hIM⟩:∃ q,q=i+now.length:=⟨_,rfl⟩;obtain⟨D,hD⟩:∃ q,q=bs.length-j:=⟨_,rfl⟩;obtain⟨T,hT⟩:∃ q,q=i+now.length+(bs.length-j):=⟨_,rfl⟩;rw[<-hT] at hcp1 FIN;rw[<-hIM] at hcp2 hx;rw[<-hD] at hcp2;rw[<-hn,<-hm];rw[<-hm] at hcp1 hm0;have f1:n-j=D:=by omega
 have f2:T-IM=D:=by omega
 have f3:(i:Int)+(m:Int)=(IM:Int):=by omega
 have f4:(IM:Int)+(D:Int)=(T:Int):=by omega
 have f5:IntKind.i64.wrap (IM:Int)=(IM:Int):=xB _ (by omega)
 have f6:IntKind.i64.wrap (T:Int)=(T:Int):=xB _ (by omega)
 have f7:((i:Int) == (j:Int))=false:=by simp;omega
 have f8:((j:Int) == (n:Int))=false:=by simp;omega
 have f10:¬ (cap=i):=by omega
 have f11:¬ (cap=j):=by omega
 have f14:i<=j:=by omega
 have f15:j<=n:=by omega
 have f16:i<=n:=by omega
 have f17:IM<=T:=by omega
 have f18:i<=T:=by omega
 have f19:j<=cap:=by omega
 have f20:i<=cap:=by omega
 have f9:¬ (cap=IM):=by omega
 have f12:(IM:Int)<=(j:Int):=by omega
 have f13:¬ (T:Int)>(cap:Int):=by omega
 have f21:T<=n:=by omega
 have f22:n=cap:=by omega
 have f23:T=cap:=by omega
 replace hn:=qa hn;replace hm:=qa hm;replace hIM:=qa hIM;replace hD:=qa hD;replace hT:=qa hT;clear hcs hct hcl hat hAt hAl hCl hVl hgd hbd hL1 hl1 hW1 hg1 hg1d hL2 hl2 hW2 hg2 h8 h82 hgr2 hg hb hne;clear hcap hlt;subst f22 f23;go_enter Tryz.func86,Tryz.ntmps86
 go_wp2_with fail
 refine qj (fun _=>True) 12 12 qG (by kernel_rfl) (fun _ _ _ _ h=>h) trivial ?_
 dsimp only[List.take,List.drop]
 iterate 12
  refine qA (v:=?_) (by rfl) ?_ ?_
  rotate_left
  ·rintro w' _;go_simp;try with_reducible rfl
  try simp only[Act.put,qB5]
 show wpList _ _ _ _ _ _
 go_wp2_with (simp only[hcp1.out,Xm])
 refine qj (fun _=>True) 9 9 qG (by kernel_rfl) (fun _ _ _ _ h=>h) trivial ?_
 dsimp only[List.take,List.drop]
 iterate 9
  refine qA (v:=?_) (by rfl) ?_ ?_
  rotate_left
  ·rintro w' _;go_simp;try with_reducible rfl
  try simp only[Act.put,qB5]
 show wpList _ _ _ _ _ _
 refine QB _ rfl _ _ 157 157 rfl _ _ rfl rfl _ _ (hcp2.out _ _ _) ?_
 go_wp2_with (simp only[hcr.out,Xm])
 go_ret;exact⟨_,rfl,FIN.out.1,FIN.out.2⟩
theorem qjz (w:World) (bs now:List Br) (g cap i j:Nat) (cur:Array Value) (hg:w.heap[g]?=some (.cells cur 160 (0,0))) (hcs:cur.size=cap*2) (hct:cur.toList.take (bs.length*2)=bcl bs) (hcm:cap<=9223372036854775807) (hkc:bs.length<=cap) (hl:bs.length<=1000) (hij:i<j) (gn:Nat) (hb:w.heap[gn]?=some (.cells (bcl now).toArray 160 (0,0))) (hne:g≠gn) (hj:j<bs.length) (hx:i+now.length<=j) (hm0:0<now.length) (hlt:i+now.length=j) (hcap:cap≠bs.length) :
 Calls Tryz.prog 86 #[.slice (some ⟨g,0,none⟩) bs.length cap,.int .i64 (i:Int),.int .i64 (j:Int),.slice (some ⟨gn,0,none⟩) now.length now.length] w fun e w'=>∃ v',e=.returned v'/\OwnBr g w' v' (zk bs i j now)/\w.grownBy w' (some g):=by
 have hcl:cur.toList.length=cap*2:=by rw[x8];exact hcs
 have hat:∀ q,q<bs.length*2->cur.toList[q]?=(bcl bs)[q]?:=fun q hq=>by rw[<-hct,xP,xj hq]
 have hAt:=zY hct (show i<=bs.length by omega)
 have hAl:(bcl (bs.take i)).length=i*2:=by rw[qS,xp];congr 1;omega
 have hCl:(bcl (bs.drop j)).length=(bs.length-j)*2:=by rw[qS,xE]
 have hVl:=qS now
 have hgd:w.drew.heap[g]?=some (.cells cur 160 (0,0)):=qy hg
 have hbd:w.drew.heap[gn]?=some (.cells (bcl now).toArray 160 (0,0)):=qy hb
 obtain⟨L1,hL1⟩:∃ L,L=seg cur.toList (i*2) (bcl now):=⟨_,rfl⟩;have hl1:L1.length=cap*2:=by rw[hL1,Qu (by rw[hVl];omega)];exact hcl
 obtain⟨W1,hW1⟩:∃ W,W=w.drew.setRow g L1.toArray:=⟨_,rfl⟩;have hg1:W1.heap[g]?=some (.cells L1.toArray 160 (0,0)):=by rw[hW1];exact XX _ g cur _ _ _ hgd
 have hg1d:W1.drew.heap[g]?=some (.cells L1.toArray 160 (0,0)):=qy hg1
 have hcp1:Hid (∀ ty dc,(Builtin.copy_ #[157,157] ty #[.slice (some ⟨g,i*2,none⟩) (i+now.length+(bs.length-j)-i) dc,.slice (some ⟨gn,0,none⟩) now.length now.length]).run Tryz.prog w.drew=.ok (goInt now.length) W1):=fun ty dc=>by
  have h9:=QK (P:=Tryz.prog) w.drew 157 157 ty 160 2 g (i*2) (i+now.length+(bs.length-j)-i) dc ⟨gn,0,none⟩ now.length now.length cur 160 (bcl now) now.length xT ZV hgd (by show _=min _ _;omega) hVl (fun q v hq=>by
   rw[XB,QP hbd]
   simpa using hq) (by rw[hVl,hcs];omega) (zF _)
  rw[h9,hW1,hL1]
 obtain⟨L2,hL2⟩:∃ L,L=seg L1 ((i+now.length)*2) (bcl (bs.drop j)):=⟨_,rfl⟩;have hl2:L2.length=cap*2:=by rw[hL2,Qu (by rw[hCl];omega)];exact hl1
 obtain⟨W2,hW2⟩:∃ W,W=W1.drew.setRow g L2.toArray:=⟨_,rfl⟩;have hg2:W2.heap[g]?=some (.cells L2.toArray 160 (0,0)):=by rw[hW2];exact XX _ g L1.toArray _ _ _ hg1d
 have hcp2:Hid (∀ ty dc sc,(Builtin.copy_ #[157,157] ty #[.slice (some ⟨g,(i+now.length)*2,none⟩) (bs.length-j) dc,.slice (some ⟨g,j*2,none⟩) (bs.length-j) sc]).run Tryz.prog W1.drew=.ok (goInt (bs.length-j:Nat)) W2):=fun ty dc sc=>by
  have h9:=QK (P:=Tryz.prog) W1.drew 157 157 ty 160 2 g ((i+now.length)*2) (bs.length-j) dc ⟨g,j*2,none⟩ (bs.length-j) sc L1.toArray 160 (bcl (bs.drop j)) (bs.length-j) xT ZV hg1d (by show _=min _ _;omega) hCl (fun q v hq=>by
   rw[XB,QP hg1d];have hql:=(xn.1 hq).1
   rw[hCl] at hql;show L1[j*2+q]?=some v
   rw[hL1,qgn (by rw[hVl];omega) (.inr (by rw[hVl];omega)),hat _ (by omega),<-j9 _ _ _ (by omega)]
   exact hq) (by rw[hCl,Xb];omega) (zF _)
  rw[h9,hW2,hL2]
 have h8:=yo (L:=cur.toList) (A:=bcl (bs.take i)) (V:=bcl now) (C:=bcl (bs.drop j)) (by rw[hAl];exact hAt) (by rw[hAl,hVl,hCl,hcl];omega)
 have h82:L2.take ((i+now.length+(bs.length-j))*2)=bcl (bs.take i)++bcl now++bcl (bs.drop j):=by
  rw[hAl,hVl,hCl] at h8;rw[hL2,hL1,show (i+now.length+(bs.length-j))*2=i*2+now.length*2+(bs.length-j)*2 by omega,show (i+now.length)*2=i*2+now.length*2 by omega]
  exact h8
 have hgr2:w.grownBy W2 (some g):=by
  rw[hW2,hW1];refine⟨rfl,rfl,rfl,by simp,fun k hk h2=>(XH _ _ _ _ (fun e=>h2 (by rw[e]))).trans ?_⟩
  exact(XH (w.drew) g k L1.toArray (fun e=>h2 (by rw[e]))).trans rfl
 have hcr:Hid (∀ ty A c,(Builtin.clear_ #[157] ty #[.slice A 0 c]).run Tryz.prog W2=.ok (.tuple #[]) W2):=fun ty A c=>yd W2 _ _ ty A c xT
 have FIN:Hid (OwnBr g W2 (.slice (some ⟨g,0,none⟩) (i+now.length+(bs.length-j)) cap) (zk bs i j now)/\w.grownBy W2 (some g)):=by
  have h9:=Jk (w0:=w) hg2 (show i+now.length+(bs.length-j)<=cap by omega) hcm hl2 (by omega) h82 hgr2
  rw[setRow_self W2 g L2.toArray _ _ hg2] at h9;exact h9
 obtain⟨n,hn⟩:∃ n,n=bs.length:=⟨_,rfl⟩;obtain⟨m,hm⟩:∃ m,m=now.length:=⟨_,rfl⟩;obtain⟨IM,hIM⟩:∃ q,q=i+now.length:=⟨_,rfl⟩;obtain⟨D,hD⟩:∃ q,q=bs.length-j:=⟨_,rfl⟩;obtain⟨T,hT⟩:∃ q,q=i+now.length+(bs.length-j):=⟨_,rfl⟩;rw[<-hT] at hcp1 FIN;rw[<-hIM] at hcp2 hx;rw[<-hD] at hcp2;rw[<-hn,<-hm];rw[<-hm] at hcp1 hm0;have f1:n-j=D:=by omega
 have f2:T-IM=D:=by omega
 have f3:(i:Int)+(m:Int)=(IM:Int):=by omega
 have f4:(IM:Int)+(D:Int)=(T:Int):=by omega
 have f5:IntKind.i64.wrap (IM:Int)=(IM:Int):=xB _ (by omega)
 have f6:IntKind.i64.wrap (T:Int)=(T:Int):=xB _ (by omega)
 have f7:((i:Int) == (j:Int))=false:=by simp;omega
 have f8:((j:Int) == (n:Int))=false:=by simp;omega
 have f10:¬ (cap=i):=by omega
 have f11:¬ (cap=j):=by omega
 have f14:i<=j:=by omega
 have f15:j<=n:=by omega
 have f16:i<=n:=by omega
 have f17:IM<=T:=by omega
 have f18:i<=T:=by omega
 have f19:j<=cap:=by omega
 have f20:i<=cap:=by omega
 have f9:¬ (cap=IM):=by omega
 have f12:(IM:Int)<=(j:Int):=by omega
 have f13:¬ (T:Int)>(cap:Int):=by omega
 have f21:T<=n:=by omega
 have f22:¬ (cap=n):=by omega
 have f23:T=n:=by omega
 replace hn:=qa hn;replace hm:=qa hm;replace hIM:=qa hIM;replace hD:=qa hD;replace hT:=qa hT;clear hcs hct hcl hat hAt hAl hCl hVl hgd hbd hL1 hl1 hW1 hg1 hg1d hL2 hl2 hW2 hg2 h8 h82 hgr2 hg hb hne;clear hcap hlt;subst f23;go_enter Tryz.func86,Tryz.ntmps86
 go_wp2_with fail
 refine qj (fun _=>True) 12 12 qG (by kernel_rfl) (fun _ _ _ _ h=>h) trivial ?_
 dsimp only[List.take,List.drop]
 iterate 12
  refine qA (v:=?_) (by rfl) ?_ ?_
  rotate_left
  ·rintro w' _;go_simp;try with_reducible rfl
  try simp only[Act.put,qB5]
 show wpList _ _ _ _ _ _
 go_wp2_with (simp only[hcp1.out,Xm])
 refine qj (fun _=>True) 9 9 qG (by kernel_rfl) (fun _ _ _ _ h=>h) trivial ?_
 dsimp only[List.take,List.drop]
 iterate 9
  refine qA (v:=?_) (by rfl) ?_ ?_
  rotate_left
  ·rintro w' _;go_simp;try with_reducible rfl
  try simp only[Act.put,qB5]
 show wpList _ _ _ _ _ _
 refine QB _ rfl _ _ 157 157 rfl _ _ rfl rfl _ _ (hcp2.out _ _ _) ?_
 go_wp2_with (simp only[hcr.out,Xm])
 go_ret;exact⟨_,rfl,FIN.out.1,FIN.out.2⟩
theorem qjq (w:World) (bs:List Br) (g cap i j:Nat) (cur:Array Value) (hg:w.heap[g]?=some (.cells cur 160 (0,0))) (hcs:cur.size=cap*2) (hct:cur.toList.take (bs.length*2)=bcl bs) (hcm:cap<=9223372036854775807) (hkc:bs.length<=cap) (hl:bs.length<=1000) (hij:i<j) (hj:j<bs.length) :
 Calls Tryz.prog 86 #[.slice (some ⟨g,0,none⟩) bs.length cap,.int .i64 (i:Int),.int .i64 (j:Int),.slice none 0 0] w fun e w'=>∃ v',e=.returned v'/\OwnBr g w' v' (zk bs i j [])/\w.grownBy w' (some g):=by
 have hcl:cur.toList.length=cap*2:=by rw[x8];exact hcs
 have hat:∀ q,q<bs.length*2->cur.toList[q]?=(bcl bs)[q]?:=fun q hq=>by rw[<-hct,xP,xj hq]
 have hAt:=zY hct (show i<=bs.length by omega)
 have hAl:(bcl (bs.take i)).length=i*2:=by rw[qS,xp];congr 1;omega
 have hCl:(bcl (bs.drop j)).length=(bs.length-j)*2:=by rw[qS,xE]
 have hgd:w.drew.drew.heap[g]?=some (.cells cur 160 (0,0)):=qy (qy hg)
 have hcp1:Hid (∀ ty dl dc,(Builtin.copy_ #[157,157] ty #[.slice (some ⟨g,i*2,none⟩) dl dc,.slice none 0 0]).run Tryz.prog w.drew=.ok (goInt 0) w.drew):=fun ty dl dc=>VW w.drew _ _ ty _ 2 _ dl dc xT ZV
 obtain⟨L2,hL2⟩:∃ L,L=seg cur.toList (i*2) (bcl (bs.drop j)):=⟨_,rfl⟩;have hl2:L2.length=cap*2:=by rw[hL2,Qu (by rw[hCl];omega)];exact hcl
 obtain⟨W2,hW2⟩:∃ W,W=w.drew.drew.setRow g L2.toArray:=⟨_,rfl⟩;have hg2:W2.heap[g]?=some (.cells L2.toArray 160 (0,0)):=by rw[hW2];exact XX _ g cur _ _ _ hgd
 have hcp2:Hid (∀ ty dc sc,(Builtin.copy_ #[157,157] ty #[.slice (some ⟨g,i*2,none⟩) (bs.length-j) dc,.slice (some ⟨g,j*2,none⟩) (bs.length-j) sc]).run Tryz.prog w.drew.drew=.ok (goInt (bs.length-j:Nat)) W2):=fun ty dc sc=>by
  have h9:=QK (P:=Tryz.prog) w.drew.drew 157 157 ty 160 2 g (i*2) (bs.length-j) dc ⟨g,j*2,none⟩ (bs.length-j) sc cur 160 (bcl (bs.drop j)) (bs.length-j) xT ZV hgd (by show _=min _ _;omega) hCl (fun q v hq=>by
   rw[XB,QP hgd];have hql:=(xn.1 hq).1
   rw[hCl] at hql;rw[hat _ (by omega),<-j9 _ _ _ (by omega)]
   exact hq) (by rw[hCl,hcs];omega) (zF _)
  rw[h9,hW2,hL2]
 have h82:L2.take ((i+(bs.length-j))*2)=bcl (bs.take i)++bcl (bs.drop j):=by
  rw[hL2,seg,hAt,Xo (by rw[xk,hAl,hCl];omega)]
 have hgr2:w.grownBy W2 (some g):=by
  rw[hW2];exact⟨rfl,rfl,rfl,by simp,fun k hk h2=>(XH _ _ _ _ (fun e=>h2 (by rw[e]))).trans rfl⟩
 obtain⟨L3,hL3⟩:∃ L,L=seg L2 ((i+(bs.length-j))*2) (Builtin.zeroCells (Value.agg #[.string ⟨#[]⟩,.int .i64 0]).cells (bs.length-(i+(bs.length-j)))).toList:=⟨_,rfl⟩;have hl3:L3.length=cap*2:=by rw[hL3,Qu (by rw[zbl];omega)];exact hl2
 have hcr:Hid (∀ ty c,(Builtin.clear_ #[157] ty #[.slice (some ⟨g,(i+(bs.length-j))*2,none⟩) (bs.length-(i+(bs.length-j))) c]).run Tryz.prog W2=.ok (.tuple #[]) (W2.setRow g L3.toArray)):=fun ty c=>by
  have h9:=jA (P:=Tryz.prog) W2 157 160 ty _ 2 g ((i+(bs.length-j))*2) (bs.length-(i+(bs.length-j))) c L2.toArray 160 xT qcs rfl qdn hg2 (by rw[Xb];omega) (by omega)
  rw[h9,hL3]
 have FIN:Hid (OwnBr g (W2.setRow g L3.toArray) (.slice (some ⟨g,0,none⟩) (i+(bs.length-j)) cap) (zk bs i j [])/\w.grownBy (W2.setRow g L3.toArray) (some g)):=by
  have h9:=Jk (now:=[]) hg2 (show i+([]:List Br).length+(bs.length-j)<=cap by simp;omega) hcm hl3 (show i<=bs.length by omega) (by
   rw[hL3];simp only[xX,XK];rw[j7 (by rw[zbl];omega) (xc _),h82]
   simp[bcl]) hgr2
  simp only[xX,XK] at h9;exact h9
 obtain⟨n,hn⟩:∃ n,n=bs.length:=⟨_,rfl⟩;obtain⟨D,hD⟩:∃ q,q=bs.length-j:=⟨_,rfl⟩;obtain⟨T,hT⟩:∃ q,q=i+(bs.length-j):=⟨_,rfl⟩;rw[<-hT] at hcr FIN;rw[<-hD] at hcp2;rw[<-hn] at hcr |-;have f1:n-j=D:=by omega
 have f2:T-i=D:=by omega
 have f4:(i:Int)+(D:Int)=(T:Int):=by omega
 have f5:IntKind.i64.wrap (i:Int)=(i:Int):=xB _ (by omega)
 have f6:IntKind.i64.wrap (T:Int)=(T:Int):=xB _ (by omega)
 have f7:((i:Int) == (j:Int))=false:=by simp;omega
 have f8:((j:Int) == (n:Int))=false:=by simp;omega
 have f10:¬ (cap=i):=by omega
 have f11:¬ (cap=j):=by omega
 have f12:(i:Int)<=(j:Int):=by omega
 have f13:¬ (T:Int)>(cap:Int):=by omega
 have f14:i<=j:=by omega
 have f15:j<=n:=by omega
 have f16:i<=n:=by omega
 have f18:i<=T:=by omega
 have f19:j<=cap:=by omega
 have f20:i<=cap:=by omega
 have f21:T<=n:=by omega
 have f22:¬ (cap=T):=by omega
 replace hn:=qa hn;replace hD:=qa hD;replace hT:=qa hT;clear hcs hct hcl hat hAt hAl hCl hgd hL2 hl2 hW2 hg2 h82 hgr2 hg hL3 hl3;go_enter Tryz.func86,Tryz.ntmps86
 go_wp2_with fail
 refine qj (fun _=>True) 12 12 qG (by kernel_rfl) (fun _ _ _ _ h=>h) trivial ?_
 dsimp only[List.take,List.drop]
 iterate 12
  refine qA (v:=?_) (by rfl) ?_ ?_
  rotate_left
  ·rintro w' _;go_simp;try with_reducible rfl
  try simp only[Act.put,qB5]
 show wpList _ _ _ _ _ _
 go_wp2_with (simp only[hcp1.out,Xm])
 refine qj (fun _=>True) 9 9 qG (by kernel_rfl) (fun _ _ _ _ h=>h) trivial ?_
 dsimp only[List.take,List.drop]
 iterate 9
  refine qA (v:=?_) (by rfl) ?_ ?_
  rotate_left
  ·rintro w' _;go_simp;try with_reducible rfl
  try simp only[Act.put,qB5]
 show wpList _ _ _ _ _ _
 refine QB _ rfl _ _ 157 157 rfl _ _ rfl rfl _ _ (hcp2.out _ _ _) ?_
 go_wp2_with (simp only[hcr.out,Xm])
 go_ret;exact⟨_,rfl,FIN.out.1,FIN.out.2⟩
theorem qjt (w:World) (bs now:List Br) (g cap i j:Nat) (cur:Array Value) (hg:w.heap[g]?=some (.cells cur 160 (0,0))) (hcs:cur.size=cap*2) (hct:cur.toList.take (bs.length*2)=bcl bs) (hcm:cap<=9223372036854775807) (hkc:bs.length<=cap) (hl:bs.length<=1000) (hij:i<j) (gn:Nat) (hb:w.heap[gn]?=some (.cells (bcl now).toArray 160 (0,0))) (hne:g≠gn) (hj:j<bs.length) (hm0:0<now.length) (hm2:now.length<=2) (hroom:cap<i+now.length+(bs.length-j)) :
 Calls Tryz.prog 86 #[.slice (some ⟨g,0,none⟩) bs.length cap,.int .i64 (i:Int),.int .i64 (j:Int),.slice (some ⟨gn,0,none⟩) now.length now.length] w fun e w'=>∃ v',e=.returned v'/\OwnBr w.heap.size w' v' (zk bs i j now)/\w.grownBy w' (some g):=by
 have hcl:cur.toList.length=cap*2:=by rw[x8];exact hcs
 have hat:∀ q,q<bs.length*2->cur.toList[q]?=(bcl bs)[q]?:=fun q hq=>by rw[<-hct,xP,xj hq]
 have hAt:=zY hct (show i<=bs.length by omega)
 have hAl:(bcl (bs.take i)).length=i*2:=by rw[qS,xp];congr 1;omega
 have hCl:(bcl (bs.drop j)).length=(bs.length-j)*2:=by rw[qS,xE]
 have hVl:=qS now
 obtain⟨i0,hi0,hz0,hz1,hz2⟩:=Xh vu;have hgd:w.drew.heap[g]?=some (.cells cur 160 (0,0)):=qy hg
 obtain⟨G,ROW,hr,hR1,hR2,hR3,hR4⟩:=qbp w.drew 157 3 157 160 i0 _ .i64 2 24 xT X8 hi0 hz0 hz1 hz2 rfl (by omega) g cap i (now.length+(bs.length-j)) cur (bcl (bs.take i)) hgd hAl hAt (by omega) (by omega) (by omega) (by omega) (by omega)
 have hik:i+(now.length+(bs.length-j))=i+now.length+(bs.length-j):=by omega
 rw[hik] at hr hR3;rw[hAl] at hR2;have hsz:w.drew.heap.size=w.heap.size:=rfl
 rw[hsz] at hr;obtain⟨W1,hW1⟩:∃ W,W=w.drew.drew.alloc (.cells ROW 160):=⟨_,rfl⟩;have hd1:W1.heap[w.heap.size]?=some (.cells ROW 160 (0,0)):=by rw[hW1];exact xy w.drew.drew _
 have hgl:g<w.heap.size:=xa hg
 have hvl:gn<w.heap.size:=xa hb
 have ho1:∀ k,k<w.heap.size->W1.heap[k]?=w.heap[k]?:=fun k hk=>by
  rw[hW1];simp only[World.alloc,Array.getElem?_push];rw[xh (show k≠w.drew.drew.heap.size from by have:w.drew.drew.heap.size=w.heap.size:=rfl;omega)]
  rfl
 have hs1:W1.heap.size=w.heap.size+1:=by rw[hW1];simp[World.alloc]
 have hRl:ROW.toList.length=G*2:=by rw[x8,hR1]
 obtain⟨L2,hL2⟩:∃ L,L=seg ROW.toList (i*2) (bcl now):=⟨_,rfl⟩;have hl2:L2.length=G*2:=by rw[hL2,Qu (by rw[hVl,hRl];omega)];exact hRl
 obtain⟨W2,hW2⟩:∃ W,W=W1.setRow w.heap.size L2.toArray:=⟨_,rfl⟩;have hd2:W2.heap[w.heap.size]?=some (.cells L2.toArray 160 (0,0)):=by rw[hW2];exact XX _ _ _ _ _ _ hd1
 have hd2':W2.drew.heap[w.heap.size]?=some (.cells L2.toArray 160 (0,0)):=qy hd2
 have ho2:∀ k,k<w.heap.size->W2.heap[k]?=w.heap[k]?:=fun k hk=>by rw[hW2];exact(XH _ _ _ _ (by omega)).trans (ho1 k hk)
 have hcp1:Hid (∀ ty dc,(Builtin.copy_ #[157,157] ty #[.slice (some ⟨w.heap.size,i*2,none⟩) (i+now.length+(bs.length-j)-i) dc,.slice (some ⟨gn,0,none⟩) now.length now.length]).run Tryz.prog W1=.ok (goInt now.length) W2):=fun ty dc=>by
  have h9:=QK (P:=Tryz.prog) W1 157 157 ty 160 2 w.heap.size (i*2) (i+now.length+(bs.length-j)-i) dc ⟨gn,0,none⟩ now.length now.length ROW 160 (bcl now) now.length xT ZV hd1 (by show _=min _ _;omega) hVl (fun q v hq=>by
   rw[XB,QP ((ho1 gn hvl).trans hb)]
   simpa using hq) (by rw[hVl,hR1];omega) (zF _)
  rw[h9,hW2,hL2]
 obtain⟨L3,hL3⟩:∃ L,L=seg L2 ((i+now.length)*2) (bcl (bs.drop j)):=⟨_,rfl⟩;have hl3:L3.length=G*2:=by rw[hL3,Qu (by rw[hCl];omega)];exact hl2
 obtain⟨W3,hW3⟩:∃ W,W=W2.drew.setRow w.heap.size L3.toArray:=⟨_,rfl⟩
 have hcp2:Hid (∀ ty dc sc,(Builtin.copy_ #[157,157] ty #[.slice (some ⟨w.heap.size,(i+now.length)*2,none⟩) (bs.length-j) dc,.slice (some ⟨g,j*2,none⟩) (bs.length-j) sc]).run Tryz.prog W2.drew=.ok (goInt (bs.length-j:Nat)) W3):=fun ty dc sc=>by
  have h9:=QK (P:=Tryz.prog) W2.drew 157 157 ty 160 2 w.heap.size ((i+now.length)*2) (bs.length-j) dc ⟨g,j*2,none⟩ (bs.length-j) sc L2.toArray 160 (bcl (bs.drop j)) (bs.length-j) xT ZV hd2' (by show _=min _ _;omega) hCl (fun q v hq=>by
   rw[XB,QP (w:=W2.drew) (qy ((ho2 g hgl).trans hg))];have hql:=(xn.1 hq).1
   rw[hCl] at hql;rw[hat _ (by omega),<-j9 _ _ _ (by omega)]
   exact hq) (by rw[hCl,Xb];omega) (zF _)
  rw[h9,hW3,hL3]
 have h8:=yo (L:=ROW.toList) (A:=bcl (bs.take i)) (V:=bcl now) (C:=bcl (bs.drop j)) (by rw[hAl];exact hR2) (by rw[hAl,hVl,hCl,hRl];omega)
 have h82:L3.take ((i+now.length+(bs.length-j))*2)=bcl (zk bs i j now):=by
  rw[hAl,hVl,hCl] at h8;rw[qfp,hL3,hL2,show (i+now.length+(bs.length-j))*2=i*2+now.length*2+(bs.length-j)*2 by omega,show (i+now.length)*2=i*2+now.length*2 by omega]
  exact h8
 have FIN:Hid (OwnBr w.heap.size W3 (.slice (some ⟨w.heap.size,0,none⟩) (i+now.length+(bs.length-j)) G) (zk bs i j now)/\w.grownBy W3 (some g)):=by
  have hrow:=Ym (B:=w.heap.size) (k:=i+now.length+(bs.length-j)) (cap:=G) (n:=2) hd2' (xc _) hR3 (by unfold maxLen;exact hR4) hl3 (by rw[qS,Yx (by omega)]) h82
  refine⟨?_,?_⟩
  ·have:=hrow.1
   rw[<-hW3] at this;show World.ownsRow _ _ _ _ _ _ _
   rw[Yx (by omega)];exact this
  refine⟨by rw[hW3,hW2,hW1];rfl,by rw[hW3,hW2,hW1];rfl,by rw[hW3,hW2,hW1];rfl,?_,fun k hk _=>?_⟩
  ·rw[hW3,setRow_size];show w.heap.size<=W2.heap.size
   rw[hW2,setRow_size,hs1];omega
  rw[hW3];exact(XH _ _ _ _ (by omega)).trans (ho2 k hk)
 rw[<-hW1] at hr;obtain⟨n,hn⟩:∃ n,n=bs.length:=⟨_,rfl⟩;obtain⟨m,hm⟩:∃ m,m=now.length:=⟨_,rfl⟩;obtain⟨IM,hIM⟩:∃ q,q=i+now.length:=⟨_,rfl⟩;obtain⟨D,hD⟩:∃ q,q=bs.length-j:=⟨_,rfl⟩;obtain⟨T,hT⟩:∃ q,q=i+now.length+(bs.length-j):=⟨_,rfl⟩;rw[<-hT] at hcp1 FIN hroom hr hR3;rw[<-hIM] at hcp2;rw[<-hD] at hcp2;rw[<-hn,<-hm];rw[<-hm] at hcp1 hm0 hm2;have f1:n-j=D:=by omega
 have f2:T-IM=D:=by omega
 have f3:(i:Int)+(m:Int)=(IM:Int):=by omega
 have f4:(IM:Int)+(D:Int)=(T:Int):=by omega
 have f5:IntKind.i64.wrap (IM:Int)=(IM:Int):=xB _ (by omega)
 have f6:IntKind.i64.wrap (T:Int)=(T:Int):=xB _ (by omega)
 have f7:((i:Int) == (j:Int))=false:=by simp;omega
 have f8:((j:Int) == (n:Int))=false:=by simp;omega
 have f10:¬ (cap=i):=by omega
 have f11:¬ (cap=j):=by omega
 have f14:i<=j:=by omega
 have f15:j<=n:=by omega
 have f16:i<=n:=by omega
 have f17:IM<=T:=by omega
 have f18:i<=T:=by omega
 have f19:j<=cap:=by omega
 have f20:i<=cap:=by omega
 have f9:¬ (G=IM):=by omega
 have f12:¬ (G=i):=by omega
 have f13:(T:Int)>(cap:Int):=by omega
 have f23:IntKind.i64.wrap ((T:Int)-(i:Int))=(T:Int)-(i:Int):=xB _ (by omega)
 have hap:Hid ((Builtin.append_ #[157,3] 157 #[.slice (some ⟨g,0,none⟩) i cap,.int .i64 ((T:Int)-(i:Int))]).run Tryz.prog w.drew=.ok (.slice (some ⟨w.heap.size,0,none⟩) T G) W1):=by
  show _=_
  rw[show (T:Int)-(i:Int)=((now.length+(bs.length-j):Nat):Int) by omega]
  exact hr
 replace hn:=qa hn;replace hm:=qa hm;replace hIM:=qa hIM;replace hD:=qa hD;replace hT:=qa hT;clear hcs hct hcl hat hAt hAl hCl hVl hgd hg hb hne hr hR1 hR2 hR4 hik hsz hW1 hd1 hgl hvl ho1 hs1 hRl hL2 hl2 hW2 hd2 hd2' ho2 hL3 hl3 hW3 h8 h82 hi0 hz0 hz1;go_enter Tryz.func86,Tryz.ntmps86
 go_wp2_with fail
 refine qj (fun _=>True) 12 12 qG (by kernel_rfl) (fun _ _ _ _ h=>h) trivial ?_
 dsimp only[List.take,List.drop]
 iterate 12
  refine qA (v:=?_) (by rfl) ?_ ?_
  rotate_left
  ·rintro w' _;go_simp;try with_reducible rfl
  try simp only[Act.put,qB5]
 show wpList _ _ _ _ _ _
 go_wp2_with (first|(at_builtin;refine XY _ rfl _ _ _ _ rfl _ _ rfl rfl _ _ hap.out ?_)|simp only[hcp1.out,Xm])
 refine qj (fun _=>True) 9 9 qG (by kernel_rfl) (fun _ _ _ _ h=>h) trivial ?_
 dsimp only[List.take,List.drop]
 iterate 9
  refine qA (v:=?_) (by rfl) ?_ ?_
  rotate_left
  ·rintro w' _;go_simp;try with_reducible rfl
  try simp only[Act.put,qB5]
 show wpList _ _ _ _ _ _
 refine QB _ rfl _ _ 157 157 rfl _ _ rfl rfl _ _ (hcp2.out _ _ _) ?_;go_wp2;go_ret;exact⟨_,rfl,FIN.out.1,FIN.out.2⟩
theorem qot (bs now:List Br) (i:Nat):zk bs i bs.length now=bs.take i++now:=by unfold zk;rw[List.drop_length,xK]
theorem qj1 (w:World) (bs:List Br) (g cap i:Nat) (cur:Array Value) (hg:w.heap[g]?=some (.cells cur 160 (0,0))) (hcs:cur.size=cap*2) (hct:cur.toList.take (bs.length*2)=bcl bs) (hcm:cap<=9223372036854775807) (hkc:bs.length<=cap) (hl:bs.length<=1000) (hij:i<bs.length) :
 Calls Tryz.prog 86 #[.slice (some ⟨g,0,none⟩) bs.length cap,.int .i64 (i:Int),.int .i64 (bs.length:Int),.slice none 0 0] w fun e w'=>∃ v',e=.returned v'/\OwnBr g w' v' (zk bs i bs.length [])/\w.grownBy w' (some g):=by
 have hcl:cur.toList.length=cap*2:=by rw[x8];exact hcs
 have hAt:=zY hct (show i<=bs.length by omega)
 have hAl:(bcl (bs.take i)).length=i*2:=by rw[qS,xp];congr 1;omega
 obtain⟨i0,hi0,hz0,hz1,hz2⟩:=Xh vu;have hown:w.ownsRow g 160 2 (.slice (some ⟨g,0,none⟩) i cap) i (bcl (bs.take i)):=⟨hAl,.inr ⟨g,cap,cur,rfl,xc _,hg,by omega,by unfold maxLen;exact hcm,hcs,hAt⟩⟩
 have hap:Hid ((Builtin.append_ #[157,157] 157 #[.slice (some ⟨g,0,none⟩) i cap,.slice none 0 0]).run Tryz.prog w=.ok (.slice (some ⟨g,0,none⟩) i cap) w) :=
  run_append_owned_none (P:=Tryz.prog) (w:=w) g 157 _ 160 i0 2 xT hi0 _ i _ hown
 obtain⟨L3,hL3⟩:∃ L,L=seg cur.toList (i*2) (Builtin.zeroCells (Value.agg #[.string ⟨#[]⟩,.int .i64 0]).cells (bs.length-i)).toList:=⟨_,rfl⟩;have hl3:L3.length=cap*2:=by rw[hL3,Qu (by rw[zbl];omega)];exact hcl
 have hcr:Hid (∀ ty c,(Builtin.clear_ #[157] ty #[.slice (some ⟨g,i*2,none⟩) (bs.length-i) c]).run Tryz.prog w=.ok (.tuple #[]) (w.setRow g L3.toArray)):=fun ty c=>by
  have h9:=jA (P:=Tryz.prog) w 157 160 ty _ 2 g (i*2) (bs.length-i) c cur 160 xT qcs rfl qdn hg (by rw[hcs];omega) (by omega)
  rw[h9,hL3]
 have FIN:Hid (OwnBr g (w.setRow g L3.toArray) (.slice (some ⟨g,0,none⟩) i cap) (zk bs i bs.length [])/\w.grownBy (w.setRow g L3.toArray) (some g)):=by
  have h9:=Jk (now:=[]) (j:=bs.length) (w0:=w) hg (show i+([]:List Br).length+(bs.length-bs.length)<=cap by simp;omega) hcm hl3 (show i<=bs.length by omega) (by
   rw[hL3];simp only[xX,XK,Nat.sub_self];rw[j7 (by rw[zbl];omega) (xc _),hAt]
   simp[bcl]) (World.grownBy.refl _ _)
  simp only[xX,XK,Nat.sub_self] at h9;exact h9
 obtain⟨n,hn⟩:∃ n,n=bs.length:=⟨_,rfl⟩;rw[<-hn] at hcr FIN hij |-;have f7:((i:Int) == (n:Int))=false:=by simp;omega
 have f8:((n:Int) == (n:Int))=true:=by simp
 have f10:¬ (cap=i):=by omega
 have f16:i<=n:=by omega
 have f20:i<=cap:=by omega
 have f24:n<=cap:=by omega
 have f21:(i:Int)<(n:Int):=by omega
 replace hn:=qa hn;clear hcs hct hcl hAt hAl hg hL3 hl3 hown hi0 hz0 hz1;go_enter Tryz.func86,Tryz.ntmps86
 go_wp2_with (first|(at_builtin;refine XY _ rfl _ _ _ _ rfl _ _ rfl rfl _ _ hap.out ?_)|simp only[hcr.out,Xm])
 go_ret;exact⟨_,rfl,FIN.out.1,FIN.out.2⟩
theorem qjy (w:World) (bs now:List Br) (g cap i:Nat) (cur:Array Value) (hg:w.heap[g]?=some (.cells cur 160 (0,0))) (hcs:cur.size=cap*2) (hct:cur.toList.take (bs.length*2)=bcl bs) (hcm:cap<=9223372036854775807) (hkc:bs.length<=cap) (hl:bs.length<=1000) (hij:i<bs.length) (gn:Nat) (hb:w.heap[gn]?=some (.cells (bcl now).toArray 160 (0,0))) (hne:g≠gn) (hm0:0<now.length) (hlt:i+now.length<bs.length) :
 Calls Tryz.prog 86 #[.slice (some ⟨g,0,none⟩) bs.length cap,.int .i64 (i:Int),.int .i64 (bs.length:Int),.slice (some ⟨gn,0,none⟩) now.length now.length] w fun e w'=>∃ v',e=.returned v'/\OwnBr g w' v' (zk bs i bs.length now)/\w.grownBy w' (some g):=by
 have hcl:cur.toList.length=cap*2:=by rw[x8];exact hcs
 have hAt:=zY hct (show i<=bs.length by omega)
 have hAl:(bcl (bs.take i)).length=i*2:=by rw[qS,xp];congr 1;omega
 have hVl:=qS now
 obtain⟨i0,hi0,hz0,hz1,hz2⟩:=Xh vu;obtain⟨L1,hL1⟩:∃ L,L=seg cur.toList (i*2) (bcl now):=⟨_,rfl⟩;have hl1:L1.length=cap*2:=by rw[hL1,Qu (by rw[hVl];omega)];exact hcl
 obtain⟨W1,hW1⟩:∃ W,W=w.setRow g L1.toArray:=⟨_,rfl⟩;have hg1:W1.heap[g]?=some (.cells L1.toArray 160 (0,0)):=by rw[hW1];exact XX _ g cur _ _ _ hg
 have hap:Hid ((Builtin.append_ #[157,157] 157 #[.slice (some ⟨g,0,none⟩) i cap,.slice (some ⟨gn,0,none⟩) now.length now.length]).run Tryz.prog w=.ok (.slice (some ⟨g,0,none⟩) (i+now.length) cap) W1):=by
  have h9:=run_append_room (P:=Tryz.prog) w 157 157 160 i0 xT hi0 g i cap cur hg ⟨gn,0,none⟩ now.length now.length (bcl now) (by rw[hz1];exact hVl) (fun q v hq=>by
   rw[XB,QP hb]
   simpa using hq) (zF _) (by omega) (by rw[hz1,hVl,hcs];omega)
  show _=_
  rw[h9,hW1,hL1,hz1];rfl
 obtain⟨L3,hL3⟩:∃ L,L=seg L1 ((i+now.length)*2) (Builtin.zeroCells (Value.agg #[.string ⟨#[]⟩,.int .i64 0]).cells (bs.length-(i+now.length))).toList:=⟨_,rfl⟩;have hl3:L3.length=cap*2:=by rw[hL3,Qu (by rw[zbl];omega)];exact hl1
 have hcr:Hid (∀ ty c,(Builtin.clear_ #[157] ty #[.slice (some ⟨g,(i+now.length)*2,none⟩) (bs.length-(i+now.length)) c]).run Tryz.prog W1=.ok (.tuple #[]) (W1.setRow g L3.toArray)):=fun ty c=>by
  have h9:=jA (P:=Tryz.prog) W1 157 160 ty _ 2 g ((i+now.length)*2) (bs.length-(i+now.length)) c L1.toArray 160 xT qcs rfl qdn hg1 (by rw[Xb];omega) (by omega)
  rw[h9,hL3]
 have hgr:w.grownBy W1 (some g):=by
  rw[hW1];exact⟨rfl,rfl,rfl,by simp,fun k hk h2=>(XH _ _ _ _ (fun e=>h2 (by rw[e]))).trans rfl⟩
 have FIN:Hid (OwnBr g (W1.setRow g L3.toArray) (.slice (some ⟨g,0,none⟩) (i+now.length) cap) (zk bs i bs.length now)/\w.grownBy (W1.setRow g L3.toArray) (some g)):=by
  have h9:=Jk (j:=bs.length) (w0:=w) hg1 (show i+now.length+(bs.length-bs.length)<=cap by omega) hcm hl3 (show i<=bs.length by omega) (by
   rw[hL3];simp only[Nat.sub_self,XK];rw[j7 (by rw[zbl];omega) (xc _),hL1,seg,hAt,List.drop_length,Xo (by rw[xk,hAl,hVl];omega)]
   simp[bcl]) hgr
  simp only[XK,Nat.sub_self] at h9;exact h9
 obtain⟨n,hn⟩:∃ n,n=bs.length:=⟨_,rfl⟩;obtain⟨m,hm⟩:∃ m,m=now.length:=⟨_,rfl⟩;obtain⟨IM,hIM⟩:∃ q,q=i+now.length:=⟨_,rfl⟩;rw[<-hIM] at hap hcr FIN hlt;rw[<-hm] at hap |-;rw[<-hn] at hcr FIN hij hlt |-;have f7:((i:Int) == (n:Int))=false:=by simp;omega
 have f8:((n:Int) == (n:Int))=true:=by simp
 have f10:¬ (cap=i):=by omega
 have f16:i<=n:=by omega
 have f20:i<=cap:=by omega
 have f24:n<=cap:=by omega
 have f21:(IM:Int)<(n:Int):=by omega
 have f22:¬ (cap=IM):=by omega
 have f23:IM<=n:=by omega
 replace hn:=qa hn;replace hm:=qa hm;replace hIM:=qa hIM;clear hcs hct hcl hAt hAl hg hb hne hL1 hl1 hW1 hg1 hL3 hl3 hgr hVl hi0 hz0 hz1;go_enter Tryz.func86,Tryz.ntmps86
 go_wp2_with (first|(at_builtin;refine XY _ rfl _ _ _ _ rfl _ _ rfl rfl _ _ hap.out ?_)|simp only[hcr.out,Xm])
 go_ret;exact⟨_,rfl,FIN.out.1,FIN.out.2⟩
theorem qjg (w:World) (bs now:List Br) (g cap i:Nat) (cur:Array Value) (hg:w.heap[g]?=some (.cells cur 160 (0,0))) (hcs:cur.size=cap*2) (hct:cur.toList.take (bs.length*2)=bcl bs) (hcm:cap<=9223372036854775807) (hkc:bs.length<=cap) (hl:bs.length<=1000) (hij:i<bs.length) (gn:Nat) (hb:w.heap[gn]?=some (.cells (bcl now).toArray 160 (0,0))) (hne:g≠gn) (hm0:0<now.length) (hm2:now.length<=2) (hlt:bs.length<=i+now.length) :
 Calls Tryz.prog 86 #[.slice (some ⟨g,0,none⟩) bs.length cap,.int .i64 (i:Int),.int .i64 (bs.length:Int),.slice (some ⟨gn,0,none⟩) now.length now.length] w fun e w'=>∃ v',e=.returned v'/\OwnBr g w' v' (zk bs i bs.length now)/\w.grownBy w' (some g):=by
 have hcl:cur.toList.length=cap*2:=by rw[x8];exact hcs
 have hAt:=zY hct (show i<=bs.length by omega)
 have hAl:(bcl (bs.take i)).length=i*2:=by rw[qS,xp];congr 1;omega
 have hVl:=qS now
 obtain⟨i0,hi0,hz0,hz1,hz2⟩:=Xh vu;have hown:w.ownsRow g 160 2 (.slice (some ⟨g,0,none⟩) i cap) i (bcl (bs.take i)):=⟨hAl,.inr ⟨g,cap,cur,rfl,xc _,hg,by omega,by unfold maxLen;exact hcm,hcs,hAt⟩⟩
 obtain⟨g',c',W1,hap,ho,hgr,_,_⟩:=run_append_lies (P:=Tryz.prog) w 157 157 g 160 i0 _ 2 24 xT hi0 hz0 hz1 hz2 rfl (by decide) _ i _ hown ⟨gn,0,none⟩ now.length now.length (bcl now) hVl (fun q v hq=>by
  rw[XB,QP hb]
  simpa using hq) (zF _) hm0 (by unfold maxLen;omega) (by omega) (xZ (xa hg)) _ rfl
 have FIN:Hid (OwnBr g W1 (.slice (some ⟨g',0,none⟩) (i+now.length) c') (zk bs i bs.length now)/\w.grownBy W1 (some g)):=by
  refine⟨?_,hgr⟩;show World.ownsRow _ _ _ _ _ _ _
  rw[qot,Jy,show (bs.take i++now).length=i+now.length by rw[xk,xp];omega]
  exact ho
 replace hap:=qa hap;obtain⟨n,hn⟩:∃ n,n=bs.length:=⟨_,rfl⟩;obtain⟨m,hm⟩:∃ m,m=now.length:=⟨_,rfl⟩;obtain⟨IM,hIM⟩:∃ q,q=i+now.length:=⟨_,rfl⟩;rw[<-hIM] at hap FIN hlt;rw[<-hm] at hap |-;rw[<-hn] at FIN hij hlt |-;have f7:((i:Int) == (n:Int))=false:=by simp;omega
 have f8:((n:Int) == (n:Int))=true:=by simp
 have f10:¬ (cap=i):=by omega
 have f16:i<=n:=by omega
 have f20:i<=cap:=by omega
 have f24:n<=cap:=by omega
 have f21:¬ (IM:Int)<(n:Int):=by omega
 replace hn:=qa hn;replace hm:=qa hm;replace hIM:=qa hIM;clear hcs hct hcl hAt hAl hg hb hne hVl hi0 hz0 hz1 hown ho hgr;go_enter Tryz.func86,Tryz.ntmps86
 go_wp2_with (at_builtin;refine XY _ rfl _ _ _ _ rfl _ _ rfl rfl _ _ hap.out ?_)
 go_ret;exact⟨_,rfl,FIN.out.1,FIN.out.2⟩
theorem qj0 (B:Nat) (w:World) (v u:Value) (bs now:List Br) (i j:Nat) (h:OwnBr B w v bs) (hB:B<=w.heap.size) (hnow:(u=.slice none 0 0/\now=[])\/(∃ gn,u=.slice (some ⟨gn,0,none⟩) now.length now.length/\0<now.length/\w.heap[gn]?=some (.cells (bcl now).toArray 160 (0,0))/\∀ b,v.ownBlock=some b->b≠gn))
 (hm2:now.length<=2) (hij:i<j) (hj:j<=bs.length) (hl:bs.length<=1000) :
 Calls Tryz.prog 86 #[v,.int .i64 (i:Int),.int .i64 (j:Int),u] w fun e w'=>∃ v',e=.returned v'/\OwnBr B w' v' (zk bs i j now)/\w.grownBy w' v.ownBlock:=by
 obtain⟨g,cap,cur,rfl,hBg,hg,hkc,hcm,hcs,hct⟩:=zZ h (by omega)
 unfold maxLen at hcm
 have hfin:∀ (e:Ending) (w':World),(∃ v',e=.returned v'/\OwnBr g w' v' (zk bs i j now)/\w.grownBy w' (some g))->∃ v',e=.returned v'/\OwnBr B w' v' (zk bs i j now)/\w.grownBy w' (Value.slice (some ⟨g,0,none⟩) bs.length cap).ownBlock:=by
  rintro e w' ⟨v',rfl,o,gr⟩;exact⟨v',rfl,QA o hBg,gr⟩
 rcases hnow with ⟨rfl,rfl⟩|⟨gn,rfl,hm0,hb,hne⟩
 ·by_cases hje:j=bs.length
  ·subst hje;exact(qj1 w bs g cap i cur hg hcs hct hcm hkc hl hij).mono hfin
  exact(qjq w bs g cap i j cur hg hcs hct hcm hkc hl hij (by omega)).mono hfin
 have hgn:g≠gn:=hne g rfl
 by_cases hje:j=bs.length
 ·subst hje;by_cases hlt:i+now.length<bs.length
  ·exact(qjy w bs now g cap i cur hg hcs hct hcm hkc hl hij gn hb hgn hm0 hlt).mono hfin
  exact(qjg w bs now g cap i cur hg hcs hct hcm hkc hl hij gn hb hgn hm0 hm2 (by omega)).mono hfin
 by_cases hroom:i+now.length+(bs.length-j)<=cap
 ·by_cases hx:i+now.length<=j
  ·by_cases he:i+now.length=j
   ·by_cases hcap:cap=bs.length
    ·exact(qkc w bs now g cap i j cur hg hcs hct hcm hkc hl hij gn hb hgn (by omega) hx hm0 he hcap).mono hfin
    exact(qjz w bs now g cap i j cur hg hcs hct hcm hkc hl hij gn hb hgn (by omega) hx hm0 he hcap).mono hfin
   exact(qlc w bs now g cap i j cur hg hcs hct hcm hkc hl hij gn hb hgn (by omega) hx hm0 (by omega)).mono hfin
  exact(ql7 w bs now g cap i j cur hg hcs hct hcm hkc hl hij gn hb hgn (by omega) (by omega) hm2 hroom).mono hfin
 refine(qjt w bs now g cap i j cur hg hcs hct hcm hkc hl hij gn hb hgn (by omega) hm0 hm2 (by omega)).mono ?_
 rintro e w' ⟨v',rfl,o,gr⟩;exact⟨v',rfl,QA o hB,gr⟩
def qpp (C:Nat) (w:World) (u:Value) (now:List Br):Prop:=(u=.slice none 0 0/\now=[])\/(∃ gn,u=.slice (some ⟨gn,0,none⟩) now.length now.length/\0<now.length/\w.heap[gn]?=some (.cells (bcl now).toArray 160 (0,0))/\C<=gn)
def LdR (B gc g:Nat) (next:Int) (av:Value) (ns:List NV) (n:Nd) (ahead:Str) (w w':World) (e:Ending):Prop:=∃ u av' more,e=.returned u/\qpp w.heap.size w' u (qC next (ns.map (·.1)) n ahead).1/\ChI B w' gc g next av' (ns++more)/\AllK w' (ns++more)/\(ns++more).map (·.1)=(qC next (ns.map (·.1)) n ahead).2/\KCh B gc av av' w w'/\∀ b,av'.ownBlock=some b->b≠g
theorem KCh.apart {next:Int} {ns:List NV} (c:ChI B w gc g next av ns) (hg:∀ b,av.ownBlock=some b->b≠g) (k:KCh B gc av av' w w'):∀ b,av'.ownBlock=some b->b≠g:=fun b hb=>by
 rcases k.row b hb with h|h
 ·exact hg b h
 have:g<w.heap.size:=qe c.nxt
 omega
structure L5 (B gc g:Nat) (next:Int) (av:Value) (ns:List NV) (n:Nd) (kv vv dv:Value) (nb:Nat) (w0 w:World):Prop where
 ch:ChI B w gc g next av ns
 al:AllK w ns
 nd:RdK w kv vv dv n
 box:w.heap[nb]?=some (.cells #[.bool n.leaf,kv,vv,dv] 84 (0,0))
 kc:KCh B gc av av w0 w
 hB:B<=w.heap.size
theorem L5.to {next:Int} {ns:List NV} {dv:Value} (h:L5 B gc g next av ns n kv vv dv nb w0 w) (b:Below w.heap.size w w'):L5 B gc g next av ns n kv vv dv nb w0 w' :=
 ⟨h.ch.to b,h.al.to b,h.nd.to b,(b.block _ (xa h.box)).trans h.box,h.kc.trans (KCh.of b h.hB),xi h.hB b.size⟩
theorem L5.cells {next:Int} {ns:List NV} {dv:Value} (h:L5 B gc g next av ns n kv vv dv nb w0 w):w.cell? ⟨nb,0,none⟩=some (.bool n.leaf)/\w.cell? ⟨nb,1,none⟩=some kv/\w.cell? ⟨nb,2,none⟩=some vv/\w.cell? ⟨nb,3,none⟩=some dv:=(qb h.box).1
theorem Qs {o:Option Obj} (h:w.heap[b]?=o) (hne:b≠g) (x y z v:Value):(S4 g w x y z v).heap[b]?=o:=(QE x y z v hne).trans h
theorem qg1 (B:Nat) (w:World) (gc g:Nat) (next:Int) (av:Value) (ns:List NV) (n:Nd) (kv vv dv:Value) (ahead:Str) (h:ChI B w gc g next av ns) (hA:AllK w ns) (hB:B<=w.heap.size) (hg:∀ b,av.ownBlock=some b->b≠g) (hgc:gc≠g) (hns:ns.length<=900) (hnx:0<=next/\next<=65536) (hr:RdK w kv vv dv n) (hk0:n.keys.length=0):Calls Tryz.prog 81 #[.pointer (some ⟨gc,0,none⟩),nv n kv vv dv,st ahead] w fun e w'=>LdR B gc g next av ns n ahead w w' e:=by
 obtain⟨ka,kc,va,vc,da,dc,rfl,rfl,rfl⟩:=hr.rd.slices;obtain⟨W,hW,DW,bW,sW⟩:=qf w #[.bool n.leaf,.slice ka n.keys.length kc,.slice va n.vals.length vc,.slice da n.kids.length dc] 84;obtain⟨⟨E0,E1,E2,E3⟩,EF⟩:=qb DW;have HL:=qa (L5.mk (n:=n) (w0:=w) (h.to bW) (hA.to bW) (hr.to bW) DW (KCh.of (gc:=gc) (av:=av) bW hB) (xi hB bW.size))
 have hq0:((n.keys.length:Int) == 0)=true:=by simp[hk0]
 have hla:Hid (qC next (ns.map (·.1)) n ahead=([],ns.map (·.1))):=by show _=_;unfold qC;rw[xj hk0]
 replace hg:=qa hg;replace hk0:=qa hk0;rw[hW] at E0 E1 E2 E3 EF HL;dsimp only[nv];clear DW bW h hr hB hA;go_enter Tryz.func81,Tryz.ntmps81;go_wp2;go_ret;refine⟨_,av,[],rfl,.inl ⟨rfl,by rw[hla.out]⟩,by rw[xK];exact HL.out.ch,by rw[xK];exact HL.out.al,by rw[xK,hla.out],HL.out.kc,hg.out⟩
theorem qkh (B:Nat) (w:World) (gc g:Nat) (next:Int) (av:Value) (ns:List NV) (n:Nd) (kv vv dv:Value) (ahead:Str) (h:ChI B w gc g next av ns) (hA:AllK w ns) (hB:B<=w.heap.size) (hg:∀ b,av.ownBlock=some b->b≠g) (hgc:gc≠g) (hns:ns.length<=900) (hnx:0<=next/\next<=65536) (hr:RdK w kv vv dv n) (hk0:n.keys.length≠0) (hsz:qp n<=244) (hsz0:0<=qp n):Calls Tryz.prog 81 #[.pointer (some ⟨gc,0,none⟩),nv n kv vv dv,st ahead] w fun e w'=>LdR B gc g next av ns n ahead w w' e:=by
 obtain⟨ka,kc,va,vc,da,dc,rfl,rfl,rfl⟩:=hr.rd.slices;obtain⟨W,hW,DW,bW,sW⟩:=qf w #[.bool n.leaf,.slice ka n.keys.length kc,.slice va n.vals.length vc,.slice da n.kids.length dc] 84;obtain⟨⟨E0,E1,E2,E3⟩,EF⟩:=qb DW;have HL:=qa (L5.mk (n:=n) (w0:=w) (h.to bW) (hA.to bW) (hr.to bW) DW (KCh.of (gc:=gc) (av:=av) bW hB) (xi hB bW.size))
 have KS:=qa (zT W _ _ _ n HL.out.nd.rd)
 have hq0:((n.keys.length:Int) == 0)=false:=by simpa using hk0
 have hla:Hid (qC next (ns.map (·.1)) n ahead=([(ahead,next+(ns.length:Int))],ns.map (·.1)++[n])):=by show _=_;unfold qC;rw[xh hk0,xj hsz,Xe]
 replace hsz:=qa hsz;replace hsz0:=qa hsz0;have hg':=qa hg
 have h':=qa h
 replace hgc:=qa hgc;replace hk0:=qa hk0;rw[hW] at E0 E1 E2 E3 EF KS;dsimp only[nv] at KS |-;clear DW bW h hr hB hA hg;go_enter Tryz.func81,Tryz.ntmps81
 go_wp2_with fail
 refine KS.out.mono ?_;rintro e w1 ⟨rfl,b1⟩;rw[<-hW] at b1;clear E0 E1 E2 E3 EF KS;replace hW:=qa hW;have hws:wrap64 (qp n)=qp n:=by have:=hsz.out;have:=hsz0.out;unfold wrap64;omega
 rw[hws];have hle:qp n<=244:=hsz.out
 have L1:=qa (HL.out.to b1)
 obtain⟨E0,E1,E2,E3⟩:=L1.out.cells;have KA:=qa (yi B w1 gc g next av ns n (.slice ka n.keys.length kc) (.slice va n.vals.length vc) (.slice da n.kids.length dc) L1.out.ch L1.out.hB hg'.out hgc.out (by omega) hnx ⟨rfl,rfl,rfl⟩)
 dsimp only[nv] at KA;clear b1 HL hws;generalize qp n=sz at *
 go_wp2_with fail
 refine KA.out.mono ?_;rintro e w2 ⟨av2,rfl,c2,k2⟩;have kt:=fun e (h1:e≠126) (h2:e≠84)=>k2.keepT L1.out.ch h1 h2
 have A2:AllK w2 (ns++[(n,.slice ka n.keys.length kc,.slice va n.vals.length vc,.slice da n.kids.length dc)]):=(L1.out.al.keepT (kt _ (by decide) (by decide)) (kt _ (by decide) (by decide))).snoc (L1.out.nd.keepT (kt _ (by decide) (by decide)) (kt _ (by decide) (by decide)))
 obtain⟨kid,hkid⟩:∃ k:Int,k=next+(ns.length:Int):=⟨_,rfl⟩
 rw[<-hkid];obtain⟨Y,hY,DY,bY,sY⟩:=qf w2 #[st ahead,.int .i64 kid] 160;have hB2:B<=w2.heap.size:=xi L1.out.hB k2.size
 have FIN:Hid (qpp w.heap.size Y (.slice (some ⟨w2.heap.size,0,none⟩) 1 1) [(ahead,kid)]/\ChI B Y gc g next av2 (ns++[(n,.slice ka n.keys.length kc,.slice va n.vals.length vc,.slice da n.kids.length dc)])/\AllK Y (ns++[(n,.slice ka n.keys.length kc,.slice va n.vals.length vc,.slice da n.kids.length dc)])/\KCh B gc av av2 w Y) :=
  ⟨.inr ⟨w2.heap.size,rfl,by simp,DY,xi L1.out.kc.size k2.size⟩,c2.to bY,A2.to bY,(L1.out.kc.trans k2).trans (KCh.of bY hB2)⟩
 rw[hY] at FIN;replace hkid:=qa hkid;clear c2 k2 KA E0 E1 E2 E3 DY bY hY kt A2;go_wp2;go_ret;refine⟨_,av2,[(n,.slice ka n.keys.length kc,.slice va n.vals.length vc,.slice da n.kids.length dc)],rfl,?_,FIN.out.2.1,FIN.out.2.2.1,by rw[hla.out,Xj];rfl,FIN.out.2.2.2,KCh.apart h'.out hg'.out FIN.out.2.2.2⟩
 rw[hla.out,<-hkid.out];exact FIN.out.1
structure T5 (B gc g:Nat) (next:Int) (av:Value) (ns:List NV) (w0 w:World) (g7 g9:Nat) (a b:Nd) (k1 v1 d1 k2 v2 d2:Value):Prop where
 ch:ChI B w gc g next av ns
 al:AllK w ns
 kc:KCh B gc av av w0 w
 hB:B<=w.heap.size
 b7:w.heap[g7]?=some (.cells #[.bool a.leaf,k1,v1,d1] 84 (0,0))
 b9:w.heap[g9]?=some (.cells #[.bool b.leaf,k2,v2,d2] 84 (0,0))
 ra:RdK w k1 v1 d1 a
 rb:RdK w k2 v2 d2 b
 l7:w0.heap.size<=g7
 l9:w0.heap.size<=g9
theorem T5.to {next:Int} {ns:List NV} {a b:Nd} (h:T5 B gc g next av ns w0 w g7 g9 a b k1 v1 d1 k2 v2 d2) (q:Below w.heap.size w w'):T5 B gc g next av ns w0 w' g7 g9 a b k1 v1 d1 k2 v2 d2 :=
 ⟨h.ch.to q,h.al.to q,h.kc.trans (KCh.of q h.hB),xi h.hB q.size,(q.block _ (xa h.b7)).trans h.b7,(q.block _ (xa h.b9)).trans h.b9,h.ra.to q,h.rb.to q,h.l7,h.l9⟩
theorem KCh.box {C:Nat} {o:Obj} (k:KCh B gc av av' w w') (hb:w.heap[b]?=some o) (h1:gc<C) (h2:∀ q,av.ownBlock=some q->q≠b) (h3:C<=b):w'.heap[b]?=some o :=
 (k.keep b (xa hb) (by omega) (fun e=>h2 b e rfl)).trans hb
theorem Zh {next:Int} {ns:List NV} {dv:Value} {a b:Nd} (h:L5 B gc g next av ns n kv vv dv nb w0 w) (z7:w.heap[g7]?=some (.cells #[.bool false,.slice none 0 0,.slice none 0 0,.slice none 0 0] 84 (0,0))) (z9:w.heap[g9]?=some (.cells #[.bool false,.slice none 0 0,.slice none 0 0,.slice none 0 0] 84 (0,0)))
 (l7:w0.heap.size<=g7) (l9:w0.heap.size<=g9) (hB0:B<=w0.heap.size) (hne:g7≠g9) (n7:g7≠nb) (c0:ChI B w0 gc g next av ns) (ra:RdK w k1 v1 d1 a) (rb:RdK w k2 v2 d2 b) :
 ((S4 g7 w (.bool a.leaf) k1 v1 d1).cell? ⟨nb,0,none⟩=some (.bool n.leaf)/\(S4 g7 w (.bool a.leaf) k1 v1 d1).cell? ⟨nb,1,none⟩=some kv/\(S4 g7 w (.bool a.leaf) k1 v1 d1).cell? ⟨nb,2,none⟩=some vv/\(S4 g7 w (.bool a.leaf) k1 v1 d1).cell? ⟨nb,3,none⟩=some dv)/\
 (S4 g7 w (.bool a.leaf) k1 v1 d1).heap[g9]?=some (.cells #[.bool false,.slice none 0 0,.slice none 0 0,.slice none 0 0] 84 (0,0))/\
 T5 B gc g next av ns w0 (S4 g9 (S4 g7 w (.bool a.leaf) k1 v1 d1) (.bool b.leaf) k2 v2 d2) g7 g9 a b k1 v1 d1 k2 v2 d2:=by
 have z9':=Qs z9 hne.symm (.bool a.leaf) k1 v1 d1
 have h7:(S4 g7 w (.bool a.leaf) k1 v1 d1).heap[g7]?=some (.cells #[.bool a.leaf,k1,v1,d1] 84 (0,0)):=qu z7 _ _ _ _
 have kt:∀ e,e≠84->KeepT e w (S4 g9 (S4 g7 w (.bool a.leaf) k1 v1 d1) (.bool b.leaf) k2 v2 d2):=fun e he=>(z8 z7 _ _ _ _ he).trans (z8 z9' _ _ _ _ he)
 have hot:∀ b',b'≠g7->b'≠g9->(S4 g9 (S4 g7 w (.bool a.leaf) k1 v1 d1) (.bool b.leaf) k2 v2 d2).heap[b']?=w.heap[b']?:=fun b' h1 h2=>(QE _ _ _ _ h2).trans (QE _ _ _ _ h1)
 have hgl:g<w0.heap.size:=qe c0.nxt
 have hcl:gc<w0.heap.size:=xa c0.box
 have hra:∀ b',av.ownBlock=some b'->b'<w0.heap.size:=fun b' hb'=>(xo c0.row b' hb').2
 refine⟨(qb (Qs h.box (Ne.symm n7) (.bool a.leaf) k1 v1 d1)).1,z9',⟨⟨(hot gc (by omega) (by omega)).trans h.ch.box,?_,?_,h.ch.hC⟩,h.al.keepT (kt _ (by decide)) (kt _ (by decide)),⟨fun b' h1 h2 h3=>(hot b' (by omega) (by omega)).trans (h.kc.keep b' h1 h2 h3),h.kc.row,?_,?_⟩,?_,?_,?_,ra.keepT (kt _ (by decide)) (kt _ (by decide)),rb.keepT (kt _ (by decide)) (kt _ (by decide)),l7,l9⟩⟩
 ·refine⟨h.ch.row.1,?_⟩;rcases h.ch.row.2 with hn|⟨b',cap,cur,hv,hgb,hb,r⟩
  ·exact .inl hn
  have:b'<w0.heap.size:=hra b' (by rw[hv];rfl)
  exact .inr ⟨b',cap,cur,hv,hgb,(hot b' (by omega) (by omega)).trans hb,r⟩
 ·have e1:=hot g (by omega) (by omega)
  have:=h.ch.nxt
  simp only[World.cell?] at this |-;rw[e1];exact this
 ·have:=h.kc.size
  simpa[S4] using this
 ·exact qn (qn h.kc.bel (by omega) _ _ _ _) (by omega) _ _ _ _
 ·have:=h.hB
  simpa[S4] using this
 ·exact Qs h7 hne (.bool b.leaf) k2 v2 d2
 exact qu z9' _ _ _ _
theorem qkt (B:Nat) (w:World) (gc g:Nat) (next:Int) (av:Value) (ns:List NV) (n:Nd) (kv vv dv:Value) (ahead:Str) (h:ChI B w gc g next av ns) (hA:AllK w ns) (hB:B<=w.heap.size) (hg:∀ b,av.ownBlock=some b->b≠g) (hgc:gc≠g) (hns:ns.length<=900) (hnx:0<=next/\next<=65536) (hr:RdK w kv vv dv n) (hk0:n.keys.length≠0) (hl:n.keys.length<=1000) (hc:(n.leaf=true/\n.vals.length=n.keys.length)\/(n.leaf=false/\n.kids.length=n.keys.length+1)) (hbd:NBd n) (hsz:244<qp n) (hmid:qX n<n.keys.length):Calls Tryz.prog 81 #[.pointer (some ⟨gc,0,none⟩),nv n kv vv dv,st ahead] w fun e w'=>LdR B gc g next av ns n ahead w w' e:=by
 obtain⟨ka,kc,va,vc,da,dc,rfl,rfl,rfl⟩:=hr.rd.slices;obtain⟨W,hW,DW,bW,sW⟩:=qf w #[.bool n.leaf,.slice ka n.keys.length kc,.slice va n.vals.length vc,.slice da n.kids.length dc] 84;obtain⟨⟨E0,E1,E2,E3⟩,EF⟩:=qb DW;have HL:=qa (L5.mk (n:=n) (w0:=w) (h.to bW) (hA.to bW) (hr.to bW) DW (KCh.of (gc:=gc) (av:=av) bW hB) (xi hB bW.size))
 have KS:=qa (zT W _ _ _ n HL.out.nd.rd)
 have KM:=qa (fun u (hu:RdK u (.slice ka n.keys.length kc) (.slice va n.vals.length vc) (.slice da n.kids.length dc) n)=>qms u n _ _ _ hu hl hc hbd)
 have KT:=qa (fun u (hu:RdK u (.slice ka n.keys.length kc) (.slice va n.vals.length vc) (.slice da n.kids.length dc) n)=>qfk u n _ _ _ (qX n) hu hmid hl hc)
 have hq0:((n.keys.length:Int) == 0)=false:=by simpa using hk0
 have hla:Hid (qC next (ns.map (·.1)) n ahead=([(ahead,next+(ns.length:Int)),(n.keys.getD (qX n) [],next+(ns.length:Int)+1)],ns.map (·.1)++[QT n (qX n),QW n (qX n)])):=by show _=_;unfold qC;rw[xh hk0,xh (by omega),Xe]
 have hg':=qa hg
 have h':=qa h
 have hB':=qa hB
 replace hgc:=qa hgc;replace hk0:=qa hk0;replace hc:=qa hc;replace hmid:=qa hmid;rw[hW] at E0 E1 E2 E3 EF KS;dsimp only[nv] at KS KM KT |-;have hws:wrap64 (qp n)=qp n:=by have:=hbd.self;unfold wrap64;omega
 replace hbd:=qa hbd;have hle:¬ qp n<=244:=by omega
 rw[hws] at KS;clear DW bW h hr hB hA hg hws;go_enter Tryz.func81,Tryz.ntmps81
 go_wp2_with fail
 refine KS.out.mono ?_;rintro e w1 ⟨rfl,b1⟩;rw[<-hW] at b1;clear E0 E1 E2 E3 EF KS;replace hW:=qa hW;have L1:=qa (HL.out.to b1)
 clear b1 HL;generalize qp n=sz at *
 go_upto_region 5 with fail
 go_cut [7,8,9] from 23 to 30 (fun p7 s8 p9 wx=>∃ (g7 g9:Nat) (k1 v1 d1 k2 v2 d2:Value),p7=.pointer (some ⟨g7,0,none⟩)/\p9=.pointer (some ⟨g9,0,none⟩)/\s8=st (n.keys.getD (qX n) [])/\Hid (T5 B gc g next av ns w wx g7 g9 (QT n (qX n)) (QW n (qX n)) k1 v1 d1 k2 v2 d2))
 case first =>
  have b0:Below w1.heap.size w1 w1.drew:=qg w1 1 _
  have LL0:=qa (L1.out.to b0)
  refine Ql (fun w'=>w'.cell? ⟨w.heap.size,0,none⟩=some (.bool n.leaf)/\w'.cell? ⟨w.heap.size,1,none⟩=some (.slice ka n.keys.length kc)/\w'.cell? ⟨w.heap.size,2,none⟩=some (.slice va n.vals.length vc)/\w'.cell? ⟨w.heap.size,3,none⟩=some (.slice da n.kids.length dc)) 12 qG (by simp) ?_
  generalize w1.drew=c0 at *;generalize hmo:qX n=MO at *;replace hmo:=qa hmo;clear b0;refine qc (i:=0) (v:=?_) rfl (by kernel_rfl) (fun _ _ _ _ h=>h) (by kernel_rfl) LL0.out.cells ?_ ?_
  rotate_left
  ·rintro w' ⟨s1,s2,s3,s4⟩;go_simp;try with_reducible rfl
  try simp only[Act.put,qB5]
  refine qc (i:=1) (v:=?_) rfl (by kernel_rfl) (fun _ _ _ _ h=>h) (by kernel_rfl) LL0.out.cells ?_ ?_
  rotate_left
  ·rintro w' ⟨s1,s2,s3,s4⟩;go_simp;try with_reducible rfl
  try simp only[Act.put,qB5]
  refine qce 2 8 9 (by kernel_rfl) ?_ ?_ ?_
  ·refine qi rfl (by kernel_rfl) fun K' hK'=>?_
   refine qk 115 _ _ (by rfl) _ (by simp[Act.eval]) (Tryz.call115 _ _) (KM.out c0 LL0.out.nd) ?_
   rintro e d1 ⟨rfl,b1⟩;have LL1:=qa (LL0.out.to b1)
   refine⟨_,rfl,hK' _ _ LL1.out.cells ?_⟩;clear hK' K';try simp only[Act.put,qB5]
   refine qce 3 8 9 (by kernel_rfl) ?_ ?_ ?_
   ·refine qi rfl (by kernel_rfl) fun K' hK'=>?_
    refine qk 114 _ _ (by rfl) _ (by simp[Act.eval]) (Tryz.call114 _ _) (KT.out d1 LL1.out.nd) ?_
    rintro e d2 ⟨k1,v1,d1,k2,v2,d2,rfl,r1,r2,b2⟩;have LL2:=qa (LL1.out.to b2)
    have PP2:=qa (xb r1 r2)
    refine⟨_,rfl,hK' _ _ LL2.out.cells ?_⟩;clear hK' K';try simp only[Act.put,qB5]
    obtain⟨k1a,k1c,v1a,v1c,d1a,d1c,rfl,rfl,rfl⟩:=r1.rd.slices;obtain⟨k2a,k2c,v2a,v2c,d2a,d2c,rfl,rfl,rfl⟩:=r2.rd.slices;dsimp only[nv];clear r1 r2;refine qc (i:=4) (v:=?_) rfl (by kernel_rfl) (fun _ _ _ _ h=>h) (by kernel_rfl) LL2.out.cells ?_ ?_
    rotate_left
    ·rintro w' ⟨s1,s2,s3,s4⟩;go_simp;try with_reducible rfl
    try simp only[Act.put,qB5]
    refine qc (i:=5) (v:=?_) rfl (by kernel_rfl) (fun _ _ _ _ h=>h) (by kernel_rfl) LL2.out.cells ?_ ?_
    rotate_left
    ·rintro w' ⟨s1,s2,s3,s4⟩;go_simp;try with_reducible rfl
    try simp only[Act.put,qB5]
    refine qc (i:=6) (v:=?_) rfl (by kernel_rfl) (fun _ _ _ _ h=>h) (by kernel_rfl) LL2.out.cells ?_ ?_
    rotate_left
    ·rintro w' ⟨s1,s2,s3,s4⟩;go_simp;try with_reducible rfl
    try simp only[Act.put,qB5]
    refine qc (i:=7) (v:=?_) rfl (by kernel_rfl) (fun _ _ _ _ h=>h) (by kernel_rfl) LL2.out.cells ?_ ?_
    rotate_left
    ·rintro w' ⟨s1,s2,s3,s4⟩;go_simp;try with_reducible rfl
    try simp only[Act.put,qB5]
    refine zM 8 9 (by kernel_rfl) ?_ ?_
    ·refine qi rfl (by kernel_rfl) fun K' hK'=>?_
     go_simp;obtain⟨d3,hc3,D3,b3,s3⟩:=qf d2 #[.bool false,.slice none 0 0,.slice none 0 0,.slice none 0 0] 84;rw[<-hc3];obtain⟨gg7,hgg7⟩:∃ q,q=d2.heap.size:=⟨_,rfl⟩;rw[<-hgg7] at D3;rw[<-hgg7];have LL3:=qa (LL2.out.to b3)
     have PP3:=qa (xb (PP2.out.1.to b3) (PP2.out.2.to b3))
     have lw7:w.heap.size<gg7:=by have:=xa LL2.out.box;have:=hgg7;omega
     refine hK' _ _ LL3.out.cells ?_;clear hK' K';try simp only[Act.put,qB5]
     replace hgg7:=qa hgg7;clear hc3 s3;refine qr 9 (by kernel_rfl) ?_
     refine qi rfl (by kernel_rfl) fun K' hK'=>?_
     go_simp;obtain⟨d4,hc4,D4,b4,s4⟩:=qf d3 #[.bool false,.slice none 0 0,.slice none 0 0,.slice none 0 0] 84;rw[<-hc4];obtain⟨gg9,hgg9⟩:∃ q,q=d3.heap.size:=⟨_,rfl⟩;rw[<-hgg9] at D4;rw[<-hgg9];have LL4:=qa (LL3.out.to b4)
     have Z7_4:=(b4.block _ (xa D3)).trans D3
     have PP4:=qa (xb (PP3.out.1.to b4) (PP3.out.2.to b4))
     have lw9:w.heap.size<gg9:=by have:=xa LL3.out.box;have:=hgg9;omega
     have hne:gg7≠gg9:=by have:=xa D3;omega
     refine hK' _ _ LL4.out.cells ?_;clear hK' K';try simp only[Act.put,qB5]
     replace hgg9:=qa hgg9;clear hc4 s4;have FN:=qa (Zh LL4.out Z7_4 D4 (xZ lw7) (xZ lw9) hB'.out hne (by omega) h'.out PP4.out.1 PP4.out.2)
     have CL:=(qb LL4.out.box).1
     obtain⟨⟨y0,y1,y2,y3⟩,yf⟩:=qb Z7_4;refine qr 10 (by kernel_rfl) ?_
     refine qi rfl (by kernel_rfl) fun K' hK'=>?_
     go_simp;refine hK' _ _ (FN.out.1) ?_;clear hK' K';refine qr 11 (by kernel_rfl) ?_
     refine qi rfl (by kernel_rfl) fun K' hK'=>?_
     go_simp;refine hK' _ _ (FN.out.1) ?_;clear hK' K';refine qT (by kernel_rfl) ?_
     show wpList _ _ _ _ _ _
     obtain⟨⟨x0,x1,x2,x3⟩,xf⟩:=qb FN.out.2.1;dsimp only[List.drop];clear y0 y1 y2 y3 yf CL
     go_wp2_with fail
     go_meet
     exact⟨gg7,gg9,_,_,_,_,_,_,rfl,rfl,rfl,qa FN.out.2.2⟩
    refine qi rfl (by kernel_rfl) fun K' hK'=>?_
    go_simp;obtain⟨d5,hc5,D5,b5,s5⟩:=qf d2 #[.bool false,.slice none 0 0,.slice none 0 0,.slice none 0 0] 84;rw[<-hc5];obtain⟨gg9,hgg9⟩:∃ q,q=d2.heap.size:=⟨_,rfl⟩;rw[<-hgg9] at D5;rw[<-hgg9];have LL5:=qa (LL2.out.to b5)
    have PP5:=qa (xb (PP2.out.1.to b5) (PP2.out.2.to b5))
    have lw9:w.heap.size<gg9:=by have:=xa LL2.out.box;have:=hgg9;omega
    refine hK' _ _ LL5.out.cells ?_;clear hK' K';try simp only[Act.put,qB5]
    replace hgg9:=qa hgg9;clear hc5 s5;refine qr 8 (by kernel_rfl) ?_
    refine qi rfl (by kernel_rfl) fun K' hK'=>?_
    go_simp;obtain⟨d6,hc6,D6,b6,s6⟩:=qf d5 #[.bool false,.slice none 0 0,.slice none 0 0,.slice none 0 0] 84;rw[<-hc6];obtain⟨gg7,hgg7⟩:∃ q,q=d5.heap.size:=⟨_,rfl⟩;rw[<-hgg7] at D6;rw[<-hgg7];have LL6:=qa (LL5.out.to b6)
    have Z9_6:=(b6.block _ (xa D5)).trans D5
    have PP6:=qa (xb (PP5.out.1.to b6) (PP5.out.2.to b6))
    have lw7:w.heap.size<gg7:=by have:=xa LL5.out.box;have:=hgg7;omega
    have hne:gg7≠gg9:=by have:=xa D5;omega
    refine hK' _ _ LL6.out.cells ?_;clear hK' K';try simp only[Act.put,qB5]
    replace hgg7:=qa hgg7;clear hc6 s6;have FN:=qa (Zh LL6.out D6 Z9_6 (xZ lw7) (xZ lw9) hB'.out hne (by omega) h'.out PP6.out.1 PP6.out.2)
    have CL:=(qb LL6.out.box).1
    obtain⟨⟨y0,y1,y2,y3⟩,yf⟩:=qb D6;refine qr 10 (by kernel_rfl) ?_
    refine qi rfl (by kernel_rfl) fun K' hK'=>?_
    go_simp;refine hK' _ _ (FN.out.1) ?_;clear hK' K';refine qr 11 (by kernel_rfl) ?_
    refine qi rfl (by kernel_rfl) fun K' hK'=>?_
    go_simp;refine hK' _ _ (FN.out.1) ?_;clear hK' K';refine qT (by kernel_rfl) ?_
    show wpList _ _ _ _ _ _
    obtain⟨⟨x0,x1,x2,x3⟩,xf⟩:=qb FN.out.2.1;dsimp only[List.drop];clear y0 y1 y2 y3 yf CL
    go_wp2_with fail
    go_meet
    exact⟨gg7,gg9,_,_,_,_,_,_,rfl,rfl,rfl,qa FN.out.2.2⟩
   ·refine qi rfl (by kernel_rfl) fun K' hK'=>?_
    go_simp;obtain⟨d7,hc7,D7,b7,s7⟩:=qf d1 #[.bool false,.slice none 0 0,.slice none 0 0,.slice none 0 0] 84;rw[<-hc7];obtain⟨gg7,hgg7⟩:∃ q,q=d1.heap.size:=⟨_,rfl⟩;rw[<-hgg7] at D7;rw[<-hgg7];have LL7:=qa (LL1.out.to b7)
    have lw7:w.heap.size<gg7:=by have:=xa LL1.out.box;have:=hgg7;omega
    refine hK' _ _ LL7.out.cells ?_;clear hK' K';try simp only[Act.put,qB5]
    replace hgg7:=qa hgg7;clear hc7 s7;refine zM 3 9 (by kernel_rfl) ?_ ?_
    ·refine qi rfl (by kernel_rfl) fun K' hK'=>?_
     refine qk 114 _ _ (by rfl) _ (by simp[Act.eval]) (Tryz.call114 _ _) (KT.out d7 LL7.out.nd) ?_
     rintro e d8 ⟨k1,v1,d1,k2,v2,d2,rfl,r1,r2,b8⟩;have LL8:=qa (LL7.out.to b8)
     have Z7_8:=(b8.block _ (xa D7)).trans D7
     have PP8:=qa (xb r1 r2)
     refine⟨_,rfl,hK' _ _ LL8.out.cells ?_⟩;clear hK' K';try simp only[Act.put,qB5]
     obtain⟨k1a,k1c,v1a,v1c,d1a,d1c,rfl,rfl,rfl⟩:=r1.rd.slices;obtain⟨k2a,k2c,v2a,v2c,d2a,d2c,rfl,rfl,rfl⟩:=r2.rd.slices;dsimp only[nv];clear r1 r2;refine qc (i:=4) (v:=?_) rfl (by kernel_rfl) (fun _ _ _ _ h=>h) (by kernel_rfl) LL8.out.cells ?_ ?_
     rotate_left
     ·rintro w' ⟨s1,s2,s3,s4⟩;go_simp;try with_reducible rfl
     try simp only[Act.put,qB5]
     refine qc (i:=5) (v:=?_) rfl (by kernel_rfl) (fun _ _ _ _ h=>h) (by kernel_rfl) LL8.out.cells ?_ ?_
     rotate_left
     ·rintro w' ⟨s1,s2,s3,s4⟩;go_simp;try with_reducible rfl
     try simp only[Act.put,qB5]
     refine qc (i:=6) (v:=?_) rfl (by kernel_rfl) (fun _ _ _ _ h=>h) (by kernel_rfl) LL8.out.cells ?_ ?_
     rotate_left
     ·rintro w' ⟨s1,s2,s3,s4⟩;go_simp;try with_reducible rfl
     try simp only[Act.put,qB5]
     refine qc (i:=7) (v:=?_) rfl (by kernel_rfl) (fun _ _ _ _ h=>h) (by kernel_rfl) LL8.out.cells ?_ ?_
     rotate_left
     ·rintro w' ⟨s1,s2,s3,s4⟩;go_simp;try with_reducible rfl
     try simp only[Act.put,qB5]
     refine qr 9 (by kernel_rfl) ?_
     refine qi rfl (by kernel_rfl) fun K' hK'=>?_
     go_simp;obtain⟨d9,hc9,D9,b9,s9⟩:=qf d8 #[.bool false,.slice none 0 0,.slice none 0 0,.slice none 0 0] 84;rw[<-hc9];obtain⟨gg9,hgg9⟩:∃ q,q=d8.heap.size:=⟨_,rfl⟩;rw[<-hgg9] at D9;rw[<-hgg9];have LL9:=qa (LL8.out.to b9)
     have Z7_9:=(b9.block _ (xa Z7_8)).trans Z7_8
     have PP9:=qa (xb (PP8.out.1.to b9) (PP8.out.2.to b9))
     have lw9:w.heap.size<gg9:=by have:=xa LL8.out.box;have:=hgg9;omega
     have hne:gg7≠gg9:=by have:=xa Z7_8;omega
     refine hK' _ _ LL9.out.cells ?_;clear hK' K';try simp only[Act.put,qB5]
     replace hgg9:=qa hgg9;clear hc9 s9;have FN:=qa (Zh LL9.out Z7_9 D9 (xZ lw7) (xZ lw9) hB'.out hne (by omega) h'.out PP9.out.1 PP9.out.2)
     have CL:=(qb LL9.out.box).1
     obtain⟨⟨y0,y1,y2,y3⟩,yf⟩:=qb Z7_9;refine qr 10 (by kernel_rfl) ?_
     refine qi rfl (by kernel_rfl) fun K' hK'=>?_
     go_simp;refine hK' _ _ (FN.out.1) ?_;clear hK' K';refine qr 11 (by kernel_rfl) ?_
     refine qi rfl (by kernel_rfl) fun K' hK'=>?_
     go_simp;refine hK' _ _ (FN.out.1) ?_;clear hK' K';refine qT (by kernel_rfl) ?_
     show wpList _ _ _ _ _ _
     obtain⟨⟨x0,x1,x2,x3⟩,xf⟩:=qb FN.out.2.1;dsimp only[List.drop];clear y0 y1 y2 y3 yf CL
     go_wp2_with fail
     go_meet
     exact⟨gg7,gg9,_,_,_,_,_,_,rfl,rfl,rfl,qa FN.out.2.2⟩
    refine qi rfl (by kernel_rfl) fun K' hK'=>?_
    go_simp;obtain⟨d10,hc10,D10,b10,s10⟩:=qf d7 #[.bool false,.slice none 0 0,.slice none 0 0,.slice none 0 0] 84;rw[<-hc10];obtain⟨gg9,hgg9⟩:∃ q,q=d7.heap.size:=⟨_,rfl⟩;rw[<-hgg9] at D10;rw[<-hgg9];have LL10:=qa (LL7.out.to b10)
    have Z7_10:=(b10.block _ (xa D7)).trans D7
    have lw9:w.heap.size<gg9:=by have:=xa LL7.out.box;have:=hgg9;omega
    have hne:gg7≠gg9:=by have:=xa D7;omega
    refine hK' _ _ LL10.out.cells ?_;clear hK' K';try simp only[Act.put,qB5]
    replace hgg9:=qa hgg9;clear hc10 s10;refine qr 3 (by kernel_rfl) ?_
    refine qi rfl (by kernel_rfl) fun K' hK'=>?_
    refine qk 114 _ _ (by rfl) _ (by simp[Act.eval]) (Tryz.call114 _ _) (KT.out d10 LL10.out.nd) ?_
    rintro e d11 ⟨k1,v1,d1,k2,v2,d2,rfl,r1,r2,b11⟩;have LL11:=qa (LL10.out.to b11)
    have Z7_11:=(b11.block _ (xa Z7_10)).trans Z7_10
    have Z9_11:=(b11.block _ (xa D10)).trans D10
    have PP11:=qa (xb r1 r2)
    refine⟨_,rfl,hK' _ _ LL11.out.cells ?_⟩;clear hK' K';try simp only[Act.put,qB5]
    obtain⟨k1a,k1c,v1a,v1c,d1a,d1c,rfl,rfl,rfl⟩:=r1.rd.slices;obtain⟨k2a,k2c,v2a,v2c,d2a,d2c,rfl,rfl,rfl⟩:=r2.rd.slices;dsimp only[nv];clear r1 r2;refine qc (i:=4) (v:=?_) rfl (by kernel_rfl) (fun _ _ _ _ h=>h) (by kernel_rfl) LL11.out.cells ?_ ?_
    rotate_left
    ·rintro w' ⟨s1,s2,s3,s4⟩;go_simp;try with_reducible rfl
    try simp only[Act.put,qB5]
    refine qc (i:=5) (v:=?_) rfl (by kernel_rfl) (fun _ _ _ _ h=>h) (by kernel_rfl) LL11.out.cells ?_ ?_
    rotate_left
    ·rintro w' ⟨s1,s2,s3,s4⟩;go_simp;try with_reducible rfl
    try simp only[Act.put,qB5]
    refine qc (i:=6) (v:=?_) rfl (by kernel_rfl) (fun _ _ _ _ h=>h) (by kernel_rfl) LL11.out.cells ?_ ?_
    rotate_left
    ·rintro w' ⟨s1,s2,s3,s4⟩;go_simp;try with_reducible rfl
    try simp only[Act.put,qB5]
    refine qc (i:=7) (v:=?_) rfl (by kernel_rfl) (fun _ _ _ _ h=>h) (by kernel_rfl) LL11.out.cells ?_ ?_
    rotate_left
    ·rintro w' ⟨s1,s2,s3,s4⟩;go_simp;try with_reducible rfl
    try simp only[Act.put,qB5]
    have FN:=qa (Zh LL11.out Z7_11 Z9_11 (xZ lw7) (xZ lw9) hB'.out hne (by omega) h'.out PP11.out.1 PP11.out.2)
    have CL:=(qb LL11.out.box).1
    obtain⟨⟨y0,y1,y2,y3⟩,yf⟩:=qb Z7_11;refine qr 10 (by kernel_rfl) ?_
    refine qi rfl (by kernel_rfl) fun K' hK'=>?_
    go_simp;refine hK' _ _ (FN.out.1) ?_;clear hK' K';refine qr 11 (by kernel_rfl) ?_
    refine qi rfl (by kernel_rfl) fun K' hK'=>?_
    go_simp;refine hK' _ _ (FN.out.1) ?_;clear hK' K';refine qT (by kernel_rfl) ?_
    show wpList _ _ _ _ _ _
    obtain⟨⟨x0,x1,x2,x3⟩,xf⟩:=qb FN.out.2.1;dsimp only[List.drop];clear y0 y1 y2 y3 yf CL
    go_wp2_with fail
    go_meet
    exact⟨gg7,gg9,_,_,_,_,_,_,rfl,rfl,rfl,qa FN.out.2.2⟩
   refine qi rfl (by kernel_rfl) fun K' hK'=>?_
   go_simp;obtain⟨d12,hc12,D12,b12,s12⟩:=qf d1 #[.bool false,.slice none 0 0,.slice none 0 0,.slice none 0 0] 84;rw[<-hc12];obtain⟨gg9,hgg9⟩:∃ q,q=d1.heap.size:=⟨_,rfl⟩;rw[<-hgg9] at D12;rw[<-hgg9];have LL12:=qa (LL1.out.to b12)
   have lw9:w.heap.size<gg9:=by have:=xa LL1.out.box;have:=hgg9;omega
   refine hK' _ _ LL12.out.cells ?_;clear hK' K';try simp only[Act.put,qB5]
   replace hgg9:=qa hgg9;clear hc12 s12;refine zM 3 8 (by kernel_rfl) ?_ ?_
   ·refine qi rfl (by kernel_rfl) fun K' hK'=>?_
    refine qk 114 _ _ (by rfl) _ (by simp[Act.eval]) (Tryz.call114 _ _) (KT.out d12 LL12.out.nd) ?_
    rintro e d13 ⟨k1,v1,d1,k2,v2,d2,rfl,r1,r2,b13⟩;have LL13:=qa (LL12.out.to b13)
    have Z9_13:=(b13.block _ (xa D12)).trans D12
    have PP13:=qa (xb r1 r2)
    refine⟨_,rfl,hK' _ _ LL13.out.cells ?_⟩;clear hK' K';try simp only[Act.put,qB5]
    obtain⟨k1a,k1c,v1a,v1c,d1a,d1c,rfl,rfl,rfl⟩:=r1.rd.slices;obtain⟨k2a,k2c,v2a,v2c,d2a,d2c,rfl,rfl,rfl⟩:=r2.rd.slices;dsimp only[nv];clear r1 r2;refine qc (i:=4) (v:=?_) rfl (by kernel_rfl) (fun _ _ _ _ h=>h) (by kernel_rfl) LL13.out.cells ?_ ?_
    rotate_left
    ·rintro w' ⟨s1,s2,s3,s4⟩;go_simp;try with_reducible rfl
    try simp only[Act.put,qB5]
    refine qc (i:=5) (v:=?_) rfl (by kernel_rfl) (fun _ _ _ _ h=>h) (by kernel_rfl) LL13.out.cells ?_ ?_
    rotate_left
    ·rintro w' ⟨s1,s2,s3,s4⟩;go_simp;try with_reducible rfl
    try simp only[Act.put,qB5]
    refine qc (i:=6) (v:=?_) rfl (by kernel_rfl) (fun _ _ _ _ h=>h) (by kernel_rfl) LL13.out.cells ?_ ?_
    rotate_left
    ·rintro w' ⟨s1,s2,s3,s4⟩;go_simp;try with_reducible rfl
    try simp only[Act.put,qB5]
    refine qc (i:=7) (v:=?_) rfl (by kernel_rfl) (fun _ _ _ _ h=>h) (by kernel_rfl) LL13.out.cells ?_ ?_
    rotate_left
    ·rintro w' ⟨s1,s2,s3,s4⟩;go_simp;try with_reducible rfl
    try simp only[Act.put,qB5]
    refine qr 8 (by kernel_rfl) ?_
    refine qi rfl (by kernel_rfl) fun K' hK'=>?_
    go_simp;obtain⟨d14,hc14,D14,b14,s14⟩:=qf d13 #[.bool false,.slice none 0 0,.slice none 0 0,.slice none 0 0] 84;rw[<-hc14];obtain⟨gg7,hgg7⟩:∃ q,q=d13.heap.size:=⟨_,rfl⟩;rw[<-hgg7] at D14;rw[<-hgg7];have LL14:=qa (LL13.out.to b14)
    have Z9_14:=(b14.block _ (xa Z9_13)).trans Z9_13
    have PP14:=qa (xb (PP13.out.1.to b14) (PP13.out.2.to b14))
    have lw7:w.heap.size<gg7:=by have:=xa LL13.out.box;have:=hgg7;omega
    have hne:gg7≠gg9:=by have:=xa Z9_13;omega
    refine hK' _ _ LL14.out.cells ?_;clear hK' K';try simp only[Act.put,qB5]
    replace hgg7:=qa hgg7;clear hc14 s14;have FN:=qa (Zh LL14.out D14 Z9_14 (xZ lw7) (xZ lw9) hB'.out hne (by omega) h'.out PP14.out.1 PP14.out.2)
    have CL:=(qb LL14.out.box).1
    obtain⟨⟨y0,y1,y2,y3⟩,yf⟩:=qb D14;refine qr 10 (by kernel_rfl) ?_
    refine qi rfl (by kernel_rfl) fun K' hK'=>?_
    go_simp;refine hK' _ _ (FN.out.1) ?_;clear hK' K';refine qr 11 (by kernel_rfl) ?_
    refine qi rfl (by kernel_rfl) fun K' hK'=>?_
    go_simp;refine hK' _ _ (FN.out.1) ?_;clear hK' K';refine qT (by kernel_rfl) ?_
    show wpList _ _ _ _ _ _
    obtain⟨⟨x0,x1,x2,x3⟩,xf⟩:=qb FN.out.2.1;dsimp only[List.drop];clear y0 y1 y2 y3 yf CL
    go_wp2_with fail
    go_meet
    exact⟨gg7,gg9,_,_,_,_,_,_,rfl,rfl,rfl,qa FN.out.2.2⟩
   refine qi rfl (by kernel_rfl) fun K' hK'=>?_
   go_simp;obtain⟨d15,hc15,D15,b15,s15⟩:=qf d12 #[.bool false,.slice none 0 0,.slice none 0 0,.slice none 0 0] 84;rw[<-hc15];obtain⟨gg7,hgg7⟩:∃ q,q=d12.heap.size:=⟨_,rfl⟩;rw[<-hgg7] at D15;rw[<-hgg7];have LL15:=qa (LL12.out.to b15)
   have Z9_15:=(b15.block _ (xa D12)).trans D12
   have lw7:w.heap.size<gg7:=by have:=xa LL12.out.box;have:=hgg7;omega
   have hne:gg7≠gg9:=by have:=xa D12;omega
   refine hK' _ _ LL15.out.cells ?_;clear hK' K';try simp only[Act.put,qB5]
   replace hgg7:=qa hgg7;clear hc15 s15;refine qr 3 (by kernel_rfl) ?_
   refine qi rfl (by kernel_rfl) fun K' hK'=>?_
   refine qk 114 _ _ (by rfl) _ (by simp[Act.eval]) (Tryz.call114 _ _) (KT.out d15 LL15.out.nd) ?_
   rintro e d16 ⟨k1,v1,d1,k2,v2,d2,rfl,r1,r2,b16⟩;have LL16:=qa (LL15.out.to b16)
   have Z9_16:=(b16.block _ (xa Z9_15)).trans Z9_15
   have Z7_16:=(b16.block _ (xa D15)).trans D15
   have PP16:=qa (xb r1 r2)
   refine⟨_,rfl,hK' _ _ LL16.out.cells ?_⟩;clear hK' K';try simp only[Act.put,qB5]
   obtain⟨k1a,k1c,v1a,v1c,d1a,d1c,rfl,rfl,rfl⟩:=r1.rd.slices;obtain⟨k2a,k2c,v2a,v2c,d2a,d2c,rfl,rfl,rfl⟩:=r2.rd.slices;dsimp only[nv];clear r1 r2;refine qc (i:=4) (v:=?_) rfl (by kernel_rfl) (fun _ _ _ _ h=>h) (by kernel_rfl) LL16.out.cells ?_ ?_
   rotate_left
   ·rintro w' ⟨s1,s2,s3,s4⟩;go_simp;try with_reducible rfl
   try simp only[Act.put,qB5]
   refine qc (i:=5) (v:=?_) rfl (by kernel_rfl) (fun _ _ _ _ h=>h) (by kernel_rfl) LL16.out.cells ?_ ?_
   rotate_left
   ·rintro w' ⟨s1,s2,s3,s4⟩;go_simp;try with_reducible rfl
   try simp only[Act.put,qB5]
   refine qc (i:=6) (v:=?_) rfl (by kernel_rfl) (fun _ _ _ _ h=>h) (by kernel_rfl) LL16.out.cells ?_ ?_
   rotate_left
   ·rintro w' ⟨s1,s2,s3,s4⟩;go_simp;try with_reducible rfl
   try simp only[Act.put,qB5]
   refine qc (i:=7) (v:=?_) rfl (by kernel_rfl) (fun _ _ _ _ h=>h) (by kernel_rfl) LL16.out.cells ?_ ?_
   rotate_left
   ·rintro w' ⟨s1,s2,s3,s4⟩;go_simp;try with_reducible rfl
   try simp only[Act.put,qB5]
   have FN:=qa (Zh LL16.out Z7_16 Z9_16 (xZ lw7) (xZ lw9) hB'.out hne (by omega) h'.out PP16.out.1 PP16.out.2)
   have CL:=(qb LL16.out.box).1
   obtain⟨⟨y0,y1,y2,y3⟩,yf⟩:=qb Z7_16;refine qr 10 (by kernel_rfl) ?_
   refine qi rfl (by kernel_rfl) fun K' hK'=>?_
   go_simp;refine hK' _ _ (FN.out.1) ?_;clear hK' K';refine qr 11 (by kernel_rfl) ?_
   refine qi rfl (by kernel_rfl) fun K' hK'=>?_
   go_simp;refine hK' _ _ (FN.out.1) ?_;clear hK' K';refine qT (by kernel_rfl) ?_
   show wpList _ _ _ _ _ _
   obtain⟨⟨x0,x1,x2,x3⟩,xf⟩:=qb FN.out.2.1;dsimp only[List.drop];clear y0 y1 y2 y3 yf CL
   go_wp2_with fail
   go_meet
   exact⟨gg7,gg9,_,_,_,_,_,_,rfl,rfl,rfl,qa FN.out.2.2⟩
  ·refine qi rfl (by kernel_rfl) fun K' hK'=>?_
   go_simp;obtain⟨d17,hc17,D17,b17,s17⟩:=qf c0 #[.bool false,.slice none 0 0,.slice none 0 0,.slice none 0 0] 84;rw[<-hc17];obtain⟨gg7,hgg7⟩:∃ q,q=c0.heap.size:=⟨_,rfl⟩;rw[<-hgg7] at D17;rw[<-hgg7];have LL17:=qa (LL0.out.to b17)
   have lw7:w.heap.size<gg7:=by have:=xa LL0.out.box;have:=hgg7;omega
   refine hK' _ _ LL17.out.cells ?_;clear hK' K';try simp only[Act.put,qB5]
   replace hgg7:=qa hgg7;clear hc17 s17;refine zM 2 9 (by kernel_rfl) ?_ ?_
   ·refine qi rfl (by kernel_rfl) fun K' hK'=>?_
    refine qk 115 _ _ (by rfl) _ (by simp[Act.eval]) (Tryz.call115 _ _) (KM.out d17 LL17.out.nd) ?_
    rintro e d18 ⟨rfl,b18⟩;have LL18:=qa (LL17.out.to b18)
    have Z7_18:=(b18.block _ (xa D17)).trans D17
    refine⟨_,rfl,hK' _ _ LL18.out.cells ?_⟩;clear hK' K';try simp only[Act.put,qB5]
    refine zM 3 9 (by kernel_rfl) ?_ ?_
    ·refine qi rfl (by kernel_rfl) fun K' hK'=>?_
     refine qk 114 _ _ (by rfl) _ (by simp[Act.eval]) (Tryz.call114 _ _) (KT.out d18 LL18.out.nd) ?_
     rintro e d19 ⟨k1,v1,d1,k2,v2,d2,rfl,r1,r2,b19⟩;have LL19:=qa (LL18.out.to b19)
     have Z7_19:=(b19.block _ (xa Z7_18)).trans Z7_18
     have PP19:=qa (xb r1 r2)
     refine⟨_,rfl,hK' _ _ LL19.out.cells ?_⟩;clear hK' K';try simp only[Act.put,qB5]
     obtain⟨k1a,k1c,v1a,v1c,d1a,d1c,rfl,rfl,rfl⟩:=r1.rd.slices;obtain⟨k2a,k2c,v2a,v2c,d2a,d2c,rfl,rfl,rfl⟩:=r2.rd.slices;dsimp only[nv];clear r1 r2;refine qc (i:=4) (v:=?_) rfl (by kernel_rfl) (fun _ _ _ _ h=>h) (by kernel_rfl) LL19.out.cells ?_ ?_
     rotate_left
     ·rintro w' ⟨s1,s2,s3,s4⟩;go_simp;try with_reducible rfl
     try simp only[Act.put,qB5]
     refine qc (i:=5) (v:=?_) rfl (by kernel_rfl) (fun _ _ _ _ h=>h) (by kernel_rfl) LL19.out.cells ?_ ?_
     rotate_left
     ·rintro w' ⟨s1,s2,s3,s4⟩;go_simp;try with_reducible rfl
     try simp only[Act.put,qB5]
     refine qc (i:=6) (v:=?_) rfl (by kernel_rfl) (fun _ _ _ _ h=>h) (by kernel_rfl) LL19.out.cells ?_ ?_
     rotate_left
     ·rintro w' ⟨s1,s2,s3,s4⟩;go_simp;try with_reducible rfl
     try simp only[Act.put,qB5]
     refine qc (i:=7) (v:=?_) rfl (by kernel_rfl) (fun _ _ _ _ h=>h) (by kernel_rfl) LL19.out.cells ?_ ?_
     rotate_left
     ·rintro w' ⟨s1,s2,s3,s4⟩;go_simp;try with_reducible rfl
     try simp only[Act.put,qB5]
     refine qr 9 (by kernel_rfl) ?_
     refine qi rfl (by kernel_rfl) fun K' hK'=>?_
     go_simp;obtain⟨d20,hc20,D20,b20,s20⟩:=qf d19 #[.bool false,.slice none 0 0,.slice none 0 0,.slice none 0 0] 84;rw[<-hc20];obtain⟨gg9,hgg9⟩:∃ q,q=d19.heap.size:=⟨_,rfl⟩;rw[<-hgg9] at D20;rw[<-hgg9];have LL20:=qa (LL19.out.to b20)
     have Z7_20:=(b20.block _ (xa Z7_19)).trans Z7_19
     have PP20:=qa (xb (PP19.out.1.to b20) (PP19.out.2.to b20))
     have lw9:w.heap.size<gg9:=by have:=xa LL19.out.box;have:=hgg9;omega
     have hne:gg7≠gg9:=by have:=xa Z7_19;omega
     refine hK' _ _ LL20.out.cells ?_;clear hK' K';try simp only[Act.put,qB5]
     replace hgg9:=qa hgg9;clear hc20 s20;have FN:=qa (Zh LL20.out Z7_20 D20 (xZ lw7) (xZ lw9) hB'.out hne (by omega) h'.out PP20.out.1 PP20.out.2)
     have CL:=(qb LL20.out.box).1
     obtain⟨⟨y0,y1,y2,y3⟩,yf⟩:=qb Z7_20;refine qr 10 (by kernel_rfl) ?_
     refine qi rfl (by kernel_rfl) fun K' hK'=>?_
     go_simp;refine hK' _ _ (FN.out.1) ?_;clear hK' K';refine qr 11 (by kernel_rfl) ?_
     refine qi rfl (by kernel_rfl) fun K' hK'=>?_
     go_simp;refine hK' _ _ (FN.out.1) ?_;clear hK' K';refine qT (by kernel_rfl) ?_
     show wpList _ _ _ _ _ _
     obtain⟨⟨x0,x1,x2,x3⟩,xf⟩:=qb FN.out.2.1;dsimp only[List.drop];clear y0 y1 y2 y3 yf CL
     go_wp2_with fail
     go_meet
     exact⟨gg7,gg9,_,_,_,_,_,_,rfl,rfl,rfl,qa FN.out.2.2⟩
    refine qi rfl (by kernel_rfl) fun K' hK'=>?_
    go_simp;obtain⟨d21,hc21,D21,b21,s21⟩:=qf d18 #[.bool false,.slice none 0 0,.slice none 0 0,.slice none 0 0] 84;rw[<-hc21];obtain⟨gg9,hgg9⟩:∃ q,q=d18.heap.size:=⟨_,rfl⟩;rw[<-hgg9] at D21;rw[<-hgg9];have LL21:=qa (LL18.out.to b21)
    have Z7_21:=(b21.block _ (xa Z7_18)).trans Z7_18
    have lw9:w.heap.size<gg9:=by have:=xa LL18.out.box;have:=hgg9;omega
    have hne:gg7≠gg9:=by have:=xa Z7_18;omega
    refine hK' _ _ LL21.out.cells ?_;clear hK' K';try simp only[Act.put,qB5]
    replace hgg9:=qa hgg9;clear hc21 s21;refine qr 3 (by kernel_rfl) ?_
    refine qi rfl (by kernel_rfl) fun K' hK'=>?_
    refine qk 114 _ _ (by rfl) _ (by simp[Act.eval]) (Tryz.call114 _ _) (KT.out d21 LL21.out.nd) ?_
    rintro e d22 ⟨k1,v1,d1,k2,v2,d2,rfl,r1,r2,b22⟩;have LL22:=qa (LL21.out.to b22)
    have Z7_22:=(b22.block _ (xa Z7_21)).trans Z7_21
    have Z9_22:=(b22.block _ (xa D21)).trans D21
    have PP22:=qa (xb r1 r2)
    refine⟨_,rfl,hK' _ _ LL22.out.cells ?_⟩;clear hK' K';try simp only[Act.put,qB5]
    obtain⟨k1a,k1c,v1a,v1c,d1a,d1c,rfl,rfl,rfl⟩:=r1.rd.slices;obtain⟨k2a,k2c,v2a,v2c,d2a,d2c,rfl,rfl,rfl⟩:=r2.rd.slices;dsimp only[nv];clear r1 r2;refine qc (i:=4) (v:=?_) rfl (by kernel_rfl) (fun _ _ _ _ h=>h) (by kernel_rfl) LL22.out.cells ?_ ?_
    rotate_left
    ·rintro w' ⟨s1,s2,s3,s4⟩;go_simp;try with_reducible rfl
    try simp only[Act.put,qB5]
    refine qc (i:=5) (v:=?_) rfl (by kernel_rfl) (fun _ _ _ _ h=>h) (by kernel_rfl) LL22.out.cells ?_ ?_
    rotate_left
    ·rintro w' ⟨s1,s2,s3,s4⟩;go_simp;try with_reducible rfl
    try simp only[Act.put,qB5]
    refine qc (i:=6) (v:=?_) rfl (by kernel_rfl) (fun _ _ _ _ h=>h) (by kernel_rfl) LL22.out.cells ?_ ?_
    rotate_left
    ·rintro w' ⟨s1,s2,s3,s4⟩;go_simp;try with_reducible rfl
    try simp only[Act.put,qB5]
    refine qc (i:=7) (v:=?_) rfl (by kernel_rfl) (fun _ _ _ _ h=>h) (by kernel_rfl) LL22.out.cells ?_ ?_
    rotate_left
    ·rintro w' ⟨s1,s2,s3,s4⟩;go_simp;try with_reducible rfl
    try simp only[Act.put,qB5]
    have FN:=qa (Zh LL22.out Z7_22 Z9_22 (xZ lw7) (xZ lw9) hB'.out hne (by omega) h'.out PP22.out.1 PP22.out.2)
    have CL:=(qb LL22.out.box).1
    obtain⟨⟨y0,y1,y2,y3⟩,yf⟩:=qb Z7_22;refine qr 10 (by kernel_rfl) ?_
    refine qi rfl (by kernel_rfl) fun K' hK'=>?_
    go_simp;refine hK' _ _ (FN.out.1) ?_;clear hK' K';refine qr 11 (by kernel_rfl) ?_
    refine qi rfl (by kernel_rfl) fun K' hK'=>?_
    go_simp;refine hK' _ _ (FN.out.1) ?_;clear hK' K';refine qT (by kernel_rfl) ?_
    show wpList _ _ _ _ _ _
    obtain⟨⟨x0,x1,x2,x3⟩,xf⟩:=qb FN.out.2.1;dsimp only[List.drop];clear y0 y1 y2 y3 yf CL
    go_wp2_with fail
    go_meet
    exact⟨gg7,gg9,_,_,_,_,_,_,rfl,rfl,rfl,qa FN.out.2.2⟩
   refine qi rfl (by kernel_rfl) fun K' hK'=>?_
   go_simp;obtain⟨d23,hc23,D23,b23,s23⟩:=qf d17 #[.bool false,.slice none 0 0,.slice none 0 0,.slice none 0 0] 84;rw[<-hc23];obtain⟨gg9,hgg9⟩:∃ q,q=d17.heap.size:=⟨_,rfl⟩;rw[<-hgg9] at D23;rw[<-hgg9];have LL23:=qa (LL17.out.to b23)
   have Z7_23:=(b23.block _ (xa D17)).trans D17
   have lw9:w.heap.size<gg9:=by have:=xa LL17.out.box;have:=hgg9;omega
   have hne:gg7≠gg9:=by have:=xa D17;omega
   refine hK' _ _ LL23.out.cells ?_;clear hK' K';try simp only[Act.put,qB5]
   replace hgg9:=qa hgg9;clear hc23 s23;refine qr 2 (by kernel_rfl) ?_
   refine qi rfl (by kernel_rfl) fun K' hK'=>?_
   refine qk 115 _ _ (by rfl) _ (by simp[Act.eval]) (Tryz.call115 _ _) (KM.out d23 LL23.out.nd) ?_
   rintro e d24 ⟨rfl,b24⟩;have LL24:=qa (LL23.out.to b24)
   have Z7_24:=(b24.block _ (xa Z7_23)).trans Z7_23
   have Z9_24:=(b24.block _ (xa D23)).trans D23
   refine⟨_,rfl,hK' _ _ LL24.out.cells ?_⟩;clear hK' K';try simp only[Act.put,qB5]
   refine qr 3 (by kernel_rfl) ?_
   refine qi rfl (by kernel_rfl) fun K' hK'=>?_
   refine qk 114 _ _ (by rfl) _ (by simp[Act.eval]) (Tryz.call114 _ _) (KT.out d24 LL24.out.nd) ?_
   rintro e d25 ⟨k1,v1,d1,k2,v2,d2,rfl,r1,r2,b25⟩;have LL25:=qa (LL24.out.to b25)
   have Z7_25:=(b25.block _ (xa Z7_24)).trans Z7_24
   have Z9_25:=(b25.block _ (xa Z9_24)).trans Z9_24
   have PP25:=qa (xb r1 r2)
   refine⟨_,rfl,hK' _ _ LL25.out.cells ?_⟩;clear hK' K';try simp only[Act.put,qB5]
   obtain⟨k1a,k1c,v1a,v1c,d1a,d1c,rfl,rfl,rfl⟩:=r1.rd.slices;obtain⟨k2a,k2c,v2a,v2c,d2a,d2c,rfl,rfl,rfl⟩:=r2.rd.slices;dsimp only[nv];clear r1 r2;refine qc (i:=4) (v:=?_) rfl (by kernel_rfl) (fun _ _ _ _ h=>h) (by kernel_rfl) LL25.out.cells ?_ ?_
   rotate_left
   ·rintro w' ⟨s1,s2,s3,s4⟩;go_simp;try with_reducible rfl
   try simp only[Act.put,qB5]
   refine qc (i:=5) (v:=?_) rfl (by kernel_rfl) (fun _ _ _ _ h=>h) (by kernel_rfl) LL25.out.cells ?_ ?_
   rotate_left
   ·rintro w' ⟨s1,s2,s3,s4⟩;go_simp;try with_reducible rfl
   try simp only[Act.put,qB5]
   refine qc (i:=6) (v:=?_) rfl (by kernel_rfl) (fun _ _ _ _ h=>h) (by kernel_rfl) LL25.out.cells ?_ ?_
   rotate_left
   ·rintro w' ⟨s1,s2,s3,s4⟩;go_simp;try with_reducible rfl
   try simp only[Act.put,qB5]
   refine qc (i:=7) (v:=?_) rfl (by kernel_rfl) (fun _ _ _ _ h=>h) (by kernel_rfl) LL25.out.cells ?_ ?_
   rotate_left
   ·rintro w' ⟨s1,s2,s3,s4⟩;go_simp;try with_reducible rfl
   try simp only[Act.put,qB5]
   have FN:=qa (Zh LL25.out Z7_25 Z9_25 (xZ lw7) (xZ lw9) hB'.out hne (by omega) h'.out PP25.out.1 PP25.out.2)
   have CL:=(qb LL25.out.box).1
   obtain⟨⟨y0,y1,y2,y3⟩,yf⟩:=qb Z7_25;refine qr 10 (by kernel_rfl) ?_
   refine qi rfl (by kernel_rfl) fun K' hK'=>?_
   go_simp;refine hK' _ _ (FN.out.1) ?_;clear hK' K';refine qr 11 (by kernel_rfl) ?_
   refine qi rfl (by kernel_rfl) fun K' hK'=>?_
   go_simp;refine hK' _ _ (FN.out.1) ?_;clear hK' K';refine qT (by kernel_rfl) ?_
   show wpList _ _ _ _ _ _
   obtain⟨⟨x0,x1,x2,x3⟩,xf⟩:=qb FN.out.2.1;dsimp only[List.drop];clear y0 y1 y2 y3 yf CL
   go_wp2_with fail
   go_meet
   exact⟨gg7,gg9,_,_,_,_,_,_,rfl,rfl,rfl,qa FN.out.2.2⟩
  refine qi rfl (by kernel_rfl) fun K' hK'=>?_
  go_simp;obtain⟨d26,hc26,D26,b26,s26⟩:=qf c0 #[.bool false,.slice none 0 0,.slice none 0 0,.slice none 0 0] 84;rw[<-hc26];obtain⟨gg9,hgg9⟩:∃ q,q=c0.heap.size:=⟨_,rfl⟩;rw[<-hgg9] at D26;rw[<-hgg9];have LL26:=qa (LL0.out.to b26)
  have lw9:w.heap.size<gg9:=by have:=xa LL0.out.box;have:=hgg9;omega
  refine hK' _ _ LL26.out.cells ?_;clear hK' K';try simp only[Act.put,qB5]
  replace hgg9:=qa hgg9;clear hc26 s26;refine zM 2 8 (by kernel_rfl) ?_ ?_
  ·refine qi rfl (by kernel_rfl) fun K' hK'=>?_
   refine qk 115 _ _ (by rfl) _ (by simp[Act.eval]) (Tryz.call115 _ _) (KM.out d26 LL26.out.nd) ?_
   rintro e d27 ⟨rfl,b27⟩;have LL27:=qa (LL26.out.to b27)
   have Z9_27:=(b27.block _ (xa D26)).trans D26
   refine⟨_,rfl,hK' _ _ LL27.out.cells ?_⟩;clear hK' K';try simp only[Act.put,qB5]
   refine zM 3 8 (by kernel_rfl) ?_ ?_
   ·refine qi rfl (by kernel_rfl) fun K' hK'=>?_
    refine qk 114 _ _ (by rfl) _ (by simp[Act.eval]) (Tryz.call114 _ _) (KT.out d27 LL27.out.nd) ?_
    rintro e d28 ⟨k1,v1,d1,k2,v2,d2,rfl,r1,r2,b28⟩;have LL28:=qa (LL27.out.to b28)
    have Z9_28:=(b28.block _ (xa Z9_27)).trans Z9_27
    have PP28:=qa (xb r1 r2)
    refine⟨_,rfl,hK' _ _ LL28.out.cells ?_⟩;clear hK' K';try simp only[Act.put,qB5]
    obtain⟨k1a,k1c,v1a,v1c,d1a,d1c,rfl,rfl,rfl⟩:=r1.rd.slices;obtain⟨k2a,k2c,v2a,v2c,d2a,d2c,rfl,rfl,rfl⟩:=r2.rd.slices;dsimp only[nv];clear r1 r2;refine qc (i:=4) (v:=?_) rfl (by kernel_rfl) (fun _ _ _ _ h=>h) (by kernel_rfl) LL28.out.cells ?_ ?_
    rotate_left
    ·rintro w' ⟨s1,s2,s3,s4⟩;go_simp;try with_reducible rfl
    try simp only[Act.put,qB5]
    refine qc (i:=5) (v:=?_) rfl (by kernel_rfl) (fun _ _ _ _ h=>h) (by kernel_rfl) LL28.out.cells ?_ ?_
    rotate_left
    ·rintro w' ⟨s1,s2,s3,s4⟩;go_simp;try with_reducible rfl
    try simp only[Act.put,qB5]
    refine qc (i:=6) (v:=?_) rfl (by kernel_rfl) (fun _ _ _ _ h=>h) (by kernel_rfl) LL28.out.cells ?_ ?_
    rotate_left
    ·rintro w' ⟨s1,s2,s3,s4⟩;go_simp;try with_reducible rfl
    try simp only[Act.put,qB5]
    refine qc (i:=7) (v:=?_) rfl (by kernel_rfl) (fun _ _ _ _ h=>h) (by kernel_rfl) LL28.out.cells ?_ ?_
    rotate_left
    ·rintro w' ⟨s1,s2,s3,s4⟩;go_simp;try with_reducible rfl
    try simp only[Act.put,qB5]
    refine qr 8 (by kernel_rfl) ?_
    refine qi rfl (by kernel_rfl) fun K' hK'=>?_
    go_simp;obtain⟨d29,hc29,D29,b29,s29⟩:=qf d28 #[.bool false,.slice none 0 0,.slice none 0 0,.slice none 0 0] 84;rw[<-hc29];obtain⟨gg7,hgg7⟩:∃ q,q=d28.heap.size:=⟨_,rfl⟩;rw[<-hgg7] at D29;rw[<-hgg7];have LL29:=qa (LL28.out.to b29)
    have Z9_29:=(b29.block _ (xa Z9_28)).trans Z9_28
    have PP29:=qa (xb (PP28.out.1.to b29) (PP28.out.2.to b29))
    have lw7:w.heap.size<gg7:=by have:=xa LL28.out.box;have:=hgg7;omega
    have hne:gg7≠gg9:=by have:=xa Z9_28;omega
    refine hK' _ _ LL29.out.cells ?_;clear hK' K';try simp only[Act.put,qB5]
    replace hgg7:=qa hgg7;clear hc29 s29;have FN:=qa (Zh LL29.out D29 Z9_29 (xZ lw7) (xZ lw9) hB'.out hne (by omega) h'.out PP29.out.1 PP29.out.2)
    have CL:=(qb LL29.out.box).1
    obtain⟨⟨y0,y1,y2,y3⟩,yf⟩:=qb D29;refine qr 10 (by kernel_rfl) ?_
    refine qi rfl (by kernel_rfl) fun K' hK'=>?_
    go_simp;refine hK' _ _ (FN.out.1) ?_;clear hK' K';refine qr 11 (by kernel_rfl) ?_
    refine qi rfl (by kernel_rfl) fun K' hK'=>?_
    go_simp;refine hK' _ _ (FN.out.1) ?_;clear hK' K';refine qT (by kernel_rfl) ?_
    show wpList _ _ _ _ _ _
    obtain⟨⟨x0,x1,x2,x3⟩,xf⟩:=qb FN.out.2.1;dsimp only[List.drop];clear y0 y1 y2 y3 yf CL
    go_wp2_with fail
    go_meet
    exact⟨gg7,gg9,_,_,_,_,_,_,rfl,rfl,rfl,qa FN.out.2.2⟩
   refine qi rfl (by kernel_rfl) fun K' hK'=>?_
   go_simp;obtain⟨d30,hc30,D30,b30,s30⟩:=qf d27 #[.bool false,.slice none 0 0,.slice none 0 0,.slice none 0 0] 84;rw[<-hc30];obtain⟨gg7,hgg7⟩:∃ q,q=d27.heap.size:=⟨_,rfl⟩;rw[<-hgg7] at D30;rw[<-hgg7];have LL30:=qa (LL27.out.to b30)
   have Z9_30:=(b30.block _ (xa Z9_27)).trans Z9_27
   have lw7:w.heap.size<gg7:=by have:=xa LL27.out.box;have:=hgg7;omega
   have hne:gg7≠gg9:=by have:=xa Z9_27;omega
   refine hK' _ _ LL30.out.cells ?_;clear hK' K';try simp only[Act.put,qB5]
   replace hgg7:=qa hgg7;clear hc30 s30;refine qr 3 (by kernel_rfl) ?_
   refine qi rfl (by kernel_rfl) fun K' hK'=>?_
   refine qk 114 _ _ (by rfl) _ (by simp[Act.eval]) (Tryz.call114 _ _) (KT.out d30 LL30.out.nd) ?_
   rintro e d31 ⟨k1,v1,d1,k2,v2,d2,rfl,r1,r2,b31⟩;have LL31:=qa (LL30.out.to b31)
   have Z9_31:=(b31.block _ (xa Z9_30)).trans Z9_30
   have Z7_31:=(b31.block _ (xa D30)).trans D30
   have PP31:=qa (xb r1 r2)
   refine⟨_,rfl,hK' _ _ LL31.out.cells ?_⟩;clear hK' K';try simp only[Act.put,qB5]
   obtain⟨k1a,k1c,v1a,v1c,d1a,d1c,rfl,rfl,rfl⟩:=r1.rd.slices;obtain⟨k2a,k2c,v2a,v2c,d2a,d2c,rfl,rfl,rfl⟩:=r2.rd.slices;dsimp only[nv];clear r1 r2;refine qc (i:=4) (v:=?_) rfl (by kernel_rfl) (fun _ _ _ _ h=>h) (by kernel_rfl) LL31.out.cells ?_ ?_
   rotate_left
   ·rintro w' ⟨s1,s2,s3,s4⟩;go_simp;try with_reducible rfl
   try simp only[Act.put,qB5]
   refine qc (i:=5) (v:=?_) rfl (by kernel_rfl) (fun _ _ _ _ h=>h) (by kernel_rfl) LL31.out.cells ?_ ?_
   rotate_left
   ·rintro w' ⟨s1,s2,s3,s4⟩;go_simp;try with_reducible rfl
   try simp only[Act.put,qB5]
   refine qc (i:=6) (v:=?_) rfl (by kernel_rfl) (fun _ _ _ _ h=>h) (by kernel_rfl) LL31.out.cells ?_ ?_
   rotate_left
   ·rintro w' ⟨s1,s2,s3,s4⟩;go_simp;try with_reducible rfl
   try simp only[Act.put,qB5]
   refine qc (i:=7) (v:=?_) rfl (by kernel_rfl) (fun _ _ _ _ h=>h) (by kernel_rfl) LL31.out.cells ?_ ?_
   rotate_left
   ·rintro w' ⟨s1,s2,s3,s4⟩;go_simp;try with_reducible rfl
   try simp only[Act.put,qB5]
   have FN:=qa (Zh LL31.out Z7_31 Z9_31 (xZ lw7) (xZ lw9) hB'.out hne (by omega) h'.out PP31.out.1 PP31.out.2)
   have CL:=(qb LL31.out.box).1
   obtain⟨⟨y0,y1,y2,y3⟩,yf⟩:=qb Z7_31;refine qr 10 (by kernel_rfl) ?_
   refine qi rfl (by kernel_rfl) fun K' hK'=>?_
   go_simp;refine hK' _ _ (FN.out.1) ?_;clear hK' K';refine qr 11 (by kernel_rfl) ?_
   refine qi rfl (by kernel_rfl) fun K' hK'=>?_
   go_simp;refine hK' _ _ (FN.out.1) ?_;clear hK' K';refine qT (by kernel_rfl) ?_
   show wpList _ _ _ _ _ _
   obtain⟨⟨x0,x1,x2,x3⟩,xf⟩:=qb FN.out.2.1;dsimp only[List.drop];clear y0 y1 y2 y3 yf CL
   go_wp2_with fail
   go_meet
   exact⟨gg7,gg9,_,_,_,_,_,_,rfl,rfl,rfl,qa FN.out.2.2⟩
  refine qi rfl (by kernel_rfl) fun K' hK'=>?_
  go_simp;obtain⟨d32,hc32,D32,b32,s32⟩:=qf d26 #[.bool false,.slice none 0 0,.slice none 0 0,.slice none 0 0] 84;rw[<-hc32];obtain⟨gg7,hgg7⟩:∃ q,q=d26.heap.size:=⟨_,rfl⟩;rw[<-hgg7] at D32;rw[<-hgg7];have LL32:=qa (LL26.out.to b32)
  have Z9_32:=(b32.block _ (xa D26)).trans D26
  have lw7:w.heap.size<gg7:=by have:=xa LL26.out.box;have:=hgg7;omega
  have hne:gg7≠gg9:=by have:=xa D26;omega
  refine hK' _ _ LL32.out.cells ?_;clear hK' K';try simp only[Act.put,qB5]
  replace hgg7:=qa hgg7;clear hc32 s32;refine qr 2 (by kernel_rfl) ?_
  refine qi rfl (by kernel_rfl) fun K' hK'=>?_
  refine qk 115 _ _ (by rfl) _ (by simp[Act.eval]) (Tryz.call115 _ _) (KM.out d32 LL32.out.nd) ?_
  rintro e d33 ⟨rfl,b33⟩;have LL33:=qa (LL32.out.to b33)
  have Z9_33:=(b33.block _ (xa Z9_32)).trans Z9_32
  have Z7_33:=(b33.block _ (xa D32)).trans D32
  refine⟨_,rfl,hK' _ _ LL33.out.cells ?_⟩;clear hK' K';try simp only[Act.put,qB5]
  refine qr 3 (by kernel_rfl) ?_
  refine qi rfl (by kernel_rfl) fun K' hK'=>?_
  refine qk 114 _ _ (by rfl) _ (by simp[Act.eval]) (Tryz.call114 _ _) (KT.out d33 LL33.out.nd) ?_
  rintro e d34 ⟨k1,v1,d1,k2,v2,d2,rfl,r1,r2,b34⟩;have LL34:=qa (LL33.out.to b34)
  have Z9_34:=(b34.block _ (xa Z9_33)).trans Z9_33
  have Z7_34:=(b34.block _ (xa Z7_33)).trans Z7_33
  have PP34:=qa (xb r1 r2)
  refine⟨_,rfl,hK' _ _ LL34.out.cells ?_⟩;clear hK' K';try simp only[Act.put,qB5]
  obtain⟨k1a,k1c,v1a,v1c,d1a,d1c,rfl,rfl,rfl⟩:=r1.rd.slices;obtain⟨k2a,k2c,v2a,v2c,d2a,d2c,rfl,rfl,rfl⟩:=r2.rd.slices;dsimp only[nv];clear r1 r2;refine qc (i:=4) (v:=?_) rfl (by kernel_rfl) (fun _ _ _ _ h=>h) (by kernel_rfl) LL34.out.cells ?_ ?_
  rotate_left
  ·rintro w' ⟨s1,s2,s3,s4⟩;go_simp;try with_reducible rfl
  try simp only[Act.put,qB5]
  refine qc (i:=5) (v:=?_) rfl (by kernel_rfl) (fun _ _ _ _ h=>h) (by kernel_rfl) LL34.out.cells ?_ ?_
  rotate_left
  ·rintro w' ⟨s1,s2,s3,s4⟩;go_simp;try with_reducible rfl
  try simp only[Act.put,qB5]
  refine qc (i:=6) (v:=?_) rfl (by kernel_rfl) (fun _ _ _ _ h=>h) (by kernel_rfl) LL34.out.cells ?_ ?_
  rotate_left
  ·rintro w' ⟨s1,s2,s3,s4⟩;go_simp;try with_reducible rfl
  try simp only[Act.put,qB5]
  refine qc (i:=7) (v:=?_) rfl (by kernel_rfl) (fun _ _ _ _ h=>h) (by kernel_rfl) LL34.out.cells ?_ ?_
  rotate_left
  ·rintro w' ⟨s1,s2,s3,s4⟩;go_simp;try with_reducible rfl
  try simp only[Act.put,qB5]
  have FN:=qa (Zh LL34.out Z7_34 Z9_34 (xZ lw7) (xZ lw9) hB'.out hne (by omega) h'.out PP34.out.1 PP34.out.2)
  have CL:=(qb LL34.out.box).1
  obtain⟨⟨y0,y1,y2,y3⟩,yf⟩:=qb Z7_34;refine qr 10 (by kernel_rfl) ?_
  refine qi rfl (by kernel_rfl) fun K' hK'=>?_
  go_simp;refine hK' _ _ (FN.out.1) ?_;clear hK' K';refine qr 11 (by kernel_rfl) ?_
  refine qi rfl (by kernel_rfl) fun K' hK'=>?_
  go_simp;refine hK' _ _ (FN.out.1) ?_;clear hK' K';refine qT (by kernel_rfl) ?_
  show wpList _ _ _ _ _ _
  obtain⟨⟨x0,x1,x2,x3⟩,xf⟩:=qb FN.out.2.1;dsimp only[List.drop];clear y0 y1 y2 y3 yf CL
  go_wp2_with fail
  go_meet
  exact⟨gg7,gg9,_,_,_,_,_,_,rfl,rfl,rfl,qa FN.out.2.2⟩
 case rest =>
 obtain⟨g7,g9,k1,v1,d1,k2,v2,d2,rfl,rfl,rfl,hT⟩:=hcut;obtain⟨NL,hNL⟩:∃ q,q=QT n (qX n):=⟨_,rfl⟩;obtain⟨NR,hNR⟩:∃ q,q=QW n (qX n):=⟨_,rfl⟩;obtain⟨key,hkey⟩:∃ k,k=n.keys.getD (qX n) []:=⟨_,rfl⟩;rw[<-hNL,<-hNR] at hT hla;rw[<-hkey] at hla |-;clear hNL hNR hkey
 go_upto_region 6 with fail
 have b0:Below wc.heap.size wc wc.drew:=qg wc 1 _
 obtain⟨c0,hc0⟩:∃ c,c=wc.drew:=⟨_,rfl⟩;rw[<-hc0] at b0;have T0:=hT.out.to b0
 have hgcl:gc<w.heap.size:=xa h'.out.box
 have hrow:∀ b,av.ownBlock=some b->b<w.heap.size:=fun b hb=>(xo h'.out.row b hb).2
 have S0:(c0.cell? ⟨g7,0,none⟩=some (.bool NL.leaf)/\c0.cell? ⟨g7,1,none⟩=some k1/\c0.cell? ⟨g7,2,none⟩=some v1/\c0.cell? ⟨g7,3,none⟩=some d1)/\c0.cell? ⟨g9,0,none⟩=some (.bool NR.leaf)/\c0.cell? ⟨g9,1,none⟩=some k2/\c0.cell? ⟨g9,2,none⟩=some v2/\c0.cell? ⟨g9,3,none⟩=some d2:=⟨(qb T0.b7).1,(qb T0.b9).1⟩
 obtain⟨k1a,k1c,v1a,v1c,d1a,d1c,ek1,ev1,ed1⟩:=T0.ra.rd.slices;obtain⟨k2a,k2c,v2a,v2c,d2a,d2c,ek2,ev2,ed2⟩:=T0.rb.rd.slices;have one1:k1.oneCell'=true/\v1.oneCell'=true/\d1.oneCell'=true:=by rw[ek1,ev1,ed1];exact⟨rfl,rfl,rfl⟩
 have one2:k2.oneCell'=true/\v2.oneCell'=true/\d2.oneCell'=true:=by rw[ek2,ev2,ed2];exact⟨rfl,rfl,rfl⟩
 replace one2:=qa one2;have KA:=qa (yi B c0 gc g next av ns NL k1 v1 d1 T0.ch T0.hB hg'.out hgc.out (by omega) hnx one1)
 have HT0:=qa T0
 clear T0 ek1 ev1 ed1 ek2 ev2 ed2 one1 KM KT L1 hT;dsimp only[nv] at KA;refine qN (fun w'=>(w'.cell? ⟨g7,0,none⟩=some (.bool NL.leaf)/\w'.cell? ⟨g7,1,none⟩=some k1/\w'.cell? ⟨g7,2,none⟩=some v1/\w'.cell? ⟨g7,3,none⟩=some d1)/\w'.cell? ⟨g9,0,none⟩=some (.bool NR.leaf)/\w'.cell? ⟨g9,1,none⟩=some k2/\w'.cell? ⟨g9,2,none⟩=some v2/\w'.cell? ⟨g9,3,none⟩=some d2) [(0,true),(1,true),(2,true),(5,true),(6,true),(7,true),(3,false),(4,true),(8,false),(9,true)] 10 qG (by kernel_rfl) (fun _ _ _ _ h=>h) ?_
 rw[<-hc0];replace hc0:=qa hc0
 iterate 6
  refine Qj (v:=?_) rfl (by kernel_rfl) S0 ?_ ?_
  rotate_left
  ·rintro w' ⟨⟨s1,s2,s3,s4⟩,t1,t2,t3,t4⟩;go_simp;try with_reducible rfl
  try simp only[Act.put,qB5]
 refine qL rfl (by kernel_rfl) fun K' hK'=>?_
 refine qk 82 _ _ (by rfl) _ (by simp[Act.eval]) (Tryz.call82 _ _) KA.out ?_
 rintro e w2 ⟨av2,rfl,c2,q2⟩;have T0:=HT0.out
 have z7:=q2.box T0.b7 hgcl (fun q hq=>by have:=hrow q hq;have:=T0.l7;omega) T0.l7
 have z9:=q2.box T0.b9 hgcl (fun q hq=>by have:=hrow q hq;have:=T0.l9;omega) T0.l9
 have S2:(w2.cell? ⟨g7,0,none⟩=some (.bool NL.leaf)/\w2.cell? ⟨g7,1,none⟩=some k1/\w2.cell? ⟨g7,2,none⟩=some v1/\w2.cell? ⟨g7,3,none⟩=some d1)/\w2.cell? ⟨g9,0,none⟩=some (.bool NR.leaf)/\w2.cell? ⟨g9,1,none⟩=some k2/\w2.cell? ⟨g9,2,none⟩=some v2/\w2.cell? ⟨g9,3,none⟩=some d2:=⟨(qb z7).1,(qb z9).1⟩
 have kt:=fun e (h1:e≠126) (h2:e≠84)=>q2.keepT T0.ch h1 h2
 have A2:AllK w2 (ns++[(NL,k1,v1,d1)]):=(T0.al.keepT (kt _ (by decide) (by decide)) (kt _ (by decide) (by decide))).snoc (T0.ra.keepT (kt _ (by decide) (by decide)) (kt _ (by decide) (by decide)))
 have rb2:=T0.rb.keepT (kt _ (by decide) (by decide)) (kt _ (by decide) (by decide))
 have kk2:=T0.kc.trans q2
 have hB2:B<=w2.heap.size:=xi T0.hB q2.size
 have KA2:=qa (yi B w2 gc g next av2 (ns++[(NL,k1,v1,d1)]) NR k2 v2 d2 c2 hB2 (KCh.apart h'.out hg'.out kk2) hgc.out (by simp;omega) hnx one2.out)
 dsimp only[nv] at KA2
 have hne2:∀ q,av2.ownBlock=some q->q≠g7/\q≠g9:=fun q hq=>by
  have l1:=xa T0.b7
  have l2:=xa T0.b9
  rcases q2.row q hq with h9|h9
  ·have:=hrow q h9;have:=T0.l7;have:=T0.l9;omega
  omega
 have H2:=qa (xb z7 (xb z9 (xb A2 (xb rb2 (xb kk2 (xb c2 (xb hB2 (xb hne2 (xb T0.l7 T0.l9)))))))))
 obtain⟨kid,hkid⟩:∃ k:Int,k=next+(ns.length:Int):=⟨_,rfl⟩
 rw[<-hkid];replace hkid:=qa hkid;refine⟨_,rfl,hK' _ _ S2 ?_⟩;clear hK' K' T0 HT0 z7 z9 A2 rb2 kk2 c2 q2 kt KA hne2 hB2;try simp only[Act.put,qB5]
 iterate 1
  refine Qj (v:=?_) rfl (by kernel_rfl) S2 ?_ ?_
  rotate_left
  ·rintro w' ⟨⟨s1,s2,s3,s4⟩,t1,t2,t3,t4⟩;go_simp;try with_reducible rfl
  try simp only[Act.put,qB5]
 refine qL rfl (by kernel_rfl) fun K' hK'=>?_
 refine qk 82 _ _ (by rfl) _ (by simp[Act.eval]) (Tryz.call82 _ _) KA2.out ?_
 rintro e w3 ⟨av3,rfl,c3,q3⟩;obtain⟨z7,z9,A2,rb2,kk2,c2,hB2,hne2,l7,l9⟩:=H2.out;have y7:=q3.box z7 hgcl (fun q hq=>(hne2 q hq).1) l7
 have y9:=q3.box z9 hgcl (fun q hq=>(hne2 q hq).2) l9
 have S3:(w3.cell? ⟨g7,0,none⟩=some (.bool NL.leaf)/\w3.cell? ⟨g7,1,none⟩=some k1/\w3.cell? ⟨g7,2,none⟩=some v1/\w3.cell? ⟨g7,3,none⟩=some d1)/\w3.cell? ⟨g9,0,none⟩=some (.bool NR.leaf)/\w3.cell? ⟨g9,1,none⟩=some k2/\w3.cell? ⟨g9,2,none⟩=some v2/\w3.cell? ⟨g9,3,none⟩=some d2:=⟨(qb y7).1,(qb y9).1⟩
 have kt:=fun e (h1:e≠126) (h2:e≠84)=>q3.keepT c2 h1 h2
 have A3:AllK w3 (ns++[(NL,k1,v1,d1)]++[(NR,k2,v2,d2)]):=(A2.keepT (kt _ (by decide) (by decide)) (kt _ (by decide) (by decide))).snoc (rb2.keepT (kt _ (by decide) (by decide)) (kt _ (by decide) (by decide)))
 have kk3:=kk2.trans q3
 have hB3:B<=w3.heap.size:=xi hB2 q3.size
 have H3:=qa (xb A3 (xb kk3 (xb c3 hB3)))
 have hln:(ns++[(NL,k1,v1,d1)]).length=ns.length+1:=by simp
 obtain⟨kid2,hkid2⟩:∃ k:Int,k=next+((ns.length+1:Nat):Int):=⟨_,rfl⟩
 rw[hln,<-hkid2];replace hkid2:=qa hkid2;clear hln;refine⟨_,rfl,hK' _ _ S3 ?_⟩;clear hK' K' z7 z9 A2 rb2 kk2 c2 hB2 hne2 y7 y9 kt A3 kk3 hB3 c3 q3 KA2 H2;try simp only[Act.put,qB5]
 iterate 1
  refine Qj (v:=?_) rfl (by kernel_rfl) S3 ?_ ?_
  rotate_left
  ·rintro w' ⟨⟨s1,s2,s3,s4⟩,t1,t2,t3,t4⟩;go_simp;try with_reducible rfl
  try simp only[Act.put,qB5]
 show wpList _ _ _ _ _ _
 dsimp only[List.drop];obtain⟨A3,kk3,c3,hB3⟩:=H3.out;obtain⟨Y,hY,DY,bY,sY⟩:=qf w3 #[st ahead,.int .i64 kid,st key,.int .i64 kid2] 160
 have FIN:Hid (qpp w.heap.size Y (.slice (some ⟨w3.heap.size,0,none⟩) 2 2) [(ahead,kid),(key,kid2)]/\ChI B Y gc g next av3 (ns++[(NL,k1,v1,d1)]++[(NR,k2,v2,d2)])/\AllK Y (ns++[(NL,k1,v1,d1)]++[(NR,k2,v2,d2)])/\KCh B gc av av3 w Y) :=
  ⟨.inr ⟨w3.heap.size,rfl,by simp,DY,kk3.size⟩,c3.to bY,A3.to bY,kk3.trans (KCh.of bY hB3)⟩
 rw[hY] at FIN;clear A3 kk3 c3 hB3 H3 DY bY hY S0 S2 S3;go_wp2;go_ret;refine⟨_,av3,[(NL,k1,v1,d1),(NR,k2,v2,d2)],rfl,?_,?_,?_,by rw[hla.out,Xj];rfl,FIN.out.2.2.2,KCh.apart h'.out hg'.out FIN.out.2.2.2⟩
 ·rw[hla.out,<-hkid.out];dsimp only;rw[show kid+1=kid2 by have:=hkid.out;have:=hkid2.out;omega]
  exact FIN.out.1
 ·have:=FIN.out.2.1
  simpa using this
 have:=FIN.out.2.2.1
 simpa using this
theorem qjf {A B C N:List Int} {T:Int} (h:(A++B++C).Nodup) (hN:N.Nodup) (hd:∀ i∈N,i∈B\/T<=i) (hlt:∀ i∈A++B++C,i<T):(A++N++C).Nodup:=by
 rw[xN] at h |-;obtain⟨h1,h2,h3⟩:=h;rw[xN] at h1;obtain⟨h4,h5,h6⟩:=h1;refine⟨?_,h2,?_⟩
 ·rw[xN];refine⟨h4,hN,fun a ha b hb e=>?_⟩;subst e;rcases hd a hb with hb|hb
  ·exact h6 a ha a hb rfl
  have:=hlt a (by simp[ha]);omega
 intro a ha b hb e;subst e;rcases xu.1 ha with ha|ha
 ·exact h3 a (by simp[ha]) a hb rfl
 rcases hd a ha with ha|ha
 ·exact h3 a (by simp[ha]) a hb rfl
 have:=hlt a (by simp[hb]);omega
theorem qdk {next:Int} {upd:List Pr->List Pr} {lo:Str} {hi:Option Str} {P:List Br} {y:Br} {ad1:List Nd} 
 (hnl:∀ id x,qH l id=some x->id<next) (hn1:1<=next)
 (hs:Seg l d lo hi (P++(y::Y)++S)) (hb:qbe (P++(y::Y)++S)) (hsz:qp (inr (P++(y::Y)++S))<=244)
 (hnod:(QI l d (P++(y::Y)++S)).Nodup)
 (had:∃ more,ad1=ad++more/\∀ x∈more,NOk x)
 (hm:NO (lp l next ad1) d m (loY P y.1 lo) (hiS S hi)) (hml:qp m<=Lim d) (hmb:m.leaf=true\/m.keys≠[])
 (hmn:(nI (lp l next ad1) d m).Nodup)
 (hmi:∀ i∈nI (lp l next ad1) d m,i∈QI l d (y::Y)\/(next+(ad.length:Int)<=i/\i<next+(ad1.length:Int)))
 (h0:P++S≠[]\/m.keys≠[])
 (hZ:Qp l d P++nP (lp l next ad1) d m++Qp l d S=upd (Qp l d (P++(y::Y)++S)))
 (hM:next+((qC next ad1 m y.1).2.length:Int)<=65536) :
 Reb l next upd (d+1) (inr (P++(y::Y)++S)) lo hi ad (inr (P++(qC next ad1 m y.1).1++S)) (qC next ad1 m y.1).2:=by
 obtain⟨more,rfl,hmok⟩:=had;have hth:=hs.there hnl
 have hsub:∀ i∈QI l d (y::Y),i∈QI l d (P++(y::Y)++S):=fun i hi9=>by
  rw[QC,QC];simp[hi9]
 have hla:((ad++more).length:Int)=ad.length+more.length:=by simp
 have La:=qis (ahead:=y.1) hnl hn1 hm hml hmn (fun i hi9=>by
  rcases hmi i hi9 with h|h
  ·have:=hth i (hsub i h);omega
  omega) hM hmb
 obtain⟨⟨bs,ad2⟩,hq⟩:∃ q,q=qC next (ad++more) m y.1:=⟨_,rfl⟩
 rw[<-hq] at La hM |-;dsimp only at La hM |-;obtain⟨more2,rfl,hl2,hok2⟩:=La.more;have hx:Ext l (lp l next (ad++more++more2)):=qdz _ _
 have hs2:=hs.ext hx
 have h0':P++S≠[]\/bs≠[]:=by
  rcases h0 with h0|h0
  ·exact .inl h0
  rcases La.seg with h|⟨k,r,rfl,_⟩
  ·exact absurd h.2 h0
  exact .inr (by simp)
 obtain⟨p1,p2,p3⟩:=qpl hs2 h0' ⟨La.seg.elim (fun h=>.inl h.1) .inr,La.br,La.len⟩ hb;have eP:=yv hx (bs:=P) (fun b hb9=>hs.each b (by simp[hb9]))
 have eS:=yv hx (bs:=S) (fun b hb9=>hs.each b (by simp[hb9]))
 refine⟨⟨more++more2,by rw[xz],fun x hx9=>?_⟩,⟨_,rfl,p2,p1⟩,?_,?_,?_,?_⟩
 ·rcases xu.1 hx9 with h|h
  ·exact hmok x h
  exact hok2 x h
 ·rw[nP,zu,nP,zu,Zx,Zx,eP.1,eS.1,La.prs];exact hZ
 ·rw[nI,zv,QC,QC,eP.2,eS.2];rw[QC,QC] at hnod;refine qjf (T:=next) hnod La.nod (fun i hi9=>?_) (fun i hi9=>hth i (by rw[QC,QC];exact hi9))
  rcases La.ids i hi9 with h|h
  ·rcases hmi i h with h|h
   ·exact .inl h
   exact .inr (by omega)
  exact .inr (by omega)
 ·rw[nI,zv,nI,zv,QC,QC,eP.2,eS.2,QC,QC];intro i hi9;have hl3:((ad++more++more2).length:Int)=ad.length+more.length+more2.length:=by simp;omega
  simp only[xu] at hi9 |-;rcases hi9 with (h|h)|h
  ·exact .inl (.inl (.inl h))
  ·rcases La.ids i h with h|h
   ·rcases hmi i h with h|h
    ·exact .inl (.inl (.inr h))
    exact .inr (by omega)
   exact .inr (by omega)
  exact .inl (.inr h)
 show qp _<=281
 omega
theorem qem {lo m:Str} {hi:Option Str} {a b:List Br} (ha:Seg l d lo (some m) a) (hb:Seg l d m hi b) :
 Seg l d lo hi (a++(m,(b.headD ([],0)).2)::b.tail)/\Qp l d (a++(m,(b.headD ([],0)).2)::b.tail)=Qp l d a++Qp l d b/\QI l d (a++(m,(b.headD ([],0)).2)::b.tail)=QI l d a++QI l d b:=by
 cases b with
 | nil=>exact hb.elim
 | cons x r =>
  refine⟨?_,?_,?_⟩
  ·rw[Jq ha.ne];exact⟨ha,(qb2 (b:=x) (c:=(m,x.2)) rfl).1 hb⟩
  ·rw[Zx];rfl
  rw[QC];rfl
theorem qfm {α : Type} {bs:List α} (h:k<bs.length):bs=bs.take k++bs[k]::bs.drop (k+1):=by
 rw[<-Xv h,x7]
theorem qfh {L:List Wrt} {lo:Str} {hi:Option Str} (h:NO L d m lo hi) (hb:zN m=true):∃ e b,d=e+1/\m.kids.headD 0=b/\brs m=[([],b)]/\TOk L e b lo hi/\nP L d m=pOf L e b/\nI L d m=qV L e b/\1<=b/\b<=65536:=by
 unfold zN at hb;simp only[xL,Xl,XU] at hb;cases d with
 | zero=>have:=h.leaf;rw[hb.1] at this;simp at this
 | succ e =>
  obtain⟨en,h1,h2,h3,h4⟩:=vE h;have hk:m.keys=[]:=xq hb.2
  have e1:brs m=[([],m.kids.headD 0)]:=by unfold brs;rw[hk];rfl
  rw[e1] at h1 h2 h3 h4;refine⟨e,_,rfl,rfl,e1,h2,?_,?_,(h1.2 _ (XP ..))⟩
  ·rw[h3];simp[Qp]
  rw[h4];simp[QI]
theorem j8 {P:List Br} (hi:P.length=i) (hj:P.length+Y.length=j):zk (P++Y++S) i j now=P++now++S:=by
 subst hi hj;unfold zk
 congr 1
 ·congr 1
  rw[xz,Xo rfl]
 rw[Kk (by simp)]
theorem ql4 {l:List Wrt} {next:Int} {key:Str} {upd:List Pr->List Pr} {ed:Nd->Nd} (hnl:∀ id x,qH l id=some x->id<next) (hn1:1<=next) (hE:EdOk key upd ed) :
 ∀ (d:Nat) (n:Nd) (lo:Str) (hi:Option Str) (ad:List Nd),NO l d n lo hi->qp n<=244->(d≠0->n.keys≠[])->kin lo hi key=true->(nI l d n).Nodup->next+((Qo l next key ed d n ad).2.length:Int)<=65536->Reb l next upd d n lo hi ad (Qo l next key ed d n ad).1 (Qo l next key ed d n ad).2
 | 0,n,lo,hi,ad,hN,hsz,_,hkin,_,_=>by
  obtain⟨ps,rfl,hp,hin⟩:=hN;obtain⟨e,a1,a2,a3⟩:=hE.leaf ps hp hsz;show Reb l next upd 0 (lf ps) lo hi ad (ed (lf ps)) ad
  rw[e];refine⟨⟨[],by simp,fun x hx=>by cases hx⟩,⟨_,rfl,a1,fun y hy=>?_⟩,?_,Km,(fun i hi9=>by cases hi9),a2⟩
  ·rcases a3 y hy with h|h
   ·exact hin y h
   rw[h];exact hkin
  rw[nP,nP,yX,yX]
 | d+1,n,lo,hi,ad,hN,hsz,hk0,hkin,hnod,hM=>by
  have hkn:=hk0 (by omega)
  have hok:NOk n:=hN.ok hkn hsz
  obtain⟨en,hb,hs,e1,e2⟩:=vE hN;have hz:=(ze n).2 hok
  have hrise:=(Ye hok.1).1
  obtain⟨k,f1,f2,f3,f4⟩:=Jn key n.keys hrise;have hlf:n.leaf=false:=by have:=hN.leaf;simpa using this
  have hfk:(Qf n key).toNat=k:=by unfold Qf;rw[xj hz,hlf,f1];simp
  simp only[Qo] at hM |-;rw[hfk] at hM |-;obtain⟨bs,hbs⟩:∃ bs,bs=brs n:=⟨_,rfl⟩;rw[<-hbs] at hM hb hs e1 e2 en |-;have hkl:k<bs.length:=by rw[hbs];unfold brs;have:=Q9 hok hlf;simp only[xC,Kc,List.length_tail];omega
  have hkeys:n.keys=bs.tail.map (·.1):=by rw[en];rfl
  have hkids:n.kids=bs.map (·.2):=by rw[en];rfl
  have hkid:n.kids.getD k 0=bs[k].2:=by rw[hkids];simp[hkl]
  have hgk:bs.getD k ([],0)=bs[k]:=by simp[hkl]
  have hXX:∀ j c,bs[j+1]?=some c->n.keys[j]?=some c.1:=fun j c h=>by rw[hkeys,XT,List.getElem?_tail,h];rfl
  rw[hkid] at hM |-;rw[hgk] at hM |-;have eb:=qfm hkl
  obtain⟨X,hX⟩:∃ X,X=bs[k]:=⟨_,rfl⟩;obtain⟨P,hP⟩:∃ P,P=bs.take k:=⟨_,rfl⟩;obtain⟨S,hS⟩:∃ S,S=bs.drop (k+1):=⟨_,rfl⟩;have hPl:P.length=k:=by rw[hP,xp];omega
  rw[<-hX,<-hP,<-hS] at eb;rw[<-hX] at hM |-;have eb':bs=P++[X]++S:=by rw[eb];simp
  have hbX:bs[k]?=some X:=by rw[hX];simp[hkl]
  have hn2:2<=bs.length:=by
   have:n.keys.length≠0:=fun h=>hkn (xq h)
   rw[hkeys] at this;simp at this;omega
  clear hX hP hS hkl hgk hkid
  -- the order
  have hXk:P≠[]->slt key X.1=false:=fun hp=>by
   have:k-1+1=k:=by have:P.length≠0:=fun h=>hp (xq h);omega
   exact f3 (k-1) X.1 (by omega) (hXX _ _ (by rw[this];exact hbX))
  have hSk:∀ c r,S=c::r->slt key c.1=true:=fun c r e=>f4 k c.1 (xc _) (hXX k c (by rw[eb,e,xY (by omega),hPl];simp))
  have hs3:=hs
  rw[eb',qhl] at hs3;obtain⟨s1,s2,s3⟩:=hs3
  have hA:∀ y∈Qp l d P,slt y.1 key=true:=fun y hy=>by
   rcases s1 with rfl|s1
   ·simp[Qp] at hy
   have h9:=Seg.kin s1 y hy
   simp only[Go.Proofs.YtfjadfnjmpefkaaGreat.kin,xL] at h9;exact zx h9.2 (hXk s1.ne)
  have hC:∀ y∈Qp l d S,slt key y.1=true:=fun y hy=>by
   rcases s3 with rfl|⟨c,r,rfl,s3⟩
   ·simp[Qp] at hy
   have h9:=Seg.kin s3 y hy
   simp only[Go.Proofs.YtfjadfnjmpefkaaGreat.kin,xL,Xl] at h9;exact zx (hSk c r rfl) h9.1
  have hkX:kin (loY P X.1 lo) (hiS S hi) key=true:=by
   simp only[Go.Proofs.YtfjadfnjmpefkaaGreat.kin,xL,Xl] at hkin |-;refine⟨?_,?_⟩
   ·unfold loY
    split
    ·exact hkin.1
    exact hXk ‹_›
   cases S with
   | nil=>exact hkin.2
   | cons c r=>exact hSk c r rfl
  have hT:TOk l d X.2 (loY P X.1 lo) (hiS S hi):=s2
  obtain⟨nd,hNd,hNO,ei,ep⟩:=JR hT;rw[hNd.at] at hM |-
  have hndk:d≠0->nd.keys≠[]:=fun h9=>by
   have hl9:nd.leaf=false:=by rw[hNO.leaf];simpa using h9
   obtain⟨a,b,c⟩:=ZD hNd.ok hl9;rw[a];intro h;have h7:(brs nd).tail.map (·.1)=[]:=h
   exact c (List.map_eq_nil_iff.1 h7)
  have hth:=hs.there hnl
  have hsid:QI l d bs=QI l d P++(X.2::nI l d nd)++QI l d S:=by rw[eb',QC,QC];simp[QI,ei]
  have hspr:Qp l d bs=Qp l d P++nP l d nd++Qp l d S:=by rw[eb',Zx,Zx];simp[Qp,ep]
  rw[e2] at hnod;have hnod2:=hnod
  rw[hsid,xN,xN] at hnod2;obtain⟨⟨n1,n2,n3⟩,n4,n5⟩:=hnod2;have hnn:=(kh.1 n2).2
  have hthn:∀ i∈nI l d nd,i<next:=fun i h9=>hth i (by rw[hsid];simp[h9])
  have ih:=ql4 hnl hn1 hE d nd (loY P X.1 lo) (hiS S hi) ad hNO hNd.ok.2.2.2.2 hndk hkX hnn
  obtain⟨⟨m,ad1⟩,hp⟩:∃ p,p=Qo l next key ed d nd ad:=⟨_,rfl⟩
  rw[<-hp] at ih hM |-;dsimp only at ih hM |-;rw[en] at hsz;have hupd:upd (Qp l d bs)=Qp l d P++upd (nP l d nd)++Qp l d S:=by rw[hspr];exact hE.loc _ _ _ hA hC
  by_cases hbare:zN m=true
  ·rw[xj hbare] at hM |-;dsimp only at hM |-;have R:=ih (by have:=(Ja next ad1 (QL l n (k-1) k m) (bs.getD (k-1) ([],0)).1).1;omega)
   clear ih;obtain⟨e,b,rfl,hb0,hb1,hb2,hb3,hb4,hb5,hb6⟩:=qfh R.no hbare;have hx:Ext l (lp l next ad1):=qdz _ _
   by_cases hk1:k=0
   ·-- joined with what lies behind it
    subst hk1;have hP0:P=[]:=xq hPl
    subst hP0;cases S with
    | nil=>rw[eb] at hn2;simp at hn2
    | cons c r =>
     have ebs:bs=[]++(X::[c])++r:=by rw[eb];rfl
     have hc1:bs[1]?=some c:=by rw[ebs];rfl
     have hjn:QL l n (0-1) 0 m=inr ([([],b)]++(c.1,(zw l c.2).kids.headD 0)::(brs (zw l c.2)).tail):=by
      unfold QL;simp only[Nat.zero_sub,kS,XD];have q1:n.kids.getD 1 0=c.2:=by rw[hkids,xe,XT,hc1];rfl
      have q2:n.keys.getD 0 []=c.1:=by rw[xe,hXX 0 c hc1];rfl
      rw[q1,q2,hb1]
     have hg0:(bs.getD (0-1) ([],0)).1=X.1:=by rw[ebs];rfl
     rw[hjn,hg0] at hM |-;rcases s3 with s3|⟨c',r',e',s3⟩
     ·cases s3
     cases e'
     have hsc:=s3
     rw[show c::r=[]++(c::[])++r from rfl,qhl] at hsc;obtain⟨_,hTc,_⟩:=hsc;obtain⟨ndc,hNc,hlc,sgc,idc,pc⟩:=qds (l:=l) (d:=e) (id:=c.2) hTc;rw[hNc.at] at hM |-;obtain⟨g1,g2,g3⟩:=ZD hNc.ok hlc
     have hrpl:zk bs (0-1) (0-1+2) (qC next ad1 (inr ([([],b)]++(c.1,ndc.kids.headD 0)::(brs ndc).tail)) X.1).1=[]++(qC next ad1 (inr ([([],b)]++(c.1,ndc.kids.headD 0)::(brs ndc).tail)) X.1).1++r:=by
      rw[ebs];exact j8 rfl rfl
     rw[hrpl];have hlo:loY ([]:List Br) c.1 c.1=c.1:=rfl
     rw[hlo] at sgc;have hb2':Seg (lp l next ad1) e lo (some c.1) [([],b)]:=hb2
     obtain⟨j1,j2,j3⟩:=qem hb2' (sgc.ext hx);have hhd:((brs ndc).headD ([],0)).2=ndc.kids.headD 0:=rfl
     rw[hhd] at j1 j2 j3;have ec:=yv hx sgc.each
     have hnI:nI (lp l next ad1) (e+1) (inr ([([],b)]++(c.1,ndc.kids.headD 0)::(brs ndc).tail))=nI (lp l next ad1) (e+1) m++QI l e (brs ndc):=by
      rw[nI,zv,j3,ec.2,hb4];simp[QI]
     have hnP:nP (lp l next ad1) (e+1) (inr ([([],b)]++(c.1,ndc.kids.headD 0)::(brs ndc).tail))=nP (lp l next ad1) (e+1) m++pOf l (e+1) c.2:=by
      rw[nP,zu,j2,ec.1,hb3,pc];simp[Qp]
     have hcb:1<=c.1.length/\c.1.length<=32:=hb.1 c (by rw[ebs];simp)
     have hcs:QI l e (brs ndc)=(qV l (e+1) c.2).tail:=by rw[idc];rfl
     have hcin:∀ i∈QI l e (brs ndc),i∈QI l (e+1) (c::r):=fun i h9=>by
      simp only[QI,xO,xu];exact .inl (by rw[idc];exact Xg _ h9)
     rw[en,ebs];rw[ebs] at hs hb hsz hnod hupd;refine qdk hnl hn1 hs hb hsz hnod R.more ⟨_,rfl,⟨fun x hx9=>?_,fun x hx9=>?_⟩,j1⟩ ?_ (.inr ?_) ?_ ?_ (.inr ?_) ?_ hM
     ·simp only[xD,xG,Xa,xU] at hx9;rcases hx9 with rfl|hx9
      ·exact hcb
      exact g2.1 x hx9
     ·simp only[xD,xG,xU] at hx9;rcases hx9 with rfl|rfl|hx9
      ·exact⟨hb5,hb6⟩
      ·exact g2.2 ([],ndc.kids.headD 0) (by unfold brs;simp)
      exact g2.2 x (List.mem_of_mem_tail hx9)
     ·show qp _<=281
      rw[xD,xG,qY (by simp)]
      have h7:=hNc.ok.2.2.2.2
      rw[g1,qY (by unfold brs;simp)] at h7
      simp only[Xa,tw,Xn,kf,bw] at h7 |-
      push_cast
      omega
     ·simp[inr]
     ·rw[hnI,xN];refine⟨R.nod,?_,fun a ha q hq e9=>?_⟩
      ·have h8:=n4
       simp only[QI,xO] at h8;rw[hcs];have:=(xN.1 h8).1
       exact this.sublist (List.tail_sublist _)
      subst e9;have hq2:=hcin a hq
      rcases R.ids a ha with h8|h8
      ·exact n5 a (by simp[h8]) a hq2 rfl
      have:=hth a (by rw[hsid];simp[hq2]);omega
     ·intro i hi9;rw[hnI] at hi9;rcases xu.1 hi9 with h8|h8
      ·rcases R.ids i h8 with h8|h8
       ·refine .inl ?_;simp only[QI,xO,xu];exact .inl (by rw[ei];exact Xg _ h8)
       exact .inr h8
      refine .inl ?_;simp only[QI,xO,XI,xK,xu];exact .inr (by rw[idc];exact Xg _ h8)
     ·simp[inr]
     rw[hupd,hnP,R.prs];simp[Qp]
   -- joined with what lies ahead of it
   obtain⟨P',c,rfl⟩:∃ P' c,P=P'++[c]:=by
    rcases List.eq_nil_or_concat P with h|⟨P',c,h⟩
    ·subst h;simp at hPl;omega
    exact⟨P',c,by simpa using h⟩
   have hPl':P'.length=k-1:=by simp at hPl;omega
   have ebs:bs=P'++(c::[X])++S:=by rw[eb];simp
   have hc1:bs[k-1]?=some c:=by rw[ebs,xz,xY (by omega),hPl'];simp
   have hk2:k-1+1=k:=by omega
   have hjn:QL l n (k-1) k m=inr (brs (zw l c.2)++[(X.1,b)]):=by
    unfold QL;rw[xh (by omega),xh (by omega)]
    have q1:n.kids.getD (k-1) 0=c.2:=by rw[hkids,xe,XT,hc1];rfl
    have q2:n.keys.getD (k-1) []=X.1:=by rw[xe,hXX (k-1) X (by rw[hk2];exact hbX)];rfl
    rw[q1,q2,hb1,hb0];rfl
   have hg0:(bs.getD (k-1) ([],0)).1=c.1:=by rw[xe,hc1];rfl
   rw[hjn,hg0] at hM |-;rcases s1 with s1|s1
   ·simp at s1
   have hsc:=s1
   rw[show P'++[c]=P'++(c::[])++[] by simp,qhl] at hsc
   obtain⟨_,hTc,_⟩:=hsc;obtain⟨ndc,hNc,hlc,sgc,idc,pc⟩:=qds (l:=l) (d:=e) (id:=c.2) hTc;rw[hNc.at] at hM |-;obtain⟨g1,g2,g3⟩:=ZD hNc.ok hlc
   have hrpl:zk bs (k-1) (k-1+2) (qC next ad1 (inr (brs ndc++[(X.1,b)])) c.1).1=P'++(qC next ad1 (inr (brs ndc++[(X.1,b)])) c.1).1++S:=by
    rw[ebs];exact j8 hPl' (by rw[hPl'];rfl)
   rw[hrpl];have hlX:loY (P'++[c]) X.1 lo=X.1:=by simp[loY]
   rw[hlX] at hb2;have hb2':Seg (lp l next ad1) e X.1 (hiS S hi) [([],b)]:=hb2
   have hhi:hiS ([]:List Br) (some X.1)=some X.1:=rfl
   rw[hhi] at sgc;obtain⟨j1,j2,j3⟩:=qem (sgc.ext hx) hb2';have hhd:((brs ndc)++(X.1,(([([],b)]:List Br).headD ([],0)).2)::([([],b)]:List Br).tail)=brs ndc++[(X.1,b)]:=rfl
   rw[hhd] at j1 j2 j3;have ec:=yv hx sgc.each
   have hnI:nI (lp l next ad1) (e+1) (inr (brs ndc++[(X.1,b)]))=QI l e (brs ndc)++nI (lp l next ad1) (e+1) m:=by
    rw[nI,zv,j3,ec.2,hb4];simp[QI]
   have hnP:nP (lp l next ad1) (e+1) (inr (brs ndc++[(X.1,b)]))=pOf l (e+1) c.2++nP (lp l next ad1) (e+1) m:=by
    rw[nP,zu,j2,ec.1,hb3,pc];simp[Qp]
   have hXb:1<=X.1.length/\X.1.length<=32:=hb.1 X (by rw[ebs];cases P'<;>simp)
   have hcs:QI l e (brs ndc)=(qV l (e+1) c.2).tail:=by rw[idc];rfl
   have hcin:∀ i∈QI l e (brs ndc),i∈QI l (e+1) (P'++[c]):=fun i h9=>by
    rw[QC];simp only[QI,xO,XI,xK,xu];exact .inr (by rw[idc];exact Xg _ h9)
   rw[en,ebs];rw[ebs] at hs hb hsz hnod hupd;refine qdk hnl hn1 hs hb hsz hnod R.more ⟨_,rfl,⟨fun x hx9=>?_,fun x hx9=>?_⟩,j1⟩ ?_ (.inr ?_) ?_ ?_ (.inr ?_) ?_ hM
   ·have hx8:x∈(brs ndc).tail\/x=(X.1,b):=by
     unfold brs at hx9 |-
     simpa using hx9
    rcases hx8 with hx8|rfl
    ·exact g2.1 x hx8
    exact hXb
   ·rcases xu.1 hx9 with hx9|hx9
    ·exact g2.2 x hx9
    simp only[ku] at hx9;subst hx9;exact⟨hb5,hb6⟩
   ·show qp _<=281
    rw[qY (by simp)]
    have h7:=hNc.ok.2.2.2.2
    rw[g1,qY (by unfold brs;simp)] at h7
    have h6:(brs ndc++[(X.1,b)]).tail=(brs ndc).tail++[(X.1,b)]:=by unfold brs;simp
    rw[h6,jt];simp only[tw,Xn,List.map_nil,kf,List.sum_nil,bw] at h7 |-
    push_cast
    omega
   ·unfold brs;simp[inr]
   ·rw[hnI,xN];refine⟨?_,R.nod,fun a ha q hq e9=>?_⟩
    ·have h8:=n1
     rw[QC] at h8;simp only[QI,xO,XI,xK] at h8;rw[hcs];have:=(xN.1 h8).2.1
     exact this.sublist (List.tail_sublist _)
    subst e9;have hq2:=hcin a ha
    rcases R.ids a hq with h8|h8
    ·exact n3 a hq2 a (by simp[h8]) rfl
    have:=hth a (by rw[hsid];simp[hq2]);omega
   ·intro i hi9;rw[hnI] at hi9;simp only[QI,xO,XI,xK,xu];rcases xu.1 hi9 with h8|h8
    ·exact .inl (.inl (by rw[idc];exact Xg _ h8))
    rcases R.ids i h8 with h8|h8
    ·exact .inl (.inr (by rw[ei];exact Xg _ h8))
    exact .inr h8
   ·unfold brs;simp[inr]
   rw[hupd,hnP,R.prs,Zx];simp[Qp]
  rw[xh hbare] at hM |-;dsimp only at hM |-;have R:=ih (by have:=(Ja next ad1 m X.1).1;omega)
  have hrpl:zk bs k (k+1) (qC next ad1 m X.1).1=P++(qC next ad1 m X.1).1++S:=by
   rw[eb'];exact j8 hPl (by rw[hPl];rfl)
  rw[hrpl]
  have hPS:P++S≠[]:=fun h=>by
   obtain⟨h8,h9⟩:=kZ.1 h;rw[eb',h8,h9] at hn2;simp at hn2
  rw[en,eb'];rw[eb'] at hs hb hsz hnod hupd;refine qdk hnl hn1 hs hb hsz hnod R.more R.no R.siz ?_ R.nod (fun i hi9=>?_) (.inl hPS) ?_ hM
  ·unfold zN at hbare;cases hml:m.leaf with
   | true=>exact .inl rfl
   | false=>exact .inr fun h=>by rw[hml,h] at hbare;simp at hbare
  ·rcases R.ids i hi9 with h8|h8
   ·refine .inl ?_;simp only[QI,xO,XI,xK];rw[ei];exact Xg _ h8
   exact .inr h8
  rw[hupd,R.prs]
end Go.Proofs.YtfjadfnjmpefkaaGreat
