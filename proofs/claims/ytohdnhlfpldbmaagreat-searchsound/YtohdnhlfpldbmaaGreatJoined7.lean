import Derived.Laws.Externs
import Derived.Laws.OwnMore
import Derived.MapKept
import Derived.Test.YtohdnhlfpldbmaaGreatJoined6
set_option maxRecDepth 100000
set_option maxHeartbeats 32000000
set_option linter.all false
namespace Go.Proofs.YtohdnhlfpldbmaaGreat
open Go.RowKit Go.Maps
open Go.Proofs.Tryz renaming prog->Zf
attribute [local go_sem ↓] Go.wp_at_zero Go.wp_at_succ
variable {k n m i j n1 n2 n3 n4 n5 n6 n7 n8 n9:Nat}{w u v w1 w2 w3 w4 w5:N}{x y x1 x2 x3 x4 x5 x6 x7 x8 x9:Value}{r r1 r2:Zn}{p p1 p2:Zp}{z z1 z2 z3:Int}{a a1 a2 a3 a4:Zo}{t s t1 t2:T}{c d c1 c2:Zc}{g g1 g2:TypeId}{b b1 b2:Zs}{l l1:Zt}{U V U1 U2:Zu}{B B1:Bool}
attribute [local go_sem] Oper.semAt_some
def jEn(ep:∀h,p h->h<w.heap.size)(eq:c.length<=1000)(er:c.length<=k)(ch:∀x,x∈c->xO x)(hc:qA p w c a)(es:d.length<=1000)(et:d.length<=m)(ci:∀x,x∈d->xO x)(hd:qA p w d a1)
 (dd:p n) (eu:p i) (ev:p j) (h1:w.cell? (D n 0)=some (.slice a c.length k)) (G:w.cell? (D i 0)=some (.slice a1 d.length m)) (h3:w.cell? (D j 0)=some (.bool (mM c d))):
 uQ Zf 141 #[Zr n,Zr i,Zr j] Cm fW (iM (iQ c d)) (λxs=>xs.map vA.i=iQ c d) p w:=by
 intro v al T' W ew ey P hT hY de;have ac:∀h,p h->h<W.heap.size:=λh B=>kV (ep h B) ew;have ez:Hid (IS p w W (λ_=>False) W):=X ⟨ey,jF _,λh B=>B.elim⟩;obtain⟨W1,aq⟩:=Ze (W.alloc (.cells #[.func (.yield v) #[] #[]] 184));have C:Zb W W1:=aq▸jG _ _;have cj:W1.heap.size=W.heap.size+1:=by rw[aq];simp
 have az:=X (ez.fresh ac C);have df:=X (P _ _ _ _ _ de (jR.A C) (fY (λh B=>B.elim)));have k1:=az.cell dd h1;have HO:=X (Pz eq er ch (λh B=>kV (ac h B) C.size) (az.lits hc));have e0:=X (λ(A:N)(O:Zp)(hI:IS p w W O A)=>Pz es et ci (λh B=>kV (ac h B) hI.size) (hI.lits hd));have ck:Hid (vE (λ_=>False) W W1 W.heap.size/\Zq W1 W.heap.size 0 (.func (.yield v) #[] #[])):=X ⟨jE ⟨jF _,by omega⟩,by rw[aq];exact jJ 0 rfl⟩
 have e1:Hid (∀ag,ag∈yK c 0->ag.first.E<=1000):=X (λag hs=>by
  obtain⟨y,q1,q2⟩:=Lt c 0 ag hs;rcases q2 with q2|q2
  .rw[q2];exact(ch y q1).1
  rw[q2];exact(ch y q1).2)
 have e2:Hid (∀ag,ag∈yK d 0->ag.first.E<=1000):=X (λag hs=>by
  obtain⟨y,q1,q2⟩:=Lt d 0 ag hs;rcases q2 with q2|q2
  .rw[q2];exact(ci y q1).1
  rw[q2];exact(ci y q1).2)
 have HC:=X (jM (jM dd h1) (jM (jM eu G) (jM ev h3)));have e3:=X aq;rw[aq] at k1;show CallsIn Fence.wide 0 Zf 141 #[.func (.yield v) #[] #[],Zr n,Zr i,Zr j] W _;refine callsIn_of_wp_marks Tryz.func141 rfl trivial ?_ rfl;simp only[Tryz.ntmps141,Es,xI,mZ,Nat.reduceAdd,Nat.reduceSub,Gs,Gt,It,Il,nQ,dW];clear aq C cj de;gi_wp2_with (refine⟨trivial,rfl,?_⟩;gi_at_call 137;rw[<-e3.out];refine(callsIn_wide.2 HO).mono ?_;rintro l w1 ⟨f5,q,rfl,dg,⟨ad,dh⟩,C⟩;obtain⟨va,vc,hv⟩:=zF ad;have e4:=X ad;subst hv;have ae:=X (az.fresh ac C);have a0:=X (P _ _ _ _ _ df (jR.A C) (fY (λh B=>kV (az.low h B).2 C.size)));have a2:=X (dJ.jr (p:=vE (λ_=>False) W W1) e4 rfl);have di:Hid (vE (vE (λ_=>False) W W1) W1 w1 W.heap.size/\Zq w1 W.heap.size 0 (.func (.yield v) #[] #[])):=X ⟨jD ck.1,jP C ck.2⟩;have b0:=X dg;have e5:=X (λl he=>(xN (w:=w1) (u:=w) (λh B _=>(ae.kk h B).symm) (dh l he)));clear ad C dg dh);have f6:q.length<=2000:=by
  have h9:=xE List.length b0;have h8:(dE c).length<=(yK c 0).length:=Bj _ _;rw[dY] at h9;rw[Dw] at h8;omega
 refine wpIn_loop (λL H=>∃(u6 u8 cl a3 a4 a5 dj dk dl ar a6 a7 a8 a9 ba bc bd be bf bg bh:Zv)(ds:List Deferred)(h:Nat)(O:Zp)(pre:List vA),(cl=Y (h:Int)/\h<=q.length/\Hid (pre.map vA.i=(q.take h).flatMap (λl=>(dE d).flatMap (gV c d l.w)))/\Hid (al O pre H)/\Hid (IS p w W O H)/\Hid (gN O H ds)/\Hid (dJ O H va q)/\Hid (O W.heap.size/\Zq H W.heap.size 0 (.func (.yield v) #[] #[])))/\L={tmps:=#[.func (.yield v) #[] #[],Zr n,Zr i,Zr j,Zr W.heap.size,undef,u6,undef,u8,undef,undef,undef,Zk a c k,Zk va q vc,Y (q.length:Int),cl,a3,a4,a5,dj,dk,dl,ar,a6,a7,a8,a9,ba,bc,bd,be,bf,undef,undef,undef,undef,undef,undef,undef,undef,undef,undef,undef,undef,undef,undef,undef,undef,undef,undef,undef,undef,undef,undef,undef,undef,undef,undef,undef,undef,undef,undef,bg,bh],defers:=ds}) (λL _=>q.length - (intOf (L.tmps.getD 15 undef)).toNat) ?_ ?_
 .exact⟨_,_,_,_,_,_,_,_,_,_,_,_,_,_,_,_,_,_,_,_,_,[],0,_,[],⟨rfl,jY _,X rfl,a0,ae,X gN.nil,a2,di⟩,rfl⟩
 rintro _ r ⟨u6,u8,cl,a3,a4,a5,dj,dk,dl,ar,a6,a7,a8,a9,ba,bc,bd,be,bf,bg,bh,ds,h,O,pre,⟨rfl,B,Hp,HJ,HI,HM,HR,dm⟩,rfl⟩;clear a0 ae a2 di ck df az k1;by_cases e6:h<q.length
 .obtain⟨x,hx⟩:=Zg e6
  obtain⟨Q,rfl,f7,k0,e7,k2,k3,k4,k5⟩:=HR h x hx;have f8:(h:Int)<q.length:=by omega
  have f9:(0:Int)<=h:=by omega
  have Hx:=X hx;obtain⟨s,U⟩:∃s,s=r.alloc (.cells #[Y (x.w.n:Int),.bool x.w.tu,.bool x.w.yes,Y x.w.first.v,Y x.w.first.f,.slice x.fa x.w.first.e.length x.fc] 188):=⟨_,rfl⟩;have C:Zb r s:=U▸jG _ _;have dp:W6 s r.heap.size 0 x:=U▸W6.new rfl;have cj:s.heap.size=r.heap.size+1:=by rw[U];simp
  have a0:=X (P _ _ _ _ _ HJ (jR.A C) (fY (λe f=>kV (HI.low e f).2 C.size)));have ae:=X (HI.fresh ac C);have a2:=X (HR.fresh C);have dq:=X (HM.fresh C);have cm:Hid (vE O r s W.heap.size/\Zq s W.heap.size 0 (.func (.yield v) #[] #[])):=X ⟨jD dm.1,jP C dm.2⟩;have dr:Hid (vE O r s r.heap.size):=X (jE ⟨jF _,by omega⟩);have dt:=X dp;have bi:=X U;have du:=ae.cell HC.2.1.1 HC.2.1.2;rw[U] at du;have e8:=X (e5 x (jU Hx));clear hx U C cj dp;gi_wp2_with (refine⟨trivial,rfl,?_⟩;gi_at_call 137;rw[<-bi.out];refine(callsIn_wide.2 (e0 _ _ ae)).mono ?_;rintro l w2 ⟨v2,t,rfl,dv,⟨cn,dw⟩,co⟩;obtain⟨dx,e9,fa⟩:=zF cn;have dy:=X cn;subst fa;have ai:=X co;have b1:=X dv;have fb:=X (λl he=>(xN (w:=w2) (u:=w) (λe f _=>((ae.fresh ac co).kk e f).symm) (dw l he)));clear cn co dv dw);have ga:t.length<=2000:=by
   have h9:=xE List.length b1;have h8:(dE d).length<=(yK d 0).length:=Bj _ _;rw[dY] at h9;rw[Dw] at h8;omega
  have dz:=X (ae.fresh ac ai);have d0:=X (P _ _ _ _ _ a0 (jR.A ai) (fY (λe f=>kV (ae.low e f).2 ai.size)));have d1:=X (a2.fresh ai);have d2:=X (dq.fresh ai);have d3:=X (dJ.jr (p:=vE O r s) dy rfl);have d4:=X (Kt ⟨dr,dt⟩ ai);have d5:Hid (vE (vE O r s) s w2 W.heap.size/\Zq w2 W.heap.size 0 (.func (.yield v) #[] #[])):=X ⟨jD cm.1,jP ai cm.2⟩;clear k0 e7 k2 k3 k4 k5 du ai dy a0 ae a2 dq dt dr bi cm;refine wpIn_loop (λL H=>∃(u8 a3 a4 a5 ar a6 a7 a8 a9 ba bc bd be bf bg bh:Zv)(I:List Deferred)(J:Nat)(Z:Zp)(aa:List vA),(ar=Y (J:Int)/\J<=t.length/\Hid (aa.map vA.i=(q.take h).flatMap (λl=>(dE d).flatMap (gV c d l.w))++(t.take J).flatMap (λl=>gV c d x.w l.w))/\Hid (al Z aa H)/\Hid (IS p w W Z H)/\Hid (gN Z H I)/\Hid (dJ Z H (some (D Q 0)) q)/\Hid (dJ Z H dx t)/\Hid (Z r.heap.size/\W6 H r.heap.size 0 x)/\Hid (Z W.heap.size/\Zq H W.heap.size 0 (.func (.yield v) #[] #[])))/\L={tmps:=#[.func (.yield v) #[] #[],Zr n,Zr i,Zr j,Zr W.heap.size,undef,Zr r.heap.size,undef,u8,undef,undef,undef,Zk a c k,Zx Q q.length vc,Y (q.length:Int),Y (h:Int),a3,a4,a5,Zk a1 d m,Zk dx t e9,Y (t.length:Int),ar,a6,a7,a8,a9,ba,bc,bd,be,bf,undef,undef,undef,undef,undef,undef,undef,undef,undef,undef,undef,undef,undef,undef,undef,undef,undef,undef,undef,undef,undef,undef,undef,undef,undef,undef,undef,undef,undef,undef,bg,bh],defers:=I}) (λL _=>t.length - (intOf (L.tmps.getD 22 undef)).toNat) ?_ ?_
  .exact⟨_,_,_,_,_,_,_,_,_,_,_,_,_,_,_,_,ds,0,_,pre,⟨rfl,jY _,X (by rw[Hp.out];simp),d0,dz,d2,d1,d3,d4,d5⟩,rfl⟩
  rintro _ wr ⟨u8,a3,a4,a5,ar,a6,a7,a8,a9,ba,bc,bd,be,bf,bg,bh,I,J,Z,aa,⟨rfl,hm,au,b2,am,bj,bk,b3,bl,an⟩,rfl⟩;clear d0 dz d2 d1 d3 d4 d5;by_cases fc:J<t.length
  .obtain⟨u,hu⟩:=Zg fc
   obtain⟨g2,rfl,fd,u0,u1,u2,u3,u4,u5⟩:=b3 J u hu;have gb:(J:Int)<t.length:=(by omega);have gc:(0:Int)<=J:=(by omega);have Hu:=X hu;have fe:=X (fb u (jU hu));obtain⟨B1,av⟩:∃B1,B1=wr.alloc (.cells #[Y (u.w.n:Int),.bool u.w.tu,.bool u.w.yes,Y u.w.first.v,Y u.w.first.f,.slice u.fa u.w.first.e.length u.fc] 188):=⟨_,rfl⟩;have cp:Zb wr B1:=av▸jG _ _;have d6:B1.heap.size=wr.heap.size+1:=(by rw[av];simp);have s1:=bl.2.below cp;have v1:W6 B1 wr.heap.size 0 u:=av▸W6.new rfl;have af:=X cp;have cq:=X d6;have d7:=X av;have gd:=X s1;have ff:=X v1;obtain⟨cr,cs,bm,ct,cu,cv⟩:=s1;obtain⟨c0,c1,c2,c3,c4,c5⟩:=v1;rw[av] at cr cs bm ct cu cv c0 c1 c2 c3 c4 c5;clear hu cp d6 av
   cases aw:x.w.yes with
   |false=>
    have fg:Hid (aa.map vA.i=(q.take h).flatMap (λl=>(dE d).flatMap (gV c d l.w))++(t.take (J+1)).flatMap (λl=>gV c d x.w l.w)):=X (by rw[Fo Hu.out,gV,aw];simpa using au.out);rw[aw] at bm;clear aw;gi_wp2;rw[<-d7.out];refine⟨⟨_,_,_,_,_,_,_,_,_,_,_,_,_,_,_,_,I,J+1,_,aa,⟨by go_num,by omega,fg,X (P _ _ _ _ _ b2 (jR.A af) (fY (λe f=>kV (am.low e f).2 af.size))),X (am.fresh ac af),X (bj.fresh af),X (bk.fresh af),X (b3.fresh af),X (Kt bl af),X ⟨jD an.1,jP af an.2⟩⟩,rfl⟩,?_⟩;simp[intOf];omega
   |true=>
    have b4:=X (YW u.w.first.v u.w.first.f u.fa u.w.first.e.length u.fc B1);obtain⟨P1,bn⟩:=Ze (B1.alloc (.cells #[Y u.w.first.v,Y u.w.first.f,.slice u.fa u.w.first.e.length u.fc] 43));rw[<-bn] at b4;have cw:Zb B1 P1:=bn▸jG _ _;have aj:=X (af.trans (cw.mono af.size));have d8:Hid (P1.heap.size=wr.heap.size+2):=X (by rw[bn,qE,cq.out]);have cx:Hid (Zq P1 (wr.heap.size+1) 0 (Y u.w.first.v)/\Zq P1 (wr.heap.size+1) 1 (Y u.w.first.f)/\Zq P1 (wr.heap.size+1) 2 (.slice u.fa u.w.first.e.length u.fc)):=X (by rw[bn,<-cq.out];exact⟨jJ 0 rfl,jJ 1 rfl,jJ 2 rfl⟩);have d9:=X aw;have fh:Hid (W6 P1 wr.heap.size 0 u):=X (ff.below cw);rw[aw] at bm;rw[cq.out] at b4;clear aw bn cw;gi_wp2_with (refine⟨trivial,rfl,?_⟩;gi_at_call 142;rw[<-d7.out];refine(callsIn_wide.2 b4).mono ?_;rintro l g ⟨rfl,rfl⟩);have ak:=λe(f:Z e)=>(am.low e f).2
    have HS:Hid (eY p W g r.heap.size wr.heap.size (wr.heap.size+1) (some (D Q 0)) (some (D g2 0))):=X (by
     have hz:=d8.out;have q1:=ak _ bl.out.1;have q2:=ak _ an.out.1;refine⟨λe f=>?_,by omega,by omega,by omega,by omega,λg' cy=>?_,λg' cy=>?_⟩
     .have:=ac e f;have:=am.size;omega
     .obtain⟨g3,z,R,_⟩:=bk h x Hx
      rw[cy] at z;simp only[qW,fG] at z;have:=ak _ R;omega
     simp only[qW,fG] at cy
     have:=ak _ fd;omega)
    have b5:Hid (zA p w W g I r.heap.size wr.heap.size (wr.heap.size+1) x u (some (D Q 0)) (some (D g2 0)) q t v (vE Z wr g) g):=X (by
     have hz:=d8.out
     exact⟨am.fresh ac aj,bj.fresh aj,bk.fresh aj,b3.fresh aj,Kt bl aj,⟨jE ⟨jF _,by omega⟩,fh⟩,⟨jD an.1,jP aj an.2⟩,⟨jE ⟨by omega,by omega⟩,rfl⟩,λe q1 q2 z=>by omega,jF _,bj.low (λe f=>by have:=ak e f;omega)⟩)
    have ea:=X (P _ _ _ _ _ b2.out (jR.A aj.out) (fY (λe f=>kV (ak e f) aj.out.size)))
    have eb:Hid (uQ Zf 174 #[Zr (wr.heap.size+1)] Fm tD (pM (zR u.w.first []) (λe=>p e\/e=wr.heap.size+1) g) (λxs=>xs.map zI.val=zR u.w.first []) (λe=>p e\/e=wr.heap.size+1) g):=X (YX (λe f=>by
     rcases f with f|f
     .exact HS.hK e f
     rw[f];exact HS.qs) (jE rfl) (e2 _ (by
     have h9:u.w∈dE d:=by rw[<-b1.out];exact bP.2 ⟨u,jU Hu,rfl⟩
     exact(uW.1 h9).1)) (kQ (λe f=>jD f) (xN (λe f _=>b5.is.kk e f) fe)) cx.1 cx.2.1 cx.2.2)
    clear cr cs bm ct cu cv c0 c1 c2 c3 c4 c5 u0 u1 u2 u3 u4 u5 b4
    refine BT (k:=174) (E:=#[Zr (wr.heap.size+1)]) (s:=zI) (J:=Fm) (own:=tD) (W:=pM (zR u.w.first []) (λe=>p e\/e=wr.heap.size+1) g) (Z:=λxs=>xs.map zI.val=zR u.w.first []) (p:=λe=>p e\/e=wr.heap.size+1) (u:=g) rfl (enters_of Tryz.func174 (by kernel_rfl) rfl) (λ_=>rfl) (λe f=>by
     rcases f with f|f
     .exact HS.hK e f
     .rw[f];exact HS.qs) (jF _) (λ_ _=>rfl) eb
     (cR al (zA p w W g I r.heap.size wr.heap.size (wr.heap.size+1) x u (some (D Q 0)) (some (D g2 0)) q t v) g (aa.map vA.i) (mM c d) x.w u.w)
     (λO pre A=>cU T' (zA p w W g I r.heap.size wr.heap.size (wr.heap.size+1) x u (some (D Q 0)) (some (D g2 0)) q t v) g O pre A/\g.heap.size+2<=A.heap.size)
     (λO O' pre A ab E B ho=>cR.step HS P O O' pre A ab E B ho) (λO pre A bo E=>cR.put HS P O pre A bo E)
     (λO pre A ab E B=>⟨cU.step HS hT O pre A ab E.1 E.2 B,kN E.2 B.below.size⟩) (λO pre A bo E=>⟨cU.put HS hT O pre A bo E.1,by simpa using E.2⟩)
     ⟨_,aa,λe f=>f.elim,ea,b5,by simp⟩ ?_ ?_ ?_
    .rintro fn O5 cz y A ⟨Oo,ah,q1,q2,z,R⟩ ⟨⟨fi,bp⟩,bq,br⟩ ad ao hl hD b6 b7
     obtain⟨s,U⟩:=Ze (A.alloc (.cells #[Y y.t.v,Y y.t.f,.slice y.ta y.t.e.length y.tc] 43));have ec:Zb A s:=U▸jG _ _;have bs:s.heap.size=A.heap.size+1:=(by rw[U];simp);have bi:=X U;have HQ:=X (jM q1 (jM q2 (jM z (jM R (jM bp (jM bq (jM br (jM ad ao))))))));have HL:=X (jM hl (jM hD (jM b6 b7)));have ax:=X ec;have fj:=X bs;clear q1 q2 z R bp bq br ad ao hl hD b6 b7 U ec bs ak;dsimp only[Fm];gi_wp2;rw[<-bi.out];refine⟨ax.out.block _ (by have:=HL.out.2.2.2;omega),?_⟩;generalize fk:tY fn _ _ _ _ _ LoopState.busy=c6;clear fk;obtain⟨V,hV⟩:=Ze (s.putObj (g.heap.size+1) c6);rw[<-hV];obtain⟨q1,q2,z,R,bp,bq,br,ad,ao⟩:=HQ.out;obtain⟨hl,hD,b6,b7⟩:=HL.out;have bs:=fj.out;have fl:V.heap.size=A.heap.size+1:=(by rw[hV,World.putObj_size];exact bs);have b8:=z.fresh HS.out ax.out;have ed:=P _ _ _ _ _ q2 (jR.A ax.out) (fY (λe f=>kV (z.is.low e f).2 ax.out.size));have ee:al (vE Oo A s) ah V:=(by rw[hV];exact P _ _ _ _ _ ed (kpz_put b8 c6) (Gd (λe f=>(b8.is.low e f).2) (by simp)));have bt:zA p w W g I r.heap.size wr.heap.size (wr.heap.size+1) x u (some (D Q 0)) (some (D g2 0)) q t v (vE Oo A s) V:=hV▸b8.put HS.out c6;have b9:∀e,e<A.heap.size->e≠g.heap.size+1->V.heap[e]? =A.heap[e]?:=λe h1 G=>by rw[hV,World.putObj_heap_other G];exact ax.out.block e h1
     have c7:∀e,(p e\/e=wr.heap.size+1)\/O5 e->e≠g.heap.size+1:=λe f=>by
      rcases f with (f|f)|f
      .have:=HS.out.hK e f;omega
      .have:=HS.out.qs;omega
      have:=(ao e f).1;omega
     have ef:jV V y.G y.pa:=jV.same bq (λe bo f=>by
      have h5:=ad e ⟨bo,f⟩
      exact b9 e (ao e h5).2 (c7 e (jE h5)))
     have HG:Hid (∀o:N,Zb V o->al (vE (vE Oo A s) V o) ah o/\zA p w W g I r.heap.size wr.heap.size (wr.heap.size+1) x u (some (D Q 0)) (some (D g2 0)) q t v (vE (vE Oo A s) V o) o/\jV o y.G y.pa/\o.heap[g.heap.size+1]? =V.heap[g.heap.size+1]?/\o.heap[g.heap.size]? =A.heap[g.heap.size]?/\KR (λe=>p e\/e=wr.heap.size+1) O5 A o/\g.heap.size+2<=o.heap.size):=X (λo F=>by
      have ge:=F.size;refine⟨P _ _ _ _ _ ee (jR.A F) (fY (λe f=>kV (bt.is.low e f).2 F.size)),bt.fresh HS.out F,kD F ef,F.block _ (by omega),?_,⟨?_,λe h1 G=>?_⟩,by omega⟩
      .rw[F.block _ (by omega)];exact b9 _ (by omega) (by omega)
      .refine zT (b:=V) ?_ (F.mono (jY _))
       rw[hV];exact(ax.out.mono (jY _)).trans (Ui (jY _) _)
      rw[F.block e (by omega)];exact b9 e h1 (c7 e G))
     have ca:Hid (∀(o:N)(L:Act),Zb V o->aH (mM c d) x.w u.w y.val=none->Ia (λe=>p e\/e=wr.heap.size+1) O5 tD (cR al (zA p w W g I r.heap.size wr.heap.size (wr.heap.size+1) x u (some (D Q 0)) (some (D g2 0)) q t v) g (aa.map vA.i) (mM c d) x.w u.w) (λO pre A=>cU T' (zA p w W g I r.heap.size wr.heap.size (wr.heap.size+1) x u (some (D Q 0)) (some (D g2 0)) q t v) g O pre A/\g.heap.size+2<=A.heap.size) cz y g.heap.size (g.heap.size+1) A V .normal L o):=X (λo L F hn=>by
      obtain⟨r1,r2,r3,r4,r5,r6,r7⟩:=HG.out o F;refine⟨r4,r5,r6,jD ⟨rfl,_,ah,λe f=>⟨jD (jD (q1 e f.1).1),(q1 e f.1).2⟩,r1,r2,?_⟩⟩;rw[R,nP,Im]
      simp[hn])
     have cb:Hid (∀(o:N),Zb V o->aH (mM c d) x.w u.w y.val=some ⟨3,0,1,(x.w.n:Int),(u.w.n:Int),x.w.tu,u.w.tu,y.G⟩->YieldAt Fence.wide 0 Zf v #[.agg #[Y 3,Y 0,Y 1,Y (x.w.n:Int),Y (u.w.n:Int),.bool x.w.tu,.bool u.w.tu,.slice y.pa y.G.length y.pc]] o λl ab=>∃bb,l=.returned (.bool bb)/\(∀ex L,ex=(if bb then Exit.normal else Exit.ret)->Ia (λe=>p e\/e=wr.heap.size+1) O5 tD (cR al (zA p w W g I r.heap.size wr.heap.size (wr.heap.size+1) x u (some (D Q 0)) (some (D g2 0)) q t v) g (aa.map vA.i) (mM c d) x.w u.w) (λO pre A=>cU T' (zA p w W g I r.heap.size wr.heap.size (wr.heap.size+1) x u (some (D Q 0)) (some (D g2 0)) q t v) g O pre A/\g.heap.size+2<=A.heap.size) cz y g.heap.size (g.heap.size+1) A V ex L ab)):=X (λo F hn=>by
      obtain⟨r1,r2,r3,r4,r5,r6,r7⟩:=HG.out o F;have eg:∀e,fW ⟨⟨3,0,1,(x.w.n:Int),(u.w.n:Int),x.w.tu,u.w.tu,y.G⟩,y.pa,y.pc⟩ e->O5 e:=λe f=>ad e f;have E:=Lw (hY (vE (vE Oo A s) V o) ah ⟨⟨3,0,1,(x.w.n:Int),(u.w.n:Int),x.w.tu,u.w.tu,y.G⟩,y.pa,y.pc⟩ o r1 ⟨⟨fi.filterMap (aH (mM c d) x.w u.w)++((t.drop (J+1)).flatMap (λl=>gV c d x.w l.w)++(q.drop (h+1)).flatMap (λl=>(dE d).flatMap (gV c d l.w))),?_⟩,r3⟩ (λe f=>jD (jD (q1 e (eg e f)).1)))
      .refine YieldAt.mono E ?_
       rintro l ab ⟨bb,rfl,s1,s2,s3⟩;refine⟨bb,rfl,?_⟩;rintro ex L rfl;have gg:=s1.below.size;have C:∀e,vE (vE Oo A s) V o e->e<o.heap.size:=λe f=>(r2.is.low e f).2;have eh:=r2.round HS.out r7 s1 (own:=fW ⟨⟨3,0,1,(x.w.n:Int),(u.w.n:Int),x.w.tu,u.w.tu,y.G⟩,y.pa,y.pc⟩) (λe f=>(ao e (eg e f)).1);have ei:∀e,O5 e/\¬tD y e->(vE (vE Oo A s) V o e/\¬fW ⟨⟨3,0,1,(x.w.n:Int),(u.w.n:Int),x.w.tu,u.w.tu,y.G⟩,y.pa,y.pc⟩ e)/\g.heap.size<=e:=λe f=>⟨⟨jD (jD (q1 e f.1).1),f.2⟩,(q1 e f.1).2⟩;refine⟨?_,?_,⟨r6.below.trans s1.below,λe h1 G=>?_⟩,?_⟩
       .rw[s1.block _ (by omega) (jE (r2.two _ (by omega) (by omega) (by omega)))];exact r4
       .rw[s1.block _ (by omega) (jE (r2.two _ (by omega) (by omega) (by omega)))];exact r5
       .have gh:=r6.below.size
        rw[s1.block e (by omega) ?_]
        .exact r6.block e h1 G
        rcases G with (G|G)|G
        .exact jD G
        .rw[G];exact jE r2.kw.1
        exact jE (jD (jD (q1 e G).1))
       cases bb with
       |true=>
        refine jD ⟨rfl,_,_,ei,s2 rfl,eh,?_⟩;rw[nP,R,nP,Im];simp[hn]
       |false=>exact jE ⟨rfl,⟨_,_,ei,s3 rfl,eh⟩,by omega⟩
      rw[jEl b0.out b1.out Hx.out Hu.out,R,au.out,gV,d9.out,jB rfl,Ds,bp,Im,List.filterMap_cons,hn]
      simp)
     have fm:=X (λ(o:N)(F:Zb V o)=>Tu x.w.first.E x.w.first y.t x.fa x.fc y.ta y.tc o (jF _) (e1.out _ (by
      have h9:x.w∈dE c:=by rw[<-b0.out];exact bP.2 ⟨x,jU Hx.out,rfl⟩
      exact(uW.1 h9).1)) ((HG.out o F).2.1.is.qz e8.out) (kQ (λ_ _=>trivial) (xN (λe f _=>by
      rcases f with f|f
      .exact((HG.out o F).2.1.is.kk e f).trans (b5.out.is.kk e f).symm
      rw[f];exact(HG.out o F).2.1.kw.2) br)))
     obtain⟨K,bu⟩:∃K,K=V.alloc (.cells #[Y 3,Y 0,Y 1,Y (x.w.n:Int),Y (u.w.n:Int),.bool x.w.tu,.bool u.w.tu,.slice y.pa y.G.length y.pc] 81):=⟨_,rfl⟩;have ay:Zb V K:=bu▸jG _ _;obtain⟨cr,cs,bm,ct,cu,cv⟩:=bt.kd.2;obtain⟨gi,gj,gl,gm,gn,go⟩:=bt.qb.2;obtain⟨c0,c1,c2,c3,c4,c5⟩:=(HG.out K ay).2.1.kd.2;have i8:I8 K V.heap.size ⟨3,0,1,(x.w.n:Int),(u.w.n:Int),x.w.tu,u.w.tu,y.G⟩ y.pa y.pc:=(by rw[bu];exact I8.new (i:=⟨3,0,1,(x.w.n:Int),(u.w.n:Int),x.w.tu,u.w.tu,y.G⟩) (a:=y.pa) (k:=y.pc) _ rfl);have ej:=(HG.out K ay).2.1.kx.2;have c8:=(HG.out K ay).2.1.is.cell HC.out.2.2.1 HC.out.2.2.2;have ek:V.heap[A.heap.size]? =some (.cells #[Y y.t.v,Y y.t.f,.slice y.ta y.t.e.length y.tc] 43):=by
      rw[hV,World.putObj_heap_other (by omega),bi.out];exact World.alloc_heap_new _ _
     have cc:=(ay.block A.heap.size (by omega)).trans ek;have p0:K.cell? (D A.heap.size 0)=some (Y y.t.v):=(by simp[World.cell?,cc]);have p1:K.cell? (D A.heap.size 1)=some (Y y.t.f):=(by simp[World.cell?,cc]);have p2:K.cell? (D A.heap.size 2)=some (.slice y.ta y.t.e.length y.tc):=(by simp[World.cell?,cc]);have fo:=X (λ(V3:N)(F:Zb K V3)=>(show Zq V3 W.heap.size 0 (.func (.yield v) #[] #[]) from jP F ej));have fp:=X i8;have cd:=X bu;have bv:=X ay;obtain⟨i0,i1,i2,i3,i4,i5,i6,i7⟩:=i8;rw[bu] at c0 c1 c2 c3 c4 c5 ej c8 p0 p1 p2 i0 i1 i2 i3 i4 i5 i6 i7;clear q1 q2 z R bp bq br ad ao hl hD b6 b7 bs fl b8 ed ee bt b9 c7 ef ek cc bu ay HQ HL b5 ea eb b2 am bj bk b3 bl an au hV;by_cases hv:y.t.v=0
     .have fq:(y.t.v==0)=true:=by simpa using hv
      have Hv:=X hv;clear hv
      have bw:Hid (mM c d=true\/fM x.w.first y.t=true->aH (mM c d) x.w u.w y.val=some ⟨3,0,1,(x.w.n:Int),(u.w.n:Int),x.w.tu,u.w.tu,y.G⟩):=X (λE=>by
       rw[aH]
       rcases E with E|E<;>simp[zI.val,Hv.out,E])
      have ce:Hid (mM c d=false->fM x.w.first y.t=false->aH (mM c d) x.w u.w y.val=none):=X (λh1 G=>by
       rw[aH]
       simp[zI.val,h1,G])
      cases cf:mM c d with
      |true=>
       rw[cf] at c8 ca cb bw ce;obtain⟨fr,fs,ft,fu,hy,hR⟩:=cb K bv (bw (jD rfl));have ap:=X hR;rw[cd.out] at hy;clear hR cf bw ce
       gi_wp2_with (first
        |(rw[<-cd.out]
          first
           |refine⟨rfl,ap.mono ?_⟩
           |refine⟨trivial,ap.mono ?_⟩
          rintro l ab ⟨bb,rfl,bx⟩;have c9:=X bx;clear bx hy ap
          cases bb)
        |(with_reducible refine oW ?_)
        |(with_reducible refine Gh ?_))
       all_goals (first
        |(rename_i el bz em
          exact jN bz (by simp[undef]))
        |exact c9 _ _ rfl)
      |false=>
       rw[cf] at c8 ca cb bw ce;have fv:=X (fm K bv);clear cf
       gi_wp2_with (first
        |(refine⟨trivial,rfl,?_⟩
          gi_at_call 139;rw[<-cd.out];refine(CallsIn.inRound _ (callsIn_wide.2 fv)).mono ?_;rintro l V3 ⟨⟨fw,rfl,hr⟩,cg⟩;obtain⟨z0,z1,z2,z3,z4,z5,z6,z7⟩:=fp.below cg;have gp:=fo V3 cg;have en:=X (bv.trans (cg.mono bv.size));have Hr:=X hr;clear cg hr
          cases fw
          all_goals (try (obtain⟨fr,fs,ft,fu,hy,hR⟩:=cb V3 en (bw (jE (Hr.1 rfl)));have ap:=X hR;clear hR)))
        |(first
           |refine⟨rfl,ap.mono ?_⟩
           |refine⟨trivial,ap.mono ?_⟩
          rintro l ab ⟨bb,rfl,bx⟩;have c9:=X bx;clear bx hy ap
          cases bb)
        |(with_reducible refine oW ?_))
       all_goals (first
        |(rename_i el bz em
          exact jN bz (by simp[undef]))
        |exact c9 _ _ rfl
        |exact ca V3 _ en (ce (by first|trivial|rfl) (by
          cases E:fM x.w.first y.t
          .rfl
          exact jN (Hr.2 E) (by simp))))
     have fq:(y.t.v==0)=false:=by simpa using hv
     have Hn:Hid (aH (mM c d) x.w u.w y.val=none):=X (by
      rw[aH]
      simp[zI.val,hv])
     clear hv;gi_wp2_with (first|(with_reducible refine oW ?_)|(with_reducible refine Gh ?_))
     all_goals (first
      |(rename_i el bz em
        exact jN bz (by simp[undef]))
      |(rw[<-cd.out]
        exact ca K _ bv Hn))
    .rintro O5 xs ab fx ⟨Oo,ah,q1,q2,z,R⟩ hD fy eo
     have fz:Hid (ah.map vA.i=(q.take h).flatMap (λl=>(dE d).flatMap (gV c d l.w))++(t.take (J+1)).flatMap (λl=>gV c d x.w l.w)):=X (by
      rw[R,fx,Fo Hu.out,au.out,gV,d9.out]
      simp[Ds])
     have da:=X (gN.cons z.marks (z.two g.heap.size (jF _) (by omega) (by omega)) hD (λrs db dc=>Nat.lt_irrefl _ (z.qj rs db _ dc)));have HQ:=X (jM q2 z);clear q1 q2 z R hD eo ak;gi_wp2;refine⟨⟨_,_,_,_,_,_,_,_,_,_,_,_,_,_,_,_,_,J+1,Oo,ah,⟨by go_num,by omega,fz,X HQ.1,X HQ.2.is,da,X HQ.2.vf,X HQ.2.vg,X HQ.2.kd,X HQ.2.kx⟩,rfl⟩,?_⟩;simp[intOf];omega
    rintro O5 cz ab ⟨⟨Oo,ah,q1,q2,z⟩,gq⟩ hD fy eo;have da:=gN.cons z.marks (z.two g.heap.size (jF _) (by omega) (by omega)) hD (λrs db dc=>Nat.lt_irrefl _ (z.qj rs db _ dc));exact Xn da (λB2 f0=>⟨_,sD rfl _ _ _,⟨_,rfl⟩,jE ⟨Oo,ah,hT _ _ _ _ q2 f0⟩⟩)
  have f1:J=t.length:=by omega
  subst f1
  have f2:Hid (aa.map vA.i=(q.take (h+1)).flatMap (λl=>(dE d).flatMap (gV c d l.w))):=X (by
   rw[au.out,Fo Hx.out,qU,<-b1.out,Io])
  clear au;gi_wp2;refine⟨⟨_,_,_,_,_,_,_,_,_,_,_,_,_,_,_,_,_,_,_,_,_,I,h+1,Z,aa,⟨by go_num,by omega,f2,b2,am,bj,bk,an⟩,rfl⟩,?_⟩;simp[intOf];omega
 have f3:h=q.length:=by omega
 subst f3;have f4:Hid (pre.map vA.i=iQ c d):=X (by rw[Hp.out,qU,DJ,<-b0.out,Io]);clear Hp;gi_wp2;exact Xn HM (λab hB=>⟨_,sD rfl _ _ _,⟨_,rfl⟩,jD ⟨O,pre,f4,P _ _ _ _ _ HJ hB (λe f=>⟨kV (HI.low e f).2 hB.below.size,jD f⟩)⟩⟩)
def zX(K:Zp)(w:N)(e:Zm)(b f:Nat):Prop:=K b/\∀j c,e[j]? =some c->∃a d,w.cell? (D b (f+j))=some (.slice a c.length d)/\c.length<=d/\qA K w c a
def zX.clauses:∀{b:Zm}{c a:Nat},zX p w b c a->zM w b (some (D c a)):=by
 intro b;induction b with
 |nil=>intro c a _;trivial
 |cons d b e=>
  intro c a h;obtain⟨f,g,i,_,k⟩:=h.2 0 d rfl;refine⟨c,a,f,g,rfl,i,dA k,e ⟨h.1,λj l hd=>?_⟩⟩;have:=h.2 (j+1) l (by simpa using hd);rw[show a+1+j=a+(j+1) by omega];exact this
def zX.same{w':N}{c:Zm}(h:zX p w c k n)(d:∀b,p b->w'.heap[b]? =w.heap[b]?):zX p w' c k n:=by
 refine⟨h.1,λj e f=>?_⟩;obtain⟨g,i,l,m,o⟩:=h.2 j e f;exact⟨g,i,(kH (w:=w) (a:=(D k (n+j))) (d k h.1)).trans l,m,xP (λb e _=>⟨e,d b e⟩) o⟩
structure zH (K C:Zp) (w P:N) (gv dv fv:Zv) (Oo:Zp) (A:N):Prop where
 is:IS K w w Oo A
 b3:Oo w.heap.size/\A.cell? (D w.heap.size 0)=some gv
 b4:Oo (w.heap.size+1)/\A.cell? (D (w.heap.size+1) 0)=some dv
 b5:Oo (w.heap.size+2)/\A.cell? (D (w.heap.size+2) 0)=some fv
 b6:Oo (w.heap.size+3)/\A.heap[w.heap.size+3]? =some (.cells #[.bool false] 4)
 cap:∀k,C k->Oo k/\A.heap[k]? =P.heap[k]?
 two:∀k,P.heap.size<=k->k<P.heap.size+2->k<A.heap.size->Oo k
 size:P.heap.size<=A.heap.size
structure cN (K C:Zp) (w P:N):Prop where
 hK:∀k,K k->k<P.heap.size
 hC:∀k,C k->k<P.heap.size
 vn:∀k,C k->w.heap.size+4<=k
 hw:w.heap.size+4<=P.heap.size
section
variable {K C:Zp} {w P:N} {gv dv fv:Zv} {Oo Oo':Zp} {A B:N}
def zH.keep(d:cN K C w P)(h:zH K C w P gv dv fv Oo A)(f:A.heap.size<=B.heap.size)(g:∀k,K k->B.heap[k]? =A.heap[k]?)(b:∀k,k<P.heap.size->Oo k->B.heap[k]? =A.heap[k]?/\Oo' k)(i:∀k,Oo' k->w.heap.size<=k/\k<B.heap.size)(j:∀k,P.heap.size<=k->k<P.heap.size+2->k<B.heap.size->Oo' k):zH K C w P gv dv fv Oo' B:=by
 have n:=d.hw;have e:∀{c:Nat}{v:Zv},c<P.heap.size->Oo c->Zq A c 0 v->Zq B c 0 v:=λc l m=>(kH (w:=A) (a:=(D _ 0)) (b _ c l).1).trans m
 exact⟨⟨λk c=>by rw[g k c];exact h.is.kk k c,kN h.is.size f,i⟩,⟨(b _ (by omega) h.b3.1).2,e (by omega) h.b3.1 h.b3.2⟩,⟨(b _ (by omega) h.b4.1).2,e (by omega) h.b4.1 h.b4.2⟩,⟨(b _ (by omega) h.b5.1).2,e (by omega) h.b5.1 h.b5.2⟩,⟨(b _ (by omega) h.b6.1).2,(b _ (by omega) h.b6.1).1.trans h.b6.2⟩,
  λk c=>⟨(b k (d.hC k c) (h.cap k c).1).2,(b k (d.hC k c) (h.cap k c).1).1.trans (h.cap k c).2⟩,j,kN h.size f⟩
def zH.step(c:cN K C w P)(h:zH K C w P gv dv fv Oo A)(e:∀k,p k->Oo k/\P.heap.size<=k)(a:jR p A B)(d:sP p p1 A B):zH K C w P gv dv fv (λk=>Oo k\/p1 k\/(A.heap.size<=k/\k<B.heap.size/\k<P.heap.size+2)) B:=by
 have i:=a.below.size;have f:∀k,k<P.heap.size->¬p k:=λk a d=>by have:=(e k d).2;omega
 have n:=h.size;have o:=h.is.size;refine h.keep c i (λk b=>a.block k (by have:=c.hK k b;omega) (f k (c.hK k b))) (λk b g=>⟨a.block k (by omega) (f k b),jD g⟩) ?_ ?_
 .rintro k (b|b|b)
  .have:=h.is.low k b;omega
  .obtain⟨q1,q2|q2⟩:=d k b
   .have:=h.is.low k (e k q2).1;omega
   omega
  omega
 intro k j g l;by_cases m:k<A.heap.size
 .exact jD (h.two k j g m)
 exact jE (jE ⟨by omega,l,g⟩)
def zH.fresh(b:cN K C w P)(h:zH K C w P gv dv fv Oo A)(a:Zb A B):zH K C w P gv dv fv (vE Oo A B) B:=by
 have d:=a.size;have j:=h.size;have l:=h.is.size;refine h.keep b d (λk c=>a.block k (by have:=b.hK k c;omega)) (λk c c=>⟨a.block k (by omega),jD c⟩) ?_ ?_
 .rintro k (c|c)
  .have:=h.is.low k c;omega
  omega
 intro k e f g;by_cases i:k<A.heap.size
 .exact jD (h.two k e f i)
 exact jE ⟨by omega,g⟩
def zH.put(b:cN K C w P)(h:zH K C w P gv dv fv Oo A)(o:Obj):zH K C w P gv dv fv Oo (A.putObj (P.heap.size+1) o):=by
 have e:=h.size;exact h.keep b (by simp) (λk a=>World.putObj_heap_other (by have:=b.hK k a;omega)) (λk a c=>⟨World.putObj_heap_other (by omega),c⟩) (λk a=>by have:=h.is.low k a;simpa using this) (λk a c d=>h.two k a c (by simpa using d))
def zH.round(d:cN K C w P)(h:zH K C w P gv dv fv Oo A){own:Zp}(i:P.heap.size+2<=A.heap.size)(b:KR K Oo A B)(e:∀k,own k->P.heap.size+2<=k):zH K C w P gv dv fv (λk=>Oo k/\¬own k) B:=by
 have f:=b.below.size;have j:=h.size;refine h.keep d f (λk a=>b.block k (by have:=d.hK k a;omega) (jD a)) (λk a c=>⟨b.block k (by omega) (jE c),c,λc=>by have:=e k c;omega⟩) (λk a=>by have:=h.is.low k a.1;omega) (λk a g l=>?_);exact⟨h.two k a g (by omega),λc=>by have:=e k c;omega⟩
def zH.kpz_put(a:zH K C w P gv dv fv Oo A)(o:Obj):jR Oo A (A.putObj (P.heap.size+1) o):=by
 by_cases h:P.heap.size+1<A.heap.size
 .exact jR.putObj (a.two _ (by omega) (by omega) h) o
 rw[BK (by omega)];exact jR.refl _ _
end
def lG(J:Zp->List vA->N->Prop)(F:Zp->N->Prop)(P:N)(O:Zp)(pre:List vA)(A:N):Prop:=∃Oo:Zp,(∀k,O k->Oo k/\P.heap.size<=k)/\J Oo pre A/\F Oo A
section
variable {K C:Zp} {w P:N} {gv dv fv:Zv} {J T':Zp→List vA→N→Prop}
def lG.step(g:cN K C w P)(h:∀O b pre A B,J O pre A->jR O A B->sP O b A B->J b pre B)(O b:Zp)(pre:List vA)(A B:N)(i:lG J (zH K C w P gv dv fv) P O pre A)(c:jR O A B)(e:sP O b A B):lG J (zH K C w P gv dv fv) P b pre B:=by
 obtain⟨Oo,d,j,f⟩:=i;have l:=f.size;have m:=c.below.size;refine⟨_,λk a=>⟨jE (jD a),?_⟩,h Oo _ pre A B j (c.mono (λk c=>(d k c).1)) ?_,f.step g d c e⟩
 .obtain⟨q1,q2|q2⟩:=e k a
  .exact(d k q2).2
  omega
 rintro k (a|a|a)
 .exact⟨by have:=f.is.low k a;omega,jD a⟩
 .obtain⟨q1,q2|q2⟩:=e k a
  .exact⟨q1,jD (d k q2).1⟩
  exact⟨q1,jE q2⟩
 exact⟨a.2.1,jE a.1⟩
def lG.put(c:cN K C w P)(d:∀O b pre A B,J O pre A->jR O A B->sP O b A B->J b pre B)(O:Zp)(pre:List vA)(A:N)(o:Obj)(h:lG J (zH K C w P gv dv fv) P O pre A):lG J (zH K C w P gv dv fv) P O pre (A.putObj (P.heap.size+1) o):=by
 obtain⟨Oo,e,f,a⟩:=h;exact⟨Oo,e,d Oo Oo pre A _ f (a.kpz_put o) (Gd (λk g=>(a.is.low k g).2) (by simp)),a.put c o⟩
def lG.stepT(c:cN K C w P)(g:∀O pre A B,T' O pre A->jR O A B->T' O pre B)(O:Zp)(pre:List vA)(A B:N)(h:lG T' (zH K C w P gv dv fv) P O pre A)(m:P.heap.size+2<=A.heap.size)(a:jR O A B):lG T' (zH K C w P gv dv fv) P O pre B:=by
 obtain⟨Oo,d,i,e⟩:=h;have j:=a.below.size;have f:∀k,k<P.heap.size->¬O k:=λk a b=>by have:=(d k b).2;omega
 exact⟨Oo,d,g Oo pre A B i (a.mono (λk a=>(d k a).1)),e.keep c j (λk b=>a.block k (by have:=c.hK k b;omega) (f k (c.hK k b))) (λk b l=>⟨a.block k (by omega) (f k b),l⟩) (λk b=>by have:=e.is.low k b;omega) (λk q1 q2 b=>e.two k q1 q2 (by omega))⟩
def lG.putT(b:cN K C w P)(c:∀O pre A B,T' O pre A->jR O A B->T' O pre B)(O:Zp)(pre:List vA)(A:N)(o:Obj)(h:lG T' (zH K C w P gv dv fv) P O pre A):lG T' (zH K C w P gv dv fv) P O pre (A.putObj (P.heap.size+1) o):=by
 obtain⟨Oo,d,e,a⟩:=h;exact⟨Oo,d,c Oo pre A _ e (a.kpz_put o),a.put b o⟩
end
def YB(a:Zo)(n b:Nat)(w:N):Calls Zf 103 #[.slice a n b] w λe c=>e=.returned (.func (.func 136) #[] #[Zr w.heap.size])/\c=w.alloc (.cells #[.slice a n b] 39):=by
 go_in
 go_wp2;go_ret;exact⟨rfl,rfl⟩
def Uk(a:Zb (w.alloc (.cells #[.bool false] g)) u):u.heap[w.heap.size]? =some (.cells #[.bool false] g):=(a.block _ (by simp)).trans (World.alloc_heap_new _ _)
def Ul(h:w.heap[k]? =some (.cells #[.bool false] g)):w.cell? (D k 0)=some (.bool false)/\w.frozen? (D k 0)=false:=⟨by simp[World.cell?,h],by simp[World.frozen?,h]⟩
def jEm(l:Nat)(m:Nat)(Q:c.length<=1000)(R:d.length<=1000)(B:∀x,x∈c->xO x)(C:∀x,x∈d->xO x)(E:0<=xK c 0/\xK c 0<=1000)(F:0<=xK d 0/\xK d 0<=1000)(I:kR w c a)(hd:kR w d a1):
 Calls Zf 104 #[.slice a c.length l,.slice a1 d.length m] w λu e=>∃v,u=.returned (.func (.func 141) #[] #[Zr w.heap.size,Zr (w.heap.size+1),Zr v])/\w.heap.size+2<=v/\e.cell? (D w.heap.size 0)=some (.slice a c.length l)/\e.cell? (D (w.heap.size+1) 0)=some (.slice a1 d.length m)/\e.cell? (D v 0)=some (.bool (mM c d))/\Zb w e:=by
 obtain⟨b,i⟩:=Ze ((w.alloc (.cells #[Zk a c l] 39)).alloc (.cells #[Zk a1 d m] 39));have j:Zb w b:=i▸kF _ _ _;have J:b.heap.size=w.heap.size+2:=by rw[i];simp
 have K:b.cell? (D w.heap.size 0)=some (Zk a c l):=by rw[i,kW (by simp)];exact jJ 0 rfl
 have L:b.cell? (D (w.heap.size+1) 0)=some (Zk a1 d m):=by rw[i];exact jJ 0 (by simp)
 have M:=X (λ(e:N)(h:Zb b e)=>Ib c a l e Q B (kL (j.trans (h.mono j.size)) I));have O:=X (λ(e:N)(h:Zb b e)=>Ib d a1 m e R C (kL (j.trans (h.mono j.size)) hd));have r:Hid (mM c d=decide (1000<xK c 0+xK d 0)):=X rfl;generalize xK c 0=G at M r E;generalize xK d 0=H at O r F;generalize mM c d=fr at r ⊢;obtain⟨ac,ad⟩:=E;obtain⟨ae,af⟩:=F;have ag:IntKind.i64.wrap (G+H)=G+H:=by rw[IntKind.wrap_i64];omega
 have S:=X i;have k:=X j;have U:=X J;have y:=λ(e:N)(h:Zb b e)=>jH h K;have z:=λ(e:N)(h:Zb b e)=>jH h L;have ah:=jW b.heap.size b;clear i j J I hd B C K L
 go_in
 go_upto_region 1 with fail
 rw[<-S.out]
 cases hd:decide (1000<G+H)
 all_goals
  have V:=X (r.out.trans hd)
  go_region_held3 (λe=>Zb b e) ((first|with_reducible exact f.out|with_reducible exact n.out|((go_grown<;>(first|exact f|exact n|exact g|exact o|(show b.heap.size<=_;omega)));done)|go_keep)) ((first
   |(go_at_call 140
     with_reducible refine(M.out _ ?_).mono ?_
     .go_grown
     rintro u q ⟨rfl,A⟩
     have n:Hid (Zb b q):=X (by
      refine zT ?_ (A.mono ?_)
      .go_grown
      first|omega|(simp;omega)|(simp;done))
     have g:=X n.size
     try (have P:Hid (q.heap[b.heap.size]? =some (.cells #[.bool false] 4)):=X (Uk (dN A)))
     clear A)
   |(go_at_call 140
     with_reducible refine(O.out _ ?_).mono ?_
     ·(go_grown<;>(first|exact n|exact g))
     rintro u s ⟨rfl,t⟩
     have f:Hid (Zb b s):=X (by
      refine zT ?_ (t.mono ?_)
      ·(go_grown<;>(first|exact n|exact g))
      first|exact g|(have:=g.out;simp;omega))
     have o:=X f.size
     try (have W:=Ul (Uk t);obtain⟨Z,ai⟩:=W)
     try (have aa:=Ul ((t.block b.heap.size (gJ.1 P).1).trans P);obtain⟨ab,aj⟩:=aa)
     clear t)))
  all_goals (
   go_wp2_with fail
   go_ret;have hz:=U.out;have ak:=g.out;have al:=o.out;rw[V.out]
   first
    |exact⟨_,rfl,by omega,y _ (f.trans ((jG s _).mono o)),z _ (f.trans ((jG s _).mono o)),jJ 0 rfl,k.trans ((f.trans ((jG s _).mono o)).mono k.size)⟩
    |exact⟨_,rfl,by omega,y _ (bD (p:=(D q.heap.size 0)) f g _),z _ (bD (p:=(D q.heap.size 0)) f g _),pS _ _ _ Z,k.trans ((bD (p:=(D q.heap.size 0)) f g _).mono k.size)⟩
    |exact⟨_,rfl,by omega,y _ (bD (p:=(D b.heap.size 0)) f (jF _) _),z _ (bD (p:=(D b.heap.size 0)) f (jF _) _),pS _ _ _ ab,k.trans ((bD (p:=(D b.heap.size 0)) f (jF _) _).mono k.size)⟩)
def YY:∀(d:Nat)(t:T)(b:Zn),t.E<=d->∀p,p∈zR t b->p.1.length<=b.length+t.E:=by
 intro d;induction d with
 |zero=>intro t b h;have:=t.I;omega
 |succ d e=>
  intro t b h p a;have j:=T.M t;rw[Qc] at a;rcases qO.1 a with rfl|a
  .show b.length<=_;omega
  have f:∀(c:Zt)(n:Int),T.E.szL c<=d->p∈zR.plcsL c b n->p.1.length<=b.length+1+T.E.szL c:=by
   intro c;induction c with
   |nil=>intro n _ a;rw[AZ] at a;cases a
   |cons g c c=>
    intro n i a;rw[T.F] at i;rw[AV] at a;rw[T.F];rcases vD.1 a with a|a
    .have:=e g (b++[n]) (by omega) p a
     rw[qB,Ir] at this;omega
    have:=c (n+1) (by omega) a;omega
  have:=f t.e 0 (by omega) a;omega
def DH{e:Zm}(g:∀c,c∈e->∀x,x∈c->xO x){i:jX}(a:i∈bV e):i.G.length<=1000:=by
 have j:∀c,i∈aW c->i.G=[]:=by
  intro c h;rw[aW,Bl] at h;obtain⟨s,_,h⟩:=h;rw[fF,vD] at h;rcases h with h|h
  .split at h
   .rw[vY.1 h]
   cases h
  obtain⟨u,_,h⟩:=Mt.1 h;split at h
  .cases h;rfl
  cases h
 have k:∀c d,(∀x,x∈d->xO x)->i∈iQ c d->i.G.length<=1000:=by
  intro c d hd h;rw[iQ,Bl] at h;obtain⟨n,_,h⟩:=h;obtain⟨u,l,h⟩:=Bl.1 h;split at h
  .rw[Ds] at h
   obtain⟨p,m,h⟩:=Mt.1 h;rw[aH] at h;split at h
   .cases h
    have b:=YY u.first.E u.first [] (jF _) p m;obtain⟨y,q1,q2⟩:=Lt d 0 u (uW.1 l).1;have f:=hd y q1;simp only[mZ,kK] at b;rcases q2 with q2|q2
    .rw[q2] at b;exact kN b f.1
    rw[q2] at b;exact kN b f.2
   cases h
  cases h
 match e,a with
 |[c],a=>rw[j c a];simp
 |c::d::r,a=>exact k c d (g d (by simp)) a
def jFm(h:qC r c):∀x,x∈c->xO x:=mP h
def Iz:∀{c:Zc}{g a:Nat}{B:List Nat},pQ w c g a B->p g->(∀j,j∈B->p j)->qA p w c (some (D g a)):=by
 intro c;induction c with
 |nil=>intro g a B _ _ _;trivial
 |cons x c f=>
  intro g a B h e d;obtain⟨s1,s2,y,z,A,rfl,i,k,l,m,n,o,q,o1,o2,r⟩:=h;obtain⟨s,t,rfl,i1⟩:=gK.1 (By o1);obtain⟨u,v,rfl,i2⟩:=gK.1 (By o2);exact⟨g,a,s,t,u,v,rfl,e,i,k,l,m,n,o,q,kQ (λj b=>d j (by simp[b])) i1,kQ (λj b=>d j (by simp[b])) i2,f r e (λj b=>d j (by simp[b]))⟩
def eP(p:Zp)(w:N):Zm->Zu->Prop
 |[],a=>a=[]
 |c::e,a=>∃b f d,a=.slice b c.length f::d/\qA p w c b/\eP p w e d
def FK{c f:Zm}:∀{a b:Zu},eP p w c a->eP p w f b->eP p w (c++f) (a++b):=by
 induction c with
 |nil=>intro a b d e;rw[show a=[] from d];exact e
 |cons x c g=>
  intro a b d e;obtain⟨h,i,j,rfl,k,l⟩:=d;exact⟨h,i,j++b,rfl,k,g l e⟩
def Mi{c:Zm}(b:∀k,p k->k<w.heap.size->p1 k/\u.heap[k]? =w.heap[k]?):∀{a:Zu},eP p w c a->eP p1 u c a:=by
 induction c with
 |nil=>intro a h;exact h
 |cons x c d=>
  intro a h;obtain⟨e,f,g,rfl,i,h⟩:=h;exact⟨e,f,g,rfl,xP b i,d h⟩
def FL{c:Zm}:∀{a:Nat}{b:Zu},eP p w c b->(∀j u,b[j]? =some u->w.cell? (D k (a+j))=some u)->zM w c (some (D k a)):=by
 induction c with
 |nil=>intro a b _ _;trivial
 |cons x c e=>
  intro a b h d;obtain⟨f,g,m,rfl,i,h⟩:=h;refine⟨k,a,f,g,rfl,d 0 _ rfl,dA i,e h λj u l=>?_⟩;rw[show a+1+j=a+(j+1) from by omega];exact d (j+1) u (by simpa using l)
def rI(a:Nat)(w:N)(l:Zv)(b:Zm):Prop:=
 ∃c,w.ownsRow a 39 1 l b.length c/\eP (λk=>a<=k/\l.ownBlock≠some k) w b c
def GH:rI k w (Zd) []:=⟨[],⟨rfl,jD ⟨rfl,rfl⟩⟩,rfl⟩
def jFg{l:Zv}{a:Zm}(h:rI k w l a)(b:Zb w u):rI k u l a:=by
 obtain⟨d,c,e⟩:=h;exact⟨d,vT c (λg f=>b.block g (kO c g f).2),Mi (λf g i=>⟨g,b.block f i⟩) e⟩
def Sr{b:Zm}(h:rI k w (.slice a n m) b):zM w b a:=by
 obtain⟨o,c,d⟩:=h;by_cases e:0<b.length
 .obtain⟨p,m,f,q,r,g⟩:=fX c e
  injection f with i s t
  rw[i];exact FL d (λj u l=>by rw[kK];exact g j u l)
 have:b=[]:=yM.1 (by omega);subst this;trivial
theorem Tryz.qh:(Zf.info? 39).map (λi=>(i.zero,i.size,i.bytes))=some (some (Zd),1,24):=by kernel_rfl
theorem Tryz.kq:Zf.underlying 25=some (.slice 39):=by kernel_rfl
def jAi{v u x:Zv}(d:TypeId)(f:w.ownsRow k 39 1 v n U)(g:x=Zx m 1 i)(h:w.cell? (D m 0)=some u)(l:u.oneCell'=true)(F:n<=100000)(o:k<=w.heap.size):
 ∃b c,(Builtin.append_ #[25,25] d #[v,x]).run Zf w=.ok b c/\c.ownsRow k 39 1 b (n+1) (U++[u])/\w.grownBy c v.ownBlock/\(b.ownBlock=v.ownBlock\/b.ownBlock=some w.heap.size):=by
 subst g;obtain⟨p,q,e⟩:=bQ.1 Tryz.qh;simp only[bG] at e;obtain⟨r,s,t⟩:=e
 obtain⟨b,c,y,z,A,_,B⟩:=run_append_own_at w k 25 d 39 p (Zd) 1 24 Tryz.kq q r s t rfl (by decide) v n U f (D m 0) 1 i [u] rfl (λj C a=>by
  have E:((D m 0):Addr).add j=(D m j):=by simp[Addr.add];omega
  rw[E]
  match j,a with
  |0,a=>simp at a;subst a;exact h
  |j+1,a=>simp at a) (λC a=>by simp at a;subst a;exact l) (by unfold maxLen;omega) (by omega) o
 exact⟨b,c,y,z,A,B⟩
def GG{v e:Zv}{f:Zm}(i:eP (λb=>k<=b/\v.ownBlock≠some b) w f U)(j:qA (λb=>k<=b/\v.ownBlock≠some b) w c a)
 (l:u.ownsRow k 39 1 e (f.length+1) (U++[.slice a c.length n])) (m:w.grownBy u v.ownBlock) (d:e.ownBlock=v.ownBlock\/e.ownBlock=some w.heap.size):rI k u e (f++[c]):=by
 refine⟨_,by rw[qB];exact l,Mi (λb g h=>⟨⟨g.1,?_⟩,m.block b h (λh=>g.2 h.symm)⟩) (FK i ⟨a,n,[],rfl,j,rfl⟩)⟩;rcases d with d|d
 .rw[d];exact g.2
 rw[d];intro h;cases h;omega
def eN(w:N):List jX->Zo->Prop
 |[],_=>True
 |i::p,d=>∃b a c e,d=some (D b a)/\w.cell? (D b a)=some (Y i.L)/\w.cell? (D b (a+1))=some (Y i.left)/\w.cell? (D b (a+2))=some (Y i.right)/\w.cell? (D b (a+3))=some (Y i.la)/\w.cell? (D b (a+4))=some (Y i.ra)/\
   w.cell? (D b (a+5))=some (.bool i.lt)/\w.cell? (D b (a+6))=some (.bool i.rt)/\w.cell? (D b (a+7))=some (.slice c i.G.length e)/\jV w i.G c/\eN w p (some (D b (a+8)))
def Mg(a:Zb w u):∀{p:List jX}{b:Zo},eN w p b->eN u p b:=by
 intro p;induction p with
 |nil=>intro b _;trivial
 |cons v p c=>
  intro b h;obtain⟨d,e,f,g,i,j,k,l,m,n,o,q,r,s,t⟩:=h;exact⟨d,e,f,g,i,jP a j,jP a k,jP a l,jP a m,jP a n,jP a o,jP a q,jP a r,kD a s,c t⟩
def FF{p:List jX}(h:eN w p a)(d:0<p.length):∃b c,a=some (D b c):=by
 cases p with
 |nil=>simp at d
 |cons i p=>obtain⟨b,c,f,g,e,_⟩:=h;exact⟨b,c,e⟩
def FE:∀{p:List jX}{b a k:Nat}{i:jX},eN w p (some (D b a))->p[k]? =some i->∃c e,w.cell? (D b (a+k*8))=some (Y i.L)/\w.cell? (D b (a+k*8+1))=some (Y i.left)/\w.cell? (D b (a+k*8+2))=some (Y i.right)/\w.cell? (D b (a+k*8+3))=some (Y i.la)/\w.cell? (D b (a+k*8+4))=some (Y i.ra)/\
 w.cell? (D b (a+k*8+5))=some (.bool i.lt)/\w.cell? (D b (a+k*8+6))=some (.bool i.rt)/\w.cell? (D b (a+k*8+7))=some (.slice c i.G.length e)/\jV w i.G c:=by
 intro p;induction p with
 |nil=>intro b a k i _ h;simp at h
 |cons y p g=>
  intro b a k i h d;obtain⟨z,A,c,e,f,j,l,m,n,o,q,r,s,t,u⟩:=h;injection f with f
  injection f with v x B
  subst v x
  cases k with
  |zero=>
   rw[vP] at d;obtain rfl:=kT d;rw[Iv,mG];exact⟨c,e,j,l,m,n,o,q,r,s,t⟩
  |succ k=>
   rw[xS] at d;have:=g u d;rw[show a+8+k*8=a+(k+1)*8 by omega] at this;exact this
def Xs(h:w.heap[k]? =some (.cells #[.bool B] 4)):(loadVar 4 (D k 0)).run Zf w=.ok (.bool B) w:=by
 have a:w.cell? (D k 0)=some (.bool B):=by simp[World.cell?,h]
 simp[loadVar,load,Sem.run,a]
def Pi(h:IP p w r a):jV w r a:=by
 rcases h with h|⟨b,c,d,_,e⟩
 .exact jD h
 exact jE ⟨b,c,d,e⟩
def BS{a:Func}{t:Tmp}{b:Addr}{v:Zv}{c:Zy}(h:a.results=#[.cell t g])(d:c[t]?.getD undef=.pointer (some b))(e:(loadVar g b).run Zf w=.ok v w):(results a c).run Zf w=.ok v w:=by
 simp[results,h,d,asAddr,e]
def Wj{x:Zc×Int}{e:Ending}(h:sH x k e w):∃b c,e=.returned (.tuple #[.slice b x.1.length c,Y x.2])/\x.1.length<=c/\qA (λj=>k<=j/\j<w.heap.size) w x.1 b:=by
 obtain⟨b,c,f,m,a⟩:=h;refine⟨b,c,f,?_,?_⟩
 .rcases a with a|⟨g,B,_,n,_⟩
  .rw[a];simp
  omega
 rcases a with a|⟨g,B,rfl,_,i,_,d⟩
 .rw[a];trivial
 exact Iz i (d g (by simp)) (λj l=>d j (by simp[l]))
attribute [local go_sem] Oper.semAt_some
def AA(z:Nat){u:Zy}{e:Zm}(C:Nat)(J T':Zp->List vA->N->Prop)
 (bv:∀aa w,(callFunc k aa).run Zf w=.ok (.enter k aa) w) (ad:∀c,p c->c<w.heap.size) (hg:IP p w r a) (a3:zX p w e n m) (h:e.length=1\/e.length=2) (Q:∀R,R∈e->R.length<=1000/\qC r R)
 (hJ:∀O O' pre A B,J O pre A->jR O A B->sP O O' A B->J O' pre B) (hT:∀O pre A B,T' O pre A->jR O A B->T' O pre B)
 (bk:∀O pre x A(ao:Zp)q l,J O pre A->iM (bV e) pre x A->(∀c,fW x c->O c)->(∀c,ao c->O c)->qA ao A (qX r e x.i).1 q->(qX r e x.i).1.length<=l->Calls Zf k (#[zV x.i x.pa x.pc,.slice q (qX r e x.i).1.length l,Y (qX r e x.i).2]++u) A λo B=>∃i,o=.returned (.bool i)/\KR p O A B/\(i=true->J (λc=>O c/\¬(fW x c\/ao c)) (pre++[x]) B)/\(i=false->T' (λc=>O c/\¬(fW x c\/ao c)) (pre++[x]) B))
 (h0:J (λ_=>False) [] w):
 Calls Zf 70 #[.agg #[.slice a r.length z],.func (.func k) #[] u,.slice (some ⟨n,m,none⟩) e.length C] w λo B=>∃i,o=.returned (.bool i)/\(i=true->∃O K,K.map vA.i=bV e/\J O K B)/\(i=false->∃O pre,T' O pre B):=by
 obtain⟨g,f⟩:=Ze ((((w.alloc (.cells #[.slice a r.length z] 24)).alloc (.cells #[.func (.func k) #[] u] 120)).alloc (.cells #[.slice (some ⟨n,m,none⟩) e.length C] 25)).alloc (.cells #[.bool false] 4));have j:Zb w g:=by rw[f];exact(bJ _ _ _ _).alloc (by first|(simp;done)|(simp;omega)) _
 have ap:g.heap.size=w.heap.size+4:=by rw[f];simp
 have U:g.cell? ⟨w.heap.size,0,none⟩=some (.slice a r.length z):=by rw[f,kW (by first|(simp;done)|(simp;omega)),kW (by first|(simp;done)|(simp;omega)),kW (by simp)];exact jJ 0 rfl
 have V:g.cell? ⟨w.heap.size+1,0,none⟩=some (.func (.func k) #[] u):=by rw[f,kW (by first|(simp;done)|(simp;omega)),kW (by simp)];exact jJ 0 (by simp)
 have H:g.cell? ⟨w.heap.size+2,0,none⟩=some (.slice (some ⟨n,m,none⟩) e.length C):=by rw[f,kW (by simp)];exact jJ 0 (by simp)
 have W:g.heap[w.heap.size+3]? =some (.cells #[.bool false] 4):=by
  rw[f];have:=World.alloc_heap_new (((w.alloc (.cells #[.slice a r.length z] 24)).alloc (.cells #[.func (.func k) #[] u] 120)).alloc (.cells #[.slice (some ⟨n,m,none⟩) e.length C] 25)) (.cells #[.bool false] 4);simp only[qE] at this;exact this
 have aq:Hid (IS p w w (vE (λ_=>False) w g) g):=X (IS.fresh ⟨λ_ _=>rfl,jF _,λc d=>d.elim⟩ ad j);have a4:=X (hJ _ _ _ _ _ h0 (jR.A j) (fY (λc d=>d.elim)));have a5:=X (a3.same (w':=g) (λc d=>j.block c (ad c d)));have P:=X (jM U (jM V (jM H W)));have a6:=X f;have bw:=X j;have a7:=X ap;rw[f] at H;refine(callsIn_wide (n:=0)).1 ?_;refine callsIn_of_wp_marks Tryz.func70 rfl trivial ?_ rfl;simp only[Tryz.ntmps70,Es,xI,mZ,Nat.reduceAdd,Nat.reduceSub,Gs,Gt,It,Il,nQ,dW];obtain⟨E,y⟩:∃E,e[0]? =some E:=⟨e[0]'(by omega),jO _⟩;obtain⟨q,l,s,Z,ab⟩:=a5.2 0 E y;rw[mG] at s;have a8:=X (YB q E.length l g);have bl:=X s;have F:=X (jM y (jM Z ab));have I:=X Q;have bm:=X h;have bx:(0:Int)<e.length:=by omega
 rw[f] at s;have G:=X (jM hJ hT);clear f j ap U V W y Z ab Q;rcases h with h|U
 focus
  have ac:¬((1:Int)<(e.length:Int)):=by omega
  have Z:=X h;clear h;gi_wp2_with (refine⟨trivial,rfl,?_⟩;gi_at_call 103;rw[<-a6.out];refine(callsIn_wide.2 a8).mono ?_;rintro o q ⟨rfl,j⟩;have y:=X j;have f:Hid (Zb g q):=X (j▸jG _ _);have d5:=jP f P.2.2.1;clear j);have h_:Hid (∀aa w,(callFunc 136 aa).run Zf w=.ok (.enter 136 aa) w):=X (enters_of Tryz.func136 (by kernel_rfl) rfl);obtain⟨Y_,Q⟩:=Ze q
  have i_:Hid (∃(h V:Zp),cN p h w Y_/\zH p h w Y_ (.slice a r.length z) (.func (.func k) #[] u) (.slice (some ⟨n,m,none⟩) e.length C) V Y_/\J V [] Y_/\uQ Zf 136 #[.pointer (some ⟨g.heap.size,0,none⟩)] Cm fW (iM (bV e)) (λK=>K.map vA.i=bV e) (λc=>p c\/h c) Y_):=X (by
   subst Q;have ap:=a7.out;have ae:Y_.heap.size=g.heap.size+1:=(by rw[y.out];simp);have V:∀c,p c->c<Y_.heap.size:=λc d=>by have:=ad c d;omega
   refine⟨λc=>c=g.heap.size,_,⟨V,λc d=>by omega,λc d=>by omega,by omega⟩,⟨aq.fresh ad f,⟨jD (jE ⟨by omega,by omega⟩),jP f P.1⟩,⟨jD (jE ⟨by omega,by omega⟩),jP f P.2.1⟩,⟨jD (jE ⟨by omega,by omega⟩),jP f P.2.2.1⟩,⟨jD (jE ⟨by omega,by omega⟩),(f.block _ (by omega)).trans P.2.2.2⟩,λc d=>⟨jE ⟨by omega,by omega⟩,rfl⟩,λc W h h3=>by omega,jF _⟩,G.1 _ _ _ _ _ a4 (jR.A f) (fY (λc d=>kV (aq.low c d).2 f.size)),?_⟩;have ab:e=[E]:=by
    have W:=Z.out;have h:=F.1
    match e,W,h with
    |[R],_,h=>simp at h;rw[h]
   rw[ab];have h:=I E (jU F.1)
   exact YC (λc d=>by
    rcases d with d|d
    .exact V c d
    omega) h.1 F.2.1 (mP h.2) (xP (λc d W=>⟨jD d,f.block c W⟩) F.2.2) (jE rfl) (y.out▸jJ 0 rfl))
  subst Q
 rotate_left
 focus
  obtain⟨h,f⟩:∃h,e[1]? =some h:=⟨e[1]'(by omega),jO _⟩;obtain⟨da,dc,V,W,q⟩:=a5.2 1 h f;have y:=X (jM f (jM W q));have ar:(1:Int)<(e.length:Int):=by omega
  have ac:=X (λ(L:N)(j:Zb g L)=>jEm l dc (I E (jU F.1)).1 (I h (jU f)).1 (mP (I E (jU F.1)).2) (mP (I h (jU f)).2) (Fq E 0 (I E (jU F.1)).2 ⟨by omega,by omega⟩) (Fq h 0 (I h (jU f)).2 ⟨by omega,by omega⟩) (kL j (dA F.2.2)) (kL j (dA q)));have ae:=X V;have Q:=X U;clear f W q V U;gi_wp2_with (refine⟨trivial,rfl,?_⟩;gi_at_call 103;rw[<-a6.out];refine(callsIn_wide.2 a8).mono ?_;rintro o f ⟨rfl,U⟩;have af:=X U;have l:Hid (Zb g f):=X (U▸jG _ _);have d5:=jP l P.2.2.1;clear U);refine wpIn_wide.2 ?_;have ag:0<e.length:=by have:=Q.out;omega
  have ah:1<e.length:=by have:=Q.out;omega
  have ai:(1:Int)<(e.length:Int):=by omega
  have aj:(0:Int)<(e.length:Int):=by omega
  have x5:=λ(L:N)(j:Zb f L)=>jH j d5;have x0:=λ(L:N)(j:Zb f L)=>jH j (jP l bl);have x1:=λ(L:N)(j:Zb f L)=>jH j (jP l ae);have ak:=jW f.heap.size f;clear s H
  go_region_held3 (λL=>Zb f L) ((first|with_reducible exact q.out|((go_grown<;>exact q);done)|go_keep)) ((first
   |(go_at_call 104
     with_reducible refine(ac.out _ ?_).mono ?_
     .refine l.trans (yX (B:=f.heap.size) ?_ l.size)
      (go_grown)
     rintro o H ⟨s,rfl,q1,q2,V,W,j⟩;have q:Hid (Zb f H):=X (by first|exact j|exact dN j);have Z:=X (jM q1 (jM q2 (jM V W)))
     clear q1 q2 V W j)))
  gi_wp2;have h_:Hid (∀aa w,(callFunc 141 aa).run Zf w=.ok (.enter 141 aa) w):=X (enters_of Tryz.func141 (by kernel_rfl) rfl);obtain⟨Y_,V⟩:=Ze H
  have i_:Hid (∃(j H:Zp),cN p j w Y_/\zH p j w Y_ (.slice a r.length z) (.func (.func k) #[] u) (.slice (some ⟨n,m,none⟩) e.length C) H Y_/\J H [] Y_/\uQ Zf 141 #[.pointer (some ⟨f.heap.size,0,none⟩),.pointer (some ⟨f.heap.size+1,0,none⟩),.pointer (some ⟨s,0,none⟩)] Cm fW (iM (bV e)) (λK=>K.map vA.i=bV e) (λc=>p c\/j c) Y_):=X (by
   subst V;have ap:=a7.out;have au:f.heap.size=g.heap.size+1:=(by rw[af.out];simp);have av:=q.size;have j:Zb g Y_:=l.trans (q.mono l.size);obtain⟨q1,q2,H,W⟩:=Z;have aw:f.heap.size+2<=s:=q1;have al:=kA H;have am:=kA W;have ax:f.heap.size+1<Y_.heap.size:=al;have ay:s<Y_.heap.size:=am;have Z:∀c,p c->c<Y_.heap.size:=λc d=>by have:=ad c d;omega
   refine⟨λc=>c=f.heap.size\/c=f.heap.size+1\/c=s,_,⟨Z,λc d=>by omega,λc d=>by omega,by omega⟩,⟨aq.fresh ad j,⟨jD (jE ⟨by omega,by omega⟩),jP j P.1⟩,⟨jD (jE ⟨by omega,by omega⟩),jP j P.2.1⟩,⟨jD (jE ⟨by omega,by omega⟩),jP j P.2.2.1⟩,⟨jD (jE ⟨by omega,by omega⟩),(j.block _ (by omega)).trans P.2.2.2⟩,λc d=>⟨jE ⟨by omega,by omega⟩,rfl⟩,λc h1 q s=>by omega,jF _⟩,G.1 _ _ _ _ _ a4 (jR.A j) (fY (λc d=>kV (aq.low c d).2 j.size)),?_⟩;have an:e=[E,h]:=by
    have h1:=Q.out;have q:=F.1;have s:=y.1
    match e,h1,q,s with
    |[R,ab],_,q,s=>simp at q s;rw[q,s]
   rw[an];have s:=I E (jU F.1);have ab:=I h (jU y.1)
   exact jEn (λc d=>by
    rcases d with d|d
    .exact Z c d
    omega) s.1 F.2.1 (mP s.2) (xP (λc d q=>⟨jD d,j.block c q⟩) F.2.2) ab.1 y.2.1 (mP ab.2) (xP (λc d q=>⟨jD d,j.block c q⟩) y.2.2) (jE (jD rfl)) (jE (jE (jD rfl))) (jE (jE (jE rfl))) q2 H W)
  subst V;clear x5 x0 x1 ak ai aj ag ah
 all_goals
  obtain⟨U,OP,hS,hF,bn,bo⟩:=i_;have HS:=X hS;have HF:=X hF
  refine BT (s:=vA) (J:=Cm) (own:=fW) (W:=iM (bV e)) (Z:=λK=>K.map vA.i=bV e) (p:=λc=>p c\/U c) (u:=Y_) rfl h_ (λ_=>rfl) (λc d=>by
   rcases d with d|d
   .exact HS.hK c d
   .exact HS.hC c d) (jF _) (λ_ _=>rfl) bo
   (lG J (zH p U w Y_ (.slice a r.length z) (.func (.func k) #[] u) (.slice (some ⟨n,m,none⟩) e.length C)) Y_)
   (λO pre A=>lG T' (zH p U w Y_ (.slice a r.length z) (.func (.func k) #[] u) (.slice (some ⟨n,m,none⟩) e.length C)) Y_ O pre A/\Y_.heap.size+2<=A.heap.size)
   (λO O' pre A B q d ho=>lG.step HS G.1 O O' pre A B q d ho) (λO pre A l q=>lG.put HS G.1 O pre A l q)
   (λO pre A B q d=>⟨lG.stepT HS G.2 O pre A B q.1 q.2 d,kN q.2 d.below.size⟩) (λO pre A l q=>⟨lG.putT HS G.2 O pre A l q.1,by simpa using q.2⟩)
   ⟨OP,λc d=>d.elim,bn,hF⟩ ?_ ?_ ?_
  .rintro fn O5 ak y A ⟨Q,q1,q2,h⟩ ⟨⟨bp,af⟩,al⟩ ae ab hl W ar au
   have hw:=HS.hw;have bz:y.i.G.length<=1000:=DH (λR H=>mP (I R H).2) (by rw[af];simp);obtain⟨A1,f⟩:=Ze (A.alloc (.cells #[Y y.i.L,Y y.i.left,Y y.i.right,Y y.i.la,Y y.i.ra,.bool y.i.lt,.bool y.i.rt,.slice y.pa y.i.G.length y.pc] 81));have j:Zb A A1:=f▸jG _ _;have am:A1.heap.size=A.heap.size+1:=(by rw[f];simp);have a9:=X f;have HQ:=X (jM q1 (jM q2 (jM h (jM af (jM al (jM ae ab))))));have HL:=X (jM hl (jM W (jM ar au)));have ag:=X j;have bq:=X am;clear q1 q2 h af al ae ab hl W ar au f j am;dsimp only[Cm,zV];gi_wp2;rw[<-a9.out];refine⟨ag.out.block _ (by have:=HL.out.2.2.2;omega),?_⟩;generalize f:tY fn _ _ _ _ _ LoopState.busy=az;clear f;obtain⟨V,hV⟩:=Ze (A1.putObj (Y_.heap.size+1) az);rw[<-hV];obtain⟨q1,q2,h,af,al,ae,ab⟩:=HQ.out;obtain⟨hl,W,ar,au⟩:=HL.out;have am:=bq.out;have br:V.heap.size=A.heap.size+1:=(by rw[hV,World.putObj_size];exact am);have av:=h.fresh HS.out ag.out;have ba:=G.out.1 _ _ _ _ _ q2 (jR.A ag.out) (fY (λj f=>kV (h.is.low j f).2 ag.out.size));have bb:J (vE Q A A1) ak V:=(by rw[hV];exact G.out.1 _ _ _ _ _ ba (av.kpz_put az) (Gd (λj f=>(av.is.low j f).2) (by simp)));have ac:zH p U w Y_ (.slice a r.length z) (.func (.func k) #[] u) (.slice (some ⟨n,m,none⟩) e.length C) (vE Q A A1) V:=hV▸av.put HS.out az;have aw:∀j,j<A.heap.size->j≠Y_.heap.size+1->V.heap[j]? =A.heap[j]?:=λj h1 s=>by rw[hV,World.putObj_heap_other s];exact ag.out.block j h1
   have a0:∀j,(p j\/U j)\/O5 j->j≠Y_.heap.size+1/\j≠w.heap.size+3:=λj f=>by
    rcases f with (f|f)|f
    .have:=HS.out.hK j f;have:=ad j f;omega
    .have:=HS.out.hC j f;have:=HS.out.vn j f;omega
    have:=(ab j f).1;omega
   have a1:jV V y.i.G y.pa:=jV.same al (λj l f=>by
    have Z:=ae j ⟨l,f⟩
    exact aw j (ab j Z).2 (a0 j (jE Z)).1)
   have bc:V.heap[A.heap.size]? =some (.cells #[Y y.i.L,Y y.i.left,Y y.i.right,Y y.i.la,Y y.i.ra,.bool y.i.lt,.bool y.i.rt,.slice y.pa y.i.G.length y.pc] 81):=by
    rw[hV,World.putObj_heap_other (by omega),a9.out];exact World.alloc_heap_new _ _
   have a2:∀ah:N,ah.heap[A.heap.size]? =V.heap[A.heap.size]?->I8 ah A.heap.size y.i y.pa y.pc:=λah Z=>by
    have l:=Z.trans bc;exact⟨by simp[World.cell?,l],by simp[World.cell?,l],by simp[World.cell?,l],by simp[World.cell?,l],by simp[World.cell?,l],by simp[World.cell?,l],by simp[World.cell?,l],by simp[World.cell?,l]⟩
   have bs:=X (Rw z C y.pc (by have:=bm.out;omega) (λR H=>by have:=(I.out R H).1;omega) (by omega) (Pi (yH (λc d _=>⟨d,ac.is.kk c d⟩) hg)) a1 ((a3.same (λc d=>ac.is.kk c d)).clauses))
   have HG:Hid (∀(l:N)(ai:Zo)(aj:Nat),Zb V l->(qX r e y.i).1.length<=aj->qA (λj=>V.heap.size<=j/\j<l.heap.size) l (qX r e y.i).1 ai->Calls Zf k (#[.agg #[Y y.i.L,Y y.i.left,Y y.i.right,Y y.i.la,Y y.i.ra,.bool y.i.lt,.bool y.i.rt,.slice y.pa y.i.G.length y.pc],.slice ai (qX r e y.i).1.length aj,Y (qX r e y.i).2]++u) l λo B=>∃i,o=.returned (.bool i)/\B.cell? ⟨w.heap.size+3,0,none⟩=some (.bool false)/\B.frozen? ⟨w.heap.size+3,0,none⟩=false/\∀(ex:Exit)(a':Act)(B':N),ex=(if i then Exit.normal else Exit.ret)->B'=(if i then B else B.setCell ⟨w.heap.size+3,0,none⟩ (.bool false))->Ia (λc=>p c\/U c) O5 fW (lG J (zH p U w Y_ (.slice a r.length z) (.func (.func k) #[] u) (.slice (some ⟨n,m,none⟩) e.length C)) Y_) (λO pre A=>lG T' (zH p U w Y_ (.slice a r.length z) (.func (.func k) #[] u) (.slice (some ⟨n,m,none⟩) e.length C)) Y_ O pre A/\Y_.heap.size+2<=A.heap.size) ak y Y_.heap.size (Y_.heap.size+1) A V ex a' B'):=X (λl ai aj H ax ay=>by
    have b0:=H.size;have r1:=G.out.1 _ _ _ _ _ bb (jR.A H) (fY (λj f=>kV (ac.is.low j f).2 H.size));have r2:=ac.fresh HS.out H;refine(bk (vE (vE Q A A1) V l) ak y l (λj=>V.heap.size<=j/\j<l.heap.size) ai aj r1 ⟨⟨bp,af⟩,kD H a1⟩ (λj f=>jD (jD (q1 j (ae j f)).1)) (λj f=>jE f) ay ax).mono ?_;rintro o B ⟨i,rfl,s1,s2,s3⟩;have b1:=s1.below.size
    have Z:=r2.round HS.out (by omega) s1 (own:=λj=>fW y j\/(V.heap.size<=j/\j<l.heap.size)) (λj f=>by
     rcases f with f|f
     .exact(ab j (ae j f)).1
     omega)
    have bd:∀j,O5 j/\¬fW y j->(vE (vE Q A A1) V l j/\¬(fW y j\/(V.heap.size<=j/\j<l.heap.size)))/\Y_.heap.size<=j:=λj f=>by
     have h5:=(ab j f.1).2;refine⟨⟨jD (jD (q1 j f.1).1),?_⟩,(q1 j f.1).2⟩;rintro (h6|h6)
     .exact f.2 h6
     omega
    have be:B.heap[Y_.heap.size+1]? =V.heap[Y_.heap.size+1]?:=(by rw[s1.block _ (by omega) (jE (r2.two _ (by omega) (by omega) (by omega))),H.block _ (by omega)]);have bf:B.heap[Y_.heap.size]? =A.heap[Y_.heap.size]?:=(by rw[s1.block _ (by omega) (jE (r2.two _ (by omega) (by omega) (by omega))),H.block _ (by omega)];exact aw _ (by omega) (by omega));have bg:∀j,j<A.heap.size->(p j\/U j)\/O5 j->B.heap[j]? =A.heap[j]?:=λj h1 s=>by
     rw[s1.block j (by omega) ?_,H.block j (by omega)]
     .exact aw j h1 (a0 j s).1
     rcases s with (s|s)|s
     .exact jD s
     .exact jE (r2.cap j s).1
     exact jE (jD (jD (q1 j s).1))
    have bh:Below 0 A B:=by
     refine zT (b:=V) ?_ ((H.mono (jY _)).trans s1.below);rw[hV];exact(ag.out.mono (jY _)).trans (Ui (jY _) _)
    refine⟨i,rfl,by simp[World.cell?,Z.b6.2],by simp[World.frozen?,Z.b6.2],?_⟩;rintro ex a' B' rfl rfl
    cases i with
    |true=>exact⟨be,bf,⟨bh,bg⟩,jD ⟨rfl,_,bd,s2 rfl,Z⟩⟩
    |false=>
     have bi:∀j,j≠w.heap.size+3->(B.setCell ⟨w.heap.size+3,0,none⟩ (.bool false)).heap[j]? =B.heap[j]?:=λj f=>vL _ _ _ _ f;have bj:jR (λc=>vE (vE Q A A1) V l c/\¬(fW y c\/(V.heap.size<=c/\c<l.heap.size))) B (B.setCell ⟨w.heap.size+3,0,none⟩ (.bool false)):=⟨bD (p:=⟨w.heap.size+3,0,none⟩) (jW _ _) (jY _) _,λc d hz=>bi c (λo=>hz (o▸Z.b6.1))⟩;have bt:(B.setCell ⟨w.heap.size+3,0,none⟩ (.bool false)).heap[w.heap.size+3]? =B.heap[w.heap.size+3]?:=(fS B (w.heap.size+3) 0 #[.bool false] 4 (.bool false) Z.b6.2).trans Z.b6.2.symm;have an:∀j,(B.setCell ⟨w.heap.size+3,0,none⟩ (.bool false)).heap[j]? =B.heap[j]?:=λj=>by
      by_cases f:j=w.heap.size+3
      .rw[f];exact bt
      exact bi j f
     have f:(B.setCell ⟨w.heap.size+3,0,none⟩ (.bool false)).heap.size=B.heap.size:=(by simp);have bu:=Z.keep HS.out (B:=B.setCell ⟨w.heap.size+3,0,none⟩ (.bool false)) (f▸jF _) (λc _=>an c) (λc _ ho=>⟨an c,ho⟩) (λc d=>f▸Z.is.low c d) (λc h1 s h3=>Z.two c h1 s (by rw[f] at h3;exact h3))
     exact⟨(an _).trans be,(an _).trans bf,⟨bh.trans bj.below,λj h1 s=>(an j).trans (bg j h1 s)⟩,jE ⟨rfl,⟨_,bd,G.out.2 _ _ _ _ (s3 rfl) bj,bu⟩,by show Y_.heap.size+2<=(B.setCell ⟨w.heap.size+3,0,none⟩ (.bool false)).heap.size;rw[f];omega⟩⟩)
   have an:=ac.b3.2;have bd:=ac.b5.2;obtain⟨i0,i1,i2,i3,i4,i5,i6,i7⟩:=a2 V rfl;have HU:=X (λ(ah:N)(H:Zb V ah)=>jM (jP H ac.b4.2) (a2 ah (H.block _ (by omega))));clear q1 q2 h af al ae ab hl W ar au am br av ba bb ac aw a0 a1 bc a2 HQ HL hV
   gi_wp2_with (first
    |(refine⟨trivial,rfl,?_⟩
      gi_at_call 93;refine(CallsIn.inRound _ (callsIn_wide.2 bs)).mono ?_;rintro o l ⟨j,f⟩;obtain⟨ai,aj,rfl,ax,ay⟩:=Wj j;obtain⟨Z,s⟩:=HU l f;obtain⟨j0,j1,j2,j3,j4,j5,j6,j7⟩:=s;have H:=X (HG l ai aj f ax ay)
      clear j ax ay f)
    |(refine⟨trivial,rfl,?_⟩
      refine(CallsIn.inRound _ (callsIn_wide.2 H)).mono ?_;rintro o B ⟨i,rfl,l,s,f⟩;have j:=X f;clear f
      cases i))
   all_goals exact j _ _ _ rfl rfl
  .rintro O5 K B j ⟨Q,q1,q2,h⟩ W ab l
   have hw:=HS.hw;have e1:B.cell? ⟨w.heap.size+3,0,none⟩=some (.bool false):=(by simp[World.cell?,h.b6.2]);have e2:B.frozen? ⟨w.heap.size+3,0,none⟩=false:=(by simp[World.frozen?,h.b6.2]);have s:(B.setCell ⟨w.heap.size+3,0,none⟩ (.bool true)).heap[w.heap.size+3]? =some (.cells #[.bool true] 4):=fS B (w.heap.size+3) 0 #[.bool false] 4 (.bool true) h.b6.2;have H:(B.setCell ⟨w.heap.size+3,0,none⟩ (.bool true)).heap[Y_.heap.size]? =some (.deferred (some [])):=(by rw[vL _ _ _ _ (by show Y_.heap.size≠w.heap.size+3;omega)];exact W);have Z:jR Q B ((B.setCell ⟨w.heap.size+3,0,none⟩ (.bool true)).putObj Y_.heap.size (.deferred none)):=by
    refine jR.trans (u:=B.setCell ⟨w.heap.size+3,0,none⟩ (.bool true)) ⟨bD (p:=⟨w.heap.size+3,0,none⟩) (jW _ _) (jY _) _,λc d f=>vL _ _ _ _ (λo=>f (o▸h.b6.1))⟩ (jR.putObj (h.two _ (jF _) (by omega) (by omega)) _)
   have E1:=X e1;have f:=X (jM s (jM H (jM Z (jM q2 (jM j (λc d=>(h.is.low c d).2))))));clear q1 q2 h j W l s H Z;gi_wp2;refine⟨by simp,.inl ⟨_,_,rfl,run_takeDeferred f.2.1,?_⟩⟩;refine⟨_,BS (t:=6) (g:=4) (b:=⟨w.heap.size+3,0,none⟩) (v:=.bool true) rfl rfl (Xs (by rw[World.putObj_heap_other (by omega)];exact f.1)),true,rfl,λ_=>⟨Q,K,f.2.2.2.2.1,G.1 _ _ _ _ _ f.2.2.2.1 f.2.2.1 (Gd f.2.2.2.2.2 f.2.2.1.below.size)⟩,λq=>(by cases q)⟩
  rintro O5 ak B ⟨⟨Q,q1,q2,h⟩,d⟩ W ab l;have hw:=HS.hw;refine⟨by simp,.inl ⟨_,_,rfl,run_takeDeferred W,?_⟩⟩;refine⟨_,BS (t:=6) (g:=4) (b:=⟨w.heap.size+3,0,none⟩) (v:=.bool false) rfl rfl (Xs (by rw[World.putObj_heap_other (by omega)];exact h.b6.2)),false,rfl,λq=>(by cases q),λ_=>⟨Q,ak,G.2 _ _ _ _ q2 (jR.putObj (h.two _ (jF _) (by omega) (by omega)) _)⟩⟩
theorem OM(a:Zy)(w:N):(callFunc 148 a).run Zf w=.ok (.enter 148 a) w:=by kernel_rfl
def PY(q:Zp)(d E:Nat)(F:Zn)
 (h:∀(p t:T)(g:Zo)(y:Nat)(i:Zo)(z:Nat)(c:Zs)(w:N),p.E<=E->c.length+p.E<=100000->jQ F p->t.E<=1000->MB q d c w->InL w p.e g->jT q w t.e i->
   Calls Zf 148 #[.map (some d),.agg (Zj p g y),.agg (Zj t i z)] w λo j=>o=.returned (.bool (kG p t c).isSome)/\w.grownBy j (some d)/\∀e,kG p t c=some e->MB q d e j)
 (a b:Zt) (g:Zo) (y:Nat) (i:Zo) (z:Nat) (c:Zs) (w:N) (hn:T.E.szL a<=E) (ac:c.length+T.E.szL a<=100000) (k:jQ.okL F a) (ad:T.E.szL b<=1000) (f:MB q d c w) (l:InL w a g) (m:jT q w b i):
 Calls Zf 128 #[.slice g a.length y,.slice i b.length z,.func (.func 148) #[.map (some d)] #[]] w λo j=>o=.returned (.bool (kG.growL a b c).isSome)/\w.grownBy j (some d)/\∀e,kG.growL a b c=some e->MB q d e j:=by
 have M:=X h;have O:=X (f.ji l);have P:=X (f.ji m);have Q:=X f;have R:=X k;have ae:=OM;have af:=T.length_le a;clear h l m f k;by_cases r:a.length=b.length
 .have S:((a.length:Int) !=b.length)=false:=by simp;omega
  have A:=X r;clear r
  go_in
  go_wp2
  go_loopw [17] (λl wr=>∃(k:Nat)(f:Zs),k<=a.length/\l=Y k/\Hid (kG.growL (a.take k) (b.take k) c=some f)/\MB q d f wr/\w.grownBy wr (some d)) (λl _=>a.length - (intOf l).toNat)
  case atStart=>exact⟨0,c,jY _,rfl,rfl,Q,⟨rfl,rfl,rfl,jF _,λ_ _ _=>rfl⟩⟩
  case round=>
   obtain⟨k,f,hk,rfl,m,n,h⟩:=hrel;have G:=X n;have s:=X h;have ag:=h.size;clear n h;by_cases U:k<a.length
   .have V:k<b.length:=by have:=A.out;omega
    have B:=Id s O;have C:=Id s P;obtain⟨b1,ah,rfl⟩:=dV B (by omega);obtain⟨e,ai,rfl⟩:=dV C (by omega);obtain⟨x,n⟩:=Zg U;obtain⟨H,u⟩:=Zg V;obtain⟨W,Z,_,k0,k1,k2,I⟩:=dT B n;obtain⟨a4,aa,_,m0,m1,m2,J⟩:=dT C u;obtain⟨aj,ak⟩:=Dr n;have al:=T.M x;have am:=T.W (jU u);have an:=(Ct _).2 _ _ _ _ (jF _) m;have v:=X (Wq A n u m);have ab:=X (nH.1 R x (jU n));have ao:(k:Int)<a.length:=(by omega);have ap:(k:Int)<b.length:=(by omega);have aq:(0:Int)<=k:=(by omega);have ar:k<=100000:=(by omega);have au:=kA k0;have av:=kA m0;have K:=X (λo1 o2=>M x H W Z a4 aa f ((wr.alloc o1).alloc o2) (by omega) (by omega) ab (by omega) (G.below (kF wr o1 o2)) (kQ (λ_ _=>trivial) (jS o2 (jS o1 I))) (kQ (λ_ h=>h.1) (jS o2 (jS o1 J))));have L:=X (λo1 o2=>s.trans (show wr.grownBy ((wr.alloc o1).alloc o2) (some d) from⟨rfl,rfl,rfl,by simp;omega,λl hi _=>(kF wr o1 o2).block l hi⟩));clear n u I J B C m
    go_wp2_with fail
    refine(K _ _).mono ?_;rintro o J ⟨rfl,l,u⟩;have B:=X ((L _ _).trans l);have n:=X u;clear l u L K
    cases l:kG x H f with
    |some u=>
     have C:=X (v.1 u l);have I:=X (n u l);clear v n l;simp only[wL]
     go_wp2_with fail
     go_roundw
     case rel=>exact⟨k+1,u,by omega,by go_num,C,I,B⟩
     case measure=>simp[intOf];omega
    |none=>
     have C:=X (v.2 l);clear v n l;simp only[rH];go_wp2;go_ret;exact⟨vO (by rw[C.out];rfl),B,λe h=>by rw[C.out] at h;cases h⟩
   have l:k=a.length:=(by omega);subst l;have k:Hid (kG.growL a b c=some f):=by
    have f:=m.out;rw[qU,show a.length=b.length from A.out,qU] at f;exact f
   clear m;go_wp2;go_ret;exact⟨vO (by rw[k.out];rfl),s,λe h=>by rw[k.out] at h;cases h;exact G⟩
 have f:kG.growL a b c=none:=Wp r;have S:((a.length:Int) !=b.length)=true:=by simp;omega
 have h:=X f;clear f r
 go_in
 go_wp2;go_ret;exact⟨vO (by rw[h.out];rfl),⟨rfl,rfl,rfl,jF _,λ_ _ _=>rfl⟩,λe f=>by rw[h.out] at f;cases f⟩
def VP(C:Zn)(I:¬p k)(r:Nat):∀(a t:T)(o:Zo)(s:Nat)(e:Zo)(h:Nat)(b:Zs)(w:N),a.E<=r->b.length+a.E<=100000->jQ C a->t.E<=1000->MB p k b w->InL w a.e o->jT p w t.e e->
 Calls Zf 148 #[.map (some k),.agg (Zj a o s),.agg (Zj t e h)] w λi x=>i=.returned (.bool (kG a t b).isSome)/\w.grownBy x (some k)/\∀l,kG a t b=some l->MB p k l x:=by
 induction r with
 |zero=>intro a t o s e h b w J;have:=a.I;omega
 |succ r m=>
  intro a t o s e h b w J Z j K f L y;have aa:=T.M a;have ab:=T.M t;have ac:=f.lt;have z:=X f;by_cases c:a.v=0
  .have M:(a.v==0)=true:=by simpa using c
   by_cases d:t.v=0
   .have v:(t.v==0)=true:=by simpa using d
    by_cases g:a.f=t.f
    .have A:(a.f==t.f)=true:=by simpa using g
     have n:Hid (kG a t b=kG.growL a.e t.e b):=(by show _=_;rw[nG,jC (by simp[c]),jC (by simp[d,g])]);have B:=X (λo1 o2=>PY p k r C (λq u E F G H O x P Q R S U V W=>m q u E F G H O x P Q R S U V W) a.e t.e o s e h b ((w.alloc o1).alloc o2) (by omega) (by omega) (vW.1 j).2 (by omega) (f.below (kF w o1 o2)) (jS o2 (jS o1 L)) (jS o2 (jS o1 y)));clear c d g m f j;rw[n.out]
     go_in
     go_wp2_with fail
     refine(B _ _).mono ?_;rintro i G ⟨rfl,q,u⟩;have E:=X ((Cu w k _ _).trans q);have F:=X u;clear q u;go_wp2;go_ret;exact⟨rfl,E,F⟩
    have A:(a.f==t.f)=false:=(by simpa using g);have n:Hid (kG a t b=none):=(by show _=_;rw[nG,jC (by simp[c]),jB (jE g)]);clear c d g m f j;rw[n.out]
    go_in
    go_wp2;go_ret;exact⟨rfl,Cu w k _ _,λl g=>by cases g⟩
   have v:(t.v==0)=false:=(by simpa using d);have g:Hid (kG a t b=none):=(by show _=_;rw[nG,jC (by simp[c]),jB (jD d)]);clear c d m f j;rw[g.out]
   go_in
   go_wp2;go_ret;exact⟨rfl,Cu w k _ _,λl n=>by cases n⟩
  have M:(a.v==0)=false:=by simpa using c
  have W:1<=a.v/\a.v<=1000:=by
   have d:=(vW.1 j).1;rw[xU,jB c] at d;by_cases g:a.v<1\/1000<a.v
   .rw[jB g] at d;cases d
   omega
  obtain⟨⟨O,A,q⟩,v⟩:=z.out;have B:=λo1 o2=>(A.below (kF w o1 o2)).look_ok (t:=129) Tryz.underlying129 (Tryz.ju _) (k:=a.v) (by omega) (by omega)
  cases g:kC b a.v with
  |some u=>
   obtain⟨P,Q,E,F⟩:=(q a.v).2 u g;have G:=v _ _ (tX g);have H:Hid (kG a t b=if kS u t then some b else none):=(by show _=_;rw[nG,jB c,g]);rw[E] at B;have HS:=X (λo1 o2 n=>iP 1000 u t P Q e h (((w.alloc o1).alloc o2).alloc n) G G (kQ (λ_ _=>trivial) (jI (bJ w o1 o2 n) F)) (kQ (λ_ _=>trivial) (jI (bJ w o1 o2 n) y)));clear g E F c m f j A q v;go_enter Tryz.func148,Tryz.ntmps148
   go_wp2_with fail
   refine(HS.out _ _ _).mono ?_;rintro i R ⟨rfl,n⟩;have E:=X ((bJ w _ _ _).trans (n.mono (by simp;omega)));clear n B;go_wp2;go_ret;refine⟨vO (by rw[H.out];cases kS u t<;>rfl),Kh k E.out,λl n=>?_⟩;rw[H.out] at n
   cases F:kS u t with
   |true=>rw[F] at n;simp at n;rw[<-n];exact z.out.below E.out
   |false=>rw[F] at n;simp at n
  |none=>
   have n:=(q a.v).1 g;have E:Hid (kG a t b=some (b++[(a.v,t)])):=(by show _=_;rw[nG,jB c,g]);have G:=X g;have ad:=X (z.out.ji y);have F:=X q;have H:=X v;rw[n] at B;clear g n c m f j q v
   go_in
   go_wp2_with (at_mapUpdate;refine iR _ rfl _ _ _ 129 rfl 43 Tryz.underlying129 k b.length O rfl (A.below (bJ _ _ _ _)) (by unfold maxLen;omega) a.v (.agg (Zj t e h)) (by first|rfl|simp[go_sem]) (by first|rfl|simp[go_sem]) (by omega) (by omega) ?_;intro P Q R)
   go_ret;have n:=(Kh k (bJ w _ _ _)).trans R;refine⟨vO (by rw[E.out];rfl),n,λl c=>?_⟩;rw[E.out] at c;simp only[qW] at c;subst c;have q:∀j,p j->j<w.heap.size->P.heap[j]? =w.heap[j]?:=λj f g=>n.block j g (λi=>by cases i;exact I f);refine⟨⟨_,by rw[qB];exact Q,λv=>?_⟩,λv u f=>?_⟩
   .rw[Po]
    by_cases j:v=a.v
    .subst j
     rw[G.out];simp only[if_true];refine⟨λc=>(by cases c),λu m=>?_⟩;obtain rfl:t=u:=by simpa using m
     exact⟨e,h,rfl,xN q y⟩
    simp only[jC j];have S:¬a.v=v:=λi=>j i.symm
    cases g:kC b v with
    |none=>simp only[jC S];exact⟨λ_=>(F v).1 g,λu m=>by cases m⟩
    |some u=>
     refine⟨λc=>(by cases c),λc m=>?_⟩;obtain rfl:u=c:=by simpa using m
     obtain⟨c,m,U,V⟩:=(F v).2 u g;exact⟨c,m,U,xN q V⟩
   rcases vD.1 f with f|f
   .exact H v u f
   simp at f;rw[f.2];exact K
def jFw(h:Nat)(m:k<c.length)(i:c.length<=1000)(b:kR w c a):
 Calls Zf 149 #[.slice a c.length h,Y (k:Int)] w λg f=>∃v,g=.returned v/\mH w.heap.size f v (c.eraseIdx k)/\Zb w f:=by
 obtain⟨s,t,rfl⟩:=zN b (by omega);have e:=X (Of h i b);have j:=X (λ(v:Zv)(f:N)(d:mH w.heap.size f v c)=>Vi m i d);have n:Hid ((k:Int)+1=((k+1:Nat):Int)):=by show _=_;omega
 clear b
 go_in
 go_wp2_with fail
 refine e.mono ?_;rintro g o ⟨v,rfl,b,l⟩;have d:=X l;have p:=X (j v o b);clear b l e j
 go_wp2_with fail
 try rw[n.out]
 refine p.mono ?_;rintro g u ⟨l,rfl,e,j⟩;have q:=X e;have r:=X j;clear e j;go_wp2;go_ret;have e:=r.out;exact⟨l,rfl,q,⟨e.os.trans d.os,e.tape.trans d.tape,e.output.trans d.output,kN d.size e.size,λj b=>(e.block j b).trans (d.block j b)⟩⟩
def jAs(w:N)(n:Nat)(p:Option Nat)(h:Zf.underlying g=some (.map g1 g2)):(Op.equalIn (n+1) g (.map p) (.map none)).run Zf w=.ok p.isNone w:=by
 cases p<;>simp[Op.equalIn,run_underlying h]
def jAt(w:N)(p:Option Nat)(h:Zf.underlying g=some (.map g1 g2)):(binOp .eql g (.map p) (.map none)).run Zf w=.ok (.bool p.isNone) w:=by
 simp only[binOp];simp[show Op.equal g (.map p) (.map none)=Op.equalIn (9999+1) g (.map p) (.map none) from rfl,jAs w 9999 p h]
def jAq(w:N)(a:TypeId)(v:Zv)(h:Zf.underlying g=some (.map g1 g2)):(Instr.typeAssert (.iface g v) a g false).run Zf w=.ok v w:=by
 simp[Instr.typeAssert,run_underlying h,go_sem,Result.andThen]
def jAr{a:Array MapEntry}(t:TypeId)(b:w.heap[k]? =some (.map a n)):
 (Extern.MapsClone.clone #[.iface t (.map (some k))]).run Zf w=.ok (.iface t (.map (some w.heap.size))) (w.alloc (.map a n)):=by
 obtain⟨s,e⟩:∃s,Extern.MapsClone.clone #[.iface t (.map (some k))]=(getObj k>>=λo=>match o with
  |.map c n=>(newObj (.map c n)>>=λd=>pure (.iface t (.map (some d))))
  |_=>stuck s):=⟨_,rfl⟩
 rw[e];simp[MapKept.run_getObj_map b,Result.andThen,go_sem]
def MD(a:Array MapEntry)(b:w.heap[k]? =some (.map a n)):
 Calls Zf 147 #[.map (some k)] w λe c=>e=.returned (.map (some w.heap.size))/\c=w.alloc (.map a n):=by
 have d:=λw=>jAt w (some k) Tryz.underlying129
 go_in
 go_wp2;rw[run_callFunc_extern Tryz.func176 (by kernel_rfl) (by kernel_rfl) (by kernel_rfl) (by kernel_rfl),jAr 129 b];simp only[Result.andThen];rw[Oper.upon_value];go_wp2;rw[jAq _ _ _ Tryz.underlying129];simp only[Result.andThen];rw[Oper.upon_value];go_wp2;go_ret;exact⟨rfl,rfl⟩
def MB.clone(h:MB p k b w):∃a c,w.heap[k]? =some (.map a c)/\MB p w.heap.size b (w.alloc (.map a c)):=by
 obtain⟨⟨f,⟨d,⟨a,c,e,g⟩,i⟩,j⟩,l⟩:=h;exact⟨a,c,e,⟨f,⟨d,⟨a,c,World.alloc_heap_new _ _,g⟩,i⟩,j.mono (λm _ n=>(jG w _).block m n)⟩,l⟩
def gC(h:Nat)(a:Zy)(b:Int)(w:N):Prop:=w.heap[h]? =some (.cells a 83 (0,0))/\a[3]? =some (Y b)
def sE(a:Zy)(b:Int):Zy:=a.setIfInBounds 3 (Y b)
def Dn(a:Zy)(c b:Int):sE (sE a c) b=sE a b:=by
 unfold sE;rw[Array.setIfInBounds_setIfInBounds]
def CO{a:Zy}(h:a[3]? =some (Y z)):sE a z=a:=by
 unfold sE;refine Array.ext_getElem? (λi=>?_);rw[Array.getElem?_setIfInBounds];by_cases b:3=i
 .subst b
  have:=(gJ.1 h).1;rw[jB rfl,jB this,h]
 rw[jC b]
def gC.get{b:Zy}(a:gC k b z w):w.cell? (D k 3)=some (Y z)/\w.frozen? (D k 3)=false:=by
 refine⟨?_,by simp[World.frozen?,a.1]⟩;simp[World.cell?,a.1,a.2]
def gC.put{a:Zy}(c:gC k a z w)(b:Int):gC k (sE a b) b (w.setCell (D k 3) (Y b)):=by
 refine⟨fS w k 3 a _ _ c.1,?_⟩;have:=(gJ.1 c.2).1;rw[sE,Array.getElem?_setIfInBounds,jB rfl,jB this]
def gC.same{a:Zy}{w':N}(b:gC k a z w)(c:w'.heap[k]? =w.heap[k]?):gC k a z w':=⟨c.trans b.1,b.2⟩
def gC.lt{a:Zy}(b:gC k a z w):k<w.heap.size:=(gJ.1 b.1).1
abbrev qH(h:Nat)(A B:N):Prop:=jR (λk=>k=h) A B
def qH.set(h:Nat)(w:N)(z:Zv)(o:Nat):qH h w (w.setCell (D h o) z):=⟨bD (jW _ _) (jY _) _,λ_ _ a=>vL _ _ _ _ a⟩
def qH.jh(b:qH k w u)(e:qA (λb=>b≠k) w c a):qA (λb=>b≠k) u c a:=xP (λj d f=>⟨d,b.block j f d⟩) e
def qH.cell(c:qH k w u){v:Zv}(d:n≠k)(b:w.cell? (D n m)=some v):u.cell? (D n m)=some v:=(kH (w:=w) (a:=(D n m)) (c.block n (kA b) d)).trans b
def qH.mb(a:qH k w u)(d:n≠k)(c:MB (λa=>a≠k) n b w):MB (λa=>a≠k) n b u:=by
 have e:=c.lt;obtain⟨⟨f,g,h⟩,i⟩:=c;exact⟨⟨f,g.same (a.block n e d),h.mono (λj l m=>a.block j m l)⟩,i⟩
def Mb(h:Nat)(b:Zy)(r:Bool×Int)(w:N)(e:Ending)(a:N):Prop:=e=.returned (.bool r.1)/\gC h (sE b r.2) r.2 a/\qH h w a
def Az(l:Zn)(h:Nat)(c:Zc):Prop:=∀(d:Zc)(a:Zs)(e:Int)(f:Zy)(g:Zo)(i:Nat)(j:Zo)(m b:Nat)(w:N),c.length<=i->d.length<=1000->a.length+240*c.length<=100000->qC l c->(∀x,x∈d->xO x)->b≠h->gC h f e w->qA (λk=>k≠h) w c g->qA (λk=>k≠h) w d j->MB (λk=>k≠h) b a w->
 Calls Zf 75 #[Zr h,.slice g c.length i,.slice j d.length m,.map (some b)] w (Mb h f (yF c d a e) w)
def Vg{e:Ending}(h:fJ (Cov t s) e):e=.returned (.bool (zC t s)):=by
 obtain⟨r,rfl,a⟩:=h;have:r=zC t s:=Vh a;rw[this]
def rK(q:Zp)(a:Nat)(w:N)(v:Zv)(c:Zc):Prop:=∃b,w.ownsRow a 47 7 v c.length b/\bE (λk=>q k/\k<a) w c b
def rK.lits{v:Zv}(h:rK p k w v c):∃g a,v=.slice g c.length a/\c.length<=a/\qA (λb=>p b\/k<=b) w c g:=by
 obtain⟨y,d,i⟩:=h;by_cases j:0<c.length
 .obtain⟨z,a,rfl,l,A,m⟩:=fX d j
  obtain⟨_,e⟩:=d;rcases e with⟨n,_⟩|⟨o,q,r,s,_,_,f,_⟩
  .cases n
  cases s
  exact⟨_,a,rfl,f,Mn (jE l) (gL (λb t _=>⟨jD t.1,rfl⟩) i) (λt u x=>by rw[kK];exact m t u x)⟩
 obtain⟨_,e⟩:=d;have t:c=[]:=yM.1 (by omega);subst t;rcases e with⟨rfl,_⟩|⟨o,q,r,rfl,_,_,f,_⟩
 .exact⟨_,_,rfl,jF _,trivial⟩
 exact⟨_,_,rfl,f,trivial⟩
def ME(e:Nat)(j:c.length<=1000)(l:qA p w c (some (D k n))):
 Calls Zf 178 #[Zz k n c.length e] w λf m=>∃v,f=.returned v/\rK p w.heap.size m v c/\Zb w m:=by
 obtain⟨o,q,r,s,t⟩:=Sk (xP (p1:=λa=>p a/\a<w.heap.size) (λa b j=>⟨⟨b,j⟩,rfl⟩) l);have u:=X q;have HS:=X (λd=>show eW (w.alloc d) (Zz k n c.length e) c.length o from jE ⟨k,n,e,rfl,r,(λg h i=>jP (jG w d) (s g h i)),t⟩);have x:Hid ((w.alloc (.cells #[] 47)).ownsRow w.heap.size 47 7 (Zx w.heap.size 0 0) 0 []):=⟨rfl,jE ⟨w.heap.size,0,#[],rfl,jF _,tT _ _,jF _,by decide,rfl,rfl⟩⟩;have y:∀(w:N)(d:Zo)(g c h i:Nat),(binOp .eql 39 (.slice d g c) (.slice none h i)).run Zf w=.ok (.bool d.isNone) w:=λw d g c h i=>Lib.run_eql_slice_nil w _ _ d g c h i Go.Proofs.Tryz.underlying39;clear l q r s t
 go_in
 go_wp2_with (at_builtin
              go_must (refine Lv rfl (.tmp 5) (.tmp 6) rfl rfl x rfl (HS _) (by omega) (by simp) ?_)
              intro l g h d i)
 go_ret;rw[kK,nQ] at h;have q:(w.alloc (.cells #[] 47)).grownBy g (some w.heap.size):=d
 have i:Zb w g:=⟨d.os,d.tape,d.output,kN (jG w _).size d.size,λa b=>by
  rw[q.block a (by simp;omega) (λf=>by cases f;omega)]
  exact(jG w _).block a b⟩
 exact⟨l,rfl,⟨o,h,gL (λa b d=>⟨b,i.block a d⟩) u⟩,i⟩
def NR{H:Zv}(I:n<c.length)(Q:c.length<=1000)(v:rK p k w H c):
 Calls Zf 177 #[H,Y (n:Int),Y ((n+1:Nat):Int)] w λR J=>∃o,R=.returned o/\rK p k J o (c.eraseIdx n)/\Below k w J:=by
 obtain⟨S,U,K⟩:=bQ.1 Tryz.info47;simp only[bG] at K;obtain⟨ag,V,ah⟩:=K;obtain⟨x,⟨i,W⟩,h⟩:=v;rcases W with⟨_,L⟩|⟨g,d,Z,rfl,z,y,hn,hm,ai,B⟩
 .omega
 obtain⟨a,C⟩:=Ze c.length;rw[<-C] at I Q hn i B ⊢;obtain⟨b,r⟩:=Ze (x.drop ((n+1)*7));have q:b.length=(a - (n+1))*7:=by rw[r,tQ,i];omega
 have E:∀j,j<a*7->w.cell? (D g j)=x[j]?:=λj l=>by
  rw[lJ y,<-B,oC,jB l];simp
 have F:∀j,w.frozen? (D g j)=false:=λj=>by simp[World.frozen?,y]
 have G:∀j,j<d*7->(w.cell? (D g j)).isSome=true:=λj l=>by rw[lJ y];simp;omega
 have s1:Hid (b.length=(a - (n+1))*7):=q;have s2:Hid (∀u∈b,u.oneCell'=true):=λu e=>Mo h u (by rw[r] at e;exact Eo e);have M:Hid (∀t,t<b.length->(w.drew.cell? (D g (0+n*7+t))).isSome=true/\w.drew.frozen? (D g (0+n*7+t))=false):=λt s=>⟨G _ (by rw[q] at s;omega),F _⟩;obtain⟨A,hA,aa⟩:∃A:Addr,(if d=n+1 then some ((D g 0):Addr) else some ⟨g,(n+1)*7,none⟩)=some A/\Hid (∀t u,b[t]? =some u->w.drew.cell? (A.add t)=some u):=by
  by_cases v:d=n+1
  .refine⟨(D g 0),by simp[v],λt u e=>?_⟩
   have L:b.length=0:=(by rw[q];omega);rw[yM.1 L] at e;simp at e
  refine⟨⟨g,(n+1)*7,none⟩,by simp[v],λt u e=>?_⟩;have s:t<(a - (n+1))*7:=by
   have:=(Zl e);rwa [q] at this
  rw[r,Ej] at e;rw[Addr.add_lit];exact(E _ (by omega)).trans e
 obtain⟨e,m⟩:=Ze (w.drew.setCells g (0+n*7) b);have aj:∀f,(Builtin.clear_ #[39] f #[.slice (some ⟨g,(n+(a - (n+1)))*7,none⟩) (a - (n+(a - (n+1)))) (d - (n+(a - (n+1))))]).run Zf e=.ok (.tuple #[]) (e.setCells g ((n+(a - (n+1)))*7) sF):=λf=>by
  rw[show a - (n+(a - (n+1)))=1 by omega];exact Uv f _ (λj l=>by rw[m];exact World.isSome_setCells _ _ _ _ _ (G _ (by omega))) (λj l=>by rw[m,World.frozen?_setCells];exact F _)
 have hW:Hid (e=w.drew.setCells g (0+n*7) b):=m;have ak:n<=d:=by omega
 have al:n+1<=d:=by omega
 have am:n<=a:=by omega
 have an:(0:Int)<=n+1:=by omega
 have ao:(n:Int)+1<=a:=by omega
 have ap:((n:Int)==n+1)=false:=by simp;omega
 have Hi:=X I;have HF:Hid (∃o,Value.slice (some (D g 0)) (n+(a - (n+1))) d=o/\rK p k (e.setCells g ((n+(a - (n+1)))*7) sF) o (c.eraseIdx n)/\Below k w (e.setCells g ((n+(a - (n+1)))*7) sF)):=by
  obtain⟨ab,q1,q2⟩:=uC b (0+n*7) w.drew Z y;rw[<-m] at q1;obtain⟨u,O,q4⟩:=uC sF ((n+(a - (n+1)))*7) e ab q1;have ac:(c.eraseIdx n).length=n+(a - (n+1)):=by rw[Bh,jB (by omega)];omega
  have ad:Below k w e:=by rw[m];exact bK z _ _ _ ((jW k w).drew)
  have ae:Below k w (e.setCells g ((n+(a - (n+1)))*7) sF):=bK z _ _ _ ad;have P:∀f,f≠g->(e.setCells g ((n+(a - (n+1)))*7) sF).heap[f]? =w.heap[f]?:=λf h=>by
   rw[tH h,m,tH h];rfl
  refine⟨_,rfl,⟨x.take (n*7)++x.drop ((n+1)*7),?_,?_⟩,ae⟩
  .rw[ac]
   refine⟨by rw[qB,yD,tQ,i];omega,jE ⟨g,d,u,rfl,z,O,by omega,hm,by omega,?_⟩⟩;apply oB;intro j;rw[oC];by_cases l:j<(n+(a - (n+1)))*7
   .rw[jB l]
    have e1:u.toList[j]? =e.cell? (D g j):=by
     rw[Dx,<-lJ O,Fe _ _ _ _ _ (λ_ _=>jD l)]
    rw[e1,m];by_cases af:j<n*7
    .rw[Fe _ _ _ _ _ (λ_ _=>jD (show j<0+n*7 by omega)),mY (by rw[yD,i];omega),oC,jB af]
     exact E j (by omega)
    obtain⟨t,rfl⟩:∃t,j=n*7+t:=⟨j - n*7,by omega⟩;have s:t<b.length:=(by rw[q];omega);have j:=Nl g b (0+n*7) w.drew (λf h=>(M f h).1) t s;rw[kK] at j ⊢;rw[j,nO (by rw[yD,i];omega),yD,i,<-r,show n*7+t - min (n*7) (a*7)=t by omega,jO s]
   rw[jC l,yZ (by rw[qB,yD,tQ,i];omega)]
  rw[Sf];refine Bd (gL (λf j _=>⟨j,P f (by have:=j.2;omega)⟩) (Sb h)) (gL (λf j _=>⟨j,P f (by have:=j.2;omega)⟩) (Sa h))
 have j:=X C;clear m E F G q r B h i C
 go_in
 go_wp2_with fail
 go_region_law (refine step_append_room rfl (.tmp 22) (.tmp 25) 39 rfl 47 S 7 Go.Proofs.Tryz.underlying39 U V g 0 n d (by simp[Act.eval,Act.put]) A (a - (n+1)) (d - (n+1)) b (by simp[Act.eval,Act.put]) s1 aa s2 (by omega) M ?_;rw[<-hW.out])
 all_goals go_wp2
 go_ret;obtain⟨o,f,h,i⟩:=HF;exact⟨o,by rw[<-f];rfl,h,i⟩
def jE6(h:Nat)(m:k<c.length)(i:c.length<=1000)(b:qA p w c a):
 Calls Zf 149 #[.slice a c.length h,Y (k:Int)] w λg f=>∃v,g=.returned v/\rK p w.heap.size f v (c.eraseIdx k)/\Zb w f:=by
 obtain⟨t,u,rfl⟩:=zN (dA b) (by omega);have e:=X (ME h i b);have j:=X (λ(v:Zv)(f:N)(d:rK p w.heap.size f v c)=>NR m i d);have n:Hid ((k:Int)+1=((k+1:Nat):Int)):=by show _=_;omega
 clear b
 go_in
 go_wp2_with fail
 refine e.mono ?_;rintro g o ⟨v,rfl,b,l⟩;have d:=X l;have q:=X (j v o b);clear b l e j
 go_wp2_with fail
 try rw[n.out]
 refine q.mono ?_;rintro g x ⟨l,rfl,e,j⟩;have r:=X e;have s:=X j;clear e j;go_wp2;go_ret;have e:=s.out;exact⟨l,rfl,r,⟨e.os.trans d.os,e.tape.trans d.tape,e.output.trans d.output,kN d.size e.size,λj b=>(e.block j b).trans (d.block j b)⟩⟩
def MB.apart(h:MB p k b w):MB (λa=>p a/\a≠k) k b w:=by
 obtain⟨⟨f,c,d⟩,e⟩:=h;refine⟨⟨f,c,λv=>⟨(d v).1,λu g=>?_⟩⟩,e⟩;obtain⟨i,j,l,m⟩:=(d v).2 u g;exact⟨i,j,l,Ru c m⟩
def MB.imp(h:MB p k b w)(d:∀a,p a->p1 a):MB p1 k b w:=by
 obtain⟨⟨f,e,c⟩,g⟩:=h;refine⟨⟨f,e,λv=>⟨(c v).1,λu i=>?_⟩⟩,g⟩;obtain⟨j,l,m,n⟩:=(c v).2 u i;exact⟨j,l,m,kQ d n⟩
def jFs(b a:Nat)(c:N)(h:1<=k)(i:k<=n):∃d,(Instr.slice 39 (Zz b a k n) (some (Y 1)) none none).run Zf c=.ok (Zz b d (k - 1) (n - 1)) c/\(1<k->d=a+7):=by
 have f:Zf.underlying 39=some (.slice (Zf.elem 39)):=by kernel_rfl
 have g:∀w:N,(sizeOf (Zf.elem 39)).run Zf w=.ok 7 w:=λw=>by kernel_rfl
 refine⟨if n=1 then a else a+7,?_,λe=>by rw[jC (by omega)]⟩;rw[run_slice_l c 39 (some (D b a)) k n f .i64 1 (by omega) (by omega),g];by_cases e:n=1
 .simp[sliced,e]
 simp[sliced,e,Addr.add]
def FZ{x:Lit}(h:qA p w (x::c) (some (D k n)))(a:1<c.length+1->m=n+7):qA p w c (some (D k m)):=by
 cases c with
 |nil=>trivial
 |cons y c=>
  obtain⟨e,f,g,i,j,l,b,_,_,_,_,_,_,_,_,_,_,d⟩:=h
  cases b
  rw[a (by simp)];exact d
def qH.jz(b:qH k w u)(c:jT (λb=>b≠k) w l a):jT (λb=>b≠k) u l a:=xN (λj d e=>b.block j e d) c
def qH.drew(a:qH k w u):qH k w u.drew:=⟨a.below.drew,λj b c=>a.block j b c⟩
structure aK (h b:Nat) (C:Zy) (Z:Int) (W:N) (bs:Zs) (w:N):Prop where
 kp:qH h W w
 wk:gC h C Z w
 mb:MB (λk=>k≠h) b bs w
 lo:W.heap.size<=b
 hw:h<W.heap.size
def aK.drew{C:Zy}(p:aK k n C z w b u):aK k n C z w b u.drew:=
 ⟨p.kp.drew,⟨p.wk.1,p.wk.2⟩,p.mb.below ((jW _ _).drew),p.lo,p.hw⟩
def aK.below{C:Zy}(p:aK k n C z w b u)(a:Zb u v):aK k n C z w b v:=
 ⟨p.kp.trans (jR.A a),p.wk.same (a.block k p.wk.lt),p.mb.below a,p.lo,p.hw⟩
def Yj{C:Zy}(P:aK k n C z w b u)(i:Nat)(j:Nat)(m:b.length+t.E<=100000)(o:jQ r t)(p:s.E<=1000)(q:jT (λc=>c≠k) w t.e a)(v:jT (λc=>c≠k) w s.e a1):
 Calls Zf 148 #[.map (some n),.agg (Zj t a i),.agg (Zj s a1 j)] u λe f=>e=.returned (.bool (kG t s b).isSome)/\(qH k w f/\gC k C z f)/\∀g,kG t s b=some g->aK k n C z w g f:=by
 have x:=P.lo;have y:=P.hw;refine(VP r (λk=>k.2 rfl) t.E t s a i a1 j b u (jF _) m o p P.mb.apart (kQ (λ_ _=>trivial) (P.kp.jz q)) (P.mb.ji (P.kp.jz v))).mono ?_;rintro e f ⟨rfl,d,A⟩
 have l:qH k w f:=⟨⟨d.os.trans P.kp.below.os,d.tape.trans P.kp.below.tape,d.output.trans P.kp.below.output,kN P.kp.below.size d.size,λc h=>jN h (Bo _)⟩,λc h B=>by
  rw[d.block c (kV h P.kp.below.size) (λe=>by cases e;omega)]
  exact P.kp.block c h B⟩
 have h:=P.wk.same (d.block k P.wk.lt (λe=>by cases e;omega));exact⟨rfl,⟨l,h⟩,λg B=>⟨l,h,(A g B).imp (λ_ k=>k.1),x,y⟩⟩
def jE7{C:Zy}(P:aK k n C z w b u)(i:Nat)(j:m<c.length)(l:c.length<=1000)(hd:qA (λd=>d≠k) w c a):
 Calls Zf 149 #[.slice a c.length i,Y (m:Int)] u λf g=>∃e h,f=.returned (.slice e (c.eraseIdx m).length h)/\qA (λd=>d≠k) g (c.eraseIdx m) e/\aK k n C z w b g:=by
 refine(jE6 i j l (P.kp.jh hd)).mono ?_;rintro f g ⟨v,rfl,o,p⟩;obtain⟨e,h,rfl,_,q⟩:=o.lits;have:=P.wk.lt;exact⟨e,h,rfl,nR (λd r=>r.elim id (λr f=>by omega)) q,P.below p⟩
def QV{C:Zy}(l:Az r k c)(P:aK k n C z w b u)(g:Nat)(o:c.length<=j)(p:d.length<=1000)(q:b.length+240*c.length<=100000)(s:qC r c)(t:∀x,x∈d->xO x)(v:qA (λe=>e≠k) w c (some (D m i)))(hd:qA (λe=>e≠k) u d a):
 Calls Zf 75 #[Zr k,Zz m i c.length j,.slice a d.length g,.map (some n)] u λh f=>h=.returned (.bool (yF c d b z).1)/\gC k (sE C (yF c d b z).2) (yF c d b z).2 f/\qH k w f:=by
 have B:=P.lo;have E:=P.hw;refine(l d b z C (some (D m i)) j a g n u o p q s t (by omega) P.wk (P.kp.jh v) hd P.mb).mono ?_;rintro h f ⟨rfl,y,A⟩;exact⟨rfl,y,P.kp.trans A⟩
def nD:(∀(l:Zu)c(i:Nat)v,Act.put ⟨l.toArray,c⟩ (some i) v=⟨(l.set i v).toArray,c⟩)/\(∀a v,Act.put a none v=a)/\(∀(b:Type)(l:List b)(i:Nat)a,l.toArray.setIfInBounds i a=(l.set i a).toArray)/\(∀(b:Type)(l:List b)x a,(x::l).set 0 a=a::l)/\∀(b:Type)(l:List b)x a i,(x::l).set (i+1) a=x::l.set i a:=
 ⟨λl c i v=>by simp[Act.put],λ_ _=>rfl,λ_ _ _ _=>List.setIfInBounds_toArray ..,λ_ _ _ _=>List.set_cons_zero,λ_ _ _ _ _=>List.set_cons_succ⟩
section
variable {P:Program} {ops:Array Oper} {Q:Exit→Act→N→Prop} {md:Region.Mode} {S:N→Prop} {i:Nat} {l:Zn} {d:Option Tmp} {o:Op} {ty:TypeId} {ps:String} {af:Array Edge} {gd:Option (Nat×Bool)} {v:Zv} {fuel:Nat} {listed:Array Bool} {a:Act} {w:N}
def Ky(md:Region.Mode)(ops:Array Oper)(listed:Array Bool)(i:Nat):Bool:=Region.noSelect ops && (Region.free md ops listed i && (Region.ready md ops listed).contains i)
def De(h:Ky md ops listed i=true):Region.noSelect ops=true/\Region.free md ops listed i=true/\(Region.ready md ops listed).contains i=true:=by
 rw[Ky,yY,yY] at h;exact h
def Pl(P:Program)(md:Region.Mode)(ops:Array Oper)(Q:Exit->Act->N->Prop)(S:N->Prop)(fuel:Nat)(listed:Array Bool)(a:Act)(w:N)(_:Zn):Prop:=(∀c t d b w,Q (.panic c) ⟨t,b⟩ w->Q (.panic c) ⟨d,b⟩ w)->S w->wpAnyH P md ops Q S fuel listed a w
def pl(l:Zn)(d:(λc t b w=>Q (.panic c) ⟨t,b⟩ w)=λc _ b w=>Q (.panic c) ⟨#[],b⟩ w)(e:S w)(h:Pl P md ops Q S fuel listed a w l):wpAnyH P md ops Q S fuel listed a w:=h (λc t f b w k=>(wZ (wZ (wZ (wZ d c) f) b) w).mpr ((wZ (wZ (wZ (wZ d c) t) b) w).mp k)) e
def pn(h:wpAnyH P md ops Q S fuel listed a w):Pl P md ops Q S fuel listed a w []:=λ_ _=>h
def BL(e:∀c t f b w,Q (.panic c) ⟨t,b⟩ w->Q (.panic c) ⟨f,b⟩ w)(d:Option Tmp)(v:Zv):∀c a w,Q (.panic c) (a.put d v) w->Q (.panic c) a w:=λc a w h=>by
 cases d
 .exact h
 exact e c _ _ _ w h
def tk(v:Zv)(f:ops[i]? =some ⟨d,o,ty,ps,af,gd⟩)(b:(Ky md ops listed i && Region.wanted ⟨d,o,ty,ps,af,gd⟩ (yielded ops a.tmps))=true)(g:∀w,S w->(execOp a.eval ⟨d,o,ty,ps,af,gd⟩).run P w=.ok (.value v) w)
 (h:Pl P md ops Q S fuel (listed.setIfInBounds i true) (a.put d v) w l):Pl P md ops Q S (fuel+1) listed a w (.ofNat i::l):=λc e=>by
 rw[yY] at b;exact wpAnyH_take f (De b.1).1 (De b.1).2.1 (De b.1).2.2 (BL c d v) (jD ⟨b.2,g⟩) e (h c e)
def tn(f:ops[i]? =some ⟨d,o,ty,ps,af,gd⟩)(b:(Ky md ops listed i && !Region.wanted ⟨d,o,ty,ps,af,gd⟩ (yielded ops a.tmps))=true)
 (h:Pl P md ops Q S fuel (listed.setIfInBounds i true) (a.put d undef) w l):Pl P md ops Q S (fuel+1) listed a w (.negSucc i::l):=λc e=>by
 rw[yY,Gw] at b;exact wpAnyH_take f (De b.1).1 (De b.1).2.1 (De b.1).2.2 (BL c d undef) (jE ⟨b.2,rfl⟩) e (h c e)
def rd(i:Nat)(c:Region.ready md ops listed=[i])(e:ops[i]? =some ⟨d,o,ty,ps,af,gd⟩)
 (h:∀b:Act->N->Prop,Shut (∀a w,S w->(S w->wpAnyH P md ops Q S fuel (listed.setIfInBounds i true) a w)->b a w)->if Region.wanted ⟨d,o,ty,ps,af,gd⟩ (yielded ops a.tmps)=true then Oper.wp P ⟨d,o,ty,ps,af,gd⟩ a w b Q else b (a.put d undef) w):wpAnyH P md ops Q S (fuel+1) listed a w:=
 wpAnyH_ready c (by simp) (AllReadyH.cons e h AllReadyH.nil)
def rp(i:Nat)(c:Region.ready md ops listed=[i])(e:ops[i]? =some ⟨d,o,ty,ps,af,gd⟩)
 (h:∀b:Act->N->Prop,Shut (∀a w,S w->(S w->wpAnyH P md ops Q S fuel (listed.setIfInBounds i true) a w)->b a w)->if Region.wanted ⟨d,o,ty,ps,af,gd⟩ (yielded ops a.tmps)=true then Oper.wp P ⟨d,o,ty,ps,af,gd⟩ a w b Q else b (a.put d undef) w):Pl P md ops Q S (fuel+1) listed a w []:=pn (rd i c e h)
def dn(b:Region.ready md ops listed=[])(h:Q .normal a w):Pl P md ops Q S fuel listed a w []:=pn (wpAnyH_done b h _)
end
def jC2(c a:Nat)(h:k+1<=n):∃d,(1<k+1->d=a+7)/\∀b,(Instr.slice 39 (Zz c a (k+1) n) (some (Y 1)) none none).run Zf b=.ok (Zz c d k (n - 1)) b:=by
 have f:Zf.underlying 39=some (.slice (Zf.elem 39)):=by kernel_rfl
 have g:∀w:N,(sizeOf (Zf.elem 39)).run Zf w=.ok 7 w:=λw=>by kernel_rfl
 refine⟨if n=1 then a else a+7,λe=>by rw[jC (by omega)],λb=>?_⟩;rw[run_slice_l (P:=Zf) b 39 (some (D c a)) (k+1) n f .i64 1 (by omega) (by omega),g];by_cases e:n=1
 .simp[sliced,e]
 simp[sliced,e,Addr.add]
def QP{x:Lit}(ag:Az r k c){M:Zy}(dc:Nat)(B:Nat)(C:Nat)
 (ah:c.length+1<=i) (ai:d.length<=1000) (aj:b.length+240*(c.length+1)<=100000) (ab:qC r (x::c)) (ak:∀F,F∈d->xO F) (hn:n1<d.length) (a6:j≠k) (hw:gC k M z w) (hc:qA (λu=>u≠k) w (x::c) (some (D n m))) (hd:qA (λu=>u≠k) w d a) (hm:MB (λu=>u≠k) j b w) (hs:t.E<=1000) (ht:s.E<=1000) (al:jT (λu=>u≠k) w t.e a1) (am:jT (λu=>u≠k) w s.e a2):
 Calls Zf 110 #[Zr k,Zz n m (c.length+1) i,.slice a d.length dc,.map (some j),Y (n1:Int),.agg (Zj t a1 B),.agg (Zj s a2 C)] w (Mb k M (gU (yF c) x d b n1 t s z) w):=by
 obtain⟨v,h⟩:=Ze ((w.alloc (.cells (Zj t a1 B) 43)).alloc (.cells (Zj s a2 C) 43));have ac:Zb w v:=by rw[h];exact kF _ _ _
 have an:v.heap.size=w.heap.size+2:=by rw[h];simp
 have ao:=hw.lt;have ad:gC k M z v:=hw.same (ac.block k ao);obtain⟨Z,K⟩:=Ze (qI (z - 1));obtain⟨g,A⟩:=Ze (v.setCell (D k 3) (Y Z));have L:gC k (sE M Z) Z g:=by rw[A];exact ad.put Z
 have l:qH k w g:=by rw[A];exact(jR.A ac).trans (qH.set k v _ 3)
 have ap:g.heap.size=w.heap.size+2:=by rw[A];simp[an]
 have o:qH k v g:=by rw[A];exact qH.set k v _ 3
 have O:jK v w.heap.size (Y t.v) (Y t.f) (Zk a1 t.e B):=by rw[h];exact(jK.new _ rfl).alloc _
 have P:jK v (w.heap.size+1) (Y s.v) (Y s.f) (Zk a2 s.e C):=by rw[h];exact jK.new _ (by simp)
 have G:w.heap.size≠k:=by omega
 have H:w.heap.size+1≠k:=by omega
 have p0:=o.cell G O.c0;have p1:=o.cell G O.c1;have p2:=o.cell G O.c2;have r0:=o.cell H P.c0;have r1:=o.cell H P.c1;have r2:=o.cell H P.c2;have ae:=l.jh hc;obtain⟨aq,c1,ar,c2,I,x0,Q,R,U,V,W,x6,i1,i2⟩:=uZ ae (k:=0) rfl;simp only[Iv,mG] at x0 Q R U V W x6
 have au:gU (yF c) x d b n1 t s z=if Z<=0 then(false,Z) else if zC x.2.1 t=false then(false,Z) else if zC x.2.2 s=false then(false,Z) else match kG x.2.1 t b with
  |none=>(false,Z)
  |some e=>match kG x.2.2 s e with
   |none=>(false,Z)
   |some f=>yF c (d.eraseIdx n1) f Z:=by rw[K];rfl
 obtain⟨a7,e⟩:=Ze (gU (yF c) x d b n1 t s z);rw[<-e];have Hr:=X (e.trans au);clear e;obtain⟨g1,g2⟩:=ad.get;have av:=L.get.1;have HZ:=X K;have bd:IntKind.i64.wrap (z - 1)=Z:=K.symm;have a8:Hid (g=((w.setCell (D k 3) (Y Z)).alloc (.cells (Zj t a1 B) 43)).alloc (.cells (Zj s a2 C) 43)):=X (by rw[A,h,World.setCell_alloc_past _ _ _ _ (by simp;omega),World.setCell_alloc_past _ _ _ _ ao]);have q:=X (jM L l);have y:=X (ab x (vX ..));have a9:Hid (qC r c):=X (λF hy=>ab F (vG _ hy));have Hs:=X hs;have Ht:=X ht;have aw:=X i1;have ax:=X i2;have ay:=X (l.jz al);have az:=X (l.jz am);have Hd:=X (l.jh hd);have Hm:=X (l.mb a6 hm);have ba:=X ae;have Hn:=X hn;have a0:=X ai;have af:=X aj;have a3:=X ah;have bb:=X ak;have bc:=X ag;have a4:Hid (∀e,Zb g e->Calls Zf 146 #[.agg (Zj x.2.1 aq c1),.agg (Zj t a1 B)] e λp E=>p=.returned (.bool (zC x.2.1 t))/\Zb g E):=X (λe f=>(Fl _ x.2.1 t aq c1 a1 B e (jF _) (by have:=y.out.1.1;omega) (kQ (λ_ _=>trivial) (jI f aw.out)) (kQ (λ_ _=>trivial) (jI f ay.out))).mono (λp E J=>⟨Vg J.1,f.trans (J.2.mono f.size)⟩));have a5:Hid (∀e,Zb g e->Calls Zf 146 #[.agg (Zj x.2.2 ar c2),.agg (Zj s a2 C)] e λp E=>p=.returned (.bool (zC x.2.2 s))/\Zb g E):=X (λe f=>(Fl _ x.2.2 s ar c2 a2 C e (jF _) (by have:=y.out.2.1;omega) (kQ (λ_ _=>trivial) (jI f ax.out)) (kQ (λ_ _=>trivial) (jI f az.out))).mono (λp E J=>⟨Vg J.1,f.trans (J.2.mono f.size)⟩));rw[h] at g1 g2;have be:=X ap;have aa:Hid (k<g.heap.size):=X L.lt;clear h A au K O P an ap hs ht i1 i2 al am hd hm hc ae hn ai aj ah ak ag ab l L ac ad hw o;go_enter Tryz.func110,Tryz.ntmps110
 go_upto_region 2 with fail
 rw[<-a8.out];have b0:=λ(e:N)(f:Zb g e)=>jH f p0;have P:=λ(e:N)(f:Zb g e)=>jH f p1;have b2:=λ(e:N)(f:Zb g e)=>jH f p2;have d0:=λ(e:N)(f:Zb g e)=>jH f r0;have d1:=λ(e:N)(f:Zb g e)=>jH f r1;have d2:=λ(e:N)(f:Zb g e)=>jH f r2;have y1:=λ(e:N)(f:Zb g e)=>jH f Q;have y2:=λ(e:N)(f:Zb g e)=>jH f R;have y3:=λ(e:N)(f:Zb g e)=>jH f U;have y4:=λ(e:N)(f:Zb g e)=>jH f V;have y5:=λ(e:N)(f:Zb g e)=>jH f W;have y6:=λ(e:N)(f:Zb g e)=>jH f x6;have yh:=λ(e:N)(f:Zb g e)=>jH f av;have au:(0:Int)<((c.length+1:Nat):Int):=by omega
 have bf:0<c.length+1:=by omega
 have J:=X (jM (jM p0 p1) (jM (jM p2 r0) (jM r1 r2)));have L:=X (jM (jM Q R) (jM (jM U V) (jM W x6)));clear p0 p1 p2 r0 r1 r2 x0 Q R U V W x6 av g1 g2;refine wp_region_held_drew (S:=λe=>Zb g e) (by kernel_rfl) (xH (jW _ _)) (λl=>?_);by_cases W:Z<=0
 .have e0:decide (Z<=0)=true:=by simpa using W
  refine pl [0,1,2,3,4,5, -7, -8, -9, -10, -11, -12, -13,13,14, -16, -17, -18, -19, -20, -21, -22,22] rfl ‹_› ?_
  repeat ((first|(refine tk ?_ rfl (by kernel_rfl) ?_ ?_;rotate_left;focus (intro w o;(try dsimp only at o);go_simp;try with_reducible rfl))|refine tn rfl (by kernel_rfl) ?_);try simp only[nD])
  refine dn (by kernel_rfl) ?_
  go_wp2_with fail
  go_ret;rw[Hr.out,jB W];exact⟨rfl,⟨q.out.1.1,q.out.1.2⟩,q.out.2.drew⟩
 have e0:decide (Z<=0)=false:=by simpa using W
 refine pl [0,1,2,3,4,5,6,7,8,9,10] rfl ‹_› ?_
 repeat ((first|(refine tk ?_ rfl (by kernel_rfl) ?_ ?_;rotate_left;focus (intro w o;(try dsimp only at o);go_simp;try with_reducible rfl))|refine tn rfl (by kernel_rfl) ?_);try simp only[nD])
 refine rp 11 (by kernel_rfl) rfl (λK h=>?_);go_simp;refine(a4.out _ l).mono ?_;rintro p w5 ⟨A,E⟩
 cases O:zC x.2.1 t with
 |false=>
  rw[O] at A;subst A
  go_wp2_with fail
  refine h.out _ _ ?_ (λl=>?_)
  .exact E
  clear h K
  try simp only[nD]
  refine pl [12,13,14, -16, -17, -18, -19, -20, -21, -22,22] rfl ‹_› ?_
  repeat ((first|(refine tk ?_ rfl (by kernel_rfl) ?_ ?_;rotate_left;focus (intro w o;(try dsimp only at o);go_simp;try with_reducible rfl))|refine tn rfl (by kernel_rfl) ?_);try simp only[nD])
  refine dn (by kernel_rfl) ?_
  go_wp2_with fail
  go_ret;rw[Hr.out,jC (show ¬Z<=0 by omega),jB O];exact⟨rfl,q.out.1.same (E.block _ aa.out),q.out.2.trans (jR.A E)⟩
 |true=>
  rw[O] at A;subst A
  go_wp2_with fail
  refine h.out _ _ ?_ (λl=>?_)
  .exact E
  clear h K
  try simp only[nD]
  refine pl [12,13,14,15,16,17,18,19] rfl ‹_› ?_
  repeat ((first|(refine tk ?_ rfl (by kernel_rfl) ?_ ?_;rotate_left;focus (intro w o;(try dsimp only at o);go_simp;try with_reducible rfl))|refine tn rfl (by kernel_rfl) ?_);try simp only[nD])
  refine rp 20 (by kernel_rfl) rfl (λK h=>?_);go_simp;refine(a5.out _ l).mono ?_;rintro p w5 ⟨A,E⟩
  cases Q:zC x.2.2 s with
  |false=>
   rw[Q] at A;subst A
   go_wp2_with fail
   refine h.out _ _ ?_ (λl=>?_)
   .exact E
   clear h K
   try simp only[nD]
   refine pl [21,22] rfl ‹_› ?_
   repeat ((first|(refine tk ?_ rfl (by kernel_rfl) ?_ ?_;rotate_left;focus (intro w o;(try dsimp only at o);go_simp;try with_reducible rfl))|refine tn rfl (by kernel_rfl) ?_);try simp only[nD])
   refine dn (by kernel_rfl) ?_
   go_wp2_with fail
   go_ret;rw[Hr.out,jC (show ¬Z<=0 by omega),jC (by rw[O];decide),jB Q];exact⟨rfl,q.out.1.same (l.block _ aa.out),q.out.2.trans (jR.A l)⟩
  |true=>
   rw[Q] at A;subst A
   go_wp2_with fail
   refine h.out _ _ ?_ (λl=>?_)
   .exact E
   clear h K
   try simp only[nD]
   refine pl [21,22] rfl ‹_› ?_
   repeat ((first|(refine tk ?_ rfl (by kernel_rfl) ?_ ?_;rotate_left;focus (intro w o;(try dsimp only at o);go_simp;try with_reducible rfl))|refine tn rfl (by kernel_rfl) ?_);try simp only[nD])
   refine dn (by kernel_rfl) ?_
   have ab:Hid (a7=match kG x.2.1 t b with
    |none=>(false,Z)
    |some P=>match kG x.2.2 s P with
     |none=>(false,Z)
     |some b2=>yF c (d.eraseIdx n1) b2 Z):=X (by rw[Hr.out,jC (show ¬Z<=0 by omega),jC (by rw[O];decide),jC (by rw[Q];decide)])
   clear b0 P b2 d0 d1 d2 y1 y2 y3 y4 y5 y6 yh;obtain⟨es,ag,R,U⟩:=MB.clone (Hm.out.below l);have ac:=l.size;have V:Hid (aK _ _ (sE M Z) Z g b _):=X ⟨jR.A (l.trans ((jG _ _).mono l.size)),q.out.1.same ((l.trans ((jG _ _).mono l.size)).block _ aa.out),U,l.size,aa.out⟩;clear U ac
   go_wp2_with fail
   refine(MD es R).mono ?_;rintro p w6 ⟨rfl,rfl⟩
   go_wp2_with fail
   have ad:=X V.out.drew;clear V a4 a5;obtain⟨av,U,a4⟩:=jC2 n m a3.out;have ah:=X U;clear U;generalize ((_:N).alloc (Obj.map es ag))=W6 at*;generalize w5.heap.size=a5 at*;have b0:=λ(e:N)(f:qH k g e)=>f.cell G J.out.1.1;have P:=λ(e:N)(f:qH k g e)=>f.cell G J.out.1.2;have b2:=λ(e:N)(f:qH k g e)=>f.cell G J.out.2.1.1;have d0:=λ(e:N)(f:qH k g e)=>f.cell H J.out.2.1.2;have d1:=λ(e:N)(f:qH k g e)=>f.cell H J.out.2.2.1;have d2:=λ(e:N)(f:qH k g e)=>f.cell H J.out.2.2.2;have y1:=λ(e:N)(f:qH k g e)=>f.cell I L.out.1.1;have y2:=λ(e:N)(f:qH k g e)=>f.cell I L.out.1.2;have y3:=λ(e:N)(f:qH k g e)=>f.cell I L.out.2.1.1;have y4:=λ(e:N)(f:qH k g e)=>f.cell I L.out.2.1.2;have y5:=λ(e:N)(f:qH k g e)=>f.cell I L.out.2.2.1;have y6:=λ(e:N)(f:qH k g e)=>f.cell I L.out.2.2.2;clear l R;refine wp_region_held_drew (S:=λe=>qH k g e) (by kernel_rfl) ad.out.kp (λl=>?_);refine pl [0,1,2,3,4,5] rfl ‹_› ?_
   repeat ((first|(refine tk ?_ rfl (by kernel_rfl) ?_ ?_;rotate_left;focus (intro w o;(try dsimp only at o);go_simp;try with_reducible rfl))|refine tn rfl (by kernel_rfl) ?_);try simp only[nD])
   refine rp 6 (by kernel_rfl) rfl (λK h=>?_);go_simp;refine(Yj (r:=r) ad.out c1 B (by have:=af.out;have:=y.out.1.1;omega) y.out.1.2 Hs.out aw.out ay.out).mono ?_;rintro p w6 ⟨rfl,R,U⟩
   cases e:kG x.2.1 t b with
   |none=>
    have f:=X R;have V:=X U;clear R U
    go_wp2_with fail
    refine h.out _ _ ?_ (λl=>?_)
    .exact f.out.1
    clear h K
    try simp only[nD]
    refine pl [7, -9, -10, -11, -12, -13, -14, -15,15,16, -18, -19, -20, -21, -22, -23, -24, -25,25,26] rfl ‹_› ?_
    repeat ((first|(refine tk ?_ rfl (by kernel_rfl) ?_ ?_;rotate_left;focus (intro w o;(try dsimp only at o);go_simp;try with_reducible rfl))|refine tn rfl (by kernel_rfl) ?_);try simp only[nD])
    refine dn (by kernel_rfl) ?_
    go_wp2_with fail
    go_ret;rw[ab.out,e];exact⟨rfl,f.out.2,q.out.2.trans f.out.1⟩
   |some f=>
    have ae:Hid (f.length<=b.length+x.2.1.E):=X ((Ct _).1 x.2.1 t b f (jF _) e);have ai:=X R;have aj:=X U;clear R U
    go_wp2_with fail
    refine h.out _ _ ?_ (λl=>?_)
    .exact ai.out.1
    clear h K
    try simp only[nD]
    refine pl [7,8,9,10,11,12,13] rfl ‹_› ?_
    repeat ((first|(refine tk ?_ rfl (by kernel_rfl) ?_ ?_;rotate_left;focus (intro w o;(try dsimp only at o);go_simp;try with_reducible rfl))|refine tn rfl (by kernel_rfl) ?_);try simp only[nD])
    refine rp 14 (by kernel_rfl) rfl (λK h=>?_);go_simp;refine(Yj (r:=r) (aj.out _ e) c2 C (by have:=af.out;have:=y.out.1.1;have:=y.out.2.1;have:=ae.out;omega) y.out.2.2 Ht.out ax.out az.out).mono ?_;rintro p w7 ⟨rfl,R,U⟩
    cases V:kG x.2.2 s f with
    |none=>
     have ac:=X R;have ak:=X U;clear R U
     go_wp2_with fail
     refine h.out _ _ ?_ (λl=>?_)
     .exact ac.out.1
     clear h K
     try simp only[nD]
     refine pl [15,16, -18, -19, -20, -21, -22, -23, -24, -25,25,26] rfl ‹_› ?_
     repeat ((first|(refine tk ?_ rfl (by kernel_rfl) ?_ ?_;rotate_left;focus (intro w o;(try dsimp only at o);go_simp;try with_reducible rfl))|refine tn rfl (by kernel_rfl) ?_);try simp only[nD])
     refine dn (by kernel_rfl) ?_
     go_wp2_with fail
     go_ret;rw[ab.out,e];simp only[V];exact⟨rfl,ac.out.2,q.out.2.trans ac.out.1⟩
    |some m2=>
     have ak:Hid (m2.length<=f.length+x.2.2.E):=X ((Ct _).1 x.2.2 s f m2 (jF _) V);have al:=X R;have am:=X U;clear R U
     go_wp2_with fail
     refine h.out _ _ ?_ (λl=>?_)
     .exact al.out.1
     clear h K
     try simp only[nD]
     refine pl [15,16,17,18,19,20,21,23] rfl ‹_› ?_
     repeat ((first|(refine tk ?_ rfl (by kernel_rfl) ?_ ?_;rotate_left;focus (intro w o;(try dsimp only at o);go_simp;try with_reducible rfl))|refine tn rfl (by kernel_rfl) ?_);try simp only[nD])
     refine rp 22 (by kernel_rfl) rfl (λK h=>?_);go_simp;refine(jE7 (am.out _ V) dc Hn.out a0.out Hd.out).mono ?_;rintro p w8 ⟨ea,ec,rfl,R,U⟩;have an:=X R;have ac:=X U;clear R U
     go_wp2_with fail
     refine h.out _ _ ?_ (λl=>?_)
     .exact ac.out.kp
     clear h K
     try simp only[nD]
     refine rd 24 (by kernel_rfl) rfl (λK h=>?_);go_simp;refine(QV (r:=r) bc.out ac.out ec (by have:=a3.out;omega) (by have:=a0.out;rw[Bh];split<;>omega) (by have:=af.out;have:=y.out.1.1;have:=y.out.2.1;have:=ae.out;have:=ak.out;omega) a9.out (λF hy=>bb.out F (Mu hy)) (FZ ba.out ah.out) an.out).mono ?_;rintro p w9 ⟨rfl,p,R⟩;have ap:=X p;have U:=X R;clear p R
     go_wp2_with fail
     refine h.out _ _ ?_ (λl=>?_)
     .exact U.out
     clear h K
     try simp only[nD]
     refine pl [25,26] rfl ‹_› ?_
     repeat ((first|(refine tk ?_ rfl (by kernel_rfl) ?_ ?_;rotate_left;focus (intro w o;(try dsimp only at o);go_simp;try with_reducible rfl))|refine tn rfl (by kernel_rfl) ?_);try simp only[nD])
     refine dn (by kernel_rfl) ?_
     go_wp2_with fail
     go_ret;rw[ab.out,e];simp only[V];have h:=ap.out;rw[Dn] at h;exact⟨rfl,h,q.out.2.trans U.out⟩
def QR{a:Zc->Zs->Int->Bool×Int}{x y:Lit}(h:(y.1==x.1)=false):fQ a x c b k (y::d) z=fQ a x c b (k+1) d z:=by
 rw[fQ,jC (by rw[h];decide)]
def QT{a:Zc->Zs->Int->Bool×Int}{x y:Lit}(h:(y.1==x.1)=true)(e:gU a x c b k y.2.1 y.2.2 z=(true,z1)):fQ a x c b k (y::d) z=(true,z1):=by
 rw[fQ,jB h,jB (by rw[e]),e]
def QU{a:Zc->Zs->Int->Bool×Int}{x y:Lit}(h:(y.1==x.1)=true)(e:gU a x c b k y.2.1 y.2.2 z=(false,z1))(f:gU a x c b k y.2.2 y.2.1 z1=(true,z2)):fQ a x c b k (y::d) z=(true,z2):=by
 rw[fQ,jB h,jC (by rw[e];simp),e,jB (by rw[f]),f]
def QS{a:Zc->Zs->Int->Bool×Int}{x y:Lit}(h:(y.1==x.1)=true)(e:gU a x c b k y.2.1 y.2.2 z=(false,z1))(f:gU a x c b k y.2.2 y.2.1 z1=(false,z2)):fQ a x c b k (y::d) z=fQ a x c b (k+1) d z2:=by
 rw[fQ,jB h,jC (by rw[e];simp),e,jC (by rw[f];simp),f]
def QX(x:Lit)(m:Az r k c):Az r k (x::c):=by
 intro e s B H ca cc da dc am w n af o p j ac b f hd q;obtain⟨cb,co,rfl⟩:=zN (dA f) (by simp);obtain⟨i,l⟩:∃i,i=yF (x::c) e s B:=⟨_,rfl⟩;rw[<-l];have Hr:Hid (i=fQ (yF c) x e s 0 e B):=X l;have an:=b.lt;have g:=X (λ(B:Int)(H:Zy)(a:Nat)(t:T)(v:Zo)(y:Nat)(u:T)(z:Zo)(A:Nat)(d:N)(C:a<e.length)(h:qH k w d)(b:gC k H B d)(E:t.E<=1000)(F:u.E<=1000)(G:jT (λa=>a≠k) d t.e v)(ag:jT (λa=>a≠k) d u.e z)=>QP m dc y A n af o p j C ac b (h.jh f) (h.jh hd) (h.mb ac q) E F G ag);have Hc:=X f;have Hd:=X hd;have Hw:=X b;have ah:=X j;clear l m n p j b f hd q o;have ao:((c.length:Int)+1==0)=false:=by simp;omega
 go_enter Tryz.func75,Tryz.ntmps75
 go_wp2_with fail
 go_loopw [16] (λb wr=>∃(a:Nat)(z:Int),a<=e.length/\b=Y a/\Hid (i=fQ (yF c) x e s a (e.drop a) z)/\Hid (gC k (sE H z) z wr/\qH k w wr)) (λb _=>e.length - (intOf b).toNat)
 case atStart=>exact⟨0,B,jY _,rfl,Hr,X ⟨by rw[CO Hw.out.2];exact Hw.out,jR.refl _ _⟩⟩
 case round=>
  obtain⟨a,z,h,rfl,t,j⟩:=hrel;by_cases I:a<e.length
  .obtain⟨db,ap,rfl⟩:=zN (dA Hd.out) (by omega)
   obtain⟨y,f⟩:=Zg I;obtain⟨o,u,p,v,aq,q0,q1,q2,q3,q4,q5,q6,i1,i2⟩:=uZ (j.out.2.jh Hd.out) f;have n:e.drop a=y::e.drop (a+1):=(by rw[pN I];congr 1;rw[jO I] at f;exact kT f);have q:=ah.out y (jU f);rw[n] at t;have ar:(a:Int)<e.length:=(by omega);have au:(0:Int)<=a:=(by omega);obtain⟨b,m⟩:=Ze (wr.alloc (.cells #[.bool y.1,Y y.2.1.v,Y y.2.1.f,Zk o y.2.1.e u,Y y.2.2.v,Y y.2.2.f,Zk p y.2.2.e v] 47));have A:Zb wr b:=(by rw[m];exact jG _ _);have G:=X (jI A i1);have V:=X (jI A i2);have h:=X q;have l:=X m;clear f n q i1 i2 m
   go_upto_region 6 with fail
   rw[<-l.out];have J:Hid (gC k (sE H z) z b.drew):=X ⟨(j.out.1.same (A.block k j.out.1.lt)).1,j.out.1.2⟩;have m:Hid (qH k w b.drew):=X (qH.drew (j.out.2.trans (jR.A A)));have q:Hid (qH k b b.drew):=X (qH.drew (jR.refl _ _:qH k b b));have C:Hid (jT (λa=>a≠k) b.drew y.2.1.e o):=X (q.out.jz G.out);have E:Hid (jT (λa=>a≠k) b.drew y.2.2.e p):=X (q.out.jz V.out);have F:=X I;have n:wr.heap.size≠k:=(by have:=j.out.1.lt;omega);have ai:cb≠k:=by
    obtain⟨_,_,_,_,f,_⟩:=uZ Hc.out (k:=0) rfl;exact f
   have W:b.cell? (D cb co)=some (.bool x.1):=by
    obtain⟨_,_,_,_,_,f,_⟩:=uZ (j.out.2.jh Hc.out) (k:=0) rfl;have:=jH A f;simpa using this
   have Z:b.cell? (D wr.heap.size 0)=some (.bool y.1):=(by rw[l.out];exact jJ 0 rfl);have n1:b.cell? (D wr.heap.size 1)=some (Y y.2.1.v):=(by rw[l.out];exact jJ 1 rfl);have n2:b.cell? (D wr.heap.size 2)=some (Y y.2.1.f):=(by rw[l.out];exact jJ 2 rfl);have n3:b.cell? (D wr.heap.size 3)=some (Zk o y.2.1.e u):=(by rw[l.out];exact jJ 3 rfl);have n4:b.cell? (D wr.heap.size 4)=some (Y y.2.2.v):=(by rw[l.out];exact jJ 4 rfl);have n5:b.cell? (D wr.heap.size 5)=some (Y y.2.2.f):=(by rw[l.out];exact jJ 5 rfl);have n6:b.cell? (D wr.heap.size 6)=some (Zk p y.2.2.e v):=(by rw[l.out];exact jJ 6 rfl);have K:=λ(d:N)(f:qH k b d)=>f.cell n Z;have L:=λ(d:N)(f:qH k b d)=>f.cell n n1;have M:=λ(d:N)(f:qH k b d)=>f.cell n n2;have O:=λ(d:N)(f:qH k b d)=>f.cell n n3;have P:=λ(d:N)(f:qH k b d)=>f.cell n n4;have Q:=λ(d:N)(f:qH k b d)=>f.cell n n5;have R:=λ(d:N)(f:qH k b d)=>f.cell n n6;have U:=λ(d:N)(f:qH k b d)=>f.cell ai W;have av:(0:Int)<(c.length:Int)+1:=(by omega);have aw:(0:Int)<((c.length+1:Nat):Int):=(by omega);have ax:0<c.length+1:=(by omega);have ay:=X n;clear q0 q1 q2 q3 q4 q5 q6 Z n1 n2 n3 n4 n5 n6 W G V A l n;generalize wr.heap.size=az at*;refine wp_region_held_drew (S:=λd=>qH k b d) (by kernel_rfl) q.out (λn=>?_)
   cases V:y.1==x.1 with
   |false=>
    refine pl [0,1,2,3,4,5,6,7, -9, -10, -11, -12, -13, -14, -15, -16, -17, -18, -19, -20, -21, -22, -23, -24, -25, -26, -27, -28, -29, -30,30] rfl ‹_› ?_
    repeat ((first|(refine tk ?_ rfl (by kernel_rfl) ?_ ?_;rotate_left;focus (intro w d;(try dsimp only at d);go_simp;try with_reducible rfl))|refine tn rfl (by kernel_rfl) ?_);try simp only[nD])
    refine dn (by kernel_rfl) ?_;have f:Hid (i=fQ (yF c) x e s (a+1) (e.drop (a+1)) z):=X (t.out.trans (QR V));clear K L M O P Q R U g
    go_wp2_with fail
    go_roundw
    case rel=>exact⟨a+1,z,by omega,by go_num,f,X ⟨J.out,m.out⟩⟩
    case measure=>simp[intOf];omega
   |true=>
    obtain⟨⟨v1,W⟩,d⟩:∃Z,gU (yF c) x e s a y.2.1 y.2.2 z=Z:=⟨_,rfl⟩
    cases v1 with
    |true=>
     refine pl [0,1,2,3,4,5,6,7,8,9,10,11,12,13,14,15,16] rfl ‹_› ?_
     repeat ((first|(refine tk ?_ rfl (by kernel_rfl) ?_ ?_;rotate_left;focus (intro w f;(try dsimp only at f);go_simp;try with_reducible rfl))|refine tn rfl (by kernel_rfl) ?_);try simp only[nD])
     refine rp 17 (by kernel_rfl) rfl (λab A=>?_);go_simp;refine(g.out z _ a y.2.1 o u y.2.2 p v _ F.out m.out J.out h.out.1 h.out.2 C.out E.out).mono ?_;rintro ae w6 ⟨rfl,l,G⟩;rw[d];rw[d] at l;have ad:=X l;have aa:=X G;clear l G
     go_wp2_with fail
     refine A.out _ _ ?_ (λn=>?_)
     .exact q.out.trans aa.out
     clear A ab
     try simp only[nD]
     refine pl [18, -20, -21, -22, -23, -24, -25, -26, -27, -28, -29,29,30] rfl ‹_› ?_
     repeat ((first|(refine tk ?_ rfl (by kernel_rfl) ?_ ?_;rotate_left;focus (intro w f;(try dsimp only at f);go_simp;try with_reducible rfl))|refine tn rfl (by kernel_rfl) ?_);try simp only[nD])
     refine dn (by kernel_rfl) ?_;have A:Hid (i=(true,W)):=X (t.out.trans (QT V d));clear K L M O P Q R U g
     go_wp2_with fail
     go_ret;rw[A.out];have l:=ad.out;rw[Dn] at l;exact⟨rfl,l,m.out.trans aa.out⟩
    |false=>
     obtain⟨⟨v2,z2⟩,f⟩:∃Z,gU (yF c) x e s a y.2.2 y.2.1 W=Z:=⟨_,rfl⟩
     cases v2 with
     |true=>
      refine pl [0,1,2,3,4,5,6,7,8,9,10,11,12,13,14,15,16] rfl ‹_› ?_
      repeat ((first|(refine tk ?_ rfl (by kernel_rfl) ?_ ?_;rotate_left;focus (intro w A;(try dsimp only at A);go_simp;try with_reducible rfl))|refine tn rfl (by kernel_rfl) ?_);try simp only[nD])
      refine rp 17 (by kernel_rfl) rfl (λaa G=>?_);go_simp;refine(g.out z _ a y.2.1 o u y.2.2 p v _ F.out m.out J.out h.out.1 h.out.2 C.out E.out).mono ?_;rintro aj w6 ⟨rfl,ab,ad⟩;rw[d];rw[d] at ab;have ak:=X ab;have l:=X ad;clear ab ad
      go_wp2_with fail
      refine G.out _ _ ?_ (λn=>?_)
      .exact q.out.trans l.out
      clear G aa
      try simp only[nD]
      refine pl [18,19,20,21,22,23,24,25,26,27] rfl ‹_› ?_
      repeat ((first|(refine tk ?_ rfl (by kernel_rfl) ?_ ?_;rotate_left;focus (intro w A;(try dsimp only at A);go_simp;try with_reducible rfl))|refine tn rfl (by kernel_rfl) ?_);try simp only[nD])
      refine rp 28 (by kernel_rfl) rfl (λaa G=>?_);go_simp;refine(g.out W _ a y.2.2 p v y.2.1 o u _ F.out (m.out.trans l.out) ak.out h.out.2 h.out.1 (l.out.jz E.out) (l.out.jz C.out)).mono ?_;rintro aj w7 ⟨rfl,ab,ad⟩;rw[f];rw[f] at ab;have al:=X ab;have ae:=X ad;clear ab ad
      go_wp2_with fail
      refine G.out _ _ ?_ (λn=>?_)
      .exact(q.out.trans l.out).trans ae.out
      clear G aa
      try simp only[nD]
      refine pl [29,30] rfl ‹_› ?_
      repeat ((first|(refine tk ?_ rfl (by kernel_rfl) ?_ ?_;rotate_left;focus (intro w A;(try dsimp only at A);go_simp;try with_reducible rfl))|refine tn rfl (by kernel_rfl) ?_);try simp only[nD])
      refine dn (by kernel_rfl) ?_;have aa:Hid (i=(true,z2)):=X (t.out.trans (QU V d f));clear K L M O P Q R U g
      go_wp2_with fail
      go_ret;rw[aa.out];have G:=al.out;rw[Dn,Dn] at G;exact⟨rfl,G,(m.out.trans l.out).trans ae.out⟩
     |false=>
      refine pl [0,1,2,3,4,5,6,7,8,9,10,11,12,13,14,15,16] rfl ‹_› ?_
      repeat ((first|(refine tk ?_ rfl (by kernel_rfl) ?_ ?_;rotate_left;focus (intro w A;(try dsimp only at A);go_simp;try with_reducible rfl))|refine tn rfl (by kernel_rfl) ?_);try simp only[nD])
      refine rp 17 (by kernel_rfl) rfl (λaa G=>?_);go_simp;refine(g.out z _ a y.2.1 o u y.2.2 p v _ F.out m.out J.out h.out.1 h.out.2 C.out E.out).mono ?_;rintro aj w6 ⟨rfl,ab,ad⟩;rw[d];rw[d] at ab;have ak:=X ab;have l:=X ad;clear ab ad
      go_wp2_with fail
      refine G.out _ _ ?_ (λn=>?_)
      .exact q.out.trans l.out
      clear G aa
      try simp only[nD]
      refine pl [18,19,20,21,22,23,24,25,26,27] rfl ‹_› ?_
      repeat ((first|(refine tk ?_ rfl (by kernel_rfl) ?_ ?_;rotate_left;focus (intro w A;(try dsimp only at A);go_simp;try with_reducible rfl))|refine tn rfl (by kernel_rfl) ?_);try simp only[nD])
      refine rp 28 (by kernel_rfl) rfl (λaa G=>?_);go_simp;refine(g.out W _ a y.2.2 p v y.2.1 o u _ F.out (m.out.trans l.out) ak.out h.out.2 h.out.1 (l.out.jz E.out) (l.out.jz C.out)).mono ?_;rintro aj w7 ⟨rfl,ab,ad⟩;rw[f];rw[f] at ab;have al:=X ab;have ae:=X ad;clear ab ad
      go_wp2_with fail
      refine G.out _ _ ?_ (λn=>?_)
      .exact(q.out.trans l.out).trans ae.out
      clear G aa
      try simp only[nD]
      refine pl [29,30] rfl ‹_› ?_
      repeat ((first|(refine tk ?_ rfl (by kernel_rfl) ?_ ?_;rotate_left;focus (intro w A;(try dsimp only at A);go_simp;try with_reducible rfl))|refine tn rfl (by kernel_rfl) ?_);try simp only[nD])
      refine dn (by kernel_rfl) ?_;have G:Hid (i=fQ (yF c) x e s (a+1) (e.drop (a+1)) z2):=X (t.out.trans (QS V d f));have n:=al.out;rw[Dn,Dn] at n;have aa:=X n;clear K L M O P Q R U g n
      go_wp2_with fail
      go_roundw
      case rel=>exact⟨a+1,z2,by omega,by go_num,G,X ⟨aa.out,(m.out.trans l.out).trans ae.out⟩⟩
      case measure=>simp[intOf];omega
  have d:a=e.length:=by omega
  subst d;have a:Hid (i=(false,z)):=X (by rw[t.out,dX];rfl);clear g t
  go_wp2_with fail
  go_ret;rw[a.out];exact⟨rfl,j.out.1,j.out.2⟩
def QY(c:Zn)(h:Nat):Az c h []:=by
 intro j k l m n o p q r w s t d e f u a g hd i;have b:=X a;clear a g hd i e f d;go_enter Tryz.func75,Tryz.ntmps75
 go_wp2_with fail
 go_ret;exact⟨rfl,by rw[yF,CO b.out.2];exact b.out,jR.refl _ _⟩
def Vs(a:Zn)(h:Nat):∀c,Az a h c
 |[]=>QY a h
 |x::c=>QX x (Vs a h c)
abbrev vI(c:Zc)(a:Int)(i:jX)(b:Int)(d:Zo)(e:Nat)(f:Zo)(g:Nat):Zy:=
 #[.slice d c.length e,Y a,Y i.L,Y i.left,Y i.right,Y i.la,Y i.ra,.bool i.lt,.bool i.rt,.slice f i.G.length g,.int .i8 b]
abbrev Om(c:Zc)(a:Int)(i:jX)(b:Int)(d:Zo)(e:Nat)(f:Zo)(g:Nat):Zv:=.agg (vI c a i b d e f g)
def xL(w:N)(b:Nat)(c:Zc)(a:Int)(i:jX)(d:Int)(e:Zo)(f:Nat)(g:Zo)(h:Nat):Prop:=w.heap[b]? =some (.cells (vI c a i d e f g h) 104 (0,0))
def xL.get{i:jX}(h:xL w k c z i z1 a n a1 m):
 (w.cell? (D k 0)=some (.slice a c.length n)/\w.cell? (D k 1)=some (Y z)/\w.cell? (D k 2)=some (Y i.L)/\w.cell? (D k 3)=some (Y i.left)/\w.cell? (D k 4)=some (Y i.right)/\w.cell? (D k 5)=some (Y i.la))/\
 (w.cell? (D k 6)=some (Y i.ra)/\w.cell? (D k 7)=some (.bool i.lt)/\w.cell? (D k 8)=some (.bool i.rt)/\w.cell? (D k 9)=some (.slice a1 i.G.length m)/\w.cell? (D k 10)=some (.int .i8 z1))/\∀j,w.frozen? (D k j)=false:=by
 have b:=λj=>lJ h j;exact⟨⟨b 0,b 1,b 2,b 3,b 4,b 5⟩,⟨b 6,b 7,b 8,b 9,b 10⟩,λj=>by simp[World.frozen?,show w.heap[k]? =_ from h]⟩
def xL.below{b:jX}(h:xL w k c z b z1 a m a1 i)(d:Below n w u)(e:k<n):xL u k c z b z1 a m a1 i:=(d.block k e).trans h
def xL.lt{i:jX}(h:xL w k c z i z1 a n a1 m):k<w.heap.size:=(gJ.1 h).1
def xL.weight{i:jX}(h:xL w k c z i z1 a n a1 m)(b:Int):xL (w.setCell (D k 1) (Y b)) k c b i z1 a n a1 m:=fS w k 1 _ _ _ h
def xL.setIs{i:jX}(h:xL w k c z i z1 a n a1 m)(b:Int):xL (w.setCell (D k 10) (.int .i8 b)) k c z i b a n a1 m:=fS w k 10 _ _ _ h
def pG{b:Nat×Nat}{a:Zy}(h:w.heap[k]? =some (.cells a g b))(i:a.size=U.length):(w.setCells k 0 U).heap[k]? =some (.cells U.toArray g b):=by
 obtain⟨f,c,l⟩:=uC U 0 w a h;rw[c];have:f=U.toArray:=by
  apply Array.ext_getElem?;intro j;by_cases d:j<U.length
  .have e:=Nl k U 0 w (λm m=>by rw[kK,lJ h];simp;omega) j d
   rw[kK,lJ c] at e;rw[e];simp[d]
  rw[uK (by omega),uK (by simp;omega)]
 rw[this]
def xL.all{l:jX}(o:xL w k c z l z1 a n a1 m)(b:Zc)(d:Int)(e:jX)(f:Int)(g:Zo)(h:Nat)(i:Zo)(j:Nat):
 xL (w.setCells k 0 (vI b d e f g h i j).toList) k b d e f g h i j:=pG o rfl
def CT(b:Nat)(c:Nat)(d:jV w r a)(e:InL w t.e a1):
 Calls Zf 73 #[.agg #[.slice a r.length b],.agg (Zj t a1 c)] w λf g=>∃z,f=.returned (.tuple #[Y (tI r t),Y z])/\Zb w g:=
 (IK b c d e).mono (λ_ _ h=>⟨_,h.1,h.2⟩)
def Kz(j:Nat)(f:Nat)(i:jX)(b:Zo)(d:Nat)(g:jV w r a)(hl:c.length<=1000)(h:kR w c a1):
 Calls Zf 54 #[.agg #[.slice a r.length j],.slice a1 c.length f,zV i b d] w λx w'=>x=.returned (Om c (mC r c 0) i 0 a1 f b d)/\Zb w w':=by
 obtain⟨I,e⟩:=Ze (mC r c 0);rw[<-e];have Hr:=X e;have J:=X g;have K:=X h;clear e g h
 go_in
 go_wp2_with fail
 obtain⟨m,e⟩:=Ze (((((w.alloc (.cells #[.slice a r.length j] 24)).alloc (.cells #[Y i.L,Y i.left,Y i.right,Y i.la,Y i.ra,.bool i.lt,.bool i.rt,.slice b i.G.length d] 81)).alloc (.cells (vI [] 0 kZ 0 none 0 none 0) 104)).alloc (.cells (vI c 0 i 0 a1 f b d) 104)));have g:Zb w m:=by rw[e];exact(((jG _ _).alloc (by simp) _).alloc (by simp;omega) _).alloc (by simp;omega) _
 have h:m.heap.size=w.heap.size+4:=by rw[e];simp
 have k:m.cell? ⟨w.heap.size,0,none⟩=some (.slice a r.length j):=by rw[e,kW (by simp;omega),kW (by simp;omega),kW (by simp)];exact jJ 0 rfl
 have l:xL m (w.heap.size+1+1) [] 0 kZ 0 none 0 none 0:=by
  rw[e];unfold xL;rw[zL _ _ _ (by simp)];have:=World.alloc_heap_new ((w.alloc (.cells #[.slice a r.length j] 24)).alloc (.cells #[Y i.L,Y i.left,Y i.right,Y i.la,Y i.ra,.bool i.lt,.bool i.rt,.slice b i.G.length d] 81)) (.cells (vI [] 0 kZ 0 none 0 none 0) 104 (0,0));rw[qE,qE] at this;exact this
 have n:xL m (w.heap.size+1+1+1) c 0 i 0 a1 f b d:=by
  rw[e];unfold xL;have:=World.alloc_heap_new (((w.alloc (.cells #[.slice a r.length j] 24)).alloc (.cells #[Y i.L,Y i.left,Y i.right,Y i.la,Y i.ra,.bool i.lt,.bool i.rt,.slice b i.G.length d] 81)).alloc (.cells (vI [] 0 kZ 0 none 0 none 0) 104 (0,0))) (.cells (vI c 0 i 0 a1 f b d) 104 (0,0));rw[qE,qE,qE] at this;exact this
 refine(show Code.wp _ _ _ _ m->_ from λo=>by rw[e] at o;exact o) ?_;have A:=X (jM (jM g h) (jM k (jM l n)));clear g h k l n e
 go_loopw [19] (λe wr=>∃(k:Nat)(z:Int),k<=c.length/\e=Y k/\Hid (I=mC r (c.drop k) z)/\Hid ((Zb w wr/\w.heap.size+4<=wr.heap.size)/\wr.cell? ⟨w.heap.size,0,none⟩=some (.slice a r.length j)/\xL wr (w.heap.size+1+1) [] 0 kZ 0 none 0 none 0/\xL wr (w.heap.size+1+1+1) c z i 0 a1 f b d)) (λe _=>c.length - (intOf e).toNat)
 case atStart=>exact⟨0,0,jY _,rfl,Hr,X ⟨⟨A.out.1.1,by have:=A.out.1.2;omega⟩,A.out.2⟩⟩
 case round=>
  obtain⟨k,z,hk,rfl,q,B⟩:=hrel;obtain⟨⟨g,s⟩,t,n,u⟩:=B.out;by_cases C:k<c.length
  .obtain⟨cb,co,rfl⟩:=zN K.out (by omega)
   obtain⟨y,o⟩:=Zg C;obtain⟨L,E,M,F,q0,q1,q2,q3,q4,q5,q6,i1,i2⟩:=dZ (kL g K.out) o;have O:c.drop k=y::c.drop (k+1):=(by rw[pN C];congr 1;rw[jO C] at o;exact kT o);rw[O] at q;have ab:(k:Int)<c.length:=(by omega);have ac:(0:Int)<=k:=(by omega);obtain⟨h,e⟩:=Ze (wr.alloc (.cells #[.bool y.1,Y y.2.1.v,Y y.2.1.f,.slice L y.2.1.e.length E,Y y.2.2.v,Y y.2.2.f,.slice M y.2.2.e.length F] 47));have l:Zb wr h:=e▸jG _ _;have P:h.heap.size=wr.heap.size+1:=(by rw[e];simp);have n1:h.cell? ⟨wr.heap.size,1,none⟩=some (Y y.2.1.v):=e▸jJ 1 rfl;have n2:h.cell? ⟨wr.heap.size,2,none⟩=some (Y y.2.1.f):=e▸jJ 2 rfl;have n3:h.cell? ⟨wr.heap.size,3,none⟩=some (.slice L y.2.1.e.length E):=e▸jJ 3 rfl;have Q:h.cell? ⟨wr.heap.size,4,none⟩=some (Y y.2.2.v):=e▸jJ 4 rfl;have R:h.cell? ⟨wr.heap.size,5,none⟩=some (Y y.2.2.f):=e▸jJ 5 rfl;have S:h.cell? ⟨wr.heap.size,6,none⟩=some (.slice M y.2.2.e.length F):=e▸jJ 6 rfl;have U:=jH l t;have V:=X e;have W:=X (CT j E (kD (g.trans (l.mono g.size)) J.out) (jI l i1));have Z:=X (λG(p:Zb h G)=>CT j F (kD (p.mono (by omega)) (kD (g.trans (l.mono g.size)) J.out)) (jI p (jI l i2)));have v:=X (jM (jM Q R) (jM S U));have H:=X (jM l P);have Hy:=X o;have aa:=X t;have p:=X (jM (jM g s) (jM n u));clear o O i1 i2 e g s n u l P B t
   go_upto_region 5 with fail
   rw[<-V.out]
   go_wp2_with fail
   refine W.mono ?_;rintro x G ⟨z2,rfl,e⟩;have m4:=jH e v.1.1;have m5:=jH e v.1.2;have m6:=jH e v.2.1;have mg:=jH e v.2.2;have O:=X (Z G e);have P:=X e;clear n1 n2 n3 U Q R S e W Z V
   go_wp2_with fail
   refine O.mono ?_;rintro x R ⟨V,rfl,Q⟩;have e:Zb wr R:=(H.1.trans (P.mono (by have:=H.2;omega))).trans (Q.mono (by have:=H.2;have:=P.size;omega));have W:=p.1.2;have l:=p.2.2.below e (by omega);have G:=p.out.2.1.below e (by omega);have Z:=l.get.1.2.1;have ad:=l.get.2.2 1;have o:=X (jM e (jM l G));clear m4 m5 m6 mg O Q e l G
   go_wp2_with fail
   go_roundw
   case rel=>
    refine⟨k+1,qI (z+qI (tI r y.2.1+tI r y.2.2)),by omega,by go_num,X q.out,X ⟨⟨?_,?_⟩,?_,?_,by have e:=o.out.2.1.weight (qI (z+qI (tI r y.2.1+tI r y.2.2)));simp only[qI,Ba] at e ⊢;exact e⟩⟩
    .exact bD (p.out.1.1.trans (o.out.1.mono p.out.1.1.size)) (show w.heap.size<=w.heap.size+1+1+1 by omega) _
    .have:=o.out.1.size
     simp;omega
    .rw[World.cell?_setCell_far _ _ _ _ (show w.heap.size+1+1+1≠w.heap.size by omega)]
     exact(kH (w:=wr) (a:=⟨w.heap.size,0,none⟩) (o.out.1.block _ (by show w.heap.size<_;omega))).trans aa.out
    exact(vL _ _ _ _ (show w.heap.size+1+1≠w.heap.size+1+1+1 by omega)).trans o.out.2.2
   case measure=>simp[intOf];omega
  have O:k=c.length:=by omega
  subst O;obtain rfl:z=I:=by rw[q.out,dX];rfl
  have k:=X (jM g s);obtain⟨⟨y0,y1,y2,y3,y4,y5⟩,⟨y6,y7,y8,y9,ae⟩,e⟩:=n.get;obtain⟨⟨x0,x1,G,l,x4,x5⟩,⟨x6,x7,x8,x9,af⟩,_⟩:=u.get;have f0:=e 0;have f1:=e 1;have f2:=e 2;have f3:=e 3;have f4:=e 4;have f5:=e 5;have f6:=e 6;have f7:=e 7;have f8:=e 8;have f9:=e 9;have ag:=e 10;have Q:=X n;have S:Tryz.f54.results=#[.cell 6 104]:=by kernel_rfl
  have U:(Zf.info? 104).map (·.size)=some (vI c z i 0 a1 f b d).size:=show _=some 11 by kernel_rfl
  clear e q g s B t n u
  go_wp2_with fail
  (try simp only[Exit.inBlock,Exit.then]);have e:=Q.all c z i 0 a1 f b d;refine qS (tE S _ _ (w.heap.size+1+1) 104 (vI c z i 0 a1 f b d) (0,0) _ rfl e Tryz.underlying104 rfl U) rfl ?_;exact⟨rfl,bK (show w.heap.size<=w.heap.size+1+1 by omega) (vI c z i 0 a1 f b d).toList 0 _ k.1⟩
section num
def XF(gcap:Nat)(g:jV w r a)(t:c.length<=1000)(h:c.length<=k)(f:qA p w c a1):
 Calls Zf 55 #[.agg #[.slice a r.length gcap],.slice a1 c.length k] w λj w'=>∃d e,j=.returned (.slice d (qN r c).length e)/\(qN r c).length<=e/\qA (λb=>p b\/(w.heap.size<=b/\b<w'.heap.size)) w' (qN r c) d/\Zb w w':=by
 have i:=X (λo=>Te gcap k (qD o g) (by omega) (kL (jG _ _) (dA f)));have q:=X f;have s:=X h;clear g f h
 go_in
 go_wp2_with fail
 refine(i _).mono ?_;rintro j u ⟨h,f⟩;obtain⟨d,e,rfl,l,m⟩:=Wj h;have n:=(jG _ _).trans (f.mono (by simp));have g:=X n;have o:=X (jM l m);have v:=X f.size;clear i h f l m n;by_cases h:(fZ r c).1.length=c.length
 .have i:Hid (qN r c=(fZ r c).1):=X (by rw[qN,jB h])
  have l:(((fZ r c).1.length:Int)==(c.length:Int))=true:=by simp;omega
  clear h;go_wp2;go_ret;rw[i.out];refine⟨d,e,rfl,o.1,nR (λb f=>jE ⟨?_,f.2⟩) o.2,g⟩;have:=f.1;simp at this;omega
 have i:Hid (qN r c=c):=X (by rw[qN,jC h]);have l:(((fZ r c).1.length:Int)==(c.length:Int))=false:=by simp;omega
 go_wp2;go_ret;rw[i.out];exact⟨a1,k,rfl,s,nR (λb f=>jD f) (nA g q),g⟩
end num
def eQ(p:Zp)(w:N):List vM->Zu->Prop
 |[],xs=>xs=[]
 |e::d,xs=>∃a b pa pc c,xs=(vI e.cl e.wt e.ja e.is a b pa pc).toList++c/\(e.cl.length<=b/\qA p w e.cl a/\IP p w e.ja.G pa)/\eQ p w d c
def FN{c e:List vM}:∀{xs a:Zu},eQ p w c xs->eQ p w e a->eQ p w (c++e) (xs++a):=by
 induction c with
 |nil=>intro xs a b d;rw[show xs=[] from b];exact d
 |cons x c f=>
  intro xs a b d;obtain⟨g,i,pa,pc,j,rfl,k,h⟩:=b;exact⟨g,i,pa,pc,j++a,by rw[dH],k,f h d⟩
def uR{c:List vM}(a:∀k,p k->k<w.heap.size->p1 k/\u.heap[k]? =w.heap[k]?):∀{xs:Zu},eQ p w c xs->eQ p1 u c xs:=by
 induction c with
 |nil=>intro xs h;exact h
 |cons x c b=>
  intro xs h;obtain⟨d,e,pa,pc,f,rfl,⟨g,i,j⟩,h⟩:=h;exact⟨d,e,pa,pc,f,rfl,⟨g,xP a i,yH a j⟩,b h⟩
def FO{c:List vM}:∀{xs:Zu}{n:Nat}{e:vM},eQ p w c xs->c[n]? =some e->∃a b pa pc,(∀j u,(vI e.cl e.wt e.ja e.is a b pa pc)[j]? =some u->xs[n*11+j]? =some u)/\(e.cl.length<=b/\qA p w e.cl a/\IP p w e.ja.G pa):=by
 induction c with
 |nil=>intro xs n e _ h;simp at h
 |cons x c g=>
  intro xs n e h d;obtain⟨a,b,pa,pc,s,rfl,i,h⟩:=h
  cases n with
  |zero=>
   simp only[vP,qW] at d;subst d;refine⟨a,b,pa,pc,λj u f=>?_,i⟩;have k:=(gJ.1 f).1;rw[Iv,kK,mY (by simpa using k),Dx];exact f
  |succ n=>
   obtain⟨f,k,l,m,o,q⟩:=g h (by simpa using d);refine⟨f,k,l,m,λj u r=>?_,q⟩;rw[nO (by simp;omega)];rw[show(n+1)*11+j - (vI x.cl x.wt x.ja x.is a b pa pc).toList.length=n*11+j by simp;omega];exact o j u r
def FP{c:List vM}(z:Int):∀{xs:Zu}{n:Nat},eQ p w c xs->n<c.length->eQ p w (c.modify n (λy=>{y with is:=z})) (xs.set (n*11+10) (.int .i8 z)):=by
 induction c with
 |nil=>intro xs n _ h;simp at h
 |cons x c e=>
  intro xs n h f;obtain⟨a,b,pa,pc,g,rfl,d,h⟩:=h
  cases n with
  |zero=>
   rw[List.modify_zero_cons,List.set_append_left _ _ (by simp)];exact⟨a,b,pa,pc,g,rfl,d,h⟩
  |succ n=>
   rw[List.modify_succ_cons,List.set_append_right _ _ (by simp;omega)];rw[show(n+1)*11+10 - (vI x.cl x.wt x.ja x.is a b pa pc).toList.length=n*11+10 by simp;omega];exact⟨a,b,pa,pc,_,rfl,d,e h (by simpa using f)⟩
abbrev oO(ar:Zn)(ga:Zo)(gcap:Nat)(lv:Zv)(s:St)(pa:Zo)(pc:Nat):Zy:=
 #[.slice ga ar.length gcap,lv,Y s.Z,Y s.work,Y s.last.L,Y s.last.left,Y s.last.right,Y s.last.la,Y s.last.ra,.bool s.last.lt,.bool s.last.rt,.slice pa s.last.G.length pc,.bool s.found]
structure HA (ar:Zn) (ga:Zo) (gcap:Nat) (R:Zp) (h:Nat) (s:St) (lv:Zv) (pa:Zo) (pc:Nat) (xs:Zu) (w:N):Prop where
 ka:w.heap[h]? =some (.cells (oO ar ga gcap lv s pa pc) 83 (0,0))
 row:w.ownsRow (h+1) 104 11 lv s.h.length xs
 jl:eQ R w s.h xs
 sig:IP R w ar ga
 jt:IP R w s.last.G pa
 S:∀k,R k->k<w.heap.size/\k≠h/\lv.ownBlock≠some k
def HAt(ar:Zn)(ga:Zo)(gcap:Nat)(R:Zp)(h:Nat)(s:St)(w:N):Prop:=∃lv pa pc xs,HA ar ga gcap R h s lv pa pc xs w
section
variable {ar:Zn} {ga:Zo} {gcap:Nat} {R:Zp} {h:Nat} {s:St} {lv:Zv} {pa:Zo} {pc:Nat} {xs:Zu} {w w':N}
def HA.lt(H:HA ar ga gcap R h s lv pa pc xs w):h<w.heap.size:=(gJ.1 H.ka).1
def HA.own(H:HA ar ga gcap R h s lv pa pc xs w):∀g,lv.ownBlock=some g->h+1<=g/\g<w.heap.size:=kO H.row
def HA.keep(H:HA ar ga gcap R h s lv pa pc xs w)(c:w.heap.size<=w'.heap.size)(d:w'.heap[h]? =w.heap[h]?)(e:∀g,lv.ownBlock=some g->w'.heap[g]? =w.heap[g]?)(b:∀k,R k->w'.heap[k]? =w.heap[k]?):HA ar ga gcap R h s lv pa pc xs w':=
 ⟨d.trans H.ka,vT H.row e,uR (λk a _=>⟨a,b k a⟩) H.jl,yH (λk a _=>⟨a,b k a⟩) H.sig,yH (λk a _=>⟨a,b k a⟩) H.jt,λk a=>⟨kV (H.S k a).1 c,(H.S k a).2⟩⟩
def HA.below(H:HA ar ga gcap R h s lv pa pc xs w)(a:Zb w w'):HA ar ga gcap R h s lv pa pc xs w':=
 H.keep a.size (a.block h H.lt) (λg b=>a.block g (H.own g b).2) (λk b=>a.block k (H.S k b).1)
def HA.drew(H:HA ar ga gcap R h s lv pa pc xs w):HA ar ga gcap R h s lv pa pc xs w.drew:=H.below (jW _ _).drew
def HA.kp(H:HA ar ga gcap R h s lv pa pc xs w)(a:jR p w w')(b:∀k,p k->¬R k/\k≠h/\lv.ownBlock≠some k):HA ar ga gcap R h s lv pa pc xs w':=
 H.keep a.below.size (a.block h H.lt (λe=>(b h e).2.1 rfl)) (λg c=>a.block g (H.own g c).2 (λe=>(b g e).2.2 c)) (λk c=>a.block k (H.S k c).1 (λe=>(b k e).1 c))
def HA.kr(H:HA ar ga gcap R h s lv pa pc xs w):gC h (oO ar ga gcap lv s pa pc) s.work w:=⟨H.ka,rfl⟩
def HA.wk(H:HA ar ga gcap R h s lv pa pc xs w)(d:gC h (sE (oO ar ga gcap lv s pa pc) z) z w')(b:qH h w w'):HA ar ga gcap R h {s with work:=z} lv pa pc xs w':=
 ⟨d.1,vT H.row (λg a=>b.block g (H.own g a).2 (by have:=(H.own g a).1;omega)),uR (λk a c=>⟨a,b.block k c (H.S k a).2.1⟩) H.jl,yH (λk a c=>⟨a,b.block k c (H.S k a).2.1⟩) H.sig,yH (λk a c=>⟨a,b.block k c (H.S k a).2.1⟩) H.jt,λk a=>⟨kV (H.S k a).1 b.below.size,(H.S k a).2⟩⟩
def HA.more{R':Zp}(H:HA ar ga gcap R h s lv pa pc xs w)(b:∀k,R k->R' k)(c:∀k,R' k->k<w.heap.size/\k≠h/\lv.ownBlock≠some k):HA ar ga gcap R' h s lv pa pc xs w:=
 ⟨H.ka,H.row,uR (λk a _=>⟨b k a,rfl⟩) H.jl,yH (λk a _=>⟨b k a,rfl⟩) H.sig,yH (λk a _=>⟨b k a,rfl⟩) H.jt,c⟩
def HA.cells(H:HA ar ga gcap R h s lv pa pc xs w):∀j,w.cell? (D h j)=(oO ar ga gcap lv s pa pc)[j]?:=λj=>lJ H.ka j
def HA.jo(H:HA ar ga gcap R h s lv pa pc xs w):∀j,w.frozen? (D h j)=false:=λj=>by simp[World.frozen?,H.ka]
def HA.at(H:HA ar ga gcap R h s lv pa pc xs w){n:Nat}{e:vM}(i:s.h[n]? =some e):∃g d a b c f,lv=Zx g s.h.length d/\(g≠h/\g<w.heap.size)/\(∀j u,(vI e.cl e.wt e.ja e.is a b c f)[j]? =some u->w.cell? (D g (n*11+j))=some u)/\(∀j,w.frozen? (D g j)=false)/\e.cl.length<=b/\qA R w e.cl a/\IP R w e.ja.G c:=by
 have t:=(Zl i);obtain⟨g,d,rfl,v,k,l⟩:=fX H.row (by omega);obtain⟨a,b,c,f,m,o,p,q⟩:=FO H.jl i;exact⟨g,d,a,b,c,f,rfl,⟨by omega,k⟩,λj u r=>l _ _ (m j u r),H.row.frozenAt,o,p,q⟩
end
def sG(a:Zn)(e:vM):Prop:=e.cl.length<=8/\qC a e.cl
def qC.E(h:qC r c):∀x,x∈c->xO x:=λx a=>⟨by have:=(h x a).1.1;omega,by have:=(h x a).2.1;omega⟩
def MB.made(w:N):MB p w.heap.size [] (w.alloc (.map #[] 0)):=⟨⟨_,kU.made w,λ_=>⟨λ_=>rfl,λ_ h=>by cases h⟩⟩,λ_ _ h=>by cases h⟩
def Ic(h:IP p w r a):jV w r a:=by
 rcases h with h|⟨b,c,d,_,e⟩
 .exact jD h
 exact jE ⟨b,c,d,e⟩
def iL{i:jX}:xL (w.alloc (.cells (vI c z i z1 a k a1 n) 104)) w.heap.size c z i z1 a k a1 n:=World.alloc_heap_new _ _
def Vu{C:Zy}(e:Nat)(p:c.length<=8)(f:c.length<=n)(q:d.length<=8)(g:qC r c)(h:qC r d)(i:m≠k)(j:gC k C z w)(l:qA (λb=>b≠k) w c a)(hd:qA (λb=>b≠k) w d a1)(o:MB (λb=>b≠k) m [] w):
 Calls Zf 75 #[Zr k,.slice a c.length n,.slice a1 d.length e,.map (some m)] w (Mb k C (yF c d [] z) w):=
 Vs r k c d [] z C a n a1 e m w f (by omega) (by simp;omega) g h.E i j l hd o
def jBg{y:vM}{a:List vM}(b:(y.is !=2)=false):nJ c (y::a) z=nJ c a z:=by rw[nJ,jC (by rw[b];simp)]
def jBi{y:vM}{b:List vM}(d:(y.is !=2)=true)(a:yF y.cl c [] z=(true,z1)):nJ c (y::b) z=(true,z1):=by rw[nJ,jB d,jB (by rw[a]),a]
def jBh{y:vM}{a:List vM}(d:(y.is !=2)=true)(b:yF y.cl c [] z=(false,z1)):nJ c (y::a) z=nJ c a z1:=by rw[nJ,jB d,jC (by rw[b];simp),b]
def Jz{b:Type}{l:List b}{y:b}(a:l[k]? =some y):l.drop k=y::l.drop (k+1):=by
 obtain⟨c,a⟩:=jZ.1 a;rw[pN c,a]
def CE{s:St}{F:Zv}(H:HA r a k p n s F a1 m U w)(aw:s.h.length<=1000000)(E:∀y,y∈s.h->sG r y)(G:Int)(I:jX)(J:Int)(h:Nat)(K:Zo)(L:Nat)(ae:c.length<=8)(M:qC r c)(t:qA (λb=>b≠n) w c a2):
 Calls Zf 56 #[Zr n,Om c G I J a2 h K L] w λl e=>l=.returned (.bool (dR r c s.h s.work).1)/\HA r a k p n {s with work:=(dR r c s.h s.work).2} F a1 m U e/\qH n w e:=by
 obtain⟨f,i⟩:=Ze (w.alloc (.cells (vI c G I J a2 h K L) 104));have j:Zb w f:=by rw[i];exact jG _ _
 have x:xL f w.heap.size c G I J a2 h K L:=by rw[i];exact iL
 have d:=H.below j;have O:f.heap.size=w.heap.size+1:=by rw[i];simp
 have af:w.heap.size≠n:=by have:=H.lt;omega
 obtain⟨u,z⟩:=Ze (dR r c s.h s.work);rw[<-z];have P:=x.get.1.1;have A:=d.cells 0;have v:=d.cells 1;simp only[zG,vP,xS] at A v;have Q:=X (λe(g:Zb f e)=>Rm k h (Ic (yH (λb B _=>⟨B,(g.block b (d.S b B).1)⟩) d.sig)) (by omega) (kL g (kL j (dA t))));have q:=X z;have ag:=X i;have R:=X d;have ah:=X E;have ai:=X M;have o:=X (jM x (jM O j));have Hc:=X (nA j t);clear H d z i E M t O x j;have i:=λ(e:N)(g:Zb f e)=>jH g P;have j:=λ(e:N)(g:Zb f e)=>jH g A;clear P A v;go_enter Tryz.func56,Tryz.ntmps56
 go_upto_region 1 with fail
 rw[<-ag.out];refine wp_region_held_drew (S:=λe=>Zb f e) (by kernel_rfl) (xH (jW _ _)) (λd=>?_);refine pl [0,1,2,3,4,5] rfl ‹_› ?_
 repeat ((first|(refine tk ?_ rfl (by kernel_rfl) ?_ ?_;rotate_left;focus (intro w H;(try dsimp only at H);go_simp;try with_reducible rfl))|refine tn rfl (by kernel_rfl) ?_);try simp only[nD])
 refine rp 6 (by kernel_rfl) rfl (λt g=>?_);go_simp;refine(Q.out _ d).mono ?_;rintro l w2 ⟨rfl,aj⟩
 go_wp2_with fail
 refine g.out _ _ ?_ (λd=>?_)
 .exact d.trans (aj.mono d.size)
 clear g t
 try simp only[nD]
 refine pl [7,8,9,10,11] rfl ‹_› ?_
 repeat ((first|(refine tk ?_ rfl (by kernel_rfl) ?_ ?_;rotate_left;focus (intro w H;(try dsimp only at H);go_simp;try with_reducible rfl))|refine tn rfl (by kernel_rfl) ?_);try simp only[nD])
 refine dn (by kernel_rfl) ?_;clear Q i j
 cases P:(wP r c).1 with
 |true=>
  have i:Hid (u=(true,s.work)):=X (by rw[q.out,dR,jB P]);have g:=X d;clear d q
  go_wp2_with fail
  go_ret;rw[i.out];exact⟨rfl,R.out.below g.out,jR.A (o.out.2.2.trans (g.out.mono o.out.2.2.size))⟩
 |false=>
  have ak:Hid (u=nJ c s.h s.work):=X (by rw[q.out,dR,jC (by rw[P];simp)]);have g:=R.out.below d;have v:=g.cells 1;simp only[zG,vP,xS] at v;have HB:=X d;have Q:=X g;clear d q g;obtain⟨M,x,rfl⟩:∃M x,F=.slice M s.h.length x:=by
   rcases Q.out.row.2 with⟨d,g⟩|⟨i,j,q,d,_⟩
   .exact⟨none,0,by rw[d,g]⟩
   exact⟨_,_,d⟩
  go_wp2_with fail
  go_loopw [25] (λd wr=>∃(b:Nat)(z:Int),b<=s.h.length/\d=Y b/\Hid (u=nJ c (s.h.drop b) z)/\Hid (HA r a k p n {s with work:=z} (.slice M s.h.length x) a1 m U wr/\qH n f wr)) (λd _=>s.h.length - (intOf d).toNat)
  case atStart=>exact⟨0,s.work,jY _,rfl,ak,X ⟨Q.out,jR.A HB.out⟩⟩
  case round=>
   obtain⟨b,z,B,rfl,i,g⟩:=hrel;by_cases al:b<s.h.length
   .obtain⟨y,A⟩:=Zg al
    obtain⟨am,ax,V,W,fa,fc,an,⟨ay,az⟩,d,ao,aa,ab,ap⟩:=g.out.1.at (n:=b) (e:=y) A
    cases an
    rw[Jz A] at i;have ac:=ah.out y (jU A);have a0:(b:Int)<s.h.length:=(by omega);have a3:(0:Int)<=b:=(by omega);have q0:=d 0 _ rfl;have q1:=d 1 _ rfl;have q2:=d 2 _ rfl;have q3:=d 3 _ rfl;have q4:=d 4 _ rfl;have q5:=d 5 _ rfl;have q6:=d 6 _ rfl;have q7:=d 7 _ rfl;have q8:=d 8 _ rfl;have q9:=d 9 _ rfl;have aq:=d 10 _ rfl;simp only[mG] at q0;obtain⟨j,B⟩:=Ze (wr.alloc (.cells (vI y.cl y.wt y.ja y.is V W fa fc) 104));have E:Zb wr j:=(by rw[B];exact jG _ _);have O:xL j wr.heap.size y.cl y.wt y.ja y.is V W fa fc:=(by rw[B];exact iL);have H3:=g.out.1.below E;have ar:=X B;have ad:=X ac;have q:=X H3;have t:=X (g.out.2.trans (jR.A E));have au:=X (nR (λav hj=>(g.out.1.S av hj).2.1) (nA E ab));have av:=X aa;have a4:Hid (wr.heap.size≠n):=X (by have:=g.out.1.lt;omega);have a5:=O.get.1.1;have a6:=O.get.2.1.2.2.2.2;have a7:Zq j w.heap.size 0 (.slice a2 c.length h):=t.out.cell af o.out.1.get.1.1;clear A d ao aa ab ap ac E H3 B O g
    go_upto_region 7 with fail
    rw[<-ar.out];clear q0 q1 q2 q3 q4 q5 q6 q7 q8 q9 aq;generalize wr.heap.size=ap at*
    cases A:y.is !=2 with
    |false=>
     have d:=X (i.out.trans (jBg A))
     go_wp2_with fail
     go_roundw
     case rel=>exact⟨b+1,z,by omega,by go_num,d,X ⟨q.out,t.out⟩⟩
     case measure=>simp[intOf];omega
    |true=>
     have aq:=@run_makeMap Zf;obtain⟨⟨v1,z1⟩,B⟩:∃ab,yF y.cl c [] z=ab:=⟨_,rfl⟩;have d:=X (Vu (r:=r) (k:=n) (C:=oO r a k (Zx am s.h.length x) {s with work:=z} a1 m) (z:=z) (w:=j.alloc (.map #[] 0)) h ad.out.1 av.out ae ad.out.2 ai.out (by have:=q.out.lt;omega) (q.out.below (jG _ _)).kr (nA (jG _ _) au.out) (nA (jG _ _) (qH.jh t.out Hc.out)) (MB.made _));rw[B] at d
     cases v1 with
     |false=>
      have ac:=X (i.out.trans (jBh A B))
      go_wp2_with fail
      refine d.out.mono ?_;rintro l w6 ⟨rfl,E,O⟩;have ao:=X E;have aa:=X ((jR.alloc (p:=λb=>b=n) j (.map #[] 0)).trans O);clear E O d
      go_wp2_with fail
      go_roundw
      case rel=>exact⟨b+1,z1,by omega,by go_num,ac,X ⟨q.out.wk ao.out aa.out,t.out.trans aa.out⟩⟩
      case measure=>simp[intOf];omega
     |true=>
      have ac:=X (i.out.trans (jBi A B))
      go_wp2_with fail
      refine d.out.mono ?_;rintro l w6 ⟨rfl,E,O⟩;have ao:=X E;have aa:=X ((jR.alloc (p:=λb=>b=n) j (.map #[] 0)).trans O);clear E O d
      go_wp2_with fail
      go_ret;rw[ac.out];exact⟨rfl,q.out.wk ao.out aa.out,(jR.A o.out.2.2).trans (t.out.trans aa.out)⟩
   have d:b=s.h.length:=(by omega);subst d;have B:Hid (u=(false,z)):=X (by rw[i.out,dX];rfl);clear i
   go_wp2_with fail
   go_ret;rw[B.out];exact⟨rfl,g.out.1,(jR.A o.out.2.2).trans g.out.2⟩
theorem Tryz.va:(Zf.info? 104).map (λi=>(i.zero,i.size,i.bytes))=some (some (.agg (vI [] 0 kZ 0 none 0 none 0)),11,112):=by kernel_rfl
theorem Tryz.ql:Zf.underlying 77=some (.slice 104):=by kernel_rfl
def jAk{v:Zv}{e:jX}(f:TypeId)(l:w.ownsRow k 104 11 v n U)(o:xL w m c z e z1 a j a1 n1)(F:n<=1000000)(p:k<=w.heap.size):
 ∃b w',(Builtin.append_ #[77,77] f #[v,Zx m 1 i]).run Zf w=.ok b w'/\w'.ownsRow k 104 11 b (n+1) (U++(vI c z e z1 a j a1 n1).toList)/\w.grownBy w' v.ownBlock/\(b.ownBlock=v.ownBlock\/b.ownBlock=some w.heap.size):=by
 obtain⟨q,r,g⟩:=bQ.1 Tryz.va;simp only[bG] at g;obtain⟨s,t,u⟩:=g
 obtain⟨b,w',x,y,A,_,B⟩:=run_append_own_at w k 77 f 104 q (.agg (vI [] 0 kZ 0 none 0 none 0)) 11 112 Tryz.ql r s t u rfl (by decide) v n U l (D m 0) 1 i (vI c z e z1 a j a1 n1).toList rfl (λh C d=>by
  have E:((D m 0):Addr).add h=(D m h):=by simp[Addr.add];omega
  rw[E,lJ o];rw[Dx] at d;exact d) (λC d=>by
  simp only[qO,sL,or_false] at d
  rcases d with rfl|rfl|rfl|rfl|rfl|rfl|rfl|rfl|rfl|rfl|rfl<;>rfl) (by unfold maxLen;omega) (by omega) p
 exact⟨b,w',x,y,A,B⟩
def jDt{b:Array Oper}{o:Oper}{a:Act}{K:Act->N->Prop}{Q:Exit->Act->N->Prop}{E:Prop}{c:Array TypeId}(f:o.guard=none)(s x:Operand)(g:o.op=.call {callee:=.builtin .append,args:=#[s,x],argTypes:=c}){v d:Zv}(i:a.eval s=v)(j:a.eval x=d){e:Zv}(k:(Builtin.append_ c o.type #[v,d]).run Zf w=.ok e u)(h:K (a.put o.dst e) u):
 if Region.wanted o (yielded b a.tmps)=true then Oper.wp Zf o a w K Q else E:=by
 have l:Region.wanted o (yielded b a.tmps)=true:=by simp[Region.wanted,f]
 rw[jB l];unfold Oper.wp execOp;simp only[g,resolve,invoke,builtin,Sem.run_bind,Sem.run_pure,oH,List.map_toArray,yI,List.map_nil,i,j,k];exact h
section
variable {ar:Zn} {ga:Zo} {gcap:Nat} {R:Zp} {h:Nat} {s:St} {lv:Zv} {pa:Zo} {pc:Nat} {xs:Zu} {w w':N}
theorem jFk(s:St)(l:List vM):oO ar ga gcap lv {s with h:=l} pa pc=oO ar ga gcap lv s pa pc:=rfl
def HA.setIs(H:HA ar ga gcap R h s (Zx k m n) pa pc xs w)(e:m=s.h.length)(f:i<s.h.length)(z:Int):HA ar ga gcap R h {s with h:=s.h.modify i (λy=>{y with is:=z})} (Zx k m n) pa pc (xs.set (i*11+10) (.int .i8 z)) (w.setCell (D k (i*11+10)) (.int .i8 z)):=by
 subst e;have j:=H.own k rfl;have c:∀a,a≠k->(w.setCell (D k (i*11+10)) (.int .i8 z)).heap[a]? =w.heap[a]?:=λa b=>vL _ _ _ _ b;have d:∀a,R a->a≠k:=λa b g=>(H.S a b).2.2 (by rw[g];rfl);refine⟨(c h (by omega)).trans H.ka,?_,FP z (uR (λa b _=>⟨b,c a (d a b)⟩) H.jl) f,yH (λa b _=>⟨b,c a (d a b)⟩) H.sig,yH (λa b _=>⟨b,c a (d a b)⟩) H.jt,λa b=>⟨by have:=(H.S a b).1;simpa using this,(H.S a b).2⟩⟩;have:=(H.row.stored (i*11+10) (.int .i8 z)).1;simpa using this
def HA.app{g:Zv}{e:vM}(H:HA ar ga gcap R h s lv pa pc xs w)(i:∀b,R b->p b)(f:∀b,p b->b<w.heap.size/\b≠h/\lv.ownBlock≠some b)(q:e.cl.length<=k)(r:qA p w e.cl a)(d:IP p w e.ja.G a1)
 (m:w'.ownsRow (h+1) 104 11 g (s.h.length+1) (xs++(vI e.cl e.wt e.ja e.is a k a1 n).toList)) (l:w.grownBy w' lv.ownBlock) (j:g.ownBlock=lv.ownBlock\/g.ownBlock=some w.heap.size):
 HA ar ga gcap p h {s with h:=s.h++[e]} g pa pc (xs++(vI e.cl e.wt e.ja e.is a k a1 n).toList) (w'.setCell (D h 1) g):=by
 have c:∀b,p b->(w'.setCell (D h 1) g).heap[b]? =w.heap[b]?:=λb c=>by
  rw[vL _ _ _ _ (f b c).2.1,l.block b (f b c).1 (λe=>(f b c).2.2 e.symm)]
 have t:=l.block h H.lt (λe=>by have:=(H.own h e.symm).1;omega);refine⟨?_,?_,?_,yH (λb d _=>⟨i b d,c b (i b d)⟩) H.sig,yH (λb d _=>⟨i b d,c b (i b d)⟩) H.jt,λb c=>⟨?_,(f b c).2.1,?_⟩⟩
 .exact fS w' h 1 _ _ _ (t.trans H.ka)
 .rw[qB]
  refine vT m (λo u=>vL _ _ _ _ ?_);have:=(kO m o u).1;show o≠h;omega
 .exact FN (uR (λb d _=>⟨i b d,c b (i b d)⟩) H.jl) ⟨a,k,a1,n,[],by rw[zU],⟨q,xP (λb d _=>⟨d,c b d⟩) r,yH (λb o _=>⟨o,c b o⟩) d⟩,rfl⟩
 .have o:=(f b c).1
  have u:=l.size;simp;omega
 rcases j with j|j
 .rw[j];exact(f b c).2.2
 rw[j];intro e;have o:=(f b c).1;cases e;omega
end
def Tn{x y:vM}{a:List vM}(b:(x.is !=2 && y.is !=2)=false):vK x (y::a) z=(y::(vK x a z).1,(vK x a z).2):=by rw[vK,jC (by rw[b];simp)]
def To{x y:vM}{a:List vM}(b:(x.is !=2 && y.is !=2)=true)(c:yF x.cl y.cl [] z=(true,z1)):vK x (y::a) z=({y with is:=2}::(vK x a z1).1,(vK x a z1).2):=by rw[vK,jB b,c];rfl
def Tm{x y:vM}{a:List vM}(b:(x.is !=2 && y.is !=2)=true)(c:yF x.cl y.cl [] z=(false,z1)):vK x (y::a) z=(y::(vK x a z1).1,(vK x a z1).2):=by rw[vK,jB b,c];rfl
def Ff(x:vM):∀(l:List vM)(a:Int),(vK x l a).1.length=l.length
 |[],_=>rfl
 |y::b,a=>by
  rw[vK]
  split
  .simp only[xI];rw[Ff x b]
  simp only[xI];rw[Ff x b]
def WN{a:Type}(f:a->a)(pre:List a)(y:a)(l:List a):(pre++y::l).modify pre.length f=pre++f y::l:=by
 induction pre with
 |nil=>rfl
 |cons x pre b=>simp only[dW,xI,List.modify_succ_cons,b]
def Nn{s:St}{lv:Zv}(H:HA r a k p n s lv a1 m U w)(a9:s.h.length<=1000000)(E:∀y,y∈s.h->sG r y)(f:Int){d:jX}(is:Int)(x:Nat)(ar:c.length<=8)(F:qC r c)(G:c.length<=i)(I:qA p w c a2)(J:IP p w d.G a3):
 Calls Zf 57 #[Zr n,Om c f d is a2 i a3 x] w λe w'=>e=.returned (.tuple #[])/\(∃S A,HA r a k p n (sS s ⟨c,f,d,is⟩) S a1 m A w'/\(S.ownBlock=lv.ownBlock\/∃h,S.ownBlock=some h/\w.heap.size<=h))/\jR (λb=>b=n\/lv.ownBlock=some b) w w':=by
 obtain⟨V,o⟩:=Ze (w.alloc (.cells (vI c f d is a2 i a3 x) 104));have g:Zb w V:=o▸jG _ _;have K:xL V w.heap.size c f d is a2 i a3 x:=o▸iL;have z:=H.below g;have af:w.heap.size≠n:=by have:=H.lt;omega
 have L:lv.ownBlock≠some w.heap.size:=λe=>by have:=(H.own _ e).2;omega
 obtain⟨l,q⟩:=Ze (vK ⟨c,f,d,is⟩ s.h s.work);have M:sS s ⟨c,f,d,is⟩={s with h:=l.1++[⟨c,f,d,is⟩],work:=l.2}:=by rw[q];rfl
 rw[M];have O:=z.cells 1;simp only[zG,vP,xS] at O;obtain⟨u,t,rfl⟩:∃u t,lv=.slice u s.h.length t:=by
  rcases H.row.2 with⟨j,v⟩|⟨h,B,P,j,_⟩
  .exact⟨none,0,by rw[j,v]⟩
  exact⟨_,_,j⟩
 have Hr:Hid (l.1=[]++(vK ⟨c,f,d,is⟩ s.h s.work).1/\l.2=(vK ⟨c,f,d,is⟩ s.h s.work).2):=X ⟨by rw[q];rfl,by rw[q]⟩;have au:=X o;have B:=X z;have av:=X E;have aw:=X F;have ag:=X g;have Q:=X K;have W:=X (jM (nA g I) (yH (λb j v=>⟨j,g.block b v⟩) J));have ah:=X G;have ai:=X L;clear H z q o E F I J K M g G L
 go_in
 go_upto_region 1 with fail
 rw[<-au.out]
 go_wp2_with fail
 clear O
 go_loopw [11] (λg wr=>∃(b:Nat)(z:Int)(pre:List vM)(A:Zu),(b<=s.h.length/\pre.length=b)/\g=Y b/\Hid (l.1=pre++(vK ⟨c,f,d,is⟩ (s.h.drop b) z).1/\l.2=(vK ⟨c,f,d,is⟩ (s.h.drop b) z).2)/\Hid (HA r a k p n {s with h:=pre++s.h.drop b,work:=z} (.slice u s.h.length t) a1 m A wr/\jR (λb=>b=n\/(Value.slice u s.h.length t).ownBlock=some b) V wr)) (λg _=>s.h.length - (intOf g).toNat)
 case atStart=>exact⟨0,s.work,[],U,⟨jY _,rfl⟩,rfl,Hr,X ⟨B,jR.refl _ _⟩⟩
 case round=>
  obtain⟨b,z,pre,A,⟨j,Z⟩,rfl,q,g⟩:=hrel;by_cases ax:b<s.h.length
  .obtain⟨y,O⟩:=Zg ax
   have P:=Jz O;rw[P] at q g;have aa:(pre++y::s.h.drop (b+1))[b]? =some y:=(by rw[<-Z,nO (jF _)];simp);have ad:(pre++y::s.h.drop (b+1)).length=s.h.length:=(by simp;omega);obtain⟨h,ay,ea,ec,fa,fc,ae,⟨aj,az⟩,o,ak,al,am,a0⟩:=g.1.at aa;have a4:u=some (D h 0):=(by injection ae);subst a4;have an:=av y (jU O);have ba:(b:Int)<s.h.length:=(by omega);have bb:(0:Int)<=b:=(by omega);have q0:=o 0 _ rfl;have q1:=o 1 _ rfl;have q2:=o 2 _ rfl;have q3:=o 3 _ rfl;have q4:=o 4 _ rfl;have q5:=o 5 _ rfl;have q6:=o 6 _ rfl;have q7:=o 7 _ rfl;have q8:=o 8 _ rfl;have q9:=o 9 _ rfl;have ao:=o 10 _ rfl;simp only[mG] at q0;obtain⟨E,J⟩:=Ze (wr.alloc (.cells (vI y.cl y.wt y.ja y.is ea ec fa fc) 104));have F:Zb wr E:=J▸jG _ _;have ab:xL E wr.heap.size y.cl y.wt y.ja y.is ea ec fa fc:=J▸iL;have H3:=g.1.below F;have M:=g.2.trans (jR.A F);have ac:¬(w.heap.size=n\/(Value.slice (some (D h 0)) s.h.length t).ownBlock=some w.heap.size):=λe=>e.elim af (λe=>ai e);have H:xL E w.heap.size c f d is a2 i a3 x:=(M.block _ Q.lt ac).trans Q;have a5:=X J;have ap:=X an;have I:=X H3;have R:=X M;have a6:=X (nR (λK G=>(g.1.S K G).2.1) (nA F am));have a7:=X (nR (λK G=>(g.1.S K G).2.1) (xP (λb j v=>⟨j,M.block b v (λe=>e.elim (B.S b j).2.1 (λe=>(B.S b j).2.2 e))⟩) W.1));have bc:=X al;have aq:=X (jM aa (jM ad P));have bd:=ab.get.1.1;have be:=ab.get.2.1.2.2.2.2;have bf:=H.get.1.1;have bg:=H.get.2.1.2.2.2.2;have L:=H3.cells 1;simp only[zG,vP,xS] at L;have a8:Hid (∀w',qH n E w'->Zq w' h (b*11+10) (.int .i8 y.is)/\w'.frozen? (D h (b*11+10))=false):=X (λw' hb=>⟨hb.cell aj (jH F ao),by rw[gZ (w:=E) (a:=(D h (b*11+10))) (hb.block h (by have:=F.size;omega) aj),gZ (w:=wr) (a:=(D h (b*11+10))) (F.block h az)];exact ak _⟩);clear O o ak al am a0 an F H3 J ab g M aa ad P ae H
   go_upto_region 4 with fail
   rw[<-a5.out];clear q0 q1 q2 q3 q4 q5 q6 q7 q8 q9 ao;generalize wr.heap.size=ao at*;have F:(is !=2 && y.is !=2)=false->Hid (l.1=(pre++[y])++(vK ⟨c,f,d,is⟩ (s.h.drop (b+1)) z).1/\l.2=(vK ⟨c,f,d,is⟩ (s.h.drop (b+1)) z).2):=λo=>X ⟨by rw[q.out.1,Tn o];simp,by rw[q.out.2,Tn o]⟩;have o:=X F;clear F
   cases F:is !=2 with
   |false=>
    have J:=o (by rw[F];rfl);clear o
    go_wp2_with fail
    go_roundw
    case rel=>exact⟨b+1,z,pre++[y],A,⟨by omega,by simp;omega⟩,by go_num,J,X ⟨by rw[dH];exact I,R⟩⟩
    case measure=>simp[intOf];omega
   |true=>
    cases J:y.is !=2 with
    |false=>
     have M:=o (by rw[F,J];rfl);clear o
     go_wp2_with fail
     go_roundw
     case rel=>exact⟨b+1,z,pre++[y],A,⟨by omega,by simp;omega⟩,by go_num,M,X ⟨by rw[dH];exact I,R⟩⟩
     case measure=>simp[intOf];omega
    |true=>
     clear o;have an:=@run_makeMap Zf;obtain⟨⟨v1,o⟩,M⟩:∃aa,yF c y.cl [] z=aa:=⟨_,rfl⟩;have O:=X (Vu (C:=oO r a k (Zx h s.h.length t) {s with h:=pre++y::s.h.drop (b+1),work:=z} a1 m) ec ar ah ap.1 aw ap.2 (by have:=I.lt;omega) (I.below (jG _ _)).kr (nA (jG _ _) a7) (nA (jG _ _) a6) (MB.made _));rw[M] at O
     cases v1 with
     |false=>
      have ae:Hid (l.1=(pre++[y])++(vK ⟨c,f,d,is⟩ (s.h.drop (b+1)) o).1/\l.2=(vK ⟨c,f,d,is⟩ (s.h.drop (b+1)) o).2):=X ⟨by rw[q.out.1,Tm (by rw[F,J];rfl) M];simp,by rw[q.out.2,Tm (by rw[F,J];rfl) M]⟩
      go_wp2_with fail
      refine O.mono ?_;rintro e w6 ⟨rfl,P,ab⟩;have ak:=X P;have ad:=X ((jR.alloc E (.map #[] 0)).trans ab);clear P ab O
      go_wp2_with fail
      go_roundw
      case rel=>exact⟨b+1,o,pre++[y],A,⟨by omega,by simp;omega⟩,by go_num,ae,X ⟨by rw[dH];exact I.wk ak ad,R.trans (ad.mono (λ_ n=>jD n))⟩⟩
      case measure=>simp[intOf];omega
     |true=>
      have ae:Hid (l.1=(pre++[{y with is:=2}])++(vK ⟨c,f,d,is⟩ (s.h.drop (b+1)) o).1/\l.2=(vK ⟨c,f,d,is⟩ (s.h.drop (b+1)) o).2):=X ⟨by rw[q.out.1,To (by rw[F,J];rfl) M];simp,by rw[q.out.2,To (by rw[F,J];rfl) M]⟩
      go_wp2_with fail
      refine O.mono ?_;rintro e w6 ⟨rfl,ab,ad⟩;have P:=(jR.alloc E (.map #[] 0)).trans ad;have H6:=I.wk ab P;have ak:=H6.cells 1;simp only[zG,vP,xS] at ak;obtain⟨a0,bh⟩:=a8 w6 P;have al:=X P;have am:=X H6;clear ab ad O H6 P L
      go_wp2_with fail
      go_roundw
      case rel=>
       refine⟨b+1,o,pre++[{y with is:=2}],A.set (b*11+10) (.int .i8 2),⟨by omega,by simp;omega⟩,by go_num,ae,X ⟨?_,?_⟩⟩
       .have O:=am.setIs aq.2.1.symm (by show b<(pre++y::s.h.drop (b+1)).length;rw[aq.out.2.1];omega) 2
        have P:(pre++y::s.h.drop (b+1)).modify b (λy=>{y with is:=2})=(pre++[{y with is:=2}])++s.h.drop (b+1):=(by rw[<-Z,WN];simp);simp only[P] at O;exact O
       refine(R.trans (al.mono (λ_ n=>jD n))).trans ⟨bD (p:=(D h (b*11+10))) (jW _ _) (jY _) _,λK _ G=>vL _ _ _ _ (λe=>G (jE (by rw[e];rfl)))⟩
      case measure=>simp[intOf];omega
  have al:b=s.h.length:=by omega
  subst al;have am:s.h.drop s.h.length=[]:=dX;rw[am] at q g;have ak:l=(pre,z):=by
   have o:=q.1;have J:=q.2;rw[show(vK ⟨c,f,d,is⟩ [] z)=([],z) from rfl,zU] at o;rw[show(vK ⟨c,f,d,is⟩ [] z)=([],z) from rfl] at J;exact Prod.ext o J
  rw[zU] at g;have an:=X ak;have ac:¬(w.heap.size=n\/(Value.slice u s.h.length t).ownBlock=some w.heap.size):=λe=>e.elim af (λe=>ai e);have H:xL wr w.heap.size c f d is a2 i a3 x:=(g.2.block _ Q.lt ac).trans Q;obtain⟨⟨e0,e1,e2,e3,e4,e5⟩,⟨e6,e7,e8,e9,a0⟩,_⟩:=H.get;have L:=g.1.cells 1;have bh:=g.1.jo 1;simp only[zG,vP,xS] at L;obtain⟨z,M⟩:=Ze ((wr.alloc (.cells (vI c f d is a2 i a3 x) 104)).drew);have O:Zb wr z:=by rw[M];exact(jG _ _).drew
  have o:=g.1.below O;obtain⟨v',w6,ab,ad,P,ae⟩:=jAk (w:=z) (i:=1) 77 o.row (show xL z wr.heap.size c f d is a2 i a3 x by rw[M];exact World.alloc_heap_new _ _) (by show pre.length<=1000000;omega) (by have:=o.lt;omega);obtain⟨va,vc,rfl⟩:∃va vc,v'=.slice va (pre.length+1) vc:=by
   rcases ad.2 with⟨_,h2⟩|⟨h,ay,bi,J,_⟩
   .omega
   exact⟨_,_,J⟩
  have H6:=o.app (e:=⟨c,f,d,is⟩) (λ_ j=>j) o.S ah (xP (u:=z) (p1:=p) (λb j v=>⟨j,by rw[O.block b (kV v g.out.2.below.size)];exact g.2.block b v (λe=>e.elim (B.S b j).2.1 (λe=>(B.S b j).2.2 e))⟩) W.1) (yH (u:=z) (p1:=p) (λb j v=>⟨j,by rw[O.block b (kV v g.out.2.below.size)];exact g.2.block b v (λe=>e.elim (B.S b j).2.1 (λe=>(B.S b j).2.2 e))⟩) W.2) ad P ae;have bi:w6.cell? (D n 1)=some (.slice u s.h.length t):=by
   rw[kH (w:=z) (a:=(D n 1)) (P.block n o.lt (λe=>by have:=(o.own n e.symm).1;omega))];have:=o.cells 1;simpa using this
  have bj:w6.frozen? (D n 1)=false:=by
   rw[gZ (w:=z) (a:=(D n 1)) (P.block n o.lt (λe=>by have:=(o.own n e.symm).1;omega))];exact o.jo 1
  have aa:=X H6;have J:=X (jM (jM g.2 O) (jM P ae));have bk:=X M;rw[M] at ab;have bl:(wr.alloc (.cells (vI c f d is a2 i a3 x) 104)).cell? (D n 1)=some (.slice u s.h.length t):=(kH (w:=wr) (a:=(D n 1)) ((jG _ _).block n g.1.lt)).trans L;clear o H6 ad P ae ak O H q M g Z
  go_wp2_with fail
  have g:=X ab;clear ab
  go_region_law (refine jDt rfl (.tmp 45) (.tmp 47) rfl rfl rfl g ?_)
  all_goals
   go_wp2_with fail
   (try simp only[Exit.inBlock,Exit.then]);refine rS (sD rfl _ _ _) rfl ?_;refine⟨rfl,⟨_,_,by rw[an.out];exact aa,?_⟩,?_⟩
   .rcases J.2.2 with n|n
    .exact jD n
    refine jE ⟨_,n,?_⟩;have o:=J.1.2.size;have q:=J.1.1.below.size;have H:=ag.size;omega
   have o:=(jR.A ag).trans (J.1.1.trans (jR.A J.1.2));have q:jR (λb=>b=n\/(Value.slice u s.h.length t).ownBlock=some b) z w6:=Xm J.2.1 (λh H=>jE H);exact(o.trans q).trans ⟨bD (jW _ _) (jY _) _,λK _ G=>vL _ _ _ _ (λe=>G (jD e))⟩
end Go.Proofs.YtohdnhlfpldbmaaGreat
