import Derived.Deep.AppendSrc
import Derived.Lib.AppendZerosOnto
import Derived.Maps.RangeWalk
import Derived.Test.YtohdnhlfpldbmaaGreatJoined4
set_option maxRecDepth 100000
set_option maxHeartbeats 32000000
set_option linter.all false
namespace Go.Proofs.YtohdnhlfpldbmaaGreat
open Go.RowKit Go.Maps
open Go.Proofs.Tryz renaming prog->Zf
attribute [local go_sem ↓] Go.wp_at_zero Go.wp_at_succ
variable {k n m i j n1 n2 n3 n4 n5 n6 n7 n8 n9:Nat}{w u v w1 w2 w3 w4 w5:N}{x y x1 x2 x3 x4 x5 x6 x7 x8 x9:Value}{r r1 r2:Zn}{p p1 p2:Zp}{z z1 z2 z3:Int}{a a1 a2 a3 a4:Zo}{t s t1 t2:T}{c d c1 c2:Zc}{g g1 g2:TypeId}{b b1 b2:Zs}{l l1:Zt}{U V U1 U2:Zu}{B B1:Bool}
def gI(g:Int->Option Int)(v i:Int):Int->Option Int:=λk=>if k=v then some i else g k
def dM(n:Int)(G:(Int->Option Int)->Bool):Zn->(Int->Option Int)->Bool
 |[],g=>G g
 |v::a,g=>(List.range n.toNat).all (λi=>dM n G a (gI g v (i:Int)))
def JI{G:(Int->Option Int)->Bool}:∀{a:Zn}{b c:Int->Option Int},(∀k,k∉a->b k=c k)->dM z G a b=dM z G a c:=by
 intro a;induction a with
 |nil=>
  intro b c h;have:b=c:=funext (λk=>h k (by simp));rw[this]
 |cons v a d=>
  intro b c h;rw[dM,dM]
  have f:(λi:Nat=>dM z G a (gI b v (i:Int)))=(λi:Nat=>dM z G a (gI c v (i:Int))):=funext (λi=>d (λk g=>by
   rw[gI,gI];by_cases e:k=v
   .rw[jB e,jB e]
   rw[jC e,jC e];exact h k (by simp[e,g])))
  rw[f]
def lL:Nat->Nat
 |0=>0
 |k+1=>3*(1+lL k)
structure AB (ar:Zn) (n:Int) (ls:List Zn) (ta:Zo) (tc b bi bm bc:Nat) (c:Zc) (ca:Zo) (cc:Nat) (W0:N):Prop where
 mo:gM ar n ls
 ok:qC ar c
 len:c.length<=8
 qx:dK W0 ls ta
 lits:kR W0 c ca
 cn:W0.cell? (D bm 0)=some (Y n)
 ct:W0.cell? (D bm 1)=some (.slice ta ls.length tc)
 cc:W0.cell? (D bc 0)=some (.slice ca c.length cc)
 hb:W0.heap.size<=b
 ne:bi≠b
structure AW (n:Int) (b bi:Nat) (W0 w:N) (m:Nat) (g:Int->Option Int):Prop where
 below:Zb W0 w
 jc:∀k,0<=(g k).getD 0/\(g k).getD 0<n
 map:vS w b m g
 ci:w.cell? (D bi 0)=some (.map (some b))
def AB.hs{d:List Zn}{g:Int->Option Int}(h:AB r z d a k n m i j c a1 n1 w)(b:AW z n m w u n2 g):HS r z d a k n m i c a1 u n2 g:=
 ⟨h.mo,h.ok,h.len,b.jc,b.map,gP b.below h.qx,kL b.below h.lits,b.ci,jH b.below h.cn,jH b.below h.ct⟩
def AW.bel{g:Int->Option Int}(a:AW z k n w u m g)(b:Zb u v):AW z k n w v m g:=
 ⟨a.below.trans (b.mono a.below.size),a.jc,a.map.below b,jH b a.ci⟩
def AW.put{g:Int->Option Int}(a:AW z k n w u m g)(d:w.heap.size<=k)(f:n≠k)(h:0<=z2)(i:z2<z)(j:vS v k (m+1) (gI g z1 z2))(c:u.grownBy v (some k)):AW z k n w v (m+1) (gI g z1 z2):=by
 refine⟨a.below.grown c a.below.size (λb e=>by cases e;exact d),λb=>?_,j,?_⟩
 .rw[gI]
  by_cases e:b=z1
  .rw[jB e];exact⟨h,i⟩
  rw[jC e];exact a.jc b
 rw[kH (w:=u) (a:=(D n 0)) (c.block n (kA a.ci) (λe=>by cases e;exact f rfl))];exact a.ci
theorem OT(a:Zy)(w:N):(callFunc 19 a).run Zf w=.ok (.enter 19 a) w:=by kernel_rfl
def ZL{p:Nat->Bool}(b:k<n)(h:(List.range k).all p=true):(p k=true->(List.range (k+1)).all p=true)/\(p k=false->(List.range n).all p=false):=by
 constructor
 .intro a
  rw[List.range_succ,Ei,h];simpa using a
 intro a;rw[Be];exact⟨k,eS.2 b,by rw[a];decide⟩
def JS{J:List Zn}(l:AB r z J a k n m i j c a1 n1 w):∀(b:Zn)(C:Zo)(x:Nat)(E:N)(h:Nat)(g:Int->Option Int),AW z n m w E h g->jV w b C->b.length<=x->b.length<=1000->(∀v,v∈b->1<=v/\v<=1000)->h+lL b.length<=1000000->
 Calls Zf 18 #[.map (some n),Y z,.slice C b.length x,.func (.func 19) #[] #[Zr j,Zr m,Zr i]] E λf K=>f=.returned (.bool (dM z (λg=>qY z J (λd=>(g d).getD 0) c) b g))/\∃o q,AW z n m w K o q/\o<=h+lL b.length/\∀d,d∉b->q d=g d:=by
 intro b;induction b with
 |nil=>
  intro C x E h g e _ _ _ _ _;have y:=OT;have s:=X (SM (l.hs e) (jH e.below l.cc));have t:=X e;clear e l
  go_in
  go_wp2_with fail
  refine s.mono ?_;rintro f K ⟨rfl,e⟩;have u:Hid (∃o q,AW z n m w K o q/\o<=h+lL 0/\∀d,d∉([]:Zn)->q d=g d):=⟨h,g,t.bel e,jF _,λ_ _=>rfl⟩;clear e;go_wp2;go_ret;exact⟨rfl,u⟩
 |cons v b H=>
  intro C x E h g I e Q ad t R;have S:=X H;have aq:=X l;have Ha:=X I;have ae:=t v (by simp);have af:=X (λs u=>t s (vG v u));obtain⟨vb,ag,rfl,L⟩:=pL e (by simp);have M:w.cell? (D vb ag)=some (Y v):=by have:=L 0 (by simp);simpa using this
  have u:(v::b).length=b.length+1:=by simp
  rw[u] at Q ad R;obtain⟨ah,ar,O⟩:=jD8 e Q;have ai:=X O;have aj:=X M;have au:=l.mo.lo;have av:=l.mo.hi;have ak:=l.hb;have al:=l.ne;have P:lL (b.length+1)=3*(1+lL b.length):=rfl;rw[P] at R;have aw:(((b.length+1:Nat):Int)==0)=false:=by rw[beq_eq_false_iff_ne];omega
  have ax:((b.length:Int)+1==0)=false:=by rw[beq_eq_false_iff_ne];omega
  obtain⟨G,U⟩:∃G,G=λg:Int->Option Int=>qY z J (λd=>(g d).getD 0) c:=⟨_,rfl⟩;rw[<-U] at S ⊢;rw[u];obtain⟨y,A⟩:=uO (show 0<=z by omega);have F:=X A;obtain⟨Z,B⟩:∃Z,Z=dM z G (v::b) g:=⟨_,rfl⟩;rw[<-B];have V:Hid (Z=(List.range y).all (λs=>dM z G b (gI g v (s:Int)))):=by show _=_;rw[B,dM,A];rfl
  clear H l I e t L O U u P B M A
  go_in
  go_wp2
  go_loopw [16] (λs wr=>∃(d t:Nat)(gk:Int->Option Int),d<=y/\s=Y d/\Hid ((List.range d).all (λs=>dM z G b (gI g v (s:Int)))=true)/\Hid (AW z n m w wr t gk)/\t<=h+d*(1+lL b.length)/\Hid (∀e,e∉v::b->gk e=g e)) (λs _=>y - (intOf s).toNat)
  case atStart=>exact⟨0,h,g,jY _,rfl,rfl,Ha,by omega,λ_ _=>rfl⟩
  case round=>
   obtain⟨d,t,gk,hk,rfl,H,u,U,A⟩:=hrel;by_cases am:d<y
   .have W:(d:Int)<z:=by have:=F.out;omega
    have an:(0:Int)<=d:=(by omega);have cv:=jH u.below aj;have ao:d<=2:=(by have:=F.out;omega);have ay:d*(1+lL b.length)<=2*(1+lL b.length):=Sl _ ao;have az:(d+1)*(1+lL b.length)=d*(1+lL b.length)+(1+lL b.length):=Nat.succ_mul _ _;have B:=X (ZL (p:=λs=>dM z G b (gI g v (s:Int))) am H)
    have M:Hid (dM z G b (gI gk v (d:Int))=dM z G b (gI g v (d:Int))):=JI (λe s=>by
     rw[gI,gI];by_cases f:e=v
     .rw[jB f,jB f]
     rw[jC f,jC f];exact A e (by simp[f,s]))
    obtain⟨a0,a2⟩:=ae;clear H
    go_wp2_with (at_mapUpdate;refine iR _ rfl _ _ _ 59 rfl 3 Tryz.jw n t (λe=>(gk e).map (Value.int .i64)) rfl u.map (by unfold maxLen;omega) v (Y (d:Int)) (by first|rfl|simp[go_sem]) (by first|rfl|simp[go_sem]) (by omega) (by omega) ?_;intro w5 O P)
    have aa:vS w5 n (t+1) (gI gk v (d:Int)):=kU.congr O (λe=>by
     rw[gI];by_cases f:e=v
     .rw[jB f,jB f];rfl
     rw[jC f,jC f])
    have ab:=X (u.put ak al an W aa P);have I:=X (S ah (x - 1) w5 (t+1) (gI gk v (d:Int)) ab ai (by omega) (by omega) af (by omega));rw[M.out] at I;obtain⟨L,hD⟩:∃L,L=dM z G b (gI g v (d:Int)):=⟨_,rfl⟩;rw[<-hD] at I B;clear O P aa M hD cv
    go_wp2_with fail
    refine I.mono ?_;rintro f w6 ⟨rfl,M,O,aa,ap,ac⟩;have P:Hid (∀e,e∉v::b->O e=g e):=λe s=>by
     rw[ac e (λl=>s (vG v l)),gI,jC (λf=>s (by rw[f];simp))];exact A e s
    have s:=X aa;clear ac aa I ab u A
    cases L
    .obtain rfl:Z=false:=V.out▸B.2 rfl
     have I:Hid (∃o q,AW z n m w w6 o q/\o<=h+lL (b.length+1)/\∀e,e∉v::b->q e=g e):=⟨M,O,s,by
      show M<=h+3*(1+lL b.length)
      omega,P⟩
     clear s P B U ap;go_wp2;go_ret;exact⟨rfl,by simpa using I.out⟩
    have aa:=B.1 rfl;clear B
    go_wp2_with fail
    go_roundw
    case rel=>exact⟨d+1,M,O,by omega,by go_num,aa,s,by omega,P⟩
    case measure=>simp[intOf];omega
   have B:d=y:=(by omega);subst B;have W:¬(d:Int)<z:=(by have:=F.out;omega);obtain rfl:Z=true:=by rw[V.out,H.out]
   have I:Hid (∃o q,AW z n m w wr o q/\o<=h+lL (b.length+1)/\∀e,e∉v::b->q e=g e):=⟨t,gk,u,by
    have e:d<=3:=(by have:=F.out;omega);have h2:d*(1+lL b.length)<=3*(1+lL b.length):=Sl _ e;show t<=h+3*(1+lL b.length)
    omega,A⟩
   clear H u U A;go_wp2;go_ret;exact⟨rfl,by simpa using I.out⟩
def yA:Zc->Zn
 |[]=>[]
 |x::c=>xR x.2.1++(xR x.2.2++yA c)
def yQ(c:Zc):Zn:=Lib.compact ((yA c).mergeSort λx y=>decide (x<=y))
def LS(a b:Zc):yA (a++b)=yA a++yA b:=by
 induction a with
 |nil=>rfl
 |cons x a c=>rw[dW,yA,yA,c];simp
def LT{x:Lit}(h:c[k]? =some x):yA (c.take (k+1))=yA (c.take k)++xR x.2.1++xR x.2.2:=by
 rw[vZ,h,LS];simp[yA]
def Du(t:T):(xR t).length<=t.E:=by
 have a:=Cl ((gD t).mergeSort λx y=>decide (x<=y));have b:=Jo t;rw[sK] at a;exact kN a b
def Ur:∀{c:Zc},qC r c->(yA c).length<=240*c.length:=by
 intro c;induction c with
 |nil=>intro _;simp[yA]
 |cons x c a=>
  intro h;have d:=a (λy b=>h y (vG x b));have b:=h x (by simp);have e:=Du x.2.1;have f:=Du x.2.2;rw[yA,qB,qB,xI];omega
def iD:z∈yA c↔∃x,x∈c/\(z∈xR x.2.1\/z∈xR x.2.2):=by
 induction c with
 |nil=>simp[yA]
 |cons y c a=>rw[yA,vD,vD,a];simp[or_assoc]
def rT{c:Zc}{v:Int}:v∈yQ c↔v∈yA c:=by
 obtain⟨a,b⟩:=Gi (yA c);rw[yQ,(Jw a).2,b]
def Ut(c:Zc):(yQ c).Pairwise (·<·):=(Jw (Gi (yA c)).1).1
def LU(c:Zc):(yQ c).length<=(yA c).length:=by
 have a:=Cl ((yA c).mergeSort λx y=>decide (x<=y));rw[sK] at a;exact a
def jDf(h:jV w r a)(b:(a=none/\k=0)\/∃g,a=some (D g 0)):Fc w (.slice a r.length k) r:=by
 rcases h with h|⟨c,d,rfl,h⟩
 .subst h
  rcases b with⟨rfl,rfl⟩|⟨g,rfl⟩
  .exact jD ⟨rfl,rfl⟩
  exact jE ⟨g,0,k,rfl,λj e=>by simp at e⟩
 exact jE ⟨c,d,k,rfl,h⟩
def pI(x:Lit):Nat->T
 |0=>x.2.1
 |_+1=>x.2.2
def oV(x:Lit):Nat->Zn
 |0=>[]
 |1=>xR x.2.1
 |_+2=>xR x.2.1++xR x.2.2
def jCz{x:Lit}(h:k<2):oV x (k+1)=oV x k++xR (pI x k):=by
 rcases k with _|_|k
 .rfl
 .rfl
 omega
def jEx(i:Nat)(U:Nat)(d:jV w r a)(hl:c.length<=8)(b:qC r c)(f:∀A,A.E<=120/\jQ r A->kI r [A]=0)(g:kR w c a1):
 Calls Zf 17 #[.agg #[.slice a r.length i],.slice a1 c.length U] w λe B=>∃j I,e=.returned (.slice j (yQ c).length I)/\jV B (yQ c) j/\(yQ c).length<=I/\Zb w B:=by
 have V:=X d;have J:=X g;have K:=X b;have W:=X f;have Z:=X (Ur b);clear d g b f
 go_in
 have b:∀o,o=Obj.cells #[Zk a r i] 24->(w.alloc o).cell? (D w.heap.size 0)=some (Zk a r i):=λo d=>d▸jJ 0 rfl;have aa:=X (b _ rfl);clear b;go_wp2
 go_loopw [5,14] (λl b wr=>∃k:Nat,k<=c.length/\b=Y k/\Hid (qR (w.heap.size+1) wr l (yA (c.take k)))/\Hid (Below (w.heap.size+1) (w.alloc (.cells #[Zk a r i] 24)) wr)) (λ_ b _=>c.length - (intOf b).toNat)
 case atStart=>exact⟨0,jY _,rfl,⟨rfl,jD ⟨rfl,rfl⟩⟩,jW _ _⟩
 case round=>
  obtain⟨k,hk,rfl,f,p⟩:=hrel;have L:=p.size;rw[qE] at L;have b:=X ((jG w (.cells #[Zk a r i] 24)).trans (p.mono (by omega)));by_cases ab:k<c.length
  .obtain⟨am,an,rfl⟩:=zN J (by omega)
   obtain⟨x,d⟩:=Zg ab;obtain⟨j,s,t,u,g,h,l,m,n,q,y,z,C⟩:=dZ J d;have S:=jH b g;have k1:=jH b h;have k2:=jH b l;have k3:=jH b m;have k4:=jH b n;have k5:=jH b q;have k6:=jH b y;have M:=X (LT d);have v:=X (K x (jU d));have ao:(k:Int)<c.length:=(by omega);have ap:(0:Int)<=k:=(by omega);have O:=X z;have P:=X C;have ac:Hid ((yA (c.take k)).length<=240*k):=by
    have E:=Ur (r:=r) (c:=c.take k) (λF G=>K F (Sh G));rw[yD,Nat.min_eq_left (by omega)] at E;exact E
   clear d z C g h l m n q y
   go_wp2_with fail
   generalize y:(wr.alloc (.cells #[.bool x.1,Y x.2.1.v,Y x.2.1.f,Zk j x.2.1.e s,Y x.2.2.v,Y x.2.2.f,Zk t x.2.2.e u] 47)).alloc (.cells #[Y x.2.1.v,Y x.2.1.f,Zk j x.2.1.e s,Y x.2.2.v,Y x.2.2.f,Zk t x.2.2.e u] 43)=d;have aq:d.heap.size=wr.heap.size+2:=(by rw[<-y,qE,qE]);have z:Hid (Zb wr d):=(by rw[<-y];exact(jG _ _).alloc (by simp) _);have Q:Hid (∀m,m<2->∃h l,Zq d (wr.heap.size+1) (m*3) (Y (pI x m).v)/\Zq d (wr.heap.size+1) (m*3+1) (Y (pI x m).f)/\Zq d (wr.heap.size+1) (m*3+2) (.slice h (pI x m).e.length l)/\InL w (pI x m).e h/\(pI x m).E<=120/\jQ r (pI x m)):=λm C=>by
    have g:wr.heap.size+1=(wr.alloc (.cells #[.bool x.1,Y x.2.1.v,Y x.2.1.f,Zk j x.2.1.e s,Y x.2.2.v,Y x.2.2.f,Zk t x.2.2.e u] 47)).heap.size:=(qE _ _).symm;rw[<-y,g];rcases m with _|_|m
    .exact⟨j,s,jJ 0 rfl,jJ 1 rfl,jJ 2 rfl,O,v.1⟩
    .exact⟨t,u,jJ 3 rfl,jJ 4 rfl,jJ 5 rfl,P,v.2⟩
    omega
   have ad:Hid (qR (w.heap.size+1) d u5 (yA (c.take k))):=vT f (λn q=>z.block n (kO f n q).2);have E:=λn q=>kO f n q;have ae:=X (p.trans (z.mono L));have ar:=X (b.trans (z.mono b.size));have af:wr.heap.size+1<d.heap.size:=(by omega);have R:¬u5.ownBlock=some (wr.heap.size+1):=λe=>by have:=(E _ e).2;omega
   have HS:=X (λg(F:Option Nat)(G:yS d g u5.ownBlock F)m C=>by
    obtain⟨h,l,d0,d1,d2,h3⟩:=Q m C;have H:=λo=>kH (w:=d) (w':=g) (a:=(D (wr.heap.size+1) o)) (G.gr.block (wr.heap.size+1) af (λe=>R e.symm))
    exact(⟨h,l,(H _).trans d0,(H _).trans d1,(H _).trans d2,h3⟩:∃h l,Zq g (wr.heap.size+1) (m*3) (Y (pI x m).v)/\Zq g (wr.heap.size+1) (m*3+1) (Y (pI x m).f)/\Zq g (wr.heap.size+1) (m*3+2) (.slice h (pI x m).e.length l)/\InL w (pI x m).e h/\(pI x m).E<=120/\jQ r (pI x m)))
   have ag:w.heap.size+1<=d.heap.size:=(by omega);have ah:=X (λg(F:Option Nat)(G:yS d g u5.ownBlock F)=>ae.trans (G.below ag (λF e=>(E F e).1)));have ai:Hid (yA (c.take (k+1))=yA (c.take k)++oV x 2):=(by show _=_;rw[M.out,dH];rfl);have aj:=v.1.1;clear S k1 k2 k3 k4 k5 k6 y f z v O P p b Q R M E
   go_loopw [5,24] (λy v g=>∃m:Nat,m<=2/\v=Y m/\Hid (qR (w.heap.size+1) g y (yA (c.take k)++oV x m))/\Hid (yS d g u5.ownBlock y.ownBlock)) (λ_ v _=>2 - (intOf v).toNat)
   case atStart=>exact⟨0,by omega,rfl,by rw[oV,zU];exact ad,yS.refl _ _⟩
   case round=>
    obtain⟨m,C,rfl,g,v⟩:=hrel;have au:=v.gr.size;have y:=X (ah _ _ v);have C:=X ((jG w (.cells #[Zk a r i] 24)).trans (y.mono (by omega)));by_cases E:m<2
    .obtain⟨h,l,G,H,M,O,z,P⟩:=HS _ _ v m E
     have cg:wr.cell? (D w.heap.size 0)=some (Zk a r i):=(by rw[y.out.cell (by show w.heap.size<w.heap.size+1;omega)];exact aa);have h:=X (λo=>Tf i l (qD o (kD C V)) (jS o (jI C O)) (λ_=>z));rw[lR,jB (W.out _ ⟨z,P⟩)] at h;have ak:=Du (pI x m);have o:=X (jCz (x:=x) E);have Q:Hid ((oV x m).length<=120):=by
      show _<=_;rcases m with _|_|m
      .simp[oV]
      .exact kN (Du x.2.1) aj
      omega
     obtain⟨ys,l⟩:=Ze (yA (c.take k)++oV x m);have R:Hid (ys.length+(xR (pI x m)).length<=2000):=by
      show _<=_;rw[l,qB];have S:=ac.out;have h2:=Q.out;omega
     rw[<-l] at g;have al:=X l;obtain⟨av,S⟩:=Ze (pI x m);rw[<-S] at G H M h o R;have aw:(0:Int)<=m:=(by omega);have ax:w.heap.size<wr.heap.size:=(by omega);have ay:(m:Int)<2:=(by omega);clear O z P l S Q ak
     go_wp2_with fail
     refine(h _).mono ?_;rintro e w3 ⟨⟨a3,c3,rfl,z,O⟩,P⟩;have l:=(jG _ _).trans (P.mono (by simp));have Q:=X (jDf z O);have S:=X (vT g (λn q=>l.block n (kO g n q).2));have ak:=l.size;clear P z O G H M cg h
     go_wp2_with (at_builtin;go_must (refine DZ rfl (.tmp 34) (.tmp 35) rfl rfl S rfl Q R (by omega) ?_))
     intro G H n q z;have M:Hid (qR (w.heap.size+1) H G (yA (c.take k)++oV x (m+1))):=by
      show qR _ _ _ _;rw[o.out,<-dH,<-al.out];exact n
     have O:=X (v.trans ((yS.A _ l).trans ⟨q,by
      rcases z with h|h
      .exact jD h
      exact jE ⟨_,h,by omega⟩⟩))
     clear n q z
     go_wp2_with fail
     go_roundw
     case rel=>exact⟨m+1,by omega,by go_num,M,O⟩
     case measure=>simp[intOf];omega
    have h:m=2:=(by omega);subst h;rw[<-ai.out] at g
    go_wp2_with fail
    go_roundw
    case rel=>exact⟨k+1,by omega,by go_num,g,y⟩
    case measure=>simp[intOf];omega
  have q:k=c.length:=by omega
  subst q;rw[qU] at f;obtain⟨k,g,rfl⟩:=zF f;have M:=Z.out;have O:=LU c;clear p;by_cases h:(yA c).length=0
  .have v:Hid (yQ c=[]):=by
    show _=_;rw[yQ,yM.1 h,Mv];rfl
   rw[h] at f ⊢;clear h
   go_wp2_with fail
   refine(Tryz.slices_Sort_int_none k g _).mono ?_;rintro e y ⟨rfl,rfl⟩
   go_wp2_with fail
   refine(Tryz.slices_Compact_int_empty k g _).mono ?_;rintro e z ⟨rfl,rfl⟩;go_wp2;go_ret;rw[v.out];exact⟨k,g,rfl,jD rfl,jY _,b⟩
  have m:0<(yA c).length:=by omega
  obtain⟨F,P,n,Q,C⟩:=f.form m;simp only[lH,true_and] at n;obtain⟨rfl,rfl⟩:=n;obtain⟨o,_,E⟩:=Ft f m;have F:=X o;have l:=X (sK (le:=λx p:Int=>decide (x<=p)) (yA c));clear o h f
  go_wp2_with fail
  refine(CX g F C (by omega)).mono ?_;rintro e y ⟨rfl,f,h⟩;have R:=f.size;have o:=X (b.trans (Below.jd f (by omega) (by have:=b.size;omega)));have G:=X h;clear f h
  go_wp2_with fail
  have f:=Vc G (l.out▸E) (by rw[l.out];omega);rw[l.out] at f;refine f.mono ?_;rintro e z ⟨rfl,h,p⟩;clear f;have f:=X (o.trans (Below.jd h (by omega) (by have:=o.size;omega)));have H:=X p;clear h p;go_wp2;go_ret;exact⟨_,g,rfl,H,by omega,f⟩
def fT(a:Zn)(n:Int)(b:List Zn)(c:Zc):Bool×Int:=
 if tA a n b=0 then(if kJ a [c]=0 then(if (yQ c).length<=8 then(dM n (λg=>qY n b (λk=>(g k).getD 0) c) (yQ c) (λ_=>none),0) else(false,2)) else(false,kJ a [c])) else(false,tA a n b)
def ND(h:k<=8):lL k<=9840:=(by decide:∀k,k<9->lL k<=9840) k (by omega)
def mL(h:kJ r [c]=0):qT r=0/\c.length<=8/\qC r c:=by
 rw[kJ] at h;by_cases b:qT r=0
 .rw[jB b,jC (by simp),mK] at h
  by_cases a:nE r c=0
  .rw[nE] at a
   by_cases d:8<c.length
   .rw[jB d] at a;cases a
   rw[jC d] at a;exact⟨b,by omega,Pm a⟩
  rw[jC a] at h;exact jN h a
 rw[jC b] at h;exact jN h b
def Us(h:qC r c):∀v,v∈yQ c->1<=v/\v<=1000:=λv f=>by
 obtain⟨x,g,a⟩:=iD.1 (rT.1 f);have e:=h x g;rcases a with a|a
 .obtain⟨p,b,d,rfl⟩:=nK.1 a
  exact Ge e.1.2 b d
 obtain⟨p,b,d,rfl⟩:=nK.1 a;exact Ge e.2.2 b d
def Rr(i:Nat)(n:Int){d:List Zn}(j:Nat)(f:Nat)(k:jV w r a)(o:dK w d a1)(t:kR w c a2)(Q:c.length<=9223372036854775807):
 Calls Zf 7 #[.agg #[.slice a r.length i],.agg #[Y n,.slice a1 d.length j],.slice a2 c.length f] w λg R=>g=.returned (.tuple #[.bool (fT r n d c).1,Y (fT r n d c).2])/\Zb w R:=by
 obtain⟨l,e⟩:=Ze (((w.alloc (.cells #[Zk a r i] 24)).alloc (.cells #[Y n,Zk a1 d j] 28)).alloc (.cells #[Zk a2 c f] 39));have h:Zb w l:=e▸bJ _ _ _ _;have ai:l.heap.size=w.heap.size+3:=by rw[e];simp
 have u:l.cell? (D w.heap.size 0)=some (Zk a r i):=by rw[e,kW (by simp;omega),kW (by simp)];exact jJ 0 rfl
 have v:l.cell? (D (w.heap.size+1) 0)=some (Y n):=by rw[e,kW (by simp)];exact jJ 0 (by simp)
 have x:l.cell? (D (w.heap.size+1) 1)=some (Zk a1 d j):=by rw[e,kW (by simp)];exact jJ 1 (by simp)
 have y:l.cell? (D (w.heap.size+1+1) 0)=some (Zk a2 c f):=by rw[e];exact jJ 0 (by simp)
 have K:=X k;have S:=X o;have C:=X t;obtain⟨V,p⟩:=Ze (fT r n d c);rw[<-p];have A:=X p;obtain⟨E,q⟩:=Ze (tA r n d);have s:=X (Pq i n j (kD h k) (gP h o));rw[<-q] at s;have m:=X q;have z:=X e;have U:=X h;have aj:=@run_makeMap Zf;have ak:∀(B:Fn)(first cap:Zy)(w:N),(Instr.makeFunc B first cap).run Zf w=.ok (.func B first cap) w:=λ_ _ _ _=>rfl;clear k o t p q e h
 go_in
 go_wp2_with fail
 rw[<-z.out];refine s.mono ?_;rintro g B ⟨rfl,e⟩;have al:=e.size;have t:=jH e u;have cW:=jH e v;have H:=jH e x;have vN:=jH e y;have o:=X (U.trans (e.mono (by omega)));clear e s u v x y z;by_cases p:E=0
 .have v:Hid (V=if kJ r [c]=0 then(if (yQ c).length<=8 then(dM n (λh=>qY n d (λk=>(h k).getD 0) c) (yQ c) (λ_=>none),0) else(false,2)) else(false,kJ r [c])):=by show _=_;rw[A.out,fT,jB (m.out.symm.trans p)]
  have W:=X (gM.of (m.symm.trans p));subst p;obtain⟨F,e⟩:=Ze (kJ r [c]);have s:=X (λg=>wR r a i [c] (some (D B.heap.size 0)) 1 (B.alloc (.cells #[Zk a2 c f] g)) (qD _ (kD o K)) (by simp) (λq q=>by simp at q;rw[q];exact Q) ⟨B.heap.size,0,a2,f,rfl,jJ 0 rfl,kL (o.alloc o.size _) C,trivial⟩);rw[<-e] at s v;have G:=X e;clear A m e
  go_wp2_with fail
  refine(s _).mono ?_;rintro g Z ⟨rfl,u⟩;have e:Zb B Z:=(jG _ _).trans (u.mono (by simp));have am:=e.size;have aa:=jH e t;have I:=jH e cW;have J:=jH e H;have fO:=jH e vN;have x:=X (o.trans (e.mono o.size));clear e u s t cW H vN;by_cases s:F=0
  .have y:Hid (V=if (yQ c).length<=8 then(dM n (λh=>qY n d (λk=>(h k).getD 0) c) (yQ c) (λ_=>none),0) else(false,2)):=by show _=_;rw[v.out,jB s]
   obtain⟨u,L,e⟩:=mL (G.symm.trans s);have H:=X (jEx i f (kD x K) L e (λt q=>rR.2 ⟨u,λt t=>by simp at t;rw[t];exact q⟩) (kL x C));have M:=X (Us e);have ab:=X e;obtain⟨t,z⟩:=Ze (yQ c);rw[<-z] at H y M;subst s;clear v G u e z
   go_wp2_with fail
   refine H.mono ?_;rintro g e ⟨va,vc,rfl,O,ac,u⟩;have an:=u.size;have P:=X (jH u I);have ad:=X (jH u J);have ae:=X (jH u fO);have z:=X (x.trans (u.mono x.size));have HI:=X O;clear u O H aa I J fO;by_cases u:t.length<=8
   .have aa:¬(8:Int)<t.length:=by omega
    have H:Hid (V=(dM n (λh=>qY n d (λk=>(h k).getD 0) c) t (λ_=>none),0)):=(by show _=_;rw[y.out,jB u]);have af:=P.out;have ag:w.heap.size+1<e.heap.size:=(by omega);have ao:w.heap.size+1<e.heap.size+1:=(by omega);have ah:(e.alloc (.map #[] 0)).cell? (D (w.heap.size+1) 0)=some (Y n):=(by rw[kW ag];exact af);have ap:∀I,((e.alloc (.map #[] 0)).alloc I).cell? (D (w.heap.size+1) 0)=some (Y n):=λI=>by rw[kW (by simp;omega)];exact ah
    have I:=W.out
    have HA:=X (λ(O:N)(J:O=(e.alloc (.map #[] 0)).alloc (.cells #[.map (some e.heap.size)] 59))=>JS (r:=r) (z:=n) (J:=d) (a:=a1) (k:=j) (n:=e.heap.size) (m:=e.heap.size+1) (i:=w.heap.size+1) (j:=w.heap.size+1+1) (c:=c) (a1:=a2) (n1:=f) (w:=e)
     ⟨I,ab,L,gP z S,kL z C,P,ad,ae,jF _,by omega⟩ t va vc O 0 (λ_=>none)
     ⟨by rw[J];exact(jG _ _).alloc (by simp) _,λk=>⟨mE _,by have:=I.lo;show(0:Int)<n;omega⟩,by rw[J];exact vS.below (kU.made e) (jG _ _),by rw[J];exact jJ 0 (by simp)⟩ HI.out ac (by omega) M.out (by have:=ND u;omega))
    obtain⟨O,J⟩:=Ze (dM n (λh=>qY n d (λk=>(h k).getD 0) c) t (λ_=>none));rw[<-J] at H HA;obtain rfl:=H.out;clear y H J I
    go_wp2_with fail
    refine(HA _ rfl).mono ?_;rintro g H ⟨rfl,I,J,h,_,_⟩;have k:=X (z.trans (h.below.mono z.size));clear h
    go_wp2_with fail
    go_ret2
    exact⟨rfl,k⟩
   have aa:(8:Int)<t.length:=(by omega);obtain rfl:V=(false,2):=by rw[y.out,jC u]
   clear y
   go_wp2_with fail
   go_ret2
   exact⟨rfl,z⟩
  have h:(F !=0)=true:=by simpa using s
  obtain rfl:V=(false,F):=by rw[v.out,jC s]
  clear v G s
  go_wp2_with fail
  go_ret2
  exact⟨rfl,x⟩
 have e:(E !=0)=true:=by simpa using p
 obtain rfl:V=(false,E):=by rw[A.out,fT,jC (λq=>p (m.out.trans q)),m.out]
 clear A m p
 go_wp2_with fail
 go_ret2
 exact⟨rfl,o⟩
def kY:Zc->Zn->Zc×Zn
 |[],a=>([],a)
 |x::c,a=>((x.1,(jL x.2.1 a).1,(jL x.2.2 (jL x.2.1 a).2).1)::(kY c (jL x.2.2 (jL x.2.1 a).2).2).1,(kY c (jL x.2.2 (jL x.2.1 a).2).2).2)
def Cq(x:Lit)(a:Zn):Lit:=(x.1,(jL x.2.1 a).1,(jL x.2.2 (jL x.2.1 a).2).1)
def Ow(x:Lit)(a:Zn):Zn:=(jL x.2.2 (jL x.2.1 a).2).2
def RD(x:Lit):∀(c:Zc)(a:Zn),kY (c++[x]) a=((kY c a).1++[Cq x (kY c a).2],Ow x (kY c a).2):=by
 intro c;induction c with
 |nil=>intro a;rfl
 |cons y c b=>intro a;rw[dW,kY,b];rfl
def Wc{x:Lit}(h:c[k]? =some x)(a:Zn):kY (c.take (k+1)) a=((kY (c.take k) a).1++[Cq x (kY (c.take k) a).2],Ow x (kY (c.take k) a).2):=by
 rw[vZ,h];exact RD x _ a
def Cp:∀(c:Zc)(a:Zn),(kY c a).1.length=c.length:=by
 intro c;induction c with
 |nil=>intro a;rfl
 |cons x c b=>intro a;rw[kY,xI,xI,b]
def RB:∀(c:Zc)(a:Zn),(∀x,x∈c->xO x)->a.Nodup->(kY c a).2.Nodup/\(kY c a).2.length<=a.length+c.length*2000:=by
 intro c;induction c with
 |nil=>intro a _ b;exact⟨b,oD _ _⟩
 |cons x c i=>
  intro a d b;have e:=d x vX;have f:=(Ke x.2.1.E).1 x.2.1 a (jF _) b;have g:=(Ke x.2.2.E).1 x.2.2 _ (jF _) f.1;have h:=i _ (λy j=>d y (vG _ j)) g.1;rw[kY,xI];refine⟨h.1,?_⟩;have:=e.1;have:=e.2;have j:=h.2;have k:=g.2;have l:=f.2;show(kY c (jL x.2.2 (jL x.2.1 a).2).2).2.length<=_;omega
def GW:∀{l:Zc}{g a:Nat}{B:List Nat}{k:Nat}{x:Lit},pQ w l g a B->l[k]? =some x->B.Nodup->
 ∃s1 s2 d e,w.cell? (D g (a+k*7))=some (.bool x.1)/\w.cell? (D g (a+k*7+1))=some (Y x.2.1.v)/\w.cell? (D g (a+k*7+2))=some (Y x.2.1.f)/\w.cell? (D g (a+k*7+3))=some s1/\w.cell? (D g (a+k*7+4))=some (Y x.2.2.v)/\w.cell? (D g (a+k*7+5))=some (Y x.2.2.f)/\w.cell? (D g (a+k*7+6))=some s2/\
  x.2.1.jb w s1 d/\x.2.2.jb w s2 e/\(∀j,j∈d++e->j∈B)/\(d++e).Nodup/\
  ∀(b:N)(c:Lit),b.cell? (D g (a+k*7))=some (.bool c.1)->b.cell? (D g (a+k*7+1))=some (Y c.2.1.v)->b.cell? (D g (a+k*7+2))=some (Y c.2.1.f)->b.cell? (D g (a+k*7+3))=some s1->b.cell? (D g (a+k*7+4))=some (Y c.2.2.v)->b.cell? (D g (a+k*7+5))=some (Y c.2.2.f)->b.cell? (D g (a+k*7+6))=some s2->
   c.2.1.jb b s1 d->c.2.2.jb b s2 e->(∀j,(j<a+k*7\/a+k*7+6<j)->b.cell? (D g j)=w.cell? (D g j))->(∀i,i∈B->i∉d++e->b.heap[i]? =w.heap[i]?)->pQ b (l.set k c) g a B:=by
 intro l;induction l with
 |nil=>intro g a B k x _ n;simp at n
 |cons aa l M=>
  intro g a B k x n o m;obtain⟨s1,s2,d,e,q,rfl,r,s,t,u,v,y,z,o1,o2,A⟩:=n;rw[cK] at m
  cases k with
  |zero=>
   simp at o;subst o;refine⟨s1,s2,d,e,by simpa using r,by simpa using s,by simpa using t,by simpa using u,by simpa using v,by simpa using y,by simpa using z,o1,o2,λj f=>yT _ f,m.1,λb c h p C E F G H I J K L=>?_⟩;refine⟨s1,s2,d,e,q,rfl,by simpa using h,by simpa using p,by simpa using C,by simpa using E,by simpa using F,by simpa using G,by simpa using H,I,J,?_⟩;exact Ja (λi h=>L i (bF _ h) (λp=>m.2.2 i p i h rfl)) (λj f _=>K j (by omega)) A
  |succ k=>
   obtain⟨Dl,O,P,Q,C,E,F,G,H,I,J,R,S,K,U,L⟩:=M A (by simpa using o) m.2.1;have V:a+7+k*7=a+(k+1)*7:=(by omega);rw[V] at C E F G H I J L;refine⟨Dl,O,P,Q,C,E,F,G,H,I,J,R,S,λj f=>bF _ (K j f),U,λb c W Z g2 g3 g4 g5 g6 q1 q2 h p=>?_⟩;have hd:=λi f hc=>m.2.2 i f i (K i hc) rfl;refine⟨s1,s2,d,e,q,rfl,by rw[h a (by omega)];exact r,by rw[h (a+1) (by omega)];exact s,by rw[h (a+2) (by omega)];exact t,by rw[h (a+3) (by omega)];exact u,by rw[h (a+4) (by omega)];exact v,by rw[h (a+5) (by omega)];exact y,by rw[h (a+6) (by omega)];exact z,sO (λi f=>p i (yT _ (yT _ f)) (hd i (yT _ f))) o1,sO (λi f=>p i (yT _ (bF _ f)) (hd i (bF _ f))) o2,?_⟩;exact L b c W Z g2 g3 g4 g5 g6 q1 q2 h (λi f h=>p i (bF _ f) h)
structure RC (w wr:N) (c:Zc) (g mb:Nat) (B:List Nat) (k:Nat):Prop where
 own:pQ wr ((kY (c.take k) []).1++c.drop k) g 0 B
 map:∃m,m<=k*2000/\vS wr mb m (bT (kY (c.take k) []).2)
 below:Zb w wr
 jc:∀j,j∈B->w.heap.size<=j/\j<wr.heap.size
 fr:∀j,wr.frozen? (D g j)=false
 gl:g<wr.heap.size
def RC.step{B:List Nat}{x:Lit}{s1 s2:Zv}{l o:List Nat}(h:RC w u c k n B m)(t:c[m]? =some x)(F:k∉B)(G:n∉B)(S:w.heap.size<=k)(U:w.heap.size<=n)
 (H:u.cell? (D k (0+m*7))=some (.bool x.1)) (r:∀j,j∈l++o->j∈B) (E:(l++o).Nodup)
 (I:∀(e:N)(g:Lit),e.cell? (D k (0+m*7))=some (.bool g.1)->e.cell? (D k (0+m*7+1))=some (Y g.2.1.v)->e.cell? (D k (0+m*7+2))=some (Y g.2.1.f)->e.cell? (D k (0+m*7+3))=some s1->e.cell? (D k (0+m*7+4))=some (Y g.2.2.v)->e.cell? (D k (0+m*7+5))=some (Y g.2.2.f)->e.cell? (D k (0+m*7+6))=some s2->
   g.2.1.jb e s1 l->g.2.2.jb e s2 o->(∀j,(j<0+m*7\/0+m*7+6<j)->e.cell? (D k j)=u.cell? (D k j))->(∀a,a∈B->a∉l++o->e.heap[a]? =u.heap[a]?)->pQ e (((kY (c.take m) []).1++c.drop m).set m g) k 0 B)
 (y:Tc v k (m*7+1) (jL x.2.1 (kY (c.take m) []).2).1.v (jL x.2.1 (kY (c.take m) []).2).1.f s1) (J:(jL x.2.1 (kY (c.take m) []).2).1.jb v s1 l) (f:dS u v l n k (m*7+1))
 (z:Tc w1 k (m*7+4) (Cq x (kY (c.take m) []).2).2.2.v (Cq x (kY (c.take m) []).2).2.2.f s2) (K:(Cq x (kY (c.take m) []).2).2.2.jb w1 s2 o) (d:dS v w1 o n k (m*7+4)) (L:i<=(m+1)*2000) (M:vS w1 n i (bT (Ow x (kY (c.take m) []).2))):
 RC w w1 c k n B (m+1):=by
 have O:=(Zl t);have P:(kY (c.take m) []).1.length=m:=by rw[Cp,yD];omega
 have V:=f.size;have W:=d.size;rw[cK] at E;have p:∀a,a∈B->a≠k/\a≠n:=λa b=>⟨λq=>F (q▸b),λq=>G (q▸b)⟩;have Q:((kY (c.take m) []).1++c.drop m).set m (Cq x (kY (c.take m) []).2)=(kY (c.take (m+1)) []).1++c.drop (m+1):=by
  rw[Wc t,pN O,dH];have:∀(A R:Zc)(s q:Lit),A.length=m->(A++s::R).set m q=A++([q]++R):=λA R s q q=>by
   rw[List.set_append,jC (by omega),q,wJ];rfl
  exact this _ _ _ _ P
 have A:=sO (λa b=>d.block a (by have:=(h.jc a (r a (yT _ b))).2;omega) (p a (r a (yT _ b))).1 (p a (r a (yT _ b))).2 (λs=>E.2.2 a b a s rfl)) J;refine⟨?_,⟨i,L,by rw[Wc t];exact M⟩,⟨d.os.trans (f.os.trans h.below.os),d.tape.trans (f.tape.trans h.below.tape),d.output.trans (f.output.trans h.below.output),by have:=h.below.size;omega,λa b=>?_⟩,λj q=>by have:=h.jc j q;omega,λj=>by rw[d.fr,f.fr];exact h.fr j,by have:=h.gl;omega⟩
 .rw[<-Q]
  refine I w1 _ ?_ ?_ ?_ ?_ ?_ ?_ ?_ A K (λj q=>by rw[d.cell j (by omega),f.cell j (by omega)]) (λa b s=>?_)
  .rw[d.cell _ (by omega),f.cell _ (by omega)];exact H
  .rw[kK,d.cell _ (by omega)];exact y.e0
  .rw[kK,d.cell _ (by omega)];exact y.e1
  .rw[kK,d.cell _ (by omega)];exact y.e2
  .rw[kK];exact z.e0
  .rw[kK];exact z.e1
  .rw[kK];exact z.e2
  rw[vD,not_or] at s;have C:=(h.jc a b).2;rw[d.block a (by omega) (p a b).1 (p a b).2 s.2,f.block a C (p a b).1 (p a b).2 s.1]
 have Z:=h.below.size;have s:∀C:List Nat,(∀j,j∈C->j∈B)->a∉C:=λC C R=>by have:=(h.jc a (C a R)).1;omega
 rw[d.block a (by omega) (by omega) (by omega) (s o (λj q=>r j (bF _ q))),f.block a (by omega) (by omega) (by omega) (s l (λj q=>r j (yT _ q)))];exact h.below.block a b
def ZR(R:Nat)(hl:c.length<=20)(b:∀x,x∈c->xO x)(d:∀x,x∈c->(∀y,y∈qV x.2.1->0<=y.v/\y.v<=1000)/\∀y,y∈qV x.2.2->0<=y.v/\y.v<=1000)(e:kR w c a):
 Calls Zf 108 #[.slice a c.length R] w λl C=>∃s B,l=.returned (Zx s c.length c.length)/\pQ C (kY c []).1 s 0 B/\(s::B).Nodup/\(∀j,j∈s::B->w.heap.size<=j/\j<C.heap.size)/\Zb w C:=by
 have f:=X (Oi R (by omega) b e);have al:=@run_makeMap Zf;have S:=X b;have ae:=X d;clear b d e
 go_in
 go_wp2_with fail
 refine f.mono ?_;rintro l b ⟨rfl,B,d⟩;have U:=d.gl;have V:=d.below.size;have p:w.heap.size∉B:=λh=>by have:=(d.jc _ h).1;omega
 have t:b.heap.size∉B:=λh=>by have:=(d.jc _ h).2;omega
 have W:=d.nd;have af:Hid (RC w (b.alloc (.map #[] 0)) c w.heap.size b.heap.size B 0):=by
  have g:=d.own;rw[qU] at g;refine⟨Ja (λj e=>(jG b _).block j (d.jc j e).2) (λj _ _=>(jG b _).cell U) g,⟨0,jF _,kU.made b⟩,d.below.trans ((jG b _).mono V),λj e=>?_,λj=>by rw[(jG b _).frozen U];exact d.fr j,by rw[qE];omega⟩;have:=d.jc j e;rw[qE];omega
 clear f d;go_wp2
 go_loopw [11] (λi wr=>∃k:Nat,k<=c.length/\i=Y (k:Int)/\Hid (RC w wr c w.heap.size b.heap.size B k)) (λi _=>c.length - (intOf i).toNat)
 case atStart=>exact⟨0,jY _,rfl,af⟩
 case round=>
  obtain⟨k,hk,rfl,d⟩:=hrel;by_cases ag:k<c.length
  .obtain⟨x,u⟩:=Zg ag
   have ah:(kY (c.take k) []).1.length=k:=(by rw[Cp,yD];omega);have Z:((kY (c.take k) []).1++c.drop k)[k]? =some x:=by
    rw[nO (by omega),ah,wJ,Ej,mG];exact u
   obtain⟨s1,s2,B1,B2,E,F,G,H,I,J,K,o1,o2,e,L,a9⟩:=GW d.own Z W;obtain⟨M,hm,hM⟩:=d.map;have O:=jU u;have n:=S x O;have P:=ae x O;have o:=RB (c.take k) [] (λy f=>S y (Sh f)) eT;have ai:(c.take k).length=k:=(by rw[yD];omega);rw[ai,mZ,kK] at o;have q:=L;rw[cK] at q;have v:=d.jc;have am:=d.gl;have Q:=(Ke x.2.1.E).1 x.2.1 (kY (c.take k) []).2 (jF _) o.1;rw[kK] at E F G H I J K;have aj:=n.1;have ak:=n.2;have aa:=X (We b.heap.size x.2.1.E x.2.1 s1 B1 w.heap.size (k*7+1) M (kY (c.take k) []).2 wr (jF _) n.1 P.1 ⟨F,G,H,d.fr⟩ o1 q.1 (λh=>p (e _ (yT _ h))) (λh=>t (e _ (yT _ h))) (by omega) hM o.1 (by have:=o.2;omega) (by omega) (λj m=>(v j (e j (yT _ m))).2))
   have ab:=X (λg(r:Nat)(f:dS wr g B1 b.heap.size w.heap.size (k*7+1))(ac:r<=M+x.2.1.E)(z:vS g b.heap.size r (bT (jL x.2.1 (kY (c.take k) []).2).2))=>We b.heap.size x.2.2.E x.2.2 s2 B2 w.heap.size (k*7+4) r (jL x.2.1 (kY (c.take k) []).2).2 g (jF _) n.2 P.2
    ⟨by rw[f.cell _ (by omega)];exact I,by rw[f.cell _ (by omega)];exact J,by rw[f.cell _ (by omega)];exact K,λj=>by rw[f.fr];exact d.fr j⟩
    (sO (λi A=>f.block i (v i (e i (bF _ A))).2 (λl=>p (by rw[<-l];exact e i (bF _ A))) (λl=>t (by rw[<-l];exact e i (bF _ A))) (λhb=>q.2.2 i hb i A rfl)) o2) q.2.1 (λh=>p (e _ (bF _ h))) (λh=>t (e _ (bF _ h))) (by omega) z Q.1 (by have:=o.2;have:=Q.2;omega) (by omega) (λj m=>by have:=(v j (e j (bF _ m))).2;have:=f.size;omega))
   have A:=X (λ(g h:N)(i:Nat)=>RC.step (v:=g) (w1:=h) (i:=i) d u p t (jF _) V (by rw[kK];exact E) e L a9);have an:(k:Int)<c.length:=(by omega);have ao:(0:Int)<=k:=(by omega);have Hm:=X hm;have ad:=X n;clear E F G H I J K e L q a9 o1 o2 hM u Z O P o v Q hm n aj ak
   go_wp2_with fail
   refine aa.mono ?_;rintro l g ⟨rfl,e,n,⟨r,ac,z⟩,f⟩;have o:=X (ab g r f ac z);have q:=X e;have r:=X n;have u:=X f;clear aa ab e n z f
   go_wp2_with fail
   refine o.mono ?_;rintro l h ⟨rfl,e,f,⟨i,E,n⟩,v⟩;have z:=X (A g h i q r u e f v (by have:=Hm.out;have:=ad.1;have:=ad.2;omega) n);clear o A e f n v q r u
   go_wp2_with fail
   go_roundw
   case rel=>exact⟨k+1,by omega,by go_num,z⟩
   case measure=>simp[intOf];omega
  have f:k=c.length:=by omega
  subst f;have e:=d.own;rw[qU,dX,zU] at e;have g:Hid (pQ wr (kY c []).1 w.heap.size 0 B/\(w.heap.size::B).Nodup/\(∀j,j∈w.heap.size::B->w.heap.size<=j/\j<wr.heap.size)/\Zb w wr):=by
   refine⟨e,aM.2 ⟨p,W⟩,λj m=>?_,d.below⟩;rcases qO.1 m with rfl|m
   .exact⟨jF _,d.gl⟩
   exact d.jc j m
  clear e;go_wp2;go_ret;exact⟨_,B,rfl,g⟩
def fZ(a:Zn)(c:Zc):Zc×Int:=if kJ a [c]=0 then((kY (qQ [] c) []).1,0) else([],kJ a [c])
def Ga(a:jQ r t):∀y,y∈qV t->0<=y.v/\y.v<=1000:=λy b=>by
 by_cases h:y.v=0
 .omega
 have:=Ge a b h;omega
def Oc(b:Zn)(c:Zo)(e:Nat)(a:Zm)(d:Zo)(f:Nat)(w:N)(g:jV w b c)(m:a.length<=9223372036854775807)(h:∀i,i∈a->i.length<=9223372036854775807)(j:zM w a d):
 Calls Zf 94 #[.agg #[.slice c b.length e],.slice d a.length f] w λk n=>k=.returned (Y (kJ b a))/\Zb w n:=by
 have l:=X (λo=>wR b c e a d f (w.alloc o) (qD o g) m h (dG (jG w o) j));clear g h j
 go_in
 go_wp2_with fail
 refine(l _).mono ?_;rintro k j ⟨rfl,g⟩;have h:=X ((jG w _).trans (g.mono (by simp)));clear g l;go_wp2;go_ret;exact⟨rfl,h⟩
def mP(h:qC r c):∀x,x∈c->xO x:=λx a=>⟨by have:=(h x a).1.1;omega,by have:=(h x a).2.1;omega⟩
def UT(h:qC r c):∀x,x∈c->(∀y,y∈qV x.2.1->0<=y.v/\y.v<=1000)/\∀y,y∈qV x.2.2->0<=y.v/\y.v<=1000:=λx a=>⟨Ga (h x a).1.2,Ga (h x a).2.2⟩
def Fz(h:qC r c):qC r (qQ [] c):=λx a=>by
 rcases Yq a with a|a
 .cases a
 exact h x a
def sH(x:Zc×Int)(d:Nat)(e:Ending)(a:N):Prop:=
 ∃b c,e=.returned (.tuple #[.slice b x.1.length c,Y x.2])/\kR a x.1 b/\(x.1=[]\/∃g B,b=some (D g 0)/\c=x.1.length/\pQ a x.1 g 0 B/\(g::B).Nodup/\∀j,j∈g::B->d<=j/\j<a.heap.size)
def Te(p:Nat)(e:Nat)(k:jV w r a)(u:c.length<=9223372036854775807)(d:kR w c a1):
 Calls Zf 74 #[.agg #[.slice a r.length p],.slice a1 c.length e] w λf g=>sH (fZ r c) w.heap.size f g/\Zb w g:=by
 have b:=X (λo h=>Oc r a p [c] (some ⟨(w.alloc o).heap.size,0,none⟩) 1 ((w.alloc o).alloc (.cells #[Zk a1 c e] h)) (qD _ (qD o k)) (by simp) (λh h=>by simp at h;rw[h];exact u) ⟨(w.alloc o).heap.size,0,a1,e,rfl,jJ 0 rfl,kL (jG _ _) (kL (jG _ _) d),trivial⟩);obtain⟨E,j⟩:=Ze (kJ r [c]);rw[<-j] at b;have i:=X j;have v:=X d;clear k d j;simp only[qE] at b
 go_in
 go_wp2_with fail
 refine(b _ _).mono ?_;rintro f L ⟨rfl,d⟩;have x:=d.size;simp at x;have j:=(kF w _ _).trans (d.mono (by first|omega|(rw[qE,qE];omega)));clear d b;by_cases b:E=0
 .obtain⟨_,M,m⟩:=mL (i.symm.trans b)
  have k:=Fz m;have y:(qQ [] c).length<=8:=by have:=Fy (c:=c) (a:=[]);simp at this;omega
  have l:Hid (fZ r c=((kY (qQ [] c) []).1,0)):=by show _=_;rw[fZ,jB (i.out.symm.trans b)]
  have n:=X (Yr e (by omega) (mP m) (kL j v));obtain⟨d,o⟩:=Ze (qQ [] c);rw[<-o] at n l k y;have q:=X (λ(s:Zo)(t:Nat)(g:N)(h:kR g d s)=>ZR t (by omega) (mP k) (UT k) h);subst b;clear k m o
  go_wp2_with fail
  refine n.mono ?_;rintro f z ⟨A,B,rfl,k,m⟩;have o:=X (q A B z (dA k));have h:=X (j.trans (m.mono j.size));clear k m n q
  go_wp2_with fail
  refine o.mono ?_;rintro f C ⟨k,F,rfl,m,n,q,s⟩;have G:=X (h.trans (s.mono h.size));have H:Hid (sH (fZ r c) w.heap.size (.returned (.tuple #[Zx k d.length d.length,Y 0])) C):=by
   rw[l.out];have t:(kY d []).1.length=d.length:=Cp _ _;refine⟨some (D k 0),d.length,by simp only;rw[t],GV m,jE ⟨k,F,rfl,t.symm,m,n,λI J=>?_⟩⟩;have K:=q I J;have I:=h.size;exact⟨by omega,K.2⟩
  clear m n q s o;go_wp2
  go_ret2
  exact⟨H,G⟩
 have m:(E !=0)=true:=by simpa using b
 have l:Hid (fZ r c=([],E)):=by show _=_;rw[fZ,jC (i.out▸b),i.out]
 clear b;go_wp2
 go_ret2
 exact⟨by rw[l.out];exact⟨none,0,rfl,trivial,jD rfl⟩,j⟩
def Od{a:List Zn}{f g:Int->Int}(h:∀v,v∈yQ c->f v=g v):qY z a f c=qY z a g c:=by
 have b:∀x,x∈c->yV z a f x=yV z a g x:=λx i=>by
  have j:=Lr (z:=z) (c:=a) (f:=f) (g:=g) _ x.2.1 (jF _) (λp d e=>h p.v (rT.2 (iD.2 ⟨x,i,jD (nK.2 ⟨p,d,e,rfl⟩)⟩)));have k:=Lr (z:=z) (c:=a) (f:=f) (g:=g) _ x.2.2 (jF _) (λp d e=>h p.v (rT.2 (iD.2 ⟨x,i,jE (nK.2 ⟨p,d,e,rfl⟩)⟩)));rw[yV,yV,j,k]
 rw[qY,qY];induction c with
 |nil=>rfl
 |cons x c d=>
  rw[rE,rE,b x (by simp)];congr 1;have e:=λy i=>b y (vG x i);clear d h b;induction c with
  |nil=>rfl
  |cons y c d=>rw[rE,rE,e y (by simp),d (λb h=>e b (vG y h))]
def JJ(l:0<z){G:(Int->Option Int)->Bool}:∀{b:Zn}{g:Int->Option Int},dM z G b g=true↔∀f:Int->Int,(∀v,0<=f v/\f v<z)->G (λk=>if k∈b then some (f k) else g k)=true:=by
 intro b;induction b with
 |nil=>
  intro g;rw[dM];constructor
  .intro h f _;simpa using h
  intro h;simpa using h (λ_=>0) (λ_=>⟨mE _,l⟩)
 |cons v b i=>
  intro g;rw[dM,uS];constructor
  .intro h f c
   have m:=c v;have d:=(i.1 (h (f v).toNat (eS.2 (by omega)))) f c;rw[<-d];congr 1;funext k;by_cases a:k∈b
   .simp[a]
   by_cases e:k=v
   .subst e
    rw[jB (by simp),jC a,gI,jB rfl,Int.toNat_of_nonneg m.1]
   rw[jC (by simp[a,e]),jC a,gI,jC e]
  intro h j n;have o:=eS.1 n;refine i.2 (λf c=>?_)
  have d:=h (λk=>if k∈b then f k else(j:Int)) (λk=>by
   show 0<=(if k∈b then f k else(j:Int))/\_<z;by_cases a:k∈b
   .simp only[jB a];exact c k
   simp only[jC a];omega)
  rw[<-d];congr 1;funext k;by_cases a:k∈b
  .simp[a]
  by_cases e:k=v
  .subst e
   simp[a,gI]
  rw[jC a,jC (by simp[a,e]),gI,jC e]
def Sem(n:Int)(a:List Zn)(c:Zc):Prop:=∀f:Int->Int,(∀v,0<=f v/\f v<n)->qY n a f c=true
def jCq{a:List Zn}(e:0<z):dM z (λg=>qY z a (λk=>(g k).getD 0) c) (yQ c) (λ_=>none)=true↔Sem z a c:=by
 rw[JJ e];have d:∀f:Int->Int,qY z a (λk=>((λk=>if k∈yQ c then some (f k) else none) k).getD 0) c=qY z a f c:=λf=>Od λv b=>by
  show((if v∈yQ c then some (f v) else none):Option Int).getD 0=f v;rw[jB b];rfl
 constructor
 .intro h f b;rw[<-d];exact h f b
 intro h f b;have:=h f b;rw[<-d] at this;exact this
def jAd{a:List Zn}{f:Int->Int}{c:Int->T}(d:∀t:T,t.E<=k->kM z a f (sub c t)=kM z a (λv=>kM z a f (c v)) t):∀(b:Zt)(r:Int),T.E.szL b<=k->kM.rowL z a f (b.map (sub c)) r=kM.rowL z a (λv=>kM z a f (c v)) b r:=by
 intro b;induction b with
 |nil=>intro r _;rfl
 |cons t b e=>
  intro r h;rw[T.F] at h;rw[yI];show kM.rowL z a f (b.map (sub c)) (r*z+kM z a f (sub c t))=kM.rowL z a _ b (r*z+kM z a _ t);rw[d t (by omega),e _ (by omega)]
def Re{a:List Zn}{f:Int->Int}{b:Int->T}:∀(c:Nat)(t:T),t.E<=c->kM z a f (sub b t)=kM z a (λv=>kM z a f (b v)) t:=by
 intro c;induction c with
 |zero=>intro t h;have:=t.I;omega
 |succ c e=>
  intro t h;have g:=T.M t;by_cases d:t.v=0
  .rw[mA d,tL,tL z a (λv=>kM z a f (b v)) t,jC (by simp),jC (by simpa using d)]
   simp only;rw[jAd e t.e 0 (by omega)]
  rw[mR d,tL z a (λv=>kM z a f (b v)) t,jB d]
def eB(h:T->T)(c:Zc):Zc:=c.map (λx=>(x.1,h x.2.1,h x.2.2))
def Uu{a:List Zn}{f:Int->Int}{b:Int->T}:qY z a f (eB (sub b) c)=qY z a (λv=>kM z a f (b v)) c:=by
 rw[qY,qY,eB,List.any_map];congr 1;funext x;show yV z a f (x.1,sub b x.2.1,sub b x.2.2)=_;rw[yV,yV,Re _ _ (jF _),Re _ _ (jF _)]
def CF{a:List Zn}{b:Int->T}(j:0<z)(h:Sem z a c)(e:∀f:Int->Int,(∀v,0<=f v/\f v<z)->∀v,v∈yQ c->0<=kM z a f (b v)/\kM z a f (b v)<z):Sem z a (eB (sub b) c):=by
 intro f g;rw[Uu]
 have i:=h (λv=>if v∈yQ c then kM z a f (b v) else 0) (λv=>by
  by_cases d:v∈yQ c
  .simp only[jB d];exact e f g v d
  simp only[jC d];omega)
 rw[<-i];exact Od λv d=>by simp only[jB d]
def UQ{c:List Zn}{f:Int->Int}{k l:Lit}(h:lP k l=true):yV z c f k=yV z c f l:=by
 simp only[lP,tG,yY,Gx,beq_iff_eq,nI] at h;rw[yV,yV];rcases h with⟨d,⟨a,b⟩|⟨a,b⟩⟩
 .rw[d,a,b]
 rw[d,a,b];congr 1;rw[eJ];simp only[beq_iff_eq];exact eq_comm
def Oe{a:List Zn}{f:Int->Int}:∀(c b:Zc),qY z a f (qQ b c)=(qY z a f b||qY z a f c):=by
 intro c;induction c with
 |nil=>intro b;rw[qQ];simp[qY]
 |cons l r h=>
  intro b;rw[qQ,h];have i:qY z a f (l::r)=(yV z a f l||qY z a f r):=by rw[qY,qY,rE]
  rw[i];by_cases d:tV b l=true
  .rw[jB d]
   have:qY z a f (b++[l])=(qY z a f b||yV z a f l):=by rw[qY,qY,uT];simp
   rw[this,Bool.or_assoc]
  rw[jC d];have e:tV b l=false:=by simpa using d
  rw[tV] at e;simp only[Bool.and_eq_false_iff,Bool.not_eq_false',Bool.or_eq_false_iff,mW] at e;rcases e with⟨k,j,m⟩|⟨n,o⟩
  .have p:=UQ (z:=z) (c:=a) (f:=f) m
   cases g:yV z a f l with
   |false=>simp
   |true=>
    have:qY z a f b=true:=by
     rw[qY,mW];exact⟨k,j,p.trans g⟩
    rw[this];simp
  have g:yV z a f l=false:=by
   rw[yV,n,nI.1 o];simp
  rw[g];simp
def xD(L:Zn)(v:Int):T:=⟨(L.idxOf v:Int)+1,0,[]⟩
def XB(v:Int)(a:Zn):∃R,vF v a=a++R:=by
 rw[vF];split
 .exact⟨[],by simp⟩
 exact⟨[v],rfl⟩
def Ad:∀(c:Nat),(∀(t:T)(a:Zn),t.E<=c->∃R,(jL t a).2=a++R)/\(∀(b:Zt)(a:Zn),T.E.szL b<=c->∃R,(jL.giveL b a).2=a++R):=by
 intro c;induction c with
 |zero=>
  refine⟨λt a h=>by have:=t.I;omega,λb a h=>?_⟩
  cases b with
  |nil=>exact⟨[],by simp[jL.giveL]⟩
  |cons t b=>have:=t.I;rw[T.F] at h;omega
 |succ c e=>
  have d:∀(t:T)(a:Zn),t.E<=c+1->∃R,(jL t a).2=a++R:=λt a h=>by
   have k:=T.M t;obtain⟨f,g⟩:=XB t.v a;obtain⟨i,j⟩:=e.2 t.e (vF t.v a) (by omega);rw[rZ];exact⟨f++i,by simp only;rw[j,g,dH]⟩
  refine⟨d,λb=>?_⟩;induction b with
  |nil=>intro a _;exact⟨[],by simp[jL.giveL]⟩
  |cons t b f=>
   intro a h;rw[T.F] at h;obtain⟨g,h⟩:=d t a (by omega);obtain⟨i,j⟩:=f (jL t a).2 (by omega);exact⟨g++i,by show(jL.giveL b (jL t a).2).2=_;rw[j,h,dH]⟩
def SU(h:z∈r):(r++r1).idxOf z=r.idxOf z:=by rw[Ip,jB h]
def Wh:∀(d:Nat),(∀(t:T)(a R:Zn),t.E<=d->jQ r t->(jL t a).1=sub (xD ((jL t a).2++R)) t)/\(∀(b:Zt)(a R:Zn),T.E.szL b<=d->(∀t,t∈b->jQ r t)->(jL.giveL b a).1=b.map (sub (xD ((jL.giveL b a).2++R)))):=by
 intro d;induction d with
 |zero=>
  refine⟨λt a R h=>by have:=t.I;omega,λb a R h _=>?_⟩
  cases b with
  |nil=>rfl
  |cons t b=>have:=t.I;rw[T.F] at h;omega
 |succ d g=>
  have f:∀(t:T)(a R:Zn),t.E<=d+1->jQ r t->(jL t a).1=sub (xD ((jL t a).2++R)) t:=λt a R h e=>by
   have k:=T.M t;rw[rZ];simp only;by_cases c:t.v=0
   .rw[mA c,zD,jB c,g.2 t.e (vF t.v a) R (by omega) (λi i=>xF e i)]
   rw[mR c,(lZ e c).2];show(⟨zD t.v a,t.f,[]⟩:T)=xD (vF t.v a++R) t.v;have i:t.v∈vF t.v a:=by
    rw[vF];split
    .rename_i j;exact j.resolve_left c
    simp
   rw[xD,SU i,zD,jC c,(lZ e c).1]
  refine⟨f,λb=>?_⟩;induction b with
  |nil=>intro a R _ _;rfl
  |cons t b e=>
   intro a R h c;rw[T.F] at h;obtain⟨h,i⟩:=(Ad (T.E.szL b)).2 b (jL t a).2 (jF _);show(jL t a).1::(jL.giveL b (jL t a).2).1=(t::b).map (sub (xD ((jL.giveL b (jL t a).2).2++R)));rw[yI,e (jL t a).2 R (by omega) (λj k=>c j (vG _ k)),f t a (h++R) (by omega) (c t vX),i,dH]
def Wa:∀(c:Zc)(a:Zn),∃R,(kY c a).2=a++R:=by
 intro c;induction c with
 |nil=>intro a;exact⟨[],by simp[kY]⟩
 |cons x c b=>
  intro a;obtain⟨d,e⟩:=(Ad x.2.1.E).1 x.2.1 a (jF _);obtain⟨f,g⟩:=(Ad x.2.2.E).1 x.2.2 (jL x.2.1 a).2 (jF _);obtain⟨h,i⟩:=b (jL x.2.2 (jL x.2.1 a).2).2;rw[kY];exact⟨d++(f++h),by simp only;rw[i,g,e];simp⟩
def Kc:∀(c:Zc)(a R:Zn),qC r c->(kY c a).1=eB (sub (xD ((kY c a).2++R))) c:=by
 intro c;induction c with
 |nil=>intro a R _;rfl
 |cons x c e=>
  intro a R h;have b:=h x vX;obtain⟨f,g⟩:=(Ad x.2.2.E).1 x.2.2 (jL x.2.1 a).2 (jF _);obtain⟨d,i⟩:=Wa c (jL x.2.2 (jL x.2.1 a).2).2;have j:=(Wh x.2.1.E).1 x.2.1 a (f++d++R) (jF _) b.1.2;have k:=(Wh x.2.2.E).1 x.2.2 (jL x.2.1 a).2 (d++R) (jF _) b.2.2;have l:=e (jL x.2.2 (jL x.2.1 a).2).2 R (λy m=>h y (vG _ m));show(x.1,(jL x.2.1 a).1,(jL x.2.2 (jL x.2.1 a).2).1)::(kY c (jL x.2.2 (jL x.2.1 a).2).2).1=(x.1,sub (xD ((kY c (jL x.2.2 (jL x.2.1 a).2).2).2++R)) x.2.1,sub (xD ((kY c (jL x.2.2 (jL x.2.1 a).2).2).2++R)) x.2.2)::eB (sub (xD ((kY c (jL x.2.2 (jL x.2.1 a).2).2).2++R))) c;rw[l,j,k,i,g];simp only[dH]
def jCs{a:List Zn}(d:0<z)(e:qC r c)(h:Sem z a c):Sem z a (kY (qQ [] c) []).1:=by
 have g:Sem z a (qQ [] c):=λf b=>by rw[Oe,h f b];simp
 have i:=Kc (qQ [] c) [] [] (Fz e);rw[i];refine CF d g λf b v _=>?_;rw[xD,tL,jB (by simp only;omega)];exact b _
def Ab(c:Zc)(l:Lit):Bool:=c.any (λk=> !k.1 && tG k l)
def Jp(c:Zc):Bool:=c.any (λl=>l.1 && (kS l.2.1 l.2.2||Ab c l))
def wP(a:Zn)(c:Zc):Bool×Int:=if kJ a [c]=0 then(Jp c,0) else(false,kJ a [c])
theorem OG(a:Zy)(w:N):(callFunc 129 a).run Zf w=.ok (.enter 129 a) w:=by kernel_rfl
theorem PK(a:Zy)(w:N):(callFunc 95 a).run Zf w=.ok (.enter 95 a) w:=by kernel_rfl
def NW{b l:Lit}(d:Nat)(e:Nat)(s:xO b)(i1:InL w b.2.1.e a)(i2:InL w b.2.2.e a1)(i:L7 w m 0 l a2 k a3 n)(j:InL w l.2.1.e a2)(o:InL w l.2.2.e a3):
 Calls Zf 129 #[lM b a d a1 e,Zr m] w λp t=>p=.returned (.bool (!b.1 && tG b l))/\Zb w t:=by
 obtain⟨g,f⟩:=Ze (w.alloc (.cells #[.bool b.1,Y b.2.1.v,Y b.2.1.f,Zk a b.2.1.e d,Y b.2.2.v,Y b.2.2.f,Zk a1 b.2.2.e e] 47));have c:Zb w g:=f▸jG _ _;have u:L7 g w.heap.size 0 b a d a1 e:=f▸L7.new _ rfl;obtain⟨q,v,x,y,z,A,B⟩:=u;obtain⟨I,q1,q2,C,E,F,G⟩:=i.below c;simp only[kK] at v x y z A B q1 q2 C E F G;have HS:=X (Qi (false,b.2.1,b.2.2) l a d a1 e a2 k a3 n g s (jI c i1) (jI c i2) (jI c j) (jI c o));have H:=X f;have h:=X c;rw[show tG (false,b.2.1,b.2.2) l=tG b l from rfl] at HS;obtain⟨S,r⟩:=Ze (tG b l);rw[<-r] at HS ⊢;clear f c r i1 i2 j o i
 go_in
 go_upto_region 1 with fail
 rw[<-H.out]
 cases c:b.1 with
 |true=>
  rw[c] at q;have f:=X c;clear c;go_wp2;go_ret;exact⟨vO (by rw[f.out];rfl),h⟩
 |false=>
  rw[c] at q;have f:=X c;clear c
  go_wp2_with fail
  refine HS.mono ?_;rintro p j ⟨rfl,c⟩;have i:=X (h.trans (c.mono h.size));clear c HS;go_wp2;go_ret;exact⟨vO (by rw[f.out];rfl),i⟩
def NX(c:Zc)(i:Zo)(j:Nat)(l:Lit)(b:Zo)(f:Nat)(d:Zo)(g:Nat)(w:N)(z:c.length<=1000)(k:∀x,x∈c->xO x)(m:kR w c i)(n:InL w l.2.1.e b)(o:InL w l.2.2.e d):
 Calls Zf 97 #[.slice i c.length j,lM l b f d g] w λp q=>p=.returned (.bool (Ab c l))/\Zb w q:=by
 obtain⟨r,e⟩:=Ze (w.alloc (.cells #[.bool l.1,Y l.2.1.v,Y l.2.1.f,Zk b l.2.1.e f,Y l.2.2.v,Y l.2.2.f,Zk d l.2.2.e g] 47));have a:Zb w r:=e▸jG _ _;have s:L7 r w.heap.size 0 l b f d g:=e▸L7.new _ rfl;have t:=X (Fk j (by omega) OG (λq x h u h v h y i1 i2=>NW u v (k x y) i1 i2 (s.below h) (jI h (jI a n)) (jI h (jI a o))) (kL a m));have v:∀(h:Fn)(first cap:Zy)(w:N),(Instr.makeFunc h first cap).run Zf w=.ok (.func h first cap) w:=λ_ _ _ _=>rfl;have u:=X e;have h:=X a;clear e a s m n o k
 go_in
 go_upto_region 1 with fail
 rw[<-u.out]
 go_wp2_with fail
 refine t.mono ?_;rintro p k ⟨rfl,a⟩;have e:=X (h.trans (a.mono h.size));clear a t;go_wp2;go_ret;exact⟨rfl,e⟩
def JQ{l:Lit}(d:Nat)(e:Nat)(E:c.length<=1000)(v:∀y,y∈c->xO y)(F:xO l)(x:kR w c a)(z:w.cell? (D n 0)=some (.slice a c.length k))(i1:InL w l.2.1.e a1)(i2:InL w l.2.2.e a2):
 Calls Zf 95 #[lM l a1 d a2 e,Zr n] w λr s=>r=.returned (.bool (l.1 && (kS l.2.1 l.2.2||Ab c l)))/\Zb w s:=by
 obtain⟨t,g⟩:=Ze (w.alloc (.cells #[.bool l.1,Y l.2.1.v,Y l.2.1.f,Zk a1 l.2.1.e d,Y l.2.2.v,Y l.2.2.f,Zk a2 l.2.2.e e] 47));have b:Zb w t:=g▸jG _ _;have A:L7 t w.heap.size 0 l a1 d a2 e:=g▸L7.new _ rfl;have G:=X A;obtain⟨f,h,i,j,m,o,p⟩:=A;simp only[kK] at h i j m o p;have HS:=X (iP _ l.2.1 l.2.2 a1 d a2 e t (jF _) F.1 (jI b i1) (jI b i2));have q:=X (λs u=>NX c a k (true,l.2.1,l.2.2) a1 d a2 e s E v (kL u (kL b x)) (jI u (jI b i1)) (jI u (jI b i2)));have H:=X (jP b z);have I:=X g;have u:=X b;rw[show Ab c (true,l.2.1,l.2.2)=Ab c l from rfl] at q;obtain⟨S,B⟩:=Ze (kS l.2.1 l.2.2);obtain⟨J,C⟩:=Ze (Ab c l);rw[<-B] at HS ⊢;rw[<-C] at q ⊢;clear g b B C i1 i2 x z v
 go_in
 go_upto_region 1 with fail
 rw[<-I.out]
 cases b:l.1 with
 |false=>
  rw[b] at f;have g:=X b;clear b;go_wp2;go_ret;exact⟨vO (by rw[g.out];rfl),u⟩
 |true=>
  rw[b] at f;have g:=X b;clear b
  go_wp2_with fail
  refine HS.mono ?_;rintro r z ⟨rfl,b⟩;have v:=X b;have x:=X (u.trans (b.mono u.size));clear b HS f h i j m o p
  cases S with
  |true=>
   go_wp2;go_ret;exact⟨vO (by rw[g.out];rfl),x⟩
  |false=>
   have b:=X (q z v);obtain⟨f,h,i,j,m,o,p⟩:=G.below v;simp only[kK] at h i j m o p;have C:=jP v H;rw[g.out] at f;clear q
   go_wp2_with fail
   refine b.mono ?_;rintro r K ⟨rfl,q⟩;have B:=X (x.trans (q.mono x.size));clear q b;go_wp2;go_ret;exact⟨vO (by rw[g.out];rfl),B⟩
def EV(x:Bool×Int)(e:Ending):Prop:=e=.returned (.tuple #[.bool x.1,Y x.2])
def Rm(h:Nat)(e:Nat)(p:jV w r a)(v:c.length<=9223372036854775807)(i:kR w c a1):
 Calls Zf 66 #[.agg #[.slice a r.length h],.slice a1 c.length e] w λj k=>EV (wP r c) j/\Zb w k:=by
 obtain⟨b,g⟩:=Ze (((w.alloc (.cells #[Zk a r h] 24)).alloc (.cells #[Zk a1 c e] 39)));have d:Zb w b:=g▸kF _ _ _;have x:b.cell? (D w.heap.size 0)=some (Zk a r h):=by rw[g,kW (by simp)];exact jJ 0 rfl
 have m:b.cell? (D (w.heap.size+1) 0)=some (Zk a1 c e):=by rw[g];exact jJ 0 (by simp)
 have q:=X (λ(o:Obj)(f:zM (b.alloc o) [c] (some (D b.heap.size 0)))=>Oc r a h [c] (some (D b.heap.size 0)) 1 (b.alloc o) (qD o (kD d p)) (by simp) (λl hd=>by rw[vY.1 hd];exact v) f);have s:Hid (zM (b.alloc (.cells #[Zk a1 c e] 39)) [c] (some (D b.heap.size 0))):=⟨b.heap.size,0,a1,e,rfl,jJ 0 rfl,kL (jG _ _) (kL d i),trivial⟩;have n:=X (q _ s);have HA:=X (λ(f:kJ r [c]=0)(k:N)(o:Zb b k)=>Fk e (by have:=(mL f).2.1;omega) PK (λl t l u l y l z i1 i2=>JQ u y (by have:=(mL f).2.1;omega) (mP (mL f).2.2) (mP (mL f).2.2 t z) (kL l (kL o (kL d i))) (jP l (jP o m)) i1 i2) (kL o (kL d i)));have f:=X (show wP r c=if kJ r [c]=0 then(Jp c,0) else(false,kJ r [c]) from rfl);have y:=X (show c.any (λl=>l.1 && (kS l.2.1 l.2.2||Ab c l))=Jp c from rfl);rw[y.out] at HA;obtain⟨Z,l⟩:=Ze (wP r c);obtain⟨E,t⟩:=Ze (kJ r [c]);rw[<-l] at f ⊢;rw[<-t] at n HA f;have B:∀(u:Fn)(first cap:Zy)(w:N),(Instr.makeFunc u first cap).run Zf w=.ok (.func u first cap) w:=λ_ _ _ _=>rfl;have z:=X g;have u:=X d;have A:=X m;clear l t g d p i q s
 go_in
 go_upto_region 1 with fail
 rw[<-z.out]
 go_wp2_with fail
 refine n.mono ?_;rintro j p ⟨rfl,d⟩;have g:=X ((jG b _).trans (d.mono (by simp)));have i:=X (u.trans (g.mono u.size));clear d n x m;by_cases d:E=0
 .have q:(E !=0)=false:=by simpa using d
  have l:Z=(Jp c,0):=by rw[f.out,jB d]
  have m:=X (HA d p g);have t:=jP g A;subst l;clear HA f d
  go_wp2_with fail
  refine m.mono ?_;rintro j x ⟨rfl,n⟩;have s:=X (i.trans (n.mono i.size));clear n m;go_wp2
  go_ret2
  exact⟨rfl,s⟩
 have q:(E !=0)=true:=by simpa using d
 have l:Z=(false,E):=by rw[f.out,jC d]
 subst l;clear HA f d;go_wp2
 go_ret2
 exact⟨rfl,i⟩
def Ri(c:Zc)(g:Zo)(h i:Nat)(w:N)(m:i<c.length)(j:c.length<=1000)(a:kR w c g):
 Calls Zf 184 #[.slice g c.length h,Y (i:Int)] w λf e=>∃v,f=.returned v/\mH w.heap.size e v (c.eraseIdx i)/\Zb w e:=by
 obtain⟨s,t,rfl⟩:=zN a (by omega);have d:=X (Of h j a);have k:=X (λ(v:Zv)(e:N)(b:mH w.heap.size e v c)=>Vi m j b);have n:Hid ((i:Int)+1=((i+1:Nat):Int)):=by show _=_;omega
 clear a
 go_in
 go_wp2_with fail
 refine d.mono ?_;rintro f o ⟨v,rfl,a,l⟩;have b:=X l;have p:=X (k v o a);clear a l d k
 go_wp2_with fail
 try rw[n.out]
 refine p.mono ?_;rintro f u ⟨l,rfl,d,k⟩;have q:=X d;have r:=X k;clear d k;go_wp2;go_ret;have d:=r.out;exact⟨l,rfl,q,⟨d.os.trans b.os,d.tape.trans b.tape,d.output.trans b.output,kN b.size d.size,λk a=>(d.block k a).trans (b.block k a)⟩⟩
def xFS{x:Lit}(i:jT p w t.e a):∀{c:Zc}{b:Nat}{d:Zu},bE p w c d->c[b]? =some x->
 bE p w (c.set b (x.1,t,x.2.2)) (((d.set (b*7+1) (Y t.v)).set (b*7+2) (Y t.f)).set (b*7+3) (.slice a t.e.length k)):=by
 intro c;induction c with
 |nil=>intro b d _ h;simp at h
 |cons y c j=>
  intro b d h e;obtain⟨l,m,f,g,n,rfl,i1,i2,h⟩:=h
  cases b with
  |zero=>simp at e;subst e;exact⟨a,k,f,g,n,rfl,i,i2,h⟩
  |succ b=>
   rw[show(b+1)*7+1=b*7+1+7 by omega,show(b+1)*7+2=b*7+2+7 by omega,show(b+1)*7+3=b*7+3+7 by omega];exact⟨l,m,f,g,_,rfl,i1,i2,j h (by simpa using e)⟩
def FT{x:Lit}(i:jT p w t.e a):∀{c:Zc}{b:Nat}{d:Zu},bE p w c d->c[b]? =some x->
 bE p w (c.set b (x.1,x.2.1,t)) (((d.set (b*7+4) (Y t.v)).set (b*7+5) (Y t.f)).set (b*7+6) (.slice a t.e.length k)):=by
 intro c;induction c with
 |nil=>intro b d _ h;simp at h
 |cons y c j=>
  intro b d h e;obtain⟨f,g,l,m,n,rfl,i1,i2,h⟩:=h
  cases b with
  |zero=>simp at e;subst e;exact⟨f,g,a,k,n,rfl,i1,i,h⟩
  |succ b=>
   rw[show(b+1)*7+4=b*7+4+7 by omega,show(b+1)*7+5=b*7+5+7 by omega,show(b+1)*7+6=b*7+6+7 by omega];exact⟨f,g,l,m,_,rfl,i1,i2,j h (by simpa using e)⟩
def AS(a b c:Zv)(h:w.ownsRow k 47 7 (Zx i n m) n U):
 (qZ w i j a b c).ownsRow k 47 7 (Zx i n m) n (((U.set j a).set (j+1) b).set (j+2) c):=by
 obtain⟨d,e⟩:=h;rcases e with⟨f,_⟩|⟨u,v,g,l,o,p,q,r,s,t⟩
 .cases f
 cases l
 refine⟨by simp[d],jE ⟨i,m,((g.setIfInBounds j a).setIfInBounds (j+1) b).setIfInBounds (j+2) c,rfl,o,?_,q,r,by simp[s],?_⟩⟩
 .simp[qZ,World.setCell,Gr,p]
 simp only[Array.toList_setIfInBounds,List.take_set,t]
def aI(c:Zc)(k:Nat)(a:Bool)(u:T):Zc:=match c[k]? with
 |some x=>c.set k (if a then(x.1,x.2.1,u) else(x.1,u,x.2.2))
 |none=>c
def Gn{x:Lit}(a:Bool)(u:T)(b:c[k]? =some x):aI c k a u=c.set k (if a then(x.1,x.2.1,u) else(x.1,u,x.2.2)):=by rw[aI,b]
def jE5(E:Nat){i:jX}(z:Zo)(A:Nat)(b:Nat)(F:k<c.length)(g:i.ra=(k:Int))(W:c.length<=1000)(e:kR w c a)(h:InL w t.e a1):
 Calls Zf 188 #[.slice a c.length E,zV i z A,pJ t a1 b] w λm G=>∃v,m=.returned v/\pP (λk=>k<w.heap.size) w.heap.size G v (aI c k i.rt t)/\Zb w G:=by
 obtain⟨af,j⟩:=Zg F;obtain⟨ag,ah,rfl⟩:=zN e (by omega);obtain⟨l,d⟩:=Ze ((w.alloc (.cells #[Y i.L,Y i.left,Y i.right,Y i.la,Y i.ra,.bool i.lt,.bool i.rt,.slice z i.G.length A] 81)).alloc (.cells #[Y t.v,Y t.f,.slice a1 t.e.length b] 43));have f:Zb w l:=d▸kF _ _ _;have q:l.heap.size=w.heap.size+2:=by rw[d];simp
 have r:I8 l w.heap.size i z A:=by rw[d];exact(I8.new _ rfl).below (jG _ _)
 have s:jK l (w.heap.size+1) (Y t.v) (Y t.f) (.slice a1 t.e.length b):=by rw[d];exact jK.new _ (by simp)
 have H:=X (Of E W (kL f e));have I:=X d;have J:=X f;have Z:=X r;have H3:=X s;have Hu:=X (kQ (λ_ n=>n.2) (lE h));have n:=X j;have aa:=X q;have ab:=X g;clear e h d f r s j q g
 go_in
 go_wp2_with fail
 rw[<-I.out];refine H.mono ?_;rintro m d ⟨v,rfl,⟨K,L,M⟩,r⟩;have O:=L;obtain⟨ac,q⟩:=L;rcases q with⟨_,s⟩|⟨g,P,ad,rfl,hg,u,hn,hm,B,ae⟩
 .omega
 have ai:=aa.out;obtain⟨e0,x,e,y,e4,e5,Q,e7⟩:=Z.below r;obtain⟨q0,q1,q2,_,_,_⟩:=H3.below r;have f:∀j,j<c.length*7->∃h,d.cell? ⟨g,j,none⟩=some h:=λj R=>by
  refine⟨ad[j]'(by rw[B];omega),?_⟩;rw[lJ u,Ly (by rw[B];omega)]
 have h:∀j,d.frozen? ⟨g,j,none⟩=false:=λj=>by simp[World.frozen?,u]
 have aj:(k:Int)<c.length:=by omega
 have ak:(0:Int)<=k:=by omega
 have C:=X (J.trans (r.mono J.size));have S:=X O;have U:=X M;have al:g<d.heap.size:=(gJ.1 u).1;have V:Hid (jT (λk=>k<l.heap.size) d t.e a1):=kQ (λk F=>by omega) (jI C Hu);rw[ab.out] at e4;clear M O r ae u B hm hn ac H I;obtain⟨u,B⟩:=Ze i.rt;have r:Hid (i.rt=u):=B.symm;clear B
 cases u with
 |true=>
  obtain⟨y0,g0⟩:=f (k*7+4) (by omega);obtain⟨y1,g1⟩:=f (k*7+4+1) (by omega);obtain⟨y2,g2⟩:=f (k*7+4+2) (by omega);have f0:=h (k*7+4);have f1:=h (k*7+4+1);have f2:=h (k*7+4+2);rw[r.out] at Q;have B:Hid (∃v,Value.slice (some ⟨g,0,none⟩) c.length P=v/\pP (λk=>k<w.heap.size) w.heap.size (qZ d g (k*7+4) (Y t.v) (Y t.f) (.slice a1 t.e.length b)) v (aI c k i.rt t)/\Zb w (qZ d g (k*7+4) (Y t.v) (Y t.f) (.slice a1 t.e.length b))):=by
   refine⟨_,rfl,⟨(((K.set (k*7+4) (Y t.v)).set (k*7+4+1) (Y t.f)).set (k*7+4+2) (.slice a1 t.e.length b)),?_,?_⟩,xZ C (by omega) _ _ _⟩
   .rw[Gn _ _ n.out,lF]
    obtain⟨r1,r2⟩:=AS (j:=k*7+4) (Y t.v) (Y t.f) (.slice a1 t.e.length b) S;refine⟨r1,?_⟩;rcases r2 with⟨s,_⟩|⟨H,I,M,O,ac,q⟩
    .cases s
    exact jE ⟨H,I,M,O,by omega,q⟩
   rw[Gn _ _ n.out,r.out];refine gL (p:=λk=>k<l.heap.size) (w:=d) (λj R ae=>⟨⟨by omega,λm=>by have e:some g=some j:=m;cases e;omega⟩,xQ (by omega)⟩) ?_;exact FT V U n
  clear f h;go_wp2;go_ret;obtain⟨v,x,e,y⟩:=B;exact⟨v,by rw[<-x];rfl,e,y⟩
 |false=>
  obtain⟨y0,g0⟩:=f (k*7+1) (by omega);obtain⟨y1,g1⟩:=f (k*7+1+1) (by omega);obtain⟨y2,g2⟩:=f (k*7+1+2) (by omega);have f0:=h (k*7+1);have f1:=h (k*7+1+1);have f2:=h (k*7+1+2);rw[r.out] at Q;have B:Hid (∃v,Value.slice (some ⟨g,0,none⟩) c.length P=v/\pP (λk=>k<w.heap.size) w.heap.size (qZ d g (k*7+1) (Y t.v) (Y t.f) (.slice a1 t.e.length b)) v (aI c k i.rt t)/\Zb w (qZ d g (k*7+1) (Y t.v) (Y t.f) (.slice a1 t.e.length b))):=by
   refine⟨_,rfl,⟨(((K.set (k*7+1) (Y t.v)).set (k*7+1+1) (Y t.f)).set (k*7+1+2) (.slice a1 t.e.length b)),?_,?_⟩,xZ C (by omega) _ _ _⟩
   .rw[Gn _ _ n.out,lF]
    obtain⟨r1,r2⟩:=AS (j:=k*7+1) (Y t.v) (Y t.f) (.slice a1 t.e.length b) S;refine⟨r1,?_⟩;rcases r2 with⟨s,_⟩|⟨H,I,M,O,ac,q⟩
    .cases s
    exact jE ⟨H,I,M,O,by omega,q⟩
   rw[Gn _ _ n.out,r.out];refine gL (p:=λk=>k<l.heap.size) (w:=d) (λj R R=>⟨⟨by omega,λm=>by have e:some g=some j:=m;cases e;omega⟩,xQ (by omega)⟩) ?_;exact xFS V U n
  clear f h;go_wp2;go_ret;obtain⟨v,x,e,y⟩:=B;exact⟨v,by rw[<-x];rfl,e,y⟩
def RS(w:N)(n:0<k)(r:k<=3000):
 Calls Zf 200 #[Zd,Y k] w λo e=>∃v,o=.returned v/\e.ownsRow w.heap.size 47 7 v 0 []/\Zb w e:=by
 obtain⟨i,f,g⟩:=bQ.1 Tryz.info47;simp only[bG] at g;obtain⟨h,p,b⟩:=g;obtain⟨G,a⟩:=Ze (grownCap w k 0 47);have s:k<=G:=a▸grownCap_ge w _ _ _;have j:G<=maxLen:=by rw[a];exact grownCap_le_maxLen w k 0 _ (by unfold maxLen;omega)
 obtain⟨Z,c⟩:∃Z:Zy,Z=((#[]:Zy)++Builtin.zeroCells (Value.agg #[.bool false,Y 0,Y 0,Zd,Y 0,Y 0,Zd]).cells k++Builtin.zeroCells (Value.agg #[.bool false,Y 0,Y 0,Zd,Y 0,Y 0,Zd]).cells (G - k)):=⟨_,rfl⟩;have l:Z.size=G*7:=by rw[c];simp[Builtin.zeroCells,Value.cells];omega
 have q:∀d,(Builtin.append_ #[39,3] d #[Zd,Y (k:Int)]).run Zf w=.ok (Zx w.heap.size k G) (w.drew.alloc (.cells Z 47)):=λd=>by
  have m:=Lib.run_append_grow_zeros w 39 3 d 47 i _ .i64 .i64 Go.Proofs.Tryz.underlying39 Go.Proofs.Tryz.underlying3 f h none 0 0 [] (run_firstCells_none w.drew i.size 0 0 0) k n (by omega) (by omega) (by omega) (by rw[b];omega) (by rw[b];exact growslice_fits (by omega) (by omega));rw[kK] at m;rw[c,a];exact m
 have m:G<=9223372036854775807:=by unfold maxLen at j;omega
 have d:Hid ((w.alloc (.cells Z 47)).drew.ownsRow w.heap.size 47 7 (Zx w.heap.size 0 G) 0 []/\Zb w (w.alloc (.cells Z 47)).drew):=
  ⟨⟨rfl,jE ⟨w.heap.size,G,Z,rfl,jF _,tT w _,jY _,j,l,by simp⟩⟩,(jG w _).drew⟩
 clear a f h p b c l
 go_in
 go_wp2_with (at_builtin;refine Lib.wpList_append_run _ rfl _ _ _ _ rfl _ _ rfl rfl _ _ (q _) ?_)
 go_ret;exact⟨_,rfl,d⟩
def Ni{x:Zv}(d:Zb w u)(h:eW w x k U):eW u x k U:=by
 rcases h with⟨a,b,c⟩|⟨e,f,g,a,b,c,i⟩
 .exact jD ⟨a,b,c⟩
 exact jE ⟨e,f,g,a,b,λj l m=>jP d (c j l m),i⟩
def YR{v:Zv}(h:w.ownsRow k 47 7 v n U)(c:∀u,u∈U->u.oneCell'=true):eW w v n U:=by
 obtain⟨b,d⟩:=h;rcases d with⟨rfl,rfl⟩|⟨g,e,j,rfl,l,f,m,o,p,i⟩
 .exact jD ⟨rfl,rfl,yM.1 (by simpa using b)⟩
 refine jE ⟨g,0,e,rfl,b,λa u a=>?_,c⟩;rw[kK,lJ f];rw[<-i,oC] at a;split at a
 .simpa using a
 cases a
def FR:∀{a:Zu},bE p w c a->bE (λk=>k<w.heap.size) w c a:=by
 induction c with
 |nil=>intro a h;exact h
 |cons x c b=>
  intro a h;obtain⟨d,e,f,g,i,rfl,j,l,h⟩:=h;exact⟨d,e,f,g,i,rfl,kQ (λ_ h=>h.2) (lE j),kQ (λ_ h=>h.2) (lE l),b h⟩
structure Ex (w:N) (v:Zv) (c:Zc) (xs:Zu):Prop where
 src:eW w v c.length xs
 jl:bE (λk=>k<w.heap.size) w c xs
def pP.row{v:Zv}(h:pP p k w v c):∃a b d,v=.slice a c.length b/\Ex w v c d:=by
 obtain⟨d,e,f⟩:=h;obtain⟨a,b,rfl⟩:=zF e;exact⟨a,b,d,rfl,YR e (Mo f),FR f⟩
def MT(x:Nat)(y:0<c.length+d.length)(G:c.length<=1000)(hd:d.length<=1000)
 (h:w.cell? (D m 0)=some (.slice a c.length k)) (q1:w.cell? (D m 1)=some (.slice a1 d.length n)) (r1:Ex w (.slice a c.length k) c U) (r2:Ex w (.slice a1 d.length n) d V):
 Calls Zf 187 #[Zx m 2 x] w λj f=>∃l o,j=.returned (.slice l (c++d).length o)/\kR f (c++d) l/\Zb w f:=by
 have b:=X (RS w y (by omega));have t:=X r1;have u:=X r2;have z:=X h;have A:=X q1;clear r1 r2
 go_in
 go_wp2
 go_loopw [3,11] (λs i wr=>Hid (wr=w)/\((s=Y 0/\i=Y 0)\/(s=Y (c.length:Int)/\i=Y 1)\/(s=Y ((c.length+d.length:Nat):Int)/\i=Y 2))) (λ_ i _=>2 - (intOf i).toNat)
 case atStart=>exact⟨rfl,jD ⟨rfl,rfl⟩⟩
 case round=>
  obtain⟨e,hrel⟩:=hrel;have s:=e.symm;subst s;clear e;obtain⟨rfl,rfl⟩|⟨rfl,rfl⟩|⟨rfl,rfl⟩:=hrel
  .have B:¬((c.length:Int)<0):=by omega
   go_wp2_with fail
   go_roundw
   case rel=>exact⟨trivial,jE (jD ⟨by simp,rfl⟩)⟩
   case measure=>simp[intOf]
  .have B:¬((c.length:Int)+d.length<0):=by omega
   go_wp2_with fail
   go_roundw
   case rel=>exact⟨trivial,jE (jE ⟨by simp,rfl⟩)⟩
   case measure=>simp[intOf]
  go_wp2_with fail
  refine b.mono ?_;rintro j H ⟨v,rfl,e,g⟩;have C:=X e;have E:=X g;clear e g b h q1;go_wp2
  go_loopw [6,27] (λv i wr=>Hid (Zb w wr)/\((i=Y 0/\Hid (wr.ownsRow w.heap.size 47 7 v 0 []))\/(i=Y 1/\Hid (wr.ownsRow w.heap.size 47 7 v c.length U))\/(i=Y 2/\Hid (wr.ownsRow w.heap.size 47 7 v (c.length+d.length) (U++V))))) (λ_ i _=>2 - (intOf i).toNat)
  case atStart=>exact⟨E,jD ⟨rfl,C⟩⟩
  case round=>
   obtain⟨e,hrel⟩:=hrel;have h:=jP e z;have q1:=jP e A;have I:=e.size
   have i:=X (λ(v:Zv)(b q:Nat)(g r:Zu)(F:wr.ownsRow w.heap.size 47 7 v b g)(p:Zv)(f:N)(J:f.ownsRow w.heap.size 47 7 p (b+q) (g++r))(b:wr.grownBy f v.ownBlock)=>(show Zb w f from
    e.grown b (by omega) (λb g=>(kO F b g).1)))
   obtain⟨rfl,b⟩|⟨rfl,b⟩|⟨rfl,b⟩:=hrel
   .have HS:=X (Ni e t.src)
    go_wp2_with (at_builtin
                 go_must (refine Lv rfl (.tmp 31) (.tmp 32) rfl rfl b rfl HS (by omega) (by omega) ?_)
                 intro p r g q F)
    have r:=i _ _ _ _ _ b _ _ g q
    go_roundw
    case rel=>exact⟨r,jE (jD ⟨rfl,by rw[kK,nQ] at g;exact g⟩)⟩
    case measure=>simp[intOf]
   .have HS:=X (Ni e u.src)
    go_wp2_with (at_builtin
                 go_must (refine Lv rfl (.tmp 31) (.tmp 32) rfl rfl b rfl HS (by omega) (by omega) ?_)
                 intro p p g q F)
    have r:=i _ _ _ _ _ b _ _ g q
    go_roundw
    case rel=>exact⟨r,jE (jE ⟨rfl,g⟩)⟩
    case measure=>simp[intOf]
   have p:Hid (pP (λg=>g<w.heap.size) w.heap.size wr u6 (c++d)):=by
    refine⟨U++V,by rw[qB];exact b,gL (λg q _=>⟨⟨jD q,λj=>?_⟩,e.block g q⟩) (Bd t.jl u.jl)⟩;have:=(kO b g j).1;omega
   obtain⟨l,o,rfl,g⟩:=Eu p;have q:=X g;clear g p b i h q1;go_wp2;go_ret;exact⟨l,o,rfl,dA q,e⟩
structure lS (w wr:N) (R n:Nat) (d:Zc):Prop where
 lits:∃xs,bE (λk=>k≠R) wr d xs/\∀j u,xs[j]? =some u->wr.cell? (D R j)=some u
 cells:∀j,j<n*7->∃u,wr.cell? (D R j)=some u
 fr:∀j,wr.frozen? (D R j)=false
 below:Zb w wr
 lo:w.heap.size<=R
 gl:R<wr.heap.size
def lS.start(a:Zb w u):lS w (u.alloc (.cells (eF k) 47)) u.heap.size k []:=by
 refine⟨⟨[],rfl,λj b h=>by simp at h⟩,λj b=>?_,λj=>?_,a.trans ((jG u _).mono a.size),a.size,by simp⟩
 .have c:j<(eF k).size:=by rw[eF,size_madeCells];exact b
  exact⟨(eF k)[j],by rw[jJ j rfl];simp[c]⟩
 exact iG (bR u _) j
def lS.keep(h:lS w u k n c)(a:Zb u v):lS w v k n c:=by
 obtain⟨e,f,g⟩:=h.lits;exact⟨⟨e,gL (λb d i=>⟨d,a.block b i⟩) f,λj b d=>jP a (g j b d)⟩,λj i=>by obtain⟨b,d⟩:=h.cells j i;exact⟨b,jP a d⟩,λj=>by rw[a.frozen h.gl];exact h.fr j,h.below.trans (a.mono h.below.size),h.lo,kV h.gl a.size⟩
def lS.step{x:Lit}{c1:Nat}{c2:Nat}(h:lS w u k n c)(hd:c.length<n)(i1:jT (λf=>f≠k) u x.2.1.e a)(i2:jT (λf=>f≠k) u x.2.2.e a1):
 lS w (yJ u k (c.length*7) (.bool x.1) (Y x.2.1.v) (Y x.2.1.f) (.slice a x.2.1.e.length c1) (Y x.2.2.v) (Y x.2.2.f) (.slice a1 x.2.2.e.length c2)) k n (c++[x]):=by
 obtain⟨l,p,s⟩:=h.lits;have v:=FQ p;obtain⟨d,e⟩:=Ze (yJ u k (c.length*7) (.bool x.1) (Y x.2.1.v) (Y x.2.1.f) (Zk a x.2.1.e c1) (Y x.2.2.v) (Y x.2.2.f) (Zk a1 x.2.2.e c2));have z:∀j,(j<c.length*7\/c.length*7+6<j)->d.cell? (D k j)=u.cell? (D k j):=λj i=>e▸CJ i;have m:∀j,j≠k->d.heap[j]? =u.heap[j]?:=λj i=>e▸Gg i;have q:d.heap.size=u.heap.size:=e▸CM;have A:∀b,d.frozen? b=u.frozen? b:=λb=>e▸CK b;have B:d.cell? (D k (c.length*7))=some (.bool x.1):=by obtain⟨g,b⟩:=h.cells (c.length*7) (by omega);rw[e,pF b];simp
 have C:d.cell? (D k (c.length*7+1))=some (Y x.2.1.v):=by obtain⟨g,b⟩:=h.cells (c.length*7+1) (by omega);rw[e,pF b];simp
 have E:d.cell? (D k (c.length*7+2))=some (Y x.2.1.f):=by obtain⟨g,b⟩:=h.cells (c.length*7+2) (by omega);rw[e,pF b];simp
 have F:d.cell? (D k (c.length*7+3))=some (Zk a x.2.1.e c1):=by obtain⟨g,b⟩:=h.cells (c.length*7+3) (by omega);rw[e,pF b];simp
 have G:d.cell? (D k (c.length*7+4))=some (Y x.2.2.v):=by obtain⟨g,b⟩:=h.cells (c.length*7+4) (by omega);rw[e,pF b];simp
 have H:d.cell? (D k (c.length*7+5))=some (Y x.2.2.f):=by obtain⟨g,b⟩:=h.cells (c.length*7+5) (by omega);rw[e,pF b];simp
 have I:d.cell? (D k (c.length*7+6))=some (Zk a1 x.2.2.e c2):=by obtain⟨g,b⟩:=h.cells (c.length*7+6) (by omega);rw[e,pF b];simp
 have J:∀j,j<n*7->∃g,Zq d k j g:=λj i=>by obtain⟨g,b⟩:=h.cells j i;exact⟨_,by rw[e];exact pF b⟩
 have o:d.os=u.os/\d.tape=u.tape/\d.output=u.output:=e▸CL;rw[<-e];clear e;have r:∀{e:Zt}{y:Zo},jT (λf=>f≠k) u e y->jT (λf=>f≠k) d e y:=λt=>xN (λf e _=>m f e) t;refine⟨⟨l++[.bool x.1,Y x.2.1.v,Y x.2.1.f,Zk a x.2.1.e c1,Y x.2.2.v,Y x.2.2.f,Zk a1 x.2.2.e c2],Bd (gL (λf e _=>⟨e,m f e⟩) p) ⟨a,c1,a1,c2,[],rfl,r i1,r i2,rfl⟩,λj g b=>?_⟩,J,λj=>by rw[A];exact h.fr j,?_,h.lo,by rw[q];exact h.gl⟩
 .by_cases i:j<l.length
  .rw[mY i] at b
   rw[z j (jD (by omega))];exact s j g b
  rw[nO (by omega)] at b;obtain⟨t,rfl⟩:∃t,j=l.length+t:=⟨j - l.length,by omega⟩;rw[Nat.add_sub_cancel_left] at b;rw[v]
  match t,b with
  |0,b=>simp at b;subst b;exact B
  |1,b=>simp at b;subst b;exact C
  |2,b=>simp at b;subst b;exact E
  |3,b=>simp at b;subst b;exact F
  |4,b=>simp at b;subst b;exact G
  |5,b=>simp at b;subst b;exact H
  |6,b=>simp at b;subst b;exact I
  |t+7,b=>simp at b
 have e:=h.below;exact⟨o.1.trans e.os,o.2.1.trans e.tape,o.2.2.trans e.output,by rw[q];exact e.size,λj i=>by rw[m j (by have:=h.lo;omega)];exact e.block j i⟩
def lS.end_(h:lS w u k n c):kR u c (some (D k 0)):=by
 obtain⟨f,a,b⟩:=h.lits;exact dA (Mn trivial (gL (λd _ _=>⟨trivial,rfl⟩) a) (λj d e=>by rw[kK];exact b j d e))
def fN(a:Zn)(b:Zs)(x:Lit):Lit:=(x.1,(vV a b x.2.1).1,(vV a b x.2.2).1)
def iJ(a:Zn)(b:Zs)(x:Lit):Int:=if (vV a b x.2.1).2=0 then(vV a b x.2.2).2 else(vV a b x.2.1).2
def pT(a:Zn)(b:Zs):Zc->Int
 |[]=>0
 |x::c=>if iJ a b x=0 then pT a b c else iJ a b x
def KB{x:Lit}(a:c[k]? =some x):pT r b (c.drop k)=if iJ r b x=0 then pT r b (c.drop (k+1)) else iJ r b x:=by
 rw[pN (Zl a),(jZ.1 a).2,pT]
def fB(a:Zn)(b:Zs)(c:Zc):Zc×Int:=if pT a b c=0 then fZ a (qQ [] (c.map (fN a b))) else([],pT a b c)
def KC{x:Lit}:xO (fN r b x):=⟨kN Nx (by decide),kN Nx (by decide)⟩
def Yf{a b:Type}{f:a->b}{c:List a}{x:a}(d:c[k]? =some x):(c.take (k+1)).map f=(c.take k).map f++[f x]:=by
 rw[vZ,d,nP];rfl
def Nq(a:Zn)(h:Zo)(i:Nat)(b:Zs)(V:Zo)(bc:Nat)(c:Zc)(ca:Zo)(cc:Nat)(w:N)(hl:b.length<=1000)(a7:c.length<=1000)(a0:gE a b=0)(e:∀x,x∈c->kP a x.2.1=0/\kP a x.2.2=0)(d:jV w a h)(j:xV (λ_=>True) w b V)(m:kR w c ca):
 Calls Zf 183 #[.agg #[.slice h a.length i],.slice V b.length bc,.slice ca c.length cc] w λB g=>sH (fB a b c) w.heap.size B g/\Zb w g:=by
 have a3:=Qh c.length (by omega);have Hc:=X m;have aj:=X e;have W:Hid (lS w ((w.alloc (.cells #[Zk h a i] 24)).alloc (.cells (eF c.length) 47)) (w.heap.size+1) c.length []):=by
  have:=lS.start (w:=w) (k:=c.length) (jG w (.cells #[Zk h a i] 24));rw[show(w.alloc (.cells #[Zk h a i] 24)).heap.size=w.heap.size+1 by simp] at this;exact this
 have Z:Hid (((w.alloc (.cells #[Zk h a i] 24)).alloc (.cells (eF c.length) 47)).cell? (D w.heap.size 0)=some (Zk h a i)):=by
  show _=_;rw[kW (by simp)];exact jJ 0 rfl
 have HA:=X (λ(p:Zp)(t:T)(C:Zo)(aa:Nat)(g:N)(o:∀k,g.heap.size<=k->p k)(ht:kP a t=0)l(a4:jT p g t.e C)=>Nu p a h i b V bc t C aa g o hl a0 ht (kD l d) (gW l j) a4);have Hg:=X d;clear m e d j
 go_in
 go_wp2
 go_loopw [19] (λd wr=>∃(k:Nat),k<=c.length/\d=Y k/\Hid (lS w wr (w.heap.size+1) c.length ((c.take k).map (fN a b)))/\Hid (Zq wr w.heap.size 0 (Zk h a i))/\Hid (pT a b (c.drop k)=pT a b c)) (λd _=>c.length - (intOf d).toNat)
 case atStart=>exact⟨0,jY _,rfl,W,Z,rfl⟩
 case round=>
  obtain⟨k,hk,rfl,m,v,y⟩:=hrel;have a8:=m.below.size;by_cases ak:k<c.length
  .obtain⟨x,p⟩:=Zg ak
   obtain⟨a9,ba,rfl⟩:=zN Hc (by omega);obtain⟨a1,J,a2,K,_,Q,R,S,k3,k4,k5,k6,i1,i2⟩:=uZ (nA m.below (Bn Hc)) p;have bb:(k:Int)<c.length:=(by omega);have bd:(0:Int)<=k:=(by omega);obtain⟨L,q⟩:=Ze (wr.alloc (.cells #[.bool x.1,Y x.2.1.v,Y x.2.1.f,Zk a1 x.2.1.e J,Y x.2.2.v,Y x.2.2.f,Zk a2 x.2.2.e K] 47));have F:=X q;have o:Zb wr L:=q▸jG _ _;have E:L7 L wr.heap.size 0 x a1 J a2 K:=q▸L7.new _ rfl;have hR:=m.gl;have be:L.heap.size=wr.heap.size+1:=(by rw[q];simp);have z:=X (m.below.trans (o.mono m.below.size));have t:=aj x (jU p);have u:=X (HA (λj=>j≠w.heap.size+1) x.2.1 a1 J L (λj A=>by omega) t.1 z (kQ (λj A=>by omega) (jI o i1)));have ab:=X (λg l=>HA (λj=>j≠w.heap.size+1) x.2.2 a2 K g (λj A=>by have:=l.size;omega) t.2 (z.trans (l.mono z.size)) (kQ (λj A=>by omega) (jI l (jI o i2))));obtain⟨d,r⟩:=Ze (vV a b x.2.1);obtain⟨e,s⟩:=Ze (vV a b x.2.2);have M:=X (KB (r:=a) (b:=b) p);have O:Hid (iJ a b x=if d.2=0 then e.2 else d.2):=(by show _=_;rw[iJ,r,s]);have al:Hid (fN a b x=(x.1,d.1,e.1)):=(by show _=_;rw[fN,r,s]);have am:=X (Yf (f:=fN a b) p);have ac:Hid (((c.take k).map (fN a b)).length=k):=(by show _=_;rw[dY,yD];omega);rw[<-r] at u;rw[<-s] at ab;have an:=X E;have ad:=X o;have ao:=X (jP o v);have g0:=v.out;have bf:w.heap.size<wr.heap.size:=(by omega);clear q o E i1 i2 p r s t
   go_wp2_with fail
   rw[<-F.out];refine u.mono ?_;rintro B o ⟨⟨P,E,rfl,s⟩,p⟩;have ae:=X p;have ap:=X s;have af:=X (z.trans (p.mono z.size));have ag:=X (ad.trans (p.mono ad.size));obtain⟨t,p1,p2,p3,G,H,I⟩:=an.below p;have r:=jP p ao;have P0:=X t;have G1:=X r;have a5:=λq=>jP (jG o q) r;have U:=λq=>jP (jG o q) G;have ai:=λq=>jP (jG o q) H;have aq:=λq=>jP (jG o q) I;simp only[kK] at U ai aq;clear t p1 p2 p3 G H I r;have bg:=p.size;have bh:wr.heap.size<o.heap.size:=(by omega);clear p s Q R S k3 k4 k5 k6 F u g0;by_cases q:d.2=0
   .have ex:(d.2 !=0)=false:=by simpa using q
    have ar:=X q;clear q;obtain⟨Q,p⟩:=Ze (o.alloc (.cells (Zj d.1 P E) 43));have r:Zb o Q:=p▸jG _ _;have au:Hid (jK Q o.heap.size (Y d.1.v) (Y d.1.f) (Zk P d.1.e E)):=p▸jK.new _ rfl;have s:=X p;have ah:=X r;have bi:Q.heap.size=o.heap.size+1:=(by rw[p];simp);have av:=X (ae.trans (r.mono ae.size));have t:=X (ab Q av);clear p r
    go_wp2_with fail
    rw[<-s.out];refine t.mono ?_;rintro B F ⟨⟨R,G,rfl,r⟩,p⟩;have H:=X (ah.trans (p.mono ah.size));have aw:=X (ag.trans (H.mono ag.size));have ax:=X r;have bj:=p.size;obtain⟨t0,t1,t2,_,_,_⟩:=au.below p;have ay:=jP H P0;have bk:o.heap.size<F.heap.size:=(by omega);have S:=X (m.keep aw);have az:=X (jP H G1);clear a5 U ai aq t p r s;by_cases s:e.2=0
    .have ey:(e.2 !=0)=false:=by simpa using s
     have a5:=X s;clear s;obtain⟨t,U⟩:=Ze (F.alloc (.cells (Zj e.1 R G) 43));have p:Zb F t:=U▸jG _ _;have I:=S.keep p;have aq:=X U;have u:∀j,j<7->∃ai,Zq t (w.heap.size+1) (k*7+j) ai:=λj A=>I.cells (k*7+j) (by omega);have r:=I.fr;obtain⟨v0,e0⟩:∃ai,Zq t (w.heap.size+1) (k*7) ai:=I.cells (k*7) (by omega);obtain⟨v1,e1⟩:=u 1 (by omega);obtain⟨v2,e2⟩:=u 2 (by omega);obtain⟨v3,e3⟩:=u 3 (by omega);obtain⟨v4,e4⟩:=u 4 (by omega);obtain⟨v5,e5⟩:=u 5 (by omega);obtain⟨v6,e6⟩:=u 6 (by omega);have f0:=r (k*7);have f1:=r (k*7+1);have f2:=r (k*7+2);have f3:=r (k*7+3);have f4:=r (k*7+4);have f5:=r (k*7+5);have f6:=r (k*7+6);obtain⟨s0,s1,s2,_,_,_⟩:jK t F.heap.size (Y e.1.v) (Y e.1.f) (Zk R e.1.e G):=U▸jK.new _ rfl;have bl:=jP p t0;have bm:=jP p t1;have bn:=jP p t2;have bo:=jP p ay;have HN:Hid (lS w (yJ t (w.heap.size+1) (k*7) (.bool x.1) (Y d.1.v) (Y d.1.f) (Zk P d.1.e E) (Y e.1.v) (Y e.1.f) (Zk R e.1.e G)) (w.heap.size+1) c.length ((c.take (k+1)).map (fN a b))):=by
      have h9:=I.step (x:=(x.1,d.1,e.1)) (c1:=E) (c2:=G) (by rw[ac.out];exact ak) (jI p (jI H ap)) (jI p ax);rw[ac.out] at h9;show lS _ _ _ _ _;rw[am.out,al.out];exact h9
     have ai:Hid ((yJ t (w.heap.size+1) (k*7) (.bool x.1) (Y d.1.v) (Y d.1.f) (Zk P d.1.e E) (Y e.1.v) (Y e.1.f) (Zk R e.1.e G)).cell? (D w.heap.size 0)=some (Zk h a i)):=by
      show _=_;rw[kH (w:=t) (a:=(D w.heap.size 0)) (Gg (show w.heap.size≠_ by omega))];exact jP p az
     have a6:Hid (pT a b (c.drop (k+1))=pT a b c):=by
      have h9:=M.out;rw[jB (by rw[O.out,jB ar.out];exact a5.out),y.out] at h9;exact h9.symm
     clear U p I u r t0 t1 t2 ay
     go_upto_region 11 with fail
     rw[<-aq.out];clear HA M O al am ac an ad ao ae ap af ag P0 G1 ah av H aw ax S az m v y W Z aj ab z aq au
     go_wp2_with fail
     go_roundw
     case rel=>exact⟨k+1,by omega,by go_num,HN,ai,a6⟩
     case measure=>simp[intOf];omega
    have ey:(e.2 !=0)=true:=(by simpa using s);have r:Hid (fB a b c=([],e.2)):=by
     have p:=M.out;have u:iJ a b x=e.2:=(by rw[O.out,jB ar.out]);rw[u,jC s,y.out] at p;show _=_;rw[fB,p,jC s]
    clear s;go_wp2
    go_ret2
    exact⟨by rw[r.out];exact⟨none,0,rfl,trivial,jD rfl⟩,S.below.trans ((jG F _).mono S.below.size)⟩
   have ex:(d.2 !=0)=true:=(by simpa using q);have r:Hid (fB a b c=([],d.2)):=by
    have p:=M.out;have s:iJ a b x=d.2:=(by rw[O.out,jC q]);rw[s,jC q,y.out] at p;show _=_;rw[fB,p,jC q]
   clear q;go_wp2
   go_ret2
   exact⟨by rw[r.out];exact⟨none,0,rfl,trivial,jD rfl⟩,af.trans ((jG o _).mono af.size)⟩
  have F:k=c.length:=by omega
  subst F;rw[qU] at m;have p:Hid (fB a b c=fZ a (qQ [] (c.map (fN a b)))):=by
   have k:=y.out;rw[dX] at k;show _=_;rw[fB,<-k];rfl
  have u:(c.map (fN a b)).length=c.length:=dY _
  have q:=X (λg l=>Yr (w:=g) c.length (by omega) (λk k=>by
   obtain⟨x,_,rfl⟩:=bP.1 k
   exact KC) (m.keep l).end_)
  obtain⟨r,s⟩:=Ze (qQ [] (c.map (fN a b)));have U:r.length<=1000:=by have:=Fy (c:=c.map (fN a b)) (a:=[]);rw[<-s] at this;simp at this;omega
  have z:=X (λ(C:Zo)(aa:Nat)(g:N)l(t:kR g r C)=>Te i aa (kD l Hg) (by omega) t);rw[<-s] at q p;rw[u] at q;obtain⟨aa,C⟩:=Ze (fZ a r);rw[<-C] at z p;have g0:=v.out;have G:=X (λ(g:N)(l:Zb wr g)=>(show Zq g w.heap.size 0 (Zk h a i) from jP l v));have HR:=X (jW wr.heap.size wr);have k:=X m.below;clear C s u a3 HA W Z y m v
  go_upto_region 13 with fail
  go_region_held3 (λg=>Zq g w.heap.size 0 (Zk h a i)) ((first|(refine G _ ?_;(go_grown<;>exact ‹Hid (Below wr.heap.size _ _)›);done)|go_keep)) ((first
   |(go_at_call 109
     with_reducible refine(q.out _ ?_).mono ?_
     ·(go_grown<;>exact ‹Hid (Below wr.heap.size _ _)›)
     rintro B u ⟨C,H,rfl,v,s⟩;have m:Hid (Zb wr u):=(by first|exact s|exact dN s);have y:=X (dA v)
     clear v s)
   |(go_at_call 74
     with_reducible refine(z.out _ _ _ ?_ y.out).mono ?_
     .exact k.trans (m.mono k.size)
     rintro B C ⟨H,s⟩;obtain⟨I,Q,rfl,v,y⟩:=H;have R:Hid (Zb u C):=(by first|exact s|exact dN s);have S:=X (m.trans (R.mono m.size));have u:=X (jM v y)
     clear v y s)))
  go_wp2
  go_ret2
  have R:=k.size;have W:=m.size;refine⟨?_,k.trans (S.mono k.size)⟩;rw[p.out];refine⟨I,Q,rfl,u.1,?_⟩;rcases u.2 with t|⟨m,s,u,v,y,C,H⟩
  .exact jD t
  exact jE ⟨m,s,u,v,y,C,λj A=>by have:=H j A;omega⟩
def LA:∀{a:Zs}{b:Int},(a.map Prod.fst).Pairwise (·<·)->(∀v u,(v,u)∈a->(b<v/\1<=v/\v<=1000)/\jQ r u/\u.E<=120)->lI r b a=0:=by
 intro a;induction a with
 |nil=>intro b _ _;rfl
 |cons x a f=>
  intro b c d;obtain⟨v,u⟩:=x;rw[yI,Ep] at c;obtain⟨l,g,h⟩:=d v u vX;rw[lI,jC (by simp only;omega),jC (by simp only;omega),jB (mS.2 ⟨h,g⟩)];refine f c.2 λw y e=>?_;obtain⟨i,j,k⟩:=d w y (vG _ e);exact⟨⟨c.1 w (Em e),i.2⟩,j,k⟩
def LG(a:qT r=0)(h:iU r b):gE r b=0:=by
 rw[gE,jB a];refine LA h.ve λv u c=>?_;have:=h.each v u c;exact⟨by omega,this.2.1,this.2.2.1⟩
def Lq(d:qT r=0)(h:(xM r t s).2=0):gE r (xM r t s).1=0/\(xM r t s).1.length<=1000:=by
 rw[xM] at h ⊢;simp only at h ⊢;by_cases a:(gH r t s).2.2=0
 .rw[jB a] at h
  cases b:(gH r t s).2.1 with
  |false=>rw[b] at h;simp at h
  |true=>
   obtain⟨f,g,_,e,_,c,_,_⟩:=DK a b;rw[e];exact⟨LG d c,c.len⟩
 rw[jC a] at h;exact jN h a
def iI(a:Zn)(c:Zc)(k:Nat)(x:Lit):Zc×Int:=if (xM a x.2.1 x.2.2).2=0 then fB a (xM a x.2.1 x.2.2).1 (c.eraseIdx k) else([],(xM a x.2.1 x.2.2).2)
def jBa(j:Nat)(A:Nat){i:jX}(B:Zo)(C:Nat){x:Lit}(E:qT r=0)(Z:c.length<=1000)(F:∀x,x∈c->kP r x.2.1=0/\kP r x.2.2=0)(G:i.la=(k:Int))(y:c[k]? =some x)(z:jV w r a)(o:kR w c a1):
 Calls Zf 158 #[.agg #[.slice a r.length j],.slice a1 c.length A,zV i B C] w λp b=>sH (iI r c k x) w.heap.size p b/\Zb w b:=by
 have aa:=(Zl y);obtain⟨d,e,rfl⟩:=zN o (by omega);obtain⟨f,l⟩:=Ze ((w.alloc (.cells #[Zk a r j] 24)).alloc (.cells #[Y i.L,Y i.left,Y i.right,Y i.la,Y i.ra,.bool i.lt,.bool i.rt,Zk B i.G C] 81));have h:Zb w f:=l▸kF _ _ _;have H:f.cell? (D w.heap.size 0)=some (Zk a r j):=by rw[l,kW (by simp)];exact jJ 0 rfl
 have I:f.cell? (D (w.heap.size+1) 3)=some (Y (k:Int)):=by rw[<-G,l];exact(I8.new _ (by simp)).e3
 obtain⟨q,s,t,u,W,J,K,L,M,O,P,i1,i2⟩:=dZ (kL h o) y
 have v:=X (λ(b:N)(g:Zb f b)=>(show Zq b w.heap.size 0 (Zk a r j)/\Zq b (w.heap.size+1) 3 (Y (k:Int))/\Zq b d (e+k*7+1) (Y x.2.1.v)/\Zq b d (e+k*7+2) (Y x.2.1.f)/\Zq b d (e+k*7+3) (Zk q x.2.1.e s)/\Zq b d (e+k*7+4) (Y x.2.2.v)/\Zq b d (e+k*7+5) (Y x.2.2.f)/\Zq b d (e+k*7+6) (Zk t x.2.2.e u) from
  ⟨jH g H,jH g I,jH g J,jH g K,jH g L,jH g M,jH g O,jH g P⟩))
 have Q:=X (λ(b:N)(g:Zb f b)=>Rc r a j x.2.1 q s x.2.2 t u b (kD (h.trans (g.mono h.size)) z) (jI g i1) (jI g i2));have HO:=X (λ(b:N)(g:Zb f b)=>Ri c (some (D d e)) A k b aa Z (kL (h.trans (g.mono h.size)) o));obtain⟨U,m⟩:=Ze (xM r x.2.1 x.2.2);have HP:=X (λ(n:U.2=0)(R:Zo)(bc:Nat)(S:Zo)(dc:Nat)(b:N)(g:Zb f b)(ab:xV (λ_=>True) b U.1 R)(hd:kR b (c.eraseIdx k) S)=>Nq r a j U.1 R bc (c.eraseIdx k) S dc b (by rw[m] at n ⊢;exact(Lq E n).2) (by rw[Bh];split<;>omega) (by rw[m] at n ⊢;exact(Lq E n).1) (λn V=>F n (Mu V)) (kD (h.trans (g.mono h.size)) z) ab hd);have V:Hid (iI r c k x=if U.2=0 then fB r U.1 (c.eraseIdx k) else([],U.2)):=by show _=_;rw[iI,<-m]
 rw[<-m] at Q;have ag:(k:Int)<c.length:=by omega
 have ah:(0:Int)<=k:=by omega
 have ac:=X l;have n:=X h;have HR:=X (jW f.heap.size f);clear l h H I W J K L M O P i1 i2 y z o F G m
 go_in
 go_upto_region 1 with fail
 rw[<-ac.out];obtain⟨F,G,H,I,J,K,L,M⟩:=v f HR
 go_region_held3 (λb=>Zq b w.heap.size 0 (Zk a r j)/\Zq b (w.heap.size+1) 3 (Y (k:Int))/\Zq b d (e+k*7+1) (Y x.2.1.v)/\Zq b d (e+k*7+2) (Y x.2.1.f)/\Zq b d (e+k*7+3) (Zk q x.2.1.e s)/\Zq b d (e+k*7+4) (Y x.2.2.v)/\Zq b d (e+k*7+5) (Y x.2.2.f)/\Zq b d (e+k*7+6) (Zk t x.2.2.e u)) ((first|(refine v _ ?_;(go_grown<;>exact ‹Hid (Below f.heap.size _ _)›);done)|go_keep)) ((first
  |(go_at_call 182
    with_reducible refine(Q.out _ ?_).mono ?_
    ·(go_grown<;>exact ‹Hid (Below f.heap.size _ _)›)
    rintro p o ⟨m,y,rfl,l,g⟩;have h:Hid (Zb f o):=(by first|exact g|exact dN g);have ad:=X (tN (λ_ _=>trivial) l)
    clear l g)))
 clear F G H I J K L M;obtain⟨F,G,H,I,J,K,L,M⟩:=v o h;by_cases g:U.2=0
 .have eu:(U.2 !=0)=false:=by simpa using g
  have l:=X g;clear g
  go_upto_region 4 with fail
  go_region_held3 (λb=>Zq b w.heap.size 0 (Zk a r j)/\Zq b (w.heap.size+1) 3 (Y (k:Int))/\Zq b d (e+k*7+1) (Y x.2.1.v)/\Zq b d (e+k*7+2) (Y x.2.1.f)/\Zq b d (e+k*7+3) (Zk q x.2.1.e s)/\Zq b d (e+k*7+4) (Y x.2.2.v)/\Zq b d (e+k*7+5) (Y x.2.2.f)/\Zq b d (e+k*7+6) (Zk t x.2.2.e u)) ((first|(refine v _ ?_;(go_grown<;>(first|exact ‹Hid (Below f.heap.size _ y)›|exact ‹Hid (Below f.heap.size _ m)›|exact ‹Hid (Below f.heap.size _ _)›));done)|go_keep)) ((first
   |(go_at_call 184
     with_reducible refine(HO.out _ ?_).mono ?_
     ·(go_grown<;>exact ‹Hid (Below f.heap.size _ _)›)
     rintro p m ⟨vB,rfl,O,z⟩;obtain⟨dB,ai,rfl,P⟩:=Eu O.outs;have W:Hid (Zb o m):=(by first|exact z|exact dN z);have o:Hid (Zb f m):=h.trans (W.mono h.size);have ae:=X (dA P);have af:=X (gW W ad)
     clear O z P)
   |(go_at_call 183
     with_reducible refine(HP.out l.out _ _ _ _ _ ?_ af.out ae.out).mono ?_
     .exact o
     rintro p y ⟨W,z⟩;obtain⟨aC,ad,rfl,O,P⟩:=W;have ae:Hid (Zb m y):=(by first|exact z|exact dN z);have af:Hid (Zb f y):=o.trans (ae.mono o.size);have m:=X (jM O P)
     clear O P z)))
  go_wp2
  go_ret2
  have ae:=n.size;have ai:=o.size;refine⟨?_,n.trans (af.mono n.size)⟩;rw[V.out,jB l.out];refine⟨aC,ad,rfl,m.1,?_⟩;rcases m.2 with m|⟨o,y,z,O,P,W,h5⟩
  .exact jD m
  exact jE ⟨o,y,z,O,P,W,λad hj=>by have:=h5 ad hj;omega⟩
 have eu:(U.2 !=0)=true:=by simpa using g
 have l:=X g;clear g;go_wp2
 go_ret2
 exact⟨by rw[V.out,jC l.out];exact⟨none,0,rfl,trivial,jD rfl⟩,n.trans (h.mono n.size)⟩
def Ln{x:Lit}(a:Bool)(h:kP r x.2.1=0/\kP r x.2.2=0):kP r (qG x a)=0/\kP r (xG x a)=0:=by
 cases a
 .exact h
 exact⟨h.2,h.1⟩
def Do{x:Lit}(b:Bool)(i1:InL w x.2.1.e a)(i2:InL w x.2.2.e a1):InL w (qG x b).e (if b then a1 else a)/\InL w (xG x b).e (if b then a else a1):=by
 cases b
 .exact⟨i1,i2⟩
 exact⟨i2,i1⟩
def mU{a b c:Zv}(d:Zb w u)(h:w.heap[k]? =some (.cells #[a,b,c] g)):jK u k a b c:=(jK.of_heap h).below d
def Cx(w:N)(o o2:Obj):((w.alloc o).alloc o2).heap[w.heap.size]? =some o:=by rw[(jG (w.alloc o) o2).block _ (by simp)];exact tT w o
def Cy(w:N)(o o2:Obj):((w.alloc o).alloc o2).heap[w.heap.size+1]? =some o2:=by
 have:=tT (w.alloc o) o2;rwa [qE] at this
structure gA (W w':N) (p q:Nat) (s0 s1 s2 t0 t1 t2:Zv):Prop where
 lp:W.heap.size<=p
 lq:W.heap.size<=q
 ne:p≠q
 one:jK w' p s0 s1 s2
 two:jK w' q t0 t1 t2
 below:Zb W w'
def gA.swap{a s1 s2 b c d:Zv}(h:gA w u k n a s1 s2 b c d):gA w u n k b c d a s1 s2:=⟨h.lq,h.lp,h.ne.symm,h.two,h.one,h.below⟩
def aY(a:Zb w u)(b s1 s2 c d e:Zv)(f g:TypeId):gA w ((u.alloc (.cells #[b,s1,s2] f)).alloc (.cells #[c,d,e] g)) u.heap.size (u.heap.size+1) b s1 s2 c d e:=
 ⟨a.size,by have:=a.size;omega,by omega,(jK.new _ rfl).alloc _,jK.new _ (by simp),a.trans ((kF u _ _).mono a.size)⟩
def aZ{i j l:Zv}(b:Zb w u)(c:w.heap.size<=k)(d:jK u k i j l)(a s1 s2 e f g:Zv)(m:TypeId):
 gA w ((((u.setCell (D k 0) a).setCell (D k 1) s1).setCell (D k 2) s2).alloc (.cells #[e,f,g] m)) k u.heap.size a s1 s2 e f g:=by
 have o:=d.lt;have n:(qZ u k 0 a s1 s2).heap.size=u.heap.size:=iN;have h:Zb w (qZ u k 0 a s1 s2):=xZ b c _ _ _;exact⟨c,b.size,by omega,(d.set a s1 s2).alloc _,jK.new _ n.symm,h.trans ((jG _ _).mono h.size)⟩
def cC{l m o f g h:Zv}(p:Zb w u)(i:w.heap.size<=k)(j:w.heap.size<=n)(e:k≠n)(q:jK u k l m o)(r:jK u n f g h)(a s1 s2 b c d:Zv):
 gA w ((((((u.setCell (D k 0) a).setCell (D k 1) s1).setCell (D k 2) s2).setCell (D n 0) b).setCell (D n 1) c).setCell (D n 2) d) k n a s1 s2 b c d:=by
 have s:jK (qZ u k 0 a s1 s2) n f g h:=r.same (xQ e.symm);have t:jK (qZ (qZ u k 0 a s1 s2) n 0 b c d) n b c d:=s.set _ _ _;have v:jK (qZ (qZ u k 0 a s1 s2) n 0 b c d) k a s1 s2:=(q.set a s1 s2).same (xQ e);exact⟨i,j,e,v,t,xZ (xZ p i _ _ _) j _ _ _⟩
def iH(a:Zn)(c:Zc)(k:Nat)(s t u v:T):Zc×Int:=
 if (xM a s u).2=0 then(if pW a (xM a s u).1 s t=0 then fB a (xM a s u).1 (c.eraseIdx k++[(false,t,v)]) else([],pW a (xM a s u).1 s t)) else([],(xM a s u).2)
def xC:T->Int
 |⟨v,_,a⟩=>greatL a v
 where
 greatL:Zt->Int->Int
 |[],m=>m
 |b::c,m=>greatL c (max m (xC b))
def Kg(t:T):xC t=xC.greatL t.e t.v:=by cases t;rw[xC]
def xK:Zc->Int->Int
 |[],m=>m
 |x::c,m=>xK c (max (max m (xC x.2.1)) (xC x.2.2))
def Dt(d v:Int):T:=⟨v+d,0,[]⟩
def yO(d:Int)(t:T):T:=sub (Dt d) t
def pD(d:Int)(c:Zc):Zc:=c.map (λx=>(x.1,yO d x.2.1,yO d x.2.2))
def zB(c d:Zc):Zc×Int:=if 1000<xK c 0+xK d 0 then([],2) else(if xK c 0=0 then d else pD (xK c 0) d,0)
def sZ(a:Zn)(c d:Zc)(k m:Nat)(e:Bool)(b:Zn)(p l r u v:T):Zc×Int:=
 if (xM a p l).2=0 then(if pW a (xM a p l).1 l r=0 then(if pW a (xM a p l).1 u v=0 then(if (lO a u b r).2=0 then
  fB a (xM a p l).1 (c.eraseIdx k++aI d m e (lO a u b r).1) else([],(lO a u b r).2)) else([],pW a (xM a p l).1 u v)) else([],pW a (xM a p l).1 l r)) else([],(xM a p l).2)
def aJ:Lit:=(false,zS,zS)
abbrev kX(a:Zm)(n:Int):Zc:=a.getD n.toNat []
abbrev vR(c:Zc)(n:Int):Lit:=c.getD n.toNat aJ
def mT(b:Zn)(a:Zm)(i:jX):Bool:=
 yG i.left a.length && yG i.la (kX a i.left).length && (if i.L=1 then true else if i.L=2 then yG i.ra (kX a i.left).length else
  yG i.right a.length && yG i.ra (kX a i.right).length && ((pU b (qG (vR (kX a i.right) i.ra) i.rt) i.G).2==0))
def sY(a:Zn)(b:Zm)(i:jX):Int:=
 if i.L≠1/\i.L≠2/\i.L≠3 then 6 else if mT a b i=true then(if tJ i=true then 0 else 1) else 5
def Dg(t:T)(a:Zn):T:=(qK t a).getD zS
def sW(c d:Zc)(i:jX):Bool:=
 if i.L=1 then !(vR c i.la).1 else if i.L=2 then((vR c i.la).1 && (vR c i.ra).1 && (i.la !=i.ra)) else((vR c i.la).1 && ((Dg (qG (vR d i.ra) i.rt) i.G).v==0))
def dO(a:Zn)(c d:Zc)(i:jX):Zc×Int:=
 if i.L=1 then iI a c i.la.toNat (vR c i.la) else if i.L=2 then
  iH a c i.la.toNat (qG (vR c i.la) i.lt) (xG (vR c i.la) i.lt) (qG (vR c i.ra) i.rt) (xG (vR c i.ra) i.rt)
 else sZ a c d i.la.toNat i.ra.toNat i.rt i.G (Dg (qG (vR d i.ra) i.rt) i.G) (qG (vR c i.la) i.lt) (xG (vR c i.la) i.lt) (qG (vR d i.ra) i.rt) (xG (vR d i.ra) i.rt)
def qX(b:Zn)(a:Zm)(i:jX):Zc×Int:=
 if kJ b a=0 then(if sY b a i=0 then(if sW (kX a i.left) (kX a i.right) i=true then
  (if i.L=3 then(if (zB (kX a i.left) (kX a i.right)).2=0 then dO b (kX a i.left) (zB (kX a i.left) (kX a i.right)).1 i else([],(zB (kX a i.left) (kX a i.right)).2))
   else dO b (kX a i.left) (kX a i.right) i)
  else([],4)) else([],sY b a i)) else([],kJ b a)
def lQ(b:Zn):Zm->List jX->Zm×Int
 |a,[]=>(a,0)
 |a,i::p=>if (qX b a i).2=0 then lQ b (a++[(qX b a i).1]) p else([],(qX b a i).2)
def Wl:∀(a:Zt)(m:Int),m<=xC.greatL a m/\∀b,b∈a->xC b<=xC.greatL a m:=by
 intro a;induction a with
 |nil=>intro m;exact⟨mE m,λb h=>by cases h⟩
 |cons c a e=>
  intro m;obtain⟨g,f⟩:=e (max m (xC c));show m<=xC.greatL a (max m (xC c))/\∀b,b∈c::a->xC b<=xC.greatL a (max m (xC c));refine⟨by omega,λb d=>?_⟩;rcases qO.1 d with rfl|d
  .omega
  exact f b d
def RR(t:T):t.v<=xC t:=by rw[Kg];exact(Wl t.e t.v).1
def RQ(h:s∈t.e):xC s<=xC t:=by rw[Kg t];exact(Wl t.e t.v).2 s h
def RM:∀(c:Zc)(m:Int),m<=xK c m/\∀x,x∈c->xC x.2.1<=xK c m/\xC x.2.2<=xK c m:=by
 intro c;induction c with
 |nil=>intro m;exact⟨mE m,λe h=>by cases h⟩
 |cons y c b=>
  intro m;obtain⟨f,d⟩:=b (max (max m (xC y.2.1)) (xC y.2.2));rw[xK];refine⟨by omega,λx a=>?_⟩;rcases qO.1 a with rfl|a
  .omega
  exact d x a
def BO(hd:0<=z):∀(d:Nat)(t:T),t.E<=d->jQ r t->xC t+z<=1000->jQ r (yO z t)/\(yO z t).E=t.E:=by
 intro d;induction d with
 |zero=>intro t h;have:=t.I;omega
 |succ d i=>
  intro t h e m;have f:=T.M t;by_cases c:t.v=0
  .have j:∀(l:Zt),(∀a,a∈l->(yO z a).E=a.E)->T.E.szL (l.map (yO z))=T.E.szL l:=by
    intro l;induction l with
    |nil=>intro _;rfl
    |cons a l g=>
     intro b;rw[yI,T.F,T.F,b a vX,g (λk l=>b k (vG a l))]
   have g:∀a,a∈t.e->jQ r (yO z a)/\(yO z a).E=a.E:=λa b=>i a (by have:=xJ b;omega) (xF e b) (by have:=RQ b;omega);rw[yO,mA c];refine⟨vW.2 ⟨?_,?_⟩,?_⟩
   .have:=(vW.1 e).1
    rw[c] at this;simpa using this
   .refine nH.2 λk k=>?_
    obtain⟨a,b,rfl⟩:=bP.1 k;exact(g a b).1
   rw[T.M,f];show 1+T.E.szL (t.e.map (yO z))=_;rw[j _ (λa b=>(g a b).2)]
  have b:=lZ e c;have a:=(vW.1 e).1;have l:=RR t;rw[xU,jB c] at a;have n:¬(t.v<1\/1000<t.v):=λk=>by rw[jB k] at a;cases a
  rw[yO,mR c,Dt];refine⟨vW.2 ⟨?_,trivial⟩,?_⟩
  .show xU r (t.v+z) 0 0=0
   rw[xU,jB (by omega),jC (by omega)];rfl
  rw[T.M,f,b.2]
def Wm:∀(b:Nat)(t:T),t.E<=b->jQ r t->0<=xC t/\xC t<=1000:=by
 intro b;induction b with
 |zero=>intro t h;have:=t.I;omega
 |succ b i=>
  intro t h e;have c:=(vW.1 e).1;have d:0<=t.v/\t.v<=1000:=by
   by_cases d:t.v=0
   .omega
   rw[xU,jB d] at c;have f:¬(t.v<1\/1000<t.v):=λa=>by rw[jB a] at c;cases c
   omega
  have j:∀(l:Zt)(m:Int),(∀a,a∈l->0<=xC a/\xC a<=1000)->0<=m/\m<=1000->0<=xC.greatL l m/\xC.greatL l m<=1000:=by
   intro l;induction l with
   |nil=>intro m _ f;exact f
   |cons a l k=>
    intro m g f;have:=g a vX;exact k _ (λl m=>g l (vG a m)) (by omega)
  rw[Kg];exact j _ _ (λa f=>i a (by have:=xJ f;omega) (xF e f)) d
def Fq:∀(c:Zc)(m:Int),qC r c->0<=m/\m<=1000->0<=xK c m/\xK c m<=1000:=by
 intro c;induction c with
 |nil=>intro m _ a;exact a
 |cons x c d=>
  intro m h a;have b:=h x vX;have f:=Wm _ x.2.1 (jF _) b.1.2;have g:=Wm _ x.2.2 (jF _) b.2.2;rw[xK];exact d _ (λy e=>h y (vG x e)) (by omega)
def JZ(j:qC r c)(hd:qC r d)(h:(zB c d).2=0):qC r (zB c d).1/\(zB c d).1.length=d.length:=by
 rw[zB] at h ⊢;split at h
 .cases h
 rename_i k;rw[jC k];simp only;by_cases b:xK c 0=0
 .rw[jB b];exact⟨hd,rfl⟩
 rw[jC b];refine⟨λy a=>?_,by rw[pD,dY]⟩;rw[pD] at a;obtain⟨x,e,rfl⟩:=bP.1 a;have f:=(Fq c 0 j ⟨by omega,by omega⟩).1;have l:=(RM d 0).2 x e;have a:=hd x e;have g:=BO f _ x.2.1 (jF _) a.1.2 (by omega);have i:=BO f _ x.2.2 (jF _) a.2.2 (by omega);exact⟨⟨by show(yO _ _).E<=120;rw[g.2];exact a.1.1,g.1⟩,⟨by show(yO _ _).E<=120;rw[i.2];exact a.2.1,i.1⟩⟩
def fR{a:Type}{l:List a}(b:a)(h:yG z l.length=true):∃k:Nat,z=(k:Int)/\z.toNat=k/\l[k]? =some (l.getD z.toNat b):=by
 rw[yG] at h;have c:=of_decide_eq_true h;refine⟨z.toNat,by omega,rfl,?_⟩;rw[dI,jO (by omega)];rfl
def MG:∀{b:Zm},mK r b=0->∀c,c∈b->c.length<=8/\qC r c:=by
 intro b;induction b with
 |nil=>intro _ c d;cases d
 |cons e b f=>
  intro h c d;rw[mK] at h;by_cases a:nE r e=0
  .rw[jB a] at h
   rcases qO.1 d with rfl|d
   .rw[nE] at a
    split at a
    .cases a
    exact⟨by omega,Pm a⟩
   exact f h c d
  rw[jC a] at h;exact jN h a
def cV{a:Zm}(h:kJ r a=0):qT r=0/\a.length<=60/\∀c,c∈a->c.length<=8/\qC r c:=by
 rw[kJ] at h;split at h
 .rename_i b
  split at h
  .cases h
  exact⟨b,by omega,MG h⟩
 rename_i b;exact jN h b
theorem Tryz.jj:Zf.underlying 213=some (.map 3 43):=by kernel_rfl
theorem Tryz.vb(w:N):(zeroValue 43).run Zf w=.ok (.agg #[.int .i64 0,.int .i64 0,Zd]) w:=by kernel_rfl
abbrev kE:=Int->Option T
def tO(p:Zp)(w:N)(g:kE)(f:Int->Option Zv):Prop:=
 ∀v:Int,(g v=none->f v=none)/\∀u,g v=some u->∃a b,f v=some (.agg #[.int .i64 u.v,.int .i64 u.f,.slice a u.e.length b])/\jT p w u.e a
def tO.mono{q:Zp}{w':N}{g:kE}{f:Int->Option Zv}(c:∀k,p k->k<w.heap.size->q k/\w'.heap[k]? =w.heap[k]?)(h:tO p w g f):tO q w' g f:=λv=>
 ⟨(h v).1,λu a=>by
   obtain⟨d,i,j,l⟩:=(h v).2 u a
   exact⟨d,i,j,nM (λb o x e a=>⟨(c b e (kA a)).1,by rw[kH (w:=w) (a:=(D b o)) (c b e (kA a)).2];exact a⟩) _ _ _ (jF _) l⟩⟩
def zK(p:Zp)(w:N)(b n:Nat)(g:kE):Prop:=p b/\∃f,kU w b n f/\tO p w g f
def zK.lt{g:kE}(h:zK p w k n g):k<w.heap.size:=by obtain⟨_,f,a,_⟩:=h;exact a.lt
def zK.mono{q:Zp}{w':N}{g:kE}(b:∀a,p a->a<w.heap.size->q a/\w'.heap[a]? =w.heap[a]?)(h:zK p w k n g):zK q w' k n g:=by
 have c:=h.lt;obtain⟨d,f,e,i⟩:=h;exact⟨(b k d c).1,f,e.same (b k d c).2,i.mono b⟩
def zK.below{g:kE}(h:zK p w k n g)(a:Zb w u):zK p u k n g:=h.mono λb c d=>⟨c,a.block b d⟩
def zK.imp{g:kE}(h:zK p w k n g)(b:∀a,p a->p1 a):zK p1 w k n g:=h.mono λa c _=>⟨b a c,rfl⟩
def pR(g:kE):Prop:=∀v u,g v=some u->u.E<=1000/\ -9223372036854775808<=v/\v<=9223372036854775807
def mJ(g o:kE):Prop:=∀v t u,g v=some t->o v=some u->t=u
def fJ(P:Prop)(e:Ending):Prop:=∃r:Bool,e=.returned (.bool r)/\(r=true↔P)
def Ao{P:Prop}(h:P):fJ P (.returned (.bool true)):=⟨true,rfl,λ_=>h,λ_=>rfl⟩
def uF{P:Prop}(h:¬P):fJ P (.returned (.bool false)):=⟨false,rfl,(λe=>(by cases e)),λa=>jN a h⟩
def Rl{g:Array Oper}{h:List Oper}{o:Oper}{d:Act}{Q:Exit->Act->N->Prop}(q:o.guard=none)(j:Operand)(r:o.op=Op.next j false)(c:DataW Zv)(left:Go.Lit->Bool){f:Int->Option Zv}
 (s:∀a:Int,Maps.has c (.int .i64 a)=(f a).isSome/\∀v,f a=some v->∀z,c.atKey (.int .i64 a) z=.held v) (t:∀a:Int,left (.int .i64 a)=true->(f a).isSome=true)
 (A:d.eval j=Zr n) (B:w.ranges Zf 3 Rv k n m c left i)
 (C:(∀a:Int,left (.int .i64 a)=false)->wpList Zf g Q h (d.put o.dst (.tuple #[.bool false])) w)
 (E:∀(x:Int)(v:Zv)(b:N)(e:Nat), -9223372036854775808<=x/\x<=9223372036854775807->f x=some v->b.ranges Zf 3 Rv k n m c (λz=>left z && !z.sameKey (.int .i64 x)) e->e<i->
   w.grownBy b (some n)->b.heap.size=w.heap.size->(Instr.entry (Zr n)).run Zf b=.ok (.tuple #[.int .i64 x,v]) b->wpList Zf g Q h (d.put o.dst (.tuple #[.bool true,.int .i64 x,v])) b):
 wpList Zf g Q (o::h) d w:=by
 refine wpList_next_ranges w q j r 3 Tryz.jq Rv (Value.int .i64) id (λl p l=>by obtain⟨x,rfl,_⟩:=Maps.keyOf_int_inv Tryz.underlying3 l;exact⟨x,rfl⟩) (λv y _=>⟨v,rfl⟩) k n m c left i A B (λ_ u=>C (λa=>u _)) ?_;intro x v p y b e l F G H I J K L M;obtain⟨W,O,rfl,P⟩:=Maps.keyOf_int_inv Tryz.underlying3 l
 cases O
 have R:=t x F;obtain⟨u,p⟩:=oF.1 R;have l:=(s x).2 u p .nil;rw[H] at l;have S:y=(.held v,[]):=by
  have:Rv v=some y:=G;rw[Rv] at this;exact(kT this).symm
 rw[S] at l;have y:v=u:=by simpa using l
 have U: -9223372036854775808<=x/\x<=9223372036854775807:=by
  have V:=P;simp[Go.Lit.wf,IntKind.min,IntKind.max,IntKind.signed,IntKind.bits] at V;omega
 exact E x v b e U (y▸p) I J K L M
def Dm(x k:Int):(Go.Lit.int .i64 k).sameKey (.int .i64 x)=(k==x):=by
 rw[eJ];simp[Go.Lit.sameKey]
def Wt(a:Zb w u):w.grownBy u none:=⟨a.os,a.tape,a.output,a.size,λk b _=>a.block k b⟩
def No{g o:kE}(a:pR g)(hg:zK p w k n g)(ho:zK p w m i o):
 Calls Zf 169 #[.map (some k),.map (some m)] w λJ y=>fJ (mJ g o) J/\Zb w y:=by
 obtain⟨_,z,⟨d,c,b⟩,e⟩:=hg;obtain⟨_,f2,f,h⟩:=ho;have A:=X b;have B:=X e;have K:=X h;have aa:=X f;have ab:=X a;clear b e h f a
 go_in
 go_wp2_with (first|(at_range;refine wpList_range_own _ rfl _ 213 rfl 3 43 Tryz.jq Tryz.jj _ k n d rfl c ?_;intro w0 e f j)|go_in)
 go_frame
 have ac:=(jW w.heap.size w).grown f (jF _) (λa b=>by cases b);have H0:Hid (∀a:Int,Maps.has d (.int .i64 a)=true->(z a).isSome=true):=λa b=>by rw[<-(A.out a).1];exact b
 go_loopw [12] (λ_ wr=>∃(left:Go.Lit->Bool)(h:Nat),Hid (wr.ranges Zf 3 Rv k w.heap.size n d left h)/\Hid (∀a:Int,left (.int .i64 a)=true->(z a).isSome=true)/\Hid (∀(a:Int)(t u:T),left (.int .i64 a)=false->g a=some t->o a=some u->t=u)/\Hid (Zb w wr)) (λ_ wr=>wr.rangeLeft k w.heap.size)
 case atStart=>exact⟨_,_,X e,H0,X (λa t u b l _=>by
  obtain⟨r,s,q,_⟩:=(B a).2 t l
  rw[(A.out a).1,q] at b;cases b),ac⟩
 case round=>
  obtain⟨left,h,L,M,O,C⟩:=hrel;clear e f j c
  go_wp2_with (first|(at_next;refine Rl rfl _ rfl d left A M rfl L ?_ ?_)|go_in)
  .intro c
   have E:=(λv t u e h=>O v t u (c v) e h);clear c;go_wp2;go_ret;exact⟨Ao E,C⟩
  intro x v j F ad ae l G P H ah ai;have c:=C.grown H C.size (λa b=>by cases b;exact jF _);obtain⟨t,f⟩:∃t,g x=some t:=by
   cases q:g x with
   |none=>rw[(B.out x).1 q] at l;cases l
   |some t=>exact⟨t,rfl⟩
  obtain⟨Q,R,S,U⟩:=(B x).2 t f;obtain rfl:v=.agg #[.int .i64 t.v,.int .i64 t.f,Zk Q t.e R]:=kT (l.symm.trans S);have af:=X (kQ (λ_ _=>trivial) (jI c U));have ag:=(ab x t f).1;have q:=λo1=>(aa.below (c.trans ((jG j o1).mono c.size))).look_ok Tryz.jj (Tryz.vb _) ad ae;have aj:=X G;have V:=X (show ∀r:N,r.ranges Zf 3 Rv k w.heap.size n d (λs=>left s && !s.sameKey (.int .i64 x)) F->r.rangeLeft k w.heap.size<wr.rangeLeft k w.heap.size from λr I=>by rw[I.left_eq,L.out.left_eq];exact P);have r:=X (λ(y:N)(s:Zb j y)=>G.kept (Wt s) (by simp) (by simp));have W:Hid (∀a:Int,(left (.int .i64 a) && !(Go.Lit.int .i64 a).sameKey (.int .i64 x))=true->(z a).isSome=true):=λa b=>M a (by rw[yY] at b;exact b.1);have s:Hid ((∀u,o x=some u->t=u)->∀(a:Int)(v u:T),(left (.int .i64 a) && !(Go.Lit.int .i64 a).sameKey (.int .i64 x))=false->g a=some v->o a=some u->v=u):=by
   intro h9 a v u b e h;rw[Dm] at b;by_cases Z:a=x
   .subst Z
    rw[f] at e;obtain rfl:=kT e;exact h9 u h
   have:(a==x)=false:=by simpa using Z
   rw[this] at b;exact O a v u (by simpa using b) e h
  have h:=X f;have Z:=X H;clear G P H l S U f
  cases a:o x with
  |none=>
   rw[(K.out x).1 a] at q;have e:=X (s (λu b=>by rw[a] at b;cases b));clear a s;simp only[Et,rH] at q
   go_wp2_with fail
   go_roundw
   case rel=>exact⟨_,F,X (r _ (kF _ _ _)),W,e,X (c.trans ((kF _ _ _).mono c.size))⟩
   case measure=>exact V _ (r _ (kF _ _ _))
  |some u=>
   obtain⟨l,v,b,e⟩:=(K x).2 u a;rw[b] at q;have G:=X (kQ (λ_ _=>trivial) (jI c e));have HS:=X (λo1 o2=>iP t.E t u Q R l v ((j.alloc o1).alloc o2) (jF _) ag (jS o2 (jS o1 af)) (jS o2 (jS o1 G)));simp only[wK,wL] at q;have f:=X a;clear a b e
   go_wp2_with fail
   refine(HS _ _).mono ?_;rintro J P ⟨rfl,a⟩;have b:=X ((kF j _ _).trans (a.mono (by simp;omega)));clear a HS;by_cases a:kS t u=true
   .have H:=X (s (λe e=>by rw[f.out] at e;obtain rfl:=kT e;exact nI.1 a))
    rw[a];clear a s
    go_wp2_with fail
    go_roundw
    case rel=>exact⟨_,F,X (r _ b),W,H,X (c.trans (b.mono c.size))⟩
    case measure=>exact V _ (r _ b)
   have e:kS t u=false:=(by simpa using a);have E:Hid (¬mJ g o):=(λI=>a (nI.2 (I x t u h f)));rw[e];clear a e;go_wp2;go_ret;exact⟨uF E,c.trans (b.mono c.size)⟩
def Cov:T->T->Prop
 |⟨v,f,c⟩,t=>v≠0\/(t.v=0/\f=t.f/\CovL c t.e)
 where
 CovL:Zt->Zt->Prop
 |[],a=>a=[]
 |p::d,a=>∃t b,a=t::b/\Cov p t/\CovL d b
def rB(p t:T):Cov p t↔(p.v≠0\/(t.v=0/\p.f=t.f/\Cov.CovL p.e t.e)):=by cases p;rw[Cov]
def Gy:∀(a b:Zt),Cov.CovL a b↔(a.length=b.length/\∀(i:Nat)(p u:T),a[i]? =some p->b[i]? =some u->Cov p u):=by
 intro a;induction a with
 |nil=>
  intro b;rw[Cov.CovL];constructor
  .rintro rfl;exact⟨rfl,λi p u h=>by simp at h⟩
  rintro⟨h,_⟩;exact yM.1 h.symm
 |cons p a h=>
  intro b;rw[Cov.CovL];constructor
  .rintro⟨t,e,rfl,f,g⟩
   obtain⟨j,k⟩:=(h e).1 g;refine⟨by simp[j],λi q u c d=>?_⟩
   cases i with
   |zero=>
    rw[vP] at c d;obtain rfl:=kT c;obtain rfl:=kT d;exact f
   |succ i=>exact k i q u (by simpa using c) (by simpa using d)
  rintro⟨f,g⟩
  cases b with
  |nil=>simp at f
  |cons t e=>exact⟨t,e,rfl,g 0 p t rfl rfl,(h e).2 ⟨by simpa using f,λi q u c d=>g (i+1) q u (by simpa using c) (by simpa using d)⟩⟩
def NJ{d:Int->T}:∀(n:Nat)(p:T),p.E<=n->jQ r p->Cov p (sub d p):=by
 intro n;induction n with
 |zero=>intro p h;have:=p.I;omega
 |succ n e=>
  intro p h f;by_cases a:p.v=0
  .rw[rB,mA a]
   refine jE ⟨rfl,rfl,(Gy _ _).2 ⟨by simp,λi q u b c=>?_⟩⟩;simp only[bZ,b,cO,qW] at c;rw[<-c];have c:=jU b;exact e q (by have:=xJ c;omega) (xF f c)
  rw[rB];exact jD a
def PV(r:Nat)(c:∀(t u:T)(d:Zo)(m:Nat)(e:Zo)(n:Nat)(w:N),t.E<=r->InL w t.e d->InL w u.e e->
 Calls Zf 146 #[.agg (Zj t d m),.agg (Zj u e n)] w λf o=>fJ (Cov t u) f/\Zb w o)
 (a b:Zt) (d:Zo) (m:Nat) (e:Zo) (n:Nat) (w:N) (W:T.E.szL a<=r) (Z:T.E.szL a<=1000) (s:InL w a d) (v:InL w b e):
 Calls Zf 128 #[.slice d a.length m,.slice e b.length n,.func (.func 146) #[] #[]] w λf o=>fJ (Cov.CovL a b) f/\Zb w o:=by
 have E:=X c;clear c;by_cases g:a.length=b.length
 .have F:((a.length:Int) !=b.length)=false:=by simp;omega
  have x:=X g;clear g
  go_in
  go_wp2
  go_loopw [17] (λi wr=>∃k:Nat,k<=a.length/\i=Y k/\Hid (∀(i:Nat)(p u:T),i<k->a[i]? =some p->b[i]? =some u->Cov p u)/\Zb w wr) (λi _=>a.length - (intOf i).toNat)
  case atStart=>exact⟨0,jY _,rfl,X (λi p u h=>by omega),jW _ _⟩
  case round=>
   obtain⟨k,hk,rfl,y,c⟩:=hrel;by_cases G:k<a.length
   .have H:k<b.length:=by have:=x.out;omega
    obtain⟨aa,ab,rfl⟩:=dV s (by omega);obtain⟨b2,ac,rfl⟩:=dV v (by omega);obtain⟨z,j⟩:=Zg G;obtain⟨A,q⟩:=Zg H;obtain⟨I,J,_,K,k1,k2,B⟩:=dT (jI c s) j;obtain⟨L,M,_,O,m1,m2,C⟩:=dT (jI c v) q;have ad:=T.W (jU j);have ae:k<=1000:=(by have:=T.length_le a;omega);have af:(k:Int)<a.length:=(by omega);have ag:(k:Int)<b.length:=(by omega);have ah:(0:Int)<=k:=(by omega);have ai:=kA K;have aj:=kA O;have P:=X (λo1 o2=>E z A I J L M ((wr.alloc o1).alloc o2) (by omega) (jS o2 (jS o1 B)) (jS o2 (jS o1 C)));have Q:=X c;have R:=c.size;have l:=X (jM j q);clear j q B C c
    go_wp2_with fail
    refine(P _ _).mono ?_;rintro f w3 ⟨⟨S,rfl,j⟩,q⟩;have B:=X (Q.trans (((kF wr _ _).trans (q.mono (by simp;omega))).mono R));have C:=X j;clear q j
    cases S with
    |true=>
     have U:Hid (∀(i:Nat)(p u:T),i<k+1->a[i]? =some p->b[i]? =some u->Cov p u):=by
      intro i p u hi j q;by_cases V:i=k
      .subst V
       rw[l.out.1] at j;rw[l.out.2] at q;obtain rfl:=kT j;obtain rfl:=kT q;exact C.1 rfl
      exact y i p u (by omega) j q
     go_wp2_with fail
     go_roundw
     case rel=>exact⟨k+1,by omega,by go_num,U,B⟩
     case measure=>simp[intOf];omega
    |false=>
     have j:Hid (¬Cov.CovL a b):=λh=>by
      have q:=((Gy a b).1 h).2 k z A l.1 l.2;exact jN (C.2 q) (by simp)
     go_wp2;go_ret;exact⟨uF j,B⟩
   have q:k=a.length:=(by omega);subst q;have k:=(Gy a b).2 ⟨x,λi p u j U=>y i p u (Zl j) j U⟩;go_wp2;go_ret;exact⟨Ao k,c⟩
 have c:=λh=>g ((Gy a b).1 h).1;have F:((a.length:Int) !=b.length)=true:=by simp;omega
 clear g
 go_in
 go_wp2;go_ret;exact⟨uF c,jW _ _⟩
def Fl(g:Nat):∀(t u:T)(d:Zo)(h:Nat)(e:Zo)(i:Nat)(w:N),t.E<=g->t.E<=1000->InL w t.e d->InL w u.e e->
 Calls Zf 146 #[.agg (Zj t d h),.agg (Zj u e i)] w λl j=>fJ (Cov t u) l/\Zb w j:=by
 induction g with
 |zero=>intro t u d h e i w n;have:=t.I;omega
 |succ g f=>
  intro t u d h e i w n C o p;have E:=T.M t;by_cases a:t.v=0
  .have q:(t.v !=0)=false:=by simpa using a
   by_cases b:u.v=0
   .have r:(u.v==0)=true:=by simpa using b
    by_cases c:t.f=u.f
    .have s:=X (λo1 o2=>PV (min g 1000) (λk m v x y z j A A B=>f k m v x y z j (by omega) (by omega) A B) t.e u.e d h e i ((w.alloc o1).alloc o2) (by omega) (by omega) (jS o2 (jS o1 o)) (jS o2 (jS o1 p)))
     have v:(t.f==u.f)=true:=(by simpa using c);have x:Hid (Cov t u↔Cov.CovL t.e u.e):=by
      show _↔_;rw[rB];exact⟨λk=>(k.resolve_left (by simpa using a)).2.2,λk=>jE ⟨b,c,k⟩⟩
     clear a b c f
     go_in
     go_wp2_with fail
     refine(s _ _).mono ?_;rintro l B ⟨⟨y,rfl,k⟩,m⟩;have z:=X ((kF w _ _).trans (m.mono (by simp;omega)));have A:=X k;clear m k;go_wp2;go_ret;exact⟨⟨y,rfl,A.trans x.symm⟩,z⟩
    have v:(t.f==u.f)=false:=(by simpa using c);have k:Hid (¬Cov t u):=by
     show ¬_;rw[rB];exact λm=>c (m.resolve_left (by simpa using a)).2.1
    clear a b c f
    go_in
    go_wp2;go_ret;exact⟨uF k,kF _ _ _⟩
   have r:(u.v==0)=false:=(by simpa using b);have c:Hid (¬Cov t u):=by
    show ¬_;rw[rB];exact λk=>b (k.resolve_left (by simpa using a)).1
   clear a b f
   go_in
   go_wp2;go_ret;exact⟨uF c,kF _ _ _⟩
  have q:(t.v !=0)=true:=by simpa using a
  have b:Hid (Cov t u):=by show Cov _ _;rw[rB];exact jD a
  clear a f
  go_in
  go_wp2;go_ret;exact⟨Ao b,kF _ _ _⟩
def fM:T->T->Bool
 |⟨v,f,b⟩,u=>v !=0||(u.v !=0||(f==u.f && alikeL b u.e))
 where
 alikeL:Zt->Zt->Bool
  |[],a=>a.isEmpty
  |c::d,a=>match a with
   |[]=>false
   |e::g=>fM c e && alikeL d g
def JD(t u:T):fM t u=(t.v !=0||(u.v !=0||(t.f==u.f && fM.alikeL t.e u.e))):=by cases t;rw[fM]
structure gO where
 n:Nat
 tu:Bool
 yes:Bool
 first:T
def yK:Zc->Nat->List gO
 |[],_=>[]
 |x::c,n=>⟨n,false,x.1,x.2.1⟩::⟨n,true,x.1,x.2.2⟩::yK c (n+1)
def Cf(c:Zc)(w:gO):Bool:=(c.take w.n).any (λl=>lP l (vR c (w.n:Int)))
def dE(c:Zc):List gO:=(yK c 0).filter (λw=> !Cf c w)
def fF(c:Zc)(s:gO):List jX:=
 (if !s.yes && !s.tu then [⟨1,0,0,(s.n:Int),0,false,false,[]⟩] else [])++
   (yK c 0).filterMap (λu=>if s.yes && (u.yes && (s.n !=u.n && fM s.first u.first)) then some ⟨2,0,0,(s.n:Int),(u.n:Int),s.tu,u.tu,[]⟩ else none)
def aW(c:Zc):List jX:=(dE c).flatMap (fF c)
def mM(c d:Zc):Bool:=decide (1000<xK c 0+xK d 0)
def aH(a:Bool)(l u:gO)(p:Zn×T):Option jX:=if p.2.v==0 && (a||fM l.first p.2) then some ⟨3,0,1,(l.n:Int),(u.n:Int),l.tu,u.tu,p.1⟩ else none
def Ds(a:Bool)(l u:gO):List jX:=(zR u.first []).filterMap (aH a l u)
def iQ(c d:Zc):List jX:=(dE c).flatMap (λl=>(dE d).flatMap (λu=>if l.yes then Ds (mM c d) l u else []))
def bV:Zm->List jX
 |[]=>[]
 |[c]=>aW c
 |c::d::_=>iQ c d
structure vM where
 cl:Zc
 wt:Int
 ja:jX
 is:Int
structure St where
 h:List vM
 Z:Int
 work:Int
 last:jX
 found:Bool
def kZ:jX:=⟨0,0,0,0,0,false,false,[]⟩
abbrev qI(z:Int):Int:=IntKind.i64.wrap z
def zC:T->T->Bool
 |⟨v,f,b⟩,t=>v !=0||(t.v==0 && (f==t.f && covLs b t.e))
 where
 covLs:Zt->Zt->Bool
  |[],a=>a.isEmpty
  |p::c,a=>match a with
   |[]=>false
   |t::d=>zC p t && covLs c d
def NF(p t:T):zC p t=(p.v !=0||(t.v==0 && (p.f==t.f && zC.covLs p.e t.e))):=by cases p;rw[zC]
def NI:∀(a b:Zt),(∀p,p∈a->∀t,zC p t=true↔Cov p t)->(zC.covLs a b=true↔Cov.CovL a b):=by
 intro a;induction a with
 |nil=>intro b _;rw[zC.covLs,Cov.CovL,List.isEmpty_iff]
 |cons p a f=>
  intro b h;rw[Cov.CovL]
  cases b with
  |nil=>simp[zC.covLs]
  |cons t e=>
   rw[zC.covLs];simp only[yY,h p (by simp) t,f e (λq g=>h q (vG _ g))];exact⟨λ⟨c,d⟩=>⟨t,e,rfl,c,d⟩,λ⟨l,m,i,c,d⟩=>by injection i with j k;subst j k;exact⟨c,d⟩⟩
def NG:∀(n:Nat)(p t:T),p.E<=n->(zC p t=true↔Cov p t):=by
 intro n;induction n with
 |zero=>intro p t h;have:=p.I;omega
 |succ n a=>
  intro p t h;rw[NF,rB,Gx,yY,yY,NI p.e t.e (λq b u=>a q u (by have:=xJ b;omega))];simp
def Ve(p t:T):zC p t=true↔Cov p t:=NG p.E p t (jF _)
def Vh(h:B=true↔Cov t s):B=zC t s:=by
 have:=h.trans (Ve t s).symm
 cases B<;>cases a:zC t s<;>simp_all
def gU(d:Zc->Zs->Int->Bool×Int)(x:Lit)(e:Zc)(f:Zs)(n:Nat)(b c:T)(a:Int):Bool×Int:=
 if qI (a - 1)<=0 then(false,qI (a - 1)) else if zC x.2.1 b=false then(false,qI (a - 1)) else if zC x.2.2 c=false then(false,qI (a - 1)) else
 match kG x.2.1 b f with
 |none=>(false,qI (a - 1))
 |some g=>match kG x.2.2 c g with
  |none=>(false,qI (a - 1))
  |some h=>d (e.eraseIdx n) h (qI (a - 1))
def fQ(a:Zc->Zs->Int->Bool×Int)(x:Lit)(d:Zc)(b:Zs):Nat->Zc->Int->Bool×Int
 |_,[],c=>(false,c)
 |n,k::e,c=>
  if k.1==x.1 then
   (if (gU a x d b n k.2.1 k.2.2 c).1 then(true,(gU a x d b n k.2.1 k.2.2 c).2) else
    if (gU a x d b n k.2.2 k.2.1 (gU a x d b n k.2.1 k.2.2 c).2).1 then(true,(gU a x d b n k.2.2 k.2.1 (gU a x d b n k.2.1 k.2.2 c).2).2) else
    fQ a x d b (n+1) e (gU a x d b n k.2.2 k.2.1 (gU a x d b n k.2.1 k.2.2 c).2).2)
  else fQ a x d b (n+1) e c
def yF:Zc->Zc->Zs->Int->Bool×Int
 |[],_,_,a=>(true,a)
 |x::c,d,b,a=>fQ (yF c) x d b 0 d a
def nJ(x:Zc):List vM->Int->Bool×Int
 |[],a=>(false,a)
 |y::b,a=>if y.is !=2 then(if (yF y.cl x [] a).1 then(true,(yF y.cl x [] a).2) else nJ x b (yF y.cl x [] a).2) else nJ x b a
def dR(b:Zn)(x:Zc)(l:List vM)(a:Int):Bool×Int:=if (wP b x).1 then(true,a) else nJ x l a
def vK(x:vM):List vM->Int->List vM×Int
 |[],a=>([],a)
 |y::b,a=>
  if x.is !=2 && y.is !=2 then((if (yF x.cl y.cl [] a).1 then {y with is:=2} else y)::(vK x b (yF x.cl y.cl [] a).2).1,(vK x b (yF x.cl y.cl [] a).2).2)
  else(y::(vK x b a).1,(vK x b a).2)
def sS(s:St)(x:vM):St:={s with h:=(vK x s.h s.work).1++[x],work:=(vK x s.h s.work).2}
def tI(a:Zn)(t:T):Int:=if kI a [t]=0 then min (t.E:Int) 121 else 0
def mC(a:Zn):Zc->Int->Int
 |[],z=>z
 |x::c,z=>mC a c (qI (z+qI (tI a x.2.1+tI a x.2.2)))
def qN(a:Zn)(c:Zc):Zc:=if (fZ a c).1.length=c.length then(fZ a c).1 else c
def pY(a:Zn)(c:Zc)(i:jX):vM:=⟨c,mC a c 0,i,0⟩
def mN(a:Zn)(s:St)(c:Zc):St:=
 let x:=pY a (qN a c) kZ;let r:=dR a x.cl s.h s.work;let s2:=sS {s with work:=r.2} (if r.1 then {x with is:=2} else x);{s2 with Z:=qI (s2.Z+1)}
def Af(a:Zn)(s:St)(c:Zc)(i:jX):St:=
 let x:=pY a c i;let r:=dR a c s.h (qI (s.work - x.wt))
 if r.1 then {s with work:=r.2} else sS {s with work:=r.2} x
def oK(a:Zn)(s:St)(i:jX)(c:Zc):St:=if c.length=0 then {s with last:=i,found:=true} else Af a s c i
def zQ(s:St):Bool:=s.found||decide (s.work<=0)
def eC(a:Zn)(i:jX):jX:={i with left:=a.getD i.left.toNat 0,right:=if i.L=3 then a.getD i.right.toNat 0 else i.right}
def fP(b:Zn)(a:Int)(c:Zn)(s:St)(i:jX)(r:Zc×Int):St:=
 if r.2=0 then oK b {s with work:=qI (s.work - a)} (eC c i) r.1 else {s with work:=qI (s.work - a)}
def pA(a:Zn)(b:Zm)(c:Int)(d:Zn):List jX->St->St
 |[],s=>s
 |i::e,s=>if zQ (fP a c d s i (qX a b i)) then fP a c d s i (qX a b i) else pA a b c d e (fP a c d s i (qX a b i))
def cZ(s:St)(n:Int):vM:=s.h.getD n.toNat ⟨[],0,kZ,0⟩
def gT(s:St):Zn->Option (Zm×Int)
 |[]=>some ([],0)
 |n::a=>if zQ s||(cZ s n).is !=1 then none else match gT s a with
  |none=>none
  |some (b,c)=>some ((cZ s n).cl::b,c+(cZ s n).wt)
def bW(d:Zn)(s:St)(b:Zn):St:=match gT s b with
 |none=>s
 |some (a,c)=>pA d a c b (bV a) {s with work:=qI (s.work - qI (c*((a.headD []).length:Int)))}
def nW(a:Zn)(n:Int):Nat->Int->St->St
 |0,_,s=>s
 |k+1,m,s=>nW a n k (m+1) (if m !=n then bW a (bW a s [n,m]) [m,n] else bW a s [n,m])
def setIs(s:St)(n:Int)(z:Int):St:={s with h:=s.h.modify n.toNat (λy=>{y with is:=z})}
def pX(l:List vM):Nat->List vM->Int->Int
 |_,[],m=>m
 |n,x::a,m=>pX l (n+1) a (if x.is==0 && (decide (m<0)||decide (x.wt<(l.getD m.toNat ⟨[],0,kZ,0⟩).wt)) then(n:Int) else m)
def lX(s:St):Int:=pX s.h 0 s.h (-1)
structure yL where
 J:Int
 O:List jX
 set:Zm
def pH(s:St):Zm:=(s.h.filter (λx=>x.is==1)).map (λx=>x.cl)
def yW(i:jX):Zn:=if i.L=3 then [i.left,i.right] else [i.left]
def mQ:St:=⟨[],0,262144,kZ,false⟩
def bO(t u:T):Prop:=fM t u=true
def bO.jk(a b:Zt):Prop:=fM.alikeL a b=true
def Gp(p t:T):bO p t↔(p.v≠0\/(t.v≠0\/(p.f=t.f/\bO.jk p.e t.e))):=by
 unfold bO bO.jk;rw[JD];simp
def Lx:∀(a b:Zt),bO.jk a b↔(a.length=b.length/\∀(i:Nat)(p u:T),a[i]? =some p->b[i]? =some u->bO p u):=by
 intro a;induction a with
 |nil=>
  intro b;unfold bO.jk;rw[fM.alikeL]
  cases b with
  |nil=>simp
  |cons u b=>simp
 |cons p a h=>
  intro b
  cases b with
  |nil=>unfold bO.jk;rw[fM.alikeL];simp
  |cons t e=>
   have j:bO.jk (p::a) (t::e)↔(bO p t/\bO.jk a e):=by
    unfold bO.jk bO;rw[fM.alikeL];simp
   rw[j,h e];constructor
   .rintro⟨f,k,l⟩
    refine⟨by simp[k],λi q u c d=>?_⟩
    cases i with
    |zero=>
     rw[vP] at c d;obtain rfl:=kT c;obtain rfl:=kT d;exact f
    |succ i=>exact l i q u (by simpa using c) (by simpa using d)
   rintro⟨f,g⟩;exact⟨g 0 p t rfl rfl,by simpa using f,λi q u c d=>g (i+1) q u (by simpa using c) (by simpa using d)⟩
theorem jFj(a:Zy)(w:N):(callFunc 139 a).run Zf w=.ok (.enter 139 a) w:=by kernel_rfl
def PR(r:Nat)(c:∀(t u:T)(d:Zo)(m:Nat)(e:Zo)(n:Nat)(w:N),t.E<=r->InL w t.e d->InL w u.e e->
 Calls Zf 139 #[.agg (Zj t d m),.agg (Zj u e n)] w λf o=>fJ (bO t u) f/\Zb w o)
 (a b:Zt) (d:Zo) (m:Nat) (e:Zo) (n:Nat) (w:N) (W:T.E.szL a<=r) (Z:T.E.szL a<=1000) (s:InL w a d) (v:InL w b e):
 Calls Zf 128 #[.slice d a.length m,.slice e b.length n,.func (.func 139) #[] #[]] w λf o=>fJ (bO.jk a b) f/\Zb w o:=by
 have E:=X c;clear c;by_cases g:a.length=b.length
 .have F:((a.length:Int) !=b.length)=false:=by simp;omega
  have x:=X g;clear g
  go_in
  go_wp2
  go_loopw [17] (λi wr=>∃k:Nat,k<=a.length/\i=Y k/\Hid (∀(i:Nat)(p u:T),i<k->a[i]? =some p->b[i]? =some u->bO p u)/\Zb w wr) (λi _=>a.length - (intOf i).toNat)
  case atStart=>exact⟨0,jY _,rfl,X (λi p u h=>by omega),jW _ _⟩
  case round=>
   obtain⟨k,hk,rfl,y,c⟩:=hrel;by_cases G:k<a.length
   .have H:k<b.length:=by have:=x.out;omega
    obtain⟨aa,ab,rfl⟩:=dV s (by omega);obtain⟨b2,ac,rfl⟩:=dV v (by omega);obtain⟨z,j⟩:=Zg G;obtain⟨A,q⟩:=Zg H;obtain⟨I,J,_,K,k1,k2,B⟩:=dT (jI c s) j;obtain⟨L,M,_,O,m1,m2,C⟩:=dT (jI c v) q;have ad:=T.W (jU j);have ae:k<=1000:=(by have:=T.length_le a;omega);have af:(k:Int)<a.length:=(by omega);have ag:(k:Int)<b.length:=(by omega);have ah:(0:Int)<=k:=(by omega);have ai:=kA K;have aj:=kA O;have P:=X (λo1 o2=>E z A I J L M ((wr.alloc o1).alloc o2) (by omega) (jS o2 (jS o1 B)) (jS o2 (jS o1 C)));have Q:=X c;have R:=c.size;have l:=X (jM j q);clear j q B C c
    go_wp2_with fail
    refine(P _ _).mono ?_;rintro f w3 ⟨⟨S,rfl,j⟩,q⟩;have B:=X (Q.trans (((kF wr _ _).trans (q.mono (by simp;omega))).mono R));have C:=X j;clear q j
    cases S with
    |true=>
     have U:Hid (∀(i:Nat)(p u:T),i<k+1->a[i]? =some p->b[i]? =some u->bO p u):=by
      intro i p u hi j q;by_cases V:i=k
      .subst V
       rw[l.out.1] at j;rw[l.out.2] at q;obtain rfl:=kT j;obtain rfl:=kT q;exact C.1 rfl
      exact y i p u (by omega) j q
     go_wp2_with fail
     go_roundw
     case rel=>exact⟨k+1,by omega,by go_num,U,B⟩
     case measure=>simp[intOf];omega
    |false=>
     have j:Hid (¬bO.jk a b):=λh=>by
      have q:=((Lx a b).1 h).2 k z A l.1 l.2;exact jN (C.2 q) (by simp)
     go_wp2;go_ret;exact⟨uF j,B⟩
   have q:k=a.length:=(by omega);subst q;have k:=(Lx a b).2 ⟨x,λi p u j U=>y i p u (Zl j) j U⟩;go_wp2;go_ret;exact⟨Ao k,c⟩
 have c:=λh=>g ((Lx a b).1 h).1;have F:((a.length:Int) !=b.length)=true:=by simp;omega
 clear g
 go_in
 go_wp2;go_ret;exact⟨uF c,jW _ _⟩
def Tu(g:Nat):∀(t u:T)(d:Zo)(h:Nat)(e:Zo)(i:Nat)(w:N),t.E<=g->t.E<=1000->InL w t.e d->InL w u.e e->
 Calls Zf 139 #[.agg (Zj t d h),.agg (Zj u e i)] w λl j=>fJ (bO t u) l/\Zb w j:=by
 induction g with
 |zero=>intro t u d h e i w n;have:=t.I;omega
 |succ g f=>
  intro t u d h e i w n C o p;have E:=T.M t;by_cases a:t.v=0
  .have q:(t.v !=0)=false:=by simpa using a
   by_cases b:u.v=0
   .have r:(u.v !=0)=false:=by simpa using b
    by_cases c:t.f=u.f
    .have s:=X (λo1 o2=>PR (min g 1000) (λk m v x y z j A A B=>f k m v x y z j (by omega) (by omega) A B) t.e u.e d h e i ((w.alloc o1).alloc o2) (by omega) (by omega) (jS o2 (jS o1 o)) (jS o2 (jS o1 p)))
     have v:(t.f==u.f)=true:=(by simpa using c);have x:Hid (bO t u↔bO.jk t.e u.e):=by
      show _↔_;rw[Gp];exact⟨λk=>((k.resolve_left (by simpa using a)).resolve_left (by simpa using b)).2,λk=>jE (jE ⟨c,k⟩)⟩
     clear a b c f
     go_in
     go_wp2_with fail
     refine(s _ _).mono ?_;rintro l B ⟨⟨y,rfl,k⟩,m⟩;have z:=X ((kF w _ _).trans (m.mono (by simp;omega)));have A:=X k;clear m k;go_wp2;go_ret;exact⟨⟨y,rfl,A.trans x.symm⟩,z⟩
    have v:(t.f==u.f)=false:=(by simpa using c);have k:Hid (¬bO t u):=by
     show ¬_;rw[Gp];exact λm=>c ((m.resolve_left (by simpa using a)).resolve_left (by simpa using b)).1
    clear a b c f
    go_in
    go_wp2;go_ret;exact⟨uF k,kF _ _ _⟩
   have r:(u.v !=0)=true:=(by simpa using b);have c:Hid (bO t u):=by
    show bO _ _;rw[Gp];exact jE (jD b)
   clear a b f
   go_in
   go_wp2;go_ret;exact⟨Ao c,kF _ _ _⟩
  have q:(t.v !=0)=true:=by simpa using a
  have b:Hid (bO t u):=by show bO _ _;rw[Gp];exact jD a
  clear a f
  go_in
  go_wp2;go_ret;exact⟨Ao b,kF _ _ _⟩
structure qJ where
 w:gO
 fa:Zo
 fc:Nat
def lC(e:qJ):Zu:=[Y (e.w.n:Int),.bool e.w.tu,.bool e.w.yes,Y e.w.first.v,Y e.w.first.f,.slice e.fa e.w.first.e.length e.fc]
abbrev Rh(e:qJ):Zv:=.agg #[Y (e.w.n:Int),.bool e.w.tu,.bool e.w.yes,Y e.w.first.v,Y e.w.first.f,.slice e.fa e.w.first.e.length e.fc]
theorem eI(e:qJ):(lC e).length=6:=rfl
def DT(a:List qJ):(a.flatMap lC).length=a.length*6:=by
 induction a with
 |nil=>rfl
 |cons e a b=>rw[Mr,qB,b,eI,xI];omega
def jFv(b:List qJ):∀u,u∈b.flatMap lC->u.oneCell'=true:=by
 intro u c;obtain⟨e,_,a⟩:=Bl.1 c;simp only[lC,qO,sL,or_false] at a;rcases a with rfl|rfl|rfl|rfl|rfl|rfl<;>rfl
def DS:∀{a:List qJ}{k:Nat}{e:qJ}(j:Nat),a[k]? =some e->j<6->(a.flatMap lC)[k*6+j]? =(lC e)[j]?:=by
 intro a;induction a with
 |nil=>intro k e j h;simp at h
 |cons x a c=>
  intro k e j h b;rw[Mr]
  cases k with
  |zero=>
   simp only[vP,qW] at h;subst h;rw[Iv,kK,mY (by rw[eI];exact b)]
  |succ k=>
   rw[nO (by rw[eI];omega),eI,show(k+1)*6+j - 6=k*6+j by omega];exact c j (by simpa using h) b
def LI(a:k=w.heap.size):∀(j:Nat)(u:Zv),U[j]? =some u->(w.alloc (.cells U.toArray g)).cell? (((D k 0):Addr).add j)=some u:=by
 intro j u b;rw[show((D k 0):Addr).add j=(D k j) by unfold Addr.add;split<;>simp_all,jJ j a];simpa using b
theorem Tryz.info188:(Zf.info? 188).map (λi=>(i.zero,i.size,i.bytes))=some (some (.agg #[Y 0,.bool false,.bool false,Y 0,Y 0,Zd]),6,56):=by kernel_rfl
def jE0{x:Lit}(a:c[k]? =some x)(n:Nat):yK (c.drop k) n=⟨n,false,x.1,x.2.1⟩::⟨n,true,x.1,x.2.2⟩::yK (c.drop (k+1)) (n+1):=by
 have b:=(Zl a);rw[pN b,yK,(jZ.1 a).2]
def Dw:∀(c:Zc)(n:Nat),(yK c n).length=2*c.length:=by
 intro c;induction c with
 |nil=>intro n;rfl
 |cons x c a=>intro n;rw[yK,xI,xI,a,xI];omega
def Au(k:Nat)(x:Lit)(a:Zo)(b:Nat)(c:Zo)(d:Nat):List qJ:=[⟨⟨k,false,x.1,x.2.1⟩,a,b⟩,⟨⟨k,true,x.1,x.2.2⟩,c,d⟩]
def Ti(q:Zp)(b:Nat)(w:N)(v:Zv)(a:List qJ):Prop:=w.ownsRow b 188 6 v a.length (a.flatMap lC)/\∀e,e∈a->jT q w e.w.first.e e.fa
def DU(O:Nat)(hl:c.length<=1000)(y:qA p w c a):
 Calls Zf 138 #[.slice a c.length O] w λe z=>∃A b,e=.returned A/\b.map qJ.w=yK c 0/\Ti p w.heap.size z A b/\Zb w z:=by
 obtain⟨P,Q,B⟩:=bQ.1 Tryz.info188;simp only[bG] at B;obtain⟨R,S,U⟩:=B;have C:=X y;clear y
 go_in
 go_wp2
 go_loopw [3,8] (λE o wr=>∃(k:Nat)(b:List qJ),k<=c.length/\o=Y k/\b.length=2*k/\Hid (b.map qJ.w++yK (c.drop k) k=yK c 0)/\Hid (∀e,e∈b->jT p w e.w.first.e e.fa)/\wr.ownsRow w.heap.size 188 6 E b.length (b.flatMap lC)/\yS w wr none E.ownBlock) (λ_ o _=>c.length - (intOf o).toNat)
 case atStart=>exact⟨0,[],jY _,rfl,rfl,X (by rw[uU];rfl),X (λe f=>by cases f),⟨rfl,jD ⟨rfl,rfl⟩⟩,yS.refl _ _⟩
 case round=>
  obtain⟨k,b,hk,rfl,F,n,q,r,s⟩:=hrel;have d:=X (s.below (jF _) (λg t=>by cases t));have an:=d.size;have u:=X r;have V:=X s;obtain⟨W,Z,aa⟩:=zF r;subst aa;have ao:b.length<=2000:=by omega
  have ab:=X F;clear r s F;by_cases ac:k<c.length
  .obtain⟨x,v⟩:=Zg ac
   obtain⟨ap,aq,rfl⟩:=zN (dA C) (by omega);obtain⟨i,j,l,m,ar,G,H,I,J,K,L,M,i1,i2⟩:=uZ C v;have k0:=jP d G;have k1:=jP d H;have k2:=jP d I;have k3:=jP d J;have k4:=jP d K;have k5:=jP d L;have k6:=jP d M;have au:(k:Int)<c.length:=(by omega);have av:(0:Int)<=k:=(by omega);have ad:Hid ((b++Au k x i j l m).map qJ.w++yK (c.drop (k+1)) (k+1)=yK c 0):=X (by rw[<-n.out,jE0 v];simp[Au])
   have ae:Hid (∀e,e∈b++Au k x i j l m->jT p w e.w.first.e e.fa):=X (λe f=>by
    rcases vD.1 f with h|h
    .exact q e h
    simp only[Au,qO,sL,or_false] at h;rcases h with rfl|rfl
    .exact i1
    exact i2)
   have HO:=X (λo1 o2=>vT u (λg t=>(kF wr o1 o2).block g (kO u g t).2));clear v G H I J K L M i1 i2 n q
   go_wp2_with (at_builtin
                go_must (refine wpList_append_lies _ rfl (.tmp 13) (.tmp 26) 185 rfl w.heap.size 188 P (.agg #[Y 0,.bool false,.bool false,Y 0,Y 0,Zd]) 6 56 Go.Proofs.Tryz.underlying185 Q R S U rfl (by decide) (Zk W b Z) b.length (b.flatMap lC) rfl (HO _ _) (D (wr.heap.size+1) 0) 2 2 [Y (k:Int),.bool false,.bool x.1,Y x.2.1.v,Y x.2.1.f,Zk i x.2.1.e j,Y (k:Int),.bool true,.bool x.1,Y x.2.2.v,Y x.2.2.f,Zk l x.2.2.e m] rfl rfl (LI (by simp)) (by simp[Value.oneCell']) (by decide) (by unfold maxLen;omega) (by omega) (by simp;omega) _ rfl ?_)
                intro g af w3 ag ah ai aw)
   have aj:w3.ownsRow w.heap.size 188 6 (Zx g (b.length+2) af) (b++Au k x i j l m).length ((b++Au k x i j l m).flatMap lC):=by
    rw[Mq,qB];exact ag
   have ak:=V.trans ((yS.A _ (kF _ _ _)).trans ⟨ah,by
    rcases ai with h|h
    .exact jD h.symm
    exact jE ⟨g,rfl,by rw[h];simp⟩⟩)
   go_roundw
   case rel=>exact⟨k+1,_,by omega,by go_num,by have:=ab.out;simp[Au];omega,ad,ae,aj,ak⟩
   case measure=>simp[intOf];omega
  have al:k=c.length:=by omega
  subst al;have am:Hid (b.map qJ.w=yK c 0):=X (by have h:=n.out;rw[dX,yK,zU] at h;exact h);clear n;go_wp2;go_ret;exact⟨_,b,rfl,am,⟨u,λe f=>jI d (q e f)⟩,d⟩
def CA(k l:Lit)(b:Zo)(f:Nat)(c:Zo)(g:Nat)(d:Zo)(h:Nat)(e:Zo)(i:Nat)(w:N)(o:xO k)(i1:InL w k.2.1.e b)(i2:InL w k.2.2.e c)(p:InL w l.2.1.e d)(q:InL w l.2.2.e e):
 Calls Zf 102 #[lM k b f c g,lM l d h e i] w λr v=>r=.returned (.bool (lP k l))/\Zb w v:=by
 obtain⟨s,j⟩:=Ze ((w.alloc (.cells #[.bool k.1,Y k.2.1.v,Y k.2.1.f,Zk b k.2.1.e f,Y k.2.2.v,Y k.2.2.f,Zk c k.2.2.e g] 47)).alloc (.cells #[.bool l.1,Y l.2.1.v,Y l.2.1.f,Zk d l.2.1.e h,Y l.2.2.v,Y l.2.2.f,Zk e l.2.2.e i] 47));have a:Zb w s:=j▸kF _ _ _;have HS:=X (Qi k l b f c g d h e i s o (jI a i1) (jI a i2) (jI a p) (jI a q));have t:=X j;have m:=X a;obtain⟨Z,n⟩:=Ze (tG k l);have u:lP k l=(k.1==l.1 && Z):=by rw[lP,<-n]
 rw[u];rw[<-n] at HS;clear j a u n o i1 i2 p q
 go_in
 cases n:(k.1==l.1) with
 |true=>
  go_wp2_with fail
  rw[<-t.out];refine HS.mono ?_;rintro r o ⟨rfl,a⟩;have j:=X (m.trans (a.mono m.size));clear a HS;go_wp2;go_ret;exact⟨by simp,j⟩
 |false=>
  go_wp2;go_ret;rw[<-t.out];exact⟨by simp,m⟩
def XT{l:Lit}(d:Nat)(e:Nat){x:Lit}(y:xO l)(h:c[i]? =some x)(i1:InL w l.2.1.e a)(i2:InL w l.2.2.e a1)(q:kR w c (some (D k n)))
 (r:w.cell? (D j 0)=some (Zz k n c.length m)) (s:w.cell? (D n1 0)=some (Y (i:Int))):
 Calls Zf 172 #[lM l a d a1 e,Zr j,Zr n1] w λt o=>t=.returned (.bool (lP l x))/\Zb w o:=by
 have G:=(Zl h);obtain⟨p,f⟩:=Ze (w.alloc (.cells #[.bool l.1,Y l.2.1.v,Y l.2.1.f,Zk a l.2.1.e d,Y l.2.2.v,Y l.2.2.f,Zk a1 l.2.2.e e] 47));have b:Zb w p:=f▸jG _ _;have z:L7 p w.heap.size 0 l a d a1 e:=f▸L7.new _ rfl;obtain⟨A,B,C,E,H,I,J,K,L,M,O,u,v⟩:=dZ (kL b q) h;have P:=jP b r;have Q:=jP b s;have HS:=X (λo g=>CA l x a d a1 e A B C E o y (jI (b.trans (g.mono b.size)) i1) (jI (b.trans (g.mono b.size)) i2) (jI g u) (jI g v));obtain⟨R,S,U,V,W,Z,p6⟩:=z;have aa:(i:Int)<c.length:=by omega
 have ab:(0:Int)<=i:=by omega
 have F:=X f;have g:=X b;clear f b r s q i1 i2 u v h
 go_in
 go_upto_region 1 with fail
 rw[<-F.out]
 go_region_with (first
  |(go_at_call 102
    refine(HS _ (by first|exact jW _ _|exact xH (jW _ _))).mono ?_;rintro t f ⟨rfl,b⟩;have h:Hid (Zb p f):=X (by first|exact b|exact dN b)
    clear b))
 all_goals (
  go_wp2;go_ret
  exact⟨rfl,g.trans (h.mono g.size)⟩)
def SX{P q:Zv}{p:Lit->Bool}(y:Nat)(K:c.length<=100000)(L:∀(r:Zy)(w:N),(callFunc k r).run Zf w=.ok (.enter k r) w)
 (b:∀(d:N)(x:Lit)(f:Zo)(n:Nat)(g:Zo)(o:Nat),Zb w d->x∈c->InL d x.2.1.e f->InL d x.2.2.e g->Calls Zf k #[lM x f n g o,P,q] d λh z=>h=.returned (.bool (p x))/\Zb d z) (e:kR w c a):
 Calls Zf 40 #[.slice a c.length y,.func (.func k) #[] #[P,q]] w λh d=>(∃i:Int,h=.returned (Y i)/\decide (0<=i)=c.any p)/\Zb w d:=by
 have s:=X e;have A:=X b;clear e b
 go_in
 go_wp2
 go_loopw [8] (λi wr=>∃b:Nat,b<=c.length/\i=Y b/\Hid ((c.take b).any p=false)/\Hid (Zb w wr)) (λi _=>c.length - (intOf i).toNat)
 case atStart=>exact⟨0,jY _,rfl,rfl,jW _ _⟩
 case round=>
  obtain⟨b,M,rfl,j,e⟩:=hrel;by_cases B:b<c.length
  .obtain⟨O,Q,rfl⟩:=zN s (by omega)
   obtain⟨x,l⟩:=Zg B;obtain⟨f,n,g,o,C,E,F,G,H,I,J,t,u⟩:=dZ (kL e s) l;have m:=X (Ub l j);have v:=X (A wr x f n g o e (jU l) t u);have R:(b:Int)<c.length:=(by omega);have S:(0:Int)<=b:=(by omega);clear l t u j
   go_wp2_with fail
   refine v.mono ?_;rintro h d ⟨rfl,l⟩;have t:=X (e.trans (l.mono e.size));clear l v C E F G H I J
   cases hd:p x with
   |false=>
    have l:=X (m.1 hd);clear m hd
    go_wp2_with fail
    go_roundw
    case rel=>exact⟨b+1,by omega,by go_num,l,t⟩
    case measure=>simp[intOf];omega
   |true=>
    have l:=X (m.2 hd);clear m hd;go_wp2;go_ret;exact⟨⟨b,rfl,by rw[l.out];simp⟩,t⟩
  have l:b=c.length:=by omega
  subst l;rw[qU] at j;go_wp2;go_ret;exact⟨⟨-1,rfl,by rw[j.out];rfl⟩,e⟩
def MV{P d:Zv}{p:Lit->Bool}(f:Nat)(n:c.length<=100000)(g:∀(h:Zy)(w:N),(callFunc k h).run Zf w=.ok (.enter k h) w)
 (i:∀(b:N)(x:Lit)(j:Zo)(o:Nat)(l:Zo)(q:Nat),Zb w b->x∈c->InL b x.2.1.e j->InL b x.2.2.e l->Calls Zf k #[lM x j o l q,P,d] b λe r=>e=.returned (.bool (p x))/\Zb b r) (m:kR w c a):
 Calls Zf 20 #[.slice a c.length f,.func (.func k) #[] #[P,d]] w λe b=>e=.returned (.bool (c.any p))/\Zb w b:=by
 have s:=X (SX f n g i m);clear i m g
 go_in
 go_wp2_with fail
 refine s.mono ?_;rintro e b ⟨⟨u,rfl,g⟩,i⟩;have m:=X g;have t:=X i;clear g i;go_wp2;go_ret;exact⟨vO m,t⟩
def jC1(b c n m a:Nat)(d:N)(g:m<=a):(Instr.slice 39 (Zz b c n a) none (some (Y (m:Int))) none).run Zf d=.ok (Zz b c m a) d:=by
 have e:Zf.underlying 39=some (.slice (Zf.elem 39)):=by kernel_rfl
 have f:∀w:N,(sizeOf (Zf.elem 39)).run Zf w=.ok 7 w:=λw=>by kernel_rfl
 rw[run_slice_h d 39 (some (D b c)) n a e .i64 (m:Int) (by omega) (by omega),f];simp[sliced,Addr.add]
def FY(n:Nat)(h:kR w c a):kR w (c.take n) a:=by
 induction c generalizing n a with
 |nil=>rw[List.take_nil];trivial
 |cons x c b=>
  cases n with
  |zero=>trivial
  |succ n=>
   obtain⟨d,e,f,g,i,j,rfl,k,l,m,o,p,q,r,i1,i2,s⟩:=h;exact⟨d,e,f,g,i,j,rfl,k,l,m,o,p,q,r,i1,i2,b n s⟩
theorem OS(a:Zy)(w:N):(callFunc 172 a).run Zf w=.ok (.enter 172 a) w:=by kernel_rfl
def XU{e:qJ}(F:c.length<=1000)(G:c.length<=m)(l:∀x,x∈c->xO x)(v:e.w.n<c.length)(g:kR w c (some (D k n)))(o:w.cell? (D i 0)=some (Zz k n c.length m)):
 Calls Zf 171 #[Rh e,Zr i] w λp q=>p=.returned (.bool (Cf c e.w))/\Zb w q:=by
 obtain⟨x,h⟩:=Zg v;have r:vR c (e.w.n:Int)=x:=by
  rw[vR];simp[h]
 obtain⟨d,b⟩:∃d,d=w.alloc (.cells #[Y (e.w.n:Int),.bool e.w.tu,.bool e.w.yes,Y e.w.first.v,Y e.w.first.f,.slice e.fa e.w.first.e.length e.fc] 188):=⟨_,rfl⟩;have a:Zb w d:=b▸jG _ _;have s:Zq d w.heap.size 0 (Y (e.w.n:Int)):=b▸jJ 0 rfl;have t:=jP a o;have H:=jC1 k n c.length e.w.n m;have u:(c.take e.w.n).length=e.w.n:=by rw[yD];omega
 have f:=X (MV (c:=c.take e.w.n) m (by omega) OS
  (λq y j z j A j B C E=>XT z A (l y (Sh B)) h C E (kL (a.trans (j.mono a.size)) g) (jP j t) (jP j s)) (FY _ (kL a g)))
 rw[u] at f;have y:Hid ((c.take e.w.n).any (λj=>lP j x)=Cf c e.w):=X (by rw[Cf,r]);rw[y.out] at f;have z:=X b;have j:=X a;have A:e.w.n<=m:=by omega
 rw[b] at s t;clear b a o g h r l u
 go_in
 go_wp2_with fail
 rw[<-z.out];refine f.mono ?_;rintro p g ⟨rfl,a⟩;have b:=X (j.trans (a.mono j.size));clear a f;go_wp2;go_ret;exact⟨rfl,b⟩
structure W6 (w:N) (g o:Nat) (e:qJ):Prop where
 e0:w.cell? (D g o)=some (Y (e.w.n:Int))
 e1:w.cell? (D g (o+1))=some (.bool e.w.tu)
 e2:w.cell? (D g (o+2))=some (.bool e.w.yes)
 e3:w.cell? (D g (o+3))=some (Y e.w.first.v)
 e4:w.cell? (D g (o+4))=some (Y e.w.first.f)
 e5:w.cell? (D g (o+5))=some (.slice e.fa e.w.first.e.length e.fc)
def W6.same{w':N}{e:qJ}(h:W6 w k n e)(a:∀j,j<6->w'.cell? (D k (n+j))=w.cell? (D k (n+j))):W6 w' k n e:=
 ⟨(a 0 (by omega)).trans h.e0,(a 1 (by omega)).trans h.e1,(a 2 (by omega)).trans h.e2,(a 3 (by omega)).trans h.e3,(a 4 (by omega)).trans h.e4,(a 5 (by omega)).trans h.e5⟩
def W6.block{e:qJ}(h:W6 w k n e)(b:u.heap[k]? =w.heap[k]?):W6 u k n e:=h.same (λj _=>kH (w:=w) (a:=(D k (n+j))) b)
def W6.below{e:qJ}(h:W6 w k n e)(a:Zb w u):W6 u k n e:=h.block (a.block k (kA h.e0))
def W6.new{e:qJ}(a:k=w.heap.size):W6 (w.alloc (.cells #[Y (e.w.n:Int),.bool e.w.tu,.bool e.w.yes,Y e.w.first.v,Y e.w.first.f,.slice e.fa e.w.first.e.length e.fc] g)) k 0 e:=
 ⟨jJ 0 a,jJ 1 a,jJ 2 a,jJ 3 a,jJ 4 a,jJ 5 a⟩
def Qb{v:Zv}{b:List qJ}(h:w.ownsRow k 188 6 v b.length (b.flatMap lC))(f:0<b.length):∃g d,v=Zx g b.length d/\k<=g/\g<w.heap.size/\∀c e,b[c]? =some e->W6 w g (c*6) e:=by
 obtain⟨g,d,rfl,i,l,m⟩:=fX h f;refine⟨g,d,rfl,i,l,λc e n=>?_⟩;have a:∀j,j<6->∀u,(lC e)[j]? =some u->Zq w g (c*6+j) u:=λj o u p=>m (c*6+j) u (by rw[DS j n o];exact p);exact⟨a 0 (by omega) _ rfl,a 1 (by omega) _ rfl,a 2 (by omega) _ rfl,a 3 (by omega) _ rfl,a 4 (by omega) _ rfl,a 5 (by omega) _ rfl⟩
def Ou(p:qJ->Bool)(a:List qJ)(i:Int):Prop:=(i= -1/\∀e,e∈a->p e=false)\/∃k:Nat,i=(k:Int)/\k<a.length/\(∀j e,j<k->a[j]? =some e->p e=false)/\∀e,a[k]? =some e->p e=true
def TG{P:Zv}{p:qJ->Bool}{b:List qJ}(A:Nat)(O:b.length<=100000)(Q:∀(o:Zy)(w:N),(callFunc k o).run Zf w=.ok (.enter k o) w)
 (q:∀(d:N)(e:qJ),Zb w d->e∈b->Calls Zf k #[Rh e,P] d λB C=>B=.returned (.bool (p e))/\Zb d C) (r:∀a e,b[a]? =some e->W6 w n (a*6) e):
 Calls Zf 193 #[Zx n b.length A,.func (.func k) #[] #[P]] w λe d=>(∃i:Int,e=.returned (Y i)/\Ou p b i)/\Zb w d:=by
 have E:=X r;have F:=X q;clear r q
 go_in
 go_wp2
 go_loopw [8] (λi wr=>∃a:Nat,a<=b.length/\i=Y a/\Hid (∀j e,j<a->b[j]? =some e->p e=false)/\Hid (Zb w wr)) (λi _=>b.length - (intOf i).toNat)
 case atStart=>exact⟨0,jY _,rfl,X (λj e s=>by omega),X (jW _ _)⟩
 case round=>
  obtain⟨a,R,rfl,f,g⟩:=hrel;by_cases t:a<b.length
  .obtain⟨x,l⟩:=Zg t
   obtain⟨G,H,I,J,K,L⟩:=(E a x l).below g;have u:=X (F wr x g (jU l));have S:(a:Int)<b.length:=(by omega);have U:(0:Int)<=a:=(by omega);have v:=X l;clear l
   go_wp2_with fail
   refine u.mono ?_;rintro e d ⟨rfl,y⟩;have z:=X (g.trans (y.mono g.size));clear y u G H I J K L
   cases hd:p x with
   |false=>
    have h:Hid (∀j e,j<a+1->b[j]? =some e->p e=false):=X (λj e m c=>by
     by_cases s:j=a
     .subst s;rw[v.out] at c;cases c;exact hd
     exact f j e (by omega) c)
    clear hd f
    go_wp2_with fail
    go_roundw
    case rel=>exact⟨a+1,by omega,by go_num,h,z⟩
    case measure=>simp[intOf];omega
   |true=>
    have h:Hid (Ou p b (a:Int)):=X (jE ⟨a,rfl,t,f,λe c=>by rw[v.out] at c;cases c;exact hd⟩);clear hd f;go_wp2;go_ret;exact⟨⟨a,rfl,h⟩,z⟩
  have M:a=b.length:=by omega
  subst M
  have h:Hid (Ou p b (-1)):=X (jD ⟨rfl,λe c=>by
   obtain⟨j,m⟩:=Bf c
   exact f j e (Zl m) m⟩)
  clear f;go_wp2;go_ret;exact⟨⟨-1,rfl,h⟩,g⟩
abbrev At:Zy:=#[Y 0,.bool false,.bool false,Y 0,Y 0,Zd]
def jEy(n:Nat):∀u,u∈(Builtin.zeroCells At n).toList->u.oneCell'=true:=by
 intro u a;simp only[Builtin.zeroCells,Array.toList_map,bP] at a;obtain⟨i,_,rfl⟩:=a;have h:i % At.size<6:=Nat.mod_lt _ (by decide);generalize i % At.size=k at h
 match k,h with
 |0,_=>rfl
 |1,_=>rfl
 |2,_=>rfl
 |3,_=>rfl
 |4,_=>rfl
 |5,_=>rfl
def LY(w:N)(g o m f:Nat)(l:0<m)(h:∀j,j<m*6->(w.cell? (D g (o+j))).isSome=true)(i:∀j,w.frozen? (D g j)=false):
 ∃a:Zu,a.length=m*6/\∀b,(Builtin.clear_ #[185] b #[Zz g o m f]).run Zf w=.ok (.tuple #[]) (w.setCells g o a):=by
 have c:(Builtin.zeroCells At m).toList.length=m*6:=by
  rw[Array.length_toList,size_zeroCells];rfl
 have d:=run_storeCells_cells (P:=Zf) g o (Builtin.zeroCells At m).toList 0 w (λj e=>by rw[c] at e;exact h j e) (λj _=>i _) (jEy m);simp only[mG] at d;refine⟨_,c,λb=>?_⟩;have k:(Value.agg At).cells=At:=by kernel_rfl
 obtain⟨e,rfl⟩:∃e,m=e+1:=⟨m - 1,by omega⟩;simp[Builtin.clear_,run_underlying Go.Proofs.Tryz.underlying185,k,d]
def jC4(g n m a:Nat)(b:N)(f:m<=n)(h:m<a):(Instr.slice 185 (Zx g n a) (some (Y (m:Int))) none none).run Zf b=.ok (Zz g (m*6) (n - m) (a - m)) b:=by
 have c:Zf.underlying 185=some (.slice (Zf.elem 185)):=by kernel_rfl
 have d:∀w:N,(sizeOf (Zf.elem 185)).run Zf w=.ok 6 w:=λw=>by kernel_rfl
 rw[run_slice_l b 185 (some (D g 0)) n a c .i64 (m:Int) (by omega) (by omega),d];have e:¬a=m:=by omega
 simp[sliced,e,Addr.add];omega
def jC3(g n m a:Nat)(b:N)(e:m<=a):(Instr.slice 185 (Zx g n a) none (some (Y (m:Int))) none).run Zf b=.ok (Zx g m a) b:=by
 have c:Zf.underlying 185=some (.slice (Zf.elem 185)):=by kernel_rfl
 have d:∀w:N,(sizeOf (Zf.elem 185)).run Zf w=.ok 6 w:=λw=>by kernel_rfl
 rw[run_slice_h b 185 (some (D g 0)) n a c .i64 (m:Int) (by omega) (by omega),d];simp[sliced,Addr.add]
def jDz{d:Zy}{e:qJ}(m:w.heap[k]? =some (.cells d g (0,0)))(u:n+6<=d.size)(b:N)(o:b=(((((w.setCell (D k n) (Y (e.w.n:Int))).setCell (D k (n+1)) (.bool e.w.tu)).setCell (D k (n+2)) (.bool e.w.yes)).setCell (D k (n+3)) (Y e.w.first.v)).setCell (D k (n+4)) (Y e.w.first.f)).setCell (D k (n+5)) (.slice e.fa e.w.first.e.length e.fc)):
 W6 b k n e/\(∀a l,a+6<=n\/n+6<=a->W6 w k a l->W6 b k a l)/\w.grownBy b (some k)/\∃h,b.heap[k]? =some (.cells h g (0,0))/\h.size=d.size:=by
 have f:b=w.setCells k n (lC e):=o;have p:∀j,j<d.size->(w.cell? (D k j)).isSome=true:=λj i=>by simp[World.cell?,m,i]
 have c:=Nl k (lC e) n w (λj i=>p _ (by have:j<6:=i;omega));obtain⟨h,q,r⟩:=uC (lC e) n w d m;refine⟨?_,λa l s t=>t.same (λj i=>?_),?_,h,by rw[f];exact q,r⟩
 .rw[f]
  exact⟨c 0 (by rw[eI];omega),c 1 (by rw[eI];omega),c 2 (by rw[eI];omega),c 3 (by rw[eI];omega),c 4 (by rw[eI];omega),c 5 (by rw[eI];omega)⟩
 .rw[f]
  have t:a+j<n\/n+(lC e).length<=a+j:=by rw[eI];omega
  exact Fe k (lC e) n w (D k (a+j)) (λ_ _=>t)
 have i:Below 0 w b:=by rw[f];exact bK (jY _) _ _ _ (jW _ _)
 refine⟨i.os,i.tape,i.output,i.size,λa s j=>?_⟩;have s:a≠k:=λe=>j (by rw[e]);rw[f,tH s]
def gF(p:qJ->Bool)(a:List qJ):List qJ:=a.filter (λe=> !p e)
def Pk{p:qJ->Bool}{a:List qJ}{x:qJ}(b:a[k]? =some x):gF p (a.take (k+1))=gF p (a.take k)++(if p x then [] else [x]):=by
 rw[gF,vZ,b,Mp]
 cases h:p x<;>simp[h,gF]
def jFl(p:qJ->Bool)(a:List qJ)(k:Nat):(gF p (a.take k)).length<=k:=by
 refine kN (Bj _ _) ?_;rw[yD];omega
def TR{p:qJ->Bool}{a:List qJ}(h:∀j e,j<k->a[j]? =some e->p e=false):gF p (a.take k)=a.take k:=by
 rw[gF,List.filter_eq_self];intro e c;obtain⟨j,b⟩:=Bf c;have d:=(Zl b);rw[yD] at d;rw[oC,jB (by omega)] at b;simp[h j e (by omega) b]
def YQ{c:Zy}{b:List qJ}(p:k<=n)(f:w.heap[n]? =some (.cells c 188 (0,0)))(q:c.size=m*6)(r:m<=maxLen)(s:i=b.length)(t:b.length<=m)(u:∀g e,b[g]? =some e->W6 w n (g*6) e):
 w.ownsRow k 188 6 (Zx n i m) b.length (b.flatMap lC):=by
 subst s;refine⟨DT b,jE ⟨n,m,c,rfl,p,f,t,r,q,?_⟩⟩;refine oB (λa=>?_);rw[oC];by_cases l:a<b.length*6
 .rw[jB l]
  have v:a / 6<b.length:=by omega
  obtain⟨e,o⟩:=Zg v;have h:=u _ _ o;have x:a=a / 6*6+a % 6:=by omega
  have y:∀j,w.cell? (D n j)=c[j]?:=λj=>by simp[World.cell?,f]
  have d:a % 6<6:=Nat.mod_lt _ (by omega);rw[Dx,<-y,x,DS (a % 6) o d];generalize a % 6=j at d;generalize a / 6*6=a at h
  match j,d with
  |0,_=>exact h.e0
  |1,_=>exact h.e1
  |2,_=>exact h.e2
  |3,_=>exact h.e3
  |4,_=>exact h.e4
  |5,_=>exact h.e5
 rw[jC l,yZ (by rw[DT];omega)]
def NT{P:Zv}{p:qJ->Bool}{b:List qJ}(hl:b.length<=100000)(hp:0<b.length)(aa:∀(G:Zy)(w:N),(callFunc k G).run Zf w=.ok (.enter k G) w)
 (h:∀(r:N)(e:qJ),w.grownBy r (some m)->e∈b->Calls Zf k #[Rh e,P] r λe' ab=>e'=.returned (.bool (p e))/\Zb r ab) (d:w.ownsRow n 188 6 (Zx m b.length i) b.length (b.flatMap lC)):
 Calls Zf 170 #[Zx m b.length i,.func (.func k) #[] #[P]] w λe r=>(∃H,e=.returned (Zx m H i)/\r.ownsRow n 188 6 (Zx m H i) (gF p b).length ((gF p b).flatMap lC))/\w.grownBy r (some m):=by
 obtain⟨g',ac,c,ad,ae,j⟩:=Qb d hp;simp only[lH,qW,fG] at c;obtain⟨⟨rfl, -, -⟩, -,rfl⟩:=c;obtain⟨q,g,an,af,s⟩:∃q,w.heap[m]? =some (.cells q 188 (0,0))/\b.length<=i/\i<=maxLen/\q.size=i*6:=by
  rcases d.2 with⟨a,_⟩|⟨g',ac,q,c,_,g,f,l,t,_⟩
  .cases a
  simp only[lH,qW,fG] at c;obtain⟨⟨rfl, -, -⟩, -,rfl⟩:=c;exact⟨q,g,f,l,t⟩
 have t:=X (TG i hl aa (λr e l c=>h r e ⟨l.os,l.tape,l.output,l.size,λa f _=>l.block a f⟩ c) j);have ag:=X h;have I:=X d;have J:=X j;have K:=X (jM g s);clear h d j g s
 go_in
 go_wp2_with fail
 refine t.mono ?_;rintro e w1 ⟨⟨d,rfl,ah⟩,g⟩;have h:=X g;clear g t;rcases ah with⟨rfl,g⟩|⟨a,rfl,f,g,s⟩
 .have Hk:Hid (gF p b=b):=X (by rw[gF,List.filter_eq_self];intro e c;simp[g e c])
  clear g;go_wp2;go_ret;refine⟨⟨b.length,rfl,?_⟩,⟨h.os,h.tape,h.output,h.size,λa f _=>h.block a f⟩⟩;rw[Hk.out];exact vT I (λj t=>h.block j (kO I j t).2)
 obtain⟨x0,j⟩:=Zg f;have L:Hid (gF p (b.take (a+1))=b.take a):=X (by rw[Pk j,s x0 j,TR g];simp);have ao:((a:Int)== -1)=false:=by simp
 have ai:Hid ((gF p (b.take (a+1))).length=a):=X (by rw[L.out,yD];omega);clear g s j;go_wp2
 go_loopw [5,6] (λs g wr=>∃(d j:Nat),s=Y d/\g=Y j/\d<j/\j<=b.length/\Hid (d=(gF p (b.take j)).length)/\Hid (∀a e,(gF p (b.take j))[a]? =some e->W6 wr m (a*6) e)/\Hid (∀a e,j<=a->b[a]? =some e->W6 wr m (a*6) e)/\Hid (w.grownBy wr (some m))/\Hid (∃q,wr.heap[m]? =some (.cells q 188 (0,0))/\q.size=i*6)) (λ_ g _=>b.length - (intOf g).toNat)
 case atStart=>
  refine⟨a,a+1,rfl,by go_num,by omega,by omega,X ai.symm,X (λj e c=>?_),X (λj e _ c=>(J j e c).below h),X ⟨h.os,h.tape,h.output,h.size,λa f _=>h.block a f⟩,X ⟨q,(h.block m ae).trans K.1,K.2⟩⟩;rw[L.out,oC] at c;by_cases g:j<a
  .rw[jB g] at c
   exact(J j e c).below h
  rw[jC g] at c;cases c
 case round=>
  obtain⟨d,j,rfl,rfl,ap,y,z,HA,C,u,E⟩:=hrel;by_cases aj:j<b.length
  .obtain⟨x,t⟩:=Zg aj
   obtain⟨k0,k1,k2,k3,k4,k5⟩:=C j x (jF _) t;have aq:(j:Int)<b.length:=(by omega);have ar:(0:Int)<=j:=(by omega);have au:(d:Int)<b.length:=(by omega);have av:(0:Int)<=d:=(by omega);have M:=X t;obtain⟨v,s⟩:∃v,v=wr.alloc (.cells #[Y (x.w.n:Int),.bool x.w.tu,.bool x.w.yes,Y x.w.first.v,Y x.w.first.f,.slice x.fa x.w.first.e.length x.fc] 188):=⟨_,rfl⟩;have g:Zb wr v:=s▸jG _ _;have O:W6 v wr.heap.size 0 x:=s▸W6.new rfl;have A:=X (ag v x (u.trans ⟨g.os,g.tape,g.output,g.size,λa f _=>g.block a f⟩) (jU t));have B:=X s;have Q:=X g;have ak:=X O;obtain⟨R,S,U,V,W,Z⟩:=O;rw[s] at R S U V W Z;clear t s g
   go_wp2_with fail
   rw[<-B.out];refine A.mono ?_;rintro e F ⟨rfl,s⟩;have g:=X (Q.trans (s.mono Q.size));obtain⟨q0,q1,q2,q3,q4,q5⟩:=ak.below s;clear s A R S U V W Z k0 k1 k2 k3 k4 k5 B;have R:m<wr.heap.size:=by have:=u.size;omega
   cases A:p x with
   |true=>
    have s:Hid (gF p (b.take (j+1))=gF p (b.take j)):=X (by rw[Pk M.out,A];simp);clear A
    go_wp2_with fail
    go_roundw
    case rel=>
     refine⟨d,j+1,rfl,by go_num,by omega,by omega,X (s.out▸z),X (λa e c=>?_),X (λa e f c=>(C a e (by omega) c).below g),X (u.trans ⟨g.os,g.tape,g.output,g.size,λa f _=>g.block a f⟩),X ?_⟩
     .rw[s.out] at c
      exact(HA a e c).below g
     obtain⟨B,S,U⟩:=E;exact⟨B,(g.block m R).trans S,U⟩
    case measure=>simp[intOf];omega
   |false=>
    have S:Hid (gF p (b.take (j+1))=gF p (b.take j)++[x]):=X (by rw[Pk M.out,A];simp);obtain⟨V,U,W⟩:=E;have B:=(g.block m R).trans U;have aw:∀j,F.frozen? (D m j)=false:=λj=>by simp[World.frozen?,B]
    have s:∀j,j<V.size->(F.cell? (D m j)).isSome=true:=λj y=>by simp[World.cell?,B,y]
    obtain⟨v0,s0⟩:=oF.1 (s (d*6) (by omega));obtain⟨v1,s1⟩:=oF.1 (s (d*6+1) (by omega));obtain⟨v2,s2⟩:=oF.1 (s (d*6+2) (by omega));obtain⟨v3,s3⟩:=oF.1 (s (d*6+3) (by omega));obtain⟨v4,s4⟩:=oF.1 (s (d*6+4) (by omega));obtain⟨v5,s5⟩:=oF.1 (s (d*6+5) (by omega));have Z:=X (jDz (w:=F) (k:=m) (n:=d*6) (e:=x) B (by omega));clear A B U s
    go_wp2_with fail
    go_roundw
    case rel=>
     obtain⟨B,s,U,al,t4,t5⟩:=Z _ rfl;refine⟨d+1,j+1,by go_num,by go_num,by omega,by omega,X (by rw[S.out,qB,<-z.out];rfl),X (λa e c=>?_),X (λa e f c=>s _ e (by omega) ((C a e (by omega) c).below g)),X ((u.trans ⟨g.os,g.tape,g.output,g.size,λa f _=>g.block a f⟩).trans U),X ⟨al,t4,t5.trans W⟩⟩;rw[S.out] at c;have hi:=z.out;by_cases f:a<d
     .rw[mY (by omega)] at c
      exact s _ e (by omega) ((HA a e c).below g)
     rw[nO (by omega)] at c;have am:a - (gF p (b.take j)).length=0:=by
      rcases xW (a - (gF p (b.take j)).length) 1 with A|A
      .omega
      rw[yZ (by simpa using A)] at c;cases c
     rw[am] at c;simp only[vP,qW] at c;subst c;have A:a=d:=(by omega);subst A;exact B
    case measure=>simp[intOf];omega
  have W:j=b.length:=by omega
  subst W;obtain⟨B,s,S⟩:=E;have al:d<i:=by omega
  have am:=jC4 m b.length d i;have aw:=jC3 m b.length d i;have ax:d<=b.length:=by omega
  have ay:d<=i:=by omega
  obtain⟨A,U,az⟩:=LY wr m (d*6) (b.length - d) (i - d) (by omega) (λj y=>by
   have V:d*6+j<B.size:=by omega
   simp[World.cell?,s,V]) (λj=>by simp[World.frozen?,s])
  have HZ:=X U;have V:=X (jM s S);clear U s S;go_wp2;go_ret;have s:b.take b.length=b:=qU;have S:=z.out;rw[s] at S;obtain⟨a0,U,Z⟩:=uC A (d*6) wr B V.1;refine⟨⟨d,rfl,YQ ad U (Z.trans V.2) af S (by omega) (λa e c=>?_)⟩,u.trans ?_⟩
  .have f:=(Zl c)
   have hA:=HA a e (by rw[s];exact c);refine hA.same (λj y=>?_);have t:a*6+j<d*6\/d*6+A.length<=a*6+j:=jD (by omega);exact Fe m A (d*6) wr (D m (a*6+j)) (λ_ _=>t)
  have l:Below 0 wr (wr.setCells m (d*6) A):=bK (jY _) _ _ _ (jW _ _);exact⟨l.os,l.tape,l.output,l.size,λa f a=>tH (λe=>a (by rw[e])) _ _ _⟩
def jE1:∀(c:Zc)(n:Nat)(x:gO),x∈yK c n->n<=x.n/\x.n<n+c.length:=by
 intro c;induction c with
 |nil=>intro n x h;cases h
 |cons y c a=>
  intro n x h;rw[yK,qO,qO] at h;rw[xI];rcases h with rfl|rfl|h
  .exact⟨jF _,by show n<_;omega⟩
  .exact⟨jF _,by show n<_;omega⟩
  have:=a (n+1) x h;omega
def Lt:∀(c:Zc)(n:Nat)(x:gO),x∈yK c n->∃y,y∈c/\(x.first=y.2.1\/x.first=y.2.2):=by
 intro c;induction c with
 |nil=>intro n x h;cases h
 |cons y c a=>
  intro n x h;rw[yK,qO,qO] at h;rcases h with rfl|rfl|h
  .exact⟨y,vX,jD rfl⟩
  .exact⟨y,vX,jE rfl⟩
  obtain⟨z,b,d⟩:=a (n+1) x h;exact⟨z,vG _ b,d⟩
def TS{a:List qJ}(h:a.map qJ.w=yK c 0):(gF (λe=>Cf c e.w) a).map qJ.w=dE c:=by
 rw[dE,<-h,gF,List.filter_map];rfl
def NS{P:Zv}(a:Zo)(b:Nat)(w:N):
 Calls Zf 170 #[.slice a 0 b,.func (.func k) #[] #[P]] w λe c=>e=.returned (.slice a 0 b)/\Zb w c:=by
 have d:Hid (Calls Zf 193 #[.slice a 0 b,.func (.func k) #[] #[P]] w λe c=>e=.returned (Y (-1))/\Zb w c):=X (by
  go_in
  go_wp2
  go_loopw [8] (λi wr=>i=Y 0/\wr=w) (λ_ _=>0)
  case atStart=>exact⟨rfl,rfl⟩
  case round=>
   obtain⟨rfl,rfl⟩:=hrel;go_wp2;go_ret
   exact⟨rfl,jW _ _⟩)
 go_in
 go_wp2_with fail
 refine d.mono ?_;rintro e h ⟨rfl,f⟩;have g:=X f;clear f d;go_wp2;go_ret;exact⟨rfl,g⟩
theorem OR(a:Zy)(w:N):(callFunc 171 a).run Zf w=.ok (.enter 171 a) w:=by kernel_rfl
def AQ{v:Zv}(h:w.ownsRow n g m v i U)(a:k<=n):w.ownsRow k g m v i U:=by
 refine⟨h.1,h.2.imp id ?_⟩;rintro⟨b,c,d,e,f,j⟩;exact⟨b,c,d,e,kN a f,j⟩
def Uh(h:Below k w u)(a:u.grownBy v (some n))(d:k<=n)(f:k<=u.heap.size):Below k w v:=
 ⟨a.os.trans h.os,a.tape.trans h.tape,a.output.trans h.output,kN h.size a.size,λb c=>(a.block b (by omega) (λe=>by cases e;omega)).trans (h.block b c)⟩
def Pz(y:c.length<=1000)(E:c.length<=k)(j:∀z,z∈c->xO z)(l:∀g,p g->g<w.heap.size)(h:qA p w c a):
 Calls Zf 137 #[.slice a c.length k] w λe m=>∃v b,e=.returned v/\b.map qJ.w=dE c/\Ti p w.heap.size m v b/\Zb w m:=by
 obtain⟨n,d⟩:=Ze (w.alloc (.cells #[Zk a c k] 39));have i:Zb w n:=d▸jG _ _;have r:n.heap.size=w.heap.size+1:=by rw[d];simp
 have o:Zq n w.heap.size 0 (Zk a c k):=d▸jJ 0 rfl;have s:=X (DU k y (nA i h));have G:=X d;have f:=X i;have q:=X r;have H:=X o;have A:=X h;have I:=X j;have J:=X l;rw[d] at o;clear d i h j l r
 go_in
 go_wp2_with fail
 rw[<-G.out];refine s.mono ?_;rintro e K ⟨v,b,rfl,h,⟨i,t⟩,u⟩;have d:=X u;have B:=X h;have L:=X t;have j:=X i;obtain⟨M,O,l⟩:=zF i;subst l;have r:b.length=2*c.length:=by
  have x:=xE List.length h;rw[dY,Dw] at x;exact x
 clear u h t i s o;rcases Nat.eq_zero_or_pos b.length with i|o
 .obtain rfl:b=[]:=yM.1 i
  have Q:c=[]:=yM.1 (by simp at r;omega);have h:=X (NS (k:=171) (P:=Zr w.heap.size) M O K);clear i r
  go_wp2_with fail
  refine h.mono ?_;rintro e R ⟨rfl,i⟩;have s:=X (f.trans ((d.trans (i.mono d.size)).mono f.size));have t:=X (vT j (λu x=>i.block u (kO j u x).2));clear i h;go_wp2;go_ret;refine⟨_,[],rfl,by rw[Q];rfl,⟨?_,λe i=>by cases i⟩,s⟩;exact AQ t (by have:=q.out;omega)
 obtain⟨u,S,l,u,U, -⟩:=Qb j o;simp only[lH,true_and] at l;obtain⟨rfl,rfl⟩:=l;obtain⟨V,W,rfl⟩:=zN (dA A) (by omega)
 have h:=X (NT (by omega) o OR (λm e x i=>by
  have C:=Uh d x u d.size;refine XU y E I ?_ (kL (f.trans (C.mono f.size)) (dA A)) (jP C H);have x:=(jE1 c 0 e.w (by rw[<-B.out];exact bP.2 ⟨e,i,rfl⟩)).2
  omega) j)
 clear r o
 go_wp2_with fail
 refine h.mono ?_;rintro e R ⟨⟨C,rfl,r⟩,o⟩;have s:=X (f.trans ((Uh d o u d.size).mono f.size));have t:=X r;have x:=X o;clear r o h;go_wp2;go_ret;refine⟨_,gF (λe=>Cf c e.w) b,rfl,TS B,⟨AQ t (by have:=q.out;omega),λe i=>?_⟩,s⟩;have h:=L e (uW.1 i).1;refine xN (λg i o=>x.block g o (λo=>?_)) h;have r:=J g i;have i:=q.out
 cases o
 omega
def Lw{P:Program}{c:Zy}{R:N->Prop}{J d:N->Prop}(h:YieldAt Fence.wide 0 P k c w λe B=>R B/\((e=.returned (.bool true)/\J B)\/(e=.returned (.bool false)/\d B))):
 YieldAt Fence.wide 0 P k c w λe B=>∃a,e=.returned (.bool a)/\R B/\(a=true->J B)/\(a=false->d B):=by
 refine YieldAt.mono h ?_;rintro e B ⟨f,⟨rfl,b⟩|⟨rfl,b⟩⟩
 .exact⟨true,rfl,f,λ_=>b,λh=>(by cases h)⟩
 exact⟨false,rfl,f,λh=>(by cases h),λ_=>b⟩
def II(J d:Zp->List zI->N->Prop)(K:Zp)(e:Nat)(f:List (Zn×T))(v:Zv)(g:Zn)(O:Zp)(pre:List zI)(A:N)(h:Ending)(B:N):Prop:=
 ∃b,h=.returned (.bool b)/\(b=true->∃a c,c.map zI.val=f/\J a (pre++c) B/\oG K e v g O a A B)/\(b=false->∃a b,d a b B)
def Xm{r:Option Nat}(h:w.grownBy u r)(b:∀g,r=some g->p g):jR p w u:=
 ⟨⟨h.os,h.tape,h.output,h.size,λ_ a=>jN a (Bo _)⟩,λk a c=>h.block k a (λe=>c (b k e.symm))⟩
def vE(O:Zp)(A B:N)(k:Nat):Prop:=O k\/(A.heap.size<=k/\k<B.heap.size)
def fY(h:∀k,p k->k<u.heap.size):sP p (vE p w u) w u:=by
 rintro k (a|a)
 .exact⟨h k a,jD a⟩
 exact⟨a.2,jE a.1⟩
def oG.step{l n:Zp}{f i:Zv}(h:oG p k f r p1 p2 w u)(t:∀a,p a->a<k)(E:k<=u.heap.size)(x:∀a,p2 a->k<=a)
 (e:u.grownBy v f.ownBlock) (y:∀a,a<u.heap.size->f.ownBlock≠some a->i.ownBlock≠some a) (o:l=vE p2 u v)
 (A:∀w1,qR k w1 i (r++[z])->(∀a,a<u.heap.size->f.ownBlock=some a->i.ownBlock≠some a->w1.heap[a]? =v.heap[a]?)->qR k w1 f r)
 (d:oG p k i (r++[z]) l n v w1):oG p k f r p1 n w w1:=by
 have m:∀a,p2 a->l a:=λa b=>o▸jD b;have F:=e.size;have G:=h.below.size;refine⟨h.below.trans (zT ⟨e.os,e.tape,e.output,e.size,λa b=>jN b (Bo _)⟩ d.below),?_,?_,?_,?_,?_,d.lt⟩
 .intro a b
  have H:=t a b;rw[d.kk a b,e.block a (by omega) (λg=>by have:=x a (h.jp a g.symm);omega),h.kk a b]
 .intro a b B j
  obtain⟨c,C⟩:=h.own a b B j;have q:=d.own a (by omega) (m a C) (y a (by omega) j);exact⟨by rw[q.1,e.block a (by omega) (λg=>j g.symm)];exact c,q.2⟩
 .refine A w1 d.here (λa b j g=>?_)
  exact(d.own a (by omega) (m a (h.jp a j)) g).1
 .intro g s
  by_cases c:i.ownBlock=some g
  .exact d.jp g c
  exact(d.own g (by have:=h.lt g (h.jp g s);omega) (m g (h.jp g s)) c).2
 intro a b;rcases d.new a b with c|c
 .rw[o] at c
  rcases c with c|c
  .exact h.new a c
  exact jE (by omega)
 exact jE (by omega)
def KQ{a b:Zv}(i:qR k w a r)(j:Zb w u)(n:(∃g e,a=Zx g r.length e/\b=Zx g (r.length+1) e/\u.grownBy v (some g))\/(b.ownBlock=some u.heap.size/\Zb u v)):
 (∀g,b.ownBlock=some g->a.ownBlock=some g\/w.heap.size<=g)/\∀c,qR k c b (r++[z])->(∀d,d<w.heap.size->a.ownBlock=some d->b.ownBlock≠some d->c.heap[d]? =v.heap[d]?)->qR k c a r:=by
 have o:=j.size;rcases n with⟨g,e,rfl,rfl,f⟩|⟨l,p⟩
 .exact⟨λg h=>jD h,λc m _=>AR m (by simp)⟩
 refine⟨λg h=>jE (by rw[l] at h;cases h;exact o),λc m m=>vT i (λg f=>?_)⟩;have h:=(kO i g f).2;rw[m g h f (λm=>by rw[l] at m;cases m;omega),p.block g (by omega),j.block g h]
def oG.start{e:Zv}{x:zI}(m:∀a,p a->a<w.heap.size)(f:∀a,p1 a->a<w.heap.size)(n:qR k w e r)(i:∀g,e.ownBlock=some g->p1 g)(c:Zb w u)(d:KR p (vE p1 w u) u v)(o:∀a,tD x a->w.heap.size+1<=a):
 oG p k e r p1 (λa=>vE p1 w u a/\¬tD x a) w v:=by
 have q:=c.size;have s:=d.below.size;have j:∀a,p1 a->v.heap[a]? =w.heap[a]?:=λa b=>by
  have:=f a b;rw[d.block a (by omega) (jE (jD b)),c.block a this]
 have l:∀a,p1 a->(vE p1 w u a/\¬tD x a):=λa b=>⟨jD b,λh=>by have:=o a h;have:=f a b;omega⟩;refine⟨(c.mono (jY _)).trans d.below,λa b=>?_,λa _ b _=>⟨j a b,l a b⟩,vT n (λg h=>j g (i g h)),λg h=>l g (i g h),?_,?_⟩
 .have:=m a b
  rw[d.block a (by omega) (jD b),c.block a this]
 .rintro a ⟨b|b,_⟩
  .exact jD b
  exact jE b.1
 rintro a ⟨b|b,_⟩
 .have:=f a b;omega
 omega
end Go.Proofs.YtohdnhlfpldbmaaGreat
