import Derived.Laws.Cover1
import Derived.RangeFuncLeaves
import Derived.Test.YtohdnhlfpldbmaaGreatJoined5
set_option maxRecDepth 100000
set_option maxHeartbeats 32000000
set_option linter.all false
namespace Go.Proofs.YtohdnhlfpldbmaaGreat
open Go.RowKit Go.Maps
open Go.Proofs.Tryz renaming prog->Zf
attribute [local go_sem ↓] Go.wp_at_zero Go.wp_at_succ
variable {k n m i j n1 n2 n3 n4 n5 n6 n7 n8 n9:Nat}{w u v w1 w2 w3 w4 w5:N}{x y x1 x2 x3 x4 x5 x6 x7 x8 x9:Value}{r r1 r2:Zn}{p p1 p2:Zp}{z z1 z2 z3:Int}{a a1 a2 a3 a4:Zo}{t s t1 t2:T}{c d c1 c2:Zc}{g g1 g2:TypeId}{b b1 b2:Zs}{l l1:Zt}{U V U1 U2:Zu}{B B1:Bool}
attribute [local go_sem] Oper.semAt_some
def YV{J T':Zp->List zI->N->Prop}{ap:List (Zn×T)}(U:∀b,p b->b<w.heap.size)
 (hJ:∀O V pre A B,J O pre A->jR O A B->sP O V A B->J V pre B)
 (hY:∀O pre x A,J O pre A->pM ap p w pre x A->(∀b,tD x b->O b)->YieldAt Fence.wide 0 Zf k (Fm x) A λg B=>KR p O A B/\((g=.returned (.bool true)/\J (λb=>O b/\¬tD x b) (pre++[x]) B)\/(g=.returned (.bool false)/\T' (λb=>O b/\¬tD x b) (pre++[x]) B)))
 (ac:Nat):∀(t:T)(q:Zo)(u:Nat)(v:Zv)(c:Zn)(O:Zp)(pre:List zI)(M:List (Zn×T))(A:N),t.E<=ac->c.length+t.E<=1000->J O pre A->(∀b,p b->A.heap[b]? =w.heap[b]?)->w.heap.size<=A.heap.size->(∀b,O b->w.heap.size<=b/\b<A.heap.size)->
   qR w.heap.size A v c->(c=[]->v=.slice none 0 0)->(∀l,v.ownBlock=some l->O l)->jT p w t.e q->ap=pre.map zI.val++(zR t c++M)->
   CallsIn Fence.wide 0 Zf 175 #[.agg #[Y t.v,Y t.f,.slice q t.e.length u],v,.func (.yield k) #[] #[]] A (II J T' p w.heap.size (zR t c) v c O pre A):=by
 have b4:Zf.follows .mixedOrders=true:=by kernel_rfl
 induction ac with
 |zero=>intro t q u v c O pre M A hN;have:=t.I;omega
 |succ ac ih=>
  intro t q u v c O pre M A hN b5 ad aq ar ae af au av ag ah;have bm:=X ih;have b6:=T.M t;have b7:t.e.length<=1000:=by have:=T.length_le t.e;omega
  obtain⟨r,y⟩:=Ze ((A.alloc (.cells #[Y t.v,Y t.f,.slice q t.e.length u] 43)).drew);have P:Zb A r:=by rw[y];exact xH (jG A _)
  have aw:r.heap.size=A.heap.size+1:=y▸qE _ _;have p0:r.cell? ⟨A.heap.size,0,none⟩=some (Y t.v):=by rw[y];exact fL A _ _ _ 0
  have p1:r.cell? ⟨A.heap.size,1,none⟩=some (Y t.f):=by rw[y];exact fL A _ _ _ 1
  have p2:r.cell? ⟨A.heap.size,2,none⟩=some (.slice q t.e.length u):=by rw[y];exact fL A _ _ _ 2
  have ax:=X (MA r (by omega) (qR.below af P) au)
  have HR:Hid (∀(C:Zo)(Q:Nat)(e:N),Zb r e->jV e c C->(∀b R,C=some ⟨b,R,none⟩->r.heap.size<=b/\b<e.heap.size)->
   YieldAt Fence.wide 0 Zf k #[.slice C c.length Q,.agg #[Y t.v,Y t.f,.slice q t.e.length u]] e λg B=>∃E,g=.returned (.bool E)/\KR p (vE O A e) e B/\(E=true->∃x,x.val=(c,t)/\(∀b,tD x b->A.heap.size+1<=b)/\J (λb=>vE O A e b/\¬tD x b) (pre++[x]) B)/\(E=false->∃V bn,T' V bn B)):=X (by
   intro C Q e F hi hp;have ay:=P.trans (F.mono P.size);have f:=hJ O _ pre A e ad (jR.A ay) (fY (λb s=>kV (ae b s).2 ay.size))
   have hy:=hY (vE O A e) pre ⟨c,t,C,Q,q,u⟩ e f ⟨⟨zR.plcsL t.e c 0++M,by rw[ah,Qc];rfl⟩,hi,ag⟩ (by
    rintro b ⟨R,ho⟩;have h:=hp b R ho
    exact jE ⟨by omega,h.2⟩)
   refine YieldAt.mono (Lw hy) ?_;rintro g B ⟨E,rfl,h,h2,h3⟩;refine⟨E,rfl,h,λF=>⟨_,rfl,?_,h2 F⟩,λF=>⟨_,_,h3 F⟩⟩;rintro b ⟨R,ho⟩;have:=(hp b R ho).1
   omega)
  have i:=X (jM ad (jM aq (jM ar (jM ae (jM af (jM av (jM ag ah)))))));have ai:=X P;have bo:=X aw;have az:=X y;clear ad aq ar ae af au av ag ah ih P aw y;refine callsIn_of_wp Tryz.func175 rfl trivial ?_ rfl;simp only[Tryz.ntmps175,Es,xI,mZ,Nat.reduceAdd,Nat.reduceSub,Gs,Gt,It,Il,nQ,dW];gi_wp2
  gi_region_with_o (first
   |(refine⟨trivial,rfl,?_⟩
     gi_at_call 194;rw[<-az.out];refine(callsIn_wide.2 ax).mono ?_;rintro g e ⟨C,Q,rfl,a0,a1,I⟩;have q0:=jP I p0;have q1:=jP I p1;have q2:=jP I p2;obtain⟨fn,b8,b9,ca,hy,hR⟩:=HR C Q e I a0 a1;have a2:=X hR;have a3:=X I
     clear hR I a0 a1)
   |(refine⟨rfl,a2.mono ?_⟩
     rintro g cb ⟨E,rfl,aj,a4,a5⟩;have r2:=(kH (w:=e) (a:=⟨A.heap.size,2,none⟩) (aj.block A.heap.size (kA q2) (jE (jE ⟨jF _,kA q2⟩)))).trans q2;have a6:=X aj;have a7:=X a4;have a8:=X a5
     clear aj a4 a5 hy))
  all_goals (
   clear p0 p1 p2 q0 q1 q2 ax HR a2 az
   cases E with
   |false=>
    gi_wp2;go_ret;exact⟨false,rfl,λG=>(by cases G),λ_=>a8 trivial⟩
   |true=>
    obtain⟨x,a9,ba,bb⟩:=a7 rfl;have bp:=X (oG.start (λb s=>kV (U b s) i.2.2.1) (λb s=>(i.2.2.2.1 b s).2) i.2.2.2.2.1 i.2.2.2.2.2.1 (ai.trans (a3.mono ai.size)) a6 ba);have bq:=X bb;have br:=X a9;clear a6 a7 a8 a9 ba bb a3 ai bo;gi_wp2;gi_loopw [18] (λak wr=>∃(b:Nat)(H:Zp)(m:List zI),b<=t.e.length/\ak=Y b/\Hid (zR t c=m.map zI.val++zR.plcsL (t.e.drop b) c (b:Int))/\Hid (J H (pre++m) wr)/\Hid (oG p w.heap.size v c O H A wr)) (λak _=>t.e.length - (intOf ak).toNat)
    case atStart=>exact⟨0,_,[x],jY _,rfl,X (by rw[Qc,uU,List.map_singleton,br.out];rfl),bq,bp⟩
    case round=>
     obtain⟨b,H,m,s,rfl,W,HJ,d⟩:=hrel;by_cases bs:b<t.e.length
     .obtain⟨S,al,rfl⟩:=dV i.2.2.2.2.2.2.1 (by omega)
      obtain⟨x,Z⟩:=Zg bs;obtain⟨n,o,bc,d0,d1,d2,bd⟩:=dT i.2.2.2.2.2.2.1 Z;have aa:=(d.kk S bc).trans (i.2.1 S bc);have k0:=(kH (w:=w) (a:=⟨S,al+b*3,none⟩) aa).trans d0;have k1:=(kH (w:=w) (a:=⟨S,al+b*3+1,none⟩) aa).trans d1;have k2:=(kH (w:=w) (a:=⟨S,al+b*3+2,none⟩) aa).trans d2;have cc:=T.W (jU Z);have Hx:=X Z;have bt:=X bd;have cd:(b:Int)<t.e.length:=(by omega);have ce:(0:Int)<=b:=(by omega);have bu:=d.below.size;have HO:=X (λK(hh:K.heap=((wr.alloc (.cells #[Y x.v,Y x.f,.slice n x.e.length o] 43)).alloc (.cells #[Y (b:Int)] 3)).heap)=>vT d.here (u:=K) (λl L=>by rw[hh];exact(kF wr _ _).block l (kO d.here l L).2))
      have HC:=X (λ(K:N)(hh:K.heap=((wr.alloc (.cells #[Y x.v,Y x.f,.slice n x.e.length o] 43)).alloc (.cells #[Y (b:Int)] 3)).heap)=>(show K.cell? ⟨wr.heap.size+1,0,none⟩=some (Y (b:Int)) from by
       rw[kH (w:=(wr.alloc (.cells #[Y x.v,Y x.f,.slice n x.e.length o] 43)).alloc (.cells #[Y (b:Int)] 3)) (a:=⟨wr.heap.size+1,0,none⟩) (by rw[hh])]
       exact jJ 0 (by simp)))
      have am:Hid (∀j,H j->w.heap.size<=j):=X (λj f=>by
       rcases d.new j f with h|h
       .exact(i.2.2.2.1 j h).1
       exact kN i.2.2.1 h)
      have bv:c.length<=1000:=(by omega);have be:=kN i.2.2.1 bu;have e0:(wr.alloc (.cells #[Y x.v,Y x.f,.slice n x.e.length o] 43)).cell? ⟨wr.heap.size,0,none⟩=some (Y x.v):=fL wr _ _ _ 0;have e1:(wr.alloc (.cells #[Y x.v,Y x.f,.slice n x.e.length o] 43)).cell? ⟨wr.heap.size,1,none⟩=some (Y x.f):=fL wr _ _ _ 1;have e2:(wr.alloc (.cells #[Y x.v,Y x.f,.slice n x.e.length o] 43)).cell? ⟨wr.heap.size,2,none⟩=some (.slice n x.e.length o):=fL wr _ _ _ 2;clear Z bd d0 d1 d2 aa r2;gi_wp2;refine wpIn_wide.2 ?_
      go_region_law ((first
       |(refine jDr rfl (.tmp 24) (.tmp 26) rfl w.heap.size v c rfl (HO _ rfl) ⟨wr.heap.size+1,0,none⟩ 1 (b:Int) rfl (HC _ rfl) bv (by simp;omega) ?_
         intro v6 w6 bf ab;have HA:=X (KD (z:=(b:Int)) d.here (by exact⟨rfl,rfl,rfl,(kF wr _ _).size,(kF wr _ _).block⟩) ab);have HB:=X (KQ (z:=(b:Int)) d.here (by exact⟨rfl,rfl,rfl,(kF wr _ _).size,(kF wr _ _).block⟩) ab);have bg:=X bf;have bh:=HA.1.size;have bi:w6.heap[wr.heap.size]? =((wr.alloc (.cells #[Y x.v,Y x.f,.slice n x.e.length o] 43)).alloc (.cells #[Y (b:Int)] 3)).heap[wr.heap.size]?:=by
          rcases ab with⟨l,cf,e1,_,L⟩|⟨_,F⟩
          .exact L.block wr.heap.size (by simp;omega) (λg=>by have h9:=(kO d.here l (by rw[e1];rfl)).2;simp at g;omega)
          exact F.block wr.heap.size (by simp;omega)
         obtain⟨z0,z1,z2,_,_,_⟩:=((jK.new 43 rfl).alloc _).same bi
         clear bf ab bi)
       |(go_simp
         go_at_call 175
         refine(callsIn_wide.1 (bm x n o v6 (c++[(b:Int)]) (vE H wr w6) (pre++m) (zR.plcsL (t.e.drop (b+1)) c ((b+1:Nat):Int)++M) w6 (by omega) (by rw[qB,Ir];omega) ?_ ?_ (by omega) ?_ bg ?_ ?_ bt ?_)).mono ?_
         .exact hJ H _ _ wr w6 HJ (Xm HA.1 d.jp) (fY (λb s=>kV (d.lt b s) bh))
         .exact λj f=>((HA.1.block j (kV (U j f) be) (λg=>by have h:=am j (d.jp j g.symm);have h2:=U j f;omega)).trans (d.kk j f)).trans (i.2.1 j f)
         .rintro j (f|f)
          .exact⟨am j f,kV (d.lt j f) bh⟩
          exact⟨by omega,f.2⟩
         .intro G;simp at G
         .intro l L
          rcases HB.1 l L with h|h
          .exact jD (d.jp l h)
          exact jE ⟨h,(kO bg l L).2⟩
         .rw[i.out.2.2.2.2.2.2.2,W.out,AY Hx.out,nP]
          simp only[dH]
         rintro g w7 ⟨bw,rfl,an,ao⟩)))
      all_goals (
       cases bw with
       |false=>
        have bx:=X ao;clear ao an;gi_wp2;go_ret;exact⟨false,rfl,λG=>(by cases G),λ_=>bx trivial⟩
       |true=>
        obtain⟨O7,x7,bj,bk,bl⟩:=an rfl;have bz:Hid (zR t c=(m++x7).map zI.val++zR.plcsL (t.e.drop (b+1)) c ((b+1:Nat):Int)):=X (by rw[W.out,AY Hx.out,nP,bj,dH]);have b0:Hid (J O7 (pre++(m++x7)) w7):=X (by rw[<-dH];exact bk);have b1:=X (d.step U be am HA.1 HA.2.1 rfl HB.2 bl);clear an ao bj bk bl;gi_wp2
        go_roundw
        case rel=>exact⟨b+1,O7,m++x7,by omega,by go_num,bz,b0,b1⟩
        case measure=>simp[intOf];omega)
     have b2:b=t.e.length:=(by omega);subst b2;have b3:Hid (m.map zI.val=zR t c):=X (by rw[W.out,dX,AZ,zU]);clear W r2;gi_wp2;go_ret
     exact⟨true,rfl,λ_=>⟨H,m,b3,HJ,d⟩,λG=>(by cases G)⟩)
attribute [local go_sem] Oper.semAt_some
def YX(q:∀e,p e->e<w.heap.size)(f:p k)(r:t.E<=1000)(i:jT p w t.e a)
 (j:w.cell? (D k 0)=some (Y t.v)) (b:w.cell? (D k 1)=some (Y t.f)) (c:w.cell? (D k 2)=some (.slice a t.e.length n)):
 uQ Zf 174 #[Zr k] Fm tD (pM (zR t []) p w) (λg=>g.map zI.val=zR t []) p w:=by
 intro s J x W u d l y m o;have z:=(kH (w:=w) (a:=(D k 0)) (d k f)).trans j;have A:=(kH (w:=w) (a:=(D k 1)) (d k f)).trans b;have B:=(kH (w:=w) (a:=(D k 2)) (d k f)).trans c;have v:=X (YV q l m t.E t a n (Zd) [] (λ_=>False) [] [] W (jF _) (by simpa using r) o d u (λe h=>h.elim) ⟨rfl,jD ⟨rfl,rfl⟩⟩ (λ_=>rfl) (λh h=>by cases h) i (by simp));clear j b c i o m l;show CallsIn Fence.wide 0 Zf 174 #[.func (.yield s) #[] #[],Zr k] W _;refine callsIn_of_wp Tryz.func174 rfl trivial ?_ rfl;simp only[Tryz.ntmps174,Es,xI,mZ,Nat.reduceAdd,Nat.reduceSub,Gs,Gt,It,Il,nQ,dW];gi_wp2_with (refine⟨trivial,rfl,?_⟩;refine v.mono ?_;rintro m o ⟨i,rfl,h,j⟩)
 go_end0
 refine⟨⟨_,rfl⟩,?_⟩
 cases i with
 |true=>
  obtain⟨l,g,b,c,C⟩:=h rfl;exact jD ⟨l,g,b,c⟩
 |false=>exact jE (j rfl)
def RO(b:l[k]? =some t):xC.greatL (l.take (k+1)) z=max (xC.greatL (l.take k) z) (xC t):=by
 have e:l.take (k+1)=l.take k++[t]:=by rw[vZ,b];rfl
 rw[e];have c:∀(a:Zt)(z:Int),xC.greatL (a++[t]) z=max (xC.greatL a z) (xC t):=by
  intro a;induction a with
  |nil=>intro z;rfl
  |cons d a a=>intro z;exact a _
 exact c _ _
def VW(h:z<z1):max z z1=z1:=by omega
def VV(h:¬z<z1):max z z1=z:=by omega
def Wn(f:Nat):∀(t:T)(d:Zo)(g:Nat)(w:N),t.E<=f->t.E<=1000->InL w t.e d->
 Calls Zf 173 #[.agg (Zj t d g)] w λh s=>h=.returned (Y (xC t))/\Zb w s:=by
 induction f with
 |zero=>intro t d g w C;have:=t.I;omega
 |succ f a=>
  intro t d g w b c e;have i:=T.M t;have E:t.e.length<=1000:=by have:=T.length_le t.e;omega
  have u:=X a;have l:=X e;have v:=X (Kg t);have m:=X (jM b (jM c i));clear a e b c i
  go_in
  go_wp2
  go_loopw [3,11] (λj i wr=>∃k:Nat,k<=t.e.length/\i=Y k/\j=Y (xC.greatL (t.e.take k) t.v)/\Hid (Zb w wr)) (λ_ i _=>t.e.length - (intOf i).toNat)
  case atStart=>exact⟨0,jY _,rfl,rfl,X (jG _ _)⟩
  case round=>
   obtain⟨k,F,rfl,rfl,a⟩:=hrel;by_cases y:k<t.e.length
   .have i:=jI a l
    obtain⟨H,I,rfl⟩:=dV l (by omega);obtain⟨x,c⟩:=Zg y;obtain⟨z,A,_,n,o,p,q⟩:=dT i c;have B:=xJ (jU c);have b:=X (λe=>u x z A (wr.alloc e) (by have:=m.out;omega) (by have:=m.out;omega) (jS e q));have e:=X (RO (z:=t.v) c);obtain⟨G,j⟩:=Ze (xC x);obtain⟨M,r⟩:=Ze (xC.greatL (t.e.take k) t.v);rw[<-j] at b e;rw[<-r] at e ⊢;clear j r B c i q;by_cases q:M<G
    .have i:=X (VW q)
     go_wp2_with fail
     refine(b _).mono ?_;rintro h r ⟨rfl,c⟩;have j:=X ((a.alloc a.size _).trans (c.mono (by simp;have:=a.size;omega)));clear c b n o p
     go_wp2_with fail
     go_roundw
     case rel=>exact⟨k+1,by omega,by go_num,by rw[e.out,i.out],X j⟩
     case measure=>simp[intOf];omega
    have i:=X (VV q)
    go_wp2_with fail
    refine(b _).mono ?_;rintro h r ⟨rfl,c⟩;have j:=X ((a.alloc a.size _).trans (c.mono (by simp;have:=a.size;omega)));clear c b n o p
    go_wp2_with fail
    go_roundw
    case rel=>exact⟨k+1,by omega,by go_num,by rw[e.out,i.out],X j⟩
    case measure=>simp[intOf];omega
   obtain rfl:k=t.e.length:=by omega
   rw[qU,<-v.out];go_wp2;go_ret;exact⟨rfl,a⟩
def RN{x:Lit}(a:c[k]? =some x):xK (c.take (k+1)) z=max (max (xK (c.take k) z) (xC x.2.1)) (xC x.2.2):=by
 have e:c.take (k+1)=c.take k++[x]:=by rw[vZ,a];rfl
 rw[e];have b:∀(l:Zc)(z:Int),xK (l++[x]) z=max (max (xK l z) (xC x.2.1)) (xC x.2.2):=by
  intro l;induction l with
  |nil=>intro z;rfl
  |cons f l d=>intro z;exact d _
 exact b _ _
def Ib(d:Zc)(y:Zo)(H:Nat)(w:N)(W:d.length<=1000)(b:∀x,x∈d->xO x)(c:kR w d y):
 Calls Zf 140 #[.slice y d.length H] w λj a=>j=.returned (Y (xK d 0))/\Zb w a:=by
 have z:=X c;have I:=X b;clear c b
 go_in
 go_wp2
 go_loopw [3,8] (λq i wr=>∃k:Nat,k<=d.length/\i=Y k/\q=Y (xK (d.take k) 0)/\Hid (Zb w wr)) (λ_ i _=>d.length - (intOf i).toNat)
 case atStart=>exact⟨0,jY _,rfl,rfl,X (jW _ _)⟩
 case round=>
  obtain⟨k,Z,rfl,rfl,e⟩:=hrel;by_cases J:k<d.length
  .obtain⟨x,f⟩:=Zg J
   obtain⟨aa,ab,rfl⟩:=zN z (by omega);obtain⟨l,m,n,o,K,L,M,O,P,Q,R,i1,i2⟩:=dZ (kL e z) f;have ac:(k:Int)<d.length:=(by omega);have ad:(0:Int)<=k:=(by omega);obtain⟨c,g⟩:=Ze (wr.alloc (.cells #[.bool x.1,Y x.2.1.v,Y x.2.1.f,Zk l x.2.1.e m,Y x.2.2.v,Y x.2.2.f,Zk n x.2.2.e o] 47));have S:=X g;have h:Zb wr c:=g▸jG _ _;have U:L7 c wr.heap.size 0 x l m n o:=g▸L7.new _ rfl;have A:=X (e.trans (h.mono e.size));have p:=I x (jU f);have B:=X (λa b=>Wn _ x.2.1 l m a (jF _) p.1 (jI b (jI h i1)));have C:=X (λa b=>Wn _ x.2.2 n o a (jF _) p.2 (jI b (jI h i2)));have i:=X (RN (z:=0) f);obtain⟨ae,E⟩:=Ze (xC x.2.1);obtain⟨af,F⟩:=Ze (xC x.2.2);obtain⟨ag,G⟩:=Ze (xK (d.take k) 0);rw[<-E] at B i;rw[<-F] at C i;rw[<-G] at i ⊢;obtain⟨V,q,r,s,t,u,v⟩:=U;simp only[kK] at q r s t u v;have b1:=λ(a:N)(b:Zb c a)=>jH b q;have b2:=λ(a:N)(b:Zb c a)=>jH b r;have b3:=λ(a:N)(b:Zb c a)=>jH b s;have b4:=λ(a:N)(b:Zb c a)=>jH b t;have b5:=λ(a:N)(b:Zb c a)=>jH b u;have b6:=λ(a:N)(b:Zb c a)=>jH b v;have ah:=jW c.heap.size c;clear E F G g h i1 i2 f p V q r s t u v
   go_upto_region 5 with fail
   rw[<-S.out];clear K L M O P Q R
   go_region_held3 (λa=>Zb c a) ((first|with_reducible exact f.out|with_reducible exact b.out|((go_grown<;>(first|exact f|exact b));done)|go_keep)) ((first
    |(go_at_call 173
      with_reducible refine(B.out _ ?_).mono ?_
      focus ((go_grown);done)
      rintro j h ⟨rfl,g⟩;have b:Hid (Zb c h):=by
       refine zT ?_ (g.mono ?_)
       .go_grown
       first|omega|(simp;done)
      clear g)
    |(go_at_call 173
      with_reducible refine(C.out _ ?_).mono ?_
      focus ((go_grown<;>exact b);done)
      rintro j h ⟨rfl,g⟩;have f:Hid (Zb c h):=by
       refine zT ?_ (g.mono ?_)
       ·(go_grown<;>exact b)
       first|omega|(have:=b.size;simp;omega)|(simp;done)
      clear g)))
   all_goals
    go_wp2_with fail
    go_roundw
    case rel=>exact⟨k+1,by omega,by go_num,by rw[i.out];congr 1;omega,X (A.trans (f.mono A.size))⟩
    case measure=>simp[intOf];omega
  obtain rfl:k=d.length:=by omega
  rw[qU];go_wp2;go_ret;exact⟨rfl,e⟩
def BM(F:Zn)(ag:0<=z)(ah:z<=1000)(n:Nat):∀(t:T)(f:Zo)(i:Nat)(w:N),t.E<n->t.E<=1000->jQ F t->InL w t.e f->
 Calls Zf 157 #[.agg #[Y t.v,Y t.f,.slice f t.e.length i],Y z] w λg c=>
  ∃d j,g=.returned (.agg #[Y (yO z t).v,Y (yO z t).f,.slice d (yO z t).e.length j])/\jT (λk=>w.heap.size<=k) c (yO z t).e d/\Zb w c:=by
 induction n with
 |zero=>intro t f i w G;omega
 |succ n e=>
  intro t f i w G ht a h;have H:=X e;have ai:=Ga a t (Lf t);have aj:=T.M t;have I:=X a;clear e a;by_cases l:t.v=0
  .rw[yO,mA l]
   obtain⟨L,e⟩:=Ze (t.e.map (sub (Dt z)));have p:L.length=t.e.length:=(by rw[e];simp);have J:=X (show ∀(k:Nat)(x:T),t.e[k]? =some x->L[k]? =some (yO z x) from λk x a=>by rw[e];simp[a,yO]);rw[<-e];show Calls _ _ _ _ λg c=>∃d j,g=.returned (.agg #[Y 0,Y t.f,.slice d L.length j])/\jT (λk=>w.heap.size<=k) c L d/\Zb w c;have ak:t.e.length<=1000:=(by have:=T.length_le t.e;omega);have K:=X h;have a:=Lk t.e.length (by omega);have u:(t.v !=0)=false:=(by simpa using l);clear e h l;obtain⟨e,h⟩:=Ze (((w.alloc (.cells #[Y t.v,Y t.f,.slice f t.e.length i] 43)).alloc (.cells #[Y 0,Y 0,Zd] 43)));have q:Hid (jK e w.heap.size (Y t.v) (Y t.f) (.slice f t.e.length i)):=(by rw[h];exact((jK.new 43 rfl).alloc _));have r:Hid (jK e (w.heap.size+1) (Y 0) (Y 0) (Zd)):=(by rw[h];exact(jK.new 43 (by simp)));have s:Hid (Zb w e):=h▸kF _ _ _;have m:e.heap.size=w.heap.size+2:=(by rw[h];simp);have x:=X h;clear h;go_enter Tryz.func157,Tryz.ntmps157
   go_upto_region 3 with fail
   rw[<-x.out];obtain⟨M,O,P,_,_,_⟩:=q.out
   go_cut [5] (λy wc=>∃h o,y=Zr o/\Mk w wc 0 t.f t.e.length L 0 h o/\Hid (Zb e wc))
   case first=>
    go_region
    all_goals (go_wp2_with fail;go_meet)
    .refine⟨w.heap.size+2,w.heap.size+2+1,rfl,Mk.start ?_ ?_ ?_ ?_ (by omega) (by omega) (by omega),?_⟩
     .rw[<-m];exact(zL (e.alloc _) _ _ (by simp)).trans (bR e _)
     .exact jK.same (jK.new 43 (by rw[qE,m])) rfl
     .exact jK.same ((r.out.alloc _).alloc _) rfl
     .exact xH (s.out.trans ((kF _ _ _).mono (by omega)))
     exact xH (kF _ _ _)
    refine⟨w.heap.size+2+1,w.heap.size+2,rfl,Mk.start ?_ ?_ ?_ ?_ (by omega) (by omega) (by omega),?_⟩
    .have y:=bR (e.alloc (.cells #[Y 0,Y t.f,Zx (w.heap.size+2+1) t.e.length t.e.length] 43)) (.cells (tZ t.e.length) 43)
     rw[qE,m] at y;exact y
    .exact jK.same ((jK.new 43 m.symm).alloc _) rfl
    .exact jK.same ((r.out.alloc _).alloc _) rfl
    .exact xH (s.out.trans ((kF _ _ _).mono (by omega)))
    exact xH (kF _ _ _)
   case rest=>
    obtain⟨h,o,rfl,y,Q⟩:=hcut;have R:=X y;obtain⟨M,O,P,_,_,_⟩:=q.out.below Q.out;clear y a q r s x m;go_wp2
    go_loopw [26] (λm wr=>∃(k:Nat),k<=t.e.length/\m=Y k/\Mk w wr 0 t.f t.e.length L k h o) (λm _=>t.e.length - (intOf m).toNat)
    case atStart=>exact⟨0,jY _,rfl,R⟩
    case round=>
     obtain⟨k,hk,rfl,a⟩:=hrel;have m:=X a;have q:=X (jI a.below K);obtain⟨d0,d1,d2,g0,g1,g2⟩:=a.res;obtain⟨p0,p1,p2,_,_,_⟩:=a.made;have al:=a.gl;have am:=a.made.lt;have an:=a.gg;clear a;by_cases r:k<t.e.length
     .obtain⟨b',s,rfl⟩:=dV q (by omega)
      obtain⟨o,a⟩:=Zg r;obtain⟨S,U,_,k0,k1,k2,x⟩:=dT q a;have y:o.E<n/\o.E<=1000:=by
       have:=T.W (jU a);omega
      have V:=X (J k o a);have W:=X (xF I (jU a));have Z:=X (m.behind r);have aa:=X x;clear a x;have ab:=X (λa=>Ef (w:=wr.alloc a) (u:=(wr.alloc a).drew) rfl (jS a aa));have ao:w.heap.size+1<wr.heap.size:=by omega
      go_wp2_with fail
      go_region_with (go_at_call 157;refine(H o S U _ y.1 y.2 W (ab _)).mono ?_;rintro g w2 ⟨a2,ap,rfl,ac,x⟩;have A:=dN x;clear x;obtain⟨q2,⟨v0,v1,v2,e0,u,e2⟩,a⟩:=Z _ w2 A;have q0:=a (k*3);have q1:=a (k*3+1);have q3:=a (k*3+2);clear a)
      all_goals
       go_wp2_with fail
       go_roundw
       case rel=>exact⟨k+1,by omega,by go_num,m.step p V A ac⟩
       case measure=>simp[intOf];omega
     have ad:k=t.e.length:=(by omega);subst ad;have HF:=X (m.fin p);have ae:=X (m.res.set (Y 0) (Y t.f) (Zx h t.e.length t.e.length));have af:=X m.below
     go_wp2_with fail
     obtain⟨B,C,E,_,_,_⟩:=ae;simp only[qZ,kK] at B C E;exact qS (v:=.agg #[Y 0,Y t.f,Zx h t.e.length t.e.length]) (by simp[results,Tryz.results157,go_sem,B,C,E]) rfl ⟨some (D h 0),t.e.length,by rw[p],kQ (λh hj=>by omega) (xN (λh hj _=>xQ (k:=w.heap.size+1) (n:=0) (show h≠_ by omega)) HF),xZ (n:=w.heap.size+1) (m:=0) af (by omega) _ _ _⟩
  rw[yO,mR l,Dt];show Calls _ _ _ _ λg c=>∃d j,g=.returned (.agg #[Y (t.v+z),Y 0,.slice d 0 j])/\jT (λk=>w.heap.size<=k) c [] d/\Zb w c;have u:(t.v !=0)=true:=by simpa using l
  go_in
  go_wp2_with fail
  exact qS (by simp[results,Tryz.results157,go_sem]) rfl ⟨none,0,rfl,dU,kF _ _ _⟩
def ZK{x:Lit}(a:c[k]? =some x):pD z (c.take (k+1))=pD z (c.take k)++[(x.1,yO z x.2.1,yO z x.2.2)]:=Yf a
def EM(x:Zc×Int)(e:Ending)(b:N):Prop:=∃a c,e=.returned (.tuple #[.slice a x.1.length c,Y x.2])/\kR b x.1 a
def JY(cc:Nat)(R:Nat)(ah:c.length<=1000)(ai:d.length<=1000)(g:qC r c)(f:qC r d)(m:kR w c a)(hd:kR w d a1):
 Calls Zf 126 #[.slice a c.length cc,.slice a1 d.length R] w λE b=>EM (zB c d) E b/\Zb w b:=by
 have aa:=Fq c 0 g ⟨by omega,by omega⟩;have ab:=Fq d 0 f ⟨by omega,by omega⟩;have i:=X (Ib c a cc w ah (mP g) m);have j:=X (λb e=>Ib d a1 R b ai (mP f) (kL e hd));obtain⟨Z,e⟩:=Ze (zB c d);rw[zB] at e;obtain⟨G,k⟩:=Ze (xK c 0);obtain⟨aj,l⟩:=Ze (xK d 0);rw[<-k] at i aa e;rw[<-l] at j ab e;have h:=X e;have o:=X (show zB c d=Z by rw[e,zB,<-k,<-l]);rw[o.out];have S:=X hd;have ak:=X f;have aw:=Qh d.length (by omega);clear k l e m hd g f o;obtain⟨ac,ad⟩:=aa;obtain⟨ax,ay⟩:=ab
 go_in
 go_wp2_with fail
 refine i.mono ?_;rintro E w1 ⟨rfl,e⟩;have f:=X e;have k:=X (j w1 e);clear e i j
 go_wp2_with fail
 refine k.mono ?_;rintro E g ⟨rfl,L⟩;have M:=X (f.trans (L.mono f.size));clear L k f;by_cases hm:1000<G+aj
 .have e:Z=([],2):=by rw[h.out,jB hm]
  subst e;clear h;go_wp2
  go_ret2
  exact⟨⟨none,0,rfl,trivial⟩,M⟩
 have i:Hid (Z=(if G=0 then d else pD G d,0)):=by show _=_;rw[h.out,jC hm]
 by_cases f:G=0
 .have e:Z=(d,0):=by rw[i.out,jB f]
  subst e;have eg:(G==0)=true:=by simpa using f
  clear h i f;go_wp2
  go_ret2
  exact⟨⟨a1,R,rfl,kL M S⟩,M⟩
 have e:Z=(pD G d,0):=by rw[i.out,jC f]
 have eg:(G==0)=false:=by simpa using f
 have al:=X (lS.start (k:=d.length) M);have am:=X (show Z.1.length=d.length by rw[e,pD];simp);have an:=X (show Z.1=pD G d by rw[e]);have ao:Z.2=0:=by rw[e]
 clear h i f e;go_wp2
 go_loopw [25] (λi wr=>∃(k:Nat),k<=d.length/\i=Y k/\Hid (lS w wr g.heap.size d.length (pD G (d.take k)))) (λi _=>d.length - (intOf i).toNat)
 case atStart=>exact⟨0,jY _,rfl,al⟩
 case round=>
  obtain⟨k,hk,rfl,l⟩:=hrel;have az:=l.below.size;have ae:=l.gl;by_cases af:k<d.length
  .obtain⟨x,O⟩:=Zg af
   obtain⟨a0,a2,rfl⟩:=zN S (by omega);obtain⟨y,z,A,B,k0,k1,k2,k3,k4,k5,k6,i1,i2⟩:=dZ (kL l.below S) O;have a3:(k:Int)<d.length:=(by omega);have a4:(0:Int)<=k:=(by omega);obtain⟨h,P⟩:=Ze (wr.alloc (.cells #[.bool x.1,Y x.2.1.v,Y x.2.1.f,Zk y x.2.1.e z,Y x.2.2.v,Y x.2.2.f,Zk A x.2.2.e B] 47));have ap:=X P;have i:Zb wr h:=P▸jG _ _;have m:L7 h wr.heap.size 0 x y z A B:=P▸L7.new _ rfl;have F:=ak x (jU O);have HA:=X (λ(b:N)(f:Zb h b)=>BM r ac ad (x.2.1.E+1) x.2.1 y z b (by omega) (by have:=F.1.1;omega) F.1.2 (jI (i.trans (f.mono i.size)) i1));have HB:=X (λ(b:N)(f:Zb h b)=>BM r ac ad (x.2.2.E+1) x.2.2 A B b (by omega) (by have:=F.2.1;omega) F.2.2 (jI (i.trans (f.mono i.size)) i2));have ag:Hid ((pD G (d.take k)).length=k):=(by show _=_;rw[pD,dY,yD];omega);obtain⟨H,hX⟩:=Ze (yO G x.2.1);obtain⟨I,hY⟩:=Ze (yO G x.2.2);have U:=X (ZK (z:=G) O);rw[<-hX] at HA U;rw[<-hY] at HB U;have aq:g.heap.size<h.heap.size:=kV ae i.size
   have ar:=X (λ(e:N)(J:Zo)(o:Nat)(K:Zo)(p:Nat)(L:Zb h e)(s:jT (λj=>h.heap.size<=j) e H.e J)(iB:jT (λj=>h.heap.size<=j) e I.e K)=>(show lS w (yJ e g.heap.size (k*7) (.bool x.1) (Y H.v) (Y H.f) (Zk J H.e o) (Y I.v) (Y I.f) (Zk K I.e p)) g.heap.size d.length (pD G (d.take (k+1))) from by
    have q:=lS.step (x:=(x.1,H,I)) (a:=J) (c1:=o) (a1:=K) (c2:=p) (l.keep (i.trans (L.mono i.size))) (by rw[ag.out];exact af) (kQ (λj o=>by omega) s) (kQ (λj o=>by omega) iB);rw[ag.out] at q;rw[U.out]
    exact q))
   have V:=X (λ(b:N)(f:Zb h b)=>(show Zq b wr.heap.size 0 (.bool x.1)/\Zq b wr.heap.size 1 (Y x.2.1.v)/\Zq b wr.heap.size (1+1) (Y x.2.1.f)/\Zq b wr.heap.size (1+2) (Zk y x.2.1.e z)/\Zq b wr.heap.size 4 (Y x.2.2.v)/\Zq b wr.heap.size (4+1) (Y x.2.2.f)/\Zq b wr.heap.size (4+2) (Zk A x.2.2.e B) from
    ⟨jH f m.e0,jH f m.e1,jH f m.e2,jH f m.e3,jH f m.e4,jH f m.e5,jH f m.e6⟩))
   have au:=X (λb f(o p q s t u v:Zv)=>(show(yJ b g.heap.size (k*7) o p q s t u v).cell? (D wr.heap.size 0)=some (.bool x.1)/\(yJ b g.heap.size (k*7) o p q s t u v).cell? (D wr.heap.size 1)=some (Y x.2.1.v)/\(yJ b g.heap.size (k*7) o p q s t u v).cell? (D wr.heap.size (1+1))=some (Y x.2.1.f)/\(yJ b g.heap.size (k*7) o p q s t u v).cell? (D wr.heap.size (1+2))=some (Zk y x.2.1.e z)/\(yJ b g.heap.size (k*7) o p q s t u v).cell? (D wr.heap.size 4)=some (Y x.2.2.v)/\(yJ b g.heap.size (k*7) o p q s t u v).cell? (D wr.heap.size (4+1))=some (Y x.2.2.f)/\(yJ b g.heap.size (k*7) o p q s t u v).cell? (D wr.heap.size (4+2))=some (Zk A x.2.2.e B) from by
    obtain⟨z0,z1,z2,z3,z4,z5,z6⟩:=V b f;have av:wr.heap.size≠g.heap.size:=(by omega);have C:∀{Q:Nat}{W:Zv},Zq b wr.heap.size Q W->(yJ b g.heap.size (k*7) o p q s t u v).cell? (D wr.heap.size Q)=some W:=λ {Q W}o=>by rw[kH (w:=b) (a:=(D wr.heap.size Q)) (Gg av)];exact o
    exact⟨C z0,C z1,C z2,C z3,C z4,C z5,C z6⟩))
   have o:=X (λ(b:N)(f:Zb h b)(j:Nat)(q:j<d.length*7)=>(show ∃u,Zq b g.heap.size j u from by
    obtain⟨u,p⟩:=l.cells j q
    exact⟨u,jP f (jP i p)⟩))
   have p:=X (λ(b:N)(f:Zb h b)(j:Nat)=>(show b.frozen? (D g.heap.size j)=false from by
    rw[f.frozen aq,i.frozen ae];exact l.fr j))
   have v:=X (jW h.heap.size h);clear P i m i1 i2 O F hX hY
   go_upto_region 10 with fail
   rw[<-ap.out];clear k0 k1 k2 k3 k4 k5 k6;obtain⟨P,Q,W,l3,l4,l5,l6⟩:=V h v
   go_region_held3 (λb=>Zq b wr.heap.size 0 (.bool x.1)/\Zq b wr.heap.size 1 (Y x.2.1.v)/\Zq b wr.heap.size (1+1) (Y x.2.1.f)/\Zq b wr.heap.size (1+2) (Zk y x.2.1.e z)/\Zq b wr.heap.size 4 (Y x.2.2.v)/\Zq b wr.heap.size (4+1) (Y x.2.2.f)/\Zq b wr.heap.size (4+2) (Zk A x.2.2.e B)) ((first|(refine V _ ?_;(go_grown<;>exact ‹Hid (Below _ _ _)›);done)|exact au _ f _ _ _ _ _ _ _|go_keep)) ((first
    |(go_at_call 157
      with_reducible refine(HA.out _ ?_).mono ?_
      focus ((go_grown);done)
      rintro E s ⟨J,C,rfl,t,m⟩;have i:Hid (Zb h s):=(by first|exact m|exact dN m);have F:=t
      clear t m)
    |(go_at_call 157
      with_reducible refine(HB.out _ ?_).mono ?_
      focus ((go_grown<;>exact i);done)
      rintro E e ⟨K,O,rfl,t,m⟩;have u:Hid (Zb s e):=(by first|exact m|exact dN m);have f:=X (i.trans (u.mono i.size));have s:=t;obtain⟨v0,e0⟩:=o e f (k*7) (by omega);obtain⟨v1,e1⟩:=o e f (k*7+1) (by omega);obtain⟨v2,e2⟩:=o e f (k*7+2) (by omega);obtain⟨v3,e3⟩:=o e f (k*7+3) (by omega);obtain⟨v4,e4⟩:=o e f (k*7+4) (by omega);obtain⟨v5,e5⟩:=o e f (k*7+5) (by omega);obtain⟨v6,e6⟩:=o e f (k*7+6) (by omega);have f0:=p e f (k*7);have f1:=p e f (k*7+1);have f2:=p e f (k*7+2);have f3:=p e f (k*7+3);have f4:=p e f (k*7+4);have f5:=p e f (k*7+5);have f6:=p e f (k*7+6)
      clear t m)))
   have m:=X (ar e J C K O f (jI u F) (kQ (λj q=>kN i.size q) s))
   go_wp2_with fail
   go_roundw
   case rel=>exact⟨k+1,by omega,by go_num,m⟩
   case measure=>simp[intOf];omega
  have e:k=d.length:=by omega
  subst e;rw[qU] at l;go_wp2
  go_ret2
  exact⟨⟨some (D g.heap.size 0),d.length,by rw[am.out,ao];rfl,by rw[an.out];exact l.end_⟩,l.below⟩
def CQ{a b c d e f h:Zv}(i:k=w.heap.size):∀(j:Nat)(u:Zv),[a,b,c,d,e,f,h][j]? =some u->
 (w.alloc (.cells #[a,b,c,d,e,f,h] g)).cell? (D k (0+j))=some u:=by
 intro j u l;rw[kK,jJ j i];simpa using l
def YN{v f:Zv}{x:Lit}(d:bE (λb=>b<k) w c U)(j:w.ownsRow k 47 7 v c.length U)(i1:jT (λb=>b<k) w x.2.1.e a)(i2:jT (λb=>b<k) w x.2.2.e a1)
 (l:u.ownsRow k 47 7 f (c.length+1) (U++[.bool x.1,Y x.2.1.v,Y x.2.1.f,.slice a x.2.1.e.length n,Y x.2.2.v,Y x.2.2.f,.slice a1 x.2.2.e.length m])) (o:w.grownBy u v.ownBlock):mH k u f (c++[x]):=by
 have g:∀b,b<k->b<w.heap.size->u.heap[b]? =w.heap[b]?:=λb d e=>o.block b e (λh=>by have:=(kO j b (by first|exact h|exact h.symm)).1;omega);have h:∀{i:Zt}{y:Zo},jT (λb=>b<k) w i y->jT (λb=>b<k) u i y:=λi=>xN (λb d e=>g b d e) i;exact⟨_,by rw[qB];exact l,Bd (gL (λb d e=>⟨d,g b d e⟩) d) ⟨a,n,a1,m,[],rfl,h i1,h i2,rfl⟩⟩
def Ka{g h:Zv}(r:d=c++[(false,t,s)])(i:Zb u v)(j:Zb v w1)(e:w1.ownsRow k 47 7 g c.length U/\bE (λb=>b<k) w1 c U)(l:Zb w u)(A:u.heap.size<=k)
 (i1:jT (λb=>b<w.heap.size) w t.e a) (i2:jT (λb=>b<w.heap.size) w s.e a1) (x:w2.ownsRow k 47 7 h (c.length+1) (U++[.bool false,Y t.v,Y t.f,.slice a t.e.length n,Y s.v,Y s.f,.slice a1 s.e.length m])) (o:w1.grownBy w2 g.ownBlock):
 mH k w2 h d/\Zb u w2:=by
 have y:=l.size;have z:=i.size;have B:=j.size;have p:=i.trans (j.mono z);have q:=l.trans (p.mono y);refine⟨?_,p.grown o (by omega) (λb f=>by have:=(kO e.1 b f).1;omega)⟩;rw[r];exact YN e.2 e.1 (kQ (λb f=>by omega) (jI q i1)) (kQ (λb f=>by omega) (jI q i2)) x o
def QA(L:Nat)(cc:Nat){i:jX}(pa:Zo)(pc:Nat){x y:Lit}(hs:qT r=0)(dm:c.length<=999)(ax:∀x,x∈c->kP r x.2.1=0/\kP r x.2.2=0)(bz:i.la=(k:Int))(b9:i.ra=(n:Int))(hx:c[k]? =some x)(M:c[n]? =some y)(W:jV w r a)(hc:kR w c a1):
 Calls Zf 159 #[.agg #[.slice a r.length L],.slice a1 c.length cc,zV i pa pc] w λO b=>sH (iH r c k (qG x i.lt) (xG x i.lt) (qG y i.rt) (xG y i.rt)) w.heap.size O b/\Zb w b:=by
 have be:=(Zl hx);have dp:=(Zl M);obtain⟨p,q,rfl⟩:=zN hc (by omega);obtain⟨e,Z⟩:=Ze ((w.alloc (.cells #[Zk a r L] 24)).alloc (.cells #[Y i.L,Y i.left,Y i.right,Y i.la,Y i.ra,.bool i.lt,.bool i.rt,Zk pa i.G pc] 81));have ay:Zb w e:=Z▸kF _ _ _;have ca:e.heap.size=w.heap.size+2:=by rw[Z];simp
 have cb:e.cell? (D w.heap.size 0)=some (Zk a r L):=by rw[Z,kW (by simp)];exact jJ 0 rfl
 have h8:I8 e (w.heap.size+1) i pa pc:=by rw[Z];exact I8.new _ (by simp)
 obtain⟨az,c1,a2,c2,k0,k1,k2,k3,k4,k5,k6,i1,i2⟩:=dZ (kL ay hc) hx;obtain⟨a3,c3,a4,c4,j0,j1,j2,j3,j4,j5,j6,i3,i4⟩:=dZ (kL ay hc) M;have bf:Zq e (w.heap.size+1) 3 (Y (k:Int)):=bz▸h8.e3;have cd:Zq e (w.heap.size+1) 4 (Y (n:Int)):=b9▸h8.e4;have ce:=h8.e5;have cf:=h8.e6
 have cg:=X (λ(b:N)(d:Zb e b)=>(show Zq b (w.heap.size+1) 3 (Y (k:Int))/\Zq b (w.heap.size+1) 5 (.bool i.lt)/\Zq b p (q+k*7) (.bool x.1)/\Zq b p (q+k*7+1) (Y x.2.1.v)/\Zq b p (q+k*7+2) (Y x.2.1.f)/\Zq b p (q+k*7+3) (Zk az x.2.1.e c1)/\Zq b p (q+k*7+4) (Y x.2.2.v)/\Zq b p (q+k*7+5) (Y x.2.2.f)/\Zq b p (q+k*7+6) (Zk a2 x.2.2.e c2) from
  ⟨jH d bf,jH d ce,jH d k0,jH d k1,jH d k2,jH d k3,jH d k4,jH d k5,jH d k6⟩))
 have ch:=X (λ(b:N)(d:Zb e b)=>(show Zq b (w.heap.size+1) 4 (Y (n:Int))/\Zq b (w.heap.size+1) 6 (.bool i.rt)/\Zq b p (q+n*7) (.bool y.1)/\Zq b p (q+n*7+1) (Y y.2.1.v)/\Zq b p (q+n*7+2) (Y y.2.1.f)/\Zq b p (q+n*7+3) (Zk a3 y.2.1.e c3)/\Zq b p (q+n*7+4) (Y y.2.2.v)/\Zq b p (q+n*7+5) (Y y.2.2.f)/\Zq b p (q+n*7+6) (Zk a4 y.2.2.e c4) from
  ⟨jH d cd,jH d cf,jH d j0,jH d j1,jH d j2,jH d j3,jH d j4,jH d j5,jH d j6⟩))
 have dq:(k:Int)<c.length:=by omega
 have dr:(0:Int)<=k:=by omega
 have ds:(n:Int)<c.length:=by omega
 have dt:(0:Int)<=n:=by omega
 have bg:=X (λ(b:N)=>Dq x az c1 a2 c2 i.lt b);have bh:=X (λ(b:N)=>Dq y a3 c3 a4 c4 i.rt b);have ci:=X Z;have bi:=X ay;have du:=X ca;have cj:=X cb;have ck:=X bf;have HR:=X (jW e.heap.size e);obtain⟨A,ah⟩:=Ze (qG x i.lt);obtain⟨t,ai⟩:=Ze (xG x i.lt);obtain⟨u,bL⟩:=Ze (qG y i.rt);obtain⟨C,aj⟩:=Ze (xG y i.rt);obtain⟨sa,bj⟩:=Ze (if i.lt then a2 else az);obtain⟨sc,cl⟩:=Ze (if i.lt then c2 else c1);obtain⟨ta,bk⟩:=Ze (if i.lt then az else a2);obtain⟨tc,cm⟩:=Ze (if i.lt then c1 else c2);obtain⟨ua,bl⟩:=Ze (if i.rt then a4 else a3);obtain⟨uc,cn⟩:=Ze (if i.rt then c4 else c3);obtain⟨va,bm⟩:=Ze (if i.rt then a3 else a4);obtain⟨vc,co⟩:=Ze (if i.rt then c3 else c4);rw[<-ah,<-ai,<-bj,<-cl,<-bk,<-cm] at bg;rw[<-bL,<-aj,<-bl,<-cn,<-bm,<-co] at bh;rw[<-ah,<-ai,<-bL,<-aj];have js:InL e A.e sa/\InL e t.e ta:=by rw[ah,bj,ai,bk];exact Do _ i1 i2
 have ju:InL e u.e ua/\InL e C.e va:=by rw[bL,bl,aj,bm];exact Do _ i3 i4
 have ts:kP r A=0/\kP r t=0:=by rw[ah,ai];exact Ln _ (ax x (jU hx))
 have tu:kP r u=0/\kP r C=0:=by rw[bL,aj];exact Ln _ (ax y (jU M))
 have ak:=X js;have bn:=X ju;have a0:=X ts;have cp:=X tu;clear ah ai bL aj bj cl bk cm bl cn bm co js ju ts tu;clear ca;clear Z cb h8 bf cd ce cf k0 k1 k2 k3 k4 k5 k6 j0 j1 j2 j3 j4 j5 j6 bz b9;go_enter Tryz.func159,Tryz.ntmps159
 go_upto_region 1 with fail
 rw[<-ci.out];have f:=cg.out;have b0:=λ(b:N)(d:Zb e b)=>(f b d).1;have b1:=λ(b:N)(d:Zb e b)=>(f b d).2.1;have b2:=λ(b:N)(d:Zb e b)=>(f b d).2.2.1;have b3:=λ(b:N)(d:Zb e b)=>(f b d).2.2.2.1;have b4:=λ(b:N)(d:Zb e b)=>(f b d).2.2.2.2.1;have b5:=λ(b:N)(d:Zb e b)=>(f b d).2.2.2.2.2.1;have b6:=λ(b:N)(d:Zb e b)=>(f b d).2.2.2.2.2.2.1;have b7:=λ(b:N)(d:Zb e b)=>(f b d).2.2.2.2.2.2.2.1;have b8:=λ(b:N)(d:Zb e b)=>(f b d).2.2.2.2.2.2.2.2;have P:=jW e.heap.size e;clear f
 go_cut [8,9] (λbo bp wc=>∃Bp Bq,bo=Zr Bp/\bp=Zr Bq/\Hid (gA e wc Bp Bq (Y A.v) (Y A.f) (Zk sa A.e sc) (Y t.v) (Y t.f) (Zk ta t.e tc)))
 case first=>
  go_region_held3 (λb=>Zb e b) ((first|with_reducible exact al.out _ _|with_reducible exact J.out _|((repeat' (first|with_reducible exact h.out|with_reducible exact J.out _|with_reducible exact al.out _ _|with_reducible exact jW _ _|(with_reducible refine xH ?_)|(with_reducible refine bD ?_ ?_ _;rotate_left;focus (first|exact jF _|exact bq|exact I|(show e.heap.size<=_;omega)|(simp;omega)))|(refine Av ?_ ?_ _;rotate_left;focus (first|omega|(simp;omega)|(simp;done)))));done)|go_keep)) ((first
   |(go_at_call 155
     with_reducible refine(bg.out _).mono ?_
     rintro O s ⟨rfl,v⟩;have h:Hid (Zb e s):=by
      refine zT ?_ (v.mono ?_)
      .go_grown
      first|omega|(simp;omega)|(simp;done)
     have J:=X (λo=>h.out.trans ((jG s o).mono h.out.size));have al:=X (λo1 o2=>h.out.trans ((kF s o1 o2).mono h.out.size));have bq:=h.out.size
     first
      |(have E:=mU v (Cx e _ _)
        have j:=mU v (Cy e _ _);have am:e.heap.size+1<s.heap.size:=by
         have Q:=v.size;simp at Q;omega
        have R:e.heap.size≠e.heap.size+1:=(by omega);have S:e.heap.size+1≠e.heap.size:=(by omega);have I:e.heap.size<=e.heap.size+1:=(by omega);generalize br:e.heap.size+1=H2 at j am R S I ⊢;have F:=X E;have an:=X j;obtain⟨_,_,_,_,_,_⟩:=E;obtain⟨_,_,_,_,_,_⟩:=j
        clear br)
      |(have E:=mU v (tT e _)
        have j:=λo=>E.alloc o;have r0:=λo=>(j o).c0;have r1:=λo=>(j o).c1;have r2:=λo=>(j o).c2;have r3:=λo=>(j o).f0;have r4:=λo=>(j o).f1;have r5:=λo=>(j o).f2;have am:e.heap.size<s.heap.size:=by
         have Q:=v.size;simp at Q;omega
        have R:e.heap.size≠s.heap.size:=(by omega);have S:s.heap.size≠e.heap.size:=(by omega);have F:=X E;obtain⟨_,_,_,_,_,_⟩:=E
        clear j)
      |skip
     clear b0 b1 b2 b3 b4 b5 b6 b7 b8 P v)))
  all_goals (go_wp2_with fail;go_meet)
  all_goals first
   |with_reducible exact⟨_,_,rfl,rfl,X (aY h.out _ _ _ _ _ _ _ _)⟩
   |with_reducible exact⟨_,_,rfl,rfl,X (gA.swap (aY h.out _ _ _ _ _ _ _ _))⟩
   |with_reducible exact⟨_,_,rfl,rfl,X (aZ h.out (jF _) F.out _ _ _ _ _ _ _)⟩
   |with_reducible exact⟨_,_,rfl,rfl,X (gA.swap (aZ h.out (jF _) F.out _ _ _ _ _ _ _))⟩
   |with_reducible exact⟨_,_,rfl,rfl,X (cC h.out (jF _) I R F.out an.out _ _ _ _ _ _)⟩
   |with_reducible exact⟨_,_,rfl,rfl,X (cC h.out I (jF _) S an.out F.out _ _ _ _ _ _)⟩
 case rest=>
  obtain⟨B8,B9,rfl,rfl,ao⟩:=hcut;clear b0 b1 b2 b3 b4 b5 b6 b7 b8 P;obtain⟨g,cq⟩:=Ze wc;rw[<-cq] at ao ⊢;clear cq;have l:=X ao.out.below
  go_upto_region 2 with fail
  have f:=ch.out;have b0:=λ(b:N)(d:Zb g b)=>(f b (l.out.trans (yX d l.out.size))).1;have b1:=λ(b:N)(d:Zb g b)=>(f b (l.out.trans (yX d l.out.size))).2.1;have b2:=λ(b:N)(d:Zb g b)=>(f b (l.out.trans (yX d l.out.size))).2.2.1;have b3:=λ(b:N)(d:Zb g b)=>(f b (l.out.trans (yX d l.out.size))).2.2.2.1;have b4:=λ(b:N)(d:Zb g b)=>(f b (l.out.trans (yX d l.out.size))).2.2.2.2.1;have b5:=λ(b:N)(d:Zb g b)=>(f b (l.out.trans (yX d l.out.size))).2.2.2.2.2.1;have b6:=λ(b:N)(d:Zb g b)=>(f b (l.out.trans (yX d l.out.size))).2.2.2.2.2.2.1;have b7:=λ(b:N)(d:Zb g b)=>(f b (l.out.trans (yX d l.out.size))).2.2.2.2.2.2.2.1;have b8:=λ(b:N)(d:Zb g b)=>(f b (l.out.trans (yX d l.out.size))).2.2.2.2.2.2.2.2;have P:=jW g.heap.size g;clear f
  go_cut [10,11] (λbo bp wc=>∃Bp Bq,bo=Zr Bp/\bp=Zr Bq/\Hid (gA g wc Bp Bq (Y u.v) (Y u.f) (Zk ua u.e uc) (Y C.v) (Y C.f) (Zk va C.e vc)))
  case first=>
   go_region_held3 (λb=>Zb g b) ((first|with_reducible exact al.out _ _|with_reducible exact J.out _|((repeat' (first|with_reducible exact h.out|with_reducible exact J.out _|with_reducible exact al.out _ _|with_reducible exact jW _ _|(with_reducible refine xH ?_)|(with_reducible refine bD ?_ ?_ _;rotate_left;focus (first|exact jF _|exact bq|exact I|(show g.heap.size<=_;omega)|(simp;omega)))|(refine Av ?_ ?_ _;rotate_left;focus (first|omega|(simp;omega)|(simp;done)))));done)|go_keep)) ((first
    |(go_at_call 155
      with_reducible refine(bh.out _).mono ?_
      rintro O s ⟨rfl,v⟩;have h:Hid (Zb g s):=by
       refine zT ?_ (v.mono ?_)
       .go_grown
       first|omega|(simp;omega)|(simp;done)
      have J:=X (λo=>h.out.trans ((jG s o).mono h.out.size));have al:=X (λo1 o2=>h.out.trans ((kF s o1 o2).mono h.out.size));have bq:=h.out.size
      first
       |(have E:=mU v (Cx g _ _)
         have j:=mU v (Cy g _ _);have am:g.heap.size+1<s.heap.size:=by
          have Q:=v.size;simp at Q;omega
         have R:g.heap.size≠g.heap.size+1:=(by omega);have S:g.heap.size+1≠g.heap.size:=(by omega);have I:g.heap.size<=g.heap.size+1:=(by omega);generalize br:g.heap.size+1=H2 at j am R S I ⊢;have F:=X E;have an:=X j;obtain⟨_,_,_,_,_,_⟩:=E;obtain⟨_,_,_,_,_,_⟩:=j
         clear br)
       |(have E:=mU v (tT g _)
         have j:=λo=>E.alloc o;have r0:=λo=>(j o).c0;have r1:=λo=>(j o).c1;have r2:=λo=>(j o).c2;have r3:=λo=>(j o).f0;have r4:=λo=>(j o).f1;have r5:=λo=>(j o).f2;have am:g.heap.size<s.heap.size:=by
          have Q:=v.size;simp at Q;omega
         have R:g.heap.size≠s.heap.size:=(by omega);have S:s.heap.size≠g.heap.size:=(by omega);have F:=X E;obtain⟨_,_,_,_,_,_⟩:=E
         clear j)
       |skip
      clear b0 b1 b2 b3 b4 b5 b6 b7 b8 P v)))
   all_goals (go_wp2_with fail;go_meet)
   all_goals first
    |with_reducible exact⟨_,_,rfl,rfl,X (aY h.out _ _ _ _ _ _ _ _)⟩
    |with_reducible exact⟨_,_,rfl,rfl,X (gA.swap (aY h.out _ _ _ _ _ _ _ _))⟩
    |with_reducible exact⟨_,_,rfl,rfl,X (aZ h.out (jF _) F.out _ _ _ _ _ _ _)⟩
    |with_reducible exact⟨_,_,rfl,rfl,X (gA.swap (aZ h.out (jF _) F.out _ _ _ _ _ _ _))⟩
    |with_reducible exact⟨_,_,rfl,rfl,X (cC h.out (jF _) I R F.out an.out _ _ _ _ _ _)⟩
    |with_reducible exact⟨_,_,rfl,rfl,X (cC h.out I (jF _) S an.out F.out _ _ _ _ _ _)⟩
  case rest=>
   obtain⟨c6,c7,rfl,rfl,ap⟩:=hcut;clear b0 b1 b2 b3 b4 b5 b6 b7 b8 P;obtain⟨V2,cr⟩:=Ze wc;rw[<-cr] at ap ⊢;clear cr;have a5:=X ap.out.below;have G:=X (l.out.trans (a5.out.mono l.out.size));have z:=X (bi.out.trans (G.out.mono bi.out.size))
   have HC:=X (λ(b:N)(d:Zb V2 b)=>(show Zq b w.heap.size 0 (Zk a r L)/\Zq b (w.heap.size+1) 3 (Y (k:Int))/\jK b B8 (Y A.v) (Y A.f) (Zk sa A.e sc)/\jK b B9 (Y t.v) (Y t.f) (Zk ta t.e tc)/\jK b c6 (Y u.v) (Y u.f) (Zk ua u.e uc)/\jK b c7 (Y C.v) (Y C.f) (Zk va C.e vc) from
    ⟨jP d (jP G.out cj.out),jP d (jP G.out ck.out),(ao.out.one.below a5.out).below d,(ao.out.two.below a5.out).below d,ap.out.one.below d,ap.out.two.below d⟩))
   have HU:=X (Rc r a L A sa sc u ua uc V2 (kD z.out W) (jI G.out ak.out.1) (jI G.out bn.out.1));have aa:=X (λ(V:(xM r A u).2=0)=>Lq hs V);obtain⟨U,hU⟩:=Ze (xM r A u);rw[<-hU] at HU aa;have HF:=X (λ(V:U.2=0)(ba:Zo)(bs:Nat)(b:N)(d:Zb V2 b)(ab:xV (λ_=>True) b U.1 ba)=>On r a L U.1 ba bs A sa sc t ta tc b (aa.out V).2 (aa.out V).1 a0.out.1 a0.out.2 (kD (z.out.trans (d.mono z.out.size)) W) ab (jI d (jI G.out ak.out.1)) (jI d (jI G.out ak.out.2)));obtain⟨aq,hF⟩:=Ze (pW r U.1 A t);rw[<-hF] at HF;have HO:=X (λ(b:N)(d:Zb V2 b)=>Ri c (some (D p q)) cc k b be (by omega) (kL (z.out.trans (d.mono z.out.size)) hc));have cs:(c.eraseIdx k).length<=999:=(by rw[Bh];split<;>omega);obtain⟨a6,hD⟩:=Ze (c.eraseIdx k++[(false,t,C)]);have HD:=X hD
   have HP:=X (λ(V:U.2=0)(ba:Zo)(bs:Nat)(da:Zo)(dc:Nat)(b:N)(d:Zb V2 b)(ab:xV (λ_=>True) b U.1 ba)(hd:kR b a6 da)=>Nq r a L U.1 ba bs a6 da dc b (aa.out V).2 (by rw[hD,qB];simp;omega) (aa.out V).1 (λy M=>by
    rw[hD] at M;rcases vD.1 M with H|H
    .exact ax y (Mu H)
    simp at H;subst H;exact⟨a0.out.2,cp.out.2⟩) (kD (z.out.trans (d.mono z.out.size)) W) ab hd)
   have bt:Hid (iH r c k A t u C=if U.2=0 then(if aq=0 then fB r U.1 a6 else([],aq)) else([],U.2)):=(by show _=_;rw[iH,hF,hU,hD]);have a7:=X (kQ (λ_ H=>H.2) (lE (jI G.out ak.out.2)));have a8:=X (kQ (λ_ H=>H.2) (lE (jI G.out bn.out.2)));have c8:=X cs;have dv:=X z.out.size;clear hD hF hU W hc ax hs hx M i1 i2 i3 i4 cg ch bg bh ao ap l a5 G bi ak bn a0 cp cj ck ci HR cs ay aa;obtain⟨g0,_,⟨p0,p1,p2,_,_,_⟩,_,⟨q0,q1,q2,_,_,_⟩,_⟩:=HC.out V2 (jW _ _)
   go_upto_region 3 with fail
   go_wp2_with fail
   refine HU.out.mono ?_;rintro O w1 ⟨la,lc,rfl,ab,ct⟩;have ar:=X ct;have cu:=X (tN (λ_ _=>trivial) ab);clear ab ct HU g0 p0 p1 p2 q0 q1 q2;by_cases ac:U.2=0
   .have eu:(U.2 !=0)=false:=by simpa using ac
    have ad:=X ac;clear ac;have cv:=X (HF.out ad.out la lc w1 ar.out cu.out);obtain⟨g0,_,⟨p0,p1,p2,_,_,_⟩,⟨q0,q1,q2,_,_,_⟩,_,_⟩:=HC.out w1 ar.out
    go_wp2_with fail
    refine cv.out.mono ?_;rintro O m ⟨rfl,a9⟩;have B:=X (ar.out.trans (a9.mono ar.out.size));have c9:=X (gW a9 cu.out);clear a9 cv HF g0 p0 p1 p2 q0 q1 q2;by_cases ae:aq=0
    .have ef:(aq !=0)=false:=by simpa using ae
     have bu:=X ae;clear ae
     go_upto_region 9 with fail
     have db:=X (λ(b:N)(d:Zb m b)=>HC.out b (B.out.trans (d.mono B.out.size)));have f:=db.out;have b0:=λ(b:N)(d:Zb m b)=>(f b d).1;have b1:=λ(b:N)(d:Zb m b)=>(f b d).2.1;have b2:=λ(b:N)(d:Zb m b)=>(f b d).2.2.2.1.c0;have b3:=λ(b:N)(d:Zb m b)=>(f b d).2.2.2.1.c1;have b4:=λ(b:N)(d:Zb m b)=>(f b d).2.2.2.1.c2;have b5:=λ(b:N)(d:Zb m b)=>(f b d).2.2.2.2.2.c0;have b6:=λ(b:N)(d:Zb m b)=>(f b d).2.2.2.2.2.c1;have b7:=λ(b:N)(d:Zb m b)=>(f b d).2.2.2.2.2.c2;have P:=jW m.heap.size m;clear f
     go_region_held3 (λb=>Zb m b) ((first|with_reducible exact cw.out|with_reducible exact af.out|with_reducible exact K.out|with_reducible exact J.out _|((repeat' (first|with_reducible exact K.out|with_reducible exact J.out _|with_reducible exact jW _ _|(with_reducible refine xH ?_)|(refine Av ?_ ?_ _;rotate_left;focus (first|omega|(simp;omega)|(simp;done)))));done)|go_keep)) ((first
      |(go_at_call 184
        with_reducible refine(HO.out _ ?_).mono ?_
        .refine B.out.trans (yX ?_ B.out.size)
         go_grown
        rintro O wB ⟨vB,rfl,cx,bb⟩;have K:Hid (Zb m wB):=by
         refine zT ?_ (bb.mono ?_)
         .go_grown
         first|omega|(simp;omega)|(simp;done)
        have J:=X (λo=>K.out.trans ((jG wB o).mono K.out.size));obtain⟨BB,bc,dd,xs,bv,cy⟩:∃BB,m.heap.size<=BB/\BB<=wB.heap.size/\mH BB wB vB (c.eraseIdx k):=⟨_,by first|exact jF _|(simp;done)|(simp;omega),bb.size,cx⟩;have ag:=X (λ(de:N)(d:Zb wB de)=>jM (vT bv (λbd W=>d.block bd (kO bv bd W).2)) (gL (λau hj be=>⟨hj,d.block au be⟩) cy));have df:=X bb
        clear bv cy cx bb)
      |(go_at_call 183
        with_reducible refine(HP.out ad.out _ _ _ _ _ ?_ (gW af.out c9.out) dg.out).mono ?_
        .exact B.out.trans (af.out.mono B.out.size)
        rintro O wE ⟨dh,bw⟩;obtain⟨aE,di,rfl,cz,c0⟩:=dh;have dj:Hid (Zb wD wE):=(by first|exact bw|exact dN bw);have cw:Hid (Zb m wE):=af.out.trans (dj.out.mono af.out.size);have c5:=X (jM cz c0)
        clear cz c0 bw)
      |(refine jDs rfl (.tmp 60) (.tmp 64) rfl BB (c.eraseIdx k).length 1 vB xs [.bool false,Y t.v,Y t.f,Zk ta t.e tc,Y C.v,Y C.f,Zk va C.e vc] rfl (ag.out _ ?_).1 _ rfl ?_ ?_ ?_ ?_
        .go_grown
        .refine jE ⟨_,0,1,rfl,rfl,?_,?_⟩
         .first
           |exact CQ rfl
           |exact λau u hu=>jP df.out (CQ rfl au u hu)
         intro u hu;simp only[qO,sL,or_false] at hu;rcases hu with rfl|rfl|rfl|rfl|rfl|rfl|rfl<;>rfl
        .have:=c8.out;omega
        .first|exact dd|(simp;omega)
        intro v' wD av aw dk;have bx:Hid (mH BB wD v' a6/\Zb m wD):=by
         first
          |exact Ka HD.out K.out (jG _ _) (ag.out _ (jG _ _)) B.out bc a7.out a8.out av aw
          |exact Ka HD.out K.out ((jG _ _).drew) (ag.out _ ((jG _ _).drew)) B.out bc a7.out a8.out av aw
          |exact Ka HD.out K.out (jW _ _) (ag.out _ (jW _ _)) B.out bc a7.out a8.out av aw
          |exact Ka HD.out K.out ((jW _ _).drew) (ag.out _ ((jW _ _).drew)) B.out bc a7.out a8.out av aw
        obtain⟨da,dw,rfl,hq⟩:=Eu bx.out.1.outs;have dg:=X (dA hq);have af:=X bx.out.2
        clear hq bx av aw dk ag)))
     all_goals
      go_wp2
      go_ret2
      have P:=z.out.size;have a9:=B.out.size;have dx:=af.out.size;refine⟨?_,z.out.trans ((B.out.trans (cw.out.mono B.out.size)).mono z.out.size)⟩;rw[bt.out,jB ad.out,jB bu.out];refine⟨aE,di,rfl,c5.out.1,?_⟩;rcases c5.out.2 with H|⟨bd,dl,h1,h2,h3,h4,h5⟩
      .exact jD H
      exact jE ⟨bd,dl,h1,h2,h3,h4,λau hj=>by have:=h5 au hj;omega⟩
    have ef:(aq !=0)=true:=(by simpa using ae);have bu:=X ae;clear ae;go_wp2
    go_ret2
    exact⟨by rw[bt.out,jB ad.out,jC bu.out];exact⟨none,0,rfl,trivial,jD rfl⟩,z.out.trans (B.out.mono z.out.size)⟩
   have eu:(U.2 !=0)=true:=(by simpa using ac);have ad:=X ac;clear ac;go_wp2
   go_ret2
   exact⟨by rw[bt.out,jC ad.out];exact⟨none,0,rfl,trivial,jD rfl⟩,z.out.trans (ar.out.mono z.out.size)⟩
def IJ(R:Nat)(i:Nat)(I:Nat)(j:Nat)(S:jV w r a)(G:InL w t.e a1)(J:jV w r1 a2)
 (K:InL w s.e a3) (U:r1.length<=9223372036854775807):
 Calls Zf 186 #[.agg #[.slice a r.length R],.agg (Zj t a1 i),.slice a2 r1.length I,.agg (Zj s a3 j)] w λg c=>
  Mc (lO r t r1 s) w.heap.size g c/\Zb w c:=by
 have f:=X (λo1 o2 d e h=>qD h (qD e (qD d (qD o2 (qD o1 S)))));have h:=X (λo1 o2 d e g=>FC (m:=w.heap.size+1+1+1+1) (k:=i) (n:=j) g (by simp) trivial (jS e (jS d (jS o2 (jS o1 G)))) (jS e (jS d (jS o2 (jS o1 K)))))
 go_in
 go_wp2_with fail
 refine(Cj r a R [t,s] _ 2 _ (f _ _ _ _ _) (h _ _ _ _ _) (by simp)).mono ?_;rintro g A ⟨rfl,d⟩;have B:Zb w A:=(((((jG _ _).alloc (by simp) _).alloc (by simp;omega) _).alloc (by simp;omega) _).alloc (by simp;omega) _).trans (d.mono (by simp;omega));have am:w.heap.size+5<=A.heap.size:=by have:=d.size;simp at this;omega
 have ad:jK A (w.heap.size+1) (Y t.v) (Y t.f) (Zk a1 t.e i):=((((jK.new _ (by simp)).alloc _).alloc _).alloc _).below d;have o:jK A (w.heap.size+1+1) (Y s.v) (Y s.f) (Zk a3 s.e j):=(((jK.new _ (by simp)).alloc _).alloc _).below d;have H:jK A (w.heap.size+1+1+1) (Y 0) (Y 0) (Zd):=((jK.new _ (by simp)).alloc _).below d;clear d f h;by_cases k:kI r [t,s]=0
 .have an:=Qw k (t:=t) (by simp)
  have ao:=Qw k (t:=s) (by simp);rw[k];obtain⟨f,h,u,_,_,_⟩:=ad;have C:lO r t r1 s=(match qK t r1 with|some e=>if 120<(t.E:Int) - e.E+s.E then(zS,2) else(putT s t r1,0)|none=>(zS,5)):=by rw[lO,jB k]<;>cases qK t r1<;>rfl
  have x:=X C;clear C
  go_wp2_with fail
  refine(Vo t a1 i r1 a2 I _ (kD B J) (jI B G) U).mono ?_;rintro g d ⟨ae,l⟩;have V:=H.below l;have af:=jK.below ⟨f,h,u,by assumption,by assumption,by assumption⟩ l;have ag:=o.below l;have ap:=l.size;have E:=B.trans (l.mono (by omega));rcases ae with⟨e,m,p,q,rfl,W⟩|⟨q,rfl⟩
  .have aq:=Ue q
   have F:lO r t r1 s=if 120<(t.E:Int) - e.E+s.E then(zS,2) else(putT s t r1,0):=(by rw[x.out,q]);have y:=X F;have ah:=X q;clear F x q H o f h u;obtain⟨L,M,O,Z,f1,f2⟩:=V;obtain⟨t0,t1,t2,_,_,_⟩:=af;obtain⟨u0,u1,u2,_,_,_⟩:=ag;have aa:w.heap.size+1+1+1<d.heap.size:=(by omega);have ar:w.heap.size+1+1<d.heap.size:=(by omega);have au:w.heap.size+1<d.heap.size:=(by omega);have ab:=jI E G;have ac:=jI E K;have ai:=jI l W;have u:=X (λ(o:Obj)(h:N)(f:Hid (Below (d.heap.size+1) (d.alloc o) h))=>(jK.alloc ⟨t0,t1,t2,by assumption,by assumption,by assumption⟩ o).same (f.block _ (by omega)));have v:=X (λ(o:Obj)(h:N)(f:Hid (Below (d.heap.size+1) (d.alloc o) h))=>(jK.alloc ⟨u0,u1,u2,by assumption,by assumption,by assumption⟩ o).same (f.block _ (by omega)));have z:=X (λ(g:TypeId)(h:N)(f:Hid (Below (d.heap.size+1) (d.alloc (.cells (Zj e m p) g)) h))=>(jK.new (w:=d) (a:=Y e.v) (b:=Y e.f) (c:=Zk m e.e p) g rfl).same (f.block _ (by omega)));have P:=X (λ(o:Obj)(h:N)(f:Hid (Below (d.heap.size+1) (d.alloc o) h))=>(jK.alloc ⟨L,M,O,Z,f1,f2⟩ o).same (f.block _ (by omega)));have HP:=X (kD E J)
   have Q:=X (λ(g:TypeId)(c:N)(f:Below (d.heap.size+1) (d.alloc (.cells (Zj e m p) g)) c)=>(show Zq c (w.heap.size+1) 0 (Y t.v)/\Zq c (w.heap.size+1) 1 (Y t.f)/\Zq c (w.heap.size+1) 2 (Zk a1 t.e i)/\Zq c (w.heap.size+1+1) 0 (Y s.v)/\Zq c (w.heap.size+1+1) 1 (Y s.f)/\Zq c (w.heap.size+1+1) 2 (Zk a3 s.e j)/\Zq c d.heap.size 0 (Y e.v)/\Zq c d.heap.size 1 (Y e.f)/\Zq c d.heap.size 2 (Zk m e.e p) from
    ⟨(u _ c f).c0,(u _ c f).c1,(u _ c f).c2,(v _ c f).c0,(v _ c f).c1,(v _ c f).c2,(z _ c f).c0,(z _ c f).c1,(z _ c f).c2⟩))
   clear B J G K W S l;have av:e.E<=120:=(by omega);have Hw:Hid (IntKind.i64.wrap (IntKind.i64.wrap ((t.E:Int) - e.E)+s.E)=(t.E:Int) - e.E+s.E):=by
    rw[iS ((t.E:Int) - e.E) (by omega) (by omega),iS ((t.E:Int) - e.E+s.E) (by omega) (by omega)];rfl
   go_upto_region 7 with fail
   go_cut [42] (λl wc=>l=.bool (decide (120<(t.E:Int) - e.E+s.E))/\Hid (Below (d.heap.size+1) (d.alloc (.cells (Zj e m p) 43)) wc))
   case first=>
    go_region_held3 (λc=>Zq c (w.heap.size+1) 0 (Y t.v)/\Zq c (w.heap.size+1) 1 (Y t.f)/\Zq c (w.heap.size+1) 2 (Zk a1 t.e i)/\Zq c (w.heap.size+1+1) 0 (Y s.v)/\Zq c (w.heap.size+1+1) 1 (Y s.f)/\Zq c (w.heap.size+1+1) 2 (Zk a3 s.e j)/\Zq c d.heap.size 0 (Y e.v)/\Zq c d.heap.size 1 (Y e.f)/\Zq c d.heap.size 2 (Zk m e.e p)) ((first|(refine Q 43 _ ?_;(go_grown<;>exact zZ ‹Hid (Below _ _ _)›))|go_keep)) ((
     go_at_call 105
     first
      |(refine(Qp (t:=t) ?_ ?_).mono ?_;(focus omega);(focus ((repeat' (first|assumption|refine Mf ?_|(refine sJ _ ?_ trivial ?_;focus (first|rfl|(simp;done)))|refine jS _ ?_|refine jI (by assumption) ?_));done)))
      |(refine(Qp (t:=e) ?_ ?_).mono ?_;(focus omega);(focus ((repeat' (first|assumption|refine Mf ?_|(refine sJ _ ?_ trivial ?_;focus (first|rfl|(simp;done)))|refine jS _ ?_|refine jI (by assumption) ?_));done)))
      |(refine(Qp (t:=s) ?_ ?_).mono ?_;(focus omega);(focus ((repeat' (first|assumption|refine Mf ?_|(refine sJ _ ?_ trivial ?_;focus (first|rfl|(simp;done)))|refine jS _ ?_|refine jI (by assumption) ?_));done)))
     rintro g h ⟨rfl,o⟩;have f:Hid (Below (d.heap.size+1) (d.alloc (.cells (Zj e m p) 43)) h):=by
      refine zT (b:=_) ?_ (o.mono ?_)
      ·(go_grown<;>exact zZ ‹Hid (Below _ _ _)›)
      first|omega|(simp;omega)|(simp;done)
     have G:=f.size;have J:=o.size;simp at G J;have K:w.heap.size+1<h.heap.size:=(by omega);have S:w.heap.size+1+1<h.heap.size:=(by omega);have W:d.heap.size<h.heap.size:=(by omega);obtain⟨_,_,_,_,_,_⟩:=u _ _ f;obtain⟨_,_,_,_,_,_⟩:=v _ _ f
     obtain⟨_,_,_,_,_,_⟩:=z _ _ f))
    all_goals (go_wp2_with fail;go_meet;exact⟨by rw[Hw.out],f⟩)
   case rest=>
    obtain⟨rfl,h⟩:=hcut;have G:Zb d wc:=(jG _ _).trans (h.mono (by omega));have aw:d.heap.size+1<=wc.heap.size:=(by have:=h.size;simp at this;omega);have K:Zb w wc:=E.trans (G.mono (by omega));have h3:=P _ _ h;obtain⟨S,W,x2,g0,g1,g2⟩:=h3;by_cases f:120<(t.E:Int) - e.E+s.E
    .have o:lO r t r1 s=(zS,2):=by rw[y.out,jB f]
     have J:=X o;have hd:decide (120<(t.E:Int) - e.E+s.E)=true:=(by simpa using f);rw[hd];clear o y Q u v z P f
     go_wp2_with fail
     exact qS (v:=.tuple #[.agg #[Y 0,Y 0,Zd],Y 2]) (by simp[results,Tryz.results186,go_sem,S,W,x2]) rfl
      ⟨by rw[J.out];exact Cr 2 _ _,xZ K (by omega) _ _ _⟩
    have o:lO r t r1 s=(putT s t r1,0):=(by rw[y.out,jC f]);have J:=X o;have hd:decide (120<(t.E:Int) - e.E+s.E)=false:=(by simpa using f);rw[hd];obtain⟨y0,y1,y2,_,_,_⟩:=u _ _ h;obtain⟨z0,z1,z2,_,_,_⟩:=v _ _ h;have aj:=X (kD G HP);have ak:=X (jI G ab);have al:=X (jI G ac);clear o y Q u v z P f ab ac ai
    go_wp2_with fail
    refine(ZH i I j aj ak al U (by omega) (by omega) ah).mono ?_;rintro g f ⟨o,u,rfl,z,v⟩;have P:jK f (w.heap.size+1+1+1) (Y 0) (Y 0) (Zd):=jK.below ⟨S,W,x2,g0,g1,g2⟩ v;obtain⟨Q,q1,q2,k0,k1,k2⟩:=P;have ab:Zb w f:=K.trans (v.mono (by omega))
    go_wp2_with fail
    exact qS (v:=.tuple #[.agg #[Y (putT s t r1).v,Y (putT s t r1).f,.slice o (putT s t r1).e.length u],Y 0]) (by simp[results,Tryz.results186,go_sem,Q,q1,q2]) rfl
     ⟨by rw[J.out];exact⟨o,u,rfl,kQ (λac hk=>by omega) (xN (λac hk _=>xQ (by omega)) z)⟩,xZ ab (by omega) _ _ _⟩
  have F:lO r t r1 s=(zS,5):=by rw[x.out,q]
  have y:=X F;clear F x q H;obtain⟨L,M,O,Z,f1,f2⟩:=V;have aa:w.heap.size+1+1+1<d.heap.size:=by omega
  go_wp2_with fail
  exact qS (v:=.tuple #[.agg #[Y 0,Y 0,Zd],Y 5]) (by simp[results,Tryz.results186,go_sem,L,M,O,aa]) rfl
   ⟨by rw[y.out];exact Cr 5 _ _,(xZ E (by omega) _ _ _).alloc (by rw[iN];omega) _⟩
 have q:(kI r [t,s] !=0)=true:=by simpa using k
 have C:lO r t r1 s=(zS,kI r [t,s]):=by rw[lO,jC k]
 have x:=X C;clear C k;obtain⟨h,k,o,u,v,y⟩:=H;generalize kI r [t,s]=f at*
 go_wp2_with fail
 exact qS (v:=.tuple #[.agg #[Y 0,Y 0,Zd],Y f]) (by simp[results,Tryz.results186,go_sem,h,k,o]) rfl
  ⟨by rw[x.out];exact Cr f _ _,xZ B (by omega) _ _ _⟩
def Ey{v:Zv}(a:Zb w u)(h:Ex w v c U):Ex u v c U:=
 ⟨Ni a h.src,gL (λk b d=>⟨kV b a.size,a.block k d⟩) h.jl⟩
def EG{e f g:Zv}(h:∀c,p c->c≠k)(i:xV p w b a):xV p (qZ w k n e f g) b a:=
 Dy (λc o v d j=>⟨d,by rw[kH (w:=w) (a:=(D c o)) (xQ (h c d))];exact j⟩) i
def jE4:(aI c k B t).length=c.length:=by
 rw[aI];split
 .rw[lF]
 rfl
def jE3(b:∀x,x∈c->kP r x.2.1=0/\kP r x.2.2=0)(d:kP r t=0):∀x,x∈aI c k B t->kP r x.2.1=0/\kP r x.2.2=0:=by
 intro x a;rw[aI] at a;split at a
 .rename_i y f
  have e:=b y (jU f);rcases List.mem_or_eq_of_mem_set a with h|h
  .exact b x h
  rw[h]
  cases B
  .exact⟨d,e.2⟩
  exact⟨e.1,d⟩
 exact b x a
def ZE:∀{p:Zn}{a c:T},qK a p=some c->(putT t a p).E+c.E=a.E+t.E:=by
 intro p;induction p with
 |nil=>
  intro a c h;simp only[qK,qW] at h;subst h;show t.E+a.E=_;omega
 |cons i p f=>
  intro a c h;rw[qK] at h;by_cases b:0<=i/\i<a.e.length
  .rw[jB b] at h
   obtain⟨d,hd,g⟩:=rG.1 h;rw[Di hd];have e:i.toNat<a.e.length:=(by omega);have m:=f g;have n:T.E.szL (a.e.set i.toNat (putT t d p))+d.E=T.E.szL a.e+(putT t d p).E:=by
    have j:a.e.set i.toNat (putT t d p)=a.e.take i.toNat++putT t d p::a.e.drop (i.toNat+1):=List.set_eq_take_append_cons_drop.trans (by rw[jB e]);have k:a.e=a.e.take i.toNat++d::a.e.drop (i.toNat+1):=by
     have l:a.e[i.toNat]=d:=by
      rw[jO e] at hd;exact kT hd
     rw[<-l,cJ,cL]
    have l:T.E.szL a.e=T.E.szL (a.e.take i.toNat)+(d.E+T.E.szL (a.e.drop (i.toNat+1))):=by
     rw[<-T.F,<-T.szL_append,<-k]
    rw[j,T.szL_append,T.F,l];omega
   rw[T.M,T.M a];show 1+T.E.szL (a.e.set i.toNat (putT t d p))+c.E=_;omega
  rw[jC b] at h;cases h
def XR(g:jQ r t):∀{p:Zn}{a c:T},qK a p=some c->jQ r a->jQ r (putT t a p):=by
 intro p;induction p with
 |nil=>intro a c _ _;exact g
 |cons i p j=>
  intro a c h k;rw[qK] at h;by_cases d:0<=i/\i<a.e.length
  .rw[jB d] at h
   obtain⟨e,hd,l⟩:=rG.1 h;obtain⟨m,f⟩:=vW.1 k;rw[Di hd];refine vW.2 ⟨?_,nH.2 λx b=>?_⟩
   .show xU r a.v a.f (a.e.set i.toNat (putT t e p)).length=0
    rw[lF];exact m
   rcases List.mem_or_eq_of_mem_set b with b|rfl
   .exact nH.1 f x b
   exact j l (nH.1 f e (jU hd))
  rw[jC d] at h;cases h
def ZI(b:qK t r1=some t1)(h:(lO r t r1 s).2=0):kP r (lO r t r1 s).1=0:=by
 rw[lO] at h ⊢;by_cases a:kI r [t,s]=0
 .rw[jB a,b] at h ⊢
  simp only at h ⊢;split at h
  .cases h
  rename_i e;rw[jC e];have i:=ZE (t:=s) b;obtain⟨f,g⟩:jQ r t/\jQ r s:=by
   rw[kI] at a;split at a
   .rw[bN,bN,bN] at a
    split at a
    .rename_i c
     split at a
     .rename_i d;exact⟨(mS.1 c).2,(mS.1 d).2⟩
     rename_i d;exact jN a d
    rename_i c;exact jN a c
   rename_i c;exact jN a c
  exact mS.2 ⟨by simp only;omega,XR g b f⟩
 rw[jC a] at h;exact jN h a
def TH(L:Nat)(cw:Nat)(dc:Nat){i:jX}(pc:Nat){x z:Lit}(hs:qT r=0)(fb:c.length<=400)(fc:d.length<=400)(bt:∀x,x∈c->kP r x.2.1=0/\kP r x.2.2=0)(bu:∀x,x∈d->kP r x.2.1=0/\kP r x.2.2=0)(bv:i.la=(k:Int))(bw:i.ra=(n:Int))(hx:c[k]? =some x)(hy:d[n]? =some z)
 (bx:qK (qG z i.rt) i.G=some t) (eg:i.G.length<=100000) (hg:jV w r a) (hp:jV w i.G a3) (hc:kR w c a1) (hd:kR w d a2):
 Calls Zf 160 #[.agg #[.slice a r.length L],.slice a1 c.length cw,.slice a2 d.length dc,zV i a3 pc] w λG b=>sH (sZ r c d k n i.rt i.G t (qG x i.lt) (xG x i.lt) (qG z i.rt) (xG z i.rt)) w.heap.size G b/\Zb w b:=by
 have eh:=(Zl hx);have ei:=(Zl hy);obtain⟨W,Z,rfl⟩:=zN hc (by omega);obtain⟨y,ad,rfl⟩:=zN hd (by omega);obtain⟨g,ay⟩:=Ze ((w.alloc (.cells #[Zk a r L] 24)).alloc (.cells #[Y i.L,Y i.left,Y i.right,Y i.la,Y i.ra,.bool i.lt,.bool i.rt,Zk a3 i.G pc] 81));have bl:Zb w g:=ay▸kF _ _ _;have cx:g.cell? (D w.heap.size 0)=some (Zk a r L):=by rw[ay,kW (by simp)];exact jJ 0 rfl
 have h8:I8 g (w.heap.size+1) i a3 pc:=by rw[ay];exact I8.new _ (by simp)
 obtain⟨aa,c1,bm,c2,k0,k1,k2,k3,k4,k5,k6,i1,i2⟩:=dZ (kL bl hc) hx;obtain⟨bn,c3,bo,c4,j0,j1,j2,j3,j4,j5,j6,i3,i4⟩:=dZ (kL bl hd) hy;have bz:Zq g (w.heap.size+1) 3 (Y (k:Int)):=bv▸h8.e3;have cy:Zq g (w.heap.size+1) 4 (Y (n:Int)):=bw▸h8.e4;have cz:=h8.e5;have c0:=h8.e6
 have c5:=X (λ(b:N)(e:Zb g b)=>(show Zq b (w.heap.size+1) 3 (Y (k:Int))/\Zq b (w.heap.size+1) 5 (.bool i.lt)/\Zq b W (Z+k*7) (.bool x.1)/\Zq b W (Z+k*7+1) (Y x.2.1.v)/\Zq b W (Z+k*7+2) (Y x.2.1.f)/\Zq b W (Z+k*7+3) (Zk aa x.2.1.e c1)/\Zq b W (Z+k*7+4) (Y x.2.2.v)/\Zq b W (Z+k*7+5) (Y x.2.2.f)/\Zq b W (Z+k*7+6) (Zk bm x.2.2.e c2) from
  ⟨jH e bz,jH e cz,jH e k0,jH e k1,jH e k2,jH e k3,jH e k4,jH e k5,jH e k6⟩))
 have c6:=X (λ(b:N)(e:Zb g b)=>(show Zq b (w.heap.size+1) 4 (Y (n:Int))/\Zq b (w.heap.size+1) 6 (.bool i.rt)/\Zq b y (ad+n*7) (.bool z.1)/\Zq b y (ad+n*7+1) (Y z.2.1.v)/\Zq b y (ad+n*7+2) (Y z.2.1.f)/\Zq b y (ad+n*7+3) (Zk bn z.2.1.e c3)/\Zq b y (ad+n*7+4) (Y z.2.2.v)/\Zq b y (ad+n*7+5) (Y z.2.2.f)/\Zq b y (ad+n*7+6) (Zk bo z.2.2.e c4) from
  ⟨jH e cy,jH e c0,jH e j0,jH e j1,jH e j2,jH e j3,jH e j4,jH e j5,jH e j6⟩))
 have fd:(k:Int)<c.length:=by omega
 have fe:(0:Int)<=k:=by omega
 have ff:(n:Int)<d.length:=by omega
 have fg:(0:Int)<=n:=by omega
 have b2:=X (λ(b:N)=>Dq x aa c1 bm c2 i.lt b);have b9:=X (λ(b:N)=>Dq z bn c3 bo c4 i.rt b);have c7:=X ay;have bp:=X bl;have c8:=X cx;have ej:=X bz;have c9:=X h8;have ek:=X bv;have da:=X (λ(u':T)(bq:Zo)(ca:Nat)(b:N)(e:Zb w b)(hu:InL b u'.e bq)=>jE5 dc a3 pc ca ei bw (by omega) (kL e hd) hu);obtain⟨A,az⟩:=Ze (qG x i.lt);obtain⟨E,a0⟩:=Ze (xG x i.lt);obtain⟨B,bL⟩:=Ze (qG z i.rt);obtain⟨I,a4⟩:=Ze (xG z i.rt);obtain⟨sa,cb⟩:=Ze (if i.lt then bm else aa);obtain⟨sc,db⟩:=Ze (if i.lt then c2 else c1);obtain⟨ta,cc⟩:=Ze (if i.lt then aa else bm);obtain⟨tc,dd⟩:=Ze (if i.lt then c1 else c2);obtain⟨ua,cd⟩:=Ze (if i.rt then bo else bn);obtain⟨uc,de⟩:=Ze (if i.rt then c4 else c3);obtain⟨va,ce⟩:=Ze (if i.rt then bn else bo);obtain⟨vc,df⟩:=Ze (if i.rt then c3 else c4);rw[<-az,<-a0,<-cb,<-db,<-cc,<-dd] at b2;rw[<-bL,<-a4,<-cd,<-de,<-ce,<-df] at b9;rw[<-az,<-a0,<-bL,<-a4];rw[<-bL] at bx;have js:InL g A.e sa/\InL g E.e ta:=by rw[az,cb,a0,cc];exact Do _ i1 i2
 have ju:InL g B.e ua/\InL g I.e va:=by rw[bL,cd,a4,ce];exact Do _ i3 i4
 have ts:kP r A=0/\kP r E=0:=by rw[az,a0];exact Ln _ (bt x (jU hx))
 have tu:kP r B=0/\kP r I=0:=by rw[bL,a4];exact Ln _ (bu z (jU hy))
 have a5:=X js;have a6:=X ju;have cf:=X ts;have cg:=X tu;have ch:=X bx;have dg:=X bt;have dh:=X bu;clear az a0 bL a4 cb db cc dd cd de ce df js ju ts tu bx bt bu;clear ay cx h8 bz cy cz c0 k0 k1 k2 k3 k4 k5 k6 j0 j1 j2 j3 j4 j5 j6 bv bw;go_enter Tryz.func160,Tryz.ntmps160
 go_upto_region 1 with fail
 rw[<-c7.out];have f:=c5.out;have b0:=λ(b:N)(e:Zb g b)=>(f b e).1;have b1:=λ(b:N)(e:Zb g b)=>(f b e).2.1;have y:=λ(b:N)(e:Zb g b)=>(f b e).2.2.1;have b3:=λ(b:N)(e:Zb g b)=>(f b e).2.2.2.1;have b4:=λ(b:N)(e:Zb g b)=>(f b e).2.2.2.2.1;have b5:=λ(b:N)(e:Zb g b)=>(f b e).2.2.2.2.2.1;have b6:=λ(b:N)(e:Zb g b)=>(f b e).2.2.2.2.2.2.1;have b7:=λ(b:N)(e:Zb g b)=>(f b e).2.2.2.2.2.2.2.1;have b8:=λ(b:N)(e:Zb g b)=>(f b e).2.2.2.2.2.2.2.2;have M:=jW g.heap.size g;clear f
 go_cut [10,11] (λt a7 wc=>∃Bp Bq,t=Zr Bp/\a7=Zr Bq/\Hid (gA g wc Bp Bq (Y A.v) (Y A.f) (Zk sa A.e sc) (Y E.v) (Y E.f) (Zk ta E.e tc)))
 case first=>
  go_region_held3 (λb=>Zb g b) ((first|with_reducible exact a8.out _ _|with_reducible exact O.out _|((repeat' (first|with_reducible exact h.out|with_reducible exact O.out _|with_reducible exact a8.out _ _|with_reducible exact jW _ _|(with_reducible refine xH ?_)|(with_reducible refine bD ?_ ?_ _;rotate_left;focus (first|exact jF _|exact ci|exact Q|(show g.heap.size<=_;omega)|(simp;omega)))|(refine Av ?_ ?_ _;rotate_left;focus (first|omega|(simp;omega)|(simp;done)))));done)|go_keep)) ((first
   |(go_at_call 155
     with_reducible refine(b2.out _).mono ?_
     rintro G u ⟨rfl,s⟩;have h:Hid (Zb g u):=by
      refine zT ?_ (s.mono ?_)
      .go_grown
      first|omega|(simp;omega)|(simp;done)
     have O:=X (λo=>h.out.trans ((jG u o).mono h.out.size));have a8:=X (λo1 o2=>h.out.trans ((kF u o1 o2).mono h.out.size));have ci:=h.out.size
     first
      |(have F:=mU s (Cx g _ _)
        have p:=mU s (Cy g _ _);have a9:g.heap.size+1<u.heap.size:=by
         have h9:=s.size;simp at h9;omega
        have ae:g.heap.size≠g.heap.size+1:=(by omega);have af:g.heap.size+1≠g.heap.size:=(by omega);have Q:g.heap.size<=g.heap.size+1:=(by omega);generalize cj:g.heap.size+1=H2 at p a9 ae af Q ⊢;have J:=X F;have bb:=X p;obtain⟨_,_,_,_,_,_⟩:=F;obtain⟨_,_,_,_,_,_⟩:=p
        clear cj)
      |(have F:=mU s (tT g _)
        have p:=λo=>F.alloc o;have r0:=λo=>(p o).c0;have r1:=λo=>(p o).c1;have r2:=λo=>(p o).c2;have r3:=λo=>(p o).f0;have r4:=λo=>(p o).f1;have r5:=λo=>(p o).f2;have a9:g.heap.size<u.heap.size:=by
         have h9:=s.size;simp at h9;omega
        have ae:g.heap.size≠u.heap.size:=(by omega);have af:u.heap.size≠g.heap.size:=(by omega);have J:=X F;obtain⟨_,_,_,_,_,_⟩:=F
        clear p)
      |skip
     clear b0 b1 y b3 b4 b5 b6 b7 b8 M s)))
  all_goals (go_wp2_with fail;go_meet)
  all_goals first
   |with_reducible exact⟨_,_,rfl,rfl,X (aY h.out _ _ _ _ _ _ _ _)⟩
   |with_reducible exact⟨_,_,rfl,rfl,X (gA.swap (aY h.out _ _ _ _ _ _ _ _))⟩
   |with_reducible exact⟨_,_,rfl,rfl,X (aZ h.out (jF _) J.out _ _ _ _ _ _ _)⟩
   |with_reducible exact⟨_,_,rfl,rfl,X (gA.swap (aZ h.out (jF _) J.out _ _ _ _ _ _ _))⟩
   |with_reducible exact⟨_,_,rfl,rfl,X (cC h.out (jF _) Q ae J.out bb.out _ _ _ _ _ _)⟩
   |with_reducible exact⟨_,_,rfl,rfl,X (cC h.out Q (jF _) af bb.out J.out _ _ _ _ _ _)⟩
 case rest=>
  obtain⟨el,em,rfl,rfl,bc⟩:=hcut;clear b0 b1 y b3 b4 b5 b6 b7 b8 M;obtain⟨j,di⟩:=Ze wc;rw[<-di] at bc ⊢;clear di;have l:=X bc.out.below
  go_upto_region 2 with fail
  have f:=c6.out;have b0:=λ(b:N)(e:Zb j b)=>(f b (l.out.trans (yX e l.out.size))).1;have b1:=λ(b:N)(e:Zb j b)=>(f b (l.out.trans (yX e l.out.size))).2.1;have y:=λ(b:N)(e:Zb j b)=>(f b (l.out.trans (yX e l.out.size))).2.2.1;have b3:=λ(b:N)(e:Zb j b)=>(f b (l.out.trans (yX e l.out.size))).2.2.2.1;have b4:=λ(b:N)(e:Zb j b)=>(f b (l.out.trans (yX e l.out.size))).2.2.2.2.1;have b5:=λ(b:N)(e:Zb j b)=>(f b (l.out.trans (yX e l.out.size))).2.2.2.2.2.1;have b6:=λ(b:N)(e:Zb j b)=>(f b (l.out.trans (yX e l.out.size))).2.2.2.2.2.2.1;have b7:=λ(b:N)(e:Zb j b)=>(f b (l.out.trans (yX e l.out.size))).2.2.2.2.2.2.2.1;have b8:=λ(b:N)(e:Zb j b)=>(f b (l.out.trans (yX e l.out.size))).2.2.2.2.2.2.2.2;have M:=jW j.heap.size j;clear f
  go_cut [12,13] (λt a7 wc=>∃Bp Bq,t=Zr Bp/\a7=Zr Bq/\Hid (gA j wc Bp Bq (Y B.v) (Y B.f) (Zk ua B.e uc) (Y I.v) (Y I.f) (Zk va I.e vc)))
  case first=>
   go_region_held3 (λb=>Zb j b) ((first|with_reducible exact a8.out _ _|with_reducible exact O.out _|((repeat' (first|with_reducible exact h.out|with_reducible exact O.out _|with_reducible exact a8.out _ _|with_reducible exact jW _ _|(with_reducible refine xH ?_)|(with_reducible refine bD ?_ ?_ _;rotate_left;focus (first|exact jF _|exact ci|exact Q|(show j.heap.size<=_;omega)|(simp;omega)))|(refine Av ?_ ?_ _;rotate_left;focus (first|omega|(simp;omega)|(simp;done)))));done)|go_keep)) ((first
    |(go_at_call 155
      with_reducible refine(b9.out _).mono ?_
      rintro G u ⟨rfl,s⟩;have h:Hid (Zb j u):=by
       refine zT ?_ (s.mono ?_)
       .go_grown
       first|omega|(simp;omega)|(simp;done)
      have O:=X (λo=>h.out.trans ((jG u o).mono h.out.size));have a8:=X (λo1 o2=>h.out.trans ((kF u o1 o2).mono h.out.size));have ci:=h.out.size
      first
       |(have F:=mU s (Cx j _ _)
         have p:=mU s (Cy j _ _);have a9:j.heap.size+1<u.heap.size:=by
          have h9:=s.size;simp at h9;omega
         have ae:j.heap.size≠j.heap.size+1:=(by omega);have af:j.heap.size+1≠j.heap.size:=(by omega);have Q:j.heap.size<=j.heap.size+1:=(by omega);generalize cj:j.heap.size+1=H2 at p a9 ae af Q ⊢;have J:=X F;have bb:=X p;obtain⟨_,_,_,_,_,_⟩:=F;obtain⟨_,_,_,_,_,_⟩:=p
         clear cj)
       |(have F:=mU s (tT j _)
         have p:=λo=>F.alloc o;have r0:=λo=>(p o).c0;have r1:=λo=>(p o).c1;have r2:=λo=>(p o).c2;have r3:=λo=>(p o).f0;have r4:=λo=>(p o).f1;have r5:=λo=>(p o).f2;have a9:j.heap.size<u.heap.size:=by
          have h9:=s.size;simp at h9;omega
         have ae:j.heap.size≠u.heap.size:=(by omega);have af:u.heap.size≠j.heap.size:=(by omega);have J:=X F;obtain⟨_,_,_,_,_,_⟩:=F
         clear p)
       |skip
      clear b0 b1 y b3 b4 b5 b6 b7 b8 M s)))
   all_goals (go_wp2_with fail;go_meet)
   all_goals first
    |with_reducible exact⟨_,_,rfl,rfl,X (aY h.out _ _ _ _ _ _ _ _)⟩
    |with_reducible exact⟨_,_,rfl,rfl,X (gA.swap (aY h.out _ _ _ _ _ _ _ _))⟩
    |with_reducible exact⟨_,_,rfl,rfl,X (aZ h.out (jF _) J.out _ _ _ _ _ _ _)⟩
    |with_reducible exact⟨_,_,rfl,rfl,X (gA.swap (aZ h.out (jF _) J.out _ _ _ _ _ _ _))⟩
    |with_reducible exact⟨_,_,rfl,rfl,X (cC h.out (jF _) Q ae J.out bb.out _ _ _ _ _ _)⟩
    |with_reducible exact⟨_,_,rfl,rfl,X (cC h.out Q (jF _) af bb.out J.out _ _ _ _ _ _)⟩
  case rest=>
   obtain⟨an,en,rfl,rfl,ag⟩:=hcut;clear b0 b1 y b3 b4 b5 b6 b7 b8 M;obtain⟨q,dj⟩:=Ze wc;rw[<-dj] at ag ⊢;clear dj;have bd:=X ag.out.below;have H:=X (l.out.trans (bd.out.mono l.out.size));have v:=X (bp.out.trans (H.out.mono bp.out.size))
   have HC:=X (λ(b:N)(e:Zb q b)=>(show Zq b w.heap.size 0 (Zk a r L)/\Zq b (w.heap.size+1) 7 (Zk a3 i.G pc)/\jK b el (Y A.v) (Y A.f) (Zk sa A.e sc)/\jK b em (Y E.v) (Y E.f) (Zk ta E.e tc)/\jK b an (Y B.v) (Y B.f) (Zk ua B.e uc)/\jK b en (Y I.v) (Y I.f) (Zk va I.e vc) from
    ⟨jP e (jP H.out c8.out),jP e (jP H.out c9.out.e7),(bc.out.one.below bd.out).below e,(bc.out.two.below bd.out).below e,ag.out.one.below e,ag.out.two.below e⟩))
   have dk:=X (λ(b:N)(e:Zb q b)=>AU B t ua uc i.G a3 pc b ch.out eg (jI e (jI H.out a6.out.1)) (kD (v.out.trans (e.mono v.out.size)) hp));have HU:=X (λ(aa:Zo)(c1:Nat)(b:N)(e:Zb q b)(hi:InL b t.e aa)=>Rc r a L t aa c1 A sa sc b (kD (v.out.trans (e.mono v.out.size)) hg) hi (jI e (jI H.out a5.out.1)));have ab:=X (λ(C:(xM r t A).2=0)=>Lq hs C);obtain⟨U,hU⟩:=Ze (xM r t A);rw[<-hU] at HU ab;have HF:=X (λ(C:U.2=0)(ba:Zo)(be:Nat)(b:N)(e:Zb q b)(ac:xV (λ_=>True) b U.1 ba)=>On r a L U.1 ba be A sa sc E ta tc b (ab.out C).2 (ab.out C).1 cf.out.1 cf.out.2 (kD (v.out.trans (e.mono v.out.size)) hg) ac (jI e (jI H.out a5.out.1)) (jI e (jI H.out a5.out.2)));have ck:=X (λ(C:U.2=0)(ba:Zo)(be:Nat)(b:N)(e:Zb q b)(ac:xV (λ_=>True) b U.1 ba)=>On r a L U.1 ba be B ua uc I va vc b (ab.out C).2 (ab.out C).1 cg.out.1 cg.out.2 (kD (v.out.trans (e.mono v.out.size)) hg) ac (jI e (jI H.out a6.out.1)) (jI e (jI H.out a6.out.2)));obtain⟨bf,hF⟩:=Ze (pW r U.1 A E);obtain⟨F',cl⟩:=Ze (pW r U.1 B I);rw[<-hF] at HF;rw[<-cl] at ck;have HQ:=X (λ(b:N)(e:Zb q b)=>IJ L uc pc tc (kD (v.out.trans (e.mono v.out.size)) hg) (jI e (jI H.out a6.out.1)) (kD (v.out.trans (e.mono v.out.size)) hp) (jI e (jI H.out a5.out.2)) (by omega));have cm:=X (λ(C:(lO r B i.G E).2=0)=>ZI ch.out C);obtain⟨P,hP⟩:=Ze (lO r B i.G E);rw[<-hP] at HQ cm;have HO:=X (λ(b:N)(e:Zb w b)=>Ri c (some (D W Z)) cw k b eh (by omega) (kL e hc));rw[<-ek.out] at HO;have cn:(c.eraseIdx k).length<=400:=(by rw[Bh];split<;>omega);have co:(aI d n i.rt P.1).length=d.length:=jE4;obtain⟨bg,hE⟩:=Ze (c.eraseIdx k);obtain⟨bh,hG⟩:=Ze (aI d n i.rt P.1);rw[<-hE] at HO cn;rw[<-hG] at co
   have HD:=X (λ(C:P.2=0)=>(show ∀ao,ao∈bg++bh->kP r ao.2.1=0/\kP r ao.2.2=0 from λao hz=>by
    rcases vD.1 hz with ah|ah
    .rw[hE] at ah;exact dg.out ao (Mu ah)
    rw[hG] at ah;exact jE3 dh.out (cm.out C) ao ah))
   have HP:=X (λ(C:U.2=0)(h1:P.2=0)(ba:Zo)(be:Nat)(a2:Zo)(dc:Nat)(b:N)(e:Zb w b)(ac:xV (λ_=>True) b U.1 ba)(hd:kR b (bg++bh) a2)=>Nq r a L U.1 ba be (bg++bh) a2 dc b (ab.out C).2 (by rw[qB];omega) (ab.out C).1 (HD.out h1) (kD e hg) ac hd);rw[qB] at HP;have dl:=X (λ(bq:Zo)(ca:Nat)(b:N)(e:Zb w b)(hu:InL b P.1.e bq)=>da.out P.1 bq ca b e hu);rw[<-hG] at dl;have bi:Hid (sZ r c d k n i.rt i.G t A E B I=if U.2=0 then(if bf=0 then(if F'=0 then(if P.2=0 then fB r U.1 (bg++bh) else([],P.2)) else([],F')) else([],bf)) else([],U.2)):=(by show _=_;rw[sZ,hF,cl,hE,hG,hP,hU]);have eo:=X cn;have dm:=X co;have dp:=X (jM ag.out.lp (jM l.out.size ag.out.one.lt));have dq:=X (bp.out.trans (l.out.mono bp.out.size));clear hE hG hF cl hP hU hg hc hd hp hs hx hy i1 i2 i3 i4 c5 c6 b2 b9 bc ag H a5 a6 cf cg ej c7 cn co bl ab HD cm da ch dg dh
   go_upto_region 3 with fail
   have f:=HC.out;have b0:=λ(b:N)(e:Zb q b)=>(f b e).1;have b1:=λ(b:N)(e:Zb q b)=>(f b e).2.1;have y:=λ(b:N)(e:Zb q b)=>(f b e).2.2.1.c0;have b3:=λ(b:N)(e:Zb q b)=>(f b e).2.2.1.c1;have b4:=λ(b:N)(e:Zb q b)=>(f b e).2.2.1.c2;have b5:=λ(b:N)(e:Zb q b)=>(f b e).2.2.2.2.1.c0;have b6:=λ(b:N)(e:Zb q b)=>(f b e).2.2.2.2.1.c1;have b7:=λ(b:N)(e:Zb q b)=>(f b e).2.2.2.2.1.c2;have M:=jW q.heap.size q;clear f
   go_cut [14,15] (λt a7 wc=>∃R lc,t=Zk R U.1 lc/\a7=Y U.2/\Hid (xV (λk=>q.heap.size<=k) wc U.1 R)/\Hid (Zb q wc))
   case first=>
    go_region_held3 (λb=>Zb q b) ((first|with_reducible exact K.out|with_reducible exact h.out|((go_grown<;>(first|exact K|exact h));done)|go_keep)) ((first
     |(go_at_call 156
       with_reducible refine(dk.out _ ?_).mono ?_
       focus ((go_grown);done)
       rintro G u ⟨aa,c1,rfl,dr,s⟩;have h:Hid (Zb q u):=(by first|exact s|exact dN s);have ep:=X (λ(b:N)(e:Zb u b)=>jI e dr)
       clear dr s)
     |(go_at_call 182
       with_reducible refine(HU.out _ _ _ ?_ (ep.out _ ?_)).mono ?_
       focus ((repeat' (first|with_reducible exact h.out|(with_reducible refine xH ?_)));done)
       focus ((go_grown);done)
       rintro G wB ⟨R,lc,rfl,ac,ai⟩;have K:Hid (Zb q wB):=by
        first
         |exact h.out.trans (yX ai h.out.size)
         |exact h.out.trans (yX (dN ai) h.out.size)
       have ap:Hid (xV (λk=>q.heap.size<=k) wB U.1 R):=tN (λk hk=>kN h.out.size hk) ac
       clear ac ai)))
    all_goals (go_wp2_with fail;go_meet)
    all_goals exact⟨R,lc,rfl,rfl,ap,K⟩
   case rest=>
    obtain⟨R,lc,rfl,rfl,ap,aj⟩:=hcut;clear b0 b1 y b3 b4 b5 b6 b7 M;obtain⟨w1,ds⟩:=Ze wc;rw[<-ds] at ap aj ⊢;clear ds HU dk;by_cases aq:U.2=0
    .have eu:(U.2 !=0)=false:=by simpa using aq
     have S:=X aq;clear aq;have ak:=X (HF.out S.out R lc w1 aj.out (tN (λ_ _=>trivial) ap.out));obtain⟨g0,_,⟨p0,p1,p2,_,_,_⟩,⟨q0,q1,q2,_,_,_⟩,_,_⟩:=HC.out w1 aj.out
     go_wp2_with fail
     refine ak.out.mono ?_;rintro G w2 ⟨rfl,cp⟩;have ar:=X (aj.out.trans (cp.mono aj.out.size));have cq:=X (gW cp ap.out);clear cp ak HF g0 p0 p1 p2 q0 q1 q2 ap aj;by_cases au:bf=0
     .have ef:(bf !=0)=false:=by simpa using au
      have bj:=X au;clear au;have dt:=X (ck.out S.out R lc w2 ar.out (tN (λ_ _=>trivial) cq.out));obtain⟨g0,_,_,_,⟨p0,p1,p2,_,_,_⟩,⟨q0,q1,q2,_,_,_⟩⟩:=HC.out w2 ar.out
      go_wp2_with fail
      refine dt.out.mono ?_;rintro G w3 ⟨rfl,cr⟩;have al:=X (ar.out.trans (cr.mono ar.out.size));have du:=X (gW cr cq.out);clear cr dt ck g0 p0 p1 p2 q0 q1 q2 cq ar;by_cases av:F'=0
      .have fh:(F' !=0)=false:=by simpa using av
       have ak:=X av;clear av;have dv:=X (HQ.out w3 al.out);obtain⟨g0,g7,_,⟨q0,q1,q2,_,_,_⟩,⟨p0,p1,p2,_,_,_⟩,_⟩:=HC.out w3 al.out
       go_wp2_with fail
       refine dv.out.mono ?_;rintro G w4 ⟨⟨xa,xc,rfl,dw⟩,cs⟩;have dx:=X (al.out.trans (cs.mono al.out.size));have dy:=X (gW cs du.out);have dz:Hid (jT (λk=>q.heap.size<=k) w4 P.1.e xa):=kQ (λk hk=>kN al.out.size hk) dw;clear cs dw dv HQ g0 g7 p0 p1 p2 q0 q1 q2 du al;have d0:=X (HC.out w4 dx.out).2.2.2.2.1;obtain⟨m,aw⟩:=Ze (qZ w4 an 0 (Y P.1.v) (Y P.1.f) (Zk xa P.1.e xc));have ct:Hid (((w4.setCell (D an 0) (Y P.1.v)).setCell (D an 1) (Y P.1.f)).setCell (D an 2) (Zk xa P.1.e xc)=m):=(by show _=_;rw[aw]);have d1:=dp.out.1;have eq:=dp.out.2.2;have d2:Hid (Zb j m):=by
        rw[aw];exact xZ (bd.out.trans (dx.out.mono bd.out.size)) d1 _ _ _
       have er:Hid (jK m an (Y P.1.v) (Y P.1.f) (Zk xa P.1.e xc)):=aw▸d0.out.set _ _ _;have es:Hid (xV (λ_=>True) m U.1 R):=(by rw[aw];exact tN (λ_ _=>trivial) (EG (λbr hj=>by omega) dy.out));have et:Hid (InL m P.1.e xa):=(by rw[aw];exact kQ (λ_ _=>trivial) (xN (λbr hj _=>xQ (show br≠_ by omega)) dz.out));have V:=X (dq.out.trans (d2.out.mono dq.out.size));have d3:=X (l.out.trans (d2.out.mono l.out.size));have ev:=X (c9.out.below d3.out);have ew:=X (jP d3.out c8.out);obtain⟨p0,p1,p2,f0,f1,f2⟩:=d0.out;clear aw dy dz d1 eq;by_cases ax:P.2=0
       .have ex:(P.2 !=0)=false:=by simpa using ax
        have bs:=X ax;clear ax
        go_upto_region 15 with fail
        rw[ct.out];have ey:=X (λ(b:N)(e:Zb m b)=>jM (jP e ew.out) (jM (ev.out.below e) (er.out.below e)));have f:=ey.out;have b0:=λ(b:N)(e:Zb m b)=>(f b e).1;have b1:=λ(b:N)(e:Zb m b)=>(f b e).2.1.e0;have y:=λ(b:N)(e:Zb m b)=>(f b e).2.1.e1;have b3:=λ(b:N)(e:Zb m b)=>(f b e).2.1.e2;have b4:=λ(b:N)(e:Zb m b)=>(f b e).2.1.e3;have b5:=λ(b:N)(e:Zb m b)=>(f b e).2.1.e4;have b6:=λ(b:N)(e:Zb m b)=>(f b e).2.1.e5;have b7:=λ(b:N)(e:Zb m b)=>(f b e).2.1.e6;have b8:=λ(b:N)(e:Zb m b)=>(f b e).2.1.e7;have fi:=λ(b:N)(e:Zb m b)=>(f b e).2.2.c0;have fj:=λ(b:N)(e:Zb m b)=>(f b e).2.2.c1;have fk:=λ(b:N)(e:Zb m b)=>(f b e).2.2.c2;have M:=jW m.heap.size m;clear f ct p0 p1 p2 f0 f1 f2
        go_region_held3 (λb=>Zb m b) ((first|with_reducible exact d4.out|with_reducible exact am.out|with_reducible exact O.out _|with_reducible exact bk.out|with_reducible exact K.out|((repeat' (first|with_reducible exact K.out|with_reducible exact O.out _|with_reducible exact bk.out|with_reducible exact am.out|with_reducible exact jW _ _|(with_reducible refine xH ?_)));done)|go_keep)) ((first
         |(go_at_call 184
           with_reducible refine(HO.out _ ?_).mono ?_
           focus ((repeat' (first|with_reducible exact V.out|(with_reducible refine xH ?_)));done)
           rintro G wB ⟨vB,rfl,d5,ai⟩;obtain⟨aB,ez,fl,rfl,d6⟩:=(mH.outs d5).row;have K:Hid (Zb m wB):=(by first|exact ai|exact dN ai);have e0:=X d6
           clear d5 ai d6)
         |(go_at_call 188
           with_reducible refine(dl.out _ _ _ ?_ (jI ?_ et.out)).mono ?_
           focus ((repeat' (first|with_reducible exact V.out.trans (K.out.mono V.out.size)|(with_reducible refine xH ?_)));done)
           focus ((repeat' (first|with_reducible exact K.out|(with_reducible refine xH ?_)));done)
           rintro G wC ⟨vC,rfl,d7,cu⟩;obtain⟨aC,e1,fm,rfl,d8⟩:=d7.row;have d9:Hid (Zb wB wC):=(by first|exact cu|exact dN cu);have bk:=X (K.out.trans (d9.out.mono K.out.size));have e2:=X (Ey d9.out e0.out);have e3:=X d8;have O:=X (λo=>bk.out.trans ((jG wC o).mono bk.out.size));have e4:=X (λ(qc:Nat)(b:N)(e:Zb (wC.alloc (.cells #[Zk aB bg ez,Zk aC bh e1] 39)) b)=>jM e (MT qc (by have:=dm.out;omega) (by have:=eo.out;omega) (by have:=dm.out;omega) (jP e (jJ 0 rfl)) (jP e (jJ 1 rfl)) (Ey e (Ey (jG _ _) e2.out)) (Ey e (Ey (jG _ _) e3.out))))
           clear d7 cu d8)
         |(go_at_call 187
           with_reducible refine(e4.out _ _ ?_).2.mono ?_
           focus ((go_grown);done)
           rintro G wD ⟨aD,fn,rfl,ea,eb⟩;have am:Hid (Zb m wD):=by
            refine zT ?_ (eb.mono ?_)
            .repeat' (first|with_reducible exact O.out _|(with_reducible refine xH ?_))
            have h9:=bk.out.size;simp;omega
           have e5:=X ea
           clear ea eb)
         |(go_at_call 183
           with_reducible refine(HP.out S.out bs.out _ _ _ _ _ ?_ (gW am.out es.out) e5.out).mono ?_
           focus (exact V.out.trans (am.out.mono V.out.size))
           rintro G wE ⟨e6,cv⟩;obtain⟨aE,e7,rfl,ec,ed⟩:=e6;have e8:Hid (Zb wD wE):=(by first|exact cv|exact dN cv);have d4:Hid (Zb m wE):=am.out.trans (e8.out.mono am.out.size);have ee:=X (jM ec ed)
           clear ec ed cv)))
        all_goals
         go_wp2
         go_ret2
         have M:=V.out.size;have fo:=am.out.size;refine⟨?_,V.out.trans (d4.out.mono V.out.size)⟩;rw[bi.out,jB S.out,jB bj.out,jB ak.out,jB bs.out];refine⟨aE,e7,rfl,ee.out.1,?_⟩;rcases ee.out.2 with ah|⟨e9,fa,h1,h2,h3,h4,h5⟩
         .exact jD ah
         exact jE ⟨e9,fa,h1,h2,h3,h4,λbr hj=>by have:=h5 br hj;omega⟩
       have ex:(P.2 !=0)=true:=(by simpa using ax);have bs:=X ax;clear ax;go_wp2
       go_ret2
       rw[ct.out];exact⟨by rw[bi.out,jB S.out,jB bj.out,jB ak.out,jC bs.out];exact⟨none,0,rfl,trivial,jD rfl⟩,V.out⟩
      have ef:(F' !=0)=true:=(by simpa using av);have ak:=X av;clear av;go_wp2
      go_ret2
      exact⟨by rw[bi.out,jB S.out,jB bj.out,jC ak.out];exact⟨none,0,rfl,trivial,jD rfl⟩,v.out.trans (al.out.mono v.out.size)⟩
     have ef:(bf !=0)=true:=(by simpa using au);have bj:=X au;clear au;go_wp2
     go_ret2
     exact⟨by rw[bi.out,jB S.out,jC bj.out];exact⟨none,0,rfl,trivial,jD rfl⟩,v.out.trans (ar.out.mono v.out.size)⟩
    have eu:(U.2 !=0)=true:=(by simpa using aq);have S:=X aq;clear aq;go_wp2
    go_ret2
    exact⟨by rw[bi.out,jC S.out];exact⟨none,0,rfl,trivial,jD rfl⟩,v.out.trans (aj.out.mono v.out.size)⟩
def rX(w:N)(n:Nat):Zb w (w.drewN n):=⟨rfl,rfl,rfl,jF _,λ_ _=>rfl⟩
def KN:(pU r t r1).2=0->∃q,qK t r1=some q:=by
 intro h;rw[pU] at h;split at h
 .cases a:qK t r1 with
  |some q=>exact⟨q,rfl⟩
  |none=>rw[a] at h;cases h
 rename_i b;exact jN h b
def jEb(O:Nat){c:Zm}(P:Nat){i:jX}(Q:Nat)(hs:kJ r c=0)(bt:i.L=1\/i.L=2\/i.L=3)(bu:i.G.length<=9223372036854775807)(hg:jV w r a)(hp:jV w i.G a2)(hc:zM w c a1):
 Calls Zf 153 #[.agg #[.slice a r.length O],.slice a1 c.length P,zV i a2 Q] w λai b=>ai=.returned (.bool (mT r c i))/\Zb w b:=by
 obtain⟨cj,ck,aj⟩:=cV hs;obtain⟨z,B⟩:=Ze ((w.alloc (.cells #[.slice a r.length O] 24)).alloc (.cells #[Y i.L,Y i.left,Y i.right,Y i.la,Y i.ra,.bool i.lt,.bool i.rt,.slice a2 i.G.length Q] 81));have R:Zb w z:=by rw[B];exact kF _ _ _
 have ac:z.cell? ⟨w.heap.size,0,none⟩=some (.slice a r.length O):=by rw[B,kW (by simp)];exact jJ 0 rfl
 have C:I8 z (w.heap.size+1) i a2 Q:=by rw[B];exact I8.new _ (by simp)
 have ak:=X B;have ay:=X R;have bv:=X ac;have H8:=X C;have u:=X (λ(b:N)(d:Zb z b)=>ay.trans (d.mono ay.size));by_cases g:yG i.left c.length=true
 .obtain⟨E,S,az,a0⟩:=fR [] g
  have U:c[E]? =some (kX c i.left):=a0;clear a0;have cl:=(Zl U);obtain⟨V,W,rfl⟩:=uL hc (by omega);obtain⟨ca,cc,J,a5⟩:=iX (dG R hc) U;have a6:(kX c i.left).length<=8:=(aj _ (jU U)).1;have h:=X (λ(b:N)=>Kk (some ⟨V,W,none⟩) c.length P (E:Int) b);rw[<-S,g] at h;have j:=X (λ(b:N)=>Pd ca (kX c i.left).length cc i.la b);have Z:z.cell? ⟨w.heap.size+1,1,none⟩=some (Y (E:Int)):=by rw[<-S];exact C.e1
  rw[S] at h;have e3:=C.e3;have cm:(E:Int)<c.length:=by omega
  have cn:(0:Int)<=E:=by omega
  by_cases l:yG i.la (kX c i.left).length=true
  .rw[l] at j
   have HT:Hid (mT r c i=(if i.L=1 then true else if i.L=2 then yG i.ra (kX c i.left).length else yG i.right c.length && yG i.ra (kX c i.right).length && ((pU r (qG (vR (kX c i.right) i.ra) i.rt) i.G).2==0))):=(by show _=_;rw[mT,g,l];rfl);have HL:=X (λ(b:N)(d:Zb z b)=>(show I8 b (w.heap.size+1) i a2 Q/\b.cell? ⟨w.heap.size+1,1,none⟩=some (Y (E:Int))/\b.cell? ⟨V,W+E,none⟩=some (.slice ca (kX c i.left).length cc)/\b.cell? ⟨w.heap.size,0,none⟩=some (.slice a r.length O) from⟨H8.below d,jP d Z,jP d J,jP d bv⟩));have al:=X (λ(b:N)=>Pd ca (kX c i.left).length cc i.ra b);obtain⟨bw,hC⟩:=Ze (kX c i.left);rw[<-hC] at j al HT HL a6 J;clear hC a5 B ac C g l U S az R
   go_in
   go_upto_region 1 with fail
   rw[<-ak.out]
   go_quiet ((first|(go_at_call 179;exact Calls.quiet_of_same (h _))|(go_at_call 180;exact Calls.quiet_of_same (j _))))
   obtain⟨v,am⟩:=Ze (z.drewN nq);have k:=X (show Zb z v by rw[am];exact rX _ _);rw[<-am];clear am Z e3 J h j;obtain⟨⟨e0, -,e2, -,e4, -,e6,e7⟩,Z,J,g0⟩:=HL v k;rcases bt with x|x|x
   .have ek:(i.L==1)=true:=by simpa using x
    go_wp2;go_ret;exact⟨vO (by rw[HT.out,jB x]),u _ k⟩
   .have ek:(i.L==1)=false:=by rw[x];rfl
    have bx:(i.L==2)=true:=by simpa using x
    go_upto_region 7 with fail
    go_quiet ((go_at_call 180;exact Calls.quiet_of_same (al _)))
    go_wp2;go_ret;exact⟨vO (by rw[HT.out,jC (by omega),jB x]),u _ (k.trans ((rX _ _).mono k.size))⟩
   have ek:(i.L==1)=false:=(by rw[x];rfl);have bx:(i.L==2)=false:=(by rw[x];rfl);have an:Hid (mT r c i=(yG i.right c.length && yG i.ra (kX c i.right).length && ((pU r (qG (vR (kX c i.right) i.ra) i.rt) i.G).2==0))):=(by show _=_;rw[HT.out,jC (by omega),jC (by omega)]);clear HT x al
   go_upto_region 8 with fail
   by_cases g:yG i.right c.length=true
   .obtain⟨K,ad,a7,a8⟩:=fR [] g
    have L:c[K]? =some (kX c i.right):=a8;clear a8;have co:=(Zl L);obtain⟨da,dc,ae,af⟩:=iX (dG (u _ k) hc) L;have a9:(kX c i.right).length<=8:=(aj _ (jU L)).1;have h:=X (λ(b:N)=>Kk (some ⟨V,W,none⟩) c.length P (K:Int) b);rw[<-ad,g] at h;rw[ad] at h e2;have j:=X (λ(b:N)=>Pd da (kX c i.right).length dc i.ra b);have cp:(K:Int)<c.length:=(by omega);have cq:(0:Int)<=K:=(by omega);by_cases l:yG i.ra (kX c i.right).length=true
    .obtain⟨m,hm,em,ba⟩:=fR aJ l
     have ag:(kX c i.right)[m]? =some (vR (kX c i.right) i.ra):=ba;clear ba;have bz:=(Zl ag);rw[l] at j;have b3:=(aj _ (jU L)).2 _ (jU ag);have n:Hid (mT r c i=((pU r (qG (vR (kX c i.right) i.ra) i.rt) i.G).2==0)):=(by show _=_;rw[an.out,g,l];rfl);obtain⟨y,ao⟩:=Ze (vR (kX c i.right) i.ra);have bb:(kX c i.right)[m]? =some y:=(by rw[ag,ao]);obtain⟨s,A,rfl⟩:=zN af (by omega);obtain⟨a3,c3,a4,c4,j0,j1,j2,j3,j4,j5,j6,i3,i4⟩:=dZ af bb;rw[<-ao] at n;have bc:=X (λ(b:N)=>Dq y a3 c3 a4 c4 i.rt b);have ap:=X (show v.cell? ⟨w.heap.size+1,4,none⟩=some (Y (m:Int)) by rw[<-hm];exact e4)
     have bd:=X (λ(b:N)(d:Zb v b)=>(show b.cell? ⟨w.heap.size+1,2,none⟩=some (Y (K:Int))/\b.cell? ⟨V,W+K,none⟩=some (.slice (some ⟨s,A,none⟩) (kX c i.right).length dc)/\b.cell? ⟨w.heap.size+1,4,none⟩=some (Y (m:Int))/\b.cell? ⟨w.heap.size+1,6,none⟩=some (.bool i.rt)/\b.cell? ⟨s,A+m*7,none⟩=some (.bool y.1)/\b.cell? ⟨s,A+m*7+1,none⟩=some (Y y.2.1.v)/\b.cell? ⟨s,A+m*7+2,none⟩=some (Y y.2.1.f)/\b.cell? ⟨s,A+m*7+3,none⟩=some (.slice a3 y.2.1.e.length c3)/\b.cell? ⟨s,A+m*7+4,none⟩=some (Y y.2.2.v)/\b.cell? ⟨s,A+m*7+5,none⟩=some (Y y.2.2.f)/\b.cell? ⟨s,A+m*7+6,none⟩=some (.slice a4 y.2.2.e.length c4) from
      ⟨jH d e2,jH d ae,jH d ap,jH d e6,jH d j0,jH d j1,jH d j2,jH d j3,jH d j4,jH d j5,jH d j6⟩))
     have cb:=X (λ(b:N)(d:Zb v b)=>jM (jH d g0) (jH d e7));obtain⟨aa,bL⟩:=Ze (qG y i.rt);obtain⟨aq,be⟩:=Ze (xG y i.rt);obtain⟨ua,ar⟩:=Ze (if i.rt then a4 else a3);obtain⟨uc,bf⟩:=Ze (if i.rt then c4 else c3);obtain⟨va,bg⟩:=Ze (if i.rt then a3 else a4);obtain⟨vc,bh⟩:=Ze (if i.rt then c3 else c4);rw[<-bL,<-be,<-ar,<-bf,<-bg,<-bh] at bc;rw[<-bL] at n;have cd:Hid (InL v aa.e ua):=(by show InL _ _ _;rw[bL,ar];exact(Do _ i3 i4).1);have HA:=X (λ(b:N)(d:Zb v b)=>EF O uc Q (kD (u _ (k.trans (d.mono k.size))) hg) (jI d cd) (kD (u _ (k.trans (d.mono k.size))) hp) bu);obtain⟨cr,hA⟩:=Ze (pU r aa i.G);rw[<-hA] at HA n;obtain⟨bi,hD⟩:=Ze (kX c i.right);rw[<-hD] at bd j a9 bz ae;have cs:(m:Int)<bi.length:=(by omega);have ct:(0:Int)<=m:=(by omega);clear hA hD bL be ar bf bg bh bb ao ag hm em l g ad a7 L af i3 i4 b3 j0 j1 j2 j3 j4 j5 j6 e0 Z J;rw[show v.cell? ⟨w.heap.size+1,4,none⟩=some (Y i.ra) from e4] at ap;clear ap
     go_quiet ((first|(go_at_call 179;exact Calls.quiet_of_same (h _))|(go_at_call 180;exact Calls.quiet_of_same (j _))))
     obtain⟨e,au⟩:=Ze (v.drewN nq);have f:=X (show Zb v e by rw[au];exact rX _ _);rw[<-au];clear au e2 e4 e6 e7 g0 ae h j
     go_upto_region 10 with fail
     have p:=bd.out;have b0:=λ(b:N)(d:Zb e b)=>(p b (f.trans (yX d f.size))).1;have b1:=λ(b:N)(d:Zb e b)=>(p b (f.trans (yX d f.size))).2.1;have b2:=λ(b:N)(d:Zb e b)=>(p b (f.trans (yX d f.size))).2.2.1;have s:=λ(b:N)(d:Zb e b)=>(p b (f.trans (yX d f.size))).2.2.2.1;have b4:=λ(b:N)(d:Zb e b)=>(p b (f.trans (yX d f.size))).2.2.2.2.1;have b5:=λ(b:N)(d:Zb e b)=>(p b (f.trans (yX d f.size))).2.2.2.2.2.1;have b6:=λ(b:N)(d:Zb e b)=>(p b (f.trans (yX d f.size))).2.2.2.2.2.2.1;have b7:=λ(b:N)(d:Zb e b)=>(p b (f.trans (yX d f.size))).2.2.2.2.2.2.2.1;have b8:=λ(b:N)(d:Zb e b)=>(p b (f.trans (yX d f.size))).2.2.2.2.2.2.2.2.1;have b9:=λ(b:N)(d:Zb e b)=>(p b (f.trans (yX d f.size))).2.2.2.2.2.2.2.2.2.1;have bj:=λ(b:N)(d:Zb e b)=>(p b (f.trans (yX d f.size))).2.2.2.2.2.2.2.2.2.2;have bk:=jW e.heap.size e;clear p
     go_cut [7,8] (λce cf wc=>∃Bp Bq,ce=.pointer (some ⟨Bp,0,none⟩)/\cf=.pointer (some ⟨Bq,0,none⟩)/\Hid (gA e wc Bp Bq (Y aa.v) (Y aa.f) (.slice ua aa.e.length uc) (Y aq.v) (Y aq.f) (.slice va aq.e.length vc)))
     case first=>
      go_region_held3 (λb=>Zb e b) ((first|with_reducible exact bl.out _ _|with_reducible exact bm.out _|((repeat' (first|with_reducible exact q.out|with_reducible exact bm.out _|with_reducible exact bl.out _ _|with_reducible exact jW _ _|(with_reducible refine xH ?_)|(with_reducible refine bD ?_ ?_ _;rotate_left;focus (first|exact jF _|exact cg|exact ah|(show e.heap.size<=_;omega)|(simp;omega)))|(refine Av ?_ ?_ _;rotate_left;focus (first|omega|(simp;omega)|(simp;done)))));done)|go_keep)) ((first
       |(go_at_call 155
         with_reducible refine(bc.out _).mono ?_
         rintro ai F ⟨rfl,G⟩;have q:Hid (Zb e F):=by
          refine zT ?_ (G.mono ?_)
          .go_grown
          first|omega|(simp;omega)|(simp;done)
         have bm:=X (λo=>q.trans ((jG F o).mono q.size));have bl:=X (λo1 o2=>q.trans ((kF F o1 o2).mono q.size));have cg:=q.out.size
         first
          |(have M:=mU G (Cx e _ _)
            have t:=mU G (Cy e _ _);have bn:e.heap.size+1<F.heap.size:=by
             have h9:=G.size;simp at h9;omega
            have av:e.heap.size≠e.heap.size+1:=(by omega);have aw:e.heap.size+1≠e.heap.size:=(by omega);have ah:e.heap.size<=e.heap.size+1:=(by omega);generalize ch:e.heap.size+1=H2 at t bn av aw ah ⊢;have ab:=X M;have bo:=X t;obtain⟨_,_,_,_,_,_⟩:=M;obtain⟨_,_,_,_,_,_⟩:=t
            clear ch)
          |(have M:=mU G (tT e _)
            have t:=λo=>M.alloc o;have r0:=λo=>(t o).c0;have r1:=λo=>(t o).c1;have r2:=λo=>(t o).c2;have r3:=λo=>(t o).f0;have r4:=λo=>(t o).f1;have r5:=λo=>(t o).f2;have bn:e.heap.size<F.heap.size:=by
             have h9:=G.size;simp at h9;omega
            have av:e.heap.size≠F.heap.size:=(by omega);have aw:F.heap.size≠e.heap.size:=(by omega);have ab:=X M;obtain⟨_,_,_,_,_,_⟩:=M
            clear t)
          |skip
         clear b0 b1 b2 s b4 b5 b6 b7 b8 b9 bj bk G)))
      all_goals (go_wp2_with fail;go_meet)
      all_goals first
       |with_reducible exact⟨_,_,rfl,rfl,X (aY q.out _ _ _ _ _ _ _ _)⟩
       |with_reducible exact⟨_,_,rfl,rfl,X (gA.swap (aY q.out _ _ _ _ _ _ _ _))⟩
       |with_reducible exact⟨_,_,rfl,rfl,X (aZ q.out (jF _) ab.out _ _ _ _ _ _ _)⟩
       |with_reducible exact⟨_,_,rfl,rfl,X (gA.swap (aZ q.out (jF _) ab.out _ _ _ _ _ _ _))⟩
       |with_reducible exact⟨_,_,rfl,rfl,X (cC q.out (jF _) ah av ab.out bo.out _ _ _ _ _ _)⟩
       |with_reducible exact⟨_,_,rfl,rfl,X (cC q.out ah (jF _) aw bo.out ab.out _ _ _ _ _ _)⟩
     case rest=>
      obtain⟨B7,B8,rfl,rfl,HX⟩:=hcut;clear b0 b1 b2 s b4 b5 b6 b7 b8 b9 bj bk;obtain⟨V3,bp⟩:=Ze wc;rw[<-bp] at HX ⊢;clear bp;have ax:=X (f.out.trans (HX.out.below.mono f.out.size));have bq:=X (u.out _ (k.out.trans (ax.out.mono k.out.size)));have br:=X (HA.out V3 ax.out);obtain⟨g0,e7⟩:=cb.out V3 ax.out;obtain⟨p0,p1,p2,_,_,_⟩:=HX.out.one;clear HA
      go_wp2_with fail
      refine br.out.mono ?_;rintro ai w1 ⟨ci,bs⟩;obtain⟨xa,xc,rfl,_⟩:=ci;have Hf:=X (bq.out.trans (bs.mono bq.out.size));clear bs br;go_wp2;go_ret;exact⟨vO n.out.symm,Hf.out.trans ((jG w1 _).mono Hf.out.size)⟩
    have H:yG i.ra (kX c i.right).length=false:=(by simpa using l);rw[H] at j;have n:Hid (mT r c i=false):=(by show _=_;rw[an.out,g,H];rfl);obtain⟨bi,hD⟩:=Ze (kX c i.right);rw[<-hD] at j a9 ae;clear hD l H g ad a7 L af
    go_quiet ((first|(go_at_call 179;exact Calls.quiet_of_same (h.out _))|(go_at_call 180;exact Calls.quiet_of_same (j.out _))))
    go_wp2;go_ret;exact⟨vO n.out.symm,u.out _ (k.out.trans ((rX _ _).mono k.out.size))⟩
   have I:yG i.right c.length=false:=(by simpa using g);have h:=X (λ(b:N)=>Kk (some ⟨V,W,none⟩) c.length P i.right b);rw[I] at h;have n:Hid (mT r c i=false):=(by show _=_;rw[an.out,I];rfl);clear g I
   go_quiet ((go_at_call 179;exact Calls.quiet_of_same (h.out _)))
   go_wp2;go_ret;exact⟨vO n.out.symm,u.out _ (k.out.trans ((rX _ _).mono k.out.size))⟩
  have H:yG i.la (kX c i.left).length=false:=by simpa using l
  rw[H] at j;have n:Hid (mT r c i=false):=by show _=_;rw[mT,g,H];rfl
  obtain⟨bw,hC⟩:=Ze (kX c i.left);rw[<-hC] at j a6 J;clear hC a5 B ac C g l H U S az R;go_enter Tryz.func153,Tryz.ntmps153
  go_upto_region 1 with fail
  rw[<-ak.out]
  go_quiet ((first|(go_at_call 179;exact Calls.quiet_of_same (h.out _))|(go_at_call 180;exact Calls.quiet_of_same (j.out _))))
  go_wp2;go_ret;exact⟨vO n.out.symm,u.out _ (rX _ _)⟩
 have I:yG i.left c.length=false:=by simpa using g
 have h:=X (λ(b:N)=>Kk a1 c.length P i.left b);rw[I] at h;have n:Hid (mT r c i=false):=by show _=_;rw[mT,I];rfl
 have Z:=C.e1;clear B ac C g I R;go_enter Tryz.func153,Tryz.ntmps153
 go_upto_region 1 with fail
 rw[<-ak.out]
 go_quiet ((go_at_call 179;exact Calls.quiet_of_same (h.out _)))
 go_wp2;go_ret;exact⟨vO n.out.symm,u.out _ (rX _ _)⟩
theorem Tryz.qe(a b:Int)(s:Zv)(w:N):(Instr.field 43 (.agg #[Y a,Y b,s]) 0).run Zf w=.ok (Y a) w:=by kernel_rfl
def QJ(cc:Nat)(dc:Nat){i:jX}(R:Nat)(a8:i.L=1\/i.L=2\/i.L=3)(bn:c.length<=1000)(bo:d.length<=1000)(a9:yG i.la c.length=true)(h2:i.L=2->yG i.ra c.length=true)(h3:i.L=3->yG i.ra d.length=true/\∃p,qK (qG (vR d i.ra) i.rt) i.G=some p)(ba:i.G.length<=100000)(hp:jV w i.G a2)(hc:kR w c a)(hd:kR w d a1):
 Calls Zf 125 #[.slice a c.length cc,.slice a1 d.length dc,zV i a2 R] w λS b=>S=.returned (.bool (sW c d i))/\Zb w b:=by
 obtain⟨f,x⟩:=Ze (w.alloc (.cells #[Y i.L,Y i.left,Y i.right,Y i.la,Y i.ra,.bool i.lt,.bool i.rt,Zk a2 i.G R] 81));have aa:Zb w f:=x▸jG _ _;have h8:I8 f w.heap.size i a2 R:=x▸I8.new _ rfl;obtain⟨z,E,ek,hx⟩:=fR aJ a9;have bp:=(Zl hx);obtain⟨bq,br,rfl⟩:=zN hc (by omega);obtain⟨A,ab⟩:=Ze (vR c i.la);have am:c[z]? =some A:=by rw[hx,ab]
 obtain⟨bs,c1,bt,c2,k0, -, -, -, -, -, -, -, -⟩:=dZ (kL aa hc) am;have bu:(z:Int)<c.length:=by omega
 have bv:(0:Int)<=z:=by omega
 have ac:=X ab;have ad:=X x;have q:=X aa;have H8:=X h8;obtain⟨e0, -, -,U,F, -,V,G⟩:=h8;have bb:Zq f w.heap.size 3 (Y (z:Int)):=E▸U;clear am hx ab aa;rcases a8 with g|g|g
 .have an:(i.L==1)=true:=by simpa using g
  have k:Hid (sW c d i= !A.1):=by show _=_;rw[sW,jB g,ac.out]
  clear x U F V G E ek g
  go_in
  go_upto_region 1 with fail
  rw[<-ad.out];go_wp2;go_ret;exact⟨vO k.symm,q⟩
 .have an:(i.L==1)=false:=by rw[g];rfl
  have bc:(i.L==2)=true:=by simpa using g
  obtain⟨m,B,em,s⟩:=fR aJ (h2 g);have bd:=(Zl s);obtain⟨y,r⟩:=Ze (vR c i.ra);have H:c[m]? =some y:=by rw[s,r]
  obtain⟨I,J,K,L,W, -, -, -, -, -, -, -, -⟩:=dZ (kL q hc) H;have be:(m:Int)<c.length:=by omega
  have bf:(0:Int)<=m:=by omega
  have ae:Zq f w.heap.size 4 (Y (m:Int)):=B▸F;have k:Hid (sW c d i=(A.1 && y.1 && ((z:Int) !=(m:Int)))):=by show _=_;rw[sW,jC (by omega),jB g,ac.out,r,<-E,<-B]
  clear x U F V G E ek B em H r s g;obtain⟨af,M⟩:=Ze A.1;obtain⟨bg,hY⟩:=Ze y.1;obtain⟨ao,hZ⟩:∃ao,ao=((z:Int) !=(m:Int)):=⟨_,rfl⟩;rw[<-M] at k0 k;rw[<-hY] at W k;rw[<-hZ] at k;have bw:=hZ.symm;clear M hY hZ
  go_in
  go_upto_region 1 with fail
  rw[<-ad.out]
  cases af<;>cases bg
  all_goals
   go_wp2;go_ret;exact⟨vO (by rw[k.out];simp),q⟩
 have an:(i.L==1)=false:=by rw[g];rfl
 have bc:(i.L==2)=false:=by rw[g];rfl
 obtain⟨ap,p,O⟩:=h3 g;obtain⟨m,B,em,s⟩:=fR aJ ap;have bd:=(Zl s);obtain⟨l,t,rfl⟩:=zN hd (by omega);obtain⟨y,r⟩:=Ze (vR d i.ra);have H:d[m]? =some y:=by rw[s,r]
 obtain⟨I,J,K,L,W,j1,j2,j3,j4,j5,j6,i3,i4⟩:=dZ (kL q hd) H;have be:(m:Int)<d.length:=by omega
 have bf:(0:Int)<=m:=by omega
 rw[<-r] at O;have ae:Zq f w.heap.size 4 (Y (m:Int)):=B▸F;have k:Hid (sW c d i=(A.1 && (p.v==0))):=by show _=_;rw[sW,jC (by omega),jC (by omega),ac.out,<-r,Dg,O];rfl
 have aq:=X (λb=>Dq y I J K L i.rt b)
 have bh:=X (λ(b:N)(e:Zb f b)=>(show Zq b w.heap.size 4 (Y (m:Int))/\Zq b w.heap.size 6 (.bool i.rt)/\Zq b l (t+m*7) (.bool y.1)/\Zq b l (t+m*7+1) (Y y.2.1.v)/\Zq b l (t+m*7+2) (Y y.2.1.f)/\Zq b l (t+m*7+3) (Zk I y.2.1.e J)/\Zq b l (t+m*7+4) (Y y.2.2.v)/\Zq b l (t+m*7+5) (Y y.2.2.f)/\Zq b l (t+m*7+6) (Zk K y.2.2.e L) from
  ⟨jH e ae,jH e V,jH e W,jH e j1,jH e j2,jH e j3,jH e j4,jH e j5,jH e j6⟩))
 obtain⟨P,bL⟩:=Ze (qG y i.rt);obtain⟨ag,ar⟩:=Ze (xG y i.rt);obtain⟨ua,ah⟩:=Ze (if i.rt then K else I);obtain⟨uc,au⟩:=Ze (if i.rt then L else J);obtain⟨va,av⟩:=Ze (if i.rt then I else K);obtain⟨vc,aw⟩:=Ze (if i.rt then J else L);rw[<-bL,<-ar,<-ah,<-au,<-av,<-aw] at aq;rw[<-bL] at O;have bi:Hid (InL f P.e ua):=by show InL _ _ _;rw[bL,ah];exact(Do _ i3 i4).1
 have ax:=X (λb e=>AU P p ua uc i.G a2 R b O ba (jI e bi) (kD (q.trans (e.mono q.size)) hp));have bj:=X G;obtain⟨af,M⟩:=Ze A.1;rw[<-M] at k0 k;clear M bL ar ah au av aw H r s B em ap E ek x U F ae V G W j1 j2 j3 j4 j5 j6 i3 i4 O g
 go_in
 go_upto_region 1 with fail
 rw[<-ad.out]
 go_upto_region 7 with fail
 clear k0 e0 bb;have n:=bh.out;have b0:=λb e=>(n b e).1;have b1:=λb e=>(n b e).2.1;have b2:=λb e=>(n b e).2.2.1;have l:=λb e=>(n b e).2.2.2.1;have b4:=λb e=>(n b e).2.2.2.2.1;have b5:=λb e=>(n b e).2.2.2.2.2.1;have b6:=λb e=>(n b e).2.2.2.2.2.2.1;have b7:=λ(b:N)(e:Zb f b)=>(n b e).2.2.2.2.2.2.2.1;have b8:=λ(b:N)(e:Zb f b)=>(n b e).2.2.2.2.2.2.2.2;have ay:=jW f.heap.size f;clear n
 go_cut [8,9] (λp bk wc=>∃Bp Bq,p=Zr Bp/\bk=Zr Bq/\Hid (gA f wc Bp Bq (Y P.v) (Y P.f) (Zk ua P.e uc) (Y ag.v) (Y ag.f) (Zk va ag.e vc)))
 case first=>
  go_region_held3 (λb=>Zb f b) ((first|with_reducible exact az.out _ _|with_reducible exact a0.out _|((repeat' (first|with_reducible exact h.out|with_reducible exact a0.out _|with_reducible exact az.out _ _|with_reducible exact jW _ _|(with_reducible refine xH ?_)|(with_reducible refine bD ?_ ?_ _;rotate_left;focus (first|exact jF _|exact bl|exact Z|(show f.heap.size<=_;omega)|(simp;omega)))|(refine Av ?_ ?_ _;rotate_left;focus (first|omega|(simp;omega)|(simp;done)))));done)|go_keep)) ((first
   |(go_at_call 155
     with_reducible refine(aq.out _).mono ?_
     rintro S u ⟨rfl,v⟩;have h:Hid (Zb f u):=by
      refine zT ?_ (v.mono ?_)
      .go_grown
      first|omega|(simp;omega)|(simp;done)
     have a0:=X (λo=>h.trans ((jG u o).mono h.size));have az:=X (λo1 o2=>h.trans ((kF u o1 o2).mono h.size));have bl:=h.size
     first
      |(have C:=mU v (Cx f _ _)
        have j:=mU v (Cy f _ _);have a3:f.heap.size+1<u.heap.size:=by
         have h9:=v.size;simp at h9;omega
        have ai:f.heap.size≠f.heap.size+1:=(by omega);have aj:f.heap.size+1≠f.heap.size:=(by omega);have Z:f.heap.size<=f.heap.size+1:=(by omega);generalize bm:f.heap.size+1=H2 at j a3 ai aj Z ⊢;have Q:=X C;have a4:=X j;obtain⟨_,_,_,_,_,_⟩:=C;obtain⟨_,_,_,_,_,_⟩:=j
        clear bm)
      |(have C:=mU v (tT f _)
        have j:=λo=>C.alloc o;have r0:=λo=>(j o).c0;have r1:=λo=>(j o).c1;have r2:=λo=>(j o).c2;have r3:=λo=>(j o).f0;have r4:=λo=>(j o).f1;have r5:=λo=>(j o).f2;have a3:f.heap.size<u.heap.size:=by
         have h9:=v.size;simp at h9;omega
        have ai:f.heap.size≠u.heap.size:=(by omega);have aj:u.heap.size≠f.heap.size:=(by omega);have Q:=X C;obtain⟨_,_,_,_,_,_⟩:=C
        clear j)
      |skip
     clear b0 b1 b2 l b4 b5 b6 b7 b8 ay v)))
  all_goals (go_wp2_with fail;go_meet)
  all_goals first
   |with_reducible exact⟨_,_,rfl,rfl,X (aY h.out _ _ _ _ _ _ _ _)⟩
   |with_reducible exact⟨_,_,rfl,rfl,X (gA.swap (aY h.out _ _ _ _ _ _ _ _))⟩
   |with_reducible exact⟨_,_,rfl,rfl,X (aZ h.out (jF _) Q.out _ _ _ _ _ _ _)⟩
   |with_reducible exact⟨_,_,rfl,rfl,X (gA.swap (aZ h.out (jF _) Q.out _ _ _ _ _ _ _))⟩
   |with_reducible exact⟨_,_,rfl,rfl,X (cC h.out (jF _) Z ai Q.out a4.out _ _ _ _ _ _)⟩
   |with_reducible exact⟨_,_,rfl,rfl,X (cC h.out Z (jF _) aj a4.out Q.out _ _ _ _ _ _)⟩
 case rest=>
  obtain⟨B7,B8,rfl,rfl,HX⟩:=hcut;clear b0 b1 b2 l b4 b5 b6 b7 b8 ay;obtain⟨V3,a5⟩:=Ze wc;rw[<-a5] at HX ⊢;clear a5;have ak:=X HX.out.below;have al:=X (q.out.trans (ak.out.mono q.out.size));have a6:=X (ax.out V3 ak.out);have G:=jP ak.out bj.out;obtain⟨p0,p1,p2,_,_,_⟩:=HX.out.one;clear ax
  cases af
  .go_wp2
   go_ret;exact⟨vO k.out.symm,al.out⟩
  go_wp2_with fail
  refine a6.out.mono ?_;rintro S w1 ⟨xa,xc,he,_,a7⟩;obtain rfl:S=.returned (.agg (Zj p xa xc)):=he;have Hf:=X (al.out.trans (a7.mono al.out.size));clear a7 a6;have bx:=Tryz.qe p.v p.f (Zk xa p.e xc);go_wp2;go_ret;exact⟨vO k.out.symm,Hf.out⟩
def KO:∀(p:Zn)(t q:T),qK t p=some q->p.length<=t.E:=by
 intro p;induction p with
 |nil=>intro t q _;exact jY _
 |cons i p c=>
  intro t q h;rw[qK] at h;by_cases b:0<=i/\i<t.e.length
  .rw[jB b] at h
   cases a:t.e[i.toNat]? with
   |none=>rw[a] at h;cases h
   |some d=>
    rw[a] at h;have e:=c d q h;have f:=xJ (jU a);rw[xI];omega
  rw[jC b] at h;cases h
def SR(h:Nat){b:Zm}(x:Nat){i:jX}(g:Nat)(k:kJ r b=0)(F:i.G.length<=9223372036854775807)(l:jV w r a)(m:jV w i.G a2)(n:zM w b a1):
 Calls Zf 124 #[.agg #[.slice a r.length h],.slice a1 b.length x,zV i a2 g] w λo p=>o=.returned (Y (sY r b i))/\Zb w p:=by
 obtain⟨j,e⟩:=Ze ((w.alloc (.cells #[Zk a r h] 24)).alloc (.cells #[Y i.L,Y i.left,Y i.right,Y i.la,Y i.ra,.bool i.lt,.bool i.rt,Zk a2 i.G g] 81));have f:Zb w j:=e▸kF _ _ _;have U:j.cell? (D w.heap.size 0)=some (Zk a r h):=by rw[e,kW (by simp)];exact jJ 0 rfl
 have y:I8 j (w.heap.size+1) i a2 g:=by rw[e];exact I8.new _ (by simp)
 have z:=X e;have q:=X f;have G:=X y;obtain⟨H,I,J,K,L,M,O,P⟩:=y;by_cases c:i.L≠1/\i.L≠2/\i.L≠3
 .have d:Hid (sY r b i=6):=by show _=_;rw[sY,jB c]
  have s:(i.L !=1)=true:=by simpa using c.1
  have A:(i.L !=2)=true:=by simpa using c.2.1
  have Q:(i.L !=3)=true:=by simpa using c.2.2
  clear c k l m n e f
  go_in
  go_upto_region 1 with fail
  rw[<-z.out];go_wp2;go_ret;exact⟨dQ d.symm,q⟩
 have t:i.L=1\/i.L=2\/i.L=3:=by omega
 have d:Hid (sY r b i=if mT r b i=true then(if tJ i=true then 0 else 1) else 5):=by show _=_;rw[sY,jC c]
 have u:=X (jEb h x g k t F (kD f l) (kD f m) (dG f n));have HS:=X (λp=>jDd i a2 g p);obtain⟨R,B⟩:=Ze (mT r b i);obtain⟨S,C⟩:=Ze (tJ i);rw[<-B] at u d;rw[<-C] at HS d;have E:(i.L !=1)=false\/((i.L !=1)=true/\(i.L !=2)=false)\/((i.L !=1)=true/\(i.L !=2)=true/\(i.L !=3)=false):=by
  rcases t with v|v|v<;>rw[v]<;>decide
 clear B C c t k l m n e f
 go_in
 go_upto_region 1 with fail
 rw[<-z.out]
 go_cut [7] (λv wc=>v=.bool false/\wc=j)
 case first=>
  rcases E with s|⟨s,A⟩|⟨s,A,Q⟩
  all_goals
   go_wp2_with fail
   go_meet
   exact⟨rfl,rfl⟩
 case rest=>
  obtain⟨rfl,rfl⟩:=hcut;clear E
  go_wp2_with fail
  refine u.mono ?_;rintro o l ⟨rfl,c⟩;have e:=X (q.trans (c.mono q.size));obtain⟨m,n,t,v,B,C,E,V⟩:=G.below c;have f:=X (HS l);clear c u HS H I J K L M O P
  cases R
  .go_wp2
   go_ret;exact⟨dQ d.symm,e⟩
  go_wp2_with fail
  refine f.mono ?_;rintro o u ⟨rfl,c⟩;have k:=X (e.trans (c.mono e.size));clear c f
  cases S
  .go_wp2
   go_ret;exact⟨dQ d.symm,k⟩
  go_wp2;go_ret;exact⟨dQ d.symm,k⟩
structure Ec (ar:Zn) (c d:Zc) (i:jX):Prop where
 kk:i.L=1\/i.L=2\/i.L=3
 la:yG i.la c.length=true
 two:i.L=2->yG i.ra c.length=true
 three:i.L=3->yG i.ra d.length=true/\∃p,qK (qG (vR d i.ra) i.rt) i.G=some p
 cl:c.length<=400
 dl:d.length<=400
 co:qC ar c
 dd:qC ar d
 sig:qT ar=0
 pl:i.G.length<=100000
def Lb(h:qC r c):∀x,x∈c->kP r x.2.1=0/\kP r x.2.2=0:=λx a=>⟨mS.2 (h x a).1,mS.2 (h x a).2⟩
def Uy(t:Nat)(H:Nat)(R:Nat){i:jX}(u:Nat)(b:Ec r c d i)(v:jV w r a)(I:jV w i.G a3)(x:kR w c a1)(hd:kR w d a2):
 Calls Zf 127 #[.agg #[.slice a r.length t],.slice a1 c.length H,.slice a2 d.length R,zV i a3 u] w λj y=>sH (dO r c d i) w.heap.size j y/\Zb w y:=by
 obtain⟨J,p⟩:=Ze ((w.alloc (.cells #[Zk a r t] 24)).alloc (.cells #[Y i.L,Y i.left,Y i.right,Y i.la,Y i.ra,.bool i.lt,.bool i.rt,Zk a3 i.G u] 81));have f:Zb w J:=p▸kF _ _ _;have ad:J.cell? (D w.heap.size 0)=some (Zk a r t):=by rw[p,kW (by simp)];exact jJ 0 rfl
 have h8:I8 J (w.heap.size+1) i a3 u:=by rw[p];exact I8.new _ (by simp)
 have M:=X p;have z:=X f;obtain⟨e0,e1,e2,e3,e4,e5,e6,e7⟩:=h8;obtain⟨O,A,B,C⟩:=fR aJ b.la;have K:∀(Z:Zc×Int)(j:Ending)(y:N),sH Z J.heap.size j y->sH Z w.heap.size j y:=λZ j y ⟨q,s,h1,g,h⟩=>⟨q,s,h1,g,h.imp id λ⟨e,aa,g1,g2,g3,g4,S⟩=>⟨e,aa,g1,g2,g3,g4,λe k=>⟨kN f.size (S e k).1,(S e k).2⟩⟩⟩;have P:=X K;rcases b.kk with e|e|e
 .have U:(i.L==1)=true:=by simpa using e
  have k:Hid (dO r c d i=iI r c O (vR c i.la)):=by show _=_;rw[dO,jB e,B]
  have HS:=X (jBa t H a3 u b.sig (by have:=b.cl;omega) (Lb b.co) A C (kD f v) (kL f x));rw[<-k.out] at HS;clear e b v I x hd p f A B C K k
  go_in
  go_upto_region 1 with fail
  rw[<-M.out]
  go_wp2_with fail
  refine HS.mono ?_;rintro j V ⟨l,m⟩;have n:=X (P.out _ _ _ l);have E:=X (z.out.trans (m.mono z.out.size));obtain⟨q,s,rfl,g,h⟩:=n.out;have o:=X (jM g h);clear l m HS g h n;go_wp2
  go_ret2
  exact⟨⟨q,s,rfl,o.1,o.2⟩,E⟩
 .have U:(i.L==1)=false:=by rw[e];rfl
  have ab:(i.L==2)=true:=by simpa using e
  obtain⟨W,F,L,G⟩:=fR aJ (b.two e);have k:Hid (dO r c d i=iH r c O (qG (vR c i.la) i.lt) (xG (vR c i.la) i.lt) (qG (vR c i.ra) i.rt) (xG (vR c i.ra) i.rt)):=by show _=_;rw[dO,jC (by omega),jB e,B]
  have HS:=X (QA t H a3 u b.sig (by have:=b.cl;omega) (Lb b.co) A F C G (kD f v) (kL f x));rw[<-k.out] at HS;clear e b v I x hd p f A B C K k F L G
  go_in
  go_upto_region 1 with fail
  rw[<-M.out]
  go_wp2_with fail
  refine HS.mono ?_;rintro j V ⟨l,m⟩;have n:=X (P.out _ _ _ l);have E:=X (z.out.trans (m.mono z.out.size));obtain⟨q,s,rfl,g,h⟩:=n.out;have o:=X (jM g h);clear l m HS g h n;go_wp2
  go_ret2
  exact⟨⟨q,s,rfl,o.1,o.2⟩,E⟩
 have U:(i.L==1)=false:=by rw[e];rfl
 have ab:(i.L==2)=false:=by rw[e];rfl
 obtain⟨Z,ac,Q⟩:=b.three e;obtain⟨W,F,L,G⟩:=fR aJ Z;have k:Hid (dO r c d i=sZ r c d O W i.rt i.G ac (qG (vR c i.la) i.lt) (xG (vR c i.la) i.lt) (qG (vR d i.ra) i.rt) (xG (vR d i.ra) i.rt)):=by show _=_;rw[dO,jC (by omega),jC (by omega),B,L,Dg,Q];rfl
 have HS:=X (TH t H R u b.sig b.cl b.dl (Lb b.co) (Lb b.dd) A F C G Q b.pl (kD f v) (kD f I) (kL f x) (kL f hd));rw[<-k.out] at HS;clear e b v I x hd p f A B C K k F L G Q Z
 go_in
 go_upto_region 1 with fail
 rw[<-M.out]
 go_wp2_with fail
 refine HS.mono ?_;rintro j V ⟨l,m⟩;have n:=X (P.out _ _ _ l);have E:=X (z.out.trans (m.mono z.out.size));obtain⟨q,s,rfl,g,h⟩:=n.out;have o:=X (jM g h);clear l m HS g h n;go_wp2
 go_ret2
 exact⟨⟨q,s,rfl,o.1,o.2⟩,E⟩
def BN:∀(p:Zn)(a:T),qK a p=some t->jQ r a->qK (yO z a) p=some (yO z t):=by
 intro p;induction p with
 |nil=>intro a h _;obtain rfl:=kT h;rfl
 |cons i p f=>
  intro a h e;rw[qK] at h;by_cases d:0<=i/\i<a.e.length
  .rw[jB d] at h
   cases b:a.e[i.toNat]? with
   |none=>rw[b] at h;cases h
   |some g=>
    rw[b] at h;have c:a.v=0:=by
     by_cases c:a.v=0
     .exact c
     have:=(lZ e c).2;rw[this] at b;simp at b
    have j:=jU b;rw[yO,mA c,qK];simp only[dY];rw[jB d,bZ,b];exact f g h (xF e j)
  rw[jC d] at h;cases h
def CR{y:Lit}(h:T->T)(a:Bool):qG (y.1,h y.2.1,h y.2.2) a=h (qG y a)/\xG (y.1,h y.2.1,h y.2.2) a=h (xG y a):=by
 cases a<;>exact⟨rfl,rfl⟩
def Nr(h:(fB r b c).2=0):(fB r b c).1.length<=8:=by
 rw[fB] at h ⊢;by_cases d:pT r b c=0
 .rw[jB d] at h ⊢
  rw[fZ] at h ⊢;by_cases a:kJ r [qQ [] (c.map (fN r b))]=0
  .rw[jB a]
   have f:=(mL a).2.1;have e:=Fy (c:=qQ [] (c.map (fN r b))) (a:=[]);show(kY (qQ [] (qQ [] (c.map (fN r b)))) []).1.length<=8;rw[Cp];simp only[mZ] at e;omega
  rw[jC a] at h;exact jN h a
 rw[jC d] at h;exact jN h d
def Uz{j:jX}(h:(dO r c d j).2=0):(dO r c d j).1.length<=8:=by
 rw[dO] at h ⊢;split at h
 .rename_i a
  rw[jB a];rw[iI] at h ⊢;split at h
  .rename_i b;rw[jB b];exact Nr h
  rename_i b;exact jN h b
 rename_i a;rw[jC a];split at h
 .rename_i b
  rw[jB b];rw[iH] at h ⊢;split at h
  .rename_i e
   rw[jB e];split at h
   .rename_i f;rw[jB f];exact Nr h
   rename_i f;exact jN h f
  rename_i e;exact jN h e
 rename_i b;rw[jC b];rw[sZ] at h ⊢;split at h
 .rename_i e
  rw[jB e];split at h
  .rename_i f
   rw[jB f];split at h
   .rename_i g
    rw[jB g];split at h
    .rename_i i;rw[jB i];exact Nr h
    rename_i i;exact jN h i
   rename_i g;exact jN h g
  rename_i f;exact jN h f
 rename_i e;exact jN h e
def Xd{b:Zm}{i:jX}(h:(qX r b i).2=0):(qX r b i).1.length<=8/\kJ r b=0:=by
 rw[qX] at h ⊢;split at h
 .rename_i a
  rw[jB a];refine⟨?_,a⟩;split at h
  .rename_i c
   rw[jB c];split at h
   .rename_i f
    rw[jB f];split at h
    .rename_i d
     rw[jB d];split at h
     .rename_i e;rw[jB e];exact Uz h
     rename_i e;exact jN h e
    rename_i d;rw[jC d];exact Uz h
   cases h
  rename_i c;exact jN h c
 rename_i a;exact jN h a
def QZ{b:Zm}{i:jX}(v:kJ r b=0)(h:sY r b i=0):Ec r (kX b i.left) (kX b i.right) i/\yG i.left b.length=true/\yG i.right b.length=true:=by
 obtain⟨n,G,j⟩:=cV v;rw[sY] at h;split at h
 .cases h
 rename_i H;split at h
 .rename_i k
  split at h
  .rename_i a
   have f:i.L=1\/i.L=2\/i.L=3:=(by omega);rw[mT] at k;simp only[yY] at k;obtain⟨⟨l,o⟩,d⟩:=k;obtain⟨I,J,K,p⟩:=fR [] l;have g:=j _ (jU p);have L:=(Zl p);have w:i.L≠3->i.right=0:=λc=>by
    rw[tJ] at a;rcases f with e|e|e
    .rw[jB e] at a;simp only[yY,beq_iff_eq] at a;exact a.1.1.1.1
    .rw[jC (by omega),jB e] at a;simp only[yY,beq_iff_eq] at a;exact a.1
    exact jN e c
   have x:i.L≠3->i.G.length=0:=λc=>by
    rw[tJ] at a;rcases f with e|e|e
    .rw[jB e] at a;simp only[yY,beq_iff_eq] at a;have:=a.2;omega
    .rw[jC (by omega),jB e] at a;simp only[yY,beq_iff_eq] at a;have:=a.2;omega
    exact jN e c
   by_cases c:i.L=3
   .rw[jC (by omega),jC (by omega)] at d
    simp only[yY,beq_iff_eq] at d;obtain⟨⟨e,q⟩,y⟩:=d;obtain⟨z,A,B,m⟩:=fR [] e;obtain⟨M,O,P,C⟩:=fR aJ q;have hd:=j _ (jU m);obtain⟨E,s⟩:=KN y;have t:=hd.2 _ (jU C);have Q:(qG (vR (kX b i.right) i.ra) i.rt).E<=120:=by
     rw[qG];split
     .exact t.2.1
     exact t.1.1
    have R:=KO _ _ _ s;exact⟨⟨f,o,λu=>by omega,λ_=>⟨q,E,s⟩,kN g.1 (by decide),kN hd.1 (by decide),g.2,hd.2,n,by omega⟩,l,e⟩
   have F:=w c;have e:yG i.right b.length=true:=(by rw[yG,F];exact iE ⟨mE 0,by omega⟩);obtain⟨z,A,B,m⟩:=fR [] e;have hd:=j _ (jU m);have S:=x c;exact⟨⟨f,o,λu=>by rw[jC (by omega),jB u] at d;exact d,λu=>jN u c,kN g.1 (by decide),kN hd.1 (by decide),g.2,hd.2,n,by omega⟩,l,e⟩
  cases h
 cases h
def Ec.apart{i:jX}(h:Ec r c d i)(l:i.L=3)(a:(zB c d).2=0):Ec r c (zB c d).1 i:=by
 obtain⟨m,b⟩:=JZ h.co h.dd a;obtain⟨e,q,f⟩:=h.three l;refine⟨h.kk,h.la,h.two,λ_=>?_,h.cl,by rw[b];exact h.dl,h.co,m,h.sig,h.pl⟩;obtain⟨t,u,n,g⟩:=fR aJ e;have j:=h.dd _ (jU g);have o:jQ r (qG (vR d i.ra) i.rt):=by
  rw[qG];split
  .exact j.2.2
  exact j.1.2
 refine⟨by rw[b];exact e,?_⟩;rw[zB] at a ⊢;split at a
 .cases a
 rename_i p;rw[jC p];simp only;by_cases k:xK c 0=0
 .rw[jB k];exact⟨q,f⟩
 rw[jC k];refine⟨yO (xK c 0) q,?_⟩;have s:vR (pD (xK c 0) d) i.ra=((vR d i.ra).1,yO (xK c 0) (vR d i.ra).2.1,yO (xK c 0) (vR d i.ra).2.2):=by
  show List.getD _ _ _=_;rw[dI,n,pD,bZ,g];rfl
 rw[s,(CR (yO _) i.rt).1];exact BN _ _ f o
def Rw(s:Nat){b:Zm}(lc:Nat){i:jX}(t:Nat)(hl:b.length<=9223372036854775807)(ao:∀c,c∈b->c.length<=9223372036854775807)(ap:i.G.length<=9223372036854775807)(m:jV w r a)(x:jV w i.G a2)(o:zM w b a1):
 Calls Zf 93 #[.agg #[.slice a r.length s],.slice a1 b.length lc,zV i a2 t] w λg d=>sH (qX r b i) w.heap.size g d/\Zb w d:=by
 obtain⟨n,h⟩:=Ze ((w.alloc (.cells #[Zk a r s] 24)).alloc (.cells #[Y i.L,Y i.left,Y i.right,Y i.la,Y i.ra,.bool i.lt,.bool i.rt,Zk a2 i.G t] 81));have e:Zb w n:=by rw[h];exact kF _ _ _
 have B:n.cell? (D w.heap.size 0)=some (Zk a r s):=by rw[h,kW (by simp)];exact jJ 0 rfl
 have C:I8 n (w.heap.size+1) i a2 t:=by rw[h];exact I8.new _ (by simp)
 have aq:=X h;have ax:=X e;have p:=X (λ(d:N)(f:Zb n d)=>jM (jP f B) (C.below f));have j:=X (λ(d:N)(f:Zb n d)=>e.trans (f.mono e.size));have y:=X (wR r a s b a1 lc n (kD e m) hl ao (dG e o));have q:=X (λ(k:kJ r b=0)(d:N)(f:Zb n d)=>SR s lc t k ap (kD (j _ f) m) (kD (j _ f) x) (dG (j _ f) o));obtain⟨Z,l⟩:=Ze (qX r b i);rw[qX] at l;obtain⟨O,u⟩:=Ze (kJ r b);obtain⟨P,v⟩:=Ze (sY r b i);have E:=X (show qX r b i=Z by rw[l,qX]);rw[E.out];have L:=X (λ(U:O=0)(k:P=0)=>QZ (u▸U) (v▸k));rw[<-u,<-v] at l;rw[<-u] at y q;rw[<-v] at q;have z:=X l;have Hg:=X m;have Hp:=X x;have M:=X o;obtain⟨A, -⟩:=p n (jW _ _);clear l E u v m x o h e B C
 go_in
 go_upto_region 1 with fail
 rw[<-aq.out]
 go_wp2_with fail
 refine y.mono ?_;rintro g w1 ⟨rfl,e⟩;have B:=X e;clear e y A;by_cases u:O=0
 .have ec:(O !=0)=false:=by simpa using u
  have e:=X (q u w1 B);have W:=X u;obtain⟨A,⟨C,E,F,G,H,I,J,K⟩⟩:=p w1 B;clear q u
  go_wp2_with fail
  refine e.mono ?_;rintro g l ⟨rfl,h⟩;have v:=X (B.trans (h.mono B.size));clear h e A C E F G H I J K B;by_cases x:P=0
  .have ei:(P !=0)=false:=by simpa using x
   obtain⟨e,ab,ac⟩:=L W x;have ae:=X x;clear x L;obtain⟨nl,af,el,R⟩:=fR [] ab;obtain⟨nr,ag,er,S⟩:=fR [] ac;have ay:=(Zl R);have az:=(Zl S);obtain⟨ah,ai,rfl⟩:=uL M (by omega);obtain⟨ca,Q,h,o⟩:=iX (dG (j _ v) M) R;obtain⟨da,dc,L,V⟩:=iX (dG (j _ v) M) S;have y:Hid (Z=if sW (kX b i.left) (kX b i.right) i=true then(if i.L=3 then(if (zB (kX b i.left) (kX b i.right)).2=0 then dO r (kX b i.left) (zB (kX b i.left) (kX b i.right)).1 i else([],(zB (kX b i.left) (kX b i.right)).2)) else dO r (kX b i.left) (kX b i.right) i) else([],4)):=(by show _=_;rw[z.out,jB W.out,jB ae.out]);have aj:Zq l ah (ai+nl) (.slice ca (kX b i.left).length Q):=h;have ak:Zq l ah (ai+nr) (.slice da (kX b i.right).length dc):=L;have m:kR l (kX b i.left) ca:=o;have q:kR l (kX b i.right) da:=V;clear h L o V;obtain⟨c,al⟩:=Ze (kX b i.left);obtain⟨h,am⟩:=Ze (kX b i.right);rw[<-al] at aj m e y;rw[<-am] at ak q e y;have a0:(nl:Int)<b.length:=(by omega);have a3:(0:Int)<=nl:=(by omega);have a4:(nr:Int)<b.length:=(by omega);have a5:(0:Int)<=nr:=(by omega);have ad:=X m;have an:=X q;have o:=X e;have L:=X (j _ v);have V:=X (λ(d:N)(f:Zb l d)=>QJ Q dc t e.kk (by have:=e.cl;omega) (by have:=e.dl;omega) e.la e.two e.three e.pl (kD (L.trans (f.mono L.size)) Hp) (kL f m) (kL f q));obtain⟨ar,hF⟩:=Ze (sW c h i);rw[<-hF] at V y;have aa:=X (λ(d:N)(f:Zb l d)=>p d (v.trans (f.mono v.size)));obtain⟨-,⟨-,f1,f2, -, -, -, -, -⟩⟩:=aa l (jW _ _);rw[af] at f1;rw[ag] at f2;clear hF al am e ab ac af el R ag er S m q p v j z W ae M
   go_upto_region 7 with fail
   go_quiet (fail)
   obtain⟨w3,m⟩:=Ze (l.drewN nq);have e:=X (show Zb l w3 by rw[m];exact rX _ _);rw[<-m];clear m f1 f2 aj ak;have m:=X (V w3 e);obtain⟨-,⟨C,E,F,G,H,I,J,K⟩⟩:=aa w3 e;clear V
   go_wp2_with fail
   refine m.mono ?_;rintro g w4 ⟨rfl,M⟩;have p:=X (e.trans (M.mono e.size));have q:=X (L.trans (p.mono L.size));clear M m C E F G H I J K e;have m:∀(Z:Zc×Int)(e:Nat)(g:Ending)(d:N),w.heap.size<=e->sH Z e g d->sH Z w.heap.size g d:=λZ e g d V ⟨R,S,U,k,e⟩=>⟨R,S,U,k,e.imp id λ⟨M,am,g1,g2,g3,g4,g5⟩=>⟨M,am,g1,g2,g3,g4,λM U=>⟨kN V (g5 M U).1,(g5 M U).2⟩⟩⟩;have HE:=X m;clear m
   cases ar
   .have m:Z=([],4):=by rw[y.out,jC (by simp)]
    subst m;clear y;go_wp2
    go_ret2
    exact⟨⟨none,0,rfl,trivial,jD rfl⟩,q⟩
   have ab:Hid (Z=if i.L=3 then(if (zB c h).2=0 then dO r c (zB c h).1 i else([],(zB c h).2)) else dO r c h i):=(by show _=_;rw[y.out,jB rfl]);clear y;obtain⟨A,⟨C,E,F,G,H,I,J,K⟩⟩:=aa w4 p;by_cases e:i.L=3
   .have ek:(i.L==3)=true:=by simpa using e
    have HA:=X (JY Q dc (by have:=o.cl;omega) (by have:=o.dl;omega) o.co o.dd (kL p ad) (kL p an));have ac:=X (λ(y:(zB c h).2=0)=>o.apart e y);have U:Hid (Z=if (zB c h).2=0 then dO r c (zB c h).1 i else([],(zB c h).2)):=(by show _=_;rw[ab.out,jB e]);obtain⟨V,y⟩:=Ze (zB c h);rw[<-y] at HA ac U;clear y ab e o
    go_wp2_with fail
    refine HA.mono ?_;rintro g w5 ⟨⟨a6,au,rfl,ae⟩,y⟩;have af:=X (p.trans (y.mono p.size));have M:=X (q.trans (y.mono q.size));have av:=X ae;clear ae y HA A C E F G H I J K;by_cases y:V.2=0
    .have ea:(V.2 !=0)=false:=by simpa using y
     have m:Z=dO r c V.1 i:=(by rw[U.out,jB y]);have ae:=X (Uy s Q au t (ac.out y) (kD M.out Hg.out) (kD M.out Hp.out) (kL af.out ad.out) av.out);rw[<-m] at ae;obtain⟨A,⟨C,E,F,G,H,I,J,K⟩⟩:=aa w5 af;clear m U y ac
     go_wp2_with fail
     refine ae.mono ?_;rintro g w6 ⟨ag,aj⟩;have ak:=X (HE.out _ _ _ _ M.out.size ag);have aw:=X (M.out.trans (aj.mono M.out.size));obtain⟨R,S,rfl,k,e⟩:=ak.out;have al:=X (jM k e);clear ag aj ae k e ak;go_wp2
     go_ret2
     exact⟨⟨R,S,rfl,al.1,al.2⟩,aw⟩
    have ea:(V.2 !=0)=true:=(by simpa using y);have m:Z=([],V.2):=(by rw[U.out,jC y]);subst m;clear U y ac;go_wp2
    go_ret2
    exact⟨⟨none,0,rfl,trivial,jD rfl⟩,M⟩
   have ek:(i.L==3)=false:=(by simpa using e);have m:Z=dO r c h i:=(by rw[ab.out,jC e]);have y:=X (Uy s Q dc t o.out (kD q.out Hg.out) (kD q.out Hp.out) (kL p.out ad.out) (kL p.out an.out));rw[<-m] at y;clear m ab e o
   go_wp2_with fail
   refine y.mono ?_;rintro g w6 ⟨m,o⟩;have U:=X (HE.out _ _ _ _ q.out.size m);have ac:=X (q.out.trans (o.mono q.out.size));obtain⟨R,S,rfl,k,e⟩:=U.out;have ab:=X (jM k e);clear m o y k e U;go_wp2
   go_ret2
   exact⟨⟨R,S,rfl,ab.1,ab.2⟩,ac⟩
  have ei:(P !=0)=true:=by simpa using x
  have e:Z=([],P):=by rw[z.out,jB W.out,jC x]
  subst e;have L:=X (j _ v);clear z x;go_wp2
  go_ret2
  exact⟨⟨none,0,rfl,trivial,jD rfl⟩,L⟩
 have ec:(O !=0)=true:=by simpa using u
 have e:Z=([],O):=by rw[z.out,jC u]
 subst e;have h:=X (j _ B);clear z u;go_wp2
 go_ret2
 exact⟨⟨none,0,rfl,trivial,jD rfl⟩,h⟩
structure vA where
 i:jX
 pa:Zo
 pc:Nat
def Cm(x:vA):Zy:=#[zV x.i x.pa x.pc]
def fW(x:vA)(k:Nat):Prop:=∃o,x.pa=some (D k o)
def iM(a:List jX)(pre:List vA)(x:vA)(A:N):Prop:=(∃b,a=pre.map vA.i++x.i::b)/\jV A x.i.G x.pa
structure IS (K:Zp) (w0 W:N) (O:Zp) (A:N):Prop where
 kk:∀k,K k->A.heap[k]? =w0.heap[k]?
 size:W.heap.size<=A.heap.size
 low:∀k,O k->W.heap.size<=k/\k<A.heap.size
def IS.fresh(h:IS p w u p1 v)(c:∀k,p k->k<u.heap.size)(b:Zb v w1):IS p w u (vE p1 v w1) w1:=by
 have d:=h.size;have e:=b.size;refine⟨λk a=>by rw[b.block k (by have:=c k a;omega)];exact h.kk k a,by omega,?_⟩;rintro k (a|a)
 .have:=h.low k a;omega
 omega
def IS.round(h:IS p w u p1 v)(c:∀k,p k->k<u.heap.size)(b:KR p p1 v w1)(d:∀k,p2 k->p1 k):IS p w u p2 w1:=by
 have e:=h.size;have f:=b.below.size;refine⟨λk a=>by rw[b.block k (by have:=c k a;omega) (jD a)];exact h.kk k a,by omega,λk a=>?_⟩;have:=h.low k (d k a);omega
def IS.qz(h:IS p w u p1 v)(b:jT p w l a):InL v l a:=kQ (λ_ _=>trivial) (xN (λk c _=>h.kk k c) b)
def IS.cell(h:IS p w u p1 v){b:Zv}(c:p k)(d:w.cell? (D k n)=some b):v.cell? (D k n)=some b:=(kH (w:=w) (a:=(D k n)) (h.kk k c)).trans d
def IS.lits(h:IS p w u p1 v)(d:qA p w c a):qA p v c a:=xP (λk b _=>⟨b,h.kk k b⟩) d
def KR.cell(h:KR p p1 w u){v:Zv}(c:p1 k)(b:w.cell? (D k n)=some v):u.cell? (D k n)=some v:=(kH (w:=w) (a:=(D k n)) (h.block k (kA b) (jE c))).trans b
def KR.w6(h:KR p p1 w u){e:qJ}(b:p1 k)(a:W6 w k n e):W6 u k n e:=a.block (h.block k (kA a.e0) (jE b))
def dJ(O:Zp)(A:N)(a:Zo)(b:List qJ):Prop:=∀j e,b[j]? =some e->∃g,a=some (D g 0)/\O g/\W6 A g (j*6) e
def dJ.fresh{b:List qJ}(h:dJ p w a b)(c:Zb w u):dJ (vE p w u) u a b:=λj e d=>by
 obtain⟨g,f,i,k⟩:=h j e d;exact⟨g,f,jD i,k.below c⟩
def dJ.round{b:List qJ}(h:dJ p1 w a b)(d:KR p p1 w u):dJ p1 u a b:=λj e f=>by
 obtain⟨g,i,c,k⟩:=h j e f;exact⟨g,i,c,d.w6 c k⟩
def dJ.jr{v:Zv}{b:List qJ}(h:u.ownsRow w.heap.size 188 6 v b.length (b.flatMap lC))(e:v=.slice a b.length k):dJ (vE p w u) u a b:=λj f d=>by
 have n:=(Zl d);obtain⟨g,o,c,i,l,m⟩:=Qb h (by omega);rw[e] at c;simp only[lH] at c;exact⟨g,c.1,jE ⟨i,l⟩,m j f d⟩
def Kt{e:qJ}(h:p k/\W6 w k n e)(a:Zb w u):vE p w u k/\W6 u k n e:=⟨jD h.1,h.2.below a⟩
def KR.kz{x:vA}(b:x.pa=none):(λk=>p k/\¬fW x k)=p:=by
 funext k;refine propext ⟨λh=>h.1,λh=>⟨h,?_⟩⟩;rintro⟨o,a⟩;rw[b] at a
 cases a
def oW{A:Prop}(h:A):(∀f:FuncId,none=some f->Fence.wide.fn f)/\A:=⟨λ_ e=>by(cases e),h⟩
def Gh{n:FuncId}{A:Prop}(h:A):Fence.wide.fn n/\A:=⟨trivial,h⟩
def fV(s:gO)(a:List gO):List jX:=a.filterMap (λu=>if s.yes && (u.yes && (s.n !=u.n && fM s.first u.first)) then some ⟨2,0,0,(s.n:Int),(u.n:Int),s.tu,u.tu,[]⟩ else none)
theorem jFn(c:Zc)(s:gO):fF c s=(if !s.yes && !s.tu then [⟨1,0,0,(s.n:Int),0,false,false,[]⟩] else [])++fV s (yK c 0):=rfl
def Gb{s u:gO}{a:List gO}(b:a[k]? =some u):fV s (a.take (k+1))=fV s (a.take k)++(if s.yes && (u.yes && (s.n !=u.n && fM s.first u.first)) then [⟨2,0,0,(s.n:Int),(u.n:Int),s.tu,u.tu,[]⟩] else []):=by
 rw[fV,vZ,b,Im];congr 1;simp only[Option.toList_some,List.filterMap_cons,List.filterMap_nil];split<;>simp_all
def XZ{s u:gO}{a:List gO}(b:a[k]? =some u):fV s a=fV s (a.take k)++((if s.yes && (u.yes && (s.n !=u.n && fM s.first u.first)) then [⟨2,0,0,(s.n:Int),(u.n:Int),s.tu,u.tu,[]⟩] else [])++fV s (a.drop (k+1))):=by
 rw[<-dH,<-Gb b,fV,fV,fV,<-Im,cL]
def AJ{a:List qJ}(h:a.map qJ.w=dE c){x:qJ}(b:a[k]? =some x):aW c=(a.take k).flatMap (λe=>fF c e.w)++(fF c x.w++(a.drop (k+1)).flatMap (λe=>fF c e.w)):=by
 have f:=(Zl b);have d:a=a.take k++(x::a.drop (k+1)):=by
  rw[<-(jZ.1 b).2,<-pN f,cL]
 have g:aW c=a.flatMap (λe=>fF c e.w):=by rw[aW,<-h,Io]
 rw[g,d];simp only[Mq,Mr];rw[<-d]
def Fo{a c:Type}{f:a->List c}{b:List a}{x:a}(d:b[k]? =some x):(b.take (k+1)).flatMap f=(b.take k).flatMap f++f x:=by
 rw[vZ,d,Mq];simp
def YA{s:gO}(h:s.yes=false)(a:List gO):fV s a=[]:=by
 rw[fV,List.filterMap_eq_nil_iff];intro u _;simp[h]
def tC(s:gO):List jX:=if !s.yes && !s.tu then [⟨1,0,0,(s.n:Int),0,false,false,[]⟩] else []
theorem Lc(c:Zc)(s:gO):fF c s=tC s++fV s (yK c 0):=rfl
attribute [local go_sem] Oper.semAt_some
def YC(cr:∀b,p b->b<w.heap.size)(cc:c.length<=1000)(cs:c.length<=k)(bs:∀x,x∈c->xO x)(hc:qA p w c a)(cd:p n)(h1:w.cell? (D n 0)=some (.slice a c.length k)):
 uQ Zf 136 #[Zr n] Cm fW (iM (aW c)) (λxs=>xs.map vA.i=aW c) p w:=by
 intro bt ai T' W ct cu hJ hT hY cv;have H:∀b,p b->b<W.heap.size:=λb V=>kV (cr b V) ct;have bu:Hid (IS p w W (λ_=>False) W):=X ⟨cu,jF _,λb V=>V.elim⟩;have k1:=bu.cell cd h1;have HO:=X (Pz cc cs bs H (bu.lits hc));have ce:=X (λ(bv:N)(O:Zp)(hI:IS p w W O bv)=>DU k cc (hI.lits hc))
 have cw:Hid (∀bd,bd∈yK c 0->bd.first.E<=1000):=X (λbd hs=>by
  obtain⟨cf,h1,h2⟩:=Lt c 0 bd hs;rcases h2 with h2|h2
  .rw[h2];exact(bs cf h1).1
  rw[h2];exact(bs cf h1).2)
 have cx:=X cv;have cg:=X (jM cd h1);show CallsIn Fence.wide 0 Zf 136 #[.func (.yield bt) #[] #[],Zr n] W _;refine callsIn_of_wp Tryz.func136 rfl trivial ?_ rfl;simp only[Tryz.ntmps136,Es,xI,mZ,Nat.reduceAdd,Nat.reduceSub,Gs,Gt,It,Il,nQ,dW];gi_wp2_with (refine⟨trivial,rfl,?_⟩;gi_at_call 137;refine(callsIn_wide.2 HO).mono ?_;rintro e w1 ⟨ec,g,rfl,ch,⟨bw,ci⟩,S⟩;obtain⟨va,vc,hv⟩:=zF bw;have cy:=X bw;subst hv;have cj:=X (bu.fresh H S);have cz:=X (hJ _ _ _ _ _ cx (jR.A S) (fY (λb V=>V.elim)));have c6:=X (dJ.jr (p:=λ_=>False) cy rfl);have au:=X ch;have c7:=X (λe he=>(xN (w:=w1) (u:=w) (λb V _=>(cj.kk b V).symm) (ci e he)));clear bw S ch ci);have ed:g.length<=2000:=by
  have s:=xE List.length au;have h8:(dE c).length<=(yK c 0).length:=Bj _ _;rw[dY] at s;rw[Dw] at h8;omega
 gi_loopw [11] (λiv wr=>∃(b:Nat)(O:Zp)(pre:List vA),b<=g.length/\iv=Y b/\Hid (pre.map vA.i=(g.take b).flatMap (λe=>fF c e.w))/\Hid (ai O pre wr)/\Hid (IS p w W O wr)/\Hid (dJ O wr va g)) (λiv _=>g.length - (intOf iv).toNat)
 case atStart=>exact⟨0,_,[],jY _,rfl,X rfl,cz,cj,c6⟩
 case round=>
  obtain⟨b,O,pre,V,rfl,Hp,HJ,HI,HR⟩:=hrel;obtain⟨l,rfl⟩:=Ze wr;by_cases c8:b<g.length
  .obtain⟨x,hx⟩:=Zg c8
   obtain⟨be,rfl,ee,k0,ck,k2,k3,k4,k5⟩:=HR b x hx;have ef:(b:Int)<g.length:=(by omega);have eg:(0:Int)<=b:=(by omega);have Hx:=X hx;obtain⟨h,ao⟩:∃h,h=l.alloc (.cells #[Y (x.w.n:Int),.bool x.w.tu,.bool x.w.yes,Y x.w.first.v,Y x.w.first.f,.slice x.fa x.w.first.e.length x.fc] 188):=⟨_,rfl⟩;have S:Zb l h:=ao▸jG _ _;have cl:W6 h l.heap.size 0 x:=ao▸W6.new rfl;have c9:h.heap.size=l.heap.size+1:=(by rw[ao];simp);have av:=X (hJ _ _ _ _ _ HJ (jR.A S) (fY (λF I=>kV (HI.low F I).2 S.size)));have J:=X (HI.fresh H S);have aw:=X (HR.fresh S);have ap:Hid (vE O l h l.heap.size):=X (jE ⟨jF _,by omega⟩);have ax:=X cl;have Z:=X ao;obtain⟨p0,p1,p2,p3,p4,p5⟩:=cl;rw[ao] at p0 p1 p2 p3 p4 p5;have bx:=X (λ(bv:N)(O:Zp)(hI:IS p w W O bv)=>hI.cell cg.1 cg.2);clear hx ao S c9
   have bz:Hid (x.w.yes=false->x.w.tu=false->YieldAt Fence.wide 0 Zf bt #[.agg #[Y 1,Y 0,Y 0,Y (x.w.n:Int),Y 0,.bool false,.bool false,Zd]] h λe B=>∃t,e=.returned (.bool t)/\KR p (vE O l h) h B/\(t=true->ai (vE O l h) (pre++[⟨⟨1,0,0,(x.w.n:Int),0,false,false,[]⟩,none,0⟩]) B)/\(t=false->∃O' b0,T' O' b0 B)):=X (by
    intro da db;have j:=Lw (hY (vE O l h) pre ⟨⟨1,0,0,(x.w.n:Int),0,false,false,[]⟩,none,0⟩ h av ⟨?_,jD rfl⟩ (by rintro F ⟨aj,ho⟩;cases ho))
    .rw[KR.kz rfl] at j
     refine YieldAt.mono j ?_;rintro e B ⟨t,rfl,q1,q2,q3⟩;exact⟨t,rfl,q1,q2,λK=>⟨_,_,q3 K⟩⟩
    refine⟨fV x.w (yK c 0)++(g.drop (b+1)).flatMap (λe=>fF c e.w),?_⟩;rw[AJ au.out Hx.out,Hp.out,Lc,tC,da,db]
    simp)
   have bf:Hid (x.w.yes=true\/x.w.tu=true->tC x.w=[]):=X (λj=>by
    rw[tC]
    rcases j with j|j<;>simp[j])
   have b1:Hid (x.w.yes=false->x.w.tu=false->tC x.w=[⟨1,0,0,(x.w.n:Int),0,false,false,[]⟩]):=X (λh1 h2=>by rw[tC,h1,h2];rfl);have dc:=X (c7 x (jU Hx))
   have dd:Hid (x.w∈yK c 0):=X (by
    have s:x.w∈dE c:=by rw[<-au.out];exact bP.2 ⟨x,jU Hx,rfl⟩
    exact(uW.1 s).1)
   obtain⟨⟨d,f,de,first⟩,fa,fc⟩:=x;dsimp only at*
   cases de with
   |true=>
    have cm:Hid (pre.map vA.i=(g.take b).flatMap (λe=>fF c e.w)++tC ⟨d,f,true,first⟩):=X (by rw[Hp.out,bf.out (jD rfl),zU]);have aq:=bx h _ J;rw[Z.out] at aq;have cn:=X (ce h _ J);clear bf b1 bz;gi_wp2_with (first|(with_reducible refine oW ?_)|(refine⟨trivial,rfl,?_⟩;gi_at_call 138;rw[<-Z.out];refine(callsIn_wide.2 cn).mono ?_;rintro e w2 ⟨v2,y,rfl,ay,⟨aa,bg⟩,L⟩;obtain⟨b3,df,b4⟩:=zF aa;have bh:=X aa;subst b4;have ab:=X L;have az:=X ay;have dg:=X (λe he=>(xN (w:=w2) (u:=w) (λF I _=>((J.fresh H L).kk F I).symm) (bg e he)));clear aa L ay bg));have dh:y.length<=2000:=by
     have s:=xE List.length az;rw[dY,Dw] at s;omega
    have a0:=X (J.fresh H ab);have a1:=X (hJ _ _ _ _ _ av (jR.A ab) (fY (λF I=>kV (J.low F I).2 ab.size)));have a2:=X (aw.fresh ab);have a3:=X (dJ.jr (p:=vE O l h) bh rfl);have a4:Hid (vE (vE O l h) h w2 l.heap.size/\W6 w2 l.heap.size 0 ⟨⟨d,f,true,first⟩,fa,fc⟩):=X ⟨jD ap,ax.below ab⟩;clear p0 p1 p2 p3 p4 p5 k0 ck k2 k3 k4 k5 aq cn ab bh av J aw ax ap Z;gi_loopw [34] (λjv wr=>∃(m:Nat)(q:Zp)(A:List vA),m<=y.length/\jv=Y m/\Hid (A.map vA.i=(g.take b).flatMap (λe=>fF c e.w)++(tC ⟨d,f,true,first⟩++fV ⟨d,f,true,first⟩ ((yK c 0).take m)))/\Hid (ai q A wr)/\Hid (IS p w W q wr)/\Hid (dJ q wr (some (D be 0)) g)/\Hid (dJ q wr b3 y)/\Hid (q l.heap.size/\W6 wr l.heap.size 0 ⟨⟨d,f,true,first⟩,fa,fc⟩)) (λjv _=>y.length - (intOf jv).toNat)
    case atStart=>exact⟨0,_,pre,jY _,rfl,X (by rw[cm.out];simp[fV]),a1,a0,a2,a3,a4⟩
    case round=>
     obtain⟨m,q,A,hm,rfl,ak,a5,al,ac,ad,u⟩:=hrel;clear a1 a0 a2 a3 a4 cm;by_cases b5:m<y.length
     .obtain⟨am,hu⟩:=Zg b5
      obtain⟨g2,rfl,di,u0,u1,u2,u3,u4,u5⟩:=ad m am hu;have dj:(m:Int)<y.length:=(by omega);have dk:(0:Int)<=m:=(by omega);have a6:Hid ((yK c 0)[m]? =some am.w):=X (by rw[<-az.out,bZ,hu];rfl);have dl:=X (dg am (jU hu));have Hu:=X hu;obtain⟨⟨r,C,ae,v⟩,af,ag⟩:=am;dsimp only at*;obtain⟨z,G⟩:∃z,z=wr.alloc (.cells #[Y (r:Int),.bool C,.bool ae,Y v.v,Y v.f,Zk af v.e ag] 188):=⟨_,rfl⟩;obtain⟨M,bi⟩:∃M,M=z.alloc (.cells #[Y 2,Y 0,Y 0,Y (d:Int),Y (r:Int),.bool f,.bool C,Zd] 81):=⟨_,rfl⟩;have P:Zb wr z:=G▸jG _ _;have bj:z.heap.size=wr.heap.size+1:=(by rw[G];simp);have b6:Zb z M:=bi▸jG _ _;have b7:Zb wr M:=P.trans (b6.mono P.size);have s1:=u.2.below P;have s2:=u.2.below b7;have v1:W6 z wr.heap.size 0 ⟨⟨r,C,ae,v⟩,af,ag⟩:=(by rw[G];exact W6.new (e:=⟨⟨r,C,ae,v⟩,af,ag⟩) rfl);have v2:=v1.below b6;have i8:I8 M (wr.heap.size+1) ⟨2,0,0,(d:Int),(r:Int),f,C,[]⟩ none 0:=(by rw[bi];exact I8.new (i:=⟨2,0,0,(d:Int),(r:Int),f,C,[]⟩) (a:=none) (k:=0) _ bj.symm);have o:=X b7;have ar:=X (λ(B:N)(K:Zb wr B)=>hJ _ _ _ _ _ a5 (jR.A K) (fY (λF I=>kV (al.low F I).2 K.size)));have a7:=X (λ(B:N)(K:Zb wr B)=>al.fresh H K);have bk:=X (bi.trans (by rw[G]));have dm:=X i8;have co:=X (λ(B:N)(O:Zp)(hI:IS p w W O B)=>Tu first.E first v fa fc af ag B (jF _) (cw _ dd) (hI.qz dc) (hI.qz dl));obtain⟨bl,bm,bn,bo,bp,bq⟩:=s1;obtain⟨dp,dq,b2,dr,ds,dt⟩:=s2;obtain⟨c0,c1,c2,c3,c4,c5⟩:=v1;obtain⟨d0,d1,d2,d3,d4,d5⟩:=v2;obtain⟨i0,i1,i2,i3,i4,i5,i6,i7⟩:=i8;rw[bk.out] at dp dq b2 dr ds dt d0 d1 d2 d3 d4 d5 i0 i1 i2 i3 i4 i5 i6 i7;rw[G] at bl bm bn bo bp bq c0 c1 c2 c3 c4 c5;clear hu P bj b6 b7 G bi
      cases ae with
      |false=>
       have an:Hid (A.map vA.i=(g.take b).flatMap (λe=>fF c e.w)++(tC ⟨d,f,true,first⟩++fV ⟨d,f,true,first⟩ ((yK c 0).take (m+1)))):=X (by rw[Gb a6.out];simpa using ak.out);gi_wp2_with (first|(with_reducible refine oW ?_)|(with_reducible refine Gh ?_));rw[<-bk.out]
       go_roundw
       case rel=>exact⟨m+1,_,A,by omega,by go_num,an,X (ar M o),X (a7 M o),X (ac.fresh o),X (ad.fresh o),X ⟨jD u.1,u.2.below o⟩⟩
       case measure=>simp[intOf];omega
      |true=>
       by_cases a8:d=r
       .have e1:((d:Int) !=(r:Int))=false:=by simp[a8]
        have an:Hid (A.map vA.i=(g.take b).flatMap (λe=>fF c e.w)++(tC ⟨d,f,true,first⟩++fV ⟨d,f,true,first⟩ ((yK c 0).take (m+1)))):=X (by rw[Gb a6.out];simpa[a8] using ak.out);clear a8;gi_wp2_with (first|(with_reducible refine oW ?_)|(with_reducible refine Gh ?_));rw[<-bk.out]
        go_roundw
        case rel=>exact⟨m+1,_,A,by omega,by go_num,an,X (ar M o),X (a7 M o),X (ac.fresh o),X (ad.fresh o),X ⟨jD u.1,u.2.below o⟩⟩
        case measure=>simp[intOf];omega
       have e1:((d:Int) !=(r:Int))=true:=(by simp;omega);have cp:Hid ((d !=r)=true):=X (by simpa using a8);have du:=X (co M _ (a7 M o));clear a8 co
       have dv:Hid (∀E:N,Zb wr E->fM first v=true->YieldAt Fence.wide 0 Zf bt #[.agg #[Y 2,Y 0,Y 0,Y (d:Int),Y (r:Int),.bool f,.bool C,Zd]] E λe B=>∃t,e=.returned (.bool t)/\KR p (vE q wr E) E B/\(t=true->ai (vE q wr E) (A++[⟨⟨2,0,0,(d:Int),(r:Int),f,C,[]⟩,none,0⟩]) B)/\(t=false->∃O' b0,T' O' b0 B)):=X (by
        intro E a9 s
        have j:=Lw (hY (vE q wr E) A ⟨⟨2,0,0,(d:Int),(r:Int),f,C,[]⟩,none,0⟩ E (ar E a9) ⟨⟨fV ⟨d,f,true,first⟩ ((yK c 0).drop (m+1))++(g.drop (b+1)).flatMap (λe=>fF c e.w),by
         rw[AJ au.out Hx.out,ak.out,Lc,XZ a6.out]
         simp[s,cp.out]⟩,jD rfl⟩ (by rintro F ⟨aj,ho⟩;cases ho))
        rw[KR.kz rfl] at j;refine YieldAt.mono j ?_;rintro e B ⟨t,rfl,q1,q2,q3⟩
        exact⟨t,rfl,q1,q2,λK=>⟨_,_,q3 K⟩⟩)
       gi_wp2_with (first
        |(refine⟨trivial,rfl,?_⟩
          gi_at_call 139;rw[<-bk.out];refine(callsIn_wide.2 du).mono ?_;rintro e E ⟨⟨dw,rfl,hr⟩,a9⟩;obtain⟨z0,z1,z2,z3,z4,z5,z6,z7⟩:=dm.below a9;have R:=X (o.trans (a9.mono o.size));have Hr:=X hr;clear a9 hr
          cases dw
          all_goals (try (obtain⟨fn,dx,dy,dz,hy,hR⟩:=dv E R (Hr.1 rfl);have ba:=X hR;clear hR)))
        |(refine⟨rfl,ba.mono ?_⟩
          rintro e B ⟨t,rfl,ah,bb,bc⟩;have br:=X ah;have d6:=X bb;have b8:=X bc;clear ah bb bc hy ba
          cases t)
        |(with_reducible refine oW ?_))
       all_goals (first
        |(have b9:=b8 trivial
          (try simp only[Exit.inBlock,Exit.then]);refine qS (sD rfl _ _ _) rfl ?_
          exact⟨⟨_,rfl⟩,jE b9⟩)
        |(have d7:=d6 trivial
          have s:fM first v=true:=Hr.1 trivial
          have an:Hid ((A++[⟨⟨2,0,0,(d:Int),(r:Int),f,C,[]⟩,none,0⟩]:List vA).map vA.i=(g.take b).flatMap (λe=>fF c e.w)++(tC ⟨d,f,true,first⟩++fV ⟨d,f,true,first⟩ ((yK c 0).take (m+1)))):=X (by
           rw[Gb a6.out,nP,ak.out]
           simp[s,cp.out])
          go_roundw
          case rel=>exact⟨m+1,_,_,by omega,by go_num,an,X d7,X ((a7 E R).round H br (λ_ j=>j)),X ((ac.fresh R).round br),X ((ad.fresh R).round br),X ⟨jD u.1,br.w6 (jD u.1) (u.2.below R)⟩⟩
          case measure=>simp[intOf];omega)
        |(have an:Hid (A.map vA.i=(g.take b).flatMap (λe=>fF c e.w)++(tC ⟨d,f,true,first⟩++fV ⟨d,f,true,first⟩ ((yK c 0).take (m+1)))):=X (by
           have s:fM first v=false:=by
            cases j:fM first v
            .rfl
            exact jN (Hr.2 j) (by simp)
           rw[Gb a6.out];simpa[s] using ak.out)
          go_roundw
          case rel=>exact⟨m+1,_,A,by omega,by go_num,an,X (ar E R),X (a7 E R),X (ac.fresh R),X (ad.fresh R),X ⟨jD u.1,u.2.below R⟩⟩
          case measure=>simp[intOf];omega))
     have ca:m=y.length:=(by omega);subst ca
     have cb:Hid (A.map vA.i=(g.take (b+1)).flatMap (λe=>fF c e.w)):=X (by
      have s:=xE List.length az;rw[dY] at s
      rw[ak.out,Fo Hx.out,Lc,s,qU])
     clear ak;gi_wp2
     go_roundw
     case rel=>exact⟨b+1,q,A,by omega,by go_num,cb,a5,al,ac⟩
     case measure=>simp[intOf];omega
   |false=>
    have cq:Hid (f=true->∃(Q:Zp)(U:List vA),U.map vA.i=(g.take b).flatMap (λe=>fF c e.w)++tC ⟨d,f,false,first⟩/\ai Q U h/\IS p w W Q h/\dJ Q h (some (D be 0)) g/\Q l.heap.size/\W6 h l.heap.size 0 ⟨⟨d,f,false,first⟩,fa,fc⟩):=X (λj=>⟨_,pre,by rw[Hp.out,bf.out (jE j),zU],av,J,aw,ap,ax⟩)
    cases f
    all_goals (try (obtain⟨fn,dx,dy,dz,hy,hR⟩:=bz rfl rfl;have ba:=X hR;rw[Z.out] at hy;clear hR))
    all_goals (try (have HX:=X (λ(_:True)=>cq rfl);have aq:=bx h _ J;rw[Z.out] at aq))
    all_goals (
     gi_wp2_with (first
      |(refine⟨trivial,rfl,?_⟩
        gi_at_call 138;(try rw[<-Z.out]);obtain⟨Q,U,q1,q2,q3,q4,q5,q6⟩:=HX (by first|trivial|rfl);refine(callsIn_wide.2 (ce _ _ q3)).mono ?_;rintro e w2 ⟨v2,y,rfl,ay,⟨aa,bg⟩,L⟩;obtain⟨b3,df,b4⟩:=zF aa;have bh:=X aa;subst b4;have ab:=X L;have az:=X ay;have d8:=X q1;have a0:=X (q3.fresh H L);have a1:=X (hJ _ _ _ _ _ q2 (jR.A L) (fY (λF I=>kV (q3.low F I).2 L.size)));have a2:=X (q4.fresh L);have a3:=X (dJ.jr (p:=Q) aa rfl);have a4:=X (Kt ⟨q5,q6⟩ L)
        clear aa L ay bg q1 q2 q3 q4 q5 q6)
      |(rw[<-Z.out]
        refine⟨rfl,ba.mono ?_⟩;rintro e B ⟨t,rfl,ah,bb,bc⟩;have b8:=X bc;have HX:Hid (t=true->∃(Q:Zp)(U:List vA),U.map vA.i=(g.take b).flatMap (λe=>fF c e.w)++tC ⟨d,false,false,first⟩/\ai Q U B/\IS p w W Q B/\dJ Q B (some (D be 0)) g/\Q l.heap.size/\W6 B l.heap.size 0 ⟨⟨d,false,false,first⟩,fa,fc⟩):=X (λj=>⟨_,_,by rw[nP,Hp.out,b1.out rfl rfl];rfl,bb j,J.round H ah (λ_ j=>j),aw.round ah,ap,ah.w6 ap ax⟩);have aq:=bx B _ (J.round H ah (λ_ j=>j));clear ah bb bc hy ba
        cases t)
      |(with_reducible refine oW ?_)))
    all_goals (first
     |(have b9:=b8 (by first|trivial|rfl)
       (try simp only[Exit.inBlock,Exit.then]);refine qS (sD rfl _ _ _) rfl ?_
       exact⟨⟨_,rfl⟩,jE b9⟩)
     |(have dh:y.length<=2000:=by
        have s:=xE List.length az;rw[dY,Dw] at s;omega
       clear p0 p1 p2 p3 p4 p5 k0 ck k2 k3 k4 k5 aq ab bh av J aw ax ap Z HX cq bf b1 bz;gi_loopw [34] (λjv wr=>∃(m:Nat)(q:Zp),m<=y.length/\jv=Y m/\Hid (ai q U wr)/\Hid (IS p w W q wr)/\Hid (dJ q wr (some (D be 0)) g)/\Hid (dJ q wr b3 y)/\Hid (q l.heap.size/\W6 wr l.heap.size 0 ⟨⟨d,_,false,first⟩,fa,fc⟩)) (λjv _=>y.length - (intOf jv).toNat)
       case atStart=>exact⟨0,_,jY _,rfl,a1,a0,a2,a3,a4⟩
       case round=>
        obtain⟨m,q,hm,rfl,a5,al,ac,ad,u⟩:=hrel;clear a1 a0 a2 a3 a4;by_cases b5:m<y.length
        .obtain⟨am,hu⟩:=Zg b5
         obtain⟨g2,rfl,di,u0,u1,u2,u3,u4,u5⟩:=ad m am hu;have dj:(m:Int)<y.length:=(by omega);have dk:(0:Int)<=m:=(by omega);obtain⟨⟨r,C,ae,v⟩,af,ag⟩:=am;dsimp only at u0 u1 u2 u3 u4 u5;obtain⟨z,G⟩:∃z,z=wr.alloc (.cells #[Y (r:Int),.bool C,.bool ae,Y v.v,Y v.f,Zk af v.e ag] 188):=⟨_,rfl⟩;have P:Zb wr z:=G▸jG _ _;have bj:z.heap.size=wr.heap.size+1:=(by rw[G];simp);have s1:=u.2.below P;have s2:=λaj=>u.2.below (P.trans ((jG z aj).mono P.size));have v1:W6 z wr.heap.size 0 ⟨⟨r,C,ae,v⟩,af,ag⟩:=(by rw[G];exact W6.new (e:=⟨⟨r,C,ae,v⟩,af,ag⟩) rfl);have o:=X (λaj=>P.trans ((jG z aj).mono P.size));have d9:=X G;have ar:=X (λ(B:N)(K:Zb wr B)=>hJ _ _ _ _ _ a5 (jR.A K) (fY (λF I=>kV (al.low F I).2 K.size)));obtain⟨bl,bm,bn,bo,bp,bq⟩:=s1;obtain⟨c0,c1,c2,c3,c4,c5⟩:=v1;have b2:=λaj=>(s2 aj).e2;rw[G] at bl bm bn bo bp bq c0 c1 c2 c3 c4 c5 b2;dsimp only at bl bm bn bo bp bq c0 c1 c2 c3 c4 c5 b2;clear hu P bj G s2;gi_wp2_with (first|(with_reducible refine oW ?_)|(with_reducible refine Gh ?_));rw[<-d9.out]
         go_roundw
         case rel=>exact⟨m+1,_,by omega,by go_num,X (ar _ (o _)),X (al.fresh H (o _)),X (ac.fresh (o _)),X (ad.fresh (o _)),X ⟨jD u.1,u.2.below (o _)⟩⟩
         case measure=>simp[intOf];omega
        have ca:m=y.length:=(by omega);subst ca
        have cb:Hid (U.map vA.i=(g.take (b+1)).flatMap (λe=>fF c e.w)):=X (by
         rw[d8.out,Fo Hx.out,Lc,YA rfl,zU])
        gi_wp2
        go_roundw
        case rel=>exact⟨b+1,q,U,by omega,by go_num,cb,a5,al,ac⟩
        case measure=>simp[intOf];omega))
  have ea:b=g.length:=by omega
  subst ea;have eb:Hid (pre.map vA.i=aW c):=X (by rw[Hp.out,qU,aW,<-au.out,Io]);clear Hp;gi_wp2
  go_end0
  exact⟨⟨_,rfl⟩,jD ⟨O,pre,eb,HJ⟩⟩
def uD(r:Nat):Deferred:={target:=.collected r,args:=#[]}
def gN(O:Zp)(A:N)(b:List Deferred):Prop:=∃a:List Nat,b=a.map uD/\a.Nodup/\∀r,r∈a->O r/\A.heap[r]? =some (.deferred (some []))
def gN.nil:gN p w []:=⟨[],rfl,eT,λr h=>by cases h⟩
def gN.same{a:List Deferred}(h:gN p w a)(b:∀r,p r->r<w.heap.size->p1 r/\u.heap[r]? =w.heap[r]?):gN p1 u a:=by
 obtain⟨c,d,e,f⟩:=h;refine⟨c,d,e,λr g=>?_⟩;obtain⟨q1,q2⟩:=f r g;obtain⟨g,i⟩:=b r q1 (gJ.1 q2).1;exact⟨g,i.trans q2⟩
def gN.fresh{a:List Deferred}(h:gN p w a)(b:Zb w u):gN (vE p w u) u a:=h.same (λr c d=>⟨jD c,b.block r d⟩)
def gN.round{a:List Deferred}(h:gN p1 w a)(c:KR p p1 w u):gN p1 u a:=h.same (λr b d=>⟨b,c.block r d (jE b)⟩)
def gN.cons{b:List Deferred}(h:gN p w b)(e:p k)(f:w.heap[k]? =some (.deferred (some [])))(g:∀a:List Nat,b=a.map uD->k∉a):gN p w (uD k::b):=by
 obtain⟨a,d,i,j⟩:=h;refine⟨k::a,by rw[d];rfl,aM.2 ⟨g a d,i⟩,λq c=>?_⟩;rcases qO.1 c with rfl|c
 .exact⟨e,f⟩
 exact j q c
def Xn{F:Fence}{P:Program}{e:Func}{f:Zy}{R:Ending->N->Prop}:∀{a:List Deferred}{A:N},gN p A a->(∀B,jR p A B->∃v,(results e f).run P B=.ok v B/\R (.returned v) B)->LeavesInM F k P e f R a .returning A:=by
 intro a;induction a with
 |nil=>intro A _ c;exact c A (jR.refl _ _)
 |cons s a j=>
  intro A l c;obtain⟨d,b,m,g⟩:=l
  cases d with
  |nil=>cases b
  |cons r d=>
   simp only[yI,mX] at b;obtain⟨rfl,b⟩:=b;obtain⟨q1,q2⟩:=g r vX;have h:=aM.1 m;refine⟨by simp,.inl ⟨r,A.putObj r (.deferred none),rfl,run_takeDeferred q2,j ⟨d,b,h.2,λq i=>?_⟩ (λB n=>c B ((jR.putObj q1 _).trans n))⟩⟩;obtain⟨n,o⟩:=g q (vG _ i);exact⟨n,by rw[World.putObj_heap_other (λq=>by subst q;exact h.1 i)];exact o⟩
def gV(c d:Zc)(l u:gO):List jX:=if l.yes then Ds (mM c d) l u else []
theorem DJ(c d:Zc):iQ c d=(dE c).flatMap (λl=>(dE d).flatMap (gV c d l)):=rfl
def Vw{b h c:Type}{g:b->c}{f:c->List h}{a:List b}{x:b}(d:a[k]? =some x):(a.map g).flatMap f=(a.take k).flatMap (λe=>f (g e))++(f (g x)++(a.drop (k+1)).flatMap (λe=>f (g e))):=by
 have i:=(Zl d);have j:a=a.take k++(x::a.drop (k+1)):=by
  rw[<-(jZ.1 d).2,<-pN i,cL]
 have l:(a.map g).flatMap f=a.flatMap (λe=>f (g e)):=by rw[Io]
 rw[l]
 conv=>lhs;rw[j]
 simp only[Mq,Mr]
def jEl{b a:List qJ}(f:b.map qJ.w=dE c)(g:a.map qJ.w=dE d){x y:qJ}(h:b[k]? =some x)(i:a[n]? =some y):
 iQ c d=(b.take k).flatMap (λe=>(dE d).flatMap (gV c d e.w))++((a.take n).flatMap (λe=>gV c d x.w e.w)++(gV c d x.w y.w++((a.drop (n+1)).flatMap (λe=>gV c d x.w e.w)++(b.drop (k+1)).flatMap (λe=>(dE d).flatMap (gV c d e.w))))):=by
 rw[DJ,<-f,Vw h];have j:(dE d).flatMap (gV c d x.w)=(a.take n).flatMap (λe=>gV c d x.w e.w)++(gV c d x.w y.w++(a.drop (n+1)).flatMap (λe=>gV c d x.w e.w)):=by
  rw[<-g,Vw i]
 rw[j];simp only[dH]
structure zA (K:Zp) (w0 W P:N) (ds:List Deferred) (bl bu bx:Nat) (x u:qJ) (va va2:Zo) (es us:List qJ) (l:Nat) (Oo:Zp) (A:N):Prop where
 is:IS K w0 W Oo A
 marks:gN Oo A ds
 vf:dJ Oo A va es
 vg:dJ Oo A va2 us
 kd:Oo bl/\W6 A bl 0 x
 qb:Oo bu/\W6 A bu 0 u
 kx:Oo W.heap.size/\A.cell? (D W.heap.size 0)=some (.func (.yield l) #[] #[])
 kw:Oo bx/\A.heap[bx]? =P.heap[bx]?
 two:∀k,P.heap.size<=k->k<P.heap.size+2->k<A.heap.size->Oo k
 size:P.heap.size<=A.heap.size
 qj:∀rs:List Nat,ds=rs.map uD->∀r,r∈rs->r<P.heap.size
structure eY (K:Zp) (W P:N) (bl bu bx:Nat) (va va2:Zo):Prop where
 hK:∀k,K k->k<P.heap.size
 vj:bl<P.heap.size
 vk:bu<P.heap.size
 qs:bx<P.heap.size
 hW:W.heap.size<P.heap.size
 vl:∀g,va=some (D g 0)->g<P.heap.size
 vm:∀g,va2=some (D g 0)->g<P.heap.size
section
variable {K:Zp} {w0 W P:N} {ds:List Deferred} {bl bu bx:Nat} {x u:qJ} {va va2:Zo} {es us:List qJ} {l:Nat} {Oo Oo':Zp} {A B:N}
def zA.keep(b:eY K W P bl bu bx va va2)(h:zA K w0 W P ds bl bu bx x u va va2 es us l Oo A)(m:A.heap.size<=B.heap.size)
 (p:∀k,K k->B.heap[k]? =A.heap[k]?) (c:∀k,k<P.heap.size->Oo k->B.heap[k]? =A.heap[k]?/\Oo' k) (q:∀k,Oo' k->W.heap.size<=k/\k<B.heap.size) (s:∀k,P.heap.size<=k->k<P.heap.size+2->k<B.heap.size->Oo' k):zA K w0 W P ds bl bu bx x u va va2 es us l Oo' B:=by
 have f:∀{g o:Nat}{e:qJ},g<P.heap.size->Oo g->W6 A g o e->W6 B g o e:=λd i j=>j.block (c _ d i).1;refine⟨⟨λk d=>by rw[p k d];exact h.is.kk k d,kN h.is.size m,q⟩,?_,?_,?_,⟨(c bl b.vj h.kd.1).2,f b.vj h.kd.1 h.kd.2⟩,⟨(c bu b.vk h.qb.1).2,f b.vk h.qb.1 h.qb.2⟩,⟨(c _ b.hW h.kx.1).2,(kH (w:=A) (a:=(D W.heap.size 0)) (c _ b.hW h.kx.1).1).trans h.kx.2⟩,⟨(c bx b.qs h.kw.1).2,(c bx b.qs h.kw.1).1.trans h.kw.2⟩,s,kN h.size m,h.qj⟩
 .obtain⟨n,q1,q2,d⟩:=h.marks
  refine⟨n,q1,q2,λr i=>?_⟩;obtain⟨o,t⟩:=d r i;have:=c r (h.qj n q1 r i) o;exact⟨this.2,this.1.trans t⟩
 .intro j e i
  obtain⟨g,q1,q2,d⟩:=h.vf j e i;exact⟨g,q1,(c g (b.vl g q1) q2).2,f (b.vl g q1) q2 d⟩
 intro j e i;obtain⟨g,q1,q2,d⟩:=h.vg j e i;exact⟨g,q1,(c g (b.vm g q1) q2).2,f (b.vm g q1) q2 d⟩
def zA.step(c:eY K W P bl bu bx va va2)(h:zA K w0 W P ds bl bu bx x u va va2 es us l Oo A)(e:∀k,p k->Oo k/\P.heap.size<=k)(a:jR p A B)(d:sP p p1 A B):
 zA K w0 W P ds bl bu bx x u va va2 es us l (λk=>Oo k\/p1 k\/(A.heap.size<=k/\k<B.heap.size/\k<P.heap.size+2)) B:=by
 have i:=a.below.size;have f:∀k,k<P.heap.size->¬p k:=λk a d=>by have:=(e k d).2;omega
 have o:=h.size;have q:=h.is.size;refine h.keep c i (λk b=>a.block k (by have:=c.hK k b;omega) (f k (c.hK k b))) (λk b g=>⟨a.block k (by omega) (f k b),jD g⟩) ?_ ?_
 .rintro k (b|b|b)
  .have:=h.is.low k b;omega
  .obtain⟨q1,q2|q2⟩:=d k b
   .have:=h.is.low k (e k q2).1;omega
   omega
  omega
 intro k j g m;by_cases n:k<A.heap.size
 .exact jD (h.two k j g n)
 exact jE (jE ⟨by omega,m,g⟩)
def zA.fresh(b:eY K W P bl bu bx va va2)(h:zA K w0 W P ds bl bu bx x u va va2 es us l Oo A)(a:Zb A B):zA K w0 W P ds bl bu bx x u va va2 es us l (vE Oo A B) B:=by
 have d:=a.size;have j:=h.size;have m:=h.is.size;refine h.keep b d (λk c=>a.block k (by have:=b.hK k c;omega)) (λk c c=>⟨a.block k (by omega),jD c⟩) ?_ ?_
 .rintro k (c|c)
  .have:=h.is.low k c;omega
  omega
 intro k e f g;by_cases i:k<A.heap.size
 .exact jD (h.two k e f i)
 exact jE ⟨by omega,g⟩
def BK{o:Obj}(h:w.heap.size<=k):w.putObj k o=w:=by
 unfold World.putObj;rw[Array.setIfInBounds_eq_of_size_le h]
def zA.put(b:eY K W P bl bu bx va va2)(h:zA K w0 W P ds bl bu bx x u va va2 es us l Oo A)(o:Obj):zA K w0 W P ds bl bu bx x u va va2 es us l Oo (A.putObj (P.heap.size+1) o):=by
 have e:=h.size;refine h.keep b (by simp) (λk a=>World.putObj_heap_other (by have:=b.hK k a;omega)) (λk a c=>⟨World.putObj_heap_other (by omega),c⟩) (λk a=>by have:=h.is.low k a;simpa using this) (λk a c d=>h.two k a c (by simpa using d))
def zA.round(d:eY K W P bl bu bx va va2)(h:zA K w0 W P ds bl bu bx x u va va2 es us l Oo A){own:Zp}(i:P.heap.size+2<=A.heap.size)(b:KR K Oo A B)(e:∀k,own k->P.heap.size+2<=k):zA K w0 W P ds bl bu bx x u va va2 es us l (λk=>Oo k/\¬own k) B:=by
 have f:=b.below.size;have j:=h.size;refine h.keep d f (λk a=>b.block k (by have:=d.hK k a;omega) (jD a)) (λk a c=>⟨b.block k (by omega) (jE c),c,λc=>by have:=e k c;omega⟩) (λk a=>by have:=h.is.low k a.1;omega) (λk a g m=>?_);exact⟨h.two k a g (by omega),λc=>by have:=e k c;omega⟩
end
def cR(J:Zp->List vA->N->Prop)(F:Zp->N->Prop)(P:N)(base:List jX)(far:Bool)(l u:gO)(O:Zp)(pre:List zI)(A:N):Prop:=
 ∃(Oo:Zp)(a:List vA),(∀k,O k->Oo k/\P.heap.size<=k)/\J Oo a A/\F Oo A/\a.map vA.i=base++(pre.map zI.val).filterMap (aH far l u)
def cU(T':Zp->List vA->N->Prop)(F:Zp->N->Prop)(P:N)(O:Zp)(_:List zI)(A:N):Prop:=
 ∃(Oo:Zp)(a:List vA),(∀k,O k->Oo k/\P.heap.size<=k)/\T' Oo a A/\F Oo A
section
variable {K:Zp} {w0 W P:N} {ds:List Deferred} {bl bu bx:Nat} {x u:qJ} {va va2:Zo} {es us:List qJ} {l:Nat} {J T':Zp→List vA→N→Prop} {base:List jX} {far:Bool} {lw uw:gO}
def cR.step(h:eY K W P bl bu bx va va2)(i:∀O b pre A B,J O pre A->jR O A B->sP O b A B->J b pre B)(O b:Zp)(pre:List zI)(A B:N)(j:cR J (zA K w0 W P ds bl bu bx x u va va2 es us l) P base far lw uw O pre A)(c:jR O A B)(e:sP O b A B):
 cR J (zA K w0 W P ds bl bu bx x u va va2 es us l) P base far lw uw b pre B:=by
 obtain⟨Oo,g,d,m,f,n⟩:=j;have o:=f.size;have p:=c.below.size;refine⟨_,g,λk a=>⟨jE (jD a),?_⟩,i Oo _ g A B m (c.mono (λk c=>(d k c).1)) ?_,f.step h d c e,n⟩
 .obtain⟨q1,q2|q2⟩:=e k a
  .exact(d k q2).2
  omega
 rintro k (a|a|a)
 .exact⟨by have:=f.is.low k a;omega,jD a⟩
 .obtain⟨q1,q2|q2⟩:=e k a
  .exact⟨q1,jD (d k q2).1⟩
  exact⟨q1,jE q2⟩
 exact⟨a.2.1,jE a.1⟩
def kpz_put(a:zA K w0 W P ds bl bu bx x u va va2 es us l p w)(o:Obj):jR p w (w.putObj (P.heap.size+1) o):=by
 by_cases h:P.heap.size+1<w.heap.size
 .exact jR.putObj (a.two _ (by omega) (by omega) h) o
 rw[BK (by omega)];exact jR.refl _ _
theorem Gd {Oo:Zp} {A B:N} (h:∀k,Oo k->k<A.heap.size) (b:A.heap.size<=B.heap.size):sP Oo Oo A B:=λk a=>⟨kV (h k a) b,jD a⟩
theorem cR.put (d:eY K W P bl bu bx va va2) (e:∀O b pre A B,J O pre A->jR O A B->sP O b A B->J b pre B) (O:Zp) (pre:List zI) (A:N) (o:Obj) (h:cR J (zA K w0 W P ds bl bu bx x u va va2 es us l) P base far lw uw O pre A):
 cR J (zA K w0 W P ds bl bu bx x u va va2 es us l) P base far lw uw O pre (A.putObj (P.heap.size+1) o):=by
 obtain⟨Oo,c,f,g,a,i⟩:=h
 exact⟨Oo,c,f,e Oo Oo c A _ g (kpz_put a o) (Gd (λk j=>(a.is.low k j).2) (by simp)),a.put d o,i⟩
def cU.step(c:eY K W P bl bu bx va va2)(h:∀O pre A B,T' O pre A->jR O A B->T' O pre B)(O:Zp)(pre:List zI)(A B:N)(i:cU T' (zA K w0 W P ds bl bu bx x u va va2 es us l) P O pre A)(o:P.heap.size+2<=A.heap.size)(a:jR O A B):
 cU T' (zA K w0 W P ds bl bu bx x u va va2 es us l) P O pre B:=by
 obtain⟨Oo,f,d,j,e⟩:=i;have m:=a.below.size;have g:∀k,k<P.heap.size->¬O k:=λk a b=>by have:=(d k b).2;omega
 refine⟨Oo,f,d,h Oo f A B j (a.mono (λk a=>(d k a).1)),e.keep c m (λk b=>a.block k (by have:=c.hK k b;omega) (g k (c.hK k b))) (λk b n=>⟨a.block k (by omega) (g k b),n⟩) (λk b=>by have:=e.is.low k b;omega) (λk q1 q2 b=>e.two k q1 q2 (by omega))⟩
def cU.put(c:eY K W P bl bu bx va va2)(d:∀O pre A B,T' O pre A->jR O A B->T' O pre B)(O:Zp)(pre:List zI)(A:N)(o:Obj)(h:cU T' (zA K w0 W P ds bl bu bx x u va va2 es us l) P O pre A):
 cU T' (zA K w0 W P ds bl bu bx x u va va2 es us l) P O pre (A.putObj (P.heap.size+1) o):=by
 obtain⟨Oo,a,e,f,b⟩:=h;exact⟨Oo,a,e,d Oo a A _ f (kpz_put b o),b.put c o⟩
end
def Ui(h:k<=n)(o:Obj):Below k w (w.putObj n o):=⟨rfl,rfl,rfl,by simp,λa a=>World.putObj_heap_other (by omega)⟩
def VN:∀{a b:List Nat},a.map uD=b.map uD->a=b:=by
 intro a;induction a with
 |nil=>intro b h;cases b with
  |nil=>rfl
  |cons y b=>cases h
 |cons x a c=>
  intro b h
  cases b with
  |nil=>cases h
  |cons y b=>
   simp only[yI,mX,uD,Deferred.mk.injEq,Target.collected.injEq,and_true] at h;rw[h.1,c h.2]
def gN.low{ds:List Deferred}(h:gN p w ds)(c:∀b,p b->b<k):∀a:List Nat,ds=a.map uD->∀r,r∈a->r<k:=by
 intro a d r e;obtain⟨i,q1,q2,f⟩:=h;have g:=VN (d.symm.trans q1);subst g;exact c r (f r e).1
def jV.same{w':N}(h:jV w r a)(d:∀k o,a=some (D k o)->w'.heap[k]? =w.heap[k]?):jV w' r a:=by
 rcases h with h|⟨b,c,rfl,h⟩
 .exact jD h
 exact jE ⟨b,c,rfl,λi e=>by rw[kH (w:=w) (a:=(D b (c+i))) (d b c rfl)];exact h i e⟩
section
def YW(v f:Int)(a:Zo)(n c:Nat)(w:N):Calls Zf 142 #[.agg #[Y v,Y f,.slice a n c]] w λe b=>e=.returned (.func (.func 174) #[] #[Zr w.heap.size])/\b=w.alloc (.cells #[Y v,Y f,.slice a n c] 43):=by
 go_in
 go_wp2;go_ret;exact⟨rfl,rfl⟩
end
end Go.Proofs.YtohdnhlfpldbmaaGreat
