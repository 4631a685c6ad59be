import Derived.Deep.Upon
import Derived.Lib.SliceRun
import Derived.Shelf.RegionOpen
import Derived.Test.YtohdnhlfpldbmaaGreatJoined3
set_option maxRecDepth 100000
set_option maxHeartbeats 32000000
set_option linter.all false
namespace Go.Proofs.YtohdnhlfpldbmaaGreat
open Go.RowKit Go.Maps
open Go.Proofs.Tryz renaming prog->Zf
attribute [local go_sem ↓] Go.wp_at_zero Go.wp_at_succ
variable {k n m i j n1 n2 n3 n4 n5 n6 n7 n8 n9:Nat}{w u v w1 w2 w3 w4 w5:N}{x y x1 x2 x3 x4 x5 x6 x7 x8 x9:Value}{r r1 r2:Zn}{p p1 p2:Zp}{z z1 z2 z3:Int}{a a1 a2 a3 a4:Zo}{t s t1 t2:T}{c d c1 c2:Zc}{g g1 g2:TypeId}{b b1 b2:Zs}{l l1:Zt}{U V U1 U2:Zu}{B B1:Bool}
structure jX where
 L:Int
 left:Int
 right:Int
 la:Int
 ra:Int
 lt:Bool
 rt:Bool
 G:Zn
abbrev zV(i:jX)(a:Zo)(b:Nat):Zv:=.agg #[Y i.L,Y i.left,Y i.right,Y i.la,Y i.ra,.bool i.lt,.bool i.rt,.slice a i.G.length b]
structure I8 (w:N) (b:Nat) (i:jX) (pa:Zo) (pc:Nat):Prop where
 e0:w.cell? (D b 0)=some (Y i.L)
 e1:w.cell? (D b 1)=some (Y i.left)
 e2:w.cell? (D b 2)=some (Y i.right)
 e3:w.cell? (D b 3)=some (Y i.la)
 e4:w.cell? (D b 4)=some (Y i.ra)
 e5:w.cell? (D b 5)=some (.bool i.lt)
 e6:w.cell? (D b 6)=some (.bool i.rt)
 e7:w.cell? (D b 7)=some (.slice pa i.G.length pc)
def I8.below{i:jX}(h:I8 w k i a n)(b:Zb w u):I8 u k i a n:=
 ⟨jH b h.e0,jH b h.e1,jH b h.e2,jH b h.e3,jH b h.e4,jH b h.e5,jH b h.e6,jH b h.e7⟩
def I8.new{i:jX}(e:TypeId)(b:n=w.heap.size):I8 (w.alloc (.cells #[Y i.L,Y i.left,Y i.right,Y i.la,Y i.ra,.bool i.lt,.bool i.rt,.slice a i.G.length k] e)) n i a k:=
 ⟨jJ 0 b,jJ 1 b,jJ 2 b,jJ 3 b,jJ 4 b,jJ 5 b,jJ 6 b,jJ 7 b⟩
def yG(n:Int)(l:Nat):Bool:=decide (0<=n/\n<(l:Int))
def Kk(b:Zo)(l c:Nat)(n:Int)(w:N):Calls Zf 179 #[.slice b l c,Y n] w λe d=>e=.returned (.bool (yG n l))/\d=w:=by
 go_in
 by_cases h:0<=n
 .by_cases a:n<(l:Int)
  .go_wp2
   go_ret;exact⟨vO (by rw[yG];simp[h,a]),rfl⟩
  go_wp2;go_ret;exact⟨vO (by rw[yG];simp[h,a]),rfl⟩
 go_wp2;go_ret;exact⟨vO (by rw[yG];exact(cX (by omega)).symm),rfl⟩
def Pd(b:Zo)(l c:Nat)(n:Int)(w:N):Calls Zf 180 #[.slice b l c,Y n] w λe d=>e=.returned (.bool (yG n l))/\d=w:=by
 go_in
 by_cases h:0<=n
 .by_cases a:n<(l:Int)
  .go_wp2
   go_ret;exact⟨vO (by rw[yG];simp[h,a]),rfl⟩
  go_wp2;go_ret;exact⟨vO (by rw[yG];simp[h,a]),rfl⟩
 go_wp2;go_ret;exact⟨vO (by rw[yG];exact(cX (by omega)).symm),rfl⟩
def tJ(i:jX):Bool:=if i.L=1 then(i.right==0) && (i.ra==0) && !i.lt && !i.rt && ((i.G.length:Int)==0) else if i.L=2 then(i.right==0) && ((i.G.length:Int)==0) else true
def jDd(i:jX)(j:Zo)(k:Nat)(w:N):Calls Zf 154 #[zV i j k] w λl m=>l=.returned (.bool (tJ i))/\Zb w m:=by
 have b:=X (λo=>jG w o)
 go_in
 by_cases a:i.L=1
 .have n:(i.L==1)=true:=by simpa using a
  by_cases d:i.right=0
  .have c:(i.right==0)=true:=by simpa using d
   by_cases g:i.ra=0
   .have e:(i.ra==0)=true:=by simpa using g
    cases f:i.lt with
    |true=>
     go_wp2;go_ret;exact⟨vO (by rw[tJ,jB a,c,e,f];rfl),b _⟩
    |false=>
     cases h:i.rt with
     |true=>
      go_wp2;go_ret;exact⟨vO (by rw[tJ,jB a,c,e,f,h];rfl),b _⟩
     |false=>
      go_wp2;go_ret;exact⟨vO (by rw[tJ,jB a,c,e,f,h];rfl),b _⟩
   have e:(i.ra==0)=false:=(by simpa using g);go_wp2;go_ret;exact⟨vO (by rw[tJ,jB a,c,e];rfl),b _⟩
  have c:(i.right==0)=false:=by simpa using d
  go_wp2;go_ret;exact⟨vO (by rw[tJ,jB a,c];rfl),b _⟩
 have n:(i.L==1)=false:=by simpa using a
 by_cases c:i.L=2
 .have f:(i.L==2)=true:=by simpa using c
  by_cases d:i.right=0
  .have e:(i.right==0)=true:=by simpa using d
   go_wp2;go_ret;exact⟨vO (by rw[tJ,jC a,jB c,e];rfl),b _⟩
  have e:(i.right==0)=false:=by simpa using d
  go_wp2;go_ret;exact⟨vO (by rw[tJ,jC a,jB c,e];rfl),b _⟩
 have f:(i.L==2)=false:=by simpa using c
 go_wp2;go_ret;exact⟨vO (by rw[tJ,jC a,jC c]),b _⟩
def JX{p:T->Bool}(b:l[k]? =some t)(h:(l.take k).any p=false):(p t=false->(l.take (k+1)).any p=false)/\(p t=true->l.any p=true):=by
 constructor
 .intro a
  rw[vZ,b,uT,h];simpa using a
 intro a;rw[mW];exact⟨t,jU b,a⟩
def JT{p:Int×T->Bool}{x:Int×T}(c:b[k]? =some x)(h:(b.take k).any p=false):(p x=false->(b.take (k+1)).any p=false)/\(p x=true->b.any p=true):=by
 constructor
 .intro a
  rw[vZ,c,uT,h];simpa using a
 intro a;rw[mW];exact⟨x,jU c,a⟩
def TD{P:Zv}{p:T->Bool}(s:Nat)(B:l.length<=100000)(C:∀(n:Zy)(w:N),(callFunc k n).run Zf w=.ok (.enter k n) w)
 (b:∀(c:N)(x:T)(e:Zo)(m:Nat),Zb w c->x∈l->InL c x.e e->Calls Zf k #[.agg (Zj x e m),P] c λf t=>f=.returned (.bool (p x))/\Zb c t) (d:InL w l a):
 Calls Zf 231 #[.slice a l.length s,.func (.func k) #[] #[P]] w λf c=>(∃i:Int,f=.returned (Y i)/\decide (0<=i)=l.any p)/\Zb w c:=by
 have o:=X d;have u:=X b;clear d b
 go_in
 go_wp2
 go_loopw [8] (λi wr=>∃b:Nat,b<=l.length/\i=Y b/\Hid ((l.take b).any p=false)/\Hid (Zb w wr)) (λi _=>l.length - (intOf i).toNat)
 case atStart=>exact⟨0,jY _,rfl,rfl,jW _ _⟩
 case round=>
  obtain⟨b,E,rfl,g,d⟩:=hrel;by_cases v:b<l.length
  .obtain⟨F,G,rfl⟩:=dV o (by omega)
   obtain⟨x,h⟩:=Zg v;obtain⟨e,m,_,y,z,A,q⟩:=dT (jI d o) h;have j:=X (JX h g);have r:=X (u wr x e m d (jU h) q);have H:(b:Int)<l.length:=(by omega);have I:(0:Int)<=b:=(by omega);clear h q g
   go_wp2_with fail
   refine r.mono ?_;rintro f c ⟨rfl,h⟩;have q:=X (d.trans (h.mono d.size));clear h r y z A
   cases hd:p x with
   |false=>
    have h:=X (j.1 hd);clear j hd
    go_wp2_with fail
    go_roundw
    case rel=>exact⟨b+1,by omega,by go_num,h,q⟩
    case measure=>simp[intOf];omega
   |true=>
    have h:=X (j.2 hd);clear j hd;go_wp2;go_ret;exact⟨⟨b,rfl,by rw[h.out];simp⟩,q⟩
  have h:b=l.length:=by omega
  subst h;rw[qU] at g;go_wp2;go_ret;exact⟨⟨-1,rfl,by rw[g.out];rfl⟩,d⟩
def MX{P:Zv}{p:T->Bool}(c:Nat)(j:l.length<=100000)(d:∀(f:Zy)(w:N),(callFunc k f).run Zf w=.ok (.enter k f) w)
 (g:∀(b:N)(x:T)(h:Zo)(m:Nat),Zb w b->x∈l->InL b x.e h->Calls Zf k #[.agg (Zj x h m),P] b λe n=>e=.returned (.bool (p x))/\Zb b n) (i:InL w l a):
 Calls Zf 220 #[.slice a l.length c,.func (.func k) #[] #[P]] w λe b=>e=.returned (.bool (l.any p))/\Zb w b:=by
 have o:=X (TD c j d g i);clear g i d
 go_in
 go_wp2_with fail
 refine o.mono ?_;rintro e b ⟨⟨r,rfl,d⟩,g⟩;have i:=X d;have q:=X g;clear d g;go_wp2;go_ret;exact⟨vO i,q⟩
def SV{P:Zv}{p:Int×T->Bool}(s:Nat)(C:b.length<=100000)(E:∀(n:Zy)(w:N),(callFunc k n).run Zf w=.ok (.enter k n) w)
 (c:∀(d:N)(x:Int×T)(l:Zo)(m:Nat),Zb w d->x∈b->Calls Zf k #[.agg #[Y x.1,Y x.2.v,Y x.2.f,.slice l x.2.e.length m],P] d λf t=>f=.returned (.bool (p x))/\Zb d t) (e:xV (λ_=>True) w b a):
 Calls Zf 230 #[.slice a b.length s,.func (.func k) #[] #[P]] w λf d=>(∃i:Int,f=.returned (Y i)/\decide (0<=i)=b.any p)/\Zb w d:=by
 have o:=X e;have u:=X c;clear e c
 go_in
 go_wp2
 go_loopw [8] (λi wr=>∃c:Nat,c<=b.length/\i=Y c/\Hid ((b.take c).any p=false)/\Hid (Zb w wr)) (λi _=>b.length - (intOf i).toNat)
 case atStart=>exact⟨0,jY _,rfl,rfl,jW _ _⟩
 case round=>
  obtain⟨c,F,rfl,g,e⟩:=hrel;by_cases v:c<b.length
  .obtain⟨G,H,rfl⟩:=Gv o (by omega)
   obtain⟨x,h⟩:=Zg v;obtain⟨l,m,_,y,z,A,B,_⟩:=Gu (gW e o) h;have j:=X (JT h g);have q:=X (u wr x l m e (jU h));have I:(c:Int)<b.length:=(by omega);have J:(0:Int)<=c:=(by omega);clear h g
   go_wp2_with fail
   refine q.mono ?_;rintro f d ⟨rfl,h⟩;have r:=X (e.trans (h.mono e.size));clear h q y z A B
   cases hd:p x with
   |false=>
    have h:=X (j.1 hd);clear j hd
    go_wp2_with fail
    go_roundw
    case rel=>exact⟨c+1,by omega,by go_num,h,r⟩
    case measure=>simp[intOf];omega
   |true=>
    have h:=X (j.2 hd);clear j hd;go_wp2;go_ret;exact⟨⟨c,rfl,by rw[h.out];simp⟩,r⟩
  have h:c=b.length:=by omega
  subst h;rw[qU] at g;go_wp2;go_ret;exact⟨⟨-1,rfl,by rw[g.out];rfl⟩,e⟩
def MU{P:Zv}{p:Int×T->Bool}(d:Nat)(j:b.length<=100000)(f:∀(g:Zy)(w:N),(callFunc k g).run Zf w=.ok (.enter k g) w)
 (h:∀(c:N)(x:Int×T)(l:Zo)(m:Nat),Zb w c->x∈b->Calls Zf k #[.agg #[Y x.1,Y x.2.v,Y x.2.f,.slice l x.2.e.length m],P] c λe n=>e=.returned (.bool (p x))/\Zb c n) (i:xV (λ_=>True) w b a):
 Calls Zf 218 #[.slice a b.length d,.func (.func k) #[] #[P]] w λe c=>e=.returned (.bool (b.any p))/\Zb w c:=by
 have o:=X (SV d j f h i);clear h i f
 go_in
 go_wp2_with fail
 refine o.mono ?_;rintro e c ⟨⟨r,rfl,f⟩,h⟩;have i:=X f;have q:=X h;clear f h;go_wp2;go_ret;exact⟨vO i,q⟩
def tK(a:Zs):T->Bool
 |⟨v,_,b⟩=>if v=0 then touchedL b else a.any (λc=>c.1==v)
 where
 touchedL:Zt->Bool
  |[]=>false
  |t::d=>tK a t||touchedL d
def jEg(b:Zs)(a:Zt):tK.touchedL b a=a.any (tK b):=by
 induction a with
 |nil=>rfl
 |cons t a c=>rw[tK.touchedL,c,rE]
def DF(h:t.v=0):tK b t=t.e.any (tK b):=by cases t;rw[tK,jB h,jEg]
def DG(h:t.v≠0):tK b t=b.any (λa=>a.1==t.v):=by cases t;rw[tK,jC h]
theorem OX(a:Zy)(w:N):(callFunc 219 a).run Zf w=.ok (.enter 219 a) w:=by kernel_rfl
theorem OY(a:Zy)(w:N):(callFunc 221 a).run Zf w=.ok (.enter 221 a) w:=by kernel_rfl
def jEf(x:Int×T)(b:Zo)(c:Nat)(a:w.cell? (D k 0)=some (Y z)):
 Calls Zf 219 #[.agg #[Y x.1,Y x.2.v,Y x.2.f,.slice b x.2.e.length c],Zr k] w λe d=>e=.returned (.bool (x.1==z))/\Zb w d:=by
 have g:=kA a;have f:=X (λo=>jG w o);have h:=λo=>jP (jG w o) a;clear a
 go_in
 go_wp2;go_ret;exact⟨rfl,f _⟩
def jEh(M:b.length<=1000)(s:Nat):∀(t:T)(g:Zo)(h:Nat)(c:Zo)(d:Nat)(w:N),t.E<=s->t.E<=1000->xV (λ_=>True) w b c->InL w t.e g->
 Calls Zf 209 #[.slice c b.length d,.agg (Zj t g h)] w λl e=>l=.returned (.bool (tK b t))/\Zb w e:=by
 induction s with
 |zero=>intro t g h c d w O;have:=t.I;omega
 |succ s m=>
  intro t g h c d w Q R n u;obtain⟨v,a⟩:=Ze ((w.alloc (.cells #[Zk c b d] 232)).alloc (.cells (Zj t g h) 43));have f:Zb w v:=a▸kF _ _ _;have x:v.cell? (D w.heap.size 0)=some (Zk c b d):=by rw[a,kW (by simp)];exact jJ 0 rfl
  have J:jK v (w.heap.size+1) (Y t.v) (Y t.f) (Zk g t.e h):=by rw[a];exact jK.new _ (by simp)
  have E:=T.M t;have S:t.e.length<=1000:=by have:=T.length_le t.e;omega
  have G:=X a;have q:=X f;obtain⟨y,H,I,_,_,_⟩:=J;by_cases i:t.v=0
  .have j:=X (MX (k:=221) (P:=Zr w.heap.size) (p:=tK b) h (by omega) OY (λe z A B r k K=>by
    have L:=xJ k;have k:=jP r x;have C:=X (λo=>m z A B c d (e.alloc o) (by omega) (by omega) (gW (jG e o) (gW (f.trans (r.mono f.size)) n)) (jS o K));have K:=kA k;have U:=λo=>jP (jG e o) k;clear k m
    go_in
    go_wp2_with fail
    refine(C _).mono ?_;rintro l V ⟨rfl,k⟩;have o:=X ((jG e _).trans (k.mono (by simp)));clear k C;go_wp2;go_ret
    exact⟨rfl,o⟩) (jI f u))
   have o:=X (DF (b:=b) i);have K:(t.v !=0)=false:=(by simpa using i);rw[a] at x y H I;clear a f n u m E i
   go_in
   go_wp2_with fail
   rw[<-G.out];refine j.mono ?_;rintro l L ⟨rfl,k⟩;have C:=X (q.trans (k.mono q.size));clear k j;go_wp2;go_ret;exact⟨vO o.symm,C⟩
  have j:=X (MU d (by omega) OX (λe z A B r _=>jEf z A B (jP r y)) (gW f n));have o:=X (DG (b:=b) i);have K:(t.v !=0)=true:=by simpa using i
  rw[a] at x y H I;clear a f n u m E
  go_in
  go_wp2_with fail
  rw[<-G.out];refine j.mono ?_;rintro l L ⟨rfl,k⟩;have C:=X (q.trans (k.mono q.size));clear k j;go_wp2;go_ret;exact⟨vO o.symm,C⟩
def qA(p:Zp)(w:N):Zc->Zo->Prop
 |[],_=>True
 |x::e,f=>∃b a c g d h,f=some (D b a)/\p b/\w.cell? (D b a)=some (.bool x.1)/\w.cell? (D b (a+1))=some (Y x.2.1.v)/\w.cell? (D b (a+2))=some (Y x.2.1.f)/\w.cell? (D b (a+3))=some (.slice c x.2.1.e.length g)/\
   w.cell? (D b (a+4))=some (Y x.2.2.v)/\w.cell? (D b (a+5))=some (Y x.2.2.f)/\w.cell? (D b (a+6))=some (.slice d x.2.2.e.length h)/\jT p w x.2.1.e c/\jT p w x.2.2.e d/\qA p w e (some (D b (a+7)))
def dA:∀{c:Zc}{a:Zo},qA p w c a->kR w c a:=by
 intro c;induction c with
 |nil=>intro a _;trivial
 |cons x c b=>
  intro a h;obtain⟨d,e,f,g,i,j,rfl,_,k,l,m,n,o,q,r,i1,i2,s⟩:=h;exact⟨d,e,f,g,i,j,rfl,k,l,m,n,o,q,r,kQ (λ_ _=>trivial) i1,kQ (λ_ _=>trivial) i2,b s⟩
def xP(g:∀k,p k->k<w.heap.size->p1 k/\u.heap[k]? =w.heap[k]?):∀{e:Zc}{c:Zo},qA p w e c->qA p1 u e c:=by
 intro e;induction e with
 |nil=>intro c _;trivial
 |cons F e j=>
  intro c l;obtain⟨b,m,n,q,r,s,rfl,f,h,t,x,z,A,B,C,i1,i2,E⟩:=l;have i:∀{a:Zt}{y:Zo},jT p w a y->jT p1 u a y:=λa=>nM (λb o v f d=>⟨(g b f (kA d)).1,by rw[kH (w:=w) (a:=⟨b,o,none⟩) (g b f (kA d)).2];exact d⟩) _ _ _ (jF _) a;have a:∀{o:Nat}{v:Zv},w.cell? ⟨b,o,none⟩=some v->u.cell? ⟨b,o,none⟩=some v:=λ {o v}d=>by rw[kH (w:=w) (a:=⟨b,o,none⟩) (g b f (kA d)).2];exact d
  exact⟨b,m,n,q,r,s,rfl,(g b f (kA h)).1,a h,a t,a x,a z,a A,a B,a C,i i1,i i2,j E⟩
def nA(b:Zb w u)(h:qA p w c a):qA p u c a:=xP (λk d e=>⟨d,b.block k e⟩) h
def nR(b:∀k,p k->p1 k)(h:qA p w c a):qA p1 w c a:=xP (λk d _=>⟨b k d,rfl⟩) h
def Bn:∀{c:Zc}{a:Zo},kR w c a->qA (λk=>k<w.heap.size) w c a:=by
 intro c;induction c with
 |nil=>intro a _;trivial
 |cons x c d=>
  intro a h;obtain⟨e,f,g,i,j,l,rfl,b,m,n,o,p,q,r,i1,i2,s⟩:=h;exact⟨e,f,g,i,j,l,rfl,kA b,b,m,n,o,p,q,r,kQ (λ_ h=>h.2) (lE i1),kQ (λ_ h=>h.2) (lE i2),d s⟩
def uZ:∀{c:Zc}{b a k:Nat}{x:Lit},qA p w c (some (D b a))->c[k]? =some x->
 ∃d f e g,p b/\w.cell? (D b (a+k*7))=some (.bool x.1)/\w.cell? (D b (a+k*7+1))=some (Y x.2.1.v)/\w.cell? (D b (a+k*7+2))=some (Y x.2.1.f)/\w.cell? (D b (a+k*7+3))=some (.slice d x.2.1.e.length f)/\
  w.cell? (D b (a+k*7+4))=some (Y x.2.2.v)/\w.cell? (D b (a+k*7+5))=some (Y x.2.2.f)/\w.cell? (D b (a+k*7+6))=some (.slice e x.2.2.e.length g)/\jT p w x.2.1.e d/\jT p w x.2.2.e e:=by
 intro c;induction c with
 |nil=>intro b a k x _ h;simp at h
 |cons z c l=>
  intro b a k x h i;obtain⟨A,B,d,f,e,g,j,m,n,o,q,r,s,t,u,i1,i2,v⟩:=h;simp only[qW,fG] at j;obtain⟨rfl,rfl,_⟩:=j
  cases k with
  |zero=>
   simp at i;subst i;exact⟨d,f,e,g,m,by simpa using n,by simpa using o,by simpa using q,by simpa using r,by simpa using s,by simpa using t,by simpa using u,i1,i2⟩
  |succ k=>
   have y:=l v (by simpa using i);rw[show a+(k+1)*7=a+7+k*7 by omega];exact y
def bE(p:Zp)(w:N):Zc->Zu->Prop
 |[],a=>a=[]
 |x::e,a=>∃b f c g d,a=.bool x.1::Y x.2.1.v::Y x.2.1.f:: .slice b x.2.1.e.length f::Y x.2.2.v::Y x.2.2.f:: .slice c x.2.2.e.length g::d/\jT p w x.2.1.e b/\jT p w x.2.2.e c/\bE p w e d
def Bd:∀{a b:Zu},bE p w c a->bE p w d b->bE p w (c++d) (a++b):=by
 induction c with
 |nil=>intro a b e f;rw[show a=[] from e];exact f
 |cons x c g=>
  intro a b e f;obtain⟨h,i,j,k,l,rfl,m,n,o⟩:=e;exact⟨h,i,j,k,l++b,rfl,m,n,g o f⟩
def gL(f:∀k,p k->k<w.heap.size->p1 k/\u.heap[k]? =w.heap[k]?):∀{b:Zu},bE p w c b->bE p1 u c b:=by
 induction c with
 |nil=>intro b h;exact h
 |cons x c j=>
  intro b h;obtain⟨l,m,n,o,q,rfl,r,s,h⟩:=h;have g:∀{d:Zt}{y:Zo},jT p w d y->jT p1 u d y:=λt=>nM (λd v e i e=>⟨(f d i (kA e)).1,by rw[kH (w:=w) (a:=(D d v)) (f d i (kA e)).2];exact e⟩) _ _ _ (jF _) t;exact⟨l,m,n,o,q,rfl,g r,g s,j h⟩
def Mn(e:p k):∀{b:Nat}{d:Zu},bE p w c d->(∀j u,d[j]? =some u->w.cell? (D k (b+j))=some u)->qA p w c (some (D k b)):=by
 induction c with
 |nil=>intro b d _ _;trivial
 |cons x c f=>
  intro b d h a;obtain⟨g,i,l,m,r,rfl,n,o,h⟩:=h;refine⟨k,b,g,i,l,m,rfl,e,a 0 _ rfl,a 1 _ rfl,a 2 _ rfl,a 3 _ rfl,a 4 _ rfl,a 5 _ rfl,a 6 _ rfl,n,o,f h λj u q=>?_⟩;rw[show b+7+j=b+(j+7) from by omega];exact a (j+7) u (by simpa using q)
def pP(q:Zp)(a:Nat)(w:N)(l:Zv)(c:Zc):Prop:=
 ∃b,w.ownsRow a 47 7 l c.length b/\bE (λk=>(q k\/a<=k)/\l.ownBlock≠some k) w c b
def GN:pP p k w (Zd) []:=⟨[],⟨rfl,jD ⟨rfl,rfl⟩⟩,rfl⟩
def GO{l:Zv}(h:pP p k w l c)(d:∀a,(p a\/k<=a)->a<w.heap.size->u.heap[a]? =w.heap[a]?):pP p k u l c:=by
 obtain⟨f,b,i⟩:=h;exact⟨f,vT b (λg e=>d g (jE (kO b g e).1) (kO b g e).2),gL (λa e g=>⟨e,d a e.1 g⟩) i⟩
def Nb{l:Zv}(h:pP p k w l c)(a:Zb w u):pP p k u l c:=GO h (λb _ d=>a.block b d)
def Su{l:Zv}{x:Lit}(g:bE (λb=>(p b\/k<=b)/\l.ownBlock≠some b) w c U)
 (h:jT (λb=>(p b\/k<=b)/\l.ownBlock≠some b) w x.2.1.e a) (o:jT (λb=>(p b\/k<=b)/\l.ownBlock≠some b) w x.2.2.e a1)
 (q:u.ownsRow k 47 7 (Zx i (c.length+1) j) (c.length+1) (U++[.bool x.1,Y x.2.1.v,Y x.2.1.f,.slice a x.2.1.e.length n,Y x.2.2.v,Y x.2.2.f,.slice a1 x.2.2.e.length m])) (r:w.grownBy u l.ownBlock) (d:l.ownBlock=some i\/i=w.heap.size):
 pP p k u (Zx i (c.length+1) j) (c++[x]):=by
 refine⟨_,by rw[qB];exact q,gL (λb e f=>⟨⟨e.1,?_⟩,r.block b f (λf=>e.2 f.symm)⟩) (Bd g ⟨a,n,a1,m,[],rfl,h,o,rfl⟩)⟩;rcases d with d|d
 .rw[show(Value.slice (some (D i 0)) (c.length+1) j).ownBlock=some i from rfl,<-d];exact e.2
 show some i≠some b;intro f;cases f;omega
def Eu{l:Zv}(h:pP p k w l c):∃a b,l=.slice a c.length b/\qA (λd=>p d\/k<=d) w c a:=by
 obtain⟨o,e,f⟩:=h;by_cases g:0<c.length
 .obtain⟨q,b,rfl,i,r,j⟩:=fX e g
  exact⟨_,b,rfl,Mn (jE i) (gL (λd m _=>⟨m.1,rfl⟩) f) (λm u n=>by rw[kK];exact j m u n)⟩
 obtain⟨a,m,rfl⟩:=zF e;have:c=[]:=yM.1 (by omega);subst this;exact⟨a,m,rfl,trivial⟩
theorem Tryz.info47:(Zf.info? 47).map (λi=>(i.zero,i.size,i.bytes))=some (some (.agg #[.bool false,Y 0,Y 0,Zd,Y 0,Y 0,Zd]),7,88):=by kernel_rfl
def eW(w:N)(x:Zv)(m:Nat)(a:Zu):Prop:=
 (x=Zd/\m=0/\a=[])\/∃b c d,x=Zz b c m d/\a.length=m*7/\(∀j u,a[j]? =some u->w.cell? (D b (c+j))=some u)/\∀u,u∈a->u.oneCell'=true
def jAn{v x:Zv}(c:TypeId)(d:w.ownsRow k 47 7 v n U)(l:eW w x m V)(H:n+m<=200000)(o:k<=w.heap.size):
 ∃a b,(Builtin.append_ #[39,39] c #[v,x]).run Zf w=.ok a b/\b.ownsRow k 47 7 a (n+m) (U++V)/\w.grownBy b v.ownBlock/\(a.ownBlock=v.ownBlock\/a.ownBlock=some w.heap.size):=by
 obtain⟨i,g,h⟩:=bQ.1 Tryz.info47;simp only[bG] at h;obtain⟨p,q,r⟩:=h;rcases l with⟨rfl,rfl,rfl⟩|⟨e,f,s,rfl,t,u,y⟩
 .rw[zU]
  exact⟨v,w,run_append_owned_none w k 39 c 47 i 7 Go.Proofs.Tryz.underlying39 g _ _ _ d,d,⟨rfl,rfl,rfl,jF _,λ_ _ _=>rfl⟩,jD rfl⟩
 obtain⟨a,b,z,A,B,_,C⟩:=run_append_own_at w k 39 c 47 i (.agg #[.bool false,Y 0,Y 0,Zd,Y 0,Y 0,Zd]) 7 88 Go.Proofs.Tryz.underlying39 g p q r rfl (by decide) v n U d (D e f) m s V t (λj E F=>by
  have G:((D e f):Addr).add j=(D e (f+j)):=by simp[Addr.add]
  rw[G];exact u j E F) y (by unfold maxLen;omega) (by omega) o
 exact⟨a,b,z,A,B,C⟩
def EA{o:Oper}{c:Act}{K:Act->N->Prop}{Q:Exit->Act->N->Prop}(s x:Operand)(e:o.op=.call {callee:=.builtin .append,args:=#[s,x],argTypes:=#[39,39]}){v:Zv}(f:c.eval s=v)(g:w.ownsRow k 47 7 v n U){d:Zv}(h:c.eval x=d)(i:eW w d m V)(j:n+m<=200000)(l:k<=w.heap.size)
 (p:∀a b,b.ownsRow k 47 7 a (n+m) (U++V)->w.grownBy b v.ownBlock->(a.ownBlock=v.ownBlock\/a.ownBlock=some w.heap.size)->K (c.put o.dst a) b):o.wp Zf c w K Q:=by
 obtain⟨a,b,q,r,t,u⟩:=jAn o.type g i j l;unfold Oper.wp execOp;simp only[e,resolve,invoke,builtin,Sem.run_bind,Sem.run_pure,oH,List.map_toArray,yI,List.map_nil,f,h,q];exact p a b r t u
def Lv{d:Array Oper}{e:List Oper}{o:Oper}{c:Act}{Q:Exit->Act->N->Prop}(g:o.guard=none)(s x:Operand)(h:o.op=.call {callee:=.builtin .append,args:=#[s,x],argTypes:=#[39,39]}){v:Zv}(i:c.eval s=v)(j:w.ownsRow k 47 7 v n U){f:Zv}(l:c.eval x=f)(p:eW w f m V)(q:n+m<=200000)(r:k<=w.heap.size)
 (t:∀a b,b.ownsRow k 47 7 a (n+m) (U++V)->w.grownBy b v.ownBlock->(a.ownBlock=v.ownBlock\/a.ownBlock=some w.heap.size)->wpList Zf d Q e (c.put o.dst a) b):wpList Zf d Q (o::e) c w:=
 wpList_plain g λ_ u=>EA s x h i j l p q r λa b y z A=>u _ _ (t a b y z A)
def jDs{e:Array Oper}{o:Oper}{a:Act}{K:Act->N->Prop}{Q:Exit->Act->N->Prop}{E:Prop}(i:o.guard=none)(s x:Operand)(j:o.op=.call {callee:=.builtin .append,args:=#[s,x],argTypes:=#[39,39]})
 (c n m:Nat) (v:Zv) (f g:Zu) (k:a.eval s=v) (l:w.ownsRow c 47 7 v n f) (h:Zv) (p:a.eval x=h) (q:eW w h m g) (r:n+m<=200000) (t:c<=w.heap.size)
 (u:∀b d,d.ownsRow c 47 7 b (n+m) (f++g)->w.grownBy d v.ownBlock->(b.ownBlock=v.ownBlock\/b.ownBlock=some w.heap.size)->K (a.put o.dst b) d):
 if Region.wanted o (yielded e a.tmps)=true then Oper.wp Zf o a w K Q else E:=by
 have y:Region.wanted o (yielded e a.tmps)=true:=by simp[Region.wanted,i]
 rw[jB y];exact EA s x j k l p q r t u
def tG(k l:Lit):Bool:=kS k.2.1 l.2.1 && kS k.2.2 l.2.2||kS k.2.1 l.2.2 && kS k.2.2 l.2.1
def lP(k l:Lit):Bool:=k.1==l.1 && tG k l
structure L7 (w:N) (b o:Nat) (x:Lit) (a1:Zo) (c1:Nat) (a2:Zo) (c2:Nat):Prop where
 e0:w.cell? (D b o)=some (.bool x.1)
 e1:w.cell? (D b (o+1))=some (Y x.2.1.v)
 e2:w.cell? (D b (o+2))=some (Y x.2.1.f)
 e3:w.cell? (D b (o+3))=some (.slice a1 x.2.1.e.length c1)
 e4:w.cell? (D b (o+4))=some (Y x.2.2.v)
 e5:w.cell? (D b (o+5))=some (Y x.2.2.f)
 e6:w.cell? (D b (o+6))=some (.slice a2 x.2.2.e.length c2)
def L7.below{x:Lit}(h:L7 w k n x a m a1 i)(b:Zb w u):L7 u k n x a m a1 i:=
 ⟨jH b h.e0,jH b h.e1,jH b h.e2,jH b h.e3,jH b h.e4,jH b h.e5,jH b h.e6⟩
def L7.new{x:Lit}(e:TypeId)(b:m=w.heap.size):L7 (w.alloc (.cells #[.bool x.1,Y x.2.1.v,Y x.2.1.f,.slice a x.2.1.e.length k,Y x.2.2.v,Y x.2.2.f,.slice a1 x.2.2.e.length n] e)) m 0 x a k a1 n:=
 ⟨jJ 0 b,jJ 1 b,jJ 2 b,jJ 3 b,jJ 4 b,jJ 5 b,jJ 6 b⟩
abbrev lM(x:Lit)(a:Zo)(b:Nat)(c:Zo)(d:Nat):Zv:=.agg #[.bool x.1,Y x.2.1.v,Y x.2.1.f,.slice a x.2.1.e.length b,Y x.2.2.v,Y x.2.2.f,.slice c x.2.2.e.length d]
def xO(x:Lit):Prop:=x.2.1.E<=1000/\x.2.2.E<=1000
def Ub{p:Lit->Bool}{x:Lit}(a:c[k]? =some x)(h:(c.take k).any p=false):(p x=false->(c.take (k+1)).any p=false)/\(p x=true->c.any p=true):=by
 have d:=(Zl a);constructor
 .intro b
  rw[vZ,a,uT,h];simpa using b
 intro b;rw[mW];exact⟨x,jU a,b⟩
def Qi(k l:Lit)(r:Zo)(y:Nat)(s:Zo)(z:Nat)(t:Zo)(A:Nat)(u:Zo)(B:Nat)(w:N)(C:xO k)(i1:InL w k.2.1.e r)(i2:InL w k.2.2.e s)(G:InL w l.2.1.e t)(H:InL w l.2.2.e u):
 Calls Zf 130 #[lM k r y s z,lM l t A u B] w λq a=>q=.returned (.bool (tG k l))/\Zb w a:=by
 obtain⟨b,v⟩:=Ze ((w.alloc (.cells #[.bool k.1,Y k.2.1.v,Y k.2.1.f,Zk r k.2.1.e y,Y k.2.2.v,Y k.2.2.f,Zk s k.2.2.e z] 47)).alloc (.cells #[.bool l.1,Y l.2.1.v,Y l.2.1.f,Zk t l.2.1.e A,Y l.2.2.v,Y l.2.2.f,Zk u l.2.2.e B] 47));have I:Zb w b:=v▸kF _ _ _;have aa:b.heap.size=w.heap.size+2:=by rw[v];simp
 have Q:L7 b w.heap.size 0 k r y s z:=by rw[v];exact(L7.new _ rfl).below (jG _ _)
 have R:L7 b (w.heap.size+1) 0 l t A u B:=by rw[v];exact L7.new _ (by simp)
 have E:=X (λ(a:N)(x:Zb b a)=>jM (Q.below x) (R.below x))
 have HS:=X (λ(a:N)(x:Zb b a)=>(show Calls Zf _ _ a _/\Calls Zf _ _ a _/\Calls Zf _ _ a _/\Calls Zf _ _ a _ from
  have c:=I.trans (x.mono (by omega))
  ⟨iP k.2.1.E k.2.1 l.2.1 r y t A a (jF _) C.1 (jI c i1) (jI c G),iP k.2.2.E k.2.2 l.2.2 s z u B a (jF _) C.2 (jI c i2) (jI c H),
   iP k.2.1.E k.2.1 l.2.2 r y u B a (jF _) C.1 (jI c i1) (jI c H),iP k.2.2.E k.2.2 l.2.1 s z t A a (jF _) C.2 (jI c i2) (jI c G)⟩))
 have F:=X (λ(a:N)(x:Zb b a)=>I.trans (x.mono (by omega)));obtain⟨S,J⟩:=Ze (kS k.2.1 l.2.1);obtain⟨U,K⟩:=Ze (kS k.2.2 l.2.2);obtain⟨L,M⟩:=Ze (kS k.2.1 l.2.2);obtain⟨ab,O⟩:=Ze (kS k.2.2 l.2.1);have V:tG k l=(S && U||L && ab):=by rw[tG,<-J,<-K,<-M,<-O]
 rw[<-J,<-K,<-M,<-O] at HS;rw[V];have W:=X v;have P:=X (jW b.heap.size b);obtain⟨⟨c,d,e,f,g,h,i⟩,⟨j,q1,q2,m,n,o,p⟩⟩:=E b P;have Z:=X (HS b P);clear I aa Q R v J K M O V C i1 i2 G H
 go_in
 go_wp2_with fail
 rw[<-W.out];refine Z.1.mono ?_;rintro q I ⟨rfl,C⟩;have v:=X C;clear C W c d e f g h i j q1 q2 m n o p Z P;obtain⟨⟨c,d,e,f,g,h,i⟩,⟨j,q1,q2,m,n,o,p⟩⟩:=E I v;have H:=X (HS I v)
 cases S with
 |true=>
  go_wp2_with fail
  refine H.2.1.mono ?_;rintro q J ⟨rfl,G⟩;have C:=X (v.trans (G.mono v.size));clear G H c d e f g h i j q1 q2 m n o p;obtain⟨⟨c,d,e,f,g,h,i⟩,⟨j,q1,q2,m,n,o,p⟩⟩:=E J C;have K:=X (HS J C)
  cases U with
  |true=>
   have G:=X (F _ C);go_wp2;go_ret;exact⟨rfl,G⟩
  |false=>
   go_wp2_with fail
   refine K.2.2.1.mono ?_;rintro q M ⟨rfl,O⟩;have G:=X (C.trans (O.mono C.size));clear O K c d e f g h i j q1 q2 m n o p;obtain⟨⟨c,d,e,f,g,h,i⟩,⟨j,q1,q2,m,n,o,p⟩⟩:=E M G;have K:=X (HS M G)
   cases L with
   |false=>
    have O:=X (F _ G);go_wp2;go_ret;exact⟨rfl,O⟩
   |true=>
    go_wp2_with fail
    refine K.2.2.2.mono ?_;rintro q Q ⟨rfl,O⟩;have P:=X (F _ (G.trans (O.mono G.size)));clear O K;go_wp2;go_ret;exact⟨by simp,P⟩
 |false=>
  go_wp2_with fail
  refine H.2.2.1.mono ?_;rintro q G ⟨rfl,J⟩;have C:=X (v.trans (J.mono v.size));clear J H c d e f g h i j q1 q2 m n o p;obtain⟨⟨c,d,e,f,g,h,i⟩,⟨j,q1,q2,m,n,o,p⟩⟩:=E G C;have H:=X (HS G C)
  cases L with
  |false=>
   have J:=X (F _ C);go_wp2;go_ret;exact⟨rfl,J⟩
  |true=>
   go_wp2_with fail
   refine H.2.2.2.mono ?_;rintro q M ⟨rfl,J⟩;have K:=X (F _ (C.trans (J.mono C.size)));clear J H;go_wp2;go_ret;exact⟨by simp,K⟩
def SY{P:Zv}{p:Lit->Bool}(v:Nat)(J:c.length<=100000)(K:∀(q:Zy)(w:N),(callFunc k q).run Zf w=.ok (.enter k q) w)
 (b:∀(d:N)(x:Lit)(f:Zo)(n:Nat)(g:Zo)(o:Nat),Zb w d->x∈c->InL d x.2.1.e f->InL d x.2.2.e g->Calls Zf k #[lM x f n g o,P] d λh y=>h=.returned (.bool (p x))/\Zb d y) (e:kR w c a):
 Calls Zf 40 #[.slice a c.length v,.func (.func k) #[] #[P]] w λh d=>(∃i:Int,h=.returned (Y i)/\decide (0<=i)=c.any p)/\Zb w d:=by
 have r:=X e;have z:=X b;clear e b
 go_in
 go_wp2
 go_loopw [8] (λi wr=>∃b:Nat,b<=c.length/\i=Y b/\Hid ((c.take b).any p=false)/\Hid (Zb w wr)) (λi _=>c.length - (intOf i).toNat)
 case atStart=>exact⟨0,jY _,rfl,rfl,jW _ _⟩
 case round=>
  obtain⟨b,L,rfl,j,e⟩:=hrel;by_cases A:b<c.length
  .obtain⟨M,O,rfl⟩:=zN r (by omega)
   obtain⟨x,l⟩:=Zg A;obtain⟨f,n,g,o,B,C,E,F,G,H,I,s,t⟩:=dZ (kL e r) l;have m:=X (Ub l j);have u:=X (z wr x f n g o e (jU l) s t);have Q:(b:Int)<c.length:=(by omega);have R:(0:Int)<=b:=(by omega);clear l s t j
   go_wp2_with fail
   refine u.mono ?_;rintro h d ⟨rfl,l⟩;have s:=X (e.trans (l.mono e.size));clear l u B C E F G H I
   cases hd:p x with
   |false=>
    have l:=X (m.1 hd);clear m hd
    go_wp2_with fail
    go_roundw
    case rel=>exact⟨b+1,by omega,by go_num,l,s⟩
    case measure=>simp[intOf];omega
   |true=>
    have l:=X (m.2 hd);clear m hd;go_wp2;go_ret;exact⟨⟨b,rfl,by rw[l.out];simp⟩,s⟩
  have l:b=c.length:=by omega
  subst l;rw[qU] at j;go_wp2;go_ret;exact⟨⟨-1,rfl,by rw[j.out];rfl⟩,e⟩
def Fk{P:Zv}{p:Lit->Bool}(d:Nat)(m:c.length<=100000)(f:∀(g:Zy)(w:N),(callFunc k g).run Zf w=.ok (.enter k g) w)
 (h:∀(b:N)(x:Lit)(i:Zo)(n:Nat)(j:Zo)(o:Nat),Zb w b->x∈c->InL b x.2.1.e i->InL b x.2.2.e j->Calls Zf k #[lM x i n j o,P] b λe q=>e=.returned (.bool (p x))/\Zb b q) (l:kR w c a):
 Calls Zf 20 #[.slice a c.length d,.func (.func k) #[] #[P]] w λe b=>e=.returned (.bool (c.any p))/\Zb w b:=by
 have r:=X (SY d m f h l);clear h l f
 go_in
 go_wp2_with fail
 refine r.mono ?_;rintro e b ⟨⟨t,rfl,f⟩,h⟩;have l:=X f;have s:=X h;clear f h;go_wp2;go_ret;exact⟨vO l,s⟩
theorem OK(a:Zy)(w:N):(callFunc 145 a).run Zf w=.ok (.enter 145 a) w:=by kernel_rfl
def WX{b l:Lit}(e:Nat)(f:Nat)(o:xO b)(i1:InL w b.2.1.e a)(i2:InL w b.2.2.e a1)(g:L7 w m 0 l a2 k a3 n)(p:InL w l.2.1.e a2)(q:InL w l.2.2.e a3):
 Calls Zf 145 #[lM b a e a1 f,Zr m] w λr v=>r=.returned (.bool (lP b l))/\Zb w v:=by
 obtain⟨h,d⟩:=Ze (w.alloc (.cells #[.bool b.1,Y b.2.1.v,Y b.2.1.f,Zk a b.2.1.e e,Y b.2.2.v,Y b.2.2.f,Zk a1 b.2.2.e f] 47));have c:Zb w h:=d▸jG _ _;have x:L7 h w.heap.size 0 b a e a1 f:=d▸L7.new _ rfl;have y:=g.below c;have HS:=X (Qi b l a e a1 f a2 k a3 n h o (jI c i1) (jI c i2) (jI c p) (jI c q));have s:=X d;have i:=X c;obtain⟨z,A,B,C,E,F,G⟩:=x;obtain⟨H,q1,q2,I,J,K,L⟩:=y;obtain⟨Z,j⟩:=Ze (tG b l);have t:lP b l=(b.1==l.1 && Z):=by rw[lP,<-j]
 rw[t];rw[<-j] at HS;have u:=g.e0;have M:=kA u;rw[d] at z A B C E F G H q1 q2 I J K L;clear d c g t j o i1 i2 p q u
 go_in
 cases g:(b.1==l.1) with
 |true=>
  go_wp2_with fail
  rw[<-s.out];refine HS.mono ?_;rintro r j ⟨rfl,c⟩;have d:=X (i.trans (c.mono i.size));clear c HS;go_wp2;go_ret;exact⟨by simp,d⟩
 |false=>
  go_wp2;go_ret;rw[<-s.out];exact⟨by simp,i⟩
def CP{a b c d e f h:Zv}(i:k=w.heap.size):∀(j:Nat)(u:Zv),[a,b,c,d,e,f,h][j]? =some u->
 (w.alloc (.cells #[a,b,c,d,e,f,h] g)).cell? (((D k 0):Addr).add j)=some u:=by
 intro j u l;have m:((D k 0):Addr).add j=(D k j):=by simp[Addr.add];omega
 rw[m,jJ j i];simpa using l
def tV(a:Zc)(l:Lit):Bool:= !(a.any (λk=>lP k l)) && (l.1|| !kS l.2.1 l.2.2)
def qQ:Zc->Zc->Zc
 |a,[]=>a
 |a,l::r=>qQ (if tV a l then a++[l] else a) r
def WR{x:Lit}(a:d[k]? =some x):qQ c (d.drop k)=qQ (if tV c x then c++[x] else c) (d.drop (k+1)):=by
 have b:=(Zl a);rw[pN b];have:=(jZ.1 a).2;rw[this,qQ]
def Yq:∀{c b:Zc}{x:Lit},x∈qQ b c->x∈b\/x∈c:=by
 intro c;induction c with
 |nil=>intro b x h;exact jD h
 |cons l r e=>
  intro b x h;rcases e h with a|a
  .split at a
   .rcases vD.1 a with d|d
    .exact jD d
    simp at d;subst d;exact jE vX
   exact jD a
  exact jE (vG _ a)
def Fy:∀{c a:Zc},(qQ a c).length<=a.length+c.length:=by
 intro c;induction c with
 |nil=>intro a;exact jF _
 |cons l r b=>
  intro a;have:=b (a:=if tV a l then a++[l] else a);rw[qQ,xI];split at this
  .rename_i h;rw[jB h];rw[qB,Ir] at this;omega
  rename_i h;rw[jC h];omega
def Yr(cc:Nat)(hl:c.length<=1000)(b:∀x,x∈c->xO x)(d:kR w c a):
 Calls Zf 109 #[.slice a c.length cc] w λe i=>∃O al,e=.returned (.slice O (qQ [] c).length al)/\qA (λ_=>True) i (qQ [] c) O/\Zb w i:=by
 obtain⟨P,Q,R⟩:=bQ.1 Tryz.info47;simp only[bG] at R;obtain⟨S,U,V⟩:=R;have W:=X d;have Z:=X b;clear d b
 go_in
 go_wp2
 go_loopw [3,9] (λl d wr=>∃(k:Nat)(b:Zc),k<=c.length/\d=Y k/\b.length<=k/\Hid (qQ b (c.drop k)=qQ [] c)/\Hid (∀x,x∈b->x∈c)/\pP (λj=>j<w.heap.size) w.heap.size wr l b/\yS w wr none l.ownBlock) (λ_ d _=>c.length - (intOf d).toNat)
 case atStart=>exact⟨0,[],jY _,rfl,jF _,rfl,(λx m=>by cases m),GN,yS.refl _ _⟩
 case round=>
  obtain⟨k,b,hk,rfl,a1,s,H,f,d⟩:=hrel;have I:=X f;have am:=X d;have a2:=d.gr.size;have t:=d.below (jF _) (λg A=>by cases A);clear f d;by_cases an:k<c.length
  .obtain⟨x,m⟩:=Zg an
   obtain⟨ao,a3,rfl⟩:=zN W (by omega);obtain⟨n,B,o,C,_,M,k1,k2,k3,k4,k5,k6,i1,i2⟩:=uZ (nA t (Bn W)) m;have a4:(k:Int)<c.length:=(by omega);have a5:(0:Int)<=k:=(by omega);have r:=X (WR (c:=b) m);have aa:=X (jU m);obtain⟨J,p⟩:=Ze (wr.alloc (.cells #[.bool x.1,Y x.2.1.v,Y x.2.1.f,Zk n x.2.1.e B,Y x.2.2.v,Y x.2.2.f,Zk o x.2.2.e C] 47));have ab:=X p;have d:Zb wr J:=p▸jG _ _;have q:L7 J wr.heap.size 0 x n B o C:=p▸L7.new _ rfl;obtain⟨j,f,ap,u⟩:=Eu (Nb I d);have ac:=X (kQ (λ_ _=>trivial) i1);have ad:=X (kQ (λ_ _=>trivial) i2);have v:=X (Fk f (by omega) OK (λi y h l h z h K E F=>WX l z (Z y (H y K)) E F (q.below h) (jI (d.trans (h.mono d.size)) ac) (jI (d.trans (h.mono d.size)) ad)) (dA u));have ae:=X i1;have af:=X i2;subst ap;obtain⟨ag,z⟩:=Ze (b.any (λk=>lP k x));obtain⟨ah,E⟩:=Ze (kS x.2.1 x.2.2);have l:Hid (tV b x=(!ag && (x.1|| !ah))):=(by show _=_;rw[tV,<-z,<-E]);rw[<-z] at v;have HT:=X (λ(i:N)(h:Zb J i)=>iP x.2.1.E x.2.1 x.2.2 n B o C i (jF _) (Z x aa).1 (jI (d.trans (h.mono d.size)) ac) (jI (d.trans (h.mono d.size)) ad));rw[<-E] at HT;have ai:=X (λ(i:N)(h:Zb J i)=>q.below h);have aj:=X d;have a6:ao<wr.heap.size:=(by have:=kA M;exact this);clear p z E m d q u i1 i2
   go_wp2_with fail
   rw[<-ab.out];refine v.mono ?_;rintro e p ⟨rfl,d⟩;have L:=X d;have q:=X (aj.trans (d.mono aj.size));have E:=X (Nb I q);have F:=X (am.trans (yS.A _ q));obtain⟨G,p1,p2,p3,p4,p5,p6⟩:=ai p d;clear d v M k1 k2 k3 k4 k5 k6 ab;have v:Hid (tV b x=true->qQ (b++[x]) (c.drop (k+1))=qQ [] c):=λh=>by
    have d:=r.out;rw[jB h] at d;rw[<-d];exact s
   have z:Hid (tV b x=false->qQ b (c.drop (k+1))=qQ [] c):=λh=>by
    have d:=r.out;rw[h,jC (by simp)] at d;rw[<-d];exact s
   have ab:Hid (∀y,y∈b++[x]->y∈c):=λy K=>by
    rcases vD.1 K with h|h
    .exact H y h
    simp at h;subst h;exact aa
   clear r s
   cases ag with
   |true=>
    have d:=X (z (by rw[l.out];rfl));clear l z v
    go_wp2_with fail
    go_roundw
    case rel=>exact⟨k+1,b,by omega,by go_num,by omega,d,H,E,F⟩
    case measure=>simp[intOf];omega
   |false=>
    cases m:x.1 with
    |true=>
     rw[m] at G;have ak:=X (v (by rw[l.out,m];rfl));have aq:=X E;have ar:=X (t.trans (q.mono t.size));have au:=X F;clear l z v E F;obtain⟨xs,y,av⟩:=aq;have HO:=X (λo1=>vT y (λg A=>(jG p o1).block g (kO y g A).2));have aw:Hid (jT (λd=>(d<w.heap.size\/w.heap.size<=d)/\(Value.slice j b.length f).ownBlock≠some d) p x.2.1.e n):=kQ (λd r=>⟨jD r,λe=>by have h9:=(kO y d e).1;have h8:d<w.heap.size:=r;omega⟩) (jI q ae);have ax:Hid (jT (λd=>(d<w.heap.size\/w.heap.size<=d)/\(Value.slice j b.length f).ownBlock≠some d) p x.2.2.e o):=kQ (λd r=>⟨jD r,λe=>by have h9:=(kO y d e).1;have h8:d<w.heap.size:=r;omega⟩) (jI q af);have a7:=ar.size
     go_wp2_with (at_builtin
                  go_must (refine wpList_append_lies _ rfl (.tmp 30) (.tmp 32) 39 rfl w.heap.size 47 P (.agg #[.bool false,Y 0,Y 0,Zd,Y 0,Y 0,Zd]) 7 88 Go.Proofs.Tryz.underlying39 Q S U V rfl (by decide) (Zk j b f) b.length xs rfl (HO _) (D p.heap.size 0) 1 1 [.bool true,Y x.2.1.v,Y x.2.1.f,Zk n x.2.1.e B,Y x.2.2.v,Y x.2.2.f,Zk o x.2.2.e C] rfl rfl (CP (by first|rfl|simp)) (by simp[Value.oneCell']) (by decide) (by unfold maxLen;omega) (by omega) (by simp;omega) _ rfl ?_)
                  intro g az w3 ay K M a0)
     have az:=Su (gL (λd r a0=>⟨r,(jG p _).block d a0⟩) av) (jS _ aw) (jS _ ax) (m▸ay) K (M.imp id (λh=>by rw[h]))
     have d:=au.trans ((yS.A _ (jG _ _)).trans ⟨K,by
      rcases M with h|h
      .exact jD h.symm
      exact jE ⟨g,rfl,by rw[h];simp⟩⟩)
     go_roundw
     case rel=>exact⟨k+1,b++[x],by omega,by go_num,by simp;omega,ak,ab,az,d⟩
     case measure=>simp[intOf];omega
    |false=>
     rw[m] at G;have ak:=X (HT p L)
     go_wp2_with fail
     refine ak.mono ?_;rintro e r ⟨rfl,d⟩;have aq:=X (L.trans (d.mono L.size));have y:=X (q.trans (d.mono q.size));have K:=X (Nb E d);have M:=X (F.trans (yS.A _ d));clear d ak G p1 p2 p3 p4 p5 p6 E F
     cases ah with
     |true=>
      have d:=X (z (by rw[l.out,m];rfl));clear l z v
      go_wp2_with fail
      go_roundw
      case rel=>exact⟨k+1,b,by omega,by go_num,by omega,d,H,K,M⟩
      case measure=>simp[intOf];omega
     |false=>
      obtain⟨G,p1,p2,p3,p4,p5,p6⟩:=ai r aq;rw[m] at G;have E:=X (v (by rw[l.out,m];rfl));have F:=X K;have ak:=X (t.trans (y.mono t.size));have ar:=X M;clear l z v K M;obtain⟨K,v,M⟩:=F;have HO:=X (λo1=>vT v (λg A=>(jG r o1).block g (kO v g A).2));have au:Hid (jT (λd=>(d<w.heap.size\/w.heap.size<=d)/\(Value.slice j b.length f).ownBlock≠some d) r x.2.1.e n):=kQ (λd l=>⟨jD l,λe=>by have h9:=(kO v d e).1;have h8:d<w.heap.size:=l;omega⟩) (jI y ae);have av:Hid (jT (λd=>(d<w.heap.size\/w.heap.size<=d)/\(Value.slice j b.length f).ownBlock≠some d) r x.2.2.e o):=kQ (λd l=>⟨jD l,λe=>by have h9:=(kO v d e).1;have h8:d<w.heap.size:=l;omega⟩) (jI y af);have az:=ak.size
      go_wp2_with (at_builtin
                   go_must (refine wpList_append_lies _ rfl (.tmp 30) (.tmp 32) 39 rfl w.heap.size 47 P (.agg #[.bool false,Y 0,Y 0,Zd,Y 0,Y 0,Zd]) 7 88 Go.Proofs.Tryz.underlying39 Q S U V rfl (by decide) (Zk j b f) b.length K rfl (HO _) (D r.heap.size 0) 1 1 [.bool false,Y x.2.1.v,Y x.2.1.f,Zk n x.2.1.e B,Y x.2.2.v,Y x.2.2.f,Zk o x.2.2.e C] rfl rfl (CP (by first|rfl|simp)) (by simp[Value.oneCell']) (by decide) (by unfold maxLen;omega) (by omega) (by simp;omega) _ rfl ?_)
                   intro g ax w3 aw z A ay)
      have ax:=Su (gL (λd l ay=>⟨l,(jG r _).block d ay⟩) M) (jS _ au) (jS _ av) (m▸aw) z (A.imp id (λh=>by rw[h]))
      have d:=ar.trans ((yS.A _ (jG _ _)).trans ⟨z,by
       rcases A with h|h
       .exact jD h.symm
       exact jE ⟨g,rfl,by rw[h];simp⟩⟩)
      go_roundw
      case rel=>exact⟨k+1,b++[x],by omega,by go_num,by simp;omega,E,ab,ax,d⟩
      case measure=>simp[intOf];omega
  have d:k=c.length:=by omega
  subst d;rw[dX,qQ] at s;have b:=s;obtain⟨j,f,rfl,u⟩:=Eu I;rw[b] at u;have g:=X (nR (λ_ _=>trivial) u);rw[b];clear s u I b;go_wp2;go_ret;exact⟨j,f,rfl,g,t⟩
abbrev pJ(t:T)(a:Zo)(b:Nat):Zv:=.agg (Zj t a b)
def qG(x:Lit)(a:Bool):T:=if a then x.2.2 else x.2.1
def xG(x:Lit)(a:Bool):T:=if a then x.2.1 else x.2.2
def Dq(x:Lit)(b:Zo)(c:Nat)(d:Zo)(e:Nat)(a:Bool)(w:N):Calls Zf 155 #[lM x b c d e,.bool a] w λf g=>
 f=.returned (.tuple #[pJ (qG x a) (if a then d else b) (if a then e else c),pJ (xG x a) (if a then b else d) (if a then c else e)])/\Zb w g:=by
 cases a with
 |true=>
  go_in
  go_wp2_with fail
  go_region
  all_goals
   go_wp2;refine qS (v:=.tuple #[pJ x.2.2 d e,pJ x.2.1 b c]) (by simp[results,Tryz.results155,go_sem]) rfl ⟨rfl,?_⟩;exact(bJ _ _ _ _).drew
 |false=>
  go_in
  go_wp2_with fail
  go_region
  all_goals
   go_wp2;refine qS (v:=.tuple #[pJ x.2.1 b c,pJ x.2.2 d e]) (by simp[results,Tryz.results155,go_sem]) rfl ⟨rfl,?_⟩;exact(bJ _ _ _ _).drew
def KP(h:qK t r=some s)(e:k<r.length):∃x y,qK t (r.take k)=some x/\0<=r.getD k 0/\r.getD k 0<x.e.length/\x.e[(r.getD k 0).toNat]? =some y/\qK t (r.take (k+1))=some y:=by
 have f:r=r.take k++(r.getD k 0::r.drop (k+1)):=by
  rw[dI,jO e];simp
 rw[f,Jr] at h
 cases c:qK t (r.take k) with
 |none=>rw[c] at h;cases h
 |some x=>
  rw[c] at h;have a:qK x (r.getD k 0::r.drop (k+1))=some s:=h;rw[qK] at a;by_cases b:0<=r.getD k 0/\r.getD k 0<x.e.length
  .rw[jB b] at a
   cases d:x.e[(r.getD k 0).toNat]? with
   |none=>rw[d] at a;cases a
   |some y=>
    refine⟨x,y,rfl,b.1,b.2,d,?_⟩;have:r.take (k+1)=r.take k++[r.getD k 0]:=by
     rw[vZ,dI,jO e];rfl
    rw[this,Jr,c];show qK x [r.getD k 0]=_;rw[qK,jB b,d];rfl
  rw[jC b] at a;cases a
def AU(t u:T)(g:Zo)(l:Nat)(b:Zn)(r:Zo)(W:Nat)(w:N)(h:qK t b=some u)(hl:b.length<=100000)(i:InL w t.e g)(j:jV w b r):
 Calls Zf 156 #[pJ t g l,.slice r b.length W] w λZ s=>∃a c,Z=.returned (pJ u a c)/\InL s u.e a/\Zb w s:=by
 obtain⟨d,e⟩:=Ze ((w.alloc (.cells (Zj t g l) 43)).alloc (.cells #[Y 0,Y 0,Zd] 43));have m:Zb w d:=e▸kF _ _ _;have n:d.heap.size=w.heap.size+2:=by rw[e];simp
 have v:jK d w.heap.size (Y t.v) (Y t.f) (Zk g t.e l):=by rw[e];exact(jK.new _ rfl).alloc _
 have f:jK d (w.heap.size+1) (Y 0) (Y 0) (Zd):=by rw[e];exact jK.new _ (by simp)
 have aa:=X e;have ab:=X (kQ (λ_ k=>k.2) (lE i));have Hp:=X j;have z:=X h;have H0:Hid (∃a c x,qK t (b.take 0)=some x/\jK d w.heap.size (Y x.v) (Y x.f) (Zk a x.e c)/\jK d (w.heap.size+1) (Y 0) (Y 0) (Zd)/\jT (λk=>k<w.heap.size) w x.e a/\Zb w d/\d.heap.size=w.heap.size+2):=
  ⟨g,l,t,rfl,v,f,ab,m,n⟩
 obtain⟨p0,p1,p2,_,_,_⟩:=v;clear e m n f i j h
 go_in
 go_wp2_with fail
 rw[<-aa.out]
 go_loopw [9] (λi wr=>∃k:Nat,k<=b.length/\i=Y (k:Int)/\Hid (∃a c x,qK t (b.take k)=some x/\jK wr w.heap.size (Y x.v) (Y x.f) (Zk a x.e c)/\jK wr (w.heap.size+1) (Y 0) (Y 0) (Zd)/\jT (λk=>k<w.heap.size) w x.e a/\Zb w wr/\wr.heap.size=w.heap.size+2)) (λi _=>b.length - (intOf i).toNat)
 case atStart=>exact⟨0,jY _,rfl,H0⟩
 case round=>
  obtain⟨k,hk,rfl,j⟩:=hrel;obtain⟨a,c,x,m,A,f,h,e,o⟩:=zZ j;clear j;by_cases B:k<b.length
  .obtain⟨x',y,C,E,i1,n,F⟩:=KP z B
   rw[m] at C;cases C;obtain⟨pb,ac,rfl,G⟩:=pL (kD e Hp) (by omega);have H:=G k B;obtain⟨i,I⟩:=Ze (b.getD k 0);rw[<-I] at H E i1 n;obtain⟨J,K⟩:=uO E;rw[K] at H i1 n;have p:x.e[J]? =some y:=(by simpa using n);obtain⟨xb,ad,rfl⟩:=dV h (by have:=(Zl p);omega);obtain⟨i,j,_,q,L,M,O⟩:=dT h p;obtain⟨P,Q,R,S,U,V⟩:=A;have q0:=jP e q;have q1:=jP e L;have q2:=jP e M;have ae:=kA q;have af:(k:Int)<b.length:=(by omega);have ag:(0:Int)<=k:=(by omega);have ah:(0:Int)<=(J:Int):=(by omega);have HN:Hid (∃a c x,qK t (b.take (k+1))=some x/\jK (qZ wr w.heap.size 0 (Y y.v) (Y y.f) (Zk i y.e j)) w.heap.size (Y x.v) (Y x.f) (Zk a x.e c)/\jK (qZ wr w.heap.size 0 (Y y.v) (Y y.f) (Zk i y.e j)) (w.heap.size+1) (Y 0) (Y 0) (Zd)/\jT (λk=>k<w.heap.size) w x.e a/\Zb w (qZ wr w.heap.size 0 (Y y.v) (Y y.f) (Zk i y.e j))/\(qZ wr w.heap.size 0 (Y y.v) (Y y.f) (Zk i y.e j)).heap.size=w.heap.size+2):=
    ⟨i,j,y,F,jK.set ⟨P,Q,R,S,U,V⟩ _ _ _,f.same (xQ (by omega)),O,xZ e (jF _) _ _ _,by rw[iN];exact o⟩
   clear G m h O n p I K q L M e f F o
   go_wp2_with fail
   go_roundw
   case rel=>exact⟨k+1,by omega,by go_num,HN⟩
   case measure=>simp[intOf];omega
  have n:k=b.length:=by omega
  subst n;rw[qU,z.out] at m
  cases m
  obtain⟨P,Q,R,_,_,_⟩:=A;have p:=X (f.set (Y u.v) (Y u.f) (Zk a u.e c));obtain⟨x,r1,r2,S,U,V⟩:=f;have q:Hid (InL (qZ wr (w.heap.size+1) 0 (Y u.v) (Y u.f) (Zk a u.e c)) u.e a/\Zb w (qZ wr (w.heap.size+1) 0 (Y u.v) (Y u.f) (Zk a u.e c))):=by
   have k:=xZ e (show w.heap.size<=w.heap.size+1 by omega) (m:=0) (Y u.v) (Y u.f) (Zk a u.e c);exact⟨kQ (λ_ _=>trivial) (jI k h),k⟩
  clear e h o
  go_wp2_with fail
  obtain⟨e,h,k,_,_,_⟩:=p;simp only[qZ,kK] at e h k;exact qS (by simp[results,Tryz.results156,go_sem,e,h,k]) rfl ⟨a,c,rfl,q⟩
def xM(a:Zn)(s t:T):Zs×Int:=((gH a s t).1,if (gH a s t).2.2=0 then(if (gH a s t).2.1 then 0 else 4) else(gH a s t).2.2)
def EH(w a:N)(r:Zs×Int)(e:Ending):Prop:=∃b c,e=.returned (.tuple #[.slice b r.1.length c,Y r.2])/\xV (λk=>w.heap.size<=k) a r.1 b/\Zb w a
def Rc(a:Zn)(h:Zo)(i:Nat)(s:T)(j:Zo)(k:Nat)(t:T)(l:Zo)(m:Nat)(w:N)(d:jV w a h)(e:InL w s.e j)(f:InL w t.e l):
 Calls Zf 182 #[.agg #[.slice h a.length i],pJ s j k,pJ t l m] w λn r=>EH w r (xM a s t) n:=by
 have c:=X (λo1 o2 b=>IQ i k m (qD b (qD o2 (qD o1 d))) (jS b (jS o2 (jS o1 e))) (jS b (jS o2 (jS o1 f))));obtain⟨U,b⟩:=Ze (gH a s t);have g:xM a s t=(U.1,if U.2.2=0 then(if U.2.1 then 0 else 4) else U.2.2):=by rw[xM,<-b]
 rw[<-b] at c;rw[g];clear d e f b g
 go_in
 go_wp2_with fail
 refine(c _ _ _).mono ?_;rintro n o ⟨b,d,rfl,p,e⟩;have u:=e.size;simp only[qE] at u;have f:Hid (Zb w o):=(bJ w _ _ _).trans (e.mono (by simp only[qE];omega));have g:Hid (xV (λq=>w.heap.size<=q) o U.1 b):=tN (λq q=>by simp only[qE] at q;omega) p;clear p e c;by_cases c:U.2.2=0
 .have e:(U.2.2==0)=true:=by simpa using c
  cases p:U.2.1 with
  |true=>
   go_wp2
   go_ret2
   exact⟨b,d,by simp,g,f⟩
  |false=>
   go_wp2
   go_ret2
   exact⟨b,d,by simp,g,f⟩
 have e:(U.2.2==0)=false:=by simpa using c
 go_wp2
 go_ret2
 exact⟨b,d,by simp,g,f⟩
def jEe:∀(n:Nat)(t:T),t.E<=n->jQ r t->tK b t=false->qF b t=t:=by
 intro n;induction n with
 |zero=>intro t h;have:=t.I;omega
 |succ n g=>
  intro t h d c;by_cases a:t.v=0
  .rw[DF a] at c
   rw[Nv a];have:t.e.map (qF b)=t.e:=by
    rw[El (λe f=>by
     have j:=xJ f;refine g e (by omega) (xF d f) ?_
     cases i:tK b e with
     |false=>rfl
     |true=>rw[mW.2 ⟨e,f,i⟩] at c;cases c)]
    exact List.map_id _
   rw[this,<-a]
   cases t;rfl
  rw[DG a] at c;have e:kC b t.v=none:=by
   cases f:kC b t.v with
   |none=>rfl
   |some u=>
    have:=tX f;rw[mW.2 ⟨_,this,by simp⟩] at c;cases c
  have f:bM b t.v=none:=by rw[bM,e];split<;>rfl
  rw[wQ f,(lZ d a).2];obtain⟨v,i,j⟩:=t;simp only at a ⊢;have:=(lZ d a).2;simp only at this;rw[this];rfl
def Me(p:Zp)(x:T×Int)(e:Ending)(b:N):Prop:=
 ∃a c,e=.returned (.tuple #[.agg (Zj x.1 a c),Y x.2])/\jT p b x.1.e a
def Nu(p:Zp)(e:Zn)(l:Zo)(m:Nat)(g:Zs)(q:Zo)(r:Nat)(t:T)(b:Zo)(c:Nat)(w:N)(A:∀k,w.heap.size<=k->p k)(P:g.length<=1000)(B:gE e g=0)(s:kP e t=0)(C:jV w e l)(u:xV (λ_=>True) w g q)(n:jT p w t.e b):
 Calls Zf 197 #[.agg #[.slice l e.length m],.slice q g.length r,pJ t b c] w λv o=>Me p (vV e g t) v o/\Zb w o:=by
 obtain⟨h,f⟩:=Ze (((w.alloc (.cells #[Zk l e m] 24)).alloc (.cells (Zj t b c) 43)).alloc (.cells #[Y 0,Y 0,Zd] 43));have d:Zb w h:=f▸bJ _ _ _ _;have E:h.heap.size=w.heap.size+3:=by rw[f];simp
 have F:h.cell? (D w.heap.size 0)=some (Zk l e m):=by rw[f,kW (by simp;omega),kW (by simp)];exact jJ 0 rfl
 have G:jK h (w.heap.size+1) (Y t.v) (Y t.f) (Zk b t.e c):=by rw[f];exact(jK.new _ (by simp)).alloc _
 have H:jK h (w.heap.size+1+1) (Y 0) (Y 0) (Zd):=by rw[f];exact jK.new _ (by simp)
 obtain⟨Q,I⟩:=mS.1 s;have x:=X (jEh P t.E t b c q r h (jF _) (by omega) (gW d u) (kQ (λ_ _=>trivial) (jI d n)));have HA:=X (λ(o:N)(a:Zb h o)=>EE m r c (kD (d.trans (a.mono d.size)) C) (by omega) (gW (d.trans (a.mono d.size)) u) (kQ (λ_ _=>trivial) (jI (d.trans (a.mono d.size)) n)));obtain⟨Z,y⟩:=Ze (tK g t);rw[<-y] at x;obtain⟨a,i⟩:=Ze (vV e g t);rw[<-i] at HA ⊢;have z:Hid (Z=false->a=(t,0)):=λj=>by
  rw[i,vV,jB B,jB s,jEe t.E t (jF _) I (y.symm.trans j),jC (by omega)]
 have J:=X d;have K:=X f;have R:=X (kQ (λ_ j=>j) (lE n));have S:=X G;have U:=X H;have V:=X F;obtain⟨L,M,O,_,_,_⟩:=G;have W:=X A;have aa:=X E;rw[f] at L M O;clear f d E H F B s Q I y i C u n A
 go_in
 go_wp2_with fail
 rw[<-K.out];refine x.mono ?_;rintro v n ⟨rfl,d⟩;have I:=d.size;have y:=X d;have s:=X (J.trans (d.mono J.size));obtain⟨Q,q1,q2,_,_,_⟩:=S.below d;have u:=U.below d;have ab:=aa.out;clear d x L M O K
 cases Z with
 |false=>
  have i:=z rfl;have x:=X (u.set (Y t.v) (Y t.f) (Zk b t.e c));have A:Hid (Me p a (.returned (.tuple #[pJ t b c,Y 0])) (qZ n (w.heap.size+1+1) 0 (Y t.v) (Y t.f) (Zk b t.e c))/\Zb w (qZ n (w.heap.size+1+1) 0 (Y t.v) (Y t.f) (Zk b t.e c))):=by
   have d:=xZ s (show w.heap.size<=w.heap.size+1+1 by omega) (m:=0) (Y t.v) (Y t.f) (Zk b t.e c);rw[i];exact⟨⟨b,c,rfl,kQ (λ_ j=>j.1) (jI d R)⟩,d⟩
  obtain⟨j,r1,r2,B,C,E⟩:=u;clear i z
  go_wp2_with fail
  obtain⟨d,f,i,_,_,_⟩:=x;simp only[qZ,kK] at d f i;exact qS (by simp[results,Tryz.results197,go_sem,d,f,i]) rfl A
 |true=>
  have K:=jP y V;have j:=X (HA n y);clear z
  go_wp2_with fail
  refine j.mono ?_;rintro v x ⟨⟨d,f,rfl,z⟩,i⟩;have B:=X (s.trans (i.mono s.size));have A:=u.below i;have C:=X (A.set (Y a.1.v) (Y a.1.f) (Zk d a.1.e f));have E:Hid (Me p a (.returned (.tuple #[pJ a.1 d f,Y a.2])) (qZ x (w.heap.size+1+1) 0 (Y a.1.v) (Y a.1.f) (Zk d a.1.e f))/\Zb w (qZ x (w.heap.size+1+1) 0 (Y a.1.v) (Y a.1.f) (Zk d a.1.e f))):=by
   have F:=xZ B (show w.heap.size<=w.heap.size+1+1 by omega) (m:=0) (Y a.1.v) (Y a.1.f) (Zk d a.1.e f);refine⟨⟨d,f,rfl,?_⟩,F⟩;refine kQ (λk H=>W k (by omega)) (xN (λk H _=>xQ (by omega)) z)
  obtain⟨F,r1,r2,H,L,M⟩:=A;clear z i j
  go_wp2_with fail
  obtain⟨i,j,z,_,_,_⟩:=C;simp only[qZ,kK] at i j z;exact qS (by simp[results,Tryz.results197,go_sem,i,j,z]) rfl E
def pW(a:Zn)(b:Zs)(s t:T):Int:=
 if (vV a b s).2=0 then(if (vV a b t).2=0 then(if Cs a (vV a b t).1 (vV a b s).1||kS (vV a b s).1 (vV a b t).1 then 4 else 0) else(vV a b t).2) else(vV a b s).2
def Nx:(vV r b t).1.E<=120:=by
 rw[vV];have a:zS.E<=120:=by decide
 split
 .split
  .split
   .exact a
   exact Nat.le_of_not_lt ‹_›
  exact a
 exact a
def On(c:Zn)(l:Zo)(q:Nat)(g:Zs)(K:Zo)(U:Nat)(s:T)(F:Zo)(L:Nat)(t:T)(v:Zo)(G:Nat)(w:N)(V:g.length<=1000)(W:gE c g=0)(aj:kP c s=0)(ak:kP c t=0)(M:jV w c l)(Z:xV (λ_=>True) w g K)(al:InL w s.e F)(am:InL w t.e v):
 Calls Zf 185 #[.agg #[.slice l c.length q],.slice K g.length U,pJ s F L,pJ t v G] w λH d=>H=.returned (Y (pW c g s t))/\Zb w d:=by
 obtain⟨x,u⟩:=Ze (((w.alloc (.cells #[Zk l c q] 24)).alloc (.cells (Zj s F L) 43)).alloc (.cells (Zj t v G) 43));have aa:Zb w x:=u▸bJ _ _ _ _;have an:x.heap.size=w.heap.size+3:=by rw[u];simp
 have ab:x.cell? (D w.heap.size 0)=some (Zk l c q):=by rw[u,kW (by simp;omega),kW (by simp)];exact jJ 0 rfl
 have ao:jK x (w.heap.size+1) (Y s.v) (Y s.f) (Zk F s.e L):=by rw[u];exact(jK.new _ (by simp)).alloc _
 have ap:jK x (w.heap.size+1+1) (Y t.v) (Y t.f) (Zk v t.e G):=by rw[u];exact jK.new _ (by simp)
 have HP:Hid (∀{ts:Zt}{O:Zo}{d:N},InL w ts O->Zb w d->jT (λk=>k≠w.heap.size+1/\k≠w.heap.size+1+1) d ts O):=λac h=>kQ (λk r=>by omega) (jI h (kQ (λ_ ac=>ac.2) (lE ac)))
 have HA:=X (λd h(hz:w.heap.size+3<=d.heap.size)=>jM
  (Nu (λk=>k≠w.heap.size+1/\k≠w.heap.size+1+1) c l q g K U s F L d (λk r=>by omega) V W aj (kD h M) (gW h Z) (HP al h))
  (Nu (λk=>k≠w.heap.size+1/\k≠w.heap.size+1+1) c l q g K U t v G d (λk r=>by omega) V W ak (kD h M) (gW h Z) (HP am h)))
 obtain⟨a,P⟩:=Ze (vV c g s);obtain⟨b,hY⟩:=Ze (vV c g t);have be:a.1.E<=120:=P▸Nx;have HG:=X (λ(e:Zo)(i:Nat)(f:Zo)(m:Nat)(d:N)h(h1:InL d a.1.e e)(h2:InL d b.1.e f)=>jM (EX c l q b.1 f m a.1 e i d (kD h M) h2 h1) (iP a.1.E a.1 b.1 e i f m d (jF _) (by omega) h1 h2));obtain⟨aq,hR⟩:=Ze (Cs c b.1 a.1);obtain⟨ar,hZ⟩:=Ze (kS a.1 b.1);have hF:pW c g s t=if a.2=0 then(if b.2=0 then(if aq||ar then 4 else 0) else b.2) else a.2:=by rw[pW,hR,hZ,<-P,<-hY]
 rw[<-P,<-hY] at HA;rw[<-hR,<-hZ] at HG;rw[hF];have au:=X aa;have ad:=X u;have av:=X (HA x aa (by omega)).1;have bf:=X ab;have bg:=X ao;have bh:=X ap;obtain⟨p0,p1,p2,_,_,_⟩:=ao;have bi:=X an;clear P hY be hR hZ hF al am M Z aj ak W V HP u aa an ap;rw[ad.out] at p0 p1 p2 ab
 go_in
 go_wp2_with fail
 rw[<-ad.out];refine av.mono ?_;rintro H I ⟨⟨e,i,rfl,aw⟩,y⟩;have bj:=y.size;have bk:=bi.out;obtain⟨j,n⟩:=Ze (qZ I (w.heap.size+1) 0 (Y a.1.v) (Y a.1.f) (Zk e a.1.e i));have ax:=bg.below y;have ae:Zb w j:=by rw[n];exact xZ (au.trans (y.mono au.size)) (by omega) _ _ _
 have bl:j.heap.size=I.heap.size:=n▸iN;have ay:jK j (w.heap.size+1) (Y a.1.v) (Y a.1.f) (Zk e a.1.e i):=n▸ax.set _ _ _;have az:jK j (w.heap.size+1+1) (Y t.v) (Y t.f) (Zk v t.e G):=by rw[n];exact(bh.below y).same (xQ (by omega))
 have Q:j.cell? (D w.heap.size 0)=some (Zk l c q):=by rw[n,kH (w:=I) (a:=(D w.heap.size 0)) (xQ (show w.heap.size≠_ by omega))];exact jP y bf
 have a0:jT (λk=>k≠w.heap.size+1/\k≠w.heap.size+1+1) j a.1.e e:=by rw[n];exact xN (λk r _=>xQ r.1) aw
 have af:=X ae;have bm:=X a0;have a1:=X n;have bn:=X ay;have bo:=X az;have bp:=X Q;have a2:=X (HA j ae (by omega)).2;obtain⟨r0,r1,r2,f0,f1,f2⟩:=ax;obtain⟨q0,q1,q2,_,_,_⟩:=az;rw[n] at q0 q1 q2 Q;simp only[qZ,kK] at q0 q1 q2 Q;have bs:Hid (w.heap.size+3<=j.heap.size):=by show _<=_;omega
 clear ae a0 n ay y aw ab p0 p1 p2 ad av bl bk bj;by_cases z:a.2=0
 .have ex:(a.2==0)=true:=by simpa using z
  have A:=X z;clear z
  go_wp2_with fail
  rw[show((I.setCell (D (w.heap.size+1) 0) (Y a.1.v)).setCell (D (w.heap.size+1) 1) (Y a.1.f)).setCell (D (w.heap.size+1) 2) (Zk e a.1.e i)=j from a1.out.symm];refine a2.mono ?_;rintro H R ⟨⟨f,m,rfl,a3⟩,B⟩;obtain⟨o,p⟩:=Ze (qZ R (w.heap.size+1+1) 0 (Y b.1.v) (Y b.1.f) (Zk f b.1.e m));have a4:=bo.below B;have ag:Zb w o:=by rw[p];exact xZ (af.trans (B.mono af.size)) (by omega) _ _ _
  have a5:jK o (w.heap.size+1+1) (Y b.1.v) (Y b.1.f) (Zk f b.1.e m):=p▸a4.set _ _ _;have a6:jK o (w.heap.size+1) (Y a.1.v) (Y a.1.f) (Zk e a.1.e i):=by rw[p];exact(bn.below B).same (xQ (by omega))
  have ah:o.cell? (D w.heap.size 0)=some (Zk l c q):=by rw[p,kH (w:=R) (a:=(D w.heap.size 0)) (xQ (show w.heap.size≠_ by omega))];exact jP B bp
  have a7:Hid (InL o b.1.e f):=by rw[p];exact kQ (λ_ _=>trivial) (xN (λk r _=>xQ r.2) a3)
  have a8:Hid (InL o a.1.e e):=by rw[p];exact kQ (λ_ _=>trivial) (xN (λk r _=>xQ r.2) (jI B bm))
  have ai:=X ag;have a9:=X p;have bq:=X a6;have br:=X a5;have ba:=X (HG e i f m o ag a8 a7).1;obtain⟨s0,s1,s2,g0,g1,g2⟩:=a4;obtain⟨t0,t1,t2,_,_,_⟩:=a5;obtain⟨u0,u1,u2,_,_,_⟩:=a6;rw[p] at t0 t1 t2 u0 u1 u2 ah;simp only[qZ,kK] at t0 t1 t2 u0 u1 u2 ah;clear ag p B a3 Q q0 q1 q2 a2 r0 r1 r2 f0 f1 f2;by_cases C:b.2=0
  .have ey:(b.2==0)=true:=by simpa using C
   have J:=X C;clear C
   go_wp2_with fail
   rw[show((R.setCell (D (w.heap.size+1+1) 0) (Y b.1.v)).setCell (D (w.heap.size+1+1) 1) (Y b.1.f)).setCell (D (w.heap.size+1+1) 2) (Zk f b.1.e m)=o from a9.out.symm];refine ba.mono ?_;rintro H w3 ⟨rfl,E⟩;have S:=X (ai.trans (E.mono ai.size));obtain⟨v0,v1,v2,_,_,_⟩:=bq.below E;obtain⟨x0,x1,x2,_,_,_⟩:=br.below E;have bb:=X (HG e i f m w3 S (jI E a8) (jI E a7)).2;clear E ba t0 t1 t2 u0 u1 u2 ah s0 s1 s2 g0 g1 g2
   cases aq with
   |true=>
    go_wp2;go_ret;exact⟨by first|rfl|(rw[jB A.out,jB J.out];rfl),S⟩
   |false=>
    go_wp2_with fail
    refine bb.mono ?_;rintro H w4 ⟨rfl,bc⟩;have bd:=X (S.trans (bc.mono S.size));clear bc bb
    cases ar with
    |true=>
     go_wp2;go_ret;exact⟨by first|rfl|(rw[jB A.out,jB J.out];rfl),bd⟩
    |false=>
     go_wp2;go_ret;exact⟨by first|rfl|(rw[jB A.out,jB J.out];rfl),bd⟩
  have ey:(b.2==0)=false:=by simpa using C
  have J:=X C;clear C;go_wp2;go_ret;refine⟨by first|rfl|(rw[jB A.out,jC J.out];rfl),?_⟩;rw[show((R.setCell (D (w.heap.size+1+1) 0) (Y b.1.v)).setCell (D (w.heap.size+1+1) 1) (Y b.1.f)).setCell (D (w.heap.size+1+1) 2) (Zk f b.1.e m)=o from a9.out.symm];exact ai
 have ex:(a.2==0)=false:=by simpa using z
 have A:=X z;clear z;go_wp2;go_ret;refine⟨by first|rfl|(rw[jC A.out];rfl),?_⟩;rw[show((I.setCell (D (w.heap.size+1) 0) (Y a.1.v)).setCell (D (w.heap.size+1) 1) (Y a.1.f)).setCell (D (w.heap.size+1) 2) (Zk e a.1.e i)=j from a1.out.symm];exact af
def Sk:∀{c:Zc}{d:Nat},qA p w c (some (D k d))->∃b,bE p w c b/\b.length=c.length*7/\(∀j u,b[j]? =some u->w.cell? (D k (d+j))=some u)/\∀u,u∈b->u.oneCell'=true:=by
 intro c;induction c with
 |nil=>intro d _;exact⟨[],rfl,rfl,(λj u h=>by simp at h),λu h=>by cases h⟩
 |cons x c n=>
  intro d h;obtain⟨F,G,f,g,i,l,m,H,o,q,r,s,t,v,y,i1,i2,z⟩:=h;simp only[qW,fG] at m;obtain⟨rfl,rfl,_⟩:=m;obtain⟨b,A,B,C,E⟩:=n z;refine⟨.bool x.1::Y x.2.1.v::Y x.2.1.f::Zk f x.2.1.e g::Y x.2.2.v::Y x.2.2.f::Zk i x.2.2.e l::b,⟨f,g,i,l,b,rfl,i1,i2,A⟩,by simp[B];omega,?_,?_⟩
  .intro j u a
   match j,a with
   |0,a=>simp at a;subst a;exact o
   |1,a=>simp at a;subst a;exact q
   |2,a=>simp at a;subst a;exact r
   |3,a=>simp at a;subst a;exact s
   |4,a=>simp at a;subst a;exact t
   |5,a=>simp at a;subst a;exact v
   |6,a=>simp at a;subst a;exact y
   |j+7,a=>
    have:=C j u (by simpa using a);rw[show d+(j+7)=d+7+j by omega];exact this
  intro u e;simp only[qO] at e;rcases e with rfl|rfl|rfl|rfl|rfl|rfl|rfl|e
  .rfl
  .rfl
  .rfl
  .rfl
  .rfl
  .rfl
  .rfl
  exact E u e
def FQ:∀{a:Zu},bE p w c a->a.length=c.length*7:=by
 induction c with
 |nil=>intro a h;rw[show a=[] from h];rfl
 |cons x c b=>
  intro a h;obtain⟨d,e,f,g,i,rfl,_,_,h⟩:=h;simp[b h];omega
def Mo:∀{b:Zu},bE p w c b->∀u,u∈b->u.oneCell'=true:=by
 induction c with
 |nil=>intro b h u a;rw[show b=[] from h] at a;cases a
 |cons x c d=>
  intro b h u a;obtain⟨e,f,g,i,j,rfl,_,_,h⟩:=h;simp only[qO] at a;rcases a with rfl|rfl|rfl|rfl|rfl|rfl|rfl|a
  .rfl
  .rfl
  .rfl
  .rfl
  .rfl
  .rfl
  .rfl
  exact d h u a
def Sb:∀{k:Nat}{a:Zu},bE p w c a->bE p w (c.take k) (a.take (k*7)):=by
 induction c with
 |nil=>intro k a h;rw[show a=[] from h];simp;rfl
 |cons x c b=>
  intro k a h
  cases k with
  |zero=>simp;rfl
  |succ k=>
   obtain⟨d,e,f,g,i,rfl,i1,i2,h⟩:=h;rw[show(k+1)*7=k*7+7 by omega];exact⟨d,e,f,g,i.take (k*7),rfl,i1,i2,b h⟩
def Sa:∀{k:Nat}{a:Zu},bE p w c a->bE p w (c.drop k) (a.drop (k*7)):=by
 induction c with
 |nil=>intro k a h;rw[show a=[] from h];simp;rfl
 |cons x c b=>
  intro k a h
  cases k with
  |zero=>simpa using h
  |succ k=>
   obtain⟨d,e,f,g,i,rfl,i1,i2,h⟩:=h;rw[show(k+1)*7=k*7+7 by omega];exact b h
def mH(a:Nat)(w:N)(v:Zv)(c:Zc):Prop:=∃b,w.ownsRow a 47 7 v c.length b/\bE (λk=>k<a) w c b
def mH.outs{v:Zv}(h:mH k w v c):pP (λa=>a<k) k w v c:=by
 obtain⟨d,b,e⟩:=h;refine⟨d,b,gL (λa f _=>⟨⟨jD f,λf=>?_⟩,rfl⟩) e⟩;have:=(kO b a f).1;omega
def mH.below{v:Zv}(h:mH k w v c)(a:Zb w u):mH k u v c:=by
 obtain⟨d,b,e⟩:=h;exact⟨d,vT b (λg f=>a.block g (kO b g f).2),gL (λf g i=>⟨g,a.block f i⟩) e⟩
def tT(w:N)(o:Obj):(w.alloc o).heap[w.heap.size]? =some o:=by simp only[World.alloc,Array.getElem?_push_size]
def Of(b:Nat)(s:c.length<=1000)(h:kR w c (some (D k n))):
 Calls Zf 178 #[Zz k n c.length b] w λe i=>∃v,e=.returned v/\mH w.heap.size i v c/\Zb w i:=by
 obtain⟨j,l,m,o,p⟩:=Sk (Bn h);have q:=X l;have HS:=X (λa=>show eW (w.alloc a) (Zz k n c.length b) c.length j from jE ⟨k,n,b,rfl,m,(λd u f=>jP (jG w a) (o d u f)),p⟩);have r:Hid ((w.alloc (.cells #[] 47)).ownsRow w.heap.size 47 7 (Zx w.heap.size 0 0) 0 []):=⟨rfl,jE ⟨w.heap.size,0,#[],rfl,jF _,tT _ _,jF _,by decide,rfl,rfl⟩⟩;have t:∀(w:N)(a:Zo)(d c f g:Nat),(binOp .eql 39 (.slice a d c) (.slice none f g)).run Zf w=.ok (.bool a.isNone) w:=λw a d c f g=>Lib.run_eql_slice_nil w _ _ a d c f g Go.Proofs.Tryz.underlying39;clear h l m o p
 go_in
 go_wp2_with (at_builtin
              go_must (refine Lv rfl (.tmp 5) (.tmp 6) rfl rfl r rfl (HS _) (by omega) (by simp) ?_)
              intro h d f a g)
 go_ret;rw[kK,nQ] at f;have l:(w.alloc (.cells #[] 47)).grownBy d (some w.heap.size):=a
 have g:Zb w d:=⟨a.os,a.tape,a.output,kN (jG w _).size a.size,λa d=>by
  rw[l.block a (by simp;omega) (λe=>by cases e;omega)]
  exact(jG w _).block a d⟩
 exact⟨h,rfl,⟨j,f,gL (λa d f=>⟨d,g.block a f⟩) q⟩,g⟩
def uC{c:Nat×Nat}:∀(d:Zu)(o:Nat)(w:N)(a:Zy),w.heap[k]? =some (.cells a g c)->∃b,(w.setCells k o d).heap[k]? =some (.cells b g c)/\b.size=a.size
 |[],_,_,a,h=>⟨a,h,rfl⟩
 |v::r,o,w,a,h=>by
  have e:(w.setCell (D k o) v).heap[k]? =some (.cells (a.setIfInBounds o v) g c):=by
   simp[World.setCell,Gr,h]
  obtain⟨b,f,i⟩:=uC r (o+1) _ _ e;exact⟨b,f,by rw[i];simp⟩
def bK(a:k<=n):∀(c:Zu)(o:Nat)(b:N),Below k w b->Below k w (b.setCells n o c)
 |[],_,_,h=>h
 |v::r,o,_,h=>bK a r (o+1) _ (h.setCell (p:=(D n o)) a v)
def tH(a:n≠k):∀(b:Zu)(o:Nat)(w:N),(w.setCells k o b).heap[n]? =w.heap[n]?
 |[],_,_=>rfl
 |v::r,o,w=>by
  rw[World.setCells,tH a r (o+1),vL _ _ _ _ a]
def lJ{a:Zy}{b:Nat×Nat}(h:w.heap[k]? =some (.cells a g b))(j:Nat):w.cell? (D k j)=a[j]?:=by
 simp[World.cell?,h]
abbrev sF:Zu:=[.bool false,Y 0,Y 0,Zd,Y 0,Y 0,Zd]
def Uv(b:TypeId)(c:Nat)(d:∀j,j<7->(w.cell? (D k (n+j))).isSome=true)(e:∀j,j<7->w.frozen? (D k (n+j))=false):
 (Builtin.clear_ #[39] b #[Zz k n 1 c]).run Zf w=.ok (.tuple #[]) (w.setCells k n sF):=by
 have a:=run_storeCells_cells (P:=Zf) k n sF 0 w (by simpa using d) (by simpa using e) (by decide);simp only[mG] at a;have f:(Builtin.zeroCells (Value.agg #[.bool false,Y 0,Y 0,Zd,Y 0,Y 0,Zd]).cells 1).toList=sF:=by kernel_rfl
 simp[Builtin.clear_,run_underlying Go.Proofs.Tryz.underlying39,f,a]
def Vi{G:Zv}(H:n<c.length)(P:c.length<=1000)(s:mH k w G c):
 Calls Zf 177 #[G,Y (n:Int),Y ((n+1:Nat):Int)] w λQ I=>∃o,Q=.returned o/\mH k I o (c.eraseIdx n)/\Below k w I:=by
 obtain⟨R,S,J⟩:=bQ.1 Tryz.info47;simp only[bG] at J;obtain⟨ag,U,ah⟩:=J;obtain⟨v,⟨i,V⟩,h⟩:=s;rcases V with⟨_,K⟩|⟨g,d,W,rfl,y,x,Z,hm,ai,z⟩
 .omega
 obtain⟨a,B⟩:=Ze c.length;rw[<-B] at H P Z i z ⊢;obtain⟨b,q⟩:=Ze (v.drop ((n+1)*7));have p:b.length=(a - (n+1))*7:=by rw[q,tQ,i];omega
 have C:∀j,j<a*7->w.cell? (D g j)=v[j]?:=λj l=>by
  rw[lJ x,<-z,oC,jB l];simp
 have E:∀j,w.frozen? (D g j)=false:=λj=>by simp[World.frozen?,x]
 have F:∀j,j<d*7->(w.cell? (D g j)).isSome=true:=λj l=>by rw[lJ x];simp;omega
 have s1:Hid (b.length=(a - (n+1))*7):=p;have s2:Hid (∀u∈b,u.oneCell'=true):=λu e=>Mo h u (by rw[q] at e;exact Eo e);have L:Hid (∀t,t<b.length->(w.drew.cell? (D g (0+n*7+t))).isSome=true/\w.drew.frozen? (D g (0+n*7+t))=false):=λt r=>⟨F _ (by rw[p] at r;omega),E _⟩;obtain⟨A,hA,aa⟩:∃A:Addr,(if d=n+1 then some ((D g 0):Addr) else some ⟨g,(n+1)*7,none⟩)=some A/\Hid (∀t u,b[t]? =some u->w.drew.cell? (A.add t)=some u):=by
  by_cases s:d=n+1
  .refine⟨(D g 0),by simp[s],λt u e=>?_⟩
   have K:b.length=0:=(by rw[p];omega);rw[yM.1 K] at e;simp at e
  refine⟨⟨g,(n+1)*7,none⟩,by simp[s],λt u e=>?_⟩;have r:t<(a - (n+1))*7:=by
   have:=(Zl e);rwa [p] at this
  rw[q,Ej] at e;rw[Addr.add_lit];exact(C _ (by omega)).trans e
 obtain⟨e,m⟩:=Ze (w.drew.setCells g (0+n*7) b);have aj:∀f,(Builtin.clear_ #[39] f #[.slice (some ⟨g,(n+(a - (n+1)))*7,none⟩) (a - (n+(a - (n+1)))) (d - (n+(a - (n+1))))]).run Zf e=.ok (.tuple #[]) (e.setCells g ((n+(a - (n+1)))*7) sF):=λf=>by
  rw[show a - (n+(a - (n+1)))=1 by omega];exact Uv f _ (λj l=>by rw[m];exact World.isSome_setCells _ _ _ _ _ (F _ (by omega))) (λj l=>by rw[m,World.frozen?_setCells];exact E _)
 have hW:Hid (e=w.drew.setCells g (0+n*7) b):=m;have ak:n<=d:=by omega
 have al:n+1<=d:=by omega
 have am:n<=a:=by omega
 have an:(0:Int)<=n+1:=by omega
 have ao:(n:Int)+1<=a:=by omega
 have ap:((n:Int)==n+1)=false:=by simp;omega
 have Hi:=X H;have HF:Hid (∃o,Value.slice (some (D g 0)) (n+(a - (n+1))) d=o/\mH k (e.setCells g ((n+(a - (n+1)))*7) sF) o (c.eraseIdx n)/\Below k w (e.setCells g ((n+(a - (n+1)))*7) sF)):=by
  obtain⟨ab,q1,q2⟩:=uC b (0+n*7) w.drew W x;rw[<-m] at q1;obtain⟨u,M,q4⟩:=uC sF ((n+(a - (n+1)))*7) e ab q1;have ac:(c.eraseIdx n).length=n+(a - (n+1)):=by rw[Bh,jB (by omega)];omega
  have ad:Below k w e:=by rw[m];exact bK y _ _ _ ((jW k w).drew)
  have ae:Below k w (e.setCells g ((n+(a - (n+1)))*7) sF):=bK y _ _ _ ad;have O:∀f,f≠g->(e.setCells g ((n+(a - (n+1)))*7) sF).heap[f]? =w.heap[f]?:=λf h=>by
   rw[tH h,m,tH h];rfl
  refine⟨_,rfl,⟨v.take (n*7)++v.drop ((n+1)*7),?_,?_⟩,ae⟩
  .rw[ac]
   refine⟨by rw[qB,yD,tQ,i];omega,jE ⟨g,d,u,rfl,y,M,by omega,hm,by omega,?_⟩⟩;apply oB;intro j;rw[oC];by_cases l:j<(n+(a - (n+1)))*7
   .rw[jB l]
    have e1:u.toList[j]? =e.cell? (D g j):=by
     rw[Dx,<-lJ M,Fe _ _ _ _ _ (λ_ _=>jD l)]
    rw[e1,m];by_cases af:j<n*7
    .rw[Fe _ _ _ _ _ (λ_ _=>jD (show j<0+n*7 by omega)),mY (by rw[yD,i];omega),oC,jB af]
     exact C j (by omega)
    obtain⟨t,rfl⟩:∃t,j=n*7+t:=⟨j - n*7,by omega⟩;have r:t<b.length:=(by rw[p];omega);have j:=Nl g b (0+n*7) w.drew (λf h=>(L f h).1) t r;rw[kK] at j ⊢;rw[j,nO (by rw[yD,i];omega),yD,i,<-q,show n*7+t - min (n*7) (a*7)=t by omega,jO r]
   rw[jC l,yZ (by rw[qB,yD,tQ,i];omega)]
  rw[Sf];refine Bd (gL (λf j _=>⟨j,O f (by omega)⟩) (Sb h)) (gL (λf j _=>⟨j,O f (by omega)⟩) (Sa h))
 have j:=X B;clear m C E F p q z h i B
 go_in
 go_wp2_with fail
 go_region_law (refine step_append_room rfl (.tmp 22) (.tmp 25) 39 rfl 47 R 7 Go.Proofs.Tryz.underlying39 S U g 0 n d (by simp[Act.eval,Act.put]) A (a - (n+1)) (d - (n+1)) b (by simp[Act.eval,Act.put]) s1 aa s2 (by omega) L ?_;rw[<-hW.out])
 all_goals go_wp2
 go_ret;obtain⟨o,f,h,i⟩:=HF;exact⟨o,by rw[<-f];rfl,h,i⟩
theorem infoI:(Zf.info? 3).map (λi=>(i.zero,i.size,i.bytes))=some (some (Y 0),1,8):=by kernel_rfl
section plain
def LZ(w:N):Calls Zf 194 #[Zd] w λe a=>e=.returned (Zd)/\a=w:=by
 have g:=λw b n c d f=>Lib.run_eql_slice_nil w _ _ b n c d f Go.Proofs.Tryz.underlying22
 go_in
 go_wp2;go_ret;exact⟨rfl,rfl⟩
def jFi(h:Nat)(i:w.cell? (D k n)=some (Y z)):
 Calls Zf 194 #[Zz k n 1 h] w λe l=>∃g b,e=.returned (Zx g 1 b)/\l.cell? (D g 0)=some (Y z)/\w.heap.size<=g/\Zb w l:=by
 have F:∀(w:N)(a:Zo)(c d f b:Nat),(binOp .eql 22 (.slice a c d) (.slice none f b)).run Zf w=.ok (.bool a.isNone) w:=λw a c d f b=>Lib.run_eql_slice_nil w _ _ a c d f b Go.Proofs.Tryz.underlying22;have q:Hid ((w.alloc (.cells #[] 3)).ownsRow w.heap.size 3 1 (Zx w.heap.size 0 0) 0 []):=⟨rfl,jE ⟨w.heap.size,0,#[],rfl,jF _,tT _ _,jF _,by decide,rfl,rfl⟩⟩
 have r:=X (show ∀j u,[Value.int .i64 z][j]? =some u->(w.alloc (.cells #[] 3)).cell? (((D k n):Addr).add j)=some u by
  intro j u a
  cases j with
  |zero=>
   obtain rfl:Value.int .i64 z=u:=by simpa using a
   show(w.alloc (.cells #[] 3)).cell? (D k (n+0))=_;rw[mG];exact jP (jG w _) i
  |succ j=>simp at a)
 obtain⟨s,t,f⟩:=bQ.1 infoI;simp only[bG] at f;obtain⟨u,v,x⟩:=f;clear i
 go_in
 go_wp2_with (at_builtin;go_must (refine wpList_append_lies _ rfl (.tmp 5) (.tmp 6) 22 rfl w.heap.size 3 s (Y 0) 1 8 Go.Proofs.Tryz.underlying22 t u v x rfl (by decide) (Zx w.heap.size 0 0) 0 [] rfl q (D k n) 1 h [Y z] rfl rfl r (by simp[Value.oneCell']) (by decide) (by unfold maxLen;omega) (by omega) (by simp) _ rfl ?_))
 intro g y c i a A B;have j:Zb w c:=by
  have m:(w.alloc (.cells #[] 3)).grownBy c (some w.heap.size):=a;refine⟨a.os,a.tape,a.output,kN (jG w _).size a.size,λd o=>?_⟩;rw[m.block d (by simp;omega) (λe=>by cases e;omega)];exact(jG w _).block d o
 obtain⟨G,H,d,m,C,o⟩:=fX i (by omega);have E:=X j
 have p:=X (show Zq c g 0 (Y z)/\w.heap.size<=g by
  simp only[lH,qW,fG] at d;obtain⟨⟨rfl,_⟩,_⟩:=d
  exact⟨o 0 _ rfl,m⟩)
 clear i a A B j d m C o;go_wp2;go_ret;exact⟨g,y,rfl,p.1,p.2,E⟩
end plain
attribute [local go_sem] Oper.semAt_some
def KE{v:Zv}{b:Addr}(l:TypeId)(m:qR k w v r)(C:w.cell? b=some (Y z))(M:r.length<=1000)(E:k<=w.heap.size):
 ∃a d,(Builtin.append_ #[22,22] l #[v,.slice (some b) 1 n]).run Zf w=.ok a d/\qR k d a (r++[z])/\
  ((∃g c,v=Zx g r.length c/\a=Zx g (r.length+1) c/\w.grownBy d (some g))\/(a.ownBlock=some w.heap.size/\Zb w d)):=by
 obtain⟨o,p,t⟩:=bQ.1 Tryz.info3;simp only[bG] at t;obtain⟨x,f,y⟩:=t;have q:∀j u,[Value.int .i64 z][j]? =some u->w.cell? (b.add j)=some u:=λj u e=>by
  cases j with
  |zero=>
   have h:b.add 0=b:=(by cases b;simp[Addr.add]);rw[h,C];simpa using e
  |succ j=>simp at e
 have A:∀u,u∈[Value.int .i64 z]->u.oneCell'=true:=λu e=>by
  rw[vY] at e;subst e;rfl
 obtain⟨a,d,j,u,e,_,h⟩:=run_append_own_at w k 22 l 3 o (Y 0) 1 8 Tryz.underlying22 p x f y rfl (by decide) v r.length (r.map (Value.int .i64)) m b 1 n [Y z] rfl q A (by unfold maxLen;omega) (by omega) E;have F:qR k d a (r++[z]):=by
  show d.ownsRow k 3 1 a (r++[z]).length ((r++[z]).map (Value.int .i64));rw[qB,nP];exact u
 refine⟨a,d,j,F,?_⟩;rcases m.2 with⟨rfl,O⟩|⟨g,c,B,rfl,P,G,Q,R,H,S⟩
 .right
  have I:a.ownBlock≠none:=λi=>by
   rcases u.2 with⟨rfl,s⟩|⟨g,c,B,rfl,_⟩
   .omega
   cases i
  rcases h with h|h
  .exact jN h I
  exact⟨h,e.os,e.tape,e.output,e.size,λs J=>e.block s J (λi=>by cases i)⟩
 by_cases J:r.length+1<=c
 .left
  have i:=run_append_room w 22 l 3 o Tryz.underlying22 p g r.length c B G b 1 n [Y z] (by rw[f];rfl) q A J (by rw[f,H];simp;omega);rw[j] at i;have s:a=Zx g (r.length+1) c:=by injection i
  exact⟨g,c,rfl,s,e⟩
 right;have K:=m.cells rfl;have i:=run_append_grow w 22 l 3 o (Y 0) Tryz.underlying22 p x (D g 0) r.length c (r.map (Value.int .i64)) (by rw[f];simp) K b 1 n [Y z] (by rw[f];rfl) q (by omega) (by omega) (growslice_fits (by omega) (by rw[y];omega));rw[j] at i;injection i with s L
 rw[s,L];exact⟨rfl,(jW w.heap.size w).drew.alloc (jF _) _⟩
def AR(h:qR k w (Zx n i m) (r++r1))(q:i=r.length+r1.length):qR k w (Zx n r.length m) r:=by
 obtain⟨s,a⟩:=h;refine⟨by simp,?_⟩;rcases a with⟨a,_⟩|⟨t,u,d,c,e,f,g,j,l,o⟩
 .cases a
 simp only[lH,qW,fG,and_true] at c;obtain⟨rfl,v,rfl⟩:=c;refine jE ⟨n,m,d,rfl,e,f,by rw[qB] at g;omega,j,l,?_⟩;have b:=xE (List.take (r.length*1)) o;rw[List.take_take,nP,qB] at b;rw[show min (r.length*1) ((r.length+r1.length)*1)=r.length*1 by omega] at b;rw[b];have p:r.length*1=(r.map (Value.int .i64)).length:=by simp
 rw[p,List.take_left]
def jDr{h:Array Oper}{o:Oper}{a:Act}{K:Act->N->Prop}{Q:Exit->Act->N->Prop}{E:Prop}(k:o.guard=none)(s x:Operand)(l:o.op=.call {callee:=.builtin .append,args:=#[s,x],argTypes:=#[22,22]})
 (e:Nat) (v:Zv) (d:Zn) (m:a.eval s=v) (n:qR e w v d) (i:Addr) (f:Nat) (z:Int) (p:a.eval x=.slice (some i) 1 f) (q:w.cell? i=some (Y z)) (r:d.length<=1000) (t:e<=w.heap.size)
 (u:∀b c,qR e c b (d++[z])->((∃g j,v=Zx g d.length j/\b=Zx g (d.length+1) j/\w.grownBy c (some g))\/(b.ownBlock=some w.heap.size/\Zb w c))->K (a.put o.dst b) c):
 if Region.wanted o (yielded h a.tmps)=true then Oper.wp Zf o a w K Q else E:=by
 have y:Region.wanted o (yielded h a.tmps)=true:=by simp[Region.wanted,k]
 rw[jB y];obtain⟨b,c,A,B,C⟩:=KE o.type n q r t (n:=f);unfold Oper.wp execOp;simp only[l,resolve,invoke,builtin,Sem.run_bind,Sem.run_pure,oH,List.map_toArray,yI,List.map_nil,m,p,A];exact u b c B C
def KD{i j:Zv}(n:qR k w i r)(b:Zb w u)(t:(∃g m,i=Zx g r.length m/\j=Zx g (r.length+1) m/\u.grownBy v (some g))\/(j.ownBlock=some u.heap.size/\Zb u v)):
 w.grownBy v i.ownBlock/\(∀a,a<w.heap.size->i.ownBlock≠some a->j.ownBlock≠some a)/\∀e,qR k e j (r++[z])->v.grownBy e j.ownBlock->qR k e i r/\w.grownBy e i.ownBlock:=by
 have x:=b.size;rcases t with⟨g,m,rfl,rfl,f⟩|⟨o,d⟩
 .have p:w.grownBy v (some g):=⟨f.os.trans b.os,f.tape.trans b.tape,f.output.trans b.output,kN x f.size,λa c h=>(f.block a (by omega) h).trans (b.block a c)⟩
  refine⟨p,λa _ h=>h,λe q h=>⟨AR q (by simp),p.trans h⟩⟩
 have y:=d.size;have s:∀a,a<w.heap.size->v.heap[a]? =w.heap[a]?:=λa c=>(d.block a (by omega)).trans (b.block a c);refine⟨⟨d.os.trans b.os,d.tape.trans b.tape,d.output.trans b.output,by omega,λa c _=>s a c⟩,λa c _ l=>by rw[o] at l;cases l;omega,λe q h=>?_⟩;have q:∀a,a<w.heap.size->e.heap[a]? =w.heap[a]?:=λa c=>(h.block a (by omega) (λl=>by rw[o] at l;cases l;omega)).trans (s a c);exact⟨vT n (λg f=>q g (kO n g f).2),h.os.trans (d.os.trans b.os),h.tape.trans (d.tape.trans b.tape),h.output.trans (d.output.trans b.output),by have:=h.size;omega,λa c _=>q a c⟩
def zR:T->Zn->List (Zn×T)
 |⟨v,f,b⟩,a=>(a,⟨v,f,b⟩)::plcsL b a 0
 where
 plcsL:Zt->Zn->Int->List (Zn×T)
  |[],_,_=>[]
  |c::d,a,n=>zR c (a++[n])++plcsL d a (n+1)
def Qc(t:T)(a:Zn):zR t a=(a,t)::zR.plcsL t.e a 0:=by cases t;rw[zR]
def AZ(a:Zn)(n:Int):zR.plcsL [] a n=[]:=by rw[zR.plcsL]
def AV(b:T)(c:Zt)(a:Zn)(n:Int):zR.plcsL (b::c) a n=zR b (a++[n])++zR.plcsL c a (n+1):=by rw[zR.plcsL]
def AY(a:l[k]? =some t):zR.plcsL (l.drop k) r (k:Int)=zR t (r++[(k:Int)])++zR.plcsL (l.drop (k+1)) r ((k+1:Nat):Int):=by
 have b:=(Zl a);rw[pN b,AV];have:l[k]=t:=by
  rw[jO b] at a;exact kT a
 rw[this];rw[show((k+1:Nat):Int)=(k:Int)+1 by omega]
structure zI where
 G:Zn
 t:T
 pa:Zo
 pc:Nat
 ta:Zo
 tc:Nat
def zI.val(x:zI):Zn×T:=(x.G,x.t)
def Fm(x:zI):Zy:=#[.slice x.pa x.G.length x.pc,.agg #[Y x.t.v,Y x.t.f,.slice x.ta x.t.e.length x.tc]]
def tD(x:zI)(k:Nat):Prop:=∃o,x.pa=some (D k o)
def pM(a:List (Zn×T))(K:Zp)(b:N)(pre:List zI)(x:zI)(A:N):Prop:=
 (∃c,a=pre.map zI.val++x.val::c)/\jV A x.G x.pa/\jT K b x.t.e x.ta
structure oG (K:Zp) (base:Nat) (v:Zv) (ys:Zn) (O O':Zp) (A B:N):Prop where
 below:Below 0 A B
 kk:∀k,K k->B.heap[k]? =A.heap[k]?
 own:∀k,k<A.heap.size->O k->v.ownBlock≠some k->B.heap[k]? =A.heap[k]?/\O' k
 here:qR base B v ys
 jp:∀g,v.ownBlock=some g->O' g
 new:∀k,O' k->O k\/A.heap.size<=k
 lt:∀k,O' k->k<B.heap.size
def TJ(h:jV w r a)(d:0<r.length):∃b c,a=some (D b c):=by
 obtain⟨b,c,h,_⟩:=pL h d;exact⟨b,c,h⟩
section plain
def MC(l:Nat)(H:r.length<=1000)(m:0<r.length)(i:jV w r (some (D k n))):
 Calls Zf 194 #[Zz k n r.length l] w λf h=>∃g b,f=.returned (Zx g r.length b)/\jV h r (some (D g 0))/\w.heap.size<=g/\g<h.heap.size/\Zb w h:=by
 have I:∀(w:N)(c:Zo)(a d e b:Nat),(binOp .eql 22 (.slice c a d) (.slice none e b)).run Zf w=.ok (.bool c.isNone) w:=λw c a d e b=>Lib.run_eql_slice_nil w _ _ c a d e b Go.Proofs.Tryz.underlying22;have v:Hid ((w.alloc (.cells #[] 3)).ownsRow w.heap.size 3 1 (Zx w.heap.size 0 0) 0 []):=⟨rfl,jE ⟨w.heap.size,0,#[],rfl,jF _,tT _ _,jF _,by decide,rfl,rfl⟩⟩;obtain⟨J,K,d,a⟩:=pL i m;simp only[qW,fG,and_true] at d;obtain⟨rfl,rfl⟩:=d
 have x:=X (show ∀j u,(r.map (Value.int .i64))[j]? =some u->(w.alloc (.cells #[] 3)).cell? (((D k n):Addr).add j)=some u by
  intro j u e;rw[bZ] at e;obtain⟨z,o,rfl⟩:=bQ.1 e;have p:=(Zl o);have:=a j p;rw[dI,o] at this
  exact(show((D k n):Addr).add j=(D k (n+j)) by simp[Addr.add])▸jP (jG w _) this)
 have y:Hid (∀u,u∈r.map (Value.int .i64)->u.oneCell'=true):=X (by
  intro u e;obtain⟨z,_,rfl⟩:=bP.1 e
  rfl)
 have u:Hid ((r.map (Value.int .i64)).length=r.length*1):=X (by simp);obtain⟨z,A,j⟩:=bQ.1 infoI;simp only[bG] at j;obtain⟨B,C,E⟩:=j;clear i a
 go_in
 go_wp2_with (at_builtin;go_must (refine wpList_append_lies _ rfl (.tmp 5) (.tmp 6) 22 rfl w.heap.size 3 z (Y 0) 1 8 Go.Proofs.Tryz.underlying22 A B C E rfl (by decide) (Zx w.heap.size 0 0) 0 [] rfl v (D k n) r.length l (r.map (Value.int .i64)) rfl u x y m (by unfold maxLen;omega) (by omega) (by simp) _ rfl ?_))
 intro g o e i a F p;have q:Zb w e:=by
  have t:(w.alloc (.cells #[] 3)).grownBy e (some w.heap.size):=a;refine⟨a.os,a.tape,a.output,kN (jG w _).size a.size,λs G=>?_⟩;rw[t.block s (by simp;omega) (λf=>by cases f;omega)];exact(jG w _).block s G
 have s:jV e r (some (D g 0)):=by
  have t:qR w.heap.size e (Zx g r.length o) r:=i;obtain⟨c,G,d,c,_⟩:=Gc t;simp only[lH,true_and] at d;rw[d.1];exact c
 have t:w.heap.size<=g:=(kO i g rfl).1;have G:=X q;have c:=X (jM s (jM t p));clear i a F p q s t;go_wp2;go_ret;exact⟨g,o,rfl,c.1,c.2.1,c.2.2,G⟩
end plain
def MA{v:Zv}(w:N)(g:r.length<=1000)(i:qR k w v r)(j:r=[]->v=Zd):
 Calls Zf 194 #[v] w λe a=>∃c l,e=.returned (.slice c r.length l)/\jV a r c/\(∀b o,c=some (D b o)->w.heap.size<=b/\b<a.heap.size)/\Zb w a:=by
 rcases Nat.eq_zero_or_pos r.length with m|d
 .obtain rfl:r=[]:=yM.1 m
  rw[j rfl];refine(LZ w).mono ?_;rintro e a ⟨rfl,rfl⟩;exact⟨none,0,rfl,jD rfl,λb o h=>(by cases h),jW _ _⟩
 obtain⟨s,n,rfl,f,_⟩:=Gc i;obtain⟨t,u,rfl⟩:=TJ f d;refine(MC n g d f).mono ?_;rintro e a ⟨x,y,rfl,p,z,A,q⟩;exact⟨_,_,rfl,p,λb o h=>(by simp only[qW,fG] at h;omega),q⟩
def dK(w:N):List Zn->Zo->Prop
 |[],_=>True
 |l::d,e=>∃b a c f,e=some (D b a)/\w.cell? (D b a)=some (.slice c l.length f)/\jV w l c/\dK w d (some (D b (a+1)))
def gP(c:Zb w u):∀{a:List Zn}{b:Zo},dK w a b->dK u a b:=by
 intro a;induction a with
 |nil=>intro b _;trivial
 |cons m a d=>
  intro b h;obtain⟨e,f,g,i,rfl,j,k,l⟩:=h;exact⟨e,f,g,i,rfl,jH c j,kD c k,d l⟩
def Nk{b:List Zn}(h:dK w b a)(e:0<b.length):∃c d,a=some (D c d):=by
 cases b with
 |nil=>simp at e
 |cons l b=>obtain⟨c,d,_,_,rfl,_⟩:=h;exact⟨c,d,rfl⟩
def Nj:∀{b:List Zn}{c a k:Nat}{l:Zn},dK w b (some (D c a))->b[k]? =some l->∃d e,w.cell? (D c (a+k))=some (.slice d l.length e)/\jV w l d:=by
 intro b;induction b with
 |nil=>intro c a k l _ h;simp at h
 |cons s b i=>
  intro c a k l h f;obtain⟨t,u,d,e,g,j,m,n⟩:=h;simp only[qW,fG] at g;obtain⟨rfl,rfl,_⟩:=g
  cases k with
  |zero=>simp at f;subst f;exact⟨d,e,by simpa using j,m⟩
  |succ k=>
   obtain⟨o,p,q,r⟩:=i n (by simpa using f);exact⟨o,p,by rw[show a+(k+1)=a+1+k by omega];exact q,r⟩
def gG(n:Int):Nat->Int
 |0=>1
 |k+1=>gG n k*n
def Qd(c:1<=z)(d:z<=3):∀k,1<=gG z k/\(k<=3->gG z k<=27)/\(k<=8->gG z k<=6561):=by
 have b:∀k,1<=gG z k/\gG z k<=(3:Int) ^ k:=by
  intro k;induction k with
  |zero=>simp[gG]
  |succ k a=>
   rw[gG,Int.pow_succ];refine⟨?_,?_⟩
   .have:=Mh a.1 c (by omega) (by omega);omega
   exact Mh a.2 d (by omega) (by have:=a.1;have:=a.2;omega)
 intro k;refine⟨(b k).1,λa=>?_,λa=>?_⟩
 .have e:=(b k).2
  have f:(3:Int) ^ k<=27:=by
   match k,a with
   |0,_=>decide
   |1,_=>decide
   |2,_=>decide
   |3,_=>decide
  omega
 have e:=(b k).2;have f:(3:Int) ^ k<=6561:=by
  match k,a with
  |0,_=>decide
  |1,_=>decide
  |2,_=>decide
  |3,_=>decide
  |4,_=>decide
  |5,_=>decide
  |6,_=>decide
  |7,_=>decide
  |8,_=>decide
 omega
def yU(n:Int)(a:Zn):Bool:=a.all (λz=>decide (0<=z/\z<n))
def lW(n:Int):Zn->List Zn->Bool
 |[],[]=>true
 |a::b,l::c=>decide ((l.length:Int)=gG n a.toNat) && lW n b c
 |_,_=>false
def tA(a:Zn)(n:Int)(b:List Zn):Int:=
 if qT a=0 then(if n<1\/3<n then 3 else if lW n a b then(if b.all (yU n) then 0 else 5) else 1) else qT a
def jAe(w:N)(e:1<=z)(f:z<=3)(o:k<=3):Calls Zf 30 #[Y z,Y (k:Int)] w λg h=>g=.returned (Y (gG z k))/\h=w:=by
 have d:=X (Qd e f)
 go_in
 go_wp2
 go_loopw [5,7] (λp i wr=>∃j:Nat,j<=k/\i=Y j/\p=Y (gG z j)/\Hid (wr=w)) (λ_ i _=>k - (intOf i).toNat)
 case atStart=>exact⟨0,jY _,rfl,rfl,rfl⟩
 case round=>
  obtain⟨j,p,rfl,rfl,i⟩:=hrel;obtain rfl:=(Eq.symm i);by_cases q:j<k
  .have r:(j:Int)<k:=by omega
   have a:=d j;have b:=d (j+1);have c:gG z (j+1)=gG z j*z:=rfl;have s:=a.2.1 (by omega);have l:=b.2.1 (by omega);have t:=a.1;have m:=b.1;have n:=X c;rw[c] at l m;clear a b c;generalize gG z j=P at*
   go_wp2_with fail
   go_roundw
   case rel=>exact⟨j+1,by omega,by go_num,by rw[n.out],trivial⟩
   case measure=>simp[intOf];omega
  have a:j=k:=by omega
  subst a;go_wp2;go_ret;exact⟨rfl,rfl⟩
def JH(a:Int)(c:w.cell? (D k 0)=some (Y z)):Calls Zf 50 #[Y a,Zr k] w λe b=>e=.returned (.bool (!decide (0<=a/\a<z)))/\b=w:=by
 go_in
 by_cases h:a<0
 .have e:(!decide (0<=a/\a<z))=true:=by simp;omega
  rw[e];go_wp2;go_ret;exact⟨rfl,rfl⟩
 by_cases d:z<=a
 .have e:(!decide (0<=a/\a<z))=true:=by simp;omega
  rw[e];go_wp2;go_ret;exact⟨rfl,rfl⟩
 have e:(!decide (0<=a/\a<z))=false:=by simp;omega
 rw[e];go_wp2;go_ret;exact⟨rfl,rfl⟩
theorem PI(a:Zy)(w:N):(callFunc 50 a).run Zf w=.ok (.enter 50 a) w:=by kernel_rfl
theorem PD(a:Zy)(w:N):(callFunc 29 a).run Zf w=.ok (.enter 29 a) w:=by kernel_rfl
theorem PE(a:Zy)(w:N):(callFunc 32 a).run Zf w=.ok (.enter 32 a) w:=by kernel_rfl
def JG(a:k<r.length)(h:yU z (r.take k)=true):(decide (0<=r.getD k 0/\r.getD k 0<z)=true->yU z (r.take (k+1))=true)/\(decide (0<=r.getD k 0/\r.getD k 0<z)=false->yU z r=false):=by
 have c:r.getD k 0=r[k]:=by rw[dI,jO a];rfl
 constructor
 .intro b
  rw[yU,vZ,jO a,Ei];rw[yU] at h;rw[h,<-c];simpa using b
 intro b;rw[yU,Be];exact⟨r[k],uV a,by rw[<-c,b];decide⟩
def TC(m:Nat)(f:jV w r a)(s:r.length<=9223372036854775807)(n:w.cell? (D k 0)=some (Y z)):
 Calls Zf 72 #[.slice a r.length m,.func (.func 50) #[] #[Zr k]] w λh j=>(∃i:Int,h=.returned (Y i)/\decide (0<=i)= !yU z r)/\j=w:=by
 have t:=PI;have o:=X (λc=>JH c n);have p:=X f;clear f
 go_in
 go_wp2
 go_loopw [8] (λi wr=>∃b:Nat,b<=r.length/\i=Y b/\Hid (yU z (r.take b)=true)/\Hid (wr=w)) (λi _=>r.length - (intOf i).toNat)
 case atStart=>exact⟨0,jY _,rfl,rfl,rfl⟩
 case round=>
  obtain⟨b,u,rfl,d,q⟩:=hrel;obtain rfl:=(Eq.symm q);by_cases l:b<r.length
  .obtain⟨v,x,rfl,g⟩:=pL p (by omega)
   have y:=g b l;have e:=X (JG l d);have f:(b:Int)<r.length:=(by omega);have A:(0:Int)<=b:=(by omega);clear g d;generalize r.getD b 0=c at*
   go_wp2_with fail
   refine(o c).mono ?_;rintro h j ⟨rfl,g⟩;obtain rfl:=g.symm
   cases hd:decide (0<=c/\c<z) with
   |true=>
    have c:=X (e.1 hd);clear e hd g;simp only[Bool.not_true]
    go_wp2_with fail
    go_roundw
    case rel=>exact⟨b+1,by omega,by go_num,c,trivial⟩
    case measure=>simp[intOf];omega
   |false=>
    have c:=X (e.2 hd);clear e hd g;simp only[Lz];go_wp2;go_ret;exact⟨⟨b,rfl,by rw[c.out];simp⟩,rfl⟩
  have c:b=r.length:=by omega
  subst c;rw[qU] at d;go_wp2;go_ret;exact⟨⟨-1,rfl,by rw[d.out];rfl⟩,rfl⟩
def Tw(n:Int)(d:Nat)(f:jV w r a)(i:r.length<=9223372036854775807):
 Calls Zf 26 #[Y n,.slice a r.length d] w λe b=>e=.returned (.bool (yU n r))/\Zb w b:=by
 have g:=X (λb(c:b=w.alloc (.cells #[Y n] 3))=>TC d (c▸qD _ f) i (c▸jJ 0 rfl));have j:Hid (∀(b:N),b=w.alloc (.cells #[Y n] 3)->Calls Zf 49 #[Zk a r d,.func (.func 50) #[] #[Zr w.heap.size]] b λe h=>e=.returned (.bool (!yU n r))/\h=b):=λb c=>by
  have k:=X (g b c);clear c
  go_in
  go_wp2_with fail
  refine k.mono ?_;rintro e m ⟨⟨o,rfl,c⟩,h⟩;obtain rfl:=h.symm;have l:=X c;clear c h;go_wp2;go_ret;exact⟨vO l,rfl⟩
 clear g f
 go_in
 go_wp2_with fail
 refine(j _ rfl).mono ?_;rintro e f ⟨rfl,c⟩;obtain rfl:=c.symm;clear c;go_wp2;go_ret;exact⟨by simp,jG _ _⟩
def UE:∀{b:Zn}{a:List Zn},b.length≠a.length->lW z b a=false:=by
 intro b;induction b with
 |nil=>
  intro a h
  cases a with
  |nil=>simp at h
  |cons l a=>rfl
 |cons d b c=>
  intro a h
  cases a with
  |nil=>rfl
  |cons l a=>
   rw[lW,c (λe=>h (by simp[e]))];simp
def UD{a:List Zn}(c:k<r.length)(b:a[k]? =some r1):lW z (r.drop k) (a.drop k)=(decide ((r1.length:Int)=gG z (r.getD k 0).toNat) && lW z (r.drop (k+1)) (a.drop (k+1))):=by
 have d:=(Zl b);have e:a.drop k=r1::a.drop (k+1):=by
  rw[jO d] at b;simp at b;rw[<-b,cJ]
 have f:r.drop k=r.getD k 0::r.drop (k+1):=by
  rw[dI,jO c];show _=r[k]::_;rw[cJ]
 rw[e,f,lW]
def Qn(h:qT r=0)(a:k<r.length):0<=r.getD k 0/\r.getD k 0<=3:=by
 rw[qT] at h;split at h
 .cases h
 split at h
 .rename_i b
  rw[uS] at b;have c:r.getD k 0=r[k]:=by rw[dI,jO a];rfl
  have d:=b r[k] (uV a);rw[c];simpa using d
 cases h
def CS(h:qT r=0):r.length<=12:=by
 rw[qT] at h;split at h
 .cases h
 omega
def LK(n:Int)(k:Nat)(g:Zo)(a h b:Nat)(w:N)(i:1<=n)(j:n<=3)(l:k<=3)(m:w.cell? (D b 0)=some (Y n)):
 Calls Zf 29 #[Y (k:Int),.slice g a h,Zr b] w λe c=>e=.returned (.bool (decide ((a:Int)=gG n k)))/\c=w:=by
 have d:=X (jAe w i j l);obtain⟨P,f⟩:=Ze (gG n k);rw[<-f] at d ⊢;clear f
 go_in
 go_wp2_with fail
 refine d.mono ?_;rintro e c ⟨rfl,f⟩;obtain rfl:=f.symm;clear f;go_wp2;go_ret;exact⟨vO (by rw[eJ];simp),rfl⟩
def PX(y:Nat){c:List Zn}(A:Nat)(e:qT r=0)(B:1<=z)(C:z<=3)(g:jV w r a)(l:dK w c a1)(E:w.cell? (D k 0)=some (Y z)):
 Calls Zf 28 #[.slice a r.length y,.slice a1 c.length A,.func (.func 29) #[] #[Zr k]] w λp q=>p=.returned (.bool (lW z r c))/\q=w:=by
 have O:=PD;have F:=X (λb h f i d=>LK z b h f i k w B C d E);have G:=X g;have s:=X l;have H:=X (λb d=>Qn (k:=b) e d);have P:=CS e;obtain⟨Z,f⟩:=Ze (lW z r c);rw[<-f];have j:=X f;clear g l e f
 go_in
 by_cases f:r.length=c.length
 .have I:((r.length:Int) !=c.length)=false:=by simp;omega
  have t:=X f;clear f
  go_wp2_with fail
  go_loopw [17] (λe wr=>∃b:Nat,b<=r.length/\e=Y b/\Hid (Z=lW z (r.drop b) (c.drop b))/\Hid (wr=w)) (λe _=>r.length - (intOf e).toNat)
  case atStart=>exact⟨0,jY _,rfl,by rw[uU,uU];exact j,rfl⟩
  case round=>
   obtain⟨b,d,rfl,g,J⟩:=hrel;obtain rfl:=(Eq.symm J);by_cases l:b<r.length
   .obtain⟨Q,R,rfl,u⟩:=pL G (by omega)
    have K:b<c.length:=(by have:=t.out;omega);obtain⟨S,U,rfl⟩:=Nk s (by omega);obtain⟨v,n⟩:=Zg K;obtain⟨h,i,V,_⟩:=Nj s n;have L:=u b l;have d:=UD (z:=z) l n;rw[<-g.out] at d;have o:=H b l;obtain⟨m,x⟩:=uO o.1;rw[x] at L d o;rw[show((m:Int)).toNat=m from rfl] at d;have e:=X d;have M:=X (F m h v.length i (by omega));have h:(b:Int)<r.length:=(by omega);have i:(b:Int)<c.length:=(by omega);have W:(0:Int)<=b:=(by omega);clear u n d x o g
    go_wp2_with fail
    refine M.out.mono ?_;rintro p q ⟨rfl,d⟩;obtain rfl:=d.symm;clear d
    cases hd:decide ((v.length:Int)=gG z m) with
    |true=>
     rw[hd,rA] at e;clear hd
     go_wp2_with fail
     go_roundw
     case rel=>exact⟨b+1,by omega,by go_num,e,trivial⟩
     case measure=>simp[intOf];omega
    |false=>
     rw[hd,Ea] at e;obtain rfl:Z=false:=e.out;clear hd e
     go_wp2_with fail
     go_ret;exact⟨rfl,rfl⟩
   have d:b=r.length:=(by omega);subst d;obtain rfl:Z=true:=by
    rw[g.out,dX,show r.length=c.length from t.out,dX];rfl
   clear g
   go_wp2_with fail
   go_ret;exact⟨rfl,rfl⟩
 have I:((r.length:Int) !=c.length)=true:=by simp;omega
 obtain rfl:Z=false:=by rw[j.out,UE f]
 clear f j
 go_wp2_with fail
 go_ret;exact⟨rfl,rfl⟩
def LL(b:Nat)(c:jV w r a)(f:r.length<=9223372036854775807)(h:w.cell? (D k 0)=some (Y z)):
 Calls Zf 32 #[.slice a r.length b,Zr k] w λe d=>e=.returned (.bool (!yU z r))/\Zb w d:=by
 have HA:=X (Tw z b c f);clear c
 go_in
 go_wp2_with fail
 refine HA.mono ?_;rintro e d ⟨rfl,c⟩;have g:=X c;clear c;go_wp2;go_ret;exact⟨rfl,g⟩
def JE{a:List Zn}(b:a[k]? =some r)(h:(a.take k).all (yU z)=true):(yU z r=true->(a.take (k+1)).all (yU z)=true)/\(yU z r=false->a.all (yU z)=false):=by
 have d:=(Zl b);constructor
 .intro c
  rw[vZ,b,Ei,h];simpa using c
 intro c;rw[Be];exact⟨r,jU b,by rw[c];decide⟩
def TA{b:List Zn}(p:Nat)(c:dK w b a)(v:b.length<=1000)(d:∀l,l∈b->l.length<=1000)(e:w.cell? (D k 0)=some (Y z)):
 Calls Zf 51 #[.slice a b.length p,.func (.func 32) #[] #[Zr k]] w λh j=>(∃i:Int,h=.returned (Y i)/\decide (0<=i)= !b.all (yU z))/\Zb w j:=by
 have x:=PE;have q:=X e;have m:=X c;have r:=X d;clear c e d
 go_in
 go_wp2
 go_loopw [8] (λi wr=>∃c:Nat,c<=b.length/\i=Y c/\Hid ((b.take c).all (yU z)=true)/\Hid (Zb w wr)) (λi _=>b.length - (intOf i).toNat)
 case atStart=>exact⟨0,jY _,rfl,rfl,jW _ _⟩
 case round=>
  obtain⟨c,y,rfl,e,d⟩:=hrel;by_cases s:c<b.length
  .obtain⟨A,B,rfl⟩:=Nk m (by omega)
   obtain⟨l,f⟩:=Zg s;obtain⟨C,t,u,n⟩:=Nj (gP d m) f;have g:=X (JE f e);have E:=r l (jU f);have o:=X (LL t n (by omega) (jH d q));have F:(c:Int)<b.length:=(by omega);have G:(0:Int)<=c:=(by omega);clear f n e
   go_wp2_with fail
   refine o.mono ?_;rintro h j ⟨rfl,f⟩;have n:=X (d.trans (f.mono d.size));clear f o u
   cases hd:yU z l with
   |true=>
    have f:=X (g.1 hd);clear g hd;simp only[Bool.not_true]
    go_wp2_with fail
    go_roundw
    case rel=>exact⟨c+1,by omega,by go_num,f,n⟩
    case measure=>simp[intOf];omega
   |false=>
    have f:=X (g.2 hd);clear g hd;simp only[Lz];go_wp2;go_ret;exact⟨⟨c,rfl,by rw[f.out];simp⟩,n⟩
  have f:c=b.length:=by omega
  subst f;rw[qU] at e;go_wp2;go_ret;exact⟨⟨-1,rfl,by rw[e.out];rfl⟩,d⟩
def MW{b:List Zn}(c:Nat)(d:dK w b a)(i:b.length<=1000)(e:∀l,l∈b->l.length<=1000)(f:w.cell? (D k 0)=some (Y z)):
 Calls Zf 31 #[.slice a b.length c,.func (.func 32) #[] #[Zr k]] w λg h=>g=.returned (.bool (!b.all (yU z)))/\Zb w h:=by
 have j:=X (TA c d i e f);clear d e f
 go_in
 go_wp2_with fail
 refine j.mono ?_;rintro g h ⟨⟨n,rfl,d⟩,e⟩;have f:=X d;have m:=X e;clear d e;go_wp2;go_ret;exact⟨vO f,m⟩
def UF:∀{b:Zn}{a:List Zn},(∀c,c∈b->c<=k)->lW z b a=true->b.length=a.length/\∀l,l∈a->∃m,m<=k/\(l.length:Int)=gG z m:=by
 intro b;induction b with
 |nil=>
  intro a _ h
  cases a with
  |nil=>exact⟨rfl,λl d=>by cases d⟩
  |cons l a=>cases h
 |cons c b f=>
  intro a e h
  cases a with
  |nil=>cases h
  |cons l a=>
   rw[lW,yY,decide_eq_true_eq] at h;obtain⟨g,i⟩:=f (λx d=>e x (by simp[d])) h.2;refine⟨by simp[g],λm d=>?_⟩;rcases qO.1 d with rfl|d
   .exact⟨c.toNat,by have:=e c (by simp);omega,h.1⟩
   exact i m d
def Pq(h:Nat)(n:Int){b:List Zn}(i:Nat)(e:jV w r a)(p:dK w b a1):
 Calls Zf 13 #[.agg #[.slice a r.length h],.agg #[Y n,.slice a1 b.length i]] w λl q=>l=.returned (Y (tA r n b))/\Zb w q:=by
 obtain⟨j,c⟩:=Ze ((w.alloc (.cells #[Zk a r h] 24)).alloc (.cells #[Y n,Zk a1 b i] 28));have f:Zb w j:=by rw[c];exact(jG _ _).alloc (by simp) _
 have H:j.heap.size=w.heap.size+2:=by rw[c];simp
 have s:j.cell? (D w.heap.size 0)=some (Zk a r h):=by rw[c,kW (by simp)];exact jJ 0 rfl
 have t:j.cell? (D (w.heap.size+1) 0)=some (Y n):=by rw[c];exact jJ 0 (by simp)
 have u:j.cell? (D (w.heap.size+1) 1)=some (Zk a1 b i):=by rw[c];exact jJ 1 (by simp)
 have g:=X (Lo h (kD f e));obtain⟨E,k⟩:=Ze (qT r);obtain⟨Z,o⟩:=Ze (tA r n b);rw[<-k] at g;rw[<-o];have d:=X k;have m:=X o;have y:=X e;have v:=X p;have x:=X c;have z:=X f;clear k o e p c f
 go_in
 go_wp2_with fail
 rw[<-x.out];refine g.mono ?_;rintro l I ⟨rfl,e⟩;have J:=e.size;have K:=jH e s;have cW:=jH e t;have A:=jH e u;have c:=X (z.trans (e.mono (by omega)));clear e g s t u x;by_cases e:E=0
 .have f:Hid (Z=if n<1\/3<n then 3 else if lW n r b then(if b.all (yU n) then 0 else 5) else 1):=by show _=_;rw[m.out,tA,jB (d.out.symm.trans e)]
  have o:=X (d.symm.trans e);subst e;clear m d;by_cases x:n<1
  .obtain rfl:Z=3:=by rw[f.out,jB (jD x)]
   clear f;go_wp2;go_ret;exact⟨rfl,c⟩
  by_cases B:3<n
  .obtain rfl:Z=3:=by rw[f.out,jB (jE B)]
   clear f;go_wp2;go_ret;exact⟨rfl,c⟩
  have g:Hid (Z=if lW n r b then(if b.all (yU n) then 0 else 5) else 1):=by show _=_;rw[f.out,jC (by omega)]
  have k:=X (PX h i o (by omega) (by omega) (kD c y) (gP c v) cW);have L:=X A;have C:=X cW;clear f
  go_wp2_with fail
  refine k.mono ?_;rintro l q ⟨rfl,f⟩;obtain rfl:=f.symm;clear f k
  cases k:lW n r b with
  |false=>
   rw[k] at g;obtain rfl:Z=1:=by rw[g.out];simp
   clear g k;go_wp2;go_ret;exact⟨rfl,c⟩
  |true=>
   rw[k] at g;have f:Hid (Z=if b.all (yU n) then 0 else 5):=by show _=_;rw[g.out];simp
   have p:=UF (λs u=>by
    obtain⟨s,t,rfl⟩:=Sg.1 u;have u:=Qn o t;have F:r.getD s 0=r[s]:=by rw[dI,jO t];rfl
    rw[F] at u;exact u.2) k
   have M:=CS o
   have s:=X (MW i (gP c v) (by omega) (λt u=>by
    obtain⟨F,G,O⟩:=p.2 t u;have:=(Qd (by omega) (by omega) F).2.1 G
    omega) C)
   clear g k p
   go_wp2_with fail
   refine s.mono ?_;rintro l p ⟨rfl,g⟩;have k:=X (c.trans (g.mono c.size));clear g s
   cases g:b.all (yU n) with
   |true=>
    rw[g] at f;obtain rfl:Z=0:=by rw[f.out];simp
    clear f g;go_wp2;go_ret;exact⟨rfl,k⟩
   |false=>
    rw[g] at f;obtain rfl:Z=5:=by rw[f.out];simp
    clear f g;go_wp2;go_ret;exact⟨rfl,k⟩
 have g:(E !=0)=true:=by simpa using e
 obtain rfl:Z=E:=by rw[m.out,tA,jC (λf=>e (d.out.trans f)),d.out]
 clear m d e;go_wp2;go_ret;exact⟨rfl,c⟩
def kM(n:Int)(a:List Zn)(f:Int->Int):T->Int
 |⟨v,b,c⟩=>if v≠0 then f v else(a.getD b.toNat []).getD (rowL c 0).toNat 0
 where
 rowL:Zt->Int->Int
  |[],r=>r
  |d::l,r=>rowL l (r*n+kM n a f d)
def tL(n:Int)(a:List Zn)(f:Int->Int)(t:T):kM n a f t=if t.v≠0 then f t.v else(a.getD t.f.toNat []).getD (kM.rowL n a f t.e 0).toNat 0:=by cases t;rw[kM]
def ZY(n:Int)(b:List Zn)(f:Int->Int)(a c:Zt):∀r,kM.rowL n b f (a++c) r=kM.rowL n b f c (kM.rowL n b f a r):=by
 induction a with
 |nil=>intro r;rfl
 |cons t a d=>intro r;rw[dW,kM.rowL,kM.rowL,d]
def BV{a:List Zn}{f:Int->Int}(b:l[k]? =some t)(r:Int):kM.rowL z a f (l.take (k+1)) r=kM.rowL z a f (l.take k) r*z+kM z a f t:=by
 rw[vZ,b,ZY];rfl
structure gM (ar:Zn) (n:Int) (ls:List Zn):Prop where
 sig:qT ar=0
 lo:1<=n
 hi:n<=3
 lens:lW n ar ls=true
 all:ls.all (yU n)=true
def gM.of{a:List Zn}(h:tA r z a=0):gM r z a:=by
 rw[tA] at h;by_cases b:qT r=0
 .rw[jB b] at h
  by_cases d:z<1\/3<z
  .rw[jB d] at h;cases h
  rw[jC d] at h
  cases c:lW z r a with
  |false=>rw[c] at h;cases h
  |true=>
   rw[c] at h
   cases e:a.all (yU z) with
   |false=>rw[e] at h;cases h
   |true=>exact⟨b,by omega,by omega,c,e⟩
 rw[jC b] at h;exact jN h b
def UG:∀{a:Zn}{b:List Zn}{k:Nat},lW z a b=true->k<a.length->∃l,b[k]? =some l/\(l.length:Int)=gG z (a.getD k 0).toNat:=by
 intro a;induction a with
 |nil=>intro b k _ c;simp at c
 |cons g a d=>
  intro b k h c
  cases b with
  |nil=>cases h
  |cons l b=>
   rw[lW,yY,decide_eq_true_eq] at h
   cases k with
   |zero=>exact⟨l,rfl,h.1⟩
   |succ k=>
    obtain⟨m,e,f⟩:=d h.2 (by simpa using c);exact⟨m,by simpa using e,by simpa using f⟩
def gM.table{b:List Zn}(h:gM r z b)(k:jQ r t)(q:t.v=0):∃l,b[t.f.toNat]? =some l/\0<=t.f/\t.f<b.length/\(l.length:Int)=gG z t.e.length/\t.e.length<=3/\∀(i:Nat),i<l.length->0<=l.getD i 0/\l.getD i 0<z:=by
 have a:=(vW.1 k).1;rw[xU,jC (by omega)] at a;by_cases e:t.f<0\/(r.length:Int)<=t.f
 .rw[jB e] at a;cases a
 rw[jC e] at a;have m:(t.e.length:Int)=r.getD t.f.toNat 0:=by
  by_cases c:(t.e.length:Int)≠r.getD t.f.toNat 0
  .rw[jB c] at a;cases a
  omega
 have f:t.f.toNat<r.length:=by omega
 obtain⟨l,c,d⟩:=UG h.lens f;have n:=Qn h.sig f;rw[<-m] at d n;rw[pK] at d;have s:=(Zl c);refine⟨l,c,by omega,by omega,d,by omega,λi g=>?_⟩;have j:=uS.1 h.all l (jU c);rw[yU,uS] at j;have o:l.getD i 0=l[i]:=by rw[dI,jO g];rfl
 have p:=j l[i] (uV g);rw[o];simpa using p
def Le(a:s∈t.e)(b:t1∈qV s):t1∈qV t:=by
 rw[lN];refine vD.2 (jD ?_);have c:∀(l:Zt),s∈l->t1∈qV.partsL l:=by
  intro l;induction l with
  |nil=>intro h;cases h
  |cons e l d=>
   intro h;rw[oU];rcases qO.1 h with rfl|h
   .exact vD.2 (jD b)
   exact vD.2 (jE (d h))
 exact c _ a
def Lf(t:T):t∈qV t:=by rw[lN];simp
def jAb(c:1<=z)(a:0<=z2)(d:z2<z1)(e:0<=z3)(f:z3<z):0<=z2*z+z3/\z2*z+z3<z1*z:=by
 have g:0<=z2*z:=Int.mul_nonneg a (by omega);have b:(z2+1)*z<=z1*z:=Int.mul_le_mul_of_nonneg_right (by omega) (by omega);rw[Int.add_mul,Int.one_mul] at b;exact⟨by omega,by omega⟩
def Rd{a:List Zn}{f:Int->Int}(h:gM r z a):∀(b:Nat)(t:T),t.E<=b->jQ r t->(∀x,x∈qV t->x.v≠0->0<=f x.v/\f x.v<z)->(0<=kM z a f t/\kM z a f t<z)/\∀k,k<=t.e.length->0<=kM.rowL z a f (t.e.take k) 0/\kM.rowL z a f (t.e.take k) 0<gG z k:=by
 intro b;induction b with
 |zero=>intro t j;have:=t.I;omega
 |succ b l=>
  intro t j d e;have u:=T.M t;have g:∀k,k<=t.e.length->0<=kM.rowL z a f (t.e.take k) 0/\kM.rowL z a f (t.e.take k) 0<gG z k:=by
   intro k;induction k with
   |zero=>intro _;exact⟨mE _,by show(0:Int)<1;decide⟩
   |succ k m=>
    intro v;obtain⟨x,i⟩:∃x,t.e[k]? =some x:=⟨t.e[k]'(by omega),jO (by omega)⟩;have c:=jU i;have w:=T.W c;obtain⟨n,o⟩:=m (by omega);obtain⟨⟨p,q⟩,_⟩:=l x (by omega) (nH.1 (vW.1 d).2 x c) (λy s=>e y (Le c s));rw[BV i,gG];exact jAb h.lo n o p q
  refine⟨?_,g⟩;rw[tL];by_cases c:t.v≠0
  .rw[jB c];exact e t (Lf t) c
  rw[jC c];obtain⟨i,m,_,_,q,_,n⟩:=h.table d (by omega);have o:=g t.e.length (jF _);rw[qU] at o;have p:a.getD t.f.toNat []=i:=by rw[dI,m];rfl
  rw[p];exact n _ (by omega)
def Lr{c:List Zn}{f g:Int->Int}:∀(d:Nat)(t:T),t.E<=d->(∀x,x∈qV t->x.v≠0->f x.v=g x.v)->kM z c f t=kM z c g t:=by
 intro d;induction d with
 |zero=>intro t j;have:=t.I;omega
 |succ d k=>
  intro t j e;have p:=T.M t;rw[tL,tL];by_cases b:t.v≠0
  .rw[jB b,jB b];exact e t (Lf t) b
  rw[jC b,jC b];have m:∀(l:Zt)(r:Int),(∀a,a∈l->a∈t.e)->kM.rowL z c f l r=kM.rowL z c g l r:=by
   intro l;induction l with
   |nil=>intro r _;rfl
   |cons a l l=>
    intro r h;have i:=h a (by simp);have q:=T.W i;rw[kM.rowL,kM.rowL,k a (by omega) (λx n=>e x (Le i n)),l _ (λn o=>h n (by simp[o]))]
  rw[m _ _ (λa a=>a)]
theorem Tryz.jw:Zf.underlying 59=some (.map 3 3):=by kernel_rfl
def vS(w:N)(b m:Nat)(g:Int->Option Int):Prop:=kU w b m (λk=>(g k).map (Value.int .i64))
def vS.below{g:Int->Option Int}(h:vS w k n g)(a:Zb w u):vS u k n g:=kU.below h a
def Ov(g:Int->Option Int)(k:Int):(((g k).map (Value.int .i64)).getD (Y 0))=Y ((g k).getD 0):=by cases g k<;>rfl
def XS(h:jQ r t)(b:t.v≠0):1<=t.v/\t.v<=1000:=by
 have a:=(vW.1 h).1;rw[xU,jB b] at a;by_cases c:t.v<1\/1000<t.v
 .rw[jB c] at a;cases a
 omega
def Rf{a:List Zn}(l:gM r z a)(h:Zo)(p W aj:Nat)(g:Int->Option Int)(A:Nat):∀(t:T)(i:Zo)(q:Nat)(w:N),t.E<=A->jQ r t->(∀x,x∈qV t->x.v≠0->0<=(g x.v).getD 0/\(g x.v).getD 0<z)->vS w W aj g->dK w a h->InL w t.e i->
 Calls Zf 22 #[.map (some W),.agg #[Y z,.slice h a.length p],.agg (Zj t i q)] w λB b=>B=.returned (Y (kM z a (λk=>(g k).getD 0) t))/\Zb w b:=by
 induction A with
 |zero=>intro t i q w hN;have:=t.I;omega
 |succ A m=>
  intro t i q w hN n v y F G;have ak:=X m;have a0:=T.M t;have Hf:=X v;have C:=X n;have s:=X l;obtain⟨j,c⟩:=Ze ((w.alloc (.cells #[Y z,Zk h a p] 28)).alloc (.cells (Zj t i q) 43));have H:Zb w j:=c▸kF _ _ _;have a1:j.heap.size=w.heap.size+2:=by rw[c];simp
  have o:j.cell? (D w.heap.size 0)=some (Y z):=by rw[c,kW (by simp)];exact jJ 0 rfl
  have u:j.cell? (D w.heap.size 1)=some (Zk h a p):=by rw[c,kW (by simp)];exact jJ 1 rfl
  have E:jK j (w.heap.size+1) (Y t.v) (Y t.f) (Zk i t.e q):=by rw[c];exact jK.new 43 (by simp)
  have HM:=X y;have M:=X F;have aa:=X G;have ab:=X H;have al:=X c;obtain⟨Z,d⟩:=Ze (kM z a (λk=>(g k).getD 0) t);rw[<-d];have e:=X d;clear m v n y F G H d l;by_cases d:t.v≠0
  .have am:(t.v !=0)=true:=by simpa using d
   have n:=XS C d;have O:=kU.look (kU.below HM ab) (t:=59) Tryz.jw (Tryz.jy _) (k:=t.v) (by omega) (by omega);rw[Ov] at O;have l:Hid (Z=(g t.v).getD 0):=(by show _=_;rw[e.out,tL,jB d]);rw[c] at O;rw[<-l.out] at O;clear d n l e c o u E
   go_in
   go_wp2;go_ret;exact⟨rfl,kF _ _ _⟩
  have v:t.v=0:=by omega
  obtain⟨m,y,an,a2,F,ao,G⟩:=s.table C v;have n:=Rd (f:=λk=>(g k).getD 0) s (A+1) t hN C Hf;have ap:=X n.2;have l:Hid (Z=m.getD (kM.rowL z a (λk=>(g k).getD 0) t.e 0).toNat 0):=by
   show _=_;rw[e.out,tL,jC d];have B:a.getD t.f.toNat []=m:=(by rw[dI,y];rfl);rw[B]
  have aq:=s.lo;have ac:=s.hi;have HP:=X (Qd aq ac);have am:(t.v !=0)=false:=by simpa using v
  have Hl:=X y;have ar:=X F;have a3:=X G;have H3:=X E;have ad:=X o;have ae:=X u;rw[c] at E;obtain⟨q0,q1,q2,_,_,_⟩:=E;clear d v n y F G e c o u
  go_in
  go_wp2_with fail
  rw[<-al.out]
  go_loopw [7,20] (λd c wr=>∃k:Nat,k<=t.e.length/\c=Y k/\d=Y (kM.rowL z a (λk=>(g k).getD 0) (t.e.take k) 0)/\Hid (Zb j wr)) (λ_ c _=>t.e.length - (intOf c).toNat)
  case atStart=>exact⟨0,jY _,rfl,rfl,jW _ _⟩
  case round=>
   obtain⟨k,hk,rfl,rfl,n⟩:=hrel;have au:=n.size;have u:=X (ab.trans (n.mono (by omega)));have o:=ap k hk;by_cases av:k<t.e.length
   .obtain⟨a4,a5,rfl⟩:=dV aa (by omega)
    obtain⟨x,G⟩:=Zg av;obtain⟨v,y,_,k0,k1,k2,af⟩:=dT (jI u aa) G;have H:=jU G;have aw:=T.W H;have P:=nH.1 (vW.1 C).2 x H;have Q:=λc e=>Hf c (Le H e);have ax:=(Rd (f:=λk=>(g k).getD 0) s x.E x (jF _) P Q).1;have ag:=X (BV (z:=z) (a:=a) (f:=λk=>(g k).getD 0) G 0);have ah:=(HP k).2.1 (by omega);obtain⟨e,I⟩:=Ze (wr.alloc (.cells (Zj x v y) 43));have J:Zb wr e:=I▸jG _ _;have K:=X (n.trans (J.mono au));have ai:=X (u.trans (J.mono u.size));have L:jK e wr.heap.size (Y x.v) (Y x.f) (Zk v x.e y):=I▸jK.new 43 rfl;have S:=X (λ(b:N)(c:Zb e b)=>ak x v y b (by omega) P Q ((HM.below ai).below c) (gP c (gP ai M)) (jI c (jI J af)))
    have hS:=X (λ(b:N)(c:Zb e b)=>(show Zq b w.heap.size 0 (Y z)/\Zq b w.heap.size 1 (Zk h a p)/\Zq b wr.heap.size 0 (Y x.v)/\Zq b wr.heap.size 1 (Y x.f)/\Zq b wr.heap.size 2 (Zk v x.e y) from
     ⟨jH c (jH K ad),jH c (jH K ae),jH c L.c0,jH c L.c1,jH c L.c2⟩))
    have a6:(k:Int)<t.e.length:=(by omega);have a7:(0:Int)<=k:=(by omega);have a8:=X (jW e.heap.size e);have ay:=X I;obtain⟨U,V⟩:=Ze (kM z a (λk=>(g k).getD 0) x);obtain⟨R,c⟩:=Ze (kM.rowL z a (λk=>(g k).getD 0) (t.e.take k) 0);rw[<-V,<-c] at ag;rw[<-V] at S ax;rw[<-c] at o ⊢;have a9:0<=R*z/\R*z<=81:=by
     have h1:0<=R*z:=Int.mul_nonneg o.1 (by omega);have h2:R*z<=27*3:=Mh (by omega) ac (by omega) (by omega);exact⟨h1,by omega⟩
    have Hw:Hid (IntKind.i64.wrap (IntKind.i64.wrap (R*z)+U)=R*z+U):=by
     show _=_;rw[iS (R*z) (by omega) (by omega),iS (R*z+U) (by omega) (by omega)]
    clear G H aw P Q af J L I V c q0 q1 q2
    go_wp2_with fail
    rw[<-ay.out]
    go_region_held3 (λb=>Zq b w.heap.size 0 (Y z)/\Zq b w.heap.size 1 (Zk h a p)/\Zq b wr.heap.size 0 (Y x.v)/\Zq b wr.heap.size 1 (Y x.f)/\Zq b wr.heap.size 2 (Zk v x.e y)) ((first|(refine hS _ ?_;(go_grown<;>exact zZ ‹Hid (Below _ _ _)›);done)|go_keep)) ((
     go_at_call 22
     with_reducible refine(S.out _ ?_).mono ?_
     ·(go_grown<;>exact zZ ‹Hid (Below _ _ _)›)
     rintro B H ⟨rfl,G⟩;have I:Hid (Zb e H):=dN G
     clear G))
    rw[Hw.out];have V:=X (K.trans (I.mono K.size));clear Hw S hS
    go_wp2_with fail
    go_roundw
    case rel=>exact⟨k+1,by omega,by go_num,by rw[ag.out],V⟩
    case measure=>simp[intOf];omega
   have S:k=t.e.length:=(by omega);subst S;rw[qU] at o ⊢;obtain⟨tb,af,rfl⟩:=Nk M (by omega);obtain⟨la,lc,G,L⟩:=Nj (gP u M) Hl;have ah:=(HP t.e.length).2.1 ao;have F:=ar.out;obtain⟨R,c⟩:=Ze (kM.rowL z a (λk=>(g k).getD 0) t.e 0);rw[<-c] at o l ⊢;obtain⟨d,H⟩:=uO o.1;have aw:d<m.length:=(by omega);obtain⟨lb,az,rfl,P⟩:=pL L (by omega);have cr:=P d aw;have Q:Z=m.getD d 0:=(by rw[l.out,H];rfl);rw[<-Q] at cr;obtain⟨I,J⟩:=uO an;have ba:(I:Int)<a.length:=(by omega);have bb:wr.cell? (D tb (af+I))=some (Zz lb az m.length lc):=(by rw[J] at G;exact G);have bc:=jH n ad;have bd:=jH n ae;obtain⟨p0,p1,p2,_,_,_⟩:=H3.below n;rw[J] at p1;rw[H];have be:(d:Int)<m.length:=(by omega);have bf:(0:Int)<=d:=(by omega);have d:(0:Int)<=I:=(by omega);clear c H Q P L G J F o ah q0 q1 q2 l;go_wp2;go_ret;exact⟨rfl,u⟩
def bT(a:Zn)(v:Int):Option Int:=if v∈a then some ((a.idxOf v:Int)+1) else none
def vF(v:Int)(a:Zn):Zn:=if v=0\/v∈a then a else a++[v]
def zD(v:Int)(a:Zn):Int:=if v=0 then 0 else((vF v a).idxOf v:Int)+1
def jL:T->Zn->T×Zn
 |⟨v,f,b⟩,a=>(⟨zD v a,f,(giveL b (vF v a)).1⟩,(giveL b (vF v a)).2)
 where
 giveL:Zt->Zn->Zt×Zn
  |[],a=>([],a)
  |t::c,a=>((jL t a).1::(giveL c (jL t a).2).1,(giveL c (jL t a).2).2)
def rZ(t:T)(a:Zn):jL t a=(⟨zD t.v a,t.f,(jL.giveL t.e (vF t.v a)).1⟩,(jL.giveL t.e (vF t.v a)).2):=by cases t;rfl
def RG(x:T):∀(a:Zt)(b:Zn),jL.giveL (a++[x]) b=((jL.giveL a b).1++[(jL x (jL.giveL a b).2).1],(jL x (jL.giveL a b).2).2):=by
 intro a;induction a with
 |nil=>intro b;rfl
 |cons t a c=>
  intro b;show((jL t b).1::(jL.giveL (a++[x]) (jL t b).2).1,(jL.giveL (a++[x]) (jL t b).2).2)=_;rw[c];rfl
def Wd(h:l[k]? =some t)(a:Zn):jL.giveL (l.take (k+1)) a=((jL.giveL (l.take k) a).1++[(jL t (jL.giveL (l.take k) a).2).1],(jL t (jL.giveL (l.take k) a).2).2):=by
 rw[vZ,h];exact RG t _ a
def Kd:∀(a:Zt)(b:Zn),(jL.giveL a b).1.length=a.length:=by
 intro a;induction a with
 |nil=>intro b;rfl
 |cons t a c=>intro b;show(_::(jL.giveL a (jL t b).2).1).length=_;rw[xI,c,xI]
def Ys(h:r.Nodup):(vF z r).Nodup:=by
 rw[vF];split
 .exact h
 rename_i b;rw[cK];refine⟨h,by simp,λa c a a e=>?_⟩;simp at a;exact b (jE (by rw[<-a,<-e];exact c))
def Py(v:Int)(a:Zn):(vF v a).length<=a.length+1:=by
 rw[vF];split
 .omega
 simp
def Ke:∀(n:Nat),(∀(t:T)(a:Zn),t.E<=n->a.Nodup->(jL t a).2.Nodup/\(jL t a).2.length<=a.length+t.E)/\(∀(b:Zt)(a:Zn),T.E.szL b<=n->a.Nodup->(jL.giveL b a).2.Nodup/\(jL.giveL b a).2.length<=a.length+T.E.szL b):=by
 intro n;induction n with
 |zero=>
  refine⟨λt a h=>by have:=t.I;omega,λb a h c=>?_⟩
  cases b with
  |nil=>exact⟨c,oD _ _⟩
  |cons t b=>have:=t.I;rw[T.F] at h;omega
 |succ n e=>
  have d:∀(t:T)(a:Zn),t.E<=n+1->a.Nodup->(jL t a).2.Nodup/\(jL t a).2.length<=a.length+t.E:=λt a h c=>by
   have g:=T.M t;rw[rZ];have f:=e.2 t.e (vF t.v a) (by omega) (Ys c);have i:=Py t.v a;exact⟨f.1,by simp only;omega⟩
  refine⟨d,λb=>?_⟩;induction b with
  |nil=>intro a _ c;exact⟨c,oD _ _⟩
  |cons t b f=>
   intro a h c;rw[T.F] at h ⊢;have g:=d t a (by omega) c;have c:=f (jL t a).2 (by omega) g.1;exact⟨c.1,by show(jL.giveL b (jL t a).2).2.length<=_;omega⟩
def WZ(c:z≠0)(b:z∉r)(k:Int):bT (r++[z]) k=if k=z then some ((r.length:Int)+1) else bT r k:=by
 rw[bT];by_cases e:k=z
 .subst e
  rw[jB (by simp),jB rfl,Ip,jC b];simp
 rw[jC e,bT];by_cases a:k∈r
 .rw[jB (by simp[a]),jB a,Ip,jB a]
 rw[jC (by simp[a,e]),jC a]
def VM(h:vS w k n (bT r))(c:r.Nodup)(d:Zf.underlying g=some (.map 3 g1))(b:TypeId):(Builtin.len_ #[g] b #[.map (some k)]).run Zf w=.ok (Y (r.length:Nat)) w:=by
 obtain⟨e,a,f⟩:=h;have i:=Fu a f c (λx=>by rw[bT];split<;>simp_all);have j:Maps.size e=r.length:=by
  rw[i.length_eq];obtain⟨l,rfl⟩:=a.isMap;simp[intKeys,Maps.size]
 rw[a.len d b,j]
def IC:∀{d:Zt}{b a:Nat}{B:List Nat}{k:Nat}{x:T},OwnL w d b a B->d[k]? =some x->B.Nodup->
 ∃s e,w.cell? (D b (a+k*3))=some (Y x.v)/\w.cell? (D b (a+k*3+1))=some (Y x.f)/\w.cell? (D b (a+k*3+2))=some s/\x.jb w s e/\(∀j,j∈e->j∈B)/\e.Nodup/\
  ∀(c:N)(f:T),c.cell? (D b (a+k*3))=some (Y f.v)->c.cell? (D b (a+k*3+1))=some (Y f.f)->c.cell? (D b (a+k*3+2))=some s->f.jb c s e->
   (∀j,(j<a+k*3\/a+k*3+2<j)->c.cell? (D b j)=w.cell? (D b j))->(∀i,i∈B->i∉e->c.heap[i]? =w.heap[i]?)->OwnL c (d.set k f) b a B:=by
 intro d;induction d with
 |nil=>intro b a B k x _ m;simp at m
 |cons R d H=>
  intro b a B k x m n g;obtain⟨s,o,p,rfl,r,t,u,v,y⟩:=aO.1 m;rw[cK] at g
  cases k with
  |zero=>
   simp at n;subst n;refine⟨s,o,by simpa using r,by simpa using t,by simpa using u,v,λj h=>yT _ h,g.1,λc f l q z A C E=>?_⟩;refine aO.2 ⟨s,o,p,rfl,by simpa using l,by simpa using q,by simpa using z,A,?_⟩;exact Nf _ d b (a+3) p (jF _) (λi l=>E i (bF _ l) (λq=>g.2.2 i q i l rfl)) (λj h _=>C j (by omega)) y
  |succ k=>
   obtain⟨I,e,z,A,C,J,E,K,F⟩:=H y (by simpa using n) g.2.1;have L:a+3+k*3=a+(k+1)*3:=(by omega);rw[L] at z A C F;refine⟨I,e,z,A,C,J,λj h=>bF _ (E j h),K,λc f M O P Q h G=>?_⟩;refine aO.2 ⟨s,o,p,rfl,by rw[h a (by omega)];exact r,by rw[h (a+1) (by omega)];exact t,by rw[h (a+2) (by omega)];exact u,sO (λi l=>G i (yT _ l) (λq=>g.2.2 i l i (E i q) rfl)) v,?_⟩;exact F c f M O P Q h (λi l q=>G i (bF _ l) q)
structure dS (w w':N) (B:List Nat) (mb pb po:Nat):Prop where
 os:w'.os=w.os
 tape:w'.tape=w.tape
 output:w'.output=w.output
 size:w.heap.size<=w'.heap.size
 block:∀k,k<w.heap.size->k≠pb->k≠mb->k∉B->w'.heap[k]? =w.heap[k]?
 cell:∀j,j≠po->w'.cell? (D pb j)=w.cell? (D pb j)
 fr:∀j,w'.frozen? (D pb j)=w.frozen? (D pb j)
def dS.refl(w:N)(B:List Nat)(a b c:Nat):dS w w B a b c:=⟨rfl,rfl,rfl,jF _,λ_ _ _ _ _=>rfl,λ_ _=>rfl,λ_=>rfl⟩
def dS.below{B:List Nat}(h:dS w u B k n m)(d:i<=w.heap.size)(e:i<=n)(f:i<=k)(b:∀a,a∈B->i<=a):Below i w u:=
 ⟨h.os,h.tape,h.output,h.size,λa c=>h.block a (by omega) (by omega) (by omega) (λc=>by have:=b a c;omega)⟩
theorem Tryz.jm:Zf.underlying 194=some (.map 3 3):=by kernel_rfl
theorem OJ(a:Zy)(w:N):(callFunc 144 a).run Zf w=.ok (.enter 144 a) w:=by kernel_rfl
structure Tc (w:N) (pb po:Nat) (v f:Int) (s:Zv):Prop where
 e0:w.cell? (D pb po)=some (Y v)
 e1:w.cell? (D pb (po+1))=some (Y f)
 e2:w.cell? (D pb (po+2))=some s
 fr:∀j,w.frozen? (D pb j)=false
def Tc.same{w':N}{s:Zv}(h:Tc w k n z z1 s)(b:w'.heap[k]? =w.heap[k]?):Tc w' k n z z1 s:=
 ⟨by rw[kH (w:=w) (a:=(D k n)) b];exact h.e0,by rw[kH (w:=w) (a:=(D k (n+1))) b];exact h.e1,by rw[kH (w:=w) (a:=(D k (n+2))) b];exact h.e2,λj=>by rw[gZ (w:=w) (a:=(D k j)) b];exact h.fr j⟩
def Tc.set{s:Zv}(h:Tc w k n z z1 s)(x:Int):Tc (w.setCell (D k n) (Y x)) k n x z1 s:=
 ⟨pS _ _ _ h.e0,by rw[yE _ _ _ _ (λe=>by injection e with _ e;omega)];exact h.e1,by rw[yE _ _ _ _ (λe=>by injection e with _ e;omega)];exact h.e2,λj=>by rw[dC];exact h.fr j⟩
def dS.set{B:List Nat}(h:dS w u B k n m)(x:Zv):dS w (u.setCell (D n m) x) B k n m:=
 ⟨h.os,h.tape,h.output,by rw[World.size_setCell];exact h.size,λb c a d e=>by rw[vL _ _ _ _ a];exact h.block b c a d e,λj a=>by rw[yE _ _ _ _ (λe=>by injection e with _ e;exact a e.symm)];exact h.cell j a,λj=>by rw[dC];exact h.fr j⟩
def dS.grown(h:w.grownBy u (some k))(c:n<w.heap.size)(d:k≠n)(B:List Nat):dS w u B k n m:=by
 have b:=h.block n c (λe=>d (by injection e with e;exact e.symm));exact⟨h.os,h.tape,h.output,h.size,λf g _ i _=>h.block f g (λe=>i (by injection e)),λj _=>kH (w:=w) (a:=(D n j)) b,λj=>gZ (w:=w) (a:=(D n j)) b⟩
def vS.set{g:Int->Option Int}(h:vS w k n g)(a:k≠m)(x:Zv):vS (w.setCell (D m i) x) k n g:=kU.same h (vL _ _ _ _ a)
def XD(a:z≠0):bT (vF z r) z=some (zD z r):=by
 have b:z∈vF z r:=by
  rw[vF];split
  .rename_i h;rcases h with h|h
   .exact jN h a
   exact h
  simp
 rw[bT,jB b,zD,jC a]
def XC(h:r.length<=100000):0<=zD z r/\zD z r<=200000:=by
 rw[zD];split
 .omega
 have b:=List.idxOf_le_length (a:=z) (l:=vF z r);have c:=Py z r;omega
structure GL (w wr:N) (mb pb po m:Nat) (args:Zt) (ns1:Zn) (nv f:Int) (s:Zv) (b:Nat) (B':List Nat) (k:Nat):Prop where
 own:OwnL wr ((jL.giveL (args.take k) ns1).1++args.drop k) b 0 B'
 map:∃m',m'<=m+1+T.E.szL (args.take k)/\vS wr mb m' (bT (jL.giveL (args.take k) ns1).2)
 ks:dS w wr (b::B') mb pb po
 tc:Tc wr pb po nv f s
 fr:∀j,wr.frozen? (D b j)=false
def DC(h:l[k]? =some t):T.E.szL (l.take (k+1))=T.E.szL (l.take k)+t.E:=by
 rw[vZ,h];have:∀(a:Zt),T.E.szL (a++[t])=T.E.szL a+t.E:=λa=>by
  induction a with
  |nil=>rw[nQ,T.F,T.P];omega
  |cons y a a=>rw[dW,T.F,T.F,a];omega
 exact this _
def jD6(h:l[k]? =some t):T.E.szL (l.take k)+t.E<=T.E.szL l:=by
 have c:=DC h;have b:∀(a:Zt)(j:Nat),T.E.szL (a.take j)<=T.E.szL a:=by
  intro a;induction a with
  |nil=>intro j;simp
  |cons y a a=>
   intro j
   cases j with
   |zero=>rw[List.take_zero,T.P];omega
   |succ j=>rw[uY,T.F,T.F];have:=a j;omega
 have:=b l (k+1);omega
def GL.step{H:Zv}{c:List Nat}{x:T}{q:Zv}{p:List Nat}(h:GL w u k n m i l r z z1 H j c n1)(s:l[n1]? =some x)(I:(j::c).Nodup)(J:n∉j::c)(O:k∉j::c)(P:k≠n)(Q:n<u.heap.size)(S:∀b,b∈j::c->b<u.heap.size)
 (K:∀b,b∈p->b∈c) (U:∀(f:N)(t:T),f.cell? (D j (0+n1*3))=some (Y t.v)->f.cell? (D j (0+n1*3+1))=some (Y t.f)->f.cell? (D j (0+n1*3+2))=some q->t.jb f q p->
   (∀b,(b<0+n1*3\/0+n1*3+2<b)->f.cell? (D j b)=u.cell? (D j b))->(∀g,g∈c->g∉p->f.heap[g]? =u.heap[g]?)->OwnL f (((jL.giveL (l.take n1) r).1++l.drop n1).set n1 t) j 0 c)
 (E:Tc v j (n1*3) (jL x (jL.giveL (l.take n1) r).2).1.v (jL x (jL.giveL (l.take n1) r).2).1.f q) (V:(jL x (jL.giveL (l.take n1) r).2).1.jb v q p) (W:∃y,y<=i+1+T.E.szL (l.take n1)+x.E/\vS v k y (bT (jL x (jL.giveL (l.take n1) r).2).2)) (d:dS u v p k j (n1*3)):
 GL w v k n m i l r z z1 H j c (n1+1):=by
 have Z:=(Zl s);have aa:(jL.giveL (l.take n1) r).1.length=n1:=by rw[Kd,yD];omega
 have ab:j≠n:=λe=>J (e▸vX);have F:=d.block n Q (λe=>ab e.symm) (λe=>P e.symm) (λo=>J (vG _ (K n o)));rw[aM] at I;refine⟨?_,?_,⟨d.os.trans h.ks.os,d.tape.trans h.ks.tape,d.output.trans h.ks.output,kN h.ks.size d.size,λb o L A B=>?_,λb o=>?_,λb=>?_⟩,h.tc.same F,λb=>by rw[d.fr b];exact h.fr b⟩
 .have ac:((jL.giveL (l.take n1) r).1++l.drop n1).set n1 (jL x (jL.giveL (l.take n1) r).2).1=(jL.giveL (l.take (n1+1)) r).1++l.drop (n1+1):=by
   rw[Wd s,pN Z,dH];have:∀(C R:Zt)(M G:T),C.length=n1->(C++M::R).set n1 G=C++([G]++R):=λC R M G C=>by
    rw[List.set_append,jC (by omega),C,wJ];rfl
   exact this _ _ _ _ aa
  rw[<-ac];refine U v _ (by rw[kK];exact E.e0) (by rw[kK];exact E.e1) (by rw[kK];exact E.e2) V (λb o=>d.cell b (by omega)) (λg C G=>d.block g (S g (vG _ C)) (λe=>I.1 (by rw[<-e];exact C)) (λe=>O (by rw[<-e];exact vG _ C)) G)
 .obtain⟨y,L,A⟩:=W
  rw[Wd s];exact⟨y,by rw[DC s];omega,A⟩
 .rw[qO,not_or] at B
  have e:=kV o h.ks.size;rw[d.block b e B.1 A (λC=>B.2 (K b C))];exact h.ks.block b o L A (by rw[qO,not_or];exact B)
 .rw[kH (w:=u) (a:=(D n b)) F];exact h.ks.cell b o
 rw[gZ (w:=u) (a:=(D n b)) F];exact h.ks.fr b
def We(d:Nat)(H:Nat):∀(t:T)(s:Zv)(B:List Nat)(b c m:Nat)(a:Zn)(w:N),t.E<=H->t.E<=1000->(∀x,x∈qV t->0<=x.v/\x.v<=1000)->Tc w b c t.v t.f s->t.jb w s B->B.Nodup->b∉B->d∉B->d≠b->vS w d m (bT a)->a.Nodup->a.length+t.E<=100000->m+t.E<=100000->(∀k,k∈B->k<w.heap.size)->
 Calls Zf 144 #[.map (some d),.pointer (some (D b c))] w λe G=>e=.returned (.tuple #[])/\Tc G b c (jL t a).1.v (jL t a).1.f s/\(jL t a).1.jb G s B/\(∃l,l<=m+t.E/\vS G d l (bT (jL t a).2))/\dS w G B d b c:=by
 induction H with
 |zero=>intro t s B b c m a w U;have:=t.I;omega
 |succ H h=>
  intro t s B b c m a w hN au f ai i Q I J z g V av aw W;have ad:=T.M t;have hv:=f t (Lf t);obtain⟨j,o,p,q⟩:=ai;have A:=X g;have P:=X i;have aj:=X h;have ak:=X f;have ax:=g.lt;have K:=kA j;have eg:=OJ;clear g i h f
  go_in
  go_upto_if 9 with fail
  go_cut [9] (λf wc=>Hid (Tc wc b c (zD t.v a) t.f s/\(∃f,f<=m+1/\vS wc d f (bT (vF t.v a)))/\dS w wc [] d b c))
  case first=>
   by_cases i:t.v=0
   .have g:zD t.v a=0:=by rw[zD,jB i]
    have h:vF t.v a=a:=(by rw[vF,jB (jD i)]);have C:Hid (Tc w b c (zD t.v a) t.f s/\(∃f,f<=m+1/\vS w d f (bT (vF t.v a)))/\dS w w [] d b c):=by
     rw[g,h];exact⟨⟨by rw[<-i];exact j,o,p,q⟩,⟨m,by omega,A⟩,dS.refl _ _ _ _ _⟩
    clear g h
    go_wp2_with fail
    go_meet
    exact C
   have E:=kU.look A (t:=194) Tryz.jm (Tryz.jy _) (k:=t.v) (by omega) (by omega);rw[Ov] at E;have F:=XD (r:=a) i;have ae:=XC (z:=t.v) (r:=a) (by omega);obtain⟨g,n⟩:=Ze (zD t.v a);by_cases r:t.v∈a
   .have h:vF t.v a=a:=by rw[vF,jB (jE r)]
    rw[h] at F;rw[F,<-n] at E;have R:1<=g:=(by rw[n,zD,jC i];omega);have e1:(g==0)=false:=(by simp;omega);have e2:g≠0:=(by omega);have C:Hid (Tc (w.setCell (D b c) (Y g)) b c (zD t.v a) t.f s/\(∃f,f<=m+1/\vS (w.setCell (D b c) (Y g)) d f (bT (vF t.v a)))/\dS w (w.setCell (D b c) (Y g)) [] d b c):=by
     rw[h,<-n];exact⟨Tc.set ⟨j,o,p,q⟩ g,⟨m,by omega,A.set z _⟩,(dS.refl _ _ _ _ _).set _⟩
    clear n F h r;simp only[wK] at E
    go_wp2_with fail
    go_meet
    exact C
   have h:vF t.v a=a++[t.v]:=(by rw[vF,jC (λU=>U.elim i r)]);have S:bT a t.v=none:=(by rw[bT,jC r]);rw[S] at E;simp only[Et] at E;have R:g=(a.length:Int)+1:=(by rw[n,zD,jC i,h,Ip,jC r];simp);have L:vS w.drew d m (bT a):=kU.same A rfl;have af:=λu=>VM L V Tryz.jm u;obtain⟨u,ag,Z,y⟩:=kU.store L (g:=194) Tryz.jm (show m<maxLen by unfold maxLen;omega) (k:=t.v) (by omega) (by omega) (Y ((a.length:Int)+1));have M:vS u d (m+1) (bT (vF t.v a)):=by
    have aa:(λk=>(bT (vF t.v a) k).map (Value.int .i64))=(λO=>if O=t.v then some (Value.int .i64 ((a.length:Int)+1)) else(bT a O).map (Value.int .i64)):=funext λk=>by
     rw[h,WZ i r];by_cases e:k=t.v
     .rw[jB e,jB e];rfl
     rw[jC e,jC e]
    unfold vS;rw[aa];exact Z
   have aa:=kU.look M (t:=194) Tryz.jm (Tryz.jy _) (k:=t.v) (by omega) (by omega);rw[Ov,F,<-n] at aa;simp only[wK] at aa;have O:w.grownBy u (some d):=⟨y.os,y.tape,y.output,y.size,y.block⟩;have ab:=O.block b K (λe=>z (by injection e with e;exact e.symm));have ac:Tc u b c t.v t.f s:=Tc.same ⟨j,o,p,q⟩ ab;have C:Hid (Tc (u.setCell (D b c) (Y g)) b c (zD t.v a) t.f s/\(∃f,f<=m+1/\vS (u.setCell (D b c) (Y g)) d f (bT (vF t.v a)))/\dS w (u.setCell (D b c) (Y g)) [] d b c):=by
    rw[<-n];exact⟨ac.set g,⟨m+1,by omega,M.set z _⟩,(dS.grown O K z []).set _⟩
   obtain⟨r0,r1,r2,rf⟩:=ac;have d0:w.drew.cell? (D b c)=some (Y t.v):=j;have ah:g≠0:=(by omega);clear n F h r S Z M y O ab L R
   go_wp2_with fail
   go_region
   all_goals
    go_wp2_with fail
    go_meet
    exact C
  case rest=>
   obtain⟨C,⟨f,ay,r⟩,g⟩:=zZ hcut;obtain⟨L,u⟩:=Ze (zD t.v a);obtain⟨h,i⟩:∃n1,n1=vF t.v a:=⟨_,rfl⟩;rw[<-u] at C;rw[<-i] at r;have E:=sO (λk n=>g.block k (W k n) (λe=>I (e▸n)) (λe=>J (e▸n)) (by simp)) P;have al:h.Nodup:=i▸Ys V;have az:h.length<=a.length+1:=i▸Py _ _;have M:Hid (jL t a=(⟨L,t.f,(jL.giveL t.e h).1⟩,(jL.giveL t.e h).2)):=(by show _=_;rw[rZ,<-u,<-i]);have a0:=kV K g.size;have Z:=λk n=>kV (W k n) g.size;clear hcut j o p q P A u i;rcases nU.1 E with⟨ha,rfl,rfl⟩|⟨am,i,u,rfl,rfl,an,A⟩
   .obtain⟨j,o,p,q⟩:=C
    have O:Hid (Tc wc b c (jL t a).1.v (jL t a).1.f (Zd)/\(jL t a).1.jb wc (Zd) []/\(∃l,l<=m+t.E/\vS wc d l (bT (jL t a).2))/\dS w wc [] d b c):=by
     rw[M.out,ha];have:=t.I;exact⟨⟨j,o,p,q⟩,nU.2 (jD ⟨rfl,rfl,rfl⟩),⟨f,by omega,r⟩,g⟩
    clear r g M ad;go_wp2
    go_loopw [39] (λy wr=>y=Y 0/\Hid (wr=wc)) (λ_ _=>0)
    case atStart=>exact⟨rfl,rfl⟩
    case round=>
     obtain⟨rfl,F⟩:=hrel;obtain rfl:=(Eq.symm F)
     go_wp2_with fail
     go_end0
     exact⟨rfl,O⟩
   have a1:t.e.length<=1000:=(by have:=T.length_le t.e;omega);have ao:Hid (GL w wc d b c m t.e h L t.f (Zx i t.e.length t.e.length) i u 0):=by
    refine⟨A,⟨f,by rw[List.take_zero,T.P];omega,r⟩,⟨g.os,g.tape,g.output,g.size,λf F P R _=>g.block f F P R (by simp),g.cell,g.fr⟩,C,an⟩
   have aa:=X Q;have ap:=X I;have P:=X J;obtain⟨j,o,p,q⟩:=C;clear r g A E Q I J;go_wp2
   go_loopw [39] (λy wr=>∃k:Nat,k<=t.e.length/\y=Y (k:Int)/\Hid (GL w wr d b c m t.e h L t.f (Zx i t.e.length t.e.length) i u k)/\Hid (wc.heap.size<=wr.heap.size)) (λy _=>t.e.length - (intOf y).toNat)
   case atStart=>exact⟨0,jY _,rfl,ao,jF _⟩
   case round=>
    obtain⟨k,n,rfl,y,f⟩:=hrel;have g:=X (zZ y);have ab:=X (zZ f);clear y f;by_cases aq:k<t.e.length
    .obtain⟨x,n⟩:=Zg aq
     have ac:(jL.giveL (t.e.take k) h).1.length=k:=(by rw[Kd,yD];omega);have ad:((jL.giveL (t.e.take k) h).1++t.e.drop k)[k]? =some x:=by
      rw[nO (by omega),ac,wJ,Ej,mG];exact n
     have A:=aa.out;rw[aM] at A;obtain⟨s',Bk,I,J,Q,a3,r,a5,a6⟩:=IC g.own ad A.2;obtain⟨R,ae,af⟩:=g.map;have S:=jU n;have a2:=xJ S;have a4:=jD6 n;have ag:=(Ke (T.E.szL (t.e.take k))).2 (t.e.take k) h (jF _) al;have a7:=ab.out;have HR:=X (aj x s' Bk i (k*3) R (jL.giveL (t.e.take k) h).2 wr (by omega) (by omega) (λf E=>ak f (Le S E)) ⟨by rw[kK] at I;exact I,by rw[kK] at J;exact J,by rw[kK] at Q;exact Q,g.fr⟩ a3 a5 (λf=>A.1 (r i f)) (λf=>P (vG _ (r d f))) (λe=>P (e▸vX)) af ag.1 (by omega) (by omega) (λE f=>by have:=Z E (vG _ (r E f));omega));have ah:=X (λF=>GL.step (v:=F) g n aa ap P z (by omega) (λE f=>by have:=Z E f;omega) r a6);obtain⟨E,q1,q2,qf⟩:=g.tc;have a8:(k:Int)<t.e.length:=(by omega);have a9:(0:Int)<=k:=(by omega);have ar:=X ae;clear I J Q a3 r a5 a6 af n ad ac A ae S ag
     go_wp2_with fail
     refine HR.mono ?_;rintro e F ⟨rfl,n,r,⟨I,ac,A⟩,f⟩;have J:=X (ah F n r ⟨I,by have:=ar.out;omega,A⟩ f);have Q:=X (kN ab f.size);clear HR ah n r A f E q1 q2 qf
     go_wp2_with fail
     go_roundw
     case rel=>exact⟨k+1,by omega,by go_num,J,Q⟩
     case measure=>simp[intOf];omega
    have S:k=t.e.length:=(by omega);subst S;have y:=g.out;obtain⟨f,⟨R,r,n⟩,A,E,F⟩:=y;rw[qU,dX,zU] at f;rw[qU] at r n;have O:Hid (Tc wr b c (jL t a).1.v (jL t a).1.f (Zx i t.e.length t.e.length)/\(jL t a).1.jb wr (Zx i t.e.length t.e.length) (i::u)/\(∃l,l<=m+t.E/\vS wr d l (bT (jL t a).2))/\dS w wr (i::u) d b c):=by
     rw[M.out];refine⟨E,nU.2 (jE ⟨λe=>am ?_,i,u,by simp only;rw[Kd],rfl,F,f⟩),⟨R,by omega,n⟩,A⟩;have:=Kd t.e h;rw[show(jL.giveL t.e h).1=[] from e] at this;exact yM.1 this.symm
    clear f r n A E F
    go_wp2_with fail
    go_end0
    exact⟨rfl,O⟩
def yV(n:Int)(a:List Zn)(f:Int->Int)(x:Lit):Bool:=x.1==(kM n a f x.2.1==kM n a f x.2.2)
def qY(n:Int)(a:List Zn)(f:Int->Int)(c:Zc):Bool:=c.any (yV n a f)
def qC(a:Zn)(c:Zc):Prop:=∀x,x∈c->(x.2.1.E<=120/\jQ a x.2.1)/\(x.2.2.E<=120/\jQ a x.2.2)
def Pm:∀{c:Zc},tW r c=0->qC r c:=by
 intro c;induction c with
 |nil=>intro _ x a;cases a
 |cons y c e=>
  intro h x a;rw[tW] at h;by_cases b:kP r y.2.1=0
  .rw[jB b] at h
   by_cases d:kP r y.2.2=0
   .rw[jB d] at h
    rcases qO.1 a with rfl|a
    .exact⟨mS.1 b,mS.1 d⟩
    exact e h x a
   rw[jC d] at h;exact jN h d
  rw[jC b] at h;exact jN h b
def SN{f:List Zn}(s:gM r z f){g:Int->Option Int}(t:∀e,0<=(g e).getD 0/\(g e).getD 0<z){x:Lit}(o:Nat)(p:Nat)(u:(x.2.1.E<=120/\jQ r x.2.1)/\(x.2.2.E<=120/\jQ r x.2.2))
 (v:vS w n m g) (y:dK w f a) (E:InL w x.2.1.e a1) (F:InL w x.2.2.e a2) (G:w.cell? (D i 0)=some (.map (some n))) (H:w.cell? (D j 0)=some (Y z)) (I:w.cell? (D j 1)=some (.slice a f.length k)):
 Calls Zf 21 #[.agg #[.bool x.1,Y x.2.1.v,Y x.2.1.f,.slice a1 x.2.1.e.length o,Y x.2.2.v,Y x.2.2.f,.slice a2 x.2.2.e.length p],Zr i,Zr j] w λA b=>A=.returned (.bool (yV z f (λe=>(g e).getD 0) x))/\Zb w b:=by
 obtain⟨h,q⟩:=Ze (w.alloc (.cells #[.bool x.1,Y x.2.1.v,Y x.2.1.f,Zk a1 x.2.1.e o,Y x.2.2.v,Y x.2.2.f,Zk a2 x.2.2.e p] 47));have d:Zb w h:=q▸jG _ _;have l:∀c,h.cell? (D w.heap.size c)=(#[Value.bool x.1,Y x.2.1.v,Y x.2.1.f,Zk a1 x.2.1.e o,Y x.2.2.v,Y x.2.2.f,Zk a2 x.2.2.e p])[c]?:=λc=>q▸jJ c rfl;have J:=l 0;have K:=l 1;have L:=l 2;have M:=l 3;have O:=l 4;have P:=l 5;have Q:=l 6;have R:=X (λ(b:N)(c:Zb h b)=>Rf s a k n m g x.2.1.E x.2.1 a1 o b (jF _) u.1.2 (λB _ _=>t B.v) (vS.below (vS.below v d) c) (gP c (gP d y)) (jI c (jI d E)));have S:=X (λ(b:N)(c:Zb h b)=>Rf s a k n m g x.2.2.E x.2.2 a2 p b (jF _) u.2.2 (λB _ _=>t B.v) (vS.below (vS.below v d) c) (gP c (gP d y)) (jI c (jI d F)))
 have W:=X (λ(b:N)(c:Zb h b)=>(show Zq b w.heap.size 0 (.bool x.1)/\Zq b w.heap.size 1 (Y x.2.1.v)/\Zq b w.heap.size (1+1) (Y x.2.1.f)/\Zq b w.heap.size (1+2) (Zk a1 x.2.1.e o)/\Zq b w.heap.size 4 (Y x.2.2.v)/\Zq b w.heap.size (4+1) (Y x.2.2.f)/\Zq b w.heap.size (4+2) (Zk a2 x.2.2.e p)/\
  Zq b i 0 (.map (some n))/\Zq b j 0 (Y z)/\Zq b j 1 (Zk a f k) from
  ⟨jH c J,jH c K,jH c L,jH c M,jH c O,jH c P,jH c Q,jH c (jH d G),jH c (jH d H),jH c (jH d I)⟩))
 obtain⟨Z,c⟩:∃B,B=kM z f (λe=>(g e).getD 0) x.2.1:=⟨_,rfl⟩;obtain⟨X2,C⟩:∃B,B=kM z f (λe=>(g e).getD 0) x.2.2:=⟨_,rfl⟩;have U:Hid (yV z f (λe=>(g e).getD 0) x=(x.1==(Z==X2))):=by show _=_;rw[yV,<-c,<-C]
 rw[<-c] at R;rw[<-C] at S;have ab:=X (jW h.heap.size h);have V:=X d;have aa:=X q;rw[U.out];clear q d l J K L M O P Q c C v y E F G H I t u s U
 go_in
 go_wp2_with fail
 rw[<-aa.out]
 go_region_held3 (λb=>Zq b w.heap.size 0 (.bool x.1)/\Zq b w.heap.size 1 (Y x.2.1.v)/\Zq b w.heap.size (1+1) (Y x.2.1.f)/\Zq b w.heap.size (1+2) (Zk a1 x.2.1.e o)/\Zq b w.heap.size 4 (Y x.2.2.v)/\Zq b w.heap.size (4+1) (Y x.2.2.f)/\Zq b w.heap.size (4+2) (Zk a2 x.2.2.e p)/\
  Zq b i 0 (.map (some n))/\Zq b j 0 (Y z)/\Zq b j 1 (Zk a f k)) ((first|(refine W _ ?_;(go_grown<;>exact zZ ‹Hid (Below _ _ _)›);done)|go_keep)) ((first
  |(go_at_call 22
    with_reducible refine(R.out _ ?_).mono ?_
    ·(go_grown<;>exact zZ ‹Hid (Below _ _ _)›)
    rintro A l ⟨rfl,c⟩;have d:Hid (Zb h l):=by
     refine zT ?_ (c.mono ?_)
     ·(go_grown<;>exact zZ ‹Hid (Below _ _ _)›)
     first|exact jF _|exact q.size
    clear c)
  |(go_at_call 22
    with_reducible refine(S.out _ ?_).mono ?_
    ·(go_grown<;>exact zZ ‹Hid (Below _ _ _)›)
    rintro A l ⟨rfl,c⟩;have q:Hid (Zb h l):=by
     refine zT ?_ (c.mono ?_)
     ·(go_grown<;>exact zZ ‹Hid (Below _ _ _)›)
     first|exact jF _|exact d.size
    clear c)))
 all_goals
  go_wp2;go_ret;exact⟨rfl,V.trans (yX (by first|exact q|exact d) V.size)⟩
theorem OW(a:Zy)(w:N):(callFunc 21 a).run Zf w=.ok (.enter 21 a) w:=by kernel_rfl
def JW{p:Lit->Bool}{x:Lit}(a:c[k]? =some x)(h:(c.take k).any p=false):(p x=false->(c.take (k+1)).any p=false)/\(p x=true->c.any p=true):=by
 have d:=(Zl a);constructor
 .intro b
  rw[vZ,a,uT,h];simpa using b
 intro b;rw[mW];exact⟨x,jU a,b⟩
structure HS (ar:Zn) (n:Int) (ls:List Zn) (ta:Zo) (tc b bi bm:Nat) (c:Zc) (ca:Zo) (w:N) (m:Nat) (g:Int->Option Int):Prop where
 mo:gM ar n ls
 ok:qC ar c
 len:c.length<=8
 jc:∀k,0<=(g k).getD 0/\(g k).getD 0<n
 map:vS w b m g
 qx:dK w ls ta
 lits:kR w c ca
 ci:w.cell? (D bi 0)=some (.map (some b))
 cn:w.cell? (D bm 0)=some (Y n)
 ct:w.cell? (D bm 1)=some (.slice ta ls.length tc)
def HS.below{d:List Zn}{g:Int->Option Int}(h:HS r z d a k n m i c a1 w j g)(b:Zb w u):HS r z d a k n m i c a1 u j g:=
 ⟨h.mo,h.ok,h.len,h.jc,h.map.below b,gP b h.qx,kL b h.lits,jH b h.ci,jH b h.cn,jH b h.ct⟩
def SZ{f:List Zn}{g:Int->Option Int}(h:HS r z f a k n m i c a1 w j g)(y:Nat):
 Calls Zf 40 #[.slice a1 c.length y,.func (.func 21) #[] #[Zr m,Zr i]] w λq s=>(∃e:Int,q=.returned (Y e)/\decide (0<=e)=qY z f (λb=>(g b).getD 0) c)/\Zb w s:=by
 have M:=OW;have H:=X h;have O:=h.len;clear h
 go_in
 go_wp2
 go_loopw [8] (λe wr=>∃b:Nat,b<=c.length/\e=Y b/\Hid ((c.take b).any (yV z f (λb=>(g b).getD 0))=false)/\Hid (Zb w wr)) (λe _=>c.length - (intOf e).toNat)
 case atStart=>exact⟨0,jY _,rfl,rfl,jW _ _⟩
 case round=>
  obtain⟨b,P,rfl,h,l⟩:=hrel;have d:=X (H.below l);by_cases A:b<c.length
  .obtain⟨Q,R,rfl⟩:=zN H.lits (by omega)
   obtain⟨x,o⟩:=Zg A;obtain⟨S,B,U,C,E,F,G,I,J,K,L,t,u⟩:=dZ d.lits o;have p:=X (JW o h);have v:=X (SN d.mo d.jc B C (d.ok x (jU o)) d.map d.qx t u d.ci d.cn d.ct);have V:(b:Int)<c.length:=(by omega);have W:(0:Int)<=b:=(by omega);clear o t u h
   go_wp2_with fail
   refine v.mono ?_;rintro q s ⟨rfl,o⟩;have t:=X (l.trans (o.mono l.size));clear o v E F G I J K L
   cases hd:yV z f (λb=>(g b).getD 0) x with
   |false=>
    have o:=X (p.1 hd);clear p hd
    go_wp2_with fail
    go_roundw
    case rel=>exact⟨b+1,by omega,by go_num,o,t⟩
    case measure=>simp[intOf];omega
   |true=>
    have o:=X (p.2 hd);clear p hd;go_wp2;go_ret;exact⟨⟨b,rfl,by rw[qY,o.out];simp⟩,t⟩
  have o:b=c.length:=by omega
  subst o;rw[qU] at h;go_wp2;go_ret;exact⟨⟨-1,rfl,by rw[qY,h.out];rfl⟩,l⟩
def SM{d:List Zn}{g:Int->Option Int}(h:HS r z d a k n m i c a1 w j g)(l:w.cell? (D n2 0)=some (.slice a1 c.length n1)):
 Calls Zf 19 #[Zr n2,Zr m,Zr i] w λe b=>e=.returned (.bool (qY z d (λf=>(g f).getD 0) c))/\Zb w b:=by
 have p:Hid (Calls Zf 20 #[Zk a1 c n1,.func (.func 21) #[] #[Zr m,Zr i]] w λe b=>e=.returned (.bool (qY z d (λf=>(g f).getD 0) c))/\Zb w b):=by
  have q:=X (SZ h n1);clear h l;go_enter Tryz.func20,Tryz.ntmps20
  go_wp2_with fail
  refine q.mono ?_;rintro e b ⟨⟨u,rfl,l⟩,o⟩;have s:=X l;have t:=X o;clear l o;go_wp2;go_ret;exact⟨vO s,t⟩
 clear h
 go_in
 go_wp2_with fail
 refine p.mono ?_;rintro e b ⟨rfl,h⟩;have l:=X h;clear h;go_wp2;go_ret;exact⟨rfl,l⟩
def pQ(w:N):Zc->Nat->Nat->List Nat->Prop
 |[],_,_,B=>B=[]
 |x::e,g,a,B=>∃s1 s2 b c d,B=(b++c)++d/\w.cell? (D g a)=some (.bool x.1)/\w.cell? (D g (a+1))=some (Y x.2.1.v)/\w.cell? (D g (a+2))=some (Y x.2.1.f)/\w.cell? (D g (a+3))=some s1/\
   w.cell? (D g (a+4))=some (Y x.2.2.v)/\w.cell? (D g (a+5))=some (Y x.2.2.f)/\w.cell? (D g (a+6))=some s2/\x.2.1.jb w s1 b/\x.2.2.jb w s2 c/\pQ w e g (a+7) d
def Ja:∀{c:Zc}{g a:Nat}{B:List Nat},(∀k,k∈B->u.heap[k]? =w.heap[k]?)->(∀j,a<=j->j<a+c.length*7->u.cell? (D g j)=w.cell? (D g j))->pQ w c g a B->pQ u c g a B:=by
 intro c;induction c with
 |nil=>intro g a B _ _ h;exact h
 |cons x c l=>
  intro g a B e b h;obtain⟨s1,s2,m,n,o,rfl,p,f,i,q,r,s,t,o1,o2,v⟩:=h;have y:(x::c).length*7=7+c.length*7:=by simp;omega
  rw[y] at b;refine⟨s1,s2,m,n,o,rfl,by rw[b a (by omega) (by omega)];exact p,by rw[b (a+1) (by omega) (by omega)];exact f,by rw[b (a+2) (by omega) (by omega)];exact i,by rw[b (a+3) (by omega) (by omega)];exact q,by rw[b (a+4) (by omega) (by omega)];exact r,by rw[b (a+5) (by omega) (by omega)];exact s,by rw[b (a+6) (by omega) (by omega)];exact t,sO (λk d=>e k (by simp[d])) o1,sO (λk d=>e k (by simp[d])) o2,l (λk d=>e k (by simp[d])) (λj f i=>b j (by omega) (by omega)) v⟩
def GX{x:Lit}{s1 s2:Zv}{b d:List Nat}:∀{c:Zc}{g a:Nat}{B:List Nat},pQ w c g a B->w.cell? (D g (a+c.length*7))=some (.bool x.1)->w.cell? (D g (a+c.length*7+1))=some (Y x.2.1.v)->w.cell? (D g (a+c.length*7+2))=some (Y x.2.1.f)->w.cell? (D g (a+c.length*7+3))=some s1->
 w.cell? (D g (a+c.length*7+4))=some (Y x.2.2.v)->w.cell? (D g (a+c.length*7+5))=some (Y x.2.2.f)->w.cell? (D g (a+c.length*7+6))=some s2->x.2.1.jb w s1 b->x.2.2.jb w s2 d->pQ w (c++[x]) g a (B++(b++d)):=by
 intro c;induction c with
 |nil=>
  intro g a B h e f i j k l m o1 o2;rw[show B=[] from h];exact⟨s1,s2,b,d,[],by simp,by simpa using e,by simpa using f,by simpa using i,by simpa using j,by simpa using k,by simpa using l,by simpa using m,o1,o2,rfl⟩
 |cons y c m=>
  intro g a B n e f h i j k l o1 o2;obtain⟨o,p,q,r,s,rfl,t,u,v,z,A,C,E,F,G,H⟩:=n;have I:a+(y::c).length*7=a+7+c.length*7:=by simp;omega
  rw[I] at e f h i j k l;exact⟨o,p,q,r,s++(b++d),by simp,t,u,v,z,A,C,E,F,G,m H e f h i j k l o1 o2⟩
def GV:∀{c:Zc}{g a:Nat}{B:List Nat},pQ w c g a B->kR w c (some (D g a)):=by
 intro c;induction c with
 |nil=>intro g a B _;trivial
 |cons x c b=>
  intro g a B h;obtain⟨s1,s2,r,s,t,rfl,d,e,f,i,j,k,l,o1,o2,m⟩:=h;obtain⟨n,o,rfl,i1⟩:=rL o1;obtain⟨p,q,rfl,i2⟩:=rL o2;exact⟨g,a,n,o,p,q,rfl,d,e,f,i,j,k,l,i1,i2,b m⟩
def yJ(w:N)(b o:Nat)(a c d e f g h:Zv):N:=
 ((((((w.setCell (D b o) a).setCell (D b (o+1)) c).setCell (D b (o+2)) d).setCell (D b (o+3)) e).setCell (D b (o+4)) f).setCell (D b (o+5)) g).setCell (D b (o+6)) h
def Gg{a b c d e f g:Zv}(h:m≠k):(yJ w k n a b c d e f g).heap[m]? =w.heap[m]?:=by
 unfold yJ;rw[vL _ _ _ _ h,vL _ _ _ _ h,vL _ _ _ _ h,vL _ _ _ _ h,vL _ _ _ _ h,vL _ _ _ _ h,vL _ _ _ _ h]
def CM{a b c d e f g:Zv}:(yJ w k n a b c d e f g).heap.size=w.heap.size:=by
 unfold yJ;simp only[World.size_setCell]
def CK{b c d e f g h:Zv}(a:Addr):(yJ w k n b c d e f g h).frozen? a=w.frozen? a:=by
 unfold yJ;simp only[World.frozen?_setCell]
def fU(w:N)(a:Addr)(u:Zv):(w.setCell a u).os=w.os/\(w.setCell a u).tape=w.tape/\(w.setCell a u).output=w.output:=⟨rfl,rfl,rfl⟩
def CL{a b c d e f g:Zv}:(yJ w k n a b c d e f g).os=w.os/\(yJ w k n a b c d e f g).tape=w.tape/\(yJ w k n a b c d e f g).output=w.output:=by
 unfold yJ;refine⟨?_,?_,?_⟩
 .rw[(fU _ _ _).1,(fU _ _ _).1,(fU _ _ _).1,(fU _ _ _).1,(fU _ _ _).1,(fU _ _ _).1,(fU _ _ _).1]
 .rw[(fU _ _ _).2.1,(fU _ _ _).2.1,(fU _ _ _).2.1,(fU _ _ _).2.1,(fU _ _ _).2.1,(fU _ _ _).2.1,(fU _ _ _).2.1]
 rw[(fU _ _ _).2.2,(fU _ _ _).2.2,(fU _ _ _).2.2,(fU _ _ _).2.2,(fU _ _ _).2.2,(fU _ _ _).2.2,(fU _ _ _).2.2]
def eZ{u v:Zv}(a:w.cell? (D k m)=some v):(w.setCell (D k n) u).cell? (D k m)=some (if n=m then u else v):=by
 by_cases e:n=m
 .subst e;rw[pS _ _ _ a,jB rfl]
 rw[yE _ _ _ _ (λb=>e (by injection b)),jC e];exact a
def pF{a b c d e f g v:Zv}(h:w.cell? (D k m)=some v):(yJ w k n a b c d e f g).cell? (D k m)=some (if n+6=m then g else if n+5=m then f else if n+4=m then e else if n+3=m then d else if n+2=m then c else if n+1=m then b else if n=m then a else v):=by
 unfold yJ;exact eZ (eZ (eZ (eZ (eZ (eZ (eZ h))))))
def CJ{a b c d f g h:Zv}(j:m<n\/n+6<m):(yJ w k n a b c d f g h).cell? (D k m)=w.cell? (D k m):=by
 have e:∀i,n<=i->i<=n+6->((D k i):Addr)≠(D k m):=λi i i i=>by injection i with _ i;omega
 unfold yJ;rw[yE _ _ _ _ (e _ (by omega) (by omega)),yE _ _ _ _ (e _ (by omega) (by omega)),yE _ _ _ _ (e _ (by omega) (by omega)),yE _ _ _ _ (e _ (by omega) (by omega)),yE _ _ _ _ (e _ (by omega) (by omega)),yE _ _ _ _ (e _ (by omega) (by omega)),yE _ _ _ _ (e _ (by omega) (by omega))]
structure CC (w wr:N) (c:Zc) (k:Nat) (B:List Nat):Prop where
 own:pQ wr (c.take k) w.heap.size 0 B
 nd:B.Nodup
 jc:∀j,j∈B->w.heap.size<j/\j<wr.heap.size
 cells:∀j,j<c.length*7->∃u,wr.cell? (D w.heap.size j)=some u
 fr:∀j,wr.frozen? (D w.heap.size j)=false
 below:Zb w wr
 gl:w.heap.size<wr.heap.size
def CC.step{B:List Nat}{x:Lit}{s1 s2:Zv}{n o:List Nat}(h:CC w u c k B)(s:c[k]? =some x)(l:Zb u v)(o1:x.2.1.jb v s1 n)(o2:x.2.2.jb v s2 o)(z:(n++o).Nodup)(q:∀j,j∈n++o->u.heap.size<=j/\j<v.heap.size):
 CC w (yJ v w.heap.size (k*7) (.bool x.1) (Y x.2.1.v) (Y x.2.1.f) s1 (Y x.2.2.v) (Y x.2.2.f) s2) c (k+1) (B++(n++o)):=by
 have S:=(Zl s);have t:=h.gl;have U:=l.size;have g:∀j,j<c.length*7->∃f,Zq v w.heap.size j f:=λj a=>by
  obtain⟨f,b⟩:=h.cells j a;exact⟨f,jP l b⟩
 have A:=Ja (λj a=>l.block j (h.jc j a).2) (λj _ a=>l.cell t) h.own;have i:(c.take k).length=k:=by rw[yD];omega
 have C:c.take (k+1)=c.take k++[x]:=by rw[vZ,s];rfl
 have y:∀j,j∈n++o->j≠w.heap.size:=λj a=>by have:=(q j a).1;omega
 obtain⟨b,d⟩:=Ze (yJ v w.heap.size (k*7) (.bool x.1) (Y x.2.1.v) (Y x.2.1.f) s1 (Y x.2.2.v) (Y x.2.2.f) s2);have E:∀j,(j<k*7\/k*7+6<j)->b.cell? (D w.heap.size j)=v.cell? (D w.heap.size j):=λj a=>d▸CJ a;have p:∀j,j≠w.heap.size->b.heap[j]? =v.heap[j]?:=λj a=>d▸Gg a;have r:b.heap.size=v.heap.size:=d▸CM;have F:∀m,b.frozen? m=v.frozen? m:=λm=>d▸CK m;have G:b.cell? (D w.heap.size (k*7))=some (.bool x.1):=by obtain⟨f,e⟩:=g (k*7) (by omega);rw[d,pF e];simp
 have H:b.cell? (D w.heap.size (k*7+1))=some (Y x.2.1.v):=by obtain⟨f,e⟩:=g (k*7+1) (by omega);rw[d,pF e];simp
 have I:b.cell? (D w.heap.size (k*7+2))=some (Y x.2.1.f):=by obtain⟨f,e⟩:=g (k*7+2) (by omega);rw[d,pF e];simp
 have J:b.cell? (D w.heap.size (k*7+3))=some s1:=by obtain⟨f,e⟩:=g (k*7+3) (by omega);rw[d,pF e];simp
 have K:b.cell? (D w.heap.size (k*7+4))=some (Y x.2.2.v):=by obtain⟨f,e⟩:=g (k*7+4) (by omega);rw[d,pF e];simp
 have L:b.cell? (D w.heap.size (k*7+5))=some (Y x.2.2.f):=by obtain⟨f,e⟩:=g (k*7+5) (by omega);rw[d,pF e];simp
 have M:b.cell? (D w.heap.size (k*7+6))=some s2:=by obtain⟨f,e⟩:=g (k*7+6) (by omega);rw[d,pF e];simp
 have O:∀j,j<c.length*7->∃f,Zq b w.heap.size j f:=λj a=>by obtain⟨f,e⟩:=g j a;exact⟨_,by rw[d];exact pF e⟩
 have f:b.os=v.os/\b.tape=v.tape/\b.output=v.output:=d▸CL;rw[<-d];clear d;refine⟨?_,?_,λj a=>?_,O,λj=>by rw[F,l.frozen t];exact h.fr j,?_,by rw[r];omega⟩
 .rw[C]
  have P:=Ja (λj a=>p j (by have:=(h.jc j a).1;omega)) (λj _ a=>E j (by rw[i] at a;omega)) A;have q1:=sO (λj a=>p j (y j (yT _ a))) o1;have q2:=sO (λj a=>p j (y j (bF _ a))) o2;exact GX P (by rw[i,kK];exact G) (by rw[i,kK];exact H) (by rw[i,kK];exact I) (by rw[i,kK];exact J) (by rw[i,kK];exact K) (by rw[i,kK];exact L) (by rw[i,kK];exact M) q1 q2
 .rw[cK]
  refine⟨h.nd,z,λm d Q R V=>?_⟩;have V:=(h.jc m d).2;have m:=(q Q R).1;omega
 .rw[r]
  rcases vD.1 a with a|a
  .have:=h.jc j a;omega
  have:=q j a;omega
 have d:=h.below.trans (l.mono h.below.size);exact⟨f.1.trans d.os,f.2.1.trans d.tape,f.2.2.trans d.output,by rw[r];exact d.size,λj a=>by rw[p j (by omega)];exact d.block j a⟩
def eF(n:Nat):Zy:=madeCells #[.bool false,Y 0,Y 0,Zd,Y 0,Y 0,Zd] (n*7)
def Qh(n:Nat)(g:n<=100000)(w:N):(Instr.makeSlice 39 (Y (n:Int)) (Y (n:Int))).run Zf w=.ok (Zx w.heap.size n n) (w.alloc (.cells (eF n) 47)):=by
 obtain⟨i,c,a⟩:=bQ.1 Tryz.info47;simp only[bG] at a;obtain⟨d,e,f⟩:=a;have b:=run_make w 39 47 i _ Go.Proofs.Tryz.underlying39 c d .i64 .i64 n n (by omega) (mE _) (by rw[f];omega) (by omega);simp only[pK,e] at b;exact b
def CC.start(w:N)(c:Zc):CC w (w.alloc (.cells (eF c.length) 47)) c 0 []:=by
 refine⟨rfl,eT,(λj a=>by cases a),λj a=>?_,λj=>?_,jG _ _,by simp⟩
 .have b:j<(eF c.length).size:=by rw[eF,size_madeCells];exact a
  exact⟨(eF c.length)[j],by rw[jJ j rfl];simp[b]⟩
 exact iG (bR w _) j
def Oi(J:Nat)(hl:c.length<=1000)(d:∀x,x∈c->xO x)(e:kR w c a):
 Calls Zf 76 #[.slice a c.length J] w λv b=>v=.returned (Zx w.heap.size c.length c.length)/\∃B,CC w b c c.length B:=by
 have ab:=Qh c.length (by omega);have G:=X e;have K:=X d;have L:=X (CC.start w c);clear e d
 go_in
 go_wp2
 go_loopw [11] (λi wr=>∃(k:Nat)(B:List Nat),k<=c.length/\i=Y k/\Hid (CC w wr c k B)) (λi _=>c.length - (intOf i).toNat)
 case atStart=>exact⟨0,[],jY _,rfl,L⟩
 case round=>
  obtain⟨k,B,hk,rfl,p⟩:=hrel;have ac:=p.below.size;have H:=p.gl;by_cases M:k<c.length
  .obtain⟨x,y⟩:=Zg M
   obtain⟨ad,ae,rfl⟩:=zN G (by omega);obtain⟨r,s,t,u,k0,k1,k2,k3,k4,k5,k6,i1,i2⟩:=dZ (kL p.below G) y;have af:(k:Int)<c.length:=(by omega);have ag:(0:Int)<=k:=(by omega);obtain⟨g,z⟩:=Ze (wr.alloc (.cells #[.bool x.1,Y x.2.1.v,Y x.2.1.f,Zk r x.2.1.e s,Y x.2.2.v,Y x.2.2.f,Zk t x.2.2.e u] 47));have I:=X z;have e:Zb wr g:=z▸jG _ _;have f:L7 g wr.heap.size 0 x r s t u:=z▸L7.new _ rfl;have C:=K x (jU y);have HA:=X (λ(b:N)(d:Zb g b)=>Aa (x.2.1.E+1) x.2.1 r s b (by omega) C.1 (jI (e.trans (d.mono e.size)) i1));have O:=X (λ(b:N)(d:Zb g b)=>Aa (x.2.2.E+1) x.2.2 t u b (by omega) C.2 (jI (e.trans (d.mono e.size)) i2));have P:=X (λ(h:N)(s1 s2:Zv)(i j:List Nat)(l:Zb g h)=>CC.step (v:=h) (s1:=s1) (s2:=s2) (n:=i) (o:=j) p y (e.trans (l.mono e.size)))
   have E:=X (λ(b:N)(d:Zb g b)=>(show Zq b wr.heap.size 0 (.bool x.1)/\Zq b wr.heap.size 1 (Y x.2.1.v)/\Zq b wr.heap.size (1+1) (Y x.2.1.f)/\Zq b wr.heap.size (1+2) (Zk r x.2.1.e s)/\Zq b wr.heap.size 4 (Y x.2.2.v)/\Zq b wr.heap.size (4+1) (Y x.2.2.f)/\Zq b wr.heap.size (4+2) (Zk t x.2.2.e u) from
    ⟨jH d f.e0,jH d f.e1,jH d f.e2,jH d f.e3,jH d f.e4,jH d f.e5,jH d f.e6⟩))
   have Q:=X (λb d(h i j l m n o:Zv)=>(show(yJ b w.heap.size (k*7) h i j l m n o).cell? (D wr.heap.size 0)=some (.bool x.1)/\(yJ b w.heap.size (k*7) h i j l m n o).cell? (D wr.heap.size 1)=some (Y x.2.1.v)/\(yJ b w.heap.size (k*7) h i j l m n o).cell? (D wr.heap.size (1+1))=some (Y x.2.1.f)/\(yJ b w.heap.size (k*7) h i j l m n o).cell? (D wr.heap.size (1+2))=some (Zk r x.2.1.e s)/\(yJ b w.heap.size (k*7) h i j l m n o).cell? (D wr.heap.size 4)=some (Y x.2.2.v)/\(yJ b w.heap.size (k*7) h i j l m n o).cell? (D wr.heap.size (4+1))=some (Y x.2.2.f)/\(yJ b w.heap.size (k*7) h i j l m n o).cell? (D wr.heap.size (4+2))=some (Zk t x.2.2.e u) from by
    obtain⟨R,S,U,V,W,Z,z6⟩:=E b d;have aa:wr.heap.size≠w.heap.size:=(by omega);have q:∀{A:Nat}{F:Zv},Zq b wr.heap.size A F->(yJ b w.heap.size (k*7) h i j l m n o).cell? (D wr.heap.size A)=some F:=λ {A F}h=>by rw[kH (w:=b) (a:=(D wr.heap.size A)) (Gg aa)];exact h
    exact⟨q R,q S,q U,q V,q W,q Z,q z6⟩))
   have h:=X (λ(b:N)(d:Zb g b)(j:Nat)(l:j<c.length*7)=>(show ∃i,Zq b w.heap.size j i from by
    obtain⟨i,m⟩:=p.cells j l
    exact⟨i,jP d (jP e m)⟩))
   have i:=X (λ(b:N)(d:Zb g b)(j:Nat)=>(show b.frozen? (D w.heap.size j)=false from by
    rw[d.frozen (kV H e.size),e.frozen H];exact p.fr j))
   have R:=X (jW g.heap.size g);clear z e f i1 i2 y C
   go_upto_region 5 with fail
   rw[<-I.out];obtain⟨l0,l1,l2,l3,l4,l5,l6⟩:=E g R
   go_region_held3 (λb=>Zq b wr.heap.size 0 (.bool x.1)/\Zq b wr.heap.size 1 (Y x.2.1.v)/\Zq b wr.heap.size (1+1) (Y x.2.1.f)/\Zq b wr.heap.size (1+2) (Zk r x.2.1.e s)/\Zq b wr.heap.size 4 (Y x.2.2.v)/\Zq b wr.heap.size (4+1) (Y x.2.2.f)/\Zq b wr.heap.size (4+2) (Zk t x.2.2.e u)) ((first|(refine E _ ?_;(go_grown<;>exact zZ ‹Hid (Below _ _ _)›);done)|exact Q _ e _ _ _ _ _ _ _|go_keep)) ((first
    |(go_at_call 111
      with_reducible refine(HA.out _ ?_).mono ?_
      ·(go_grown<;>exact zZ ‹Hid (Below _ _ _)›)
      rintro v m ⟨sA,A,rfl,f,y,z,n⟩;obtain⟨C,F,rfl,_⟩:=rL f;have o:Hid (Zb g m):=(by first|exact n|exact dN n);have q:Hid (∀j,j∈A->g.heap.size<=j/\j<m.heap.size):=z;have S:=X f;have U:=X y
      clear f y z n)
    |(go_at_call 111
      with_reducible refine(O.out _ ?_).mono ?_
      ·(go_grown<;>exact zZ ‹Hid (Below _ _ _)›)
      rintro v f ⟨sB,V,rfl,n,C,F,y⟩;obtain⟨aB,aa,rfl,_⟩:=rL n;have z:Hid (Zb m f):=(by first|exact y|exact dN y);have e:=X (o.trans (z.mono o.size));have m:=F;obtain⟨v0,e0⟩:=h f e (k*7) (by omega);obtain⟨v1,e1⟩:=h f e (k*7+1) (by omega);obtain⟨v2,e2⟩:=h f e (k*7+2) (by omega);obtain⟨v3,e3⟩:=h f e (k*7+3) (by omega);obtain⟨v4,e4⟩:=h f e (k*7+4) (by omega);obtain⟨v5,e5⟩:=h f e (k*7+5) (by omega);obtain⟨v6,e6⟩:=h f e (k*7+6) (by omega);have f0:=i f e (k*7);have f1:=i f e (k*7+1);have f2:=i f e (k*7+2);have f3:=i f e (k*7+3);have f4:=i f e (k*7+4);have f5:=i f e (k*7+5);have f6:=i f e (k*7+6);have W:=X n;have Z:=X C
      clear n C F y)))
   have n:=sO (λj l=>z.block j (q j l).2) S;have y:=o.size;have o:=z.size;have C:wr.heap.size<=g.heap.size:=by rw[I.out];simp
   have z:=X (P f _ _ A V e n W (by
    rw[cK];exact⟨U,Z,λe f A d v=>by have F:=(q e f).2;have e:=(m A d).1;omega⟩) (λj l=>by
    rcases vD.1 l with d|d
    .have:=q j d;omega
    have:=m j d;omega))
   clear n y o
   go_wp2_with fail
   go_roundw
   case rel=>exact⟨k+1,_,by omega,by go_num,z⟩
   case measure=>simp[intOf];omega
  have d:k=c.length:=by omega
  subst d;go_wp2;go_ret;exact⟨rfl,B,p⟩
def XH:z∈tB l↔∃x,x∈l/\x.v≠0/\x.v=z:=by
 rw[tB,bP];constructor
 .rintro⟨x,a,rfl⟩
  rw[uW] at a;exact⟨x,a.1,by simpa using a.2,rfl⟩
 rintro⟨x,a,b,rfl⟩;exact⟨x,uW.2 ⟨a,by simpa using b⟩,rfl⟩
def nK:z∈xR t↔∃x,x∈qV t/\x.v≠0/\x.v=z:=by
 rw[xR,(Jw (Gi _).1).2,(Gi _).2,gD,oQ];have h:=(VD t.E).1 t [] (jF _);rw[h];show z∈[]++tB (qV t)↔_;rw[nQ,XH]
def Ge(b:jQ r t)(c:s∈qV t)(d:s.v≠0):1<=s.v/\s.v<=1000:=by
 have a:=(YU t.E).1 t (jF _) b s c;rw[xU,jB d] at a;by_cases e:s.v<1\/1000<s.v
 .rw[jB e] at a;cases a
 omega
def As(a:Zn)(n:Int)(b:List Zn)(t:T)(c:Zn):Int×Int:=
 if tA a n b=0 then(if kI a [t]=0 then(if (xR t).all (λv=>decide (v<=(c.length:Int))) then(if yU n c then(kM n b (λk=>c.getD (k - 1).toNat 0) t,0) else(0,5)) else(0,1)) else(0,kI a [t])) else(0,tA a n b)
def JN{p:Int->Bool}(a:k<r.length)(h:(r.take k).all p=true):(p (r.getD k 0)=true->(r.take (k+1)).all p=true)/\(p (r.getD k 0)=false->r.all p=false):=by
 have c:r.getD k 0=r[k]:=by rw[dI,jO a];rfl
 constructor
 .intro b
  rw[vZ,jO a,Ei,h,<-c];simpa using b
 intro b;rw[Be];exact⟨r[k],uV a,by rw[<-c,b];decide⟩
def tS(a:Zn)(b:Zn)(k:Int):Option Int:=if k∈b then some (a.getD (k - 1).toNat 0) else none
def RI(a:k<r1.length)(j:Int):tS r (r1.take (k+1)) j=if j=r1.getD k 0 then some (r.getD (r1.getD k 0 - 1).toNat 0) else tS r (r1.take k) j:=by
 rw[tS,tS];by_cases e:j=r1.getD k 0
 .rw[jB e,jB ((Yo a).2 (jE e.symm)),e]
 rw[jC e];have h:(j∈r1.take (k+1))↔j∈r1.take k:=by
  rw[Yo a];exact⟨λh=>h.resolve_right (λh=>e h.symm),jD⟩
 simp only[h]
def IT(e:Zn)(K:Zo)(u:Nat)(n:Int)(c:List Zn)(y:Zo)(z:Nat)(t:T)(A:Zo)(B:Nat)(a:Zn)(va:Zo)(vc:Nat)(w:N)(i:jV w e K)(j:dK w c y)(r:InL w t.e A)(L:jV w a va)(ai:a.length<=9223372036854775807):
 Calls Zf 12 #[.agg #[.slice K e.length u],.agg #[Y n,.slice y c.length z],.agg (Zj t A B),.slice va a.length vc] w λh w'=>h=.returned (.tuple #[Y (As e n c t a).1,Y (As e n c t a).2])/\Zb w w':=by
 obtain⟨m,b⟩:=Ze (((w.alloc (.cells #[Zk K e u] 24)).alloc (.cells #[Y n,Zk y c z] 28)).alloc (.cells (Zj t A B) 43));have d:Zb w m:=b▸bJ _ _ _ _;have ay:m.heap.size=w.heap.size+3:=by rw[b];simp
 have s:m.cell? (D w.heap.size 0)=some (Zk K e u):=by rw[b,kW (by simp;omega),kW (by simp)];exact jJ 0 rfl
 have v:m.cell? (D (w.heap.size+1) 0)=some (Y n):=by rw[b,kW (by simp)];exact jJ 0 (by simp)
 have x:m.cell? (D (w.heap.size+1) 1)=some (Zk y c z):=by rw[b,kW (by simp)];exact jJ 1 (by simp)
 have R:jK m (w.heap.size+1+1) (Y t.v) (Y t.f) (Zk A t.e B):=by rw[b];exact jK.new 43 (by simp)
 obtain⟨V,k⟩:=Ze (As e n c t a);rw[<-k];have M:=X k;obtain⟨S,l⟩:=Ze (tA e n c);have q:=X (Pq u n z (kD d i) (gP d j));rw[<-l] at q;have o:=X l;have Hg:=X i;have Ht:=X j;have ac:=X r;have Hv:=X L;have E:=X b;have aj:=X d;have F:=X R;have I:=@run_makeMap Zf;clear k l i j r L b d R
 go_in
 go_wp2_with fail
 rw[<-E.out];refine q.mono ?_;rintro h w1 ⟨rfl,b⟩;have az:=b.size;have r:=jH b s;have cW:=jH b v;have i:=jH b x;have j:=X (F.out.below b);have C:=X (aj.trans (b.mono (by omega)));clear b q s v x E F;by_cases d:S=0
 .have E:Hid (V=if kI e [t]=0 then(if (xR t).all (λv=>decide (v<=(a.length:Int))) then(if yU n a then(kM n c (λk=>a.getD (k - 1).toNat 0) t,0) else(0,5)) else(0,1)) else(0,kI e [t])):=by show _=_;rw[M.out,As,jB (o.out.symm.trans d)]
  have ak:=X (gM.of (o.symm.trans d));subst d;obtain⟨U,b⟩:=Ze (kI e [t]);have l:=X (IV u B (kD C Hg) (jI C ac) (λW=>((rR.1 W).2 t (by simp)).1));rw[<-b] at l E;have O:=X b;obtain⟨s,x,G,_,_,_⟩:=j.out;have Z:=X cW;have aa:=X i;clear M o b
  go_wp2_with fail
  refine l.out.mono ?_;rintro h q ⟨⟨a0,a1,rfl,F⟩,b⟩;have a2:=b.size;have al:=jH b cW;have am:=jH b i;have an:=X (j.out.below b);have ab:=X (C.trans (b.mono C.size));clear l s x G r b cW i Z aa j;by_cases i:U=0
  .have s:Hid (V=if (xR t).all (λv=>decide (v<=(a.length:Int))) then(if yU n a then(kM n c (λk=>a.getD (k - 1).toNat 0) t,0) else(0,5)) else(0,1)):=by show _=_;rw[E.out,jB i]
   have j:=(rR.1 (O.symm.trans i)).2 t (by simp);have r:lR e t=xR t:=(by rw[lR,jB (O.out.symm.trans i)]);rw[r] at F ⊢;have ad:=X j;have ao:(xR t).length<=1000:=by
    have b:=Cl ((gD t).mergeSort λx l=>decide (x<=l));rw[sK] at b;have l:=Jo t;have R:=j.1;show(Lib.compact _).length<=1000;omega
   have ae:Hid (∀v,v∈xR t->1<=v/\v<=1000):=λv L=>by
    obtain⟨x,b,l,rfl⟩:=nK.1 L;exact Ge j.2 b l
   obtain⟨b,l⟩:=Ze (xR t);rw[<-l] at F ao ae s ⊢;have ap:=X l;have aq:=X F;have Z:=X al;have aa:=X am;subst i;clear F j r E O l
   go_wp2_with fail
   go_loopw [34] (λj wr=>∃(k:Nat),k<=b.length/\j=Y k/\vS wr q.heap.size k (tS a (b.take k))/\Hid ((b.take k).all (λv=>decide (v<=(a.length:Int)))=true)/\Hid (Zb q wr)) (λj _=>b.length - (intOf j).toNat)
   case atStart=>exact⟨0,jY _,rfl,kU.congr (kU.made q) (λk=>by simp[tS]),rfl,jG _ _⟩
   case round=>
    obtain⟨k,hk,rfl,l,G,j⟩:=hrel;have a3:=j.size;have HM:=X l;have a4:=kU.lt l;have H:=X (ab.trans (j.mono ab.size));clear l I;by_cases I:k<b.length
    .obtain⟨vb,a5,rfl,J⟩:=pL (kD j aq) (by omega)
     have ck:=J k I;have r:b.getD k 0=b[k]:=(by rw[dI,jO I];rfl);have ar:=ae (b.getD k 0) (r▸uV I);have x:=X (JN (p:=λv=>decide (v<=(a.length:Int))) I G);have P:=X (λl=>RI (r:=a) I l);have a6:(k:Int)<b.length:=(by omega);have a7:(0:Int)<=k:=(by omega);clear J r G;generalize b.getD k 0=v at*;by_cases af:v<=(a.length:Int)
     .have ah:¬(a.length:Int)<v:=by omega
      have Hn:=X (x.1 (iE af));obtain⟨zb,ax,rfl,Q⟩:=pL (kD H Hv) (by omega);have cz:=Q (v - 1).toNat (by omega);obtain⟨r,hq⟩:∃r:Nat,v=(r:Int)+1:=⟨(v - 1).toNat,by omega⟩;obtain⟨au,hu⟩:=Ze (a.getD (v - 1).toNat 0);rw[<-hu] at cz P;rw[show(v - 1).toNat=r by omega] at cz;have a8:v - 1=(r:Int):=(by omega);have a9:(r:Int)<a.length:=(by omega);have ba:(0:Int)<=r:=(by omega);obtain⟨bb,bc⟩:=ar;clear hq hu Q x
      go_wp2_with (at_mapUpdate;refine iR _ rfl _ _ _ 59 rfl 3 Tryz.jw q.heap.size k (λl=>(tS a (b.take k) l).map (Value.int .i64)) rfl HM (by unfold maxLen;omega) v (Y au) (by first|rfl|simp[go_sem]) (by first|rfl|simp[go_sem]) (by omega) (by omega) ?_;intro w5 Q ag)
      have av:vS w5 q.heap.size (k+1) (tS a (b.take (k+1))):=kU.congr Q (λl=>by
       rw[P.out l];by_cases h:l=v
       .rw[jB h,jB h];rfl
       rw[jC h,jC h])
      have aw:=j.grown ag (by omega) (λl l=>by cases l;exact jF _);clear Q ag P
      go_wp2_with fail
      go_roundw
      case rel=>exact⟨k+1,by omega,by go_num,av,Hn,aw⟩
      case measure=>simp[intOf];omega
     have ah:(a.length:Int)<v:=(by omega);have l:=x.2 (cX af);obtain rfl:V=(0,1):=by rw[s.out,l];simp
     clear x l s P
     go_wp2_with fail
     go_ret2
     exact⟨rfl,H⟩
    have au:k=b.length:=(by omega);subst au;rw[qU] at G HM;have r:Hid (V=if yU n a then(kM n c (λk=>a.getD (k - 1).toNat 0) t,0) else(0,5)):=(by show _=_;rw[s.out,G.out];simp);have x:=jH j Z;have av:=X (jH j aa);have P:=X (Tw n vc (kD H Hv) ai);clear s
    go_wp2_with fail
    refine P.mono ?_;rintro h w6 ⟨rfl,l⟩;have v:=X (H.trans (l.mono H.size));have a8:=jH l x;have a9:=jH l av;obtain⟨s0,s1,s2,_,_,_⟩:=(an.below j).below l;have aw:=X (vS.below HM l);clear l P x
    cases s:yU n a with
    |false=>
     rw[s] at r;obtain rfl:V=(0,5):=by rw[r.out];simp
     clear r s
     go_wp2_with fail
     go_ret2
     exact⟨rfl,v⟩
    |true=>
     rw[s] at r;have ag:V=(kM n c (λk=>a.getD (k - 1).toNat 0) t,0):=(by rw[r.out];simp);have P:∀x,x∈qV t->x.v≠0->tS a b x.v=some (a.getD (x.v - 1).toNat 0)/\0<=a.getD (x.v - 1).toNat 0/\a.getD (x.v - 1).toNat 0<n:=λx l d=>by
      have Q:x.v∈b:=(by rw[ap.out];exact nK.2 ⟨x,l,d,rfl⟩);have ba:x.v<=(a.length:Int):=by
       have h9:=uS.1 G x.v Q;simpa using h9
      have hr:=Ge ad.2 l d;rw[tS,jB Q];refine⟨rfl,?_⟩;have ah:(x.v - 1).toNat<a.length:=(by omega);have ax:a.getD (x.v - 1).toNat 0=a[(x.v - 1).toNat]:=(by rw[dI,jO ah];rfl);rw[yU,uS] at s;have h8:=s a[(x.v - 1).toNat] (uV ah);rw[ax];simpa using h8
     have J:=Lr (z:=n) (c:=c) (f:=λk=>(tS a b k).getD 0) (g:=λk=>a.getD (k - 1).toNat 0) t.E t (jF _) (λx l d=>by show(tS a b x.v).getD 0=_;rw[(P x l d).1];rfl);have Q:=X (Rf ak y z q.heap.size b.length (tS a b) t.E t A B w6 (jF _) ad.2 (λx l d=>by rw[(P x l d).1];exact(P x l d).2) aw (gP v Ht) (jI v ac));rw[J] at Q;obtain⟨x,l⟩:=Ze (kM n c (λk=>a.getD (k - 1).toNat 0) t);rw[<-l] at Q ag;subst ag;clear r s P J l
     go_wp2_with fail
     refine Q.mono ?_;rintro h r ⟨rfl,k⟩;have l:=X (v.trans (k.mono v.size));clear k Q
     go_wp2_with fail
     go_ret2
     exact⟨rfl,l⟩
  have j:(U !=0)=true:=by simpa using i
  obtain rfl:V=(0,U):=by rw[E.out,jC i]
  clear E O i F
  go_wp2_with fail
  go_ret2
  exact⟨rfl,ab⟩
 have b:(S !=0)=true:=by simpa using d
 obtain rfl:V=(0,S):=by rw[M.out,As,jC (λW=>d (o.out.trans W)),o.out]
 clear M o d
 go_wp2_with fail
 go_ret2
 exact⟨rfl,C⟩
end Go.Proofs.YtohdnhlfpldbmaaGreat
