import Derived.Test.YtohdnhlfpldbmaaGreatJoined2
set_option maxRecDepth 100000
set_option maxHeartbeats 32000000
set_option linter.all false
namespace Go.Proofs.YtohdnhlfpldbmaaGreat
open Go.RowKit Go.Maps
open Go.Proofs.Tryz renaming prog->Zf
attribute [local go_sem ↓] Go.wp_at_zero Go.wp_at_succ
variable {k n m i j n1 n2 n3 n4 n5 n6 n7 n8 n9:Nat}{w u v w1 w2 w3 w4 w5:N}{x y x1 x2 x3 x4 x5 x6 x7 x8 x9:Value}{r r1 r2:Zn}{p p1 p2:Zp}{z z1 z2 z3:Int}{a a1 a2 a3 a4:Zo}{t s t1 t2:T}{c d c1 c2:Zc}{g g1 g2:TypeId}{b b1 b2:Zs}{l l1:Zt}{U V U1 U2:Zu}{B B1:Bool}
def AX.begun(a:N):AX (λk=>a.heap.size+1+1<=k) (a.heap.size+1+1) (a.heap.size+1) a.heap.size ((a.alloc (.map #[] 0)).alloc (.cells #[Zd,.map (some a.heap.size)] 259)) (Zd) ([],[]):=by
 have b:(a.alloc (.map #[] 0)).heap.size=a.heap.size+1:=qE _ _;refine⟨jJ 0 b.symm,jJ 1 b.symm,⟨[],⟨rfl,jD ⟨rfl,rfl⟩⟩,rfl⟩,?_,λk=>?_,by omega,by omega,by omega⟩
 .exact((kU.made a).below (jG _ _)).congr (λk=>rfl)
 rw[<-b];simp
def rP(w a:N)(r:Zs×Bool×Int)(e:Ending):Prop:=
 ∃b c,e=.returned (.tuple #[.slice b r.1.length c,.bool r.2.1,Y r.2.2])/\xV (λk=>w.heap.size<=k) a r.1 b/\Zb w a
def rP.no(a:Zb w u):rP w u ([],B,z) (.returned (.tuple #[Zd,.bool B,Y z])):=⟨none,0,rfl,trivial,a⟩
def IR(Z:Nat)(F:Nat)(G:Nat)(n:jV w r a)(c:InL w t.e a1)(d:InL w s.e a2)(o:Zs×Bool×Int)(g:eH k t s=some o)(f:kI r [t,s]=0):
 Calls Zf 196 #[.agg #[.slice a r.length Z],.agg (Zj t a1 F),.agg (Zj s a2 G)] w λe j=>rP w j o e:=by
 obtain⟨h,i,m,p⟩:=oT f;have I:=@run_makeMap Zf;have l:=X (λo1 o2 b=>Qv r a Z t a1 F s a2 G (((w.alloc o1).alloc o2).alloc b) (qD b (qD o2 (qD o1 n))) (jS b (jS o2 (jS o1 c))) (jS b (jS o2 (jS o1 d))));rw[f] at l;have aj:=X c;have ak:=X d;have K:=X (jM h (jM i (jM m p)));have E:=X (jEr g);clear n c d g f h i m p
 go_in
 go_wp2_with fail
 refine(l _ _ _).mono ?_;rintro e b ⟨rfl,d⟩;have ax:w.heap.size+3<=b.heap.size:=by have:=d.size;simp at this;omega
 have g:Zb w b:=(((jG _ _).alloc (by simp) _).alloc (by simp;omega) _).trans (d.mono (by simp;omega));have u:jK b (w.heap.size+1) (Y t.v) (Y t.f) (Zk a1 t.e F):=((jK.new _ (by simp)).alloc _).below d;have v:jK b (w.heap.size+1+1) (Y s.v) (Y s.f) (Zk a2 s.e G):=(jK.new _ (by simp)).below d;have i:=AX.begun b;obtain⟨p,H⟩:=Ze ((b.alloc (.map #[] 0)).alloc (.cells #[Zd,.map (some b.heap.size)] 259));rw[<-H] at i;have x:p.heap.size=b.heap.size+1+1:=by rw[H,qE,qE]
 have f:Zb b p:=H▸kF _ _ _;obtain⟨y,B,C,_,_,_⟩:=(u.alloc (.map #[] 0)).alloc (.cells #[Zd,.map (some b.heap.size)] 259);have z:jT (λc=>c<b.heap.size) p t.e a1:=kQ (λc h=>by have h:True/\c<w.heap.size:=h;omega) (jI (g.trans (f.mono (by omega))) (lE aj));have A:jT (λc=>c<b.heap.size) p s.e a2:=kQ (λc h=>by have h:True/\c<w.heap.size:=h;omega) (jI (g.trans (f.mono (by omega))) (lE ak));have m:=X (Tp r (b.heap.size+1+1) (by omega) (jF _) (t.E+1) t a1 F ([],[]) (Zd) (λc=>b.heap.size+1+1<=c) p (by omega) K.2.1 (by have:=K.1;simp;omega) (by have:=K.1;simp;omega) (by omega) (λc h=>h) (λc h=>by omega) i z);have al:=X (v.below f);have am:=X A;have ay:=X i;have an:=X f;have ao:=X g;have q:=X x;have ap:=X H;clear u v i f g x z A d
 go_wp2_with fail
 rw[<-ap.out];refine m.mono ?_;rintro e M ⟨lA,rfl,d,i⟩;clear m l I y B C;have f:Below b.heap.size p M:=i.below (by have:=q.out;omega) (by omega) (jF _) (λI n=>by cases n);have z:=(Ce _).1 t ([],[]) (jF _);have v:=(Jn _).1 t ([],[]) (jF _) K.2.1 ⟨eT,λx u=>by cases u⟩;obtain⟨y,B,C,_,_,_⟩:=al.same (f.block _ (by omega));have az:=i.size;obtain⟨O,J⟩:∃P,P=(kB t ([],[])).1:=⟨_,rfl⟩;obtain⟨l,L⟩:∃S,S=(kB t ([],[])).2:=⟨_,rfl⟩;have g:=E.out;rw[<-J] at g ⊢;rw[<-L] at z v d g;have z:l.1.length<=0+t.E/\l.2.length<=0+t.E:=z;have U:=X v;have m:=X (Tp r (b.heap.size+1+1) (by omega) (jF _) (s.E+1) s a2 G l lA (λc=>b.heap.size+1+1<=c) M (by omega) K.2.2.2 (by have:=K.out;omega) (by have:=K.out;omega) (by have:=q.out;omega) (λc h=>h) (λc h=>by have:=q.out;omega) d (xN (λc A _=>f.block c A) am));have V:=X d;have aq:=X f;have W:=X g;clear d i f v J L g E
 go_wp2_with fail
 refine m.mono ?_;rintro e v ⟨lB,rfl,i,L⟩;clear m y B C;have aa:Below b.heap.size M v:=L.below (by have:=q.out;omega) (by omega) (jF _) (λI n=>by have:=(V.outs.row I n).1;omega);have ab:=(Ce _).1 s l (jF _);have m:=(Jn _).1 s l (jF _) K.2.2.2 U;have a0:=L.size;obtain⟨iB,ac⟩:∃P,P=(kB s l).1:=⟨_,rfl⟩;obtain⟨d,ad⟩:∃S,S=(kB s l).2:=⟨_,rfl⟩;have g:=W.out;rw[<-ac] at g ⊢;rw[<-ad] at ab m i g;obtain⟨Q,I,C,B⟩:=g;have a3:d.1.length<=1000/\d.2.length<=1000:=by have:=K.out;omega
 have ae:0<d.1.length:=by obtain⟨_,x,_,_,h,_⟩:=Pj C;have:=Kn h;omega
 obtain⟨f,J,_,af,hU⟩:=GT i.outs i.h i.ub i.ki ae (by omega);have HJ:=X (show Calls Zf 206 _ v λe j=>e=.returned (.bool Q)/\yN (λc=>b.heap.size+1+1<=c/\c≠f) j (b.heap.size+1) f J I/\v.grownBy j (some f) from TO _ _ f J k d.1 O iB (Q,I) v hU C);have y:=X af;have R:=X i;have ag:=X m;have E:=X B;have ar:=X (ao.trans ((an.trans (aq.trans aa)).mono (by omega)));clear i L aa m ac ad W C B hU af ae z ab U V
 go_wp2_with fail
 refine HJ.mono ?_;rintro e L ⟨rfl,m,i⟩;have aa:=X (ar.grown i (by have:=q.out;omega) (λc A=>by cases A;have:=y.out;omega));have a4:=i.size;have au:=X m;have ab:=X i;clear HJ m i
 cases Q with
 |false=>
  have i:Hid (o=([],false,0)):=by
   rcases E.out with⟨_,h⟩|⟨h,_⟩
   .exact h
   cases h
  clear E;go_wp2
  go_ret3
  rw[i.out];exact rP.no aa.out
 |true=>
  obtain⟨m,C,i,B⟩:∃m C,nX k I O=some (m,C)/\_:=by
   rcases E.out with⟨h,_⟩|⟨_,h⟩
   .cases h
   exact h
  have V:=X (show Calls Zf 207 _ L λe j=>e=.returned (Y m)/\yN (λc=>b.heap.size+1+1<=c/\c≠f) j (b.heap.size+1) f J C/\gQ f L j from WJ _ _ f J k I O (m,C) L au.out i);have z:=X B;clear i B E
  go_wp2_with fail
  refine V.mono ?_;rintro e U ⟨rfl,E,i⟩;have B:=X (aa.trans (i.below (by have:=y.out;omega)));have W:U.heap.size=L.heap.size:=i.size;have av:=X E;have ac:=X i;have a5:=X W;clear V E i W;by_cases i:m= -1
  .have V:Hid (o=([],false,0)):=by
    rcases z with⟨_,h⟩|⟨h,_⟩|⟨h,_⟩
    .exact h
    .exact jN i h
    exact jN i h
   subst i;clear z;go_wp2
   go_ret3
   rw[V.out];exact rP.no B
  have f1:(m== -1)=false:=by simpa using i
  by_cases e2:120<m
  .have V:Hid (o=([],false,2)):=by
    rcases z with⟨h,_⟩|⟨_,_,h⟩|⟨_,h,_⟩
    .exact jN h i
    .exact h
    exact jN e2 (by omega)
   clear i z;go_wp2
   go_ret3
   rw[V.out];exact rP.no B
  obtain⟨W,ad,ae⟩:∃W,pZ C k (λE=>(vJ d.2 E).getD 0) ((d.2.map Prod.fst).mergeSort (λx af=>decide (x<=af)))=some W/\o=(W,true,0):=by
   rcases z with⟨h,_⟩|⟨_,h,_⟩|⟨_,_,h⟩
   .exact jN h i
   .exact jN h e2
   exact h
  have aw:b.heap.size+1<v.heap.size:=by have:=q.out;omega
  have af:U.cell? (D (b.heap.size+1) 1)=some (.map (some b.heap.size)):=by
   rw[ac.out.cell (by have:=y.out;omega),kH (w:=v) (a:=(D (b.heap.size+1) 1)) (ab.out.block (b.heap.size+1) aw (λe=>by have h9:=y.out;have h8:b.heap.size+1=f:=(by simpa using e);omega))];exact R.map
  have ah:kU U b.heap.size d.2.length (λE=>(vJ d.2 E).map (λai:Nat=>Value.int .i64 (ai:Int))):=R.mp.same (by
   rw[ac.out.block _ (by have:=y.out;omega),ab.out.block _ (by omega) (λe=>by have:=y.out;cases e;omega)])
  have H4:=X (LB (λE=>(vJ d.2 E).getD 0) av af ah (by omega) ag.1 (λx=>by rw[Db];cases vJ d.2 x<;>rfl) (λx u=>by
   have h1:=ag.2 x u;rw[Db] at u;refine⟨?_,h1.1,by omega⟩
   cases hl:vJ d.2 x with
   |none=>rw[hl] at u;cases u
   |some ai=>rfl) (by rw[dY];omega) ad)
  have x:=X ae;clear i ad ae af ah z R
  go_wp2_with fail
  refine H4.mono ?_;rintro e wE ⟨z,R,rfl,i,u⟩;have ad:=X (B.trans (u.mono B.size));have ae:=X (tN (λc A=>kN B.size A) i);clear u i;go_wp2
  go_ret3
  rw[x.out];exact⟨z,R,rfl,ae,ad⟩
def oP(P:List Pt)(k:Nat):Bool:=match P[k]? with
 |none=>false
 |some p=>p.Q==k
def dP(P:List Pt):Nat:=(List.range P.length).countP (oP P)
def Vd{p q:Nat->Bool}:∀{n:Nat},k<n->(∀a,a<n->a≠k->p a=q a)->p k=true->q k=false->(List.range n).countP q+1=(List.range n).countP p:=by
 intro n;induction n with
 |zero=>intro h;omega
 |succ n f=>
  intro h b c d;rw[List.range_succ,List.countP_append,List.countP_append,List.countP_singleton,List.countP_singleton];by_cases g:k=n
  .subst g
   rw[c,d];have:(List.range k).countP q=(List.range k).countP p:=List.countP_congr λa e=>by
    have:=eS.1 e;rw[b a (by omega) (by omega)]
   simp[this]
  have:=f (by omega) (λa e e=>b a (by omega) e) c d;rw[b n (by omega) (by omega)];omega
structure yP (P:List Pt):Prop where
 e:∀(k:Nat) (p:Pt),P[k]? =some p->∀a,a∈p.e->a<k
 Q:∀(k:Nat) (p:Pt),P[k]? =some p->p.Q<P.length
 vh:∀(k:Nat) (p q:Pt),P[k]? =some p->P[p.Q]? =some q->q.v<=p.v
 nn:∀(k:Nat) (p:Pt),P[k]? =some p->0<=p.v
 var:∀(k:Nat) (p:Pt),P[k]? =some p->p.v≠0->p.e=[]/\p.f=0
 uniq:∀(j k:Nat) (p q:Pt),P[j]? =some p->P[k]? =some q->p.v=q.v->p.v≠0->j=k
 dep:∃d:Nat->Nat,(∀(k:Nat) (p:Pt),P[k]? =some p->(p.Q=k->d k=0)/\(p.Q≠k->d p.Q<d k))/\∀k,k<P.length->d k+dP P<=P.length
def Ww{P:List Pt}:∀{n m a:Nat},yB P n a=some k->n<=m->yB P m a=some k:=by
 intro n;induction n with
 |zero=>intro m a h;cases h
 |succ n b=>
  intro m a h d;obtain⟨_,p,_,c⟩:=uB h;obtain⟨m,rfl⟩:∃j,m=j+1:=⟨m - 1,by omega⟩;rw[nV c] at h ⊢;by_cases e:p.Q=a
  .rw[jB e] at h ⊢;exact h
  rw[jC e] at h ⊢;exact b h (by omega)
def SI{P:List Pt}(h:yB P m j=some k)(b:yB P i j=some n):k=n:=by
 have c:=Ww h (Nat.le_max_left m i);have a:=Ww b (Nat.le_max_right m i);rw[c] at a;exact kT a
def SJ{P:List Pt}:∀{n a:Nat},yB P n a=some k->∃p,P[k]? =some p/\p.Q=k:=by
 intro n;induction n with
 |zero=>intro a h;cases h
 |succ n c=>
  intro a h;obtain⟨_,p,_,b⟩:=uB h;rw[nV b] at h;by_cases e:p.Q=a
  .rw[jB e] at h;cases h;exact⟨p,b,e⟩
  rw[jC e] at h;exact c h
def SG{P:List Pt}(h:yP P)(a:k<P.length):∃r,yB P (P.length+1) k=some r:=by
 obtain⟨d,hd,c⟩:=h.dep;have f:∀n k,k<P.length->d k<=n->∃r,yB P (n+1) k=some r:=by
  intro n;induction n with
  |zero=>
   intro k a g;have b:=jO a;refine⟨k,?_⟩;rw[nV b,jB];by_cases e:P[k].Q=k
   .exact e
   have:=(hd k _ b).2 e;omega
  |succ n g=>
   intro k a i;have b:=jO a;rw[nV b];by_cases e:P[k].Q=k
   .exact⟨k,by rw[jB e]⟩
   rw[jC e];exact g _ (h.Q k _ b) (by have:=(hd k _ b).2 e;omega)
 exact f P.length k a (by have:=c k a;omega)
def hd(P:List Pt)(k:Nat):Nat:=(yB P (P.length+1) k).getD 0
def aU{P:List Pt}(h:yP P)(a:k<P.length):yB P (P.length+1) k=some (hd P k):=by
 obtain⟨r,b⟩:=SG h a;rw[hd,b];rfl
def uA{P:List Pt}(h:yP P)(a:yB P n k=some m):hd P k=m:=by
 obtain⟨_,p,_,b⟩:=uB a;have c:=(Zl b);exact SI (aU h c) a
def Pf{P:List Pt}(h:yP P)(a:k<P.length):hd P k<P.length:=Kn (aU h a)
def Km{P:List Pt}(h:yP P)(a:k<P.length):∃p,P[hd P k]? =some p/\p.Q=hd P k:=SJ (aU h a)
def eA{P:List Pt}(h:yP P){p:Pt}(a:P[k]? =some p)(e:p.Q=k):hd P k=k:=uA (n:=1) h (by rw[nV a,jB e])
def Fr{P:List Pt}(h:yP P){p:Pt}(a:P[k]? =some p):hd P p.Q=hd P k:=by
 have c:=(Zl a);by_cases e:p.Q=k
 .rw[e]
 have b:=aU h (h.Q k p a);refine(uA (n:=P.length+1+1) h ?_).symm;rw[nV a,jC e,b]
def Pe{P:List Pt}(h:yP P)(a:k<P.length):hd P (hd P k)=hd P k:=by
 obtain⟨p,b,e⟩:=Km h a;exact eA h b e
def Kl{P:List Pt}(h:yP P)(M:Zp)(b:∀(k:Nat)(p:Pt),P[k]? =some p->p.Q=k->M k)(c:∀(k:Nat)(p:Pt),P[k]? =some p->p.Q≠k->M p.Q->M k):∀k,k<P.length->M k:=by
 obtain⟨d,hd,_⟩:=h.dep;have f:∀n k,k<P.length->d k<=n->M k:=by
  intro n;induction n with
  |zero=>
   intro k g i;have a:=jO g;by_cases e:P[k].Q=k
   .exact b k _ a e
   have:=(hd k _ a).2 e;omega
  |succ n g=>
   intro k i j;have a:=jO i;by_cases e:P[k].Q=k
   .exact b k _ a e
   exact c k _ a e (g _ (h.Q k _ a) (by have:=(hd k _ a).2 e;omega))
 exact λk a=>f _ k a (jF _)
def SH{P:List Pt}(h:yP P):∀(k:Nat),k<P.length->∀(p q:Pt),P[k]? =some p->P[hd P k]? =some q->q.v<=p.v:=by
 refine Kl h _ (λk p a e d q c b=>?_) (λk p a e f d q c b=>?_)
 .rw[eA h a e] at b
  rw[c] at b;cases b;omega
 rw[a] at c;cases c;have d:=h.Q k p a;have c:=jO d;have e:=h.vh k p _ a c;have g:=f _ q c (by rw[Fr h a];exact b);omega
def Gj(p:Pt):Pt:={p with Q:=0}
def lT(P a:List Pt):Prop:=P.map Gj=a.map Gj
def lT.len{P a:List Pt}(h:lT P a):a.length=P.length:=by
 have:=xE List.length h;simpa using this.symm
def lT.at{P c:List Pt}(h:lT P c){p:Pt}(e:P[k]? =some p):∃b,c[k]? =some b/\b.v=p.v/\b.f=p.f/\b.e=p.e/\b.size=p.size:=by
 have a:(P.map Gj)[k]? =(c.map Gj)[k]?:=by rw[h]
 rw[bZ,bZ,e] at a
 cases d:c[k]? with
 |none=>rw[d] at a;cases a
 |some b=>
  rw[d] at a;simp only[cO,qW,Gj,Pt.mk.injEq] at a;exact⟨b,rfl,a.1.symm,a.2.1.symm,a.2.2.1.symm,a.2.2.2.2.symm⟩
theorem lT.refl(P:List Pt):lT P P:=rfl
def lT.trans{P a b:List Pt}(h:lT P a)(c:lT a b):lT P b:=Eq.trans h c
def lT.symm{P a:List Pt}(h:lT P a):lT a P:=Eq.symm h
def lT.set{P:List Pt}{q:Pt}(a:P[k]? =some q)(x:Nat):lT P (P.set k {q with Q:=x}):=by
 refine oB λb=>?_;rw[bZ,bZ];by_cases e:b=k
 .subst e
  have b:=(Zl a);rw[pO b,a];rfl
 rw[gY (λh=>e h.symm)]
section
variable {P:List Pt} {x y:Nat} {p q:Pt}
def UM(i:P[x]? =some p)(c:P[y]? =some q)(j:p.Q=x)(l:q.Q=y)(d:x≠y):∀{n k r:Nat},yB P n k=some r->yB (P.set y {q with Q:=x}) (n+1) k=some (if r=y then x else r):=by
 have m:=(Zl c);have o:∀n,yB (P.set y {q with Q:=x}) (n+1) x=some x:=λn=>by
  have:(P.set y {q with Q:=x})[x]? =some p:=by rw[gY (λh=>d h.symm)];exact i
  rw[nV this,jB j]
 intro n;induction n with
 |zero=>intro k r h;cases h
 |succ n s=>
  intro k r h;obtain⟨_,f,_,a⟩:=uB h;rw[nV a] at h;by_cases e:k=y
  .subst e
   rw[c] at a;cases a;rw[jB l] at h;cases h;have b:(P.set k {q with Q:=x})[k]? =some {q with Q:=x}:=pO m;rw[nV b,jC d,jB rfl];exact o n
  have b:(P.set y {q with Q:=x})[k]? =some f:=by rw[gY (λh=>e h.symm)];exact a
  rw[nV b];by_cases g:f.Q=k
  .rw[jB g] at h ⊢;cases h;rw[jC e]
  rw[jC g] at h ⊢;exact s h
def Xp(a:P[y]? =some q)(c:q.Q=y)(d:x≠y):dP (P.set y {q with Q:=x})+1=dP P:=by
 have b:=(Zl a);rw[dP,dP,lF];refine Vd b (λk e e=>?_) ?_ ?_
 .rw[oP,oP,gY (λh=>e h.symm)]
 .rw[oP,a];simpa using c
 rw[oP,pO b];simpa using d
def Xq(h:yP P)(i:P[x]? =some p)(j:P[y]? =some q)(u:p.Q=x)(v:q.Q=y)(l:x≠y)(z:p.v<=q.v):yP (P.set y {q with Q:=x}):=by
 have f:=lT.set j x;have A:=(Zl i);have B:=(Zl j);have n:∀(k:Nat)(r:Pt),(P.set y {q with Q:=x})[k]? =some r->(k=y/\r={q with Q:=x})\/(k≠y/\P[k]? =some r):=λk r a=>by
  by_cases e:k=y
  .subst e;rw[pO B] at a;cases a;exact jD ⟨rfl,rfl⟩
  rw[gY (λh=>e h.symm)] at a;exact jE ⟨e,a⟩
 refine⟨λk r a m o=>?_,λk r a=>?_,λk r s a d=>?_,λk r a=>?_,λk r a=>?_,λt k r s a d w g=>?_,?_⟩
 .obtain⟨e,c,_,_,b,_⟩:=f.symm.at a
  exact h.e k e c m (b▸o)
 .rw[lF]
  rcases n k r a with⟨rfl,rfl⟩|⟨_,a⟩
  .exact A
  exact h.Q k r a
 .rcases n k r a with⟨rfl,rfl⟩|⟨m,a⟩
  .rw[gY (λh=>l h.symm),i] at d;cases d;exact z
  obtain⟨o,c,b,_⟩:=f.symm.at d;rw[<-b];exact h.vh k r o a c
 .obtain⟨e,c,b,_⟩:=f.symm.at a
  rw[<-b];exact h.nn k e c
 .obtain⟨e,c,b,o,s,_⟩:=f.symm.at a
  rw[<-b,<-o,<-s];exact h.var k e c
 .obtain⟨e,c,b,_⟩:=f.symm.at a
  obtain⟨C,o,s,_⟩:=f.symm.at d;exact h.uniq t k e C c o (by rw[b,s];exact w) (b▸g)
 obtain⟨d,t,E⟩:=h.dep;refine⟨λk=>if hd P k=y then d k+1 else d k,λk r a=>?_,λk w=>?_⟩
 .rcases n k r a with⟨rfl,rfl⟩|⟨m,a⟩
  .refine⟨λm=>jN m l,λ_=>?_⟩
   show(if hd P x=k then d x+1 else d x)<(if hd P k=k then d k+1 else d k);rw[eA h i u,jC l,eA h j v,jB rfl,(t x p i).1 u];omega
  refine⟨λg=>?_,λg=>?_⟩
  .show(if hd P k=y then d k+1 else d k)=0
   rw[eA h a g,jC m];exact(t k r a).1 g
  show(if hd P r.Q=y then d r.Q+1 else d r.Q)<(if hd P k=y then d k+1 else d k);rw[Fr h a];have:=(t k r a).2 g;split<;>omega
 rw[lF] at w ⊢;have c:=Xp j v l;have b:=E k w;show(if hd P k=y then d k+1 else d k)+_<=_;split<;>omega
def UL(h:yP P)(a:P[x]? =some p)(b:P[y]? =some q)(c:p.Q=x)(d:q.Q=y)(e:x≠y)(f:p.v<=q.v)(g:k<P.length):hd (P.set y {q with Q:=x}) k=if hd P k=y then x else hd P k:=
 uA (Xq h a b c d e f) (UM a b c d e (aU h g))
end
def Ed(P:List Pt)(k:Nat):Prop:=∀(p q:Pt),P[k]? =some p->P[p.Q]? =some q->p.v≠0\/(q.v=0/\p.f=q.f/\p.e.length=q.e.length/\∀(i a b:Nat),p.e[i]? =some a->q.e[i]? =some b->hd P a=hd P b)
structure JO (P P':List Pt) (ok:Bool):Prop where
 sj:lT P P'
 wf:yP P'
 hs:dP P'<=dP P
 mono:∀(i j:Nat),i<P.length->j<P.length->hd P i=hd P j->hd P' i=hd P' j
 kv:ok=true->∀(k:Nat) (p p':Pt),P[k]? =some p->P'[k]? =some p'->p'.Q=p.Q\/Ed P' k
def JO.refl{P:List Pt}(h:yP P)(b:Bool):JO P P b:=⟨rfl,h,jF _,λ_ _ _ _ e=>e,λ_ k p a c a=>by rw[c] at a;cases a;exact jD rfl⟩
def JO.vc{P b:List Pt}(h:JO P b B)(j:yP P){p l:Pt}(a:P[k]? =some p)(m:b[k]? =some l)(u:l.Q=p.Q)(c:Ed P k):Ed b k:=by
 intro G H n o;rw[m] at n;cases n;rw[u] at o;obtain⟨q,d,v,w,r,_⟩:=h.sj.symm.at o;obtain⟨I,s,x,y,t,_⟩:=h.sj.symm.at m;rw[a] at s;cases s;rcases c p q a d with c|⟨z,A,C,E⟩
 .exact jD (x▸c)
 refine jE ⟨by rw[<-v];exact z,by rw[<-y,<-w];exact A,by rw[<-t,<-r];exact C,λF e f g i=>?_⟩;rw[<-t] at g;rw[<-r] at i;have J:=(Zl a);have K:=(Zl d);have L:=j.e k p a e (jU g);have M:=j.e _ q d f (jU i);exact h.mono e f (by omega) (by omega) (E F e f g i)
def JO.trans{P c d:List Pt}(h:JO P c B)(a:JO c d B1)(m:B1=true->B=true):JO P d B1:=by
 refine⟨h.sj.trans a.sj,a.wf,kN a.hs h.hs,λi j b f e=>a.mono i j (h.sj.len▸b) (h.sj.len▸f) (h.mono i j b f e),λf k p g i j=>?_⟩;obtain⟨l,b,_⟩:=h.sj.at i;rcases a.kv f k l g b j with e|g
 .rcases h.kv (m f) k p l i b with f|g
  .exact jD (e.trans f)
  exact jE (a.vc h.wf b j e g)
 exact jE g
def cG(b:Int->T)(P:List Pt)(a:Nat->T):Prop:=∀(k:Nat)(p:Pt),P[k]? =some p->a k=if p.v=0 then⟨0,p.f,p.e.map a⟩ else b p.v
def cG.same{a:Int->T}{P b:List Pt}{c:Nat->T}(h:cG a P c)(d:lT P b):cG a b c:=by
 intro k p e;obtain⟨f,g,i,j,l,_⟩:=d.symm.at e;rw[h k f g,i,j,l]
def mI(P:List Pt)(a:Nat->T):Prop:=∀(k:Nat)(p:Pt),P[k]? =some p->a k=a p.Q
def mI.hd{P:List Pt}{b:Nat->T}(h:yP P)(c:mI P b):∀k,k<P.length->b k=b (hd P k):=by
 refine Kl h _ (λk p a e=>by rw[eA h a e]) (λk p a e d=>?_);rw[c k p a,d,Fr h a]
def JR(n:Nat)(P:List Pt)(i j:Nat):Prop:=
 ∃c a,fD n P i j=some (c,a)/\JO P a c/\(c=true->hd a i=hd a j)/\∀d b,cG d P b->mI P b->b i=b j->c=true/\mI a b
def PQ(z:∀P i r,yP P->i<P.length->r<P.length->dP P<k->JR k P i r):∀(l m:List Nat)(P:List Pt),l.length=m.length->yP P->dP P<k->(∀a,a∈l->a<P.length)->(∀a,a∈m->a<P.length)->
 ∃c h,sV (fD k) l m P=some (c,h)/\JO P h c/\(c=true->∀(i a d:Nat),l[i]? =some a->m[i]? =some d->hd h a=hd h d)/\∀e b,cG e P b->mI P b->l.map b=m.map b->c=true/\mI h b:=by
 intro l;induction l with
 |nil=>
  intro m P f g n _ _
  cases m with
  |cons d m=>simp at f
  |nil=>exact⟨true,P,rfl,JO.refl g _,λ_ i a d j=>by simp at j,λe b _ j _=>⟨rfl,j⟩⟩
 |cons a l A=>
  intro m P s B t n o
  cases m with
  |nil=>simp at s
  |cons d m=>
   obtain⟨c,u,v,g,C,w⟩:=z P a d B (n a vX) (o d vX) t
   cases c with
   |false=>
    refine⟨false,u,by rw[sV,v];rfl,g,(λf=>by cases f),λe b hd j f=>?_⟩;simp only[yI,mX] at f
    cases (w e b hd j f.1).1
   |true=>
    have j:=g.sj.len;obtain⟨c,E,F,y,G,H⟩:=A m u (by simpa using s) g.wf (Nat.lt_of_le_of_lt g.hs t) (λx f=>by rw[j];exact n x (vG _ f)) (λx f=>by rw[j];exact o x (vG _ f));refine⟨c,E,by rw[sV,v];exact F,g.trans y (λ_=>rfl),λI i x J f p=>?_,λe b hd K q=>?_⟩
    .cases i with
     |zero=>
      simp only[vP,qW] at f p;subst f p;exact y.mono _ _ (j▸n _ vX) (j▸o _ vX) (C rfl)
     |succ i=>exact G I i x J (by simpa using f) (by simpa using p)
    simp only[yI,mX] at q;exact H e b (hd.same g.sj) (w e b hd K q.1).2 q.2
def Xh(ih:∀P i j,yP P->i<P.length->j<P.length->dP P<k->JR k P i j){P:List Pt}{p q:Pt}(h:yP P)(d:P[n]? =some p)(c:P[m]? =some q)(L:p.Q=n)(B:q.Q=m)(C:n≠m)(E:p.v<=q.v)(hh:dP P<k+1):
 ∃f y,tU (fD k) P n m p q=some (f,y)/\JO P y f/\(f=true->hd y n=hd y m)/\∀t a,cG t P a->mI P a->a n=a m->f=true/\mI y a:=by
 have S:=(Zl d);have M:=(Zl c);have o:=lT.set c n;have O:=Xq h d c L B C E;have F:=λ {b}(l:b<P.length)=>UL h d c L B C E l;have ag:=Xp c B C;have U:hd (P.set m {q with Q:=n}) n=hd (P.set m {q with Q:=n}) m:=by
  rw[F S,F M,eA h d L,eA h c B,jC C,jB rfl]
 have Q:∀(i j:Nat),i<P.length->j<P.length->hd P i=hd P j->hd (P.set m {q with Q:=n}) i=hd (P.set m {q with Q:=n}) j:=λi j G H e=>by rw[F G,F H,e]
 have V:∀(b:Nat)(r z:Pt),P[b]? =some r->(P.set m {q with Q:=n})[b]? =some z->z.Q=r.Q\/b=m:=λb r z u g=>by
  by_cases e:b=m
  .exact jE e
  rw[gY (λh=>e h.symm),u] at g;cases g;exact jD rfl
 have R:(P.set m {q with Q:=n})[m]? =some {q with Q:=n}:=pO M;have W:∀a,mI P a->a n=a m->mI (P.set m {q with Q:=n}) a:=λa s e b r l=>by
  by_cases v:b=m
  .subst v;rw[R] at l;cases l;exact e.symm
  rw[gY (λh=>v h.symm)] at l;exact s b r l
 rw[tU];by_cases v:q.v=0
 .have I:p.v=0:=by have:=h.nn n p d;omega
  rw[jB v];have Z:∀f:Bool,f=false->JO P (P.set m {q with Q:=n}) f:=λf e=>⟨o,O,by omega,Q,λw=>by rw[e] at w;cases w⟩;by_cases J:p.f=q.f
  .rw[jB J,Cn]
   by_cases A:p.e.length=q.e.length
   .rw[jB A]
    obtain⟨f,P2,he,l,ab,ac⟩:=PQ ih p.e q.e _ A O (by omega) (λK x=>by rw[lF];have:=h.e n p d K x;omega) (λK x=>by rw[lF];have:=h.e m q c K x;omega);refine⟨f,P2,he,⟨o.trans l.sj,l.wf,by have:=l.hs;omega,λi j G H e=>l.mono i j (by rw[lF];exact G) (by rw[lF];exact H) (Q i j G H e),λH b r r2 u g=>?_⟩,λ_=>l.mono n m (by rw[lF];exact S) (by rw[lF];exact M) U,λt a hd s e=>?_⟩
    .obtain⟨r1,G,_⟩:=o.at u
     rcases l.kv H b r1 r2 G g with e|ad
     .rcases V b r r1 u G with w|w
      .exact jD (e.trans w)
      subst w;rw[R] at G;cases G;refine jE ?_;intro K ah x w;rw[g] at x;cases x;rw[e] at w;obtain⟨b',g1,g2,g3,x,_⟩:=(o.trans l.sj).symm.at w;obtain⟨a',K,g6,g7,g8,_⟩:=(o.trans l.sj).symm.at g;rw[c] at K;cases K;have aa:P[n]? =some b':=g1;rw[d] at aa;cases aa;refine jE ⟨by rw[<-g2];exact I,by rw[<-g7,<-g3];exact J.symm,by rw[<-g8,<-x];exact A.symm,λi ae af hu E=>?_⟩;exact(ab H i af ae (x▸E) (g8▸hu)).symm
     exact jE ad
    refine ac t a (hd.same o) (W a s e) ?_;rw[hd n p d,hd m q c,jB I,jB v] at e;simp only[T.mk.injEq] at e;exact e.2.2
   rw[jC A];refine⟨false,_,rfl,Z _ rfl,(λh=>by cases h),λt a hd s e=>?_⟩;rw[hd n p d,hd m q c,jB I,jB v] at e;simp only[T.mk.injEq] at e;have:=xE List.length e.2.2;simp at this;exact jN this A
  rw[jC J];refine⟨false,_,rfl,Z _ rfl,(λh=>by cases h),λt a hd s e=>?_⟩;rw[hd n p d,hd m q c,jB I,jB v] at e;simp only[T.mk.injEq] at e;exact jN e.2.1 J
 rw[jC v];refine⟨true,_,rfl,⟨o,O,by omega,Q,λ_ b r z u g=>?_⟩,λ_=>U,λt a hd s e=>⟨rfl,W a s e⟩⟩;rcases V b r z u g with e|e
 .exact jD e
 subst e;refine jE λb b b e=>jD ?_;rw[R] at b;cases b;exact v
def TP:∀(n:Nat)(P:List Pt)(i j:Nat),yP P->i<P.length->j<P.length->dP P<n->JR n P i j:=by
 intro n;induction n with
 |zero=>intro P i j _ _ _ h;omega
 |succ n x=>
  intro P i j h b c y;have z:=aU h b;have A:=aU h c;obtain⟨p,k,B⟩:=Km h b;obtain⟨q,l,C⟩:=Km h c;have E:=Pe h b;have F:=Pe h c;have G:=Pf h b;have H:=Pf h c;unfold JR;by_cases e:hd P i=hd P j
  .refine⟨true,P,by rw[fD,z,A];simp only[jB e],JO.refl h _,λ_=>e,λf g _ a _=>⟨rfl,a⟩⟩
  have I:fD (n+1) P i j=if q.v<p.v then tU (fD n) P (hd P j) (hd P i) q p else tU (fD n) P (hd P i) (hd P j) p q:=by
   rw[fD,z,A];simp only[jC e,k,l]
  by_cases m:q.v<p.v
  .obtain⟨o,r,s,d,t,u⟩:=Xh x h l k C B (λv=>e v.symm) (Int.le_of_lt m) y
   refine⟨o,r,by rw[I,jB m];exact s,d,λv=>?_,λf g hd a w=>u f g hd a ?_⟩
   .rw[d.mono i _ b G E.symm,d.mono j _ c H F.symm];exact(t v).symm
   rw[<-mI.hd h a i b,<-mI.hd h a j c];exact w.symm
  obtain⟨o,r,s,d,t,u⟩:=Xh x h k l B C e (by omega) y;refine⟨o,r,by rw[I,jC m];exact s,d,λv=>?_,λf g hd a w=>u f g hd a ?_⟩
  .rw[d.mono i _ b G E.symm,d.mono j _ c H F.symm];exact t v
  rw[<-mI.hd h a i b,<-mI.hd h a j c];exact w
def Gk(p:Pt):Pt:={p with size:=0}
def zJ(P a:List Pt):Prop:=P.map Gk=a.map Gk
def zJ.len{P a:List Pt}(h:zJ P a):a.length=P.length:=by
 have:=xE List.length h;simpa using this.symm
def zJ.at{P c:List Pt}(h:zJ P c){p:Pt}(e:P[k]? =some p):∃b,c[k]? =some b/\b.v=p.v/\b.f=p.f/\b.e=p.e/\b.Q=p.Q:=by
 have a:(P.map Gk)[k]? =(c.map Gk)[k]?:=by rw[h]
 rw[bZ,bZ,e] at a
 cases d:c[k]? with
 |none=>rw[d] at a;cases a
 |some b=>
  rw[d] at a;simp only[cO,qW,Gk,Pt.mk.injEq] at a;exact⟨b,rfl,a.1.symm,a.2.1.symm,a.2.2.1.symm,a.2.2.2.1.symm⟩
theorem zJ.refl(P:List Pt):zJ P P:=rfl
def zJ.trans{P a b:List Pt}(h:zJ P a)(c:zJ a b):zJ P b:=Eq.trans h c
def zJ.symm{P a:List Pt}(h:zJ P a):zJ a P:=Eq.symm h
def zJ.set{P:List Pt}{q:Pt}(a:P[k]? =some q)(x:Int):zJ P (P.set k {q with size:=x}):=by
 refine oB λb=>?_;rw[bZ,bZ];by_cases e:b=k
 .subst e
  have b:=(Zl a);rw[pO b,a];rfl
 rw[gY (λh=>e h.symm)]
def zJ.none{P a:List Pt}(h:zJ P a)(b:P[k]? =none):a[k]? =none:=by
 rw[Ms] at b ⊢;rw[h.len];exact b
def zJ.qg{P b:List Pt}(h:zJ P b):∀n k,yB b n k=yB P n k:=by
 intro n;induction n with
 |zero=>intro k;rfl
 |succ n c=>
  intro k
  cases a:P[k]? with
  |none=>rw[yB,yB,a,h.none a]
  |some p=>
   obtain⟨f,d,_,_,_,e⟩:=h.at a;rw[nV a,nV d,e,c]
def VG{f g:Nat->Option T}(h:∀a,f a=g a):∀l,bC f l=bC g l:=by
 intro l;induction l with
 |nil=>rfl
 |cons a l b=>rw[bC,bC,h,b]
def zJ.jf{P b:List Pt}(h:zJ P b):∀n k,vQ b n k=vQ P n k:=by
 intro n;induction n with
 |zero=>intro k;rfl
 |succ n c=>
  intro k;rw[vQ,vQ,h.len,h.qg]
  cases yB P (P.length+1) k with
  |none=>rfl
  |some r=>
   cases a:P[r]? with
   |none=>simp only[h.none a,a]
   |some p=>
    obtain⟨i,d,e,f,g,_⟩:=h.at a;simp only[d,a,e,f,g,VG c]
def zJ.qt{P a:List Pt}(h:zJ P a):dP a=dP P:=by
 rw[dP,dP,h.len];refine List.countP_congr λk _=>?_;rw[oP,oP]
 cases b:P[k]? with
 |none=>rw[h.none b]
 |some p=>
  obtain⟨e,c,_,_,_,d⟩:=h.at b;rw[c];simp only[d]
def zJ.wf{P l:List Pt}(h:zJ P l)(e:yP P):yP l:=by
 refine⟨λk r b f g=>?_,λk r b=>?_,λk r s b i=>?_,λk r b=>?_,λk r b=>?_,λm k r s b i n o=>?_,?_⟩
 .obtain⟨c,d,_,_,a,_⟩:=h.symm.at b
  exact e.e k c d f (a▸g)
 .obtain⟨c,d,_,_,_,a⟩:=h.symm.at b
  rw[h.len,<-a];exact e.Q k c d
 .obtain⟨c,d,a,_,_,f⟩:=h.symm.at b
  obtain⟨j,g,p,_⟩:=h.symm.at i;rw[<-a,<-p];exact e.vh k c j d (f▸g)
 .obtain⟨c,d,a,_⟩:=h.symm.at b
  rw[<-a];exact e.nn k c d
 .obtain⟨c,d,a,f,g,_⟩:=h.symm.at b
  rw[<-a,<-f,<-g];exact e.var k c d
 .obtain⟨c,d,a,_⟩:=h.symm.at b
  obtain⟨j,f,g,_⟩:=h.symm.at i;exact e.uniq m k c j d f (by rw[a,g];exact n) (a▸o)
 obtain⟨i,d,a⟩:=e.dep;refine⟨i,λk r b=>?_,λk m=>by rw[h.qt,h.len];exact a k (h.len▸m)⟩;obtain⟨c,f,_,_,_,g⟩:=h.symm.at b;rw[<-g];exact d k c f
def zJ.qy{P a:List Pt}(h:zJ P a)(k:Nat):hd a k=hd P k:=by
 rw[hd,hd,h.len,h.qg]
def Yc{f g:Nat->Option T}(h:∀b t,f b=some t->g b=some t):∀{l a},bC f l=some a->bC g l=some a:=by
 intro l;induction l with
 |nil=>intro a h;exact h
 |cons b l c=>
  intro a a;rw[bC] at a;split at a
  .cases a
  rename_i t d;split at a
  .cases a
  rename_i i e;rw[bC,h b t d];simp only[c e];exact a
def Dd{P:List Pt}:∀{n m k:Nat}{t:T},vQ P n k=some t->n<=m->vQ P m k=some t:=by
 intro n;induction n with
 |zero=>intro m k t h;cases h
 |succ n a=>
  intro m k t b i;obtain⟨l,h,p,o,e,c,d,f,rfl⟩:=oR b
  cases e
  obtain⟨m,rfl⟩:∃j,m=j+1:=⟨m - 1,by omega⟩;rw[vQ,c];simp only[d,Yc (λg t g=>a (m:=m) g (by omega)) f]
def Pr{P:List Pt}(h:vQ P k m=some t)(b:vQ P n m=some s):t=s:=by
 have c:=Dd h (Nat.le_max_left k n);have a:=Dd b (Nat.le_max_right k n);rw[c] at a;exact kT a
def Pu{P:List Pt}(h:yP P)(b:k<P.length)(c:n<P.length)(e:hd P k=hd P n):∀a,vQ P a k=vQ P a n:=by
 intro a
 cases a with
 |zero=>rfl
 |succ a=>rw[vQ,vQ,aU h b,aU h c,e]
def VE{P:List Pt}(h:yP P){p:Pt}(a:P[k]? =some p)(e:p.Q=k)(b:bC (vQ P n) p.e=some l):vQ P (n+1) k=some ⟨p.v,p.f,l⟩:=by
 have c:=(Zl a);rw[vQ,aU h c,eA h a e];simp only[a,b]
def VH{f:Nat->Option T}(b:f k=some t):∀{l a},bC f l=some a->bC f (l++[k])=some (a++[t]):=by
 intro l;induction l with
 |nil=>intro a h;cases h;rw[nQ,bC,b];rfl
 |cons g l c=>
  intro a a;rw[bC] at a;split at a
  .cases a
  rename_i u d;split at a
  .cases a
  rename_i i e
  cases a
  rw[dW,bC,d];simp only[c e];rfl
def Ae(P:List Pt)(k:Nat):Bool:=match P[k]? with
 |none=>false
 |some p=>p.size==0
def lD(P:List Pt):Nat:=(List.range P.length).countP (Ae P)
def Fb(P:List Pt):Prop:=∀(k:Nat)(p:Pt),P[k]? =some p->p.size=0\/p.size= -1\/(1<=p.size/\p.size<=121/\∃n t,vQ P n k=some t/\p.size=min (t.E:Int) 121)
def eU(P:List Pt)(a:Nat->Nat):Prop:=(∀(k:Nat)(p:Pt),P[k]? =some p->a k=a p.Q)/\∀(k:Nat)(p:Pt)(b:Nat),P[k]? =some p->b∈p.e->a b<a k
def eU.same{P e:List Pt}{f:Nat->Nat}(h:eU P f)(g:zJ P e):eU e f:=by
 refine⟨λk p a=>?_,λk p i a j=>?_⟩
 .obtain⟨b,c,_,_,_,d⟩:=g.symm.at a
  rw[h.1 k b c,d]
 obtain⟨b,c,_,_,d,_⟩:=g.symm.at a;exact h.2 k b i c (d▸j)
def eU.hd{P:List Pt}{b:Nat->Nat}(h:yP P)(c:eU P b):∀k,k<P.length->b k=b (hd P k):=by
 refine Kl h _ (λk p a e=>by rw[eA h a e]) (λk p a e d=>?_);rw[c.1 k p a,d,Fr h a]
def Rp(P:List Pt)(k:Nat)(m:Int):Prop:=m= -1\/(1<=m/\m<=121/\∃n t,vQ P n k=some t/\m=min (t.E:Int) 121)
def MR(n:Nat)(P:List Pt)(k:Nat):Prop:=
 ∃m a,nX n P k=some (m,a)/\zJ P a/\Fb a/\lD a<=lD P/\Rp P k m/\(∀(j:Nat)(p b:Pt),P[j]? =some p->a[j]? =some b->p.size≠0->b.size=p.size)/\
  ∀c,eU P c->(∀(j:Nat)(p:Pt),P[j]? =some p->p.size= -1->c k<c j)->m≠ -1/\∀(j:Nat)(b:Pt),a[j]? =some b->b.size= -1->∃p,P[j]? =some p/\p.size= -1
def jFe{P:List Pt}{p:Pt}(a:P[k]? =some p)(b:p.size≠0)(c:z≠0):lD (P.set k {p with size:=z})=lD P:=by
 have d:=(Zl a);rw[lD,lD,lF];refine List.countP_congr λf _=>?_;rw[Ae,Ae];by_cases e:f=k
 .subst e
  rw[pO d,a];simp[b,c]
 rw[gY (λk=>e k.symm)]
def EB{P:List Pt}{p:Pt}(a:P[k]? =some p)(c:p.size=0)(d:z≠0):lD (P.set k {p with size:=z})+1=lD P:=by
 have b:=(Zl a);rw[lD,lD,lF];refine Vd b (λe e e=>?_) ?_ ?_
 .rw[Ae,Ae,gY (λk=>e k.symm)]
 .rw[Ae,a];simpa using c
 rw[Ae,pO b];simpa using d
def szL_append(a b:Zt):T.E.szL (a++b)=T.E.szL a+T.E.szL b:=by
 induction a with
 |nil=>rw[nQ,T.P];omega
 |cons t a c=>rw[dW,T.F,T.F,c];omega
def WI(S:∀P t,yP P->t<P.length->Fb P->lD P<k->MR k P t)(h:Nat):∀(u pre:List Nat)(d:Zt)(s:Int)(P:List Pt)(a:Pt)(l:Nat),P[h]? =some a->a.size= -1->a.Q=h->a.e=pre++u->bC (vQ P l) pre=some d->
 s=min (1+(T.E.szL d:Int)) 121->yP P->Fb P->lD P<k->
 ∃m n,nY (nX k) h u s P=some (m,n)/\zJ P n/\Fb n/\lD n<=lD P/\Rp P h m/\(∀(j:Nat)(p c:Pt),j≠h->P[j]? =some p->n[j]? =some c->p.size≠0->c.size=p.size)/\
  ∀e,eU P e->(∀(j:Nat)(p:Pt),P[j]? =some p->p.size= -1->e h<=e j)->m≠ -1/\∀(j:Nat)(c:Pt),n[j]? =some c->c.size= -1->j≠h/\∃p,P[j]? =some p/\p.size= -1:=by
 intro u;induction u with
 |nil=>
  intro pre d s P a l i J B v w x C E K;rw[zU] at v;rw[<-v] at w;have y:=VE C i B w;have z:=(Zl i);have A:((⟨a.v,a.f,d⟩:T).E:Int)=1+T.E.szL d:=by rw[T.M];simp
  have o:1<=s/\s<=121:=by omega
  have r:=zJ.set i s;refine⟨s,_,by rw[nY,i],r,λt p q=>?_,by rw[jFe i (by omega) (by omega)];exact jF _,jE ⟨o.1,o.2,l+1,_,y,by rw[A];exact x⟩,λj p c F b f _=>?_,λe _ _=>⟨by omega,λj c b f=>?_⟩⟩
  .by_cases g:t=h
   .subst g
    rw[pO z] at q;cases q;exact jE (jE ⟨o.1,o.2,l+1,_,by rw[r.jf];exact y,by rw[A];exact x⟩)
   rw[gY (λh=>g h.symm)] at q;rcases E t p q with b|b|⟨b,f,q,G,H,I⟩
   .exact jD b
   .exact jE (jD b)
   exact jE (jE ⟨b,f,q,G,by rw[r.jf];exact H,I⟩)
  .rw[gY (λh=>F h.symm),b] at f;cases f;rfl
  by_cases g:j=h
  .subst g
   rw[pO z] at b;cases b;exact jN f (show ¬s= -1 by omega)
  rw[gY (λh=>g h.symm)] at b;exact⟨g,c,b,f⟩
 |cons i u U=>
  intro pre d s P a l o V W G Z ad w hi H;have hl:=(Zl o);have x:i∈a.e:=by rw[G];simp
  have aa:i<P.length:=by have:=w.e h a o i x;omega
  obtain⟨m,y,I,f,J,z,A,B,K⟩:=S P i w aa hi H;rcases A with A|⟨k1,k2,L,C,k3,k4⟩
  .subst A
   refine⟨-1,y,by rw[nY,I];rfl,f,J,z,jD rfl,λj p c _=>B j p c,λe q v=>?_⟩;exact jN rfl (K e q (λj p b g=>kV (q.2 h a i o x) (v j p b g))).1
  obtain⟨M,q1,q2,q3,q4,q5⟩:=f.at o;have q6:=B h a M o q1 (by omega);have ab:bC (vQ y (max l L)) (pre++[i])=some (d++[C]):=
   VH (by rw[f.jf];exact Dd k3 (Nat.le_max_right _ _)) (Yc (λr r r=>by rw[f.jf];exact Dd r (Nat.le_max_left _ _)) Z)
  have ac:min (s+m) 121=min (1+(T.E.szL (d++[C]):Int)) 121:=by
   rw[szL_append,T.F,T.P];omega
  obtain⟨m2,P2,r1,r2,r3,r4,E,r6,r7⟩:=U (pre++[i]) (d++[C]) (min (s+m) 121) y M (max l L) q1 (q6.trans V) (q5.trans W) (by rw[q4,G];simp) ab ac (f.wf w) J (Nat.lt_of_le_of_lt z H);refine⟨m2,P2,?_,f.trans r2,r3,kN r4 z,?_,λj p F hj b g O=>?_,λe q v=>?_⟩
  .rw[nY,I]
   simp only[jC (show ¬m= -1 by omega),jB (show 0<=m/\m<=121 by omega)];exact r1
  .rcases E with E|⟨u1,u2,n2,t2,u3,u4⟩
   .exact jD E
   exact jE ⟨u1,u2,n2,t2,by rw[<-f.jf];exact u3,u4⟩
  .obtain⟨r,Q,_⟩:=f.at b
   have R:=B j p r b Q O;rw[r6 j r F hj Q g (R▸O),R]
  obtain⟨_,O⟩:=K e q (λj p b g=>kV (q.2 h a i o x) (v j p b g))
  obtain⟨y1,y2⟩:=r7 e (q.same f) (λj r b g=>by
   obtain⟨p,q,z2⟩:=O j r b g
   exact v j p q z2)
  refine⟨y1,λj F b g=>?_⟩;obtain⟨q,r,v,z3⟩:=y2 j F b g;exact⟨q,O j r v z3⟩
def WK:∀(n:Nat)(P:List Pt)(k:Nat),yP P->k<P.length->Fb P->lD P<n->MR n P k:=by
 intro n;induction n with
 |zero=>intro P k _ _ _ h;omega
 |succ n B=>
  intro P k c e q hz;obtain⟨p,d,C⟩:=Km c e;have u:=aU c e;have v:=Pf c e;have w:=Pu c e v (Pe c e).symm;unfold MR;by_cases f:p.size=0
  .have g:=zJ.set d (-1)
   have y:(P.set (hd P k) {p with size:= -1})[hd P k]? =some {p with size:= -1}:=pO v
   obtain⟨E,F,G,H,I,g4,s,J,K⟩:=WI B (hd P k) p.e [] [] 1 (P.set (hd P k) {p with size:= -1}) {p with size:= -1} 0 y rfl C rfl rfl (by rw[T.P];omega) (g.wf c) (λj r a=>by
    by_cases b:j=hd P k
    .subst b;rw[y] at a;cases a;exact jE (jD rfl)
    rw[gY (λh=>b h.symm)] at a;rcases q j r a with a|a|⟨a,i,l,t,m,o⟩
    .exact jD a
    .exact jE (jD a)
    exact jE (jE ⟨a,i,l,t,by rw[g.jf];exact m,o⟩)) (by have:=EB (z:= -1) d f (by omega);omega)
   have aa:=EB (z:= -1) d f (by omega);refine⟨E,F,?_,g.trans H,I,by omega,?_,λj r i a b l=>?_,λz m t=>?_⟩
   .rw[nX,u]
    simp only[d,jB f];exact G
   .rcases s with s|⟨L,M,O,Q,R,S⟩
    .exact jD s
    exact jE ⟨L,M,O,Q,by rw[w,<-g.jf];exact R,S⟩
   .have A:j≠hd P k:=λo=>by subst o;rw[d] at a;cases a;exact l f
    exact J j r i A (by rw[gY (λh=>A h.symm)];exact a) b l
   have ab:=eU.hd c m k e
   obtain⟨U,V⟩:=K z (m.same g) (λj r a b=>by
    by_cases o:j=hd P k
    .rw[o];exact jF _
    rw[gY (λh=>o h.symm)] at a;have:=t j r a b
    omega)
   refine⟨U,λj i a b=>?_⟩;obtain⟨W,r,o,Z⟩:=V j i a b;rw[gY (λh=>W h.symm)] at o;exact⟨r,o,Z⟩
  refine⟨p.size,P,by rw[nX,u];simp only[d,jC f],rfl,q,jF _,?_,λj r i a b _=>by rw[a] at b;cases b;rfl,λz m t=>⟨λi=>?_,λj r a b=>⟨r,a,b⟩⟩⟩
  .rcases q _ p d with a|a|⟨a,b,j,o,l,r⟩
   .exact jN a f
   .exact jD a
   exact jE ⟨a,b,j,o,by rw[w];exact l,r⟩
  have a:=t _ p d i;have b:=eU.hd c m k e;omega
def sub(a:Int->T):T->T
 |⟨v,f,b⟩=>if v=0 then⟨0,f,subL b⟩ else a v
 where
 subL:Zt->Zt
  |[]=>[]
  |t::c=>sub a t::subL c
def jD0(b:Int->T)(a:Zt):sub.subL b a=a.map (sub b):=by
 induction a with
 |nil=>rfl
 |cons t a c=>rw[sub.subL,c];rfl
def mA{a:Int->T}(h:t.v=0):sub a t=⟨0,t.f,t.e.map (sub a)⟩:=by
 cases t;rw[sub,jB h,jD0]
def mR{a:Int->T}(h:t.v≠0):sub a t=a t.v:=by
 cases t;rw[sub,jC h]
def Rep(P:List Pt)(a:List (Int×Nat)):T->Nat->Prop
 |⟨v,f,b⟩,k=>∃p,P[k]? =some p/\p.v=v/\p.f=f/\(v≠0->vJ a v=some k)/\RepL b p.e
 where
 RepL:Zt->List Nat->Prop
  |[],[]=>True
  |t::c,d::l=>Rep P a t d/\RepL c l
  |_,_=>False
def wM{P:List Pt}{a:List (Int×Nat)}:Rep P a t k↔∃p,P[k]? =some p/\p.v=t.v/\p.f=t.f/\(t.v≠0->vJ a t.v=some k)/\Rep.RepL P a t.e p.e:=by cases t;exact aL
def Nh{P:List Pt}{e:List (Int×Nat)}:∀{a:Zt}{l:List Nat},Rep.RepL P e a l->a.length=l.length/\∀(i:Nat)(t:T)(b:Nat),a[i]? =some t->l[i]? =some b->Rep P e t b:=by
 intro a;induction a with
 |nil=>
  intro l h
  cases l with
  |nil=>exact⟨rfl,λi t b h=>by simp at h⟩
  |cons b l=>exact h.elim
 |cons t a f=>
  intro l h
  cases l with
  |nil=>exact h.elim
  |cons b l=>
   obtain⟨g,j⟩:=f h.2;refine⟨by rw[xI,xI,g],λi x k c d=>?_⟩
   cases i with
   |zero=>
    simp only[vP,qW] at c d;subst c d;exact h.1
   |succ i=>exact j i x k (by simpa using c) (by simpa using d)
def Jd{P d:List Pt}{e f:List (Int×Nat)}(i:∀(k:Nat)(p:Pt),P[k]? =some p->∃c,d[k]? =some c/\c.v=p.v/\c.f=p.f/\c.e=p.e)(j:∀v n,vJ e v=some n->vJ f v=some n):
 ∀(n:Nat),(∀(t:T)(k:Nat),t.E<=n->Rep P e t k->Rep d f t k)/\(∀(a:Zt)(l:List Nat),T.E.szL a<=n->Rep.RepL P e a l->Rep.RepL d f a l):=by
 intro n;induction n with
 |zero=>
  refine⟨λt k h=>by have:=t.I;omega,λa l h b=>?_⟩
  cases a with
  |nil=>cases l<;>exact b
  |cons t a=>have:=t.I;rw[T.F] at h;omega
 |succ n m=>
  have g:∀(t:T)(k:Nat),t.E<=n+1->Rep P e t k->Rep d f t k:=λt k h b=>by
   have B:=T.M t;obtain⟨p,o,q,r,s,u⟩:=wM.1 b;obtain⟨c,w,x,y,z⟩:=i k p o;exact wM.2 ⟨c,w,x.trans q,y.trans r,λA=>j _ _ (s A),by rw[z];exact m.2 t.e p.e (by omega) u⟩
  refine⟨g,λa=>?_⟩;induction a with
  |nil=>intro l _ b;cases l<;>exact b
  |cons t a o=>
   intro l h b;rw[T.F] at h
   cases l with
   |nil=>exact b.elim
   |cons h l=>exact⟨g t h (by omega) b.1,o l (by omega) b.2⟩
def zE(v:Int):T->Prop
 |⟨w,_,a⟩=>w=v\/occL a
 where
 occL:Zt->Prop
  |[]=>False
  |t::b=>zE v t\/occL b
def eD:zE z t↔t.v=z\/zE.occL z t.e:=by cases t;exact aL
def Yw(h:zE.occL z l):∃(i:Nat)(t:T),l[i]? =some t/\zE z t:=by
 induction l with
 |nil=>exact h.elim
 |cons t l a=>
  rcases h with h|h
  .exact⟨0,t,rfl,h⟩
  obtain⟨i,x,b,c⟩:=a h;exact⟨i+1,x,by simpa using b,c⟩
structure iT (ar:Zn) (s:List Pt×List (Int×Nat)):Prop where
 e:∀(k:Nat) (p:Pt),s.1[k]? =some p->∀a,a∈p.e->a<k
 self:∀(k:Nat) (p:Pt),s.1[k]? =some p->p.Q=k/\p.size=0
 keys:∀(v:Int) (n:Nat),vJ s.2 v=some n->v≠0/\∃p,s.1[n]? =some p/\p.v=v
 vars:∀(k:Nat) (p:Pt),s.1[k]? =some p->p.v≠0->vJ s.2 p.v=some k
 ok:∀(k:Nat) (p:Pt),s.1[k]? =some p->xU ar p.v p.f p.e.length=0
structure AO (ar:Zn) (s s':List Pt×List (Int×Nat)) (oc:Int->Prop):Prop where
 inv:iT ar s'
 more:∀(k:Nat) (p:Pt),s.1[k]? =some p->s'.1[k]? =some p
 look:∀(v:Int) (n:Nat),vJ s.2 v=some n->vJ s'.2 v=some n
 js:∀(v:Int) (n:Nat),vJ s'.2 v=some n->(∃m,vJ s.2 v=some m)\/oc v
def AO.rep{s a:List Pt×List (Int×Nat)}{b:Int->Prop}(h:AO r s a b)(c:Rep s.1 s.2 t k):Rep a.1 a.2 t k:=
 (Jd (λk p d=>⟨p,h.more k p d,rfl,rfl,rfl⟩) h.look t.E).1 t k (jF _) c
def Tr:∀(n:Nat),(∀(t:T)(s:List Pt×List (Int×Nat)),t.E<=n->jQ r t->iT r s->AO r s (kB t s).2 (λv=>zE v t)/\Rep (kB t s).2.1 (kB t s).2.2 t (kB t s).1/\(kB t s).1<(kB t s).2.1.length)/\
 (∀(d:Zt)(s:List Pt×List (Int×Nat)),T.E.szL d<=n->jQ.okL r d->iT r s->AO r s (kB.addL d s).2 (λv=>zE.occL v d)/\Rep.RepL (kB.addL d s).2.1 (kB.addL d s).2.2 d (kB.addL d s).1/\∀g,g∈(kB.addL d s).1->g<(kB.addL d s).2.1.length):=by
 intro n;induction n with
 |zero=>
  refine⟨λt s h=>by have:=t.I;omega,λd s h _ a=>?_⟩
  cases d with
  |nil=>exact⟨⟨a,λ_ _ h=>h,λ_ _ h=>h,λv n h=>jD ⟨n,h⟩⟩,trivial,λg a=>by cases a⟩
  |cons t d=>have:=t.I;rw[T.F] at h;omega
 |succ n J=>
  have H:∀(t:T)(s:List Pt×List (Int×Nat)),t.E<=n+1->jQ r t->iT r s->AO r s (kB t s).2 (λv=>zE v t)/\Rep (kB t s).2.1 (kB t s).2.2 t (kB t s).1/\(kB t s).1<(kB t s).2.1.length:=λt s h j i=>by
   have O:=T.M t;have K:=(vW.1 j).1
   cases q:vJ s.2 t.v with
   |some m=>
    rw[Jl q];obtain⟨c,p,b,e⟩:=i.keys t.v m q;have f:=(Zl b);obtain⟨l,k⟩:=lZ j c;refine⟨⟨i,λ_ _ h=>h,λ_ _ h=>h,λv n h=>jD ⟨n,h⟩⟩,wM.2 ⟨p,b,e,?_,λ_=>q,?_⟩,f⟩
    .have a:=i.ok m p b
     rw[Ak (e▸c),mB] at a;split at a
     .cases a
     split at a
     .cases a
     omega
    have a:=i.ok m p b;rw[Ak (e▸c),mB] at a;have:p.e=[]:=by
     split at a
     .cases a
     split at a
     .cases a
     exact yM.1 (by omega)
    rw[k,this];trivial
   |none=>
    obtain⟨f,y,z⟩:=J.2 t.e s (by omega) (vW.1 j).2 i;have A:=Nm t.e s;rw[Jm q];generalize Q:kB.addL t.e s=L at f y z A ⊢;obtain⟨l,P,o⟩:=L;simp only at f y z A ⊢;have B:(P++[(⟨t.v,t.f,l,P.length,0⟩:Pt)])[P.length]? =some ⟨t.v,t.f,l,P.length,0⟩:=(by simp);have u:∀(k:Nat)(p:Pt),(P++[(⟨t.v,t.f,l,P.length,0⟩:Pt)])[k]? =some p->P[k]? =some p\/(k=P.length/\p=⟨t.v,t.f,l,P.length,0⟩):=λk p b=>by
     by_cases a:k<P.length
     .rw[mY a] at b;exact jD b
     by_cases c:k=P.length
     .subst c;rw[B] at b;cases b;exact jE ⟨rfl,rfl⟩
     rw[yZ (by simp;omega)] at b;cases b
    have w:∀(k:Nat)(p:Pt),P[k]? =some p->(P++[(⟨t.v,t.f,l,P.length,0⟩:Pt)])[k]? =some p:=λk p b=>by
     rw[mY (Zl b)];exact b
    have M:t.v≠0->∀m,vJ o t.v≠some m:=λc m a=>by
     rcases f.js _ _ a with⟨x,e⟩|e
     .rw[q] at e;cases e
     rw[(lZ j c).2] at e;exact e
    have C:∀(v:Int)(m:Nat),vJ o v=some m->vJ (if t.v=0 then o else(t.v,P.length)::o) v=some m:=λv m a=>by
     by_cases c:t.v=0
     .rw[jB c];exact a
     rw[jC c,vJ,jC (λe=>by
      have x:=e
      rw[<-x] at a;exact M c m a)];exact a
    have I:t.v≠0->vJ (if t.v=0 then o else(t.v,P.length)::o) t.v=some P.length:=λc=>by rw[jC c,vJ,jB rfl]
    refine⟨⟨⟨λk p b g x=>?_,λk p b=>?_,λv m a=>?_,λk p b c=>?_,λk p b=>?_⟩,λk p b=>w k p (f.more k p b),λv m a=>C v m (f.look v m a),λv m a=>?_⟩,?_,by simp⟩
    .rcases u k p b with e|⟨rfl,rfl⟩
     .exact f.inv.e k p e g x
     exact z g x
    .rcases u k p b with e|⟨rfl,rfl⟩
     .exact f.inv.self k p e
     exact⟨rfl,rfl⟩
    .by_cases c:t.v=0
     .rw[jB c] at a
      obtain⟨E,p,F,G⟩:=f.inv.keys v m a;exact⟨E,p,w m p F,G⟩
     rw[jC c,vJ] at a;by_cases x:t.v=v
     .rw[jB x] at a
      cases a
      exact⟨by rw[<-x];exact c,_,B,x⟩
     rw[jC x] at a;obtain⟨E,p,F,G⟩:=f.inv.keys v m a;exact⟨E,p,w m p F,G⟩
    .rcases u k p b with e|⟨rfl,rfl⟩
     .exact C _ _ (f.inv.vars k p e c)
     exact I c
    .rcases u k p b with e|⟨rfl,rfl⟩
     .exact f.inv.ok k p e
     show xU r t.v t.f l.length=0;rw[A];exact K
    .by_cases c:t.v=0
     .rw[jB c] at a
      rcases f.js v m a with e|e
      .exact jD e
      exact jE (eD.2 (jE e))
     rw[jC c,vJ] at a;by_cases c:t.v=v
     .exact jE (eD.2 (jD c))
     rw[jC c] at a;rcases f.js v m a with e|e
     .exact jD e
     exact jE (eD.2 (jE e))
    refine wM.2 ⟨_,B,rfl,rfl,I,?_⟩;exact(Jd (λk p b=>⟨p,w k p b,rfl,rfl,rfl⟩) C (T.E.szL t.e)).2 t.e l (jF _) y
  refine⟨H,λd=>?_⟩;induction d with
  |nil=>intro s _ _ i;exact⟨⟨i,λ_ _ h=>h,λ_ _ h=>h,λv n h=>jD ⟨n,h⟩⟩,trivial,λg b=>by cases b⟩
  |cons t d l=>
   intro s h j i;rw[T.F] at h;obtain⟨o1,o2⟩:=pC.1 j;obtain⟨e,h,j⟩:=H t s (by omega) o1 i;obtain⟨a,i,o⟩:=l (kB t s).2 (by omega) o2 e.inv;refine⟨⟨a.inv,λk p c=>a.more k p (e.more k p c),λv m c=>a.look v m (e.look v m c),λv m c=>?_⟩,⟨a.rep h,i⟩,λg b=>?_⟩
   .rcases a.js v m c with⟨k,c⟩|c
    .rcases e.js v k c with f|f
     .exact jD f
     exact jE (jD f)
    exact jE (jE c)
   rcases qO.1 b with rfl|b
   .have c:=jO j
    exact(Zl (a.more _ _ c))
   exact o g b
def iT.nil(a:Zn):iT a ([],[]):=⟨(λk p h=>by simp at h),(λk p h=>by simp at h),(λv n h=>by cases h),(λk p h=>by simp at h),(λk p h=>by simp at h)⟩
def SK{P:List Pt}(h:∀(k:Nat)(p:Pt),P[k]? =some p->p.Q=k):dP P=P.length:=by
 rw[dP];have:∀k,k∈List.range P.length->oP P k=true:=λk b=>by
  have a:=eS.1 b;rw[oP,jO a];simpa using h k _ (jO a)
 rw[List.countP_eq_length.2 this,Iq]
def iT.wf{s:List Pt×List (Int×Nat)}(h:iT r s):yP s.1:=by
 have c:∀(k:Nat)(p:Pt),s.1[k]? =some p->p.v≠0->p.e=[]/\p.f=0/\1<=p.v:=λk p a c=>by
  have b:=h.ok k p a;rw[Ak c,mB] at b;split at b
  .cases b
  split at b
  .cases b
  exact⟨yM.1 (by omega),by omega,by omega⟩
 refine⟨h.e,λk p a=>?_,λk p q a d=>?_,λk p a=>?_,λk p a b=>⟨(c k p a b).1,(c k p a b).2.1⟩,λj k p q a d e b=>?_,λ_=>0,λk p a=>⟨λ_=>rfl,λe=>jN (h.self k p a).1 e⟩,λk f=>?_⟩
 .rw[(h.self k p a).1];exact(Zl a)
 .rw[(h.self k p a).1,a] at d;cases d;omega
 .by_cases b:p.v=0
  .omega
  have:=(c k p a b).2.2;omega
 .have f:=h.vars j p a b
  have g:=h.vars k q d (e▸b);rw[e,g] at f;exact(kT f).symm
 rw[SK (λk p a=>(h.self k p a).1)];show 0+_<=_;omega
def aR(a:Int->T)(P:List Pt):Nat->Nat->T
 |0,_=>⟨0,0,[]⟩
 |n+1,k=>match P[k]? with
  |none=>⟨0,0,[]⟩
  |some p=>if p.v=0 then⟨0,p.f,p.e.map (aR a P n)⟩ else a p.v
def NV(a:Int->T){P:List Pt}(h:∀(k:Nat)(p:Pt),P[k]? =some p->∀b,b∈p.e->b<k):∃d,cG a P d:=by
 have e:∀n m k,k<n->k<m->aR a P n k=aR a P m k:=by
  intro n;induction n with
  |zero=>intro m k h;omega
  |succ n c=>
   intro m k i l;obtain⟨m,rfl⟩:∃j,m=j+1:=⟨m - 1,by omega⟩;rw[aR,aR]
   cases f:P[k]? with
   |none=>rfl
   |some p=>
    simp only;have:p.e.map (aR a P n)=p.e.map (aR a P m):=El λb g=>by
     have:=h k p f b g;exact c m b (by omega) (by omega)
    rw[this]
 refine⟨λk=>aR a P (k+1) k,λk p c=>?_⟩;show aR a P (k+1) k=_;rw[aR,c];simp only;have:p.e.map (aR a P k)=p.e.map (λk=>aR a P (k+1) k):=El λb f=>by
  have:=h k p c b f;exact e k (b+1) b (by omega) (by omega)
 rw[this]
def BR{c:Int->T}{P:List Pt}{f:List (Int×Nat)}{d:Nat->T}(g:cG c P d):∀(n:Nat)(t:T)(k:Nat),t.E<=n->Rep P f t k->d k=sub c t:=by
 intro n;induction n with
 |zero=>intro t k h;have:=t.I;omega
 |succ n j=>
  intro t k h m;obtain⟨p,o,q,r,v,s⟩:=wM.1 m;rw[g k p o,q,r];by_cases a:t.v=0
  .rw[jB a,mA a]
   obtain⟨w,u⟩:=Nh s;have:p.e.map d=t.e.map (sub c):=by
    refine oB λi=>?_;rw[bZ,bZ]
    cases b:t.e[i]? with
    |none=>
     rw[Ms] at b;rw[yZ (by omega)];rfl
    |some x=>
     have y:=(Zl b);have e:=jO (l:=p.e) (i:=i) (by omega);have z:=xJ (jU b);rw[e];simp only[cO];rw[j x _ (by omega) (u i x _ b e)]
   rw[this]
  rw[jC a,mR a]
def Ps{f:Nat->Option T}:∀{l:List Nat}{b:Zt},bC f l=some b->l.length=b.length/\∀(i c:Nat),l[i]? =some c->∃t,f c=some t/\b[i]? =some t:=by
 intro l;induction l with
 |nil=>intro b h;cases h;exact⟨rfl,λi c h=>by simp at h⟩
 |cons p l e=>
  intro b a;rw[bC] at a;split at a
  .cases a
  rename_i u g;split at a
  .cases a
  rename_i q j
  cases a
  obtain⟨k,m⟩:=e j;refine⟨by rw[xI,xI,k],λi c d=>?_⟩
  cases i with
  |zero=>
   simp only[vP,qW] at d;subst d;exact⟨u,g,rfl⟩
  |succ i=>
   obtain⟨t,n,o⟩:=m i c (by simpa using d);exact⟨t,n,by simpa using o⟩
def RK{P:List Pt}(h:yP P)(m:∀k,k<P.length->Ed P k):∀k,k<P.length->∀(p q:Pt),P[k]? =some p->P[hd P k]? =some q->p.v=0->q.v=0/\p.f=q.f/\p.e.length=q.e.length/\∀(i b c:Nat),p.e[i]? =some b->q.e[i]? =some c->hd P b=hd P c:=by
 refine Kl h _ (λk p a f g q d e j=>?_) (λk p a f n g q d e j=>?_)
 .rw[eA h a f,d] at e;cases e
  exact⟨j,rfl,rfl,λi b c f g=>by rw[f] at g;cases g;rfl⟩
 rw[a] at d;cases d;have o:=h.Q k p a;have d:=jO o;have r:=(Zl a);rcases m k r p _ a d with s|⟨t,u,v,w⟩
 .exact jN j s
 obtain⟨i1,i2,j,x⟩:=n _ q d (by rw[Fr h a];exact e) t;refine⟨i1,u.trans i2,v.trans j,λi b c f g=>?_⟩;have e:=(Zl f);have a:=jO (l:=P[p.Q].e) (i:=i) (by omega);exact(w i b _ f a).trans (x i _ c a g)
def Yd{P:List Pt}(h:yP P)(g:∀k,k<P.length->Ed P k){p:Pt}(c:P[k]? =some p)(j:p.v=0)(o:vQ P n k=some t):∃m,n=m+1/\t.v=0/\t.f=p.f/\t.e.length=p.e.length/\∀(i a:Nat),p.e[i]? =some a->∃b,vQ P m a=some b/\t.e[i]? =some b:=by
 have r:=(Zl c);obtain⟨m,F,q,G,s,u,d,v,rfl⟩:=oR o;have w:=(uA h u).symm;subst w;obtain⟨x,y,H,z⟩:=RK h g k r p q c d j;obtain⟨I,A⟩:=Ps v;refine⟨m,s,x,y.symm,by simp only;omega,λi a e=>?_⟩;have J:=(Zl e);have f:=jO (l:=q.e) (i:=i) (by omega);obtain⟨b,B,C⟩:=A i _ f;have E:=z i a _ e f;refine⟨b,?_,C⟩;have K:=h.e k p c a (jU e);have e:=h.e _ q d _ (jU f);have L:=(Zl d);rw[Pu h (by omega) (by omega) E];exact B
def QI{P:List Pt}(h:yP P)(b:∀n,n<P.length->Ed P n){p:Pt}(c:P[n]? =some p)(d:p.v=0)(e:m∈p.e)(f:∃a u,vQ P a n=some u/\u.E<=k):∃a u,vQ P a m=some u/\u.E<=k:=by
 obtain⟨a,u,g,s⟩:=f;obtain⟨i,_,_,_,_,j⟩:=Yd h b c d g;obtain⟨l,o⟩:=uX.1 e;obtain⟨t,q,r⟩:=j l m o;have:=xJ (jU r);exact⟨i,t,q,by omega⟩
def Vp{P:List Pt}(h:yP P)(s:∀a,a<P.length->Ed P a){d:List (Int×Nat)}:∀(n:Nat)(t:T)(a:Nat),t.E<=n->Rep P d t a->(∃n u,vQ P n a=some u/\u.E<=k)->∀v m,v≠0->zE v t->vJ d v=some m->∃n u,vQ P n m=some u/\u.E<=k:=by
 intro n;induction n with
 |zero=>intro t a h;have:=t.I;omega
 |succ n w=>
  intro t a G y e v m f b g;obtain⟨p,j,H,I,z,A⟩:=wM.1 y;rcases eD.1 b with o|b
  .have:=z (o▸f)
   rw[o,g] at this
   cases this
   exact e
  obtain⟨i,x,c,B⟩:=Yw b;obtain⟨C,E⟩:=Nh A;have J:=(Zl c);have q:=jO (l:=p.e) (i:=i) (by omega);have K:=xJ (jU c);by_cases r:p.v=0
  .exact w x _ (by omega) (E i x _ c q) (QI h s j r (jU q) e) v m f B g
  have F:=(h.var a p j r).1;have L:t.e.length=0:=by rw[C,F];rfl
  omega
def Ye{P:List Pt}(h:yP P)(p:∀k,k<P.length->Ed P k){e:List (Int×Nat)}{d:Int->T}(q:∀v m n u,vJ e v=some m->vQ P n m=some u->d v=u):∀(a:Nat)(t:T)(k n:Nat)(u:T),t.E<=a->Rep P e t k->vQ P n k=some u->u=sub d t:=by
 intro a;induction a with
 |zero=>intro t k n u h;have:=t.I;omega
 |succ a r=>
  intro t k n u J s f;obtain⟨w,y,z,A,B,C⟩:=wM.1 s;by_cases b:t.v=0
  .rw[mA b]
   obtain⟨m,K,g,j,L,E⟩:=Yd h p y (z▸b) f;obtain⟨M,F⟩:=Nh C;have:u.e=t.e.map (sub d):=by
    refine oB λi=>?_;rw[bZ]
    cases c:t.e[i]? with
    |none=>
     rw[Ms] at c;rw[yZ (by omega)];rfl
    |some x=>
     have O:=(Zl c);have o:=jO (l:=w.e) (i:=i) (by omega);have Q:=xJ (jU c);obtain⟨G,H,I⟩:=E i _ o;rw[I];simp only[cO,qW];exact r x _ m G (by omega) (F i x _ c o) H
   obtain⟨c,i,o⟩:=u;simp only at g j this;rw[g,j,this,A]
  rw[mR b];exact(q _ _ n u (B b) f).symm
def VJ{c:Int->T}{P:List Pt}{a:Nat->T}(h:yP P)(g:cG c P a)(j:mI P a):∀(n k:Nat)(u:T),vQ P n k=some u->sub c u=a k:=by
 intro n;induction n with
 |zero=>intro k u h;cases h
 |succ n l=>
  intro k u m;obtain⟨B,r,q,o,p,d,s,t,rfl⟩:=oR m
  cases p
  obtain⟨_,C,_,v⟩:=uB d;have w:=(Zl v);rw[j.hd h k w,uA h d,g r q s];by_cases b:q.v=0
  .rw[jB b,mA b]
   obtain⟨E,x⟩:=Ps t;have:o.map (sub c)=q.e.map a:=by
    refine oB λi=>?_;rw[bZ,bZ]
    cases e:q.e[i]? with
    |none=>
     rw[Ms] at e;rw[yZ (by omega)];rfl
    |some f=>
     obtain⟨y,z,A⟩:=x i f e;rw[A];simp only[cO];rw[l f y z]
   simp only[this]
  rw[jC b,mR b]
def VL{P:List Pt}(d:∀(k:Nat)(p:Pt),P[k]? =some p->xU r p.v p.f p.e.length=0):∀(n k:Nat)(u:T),vQ P n k=some u->jQ r u:=by
 intro n;induction n with
 |zero=>intro k u h;cases h
 |succ n e=>
  intro k u f;obtain⟨z,g,q,a,j,A,m,o,rfl⟩:=oR f
  cases j
  obtain⟨s,v⟩:=Ps o;refine vW.2 ⟨?_,nH.2 λt b=>?_⟩
  .show xU r q.v q.f a.length=0
   rw[<-s];exact d g q m
  obtain⟨i,w⟩:=uX.1 b;have b:a[i]? =some t:=w;have B:=(Zl b);have x:=jO (l:=q.e) (i:=i) (by omega);obtain⟨C,y,c⟩:=v i _ x;rw[b] at c;cases c;exact e _ t y
def ZM{d:Int->T}{P:List Pt}{a:Nat->T}(h:yP P)(f:cG d P a)(g:mI P a):eU P (λk=>(a k).E):=by
 refine⟨λk p b=>by show(a k).E=_;rw[g k p b],λk p i b c=>?_⟩;have j:p.v=0:=by
  by_cases e:p.v=0
  .exact e
  rw[(h.var k p b e).1] at c;cases c
 show(a i).E<(a k).E;rw[f k p b,jB j];exact xJ (Em c)
def PP{f g:List Pt->Nat->Nat->Option (Bool×List Pt)}(h:∀P a b x,f P a b=some x->g P a b=some x):∀(l m:List Nat)(P:List Pt)(x:Bool×List Pt),sV f l m P=some x->sV g l m P=some x:=by
 intro l;induction l with
 |nil=>intro m P x c;cases m<;>exact c
 |cons a l i=>
  intro m P x c
  cases m with
  |nil=>exact c
  |cons b m=>
   obtain⟨y,j,d⟩:=Vm c;rw[sV,h P a b y j];simp only;by_cases e:y.1=true
   .rw[jB e] at d ⊢;exact i m y.2 x d
   rw[jC e] at d ⊢;exact d
def Xg{f g:List Pt->Nat->Nat->Option (Bool×List Pt)}(i:∀P b c k,f P b c=some k->g P b c=some k){P:List Pt}{p q:Pt}{r:Bool×List Pt}(a:tU f P k n p q=some r):tU g P k n p q=some r:=by
 rw[tU] at a ⊢;by_cases d:q.v=0
 .rw[jB d] at a ⊢
  by_cases e:p.f=q.f
  .rw[jB e,Cn] at a ⊢
   by_cases h:p.e.length=q.e.length
   .rw[jB h] at a ⊢;exact PP i _ _ _ _ a
   rw[jC h] at a ⊢;exact a
  rw[jC e] at a ⊢;exact a
 rw[jC d] at a ⊢;exact a
def Ks:∀{n m:Nat}{P:List Pt}{i j:Nat}{x:Bool×List Pt},fD n P i j=some x->n<=m->fD m P i j=some x:=by
 intro n;induction n with
 |zero=>intro m P i j x h;cases h
 |succ n c=>
  intro m P i j x b t;obtain⟨u,d,f,e,k,l,a⟩:=Pj b
  cases e
  obtain⟨m,rfl⟩:∃o,m=o+1:=⟨m - 1,by omega⟩;rw[fD,k,l];simp only;rcases a with⟨e,rfl⟩|⟨e,p,q,r,s,a⟩
  .rw[jB e]
  rw[jC e,r,s];simp only;by_cases g:q.v<p.v
  .rw[jB g] at a ⊢;exact Xg (λP d f x b=>c b (by omega)) a
  rw[jC g] at a ⊢;exact Xg (λP d f x b=>c b (by omega)) a
def WG{f g:List Pt->Nat->Option (Int×List Pt)}(h:∀P b x,f P b=some x->g P b=some x)(r:Nat):∀(l:List Nat)(s:Int)(P:List Pt)(x:Int×List Pt),nY f r l s P=some x->nY g r l s P=some x:=by
 intro l;induction l with
 |nil=>intro s P x a;exact a
 |cons b l i=>
  intro s P x a;rw[nY] at a ⊢
  cases c:f P b with
  |none=>rw[c] at a;cases a
  |some y=>
   rw[c] at a;rw[h P b y c];simp only at a ⊢;by_cases e:y.1= -1
   .rw[jB e] at a ⊢;exact a
   rw[jC e] at a ⊢;by_cases d:0<=y.1/\y.1<=121
   .rw[jB d] at a ⊢;exact i _ _ _ a
   rw[jC d] at a;cases a
def Px:∀{n m:Nat}{P:List Pt}{k:Nat}{x:Int×List Pt},nX n P k=some x->n<=m->nX m P k=some x:=by
 intro n;induction n with
 |zero=>intro m P k x h;cases h
 |succ n c=>
  intro m P k x b g;obtain⟨i,r,p,e,d,f,a⟩:=Ym b
  cases e
  obtain⟨m,rfl⟩:∃k,m=k+1:=⟨m - 1,by omega⟩;rw[nX,d];simp only[f];by_cases e:p.size=0
  .rw[jB e] at a ⊢;exact WG (λP j x b=>c b (by omega)) _ _ _ _ _ a
  rw[jC e] at a ⊢;exact a
def VK{P:List Pt}:∀(n k:Nat)(u:T),vQ P n k=some u->vQ P u.E k=some u:=by
 intro n;induction n with
 |zero=>intro k u h;cases h
 |succ n c=>
  intro k u d;obtain⟨w,x,q,b,e,f,g,i,rfl⟩:=oR d
  cases e
  rw[show(⟨q.v,q.f,b⟩:T).E=T.E.szL b+1 from by rw[T.M];simp only;omega];rw[vQ,f];have j:bC (vQ P (T.E.szL b)) q.e=some b:=by
   have m:∀(l:List Nat)(a:Zt)(M:Nat),bC (vQ P n) l=some a->T.E.szL a<=M->bC (vQ P M) l=some a:=by
    intro l;induction l with
    |nil=>intro a M h _;exact h
    |cons o l l=>
     intro a M a p;rw[bC] at a;split at a
     .cases a
     rename_i t r;split at a
     .cases a
     rename_i s v
     cases a
     rw[T.F] at p;rw[bC,Dd (c o t r) (show t.E<=M by omega)];simp only[l s M v (by omega)]
   exact m q.e b _ i (jF _)
  simp only[g,j]
def YL{P:List Pt}(t:yP P){b:Int->Nat}:∀(l:Zn),(∀v,v∈l->b v<P.length/\∃u,vQ P k (b v)=some u)->∃c,pZ P k b l=some c/\(c.map Prod.fst).Sublist l/\
 ∀v,v∈l->∀n u,vQ P n (b v)=some u->(hd P (b v)≠b v->(v,u)∈c)/\(hd P (b v)=b v->l.Nodup->v∉c.map Prod.fst)/\∀v u,(v,u)∈c->v∈l/\∃n,vQ P n (b v)=some u:=by
 intro l;induction l with
 |nil=>intro _;exact⟨[],rfl,List.Sublist.refl _,λv p=>by cases p⟩
 |cons v l z=>
  intro q;obtain⟨c,r,g,f⟩:=z (λx a=>q x (vG _ a));obtain⟨p,A,bL⟩:=q v vX;have s:=aU t p;have h:∀w u,(w,u)∈c->w∈l/\∃n,vQ P n (b w)=some u:=λw u a=>by
   have d:=g.subset (Em a);obtain⟨_,e,i⟩:=q w (vG _ d);exact(f w d k e i).2.2 w u a
  by_cases i:hd P (b v)=b v
  .refine⟨c,by rw[pZ,s];simp only[jB i];exact r,List.Sublist.cons v g,λw a n u e=>⟨λj=>?_,λm d=>?_,λx y o=>⟨vG _ (h x y o).1,(h x y o).2⟩⟩⟩
   .rcases qO.1 a with rfl|a
    .exact jN i j
    exact(f w a n u e).1 j
   rw[aM] at d;rcases qO.1 a with rfl|a
   .exact λB=>d.1 (g.subset B)
   exact(f w a n u e).2.1 m d.2
  refine⟨(v,A)::c,?_,by rw[yI];exact List.Sublist.cons_cons v g,λw a n u e=>⟨λj=>?_,λm d=>?_,λx y o=>?_⟩⟩
  .rw[pZ,s]
   simp only[jC i,bL,r]
  .rcases qO.1 a with rfl|a
   .rw[Pr e bL];exact vX
   exact vG _ ((f w a n u e).1 j)
  .rw[aM] at d
   rcases qO.1 a with rfl|a
   .exact jN m i
   rw[yI,qO];rintro (j|j)
   .have B:=j
    rw[B] at a;exact d.1 a
   exact(f w a n u e).2.1 m d.2 j
  rcases qO.1 o with a|a
  .cases a;exact⟨vX,k,bL⟩
  exact⟨vG _ (h x y a).1,(h x y a).2⟩
def gS(a:Zs)(v:Int):T:=(bM a v).getD ⟨v,0,[]⟩
def Jq:∀(n:Nat)(t:T),t.E<=n->jQ r t->qF b t=sub (gS b) t:=by
 intro n;induction n with
 |zero=>intro t h;have:=t.I;omega
 |succ n e=>
  intro t h c;by_cases a:t.v=0
  .rw[Nv a,mA a]
   have:t.e.map (qF b)=t.e.map (sub (gS b)):=El λf d=>by
    have:=xJ d;exact e f (by omega) (xF c d)
   rw[this]
  rw[mR a,gS]
  cases d:bM b t.v with
  |some u=>rw[Ch d];rfl
  |none=>
   rw[wQ d,(lZ c a).1,(lZ c a).2];rfl
def XJ(a:t∈l)(b:zE z t):zE.occL z l:=by
 induction l with
 |nil=>cases a
 |cons d l c=>
  rcases qO.1 a with rfl|a
  .exact jD b
  exact jE (c a)
def Lp{b c:Int->T}:∀(n:Nat)(t:T),t.E<=n->(∀v,v≠0->zE v t->b v=c v)->sub b t=sub c t:=by
 intro n;induction n with
 |zero=>intro t h;have:=t.I;omega
 |succ n e=>
  intro t g h;by_cases a:t.v=0
  .rw[mA a,mA a]
   have:t.e.map (sub b)=t.e.map (sub c):=El λf d=>by
    have:=xJ d;exact e f (by omega) λv f a=>h v f (eD.2 (jE (XJ d a)))
   rw[this]
  rw[mR a,mR a];exact h _ a (eD.2 (jD rfl))
structure Iu (σ:Int->T) (s t:T):Prop where
 same:sub σ s=sub σ t
 vs:∀θ:Int->T,sub θ s=sub θ t->∀v,v≠0->θ v=sub θ (σ v)
 least:∀v,v≠0->(σ v).v≠0->(σ v).v<=v
 vars:∀v,v≠0->¬zE v s->¬zE v t->σ v=⟨v,0,[]⟩
structure iU (ar:Zn) (bs:Zs):Prop where
 ve:(bs.map Prod.fst).Pairwise (·<·)
 each:∀v u,(v,u)∈bs->(1<=v/\v<=1000)/\jQ ar u/\u.E<=120/\u≠⟨v,0,[]⟩
def UV(a:(b.map Prod.fst).Pairwise (·<·))(h:(z,t)∈b):kC b z=some t:=by
 induction b with
 |nil=>cases h
 |cons c b d=>
  obtain⟨w,x⟩:=c;rw[yI,Ep] at a;rw[kC];rcases qO.1 h with h|h
  .cases h;rw[jB rfl]
  have:w<z:=a.1 z (Em h);rw[jC (by omega)];exact d a.2 h
def Xw(h:z∉b.map Prod.fst):kC b z=none:=by
 induction b with
 |nil=>rfl
 |cons a b c=>
  obtain⟨w,x⟩:=a;rw[yI,qO] at h;rw[kC,jC (λe=>h (jD e.symm))];exact c (λd=>h (jE d))
def jEs(hs:jQ r t)(ht:jQ r s)(a3:t.E<=120)(a4:s.E<=120):∃l,eH 1000 t s=some l/\((l=([],false,0)/\∀f:Int->T,sub f t≠sub f s)\/
 ∃j:Int->T,Iu j t s/\((l=([],false,2)/\120<(sub j t).E)\/∃o,l=(o,true,0)/\(sub j t).E<=120/\iU r o/\∀v,v≠0->gS o v=j v)):=by
 obtain⟨b,e,i⟩:=(Tr t.E).1 t ([],[]) (jF _) hs (iT.nil r);obtain⟨a,H,Q⟩:=(Tr s.E).1 s (kB t ([],[])).2 (jF _) ht b.inv;have k:=(Jn t.E).1 t ([],[]) (jF _) hs ⟨eT,λx g=>by cases g⟩;have I:=(Jn s.E).1 s _ (jF _) ht k;have J:=a.rep e;have R:=(Zl (a.more _ _ (jO i)));have S:∀v m,vJ (kB s (kB t ([],[])).2).2.2 v=some m->zE v t\/zE v s:=λv m h=>by
  rcases a.js v m h with⟨n,c⟩|c
  .rcases b.js v n c with⟨p,d⟩|d
   .cases d
   exact jD d
  exact jE c
 have q:=a.inv;have c:=((Ce t.E).1 t ([],[]) (jF _)).1;have d:=((Ce s.E).1 s (kB t ([],[])).2 (jF _)).1;have af:(kB s (kB t ([],[])).2).2.1.length<=240:=by
  have:([]:List Pt).length=0:=rfl;simp only[this] at c;omega
 clear a b e i k c d;unfold eH;generalize (kB s (kB t ([],[])).2).1=z at H Q ⊢;generalize (kB s (kB t ([],[])).2).2=ao at J R H Q q S I af ⊢;generalize (kB t ([],[])).1=A at J R ⊢;obtain⟨P,e⟩:=ao;simp only at J R H Q q S I af ⊢;have hw:=q.wf;simp only at hw;have a5:dP P<=240:=by
  have:dP P<=(List.range P.length).length:=List.countP_le_length;rw[Iq] at this;omega
 obtain⟨ok,c,U,b,j3,j4⟩:=TP (dP P+1) P A z hw R Q (by omega);have ap:∀d,mI P d:=λd k p a=>by rw[(q.self k p a).1]
 have ab:∀f:Int->T,sub f t=sub f s->∃d,cG f P d/\d A=d z/\ok=true/\mI c d:=λf C=>by
  obtain⟨d,i⟩:=NV f hw.e;have u:=BR i t.E t A (jF _) J;have w:=BR i s.E s z (jF _) H;have n:d A=d z:=by rw[u,w,C]
  exact⟨d,i,n,j4 f d i (ap d) n⟩
 cases ok with
 |false=>
  refine⟨([],false,0),by rw[Ks U (show dP P+1<=1000 by omega)];rfl,jD ⟨rfl,λf C=>?_⟩⟩;obtain⟨d,_,_,i,_⟩:=ab f C
  cases i
 |true=>
  have a6:=b.sj.len;have V:∀k,k<c.length->Ed c k:=λk n=>by
   have w:k<P.length:=(by omega);have a:=jO w;have i:=jO n;rcases b.kv rfl k _ _ a i with y|B
   .intro x F g n
    rw[i] at g;cases g;rw[y,(q.self k _ a).1,i] at n
    cases n
    by_cases g:c[k].v=0
    .exact jE ⟨g,rfl,rfl,λu u u E u=>by rw[E] at u;cases u;rfl⟩
    exact jD g
   exact B
  have ag:∀(k:Nat)(p:Pt),c[k]? =some p->p.size=0:=λk p a=>by
   obtain⟨g,i,_,_,_,n⟩:=b.sj.symm.at a;rw[<-n];exact(q.self k g i).2
  have a7:lD c<=240:=by
   have:lD c<=(List.range c.length).length:=List.countP_le_length;rw[Iq] at this;omega
  obtain⟨m,P3,m1,y,m3,m4,W,m6,m7⟩:=WK (lD c+1) c A b.wf (by omega) (λk p a=>jD (ag k p a)) (by omega);rcases W with W|⟨a8,a9,K,E,ac,ba⟩
  .refine⟨([],false,0),?_,jD ⟨rfl,λf C=>?_⟩⟩
   .rw[Ks U (show dP P+1<=1000 by omega)]
    simp only[if_true,Px m1 (show lD c+1<=1000 by omega),jB W]
   obtain⟨d,g,u,_,i⟩:=ab f C;exact(m7 _ (ZM b.wf (g.same b.sj) i) (λn p a h=>by rw[ag n p a] at h;cases h)).1 W
  have ah:=(Jd (λk p a=>by obtain⟨F,g,i,w,B,_⟩:=b.sj.at a;exact⟨F,g,i,w,B⟩) (λv n u=>u) t.E).1 t A (jF _) J;have ai:=(Jd (λk p a=>by obtain⟨F,g,i,w,B,_⟩:=b.sj.at a;exact⟨F,g,i,w,B⟩) (λv n u=>u) s.E).1 s z (jF _) H;have aj:vQ c K z=some E:=by rw[<-Pu b.wf (by omega) (by omega) (j3 rfl)];exact ac
  have G:∀v m,vJ e v=some m->∃n u,vQ c n m=some u/\u.E<=E.E:=λv m h=>by
   have O:=(q.keys v m h).1;rcases S v m h with L|L
   .exact Vp b.wf V t.E t A (jF _) ah ⟨K,E,ac,jF _⟩ v m O L h
   exact Vp b.wf V s.E s z (jF _) ai ⟨K,E,aj,jF _⟩ v m O L h
  have aq:∀(k:Nat)(p:Pt),c[k]? =some p->xU r p.v p.f p.e.length=0:=λk p a=>by
   obtain⟨F,g,i,w,B,_⟩:=b.sj.symm.at a;rw[<-i,<-w,<-B];exact q.ok k F g
  have ar:∃j:Int->T,(∀v m n u,vJ e v=some m->vQ c n m=some u->j v=u)/\∀v,vJ e v=none->j v=⟨v,0,[]⟩:=by
   have O:∀v:Int,∃u:T,(∀m n k,vJ e v=some m->vQ c n m=some k->u=k)/\(vJ e v=none->u=⟨v,0,[]⟩):=λv=>by
    cases Z:vJ e v with
    |none=>exact⟨⟨v,0,[]⟩,(λm n k L=>by cases L),λ_=>rfl⟩
    |some m=>
     obtain⟨n,u,hu,_⟩:=G v m Z;exact⟨u,λm' n' k g i=>by cases g;exact Pr hu i,(λL=>by cases L)⟩
   obtain⟨L,k⟩:=Ma O;exact⟨L,λv=>(k v).1,λv=>(k v).2⟩
  obtain⟨j,L,Z⟩:=ar;have ad:=Ye b.wf V L t.E t A K E (jF _) ah ac;have au:=Ye b.wf V L s.E s z K E (jF _) ai aj;have O:∀v m,vJ e v=some m->∃p,c[m]? =some p/\p.v=v/\p.v≠0:=λv m h=>by
   obtain⟨g,p,i,w⟩:=q.keys v m h;obtain⟨F,B,k,_⟩:=b.sj.at i;exact⟨F,B,k.trans w,by rw[k,w];exact g⟩
  have ak:Iu j t s:=by
   refine⟨ad.symm.trans au,λf C v k=>?_,λv k h0=>?_,λv k g i=>?_⟩
   .obtain⟨d,hD,_,_,hr⟩:=ab f C
    cases d:vJ e v with
    |none=>rw[Z v d,mR k]
    |some m=>
     obtain⟨n,u,k,_⟩:=G v m d;rw[L v m n u d k,VJ b.wf (hD.same b.sj) hr n m u k];obtain⟨p,a,C,aa⟩:=O v m d;rw[hD.same b.sj m p a,jC aa,C]
   .cases d:vJ e v with
    |none=>rw[Z v d];exact mE _
    |some m=>
     obtain⟨n,u,k,_⟩:=G v m d;rw[L v m n u d k];obtain⟨p,a,ae,al⟩:=O v m d;obtain⟨n',l,C,ts,_,k1,k2,_,rfl⟩:=oR k;have aa:=(Zl a);have:=SH b.wf m aa p C a (by rw[uA b.wf k1];exact k2);show C.v<=v;omega
   refine Z v ?_
   cases d:vJ e v with
   |none=>rfl
   |some m=>rcases S v m d with k|k
            .exact jN k g
            exact jN k i
  by_cases al:120<m
  .refine⟨([],false,2),?_,jE ⟨j,ak,jD ⟨rfl,by rw[<-ad];omega⟩⟩⟩
   rw[Ks U (show dP P+1<=1000 by omega)];simp only[if_true,Px m1 (show lD c+1<=1000 by omega),jC (show ¬m= -1 by omega),jB al]
  have av:E.E<=120:=by omega
  have aa:∀v,v∈(e.map Prod.fst).mergeSort (λx d=>decide (x<=d))↔∃m,vJ e v=some m:=λv=>by
   rw[En,Db,oF]
  have ae:((e.map Prod.fst).mergeSort (λx d=>decide (x<=d))).Nodup:=(List.mergeSort_perm _ _).nodup_iff.2 I.1;have aw:((e.map Prod.fst).mergeSort (λx d=>decide (x<=d))).Pairwise (·<·):=by
   have g:=Si (le:=λ(x d:Int)=>decide (x<=d)) (λk C am am an=>by simp only[decide_eq_true_eq] at am an ⊢;omega) (λk C=>by simp only[Gx,decide_eq_true_eq];omega) (e.map Prod.fst);refine(g.and ae).imp ?_;rintro k C ⟨i,w⟩;simp only[decide_eq_true_eq] at i;have B:=w;omega
  have w3:=y.wf b.wf
  obtain⟨o,o1,o2,o3⟩:=YL w3 (k:=1000) (b:=λv=>(vJ e v).getD 0) ((e.map Prod.fst).mergeSort (λx d=>decide (x<=d))) (λv k=>by
   obtain⟨x,d⟩:=(aa v).1 k;obtain⟨n,u,C,am⟩:=G v x d;obtain⟨p,a,_⟩:=O v x d;rw[d]
   exact⟨by rw[y.len];exact(Zl a),u,by rw[y.jf];exact Dd (VK n _ u C) (by omega)⟩)
  have am:=aw.sublist o2;have ax:∀v u,(v,u)∈o->∃d n,vJ e v=some d/\vQ c n d=some u/\hd c d≠d:=λv u x=>by
   have k:=o2.subset (Em x);obtain⟨d,C⟩:=(aa v).1 k;obtain⟨n,u',hu,_⟩:=G v d C;have h9:=o3 v k n u' (by rw[C,y.jf];exact hu);obtain⟨_,n2,an⟩:=h9.2.2 v u x;rw[C,y.jf] at an;refine⟨d,n2,C,an,λay=>?_⟩;refine h9.2.1 ?_ ae (Em x);rw[C,y.qy];exact ay
  have ay:∀v,v≠0->gS o v=j v:=λv k=>by
   cases k:vJ e v with
   |none=>
    rw[Z v k,gS];have:v∉o.map Prod.fst:=λh=>by
     obtain⟨d,C⟩:=(aa v).1 (o2.subset h);rw[k] at C;cases C
    have h:bM o v=none:=by
     rw[bM,Xw this];split<;>rfl
    rw[h];rfl
   |some d=>
    obtain⟨n,u,h,_⟩:=G v d k;obtain⟨p,a,az,a0⟩:=O v d k;have a1:=(Db e v).2 (by rw[k];rfl);have a2:0<v:=(by have:=(I.2 v a1).1;omega);rw[L v d n u k h,gS,bM,jB a2];have h9:=o3 v ((aa v).2 ⟨d,k⟩) n u (by rw[k,y.jf];exact h);by_cases C:hd c d=d
    .have h8:=h9.2.1 (by rw[k,y.qy];exact C) ae
     rw[Xw h8];obtain⟨n',l,bb,ts,_,k1,k2,k3,rfl⟩:=oR h;have hr:l=d:=(by rw[<-uA b.wf k1];exact C);subst hr;rw[a] at k2;cases k2;have an:=b.wf.var l p a a0;rw[an.1] at k3
     cases k3
     rw[an.2,az];rfl
    have h8:=h9.1 (by rw[k,y.qy];exact C);rw[UV am h8];rfl
  refine⟨(o,true,0),?_,jE ⟨j,ak,jE ⟨o,rfl,by rw[<-ad];exact av,⟨am,λv u x=>?_⟩,ay⟩⟩⟩
  .rw[Ks U (show dP P+1<=1000 by omega)]
   simp only[if_true,Px m1 (show lD c+1<=1000 by omega),jC (show ¬m= -1 by omega),jC al,o1]
  obtain⟨d,n,h,m,C⟩:=ax v u x;obtain⟨n2,u2,k4,k5⟩:=G v d h;have x:=Pr m k4;subst x;have an:=(Db e v).2 (by rw[h];rfl);have h0:=(q.keys v d h).1;have g:=I.2 v an;refine⟨by omega,VL aq n d u m,by omega,λx=>?_⟩;obtain⟨p,a,n,a0⟩:=O v d h;obtain⟨n',l,u,ts,_,g1,g2,g3,k⟩:=oR m;rw[x] at k;simp only[T.mk.injEq] at k;have az:=b.wf.uniq l d u p g2 a (n▸k.1.symm) (k.1▸h0);exact C (by rw[uA b.wf g1];exact az)
def qL(s t:T):Int:=if gt s t then 1 else if kS s t then 2 else 3
def Uw(s t:T):qL s t=1\/qL s t=2\/qL s t=3:=by
 rw[qL];split
 .exact jD rfl
 split
 .exact jE (jD rfl)
 exact jE (jE rfl)
def rU:qL t s=1↔gt t s=true:=by
 rw[qL];by_cases h:gt t s=true
 .rw[jB h];simp[h]
 rw[jC h];constructor
 .intro a;split at a<;>cases a
 intro a;exact jN a h
def Jv:qL t s≠3↔gt t s=true\/t=s:=by
 rw[qL];by_cases h:gt t s=true
 .rw[jB h];simp[h]
 rw[jC h];by_cases b:kS t s=true
 .rw[jB b];simp[nI.1 b]
 rw[jC b];constructor
 .intro a;exact jN rfl a
 rintro (a|a)
 .exact jN a h
 exact jN (nI.2 a) b
def Og(a:jQ r t):qL t s=2↔t=s:=by
 constructor
 .intro h
  rw[qL] at h;split at h
  .cases h
  split at h
  .rename_i b;exact nI.1 b
  cases h
 rintro rfl;rw[qL,Kj a,Qj];rfl
def MH(a:jQ r t)(h:qL t s=3):t≠s/\gt t s=false:=by
 refine⟨λe=>?_,?_⟩
 .rw[(Og a).2 e] at h;cases h
 cases b:gt t s with
 |false=>rfl
 |true=>rw[rU.2 b] at h;cases h
def Ju(h:t≠s):qL t s=if gt t s then 1 else 3:=by
 rw[qL,jC (λa=>h (nI.1 a))]
def MN(g:jQ r t)(i:jQ r s)(a:t.v≠0):qL t s=if t.v=s.v then 2 else 3:=by
 rw[qL,Pc a];obtain⟨b,c⟩:=lZ g a;by_cases h:t.v=s.v
 .obtain⟨d,f⟩:=lZ i (h▸a)
  have e:t=s:=by
   obtain⟨v,j,k⟩:=t;obtain⟨l,m,n⟩:=s;simp only at b c d f h;rw[b,c,d,f,h]
  rw[jB h,e,Qj];rfl
 rw[jC h];have:kS t s=false:=jA8.2 (λe=>h (by rw[e]));rw[this];rfl
def MJ(f:jQ r t)(g:jQ r s)(d:t.v=0)(h:s.v≠0\/t.f<s.f):qL t s=if t.e.any (λa=>qL a s !=3) then 1 else 3:=by
 have i:t≠s:=λe=>by
  rcases h with h|h
  .rw[<-e] at h;exact h d
  rw[e] at h;exact Int.lt_irrefl _ h
 have e:gt t s=t.e.any (λa=>qL a s !=3):=by
  rw[eJ,aT f g,mW];constructor
  .rintro (⟨_,a,c,b⟩|⟨_,b,j,_⟩)
   .exact⟨a,c,by simpa using Jv.2 b⟩
   rcases h with h|h
   .exact jN b h
   omega
  rintro⟨a,c,b⟩;exact jD ⟨d,a,c,Jv.1 (by simpa using b)⟩
 rw[Ju i,e]
def MI(d:jQ r t)(a:jQ r s)(e:t.v=0)(f:s.v=0)(h:s.f<t.f):qL t s=if s.e.any (λc=>qL t c !=1) then 3 else 1:=by
 have g:t≠s:=λb=>by rw[b] at h;exact Int.lt_irrefl _ h
 have i:gt t s= !s.e.any (λc=>qL t c !=1):=by
  rw[eJ,Gw,List.any_eq_false];constructor
  .intro j c b
   have k:=Cw d a (xF a b) j (oN a b);simp[rU.2 k]
  intro l;refine(aT d a).2 (jE ⟨e,f,by omega,λc b=>?_,jD h⟩);have:=l c b;exact rU.1 (by simpa using this)
 rw[Ju g,i]
 cases s.e.any (λc=>qL t c !=1)<;>rfl
def Yn(h:l[n]? =some t)(a:k<=n):t∈l.drop k:=by
 refine jU (i:=n - k) ?_;rw[Ej,show k+(n - k)=n by omega];exact h
def ML(a:jQ r t)(b:jQ r s)(u:t.v=0)(v:s.v=0)(w:t.f=s.f)(g:t.e[k]? =some t1)(c:s.e[k]? =some t2)(m:∀i,i<k->t.e[i]? =s.e[i]?)(d:gt t1 t2=true):
 qL t s=if (s.e.drop (k+1)).any (λt2=>qL t t2 !=1) then 3 else 1:=by
 have n:=jU g;have o:=jU c;have p:t1≠t2:=λe=>by rw[e,Kj (xF b o)] at d;cases d
 have y:t≠s:=λe=>by subst e;rw[g] at c;exact p (kT c)
 have z:gt t s= !(s.e.drop (k+1)).any (λt2=>qL t t2 !=1):=by
  rw[eJ,Gw,List.any_eq_false];constructor
  .intro A x j
   have q:=Eo j;have l:=Cw a b (xF b q) A (oN b q);simp[rU.2 l]
  intro B;refine(aT a b).2 (jE ⟨u,v,by omega,λx j=>?_,jE ⟨w,Ac.2 ⟨k,t1,t2,g,c,p,d,m⟩⟩⟩);obtain⟨i,C,e⟩:=List.getElem_of_mem j;have f:s.e[i]? =some x:=by rw[jO C,e]
  rcases xW i k with h|h
  .have l:=(m i h).trans f
   exact oN a (jU l)
  rcases Nat.eq_or_lt_of_le h with h|h
  .subst h
   obtain rfl:t2=x:=by rw[c] at f;exact kT f
   exact Cw a (xF a n) (xF b o) (oN a n) d
  have:=B x (Yn f h);exact rU.1 (by simpa using this)
 rw[Ju y,z]
 cases (s.e.drop (k+1)).any (λt2=>qL t t2 !=1)<;>rfl
def MK(j:jQ r t)(b:jQ r s)(u:t.v=0)(E:t.f=s.f)(e:t.e[k]? =some t1)(f:s.e[k]? =some t2)(m:∀i,i<k->t.e[i]? =s.e[i]?)(n:t1≠t2)(o:gt t1 t2=false):
 qL t s=if (t.e.drop (k+1)).any (λt1=>qL t1 s !=3) then 1 else 3:=by
 have v:=jU e;have l:=jU f;have w:t≠s:=λd=>by subst d;rw[e] at f;exact n (kT f)
 have y:gt t s=(t.e.drop (k+1)).any (λt1=>qL t1 s !=3):=by
  rw[eJ,mW];constructor
  .intro z
   rcases(aT j b).1 z with⟨_,x,c,a⟩|⟨_,_,_,_,a⟩
   .obtain⟨i,A,d⟩:=List.getElem_of_mem c
    have g:t.e[i]? =some x:=(by rw[jO A,d]);rcases xW i k with h|h
    .have p:=jU ((m i h).symm.trans g)
     have d:=oN b p;rcases a with a|a
     .rw[RZ b (xF b p) d] at a;cases a
     rw[a,Kj b] at d;cases d
    rcases Nat.eq_or_lt_of_le h with h|h
    .subst h
     obtain rfl:t1=x:=by rw[e] at g;exact kT g
     have d:gt t1 t2=true:=by
      rcases a with a|a
      .exact Cw (xF j v) b (xF b l) a (oN b l)
      rw[a];exact oN b l
     rw[o] at d;cases d
    exact⟨x,Yn g h,by simpa using Jv.2 a⟩
   rcases a with a|⟨_,a⟩
   .omega
   obtain⟨p,x,F,c,d,B,q,C⟩:=Ac.1 a;rcases Nat.lt_trichotomy p k with h|h|h
   .have:=(m p h).symm.trans c
    rw[d] at this;exact jN (kT this).symm B
   .subst h
    rw[e] at c;rw[f] at d;obtain rfl:=kT c;obtain rfl:=kT d;rw[o] at q;cases q
   have:=C k h;rw[e,f] at this;exact jN (kT this) n
  rintro⟨x,c,a⟩;exact(aT j b).2 (jD ⟨u,x,Eo c,Jv.1 (by simpa using a)⟩)
 rw[Ju w,y]
def MM(e:jQ r t)(a:t.v=0)(b:s.v=0)(c:t.f=s.f)(d:t.e=s.e):qL t s=2:=by
 rw[Og e];obtain⟨v,f,g⟩:=t;obtain⟨h,i,j⟩:=s;simp only at a b c d;rw[a,b,c,d]
structure TB where
 K:Nat
 R:Nat
 C:Nat
 PS:Zt
 PT:Zt
 ar:Zn
structure TB.Ok (b:TB):Prop where
 hR:b.R=b.PS.length
 hC:b.C=b.PT.length
 r1:b.R<=1000
 c1:b.C<=1000
def TB.q(b:TB):Zp:=λk=>k≠b.K
structure aQ (b:TB) (w:N) (M:Nat->Nat->Int):Prop where
 jg:∀i j,i<b.R->j<b.C->w.cell? (D b.K (i*b.C+j))=some (.int .i8 (M i j))
 fr:∀k,w.frozen? (D b.K k)=false
 lt:b.K<w.heap.size
def ST(b:m<k)(c:j<k)(h:n*k+m=i*k+j):n=i/\m=j:=by
 have a:0<k:=by omega
 have d:(n*k+m) / k=n:=by rw[Nat.mul_comm,Nat.mul_add_div a,Nat.div_eq_of_lt b];omega
 have e:(i*k+j) / k=i:=by rw[Nat.mul_comm,Nat.mul_add_div a,Nat.div_eq_of_lt c];omega
 have f:n=i:=by rw[<-d,h,e]
 subst f;exact⟨rfl,by omega⟩
def Xc(a:m<k)(b:i<n):m*n+i<k*n:=by
 have h:(m+1)*n<=k*n:=Sl n a;rw[Nat.add_mul] at h;omega
def aQ.same{b:TB}{w':N}{M:Nat->Nat->Int}(h:aQ b w M)(d:w.heap.size<=w'.heap.size)(c:w'.heap[b.K]? =w.heap[b.K]?):aQ b w' M:=
 ⟨λi j e f=>by rw[kH (w:=w) (a:=(D b.K (i*b.C+j))) c];exact h.jg i j e f,
  λk=>by rw[gZ (w:=w) (a:=(D b.K k)) c];exact h.fr k,kV h.lt d⟩
def aQ.below{b:TB}{M:Nat->Nat->Int}(h:aQ b w M)(a:Zb w u):aQ b u M:=h.same a.size (a.block _ h.lt)
def aQ.set{b:TB}{M:Nat->Nat->Int}(h:aQ b w M)(g:k<b.R)(d:n<b.C)(x:Int):aQ b (w.setCell (D b.K (k*b.C+n)) (.int .i8 x)) (λa c=>if a=k/\c=n then x else M a c):=by
 have i:(w.setCell (D b.K (k*b.C+n)) (.int .i8 x)).heap.size=w.heap.size:=by simp[World.setCell]
 refine⟨λa c j f=>?_,λl=>?_,by rw[i];exact h.lt⟩
 .by_cases e:a=k/\c=n
  .obtain⟨rfl,rfl⟩:=e
   rw[pS _ _ _ (h.jg a c g d),jB ⟨rfl,rfl⟩]
  rw[yE _ _ _ _ (λm=>e (by
   have o:k*b.C+n=a*b.C+c:=(by injection m);have:=ST d f o
   exact⟨this.1.symm,this.2.symm⟩)),jC e]
  exact h.jg _ _ j f
 rw[dC];exact h.fr l
structure KT (b:TB) (w w':N):Prop where
 os:w'.os=w.os
 tape:w'.tape=w.tape
 output:w'.output=w.output
 size:w.heap.size<=w'.heap.size
 block:∀k,k<w.heap.size->k≠b.K->w'.heap[k]? =w.heap[k]?
def KT.refl(b:TB)(w:N):KT b w w:=⟨rfl,rfl,rfl,jF _,λ_ _ _=>rfl⟩
def KT.trans{b:TB}(h:KT b w u)(k:KT b u v):KT b w v:=
 ⟨k.os.trans h.os,k.tape.trans h.tape,k.output.trans h.output,kN h.size k.size,λx a c=>by rw[k.block x (kV a h.size) c,h.block x a c]⟩
def KT.A{b:TB}(h:Zb w u):KT b w u:=⟨h.os,h.tape,h.output,h.size,λk a _=>h.block k a⟩
def KT.set{b:TB}(h:KT b w u)(j:Nat)(v:Zv):KT b w (u.setCell (D b.K j) v):=
 h.trans ⟨rfl,rfl,rfl,by simp[World.setCell],λk _ a=>vL _ _ _ _ a⟩
def FB{b:TB}(h:KT b w u)(c:jT b.q w l a):jT b.q u l a:=xN (λk d e=>h.block k e d) c
def Ca{b:TB}(h:KT b w u)(c:PL b.q b.q w l k a):PL b.q b.q u l k a:=Ew (λd e f=>h.block d f (e.elim id id)) c
def Aw(b:TB)(M:Nat->Nat->Int)(n:Nat):Prop:=∀i j s t,b.PS[i]? =some s->b.PT[j]? =some t->s.E+t.E<=n->M i j=0\/M i j=qL s t
def sQ(b:TB)(n:Nat)(w c:N):Prop:=∀M,aQ b w M->Aw b M n->∃a,aQ b c a/\Aw b a n/\∀i j s t,b.PS[i]? =some s->b.PT[j]? =some t->n<s.E+t.E->a i j=M i j
def Aw.mono{b:TB}{M:Nat->Nat->Int}(h:Aw b M n)(a:k<=n):Aw b M k:=λi j s t c d e=>h i j s t c d (kN e a)
def sQ.refl(b:TB)(n:Nat)(w:N):sQ b n w w:=λM a c=>⟨M,a,c,λ_ _ _ _ _ _ _=>rfl⟩
def sQ.trans{b:TB}(h:sQ b k w u)(e:sQ b k u v):sQ b k w v:=λM a c=>by
 obtain⟨f,g,l,m⟩:=h M a c;obtain⟨n,o,p,q⟩:=e f g l;exact⟨n,o,p,λi j s t a c d=>(q i j s t a c d).trans (m i j s t a c d)⟩
def sQ.mono{d:TB}{w':N}(h:sQ d k w w')(l:k<=n):sQ d n w w':=λM a e=>by
 obtain⟨m,o,p,f⟩:=h M a (e.mono l);refine⟨m,o,λi j s t a b g=>?_,λi j s t a b g=>f i j s t a b (by omega)⟩;rcases xW k (s.E+t.E) with c|c
 .rw[f i j s t a b c];exact e i j s t a b g
 exact p i j s t a b c
def sQ.A{b:TB}(h:Zb w u):sQ b k w u:=λM a c=>⟨M,a.below h,c,λ_ _ _ _ _ _ _=>rfl⟩
def fK(b:TB)(n:Nat)(w:N):Prop:=∃M,aQ b w M/\Aw b M n
structure GS (b:TB) (n:Nat) (w w':N):Prop where
 kt:KT b w w'
 st:sQ b n w w'
def GS.refl(b:TB)(n:Nat)(w:N):GS b n w w:=⟨KT.refl _ _,sQ.refl _ _ _⟩
def GS.trans{b:TB}(h:GS b k w u)(a:GS b k u v):GS b k w v:=⟨h.kt.trans a.kt,h.st.trans a.st⟩
def GS.A{b:TB}(h:Zb w u):GS b k w u:=⟨KT.A h,sQ.A h⟩
def GS.mono{b:TB}{w':N}(h:GS b k w w')(a:k<=n):GS b n w w':=⟨h.kt,h.st.mono a⟩
def fK.gs{b:TB}(h:fK b k w)(a:GS b k w u):fK b k u:=by
 obtain⟨M,c,d⟩:=h;obtain⟨e,f,g,_⟩:=a.st M c d;exact⟨e,f,g⟩
def fK.mono{b:TB}(h:fK b n w)(a:k<=n):fK b k w:=by
 obtain⟨M,c,d⟩:=h;exact⟨M,c,d.mono a⟩
def JV{f:T->Bool}(b:l[k]? =some t)(h:(l.take k).any f=false):(f t=false->(l.take (k+1)).any f=false)/\(f t=true->l.any f=true):=by
 constructor
 .intro a
  rw[vZ,b,uT,h];simp[a]
 intro a;exact mW.2 ⟨t,jU b,a⟩
def YT{c:TB}{u:Zy}(g:T->Bool)(i:N->Prop)(Q:∀v w,(callFunc n v).run Zf w=.ok (.enter n v) w)(b:∀w e,GS c k w e->i w->i e)
 (d:∀w x f j s o p,i w->x∈l1->x.e.length<=p->l[f]? =some x->sR l (f+1) x.e->jT c.q w x.e j->PL c.q c.q w x.e (f+1) o->
   Calls Zf n (#[.agg #[Y x.v,Y x.f,.slice j x.e.length s,Y (f:Int),.slice o x.e.length p]]++u) w λq e=>q=.returned (.bool (g x))/\GS c k w e) (G:Nat) (R:l1.length<=1000) (y:PL c.q c.q w l1 m a) (H:sR l m l1) (I:i w):
 Calls Zf 241 #[.slice a l1.length G,.func (.func n) #[] u] w λq e=>∃z:Int,q=.returned (Y z)/\decide (0<=z)=l1.any g/\GS c k w e:=by
 have J:=X d;have K:=X b;clear d b
 go_in
 go_wp2
 go_loopw [8] (λd wr=>∃b:Nat,b<=l1.length/\d=Y b/\Hid ((l1.take b).any g=false)/\GS c k w wr) (λd _=>l1.length - (intOf d).toNat)
 case atStart=>exact⟨0,jY _,rfl,rfl,GS.refl _ _ _⟩
 case round=>
  obtain⟨b,S,rfl,A,h⟩:=hrel;by_cases L:b<l1.length
  .obtain⟨U,V,rfl⟩:=Ta y (by omega)
   obtain⟨B,d⟩:=Zg L;obtain⟨j,s,o,p,_,W,Z,k2,M,k4,C,E,t⟩:=Sx (Ca h.kt y) d;obtain⟨s1,s2,_⟩:=H.at d;obtain⟨f,F⟩:=Ze (m+T.E.szL (l1.take b));rw[<-F] at M t s1 s2;have r:=X (JV d A);have aa:b<=1000:=(by omega);have ab:(b:Int)<l1.length:=(by omega);have ac:(0:Int)<=b:=(by omega);have O:=X (J wr B f j s o p (K _ _ h I) (jU d) C s1 s2 E t);have P:=X h;clear d E t h s1 s2 F C
   go_wp2_with fail
   refine O.mono ?_;rintro q F ⟨rfl,d⟩;have t:=X (P.trans d);clear d;rcases Dz (g B) with d|d
   .have C:=X (r.2 d)
    rw[d];clear r d;go_wp2;go_ret;exact⟨b,rfl,by rw[C.out];exact iE (by omega),t⟩
   have E:=X (r.1 d);rw[d];clear r d
   go_wp2_with fail
   go_roundw
   case rel=>exact⟨b+1,by omega,by go_num,E,t⟩
   case measure=>simp[intOf];omega
  have d:b=l1.length:=by omega
  subst d;have r:Hid (l1.any g=false):=by
   have b:=A.out;rw[qU] at b;exact b
  go_wp2;go_ret;exact⟨-1,rfl,by rw[r.out];rfl,h⟩
def AT(b:TB)(n:Nat)(L:Zt)(e:Nat)(h:Zy)(g:T->Bool)(d:N->Prop)(t:∀i w,(callFunc e i).run Zf w=.ok (.enter e i) w)(j:∀w a,GS b n w a->d w->d a)(c:Zt)
 (k:∀w x m l u o p,d w->x∈c->x.e.length<=p->L[m]? =some x->sR L (m+1) x.e->jT b.q w x.e l->PL b.q b.q w x.e (m+1) o->
   Calls Zf e (#[.agg #[Y x.v,Y x.f,.slice l x.e.length u,Y (m:Int),.slice o x.e.length p]]++h) w λf a=>f=.returned (.bool (g x))/\GS b n w a)
 (q:Nat) (r:Zo) (s:Nat) (w:N) (v:c.length<=1000) (y:PL b.q b.q w c q r) (z:sR L q c) (A:d w):
 Calls Zf 238 #[.slice r c.length s,.func (.func e) #[] h] w λf a=>f=.returned (.bool (c.any g))/\GS b n w a:=by
 have H:=X (YT g d t j k s v y z A);clear k j
 go_in
 go_wp2_with fail
 refine H.mono ?_;rintro f E ⟨F,rfl,j,k⟩;have B:=X j;have C:=X k;clear j k;go_wp2;go_ret;exact⟨vO B,C⟩
structure PA (b:TB) (L:Zt) (w:N) (s:T) (i:Nat) (sa spa:Zo) (spc:Nat):Prop where
 ok:jQ b.ar s
 num:L[i]? =some s
 sub:sR L (i+1) s.e
 vo:jT b.q w s.e sa
 pl:PL b.q b.q w s.e (i+1) spa
 E:s.E<=1000
 cap:s.e.length<=spc
def PA.kt{b:TB}(h:PA b l w t k a a1 n)(c:KT b w u):PA b l u t k a a1 n:=⟨h.ok,h.num,h.sub,FB c h.vo,Ca c h.pl,h.E,h.cap⟩
abbrev pv(s:T)(i:Nat)(a:Zo)(b:Nat)(c:Zo)(d:Nat):Zv:=.agg #[Y s.v,Y s.f,.slice a s.e.length b,Y (i:Int),.slice c s.e.length d]
abbrev tv(b:TB):Zv:=.agg #[Zx b.K (b.R*b.C) (b.R*b.C),Y (b.C:Int)]
def uP(b:TB)(n:Nat):Prop:=∀(s:T)(i:Nat)(t:T)(j:Nat)(a:Zo)(h:Nat)(c:Zo)(d:Nat)(e:Zo)(k:Nat)(f:Zo)(g:Nat)(w:N),s.E+t.E<=n->PA b b.PS w s i a c d->PA b b.PT w t j e f g->fK b (s.E+t.E) w->
    Calls Zf 226 #[tv b,pv s i a h c d,pv t j e k f g] w λe a=>e=.returned (.int .i8 (qL s t))/\GS b (s.E+t.E) w a
def fK.lt{b:TB}(h:fK b k w):b.K<w.heap.size:=by
 obtain⟨M,a,_⟩:=h;exact a.lt
structure cD (b:TB) (n x y:Nat) (L:Zt) (t:T) (j:Nat) (ta:Zo) (tc:Nat) (tpa:Zo) (tpc:Nat) (w:N):Prop where
 k0:w.cell? (D x 0)=some (Zx b.K (b.R*b.C) (b.R*b.C))
 k1:w.cell? (D x 1)=some (Y (b.C:Int))
 t5:zY w y 0 (Y t.v) (Y t.f) (.slice ta t.e.length tc) (Y (j:Int)) (.slice tpa t.e.length tpc)
 pat:PA b L w t j ta tpa tpc
 vp:fK b n w
 hx:x≠b.K
 hy:y≠b.K
def cD.gs{c:TB}(h:cD c k n m l t i a j a1 n1 w)(b:GS c k w u):cD c k n m l t i a j a1 n1 u:=by
 have d:=b.kt.block n (kA h.k0) h.hx;exact⟨(kH (w:=w) (a:=(D n 0)) d).trans h.k0,(kH (w:=w) (a:=(D n 1)) d).trans h.k1,h.t5.same (b.kt.block m h.t5.lt h.hy),h.pat.kt b.kt,h.vp.gs b,h.hx,h.hy⟩
def TL{b:TB}(d:uP b k)(e:Nat)(c:t.E+s.E<=k)(f:PA b b.PS w t n a a1 i)(q:cD b k n2 n3 b.PT s m a2 j a3 n1 w):
 Calls Zf 239 #[pv t n a e a1 i,Zr n2,Zr n3] w λg r=>g=.returned (.bool (qL t s !=3))/\GS b k w r:=by
 obtain⟨u,x,⟨v,y,z,A,B⟩,h,l,_,_⟩:=q;have C:=kA u;have E:=kA v;have o:=X (λo1=>d t n s m a e a1 i a2 j a3 n1 (w.alloc o1) c (f.kt (KT.A (jG w o1))) (h.kt (KT.A (jG w o1))) ((l.mono c).gs (GS.A (jG w o1))));obtain⟨F,p⟩:=Ze (qL t s);rw[<-p] at o ⊢;clear d p l h f
 go_in
 go_wp2_with fail
 refine(o _).mono ?_;rintro g h ⟨rfl,d⟩;have f:=X ((GS.A (jG w _)).trans (d.mono c));clear d;go_wp2;go_ret;exact⟨rfl,f⟩
def TM{b:TB}(d:uP b k)(e:Nat)(c:s.E+t.E<=k)(f:PA b b.PT w t n a a1 i)(q:cD b k n2 n3 b.PS s m a2 j a3 n1 w):
 Calls Zf 240 #[pv t n a e a1 i,Zr n2,Zr n3] w λg r=>g=.returned (.bool (qL s t !=1))/\GS b k w r:=by
 obtain⟨u,x,⟨v,y,z,A,B⟩,h,l,_,_⟩:=q;have C:=kA u;have E:=kA v;have o:=X (λo1=>d s m t n a2 j a3 n1 a e a1 i (w.alloc o1) c (h.kt (KT.A (jG w o1))) (f.kt (KT.A (jG w o1))) ((l.mono c).gs (GS.A (jG w o1))));obtain⟨F,p⟩:=Ze (qL s t);rw[<-p] at o ⊢;clear d p l h f
 go_in
 go_wp2_with fail
 refine(o _).mono ?_;rintro g h ⟨rfl,d⟩;have f:=X ((GS.A (jG w _)).trans (d.mono c));clear d;go_wp2;go_ret;exact⟨rfl,f⟩
theorem PB(a:Zy)(w:N):(callFunc 239 a).run Zf w=.ok (.enter 239 a) w:=by kernel_rfl
theorem PC(a:Zy)(w:N):(callFunc 240 a).run Zf w=.ok (.enter 240 a) w:=by kernel_rfl
def cD.new{b:TB}(g:PA b l w t n a a1 i)(c:fK b k w):
 cD b k w.heap.size (w.heap.size+1) l t n a m a1 i ((w.alloc (.cells #[Zx b.K (b.R*b.C) (b.R*b.C),Y (b.C:Int)] 283)).alloc (.cells #[Y t.v,Y t.f,.slice a t.e.length m,Y (n:Int),.slice a1 t.e.length i] 278)):=by
 have s1:∀o,(w.alloc o).heap.size=w.heap.size+1:=λo=>qE _ _;have h:=c.lt;have d:=λo1 o2=>kF w o1 o2;refine⟨?_,?_,?_,g.kt (KT.A (d _ _)),c.gs (GS.A (d _ _)),by omega,by omega⟩
 .rw[kW (by rw[s1];omega),jJ 0 rfl];rfl
 .rw[kW (by rw[s1];omega),jJ 1 rfl];rfl
 refine zY.of_heap (g:=278) (f:=(0,0)) ?_;have f:=bR (w.alloc (.cells #[Zx b.K (b.R*b.C) (b.R*b.C),Y (b.C:Int)] 283)) (.cells #[Y t.v,Y t.f,Zk a t.e m,Y (n:Int),Zk a1 t.e i] 278);rw[s1] at f;exact f
def Um{b:TB}(r:uP b k)(s:Nat)(d:Nat)(e:∀x,x∈l->jQ b.ar x/\x.E+t.E<=k/\x.E<=1000)(B:l.length<=1000)(f:PL b.q b.q w l n a)(g:sR b.PS n l)(u:PA b b.PT w t m a1 a2 i)(v:fK b k w):
 Calls Zf 234 #[tv b,.slice a l.length s,pv t m a1 d a2 i] w λy z=>y=.returned (.int .i8 (if l.any (λc=>qL c t !=3) then 1 else 3))/\GS b k w z:=by
 have I:∀(h:Fn)(first cap:Zy)(w:N),(Instr.makeFunc h first cap).run Zf w=.ok (.func h first cap) w:=λ_ _ _ _=>rfl;have o:=cD.new (m:=d) u v;obtain⟨h,j⟩:∃h,h=(w.alloc (.cells #[Zx b.K (b.R*b.C) (b.R*b.C),Y (b.C:Int)] 283)).alloc (.cells #[Y t.v,Y t.f,Zk a1 t.e d,Y (m:Int),Zk a2 t.e i] 278):=⟨_,rfl⟩;have p:Zb w h:=j▸kF _ _ _;rw[<-j] at o
 have A:=X (AT b k b.PS 239 #[Zr w.heap.size,Zr (w.heap.size+1)] (λc=>qL c t !=3) (cD b k w.heap.size (w.heap.size+1) b.PT t m a1 d a2 i) PB (λ_ _ q C=>C.gs q) l
  (λz x q q C q q E q F G g H f=>TL r C (e x q).2.1 ⟨(e x q).1,G,g,H,f,(e x q).2.2,F⟩ E)
  n a s h B (Sy p f) g o)
 have q:=X j;have C:=X p;clear r o j p e f g u v;obtain⟨Z,f⟩:∃Z:Int,Z=if l.any (λc=>qL c t !=3) then 1 else 3:=⟨_,rfl⟩
 rw[<-f];have e:=X f;clear f
 go_in
 go_wp2_with fail
 rw[<-q.out];refine A.mono ?_;rintro y j ⟨rfl,f⟩;have g:=X ((GS.A C).trans f);clear f A
 cases f:l.any (λc=>qL c t !=3) with
 |true=>
  obtain rfl:Z=1:=by rw[e.out,f];rfl
  clear e f
  go_wp2_with fail
  go_ret;exact⟨rfl,g⟩
 |false=>
  obtain rfl:Z=3:=by rw[e.out,f];rfl
  clear e f
  go_wp2_with fail
  go_ret;exact⟨rfl,g⟩
def Tj{b:TB}(r:uP b k)(d:Nat)(s:Nat)(e:∀x,x∈l->jQ b.ar x/\t.E+x.E<=k/\x.E<=1000)(B:l.length<=1000)(f:PL b.q b.q w l i a2)(g:sR b.PT i l)(u:PA b b.PS w t n a a1 m)(v:fK b k w):
 Calls Zf 235 #[tv b,pv t n a d a1 m,.slice a2 l.length s] w λy z=>y=.returned (.int .i8 (if l.any (λc=>qL t c !=1) then 3 else 1))/\GS b k w z:=by
 have I:∀(h:Fn)(first cap:Zy)(w:N),(Instr.makeFunc h first cap).run Zf w=.ok (.func h first cap) w:=λ_ _ _ _=>rfl;have o:=cD.new (m:=d) u v;obtain⟨h,j⟩:∃h,h=(w.alloc (.cells #[Zx b.K (b.R*b.C) (b.R*b.C),Y (b.C:Int)] 283)).alloc (.cells #[Y t.v,Y t.f,Zk a t.e d,Y (n:Int),Zk a1 t.e m] 278):=⟨_,rfl⟩;have p:Zb w h:=j▸kF _ _ _;rw[<-j] at o
 have A:=X (AT b k b.PT 240 #[Zr w.heap.size,Zr (w.heap.size+1)] (λc=>qL t c !=1) (cD b k w.heap.size (w.heap.size+1) b.PS t n a d a1 m) PC (λ_ _ q C=>C.gs q) l
  (λz x q q C q q E q F G g H f=>TM r C (e x q).2.1 ⟨(e x q).1,G,g,H,f,(e x q).2.2,F⟩ E)
  i a2 s h B (Sy p f) g o)
 have q:=X j;have C:=X p;clear r o j p e f g u v;obtain⟨Z,f⟩:∃Z:Int,Z=if l.any (λc=>qL t c !=1) then 3 else 1:=⟨_,rfl⟩
 rw[<-f];have e:=X f;clear f
 go_in
 go_wp2_with fail
 rw[<-q.out];refine A.mono ?_;rintro y j ⟨rfl,f⟩;have g:=X ((GS.A C).trans f);clear f A
 cases f:l.any (λc=>qL t c !=1) with
 |true=>
  obtain rfl:Z=3:=by rw[e.out,f];rfl
  clear e f
  go_wp2_with fail
  go_ret;exact⟨rfl,g⟩
 |false=>
  obtain rfl:Z=1:=by rw[e.out,f];rfl
  clear e f
  go_wp2_with fail
  go_ret;exact⟨rfl,g⟩
def PA.arg{e:TB}(h:PA e l w t k a a1 m)(b:t.e[n]? =some s):s.E<t.E/\∃c d,a1=some (D c d)/\e.q c/\
 ∃f g p i j,zY w c (d+n*5) (Y s.v) (Y s.f) (.slice g s.e.length p) (Y ((f:Nat):Int)) (.slice i s.e.length j)/\PA e l w s f g i j:=by
 have I:n<t.e.length:=by
  rcases xW n t.e.length with h|h
  .exact h
  rw[yZ h] at b;cases b
 obtain⟨c,d,rfl⟩:=Ta h.pl (by omega);obtain⟨q,r,u,v,x,y,z,A,B,C,E,F,G⟩:=Sx h.pl b;obtain⟨s1,s2,_⟩:=h.sub.at b;have o:=jU b;have H:=xJ o;have:=h.E;exact⟨H,c,d,rfl,x,_,q,r,u,v,⟨y,z,A,B,C⟩,⟨nH.1 (vW.1 h.ok).2 s o,s1,s2,F,G,by omega,E⟩⟩
def YZ:∀a b:Zt,pre.preL (a++b)=pre.preL a++pre.preL b:=by
 intro a b;induction a with
 |nil=>rfl
 |cons x d c=>rw[dW,Dh,Dh,c,dH]
def sR.drop(h:sR l k l1)(a:Nat):sR l (k+T.E.szL (l1.take a)) (l1.drop a):=by
 obtain⟨b,c⟩:=h;refine⟨b,?_⟩;have d:=(Qe _).2 (l1.take a) (jF _);have e:pre.preL l1=pre.preL (l1.take a)++pre.preL (l1.drop a):=by rw[<-YZ,cL]
 rw[<-List.drop_drop,c,e,dH,<-d,List.drop_left]
def DD{b:TB}(o:PL b.q b.q w l k (some (D n m)))(q:l.length<=i)(r:j<l.length):
 ∃c,(∀a:N,(Instr.slice 276 (Zz n m l.length i) (some (Y ((j:Int)+1))) none none).run Zf a=.ok (.slice c (l.drop (j+1)).length (i - (j+1))) a)/\PL b.q b.q w (l.drop (j+1)) (k+T.E.szL (l.take (j+1))) c:=by
 have p:Zf.underlying 276=some (.slice (Zf.elem 276)):=by kernel_rfl
 have d:∀w:N,(sizeOf (Zf.elem 276)).run Zf w=.ok 5 w:=λw=>by kernel_rfl
 have e:=λa:N=>run_slice_l a 276 (some (D n m)) l.length i p .i64 ((j:Int)+1) (by omega) (by omega);have f:((j:Int)+1).toNat=j+1:=by omega
 by_cases g:i=j+1
 .have h:l.length=j+1:=by omega
  have hd:l.drop (j+1)=[]:=by rw[<-h,dX]
  refine⟨some (D n m),λa=>?_,by rw[hd];exact Ev⟩;rw[e a,d,f,hd];simp[sliced,g,h]
 refine⟨some ⟨n,m+(j+1)*5,none⟩,λa=>?_,IF o⟩;rw[e a,d,f,tQ];simp[sliced,g,Addr.add]
def Cz(b:TB)(w:N):KT b w w.drew:=⟨rfl,rfl,rfl,jF _,λ_ _ _=>rfl⟩
def Cv(b:TB)(n:Nat)(w:N):GS b n w w.drew:=GS.A ⟨rfl,rfl,rfl,jF _,λ_ _=>rfl⟩
def KT.cell{b:TB}(h:KT b w u){v:Zv}(d:k≠b.K)(c:w.cell? (D k n)=some v):u.cell? (D k n)=some v:=by
 rw[kH (w:=w) (a:=(D k n)) (h.block k (kA c) d)];exact c
def KT.ky{b:TB}(h:KT b w u){a c d e f:Zv}(i:k≠b.K)(g:zY w k n a c d e f):zY u k n a c d e f:=g.same (h.block k g.lt i)
def KL{b:TB}(a8:uP b k)(F:Nat)(H:Nat)(hn:t.E+s.E<=k+1)(S:t.v=0)(h1:s.v=0)(U:t.f=s.f)(y:PA b b.PS w t n a a1 i)(C:PA b b.PT w s m a2 a3 j)(ap:fK b k w):
 Calls Zf 236 #[tv b,pv t n a F a1 i,pv s m a2 H a3 j] w λP c=>P=.returned (.int .i8 (qL t s))/\GS b k w c:=by
 have b8:=ap.lt;have aq:=X a8;have b9:t.e.length<=1000:=by have:=T.length_le t.e;have:=T.M t;have:=y.E;omega
 have ar:=X (jBb y.ok C.ok S h1 U);have HC:=X (λ(e:Nat)(d f:T)(J:t.e[e]? =some d)(K:s.e[e]? =some f)(hp:∀n,n<e->t.e[n]? =s.e[n]?)(x:gt d f=true)=>ML y.ok C.ok S h1 U J K hp x);have HD:=X (λ(e:Nat)(d f:T)(J:t.e[e]? =some d)(K:s.e[e]? =some f)(hp:∀n,n<e->t.e[n]? =s.e[n]?)(bp:d≠f)(x:gt d f=false)=>MK y.ok C.ok S U J K hp bp x);have HE:=X (λ(x:t.e=s.e)=>MM y.ok S h1 U x);obtain⟨au,hZ⟩:=Ze (qL t s);rw[<-hZ] at HC HD HE ⊢;obtain⟨z,I⟩:∃z,z=((w.alloc (.cells #[Zx b.K (b.R*b.C) (b.R*b.C),Y (b.C:Int)] 283)).alloc (.cells #[Y t.v,Y t.f,Zk a t.e F,Y (n:Int),Zk a1 t.e i] 278)).alloc (.cells #[Y s.v,Y s.f,Zk a2 s.e H,Y (m:Int),Zk a3 s.e j] 278):=⟨_,rfl⟩;have a9:Zb w z:=by rw[I];exact((jG _ _).alloc (by simp) _).alloc (by simp;omega) _
 have ba:z.heap.size=w.heap.size+3:=by rw[I];simp
 have s1:∀V,(w.alloc V).heap.size=w.heap.size+1:=λV=>qE _ _;have s2:∀V o',((w.alloc V).alloc o').heap.size=w.heap.size+1+1:=λV o'=>by rw[qE,s1]
 have bc:z.cell? (D w.heap.size 0)=some (Zx b.K (b.R*b.C) (b.R*b.C)):=by rw[I,kW (by rw[s2];omega),kW (by rw[s1];omega),jJ 0 rfl];rfl
 have bd:z.cell? (D w.heap.size 1)=some (Y (b.C:Int)):=by rw[I,kW (by rw[s2];omega),kW (by rw[s1];omega),jJ 1 rfl];rfl
 have av:zY z (w.heap.size+1) 0 (Y t.v) (Y t.f) (Zk a t.e F) (Y (n:Int)) (Zk a1 t.e i):=by
  rw[I];refine(zY.of_heap (g:=278) (f:=(0,0)) ?_).same (zL _ _ _ (by rw[s2];omega));have E:=bR (w.alloc (.cells #[Zx b.K (b.R*b.C) (b.R*b.C),Y (b.C:Int)] 283)) (.cells #[Y t.v,Y t.f,Zk a t.e F,Y (n:Int),Zk a1 t.e i] 278);rw[s1] at E;exact E
 have be:zY z (w.heap.size+1+1) 0 (Y s.v) (Y s.f) (Zk a2 s.e H) (Y (m:Int)) (Zk a3 s.e j):=by
  rw[I];refine zY.of_heap (g:=278) (f:=(0,0)) ?_;have E:=bR ((w.alloc (.cells #[Zx b.K (b.R*b.C) (b.R*b.C),Y (b.C:Int)] 283)).alloc (.cells #[Y t.v,Y t.f,Zk a t.e F,Y (n:Int),Zk a1 t.e i] 278)) (.cells #[Y s.v,Y s.f,Zk a2 s.e H,Y (m:Int),Zk a3 s.e j] 278);rw[s2] at E;exact E
 have hF:=X (λ(c:N)(W:KT b z c)=>(show Zq c w.heap.size 0 (Zx b.K (b.R*b.C) (b.R*b.C))/\Zq c w.heap.size 1 (Y (b.C:Int))/\zY c (w.heap.size+1) 0 (Y t.v) (Y t.f) (Zk a t.e F) (Y (n:Int)) (Zk a1 t.e i)/\zY c (w.heap.size+1+1) 0 (Y s.v) (Y s.f) (Zk a2 s.e H) (Y (m:Int)) (Zk a3 s.e j) from
  ⟨W.cell (by omega) bc,W.cell (by omega) bd,W.ky (by omega) av,W.ky (by omega) be⟩))
 have bq:=X I;have Z:=X a9;have br:=X ba;have cb:Zq z (w.heap.size+1) 4 (Zk a1 t.e i):=av.2.2.2.2;clear a8 I bc bd av be hZ s1 s2 S h1 U a9 ba
 go_in
 go_wp2_with fail
 rw[<-bq.out]
 go_loopw [12] (λiv wr=>∃e:Nat,e<=t.e.length/\iv=Y e/\Hid (∀A,A<e->t.e[A]? =s.e[A]?)/\GS b k z wr) (λiv _=>t.e.length - (intOf iv).toNat)
 case atStart=>exact⟨0,jY _,rfl,λA hi=>by omega,GS.refl _ _ _⟩
 case round=>
  obtain⟨e,W,rfl,HL,Q⟩:=hrel;have L:GS b k w wr:=(GS.A Z).trans Q;have cd:w.heap.size+3<=wr.heap.size:=by have:=Q.kt.size;have:=br.out;omega
  by_cases bf:e<t.e.length
  .have bg:e<s.e.length:=by have:=ar.out;omega
   obtain⟨d,J⟩:=Zg bf;obtain⟨f,K⟩:=Zg bg;obtain⟨ce,bb,ai,rfl,cf,g,h,l,o,p,bs,aj⟩:=(y.kt L.kt).arg J;obtain⟨cg,r,u,rfl,bt,mc,ca,cc,aw,ax,bh,bi⟩:=(C.kt L.kt).arg K;obtain⟨bu,ch,ci,cj,ck⟩:=bs;have bv:=kA bu;have cl:(e:Int)<t.e.length:=(by omega);have cm:(e:Int)<s.e.length:=(by omega);have cn:(0:Int)<=e:=(by omega);have co:e<=1000:=(by omega);have aa:KT b wr (wr.alloc (.cells #[Y d.v,Y d.f,Zk h d.e l,Y (g:Int),Zk o d.e p] 278)):=KT.A (jG wr (.cells #[Y d.v,Y d.f,Zk h d.e l,Y (g:Int),Zk o d.e p] 278))
   have R:=X (λ(c:N)(v:KT b (wr.alloc (.cells #[Y d.v,Y d.f,Zk h d.e l,Y (g:Int),Zk o d.e p] 278)) c)=>(show Zq c w.heap.size 0 (Zx b.K (b.R*b.C) (b.R*b.C))/\Zq c w.heap.size 1 (Y (b.C:Int))/\
    Zq c wr.heap.size 0 (Y d.v)/\Zq c wr.heap.size 1 (Y d.f)/\Zq c wr.heap.size 2 (Zk h d.e l)/\Zq c wr.heap.size 3 (Y (g:Int))/\Zq c wr.heap.size 4 (Zk o d.e p)/\Zq c (w.heap.size+1+1) 4 (Zz r u s.e.length j)/\
    Zq c r (u+e*5) (Y f.v)/\Zq c r (u+e*5+1) (Y f.f)/\Zq c r (u+e*5+2) (Zk ca f.e cc)/\Zq c r (u+e*5+3) (Y (mc:Int))/\Zq c r (u+e*5+4) (Zk aw f.e ax) from by
    obtain⟨f1,f2,_,ft⟩:=hF c ((Q.kt.trans aa).trans v);have bw:zY (wr.alloc (.cells #[Y d.v,Y d.f,Zk h d.e l,Y (g:Int),Zk o d.e p] 278)) wr.heap.size 0 (Y d.v) (Y d.f) (Zk h d.e l) (Y (g:Int)) (Zk o d.e p):=zY.of_heap (bR wr _);obtain⟨z0,z1,z2,z3,z4⟩:=v.ky (by omega) bw;obtain⟨y0,y1,y2,y3,y4⟩:=(aa.trans v).ky bt bh
    exact⟨f1,f2,z0,z1,z2,z3,z4,ft.2.2.2.2,y0,y1,y2,y3,y4⟩))
   have ay:d.E+f.E<=k:=(by omega);have HI:=X (λ(c:N)(v:KT b (wr.alloc (.cells #[Y d.v,Y d.f,Zk h d.e l,Y (g:Int),Zk o d.e p] 278)) c)(ab:fK b k c)=>aq.out d g f mc h l o p ca cc aw ax c ay (aj.kt (aa.trans v)) (bi.kt (aa.trans v)) (ab.mono ay));have HT:Hid (fK b k (wr.alloc (.cells #[Y d.v,Y d.f,Zk h d.e l,Y (g:Int),Zk o d.e p] 278))):=(ap.gs L).gs (GS.A (jG wr (.cells #[Y d.v,Y d.f,Zk h d.e l,Y (g:Int),Zk o d.e p] 278)));have Ha:=X J;have Hc:=X K;have Hg:=X (Q.trans (GS.A (jG wr (.cells #[Y d.v,Y d.f,Zk h d.e l,Y (g:Int),Zk o d.e p] 278))));have bj:=X L;have bk:=X (show qL d f=1->gt d f=true from λx=>rU.1 x);have bl:=X (show qL d f=2->d=f from λx=>(Og aj.ok).1 x);have bm:=X (show qL d f=3->d≠f/\gt d f=false from λx=>MH aj.ok x);have ac:=X (Uw d f);obtain⟨cp,B⟩:=Ze (qL d f);rw[<-B] at HI bk bl bm ac;have ak:=X (R.out (wr.alloc (.cells #[Y d.v,Y d.f,Zk h d.e l,Y (g:Int),Zk o d.e p] 278)).drew (Cz b _));have al:=X (R.out (wr.alloc (.cells #[Y d.v,Y d.f,Zk h d.e l,Y (g:Int),Zk o d.e p] 278)) (KT.refl _ _));have am:=X (HI.out (wr.alloc (.cells #[Y d.v,Y d.f,Zk h d.e l,Y (g:Int),Zk o d.e p] 278)).drew (Cz b _) (HT.out.gs (Cv b k _)));have cq:bb<wr.heap.size:=bv;clear aj bi bh J K Q L B aa
   go_wp2_with fail
   go_region_held3 (λc=>Zq c w.heap.size 0 (Zx b.K (b.R*b.C) (b.R*b.C))/\Zq c w.heap.size 1 (Y (b.C:Int))/\
    Zq c wr.heap.size 0 (Y d.v)/\Zq c wr.heap.size 1 (Y d.f)/\Zq c wr.heap.size 2 (Zk h d.e l)/\Zq c wr.heap.size 3 (Y (g:Int))/\Zq c wr.heap.size 4 (Zk o d.e p)/\Zq c (w.heap.size+1+1) 4 (Zz r u s.e.length j)/\
    Zq c r (u+e*5) (Y f.v)/\Zq c r (u+e*5+1) (Y f.f)/\Zq c r (u+e*5+2) (Zk ca f.e cc)/\Zq c r (u+e*5+3) (Y (mc:Int))/\Zq c r (u+e*5+4) (Zk aw f.e ax)) ((first|with_reducible exact R.out _ (zZ bx)|with_reducible exact ak.out|with_reducible exact al.out|go_keep)) ((
    go_at_call 226
    refine am.mono ?_;rintro P q ⟨rfl,bz⟩;have bn:Hid (GS b k (wr.alloc (.cells #[Y d.v,Y d.f,Zk h d.e l,Y (g:Int),Zk o d.e p] 278)) q):=(Cv b k _).trans (bz.mono ay)
    have bx:Hid (KT b (wr.alloc (.cells #[Y d.v,Y d.f,Zk h d.e l,Y (g:Int),Zk o d.e p] 278)) q):=bn.kt))
   have M:=X (Hg.trans bn);have bo:Hid (fK b k q):=(ap.gs (GS.A Z.out)).gs M.out;have an:=X ((KT.A Z.out).trans M.out.kt);have az:True:=trivial;have cr:IntKind.i64.wrap ((e:Int)+1)=(e:Int)+1:=iS _ (by omega) (by omega);rcases ac.out with B|B|B
   .have ao:=X (bk.out B)
    subst B;obtain⟨b0,b1,a0⟩:=DD C.pl C.cap bg;have ad:=X (HC.out e d f Ha.out Hc.out HL.out ao.out);have b2:=C.sub.drop (e+1)
    have HA:=X (λ(c:N)(v:KT b q c)(ab:fK b k c)=>Tj aq.out F (j - (e+1)) (λb3 hx=>by
     have ae:=Eo hx;have E:=xJ ae;have h8:=C.E
     exact⟨xF C.ok ae,by omega,by omega⟩) (by rw[tQ];have:=ar.out;omega) (Ca (an.out.trans v) a0) b2 (y.kt (an.out.trans v)) ab)
    have O:=X (λ(c:N)(v:KT b q c)=>(show Zq c w.heap.size 0 (Zx b.K (b.R*b.C) (b.R*b.C))/\Zq c w.heap.size 1 (Y (b.C:Int))/\Zq c (w.heap.size+1) 0 (Y t.v)/\Zq c (w.heap.size+1) 1 (Y t.f)/\Zq c (w.heap.size+1) 2 (Zk a t.e F)/\Zq c (w.heap.size+1) 3 (Y (n:Int))/\Zq c (w.heap.size+1) 4 (Zz bb ai t.e.length i)/\Zq c (w.heap.size+1+1) 4 (Zz r u s.e.length j) from by
     obtain⟨f1,f2,⟨s0,s1,s2,s3,s4⟩,⟨t0,t1,t2,t3,t4⟩⟩:=hF.out c (M.out.kt.trans v)
     exact⟨f1,f2,s0,s1,s2,s3,s4,t4⟩))
    obtain⟨af,G⟩:∃af:Int,af=au:=⟨_,rfl⟩;have HR:=X G;rw[ad.out] at G;rw[<-G] at HA;have ag:=X (HA.out q.drew (Cz b _) (bo.out.gs (Cv b k _)));rw[tQ] at ag;have a4:=X (O.out q.drew (Cz b _));have a5:=X (O.out q (KT.refl _ _));clear G R al ak ac HI am HT az HA
    go_wp2_with fail
    go_region_held3 (λc=>Zq c w.heap.size 0 (Zx b.K (b.R*b.C) (b.R*b.C))/\Zq c w.heap.size 1 (Y (b.C:Int))/\Zq c (w.heap.size+1) 0 (Y t.v)/\Zq c (w.heap.size+1) 1 (Y t.f)/\Zq c (w.heap.size+1) 2 (Zk a t.e F)/\Zq c (w.heap.size+1) 3 (Y (n:Int))/\Zq c (w.heap.size+1) 4 (Zz bb ai t.e.length i)/\Zq c (w.heap.size+1+1) 4 (Zz r u s.e.length j)) ((first|with_reducible exact O.out _ (zZ a6)|with_reducible exact a4.out|with_reducible exact a5.out|go_keep)) ((
     go_at_call 235
     refine ag.out.mono ?_;rintro P w5 ⟨rfl,a7⟩;have ah:Hid (GS b k q w5):=(Cv b k _).trans a7
     have a6:Hid (KT b q w5):=ah.out.kt))
    go_wp2;go_ret;exact⟨dQ HR.out,(GS.A Z.out).trans (M.out.trans ah.out)⟩
   .have b4:=X (bl.out B)
    subst B;clear R al ak ac HI am HT az
    go_wp2_with fail
    go_roundw
    case rel=>exact⟨e+1,by omega,by go_num,λA hi=>by
     rcases xW A e with E|E
     .exact HL A E
     have:A=e:=by omega
     subst this
     rw[Ha.out,Hc.out,b4.out],M⟩
    case measure=>simp[intOf];omega
   have ao:=X (bm B);subst B;obtain⟨b0,b1,a0⟩:=DD y.pl y.cap bf;have ad:=X (HD.out e d f Ha.out Hc.out HL.out ao.out.1 ao.out.2);have b5:=y.sub.drop (e+1)
   have HA:=X (λ(c:N)(v:KT b q c)(ab:fK b k c)=>Um aq.out (i - (e+1)) H (λb3 hx=>by
    have ae:=Eo hx;have E:=xJ ae;have h8:=y.E
    exact⟨xF y.ok ae,by omega,by omega⟩) (by rw[tQ];omega) (Ca (an.out.trans v) a0) b5 (C.kt (an.out.trans v)) ab)
   have O:=X (λ(c:N)(v:KT b q c)=>(show Zq c w.heap.size 0 (Zx b.K (b.R*b.C) (b.R*b.C))/\Zq c w.heap.size 1 (Y (b.C:Int))/\Zq c (w.heap.size+1) 4 (Zz bb ai t.e.length i)/\Zq c (w.heap.size+1+1) 0 (Y s.v)/\Zq c (w.heap.size+1+1) 1 (Y s.f)/\Zq c (w.heap.size+1+1) 2 (Zk a2 s.e H)/\Zq c (w.heap.size+1+1) 3 (Y (m:Int))/\Zq c (w.heap.size+1+1) 4 (Zz r u s.e.length j) from by
    obtain⟨f1,f2,⟨s0,s1,s2,s3,s4⟩,⟨t0,t1,t2,t3,t4⟩⟩:=hF.out c (M.out.kt.trans v)
    exact⟨f1,f2,s4,t0,t1,t2,t3,t4⟩))
   obtain⟨af,G⟩:∃af:Int,af=au:=⟨_,rfl⟩;have HR:=X G;rw[ad.out] at G;rw[<-G] at HA;have ag:=X (HA.out q.drew (Cz b _) (bo.out.gs (Cv b k _)));rw[tQ] at ag;have a4:=X (O.out q.drew (Cz b _));have a5:=X (O.out q (KT.refl _ _));clear G R al ak ac HI am HT az HA
   go_wp2_with fail
   go_region_held3 (λc=>Zq c w.heap.size 0 (Zx b.K (b.R*b.C) (b.R*b.C))/\Zq c w.heap.size 1 (Y (b.C:Int))/\Zq c (w.heap.size+1) 4 (Zz bb ai t.e.length i)/\Zq c (w.heap.size+1+1) 0 (Y s.v)/\Zq c (w.heap.size+1+1) 1 (Y s.f)/\Zq c (w.heap.size+1+1) 2 (Zk a2 s.e H)/\Zq c (w.heap.size+1+1) 3 (Y (m:Int))/\Zq c (w.heap.size+1+1) 4 (Zz r u s.e.length j)) ((first|with_reducible exact O.out _ (zZ a6)|with_reducible exact a4.out|with_reducible exact a5.out|go_keep)) ((
    go_at_call 234
    refine ag.mono ?_;rintro P w5 ⟨rfl,a7⟩;have ah:Hid (GS b k q w5):=(Cv b k _).trans a7
    have a6:Hid (KT b q w5):=ah.kt))
   go_wp2;go_ret;exact⟨dQ HR,(GS.A Z).trans (M.trans ah)⟩
  have b6:e=t.e.length:=by omega
  subst b6
  have ad:Hid (au=2):=HE (oB (λA=>by
   rcases xW A t.e.length with x|x
   .exact HL A x
   rw[yZ x,yZ (by have:=ar.out;omega)]))
  have bj:=X L;clear Q L;have b7:=ad.out;subst b7;go_wp2;go_ret;exact⟨rfl,bj⟩
def Ci(w:N)(o1 o2 a:Obj):Zb w (((w.alloc o1).alloc o2).alloc a):=(kF w o1 o2).alloc (by simp;omega) a
def KM{c:TB}(p:uP c k)(A:Nat)(B:Nat)(E:t.E+s.E<=k+1)(d:PA c c.PS w t n a a1 i)(e:PA c c.PT w s m a2 a3 j)(q:fK c k w):
 Calls Zf 232 #[tv c,pv t n a A a1 i,pv s m a2 B a3 j] w λv F=>v=.returned (.int .i8 (qL t s))/\GS c k w F:=by
 have G:t.e.length<=1000:=by have:=T.length_le t.e;have:=T.M t;have:=d.E;omega
 have H:s.e.length<=1000:=by have:=T.length_le s.e;have:=T.M s;have:=e.E;omega
 have f:=λo1 o2 b=>Ci w o1 o2 b;have g:=λo1 o2 b=>KT.A (b:=c) (Ci w o1 o2 b);by_cases h:t.v=0
 .have I:(t.v !=0)=false:=by simpa using h
  by_cases r:s.v≠0\/t.f<s.f
  .have x:=X (MJ d.ok e.ok h r)
   have HA:=X (λo1 o2 b=>Um p i B (λJ y=>by
    have l:=xJ y;have o:=d.E
    exact⟨xF d.ok y,by omega,by omega⟩) G (Ca (g o1 o2 b) d.pl) d.sub (e.kt (g o1 o2 b)) (q.gs (GS.A (f o1 o2 b))))
   have u:=X (λo1 o2 b=>GS.A (b:=c) (k:=k) (f o1 o2 b));obtain⟨Z,o⟩:=Ze (qL t s);rw[<-x.out,<-o] at HA;rw[<-o];clear x o f g p d e q h;by_cases l:s.v=0
   .have K:(s.v !=0)=false:=by simpa using l
    have M:=r.resolve_left (λz=>z l);clear r l
    go_in
    go_wp2_with fail
    refine(HA _ _ _).mono ?_;rintro v L ⟨rfl,z⟩;have C:=X ((u _ _ _).trans z);clear z
    go_wp2_with fail
    go_ret;exact⟨rfl,C⟩
   have K:(s.v !=0)=true:=(by simpa using l);clear r l
   go_in
   go_wp2_with fail
   refine(HA _ _ _).mono ?_;rintro v L ⟨rfl,z⟩;have C:=X ((u _ _ _).trans z);clear z
   go_wp2_with fail
   go_ret;exact⟨rfl,C⟩
  have l:s.v=0:=by
   rcases Classical.em (s.v=0) with z|z
   .exact z
   exact jN (jD z) r
  have K:=λz=>r (jE z);have L:(s.v !=0)=false:=by simpa using l
  by_cases C:s.f<t.f
  .have x:=X (MI d.ok e.ok h l C)
   have HA:=X (λo1 o2 b=>Tj p A j (λJ y=>by
    have z:=xJ y;have J:=e.E
    exact⟨xF e.ok y,by omega,by omega⟩) H (Ca (g o1 o2 b) e.pl) e.sub (d.kt (g o1 o2 b)) (q.gs (GS.A (f o1 o2 b))))
   have u:=X (λo1 o2 b=>GS.A (b:=c) (k:=k) (f o1 o2 b));obtain⟨Z,o⟩:=Ze (qL t s);rw[<-x.out,<-o] at HA;rw[<-o];clear x o f g p d e q h l r
   go_in
   go_wp2_with fail
   refine(HA _ _ _).mono ?_;rintro v J ⟨rfl,x⟩;have y:=X ((u _ _ _).trans x);clear x
   go_wp2_with fail
   go_ret;exact⟨rfl,y⟩
  have z:t.f=s.f:=by omega
  have HA:=X (λo1 o2 b=>KL p A B E h l z (d.kt (g o1 o2 b)) (e.kt (g o1 o2 b)) (q.gs (GS.A (f o1 o2 b))));have u:=X (λo1 o2 b=>GS.A (b:=c) (k:=k) (f o1 o2 b));obtain⟨Z,o⟩:=Ze (qL t s);rw[<-o] at HA ⊢;clear o f g p d e q h l r z
  go_in
  go_wp2_with fail
  refine(HA _ _ _).mono ?_;rintro v J ⟨rfl,x⟩;have y:=X ((u _ _ _).trans x);clear x
  go_wp2_with fail
  go_ret;exact⟨rfl,y⟩
 have I:(t.v !=0)=true:=by simpa using h
 have l:=X (MN d.ok e.ok h);obtain⟨Z,o⟩:=Ze (qL t s);rw[<-o] at l ⊢;have r:=X (λo1 o2 b=>GS.A (b:=c) (k:=k) (f o1 o2 b));by_cases b:t.v=s.v
 .have u:(t.v==s.v)=true:=by simpa using b
  obtain rfl:Z=2:=by rw[l.out,jB b]
  clear o f g p d e q h b l
  go_in
  go_wp2_with fail
  go_ret;exact⟨rfl,r _ _ _⟩
 have u:(t.v==s.v)=false:=by simpa using b
 obtain rfl:Z=3:=by rw[l.out,jC b]
 clear o f g p d e q h b l
 go_in
 go_wp2_with fail
 go_ret;exact⟨rfl,r _ _ _⟩
def Uo{v:Zv}(a:Zb w u)(h:w.cell? (D k n)=some v):u.cell? (D k n)=some v:=by
 rw[a.cell (kA h)];exact h
def WL{c:TB}(v:n<c.R)(x:m<c.C)(j:c.PS[n]? =some t)(l:c.PT[m]? =some s)(A:t.E+s.E=k+1)(o:GS c k w u):GS c (k+1) w (u.setCell (D c.K (n*c.C+m)) (.int .i8 (qL t s))):=by
 refine⟨o.kt.set _ _,λM a p=>?_⟩;obtain⟨B,y,z,q⟩:=o.st M a (p.mono (by omega));refine⟨_,y.set v x (qL t s),λf g d e a b r=>?_,λf g d e a b r=>?_⟩
 .by_cases h:f=n/\g=m
  .obtain⟨rfl,rfl⟩:=h
   rw[j] at a;rw[l] at b;obtain rfl:t=d:=kT a;obtain rfl:s=e:=kT b;simp
  simp only[jC h];rcases xW k (d.E+e.E) with i|i
  .rw[q f g d e a b i];exact p f g d e a b r
  exact z f g d e a b i
 have h:¬(f=n/\g=m):=λh=>by
  obtain⟨rfl,rfl⟩:=h;rw[j] at a;rw[l] at b;obtain rfl:t=d:=kT a;obtain rfl:s=e:=kT b;omega
 simp only[jC h];exact q f g d e a b (by omega)
def TN{b:TB}(g:b.Ok):∀n,uP b n:=by
 intro n;induction n with
 |zero=>intro s i t j v l x y z m A B w P;have:=s.I;omega
 |succ n C=>
  intro s i t j v l x y z m A B w P d e E;rcases xW n (s.E+t.E) with F|F
  .have G:s.E+t.E=n+1:=by omega
   rw[G] at E ⊢;have H:i<b.R:=by
    rw[g.hR];rcases xW i b.PS.length with h|h
    .exact h
    have:=d.num;rw[yZ h] at this;cases this
   have I:j<b.C:=by
    rw[g.hC];rcases xW j b.PT.length with h|h
    .exact h
    have:=e.num;rw[yZ h] at this;cases this
   have Q:=E;obtain⟨W,h,J⟩:=E;have ad:=g.r1;have ae:=g.c1;have Z:=My ad ae;have R:=Xc H I;obtain⟨p,K⟩:=Ze (i*b.C);obtain⟨q,L⟩:=Ze (p+j);have o:i*b.C+j=q:=(by rw[L,K]);have ai:IntKind.i64.wrap ((i:Int)*(b.C:Int))=(p:Int):=by
    have a:((i:Int)*(b.C:Int))=(p:Int):=(by rw[K,Int.natCast_mul]);rw[a];exact iS _ (by omega) (by omega)
   have aj:IntKind.i64.wrap ((p:Int)+(j:Int))=(q:Int):=by
    have a:((p:Int)+(j:Int))=(q:Int):=(by rw[L];omega);rw[a];exact iS _ (by omega) (by omega)
   have c:=h.jg i j H I;have fE:=h.fr q;have lK:=h.lt;rw[o] at c R;have af:=X o;obtain⟨S,r⟩:=Ze (b.R*b.C);have ak:=X r;have al:(0:Int)<=(q:Int):=(by omega);have am:(q:Int)<(S:Int):=(by omega);show Calls Zf 226 #[.agg #[Zx b.K (b.R*b.C) (b.R*b.C),Y (b.C:Int)],pv s i v l x y,pv t j z m A B] w _;rw[<-r];have f:=λo1 o2 a=>Ci w o1 o2 a;have HB:=X (λo1 o2 a=>GS.A (b:=b) (k:=n+1) (f o1 o2 a));have M:=X (show qL s t≠0 from by rcases Uw s t with U|U|U<;>rw[U]<;>decide);by_cases O:W i j=0
   .rw[O] at c
    have HA:=X (λo1 o2 a=>(show Calls Zf 232 #[.agg #[Zx b.K S S,Y (b.C:Int)],pv s i v l x y,pv t j z m A B] (((w.alloc o1).alloc o2).alloc a) (λaa k=>aa=.returned (.int .i8 (qL s t))/\GS b n (((w.alloc o1).alloc o2).alloc a) k) from by rw[r];exact KM C l m (by omega) (d.kt (KT.A (f o1 o2 a))) (e.kt (KT.A (f o1 o2 a))) ((Q.mono (by omega)).gs (GS.A (f o1 o2 a)))));have V:=X (λk(u:GS b n w k)=>WL H I d.num e.num G u)
    have ab:=X (λk(u:GS b n w k)=>(show(∃ac,Zq k b.K q (.int .i8 ac))/\k.frozen? (D b.K q)=false from by
     obtain⟨M',g1,_,_⟩:=u.st W h (J.mono (by omega));have u:=g1.jg i j H I;rw[o] at u
     exact⟨⟨_,u⟩,g1.fr q⟩))
    have ag:=X (λo1 o2 a=>GS.A (b:=b) (k:=n) (f o1 o2 a));obtain⟨ac,u⟩:=Ze (qL s t);rw[<-u] at HA V ⊢;have ah:=λo1 o2 a=>Uo (Ci w o1 o2 a) c;clear u M HB f h J Q d e C O r o K L Z R G F P g c
    go_in
    go_wp2_with fail
    with_reducible refine(HA.out _ _ _).mono ?_
    rintro aa k ⟨rfl,k⟩;have aa:=X ((ag _ _ _).trans k);obtain⟨⟨v4,c4⟩,f4⟩:=ab _ aa;have HF:=X (V _ aa);rw[af.out] at HF;clear k V ab HA;go_wp2;go_ret;exact⟨rfl,HF⟩
   have k:=(J i j s t d.num e.num (by omega)).resolve_left O;rw[k] at c;obtain⟨ac,u⟩:=Ze (qL s t);rw[<-u] at c M ⊢;have V:(ac==0)=false:=(by simpa using M.out);have ah:=λo1 o2 a=>Uo (Ci w o1 o2 a) c;clear u M f h J Q d e C O r o K L Z R G F P g k c
   go_in
   go_wp2;go_ret;exact⟨rfl,HB _ _ _⟩
  exact C s i t j v l x y z m A B w F d e E
theorem Tryz.underlying281:Zf.underlying 281=some (.slice 102):=by kernel_rfl
theorem Tryz.info102:(Zf.info? 102).map (λi=>(i.zero,i.size,i.bytes))=some (some (.int .i8 0),1,1):=by kernel_rfl
def Dk(n:Nat):Zy:=madeCells #[.int .i8 0] (n*1)
def jAw(n:Nat)(g:n<=1000000)(w:N):(Instr.makeSlice 281 (Y (n:Int)) (Y (n:Int))).run Zf w=.ok (Zx w.heap.size n n) (w.alloc (.cells (Dk n) 102)):=by
 obtain⟨i,c,a⟩:=bQ.1 Tryz.info102;simp only[bG] at a;obtain⟨d,e,f⟩:=a;have b:=run_make w 281 102 i _ Tryz.underlying281 c d .i64 .i64 n n (by omega) (mE _) (by rw[f];omega) (by omega);simp only[pK,e] at b;exact b
def ZX(h:n<k):(Dk k)[n]? =some (.int .i8 0):=by
 simp[Dk,madeCells,h,Nat.mod_one]
def BC(t:T):(pre t)[0]? =some t:=by rw[Lg];rfl
def BE(t:T):sR (pre t) 1 t.e:=⟨[],by rw[Lg,zU];rfl⟩
def BD(t:T):(pre t).length=t.E:=(Qe _).1 t (jF _)
def Yt(b:Nat)(f:t.E<=120)(g:∀k,p k->k<w.heap.size)(i:jT p w t.e a):
 Calls Zf 225 #[.agg (Zj t a b),Y 0] w λj c=>
  ∃d e,j=.returned (.tuple #[.agg #[Y t.v,Y t.f,.slice a t.e.length b,Y 0,.slice d t.e.length e],Y (t.E:Int)])/\
   t.e.length<=e/\PL (λk=>w.heap.size<=k) p c t.e 1 d/\Zb w c:=by
 have h:=XG p 120 t 0 a b w f (by omega) (by omega) g i;rw[kK,kK] at h;exact h
def RP{ar:Zn}(q:Nat)(i:Nat)(S:jQ ar t)(U:jQ ar s)(V:t.E<=120)(W:s.E<=120)(F:InL w t.e a)(G:InL w s.e a1):
 Calls Zf 212 #[.agg #[Y t.v,Y t.f,.slice a t.e.length q],.agg #[Y s.v,Y s.f,.slice a1 s.e.length i]] w λj H=>j=.returned (.bool (gt t s))/\Zb w H:=by
 have d:t.E*s.E<=14400:=My V W;obtain⟨f,b⟩:=Ze (t.E*s.E);have aq:IntKind.i64.wrap ((t.E:Int)*(s.E:Int))=(f:Int):=by
  have j:((t.E:Int)*(s.E:Int))=(f:Int):=by rw[b,Int.natCast_mul]
  rw[j];exact iS _ (by omega) (by omega)
 have au:=jAw f (by omega);have Z:=X b;have c:=X (λo1 o2=>Yt q V (λp r=>by have r:p<w.heap.size:=r;simp;omega) (jS o2 (jS o1 (kQ (λ_ u=>u.2) (lE F)))));clear b d
 go_in
 go_wp2_with fail
 refine(c _ _).mono ?_;rintro j h ⟨x,y,rfl,d,e,b⟩;have ak:=b.size;simp at ak;have I:Zb w h:=(kF _ _ _).trans (b.mono (by simp;omega));have al:jK h (w.heap.size+1) (Y s.v) (Y s.f) (.slice a1 s.e.length i):=(jK.new 43 (by simp)).below b;obtain⟨d0,d1,d2,_,_,_⟩:=al;have av:w.heap.size+1<h.heap.size:=by omega
 have H2:=X (λo=>Yt i W (λp r=>by have r:p<w.heap.size:=r;simp;omega) (jS o (jI I (kQ (λ_ u=>u.2) (lE G)))));have aa:=X e;have ab:=X d;clear c e b d
 go_wp2_with fail
 refine(H2 _).mono ?_;rintro j b ⟨k,l,rfl,ac,ad,z⟩;have am:=z.size;simp at am;have J:Zb h b:=(jG _ _).trans (z.mono (by simp));have aw:Zb w b:=I.trans (J.mono (by omega));obtain⟨d,v⟩:∃d,d=((b.alloc (.cells #[Y s.v,Y s.f,.slice a1 s.e.length i,Y 0,.slice k s.e.length l] 278)).alloc (.cells (Dk f) 102)).alloc (.cells #[.slice (some ⟨b.heap.size+1,0,none⟩) f f,Y (s.E:Int)] 283):=⟨_,rfl⟩;have A:Zb b d:=by rw[v];exact((jG _ _).alloc (by simp) _).alloc (by simp;omega) _
 have B:Zb h d:=J.trans (A.mono (by omega));have E:Zb w d:=I.trans (B.mono (by omega));have L:∀o,(b.alloc o).heap.size=b.heap.size+1:=λo=>qE _ _;have M:∀o c,((b.alloc o).alloc c).heap.size=b.heap.size+1+1:=λo c=>by rw[qE,L]
 have an:d.heap.size=b.heap.size+1+1+1:=by rw[v,qE,M]
 have O:d.heap[b.heap.size+1]? =some (.cells (Dk f) 102):=by
  rw[v,zL _ _ _ (by rw[M];omega)];have c:=bR (b.alloc (.cells #[Y s.v,Y s.f,.slice a1 s.e.length i,Y 0,.slice k s.e.length l] 278)) (.cells (Dk f) 102);rw[L] at c;exact c
 obtain⟨g,e⟩:∃g:TB,g={K:=b.heap.size+1,R:=t.E,C:=s.E,PS:=pre t,PT:=pre s,ar:=ar}:=⟨_,rfl⟩;have m:∀c,c<b.heap.size+1->g.q c:=λc n=>by
  subst e;show c≠b.heap.size+1;omega
 have ae:g.Ok:=by
  subst e;exact⟨(BD t).symm,(BD s).symm,by show t.E<=1000;omega,by show s.E<=1000;omega⟩
 have af:PA g g.PS d t 0 a x y:=by
  refine⟨by subst e;exact S,by subst e;exact BC t,by subst e;exact BE t,?_,?_,by omega,ab⟩
  .exact kQ (λn P=>m n (by have:=P.2;omega)) (jI E (lE F))
  exact Jc (λc o P Q n=>⟨m c (by have:=kA n;omega),by rw[B.cell (kA n)];exact n⟩) (λc o P Q n=>⟨m c (by have:=kA n;omega),by rw[B.cell (kA n)];exact n⟩) _ _ _ _ (jF _) aa
 have ag:PA g g.PT d s 0 a1 k l:=by
  refine⟨by subst e;exact U,by subst e;exact BC s,by subst e;exact BE s,?_,?_,by omega,ac⟩
  .exact kQ (λn P=>m n (by have:=P.2;omega)) (jI E (lE G))
  exact Jc (λc o P Q n=>⟨m c (by have:=kA n;omega),by rw[A.cell (kA n)];exact n⟩) (λc o P Q n=>⟨m c (by have:=kA n;omega),by rw[A.cell (kA n)];exact n⟩) _ _ _ _ (jF _) ad
 have ah:fK g (t.E+s.E) d:=by
  refine⟨λ_ _=>0,?_,λ_ _ _ _ _ _ _=>jD rfl⟩;subst e;refine⟨λc n o P=>?_,λp=>iG O p,by show b.heap.size+1<_;omega⟩;show d.cell? ⟨b.heap.size+1,c*s.E+n,none⟩=some (.int .i8 0);have p:c*s.E+n<f:=by rw[Z.out];exact Xc (show c<t.E from o) (show n<s.E from P)
  simp[World.cell?,O,ZX p]
 have ai:=TN ae (t.E+s.E) t 0 s 0 a q x y a1 i k l d (jF _) af ag ah
 have HG:Hid (Calls Zf 226 #[.agg #[.slice (some ⟨b.heap.size+1,0,none⟩) f f,Y (s.E:Int)],.agg #[Y t.v,Y t.f,.slice a t.e.length q,Y 0,.slice x t.e.length y],.agg #[Y s.v,Y s.f,.slice a1 s.e.length i,Y 0,.slice k s.e.length l]] d λj H=>
  j=.returned (.int .i8 (qL t s))/\GS g (t.E+s.E) d H):=by
  rw[Z.out];subst e;exact ai
 have aj:zY b h.heap.size 0 (Y t.v) (Y t.f) (.slice a t.e.length q) (Y 0) (.slice x t.e.length y):=(zY.of_heap (bR h _)).same (z.block h.heap.size (by simp));have n:=λo1 o2 c=>aj.same ((Ci b o1 o2 c).block h.heap.size (by omega));have a0:=λo1 o2 c=>(n o1 o2 c).1;have ax:=λo1 o2 c=>(n o1 o2 c).2.1;have a2:=λo1 o2 c=>(n o1 o2 c).2.2.1;have a3:=λo1 o2 c=>(n o1 o2 c).2.2.2.1;have a4:=λo1 o2 c=>(n o1 o2 c).2.2.2.2;have o:=λo2 c=>(zY.of_heap (bR b (.cells #[Y s.v,Y s.f,.slice a1 s.e.length i,Y 0,.slice k s.e.length l] 278))).same ((kF (b.alloc (.cells #[Y s.v,Y s.f,.slice a1 s.e.length i,Y 0,.slice k s.e.length l] 278)) o2 c).block b.heap.size (by simp));have c0:=λo2 c=>(o o2 c).1;have c1:=λo2 c=>(o o2 c).2.1;have c2:=λo2 c=>(o o2 c).2.2.1;have c3:=λo2 c=>(o o2 c).2.2.2.1;have c4:=λo2 c=>(o o2 c).2.2.2.2;have ay:h.heap.size<b.heap.size:=by omega
 have p:=X E;have ao:Hid (∀c,c<w.heap.size->c≠g.K):=λc P=>by
  subst e;show c≠b.heap.size+1;omega
 have ap:=X v
 have Hz:=X (show(qL t s==1)=gt t s from by
  cases Q:gt t s with
  |true=>rw[rU.2 Q];rfl
  |false=>rw[beq_eq_false_iff_ne];exact λu=>by rw[rU.1 u] at Q;cases Q)
 obtain⟨Q,u⟩:=Ze (qL t s);rw[<-u] at HG Hz;clear ai af ag ah ae m e E B A v O L M an u ad ac z J H2 aa ab F G S U d0 d1 d2 aj n o
 go_wp2_with fail
 rw[<-ap.out]
 with_reducible refine HG.out.mono ?_
 rintro j m ⟨rfl,e⟩;have n:Hid (Zb w m):=⟨e.kt.os.trans p.os,e.kt.tape.trans p.tape,e.kt.output.trans p.output,kN p.size e.kt.size,λc P=>(e.kt.block c (by have:=p.size;omega) (ao c P)).trans (p.block c P)⟩;clear e;go_wp2;go_ret;exact⟨vO Hz,n⟩
def Cs(a:Zn)(s t:T):Bool:=decide (kI a [s,t]=0) && gt s t
def EX(a:Zn)(l:Zo)(m:Nat)(s:T)(g:Zo)(c:Nat)(t:T)(i:Zo)(d:Nat)(w:N)(x:jV w a l)(n:InL w s.e g)(o:InL w t.e i):
 Calls Zf 198 #[.agg #[.slice l a.length m],.agg (Zj s g c),.agg (Zj t i d)] w λj y=>
  j=.returned (.tuple #[.bool (Cs a s t),Y (kI a [s,t])])/\Zb w y:=by
 have p:=X (λo1 o2 b=>YJ m c d (qD b (qD o2 (qD o1 x))) (jS b (jS o2 (jS o1 n))) (jS b (jS o2 (jS o1 o))));obtain⟨E,b⟩:=Ze (kI a [s,t]);obtain⟨G,e⟩:=Ze (Cs a s t);rw[<-b] at p ⊢;rw[<-e];have k:=X b;have q:=X e;clear b e
 go_in
 go_wp2_with fail
 refine(p _ _ _).mono ?_;rintro j e ⟨rfl,b⟩;have F:w.heap.size+3<=e.heap.size:=by have:=b.size;simp at this;omega
 have f:Zb w e:=(((jG _ _).alloc (by simp) _).alloc (by simp;omega) _).trans (b.mono (by simp;omega));have z:jK e (w.heap.size+1) (Y s.v) (Y s.f) (Zk g s.e c):=((jK.new _ (by simp)).alloc _).below b;have A:jK e (w.heap.size+1+1) (Y t.v) (Y t.f) (Zk i t.e d):=(jK.new _ (by simp)).below b;obtain⟨H,I,J,_,_,_⟩:=z;obtain⟨K,L,M,_,_,_⟩:=A;clear b;by_cases h:E=0
 .obtain⟨b,r,u,v⟩:=oT (k.symm.trans h)
  have B:=X (RP c d r v b u (jI f n) (jI f o));have C:Hid (gt s t=G):=by show _=_;rw[q.out,Cs,iE (k.out.symm.trans h),rA]
  subst h;clear b r u v
  go_wp2_with fail
  refine B.mono ?_;rintro j v ⟨rfl,b⟩;rw[C.out];have r:=X (f.trans (b.mono (by omega)));clear b;go_wp2
  go_ret2
  exact⟨rfl,r⟩
 have O:(E !=0)=true:=by simpa using h
 have b:G=false:=by rw[q.out,Cs,cX (λu=>h (k.out.trans u)),Ea]
 subst b;clear h;go_wp2
 go_ret2
 exact⟨rfl,f⟩
def Np(h:qT r=0)(t:T):kI r [t]=kP r t:=by
 rw[kI,jB h,bN];by_cases a:kP r t=0
 .rw[jB a,a];rfl
 rw[jC a]
def LJ(b:Zn)(j:Zo)(l:Nat)(a:Zs)(s:Zo)(C:Nat)(w:N)(E:Zp)(R:a.length<=9223372036854775807)(t:jV w b j)(p:xV E w a s):
 Calls Zf 222 #[.agg #[.slice j b.length l],.slice s a.length C] w λq F=>q=.returned (Y (gE b a))/\Zb w F:=by
 go_in
 go_wp2_with fail
 refine(Lo l (qD _ t)).mono ?_;rintro q r ⟨rfl,c⟩;have S:w.heap.size<r.heap.size:=by have:=c.size;simp at this;omega
 have m:=(jG _ _).trans (c.mono (by simp));have G:r.cell? (D w.heap.size 0)=some (Zk j b l):=by
  rw[c.cell (by simp),jJ _ rfl];rfl
 clear c;by_cases d:qT b=0
 .have h:gE b a=lI b 0 a:=by rw[gE,jB d]
  have e:=X h;have H:=X (Np d);rw[d];clear h d;go_wp2
  go_loopw [6,17] (λc i wr=>∃(k:Nat),k<=a.length/\i=Y k/\c=Y (Fv a k)/\Hid (lI b 0 a=lI b (Fv a k) (a.drop k))/\Zb r wr) (λ_ i _=>a.length - (intOf i).toNat)
  case atStart=>exact⟨0,jY _,rfl,rfl,rfl,jW _ _⟩
  case round=>
   obtain⟨k,U,rfl,rfl,n,f⟩:=hrel;have I:=f.size;have u:=m.trans (f.mono (by omega));by_cases J:k<a.length
   .have v:=gW f (gW m p)
    have K:=X (kD f (kD m t));obtain⟨V,W,rfl⟩:=Gv p (by omega);obtain⟨x,i⟩:=Zg J;obtain⟨L,M,_,O,Z,c2,c3,y⟩:=Gu v i;have c:=X (n.trans (KZ i));have z:=X (UC i);have aa:=jP f G;have ab:w.heap.size<wr.heap.size:=(by omega);have ac:(k:Int)<a.length:=(by omega);have ad:(0:Int)<=k:=(by omega);have A:=X (λo=>iW b j l x.2 L M (wr.alloc o) (qD o K) (jS o (kQ (λ_ _=>trivial) y)));have g:=X (λo=>u.alloc (show w.heap.size<=wr.heap.size by omega) o);have B:=X (λo=>f.alloc I o);have ae:=kA O;clear i n p v y;by_cases p:x.1<1
    .rw[jB (jD p)] at c
     go_wp2;go_ret;exact⟨dQ (by rw[e.out,c.out]),g _⟩
    by_cases v:1000<x.1
    .rw[jB (jE v)] at c
     go_wp2;go_ret;exact⟨dQ (by rw[e.out,c.out]),g _⟩
    rw[jC (by omega)] at c;by_cases o:x.1<=Fv a k
    .rw[jB o] at c
     go_wp2;go_ret;exact⟨dQ (by rw[e.out,c.out]),g _⟩
    rw[jC o] at c
    go_wp2_with fail
    refine(A _).mono ?_;rintro q w2 ⟨rfl,i⟩;rw[H.out];have y:=i.size;rw[qE] at y;have P:=X ((B _).trans (i.mono (by rw[qE];omega)));have Q:=X ((g _).trans (i.mono (by rw[qE];omega)));have d0:=jP i (by rw[jJ 0 rfl];rfl);clear A g B i;by_cases g:kP b x.2=0
    .rw[jB g] at c
     rw[g];clear g
     go_wp2_with fail
     go_roundw
     case rel=>exact⟨k+1,by omega,by go_num,by rw[z.out],by rw[z.out];exact c,P⟩
     case measure=>simp[intOf];omega
    rw[jC g] at c;have i:(kP b x.2 !=0)=true:=(by simpa using g);clear g;go_wp2;go_ret;exact⟨dQ (by rw[e.out,c.out]),Q⟩
   have g:k=a.length:=(by omega);subst g;have i:Hid (lI b 0 a=0):=(by show _=_;rw[n.out,dX];rfl);clear n;go_wp2;go_ret;exact⟨dQ (by rw[e.out,i.out]),u⟩
 have h:gE b a=qT b:=by rw[gE,jC d]
 have e:=X h;have c:(qT b !=0)=true:=by simpa using d
 clear h d;generalize qT b=d at*;go_wp2;go_ret;exact⟨dQ e.symm,m⟩
def KY:∀{b:Zs}{a:Int},lI r a b=0->b.Pairwise (λx y=>x.1<y.1)/\(∀x,x∈b->a<x.1)/\(0<=a->a<=1000->a+b.length<=1000):=by
 intro b;induction b with
 |nil=>intro a _;exact⟨List.Pairwise.nil,λx h=>(by cases h),λ_ h=>by simpa using h⟩
 |cons x b i=>
  intro a h;rw[lI] at h;by_cases e:x.1<1\/1000<x.1
  .rw[jB e] at h;cases h
  rw[jC e] at h;by_cases f:x.1<=a
  .rw[jB f] at h;cases h
  rw[jC f] at h;by_cases c:kP r x.2=0
  .rw[jB c] at h
   obtain⟨j,g,k⟩:=i h;refine⟨List.Pairwise.cons g j,λy d=>?_,λ_ _=>?_⟩
   .rcases qO.1 d with rfl|d
    .omega
    have:=g y d;omega
   have:=k (by omega) (by omega);rw[xI];omega
  rw[jC c] at h;exact jN h c
def AG(h:b.Pairwise (λx y=>x.1<y.1)):nT b:=by
 intro i j x y e f g;rw[Er] at h;obtain⟨c,rfl⟩:=jZ.1 e;obtain⟨d,rfl⟩:=jZ.1 f;rcases Nat.lt_trichotomy i j with a|a|a
 .have:=h i j c d a;omega
 .exact a
 have:=h j i d c a;omega
def vV(a:Zn)(b:Zs)(t:T):T×Int:=
 if gE a b=0 then(if kP a t=0 then(if 120<(qF b t).E then(zS,2) else(qF b t,0)) else(zS,kP a t)) else(zS,gE a b)
def LD(h:gE r b=0):qT r=0/\lI r 0 b=0:=by
 rw[gE] at h;by_cases a:qT r=0
 .rw[jB a] at h;exact⟨a,h⟩
 rw[jC a] at h;exact jN h a
def jD9(a:lI r 0 b=0)(c:jQ r t):kP r (qF b t)=if 120<(qF b t).E then 2 else 0:=by
 have d:=XO (λv u h=>(Js a v u h).2.2.2) c;by_cases h:120<(qF b t).E
 .rw[jB h,kP,jB h]
 rw[jC h];exact mS.2 ⟨by omega,d⟩
def Mc(x:T×Int)(b:Nat)(e:Ending)(c:N):Prop:=
 ∃a d,e=.returned (.tuple #[.agg (Zj x.1 a d),Y x.2])/\jT (λk=>b<=k) c x.1.e a
def Cr(n:Int)(a:Nat)(b:N):Mc (zS,n) a (.returned (.tuple #[.agg #[Y 0,Y 0,Zd],Y n])) b:=⟨none,0,rfl,dU⟩
def EE(m:Nat)(J:Nat)(h:Nat)(j:jV w r a)(hl:b.length<=9223372036854775807)(k:xV (λ_=>True) w b a1)(l:InL w t.e a2):
 Calls Zf 210 #[.agg #[.slice a r.length m],.slice a1 b.length J,.agg (Zj t a2 h)] w λi c=>Mc (vV r b t) w.heap.size i c/\Zb w c:=by
 obtain⟨q,d⟩:=Ze ((((w.alloc (.cells #[Zk a r m] 24)).alloc (.cells (Zj t a2 h) 43)).alloc (.cells #[Y 0,Y 0,Zd] 43)));have n:Hid (jK q (w.heap.size+1) (Y t.v) (Y t.f) (Zk a2 t.e h)):=by rw[d];exact(jK.new 43 (by simp)).alloc _
 have f:Hid (jK q (w.heap.size+1+1) (Y 0) (Y 0) (Zd)):=by rw[d];exact jK.new 43 (by simp)
 have o:Hid (q.cell? (D w.heap.size 0)=some (Zk a r m)):=by
  show _=_;rw[d,kW (by simp;omega),kW (by simp),jJ _ rfl];rfl
 have e:Hid (Zb w q):=d▸bJ _ _ _ _;have ao:w.heap.size+3<=q.heap.size:=by rw[d];simp
 have u:=X d;have A:=X j;have g:=X k;have G:=X l;clear d j k l
 go_in
 go_wp2_with fail
 rw[<-u.out];refine(LJ r a m b a1 J _ _ hl (kD e A) (gW e g)).mono ?_;rintro i w1 ⟨rfl,d⟩;have s:=X (e.trans (d.mono (by omega)));have ap:=d.size;obtain⟨B,C,E,R,S,U⟩:=f.below d;obtain⟨k,l,v,_,_,_⟩:=n.below d;have x:=jP d o;have y:=X (f.below d);have aq:w.heap.size+1+1<w1.heap.size:=by omega
 clear d f n o e u;by_cases j:gE r b=0
 .obtain⟨d,e⟩:=LD j
  have F:Hid (vV r b t=if kP r t=0 then(if 120<(qF b t).E then(zS,2) else(qF b t,0)) else(zS,kP r t)):=by show _=_;rw[vV,jB j]
  have n:=X e;have K:=X (Np d);rw[j];clear j e d
  go_wp2_with fail
  refine(iW r a m t a2 h _ (kD s A) (jI s G)).mono ?_;rintro i d ⟨rfl,e⟩;rw[K.out];have u:=X (s.trans (e.mono (by omega)));have ar:=e.size;have L:=X (y.below e);have M:=jP e x;have V:=jP e k;have W:=jP e l;have Z:=jP e v;have au:w.heap.size+1+1<d.heap.size:=by omega
  clear e B C E R S U k l v x y;by_cases l:kP r t=0
  .have y:Hid (vV r b t=if 120<(qF b t).E then(zS,2) else(qF b t,0)):=by show _=_;rw[F.out,jB l]
   have O:=X (mS.1 l);rw[l];clear l F
   go_upto_region 7 with fail
   go_cut [10] (λe wc=>∃P o z,e=Zr P/\jK wc P (Y (qF b t).v) (Y (qF b t).f) (.slice o (qF b t).e.length z)/\jT (λk=>d.heap.size<=k) wc (qF b t).e o/\Hid (Zb d wc))
   case first=>
    obtain⟨H,_,I⟩:=KY n;have ag:=X (AG H);have ah:b.length<=1000:=(by have:=I (by omega) (by omega);omega);have aa:=X (show ∀x,x∈b->1<=x.1/\x.1<=1000 from λx e=>⟨(Js n x.1 x.2 e).1,(Js n x.1 x.2 e).2.1⟩);have ai:=X (show ∀v:Int,v<=0->kC b v=none from λv Q=>Xv (λx e i=>by have:=aa x e;omega));have aj:=X (show ∀v e,(v,e)∈b->e.E<=1000 from λv e f=>by have:=(Js n v e f).2.2.1;omega);have ak:=X (λ(c:N)(f:Zb d c)=>tN (λk e=>e.2) (Dy (λ_ _ _ x Q=>⟨x,jP f Q⟩) (Ro (gW u g))));have al:=X (λ(c:N)(f:Zb d c)=>jI f (jI u G));have hS:=X (λ(c:N)(f:Zb d c)=>(show Zq c (w.heap.size+1) 0 (Y t.v)/\Zq c (w.heap.size+1) 1 (Y t.f)/\Zq c (w.heap.size+1) 2 (Zk a2 t.e h) from⟨jP f V,jP f W,jP f Z⟩));have av:=O.1;clear H I n g G A K M L u s y
    go_region_held3 (λc=>Zq c (w.heap.size+1) 0 (Y t.v)/\Zq c (w.heap.size+1) 1 (Y t.f)/\Zq c (w.heap.size+1) 2 (Zk a2 t.e h)) ((first|(refine hS.out _ ?_;(go_grown<;>(first|exact zZ ‹Hid (Below _ _ _)›|exact ab|(show d.heap.size<=_;omega)));done)|go_keep)) ((first
     |(go_at_call 223
       with_reducible refine(LF b a1 J _ (λk=>k<d.heap.size) ?_ ah ag.out aa.out ?_).mono ?_
       .intro k e
        first|exact e|(simp;omega)
       .exact ak.out _ (by(go_grown<;>exact zZ ‹Hid (Below _ _ _)›))
       rintro i g ⟨I,Q,rfl,an,G,H,x⟩;have ad:Hid (Zb d g):=by
        refine zT (b:=_) ?_ (x.mono ?_)
        ·(go_grown<;>exact zZ ‹Hid (Below _ _ _)›)
        first|omega|(simp;omega)|(simp;done)
       have ab:=ad.out.size;have ae:=x.size
       try (simp at ae)
       have af:=X (λ(c:N)(f:Zb g c)=>G.below f);have am:=X (λ(c:N)(f:Zb g c)=>H.mono (λac _ hj=>f.block ac hj))
       try (have ac:Hid (jK g d.heap.size (Y 0) (Y 0) (Zd)):=jK.below (by first|exact jK.new 43 rfl|exact jK.same (jK.new 43 rfl) rfl) x)
       clear G H)
     |(go_at_call 224
       with_reducible refine(KH r (λk=>k<d.heap.size) b I b.length Q ai.out aj.out (t.E+1) t a2 h _ (by omega) (by omega) ?_ ?_ O.out.2 ?_).mono ?_
       .exact af.out _ (by(go_grown<;>exact zZ ‹Hid (Below _ _ _)›))
       .exact am.out _ (by(go_grown<;>exact zZ ‹Hid (Below _ _ _)›))
       .exact al.out _ (by(go_grown<;>exact zZ ‹Hid (Below _ _ _)›))
       rintro i G ⟨f,x,rfl,ad,H⟩;have I:Hid (Zb d G):=by
        refine zT (b:=_) ?_ (H.mono ?_)
        ·(go_grown<;>exact zZ ‹Hid (Below _ _ _)›)
        first|omega|(simp;omega)|(simp;done)
       have am:=I.out.size;have an:=H.size
       try (simp at an)
       have Q:=X ad
       try (have ae:Hid (jK G g.heap.size (Y 0) (Y 0) (Zd)):=jK.below (by first|exact jK.new 43 rfl|exact jK.same (jK.new 43 rfl) rfl) H;obtain⟨y0,y1,y2,y3,y4,y5⟩:=ae.out)
       try (have af:Hid (jK G d.heap.size (Y 0) (Y 0) (Zd)):=jK.below (by first|exact ac.out|exact jK.same ac.out rfl) H;obtain⟨x0,x1,x2,x3,x4,x5⟩:=af.out)
       clear ad)))
    all_goals (go_wp2_with fail;go_meet)
    .refine⟨G.heap.size,f,x,rfl,jK.new 43 rfl,jS _ (kQ (λk e=>?_) Q),I.alloc am _⟩
     have e:g.heap.size<=k:=e;omega
    .refine⟨g.heap.size,f,x,rfl,?_,kQ (p:=λk=>g.heap.size+1<=k) (λk e=>by omega) (xN (λk e _=>xQ (k:=g.heap.size) (n:=0) (show k≠_ by omega)) (kQ (λk e=>?_) Q)),xZ (n:=g.heap.size) (m:=0) I ab _ _ _⟩
     .have G:=ae.set (Y (qF b t).v) (Y (qF b t).f) (.slice f (qF b t).e.length x)
      exact G
     simpa using e
    refine⟨d.heap.size,f,x,rfl,?_,kQ (p:=λk=>d.heap.size+1<=k) (λk e=>by omega) (xN (λk e _=>xQ (k:=d.heap.size) (n:=0) (show k≠_ by omega)) (kQ (λk e=>?_) Q)),xZ (n:=d.heap.size) (m:=0) I (jF _) _ _ _⟩
    .have G:=af.set (Y (qF b t).v) (Y (qF b t).f) (.slice f (qF b t).e.length x)
     exact G
    have e:g.heap.size<=k:=e;omega
   case rest=>
    obtain⟨P,o,z,rfl,Q,e,f⟩:=hcut;have ac:=f.size;have aa:=jP f M;obtain⟨g,x,G,_,_,_⟩:=Q;have H:=X e;have ad:w.heap.size+1+1<wc.heap.size:=(by omega);have ab:=X (L.below f);have I:=X (u.trans (f.mono (by omega)));clear e M V W Z
    go_wp2_with fail
    refine(iW r a m (qF b t) o z _ (kD I A) (kQ (λ_ _=>trivial) H)).mono ?_;rintro i V ⟨rfl,e⟩;rw[K.out,jD9 n.out O.out.2];have M:=X (I.trans (e.mono (by omega)));have W:=X (ab.below e);have Z:=X (jI e H);obtain⟨P,r1,r2,g0,g1,g2⟩:=W;have s0:=jP e g;have s1:=jP e x;have s2:=jP e G;have ae:=e.size;have af:w.heap.size+1+1<V.heap.size:=(by omega);clear e g x G aa;by_cases e:120<(qF b t).E
    .rw[jB e]
     have g:Hid (vV r b t=(zS,2)):=(by show _=_;rw[y.out,jB e]);clear e y
     go_wp2_with fail
     exact qS (v:=.tuple #[.agg #[Y 0,Y 0,Zd],Y 2]) (by simp[results,Tryz.results210,go_sem,P,r1,r2]) rfl
      ⟨by rw[g.out];exact Cr 2 _ _,xZ M (by omega) _ _ _⟩
    rw[jC e];have g:Hid (vV r b t=(qF b t,0)):=(by show _=_;rw[y.out,jC e]);clear e y
    go_wp2_with fail
    exact qS (v:=.tuple #[.agg #[Y (qF b t).v,Y (qF b t).f,.slice o (qF b t).e.length z],Y 0]) (by simp[results,Tryz.results210,go_sem,P,r1,r2]) rfl
     ⟨by rw[g.out];exact⟨o,z,rfl,kQ (λk e=>by omega) (xN (λk e _=>xQ (by omega)) Z)⟩,xZ M (by omega) _ _ _⟩
  have g:(kP r t !=0)=true:=by simpa using l
  have f:Hid (vV r b t=(zS,kP r t)):=by show _=_;rw[F.out,jC l]
  clear l F;obtain⟨B,C,E,R,S,U⟩:=L;generalize kP r t=e at*
  go_wp2_with fail
  exact qS (v:=.tuple #[.agg #[Y 0,Y 0,Zd],Y e]) (by simp[results,Tryz.results210,go_sem,B,C,E]) rfl
   ⟨by rw[f.out];exact Cr e _ _,xZ u (by omega) _ _ _⟩
 have g:(gE r b !=0)=true:=by simpa using j
 have f:Hid (vV r b t=(zS,gE r b)):=by show _=_;rw[vV,jC j]
 clear j;generalize gE r b=e at*
 go_wp2_with fail
 exact qS (v:=.tuple #[.agg #[Y 0,Y 0,Zd],Y e]) (by simp[results,Tryz.results210,go_sem,B,C,E]) rfl
  ⟨by rw[f.out];exact Cr e _ _,xZ s (by omega) _ _ _⟩
def RV{P:T->Prop}(m:∀t,P t->∀f,f∈t.e->P f):∀(n:Nat),(∀(p t:T)(a b:Zs),p.E<=n->P t->kG p t a=some b->(∀x,x∈a->P x.2)->∀x,x∈b->P x.2)/\
 (∀(e d:Zt)(a b:Zs),T.E.szL e<=n->(∀f,f∈d->P f)->kG.growL e d a=some b->(∀x,x∈a->P x.2)->∀x,x∈b->P x.2):=by
 intro n;induction n with
 |zero=>
  refine⟨λp t a b h=>by have:=p.I;omega,λe d a b h _ c g=>?_⟩
  cases e with
  |nil=>
   cases d with
   |nil=>simp[kG.growL] at c;rw[<-c];exact g
   |cons t d=>cases c
  |cons p e=>have:=p.I;rw[T.F] at h;omega
 |succ n o=>
  have i:∀(p t:T)(a b:Zs),p.E<=n+1->P t->kG p t a=some b->(∀x,x∈a->P x.2)->∀x,x∈b->P x.2:=by
   intro p t a b q j c h;have r:=T.M p;rw[nG] at c;by_cases k:p.v≠0
   .rw[jB k] at c
    cases l:kC a p.v with
    |some u=>
     rw[l] at c;by_cases g:kS u t=true
     .simp only[g,if_true,qW] at c
      rw[<-c];exact h
     simp only[g] at c;cases c
    |none=>
     rw[l] at c;simp only[qW] at c;rw[<-c];intro x g;rcases vD.1 g with g|g
     .exact h x g
     rw[vY] at g;rw[g];exact j
   rw[jC k] at c;by_cases g:t.v≠0\/p.f≠t.f
   .rw[jB g] at c;cases c
   rw[jC g] at c;exact o.2 p.e t.e a b (by omega) (m t j) c h
  refine⟨i,?_⟩;intro e;induction e with
  |nil=>
   intro d a b _ _ c g
   cases d with
   |nil=>simp[kG.growL] at c;rw[<-c];exact g
   |cons t d=>cases c
  |cons p e k=>
   intro d a b l h c q;rw[T.F] at l
   cases d with
   |nil=>cases c
   |cons t d=>
    rw[aS] at c
    cases g:kG p t a with
    |none=>rw[g] at c;cases c
    |some j=>
     rw[g] at c;have r:=i p t a j (by omega) (h t (by simp)) g q;exact k d j b (by omega) (λf s=>h f (by simp[s])) c r
def UW{f:Int->T}(a:Zn)(v:Int):kC (a.map (λk=>(k,f k))) v=if v∈a then some (f v) else none:=by
 induction a with
 |nil=>simp[kC]
 |cons k a b=>
  rw[yI,kC,b];by_cases h:k=v
  .subst h;simp
  rw[jC h];have:(v∈k::a)↔v∈a:=by
   rw[qO];exact⟨λe=>e.resolve_left (λe=>h e.symm),jE⟩
  simp only[this]
def Kw(a:Zs)(v:Int):kC (yR a) v=kC a v:=by
 rw[yR,UW,keysB];simp only[En]
 cases h:kC a v with
 |none=>
  rw[jC];intro e;rw[Da,h] at e
  cases e
 |some u=>
  rw[jB (Da.2 (by rw[h];rfl))];rfl
def BJ(a:Zs)(v:Int):bM (yR a) v=bM a v:=by rw[bM,bM,Kw]
def KI(a:Zs):∀(n:Nat)(t:T),t.E<=n->qF (yR a) t=qF a t:=by
 intro n;induction n with
 |zero=>intro t h;have:=t.I;omega
 |succ n c=>
  intro t h;have f:=T.M t
  cases b:bM a t.v with
  |some u=>rw[Ch b,Ch ((BJ a t.v).trans b)]
  |none=>
   rw[wQ b,wQ ((BJ a t.v).trans b)];have:t.e.map (qF (yR a))=t.e.map (qF a):=El (λd e=>c d (by have:=T.W e;omega));rw[this]
def Ud(a:Zs)(t:T):qF (yR a) t=qF a t:=KI a _ t (jF _)
def KX:∀{a:Zs}{b:Int},a.Pairwise (λx y=>x.1<y.1)->(∀x,x∈a->1<=x.1/\x.1<=1000/\b<x.1/\kP r x.2=0)->lI r b a=0:=by
 intro a;induction a with
 |nil=>intro b _ _;rfl
 |cons x a f=>
  intro b c h;have g:=h x (by simp);rw[lI,jC (by omega),jC (by omega),jB g.2.2.2];rw[Ep] at c;refine f c.2 (λy e=>?_);have d:=h y (by simp[e]);exact⟨d.1,d.2.1,c.1 y e,d.2.2.2⟩
def CV(h:nT b):(yR b).Pairwise (λx y=>x.1<y.1):=by
 have a:(keysB b).Pairwise (λx y=>x<=y):=by
  have c:=Si (le:=λx y:Int=>decide (x<=y)) (λd e f a c=>by simp at*;omega) (λd e=>by simp;omega) (b.map (·.1));exact List.Pairwise.imp (λh=>by simpa using h) c
 have c:(keysB b).Nodup:=by rw[keysB];exact(List.mergeSort_perm _ _).nodup_iff.2 (Qa h)
 have d:(keysB b).Pairwise (λx y=>x<y):=(a.and c).imp (λh=>by have:=h.1;have:=h.2;omega);rw[yR,List.pairwise_map];exact d
def Qr{x:Int×T}(h:x∈yR b):x∈b:=by
 rw[yR,bP] at h;obtain⟨v,a,rfl⟩:=h;rw[keysB,En] at a;obtain⟨u,c⟩:=oF.1 (Da.1 a);rw[c];exact tX c
def Ws(g:jQ r t)(c:s.E<=120/\jQ r s)(h:kG t s []=some b):(∀x,x∈b->x.2.E<=120/\jQ r x.2)/\lI r 0 (yR b)=0:=by
 have d:∀x,x∈b->x.2.E<=120/\jQ r x.2:=(RV (P:=λs=>s.E<=120/\jQ r s) (λs c e a=>⟨by have:=T.W a;have:=T.M s;omega,nH.1 (vW.1 c.2).2 e a⟩) t.E).1 t s [] b (jF _) c h (λx a=>by cases a);have e:=(Oy t.E).1 t s [] b (jF _) g h ⟨λi j x y a=>by simp at a,λx a=>by cases a⟩
 exact⟨d,KX (CV e.1) (λx a=>by
  have f:=Qr a;have a:=e.2 x f
  exact⟨a.1,a.2,by omega,mS.2 (d x f)⟩)⟩
def RW:∀(n:Nat),(∀(p t:T)(a b:Zs),p.E<=n->kG p t a=some b->∃r,b=a++r)/\
 (∀(e d:Zt)(a b:Zs),T.E.szL e<=n->kG.growL e d a=some b->∃r,b=a++r):=by
 intro n;induction n with
 |zero=>
  refine⟨λp t a b h=>by have:=p.I;omega,λe d a b h c=>?_⟩
  cases e with
  |nil=>
   cases d with
   |nil=>simp[kG.growL] at c;exact⟨[],by rw[c,zU]⟩
   |cons t d=>cases c
  |cons p e=>have:=p.I;rw[T.F] at h;omega
 |succ n j=>
  have g:∀(p t:T)(a b:Zs),p.E<=n+1->kG p t a=some b->∃r,b=a++r:=by
   intro p t a b k c;have l:=T.M p;rw[nG] at c;by_cases f:p.v≠0
   .rw[jB f] at c
    cases h:kC a p.v with
    |some u=>
     rw[h] at c;by_cases i:kS u t=true
     .simp only[i,if_true,qW] at c
      exact⟨[],by rw[c,zU]⟩
     simp only[i] at c;cases c
    |none=>
     rw[h] at c;simp only[qW] at c;exact⟨_,c.symm⟩
   rw[jC f] at c;by_cases i:t.v≠0\/p.f≠t.f
   .rw[jB i] at c;cases c
   rw[jC i] at c;exact j.2 p.e t.e a b (by omega) c
  refine⟨g,?_⟩;intro e;induction e with
  |nil=>
   intro d a b _ c
   cases d with
   |nil=>simp[kG.growL] at c;exact⟨[],by rw[c,zU]⟩
   |cons t d=>cases c
  |cons p e h=>
   intro d a b i c;rw[T.F] at i
   cases d with
   |nil=>cases c
   |cons t d=>
    rw[aS] at c
    cases f:kG p t a with
    |none=>rw[f] at c;cases c
    |some k=>
     rw[f] at c;obtain⟨r1,rfl⟩:=g p t a k (by omega) f;obtain⟨r2,rfl⟩:=h d _ b (by omega) c;exact⟨r1++r2,by rw[dH]⟩
def Xt(h:kC b z=some t):kC (b++b1) z=some t:=by
 induction b with
 |nil=>cases h
 |cons x b c=>
  obtain⟨k,y⟩:=x;rw[dW,kC];rw[kC] at h;by_cases a:k=z
  .rw[jB a] at h ⊢;exact h
  rw[jC a] at h ⊢;exact c h
def Pn(h:kC b z=none):kC (b++[(z,t)]) z=some t:=by
 induction b with
 |nil=>simp[kC]
 |cons x b c=>
  obtain⟨k,y⟩:=x;rw[dW,kC];rw[kC] at h;by_cases a:k=z
  .rw[jB a] at h;cases h
  rw[jC a] at h ⊢;exact c h
def Wr:∀(n:Nat),(∀(p t:T)(c a d:Zs),p.E<=n->jQ r p->jQ r t->kG p t c=some a->qF (a++d) p=t)/\
 (∀(f e:Zt)(c a d:Zs),T.E.szL f<=n->jQ.okL r f->jQ.okL r e->kG.growL f e c=some a->f.map (qF (a++d))=e):=by
 intro n;induction n with
 |zero=>
  refine⟨λp t c a d h=>by have:=p.I;omega,λf e c a d h _ _ b=>?_⟩
  cases f with
  |nil=>
   cases e with
   |nil=>rfl
   |cons t e=>cases b
  |cons p f=>have:=p.I;rw[T.F] at h;omega
 |succ n q=>
  have i:∀(p t:T)(c a d:Zs),p.E<=n+1->jQ r p->jQ r t->kG p t c=some a->qF (a++d) p=t:=by
   intro p t c a d w j s b;have x:=T.M p;have y:=AD j;rw[nG] at b;by_cases k:p.v≠0
   .rw[jB k] at b
    have l:∀u,kC a p.v=some u->qF (a++d) p=u:=λu g=>Ch (by rw[bM,jB (by omega)];exact Xt g)
    cases g:kC c p.v with
    |some u=>
     rw[g] at b;by_cases h:kS u t=true
     .simp only[h,if_true,qW] at b
      subst b;rw[l u g];exact nI.1 h
     simp only[h] at b;cases b
    |none=>
     rw[g] at b;simp only[qW] at b;subst b;exact l t (Pn g)
   rw[jC k] at b;have u:p.v=0:=(by omega);by_cases h:t.v≠0\/p.f≠t.f
   .rw[jB h] at b;cases b
   rw[jC h] at b;have v:=q.2 p.e t.e c a d (by omega) (vW.1 j).2 (vW.1 s).2 b;rw[Nv u,v];have m:t.v=0:=(by omega);have o:p.f=t.f:=by omega
   cases t
   simp only at m o;rw[o,m]
  refine⟨i,?_⟩;intro f;induction f with
  |nil=>
   intro e c a d _ _ _ b
   cases e with
   |nil=>rfl
   |cons t e=>cases b
  |cons p f l=>
   intro e c a d m j k b;rw[T.F] at m
   cases e with
   |nil=>cases b
   |cons t e=>
    rw[aS] at b
    cases g:kG p t c with
    |none=>rw[g] at b;cases b
    |some h=>
     rw[g] at b;obtain⟨r2,o⟩:=(RW _).2 f e h a (jF _) b;have s:=l e h a d (by omega) (pC.1 j).2 (pC.1 k).2 b;rw[yI,s];rw[o,dH,i p t c h (r2++d) (by omega) (pC.1 j).1 (pC.1 k).1 g]
def jFh(h:(vV r b t).2≠0):(vV r b t).1=zS:=by
 by_cases a:gE r b=0
 .by_cases c:kP r t=0
  .by_cases d:120<(qF b t).E
   .rw[vV,jB a,jB c,jB d]
   rw[vV,jB a,jB c,jC d] at h;exact jN rfl h
  rw[vV,jB a,jC c]
 rw[vV,jC a]
def gH(a:Zn)(s t:T):Zs×Bool×Int:=if kI a [s,t]=0 then(eH 1000 s t).getD ([],false,0) else([],false,kI a [s,t])
def DL(h:kI r [t,s]=0):eH 1000 t s=some (gH r t s)/\((gH r t s=([],false,0)/\∀c:Int->T,sub c t≠sub c s)\/
 ∃a:Int->T,Iu a t s/\((gH r t s=([],false,2)/\120<(sub a t).E)\/∃b,gH r t s=(b,true,0)/\(sub a t).E<=120/\iU r b/\∀v,v≠0->gS b v=a v)):=by
 obtain⟨e,f,g,i⟩:=oT h;obtain⟨j,d,k⟩:=jEs f i e g;have l:gH r t s=j:=by rw[gH,jB h,d];rfl
 rw[l];exact⟨d,k⟩
def ZT:∀{l:Zn}{a:Int},l.Pairwise (·<·)->(∀x,x∈l->a<x/\x<=1000)->(l.length:Int)<=max (1000 - a) 0:=by
 intro l;induction l with
 |nil=>intro a _ _;simp;omega
 |cons x l e=>
  intro a b c;rw[Ep] at b;have f:=c x vX;have g:=e b.2 (λy d=>⟨b.1 y d,(c y (vG _ d)).2⟩);rw[xI];omega
def iU.len(h:iU r b):b.length<=1000:=by
 have:=ZT (a:=0) h.ve (λx a=>by
  obtain⟨⟨v,u⟩,c,rfl⟩:=bP.1 a;have:=(h.each v u c).1;simp only
  omega)
 rw[dY] at this;omega
def JM(h:kI r l=0):qT r=0:=by
 rw[kI] at h;by_cases a:qT r=0
 .exact a
 rw[jC a] at h;exact jN h a
def Nw(h:(vV r b t).2=0):gE r b=0/\(t.E<=120/\jQ r t)/\(vV r b t).1=qF b t/\(qF b t).E<=120:=by
 by_cases a:gE r b=0
 .by_cases c:kP r t=0
  .by_cases d:120<(qF b t).E
   .rw[vV,jB a,jB c,jB d] at h;cases h
   refine⟨a,mS.1 c,by rw[vV,jB a,jB c,jC d],by omega⟩
  rw[vV,jB a,jC c] at h;exact jN h c
 rw[vV,jC a] at h;exact jN h a
def KK(a:gE r b=0)(c:t.E<=120/\jQ r t)(d:(qF b t).E<=120):vV r b t=(qF b t,0):=by
 rw[vV,jB a,jB (mS.2 c),jC (by omega)]
def KJ{a:Int->T}(h:∀v,v≠0->gS b v=a v)(c:jQ r t):qF b t=sub a t:=by
 rw[Jq _ t (jF _) c];exact Lp _ t (jF _) (λv d _=>h v d)
def VT(h:(qM r t s).2.2=0)(e:(qM r t s).2.1=true):vV r (qM r t s).1 t=(s,0):=by
 by_cases a:kI r [t,s]=0
 .obtain⟨j,c,f,g⟩:=oT a
  cases b:kG t s [] with
  |none=>rw[qM,jB a,b] at e;cases e
  |some d=>
   rw[qM,jB a,b];have k:=Ws c ⟨f,g⟩ b;have i:qF (yR d) t=s:=by
    rw[Ud];have:=(Wr t.E).1 t s [] d [] (jF _) c g b;rwa [zU] at this
   show vV r (yR d) t=_;rw[KK (by rw[gE,jB (JM a)];exact k.2) ⟨j,c⟩ (i▸f),i]
 rw[qM,jC a] at h;exact jN h a
def VS:(qM r t s).1.length<=1000:=by
 by_cases a:kI r [t,s]=0
 .obtain⟨d,e,f,g⟩:=oT a
  cases b:kG t s [] with
  |none=>rw[qM,jB a,b];simp
  |some c=>
   rw[qM,jB a,b];show(yR c).length<=1000;rw[Aq];have:=(Ct t.E).1 t s [] c (jF _) b;simp at this;omega
 rw[qM,jC a];simp
def DK(h:(gH r t s).2.2=0)(d:(gH r t s).2.1=true):∃a b,Iu a t s/\gH r t s=(b,true,0)/\(sub a t).E<=120/\iU r b/\(∀v,v≠0->gS b v=a v)/\kI r [t,s]=0:=by
 by_cases c:kI r [t,s]=0
 .obtain⟨_,⟨e,_⟩|⟨a,f,⟨e,_⟩|⟨b,e,g,i,j⟩⟩⟩:=DL c
  .rw[e] at d;cases d
  .rw[e] at h;cases h
  exact⟨a,b,f,e,g,i,j,c⟩
 rw[gH,jC c] at h;exact jN h c
def IQ(d:Nat)(e:Nat)(f:Nat)(g:jV w r a)(h:InL w t.e a1)(i:InL w s.e a2):
 Calls Zf 196 #[.agg #[.slice a r.length d],.agg (Zj t a1 e),.agg (Zj s a2 f)] w λj l=>rP w l (gH r t s) j:=by
 by_cases b:kI r [t,s]=0
 .exact IR d e f g h i _ (DL b).1 b
 have k:=X (λo1 o2 c=>Qv r a d t a1 e s a2 f (((w.alloc o1).alloc o2).alloc c) (qD c (qD o2 (qD o1 g))) (jS c (jS o2 (jS o1 h))) (jS c (jS o2 (jS o1 i))));have c:gH r t s=([],false,kI r [t,s]):=by rw[gH,jC b]
 rw[c];clear c;obtain⟨E,c⟩:=Ze (kI r [t,s]);rw[<-c] at k b ⊢;clear c g h i
 go_in
 go_wp2_with fail
 refine(k _ _ _).mono ?_;rintro j h ⟨rfl,c⟩;have g:=(((jG _ _).alloc (by simp) _).alloc (by simp;omega) _).trans (c.mono (by simp;omega));have i:(E !=0)=true:=by simpa using b
 clear c b;go_wp2
 go_ret3
 exact rP.no g
def jH{v:Zv}(a:Zb w u)(h:w.cell? (D k n)=some v):u.cell? (D k n)=some v:=by
 rw[a.cell (kA h)];exact h
abbrev Lit:=Bool×T×T
def kR(w:N):Zc->Zo->Prop
 |[],_=>True
 |x::e,f=>∃b a c g d h,f=some (D b a)/\w.cell? (D b a)=some (.bool x.1)/\w.cell? (D b (a+1))=some (Y x.2.1.v)/\w.cell? (D b (a+2))=some (Y x.2.1.f)/\w.cell? (D b (a+3))=some (.slice c x.2.1.e.length g)/\
   w.cell? (D b (a+4))=some (Y x.2.2.v)/\w.cell? (D b (a+5))=some (Y x.2.2.f)/\w.cell? (D b (a+6))=some (.slice d x.2.2.e.length h)/\InL w x.2.1.e c/\InL w x.2.2.e d/\kR w e (some (D b (a+7)))
def kL{w d:N}(a:Zb w d):∀{c:Zc}{b:Zo},kR w c b->kR d c b:=by
 intro c;induction c with
 |nil=>intro b _;trivial
 |cons x c e=>
  intro b h;obtain⟨f,g,i,j,k,l,rfl,m,n,o,p,q,r,s,i1,i2,t⟩:=h;exact⟨f,g,i,j,k,l,rfl,jH a m,jH a n,jH a o,jH a p,jH a q,jH a r,jH a s,jI a i1,jI a i2,e t⟩
def zN{w:N}{c:Zc}{d:Zo}(h:kR w c d)(e:0<c.length):∃b a,d=some (D b a):=by
 cases c with
 |nil=>simp at e
 |cons x c=>obtain⟨b,a,_,_,_,_,rfl,_⟩:=h;exact⟨b,a,rfl⟩
def dZ{w:N}:∀{c:Zc}{b a k:Nat}{x:Lit},kR w c (some (D b a))->c[k]? =some x->
 ∃d f e g,w.cell? (D b (a+k*7))=some (.bool x.1)/\w.cell? (D b (a+k*7+1))=some (Y x.2.1.v)/\w.cell? (D b (a+k*7+2))=some (Y x.2.1.f)/\w.cell? (D b (a+k*7+3))=some (.slice d x.2.1.e.length f)/\
  w.cell? (D b (a+k*7+4))=some (Y x.2.2.v)/\w.cell? (D b (a+k*7+5))=some (Y x.2.2.f)/\w.cell? (D b (a+k*7+6))=some (.slice e x.2.2.e.length g)/\InL w x.2.1.e d/\InL w x.2.2.e e:=by
 intro c;induction c with
 |nil=>intro b a k x _ h;simp at h
 |cons y c l=>
  intro b a k x h i;obtain⟨v,z,d,f,e,g,j,m,n,o,p,q,r,s,i1,i2,t⟩:=h;simp only[qW,fG] at j;obtain⟨rfl,rfl,_⟩:=j
  cases k with
  |zero=>
   simp at i;subst i;exact⟨d,f,e,g,by simpa using m,by simpa using n,by simpa using o,by simpa using p,by simpa using q,by simpa using r,by simpa using s,i1,i2⟩
  |succ k=>
   have u:=l t (by simpa using i);rw[show a+(k+1)*7=a+7+k*7 by omega];exact u
def zM(w:N):Zm->Zo->Prop
 |[],_=>True
 |c::e,f=>∃b a d g,f=some (D b a)/\w.cell? (D b a)=some (.slice d c.length g)/\kR w c d/\zM w e (some (D b (a+1)))
def dG{w c:N}(d:Zb w c):∀{a:Zm}{b:Zo},zM w a b->zM c a b:=by
 intro a;induction a with
 |nil=>intro b _;trivial
 |cons n a e=>
  intro b h;obtain⟨f,g,i,j,rfl,k,l,m⟩:=h;exact⟨f,g,i,j,rfl,jH d k,kL d l,e m⟩
def uL{w:N}{a:Zm}{d:Zo}(h:zM w a d)(e:0<a.length):∃b c,d=some (D b c):=by
 cases a with
 |nil=>simp at e
 |cons f a=>obtain⟨b,c,_,_,rfl,_⟩:=h;exact⟨b,c,rfl⟩
def iX{w:N}:∀{b:Zm}{d a k:Nat}{c:Zc},zM w b (some (D d a))->b[k]? =some c->∃e f,w.cell? (D d (a+k))=some (.slice e c.length f)/\kR w c e:=by
 intro b;induction b with
 |nil=>intro d a k c _ h;simp at h
 |cons s b j=>
  intro d a k c h g;obtain⟨t,u,e,f,i,l,m,n⟩:=h;simp only[qW,fG] at i;obtain⟨rfl,rfl,_⟩:=i
  cases k with
  |zero=>simp at g;subst g;exact⟨e,f,by simpa using l,m⟩
  |succ k=>
   obtain⟨o,p,q,r⟩:=j n (by simpa using g);exact⟨o,p,by rw[show a+(k+1)=a+1+k by omega];exact q,r⟩
def tW(a:Zn):Zc->Int
 |[]=>0
 |x::c=>if kP a x.2.1=0 then(if kP a x.2.2=0 then tW a c else kP a x.2.2) else kP a x.2.1
def nE(a:Zn)(c:Zc):Int:=if 8<c.length then 2 else tW a c
def mK(a:Zn):Zm->Int
 |[]=>0
 |c::b=>if nE a c=0 then mK a b else nE a c
def kJ(a:Zn)(b:Zm):Int:=if qT a=0 then(if 60<b.length then 2 else mK a b) else qT a
def UR{a:Zn}{c:Zc}{k:Nat}{x:Lit}(b:c[k]? =some x):tW a (c.drop k)=if kP a x.2.1=0 then(if kP a x.2.2=0 then tW a (c.drop (k+1)) else kP a x.2.2) else kP a x.2.1:=by
 have d:=(Zl b);have e:c.drop k=x::c.drop (k+1):=by
  rw[jO d] at b;simp at b;rw[<-b,cJ]
 rw[e,tW]
def LR{b:Zn}{a:Zm}{k:Nat}{c:Zc}(d:a[k]? =some c):mK b (a.drop k)=if nE b c=0 then mK b (a.drop (k+1)) else nE b c:=by
 have e:=(Zl d);have f:a.drop k=c::a.drop (k+1):=by
  rw[jO e] at d;simp at d;rw[<-d,cJ]
 rw[f,mK]
def XW{a:Zn}(h:qT a=0)(t:T):kI a [t]=kP a t:=by
 rw[kI,jB h,bN,bN];by_cases b:kP a t=0
 .rw[jB b,b]
 rw[jC b]
def LM{a:Zn}{b:Zo}(d:Nat){c:Zc}{t:Zo}(H:Nat){w:N}(g:qT a=0)(h:jV w a b)(hl:c.length<=9223372036854775807)(i:kR w c t):
 Calls Zf 33 #[.agg #[.slice b a.length d],.slice t c.length H] w λq I=>q=.returned (Y (nE a c))/\Zb w I:=by
 obtain⟨Z,f⟩:=Ze (nE a c);rw[<-f];have e:=X f;have u:=X h;have v:=X i;have y:=X (λj=>XW g j);clear f h i g
 go_in
 by_cases r:8<c.length
 .obtain rfl:Z=2:=by rw[e.out,nE,jB r]
  have J:(8:Int)<c.length:=by omega
  clear e r;go_wp2;go_ret;exact⟨rfl,jG _ _⟩
 have K:Hid (Z=tW a c):=by show _=_;rw[e.out,nE,jC r]
 have J:¬(8:Int)<c.length:=by omega
 have f:∀o,o=Obj.cells #[Zk b a d] 24->(w.alloc o).cell? (D w.heap.size 0)=some (Zk b a d):=λo g=>g▸jJ 0 rfl;have L:=X (f _ rfl);clear e f;go_wp2
 go_loopw [14] (λi wr=>∃k:Nat,k<=c.length/\i=Y k/\Hid (Z=tW a (c.drop k))/\Hid (Below (w.heap.size+1) (w.alloc (.cells #[Zk b a d] 24)) wr)) (λi _=>c.length - (intOf i).toNat)
 case atStart=>exact⟨0,jY _,rfl,by rw[uU];exact K,jW _ _⟩
 case round=>
  obtain⟨k,hk,rfl,i,j⟩:=hrel;have z:=j.size;rw[qE] at z;have f:=X ((jG w (.cells #[Zk b a d] 24)).trans (j.mono (by omega)));have M:wr.cell? (D w.heap.size 0)=some (Zk b a d):=by rw[j.out.cell (by show w.heap.size<w.heap.size+1;omega)];exact L
  by_cases O:k<c.length
  .obtain⟨ac,ad,rfl⟩:=zN v (by omega)
   obtain⟨x,h⟩:=Zg O;obtain⟨P,Q,A,B,C,R,S,U,V,W,k6,p,E⟩:=dZ (kL f v) h;have e:=UR (a:=a) h;rw[<-i.out] at e;have l:=X (λo=>iW a b d x.2.1 P Q (wr.alloc o) (qD o (kD f u)) (jS o p));rw[y.out] at l;obtain⟨s,o⟩:∃F,F=kP a x.2.1:=⟨_,rfl⟩;obtain⟨g,n⟩:∃F,F=kP a x.2.2:=⟨_,rfl⟩;rw[<-o] at l e;rw[<-n] at e;have m:=X e;have G:=X n;have aa:=X E;have ae:(k:Int)<c.length:=(by omega);have af:(0:Int)<=k:=(by omega);have ag:=kA C;have ah:w.heap.size<wr.heap.size:=(by omega);clear e h p E o n i
   go_wp2_with fail
   refine(l _).mono ?_;rintro q n ⟨rfl,e⟩;have ab:=e.size;simp at ab;have h:=(jG _ _).trans (e.mono (by simp));have E:=X (j.trans (h.mono z));have o:=X (f.trans (h.mono f.size));have ai:=jH h M;have l4:n.cell? (D wr.heap.size 4)=some (Y x.2.2.v):=(by rw[e.cell (by simp)];exact jJ 4 rfl);have l5:n.cell? (D wr.heap.size 5)=some (Y x.2.2.f):=(by rw[e.cell (by simp)];exact jJ 5 rfl);have l6:n.cell? (D wr.heap.size 6)=some (Zk A x.2.2.e B):=(by rw[e.cell (by simp)];exact jJ 6 rfl);have p:=X (iW a b d x.2.2 A B n (kD o u) (jI h aa));rw[y.out,<-G.out] at p;clear e h l G C R S U V W k6;by_cases e:s=0
   .have l:Hid (Z=if g=0 then tW a (c.drop (k+1)) else g):=by show _=_;rw[m.out,jB e]
    subst e;clear m
    go_wp2_with fail
    refine p.mono ?_;rintro q S ⟨rfl,h⟩;have C:=X (E.trans (h.mono (by have:=E.size;rw[qE] at this;exact this)));have G:=X (o.trans (h.mono o.size));clear h p;by_cases h:g=0
    .have R:Hid (Z=tW a (c.drop (k+1))):=by show _=_;rw[l.out,jB h]
     subst h;clear l
     go_wp2_with fail
     go_roundw
     case rel=>exact⟨k+1,by omega,by go_num,R,C⟩
     case measure=>simp[intOf];omega
    have U:(g !=0)=true:=(by simpa using h);obtain rfl:Z=g:=by rw[l.out,jC h]
    clear l h;go_wp2;go_ret;exact⟨rfl,G⟩
   have h:(s !=0)=true:=(by simpa using e);obtain rfl:Z=s:=by rw[m.out,jC e]
   clear m e p;go_wp2;go_ret;exact⟨rfl,o⟩
  have e:k=c.length:=by omega
  subst e;obtain rfl:Z=0:=by rw[i.out,dX];rfl
  clear i;go_wp2;go_ret;exact⟨rfl,f⟩
def wR(b:Zn)(p:Zo)(i:Nat)(a:Zm)(u:Zo)(z:Nat)(w:N)(c:jV w b p)(M:a.length<=9223372036854775807)(k:∀d,d∈a->d.length<=9223372036854775807)(l:zM w a u):
 Calls Zf 14 #[.agg #[.slice p b.length i],.slice u a.length z] w λq A=>q=.returned (Y (kJ b a))/\Zb w A:=by
 have g:=X (λo=>Lo i (qD o c));obtain⟨E,h⟩:=Ze (qT b);obtain⟨Z,j⟩:=Ze (kJ b a);rw[<-h] at g;rw[<-j];have e:=X h;have f:=X j;have B:=X c;have v:=X l;have C:=X k;clear h j c l k
 go_in
 go_wp2_with fail
 refine(g _).mono ?_;rintro q r ⟨rfl,c⟩;have O:w.heap.size+1<=r.heap.size:=by have:=c.size;simp at this;omega
 have h:=(jG _ _).trans (c.mono (by simp));have G:r.cell? (D w.heap.size 0)=some (Zk p b i):=by
  rw[c.cell (by simp)];exact jJ 0 rfl
 have j:=X h;clear c h g;by_cases c:E=0
 .have g:Hid (Z=if 60<a.length then 2 else mK b a):=by show _=_;rw[f.out,kJ,jB (e.out.symm.trans c)]
  have H:=X (e.symm.trans c);subst c;by_cases s:60<a.length
  .obtain rfl:Z=2:=by rw[g.out,jB s]
   have I:(60:Int)<a.length:=(by omega);clear g f s;go_wp2;go_ret;exact⟨rfl,j⟩
  have J:Hid (Z=mK b a):=by show _=_;rw[g.out,jC s]
  have I:¬(60:Int)<a.length:=by omega
  clear g f;go_wp2
  go_loopw [19] (λg wr=>∃k:Nat,k<=a.length/\g=Y k/\Hid (Z=mK b (a.drop k))/\Hid (Zb r wr)) (λg _=>a.length - (intOf g).toNat)
  case atStart=>exact⟨0,jY _,rfl,by rw[uU];exact J,jW _ _⟩
  case round=>
   obtain⟨k,P,rfl,l,m⟩:=hrel;have g:=X (j.trans (m.mono j.size));have Q:=jH m G;by_cases K:k<a.length
   .obtain⟨R,S,rfl⟩:=uL v (by omega)
    obtain⟨d,h⟩:=Zg K;obtain⟨U,L,V,x⟩:=iX (dG g v) h;have n:=LR (b:=b) h;rw[<-l.out] at n;have t:=X (LM i L H (kD g B) (C d (jU h)) x);obtain⟨F,y⟩:=Ze (nE b d);rw[<-y] at t n;have o:=X n;have W:(k:Int)<a.length:=(by omega);have aa:(0:Int)<=k:=(by omega);clear n y h x l
    go_wp2_with fail
    refine t.mono ?_;rintro q y ⟨rfl,h⟩;have n:=X (m.trans (h.mono m.size));have x:=X (g.trans (h.mono g.size));clear h t;by_cases h:F=0
    .have t:Hid (Z=mK b (a.drop (k+1))):=by show _=_;rw[o.out,jB h]
     subst h;clear o
     go_wp2_with fail
     go_roundw
     case rel=>exact⟨k+1,by omega,by go_num,t,n⟩
     case measure=>simp[intOf];omega
    have ab:(F !=0)=true:=(by simpa using h);obtain rfl:Z=F:=by rw[o.out,jC h]
    clear o h;go_wp2;go_ret;exact⟨rfl,x⟩
   have h:k=a.length:=(by omega);subst h;obtain rfl:Z=0:=by rw[l.out,dX];rfl
   clear l;go_wp2;go_ret;exact⟨rfl,g⟩
 have g:(E !=0)=true:=by simpa using c
 obtain rfl:Z=E:=by rw[f.out,kJ,jC (λh=>c (e.out.trans h)),e.out]
 clear f e c;go_wp2;go_ret;exact⟨rfl,j⟩
end Go.Proofs.YtohdnhlfpldbmaaGreat
