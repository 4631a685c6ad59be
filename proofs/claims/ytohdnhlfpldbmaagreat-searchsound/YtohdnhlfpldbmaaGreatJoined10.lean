import Derived.Deep.Slices
import Derived.Deep.Strs
import Derived.Test.YtohdnhlfpldbmaaGreatJoined9
set_option maxRecDepth 100000
set_option maxHeartbeats 32000000
set_option linter.all false
namespace Go.Proofs.YtohdnhlfpldbmaaGreat
open Go.RowKit Go.Maps
open Go.Proofs.Tryz renaming prog->Zf
attribute [local go_sem ↓] Go.wp_at_zero Go.wp_at_succ
variable {k n m i j n1 n2 n3 n4 n5 n6 n7 n8 n9:Nat}{w u v w1 w2 w3 w4 w5:N}{x y x1 x2 x3 x4 x5 x6 x7 x8 x9:Value}{r r1 r2:Zn}{p p1 p2:Zp}{z z1 z2 z3:Int}{a a1 a2 a3 a4:Zo}{t s t1 t2:T}{c d c1 c2:Zc}{g g1 g2:TypeId}{b b1 b2:Zs}{l l1:Zt}{U V U1 U2:Zu}{B B1:Bool}
def Xk(h:jR (λa=>a=n) w u)(b:k<=n)(c:k<=w.heap.size):Below k w u:=⟨h.below.os,h.below.tape,h.below.output,h.below.size,λa d=>h.block a (by omega) (λe=>by omega)⟩
def YM{v:Zv}(h:qR k w v r):∃c d,v=.slice c r.length d/\IP (λf=>v.ownBlock=some f) w r c:=by
 have g:=Gc h;rcases h.2 with⟨rfl,e⟩|⟨i,d,l,rfl,m,n,o,p,q,s⟩
 .exact⟨none,0,by rw[e],jD (yM.1 e)⟩
 obtain⟨t,u,a,b,_⟩:=g;simp only[lH,true_and] at a;obtain⟨rfl,rfl⟩:=a;refine⟨_,_,rfl,?_⟩;rcases b with b|⟨x,y,a,j⟩
 .exact jD b
 simp only[qW,fG,and_true] at a;obtain⟨rfl,rfl⟩:=a;exact jE ⟨i,0,rfl,rfl,j⟩
def TK{g:Int->Option Int}(h:kU w k n (λj=>if j=z then some (Value.int .i64 z1) else(g j).map (Value.int .i64))):vS w k n (λj=>if j=z then some z1 else g j):=by
 have e:(λj=>if j=z then some (Value.int .i64 z1) else(g j).map (Value.int .i64))=(λj=>(if j=z then some z1 else g j).map (Value.int .i64)):=by
  funext j;split<;>rfl
 rw[e] at h;exact h
def BF{s:St}{lv:Zv}(H:HA r a k p n s lv a1 m U w)(e:xX r s)(f:s.found=true):
 Calls Zf 62 #[Zr n] w λh w'=>(∃ah ap aw,h=.returned (.slice ap ah.length aw)/\Tb s ah/\iZ (λb=>p b\/w.heap.size<=b) w' ah ap)/\Zb w w':=by
 obtain⟨W1,d⟩:=Ze (w.alloc (.map #[] 0));have g:Zb w W1:=d▸jG _ _;have o:W1.heap.size=w.heap.size+1:=by rw[d];simp
 have i:=H.below g;have q:vS W1 w.heap.size ([]:Zn).length (fC []):=by
  rw[d];have:=kU.made w;exact this
 have l:¬p w.heap.size/\w.heap.size≠n/\lv.ownBlock≠some w.heap.size:=⟨λc=>by have:=(H.S _ c).1;omega,λh=>by have:=H.lt;omega,λh=>by have:=(H.own _ h).2;omega⟩;have v:=X (WV e w.heap.size l s.h.length s.last a1 m [] W1 i (jF _) (e.jt f) ⟨eT,λb t=>by cases t⟩ q);have c:=λj=>i.cells j;have O:=c 4;have P:=c 5;have u:=c 6;have Q:=c 7;have R:=c 8;have S:=c 9;have V:=c 10;have W:=c 11;simp only[zG,vP,xS] at O P u Q R S V W;have y:=@run_makeMap Zf;have x:=X d;have I:=X (jM g o);have J:=X H;have F:=X e;have Hf:=X f;have M:=X l;have bd:s.h.length<=65600:=e.len;rw[d] at O P u Q R S V W;clear d g o H i q l c e f
 go_in
 go_wp2_with fail
 rw[<-x.out];refine v.mono ?_;rintro h w2 ⟨rfl,⟨d,g,e,i⟩,l⟩;have o:Zb w w2:=I.1.trans (Xk l (jF _) (by have:=I.2;omega));have ax:=X g;have aq:=X e;have be:=e.len F.kj.1;have f:Hid (vS (w2.alloc (.cells #[.map (some w.heap.size)] 132)) w.heap.size d.length (fC d)):=X (i.below (jG _ _));have q:=X (TX (some w.heap.size) w2);have C:=X o;clear o g e i l v O P u Q R S V W x y
 go_wp2_with fail
 refine q.mono ?_;rintro h w3 ⟨rfl,e⟩;have i:=X (jC8 w.heap.size d.length (λb=>(fC d b).map (Value.int .i64)) d (by omega) aq.nd (λx=>by by_cases o:x∈d<;>simp[fC,o]) w2.heap.size w3 (e▸f) (e▸jJ 0 rfl));have Z:=X (show Zb w w3 by rw[e];exact C.trans ((jG _ _).mono C.size));have l:Hid (vS w3 w.heap.size d.length (fC d)):=X (e▸f);have E:Hid (w.heap.size<w3.heap.size):=X (by rw[e];have:=C.size;simp;omega);clear e q f
 go_wp2_with fail
 refine i.mono ?_;rintro h w4 ⟨ai,rfl,f,e⟩;obtain⟨L,g⟩:=Ze (d.mergeSort (λx y=>decide (x<=y)));rw[<-g] at f;have q:L.length=d.length:=by rw[g,sK]
 have v:∀x,x∈L->s.Z<=x/\x<(s.h.length:Int):=λx o=>aq.rg x (by rw[g] at o;exact(List.mergeSort_perm _ _).mem_iff.1 o);obtain⟨va,vc,hv,z⟩:=YM f;have A:=kO f;subst hv;have aa:=X z;have ab:=X A;have HL:=X (jM q v);have bf:L.length<=65600:=by omega
 have ac:=X (Z.trans (e.mono Z.size));have af:Hid (vS w4 w.heap.size d.length (fC d)):=X (l.below e);have ak:Hid (w.heap.size<w4.heap.size):=X (by have:=E.out;have:=e.size;omega);have al:=X e.size;clear f z A q v g i l e;go_wp2
 go_loopw [23] (λf wr=>∃(b G:Nat)(g:Int->Option Int),b<=L.length/\f=Y b/\G<=d.length+b/\Hid (d=[]->g=λ_=>none)/\Hid (vS wr w.heap.size G g)/\Hid (jR (λb=>b=w.heap.size) w4 wr)) (λf wr=>L.length - (intOf f).toNat)
 case atStart=>exact⟨0,d.length,fC d,jY _,rfl,jF _,X (λh=>by rw[h];funext b;simp[fC]),af,X (jR.refl _ _)⟩
 case round=>
  obtain⟨b,G,g,t,rfl,hn,Hg,ae,l⟩:=hrel;by_cases v:b<L.length
  .obtain⟨x,o⟩:=Zg v
   have ar:=HL.2 x (jU o);obtain⟨rb,ro,rfl,ay,K⟩:∃z H,va=some (D z H)/\(Value.slice va L.length vc).ownBlock=some z/\∀i,i<L.length->Zq w4 z (H+i) (Y (L.getD i 0)):=by
    rcases aa with n|n
    .rw[n] at v;simp at v
    exact n
   have ad:wr.cell? (D rb (ro+b))=some (Y x):=by
    have e:=K b v;rw[show L.getD b 0=x by simp[List.getD,o]] at e;exact l.cell (show ¬rb=w.heap.size by have:=(ab rb ay).1;have:=E.out;omega) e
   have q:jR (λb=>b=w.heap.size) w wr:=(jR.A ac).trans l;have e:=(J.kp q (λb t=>t▸M)).cells 2;simp only[zG,vP,xS] at e;have az:(b:Int)<L.length:=(by omega);have a0:(0:Int)<=b:=(by omega);have a2:=F.kj;have a3:Hid (d≠[]):=X (λh=>by have:=HL.1;rw[h] at this;simp at this;rw[this] at v;simp at v);clear o K q
   go_upto_region 8 with (at_mapUpdate;refine iR _ rfl _ _ _ 132 rfl 3 Tryz.underlying132 w.heap.size G (λb=>(g b).map (Value.int .i64)) rfl ae (by unfold maxLen;omega) x _ (by first|rfl|simp[go_sem]) rfl (by omega) (by omega) ?_;intro B A ag)
   have a4:=X (TK (by first|exact A));have a5:=X (l.trans (Xl ag));clear A ag ad e
   go_wp2_with fail
   go_roundw
   case rel=>exact⟨b+1,G+1,_,by omega,by go_num,by omega,X (λh=>jN h a3),a4,a5⟩
   case measure=>simp[intOf];omega
  obtain rfl:b=L.length:=by omega
  obtain⟨A,rfl⟩:=Ze wr;have q:jR (λb=>b=w.heap.size) w A:=(jR.A ac).trans l;have aj:=X (Xk q (jF _) (jF _));have au:=X (J.kp q (λb t=>t▸M))
  have a6:Hid (∀i,i<L.length->∃z H,va=some (D z H)/\Zq A z (H+i) (Y (L.getD i 0))):=X (λi e=>by
   rcases aa with n|⟨z,H,h1,h2,h3⟩
   .rw[n] at e;simp at e
   exact⟨z,H,h1,l.cell (show ¬z=w.heap.size by have:=(ab z h2).1;have:=E.out;omega) (h3 i e)⟩)
  have bg:Hid (w.heap.size<A.heap.size):=X ae.lt;clear q l af M J aa ab al ak E ac Z C I hn t v
  go_upto_region 11 with fail
  go_loopw [7,40] (λai f wr=>∃(b:Nat)(fa:Zo)(fc:Nat)(I:Zu)(q:List jX),b<=L.length/\f=Y b/\ai=.slice fa b fc/\Hid (q.length=b/\∀i,i∈q->i.G.length<=1000)/\Hid (wr.ownsRow A.heap.size 81 8 (.slice fa b fc) b I/\cH p wr q I)/\Hid (Zb A wr)) (λai f wr=>L.length - (intOf f).toNat)
  case atStart=>exact⟨0,none,0,[],[],jY _,rfl,rfl,X ⟨rfl,λi e=>by cases e⟩,X ⟨Jk _ _ _ _,rfl⟩,X (jW _ _)⟩
  case round=>
   obtain⟨b,fa,fc,I,q,t,rfl,rfl,aa,C,l⟩:=hrel;have Z:=au.below l;have E:Hid (∀j,p j->j<A.heap.size):=X (λj f=>(au.S j f).1);by_cases v:b<L.length
   .obtain⟨x,o⟩:=Zg v
    have ar:=HL.2 x (jU o);have a2:=F.kj;obtain⟨M,rfl⟩:∃M:Nat,x=(M:Int):=⟨x.toNat,by omega⟩;obtain⟨rb,ro,rfl,K⟩:=a6 b v;rw[show L.getD b 0=(M:Int) by simp[List.getD,o]] at K;have ad:=jH l K;obtain⟨y,hy⟩:∃y,s.h[M]? =some y:=⟨s.h[M]'(by omega),jO _⟩;obtain⟨g2,bh,ca,cc,qa,qc,af,_,x,_,_,_,ao⟩:=Z.at hy;have ag:=Z.cells 1;simp only[zG,vP,xS] at ag;rw[af] at ag;have az:(b:Int)<L.length:=(by omega);have a0:(0:Int)<=b:=(by omega);have bi:(M:Int)<s.h.length:=(by omega);have bj:(0:Int)<=M:=(by omega);have q2:=x 2 _ rfl;have q3:=x 3 _ rfl;have q4:=x 4 _ rfl;have q5:=x 5 _ rfl;have q6:=x 6 _ rfl;have q7:=x 7 _ rfl;have q8:=x 8 _ rfl;have q9:=x 9 _ rfl;have ac:=F.src M y hy ar.1;have J:=F.kl.1 y (jU hy);have ak:0<=y.ja.left/\y.ja.left<(M:Int):=ac _ (by rw[yW];split<;>simp);have al:0<=y.ja.right/\y.ja.right<=(M:Int):=by
     by_cases h3:y.ja.L=3
     .have:=ac y.ja.right (by rw[yW,jB h3];simp)
      omega
     rw[J.2 h3];omega
    have ab:=X (Un w.heap.size G g y.ja qa qc wr (ae.below l) (by omega) (by omega));have am:=X ao;have an:=X J.1;clear x ao hy o K ac J ak al Z af
    go_wp2_with fail
    refine ab.mono ?_;rintro h B ⟨rfl,o⟩;have ac:=X o;have af:=X (λao=>vT C.1 (λg K=>((o.trans ((jG B ao).mono o.size)).block g (kO C.1 g K).2)));have a7:=o.size;have a8:=l.size;clear o ab q2 q3 q4 q5 q6 q7 q8 q9 ag ad
    go_wp2_with (at_builtin
                 go_must (refine DY rfl (.tmp 44) (.tmp 56) rfl A.heap.size b B.heap.size 1 (.slice fa b fc) (pV g y.ja) qa qc I rfl (af _) rfl (λj x x=>(jJ j rfl).trans x) (by omega) (by simp;omega) ?_)
                 intro x w6 ad ag av)
    obtain⟨a9,u,rfl⟩:=zF ad;have x:Zb A w6:=(l.trans ((ac.trans ((jG B _).mono ac.size)).mono l.size)).grown ag (by simp;omega) (λg K=>(kO C.1 g K).1);have ba:=X x;have bb:=X ad;have bc:Hid (cH p w6 (q++[pV g y.ja]) (I++(iC (pV g y.ja) qa qc).toList)):=X (Rz (Ih (λj f _=>⟨f,(x.block j (E j f)).trans (l.block j (E j f)).symm⟩) C.2) ⟨qa,qc,[],by simp,yH (λj f _=>⟨f,(x.block j (E j f)).trans (l.block j (E j f)).symm⟩) am,rfl⟩);clear ad ag av x af
    go_wp2_with fail
    go_roundw
    case rel=>
     refine⟨b+1,a9,u,_,q++[pV g y.ja],by omega,by go_num,rfl,X ⟨by rw[qB,aa.out.1];rfl,λi e=>?_⟩,X ⟨bb,bc⟩,ba⟩;rcases vD.1 e with e|e
     .exact aa.2 i e
     rw[vY.1 e];exact an
    case measure=>simp[intOf];omega
   obtain rfl:b=L.length:=by omega
   have c:=λj=>Z.cells j;have O:=c 4;have P:=c 5;have u:=c 6;have Q:=c 7;have R:=c 8;have S:=c 9;have V:=c 10;have W:=c 11;simp only[zG,vP,xS] at O P u Q R S V W;have y:=F.jt Hf;have J:=F.kl.2;have ak:0<=s.last.left/\s.last.left<(s.h.length:Int):=y _ (by rw[yW];split<;>simp);have al:0<=s.last.right/\s.last.right<=(s.h.length:Int):=by
    by_cases h3:s.last.L=3
    .have:=y s.last.right (by rw[yW,jB h3];simp)
     omega
    rw[J.2 h3];omega
   have ab:=X (Un w.heap.size G g s.last a1 m wr (ae.below l) (by omega) (by omega));have am:=X Z.jt;have an:=X J.1;clear c y J ak al Z
   go_wp2_with fail
   refine ab.mono ?_;rintro h B ⟨rfl,o⟩;have ac:=X o;have af:=X (λao=>vT C.1 (λg K=>((o.trans ((jG B ao).mono o.size)).block g (kO C.1 g K).2)));have a7:=o.size;have a8:=l.size;clear o ab O P u Q R S V W
   go_wp2_with (at_builtin
                go_must (refine DY rfl (.tmp 59) (.tmp 66) rfl A.heap.size L.length B.heap.size 1 (Zk fa L fc) (pV g s.last) a1 m I rfl (af _) rfl (λj c c=>(jJ j rfl).trans c) (by omega) (by simp;omega) ?_)
                intro c w6 ad ag av)
   go_ret;have x:Zb A w6:=(l.trans ((ac.trans ((jG B _).mono ac.size)).mono l.size)).grown ag (by simp;omega) (λg K=>(kO C.1 g K).1);have o:cH p w6 (q++[pV g s.last]) (I++(iC (pV g s.last) a1 m).toList):=Rz (Ih (λj f _=>⟨f,(x.block j (E j f)).trans (l.block j (E j f)).symm⟩) C.2) ⟨a1,m,[],by simp,yH (λj f _=>⟨f,(x.block j (E j f)).trans (l.block j (E j f)).symm⟩) am,rfl⟩;obtain⟨c,u,rfl,J,j,y⟩:=fX ad (by omega);have f:(q++[pV g s.last]).length=L.length+1:=(by rw[qB,aa.out.1];rfl);have G:iZ (λb=>p b\/w.heap.size<=b) w6 (q++[pV g s.last]) (some (D c 0)):=jE ⟨c,_,rfl,jE (by have:=aj.size;omega),j,y,Ih (λb t _=>⟨jD t,rfl⟩) o⟩;refine⟨⟨q++[pV g s.last],some (D c 0),⟨u,by rw[f];rfl⟩,⟨λt=>?_,?_,?_⟩,G⟩,aj.trans (x.mono aj.size)⟩
   .have g:=ax t
    have t:L.length=0:=(by rw[HL.out.1,g];rfl);have I:q=[]:=yM.1 (by rw[aa.out.1,t]);rw[I,Hg.out g];rfl
   .rw[f];have:=HL.1;omega
   intro i e;rcases vD.1 e with e|e
   .exact aa.2 i e
   rw[vY.1 e];exact an
abbrev sT(a:yL)(b:Zo)(c:Nat)(d:Zo)(e:Nat):Zv:=.agg #[Y a.J,.slice b a.O.length c,.slice d a.set.length e]
structure bX (K:Zp) (w:N) (a:yL) (pa sa:Zo):Prop where
 pf:iZ K w a.O pa
 st:bI K w a.set sa
 pl:a.O.length<=70000/\∀i,i∈a.O->i.G.length<=1000
 sl:a.set.length<=70000/\∀c,c∈a.set->c.length<=1000
def zX.mono{w':N}{d:Zm}(h:zX p w d k n)(e:k<w.heap.size)(c:∀b,p b->b<w.heap.size->p1 b/\w'.heap[b]? =w.heap[b]?):zX p1 w' d k n:=by
 refine⟨(c k h.1 e).1,λj f g=>?_⟩;obtain⟨i,l,m,o,q⟩:=h.2 j f g;exact⟨i,l,(kH (w:=w) (a:=(D k (n+j))) (c k h.1 e).2).trans m,o,xP c q⟩
def bI.mono{w':N}{b:Zm}(h:bI p w b a)(e:∀k,p k->k<w.heap.size->p1 k/\w'.heap[k]? =w.heap[k]?):bI p1 w' b a:=by
 by_cases d:b=[]
 .exact jD d
 rcases h with h|⟨f,g,rfl,h⟩
 .exact jN h d
 obtain⟨c,i⟩:∃c,b[0]? =some c:=by
  cases b with
  |nil=>exact jN rfl d
  |cons c b=>exact⟨c,rfl⟩
 obtain⟨l,m,j,_⟩:=h.2 0 c i;exact jE ⟨f,g,rfl,h.mono (kA j) e⟩
def bX.mono{w':N}{b:yL}(h:bX p w b a a1)(c:∀k,p k->k<w.heap.size->p1 k/\w'.heap[k]? =w.heap[k]?)(d:w.heap.size<=w'.heap.size):bX p1 w' b a a1:=
 ⟨h.pf.mono c d,h.st.mono c,h.pl,h.sl⟩
def jCu(s:St):(pH s).length<=s.h.length:=by
 rw[pH,dY];exact Bj _ _
def jCv{s:St}(h:xX r s):∀c,c∈pH s->c.length<=1000:=by
 intro c a;rw[pH,bP] at a;obtain⟨y,b,rfl⟩:=a;have:=(h.jg y (uW.1 b).1).1.1;omega
def sU{v p q:Zv}(h:w.heap[k]? =some (.cells #[v,p,q] g (0,0))):(w.cell? (D k 0)=some v/\w.cell? (D k 1)=some p/\w.cell? (D k 2)=some q)/\∀j,w.frozen? (D k j)=false:=
 ⟨⟨lJ h 0,lJ h 1,lJ h 2⟩,λj=>by simp[World.frozen?,h]⟩
def jAg{t:St}{C:Zv}(H:HA r a k p n t C a1 m U w)(E:xX r t)(al:i<=1000000):
 Calls Zf 37 #[Zr n,Y (i:Int)] w λs w'=>(∃d a1 m sa sc,s=.returned (sT d a1 m sa sc)/\bH r i t d/\bX (λb=>p b\/w.heap.size<b) w' d a1 sa)/\bB n C w w':=by
 obtain⟨A,y⟩:=Ze (w.alloc (.cells #[Y 0,Zd,Zd] 32));have z:Zb w A:=y▸jG _ _;have F:A.heap[w.heap.size]? =some (.cells #[Y 0,Zd,Zd] 32 (0,0)):=y▸World.alloc_heap_new _ _;have G:A.heap.size=w.heap.size+1:=by rw[y];simp
 have I:bY r a k p n C A t A:=bY.start (H.below z) (jW _ _);have K:sM n C w.heap.size:=λs=>s.elim (λs=>by have:=H.lt;omega) (λs=>by have:=(H.own _ s).2;omega);have V:∀b,p b->b<w.heap.size:=λb e=>(H.S b e).1;have L:Tryz.f37.results=#[.cell 4 32]:=by kernel_rfl
 have M:(Zf.info? 32).map (·.size)=some 3:=by kernel_rfl
 have W:∀(o f:N)(c:St)(v:Int)(j:List jX)(q:Zm)(g:Zo)(h:Nat)(l:Zo)(u:Nat)(x:Zp),bB n C A o->(∀b,x b->p b\/A.heap.size<=b)->A.heap.size<=o.heap.size->Zb o f->iZ (λb=>x b\/o.heap.size<=b) f j g->bI (λb=>o.heap.size<=b/\b<f.heap.size) f q l->xX r c->j.length<=c.h.length+1->(∀O,O∈j->O.G.length<=1000)->q.length<=c.h.length->(∀J,J∈q->J.length<=1000)->
  bX (λb=>p b\/w.heap.size<b) (f.setCells w.heap.size 0 [Y v,Zk g j h,Zk l q u]) ⟨v,j,q⟩ g l/\bB n C w (f.setCells w.heap.size 0 [Y v,Zk g j h,Zk l q u]):=by
  intro o f c v j q g h l u x e Q R hb hp hq ab h1 h2 h3 h4;have B:=bK (jF w.heap.size) [Y v,Zk g j h,Zk l q u] 0 f (jW w.heap.size f);have S:∀b,b≠w.heap.size->(f.setCells w.heap.size 0 [Y v,Zk g j h,Zk l q u]).heap[b]? =f.heap[b]?:=λb e=>tH e _ _ _;have ac:f.heap.size<=(f.setCells w.heap.size 0 [Y v,Zk g j h,Zk l q u]).heap.size:=B.size;have Z:∀b,(x b\/o.heap.size<=b)->b≠w.heap.size:=λb e=>by
   rcases e with e|e
   .rcases Q b e with q|q
    .have:=V b q;omega
    omega
   omega
  have aa:∀b,(x b\/o.heap.size<=b)->p b\/w.heap.size<b:=λb e=>by
   rcases e with e|e
   .rcases Q b e with q|q
    .exact jD q
    exact jE (by omega)
   exact jE (by omega)
  have ad:=ab.len;refine⟨⟨hp.mono (λb e hl=>⟨aa b e,S b (Z b e)⟩) ac,hq.mono (λb e hl=>⟨aa b (jE e.1),S b (Z b (jE e.1))⟩),⟨by show j.length<=_;omega,h2⟩,⟨by show q.length<=_;omega,h4⟩⟩,?_⟩;have q:bB n C w o:=(jR.A z).trans e;have o:bB n C w f:=q.trans (jR.A hb);exact⟨o.below.trans (B.mono (jY _)),λb e R=>(B.block b e).trans (o.block b e R)⟩
 have Q:=X W;have ah:=X y;have B:=X (jM z G);have R:=X F;have S:=X K;have ai:=X E;have o:=X I;have q:Hid (∀d,bH r i t d->bH r i t d):=X (λ_ n=>n);clear W y z G F K E I H V
 go_in
 go_upto_region 1 with fail
 rw[<-ah.out]
 go_loopw [1] (λe wr=>∃(H:Nat)(c:St),H<=i/\e=Y H/\Hid (∀d,bH r H c d->bH r i t d)/\Hid (xX r c)/\Hid (bY r a k p n C A c wr)) (λe wr=>(intOf e).toNat)
 case atStart=>exact⟨i,t,jF _,rfl,q,ai,o⟩
 case round=>
  clear q o;obtain⟨H,c,am,rfl,ab,q,Ho⟩:=hrel;obtain⟨⟨x,an,ao,ap,aq,z,F,K⟩,E⟩:=Ho;have e:=X (jM F (jM K E));have G:=X z;have o:=X (Ld z);have I:=E.below.size;have y:=z.cells 12;simp only[zG,vP,xS] at y;clear z F K E
  cases V:zQ c with
  |true=>
   rw[V] at o;have aa:Hid (∀d,rC c d->bH r i t d):=X (λd z=>ab d (bH.over V z))
   go_wp2_with fail
   refine o.mono ?_;rintro s z ⟨rfl,rfl⟩;clear o
   cases F:c.found with
   |true=>
    rw[F] at y;have W:=X (BF G q F)
    go_wp2_with fail
    refine W.mono ?_;rintro s f ⟨⟨E,g,h,rfl,Z,ac⟩,ad⟩;have K:=X (jM Z ac);have ae:=X ad;clear Z ac ad W y;have Z:f.heap[w.heap.size]? =some (.cells #[Y 0,Zd,Zd] 32 (0,0)):=(ae.block _ (by have:=B.2;omega)).trans ((e.2.2.block _ (by have:=B.2;omega) S).trans R);obtain⟨⟨k0,k1,k2⟩,W⟩:=sU Z;have p0:=W 0;have p1:=W 1;have p2:=W 2;have ac:=X Z;clear Z W
    go_wp2_with fail
    (try simp only[Exit.inBlock,Exit.then]);refine qS (v:=.agg #[Y 1,Zk g E h,Zd]) (tE (P:=Zf) (fn:=Tryz.f37) (p:=4) (ty:=32) L _ _ w.heap.size 32 #[Y 1,Zk g E h,Zd] (0,0) _ rfl (pG (U:=[Y 1,Zk g E h,Zd]) ac rfl) Tryz.underlying32 rfl M) rfl ?_;have W:=Q z f c 1 E [] g h none 0 x e.2.2 e.1.2 I ae K.2 (jD rfl) q K.1.2.1 K.1.2.2 (jY _) (λJ Z=>by cases Z);exact⟨⟨⟨1,E,[]⟩,g,h,none,0,rfl,aa _ ⟨λ_=>⟨E,K.1,rfl⟩,λn=>jN (F.symm.trans n) (by simp)⟩,W.1⟩,W.2⟩
   |false=>
    rw[F] at y;have W:=X (jW z.heap.size z);have K:z.heap[w.heap.size]? =some (.cells #[Y 0,Zd,Zd] 32 (0,0)):=(W.block _ (by have:=B.2;omega)).trans ((e.2.2.block _ (by have:=B.2;omega) S).trans R);obtain⟨⟨k0,k1,k2⟩,E⟩:=sU K;have p0:=E 0;have p1:=E 1;have p2:=E 2;have Z:=X K;clear K E
    go_wp2_with fail
    (try simp only[Exit.inBlock,Exit.then]);refine qS (v:=.agg #[Y 3,Zd,Zd]) (tE (P:=Zf) (fn:=Tryz.f37) (p:=4) (ty:=32) L _ _ w.heap.size 32 #[Y 3,Zd,Zd] (0,0) _ rfl (pG (U:=[Y 3,Zd,Zd]) Z rfl) Tryz.underlying32 rfl M) rfl ?_;have E:=Q z z c 3 [] [] none 0 none 0 x e.2.2 e.1.2 I W (jD rfl) (jD rfl) q (jY _) (λO K=>by cases K) (jY _) (λJ K=>by cases K);exact⟨⟨⟨3,[],[]⟩,none,0,none,0,rfl,aa _ ⟨λn=>jN (F.symm.trans n) (by simp),λ_=>rfl⟩,E.1⟩,E.2⟩
  |false=>
   rw[V] at o;have F:=X (UK G (by have:=q.len;omega));obtain⟨ac,z⟩:=Ze (lX c);rw[<-z] at F;have W:=UH c;rw[<-z] at W;have Hm:=X z;have ar:c.h.length<=65600:=q.len;clear z
   go_wp2_with fail
   refine o.mono ?_;rintro s w2 ⟨rfl,rfl⟩;clear o
   go_wp2_with fail
   refine F.mono ?_;rintro s E ⟨rfl,o⟩;have z:=e.2.2.trans (jR.A o);have au:=X o;have ad:=X (G.below o);have K:A.heap.size<=E.heap.size:=z.below.size;have e:=X (jM e.1 (jM e.2.1 z));have y:=ad.cells 12;simp only[zG,vP,xS] at y;clear I;have I:=K;clear o F z G K;by_cases aa:ac<0
   .obtain rfl:ac= -1:=by omega
    have o:=X (jCx ad (by omega) (λz F=>(q.jg z F).1));have K:Hid (bH r i t ⟨2,[],pH c⟩):=X (ab _ (bH.sat V (by rw[<-Hm.out];omega) rfl));clear aa W
    go_wp2_with fail
    refine o.mono ?_;rintro s f ⟨⟨l,u,rfl,z⟩,W⟩;have F:=X W;have aj:=X z;clear z W o y;have z:f.heap[w.heap.size]? =some (.cells #[Y 0,Zd,Zd] 32 (0,0)):=(F.block _ (by have:=B.2;omega)).trans ((e.2.2.block _ (by have:=B.2;omega) S).trans R);obtain⟨⟨k0,k1,k2⟩,o⟩:=sU z;have p0:=o 0;have p1:=o 1;have p2:=o 2;have Z:=X z;clear z o
    go_wp2_with fail
    (try simp only[Exit.inBlock,Exit.then]);refine qS (v:=.agg #[Y 2,Zd,.slice l (pH c).length u]) (tE (P:=Zf) (fn:=Tryz.f37) (p:=4) (ty:=32) L _ _ w.heap.size 32 #[Y 2,Zd,.slice l (pH c).length u] (0,0) _ rfl (pG (U:=[Y 2,Zd,.slice l (pH c).length u]) Z rfl) Tryz.underlying32 rfl M) rfl ?_;have G:=Q E f c 2 [] (pH c) none 0 l u x e.2.2 e.1.2 I F (jD rfl) aj q (jY _) (λO hi=>by cases hi) (jCu c) (jCv q);exact⟨⟨⟨2,[],(pH c)⟩,none,0,l,u,rfl,K,G.1⟩,G.2⟩
   obtain⟨l,rfl⟩:∃l:Nat,ac=(l:Int):=⟨ac.toNat,by omega⟩;have hj:l<c.h.length:=(by omega);have av:decide ((l:Int)<0)=false:=cX aa;clear aa;by_cases ak:H=0
   .subst ak
    have K:Hid (∀d,rC c d->bH r i t d):=X (λd ha=>ab d (bH.zero ha (by rw[<-Hm.out];omega)))
    go_upto_region 8 with fail
    cases aa:c.found with
    |true=>
     rw[aa] at y;have HP:=X (BF ad q aa)
     go_wp2_with fail
     refine HP.mono ?_;rintro s f ⟨⟨u,g,h,rfl,af,ag⟩,W⟩;have ae:=X (jM af ag);have F:=X W;clear af ag W HP y;have z:f.heap[w.heap.size]? =some (.cells #[Y 0,Zd,Zd] 32 (0,0)):=(F.block _ (by have:=B.2;omega)).trans ((e.2.2.block _ (by have:=B.2;omega) S).trans R);obtain⟨⟨k0,k1,k2⟩,o⟩:=sU z;have p0:=o 0;have p1:=o 1;have p2:=o 2;have Z:=X z;clear z o
     go_wp2_with fail
     (try simp only[Exit.inBlock,Exit.then]);refine qS (v:=.agg #[Y 1,Zk g u h,Zd]) (tE (P:=Zf) (fn:=Tryz.f37) (p:=4) (ty:=32) L _ _ w.heap.size 32 #[Y 1,Zk g u h,Zd] (0,0) _ rfl (pG (U:=[Y 1,Zk g u h,Zd]) Z rfl) Tryz.underlying32 rfl M) rfl ?_;have G:=Q E f c 1 u [] g h none 0 x e.2.2 e.1.2 I F ae.2 (jD rfl) q ae.1.2.1 ae.1.2.2 (jY _) (λJ W=>by cases W);exact⟨⟨⟨1,u,[]⟩,g,h,none,0,rfl,K _ ⟨λ_=>⟨u,ae.1,rfl⟩,λn=>jN (aa.symm.trans n) (by simp)⟩,G.1⟩,G.2⟩
    |false=>
     rw[aa] at y;have F:=X (jW E.heap.size E);have z:E.heap[w.heap.size]? =some (.cells #[Y 0,Zd,Zd] 32 (0,0)):=(F.block _ (by have:=B.2;omega)).trans ((e.2.2.block _ (by have:=B.2;omega) S).trans R);obtain⟨⟨k0,k1,k2⟩,o⟩:=sU z;have p0:=o 0;have p1:=o 1;have p2:=o 2;have Z:=X z;clear z o
     go_wp2_with fail
     (try simp only[Exit.inBlock,Exit.then]);refine qS (v:=.agg #[Y 3,Zd,Zd]) (tE (P:=Zf) (fn:=Tryz.f37) (p:=4) (ty:=32) L _ _ w.heap.size 32 #[Y 3,Zd,Zd] (0,0) _ rfl (pG (U:=[Y 3,Zd,Zd]) Z rfl) Tryz.underlying32 rfl M) rfl ?_;have G:=Q E E c 3 [] [] none 0 none 0 x e.2.2 e.1.2 I F (jD rfl) (jD rfl) q (jY _) (λO hi=>by cases hi) (jY _) (λJ g=>by cases g);exact⟨⟨⟨3,[],[]⟩,none,0,none,0,rfl,K _ ⟨λn=>jN (aa.symm.trans n) (by simp),λ_=>rfl⟩,G.1⟩,G.2⟩
   obtain⟨g,rfl⟩:∃g,H=g+1:=⟨H - 1,by omega⟩;have h:=X (VA ad q hj);have K:Hid (∀d,bH r g (iK r c (l:Int)) d->bH r i t d):=X (λd ha=>ab d (bH.succ V (by rw[<-Hm.out];omega) (Hm.out▸ha)));have j:Hid (xX r (iK r c (l:Int))):=X (UX q (by omega));have o:¬(((g+1:Nat):Int)=0):=(by omega);have u:((g+1:Nat):Int) - 1=(g:Int):=(by omega);clear y
   go_wp2_with fail
   refine h.mono ?_;rintro s f ⟨rfl,c⟩;have f:=X (bY.next e.1 e.2.1 e.2.2 c);clear c h
   go_wp2_with fail
   go_roundw
   case rel=>exact⟨g,_,by omega,by first|rfl|(simp;done)|go_num,K,j,f⟩
   case measure=>simp[intOf]
def JU{p:Zc->Bool}{a:Zm}(d:a[k]? =some c)(h:(a.take k).any p=false):(p c=false->(a.take (k+1)).any p=false)/\(p c=true->a.any p=true):=by
 constructor
 .intro b
  rw[vZ,d,uT,h];simpa using b
 intro b;rw[mW];exact⟨c,jU d,b⟩
def SW{m:Zy}{p:Zc->Bool}{b:Zm}(t:Nat)(E:b.length<=1000000)(F:∀(n:Zy)(w:N),(callFunc k n).run Zf w=.ok (.enter k n) w)
 (c:∀(d:N)(f:Zc)(o:Zo)(u:Nat),Zb w d->f∈b->kR d f o->Calls Zf k (#[.slice o f.length u]++m) d λg v=>g=.returned (.bool (p f))/\Zb d v) (e:zM w b a):
 Calls Zf 53 #[.slice a b.length t,.func (.func k) #[] m] w λg d=>(∃i:Int,g=.returned (Y i)/\decide (0<=i)=b.any p)/\Zb w d:=by
 have q:=X e;have y:=X c;clear e c
 go_in
 go_wp2
 go_loopw [8] (λi wr=>∃c:Nat,c<=b.length/\i=Y c/\Hid ((b.take c).any p=false)/\Hid (Zb w wr)) (λi _=>b.length - (intOf i).toNat)
 case atStart=>exact⟨0,jY _,rfl,rfl,jW _ _⟩
 case round=>
  obtain⟨c,G,rfl,h,e⟩:=hrel;by_cases z:c<b.length
  .obtain⟨H,I,rfl⟩:=uL q (by omega)
   obtain⟨x,j⟩:=Zg z;obtain⟨A,B,C,r⟩:=iX (dG e q) j;have l:=X (JU j h);have s:=X (y wr x A B e (jU j) r);have J:(c:Int)<b.length:=(by omega);have K:(0:Int)<=c:=(by omega);clear j r h
   go_wp2_with fail
   refine s.mono ?_;rintro g d ⟨rfl,j⟩;have r:=X (e.trans (j.mono e.size));clear j s C
   cases hd:p x with
   |false=>
    have j:=X (l.1 hd);clear l hd
    go_wp2_with fail
    go_roundw
    case rel=>exact⟨c+1,by omega,by go_num,j,r⟩
    case measure=>simp[intOf];omega
   |true=>
    have j:=X (l.2 hd);clear l hd;go_wp2;go_ret;exact⟨⟨c,rfl,by rw[j.out];simp⟩,r⟩
  have j:c=b.length:=by omega
  subst j;rw[qU] at h;go_wp2;go_ret;exact⟨⟨-1,rfl,by rw[h.out];rfl⟩,e⟩
def Jx{f:Zy}{p:Zc->Bool}{c:Zm}(g:Nat)(n:c.length<=1000000)(h:∀(i:Zy)(w:N),(callFunc k i).run Zf w=.ok (.enter k i) w)
 (j:∀(b:N)(d:Zc)(l:Zo)(o:Nat),Zb w b->d∈c->kR b d l->Calls Zf k (#[.slice l d.length o]++f) b λe q=>e=.returned (.bool (p d))/\Zb b q) (m:zM w c a):
 Calls Zf 34 #[.slice a c.length g,.func (.func k) #[] f] w λe b=>e=.returned (.bool (c.any p))/\Zb w b:=by
 have r:=X (SW g n h j m);clear j m h
 go_in
 go_wp2_with fail
 refine r.mono ?_;rintro e b ⟨⟨t,rfl,h⟩,j⟩;have m:=X h;have s:=X j;clear h j;go_wp2;go_ret;exact⟨vO m,s⟩
def PM(c:Zc)(b:Zo)(d:Nat)(w:N):Calls Zf 35 #[.slice b c.length d] w λe f=>e=.returned (.bool (c.length==0))/\Zb w f:=by
 have a:((c.length:Int)==0)=(c.length==0):=by
  cases c<;>simp
  omega
 rw[<-a];clear a
 go_in
 go_wp2;go_ret;exact⟨rfl,jW _ _⟩
theorem PF(a:Zy)(w:N):(callFunc 35 a).run Zf w=.ok (.enter 35 a) w:=by kernel_rfl
def tR(a:Zm):Bool:=a.any (λc=>c.length==0)
def Oh{b:Zm}(d:Nat)(e:b.length<=1000000)(f:zM w b a):
 Calls Zf 34 #[.slice a b.length d,.func (.func 35) #[] #[]] w λg c=>g=.returned (.bool (tR b))/\Zb w c:=
 Jx d e PF (λc h i j _ _ _=>PM h i j c) f
def LX(a:qT r=0)(b:c.length<=8)(d:qC r c):kJ r [c]=0:=by
 rw[kJ,jB a,jC (by simp),mK,jB (Jt a b d)];rfl
def Yu(a:kJ r [c]=0)(b:c.length≠0):(qN r c).length<=8/\qC r (qN r c)/\(qN r c).length≠0:=by
 obtain⟨_,d,e⟩:=mL a;rw[qN];split
 .rename_i f
  rw[f];rw[fZ,jB a];exact⟨d,(mL (DE a).1).2.2,b⟩
 exact⟨d,e,b⟩
def Ee(a:Zn)(l:Zm)(c:Nat)(b:yL):Prop:=(tR l=true->b=⟨1,[],[]⟩)/\(tR l=false->bH a c (l.foldl (mN a) mQ) b)
structure uN (ar:Zn) (s:St) (k:Nat):Prop where
 ok:xX ar s
 len:s.h.length=k
 kj:s.Z=(k:Int)
 fd:s.found=false
 jt:s.last=kZ
 lo: -2000*(k:Int) - 128<=s.work
def uN.start(a:Zn):uN a mQ 0:=⟨jDi a,rfl,rfl,rfl,rfl,by decide⟩
def uN.next{s:St}(h:uN r s k)(d:k<60)(a:kJ r [c]=0)(e:c.length≠0):uN r (mN r s c) (k+1):=by
 obtain⟨f,g,i⟩:=Yu a e;obtain⟨j,b,l,m,n⟩:=RF (mL a).1 h.ok ⟨h.len,h.kj⟩ d h.fd h.jt h.lo f g i;exact⟨j,b.1,b.2,l,m,n⟩
def SO(d:∀b,p b->b<w.heap.size)(e:IP p w r a):HA r a k p w.heap.size mQ (Zd) none 0 [] (w.alloc (.cells (oO r a k (Zd) mQ none 0) 83)):=
 ⟨World.alloc_heap_new _ _,Jk _ _ _ _,rfl,yH (λb c f=>⟨c,(jG _ _).block b f⟩) e,jD rfl,λb c=>by
  have:=d b c
  exact⟨by simp;omega,by omega,by simp[Value.ownBlock]⟩⟩
def SQ(c:Zn)(o:Zo)(q:Nat)(l:Zm)(O:Zo)(lc C:Nat)(w:N)(K:Zp)(j:∀k,K k->k<w.heap.size)(n:IP K w c o)(y:bI K w l O)(r:kJ c l=0)(af:C<=1000000):
 Calls Zf 15 #[.agg #[.slice o c.length q],.slice O l.length lc,Y (C:Int)] w λe Q=>(∃a f i g m,e=.returned (sT a f i g m)/\Ee c l C a/\bX (λk=>(K k\/w.heap.size<=k)/\k<Q.heap.size) Q a f g)/\Zb w Q:=by
 obtain⟨E,b⟩:=Ze ((w.alloc (.cells #[Zk o c q] 24)).alloc (.cells #[Y 0,Zd,Zd] 32));have d:Zb w E:=b▸kF _ _ _;have s:E.heap.size=w.heap.size+2:=by rw[b];simp
 have t:E.cell? (D w.heap.size 0)=some (Zk o c q):=by rw[b,kW (by simp)];exact jJ 0 rfl
 have u:E.heap[w.heap.size+1]? =some (.cells #[Y 0,Zd,Zd] 32 (0,0)):=by
  rw[b];have:=World.alloc_heap_new (w.alloc (.cells #[Zk o c q] 24)) (.cells #[Y 0,Zd,Zd] 32 (0,0));rw[qE] at this;exact this
 obtain⟨x,ax,z⟩:=cV r;have ab:Tryz.f15.results=#[.cell 6 32]:=by kernel_rfl
 have ac:(Zf.info? 32).map (·.size)=some 3:=by kernel_rfl
 have A:=X (Oh lc (by omega) (dG d y.clauses));have B:=X b;have h:=X (jM d s);have ag:=X u;have ah:=X t;have R:=X j;have Hg:=X n;have Hl:=X y;have S:=X z;have ai:=X x;clear b d s u t j n y r z x
 go_in
 go_upto_region 1 with fail
 rw[<-B.out]
 go_wp2_with fail
 refine A.mono ?_;rintro e r ⟨rfl,b⟩;have ay:=b.size;have t:=jH b ah;have U:=X ((b.block (w.heap.size+1) (by have:=h.2;omega)).trans ag);have F:=X (h.1.trans (b.mono h.1.size));clear A b B
 cases b:tR l with
 |true=>
  obtain⟨⟨j,n,s⟩,d⟩:=sU U;have u:=d 0;have x:=d 1;have z:=d 2;clear d t
  go_wp2_with fail
  (try simp only[Exit.inBlock,Exit.then]);refine qS (v:=.agg #[Y 1,Zd,Zd]) (tE (P:=Zf) (fn:=Tryz.f15) (p:=6) (ty:=32) ab _ _ (w.heap.size+1) 32 #[Y 1,Zd,Zd] (0,0) _ rfl (pG (U:=[Y 1,Zd,Zd]) U rfl) Tryz.underlying32 rfl ac) rfl ?_;refine⟨⟨⟨1,[],[]⟩,none,0,none,0,rfl,⟨λ_=>rfl,λd=>jN (b.symm.trans d) (by simp)⟩,jD rfl,jD rfl,⟨by simp,λd d=>by cases d⟩,⟨by simp,λd d=>by cases d⟩⟩,bK (show w.heap.size<=w.heap.size+1 by omega) [Y 1,Zd,Zd] 0 _ F⟩
 |false=>
  obtain⟨G,j⟩:=Ze (r.alloc (.cells #[Zk o c q,Zd,Y 0,Y 262144,Y 0,Y 0,Y 0,Y 0,Y 0,.bool false,.bool false,Zd,.bool false] 83));have x:Zb r G:=j▸jG _ _;have z:G.heap.size=r.heap.size+1:=by rw[j];simp
  have A:∀k,K k->k<r.heap.size:=λk u=>by have:=R k u;have:=h.2;omega
  have B:HA c o q K r.heap.size mQ (Zd) none 0 [] G:=by
   rw[j];exact SO A (yH (λk u y=>⟨u,F.block k y⟩) Hg)
  have H:=X (bY.start B (jW _ _));have aj:=X j;have n:=X (jM x z)
  have ad:Hid (∀d,d∈l->d.length≠0):=X (λd s I=>by
   rw[tR,List.any_eq_false] at b
   exact b d s (by simp[I]))
  have ak:=X b;clear j x z B A b
  go_upto_region 4 with fail
  rw[<-aj.out];clear t
  go_wp2_with fail
  have j:Hid (mQ=(l.take 0).foldl (mN c) mQ):=X rfl
  go_loopw [19] (λb wr=>∃(k:Nat)(t:St),k<=l.length/\b=Y k/\Hid (t=(l.take k).foldl (mN c) mQ)/\Hid (uN c t k)/\Hid (bY c o q K r.heap.size (Zd) G t wr)) (λb wr=>l.length - (intOf b).toNat)
  case atStart=>exact⟨0,mQ,jY _,rfl,j,X (uN.start c),H⟩
  case round=>
   clear j H;obtain⟨k,t,u,rfl,Hk,H,Ho⟩:=hrel;obtain⟨⟨R',al,am,an,az,I,z,J⟩,A⟩:=Ho;have L:∀j,K j->wr.heap[j]? =w.heap[j]?:=λj b=>by
    have u:=R j b;have x:=h.2;have B:=n.2;rw[A.block j (by omega) (λe=>e.elim (λe=>by omega) (λe=>by simp[Value.ownBlock] at e)),n.out.1.block j (by omega)];exact F.block j u
   by_cases V:k<l.length
   .obtain⟨d,s⟩:=Zg V
    obtain⟨B,M,rfl,W⟩:∃B M,O=some (D B M)/\zX K w l B M:=by
     rcases Hl with u|u
     .rw[u] at V;simp at V
     exact u
    obtain⟨ca,cc,h1,u,h3⟩:=W.2 k d s;have ae:=(kH (w:=w) (a:=(D B (M+k))) (L B W.1)).trans h1;have x:=jU s;have Z:=LX ai (S d x).1 (S d x).2;have aa:=Yu Z (ad d x);have HG:=X (RH I (by have:=H.len;omega) (λao hy=>(H.ok.jg ao hy).1) (by have:=(S d x).1;omega) u aa.1 aa.2.1 (xP (λj b _=>⟨z.1 j b,L j b⟩) h3));have ao:=X (H.next (by omega) Z (ad d x));have ap:Hid (mN c t d=(l.take (k+1)).foldl (mN c) mQ):=X (by rw[vZ,s,List.foldl_append,<-Hk.out];rfl);have d:=X (jM z (jM J A));have a0:(k:Int)<l.length:=(by omega);have a1:(0:Int)<=k:=(by omega);clear I z J A L W h1 u h3 x Z aa s
    go_wp2_with fail
    refine HG.mono ?_;rintro e s ⟨rfl,⟨R2,aq,ar,x,W,Z⟩,aa⟩;have au:=X (bY.next d.1 d.2.1 d.2.2 ⟨⟨R2,aq,am,an,ar,W,x,Z⟩,aa⟩);clear x W Z aa HG ae
    go_wp2_with fail
    go_roundw
    case rel=>exact⟨k+1,_,by omega,by go_num,ap,ao,au⟩
    case measure=>simp[intOf];omega
   obtain rfl:k=l.length:=by omega
   have W:=X (jAg I H.ok af);have d:=X (jM z (jM J A));have av:Hid (t=l.foldl (mN c) mQ):=X (by rw[Hk.out,qU]);clear I z J A L
   go_wp2_with fail
   refine W.mono ?_;rintro e s ⟨⟨a,f,i,g,m,rfl,J,L⟩,x⟩;have a2:=x.below.size;have a3:=d.2.2.below.size;have z:(w.heap.size+1)≠r.heap.size:=(by have:=h.2;omega);have Z:al.ownBlock≠some (w.heap.size+1):=λe=>by
    rcases d.2.1 with t|⟨A,q1,q2⟩
    .rw[t] at e;simp[Value.ownBlock] at e
    rw[q1] at e;injection e with e;have:=n.2;have:=h.2;omega
   have I:s.heap[w.heap.size+1]? =some (.cells #[Y 0,Zd,Zd] 32 (0,0)):=by
    have u:=h.2;have t:=n.2;rw[x.block _ (by omega) (λe=>e.elim z Z),d.out.2.2.block _ (by omega) (λe=>e.elim z (λe=>by simp[Value.ownBlock] at e)),n.out.1.block _ (by omega)];exact U
   obtain⟨⟨k0,k1,k2⟩,A⟩:=sU I;have p0:=A 0;have p1:=A 1;have p2:=A 2;have aw:=X I;have aa:=X (jM J L)
   have ae:=Ik d.2.2 x (λj b=>by
    rcases b with b|b
    .exact jE (jD b)
    rcases d.2.1 with t|⟨a4,q1,q2⟩
    .exact jE (jE (t▸b))
    rw[q1] at b;injection b with b;exact jD (by omega))
   have t:=X ae;have a4:=X z;clear I A J L x W ae Z z
   go_wp2_with fail
   (try simp only[Exit.inBlock,Exit.then]);refine qS (v:=.agg #[Y a.J,Zk f a.O i,Zk g a.set m]) (tE (P:=Zf) (fn:=Tryz.f15) (p:=6) (ty:=32) ab _ _ (w.heap.size+1) 32 #[Y a.J,Zk f a.O i,Zk g a.set m] (0,0) _ rfl (pG (U:=[Y a.J,Zk f a.O i,Zk g a.set m]) aw rfl) Tryz.underlying32 rfl ac) rfl ?_;have z:=bK (show w.heap.size<=w.heap.size+1 by omega) [Y a.J,Zk f a.O i,Zk g a.set m] 0 s (jW w.heap.size s);have A:Zb w s:=by
    have u:=h.2;have I:=n.2;have x:=F.trans (n.1.mono (B':=w.heap.size) (by omega));exact⟨t.below.os.trans x.os,t.below.tape.trans x.tape,t.below.output.trans x.output,kN x.size t.below.size,λj b=>(t.block j (by omega) (λe=>e.elim (λe=>by omega) (λe=>by simp[Value.ownBlock] at e))).trans (x.block j b)⟩
   have I:bX (λk=>(K k\/w.heap.size<=k)/\k<(s.setCells (w.heap.size+1) 0 [Y a.J,Zk f a.O i,Zk g a.set m]).heap.size) (s.setCells (w.heap.size+1) 0 [Y a.J,Zk f a.O i,Zk g a.set m]) a f g:=by
    refine aa.2.mono (λj b x=>⟨⟨?_,kV x z.size⟩,tH ?_ _ _ _⟩) z.size
    .have u:=h.2
     have J:=n.2;rcases b with b|b
     .rcases d.1.2 j b with x|x
      .exact jD x
      exact jE (by omega)
     exact jE (by omega)
    have u:=h.2;have x:=n.2;rcases b with b|b
    .rcases d.1.2 j b with b|b
     .have:=R j b;omega
     omega
    omega
   have b:Ee c l C a:=⟨λj=>jN (ak.symm.trans j) (by simp),λ_=>by rw[<-av.out];exact aa.1⟩;exact⟨⟨a,f,i,g,m,rfl,b,I⟩,A.trans z⟩
def vU:yL:=⟨2,[],[[(true,⟨1,0,[]⟩,⟨2,0,[]⟩)]]⟩
def JF(w:N):Calls Zf 16 #[] w λp d=>(∃e q f r,p=.returned (sT vU e q f r)/\bX (λk=>w.heap.size<=k/\k<d.heap.size) d vU e f)/\Zb w d:=by
 obtain⟨a,c⟩:=Ze (((w.alloc (.cells #[Y 2,.slice none 0 0,.slice (some ⟨w.heap.size+1+1,0,none⟩) 1 1] 32)).alloc (.cells #[.bool true,Y 1,Y 0,.slice none 0 0,Y 2,Y 0,.slice none 0 0] 47)).alloc (.cells #[.slice (some ⟨w.heap.size+1,0,none⟩) 1 1] 39));have g:Zb w a:=c▸bJ _ _ _ _;have h:a.heap.size=w.heap.size+3:=by rw[c];simp
 have i:a.heap[w.heap.size]? =some (.cells #[Y 2,.slice none 0 0,.slice (some ⟨w.heap.size+1+1,0,none⟩) 1 1] 32 (0,0)):=by
  rw[c,zL _ _ _ (by simp;omega),zL _ _ _ (by simp)];exact World.alloc_heap_new _ _
 have b:∀j u,(#[.bool true,Y 1,Y 0,.slice none 0 0,Y 2,Y 0,.slice none 0 0]:Zy)[j]? =some u->a.cell? ⟨w.heap.size+1,j,none⟩=some u:=λj u l=>by
  rw[c,kW (by simp)];exact(jJ j (by simp)).trans l
 have l:a.cell? ⟨w.heap.size+1+1,0,none⟩=some (.slice (some ⟨w.heap.size+1,0,none⟩) 1 1):=by rw[c];exact jJ 0 (by simp)
 have s:Tryz.f16.results=#[.cell 0 32]:=by kernel_rfl
 have t:(Zf.info? 32).map (·.size)=some 3:=by kernel_rfl
 have m:qA (λk=>w.heap.size<k) a [(true,⟨1,0,[]⟩,⟨2,0,[]⟩)] (some ⟨w.heap.size+1,0,none⟩):=by
  refine⟨w.heap.size+1,0,none,0,none,0,rfl,by show w.heap.size<w.heap.size+1;omega,b 0 _ rfl,b 1 _ rfl,b 2 _ rfl,b 3 _ rfl,b 4 _ rfl,b 5 _ rfl,b 6 _ rfl,trivial,trivial,trivial⟩
 have u:=X c;have v:=X i;have n:=X (jM g h);have o:=X (jM m l);clear c i g h m b l
 go_in
 go_wp2_with fail
 rw[<-u.out];refine qS (tE s _ _ w.heap.size 32 #[Y 2,.slice none 0 0,.slice (some ⟨w.heap.size+1+1,0,none⟩) 1 1] (0,0) _ rfl v Tryz.underlying32 rfl t) rfl ?_;have c:bI (λk=>w.heap.size<=k/\k<a.heap.size) a vU.set (some ⟨w.heap.size+1+1,0,none⟩):=by
  refine jE ⟨w.heap.size+1+1,0,rfl,by show w.heap.size<=w.heap.size+1+1/\w.heap.size+1+1<a.heap.size;have:=n.2;omega,λj g b=>?_⟩
  match j,b with
  |0,b=>
   obtain rfl:[(true,⟨1,0,[]⟩,⟨2,0,[]⟩)]=g:=by simpa[vU] using b
   exact⟨_,1,o.2,by simp,xP (λk b g=>⟨⟨Nat.le_of_lt b,g⟩,rfl⟩) o.1⟩
 exact⟨⟨none,0,some ⟨w.heap.size+1+1,0,none⟩,1,rfl,jD rfl,c,⟨by decide,λi b=>by cases b⟩,⟨by decide,λb b=>by
  rw[show vU.set=[[(true,⟨1,0,[]⟩,⟨2,0,[]⟩)]] from rfl,vY] at b
  rw[b];decide⟩⟩,n.1⟩
def RX{b:Int->T}:∀(n:Nat)(p t:T)(a:Zs),p.E<=n->jQ r p->sub b p=t->(∀v u,kC a v=some u->b v=u)->∃d,kG p t a=some d/\∀v u,kC d v=some u->b v=u:=by
 intro n;induction n with
 |zero=>intro p t a k;have:=p.I;omega
 |succ n l=>
  intro p t a k m f g;have F:=T.M p;rw[nG];by_cases h:p.v≠0
  .rw[jB h]
   rw[mR h] at f
   cases j:kC a p.v with
   |some u=>
    have c:=g _ _ j;have e:kS u t=true:=nI.2 (by rw[<-c,f]);exact⟨a,by simp only[e,if_true],g⟩
   |none=>
    refine⟨_,rfl,λv u c=>?_⟩;by_cases e:v=p.v
    .subst e
     rw[Pn j] at c;rw[<-kT c];exact f
    rcases Xu c with c|c
    .exact g v u c
    exact jN c.symm e
  have o:p.v=0:=by omega
  rw[jC h];rw[mA o] at f;subst f;have q:¬((⟨0,p.f,p.e.map (sub b)⟩:T).v≠0\/p.f≠(⟨0,p.f,p.e.map (sub b)⟩:T).f):=by simp
  rw[jC q];have s:∀(e:Zt)(a:Zs),(∀c,c∈e->c.E<=n/\jQ r c)->(∀v u,kC a v=some u->b v=u)->∃d,kG.growL e (e.map (sub b)) a=some d/\∀v u,kC d v=some u->b v=u:=by
   intro e;induction e with
   |nil=>intro a _ i;exact⟨a,rfl,i⟩
   |cons c e w=>
    intro a e i;obtain⟨x,y,z⟩:=l c _ a (e c vX).1 (e c vX).2 rfl i;obtain⟨d,A,B⟩:=w x (λC E=>e C (vG _ E)) z;refine⟨d,?_,B⟩;rw[yI,aS,y];exact A
  exact s p.e a (λc c=>⟨by have:=xJ c;omega,xF m c⟩) g
def Yk{a:Int->T}(c:kI r [t,s]=0)(h:sub a t=s):(qM r t s).2.1=true/\∀v u,kC (qM r t s).1 v=some u->a v=u:=by
 obtain⟨g,d,i,j⟩:=oT c;obtain⟨k,e,f⟩:=RX (b:=a) t.E t s [] (jF _) d h (λv u b=>by cases b);rw[qM,jB c,e];exact⟨rfl,λv u b=>f v u (by rw[<-Kw];exact b)⟩
def DR{b:Int->T}{l:Lit}(f:kI r [l.2.1,t]=0)(g:kI r [l.2.2,s]=0)(h:sub b l.2.1=t)(i:sub b l.2.2=s):fI r l t s/\∀v u,zP r l t s v=some u->b v=u:=by
 obtain⟨j,d⟩:=Yk f h;obtain⟨k,e⟩:=Yk g i;refine⟨⟨j,k,λv c u m a=>by rw[<-d v c m,e v u a]⟩,λv u a=>?_⟩
 have m:zP r l t s v=match kC (qM r l.2.2 s).1 v with
  |some u=>some u
  |none=>kC (qM r l.2.1 t).1 v:=rfl
 rw[m] at a
 cases c:kC (qM r l.2.2 s).1 v with
 |some x=>rw[c] at a;obtain rfl:=kT a;exact e v _ c
 |none=>rw[c] at a;exact d v u a
def DP{l:Lit}(h:fI r l t s)(b:z≠0)(a:zE z l.2.1\/zE z l.2.2):∃u,zP r l t s z=some u:=by
 obtain⟨d,e,i⟩:=h
 have f:zP r l t s z=match kC (qM r l.2.2 s).1 z with
  |some u=>some u
  |none=>kC (qM r l.2.1 t).1 z:=rfl
 rw[f]
 cases g:kC (qM r l.2.2 s).1 z with
 |some x=>exact⟨x,rfl⟩
 |none=>
  rcases a with a|a
  .exact(Kx d).1 z b a
  obtain⟨u,c⟩:=(Kx e).1 z b a;rw[g] at c;cases c
def DQ{l:Lit}{h:Int->Nat}(c:fI r l t s)(d:fI r l t1 t2)(g:mJ (bS h (zP r l t s)) (bS h (zP r l t1 t2))):bS h (zP r l t s)=bS h (zP r l t1 t2):=by
 funext v;have a:=g v;rw[bS,bS] at a ⊢;by_cases e:h v=1
 .rw[jB e,jB e]
 rw[jC e,jC e] at a ⊢
 cases b:zP r l t s v with
 |some x=>
  have:=(Dv c).1 v x b;obtain⟨u,f⟩:=DP d this.1 this.2;rw[f,a x u b f]
 |none=>
  cases i:zP r l t1 t2 v with
  |none=>rfl
  |some y=>
   have:=(Dv d).1 v y i;obtain⟨u,f⟩:=DP c this.1 this.2;rw[b] at f;cases f
def DV{l k:Lit}:∀{d:Zc}{b:List kE},rQ r l d b->k∈d->k.1=l.1->(fI r l k.2.1 k.2.2->zP r l k.2.1 k.2.2∈b)/\(fI r l k.2.2 k.2.1->zP r l k.2.2 k.2.1∈b):=by
 intro d;induction d with
 |nil=>intro b _ c;cases c
 |cons x d h=>
  intro b i c g;obtain⟨n,o,rfl,j,m⟩:=i;rcases qO.1 c with rfl|c
  .obtain⟨p,q,rfl,e,f⟩:=j.1 g
   exact⟨λa=>by rw[e.1 a];simp,λa=>by rw[f.1 a];simp⟩
  obtain⟨e,f⟩:=h m c g;exact⟨λa=>bF _ (e a),λa=>bF _ (f a)⟩
def US(g:qT r=0)(h:qC r c)(hd:qC r d){l k:Lit}(i:l∈c)(j:k∈d):(kI r [l.2.1,k.2.1]=0/\kI r [l.2.2,k.2.2]=0)/\kI r [l.2.1,k.2.2]=0/\kI r [l.2.2,k.2.1]=0:=by
 have a:=h l i;have b:=hd k j
 have e:∀{s t:T},(s.E<=120/\jQ r s)->(t.E<=120/\jQ r t)->kI r [s,t]=0:=λm n=>rR.2 ⟨g,λx f=>by
  rcases qO.1 f with rfl|f
  .exact m
  rw[vY.1 f];exact n⟩
 exact⟨⟨e a.1 b.1,e a.2 b.2⟩,e a.1 b.2,e a.2 b.1⟩
def jEc{b:List (List kE)}{k:Int->T}(a:qT r=0)(w:qC r c)(hd:qC r d)(y:b.length=c.length)(z:wN r c d b)(A:Ax k c d):cF b:=by
 have B:∀i:Nat,∃x:kE,(∀v u,x v=some u->k v=u)/\∀a,b[i]? =some a->x∈a:=λi=>by
  cases n:b[i]? with
  |none=>exact⟨λ_=>none,(λv u h=>(by cases h)),(λa h=>(by cases h))⟩
  |some P=>
   have C:i<c.length:=(by rw[<-y];exact(Zl n));have o:=jO C;have p:=jU o;obtain⟨E,l,q⟩:=z i _ _ o n;obtain⟨Q,m,s,F⟩:=A _ p;obtain⟨⟨G,H⟩,I,J⟩:=US a w hd p m;have K:∃e f,fI r c[i] e f/\zP r c[i] e f∈E/\∀v u,zP r c[i] e f v=some u->k v=u:=by
    rcases F with⟨q1,q2⟩|⟨q1,q2⟩
    .obtain⟨g,j⟩:=DR G H q1 q2
     exact⟨_,_,g,(DV l m s).1 g,j⟩
    obtain⟨g,j⟩:=DR I J q1 q2;exact⟨_,_,g,(DV l m s).2 g,j⟩
   obtain⟨e,f,t,L,M⟩:=K;obtain⟨x,g,j⟩:=q.2 _ L;obtain⟨R,O,rfl⟩:=q.1 x g;refine⟨bS (zW c) (zP r c[i] e f),λv u e=>?_,λa h=>?_⟩
   .rw[bS] at e
    split at e
    .cases e
    exact M v u e
   obtain rfl:=kT h;obtain⟨f,_,_,e|e⟩:=DW l O
   .rw[e.2] at j g
    rw[DQ t e.1 j];exact g
   rw[e.2] at j g;rw[DQ t e.1 j];exact g
 obtain⟨C,e⟩:=Ma B;exact⟨C,λi f h=>(e i).2 f h,λi j _ _ v t u f g=>by rw[<-(e i).1 v t f,(e j).1 v u g]⟩
def jD3(h:Jh r c d B z):z=kJ r [c,d]/\(kJ r [c,d]≠0->B=false)/\(kJ r [c,d]=0->(B=true↔∃b:Int->T,Ax b c d)):=by
 by_cases a:kJ r [c,d]=0
 .obtain⟨e,n,g,i,k⟩:=h.2 a
  refine⟨by rw[e,a],λh=>jN a h,λ_=>?_⟩;obtain⟨l,_,j⟩:=Ck a;rw[k];constructor
  .intro m
   obtain⟨b,_,f⟩:=QN g i m;exact⟨b,f⟩
  rintro⟨b,f⟩;exact jEc l (j c (by simp)).2 (j d (by simp)).2 g i f
 obtain⟨e,f⟩:=h.1 a;exact⟨f,λ_=>e,λh=>jN h a⟩
def Jy(b:Nat)(c:Nat)(f:t.E<=1000)(g:InL w t.e a)(h:InL w s.e a1):
 Calls Zf 146 #[.agg (Zj t a b),.agg (Zj s a1 c)] w λe d=>e=.returned (.bool (zC t s))/\Zb w d:=by
 refine(Fl t.E t s a b a1 c w (jF _) f g h).mono ?_;rintro e d ⟨⟨r,rfl,i⟩,j⟩;refine⟨?_,j⟩;rw[Vh i]
def Dp(k l:Lit):Bool:=zC k.2.1 l.2.1 && zC k.2.2 l.2.2||zC k.2.1 l.2.2 && zC k.2.2 l.2.1
def NO{k l:Lit}(u:Nat)(v:Nat)(x:Nat)(y:Nat)(z:xO k)(i1:InL w k.2.1.e a)(i2:InL w k.2.2.e a1)(C:InL w l.2.1.e a2)(E:InL w l.2.2.e a3):
 Calls Zf 133 #[lM k a u a1 v,lM l a2 x a3 y] w λr b=>r=.returned (.bool (Dp k l))/\Zb w b:=by
 obtain⟨c,s⟩:=Ze ((w.alloc (.cells #[.bool k.1,Y k.2.1.v,Y k.2.1.f,Zk a k.2.1.e u,Y k.2.2.v,Y k.2.2.f,Zk a1 k.2.2.e v] 47)).alloc (.cells #[.bool l.1,Y l.2.1.v,Y l.2.1.f,Zk a2 l.2.1.e x,Y l.2.2.v,Y l.2.2.f,Zk a3 l.2.2.e y] 47));have F:Zb w c:=s▸kF _ _ _;have V:c.heap.size=w.heap.size+2:=by rw[s];simp
 have M:L7 c w.heap.size 0 k a u a1 v:=by rw[s];exact(L7.new _ rfl).below (jG _ _)
 have O:L7 c (w.heap.size+1) 0 l a2 x a3 y:=by rw[s];exact L7.new _ (by simp)
 have A:=X (λ(b:N)(t:Zb c b)=>jM (M.below t) (O.below t))
 have HS:=X (λ(b:N)(t:Zb c b)=>(show Calls Zf _ _ b _/\Calls Zf _ _ b _/\Calls Zf _ _ b _/\Calls Zf _ _ b _ from
  have d:=F.trans (t.mono (by omega))
  ⟨Jy u x z.1 (jI d i1) (jI d C),Jy v y z.2 (jI d i2) (jI d E),
   Jy u y z.1 (jI d i1) (jI d E),Jy v x z.2 (jI d i2) (jI d C)⟩))
 have B:=X (λ(b:N)(t:Zb c b)=>F.trans (t.mono (by omega)));obtain⟨P,G⟩:=Ze (zC k.2.1 l.2.1);obtain⟨Q,H⟩:=Ze (zC k.2.2 l.2.2);obtain⟨I,J⟩:=Ze (zC k.2.1 l.2.2);obtain⟨W,K⟩:=Ze (zC k.2.2 l.2.1);have R:Dp k l=(P && Q||I && W):=by rw[Dp,<-G,<-H,<-J,<-K]
 rw[<-G,<-H,<-J,<-K] at HS;rw[R];have S:=X s;have L:=X (jW c.heap.size c);obtain⟨⟨d,e,f,g,h,i,j⟩,⟨m,q1,q2,n,o,p,q⟩⟩:=A c L;have U:=X (HS c L);clear F V M O s G H J K R z i1 i2 C E
 go_in
 go_wp2_with fail
 rw[<-S.out];refine U.1.mono ?_;rintro r F ⟨rfl,z⟩;have s:=X z;clear z S d e f g h i j m q1 q2 n o p q U L;obtain⟨⟨d,e,f,g,h,i,j⟩,⟨m,q1,q2,n,o,p,q⟩⟩:=A F s;have E:=X (HS F s)
 cases P with
 |true=>
  go_wp2_with fail
  refine E.2.1.mono ?_;rintro r G ⟨rfl,C⟩;have z:=X (s.trans (C.mono s.size));clear C E d e f g h i j m q1 q2 n o p q;obtain⟨⟨d,e,f,g,h,i,j⟩,⟨m,q1,q2,n,o,p,q⟩⟩:=A G z;have H:=X (HS G z)
  cases Q with
  |true=>
   have C:=X (B _ z);go_wp2;go_ret;exact⟨rfl,C⟩
  |false=>
   go_wp2_with fail
   refine H.2.2.1.mono ?_;rintro r J ⟨rfl,K⟩;have C:=X (z.trans (K.mono z.size));clear K H d e f g h i j m q1 q2 n o p q;obtain⟨⟨d,e,f,g,h,i,j⟩,⟨m,q1,q2,n,o,p,q⟩⟩:=A J C;have H:=X (HS J C)
   cases I with
   |false=>
    have K:=X (B _ C);go_wp2;go_ret;exact⟨rfl,K⟩
   |true=>
    go_wp2_with fail
    refine H.2.2.2.mono ?_;rintro r M ⟨rfl,K⟩;have L:=X (B _ (C.trans (K.mono C.size)));clear K H;go_wp2;go_ret;exact⟨by simp,L⟩
 |false=>
  go_wp2_with fail
  refine E.2.2.1.mono ?_;rintro r C ⟨rfl,G⟩;have z:=X (s.trans (G.mono s.size));clear G E d e f g h i j m q1 q2 n o p q;obtain⟨⟨d,e,f,g,h,i,j⟩,⟨m,q1,q2,n,o,p,q⟩⟩:=A C z;have E:=X (HS C z)
  cases I with
  |false=>
   have G:=X (B _ z);go_wp2;go_ret;exact⟨rfl,G⟩
  |true=>
   go_wp2_with fail
   refine E.2.2.2.mono ?_;rintro r J ⟨rfl,G⟩;have H:=X (B _ (z.trans (G.mono z.size)));clear G E;go_wp2;go_ret;exact⟨by simp,H⟩
def rV(l k:Lit):Bool:=l.1==k.1 && Dp l k
def NK{b l:Lit}(e:Nat)(f:Nat)(j:xO l)(i1:InL w b.2.1.e a)(i2:InL w b.2.2.e a1)(g:L7 w m 0 l a2 k a3 n)(o:InL w l.2.1.e a2)(p:InL w l.2.2.e a3):
 Calls Zf 132 #[lM b a e a1 f,Zr m] w λq v=>q=.returned (.bool (rV l b))/\Zb w v:=by
 obtain⟨r,d⟩:=Ze (w.alloc (.cells #[.bool b.1,Y b.2.1.v,Y b.2.1.f,Zk a b.2.1.e e,Y b.2.2.v,Y b.2.2.f,Zk a1 b.2.2.e f] 47));have c:Zb w r:=d▸jG _ _;have x:L7 r w.heap.size 0 b a e a1 f:=d▸L7.new _ rfl;have y:=g.below c;have HS:=X (NO k n e f j (jI c o) (jI c p) (jI c i1) (jI c i2));have s:=X d;have h:=X c;obtain⟨z,A,B,C,E,F,G⟩:=x;obtain⟨H,q1,q2,I,J,K,L⟩:=y;obtain⟨Z,i⟩:=Ze (Dp l b);have t:rV l b=(l.1==b.1 && Z):=by rw[rV,<-i]
 rw[t];rw[<-i] at HS;have u:=g.e0;have M:=kA u;rw[d] at z A B C E F G H q1 q2 I J K L;clear d c g t i j i1 i2 o p u
 go_in
 cases g:(l.1==b.1) with
 |true=>
  go_wp2_with fail
  rw[<-s.out];refine HS.mono ?_;rintro q i ⟨rfl,c⟩;have d:=X (h.trans (c.mono h.size));clear c HS;go_wp2;go_ret;exact⟨by simp,d⟩
 |false=>
  go_wp2;go_ret;rw[<-s.out];exact⟨by simp,h⟩
theorem OI(a:Zy)(w:N):(callFunc 132 a).run Zf w=.ok (.enter 132 a) w:=by kernel_rfl
theorem OH(a:Zy)(w:N):(callFunc 131 a).run Zf w=.ok (.enter 131 a) w:=by kernel_rfl
def NL{l:Lit}(e:Nat)(f:Nat)(h:xO l)(t:c.length<=100000)(i:InL w l.2.1.e a)(j:InL w l.2.2.e a1)(m:w.cell? (D k 0)=some (.slice a2 c.length n))(hd:kR w c a2):
 Calls Zf 131 #[lM l a e a1 f,Zr k] w λo p=>o=.returned (.bool (!c.any (rV l)))/\Zb w p:=by
 obtain⟨q,d⟩:=Ze (w.alloc (.cells #[.bool l.1,Y l.2.1.v,Y l.2.1.f,Zk a l.2.1.e e,Y l.2.2.v,Y l.2.2.f,Zk a1 l.2.2.e f] 47));have b:Zb w q:=d▸jG _ _;have r:L7 q w.heap.size 0 l a e a1 f:=d▸L7.new _ rfl;have u:=jH b m
 have HS:=X (Fk n t OI
  (λp x g s g v g _ i1 i2=>NK s v h i1 i2 (r.below g) (jI (b.trans (g.mono b.size)) i) (jI (b.trans (g.mono b.size)) j)) (kL b hd))
 obtain⟨Z,g⟩:=Ze (c.any (rV l));rw[<-g] at HS ⊢;have v:=X d;have s:=X b;rw[d] at u;clear d b r g h i j m hd
 go_in
 go_wp2_with fail
 rw[<-v.out];refine HS.mono ?_;rintro o g ⟨rfl,b⟩;have d:=X (s.trans (b.mono s.size));clear b HS;go_wp2;go_ret;exact⟨rfl,d⟩
def oL(c d:Zc):Bool:= !c.any (λl=> !d.any (rV l))
def NM(g:Nat)(f:Nat)(h:∀x,x∈c->xO x)(p:c.length<=100000)(q:d.length<=100000)(i:kR w c a)(hd:kR w d a1):
 Calls Zf 98 #[.slice a c.length g,.slice a1 d.length f] w λj k=>j=.returned (.bool (oL c d))/\Zb w k:=by
 obtain⟨l,e⟩:=Ze (w.alloc (.cells #[Zk a1 d f] 39));have b:Zb w l:=e▸jG _ _;have m:Zq l w.heap.size 0 (Zk a1 d f):=e▸jJ 0 rfl
 have HS:=X (Fk g p OH
  (λk x n o n r n s i1 i2=>NL o r (h x s) q i1 i2 (jH n m) (kL (b.trans (n.mono b.size)) hd)) (kL b i))
 obtain⟨Z,n⟩:=Ze (c.any (λo=> !d.any (rV o)));rw[oL];rw[<-n] at HS ⊢;have r:=X e;have o:=X b;clear e b m n h i hd
 go_in
 go_wp2_with fail
 rw[<-r.out];refine HS.mono ?_;rintro j h ⟨rfl,b⟩;have e:=X (o.trans (b.mono o.size));clear b HS;go_wp2;go_ret;exact⟨rfl,e⟩
def lV(a:Zn)(b:Zc->Zc->Bool):Prop:=∀c d,b c d=true↔(oL c d=true/\kJ a [c,d]=0/\∃e:Int->T,Ax e c d)
def DB(a:Zn):∃b,lV a b:=⟨λc d=>@decide (oL c d=true/\kJ a [c,d]=0/\∃e:Int->T,Ax e c d) (Classical.propDecidable _),λc d=>by simp⟩
def LE(h:B=true↔B1=true):B=B1:=by cases B<;>cases B1<;>simp_all
def jD2{e:Zc->Zc->Bool}(f:lV r e)(h:oL c d=true)(i:Jh r c d B z):B=e c d:=by
 obtain⟨_,j,g⟩:=jD3 i;refine LE ⟨λa=>(f c d).2 ⟨h,?_⟩,λa=>?_⟩
 .by_cases b:kJ r [c,d]=0
  .exact⟨b,(g b).1 a⟩
  rw[j b] at a;cases a
 obtain⟨_,b,k⟩:=(f c d).1 a;exact(g b).2 k
def jD4{a:Zc->Zc->Bool}(e:lV r a)(b:oL c d=false):a c d=false:=by
 cases h:a c d with
 |false=>rfl
 |true=>rw[((e c d).1 h).1] at b;cases b
def jD5{l:Zc->Zc->Bool}(s:lV r l)(h:Nat)(m:Nat)(n:Nat)(t:jV w r a)(u:∀x,x∈c->xO x)(A:c.length<=100000)(B:d.length<=100000)(o:kR w c a1)(hd:kR w d a2):
 Calls Zf 68 #[.agg #[.slice a r.length h],.slice a1 c.length m,.slice a2 d.length n] w λi f=>i=.returned (.bool (l c d))/\Zb w f:=by
 obtain⟨j,k⟩:=Ze (w.alloc (.cells #[Zk a r h] 24));have b:Zb w j:=k▸jG _ _;have v:Zq j w.heap.size 0 (Zk a r h):=k▸jJ 0 rfl;have e:=X (NM m n u A B (kL b o) (kL b hd));have HS:=X (λ(f:N)(g:Zb j f)=>IL h m n (kD (b.trans (g.mono b.size)) t) (by omega) (by omega) (kL (b.trans (g.mono b.size)) o) (kL (b.trans (g.mono b.size)) hd));have p:=X (λ(f:N)(g:Zb j f)=>jH g v);obtain⟨V,q⟩:=Ze (l c d);rw[<-q];have y:=X q;have z:=X s;have C:=X k;have g:=X b;clear k b v q u o hd t;clear s
 go_in
 go_wp2_with fail
 rw[<-C.out]
 cases b:oL c d with
 |false=>
  rw[b] at e;have o:Hid (V=false):=X (y.out▸jD4 z b);refine e.mono ?_;rintro i s ⟨rfl,k⟩;have q:=X (g.trans (k.mono g.size));clear k HS e p;go_wp2;go_ret;exact⟨by rw[o.out];rfl,q⟩
 |true=>
  rw[b] at e;refine e.mono ?_;rintro i o ⟨rfl,k⟩;have q:=X k;have t:=p o k;have s:=X (HS o k);clear k HS e p
  go_wp2_with fail
  refine s.mono ?_;rintro i E ⟨⟨p,F,rfl,e⟩,k⟩;have u:Hid (V=p):=X (by rw[y.out];exact(jD2 z b e).symm);have v:=X (g.trans ((q.trans (k.mono q.size)).mono g.size));clear k e s t;go_wp2;go_ret;exact⟨by rw[u.out];rfl,v⟩
theorem PJ(a:Zy)(w:N):(callFunc 67 a).run Zf w=.ok (.enter 67 a) w:=by kernel_rfl
def jA5{b:Zc->Zc->Bool}(e:lV r b)(f:Nat)(t:w.cell? (D m 0)=some (.slice a r.length k))(u:w.cell? (D i 0)=some (.slice a2 d.length n))(g:jV w r a)(h:∀x,x∈c->xO x)(p:c.length<=100000)(q:d.length<=100000)(j:kR w c a1)(hd:kR w d a2):
 Calls Zf 67 #[.slice a1 c.length f,Zr m,Zr i] w λl s=>l=.returned (.bool (b c d))/\Zb w s:=by
 have HS:=X (jD5 e k f n g h p q j hd);obtain⟨V,o⟩:=Ze (b c d);rw[<-o] at HS ⊢;clear o g h j hd;clear e
 go_in
 go_wp2_with fail
 refine HS.mono ?_;rintro l h ⟨rfl,e⟩;have g:=X e;clear e HS;go_wp2;go_ret;exact⟨rfl,g⟩
def tF(a:Zc->Zc->Bool)(b:Zn)(set:Zm)(c:Zc):Bool:=(wP b c).1||set.any (λd=>a d c)
def CB{g:Zc->Zc->Bool}(v:lV r g)(h:Nat){set:Zm}(x:Nat)(i:Nat)(n:jV w r a)(C:set.length<=1000000)(y:zM w set a1)(o:∀d,d∈set->d.length<=100000/\∀z,z∈d->xO z)(E:c.length<=100000)(q:kR w c a2):
 Calls Zf 43 #[.agg #[.slice a r.length h],.slice a1 set.length x,.slice a2 c.length i] w λs A=>s=.returned (.bool (tF g r set c))/\Zb w A:=by
 obtain⟨j,e⟩:=Ze ((w.alloc (.cells #[Zk a r h] 24)).alloc (.cells #[Zk a2 c i] 39));have f:Zb w j:=e▸kF _ _ _;have k:j.cell? (D w.heap.size 0)=some (Zk a r h):=by rw[e,kW (by simp)];exact jJ 0 rfl
 have l:j.cell? (D (w.heap.size+1) 0)=some (Zk a2 c i):=by rw[e];exact jJ 0 (by simp)
 have HA:=X (Rm h i (kD f n) (by omega) (kL f q))
 have HS:=X (λ(t:N)(b:Zb j t)=>
  have m:=f.trans (b.mono f.size)
  Jx (k:=67) (f:=#[Zr w.heap.size,Zr (w.heap.size+1)]) (p:=λd=>g d c) x C PJ
   (λA d u G u hd H=>
     have B:=m.trans (u.mono m.size)
     jA5 v G (jH (b.trans (u.mono b.size)) k) (jH (b.trans (u.mono b.size)) l) (kD B n) (o d hd).2 (o d hd).1 E H (kL B q)) (dG m y))
 obtain⟨V,u⟩:=Ze (tF g r set c);rw[<-u];have B:=X u;have G:=X e;have m:=X f;rw[e] at k l;clear e f u y o q n;clear v
 go_in
 go_wp2_with fail
 rw[<-G.out];refine HA.mono ?_;rintro s t ⟨o,b⟩;obtain rfl:=o
 cases e:(wP r c).1 with
 |true=>
  have f:Hid (V=true):=X (by rw[B.out,tF,e];rfl);have n:=X (m.trans (b.mono m.size));clear b HS HA k l
  go_wp2_with fail
  go_ret;exact⟨by rw[f.out];rfl,n⟩
 |false=>
  have q:Hid (V=set.any (λd=>g d c)):=X (by rw[B.out,tF,e];rfl);have f:=X (HS t b);have n:=X b;clear b HS HA k l
  go_wp2_with fail
  refine f.mono ?_;rintro s l ⟨rfl,b⟩;have k:=X (m.trans ((n.trans (b.mono n.size)).mono m.size));clear b f
  go_wp2_with fail
  go_ret;exact⟨by rw[q.out];rfl,k⟩
def oM:Zc->Zc->Bool
 |x::c,y::d=>lP x y && oM c d
 |_,_=>true
def iF(c d:Zc):Bool:=c.length==d.length && oM c d
def Oj{a:Type}{l:List a}{x:a}(h:l[k]? =some x):l.drop k=x::l.drop (k+1):=by
 obtain⟨b,rfl⟩:=jZ.1 h;exact pN b
def PO{x y:Lit}(a:c[k]? =some x)(b:d[k]? =some y):oM (c.drop k) (d.drop k)=(lP x y && oM (c.drop (k+1)) (d.drop (k+1))):=by
 rw[Oj a,Oj b,oM]
theorem OE(a:Zy)(w:N):(callFunc 102 a).run Zf w=.ok (.enter 102 a) w:=by kernel_rfl
def PU(Q:Nat)(R:Nat)(j:∀x,x∈c->xO x)(aa:c.length<=100000)(l:kR w c a)(hd:kR w d a1):
 Calls Zf 101 #[.slice a c.length Q,.slice a1 d.length R,.func (.func 102) #[] #[]] w λp q=>p=.returned (.bool (iF c d))/\Zb w q:=by
 obtain⟨V,f⟩:=Ze (iF c d);rw[<-f];have ab:=OE;by_cases b:c.length=d.length
 .have S:Hid (V=oM (c.drop 0) (d.drop 0)):=X (by rw[f,iF,b];simp)
  have r:=X l;have s:=X hd;have U:=X j;have t:=X b;rw[<-b];clear l hd j f b
  go_in
  go_wp2
  go_loopw [17] (λi wr=>∃k:Nat,k<=c.length/\i=Y k/\Hid (V=oM (c.drop k) (d.drop k))/\Hid (Zb w wr)) (λi _=>c.length - (intOf i).toNat)
  case atStart=>exact⟨0,jY _,rfl,S,X (jW _ _)⟩
  case round=>
   obtain⟨k,hk,rfl,m,g⟩:=hrel;by_cases W:k<c.length
   .obtain⟨cb,ac,rfl⟩:=zN r (by omega)
    obtain⟨db,ad,rfl⟩:=zN s (by have:=t.out;omega);obtain⟨x,h⟩:=Zg W;obtain⟨y,n⟩:∃y,d[k]? =some y:=⟨d[k]'(by have:=t.out;omega),jO _⟩;obtain⟨u,v,z,A,Z,k1,k2,k3,k4,k5,k6,B,C⟩:=dZ (kL g r) h;obtain⟨E,F,G,H,I,m1,m2,m3,m4,m5,m6,J,K⟩:=dZ (kL g s) n;have i:=X (PO h n);obtain⟨L,o⟩:=Ze ((wr.alloc (.cells #[.bool x.1,Y x.2.1.v,Y x.2.1.f,Zk u x.2.1.e v,Y x.2.2.v,Y x.2.2.f,Zk z x.2.2.e A] 47)).alloc (.cells #[.bool y.1,Y y.2.1.v,Y y.2.1.f,Zk E y.2.1.e F,Y y.2.2.v,Y y.2.2.f,Zk G y.2.2.e H] 47));have e:Zb wr L:=o▸kF _ _ _;have M:=X (CA x y u v z A E F G H L (U x (jU h)) (jI e B) (jI e C) (jI e J) (jI e K));have hI:(k:Int)<c.length:=(by omega);have ae:(0:Int)<=k:=(by omega);have af:=kA I;have O:=X o;have P:=X (g.trans (e.mono g.size));clear h n B C J K o e
    go_wp2_with fail
    rw[<-O.out];refine M.mono ?_;rintro p q ⟨rfl,e⟩;have h:=X (P.trans (e.mono P.size));clear e M Z k1 k2 k3 k4 k5 k6 I m1 m2 m3 m4 m5 m6 O
    cases hd:lP x y with
    |true=>
     have e:Hid (V=oM (c.drop (k+1)) (d.drop (k+1))):=X (by rw[m.out,i.out,hd];rfl);clear i hd
     go_wp2_with fail
     go_roundw
     case rel=>exact⟨k+1,by omega,by go_num,e,h⟩
     case measure=>simp[intOf];omega
    |false=>
     have e:Hid (V=false):=X (by rw[m.out,i.out,hd];rfl);clear i hd;go_wp2;go_ret;exact⟨by rw[e.out];rfl,h⟩
   have e:k=c.length:=(by omega);subst e;have i:Hid (V=true):=X (by rw[m.out,dX];simp[oM]);go_wp2;go_ret;exact⟨by rw[i.out];rfl,g⟩
 have e:Hid (V=false):=X (by rw[f,iF];simp[b]);have g:¬((c.length:Int)=(d.length:Int)):=by omega
 clear f b l hd j
 go_in
 go_wp2;go_ret;exact⟨by rw[e.out];rfl,jW _ _⟩
theorem OD(a:Zy)(w:N):(callFunc 100 a).run Zf w=.ok (.enter 100 a) w:=by kernel_rfl
def NY(b:Nat)(l:w.cell? (D n 0)=some (.slice a c.length k))(e:∀x,x∈c->xO x)(i:c.length<=100000)(f:kR w c a)(hd:kR w d a1):
 Calls Zf 100 #[.slice a1 d.length b,Zr n] w λg j=>g=.returned (.bool (iF c d))/\Zb w j:=by
 have HS:=X (PU k b e i f hd);obtain⟨V,h⟩:=Ze (iF c d);rw[<-h] at HS ⊢;clear h e f hd
 go_in
 go_wp2_with fail
 refine HS.mono ?_;rintro g h ⟨rfl,e⟩;have f:=X e;clear e HS;go_wp2;go_ret;exact⟨rfl,f⟩
def cY:Zm->Zm->Zm
 |a,[]=>a
 |a,c::b=>cY (if a.any (λd=>iF c d) then a else a++[c]) b
def rW(l:Zm):Zm:=cY [] l
def OA:∀(l a:Zm)(c:Zc),c∈cY a l->c∈a\/c∈l:=by
 intro l;induction l with
 |nil=>intro a c h;exact jD h
 |cons x l b=>
  intro a c h;rw[cY] at h;rcases b _ c h with h|h
  .split at h
   .exact jD h
   rcases vD.1 h with h|h
   .exact jD h
   exact jE (by rw[vY.1 h];simp)
  exact jE (vG _ h)
def NZ:∀(l a:Zm),(cY a l).length<=a.length+l.length:=by
 intro l;induction l with
 |nil=>intro a;simp[cY]
 |cons x l b=>
  intro a;rw[cY];have:=b (if a.any (λd=>iF x d) then a else a++[x]);split at this
  .simp only[xI];rename_i h;rw[jB h];omega
  simp only[xI,qB,mZ] at this ⊢;rename_i h;rw[jC h];omega
structure Je (K:Zp) (base:Nat) (w:N) (v:Zv) (cs:Zm) (xs:Zu):Prop where
 own:w.ownsRow base 39 1 v cs.length xs
 jl:tP K w cs xs
def Je.set{v:Zv}{b:Zm}(h:Je p k w v b U):∃a c,v=.slice a b.length c/\bI (λd=>p d\/k<=d) w b a:=by
 by_cases f:0<b.length
 .obtain⟨g,c,rfl,i,s,j⟩:=fX h.own f
  refine⟨_,c,rfl,jE ⟨g,0,rfl,jE i,λl e m=>?_⟩⟩;obtain⟨a,n,o,q,r⟩:=Ig h.jl m;exact⟨a,n,by rw[kK];exact j l _ o,q,nR (λd l=>jD l) r⟩
 obtain⟨a,e,h⟩:=zF h.own;exact⟨a,e,h,jD (yM.1 (by omega))⟩
def OB{l:Zm}(lc:Nat)(d:∀k,p k->k<w.heap.size)(e:bI p w l a)(aj:l.length<=1000)(f:∀c,c∈l->c.length<=1000/\∀M,M∈c->xO M):
 Calls Zf 69 #[.slice a l.length lc] w λO x=>(∃o q,O=.returned (.slice o (rW l).length q)/\bI (λk=>p k\/w.heap.size<=k) x (rW l) o)/\Zb w x:=by
 have P:=X d;have Hl:=X e;have Hz:=X f;obtain⟨y,b⟩:=Ze (rW l);rw[<-b];have HD:Hid (y=cY [] (l.drop 0)):=X (by rw[b];rfl);clear d e f b
 go_in
 go_wp2_with fail
 go_loopw [3,8] (λv b wr=>∃(k n:Nat)(r:Zo)(i:Nat)(z:Zu)(d:Zm),(k<=l.length/\n<=k)/\b=Y k/\v=.slice r n i/\Hid (d.length=n/\(∀c,c∈d->c∈l))/\Hid (y=cY d (l.drop k))/\Hid (Je p w.heap.size wr (.slice r n i) d z)/\Hid (Zb w wr)) (λv b wr=>l.length - (intOf b).toNat)
 case atStart=>exact⟨0,0,none,0,[],[],⟨jY _,jF _⟩,rfl,rfl,X ⟨rfl,λc g=>by cases g⟩,HD,X ⟨Jk _ _ _ _,rfl⟩,X (jW _ _)⟩
 case round=>
  obtain⟨k,n,r,i,z,d,⟨hk,ak⟩,rfl,rfl,h,Q,e,f⟩:=hrel;by_cases E:k<l.length
  .obtain⟨c,g⟩:=Zg E
   obtain⟨G,H,rfl,R⟩:∃G H,a=some (D G H)/\zX p w l G H:=by
    rcases Hl with b|b
    .rw[b] at E;simp at E
    exact b
   obtain⟨A,B,S,U,V⟩:=R.2 k c g;have af:=jH f S;have v:=Hz c (jU g);have I:=xP (λj b s=>⟨b,f.block j s⟩) V;obtain⟨W,u⟩:=Ze (wr.alloc (.cells #[Zk A c B] 39));have t:Zb wr W:=u▸jG _ _;have J:Zq W wr.heap.size 0 (Zk A c B):=u▸jJ 0 rfl;obtain⟨ag,ah,Z,aa⟩:=e.set;obtain⟨rfl,rfl⟩:r=ag/\i=ah:=by injection Z with q1 _ q3;exact⟨q1,q3⟩
   have C:=X (Jx (k:=100) (f:=#[Zr wr.heap.size]) (p:=λm=>iF c m) i (by have:=h.1;omega) OD
    (λx m o q K hd L=>NY q (jH K J) v.2 (by have:=v.1;omega) (dA (xP (λj b s=>⟨b,(t.trans (K.mono t.size)).block j s⟩) I)) L) (dG t aa.clauses))
   rw[h.out.1] at C;obtain⟨ab,K⟩:=Ze (d.any (λm=>iF c m));rw[<-K] at C;have ac:Hid (y=cY (if ab then d else d++[c]) (l.drop (k+1))):=X (by rw[Q.out,Oj g,cY,K]);have al:(k:Int)<l.length:=(by omega);have am:(0:Int)<=k:=(by omega);have L:=X (jM (jU g) (jM U I));have ad:=X u;have ae:=X t;have ai:=X J;clear R S U V v I u t J Z aa K g
   go_upto_region 5 with fail
   rw[<-ad.out]
   go_wp2_with fail
   refine C.mono ?_;rintro O I ⟨rfl,J⟩;have t:=ae.trans (J.mono ae.size);have S:=jH J ai;have u:=X t;have U:=t.size;have V:=f.size;have K:=X (λR=>vT e.own (u:=I.alloc R) (λg v=>((t.trans ((jG I R).mono t.size)).block g (kO e.own g v).2)));rw[h.out.1] at K;clear J t C ad af
   cases ab with
   |true=>
    go_wp2_with fail
    go_roundw
    case rel=>exact⟨k+1,n,r,i,z,d,⟨by omega,by omega⟩,by go_num,rfl,h,ac,X ⟨vT e.own (λg v=>u.block g (kO e.own g v).2),Eh (λj b s=>⟨b,u.block j s⟩) e.jl⟩,X (f.trans (u.mono f.size))⟩
    case measure=>simp[intOf];omega
   |false=>
    go_wp2_with (at_builtin
                 go_must (refine DX rfl (.tmp 16) (.tmp 18) rfl rfl (K _) rfl rfl (jJ 0 rfl) rfl (by omega) (by simp;omega) ?_)
                 intro r J i s R)
    obtain⟨t,C,rfl⟩:=zF i;have r:=(f.trans ((u.trans ((jG I _).mono u.size)).mono f.size)).grown s (by simp;omega) (λg v=>(kO e.own g v).1);have g:=λj b=>(r.block j (P j b)).trans (f.block j (P j b)).symm;have v:Hid (Je p w.heap.size J (.slice t (n+1) C) (d++[c]) (z++[Zk A c B])):=X ⟨by rw[qB,h.out.1];exact i,Mm (Eh (λj b _=>⟨b,g j b⟩) e.jl) ⟨A,B,[],rfl,⟨L.2.1,xP (λj b _=>⟨b,g j b⟩) L.2.2⟩,rfl⟩⟩;have b:=X r;clear i s R r g
    go_wp2_with fail
    go_roundw
    case rel=>
     refine⟨k+1,n+1,t,C,_,d++[c],⟨by omega,by omega⟩,by go_num,rfl,X ⟨by rw[qB,h.out.1];rfl,λm hd=>?_⟩,ac,v,b⟩;rcases vD.1 hd with hd|hd
     .exact h.2 m hd
     rw[vY.1 hd];exact L.1
    case measure=>simp[intOf];omega
  obtain rfl:k=l.length:=by omega
  have b:Hid (y=d):=X (by rw[Q.out,dX];rfl)
  go_wp2_with fail
  go_ret;obtain⟨o,q,d,g⟩:=e.set;rw[b.out];exact⟨⟨o,q,xE _ d,g⟩,f⟩
def uI(a:Zc->Zc->Bool)(b:Zn)(set:Zm)(r:Zc×Int):Bool:=r.2 !=2 && (r.2 !=0||tF a b set r.1)
structure rN (ar:Zn) (ga:Zo) (gcap:Nat) (a:yL) (pa:Zo) (pc:Nat) (sa:Zo) (sc bg ba:Nat) (w:N):Prop where
 g0:w.cell? (D bg 0)=some (.slice ga ar.length gcap)
 a2:w.cell? (D ba 2)=some (.slice sa a.set.length sc)
 ints:jV w ar ga
 set:zM w a.set sa
def rN.below{c:yL}(h:rN r a k c a1 n a2 m i j w)(b:Zb w u):rN r a k c a1 n a2 m i j u:=
 ⟨jH b h.g0,jH b h.a2,kD b h.ints,dG b h.set⟩
def Fa(set:Zm):Prop:=set.length<=1000/\∀d,d∈set->d.length<=1000/\∀x,x∈d->xO x
def jBe{g:Zc->Zc->Bool}(u:lV r g){e:yL}(b:jX)(v:Zo)(x:Nat)(y:Nat)(A:rN r a k e a1 n a2 m i j w)(h:Fa e.set)(B:z=0->c.length<=100000)(C:kR w c a3):
 Calls Zf 45 #[zV b v x,.slice a3 c.length y,Y z,Zr i,Zr j] w λE F=>E=.returned (.bool (uI g r e.set (c,z)))/\Zb w F:=by
 obtain⟨G,l⟩:=Ze (w.alloc (.cells #[Y b.L,Y b.left,Y b.right,Y b.la,Y b.ra,.bool b.lt,.bool b.rt,Zk v b.G x] 81));have o:Zb w G:=l▸jG _ _;have f:=A.below o;have H:=f.g0;have I:=f.a2;have HS:=X (λp:z=0=>CB u k m y f.ints (by have:=h.1;omega) f.set (λd hd=>⟨by have:=(h.2 d hd).1;omega,(h.2 d hd).2⟩) (B p) (kL o C));obtain⟨V,s⟩:=Ze (uI g r e.set (c,z));rw[<-s];have d:=X s;have t:=X l;have q:=X o;rw[l] at H I;clear l o A f h B C s;clear u
 go_in
 cases f:(z !=2) with
 |false=>
  have h:Hid (V=false):=X (by rw[d.out,uI];simp only[f];rfl);clear d HS;go_wp2;go_ret;rw[<-t.out];exact⟨by rw[h.out];rfl,q⟩
 |true=>
  cases h:(z !=0) with
  |true=>
   have l:Hid (V=true):=X (by rw[d.out,uI];simp only[f,h];rfl);clear d HS;go_wp2;go_ret;rw[<-t.out];exact⟨by rw[l.out];rfl,q⟩
  |false=>
   have p:z=0:=(by simpa using h);have o:Hid (V=tF g r e.set c):=X (by rw[d.out,uI];simp only[f,h];simp);have l:=X (HS p);clear d HS p
   go_wp2_with fail
   rw[<-t.out];refine l.mono ?_;rintro E s ⟨rfl,d⟩;have p:=X (q.trans (d.mono q.size));clear d l;go_wp2;go_ret;exact⟨by rw[o.out];rfl,p⟩
def aV(c:Zc->Zc->Bool)(a:Zn)(set:Zm)(b:Zm):Bool:=(bV b).all (λi=>uI c a set (qX a b i))
def Yz(c:Zn){i:Zc->Zc->Bool}(y:lV c i)(n:Zo)(o:Nat)(g:yL)(z:Zo)(C:Nat)(E:Zo)(F r s:Nat)(d:Zm)(t u v:Nat)(W:N)(G:rN c n o g z C E F r s W)(H:Fa g.set)(I:IP (λk=>k<W.heap.size) W c n)(J:zX (λk=>k<W.heap.size) W d t u)(K:d.length=1\/d.length=2)(w:∀j,j∈d->j.length<=8/\qC c j):
 Calls Zf 70 #[.agg #[.slice n c.length o],.func (.func 45) #[] #[Zr r,Zr s],Zz t u d.length v] W λp B=>p=.returned (.bool (aV i c g.set d))/\Zb W B:=by
 refine(AA o v
  (λO pre A=>Zb W A/\(∀k,O k->W.heap.size<=k/\k<A.heap.size)/\∀x,x∈pre->uI i c g.set (qX c d x.i)=true)
  (λO _ A=>Zb W A/\(∀k,O k->W.heap.size<=k/\k<A.heap.size)/\∃l,l∈bV d/\uI i c g.set (qX c d l)=false)
  (enters_of Tryz.func45 (by kernel_rfl) rfl) (λk b=>b) I J K (λj a=>⟨by have:=(w j a).1;omega,(w j a).2⟩) ?_ ?_ ?_ ?_).mono ?_
 .rintro O V pre A B ⟨a,e,h⟩ b L
  refine⟨?_,λk f=>?_,h⟩
  .exact⟨b.below.os.trans a.os,b.below.tape.trans a.tape,b.below.output.trans a.output,kN a.size b.below.size,λk f=>(b.block k (kV f a.size) (λm=>by have:=(e k m).1;omega)).trans (a.block k f)⟩
  obtain⟨q1,q2|q2⟩:=L k f
  .exact⟨(e k q2).1,q1⟩
  exact⟨kN a.size q2,q1⟩
 .rintro O pre A B ⟨a,e,h⟩ b
  refine⟨?_,λk f=>⟨(e k f).1,kV (e k f).2 b.below.size⟩,h⟩;exact⟨b.below.os.trans a.os,b.below.tape.trans a.tape,b.below.output.trans a.output,kN a.size b.below.size,λk f=>(b.block k (kV f a.size) (λm=>by have:=(e k m).1;omega)).trans (a.block k f)⟩
 .rintro O pre x A Z ca A ⟨a,e,h⟩ M aa hQ P ab
  have Q:=Xb M;refine(jBe y x.i x.pa x.pc A (G.below a) H (λf=>by have:=(mL (Ph f)).2.1;omega) (dA P)).mono ?_;rintro p B ⟨rfl,f⟩;refine⟨_,rfl,KR.A f,λq=>⟨a.trans (f.mono a.size),λk b=>⟨(e k b.1).1,kV (e k b.1).2 f.size⟩,λR m=>?_⟩,λq=>⟨a.trans (f.mono a.size),λk b=>⟨(e k b.1).1,kV (e k b.1).2 f.size⟩,x.i,Q,q⟩⟩;rcases vD.1 m with m|m
  .exact h R m
  rw[vY.1 m];exact q
 .exact⟨jW _ _,λk b=>b.elim,λx b=>by cases b⟩
 rintro p B ⟨m,rfl,q,R⟩
 cases m with
 |true=>
  obtain⟨O,ac,S,a,_,h⟩:=q rfl;refine⟨?_,a⟩;have:aV i c g.set d=true:=by
   rw[aV,uS,<-S];intro l U;obtain⟨x,b,rfl⟩:=bP.1 U;exact h x b
  rw[this]
 |false=>
  obtain⟨O,pre,a,_,l,b,x⟩:=R rfl;refine⟨?_,a⟩;have:aV i c g.set d=false:=by
   rw[aV,Be];exact⟨l,b,by rw[x];simp⟩
  rw[this]
def Am(a:Zc->Zc->Bool)(b:Zn)(set D:Zm)(c:Zc):Bool:=aV a b set [c] && D.all (λd=>aV a b set [c,d])
def Aj(a:Zc->Zc->Bool)(b:Zn)(set l:Zm):Bool:=(rW l).all (Am a b set (rW l))
def Tx{p:Zc->Bool}{a:Zm}(d:a[k]? =some c)(h:(a.take k).all p=true):(p c=true->(a.take (k+1)).all p=true)/\(p c=false->a.all p=false):=by
 constructor
 .intro b
  rw[vZ,d,Ei,h];simpa using b
 intro b;rw[Be];exact⟨c,jU d,by rw[b];simp⟩
def QG(d:c.length<=k)(e:qA p w c a):zX (λb=>b<(w.alloc (.cells #[.slice a c.length k] g)).heap.size) (w.alloc (.cells #[.slice a c.length k] g)) [c] w.heap.size 0:=by
 refine⟨by simp,λj f hd=>?_⟩
 match j,hd with
 |0,hd=>
  obtain rfl:c=f:=by simpa using hd
  exact⟨a,k,jJ 0 rfl,d,xP (λb _ f=>⟨by simp;omega,(jG _ _).block b f⟩) e⟩
def QH(h:c.length<=k)(i:qA p w c a)(j:d.length<=n)(hd:qA p w d a1):zX (λb=>b<(w.alloc (.cells #[.slice a c.length k,.slice a1 d.length n] g)).heap.size) (w.alloc (.cells #[.slice a c.length k,.slice a1 d.length n] g)) [c,d] w.heap.size 0:=by
 refine⟨by simp,λl f e=>?_⟩
 match l,e with
 |0,e=>
  obtain rfl:c=f:=by simpa using e
  exact⟨a,k,jJ 0 rfl,h,xP (λb _ l=>⟨by simp;omega,(jG _ _).block b l⟩) i⟩
 |1,e=>
  obtain rfl:d=f:=by simpa using e
  exact⟨a1,n,jJ 1 rfl,j,xP (λb _ e=>⟨by simp;omega,(jG _ _).block b e⟩) hd⟩
def Kq(h:jV w r a):IP (λk=>k<w.heap.size) w r a:=by
 by_cases b:r=[]
 .exact jD b
 rcases h with h|⟨d,e,f,c⟩
 .exact jN h b
 exact jE ⟨d,e,f,kA (c 0 (Ek.2 b)),c⟩
def XK{p:Zc->Zc->Bool}(ak:lV r p){g:yL}{q:Zm}(lc:Nat)(hm:rN r a k g a1 n a2 m i j w)(al:Fa g.set)(hl:bI (λe=>e<w.heap.size) w q a3)(a8:q.length<=60)(K:∀c,c∈q->c.length<=8/\qC r c):
 Calls Zf 44 #[.agg #[.slice a r.length k],.slice a3 q.length lc,.func (.func 45) #[] #[Zr i,Zr j]] w λx w'=>x=.returned (.bool (Aj p r g.set q))/\Zb w w':=by
 obtain⟨L,M⟩:=Ze (w.alloc (.cells #[Zk a r k] 24));have O:Zb w L:=M▸jG _ _;have g1:Zq L w.heap.size 0 (Zk a r k):=M▸jJ 0 rfl;have am:=hl.mono (λe A _=>⟨kV A O.size,O.block e A⟩);have S:=X (OB lc (λe A=>A) am (by omega) (λc h=>⟨by have:=(K c h).1;omega,mP (K c h).2⟩));obtain⟨d,B⟩:=Ze (rW q);rw[<-B] at S;have a9:d.length<=60:=by have:=NZ q [];rw[B];simp only[mZ] at this;rw[rW];omega
 have an:∀c,c∈d->c.length<=8/\qC r c:=λc h=>K c (by
  rw[B] at h;rcases OA q [] c h with u|u
  .cases u
  exact u)
 obtain⟨V,U⟩:=Ze (Aj p r g.set q);rw[<-U];have W:Hid (V=d.all (Am p r g.set d)):=X (by rw[U,Aj,B]);have ao:=X M;have ap:=X O;have aq:=X g1;have P:=X hm;have ar:=X al;have Z:=X an;clear M O g1 hm al hl am K B U an;have au:=X ak;clear ak
 go_in
 go_wp2_with fail
 rw[<-ao.out];refine S.mono ?_;rintro x w2 ⟨⟨da,ba,rfl,av⟩,aa⟩;have a4:=X av;have o:=X (ap.trans (aa.mono ap.size));have aw:=X (jH aa aq);clear av aa S ao aq;go_wp2
 go_loopw [15] (λv wr=>∃e:Nat,e<=d.length/\v=Y e/\Hid ((d.take e).all (Am p r g.set d)=true)/\Hid (Zb w2 wr)) (λv _=>d.length - (intOf v).toNat)
 case atStart=>exact⟨0,jY _,rfl,X rfl,X (jW _ _)⟩
 case round=>
  obtain⟨e,A,rfl,Hk,b⟩:=hrel;by_cases ab:e<d.length
  .obtain⟨c,h⟩:=Zg ab
   obtain⟨ac,ad,rfl,ae⟩:∃ac ad,da=some (D ac ad)/\zX (λe=>e<L.heap.size\/L.heap.size<=e) w2 d ac ad:=by
    rcases a4 with u|u
    .rw[u] at ab;simp at ab
    exact u
   obtain⟨ca,cc,C,y,z⟩:=ae.2 e c h;have af:=jH b C;have E:=xP (λf _ F=>⟨trivial,b.block f F⟩) z;have ag:=jH b aw;have l:=o.trans (b.mono o.size);have s:=X (λah=>Yz r au a k g a1 n a2 m i j [c] wr.heap.size 0 1 (wr.alloc (.cells #[Zk ca c cc] ah)) (P.below (l.trans ((jG _ _).mono l.size))) ar (Kq (kD (l.trans ((jG _ _).mono l.size)) P.ints)) (QG y E) (jD rfl) (λt hd=>by rw[vY.1 hd];exact Z c (jU h)));have ai:=X (Tx h Hk);have aj:=X (jM y (jM (jU h) z));have bb:(e:Int)<d.length:=(by omega);have bc:(0:Int)<=e:=(by omega);have a5:=X ae;clear h C y z E l ae
   cases Q:aV p r g.set [c] with
   |false=>
    have G:Hid (V=false):=X (by rw[W.out];exact ai.2 (by rw[Am,Q];rfl))
    go_wp2_with fail
    refine(s _).mono ?_;rintro x w3 ⟨rfl,H⟩;rw[Q];have I:=X (o.trans ((b.trans (((jG wr _).trans (H.mono (jG wr _).size)).mono b.size)).mono o.size));clear H s;go_wp2;go_ret;exact⟨by rw[G.out];rfl,I⟩
   |true=>
    go_wp2_with fail
    refine(s _).mono ?_;rintro x w3 ⟨rfl,H⟩;rw[Q];have ax:=X (b.trans (((jG wr _).trans (H.mono (jG wr _).size)).mono b.size));clear H s af ag
    go_wp2_with fail
    have ay:Hid ((d.take 0).all (λt=>aV p r g.set [c,t])=true):=X rfl
    go_loopw [27] (λv wr=>∃f:Nat,f<=d.length/\v=Y f/\Hid ((d.take f).all (λt=>aV p r g.set [c,t])=true)/\Hid (Zb w2 wr)) (λv _=>d.length - (intOf v).toNat)
    case atStart=>exact⟨0,jY _,rfl,ay,ax⟩
    case round=>
     clear ay b ax;obtain⟨f,hj,rfl,Hj,b⟩:=hrel;by_cases a6:f<d.length
     .obtain⟨t,hd⟩:=Zg a6
      obtain⟨ea,ec,C,y,z⟩:=a5.2 f t hd;have af:=jH b C;have E:=xP (λf _ F=>⟨trivial,b.block f F⟩) z;have az:=xP (λf _ F=>⟨trivial,b.block f F⟩) aj.2.2;have ag:=jH b aw;have l:=o.trans (b.mono o.size)
      have s:=X (λah=>Yz r au a k g a1 n a2 m i j [c,t] wr.heap.size 0 2 (wr.alloc (.cells #[Zk ca c cc,Zk ea t ec] ah)) (P.below (l.trans ((jG _ _).mono l.size))) ar (Kq (kD (l.trans ((jG _ _).mono l.size)) P.ints)) (QH aj.1 az y E) (jE rfl) (λbd hy=>by
       simp only[qO,sL,or_false] at hy;rcases hy with rfl|rfl
       .exact Z _ aj.2.1
       exact Z _ (jU hd)))
      have a0:=X (Tx hd Hj);have be:(f:Int)<d.length:=(by omega);have bf:(0:Int)<=f:=(by omega);clear hd C y z E az l
      cases R:aV p r g.set [c,t] with
      |false=>
       have G:Hid (V=false):=X (by rw[W.out];exact ai.2 (by rw[Am,a0.out.2 R,Bool.and_false]))
       go_wp2_with fail
       refine(s _).mono ?_;rintro x w5 ⟨rfl,J⟩;rw[R];have I:=X (o.trans ((b.trans (((jG wr _).trans (J.mono (jG wr _).size)).mono b.size)).mono o.size));clear J s;go_wp2;go_ret;exact⟨by rw[G.out];rfl,I⟩
      |true=>
       have Hn:=X (a0.1 R)
       go_wp2_with fail
       refine(s _).mono ?_;rintro x w5 ⟨rfl,J⟩;rw[R];have a7:=X (b.trans (((jG wr _).trans (J.mono (jG wr _).size)).mono b.size));clear J s af ag
       go_wp2_with fail
       go_roundw
       case rel=>exact⟨f+1,by omega,by go_num,Hn,a7⟩
       case measure=>simp[intOf];omega
     obtain rfl:f=d.length:=by omega
     have Hn:=X (ai.1 (by
      have:=Hj.out;rw[qU] at this
      rw[Am,Q,this];rfl))
     go_wp2_with fail
     go_roundw
     case rel=>exact⟨e+1,by omega,by go_num,Hn,b⟩
     case measure=>simp[intOf];omega
  obtain rfl:e=d.length:=by omega
  have G:Hid (V=true):=X (by have:=Hk.out;rw[qU] at this;rw[W.out,this]);have I:=X (o.trans (b.mono o.size));go_wp2;go_ret;exact⟨by rw[G.out];rfl,I⟩
def jDv:∀(p:List jX)(a:Zm),a.length<=61->(lQ r a p).1.length<=61:=by
 intro p;induction p with
 |nil=>intro a h;exact h
 |cons i p c=>
  intro a h;rw[lQ];by_cases b:(qX r a i).2=0
  .rw[jB b]
   have d:=(cV (Xd b).2).2.1;exact c _ (by rw[qB];simp;omega)
  rw[jC b];simp
def ZB{a:Zm}{p:List jX}:(dF B r a p).1.length<=61:=by
 rw[dF];split
 .rename_i h
  have b:=(cV h).2.1
  cases B
  .exact jDv p a (by omega)
  simp
 simp
def YS(q:Nat){b:Zm}(s:Nat){p:List jX}(t:Nat)(A:b.length<=9223372036854775807)(k:∀d,d∈b->d.length<=9223372036854775807)(B:p.length<=9223372036854775807)(l:∀u,u∈p->u.G.length<=9223372036854775807)(m:jV w r a)(g:zM w b a1)(n:eN w p a2):
 Calls Zf 41 #[.agg #[.slice a r.length q],.slice a1 b.length s,.slice a2 p.length t] w λv C=>v=.returned (.tuple #[.bool (aX (mV b.length p.length) r b p).1,Y (aX (mV b.length p.length) r b p).2])/\Zb w C:=by
 have c:=X (λo=>EJ q s t A k B l (qD o m) (dG (jG w o) g) (Mg (jG w o) n));obtain⟨h,f⟩:=Ze (aX (mV b.length p.length) r b p);have e:Hid (h=if (dF (mV b.length p.length) r b p).2=0 then(if p.length=0 then false else((((dF (mV b.length p.length) r b p).1.getLast?).getD []).length==0),0) else(false,(dF (mV b.length p.length) r b p).2)):=by show _=_;rw[f,aX]
 rw[<-f];have i:=X (ZB (B:=mV b.length p.length) (r:=r) (a:=b) (p:=p));have j:=X (λ(o:p.length≠0)(x:(dF (mV b.length p.length) r b p).2=0)=>BH o x);obtain⟨Z,o⟩:=Ze (dF (mV b.length p.length) r b p);rw[<-o] at c e i j;clear f o m g n k l
 go_in
 go_wp2_with fail
 refine(c _).mono ?_;rintro v I ⟨⟨J,K,rfl,f⟩,l⟩;have o:=X f;have k:=X ((jG w _).trans (l.mono (by simp)));clear f l c;by_cases c:Z.2=0
 .have E:(Z.2 !=0)=false:=by simpa using c
  by_cases f:p.length=0
  .have F:((p.length:Int)==0)=true:=by rw[f];rfl
   have l:h=(false,Z.2):=(by rw[e.out,jB c,jB f,c]);subst l;clear e c f
   go_wp2_with fail
   go_ret2
   exact⟨rfl,k⟩
  have F:((p.length:Int)==0)=false:=by simpa using f
  have x:=j f c;have y:=Ek.2 x;obtain⟨m,n⟩:∃m,Z.1.length=m+1:=⟨Z.1.length - 1,by omega⟩;obtain⟨d,g⟩:∃d,Z.1[m]? =some d:=⟨Z.1[m],jO (by omega)⟩;have z:Z.1.getLast? =some d:=by rw[List.getLast?_eq_getElem?,n];exact g
  have l:h=((d.length==0),0):=by rw[e.out,jB c,jC f,z];rfl
  obtain⟨L,M,rfl⟩:=uL o y;obtain⟨O,P,Q, -⟩:=iX o g;have G:=i.out;have H:Hid ((d.length==0)=((d.length:Int)==0)):=by show _=_;rw[eJ];simp
  subst l;rw[n];have R:(m:Int)<(m:Int)+1:=by omega
  have S:(0:Int)<=m:=by omega
  have U:m<=60:=by omega
  have V:((m+1:Nat):Int) - 1=(m:Int):=by omega
  clear e c f x z g G i j y n
  go_wp2_with fail
  go_ret2
  exact⟨by rw[H.out];rfl,k⟩
 have E:(Z.2 !=0)=true:=by simpa using c
 have f:h=(false,Z.2):=by rw[e.out,jC c]
 subst f;clear e c
 go_wp2_with fail
 go_ret2
 exact⟨rfl,k⟩
theorem PG(a:Zy)(w:N):(callFunc 42 a).run Zf w=.ok (.enter 42 a) w:=by kernel_rfl
def jBd{f:Zc->Zc->Bool}(g:lV r f){d:yL}(h:Nat)(b:rN r a k d a1 n a2 m i j w)(e:Fa d.set)(q:c.length<=100000)(l:kR w c a3):
 Calls Zf 42 #[.slice a3 c.length h,Zr i,Zr j] w λo s=>o=.returned (.bool (!tF f r d.set c))/\Zb w s:=by
 have t:=b.g0;have u:=b.a2;have HS:=X (CB g k m h b.ints (by have:=e.1;omega) b.set (λp hd=>⟨by have:=(e.2 p hd).1;omega,(e.2 p hd).2⟩) q l);obtain⟨V,p⟩:=Ze (tF f r d.set c);rw[<-p] at HS ⊢;clear b e l p;clear g
 go_in
 go_wp2_with fail
 refine HS.mono ?_;rintro o g ⟨rfl,b⟩;have e:=X b;clear b HS;go_wp2;go_ret;exact⟨rfl,e⟩
def eG(b:Zc->Zc->Bool)(c:Zn)(l:Zm)(a:yL):Bool:=decide (a.O.length=0) && (!tR a.set && (!l.any (λd=> !tF b c a.set d) && Aj b c a.set a.set))
def jBf{i:Zc->Zc->Bool}(C:lV r i)(t:Nat){l:Zm}(J:Nat){b:yL}(u:Zo)(v:Nat)(j:Nat)(K:jV w r a)(L:zM w l a1)(Z:l.length<=60)(M:∀c,c∈l->c.length<=8)(O:bI (λk=>k<w.heap.size) w b.set a2)(S:b.set.length<=60)(x:∀c,c∈b.set->c.length<=8/\qC r c)(U:b.O.length<=70000):
 Calls Zf 24 #[.agg #[.slice a r.length t],.slice a1 l.length J,sT b u v a2 j] w λy P=>y=.returned (.bool (eG i r l b))/\Zb w P:=by
 obtain⟨n,d⟩:=Ze b.O.length;dsimp only[sT];rw[<-d] at U ⊢;have Q:=X d;clear d;obtain⟨d,f⟩:=Ze ((w.alloc (.cells #[Zk a r t] 24)).alloc (.cells #[Y b.J,.slice u n v,Zk a2 b.set j] 32));have g:Zb w d:=f▸kF _ _ _;have m:d.cell? (D w.heap.size 0)=some (Zk a r t):=by rw[f,kW (by simp)];exact jJ 0 rfl
 have E:d.cell? (D (w.heap.size+1) 1)=some (.slice u n v):=by rw[f];exact jJ 1 (by simp)
 have o:d.cell? (D (w.heap.size+1) 2)=some (Zk a2 b.set j):=by rw[f];exact jJ 2 (by simp)
 have G:bI (λk=>k<d.heap.size) d b.set a2:=O.mono (λk q _=>⟨kV q g.size,g.block k q⟩);have z:rN r a t b u v a2 j w.heap.size (w.heap.size+1) d:=⟨m,o,kD g K,G.clauses⟩;have H:Fa b.set:=⟨by omega,λe hd=>⟨by have:=(x e hd).1;omega,mP (x e hd).2⟩⟩;have A:=X (Oh j (by omega) z.set)
 have B:=X (λ(h:N)(e:Zb d h)=>Jx (k:=42) (f:=#[Zr w.heap.size,Zr (w.heap.size+1)]) (p:=λc=> !tF i r b.set c) J (by omega) PG
  (λP c s s I R V=>jBd C s (z.below (e.trans (I.mono e.size))) H (by have:=M c R;omega) V) (dG (g.trans (e.mono g.size)) L))
 have s:=X (λ(h:N)(e:Zb d h)=>XK C j (z.below e) H (G.mono (λk q _=>⟨kV q e.size,e.block k q⟩)) S x);have W:=X (λ(h:N)(e:Zb d h)=>jM (jH e m) (jH e o));obtain⟨V,I⟩:=Ze (eG i r l b);rw[<-I];have q:=X I;have R:=X f;have e:=X g;rw[f] at m E o;clear f g K L M O x G z H I;clear C
 go_in
 cases n with
 |zero=>
  have G:Hid (b.O.length=0):=X Q.symm
  go_wp2_with fail
  rw[<-R.out];refine A.mono ?_;rintro y h ⟨rfl,f⟩
  cases g:tR b.set with
  |true=>
   have x:Hid (V=false):=X (by rw[q.out,eG,g];simp);have z:=X (e.trans (f.mono e.size));clear f A B s m E o
   go_wp2_with fail
   go_ret;exact⟨by rw[x.out];rfl,z⟩
  |false=>
   have x:=X (B h f);have z:=X f;clear f A B m E o
   go_wp2_with fail
   refine x.mono ?_;rintro y m ⟨rfl,h⟩;have f:=z.trans (h.mono z.size)
   cases o:l.any (λc=> !tF i r b.set c) with
   |true=>
    have C:Hid (V=false):=X (by rw[q.out,eG,g,o];simp);have E:=X (e.trans (f.mono e.size));clear h f x s
    go_wp2_with fail
    go_ret;exact⟨by rw[C.out];rfl,E⟩
   |false=>
    have H:Hid (V=Aj i r b.set b.set):=X (by rw[q.out,eG,g,o,G.out];simp);have C:=X (s m f);obtain⟨I,K⟩:=W m f;have E:=X f;clear h f x s
    go_wp2_with fail
    refine C.mono ?_;rintro y x ⟨rfl,f⟩;have h:=X (e.trans ((E.trans (f.mono E.size)).mono e.size));clear f C
    go_wp2_with fail
    go_ret;exact⟨by rw[H.out];rfl,h⟩
 |succ n=>
  have f:Hid (V=false):=X (by rw[q.out,eG,cX (by rw[<-Q.out];omega)];rfl);have g:((0:Int)<((n+1:Nat):Int)):=by omega
  clear A B s
  go_wp2_with fail
  go_ret;rw[<-R.out];exact⟨by rw[f.out];rfl,e⟩
def eE(b:Zn)(l:Zm)(a:yL):Bool:=decide (a.set.length=0) && (if a.O.length=0 then tR l else(aX (mV l.length a.O.length) b l a.O).1)
def ZO(t:Nat){l:Zm}(h:Nat){b:yL}(u:Nat)(A:Zo)(B:Nat)(v:jV w r a)(j:zM w l a1)(G:l.length<=60)(x:∀e,e∈l->e.length<=8)(y:eN w b.O a2)(g:b.O.length<=70000/\∀i,i∈b.O->i.G.length<=1000)(C:b.set.length<=70000):
 Calls Zf 23 #[.agg #[.slice a r.length t],.slice a1 l.length h,sT b a2 u A B] w λk E=>k=.returned (.bool (eE r l b))/\Zb w E:=by
 have c:∀o1 o2,Zb w ((w.alloc o1).alloc o2):=λ_ _=>kF _ _ _;have d:=X (λo1 o2=>YS t h u (by omega) (λe f=>by have:=x e f;omega) (by omega) (λi f=>by have:=g.2 i f;omega) (kD (c o1 o2) v) (dG (c o1 o2) j) (Mg (c o1 o2) y));have f:=X (λo1 o2=>Oh h (by omega) (dG (c o1 o2) j));have F:=g.1;clear g;obtain⟨n,g⟩:=Ze b.O.length;obtain⟨m,o⟩:=Ze b.set.length;obtain⟨V,p⟩:=Ze (eE r l b);obtain⟨z,q⟩:=Ze (aX (mV l.length n) r l b.O);rw[<-p];dsimp only[sT];rw[<-g] at F d ⊢;rw[<-o] at C ⊢;rw[<-q] at d;have s:Hid (V=(decide (m=0) && (if n=0 then tR l else z.1))):=X (by rw[p,eE,g,o,q,g]);clear g o p q v j x y
 go_in
 cases m with
 |succ m=>
  have g:Hid (V=false):=X (by rw[s.out];simp);have j:((0:Int)<((m+1:Nat):Int)):=by omega
  clear d f;go_wp2;go_ret;exact⟨by rw[g.out];rfl,c _ _⟩
 |zero=>
  cases n with
  |zero=>
   have j:Hid (V=tR l):=X (by rw[s.out];simp);clear d
   go_wp2_with fail
   refine(f _ _).mono ?_;rintro k p ⟨rfl,g⟩;have o:=X ((c _ _).trans (g.mono (c _ _).size));clear g f;go_wp2;go_ret;exact⟨by rw[j.out];rfl,o⟩
  |succ n=>
   have g:Hid (V=z.1):=X (by rw[s.out];simp);have o:¬(((n+1:Nat):Int)=0):=(by omega);clear f
   go_wp2_with fail
   refine(d _ _).mono ?_;rintro k p ⟨rfl,f⟩;have j:=X ((c _ _).trans (f.mono (c _ _).size));clear f d;go_wp2;go_ret;exact⟨by rw[g.out];rfl,j⟩
def dD(c:Zc->Zc->Bool)(b:Zn)(l:Zm)(a:yL):Bool×Int:=
 if a.J=1 then(eE b l a,0) else if a.J=2 then(if 16<a.set.length then(false,2) else if kJ b a.set≠0 then(false,kJ b a.set) else(eG c b l a,0)) else(decide (a.O.length=0) && decide (a.set.length=0),0)
def Kr(e:Zn){q:Zc->Zc->Bool}(Q:lV e q)(r:Zo)(m:Nat)(l:Zm)(L:Zo)(H:Nat)(a:yL)(s:Zo)(y:Nat)(n:Zo)(t:Nat)(w:N)(o:jV w e r)(x:zM w l L)(K:kJ e l=0)(f:a.J=1\/a.J=2\/a.J=3)(h:bX (λz=>z<w.heap.size) w a s n):
 Calls Zf 11 #[.agg #[.slice r e.length m],.slice L l.length H,sT a s y n t] w λA W=>A=.returned (.tuple #[.bool (dD q e l a).1,Y (dD q e l a).2])/\Zb w W:=by
 obtain⟨_,R,S⟩:=cV K;have F:∀i,i∈l->i.length<=8:=λi p=>(S i p).1;obtain⟨g,j⟩:=Ze ((w.alloc (.cells #[.slice r e.length m] 24)).alloc (.cells #[Y a.J,.slice s a.O.length y,.slice n a.set.length t] 32));have d:Zb w g:=j▸kF _ _ _;have M:g.cell? (D w.heap.size 0)=some (.slice r e.length m):=by rw[j,kW (by simp)];exact jJ 0 rfl
 have k:g.cell? (D (w.heap.size+1) 0)=some (Y a.J):=by rw[j];exact jJ 0 (by simp)
 have I:g.cell? (D (w.heap.size+1) 1)=some (.slice s a.O.length y):=by rw[j];exact jJ 1 (by simp)
 have J:g.cell? (D (w.heap.size+1) 2)=some (.slice n a.set.length t):=by rw[j];exact jJ 2 (by simp)
 have O:=X (wR e r m l L H g (kD d o) (by omega) (λi p=>by have:=F i p;omega) (dG d x));rw[K] at O;have P:=X (λ(b:N)(c:Zb g b)=>jM (jH c M) (jM (jH c k) (jM (jH c I) (jH c J))));have G:∀b,Zb g b->bX (λz=>z<b.heap.size) b a s n:=λb c=>h.mono (λz u _=>⟨kV u (kN d.size c.size),(d.trans (c.mono d.size)).block z u⟩) (kN d.size c.size);have B:=X (λ(b:N)(c:Zb g b)=>ZO m H y n t (kD (d.trans (c.mono d.size)) o) (dG (d.trans (c.mono d.size)) x) R F (G b c).pf.vd h.pl h.sl.1);have C:=X (λ(b:N)(c:Zb g b)=>wR e r m a.set n t b (kD (d.trans (c.mono d.size)) o) (by have:=h.sl.1;omega) (λi p=>by have:=h.sl.2 i p;omega) (G b c).st.clauses);have u:=X (λ(i:kJ e a.set=0)(b:N)(c:Zb g b)=>jBf Q m H s y t (kD (d.trans (c.mono d.size)) o) (dG (d.trans (c.mono d.size)) x) R F (G b c).st (cV i).2.1 (cV i).2.2 h.pl.1);have E:=X (λ(b:N)(c:Zb g b)=>d.trans (c.mono d.size));obtain⟨V,p⟩:=Ze (dD q e l a);rw[<-p];have i:=X p;have U:=X j;have Z:=X h.sl.1;have aa:=X h.pl.1;rw[j] at M;clear j d k I J o x h G p K S F;clear Q
 go_in
 go_wp2_with fail
 rw[<-U.out];refine O.mono ?_;rintro A b ⟨rfl,d⟩;obtain⟨g3,k,I,J⟩:=P b d;have j:=X d;clear d O M U;rcases f with f|f|f
 .have d:Hid (V=(eE e l a,0)):=X (by rw[i.out,dD,jB f])
  have o:=X (B b j);dsimp only[sT] at o;rw[f] at k o;clear B C u i f
  go_wp2_with fail
  refine o.mono ?_;rintro A F ⟨rfl,x⟩;have h:=X (E F (j.trans (x.mono j.size)));clear x o;go_wp2;refine qS (v:=.tuple #[.bool (eE e l a),Y 0]) (by simp[results,Tryz.results11,go_sem]) rfl ⟨?_,h⟩;rw[d.out]
 .have o:¬a.J=1:=by omega
  by_cases p:16<a.set.length
  .have d:Hid (V=(false,2)):=X (by rw[i.out,dD,jC o,jB f,jB p])
   have hd:decide ((16:Int)<(a.set.length:Int))=true:=iE (by omega);have U:((16:Int)<(a.set.length:Int)):=(by omega);have h:=X (E b j);rw[f] at k;clear B C u i f o p;go_wp2;refine qS (v:=.tuple #[.bool false,Y 2]) (by simp[results,Tryz.results11,go_sem]) rfl ⟨?_,h⟩;rw[d.out]
  have hd:decide ((16:Int)<(a.set.length:Int))=false:=cX (by omega);have U:¬((16:Int)<(a.set.length:Int)):=by omega
  have O:=X (C b j);have M:=X f;have Q:=X o;have S:=X p;rw[f] at k;clear B C f o p
  go_wp2_with fail
  refine O.mono ?_;rintro A F ⟨rfl,x⟩;have G:=X (j.trans (x.mono j.size));obtain⟨K,p⟩:=Ze (kJ e a.set);rw[<-p];clear O x g3 k I J;by_cases x:K=0
  .have d:Hid (V=(eG q e l a,0)):=X (by rw[i.out,dD,jC Q.out,jB M.out,jC S.out,jC (by rw[<-p,x];simp)])
   have I:=X (u (p.symm.trans x) F G);obtain⟨g4,O,b1,b2⟩:=P F G;dsimp only[sT] at I;rw[M.out] at O I;subst x;clear u p i
   go_wp2_with fail
   refine I.mono ?_;rintro A w5 ⟨rfl,J⟩;have h:=X (E w5 (G.trans (J.mono G.size)));clear J I;go_wp2;refine qS (v:=.tuple #[.bool (eG q e l a),Y 0]) (by simp[results,Tryz.results11,go_sem]) rfl ⟨?_,h⟩;rw[d.out]
  have d:Hid (V=(false,K)):=X (by rw[i.out,dD,jC Q.out,jB M.out,jC S.out,jB (p▸x),p]);have I:(K !=0)=true:=by simpa using x
  have h:=X (E F G);clear u p i x
  go_wp2_with fail
  refine qS (v:=.tuple #[.bool false,Y K]) (by simp[results,Tryz.results11,go_sem]) rfl ⟨?_,h⟩;rw[d.out]
 have o:¬a.J=1:=by omega
 have p:¬a.J=2:=by omega
 have d:Hid (V=(decide (a.O.length=0) && decide (a.set.length=0),0)):=X (by rw[i.out,dD,jC o,jC p]);have h:=X (E b j);rw[f] at k;clear B C u i f o p P;have o:=aa.out;have p:=Z.out;generalize a.O.length=b at*;generalize a.set.length=f at*
 cases b with
 |zero=>
  cases f with
  |zero=>
   go_wp2_with fail
   refine qS (v:=.tuple #[.bool true,Y 0]) (by simp[results,Tryz.results11,go_sem]) rfl ⟨?_,h⟩;rw[d.out];rfl
  |succ f=>
   have i:¬(((f+1:Nat):Int)=0):=(by omega);have u:((((f+1:Nat):Int))==0)=false:=by simpa using i
   go_wp2_with fail
   refine qS (v:=.tuple #[.bool false,Y 0]) (by simp[results,Tryz.results11,go_sem];omega) rfl ⟨?_,h⟩;rw[d.out];simp
 |succ b=>
  have i:¬(((b+1:Nat):Int)=0):=by omega
  have u:((((b+1:Nat):Int))==0)=false:=by simpa using i
  go_wp2;refine qS (v:=.tuple #[.bool false,Y 0]) (by simp[results,Tryz.results11,go_sem]) rfl ⟨?_,h⟩;rw[d.out];simp
def Dj{c:Func}{p q:Tmp}(h:c.results=#[.cell p g,.tmp q])(a:Zy)(w:N)(b:Nat)(d:Zy)(v:Zv)
 (e:a.getD p undef=Zr b) (f:a.getD q undef=v) (i:(loadVar g (D b 0)).run Zf w=.ok (.agg d) w):
 (results c a).run Zf w=.ok (.tuple #[.agg d,v]) w:=by
 have j:a[p]?.getD undef=Zr b:=by simpa using e
 have k:a[q]?.getD undef=v:=by simpa using f
 simp[results,h,j,k,asAddr,i]
def gR(b:Zc->Zc->Bool)(c:Zn)(l:Zm)(a:yL):Bool:=(dD b c l a).1 && a.J !=3
def Cc(b:Zc->Zc->Bool)(a:Zn)(l:Zm)(c:Int)(d:yL)(f:Int):Prop:=
 (kJ a l≠0->d=⟨0,[],[]⟩/\f=kJ a l)/\(kJ a l=0->(c<0\/24<c)->d=⟨0,[],[]⟩/\f=3)/\
 (kJ a l=0->0<=c->c<=24->f=0/\∃e,Ee a l c.toNat e/\((gR b a l e=true/\d=e)\/(gR b a l e=false/\gR b a l vU=true/\d=vU)\/(gR b a l e=false/\gR b a l vU=false/\d=⟨3,[],[]⟩)))
def Ol{s:St}{a:yL}(h:rC s a):a.J=1\/a.J=2\/a.J=3:=by
 cases b:s.found with
 |true=>obtain⟨p,_,rfl⟩:=h.1 b;exact jD rfl
 |false=>rw[h.2 b];exact jE (jE rfl)
def jAf:∀(f:Nat)(s:St)(a:yL),bH r f s a->a.J=1\/a.J=2\/a.J=3:=by
 intro f;induction f with
 |zero=>
  intro s a h;rw[bH] at h
  cases b:zQ s with
  |true=>exact Ol (h.1 b)
  |false=>
   by_cases c:lX s<0
   .rw[(h.2 b).1 c];exact jE (jD rfl)
   exact Ol ((h.2 b).2 (by omega))
 |succ f c=>
  intro s a h;rw[bH] at h
  cases b:zQ s with
  |true=>exact Ol (h.1 b)
  |false=>
   by_cases d:lX s<0
   .rw[(h.2 b).1 d];exact jE (jD rfl)
   exact c _ a ((h.2 b).2 (by omega))
def Xa{l:Zm}{a:yL}(h:Ee r l k a):a.J=1\/a.J=2\/a.J=3:=by
 cases b:tR l with
 |true=>rw[h.1 b];exact jD rfl
 |false=>exact jAf _ _ _ (h.2 b)
def Qk{h:Zc->Zc->Bool}(S:lV r h)(z:Nat){l:Zm}(R:Nat)(i:Int)(C:∀k,p k->k<w.heap.size)(E:IP p w r a)(g:bI p w l a1)(U:l.length<=9223372036854775807)(V:∀G,G∈l->G.length<=9223372036854775807):
 Calls Zf 6 #[.agg #[.slice a r.length z],.slice a1 l.length R,Y i] w λH w'=>(∃ac j u m v aj,H=.returned (.tuple #[sT ac j u m v,Y aj])/\Cc h r l i ac aj/\bX (λk=>(p k\/w.heap.size<=k)/\k<w'.heap.size) w' ac j m)/\Zb w w':=by
 obtain⟨o,B⟩:=Ze ((w.alloc (.cells #[Zk a r z] 24)).alloc (.cells #[Y 0,Zd,Zd] 32));have c:Zb w o:=B▸kF _ _ _;have M:o.heap.size=w.heap.size+2:=by rw[B];simp
 have F:o.cell? (D w.heap.size 0)=some (Zk a r z):=by rw[B,kW (by simp)];exact jJ 0 rfl
 have O:o.heap[w.heap.size+1]? =some (.cells #[Y 0,Zd,Zd] 32 (0,0)):=by
  rw[B];have:=World.alloc_heap_new (w.alloc (.cells #[Zk a r z] 24)) (.cells #[Y 0,Zd,Zd] 32 (0,0));rw[qE] at this;exact this
 have I:Tryz.f6.results=#[.cell 6 32,.tmp 7]:=by kernel_rfl
 have J:(Zf.info? 32).map (·.size)=some 3:=by kernel_rfl
 have P:∀d,Zb o d->bI (λk=>k<d.heap.size) d l a1:=λd e=>g.mono (λk b _=>⟨kV (C k b) (kN c.size e.size),(c.trans (e.mono c.size)).block k (C k b)⟩);have Q:∀d,Zb o d->jV d r a:=λd e=>kD (c.trans (e.mono c.size)) (Pi E);have ak:=X (λ(d:N)(e:Zb o d)=>jM (yH (λk b _=>⟨b,(c.trans (e.mono c.size)).block k (C k b)⟩) E) (g.mono (λk b _=>⟨b,(c.trans (e.mono c.size)).block k (C k b)⟩)));have W:=X (wR r a z l a1 R o (Q o (jW _ _)) U V (P o (jW _ _)).clauses)
 have Z:∀(f:N)(n:Int)(s:List jX)(q:Zm)(t:Zo)(y:Nat)(x:Zo)(A:Nat)(K:Zp),Zb o f->(∀k,K k->(p k\/w.heap.size<=k)/\k≠w.heap.size+1)->bX K f ⟨n,s,q⟩ t x->
  bX (λk=>(p k\/w.heap.size<=k)/\k<(f.setCells (w.heap.size+1) 0 [Y n,Zk t s y,Zk x q A]).heap.size) (f.setCells (w.heap.size+1) 0 [Y n,Zk t s y,Zk x q A]) ⟨n,s,q⟩ t x/\Zb w (f.setCells (w.heap.size+1) 0 [Y n,Zk t s y,Zk x q A])/\
  (f.setCells (w.heap.size+1) 0 [Y n,Zk t s y,Zk x q A]).heap[w.heap.size+1]? =some (.cells #[Y n,Zk t s y,Zk x q A] 32 (0,0)):=by
  intro f n s q t y x A K e K hA;have aa:=bK (show w.heap.size<=w.heap.size+1 by omega) [Y n,Zk t s y,Zk x q A] 0 f (c.trans (e.mono c.size));have L:=bK (jF (w.heap.size+1)) [Y n,Zk t s y,Zk x q A] 0 f (jW _ f);refine⟨hA.mono (λk b g=>⟨⟨(K k b).1,kV g L.size⟩,tH (K k b).2 _ _ _⟩) L.size,aa,pG ((e.block _ (by omega)).trans O) rfl⟩
 have K:=X Z;have al:=X S;have HK:=X C;have L:=X (λ(d:N)(e:Zb o d)=>jM (jH e F) ((e.block _ (by omega)).trans O));have am:=X P;have an:=X Q;have e:=X B;have ao:=X (jM c M);rw[B] at F;clear Z B c M O P Q E g V U C S
 go_in
 go_wp2_with fail
 rw[<-e.out];refine W.mono ?_;rintro H d ⟨rfl,c⟩;obtain⟨aa,E⟩:=Ze (kJ r l);rw[<-E];have x:=X c;clear W c F e;obtain⟨B,c⟩:=L d x;obtain⟨⟨k0,k1,k2⟩,e⟩:=sU c;have p0:=e 0;have p1:=e 1;have p2:=e 2;clear e c;by_cases S:aa=0
 .subst S
  have F:Hid (kJ r l=0):=X E.symm;clear E;by_cases f:i<0\/24<i
  .have HR:Hid (Cc h r l i ⟨0,[],[]⟩ 3):=X ⟨λn=>jN F n,λ_ _=>⟨rfl,rfl⟩,λ_ c c=>by omega⟩
   have hd:(decide (i<0)||decide (24<i))=true:=(by simp;exact f);rcases f with f|f
   .have A:decide (i<0)=true:=iE f
    have s:=K d 0 [] [] none 0 none 0 (λ_=>False) x (λk b=>b.elim) ⟨jD rfl,jD rfl,⟨by simp,λC t=>by cases t⟩,⟨by simp,λG y=>by cases y⟩⟩;have c:=X s;clear s
    go_wp2_with fail
    (try simp only[Exit.inBlock,Exit.then]);refine qS (Dj I _ _ (w.heap.size+1) #[Y 0,Zd,Zd] _ rfl rfl (run_loadVar_row _ (w.heap.size+1) 32 32 _ (0,0) _ c.2.2 Tryz.underlying32 rfl J)) rfl ?_;exact⟨⟨⟨0,[],[]⟩,none,0,none,0,3,rfl,HR,c.1⟩,c.2.1⟩
   have A:¬i<0:=(by omega);have s:=K d 0 [] [] none 0 none 0 (λ_=>False) x (λk b=>b.elim) ⟨jD rfl,jD rfl,⟨by simp,λC t=>by cases t⟩,⟨by simp,λG y=>by cases y⟩⟩;have c:=X s;clear s
   go_wp2_with fail
   (try simp only[Exit.inBlock,Exit.then]);refine qS (Dj I _ _ (w.heap.size+1) #[Y 0,Zd,Zd] _ rfl rfl (run_loadVar_row _ (w.heap.size+1) 32 32 _ (0,0) _ c.2.2 Tryz.underlying32 rfl J)) rfl ?_;exact⟨⟨⟨0,[],[]⟩,none,0,none,0,3,rfl,HR,c.1⟩,c.2.1⟩
  have a3:¬i<0:=by omega
  have a4:¬24<i:=by omega
  obtain⟨U,rfl⟩:∃U:Nat,i=(U:Int):=⟨i.toNat,by omega⟩;have s:=X (SQ r a z l a1 R U d p (λk b=>kV (HK k b) (kN ao.1.size x.size)) (ak d x).1 (ak d x).2 F (by omega));have ad:=X (show(0:Int)<=(U:Int)/\(U:Int)<=24 by omega);clear f k0 k1 k2 p0 p1 p2
  go_wp2_with fail
  refine s.mono ?_;rintro H w4 ⟨⟨c,j,u,m,v,rfl,f,t⟩,A⟩;have C:=X (JF w4);have y:=X (jM f t);have ae:=X (x.trans (A.mono x.size));have aw:=X (Xa f);clear f t A s B
  go_wp2_with fail
  refine C.mono ?_;rintro H V ⟨⟨s,A,t,B,rfl,O⟩,f⟩;have P:=x.size;have M:=ao.2;have Q:=ae.size;have W:=f.size;have ax:Hid (bX (λk=>(p k\/w.heap.size<=k)/\k≠w.heap.size+1) V vU s t):=X (O.mono (λk b _=>⟨⟨jE (by omega),by omega⟩,rfl⟩) (jF _))
  have ay:Hid (bX (λk=>(p k\/w.heap.size<=k)/\k≠w.heap.size+1) V c j m):=X (y.2.mono (λk b Z=>⟨by
   rcases b.1 with q|q
   .exact⟨jD q,by have:=HK k q;omega⟩
   exact⟨jE (by omega),by omega⟩,f.block k Z⟩) f.size)
  have ap:=X (ae.trans (f.mono ae.size));have af:=X y.1;clear O f C y P M Q W;obtain⟨W6,f⟩:=Ze (V.alloc (.cells #[Y c.J,Zk j c.O u,Zk m c.set v,Y vU.J,Zk s vU.O A,Zk t vU.set B] 32));have y:Zb V W6:=f▸jG _ _;have O:∀q C,(#[Y c.J,Zk j c.O u,Zk m c.set v,Y vU.J,Zk s vU.O A,Zk t vU.set B]:Zy)[q]? =some C->Zq W6 V.heap.size q C:=λq C C=>by rw[f];exact(jJ q rfl).trans C
  have aq:=X (ap.trans (y.mono ap.size));have C:=X y;have M:=X O;have q:=X f;clear f y O
  go_upto_region 7 with fail
  rw[<-q.out];clear q
  go_loopw [34] (λf wr=>∃k:Nat,k<=2/\f=Y k/\Hid ((1<=k->gR h r l c=false)/\(2<=k->gR h r l vU=false))/\Hid (Zb W6 wr)) (λf _=>2 - (intOf f).toNat)
  case atStart=>exact⟨0,by omega,rfl,X ⟨λn=>by omega,λn=>by omega⟩,X (jW _ _)⟩
  case round=>
   obtain⟨k,b,rfl,Hk,f⟩:=hrel;have O:Hid (Zb o wr):=X (aq.trans (f.mono aq.size));obtain⟨g9,q⟩:=L wr O;have az:=X q;clear q
   match k,b with
   |0,_=>
    have q0:=jH f (M 0 _ rfl);have q1:=jH f (M 1 _ rfl);have q2:=jH f (M 2 _ rfl);obtain⟨q,P⟩:=Ze (wr.alloc (.cells #[Y c.J,Zk j c.O u,Zk m c.set v] 32));have W:Zb wr q:=P▸jG _ _;have Z:=O.trans (W.mono O.size);have b0:Zq q wr.heap.size 0 (Y c.J):=P▸jJ 0 rfl;have b1:Zq q wr.heap.size 1 (Zk j c.O u):=P▸jJ 1 rfl;have b2:Zq q wr.heap.size 2 (Zk m c.set v):=P▸jJ 2 rfl;have g7:=(L q Z).1;have ag:bX (λk=>(p k\/w.heap.size<=k)/\k≠w.heap.size+1) q c j m:=ay.mono (λk b g=>⟨b,(((C.trans (f.mono C.size)).trans (W.mono (kN C.size f.size))).block k g)⟩) (kN C.size (kN f.size W.size));have ah:=X (Kr r al a z l a1 R c j u m v q (an q Z) (am q Z).clauses F aw (ag.mono (λk _ g=>⟨g,rfl⟩) (jF _)));obtain⟨ar,hV⟩:=Ze (dD h r l c);rw[<-hV] at ah;have ai:Hid (gR h r l c=(ar.1 && c.J !=3)):=X (by rw[gR,<-hV]);have a0:=X (λ(Q:N)(y:Zb q Q)=>jM (jH y b0) (jM (jH y b1) (jH y b2)));have a2:=X ag;have au:=X P;have ab:=X W;have av:=X Z;obtain⟨v1,v2⟩:=ar;have a5:((0:Nat):Int)<2:=(by omega);clear P W Z ag hV g9
    go_upto_region 9 with fail
    rw[<-au.out];clear q0 q1 q2
    go_wp2_with fail
    refine ah.mono ?_;rintro H Q ⟨rfl,y⟩;obtain⟨b0,b1,b2⟩:=a0 Q y;have P:=X y;have W:=X (av.trans (y.mono av.size));have ag:Hid (bX (λk=>(p k\/w.heap.size<=k)/\k≠w.heap.size+1) Q c j m):=X (a2.mono (λk b g=>⟨b,y.block k g⟩) y.size);clear y ah au g7
    cases v1 with
    |false=>
     have y:Hid (gR h r l c=false):=X (by rw[ai.out];rfl)
     go_wp2_with fail
     go_roundw
     case rel=>exact⟨1,by omega,by go_num,X ⟨λ_=>y,λn=>by omega⟩,X (f.trans ((ab.trans (P.mono ab.size)).mono f.size))⟩
     case measure=>simp[intOf]
    |true=>
     cases Z:(c.J !=3) with
     |false=>
      have y:Hid (gR h r l c=false):=X (by rw[ai.out,Z];rfl)
      go_wp2_with fail
      go_roundw
      case rel=>exact⟨1,by omega,by go_num,X ⟨λ_=>y,λn=>by omega⟩,X (f.trans ((ab.trans (P.mono ab.size)).mono f.size))⟩
      case measure=>simp[intOf]
     |true=>
      have ah:Hid (gR h r l c=true):=X (by rw[ai.out,Z];rfl);obtain⟨⟨k0,k1,k2⟩,e⟩:=sU (L Q W).2;have p0:=e 0;have p1:=e 1;have p2:=e 2;clear e;have y:=X (K Q c.J c.O c.set j u m v (λk=>(p k\/w.heap.size<=k)/\k≠w.heap.size+1) W (λk b=>b) ag)
      go_wp2_with fail
      (try simp only[Exit.inBlock,Exit.then]);refine qS (Dj I _ _ (w.heap.size+1) #[Y c.J,Zk j c.O u,Zk m c.set v] _ rfl rfl (run_loadVar_row _ (w.heap.size+1) 32 32 _ (0,0) _ y.2.2 Tryz.underlying32 rfl J)) rfl ?_;exact⟨⟨c,j,u,m,v,0,rfl,⟨λn=>jN F n,λ_ n=>by have:=ad.out;omega,λ_ _ _=>⟨rfl,c,by rw[pK];exact af,jD ⟨ah,rfl⟩⟩⟩,y.1⟩,y.2.1⟩
   |1,_=>
    have q0:=jH f (M 3 _ rfl);have q1:=jH f (M 4 _ rfl);have q2:=jH f (M 5 _ rfl);obtain⟨q,P⟩:=Ze (wr.alloc (.cells #[Y vU.J,Zk s vU.O A,Zk t vU.set B] 32));have W:Zb wr q:=P▸jG _ _;have Z:=O.trans (W.mono O.size);have b0:Zq q wr.heap.size 0 (Y vU.J):=P▸jJ 0 rfl;have b1:Zq q wr.heap.size 1 (Zk s vU.O A):=P▸jJ 1 rfl;have b2:Zq q wr.heap.size 2 (Zk t vU.set B):=P▸jJ 2 rfl;have g7:=(L q Z).1;have ab:bX (λk=>(p k\/w.heap.size<=k)/\k≠w.heap.size+1) q vU s t:=ax.mono (λk b g=>⟨b,(((C.trans (f.mono C.size)).trans (W.mono (kN C.size f.size))).block k g)⟩) (kN C.size (kN f.size W.size));have ag:=X (Kr r al a z l a1 R vU s A t B q (an q Z) (am q Z).clauses F (jE (jD rfl)) (ab.mono (λk _ g=>⟨g,rfl⟩) (jF _)));obtain⟨ah,hV⟩:=Ze (dD h r l vU);rw[<-hV] at ag;have ai:Hid (gR h r l vU=(ah.1 && vU.J !=3)):=X (by rw[gR,<-hV]);have a0:=X (λ(Q:N)(y:Zb q Q)=>jM (jH y b0) (jM (jH y b1) (jH y b2)));have a2:=X ab;have ar:=X P;have au:=X W;have av:=X Z;obtain⟨v1,v2⟩:=ah;have a5:((1:Nat):Int)<2:=(by omega);clear P W Z ab hV g9
    go_upto_region 9 with fail
    rw[<-ar.out];clear q0 q1 q2
    go_wp2_with fail
    refine ag.mono ?_;rintro H Q ⟨rfl,y⟩;obtain⟨b0,b1,b2⟩:=a0 Q y;have W:=X y;have P:=X (av.trans (y.mono av.size));have Z:Hid (bX (λk=>(p k\/w.heap.size<=k)/\k≠w.heap.size+1) Q vU s t):=X (a2.mono (λk b g=>⟨b,y.block k g⟩) y.size);clear y ag ar g7
    cases v1 with
    |false=>
     have y:Hid (gR h r l vU=false):=X (by rw[ai.out];rfl)
     go_wp2_with fail
     go_roundw
     case rel=>exact⟨2,by omega,by go_num,X ⟨λ_=>Hk.1 (by omega),λ_=>y⟩,X (f.trans ((au.trans (W.mono au.size)).mono f.size))⟩
     case measure=>simp[intOf]
    |true=>
     have ab:Hid (gR h r l vU=true):=X (by rw[ai.out];rfl);have h3:(vU.J !=3)=true:=rfl;obtain⟨⟨k0,k1,k2⟩,e⟩:=sU (L Q P).2;have p0:=e 0;have p1:=e 1;have p2:=e 2;clear e;have y:=X (K Q vU.J vU.O vU.set s A t B (λk=>(p k\/w.heap.size<=k)/\k≠w.heap.size+1) P (λk b=>b) Z)
     go_wp2_with fail
     (try simp only[Exit.inBlock,Exit.then]);refine qS (Dj I _ _ (w.heap.size+1) #[Y vU.J,Zk s vU.O A,Zk t vU.set B] _ rfl rfl (run_loadVar_row _ (w.heap.size+1) 32 32 _ (0,0) _ y.2.2 Tryz.underlying32 rfl J)) rfl ?_;exact⟨⟨vU,s,A,t,B,0,rfl,⟨λn=>jN F n,λ_ n=>by have:=ad.out;omega,λ_ _ _=>⟨rfl,c,by rw[pK];exact af,jE (jD ⟨Hk.1 (by omega),ab,rfl⟩)⟩⟩,y.1⟩,y.2.1⟩
   |2,_=>
    obtain⟨⟨k0,k1,k2⟩,e⟩:=sU az;have p0:=e 0;have p1:=e 1;have p2:=e 2;clear e;have e:=X (K wr 3 [] [] none 0 none 0 (λ_=>False) O (λk b=>b.elim) ⟨jD rfl,jD rfl,⟨by simp,λq q=>by cases q⟩,⟨by simp,λG q=>by cases q⟩⟩)
    go_wp2_with fail
    (try simp only[Exit.inBlock,Exit.then]);refine qS (Dj I _ _ (w.heap.size+1) #[Y 3,Zd,Zd] _ rfl rfl (run_loadVar_row _ (w.heap.size+1) 32 32 _ (0,0) _ e.2.2 Tryz.underlying32 rfl J)) rfl ?_;exact⟨⟨⟨3,[],[]⟩,none,0,none,0,0,rfl,⟨λn=>jN F n,λ_ n=>by have:=ad.out;omega,λ_ _ _=>⟨rfl,c,by rw[pK];exact af,jE (jE ⟨Hk.1 (by omega),Hk.2 (by omega),rfl⟩)⟩⟩,e.1⟩,e.2.1⟩
 have e:Hid (Cc h r l i ⟨0,[],[]⟩ aa):=X ⟨λ_=>⟨rfl,E⟩,λc=>jN (E.trans c) S,λc=>jN (E.trans c) S⟩;have f:(aa !=0)=true:=by simpa using S
 clear E S;have c:=K d 0 [] [] none 0 none 0 (λ_=>False) x (λk b=>b.elim) ⟨jD rfl,jD rfl,⟨by simp,λb b=>by cases b⟩,⟨by simp,λG b=>by cases b⟩⟩;have b:=X c;clear c
 go_wp2_with fail
 (try simp only[Exit.inBlock,Exit.then]);refine qS (Dj I _ _ (w.heap.size+1) #[Y 0,Zd,Zd] _ rfl rfl (run_loadVar_row _ (w.heap.size+1) 32 32 _ (0,0) _ b.2.2 Tryz.underlying32 rfl J)) rfl ?_;exact⟨⟨⟨0,[],[]⟩,none,0,none,0,aa,rfl,e,b.1⟩,b.2.1⟩
abbrev vH:Zn:=[0,1]
abbrev vx:T:=⟨1,0,[]⟩
abbrev vy:T:=⟨2,0,[]⟩
abbrev Fj:T:=⟨0,0,[]⟩
abbrev rY:T:=⟨0,1,[vx]⟩
abbrev sX:T:=⟨0,1,[vy]⟩
abbrev QC:T:=⟨0,1,[Fj]⟩
abbrev vN:Zc:=[(true,rY,vx)]
abbrev fO:Zc:=[(false,QC,Fj)]
abbrev i1:jX:=⟨3,0,1,0,0,false,false,[]⟩
abbrev i2:jX:=⟨3,0,1,0,0,true,false,[]⟩
def Yp:([1,2]:Zn).mergeSort (λx y=>decide (x<=y))=[1,2]:=by simp[List.mergeSort,List.MergeSort.Internal.splitInTwo]
theorem DN:((kB rY (kB sX ([],[])).2).2.2.map Prod.fst)=[1,2]:=by kernel_rfl
theorem DO:((kB vx (kB sX ([],[])).2).2.2.map Prod.fst)=[1,2]:=by kernel_rfl
def u1b:eH 1000 sX rY=some ([(2,vx)],true,0):=by rw[eH,DN,Yp];kernel_rfl
def u2a:eH 1000 sX vx=some ([(1,sX)],true,0):=by rw[eH,DO,Yp];kernel_rfl
theorem q1:qX vH [vN,vN] i1=sZ vH vN [(true,sX,vy)] 0 0 false [] sX rY vx sX vy:=by kernel_rfl
theorem q2:qX vH [vN,vN] i2=sZ vH vN [(true,sX,vy)] 0 0 false [] sX vx rY sX vy:=by kernel_rfl
def bL:xM vH sX rY=([(2,vx)],0):=by rw[xM,gH,u1b];kernel_rfl
def Kp:xM vH sX vx=([(1,sX)],0):=by rw[xM,gH,u2a];kernel_rfl
def rr1:qX vH [vN,vN] i1=([(true,vx,vx)],0):=by rw[q1,sZ,bL];kernel_rfl
def rr2:qX vH [vN,vN] i2=([],4):=by rw[q2,sZ,Kp];kernel_rfl
def sA:St:=[vN,fO].foldl (mN vH) mQ
theorem jA1:zQ sA=false:=by kernel_rfl
theorem BW:lX sA=0:=by kernel_rfl
def s1:St:=bW vH (setIs sA 0 1) [0]
def Dl:St:={s1 with work:=qI (s1.work - qI (6*1))}
theorem jA0:bW vH s1 [0,0]=pA vH [vN,vN] 6 [0,0] [i1,i2] Dl:=by kernel_rfl
def s2:St:=fP vH 6 [0,0] (fP vH 6 [0,0] Dl i1 ([(true,vx,vx)],0)) i2 ([],4)
theorem o1:zQ (fP vH 6 [0,0] Dl i1 ([(true,vx,vx)],0))=false:=by kernel_rfl
theorem o2:zQ s2=false:=by kernel_rfl
def jAz:bW vH s1 [0,0]=s2:=by
 rw[jA0,pA,rr1,jC (by rw[o1];simp),pA,rr2,jC (by rw[show fP vH 6 [0,0] (fP vH 6 [0,0] Dl i1 ([(true,vx,vx)],0)) i2 ([],4)=s2 from rfl,o2];simp),pA];rfl
theorem jAy:s1.h.length=2:=by kernel_rfl
def sB:St:=bW vH (bW vH s2 [0,1]) [1,0]
def jA2:iK vH sA 0=sB:=by
 have h:nW vH 0 s1.h.length 0 s1=sB:=by
  rw[jAy,nW,jC (by decide),jAz,nW,jB (by decide),nW];rfl
 exact h
theorem jA3:zQ sB=false:=by kernel_rfl
theorem BX:lX sB=1:=by kernel_rfl
def sC:St:=iK vH sB 1
theorem BY:sC.found=true:=by kernel_rfl
theorem jA4:sC.Z=2:=by kernel_rfl
theorem BZ:sC.last=⟨3,0,1,0,0,false,false,[]⟩:=by kernel_rfl
def SP{b:yL}(h:Ee vH [vN,fO] 24 b):b=⟨1,[⟨3,0,1,0,0,false,false,[]⟩],[]⟩:=by
 have c:=h.2 rfl;rw[show [vN,fO].foldl (mN vH) mQ=sA from rfl] at c;have d:=(c.2 jA1).2 (by rw[BW];decide);rw[BW,jA2] at d;have e:=(d.2 jA3).2 (by rw[BX];decide);rw[BX,show iK vH sB 1=sC from rfl] at e;have f:=e.1 (by rw[zQ,BY];rfl);obtain⟨p,g,rfl⟩:=f.1 BY
 rw[g.1 (λm a=>by
  rw[BZ] at a;rw[jA4];simp only[yW,if_true,qO,sL,or_false] at a
  rcases a with rfl|rfl<;>decide),BZ]
theorem ZA:(aX (mV 2 1) vH [vN,fO] [⟨3,0,1,0,0,false,false,[]⟩]).1=true:=by kernel_rfl
theorem Uq:kJ vH [vN,fO]=0:=by kernel_rfl
theorem Up:kJ vH [vN]=0:=by kernel_rfl
def jCp{b:Zc->Zc->Bool}{c:yL}(h:Cc b vH [vN,fO] 24 c z):z=0/\c.J=1/\dD b vH [vN,fO] c=(true,0):=by
 obtain⟨g,k,d,i⟩:=h.2.2 Uq (by decide) (by decide);rw[show(24:Int).toNat=24 from rfl] at d;have j:=SP d;subst j;have e:dD b vH [vN,fO] ⟨1,[⟨3,0,1,0,0,false,false,[]⟩],[]⟩=(true,0):=by
  rw[dD,jB rfl,eE];simp only[mZ,xI,kK,decide_true,rA];rw[jC (by decide)];exact Prod.ext ZA rfl
 have f:gR b vH [vN,fO] ⟨1,[⟨3,0,1,0,0,false,false,[]⟩],[]⟩=true:=by rw[gR,e];rfl
 rcases i with⟨_,rfl⟩|⟨a,_⟩|⟨a,_⟩
 .exact⟨g,rfl,e⟩
 .rw[f] at a;cases a
 rw[f] at a;cases a
def Df:T:=⟨1,0,[]⟩
def Dc:T:=⟨0,1,[Df]⟩
def oS:List Zn:=[[0],[1,0]]
def Ai:Zc:=[(false,Dc,Df)]
theorem Pw:tA [0,1] 2 oS=0:=by rfl
theorem VZ:kI [0,1] [Dc]=0:=by rfl
theorem VX:kJ [0,1] [Ai]=0:=by rfl
def Yl:xR Dc=[1]:=by
 rw[xR,show gD Dc=[1] from rfl,List.mergeSort_singleton];rfl
def WB:xR Df=[1]:=by
 rw[xR,show gD Df=[1] from rfl,List.mergeSort_singleton];rfl
def WE:yQ Ai=[1]:=by
 refine ZU (Ut Ai) (Mw _ _) (λx=>?_);rw[rT,Ai,yA,yA,Yl,WB];simp
def WC:As [0,1] 2 oS Dc [1]=(0,0):=by
 rw[As,jB Pw,jB VZ,Yl];rfl
def VY:fT [0,1] 2 oS Ai=(true,0):=by
 rw[fT,jB Pw,jB VX,WE];rfl
def IN(e:TypeId)(a:jV w [0] (some (D k 0)))(b:jV w [1,0] (some (D n 0))):dK (w.alloc (.cells #[Zx k 1 1,Zx n 2 2] e)) oS (some (D w.heap.size 0)):=
 ⟨w.heap.size,0,some (D k 0),1,rfl,jJ 0 rfl,qD _ a,w.heap.size,1,some (D n 0),2,rfl,jJ 1 rfl,qD _ b,trivial⟩
def GA(e:TypeId)(a:InL w [Df] (some (D k 0))):kR (w.alloc (.cells #[.bool false,Y 0,Y 1,Zx k 1 1,Y 1,Y 0,Zd] e)) Ai (some (D w.heap.size 0)):=
 ⟨w.heap.size,0,some (D k 0),1,none,0,rfl,jJ 0 rfl,jJ 1 rfl,jJ 2 rfl,jJ 3 rfl,jJ 4 rfl,jJ 5 rfl,jJ 6 rfl,jS _ a,dU,trivial⟩
def IU(a:jV w [0,1] (some (D k 0)))(b:dK w oS (some (D i 0)))(c:InL w [Df] (some (D n 0)))(d:jV w [1] (some (D m 0))):
 Calls Zf 12 #[.agg #[Zx k 2 2],.agg #[Y 2,Zx i 2 2],.agg #[Y 0,Y 1,Zx n 1 1],Zx m 1 1] w λe f=>e=.returned (.tuple #[Y 0,Y 0])/\Zb w f:=by
 have h:=IT [0,1] (some (D k 0)) 2 2 oS (some (D i 0)) 2 Dc (some (D n 0)) 1 [1] (some (D m 0)) 1 w a b c d (by decide);rw[WC] at h;exact h
def EY(a:jV w [0,1] (some (D k 0)))(b:dK w oS (some (D m 0)))(c:kR w Ai (some (D n 0))):
 Calls Zf 7 #[.agg #[Zx k 2 2],.agg #[Y 2,Zx m 2 2],Zx n 1 1] w λe d=>e=.returned (.tuple #[.bool true,Y 0])/\Zb w d:=by
 have h:=Rr 2 2 2 1 a b c (by decide);rw[VY] at h;exact h
def GB(a:jV w [0,1] (some (D k 0)))(b:dK w oS (some (D n 0))):
 Calls Zf 13 #[.agg #[Zx k 2 2],.agg #[Y 2,Zx n 2 2]] w λe c=>e=.returned (Y 0)/\Zb w c:=by
 have h:=Pq 2 2 2 a b;rw[Pw] at h;exact h
def XX(e:TypeId):jV (w.alloc (.cells #[Y z] e)) [z] (some (D w.heap.size 0)):=jE ⟨_,0,rfl,λi a=>by
 have:i=0:=by simp at a;omega
 subst this;exact jJ 0 rfl⟩
def AH(e:TypeId)(a:k=w.heap.size):jV (w.alloc (.cells #[Y z] e)) [z] (some (D k 0)):=a▸XX e
def If(h:jV w r a):jV w.drew r a:=h
def WM(w:N):Calls Zf 5 #[] w λe a=>e=.returned (.bool true)/\Zb w a:=by
 obtain⟨b,f⟩:=Ze ((((w.alloc (.cells #[Y 0] 3)).alloc (.cells #[Y 1,Y 0] 3)).alloc (.cells #[Zx w.heap.size 1 1,Zx (w.heap.size+1) 2 2] 22)).alloc (.cells #[Y 2,Zx (w.heap.size+1+1) 2 2] 28));have ax:b.heap.size=w.heap.size+4:=by rw[f];simp
 have G:Zb w b:=by rw[f];exact(bJ _ _ _ _).alloc (by simp;omega) _
 have H:dK b oS (some (D (w.heap.size+1+1) 0)):=by
  have e1:(((w.alloc (.cells #[Y 0] 3)).alloc (.cells #[Y 1,Y 0] 3))).heap.size=w.heap.size+1+1:=by simp
  rw[f,<-e1];refine gP (jG _ _) (IN 22 ?_ ?_)
  .exact qD _ (jE ⟨_,0,rfl,λi l=>by
    have:i=0:=by simp at l;omega
    subst this;exact jJ 0 rfl⟩)
  exact jE ⟨_,0,rfl,λi l=>by
   have h2:i<2:=(by simpa using l);rcases i with _|_|i
   .exact jJ 0 (by simp)
   .exact jJ 1 (by simp)
   omega⟩
 have c0:b.cell? (D (w.heap.size+1+1+1) 0)=some (Y 2):=by rw[f];exact jJ 0 (by simp)
 have c1:b.cell? (D (w.heap.size+1+1+1) 1)=some (Zx (w.heap.size+1+1) 2 2):=by rw[f];exact jJ 1 (by simp)
 have m:=X (λ(a:N)(g:Zb b a)=>(⟨jH g c0,jH g c1⟩:Zq a (w.heap.size+1+1+1) 0 (Y 2)/\Zq a (w.heap.size+1+1+1) 1 (Zx (w.heap.size+1+1) 2 2)));have I:=X f;have n:=X H;have o:=X G;clear f H G
 go_in
 go_wp2_with fail
 rw[<-I.out]
 go_region_held3 (λa=>Zq a (w.heap.size+1+1+1) 0 (Y 2)/\Zq a (w.heap.size+1+1+1) 1 (Zx (w.heap.size+1+1) 2 2)) ((first|(refine m _ ?_;(go_grown<;>exact ‹Hid (Zb b _)›);done)|go_keep)) ((first
  |(go_at_call 10
    refine(uH _).mono ?_;rintro e wS ⟨n1,rfl,J,p⟩;have K:Hid (Zb b wS):=by
     refine zT ?_ (p.mono ?_)
     ·(go_grown<;>exact ‹Hid (Zb b _)›)
     first|omega|(simp;omega)|(simp;done)
    have af:=K.size;have q:=X p;have r:=X J;clear J
    clear p)
  |(go_at_call 9
    refine(Gm 1 _).mono ?_;rintro e wV ⟨rfl,s⟩;have L:Hid (Zb b wV):=by
     refine zT ?_ (s.mono ?_)
     ·(go_grown<;>exact ‹Hid (Zb b _)›)
     first|omega|(simp;omega)|(simp;done)
    have ag:=L.size;have t:=X s
    clear s)
  |(go_at_call 8
    refine(Co 1 _ 1 1 _).mono ?_;rintro e wF ⟨rfl,u⟩;have M:Hid (Zb b wF):=by
     refine zT ?_ (u.mono ?_)
     ·(go_grown<;>exact ‹Hid (Zb b _)›)
     first|omega|(simp;omega)|(simp;done)
    have ah:=M.size;have k:=X u
    clear u)
  |(go_at_call 12
    refine(IU ?_ (gP ?_ n) ?_ ?_).mono ?_;rotate_left 4;rintro e c ⟨rfl,O⟩;have h:Hid (Zb b c):=by
     refine zT ?_ (O.mono ?_)
     ·(go_grown<;>exact ‹Hid (Zb b _)›)
     first|omega|(simp;omega)|(simp;done)
    have ai:=h.size;clear O;rotate_left 1
    ·(repeat' (first|with_reducible exact r.out|exact AH _ (by first|rfl|omega|(simp;done)|(simp;omega))|(with_reducible refine If ?_)|(with_reducible refine qD _ ?_)|(with_reducible refine kD k.out ?_)|(with_reducible refine kD t.out ?_)|(with_reducible refine kD q.out ?_)))
    ·(go_grown<;>exact ‹Hid (Zb b _)›)
    ·(repeat' (first|exact Ie _ (by first|rfl|simp) trivial rfl|(with_reducible refine jS _ ?_)|(with_reducible refine jI k.out ?_)))
    (repeat' (first|with_reducible exact r.out|exact AH _ (by first|rfl|omega|(simp;done)|(simp;omega))|(with_reducible refine If ?_)|(with_reducible refine qD _ ?_)|(with_reducible refine kD k.out ?_)|(with_reducible refine kD t.out ?_)|(with_reducible refine kD q.out ?_))))))
 all_goals
  have v:=X (gP h n);have x:=X (λ(a:N)(g:Zb c a)=>m a (h.trans (g.mono ai)));have y:=X (o.trans (h.mono o.size));clear m n o q t k K L M h r I af ag ah
  go_wp2_with fail
  go_region_held3 (λa=>Zq a (w.heap.size+1+1+1) 0 (Y 2)/\Zq a (w.heap.size+1+1+1) 1 (Zx (w.heap.size+1+1) 2 2)) ((first|(refine x _ ?_;(go_grown<;>exact ‹Hid (Zb c _)›);done)|go_keep)) ((first
   |(go_at_call 10
     refine(uH _).mono ?_;rintro e wT ⟨n2,rfl,P,z⟩;have Q:Hid (Zb c wT):=by
      refine zT ?_ (z.mono ?_)
      ·(go_grown<;>exact ‹Hid (Zb c _)›)
      first|omega|(simp;omega)|(simp;done)
     have aj:=Q.size;have ak:=X z;have R:=X P;clear P
     clear z)
   |(go_at_call 9
     with_reducible refine(Gm 1 S).mono ?_
     rintro e wI ⟨rfl,A⟩;have U:Hid (Zb c wI):=by
      refine zT ?_ (A.mono ?_)
      ·(go_grown<;>exact ‹Hid (Zb c _)›)
      first|omega|(simp;omega)|(simp;done)
     have al:=U.size;have B:=X A
     clear A)
   |(go_at_call 9
     refine(Gm 1 _).mono ?_;rintro e wU ⟨rfl,C⟩;have V:Hid (Zb c wU):=by
      refine zT ?_ (C.mono ?_)
      ·(go_grown<;>exact ‹Hid (Zb c _)›)
      first|omega|(simp;omega)|(simp;done)
     have am:=V.size;have W:=X C
     clear C)
   |(go_at_call 8
     refine(Co 1 _ 1 1 _).mono ?_;rintro e S ⟨rfl,E⟩;have Z:Hid (Zb c S):=by
      refine zT ?_ (E.mono ?_)
      ·(go_grown<;>exact ‹Hid (Zb c _)›)
      first|omega|(simp;omega)|(simp;done)
     have an:=Z.size;have F:=X E
     clear E)
   |(go_at_call 7
     refine(EY ?_ (gP ?_ v) (GA 47 (jI B (jI F (Ie _ rfl trivial rfl))))).mono ?_;rotate_left 2;rintro e d ⟨rfl,aa⟩;have j:Hid (Zb c d):=by
      refine zT ?_ (aa.mono ?_)
      ·(go_grown<;>exact ‹Hid (Zb c _)›)
      first|omega|(simp;omega)|(simp;done)
     have ao:=j.size;clear aa;rotate_left 1
     ·(repeat' (first|with_reducible exact R.out|(with_reducible refine If ?_)|(with_reducible refine qD _ ?_)|(with_reducible refine kD B.out ?_)|(with_reducible refine kD F.out ?_)|(with_reducible refine kD W.out ?_)))
     (go_grown<;>exact ‹Hid (Zb c _)›))))
  have ap:=X (gP j v);have aq:=X (λ(a:N)(g:Zb d a)=>x a (j.trans (g.mono ao)));have ab:=X (y.trans (j.mono y.size));clear x v y ak W F B Q V Z U j R aj am an al
  go_wp2_with fail
  go_region_held3 (λa=>Zq a (w.heap.size+1+1+1) 0 (Y 2)/\Zq a (w.heap.size+1+1+1) 1 (Zx (w.heap.size+1+1) 2 2)) ((first|(refine aq _ ?_;(go_grown<;>exact ‹Hid (Zb d _)›);done)|go_keep)) ((first
   |(go_at_call 10
     refine(uH _).mono ?_;rintro e wX ⟨n3,rfl,ac,ad⟩;have ar:Hid (Zb d wX):=by
      refine zT ?_ (ad.mono ?_)
      ·(go_grown<;>exact ‹Hid (Zb d _)›)
      first|omega|(simp;omega)|(simp;done)
     have ay:=ar.size;have au:=X ac
     clear ad ac)
   |(go_at_call 13
     refine(GB ?_ (gP ?_ ap)).mono ?_;rotate_left 2;rintro e wY ⟨rfl,ae⟩;have av:Hid (Zb d wY):=by
      refine zT ?_ (ae.mono ?_)
      ·(go_grown<;>exact ‹Hid (Zb d _)›)
      first|omega|(simp;omega)|(simp;done)
     clear ae;rotate_left 1
     ·(repeat' (first|with_reducible exact au.out|(with_reducible refine If ?_)|(with_reducible refine qD _ ?_)))
     (go_grown<;>exact ‹Hid (Zb d _)›))))
  have aw:=X (ab.trans (av.mono ab.size));go_wp2;go_ret;exact⟨rfl,aw⟩
def Pg{b:List Zn}(a:(fT r z b c).2=0):gM r z b/\((fT r z b c).1=true↔Sem z b c):=by
 rw[fT] at a ⊢;by_cases d:tA r z b=0
 .have f:=gM.of d
  rw[jB d] at a ⊢;by_cases e:kJ r [c]=0
  .rw[jB e] at a ⊢
   by_cases g:(yQ c).length<=8
   .rw[jB g]
    exact⟨f,jCq (by have:=f.lo;omega)⟩
   rw[jC g] at a;cases a
  rw[jC e] at a;exact jN a e
 rw[jC d] at a;exact jN a d
def Xe{i:jX}:(qX r [] i).2≠0:=λh=>by
 rw[qX] at h;split at h
 .have a:sY r [] i≠0:=λa=>by
   rw[sY] at a;split at a
   .cases a
   split at a
   .rename_i b
    rw[mT] at b;simp only[yY] at b;have c:=of_decide_eq_true b.1.1;simp only[mZ] at c;omega
   cases a
  rw[jC a] at h;exact a h
 rename_i a;exact a h
def jDa{d:List Zn}{b:Zm}{p:List jX}(f:∀c,c∈b->fT r z d c=(true,0))(a:(dF B r b p).2=0):
 (∀c,c∈(dF B r b p).1->(fT r z d c).2=0->(fT r z d c).1=true)/\(aX B r b p).1=false:=by
 cases b with
 |nil=>
  rw[aX,jB a]
  cases p with
  |nil=>
   have g:dF B r [] ([]:List jX)=([],0):=by
    rw[dF] at a ⊢;split at a
    .rename_i e
     rw[jB e]
     cases B
     .rfl
     cases a
    rename_i e;exact jN a e
   rw[g];exact⟨λc e=>(by cases e),rfl⟩
  |cons i p=>
   exfalso;rw[dF] at a;split at a
   .cases B
    .have e:=a
     rw[lQ,jC Xe] at e;exact Xe e
    cases a
   rename_i e;exact e a
 |cons g b=>
  have j:=f g vX;have h:=(Pg (by rw[j])).1;have i:∀c,c∈g::b->Sem z d c:=λc e=>(Pg (by rw[f c e])).2.1 (by rw[f c e]);exact⟨λc e k=>(Pg k).2.2 (BG h i a c e),ZC h i⟩
def PN{a:List Zn}:(fT r z a []).1=false:=by
 rw[fT];split
 .split
  .split
   .have e:yQ []=[]:=by
     have b:([]:Zn).mergeSort (λx y=>decide (x<=y))=[]:=(by simp);rw[yQ,yA,b];rfl
    rw[e];rfl
   rfl
  rfl
 rfl
def BP{d:List Zn}{l:Zm}{b:yL}(e:∀c,c∈l->fT r z d c=(true,0)):eE r l b=false:=by
 cases f:eE r l b with
 |false=>rfl
 |true=>
  exfalso;rw[eE,yY] at f;have a:=f.2;split at a
  .rw[tR,mW] at a
   obtain⟨c,i,j⟩:=a;have:c=[]:=yM.1 (by simpa using j);subst this;have:=e [] i;have g:=PN (r:=r) (z:=z) (a:=d);rw[this] at g
   cases g
  by_cases h:(dF (mV l.length b.O.length) r l b.O).2=0
  .rw[(jDa e h).2] at a;cases a
  rw[aX,jC h] at a;cases a
def Xf{a:Zc->Zc->Bool}{l:Zm}{b:yL}(h:(dD a r l b).1=true):dD a r l b=(true,0):=by
 have c:(dD a r l b).2=0:=by
  rw[dD] at h ⊢;split
  .rfl
  rename_i e;rw[jC e] at h;split
  .rename_i c
   rw[jB c] at h;split
   .rename_i d
    rw[jB d] at h;cases h
   rename_i d;rw[jC d] at h;split
   .rename_i f
    rw[jB f] at h;cases h
   rfl
  rfl
 exact Prod.ext h c
def WO:([1,1]:Zn).mergeSort (λx y=>decide (x<=y))=[1,1]:=by simp[List.mergeSort,List.MergeSort.Internal.splitInTwo]
theorem cW:yA vN=[1,1]:=by kernel_rfl
def NQ:yQ vN=[1]:=by rw[yQ,cW,WO];kernel_rfl
def SL:fT vH 1 [[0],[0]] vN=(true,0):=by rw[fT,NQ];kernel_rfl
abbrev oJ:Zc:=[(true,⟨1,0,[]⟩,⟨2,0,[]⟩)]
def NH(h:t.v≠0):zC t s=true:=by
 exact(Ve t s).2 ((rB t s).2 (jD h))
def jD1{a:Zc->Zc->Bool}(c:lV vH a):a oJ vN=true:=by
 have d:oL oJ vN=true:=by
  simp[oL,rV,Dp,NH]
 have e:kJ vH [oJ,vN]=0:=by kernel_rfl
 have f:∃b:Int->T,Ax b oJ vN:=by
  refine⟨λv=>if v=1 then rY else vx,λl b=>?_⟩;rw[vY] at b;subst b;exact⟨(true,rY,vx),by simp,rfl,jD ⟨by kernel_rfl,by kernel_rfl⟩⟩
 exact(c _ _).2 ⟨d,e,f⟩
theorem XM:bV [oJ]=[]:=by kernel_rfl
theorem XN:bV [oJ,oJ]=[]:=by kernel_rfl
def IX{a:Zc->Zc->Bool}(b:lV vH a):gR a vH [vN] vU=true:=by
 have c:tF a vH vU.set vN=true:=by
  rw[tF,show vU.set=[oJ] from rfl];simp[jD1 b]
 have hd:rW vU.set=[oJ]:=by kernel_rfl
 have d:Aj a vH vU.set vU.set=true:=by
  rw[Aj,hd];simp[Am,aV,XM,XN]
 have e:tR vU.set=false:=by kernel_rfl
 have f:kJ vH vU.set=0:=by kernel_rfl
 have g:eG a vH [vN] vU=true:=by
  rw[eG,e,d,show([vN].any λh=> !tF a vH vU.set h)=false by simp[c]];rfl
 have h:dD a vH [vN] vU=(true,0):=by
  rw[dD,jC (by decide),jB (by decide),jC (by decide),jC (by rw[f];simp),g]
 rw[gR,h];rfl
def jCn{d:Zc->Zc->Bool}(i:lV vH d){e:yL}(j:Cc d vH [vN] 24 e z):z=0/\e.J=2/\dD d vH [vN] e=(true,0):=by
 obtain⟨g,n,k,l⟩:=j.2.2 Up (by decide) (by decide);rcases l with⟨c,rfl⟩|⟨_,b,rfl⟩|⟨_,b,_⟩
 .rw[gR,yY] at c
  have a:=Xa k;have f:=Xf c.1;refine⟨g,?_,f⟩;rcases a with a|a|a
  .exfalso
   rw[dD,jB a] at f;have h:=xE Prod.fst f;rw[BP (λm m=>by rw[vY.1 m];exact SL)] at h
   cases h
  .exact a
  rw[a] at c;exact jN c.2 (by decide)
 .rw[gR,yY] at b
  exact⟨g,rfl,Xf b.1⟩
 rw[IX i] at b;cases b
def zX.head{a:Zm}(h:zX p w (c::a) k n):zX p w [c] k n:=by
 refine⟨h.1,λj d hd=>?_⟩
 match j,hd with
 |0,hd=>exact h.2 0 d (by simpa using hd)
def Ua{v p q:Zv}(h:w.heap[k]? =some (.cells #[v,p,q] g (0,0)))(x y z:Zv):(w.setCells k 0 [x,y,z]).heap[k]? =some (.cells #[x,y,z] g (0,0)):=pG h rfl
def Tz{v p q:Zv}(h:w.heap[k]? =some (.cells #[v,p,q] g (0,0)))(a:Zb w u):u.cell? (D k 0)=some v/\u.cell? (D k 1)=some p/\u.cell? (D k 2)=some q:=
 (sU ((a.block k (gJ.1 h).1).trans h)).1
def Ot{b:Zm}(c:zX (λa=>a<w.heap.size) w b k n)(d:Zb w u):zX (λa=>a<w.heap.size) u b k n:=c.same (λa e=>d.block a e)
def Oa{j:Zc->Zc->Bool}(m:lV vH j)(s:zX (λa=>a<w.heap.size) w [vN,fO] k 0)(o:Zb w u)(t:jV u [0,1] (some (D n 0))):
 Calls Zf 6 #[.agg #[Zx n 2 2],Zx k 1 2,Y 24] u λp x=>(∃b c f d g,p=.returned (.tuple #[sT b c f d g,Y 0])/\(b.J=2/\dD j vH [vN] b=(true,0))/\bX (λa=>((a<w.heap.size\/a=n)\/u.heap.size<=a)/\a<x.heap.size) x b c d)/\Zb u x:=by
 have H:=o.size;obtain⟨v,e,y,q⟩:∃b e,some ((D n 0):Addr)=some (D b e)/\∀i,i<([0,1]:Zn).length->Zq u b (e+i) (Y (([0,1]:Zn).getD i 0)):=by
  rcases t with h|h
  .cases h
  exact h
 obtain⟨rfl,rfl⟩:n=v/\0=e:=by simpa using y
 refine(Qk (l:=[vN]) (p:=λa=>a<w.heap.size\/a=n) m 2 2 24 (λa h=>h.elim (λi=>by omega) (λi=>by rw[i];exact kA (q 0 (by decide)))) (jE ⟨n,0,rfl,jE rfl,q⟩) (jE ⟨k,0,rfl,?_⟩) (by decide) (λi r=>by rw[vY.1 r];decide)).mono ?_
 .have r:=(Ot s o).head
  refine⟨jD r.1,λz A hd=>?_⟩;obtain⟨B,i,C,E,F⟩:=r.2 z A hd;exact⟨B,i,C,E,nR (λa h=>jD h) F⟩
 rintro p x ⟨⟨b,c,f,d,g,I,rfl,h,i⟩,z⟩;obtain⟨rfl,A,G⟩:=jCn m h;exact⟨⟨b,c,f,d,g,rfl,⟨A,G⟩,i⟩,z⟩
def KW{e:Zc->Zc->Bool}(j:lV vH e){b:yL}(l:zX (λc=>c<w.heap.size) w [vN,fO] k 0)(d:Zb w u)(o:jV u [0,1] (some (D n 0)))(f:b.J=1)(p:dD e vH [vN,fO] b=(true,0))(q:bX (λc=>c<w.heap.size) w b a a1):
 Calls Zf 11 #[.agg #[Zx n 2 2],Zx k 2 2,.agg #[Y 1,.slice a b.O.length m,.slice a1 b.set.length i]] u λr x=>r=.returned (.tuple #[.bool true,Y 0])/\Zb u x:=by
 have h:=Kr vH j (some (D n 0)) 2 [vN,fO] (some (D k 0)) 2 b a m a1 i u o (Ot l d).clauses Uq (jD f) (q.mono (λc g _=>⟨kV g d.size,d.block c g⟩) d.size);dsimp only[sT] at h;rw[p,f] at h;exact h
def KV{e:Zc->Zc->Bool}(j:lV vH e){b:yL}(l:zX (λc=>c<w.heap.size) w [vN,fO] k 0)(o:Zb w v)(d:Zb u v)(p:jV v [0,1] (some (D n 0)))(f:b.J=2)(q:dD e vH [vN] b=(true,0))(r:bX (λc=>c<u.heap.size) u b a a1):
 Calls Zf 11 #[.agg #[Zx n 2 2],Zx k 1 2,.agg #[Y 2,.slice a b.O.length m,.slice a1 b.set.length i]] v λs x=>s=.returned (.tuple #[.bool true,Y 0])/\Zb v x:=by
 have h:=Kr vH j (some (D n 0)) 2 [vN] (some (D k 0)) 2 b a m a1 i v p (Ot l o).head.clauses Up (jE (jD f)) (r.mono (λc g _=>⟨kV g d.size,d.block c g⟩) d.size);dsimp only[sT] at h;rw[q,f] at h;exact h
def WY{v q:Zv}(b:jV w [0,1] (some (D k 0)))(h:w.heap[n]? =some (.cells #[v,Zd,q] g (0,0))):n≠k:=by
 rintro rfl;rcases b with c|⟨d,e,f,i⟩
 .cases c
 obtain⟨rfl,rfl⟩:n=d/\0=e:=by simpa using f
 have a:=i 1 (by decide);rw[lJ h] at a;simp at a
def jBk(w:N):Calls Zf 4 #[] w λg c=>g=.returned (.bool true)/\Zb w c:=by
 obtain⟨sb,a⟩:=DB vH;have z:=X a;clear a;go_enter Tryz.func4,Tryz.ntmps4
 go_wp2_with fail
 refine(Gm _ _).mono ?_;rintro g F ⟨rfl,n⟩;have a:=X n;clear n
 go_wp2_with fail
 refine(Co _ _ _ _ _).mono ?_;rintro g w2 ⟨rfl,h⟩;have e:Hid (InL w2 [vx] (some (D F.heap.size 0))):=X (jI h (Ie (t:=vx) _ rfl trivial rfl));have b:=X (a.out.trans (((jG F _).trans (h.mono (jG F _).size)).mono a.out.size));clear h a
 go_wp2_with fail
 refine(Gm _ _).mono ?_;rintro g A ⟨rfl,a⟩;have f:Hid (InL A [vx] (some (D F.heap.size 0))):=X (jI a e.out);have d:=X (b.out.trans (a.mono b.out.size));clear a b e
 go_wp2_with fail
 refine(Co _ _ _ _ _).mono ?_;rintro g o ⟨rfl,a⟩;have e:Hid (kR o vN (some (D A.heap.size 0))):=X (kL a ⟨A.heap.size,0,some (D F.heap.size 0),1,none,0,rfl,jJ 0 rfl,jJ 1 rfl,jJ 2 rfl,jJ 3 rfl,jJ 4 rfl,jJ 5 rfl,jJ 6 rfl,jI (jG _ _) f.out,dU,trivial⟩);have b:=X (d.out.trans (((jG A _).trans (a.mono (jG A _).size)).mono d.out.size));clear a d f
 go_wp2_with fail
 refine(Co _ _ _ _ _).mono ?_;rintro g w5 ⟨rfl,v⟩;have d:Hid (InL w5 [Fj] (some (D o.heap.size 0))):=X (jI v (Ie (t:=Fj) _ rfl trivial rfl));have f:=X (kL ((jG o _).trans (v.mono (jG o _).size)) e.out);have a:=X (b.out.trans (((jG o _).trans (v.mono (jG o _).size)).mono b.out.size));clear v b e
 go_wp2_with fail
 refine(Co _ _ _ _ _).mono ?_;rintro g p ⟨rfl,x⟩;have e:Hid (InL p [Fj] (some (D o.heap.size 0))):=X (jI x d.out);have i:=X (kL x f.out);have b:=X (a.out.trans (x.mono a.out.size));clear x a d f;obtain⟨O,a⟩:=Ze ((p.alloc (.cells #[.bool false,Y 0,Y 1,Zx o.heap.size 1 1,Y 0,Y 0,Zd] 47)).alloc (.cells #[Zx A.heap.size 1 1,Zx p.heap.size 1 1] 39));have C:Zb p O:=by rw[a];exact kF _ _ _
 have j:zX (λk=>k<O.heap.size) O [vN,fO] (p.heap.size+1) 0:=by
  refine⟨by rw[a];simp,λf d hd=>?_⟩
  match f,hd with
  |0,hd=>
   obtain rfl:vN=d:=by simpa using hd
   exact⟨_,1,by rw[a];exact jJ 0 (by simp),by decide,Bn (kL C i.out)⟩
  |1,hd=>
   obtain rfl:fO=d:=by simpa using hd
   refine⟨_,1,by rw[a];exact jJ 1 (by simp),by decide,Bn ?_⟩;rw[a];exact kL (jG _ _) ⟨p.heap.size,0,some (D o.heap.size 0),1,none,0,rfl,jJ 0 rfl,jJ 1 rfl,jJ 2 rfl,jJ 3 rfl,jJ 4 rfl,jJ 5 rfl,jJ 6 rfl,jI (jG _ _) e.out,dU,trivial⟩
 have d:=X j;have f:=X (b.out.trans (C.mono b.out.size));have l:=X a;clear a C j e i b
 go_upto_region 2 with fail
 rw[<-l.out];clear l
 go_wp2_with fail
 refine(uH _).mono ?_;rintro g P ⟨n8,rfl,b,q⟩;have a:zX (λk=>k<P.heap.size) P [vN,fO] (p.heap.size+1) 0:=by
  have i:=d.out.2;refine⟨kV d.out.1 q.size,λj e hd=>?_⟩;obtain⟨l,m,r,s,u⟩:=i j e hd;exact⟨l,m,jH q r,s,xP (λk e _=>⟨kV e q.size,q.block k e⟩) u⟩
 have m:=X (Qk z.out 2 2 24 (λk e=>e) (Kq b) (jE ⟨_,_,rfl,a⟩) (by decide) (λr I=>by
  simp only[qO,sL,or_false] at I
  rcases I with rfl|rfl<;>decide))
 have i:=X a;have l:=X (f.out.trans (q.mono f.out.size));clear q b a d f
 go_wp2_with fail
 refine m.out.mono ?_;rintro g J ⟨⟨j,L,Q,M,R,aj,rfl,s,u⟩,f⟩;obtain⟨rfl,y,E⟩:=jCp s;obtain⟨V,d⟩:=Ze (J.alloc (.cells #[Y j.J,Zk L j.O Q,Zk M j.set R] 32));have b:Zb J V:=by rw[d];exact jG _ _
 have a:Zb P V:=f.trans (b.mono f.size);have H:V.heap[J.heap.size]? =some (.cells #[Y j.J,Zk L j.O Q,Zk M j.set R] 32 (0,0)):=by rw[d];exact World.alloc_heap_new _ _
 have aa:=X H;have ah:Hid (bX (λk=>k<V.heap.size) V j L M):=X (u.mono (λk e _=>⟨kV e.2 b.size,b.block k e.2⟩) b.size)
 have G:Hid (zX (λk=>k<V.heap.size) V [vN,fO] (p.heap.size+1) 0):=X (by
  have K:=i.out.2;refine⟨kV i.out.1 a.size,λU W hd=>?_⟩;obtain⟨j,r,Z,h3,h4⟩:=K U W hd
  exact⟨j,r,jH a Z,h3,xP (λk e _=>⟨kV e a.size,a.block k e⟩) h4⟩)
 have ab:=X (l.out.trans (a.mono l.out.size));have Hv:=X y;have ai:=X E;have r:=X d;clear s u f y E d b a H m i l
 go_upto_region 3 with fail
 rw[<-r.out];clear r;generalize p.heap.size+1=lb at*;generalize J.heap.size=ac at*;refine wp_region_held_drew (S:=λc=>Zb V c) (by kernel_rfl) (xH (jW _ _)) (λa=>?_);refine pl [1,2] rfl ‹_› ?_
 repeat ((first|(refine tk ?_ rfl (by kernel_rfl) ?_ ?_;rotate_left;focus (intro w f;(try dsimp only at f);go_simp;try with_reducible rfl))|refine tn rfl (by kernel_rfl) ?_);try simp only[nD])
 refine pn ?_;refine wpAnyH_ready (rs:=[0,7]) (by kernel_rfl) (by simp) ?_;refine AllReadyH.cons rfl (λK b=>?_) (AllReadyH.cons rfl (λK2 ad=>?_) AllReadyH.nil)
 focus
  go_simp;refine(uH _).mono ?_;rintro g i ⟨n1,rfl,d,n⟩;have H:=X d;have y:Hid (Zb V i):=X (a.trans (n.mono a.size));clear d n
  go_wp2_with fail
  refine b.out _ _ ?_ (λa=>?_)
  .exact y.out
  clear b K
  try simp only[nD]
  refine wpAnyH_ready (rs:=[3,7]) (by kernel_rfl) (by simp) ?_;refine AllReadyH.cons rfl (λK b=>?_) (AllReadyH.cons rfl (λK3 W=>?_) AllReadyH.nil)
  focus
   go_simp;refine(Oa z.out G.out a H.out).mono ?_;rintro g l ⟨⟨d,m,s,r,u,rfl,U,Z⟩,h⟩;have h_:=X U;have ae:=X Z;have E:Hid (Zb V l):=X (a.trans (h.mono a.size));clear U Z h
   go_wp2_with fail
   refine b.out _ _ ?_ (λa=>?_)
   .exact E.out
   clear b K
   try simp only[nD]
   refine pl [4,5,6] rfl ‹_› ?_
   repeat ((first|(refine tk ?_ rfl (by kernel_rfl) ?_ ?_;rotate_left;focus (intro w f;(try dsimp only at f);go_simp;try with_reducible rfl))|refine tn rfl (by kernel_rfl) ?_);try simp only[nD])
   refine rp 7 (by kernel_rfl) rfl (λK b=>?_);go_simp;refine b.out _ _ ?_ (λa=>?_)
   .exact E.out.alloc E.out.size _
   clear b K
   try simp only[nD]
   refine rd 8 (by kernel_rfl) rfl (λK b=>?_);go_simp;refine b.out _ _ ?_ (λa=>?_)
   .exact E.out.alloc E.out.size _
   clear b K
   try simp only[nD]
   refine pl [9] rfl ‹_› ?_
   repeat ((first|(refine tk ?_ rfl (by kernel_rfl) ?_ ?_;rotate_left;focus (intro w f;(try dsimp only at f);go_simp;try with_reducible rfl))|refine tn rfl (by kernel_rfl) ?_);try simp only[nD])
   refine dn (by kernel_rfl) ?_;have i_:Hid (Zb V (l.alloc (.cells #[Y d.J,Zk m d.O s,Zk r d.set u] 32))):=X a;have j_:Hid ((l.alloc (.cells #[Y d.J,Zk m d.O s,Zk r d.set u] 32)).heap[l.heap.size]? =some (.cells #[Y d.J,Zk m d.O s,Zk r d.set u] 32 (0,0))):=X (World.alloc_heap_new _ _);have k_:Hid (bX (λk=>k<(l.alloc (.cells #[Y d.J,Zk m d.O s,Zk r d.set u] 32)).heap.size) (l.alloc (.cells #[Y d.J,Zk m d.O s,Zk r d.set u] 32)) d m r):=X (ae.out.mono (λk e U=>⟨kV U (jG _ _).size,(jG _ _).block k U⟩) (jG _ _).size);change Exit.then _ _ Exit.normal _ (l.alloc (.cells #[Y d.J,Zk m d.O s,Zk r d.set u] 32));generalize (l.alloc (.cells #[Y d.J,Zk m d.O s,Zk r d.set u] 32))=Y_ at*;generalize l.heap.size=U at*;clear a ae E y H
  rotate_left
  focus
   go_simp;have U:Hid ((i.alloc (.cells #[Y 0,Zd,Zd] 32)).heap[i.heap.size]? =some (.cells #[Y 0,Zd,Zd] 32 (0,0))):=X (World.alloc_heap_new _ _);refine W.out _ _ ?_ (λa=>?_)
   .exact y.out.alloc y.out.size _
   clear W K3
   try simp only[nD]
   refine rd 3 (by kernel_rfl) rfl (λK b=>?_);go_simp;refine(Oa z.out G.out a (kD (jG i _) H.out)).mono ?_;rintro g r ⟨⟨d,l,s,m,u,rfl,ae,af⟩,h⟩;have h_:=X ae;have ag:=X af;have W:=X ((h.block _ (gJ.1 U.out).1).trans U.out);have Z:Hid (Zb V r):=X (a.trans (h.mono a.size));obtain⟨⟨y0,y1,y2⟩,E⟩:=sU W.out;have f0:=E 0;have f1:=E 1;have f2:=E 2;clear ae af h E
   go_wp2_with fail
   refine b.out _ _ ?_ (λa=>?_)
   .exact Z.out
   clear b K
   try simp only[nD]
   refine pl [4,5,6] rfl ‹_› ?_
   repeat ((first|(refine tk ?_ rfl (by kernel_rfl) ?_ ?_;rotate_left;focus (intro w f;(try dsimp only at f);go_simp;try with_reducible rfl))|refine tn rfl (by kernel_rfl) ?_);try simp only[nD])
   refine rp 8 (by kernel_rfl) rfl (λK b=>?_);go_simp;refine b.out _ _ ?_ (λa=>?_)
   .exact bK y.out.size [Y d.J,Zk l d.O s,Zk m d.set u] 0 _ Z.out
   clear b K
   try simp only[nD]
   refine pl [9] rfl ‹_› ?_
   repeat ((first|(refine tk ?_ rfl (by kernel_rfl) ?_ ?_;rotate_left;focus (intro w f;(try dsimp only at f);go_simp;try with_reducible rfl))|refine tn rfl (by kernel_rfl) ?_);try simp only[nD])
   refine dn (by kernel_rfl) ?_;have i_:Hid (Zb V (r.setCells i.heap.size 0 [Y d.J,Zk l d.O s,Zk m d.set u])):=X a;have j_:Hid ((r.setCells i.heap.size 0 [Y d.J,Zk l d.O s,Zk m d.set u]).heap[i.heap.size]? =some (.cells #[Y d.J,Zk l d.O s,Zk m d.set u] 32 (0,0))):=X (Ua W.out _ _ _);have E:=bK (k:=0) (jY i.heap.size) [Y d.J,Zk l d.O s,Zk m d.set u] 0 r (jW 0 r);have ae:i.heap.size≠n1:=λg=>by
    rcases H.out with h'|⟨b9,af,he,I⟩
    .cases h'
    obtain⟨rfl,rfl⟩:n1=b9/\0=af:=by simpa using he
    have:=kA (I 0 (by decide));omega
   have k_:Hid (bX (λk=>k<(r.setCells i.heap.size 0 [Y d.J,Zk l d.O s,Zk m d.set u]).heap.size) (r.setCells i.heap.size 0 [Y d.J,Zk l d.O s,Zk m d.set u]) d l m):=X (ag.out.mono (λk e I=>⟨kV I E.size,tH (by
    have I:=y.out.size;rcases e.1 with (e|e)|e
    .omega
    .rw[e];exact Ne.symm ae
    simp at e;omega) _ _ _⟩) E.size)
   change Exit.then _ _ Exit.normal _ (r.setCells i.heap.size 0 [Y d.J,Zk l d.O s,Zk m d.set u]);generalize (r.setCells i.heap.size 0 [Y d.J,Zk l d.O s,Zk m d.set u])=Y_ at*;clear a ag Z H E ae y0 y1 y2 f0 f1 f2 U W y;generalize i.heap.size=y at*
 rotate_left 2
 focus
  go_simp;have y:Hid ((V.alloc (.cells #[Y 0,Zd,Zd] 32)).drew.heap[V.heap.size]? =some (.cells #[Y 0,Zd,Zd] 32 (0,0))):=X (World.alloc_heap_new _ _);refine ad.out _ _ ?_ (λa=>?_)
  .exact(jW _ _).alloc (jF _) _|>.drew
  clear ad K2
  try simp only[nD]
  refine rd 0 (by kernel_rfl) rfl (λK b=>?_);go_simp;refine(uH _).mono ?_;rintro g x1 ⟨n1,rfl,d,n⟩;have E:=X d;have U:Hid (Zb V x1):=X (a.trans (n.mono a.size));have s:=X ((n.block _ (gJ.1 y.out).1).trans y.out);clear d n
  go_wp2_with fail
  refine b.out _ _ ?_ (λa=>?_)
  .exact U.out
  clear b K
  try simp only[nD]
  refine rd 3 (by kernel_rfl) rfl (λK b=>?_);go_simp;refine(Oa z.out G.out a E.out).mono ?_;rintro g m ⟨⟨d,i,n,l,r,rfl,W,Z⟩,h⟩;have h_:=X W;have ad:=X Z;have H:=X ((h.block _ (gJ.1 s.out).1).trans s.out);have I:Hid (Zb V m):=X (a.trans (h.mono a.size));obtain⟨⟨y0,y1,y2⟩,u⟩:=sU H.out;have f0:=u 0;have f1:=u 1;have f2:=u 2;clear W Z h u
  go_wp2_with fail
  refine b.out _ _ ?_ (λa=>?_)
  .exact I.out
  clear b K
  try simp only[nD]
  refine pl [4,5,6] rfl ‹_› ?_
  repeat ((first|(refine tk ?_ rfl (by kernel_rfl) ?_ ?_;rotate_left;focus (intro w f;(try dsimp only at f);go_simp;try with_reducible rfl))|refine tn rfl (by kernel_rfl) ?_);try simp only[nD])
  refine rp 8 (by kernel_rfl) rfl (λK b=>?_);go_simp;refine b.out _ _ ?_ (λa=>?_)
  .exact bK (jF _) [Y d.J,Zk i d.O n,Zk l d.set r] 0 _ I.out
  clear b K
  try simp only[nD]
  refine pl [9] rfl ‹_› ?_
  repeat ((first|(refine tk ?_ rfl (by kernel_rfl) ?_ ?_;rotate_left;focus (intro w f;(try dsimp only at f);go_simp;try with_reducible rfl))|refine tn rfl (by kernel_rfl) ?_);try simp only[nD])
  refine dn (by kernel_rfl) ?_;have i_:Hid (Zb V (m.setCells V.heap.size 0 [Y d.J,Zk i d.O n,Zk l d.set r])):=X a;have j_:Hid ((m.setCells V.heap.size 0 [Y d.J,Zk i d.O n,Zk l d.set r]).heap[V.heap.size]? =some (.cells #[Y d.J,Zk i d.O n,Zk l d.set r] 32 (0,0))):=X (Ua H.out _ _ _);have h:=bK (k:=0) (jY V.heap.size) [Y d.J,Zk i d.O n,Zk l d.set r] 0 m (jW 0 m);have u:=WY E.out s.out;have W:=(gJ.1 s.out).1
  have k_:Hid (bX (λk=>k<(m.setCells V.heap.size 0 [Y d.J,Zk i d.O n,Zk l d.set r]).heap.size) (m.setCells V.heap.size 0 [Y d.J,Zk i d.O n,Zk l d.set r]) d i l):=X (ad.out.mono (λk e k=>⟨kV k h.size,tH (by
   rcases e.1 with (e|e)|e
   .omega
   .rw[e];exact Ne.symm u
   omega) _ _ _⟩) h.size)
  change Exit.then _ _ Exit.normal _ (m.setCells V.heap.size 0 [Y d.J,Zk i d.O n,Zk l d.set r]);generalize (m.setCells V.heap.size 0 [Y d.J,Zk i d.O n,Zk l d.set r])=Y_ at*;clear a ad I E h u W y0 y1 y2 f0 f1 f2 y s H U;obtain⟨h,e⟩:=Ze V.heap.size;rw[<-e] at j_;rw[<-e];clear e
 all_goals
  have l:Y_.heap[ac]? =some (.cells #[Y 1,Zk L j.O Q,Zk M j.set R] 32 (0,0)):=by
   have d:=aa.out;rw[Hv.out] at d;exact(i_.out.block ac (gJ.1 d).1).trans d
  have i:=j_.out;rw[h_.out.1] at i;have e:=λ(c:N)(d:Zb Y_ c)=>(Tz l d);have h:=λ(c:N)(d:Zb Y_ c)=>(Tz i d);have m:=λ(c:N)(d:Zb Y_ c)=>(e c d).1;have r:=λ(c:N)(d:Zb Y_ c)=>(e c d).2.1;have s:=λ(c:N)(d:Zb Y_ c)=>(e c d).2.2;have n:=λ(c:N)(d:Zb Y_ c)=>(h c d).1;have q1:=λ(c:N)(d:Zb Y_ c)=>(h c d).2.1;have q2:=λ(c:N)(d:Zb Y_ c)=>(h c d).2.2;have k:Hid (∀c,Zb Y_ c->Zb V c):=X (λc d=>i_.out.trans (d.mono i_.out.size));clear e h l i j_ aa
  go_upto_region 4 with fail
  refine wp_region_held_drew (S:=λc=>Zb Y_ c) (by kernel_rfl) (xH (jW _ _)) (λa=>?_);refine pl [1,2] rfl ‹_› ?_
  repeat ((first|(refine tk ?_ rfl (by kernel_rfl) ?_ ?_;rotate_left;focus (intro w f;(try dsimp only at f);go_simp;try with_reducible rfl))|refine tn rfl (by kernel_rfl) ?_);try simp only[nD])
  refine rp 0 (by kernel_rfl) rfl (λK b=>?_);go_simp;refine(uH _).mono ?_;rintro g u ⟨y,rfl,d,v⟩;have e:=X d;have i:Hid (Zb Y_ u):=X (a.trans (v.mono a.size));clear d v
  go_wp2_with fail
  refine b.out _ _ ?_ (λa=>?_)
  .exact i.out
  clear b K
  try simp only[nD]
  refine rd 3 (by kernel_rfl) rfl (λK b=>?_);go_simp;refine(KW z.out G.out (k.out _ a) e.out Hv.out ai.out ah.out).mono ?_;rintro g v ⟨rfl,x⟩;have h:Hid (Zb Y_ v):=X (a.trans (x.mono a.size));clear x
  go_wp2_with fail
  refine b.out _ _ ?_ (λa=>?_)
  .exact h.out
  clear b K
  try simp only[nD]
  refine pl [4,5,6,7,8] rfl ‹_› ?_
  repeat ((first|(refine tk ?_ rfl (by kernel_rfl) ?_ ?_;rotate_left;focus (intro w f;(try dsimp only at f);go_simp;try with_reducible rfl))|refine tn rfl (by kernel_rfl) ?_);try simp only[nD])
  refine dn (by kernel_rfl) ?_;clear a i e
  go_upto_region 5 with fail
  refine wp_region_held_drew (S:=λc=>Zb Y_ c) (by kernel_rfl) (xH h.out) (λa=>?_);refine pl [1,2,3] rfl ‹_› ?_
  repeat ((first|(refine tk ?_ rfl (by kernel_rfl) ?_ ?_;rotate_left;focus (intro w f;(try dsimp only at f);go_simp;try with_reducible rfl))|refine tn rfl (by kernel_rfl) ?_);try simp only[nD])
  refine rp 0 (by kernel_rfl) rfl (λK b=>?_);go_simp;refine(uH _).mono ?_;rintro g x ⟨E,rfl,d,C⟩;have i:=X d;have l:Hid (Zb Y_ x):=X (a.trans (C.mono a.size));clear d C
  go_wp2_with fail
  refine b.out _ _ ?_ (λa=>?_)
  .exact l.out
  clear b K
  try simp only[nD]
  refine rd 4 (by kernel_rfl) rfl (λK b=>?_);go_simp;refine(KV z.out G.out (k.out _ a) a i.out h_.out.1 h_.out.2 k_.out).mono ?_;rintro g d ⟨rfl,q⟩;have e:Hid (Zb Y_ d):=X (a.trans (q.mono a.size));clear q
  go_wp2_with fail
  refine b.out _ _ ?_ (λa=>?_)
  .exact e.out
  clear b K
  try simp only[nD]
  refine pl [5,6,7,8,9] rfl ‹_› ?_
  repeat ((first|(refine tk ?_ rfl (by kernel_rfl) ?_ ?_;rotate_left;focus (intro w f;(try dsimp only at f);go_simp;try with_reducible rfl))|refine tn rfl (by kernel_rfl) ?_);try simp only[nD])
  refine dn (by kernel_rfl) ?_;have q:=m d e.out;have C:=n d e.out;have b:=X (ab.out.trans ((k.out d e.out).mono ab.out.size));clear a m r s n q1 q2 i l h
  go_wp2_with fail
  go_ret;exact⟨rfl,b.out⟩
def jCo{g:Zc->Zc->Bool}{l:Zm}{b:yL}(h:Cc g r l z b z1)(d:z1=0)(c:b.J=1):eE r l b=true:=by
 by_cases a:kJ r l=0
 .by_cases i:z<0\/24<z
  .have:=(h.2.1 a i).2
   rw[d] at this;cases this
  obtain⟨_,k,_,j⟩:=h.2.2 a (by omega) (by omega);rcases j with⟨e,rfl⟩|⟨_,_,rfl⟩|⟨_,_,rfl⟩
  .rw[gR,yY] at e
   have f:=e.1;rw[dD,jB c] at f;exact f
  .cases c
  cases c
 exact jN ((h.1 a).2.symm.trans d) a
def jBl(p:Nat){e:Zm}(F:Nat)(G:Int)(n:Int){l:List Zn}(s:Nat)(O:e.length<=9223372036854775807)(m:∀d,d∈e->d.length<=9223372036854775807)(o:jV w r a)(q:bI (λk=>k<w.heap.size) w e a1)(z:dK w l a2):
 Calls Zf 3 #[.agg #[.slice a r.length p],.slice a1 e.length F,Y G,.agg #[Y n,.slice a2 l.length s]] w λt b=>t=.returned (.bool true)/\Zb w b:=by
 obtain⟨h,f⟩:=Ze ((w.alloc (.cells #[Zk a r p] 24)).alloc (.cells #[Y n,Zk a2 l s] 28));have v:Zb w h:=f▸kF _ _ _;have A:h.cell? (D w.heap.size 0)=some (Zk a r p):=by rw[f,kW (by simp)];exact jJ 0 rfl
 have B:h.cell? (D (w.heap.size+1) 0)=some (Y n):=by rw[f];exact jJ 0 (by simp)
 have C:h.cell? (D (w.heap.size+1) 1)=some (Zk a2 l s):=by rw[f];exact jJ 1 (by simp)
 have u:=X (λ(b:N)(c:Zb h b)=>(show Zq b w.heap.size 0 (Zk a r p)/\Zq b (w.heap.size+1) 0 (Y n)/\Zq b (w.heap.size+1) 1 (Zk a2 l s) from⟨jP c A,jP c B,jP c C⟩));have i:=X (λ(b:N)(c:Zb h b)=>v.trans (c.mono v.size));have P:=X f;have g:=q.clauses;obtain⟨sb,E⟩:=DB r;have H:=X (λ(b:N)(c:Zb h b)=>Qk E p F G (λk j=>j) (Kq (kD (i _ c) o)) (q.mono (λk j _=>⟨kV j (i _ c).size,(i _ c).block k j⟩)) O m);have Q:=X (λ(d:Zc)(x:Zo)(y:Nat)(I:d.length<=9223372036854775807)(b:N)(c:Zb h b)(g:kR b d x)=>Rr p n s y (kD (i _ c) o) (gP (i _ c) z) g I);have I:=X g;have S:=X m;clear o g q z A B C f v m E
 go_in
 go_upto_region 1 with fail
 rw[<-P.out]
 go_wp2_with fail
 refine(jBk h).mono ?_;rintro t U ⟨rfl,f⟩;have m:=X f;clear f
 go_wp2_with fail
 refine(WM U).mono ?_;rintro t J ⟨rfl,o⟩;have f:=X (m.trans (o.mono m.size));have C:=X (H J f);obtain⟨L,M,R⟩:=u J f;clear o H m
 go_wp2_with fail
 refine C.mono ?_;rintro t z ⟨⟨o,V,W,Z,sc,H,rfl,q,hA⟩,A⟩;have E:=X (λm v=>jCo q m v);obtain⟨B,v⟩:=Ze (z.alloc (.cells #[Y o.J,Zk V o.O W,Zk Z o.set sc] 32));have a0:Zq B z.heap.size 0 (Y o.J):=v▸jJ 0 rfl;have m:Hid (Zb h B):=X (by rw[v];exact f.trans ((A.trans ((jG z _).mono A.size)).mono f.size));have K:=X v;clear q hA A C L M R f v
 go_upto_region 4 with fail
 rw[<-K.out];clear K;by_cases v:H=0
 .subst v
  cases aa:(o.J !=1) with
  |true=>
   have f:=X (i _ m);go_wp2;go_ret;exact⟨rfl,f⟩
  |false=>
   have ab:=X (E rfl (by simpa using aa));clear E
   go_upto_region 7 with fail
   clear a0
   go_loopw [11] (λf wr=>∃k:Nat,k<=e.length/\f=Y k/\Hid (∀d,d∈e.take k->fT r n l d=(true,0))/\Hid (Zb B wr)) (λf _=>e.length - (intOf f).toNat)
   case atStart=>exact⟨0,jY _,rfl,X (λd g=>by simp at g),X (jW _ _)⟩
   case round=>
    obtain⟨k,j,rfl,A,C⟩:=hrel;by_cases ac:k<e.length
    .obtain⟨d,g⟩:=Zg ac
     obtain⟨ag,ah,rfl⟩:=uL I (by omega);have j:=X (m.trans (C.mono m.size));obtain⟨x,y,K,L⟩:=iX (dG (i _ j) I) g;have M:=X (λ(b:N)(c:Zb wr b)=>kL c L);have ad:=S d (jU g);have ae:Hid (∀f,f∈e.take (k+1)->f∈e.take k\/f=d):=by
      show ∀f,_;intro f hd;rw[vZ,g] at hd;simpa using hd
     have ai:(k:Int)<e.length:=(by omega);have aj:(0:Int)<=k:=(by omega);have b0:=λ(b:N)(c:Zb wr b)=>(u b (j.trans (c.mono j.size))).1;have b1:=λ(b:N)(c:Zb wr b)=>(u b (j.trans (c.mono j.size))).2.1;have b2:=λ(b:N)(c:Zb wr b)=>(u b (j.trans (c.mono j.size))).2.2;have b3:=λ(b:N)(c:Zb wr b)=>jH c K;have af:=jW wr.heap.size wr;have E:=X (λ(b:N)(c:Zb wr b)=>Q d x y ad b (j.trans (c.mono j.size)) (M b c));obtain⟨R,q⟩:=Ze (fT r n l d);rw[<-q] at E;have x:=X q;clear g L K q M
     go_upto_region 9 with fail
     go_cut [12,13] (λc y wc=>c=.bool R.1/\y=Y R.2/\Hid (Zb wr wc))
     case first=>
      go_region_held3 (λb=>Zb wr b) ((first|with_reducible exact c.out|((repeat' (first|with_reducible exact c.out|with_reducible exact jW _ _|(with_reducible refine xH ?_)));done)|go_keep)) ((first
       |(go_at_call 7
         with_reducible refine(E.out _ ?_).mono ?_
         focus ((repeat' (first|with_reducible exact jW _ _|(with_reducible refine xH ?_)));done)
         rintro t q ⟨rfl,g⟩;have c:Hid (Zb wr q):=by first|exact g|exact dN g
         clear g)))
      all_goals (go_wp2_with fail;go_meet)
      all_goals exact⟨rfl,rfl,c⟩
     case rest=>
      obtain⟨rfl,rfl,y⟩:=hcut;clear b0 b1 b2 b3 af E;have g:=X (C.trans (y.mono C.size));by_cases c:R.2=0
      .have E:(R.2 !=0)=false:=by simpa using c
       cases q:R.1 with
       |true=>
        have K:Hid (∀f,f∈e.take (k+1)->fT r n l f=(true,0)):=by
         show ∀f,_;intro f hd;rcases ae f hd with L|rfl
         .exact A f L
         rw[<-x.out,<-q,<-c]
        clear c q
        go_wp2_with fail
        go_roundw
        case rel=>exact⟨k+1,by omega,by go_num,K,g⟩
        case measure=>simp[intOf];omega
       |false=>
        have f:=X (i _ (m.trans (g.mono m.size)));clear c q;go_wp2;go_ret;exact⟨rfl,f⟩
      have E:(R.2 !=0)=true:=(by simpa using c);have f:=X (i _ (m.trans (g.mono m.size)));clear c;go_wp2;go_ret;exact⟨rfl,f⟩
    obtain rfl:k=e.length:=by omega
    rw[qU] at A;have c:=BP (b:=o) A;rw[ab.out] at c
    cases c
 have f:(H !=0)=true:=by simpa using v
 have c:=X (i _ m);clear v;go_wp2;go_ret;exact⟨rfl,c⟩
end Go.Proofs.YtohdnhlfpldbmaaGreat
set_option maxRecDepth 100000
set_option maxHeartbeats 32000000
namespace Go.Proofs.YtohdnhlfpldbmaaGreat
open Go.RowKit Go.ChangeShapes Go.WideShapes Go.Deep
theorem EZ{w:N}:∀(n b a:Nat)(f:Nat->T),(∀i,i<n->∃s,w.cell? (D b (a+i*3))=some (Y (f i).v)/\w.cell? (D b (a+i*3+1))=some (Y (f i).f)/\w.cell? (D b (a+i*3+2))=some s/\(f i).In (λ_=>True) w s)->
 InL w ((List.range n).map f) (some (D b a)):=by
 intro n;induction n with
 |zero=>intro b a f _;exact dU
 |succ n j=>
  intro b a f h;rw[Mx,yI,List.map_map];obtain⟨s,c,d,e,g⟩:=h 0 (by omega);refine sI.2 ⟨b,a,s,rfl,trivial,by simpa using c,by simpa using d,by simpa using e,g,j b (a+3) (f∘Nat.succ) (λi k=>?_)⟩;obtain⟨s,c,d,e,g⟩:=h (i+1) (by omega);have k:a+(i+1)*3=a+3+i*3:=by omega
  rw[k] at c d e;exact⟨s,c,d,e,g⟩
theorem Tryz.kf:Tryz.prog.cellsOf 43=3:=by kernel_rfl
theorem Tryz.qr:Tryz.prog.cellsOf 3=1:=by kernel_rfl
theorem Tryz.qc:Tryz.prog.cellsOf 24=1:=by kernel_rfl
section
variable {H:Type} {enc:TypeId×Zv→H} {W:N} {spare:Nat→Bool} {held:Bool}
theorem AN:∀(f:Nat)(g:Zu)(x:DataW H×List MemPlace),DataW.trod enc Tryz.prog W 0 spare held f 43 g=some x->
 ∃(t:T)(a:Zo)(h:Nat),g=[Y t.v,Y t.f,.slice a t.e.length h]/\InL W t.e a:=by
 intro f;induction f using Nat.strongRecOn with
 |_ f E=>
  intro g x G;obtain⟨I,n,hn,hx,q,J,o⟩:=DataW.trod_struct Go.Proofs.Tryz.underlying43 G;rw[Tryz.kf] at q
  match g,q with
  |[k,c,d],_=>
   have r:=o 0 _ rfl;have u:=o 1 _ rfl;have w:=o 2 _ rfl
   match I,J with
   |[K,L,M],_=>
    simp only[vP,xS] at r u w;have O:DataW.trod enc Tryz.prog W 0 spare held n 3 [k]=some K:=r;have P:DataW.trod enc Tryz.prog W 0 spare held n 3 [c]=some L:=u;have Q:DataW.trod enc Tryz.prog W 0 spare held n 41 [d]=some M:=w;obtain⟨v,y,_,_⟩:=DataW.trod_int Go.Proofs.Tryz.underlying3 O;obtain⟨p,z,_,_⟩:=DataW.trod_int Go.Proofs.Tryz.underlying3 P;simp only[mX,and_true] at y z;subst y z;rcases Eb Go.Proofs.Tryz.underlying41 Q with⟨e,_⟩|⟨a,l,h,ab,ac,R,hm,e,_,hb,ad,ae,af,A,_,_⟩
    .simp only[mX,and_true] at e
     subst e;exact⟨⟨v,p,[]⟩,none,0,rfl,dU⟩
    simp only[mX,and_true] at e;subst e;rw[Tryz.kf] at A;have B:∀i,i<l->∃t:T,∃s,W.cell? (a.add (i*3))=some (Y t.v)/\W.cell? ((a.add (i*3)).add 1)=some (Y t.f)/\W.cell? ((a.add (i*3)).add 2)=some s/\t.In (λ_=>True) W s:=by
     intro i F;have j:=A i F;rw[jO (by omega)] at j;obtain⟨S,U,V⟩:=rG.1 j;obtain⟨t,m,C,Z,aa⟩:=E R (by omega) S _ V;obtain⟨_,_,b⟩:=Jj U;rw[Z] at b;refine⟨t,Zk m t.e C,?_,b 1 (by omega),b 2 (by omega),gK.2 ⟨m,C,rfl,aa⟩⟩;have:=b 0 (by omega);rwa [show(a.add (i*3)).add 0=a.add (i*3) from by simp[Addr.add]] at this
    by_cases C:l=0
    .subst C
     exact⟨⟨v,p,[]⟩,some a,h,rfl,dU⟩
    obtain⟨b,m,aF⟩:=a;have S:aF=none:=by
     obtain⟨t,s,j,_⟩:=B 0 (by omega);simpa[Addr.add] using Ji j
    subst S;have:Inhabited T:=⟨⟨0,0,[]⟩⟩;obtain⟨F,U⟩:=choose_lt B;refine⟨⟨v,p,(List.range l).map F⟩,some (D b m),h,by simp,EZ l b m F (λi j=>?_)⟩;obtain⟨s,k,c,d,V⟩:=U i j;have Z:∀j,((D b m):Addr).add j=(D b (m+j)):=λj=>by simp[Addr.add]
    have e':∀i j,((D b i):Addr).add j=(D b (i+j)):=λi j=>by simp[Addr.add]
    rw[Z] at k c d;rw[e'] at c d;exact⟨s,k,c,d,V⟩
theorem AM{h:Nat}{e:Zu}{x:DataW H×List MemPlace}(i:DataW.trod enc Tryz.prog W 0 spare held h 22 e=some x):
 ∃(a:Zn)(b:Zo)(f:Nat),e=[.slice b a.length f]/\jV W a b/\a.length<=9223372036854775807/\a.length<=f:=by
 rcases open_ints Go.Proofs.Tryz.underlying22 Go.Proofs.Tryz.underlying3 Tryz.qr i with⟨d,_⟩|⟨b,l,j,a,d,_,k,m,n,_,o,_⟩
 .exact⟨[],none,0,d,jD rfl,by simp,by simp⟩
 have p:l<=a.length:=by rw[n];split<;>omega
 have c:=Is p;refine⟨a.take l,some b,j,by rw[d,c],?_,by rw[c];unfold maxLen at m;omega,by rw[c];exact k⟩;by_cases q:l=0
 .left;rw[q];rfl
 right;obtain⟨r,s,rfl,t⟩:=ints_at o (by omega);refine⟨r,s,rfl,λu g=>?_⟩;rw[c] at g;rw[t u (by omega)];simp[List.getD,eR g]
theorem YH{f:Nat}{c:Zu}{x:DataW H×List MemPlace}(h:DataW.trod enc Tryz.prog W 0 spare held f 24 c=some x):
 ∃(a:Zn)(b:Zo)(d:Nat),c=[.slice b a.length d]/\jV W a b:=by
 obtain⟨l,n,_,e,g⟩:=trod_struct1 Go.Proofs.Tryz.underlying24 h;rw[Tryz.qc] at e
 match c,e with
 |[m],_=>
  have i:=g;obtain⟨a,b,d,j,k,_⟩:=AM i;exact⟨a,b,d,j,k⟩
end
end Go.Proofs.YtohdnhlfpldbmaaGreat
set_option maxRecDepth 100000
set_option maxHeartbeats 32000000
namespace Go.Proofs.YtohdnhlfpldbmaaGreat
open Go.RowKit Go.ChangeShapes Go.WideShapes Go.Deep
def FW(w:N)(b a:Nat)(x:Lit):Prop:=∃c e d f,w.cell? (D b a)=some (.bool x.1)/\w.cell? (D b (a+1))=some (Y x.2.1.v)/\w.cell? (D b (a+2))=some (Y x.2.1.f)/\w.cell? (D b (a+3))=some (.slice c x.2.1.e.length e)/\
 w.cell? (D b (a+4))=some (Y x.2.2.v)/\w.cell? (D b (a+5))=some (Y x.2.2.f)/\w.cell? (D b (a+6))=some (.slice d x.2.2.e.length f)/\InL w x.2.1.e c/\InL w x.2.2.e d
theorem FX{w:N}:∀(n b a:Nat)(f:Nat->Lit),(∀i,i<n->FW w b (a+i*7) (f i))->kR w ((List.range n).map f) (some (D b a)):=by
 intro n;induction n with
 |zero=>intro b a f _;trivial
 |succ n d=>
  intro b a f h;rw[Mx,yI,List.map_map];obtain⟨e,g,j,k,l,m,o,p,q,r,s,i1,i2⟩:=h 0 (by omega);refine⟨b,a,e,g,j,k,rfl,by simpa using l,by simpa using m,by simpa using o,by simpa using p,by simpa using q,by simpa using r,by simpa using s,i1,i2,d b (a+7) (f∘Nat.succ) (λi c=>?_)⟩;have c:=h (i+1) (by omega);rw[show a+(i+1)*7=a+7+i*7 by omega] at c;exact c
theorem IM{w:N}:∀(n b a:Nat)(f:Nat->Zn),(∀i,i<n->∃c d,w.cell? (D b (a+i))=some (.slice c (f i).length d)/\jV w (f i) c)->dK w ((List.range n).map f) (some (D b a)):=by
 intro n;induction n with
 |zero=>intro b a f _;trivial
 |succ n g=>
  intro b a f h;rw[Mx,yI,List.map_map];obtain⟨c,d,j,k⟩:=h 0 (by omega);refine⟨b,a,c,d,rfl,by simpa using j,k,g b (a+1) (f∘Nat.succ) (λi e=>?_)⟩;have e:=h (i+1) (by omega);rw[show a+(i+1)=a+1+i by omega] at e;exact e
theorem Tryz.kg:Tryz.prog.cellsOf 47=7:=by kernel_rfl
theorem Tryz.qd:Tryz.prog.cellsOf 28=2:=by kernel_rfl
theorem Tryz.km:Tryz.prog.cellsOf 22=1:=by kernel_rfl
section
variable {H:Type} {enc:TypeId×Zv→H} {W:N} {spare:Nat→Bool} {held:Bool}
theorem YF{l:Nat}{d:Zu}(x:DataW H×List MemPlace)(m:DataW.trod enc Tryz.prog W 0 spare held l 47 d=some x):
 ∃(y:Lit)(b:Zo)(e:Nat)(c:Zo)(f:Nat),d=[.bool y.1,Y y.2.1.v,Y y.2.1.f,.slice b y.2.1.e.length e,Y y.2.2.v,Y y.2.2.f,.slice c y.2.2.e.length f]/\InL W y.2.1.e b/\InL W y.2.2.e c:=by
 obtain⟨o,n,M,O,h,p,g⟩:=DataW.trod_struct Go.Proofs.Tryz.underlying47 m;rw[Tryz.kg] at h
 match d,h with
 |[q,r,s,t,u,v,w],_=>
  have i:=g 0 _ rfl;have j:=g 1 _ rfl;have k:=g 2 _ rfl
  match o,p with
  |[z,A,B],_=>
   simp only[vP,xS] at i j k;have C:DataW.trod enc Tryz.prog W 0 spare held n 4 [q]=some z:=i;have E:DataW.trod enc Tryz.prog W 0 spare held n 43 [r,s,t]=some A:=j;have F:DataW.trod enc Tryz.prog W 0 spare held n 43 [u,v,w]=some B:=k;obtain⟨G,a,_⟩:=DataW.trod_bool Go.Proofs.Tryz.underlying4 C;simp only[mX,and_true] at a;obtain rfl:=a;obtain⟨I,b,e,a,J⟩:=AN _ _ _ E;simp only[mX,and_true] at a;obtain⟨rfl,rfl,rfl⟩:=a;obtain⟨K,c,f,a,L⟩:=AN _ _ _ F;simp only[mX,and_true] at a;obtain⟨rfl,rfl,rfl⟩:=a;exact⟨(G,I,K),b,e,c,f,rfl,J,L⟩
theorem AK{x:Nat}{t:Zu}{z:DataW H×List MemPlace}(A:DataW.trod enc Tryz.prog W 0 spare held x 39 t=some z):
 ∃(m:Zc)(a:Zo)(f:Nat),t=[.slice a m.length f]/\kR W m a/\m.length<=9223372036854775807:=by
 rcases Eb Go.Proofs.Tryz.underlying39 A with⟨c,_⟩|⟨a,g,f,K,L,M,O,c,_,P,Q,B,R,u,_,_⟩
 .exact⟨[],none,0,c,trivial,by simp⟩
 rw[Tryz.kg] at u
 have v:∀i,i<g->∃y:Lit,∃d h e k,W.cell? (a.add (i*7))=some (.bool y.1)/\W.cell? ((a.add (i*7)).add 1)=some (Y y.2.1.v)/\W.cell? ((a.add (i*7)).add 2)=some (Y y.2.1.f)/\W.cell? ((a.add (i*7)).add 3)=some (Zk d y.2.1.e h)/\
  W.cell? ((a.add (i*7)).add 4)=some (Y y.2.2.v)/\W.cell? ((a.add (i*7)).add 5)=some (Y y.2.2.f)/\W.cell? ((a.add (i*7)).add 6)=some (Zk e y.2.2.e k)/\InL W y.2.1.e d/\InL W y.2.2.e e:=by
  intro i l;have j:=u i l;rw[jO (by omega)] at j;obtain⟨F,n,o⟩:=rG.1 j;obtain⟨y,p,q,r,s,w,C,E⟩:=YF _ o;obtain⟨_,_,b⟩:=Jj n;rw[w] at b;refine⟨y,p,q,r,s,?_,b 1 (by omega),b 2 (by omega),b 3 (by omega),b 4 (by omega),b 5 (by omega),b 6 (by omega),C,E⟩;have:=b 0 (by omega);rwa [show(a.add (i*7)).add 0=a.add (i*7) from by simp[Addr.add]] at this
 by_cases C:g=0
 .subst C
  exact⟨[],some a,f,c,trivial,by simp⟩
 obtain⟨b,l,aF⟩:=a;have E:aF=none:=by
  obtain⟨y,d,h,e,k,j,_⟩:=v 0 (by omega);simpa[Addr.add] using Ji j
 subst E;have:Inhabited Lit:=⟨(false,⟨0,0,[]⟩,⟨0,0,[]⟩)⟩;obtain⟨F,y⟩:=choose_lt v;refine⟨(List.range g).map F,some (D b l),f,by simpa using c,FX g b l F (λi j=>?_),by simp;unfold maxLen at B;omega⟩;obtain⟨d,h,e,k,w,n,o,p,q,r,s,G,I⟩:=y i j;have J:∀j,((D b l):Addr).add j=(D b (l+j)):=λj=>by simp[Addr.add]
 have c:∀i j,((D b i):Addr).add j=(D b (i+j)):=λi j=>by simp[Addr.add]
 rw[J] at w n o p q r s;rw[c] at n o p q r s;exact⟨d,h,e,k,w,n,o,p,q,r,s,G,I⟩
theorem YI{p:Nat}{k:Zu}{x:DataW H×List MemPlace}(q:DataW.trod enc Tryz.prog W 0 spare held p 26 k=some x):
 ∃(l:List Zn)(a:Zo)(d:Nat),k=[.slice a l.length d]/\dK W l a:=by
 rcases Eb Go.Proofs.Tryz.underlying26 q with⟨e,_⟩|⟨a,f,d,v,w,z,A,e,_,B,C,E,G,m,_,_⟩
 .exact⟨[],none,0,e,trivial⟩
 rw[Tryz.km] at m;have n:∀i,i<f->∃y:Zn,∃b c,W.cell? (a.add (i*1))=some (Zk b y c)/\jV W y b:=by
  intro i j;have g:=m i j;rw[jO (by omega)] at g;obtain⟨u,o,r⟩:=rG.1 g;obtain⟨y,b,c,s,t,_⟩:=AM r;obtain⟨_,_,h⟩:=Jj o;rw[s] at h;refine⟨y,b,c,?_,t⟩;have:=h 0 (by omega);rwa [show(a.add (i*1)).add 0=a.add (i*1) from by simp[Addr.add]] at this
 by_cases r:f=0
 .subst r
  exact⟨[],some a,d,e,trivial⟩
 obtain⟨g,h,aF⟩:=a;have s:aF=none:=by
  obtain⟨y,b,c,j,_⟩:=n 0 (by omega);simpa[Addr.add] using Ji j
 subst s;obtain⟨F,t⟩:=choose_lt n;refine⟨(List.range f).map F,some (D g h),d,by simpa using e,IM f g h F (λi j=>?_)⟩;obtain⟨b,c,o,u⟩:=t i j;have i:∀j,((D g h):Addr).add j=(D g (h+j)):=λj=>by simp[Addr.add]
 rw[i,Nat.mul_one] at o;exact⟨b,c,o,u⟩
theorem YG{j:Nat}{d:Zu}{x:DataW H×List MemPlace}(k:DataW.trod enc Tryz.prog W 0 spare held j 28 d=some x):
 ∃(n:Int)(b:List Zn)(c:Zo)(e:Nat),d=[Y n,.slice c b.length e]/\dK W b c:=by
 obtain⟨l,m,w,y,f,o,g⟩:=DataW.trod_struct Go.Proofs.Tryz.underlying28 k;rw[Tryz.qd] at f
 match d,f with
 |[p,q],_=>
  have h:=g 0 _ rfl;have i:=g 1 _ rfl
  match l,o with
  |[r,s],_=>
   simp only[vP,xS] at h i;have t:DataW.trod enc Tryz.prog W 0 spare held m 3 [p]=some r:=h;have u:DataW.trod enc Tryz.prog W 0 spare held m 26 [q]=some s:=i;obtain⟨n,a,_⟩:=DataW.trod_int Go.Proofs.Tryz.underlying3 t;simp only[mX,and_true] at a;obtain rfl:=a;obtain⟨b,c,e,a,v⟩:=YI u;simp only[mX,and_true] at a;obtain rfl:=a;exact⟨n,b,c,e,rfl,v⟩
end
end Go.Proofs.YtohdnhlfpldbmaaGreat
namespace Go.Proofs.YtohdnhlfpldbmaaGreat
open Go.ChangeShapes Go.WideShapes Go.ChangeAt Go.RowKit
theorem YD{H:Type}{e:TypeId×Zv->H}{W:N}{f:Nat->Bool}{g:Bool}{h:Nat}{b:Zu}{x:DataW H×List MemPlace}(i:DataW.trod e Tryz.prog W 0 f g h 39 b=some x){j:Zo}{n c:Nat}(d:b=[.slice j n c]):n<=c:=by
 rcases Eb Go.Proofs.Tryz.underlying39 i with⟨a,_⟩|⟨l,m,o,p,q,r,s,a,_,t,k,u,v,w,_,_⟩
 .rw[d] at a
  simp only[mX,lH,and_true] at a;omega
 rw[d] at a;simp only[mX,lH,and_true] at a;obtain⟨_,rfl,rfl⟩:=a;exact k
end Go.Proofs.YtohdnhlfpldbmaaGreat
