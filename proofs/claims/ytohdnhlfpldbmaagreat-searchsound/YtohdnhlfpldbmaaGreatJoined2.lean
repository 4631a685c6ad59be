import Derived.Ground.GgzProg
import Derived.Handy
import Derived.Shelf.SlIterI.Nil
import Derived.Test.YtohdnhlfpldbmaaGreatJoined1
set_option maxRecDepth 100000
set_option maxHeartbeats 32000000
set_option linter.all false
namespace Go.Proofs.YtohdnhlfpldbmaaGreat
open Go.RowKit Go.Maps
open Go.Proofs.Tryz renaming prog->Zf
attribute [local go_sem ↓] Go.wp_at_zero Go.wp_at_succ
variable {k n m i j n1 n2 n3 n4 n5 n6 n7 n8 n9:Nat}{w u v w1 w2 w3 w4 w5:N}{x y x1 x2 x3 x4 x5 x6 x7 x8 x9:Value}{r r1 r2:Zn}{p p1 p2:Zp}{z z1 z2 z3:Int}{a a1 a2 a3 a4:Zo}{t s t1 t2:T}{c d c1 c2:Zc}{g g1 g2:TypeId}{b b1 b2:Zs}{l l1:Zt}{U V U1 U2:Zu}{B B1:Bool}
theorem Tryz.underlying276:Zf.underlying 276=some (.slice 278):=by kernel_rfl
theorem Tryz.info278:(Zf.info? 278).map (λi=>(i.zero,i.size,i.bytes))=some (some (.agg #[Y 0,Y 0,Zd,Y 0,Zd]),5,72):=by kernel_rfl
def Al(n:Nat):Zy:=madeCells #[Y 0,Y 0,Zd,Y 0,Zd] (n*5)
def jC0(n:Nat):(Al n).size=n*5:=size_madeCells _ _
def jAv(n:Nat)(g:n<=1000000)(w:N):(Instr.makeSlice 276 (Y (n:Int)) (Y (n:Int))).run Zf w=.ok (Zx w.heap.size n n) (w.alloc (.cells (Al n) 278)):=by
 obtain⟨i,c,a⟩:=bQ.1 Tryz.info278;simp only[bG] at a;obtain⟨d,e,f⟩:=a;have b:=run_make w 276 278 i _ Tryz.underlying276 c d .i64 .i64 n n (by omega) (mE _) (by rw[f];omega) (by omega);simp only[pK,e] at b;exact b
def zY(w:N)(b a:Nat)(c d e f g:Zv):Prop:=
 w.cell? (D b a)=some c/\w.cell? (D b (a+1))=some d/\w.cell? (D b (a+2))=some e/\w.cell? (D b (a+3))=some f/\w.cell? (D b (a+4))=some g
def zY.same{w':N}{b c d f g:Zv}(h:zY w k n b c d f g)(i:w'.heap[k]? =w.heap[k]?):zY w' k n b c d f g:=by
 have e:=λj=>kH (w:=w) (a:=(D k j)) i;exact⟨(e _).trans h.1,(e _).trans h.2.1,(e _).trans h.2.2.1,(e _).trans h.2.2.2.1,(e _).trans h.2.2.2.2⟩
def zY.lt{a b c d e:Zv}(h:zY w k n a b c d e):k<w.heap.size:=kA h.1
abbrev pE(w:N)(b a:Nat)(c d e f g:Zv):N:=((((w.setCell (D b a) c).setCell (D b (a+1)) d).setCell (D b (a+2)) e).setCell (D b (a+3)) f).setCell (D b (a+4)) g
def iO{a b c d e:Zv}(h:m≠k):(pE w k n a b c d e).heap[m]? =w.heap[m]?:=by
 rw[vL _ _ _ _ h,vL _ _ _ _ h,vL _ _ _ _ h,vL _ _ _ _ h,vL _ _ _ _ h]
def jCt{a b c d e:Zv}:(pE w k n a b c d e).heap.size=w.heap.size:=by simp[pE,World.setCell]
def Uj(h:Below k w u)(a:k<=n)(b c d e f:Zv):Below k w (pE u n m b c d e f):=
 ((((h.setCell a b).setCell a c).setCell a d).setCell a e).setCell a f
def CG{a b c d e:Zv}:(pE w k n a b c d e).frozen? (D m i)=w.frozen? (D m i):=by
 rw[dC,dC,dC,dC,dC]
def wO(h:n≠m):((D k n):Addr)≠(D k m):=λe=>h (by injection e)
def CH{a b c d e:Zv}(h:m<n\/n+4<m):(pE w k n a b c d e).cell? (D k m)=w.cell? (D k m):=by
 rw[yE _ _ _ _ (wO (by omega)),yE _ _ _ _ (wO (by omega)),yE _ _ _ _ (wO (by omega)),yE _ _ _ _ (wO (by omega)),yE _ _ _ _ (wO (by omega))]
def CI{f g l m o:Zv}(h:∀j,n<=j->j<n+5->∃v,w.cell? (D k j)=some v):zY (pE w k n f g l m o) k n f g l m o:=by
 have c:∀(w:N)(i:Nat)(v:Zv),(∃u,Zq w k i u)->(w.setCell (D k i) v).cell? (D k i)=some v:=λw i v ⟨u,d⟩=>pS _ _ _ d;have a:∀(w:N)(i j:Nat)(v:Zv),i≠j->(w.setCell (D k i) v).cell? (D k j)=w.cell? (D k j):=λw i j v e=>yE _ _ _ _ (wO e);have b:∀(w:N)(i j:Nat)(v:Zv),i≠j->(∃u,Zq w k j u)->∃u,(w.setCell (D k i) v).cell? (D k j)=some u:=λw i j v e ⟨u,d⟩=>⟨u,by rw[a w i j v e];exact d⟩;refine⟨?_,?_,?_,?_,?_⟩
 .rw[a _ _ _ _ (by omega),a _ _ _ _ (by omega),a _ _ _ _ (by omega),a _ _ _ _ (by omega)]
  exact c _ _ _ (h n (by omega) (by omega))
 .rw[a _ _ _ _ (by omega),a _ _ _ _ (by omega),a _ _ _ _ (by omega)]
  exact c _ _ _ (b _ _ _ _ (by omega) (h (n+1) (by omega) (by omega)))
 .rw[a _ _ _ _ (by omega),a _ _ _ _ (by omega)]
  exact c _ _ _ (b _ _ _ _ (by omega) (b _ _ _ _ (by omega) (h (n+2) (by omega) (by omega))))
 .rw[a _ _ _ _ (by omega)]
  exact c _ _ _ (b _ _ _ _ (by omega) (b _ _ _ _ (by omega) (b _ _ _ _ (by omega) (h (n+3) (by omega) (by omega)))))
 exact c _ _ _ (b _ _ _ _ (by omega) (b _ _ _ _ (by omega) (b _ _ _ _ (by omega) (b _ _ _ _ (by omega) (h (n+4) (by omega) (by omega))))))
structure oE (r:Zp) (w wr:N) (t:T) (n:Nat) (a:Zo) (cap P G k:Nat):Prop where
 ne:P≠G
 hP:w.heap.size+1+1<=P
 hG:w.heap.size+1+1<=G
 part:zY wr P 0 (Y t.v) (Y t.f) (.slice a t.e.length cap) (Y (n:Int)) (Zx G t.e.length t.e.length)
 res:zY wr (w.heap.size+1) 0 (Y 0) (Y 0) (Zd) (Y 0) (Zd)
 kh:∀j,wr.frozen? (D (w.heap.size+1) j)=false
 term:jK wr w.heap.size (Y t.v) (Y t.f) (.slice a t.e.length cap)
 gl:G<wr.heap.size
 cells:∀j,j<t.e.length*5->∃v,wr.cell? (D G j)=some v
 fr:∀j,wr.frozen? (D G j)=false
 row:∀i x,i<k->t.e[i]? =some x->∃ta tc pa pc,zY wr G (i*5) (Y x.v) (Y x.f) (.slice ta x.e.length tc) (Y ((n+1+T.E.szL (t.e.take i):Nat):Int)) (.slice pa x.e.length pc)/\x.e.length<=pc/\
  jT r wr x.e ta/\PL (λb=>w.heap.size+1+1<=b/\b≠G/\b≠P) r wr x.e (n+1+T.E.szL (t.e.take i)+1) pa
 below:Zb w wr
def oE.step{A:Obj}(z:∀j,p j->j<w.heap.size)(h:oE p w u t k a n m i j)(B:t.e[j]? =some s)(E:Zb (u.alloc A) v)
 (I:s.e.length<=n2) (J:jT p v s.e a1) (K:PL (λc=>(u.alloc A).heap.size<=c) p v s.e (k+1+T.E.szL (t.e.take j)+1) a2):
 oE p w (pE v i (j*5) (Y s.v) (Y s.f) (.slice a1 s.e.length n1) (Y ((k+1+T.E.szL (t.e.take j):Nat):Int)) (.slice a2 s.e.length n2)) t k a n m i (j+1):=by
 have hk:j<t.e.length:=by
  rcases xW j t.e.length with h|h
  .exact h
  rw[yZ h] at B;cases B
 have C:=h.gl;have L:=h.part.lt;have M:=E.size;simp at M;have hG:=h.hG;have hP:=h.hP;have O:=h.ne;have f:=(jG _ _).trans (E.mono (by simp));have F:∀b,b<t.e.length*5->∃d,v.cell? ⟨i,b,none⟩=some d:=λb d=>by
  rw[f.cell (p:=⟨i,b,none⟩) C];exact h.cells b d
 have g:=CI (w:=v) (k:=i) (n:=j*5) (f:=Y s.v) (g:=Y s.f) (l:=.slice a1 s.e.length n1) (m:=Y ((k+1+T.E.szL (t.e.take j):Nat):Int)) (o:=.slice a2 s.e.length n2) (λb _ e=>F b (by omega));have l:∀x,x<u.heap.size->x≠i->(pE v i (j*5) (Y s.v) (Y s.f) (.slice a1 s.e.length n1) (Y ((k+1+T.E.szL (t.e.take j):Nat):Int)) (.slice a2 s.e.length n2)).heap[x]? =u.heap[x]?:=λx o e=>by
  rw[iO e];exact f.block x o
 have G:=h.res.lt;have P:=h.term.lt;refine⟨h.ne,h.hP,h.hG,h.part.same (l _ L O),h.res.same (l _ G (by omega)),λb=>?_,h.term.same (l _ P (by omega)),by rw[jCt];omega,λb d=>?_,λb=>?_,λq x e o=>?_,Uj (h.below.trans (f.mono (by omega))) (by omega) _ _ _ _ _⟩
 .rw[CG,f.frozen (p:=⟨w.heap.size+1,b,none⟩) G];exact h.kh b
 .by_cases e:b<j*5\/j*5+4<b
  .rw[CH e];exact F b d
  have:b=j*5\/b=j*5+1\/b=j*5+2\/b=j*5+3\/b=j*5+4:=by omega
  rcases this with rfl|rfl|rfl|rfl|rfl
  .exact⟨_,g.1⟩
  .exact⟨_,g.2.1⟩
  .exact⟨_,g.2.2.1⟩
  .exact⟨_,g.2.2.2.1⟩
  exact⟨_,g.2.2.2.2⟩
 .rw[CG,f.frozen (p:=⟨i,b,none⟩) C];exact h.fr b
 rcases xW q j with H|H
 .obtain⟨Q,R,S,U,e,V,W,Z⟩:=h.row q x H o
  refine⟨Q,R,S,U,?_,V,xN (λc d r=>l c r (by have:=z c d;omega)) W,Ew (λc d r=>l c r (d.elim (λh=>h.2.1) (λh=>by have:=z c h;omega))) Z⟩;have y:∀b,q*5<=b->b<q*5+5->(pE v i (j*5) (Y s.v) (Y s.f) (.slice a1 s.e.length n1) (Y ((k+1+T.E.szL (t.e.take j):Nat):Int)) (.slice a2 s.e.length n2)).cell? ⟨i,b,none⟩=u.cell? ⟨i,b,none⟩:=λb h1 h2=>by
   rw[CH (by omega),f.cell (p:=⟨i,b,none⟩) C]
  exact⟨(y _ (by omega) (by omega)).trans e.1,(y _ (by omega) (by omega)).trans e.2.1,(y _ (by omega) (by omega)).trans e.2.2.1,(y _ (by omega) (by omega)).trans e.2.2.2.1,(y _ (by omega) (by omega)).trans e.2.2.2.2⟩
 have:q=j:=by omega
 subst this;rw[B] at o;obtain rfl:s=x:=by simpa using o
 refine⟨a1,n1,a2,n2,g,I,xN (λc d r=>iO (by have:=z c d;omega)) J,Sz (p:=λc=>(u.alloc A).heap.size<=c) (λc d=>?_) (λc d=>d) (Ew (λc d r=>iO ?_) K)⟩
 .simp at d;omega
 rcases d with d|d
 .simp at d;omega
 have:=z c d;omega
def Wy(w:N)(a o1 o2 b:Obj):((((w.alloc a).alloc o1).alloc o2).alloc b).drew.heap[w.heap.size]? =some a/\((((w.alloc a).alloc o1).alloc o2).alloc b).drew.heap[w.heap.size+1]? =some o1/\
 ((((w.alloc a).alloc o1).alloc o2).alloc b).drew.heap[w.heap.size+1+1]? =some o2/\((((w.alloc a).alloc o1).alloc o2).alloc b).drew.heap[w.heap.size+1+1+1]? =some b:=by
 have s1:(w.alloc a).heap.size=w.heap.size+1:=qE _ _;have s2:((w.alloc a).alloc o1).heap.size=w.heap.size+1+1:=by rw[qE,s1]
 have c:(((w.alloc a).alloc o1).alloc o2).heap.size=w.heap.size+1+1+1:=by rw[qE,s2]
 have d:(w.alloc a).heap[w.heap.size]? =some a:=bR w a;have e:((w.alloc a).alloc o1).heap[w.heap.size+1]? =some o1:=s1▸bR _ o1;have f:(((w.alloc a).alloc o1).alloc o2).heap[w.heap.size+1+1]? =some o2:=s2▸bR _ o2;have g:((((w.alloc a).alloc o1).alloc o2).alloc b).heap[w.heap.size+1+1+1]? =some b:=c▸bR _ b;refine⟨?_,?_,?_,g⟩
 .show((((w.alloc a).alloc o1).alloc o2).alloc b).heap[w.heap.size]? =some a
  rw[zL _ _ _ (by omega),zL _ _ _ (by omega),zL _ _ _ (by omega)];exact d
 .show((((w.alloc a).alloc o1).alloc o2).alloc b).heap[w.heap.size+1]? =some o1
  rw[zL _ _ _ (by omega),zL _ _ _ (by omega)];exact e
 show((((w.alloc a).alloc o1).alloc o2).alloc b).heap[w.heap.size+1+1]? =some o2;rw[zL _ _ _ (by omega)];exact f
def zY.of_heap{a b c d e:Zv}{f:Nat×Nat}(h:w.heap[k]? =some (.cells #[a,b,c,d,e] g f)):zY w k 0 a b c d e:=by
 refine⟨?_,?_,?_,?_,?_⟩<;>simp[World.cell?,h]
def iG{a:Zy}(h:w.heap[k]? =some (.cells a g))(j:Nat):w.frozen? (D k j)=false:=by simp[World.frozen?,h]
def jK.of_heap{a b c:Zv}(h:w.heap[k]? =some (.cells #[a,b,c] g)):jK w k a b c:=by
 refine⟨?_,?_,?_,?_,?_,?_⟩<;>simp[World.cell?,World.frozen?,h]
def oE.start(d:m≠i)(e:w.heap.size+1+1<=m)(f:w.heap.size+1+1<=i)(g:Zb w u)
 (l:u.heap[w.heap.size]? =some (.cells (Zj t a n) 43)) (c:u.heap[w.heap.size+1]? =some (.cells #[Y 0,Y 0,Zd,Y 0,Zd] 278))
 (o:u.heap[m]? =some (.cells #[Y t.v,Y t.f,.slice a t.e.length n,Y (k:Int),Zx i t.e.length t.e.length] 278)) (b:u.heap[i]? =some (.cells (Al t.e.length) 278)):oE p w u t k a n m i 0:=by
 refine⟨d,e,f,zY.of_heap o,zY.of_heap c,iG c,jK.of_heap l,?_,λj q=>?_,iG b,λh x h=>by omega,g⟩
 .rcases xW i u.heap.size with h|h
  .exact h
  rw[uK h] at b;cases b
 have r:j<(Al t.e.length).size:=by rw[jC0];exact q
 exact⟨(Al t.e.length)[j],by simp[World.cell?,b,Ly r]⟩
def Uf(w:N)(o1 o2 a b:Obj):Zb w ((((w.alloc o1).alloc o2).alloc a).alloc b).drew:=((((jG w o1).alloc (by simp) o2).alloc (by simp;omega) a).alloc (by simp;omega) b).drew
def XG(r:Zp)(O:Nat):∀(t:T)(n:Nat)(d:Zo)(e:Nat)(w:N),t.E<=O->t.E<=1000->n+t.E<=10000->(∀k,r k->k<w.heap.size)->jT r w t.e d->
 Calls Zf 225 #[.agg #[Y t.v,Y t.f,.slice d t.e.length e],Y (n:Int)] w λad a=>
  ∃z A,ad=.returned (.tuple #[.agg #[Y t.v,Y t.f,.slice d t.e.length e,Y (n:Int),.slice z t.e.length A],Y ((n+t.E:Nat):Int)])/\
   t.e.length<=A/\PL (λk=>w.heap.size<=k) r a t.e (n+1) z/\Zb w a:=by
 induction O with
 |zero=>intro t n d e w hN;have:=t.I;omega
 |succ O ih=>
  intro t n d e w hN a8 hn hr ae;have aj:=X ih;have F:=X hr;have a9:t.e.length<=1000:=by have:=T.length_le t.e;have:=T.M t;omega
  have ak:=jAv t.e.length (by omega);clear ih hr
  go_in
  go_upto_region 1 with fail
  go_cut [6] (λv wc=>∃P G,v=.pointer (some ⟨P,0,none⟩)/\oE r w wc t n d e P G 0)
  case first=>
   go_region
   .go_wp2_with fail
    go_meet
    obtain⟨Q,R,S,U⟩:=Wy w (.cells #[Y t.v,Y t.f,.slice d t.e.length e] 43) (.cells #[Y 0,Y 0,.slice none 0 0,Y 0,.slice none 0 0] 278) (.cells (Al t.e.length) 278) (.cells #[Y t.v,Y t.f,.slice d t.e.length e,Y (n:Int),.slice (some ⟨w.heap.size+1+1,0,none⟩) t.e.length t.e.length] 278);exact⟨w.heap.size+1+1+1,w.heap.size+1+1,rfl,oE.start (by omega) (by omega) (by omega) (Uf _ _ _ _ _) Q R U S⟩
   go_wp2_with fail
   go_meet
   obtain⟨Q,R,S,U⟩:=Wy w (.cells #[Y t.v,Y t.f,.slice d t.e.length e] 43) (.cells #[Y 0,Y 0,.slice none 0 0,Y 0,.slice none 0 0] 278) (.cells #[Y t.v,Y t.f,.slice d t.e.length e,Y (n:Int),.slice (some ⟨w.heap.size+1+1+1,0,none⟩) t.e.length t.e.length] 278) (.cells (Al t.e.length) 278);exact⟨w.heap.size+1+1,w.heap.size+1+1+1,rfl,oE.start (by omega) (by omega) (by omega) (Uf _ _ _ _ _) Q R S U⟩
  case rest=>
   obtain⟨P,G,rfl,V⟩:=hcut;have al:=X V;obtain⟨t0,t1,t2,_,_,_⟩:=V.term;have ba:=T.M t;clear V ak;go_wp2
   go_loopw [7,22] (λnx o wr=>∃k q:Nat,k<=t.e.length/\o=Y k/\nx=Y (q:Int)/\Hid (q=n+1+T.E.szL (t.e.take k))/\oE r w wr t n d e P G k) (λ_ o _=>t.e.length - (intOf o).toNat)
   case atStart=>exact⟨0,n+1,jY _,rfl,by go_num,by rw[List.take_zero,T.P];rfl,al⟩
   case round=>
    obtain⟨k,q,hk,rfl,rfl,W,b⟩:=hrel;have af:=X b;have Z:=b.below;by_cases am:k<t.e.length
    .obtain⟨f,aa,rfl⟩:=dV ae (by omega)
     obtain⟨c,B⟩:=Zg am;obtain⟨g,l,_,k0,k1,k2,ag⟩:=dT (jI Z ae) B;have Hc:=X B;have bb:=T.W (jU B);obtain⟨an,bc⟩:=Dr B;have ao:=T.M c;obtain⟨p0,p1,p2,p3,p4⟩:=b.part;have ah:=b.part.lt;have s:=b.gl;obtain⟨v0,e0⟩:=b.cells (k*5) (by omega);obtain⟨v1,e1⟩:=b.cells (k*5+1) (by omega);obtain⟨v2,e2⟩:=b.cells (k*5+2) (by omega);obtain⟨v3,e3⟩:=b.cells (k*5+3) (by omega);obtain⟨v4,e4⟩:=b.cells (k*5+4) (by omega);have ap:=b.fr;have aq:=b.ne;have ab:¬wr.heap.size=G:=(by omega);have bd:P<wr.heap.size:=ah
     have C:=X (λ(a:N)(h:Below (wr.heap.size+1) (wr.alloc (.cells #[Y c.v,Y c.f,.slice g c.e.length l] 43)) a)=>(show a.cell? ⟨P,4,none⟩=some (.slice (some ⟨G,0,none⟩) t.e.length t.e.length)/\a.cell? ⟨wr.heap.size,0,none⟩=some (Y c.v)/\a.cell? ⟨wr.heap.size,1,none⟩=some (Y c.f)/\a.cell? ⟨wr.heap.size,2,none⟩=some (.slice g c.e.length l) from
      ⟨by rw[h.cell (show P<wr.heap.size+1 by omega),kW ah];exact p4,by rw[h.cell (show wr.heap.size<wr.heap.size+1 by omega)];exact jJ 0 rfl,
       by rw[h.cell (show wr.heap.size<wr.heap.size+1 by omega)];exact jJ 1 rfl,by rw[h.cell (show wr.heap.size<wr.heap.size+1 by omega)];exact jJ 2 rfl⟩))
     have ar:=X (λ(a:N)(h:Below (wr.heap.size+1) (wr.alloc (.cells #[Y c.v,Y c.f,.slice g c.e.length l] 43)) a)(H I J K L:Zv)=>(show(pE a G (k*5) H I J K L).cell? ⟨P,4,none⟩=some (.slice (some ⟨G,0,none⟩) t.e.length t.e.length)/\(pE a G (k*5) H I J K L).cell? ⟨wr.heap.size,0,none⟩=some (Y c.v)/\(pE a G (k*5) H I J K L).cell? ⟨wr.heap.size,1,none⟩=some (Y c.f)/\(pE a G (k*5) H I J K L).cell? ⟨wr.heap.size,2,none⟩=some (.slice g c.e.length l) from
      ⟨(kH (w:=a) (a:=⟨P,4,none⟩) (iO aq)).trans (C a h).1,(kH (w:=a) (a:=⟨wr.heap.size,0,none⟩) (iO ab)).trans (C a h).2.1,
       (kH (w:=a) (a:=⟨wr.heap.size,1,none⟩) (iO ab)).trans (C a h).2.2.1,(kH (w:=a) (a:=⟨wr.heap.size,2,none⟩) (iO ab)).trans (C a h).2.2.2⟩))
     have ai:=X ag;have be:(k:Int)<t.e.length:=(by omega);have bf:(0:Int)<=k:=(by omega);have au:q+c.E<=10000:=(by have:=W.out;omega);have HB:=X Z;clear B b ag p0 p1 p2 p3 Z
     go_wp2_with fail
     go_region_held3 (λa=>a.cell? ⟨P,4,none⟩=some (.slice (some ⟨G,0,none⟩) t.e.length t.e.length)/\a.cell? ⟨wr.heap.size,0,none⟩=some (Y c.v)/\a.cell? ⟨wr.heap.size,1,none⟩=some (Y c.f)/\a.cell? ⟨wr.heap.size,2,none⟩=some (.slice g c.e.length l)) ((first|(refine C _ ?_;(go_grown<;>exact zZ ‹Hid (Below _ _ _)›);done)|with_reducible exact ar.out _ (zZ m) _ _ _ _ _|go_keep)) ((
      go_at_call 225
      refine(aj c q g l _ (by omega) (by omega) au ?_ ?_).mono ?_
      .exact λk' av=>by have h1:=F k' av;have h2:=HB.size;simp;omega
      .exact Ef (w:=wr.alloc _) rfl (jS _ ai)
      rintro ad i ⟨z,A,rfl,aw,ax,ay⟩;have ac:Zb (wr.alloc (.cells #[Y c.v,Y c.f,.slice g c.e.length l] 43)) i:=dN ay;have m:Hid (Below (wr.heap.size+1) (wr.alloc (.cells #[Y c.v,Y c.f,.slice g c.e.length l] 43)) i):=ac.mono (by simp);have az:=m.size;simp at az;have q0:∃v,i.cell? ⟨G,k*5,none⟩=some v:=⟨v0,by rw[m.out.cell (show G<wr.heap.size+1 by omega),kW s];exact e0⟩;have q1:∃v,i.cell? ⟨G,k*5+1,none⟩=some v:=⟨v1,by rw[m.out.cell (show G<wr.heap.size+1 by omega),kW s];exact e1⟩;have q2:∃v,i.cell? ⟨G,k*5+2,none⟩=some v:=⟨v2,by rw[m.out.cell (show G<wr.heap.size+1 by omega),kW s];exact e2⟩;have q3:∃v,i.cell? ⟨G,k*5+3,none⟩=some v:=⟨v3,by rw[m.out.cell (show G<wr.heap.size+1 by omega),kW s];exact e3⟩;have q4:∃v,i.cell? ⟨G,k*5+4,none⟩=some v:=⟨v4,by rw[m.out.cell (show G<wr.heap.size+1 by omega),kW s];exact e4⟩;obtain⟨y0,z0⟩:=q0;obtain⟨y1,z1⟩:=q1;obtain⟨y2,z2⟩:=q2;obtain⟨y3,z3⟩:=q3;obtain⟨y4,z4⟩:=q4;have u:∀j,i.frozen? ⟨G,j,none⟩=false:=λj=>by rw[m.out.frozen (p:=⟨G,j,none⟩) (show G<wr.heap.size+1 by omega),gZ (w:=wr) (a:=⟨G,j,none⟩) (zL _ _ _ s)];exact ap j
      have f0:=u (k*5);have f1:=u (k*5+1);have f2:=u (k*5+2);have f3:=u (k*5+3);have f4:=u (k*5+4)
      clear u))
     go_wp2_with fail
     go_roundw
     case rel=>
      have a0:jT r i c.e g:=jI (w:=wr) ((jG _ _).trans (ac.mono (by simp))) ai;have hm:=W.out;subst hm;exact⟨k+1,n+1+T.E.szL (t.e.take k)+c.E,by omega,by go_num,by go_num,by show _=_;rw[an,ao];omega,af.step F Hc ac aw a0 ax⟩
     case measure=>simp[intOf];omega
    have a1:k=t.e.length:=(by omega);subst a1;obtain⟨p0,p1,p2,p3,p4⟩:=b.part;obtain⟨d0,d1,d2,d3,d4⟩:=b.res;have g0:=b.kh 0;have g1:=b.kh 1;have g2:=b.kh 2;have g3:=b.kh 3;have g4:=b.kh 4;clear b
    go_wp2_with fail
    have M:=af.out;have bg:=M.res.lt
    obtain⟨z0,z1,z2,z3,z4⟩:=CI (w:=wr) (k:=w.heap.size+1) (n:=0) (f:=Y t.v) (g:=Y t.f) (l:=.slice d t.e.length e) (m:=Y (n:Int)) (o:=.slice (some ⟨G,0,none⟩) t.e.length t.e.length) (λj _ hj=>by
     have:j=0\/j=1\/j=2\/j=3\/j=4:=by omega
     rcases this with rfl|rfl|rfl|rfl|rfl
     .exact⟨_,d0⟩
     .exact⟨_,d1⟩
     .exact⟨_,d2⟩
     .exact⟨_,d3⟩
     exact⟨_,d4⟩)
    simp only[pE,kK] at z0 z1 z2 z3 z4;have a2:q=n+t.E:=(by have h9:=W.out;rw[qU] at h9;omega);have hG:=M.hG;have a3:PL (λk=>w.heap.size<=k) r (pE wr (w.heap.size+1) 0 (Y t.v) (Y t.f) (.slice d t.e.length e) (Y (n:Int)) (.slice (some ⟨G,0,none⟩) t.e.length t.e.length)) t.e (n+1) (some ⟨G,0,none⟩):=
     IG (p:=λk=>w.heap.size<=k) (show w.heap.size<=G by omega) (λo a4 hx=>by
      have hi:o<t.e.length:=by
       rcases xW o t.e.length with x|x
       .exact x
       rw[yZ x] at hx;cases hx
      obtain⟨ta,tc,z,A,h5,a5,a6,a7⟩:=M.row o a4 hi hx;have E:=h5.same (iO (w:=wr) (k:=w.heap.size+1) (n:=0) (a:=Y t.v) (b:=Y t.f) (c:=.slice d t.e.length e) (d:=Y (n:Int)) (e:=.slice (some ⟨G,0,none⟩) t.e.length t.e.length) (m:=G) (by omega));rw[kK]
      exact⟨ta,tc,z,A,E.1,E.2.1,E.2.2.1,E.2.2.2.1,E.2.2.2.2,a5,xN (λf y _=>iO (by have:=F f y;omega)) a6,
       Sz (λf y=>by omega) (λf y=>y) (Ew (λf y _=>iO (y.elim (λx=>by omega) (λx=>by have:=F f x;omega))) a7)⟩)
    exact qS (v:=.tuple #[.agg #[Y t.v,Y t.f,.slice d t.e.length e,Y (n:Int),.slice (some ⟨G,0,none⟩) t.e.length t.e.length],Y (q:Int)]) (by simp[results,Tryz.results225,go_sem,z0,z1,z2,z3,z4]) rfl
     ⟨some ⟨G,0,none⟩,t.e.length,by rw[a2],jF _,a3,Uj (n:=w.heap.size+1) (m:=0) M.below (by omega) _ _ _ _ _⟩
def jP{v:Zv}(a:Zb w u)(h:w.cell? (D k n)=some v):u.cell? (D k n)=some v:=by
 rw[a.cell (kA h)];exact h
structure Pt where
 v:Int
 f:Int
 e:List Nat
 Q:Nat
 size:Int
def nS(q:Zp)(w:N)(a:List Nat)(d:Zo):Prop:=
 a.length<=100000/\(a=[]\/∃b c,d=some (D b c)/\q b/\∀i,i<a.length->w.cell? (D b (c+i))=some (Y (a.getD i 0:Nat)))
def Rn(q:Zp)(w:N)(b o:Nat)(p:Pt):Prop:=
 ∃c d e a f,w.cell? (D b o)=some (Y p.v)/\w.cell? (D b (o+1))=some (Y p.f)/\w.cell? (D b (o+2))=some (.slice c d e)/\w.cell? (D b (o+3))=some (.slice a p.e.length f)/\
  w.cell? (D b (o+4))=some (Y (p.Q:Int))/\w.cell? (D b (o+5))=some (Y p.size)/\nS q w p.e a
structure yN (q:Zp) (w:N) (u b c:Nat) (P:List Pt):Prop where
 h:w.cell? (D u 0)=some (Zx b P.length c)
 jn:∀k p,P[k]? =some p->Rn q w b (k*6) p
 qu:∀k,q k->k≠u/\k≠b
 ub:u≠b
 len:P.length<=100000
 ku:∀k,w.frozen? (D b k)=false
 ki:∀k,w.frozen? (D u k)=false
 qa:b<w.heap.size
def yB(P:List Pt):Nat->Nat->Option Nat
 |0,_=>none
 |n+1,k=>match P[k]? with
  |none=>none
  |some p=>if p.Q=k then some k else yB P n p.Q
def oX(P:List Pt):Nat->Nat->Nat
 |0,_=>0
 |n+1,k=>match P[k]? with
  |none=>0
  |some p=>if p.Q=k then 0 else oX P n p.Q+1
def nV{P:List Pt}{p:Pt}(h:P[n]? =some p):yB P (k+1) n=if p.Q=n then some n else yB P k p.Q:=by rw[yB,h]
def Qu{P:List Pt}{p:Pt}(h:P[n]? =some p):oX P (k+1) n=if p.Q=n then 0 else oX P k p.Q+1:=by rw[oX,h]
def uB{P:List Pt}(h:yB P k n=some m):∃a p,k=a+1/\P[n]? =some p:=by
 cases k with
 |zero=>cases h
 |succ k=>
  cases b:P[n]? with
  |none=>rw[yB,b] at h;cases h
  |some p=>exact⟨k,p,rfl,rfl⟩
def DA{P:List Pt}:∀{n m a:Nat},yB P n a=some k->n<=m->oX P m a=oX P n a:=by
 intro n;induction n with
 |zero=>intro m a h;cases h
 |succ n c=>
  intro m a h f;obtain⟨_,p,_,b⟩:=uB h;obtain⟨m,rfl⟩:∃d,m=d+1:=⟨m - 1,by omega⟩;rw[Qu b,Qu b];rw[nV b] at h;by_cases e:p.Q=a
  .rw[jB e,jB e]
  rw[jC e,jC e];rw[jC e] at h;rw[c h (by omega)]
def Kn{P:List Pt}:∀{n k r:Nat},yB P n k=some r->r<P.length:=by
 intro n;induction n with
 |zero=>intro k r h;cases h
 |succ n b=>
  intro k r h;obtain⟨_,p,_,a⟩:=uB h;rw[nV a] at h;by_cases e:p.Q=k
  .rw[jB e] at h
   cases h
   exact(Zl a)
  rw[jC e] at h;exact b h
def Fs(q:Zp)(w:N)(u f g:Nat)(P:List Pt)(a k r:Nat)(b:yN q w u f g P)(c:yB P a k=some r):
 Calls Zf 214 #[Zr u,Y (k:Int)] w λe h=>e=.returned (Y (r:Int))/\h=w:=by
 have t:=b.len;have v:=b.h;have j:=X b.jn;have l:=X c;clear b c
 go_in
 go_wp2_with fail
 go_loop [1] (λi=>∃(k:Nat)(n:Nat),i=Y (k:Int)/\n<=a/\Hid (yB P n k=some r)) (λi=>oX P a (intOf i).toNat)
 case atStart=>exact⟨k,a,rfl,jF _,l⟩
 case round=>
  obtain⟨k,n,rfl,i,HS⟩:=hrel;obtain⟨m,p,rfl,b⟩:=uB HS;have x:=(Zl b);obtain⟨_,_,_,_,_,_,_,_,_,y,_,_⟩:=j k p b;have z:(k:Int)<P.length:=by omega
  have A:(0:Int)<=k:=by omega
  have c:=X b;clear b;by_cases e:p.Q=k
  .have n:((p.Q:Int) !=(k:Int))=false:=by simp[e]
   have o:Hid (k=r):=by
    have b:=HS.out;rw[nV c.out,jB e] at b;exact kT b
   clear e;go_wp2;go_ret;have s:=o.out;subst s;exact⟨rfl,rfl⟩
  have n:((p.Q:Int) !=(k:Int))=true:=by simp;omega
  have b:Hid (yB P m p.Q=some r):=by
   have d:=HS.out;rw[nV c.out,jC e] at d;exact d
  have d:Hid (oX P a p.Q<oX P a k):=by
   show _<_;rw[DA HS.out i,Qu c.out,jC e,DA b.out (show m<=a by omega)];omega
  clear e
  go_wp2_with fail
  go_round
  case rel=>exact⟨p.Q,m,rfl,by omega,b⟩
  case measure=>simpa[intOf] using d.out
structure gQ (b:Nat) (w w':N):Prop where
 os:w'.os=w.os
 tape:w'.tape=w.tape
 output:w'.output=w.output
 size:w'.heap.size=w.heap.size
 block:∀k,k≠b->w'.heap[k]? =w.heap[k]?
def gQ.refl(b:Nat)(w:N):gQ b w w:=⟨rfl,rfl,rfl,rfl,λ_ _=>rfl⟩
def gQ.trans(h:gQ k w u)(a:gQ k u v):gQ k w v:=
 ⟨a.os.trans h.os,a.tape.trans h.tape,a.output.trans h.output,a.size.trans h.size,λb c=>(a.block b c).trans (h.block b c)⟩
def gQ.below(h:gQ k w u)(b:n<=k):Below n w u:=⟨h.os,h.tape,h.output,by rw[h.size];exact jF _,λa c=>h.block a (by omega)⟩
def gQ.set(h:gQ k w u)(o:Nat)(v:Zv):gQ k w (u.setCell (D k o) v):=
 h.trans ⟨rfl,rfl,rfl,by simp[World.setCell],λa a=>vL _ _ _ _ a⟩
def gQ.cell(h:gQ k w u)(b:n≠k):u.cell? (D n m)=w.cell? (D n m):=kH (w:=w) (a:=(D n m)) (h.block n b)
def Bv(h:gQ k w u)(g:∀c,p c->c≠k){d:List Nat}(b:nS p w d a):nS p u d a:=by
 obtain⟨e,b⟩:=b;rcases b with i|⟨x,j,l,f,m⟩
 .exact⟨e,jD i⟩
 exact⟨e,jE ⟨x,j,l,f,λn o=>by rw[h.cell (g x f)];exact m n o⟩⟩
def yN.ko{P:List Pt}(h:yN p w k n m P){c:Pt}(q:P[i]? =some c)(s:Int):yN p (w.setCell (D n (i*6+5)) (Y s)) k n m (P.set i {c with size:=s}):=by
 have a:=(gQ.refl n w).set (i*6+5) (Y s);have r:=λx b=>(h.qu x b).2;refine⟨by rw[a.cell h.ub,lF];exact h.h,λj v b=>?_,h.qu,h.ub,by rw[lF];exact h.len,λj=>by rw[dC];exact h.ku j,λj=>by rw[dC];exact h.ki j,by rw[a.size];exact h.qa⟩;by_cases t:j=i
 .subst t
  have x:=(Zl q);rw[pO x] at b
  cases b
  obtain⟨d,e,f,g,l,y,z,A,B,C,u,o⟩:=h.jn j c q;refine⟨d,e,f,g,l,?_,?_,?_,?_,?_,pS _ _ _ u,Bv a r o⟩
  all_goals (rw[yE _ _ _ _ (by simp)];assumption)
 rw[gY (λE=>t E.symm)] at b;obtain⟨d,e,f,g,l,y,z,A,B,C,u,o⟩:=h.jn j v b;refine⟨d,e,f,g,l,?_,?_,?_,?_,?_,?_,Bv a r o⟩
 all_goals (rw[yE _ _ _ _ (by simp<;>omega)];assumption)
def yN.kn{P:List Pt}(h:yN p w k n m P){c:Pt}(q:P[i]? =some c)(s:Nat):yN p (w.setCell (D n (i*6+4)) (Y (s:Int))) k n m (P.set i {c with Q:=s}):=by
 have a:=(gQ.refl n w).set (i*6+4) (Y (s:Int));have r:=λx b=>(h.qu x b).2;refine⟨by rw[a.cell h.ub,lF];exact h.h,λj v b=>?_,h.qu,h.ub,by rw[lF];exact h.len,λj=>by rw[dC];exact h.ku j,λj=>by rw[dC];exact h.ki j,by rw[a.size];exact h.qa⟩;by_cases t:j=i
 .subst t
  have x:=(Zl q);rw[pO x] at b
  cases b
  obtain⟨d,e,f,g,l,y,z,A,B,u,C,o⟩:=h.jn j c q;refine⟨d,e,f,g,l,?_,?_,?_,?_,pS _ _ _ u,?_,Bv a r o⟩
  all_goals (rw[yE _ _ _ _ (by simp)];assumption)
 rw[gY (λE=>t E.symm)] at b;obtain⟨d,e,f,g,l,y,z,A,B,u,C,o⟩:=h.jn j v b;refine⟨d,e,f,g,l,?_,?_,?_,?_,?_,?_,Bv a r o⟩
 all_goals (rw[yE _ _ _ _ (by simp<;>omega)];assumption)
def nY(a:List Pt->Nat->Option (Int×List Pt))(h:Nat):List Nat->Int->List Pt->Option (Int×List Pt)
 |[],s,P=>match P[h]? with
  |none=>none
  |some p=>some (s,P.set h {p with size:=s})
 |b::l,s,P=>match a P b with
  |none=>none
  |some x=>if x.1= -1 then some (-1,x.2) else if 0<=x.1/\x.1<=121 then nY a h l (min (s+x.1) 121) x.2 else none
def nX:Nat->List Pt->Nat->Option (Int×List Pt)
 |0,_,_=>none
 |n+1,P,k=>match yB P (P.length+1) k with
  |none=>none
  |some h=>match P[h]? with
   |none=>none
   |some p=>if p.size=0 then nY (nX n) h p.e 1 (P.set h {p with size:= -1}) else some (p.size,P)
def Ym{P:List Pt}{x:Int×List Pt}(a:nX k P n=some x):∃m h p,k=m+1/\yB P (P.length+1) n=some h/\P[h]? =some p/\(if p.size=0 then nY (nX m) h p.e 1 (P.set h {p with size:= -1}) else some (p.size,P))=some x:=by
 cases k with
 |zero=>cases a
 |succ k=>
  rw[nX] at a;split at a
  .cases a
  rename_i h b;split at a
  .cases a
  rename_i p c;exact⟨k,h,p,rfl,b,c,a⟩
def WH{b:List Pt->Nat->Option (Int×List Pt)}{P:List Pt}{x:Int×List Pt}(a:nY b k [] z P=some x):∃p,P[k]? =some p/\x=(z,P.set k {p with size:=z}):=by
 rw[nY] at a;split at a
 .cases a
 rename_i p c;exact⟨p,c,(kT a).symm⟩
def WF{b:List Pt->Nat->Option (Int×List Pt)}{l:List Nat}{P:List Pt}{x:Int×List Pt}(a:nY b k (n::l) z P=some x):∃y,b P n=some y/\(if y.1= -1 then some (-1,y.2) else if 0<=y.1/\y.1<=121 then nY b k l (min (z+y.1) 121) y.2 else none)=some x:=by
 rw[nY] at a;split at a
 .cases a
 rename_i y c;exact⟨y,c,a⟩
def Iw{b:List Nat}(h:nS p w b a)(d:0<b.length):∃c e,a=some (D c e)/\p c/\∀i,i<b.length->w.cell? (D c (e+i))=some (Y (b.getD i 0:Nat)):=by
 rcases h.2 with h|h
 .rw[h] at d;simp at d
 exact h
def WJ(q:Zp)(u b l:Nat)(m:Nat):∀(P:List Pt)(k:Nat)(x:Int×List Pt)(w:N),yN q w u b l P->nX m P k=some x->
 Calls Zf 207 #[Zr u,Y (k:Int)] w λs t=>s=.returned (Y x.1)/\yN q t u b l x.2/\gQ b w t:=by
 induction m with
 |zero=>intro P k x w _ h;cases h
 |succ m f=>
  intro P k x w a g;obtain⟨I,h,p,v,j,d,i⟩:=Ym g;obtain rfl:m=I:=by omega
  have o:=X (Fs q w u b l P _ k h a j);have W:=(Zl d);obtain⟨Z,tl,tc,aa,ac,B,C,E,G,H,J,e⟩:=a.jn h p d;have ab:=a.len;have K:=a.h;have L:=X a.ku;have M:=a.ku (h*6+5);have ad:=a.ub;have ae:(h:Int)<P.length:=by omega
  have af:(0:Int)<=h:=by omega
  have n:=X a;have r:=X d;have c:=X i;have ag:=e.1;have y:=X e;have O:=X f;clear a d i e f g j v
  go_in
  go_wp2_with fail
  refine o.mono ?_;rintro s t ⟨rfl,a⟩;obtain rfl:=a.symm;clear a o;by_cases g:p.size=0
  .have e:=c.out
   rw[jB g] at e;have F:(p.size !=0)=false:=(by simpa using g);have v:=X e;clear g e c
   go_wp2_with fail
   obtain⟨z,a⟩:=Ze (w.setCell (D b (h*6+5)) (Y (-1)));have R:Hid (yN q z u b l (P.set h {p with size:= -1})):=(by rw[a];exact n.ko r (-1));have A:Hid (gQ b w z):=(by rw[a];exact(gQ.refl b w).set _ _);have U:=X (Bv A (λk f=>(n.qu k f).2) y);have V:=X n.qu;rw[<-a];clear a n r y B C E G H J K M L F
   go_loopw [6,46] (λd a wr=>∃(j:Nat)(S:Int)(Q:List Pt),j<=p.e.length/\a=Y (j:Int)/\d=Y S/\0<=S/\S<=121/\Hid (nY (nX m) h (p.e.drop j) S Q=some x)/\Hid (yN q wr u b l Q)/\Hid (gQ b z wr)) (λ_ a _=>p.e.length - (intOf a).toNat)
   case atStart=>exact⟨0,1,_,jY _,rfl,rfl,by omega,by omega,v,R,gQ.refl _ _⟩
   case round=>
    obtain⟨j,S,Q,L,rfl,rfl,M,ah,r,d,o⟩:=hrel;by_cases B:j<p.e.length
    .obtain⟨nb,ai,rfl,aj,a⟩:=Iw (Bv o (λk f=>(V k f).2) U) (show 0<p.e.length by omega)
     have cj:=a j B;have hd:p.e.drop j=p.e.getD j 0::p.e.drop (j+1):=by
      rw[pN B];simp[List.getD,jO B]
     have f:=r.out;rw[hd] at f;obtain⟨y,C,i⟩:=WF f;have E:=X (O Q (p.e.getD j 0) y wr d C);have c:=X i;generalize p.e.getD j 0=ak at*;have al:(j:Int)<p.e.length:=(by omega);have am:(0:Int)<=j:=(by omega);clear f hd i C r a
     go_wp2_with fail
     refine E.mono ?_;rintro s w2 ⟨rfl,a,i⟩;have G:=X a;have H:=X (o.trans i);clear a i E d o;by_cases i:y.1= -1
     .have J:(y.1== -1)=true:=by simpa using i
      have a:=c.out;rw[jB i] at a;have C:=X (kT a);clear i c a;go_wp2;go_ret;rw[<-C.out];exact⟨rfl,G,A.trans H⟩
     have J:(y.1== -1)=false:=(by simpa using i);have a:=c.out;rw[jC i] at a;by_cases E:0<=y.1/\y.1<=121
     .rw[jB E] at a
      have C:=X a;obtain⟨K,an⟩:=E;clear i c a
      go_wp2_with fail
      go_roundw
      case rel=>exact⟨j+1,min (S+y.1) 121,y.2,by omega,by go_num,by go_num,by omega,by omega,C,G,H⟩
      case measure=>simp[intOf];omega
     rw[jC E] at a;cases a
    have C:j=p.e.length:=(by omega);subst C;have f:=r.out;rw[dX] at f;obtain⟨j,a,i⟩:=WH f;have an:=(Zl a);obtain⟨ao,ap,aq,ar,au,av,aw,ax,ay,az,a0,_⟩:=d.jn h j a;have a1:=d.len;have a2:=d.h;have a3:=d.ku (h*6+5);have a4:(h:Int)<Q.length:=(by omega);have E:=X (d.ko a S);have J:=X (A.trans (o.set (h*6+5) (Y S)));have K:=X i;clear f r a i d o;go_wp2;go_ret;rw[K.out];exact⟨rfl,E,J⟩
  have e:=c.out;rw[jC g] at e;have F:(p.size !=0)=true:=by simpa using g
  have v:=X (kT e);clear g e c;go_wp2;go_ret;rw[<-v.out];exact⟨rfl,n,gQ.refl _ _⟩
def jA6:∀(n:Nat),(∀t u:T,t.E<=n->kS t u=true->t=u)/\(∀c a:Zt,T.E.szL c<=n->kS.sameL c a=true->c=a):=by
 intro n;induction n with
 |zero=>
  refine⟨λt u h=>by have:=t.I;omega,λc a h b=>?_⟩
  cases c with
  |nil=>
   cases a with
   |nil=>rfl
   |cons u a=>rw[Ll (by simp)] at b;cases b
  |cons t c=>have:=t.I;rw[T.F] at h;omega
 |succ n e=>
  have d:∀t u:T,t.E<=n+1->kS t u=true->t=u:=λt u h b=>by
   have f:=T.M t;rw[An] at b;simp only[yY,beq_iff_eq] at b;have:=e.2 t.e u.e (by omega) b.2
   cases t;cases u
   simp_all
  refine⟨d,λc=>?_⟩;induction c with
  |nil=>
   intro a _ b
   cases a with
   |nil=>rfl
   |cons u a=>rw[Ll (by simp)] at b;cases b
  |cons t c f=>
   intro a h b;rw[T.F] at h
   cases a with
   |nil=>rw[Ll (by simp)] at b;cases b
   |cons u a=>
    rw[uE,yY] at b;rw[d t u (by omega) b.1,f a (by omega) b.2]
def nI:kS t s=true↔t=s:=⟨(jA6 t.E).1 t s (jF _),λh=>by rw[h];exact Qj s⟩
def jA8:kS t s=false↔t≠s:=by
 constructor
 .intro h e;rw[nI.2 e] at h;cases h
 intro h;rcases Dz (kS t s) with a|a
 .exact jN (nI.1 a) h
 exact a
def aT(i:jQ r t)(j:jQ r s):gt t s=true↔
 (t.v=0/\∃a,a∈t.e/\(gt a s=true\/a=s))\/(t.v=0/\s.v=0/\s.f<=t.f/\(∀g,g∈s.e->gt t g=true)/\(s.f<t.f\/(t.f=s.f/\nF gt t.e s.e=true))):=by
 rw[SD i j,Qf];simp only[Gx,yY,decide_eq_true_eq,mW,uS,nI];constructor
 .rintro (h|⟨⟨⟨⟨b,c⟩,d⟩,e⟩,f⟩)
  .exact jD h
  exact jE ⟨b,c,d,e,f⟩
 rintro (h|⟨b,c,d,e,f⟩)
 .exact jD h
 exact jE ⟨⟨⟨⟨b,c⟩,d⟩,e⟩,f⟩
def Ac{n:T->T->Bool}:∀{d c:Zt},nF n d c=true↔∃(k:Nat)(a b:T),d[k]? =some a/\c[k]? =some b/\a≠b/\n a b=true/\(∀i,i<k->d[i]? =c[i]?):=by
 intro d;induction d with
 |nil=>
  intro c;constructor
  .intro h;simp[nF] at h
  rintro⟨k,a,b,h,_⟩;simp at h
 |cons x d o=>
  intro c
  cases c with
  |nil=>
   constructor
   .intro h;simp[nF] at h
   rintro⟨k,a,b,_,h,_⟩;simp at h
  |cons y c=>
   rw[nF];by_cases h:kS x y=true
   .rw[jB h,o]
    have j:=nI.1 h;subst j;constructor
    .rintro⟨k,a,b,e,f,g,l,m⟩
     refine⟨k+1,a,b,by simpa using e,by simpa using f,g,l,λi p=>?_⟩
     cases i with
     |zero=>rfl
     |succ i=>simpa using m i (by omega)
    rintro⟨k,a,b,e,f,g,l,m⟩
    cases k with
    |zero=>
     simp at e f;exact jN (e.symm.trans f) g
    |succ k=>
     refine⟨k,a,b,by simpa using e,by simpa using f,g,l,λi p=>?_⟩;have:=m (i+1) (by omega);simpa using this
   rw[jC h];have e:=λj=>h (nI.2 j);constructor
   .intro l
    exact⟨0,x,y,rfl,rfl,e,l,λi f=>by omega⟩
   rintro⟨k,a,b,f,g,q,m,p⟩
   cases k with
   |zero=>
    simp at f g;subst f;subst g;exact m
   |succ k=>
    have:=p 0 (by omega);simp at this;exact jN this e
def xF(a:jQ r t)(b:s∈t.e):jQ r s:=nH.1 (vW.1 a).2 s b
def jEu(b:jQ r t)(a:s∈t.e):t.v=0:=by
 by_cases h:t.v=0
 .exact h
 rw[(lZ b h).2] at a;cases a
def oN(a:jQ r t)(b:s∈t.e):gt t s=true:=
 (aT a (xF a b)).2 (jD ⟨jEu a b,s,b,jE rfl⟩)
def SF:∀(n:Nat)(s t u:T),s.E+t.E+u.E<=n->jQ r s->jQ r t->jQ r u->gt s t=true->gt t u=true->gt s u=true:=by
 intro n;induction n with
 |zero=>intro s t u P;have:=s.I;omega
 |succ n j=>
  intro s t u hn d e g J A;rcases(aT d e).1 J with⟨B,a,C,E⟩|⟨B,ag,hf,K,Q⟩
  .have ah:=xJ C
   refine(aT d g).2 (jD ⟨B,a,C,?_⟩);rcases E with E|rfl
   .exact jD (j a t u (by omega) (xF d C) e g E A)
   exact jD A
  rcases(aT e g).1 A with⟨_,b,p,F⟩|⟨_,R,ai,S,U⟩
  .have aj:=xJ p
   rcases F with F|rfl
   .exact j s b u (by omega) d (xF e p) g (K b p) F
   exact K _ p
  have V:∀f,f∈u.e->gt s f=true:=λf c=>by
   have h:=xJ c;exact j s t f (by omega) d e (xF g c) J (S f c)
  refine(aT d g).2 (jE ⟨B,R,by omega,V,?_⟩);rcases Q with W|⟨W,Z⟩
  .exact jD (by omega)
  rcases U with aa|⟨aa,ab⟩
  .exact jD (by omega)
  refine jE ⟨by omega,?_⟩;obtain⟨q,a,b,q1,q2,q3,G,v⟩:=Ac.1 Z;obtain⟨H,b2,f,r1,r2,r3,I,w⟩:=Ac.1 ab;have y:=jU q1;have m:=jU q2;have ac:=jU r1;have L:=jU r2;have za:=xJ y;have zb:=xJ m;have ak:=xJ ac;have zc:=xJ L;refine Ac.2 ?_;rcases Nat.lt_trichotomy q H with o|o|o
  .have k:=w q o
   refine⟨q,a,b,q1,k.symm.trans q2,q3,G,λi l=>(v i l).trans (w i (by omega))⟩
  .subst o
   rw[q2] at r1;simp only[qW] at r1;subst r1;have M:=j a b f (by omega) (xF d y) (xF e m) (xF g L) G I;refine⟨q,a,f,q1,r2,?_,M,λi l=>(v i l).trans (w i l)⟩;intro k;subst k;have O:∀(c:Nat)(x:T),x.E<=c->3*x.E<=n+2->jQ r x->gt x x=true->False:=by
    intro c;induction c with
    |zero=>intro x P;have:=x.I;omega
    |succ c ad=>
     intro x al am h ae;rcases(aT h h).1 ae with⟨an,z,hd,c⟩|⟨_,_,_,_,c⟩
     .have af:=xJ hd
      rcases c with c|c
      .exact ad z (by omega) (by omega) (xF h hd) (j z x z (by omega) (xF h hd) h (xF h hd) c (oN h hd))
      rw[c] at af;omega
     rcases c with c|⟨_,c⟩
     .omega
     obtain⟨_,z,k,w1,x,w3,_⟩:=Ac.1 c;rw[w1] at x;exact w3 (by simpa using x)
   rcases Nat.le_total a.E b.E with c|c
   .exact O a.E a (jF _) (by omega) (xF d y) M
   exact O b.E b (jF _) (by omega) (xF e m) (j b a b (by omega) (xF e m) (xF d y) (xF e m) I G)
  have k:=v H o;exact⟨H,b2,f,k.trans r1,r2,r3,I,λi l=>(v i (by omega)).trans (w i l)⟩
def Cw(a:jQ r t)(b:jQ r s)(c:jQ r t1)(d:gt t s=true)(e:gt s t1=true):gt t t1=true:=SF _ t s t1 (jF _) a b c d e
def SC:∀(m:Nat)(x:T),x.E<=m->jQ r x->gt x x=true->False:=by
 intro m;induction m with
 |zero=>intro x j;have:=x.I;omega
 |succ m e=>
  intro x k b f;rcases(aT b b).1 f with⟨l,d,hd,a⟩|⟨_,_,_,_,a⟩
  .have g:=xJ hd
   rcases a with a|a
   .exact e d (by omega) (xF b hd) (Cw (xF b hd) b (xF b hd) a (oN b hd))
   rw[a] at g;omega
  rcases a with a|⟨_,a⟩
  .omega
  obtain⟨_,d,n,h,c,i,_⟩:=Ac.1 a;rw[h] at c;exact i (by simpa using c)
def Kj(a:jQ r t):gt t t=false:=by
 rcases Dz (gt t t) with h|h
 .exact(SC _ t (jF _) a h).elim
 exact h
def RZ(a:jQ r t)(c:jQ r s)(h:gt t s=true):gt s t=false:=by
 rcases Dz (gt s t) with b|b
 .have:=Cw a c a h b
  rw[Kj a] at this;cases this
 exact b
def kC:Zs->Int->Option T
 |[],_=>none
 |(w,u)::a,v=>if w=v then some u else kC a v
def bM(a:Zs)(v:Int):Option T:=if 0<v then kC a v else none
def qF(a:Zs):T->T
 |⟨v,f,b⟩=>match bM a v with
  |some u=>u
  |none=>⟨v,f,applyL b⟩
 where
 applyL:Zt->Zt
  |[]=>[]
  |t::c=>qF a t::applyL c
def Uc(a:Zs)(t:T):qF a t=match bM a t.v with
 |some u=>u
 |none=>⟨t.v,t.f,qF.applyL a t.e⟩:=by cases t;rfl
def KG(b:Zs)(a:Zt):qF.applyL b a=a.map (qF b):=by
 induction a with
 |nil=>rfl
 |cons t a c=>rw[qF.applyL,c];rfl
def Ch(h:bM b t.v=some s):qF b t=s:=by rw[Uc,h]
def wQ(h:bM b t.v=none):qF b t=⟨t.v,t.f,t.e.map (qF b)⟩:=by rw[Uc,h,KG]
def ZF(h:z=0):bM b z=none:=by rw[bM,jC (by omega)]
def Nv(h:t.v=0):qF b t=⟨0,t.f,t.e.map (qF b)⟩:=by rw[wQ (ZF h),h]
def tX(h:kC b z=some t):(z,t)∈b:=by
 induction b with
 |nil=>cases h
 |cons a b c=>
  obtain⟨w,x⟩:=a;rw[kC] at h;by_cases e:w=z
  .rw[jB e] at h
   simp only[qW] at h;rw[e,h];exact vX
  rw[jC e] at h;exact vG _ (c h)
def BI(h:bM b z=some t):(z,t)∈b/\0<z:=by
 rw[bM] at h;by_cases a:0<z
 .rw[jB a] at h;exact⟨tX h,a⟩
 rw[jC a] at h;cases h
def XP(d:∀v u,(v,u)∈b->jQ r u):∀(n:Nat)(t:T),t.E<=n->jQ r t->jQ r (qF b t):=by
 intro n;induction n with
 |zero=>intro t h;have:=t.I;omega
 |succ n e=>
  intro t i a
  cases h:bM b t.v with
  |some u=>rw[Ch h];exact d _ _ (BI h).1
  |none=>
   rw[wQ h];refine vW.2 ⟨?_,nH.2 λc f=>?_⟩
   .have:=(vW.1 a).1
    simpa using this
   obtain⟨g,c,rfl⟩:=bP.1 f;have:=xJ c;exact e g (by omega) (xF a c)
def XO(a:∀v u,(v,u)∈b->jQ r u)(c:jQ r t):jQ r (qF b t):=XP a _ t (jF _) c
def kG:T->T->Zs->Option Zs
 |⟨pv,b,c⟩,t,a=>
  if pv≠0 then(match kC a pv with
   |some u=>if kS u t then some a else none
   |none=>some (a++[(pv,t)]))
  else if t.v≠0\/b≠t.f then none else growL c t.e a
 where
 growL:Zt->Zt->Zs->Option Zs
  |[],[],a=>some a
  |p::d,t::e,a=>match kG p t a with
   |some f=>growL d e f
   |none=>none
  |_,_,_=>none
def nG(p t:T)(a:Zs):kG p t a=if p.v≠0 then(match kC a p.v with
 |some u=>if kS u t then some a else none
 |none=>some (a++[(p.v,t)]))
 else if t.v≠0\/p.f≠t.f then none else kG.growL p.e t.e a:=by cases p;rfl
theorem aS(p t:T)(a b:Zt)(c:Zs):kG.growL (p::a) (t::b) c=match kG p t c with
 |some d=>kG.growL a b d
 |none=>none:=rfl
def Wp:∀{b a:Zt}{c:Zs},b.length≠a.length->kG.growL b a c=none:=by
 intro b;induction b with
 |nil=>
  intro a c h
  cases a with
  |nil=>simp at h
  |cons t a=>rfl
 |cons p b d=>
  intro a c h
  cases a with
  |nil=>rfl
  |cons t a=>
   rw[aS]
   cases kG p t c with
   |none=>rfl
   |some e=>exact d (by simpa using h)
def Wo:∀{b a d e:Zt}{c:Zs},b.length=a.length->kG.growL (b++d) (a++e) c=match kG.growL b a c with
 |some f=>kG.growL d e f
 |none=>none:=by
 intro b;induction b with
 |nil=>
  intro a d e c h
  cases a with
  |nil=>rfl
  |cons t a=>simp at h
 |cons p b g=>
  intro a d e c h
  cases a with
  |nil=>simp at h
  |cons t a=>
   rw[dW,dW,aS,aS]
   cases kG p t c with
   |none=>rfl
   |some f=>exact g (by simpa using h)
def Wq(f:l.length=l1.length)(a:l[k]? =some t)(c:l1[k]? =some s)(h:kG.growL (l.take k) (l1.take k) b=some b1):
 (∀d,kG t s b1=some d->kG.growL (l.take (k+1)) (l1.take (k+1)) b=some d)/\(kG t s b1=none->kG.growL l l1 b=none):=by
 have g:k<l.length:=by
  rcases xW k l.length with e|e
  .exact e
  rw[yZ e] at a;cases a
 constructor
 .intro d e
  rw[vZ,vZ,a,c];show kG.growL (l.take k++[t]) (l1.take k++[s]) b=_;rw[Wo (by simp[f]),h];show kG.growL [t] [s] b1=_;rw[aS,e];rfl
 intro e;have i:l=l.take k++t::l.drop (k+1):=by
  rw[jO g] at a;simp only[qW] at a;rw[<-a,cJ,cL]
 have j:l1=l1.take k++s::l1.drop (k+1):=by
  rw[jO (by omega)] at c;simp only[qW] at c;rw[<-c,cJ,cL]
 rw[i,j,Wo (by simp[f]),h];show kG.growL (t::_) (s::_) b1=none;rw[aS,e]
def Ct:∀(n:Nat),(∀(p t:T)(b c:Zs),p.E<=n->kG p t b=some c->c.length<=b.length+p.E)/\(∀(e d:Zt)(b c:Zs),T.E.szL e<=n->kG.growL e d b=some c->c.length<=b.length+T.E.szL e):=by
 intro n;induction n with
 |zero=>
  refine⟨λp t b c h=>by have:=p.I;omega,λe d b c h a=>?_⟩
  cases e with
  |nil=>
   cases d with
   |nil=>simp[kG.growL] at a;rw[a];simp[T.P]
   |cons t d=>cases a
  |cons p e=>have:=p.I;rw[T.F] at h;omega
 |succ n k=>
  have g:∀(p t:T)(b c:Zs),p.E<=n+1->kG p t b=some c->c.length<=b.length+p.E:=λp t b c h a=>by
   have l:=T.M p;rw[nG] at a;by_cases f:p.v≠0
   .rw[jB f] at a
    cases i:kC b p.v with
    |some u=>
     rw[i] at a;by_cases j:kS u t=true
     .simp only[j,if_true,qW] at a
      rw[<-a];omega
     simp[j] at a
    |none=>
     rw[i] at a;simp only[qW] at a;rw[<-a,qB];simp;omega
   rw[jC f] at a;by_cases j:t.v≠0\/p.f≠t.f
   .rw[jB j] at a;cases a
   rw[jC j] at a;have:=k.2 p.e t.e b c (by omega) a;omega
  refine⟨g,λe=>?_⟩;induction e with
  |nil=>
   intro d b c _ a
   cases d with
   |nil=>simp[kG.growL] at a;rw[a];simp[T.P]
   |cons t d=>cases a
  |cons p e i=>
   intro d b c h a;rw[T.F] at h ⊢
   cases d with
   |nil=>cases a
   |cons t d=>
    rw[aS] at a
    cases f:kG p t b with
    |none=>rw[f] at a;cases a
    |some h=>
     rw[f] at a;have j:=g p t b h (by omega) f;have l:=i d h c (by omega) a;omega
def xV(p:Zp)(w:N):Zs->Zo->Prop
 |[],_=>True
 |x::d,e=>∃b a c f,e=some (D b a)/\p b/\w.cell? (D b a)=some (Y x.1)/\w.cell? (D b (a+1))=some (Y x.2.v)/\w.cell? (D b (a+2))=some (Y x.2.f)/\w.cell? (D b (a+3))=some (.slice c x.2.e.length f)/\jT p w x.2.e c/\xV p w d (some (D b (a+4)))
def Gv(h:xV p w b a)(e:0<b.length):∃c d,a=some (D c d):=by
 cases b with
 |nil=>simp at e
 |cons x b=>obtain⟨c,d,_,_,rfl,_⟩:=h;exact⟨c,d,rfl⟩
def Dy(a:∀b o v,p b->w.cell? (D b o)=some v->p1 b/\u.cell? (D b o)=some v):∀{c:Zs}{e:Zo},xV p w c e->xV p1 u c e:=by
 intro c;induction c with
 |nil=>intro e _;trivial
 |cons x c g=>
  intro e h;obtain⟨b,i,j,k,rfl,d,f,l,m,n,q,r⟩:=h;exact⟨b,i,j,k,rfl,(a _ _ _ d f).1,(a _ _ _ d f).2,(a _ _ _ d l).2,(a _ _ _ d m).2,(a _ _ _ d n).2,nM a _ _ _ (jF _) q,g r⟩
def gW(c:Zb w u)(h:xV p w b a):xV p u b a:=
 Dy (λ_ _ _ d e=>⟨d,jP c e⟩) h
def tN(c:∀k,p k->p1 k)(h:xV p w b a):xV p1 w b a:=
 Dy (λ_ _ _ d e=>⟨c _ d,e⟩) h
def Ro(h:xV p w b a):xV (λk=>p k/\k<w.heap.size) w b a:=
 Dy (λ_ _ _ d c=>⟨⟨d,kA c⟩,c⟩) h
def Gu:∀{c:Zs}{b a k:Nat}{x:Int×T},xV p w c (some (D b a))->c[k]? =some x->
 ∃d g,p b/\w.cell? (D b (a+k*4))=some (Y x.1)/\w.cell? (D b (a+k*4+1))=some (Y x.2.v)/\w.cell? (D b (a+k*4+2))=some (Y x.2.f)/\w.cell? (D b (a+k*4+3))=some (.slice d x.2.e.length g)/\jT p w x.2.e d:=by
 intro c;induction c with
 |nil=>intro b a k x _ h;simp at h
 |cons C c l=>
  intro b a k x h e;obtain⟨E,F,m,g,i,j,n,o,q,r,s,t⟩:=h;simp only[qW,fG] at i;obtain⟨rfl,rfl,_⟩:=i
  cases k with
  |zero=>
   simp at e;subst e;exact⟨m,g,j,by simpa using n,by simpa using o,by simpa using q,by simpa using r,s⟩
  |succ k=>
   simp at e;obtain⟨d,u,_,v,y,z,A,B⟩:=l t e;have f:a+(k+1)*4=a+4+k*4:=(by omega);exact⟨d,u,j,by rw[f];exact v,by rw[f];exact y,by rw[f];exact z,by rw[f];exact A,B⟩
theorem Tryz.underlying232:Zf.underlying 232=some (.slice 264):=by kernel_rfl
def lI(a:Zn):Int->Zs->Int
 |_,[]=>0
 |b,x::c=>if x.1<1\/1000<x.1 then 3 else if x.1<=b then 4 else if kP a x.2=0 then lI a x.1 c else kP a x.2
def gE(a:Zn)(b:Zs):Int:=if qT a=0 then lI a 0 b else qT a
def Fv(a:Zs)(k:Nat):Int:=if k=0 then 0 else((a[k - 1]?).map (·.1)).getD 0
def UC{x:Int×T}(a:b[k]? =some x):Fv b (k+1)=x.1:=by
 rw[Fv,jC (by omega),Nat.add_sub_cancel,a];rfl
def KZ{x:Int×T}(a:b[k]? =some x):lI r z (b.drop k)=if x.1<1\/1000<x.1 then 3 else if x.1<=z then 4 else if kP r x.2=0 then lI r x.1 (b.drop (k+1)) else kP r x.2:=by
 have d:k<b.length:=by
  rcases xW k b.length with c|c
  .exact c
  rw[yZ c] at a;cases a
 have e:b.drop k=x::b.drop (k+1):=by
  rw[jO d] at a;simp only[qW] at a;rw[<-a,cJ]
 rw[e,lI]
def Js:∀{a:Zs}{c:Int},lI r c a=0->∀v u,(v,u)∈a->1<=v/\v<=1000/\u.E<=120/\jQ r u:=by
 intro a;induction a with
 |nil=>intro c _ v u h;cases h
 |cons x a g=>
  intro c h v u d;rw[lI] at h;by_cases e:x.1<1\/1000<x.1
  .rw[jB e] at h;cases h
  rw[jC e] at h;by_cases f:x.1<=c
  .rw[jB f] at h;cases h
  rw[jC f] at h;by_cases b:kP r x.2=0
  .rw[jB b] at h
   rcases qO.1 d with i|d
   .subst i
    exact⟨by omega,by omega,(mS.1 b).1,(mS.1 b).2⟩
   exact g h v u d
  rw[jC b] at h;exact jN h b
theorem Tryz.underlying274:Zf.underlying 274=some (.map 3 43):=by kernel_rfl
def iR(w:N){e:Array Oper}{f:List Oper}{o:Oper}{a:Act}{Q:Exit->Act->N->Prop}(h:o.guard=none)(m x v:Operand)(t:TypeId)(i:o.op=Op.mapUpdate t m x v)
 (l:TypeId) (p:Zf.underlying t=some (.map 3 l)) (c n:Nat) (g:Int->Option Zv) (q:a.eval m=.map (some c)) (r:kU w c n g) (s:n<maxLen) (k:Int) (d:Zv) (u:a.eval x=Y k) (y:a.eval v=d) (z: -9223372036854775808<=k) (A:k<=9223372036854775807)
 (B:∀b,kU b c (n+1) (λj=>if j=k then some d else g j)->w.grownBy b (some c)->wpList Zf e Q f (a.put o.dst undef) b):wpList Zf e Q (o::f) a w:=by
 refine wpList_plain h λC C=>?_;obtain⟨b,E,r1,r2⟩:=r.store p s z A d;unfold Oper.wp;simp[execOp,i,q,u,y,E,Result.andThen];exact C _ _ (B b r1 r2)
def oZ(q:Zp)(w:N)(a:Zs)(f:Int->Option Zv):Prop:=
 ∀v:Int,(kC a v=none->f v=none)/\∀u,kC a v=some u->∃b c,f v=some (.agg (Zj u b c))/\jT q w u.e b
def oZ.mono{q:Zp}{w':N}{f:Int->Option Zv}(h:oZ q w b f)(a:∀k,q k->k<w.heap.size->w'.heap[k]? =w.heap[k]?):oZ q w' b f:=λv=>
 ⟨(h v).1,λu c=>by obtain⟨d,e,g,i⟩:=(h v).2 u c;exact⟨d,e,g,xN a i⟩⟩
def Po(a:Zs)(x:Int×T)(v:Int):kC (a++[x]) v=match kC a v with
 |some u=>some u
 |none=>if x.1=v then some x.2 else none:=by
 induction a with
 |nil=>obtain⟨b,c⟩:=x;rfl
 |cons y a d=>
  obtain⟨b,c⟩:=y;rw[dW,kC,kC];by_cases h:b=v
  .rw[jB h,jB h]
  rw[jC h,jC h,d]
def Xv(h:∀x,x∈b->x.1≠z):kC b z=none:=by
 cases e:kC b z with
 |none=>rfl
 |some u=>exact jN rfl (h (z,u) (tX e))
def nT(a:Zs):Prop:=∀(i j:Nat)(x y:Int×T),a[i]? =some x->a[j]? =some y->x.1=y.1->i=j
def Xx(c:nT b){x:Int×T}(a:b[k]? =some x)(v:Int):kC (b.take (k+1)) v=if v=x.1 then some x.2 else kC (b.take k) v:=by
 have d:kC (b.take k) x.1=none:=Xv (λy f e=>by
  obtain⟨i,g,h⟩:=List.getElem_of_mem f;have j:i<k:=by rw[yD] at g;omega
  have f:b[i]? =some y:=by rw[<-h,List.getElem_take,jO]
  have:=c i k y x f a e
  omega)
 rw[vZ,a];show kC (b.take k++[x]) v=_;rw[Po];by_cases e:v=x.1
 .subst e;rw[d,jB rfl]
 rw[jC e,jC (λh=>e h.symm)]
 cases kC (b.take k) v<;>rfl
def LF(a:Zs)(n:Zo)(z:Nat)(w:N)(q:Zp)(c:∀k,q k->k<w.heap.size)(K:a.length<=1000)(g:nT a)(h:∀x,x∈a->1<=x.1/\x.1<=1000)(i:xV q w a n):
 Calls Zf 223 #[.slice n a.length z] w λe d=>∃b f,e=.returned (.map (some b))/\w.heap.size<=b/\kU d b a.length f/\oZ q d a f/\Zb w d:=by
 have m:=@run_makeMap Zf;have o:=X c;have A:=X h;have p:=X i;have B:=X g;clear c h i g
 go_in
 go_wp2
 go_loopw [9] (λi wr=>∃(k:Nat)(f:Int->Option Zv),k<=a.length/\i=Y k/\kU wr w.heap.size k f/\oZ q wr (a.take k) f/\Zb w wr) (λi _=>a.length - (intOf i).toNat)
 case atStart=>exact⟨0,λ_=>none,jY _,rfl,kU.made w,λv=>⟨λ_=>rfl,λu g=>by cases g⟩,jG _ _⟩
 case round=>
  obtain⟨k,f,L,rfl,c,j,l⟩:=hrel;have M:=c.lt;have r:=X c;have h:=X j;have i:=X l;clear c j l m;by_cases C:k<a.length
  .obtain⟨b,O,rfl⟩:=Gv p (by omega)
   obtain⟨x,c⟩:=Zg C;obtain⟨l,m,E,F,P,Q,R,j⟩:=Gu (gW i p) c;have S:=A x (jU c);have U:=o b E;have V:(k:Int)<a.length:=(by omega);have W:(0:Int)<=k:=(by omega);have G:=X c;have H:=X j;have Z:=kA F;clear c j
   go_wp2_with (at_mapUpdate;refine iR _ rfl _ _ _ 274 rfl 43 Tryz.underlying274 w.heap.size k f rfl (r.below (jG _ _)) (by unfold maxLen;omega) x.1 (.agg (Zj x.2 l m)) (by first|rfl|simp[go_sem]) (by first|rfl|simp[go_sem]) (by omega) (by omega) ?_;intro s I t)
   have y:∀j,q j->j<wr.heap.size->s.heap[j]? =wr.heap[j]?:=λj c J=>by
    have:=o j c;rw[t.block j (by rw[qE];omega) (λe=>by cases e;omega),zL _ _ _ J]
   have J:=(i.alloc (by omega) _).grown t (by rw[qE];omega) (λj c=>by cases c;exact jF _);have c:oZ q s (a.take (k+1)) (λj=>if j=x.1 then some (.agg (Zj x.2 l m)) else f j):=λv=>by
    rw[Xx B.out G.out];by_cases e:v=x.1
    .simp only[jB e]
     refine⟨λj=>(by cases j),λu g=>?_⟩;obtain rfl:x.2=u:=by simpa using g
     exact⟨l,m,rfl,xN y H⟩
    simp only[jC e];exact(h.mono y) v
   go_roundw
   case rel=>exact⟨k+1,_,by omega,by go_num,I,c,J⟩
   case measure=>simp[intOf];omega
  have g:k=a.length:=by omega
  subst g;rw[qU] at h;go_wp2;go_ret;exact⟨w.heap.size,f,rfl,jF _,r,h,i⟩
def bJ(w:N)(o1 o2 a:Obj):Zb w (((w.alloc o1).alloc o2).alloc a):=(kF w o1 o2).alloc (by simp;omega) a
def AD(h:jQ r t):0<=t.v:=by
 have a:=(vW.1 h).1;rw[xU] at a;by_cases b:t.v=0
 .omega
 rw[jB b] at a;by_cases c:t.v<1\/1000<t.v
 .rw[jB c] at a;cases a
 omega
theorem Tryz.ju(w:N):(zeroValue 43).run Zf w=.ok (.agg #[Y 0,Y 0,Zd]) w:=by kernel_rfl
def Se:∀{a:Zu},eO p w l a->a.length=l.length*3:=by
 induction l with
 |nil=>intro a h;rw[show a=[] from h];rfl
 |cons t l b=>
  intro a h;obtain⟨c,d,e,rfl,_,h⟩:=h;have:=b h;simp only[xI];omega
structure Mk (w wr:N) (v f:Int) (n:Nat) (L:Zt) (k g b7:Nat):Prop where
 kids:∃cs,eO (λx=>w.heap.size+1<x/\x≠g) wr (L.take k) cs/\∀j u,cs[j]? =some u->wr.cell? (D g j)=some u
 cells:∀j,j<n*3->∃u,wr.cell? (D g j)=some u
 fr:∀j,wr.frozen? (D g j)=false
 made:jK wr b7 (Y v) (Y f) (Zx g n n)
 res:jK wr (w.heap.size+1) (Y 0) (Y 0) (Zd)
 below:Zb w wr
 gg:w.heap.size+1<g
 gl:g<wr.heap.size
 bb:w.heap.size+1<b7
 ne:b7≠g
def Mk.step{q:Obj}(h:Mk w u z z1 k l n m i)(K:l.length=k)(s:l[n]? =some t)(F:Zb (u.alloc q) v)(G:jT (λx=>(u.alloc q).heap.size<=x) v t.e a):
 Mk w (qZ v m (n*3) (Y t.v) (Y t.f) (.slice a t.e.length j)) z z1 k l (n+1) m i:=by
 have L:n<k:=by
  rcases xW n l.length with h|h
  .omega
  rw[yZ h] at s;cases s
 have y:=h.gl;have M:=h.gg;have H:=h.below.size;have d:=(jG _ _).trans (F.mono (by simp));have O:=d.size;obtain⟨A,B,I⟩:=h.kids;have C:=Se B;rw[Is (by omega)] at C;have E:∀b,b<k*3->∃f,v.cell? ⟨m,b,none⟩=some f:=λb e=>by
  rw[d.cell (p:=⟨m,b,none⟩) y];exact h.cells b e
 have g:=Lm (w:=v) (k:=m) (n:=n*3) (a:=Y t.v) (b:=Y t.f) (c:=.slice a t.e.length j) (λb _ c=>E b (by omega));refine⟨⟨A++[Y t.v,Y t.f,.slice a t.e.length j],?_,?_⟩,?_,?_,(h.made.below d).same (xQ h.ne),(h.res.below d).same (xQ (by have:=h.gg;omega)),xZ (h.below.trans (d.mono H)) (by have:=h.gg;omega) _ _ _,h.gg,by rw[iN];omega,h.bb,h.ne⟩
 .rw[vZ,s]
  refine Sc (Ij (λx c o=>⟨c,by rw[xQ c.2];exact d.block x o⟩) B) ⟨a,j,[],rfl,?_,rfl⟩;refine nM (λr q z c o=>?_) _ _ _ (jF _) G;have c:u.heap.size+1<=r:=by simpa using c
  exact⟨⟨by omega,by omega⟩,by rw[kH (w:=v) (a:=⟨r,q,none⟩) (xQ (show r≠m by omega))];exact o⟩
 .intro b f c
  rcases xW b A.length with e|e
  .rw[mY e] at c
   rw[Ap (by omega),d.cell (p:=⟨m,b,none⟩) y];exact I b f c
  rw[nO e,C] at c;have J:b - n*3=0\/b - n*3=1\/b - n*3=2:=by
   rcases xW (b - n*3) 3 with o|o
   .omega
   rw[yZ (by simpa using o)] at c;cases c
  rcases J with o|o|o
  .rw[o] at c
   obtain rfl:Value.int .i64 t.v=f:=by simpa using c
   rw[show b=n*3 by omega];exact g.1
  .rw[o] at c
   obtain rfl:Value.int .i64 t.f=f:=by simpa using c
   rw[show b=n*3+1 by omega];exact g.2.1
  rw[o] at c;obtain rfl:Value.slice a t.e.length j=f:=by simpa using c
  rw[show b=n*3+2 by omega];exact g.2.2
 .intro b e
  by_cases f:b<n*3\/n*3+2<b
  .rw[Ap f];exact E b e
  have:b=n*3\/b=n*3+1\/b=n*3+2:=by omega
  rcases this with rfl|rfl|rfl
  .exact⟨_,g.1⟩
  .exact⟨_,g.2.1⟩
  exact⟨_,g.2.2⟩
 intro b;rw[Ql,d.frozen (p:=⟨m,b,none⟩) y];exact h.fr b
def Mk.fin(h:Mk w u z z1 k l k n m)(b:l.length=k):jT (λx=>w.heap.size+1<x) u l (some (D n 0)):=by
 obtain⟨f,a,c⟩:=h.kids;rw[<-b,qU] at a;exact Sd h.gg (Ij (λx d _=>⟨d.1,rfl⟩) a) (λj d e=>by rw[kK];exact c j d e)
def Mk.start(a:u.heap[n]? =some (.cells (tZ k) 43))(b:jK u m (Y z) (Y z1) (Zx n k k))(c:jK u (w.heap.size+1) (Y 0) (Y 0) (Zd))(d:Zb w u)(e:w.heap.size+1<n)(f:w.heap.size+1<m)(g:m≠n):Mk w u z z1 k l 0 n m:=by
 refine⟨⟨[],rfl,λj h h=>by simp at h⟩,λj h=>?_,λj=>iG a j,b,c,d,e,(gJ.1 a).1,f,g⟩;have i:j<(tZ k).size:=by rw[Qq];exact h
 refine⟨(tZ k)[j],?_⟩;unfold World.cell?;rw[a];simp[i]
def Mk.behind(h:Mk w u z z1 k l n m i)(s:n<k):∀(o:Obj)(a:N),Zb (u.alloc o) a->(a.cell? (D i 2)=some (Zx m k k))/\
 (∃c d e,a.cell? (D m (n*3))=some c/\a.cell? (D m (n*3+1))=some d/\a.cell? (D m (n*3+2))=some e)/\(∀j,a.frozen? (D m j)=false):=by
 intro o a f;have b:=(jG _ _).trans (f.mono (by simp));have g:=h.gl;obtain⟨c,p⟩:=h.cells (n*3) (by omega);obtain⟨d,q⟩:=h.cells (n*3+1) (by omega);obtain⟨e,r⟩:=h.cells (n*3+2) (by omega);exact⟨(h.made.below b).c2,⟨c,d,e,jP b p,jP b q,jP b r⟩,λj=>by rw[b.frozen g];exact h.fr j⟩
def KH(K:Zn)(M:Zp)(a:Zs)(m O:Nat)(y:Int->Option Zv)(P:∀v,v<=0->kC a v=none)(Q:∀v u,(v,u)∈a->u.E<=1000)(n:Nat):∀(t:T)(e:Zo)(h:Nat)(w:N),t.E<n->t.E<=1000->kU w m O y->oZ M w a y->jQ K t->InL w t.e e->
 Calls Zf 224 #[.map (some m),.agg #[Y t.v,Y t.f,.slice e t.e.length h]] w λi d=>
  ∃l r,i=.returned (.agg #[Y (qF a t).v,Y (qF a t).f,.slice l (qF a t).e.length r])/\jT (λk=>w.heap.size<=k) d (qF a t).e l/\Zb w d:=by
 induction n with
 |zero=>intro t e h w R;omega
 |succ n g=>
  intro t e h w R ht f j b o;have S:=X g;have ap:=AD b;have aq:t.v<=1000:=by
   have c:=(vW.1 b).1;rw[xU] at c;by_cases p:t.v=0
   .omega
   rw[jB p] at c;by_cases q:t.v<1\/1000<t.v
   .rw[jB q] at c;cases c
   omega
  have ar:=T.M t;have z:=λo1 o2=>(f.below (kF w o1 o2)).look_ok (t:=274) Tryz.underlying274 (Tryz.ju _) (k:=t.v) (by omega) (by omega);have U:=X f;have s:=X j;have V:=X b;clear g f j b
  cases c:kC a t.v with
  |some u=>
   have f:bM a t.v=some u:=by
    rw[bM,jB ?_,c];rcases Int.lt_or_le 0 t.v with b|b
    .exact b
    rw[P _ b] at c;cases c
   obtain⟨C,E,b,g⟩:=(s t.v).2 u c;rw[Ch f];rw[b] at z;have F:=Q _ _ (tX c);have G:=X (kQ (λ_ _=>trivial) g);clear c f b g
   go_in
   go_wp2_with fail
   refine(Aa (u.E+1) u C E _ (by omega) F (jI (bJ _ _ _ _) G.out)).mono ?_;rintro i g ⟨L,W,rfl,p,_,q,f⟩;obtain⟨j,x,rfl,A⟩:=gK.1 (By p);have H:=f.size;simp at H;have B:Hid (jK g (w.heap.size+1) (Y 0) (Y 0) (Zd)):=jK.below ((jK.new 43 (by simp)).alloc _) f;obtain⟨Z,m1,m2,n0,n1,n2⟩:=B.out;have I:Hid (jT (λk=>w.heap.size<=k/\k≠w.heap.size+1) g u.e j):=kQ (λk b=>by have:=(q k b).1;simp at this;omega) A;have J:Hid (Zb w g):=(bJ _ _ _ _).trans (f.mono (by simp;omega));clear p q f A
   go_wp2_with fail
   obtain⟨f,p,q,_,_,_⟩:=B.out.set (Y u.v) (Y u.f) (.slice j u.e.length x);simp only[qZ,kK] at f p q;exact qS (by simp[results,Tryz.results224,go_sem,f,p,q]) rfl ⟨j,x,rfl,kQ (λk b=>b.1) (xN (λk b _=>xQ b.2) I),xZ J (by omega) _ _ _⟩
  |none=>
   have g:bM a t.v=none:=by
    rw[bM,c];split<;>rfl
   have j:=(s t.v).1 c;rw[wQ g];rw[j] at z;obtain⟨L,f⟩:=Ze (t.e.map (qF a));have x:L.length=t.e.length:=(by rw[f];simp);have W:=X (show ∀(k:Nat)(b:T),t.e[k]? =some b->L[k]? =some (qF a b) from λk b b=>by rw[f];simp[b]);rw[<-f];show Calls _ _ _ _ λi d=>∃l r,i=.returned (.agg #[Y t.v,Y t.f,.slice l L.length r])/\jT (λk=>w.heap.size<=k) d L l/\Zb w d;have au:t.e.length<=1000:=(by have:=T.length_le t.e;omega);have Z:=X o;have b:=Lk t.e.length (by omega);clear c g j f o;obtain⟨c,f⟩:=Ze ((((w.alloc (.cells #[Y t.v,Y t.f,.slice e t.e.length h] 43)).alloc (.cells #[Y 0,Y 0,Zd] 43)).alloc (.cells #[Y 0,Y 0,Zd] 43)));have o:Hid (jK c w.heap.size (Y t.v) (Y t.f) (.slice e t.e.length h)):=(by rw[f];exact((jK.new 43 rfl).alloc _).alloc _);have p:Hid (jK c (w.heap.size+1) (Y 0) (Y 0) (Zd)):=(by rw[f];exact(jK.new 43 (by simp)).alloc _);have q:Hid (Zb w c):=f▸bJ _ _ _ _;have j:c.heap.size=w.heap.size+3:=(by rw[f];simp);have A:=X f;clear f;go_enter Tryz.func224,Tryz.ntmps224
   go_upto_region 4 with fail
   rw[<-A.out];obtain⟨t0,t1,t2,_,_,_⟩:=o.out
   go_cut [7] (λB wc=>∃g f,B=Zr f/\Mk w wc t.v t.f t.e.length L 0 g f/\Hid (Zb c wc))
   case first=>
    go_region
    all_goals (go_wp2_with fail;go_meet)
    .refine⟨w.heap.size+3,w.heap.size+3+1,rfl,Mk.start ?_ ?_ ?_ ?_ (by omega) (by omega) (by omega),?_⟩
     .rw[<-j];exact(zL (c.alloc _) _ _ (by simp)).trans (bR c _)
     .exact jK.same (jK.new 43 (by rw[qE,j])) rfl
     .exact jK.same ((p.out.alloc _).alloc _) rfl
     .exact xH (q.out.trans ((kF _ _ _).mono (by omega)))
     exact xH (kF _ _ _)
    refine⟨w.heap.size+3+1,w.heap.size+3,rfl,Mk.start ?_ ?_ ?_ ?_ (by omega) (by omega) (by omega),?_⟩
    .have B:=bR (c.alloc (.cells #[Y t.v,Y t.f,Zx (w.heap.size+3+1) t.e.length t.e.length] 43)) (.cells (tZ t.e.length) 43)
     rw[qE,j] at B;exact B
    .exact jK.same ((jK.new 43 j.symm).alloc _) rfl
    .exact jK.same ((p.out.alloc _).alloc _) rfl
    .exact xH (q.out.trans ((kF _ _ _).mono (by omega)))
    exact xH (kF _ _ _)
   case rest=>
    obtain⟨g,f,rfl,B,aa⟩:=hcut;have ab:=X B;obtain⟨t0,t1,t2,_,_,_⟩:=o.out.below aa.out;clear B b o p q A j;go_wp2
    go_loopw [32] (λj wr=>∃(k:Nat),k<=t.e.length/\j=Y k/\Mk w wr t.v t.f t.e.length L k g f) (λj _=>t.e.length - (intOf j).toNat)
    case atStart=>exact⟨0,jY _,rfl,ab⟩
    case round=>
     obtain⟨k,hk,rfl,b⟩:=hrel;have f:=X b;have A:=X (jI b.below Z);obtain⟨d0,d1,d2,g0,g1,g2⟩:=b.res;obtain⟨p0,p1,p2,_,_,_⟩:=b.made;have av:=b.gl;have aw:=b.made.lt;have ax:=b.gg;clear b;by_cases B:k<t.e.length
     .obtain⟨b',C,rfl⟩:=dV A (by omega)
      obtain⟨p,b⟩:=Zg B;obtain⟨a1,ac,_,k0,k1,k2,j⟩:=dT A b;have E:p.E<n/\p.E<=1000:=by
       have:=T.W (jU b);omega
      have ad:=X (W k p b);have ae:=X (xF V (jU b));have af:=X (f.behind B);have q:=X f.below;have ag:=X j;clear b j;have ah:=X (U.below q);have ai:=X (s.mono (λj _ b=>q.block j b));have aj:=X (λo=>(ah.below (jG wr o)).same (w':=(wr.alloc o).drew) rfl);have ak:=X (λo=>ai.mono (w':=(wr.alloc o).drew) (λj _ b=>(jG wr o).block j b));have al:=X (λo=>Ef (w:=wr.alloc o) (u:=(wr.alloc o).drew) rfl (jS o ag));have ay:w.heap.size+1<wr.heap.size:=by omega
      go_wp2_with fail
      go_region_with (go_at_call 224;refine(S p a1 ac _ E.1 E.2 (aj _) (ak _) ae (al _)).mono ?_;rintro i w2 ⟨a2,az,rfl,am,F⟩;have G:=dN F;clear F;obtain⟨q2,⟨v0,v1,v2,e0,e1,e2⟩,o⟩:=af _ w2 G;have q0:=o (k*3);have q1:=o (k*3+1);have q3:=o (k*3+2);clear o)
      all_goals
       go_wp2_with fail
       go_roundw
       case rel=>exact⟨k+1,by omega,by go_num,f.step x ad G am⟩
       case measure=>simp[intOf];omega
     have an:k=t.e.length:=(by omega);subst an;have HF:=X (f.fin x);have ao:=X (f.res.set (Y t.v) (Y t.f) (Zx g t.e.length t.e.length));have q:=X f.below
     go_wp2_with fail
     obtain⟨H,I,J,_,_,_⟩:=ao;simp only[qZ,kK] at H I J;exact qS (v:=.agg #[Y t.v,Y t.f,Zx g t.e.length t.e.length]) (by simp[results,Tryz.results224,go_sem,H,I,J]) rfl ⟨some (D g 0),t.e.length,by rw[x],kQ (λj b=>by omega) (xN (λj b _=>xQ (k:=w.heap.size+1) (n:=0) (show j≠_ by omega)) HF),xZ (n:=w.heap.size+1) (m:=0) q (by omega) _ _ _⟩
def MB(q:Zp)(b:Nat)(a:Zs)(w:N):Prop:=(∃f,kU w b a.length f/\oZ q w a f)/\∀v u,(v,u)∈a->u.E<=1000
def MB.lt(h:MB p k b w):k<w.heap.size:=by obtain⟨⟨f,a,_⟩,_⟩:=h;exact a.lt
def MB.below(h:MB p k b w)(a:Zb w u):MB p k b u:=by
 obtain⟨⟨f,c,d⟩,e⟩:=h;exact⟨⟨f,c.below a,d.mono (λj _ g=>a.block j g)⟩,e⟩
def Ru{f:Int->Option Zv}(d:kU w k n f)(h:jT p w l a):jT (λc=>p c/\c≠k) w l a:=
 nM (λb o v e b=>⟨⟨e,λe=>by
  obtain⟨i,⟨j,m,g,_⟩,_⟩:=d;subst e;unfold World.cell? at b;rw[g] at b
  cases b⟩,b⟩) _ _ _ (jF _) h
def Id(c:w.grownBy u (some k))(h:jT (λb=>p b/\b≠k) w l a):jT (λb=>p b/\b≠k) u l a:=
 xN (λb d e=>c.block b e (λe=>d.2 (by cases e;rfl))) h
def MB.ji(c:MB p k b w)(h:jT p1 w l a):jT (λd=>p1 d/\d≠k) w l a:=by
 obtain⟨⟨f,c,_⟩,_⟩:=c;exact Ru c h
theorem OZ(a:Zy)(w:N):(callFunc 227 a).run Zf w=.ok (.enter 227 a) w:=by kernel_rfl
def PZ(q:Zp)(d E:Nat)(F:Zn)
 (h:∀(p t:T)(g:Zo)(y:Nat)(i:Zo)(z:Nat)(c:Zs)(w:N),p.E<=E->c.length+p.E<=100000->jQ F p->t.E<=1000->MB q d c w->InL w p.e g->jT q w t.e i->
   Calls Zf 227 #[.map (some d),.agg (Zj p g y),.agg (Zj t i z)] w λo j=>o=.returned (.bool (kG p t c).isSome)/\w.grownBy j (some d)/\∀e,kG p t c=some e->MB q d e j)
 (a b:Zt) (g:Zo) (y:Nat) (i:Zo) (z:Nat) (c:Zs) (w:N) (hn:T.E.szL a<=E) (ac:c.length+T.E.szL a<=100000) (k:jQ.okL F a) (ad:T.E.szL b<=1000) (f:MB q d c w) (l:InL w a g) (m:jT q w b i):
 Calls Zf 128 #[.slice g a.length y,.slice i b.length z,.func (.func 227) #[.map (some d)] #[]] w λo j=>o=.returned (.bool (kG.growL a b c).isSome)/\w.grownBy j (some d)/\∀e,kG.growL a b c=some e->MB q d e j:=by
 have M:=X h;have O:=X (f.ji l);have P:=X (f.ji m);have Q:=X f;have R:=X k;have ae:=OZ;have af:=T.length_le a;clear h l m f k;by_cases r:a.length=b.length
 .have S:((a.length:Int) !=b.length)=false:=by simp;omega
  have A:=X r;clear r
  go_in
  go_wp2
  go_loopw [17] (λl wr=>∃(k:Nat)(f:Zs),k<=a.length/\l=Y k/\Hid (kG.growL (a.take k) (b.take k) c=some f)/\MB q d f wr/\w.grownBy wr (some d)) (λl _=>a.length - (intOf l).toNat)
  case atStart=>exact⟨0,c,jY _,rfl,rfl,Q,⟨rfl,rfl,rfl,jF _,λ_ _ _=>rfl⟩⟩
  case round=>
   obtain⟨k,f,hk,rfl,m,n,h⟩:=hrel;have G:=X n;have s:=X h;have ag:=h.size;clear n h;by_cases U:k<a.length
   .have V:k<b.length:=by have:=A.out;omega
    have B:=Id s O;have C:=Id s P;obtain⟨b1,ah,rfl⟩:=dV B (by omega);obtain⟨e,ai,rfl⟩:=dV C (by omega);obtain⟨x,n⟩:=Zg U;obtain⟨H,u⟩:=Zg V;obtain⟨W,Z,_,k0,k1,k2,I⟩:=dT B n;obtain⟨a4,aa,_,m0,m1,m2,J⟩:=dT C u;obtain⟨aj,ak⟩:=Dr n;have al:=T.M x;have am:=T.W (jU u);have an:=(Ct _).2 _ _ _ _ (jF _) m;have v:=X (Wq A n u m);have ab:=X (nH.1 R x (jU n));have ao:(k:Int)<a.length:=(by omega);have ap:(k:Int)<b.length:=(by omega);have aq:(0:Int)<=k:=(by omega);have ar:k<=100000:=(by omega);have au:=kA k0;have av:=kA m0;have K:=X (λo1 o2=>M x H W Z a4 aa f ((wr.alloc o1).alloc o2) (by omega) (by omega) ab (by omega) (G.below (kF wr o1 o2)) (kQ (λ_ _=>trivial) (jS o2 (jS o1 I))) (kQ (λ_ h=>h.1) (jS o2 (jS o1 J))));have L:=X (λo1 o2=>s.trans (show wr.grownBy ((wr.alloc o1).alloc o2) (some d) from⟨rfl,rfl,rfl,by simp;omega,λl hi _=>(kF wr o1 o2).block l hi⟩));clear n u I J B C m
    go_wp2_with fail
    refine(K _ _).mono ?_;rintro o J ⟨rfl,l,u⟩;have B:=X ((L _ _).trans l);have n:=X u;clear l u L K
    cases l:kG x H f with
    |some u=>
     have C:=X (v.1 u l);have I:=X (n u l);clear v n l;simp only[wL]
     go_wp2_with fail
     go_roundw
     case rel=>exact⟨k+1,u,by omega,by go_num,C,I,B⟩
     case measure=>simp[intOf];omega
    |none=>
     have C:=X (v.2 l);clear v n l;simp only[rH];go_wp2;go_ret;exact⟨vO (by rw[C.out];rfl),B,λe h=>by rw[C.out] at h;cases h⟩
   have l:k=a.length:=(by omega);subst l;have k:Hid (kG.growL a b c=some f):=by
    have f:=m.out;rw[qU,show a.length=b.length from A.out,qU] at f;exact f
   clear m;go_wp2;go_ret;exact⟨vO (by rw[k.out];rfl),s,λe h=>by rw[k.out] at h;cases h;exact G⟩
 have f:kG.growL a b c=none:=Wp r;have S:((a.length:Int) !=b.length)=true:=by simp;omega
 have h:=X f;clear f r
 go_in
 go_wp2;go_ret;exact⟨vO (by rw[h.out];rfl),⟨rfl,rfl,rfl,jF _,λ_ _ _=>rfl⟩,λe f=>by rw[h.out] at f;cases f⟩
def Cu(w:N)(b:Nat)(o1 o2:Obj):w.grownBy ((w.alloc o1).alloc o2) (some b):=⟨rfl,rfl,rfl,by simp;omega,λi a _=>(kF w o1 o2).block i a⟩
def Kh(b:Nat)(h:Zb w u):w.grownBy u (some b):=⟨h.os,h.tape,h.output,h.size,λi a _=>h.block i a⟩
def VR(E:Zn)(q:Zp)(c:Nat)(J:¬q c)(s:Nat):∀(p t:T)(o:Zo)(x:Nat)(e:Zo)(h:Nat)(a:Zs)(w:N),p.E<=s->a.length+p.E<=100000->jQ E p->t.E<=1000->MB q c a w->InL w p.e o->jT q w t.e e->
 Calls Zf 227 #[.map (some c),.agg (Zj p o x),.agg (Zj t e h)] w λi y=>i=.returned (.bool (kG p t a).isSome)/\w.grownBy y (some c)/\∀l,kG p t a=some l->MB q c l y:=by
 induction s with
 |zero=>intro p t o x e h a w K;have:=p.I;omega
 |succ s m=>
  intro p t o x e h a w K aa j L f M z;have ab:=T.M p;have ac:=T.M t;have ad:=f.lt;have A:=X f;by_cases b:p.v=0
  .have O:(p.v==0)=true:=by simpa using b
   by_cases d:t.v=0
   .have v:(t.v==0)=true:=by simpa using d
    by_cases g:p.f=t.f
    .have B:(p.f==t.f)=true:=by simpa using g
     have n:Hid (kG p t a=kG.growL p.e t.e a):=(by show _=_;rw[nG,jC (by simp[b]),jC (by simp[d,g])]);have C:=X (λo1 o2=>PZ q c s E (λr u F G H I P y Q R S U V W Z=>m r u F G H I P y Q R S U V W Z) p.e t.e o x e h a ((w.alloc o1).alloc o2) (by omega) (by omega) (vW.1 j).2 (by omega) (f.below (kF w o1 o2)) (jS o2 (jS o1 M)) (jS o2 (jS o1 z)));clear b d g m f j;rw[n.out]
     go_in
     go_wp2_with fail
     refine(C _ _).mono ?_;rintro i H ⟨rfl,r,u⟩;have F:=X ((Cu w c _ _).trans r);have G:=X u;clear r u;go_wp2;go_ret;exact⟨rfl,F,G⟩
    have B:(p.f==t.f)=false:=(by simpa using g);have n:Hid (kG p t a=none):=(by show _=_;rw[nG,jC (by simp[b]),jB (jE g)]);clear b d g m f j;rw[n.out]
    go_in
    go_wp2;go_ret;exact⟨rfl,Cu w c _ _,λl g=>by cases g⟩
   have v:(t.v==0)=false:=(by simpa using d);have g:Hid (kG p t a=none):=(by show _=_;rw[nG,jC (by simp[b]),jB (jD d)]);clear b d m f j;rw[g.out]
   go_in
   go_wp2;go_ret;exact⟨rfl,Cu w c _ _,λl n=>by cases n⟩
  have O:(p.v==0)=false:=by simpa using b
  have Z:1<=p.v/\p.v<=1000:=by
   have d:=(vW.1 j).1;rw[xU,jB b] at d;by_cases g:p.v<1\/1000<p.v
   .rw[jB g] at d;cases d
   omega
  obtain⟨⟨P,B,r⟩,v⟩:=A.out;have C:=λo1 o2=>(B.below (kF w o1 o2)).look_ok (t:=274) Tryz.underlying274 (Tryz.ju _) (k:=p.v) (by omega) (by omega)
  cases g:kC a p.v with
  |some u=>
   obtain⟨Q,R,F,G⟩:=(r p.v).2 u g;have H:=v _ _ (tX g);have I:Hid (kG p t a=if kS u t then some a else none):=(by show _=_;rw[nG,jB b,g]);rw[F] at C;have HS:=X (λo1 o2 n=>iP 1000 u t Q R e h (((w.alloc o1).alloc o2).alloc n) H H (kQ (λ_ _=>trivial) (jI (bJ w o1 o2 n) G)) (kQ (λ_ _=>trivial) (jI (bJ w o1 o2 n) z)));clear g F G b m f j B r v;go_enter Tryz.func227,Tryz.ntmps227
   go_wp2_with fail
   refine(HS.out _ _ _).mono ?_;rintro i S ⟨rfl,n⟩;have F:=X ((bJ w _ _ _).trans (n.mono (by simp;omega)));clear n C;go_wp2;go_ret;refine⟨vO (by rw[I.out];cases kS u t<;>rfl),Kh c F.out,λl n=>?_⟩;rw[I.out] at n
   cases G:kS u t with
   |true=>rw[G] at n;simp at n;rw[<-n];exact A.out.below F.out
   |false=>rw[G] at n;simp at n
  |none=>
   have n:=(r p.v).1 g;have F:Hid (kG p t a=some (a++[(p.v,t)])):=(by show _=_;rw[nG,jB b,g]);have H:=X g;have ae:=X (A.out.ji z);have G:=X r;have I:=X v;rw[n] at C;clear g n b m f j r v
   go_in
   go_wp2_with (at_mapUpdate;refine iR _ rfl _ _ _ 274 rfl 43 Tryz.underlying274 c a.length P rfl (B.below (bJ _ _ _ _)) (by unfold maxLen;omega) p.v (.agg (Zj t e h)) (by first|rfl|simp[go_sem]) (by first|rfl|simp[go_sem]) (by omega) (by omega) ?_;intro Q R S)
   go_ret;have n:=(Kh c (bJ w _ _ _)).trans S;refine⟨vO (by rw[F.out];rfl),n,λl b=>?_⟩;rw[F.out] at b;simp only[qW] at b;subst b;have r:∀j,q j->j<w.heap.size->Q.heap[j]? =w.heap[j]?:=λj f g=>n.block j g (λi=>by cases i;exact J f);refine⟨⟨_,by rw[qB];exact R,λv=>?_⟩,λv u f=>?_⟩
   .rw[Po]
    by_cases j:v=p.v
    .subst j
     rw[H.out];simp only[if_true];refine⟨λb=>(by cases b),λu m=>?_⟩;obtain rfl:t=u:=by simpa using m
     exact⟨e,h,rfl,xN r z⟩
    simp only[jC j];have U:¬p.v=v:=λi=>j i.symm
    cases g:kC a v with
    |none=>simp only[jC U];exact⟨λ_=>(G v).1 g,λu m=>by cases m⟩
    |some u=>
     refine⟨λb=>(by cases b),λb m=>?_⟩;obtain rfl:u=b:=by simpa using m
     obtain⟨b,m,V,W⟩:=(G v).2 u g;exact⟨b,m,V,xN r W⟩
   rcases vD.1 f with f|f
   .exact I v u f
   simp at f;rw[f.2];exact L
def Ki(b:Nat)(w:N):w.grownBy w (some b):=⟨rfl,rfl,rfl,jF _,λ_ _ _=>rfl⟩
def Wu(h:w.grownBy u (some k))(o:Nat)(v:Zv):w.grownBy (u.setCell (D k o) v) (some k):=
 h.trans ⟨rfl,rfl,rfl,by simp[World.setCell],λa _ a=>vL _ _ _ _ (λe=>a (by simp only[e]))⟩
def RY(h:w.grownBy u (some k)){v:Zv}(c:n≠k)(b:w.cell? (D n m)=some v):u.cell? (D n m)=some v:=by
 rw[kH (w:=w) (a:=(D n m)) (h.block n (kA b) (λe=>c (by cases e;rfl)))];exact b
def Sm(h:w.grownBy u (some k))(g:∀c,p c->c≠k){d:List Nat}(b:nS p w d a):nS p u d a:=by
 obtain⟨e,b⟩:=b;rcases b with i|⟨x,j,l,f,m⟩
 .exact⟨e,jD i⟩
 exact⟨e,jE ⟨x,j,l,f,λn o=>RY h (g x f) (m n o)⟩⟩
def Bs(h:Zb w u){c:List Nat}(b:nS p w c a):nS p u c a:=by
 obtain⟨d,b⟩:=b;rcases b with e|⟨x,f,g,i,j⟩
 .exact⟨d,jD e⟩
 exact⟨d,jE ⟨x,f,g,i,λk l=>jP h (j k l)⟩⟩
def yN.below{P:List Pt}(h:yN p w k n m P)(a:Zb w u):yN p u k n m P:=by
 refine⟨jP a h.h,λb c d=>?_,h.qu,h.ub,h.len,λb=>by rw[a.frozen h.qa];exact h.ku b,λb=>by rw[a.frozen (kA h.h)];exact h.ki b,kV h.qa a.size⟩;obtain⟨e,f,g,i,j,l,o,q,r,s,t,v⟩:=h.jn b c d;exact⟨e,f,g,i,j,jP a l,jP a o,jP a q,jP a r,jP a s,jP a t,Bs a v⟩
def sV(a:List Pt->Nat->Nat->Option (Bool×List Pt)):List Nat->List Nat->List Pt->Option (Bool×List Pt)
 |b::l,c::m,P=>match a P b c with
  |none=>none
  |some x=>if x.1=true then sV a l m x.2 else some (false,x.2)
 |_,_,P=>some (true,P)
def Cn(a:List Pt->Nat->Nat->Option (Bool×List Pt))(l m:List Nat)(P:List Pt):Option (Bool×List Pt):=if l.length=m.length then sV a l m P else some (false,P)
def Vm{a:List Pt->Nat->Nat->Option (Bool×List Pt)}{l m:List Nat}{P:List Pt}{x:Bool×List Pt}(h:sV a (k::l) (n::m) P=some x):∃y,a P k n=some y/\(if y.1=true then sV a l m y.2 else some (false,y.2))=some x:=by
 rw[sV] at h;split at h
 .cases h
 rename_i y b;exact⟨y,b,h⟩
def Vk{l:List Nat}(h:k<l.length):l.drop k=l.getD k 0::l.drop (k+1):=by
 rw[pN h];simp[List.getD,jO h]
theorem OV(a:Zy)(w:N):(callFunc 206 a).run Zf w=.ok (.enter 206 a) w:=by kernel_rfl
def Vn(h:List Pt->Nat->Nat->Option (Bool×List Pt))
 (g:∀(P:List Pt)(i y:Nat)(x:Bool×List Pt)(w:N),yN p w k n m P->h P i y=some x->Calls Zf 206 #[Zr k,Y (i:Int),Y (y:Int)] w λj e=>j=.returned (.bool x.1)/\yN p e k n m x.2/\w.grownBy e (some n))
 {l c:List Nat} (J:Nat) (K:Nat) {P:List Pt} (x:Bool×List Pt) (b:yN p w k n m P) (f:nS p w l a) (o:nS p w c a1) (d:Cn h l c P=some x):
 Calls Zf 215 #[.slice a l.length J,.slice a1 c.length K,.func (.func 206) #[Zr k] #[]] w λj e=>j=.returned (.bool x.1)/\yN p e k n m x.2/\w.grownBy e (some n):=by
 have U:=f.1;have z:=X b.qu;have L:=X g;have A:=X b;have M:=X f;have O:=X o;have V:=OV;clear g b f o;by_cases f:l.length=c.length
 .have R:((l.length:Int) !=c.length)=false:=by simp;omega
  rw[Cn,jB f] at d;have t:=X d;have S:=X f;clear f d
  go_in
  go_wp2
  go_loopw [17] (λi wr=>∃(b:Nat)(Q:List Pt),b<=l.length/\i=Y b/\Hid (sV h (l.drop b) (c.drop b) Q=some x)/\Hid (yN p wr k n m Q)/\Hid (w.grownBy wr (some n))) (λi _=>l.length - (intOf i).toNat)
  case atStart=>exact⟨0,P,jY _,rfl,t,A,Ki _ _⟩
  case round=>
   obtain⟨b,Q,o,rfl,q,u,g⟩:=hrel;by_cases B:b<l.length
   .have C:b<c.length:=by have:=S.out;omega
    obtain⟨W,Z,rfl,_,v⟩:=Iw (Sm g (λb o=>(z b o).2) M) (show 0<l.length by omega);obtain⟨b2,aa,rfl,_,E⟩:=Iw (Sm g (λb o=>(z b o).2) O) (show 0<c.length by omega);have k0:=v b B;have m0:=E b C;have s:=q.out;rw[Vk B,Vk C] at s;obtain⟨F,G,H⟩:=Vm s;have I:=X (L Q (l.getD b 0) (c.getD b 0) F wr u G);have r:=X H;generalize l.getD b 0=ak at*;generalize c.getD b 0=bk at*;have ab:(b:Int)<l.length:=(by omega);have ac:(b:Int)<c.length:=(by omega);have ad:(0:Int)<=b:=(by omega);have ae:b<=100000:=(by omega);clear s G H q v E
    go_wp2_with fail
    refine I.mono ?_;rintro j w3 ⟨rfl,v,E⟩;have s:=X v;have G:=X (g.trans E);clear v E I u g;obtain⟨H,v⟩:=F
    cases H with
    |true=>
     have I:Hid (sV h (l.drop (b+1)) (c.drop (b+1)) v=some x):=by
      have E:=r.out;rw[jB rfl] at E;exact E
     clear r;simp only at s
     go_wp2_with fail
     go_roundw
     case rel=>exact⟨b+1,v,by omega,by go_num,I,s,G⟩
     case measure=>simp[intOf];omega
    |false=>
     have I:Hid ((false,v)=x):=by
      have E:=r.out;rw[jC (by simp)] at E;exact kT E
     clear r;simp only at s;go_wp2;go_ret;rw[<-I.out];exact⟨rfl,s,G⟩
   have r:b=l.length:=(by omega);subst r;have E:Hid ((true,Q)=x):=by
    have b:=q.out;rw[dX,sV] at b
    .exact kT b
    intro Q l' b' m' I;cases I
   clear q;go_wp2;go_ret;rw[<-E.out];exact⟨rfl,u,g⟩
 have R:((l.length:Int) !=c.length)=true:=by simp;omega
 rw[Cn,jC f] at d;have t:=X (kT d);clear f d
 go_in
 go_wp2;go_ret;rw[<-t.out];exact⟨rfl,A,Ki _ _⟩
structure lU (w:N) (b:Nat) (v0 v1 v2 v3 v4 v5:Zv):Prop where
 c0:w.cell? (D b 0)=some v0
 c1:w.cell? (D b 1)=some v1
 c2:w.cell? (D b 2)=some v2
 c3:w.cell? (D b 3)=some v3
 c4:w.cell? (D b 4)=some v4
 c5:w.cell? (D b 5)=some v5
def lU.new{a b c d e f:Zv}(g:TypeId)(h:k=w.heap.size):lU (w.alloc (.cells #[a,b,c,d,e,f] g)) k a b c d e f:=by
 subst h;constructor<;>(rw[jJ _ rfl];rfl)
def lU.below{b c d e f g:Zv}(h:lU w k b c d e f g)(a:Zb w u):lU u k b c d e f g:=
 ⟨jP a h.c0,jP a h.c1,jP a h.c2,jP a h.c3,jP a h.c4,jP a h.c5⟩
def Oz(h:w.grownBy u (some k))(a:Zb u v):w.grownBy v (some k):=
 h.trans ⟨a.os,a.tape,a.output,a.size,λb c _=>a.block b c⟩
def Ug(w:N)(n:Nat):Zb w (w.drewN n):=⟨rfl,rfl,rfl,jF _,λ_ _=>rfl⟩
def tU(a:List Pt->Nat->Nat->Option (Bool×List Pt))(P:List Pt)(x y:Nat)(p q:Pt):Option (Bool×List Pt):=
 if q.v=0 then(if p.f=q.f then Cn a p.e q.e (P.set y {q with Q:=x}) else some (false,P.set y {q with Q:=x})) else some (true,P.set y {q with Q:=x})
def fD:Nat->List Pt->Nat->Nat->Option (Bool×List Pt)
 |0,_,_,_=>none
 |n+1,P,i,j=>match yB P (P.length+1) i with
  |none=>none
  |some a=>match yB P (P.length+1) j with
   |none=>none
   |some b=>if a=b then some (true,P) else match P[a]? with
    |none=>none
    |some p=>match P[b]? with
     |none=>none
     |some q=>if q.v<p.v then tU (fD n) P b a q p else tU (fD n) P a b p q
def Pj{P:List Pt}{x:Bool×List Pt}(a:fD k P n m=some x):∃d b c,k=d+1/\yB P (P.length+1) n=some b/\yB P (P.length+1) m=some c/\
 ((b=c/\(true,P)=x)\/(b≠c/\∃p q,P[b]? =some p/\P[c]? =some q/\(if q.v<p.v then tU (fD d) P c b q p else tU (fD d) P b c p q)=some x)):=by
 cases k with
 |zero=>cases a
 |succ k=>
  rw[fD] at a;split at a
  .cases a
  rename_i b f;split at a
  .cases a
  rename_i c g;refine⟨k,b,c,rfl,f,g,?_⟩;split at a
  .rename_i e;exact jD ⟨e,kT a⟩
  rename_i e;split at a
  .cases a
  rename_i p h;split at a
  .cases a
  rename_i q i;exact jE ⟨e,p,q,h,i,a⟩
def TO(H:Zp)(u b I:Nat)(J:Nat):∀(P:List Pt)(L M:Nat)(x:Bool×List Pt)(w:N),yN H w u b I P->fD J P L M=some x->
 Calls Zf 206 #[Zr u,Y (L:Int),Y (M:Int)] w λO V=>O=.returned (.bool x.1)/\yN H V u b I x.2/\w.grownBy V (some b):=by
 induction J with
 |zero=>intro P L M x w _ ay;cases ay
 |succ J e=>
  intro P L M x w a f;obtain⟨az,k,l,m,c,d,h⟩:=Pj f;obtain rfl:J=az:=by omega
  have i:=X (Fs H w u b I P _ L k a c);have j:=X (Fs H w u b I P _ M l a d);have a4:=Kn c;have a5:=Kn d;have a6:=a.len;have cu:=a.h;have a7:(k:Int)<P.length:=by omega
  have a8:(l:Int)<P.length:=by omega
  have a9:(0:Int)<=k:=by omega
  have ba:(0:Int)<=l:=by omega
  have g:=X a;have ar:=X e;have W:=X h;clear f a c d m e h
  go_in
  go_wp2_with fail
  refine i.mono ?_;rintro O V ⟨rfl,a⟩;obtain rfl:=a.symm;clear a i
  go_wp2_with fail
  refine j.out.mono ?_;rintro O V ⟨rfl,a⟩;obtain rfl:=a.symm;clear a j;rcases W.out with⟨c,h⟩|⟨ad,p,r,Z,hr,h⟩
  .have e0:((k:Int)==(l:Int))=true:=by simp[c]
   have a:=X h;clear c h W;go_wp2;go_ret;rw[<-a.out];exact⟨rfl,g,Ki _ _⟩
  have e0:((k:Int)==(l:Int))=false:=by simp;omega
  obtain⟨_,_,_,_,_,p0,_⟩:=g.jn k p Z;obtain⟨_,_,_,_,_,r0,_⟩:=g.out.jn l r hr;have aa:=X (λn=>g.out.below (Ug w n));have ab:=X (λn=>Oz (Ki b w) (Ug w n));have au:=X ad;have Hp:=X Z;have Hr:=X hr;by_cases av:r.v<p.v
  .rw[jB av] at h
   have a:=X h;clear h W Z hr ad
   go_wp2_with fail
   go_quiet (fail)
   go_upto_region 6 with fail
   have Q:=Hp;have ae:=Hr;have af:Hid (l≠k):=au.symm;clear p0 r0;obtain⟨_,_,_,_,_,_,_,_,_,d4,_,_⟩:=g.jn k p Q;have ag:=g.ku (k*6+4)
   go_upto_region 7 with fail
   obtain⟨c,i⟩:∃c,c=(w.drewN nq).setCell (D b (k*6+4)) (Y (l:Int)):=⟨_,rfl⟩;have d:Hid (yN H c u b I (P.set k {p with Q:=l})):=(by rw[i];exact(aa nq).kn Q l);have ah:Hid (w.grownBy c (some b)):=(by rw[i];exact Wu (ab nq) _ _);rw[<-i];clear i aa ab d4 cu g ag;obtain⟨ta,tl,tc,ai,R,s,t,v,y,z,A,S⟩:=d.jn l r (by rw[gY af.out.symm];exact ae);obtain⟨aj,ak,al,am,U,j,m,B,n,o,q,C⟩:=d.jn k {p with Q:=l} (pO (by omega));have e:=d.h;rw[lF] at e;simp only at j m n o q C;have a0:=kA e;have a1:=d.qa;have an:=X S;have ao:=X C;clear S C
   go_cut [7,8] (λv7 v8 wc=>∃E F,v7=Zr E/\v8=Zr F/\lU wc E (Y r.v) (Y r.f) (.slice ta tl tc) (Zk ai r.e R) (Y (r.Q:Int)) (Y r.size)/\lU wc F (Y p.v) (Y p.f) (.slice aj ak al) (Zk am p.e U) (Y (l:Int)) (Y p.size)/\Hid (Zb c wc))
   case first=>as_aux_lemma=>
    go_region
    all_goals (go_wp2_with fail;go_meet;refine⟨_,_,rfl,rfl,?_,?_,?_⟩)
    all_goals first|exact xH (kF _ _ _)|(refine lU.below ?_ (xH (jW _ _));first|exact(lU.new _ rfl).below (jG _ _)|exact lU.new _ (by simp))
   case rest=>as_aux_lemma=>
    obtain⟨E,F,rfl,rfl,h7,h8,ac⟩:=hcut;obtain⟨s0,s1,s2,s3,s4,s5⟩:=h7;obtain⟨t0,t1,t2,t3,t4,t5⟩:=h8;have ap:=X (d.below ac);have aq:=X (Oz ah ac);have f:=a.out;rw[tU] at f;by_cases G:p.v=0
    .have e1:(p.v !=0)=false:=by simpa using G
     rw[jB G] at f;by_cases K:r.f=p.f
     .have e2:(r.f==p.f)=true:=by simpa using K
      rw[jB K] at f;have HE:=X (Vn (fD J) ar R U x ap (Bs ac an) (Bs ac ao) f);clear f G K a s t v y z A j m B n o q e
      go_wp2_with fail
      refine HE.mono ?_;rintro O w3 ⟨rfl,aw,ax⟩;have a2:=X aw;have a3:=X (aq.trans ax);clear aw ax HE;go_wp2;go_ret;exact⟨rfl,a2,a3⟩
     have e2:(r.f==p.f)=false:=(by simpa using K);rw[jC K] at f;have aw:=X (kT f);clear f G K a s t v y z A j m B n o q e;go_wp2;go_ret;rw[<-aw.out];exact⟨rfl,ap.out,aq.out⟩
    have e1:(p.v !=0)=true:=(by simpa using G);rw[jC G] at f;have K:=X (kT f);clear f G a s t v y z A j m B n o q e;go_wp2;go_ret;rw[<-K.out];exact⟨rfl,ap.out,aq.out⟩
  rw[jC av] at h;have a:=X h;clear h W Z hr ad
  go_wp2_with fail
  go_quiet (fail)
  go_upto_region 6 with fail
  have Q:=Hr;have ae:=Hp;have af:=au;clear p0 r0;obtain⟨_,_,_,_,_,_,_,_,_,d4,_,_⟩:=g.jn l r Q;have ag:=g.ku (l*6+4)
  go_upto_region 7 with fail
  obtain⟨c,i⟩:∃c,c=(w.drewN nq).setCell (D b (l*6+4)) (Y (k:Int)):=⟨_,rfl⟩;have d:Hid (yN H c u b I (P.set l {r with Q:=k})):=by rw[i];exact(aa nq).kn Q k
  have ah:Hid (w.grownBy c (some b)):=by rw[i];exact Wu (ab nq) _ _
  rw[<-i];clear i aa ab d4 cu g ag;obtain⟨ta,tl,tc,ai,R,s,t,v,y,z,A,S⟩:=d.jn k p (by rw[gY af.out.symm];exact ae);obtain⟨aj,ak,al,am,U,j,m,B,n,o,q,C⟩:=d.jn l {r with Q:=k} (pO (by omega));have e:=d.h;rw[lF] at e;simp only at j m n o q C;have a0:=kA e;have a1:=d.qa;have an:=X S;have ao:=X C;clear S C
  go_cut [7,8] (λv7 v8 wc=>∃E F,v7=Zr E/\v8=Zr F/\lU wc E (Y p.v) (Y p.f) (.slice ta tl tc) (Zk ai p.e R) (Y (p.Q:Int)) (Y p.size)/\lU wc F (Y r.v) (Y r.f) (.slice aj ak al) (Zk am r.e U) (Y (k:Int)) (Y r.size)/\Hid (Zb c wc))
  case first=>as_aux_lemma=>
   go_region
   all_goals (go_wp2_with fail;go_meet;refine⟨_,_,rfl,rfl,?_,?_,?_⟩)
   all_goals first|exact xH (kF _ _ _)|(refine lU.below ?_ (xH (jW _ _));first|exact(lU.new _ rfl).below (jG _ _)|exact lU.new _ (by simp))
  case rest=>as_aux_lemma=>
   obtain⟨E,F,rfl,rfl,S,W,i⟩:=hcut;obtain⟨s0,s1,s2,s3,s4,s5⟩:=S;obtain⟨t0,t1,t2,t3,t4,t5⟩:=W;have C:=X (d.below i);have E:=X (Oz ah i);have f:=a.out;rw[tU] at f;by_cases g:r.v=0
   .have Z:(r.v !=0)=false:=by simpa using g
    rw[jB g] at f;by_cases h:p.f=r.f
    .have e2:(p.f==r.f)=true:=by simpa using h
     rw[jB h] at f;have F:=X (Vn (fD J) ar R U x C (Bs i an) (Bs i ao) f);clear f g h a s t v y z A j m B n o q e
     go_wp2_with fail
     refine F.mono ?_;rintro O w3 ⟨rfl,G,K⟩;have aa:=X G;have ab:=X (E.trans K);clear G K F;go_wp2;go_ret;exact⟨rfl,aa,ab⟩
    have e2:(p.f==r.f)=false:=(by simpa using h);rw[jC h] at f;have F:=X (kT f);clear f g h a s t v y z A j m B n o q e;go_wp2;go_ret;rw[<-F.out];exact⟨rfl,C,E⟩
   have Z:(r.v !=0)=true:=(by simpa using g);rw[jC g] at f;have h:=X (kT f);clear f g a s t v y z A j m B n o q e;go_wp2;go_ret;rw[<-h.out];exact⟨rfl,C,E⟩
def oA(p:Zp)(w:N):Zs->Zu->Prop
 |[],a=>a=[]
 |x::d,a=>∃b e c,a=Y x.1::Y x.2.v::Y x.2.f:: .slice b x.2.e.length e::c/\jT p w x.2.e b/\oA p w d c
def FI:∀{a c:Zu},oA p w b a->oA p w b1 c->oA p w (b++b1) (a++c):=by
 induction b with
 |nil=>intro a c d e;rw[show a=[] from d];exact e
 |cons x b f=>
  intro a c d e;obtain⟨g,h,i,rfl,j,k⟩:=d;exact⟨g,h,i++c,rfl,j,f k e⟩
def Eg(e:∀k,p k->k<w.heap.size->p1 k/\u.heap[k]? =w.heap[k]?):∀{a:Zu},oA p w b a->oA p1 u b a:=by
 induction b with
 |nil=>intro a h;exact h
 |cons x b i=>
  intro a h;obtain⟨f,j,l,rfl,m,h⟩:=h;exact⟨f,j,l,rfl,nM (λc o v g d=>⟨(e c g (kA d)).1,by rw[kH (w:=w) (a:=(D c o)) (e c g (kA d)).2];exact d⟩) _ _ _ (jF _) m,i h⟩
def FJ(e:p k):∀{a:Nat}{d:Zu},oA p w b d->(∀j u,d[j]? =some u->w.cell? (D k (a+j))=some u)->xV p w b (some (D k a)):=by
 induction b with
 |nil=>intro a d _ _;trivial
 |cons x b f=>
  intro a d h c;obtain⟨g,i,n,rfl,l,h⟩:=h;refine⟨k,a,g,i,rfl,e,c 0 _ rfl,c 1 _ rfl,c 2 _ rfl,c 3 _ rfl,l,f h λj u m=>?_⟩;rw[show a+4+j=a+(j+4) from by omega];exact c (j+4) u (by simpa using m)
def cP(q:Zp)(a:Nat)(w:N)(l:Zv)(b:Zs):Prop:=
 ∃c,w.ownsRow a 264 4 l b.length c/\oA (λk=>(q k\/a<=k)/\l.ownBlock≠some k) w b c
def GE:cP p k w (Zd) []:=⟨[],⟨rfl,jD ⟨rfl,rfl⟩⟩,rfl⟩
def GF{l:Zv}(h:cP p k w l b)(d:∀a,(p a\/k<=a)->a<w.heap.size->u.heap[a]? =w.heap[a]?):cP p k u l b:=by
 obtain⟨f,c,i⟩:=h;exact⟨f,vT c (λg e=>d g (jE (kO c g e).1) (kO c g e).2),Eg (λa e g=>⟨e,d a e.1 g⟩) i⟩
def Ix{l:Zv}(h:cP p k w l b)(a:Zb w u):cP p k u l b:=GF h (λc _ d=>a.block c d)
def Sq{l:Zv}{x:Int×T}(g:oA (λc=>(p c\/k<=c)/\l.ownBlock≠some c) w b U)
 (h:jT (λc=>(p c\/k<=c)/\l.ownBlock≠some c) w x.2.e a)
 (j:u.ownsRow k 264 4 (Zx m (b.length+1) i) (b.length+1) (U++[Y x.1,Y x.2.v,Y x.2.f,.slice a x.2.e.length n])) (o:w.grownBy u l.ownBlock) (d:l.ownBlock=some m\/m=w.heap.size):
 cP p k u (Zx m (b.length+1) i) (b++[x]):=by
 refine⟨_,by rw[qB];exact j,Eg (λc e f=>⟨⟨e.1,?_⟩,o.block c f (λf=>e.2 f.symm)⟩) (FI g ⟨a,n,[],rfl,h,rfl⟩)⟩;rcases d with d|d
 .rw[show(Value.slice (some (D m 0)) (b.length+1) i).ownBlock=some m from rfl,<-d];exact e.2
 show some m≠some c;intro f;cases f;omega
def fX{v:Zv}(h:w.ownsRow k g m v n U)(p:0<n):∃a b,v=Zx a n b/\k<=a/\a<w.heap.size/\∀j u,U[j]? =some u->w.cell? (D a j)=some u:=by
 rcases h.2 with⟨_,q⟩|⟨a,b,e,rfl,i,c,r,s,t,l⟩
 .omega
 refine⟨a,b,rfl,i,?_,λj u d=>?_⟩
 .rcases xW a w.heap.size with h|h
  .exact h
  rw[uK h] at c;cases c
 have x:j<U.length:=by
  rcases xW j U.length with h|h
  .exact h
  rw[yZ h] at d;cases d
 have o:e[j]? =some u:=by
  have f:(e.toList.take (n*m))[j]? =some u:=l▸d;rw[eR (by have:=h.1;omega)] at f;simpa using f
 simp[World.cell?,c,o]
def Sp{l:Zv}(h:cP p k w l b):∃a c,l=.slice a b.length c/\xV (λd=>p d\/k<=d) w b a:=by
 obtain⟨o,e,f⟩:=h;by_cases g:0<b.length
 .obtain⟨q,c,rfl,i,r,j⟩:=fX e g
  exact⟨_,c,rfl,FJ (jE i) (Eg (λd m _=>⟨m.1,rfl⟩) f) (λm u n=>by rw[kK];exact j m u n)⟩
 obtain⟨a,m,rfl⟩:=zF e;have:b=[]:=yM.1 (by omega);subst this;exact⟨a,m,rfl,trivial⟩
theorem Tryz.info264:(Zf.info? 264).map (λi=>(i.zero,i.size,i.bytes))=some (some (.agg #[Y 0,Y 0,Y 0,Zd]),4,48):=by kernel_rfl
def Lj(n:Nat):Zy:=madeCells #[Y 0,Y 0,Y 0,Zd] (n*4)
def jAu(n:Nat)(g:n<=1000000)(w:N):(Instr.makeSlice 232 (Y 0) (Y (n:Int))).run Zf w=.ok (Zx w.heap.size 0 n) (w.alloc (.cells (Lj n) 264)):=by
 obtain⟨i,c,a⟩:=bQ.1 Tryz.info264;simp only[bG] at a;obtain⟨d,e,f⟩:=a;have b:=run_make w 232 264 i _ Tryz.underlying232 c d .i64 .i64 0 n (by omega) (by omega) (by rw[f];omega) (by omega);simp only[pK,e,Int.toNat_zero] at b;exact b
def GD(a:k<=w.heap.size)(b:n<=1000000):cP p k (w.alloc (.cells (Lj n) 264)) (Zx w.heap.size 0 n) []:=
 ⟨[],⟨rfl,Or.inr ⟨w.heap.size,n,Lj n,rfl,a,heap_alloc_new w _,Nat.zero_le _,by unfold maxLen;omega,by rw[Lj,size_madeCells],by simp⟩⟩,rfl⟩
def Vx{s:Zv}(a:k=w.heap.size):∀(j:Nat)(u:Zv),[Value.int .i64 z,Y z1,Y z2,s][j]? =some u->
 (w.alloc (.cells #[Y z,Y z1,Y z2,s] g)).cell? (((D k 0):Addr).add j)=some u:=by
 intro j u b;have c:((D k 0):Addr).add j=(D k j):=by simp[Addr.add];omega
 rw[c,jJ j a];simpa using b
def Sn(e:∀k,p k->k<w.heap.size->p1 k/\u.heap[k]? =w.heap[k]?){b:List Nat}(c:nS p w b a):nS p1 u b a:=by
 obtain⟨d,c⟩:=c;rcases c with m|⟨x,f,n,g,h⟩
 .exact⟨d,jD m⟩
 by_cases i:b=[]
 .exact⟨d,jD i⟩
 have o:=Ek.2 i;have j:=kA (h 0 o);exact⟨d,jE ⟨x,f,n,(e x g j).1,λl q=>by rw[kH (w:=w) (a:=(D x (f+l))) (e x g j).2];exact h l q⟩⟩
def cI(p:Zp)(w:N):List Pt->Zu->Prop
 |[],a=>a=[]
 |x::P,a=>∃d e f b g c,a=Y x.v::Y x.f:: .slice d e f:: .slice b x.e.length g::Y (x.Q:Int)::Y x.size::c/\nS p w x.e b/\cI p w P c
def FU{P Q:List Pt}:∀{a b:Zu},cI p w P a->cI p w Q b->cI p w (P++Q) (a++b):=by
 induction P with
 |nil=>intro a b c d;rw[show a=[] from c];exact d
 |cons x P e=>
  intro a b c d;obtain⟨f,g,h,i,j,k,rfl,l,m⟩:=c;exact⟨f,g,h,i,j,k++b,rfl,l,e m d⟩
def Ii{P:List Pt}(b:∀k,p k->k<w.heap.size->p1 k/\u.heap[k]? =w.heap[k]?):∀{a:Zu},cI p w P a->cI p1 u P a:=by
 induction P with
 |nil=>intro a h;exact h
 |cons x P c=>
  intro a h;obtain⟨d,e,f,g,i,j,rfl,l,h⟩:=h;exact⟨d,e,f,g,i,j,rfl,Sn b l,c h⟩
def FV{P:List Pt}:∀{b:Nat}{d:Zu},cI p w P d->(∀j u,d[j]? =some u->w.cell? (D k (b+j))=some u)->∀a x,P[a]? =some x->Rn p w k (b+a*6) x:=by
 induction P with
 |nil=>intro b d _ _ a x h;simp at h
 |cons y P f=>
  intro b d h c a x e;obtain⟨g,i,l,m,n,s,rfl,o,h⟩:=h
  cases a with
  |zero=>
   simp at e;subst e;exact⟨g,i,l,m,n,by simpa using c 0 _ rfl,by simpa using c 1 _ rfl,by simpa using c 2 _ rfl,by simpa using c 3 _ rfl,by simpa using c 4 _ rfl,by simpa using c 5 _ rfl,o⟩
  |succ a=>
   have q:=f h (λj u r=>by rw[show b+6+j=b+(j+6) from by omega];exact c (j+6) u (by simpa using r)) a x (by simpa using e);rw[show b+(a+1)*6=b+6+a*6 by omega];exact q
def GR(a:Nat)(w:N)(l:Zv)(P:List Pt):Prop:=
 ∃b,w.ownsRow a 267 6 l P.length b/\cI (λk=>a<=k/\l.ownBlock≠some k) w P b
def GT{l:Zv}{P:List Pt}(h:GR k w l P)(i:w.cell? (D n 0)=some l)(A:n<k)(j:∀a,w.frozen? (D n a)=false)(m:0<P.length)(o:P.length<=100000):
 ∃c d,l=Zx c P.length d/\k<=c/\yN (λa=>k<=a/\a≠c) w n c d P:=by
 obtain⟨B,e,p⟩:=h;obtain⟨g,r,rfl,s,t,u⟩:=fX e m;refine⟨g,r,rfl,s,i,λa v b=>?_,λa b=>⟨by omega,b.2⟩,by omega,o,λa=>?_,j,t⟩
 .have f:=FV (b:=0) (Ii (p1:=λa=>k<=a/\a≠g) (λa b _=>⟨⟨b.1,λx=>b.2 (by rw[x];rfl)⟩,rfl⟩) p) (λx y z=>by rw[kK];exact u x y z) a v b
  rw[kK] at f;exact f
 rcases e.2 with⟨b,_⟩|⟨x,y,z,b,_,v,_⟩
 .cases b
 cases b
 exact iG v a
def vJ:List (Int×Nat)->Int->Option Nat
 |[],_=>none
 |x::l,v=>if x.1=v then some x.2 else vJ l v
def kB:T->List Pt×List (Int×Nat)->Nat×List Pt×List (Int×Nat)
 |⟨v,f,a⟩,s=>match vJ s.2 v with
  |some n=>(n,s)
  |none=>
   let r:=addL a s
   (r.2.1.length,r.2.1++[⟨v,f,r.1,r.2.1.length,0⟩],if v=0 then r.2.2 else(v,r.2.1.length)::r.2.2)
 where
 addL:Zt->List Pt×List (Int×Nat)->List Nat×List Pt×List (Int×Nat)
  |[],s=>([],s)
  |t::b,s=>
   let r:=kB t s;let x:=addL b r.2;(r.1::x.1,x.2)
theorem Tryz.info267:(Zf.info? 267).map (λi=>(i.zero,i.size,i.bytes))=some (some (.agg #[Y 0,Y 0,Zd,Zd,Y 0,Y 0]),6,80):=by kernel_rfl
theorem Tryz.underlying257:Zf.underlying 257=some (.slice 267):=by kernel_rfl
def Jg(w:N)(x:Zv)(m:Nat)(a:Zu):Prop:=
 (x=Zd/\m=0/\a=[])\/∃b c d,x=Zz b c m d/\a.length=m*6/\(∀j u,a[j]? =some u->w.cell? (D b (c+j))=some u)/\∀u,u∈a->u.oneCell'=true
def jAp{v x:Zv}(c:TypeId)(d:w.ownsRow k 267 6 v n U)(l:Jg w x m V)(H:n+m<=200000)(o:k<=w.heap.size):
 ∃a b,(Builtin.append_ #[257,257] c #[v,x]).run Zf w=.ok a b/\b.ownsRow k 267 6 a (n+m) (U++V)/\w.grownBy b v.ownBlock/\(a.ownBlock=v.ownBlock\/a.ownBlock=some w.heap.size):=by
 obtain⟨i,g,h⟩:=bQ.1 Tryz.info267;simp only[bG] at h;obtain⟨p,q,r⟩:=h;rcases l with⟨rfl,rfl,rfl⟩|⟨e,f,s,rfl,t,u,y⟩
 .rw[zU]
  exact⟨v,w,run_append_owned_none w k 257 c 267 i 6 Tryz.underlying257 g _ _ _ d,d,⟨rfl,rfl,rfl,jF _,λ_ _ _=>rfl⟩,jD rfl⟩
 obtain⟨a,b,z,A,B,_,C⟩:=run_append_own_at w k 257 c 267 i (.agg #[Y 0,Y 0,Zd,Zd,Y 0,Y 0]) 6 80 Tryz.underlying257 g p q r rfl (by decide) v n U d (D e f) m s V t (λj E F=>by
  have G:((D e f):Addr).add j=(D e (f+j)):=by simp[Addr.add]
  rw[G];exact u j E F) y (by unfold maxLen;omega) (by omega) o
 exact⟨a,b,z,A,B,C⟩
def jFc{o:Oper}{c:Act}{K:Act->N->Prop}{Q:Exit->Act->N->Prop}(s x:Operand)(e:o.op=.call {callee:=.builtin .append,args:=#[s,x],argTypes:=#[257,257]}){v:Zv}(f:c.eval s=v)(g:w.ownsRow k 267 6 v n U){d:Zv}(h:c.eval x=d)(i:Jg w d m V)(j:n+m<=200000)(l:k<=w.heap.size)
 (p:∀a b,b.ownsRow k 267 6 a (n+m) (U++V)->w.grownBy b v.ownBlock->(a.ownBlock=v.ownBlock\/a.ownBlock=some w.heap.size)->K (c.put o.dst a) b):o.wp Zf c w K Q:=by
 obtain⟨a,b,q,r,t,u⟩:=jAp o.type g i j l;unfold Oper.wp execOp;simp only[e,resolve,invoke,builtin,Sem.run_bind,Sem.run_pure,oH,List.map_toArray,yI,List.map_nil,f,h,q];exact p a b r t u
def jDu{d:Array Oper}{o:Oper}{a:Act}{K:Act->N->Prop}{Q:Exit->Act->N->Prop}{E:Prop}(f:o.guard=none)(s x:Operand)(g:o.op=.call {callee:=.builtin .append,args:=#[s,x],argTypes:=#[257,257]}){v:Zv}(h:a.eval s=v)(i:w.ownsRow k 267 6 v n U){e:Zv}(j:a.eval x=e)(l:Jg w e m V)(p:n+m<=200000)(q:k<=w.heap.size)
 (r:∀b c,c.ownsRow k 267 6 b (n+m) (U++V)->w.grownBy c v.ownBlock->(b.ownBlock=v.ownBlock\/b.ownBlock=some w.heap.size)->K (a.put o.dst b) c):
 if Region.wanted o (yielded d a.tmps)=true then Oper.wp Zf o a w K Q else E:=by
 have t:Region.wanted o (yielded d a.tmps)=true:=by simp[Region.wanted,f]
 rw[jB t];exact jFc s x g h i j l p q r
structure AF (u mb:Nat) (w:N) (l:Zv) (w':N) (l':Zv):Prop where
 os:w'.os=w.os
 tape:w'.tape=w.tape
 output:w'.output=w.output
 size:w.heap.size<=w'.heap.size
 block:∀k,k<w.heap.size->k≠u->k≠mb->l.ownBlock≠some k->w'.heap[k]? =w.heap[k]?
 row:l'.ownBlock=l.ownBlock\/∃g,l'.ownBlock=some g/\w.heap.size<=g
def AF.refl(u a:Nat)(w:N)(l:Zv):AF u a w l w l:=⟨rfl,rfl,rfl,jF _,λ_ _ _ _ _=>rfl,jD rfl⟩
def AF.trans{l d f:Zv}(h:AF k n w l u d)(b:AF k n u d v f):AF k n w l v f:=by
 have j:=h.size;refine⟨b.os.trans h.os,b.tape.trans h.tape,b.output.trans h.output,kN j b.size,λa m c g i=>?_,?_⟩
 .rw[b.block a (by omega) c g (λe=>?_),h.block a m c g i]
  rcases h.row with a|⟨g,a,m⟩
  .exact i (a.symm.trans e)
  rw[a] at e;cases e;omega
 rcases b.row with a|⟨g,a,m⟩
 .rcases h.row with c|⟨g,c,e⟩
  .exact jD (a.trans c)
  exact jE ⟨g,a.trans c,e⟩
 exact jE ⟨g,a,by omega⟩
def AF.A{l:Zv}(h:Zb w u):AF k n w l u l:=⟨h.os,h.tape,h.output,h.size,λa b _ _ _=>h.block a b,jD rfl⟩
def AF.below{l b:Zv}(h:AF k n w l u b)(d:m<=w.heap.size)(f:m<=k)(i:m<=n)(c:∀g,l.ownBlock=some g->m<=g):Below m w u:=
 ⟨h.os,h.tape,h.output,h.size,λa e=>h.block a (by omega) (by omega) (by omega) (λe=>by have:=c a e;omega)⟩
theorem Tryz.jx:Zf.underlying 58=some (.map 3 3):=by kernel_rfl
theorem Tryz.jy(w:N):(zeroValue 3).run Zf w=.ok (Y 0) w:=by kernel_rfl
def AC(h:jQ r t):0<=t.v/\t.v<=1000:=by
 have a:=(vW.1 h).1;rw[xU] at a;by_cases b:t.v=0
 .omega
 rw[jB b] at a;by_cases c:t.v<1\/1000<t.v
 .rw[jB c] at a;cases a
 omega
def Jl{s:List Pt×List (Int×Nat)}(h:vJ s.2 t.v=some k):kB t s=(k,s):=by
 obtain⟨v,f,a⟩:=t;rw[kB,h]
def Jm{s:List Pt×List (Int×Nat)}(h:vJ s.2 t.v=none):kB t s=((kB.addL t.e s).2.1.length,(kB.addL t.e s).2.1++[⟨t.v,t.f,(kB.addL t.e s).1,(kB.addL t.e s).2.1.length,0⟩],if t.v=0 then(kB.addL t.e s).2.2 else(t.v,(kB.addL t.e s).2.1.length)::(kB.addL t.e s).2.2):=by
 obtain⟨v,f,a⟩:=t;rw[kB,h]
def IZ(x:T):∀(a:Zt)(s:List Pt×List (Int×Nat)),kB.addL (a++[x]) s=((kB.addL a s).1++[(kB x (kB.addL a s).2).1],(kB x (kB.addL a s).2).2):=by
 intro a;induction a with
 |nil=>intro s;rfl
 |cons t a b=>
  intro s;show((kB t s).1::(kB.addL (a++[x]) (kB t s).2).1,(kB.addL (a++[x]) (kB t s).2).2)=_;rw[b];rfl
def Tk(h:l[k]? =some t)(s:List Pt×List (Int×Nat)):kB.addL (l.take (k+1)) s=((kB.addL (l.take k) s).1++[(kB t (kB.addL (l.take k) s).2).1],(kB t (kB.addL (l.take k) s).2).2):=by
 rw[vZ,h];exact IZ t _ s
def Nm:∀(a:Zt)(s:List Pt×List (Int×Nat)),(kB.addL a s).1.length=a.length:=by
 intro a;induction a with
 |nil=>intro s;rfl
 |cons t a b=>intro s;show(_::(kB.addL a (kB t s).2).1).length=_;rw[xI,b,xI]
def Ce:∀(n:Nat),(∀(t:T)(s:List Pt×List (Int×Nat)),t.E<=n->(kB t s).2.1.length<=s.1.length+t.E/\(kB t s).2.2.length<=s.2.length+t.E)/\
 (∀(a:Zt)(s:List Pt×List (Int×Nat)),T.E.szL a<=n->(kB.addL a s).2.1.length<=s.1.length+T.E.szL a/\(kB.addL a s).2.2.length<=s.2.length+T.E.szL a):=by
 intro n;induction n with
 |zero=>
  refine⟨λt s h=>by have:=t.I;omega,λa s h=>?_⟩
  cases a with
  |nil=>exact⟨oD _ _,oD _ _⟩
  |cons t a=>have:=t.I;rw[T.F] at h;omega
 |succ n d=>
  have b:∀(t:T)(s:List Pt×List (Int×Nat)),t.E<=n+1->(kB t s).2.1.length<=s.1.length+t.E/\(kB t s).2.2.length<=s.2.length+t.E:=λt s h=>by
   have e:=T.M t
   cases c:vJ s.2 t.v with
   |some m=>rw[Jl c];exact⟨oD _ _,oD _ _⟩
   |none=>
    rw[Jm c];have f:=d.2 t.e s (by omega);refine⟨by rw[qB,Ir];omega,?_⟩;show(if t.v=0 then _ else _:List (Int×Nat)).length<=_;split
    .omega
    rw[xI];omega
  refine⟨b,λa=>?_⟩;induction a with
  |nil=>intro s _;exact⟨oD _ _,oD _ _⟩
  |cons t a c=>
   intro s h;rw[T.F] at h ⊢;have e:=b t s (by omega);have f:=c (kB t s).2 (by omega);show(kB.addL a (kB t s).2).2.1.length<=_/\(kB.addL a (kB t s).2).2.2.length<=_;omega
def rJ(c:Zp)(b:Nat)(w:N)(l:Zv)(P:List Pt):Prop:=
 ∃a,w.ownsRow b 267 6 l P.length a/\cI (λk=>c k/\l.ownBlock≠some k) w P a
def rJ.row{l:Zv}{P:List Pt}(h:rJ p k w l P):∀g,l.ownBlock=some g->k<=g/\g<w.heap.size:=by
 obtain⟨b,a,_⟩:=h;exact kO a
def rJ.mono{w':N}{l:Zv}{P:List Pt}(h:rJ p k w l P)(c:∀a,p a->l.ownBlock≠some a->a<w.heap.size->p1 a/\w'.heap[a]? =w.heap[a]?)(e:∀g,l.ownBlock=some g->w'.heap[g]? =w.heap[g]?):rJ p1 k w' l P:=by
 obtain⟨f,i,j⟩:=h;exact⟨f,vT i e,Ii (λa b d=>⟨⟨(c a b.1 b.2 d).1,b.2⟩,(c a b.1 b.2 d).2⟩) j⟩
def GU{l d:Zv}{P:List Pt}{x:Pt}(g:cI (λb=>p b/\l.ownBlock≠some b) w P U)
 (h:nS (λb=>p b/\l.ownBlock≠some b) w x.e a1)
 (j:u.ownsRow k 267 6 d (P.length+1) (U++[Y x.v,Y x.f,.slice a n m,.slice a1 x.e.length i,Y (x.Q:Int),Y x.size])) (o:w.grownBy u l.ownBlock) (c:d.ownBlock=l.ownBlock\/d.ownBlock=some w.heap.size):
 rJ p k u d (P++[x]):=by
 refine⟨_,by rw[qB];exact j,Ii (λb e f=>⟨⟨e.1,?_⟩,o.block b f (λf=>e.2 f.symm)⟩) (FU g ⟨a,n,m,a1,i,[],rfl,h,rfl⟩)⟩;rcases c with c|c
 .rw[c];exact e.2
 rw[c];intro f;cases f;omega
structure AX (c:Zp) (base u mb:Nat) (w:N) (l:Zv) (s:List Pt×List (Int×Nat)):Prop where
 h:w.cell? (D u 0)=some l
 map:w.cell? (D u 1)=some (.map (some mb))
 outs:rJ c base w l s.1
 mp:kU w mb s.2.length (λv=>(vJ s.2 v).map (λn:Nat=>Value.int .i64 (n:Int)))
 ki:∀k,w.frozen? (D u k)=false
 ub:u<base
 qi:mb<base
 ne:u≠mb
def AX.mono{w':N}{l:Zv}{s:List Pt×List (Int×Nat)}(h:AX p k n m w l s)(d:∀b,p b->l.ownBlock≠some b->b<w.heap.size->p1 b/\w'.heap[b]? =w.heap[b]?)(e:∀g,l.ownBlock=some g->w'.heap[g]? =w.heap[g]?)
 (c:w'.heap[n]? =w.heap[n]?) (f:w'.heap[m]? =w.heap[m]?):AX p1 k n m w' l s:=
 ⟨(kH (w:=w) (a:=(D n 0)) c).trans h.h,(kH (w:=w) (a:=(D n 1)) c).trans h.map,h.outs.mono d e,h.mp.same f,λb=>(gZ (w:=w) (a:=(D n b)) c).trans (h.ki b),h.ub,h.qi,h.ne⟩
def AX.below{l:Zv}{s:List Pt×List (Int×Nat)}(h:AX p k n m w l s)(a:Zb w u):AX p k n m u l s:=
 h.mono (λb c _ d=>⟨c,a.block b d⟩) (λg b=>a.block g (h.outs.row g b).2) (a.block n (kA h.h)) (a.block m h.mp.lt)
def AF.grown{l c:Zv}{r:Option Nat}(h:AF k n w l u c)(a:u.grownBy v r)(e:∀g,r=some g->w.heap.size<=g):AF k n w l v c:=
 ⟨a.os.trans h.os,a.tape.trans h.tape,a.output.trans h.output,kN h.size a.size,λb d f i j=>by
  rw[a.block b (kV d h.size) (λm=>by have:=e b m.symm;omega)];exact h.block b d f i j,h.row⟩
def XI{b:Zv}{a:List Nat}(h:qR k w b (a.map (λn:Nat=>(n:Int))))(j:∀g,b.ownBlock=some g->p g)(c:a.length<=100000):∃d l,b=.slice d a.length l/\nS p w a d:=by
 by_cases f:a=[]
 .subst f
  obtain⟨m,o,e⟩:=zF h;exact⟨m,o,e,c,jD rfl⟩
 have q:0<(a.map (λn:Nat=>(n:Int))).length:=by rw[dY];exact Ek.2 f
 obtain⟨g,r,e,_,_,s⟩:=fX h q;rw[dY] at e;refine⟨some (D g 0),r,e,c,jE ⟨g,0,rfl,j g (by rw[e];rfl),λt i=>?_⟩⟩;rw[kK];refine s t _ ?_;rw[bZ,bZ,jO i,dI,jO i];rfl
def jDe{b c d e f h:Zv}(l:u.heap=(w.alloc (.cells #[b,c,d,e,f,h] g)).heap)(m:k=w.heap.size)(n:∀i,i∈[b,c,d,e,f,h]->i.oneCell'=true):Jg u (Zx k 1 1) 1 [b,c,d,e,f,h]:=
 jE ⟨k,0,1,rfl,rfl,λj i o=>by
  rw[kK,kH (w:=w.alloc (.cells #[b,c,d,e,f,h] g)) (a:=(D k j)) (by rw[l]),jJ j m];simpa using o,n⟩
def kU.congr{f g:Int->Option Zv}(h:kU w k n f)(e:∀a,f a=g a):kU w k n g:=by
 have:f=g:=funext e;exact this▸h
def EC{l d:Zv}{s:List Pt×List (Int×Nat)}{x:Pt}
 (c:AX p k n m w l s) (F:∀b,p b->k<=b) (f:Zb w u)
 (G:cI (λb=>p b/\l.ownBlock≠some b) w s.1 U) (H:nS (λb=>p b/\l.ownBlock≠some b) w x.e a1)
 (y:v.ownsRow k 267 6 d (s.1.length+1) (U++[Y x.v,Y x.f,.slice a i j,.slice a1 x.e.length n1,Y (x.Q:Int),Y x.size])) (g:u.grownBy v l.ownBlock) (z:d.ownBlock=l.ownBlock\/d.ownBlock=some u.heap.size):
 AX p k n m (v.setCell (D n 0) d) d (s.1++[x],s.2)/\AF n m w l (v.setCell (D n 0) d) d/\v.cell? (D n 0)=some l/\v.frozen? (D n 0)=false/\v.cell? (D n 1)=some (.map (some m))/\∀b,b<w.heap.size->b≠n->l.ownBlock≠some b->v.heap[b]? =w.heap[b]?:=by
 have A:=c.outs.row;have I:=kA c.h;have J:=c.mp.lt;have K:=c.ub;have L:=c.qi;have M:=f.size;have S:=g.size;have q:∀b,b<w.heap.size->l.ownBlock≠some b->v.heap[b]? =w.heap[b]?:=λb e o=>by rw[g.block b (by omega) (λh=>o h.symm)];exact f.block b e
 have O:l.ownBlock≠some n:=λh=>by have:=(A n h).1;omega
 have P:l.ownBlock≠some m:=λh=>by have:=(A m h).1;omega
 have r:=q n I O;have B:Zq v n 0 l:=(kH (w:=w) (a:=(D n 0)) r).trans c.h;have C:Zq v n 1 (.map (some m)):=(kH (w:=w) (a:=(D n 1)) r).trans c.map;have Q:∀h,d.ownBlock=some h->k<=h/\h<v.heap.size:=kO y;have R:rJ p k v d (s.1++[x]):=GU (Ii (λb e t=>⟨e,f.block b t⟩) G) (Sn (λb e t=>⟨e,f.block b t⟩) H) y g z;have t:∀b,b≠n->(v.setCell (D n 0) d).heap[b]? =v.heap[b]?:=λb e=>vL _ _ _ _ e;refine⟨⟨pS _ _ _ B,by rw[yE _ _ _ _ (wO (by omega))];exact C,R.mono (λb E _ _=>⟨E,t b (by have:=F b E;omega)⟩) (λh E=>t h (by have:=(Q h E).1;omega)),(c.mp.same (q m J P)).same (t m c.ne.symm),λb=>by rw[dC,gZ (w:=w) (a:=(D n b)) r];exact c.ki b,K,L,c.ne⟩,⟨?_,?_,?_,?_,λb e E h h=>by rw[t b E];exact q b e h,?_⟩,B,by rw[gZ (w:=w) (a:=(D n 0)) r];exact c.ki 0,C,λb e _ h=>q b e h⟩
 .show v.os=_;exact g.os.trans f.os
 .show v.tape=_;exact g.tape.trans f.tape
 .show v.output=_;exact g.output.trans f.output
 .show w.heap.size<=(v.setCell (D n 0) d).heap.size
  simp[World.setCell];omega
 rcases z with o|o
 .exact jD o
 exact jE ⟨_,o,M⟩
def ED(f:Zn)(a g u b h:Nat):Prop:=∀(t:T)(d:Zo)(e:Nat)(s:List Pt×List (Int×Nat))(l:Zv)(c:Zp)(w:N),t.E<h->jQ f t->s.1.length+t.E<=1000->s.2.length+t.E<=1000->a<=w.heap.size->(∀k,c k->a<=k)->(∀k,w.heap.size<=k->c k)->AX c a u b w l s->jT (λk=>k<g) w t.e d->
    Calls Zf 205 #[Zr u,.agg (Zj t d e)] w λi d=>∃e,i=.returned (Y ((kB t s).1:Nat))/\AX c a u b d e (kB t s).2/\AF u b w l d e
structure AL (c:Zp) (base u mb:Nat) (W1:N) (l:Zv) (args:Zt) (s:List Pt×List (Int×Nat)) (k:Nat) (lr:Zv) (wr:N) (l':Zv):Prop where
 qk:qR W1.heap.size wr lr ((kB.addL (args.take k) s).1.map (λn:Nat=>(n:Int)))
 ax:AX (λj=>c j/\lr.ownBlock≠some j) base u mb wr l' (kB.addL (args.take k) s).2
 af:AF u mb W1 l wr l'
 vi:∀g,lr.ownBlock=some g->l'.ownBlock≠some g
def AL.step{y:Zv}{s:List Pt×List (Int×Nat)}{c:Zv}{z f h:Zv}{x:T}{o1 o2:Obj}(r:AL p k n m w y l s i c u z)(A:l[i]? =some x)(L:k<=w.heap.size)
 (d:AX (λj=>p j/\c.ownBlock≠some j) k n m v f (kB x (kB.addL (l.take i) s).2).2) (B:AF n m (u.alloc o1) z v f)
 (H:qR w.heap.size w1 h ((kB.addL (l.take i) s).1.map (λI:Nat=>(I:Int))++[((kB x (kB.addL (l.take i) s).2).1:Int)])) (C:(v.alloc o2).grownBy w1 c.ownBlock) (E:h.ownBlock=c.ownBlock\/h.ownBlock=some (v.alloc o2).heap.size):AL p k n m w y l s (i+1) h w1 f:=by
 have F:=d.outs.row;have o:=kO r.qk;have G:∀g,c.ownBlock=some g->f.ownBlock≠some g:=λg a e=>by
  rcases B.row with b|⟨t,b,q⟩
  .exact r.vi g a (b.symm.trans e)
  rw[b] at e;cases e;have:=(o g a).2;rw[qE] at q;omega
 have M:=d.ub;have O:=d.qi;have J:=kA d.h;have K:=d.mp.lt;have q:∀j,j<v.heap.size->c.ownBlock≠some j->w1.heap[j]? =v.heap[j]?:=λj b t=>by
  rw[C.block j (by rw[qE];omega) (λe=>t e.symm)];exact(jG v o2).block j b
 refine⟨?_,?_,?_,?_⟩
 .rw[Tk A,nP];exact H
 .rw[Tk A]
  refine d.mono (λj t b b=>⟨⟨t.1,?_⟩,q j b t.2⟩) (λg a=>q g (F g a).2 (λe=>G g e a)) (q n J (λe=>by have:=(o n e).1;omega)) (q m K (λe=>by have:=(o m e).1;omega));rcases E with b|b
  .rw[b];exact t.2
  rw[b,qE];intro e;cases e;omega
 .refine AF.grown ((r.af.trans (AF.A (jG u o1))).trans (B.trans (AF.A (jG v o2)))) C (λg a=>(o g a).1)
 intro g a e;rcases E with b|b
 .exact G g (b.symm.trans a) e
 have t:=(F g e).2;rw[b,qE] at a;cases a;omega
def AX.stored{l:Zv}{P:List Pt}{d:List (Int×Nat)}(h:AX p k n m w l (P,d))(s:∀b,p b->k<=b)(t:kU u m (d.length+1) (λo=>if o=z then some (Y (i:Int)) else(vJ d o).map (λi:Nat=>Value.int .i64 (i:Int))))(f:w.grownBy u (some m)):AX p k n m u l (P,(z,i)::d)/\AF n m w l u l:=by
 have v:=h.ne;have y:=h.qi;have q:=h.outs.row;have x:=kA h.h;have c:∀b,b<w.heap.size->b≠m->u.heap[b]? =w.heap[b]?:=λb c g=>f.block b c (λe=>g (by simpa using e));have g:=c n x v;refine⟨⟨(kH (w:=w) (a:=(D n 0)) g).trans h.h,(kH (w:=w) (a:=(D n 1)) g).trans h.map,h.outs.mono (λb j _ r=>⟨j,c b r (by have:=s b j;omega)⟩) (λj r=>c j (q j r).2 (by have:=(q j r).1;omega)),?_,λb=>(gZ (w:=w) (a:=(D n b)) g).trans (h.ki b),h.ub,h.qi,h.ne⟩,f.os,f.tape,f.output,f.size,λb j _ r _=>c b j r,jD rfl⟩;refine t.congr (λb=>?_);show _=(if z=b then some i else vJ d b).map _;by_cases e:b=z
 .rw[jB e,jB e.symm];rfl
 rw[jC e,jC (λj=>e j.symm)]
def Tp(ba:Zn)(R:Nat)(b2:k<=n)(b3:k<=m)(ad:Nat):ED ba R k n m ad:=by
 induction ad with
 |zero=>intro t E S s F v w i;omega
 |succ ad ih=>
  intro t E S s F v w hN U b4 b5 b6 ae af l ag;have hv:=AC U;have b7:=l.ub;have b8:=kA l.h;have b9:=l.map;have an:=λG=>(l.mp.below (jG w G)).look_ok (t:=58) Tryz.jx (Tryz.jy _) (k:=t.v) (by omega) (by omega);have ao:=λG=>(l.mp.below (xH (jG w G))).look_ok (t:=58) Tryz.jx (Tryz.jy _) (k:=t.v) (by omega) (by omega);have HS:=X l
  cases x:vJ s.2 t.v with
  |some ap=>
   rw[Jl x];rw[x] at an ao;have aq:=X (λG ap=>Fh (jG w G) ap);clear x ag U ih l ae af
   go_in
   go_wp2_with fail
   go_region
   go_wp2;go_ret;exact⟨F,rfl,HS.below (aq _ 1),AF.A (aq _ 1)⟩
  |none=>
   have ca:=T.M t;have cb:t.e.length<=1000:=(by have:=T.length_le t.e;omega);rw[Jm x];rw[x] at an ao;obtain⟨d,P,b,H⟩:∃d P b,kB.addL t.e s=(d,P,b):=⟨_,_,_,rfl⟩;have cc:d.length<=1000:=(by have r:=Nm t.e s;rw[H] at r;have r:d.length=t.e.length:=r;omega);have cd:P.length<=1000/\b.length<=1000:=(by have r:=(Ce _).2 t.e s (jF _);rw[H] at r;have r:P.length<=_/\b.length<=_:=r;omega);rw[H];show Calls _ _ _ _ λe c=>∃o,e=.returned (Y (P.length:Nat))/\AX v R n m c o (P++[⟨t.v,t.f,d,P.length,0⟩],if t.v=0 then b else(t.v,P.length)::b)/\AF n m w F c o;obtain⟨V,hV⟩:∃V,V=if t.v=0 then b else(t.v,P.length)::b:=⟨_,rfl⟩
   rw[<-hV];have HV:=X hV;have HR:=X H;clear H hV;have bb:=X ih;have ah:=X ae;have ar:=X af;have au:=X ag;have bc:=X (vW.1 U).2;obtain⟨I,J⟩:=Ze (w.alloc (.cells (Zj t E S) 43));have av:=X J;have H3:Hid (jK I w.heap.size (Y t.v) (Y t.f) (Zk E t.e S)):=J▸jK.new 43 rfl;have W:Hid (Zb w I):=J▸jG _ _;have K:Hid (I.heap.size=w.heap.size+1):=J▸qE _ _;have aw:=HS.outs.row;have ai:=X aw;clear x ag U ih l ae af J aw
   go_in
   go_wp2_with fail
   go_region
   go_wp2
   go_loopw [7,26] (λlv aj wr=>∃(a:Nat)(o L:Zv),a<=t.e.length/\aj=Y a/\lv=L/\AL v R n m I F t.e s a L wr o) (λ_ aj _=>t.e.length - (intOf aj).toNat)
   case atStart=>
    refine⟨0,F,Zd,jY _,rfl,rfl,⟨rfl,jD ⟨rfl,rfl⟩⟩,?_,?_,λg f=>by cases f⟩
    .rw[<-av.out]
     exact(HS.below W).mono (λa hc _ _=>⟨⟨hc,λe=>by cases e⟩,rfl⟩) (λ_ _=>rfl) rfl rfl
    rw[<-av.out];exact AF.A ⟨rfl,rfl,rfl,jF _,λ_ _=>rfl⟩
   case round=>
    obtain⟨a,o,L,hk,rfl,ax,p⟩:=hrel;obtain rfl:=ax.symm;clear ax;have M:=X p;have ce:=HS.qi;have bd:=X (H3.same (p.af.block w.heap.size (by rw[K.out];omega) (by omega) (by omega) (λe=>by have:=(ai _ e).2;omega)));obtain⟨b0,cf,cg,_,_,_⟩:=bd;have ch:=p.af.size;have ci:w.heap.size+1<=wr.heap.size:=(by have:=K.out;omega);have be:R<=I.heap.size:=(by have:=K.out;omega);by_cases bf:a<t.e.length
    .obtain⟨cj,ck,rfl⟩:=dV au (by omega)
     obtain⟨Z,O⟩:=Zg bf
     have ay:=xN (λj h bg=>by
      have h:=h
      rw[p.af.block j (by omega) (by omega) (by omega) (λe=>by have:=(ai.out j e).1;omega)];exact W.block j bg) au
     obtain⟨bh,bi,_,k0,k1,k2,az⟩:=dT ay O;obtain⟨bj,bk⟩:=Dr O;have bl:=T.M Z;have bm:=(Ce _).2 (t.e.take a) s (jF _);have a0:=nH.1 bc Z (jU O);have Hx:=X (λo1=>bb Z bh bi (kB.addL (t.e.take a) s).2 o (λj=>v j/\L.ownBlock≠some j) (wr.alloc o1) (by omega) a0 (by omega) (by omega) (by rw[qE];omega) (λj h=>ah j h.1) (λj h=>⟨ar j (by rw[qE] at h;omega),λe=>by have:=(kO p.qk j e).2;rw[qE] at h;omega⟩) (p.ax.below (jG wr o1)) (jS o1 az));have bn:=X O;have cl:(a:Int)<t.e.length:=(by omega);have cm:(0:Int)<=a:=(by omega);clear O ay az bj bk bl bm a0 p
     go_wp2_with fail
     refine(Hx _).mono ?_;rintro e w5 ⟨l5,rfl,a1,aa⟩;have cn:wr.heap.size+1<=w5.heap.size:=by have:=aa.size;rw[qE] at this;exact this
     have a2:=vT M.qk (λg f=>by
      have h1:=kO M.qk g f
      rw[aa.block g (by rw[qE];omega) (by omega) (by omega) (M.out.vi g f)];exact(jG wr _).block g h1.2)
     have bo:=X (λo2=>qR.below a2 (jG w5 o2));have bp:=X a1;have bq:=X aa;have HL:Hid ((kB.addL (t.e.take a) s).1.length<=1000):=(by show _<=_;rw[Nm,yD];omega);clear a2 a1 aa Hx
     go_wp2_with (at_builtin;go_must (refine DZ rfl (.tmp 30) (.tmp 34) rfl rfl (bo _) rfl (jDg (jJ 0 rfl)) (by have:=HL.out;rw[dY,Ir];omega) (by rw[qE];omega) ?_))
     intro v6 w6 y Q z;have br:=X (M.step bn be bp bq y Q (by rw[qE];exact z));clear y Q z
     go_wp2_with fail
     go_roundw
     case rel=>exact⟨a+1,l5,v6,by omega,by go_num,rfl,br⟩
     case measure=>simp[intOf];omega
    have bs:a=t.e.length:=(by omega);subst bs;obtain⟨ab,ak,al,a3⟩:=p;rw[qU,HR.out] at ab ak;have a4:∀g,L.ownBlock=some g->v g/\o.ownBlock≠some g:=λg f=>⟨ar g (by have:=(kO ab g f).1;have:=K.out;omega),a3 g f⟩;obtain⟨bt,bu,bv,a5⟩:=XI (a:=d) (p:=λg=>v g/\o.ownBlock≠some g) ab a4 (by omega);have u:=ak.mono (λj h _ _=>⟨h.1,rfl⟩) (λ_ _=>rfl) rfl rfl;obtain⟨xs,ac,a6⟩:=u.outs;obtain⟨la,lc,bw⟩:=zF ac;subst bv;subst bw;have co:=X u.outs.row;have q0:=u.h;have q1:=u.map;have q2:=u.ki 0;have bx:=X u;have HN:=X a5;have HK:=X a6;have HF:=X al;have HO:=X (λ(o1:Obj)(c:N)(i:c.heap=(wr.alloc o1).heap)=>vT ac (u:=c) (λg f=>by rw[i];exact(jG wr o1).block g (kO ac g f).2));have cp:n<wr.heap.size:=(by omega);have bz:Hid ((Value.slice la P.length lc).ownBlock≠some w.heap.size):=λe=>by
     rcases al.row with i|⟨g,i,h'⟩
     .have:=(ai _ (i.symm.trans e)).2;omega
     rw[i] at e;cases e;have:=K.out;omega
    clear ab ak al a3 a4 a5 u a6 ac M
    go_wp2_with fail
    go_region_law ((first
     |(refine jDu rfl (.tmp 46) (.tmp 51) rfl rfl (HO (.cells #[Y t.v,Y t.f,Zk E t.e S,Zk bt d bu,Y (P.length:Int),Y 0] 267) _ rfl) rfl (jDe (w:=wr) (g:=267) rfl rfl (by simp[Value.oneCell'])) (by omega) (by simp;omega) ?_
       intro v6 w6 y Q z;obtain⟨a7,a8,b1⟩:=zF y;subst b1;have A:=X (EC (x:=⟨t.v,t.f,d,P.length,0⟩) bx.out ah.out (by exact⟨rfl,rfl,rfl,(jG wr _).size,(jG wr _).block⟩) HK.out HN.out y Q (by first|exact z|(rw[qE];exact z)));obtain⟨_,_,y0,y1,y2,y3⟩:=A.out;have z0:=(kH (w:=wr) (a:=(D w.heap.size 0)) (y3 w.heap.size (by omega) (by omega) bz.out)).trans b0
       clear y3 y Q z)))
    all_goals
     by_cases B:t.v=0
     .have e0:(t.v !=0)=false:=by simpa using B
      have am:Hid (V=b):=(by show _=_;rw[HV.out,jB B]);clear B
      go_wp2_with fail
      go_ret;exact⟨rfl,_,by rw[am.out];exact A.out.1,(AF.A W.out).trans (HF.out.trans A.out.2.1)⟩
     have e0:(t.v !=0)=true:=(by simpa using B);have am:Hid (V=(t.v,P.length)::b):=(by show _=_;rw[HV.out,jC B]);have HM:=X (λc(i:c.heap=(w6.setCell (D n 0) (.slice a7 (P.length+1) a8)).heap)=>A.out.1.mp.same (w':=c) (by rw[i]));obtain⟨w7,cq,a9,C⟩:=(HM ((w6.setCell (D n 0) (.slice a7 (P.length+1) a8)).drew) rfl).store Tryz.jx (show b.length<maxLen by unfold maxLen;omega) (k:=t.v) (by omega) (by omega) (Y (P.length:Int));have HQ:=X (A.1.stored ah a9 ⟨C.os,C.tape,C.output,C.size,C.block⟩);clear B a9 C HM
     go_wp2_with fail
     go_region
     all_goals
      go_wp2;go_ret;exact⟨_,rfl,by rw[am.out];exact HQ.1,(AF.A W).trans (HF.trans (A.2.1.trans HQ.2))⟩
structure Md (w wr:N) (v f:Int) (n:Nat) (L:Zt) (k g b7:Nat):Prop where
 kids:∃cs,eO (λx=>w.heap.size<x/\x≠g) wr (L.take k) cs/\∀j u,cs[j]? =some u->wr.cell? (D g j)=some u
 cells:∀j,j<n*3->∃u,wr.cell? (D g j)=some u
 fr:∀j,wr.frozen? (D g j)=false
 made:jK wr b7 (Y v) (Y f) (Zx g n n)
 res:jK wr (w.heap.size) (Y 0) (Y 0) (Zd)
 below:Zb w wr
 gg:w.heap.size<g
 gl:g<wr.heap.size
 bb:w.heap.size<b7
 ne:b7≠g
def Md.step(h:Md w u z z1 k l n m i)(J:l.length=k)(q:l[n]? =some t)(E:Zb u v)(F:jT (λx=>u.heap.size<=x) v t.e a):
 Md w (qZ v m (n*3) (Y t.v) (Y t.f) (.slice a t.e.length j)) z z1 k l (n+1) m i:=by
 have K:n<k:=by
  rcases xW n l.length with h|h
  .omega
  rw[yZ h] at q;cases q
 have r:=h.gl;have L:=h.gg;have G:=h.below.size;have d:=E;have M:=d.size;obtain⟨y,A,H⟩:=h.kids;have B:=Se A;rw[Is (by omega)] at B;have C:∀b,b<k*3->∃f,v.cell? ⟨m,b,none⟩=some f:=λb e=>by
  rw[d.cell (p:=⟨m,b,none⟩) r];exact h.cells b e
 have g:=Lm (w:=v) (k:=m) (n:=n*3) (a:=Y t.v) (b:=Y t.f) (c:=.slice a t.e.length j) (λb _ c=>C b (by omega));refine⟨⟨y++[Y t.v,Y t.f,.slice a t.e.length j],?_,?_⟩,?_,?_,(h.made.below d).same (xQ h.ne),(h.res.below d).same (xQ (by have:=h.gg;omega)),xZ (h.below.trans (d.mono G)) (by have:=h.gg;omega) _ _ _,h.gg,by rw[iN];omega,h.bb,h.ne⟩
 .rw[vZ,q]
  refine Sc (Ij (λx c o=>⟨c,by rw[xQ c.2];exact d.block x o⟩) A) ⟨a,j,[],rfl,?_,rfl⟩;refine nM (λs o z c I=>?_) _ _ _ (jF _) F;have c:=c;exact⟨⟨by omega,by omega⟩,by rw[kH (w:=v) (a:=⟨s,o,none⟩) (xQ (show s≠m by omega))];exact I⟩
 .intro b f c
  rcases xW b y.length with e|e
  .rw[mY e] at c
   rw[Ap (by omega),d.cell (p:=⟨m,b,none⟩) r];exact H b f c
  rw[nO e,B] at c;have I:b - n*3=0\/b - n*3=1\/b - n*3=2:=by
   rcases xW (b - n*3) 3 with o|o
   .omega
   rw[yZ (by simpa using o)] at c;cases c
  rcases I with o|o|o
  .rw[o] at c
   obtain rfl:Value.int .i64 t.v=f:=by simpa using c
   rw[show b=n*3 by omega];exact g.1
  .rw[o] at c
   obtain rfl:Value.int .i64 t.f=f:=by simpa using c
   rw[show b=n*3+1 by omega];exact g.2.1
  rw[o] at c;obtain rfl:Value.slice a t.e.length j=f:=by simpa using c
  rw[show b=n*3+2 by omega];exact g.2.2
 .intro b e
  by_cases f:b<n*3\/n*3+2<b
  .rw[Ap f];exact C b e
  have:b=n*3\/b=n*3+1\/b=n*3+2:=by omega
  rcases this with rfl|rfl|rfl
  .exact⟨_,g.1⟩
  .exact⟨_,g.2.1⟩
  exact⟨_,g.2.2⟩
 intro b;rw[Ql,d.frozen (p:=⟨m,b,none⟩) r];exact h.fr b
def Md.fin(h:Md w u z z1 k l k n m)(b:l.length=k):jT (λx=>w.heap.size<x) u l (some (D n 0)):=by
 obtain⟨f,a,c⟩:=h.kids;rw[<-b,qU] at a;exact Sd h.gg (Ij (λx d _=>⟨d.1,rfl⟩) a) (λj d e=>by rw[kK];exact c j d e)
def Md.start(a:u.heap[n]? =some (.cells (tZ k) 43))(b:jK u m (Y z) (Y z1) (Zx n k k))(c:jK u (w.heap.size) (Y 0) (Y 0) (Zd))(d:Zb w u)(e:w.heap.size<n)(f:w.heap.size<m)(g:m≠n):Md w u z z1 k l 0 n m:=by
 refine⟨⟨[],rfl,λj h h=>by simp at h⟩,λj h=>?_,λj=>iG a j,b,c,d,e,(gJ.1 a).1,f,g⟩;have i:j<(tZ k).size:=by rw[Qq];exact h
 refine⟨(tZ k)[j],?_⟩;unfold World.cell?;rw[a];simp[i]
def Md.behind(h:Md w u z z1 k l n m i)(r:n<k):∀(a:N),Zb u a->(a.cell? (D i 2)=some (Zx m k k))/\
 (∃c d e,a.cell? (D m (n*3))=some c/\a.cell? (D m (n*3+1))=some d/\a.cell? (D m (n*3+2))=some e)/\(∀j,a.frozen? (D m j)=false):=by
 intro a f;have b:=f;have g:=h.gl;obtain⟨c,o⟩:=h.cells (n*3) (by omega);obtain⟨d,p⟩:=h.cells (n*3+1) (by omega);obtain⟨e,q⟩:=h.cells (n*3+2) (by omega);exact⟨(h.made.below b).c2,⟨c,d,e,jP b o,jP b p,jP b q⟩,λj=>by rw[b.frozen g];exact h.fr j⟩
def bC(a:Nat->Option T):List Nat->Option Zt
 |[]=>some []
 |b::l=>match a b with
  |none=>none
  |some t=>match bC a l with
   |none=>none
   |some c=>some (t::c)
def vQ(P:List Pt):Nat->Nat->Option T
 |0,_=>none
 |n+1,k=>match yB P (P.length+1) k with
  |none=>none
  |some h=>match P[h]? with
   |none=>none
   |some p=>match bC (vQ P n) p.e with
    |none=>none
    |some a=>some ⟨p.v,p.f,a⟩
def oR{P:List Pt}(a:vQ P k n=some t):∃m h p b,k=m+1/\yB P (P.length+1) n=some h/\P[h]? =some p/\bC (vQ P m) p.e=some b/\t=⟨p.v,p.f,b⟩:=by
 cases k with
 |zero=>cases a
 |succ k=>
  rw[vQ] at a;split at a
  .cases a
  rename_i h c;split at a
  .cases a
  rename_i p d;split at a
  .cases a
  rename_i b e;exact⟨k,h,p,b,rfl,c,d,e,(kT a).symm⟩
def VF{d:Nat->Option T}:∀{l:List Nat}{a:Zt},bC d l=some a->a.length=l.length/\∀k,k<l.length->∃c,a[k]? =some c/\d (l.getD k 0)=some c:=by
 intro l;induction l with
 |nil=>intro a h;rw[bC] at h;cases h;exact⟨rfl,λk b=>by simp at b⟩
 |cons o l e=>
  intro a h;rw[bC] at h;split at h
  .cases h
  rename_i t f;split at h
  .cases h
  rename_i p g
  cases h
  obtain⟨i,j⟩:=e g;refine⟨by simp[i],λk b=>?_⟩
  cases k with
  |zero=>exact⟨t,rfl,f⟩
  |succ k=>
   obtain⟨c,m,n⟩:=j k (by simpa using b);exact⟨c,by simpa using m,by simpa using n⟩
def yN.alloc{P:List Pt}(h:yN p w k n m P)(o:Obj):yN p (w.alloc o) k n m P:=h.below (jG _ _)
def yN.drew{P:List Pt}(h:yN p w k n m P):yN p w.drew k n m P:=h.below (xH (jW _ _))
def VI(q:Zp)(u d o:Nat)(P:List Pt)(e:Nat):∀(k:Nat)(t:T)(w:N),yN q w u d o P->vQ P e k=some t->
 Calls Zf 217 #[Zr u,Y (k:Int)] w λl m=>
  ∃r R,l=.returned (.agg #[Y t.v,Y t.f,.slice r t.e.length R])/\jT (λk=>w.heap.size<=k) m t.e r/\Zb w m:=by
 induction e with
 |zero=>intro k t w _ h;cases h
 |succ e s=>
  intro k t w f x;obtain⟨S,h,p,L,U,y,g,z,rfl⟩:=oR x;obtain rfl:e=S:=by omega
  obtain⟨n,A⟩:=VF z;simp only;obtain⟨i,b⟩:=Ze (w.alloc (.cells #[Y 0,Y 0,Zd] 43));have a:Zb w i:=b▸jG _ _;have B:i.heap.size=w.heap.size+1:=by rw[b];simp
  have C:Hid (jK i w.heap.size (Y 0) (Y 0) (Zd)):=b▸jK.new 43 rfl;have c:=X (f.below a);have am:=(Zl g);obtain⟨V,W,Z,aa,ac,E,F,G,H,I,J,j⟩:=f.jn h p g;have x0:=jP a E;have x1:=jP a F;have x2:=jP a G;have x3:=jP a H;have x4:=jP a I;have x5:=jP a J;have ab:=X f;have K:=c.h;have an:=c.len;have ad:=kA K;have ae:=c.qa;have ao:(h:Int)<P.length:=by omega
  have ap:(0:Int)<=h:=by omega
  have aq:=j.1;have af:=X j;have Hh:=X y;have ag:=X A;have ah:=X s;have M:=X b;have O:=X a;have Q:=X B;clear E F G H I J B x f U y g z A b j s a
  go_in
  go_upto_region 1 with fail
  rw[<-M.out]
  go_cut [5] (λb wc=>∃a,b=Zr a/\lU wc a (Y p.v) (Y p.f) (.slice V W Z) (.slice aa p.e.length ac) (Y (p.Q:Int)) (Y p.size)/\Hid (Zb i wc))
  case first=>as_aux_lemma=>
   go_region_with (go_at_call 214;refine(Fs q _ u d o P (P.length+1) k h ?_ Hh).mono ?_;(focus ((repeat' (first|with_reducible exact c.out|with_reducible refine yN.alloc ?_ _|with_reducible refine yN.drew ?_));done));rintro l m ⟨rfl,b⟩;obtain rfl:=b.symm;clear b)
   all_goals (go_wp2_with fail;go_meet;refine⟨_,rfl,?_,?_⟩)
   all_goals first|exact xH (jG _ _)|exact jG _ _|(refine lU.below ?_ (xH (jW _ _));exact lU.new _ (by simp))|exact lU.new _ rfl
  case rest=>as_aux_lemma=>
   obtain⟨a,rfl,s,b⟩:=hcut;obtain⟨a,H⟩:=Ze wc;subst H;have A:=Lk p.e.length (by omega);have x:=O.trans (b.mono (by have:=Q.out;omega));have ar:w.heap.size<a.heap.size:=(by have h1:=Q.out;have h2:=b.size;omega);have f:=X (C.below b);have j:=X s;obtain⟨y,s1,s2,B,E,F⟩:=s;have au:=kA y;clear ad ae K x0 x1 x2 x3 x4 x5 c M C b O
   go_upto_region 2 with fail
   go_cut [6] (λz c=>∃g b,z=Zr b/\Md w c p.v p.f p.e.length L 0 g b/\Hid (Zb a c))
   case first=>as_aux_lemma=>
    go_region
    all_goals (go_wp2_with fail;go_meet)
    .refine⟨a.heap.size,a.heap.size+1,rfl,Md.start ?_ ?_ ?_ ?_ (by omega) (by omega) (by omega),?_⟩
     .exact(zL (a.alloc _) _ _ (by simp)).trans (bR a _)
     .exact jK.same (jK.new 43 (by rw[qE])) rfl
     .exact jK.same ((f.alloc _).alloc _) rfl
     .exact xH (x.trans ((kF _ _ _).mono (by omega)))
     exact xH (kF _ _ _)
    refine⟨a.heap.size+1,a.heap.size,rfl,Md.start ?_ ?_ ?_ ?_ (by omega) (by omega) (by omega),?_⟩
    .have c:=bR (a.alloc (.cells #[Y p.v,Y p.f,Zx (a.heap.size+1) p.e.length p.e.length] 43)) (.cells (tZ p.e.length) 43)
     rw[qE] at c;exact c
    .exact jK.same ((jK.new 43 rfl).alloc _) rfl
    .exact jK.same ((f.alloc _).alloc _) rfl
    .exact xH (x.trans ((kF _ _ _).mono (by omega)))
    exact xH (kF _ _ _)
   case rest=>as_aux_lemma=>
    obtain⟨g,b,rfl,c,z⟩:=hcut;have I:=X c;obtain⟨C,r1,r2,G,J,K⟩:=j.below z;obtain⟨WD,M⟩:=Ze wc;subst M;clear c A y s1 s2 B E F f j z;go_wp2
    go_loopw [32] (λc wr=>∃(j:Nat),j<=p.e.length/\c=Y j/\Md w wr p.v p.f p.e.length L j g b) (λc _=>p.e.length - (intOf c).toNat)
    case atStart=>exact⟨0,jY _,rfl,I⟩
    case round=>
     obtain⟨j,y,rfl,b⟩:=hrel;have c:=X b;have z:=X (ab.below b.below);obtain⟨d0,d1,d2,g0,g1,g2⟩:=b.res;obtain⟨p0,p1,p2,_,_,_⟩:=b.made;have av:=b.gl;have aw:=b.made.lt;have ax:=b.gg;have O:=X (Bs b.below af);clear b C r1 r2 G J K;by_cases f:j<p.e.length
     .obtain⟨nb,ay,rfl,_,b⟩:=Iw O (show 0<p.e.length by omega)
      have cj:=b j f;obtain⟨J,A,B⟩:=ag j f;have K:=X A;have U:=X B;have ad:=X (c.behind f);generalize p.e.getD j 0=aj at*;have az:(j:Int)<p.e.length:=(by omega);have a0:(0:Int)<=j:=(by omega);have a1:j<=100000:=(by omega);clear b A B
      go_wp2_with fail
      go_region_with (go_at_call 217;refine(ah aj J _ ?_ U).mono ?_;(focus (first|with_reducible exact z.out|exact z.drew));rintro l A ⟨a2,a3,rfl,ae,B⟩;have C:Zb wr A:=dN B;clear B;obtain⟨q2,⟨v0,v1,v2,e0,e1,e2⟩,b⟩:=ad A C;have q0:=b (j*3);have q1:=b (j*3+1);have q3:=b (j*3+2);clear b)
      all_goals
       go_wp2_with fail
       go_roundw
       case rel=>exact⟨j+1,by omega,by go_num,c.step n K C ae⟩
       case measure=>simp[intOf];omega
     have ai:j=p.e.length:=(by omega);subst ai;have HF:=X (c.fin n);have ak:=X (c.res.set (Y p.v) (Y p.f) (Zx g p.e.length p.e.length));have al:=X c.below
     go_wp2_with fail
     obtain⟨E,F,G,_,_,_⟩:=ak;simp only[qZ,kK] at E F G;exact qS (v:=.agg #[Y p.v,Y p.f,Zx g p.e.length p.e.length]) (by simp[results,Tryz.results217,go_sem,E,F,G]) rfl ⟨some (D g 0),p.e.length,by rw[n],kQ (λj y=>by omega) (xN (λj y _=>xQ (k:=w.heap.size) (n:=0) (show j≠_ by omega)) HF),xZ (n:=w.heap.size) (m:=0) al (by omega) _ _ _⟩
end Go.Proofs.YtohdnhlfpldbmaaGreat
namespace Go.Proofs
open Go.Shelf
def Tryz.keysB_ren : Go.Shelf.Ren := ⟨fun | 7 => 233 | 10 => 237 | n => n, fun | 23 => 274 | 26 => 3 | 3 => 43 | 28 => 136 | 0 => 0 | 27 => 135 | 33 => 97 | 4 => 4 | n => n, fun | n => n⟩
theorem Tryz.keysB : Go.Proofs.SlLaysZI.n7 Tryz.prog Tryz.keysB_ren := {
  mixed := by kernel_rfl
  f7 := ⟨Tryz.f233.name, by decide, Tryz.func233.trans (congrArg some (by kernel_rfl))⟩
  f10 := ⟨Tryz.f237.name, by decide, Tryz.func237.trans (congrArg some (by kernel_rfl))⟩
  t0 := Tryz.underlying0
  a0 := Tryz.isAgg0
  z0 := Tryz.sizeOf0
  v0 := Tryz.zeroValue0
  t4 := Tryz.underlying4
  a4 := Tryz.isAgg4
  z4 := Tryz.sizeOf4
  v4 := Tryz.zeroValue4
  t23 := Tryz.underlying274
  a23 := Tryz.isAgg274
  z23 := Tryz.sizeOf274
  v23 := Tryz.zeroValue274
  t26 := Tryz.underlying3
  a26 := Tryz.isAgg3
  z26 := Tryz.sizeOf3
  v26 := Tryz.zeroValue3
  t27 := Tryz.underlying135
  a27 := Tryz.isAgg135
  z27 := Tryz.sizeOf135
  v27 := Tryz.zeroValue135
  t28 := Tryz.underlying136
  a28 := Tryz.isAgg136
  z28 := Tryz.sizeOf136
  v28 := Tryz.zeroValue136
  t33 := Tryz.underlying97
  a33 := Tryz.isAgg97
  z33 := Tryz.sizeOf97
  v33 := Tryz.zeroValue97 }
def Tryz.keysI_ren : Go.Shelf.Ren := ⟨fun | 7 => 216 | 10 => 229 | n => n, fun | 23 => 58 | 26 => 3 | 3 => 3 | 28 => 136 | 0 => 0 | 27 => 135 | 33 => 97 | 4 => 4 | n => n, fun | n => n⟩
theorem Tryz.keysI : Go.Proofs.SlLaysZI.n7 Tryz.prog Tryz.keysI_ren := {
  mixed := by kernel_rfl
  f7 := ⟨Tryz.f216.name, by decide, Tryz.func216.trans (congrArg some (by kernel_rfl))⟩
  f10 := ⟨Tryz.f229.name, by decide, Tryz.func229.trans (congrArg some (by kernel_rfl))⟩
  t0 := Tryz.underlying0
  a0 := Tryz.isAgg0
  z0 := Tryz.sizeOf0
  v0 := Tryz.zeroValue0
  t4 := Tryz.underlying4
  a4 := Tryz.isAgg4
  z4 := Tryz.sizeOf4
  v4 := Tryz.zeroValue4
  t23 := Tryz.underlying58
  a23 := Tryz.isAgg58
  z23 := Tryz.sizeOf58
  v23 := Tryz.zeroValue58
  t26 := Tryz.underlying3
  a26 := Tryz.isAgg3
  z26 := Tryz.sizeOf3
  v26 := Tryz.zeroValue3
  t27 := Tryz.underlying135
  a27 := Tryz.isAgg135
  z27 := Tryz.sizeOf135
  v27 := Tryz.zeroValue135
  t28 := Tryz.underlying136
  a28 := Tryz.isAgg136
  z28 := Tryz.sizeOf136
  v28 := Tryz.zeroValue136
  t33 := Tryz.underlying97
  a33 := Tryz.isAgg97
  z33 := Tryz.sizeOf97
  v33 := Tryz.zeroValue97 }
def Tryz.keysN_ren : Go.Shelf.Ren := ⟨fun | 7 => 80 | 10 => 117 | n => n, fun | 23 => 132 | 26 => 3 | 3 => 3 | 28 => 136 | 0 => 0 | 27 => 135 | 33 => 97 | 4 => 4 | n => n, fun | n => n⟩
theorem Tryz.keysN : Go.Proofs.SlLaysZI.n7 Tryz.prog Tryz.keysN_ren := {
  mixed := by kernel_rfl
  f7 := ⟨Tryz.f80.name, by decide, Tryz.func80.trans (congrArg some (by kernel_rfl))⟩
  f10 := ⟨Tryz.f117.name, by decide, Tryz.func117.trans (congrArg some (by kernel_rfl))⟩
  t0 := Tryz.underlying0
  a0 := Tryz.isAgg0
  z0 := Tryz.sizeOf0
  v0 := Tryz.zeroValue0
  t4 := Tryz.underlying4
  a4 := Tryz.isAgg4
  z4 := Tryz.sizeOf4
  v4 := Tryz.zeroValue4
  t23 := Tryz.underlying132
  a23 := Tryz.isAgg132
  z23 := Tryz.sizeOf132
  v23 := Tryz.zeroValue132
  t26 := Tryz.underlying3
  a26 := Tryz.isAgg3
  z26 := Tryz.sizeOf3
  v26 := Tryz.zeroValue3
  t27 := Tryz.underlying135
  a27 := Tryz.isAgg135
  z27 := Tryz.sizeOf135
  v27 := Tryz.zeroValue135
  t28 := Tryz.underlying136
  a28 := Tryz.isAgg136
  z28 := Tryz.sizeOf136
  v28 := Tryz.zeroValue136
  t33 := Tryz.underlying97
  a33 := Tryz.isAgg97
  z33 := Tryz.sizeOf97
  v33 := Tryz.zeroValue97 }
def Tryz.sortedB_ren : Go.Shelf.Ren := ⟨fun | 6 => 79 | 8 => 116 | 9 => 38 | 11 => 151 | 13 => 64 | 12 => 63 | 23 => 91 | 24 => 92 | 14 => 82 | 15 => 83 | 16 => 84 | 17 => 85 | 18 => 86 | 19 => 87 | 20 => 88 | 21 => 89 | 22 => 90 | 25 => 118 | 26 => 119 | 27 => 120 | 28 => 121 | 29 => 122 | 30 => 123 | 31 => 152 | n => n, fun | 26 => 3 | 28 => 136 | 24 => 22 | 0 => 0 | 3 => 3 | 37 => 115 | 48 => 149 | 50 => 151 | 4 => 4 | 40 => 141 | 39 => 140 | 45 => 146 | 5 => 5 | 9 => 9 | 51 => 170 | 55 => 174 | 57 => 201 | 58 => 202 | 33 => 97 | n => n, fun | n => n⟩
theorem Tryz.sortedB : Go.Proofs.SlLaysZI.n6 Tryz.prog Tryz.sortedB_ren := {
  mixed := by kernel_rfl
  f6 := ⟨Tryz.f79.name, by decide, Tryz.func79.trans (congrArg some (by kernel_rfl))⟩
  f8 := ⟨Tryz.f116.name, by decide, Tryz.func116.trans (congrArg some (by kernel_rfl))⟩
  f11 := ⟨Tryz.f151.name, by decide, Tryz.func151.trans (congrArg some (by kernel_rfl))⟩
  t0 := Tryz.underlying0
  a0 := Tryz.isAgg0
  z0 := Tryz.sizeOf0
  v0 := Tryz.zeroValue0
  t24 := Tryz.underlying22
  a24 := Tryz.isAgg22
  z24 := Tryz.sizeOf22
  v24 := Tryz.zeroValue22
  t26 := Tryz.underlying3
  a26 := Tryz.isAgg3
  z26 := Tryz.sizeOf3
  v26 := Tryz.zeroValue3
  t28 := Tryz.underlying136
  a28 := Tryz.isAgg136
  z28 := Tryz.sizeOf136
  v28 := Tryz.zeroValue136
  i26 := by kernel_rfl }
end Go.Proofs
namespace Go.Proofs.YtohdnhlfpldbmaaGreat
open Go.RowKit Go.Maps Go.Sort Go.Shelf
theorem jC9(m:Nat):AnyZI.SortsIn Tryz.prog Tryz.sortedB_ren Fence.wide m:=
 ⟨λb c a d W e f g=>callsIn_wide.2 (Go.Proofs.Tryz.slices_Sort_int b c a d W e f g),
  λp a W=>callsIn_wide.2 (Go.Proofs.Tryz.slices_Sort_int_none p a W)⟩
theorem Fu{w:N}{b n:Nat}{a:DataW Zv}{f:Int->Option Zv}(c:w.ownsMap Tryz.prog 3 Rv b n a)(d:∀k:Int,Maps.has a (.int .i64 k)=(f k).isSome/\∀v,f k=some v->∀z,a.atKey (.int .i64 k) z=.held v)
 {K:Zn} (e:K.Nodup) (g:∀x,x∈K↔(f x).isSome=true):K.Perm (intKeys a):=
 CollectedI.perm ⟨e,λx=>by rw[g x,(d x).1];simp⟩ c Tryz.jq Tryz.underlying3 (λ_=>rfl)
theorem TU(a:Option Nat)(w:N):Calls Tryz.prog 233 #[.map a] w λe b=>e=.returned (.func (.func 237) #[] #[Zr w.heap.size])/\b=w.alloc (.cells #[.map a] 274):=
 (callsIn_wide).1 (AnyZI.keys_in Tryz.keysB Fence.wide 5 trivial rfl a w)
theorem TW(a:Option Nat)(w:N):Calls Tryz.prog 216 #[.map a] w λe b=>e=.returned (.func (.func 229) #[] #[Zr w.heap.size])/\b=w.alloc (.cells #[.map a] 58):=
 (callsIn_wide).1 (AnyZI.keys_in Tryz.keysI Fence.wide 5 trivial rfl a w)
theorem Qs{g:Nat}(l:∀f w,(callFunc g f).run Tryz.prog w=.ok (.enter g f) w){a:Nat}{w:N}{K:Zn}(h:DataW Zv){b:Nat}(t:b<=100000)(m:K.Perm (intKeys h))
 (o:SeqGives Fence.wide 2 Tryz.prog g #[Zr a] encZ (λc=>c.Perm (intKeys h)) b w):
 Calls Tryz.prog 79 #[.func (.func g) #[] #[Zr a]] w λi d=>∃v,i=.returned v/\qR w.heap.size d v (K.mergeSort (λx y=>decide (x<=y)))/\Zb w d:=by
 refine(callsIn_wide (n:=5)).1 ?_;have j:=AnyZI.sorted_in Tryz.sortedB Fence.wide 5 trivial trivial trivial trivial rfl (by omega) (jC9 _) (enters_of Tryz.func38 (by kernel_rfl) rfl) g #[Zr a] trivial l _ b (by unfold maxLen;omega) (by omega) _ o;change CallsIn _ _ Tryz.prog 79 _ _ _ at j;refine j.mono ?_;rintro i d ⟨v,c,rfl,p,e,_,q⟩;have k:=p.trans m.symm;have r:=mergeSort_of_perm_i k;rw[show(λx y:Int=>decide (x<=y))=leI from rfl,r] at e;have s:c.length=(K.mergeSort leI).length:=by rw[sK,k.length_eq]
 rw[s] at e;exact⟨v,rfl,e,q⟩
theorem jC6{b n:Nat}{f:Int->Option Zv}{K:Zn}(m:n<=100000)(h:K.Nodup)(i:∀x,x∈K↔(f x).isSome=true){a:Nat}{w:N}(j:kU w b n f)(d:w.cell? (D a 0)=some (.map (some b))):
 Calls Tryz.prog 79 #[.func (.func 237) #[] #[Zr a]] w λk e=>∃v,k=.returned v/\qR w.heap.size e v (K.mergeSort (λx y=>decide (x<=y)))/\Zb w e:=by
 obtain⟨g,c,l⟩:=j;have o:=c.size_le
 exact Qs (enters_of Tryz.func237 (by kernel_rfl) rfl) g (by omega) (Fu c l h i)
  (AnyZI.keys_gives (ρ:=Tryz.keysB_ren) {Tryz.keysB with} Fence.wide _ trivial rfl (by omega) a b n g w (kA d) d c)
theorem jC7{b n:Nat}{f:Int->Option Zv}{K:Zn}(m:n<=100000)(h:K.Nodup)(i:∀x,x∈K↔(f x).isSome=true){a:Nat}{w:N}(j:kU w b n f)(d:w.cell? (D a 0)=some (.map (some b))):
 Calls Tryz.prog 79 #[.func (.func 229) #[] #[Zr a]] w λk e=>∃v,k=.returned v/\qR w.heap.size e v (K.mergeSort (λx y=>decide (x<=y)))/\Zb w e:=by
 obtain⟨g,c,l⟩:=j;have o:=c.size_le
 exact Qs (enters_of Tryz.func229 (by kernel_rfl) rfl) g (by omega) (Fu c l h i)
  (AnyZI.keys_gives (ρ:=Tryz.keysI_ren) {Tryz.keysI with} Fence.wide _ trivial rfl (by omega) a b n g w (kA d) d c)
end Go.Proofs.YtohdnhlfpldbmaaGreat
set_option maxRecDepth 100000
set_option maxHeartbeats 32000000
set_option linter.all false
namespace Go.Proofs.YtohdnhlfpldbmaaGreat
open Go.RowKit Go.Maps
open Go.Proofs.Tryz renaming prog->Zf
attribute [local go_sem ↓] Go.wp_at_zero Go.wp_at_succ
variable {k n m i j n1 n2 n3 n4 n5 n6 n7 n8 n9:Nat}{w u v w1 w2 w3 w4 w5:N}{x y x1 x2 x3 x4 x5 x6 x7 x8 x9:Value}{r r1 r2:Zn}{p p1 p2:Zp}{z z1 z2 z3:Int}{a a1 a2 a3 a4:Zo}{t s t1 t2:T}{c d c1 c2:Zc}{g g1 g2:TypeId}{b b1 b2:Zs}{l l1:Zt}{U V U1 U2:Zu}{B B1:Bool}
def keysB(a:Zs):Zn:=(a.map (·.1)).mergeSort (λx y=>decide (x<=y))
def yR(a:Zs):Zs:=(keysB a).map (λv=>(v,(kC a v).getD zS))
def Xj(a:Zs):(keysB a).length=a.length:=by rw[keysB,sK,dY]
def Aq(a:Zs):(yR a).length=a.length:=by rw[yR,dY,Xj]
def Da:z∈b.map (·.1)↔(kC b z).isSome=true:=by
 induction b with
 |nil=>simp[kC]
 |cons x b a=>
  obtain⟨w,u⟩:=x;rw[yI,qO,kC];by_cases h:w=z
  .rw[jB h];simp[h]
  rw[jC h,<-a];constructor
  .rintro (e|e)
   .exact jN e.symm h
   exact e
  exact jE
def Qa(h:nT b):(b.map (·.1)).Nodup:=by
 rw[List.nodup_iff_pairwise_ne,Er];intro i j a c d e;rw[dY] at a c;simp only[List.getElem_map] at e;have:=h i j b[i] b[j] (jO a) (jO c) e;omega
def TV(h:(keysB b)[k]? =some z):∃u,kC b z=some u/\(yR b)[k]? =some (z,u):=by
 have a:=jU h;rw[keysB,En] at a;obtain⟨u,c⟩:=oF.1 (Da.1 a);exact⟨u,c,by rw[yR,bZ,h];simp[c]⟩
def LC(F:Zp)(l:Nat)(a:Zs)(w:N)(c:nT a)(hl:a.length<=1000)(h:∀x,x∈a->1<=x.1/\x.1<=1000)(G:MB F l a w):
 Calls Zf 228 #[.map (some l)] w λe m=>∃j q,e=.returned (.slice j a.length q)/\xV (λk=>w.heap.size<=k) m (yR a) j/\Zb w m:=by
 obtain⟨⟨H,d,b⟩,i⟩:=G
 have r:=X (show ∀x,x∈a.map (·.1)↔(H x).isSome=true from λx=>by
  rw[Da]
  cases f:kC a x with
  |none=>rw[(b x).1 f];simp
  |some u=>obtain⟨j,q,g,_⟩:=(b x).2 u f;rw[g];simp)
 have o:∀f,(Builtin.len_ #[274] f #[.map (some l)]).run Zf w=.ok (Y (a.length:Nat)) w:=λf=>by
  obtain⟨p,g,s⟩:=d;have u:=Fu g s (Qa c) r.out;have v:Maps.size p=a.length:=by
   have n:=u.length_eq;rw[dY] at n;rw[n];obtain⟨y,rfl⟩:=g.isMap;simp[intKeys,Maps.size]
  rw[g.len Tryz.underlying274 f,v]
 have p:=jAu a.length (by omega);have s:=X d;have I:=X b;have J:=X i;have K:=X c;have L:=X h;obtain⟨M,O,y⟩:=bQ.1 Tryz.info264;simp only[bG] at y;obtain⟨P,Q,R⟩:=y;clear d b i c h;go_enter Tryz.func228,Tryz.ntmps228
 go_wp2_with (first
  |(go_at_call 233;refine(TU _ _).mono ?_;rintro e m ⟨rfl,rfl⟩)
  |(go_at_call 79;refine(jC6 (by omega) (Qa K.out) r.out (s.out.below (kF _ _ _)) (by rw[jJ 0 (by simp)];rfl)).mono ?_;rintro e c ⟨b,rfl,h,g⟩;obtain⟨f,d,rfl,n,_⟩:=Gc h))
 have aj:w.heap.size+2<=c.heap.size:=by have:=g.size;simp at this;omega
 have S:Hid (Zb w c):=(kF _ _ _).trans (g.mono (by simp;omega));have U:Hid (cP (λ_=>False) w.heap.size c (Zx w.heap.size 0 a.length) []):=Ix (Ix (GD (jF _) (by omega)) (jG _ _)) g;have z:Hid (∀(k:Nat)(v:Int),(keysB a)[k]? =some v->∃b d,f=some (D b d)/\b≠w.heap.size/\b<c.heap.size/\Zq c b (d+k) (Y v)):=λk v f=>by
  have u:k<(keysB a).length:=by
   rcases xW k (keysB a).length with i|i
   .exact i
   rw[yZ i] at f;cases f
  have A:0<(keysB a).length:=by omega
  obtain⟨b,d,rfl,B⟩:=pL n A;have i:=B k u;rw[dI,show((a.map (·.1)).mergeSort (λx C=>decide (x<=C)))[k]? =some v from f] at i;have C:=kO h b rfl;simp at C;exact⟨b,d,rfl,by omega,kA i,i⟩
 clear g h n o p;go_wp2
 go_loopw [3,13] (λg i wr=>∃k:Nat,k<=a.length/\i=Y k/\cP (λ_=>False) w.heap.size wr g ((yR a).take k)/\yS c wr (some w.heap.size) g.ownBlock) (λ_ i _=>a.length - (intOf i).toNat)
 case atStart=>exact⟨0,jY _,rfl,U.out,yS.refl _ _⟩
 case round=>
  obtain⟨k,hk,rfl,h,g⟩:=hrel;have i:=X h;have n:=X g;have ak:=g.gr.size;clear h g;have o:Hid (Zb w wr):=S.out.trans (n.out.below (by omega) (λg p=>by cases p;exact jF _));by_cases V:k<a.length
  .obtain⟨v,f⟩:∃v,(keysB a)[k]? =some v:=⟨(keysB a)[k]'(by rw[Xj];exact V),jO _⟩
   obtain⟨u,h,A⟩:=TV f;obtain⟨b,d,rfl,W,Z,B⟩:=z.out k v f;have al:wr.cell? (D b (d+k))=some (Y v):=by
    rw[kH (w:=c) (a:=(D b (d+k))) (n.out.gr.block b Z (λe=>W (by cases e;rfl)))];exact B
   obtain⟨a1,aa,C,E⟩:=(I.out v).2 u h;have ab:=J.out _ _ (tX h);have b:=L.out _ (tX h);have am:1<=v:=b.1;have an:v<=1000:=b.2;have ac:=(s.out.below o.out).look (t:=274) Tryz.underlying274 (Tryz.ju _) (k:=v) (by omega) (by omega);rw[C] at ac;have ad:=X (show(yR a).take (k+1)=(yR a).take k++[(v,u)] by rw[vZ,A];rfl);have d:Hid (((yR a).take k).length=k):=(by show _=_;rw[yD,Aq];omega);have HC:=X (Aa (u.E+1) u a1 aa wr (by omega) ab (kQ (λ_ _=>trivial) (jI o.out E)));have ao:(k:Int)<a.length:=(by omega);have ap:(0:Int)<=k:=(by omega);clear f h A B C E b z
   go_wp2_with (first
    |(go_at_call 111
      refine HC.out.mono ?_;rintro e f ⟨aq,Bc,rfl,z,_,A,h⟩;obtain⟨B,ae,rfl,C⟩:=gK.1 (By z);have ar:=h.size;have af:=X (Ix i.out h);obtain⟨xs,E,ag⟩:=af.out;have HO:=X (λo1=>vT E (λg p=>(jG f o1).block g (kO E g p).2))
      have ah:Hid (jT (λb=>(False\/w.heap.size<=b)/\u3.ownBlock≠some b) f u.e B):=kQ (λb p=>by
       have h8:=(A b p).1;refine⟨jE (by omega),λe=>?_⟩;obtain⟨ai,p,_⟩:=i.out;have:=(kO p b e).2
       omega) C
      have ai:=X (n.out.trans (yS.A _ h))
      clear z A C h)
    |(at_builtin
      go_must (refine wpList_append_lies _ rfl (.tmp 17) (.tmp 24) 232 rfl w.heap.size 264 M (.agg #[Y 0,Y 0,Y 0,Zd]) 4 48 Tryz.underlying232 O P Q R rfl (by decide) u3 ((yR a).take k).length xs rfl (HO.out _) (D f.heap.size 0) 1 1 [Y v,Y u.v,Y u.f,Zk B u.e ae] rfl rfl (Vx (by first|rfl|simp)) (by simp[Value.oneCell']) (by decide) (by have:=d.out;unfold maxLen;omega) (by have:=d.out;omega) (by simp;omega) _ rfl ?_)
      intro g B C h p z b))
   have A:=Sq (x:=(v,u)) (Eg (λv b E=>⟨b,(jG f _).block v E⟩) ag) (jS _ ah.out) h p (z.imp id (λh=>by rw[h]))
   have f:yS c C (some w.heap.size) (Value.slice (some (D g 0)) (((yR a).take k).length+1) B).ownBlock:=ai.out.trans ((yS.A _ (jG _ _)).trans ⟨p,by
    rcases z with h|h
    .exact jD h.symm
    exact jE ⟨g,rfl,by rw[h];simp⟩⟩)
   rw[<-ad.out,d.out] at A;rw[d.out] at f;have g:min k (yR a).length=k:=by rw[Aq];omega
   go_roundw
   case rel=>exact⟨k+1,by omega,by go_num,by rw[g];exact A,by rw[g];exact f⟩
   case measure=>simp[intOf];omega
  have c:k=(yR a).length:=by rw[Aq];omega
  rw[c,qU] at i;obtain⟨z,B,rfl,p⟩:=Sp i.out;rw[Aq] at c;subst c;have C:=X p;rw[Aq];clear p i;go_wp2;go_ret;exact⟨z,B,rfl,tN (λv b=>by rcases b with h|h;exact h.elim;exact h) C.out,o.out⟩
theorem Tryz.underlying58:Zf.underlying 58=some (.map 3 3):=by kernel_rfl
theorem Tryz.qn(w:N):(zeroValue 3).run Zf w=.ok (Y 0) w:=by kernel_rfl
def pZ(P:List Pt)(M:Nat)(a:Int->Nat):Zn->Option Zs
 |[]=>some []
 |v::l=>match yB P (P.length+1) (a v) with
  |none=>none
  |some h=>if h=a v then pZ P M a l else match vQ P M (a v) with
   |none=>none
   |some t=>match pZ P M a l with
    |none=>none
    |some b=>some ((v,t)::b)
def YK{P:List Pt}{c:Int->Nat}(a:pZ P k c (z::r)=some b):∃h,yB P (P.length+1) (c z)=some h/\
 ((h=c z/\pZ P k c r=some b)\/(h≠c z/\∃t d,vQ P k (c z)=some t/\pZ P k c r=some d/\b=(z,t)::d)):=by
 rw[pZ] at a;split at a
 .cases a
 rename_i h f;refine⟨h,f,?_⟩;split at a
 .rename_i e;exact jD ⟨e,a⟩
 rename_i e;split at a
 .cases a
 rename_i t g;split at a
 .cases a
 rename_i d i;exact jE ⟨e,t,d,g,i,(kT a).symm⟩
def LB{P:List Pt}{C:Int->Option Zv}(e:Int->Nat)(l:yN p w k n m P)(h:w.cell? (D k 1)=some (.map (some j)))(q:kU w j n1 C)(Z:n1<=100000)(s:r.Nodup)(t:∀x,x∈r↔(C x).isSome=true)
 (u:∀x,x∈r->C x=some (Y (e x:Nat))/\0<=x/\x<=100000) (ar:r.length<=100000) (g:pZ P i e (r.mergeSort (λx E=>decide (x<=E)))=some b):
 Calls Zf 208 #[Zr k] w λf y=>∃L aa,f=.returned (.slice L b.length aa)/\xV (λa=>w.heap.size<=a) y b L/\Zb w y:=by
 obtain⟨d,c⟩:=Ze (r.mergeSort (λx E=>decide (x<=E)));have au:d.length=r.length:=by rw[c,sK]
 have ab:=X (show ∀x,x∈d->x∈r from λx o=>by rw[c,En] at o;exact o);rw[<-c] at g;have ac:=X c;have HU:=X l;have M:=X q;have HK:=X t;have Hf:=X u;have Ho:=X g;have ad:=X s;obtain⟨ti,hi,O⟩:=bQ.1 Tryz.info264;simp only[bG] at O;obtain⟨ae,af,ag⟩:=O;have av:=kA h;clear l q t u g s c
 go_in
 go_wp2_with (first
  |(go_at_call 216;refine(TW _ _).mono ?_;rintro f y ⟨rfl,rfl⟩)
  |(go_at_call 79;refine(jC7 Z ad HK (M.below (jG _ _)) (by rw[jJ 0 (by simp)];rfl)).mono ?_;rintro f g ⟨s,rfl,c,l⟩;rw[<-ac.out] at c;obtain⟨t,u,rfl,q,_⟩:=Gc c))
 have aw:w.heap.size+1<=g.heap.size:=by have:=l.size;simp at this;omega
 have Q:Hid (Zb w g):=(jG _ _).trans (l.mono (by simp));have ah:=X q;have ai:Zq g k 1 (.map (some j)):=jP Q h;clear l c q h
 go_loopw [3,14] (λl h wr=>∃(a:Nat)(c q:Zs),a<=r.length/\h=Y a/\c.length<=a/\Hid (pZ P i e (d.drop a)=some q)/\Hid (b=c++q)/\cP (λ_=>False) w.heap.size wr l c/\yS g wr none l.ownBlock) (λ_ h _=>r.length - (intOf h).toNat)
 case atStart=>exact⟨0,[],b,jY _,rfl,jF _,Ho,rfl,GE,yS.refl _ _⟩
 case round=>
  obtain⟨a,c,q,hk,rfl,ax,z,s,t,h⟩:=hrel;have u:=X t;have R:=X h;have ay:=h.gr.size;have F:Hid (Zb g wr):=h.below (jF _) (λl G=>by cases G);clear t h;have H:Hid (Zb w wr):=Q.trans (F.mono (by omega));by_cases az:a<r.length
  .have I:a<d.length:=by omega
   obtain⟨v,A⟩:=Zg I;obtain⟨b1,aj,rfl,K⟩:=pL ah (show 0<d.length by omega);have a0:wr.cell? (D b1 (aj+a))=some (Y v):=by
    have h:=K a I;rw[dI,A] at h;exact jP F h
   obtain⟨S,a1,a2⟩:=Hf v (ab v (jU A));have ak:=(M.below H).look (t:=58) Tryz.underlying58 (Tryz.qn _) (k:=v) (by omega) (by omega);rw[S] at ak;have a3:Zq wr k 1 (.map (some j)):=jP F ai;have hd:d.drop a=v::d.drop (a+1):=by
    rw[pN I];have:=(jZ.1 A).2;rw[this]
   have B:=z.out;rw[hd] at B;obtain⟨h,U,o⟩:=YK B;have V:=X (HU.below H);have W:=X (Fs p wr k n m P _ (e v) h V U);have J:=X o;have a4:(a:Int)<r.length:=(by omega);have a5:(0:Int)<=a:=(by omega);clear A K S hd B z U o
   go_wp2_with fail
   refine W.out.mono ?_;rintro f y ⟨rfl,o⟩;obtain rfl:=o.symm;clear o W;rcases J.out with⟨A,o⟩|⟨W,t,S,B,o,U⟩
   .have e0:((h:Int) !=((e v:Nat):Int))=false:=by simp[A]
    have K:=X o;clear A o J
    go_wp2_with fail
    go_roundw
    case rel=>exact⟨a+1,c,q,by omega,by go_num,by omega,K,s,u.out,R.out⟩
    case measure=>simp[intOf];omega
   have e0:((h:Int) !=((e v:Nat):Int))=true:=(by simp;omega);have K:=X o;have al:Hid (b=(c++[(v,t)])++S):=(by show _=_;rw[s.out,U];simp);have HC:=X (VI p k n m P i (e v) t wr V.out B);clear W o U B J s
   go_wp2_with (first
    |(go_at_call 217
      refine HC.mono ?_;rintro f A ⟨J,am,rfl,U,B⟩;have aq:=B.size;have an:=X (Ix u B);obtain⟨xs,W,ao⟩:=an;have HO:=X (λo1=>vT W (λl G=>(jG A o1).block l (kO W l G).2))
      have G:Hid (jT (λo=>(False\/w.heap.size<=o)/\u3.ownBlock≠some o) A t.e J):=kQ (λo ap=>by
       have h8:wr.heap.size<=o:=ap;refine⟨jE (by omega),λf=>?_⟩;obtain⟨ap,h0,_⟩:=u;have:=(kO h0 o f).2
       omega) U
      have ap:=X (R.trans (yS.A _ B))
      clear U B)
    |(at_builtin
      go_must (refine wpList_append_lies _ rfl (.tmp 29) (.tmp 35) 232 rfl w.heap.size 264 ti (.agg #[Y 0,Y 0,Y 0,Zd]) 4 48 Tryz.underlying232 hi ae af ag rfl (by decide) u3 c.length xs rfl (HO _) (D A.heap.size 0) 1 1 [Y v,Y t.v,Y t.f,Zk J t.e am] rfl rfl (Vx (by first|rfl|simp)) (by simp[Value.oneCell']) (by decide) (by unfold maxLen;omega) (by omega) (by simp;omega) _ rfl ?_)
      intro l J U W o B am))
   have am:=Sq (x:=(v,t)) (Eg (λk' an aq=>⟨an,(jG A _).block k' aq⟩) ao) (jS _ G) W o (B.imp id (λh=>by rw[h]))
   have A:yS g U none (Value.slice (some (D l 0)) (c.length+1) J).ownBlock:=ap.trans ((yS.A _ (jG _ _)).trans ⟨o,by
    rcases B with h|h
    .exact jD h.symm
    exact jE ⟨l,rfl,by rw[h];simp⟩⟩)
   go_roundw
   case rel=>exact⟨a+1,c++[(v,t)],S,by omega,by go_num,by simp;omega,K,al,am,A⟩
   case measure=>simp[intOf];omega
  have l:a=d.length:=by omega
  have g:=z.out;rw[l,dX,pZ] at g;have o:q=[]:=(kT g).symm;have q:b=c:=by rw[s.out,o];simp
  obtain⟨A,B,rfl,c⟩:=Sp u;have G:=X c;have J:=X q;have K:a=r.length:=by omega
  subst K;clear c u g o q l z s;go_wp2;go_ret;rw[J.out];exact⟨A,B,rfl,tN (λc c=>by rcases c with h|h;exact h.elim;exact h) G,H⟩
def Ag(a:List (Int×Nat)):Prop:=(a.map Prod.fst).Nodup/\∀x,x∈a.map Prod.fst->0<=x/\x<=1000
def Db(a:List (Int×Nat))(v:Int):v∈a.map Prod.fst↔(vJ a v).isSome=true:=by
 induction a with
 |nil=>simp[vJ]
 |cons x a c=>
  rw[yI,qO,c,vJ];by_cases h:x.1=v
  .rw[jB h];simp[h]
  rw[jC h];constructor
  .rintro (b|b)
   .exact jN b.symm h
   exact b
  exact jE
def AE(h:jQ r t)(c:t.v≠0):t.e=[]:=by
 have a:=(vW.1 h).1;rw[Ak c,mB] at a;by_cases b:t.v<1\/1000<t.v
 .rw[jB b] at a;cases a
 rw[jC b] at a;by_cases d:t.e.length≠0\/t.f≠0
 .rw[jB d] at a;cases a
 exact yM.1 (by omega)
def Jn:∀(n:Nat),(∀(t:T)(s:List Pt×List (Int×Nat)),t.E<=n->jQ r t->Ag s.2->Ag (kB t s).2.2)/\
 (∀(a:Zt)(s:List Pt×List (Int×Nat)),T.E.szL a<=n->jQ.okL r a->Ag s.2->Ag (kB.addL a s).2.2):=by
 intro n;induction n with
 |zero=>
  refine⟨λt s h=>by have:=t.I;omega,λa s h _ b=>?_⟩
  cases a with
  |nil=>exact b
  |cons t a=>have:=t.I;rw[T.F] at h;omega
 |succ n l=>
  have h:∀(t:T)(s:List Pt×List (Int×Nat)),t.E<=n+1->jQ r t->Ag s.2->Ag (kB t s).2.2:=λt s i c b=>by
   have q:=T.M t
   cases e:vJ s.2 t.v with
   |some u=>rw[Jl e];exact b
   |none=>
    rw[Jm e];have f:=l.2 t.e s (by omega) (vW.1 c).2 b;show Ag (if t.v=0 then _ else _);by_cases g:t.v=0
    .rw[jB g];exact f
    rw[jC g];have m:=AE c g;rw[m] at f ⊢;have j:=f;have o:=AC c;refine⟨?_,λx d=>?_⟩
    .rw[yI,aM]
     refine⟨λp=>?_,j.1⟩;have k:=(Db s.2 t.v).1 p;rw[e] at k;cases k
    rw[yI,qO] at d;rcases d with rfl|d
    .exact o
    exact j.2 x d
  refine⟨h,λa=>?_⟩;induction a with
  |nil=>intro s _ _ b;exact b
  |cons t a d=>
   intro s i c b;rw[T.F] at i;obtain⟨o1,o2⟩:=pC.1 c;exact d (kB t s).2 (by omega) o2 (h t s (by omega) o1 b)
def eH(c:Nat)(a b:T):Option (Zs×Bool×Int):=
 match fD c (kB b (kB a ([],[])).2).2.1 (kB a ([],[])).1 (kB b (kB a ([],[])).2).1 with
 |none=>none
 |some x=>if x.1=true then(match nX c x.2 (kB a ([],[])).1 with
  |none=>none
  |some y=>if y.1= -1 then some ([],false,0) else if 120<y.1 then some ([],false,2) else
   match pZ y.2 c (λv=>(vJ (kB b (kB a ([],[])).2).2.2 v).getD 0) (((kB b (kB a ([],[])).2).2.2.map Prod.fst).mergeSort (λx y=>decide (x<=y))) with
   |none=>none
   |some d=>some (d,true,0)) else some ([],false,0)
def jEr{r:Zs×Bool×Int}(h:eH k t s=some r):∃a c,fD k (kB s (kB t ([],[])).2).2.1 (kB t ([],[])).1 (kB s (kB t ([],[])).2).1=some (a,c)/\
 ((a=false/\r=([],false,0))\/(a=true/\∃m d,nX k c (kB t ([],[])).1=some (m,d)/\((m= -1/\r=([],false,0))\/(m≠ -1/\120<m/\r=([],false,2))\/
   (m≠ -1/\¬120<m/\∃e,pZ d k (λv=>(vJ (kB s (kB t ([],[])).2).2.2 v).getD 0) (((kB s (kB t ([],[])).2).2.2.map Prod.fst).mergeSort (λx y=>decide (x<=y)))=some e/\r=(e,true,0))))):=by
 rw[eH] at h;split at h
 .cases h
 rename_i x g;obtain⟨a,c⟩:=x;refine⟨a,c,g,?_⟩
 cases a with
 |false=>rw[jC (by simp)] at h;exact jD ⟨rfl,(kT h).symm⟩
 |true=>
  rw[jB rfl] at h;refine jE ⟨rfl,?_⟩;split at h
  .cases h
  rename_i y i;obtain⟨m,d⟩:=y;refine⟨m,d,i,?_⟩;by_cases b:m= -1
  .rw[jB b] at h;exact jD ⟨b,(kT h).symm⟩
  rw[jC b] at h;by_cases f:120<m
  .rw[jB f] at h;exact jE (jD ⟨b,f,(kT h).symm⟩)
  rw[jC f] at h;split at h
  .cases h
  rename_i e j;exact jE (jE ⟨b,f,e,j,(kT h).symm⟩)
def Qv(a:Zn)(b:Zo)(e:Nat)(t:T)(i:Zo)(l:Nat)(u:T)(f:Zo)(j:Nat)(w:N)(m:jV w a b)(o:InL w t.e i)(p:InL w u.e f):
 Calls Zf 204 #[.agg #[.slice b a.length e],.agg (Zj t i l),.agg (Zj u f j)] w λk q=>
  k=.returned (Y (kI a [t,u]))/\Zb w q:=by
 have r:=X (λo1 o2 c=>iW a b e t i l (((w.alloc o1).alloc o2).alloc c) (qD c (qD o2 (qD o1 m))) (jS c (jS o2 (jS o1 o))));have n:=X (Tv a t u)
 go_in
 go_wp2_with fail
 refine(r _ _ _).mono ?_;rintro k c ⟨rfl,d⟩;have y:w.heap.size+3<=c.heap.size:=by have:=d.size;simp at this;omega
 have g:Zb w c:=(((jG _ _).alloc (by simp) _).alloc (by simp;omega) _).trans (d.mono (by simp;omega));have z:c.cell? (D w.heap.size 0)=some (Zk b a e):=by
  rw[d.cell (by simp;omega),kW (by simp;omega),kW (by simp),jJ _ rfl];rfl
 have s:jK c (w.heap.size+1+1) (Y u.v) (Y u.f) (Zk f u.e j):=(jK.new _ (by simp)).below d;obtain⟨A,B,C,_,_,_⟩:=s;have v:=X (iW a b e u f j c (kD g m) (jI g p));clear d;by_cases h:kI a [t]=0
 .have d:Hid (kI a [t,u]=kI a [u]):=by show _=_;rw[n.out,jB h]
  rw[h];clear h
  go_wp2_with fail
  refine v.mono ?_;rintro k E ⟨rfl,x⟩;go_wp2;go_ret;exact⟨dQ d.symm,g.trans (x.mono (by omega))⟩
 have F:(kI a [t] !=0)=true:=by simpa using h
 have d:Hid (kI a [t,u]=kI a [t]):=by show _=_;rw[n.out,jC h]
 clear h;go_wp2;go_ret;exact⟨dQ d.symm,g⟩
def XV(h:nT b)(k:kC b z=none):nT (b++[(z,t)]):=by
 have d:∀(i:Nat)(x:Int×T),b[i]? =some x->x.1≠z:=λi x a e=>by
  have c:=bP.2 ⟨x,jU a,e⟩;rw[Da,k] at c
  cases c
 have f:∀(i:Nat)(x:Int×T),(b++[(z,t)])[i]? =some x->b[i]? =some x\/(i=b.length/\x=(z,t)):=λi x a=>by
  rcases xW i b.length with c|c
  .rw[mY c] at a;exact jD a
  rw[nO c] at a;have j:i - b.length=0:=by
   rcases xW (i - b.length) 1 with g|g
   .omega
   rw[yZ (by simpa using g)] at a;cases a
  rw[j] at a;exact jE ⟨by omega,by simpa using a.symm⟩
 intro i j x y a g e;rcases f i x a with a|⟨a,rfl⟩<;>rcases f j y g with c|⟨c,rfl⟩
 .exact h i j x y a c e
 .exact jN e (d i x a)
 .exact jN e.symm (d j y c)
 omega
def Oy:∀(n:Nat),(∀(p t:T)(b c:Zs),p.E<=n->jQ r p->kG p t b=some c->(nT b/\∀x,x∈b->1<=x.1/\x.1<=1000)->(nT c/\∀x,x∈c->1<=x.1/\x.1<=1000))/\
 (∀(e d:Zt)(b c:Zs),T.E.szL e<=n->jQ.okL r e->kG.growL e d b=some c->(nT b/\∀x,x∈b->1<=x.1/\x.1<=1000)->(nT c/\∀x,x∈c->1<=x.1/\x.1<=1000)):=by
 intro n;induction n with
 |zero=>
  refine⟨λp t b c h=>by have:=p.I;omega,λe d b c h _ a f=>?_⟩
  cases e with
  |nil=>
   cases d with
   |nil=>simp[kG.growL] at a;rw[<-a];exact f
   |cons t d=>cases a
  |cons p e=>have:=p.I;rw[T.F] at h;omega
 |succ n m=>
  have g:∀(p t:T)(b c:Zs),p.E<=n+1->jQ r p->kG p t b=some c->(nT b/\∀x,x∈b->1<=x.1/\x.1<=1000)->(nT c/\∀x,x∈c->1<=x.1/\x.1<=1000):=λp t b c l i a f=>by
   have q:=T.M p;rw[nG] at a;by_cases j:p.v≠0
   .rw[jB j] at a
    cases k:kC b p.v with
    |some u=>
     rw[k] at a;by_cases h:kS u t=true
     .simp only[h,if_true,qW] at a
      rw[<-a];exact f
     simp[h] at a
    |none=>
     rw[k] at a;simp only[qW] at a;have o:1<=p.v/\p.v<=1000:=by
      have g:=(vW.1 i).1;rw[xU,jB j] at g;by_cases h:p.v<1\/1000<p.v
      .rw[jB h] at g;cases g
      omega
     rw[<-a];refine⟨XV f.1 k,λx h=>?_⟩;rcases vD.1 h with h|h
     .exact f.2 x h
     simp at h;rw[h];exact o
   rw[jC j] at a;by_cases h:t.v≠0\/p.f≠t.f
   .rw[jB h] at a;cases a
   rw[jC h] at a;exact m.2 p.e t.e b c (by omega) (vW.1 i).2 a f
  refine⟨g,λe=>?_⟩;induction e with
  |nil=>
   intro d b c _ _ a f
   cases d with
   |nil=>simp[kG.growL] at a;rw[<-a];exact f
   |cons t d=>cases a
  |cons p e k=>
   intro d b c l i a f;rw[T.F] at l
   cases d with
   |nil=>cases a
   |cons t d=>
    rw[aS] at a
    cases h:kG p t b with
    |none=>rw[h] at a;cases a
    |some j=>
     rw[h] at a;exact k d j c (by omega) (pC.1 i).2 a (g p t b j (by omega) (pC.1 i).1 h f)
def qM(a:Zn)(p t:T):Zs×Bool×Int:=
 if kI a [p,t]=0 then(match kG p t [] with|some b=>(yR b,true,0)|none=>([],false,0)) else([],false,kI a [p,t])
def EN(x:Zs×Bool×Int)(b:Nat)(e:Ending)(c:N):Prop:=
 ∃a d,e=.returned (.tuple #[.slice a x.1.length d,.bool x.2.1,Y x.2.2])/\xV (λk=>b<=k) c x.1 a
def GC(A:Nat)(f:Nat)(g:Nat)(I:jV w r a)(B:InL w t.e a1)(C:InL w s.e a2):
 Calls Zf 213 #[.agg #[.slice a r.length A],.agg (Zj t a1 f),.agg (Zj s a2 g)] w λi F=>EN (qM r t s) w.heap.size i F/\Zb w F:=by
 have G:=X (λo1 o2 b=>Qv r a A t a1 f s a2 g (((w.alloc o1).alloc o2).alloc b) (qD b (qD o2 (qD o1 I))) (jS b (jS o2 (jS o1 B))) (jS b (jS o2 (jS o1 C))));have J:=@run_makeMap Zf;obtain⟨E,b⟩:=Ze (kI r [t,s]);rw[<-b] at G;have j:=X b;clear b;go_enter Tryz.func213,Tryz.ntmps213
 go_wp2_with fail
 refine(G.out _ _ _).mono ?_;rintro i b ⟨rfl,c⟩;have Z:w.heap.size+3<=b.heap.size:=by have:=c.size;simp at this;omega
 have l:Zb w b:=(((jG _ _).alloc (by simp) _).alloc (by simp;omega) _).trans (c.mono (by simp;omega));have K:jK b (w.heap.size+1) (Y t.v) (Y t.f) (Zk a1 t.e f):=((jK.new _ (by simp)).alloc _).below c;have L:jK b (w.heap.size+1+1) (Y s.v) (Y s.f) (Zk a2 s.e g):=(jK.new _ (by simp)).below c;obtain⟨M,O,P,_,_,_⟩:=K;obtain⟨Q,R,S,_,_,_⟩:=L;clear c;by_cases h:E=0
 .obtain⟨k1,d,k3,x⟩:=oT (j.out.symm.trans h)
  have e:Hid (qM r t s=match kG t s [] with|some c=>(yR c,true,0)|none=>([],false,0)):=by show _=_;rw[qM,jB (j.out.symm.trans h)]
  have m:MB (λk=>k<b.heap.size) b.heap.size [] (b.alloc (.map #[] 0)):=⟨⟨λ_=>none,kU.made b,λv=>⟨λ_=>rfl,λu n=>by cases n⟩⟩,λv u n=>by cases n⟩;have y:=X (VR r (λk=>k<b.heap.size) b.heap.size (by omega) t.E t s a1 f a2 g [] (b.alloc (.map #[] 0)) (jF _) (by simp;omega) d (by omega) m (jS _ (jI l B)) (jS _ (kQ (λ_ n=>n.2) (lE (jI l C)))));have o:=X (λc=>(Oy (r:=r) t.E).1 t s [] c (jF _) d);have p:=X (λc=>(Ct t.E).1 t s [] c (jF _));have u:w.heap.size+1<b.heap.size:=by omega
  have v:w.heap.size+1+1<b.heap.size:=by omega
  have m0:(b.alloc (.map #[] 0)).cell? (D (w.heap.size+1) 0)=some (Y t.v):=by rw[kW u];exact M
  have m1:(b.alloc (.map #[] 0)).cell? (D (w.heap.size+1) 1)=some (Y t.f):=by rw[kW u];exact O
  have m2:(b.alloc (.map #[] 0)).cell? (D (w.heap.size+1) 2)=some (Zk a1 t.e f):=by rw[kW u];exact P
  have n0:(b.alloc (.map #[] 0)).cell? (D (w.heap.size+1+1) 0)=some (Y s.v):=by rw[kW v];exact Q
  have n1:(b.alloc (.map #[] 0)).cell? (D (w.heap.size+1+1) 1)=some (Y s.f):=by rw[kW v];exact R
  have n2:(b.alloc (.map #[] 0)).cell? (D (w.heap.size+1+1) 2)=some (Zk a2 s.e g):=by rw[kW v];exact S
  subst h;clear d x m
  go_wp2_with fail
  refine y.out.mono ?_;rintro i H ⟨rfl,d,z⟩;have U:=d.size;rw[qE] at U;have m:Hid (Zb w H):=(l.alloc (by omega) _).grown d (by rw[qE];omega) (λV x=>by cases x;omega);have x:=X z;clear d z J y
  cases d:kG t s [] with
  |none=>
   have y:Hid (qM r t s=([],false,0)):=(by show _=_;rw[e.out,d]);simp only[rH];clear d e o p x
   go_wp2_with fail
   go_ret3
   exact⟨by rw[y.out];exact⟨none,0,rfl,trivial⟩,m.out⟩
  |some c=>
   have J:Hid (qM r t s=(yR c,true,0)):=(by show _=_;rw[e.out,d]);have y:=o.out c d ⟨λz V V z z=>by simp at z,λV z=>by cases z⟩;have z:=p.out c d;have V:c.length<=1000:=(by simp at z;omega);have W:=X (LC _ b.heap.size c H y.1 V y.2 (x.out c d));simp only[wL];clear d e o p x y z
   go_wp2_with fail
   refine W.out.mono ?_;rintro i w3 ⟨d,o,rfl,p,x⟩;have y:=X (m.out.trans (x.mono m.out.size));have z:=X (tN (p1:=λk=>w.heap.size<=k) (λk n=>kN m.out.size n) p);clear x p
   go_wp2_with fail
   go_ret3
   exact⟨by rw[J.out];exact⟨d,o,(xE (λn=>Ending.returned (.tuple #[.slice d n o,.bool true,Y 0])) (Aq c).symm),z.out⟩,y.out⟩
 have k:(E !=0)=true:=by simpa using h
 have e:Hid (qM r t s=([],false,E)):=by show _=_;rw[qM,jC (λd=>h (j.out.trans d)),j.out]
 clear h
 go_wp2_with fail
 go_ret3
 exact⟨by rw[e.out];exact⟨none,0,rfl,trivial⟩,l⟩
end Go.Proofs.YtohdnhlfpldbmaaGreat
