import Derived.Test.YtohdnhlfpldbmaaGreatJoined10
set_option maxRecDepth 100000
set_option maxHeartbeats 32000000
namespace Go.Proofs.YtohdnhlfpldbmaaGreat
open Go.RowKit Go.ChangeShapes Go.WideShapes Go.Deep
theorem EI{w:N}:∀(n b a:Nat)(f:Nat->Zc),(∀i,i<n->∃c d,w.cell? (D b (a+i))=some (.slice c (f i).length d)/\kR w (f i) c)->zM w ((List.range n).map f) (some (D b a)):=by
 intro n;induction n with
 |zero=>intro b a f _;trivial
 |succ n g=>
  intro b a f h;rw[Mx,yI,List.map_map];obtain⟨c,d,j,k⟩:=h 0 (by omega);refine⟨b,a,c,d,rfl,by simpa using j,k,g b (a+1) (f∘Nat.succ) (λi e=>?_)⟩;have e:=h (i+1) (by omega);rw[show a+(i+1)=a+1+i by omega] at e;exact e
theorem Tryz.ke:Tryz.prog.cellsOf 39=1:=by kernel_rfl
section
variable {H:Type} {enc:TypeId×Zv→H} {W:N} {spare:Nat→Bool} {held:Bool}
theorem jFo{u:Nat}{p:Zu}{x:DataW H×List MemPlace}(v:DataW.trod enc Tryz.prog W 0 spare held u 25 p=some x):
 ∃(f:Zm)(a:Zo)(g:Nat),p=[.slice a f.length g]/\zM W f a/\f.length<=9223372036854775807/\∀e,e∈f->e.length<=9223372036854775807:=by
 rcases Eb Go.Proofs.Tryz.underlying25 v with⟨h,_⟩|⟨a,j,g,B,C,E,G,h,_,I,J,w,K,q,_,_⟩
 .exact⟨[],none,0,h,trivial,by simp,λe c=>by cases c⟩
 rw[Tryz.ke] at q;have r:∀i,i<j->∃y:Zc,∃b d,W.cell? (a.add (i*1))=some (Zk b y d)/\kR W y b/\y.length<=9223372036854775807:=by
  intro i m;have k:=q i m;rw[jO (by omega)] at k;obtain⟨A,n,o⟩:=rG.1 k;obtain⟨y,b,d,s,t,z⟩:=AK o;obtain⟨_,_,l⟩:=Jj n;rw[s] at l;refine⟨y,b,d,?_,t,z⟩;have:=l 0 (by omega);rwa [show(a.add (i*1)).add 0=a.add (i*1) from by simp[Addr.add]] at this
 by_cases z:j=0
 .subst z
  exact⟨[],some a,g,h,trivial,by simp,λe c=>by cases c⟩
 obtain⟨k,l,aF⟩:=a;have A:aF=none:=by
  obtain⟨y,b,d,c,_⟩:=r 0 (by omega);simpa[Addr.add] using Ji c
 subst A;obtain⟨F,s⟩:=choose_lt r;refine⟨(List.range j).map F,some (D k l),g,by simpa using h,EI j k l F (λi m=>?_),by simp;unfold maxLen at w;omega,λe c=>?_⟩
 .obtain⟨b,d,n,t,_⟩:=s i m
  have y:∀o,((D k l):Addr).add o=(D k (l+o)):=λo=>by simp[Addr.add]
  rw[y,Nat.mul_one] at n;exact⟨b,d,n,t⟩
 obtain⟨i,m,rfl⟩:=bP.1 c;obtain⟨b,d,n,t,b⟩:=s i (eS.1 m);exact b
end
end Go.Proofs.YtohdnhlfpldbmaaGreat
set_option maxRecDepth 100000
set_option maxHeartbeats 32000000
namespace Go.Proofs.YtohdnhlfpldbmaaGreat
open Go.RowKit Go.ChangeShapes Go.WideShapes Go.Deep
theorem YE{H:Type}{w:TypeId×Zv->H}{W:N}{x:Nat->Bool}{z:Bool}{A:Nat}{r:Zu}{B:DataW H×List MemPlace}(C:DataW.trod w Tryz.prog W 0 x z A 25 r=some B):
 ∃(g:Zm)(c:Zo)(h:Nat),r=[.slice c g.length h]/\bI (λE=>E<W.heap.size) W g c/\g.length<=9223372036854775807/\∀d,d∈g->d.length<=9223372036854775807:=by
 rcases Eb Go.Proofs.Tryz.underlying25 C with⟨k,_⟩|⟨c,l,h,K,L,M,O,k,_,P,Q,G,R,s,_,_⟩
 .exact⟨[],none,0,k,jD rfl,by simp,λd e=>by cases e⟩
 rw[Tryz.ke] at s;have t:∀i,i<l->∃y:Zc,∃a b,W.cell? (c.add (i*1))=some (Zk a y b)/\(kR W y a/\y.length<=b)/\y.length<=9223372036854775807:=by
  intro i o;have f:=s i o;rw[jO (by omega)] at f;obtain⟨F,p,j⟩:=rG.1 f;obtain⟨y,a,b,m,q,u⟩:=AK j;have v:=YD j m;obtain⟨_,_,n⟩:=Jj p;rw[m] at n;refine⟨y,a,b,?_,⟨q,v⟩,u⟩;have:=n 0 (by omega);rwa [show(c.add (i*1)).add 0=c.add (i*1) from by simp[Addr.add]] at this
 by_cases I:l=0
 .subst I
  exact⟨[],some c,h,k,jD rfl,by simp,λd e=>by cases e⟩
 obtain⟨m,n,aF⟩:=c;have J:aF=none:=by
  obtain⟨y,a,b,e,_⟩:=t 0 (by omega);simpa[Addr.add] using Ji e
 subst J;obtain⟨F,o⟩:=choose_lt t;have u:∀j,((D m n):Addr).add j=(D m (n+j)):=λj=>by simp[Addr.add]
 refine⟨(List.range l).map F,some (D m n),h,by simpa using k,Or.inr ⟨m,n,rfl,?_,λj d p=>?_⟩,by simp;unfold maxLen at G;omega,λd e=>?_⟩
 .obtain⟨a,b,f,_⟩:=o 0 (by omega)
  rw[u,Nat.mul_one] at f;exact kA f
 .have v:j<l:=by
   have:=(Zl p);simpa using this
  obtain⟨a,b,f,q,_⟩:=o j v;obtain rfl:F j=d:=by
   rw[bZ,List.getElem?_range v] at p;simpa using p
  rw[u,Nat.mul_one] at f;exact⟨a,b,f,q.2,Bn q.1⟩
 obtain⟨i,j,rfl⟩:=bP.1 e;obtain⟨a,b,f,q,a⟩:=o i (eS.1 j);exact a
end Go.Proofs.YtohdnhlfpldbmaaGreat
