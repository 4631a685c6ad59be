import Derived.Test.YtohdnhlfpldbmaaGreatJoined7
set_option maxRecDepth 100000
set_option maxHeartbeats 32000000
set_option linter.all false
namespace Go.Proofs.YtohdnhlfpldbmaaGreat
open Go.RowKit Go.Maps
open Go.Proofs.Tryz renaming prog->Zf
attribute [local go_sem ↓] Go.wp_at_zero Go.wp_at_succ
variable {k n m i j n1 n2 n3 n4 n5 n6 n7 n8 n9:Nat}{w u v w1 w2 w3 w4 w5:N}{x y x1 x2 x3 x4 x5 x6 x7 x8 x9:Value}{r r1 r2:Zn}{p p1 p2:Zp}{z z1 z2 z3:Int}{a a1 a2 a3 a4:Zo}{t s t1 t2:T}{c d c1 c2:Zc}{g g1 g2:TypeId}{b b1 b2:Zs}{l l1:Zt}{U V U1 U2:Zu}{B B1:Bool}
def TT{s:St}{y:Zv}(H:HA r a k p n s y a1 m U w)(I:s.h.length<=1000000)(G:∀J,J∈s.h->sG r J){b:jX}(l:Nat)(L:c.length<=8)(K:qC r c)(M:c.length<=i)(u:qA p w c a2)(O:IP p w b.G a3):
 Calls Zf 150 #[Zr n,.slice a2 c.length i,zV b a3 l] w λz e=>z=.returned (.tuple #[])/\(∃A F,HA r a k p n (Af r s c b) A a1 m F e/\(A.ownBlock=y.ownBlock\/∃C,A.ownBlock=some C/\w.heap.size<=C))/\jR (λf=>f=n\/y.ownBlock=some f) w e:=by
 obtain⟨d,q⟩:=Ze (w.alloc (.cells #[Y b.L,Y b.left,Y b.right,Y b.la,Y b.ra,.bool b.lt,.bool b.rt,Zk a3 b.G l] 81));have h:Zb w d:=by rw[q];exact jG _ _
 have h8:I8 d w.heap.size b a3 l:=by rw[q];exact I8.new _ rfl
 have o:=H.below h;have v:=o.cells 0;simp only[zG,vP] at v;obtain⟨P,Q,R,V,W,Z,e6,e7⟩:=h8;have B:=X (λe(g:Zb d e)=>Kz k i b a3 l (Ic (yH (λf j _=>⟨j,(g.block f (o.S f j).1)⟩) o.sig)) (by omega) (kL g (kL h (dA u))));have b0:=λ(e:N)(g:Zb d e)=>jH g P;have b1:=λ(e:N)(g:Zb d e)=>jH g Q;have b2:=λ(e:N)(g:Zb d e)=>jH g R;have b3:=λ(e:N)(g:Zb d e)=>jH g V;have b4:=λ(e:N)(g:Zb d e)=>jH g W;have b5:=λ(e:N)(g:Zb d e)=>jH g Z;have b6:=λ(e:N)(g:Zb d e)=>jH g e6;have b7:=λ(e:N)(g:Zb d e)=>jH g e7;have bh:=λ(e:N)(g:Zb d e)=>jH g v;obtain⟨g,x⟩:=Ze (mC r c 0);rw[<-x] at B;have ac:=X q;have E:=X o;have aa:=X G;have ab:=X K;have ad:=X h;have Hc:=X (jM (nA h u) (yH (λf j t=>⟨j,h.block f t⟩) O));have ae:=X M;have HX:=X x;clear H o q G K u O h M P Q R V W Z e6 e7 v x;go_enter Tryz.func150,Tryz.ntmps150
 go_upto_region 1 with fail
 rw[<-ac.out];refine wp_region_held_drew (S:=λe=>Zb d e) (by kernel_rfl) (xH (jW _ _)) (λh=>?_);refine pl [0,1,2,3,4,5] rfl ‹_› ?_
 repeat ((first|(refine tk ?_ rfl (by kernel_rfl) ?_ ?_;rotate_left;focus (intro w O;(try dsimp only at O);go_simp;try with_reducible rfl))|refine tn rfl (by kernel_rfl) ?_);try simp only[nD])
 refine pn ?_;refine wpAnyH_ready (rs:=[6,7]) (by kernel_rfl) (by simp) ?_;refine AllReadyH.cons rfl (λK o=>?_) (AllReadyH.cons rfl (λG q=>?_) AllReadyH.nil);go_simp;refine(B.out _ h).mono ?_;rintro z u ⟨rfl,x⟩;have H:=X x;have v:=X (h.trans (x.mono h.size));clear x
 go_wp2_with fail
 refine o.out _ _ ?_ (λh=>?_)
 .exact v.out
 clear o K
 try simp only[nD]
 refine rd 7 (by kernel_rfl) rfl (λK o=>?_);go_simp;refine o.out _ _ ?_ (λh=>?_)
 .exact h.alloc h.size _
 clear o K
 try simp only[nD]
 refine rd 8 (by kernel_rfl) rfl (λK o=>?_);go_simp;refine o.out _ _ ?_ (λh=>?_)
 .exact v.out.alloc v.out.size _
 clear o K
 try simp only[nD]
 refine wpAnyH_done (by kernel_rfl) ?_ _;have i_:Hid (xL (u.alloc (.cells (vI c g b 0 a2 i a3 l) 104)) u.heap.size c g b 0 a2 i a3 l):=X iL;have h_:=X h;have j_:d.heap.size<=u.heap.size:=v.out.size;clear h b0 b1 b2 b3 b4 b5 b6 b7 bh B v H;generalize (u.alloc (.cells (vI c g b 0 a2 i a3 l) 104))=Y_ at*;generalize u.heap.size=k_ at*;rotate_left;go_simp;refine q.out _ _ ?_ (λh=>?_)
 .exact h.alloc h.size _
 clear q G
 try simp only[nD]
 refine rd 6 (by kernel_rfl) rfl (λK o=>?_);go_simp;refine(B.out _ h).mono ?_;rintro z u ⟨rfl,x⟩;have v:=X (h.trans (x.mono h.size));have G:xL u d.heap.size [] 0 kZ 0 none 0 none 0:=(x.block d.heap.size (by simp)).trans (iL (w:=d) (c:=[]) (z:=0) (i:=kZ) (z1:=0) (a:=none) (k:=0) (a1:=none) (n:=0));have H:=X G;obtain⟨⟨M,P,Q,R,V,W⟩,⟨Z,y7,y8,y9,af⟩,q⟩:=G.get;have f0:=q 0;have f1:=q 1;have f2:=q 2;have f3:=q 3;have f4:=q 4;have f5:=q 5;have f6:=q 6;have f7:=q 7;have f8:=q 8;have f9:=q 9;have ag:=q 10;clear x q G
 go_wp2_with fail
 refine o.out _ _ ?_ (λh=>?_)
 .exact v.out
 clear o K
 try simp only[nD]
 refine rd 8 (by kernel_rfl) rfl (λK o=>?_);go_simp;refine o.out _ _ ?_ (λh=>?_)
 .exact bK (jF _) (vI c g b 0 a2 i a3 l).toList 0 _ v.out
 clear o K
 try simp only[nD]
 refine wpAnyH_done (by kernel_rfl) ?_ _;have i_:=X (H.out.all c g b 0 a2 i a3 l);have h_:Hid (Zb d (u.setCells d.heap.size 0 (vI c g b 0 a2 i a3 l).toList)):=X h;have j_:d.heap.size<=d.heap.size:=jF _;clear h b0 b1 b2 b3 b4 b5 b6 b7 bh B v M P Q R V W Z y7 y8 y9 af f0 f1 f2 f3 f4 f5 f6 f7 f8 f9 ag H;change Exit.then _ _ Exit.normal _ (u.setCells d.heap.size 0 (vI c g b 0 a2 i a3 l).toList);generalize (u.setCells d.heap.size 0 (vI c g b 0 a2 i a3 l).toList)=Y_ at*;obtain⟨k_,h⟩:=Ze d.heap.size;rw[<-h] at i_;rw[<-h];replace j_:d.heap.size<=k_:=by omega
 clear h
 all_goals
  have h:=E.out.below h_.out;have K:=h.cells 3;have P:=h.jo 3;simp only[zG,vP,xS] at K;have Q:=i_.out.get.1.2.1;have B:=X h;clear h
  go_wp2_with fail
  go_region
  have o:HA r a k p n {s with work:=qI (s.work - g)} y a1 m U (Y_.setCell (D n 3) (Y (qI (s.work - g)))).drew:=(B.out.wk (B.out.kr.put (qI (s.work - g))) (qH.set n Y_ _ 3)).drew;have h:qH n Y_ (Y_.setCell (D n 3) (Y (qI (s.work - g)))).drew:=qH.drew (qH.set n Y_ _ 3);have M:k_≠n:=by have:=E.out.lt;omega
  have q:xL (Y_.setCell (D n 3) (Y (qI (s.work - g)))).drew k_ c g b 0 a2 i a3 l:=(h.block k_ i_.out.lt M).trans i_.out;have v:qA p (Y_.setCell (D n 3) (Y (qI (s.work - g)))).drew c a2:=xP (λf j t=>⟨j,by rw[h.block f (kV t h_.out.size) (E.out.S f j).2.1];exact h_.out.block f t⟩) Hc.out.1;have G:IP p (Y_.setCell (D n 3) (Y (qI (s.work - g)))).drew b.G a3:=yH (λf j t=>⟨j,by rw[h.block f (kV t h_.out.size) (E.out.S f j).2.1];exact h_.out.block f t⟩) Hc.out.2;simp only[qI,Ba] at o h q v G;have R:Hid (qI (s.work - g)=wrap64 (s.work - g)):=X (Ba _);generalize wrap64 (s.work - g)=Z at*;generalize (Y_.setCell (D n 3) (Y Z)).drew=W5 at*;obtain⟨⟨V,W,v2,v3,v4,v5⟩,⟨v6,v7,v8,v9,af⟩,_⟩:=q.get;have HS:=X (CE o I aa.out g b 0 i a3 l L ab.out (nR (λf j=>(o.S f j).2.1) v));obtain⟨⟨ag,ak⟩,H⟩:∃ah,dR r c s.h Z=ah:=⟨_,rfl⟩;simp only[H] at HS;have ai:=X ((jR.A ad.out).trans ((jR.A h_.out).trans h));have x:=X (jM v (jM G q));have aj:=X H;clear K P Q o h q v G H h_ i_ B
  go_wp2_with fail
  refine HS.out.mono ?_;rintro z H ⟨rfl,h,o⟩;have q:Hid (Af r s c b=if (dR r c s.h (qI (s.work - mC r c 0))).1 then {s with work:=(dR r c s.h (qI (s.work - mC r c 0))).2} else sS {s with work:=(dR r c s.h (qI (s.work - mC r c 0))).2} ⟨c,mC r c 0,b,0⟩):=X rfl;rw[<-HX.out,R.out,aj.out] at q;have v:=X (ai.out.trans o)
  cases ag with
  |true=>
   have B:=X h;clear h o HS
   go_wp2_with fail
   (try simp only[Exit.inBlock,Exit.then]);refine rS (sD rfl _ _ _) rfl ?_;rw[q.out,jB (by trivial)];exact⟨rfl,⟨y,U,B.out,jD rfl⟩,v.out.mono (λ_ n=>jD n)⟩
  |false=>
   have B:xL H k_ c g b 0 a2 i a3 l:=(o.block k_ x.out.2.2.lt M).trans x.out.2.2;obtain⟨⟨Q,u1,u2,u3,u4,u5⟩,⟨u6,u7,u8,u9,al⟩,_⟩:=B.get;have G:=X (Nn h I aa.out g 0 l L ab.out ae.out (xP (λf j t=>⟨j,o.block f t (h.S f j).2.1⟩) x.out.1) (yH (λf j t=>⟨j,o.block f t (h.S f j).2.1⟩) x.out.2.1));clear h o HS B V W v2 v3 v4 v5 v6 v7 v8 v9 af
   go_wp2_with fail
   refine G.out.mono ?_;rintro z V ⟨rfl,h,j⟩;have o:=X h;have B:=X (v.out.mono (λ_ n=>jD n)|>.trans j);have K:=X v.out.below.size;clear h j G
   go_wp2_with fail
   (try simp only[Exit.inBlock,Exit.then]);refine rS (sD rfl _ _ _) rfl ?_;rw[q.out,jC (by simp)];obtain⟨A,F,h,j⟩:=o.out;refine⟨rfl,⟨A,F,h,j.imp id (λ⟨C,G,P⟩=>⟨C,G,kN K.out P⟩)⟩,B.out⟩
def HA.qv{s:St}{e:Zv}(H:HA r a k p n s e a1 m U w):HA r a k p n {s with Z:=qI (s.Z+1)} e a1 m U (w.setCell (D n 2) (Y (wrap64 (s.Z+1)))):=by
 have d:∀b,b≠n->(w.setCell (D n 2) (Y (wrap64 (s.Z+1)))).heap[b]? =w.heap[b]?:=λb c=>vL _ _ _ _ c;refine⟨?_,vT H.row (λg f=>d g (by have:=(H.own g f).1;omega)),uR (λb c _=>⟨c,d b (H.S b c).2.1⟩) H.jl,yH (λb c _=>⟨c,d b (H.S b c).2.1⟩) H.sig,yH (λb c _=>⟨c,d b (H.S b c).2.1⟩) H.jt,λb c=>⟨by have:=(H.S b c).1;simpa using this,(H.S b c).2⟩⟩;have:=fS w n 2 _ _ (Y (wrap64 (s.Z+1))) H.ka;simp only[qI,Ba];exact this
def RH{s:St}{x:Zv}(H:HA r a k p n s x a1 m U w)(L:s.h.length<=1000000)(j:∀ad,ad∈s.h->sG r ad)(o:c.length<=1000)(l:c.length<=i)(v:(qN r c).length<=8)(A:qC r (qN r c))(B:qA p w c a2):
 Calls Zf 36 #[Zr n,.slice a2 c.length i] w λf q=>f=.returned (.tuple #[])/\(∃I y E,((∀b,p b->I b)/\∀b,I b->p b\/w.heap.size<=b)/\HA r a k I n (mN r s c) y a1 m E q/\(y.ownBlock=x.ownBlock\/∃u,y.ownBlock=some u/\w.heap.size<=u))/\jR (λb=>b=n\/x.ownBlock=some b) w q:=by
 have g:=H.cells 0;simp only[zG,vP] at g;have z:=X (λq(e:Zb w q)=>Ic (yH (λb d _=>⟨d,(e.block b (H.S b d).1)⟩) H.sig));have C:=X (λq(e:Zb w q)=>XF k (z.out q e) o l (xP (λb d o=>⟨d,e.block b o⟩) B));have M:=λ(q:N)(e:Zb w q)=>jH e g;obtain⟨h,e⟩:=Ze (mC r (qN r c) 0);have t:=X H;have O:=X j;have J:=X v;have am:=X A;have F:=X e;have G:=H.lt;clear H j B l g e v A G;go_enter Tryz.func36,Tryz.ntmps36
 go_upto_region 0 with fail
 refine wp_region_held_drew (S:=λq=>Zb w q) (by kernel_rfl) (xH (jW _ _)) (λe=>?_);refine pl [0,1,2,3,4,5,6,7,8,10] rfl ‹_› ?_
 repeat ((first|(refine tk ?_ rfl (by kernel_rfl) ?_ ?_;rotate_left;focus (intro w an;(try dsimp only at an);go_simp;try with_reducible rfl))|refine tn rfl (by kernel_rfl) ?_);try simp only[nD])
 refine pn ?_;refine wpAnyH_ready (rs:=[9,12]) (by kernel_rfl) (by simp) ?_;refine AllReadyH.cons rfl (λK g=>?_) (AllReadyH.cons rfl (λK2 Q=>?_) AllReadyH.nil)
 focus
  go_simp;refine(C.out _ e).mono ?_;rintro f j ⟨a_,p_,rfl,l,B,G⟩;have A:=X (e.trans (G.mono e.size));have v:Hid ((qN r c).length<=p_/\qA (λb=>p b\/(w.heap.size<=b/\b<j.heap.size)) j (qN r c) a_):=X ⟨l,nR (λb d=>d.imp id (λd=>⟨d.1,d.2⟩)) B⟩;clear B l G
  go_wp2_with fail
  refine g.out _ _ ?_ (λe=>?_)
  .exact A.out
  clear g K
  try simp only[nD]
  refine wpAnyH_ready (rs:=[11,12]) (by kernel_rfl) (by simp) ?_;refine AllReadyH.cons rfl (λK g=>?_) (AllReadyH.cons rfl (λW R=>?_) AllReadyH.nil)
  focus
   go_simp;have V:=X v.out.2;refine(Kz k p_ kZ none 0 (z.out _ e) (by have:=J.out;omega) (dA V.out)).mono ?_;rw[<-F.out];rintro f l ⟨rfl,G⟩;have B:=X (e.trans (G.mono e.size));have H:=X G;clear G
   go_wp2_with fail
   refine g.out _ _ ?_ (λe=>?_)
   .exact B.out
   clear g K
   try simp only[nD]
   refine rd 12 (by kernel_rfl) rfl (λK g=>?_);go_simp;refine g.out _ _ ?_ (λe=>?_)
   .exact B.out.alloc B.out.size _
   clear g K
   try simp only[nD]
   refine rd 13 (by kernel_rfl) rfl (λK g=>?_);go_simp;refine g.out _ _ ?_ (λe=>?_)
   .exact B.out.alloc B.out.size _
   clear g K
   try simp only[nD]
   refine wpAnyH_done (by kernel_rfl) ?_ _;have j_:Hid (xL (l.alloc (.cells (vI (qN r c) h kZ 0 a_ p_ none 0) 104)) l.heap.size (qN r c) h kZ 0 a_ p_ none 0):=X iL;have h_:Hid (Zb w (l.alloc (.cells (vI (qN r c) h kZ 0 a_ p_ none 0) 104))):=X e;have P:Zb j (l.alloc (.cells (vI (qN r c) h kZ 0 a_ p_ none 0) 104)):=H.out.alloc H.out.size _;have b_:w.heap.size<=l.heap.size:=B.out.size;have Z:j.heap.size<=l.heap.size:=H.out.size;have aa:w.heap.size<=w.heap.size:=jF _;have ab:l.heap.size<w.heap.size\/j.heap.size<=l.heap.size:=jE Z;change Exit.then _ _ Exit.normal _ (l.alloc (.cells (vI (qN r c) h kZ 0 a_ p_ none 0) 104));generalize (l.alloc (.cells (vI (qN r c) h kZ 0 a_ p_ none 0) 104))=Y_ at*;generalize l.heap.size=k_ at*;obtain⟨R_,G⟩:∃R_:Zp,R_=λb=>p b\/(w.heap.size<=b/\b<j.heap.size):=⟨_,rfl⟩;have m_:Hid (∀b,p b->R_ b):=X (λb d=>by rw[G];exact jD d);have q_:Hid (∀b,R_ b->p b\/(w.heap.size<=b/\b<Y_.heap.size)):=X (λb d=>by have:=P.size;rw[G] at d;exact d.imp id (λd=>⟨by omega,by omega⟩));have i_:Hid (¬R_ k_/\x.ownBlock≠some k_):=X ⟨λd=>by rw[G] at d;rcases d with d|d;(have:=(t.out.S k_ d).1;omega);omega,λf=>by have:=(t.out.own k_ f).2;omega⟩;have l_:Hid ((qN r c).length<=p_/\qA R_ Y_ (qN r c) a_):=X ⟨v.out.1,xP (λb d o=>⟨by rw[G];exact d,P.block b o⟩) v.out.2⟩;clear P G aa ab;clear H;clear e C z A B v V M
  rotate_left
  focus
   go_simp;have V:Hid (xL (j.alloc (.cells (vI [] 0 kZ 0 none 0 none 0) 104)) j.heap.size [] 0 kZ 0 none 0 none 0):=X iL;refine R.out _ _ ?_ (λe=>?_)
   .exact A.out.alloc A.out.size _
   clear R W
   try simp only[nD]
   refine rd 11 (by kernel_rfl) rfl (λK g=>?_);go_simp;have R:=X (nA (jG j (.cells (vI [] 0 kZ 0 none 0 none 0) 104)) v.out.2);refine(Kz k p_ kZ none 0 (z.out _ e) (by have:=J.out;omega) (dA R.out)).mono ?_;rw[<-F.out];rintro f B ⟨rfl,G⟩;have H:=X (e.trans (G.mono e.size));have W:=X G;have P:xL B _ [] 0 kZ 0 none 0 none 0:=(G.block _ V.out.lt).trans V.out;have Z:=X P;obtain⟨⟨y0,y1,y2,y3,y4,y5⟩,⟨y6,y7,y8,y9,aa⟩,l⟩:=P.get;have f0:=l 0;have f1:=l 1;have f2:=l 2;have f3:=l 3;have f4:=l 4;have f5:=l 5;have f6:=l 6;have f7:=l 7;have f8:=l 8;have f9:=l 9;have ab:=l 10;clear l P;clear G
   go_wp2_with fail
   refine g.out _ _ ?_ (λe=>?_)
   .exact H.out
   clear g K
   try simp only[nD]
   refine rd 13 (by kernel_rfl) rfl (λK g=>?_);go_simp;refine g.out _ _ ?_ (λe=>?_)
   .exact bK A.out.size (vI (qN r c) h kZ 0 a_ p_ none 0).toList 0 _ H.out
   clear g K
   try simp only[nD]
   refine wpAnyH_done (by kernel_rfl) ?_ _;have j_:=X (Z.out.all (qN r c) h kZ 0 a_ p_ none 0);have h_:Hid (Zb w (B.setCells j.heap.size 0 (vI (qN r c) h kZ 0 a_ p_ none 0).toList)):=X e;have G:Zb j (B.setCells j.heap.size 0 (vI (qN r c) h kZ 0 a_ p_ none 0).toList):=bK (jF _) _ 0 _ ((jG _ _).trans (W.out.mono (by simp)));have b_:w.heap.size<=j.heap.size:=A.out.size;have P:w.heap.size<=w.heap.size:=jF _;change Exit.then _ _ Exit.normal _ (B.setCells j.heap.size 0 (vI (qN r c) h kZ 0 a_ p_ none 0).toList);generalize (B.setCells j.heap.size 0 (vI (qN r c) h kZ 0 a_ p_ none 0).toList)=Y_ at*;obtain⟨k_,l⟩:=Ze j.heap.size;rw[<-l] at j_;rw[<-l];replace b_:w.heap.size<=k_:=by omega
   have ac:k_<w.heap.size\/j.heap.size<=k_:=jE (by omega);clear l W Z y0 y1 y2 y3 y4 y5 y6 y7 y8 y9 aa f0 f1 f2 f3 f4 f5 f6 f7 f8 f9 ab;obtain⟨R_,l⟩:∃R_:Zp,R_=λb=>p b\/(w.heap.size<=b/\b<j.heap.size):=⟨_,rfl⟩;have m_:Hid (∀b,p b->R_ b):=X (λb d=>by rw[l];exact jD d);have q_:Hid (∀b,R_ b->p b\/(w.heap.size<=b/\b<Y_.heap.size)):=X (λb d=>by have:=G.size;rw[l] at d;exact d.imp id (λd=>⟨by omega,by omega⟩));have i_:Hid (¬R_ k_/\x.ownBlock≠some k_):=X ⟨λd=>by rw[l] at d;rcases d with d|d;(have:=(t.out.S k_ d).1;omega);omega,λf=>by have:=(t.out.own k_ f).2;omega⟩;have l_:Hid ((qN r c).length<=p_/\qA R_ Y_ (qN r c) a_):=X ⟨v.out.1,xP (λb d o=>⟨by rw[l];exact d,G.block b o⟩) v.out.2⟩;clear G l P ac;clear e C z A H v R M
 rotate_left 2
 focus
  go_simp;have A:Hid (xL (w.alloc (.cells (vI [] 0 kZ 0 none 0 none 0) 104)).drew w.heap.size [] 0 kZ 0 none 0 none 0):=X (World.alloc_heap_new _ _);refine Q.out _ _ ?_ (λe=>?_)
  .exact(jW _ _).alloc (jF _) _|>.drew
  clear Q K2
  try simp only[nD]
  refine rd 9 (by kernel_rfl) rfl (λK g=>?_);go_simp;refine(C.out _ e).mono ?_;rintro f v ⟨a_,p_,rfl,l,G,j⟩;have R:=X (e.trans (j.mono e.size));have B:Hid ((qN r c).length<=p_/\qA (λb=>p b\/(w.heap.size+1<=b/\b<v.heap.size)) v (qN r c) a_):=X ⟨l,nR (λb d=>d.imp id (λd=>⟨by have:=d.1;simpa using this,d.2⟩)) G⟩;have V:Hid (xL v w.heap.size [] 0 kZ 0 none 0 none 0):=X ((j.block _ A.out.lt).trans A.out);clear G l j
  go_wp2_with fail
  refine g.out _ _ ?_ (λe=>?_)
  .exact R.out
  clear g K
  try simp only[nD]
  refine rd 11 (by kernel_rfl) rfl (λK g=>?_);go_simp;have W:=X B.out.2;refine(Kz k p_ kZ none 0 (z.out _ e) (by have:=J.out;omega) (dA W.out)).mono ?_;rw[<-F.out];rintro f l ⟨rfl,G⟩;have H:=X (e.trans (G.mono e.size));have P:=X G;have A:=V;have Q:xL l _ [] 0 kZ 0 none 0 none 0:=(G.block _ A.out.lt).trans A.out;have Z:=X Q;obtain⟨⟨y0,y1,y2,y3,y4,y5⟩,⟨y6,y7,y8,y9,aa⟩,j⟩:=Q.get;have f0:=j 0;have f1:=j 1;have f2:=j 2;have f3:=j 3;have f4:=j 4;have f5:=j 5;have f6:=j 6;have f7:=j 7;have f8:=j 8;have f9:=j 9;have ab:=j 10;clear j Q;clear G
  go_wp2_with fail
  refine g.out _ _ ?_ (λe=>?_)
  .exact H.out
  clear g K
  try simp only[nD]
  refine rd 13 (by kernel_rfl) rfl (λK g=>?_);go_simp;refine g.out _ _ ?_ (λe=>?_)
  .exact bK (jF _) (vI (qN r c) h kZ 0 a_ p_ none 0).toList 0 _ H.out
  clear g K
  try simp only[nD]
  refine wpAnyH_done (by kernel_rfl) ?_ _;have j_:=X (Z.out.all (qN r c) h kZ 0 a_ p_ none 0);have h_:Hid (Zb w (l.setCells w.heap.size 0 (vI (qN r c) h kZ 0 a_ p_ none 0).toList)):=X e;have G:∀b,b<v.heap.size->b≠w.heap.size->(l.setCells w.heap.size 0 (vI (qN r c) h kZ 0 a_ p_ none 0).toList).heap[b]? =v.heap[b]?:=λb d g=>by rw[tH g];exact P.out.block b d
  have K:v.heap.size<=(l.setCells w.heap.size 0 (vI (qN r c) h kZ 0 a_ p_ none 0).toList).heap.size:=kN P.out.size (bK (w:=l) (jY _) _ 0 _ (jW 0 l)).size;change Exit.then _ _ Exit.normal _ (l.setCells w.heap.size 0 (vI (qN r c) h kZ 0 a_ p_ none 0).toList);generalize (l.setCells w.heap.size 0 (vI (qN r c) h kZ 0 a_ p_ none 0).toList)=Y_ at*;obtain⟨k_,j⟩:=Ze w.heap.size;rw[<-j] at j_;rw[<-j];have b_:w.heap.size<=k_:=by omega
  obtain⟨R_,g⟩:∃R_:Zp,R_=λb=>p b\/(w.heap.size+1<=b/\b<v.heap.size):=⟨_,rfl⟩;have m_:Hid (∀b,p b->R_ b):=X (λb d=>by rw[g];exact jD d);have q_:Hid (∀b,R_ b->p b\/(w.heap.size<=b/\b<Y_.heap.size)):=X (λb d=>by rw[g] at d;exact d.imp id (λd=>⟨by omega,by omega⟩));have i_:Hid (¬R_ k_/\x.ownBlock≠some k_):=X ⟨λd=>by rw[g] at d;rcases d with d|d;(have:=(t.out.S k_ d).1;omega);omega,λf=>by have:=(t.out.own k_ f).2;omega⟩;have l_:Hid ((qN r c).length<=p_/\qA R_ Y_ (qN r c) a_):=X ⟨B.out.1,xP (λb d o=>⟨by rw[g];exact d,G b o (λf=>by rcases d with d|d;(have:=(t.out.S b d).1;omega);omega)⟩) B.out.2⟩;clear j P Z y0 y1 y2 y3 y4 y5 y6 y7 y8 y9 aa f0 f1 f2 f3 f4 f5 f6 f7 f8 f9 ab g G K A V;clear e C z R H B W M
 all_goals
  obtain⟨C,e⟩:=Ze (qN r c);rw[<-e] at j_ l_ F;rw[<-e];have HC:=X e;have B:C.length<=8:=by rw[e];exact J.out
  have g:qC r C:=by rw[e];exact am.out
  clear e;have e:=t.out.below h_.out;have j:=e.more (R':=R_) m_.out (λb d=>(q_.out b d).elim (λd=>e.S b d) (λd=>⟨d.2,by have:=t.out.lt;omega,λf=>by have:=(t.out.own b f).2;omega⟩));obtain⟨⟨G,H,K,M,P,Q⟩,⟨R,V,W,Z,aa⟩,v⟩:=j_.out.get;have HS:=X (CE j L O.out h kZ 0 p_ none 0 B g (nR (λb d=>(j.S b d).2.1) l_.out.2));obtain⟨⟨ao,ap⟩,l⟩:∃aq,dR r C s.h s.work=aq:=⟨_,rfl⟩;simp only[l] at HS;have ar:=X l;have ae:k_≠n:=by have:=t.out.lt;omega
  have af:=X g;clear e j l g v;dsimp only[kZ] at G H K M P Q R V W Z aa
  go_wp2_with fail
  refine HS.out.mono ?_;rintro f e ⟨rfl,j,l⟩;have v:xL e k_ C h kZ 0 a_ p_ none 0:=(l.block k_ j_.out.lt ae).trans j_.out;have ab:Hid (mN r s c={sS {s with work:=(dR r (qN r c) s.h s.work).2} (if (dR r (qN r c) s.h s.work).1 then⟨qN r c,mC r (qN r c) 0,kZ,2⟩ else⟨qN r c,mC r (qN r c) 0,kZ,0⟩) with Z:=qI ((sS {s with work:=(dR r (qN r c) s.h s.work).2} (if (dR r (qN r c) s.h s.work).1 then⟨qN r c,mC r (qN r c) 0,kZ,2⟩ else⟨qN r c,mC r (qN r c) 0,kZ,0⟩)).Z+1)}):=X rfl;rw[<-HC.out,<-F.out,ar.out] at ab;have ac:=jR.trans (jR.A h_.out) l;have z:=X ac;have A:qA R_ e C a_:=xP (λb d o=>⟨d,l.block b o (j.S b d).2.1⟩) l_.out.2;have ag:=X l_.out.1
  cases ao with
  |true=>
   obtain⟨⟨u0,u1,u2,u3,u4,u5⟩,⟨u6,u7,u8,u9,au⟩,uf⟩:=v.get;have ay:=uf 10;have ah:Below k_ e (e.setCell (D k_ 10) (.int .i8 2)):=bD (p:=(D k_ 10)) (jW _ _) (jF _) _;have g:∀b,b≠k_->(e.setCell (D k_ 10) (.int .i8 2)).heap[b]? =e.heap[b]?:=λb d=>vL _ _ _ _ d;have H7:HA r a k R_ n {s with work:=ap} x a1 m U (e.setCell (D k_ 10) (.int .i8 2)):=j.keep (by simp) (g n (Ne.symm ae)) (λu hg=>g u (λf=>by subst f;exact i_.out.2 hg)) (λb d=>g b (λf=>by subst f;exact i_.out.1 d));have ai:qA R_ (e.setCell (D k_ 10) (.int .i8 2)) C a_:=xP (λb d _=>⟨d,g b (λf=>by subst f;exact i_.out.1 d)⟩) A;have aj:=X (Nn H7 L O.out h (d:=kZ) 2 (a3:=none) 0 B af.out ag.out ai (jD rfl));have ak:jR (λb=>b=n) w (e.setCell (D k_ 10) (.int .i8 2)):=⟨z.out.below.trans (ah.mono (jY _)),λb d hz=>by rw[g b (by have:=b_;omega)];exact z.out.block b d hz⟩;have al:=X ak;clear j l HS v G H K M P Q R V W Z aa uf ah g H7 ai A ak ac;dsimp only[kZ] at u0 u1 u2 u3 u4 u5 u6 u7 u8 u9 au
   go_wp2_with fail
   refine aj.out.mono ?_;rintro f w7 ⟨rfl,⟨y,E,g,ah⟩,ai⟩;have ak:=X (al.out.mono (λ_ n=>jD n)|>.trans ai);have av:=X al.out.below.size;have g2:=g.cells 2;have az:=g.jo 2;simp only[zG,vP,xS] at g2;have aw:=X g;have ax:=X ah;clear g ah ai aj
   go_wp2_with fail
   (try simp only[Exit.inBlock,Exit.then]);refine rS (sD rfl _ _ _) rfl ?_;refine⟨rfl,⟨R_,y,E,⟨m_.out,λb d=>(q_.out b d).imp id (λd=>d.1)⟩,?_,ax.out.imp id (λ⟨u,g,h2⟩=>⟨u,g,kN av.out h2⟩)⟩,ak.out.trans ⟨bD (p:=(D n 2)) (jW _ _) (jY _) _,λg _ g=>vL _ _ _ _ (λf=>g (jD f))⟩⟩;rw[ab.out];exact aw.out.qv
  |false=>
   obtain⟨⟨u0,u1,u2,u3,u4,u5⟩,⟨u6,u7,u8,u9,ai⟩,g⟩:=v.get;have ah:=X (Nn j L O.out h (d:=kZ) 0 (a3:=none) 0 B af.out ag.out A (jD rfl));clear j l HS v G H K M P Q R V W Z aa g A ac;dsimp only[kZ] at u0 u1 u2 u3 u4 u5 u6 u7 u8 u9 ai
   go_wp2_with fail
   refine ah.out.mono ?_;rintro f M ⟨rfl,⟨y,E,g,j⟩,l⟩;have v:=X (z.out.mono (λ_ n=>jD n)|>.trans l);have A:=X z.out.below.size;have G:=g.cells 2;have P:=g.jo 2;simp only[zG,vP,xS] at G;have H:=X g;have K:=X j;clear g j l ah
   go_wp2_with fail
   (try simp only[Exit.inBlock,Exit.then]);refine rS (sD rfl _ _ _) rfl ?_;refine⟨rfl,⟨R_,y,E,⟨m_.out,λb d=>(q_.out b d).imp id (λd=>d.1)⟩,?_,K.out.imp id (λ⟨u,d,g⟩=>⟨u,d,kN A.out g⟩)⟩,v.out.trans ⟨bD (p:=(D n 2)) (jW _ _) (jY _) _,λj _ d=>vL _ _ _ _ (λf=>d (jD f))⟩⟩;rw[ab.out];exact H.out.qv
def Ld{s:St}{f:Zv}(H:HA r a k p n s f a1 m U w):
 Calls Zf 58 #[Zr n] w λg h=>g=.returned (.bool (zQ s))/\h=w:=by
 have i:=H.cells 3;have d:=H.cells 12;simp only[zG,vP,xS] at i d;obtain⟨e,c⟩:=Ze (zQ s);rw[<-c];have b:Hid (e=(s.found||decide (s.work<=0))):=X c;clear H c
 cases c:s.found with
 |true=>
  rw[c] at d;have j:Hid (e=true):=X (by rw[b.out,c];rfl);clear b;go_enter Tryz.func58,Tryz.ntmps58
  go_wp2_with fail
  go_ret;rw[j.out];exact⟨rfl,rfl⟩
 |false=>
  rw[c] at d;have j:Hid (e=decide (s.work<=0)):=X (by rw[b.out,c];rfl);clear b;go_enter Tryz.func58,Tryz.ntmps58
  go_wp2_with fail
  go_ret;rw[j.out];exact⟨rfl,rfl⟩
def I8.je{i:jX}(h:w.heap[k]? =some (.cells #[Y i.L,Y i.left,Y i.right,Y i.la,Y i.ra,.bool i.lt,.bool i.rt,.slice a i.G.length n] 81 (0,0))):I8 w k i a n/\∀j,w.frozen? (D k j)=false:=by
 have b:∀j,w.cell? (D k j)=_:=λj=>lJ h j;exact⟨⟨b 0,b 1,b 2,b 3,b 4,b 5,b 6,b 7⟩,λj=>by simp[World.frozen?,h]⟩
def WP(nc:Nat){i:jX}(d:Zo)(e:Nat)(J:jV w r a)(hl:i.left=(k:Int))(C:k<r.length)(hr:i.right=(n:Int))(aa:i.L=3->n<r.length):
 Calls Zf 114 #[zV i d e,.slice a r.length nc] w λaf w'=>af=.returned (zV (eC r i) d e)/\Zb w w':=by
 obtain⟨q,c⟩:=Ze ((w.alloc (.cells #[Y i.L,Y i.left,Y i.right,Y i.la,Y i.ra,.bool i.lt,.bool i.rt,Zk d i.G e] 81)).alloc (.cells #[Y 0,Y 0,Y 0,Y 0,Y 0,.bool false,.bool false,Zd] 81));have z:Zb w q:=by rw[c];exact kF _ _ _
 have A:q.heap[w.heap.size]? =some (.cells #[Y i.L,Y i.left,Y i.right,Y i.la,Y i.ra,.bool i.lt,.bool i.rt,Zk d i.G e] 81 (0,0)):=by rw[c,zL _ _ _ (by simp)];exact World.alloc_heap_new _ _
 have i1:q.heap[w.heap.size+1]? =some (.cells #[Y 0,Y 0,Y 0,Y 0,Y 0,.bool false,.bool false,Zd] 81 (0,0)):=by
  rw[c];have:=World.alloc_heap_new (w.alloc (.cells #[Y i.L,Y i.left,Y i.right,Y i.la,Y i.ra,.bool i.lt,.bool i.rt,Zk d i.G e] 81)) (.cells #[Y 0,Y 0,Y 0,Y 0,Y 0,.bool false,.bool false,Zd] 81 (0,0));rw[qE] at this;exact this
 obtain⟨x,E,rfl,B⟩:∃x E,a=some (D x E)/\∀i,i<r.length->Zq w x (E+i) (Y (r.getD i 0)):=by
  rcases J with h|h
  .rw[h] at C;simp at C
  exact h
 have c1:=jH z (B k C);have F:=λm=>jH z (B n (aa m));have ag:x≠w.heap.size:=by have:=kA (B k C);omega
 have ai:(k:Int)<r.length:=by omega
 have aj:(0:Int)<=k:=by omega
 have ak:(0:Int)<=n:=by omega
 have G:i.L=3->(n:Int)<r.length:=λh=>by have:=aa h;omega
 obtain⟨b,left,right,f,g,h,j,l⟩:=i;dsimp only at hl hr aa G F A c;subst hl hr;obtain⟨L,H⟩:=Ze (r.getD k 0);obtain⟨o,I⟩:=Ze (r.getD n 0);rw[<-H] at c1;rw[<-I] at F;have HF:Hid (eC r ⟨b,k,n,f,g,h,j,l⟩=⟨b,L,if b=3 then o else n,f,g,h,j,l⟩):=X (by rw[H,I];simp[eC]);obtain⟨⟨e0,e1,e2,e3,e4,e5,e6,e7⟩,t⟩:=I8.je (i:=⟨b,k,n,f,g,h,j,l⟩) A;dsimp only at e0 e1 e2 e3 e4 e5 e6 e7;have f1:=t 1;have s:(q.setCell (D w.heap.size 1) (Y L)).heap[w.heap.size]? =some (.cells #[Y b,Y L,Y n,Y f,Y g,.bool h,.bool j,Zk d l e] 81 (0,0)):=fS q _ 1 _ _ _ A;have K:(q.setCell (D w.heap.size 1) (Y L)).heap[w.heap.size+1]? =q.heap[w.heap.size+1]?:=vL _ _ _ _ (show w.heap.size+1≠w.heap.size by omega);have u:Zb w (q.setCell (D w.heap.size 1) (Y L)):=bD (p:=(D w.heap.size 1)) z (jF _) _;have y:∀m:b=3,(q.setCell (D w.heap.size 1) (Y L)).cell? (D x (E+n))=some (Y o):=λm=>(World.cell?_setCell_far _ _ _ _ (show w.heap.size≠x from Ne.symm ag)).trans (F m);have ab:=X c;have H3:=X (jM s (jM (K.trans i1) (jM u y)));have ac:Tryz.f114.results=#[.cell 4 81]:=by kernel_rfl
 have ad:(Zf.info? 81).map (·.size)=some 8:=by kernel_rfl
 clear J H I B F s K u y A i1 c z t;go_enter Tryz.func114,Tryz.ntmps114
 go_upto_region 1 with fail
 rw[<-ab.out]
 go_upto_region 2 with fail
 generalize (q.setCell (D w.heap.size 1) (Y L))=z at*;obtain⟨s,A,u,y⟩:=H3.out;obtain⟨⟨F,H,I,J,K,M,O,Q⟩,t⟩:=I8.je (i:=⟨b,L,n,f,g,h,j,l⟩) s;obtain⟨⟨R,S,U,V,W,Z,k6,k7⟩,c⟩:=I8.je (i:=kZ) A;dsimp only[kZ] at F H I J K M O Q R S U V W Z k6 k7;have p0:=c 0;have p1:=c 1;have p2:=c 2;have p3:=c 3;have p4:=c 4;have p5:=c 5;have p6:=c 6;have p7:=c 7;have B:=X (jM s (jM A u));clear e0 e1 e2 e3 e4 e5 e6 e7 f1 c1 ab s A u c;by_cases m:b=3
 .have c4:=y m
  have f2:=t 2;have al:=G m;have ah:(b==3)=true:=by simpa using m
  have h5:(z.setCell (D w.heap.size 2) (Y o)).heap[w.heap.size]? =some (.cells #[Y b,Y L,Y o,Y f,Y g,.bool h,.bool j,Zk d l e] 81 (0,0)):=fS z _ 2 _ _ _ B.out.1;have ab:(z.setCell (D w.heap.size 2) (Y o)).heap[w.heap.size+1]? =z.heap[w.heap.size+1]?:=vL _ _ _ _ (show w.heap.size+1≠w.heap.size by omega);have ae:Zb w (z.setCell (D w.heap.size 2) (Y o)):=bD (p:=(D w.heap.size 2)) B.out.2.2 (jF _) _;have H5:=X (jM h5 (jM (ab.trans B.out.2.1) ae));have Hk:=X m;clear y t G m h5 ab ae B H3
  go_upto_region 4 with fail
  generalize (z.setCell (D w.heap.size 2) (Y o))=W5 at*;clear F H I J K M O Q R S U V W Z k6 k7 p0 p1 p2 p3 p4 p5 p6 p7 c4 f2;obtain⟨s,A,u⟩:=H5.out;obtain⟨⟨F,H,I,J,K,M,O,Q⟩,t⟩:=I8.je (i:=⟨b,L,o,f,g,h,j,l⟩) s;obtain⟨⟨R,S,U,V,W,Z,k6,k7⟩,c⟩:=I8.je (i:=kZ) A;dsimp only[kZ] at F H I J K M O Q R S U V W Z k6 k7;have p0:=c 0;have p1:=c 1;have p2:=c 2;have p3:=c 3;have p4:=c 4;have p5:=c 5;have p6:=c 6;have p7:=c 7;clear t c s A u
  go_wp2_with fail
  (try simp only[Exit.inBlock,Exit.then]);refine qS (v:=zV ⟨b,L,o,f,g,h,j,l⟩ d e) (tE (P:=Zf) (fn:=Tryz.f114) (p:=4) (ty:=81) ac _ _ (w.heap.size+1) 81 #[Y b,Y L,Y o,Y f,Y g,.bool h,.bool j,Zk d l e] (0,0) _ rfl (pG (U:=[Y b,Y L,Y o,Y f,Y g,.bool h,.bool j,Zk d l e]) H5.out.2.1 rfl) Tryz.underlying81 rfl ad) rfl ?_;rw[HF.out,jB Hk.out];exact⟨rfl,bK (show w.heap.size<=w.heap.size+1 by omega) [Y b,Y L,Y o,Y f,Y g,.bool h,.bool j,Zk d l e] 0 _ H5.out.2.2⟩
 have ah:(b==3)=false:=by simpa using m
 have Hk:=X m;clear y t G m H3
 go_wp2_with fail
 (try simp only[Exit.inBlock,Exit.then]);refine qS (v:=zV ⟨b,L,n,f,g,h,j,l⟩ d e) (tE (P:=Zf) (fn:=Tryz.f114) (p:=4) (ty:=81) ac _ _ (w.heap.size+1) 81 #[Y b,Y L,Y n,Y f,Y g,.bool h,.bool j,Zk d l e] (0,0) _ rfl (pG (U:=[Y b,Y L,Y n,Y f,Y g,.bool h,.bool j,Zk d l e]) B.out.2.1 rfl) Tryz.underlying81 rfl ad) rfl ?_;rw[HF.out,jC Hk.out];exact⟨rfl,bK (show w.heap.size<=w.heap.size+1 by omega) [Y b,Y L,Y n,Y f,Y g,.bool h,.bool j,Zk d l e] 0 _ B.out.2.2⟩
def RA{d e f h Q x v u s r p n l a b c i j m o q t:Zv}(R:w.heap[k]? =some (.cells #[d,e,f,h,Q,x,v,u,s,r,p,n,l] g (0,0))):
 ((w.setCells k 4 [a,b,c,i,j,m,o,q]).setCell (D k 12) t).heap[k]? =some (.cells #[d,e,f,h,a,b,c,i,j,m,o,q,t] g (0,0)):=by
 have y:(w.setCell (D k 4) a).heap[k]? =some (.cells #[d,e,f,h,a,x,v,u,s,r,p,n,l] g (0,0)):=fS _ k 4 _ _ a R;generalize S:w.setCell (D k 4) a=z at y;have A:(z.setCell (D k 5) b).heap[k]? =some (.cells #[d,e,f,h,a,b,v,u,s,r,p,n,l] g (0,0)):=fS _ k 5 _ _ b y;generalize U:z.setCell (D k 5) b=B at A;have C:(B.setCell (D k 6) c).heap[k]? =some (.cells #[d,e,f,h,a,b,c,u,s,r,p,n,l] g (0,0)):=fS _ k 6 _ _ c A;generalize V:B.setCell (D k 6) c=E at C;have F:(E.setCell (D k 7) i).heap[k]? =some (.cells #[d,e,f,h,a,b,c,i,s,r,p,n,l] g (0,0)):=fS _ k 7 _ _ i C;generalize W:E.setCell (D k 7) i=G at F;have H:(G.setCell (D k 8) j).heap[k]? =some (.cells #[d,e,f,h,a,b,c,i,j,r,p,n,l] g (0,0)):=fS _ k 8 _ _ j F;generalize Z:G.setCell (D k 8) j=I at H;have J:(I.setCell (D k 9) m).heap[k]? =some (.cells #[d,e,f,h,a,b,c,i,j,m,p,n,l] g (0,0)):=fS _ k 9 _ _ m H;generalize aa:I.setCell (D k 9) m=K at J;have L:(K.setCell (D k 10) o).heap[k]? =some (.cells #[d,e,f,h,a,b,c,i,j,m,o,n,l] g (0,0)):=fS _ k 10 _ _ o J;generalize ab:K.setCell (D k 10) o=M at L;have O:(M.setCell (D k 11) q).heap[k]? =some (.cells #[d,e,f,h,a,b,c,i,j,m,o,q,l] g (0,0)):=fS _ k 11 _ _ q L;generalize ac:M.setCell (D k 11) q=w8 at O;have P:(w8.setCell (D k 12) t).heap[k]? =some (.cells #[d,e,f,h,a,b,c,i,j,m,o,q,t] g (0,0)):=fS _ k 12 _ _ t O;rw[<-ac,<-ab,<-aa,<-Z,<-W,<-V,<-U,<-S] at P;exact P
def HA.found{s:St}{g:Zv}(H:HA r a k p n s g a1 m U w)(i:jX)(d:Zo)(f:Nat)(j:IP p w i.G d):
 HA r a k p n {s with last:=i,found:=true} g d f U ((w.setCells n 4 [Y i.L,Y i.left,Y i.right,Y i.la,Y i.ra,.bool i.lt,.bool i.rt,.slice d i.G.length f]).setCell (D n 12) (.bool true)):=by
 have e:∀b,b≠n->((w.setCells n 4 [Y i.L,Y i.left,Y i.right,Y i.la,Y i.ra,.bool i.lt,.bool i.rt,Zk d i.G f]).setCell (D n 12) (.bool true)).heap[b]? =w.heap[b]?:=λb c=>by
  rw[vL _ _ _ _ c,tH c]
 refine⟨?_,vT H.row (λh l=>e h (by have:=(H.own h l).1;omega)),uR (λb c _=>⟨c,e b (H.S b c).2.1⟩) H.jl,yH (λb c _=>⟨c,e b (H.S b c).2.1⟩) H.sig,yH (λb c _=>⟨c,e b (H.S b c).2.1⟩) j,λb c=>⟨by have:=(H.S b c).1;simpa[World.setCells] using this,(H.S b c).2⟩⟩;exact RA H.ka
def YO{d:Zv}(b:Zu):∀(o:Nat)(B:N),jR (λa=>a=k\/d.ownBlock=some a) w B->jR (λa=>a=k\/d.ownBlock=some a) w (B.setCells k o b):=by
 induction b with
 |nil=>intro o B c;exact c
 |cons v b e=>intro o B c;exact e (o+1) _ (c.trans ⟨bD (p:=(D k o)) (jW _ _) (jY _) _,λj _ f=>vL _ _ _ _ (λg=>f (jD g))⟩)
def MP{s:St}{g:Zv}(H:HA r a k p n s g a1 m U w)(aa:s.h.length<=1000000)(C:∀O,O∈s.h->sG r O){d:jX}(q:Nat)(E:c.length<=8)(F:qC r c)(G:c.length<=i)(I:qA p w c a2)(J:IP p w d.G a3):
 Calls Zf 113 #[Zr n,zV d a3 q,.slice a2 c.length i] w λl f=>l=.returned (.tuple #[])/\(∃v ab ac K,HA r a k p n (oK r s d c) v ab ac K f/\(v.ownBlock=g.ownBlock\/∃x,v.ownBlock=some x/\w.heap.size<=x))/\jR (λb=>b=n\/g.ownBlock=some b) w f:=by
 obtain⟨h,u⟩:=Ze (w.alloc (.cells #[Y d.L,Y d.left,Y d.right,Y d.la,Y d.ra,.bool d.lt,.bool d.rt,Zk a3 d.G q] 81));have t:Zb w h:=by rw[u];exact jG _ _
 have h8:I8 h w.heap.size d a3 q:=by rw[u];exact I8.new _ rfl
 have e:=H.below t;obtain⟨P,Q,R,V,W,Z,e6,e7⟩:=h8;have ad:w.heap.size≠n:=by have:=H.lt;omega
 have ae:g.ownBlock≠some w.heap.size:=λl=>by have:=(H.own _ l).2;omega
 have o:¬(w.heap.size=n\/g.ownBlock=some w.heap.size):=λl=>l.elim ad ae;have A:IP p h d.G a3:=yH (λb j hl=>⟨j,t.block b hl⟩) J;have L:=nA t I;by_cases y:c.length=0
 .have z:oK r s d c={s with last:=d,found:=true}:=by rw[oK,jB y]
  rw[z];have k4:=e.cells 4;have k5:=e.cells 5;have k6:=e.cells 6;have k7:=e.cells 7;have k8:=e.cells 8;have k9:=e.cells 9;have af:=e.cells 10;have ag:=e.cells 11;have ah:=e.cells 12;simp only[zG,vP,xS] at k4 k5 k6 k7 k8 k9 af ag ah;have q4:=e.jo 4;have q5:=e.jo 5;have q6:=e.jo 6;have q7:=e.jo 7;have q8:=e.jo 8;have q9:=e.jo 9;have ai:=e.jo 10;have aj:=e.jo 11;have ak:=e.jo 12;have HE:=X (e.found d a3 q A);have B:=X t;have M:=X u;obtain rfl:c=[]:=yM.1 y;clear H e C F I J A L y t u z G E;go_enter Tryz.func113,Tryz.ntmps113
  go_upto_region 1 with fail
  rw[<-M.out]
  go_wp2_with fail
  (try simp only[Exit.inBlock,Exit.then]);refine qS (sD rfl _ _ _) rfl ?_;refine⟨rfl,⟨g,a3,q,U,HE.out,jD rfl⟩,?_⟩;exact(YO [Y d.L,Y d.left,Y d.right,Y d.la,Y d.ra,.bool d.lt,.bool d.rt,Zk a3 d.G q] 4 _ (jR.A B.out)).trans ⟨bD (p:=(D n 12)) (jW _ _) (jY _) _,λal _ hj=>vL _ _ _ _ (λl=>hj (jD l))⟩
 have z:oK r s d c=Af r s c d:=by rw[oK,jC y]
 rw[z];have HK:=X (TT e.drew aa C q E F G (nA ((jW _ _).drew) L) (yH (λb j hl=>⟨j,rfl⟩) A));have al:((c.length:Int)==0)=false:=beq_eq_false_iff_ne.2 (by omega);have b0:=λ(f:N)(j:jR (λb=>b=n\/g.ownBlock=some b) h f)=>j.cell o P;have b1:=λ(f:N)(j:jR (λb=>b=n\/g.ownBlock=some b) h f)=>j.cell o Q;have b2:=λ(f:N)(j:jR (λb=>b=n\/g.ownBlock=some b) h f)=>j.cell o R;have b3:=λ(f:N)(j:jR (λb=>b=n\/g.ownBlock=some b) h f)=>j.cell o V;have b4:=λ(f:N)(j:jR (λb=>b=n\/g.ownBlock=some b) h f)=>j.cell o W;have b5:=λ(f:N)(j:jR (λb=>b=n\/g.ownBlock=some b) h f)=>j.cell o Z;have b6:=λ(f:N)(j:jR (λb=>b=n\/g.ownBlock=some b) h f)=>j.cell o e6;have b7:=λ(f:N)(j:jR (λb=>b=n\/g.ownBlock=some b) h f)=>j.cell o e7;have B:=X t;have M:=X u;have j:jR (λb=>b=n\/g.ownBlock=some b) h h.drew:=jR.A (jW _ _).drew;clear H e C F I J A L t u z G E P Q R V W Z e6 e7 y;go_enter Tryz.func113,Tryz.ntmps113
 go_upto_region 1 with fail
 rw[<-M.out]
 go_upto_region 3 with fail
 refine wp_region_held_drew (S:=λf=>jR (λb=>b=n\/g.ownBlock=some b) h f) (by kernel_rfl) j (λz=>?_);refine pl [0,1,2,3,4] rfl ‹_› ?_
 repeat ((first|(refine tk ?_ rfl (by kernel_rfl) ?_ ?_;rotate_left;focus (intro w A;(try dsimp only at A);go_simp;try with_reducible rfl))|refine tn rfl (by kernel_rfl) ?_);try simp only[nD])
 refine rp 5 (by kernel_rfl) rfl (λC e=>?_);go_simp;refine HK.out.mono ?_;rintro l F ⟨rfl,t,u⟩;have E:=X t;have y:=X u;clear t u
 go_wp2_with fail
 refine e.out _ _ ?_ (λz=>?_)
 .exact j.trans y.out
 clear e C
 try simp only[nD]
 refine wpAnyH_done (by kernel_rfl) ?_ _
 go_wp2_with fail
 (try simp only[Exit.inBlock,Exit.then]);refine rS (sD rfl _ _ _) rfl ?_;obtain⟨v,K,e,t⟩:=E.out;refine⟨rfl,⟨v,a1,m,K,e,t.imp id (λ⟨x,q1,q2⟩=>⟨x,q1,?_⟩)⟩,(jR.A B.out).trans (j.trans y.out)⟩;have:=B.out.size;have u:h.heap.size<=x:=q2;omega
abbrev bB(h:Nat)(a:Zv)(A B:N):Prop:=jR (λk=>k=h\/a.ownBlock=some k) A B
def sM(h:Nat)(a:Zv)(k:Nat):Prop:=¬(k=h\/a.ownBlock=some k)
def OC{s:St}{c:Zv}(H:HA r a k p n s c a1 m U w)(aw:s.h.length<=1000000)(ab:∀ac,ac∈s.h->sG r ac)
 (F bw G:Nat) (o:Int) (h:Zn) (I:Zo) (L:Nat) (ad:sM n c F) (ae:sM n c G) (ch:w.cell? (D F 0)=some (Zr n)) (cw:w.cell? (D bw 0)=some (Y o)) (cn:w.cell? (D G 0)=some (.slice I h.length L)) (af:IP (sM n c) w h I)
 (t:Zc) (z:Int) (i:jX) (M:Zo) (cc:Nat) (A:Zo) (B ag ah:Nat) (ai:z=0->t.length<=8) (aj:z=0->qC r t) (ak:t.length<=cc) (hc:qA p w t M) (hp:IP p w i.G A) (al:i.left=(ag:Int)) (am:ag<h.length) (an:i.right=(ah:Int)) (ao:i.L=3->ah<h.length):
 Calls Zf 112 #[zV i A B,.slice M t.length cc,Y z,Zr F,Zr bw,Zr G] w λj b=>j=.returned (.bool (!zQ (fP r o h s i (t,z))))/\(∃O ax ay az,HA r a k p n (fP r o h s i (t,z)) O ax ay az b/\(O.ownBlock=c.ownBlock\/∃u,O.ownBlock=some u/\w.heap.size<=u))/\bB n c w b:=by
 obtain⟨d,J⟩:=Ze (w.alloc (.cells #[Y i.L,Y i.left,Y i.right,Y i.la,Y i.ra,.bool i.lt,.bool i.rt,Zk A i.G B] 81));have l:Zb w d:=by rw[J];exact jG _ _
 have v:I8 d w.heap.size i A B:=by rw[J];exact I8.new _ rfl
 have E:=H.below l;have x:sM n c w.heap.size:=λj=>j.elim (λj=>by have:=H.lt;omega) (λj=>by have:=(H.own _ j).2;omega);obtain⟨P,Q⟩:=Ze (fP r o h s i (t,z));rw[<-Q];have ap:=jH l ch;have a0:=jH l cw;have h3:=E.cells 3;have z3:=E.jo 3;simp only[zG,vP,xS] at h3;have g:Hid (∀b,bB n c d b->Zq b F 0 (Zr n)/\Zq b G 0 (Zk I h L)/\I8 b w.heap.size i A B/\jV b h I):=X (λb e=>⟨e.cell ad ap,e.cell ae (jH l cn),⟨e.cell x v.e0,e.cell x v.e1,e.cell x v.e2,e.cell x v.e3,e.cell x v.e4,e.cell x v.e5,e.cell x v.e6,e.cell x v.e7⟩,Ic (yH (p1:=sM n c) (λf C y=>⟨C,by rw[e.block f (kV y l.size) C];exact l.block f y⟩) af)⟩);have R:HA r a k p n {s with work:=qI (s.work - o)} c a1 m U (d.setCell (D n 3) (Y (qI (s.work - o)))).drew:=(E.wk (E.kr.put (qI (s.work - o))) (qH.set n d _ 3)).drew;have V:bB n c d (d.setCell (D n 3) (Y (qI (s.work - o)))).drew:=(qH.drew (qH.set n d _ 3)).mono (λ_ n=>jD n);have W:∀f,p f->sM n c f:=λf e j=>j.elim (H.S f e).2.1 (H.S f e).2.2;have aq:∀b,bB n c d b->qA p b t M:=λb C=>xP (λf e y=>⟨e,by rw[C.block f (kV y l.size) (W f e)];exact l.block f y⟩) hc;have ar:∀b,bB n c d b->IP p b i.G A:=λb C=>yH (λf e y=>⟨e,by rw[C.block f (kV y l.size) (W f e)];exact l.block f y⟩) hp;have y:Hid (P=if z=0 then oK r {s with work:=qI (s.work - o)} (eC h i) t else {s with work:=qI (s.work - o)}):=X Q;simp only[qI,Ba] at R V y;have e:=X J;have Z:=X l;have au:=X R;have av:=X V;have aa:=X (jM aq ar);have a2:=X ab;have K:=X (jM (jM al am) (jM an ao));have C:=X (jM (jM ai aj) ak);clear H E J l R V aq ar ab al am an ao ai aj ak ch cw cn af hc hp Q v W ad ae;go_enter Tryz.func112,Tryz.ntmps112
 go_upto_region 1 with fail
 rw[<-e.out]
 go_region
 generalize wrap64 (s.work - o)=H at*;generalize (d.setCell (D n 3) (Y H)).drew=W3 at*;clear ap a0 h3 z3 e;by_cases f:z=0
 .have J:Hid (P=oK r {s with work:=H} (eC h i) t):=X (by rw[y.out,jB f])
  have Q:=X (jM (C.out.1.1 f) (jM (C.out.1.2 f) C.out.2));subst f;clear y C;have m0:=λ(b:N)(e:bB n c d b)=>(g.out b e).1;have m1:=λ(b:N)(e:bB n c d b)=>(g.out b e).2.1;have b0:=λ(b:N)(e:bB n c d b)=>(g.out b e).2.2.1.e0;have b1:=λ(b:N)(e:bB n c d b)=>(g.out b e).2.2.1.e1;have b2:=λ(b:N)(e:bB n c d b)=>(g.out b e).2.2.1.e2;have b3:=λ(b:N)(e:bB n c d b)=>(g.out b e).2.2.1.e3;have b4:=λ(b:N)(e:bB n c d b)=>(g.out b e).2.2.1.e4;have b5:=λ(b:N)(e:bB n c d b)=>(g.out b e).2.2.1.e5;have b6:=λ(b:N)(e:bB n c d b)=>(g.out b e).2.2.1.e6;have b7:=λ(b:N)(e:bB n c d b)=>(g.out b e).2.2.1.e7;have V:bB n c d W3.drew:=av.out.trans (jR.A (jW _ _).drew)
  go_upto_region 3 with fail
  refine wp_region_held_drew (S:=λb=>bB n c d b) (by kernel_rfl) V (λe=>?_);refine pl [0,1,2,4] rfl ‹_› ?_
  repeat ((first|(refine tk ?_ rfl (by kernel_rfl) ?_ ?_;rotate_left;focus (intro w ae;(try dsimp only at ae);go_simp;try with_reducible rfl))|refine tn rfl (by kernel_rfl) ?_);try simp only[nD])
  refine rp 3 (by kernel_rfl) rfl (λR v=>?_);go_simp;refine(WP L A B (g.out _ e).2.2.2 K.out.1.1 K.out.1.2 K.out.2.1 K.out.2.2).mono ?_;rintro j w5 ⟨rfl,l⟩;have af:=X l;have E:=X (e.trans (jR.A l));clear l
  go_wp2_with fail
  refine v.out _ _ ?_ (λe=>?_)
  .exact E.out
  clear v R
  try simp only[nD]
  refine rd 5 (by kernel_rfl) rfl (λR v=>?_);go_simp;refine(MP (au.out.drew.below af.out) aw a2.out (d:=eC h i) B Q.out.1 Q.out.2.1 Q.out.2.2 (aa.out.1 _ E.out) (aa.out.2 _ E.out)).mono ?_;rintro j w6 ⟨rfl,W,ab⟩;have ad:=X W;have l:=X (E.out.trans ab);have ai:Hid (w.heap.size<=w5.heap.size):=X (kN Z.out.size E.out.below.size);clear W ab
  go_wp2_with fail
  refine v.out _ _ ?_ (λe=>?_)
  .exact l.out
  clear v R
  try simp only[nD]
  refine wpAnyH_done (by kernel_rfl) ?_ _;clear m0 m1 b0 b1 b2 b3 b4 b5 b6 b7 e V;obtain⟨W,ab,aj,ak,e,R⟩:=ad.out;have v:=X (R.imp id (λ⟨u,h1,h2⟩=>(⟨u,h1,kN ai.out h2⟩:∃u,W.ownBlock=some u/\w.heap.size<=u)));clear R ad;have b9:=g.out _ l.out|>.1
  have R:=X (Ld e);have V:=X e;clear e
  go_wp2_with fail
  refine R.out.mono ?_;rintro j w9 ⟨rfl,rfl⟩
  go_wp2_with fail
  go_ret;rw[J.out];exact⟨rfl,⟨_,_,_,_,V.out,v.out.imp (λn=>by first|exact n|rfl) id⟩,(jR.A Z.out).trans l.out⟩
 have J:Hid (P={s with work:=H}):=X (by rw[y.out,jC f]);have ad:(z==0)=false:=beq_eq_false_iff_ne.2 f;have e:=au.out;have l:=av;have v:Hid (c.ownBlock=c.ownBlock\/∃u,c.ownBlock=some u/\w.heap.size<=u):=X (jD rfl);clear y f C aa;have b9:=g.out _ l.out|>.1
 have R:=X (Ld e);have V:=X e;clear e
 go_wp2_with fail
 refine R.out.mono ?_;rintro j w9 ⟨rfl,rfl⟩
 go_wp2_with fail
 go_ret;rw[J.out];exact⟨rfl,⟨_,_,_,_,V.out,v.out.imp (λn=>by first|exact n|rfl) id⟩,(jR.A Z.out).trans l.out⟩
def Fx:nT (qM r t s).1/\∀x,x∈(qM r t s).1->(1<=x.1/\x.1<=1000)/\x.2.E<=120/\jQ r x.2:=by
 by_cases b:kI r [t,s]=0
 .obtain⟨m,d,g,k⟩:=oT b
  cases c:kG t s [] with
  |none=>rw[qM,jB b,c];exact⟨λi j x y h=>by simp at h,λx a=>by cases a⟩
  |some e=>
   rw[qM,jB b,c];have l:=Ws d ⟨g,k⟩ c;have f:=(Oy t.E).1 t s [] e (jF _) d c ⟨λi j x y h=>by simp at h,λx a=>by cases a⟩;show nT (yR e)/\_;exact⟨AG (CV f.1),λx a=>⟨f.2 x (Qr a),l.1 x (Qr a)⟩⟩
 rw[qM,jC b];exact⟨λi j x y h=>by simp at h,λx a=>by cases a⟩
def Pv:pR (kC (qM r t s).1):=λv u h=>by
 have:=Fx.2 (v,u) (tX h);simp only at this;omega
def EU(a:Nat)(d:Bool)(g:kE)(e:Ending)(c:N):Prop:=∃b n f,e=.returned (.tuple #[.map (some b),.bool d])/\a<=b/\kU c b n f/\tO (λk=>a<=k/\k<b) c g f/\n<=1000
def Yg(C:Nat)(E:Nat)(F:Nat)(G:jV w r a)(H:InL w t.e a1)(I:InL w s.e a2):
 Calls Zf 202 #[.agg #[.slice a r.length C],.agg (Zj t a1 E),.agg (Zj s a2 F)] w λe J=>EU w.heap.size (qM r t s).2.1 (kC (qM r t s).1) e J/\Zb w J:=by
 have c:=X (λo1 o2 i=>GC C E F (qD i (qD o2 (qD o1 G))) (jS i (jS o2 (jS o1 H))) (jS i (jS o2 (jS o1 I))));have l:=X (Fx (r:=r) (t:=t) (s:=s));have m:=X (VS (r:=r) (t:=t) (s:=s));obtain⟨M,n⟩:=Ze (qM r t s);rw[<-n] at c l m;rw[<-n];have U:=@run_makeMap Zf;clear n G H I
 go_in
 go_wp2_with fail
 refine(c _ _ _).mono ?_;rintro e b ⟨⟨V,bc,rfl,K⟩,L⟩;have o:=X ((bJ w _ _ _).trans (L.mono (by simp;omega)));have O:Hid (xV (λk=>w.heap.size<=k/\k<b.heap.size) b M.1 V):=tN (λk p=>⟨by have:=p.1;simp at this;omega,p.2⟩) (Ro K);have W:=m.out;clear K L c m
 go_wp2_with fail
 go_loopw [25] (λq wr=>∃(k:Nat)(f:Int->Option Zv),k<=M.1.length/\q=Y k/\Hid (kU wr b.heap.size k f)/\Hid (tO (λk=>w.heap.size<=k/\k<b.heap.size) wr (kC (M.1.take k)) f)/\Hid (Zb b wr)) (λq _=>M.1.length - (intOf q).toNat)
 case atStart=>exact⟨0,λ_=>none,jY _,rfl,X (kU.made b),X (λv=>⟨λ_=>rfl,λP u=>by cases u⟩),X (jG _ _)⟩
 case round=>
  obtain⟨k,f,p,rfl,c,y,g⟩:=hrel;have ah:=c.lt;clear U;by_cases Z:k<M.1.length
  .obtain⟨ai,aj,rfl⟩:=Gv O (by omega)
   obtain⟨x,h⟩:=Zg Z;obtain⟨z,A,ak,c0,c1,c2,c3,Q⟩:=Gu (gW g O) h;have al:=(l.2 x (jU h)).1;have am:(k:Int)<M.1.length:=(by omega);have an:(0:Int)<=k:=(by omega);have Hx:=X h;have aa:=X Q;have ao:=kA c0;have hz:=g.size;clear h Q
   go_wp2_with (at_mapUpdate;refine iR _ rfl _ _ _ 213 rfl 43 Tryz.jj b.heap.size k f rfl (c.below (jG _ _)) (by unfold maxLen;omega) x.1 (.agg (Zj x.2 z A)) (by first|rfl|simp[go_sem]) (by first|rfl|simp[go_sem]) (by omega) (by omega) ?_;intro B ab R)
   have S:∀j,(w.heap.size<=j/\j<b.heap.size)->j<wr.heap.size->B.heap[j]? =wr.heap[j]?:=λj d ac=>by
    rw[R.block j (by rw[qE];omega) (λe=>by cases e;omega),zL _ _ _ ac]
   have ad:Zb b B:=(g.alloc (by omega) _).grown R (by rw[qE];omega) (λj d=>by cases d;exact jF _);have ae:tO (λk=>w.heap.size<=k/\k<b.heap.size) B (kC (M.1.take (k+1))) (λj=>if j=x.1 then some (.agg (Zj x.2 z A)) else f j):=λv=>by
    rw[Xx l.out.1 Hx.out];by_cases e:v=x.1
    .simp only[jB e]
     refine⟨λaf=>(by cases af),λP u=>?_⟩;obtain rfl:x.2=P:=by simpa using u
     exact⟨z,A,rfl,xN S aa⟩
    simp only[jC e];exact(y.mono (λj d hl=>⟨d,S j d hl⟩)) v
   go_roundw
   case rel=>exact⟨k+1,_,by omega,by go_num,X ab,X ae,X ad⟩
   case measure=>simp[intOf];omega
  have ag:k=M.1.length:=by omega
  subst ag;rw[qU] at y
  go_wp2_with fail
  go_ret2
  exact⟨⟨b.heap.size,M.1.length,f,rfl,o.size,c,y,W⟩,o.trans (g.mono o.size)⟩
def Fi(g o:kE):kE:=λv=>match o v with
 |some u=>some u
 |none=>g v
def NA{s o:kE}(Q:k≠m)(c:∀a,p a->a<w.heap.size)(ak:n+i<=100000)(j:∀a,p a->a≠k)(R:p m)(S:∃f,kU w k n f/\tO p w s f)(U:zK p w m i o):
 Calls Zf 203 #[.map (some k),.map (some m)] w λe u=>e=.returned (.tuple #[])/\(∃f,kU u k (n+i) f/\tO p u (Fi s o) f)/\w.grownBy u (some k):=by
 obtain⟨f,d,l⟩:=S;obtain⟨_,b,⟨h,g,q⟩,r⟩:=U;have al:=g.size_le;have V:=d.lt;have y:=X q;have W:=X l;have z:=X r;have Z:=X d;have am:=X c;have aa:=X j;have an:=c m R;clear q l r d c j
 go_in
 go_wp2_with (first|(at_range;refine wpList_range_own _ rfl _ 213 rfl 3 43 Tryz.jq Tryz.jj _ m i h rfl g ?_;intro w0 q d C)|go_in)
 go_frame
 have t:Hid (w.grownBy w0 (some k)):=⟨d.os,d.tape,d.output,d.size,λa c _=>d.block a c (by simp)⟩;have v:Hid (∀a:Int,Maps.has h (.int .i64 a)=true->(b a).isSome=true):=λa c=>by rw[<-(y.out a).1];exact c
 have x:=X (Z.same (d.block k V (by simp)));have B:Hid (∀a:Int,f a=if (b a).isSome && !Maps.has h (.int .i64 a) then b a else f a):=λa=>by rw[(y.out a).1];cases (b a).isSome<;>simp
 go_loopw [9] (λ_ wr=>∃(left:Go.Lit->Bool)(j l:Nat)(F:Int->Option Zv),Hid (wr.ranges Zf 3 Rv m w.heap.size i h left j)/\Hid (∀a:Int,left (.int .i64 a)=true->(b a).isSome=true)/\Hid (kU wr k l F)/\l+j<=n+i/\Hid (∀a:Int,F a=if (b a).isSome && !left (.int .i64 a) then b a else f a)/\Hid (w.grownBy wr (some k))) (λ_ wr=>wr.rangeLeft m w.heap.size)
 case atStart=>exact⟨_,_,n,f,X q,v,x,by omega,B,t⟩
 case round=>
  obtain⟨left,j,l,F,E,G,A,ao,H,r⟩:=hrel;have ap:=r.size;clear q d C g x B v t
  go_wp2_with (first|(at_next;refine Rl rfl _ rfl h left y G rfl E ?_ ?_)|go_in)
  .intro t
   have ab:Hid (∃f,kU wr k (n+i) f/\tO p wr (Fi s o) f):=by
    refine⟨F,A.mono (by omega),λv=>?_⟩;have c:∀j,p j->j<w.heap.size->wr.heap[j]? =w.heap[j]?:=λj d q=>r.block j q (λe=>by cases e;exact aa _ d rfl);have g:=H v;rw[t v] at g;have B:=(W.mono (λj d q=>⟨d,c j d q⟩)) v;have x:=(z.mono (λj d q=>⟨d,c j d q⟩)) v;rw[Fi]
    cases d:o v with
    |none=>
     have j:=x.1 d;rw[j] at g;simp only[rH,Ea] at g;rw[g];exact B
    |some j=>
     obtain⟨q,v,C,I⟩:=x.2 j d;rw[C] at g;simp at g;refine⟨λJ=>(by cases J),λJ J=>?_⟩;obtain rfl:=kT J;exact⟨q,v,g,I⟩
   clear t
   go_wp2_with fail
   go_end0
   exact⟨rfl,ab,r⟩
  intro x ac w1 I ad ae d J g j K aq;obtain⟨t,L⟩:∃t,o x=some t:=by
   cases q:o x with
   |none=>rw[(z.out x).1 q] at d;cases d
   |some t=>exact⟨t,rfl⟩
  obtain⟨q,v,M,af⟩:=(z x).2 t L;obtain rfl:ac=.agg #[.int .i64 t.v,.int .i64 t.f,Zk q t.e v]:=kT (d.symm.trans M);have O:k≠w.heap.size:=by omega
  have ag:=X (A.same (j.block k A.lt (λe=>O (by cases e;rfl))));have ar:=K;have ah:=r.andThen j (λai B=>by cases B;exact jD (jF _));have aj:=X (show ∀C:N,C.ranges Zf 3 Rv m w.heap.size i h (λP=>left P && !P.sameKey (.int .i64 x)) I->C.rangeLeft m w.heap.size<wr.rangeLeft m w.heap.size from λC C=>by rw[C.left_eq,E.out.left_eq];exact g);have C:=X J;have P:=X d;have au:=g;clear J g j d M af L K
  go_wp2_with (first|(at_mapUpdate;refine iR _ rfl _ _ _ 213 rfl 43 Tryz.jj k l F rfl (ag.below (jG _ _)) (by unfold maxLen;omega) x (.agg #[.int .i64 t.v,.int .i64 t.f,Zk q t.e v]) (by first|rfl|simp[go_sem]) (by first|rfl|simp[go_sem]) ad ae ?_;intro K j d;go_frame)|go_in)
  have g:=X ((C.alloc _).kept d (by simpa using Q.symm) (by simpa using O.symm));have J:=(ah.andThen (World.grownBy_alloc w1 _ none) (by simp)).andThen d (λai B=>by cases B;exact jE rfl);have B:Hid (∀a:Int,(if a=x then some (.agg #[.int .i64 t.v,.int .i64 t.f,Zk q t.e v]) else F a)=if (b a).isSome && !(left (.int .i64 a) && !(Go.Lit.int .i64 a).sameKey (.int .i64 x)) then b a else f a):=by
   intro a;rw[Dm];by_cases e:a=x
   .subst e
    rw[jB rfl,P.out];simp
   have:(a==x)=false:=by simpa using e
   rw[jC e,this,H.out a];simp
  have F:Hid (∀a:Int,(left (.int .i64 a) && !(Go.Lit.int .i64 a).sameKey (.int .i64 x))=true->(b a).isSome=true):=λa c=>G a (by rw[yY] at c;exact c.1)
  go_roundw
  case rel=>exact⟨_,I,l+1,_,g,F,X j,by omega,B,J⟩
  case measure=>exact aj _ g
def fI(a:Zn)(l:Lit)(b c:T):Prop:=(qM a l.2.1 b).2.1=true/\(qM a l.2.2 c).2.1=true/\mJ (kC (qM a l.2.1 b).1) (kC (qM a l.2.2 c).1)
def zP(a:Zn)(l:Lit)(b c:T):kE:=Fi (kC (qM a l.2.1 b).1) (kC (qM a l.2.2 c).1)
def VU(h:(qM r t s).2.1=true):(qM r t s).2.2=0:=by
 rw[qM] at h ⊢;split at h
 .rename_i a
  rw[jB a];split at h
  .rfl
  cases h
 cases h
def Yi(h:(qM r t s).2.1=true):Cov t s:=by
 have a:=VT (VU h) h;obtain⟨_,⟨_,b⟩,c,_⟩:=Nw (show(vV r (qM r t s).1 t).2=0 by rw[a]);rw[a] at c;have d:s=qF (qM r t s).1 t:=c;rw[d,Jq _ t (jF _) b];exact NJ _ t (jF _) b
def ER(a:Nat)(P:Prop)(g:kE)(e:Ending)(c:N):Prop:=
 (P/\∃b n,e=.returned (.tuple #[.map (some b),.bool true])/\zK (λk=>a<=k) c b n g/\n<=2000)\/(¬P/\e=.returned (.tuple #[.map none,.bool false]))
def VO(m:Nat){l:Lit}(n:Nat)(o:Nat)(p:Nat)(u:Nat)(ab:xO l)(F:jV w r a)(i1:InL w l.2.1.e a1)(i2:InL w l.2.2.e a2)(G:InL w t.e a3)(H:InL w s.e a4):
 Calls Zf 192 #[.agg #[.slice a r.length m],lM l a1 n a2 o,.agg (Zj t a3 p),.agg (Zj s a4 u)] w λf b=>ER w.heap.size (fI r l t s) (zP r l t s) f b/\Zb w b:=by
 obtain⟨e,g⟩:=Ze ((((w.alloc (.cells #[Zk a r m] 24)).alloc (.cells #[.bool l.1,Y l.2.1.v,Y l.2.1.f,Zk a1 l.2.1.e n,Y l.2.2.v,Y l.2.2.f,Zk a2 l.2.2.e o] 47)).alloc (.cells (Zj t a3 p) 43)).alloc (.cells (Zj s a4 u) 43));have k:Zb w e:=by rw[g];exact(bJ _ _ _ _).alloc (by simp;omega) _
 have I:e.cell? (D w.heap.size 0)=some (Zk a r m):=by rw[g,kW (by simp;omega),kW (by simp;omega),kW (by simp)];exact jJ 0 rfl
 have L:L7 e (w.heap.size+1) 0 l a1 n a2 o:=by rw[g];exact((L7.new _ (by simp)).below (jG _ _)).below (jG _ _)
 have S:jK e (w.heap.size+1+1) (Y t.v) (Y t.f) (Zk a3 t.e p):=by rw[g];exact(jK.new _ (by simp)).alloc _
 have U:jK e (w.heap.size+1+1+1) (Y s.v) (Y s.f) (Zk a4 s.e u):=by rw[g];exact jK.new _ (by simp)
 have ag:=X g;have aj:=X k;have d:=X (λ(b:N)(c:Zb e b)=>k.trans (c.mono k.size));have K:=X (λ(b:N)(c:Zb e b)=>(show Zq b w.heap.size 0 (Zk a r m)/\L7 b (w.heap.size+1) 0 l a1 n a2 o/\jK b (w.heap.size+1+1) (Y t.v) (Y t.f) (Zk a3 t.e p)/\jK b (w.heap.size+1+1+1) (Y s.v) (Y s.f) (Zk a4 s.e u) from⟨jP c I,L.below c,S.below c,U.below c⟩));have V:=X (Fl _ l.2.1 t a1 n a3 p e (jF _) ab.1 (jI k i1) (jI k G));have W:=X (λ(b:N)(c:Zb e b)=>Fl _ l.2.2 s a2 o a4 u b (jF _) ab.2 (jI (d _ c) i2) (jI (d _ c) H));have J:=X (λ(b:N)(c:Zb e b)=>Yg m n p (kD (d _ c) F) (jI (d _ c) i1) (jI (d _ c) G));have M:=X (λ(b:N)(c:Zb e b)=>Yg m o u (kD (d _ c) F) (jI (d _ c) i2) (jI (d _ c) H));have O:=X (λh=>Yi (r:=r) (t:=l.2.1) (s:=t) h);have Q:=X (λh=>Yi (r:=r) (t:=l.2.2) (s:=s) h);have ac:=X (Pv (r:=r) (t:=l.2.1) (s:=t));obtain⟨P,v⟩:=Ze (fI r l t s);obtain⟨ah,x⟩:=Ze (zP r l t s);rw[<-v,<-x];rw[fI] at v;rw[zP] at x;obtain⟨M1,A⟩:=Ze (qM r l.2.1 t);obtain⟨R,y⟩:=Ze (qM r l.2.2 s);rw[<-A] at J O ac v x;rw[<-y] at M Q v x;have z:=X v;have HG:=X x;obtain⟨-,⟨-,B,C,E, -, -, -⟩,⟨c,i,j,_,_,_⟩, -⟩:=K e (jW _ _);simp only[kK] at B C E;clear v x A y F i1 i2 G H I L S U g k
 go_in
 go_upto_region 1 with fail
 rw[<-ag.out]
 go_wp2_with fail
 refine V.mono ?_;rintro f w1 ⟨⟨r1,rfl,g⟩,k⟩;have F:=X k;have v:=X g;clear k g V B C E c i j
 cases r1 with
 |false=>
  have g:Hid (¬P):=λh=>by rw[z.out] at h;exact jN (v.2 (O h.1)) (by simp)
  have k:=X (d _ F)
  go_wp2_with fail
  go_ret2
  exact⟨jE ⟨g,rfl⟩,k⟩
 |true=>
  have k:=X (W w1 F);obtain⟨-,⟨-, -, -, -,G,H,I⟩, -,⟨c,i,j,_,_,_⟩⟩:=K w1 F;simp only[kK] at G H I;clear W
  go_wp2_with fail
  refine k.mono ?_;rintro f L ⟨⟨r2,rfl,x⟩,S⟩;have g:=X (F.trans (S.mono F.size));have U:=X x;clear S x k G H I c i j
  cases r2 with
  |false=>
   have k:Hid (¬P):=λh=>by rw[z.out] at h;exact jN (U.2 (Q h.2.1)) (by simp)
   have x:=X (d _ g)
   go_wp2_with fail
   go_ret2
   exact⟨jE ⟨k,rfl⟩,x⟩
  |true=>
   have k:=X (J L g);obtain⟨S,⟨-,B,C,E, -, -, -⟩,⟨c,i,j,_,_,_⟩, -⟩:=K L g;simp only[kK] at B C E;clear J O Q v U
   go_wp2_with fail
   refine k.mono ?_;rintro f w3 ⟨⟨v,O,f1,rfl,ak,A,x,al⟩,U⟩;have J:=X (g.trans (U.mono g.size));have Q:=X A;have ad:=X x;clear U A x k B C E c i j S
   cases k:M1.2.1 with
   |false=>
    have x:Hid (¬P):=λh=>by rw[z.out] at h;rw[k] at h;exact jN h.1 (by simp)
    have A:=X (d _ J);clear k
    go_wp2_with fail
    go_ret2
    exact⟨jE ⟨x,rfl⟩,A⟩
   |true=>
    have ae:=X (M w3 J);obtain⟨S,⟨-, -, -, -,G,H,I⟩, -,⟨c,i,j,_,_,_⟩⟩:=K w3 J;simp only[kK] at G H I;have ai:=X k;clear M k
    go_wp2_with fail
    refine ae.mono ?_;rintro f M ⟨⟨m2,E,f2,rfl,am,y,af,an⟩,A⟩;have U:=X (J.trans (A.mono J.size));have V:=X (Q.below A);have W:=X (ad.mono (q:=λk=>L.heap.size<=k/\k<v) (w':=M) (λx B C=>⟨B,A.block x C⟩));have ao:=Q.lt;have Z:=X y;have aa:=X af;have ap:=y.lt;have aq:=A.size;have ar:w.heap.size<=L.heap.size:=(d _ g).size;clear A y af ae G H I c i j S Q ad
    cases c:R.2.1 with
    |false=>
     have i:Hid (¬P):=λh=>by rw[z.out] at h;rw[c] at h;exact jN h.2.1 (by simp)
     have j:=X (d _ U);clear c
     go_wp2_with fail
     go_ret2
     exact⟨jE ⟨i,rfl⟩,j⟩
    |true=>
     have S:=X c;clear c;have j:Hid (zK (λ_=>True) M v O (kC M1.1)):=⟨trivial,f1,V,W.mono (λ_ _ _=>⟨trivial,rfl⟩)⟩;have y:Hid (zK (λ_=>True) M m2 E (kC R.1)):=⟨trivial,f2,Z,aa.mono (λ_ _ _=>⟨trivial,rfl⟩)⟩;have A:=X (No ac j y)
     go_wp2_with fail
     refine A.mono ?_;rintro f i ⟨⟨ad,rfl,G⟩,c⟩;have H:=X (U.trans (c.mono U.size));have I:=X G;have au:=c.size;have ae:=X (V.below c);have af:=X (W.mono (q:=λk=>w.heap.size<=k/\k≠v/\k<i.heap.size) (w':=i) (λx B C=>⟨⟨by omega,by omega,by omega⟩,c.block x C⟩));have Q:Hid (zK (λk=>w.heap.size<=k/\k≠v/\k<i.heap.size) i m2 E (kC R.1)):=⟨⟨by omega,by omega,by omega⟩,f2,Z.below c,aa.mono (λx B C=>⟨⟨by omega,by omega,by omega⟩,c.block x C⟩)⟩;clear c G A j y V W Z aa
     cases ad with
     |false=>
      have c:Hid (¬P):=λh=>by rw[z.out] at h;exact jN (I.2 h.2.2) (by simp)
      have h:=X (d _ H)
      go_wp2_with fail
      go_ret2
      exact⟨jE ⟨c,rfl⟩,h⟩
     |true=>
      have V:Hid P:=(by show P;rw[z.out];exact⟨ai,S,I.1 rfl⟩);have h:=X (NA (by omega) (λk c=>c.2.2) (by omega) (λk c=>c.2.1) ⟨by omega,by omega,by omega⟩ ⟨f1,ae,af⟩ Q);have j:=X (d _ H);clear Q
      go_wp2_with fail
      refine h.mono ?_;rintro f y ⟨rfl,⟨Q,A,C⟩,G⟩;have W:Hid (Zb w y):=j.grown G j.size (λk c=>by cases c;omega);have c:Hid (zK (λk=>w.heap.size<=k) y v (O+E) ah):=(by rw[HG.out];exact⟨by omega,Q,A,C.mono (λx B _=>⟨B.1,rfl⟩)⟩);clear A C G h
      go_wp2_with fail
      go_ret2
      exact⟨jD ⟨V,v,O+E,rfl,c,by omega⟩,W⟩
structure rF (S E:TypeId) (z:Zv) (bytes:Nat):Prop where
 under:Zf.underlying S=some (.slice E)
 info:(Zf.info? E).map (λi=>(i.zero,i.size,i.bytes))=some (some z,1,bytes)
 cells:z.cells.size=1
 small:bytes<=1000
def Ra:rF 212 213 (.map none) 8:=⟨by kernel_rfl,by kernel_rfl,rfl,by decide⟩
def Ar:rF 182 212 (Zd) 24:=⟨by kernel_rfl,by kernel_rfl,rfl,by decide⟩
def jAh{z:Zv}(d:rF g g1 z k){v u x:Zv}(f:TypeId)(l:w.ownsRow n g1 1 v m U)(o:x=Zx i 1 j)(p:w.cell? (D i 0)=some u)(q:u.oneCell'=true)(L:m<=100000)(r:n<=w.heap.size):
 ∃b c,(Builtin.append_ #[g,g] f #[v,x]).run Zf w=.ok b c/\c.ownsRow n g1 1 b (m+1) (U++[u])/\w.grownBy c v.ownBlock/\(b.ownBlock=v.ownBlock\/b.ownBlock=some w.heap.size):=by
 subst o;obtain⟨s,t,h⟩:=bQ.1 d.info;simp only[bG] at h;obtain⟨y,A,B⟩:=h;have C:=d.small;have E:(m+1)*k<=140737488355328:=kN (My (show m+1<=100001 by omega) C) (by decide)
 obtain⟨b,c,F,G,H,_,I⟩:=run_append_own_at w n g f g1 s z 1 k d.under t y A B d.cells (by decide) v m U l (D i 0) 1 j [u] rfl (λe J a=>by
  have K:((D i 0):Addr).add e=(D i e):=by simp[Addr.add];omega
  rw[K]
  match e,a with
  |0,a=>simp at a;subst a;exact p
  |e+1,a=>simp at a) (λJ a=>by simp at a;subst a;exact q) (by unfold maxLen;omega) E r
 exact⟨b,c,F,G,H,I⟩
def jE8{z:Zv}(e:rF g g1 z k){o:Oper}{c:Act}{K:Act->N->Prop}{Q:Exit->Act->N->Prop}(s x:Operand)(f:o.op=.call {callee:=.builtin .append,args:=#[s,x],argTypes:=#[g,g]}){v u:Zv}(h:c.eval s=v)(l:w.ownsRow n g1 1 v m U){d:Zv}(p:c.eval x=d)(q:d=Zx i 1 j)(r:w.cell? (D i 0)=some u)(t:u.oneCell'=true)(y:m<=100000)(A:n<=w.heap.size)
 (B:∀a b,b.ownsRow n g1 1 a (m+1) (U++[u])->w.grownBy b v.ownBlock->(a.ownBlock=v.ownBlock\/a.ownBlock=some w.heap.size)->K (c.put o.dst a) b):o.wp Zf c w K Q:=by
 obtain⟨a,b,C,E,F,G⟩:=jAh e o.type l q r t y A;unfold Oper.wp execOp;simp only[f,resolve,invoke,builtin,Sem.run_bind,Sem.run_pure,oH,List.map_toArray,yI,List.map_nil,h,p,C];exact B a b E F G
def Lu{z:Zv}(h:rF g g1 z k){d:Array Oper}{e:List Oper}{o:Oper}{c:Act}{Q:Exit->Act->N->Prop}(l:o.guard=none)(s x:Operand)(p:o.op=.call {callee:=.builtin .append,args:=#[s,x],argTypes:=#[g,g]}){v u:Zv}(q:c.eval s=v)(r:w.ownsRow n g1 1 v m U){f:Zv}(t:c.eval x=f)(y:f=Zx i 1 j)(A:w.cell? (D i 0)=some u)(B:u.oneCell'=true)(C:m<=100000)(E:n<=w.heap.size)
 (F:∀a b,b.ownsRow n g1 1 a (m+1) (U++[u])->w.grownBy b v.ownBlock->(a.ownBlock=v.ownBlock\/a.ownBlock=some w.heap.size)->wpList Zf d Q e (c.put o.dst a) b):wpList Zf d Q (o::e) c w:=
 wpList_plain l λ_ G=>jE8 h s x p q r t y A B C E λa b H I J=>G _ _ (F a b H I J)
section
variable {α:Type}
def gX(E:α->Zv->Prop):List α->Zu->Prop
 |[],a=>a=[]
 |x::l,a=>∃v b,a=v::b/\E x v/\gX E l b
def Mj{E:α->Zv->Prop}{l m:List α}:∀{a b:Zu},gX E l a->gX E m b->gX E (l++m) (a++b):=by
 induction l with
 |nil=>intro a b c d;rw[show a=[] from c];exact d
 |cons x l e=>
  intro a b c d;obtain⟨v,f,rfl,g,h⟩:=c;exact⟨v,f++b,rfl,g,e h d⟩
def nN{E F:α->Zv->Prop}(b:∀x v,E x v->F x v){l:List α}:∀{a:Zu},gX E l a->gX F l a:=by
 induction l with
 |nil=>intro a h;exact h
 |cons x l c=>
  intro a h;obtain⟨v,d,rfl,e,h⟩:=h;exact⟨v,d,rfl,b x v e,c h⟩
def Ml{E:α->Zv->Prop}{l:List α}:∀{a:Zu},gX E l a->a.length=l.length:=by
 induction l with
 |nil=>intro a h;rw[show a=[] from h];rfl
 |cons x l b=>
  intro a h;obtain⟨v,c,rfl,d,h⟩:=h;rw[xI,xI,b h]
def FM{E:α->Zv->Prop}{l:List α}:∀{a:Zu}{k:Nat}{x:α},gX E l a->l[k]? =some x->∃v,a[k]? =some v/\E x v:=by
 induction l with
 |nil=>intro a k x _ h;simp at h
 |cons y l c=>
  intro a k x h b;obtain⟨v,e,rfl,d,h⟩:=h
  cases k with
  |zero=>
   rw[vP] at b;obtain rfl:=kT b;exact⟨v,rfl,d⟩
  |succ k=>
   rw[xS] at b ⊢;exact c h b
def Ry{E:α->Zv->Prop}{l:List α}:∀{a:Zu}(k:Nat),gX E l a->gX E (l.take k) (a.take k)/\gX E (l.drop k) (a.drop k):=by
 induction l with
 |nil=>intro a k h;rw[show a=[] from h];simp[gX]
 |cons y l b=>
  intro a k h;obtain⟨v,c,rfl,d,h⟩:=h
  cases k with
  |zero=>exact⟨rfl,v,c,rfl,d,h⟩
  |succ k=>exact⟨⟨v,c.take k,rfl,d,(b k h).1⟩,(b k h).2⟩
def zO(p:Zp)(E:α->Zv->Prop)(w:N)(l:List α)(d:Zo):Prop:=l=[]\/∃b a c,d=some (D b a)/\p b/\gX E l c/\∀j u,c[j]? =some u->w.cell? (D b (a+j))=some u
def rM{E:α->Zv->Prop}{l:List α}(h:zO p E w l a)(d:0<l.length):∃b c,a=some (D b c):=by
 rcases h with h|⟨b,c,_,h,_⟩
 .rw[h] at d;simp at d
 exact⟨b,c,h⟩
def cQ{E:α->Zv->Prop}{l:List α}{x:α}(h:zO p E w l (some (D k n)))(a:l[m]? =some x):∃v,w.cell? (D k (n+m))=some v/\E x v:=by
 rcases h with h|⟨j,o,q,b,_,c,d⟩
 .rw[h] at a;simp at a
 injection b with b
 injection b with e f r
 subst e f;obtain⟨v,g,i⟩:=FM c a;exact⟨v,d m v g,i⟩
def eV{E F:α->Zv->Prop}{l:List α}(h:zO p E w l a)(c:∀k,p k->k<w.heap.size->p1 k/\u.heap[k]? =w.heap[k]?)(n:∀x v,E x v->F x v):zO p1 F u l a:=by
 rcases h with h|⟨b,d,z,o,e,q,f⟩
 .exact jD h
 by_cases g:l=[]
 .exact jD g
 cases l with
 |nil=>exact jN rfl g
 |cons x l=>
  obtain⟨v,i,rfl,r,s⟩:=q;have j:=kA (f 0 v rfl);refine jE ⟨b,d,_,o,(c b e j).1,nN n (show gX E (x::l) (v::i) from⟨v,i,rfl,r,s⟩),λm t y=>?_⟩;rw[kH (w:=w) (a:=(D b (d+m))) (c b e j).2];exact f m t y
def aN(E:Zp->N->α->Zv->Prop)(d:TypeId)(b:Nat)(w:N)(l:Zv)(c:List α):Prop:=
 ∃a,w.ownsRow b d 1 l c.length a/\gX (E (λk=>b<=k/\l.ownBlock≠some k) w) c a/\a.Nodup
def GK{E:Zp->N->α->Zv->Prop}:aN E g k w (Zd) []:=⟨[],⟨rfl,jD ⟨rfl,rfl⟩⟩,rfl,eT⟩
def eX(E:Zp->N->α->Zv->Prop):Prop:=∀(p q:Zp)(w a:N)(x:α)(v:Zv),(∀k,p k->k<w.heap.size->q k/\a.heap[k]? =w.heap[k]?)->E p w x v->E q a x v
def Na{E:Zp->N->α->Zv->Prop}(h:eX E){l:Zv}{d:List α}(i:aN E g k w l d)(e:∀a,k<=a->a<w.heap.size->u.heap[a]? =w.heap[a]?):aN E g k u l d:=by
 obtain⟨j,b,m,n⟩:=i;exact⟨j,vT b (λc f=>e c (kO b c f).1 (kO b c f).2),nN (λx v=>h _ _ _ _ x v (λa c f=>⟨c,e a c.1 f⟩)) m,n⟩
def Ss{E:Zp->N->α->Zv->Prop}{l:Zv}{a:List α}(h:aN E g k w l a):∃b c,l=.slice b a.length c:=by
 obtain⟨e,d,_⟩:=h;exact zF d
def GM{E:Zp->N->α->Zv->Prop}(d:eX E){c:List α}(h:aN E g k w (.slice a n m) c):zO (λb=>k<=b) (E (λb=>k<=b) w) w c a:=by
 obtain⟨e,f,i, -⟩:=h;by_cases j:0<c.length
 .obtain⟨l,y,o,p,z,q⟩:=fX f j
  injection o with r A B
  rw[r];exact jE ⟨l,0,e,rfl,p,nN (λx v=>d _ _ _ _ x v (λb s _=>⟨s.1,rfl⟩)) i,λs u t=>by rw[kK];exact q s u t⟩
 exact jD (yM.1 (by omega))
def Gq(w:N)(n:Nat)(c:Zo):Prop:=∀(b a i j:Nat)(u:Zv),c=some (D b a)->i<j->j<n->w.cell? (D b (a+i))=some u->w.cell? (D b (a+j))≠some u
def GI{E:Zp->N->α->Zv->Prop}{c:List α}(p:aN E g k w (.slice a n m) c):Gq w c.length a:=by
 obtain⟨d,q,r,s⟩:=p;intro y z i j A t u B e f;obtain⟨C,F,v,G,H,h⟩:=fX q (by omega);injection v with b I J
 rw[t] at b;simp only[qW,fG,and_true] at b;obtain⟨rfl,rfl⟩:=b;have K:=Ml r;rw[kK] at e f;have l:=h i _ (jO (show i<d.length by omega));have o:=h j _ (jO (show j<d.length by omega));rw[e] at l;rw[f] at o;have x:=(kT l).symm.trans (kT o);exact jN x (Er.1 s i j (by omega) (by omega) u)
def GJ{E:Zp->N->α->Zv->Prop}(j:eX E){l c d:Zv}{f:List α}{x:α}(m:U.Nodup)(n:d∉U)(o:gX (E (λa=>k<=a/\l.ownBlock≠some a) w) f U)(p:E (λa=>k<=a/\l.ownBlock≠some a) w x d)
 (q:u.ownsRow k g 1 c (f.length+1) (U++[d])) (r:w.grownBy u l.ownBlock) (b:c.ownBlock=l.ownBlock\/c.ownBlock=some w.heap.size):aN E g k u c (f++[x]):=by
 refine⟨_,by rw[qB];exact q,nN (λy v=>j _ _ _ _ y v (λa h e=>⟨⟨h.1,?_⟩,r.block a e (λe=>h.2 e.symm)⟩)) (Mj o ⟨d,[],rfl,p,rfl⟩),cK.2 ⟨m,Mw _ _,λi s i i e=>n (by rw[vY] at i;rw[<-i,<-e];exact s)⟩⟩;rcases b with b|b
 .rw[b];exact h.2
 rw[b];intro e;cases e;omega
end
def gB(p:Zp)(w:N)(g:kE)(v:Zv):Prop:=pR g/\∃b n,v=.map (some b)/\zK p w b n g/\n<=2000
def dL:eX gB:=λ_ _ _ _ _ _ a ⟨b,c,n,d,e,f⟩=>⟨b,c,n,d,e.mono a,f⟩
def IW{d:List kE}:∀{b:Zu},gX (gB p w) d b->∀u,u∈b->∃c,u=.map (some c)/\c<w.heap.size:=by
 induction d with
 |nil=>intro b h u a;rw[show b=[] from h] at a;cases a
 |cons g d e=>
  intro b h u a;obtain⟨v,i,rfl,⟨_,c,n,rfl,f,_⟩,h⟩:=h;rcases qO.1 a with rfl|a
  .exact⟨c,rfl,f.lt⟩
  exact e h u a
def fH(p:Zp)(w:N)(a:List kE)(v:Zv):Prop:=∃b c,v=.slice b a.length c/\a.length<=1000/\zO p (gB p w) w a b
def cM:eX fH:=λp q w b _ _ a ⟨c,d,e,f,g⟩=>⟨c,d,e,f,eV g a (λg u=>dL p q w b g u a)⟩
structure yC (base lb:Nat) (w w':N):Prop where
 os:w'.os=w.os
 tape:w'.tape=w.tape
 output:w'.output=w.output
 size:w.heap.size<=w'.heap.size
 block:∀k,k<base->k≠lb->w'.heap[k]? =w.heap[k]?
def yC.refl(a b:Nat)(w:N):yC a b w w:=⟨rfl,rfl,rfl,jF _,λ_ _ _=>rfl⟩
def yC.A(h:Below k w u):yC k n w u:=⟨h.os,h.tape,h.output,h.size,λa b _=>h.block a b⟩
def yC.trans(h:yC k n w u)(a:yC k n u v):yC k n w v:=⟨a.os.trans h.os,a.tape.trans h.tape,a.output.trans h.output,kN h.size a.size,λi b c=>(a.block i b c).trans (h.block i b c)⟩
def yC.grown{b:Option Nat}(h:yC k n w u)(a:u.grownBy v b)(g:k<=u.heap.size)(c:∀j,b=some j->k<=j):yC k n w v:=⟨a.os.trans h.os,a.tape.trans h.tape,a.output.trans h.output,kN h.size a.size,λi d e=>(a.block i (by omega) (λf=>by have:=c i f.symm;omega)).trans (h.block i d e)⟩
def yC.set(h:yC k n w u)(o:Nat)(v:Zv):yC k n w (u.setCell (D n o) v):=⟨h.os,h.tape,h.output,by simpa using h.size,λi b a=>(vL _ _ _ _ a).trans (h.block i b a)⟩
def LH{u v:Zv}(h:w.cell? (D k 0)=some u):(w.setCell (D k 0) v).cell? (D k 0)=some v:=by rw[eZ h];simp
def FH(a:Nat)(v:Zv)(w b:N):Prop:=∀k,k<w.heap.size->k≠a->v.ownBlock≠some k->b.heap[k]? =w.heap[k]?
def Bx(a:Zn)(l:Lit)(b c:T)(d:List kE):Prop:=(fI a l b c->d=[zP a l b c])/\(¬fI a l b c->d=[])
def VQ{l:Lit}:pR (zP r l t s):=λv u h=>by
 rw[zP,Fi] at h
 cases a:kC (qM r l.2.2 s).1 v with
 |some x=>rw[a] at h;obtain rfl:=kT h;exact Pv v _ a
 |none=>rw[a] at h;exact Pv v u h
def JA{l:Lit}(y:Nat)(z:Nat){J:Zv}(q:List kE)(ag:xO l)(aw:n1<n2)(ah:n2<=w.heap.size)(ax:q.length<=900)(h:jV w r a)(i1:InL w l.2.1.e a1)(i2:InL w l.2.2.e a2)(I:InL w t.e a3)(O:InL w s.e a4)
 (P:w.cell? (D i 0)=some (.slice a r.length k)) (Q:L7 w j 0 l a1 n a2 m) (C:w.cell? (D n1 0)=some J) (R:w.frozen? (D n1 0)=false) (c:aN gB 213 n2 w J q):
 Calls Zf 191 #[.agg (Zj t a3 y),.agg (Zj s a4 z),Zr i,Zr j,Zr n1] w λe o=>
  e=.returned (.tuple #[])/\(∃K u,Bx r l t s u/\o.cell? (D n1 0)=some K/\o.frozen? (D n1 0)=false/\aN gB 213 n2 o K (q++u))/\yC n2 n1 w o/\FH n1 J w o:=by
 obtain⟨E,F,rfl⟩:=Ss c;have S:=X (λo1 o2=>VO k n m y z ag (qD o2 (qD o1 h)) (jS o2 (jS o1 i1)) (jS o2 (jS o1 i2)) (jS o2 (jS o1 I)) (jS o2 (jS o1 O)));obtain⟨H,b⟩:=Ze ((w.alloc (.cells (Zj t a3 y) 43)).alloc (.cells (Zj s a4 z) 43));have d:Zb w H:=b▸kF _ _ _;have ai:jK H w.heap.size (Y t.v) (Y t.f) (Zk a3 t.e y):=by rw[b];exact(jK.new _ rfl).alloc _
 have aj:jK H (w.heap.size+1) (Y s.v) (Y s.f) (Zk a4 s.e z):=by rw[b];exact jK.new _ (by simp)
 have s0:=jP d P;obtain⟨t0,U,V,W,Z,t5,t6⟩:=Q.below d;simp only[kK] at U V W Z t5 t6;obtain⟨p0,p1,p2,_,_,_⟩:=ai;obtain⟨q0,q1,q2,_,_,_⟩:=aj;have v:=X (S (.cells (Zj t a3 y) 43) (.cells (Zj s a4 z) 43));rw[<-b] at v;have ak:=X b;have L:=X d;have Hv:=X C;have al:=X R;have Ho:=X c;have am:n1<w.heap.size:=by omega
 have M:Hid (∀g,(Value.slice E q.length F).ownBlock=some g->n2<=g/\g<w.heap.size):=λg h=>by obtain⟨_,A,_⟩:=c;exact kO A g h
 obtain⟨aa,B⟩:=Ze (fI r l t s);obtain⟨G,f⟩:=Ze (zP r l t s);have ab:Hid (∀u,Bx r l t s u↔((aa->u=[G])/\(¬aa->u=[]))):=λu=>by rw[Bx,B,f]
 have an:Hid (pR G):=by show pR G;rw[f];exact VQ
 rw[<-B,<-f] at v;clear B f S b d C R c h i1 i2 I O P Q
 go_in
 go_upto_region 1 with fail
 rw[<-ak.out]
 go_wp2_with fail
 refine v.mono ?_;rintro e d ⟨ao,B⟩;have f:=X (L.trans (B.mono L.size));have ay:=f.size;have O:=jP f Hv;have P:d.frozen? (D n1 0)=false:=by rw[f.out.frozen (p:=(D n1 0)) am];exact al
 have ap:=X (Na dL Ho (u:=d) (λb _ c=>f.block b c));have ac:=X (yC.A (n:=n1) (f.mono ah));have az:=L.size;clear B v s0 t0 U V W Z t5 t6 p0 p1 p2 q0 q1 q2;rcases ao with⟨Z,Q,nm,rfl,I,aq⟩|⟨ad,rfl⟩
 .have HW:=X I
  have R:=X ((ab [G]).2 ⟨λ_=>rfl,λS=>jN Z S⟩);have a0:=I.lt;have a5:=I.1;obtain⟨vs,A,U,h3⟩:=Ho;have V:=X (vT A (u:=d) (λg h=>f.block g (kO A g h).2));have H2:=X (nN (λW v=>dL _ (λb=>n2<=b/\(Value.slice E q.length F).ownBlock≠some b) _ d W v (λb c B=>⟨c,f.block b B⟩)) U);have H3:=X h3;have H4:Hid (Value.map (some Q)∉vs):=λhu=>by
   obtain⟨b',e,ae⟩:=IW U _ hu
   cases e
   omega
  have ae:=X (λaf=>vT V (u:=d.alloc af) (λg h=>(jG d af).block g (kO V g h).2));clear I A U h3 Z
  go_wp2_with (at_builtin
               go_must (refine Lu Ra rfl (.tmp 18) (.tmp 20) rfl rfl (ae _) rfl rfl (jJ 0 rfl) rfl (by omega) (by simp;omega) ?_)
               intro K g I A Z;obtain⟨a6,a7,rfl⟩:=zF I;have U:g.heap[n1]? =d.heap[n1]?:=(A.block n1 (by simp;omega) (λe=>by have:=(M n1 e.symm).1;omega)).trans (zL _ _ _ (by omega));have c3:g.cell? (D n1 0)=some (Zk E q F):=(by rw[kH (w:=d) (a:=(D n1 0)) U];exact O);have ar:g.frozen? (D n1 0)=false:=(by rw[gZ (w:=d) (a:=(D n1 0)) U];exact P);have af:=GJ dL (x:=G) H3 H4 (nN (λW v=>dL _ _ _ _ W v (λb c B=>⟨c,(jG d _).block b B⟩)) H2) (dL _ _ _ _ _ _ (λb c B=>⟨⟨by omega,λe=>by have:=(M b e).2;omega⟩,(jG d _).block b B⟩) (show gB (λb=>H.heap.size<=b) d G (.map (some Q)) from⟨an,Q,nm,rfl,HW,aq⟩)) I A Z;have B:=X af;have W:=X ((ac.trans (yC.A ((jG d _).mono (show n2<=d.heap.size by omega)))).grown A (by simp;omega) (λau hj=>(M au hj).1));have au:Hid (∀b,b<w.heap.size->(Value.slice E q.length F).ownBlock≠some b->g.heap[b]? =w.heap[b]?):=λb c hn=>((A.block b (by simp;omega) (λe=>hn e.symm)).trans (zL _ _ _ (by omega))).trans (f.block b c);have av:Hid (∀(b:Nat)(v:Zv),n2<=b->(g.setCell (D n1 0) v).heap[b]? =g.heap[b]?):=λb v c=>vL _ _ _ _ (show b≠n1 by omega)
               clear I A Z af U O P V H2 ae)
  go_end0
  exact⟨rfl,⟨_,[G],R,LH c3,by simpa using ar,Na dL B (λb c _=>av b _ c)⟩,W.set 0 _,λb c g C=>(vL _ _ _ _ g).trans (au b c C)⟩
 have R:=X ((ab []).2 ⟨λS=>jN S ad,λ_=>rfl⟩);clear ad
 go_wp2_with fail
 go_end0
 exact⟨rfl,⟨_,[],R,O,P,by rw[zU];exact ap⟩,ac,λb c _ _=>f.block b c⟩
def Td(a:Zn)(l k:Lit)(b:List kE):Prop:=(k.1=l.1->∃c d,b=c++d/\Bx a l k.2.1 k.2.2 c/\Bx a l k.2.2 k.2.1 d)/\(k.1≠l.1->b=[])
def rQ(b:Zn)(l:Lit):Zc->List kE->Prop
 |[],a=>a=[]
 |k::e,a=>∃c d,a=c++d/\Td b l k c/\rQ b l e d
def Th{l x:Lit}{b:List kE}(c:Td r l x b):∀{d:Zc}{a:List kE},rQ r l d a->rQ r l (d++[x]) (a++b):=by
 intro d;induction d with
 |nil=>intro a h;rw[show a=[] from h];exact⟨b,[],by simp,c,rfl⟩
 |cons k d e=>
  intro a h;obtain⟨f,g,rfl,i,j⟩:=h;exact⟨f,g++b,by simp,i,e j⟩
def So{l:Lit}{a:List kE}(h:Bx r l t s a):a.length<=1:=by
 by_cases b:fI r l t s
 .rw[h.1 b];simp
 rw[h.2 b];simp
theorem OU(a:Zy)(w:N):(callFunc 191 a).run Zf w=.ok (.enter 191 a) w:=by kernel_rfl
def L7.same{w':N}{x:Lit}(h:L7 w k n x a m a1 i)(d:w'.heap[k]? =w.heap[k]?):L7 w' k n x a m a1 i:=by
 have b:∀{c:Nat}{v:Zv},w.cell? ⟨k,c,none⟩=some v->w'.cell? ⟨k,c,none⟩=some v:=λ {c v}e=>by rw[kH (w:=w) (a:=⟨k,c,none⟩) d];exact e
 exact⟨b h.e0,b h.e1,b h.e2,b h.e3,b h.e4,b h.e5,b h.e6⟩
def jE2(j:Nat){l:Lit}(m:Nat)(n:Nat)(dc:Nat)(ah:xO l)(bf:c.length<=100)(o:jV w r a)(i1:InL w l.2.1.e a1)(i2:InL w l.2.2.e a2)(hd:kR w c a3):
 Calls Zf 166 #[.agg #[.slice a r.length j],lM l a1 m a2 n,.slice a3 c.length dc] w λp b=>(∃d u ai,p=.returned (.slice u d.length ai)/\rQ r l c d/\d.length<=2*c.length/\Gq b d.length u/\zO (λk=>w.heap.size<=k) (gB (λk=>w.heap.size<=k) b) b d u)/\Zb w b:=by
 obtain⟨g,f⟩:=Ze (((w.alloc (.cells #[.slice a r.length j] 24)).alloc (.cells #[.bool l.1,Y l.2.1.v,Y l.2.1.f,.slice a1 l.2.1.e.length m,Y l.2.2.v,Y l.2.2.f,.slice a2 l.2.2.e.length n] 47)).alloc (.cells #[.slice none 0 0] 212));have i:Zb w g:=f▸bJ _ _ _ _;have q:g.cell? ⟨w.heap.size,0,none⟩=some (.slice a r.length j):=by rw[f,kW (by simp;omega),kW (by simp)];exact jJ 0 rfl
 have y:L7 g (w.heap.size+1) 0 l a1 m a2 n:=by rw[f];exact(L7.new _ (by simp)).below (jG _ _)
 have s:g.cell? ⟨w.heap.size+1+1,0,none⟩=some (.slice none 0 0):=by rw[f];exact jJ 0 (by simp)
 have t:g.frozen? ⟨w.heap.size+1+1,0,none⟩=false:=by
  rw[f];have e:=iG (bR ((w.alloc (.cells #[.slice a r.length j] 24)).alloc (.cells #[.bool l.1,Y l.2.1.v,Y l.2.1.f,.slice a1 l.2.1.e.length m,Y l.2.2.v,Y l.2.2.f,.slice a2 l.2.2.e.length n] 47)) (.cells #[.slice none 0 0] 212)) 0;rw[show((w.alloc (.cells #[.slice a r.length j] 24)).alloc (.cells #[.bool l.1,Y l.2.1.v,Y l.2.1.f,.slice a1 l.2.1.e.length m,Y l.2.2.v,Y l.2.2.f,.slice a2 l.2.2.e.length n] 47)).heap.size=w.heap.size+1+1 by simp] at e;exact e
 have z:g.heap.size=w.heap.size+3:=by rw[f];simp
 have aj:=X f
 have h:=X (λb(e:yC (w.heap.size+3) (w.heap.size+1+1) g b)=>(show b.cell? ⟨w.heap.size,0,none⟩=some (.slice a r.length j)/\L7 b (w.heap.size+1) 0 l a1 m a2 n/\Zb w b from
  ⟨by rw[kH (w:=g) (a:=⟨w.heap.size,0,none⟩) (e.block w.heap.size (by omega) (by omega))];exact q,y.same (e.block _ (by omega) (by omega)),⟨e.os.trans i.os,e.tape.trans i.tape,e.output.trans i.output,kN i.size e.size,λk v=>(e.block k (by omega) (by omega)).trans (i.block k v)⟩⟩))
 have bg:=OU
 have HA:=X (λ(x A:T)(B:Zo)(C:Nat)(E:Zo)(F:Nat)(v:Zv)(d:List kE)(b:N)(e:yC (w.heap.size+3) (w.heap.size+1+1) g b)(H:d.length<=900)(G:InL b x.e B)(B:InL b A.e E)(U:b.cell? ⟨w.heap.size+1+1,0,none⟩=some v)(ak:b.frozen? ⟨w.heap.size+1+1,0,none⟩=false)(ho:aN gB 213 (w.heap.size+3) b v d)=>
  JA C F d ah (by omega) (by have:=e.size;omega) H (kD (h b e).2.2 o) (jI (h b e).2.2 i1) (jI (h b e).2.2 i2) G B (h b e).1 (h b e).2.1 U ak ho)
 have V:=X hd;have al:=X s;have am:=X t;have an:=X z;clear f i q y s t hd o i1 i2 z
 go_in
 go_upto_region 2 with fail
 rw[<-aj.out]
 go_upto_region 4 with fail
 go_loopw [14] (λi wr=>∃(k:Nat)(v:Zv)(d:List kE),k<=c.length/\i=Y k/\Hid (rQ r l (c.take k) d)/\d.length<=2*k/\Hid (wr.cell? ⟨w.heap.size+1+1,0,none⟩=some v)/\Hid (wr.frozen? ⟨w.heap.size+1+1,0,none⟩=false)/\Hid (aN gB 213 (w.heap.size+3) wr v d)/\Hid (yC (w.heap.size+3) (w.heap.size+1+1) g wr)) (λi _=>c.length - (intOf i).toNat)
 case atStart=>exact⟨0,_,[],jY _,rfl,X rfl,jY _,al,am,X GK,X (yC.refl _ _ _)⟩
 case round=>
  obtain⟨k,v,d,hk,rfl,z,H,W,ao,q,I⟩:=hrel;obtain⟨g0,y,f⟩:=h wr I;have ap:=X f;by_cases aq:k<c.length
  .obtain⟨x,e⟩:=Zg aq
   obtain⟨bh,bi,rfl⟩:=zN V (by omega);obtain⟨A,B,C,E,J,K,L,M,O,P,Q,s,t⟩:=dZ V e;have ar:=X s;have au:=X t;replace J:=jH f J;replace K:=jH f K;replace L:=jH f L;replace M:=jH f M;replace O:=jH f O;replace P:=jH f P;replace Q:=jH f Q;replace s:=jI f s;replace t:=jI f t;have bj:(k:Int)<c.length:=(by omega);have bk:(0:Int)<=k:=(by omega);obtain⟨o,F⟩:=Ze (wr.alloc (.cells #[.bool x.1,Y x.2.1.v,Y x.2.1.f,.slice A x.2.1.e.length B,Y x.2.2.v,Y x.2.2.f,.slice C x.2.2.e.length E] 47));have i:Zb wr o:=F▸jG _ _;have Z:L7 o wr.heap.size 0 x A B C E:=F▸L7.new _ rfl;have av:w.heap.size+3<=wr.heap.size:=(by have:=I.size;have:=an.out;omega);have G:=X (I.trans (yC.A (i.mono av)));have aa:=X F;have aw:=X (jI i s);have ax:=X (jI i t);have ab:=X (jP i W);have ac:Hid (o.frozen? ⟨w.heap.size+1+1,0,none⟩=false):=(by show _=_;rw[i.frozen (show w.heap.size+1+1<_ by omega)];exact ao);have ad:=X (Na dL q (λR _ S=>i.block R S));have ae:=X (show c.take (k+1)=c.take k++[x] by rw[vZ,e];rfl);have ay:=X Z;obtain⟨t0, -, -, -, -, -, -⟩:=(h o G).2.1;obtain⟨z0,z1,z2,z3,z4,z5,z6⟩:=Z;simp only[kK] at z1 z2 z3 z4 z5 z6;clear e F i s t f g0 y
   go_upto_region 6 with fail
   rw[<-aa.out];clear J K L M O P Q;by_cases f:x.1=l.1
   .have ey:(x.1==l.1)=true:=by simpa using f
    have y:=X (HA x.2.1 x.2.2 A B C E v d o G (by omega) aw ax ab ac ad)
    go_wp2_with fail
    refine y.mono ?_;rintro p J ⟨rfl,⟨v3,e,i,F,K,L⟩,M,O⟩;have s:=X (G.trans M);have bl:=So i;have az:wr.heap.size<o.heap.size:=by rw[aa.out];simp
    have P:=O wr.heap.size az (by omega) (λp=>by
     obtain⟨Q,t,_⟩:=q;have:=(kO t wr.heap.size p).2
     omega)
    obtain⟨-,a0,a4,a5,a6,a7,a8⟩:=ay.same P;simp only[kK] at a0 a4 a5 a6 a7 a8;have t:=(h J s).2.2;have Q:=jI t ar;have af:=jI t au;have ag:=X (HA x.2.2 x.2.1 C E A B v3 (d++e) J s (by rw[qB];omega) af Q F K L);have a9:=X i;clear i F K L M O y t Q af z0 z1 z2 z3 z4 z5 z6 t0 P
    go_wp2_with fail
    refine ag.mono ?_;rintro p Q ⟨rfl,⟨K,i,t,L,M,O⟩,P,af⟩;have bm:=So t;have y:=X (Th (jM (λ_=>⟨e,i,rfl,a9,t⟩) (λF=>jN f F)) z);have ba:=X (s.trans P);have bb:=X L;have bc:=X M;have bd:Hid (aN gB 213 (w.heap.size+3) Q K (d++(e++i))):=(by rw[<-dH];exact O);have be:Hid ((d++(e++i)).length<=2*(k+1)):=(by show _<=_;rw[qB,qB];omega);clear t L M O P af ag
    go_wp2_with fail
    go_roundw
    case rel=>exact⟨k+1,K,d++(e++i),by omega,by go_num,X (ae.out▸y),be,bb,bc,bd,ba⟩
    case measure=>simp[intOf];omega
   have ey:(x.1==l.1)=false:=(by simpa using f);have y:=X (Th (jM (λF=>jN F f) (λ_=>rfl)) z)
   go_wp2_with fail
   go_roundw
   case rel=>exact⟨k+1,v,d,by omega,by go_num,X (by rw[ae.out];have:=y.out;rw[zU] at this;exact this),by omega,ab,ac,ad,G⟩
   case measure=>simp[intOf];omega
  obtain rfl:k=c.length:=by omega
  rw[qU] at z;have U:=W.out;obtain⟨e,i,rfl⟩:=Ss q;have s:=X (GM dL q);have t:=X (GI q);go_wp2;go_ret;exact⟨⟨d,e,i,rfl,z,H,t,eV s (λR S _=>⟨by omega,rfl⟩) (λv x=>dL _ _ _ _ v x (λR S _=>⟨by omega,rfl⟩))⟩,ap⟩
def TE{P:Zv}{Q:kE->Prop}(b:List kE)(A:Nat)(K:b.length<=100000)(L:∀(q:Zy)(w:N),(callFunc k q).run Zf w=.ok (.enter k q) w)
 (c:∀(d:N)(g:kE)(n r:Nat),Zb w d->g∈b->pR g->r<=2000->zK p d n r g->Calls Zf k #[P,.map (some n)] d λl B=>fJ (Q g) l/\Zb d B) (h:zO p (gB p w) w b a):
 Calls Zf 189 #[.slice a b.length A,.func (.func k) #[P] #[]] w λl d=>(∃i:Int,l=.returned (Y i)/\(0<=i↔∃g,g∈b/\Q g))/\Zb w d:=by
 have s:=X h;have C:=X c;clear h c
 go_in
 go_wp2
 go_loopw [8] (λi wr=>∃c:Nat,c<=b.length/\i=Y c/\Hid (∀(j:Nat)(g:kE),j<c->b[j]? =some g->¬Q g)/\Hid (Zb w wr)) (λi _=>b.length - (intOf i).toNat)
 case atStart=>exact⟨0,jY _,rfl,X (λj g m=>by omega),X (jW _ _)⟩
 case round=>
  obtain⟨c,M,rfl,t,e⟩:=hrel;by_cases E:c<b.length
  .obtain⟨g,f⟩:=Zg E
   obtain⟨n,O,rfl⟩:=rM s (by omega);obtain⟨R,o,u,F,G,rfl,v,x⟩:=cQ s f;have H:=jH e o;have S:(c:Int)<b.length:=(by omega);have I:(0:Int)<=c:=(by omega);have y:=X (C wr g F G e (jU f) u x (v.below e));have z:=X f;clear o v u x f
   go_wp2_with fail
   refine y.mono ?_;rintro l U ⟨⟨J,rfl,h⟩,o⟩;have u:=X (e.trans (o.mono e.size));have v:=X h;clear o h y H
   cases J with
   |true=>
    have h:Hid (∃g,g∈b/\Q g):=⟨g,jU z,v.1 rfl⟩;go_wp2;go_ret;exact⟨⟨(c:Int),rfl,⟨λ_=>h,λ_=>I⟩⟩,u⟩
   |false=>
    have y:Hid (∀(j:Nat)(h:kE),j<c+1->b[j]? =some h->¬Q h):=by
     intro j h V o x;by_cases H:j=c
     .subst H
      rw[z.out] at o;obtain rfl:=kT o;exact jN (v.2 x) (by simp)
     exact t j h (by omega) o x
    go_wp2_with fail
    go_roundw
    case rel=>exact⟨c+1,by omega,by go_num,y,u⟩
    case measure=>simp[intOf];omega
  have h:Hid (¬∃g,g∈b/\Q g):=by
   rintro⟨g,f,o⟩;obtain⟨j,c⟩:=Bf f;exact t j g (by have:=(Zl c);omega) c o
  go_wp2;go_ret;exact⟨⟨-1,rfl,⟨λm=>jN m (by decide),λm=>jN m h⟩⟩,e⟩
def MY{P:Zv}{Q:kE->Prop}(c:List kE)(d:Nat)(m:c.length<=100000)(f:∀(h:Zy)(w:N),(callFunc k h).run Zf w=.ok (.enter k h) w)
 (i:∀(b:N)(g:kE)(j n:Nat),Zb w b->g∈c->pR g->n<=2000->zK p b j n g->Calls Zf k #[P,.map (some j)] b λe o=>fJ (Q g) e/\Zb b o) (l:zO p (gB p w) w c a):
 Calls Zf 162 #[.slice a c.length d,.func (.func k) #[P] #[]] w λe b=>fJ (∃g,g∈c/\Q g) e/\Zb w b:=by
 have q:=X (TE c d m f i l);clear i l f
 go_in
 go_wp2_with fail
 refine q.mono ?_;rintro e b ⟨⟨l,rfl,f⟩,i⟩;have r:=X f;have s:=X i;clear f i;go_wp2;go_ret;exact⟨⟨decide (0<=l),rfl,by rw[decide_eq_true_iff];exact r⟩,s⟩
def TF{P q:Zv}{Q:kE->Prop}(b:List kE)(B:Nat)(L:b.length<=100000)(M:∀(r:Zy)(w:N),(callFunc k r).run Zf w=.ok (.enter k r) w)
 (c:∀(d:N)(g:kE)(n s:Nat),Zb w d->g∈b->pR g->s<=2000->zK p d n s g->Calls Zf k #[.map (some n),P,q] d λl C=>fJ (Q g) l/\Zb d C) (h:zO p (gB p w) w b a):
 Calls Zf 189 #[.slice a b.length B,.func (.func k) #[] #[P,q]] w λl d=>(∃i:Int,l=.returned (Y i)/\(0<=i↔∃g,g∈b/\Q g))/\Zb w d:=by
 have t:=X h;have E:=X c;clear h c
 go_in
 go_wp2
 go_loopw [8] (λi wr=>∃c:Nat,c<=b.length/\i=Y c/\Hid (∀(j:Nat)(g:kE),j<c->b[j]? =some g->¬Q g)/\Hid (Zb w wr)) (λi _=>b.length - (intOf i).toNat)
 case atStart=>exact⟨0,jY _,rfl,X (λj g m=>by omega),X (jW _ _)⟩
 case round=>
  obtain⟨c,O,rfl,u,e⟩:=hrel;by_cases F:c<b.length
  .obtain⟨g,f⟩:=Zg F
   obtain⟨n,R,rfl⟩:=rM t (by omega);obtain⟨S,o,v,G,H,rfl,x,y⟩:=cQ t f;have I:=jH e o;have U:(c:Int)<b.length:=(by omega);have J:(0:Int)<=c:=(by omega);have z:=X (E wr g G H e (jU f) v y (x.below e));have A:=X f;clear o x v y f
   go_wp2_with fail
   refine z.mono ?_;rintro l V ⟨⟨K,rfl,h⟩,o⟩;have v:=X (e.trans (o.mono e.size));have x:=X h;clear o h z I
   cases K with
   |true=>
    have h:Hid (∃g,g∈b/\Q g):=⟨g,jU A,x.1 rfl⟩;go_wp2;go_ret;exact⟨⟨(c:Int),rfl,⟨λ_=>h,λ_=>J⟩⟩,v⟩
   |false=>
    have z:Hid (∀(j:Nat)(h:kE),j<c+1->b[j]? =some h->¬Q h):=by
     intro j h W o y;by_cases I:j=c
     .subst I
      rw[A.out] at o;obtain rfl:=kT o;exact jN (x.2 y) (by simp)
     exact u j h (by omega) o y
    go_wp2_with fail
    go_roundw
    case rel=>exact⟨c+1,by omega,by go_num,z,v⟩
    case measure=>simp[intOf];omega
  have h:Hid (¬∃g,g∈b/\Q g):=by
   rintro⟨g,f,o⟩;obtain⟨j,c⟩:=Bf f;exact u j g (by have:=(Zl c);omega) c o
  go_wp2;go_ret;exact⟨⟨-1,rfl,⟨λm=>jN m (by decide),λm=>jN m h⟩⟩,e⟩
def MZ{P d:Zv}{Q:kE->Prop}(c:List kE)(f:Nat)(o:c.length<=100000)(h:∀(i:Zy)(w:N),(callFunc k i).run Zf w=.ok (.enter k i) w)
 (j:∀(b:N)(g:kE)(l n:Nat),Zb w b->g∈c->pR g->n<=2000->zK p b l n g->Calls Zf k #[.map (some l),P,d] b λe q=>fJ (Q g) e/\Zb b q) (m:zO p (gB p w) w c a):
 Calls Zf 162 #[.slice a c.length f,.func (.func k) #[] #[P,d]] w λe b=>fJ (∃g,g∈c/\Q g) e/\Zb w b:=by
 have r:=X (TF c f o h j m);clear j m h
 go_in
 go_wp2_with fail
 refine r.mono ?_;rintro e b ⟨⟨m,rfl,h⟩,j⟩;have s:=X h;have t:=X j;clear h j;go_wp2;go_ret;exact⟨⟨decide (0<=m),rfl,by rw[decide_eq_true_iff];exact s⟩,t⟩
def jCy{b:List (List kE)}(g:Nat)(d:0<b.length)(r:b.length<=100000)(c:zO p (fH p w) w b a):
 Calls Zf 161 #[.slice a b.length g] w λh l=>(∃k:Nat,k<b.length/\h=.returned (Y (k:Int)))/\l=w:=by
 obtain⟨s,t,rfl⟩:=rM c d;have e:=X c;clear c
 go_in
 go_wp2
 go_loopw [3,8] (λm i wr=>∃j k:Nat,j<b.length/\k<=b.length/\m=Y j/\i=Y k/\Hid (wr=w)) (λ_ i _=>b.length - (intOf i).toNat)
 case atStart=>exact⟨0,0,d,jY _,rfl,rfl,X rfl⟩
 case round=>
  obtain⟨j,k,c,u,rfl,rfl,f⟩:=hrel;have i:=f.symm;subst i;clear f;by_cases f:k<b.length
  .obtain⟨m,n⟩:=Zg f
   obtain⟨o,q⟩:=Zg c;obtain⟨v,x,y,z,rfl,A, -⟩:=cQ e n;obtain⟨B,C,E,F,rfl,G, -⟩:=cQ e q;have H:(k:Int)<b.length:=(by omega);have I:(0:Int)<=k:=(by omega);have J:(j:Int)<b.length:=(by omega);have K:(0:Int)<=j:=(by omega);by_cases L:(m.length:Int)<o.length
   .go_wp2_with fail
    go_roundw
    case rel=>exact⟨k,k+1,f,by omega,rfl,by go_num,trivial⟩
    case measure=>simp[intOf];omega
   go_wp2_with fail
   go_roundw
   case rel=>exact⟨j,k+1,c,by omega,rfl,by go_num,trivial⟩
   case measure=>simp[intOf];omega
  go_wp2;go_ret;exact⟨⟨j,c,rfl⟩,rfl⟩
def Cd(w:N)(x:Zv)(m:Nat)(a:Zu):Prop:=
 (x=Zd/\m=0/\a=[])\/∃b c d,x=Zz b c m d/\a.length=m/\(∀j u,a[j]? =some u->w.cell? (D b (c+j))=some u)/\∀u,u∈a->u.oneCell'=true
def jAo{z:Zv}(b:rF g g1 z k){v x:Zv}(d:TypeId)(e:w.ownsRow n g1 1 v m U)(q:Cd w x i V)(r:m+i<=100000)(s:n<=w.heap.size):
 ∃a c,(Builtin.append_ #[g,g] d #[v,x]).run Zf w=.ok a c/\c.ownsRow n g1 1 a (m+i) (U++V)/\w.grownBy c v.ownBlock/\(a.ownBlock=v.ownBlock\/a.ownBlock=some w.heap.size):=by
 obtain⟨l,o,p⟩:=bQ.1 b.info;simp only[bG] at p;obtain⟨t,u,y⟩:=p;have A:=b.small;have B:(m+i)*k<=140737488355328:=kN (My r A) (by decide);rcases q with⟨rfl,rfl,rfl⟩|⟨f,h,C,rfl,O,E,F⟩
 .rw[zU]
  exact⟨v,w,run_append_owned_none w n g d g1 l 1 b.under o _ _ _ e,e,⟨rfl,rfl,rfl,jF _,λ_ _ _=>rfl⟩,jD rfl⟩
 obtain⟨a,c,G,H,I,_,J⟩:=run_append_own_at w n g d g1 l z 1 k b.under o t u y b.cells (by decide) v m U e (D f h) i C V (by omega) (λj K L=>by
  have M:((D f h):Addr).add j=(D f (h+j)):=by simp[Addr.add]
  rw[M];exact E j K L) F (by unfold maxLen;omega) B s
 exact⟨a,c,G,H,I,J⟩
def Rk{z:Zv}(h:rF g g1 z k){d:Array Oper}{e:List Oper}{o:Oper}{c:Act}{Q:Exit->Act->N->Prop}(j:o.guard=none)(s x:Operand)(l:o.op=.call {callee:=.builtin .append,args:=#[s,x],argTypes:=#[g,g]}){v:Zv}(p:c.eval s=v)(q:w.ownsRow n g1 1 v m U){f:Zv}(r:c.eval x=f)(t:Cd w f i V)(u:m+i<=100000)(y:n<=w.heap.size)
 (A:∀a b,b.ownsRow n g1 1 a (m+i) (U++V)->w.grownBy b v.ownBlock->(a.ownBlock=v.ownBlock\/a.ownBlock=some w.heap.size)->wpList Zf d Q e (c.put o.dst a) b):wpList Zf d Q (o::e) c w:=by
 refine wpList_plain j λK B=>?_;obtain⟨a,b,C,E,F,G⟩:=jAo h o.type q t u y;unfold Oper.wp execOp;simp only[l,resolve,invoke,builtin,Sem.run_bind,Sem.run_pure,oH,List.map_toArray,yI,List.map_nil,p,r,C];exact B _ _ (A a b E F G)
def RT(n:Nat)(w:N)(r:n<=3000):
 Calls Zf 201 #[Zd,Y n] w λm e=>∃v,m=.returned v/\e.ownsRow w.heap.size 212 1 v 0 []/\Zb w e:=by
 by_cases o:0<n
 .obtain⟨i,f,g⟩:=bQ.1 Ar.info
  simp only[bG] at g;obtain⟨h,p,b⟩:=g;obtain⟨G,a⟩:=Ze (grownCap w n 0 212);have s:n<=G:=a▸grownCap_ge w _ _ _;have j:G<=maxLen:=by rw[a];exact grownCap_le_maxLen w n 0 _ (by unfold maxLen;omega)
  obtain⟨Z,c⟩:∃Z:Zy,Z=((#[]:Zy)++Builtin.zeroCells (Value.slice none 0 0).cells n++Builtin.zeroCells (Value.slice none 0 0).cells (G - n)):=⟨_,rfl⟩;have k:Z.size=G*1:=by rw[c];simp[Builtin.zeroCells,Value.cells];omega
  have q:∀d,(Builtin.append_ #[182,3] d #[Zd,Y (n:Int)]).run Zf w=.ok (Zx w.heap.size n G) (w.drew.alloc (.cells Z 212)):=λd=>by
   have l:=Lib.run_append_grow_zeros w 182 3 d 212 i _ .i64 .i64 Ar.under Go.Proofs.Tryz.underlying3 f h none 0 0 [] (run_firstCells_none w.drew i.size 0 0 0) n o (by omega) (by omega) (by omega) (by rw[b];omega) (by rw[b];exact growslice_fits (by omega) (by omega));rw[kK] at l;rw[c,a];exact l
  have l:G<=9223372036854775807:=by unfold maxLen at j;omega
  have d:Hid ((w.alloc (.cells Z 212)).drew.ownsRow w.heap.size 212 1 (Zx w.heap.size 0 G) 0 []/\Zb w (w.alloc (.cells Z 212)).drew):=
   ⟨⟨rfl,jE ⟨w.heap.size,G,Z,rfl,jF _,bR w _,jY _,j,k,by simp⟩⟩,(jG w _).drew⟩
  clear a f h p b c k
  go_in
  go_wp2_with (at_builtin;refine Lib.wpList_append_run _ rfl _ _ _ _ rfl _ _ rfl rfl _ _ (q _) ?_)
  go_ret;exact⟨_,rfl,d⟩
 obtain rfl:n=0:=by omega
 go_in
 go_wp2;go_ret;exact⟨_,rfl,⟨rfl,jD ⟨rfl,rfl⟩⟩,jW _ _⟩
def Rx{c:Type}{E:c->Zv->Prop}(d:∀x v,E x v->v.oneCell'=true){l:List c}:∀{b:Zu},gX E l b->∀u,u∈b->u.oneCell'=true:=by
 induction l with
 |nil=>intro b h u a;rw[show b=[] from h] at a;cases a
 |cons x l e=>
  intro b h u a;obtain⟨v,g,rfl,f,h⟩:=h;rcases qO.1 a with rfl|a
  .exact d x _ f
  exact e h u a
structure oI (p:Zp) (w:N) (v:Zv) (Ls:List (List kE)) (xs:Zu):Prop where
 src:Cd w v Ls.length xs
 jl:gX (fH p w) Ls xs
def Jf{x:Zv}(a:Zb w u)(h:Cd w x k U):Cd u x k U:=by
 rcases h with h|⟨b,c,d,e,f,g,i⟩
 .exact jD h
 exact jE ⟨b,c,d,e,f,λj l m=>jP a (g j l m),i⟩
def Sj:∀{p:Zp}{w:N}(x:List kE)(v:Zv),fH p w x v->v.oneCell'=true:=λ_ _ h=>by obtain⟨a,b,rfl,_⟩:=h;rfl
def jAa{c:List (List kE)}(a:Nat)(l:a<=c.length)(h:zO p (fH p w) w c (some (D k n))):∃d,oI p w (Zz k n a m) (c.take a) d:=by
 rcases h with h|⟨v,x,d,e,_,o,q⟩
 .subst h
  obtain rfl:a=0:=by simpa using l
  exact⟨[],⟨jE ⟨k,n,m,rfl,rfl,λj u b=>by simp at b,λu b=>by cases b⟩,rfl⟩⟩
 injection e with e
 injection e with r s y
 subst r s;have f:=(Ry a o).1;have g:=Ml f;have i:(c.take a).length=a:=by rw[yD];omega
 refine⟨d.take a,⟨jE ⟨k,n,m,by rw[i],g,λj u b=>?_,Rx Sj f⟩,f⟩⟩;have t:j<a:=by
  have:=(Zl b);rw[g,i] at this;exact this
 rw[eR t] at b;exact q j u b
def ZZ{a:List (List kE)}(f:i<a.length)(h:zO p (fH p w) w a (some (D k n))):∃b,oI p w (Zz k (n+i) (a.length - i) m) (a.drop i) b:=by
 rcases h with h|⟨s,t,b,c,_,g,j⟩
 .subst h;simp at f
 injection c with c
 injection c with l o v
 subst l o;have d:=(Ry i g).2;have q:=Ml d;refine⟨b.drop i,⟨jE ⟨k,n+i,m,by rw[tQ],q,λr u e=>?_,Rx Sj d⟩,d⟩⟩;rw[Ej] at e;rw[Nat.add_assoc];exact j (i+r) u e
def MS{L M:List (List kE)}{l o:Zv}(z:Nat)(A:l=.slice a L.length n)(B:o=.slice a1 M.length m)(c:∀b,p b->b<w.heap.size)(W:L.length<=1000)(hd:M.length<=1000)
 (h:w.cell? (D k 0)=some l) (q1:w.cell? (D k 1)=some o) (r1:oI p w l L U) (r2:oI p w o M V):
 Calls Zf 190 #[Zx k 2 z] w λj e=>(∃g q,j=.returned (.slice g (L++M).length q)/\zO (λb=>p b\/w.heap.size<=b) (fH (λb=>p b\/w.heap.size<=b) e) e (L++M) g)/\Zb w e:=by
 subst A B;have d:=X (RT (L.length+M.length) w (by omega));have x:=X r1;have y:=X r2;have C:=X h;have E:=X q1;have F:=X c;clear r1 r2 c
 go_in
 go_wp2
 go_loopw [3,11] (λs i wr=>Hid (wr=w)/\((s=Y 0/\i=Y 0)\/(s=Y (L.length:Int)/\i=Y 1)\/(s=Y ((L.length+M.length:Nat):Int)/\i=Y 2))) (λ_ i _=>2 - (intOf i).toNat)
 case atStart=>exact⟨rfl,jD ⟨rfl,rfl⟩⟩
 case round=>
  obtain⟨c,hrel⟩:=hrel;have G:=c.symm;subst G;clear c;obtain⟨rfl,rfl⟩|⟨rfl,rfl⟩|⟨rfl,rfl⟩:=hrel
  .have H:¬((L.length:Int)<0):=by omega
   go_wp2_with fail
   go_roundw
   case rel=>exact⟨trivial,jE (jD ⟨by simp,rfl⟩)⟩
   case measure=>simp[intOf]
  .have H:¬((L.length:Int)+M.length<0):=by omega
   go_wp2_with fail
   go_roundw
   case rel=>exact⟨trivial,jE (jE ⟨by simp,rfl⟩)⟩
   case measure=>simp[intOf]
  go_wp2_with fail
  refine d.mono ?_;rintro j Z ⟨v,rfl,c,f⟩;have I:=X c;have J:=X f;clear c f d h q1;go_wp2
  go_loopw [6,27] (λv i wr=>Hid (Zb w wr)/\((i=Y 0/\Hid (wr.ownsRow w.heap.size 212 1 v 0 []))\/(i=Y 1/\Hid (wr.ownsRow w.heap.size 212 1 v L.length U))\/(i=Y 2/\Hid (wr.ownsRow w.heap.size 212 1 v (L.length+M.length) (U++V))))) (λ_ i _=>2 - (intOf i).toNat)
  case atStart=>exact⟨J,jD ⟨rfl,I⟩⟩
  case round=>
   obtain⟨d,hrel⟩:=hrel;have h:=jP d C;have q1:=jP d E;have aa:=d.size
   have i:=X (λ(v:Zv)(c s:Nat)(f t:Zu)(u:wr.ownsRow w.heap.size 212 1 v c f)(r:Zv)(e:N)(_:e.ownsRow w.heap.size 212 1 r (c+s) (f++t))(c:wr.grownBy e v.ownBlock)=>(show Zb w e from
    d.grown c (by omega) (λb c=>(kO u b c).1)))
   obtain⟨rfl,c⟩|⟨rfl,c⟩|⟨rfl,c⟩:=hrel
   .have HS:=X (Jf d x.src)
    go_wp2_with (at_builtin
                 go_must (refine Rk Ar rfl (.tmp 31) (.tmp 32) rfl rfl c rfl HS (by omega) (by omega) ?_)
                 intro r t f s u)
    have t:=i _ _ _ _ _ c _ _ f s
    go_roundw
    case rel=>exact⟨t,jE (jD ⟨rfl,by rw[kK,nQ] at f;exact f⟩)⟩
    case measure=>simp[intOf]
   .have HS:=X (Jf d y.src)
    go_wp2_with (at_builtin
                 go_must (refine Rk Ar rfl (.tmp 31) (.tmp 32) rfl rfl c rfl HS (by omega) (by omega) ?_)
                 intro r r f s u)
    have t:=i _ _ _ _ _ c _ _ f s
    go_roundw
    case rel=>exact⟨t,jE (jE ⟨rfl,f⟩)⟩
    case measure=>simp[intOf]
   obtain⟨g,q,rfl⟩:=zF c;have r:Hid (zO (λb=>p b\/w.heap.size<=b) (fH (λb=>p b\/w.heap.size<=b) wr) wr (L++M) g):=by
    have f:=nN (λs u=>cM p (λb=>p b\/w.heap.size<=b) w wr s u (λb f _=>⟨jD f,d.block b (F b f)⟩)) (Mj x.jl y.jl);by_cases s:0<L.length+M.length
    .obtain⟨K,ab,j,O,ac,P⟩:=fX c s
     injection j with Q e2 e3
     rw[Q];exact jE ⟨K,0,U++V,rfl,jE O,f,λR u S=>by rw[kK];exact P R u S⟩
    exact jD (yM.1 (by rw[qB];omega))
   clear i h q1 c;go_wp2;go_ret;exact⟨⟨g,q,by rw[qB];rfl,r⟩,d⟩
section
variable {α:Type}
def sN(q:Zp)(E:Zp->N->α->Zv->Prop)(d:TypeId)(a:Nat)(w:N)(l:Zv)(b:List α):Prop:=
 ∃c,w.ownsRow a d 1 l b.length c/\gX (E (λk=>(q k\/a<=k)/\l.ownBlock≠some k) w) b c
def Nd{E:Zp->N->α->Zv->Prop}:sN p E g k w (Zd) []:=⟨[],⟨rfl,jD ⟨rfl,rfl⟩⟩,rfl⟩
def Sv{E:Zp->N->α->Zv->Prop}(e:eX E){l:Zv}{a:List α}(h:sN p E g k w l a)(b:Zb w u):sN p E g k u l a:=by
 obtain⟨f,c,i⟩:=h;exact⟨f,vT c (λd j=>b.block d (kO c d j).2),nN (λx v=>e _ _ _ _ x v (λd j m=>⟨j,b.block d m⟩)) i⟩
def Iy{E:Zp->N->α->Zv->Prop}(d:eX E){c:List α}(h:sN p E g k w (.slice a n m) c):zO (λb=>p b\/k<=b) (E (λb=>p b\/k<=b) w) w c a:=by
 obtain⟨e,f,i⟩:=h;by_cases j:0<c.length
 .obtain⟨l,y,o,q,z,r⟩:=fX f j
  injection o with s A B
  rw[s];exact jE ⟨l,0,e,rfl,jE q,nN (λx v=>d _ _ _ _ x v (λb t _=>⟨t.1,rfl⟩)) i,λt u v=>by rw[kK];exact r t u v⟩
 exact jD (yM.1 (by omega))
def GP{E:Zp->N->α->Zv->Prop}{b:List α}(h:sN p E g k w (.slice a b.length n) b):b.length<=n:=by
 obtain⟨d,c,_⟩:=h;rcases c.2 with⟨_,f⟩|⟨i,j,l,e,m,o,q,r,s,t⟩
 .omega
 injection e with u v x
 omega
def Nc{E:Zp->N->α->Zv->Prop}(i:eX E){l f b:Zv}{h:List α}{x:α}(r:k<=w.heap.size)(n:Zb w u)(s:w.ownsRow k g 1 l h.length U)(c:gX (E (λa=>(p a\/k<=a)/\l.ownBlock≠some a) w) h U)(t:E (λa=>(p a\/k<=a)/\l.ownBlock≠some a) u x b)
 (z:v.ownsRow k g 1 f (h.length+1) (U++[b])) (o:(u.alloc (.cells #[b] g1)).grownBy v l.ownBlock) (e:f.ownBlock=l.ownBlock\/f.ownBlock=some (u.alloc (.cells #[b] g1)).heap.size):sN p E g k v f (h++[x])/\Below k w v:=by
 have A:=n.size;have q:Zb w (u.alloc (.cells #[b] g1)):=n.trans ((jG _ _).mono A);refine⟨⟨_,by rw[qB];exact z,nN (λy j=>i _ _ _ _ y j (λa m d=>⟨⟨m.1,?_⟩,o.block a d (λg1=>m.2 g1.symm)⟩)) (Mj (nN (λy j=>i _ _ _ _ y j (λa c d=>⟨c,q.block a d⟩)) c) ⟨b,[],rfl,i _ _ _ _ x b (λa c d=>⟨c,(jG _ _).block a d⟩) t,rfl⟩)⟩,(q.mono r).grown o (by simp;omega) (λa c=>(kO s a c).1)⟩;rcases e with e|e
 .rw[e];exact m.2
 rw[e];intro j;cases j;simp at d
end
def uM(g:kE)(a b:List kE):Prop:=b.length<=a.length/\∀x,x∈b↔x∈a/\mJ g x
def Ay(g:kE)(a b:List (List kE)):Prop:=b.length=a.length/\∀(i:Nat)(c d:List kE),a[i]? =some c->b[i]? =some d->uM g c d
def EK{g:kE}{c d:List (List kE)}{f h:List kE}(j:c[k]? =some f)(l:Ay g (c.take k) d)(n:uM g f h):Ay g (c.take (k+1)) (d++[h]):=by
 have q:=(Zl j);have e:d.length=k:=by rw[l.1,yD];omega
 refine⟨by rw[qB,yD,e];simp;omega,λi m o b a=>?_⟩;by_cases p:i<k
 .rw[eR (by omega)] at b
  rw[mY (by omega)] at a;exact l.2 i m o (by rw[eR p];exact b) a
 have m:=(Zl a);rw[qB,e] at m;simp at m;obtain rfl:i=k:=by omega
 rw[eR (by omega),j] at b;obtain rfl:=kT b;rw[nO (by omega),e] at a;simp at a;rw[<-a];exact n
def JC{o:kE}{L M:List (List kE)}{S W:Zv}(qc:Nat)(f:pR o)(g:zK p w k n o)(h:S=.slice a L.length i)(l:W=.slice a1 M.length j)(c:∀b,p b->b<w.heap.size)(hc:L.length<=1000)(hd:M.length<=1000)
 (q:w.cell? (D m 0)=some S) (q1:w.cell? (D m 1)=some W) (r1:oI p w S L U) (r2:oI p w W M V):
 Calls Zf 164 #[.map (some k),Zx m 2 qc] w λs z=>(∃e ab ac,s=.returned (.slice ab e.length ac)/\e.length<=ac/\Ay o (L++M) e/\zO (λb=>p b\/w.heap.size<=b) (fH (λb=>p b\/w.heap.size<=b) z) z e ab)/\Zb w z:=by
 have d:=X (MS qc h l c hc hd q q1 r1 r2);have am:(L++M).length<=2000:=by rw[qB];omega
 obtain⟨A,r⟩:=Ze (L++M);rw[<-r] at d am ⊢;have Hg:=X g;have an:=X f;have ad:=X c;clear r g f c q q1 r1 r2 h l
 go_in
 go_wp2_with fail
 refine d.mono ?_;rintro s c ⟨⟨ra,rc,rfl,g⟩,f⟩;have ae:=X g;have Z:=X f;have a7:=f.size;clear g f d
 go_upto_region 3 with fail
 go_loopw [5,14] (λl d wr=>∃(b:Nat)(e:List (List kE))(B:Zo)(C:Nat),b<=A.length/\d=Y b/\l=.slice B e.length C/\Hid (Ay o (A.take b) e)/\Hid (sN (λb=>p b\/w.heap.size<=b/\b<c.heap.size) fH 212 c.heap.size wr (.slice B e.length C) e)/\Hid (Zb c wr)) (λ_ d _=>A.length - (intOf d).toNat)
 case atStart=>exact⟨0,[],none,0,jY _,rfl,rfl,X ⟨rfl,λd g d h=>by simp at h⟩,X Nd,X (jW _ _)⟩
 case round=>
  obtain⟨b,e,B,C,q,rfl,rfl,O,HO,E⟩:=hrel;obtain⟨I,rfl⟩:=Ze wr;by_cases ao:b<A.length
  .obtain⟨g,f⟩:=Zg ao
   obtain⟨rb,ro,rfl⟩:=rM ae (by omega);obtain⟨a8,v,ga,gc,rfl,a9,y⟩:=cQ ae f;have c0:=jP E v
   have af:=X (eV y (p1:=λb=>p b\/w.heap.size<=b/\b<c.heap.size) (u:=c) (F:=gB (λb=>p b\/w.heap.size<=b/\b<c.heap.size) c) (λr l t=>⟨l.imp id (λh=>⟨h,t⟩),rfl⟩) (λx u G=>by
    have H:=dL _ (λb=>(p b\/w.heap.size<=b)/\b<c.heap.size) c c x u (λr l t=>⟨⟨l,t⟩,rfl⟩) G
    exact dL _ _ _ _ x u (λr l _=>⟨l.1.imp id (λh=>⟨h,l.2⟩),rfl⟩) H))
   have ba:(b:Int)<A.length:=(by omega);have bb:(0:Int)<=b:=(by omega);have ap:=E.size;have aq:=X (λd(t:uM o g d)=>EK f O t);have ar:=X (Hg.below Z);clear v y f
   go_upto_region 7 with fail
   clear c0
   go_loopw [8,20] (λy r wr=>∃(f:Nat)(d:List kE)(t:Zo)(v:Nat),f<=g.length/\r=Y f/\y=.slice t d.length v/\Hid (uM o (g.take f) d)/\Hid (sN (λb=>p b\/w.heap.size<=b/\b<c.heap.size) gB 213 I.heap.size wr (.slice t d.length v) d)/\Hid (Zb I wr)) (λ_ r _=>g.length - (intOf r).toNat)
   case atStart=>exact⟨0,[],none,0,jY _,rfl,rfl,X ⟨by simp,λx=>by simp⟩,X Nd,X (jW _ _)⟩
   case round=>
    obtain⟨f,d,t,v,hm,rfl,rfl,G,HS,y⟩:=hrel;by_cases au:f<g.length
    .obtain⟨J,H⟩:=Zg au
     obtain⟨gb,bc,rfl⟩:=rM af (by omega);obtain⟨u,R,aa,ob,on,rfl,Q,ag⟩:=cQ af H;have K:=X (E.trans (y.mono E.size));have av:Hid (∀b,(p b\/w.heap.size<=b/\b<c.heap.size)->b<c.heap.size):=λb q=>by
      rcases q with h|h
      .have:=ad b h;omega
      exact h.2
     have c0:=jP K R;have ah:=y.size;have aw:=X aa;have ax:=X ag;have HA:=X (No an ((ar.below K).imp (λb h=>jD h)) (Q.below K));have ay:=X Q;have bd:(f:Int)<g.length:=(by omega);have be:(0:Int)<=f:=(by omega);have P:=X (show g.take (f+1)=g.take f++[J] by rw[vZ,H];rfl);clear R Q H aa ag
     go_wp2_with fail
     refine HA.mono ?_;rintro s w2 ⟨⟨az,rfl,Q⟩,H⟩;have R:=X H;have bf:=H.size;have a0:=X (ay.below (K.trans (H.mono K.size)));clear H HA c0
     cases az with
     |true=>
      have aa:=Q.1 rfl;have a2:Hid (uM o (g.take (f+1)) (d++[J])):=by
       have h9:=G.out;refine⟨?_,λx=>?_⟩
       .rw[P.out,qB,qB]
        have:=h9.1;simp only[xI,mZ];omega
       rw[P.out,vD,vD,h9.2 x,vY];constructor
       .rintro (⟨H,h2⟩|rfl)
        .exact⟨jD H,h2⟩
        exact⟨jE rfl,aa⟩
       rintro⟨H|rfl,h2⟩
       .exact jD ⟨H,h2⟩
       exact jE rfl
      have bg:d.length<=1000:=(by have:=G.1;rw[yD] at this;omega);obtain⟨vs,h1,h2⟩:=HS;have H:=X h1;have H2:=X h2;have ag:=X (λai=>vT H (u:=w2.alloc ai) (λx hx=>(zL _ _ _ (by have:=(kO H x hx).2;omega)).trans (R.block x (kO H x hx).2)));have Hx:Hid (gB (λb=>((p b\/w.heap.size<=b/\b<c.heap.size)\/I.heap.size<=b)/\(Value.slice t d.length v).ownBlock≠some b) w2 J (.map (some ob))):=⟨aw,ob,on,rfl,a0.imp (λb q=>⟨jD q,λs=>by have h8:=(kO H b s).1;have h7:=av b q;omega⟩),ax⟩;clear h1 h2 Q aa
      go_wp2_with (at_builtin
                   go_must (refine Lu Ra rfl (.tmp 27) (.tmp 29) rfl rfl (ag _) rfl rfl (jJ 0 rfl) rfl (by omega) (by simp;omega) ?_)
                   intro v' w3 aa ai aj;obtain⟨a3,a4,rfl⟩:=zF aa;obtain⟨ak,al⟩:=Nc dL (show I.heap.size<=wr.heap.size by omega) R H H2 Hx aa ai aj;have a5:=X ak;have a6:=X (y.trans al)
                   clear aa ai aj ak al H H2 ag Hx)
      go_roundw
      case rel=>exact⟨f+1,d++[J],a3,a4,by omega,by go_num,by rw[qB];rfl,a2,by rw[qB] at*;exact a5,a6⟩
      case measure=>simp[intOf];omega
     |false=>
      have aa:¬mJ o J:=λh=>by have:=Q.2 h;cases this
      have ag:Hid (uM o (g.take (f+1)) d):=by
       have h9:=G.out;refine⟨?_,λx=>?_⟩
       .rw[P.out,qB]
        exact kN h9.1 (oD _ _)
       rw[P.out,vD,h9.2 x,vY];constructor
       .rintro⟨h1,H⟩
        exact⟨jD h1,H⟩
       rintro⟨h1|rfl,H⟩
       .exact⟨h1,H⟩
       exact jN H aa
      have H:=X (Sv dL HS R);have ai:=X (y.trans (R.mono ah));clear Q aa
      go_wp2_with fail
      go_roundw
      case rel=>exact⟨f+1,d,t,v,by omega,by go_num,rfl,ag,H,ai⟩
      case measure=>simp[intOf];omega
    obtain rfl:f=g.length:=by omega
    rw[qU] at G;have ah:=y.size;have ai:d.length<=1000:=(by have:=G.1;omega);have aj:=X (aq d G);have a4:e.length<=2000:=(by have:=O.1;rw[yD] at this;omega);obtain⟨vs,g,H⟩:=HO;have f:=X g;have Q:=X H;have aa:=X (λag=>vT f (u:=wr.alloc ag) (λx hx=>(zL _ _ _ (by have:=(kO f x hx).2;omega)).trans (y.block x (kO f x hx).2)));have Hx:Hid (fH (λb=>((p b\/w.heap.size<=b/\b<c.heap.size)\/c.heap.size<=b)/\(Value.slice B e.length C).ownBlock≠some b) wr d (.slice t d.length v)):=by
     have hq:∀b,((p b\/w.heap.size<=b/\b<c.heap.size)\/I.heap.size<=b)->b<wr.heap.size->(((p b\/w.heap.size<=b/\b<c.heap.size)\/c.heap.size<=b)/\(Value.slice B e.length C).ownBlock≠some b)/\wr.heap[b]? =wr.heap[b]?:=λb q _=>by
      refine⟨⟨?_,λs=>?_⟩,rfl⟩
      .rcases q with h|h
       .exact jD h
       exact jE (by omega)
      have h8:=kO f b s;rcases q with (h|h)|h
      .have:=ad b h;omega
      .omega
      omega
     exact⟨t,v,rfl,ai,eV (Iy dL HS) hq (λx u=>dL _ _ _ _ x u hq)⟩
    clear g H
    go_wp2_with (at_builtin
                 go_must (refine Lu Ar rfl (.tmp 32) (.tmp 34) rfl rfl (aa _) rfl rfl (jJ 0 rfl) rfl (by omega) (by simp;omega) ?_)
                 intro v' w3 g t v;obtain⟨ak,al,rfl⟩:=zF g;obtain⟨H,ag⟩:=Nc cM ap y f Q Hx g t v;have a2:=X H;have a3:=X (E.trans ag)
                 clear g t v H ag f Q aa Hx)
    go_roundw
    case rel=>exact⟨b+1,e++[d],ak,al,by omega,by go_num,by rw[qB];rfl,aj,by rw[qB] at*;exact a2,a3⟩
    case measure=>simp[intOf];omega
  obtain rfl:b=A.length:=by omega
  rw[qU] at O;have d:=X (Iy cM HO);have f:=X (GP HO);have g:=X (Z.trans (E.mono Z.size));go_wp2;go_ret;exact⟨⟨e,B,C,rfl,f,O,eV d (λr l _=>⟨by rcases l with (h|h)|h;exact jD h;exact jE h.1;exact jE (by omega),rfl⟩) (λx u=>cM _ _ _ _ x u (λr l _=>⟨by rcases l with (h|h)|h;exact jD h;exact jE h.1;exact jE (by omega),rfl⟩))⟩,g⟩
def JB{g o:kE}(h:mJ g o):mJ o g:=λv t u a b=>(h v u t b a).symm
def Tt(g:kE):mJ g g:=λv t u b a=>by rw[b] at a;exact kT a
def cF(a:List (List kE)):Prop:=∃c:Nat->kE,(∀(i:Nat)(b:List kE),a[i]? =some b->c i∈b)/\∀i j,i<a.length->j<a.length->mJ (c i) (c j)
def Gz(g:kE)(a:List (List kE)):Prop:=∃c:Nat->kE,(∀(i:Nat)(b:List kE),a[i]? =some b->c i∈b/\mJ g (c i))/\∀i j,i<a.length->j<a.length->mJ (c i) (c j)
def QM:cF []:=⟨λ_ _=>none,λi a h=>by simp at h,λi j h=>by simp at h⟩
def QL{j:kE}{a e:List (List kE)}(h:Ay j a e):cF e↔Gz j a:=by
 have p:∀{i:Nat},i<a.length->∃b c,a[i]? =some b/\e[i]? =some c/\uM j b c:=λ {i}d=>⟨a[i],e[i]'(h.1▸d),jO _,jO _,h.2 i _ _ (jO _) (jO _)⟩;constructor
 .rintro⟨k,l,m⟩
  refine⟨k,λi b d=>?_,λi n=>by rw[<-h.1];exact m i n⟩;obtain⟨q,c,f,g,o⟩:=p (Zl d);rw[d] at f;obtain rfl:=kT f;exact(o.2 _).1 (l i c g)
 rintro⟨k,l,m⟩;refine⟨k,λi c d=>?_,λi n=>by rw[h.1];exact m i n⟩;obtain⟨b,c,f,g,o⟩:=p (by rw[<-h.1];exact(Zl d));rw[d] at g;obtain rfl:=kT g;exact(o.2 _).2 (l i b f)
def Nz{a:List (List kE)}:(a.take k++a.drop (k+1))[n]? =if n<k then a[n]? else a[n+1]?:=by
 rw[<-Sf,List.getElem?_eraseIdx]
def QK{a:List (List kE)}{o:List kE}(p:a[k]? =some o):cF a↔∃g,g∈o/\Gz g (a.take k++a.drop (k+1)):=by
 have q:=(Zl p);have t:(a.take k++a.drop (k+1)).length=a.length - 1:=by rw[qB,yD,tQ];omega
 constructor
 .rintro⟨c,e,h⟩
  refine⟨c k,e k o p,λi=>if i<k then c i else c (i+1),λi l b=>?_,λi j f n=>?_⟩
  .rw[Nz] at b
   by_cases d:i<k
   .rw[jB d] at b
    simp only[jB d];exact⟨e i l b,h k i q (by omega)⟩
   rw[jC d] at b;simp only[jC d];exact⟨e (i+1) l b,h k (i+1) q (Zl b)⟩
  rw[t] at f n;have r:∀i,i<a.length - 1->∃m,m<a.length/\(if i<k then c i else c (i+1))=c m:=λi f=>by
   by_cases d:i<k
   .exact⟨i,by omega,by rw[jB d]⟩
   exact⟨i+1,by omega,by rw[jC d]⟩
  obtain⟨m,s,u⟩:=r i f;obtain⟨v,w,x⟩:=r j n;show mJ (if i<k then c i else c (i+1)) (if j<k then c j else c (j+1));rw[u,x];exact h m v s w
 rintro⟨g,b,c,e,h⟩;have r:∀(i:Nat),i<a.length - 1->mJ g (c i):=λi f=>by
  have d:i<(a.take k++a.drop (k+1)).length:=by omega
  exact(e i _ (jO d)).2
 refine⟨λi=>if i<k then c i else if i=k then g else c (i - 1),λi l m=>?_,λi j f n=>?_⟩
 .by_cases d:i<k
  .simp only[jB d]
   exact(e i l (by rw[Nz,jB d];exact m)).1
  by_cases s:i=k
  .subst s
   rw[p] at m;obtain rfl:=kT m;simp only[jC d,jB];exact b
  simp only[jC d,jC s];refine(e (i - 1) l ?_).1;rw[Nz,jC (by omega),show i - 1+1=i by omega];exact m
 have b:∀i,i<a.length->(if i<k then c i else if i=k then g else c (i - 1))=g\/∃m,m<a.length - 1/\(if i<k then c i else if i=k then g else c (i - 1))=c m:=λi f=>by
  by_cases d:i<k
  .exact jE ⟨i,by omega,by rw[jB d]⟩
  by_cases l:i=k
  .exact jD (by rw[jC d,jB l])
  exact jE ⟨i - 1,by omega,by rw[jC d,jC l]⟩
 show mJ (if i<k then c i else if i=k then g else c (i - 1)) (if j<k then c j else if j=k then g else c (j - 1));rcases b i f with f|⟨m,l,f⟩<;>rcases b j n with i|⟨n,j,i⟩<;>rw[f,i]
 .exact Tt g
 .exact r n j
 .exact JB (r m l)
 exact h m n (by omega) (by omega)
def NP{b:List (List kE)}(r:zO p (fH p w) w b (some (D k n)))(z:b.length<=m)(A:i<b.length):
 ∃s c f,(∀a:N,(Instr.slice 182 (Zz k n b.length m) none (some (Y (i:Int))) none).run Zf a=.ok (Zz k n i m) a)
  /\(∀a:N,(Instr.slice 182 (Zz k n b.length m) (some (Y ((i:Int)+1))) none none).run Zf a=.ok (.slice s (b.length - (i+1)) (m - (i+1))) a)
  /\oI p w (Zz k n i m) (b.take i) c/\oI p w (.slice s (b.length - (i+1)) (m - (i+1))) (b.drop (i+1)) f:=by
 have t:Zf.underlying 182=some (.slice (Zf.elem 182)):=by kernel_rfl
 have d:∀w:N,(sizeOf (Zf.elem 182)).run Zf w=.ok 1 w:=λw=>by kernel_rfl
 have v:=λa:N=>run_slice_h a 182 (some (D k n)) b.length m t .i64 (i:Int) (by omega) (by omega);have g:=λa:N=>run_slice_l a 182 (some (D k n)) b.length m t .i64 ((i:Int)+1) (by omega) (by omega);have h:((i:Int)+1).toNat=i+1:=by omega
 obtain⟨c,j⟩:=jAa i (by omega) r;have l:∀a:N,(Instr.slice 182 (Zz k n b.length m) none (some (Y (i:Int))) none).run Zf a=.ok (Zz k n i m) a:=λa=>by
  rw[v a,d];simp[sliced,Addr.add]
 by_cases x:i+1<b.length
 .obtain⟨f,e⟩:=ZZ x r
  refine⟨some ⟨k,n+(i+1),none⟩,c,f,l,λa=>?_,j,e⟩;rw[g a,d,h];have y:¬m=i+1:=by omega
  simp[sliced,y,Addr.add]
 have u:b.length=i+1:=by omega
 have hd:b.drop (i+1)=[]:=by rw[<-u,dX]
 have e:∀o q:Nat,oI p w (Zz o q (b.length - (i+1)) (m - (i+1))) (b.drop (i+1)) []:=λo q=>by
  rw[hd,u,wJ];exact⟨jE ⟨o,q,_,rfl,rfl,λo q o=>by simp at o,λq o=>by cases o⟩,rfl⟩
 by_cases o:m=i+1
 .refine⟨some (D k n),c,[],l,λa=>?_,j,e _ _⟩
  rw[g a,d,h];simp[sliced,o]
 refine⟨some ⟨k,n+(i+1),none⟩,c,[],l,λa=>?_,j,e _ _⟩;rw[g a,d,h];simp[sliced,o,Addr.add]
theorem ON(a:Zy)(w:N):(callFunc 163 a).run Zf w=.ok (.enter 163 a) w:=by kernel_rfl
def QO{b:List (List kE)}{r:kE}(L:k<b.length)(R:b.length<=1000)(M:b.length<=i)(B:∀k,p k->k<w.heap.size)(C:pR r)(E:zK p w n m r)(f:zO p (fH p w) w b a)(F:w.cell? ⟨j,0,none⟩=some (.slice a b.length i))(G:w.cell? ⟨n1,0,none⟩=some (Y (k:Int)))
 (H:∀(I:Zp)(d:List (List kE))(J:Zo)(K:Nat)(c:N),d.length+1=b.length->d.length<=K->zO I (fH I c) c d J->Calls Zf 134 #[.slice J d.length K] c λg O=>fJ (cF d) g/\Zb c O):
 Calls Zf 163 #[.map (some n),.pointer (some ⟨j,0,none⟩),.pointer (some ⟨n1,0,none⟩)] w λg c=>fJ (Gz r (b.take k++b.drop (k+1))) g/\Zb w c:=by
 obtain⟨h,l,rfl⟩:=rM f (by omega);obtain⟨s,S,U,V,W,t,u⟩:=NP f M L;have Z:IntKind.i64.wrap ((k:Int)+1)=(k:Int)+1:=iS _ (by omega) (by omega);have v:(b.take k).length=k:=by rw[yD];omega
 have x:(b.drop (k+1)).length=b.length - (k+1):=tQ
 have HA:=X (λ(c:N)(q:Nat)(e:Zb w c)(y:c.cell? ⟨q,0,none⟩=some (.slice (some ⟨h,l,none⟩) k i))(q1:c.cell? ⟨q,1,none⟩=some (.slice s (b.length - (k+1)) (i - (k+1))))=>
  JC 2 C (E.below e) (by rw[v]) (by rw[x]) (λo q=>kV (B o q) e.size) (by omega) (by omega) y q1 ⟨Jf e t.src,nN (λy z=>cM _ _ _ _ y z (λo q A=>⟨q,e.block o A⟩)) t.jl⟩ ⟨Jf e u.src,nN (λy z=>cM _ _ _ _ y z (λo q A=>⟨q,e.block o A⟩)) u.jl⟩)
 have A:=X H;have aa:=X F;have ab:=X G;have q:Hid (∀c,Zb w c->c.cell? ⟨j,0,none⟩=some (.slice (some ⟨h,l,none⟩) b.length i)/\c.cell? ⟨n1,0,none⟩=some (Y (k:Int))):=λc e=>⟨jP e F,jP e G⟩;have y:Hid (∀d,Ay r (b.take k++b.drop (k+1)) d->d.length+1=b.length):=λd e=>by rw[e.1,qB,v,x];omega
 obtain⟨ac,e⟩:=Ze (b.take k++b.drop (k+1));rw[<-e] at HA y ⊢;have P:=X (HA (w.alloc (.cells #[.slice (some ⟨h,l,none⟩) k i,.slice s (b.length - (k+1)) (i - (k+1))] 182)).drew w.heap.size (xH (jG _ _)) (jJ 0 rfl) (jJ 1 rfl));have z:Hid (Zb w (w.alloc (.cells #[.slice (some ⟨h,l,none⟩) k i,.slice s (b.length - (k+1)) (i - (k+1))] 182)).drew):=xH (jG _ _);clear HA;clear e H f t u E C B v x
 go_in
 go_wp2_with fail
 go_region_held3 (λc=>c.cell? ⟨j,0,none⟩=some (.slice (some ⟨h,l,none⟩) b.length i)/\c.cell? ⟨n1,0,none⟩=some (Y (k:Int))) ((first|with_reducible exact q.out _ (zZ t)|with_reducible exact q.out _ (zZ e)|go_keep)) ((
  first
  |(go_at_call 164
    refine P.mono ?_;rintro g x ⟨⟨d,B,C,rfl,E,o,u⟩,v⟩;have e:=X (z.trans (v.mono z.size));have H:=X o;have Q:=X (A _ d B C x (y d o) E u)
    clear o u v)
  |(go_at_call 134
    refine Q.mono ?_;rintro g v ⟨⟨u,rfl,f⟩,o⟩;have t:=X (e.trans (o.mono e.size));have e:=X f
    clear o f)))
 go_wp2;go_ret;exact⟨⟨u,rfl,e.trans (QL H)⟩,t⟩
def Vv{d:List (List kE)}(P:d.length<=1000)(R:d.length<=k)(h:zO p (fH p w) w d a)
 (j:∀(A:Zp)(l:List (List kE))(B:Zo)(C:Nat)(f:N),l.length+1=d.length->l.length<=C->zO A (fH A f) f l B->Calls Zf 134 #[.slice B l.length C] f λm S=>fJ (cF l) m/\Zb f S):
 Calls Zf 134 #[.slice a d.length k] w λm f=>fJ (cF d) m/\Zb w f:=by
 by_cases U:d.length=0
 .obtain rfl:d=[]:=yM.1 U
  have V:=X QM;clear h j
  go_in
  go_wp2;go_ret;exact⟨Ao V,jG _ _⟩
 obtain⟨t,v,rfl⟩:=rM h (by omega);have ae:¬((d.length:Int)=0):=by omega
 obtain⟨n,e⟩:=Ze (w.alloc (.cells #[Zz t v d.length k] 182));have g:Zb w n:=e▸jG _ _;have W:n.heap.size=w.heap.size+1:=by rw[e];simp
 have o:zO (λb=>p b/\b<w.heap.size) (fH (λb=>p b/\b<w.heap.size) n) n d (some (D t v)):=eV h (λb i c=>⟨⟨i,c⟩,g.block b c⟩) (λx q=>cM _ _ _ _ x q (λb i c=>⟨⟨i,c⟩,g.block b c⟩));have E:Zq n w.heap.size 0 (Zz t v d.length k):=e▸jJ 0 rfl;have HS:=X (jCy k (by omega) (by omega) o);have y:=X o;have Z:=X j;have aa:=X e;have F:=X g;clear h o j e g
 go_in
 go_upto_region 1 with fail
 rw[<-aa.out]
 go_wp2_with fail
 refine HS.mono ?_;rintro m G ⟨⟨b,i,rfl⟩,rfl⟩;obtain⟨H,z⟩:=Zg i;obtain⟨q,I,ga,gc,rfl,af,J⟩:=cQ y z;obtain⟨r,s⟩:∃r,r=G.alloc (.cells #[Y (b:Int)] 3):=⟨_,rfl⟩;have g:Zb G r:=s▸jG _ _;have c2:=jP g E;have k2:r.cell? (D (w.heap.size+1) 0)=some (Y (b:Int)):=by rw[s,<-W];exact jJ 0 rfl
 have v2:=jP g I;have K:=X (F.trans (g.mono F.size));have ab:=K.size;have L:=X (eV y (λj e c=>⟨e,g.block j c⟩) (λx u=>cM _ _ _ _ x u (λj e c=>⟨e,g.block j c⟩)));have ac:=X c2;have ad:=X k2
 have M:=X (λf(o:kE)(bb O:Nat)q(_:o∈H)(hz:pR o)(_:O<=2000)(hW:zK (λb=>p b/\b<w.heap.size) f bb O o)=>
  QO i P R (λj e=>by have:=q.size;omega) hz hW (eV L (λj e c=>⟨e,q.block j c⟩) (λx u=>cM _ _ _ _ x u (λj e c=>⟨e,q.block j c⟩))) (jP q ac) (jP q ad) Z)
 have i:=X (MZ (Q:=λo=>Gz o (d.take b++d.drop (b+1))) H gc (by omega) ON M (eV J (λj e c=>⟨e,g.block j c⟩) (λx u=>dL _ _ _ _ x u (λj e c=>⟨e,g.block j c⟩))));have c:=X (QK z);have e:=X s;have q:(b:Int)<d.length:=by omega
 have u:(0:Int)<=b:=by omega
 clear s g I J z E y M HS L
 go_upto_region 4 with fail
 rw[<-e.out]
 go_wp2_with fail
 refine i.mono ?_;rintro m s ⟨⟨g,rfl,h⟩,b⟩;have j:=X (h.trans c.symm);have o:=X (K.trans (b.mono ab));clear h b i c;go_wp2;go_ret;exact⟨⟨g,rfl,j⟩,o⟩
def QW:∀(m:Nat)(p:Zp)(a:List (List kE))(b:Zo)(c:Nat)(w:N),a.length<=m->a.length<=1000->a.length<=c->zO p (fH p w) w a b->
 Calls Zf 134 #[.slice b a.length c] w λi d=>fJ (cF a) i/\Zb w d:=by
 intro m;induction m with
 |zero=>intro p a b c w j e f g;exact Vv e f g (λ_ h _ _ _ k=>by omega)
 |succ m l=>intro p a b c w j e f g;exact Vv e f g (λn h o q d k r s=>l n h o q d (by omega) (by omega) r s)
def nB(w:N)(g a:Nat)(c:Zn):Prop:=∃b,w.heap[g]? =some (.cells b 3 (0,0))/\c.length<=a/\a<=maxLen/\b.size=a/\∀(i:Nat)(z:Int),c[i]? =some z->b[i]? =some (Y z)
def nB.own(h:nB w n m r)(b:k<=n):qR k w (Zx n r.length m) r:=by
 obtain⟨c,d,e,f,j,g⟩:=h;refine⟨by simp,jE ⟨n,m,c,rfl,b,d,e,f,by omega,?_⟩⟩;apply oB;intro i;by_cases a:i<r.length
 .rw[eR (by omega),bZ,jO a]
  have:=g i _ (jO a);simpa using this
 rw[yZ (by rw[yD];omega),yZ (by simp;omega)]
def Qg(h:w.ownsRow k 3 1 (Zx n r.length m) r.length (r.map (Value.int .i64))):nB w n m r:=by
 rcases h.2 with⟨e,_⟩|⟨l,o,a,b,p,d,f,g,q,i⟩
 .cases e
 simp only[lH,qW,fG,and_true,true_and] at b;obtain⟨rfl,rfl⟩:=b;refine⟨a,d,f,g,by omega,λj z c=>?_⟩;have s:=(Zl c);have:(a.toList.take (r.length*1))[j]? =some (Y z):=by rw[i,bZ,c];rfl
 rw[eR (by omega)] at this;simpa using this
def YP{v:Zv}(h:w.ownsRow k g 1 v m U)(i:n<=k):w.ownsRow n g 1 v m U:=by
 refine⟨h.1,?_⟩;rcases h.2 with a|⟨b,c,d,e,j,f⟩
 .exact jD a
 exact jE ⟨b,c,d,e,by omega,f⟩
def nB.put(h:nB w k n r)(c:Nat)(l:r1.length=r.length):nB (Sort.putRow (Value.int .i64) (Sort.ahead w c) k 0 r1.toArray) k n r1:=by
 obtain⟨a,d,m,e,f,o⟩:=h;refine⟨Sort.putCells (Value.int .i64) 0 r1.toArray a,?_,by omega,e,by simp[Sort.putCells,f],λi z b=>?_⟩
 .simp[Sort.putRow,Sort.mapBlock,Gr,Sort.ahead,d,Sort.onCells]
 have g:=(Zl b);have j:i<a.size:=by omega
 simp only[Sort.putCells,Array.getElem?_mapIdx,Ly j,cO,kK,jY,true_and,Es,g,if_true,Nat.sub_zero];congr 2;simp[b]
def nB.take(h:nB w k n (r++r1)):nB w k n r:=by
 obtain⟨b,c,d,e,f,g⟩:=h;rw[qB] at d;exact⟨b,c,by omega,e,f,λi z a=>g i z (by rw[mY (Zl a)];exact a)⟩
def nB.block(h:nB w k n r)(a:u.heap[k]? =w.heap[k]?):nB u k n r:=by
 obtain⟨b,c,d⟩:=h;exact⟨b,by rw[a];exact c,d⟩
def CW(c:Sort.Holds (Value.int .i64) w k 0 r.toArray)(d:nB w k n r)(b:k<w.heap.size)(j:r.length<=2000):
 Calls Zf 38 #[Zx k r.length n] w λe a=>e=.returned (.tuple #[])/\xY k nZ w a/\Sort.Holds (Value.int .i64) a k 0 (r.mergeSort λx y=>decide (x<=y)).toArray/\nB a k n (r.mergeSort λx y=>decide (x<=y)):=by
 refine(Tryz.slices_Sort_int k 0 n r w c b (by omega)).mono ?_;rintro e a ⟨rfl,f,l,rfl⟩;refine⟨rfl,⟨rfl,rfl,rfl,by simp,λg g h _=>?_,λ_ i=>i.elim⟩,?_,?_⟩
 .rw[Sort.heap_grow_old _ _ (by simpa using g),Lh h];rfl
 .refine Sort.holds_grow _ _ _ _ _ _ (by simpa using b) (Sort.holds_putRow _ _ _ _ r.toArray _ c (by simp))
 exact(d.put f (by simp)).block (Sort.heap_grow_old _ _ (by simpa using b))
def Vb(b:Sort.Holds (Value.int .i64) w k 0 r.toArray)(c:nB w k n r)(d:r.length<=n)(j:r.length<=2000):
 Calls Zf 39 #[Zx k r.length n] w λe a=>e=.returned (Zx k (Lib.compact r).length n)/\xY k nZ w a/\jV a (Lib.compact r) (some (D k 0))/\nB a k n (Lib.compact r):=by
 refine(Tryz.slices_Compact_int k 0 n r w b (by omega) d).mono ?_;rintro e a ⟨rfl,q,rfl⟩;have l:=Cl r;refine⟨rfl,⟨rfl,rfl,rfl,by simp,λf f f _=>?_,λ_ h=>h.elim⟩,jE ⟨k,0,rfl,λi g=>?_⟩,?_⟩
 .rw[Lh f];rfl
 .have f:=Sort.cell?_putRow (Value.int .i64) (Sort.ahead w q) k 0 r.toArray (Lib.compact r++List.replicate (r.length - (Lib.compact r).length) 0).toArray b (by simp;omega) i (by simp;omega)
  rw[f];congr 1;simp[mY g,List.getD]
 exact nB.take (r1:=List.replicate (r.length - (Lib.compact r).length) 0) (c.put q (by simp;omega))
def ET(B:Nat)(a:Zn)(b:Int)(e:Ending)(c:N):Prop:=∃v,e=.returned (.tuple #[v,Y b])/\qR B c v a
def Tg(z:Nat)(c:Nat)(b:jV w r a)(A:InL w t.e a1)(m:kI r [t]=0->t.E<=120):
 Calls Zf 25 #[.agg #[.slice a r.length z],.agg (Zj t a1 c)] w λe C=>
  ET w.heap.size (lR r t) (kI r [t]) e C/\Zb w C:=by
 have af:∀(d:Fn)(first c:Zy)(w:N),(Instr.makeFunc d first c).run Zf w=.ok (.func d first c) w:=λ_ _ _ _=>rfl;have M:=X (λo1 o2 d=>qD d (qD o2 (qD o1 b)));have O:=X (λo1 o2 e=>sJ (n:=w.heap.size+1+1) (k:=c) e (by simp) trivial (jS o2 (jS o1 A)));have o:T.E.szL [t]=t.E:=by rw[T.F,T.P];omega
 have P:=X o;clear b o
 go_in
 go_wp2_with fail
 refine(Cj r a z [t] _ 1 _ (M _ _ _) (O _ _ _) (by simp)).mono ?_;rintro e b ⟨rfl,d⟩;have p:Zb w b:=(((jG _ _).alloc (by simp) _).alloc (by simp;omega) _).trans (d.mono (by simp;omega));have ag:w.heap.size+1<b.heap.size:=by have:=d.size;simp at this;omega
 have Q:jK b (w.heap.size+1) (Y t.v) (Y t.f) (Zk a1 t.e c):=((jK.new _ (by simp)).alloc _).below d;clear d;by_cases d:kI r [t]=0
 .have ah:=m d
  have f:lR r t=xR t:=by rw[lR,jB d]
  have j:=X f;have E:=X d;rw[d];obtain⟨d0,d1,d2,_,_,_⟩:=Q;have h:=lE (jI p A);have l:∀i g,jT (λk=>k<b.heap.size+2/\k≠b.heap.size) ((b.alloc (.cells #[Zd] i)).alloc (.cells (Zj t a1 c) g)) [t] (some (D (b.heap.size+1) 0)):=
   λi g=>sJ g (by simp) (by constructor<;>simp) (jS _ (kQ (λk g=>by omega) h))
  have g:∀o2,nC b.heap.size (b.heap.size+2) ((b.alloc (.cells #[Zd] 22)).alloc o2) []:=λo2=>
   nC.below ⟨Zd,bR b _,⟨rfl,jD ⟨rfl,rfl⟩⟩⟩ (jG _ _)
  have q:∀o2,mD b.heap.size (b.heap.size+2) uG ((b.alloc (.cells #[Zd] 22)).alloc o2):=λo2=>
   ⟨by simp;omega,by simp,λk i=>by
    rw[zL _ _ _ (by simp),Fp (bR b _)] at i;cases i⟩
  have x:=X l;have y:=X g;have i:=X q;clear h l g q d f
  go_wp2_with fail
  refine(Yb 1 (by omega) (by rw[P.out];omega) (i _) (x _ _) (y _)).mono ?_;rintro e g ⟨rfl,F,q⟩;have s:Zb w g:=((p.alloc (by omega) _).alloc (by simp;omega) _).trans (Below.jv q (by omega) (by simp;omega) (λk h=>by have:=(i _).jc k h;omega));have R:=q.size;simp at R;have ai:=Jo t;change nC b.heap.size (b.heap.size+2) g (gD t) at F;obtain⟨aj,u,v⟩:=F;obtain⟨k,h,rfl⟩:=zF v;have G:g.cell? (D b.heap.size 0)=some (.slice k (gD t).length h):=by simp[World.cell?,u]
  have Hv:=X u;have l:=X v;clear q u v i x y;clear m;by_cases i:(gD t).length=0
  .have q:lR r t=[]:=by
    rw[j.out,xR,yM.1 i,Mv];rfl
   have S:=X q;have U:Hid (qR w.heap.size g (.slice k 0 h) []):=by
    have u:=l.out;rw[yM.1 i] at u;exact YP u (by omega)
   rw[i] at G;clear i q
   go_wp2_with fail
   refine(Tryz.slices_Sort_int_none k h _).mono ?_;rintro e u ⟨rfl,rfl⟩
   go_wp2_with fail
   refine(Tryz.slices_Compact_int_empty k h _).mono ?_;rintro e V ⟨rfl,rfl⟩
   go_wp2_with fail
   go_ret2
   exact⟨by rw[S.out,E.out];exact⟨_,rfl,U⟩,s⟩
  have v:0<(gD t).length:=by omega
  obtain⟨W,ak,H,al,Z⟩:=l.form v;simp only[lH,true_and] at H;obtain⟨rfl,rfl⟩:=H;obtain⟨I,_,aa⟩:=Ft l v;have HH:=X I;have ab:=X (Qg l);have J:((gD t).mergeSort λx y=>decide (x<=y)).length=(gD t).length:=sK _;have q:=X J;clear I J i
  go_wp2_with fail
  refine(CW HH ab Z (by omega)).mono ?_;rintro e u ⟨rfl,i,I,J⟩;have ac:=X J;clear J;have am:=i.size;have an:u.cell? (D b.heap.size 0)=some (Zx W (gD t).length h):=by
   rw[kH (w:=g) (a:=(D b.heap.size 0)) (i.block b.heap.size (by omega) (by omega) (λJ=>J))];exact G
  have J:=X (s.trans (Below.jd (n:=w.heap.size) i (by omega) (by have:=s.size;omega)));have ad:=X I;clear i I
  go_wp2_with fail
  have i:=Vb ad ac (q.out▸aa) (by rw[q.out];omega);rw[q.out] at i;refine i.mono ?_;rintro e V ⟨rfl,I,K,L⟩;have ae:=X L;clear L;clear i;have i:lR r t=Lib.compact ((gD t).mergeSort λx y=>decide (x<=y)):=j;have x:=X i;have y:=X (J.trans (Below.jd (n:=w.heap.size) I (by omega) (by have:=J.size;omega)));have L:=X K;clear i I K
  go_wp2_with fail
  go_ret2
  exact⟨by rw[x.out,E.out];exact⟨_,rfl,ae.own (by omega)⟩,y⟩
 have o:(kI r [t] !=0)=true:=by simpa using d
 have f:lR r t=[]:=by rw[lR,jC d]
 have j:=X f;clear d f m
 go_wp2_with fail
 go_ret2
 exact⟨by rw[j.out];exact⟨_,rfl,rfl,jD ⟨rfl,rfl⟩⟩,p⟩
def jEo:rF 22 3 (Y 0) 8:=⟨by kernel_rfl,by kernel_rfl,rfl,by decide⟩
theorem Tryz.kb:Zf.underlying 58=some (.map 3 3):=by kernel_rfl
theorem Tryz.qo(w:N):(zeroValue 3).run Zf w=.ok (Y 0) w:=by kernel_rfl
def jDh{v:Zv}(h:qR k w v r):Cd w v r.length (r.map (Value.int .i64)):=by
 rcases h.2 with⟨b,c⟩|⟨g,d,n,b,_⟩
 .exact jD ⟨b,c,by rw[yM.1 c];rfl⟩
 by_cases e:0<r.length
 .obtain⟨f,i,l,_,_,m⟩:=fX h e
  exact jE ⟨f,0,i,l,by simp,λj u a=>by rw[kK];exact m j u a,λu a=>by
   obtain⟨z,_,rfl⟩:=bP.1 a
   rfl⟩
 have:r=[]:=yM.1 (by omega);subst this;exact jE ⟨g,0,d,b,rfl,λj u a=>by simp at a,λu a=>by cases a⟩
def Xi(h:xY n nZ w u)(a:k<=n)(b:k<=w.heap.size):Below k w u:=Below.jd h a b
def jC5(h:qR k w (.slice a r.length n) r)(i:k<=w.heap.size)(j:r.length<=2000):
 Calls Zf 38 #[.slice a r.length n] w λe b=>e=.returned (.tuple #[])/\qR k b (.slice a r.length n) (r.mergeSort λx y=>decide (x<=y))/\Below k w b:=by
 by_cases c:0<r.length
 .obtain⟨q,s,d,f,l,_⟩:=fX h c
  simp only[lH,true_and] at d;obtain⟨rfl,rfl⟩:=d;obtain⟨m,_,t⟩:=Ft h c;refine(CW m (Qg h) l j).mono ?_;rintro e b ⟨rfl,o,_,p⟩;have g:=p.own f;rw[sK] at g;exact⟨rfl,g,Xi o f i⟩
 obtain rfl:r=[]:=yM.1 (by omega);refine(Tryz.slices_Sort_int_none a n _).mono ?_;rintro e b ⟨rfl,rfl⟩;exact⟨rfl,by rw[Mv];exact h,jW _ _⟩
def MQ(h:qR k w (.slice a r.length n) r)(g:k<=w.heap.size)(i:r.length<=2000):
 Calls Zf 39 #[.slice a r.length n] w λe b=>e=.returned (.slice a (Lib.compact r).length n)/\qR k b (.slice a (Lib.compact r).length n) (Lib.compact r)/\Below k w b:=by
 by_cases c:0<r.length
 .obtain⟨p,q,d,f,s,_⟩:=fX h c
  simp only[lH,true_and] at d;obtain⟨rfl,rfl⟩:=d;obtain⟨j,_,l⟩:=Ft h c;refine(Vb j (Qg h) l i).mono ?_;rintro e b ⟨rfl,m,_,o⟩;exact⟨rfl,o.own f,Xi m f g⟩
 obtain rfl:r=[]:=yM.1 (by omega);refine(Tryz.slices_Compact_int_empty a n _).mono ?_;rintro e b ⟨rfl,rfl⟩;exact⟨rfl,h,jW _ _⟩
def lY(x:Lit):Zn:=Lib.compact ((xR x.2.1++xR x.2.2).mergeSort λx y=>decide (x<=y))
def Xr{x:Lit}:z∈lY x↔z∈xR x.2.1\/z∈xR x.2.2:=by
 have:=@rT [x] z;rw[yQ] at this;have e:yA [x]=xR x.2.1++xR x.2.2:=by simp[yA]
 rw[e,vD] at this;exact this
def UP(x:Lit):(lY x).Pairwise (·<·):=(Jw (Gi _).1).1
def UN(x:Lit):(lY x).length<=(xR x.2.1).length+(xR x.2.2).length:=by
 have a:=Cl ((xR x.2.1++xR x.2.2).mergeSort λx y=>decide (x<=y));rw[sK,qB] at a;exact a
def zW(c:Zc)(v:Int):Nat:=(c.filter λx=>decide (v∈lY x)).length
def eK(h:Int->Nat)(f:Int->Option Zv):Prop:=∀v,f v=if h v=0 then none else some (Y (h v:Int))
def jDm{x:Lit}(a:c[k]? =some x)(v:Int):zW (c.take (k+1)) v=zW (c.take k) v+if v∈lY x then 1 else 0:=by
 rw[zW,zW,vZ,a,Mp,qB];congr 1;by_cases h:v∈lY x<;>simp[h]
def jDk(c:Zc)(v:Int):zW c v<=c.length:=Bj _ _
def jEt(h:r.Pairwise (·<·))(c:r[k]? =some z):z∉r.take k:=by
 intro d;obtain⟨i,a⟩:=Bf d;have b:i<k:=by have:=(Zl a);rw[yD] at this;omega
 rw[eR b] at a;obtain⟨e,g⟩:=jZ.1 a;obtain⟨f,j⟩:=jZ.1 c;have:=Er.1 h i k e f b;omega
def MO{h:Int->Nat}{f:Int->Option Zv}(a:eK h f):eK (λv=>h v+if v=z then 1 else 0) (λj=>if j=z then some (Y ((h z:Int)+1)) else f j):=λv=>by
 by_cases e:v=z
 .subst e
  simp
 simp only[jC e,mG];exact a v
def Ux{h:Int->Nat}{f:Int->Option Zv}(a:eK h f)(z:Int):(f z).getD (Y 0)=Y (h z:Int):=by
 rw[a z];by_cases e:h z=0
 .rw[jB e,e];rfl
 rw[jC e];rfl
def Ob(h:yC w.heap.size k w u){v:Zv}(c:n≠k)(b:w.cell? (D n m)=some v):u.cell? (D n m)=some v:=by
 rw[kH (w:=w) (a:=(D n m)) (h.block n (kA b) c)];exact b
def EQ(a:Nat)(h:Int->Nat)(e:Ending)(c:N):Prop:=∃b n f,e=.returned (.map (some b))/\a<=b/\kU c b n f/\eK h f
def yC.under(h:yC k n w u)(b:n<=k):Below n w u:=⟨h.os,h.tape,h.output,h.size,λa c=>h.block a (by omega) (by omega)⟩
def yC.qw(h:yC w.heap.size k w u)(a:u.grownBy v (some k)):yC w.heap.size k w v:=⟨a.os.trans h.os,a.tape.trans h.tape,a.output.trans h.output,kN h.size a.size,λb c d=>(a.block b (kV c h.size) (λe=>d (kT e))).trans (h.block b c d)⟩
def UO{x:Lit}(b:(x.2.1.E<=120/\jQ r x.2.1)/\(x.2.2.E<=120/\jQ r x.2.2))(c:z∈lY x):0<=z/\z<=1000:=by
 rcases Xr.1 c with h|h
 .obtain⟨y,a,_,rfl⟩:=nK.1 h
  exact Ga b.1.2 y a
 obtain⟨y,a,_,rfl⟩:=nK.1 h;exact Ga b.2.2 y a
def jDj(o:Nat)(cc:Nat)(A:jV w r a)(hl:c.length<=8)(d:qC r c)(f:∀B,B.E<=120/\jQ r B->kI r [B]=0)(g:kR w c a1):
 Calls Zf 165 #[.agg #[.slice a r.length o],.slice a1 c.length cc] w λe h=>EQ w.heap.size (zW c) e h/\Zb w h:=by
 have k:=@run_makeMap Zf;obtain⟨p,b⟩:=Ze (w.alloc (.cells #[Zk a r o] 24));have i:Zb w p:=b▸jG _ _;have ai:p.heap.size=w.heap.size+1:=by rw[b];simp
 have j:Zq p w.heap.size 0 (Zk a r o):=b▸jJ 0 rfl;have S:=X A;have U:=X g;have aj:=X d;have V:=X f;have ak:=X b;have al:=X i;have am:=X j;clear A g d f b i j
 go_in
 go_upto_region 1 with fail
 rw[<-ak.out]
 go_wp2_with fail
 clear k
 go_loopw [18] (λi wr=>∃(k q:Nat)(t:Int->Option Zv),k<=c.length/\q<=240*k/\i=Y k/\Hid (kU wr (w.heap.size+1) q t)/\Hid (eK (zW (c.take k)) t)/\Hid (Below (w.heap.size+1) p wr)) (λi _=>c.length - (intOf i).toNat)
 case atStart=>exact⟨0,0,λ_=>none,jY _,jF _,rfl,X (by have b:=kU.made p;rw[ai] at b;exact b),X (λv=>by simp[zW]),X ((jG _ _).mono (by omega))⟩
 case round=>
  obtain⟨k,q,t,hk,hn,rfl,J,K,C⟩:=hrel;obtain⟨u,rfl⟩:=Ze wr;have ax:=J.lt;have d:=X (al.trans (C.mono (by omega)));by_cases an:k<c.length
  .obtain⟨ay,az,rfl⟩:=zN U (by omega)
   obtain⟨x,n⟩:=Zg an;obtain⟨W,L,a2,M,H,I,O,P,Q,R,Z,aa,ab⟩:=dZ U n;have k0:=jH d H;have k1:=jH d I;have k2:=jH d O;have k3:=jH d P;have k4:=jH d Q;have k5:=jH d R;have k6:=jH d Z;have ac:=X (jDm n);have j:=X (aj x (jU n));have a0:(k:Int)<c.length:=(by omega);have a3:(0:Int)<=k:=(by omega);obtain⟨l,g⟩:=Ze (u.alloc (.cells #[.bool x.1,Y x.2.1.v,Y x.2.1.f,Zk W x.2.1.e L,Y x.2.2.v,Y x.2.2.f,Zk a2 x.2.2.e M] 47));have f:Zb u l:=g▸jG _ _;have a4:l.heap.size=u.heap.size+1:=(by rw[g];simp);have ad:L7 l u.heap.size 0 x W L a2 M:=g▸L7.new _ rfl;have m:=X (d.trans (f.mono d.size))
   have F:Hid (∀h:N,Zb l h->Zq h w.heap.size 0 (Zk a r o)):=λh s=>jP s (by
    have b:u.cell? (D w.heap.size 0)=some (Zk a r o):=by
     rw[kH (w:=p) (a:=(D w.heap.size 0)) (C.out.block w.heap.size (by omega))];exact am
    exact jP f b)
   have y:=V _ j.1;have E:=V _ j.2;have z:=X (Tg o L (kD m S) (jI m aa) (λ_=>j.1.1));have G:=X (λ(h:N)(s:Zb l h)=>Tg o M (kD (m.trans (s.mono m.size)) S) (jI (m.trans (s.mono m.size)) ab) (λ_=>j.2.1));rw[y,lR,jB y] at z;rw[E,lR,jB E] at G;have ae:=X g;have ao:=X f;have af:=X ad;have a5:=Du x.2.1;have a6:=Du x.2.2;have a7:=j.1.1;have a8:=j.2.1;obtain⟨t0,t1,t2,t3,t4,t5,t6⟩:=ad;simp only[kK] at t1 t2 t3 t4 t5 t6;have g0:=F l (jW _ _);clear n aa ab H I O P Q R Z y E g f
   go_upto_region 5 with fail
   rw[<-ae.out];clear k0 k1 k2 k3 k4 k5 k6
   go_wp2_with fail
   refine z.mono ?_;rintro e w1 ⟨⟨v1,rfl,g⟩,f⟩;have O:=X (G w1 f);obtain⟨s0,s1,s2,P,Q,R,s6⟩:=af.below f;simp only[kK] at s1 s2 P Q R s6;have g1:=F w1 f;have s:=X g;have H:=X f;clear t0 t1 t2 t3 t4 t5 t6 g0 g f z G
   go_wp2_with fail
   refine O.mono ?_;rintro e w2 ⟨⟨v2,rfl,f⟩,n⟩;have G:=X (H.trans (n.mono H.size));obtain⟨a9,ba,rfl⟩:=zF s;obtain⟨bb,bc,rfl⟩:=zF f;have z:=X (vT s (λg A=>n.block g (kO s g A).2));have aa:=X (jDh f);have ab:=G.size;obtain⟨Z,I⟩:=Ze (xR x.2.1++xR x.2.2);have bd:Z.length<=240:=(by rw[I,qB];omega);have HZ:=X I;clear I;clear f n O s0 s1 s2 P Q R s6 g1
   go_wp2_with (at_builtin
                go_must (refine Rk jEo rfl (.tmp 36) (.tmp 37) rfl rfl z rfl aa (by omega) ab ?_)
                intro Q R I O _;have f:qR l.heap.size R Q Z:=(by rw[HZ.out,qR,qB,nP];exact I);obtain⟨ap,ah,rfl⟩:=zF f;have P:=X f;have n:=X (G.grown O ab (λag hj=>(kO z ag hj).1));have ag:=n.size;have HS:=X (jC5 P ag (by omega))
                clear I O f aa z)
   refine HS.mono ?_;rintro e w4 ⟨rfl,I,O⟩;have z:=X (n.trans O);have Q:=X I;have aq:=z.size;have f:=MQ (by rw[sK];exact Q) aq (by rw[sK];omega);rw[sK] at f;have R:Lib.compact (Z.mergeSort λx aa=>decide (x<=aa))=lY x:=(by rw[HZ.out];rfl);rw[R] at f;have aa:=X f;clear I O f R HS P n
   go_wp2_with fail
   refine aa.mono ?_;rintro e O ⟨rfl,f,n⟩;have ar:=X (z.trans n);have au:(lY x).length<=240:=(by have:=UN x;omega);have ag:=X (UP x);have ah:=X (λv(I:v∈lY x)=>UO j I);have I:=X f;clear f n aa Q z;obtain⟨f,Q⟩:=Ze (lY x);rw[<-Q] at au ag ah I ac ⊢;have P:=X ((ao).trans (ar.mono (by omega)));have be:=P.size;have av:=X (J.below P);have aw:Hid (∀(i:Nat)(z:Int),f[i]? =some z->∃g,ap=some (D g 0)/\l.heap.size<=g/\Zq O g i (Y z)):=λi z n=>by
    obtain⟨g,ap,e,R,bf,aa⟩:=fX I (by have:=(Zl n);omega);injection e with y E e3
    exact⟨g,y,R,aa i _ (by rw[bZ,n];rfl)⟩
   have bf:=C.size;clear Q I G H s af ae j m F
   go_upto_region 10 with fail
   go_loopw [44] (λj wr=>∃(m s:Nat)(i:Int->Option Zv),m<=f.length/\s<=q+m/\j=Y m/\Hid (kU wr (w.heap.size+1) s i)/\Hid (eK (λv=>zW (c.take k) v+if v∈f.take m then 1 else 0) i)/\Hid (yC O.heap.size (w.heap.size+1) O wr)) (λj _=>f.length - (intOf j).toNat)
   case atStart=>exact⟨0,q,t,jY _,jF _,rfl,av,X (by have b:=K.out;simpa using b),X (yC.refl _ _ _)⟩
   case round=>
    obtain⟨m,s,i,hm,bg,rfl,F,G,Q⟩:=hrel;have bh:=F.lt;by_cases ae:m<f.length
    .obtain⟨z,n⟩:=Zg ae
     obtain⟨g,rfl,bi,aa⟩:=aw m z n;have cz:=Ob Q (by omega) aa;have bj:=ah z (jU n);have I:=jEt ag n;obtain⟨H,g⟩:∃H:Nat,H=zW (c.take k) z:=⟨_,rfl⟩;have bk:H<=8:=(by rw[g];have:=jDk (c.take k) z;rw[yD] at this;omega);have R:=Ux G z;simp only[jC I,mG,<-g] at R;have af:=F.look (t:=58) Tryz.kb (Tryz.qo _) (k:=z) (by omega) (by omega);rw[R] at af;have bl:IntKind.i64.wrap ((H:Int)+1)=(H:Int)+1:=iS _ (by omega) (by omega);have ap:Hid (eK (λv=>zW (c.take k) v+if v∈f.take (m+1) then 1 else 0) (λj=>if j=z then some (Y ((H:Int)+1)) else i j)):=by
      have b:=MO (z:=z) G;simp only[jC I,mG,<-g] at b;intro v;rw[show f.take (m+1)=f.take m++[z] by rw[vZ,n];rfl];have j:=b v;by_cases e:v=z
      .subst e
       simp only[jC I,vD,vY,or_true,if_true,mG,<-g] at j ⊢;exact j
      simp only[vD,vY,e,or_false,if_false,mG] at j ⊢;exact j
     have bm:(m:Int)<f.length:=(by omega);have bn:(0:Int)<=m:=(by omega);clear aa n I R g
     go_wp2_with (at_mapUpdate;refine iR _ rfl _ _ _ 58 rfl 3 Tryz.kb (w.heap.size+1) s i rfl F (by unfold maxLen;omega) z (Y ((H:Int)+1)) (by first|rfl|simp[go_sem]) (by first|rfl|simp[go_sem]) (by omega) (by omega) ?_;intro z g j)
     have n:=X (Q.qw j)
     go_roundw
     case rel=>exact⟨m+1,s+1,_,by omega,by omega,by go_num,X g,ap,n⟩
     case measure=>simp[intOf];omega
    obtain rfl:m=f.length:=by omega
    rw[qU] at G;have m:Hid (eK (zW (c.take (k+1))) i):=by
     intro v;have b:=G v;rw[ac.out v];exact b
    have v:=X ((C.trans (P.mono (by omega))).trans (Q.under (by omega)))
    go_wp2_with fail
    go_roundw
    case rel=>exact⟨k+1,s,i,by omega,by omega,by go_num,F,m,v⟩
    case measure=>simp[intOf];omega
  obtain rfl:k=c.length:=by omega
  rw[qU] at K
  go_wp2_with fail
  go_ret;exact⟨⟨w.heap.size+1,q,t,rfl,by omega,J,K⟩,d⟩
theorem OO(a:Zy)(w:N):(callFunc 168 a).run Zf w=.ok (.enter 168 a) w:=by kernel_rfl
def NE(h:Int->Nat){f:Int->Option Zv}(t:T)(e:Zo)(g:Nat)(i: -9223372036854775808<=z)(j:z<=9223372036854775807)(a:kU w k n f)(b:eK h f)(l:w.cell? (D m 0)=some (.map (some k))):
 Calls Zf 168 #[.int .i64 z,.agg #[.int .i64 t.v,.int .i64 t.f,.slice e t.e.length g],Zr m] w λo p=>o=.returned (.bool (decide (h z=1)))/\Zb w p:=by
 have c:=λd=>(a.below (jG w d)).look Tryz.kb (Tryz.qo _) i j;rw[Ux b z] at c;have r:=kA l;obtain⟨H,d⟩:=Ze (h z);rw[<-d] at c ⊢;have q:Hid (((H:Int)==1)=decide (H=1)):=by show _=_;rw[eJ];simp;omega
 clear d a b
 go_in
 go_wp2;go_ret;exact⟨by first|rfl|(rw[<-q.out];rfl)|(rw[show decide (H=1)=decide ((H:Int)=1) from decide_eq_decide.2 (by omega)];rfl),jG _ _⟩
def bS(h:Int->Nat)(g:kE):kE:=λv=>if h v=1 then none else g v
def Xo{h:Int->Nat}{g:kE}(b:pR g):pR (bS h g):=λv u a=>by
 rw[bS] at a;by_cases e:h v=1
 .rw[jB e] at a;cases a
 rw[jC e] at a;exact b v u a
def tO.less{g:kE}{f:Int->Option Zv}{h:Int->Nat}(j:kU w k n f)(l:yC w.heap.size k w u)(c:tO p w g f):tO p u (bS h g) (λa=>if h a=1 then none else f a):=λv=>by
 by_cases e:h v=1
 .simp only[bS,jB e]
  exact⟨λ_=>trivial,λd b=>by cases b⟩
 simp only[bS,jC e];refine⟨(c v).1,λd b=>?_⟩;obtain⟨i,m,o,q⟩:=(c v).2 d b;obtain⟨v,⟨x,y,d,_⟩,_⟩:=j;refine⟨i,m,o,nM (λa r b s b=>⟨s,?_⟩) _ _ _ (jF _) q⟩;have s:a≠k:=λt=>by subst t;simp[World.cell?,d] at b
 rw[kH (w:=w) (a:=(D a r)) (l.block a (kA b) s)];exact b
def NU{q:kE}(h:Int->Nat){K:Int->Option Zv}(W:zK p w k n q)(a:kU w m i K)(d:eK h K)(b:w.cell? (D j 0)=some (.map (some m)))(Z:m≠k)(aa:j≠k):
 Calls Zf 167 #[.map (some k),.func (.func 168) #[] #[Zr j]] w λe l=>e=.returned (.tuple #[])/\zK p l k n (bS h q)/\yC w.heap.size k w l:=by
 obtain⟨g,f,⟨u,o,c⟩,r⟩:=W;have am:=o.lt;have ab:=a.lt;have an:=kA b;have ac:Hid (kU w k n f):=⟨u,o,c⟩;have C:=X c;have E:=X r;have ad:=X (λl(s:yC w.heap.size k w l)(x:Int)(t:T)(y:Zo)(z:Nat)(v: -9223372036854775808<=x)(A:x<=9223372036854775807)=>NE h t y z v A (a.same (s.block m ab Z)) d (Ob s aa b));have ao:=OO;have ae:=X g;clear c r a d b g
 go_in
 go_wp2_with (first|(at_range;refine wpList_range_own _ rfl _ 213 rfl 3 43 Tryz.jq Tryz.jj _ k n u rfl o ?_;intro w0 s B I)|go_in)
 go_frame
 have af:=(yC.refl w.heap.size k w).grown B (jF _) (λa b=>by cases b);have H0:Hid (∀a:Int,Maps.has u (.int .i64 a)=true->(f a).isSome=true):=λa b=>by rw[<-(C.out a).1];exact b
 go_loopw [8] (λ_ wr=>∃(g:DataW Zv)(c:Int->Option Zv)(left:Go.Lit->Bool)(d:Nat),Hid (wr.ranges Zf 3 Rv k w.heap.size n g left d)/\Hid (∀a:Int,Maps.has g (.int .i64 a)=(c a).isSome/\∀v,c a=some v->∀F,g.atKey (.int .i64 a) F=.held v)/\Hid (∀a:Int,left (.int .i64 a)=true->(c a).isSome=true)/\Hid (∀a:Int,(left (.int .i64 a)=true->c a=f a)/\(left (.int .i64 a)=false->c a=if h a=1 then none else f a))/\Hid (yC w.heap.size k w wr)) (λ_ wr=>wr.rangeLeft k w.heap.size)
 case atStart=>exact⟨u,f,_,_,X s,C,H0,X (λa=>⟨λ_=>rfl,λb=>by
  rw[(C.out a).1] at b
  cases r:f a with
  |none=>simp
  |some v=>rw[r] at b;cases b⟩),af⟩
 case round=>
  obtain⟨g,c,left,d,G,r,H,d,A⟩:=hrel;clear s B I o
  go_wp2_with (first|(at_next;refine Rl rfl _ rfl g left r H rfl G ?_ ?_)|go_in)
  .intro o
   have ag:Hid (zK p wr k n (bS h q)):=by
    refine⟨ae,λa=>if h a=1 then none else f a,?_,E.less ac A⟩;have e:=funext (λa=>(d a).2 (o a));rw[<-e];exact⟨g,G.owns,r⟩
   clear o
   go_wp2_with fail
   go_end0
   exact⟨rfl,ag,A⟩
  intro x v I L M O J P Q R ap ah;have B:=A.grown R A.size (λa b=>by cases b;exact jF _);have o:f x=some v:=by
   cases S:left (.int .i64 x) with
   |true=>rw[<-(d.out x).1 S];exact J
   |false=>
    have s:=(d x).2 S;rw[J] at s;by_cases e:h x=1
    .rw[jB e] at s;cases s
    rw[jC e] at s;exact s.symm
  obtain⟨t,s⟩:∃t,q x=some t:=by
   cases S:q x with
   |none=>rw[(E.out x).1 S] at o;cases o
   |some t=>exact⟨t,rfl⟩
  obtain⟨y,z,S, -⟩:=(E x).2 t s;obtain rfl:v=.agg #[.int .i64 t.v,.int .i64 t.f,Zk y t.e z]:=kT (o.symm.trans S);have U:=X (λo1=>ad (I.alloc o1) (B.trans (yC.A ((jG I o1).mono (by have:=B.size;omega)))) x t y z M O);have ai:=X (λ(l:N)(t:Zb I l)=>P.kept (Wt t) (by simp) (by simp));have V:=X (show L<wr.rangeLeft k w.heap.size by rw[G.out.left_eq];exact Q);have aq:=X o;have aj:=B.size;have ak:Hid (∀a:Int,(left (.int .i64 a) && !(Go.Lit.int .i64 a).sameKey (.int .i64 x))=true->(c a).isSome=true):=λa b=>H a (by rw[yY] at b;exact b.1);have al:=Ku M O;clear P Q R J S o s
  go_upto_region 3 with fail
  go_wp2_with fail
  refine(U _).mono ?_;rintro e S ⟨rfl,o⟩;have J:=(jG _ _).trans (o.mono (by simp));have y:=X (ai S J);have P:=X (B.trans (yC.A (J.mono aj)));clear o U ah;by_cases o:h x=1
  .have s:=iE o
   rw[s];have t:=X o;clear s o
   go_wp2_with (at_delete;refine wpList_delete_ranges _ rfl _ _ 213 3 rfl 43 Tryz.jq Tryz.jj _ k w.heap.size n _ _ _ rfl y _ _ rfl al ?_;intro w4 U Q ar ah;go_frame)
   have R:∀a:Int,a≠x->(Go.Lit.int .i64 a)≠(Go.Lit.int .i64 x):=λa e z=>e (by injection z)
   go_roundw
   case rel=>exact⟨_,(λa=>if a=x then none else c a),_,U,X Q,X (λa=>by
    by_cases e:a=x
    .subst e
     simp only[jB];exact⟨by rw[Maps.has_del_same];rfl,λv z=>by cases z⟩
    .simp only[jC e]
     rw[Maps.has_del_other (R a e)];exact⟨(r a).1,λv z F=>by rw[Maps.atKey_del_other (R a e)];exact(r a).2 v z F⟩),X (λa b=>by
    simp only[yY,Dm,Gw,beq_eq_false_iff_ne,ne_eq] at b;simp only[jC b.2]
    exact H a b.1.1),X (λa=>⟨λb=>by
     simp only[yY,Dm,Gw,beq_eq_false_iff_ne,ne_eq] at b;simp only[jC b.2];exact(d a).1 b.1.1,λb=>by
     by_cases e:a=x
     .subst e
      simp only[jB,t.out]
     simp only[jC e];have v:(a==x)=false:=(by simpa using e);simp only[Dm,v,Lz,Bool.and_true] at b
     exact(d a).2 b⟩),X (P.qw ah.grown)⟩
   case measure=>rw[Q.left_eq];have:=V.out;omega
  have s:=cX o;rw[s];have t:=X o;clear s o
  go_wp2_with fail
  go_roundw
  case rel=>exact⟨g,c,_,L,y,r,ak,X (λa=>⟨λb=>(d a).1 (by rw[yY] at b;exact b.1),λb=>by
   by_cases e:a=x
   .subst e
    rw[jC t.out]
    cases c:left (.int .i64 a) with
    |true=>exact(d a).1 c
    |false=>have g:=(d a).2 c;rw[jC t.out] at g;exact g
   have o:(a==x)=false:=(by simpa using e);simp only[Dm,o,Lz,Bool.and_true] at b
   exact(d a).2 b⟩),P⟩
  case measure=>rw[y.out.left_eq];exact V
section
variable {α:Type}
def Sw{E:Zp->N->α->Zv->Prop}(h:eX E){l:Zv}{d:List α}(i:sN p E g k w l d)(e:∀a,a<w.heap.size->p a\/k<=a->u.heap[a]? =w.heap[a]?):sN p E g k u l d:=by
 obtain⟨j,b,m⟩:=i;exact⟨j,vT b (λc f=>e c (kO b c f).2 (jE (kO b c f).1)),nN (λx v=>h _ _ _ _ x v (λa c f=>⟨c,e a f c.1⟩)) m⟩
def GQ{E:Zp->N->α->Zv->Prop}(d:eX E){l:Zv}{b:List α}(h:sN p E g k w l b)(e:∀a,p a->p1 a):sN p1 E g k w l b:=by
 obtain⟨f,i,j⟩:=h;exact⟨f,i,nN (λx v=>d _ _ _ _ x v (λa c _=>⟨⟨c.1.imp (e a) id,c.2⟩,rfl⟩)) j⟩
def UA{E:α->Zv->Prop}:∀{b:List α}{a:Nat},(∀(j:Nat)(x:α),b[j]? =some x->∃u,w.cell? (D k (a+j))=some u/\E x u)->∃c,gX E b c/\∀j u,c[j]? =some u->w.cell? (D k (a+j))=some u:=by
 intro b;induction b with
 |nil=>intro a _;exact⟨[],rfl,λj u e=>by simp at e⟩
 |cons x b f=>
  intro a h;obtain⟨u,e,g⟩:=h 0 x rfl
  obtain⟨c,i,l⟩:=f (λj y d=>by
   obtain⟨m,n,o⟩:=h (j+1) y (by rw[xS];exact d)
   exact⟨m,by rw[show a+1+j=a+(j+1) by omega];exact n,o⟩)
  refine⟨u::c,⟨u,c,rfl,g,i⟩,λj m d=>?_⟩
  cases j with
  |zero=>rw[vP] at d;obtain rfl:=kT d;exact e
  |succ j=>rw[xS] at d;rw[show a+(j+1)=a+1+j by omega];exact l j m d
end
def aP(h:Int->Nat)(a b:List kE):Prop:=(∀x,x∈b->∃g,g∈a/\x=bS h g)/\∀g,g∈a->∃x,x∈b/\mJ (bS h g) x
def aP.skip{h:Int->Nat}{c b:List kE}{g:kE}(d:aP h c b)(e:∃x,x∈b/\mJ (bS h g) x):aP h (c++[g]) b:=by
 refine⟨λx f=>?_,λy i=>?_⟩
 .obtain⟨j,a,k⟩:=d.1 x f
  exact⟨j,yT _ a,k⟩
 rcases vD.1 i with a|a
 .exact d.2 y a
 rw[vY] at a;rw[a];exact e
def aP.add{h:Int->Nat}{b c:List kE}{g:kE}(d:aP h b c):aP h (b++[g]) (c++[bS h g]):=by
 refine⟨λx a=>?_,λy e=>?_⟩
 .rcases vD.1 a with a|a
  .obtain⟨f,i,j⟩:=d.1 x a
   exact⟨f,yT _ i,j⟩
  rw[vY] at a;exact⟨g,by simp,a⟩
 rcases vD.1 e with a|a
 .obtain⟨x,e,f⟩:=d.2 y a
  exact⟨x,yT _ e,f⟩
 rw[vY] at a;rw[a];exact⟨bS h g,by simp,Tt _⟩
def rD(B:Nat)(a:N)(b c n m:Nat)(q:Nat):Prop:=B<=q/\q<a.heap.size/\∀j,m<=j->j<n->a.cell? (D b (c+j))≠some (.map (some q))
def rD.next(h:rD k w n m i j n1):rD k w n m i (j+1) n1:=⟨h.1,h.2.1,λa b=>h.2.2 a (by omega)⟩
structure mF (lb:Nat) (w2:N) (rb ro m:Nat) (wi:N):Prop where
 os:wi.os=w2.os
 tape:wi.tape=w2.tape
 output:wi.output=w2.output
 size:w2.heap.size<=wi.heap.size
 block:∀q,q<w2.heap.size->q≠lb->(∀j,j<m->w2.cell? (D rb (ro+j))≠some (.map (some q)))->wi.heap[q]? =w2.heap[q]?
def mF.refl(b:Nat)(a:N)(c d:Nat):mF b a c d 0 a:=⟨rfl,rfl,rfl,jF _,λ_ _ _ _=>rfl⟩
def mF.cell{p:Zp}{b:List kE}(h:mF k w n m i u)(e:zO p (gB p w) w b (some (D n m)))(q:j=b.length)(r:i<=j){v:Zv}(f:n1≠k)(c:w.cell? (D n1 n2)=some v):u.cell? (D n1 n2)=some v:=by
 rw[kH (w:=w) (a:=(D n1 n2)) (h.block n1 (kA c) f (λd g g=>?_))]
 .exact c
 have l:d<b.length:=by omega
 obtain⟨s,d,_,t,x,rfl,⟨_,y,⟨z,⟨A,B,o,_⟩,_⟩,_⟩,_⟩:=cQ e (jO l);rw[g] at d
 cases d
 simp[World.cell?,o] at c
def jEz{c:List kE}{g:kE}(h:mF k w m i j u)(l:zO (λa=>n<=a) (gB (λa=>n<=a) w) w c (some (D m i)))(o:Gq w c.length (some (D m i)))(G:k<n)(x:j<c.length)(p:w.cell? (D m (i+j))=some (.map (some n1)))(q:zK (λa=>n<=a) w n1 n2 g):zK (rD n w m i c.length (j+1)) u n1 n2 g:=by
 have r:=q.lt;obtain⟨s,y,z,t⟩:=q;have H:=s;refine⟨⟨s,r,λd f e b=>o m i j d _ rfl (by omega) e p b⟩,y,z.same (h.block n1 r (by omega) (λd f b=>o m i d j _ rfl f x b p)),λv=>⟨(t v).1,λf A=>?_⟩⟩;obtain⟨B,C,E,F⟩:=(t v).2 f A;refine⟨B,C,E,nM (λa f f v f=>⟨⟨v,kA f,λd _ e b=>?_⟩,h.cell l rfl (by omega) (by have:n<=a:=v;omega) f⟩) _ _ _ (jF _) F⟩;obtain⟨v,Kp,_,A,I,rfl,⟨_,J,⟨K,⟨L,M,d,_⟩,_⟩,_⟩,_⟩:=cQ l (jO e);rw[b] at Kp
 cases Kp
 simp[World.cell?,d] at f
end Go.Proofs.YtohdnhlfpldbmaaGreat
