import Derived.Test.YtohdnhlfpldbmaaGreatJoined8
set_option maxRecDepth 100000
set_option maxHeartbeats 32000000
set_option linter.all false
namespace Go.Proofs.YtohdnhlfpldbmaaGreat
open Go.RowKit Go.Maps
open Go.Proofs.Tryz renaming prog->Zf
attribute [local go_sem ↓] Go.wp_at_zero Go.wp_at_succ
variable {k n m i j n1 n2 n3 n4 n5 n6 n7 n8 n9:Nat}{w u v w1 w2 w3 w4 w5:N}{x y x1 x2 x3 x4 x5 x6 x7 x8 x9:Value}{r r1 r2:Zn}{p p1 p2:Zp}{z z1 z2 z3:Int}{a a1 a2 a3 a4:Zo}{t s t1 t2:T}{c d c1 c2:Zc}{g g1 g2:TypeId}{b b1 b2:Zs}{l l1:Zt}{U V U1 U2:Zu}{B B1:Bool}
def jAx(n:Nat)(k:n<=1000000):∃a:Zy,(∀j,j<n->a[j]? =some (Zd))/\∀w:N,(Instr.makeSlice 182 (Y (n:Int)) (Y (n:Int))).run Zf w=.ok (Zx w.heap.size n n) (w.alloc (.cells a 212)):=by
 obtain⟨i,d,b⟩:=bQ.1 Ar.info;simp only[bG] at b;obtain⟨e,f,g⟩:=b;have c:=λw=>run_make w 182 212 i _ Ar.under d e .i64 .i64 n n (by omega) (mE _) (by rw[g];omega) (by omega);simp only[pK,f] at c;refine⟨_,?_,c⟩;intro j h;simp[madeCells,h,Nat.mod_one,Value.cells]
def wN(d:Zn)(c e:Zc)(f:List (List kE)):Prop:=∀(i:Nat)(l:Lit)(a:List kE),c[i]? =some l->f[i]? =some a->∃b,rQ d l e b/\aP (zW c) b a
structure OL (B lb n k:Nat) (Ls:List (List kE)) (w:N):Prop where
 len:Ls.length=k
 has:∀(j:Nat) (x:List kE),Ls[j]? =some x->∃u,w.cell? (D lb j)=some u/\fH (λq=>B<=q/\q≠lb) w x u
 nil:∀j,k<=j->j<n->w.cell? (D lb j)=some (Zd)
 free:∀j,w.frozen? (D lb j)=false
def mF.low{q:Nat}{a:List kE}(h:mF k w m i j u)(d:0<a.length->zO (λb=>n<=b) (gB (λb=>n<=b) w) w a (some (D m i)))(o:j<=a.length)(p:n<=w.heap.size)(r:q<n)(e:q≠k):u.heap[q]? =w.heap[q]?:=by
 refine h.block q (by omega) e (λf c g=>?_);obtain⟨s,c,_,t,v,rfl,l,_⟩:=cQ (d (by omega)) (jO (show f<a.length by omega));rw[g] at c
 cases c
 have:=l.1;simp only at this;omega
def mF.step(h:mF k w m i j u)(a:yC u.heap.size n u v)(d:w.cell? (D m (i+j))=some (.map (some n))):mF k w m i (j+1) v:=
 ⟨a.os.trans h.os,a.tape.trans h.tape,a.output.trans h.output,kN h.size a.size,λq b e c=>(a.block q (kV b h.size) (λf=>c j (by omega) (f▸d))).trans (h.block q b e (λb e=>c b (by omega)))⟩
def mF.below(h:mF k w n m i u)(a:Below w.heap.size u v):mF k w n m i v:=
 ⟨a.os.trans h.os,a.tape.trans h.tape,a.output.trans h.output,kN h.size a.size,λq b c d=>(a.block q b).trans (h.block q b c d)⟩
def mF.set(h:mF k w n m i u)(o:Nat)(v:Zv):mF k w n m i (u.setCell (D k o) v):=
 ⟨h.os,h.tape,h.output,by simpa using h.size,λq b a c=>(vL _ _ _ _ a).trans (h.block q b a c)⟩
theorem OQ(a:Zy)(w:N):(callFunc 169 a).run Zf w=.ok (.enter 169 a) w:=by kernel_rfl
def JK(M:Nat)(cc:Nat)(dc:Nat)(S:jV w r a)(hl:c.length<=8)(cd:d.length<=8)(f:qC r c)(h:∀af,af.E<=120/\jQ r af->kI r [af]=0)(g:kR w c a1)(hd:kR w d a2):
 Calls Zf 135 #[.agg #[.slice a r.length M],.slice a1 c.length cc,.slice a2 d.length dc] w λz U=>(∃l o,z=.returned (.slice o l.length l.length)/\l.length=c.length/\wN r c d l/\zO (λk=>w.heap.size<=k) (fH (λk=>w.heap.size<=k) U) U l o)/\Zb w U:=by
 obtain⟨W0,b⟩:=Ze (w.alloc (.cells #[.slice a r.length M] 24));have e:Zb w W0:=b▸jG _ _;have ce:W0.heap.size=w.heap.size+1:=by rw[b];simp
 have p:W0.cell? ⟨w.heap.size,0,none⟩=some (.slice a r.length M):=b▸jJ 0 rfl;obtain⟨an,i,t⟩:=jAx c.length (by omega);have HS:=X (jDj M cc (kD e S) hl f h (kL e g));have R:=X i;have Hg:=X S;have Hc:=X g;have Hd:=X hd;have ba:=X f;have bb:=X b;have bc:=X e;have bd:=X p;clear S g hd f h b e i
 go_in
 go_upto_region 1 with fail
 rw[<-bb.out]
 go_wp2_with fail
 refine HS.mono ?_;rintro z b ⟨⟨O,mn,fc,rfl,cf,n,q⟩,i⟩;have cg:=i.size;have ch:=n.lt;obtain⟨I,f⟩:=Ze (b.alloc (.cells #[.map (some O)] 58));have m:Zb b I:=f▸jG _ _;have ao:I.heap.size=b.heap.size+1:=by rw[f];simp
 have s:I.cell? ⟨b.heap.size,0,none⟩=some (.map (some O)):=f▸jJ 0 rfl;obtain⟨G,e⟩:=Ze (I.alloc (.cells an 212));have g:Zb I G:=e▸jG _ _;have ci:G.heap.size=I.heap.size+1:=by rw[e];simp
 have be:Hid (Zb w G):=(bc.trans (i.mono (by omega))).trans ((m.mono (by omega)).trans (g.mono (by omega)));have bf:=X ((n.below m).below g);have bg:=X q;have bh:=X (jP g s);have bi:Hid (G.cell? ⟨w.heap.size,0,none⟩=some (.slice a r.length M)):=jP g (jP m (jP i bd));have bj:Hid (OL w.heap.size (b.heap.size+1) c.length 0 [] G):=⟨rfl,λj x h=>by simp at h,λj _ A=>by rw[e,<-ao];have h9:=bR I (.cells an 212);rw[World.cell?,h9];have h8:=R j A;simp[h8],λj=>by rw[e,<-ao];exact iG (bR I _) j⟩;have bk:=X f;have bl:=X e;clear n q i f m s e g HS R p
 go_upto_region 2 with fail
 rw[<-bk.out]
 go_upto_region 3 with fail
 rw[<-bl.out]
 go_wp2_with fail
 clear t
 go_loopw [21] (λJ wr=>∃(k:Nat)(l:List (List kE)),k<=c.length/\J=Y k/\Hid (OL w.heap.size (b.heap.size+1) c.length k l wr)/\Hid (wN r c d l)/\Hid (Below (b.heap.size+1) G wr)) (λJ _=>c.length - (intOf J).toNat)
 case atStart=>exact⟨0,[],jY _,rfl,bj,X (λJ ap g _ h=>by simp at h),X (jW _ _)⟩
 case round=>
  obtain⟨k,l,hk,rfl,i,aq,H⟩:=hrel;obtain⟨s,rfl⟩:=Ze wr;have cj:=H.size;have C:=X (be.trans (H.mono (show w.heap.size<=b.heap.size+1 by omega)));by_cases ar:k<c.length
  .obtain⟨ck,cn,rfl⟩:=zN Hc (by omega)
   obtain⟨x,K⟩:=Zg ar;obtain⟨au,c1,av,c2,m,n,p,q,u,v,y,B,E⟩:=dZ Hc K;have V:=jH C m;have k1:=jH C n;have k2:=jH C p;have k3:=jH C q;have k4:=jH C u;have k5:=jH C v;have k6:=jH C y;have aw:=X (ba x (jU K));have co:(k:Int)<c.length:=(by omega);have cp:(0:Int)<=k:=(by omega);obtain⟨t,e⟩:=Ze (s.alloc (.cells #[.bool x.1,Y x.2.1.v,Y x.2.1.f,.slice au x.2.1.e.length c1,Y x.2.2.v,Y x.2.2.f,.slice av x.2.2.e.length c2] 47));have f:Zb s t:=e▸jG _ _;have cq:t.heap.size=s.heap.size+1:=(by rw[e];simp);have bn:L7 t s.heap.size 0 x au c1 av c2:=e▸L7.new _ rfl;have ac:=X (C.trans (f.mono C.size))
   have g0:t.cell? ⟨w.heap.size,0,none⟩=some (.slice a r.length M):=jP f (by
    rw[kH (w:=G) (a:=⟨w.heap.size,0,none⟩) (H.out.block w.heap.size (by omega))];exact bi)
   have F:=X (jE2 M c1 c2 dc ⟨by have:=aw.1.1;omega,by have:=aw.2.1;omega⟩ (by omega) (kD ac Hg) (jI ac B) (jI ac E) (kL ac Hd));have Hx:=X K;have bo:=X e;have bp:=X f;obtain⟨t0,L,P,W,Z,t5,t6⟩:=bn;simp only[kK] at L P W Z t5 t6;clear K B E m n p q u v y e f
   go_upto_region 6 with fail
   rw[<-bo.out];clear V k1 k2 k3 k4 k5 k6
   go_wp2_with fail
   refine F.mono ?_;rintro z e ⟨⟨f,ra,rc,rfl,y,cr,B,q⟩,n⟩;have ad:=n.size;obtain⟨p,v,m⟩:∃p v,0<f.length->ra=some ⟨p,v,none⟩:=by
    by_cases u:0<f.length
    .obtain⟨p,v,E⟩:=rM q u
     exact⟨p,v,λ_=>E⟩
    exact⟨0,0,λh=>jN h u⟩
   have E:=X (bp.trans (n.mono (by omega)));have bq:=X y;have br:=X (λu:0<f.length=>(show Gq e f.length (some ⟨p,v,none⟩) by rw[<-m u];exact B));have V:=X (λu:0<f.length=>(show zO (λk=>t.heap.size<=k) (gB (λk=>t.heap.size<=k) e) e f (some ⟨p,v,none⟩) by rw[<-m u];exact q));have bs:=X m;have bt:Hid (kU e O mn fc):=(bf.same (H.block O (by omega))).below E
   have bu:Hid (e.cell? ⟨b.heap.size,0,none⟩=some (.map (some O))):=jP E (by
    rw[kH (w:=G) (a:=⟨b.heap.size,0,none⟩) (H.out.block b.heap.size (by omega))];exact bh)
   have ax:b.heap.size+1<s.heap.size:=(by omega);have ag:Hid (∀j,e.cell? ⟨b.heap.size+1,j,none⟩=s.cell? ⟨b.heap.size+1,j,none⟩):=λj=>kH (w:=s) (a:=⟨b.heap.size+1,j,none⟩) (E.block (b.heap.size+1) ax);have bv:Hid (∀j,e.frozen? ⟨b.heap.size+1,j,none⟩=false):=λj=>by rw[gZ (w:=s) (a:=⟨b.heap.size+1,j,none⟩) (E.out.block (b.heap.size+1) ax)];exact i.free j
   have bw:Hid (e.cell? ⟨b.heap.size+1,k,none⟩=some (.slice none 0 0)):=(by show _=_;rw[ag.out k];exact i.nil k (jF _) ar);clear y B q m n F t0 L P W Z t5 t6 g0
   go_upto_region 7 with fail
   go_loopw [31] (λj wr=>∃(m:Nat)(g:List kE)(F:Zo)(B:Nat),m<=f.length/\g.length<=m/\j=Y m/\Hid (aP (zW c) (f.take m) g)/\Hid (mF (b.heap.size+1) e p v m wr)/\Hid (sN (rD t.heap.size e p v f.length m) gB 213 e.heap.size wr (.slice F g.length B) g)/\Hid (wr.cell? ⟨b.heap.size+1,k,none⟩=some (.slice F g.length B))/\Hid (∀(j:Nat)(u:Zv),j≠k->e.cell? ⟨b.heap.size+1,j,none⟩=some u->wr.cell? ⟨b.heap.size+1,j,none⟩=some u)/\Hid (∀j,wr.frozen? ⟨b.heap.size+1,j,none⟩=false)) (λj _=>f.length - (intOf j).toNat)
   case atStart=>exact⟨0,[],none,0,jY _,jF _,rfl,X ⟨λx K=>(by cases K),λL S=>(by simp at S)⟩,X (mF.refl _ _ _ _),X Nd,bw,X (λ_ _ _ h=>h),bv⟩
   case round=>
    obtain⟨m,g,F,B,hm,cs,rfl,HR,n,HQ,ah,ae,ai⟩:=hrel;by_cases W:m<f.length
    .obtain⟨L,Z⟩:=Zg W
     obtain rfl:=bs (by omega);have q:=V (by omega);have aa:=br (by omega);have ct:t.heap.size<=p:=by
      rcases q with h|⟨b',o',_,y,P,_⟩
      .rw[h] at W;simp at W
      injection y with y
      injection y with e1 e2 e3
      rw[e1];exact P
     obtain⟨u,P,ab,bm,nb,rfl,y,bx⟩:=cQ q Z;have cu:t.heap.size<=bm:=y.1;have cv:=y.lt;have cm:wr.cell? ⟨p,v+m,none⟩=some (.map (some bm)):=n.cell q rfl hm (by omega) P;have bz:=X (jEz n q aa (by omega) W P y);have aj:kU wr O mn fc:=bt.same (n.low V hm ad (by omega) (by omega));have ak:wr.cell? ⟨b.heap.size,0,none⟩=some (.map (some O)):=by
      rw[kH (w:=e) (a:=⟨b.heap.size,0,none⟩) (n.out.low (q:=b.heap.size) V.out hm ad (by omega) (by omega))];exact bu
     have HD:=X (NU (zW c) bz aj bg ak (by omega) (by omega));have Hu:=X P;have ay:=X ab;have az:=X (show f.take (m+1)=f.take m++[L] by rw[vZ,Z];rfl);have cw:(m:Int)<f.length:=(by omega);have cx:(0:Int)<=m:=(by omega);have b0:=n.size;clear q aa P ab y Z aj ak
     go_wp2_with fail
     refine HD.mono ?_;rintro z wd ⟨rfl,aa,q⟩;have ab:=X aa;have a0:=X q;have cy:=q.size;have a3:=X (n.step q Hu);have aj:Hid (sN (rD t.heap.size e p v f.length (m+1)) gB 213 e.heap.size wd (.slice F g.length B) g):=
      GQ dL (Sw dL HQ (λZ y hk=>q.block Z y (λz=>by
       rcases hk with h|h
       .exact h.2.2 m (jF _) W (z▸Hu)
       omega))) (λZ y=>y.next)
     have cl:wd.cell? ⟨b.heap.size+1,k,none⟩=some (.slice F g.length B):=Ob q (by omega) ah
     have R:=X (MY (Q:=λZ=>mJ (bS (zW c) L) Z) g B (by omega) OQ
      (λU Z y y y _ _ _ ak=>No (Xo ay) ((ab.imp (λal hq=>jD hq)).below y) ak)
      (Iy dL aj))
     clear aa q HD n HQ cm
     go_wp2_with fail
     refine R.mono ?_;rintro z y ⟨⟨b1,rfl,hr⟩,q⟩;have b2:e.heap.size<=wd.heap.size:=(by omega);have ak:Hid (y.heap[b.heap.size+1]? =wr.heap[b.heap.size+1]?):=(q.block (b.heap.size+1) (by omega)).trans (a0.block (b.heap.size+1) (by omega) (by omega));have c3:y.cell? ⟨b.heap.size+1,k,none⟩=some (.slice F g.length B):=jP q cl;have a4:Hid (∀(j:Nat)(u:Zv),j≠k->e.cell? ⟨b.heap.size+1,j,none⟩=some u->y.cell? ⟨b.heap.size+1,j,none⟩=some u):=λj u A aa=>by
      rw[kH (w:=wr) (a:=⟨b.heap.size+1,j,none⟩) ak.out];exact ae j u A aa
     have al:Hid (∀j,y.frozen? ⟨b.heap.size+1,j,none⟩=false):=λj=>by
      rw[gZ (w:=wr) (a:=⟨b.heap.size+1,j,none⟩) ak.out];exact ai j
     have a5:=X (a3.below (q.mono b2));have am:=X (Sv dL aj q);have b3:=X (ab.below q);have Hr:=X hr;have cm:=q.size;clear hr q R cl ak a3 aj ab a0 ah ae ai
     cases b1 with
     |true=>
      have q:Hid (aP (zW c) (f.take (m+1)) g):=by
       show aP _ _ _;rw[az.out];exact HR.skip (Hr.1 rfl)
      have R:=X c3
      go_wp2_with fail
      go_roundw
      case rel=>exact⟨m+1,g,F,B,by omega,by omega,by go_num,q,a5,am,R,a4,al⟩
      case measure=>simp[intOf];omega
     |false=>
      have b4:Hid (aP (zW c) (f.take (m+1)) (g++[bS (zW c) L])):=by
       show aP _ _ _;rw[az.out];exact HR.out.add
      obtain⟨vs,h1,h2⟩:=am.out;have R:=X h1;have H2:=X h2;have a0:=X (λq=>vT R.out (u:=y.alloc q) (λx K=>zL _ _ _ (kO R.out x K).2));have a3:Hid (gB (λq=>(rD t.heap.size e p v f.length (m+1) q\/e.heap.size<=q)/\(Value.slice F g.length B).ownBlock≠some q) y (bS (zW c) L) (.map (some bm))):=⟨Xo ay.out,bm,nb,rfl,b3.out.imp (λq hq=>⟨jD hq,λz=>by have h8:=(kO R.out q z).1;have h7:=hq.2.1;omega⟩),bx⟩;have a6:=al.out k;clear h1 h2 Hr
      go_wp2_with (at_builtin
                   go_must (refine Lu Ra rfl (.tmp 51) (.tmp 53) rfl rfl (a0.out _) rfl rfl (jJ 0 rfl) rfl (by omega) (by simp;omega) ?_)
                   intro v' w4 aj a7 a8;obtain⟨b5,b6,rfl⟩:=zF aj;obtain⟨a9,ak⟩:=Nc dL (show e.heap.size<=y.heap.size by omega) (jW _ _) R.out H2.out a3.out aj a7 a8;have ab:w4.heap[b.heap.size+1]? =y.heap[b.heap.size+1]?:=ak.block (b.heap.size+1) (by omega);have c4:w4.cell? ⟨b.heap.size+1,k,none⟩=some (.slice F g.length B):=(by rw[kH (w:=y) (a:=⟨b.heap.size+1,k,none⟩) ab];exact c3);have f4:w4.frozen? ⟨b.heap.size+1,k,none⟩=false:=(by rw[gZ (w:=y) (a:=⟨b.heap.size+1,k,none⟩) ab];exact a6);have b7:=X c4;have b8:Hid (∀(j:Nat)(u:Zv),j≠k->e.cell? ⟨b.heap.size+1,j,none⟩=some u->w4.cell? ⟨b.heap.size+1,j,none⟩=some u):=λj u A aa=>by
                    rw[kH (w:=y) (a:=⟨b.heap.size+1,j,none⟩) ab];exact a4.out j u A aa
                   have b9:Hid (∀j,w4.frozen? ⟨b.heap.size+1,j,none⟩=false):=λj=>by
                    rw[gZ (w:=y) (a:=⟨b.heap.size+1,j,none⟩) ab];exact al.out j
                   have ca:=X (a5.out.below ak);have cb:=X a9
                   clear aj a7 a8 a9 ak ab R H2 a0 a3 am c3 a6)
      go_roundw
      case rel=>exact⟨m+1,g++[bS (zW c) L],b5,b6,by omega,by rw[qB];simp;omega,by go_num,b4,X (ca.out.set k _),X (Sw dL (by rw[qB] at*;exact cb.out) (λq _ hq=>vL _ _ _ _ (show q≠b.heap.size+1 by
       rcases hq with h|h
       .have:=h.1;omega
       omega))),X (by rw[eZ b7.out];simp),X (λj u A aa=>by rw[eZ (b8.out j u A aa),jC (λz=>A z.symm)]),X (λj=>by simpa using b9.out j)⟩
      case measure=>simp[intOf];omega
    obtain rfl:m=f.length:=by omega
    rw[qU] at HR;have aa:Hid (OL w.heap.size (b.heap.size+1) c.length (k+1) (l++[g]) wr):=by
     have b0:=n.size;have ab:∀q,q<s.heap.size->q≠b.heap.size+1->wr.heap[q]? =s.heap[q]?:=λq m R=>(n.low V (jF _) ad (by omega) R).trans (E.block q m);refine⟨by rw[qB,i.out.len];rfl,λj Z R=>?_,λj A aj=>?_,ai⟩
     .by_cases ak:j<k
      .rw[mY (i.out.len▸ak)] at R
       obtain⟨u,P,hL⟩:=i.has j Z R;exact⟨u,ae j u (by omega) (by rw[ag.out j];exact P),cM _ _ _ _ Z u (λq m Z=>⟨m,ab q Z m.2⟩) hL⟩
      have Z:=(Zl R);rw[qB,i.out.len] at Z;simp at Z;obtain rfl:j=k:=by omega
      rw[nO (i.out.len▸jF _),i.out.len,wJ] at R;simp at R;subst R;have m:∀q,(rD t.heap.size e p v f.length f.length q\/e.heap.size<=q)->q<wr.heap.size->(w.heap.size<=q/\q≠b.heap.size+1)/\wr.heap[q]? =wr.heap[q]?:=λq m _=>by
       refine⟨?_,rfl⟩;rcases m with h|h
       .have:=h.1;omega
       omega
      exact⟨_,ah,F,B,rfl,by omega,eV (Iy dL HQ) m (λL u=>dL _ _ _ _ L u m)⟩
     exact ae j _ (by omega) (by rw[ag.out j];exact i.nil j (by omega) aj)
    have B:Hid (wN r c d (l++[g])):=by
     intro J ap F m h;by_cases L:J<k
     .rw[mY (by rw[i.out.len];exact L)] at h
      exact aq J ap F m h
     have q:=(Zl h);rw[qB,i.out.len] at q;simp at q;obtain rfl:J=k:=by omega
     rw[nO (by rw[i.out.len];exact jF _),i.out.len,wJ] at h;simp at h;subst h;rw[Hx.out] at m;obtain rfl:=kT m;exact⟨f,bq,HR⟩
    have h:Hid (Below (b.heap.size+1) G wr):=⟨n.os.trans (E.os.trans H.os),n.tape.trans (E.tape.trans H.tape),n.output.trans (E.output.trans H.output),by have:=n.size;have:=E.size;omega,λq m=>((n.low V (jF _) ad (by omega) (by omega)).trans (E.block q (by omega))).trans (H.block q m)⟩
    go_wp2_with fail
    go_roundw
    case rel=>exact⟨k+1,l++[g],by omega,by go_num,aa,B,h⟩
    case measure=>simp[intOf];omega
  obtain rfl:k=c.length:=by omega
  have m:Hid (zO (λk=>w.heap.size<=k) (fH (λk=>w.heap.size<=k) s) s l (some ⟨b.heap.size+1,0,none⟩)):=by
   obtain⟨g,h,n⟩:=UA (λj x A=>by rw[kK];exact i.has j x A);exact jE ⟨b.heap.size+1,0,g,rfl,by show _<=_;omega,nN (λx u=>cM _ _ _ _ x u (λq j _=>⟨j.1,rfl⟩)) h,n⟩
  have g:=i.len;have h:=X g;clear g;go_wp2;go_ret;exact⟨⟨l,some ⟨b.heap.size+1,0,none⟩,by rw[h.out];rfl,h,aq,m⟩,C⟩
def MF:∀{b:Zm},mK r b=0->∀c,c∈b->c.length<=8/\qC r c:=by
 intro b;induction b with
 |nil=>intro _ c d;cases d
 |cons e b f=>
  intro h c d;rw[mK] at h;by_cases a:nE r e=0
  .rw[jB a] at h
   rcases qO.1 d with rfl|d
   .rw[nE] at a
    split at a
    .cases a
    exact⟨by omega,Pm a⟩
   exact f h c d
  rw[jC a] at h;exact jN h a
def Ck{a:Zm}(h:kJ r a=0):qT r=0/\a.length<=60/\∀c,c∈a->c.length<=8/\qC r c:=by
 rw[kJ] at h;split at h
 .rename_i b
  split at h
  .cases h
  exact⟨b,by omega,MF h⟩
 rename_i b;exact jN h b
def Jh(a:Zn)(c d:Zc)(e:Bool)(f:Int):Prop:=
 (kJ a [c,d]≠0->e=false/\f=kJ a [c,d])/\(kJ a [c,d]=0->f=0/\∃b,b.length=c.length/\wN a c d b/\(e=true↔cF b))
def IL(g:Nat)(j:Nat)(k:Nat)(p:jV w r a)(F:c.length<=9223372036854775807)(G:d.length<=9223372036854775807)(q:kR w c a1)(hd:kR w d a2):
 Calls Zf 99 #[.agg #[.slice a r.length g],.slice a1 c.length j,.slice a2 d.length k] w λm n=>(∃h i,m=.returned (.tuple #[.bool h,Y i])/\Jh r c d h i)/\Zb w n:=by
 obtain⟨b,o⟩:=Ze (w.alloc (.cells #[Zk a r g] 24));have e:Zb w b:=o▸jG _ _;have u:Zq b w.heap.size 0 (Zk a r g):=o▸jJ 0 rfl
 have v:=X (λ(f:Obj)(s:zM (b.alloc f) [c,d] (some (D b.heap.size 0)))=>Oc r a g [c,d] (some (D b.heap.size 0)) 2 (b.alloc f) (qD f (kD e p)) (by simp) (λy l=>by
  rcases qO.1 l with rfl|l
  .exact F
  rw[vY.1 l];exact G) s)
 have x:Hid (zM (b.alloc (.cells #[Zk a1 c j,Zk a2 d k] 39)) [c,d] (some (D b.heap.size 0))):=⟨b.heap.size,0,a1,j,rfl,jJ 0 rfl,kL (jG _ _) (kL e q),b.heap.size,1,a2,k,rfl,jJ 1 rfl,kL (jG _ _) (kL e hd),trivial⟩;have s:=X (v _ x)
 have HA:=X (λ(f:kJ r [c,d]=0)(n:N)(t:Zb b n)=>(show Calls Zf 135 #[.agg #[Zk a r g],Zk a1 c j,Zk a2 d k] n _ from
  JK g j k (kD t (kD e p)) ((Ck f).2.2 c (by simp)).1 ((Ck f).2.2 d (by simp)).1 ((Ck f).2.2 c (by simp)).2 (λz z=>rR.2 ⟨(Ck f).1,λy l=>by rw[vY.1 l];exact z⟩) (kL t (kL e q)) (kL t (kL e hd))))
 have y:=X (λ(f:kJ r [c,d]=0)=>((Ck f).2.2 c (by simp)).1);have l:Hid (∀h i,Jh r c d h i↔((kJ r [c,d]≠0->h=false/\i=kJ r [c,d])/\(kJ r [c,d]=0->i=0/\∃f,f.length=c.length/\wN r c d f/\(h=true↔cF f)))):=λ_ _=>aL;obtain⟨E,z⟩:=Ze (kJ r [c,d]);rw[<-z] at s HA l y;have H:=X o;have A:=X e;have I:=X u;clear z o e p q hd v x
 go_in
 go_upto_region 1 with fail
 rw[<-H.out]
 go_wp2_with fail
 refine s.mono ?_;rintro m J ⟨rfl,e⟩;have o:=X ((jG b _).trans (e.mono (by simp)));have p:=X (A.trans (o.mono A.size));clear e s u;by_cases e:E=0
 .have K:(E !=0)=false:=by simpa using e
  have s:=X (HA e J o);have L:=jP o I;have R:=y e;have q:=X e;clear HA e
  go_wp2_with fail
  refine s.mono ?_;rintro m M ⟨⟨f,O,rfl,u,v,x⟩,z⟩;have B:=X (QW 1000 _ f O f.length M (by omega) (by omega) (jF _) x);have C:=X (p.trans (z.mono p.size));have P:=X v;have Q:=X u;clear x z s v u L
  go_wp2_with fail
  refine B.mono ?_;rintro m L ⟨⟨u,rfl,s⟩,v⟩;have x:=X (C.trans (v.mono C.size));have z:=X s;clear v s B;go_wp2
  go_ret2
  exact⟨⟨u,0,rfl,(l u 0).2 ⟨λs=>jN q s,λ_=>⟨rfl,f,Q,P,z⟩⟩⟩,x⟩
 have K:(E !=0)=true:=by simpa using e
 have q:=X e;clear e HA;go_wp2
 go_ret2
 exact⟨⟨false,E,rfl,(l false E).2 ⟨λ_=>⟨rfl,rfl⟩,λs=>jN s q⟩⟩,p⟩
def Xu(h:kC (b++[(z1,s)]) z=some t):kC b z=some t\/z1=z:=by
 induction b with
 |nil=>
  rw[nQ,kC] at h;split at h
  .rename_i e;exact jE e
  cases h
 |cons x b a=>
  obtain⟨c,d⟩:=x;rw[dW,kC] at h;rw[kC];split at h
  .rename_i e;rw[jB e];exact jD h
  rename_i e;rw[jC e];exact a h
def RU:∀(n:Nat),(∀(p t:T)(b a:Zs),p.E<=n->jQ r p->kG p t b=some a->(∀v u,kC b v=some u->kC a v=some u)/\(∀v,v≠0->zE v p->∃u,kC a v=some u)/\∀v u,kC a v=some u->kC b v=some u\/zE v p)/\
 (∀(d e:Zt)(b a:Zs),T.E.szL d<=n->jQ.okL r d->kG.growL d e b=some a->(∀v u,kC b v=some u->kC a v=some u)/\(∀v,v≠0->zE.occL v d->∃u,kC a v=some u)/\∀v u,kC a v=some u->kC b v=some u\/zE.occL v d):=by
 intro n;induction n with
 |zero=>
  refine⟨λp t b a h=>by have:=p.I;omega,λd e b a h _ c=>?_⟩
  cases d with
  |nil=>
   cases e with
   |nil=>simp[kG.growL] at c;subst c;exact⟨λ_ _ h=>h,λ_ _ h=>h.elim,λ_ _ h=>jD h⟩
   |cons t e=>cases c
  |cons p d=>have:=p.I;rw[T.F] at h;omega
 |succ n q=>
  have j:∀(p t:T)(b a:Zs),p.E<=n+1->jQ r p->kG p t b=some a->(∀v u,kC b v=some u->kC a v=some u)/\(∀v,v≠0->zE v p->∃u,kC a v=some u)/\∀v u,kC a v=some u->kC b v=some u\/zE v p:=by
   intro p t b a h k c;have B:=T.M p;rw[nG] at c;by_cases i:p.v≠0
   .rw[jB i] at c
    have s:=AE k i;have l:∀v,zE v p->p.v=v:=λv f=>by
     rcases eD.1 f with h|h
     .exact h
     rw[s] at h;exact h.elim
    cases g:kC b p.v with
    |some u=>
     rw[g] at c;by_cases m:kS u t=true
     .simp only[m,if_true,qW] at c
      subst c;exact⟨λ_ _ h=>h,λv _ f=>⟨u,by rw[<-l v f];exact g⟩,λ_ _ h=>jD h⟩
     simp only[m] at c;cases c
    |none=>
     rw[g] at c;simp only[qW] at c;subst c;exact⟨λ_ _ h=>Xt h,λv _ f=>⟨t,by rw[<-l v f];exact Pn g⟩,λv u h=>(Xu h).imp id (λm=>eD.2 (jD m))⟩
   rw[jC i] at c;have w:p.v=0:=(by omega);by_cases m:t.v≠0\/p.f≠t.f
   .rw[jB m] at c;cases c
   rw[jC m] at c;obtain⟨x,y,z⟩:=q.2 p.e t.e b a (by omega) (vW.1 k).2 c;refine⟨x,λv o f=>?_,λv u A=>(z v u A).imp id (λh=>eD.2 (jE h))⟩;rcases eD.1 f with h|h
   .exact jN (h▸w) o
   exact y v o h
  refine⟨j,?_⟩;intro d;induction d with
  |nil=>
   intro e b a _ _ c
   cases e with
   |nil=>simp[kG.growL] at c;subst c;exact⟨λ_ _ h=>h,λ_ _ h=>h.elim,λ_ _ h=>jD h⟩
   |cons t e=>cases c
  |cons p d s=>
   intro e b a h k c;rw[T.F] at h
   cases e with
   |nil=>cases c
   |cons t e=>
    rw[aS] at c
    cases i:kG p t b with
    |none=>rw[i] at c;cases c
    |some l=>
     rw[i] at c;obtain⟨w,x,y⟩:=j p t b l (by omega) (pC.1 k).1 i;obtain⟨m,z,A⟩:=s e l a (by omega) (pC.1 k).2 c;refine⟨λv u f=>m v u (w v u f),λv o g=>?_,λv u f=>?_⟩
     .rcases g with g|g
      .obtain⟨u,f⟩:=x v o g
       exact⟨u,m v u f⟩
      exact z v o g
     rcases A v u f with h|h
     .exact(y v u h).imp id (λh=>jD h)
     exact jE (jE h)
def Kx(c:(qM r t s).2.1=true):(∀v,v≠0->zE v t->∃u,kC (qM r t s).1 v=some u)/\(∀v u,kC (qM r t s).1 v=some u->v≠0/\zE v t)/\∀f:Int->T,(∀v u,kC (qM r t s).1 v=some u->f v=u)->sub f t=s:=by
 by_cases d:kI r [t,s]=0
 .obtain⟨x,g,y,m⟩:=oT d
  have k:=Fx (r:=r) (t:=t) (s:=s)
  cases e:kG t s [] with
  |none=>rw[qM,jB d,e] at c;cases c
  |some b=>
   have n:(qM r t s).1=yR b:=(by rw[qM,jB d,e]);rw[n] at k ⊢;obtain⟨_,o,p⟩:=(RU t.E).1 t s [] b (jF _) g e;have l:=λv u a=>(k.2 (v,u) (tX a)).1.1;have hd:∀v,v≠0->zE v t->∃u,kC (yR b) v=some u:=λv h i=>by rw[Kw];exact o v h i
   refine⟨hd,λv u a=>⟨by have:=l v u a;omega,?_⟩,λf q=>?_⟩
   .rcases p v u (by rw[<-Kw];exact a) with j|j
    .cases j
    exact j
   have w:qF (yR b) t=s:=by
    rw[Ud];have:=(Wr t.E).1 t s [] b [] (jF _) g m e;rwa [zU] at this
   rw[<-w,KJ (a:=gS (yR b)) (λ_ _=>rfl) g];refine Lp t.E t (jF _) (λv h i=>?_);obtain⟨u,a⟩:=hd v h i;have:=l v u a;rw[q v u a,gS,bM,jB (by omega),a];rfl
 rw[qM,jC d] at c;cases c
def Dv{l:Lit}(h:fI r l t s):(∀v u,zP r l t s v=some u->v≠0/\(zE v l.2.1\/zE v l.2.2))/\∀c:Int->T,(∀v u,zP r l t s v=some u->c v=u)->sub c l.2.1=t/\sub c l.2.2=s:=by
 obtain⟨i,j,k⟩:=h;obtain⟨_,f,m⟩:=Kx i;obtain⟨_,g,n⟩:=Kx j
 have d:∀v,zP r l t s v=match kC (qM r l.2.2 s).1 v with
  |some u=>some u
  |none=>kC (qM r l.2.1 t).1 v:=λv=>rfl
 refine⟨λv u a=>?_,λc e=>⟨m c (λv u a=>?_),n c (λv u a=>?_)⟩⟩
 .rw[d] at a
  cases b:kC (qM r l.2.2 s).1 v with
  |some x=>exact⟨(g v x b).1,jE (g v x b).2⟩
  |none=>rw[b] at a;exact⟨(f v u a).1,jD (f v u a).2⟩
 .cases b:kC (qM r l.2.2 s).1 v with
  |some x=>rw[k v u x a b];exact e v x (by rw[d,b])
  |none=>exact e v u (by rw[d,b];exact a)
 exact e v u (by rw[d,a])
def DW{l:Lit}:∀{d:Zc}{c:List kE}{g:kE},rQ r l d c->g∈c->∃k,k∈d/\k.1=l.1/\((fI r l k.2.1 k.2.2/\g=zP r l k.2.1 k.2.2)\/(fI r l k.2.2 k.2.1/\g=zP r l k.2.2 k.2.1)):=by
 intro d;induction d with
 |nil=>intro c g h a;rw[show c=[] from h] at a;cases a
 |cons k d m=>
  intro c g h a;obtain⟨o,p,rfl,f,n⟩:=h;rcases vD.1 a with a|a
  .by_cases e:k.1=l.1
   .obtain⟨q,s,rfl,i,j⟩:=f.1 e
    refine⟨k,vX,e,?_⟩;rcases vD.1 a with a|a
    .by_cases b:fI r l k.2.1 k.2.2
     .rw[i.1 b,vY] at a;exact jD ⟨b,a⟩
     rw[i.2 b] at a;cases a
    by_cases b:fI r l k.2.2 k.2.1
    .rw[j.1 b,vY] at a;exact jE ⟨b,a⟩
    rw[j.2 b] at a;cases a
   rw[f.2 e] at a;cases a
  obtain⟨b,i,j⟩:=m n a;exact⟨b,vG _ i,j⟩
def Gf:∀{a:Zt},s∈a->t∈qV s->t∈qV.partsL a:=by
 intro a;induction a with
 |nil=>intro h;cases h
 |cons x a c=>
  intro h b;rw[oU,vD];rcases qO.1 h with rfl|h
  .exact jD b
  exact jE (c h b)
def Yy:∀(n:Nat)(t:T),t.E<=n->zE z t->∃x,x∈qV t/\x.v=z:=by
 intro n;induction n with
 |zero=>intro t h;have:=t.I;omega
 |succ n b=>
  intro t j c;rcases eD.1 c with h|h
  .exact⟨t,by rw[lN];simp,h⟩
  obtain⟨k,d,e,f⟩:=Yw h;have a:=jU e;have:=xJ a;obtain⟨x,g,i⟩:=b d (by omega) f;exact⟨x,by rw[lN,vD];exact jD (Gf a g),i⟩
def Yx{l:Lit}(c:z≠0)(h:zE z l.2.1\/zE z l.2.2):z∈lY l:=by
 rw[Xr];rcases h with h|h
 .obtain⟨x,b,a⟩:=Yy _ _ (jF _) h
  exact jD (nK.2 ⟨x,b,by rw[a];exact c,a⟩)
 obtain⟨x,b,a⟩:=Yy _ _ (jF _) h;exact jE (nK.2 ⟨x,b,by rw[a];exact c,a⟩)
def CY(x:Lit)(c:Zc)(v:Int):zW (x::c) v=(if v∈lY x then 1 else 0)+zW c v:=by
 rw[zW,zW,List.filter_cons];by_cases h:v∈lY x
 .simp[h];omega
 simp[h]
def Qt:∀{c:Zc}{j:Nat}{m:Lit},c[j]? =some m->z∈lY m->1<=zW c z:=by
 intro c;induction c with
 |nil=>intro j m h;simp at h
 |cons x c b=>
  intro j m h a;rw[CY]
  cases j with
  |zero=>rw[vP] at h;obtain rfl:=kT h;rw[jB a];omega
  |succ j=>rw[xS] at h;have:=b h a;omega
def jDl:∀{c:Zc}{i j:Nat}{l m:Lit},zW c z=1->c[i]? =some l->c[j]? =some m->z∈lY l->z∈lY m->i=j:=by
 intro c;induction c with
 |nil=>intro i j l m _ h;simp at h
 |cons x c k=>
  intro i j l m b a d e f;rw[CY] at b
  cases i with
  |zero=>
   cases j with
   |zero=>rfl
   |succ j=>
    rw[vP] at a;obtain rfl:=kT a;rw[xS] at d;rw[jB e] at b;have:=Qt d f;omega
  |succ i=>
   cases j with
   |zero=>
    rw[vP] at d;obtain rfl:=kT d;rw[xS] at a;rw[jB f] at b;have:=Qt a e;omega
   |succ j=>
    rw[xS] at a d;by_cases g:z∈lY x
    .rw[jB g] at b;have:=Qt a e;omega
    rw[jC g,kK] at b;rw[k b a d e f]
def Ax(a:Int->T)(c d:Zc):Prop:=∀l,l∈c->∃k,k∈d/\k.1=l.1/\((sub a l.2.1=k.2.1/\sub a l.2.2=k.2.2)\/(sub a l.2.1=k.2.2/\sub a l.2.2=k.2.1))
def Yh{l:Lit}(h:zP r l t s z=some t1):jQ r t1:=by
 have b:zP r l t s z=match kC (qM r l.2.2 s).1 z with
  |some t1=>some t1
  |none=>kC (qM r l.2.1 t).1 z:=rfl
 rw[b] at h
 cases a:kC (qM r l.2.2 s).1 z with
 |some x=>rw[a] at h;obtain rfl:=kT h;exact(Fx.2 (z,x) (tX a)).2.2
 |none=>rw[a] at h;exact(Fx.2 (z,t1) (tX h)).2.2
def XQ:jQ r ⟨1,0,[]⟩:=by rw[vW];exact⟨by simp[xU],trivial⟩
def QN{o:List (List kE)}(p:o.length=c.length)(w:wN r c d o)(x:cF o):∃f:Int->T,(∀v,jQ r (f v))/\Ax f c d:=by
 obtain⟨y,z,A⟩:=x;have B:∀i:Nat,∃g:kE,∀l,c[i]? =some l->y i=bS (zW c) g/\∃k,k∈d/\k.1=l.1/\((fI r l k.2.1 k.2.2/\g=zP r l k.2.1 k.2.2)\/(fI r l k.2.2 k.2.1/\g=zP r l k.2.2 k.2.1)):=λi=>by
  cases a:c[i]? with
  |none=>exact⟨λ_=>none,λl h=>by cases h⟩
  |some l=>
   have b:i<o.length:=(by rw[p];exact(Zl a));obtain⟨n,e,h⟩:=w i l _ a (jO b);obtain⟨g,j,m⟩:=h.1 _ (z i _ (jO b));exact⟨g,λg g=>by obtain rfl:=kT g;exact⟨m,DW e j⟩⟩
 obtain⟨G,n⟩:=Ma B;have s:∀(i:Nat)(l:Lit)(v:Int)(u:T),c[i]? =some l->G i v=some u->v∈lY l:=λi l v u e a=>by
  obtain⟨_,k,_,_,b|b⟩:=n i l e
  .rw[b.2] at a
   have:=(Dv b.1).1 v u a;exact Yx this.1 this.2
  rw[b.2] at a;have:=(Dv b.1).1 v u a;exact Yx this.1 this.2
 have C:∀(i j:Nat)(l m:Lit)(v:Int)(u e:T),c[i]? =some l->c[j]? =some m->G i v=some u->G j v=some e->u=e:=λi j l m v u e b g a h=>by
  by_cases q:zW c v=1
  .have:=jDl q b g (s i l v u b a) (s j m v e g h)
   subst this;rw[a] at h;exact kT h
  have t:=(n i l b).1;have E:=(n j m g).1;refine A i j (by rw[p];exact(Zl b)) (by rw[p];exact(Zl g)) v u e ?_ ?_
  .rw[t,bS,jC q];exact a
  rw[E,bS,jC q];exact h
 have E:∀v:Int,∃t:T,jQ r t/\∀(i:Nat)(l:Lit)(u:T),c[i]? =some l->G i v=some u->t=u:=λv=>by
  by_cases q:∃(i:Nat)(l:Lit)(u:T),c[i]? =some l/\G i v=some u
  .obtain⟨i,l,u,b,a⟩:=q
   refine⟨u,?_,λj m e g h=>C i j l m v u e b g a h⟩;obtain⟨_,k,_,_,e|e⟩:=n i l b
   .rw[e.2] at a;exact Yh a
   rw[e.2] at a;exact Yh a
  exact⟨⟨1,0,[]⟩,XQ,λi l u b a=>jN ⟨i,l,u,b,a⟩ q⟩
 obtain⟨f,g⟩:=Ma E;refine⟨f,λv=>(g v).1,λl e=>?_⟩;obtain⟨i,b⟩:=Bf e;obtain⟨_,k,h,j,e⟩:=n i l b;refine⟨k,h,j,?_⟩;rcases e with e|e
 .exact jD ((Dv e.1).2 f (λv u a=>(g v).2 i l u b (e.2▸a)))
 exact jE ((Dv e.1).2 f (λv u a=>(g v).2 i l u b (e.2▸a)))
def Wf:∀(d:Nat),(∀(t:T)(a:Zn),t.E<=d->∀x,x∈qV t->x.v≠0->x.v∈(jL t a).2)/\(∀(c:Zt)(a:Zn),T.E.szL c<=d->∀x,x∈qV.partsL c->x.v≠0->x.v∈(jL.giveL c a).2):=by
 intro d;induction d with
 |zero=>
  refine⟨λt a h=>by have:=t.I;omega,λc a h x b=>?_⟩
  cases c with
  |nil=>cases b
  |cons t c=>have:=t.I;rw[T.F] at h;omega
 |succ d g=>
  have f:∀(t:T)(a:Zn),t.E<=d+1->∀x,x∈qV t->x.v≠0->x.v∈(jL t a).2:=λt a h x b e=>by
   have k:=T.M t;rw[rZ];show x.v∈(jL.giveL t.e (vF t.v a)).2;rw[lN,vD,vY] at b;rcases b with b|rfl
   .exact g.2 t.e (vF t.v a) (by omega) x b e
   obtain⟨l,i⟩:=(Ad (T.E.szL x.e)).2 x.e (vF x.v a) (jF _);rw[i];refine yT _ ?_;rw[vF];split
   .rename_i j;exact j.resolve_left e
   simp
  refine⟨f,λc=>?_⟩;induction c with
  |nil=>intro a _ x b;cases b
  |cons t c i=>
   intro a h x b e;rw[T.F] at h;rw[oU,vD] at b;show x.v∈(jL.giveL c (jL t a).2).2;rcases b with b|b
   .obtain⟨j,h⟩:=(Ad (T.E.szL c)).2 c (jL t a).2 (jF _)
    rw[h];exact yT _ (f t a (by omega) x b e)
   exact i (jL t a).2 (by omega) x b e
def Kb:∀(c:Zc)(a:Zn)(x:Lit),x∈c->∀y,y∈qV x.2.1\/y∈qV x.2.2->y.v≠0->y.v∈(kY c a).2:=by
 intro c;induction c with
 |nil=>intro a x d;cases d
 |cons z c f=>
  intro a x d y b e;show y.v∈(kY c (jL z.2.2 (jL z.2.1 a).2).2).2;rcases qO.1 d with rfl|d
  .obtain⟨i,g⟩:=Wa c (jL x.2.2 (jL x.2.1 a).2).2
   rw[g];refine yT _ ?_;rcases b with b|b
   .obtain⟨j,h⟩:=(Ad x.2.2.E).1 x.2.2 (jL x.2.1 a).2 (jF _)
    rw[h];exact yT _ ((Wf x.2.1.E).1 x.2.1 a (jF _) y b e)
   exact(Wf x.2.2.E).1 x.2.2 _ (jF _) y b e
  exact f _ x d y b e
def jFr{b:List Zn}(m:qC r c)(h:Sem z b (kY (qQ [] c) []).1):Sem z b c:=by
 intro f n;have g:=Kc (qQ [] c) [] [] (Fz m);obtain⟨L,i⟩:=Ze ((kY (qQ [] c) []).2);rw[zU,<-i] at g;rw[g] at h;have j:=h (λa=>f (L.getD (a - 1).toNat 0)) (λv=>n _);rw[Uu] at j;have k:qY z b f (qQ [] c)=true:=by
  rw[<-j];refine Od λv a=>?_;rw[rT,iD] at a;obtain⟨x,l,a⟩:=a;have o:v∈L:=by
   rw[i];rcases a with a|a
   .obtain⟨y,d,e,rfl⟩:=nK.1 a
    exact Kb _ _ x l y (jD d) e
   obtain⟨y,d,e,rfl⟩:=nK.1 a;exact Kb _ _ x l y (jE d) e
  rw[xD,tL,jB (by simp only;omega)];simp only[Int.add_sub_cancel,pK];rw[dI,jO (Bg.2 o)];simp
 rw[Oe] at k;simpa[qY] using k
def La{d:Type}[DecidableEq d]:∀{A B:List d},A.Nodup->(∀x,x∈A->x∈B)->A.length<=B.length:=by
 intro A;induction A with
 |nil=>intro B _ _;simp
 |cons a A f=>
  intro B b c;rw[aM] at b;have h:=f (B:=B.erase a) b.2 (λx e=>(List.mem_erase_of_ne (λg=>b.1 (by rw[<-g];exact e))).2 (c x (vG _ e)));have e:=List.length_erase_of_mem (c a vX);have g:=List.length_pos_of_mem (c a vX);rw[xI];omega
def XA(h:r.Nodup):(vF z r).Nodup/\∀b,b∈vF z r->b∈r\/(b=z/\z≠0):=by
 rw[vF];split
 .exact⟨h,λb a=>jD a⟩
 rename_i c;rw[not_or] at c;refine⟨cK.2 ⟨h,Mw _ _,λd e d d f=>c.2 (by rw[vY] at d;rw[<-d,<-f];exact e)⟩,λb a=>?_⟩;rcases vD.1 a with a|a
 .exact jD a
 exact jE ⟨vY.1 a,c.1⟩
def Wg:∀(f:Nat),(∀(t:T)(a:Zn),t.E<=f->a.Nodup->(jL t a).2.Nodup/\∀z,z∈(jL t a).2->z∈a\/∃x,x∈qV t/\x.v≠0/\x.v=z)/\(∀(b:Zt)(a:Zn),T.E.szL b<=f->a.Nodup->(jL.giveL b a).2.Nodup/\∀z,z∈(jL.giveL b a).2->z∈a\/∃x,x∈qV.partsL b/\x.v≠0/\x.v=z):=by
 intro f;induction f with
 |zero=>
  refine⟨λt a h=>by have:=t.I;omega,λb a h d=>?_⟩
  cases b with
  |nil=>exact⟨d,λz e=>jD e⟩
  |cons t b=>have:=t.I;rw[T.F] at h;omega
 |succ f o=>
  have n:∀(t:T)(a:Zn),t.E<=f+1->a.Nodup->(jL t a).2.Nodup/\∀z,z∈(jL t a).2->z∈a\/∃x,x∈qV t/\x.v≠0/\x.v=z:=λt a h d=>by
   have q:=T.M t;rw[rZ];show(jL.giveL t.e (vF t.v a)).2.Nodup/\∀z,z∈(jL.giveL t.e (vF t.v a)).2->_;obtain⟨i,j⟩:=XA d;obtain⟨k,l⟩:=o.2 t.e (vF t.v a) (by omega) i;refine⟨k,λz e=>?_⟩;rcases l z e with m|⟨x,g,c⟩
   .rcases j z m with c|⟨rfl,c⟩
    .exact jD c
    exact jE ⟨t,by rw[lN];simp,c,rfl⟩
   exact jE ⟨x,by rw[lN];exact yT _ g,c⟩
  refine⟨n,λb=>?_⟩;induction b with
  |nil=>intro a _ d;exact⟨d,λz e=>jD e⟩
  |cons t b p=>
   intro a h d;rw[T.F] at h;show(jL.giveL b (jL t a).2).2.Nodup/\∀z,z∈(jL.giveL b (jL t a).2).2->_;obtain⟨i,j⟩:=n t a (by omega) d;obtain⟨k,l⟩:=p (jL t a).2 (by omega) i;refine⟨k,λz e=>?_⟩;rcases l z e with m|⟨x,g,c⟩
   .rcases j z m with c|⟨x,g,c⟩
    .exact jD c
    exact jE ⟨x,by rw[oU];exact yT _ g,c⟩
   exact jE ⟨x,by rw[oU];exact bF _ g,c⟩
def Vz:∀(c:Zc)(a:Zn),a.Nodup->(kY c a).2.Nodup/\∀z,z∈(kY c a).2->z∈a\/z∈yA c:=by
 intro c;induction c with
 |nil=>intro a b;exact⟨b,λz d=>jD d⟩
 |cons x c e=>
  intro a b;show(kY c (jL x.2.2 (jL x.2.1 a).2).2).2.Nodup/\∀z,z∈(kY c (jL x.2.2 (jL x.2.1 a).2).2).2->_;obtain⟨f,g⟩:=(Wg x.2.1.E).1 x.2.1 a (jF _) b;obtain⟨i,j⟩:=(Wg x.2.2.E).1 x.2.2 _ (jF _) f;obtain⟨k,l⟩:=e _ i;refine⟨k,λz d=>?_⟩;rw[iD];rcases l z d with h|h
  .rcases j z h with h|h
   .rcases g z h with h|h
    .exact jD h
    exact jE ⟨x,vX,jD (nK.2 h)⟩
   exact jE ⟨x,vX,jE (nK.2 h)⟩
  obtain⟨y,m,h⟩:=iD.1 h;exact jE ⟨y,vG _ m,h⟩
def jEd(c:Zc):(kY (qQ [] c) []).2.length<=(yQ c).length:=by
 obtain⟨a,b⟩:=Vz (qQ [] c) [] eT;refine La a (λz d=>?_);rw[rT,iD];rcases b z d with h|h
 .cases h
 obtain⟨x,d,e⟩:=iD.1 h;rcases Yq d with h|h
 .cases h
 exact⟨x,h,e⟩
def ZQ(s:r1.length<=900):∀(e:Nat)(t:T),t.E<=e->jQ r t->jQ r (sub (xD r1) t)/\(sub (xD r1) t).E=t.E/\∀x,x∈qV (sub (xD r1) t)->x.v≠0->∃y,y∈qV t/\y.v≠0/\x.v=(r1.idxOf y.v:Int)+1:=by
 intro e;induction e with
 |zero=>intro t h;have:=t.I;omega
 |succ e n=>
  intro t h f;have k:=T.M t;by_cases d:t.v=0
  .have o:∀(l:Zt),(∀a,a∈l->(sub (xD r1) a).E=a.E)->T.E.szL (l.map (sub (xD r1)))=T.E.szL l:=by
    intro l;induction l with
    |nil=>intro _;rfl
    |cons a l c=>
     intro b;rw[yI,T.F,T.F,b a vX,c (λg i=>b g (vG a i))]
   have g:=λa(b:a∈t.e)=>n a (by have:=xJ b;omega) (xF f b);rw[mA d];refine⟨vW.2 ⟨?_,?_⟩,?_,λx c i=>?_⟩
   .have:=(vW.1 f).1
    rw[d] at this;simpa using this
   .refine nH.2 λm j=>?_
    obtain⟨a,b,rfl⟩:=bP.1 j;exact(g a b).1
   .rw[T.M,k]
    show 1+T.E.szL (t.e.map (sub (xD r1)))=_;rw[o _ (λa b=>(g a b).2.1)]
   rw[lN,vD,vY] at c;rcases c with c|rfl
   .have p:∀(l:Zt),(∀a,a∈l->a∈t.e)->x∈qV.partsL (l.map (sub (xD r1)))->∃a,a∈t.e/\x∈qV (sub (xD r1) a):=by
     intro l;induction l with
     |nil=>intro _ h;cases h
     |cons a l q=>
      intro l h;rw[yI,oU,vD] at h;rcases h with h|h
      .exact⟨a,l a vX,h⟩
      exact q (λm j=>l m (vG _ j)) h
    obtain⟨a,b,j⟩:=p t.e (λ_ h=>h) c;obtain⟨y,l,m,q⟩:=(g a b).2.2 x j i;exact⟨y,by rw[lN];exact yT _ (Gf b l),m,q⟩
   exact jN rfl i
  have a:=lZ f d;have b:r1.idxOf t.v<=r1.length:=List.idxOf_le_length;rw[mR d,xD];refine⟨vW.2 ⟨?_,trivial⟩,?_,λx c i=>?_⟩
  .show xU r ((r1.idxOf t.v:Int)+1) 0 0=0
   rw[xU,jB (by omega),jC (by omega)];rfl
  .rw[T.M,k,a.2]
  rw[lN,vD,vY] at c;rcases c with c|rfl
  .cases c
  exact⟨t,by rw[lN];simp,d,rfl⟩
def UU(a:qT r=0):∀{c:Zc},qC r c->tW r c=0:=by
 intro c;induction c with
 |nil=>intro _;rfl
 |cons x c e=>
  intro h;have b:=h x vX;have d:∀t:T,t.E<=120/\jQ r t->kP r t=0:=λt f=>by
   rw[<-Np a t];exact rR.2 ⟨a,λy g=>by rw[vY.1 g];exact f⟩
  rw[tW,jB (d _ b.1),jB (d _ b.2)];exact e (λy f=>h y (vG _ f))
def Jt(a:qT r=0)(b:c.length<=8)(h:qC r c):nE r c=0:=by rw[nE,jC (by omega),UU a h]
def AI(a:qT r=0)(b:c.length<=8)(h:qC r c):kJ r [c]=0:=by rw[kJ,jB a,jC (by simp),mK,jB (Jt a b h)];rfl
def jFu(b:kJ r [c]=0)(hd:kJ r [d]=0):kJ r [c,d]=0:=by
 obtain⟨a,e,f⟩:=mL b;obtain⟨_,g,h⟩:=mL hd;rw[kJ,jB a,jC (by simp),mK,jB (Jt a e f),mK,jB (Jt a g h)];rfl
def jFt(o:kJ r [c]=0)(K:(yQ c).length<=8):kJ r [(kY (qQ [] c) []).1]=0/\(yQ (kY (qQ [] c) []).1).length<=8:=by
 obtain⟨p,M,u⟩:=mL o;have v:=jEd c;have f:=Fz u;have g:=Kc (r:=r) (qQ [] c) [] [] f;have j:=Kb (qQ [] c) [];have w:=Cp (qQ [] c) [];have x:=Fy (c:=c) (a:=[]);obtain⟨L,k⟩:=Ze ((kY (qQ [] c) []).2);rw[<-k] at v j;rw[zU,<-k] at g;have h:=λt=>ZQ (r:=r) (r1:=L) (by omega) t.E t (jF _);refine⟨AI p (by rw[w];simp at x;omega) ?_,?_⟩
 .rw[g]
  intro t d;obtain⟨y,e,rfl⟩:=bP.1 d;have b:=f y e;have l:=h y.2.1 b.1.2;have m:=h y.2.2 b.2.2;exact⟨⟨by show(sub (xD L) y.2.1).E<=120;rw[l.2.1];exact b.1.1,l.1⟩,⟨by show(sub (xD L) y.2.2).E<=120;rw[m.2.1];exact b.2.1,m.1⟩⟩
 have A:(yQ (kY (qQ [] c) []).1).Nodup:=(Ut _).imp (λa=>by omega)
 have C:=La (B:=(List.range L.length).map (λi:Nat=>(i:Int)+1)) A (λz a=>by
  rw[rT,iD] at a;obtain⟨t,d,a⟩:=a;rw[g] at d;obtain⟨y,e,rfl⟩:=bP.1 d;have b:=f y e;have n:∀(s:T),jQ r s->(∀q,q∈qV s->q∈qV y.2.1\/q∈qV y.2.2)->z∈xR (sub (xD L) s)->z∈(List.range L.length).map (λi:Nat=>(i:Int)+1):=λs z E a=>by
   obtain⟨q,F,G,rfl⟩:=nK.1 a;obtain⟨i,H,I,J⟩:=(h s z).2.2 q F G;have s:=j y e i (E i H) I;rw[J];exact bP.2 ⟨L.idxOf i.v,eS.2 (Bg.2 s),rfl⟩
  rcases a with a|a
  .exact n y.2.1 b.1.2 (λq i=>jD i) a
  exact n y.2.2 b.2.2 (λq i=>jE i) a)
 rw[dY,Iq] at C;omega
def rng(n:Nat):Zn:=(List.range n).map (λi:Nat=>(i:Int)+1)
def ZV(n:Nat):(rng n).length=n:=by rw[rng,dY,Iq]
def Li:z∈rng k↔1<=z/\z<=k:=by
 rw[rng,bP];constructor
 .rintro⟨i,a,rfl⟩
  have:=eS.1 a;omega
 intro h;exact⟨(z - 1).toNat,eS.2 (by omega),by omega⟩
def ZW(n:Nat):rng (n+1)=rng n++[(n:Int)+1]:=by rw[rng,List.range_succ,nP];rfl
def BU(h:n<k):(rng k).idxOf ((n:Int)+1)=n:=by
 have a:((n:Int)+1)∈rng k:=Li.2 (by omega);have b:=Bg.2 a;have c:=List.getElem_idxOf b;simp only[rng,List.getElem_map,List.getElem_range] at c;exact Int.ofNat.inj (show((((rng k).idxOf ((n:Int)+1)):Nat):Int)=(n:Int) by rw[rng];omega)
def XE(v:Int)(a:Zn):vF (zD v a) (rng a.length)=rng (vF v a).length/\zD (zD v a) (rng a.length)=zD v a:=by
 by_cases d:v=0
 .have b:zD v a=0:=by rw[zD,jB d]
  have c:∀l:Zn,vF 0 l=l:=λl=>by rw[vF,jB (jD rfl)]
  refine⟨?_,?_⟩
  .rw[b,d,c,c]
  rw[b];rw[zD,jB rfl]
 by_cases f:v∈a
 .have b:vF v a=a:=by rw[vF,jB (jE f)]
  have g:=Bg.2 f;have c:zD v a=(a.idxOf v:Int)+1:=by rw[zD,jC d,b]
  have h:((a.idxOf v:Int)+1)∈rng a.length:=Li.2 (by omega);have e:vF ((a.idxOf v:Int)+1) (rng a.length)=rng a.length:=by rw[vF,jB (jE h)]
  rw[c,b];refine⟨e,?_⟩;rw[zD,jC (by omega),e,BU g]
 have b:vF v a=a++[v]:=by rw[vF,jC (by rw[not_or];exact⟨d,f⟩)]
 have c:zD v a=(a.length:Int)+1:=by
  rw[zD,jC d,b,Ip,jC f];simp
 have e:vF ((a.length:Int)+1) (rng a.length)=rng (a.length+1):=by
  rw[vF,jC,ZW];rw[not_or];exact⟨by omega,λi=>by have:=Li.1 i;omega⟩
 rw[c,b,qB];refine⟨e,?_⟩;rw[zD,jC (by omega),e,BU (by omega)]
def Wi:∀(c:Nat),(∀(t:T)(a:Zn),t.E<=c->jL (jL t a).1 (rng a.length)=((jL t a).1,rng (jL t a).2.length))/\(∀(b:Zt)(a:Zn),T.E.szL b<=c->jL.giveL (jL.giveL b a).1 (rng a.length)=((jL.giveL b a).1,rng (jL.giveL b a).2.length)):=by
 intro c;induction c with
 |zero=>
  refine⟨λt a h=>by have:=t.I;omega,λb a h=>?_⟩
  cases b with
  |nil=>rfl
  |cons t b=>have:=t.I;rw[T.F] at h;omega
 |succ c e=>
  have d:∀(t:T)(a:Zn),t.E<=c+1->jL (jL t a).1 (rng a.length)=((jL t a).1,rng (jL t a).2.length):=λt a h=>by
   have j:=T.M t;obtain⟨f,g⟩:=XE t.v a;have i:=e.2 t.e (vF t.v a) (by omega);rw[rZ t a];simp only;rw[rZ];simp only;rw[f,g,i]
  refine⟨d,λb=>?_⟩;induction b with
  |nil=>intro a _;rfl
  |cons t b f=>
   intro a h;rw[T.F] at h;have g:=d t a (by omega);have h:=f (jL t a).2 (by omega);show jL.giveL ((jL t a).1::(jL.giveL b (jL t a).2).1) (rng a.length)=((jL t a).1::(jL.giveL b (jL t a).2).1,rng (jL.giveL b (jL t a).2).2.length);show((jL (jL t a).1 (rng a.length)).1::(jL.giveL (jL.giveL b (jL t a).2).1 (jL (jL t a).1 (rng a.length)).2).1,(jL.giveL (jL.giveL b (jL t a).2).1 (jL (jL t a).1 (rng a.length)).2).2)=_;rw[g];simp only;rw[h]
def RE:∀(c:Zc)(a:Zn),kY (kY c a).1 (rng a.length)=((kY c a).1,rng (kY c a).2.length):=by
 intro c;induction c with
 |nil=>intro a;rfl
 |cons x c b=>
  intro a;have d:=(Wi x.2.1.E).1 x.2.1 a (jF _);have e:=(Wi x.2.2.E).1 x.2.2 (jL x.2.1 a).2 (jF _);have f:=b (jL x.2.2 (jL x.2.1 a).2).2;show kY ((x.1,(jL x.2.1 a).1,(jL x.2.2 (jL x.2.1 a).2).1)::(kY c (jL x.2.2 (jL x.2.1 a).2).2).1) (rng a.length)=((x.1,(jL x.2.1 a).1,(jL x.2.2 (jL x.2.1 a).2).1)::(kY c (jL x.2.2 (jL x.2.1 a).2).2).1,rng (kY c (jL x.2.2 (jL x.2.1 a).2).2).2.length);rw[kY];simp only;rw[d];simp only;rw[e];simp only;rw[f]
def Fd(c:Zc):Prop:=∀A x B,c=A++x::B->tV A x=true
def jDq:∀(d c:Zc),Fd c->Fd (qQ c d):=by
 intro d;induction d with
 |nil=>intro c h;exact h
 |cons l d g=>
  intro c h;rw[qQ];by_cases e:tV c l=true
  .rw[jB e]
   refine g _ (λA x B a=>?_);rcases List.append_eq_append_iff.1 a with⟨i,b,a⟩|⟨f,b,a⟩
   .cases i with
    |nil=>
     simp only[nQ,mX] at a;obtain⟨rfl,_⟩:=a;rw[zU] at b;rw[b];exact e
    |cons j i=>
     simp at a
   cases f with
   |nil=>
    simp only[nQ,mX] at a;obtain⟨rfl,_⟩:=a;rw[zU] at b;rw[<-b];exact e
   |cons k f=>
    simp only[dW,mX] at a;exact h A x f (by rw[b,<-a.1])
  rw[jC e];exact g _ h
def WW:∀(c a:Zc),Fd (a++c)->qQ a c=a++c:=by
 intro c;induction c with
 |nil=>intro a _;rw[qQ,zU]
 |cons l c b=>
  intro a h;rw[qQ,jB (h a l c rfl)];have e:a++l::c=(a++[l])++c:=by simp
  rw[e] at h ⊢;exact b _ h
def ZP:∀(f:Nat)(s t:T),s.E<=f->jQ r s->jQ r t->(∀q,q∈qV s->q.v≠0->q.v∈r1)->(∀q,q∈qV t->q.v≠0->q.v∈r1)->sub (xD r1) s=sub (xD r1) t->s=t:=by
 intro f;induction f with
 |zero=>intro s t h;have:=s.I;omega
 |succ f u=>
  intro s t h i j k l e;have B:=T.M s;by_cases c:s.v=0
  .by_cases a:t.v=0
   .rw[mA c,mA a] at e
    obtain⟨_,m,v⟩:=T.mk.inj e;have w:∀(d b:Zt),(∀x,x∈d->x∈s.e)->(∀x,x∈b->x∈t.e)->d.map (sub (xD r1))=b.map (sub (xD r1))->d=b:=by
     intro d;induction d with
     |nil=>intro b _ _ e;cases b with|nil=>rfl|cons y b=>cases e
     |cons x d A=>
      intro b n o e
      cases b with
      |nil=>cases e
      |cons y b=>
       rw[yI,yI] at e;obtain⟨q1,q2⟩:=List.cons.inj e;have d:=n x vX;have p:=o y vX
       rw[u x y (by have:=xJ d;omega) (xF i d) (xF j p) (λq g=>k q (by rw[lN];exact yT _ (Gf d g))) (λq g=>l q (by rw[lN];exact yT _ (Gf p g))) q1,
        A b (λz b=>n z (vG _ b)) (λz b=>o z (vG _ b)) q2]
    have b:=w s.e t.e (λ_ h=>h) (λ_ h=>h) v
    cases s;cases t;simp only at c a m b;rw[c,a,m,b]
   rw[mA c,mR a,xD] at e;have:=(T.mk.inj e).1;omega
  by_cases a:t.v=0
  .rw[mR c,mA a,xD] at e
   have:=(T.mk.inj e).1;omega
  rw[mR c,mR a,xD,xD] at e;have p:=(T.mk.inj e).1;have i1:=Bg.2 (k s (by rw[lN];simp) c);have i2:=Bg.2 (l t (by rw[lN];simp) a);have b:=List.getElem_idxOf i1;have n:=List.getElem_idxOf i2;have o:r1.idxOf s.v=r1.idxOf t.v:=by omega
  simp only[o] at b;have d:=b.symm.trans n;obtain⟨s1,s2⟩:=lZ i c;obtain⟨g,m⟩:=lZ j a
  cases s;cases t;simp only at s1 s2 g m d;rw[s1,s2,g,m,d]
def BQ(n:r1.length<=1000):∀(d:Nat)(t:T),t.E<=d->jQ r t->(∀q,q∈qV t->q.v≠0->q.v∈r1)->jQ r (sub (xD r1) t)/\(sub (xD r1) t).E=t.E:=by
 intro d;induction d with
 |zero=>intro t i;have:=t.I;omega
 |succ d j=>
  intro t i e f;have g:=T.M t;by_cases c:t.v=0
  .have k:∀(l:Zt),(∀a,a∈l->(sub (xD r1) a).E=a.E)->T.E.szL (l.map (sub (xD r1)))=T.E.szL l:=by
    intro l;induction l with
    |nil=>intro _;rfl
    |cons a l h=>
     intro b;rw[yI,T.F,T.F,b a vX,h (λl m=>b l (vG a m))]
   have h:=λa(b:a∈t.e)=>j a (by have:=xJ b;omega) (xF e b) (λq l=>f q (by rw[lN];exact yT _ (Gf b l)));rw[mA c];refine⟨vW.2 ⟨?_,?_⟩,?_⟩
   .have:=(vW.1 e).1
    rw[c] at this;simpa using this
   .refine nH.2 λl l=>?_
    obtain⟨a,b,rfl⟩:=bP.1 l;exact(h a b).1
   rw[T.M,g];show 1+T.E.szL (t.e.map (sub (xD r1)))=_;rw[k _ (λa b=>(h a b).2)]
  have a:=lZ e c;have b:=Bg.2 (f t (by rw[lN];simp) c);rw[mR c,xD];refine⟨vW.2 ⟨?_,trivial⟩,?_⟩
  .show xU r ((r1.idxOf t.v:Int)+1) 0 0=0
   rw[xU,jB (by omega),jC (by omega)];rfl
  rw[T.M,g,a.2]
def DM:∀(b:Nat)(t:T),t.E<=b->jQ r t->∀q,q∈qV t->q.v≠0->1<=q.v/\q.v<=1000:=by
 intro b;induction b with
 |zero=>intro t h;have:=t.I;omega
 |succ b g=>
  intro t h d q c e;rw[lN,vD,vY] at c;rcases c with c|rfl
  .have i:∀(l:Zt),(∀a,a∈l->a∈t.e)->q∈qV.partsL l->∃a,a∈t.e/\q∈qV a:=by
    intro l;induction l with
    |nil=>intro _ h;cases h
    |cons a l j=>
     intro f h;rw[oU,vD] at h;rcases h with h|h
     .exact⟨a,f a vX,h⟩
     exact j (λk l=>f k (vG _ l)) h
   obtain⟨a,f,j⟩:=i t.e (λ_ h=>h) c;have k:=T.M t;exact g a (by have:=xJ f;omega) (xF d f) q j e
  have a:=(vW.1 d).1;rw[Ak e,mB] at a;split at a
  .cases a
  omega
def jDp(i:qC r c)(j:∀x,x∈c->∀q,(q∈qV x.2.1\/q∈qV x.2.2)->q.v≠0->q.v∈r1)(z:Fd c):Fd (eB (sub (xD r1)) c):=by
 intro G x H e;rw[eB] at e;obtain⟨d,R,A,B,C⟩:=List.map_eq_append_iff.1 e;obtain⟨y,f,E,F,I⟩:=List.map_eq_cons_iff.1 C;subst E A;have l:=z d y f rfl;have m:y∈d++y::f:=by simp
 have b:∀(s t:T),jQ r s->jQ r t->(∀q,q∈qV s->q.v≠0->q.v∈r1)->(∀q,q∈qV t->q.v≠0->q.v∈r1)->kS (sub (xD r1) s) (sub (xD r1) t)=kS s t:=λs t a g h k=>by
  rw[eJ,nI,nI];exact⟨ZP s.E s t (jF _) a g h k,λe=>by rw[e]⟩
 have g:∀k,k∈d++y::f->(jQ r k.2.1/\∀q,q∈qV k.2.1->q.v≠0->q.v∈r1)/\(jQ r k.2.2/\∀q,q∈qV k.2.2->q.v≠0->q.v∈r1):=λk a=>
  ⟨⟨(i k a).1.2,λq h=>j k a q (jD h)⟩,⟨(i k a).2.2,λq h=>j k a q (jE h)⟩⟩
 have n:∀k,k∈d->lP (k.1,sub (xD r1) k.2.1,sub (xD r1) k.2.2) (y.1,sub (xD r1) y.2.1,sub (xD r1) y.2.2)=lP k y:=λk a=>by
  obtain⟨⟨h,o⟩,p,s⟩:=g k (yT _ a);obtain⟨⟨t,u⟩,v,w⟩:=g y m;rw[lP,lP,tG,tG];simp only;rw[b _ _ h t o u,b _ _ p v s w,b _ _ h v o w,b _ _ p t s u]
 rw[<-B,<-F];rw[tV] at l ⊢;rw[List.any_map];simp only;obtain⟨⟨o,p⟩,s,t⟩:=g y m;rw[b _ _ o s p t,<-l];congr 2;rw[eJ,mW,mW];exact⟨λ⟨k,a,h⟩=>⟨k,a,by rw[<-n k a];exact h⟩,λ⟨k,a,h⟩=>⟨k,a,(n k a).trans h⟩⟩
def DE(n:kJ r [c]=0):kJ r [(kY (qQ [] c) []).1]=0/\fZ r (kY (qQ [] c) []).1=((kY (qQ [] c) []).1,0):=by
 obtain⟨o,A,p⟩:=mL n;have a:=Fz p;have e:=Kc (r:=r) (qQ [] c) [] [] a;have d:=Kb (qQ [] c) [];have s:=Cp (qQ [] c) [];have t:=Fy (c:=c) (a:=[]);have i:=RE (qQ [] c) [];obtain⟨u,v⟩:=Vz (qQ [] c) [] eT;have j:(kY (qQ [] c) []).2.length<=1000:=by
  have:=La (B:=rng 1000) u (λz b=>by
   rw[Li];rcases v z b with h|h
   .cases h
   obtain⟨x,k,b⟩:=iD.1 h;rcases b with b|b
   .obtain⟨q,f,g,rfl⟩:=nK.1 b
    exact DM _ _ (jF _) (a x k).1.2 q f g
   obtain⟨q,f,g,rfl⟩:=nK.1 b
   exact DM _ _ (jF _) (a x k).2.2 q f g)
  rw[ZV] at this;exact this
 have w:=jDq c [] (λb x B e=>by simp at e);rw[zU] at e;have h:=jDp a d w;rw[<-e] at h;have k:kJ r [(kY (qQ [] c) []).1]=0:=by
  refine AI o (by rw[s];simp at t;omega) ?_;rw[e];intro x x;obtain⟨y,f,rfl⟩:=bP.1 x;have b:=a y f;have l:=BQ (r:=r) j y.2.1.E y.2.1 (jF _) b.1.2 (λq g=>d y f q (jD g));have m:=BQ (r:=r) j y.2.2.E y.2.2 (jF _) b.2.2 (λq g=>d y f q (jE g));exact⟨⟨by show(sub (xD _) y.2.1).E<=120;rw[l.2];exact b.1.1,l.1⟩,⟨by show(sub (xD _) y.2.2).E<=120;rw[m.2];exact b.2.1,m.1⟩⟩
 refine⟨k,?_⟩;rw[fZ,jB k,WW _ [] h,nQ];rw[show rng ([]:Zn).length=[] from rfl] at i;rw[i]
def Ns(h:(fB r b c).2=0):kJ r [(fB r b c).1]=0:=by
 rw[fB] at h ⊢;by_cases d:pT r b c=0
 .rw[jB d] at h ⊢
  rw[fZ] at h ⊢;by_cases a:kJ r [qQ [] (c.map (fN r b))]=0
  .rw[jB a]
   exact(DE a).1
  rw[jC a] at h;exact jN h a
 rw[jC d] at h;exact jN h d
def Va{j:jX}(h:(dO r c d j).2=0):kJ r [(dO r c d j).1]=0:=by
 rw[dO] at h ⊢;split at h
 .rename_i a
  rw[jB a];rw[iI] at h ⊢;split at h
  .rename_i b;rw[jB b];exact Ns h
  rename_i b;exact jN h b
 rename_i a;rw[jC a];split at h
 .rename_i b
  rw[jB b];rw[iH] at h ⊢;split at h
  .rename_i e
   rw[jB e];split at h
   .rename_i f;rw[jB f];exact Ns h
   rename_i f;exact jN h f
  rename_i e;exact jN h e
 rename_i b;rw[jC b];rw[sZ] at h ⊢;split at h
 .rename_i e
  rw[jB e];split at h
  .rename_i f
   rw[jB f];split at h
   .rename_i g
    rw[jB g];split at h
    .rename_i i;rw[jB i];exact Ns h
    rename_i i;exact jN h i
   rename_i g;exact jN h g
  rename_i f;exact jN h f
 rename_i e;exact jN h e
def Ph{e:Zm}{i:jX}(h:(qX r e i).2=0):kJ r [(qX r e i).1]=0:=by
 rw[qX] at h ⊢;split at h
 .rename_i a
  rw[jB a];split at h
  .rename_i b
   rw[jB b];split at h
   .rename_i f
    rw[jB f];split at h
    .rename_i c
     rw[jB c];split at h
     .rename_i d;rw[jB d];exact Va h
     rename_i d;exact jN h d
    rename_i c;rw[jC c];exact Va h
   cases h
  rename_i b;exact jN h b
 rename_i a;exact jN h a
def Qy{b:Zm}{i:jX}(a:i∈bV b):i.left=0/\((i.L=3/\i.right=1/\2<=b.length)\/(i.L≠3/\i.right=0)):=by
 have g:∀c,i∈aW c->i.left=0/\i.L≠3/\i.right=0:=by
  intro c h;rw[aW,Bl] at h;obtain⟨s,_,h⟩:=h;rw[fF,vD] at h;rcases h with h|h
  .split at h
   .rw[vY.1 h];exact⟨rfl,by simp,rfl⟩
   cases h
  obtain⟨u,_,h⟩:=Mt.1 h;split at h
  .cases h;exact⟨rfl,by simp,rfl⟩
  cases h
 have j:∀c d,i∈iQ c d->i.left=0/\i.L=3/\i.right=1:=by
  intro c d h;rw[iQ,Bl] at h;obtain⟨l,_,h⟩:=h;obtain⟨u,e,h⟩:=Bl.1 h;split at h
  .rw[Ds] at h
   obtain⟨p,f,h⟩:=Mt.1 h;rw[aH] at h;split at h
   .cases h;exact⟨rfl,rfl,rfl⟩
   cases h
  cases h
 match b,a with
 |[],a=>cases a
 |[c],a=>obtain⟨e,f,d⟩:=g c a;exact⟨e,jE ⟨f,d⟩⟩
 |c::d::r,a=>obtain⟨e,f,h⟩:=j c d a;exact⟨e,jD ⟨f,h,by simp⟩⟩
def uJ(h: -9223372036854775808<=z/\z<=9223372036854775807):qI z=z:=by rw[qI,Ba,IntWalk.wrap64_in z h]
def CU(a:qT r=0)(b:t.E<=120/\jQ r t):1<=tI r t/\tI r t<=120:=by
 have h:=rR.2 ⟨a,λy c=>by rw[vY.1 c];exact b⟩;have:=t.I;rw[tI,jB h];omega
def jFd(a:qT r=0):∀{c:Zc}{z:Int},qC r c->0<=z->z+240*c.length<=1000000->z+2*c.length<=mC r c z/\mC r c z<=z+240*c.length:=by
 intro c;induction c with
 |nil=>intro z _ _ _;simp[mC]
 |cons x c e=>
  intro z b h f;have d:=b x vX;have i:=CU a d.1;have j:=CU a d.2;simp only[xI] at f ⊢;rw[mC,uJ (z:=tI r x.2.1+tI r x.2.2) (by omega),uJ (by omega)];have:=e (z:=z+(tI r x.2.1+tI r x.2.2)) (λy g=>b y (vG _ g)) (by omega) (by omega);omega
def Vr{c:Zc->Zs->Int->Bool×Int}(g:∀d b a,d.length<=8->0<a->a<=1000000000->(c d b a).2<=a/\ -z<=(c d b a).2)(x:Lit)(d:Zc)(b:Zs)(n:Nat)(e f:T)(a:Int)(hd:d.length<=8)(j: -1000000000<=a)(k:a<=1000000000):
 (gU c x d b n e f a).2<=a/\min a (-z) - 1<=(gU c x d b n e f a).2:=by
 have h:qI (a - 1)=a - 1:=uJ (by omega);have i:(d.eraseIdx n).length<=8:=by rw[Bh];split<;>omega
 rw[gU,h]
 repeat' split
 all_goals try (simp only;omega)
 have:=g (d.eraseIdx n) ‹_› (a - 1) i (by omega) (by omega);omega
def QQ{c:Zc->Zs->Int->Bool×Int}(q:0<=z)(r:z<=1000)(e:∀d b a,d.length<=8->0<a->a<=1000000000->(c d b a).2<=a/\ -z<=(c d b a).2)(x:Lit)(d:Zc)(b:Zs)(hd:d.length<=8):∀(l:Zc)(n:Nat)(a:Int),l.length<=8-> -900000000+2*l.length<=a->a<=1000000000->
 (fQ c x d b n l a).2<=a/\min a (-z) - 2*l.length<=(fQ c x d b n l a).2:=by
 intro l;induction l with
 |nil=>intro n a _ _ _;simp only[fQ,mZ];omega
 |cons k s f=>
  intro n a i j m;simp only[xI] at i j ⊢;have o:=Vr e x d b n k.2.1 k.2.2 a hd (by omega) m;obtain⟨r1,g⟩:=Ze (gU c x d b n k.2.1 k.2.2 a);rw[<-g] at o;have p:=Vr e x d b n k.2.2 k.2.1 r1.2 hd (by omega) (by omega);obtain⟨r2,h⟩:=Ze (gU c x d b n k.2.2 k.2.1 r1.2);rw[<-h] at p;rw[fQ,<-g,<-h];split
  .split
   .simp only;omega
   split
   .simp only;omega
   have:=f (n+1) r2.2 (by omega) (by omega) (by omega);omega
  have:=f (n+1) a (by omega) (by omega) (by omega);omega
def Vt:∀(c d:Zc)(b:Zs)(a:Int),c.length<=8->d.length<=8-> -800000000<=a->a<=1000000000->(yF c d b a).2<=a/\min a (-(16*c.length)) - 16<=(yF c d b a).2:=by
 intro c;induction c with
 |nil=>intro d b a _ _ _ _;simp only[yF,mZ];omega
 |cons x c f=>
  intro d b a g hd h e;simp only[xI] at g ⊢;have:=QQ (c:=yF c) (z:=16*c.length+16) (by omega) (by omega) (λd b a hd h e=>by have:=f d b a (by omega) hd (by omega) e;omega) x d b hd d 0 a hd (by omega) e;rw[yF];omega
def jBj(e:c.length<=8):∀(l:List vM)(a:Int),(∀y,y∈l->y.cl.length<=8)->(l.length<=1000000/\ -700000000+16*l.length<=a)->a<=1000000000->(nJ c l a).2<=a/\min a (-128) - 16*l.length<=(nJ c l a).2:=by
 intro l;induction l with
 |nil=>intro a _ _ _;simp only[nJ,mZ];omega
 |cons y j d=>
  intro a b f g;simp only[xI] at f ⊢;have h:=b y vX;have k:=Vt y.cl c [] a h e (by omega) g;rw[nJ];split
  .split
   .simp only;omega
   have:=d (yF y.cl c [] a).2 (λz i=>b z (vG _ i)) (by omega) (by omega);omega
  have:=d a (λz i=>b z (vG _ i)) (by omega) (by omega);omega
def CD(a:c.length<=8){l:List vM}(b:∀y,y∈l->y.cl.length<=8)(d:l.length<=1000000/\ -700000000+16*l.length<=z)(e:z<=1000000000):(dR r c l z).2<=z/\min z (-128) - 16*l.length<=(dR r c l z).2:=by
 rw[dR];split
 .simp only;omega
 exact jBj a l z b d e
def Tq{x:vM}(e:x.cl.length<=8):∀(l:List vM)(a:Int),(∀y,y∈l->y.cl.length<=8)->(l.length<=1000000/\ -700000000+16*l.length<=a)->a<=1000000000->(vK x l a).2<=a/\min a (-128) - 16*l.length<=(vK x l a).2:=by
 intro l;induction l with
 |nil=>intro a _ _ _;simp only[vK,mZ];omega
 |cons y i d=>
  intro a b f g;simp only[xI] at f ⊢;have h:=b y vX;have j:=Vt x.cl y.cl [] a e h (by omega) g;rw[vK];split
  .have:=d (yF x.cl y.cl [] a).2 (λz c=>b z (vG _ c)) (by omega) (by omega)
   simp only;omega
  have:=d a (λz c=>b z (vG _ c)) (by omega) (by omega);simp only;omega
def Tl(x:vM):∀(l:List vM)(a:Int)(n:Nat)(y:vM),(vK x l a).1[n]? =some y->∃z,l[n]? =some z/\y.cl=z.cl/\y.wt=z.wt/\y.ja=z.ja:=by
 intro l;induction l with
 |nil=>intro a n y h;simp[vK] at h
 |cons u c b=>
  intro a n y h;rw[vK] at h;split at h
  .cases n with
   |zero=>
    simp only[vP,qW] at h;refine⟨u,rfl,?_⟩;rw[<-h];split<;>exact⟨rfl,rfl,rfl⟩
   |succ n=>
    simp only[xS] at h ⊢;exact b _ n y h
  cases n with
  |zero=>
   simp only[vP,qW] at h;exact⟨u,rfl,by rw[h],by rw[h],by rw[h]⟩
  |succ n=>
   simp only[xS] at h ⊢;exact b _ n y h
def Cb(i:jX):Prop:=i.G.length<=1000/\(i.L≠3->i.right=0)
structure xX (ar:Zn) (s:St):Prop where
 jg:∀y,y∈s.h->sG ar y/\2<=y.wt/\y.wt<=2000
 len:s.h.length<=65600
 kj:0<=s.Z/\s.Z<=s.h.length
 lo: -10000000<=s.work
 hi:s.work<=262144
 qq:0<s.work->4*(s.h.length:Int)+s.work<=262384
 src:∀(n:Nat) (y:vM),s.h[n]? =some y->s.Z<=(n:Int)->∀m,m∈yW y.ja->0<=m/\m<(n:Int)
 jt:s.found=true->∀m,m∈yW s.last->0<=m/\m<(s.h.length:Int)
 kl:(∀y,y∈s.h->Cb y.ja)/\Cb s.last
structure Ez (ar:Zn) (s:St):Prop where
 ok:xX ar s
 len:s.h.length<=65596
 lo: -40000<=s.work
def xX.work{s:St}(h:xX r s){z:Int}(a: -10000000<=z)(c:z<=s.work):xX r {s with work:=z}:=
 ⟨h.jg,h.len,h.kj,a,by have:=h.hi;show z<=262144;omega,λb=>by have:=h.qq (by have:0<z:=b;omega);show 4*(s.h.length:Int)+z<=262384;omega,h.src,h.jt,h.kl⟩
def Vl(b:qT r=0)(d:c.length<=8)(a:qC r c)(e:c.length≠0)(i:jX):sG r (pY r c i)/\2<=(pY r c i).wt/\(pY r c i).wt<=2000:=by
 have:=jFd b a (mE _) (by omega);refine⟨⟨d,a⟩,?_,?_⟩<;>(show _<=_;simp only[pY];omega)
def IY{s:St}{x:vM}(h:xX r s)(w:s.h.length<=65596)(j:sG r x/\2<=x.wt/\x.wt<=2000)(A: -5000000<=s.work)(l:0<s.work->4*(s.h.length:Int)+s.work<=262380)(o:∀m,m∈yW x.ja->0<=m/\m<(s.h.length:Int))(p:Cb x.ja):xX r (sS s x):=by
 have B:=Tq j.1.1 s.h s.work (λy a=>(h.jg y a).1.1) (by omega) (by have:=h.hi;omega);have f:=Ff x s.h s.work;have q:=Tl x s.h s.work;have c:(sS s x).h.length=s.h.length+1:=by simp[sS,f]
 have g:∀(n:Nat)(y:vM),(sS s x).h[n]? =some y->(∃z,s.h[n]? =some z/\y.cl=z.cl/\y.wt=z.wt/\y.ja=z.ja)\/(n=s.h.length/\y=x):=by
  intro n y a;by_cases d:n<s.h.length
  .left
   refine q n y ?_;rw[sS] at a;rw[mY (f▸d)] at a;exact a
  right;have e:=(Zl a);rw[c] at e;have b:n=s.h.length:=by omega
  refine⟨b,?_⟩;rw[sS] at a;rw[nO (by rw[f];omega),f,b] at a;simpa using a.symm
 refine⟨?_,by rw[c];omega,?_,?_,?_,?_,?_,?_,?_,h.kl.2⟩
 .intro y a
  obtain⟨n,i⟩:=uX.1 a;rcases g n y i with⟨z,b,k,t,_⟩|⟨_,rfl⟩
  .have:=h.jg z (jU b)
   refine⟨⟨by rw[k];exact this.1.1,by rw[k];exact this.1.2⟩,by rw[t];exact this.2⟩
  exact j
 .rw[c]
  have:=h.kj;refine⟨this.1,?_⟩;show s.Z<=_;omega
 .show -10000000<=(vK x s.h s.work).2
  omega
 .show(vK x s.h s.work).2<=262144
  have:=h.hi;omega
 .intro b
  have b:0<(vK x s.h s.work).2:=b;rw[c];show 4*((s.h.length+1:Nat):Int)+(vK x s.h s.work).2<=262384;have:=l (by omega);omega
 .intro n y a u m d
  rcases g n y a with⟨z,b,_,_,e⟩|⟨e,rfl⟩
  .rw[e] at d;exact h.src n z b u m d
  rw[e];exact o m d
 .intro v m d
  have:=h.jt v m d;rw[c];omega
 intro y a;obtain⟨n,i⟩:=uX.1 a;rcases g n y i with⟨z,b,_,_,e⟩|⟨_,rfl⟩
 .rw[e];exact h.kl.1 z (jU b)
 exact p
def TQ(e:qT r=0){s:St}{i:jX}(h:xX r s)(f:s.h.length<=65596)(t: -50000<=s.work)(a:c.length<=8)(g:qC r c)(j:c.length≠0)(k:∀m,m∈yW i->0<=m/\m<(s.h.length:Int))(n:Cb i)(o:0<s.work->4*(s.h.length:Int)+s.work<=262382):xX r (Af r s c i)/\s.h.length<=(Af r s c i).h.length:=by
 have p:=Vl e a g j i;have u:=h.hi;have q:qI (s.work - (pY r c i).wt)=s.work - (pY r c i).wt:=uJ (by omega);have v:=CD (r:=r) (c:=c) a (l:=s.h) (z:=s.work - (pY r c i).wt) (λy b=>(h.jg y b).1.1) (by omega) (by omega);have b:=h.work (z:=(dR r c s.h (s.work - (pY r c i).wt)).2) (by omega) (by omega);rw[Af];simp only[q];split
 .exact⟨b,jF _⟩
 refine⟨IY b f p (by show -5000000<=(dR r c s.h (s.work - (pY r c i).wt)).2;omega) ?_ k n,?_⟩
 .intro d
  have d:0<(dR r c s.h (s.work - (pY r c i).wt)).2:=d;have:=o (by omega);show 4*(s.h.length:Int)+(dR r c s.h (s.work - (pY r c i).wt)).2<=262380;omega
 simp[sS,Ff]
def Oq{s:St}(h:xX r s):∀{a:Zn}{d:Zm}{e:Int},(∀n,n∈a->0<=n/\n<(s.h.length:Int))->gT s a=some (d,e)->(a≠[]->zQ s=false)/\d.length=a.length/\(2*a.length<=e/\e<=2000*a.length)/\∀c,c∈d->c.length<=8/\qC r c:=by
 intro a;induction a with
 |nil=>
  intro d e _ h;rw[gT] at h;injection h with h
  injection h with b f
  subst b f;exact⟨λh=>jN rfl h,rfl,by simp,λc g=>by cases g⟩
 |cons n a k=>
  intro d e g b;rw[gT] at b;split at b
  .exact jN b (by simp)
  rename_i i;split at b
  .exact jN b (by simp)
  rename_i w x l;injection b with b
  injection b with m o
  subst m o;obtain⟨_,p,z,q⟩:=k (λf j=>g f (vG _ j)) l;have A:=g n (by simp);obtain⟨y,j⟩:∃y,s.h[n.toNat]? =some y:=⟨s.h[n.toNat]'(by omega),jO _⟩;have t:cZ s n=y:=by simp[cZ,j]
  have u:=h.jg y (jU j);rw[t];refine⟨λ_=>?_,by simp[p],?_,?_⟩
  .cases v:zQ s with
   |false=>rfl
   |true=>rw[v] at i;simp at i
  .rw[xI];omega
  intro c f;rcases qO.1 f with rfl|f
  .exact u.1
  exact q c f
def WQ{d:Zm}{i:jX}(f:i∈bV d)(k:d.length=r.length)(l:1<=r.length)(g:∀n,n∈r->0<=n/\n<z):∀m,m∈yW (eC r i)->0<=m/\m<z:=by
 obtain⟨e,h⟩:=Qy f;have c:∀j:Nat,j<r.length->0<=r.getD j 0/\r.getD j 0<z:=λj a=>by
  rw[show r.getD j 0=r[j] by simp[List.getD,jO a]];exact g _ (uV _)
 intro m a;rw[yW] at a;rcases h with⟨b,r1,j⟩|⟨b,o⟩
 .rw[jB (show(eC r i).L=3 from b)] at a
  simp only[qO,sL,or_false] at a;rcases a with rfl|rfl
  .show 0<=r.getD i.left.toNat 0/\r.getD i.left.toNat 0<z
   rw[e];exact c 0 (by omega)
  show 0<=(if i.L=3 then r.getD i.right.toNat 0 else i.right)/\(if i.L=3 then r.getD i.right.toNat 0 else i.right)<z;rw[jB b,r1];exact c 1 (by omega)
 rw[jC (show ¬(eC r i).L=3 from b)] at a;simp only[qO,sL,or_false] at a;subst a;show 0<=r.getD i.left.toNat 0/\r.getD i.left.toNat 0<z;rw[e];exact c 0 (by omega)
def Vj{s:St}{b:Zm}{i:jX}(h:Ez r s)(e:i∈bV b)(j:∀c,c∈b->c.length<=8/\qC r c)(k:b.length=r1.length)(l:1<=r1.length)(m:∀n,n∈r1->0<=n/\n<(s.h.length:Int))(v:2<=z/\z<=4000):xX r (fP r z r1 s i (qX r b i))/\s.h.length<=(fP r z r1 s i (qX r b i)).h.length:=by
 have w:=h.ok.hi;have x:=h.lo;have o:qI (s.work - z)=s.work - z:=uJ (by omega);have a:=h.ok.work (z:=s.work - z) (by omega) (by omega);have f:=WQ e k l m
 have g:Cb (eC r1 i):=⟨(DH (λc d=>mP (j c d).2) e:i.G.length<=1000),λd=>by
  have d:i.L≠3:=d;show(if i.L=3 then r1.getD i.right.toNat 0 else i.right)=0;rw[jC d];rcases(Qy e).2 with h|h
  .exact jN h.1 d
  exact h.2⟩
 rw[fP];simp only[o];split
 .rename_i d
  obtain⟨p,q,t⟩:=mL (Ph d);rw[oK];split
  .exact⟨⟨a.jg,a.len,a.kj,a.lo,a.hi,a.qq,a.src,λ_=>f,a.kl.1,g⟩,jF _⟩
  rename_i u
  exact TQ p a h.len (by show -50000<=s.work - z;omega) q t u f g (λd=>by
   have d:0<s.work - z:=d;have:=h.ok.qq (by omega);show 4*(s.h.length:Int)+(s.work - z)<=262382
   omega)
 exact⟨a,jF _⟩
def xX.pre{s:St}(h:xX r s)(a:zQ s=false):Ez r s/\0<s.work:=by
 have b:0<s.work:=by
  rw[zQ,Bool.or_eq_false_iff] at a;have:=a.2;simp at this;exact this
 have:=h.qq b;exact⟨⟨h,by omega,by omega⟩,b⟩
def XL{b:Zm}(f:∀c,c∈b->c.length<=8/\qC r c)(g:b.length=r1.length)(j:1<=r1.length)(k:2<=z/\z<=4000):∀(a:List jX)(s:St),(∀i,i∈a->i∈bV b)->Ez r s->(∀n,n∈r1->0<=n/\n<(s.h.length:Int))->xX r (pA r b z r1 a s)/\s.h.length<=(pA r b z r1 a s).h.length:=by
 intro a;induction a with
 |nil=>intro s _ h _;exact⟨h.ok,jF _⟩
 |cons i a l=>
  intro s d h e;have hd:=Vj h (d i (by simp)) f g j e k;rw[pA];split
  .exact hd
  rename_i m;have o:=(hd.1.pre (by simpa using m)).1;have:=l _ (λp q=>d p (vG _ q)) o (λn p=>by have:=e n p;have:=hd.2;omega);exact⟨this.1,kN hd.2 this.2⟩
def DI{s:St}(h:xX r s)(b:r1.length=1\/r1.length=2)(c:∀n,n∈r1->0<=n/\n<(s.h.length:Int)){a:Zm}(d:gT s r1=some (a,z)):Ez r {s with work:=qI (s.work - qI (z*((a.headD []).length:Int)))}:=by
 obtain⟨e,k,l,f⟩:=Oq h c d;have g:=h.pre (e (λi=>by rw[i] at b;simp at b));have m:(a.headD []).length<=8:=by
  cases a with
  |nil=>simp
  |cons i a=>exact(f i (by simp)).1
 have o:0<=z*((a.headD []).length:Int)/\z*((a.headD []).length:Int)<=4000*8:=by
  refine⟨Int.mul_nonneg (by omega) (by omega),Mh (by omega) (by omega) (by omega) (by omega)⟩
 have p:=h.hi;have i:qI (z*((a.headD []).length:Int))=z*((a.headD []).length:Int):=uJ (by omega);have j:qI (s.work - z*((a.headD []).length:Int))=s.work - z*((a.headD []).length:Int):=uJ (by omega);rw[i,j];exact⟨h.work (by omega) (by omega),g.1.len,by show -40000<=s.work - z*((a.headD []).length:Int);omega⟩
def Gl{s:St}(h:xX r s)(e:r1.length=1\/r1.length=2)(a:∀n,n∈r1->0<=n/\n<(s.h.length:Int)):xX r (bW r s r1)/\s.h.length<=(bW r s r1).h.length:=by
 rw[bW];split
 .exact⟨h,jF _⟩
 rename_i c b d;obtain⟨_,f,j,g⟩:=Oq h a d;have:=XL (r:=r) g f (by omega) (z:=b) (by omega) (bV c) {s with work:=qI (s.work - qI (b*((c.headD []).length:Int)))} (λi i=>i) (DI h e a d) a;exact this
def CN{s:St}(h:xX r s)(n z:Int):xX r (setIs s n z)/\(setIs s n z).h.length=s.h.length:=by
 have b:(setIs s n z).h.length=s.h.length:=by simp[setIs]
 have d:∀(k:Nat)(y:vM),(setIs s n z).h[k]? =some y->∃x:vM,s.h[k]? =some x/\y.cl=x.cl/\y.wt=x.wt/\y.ja=x.ja:=by
  intro k y a;rw[setIs,List.getElem?_modify] at a
  cases c:s.h[k]? with
  |none=>rw[c] at a;simp at a
  |some x=>
   rw[c] at a;simp only[cO,Option.map_eq_map] at a;refine⟨x,rfl,?_⟩;split at a<;>(injection a with a;subst a;exact⟨rfl,rfl,rfl⟩)
 refine⟨⟨?_,by rw[b];exact h.len,by rw[b];exact h.kj,h.lo,h.hi,by rw[b];exact h.qq,?_,by rw[b];exact h.jt,?_,h.kl.2⟩,b⟩
 .intro y a
  obtain⟨k,e⟩:=uX.1 a;obtain⟨x,c,g,j,_⟩:=d k y e;have:=h.jg x (jU c);exact⟨⟨by rw[g];exact this.1.1,by rw[g];exact this.1.2⟩,by rw[j];exact this.2⟩
 .intro k y a l m i
  obtain⟨x,c,_,_,f⟩:=d k y a;rw[f] at i;exact h.src k x c l m i
 intro y a;obtain⟨k,e⟩:=uX.1 a;obtain⟨x,c,_,_,f⟩:=d k y e;rw[f];exact h.kl.1 x (jU c)
def UZ:∀(k:Nat)(m:Int)(s:St),xX r s->0<=m->m+k<=(s.h.length:Int)->(0<=z/\z<(s.h.length:Int))->xX r (nW r z k m s)/\s.h.length<=(nW r z k m s).h.length:=by
 intro k;induction k with
 |zero=>intro m s h _ _ _;exact⟨h,jF _⟩
 |succ k d=>
  intro m s h e f g;rw[nW]
  have a:=Gl h (r1:=[z,m]) (jE rfl) (λx b=>by
   simp only[qO,sL,or_false] at b
   rcases b with rfl|rfl<;>omega)
  have c:=Gl a.1 (r1:=[m,z]) (jE rfl) (λx b=>by
   have:=a.2;simp only[qO,sL,or_false] at b
   rcases b with rfl|rfl<;>omega)
  split
  .have:=d (m+1) _ c.1 (by omega) (by have:=a.2;have:=c.2;omega) (by have:=a.2;have:=c.2;omega)
   exact⟨this.1,kN a.2 (kN c.2 this.2)⟩
  have:=d (m+1) _ a.1 (by omega) (by have:=a.2;omega) (by have:=a.2;omega);exact⟨this.1,kN a.2 this.2⟩
def iK(a:Zn)(s:St)(n:Int):St:=nW a n (bW a (setIs s n 1) [n]).h.length 0 (bW a (setIs s n 1) [n])
def Ya{s:St}(h:xX r s)(b:0<=z/\z<(s.h.length:Int)):xX r (bW r (setIs s z 1) [z])/\s.h.length<=(bW r (setIs s z 1) [z]).h.length:=by
 have a:=CN h z 1;have:=Gl a.1 (jD rfl) (λx c=>by rw[a.2];rw[vY.1 c];exact b);rw[a.2] at this;exact this
def UX{s:St}(h:xX r s)(b:0<=z/\z<(s.h.length:Int)):xX r (iK r s z):=by
 have a:=Ya h b;exact(UZ _ 0 _ a.1 (mE _) (by omega) (by have:=a.2;omega)).1
def UI(l:List vM):∀(a:List vM)(k:Nat)(m:Int), -1<=m->m<(k:Int)-> -1<=pX l k a m/\pX l k a m<((k+a.length:Nat):Int):=by
 intro a;induction a with
 |nil=>intro k m c d;simp only[pX,mZ];omega
 |cons x a b=>
  intro k m c d;rw[pX,xI];split
  .have:=b (k+1) (k:Int) (by omega) (by omega);omega
  have:=b (k+1) m (by omega) (by omega);omega
def UH(s:St): -1<=lX s/\lX s<(s.h.length:Int):=by
 have:=UI s.h s.h 0 (-1) (by omega) (by omega);rw[lX];omega
def Tb(s:St)(p:List jX):Prop:=((∀m,m∈yW s.last->m<s.Z)->p=[s.last])/\(p.length<=s.h.length+1/\∀i,i∈p->i.G.length<=1000)
def rC(s:St)(a:yL):Prop:=(s.found=true->∃p,Tb s p/\a=⟨1,p,[]⟩)/\(s.found=false->a=⟨3,[],[]⟩)
def bH(b:Zn):Nat->St->yL->Prop
 |0,s,a=>(zQ s=true->rC s a)/\(zQ s=false->(lX s<0->a=⟨2,[],pH s⟩)/\(0<=lX s->rC s a))
 |f+1,s,a=>(zQ s=true->rC s a)/\(zQ s=false->(lX s<0->a=⟨2,[],pH s⟩)/\(0<=lX s->bH b f (iK b s (lX s)) a))
def bH.over{s:St}{a:yL}(h:zQ s=true)(b:rC s a):bH r k s a:=by
 cases k<;>exact⟨λ_=>b,λc=>jN (h.symm.trans c) (by simp)⟩
def bH.sat{s:St}{a:yL}(h:zQ s=false)(d:lX s<0)(c:a=⟨2,[],pH s⟩):bH r k s a:=by
 cases k<;>exact⟨λb=>jN (h.symm.trans b) (by simp),λ_=>⟨λ_=>c,λb=>by omega⟩⟩
def bH.zero{s:St}{a:yL}(b:rC s a)(c:0<=lX s):bH r 0 s a:=⟨λ_=>b,λ_=>⟨λd=>by omega,λ_=>b⟩⟩
def bH.succ{s:St}{a:yL}(h:zQ s=false)(d:0<=lX s)(c:bH r k (iK r s (lX s)) a):bH r (k+1) s a:=⟨λb=>jN (h.symm.trans b) (by simp),λ_=>⟨λb=>by omega,λ_=>c⟩⟩
def RF(q:qT r=0){s:St}(h:xX r s)(t:s.h.length=k/\s.Z=(k:Int))(K:k<60)(f:s.found=false)(g:s.last=kZ)(L: -2000*(k:Int) - 128<=s.work)(i:(qN r c).length<=8)(u:qC r (qN r c))(v:(qN r c).length≠0):
 xX r (mN r s c)/\((mN r s c).h.length=k+1/\(mN r s c).Z=((k+1:Nat):Int))/\(mN r s c).found=false/\(mN r s c).last=kZ/\ -2000*((k+1:Nat):Int) - 128<=(mN r s c).work:=by
 have w:=Vl q i u v kZ;have M:=h.hi;have z:=CD (r:=r) (c:=qN r c) i (l:=s.h) (z:=s.work) (λy b=>(h.jg y b).1.1) (by omega) (by omega);obtain⟨a,e⟩:∃a,a=(if (dR r (qN r c) s.h s.work).1 then {pY r (qN r c) kZ with is:=2} else pY r (qN r c) kZ):=⟨_,rfl⟩;obtain⟨Z,j⟩:=Ze ((dR r (qN r c) s.h s.work).2);rw[<-j] at z;have m:sG r a/\2<=a.wt/\a.wt<=2000:=by rw[e];split<;>exact w
 have A:a.ja=kZ:=by rw[e];split<;>rfl
 have O:=Tq m.1.1 s.h Z (λy b=>(h.jg y b).1.1) (by omega) (by omega);have B:=Ff a s.h Z;have o:=Tl a s.h Z;have C:mN r s c=⟨(vK a s.h Z).1++[a],qI (s.Z+1),(vK a s.h Z).2,s.last,s.found⟩:=by rw[e,j];rfl
 have E:qI (s.Z+1)=((k+1:Nat):Int):=by rw[uJ (by omega)];omega
 rw[C,E];have p:((vK a s.h Z).1++[a]).length=k+1:=by simp[B,t.1]
 refine⟨⟨?_,by show((vK a s.h Z).1++[a]).length<=_;omega,⟨by show(0:Int)<=((k+1:Nat):Int);omega,by show((k+1:Nat):Int)<=(((vK a s.h Z).1++[a]).length:Int);omega⟩,by show _<=(vK a s.h Z).2;omega,by show(vK a s.h Z).2<=_;omega,λ_=>by show 4*(((vK a s.h Z).1++[a]).length:Int)+(vK a s.h Z).2<=_;omega,?_,?_,?_,?_⟩,⟨p,rfl⟩,f,g,by show _<=(vK a s.h Z).2;omega⟩
 .intro y b
  rcases vD.1 b with b|b
  .obtain⟨n,F⟩:=uX.1 b
   obtain⟨G,H,d,I,_⟩:=o n y F;have:=h.jg G (jU H);exact⟨⟨by rw[d];exact this.1.1,by rw[d];exact this.1.2⟩,by rw[I];exact this.2⟩
  rw[vY.1 b];exact m
 .intro n y b d
  have F:n<((vK a s.h Z).1++[a]).length:=(Zl b);have d:((k+1:Nat):Int)<=(n:Int):=d;intro P _;exfalso;rw[p] at F;omega
 .intro G
  exact jN (f.symm.trans G) (by simp)
 .intro y b
  rcases vD.1 b with b|b
  .obtain⟨n,d⟩:=uX.1 b
   obtain⟨H,I,_,_,J⟩:=o n y d;rw[J];exact h.kl.1 H (jU I)
  rw[vY.1 b,A];exact⟨by decide,λ_=>rfl⟩
 show Cb s.last;rw[g];exact⟨by decide,λ_=>rfl⟩
def jDi(b:Zn):xX b mQ:=by
 refine⟨λy a=>jN a (by simp[mQ]),by decide,by decide,by decide,by decide,λ_=>by decide,λn y a=>jN a (by simp[mQ]),λh=>jN h (by simp[mQ]),λy a=>jN a (by simp[mQ]),⟨by decide,λ_=>rfl⟩⟩
abbrev Rg(n:Int)(f:Int->Int):Prop:=∀v,0<=f v/\f v<n
def ZD{a:List Zn}(d:gM r z a)(h:iU r b){f:Int->Int}(e:Rg z f):∃g,Rg z g/\∀t:T,kM z a f (sub (gS b) t)=kM z a g t:=by
 have j:=d.lo;refine⟨λv=>if v=0 then 0 else kM z a f (gS b v),λv=>?_,λt=>?_⟩
 .by_cases c:v=0
  .simp only[jB c];omega
  simp only[jC c];rw[gS]
  cases i:bM b v with
  |none=>
   show 0<=kM z a f ⟨v,0,[]⟩/\kM z a f ⟨v,0,[]⟩<z;rw[tL,jB c];exact e v
  |some u=>
   exact(Rd d _ u (jF _) (h.each v u (BI i).1).2.1 (λx _ _=>e x.v)).1
 rw[Re _ t (jF _)];exact Lr _ t (jF _) λx _ i=>by simp only[jC i]
def LW{a:List Zn}{b:Int->T}{f g:Int->Int}(h:∀t:T,kM z a f (sub b t)=kM z a g t)(c:Zc):qY z a f (eB (sub b) c)=qY z a g c:=by
 rw[qY,qY,eB,List.any_map];congr 1;funext x;show yV z a f (x.1,sub b x.2.1,sub b x.2.2)=_;rw[yV,yV,h,h]
def KF:∀{c:Zc},pT r b c=0->c.map (fN r b)=eB (sub (gS b)) c:=by
 intro c;induction c with
 |nil=>intro _;rfl
 |cons x c g=>
  intro h;rw[pT] at h;by_cases a:iJ r b x=0
  .rw[jB a] at h
   rw[iJ] at a;by_cases d:(vV r b x.2.1).2=0
   .rw[jB d] at a
    have e:=Nw d;have f:=Nw a;show fN r b x::c.map (fN r b)=(x.1,sub (gS b) x.2.1,sub (gS b) x.2.2)::eB (sub (gS b)) c;rw[g h,fN,e.2.2.1,f.2.2.1,Jq _ _ (jF _) e.2.1.2,Jq _ _ (jF _) f.2.1.2]
   rw[jC d] at a;exact jN a d
  rw[jC a] at h;exact jN h a
def Nt{a:List Zn}(i:gM r z a)(j:iU r b)(h:(fB r b c).2=0)
 (k:∀g,Rg z g->(∀s t:T,sub (gS b) s=sub (gS b) t->kM z a g s=kM z a g t)->qY z a g c=true):Sem z a (fB r b c).1:=by
 have l:0<z:=by have:=i.lo;omega
 rw[fB] at h ⊢;by_cases d:pT r b c=0
 .rw[jB d] at h ⊢
  rw[fZ] at h ⊢;by_cases e:kJ r [qQ [] (c.map (fN r b))]=0
  .rw[jB e]
   refine jCs l (mL e).2.2 λf m=>?_;obtain⟨g,n,f⟩:=ZD i j m;rw[Oe,KF d,LW f,k g n (λs t m=>by rw[<-f,<-f,m])];simp
  rw[jC e] at h;exact jN h e
 rw[jC d] at h;exact jN h d
def Rb(h:(xM r t s).2=0):iU r (xM r t s).1/\sub (gS (xM r t s).1) t=sub (gS (xM r t s).1) s:=by
 rw[xM] at h;simp only at h;by_cases a:(gH r t s).2.2=0
 .rw[jB a] at h
  by_cases c:(gH r t s).2.1=true
  .obtain⟨k,e,f,g,_,i,d,_⟩:=DK a c
   have j:(xM r t s).1=e:=(by rw[xM,g]);rw[j];refine⟨i,?_⟩;rw[Lp _ t (jF _) (λv b _=>d v b),Lp _ s (jF _) (λv b _=>d v b),f.same]
  rw[jC c] at h;exact jN h (by decide)
 rw[jC a] at h;exact jN h a
def Fg{d:List Zn}{f:Int->Int}:qY z d f c=true↔∃(j:Nat)(a:Lit),c[j]? =some a/\yV z d f a=true:=by
 rw[qY,mW];constructor
 .rintro⟨a,e,h⟩
  obtain⟨j,b⟩:=Bf e;exact⟨j,a,b,h⟩
 rintro⟨j,a,b,h⟩;exact⟨a,jU b,h⟩
def Ko{b:List Zn}{f:Int->Int}{a:Lit}(d:c[n]? =some a)(e:n≠k)(h:yV z b f a=true):qY z b f (c.eraseIdx k)=true:=by
 rw[qY,mW];exact⟨a,List.mem_eraseIdx_iff_getElem?.2 ⟨n,e,d⟩,h⟩
def Wz{a:List Zn}{f:Int->Int}:qY z a f (c++d)=(qY z a f c||qY z a f d):=by rw[qY,qY,qY,uT]
def Qm{a:List Zn}{f:Int->Int}{x:Lit}(b:Bool)(d:x.1=true):yV z a f x=true↔kM z a f (qG x b)=kM z a f (xG x b):=by
 rw[yV,d,qG,xG]
 cases b
 .simp
 simp only[if_true];constructor
 .intro h
  have c:kM z a f x.2.1=kM z a f x.2.2:=by simpa using h
  exact c.symm
 intro h;have c:=h.symm;simpa using c
def jBc{b:List Zn}{x:Lit}(g:gM r z b)(i:c[k]? =some x)(j:x.1=false)(l:Sem z b c)(h:(iI r c k x).2=0):Sem z b (iI r c k x).1:=by
 rw[iI] at h ⊢;by_cases a:(xM r x.2.1 x.2.2).2=0
 .rw[jB a] at h ⊢
  obtain⟨m,n⟩:=Rb a;refine Nt g m h λf o p=>?_;obtain⟨q,s,d,e⟩:=Fg.1 (l f o);by_cases f:q=k
  .rw[f,i] at d
   obtain rfl:=kT d;rw[yV,j,p _ _ n] at e;simp at e
  exact Ko d f e
 rw[jC a] at h;exact jN h a
def QB{a:List Zn}{x y:Lit}(l:gM r z a)(m:c[k]? =some x)(o:c[n]? =some y)(p:k≠n)(q:x.1=true)(s:y.1=true)(t:Sem z a c)
 (h:(iH r c k (qG x B) (xG x B) (qG y B1) (xG y B1)).2=0):Sem z a (iH r c k (qG x B) (xG x B) (qG y B1) (xG y B1)).1:=by
 rw[iH] at h ⊢;by_cases b:(xM r (qG x B) (qG y B1)).2=0
 .rw[jB b] at h ⊢
  obtain⟨u,v⟩:=Rb b;by_cases d:pW r (xM r (qG x B) (qG y B1)).1 (qG x B) (xG x B)=0
  .rw[jB d] at h ⊢
   refine Nt l u h λg i j=>?_;obtain⟨w,F,e,f⟩:=Fg.1 (t g i);rw[Wz];by_cases i:w=k
   .rw[i,m] at e
    obtain rfl:=kT e;have A:=(Qm B q).1 f;have C:=j _ _ v;by_cases j:kM z a g (xG x B)=kM z a g (xG y B1)
    .rw[Ko o (λE=>p E.symm) ((Qm B1 s).2 (by rw[<-C,A,j]))];rfl
    have:qY z a g [(false,xG x B,xG y B1)]=true:=by
     simp[qY,yV,j]
    rw[this];simp
   rw[Ko e i f];rfl
  rw[jC d] at h;exact jN h d
 rw[jC b] at h;exact jN h b
def jAc{a:List Zn}{f:Int->Int}(h:kM z a f s=kM z a f t):∀(b:Zt)(i:Nat)(r:Int),b[i]? =some t->kM.rowL z a f (b.set i s) r=kM.rowL z a f b r:=by
 intro b;induction b with
 |nil=>intro i r c;simp at c
 |cons d b e=>
  intro i r c
  cases i with
  |zero=>
   rw[vP] at c;obtain rfl:=kT c;show kM.rowL z a f b (r*z+kM z a f s)=kM.rowL z a f b (r*z+kM z a f d);rw[h]
  |succ i=>
   rw[xS] at c;show kM.rowL z a f (b.set i s) (r*z+kM z a f d)=kM.rowL z a f b (r*z+kM z a f d);exact e i _ c
def jEv{c:List Zn}{f:Int->Int}(h:kM z c f t=kM z c f s):∀(p:Zn)(b:T),qK b p=some s->kM z c f (putT t b p)=kM z c f b:=by
 intro p;induction p with
 |nil=>intro b a;obtain rfl:=kT a;exact h
 |cons i p j=>
  intro b a;rw[qK] at a;by_cases g:0<=i/\i<b.e.length
  .rw[jB g] at a
   cases d:b.e[i.toNat]? with
   |none=>rw[d] at a;cases a
   |some k=>
    rw[d] at a;rw[Di d,tL,tL z c f b];simp only;by_cases e:b.v≠0
    .rw[jB e,jB e]
    rw[jC e,jC e,jAc (j k a) _ _ _ d]
  rw[jC g] at a;cases a
def ZJ{b:List Zn}{x y:Lit}(A:gM r z b)(C:c[k]? =some x)(i:d[n]? =some y)(E:x.1=true)(p:qK (qG y B1) r1=some t)(F:Sem z b c)(hd:Sem z b d)
 (h:(sZ r c d k n B1 r1 t (qG x B) (xG x B) (qG y B1) (xG y B1)).2=0):Sem z b (sZ r c d k n B1 r1 t (qG x B) (xG x B) (qG y B1) (xG y B1)).1:=by
 rw[sZ] at h ⊢;by_cases f:(xM r t (qG x B)).2=0
 .rw[jB f] at h ⊢
  obtain⟨G,H⟩:=Rb f;by_cases j:pW r (xM r t (qG x B)).1 (qG x B) (xG x B)=0
  .rw[jB j] at h ⊢
   by_cases l:pW r (xM r t (qG x B)).1 (qG y B1) (xG y B1)=0
   .rw[jB l] at h ⊢
    by_cases a:(lO r (qG y B1) r1 (xG x B)).2=0
    .rw[jB a] at h ⊢
     have I:(lO r (qG y B1) r1 (xG x B)).1=putT (xG x B) (qG y B1) r1:=by
      rw[lO] at a ⊢;by_cases e:kI r [qG y B1,xG x B]=0
      .rw[jB e,p] at a ⊢
       simp only at a ⊢;split at a
       .cases a
       rename_i g;rw[jC g]
      rw[jC e] at a;exact jN a e
     rw[I] at h ⊢;refine Nt A G h λg q o=>?_;obtain⟨J,s,m,e⟩:=Fg.1 (F g q);rw[Wz];by_cases u:J=k
     .rw[u,C] at m
      obtain rfl:=kT m;have K:=(Qm B E).1 e;have L:=o _ _ H;have v:=jEv (show kM z b g (xG x B)=kM z b g t by rw[L,K]) r1 _ p;have:qY z b g (aI d n B1 (putT (xG x B) (qG y B1) r1))=true:=by
       obtain⟨w,s,o,e⟩:=Fg.1 (hd g q);rw[Gn B1 _ i];refine Fg.2 ?_;by_cases g:w=n
       .rw[g,i] at o
        obtain rfl:=kT o;refine⟨n,_,pO (Zl i),?_⟩;rw[yV] at e
        cases B1
        .rw[jC (by simp),yV]
         simp only;rw[v];exact e
        rw[jB rfl,yV];simp only;rw[v];exact e
       exact⟨w,s,by rw[gY (λq=>g q.symm)];exact o,e⟩
      rw[this];simp
     rw[Ko m u e];rfl
    rw[jC a] at h;exact jN h a
   rw[jC l] at h;exact jN h l
  rw[jC j] at h;exact jN h j
 rw[jC f] at h;exact jN h f
def RL:∀(c:Zc)(m:Int),m<=xK c m:=by
 intro c;induction c with
 |nil=>intro m;exact mE m
 |cons x c a=>
  intro m;have:=a (max (max m (xC x.2.1)) (xC x.2.2));rw[xK];omega
def KA{a:List Zn}(e:gM r z a)(f:qC r d)(hd:Sem z a d)(h:(zB c d).2=0):Sem z a (zB c d).1:=by
 rw[zB] at h ⊢;split at h
 .cases h
 rename_i g;rw[jC g];simp only;by_cases b:xK c 0=0
 .rw[jB b];exact hd
 rw[jC b];have k:=RL c 0;refine CF (b:=Dt (xK c 0)) (by have:=e.lo;omega) hd λi i v j=>?_;have:=Us f v j;rw[Dt,tL,jB (by simp only;omega)];exact i _
def TI{m:List Zn}{a:Zm}{i:jX}(k:gM r z m)(w:∀x,x∈a->Sem z m x)(h:(qX r a i).2=0):Sem z m (qX r a i).1:=by
 rw[qX] at h ⊢;by_cases l:kJ r a=0
 .rw[jB l] at h ⊢
  obtain⟨Z,aa,A⟩:=cV l;by_cases d:sY r a i=0
  .rw[jB d] at h ⊢
   by_cases b:sW (kX a i.left) (kX a i.right) i=true
   .rw[jB b] at h ⊢
    have c:(i.L=1\/i.L=2\/i.L=3)/\mT r a i=true:=by
     rw[sY] at d;split at d
     .cases d
     rename_i c;split at d
     .rename_i e;exact⟨by omega,e⟩
     cases d
    obtain⟨G,n⟩:=c;rw[mT] at n;simp only[yY] at n;obtain⟨⟨H,I⟩,f⟩:=n;obtain⟨nl,ab,ac,J⟩:=fR [] H;obtain⟨ad,ae,o,p⟩:=fR aJ I;have s:=w _ (jU J);rcases G with c|c|c
    .rw[jC (by omega)] at h ⊢
     rw[dO,jB c] at h ⊢;rw[sW,jB c] at b;rw[o] at h ⊢;exact jBc k p (by simpa using b) s h
    .rw[jC (by omega)] at h ⊢
     rw[dO,jC (by omega),jB c] at h ⊢;rw[sW,jC (by omega),jB c] at b;rw[jC (by omega),jB c] at f;obtain⟨B,K,t,g⟩:=fR aJ f;simp only[yY,bne_iff_ne] at b;rw[o] at h ⊢;exact QB k p g (by intro af;exact b.2 (by omega)) b.1.1 b.1.2 s h
    rw[jB c] at h ⊢;rw[jC (by omega),jC (by omega)] at f;simp only[yY,beq_iff_eq] at f;obtain⟨⟨L,M⟩,j⟩:=f;obtain⟨nr,ag,ah,O⟩:=fR [] L;obtain⟨B,K,t,g⟩:=fR aJ M;by_cases e:(zB (kX a i.left) (kX a i.right)).2=0
    .rw[jB e] at h ⊢
     have u:=jU O;have hd:=w _ u;have P:=KA k (A _ u).2 hd e;rw[sW,jC (by omega),jC (by omega)] at b;simp only[yY] at b;rw[dO,jC (by omega),jC (by omega)] at h ⊢;have Q:∃q,qK (qG (vR (kX a i.right) i.ra) i.rt) i.G=some q:=by
      rw[pU] at j;split at j
      .cases v:qK (qG (vR (kX a i.right) i.ra) i.rt) i.G with
       |some q=>exact⟨q,rfl⟩
       |none=>rw[v] at j;cases j
      rename_i y;exact jN j y
     obtain⟨q,C⟩:=Q;have R:=jU g;have E:=(A _ u).2 _ R;have S:jQ r (qG (vR (kX a i.right) i.ra) i.rt):=by
      rw[qG];split
      .exact E.2.2
      exact E.1.2
     have U:∃y v,(zB (kX a i.left) (kX a i.right)).1[B]? =some y/\qK (qG y i.rt) i.G=some v:=by
      rw[zB] at e ⊢;split at e
      .cases e
      rename_i V;rw[jC V];simp only;by_cases F:xK (kX a i.left) 0=0
      .rw[jB F];exact⟨_,q,g,C⟩
      rw[jC F];refine⟨((vR (kX a i.right) i.ra).1,yO (xK (kX a i.left) 0) (vR (kX a i.right) i.ra).2.1,yO (xK (kX a i.left) 0) (vR (kX a i.right) i.ra).2.2),yO (xK (kX a i.left) 0) q,by rw[pD,bZ,g];rfl,?_⟩;rw[(CR (yO _) i.rt).1];exact BN _ _ C S
     obtain⟨y,v,q,F⟩:=U;have V:vR (zB (kX a i.left) (kX a i.right)).1 i.ra=y:=by
      show List.getD _ _ _=_;rw[dI,t,q];rfl
     have W:Dg (qG y i.rt) i.G=v:=(by rw[Dg,F];rfl);rw[V,W,o,t] at h ⊢;exact ZJ k p q b.1 F s P h
    rw[jC e] at h;exact jN h e
   rw[jC b] at h;cases h
  rw[jC d] at h;exact jN h d
 rw[jC l] at h;exact jN h l
def jDx{f:List Zn}(g:gM r z f):∀(p:List jX)(a:Zm),(∀c,c∈a->Sem z f c)->(lQ r a p).2=0->∀c,c∈(lQ r a p).1->Sem z f c:=by
 intro p;induction p with
 |nil=>intro a d _ c b;exact d c b
 |cons i p j=>
  intro a d h c b;rw[lQ] at h b;by_cases e:(qX r a i).2=0
  .rw[jB e] at h b
   refine j _ (λk hd=>?_) h c b;rcases vD.1 hd with hd|hd
   .exact d k hd
   rw[vY.1 hd];exact TI g d e
  rw[jC e] at h;exact jN h e
def jCr{a:List Zn}(b:0<z):¬Sem z a []:=λh=>by
 have:=h (λ_=>0) (λ_=>⟨mE 0,b⟩);simp[qY] at this
def dF(c:Bool)(a:Zn)(b:Zm)(p:List jX):Zm×Int:=
 if kJ a b=0 then(if c then([],2) else lQ a b p) else([],kJ a b)
def aX(a:Bool)(b:Zn)(c:Zm)(p:List jX):Bool×Int:=
 if (dF a b c p).2=0 then(if p.length=0 then false else((((dF a b c p).1.getLast?).getD []).length==0),0) else(false,(dF a b c p).2)
def BG{b:List Zn}{a:Zm}{p:List jX}(e:gM r z b)(f:∀c,c∈a->Sem z b c)(h:(dF B r a p).2=0):∀c,c∈(dF B r a p).1->Sem z b c:=by
 rw[dF] at h ⊢;split at h
 .rename_i d
  rw[jB d]
  cases B
  .exact jDx e p a f h
  cases h
 rename_i d;exact jN h d
def jDy:∀(p:List jX)(a:Zm),p.length≠0->(lQ r a p).2=0->(lQ r a p).1≠[]:=by
 intro p;induction p with
 |nil=>intro a c _;exact jN rfl c
 |cons i p d=>
  intro a _ h;rw[lQ] at h ⊢;by_cases b:(qX r a i).2=0
  .rw[jB b] at h ⊢
   cases p with
   |nil=>rw[lQ];simp
   |cons j p=>exact d _ (by simp) h
  rw[jC b] at h;exact jN h b
def BH{a:Zm}{p:List jX}(c:p.length≠0)(h:(dF B r a p).2=0):(dF B r a p).1≠[]:=by
 rw[dF] at h ⊢;split at h
 .rename_i b
  rw[jB b]
  cases B
  .exact jDy p a c h
  cases h
 rename_i b;exact jN h b
def ZC{b:List Zn}{a:Zm}{p:List jX}(d:gM r z b)(f:∀c,c∈a->Sem z b c):(aX B r a p).1=false:=by
 rw[aX];split
 .rename_i h
  simp only;split
  .rfl
  rename_i g
  cases e:(dF B r a p).1.getLast? with
  |none=>exact jN (List.getLast?_eq_none_iff.1 e) (BH g h)
  |some c=>
   have i:=BG d f h c (List.mem_of_getLast? e)
   cases c with
   |nil=>exact jN i (jCr (by have:=d.lo;omega))
   |cons x c=>rfl
 rfl
def jDw{a:Zm}{p:List jX}{i:jX}(b:p[k]? =some i):lQ r a (p.drop k)=if (qX r a i).2=0 then lQ r (a++[(qX r a i).1]) (p.drop (k+1)) else([],(qX r a i).2):=by
 rw[pN (Zl b),(jZ.1 b).2,lQ]
def jE9{o:Oper}{c:Act}{K:Act->N->Prop}{Q:Exit->Act->N->Prop}(s x:Operand)(e:o.op=.call {callee:=.builtin .append,args:=#[s,x],argTypes:=#[25,25]}){v u:Zv}(f:c.eval s=v)(g:w.ownsRow k 39 1 v n U){d:Zv}(h:c.eval x=d)(j:d=Zx m 1 i)(l:w.cell? (D m 0)=some u)(p:u.oneCell'=true)(q:n<=100000)(r:k<=w.heap.size)
 (t:∀a b,b.ownsRow k 39 1 a (n+1) (U++[u])->w.grownBy b v.ownBlock->(a.ownBlock=v.ownBlock\/a.ownBlock=some w.heap.size)->K (c.put o.dst a) b):o.wp Zf c w K Q:=by
 obtain⟨a,b,y,z,A,B⟩:=jAi o.type g j l p q r;unfold Oper.wp execOp;simp only[e,resolve,invoke,builtin,Sem.run_bind,Sem.run_pure,oH,List.map_toArray,yI,List.map_nil,f,h,y];exact t a b z A B
def Rj{d:Array Oper}{e:List Oper}{o:Oper}{c:Act}{Q:Exit->Act->N->Prop}(g:o.guard=none)(s x:Operand)(h:o.op=.call {callee:=.builtin .append,args:=#[s,x],argTypes:=#[25,25]}){v u:Zv}(j:c.eval s=v)(l:w.ownsRow k 39 1 v n U){f:Zv}(p:c.eval x=f)(q:f=Zx m 1 i)(r:w.cell? (D m 0)=some u)(t:u.oneCell'=true)(y:n<=100000)(z:k<=w.heap.size)
 (A:∀a b,b.ownsRow k 39 1 a (n+1) (U++[u])->w.grownBy b v.ownBlock->(a.ownBlock=v.ownBlock\/a.ownBlock=some w.heap.size)->wpList Zf d Q e (c.put o.dst a) b):wpList Zf d Q (o::e) c w:=
 wpList_plain g λ_ B=>jE9 s x h j l p q r t y z λa b C E F=>B _ _ (A a b C E F)
def EO(x:Zm×Int)(e:Ending)(b:N):Prop:=∃a c,e=.returned (.tuple #[.slice a x.1.length c,Y x.2])/\zM b x.1 a
def mV(n m:Nat):Bool:=decide (60<IntKind.i64.wrap ((n:Int)+(m:Int)))
def RJ{x:Zc×Int}{e:Ending}(h:sH x k e w):∃a b,e=.returned (.tuple #[.slice a x.1.length b,Y x.2])/\qA (λj=>k<=j) w x.1 a:=by
 obtain⟨a,b,f,m,c⟩:=h;refine⟨a,b,f,?_⟩;rcases c with c|⟨g,B,rfl,_,i,_,d⟩
 .rw[c];trivial
 exact Iz i (d g (by simp)).1 (λj l=>(d j (by simp[l])).1)
def AP{l e:Zv}{f:Zm}(p:k<=w.heap.size)(i:Zb w u)(j:w.ownsRow k 39 1 l f.length U)(d:eP (λb=>k<=b/\l.ownBlock≠some b) w f U)(q:qA (λb=>w.heap.size<=b) u c a)
 (r:v.ownsRow k 39 1 e (f.length+1) (U++[.slice a c.length n])) (m:(u.alloc (.cells #[.slice a c.length n] g)).grownBy v l.ownBlock) (s:e.ownBlock=l.ownBlock\/e.ownBlock=some (u.alloc (.cells #[.slice a c.length n] g)).heap.size):
 rI k v e (f++[c])/\Below k w v:=by
 have t:=i.size;have o:Zb w (u.alloc (.cells #[Zk a c n] g)):=i.trans ((jG _ _).mono t);refine⟨GG (Mi (λb d h=>⟨d,o.block b h⟩) d) (xP (λb d h=>⟨⟨by omega,λg=>?_⟩,(jG _ _).block b h⟩) q) r m s,(o.mono p).grown m (by simp;omega) (λb d=>(kO j b d).1)⟩;have:=(kO j b g).2;omega
def EJ(B:Nat){b:Zm}(lc:Nat){p:List jX}(pc:Nat)(hl:b.length<=9223372036854775807)(l:∀c,c∈b->c.length<=9223372036854775807)(a4:p.length<=9223372036854775807)(m:∀i,i∈p->i.G.length<=9223372036854775807)(n:jV w r a)(d:zM w b a1)(t:eN w p a2):
 Calls Zf 65 #[.agg #[.slice a r.length B],.slice a1 b.length lc,.slice a2 p.length pc] w λP Q=>EO (dF (mV b.length p.length) r b p) P Q/\Zb w Q:=by
 obtain⟨j,f⟩:=Ze (w.alloc (.cells #[Zk a r B] 24));have e:Zb w j:=f▸jG _ _;have u:Zq j w.heap.size 0 (Zk a r B):=f▸jJ 0 rfl;have ap:=X f;have a5:=X e;have aq:=X u;have o:=X (λ(Q:N)(g:Zb j Q)=>e.trans (g.mono e.size));have g:=X (wR r a B b a1 lc j (kD e n) hl l (dG e d));have h:=X (λ(q:kJ r b=0)=>cV q);obtain⟨Z,k⟩:=Ze (dF (mV b.length p.length) r b p);have s:Hid (Z=if kJ r b=0 then(if mV b.length p.length then([],2) else lQ r b p) else([],kJ r b)):=by show _=_;rw[k,dF]
 rw[<-k];obtain⟨S,v⟩:=Ze (kJ r b);rw[<-v] at g h s;have Hg:=X n;have z:=X d;have Hp:=X t;have ar:=X m;clear k v n d t f e l m
 go_in
 go_upto_region 1 with fail
 rw[<-ap.out]
 go_wp2_with fail
 refine g.mono ?_;rintro P w1 ⟨rfl,e⟩;have ab:=X e;clear e g u;by_cases t:S=0
 .have ec:(S !=0)=false:=by simpa using t
  obtain⟨a6,a7,g⟩:=h t;have ak:=X t;have A:=X g;obtain⟨U,f⟩:∃U,U=IntKind.i64.wrap ((b.length:Int)+(p.length:Int)):=⟨_,rfl⟩;have u:=f.symm;have e:Hid (mV b.length p.length=decide (60<U)):=by show _=_;rw[mV,f]
  clear t g f h;by_cases f:60<U
  .have C:Z=([],2):=by rw[s.out,jB ak.out,e.out,iE f];rfl
   subst C;have E:=X (o _ ab);clear s e;go_wp2
   go_ret2
   exact⟨⟨none,0,rfl,trivial⟩,E⟩
  have ac:Hid (Z=lQ r b p):=by show _=_;rw[s.out,jB ak.out,e.out,cX f];rfl
  clear s e
  go_upto_region 8 with fail
  clear f u
  go_loopw [9,30] (λO i wr=>∃(k:Nat)(g:Zo)(f:Nat),k<=b.length/\i=Y k/\O=.slice g k f/\Hid (rI j.heap.size wr (.slice g k f) (b.take k))/\Hid (Zb j wr)) (λ_ i _=>b.length - (intOf i).toNat)
  case atStart=>exact⟨0,none,0,jY _,rfl,rfl,GH,ab⟩
  case round=>
   obtain⟨k,g,f,hk,rfl,rfl,h,e⟩:=hrel;by_cases ad:k<b.length
   .obtain⟨c,d⟩:=Zg ad
    obtain⟨a8,a9,rfl⟩:=uL z (by omega);obtain⟨ca,cc,J,m⟩:=iX (dG (o _ e) z) d;have l:=A.out c (jU d);have x:=X (Oi cc (by omega) (mP l.2) m);have au:=X (show b.take (k+1)=b.take k++[c] by rw[vZ,d];rfl);have y:(b.take k).length=k:=(by rw[yD];omega);obtain⟨xs,F,G⟩:=h.out;have ae:=e.out.size;have v:=X F;have H2:=X G;have av:(k:Int)<b.length:=(by omega);have aw:(0:Int)<=k:=(by omega);have ba:=l.1;have al:=X y;clear d m l F G h y
    go_wp2_with fail
    refine x.mono ?_;rintro P H ⟨rfl,bb,m⟩;have V:=X m.below;have ax:Hid (qA (λy=>wr.heap.size<=y) H c (some (D wr.heap.size 0))):=Iz (by have l:=m.own;rw[qU] at l;exact l) (jF _) (λy hj=>Nat.le_of_lt (m.jc y hj).1);have af:=X (λag=>vT v (λI n=>((V.trans ((jG H ag).mono V.size)).block I (kO v I n).2)));have ay:=V.size;clear m x J
    go_wp2_with (at_builtin
                 go_must (refine Rj rfl (.tmp 34) (.tmp 37) rfl rfl (af _) rfl rfl (jJ 0 rfl) rfl (by rw[al.out];omega) (by simp;omega) ?_)
                 intro m L x J K)
    obtain⟨a3,L,rfl⟩:=zF x;obtain⟨m,u⟩:=AP ae V v H2 ax x J K;rw[al.out] at m ⊢;rw[<-au.out] at m;have HN:=X m;have ah:=X (e.trans u);clear x J K m u
    go_wp2_with fail
    go_roundw
    case rel=>exact⟨k+1,a3,L,by omega,by go_num,rfl,HN,ah⟩
    case measure=>simp[intOf];omega
   obtain rfl:k=b.length:=by omega
   rw[qU] at h;have az:Hid (b.length<=61/\∀c,c∈b->c.length<=8):=⟨by omega,λc d=>(A c d).1⟩;clear z A
   go_upto_region 13 with fail
   go_loopw [9,42] (λO i wr=>∃(k:Nat)(M:Zm)(g:Zo)(f:Nat),k<=p.length/\i=Y k/\O=Zk g M f/\Hid (rI j.heap.size wr (Zk g M f) M)/\Hid (lQ r M (p.drop k)=Z)/\Hid (M.length<=61/\∀c,c∈M->c.length<=8)/\Hid (Zb j wr)) (λ_ i _=>p.length - (intOf i).toNat)
   case atStart=>exact⟨0,b,g,f,jY _,rfl,rfl,h,ac.symm,az,e⟩
   case round=>
    obtain⟨k,M,g,f,hk,rfl,rfl,h,z,W,e⟩:=hrel;by_cases ad:k<p.length
    .obtain⟨i,hi⟩:=Zg ad
     obtain⟨pb,po,rfl⟩:=FF Hp (by omega);obtain⟨qa,qc,c0,c1,c2,L,c4,c5,c6,c7,hq⟩:=FE (Mg (o _ e) Hp) hi;have av:(k:Int)<p.length:=(by omega);have aw:(0:Int)<=k:=(by omega);obtain⟨W2,aa⟩:=Ze (wr.alloc (.cells #[Y i.L,Y i.left,Y i.right,Y i.la,Y i.ra,.bool i.lt,.bool i.rt,Zk qa i.G qc] 81));have A:Zb wr W2:=aa▸jG _ _;obtain⟨e0,e1,e2,e3,e4,e5,e6,e7⟩:I8 W2 wr.heap.size i qa qc:=aa▸I8.new _ rfl;have g0:=jP A (jP e aq);have HI:=X (Rw B f qc (by have:=W.1;omega) (λc d=>by have:=W.2 c d;omega) (ar i (jU hi)) (kD A (kD (o _ e) Hg)) (kD A hq) (dG A (Sr h)));have O:=X (jDw (r:=r) (a:=M) hi);have ai:=X (λ(q:(qX r M i).2=0)=>Xd q);obtain⟨R,hR⟩:=Ze (qX r M i);rw[<-hR] at HI O ai;have am:=X aa;have aj:=X A;have ae:=e.size;clear hR hi aa A hq
     go_upto_region 15 with fail
     rw[<-am.out];clear c0 c1 c2 L c4 c5 c6 c7
     go_wp2_with fail
     refine HI.mono ?_;rintro P H ⟨aa,an⟩;have ao:=X (RJ aa);have A:=X (aj.trans (an.mono aj.size));clear aa HI an g0 e0 e1 e2 e3 e4 e5 e6 e7 am;obtain⟨ra,rc,rfl,aa⟩:=ao.out;have an:Hid (qA (λy=>wr.heap.size<=y) H R.1 ra):=nR (λy hj=>kN aj.out.size hj) aa;clear aa ao;by_cases y:R.2=0
     .have er:(R.2 !=0)=false:=by simpa using y
      obtain⟨aa,am⟩:=ai y;have bc:=(cV am).2.1;have ao:Hid (lQ r (M++[R.1]) (p.drop (k+1))=Z):=by
       have l:=O.out;rw[jB y,z.out] at l;exact l.symm
      have a0:Hid ((M++[R.1]).length<=61/\∀c,c∈M++[R.1]->c.length<=8):=by
       refine⟨by rw[qB];simp;omega,λc d=>?_⟩;rcases vD.1 d with q|q
       .exact W.2 c q
       rw[vY.1 q];exact aa
      obtain⟨xs,F,G⟩:=h;have v:=X F;have H2:=X G;have af:=X (λag=>vT v (λI n=>((A.trans ((jG H ag).mono A.size)).block I (kO v I n).2)));have ay:=A.size;clear F G h O ai y aa am z W
      go_wp2_with (at_builtin
                   go_must (refine Rj rfl (.tmp 56) (.tmp 58) rfl rfl (af _) rfl rfl (jJ 0 rfl) rfl (by omega) (by simp;omega) ?_)
                   intro q F x J K)
      obtain⟨a3,L,rfl⟩:=zF x;obtain⟨m,u⟩:=AP ae A v H2 an x J K;have q:(M++[R.1]).length=M.length+1:=(by rw[qB];rfl);rw[<-q] at m ⊢;have HN:=X m;have ah:=X (e.trans u);clear x J K m u q
      go_wp2_with fail
      go_roundw
      case rel=>exact⟨k+1,M++[R.1],a3,L,by omega,by go_num,rfl,HN,ao,a0,ah⟩
      case measure=>simp[intOf];omega
     have er:(R.2 !=0)=true:=(by simpa using y);have C:Z=([],R.2):=by
      have l:=O.out;rw[jC y,z.out] at l;exact l
     subst C;have E:=X (o _ (e.trans (A.mono e.size)));clear ac z O y;go_wp2
     go_ret2
     exact⟨⟨none,0,rfl,trivial⟩,E⟩
    obtain rfl:k=p.length:=by omega
    have C:Z=(M,0):=(by rw[<-z.out,dX,lQ]);subst C;have E:=X (o _ e);have k:=X (Sr h);clear ac z;go_wp2
    go_ret2
    exact⟨⟨g,f,rfl,k⟩,E⟩
 have ec:(S !=0)=true:=by simpa using t
 have e:Z=([],S):=by rw[s.out,jC t]
 subst e;have f:=X (o _ ab);clear s t;go_wp2
 go_ret2
 exact⟨⟨none,0,rfl,trivial⟩,f⟩
def tP(p:Zp)(w:N):Zm->Zu->Prop
 |[],xs=>xs=[]
 |c::e,xs=>∃a b d,xs=.slice a c.length b::d/\(c.length<=b/\qA p w c a)/\tP p w e d
def Mm{c e:Zm}:∀{xs a:Zu},tP p w c xs->tP p w e a->tP p w (c++e) (xs++a):=by
 induction c with
 |nil=>intro xs a b d;rw[show xs=[] from b];exact d
 |cons x c f=>
  intro xs a b d;obtain⟨g,i,j,rfl,k,h⟩:=b;exact⟨g,i,j++a,rfl,k,f h d⟩
def Eh{c:Zm}(b:∀k,p k->k<w.heap.size->p1 k/\u.heap[k]? =w.heap[k]?):∀{xs:Zu},tP p w c xs->tP p1 u c xs:=by
 induction c with
 |nil=>intro xs h;exact h
 |cons x c d=>
  intro xs h;obtain⟨e,f,g,rfl,a,h⟩:=h;exact⟨e,f,g,rfl,⟨a.1,xP b a.2⟩,d h⟩
def Ig{a:Zm}:∀{xs:Zu}{j:Nat}{c:Zc},tP p w a xs->a[j]? =some c->∃b d,xs[j]? =some (.slice b c.length d)/\c.length<=d/\qA p w c b:=by
 induction a with
 |nil=>intro xs j c _ h;simp at h
 |cons x a g=>
  intro xs j c h e;obtain⟨b,d,i,rfl,f,h⟩:=h
  cases j with
  |zero=>simp at e;subst e;exact⟨b,d,rfl,f.1,f.2⟩
  |succ j=>simpa using g h (by simpa using e)
def QE{s:St}(h:zQ s=true)(a:0<r.length):gT s r=none:=by
 cases r with
 |nil=>simp at a
 |cons n r=>rw[gT,jB (by rw[h];rfl)]
def QD{s:St}(h:((cZ s z).is !=1)=true):gT s (z::r)=none:=by rw[gT,jB (by rw[h];simp)]
def QF{s:St}(a:zQ s=false)(h:((cZ s z).is !=1)=false):gT s (z::r)=(gT s r).map (λq=>((cZ s z).cl::q.1,q.2+(cZ s z).wt)):=by
 rw[gT,jC (by rw[h,a];simp)]
 cases gT s r<;>rfl
def bY(ar:Zn)(ga:Zo)(gcap:Nat)(R:Zp)(h:Nat)(lv:Zv)(w:N)(s:St)(a:N):Prop:=
 (∃R' lv' pa pc xs,HA ar ga gcap R' h s lv' pa pc xs a/\((∀k,R k->R' k)/\∀k,R' k->R k\/w.heap.size<=k)/\(lv'.ownBlock=lv.ownBlock\/∃g,lv'.ownBlock=some g/\w.heap.size<=g))/\bB h lv w a
def Ik{lv:Zv}(b:bB k lv w u)(c:jR p u v)(f:∀a,p a->w.heap.size<=a\/(a=k\/lv.ownBlock=some a)):bB k lv w v:=
 ⟨b.below.trans c.below,λa d e=>(c.block a (kV d b.below.size) (λg=>(f a g).elim (λk=>by omega) e)).trans (b.block a d e)⟩
structure rO (ar:Zn) (ga:Zo) (gcap:Nat) (R:Zp) (h:Nat) (lv:Zv) (W:N) (O:Zp) (st:St) (A:N) (R':Zp) (lv':Zv) (pa:Zo) (pc:Nat) (xs:Zu):Prop where
 H:HA ar ga gcap R' h st lv' pa pc xs A
 r1:∀k,R k->R' k
 r2:∀k,R' k->R k\/W.heap.size<=k
 o:∀k,O k->W.heap.size<=k/\k<A.heap.size/\¬R' k/\k≠h/\lv'.ownBlock≠some k
 own:lv'.ownBlock=lv.ownBlock\/∃g,lv'.ownBlock=some g/\W.heap.size<=g
 kp:bB h lv W A
section
variable {ar:Zn} {ga:Zo} {gcap:Nat} {R:Zp} {h:Nat} {lv:Zv} {W:N} {O O':Zp} {st:St} {A B:N} {R':Zp} {lv':Zv} {pa:Zo} {pc:Nat} {xs:Zu}
def rO.step(a:rO ar ga gcap R h lv W O st A R' lv' pa pc xs)(b:jR O A B)(c:∀k,O' k->k<B.heap.size/\(O k\/A.heap.size<=k)):rO ar ga gcap R h lv W O' st B R' lv' pa pc xs:=by
 refine⟨a.H.kp b (λk b=>(a.o k b).2.2),a.r1,a.r2,?_,a.own,Ik a.kp b (λk b=>jD (a.o k b).1)⟩;intro k d;obtain⟨q1,q2|q2⟩:=c k d
 .exact⟨(a.o k q2).1,q1,(a.o k q2).2.2⟩
 exact⟨kN a.kp.below.size q2,q1,λe=>by have:=(a.H.S k e).1;omega,λe=>by have:=a.H.lt;omega,λe=>by have:=(a.H.own k e).2;omega⟩
def rO.out(a:rO ar ga gcap R h lv W O st A R' lv' pa pc xs):bY ar ga gcap R h lv W st A:=⟨⟨R',lv',pa,pc,xs,a.H,⟨a.r1,a.r2⟩,a.own⟩,a.kp⟩
end
def Xb{a:List jX}{pre:List vA}{x:vA}(h:iM a pre x w):x.i∈a:=by
 obtain⟨⟨b,h⟩,_⟩:=h;rw[h];simp
def jEi{s:St}{lv:Zv}(ad:HA r a k p n s lv a1 m U w){d:Zm}(I:St->Prop)(an:I s)
 (ao:∀st y,I st->y∈bV d->zQ (fP r z r1 st y (qX r d y))=false->I (fP r z r1 st y (qX r d y))) (ae:∀st,I st->st.h.length<=1000000/\∀af,af∈st.h->sG r af) (M:∀b,p1 b->b<w.heap.size) (ap:∀b,p b->p1 b) (P:∀b,p1 b->sM n lv b) (fc:Nat) (aq:zX p1 w d i j) (ar:d.length=1\/d.length=2) (ag:∀t,t∈d->t.length<=8/\qC r t) (kh:p1 n1) (kw:p1 n2) (kn:p1 n3)
 (ch:w.cell? (D n1 0)=some (Zr n)) (cw:w.cell? (D n2 0)=some (Y z)) (cn:w.cell? (D n3 0)=some (.slice a2 r1.length n4)) (au:IP p1 w r1 a2) (a5:r1.length=d.length):
 Calls Zf 70 #[.agg #[.slice a r.length k],.func (.func 112) #[] #[Zr n1,Zr n2,Zr n3],Zz i j d.length fc] w λf B=>(∃F,f=.returned (.bool F))/\bY r a k p n lv w (pA r d z r1 (bV d) s) B:=by
 refine(AA k fc
  (λO pre A=>∃st o,(bV d=pre.map vA.i++o/\pA r d z r1 (bV d) s=pA r d z r1 o st/\I st)/\∃R' lv' g h l,rO r a k p n lv w O st A R' lv' g h l)
  (λO _ A=>∃R' lv' g h l,rO r a k p n lv w O (pA r d z r1 (bV d) s) A R' lv' g h l)
  (enters_of Tryz.func112 (by kernel_rfl) rfl) M (yH (λb c _=>⟨ap b c,rfl⟩) ad.sig) aq ar (λt E=>⟨by have:=(ag t E).1;omega,(ag t E).2⟩) ?_ ?_ ?_ ?_).mono ?_
 .rintro O O' pre A B ⟨st,o,h1,R',lv',g,h,l,e⟩ c ho
  exact⟨st,o,h1,R',lv',g,h,l,e.step c ho⟩
 .rintro O pre A B ⟨R',lv',g,h,l,e⟩ c
  exact⟨R',lv',g,h,l,e.step c (λb q=>⟨kV (e.o b q).2.1 c.below.size,jD q⟩)⟩
 .rintro O pre x A Q ca cc ⟨st,o,⟨G,q,R⟩,R',lv',g,h,l,e⟩ ah av hQ aw ax
  have ai:=Xb ah;obtain⟨⟨aj,H⟩,u⟩:=ah;have ay:o=x.i::aj:=by
   rw[G] at H;exact List.append_cancel_left H
  subst ay;rw[pA] at q;obtain⟨i1,i2⟩:=Qy ai;have ak:=λb c=>e.kp.block b (M b c) (P b c)
  have J:∀b,p1 b->sM n lv' b:=λb c f=>f.elim (λf=>P b c (jD f)) (λf=>by
   rcases e.own with v|⟨C,q1,q2⟩
   .exact P b c (jE (v▸f))
   rw[q1] at f;injection f with f;have:=M b c;omega)
  have S:∀{v:Nat}{C:Zv},p1 v->Zq w v 0 C->Zq A v 0 C:=λC K=>(kH (w:=w) (a:=(D _ 0)) (ak _ C)).trans K;have V:∀b,fW x b\/Q b->O b:=λb c=>c.elim (av b) (hQ b);have HR:=e.H.more (λb c=>jD c) (λb c=>c.elim (e.H.S b) (λc=>⟨(e.o b (V b c)).2.1,(e.o b (V b c)).2.2.2⟩));have az:IP (λb=>R' b\/(fW x b\/Q b)) A x.i.G x.pa:=by
   rcases u with u|⟨v,K,u,E⟩
   .exact jD u
   exact jE ⟨v,K,u,jE (jD ⟨K,u⟩),E⟩
  have al:(qX r d x.i).2=0->(qX r d x.i).1.length<=8/\qC r (qX r d x.i).1:=λn=>(mL (Ph n)).2;obtain⟨K,a0,a3⟩:∃K:Nat,x.i.right=(K:Int)/\(x.i.L=3->K<r1.length):=by
   rcases i2 with⟨_,q2,E⟩|⟨q1,q2⟩
   .exact⟨1,q2,λ_=>by omega⟩
   exact⟨0,q2,λv=>jN v q1⟩
  refine(OC HR (ae st R).1 (ae st R).2 n1 n2 n3 z r1 a2 n4 (J _ kh) (J _ kn) (S kh ch) (S kw cw) (S kn cn) (yH (λb c _=>⟨J b c,ak b c⟩) au) (qX r d x.i).1 (qX r d x.i).2 x.i ca cc x.pa x.pc 0 K (λn=>(al n).1) (λn=>(al n).2) ax (nR (λb c=>jE (jE c)) aw) az i1 (by omega) a0 a3).mono ?_;rintro f B ⟨rfl,⟨W,Z,aa,ab,H2,am⟩,L⟩;have hT:∀v:Zp,(∀b,v b->O b/\¬(fW x b\/Q b))->rO r a k p n lv w v (fP r z r1 st x.i ((qX r d x.i).1,(qX r d x.i).2)) B (λb=>R' b\/(fW x b\/Q b)) W Z aa ab:=by
   intro v a4;refine⟨H2,λb c=>jD (e.r1 b c),λb c=>c.elim (e.r2 b) (λc=>jE (e.o b (V b c)).1),?_,?_,?_⟩
   .intro b c
    obtain⟨q1,q2⟩:=a4 b c;have v:=e.o b q1;refine⟨v.1,kV v.2.1 L.below.size,λf=>f.elim v.2.2.1 q2,v.2.2.2.1,λf=>?_⟩;rcases am with E|⟨ac,q4,q5⟩
    .exact v.2.2.2.2 (E▸f)
    rw[q4] at f;injection f with f;omega
   .rcases am with E|⟨ac,q4,q5⟩
    .rw[E];exact e.own
    exact jE ⟨ac,q4,kN e.kp.below.size q5⟩
   refine Ik e.kp L (λb c=>?_);rcases c with c|c
   .exact jE (jD c)
   rcases e.own with E|⟨ac,q1,q2⟩
   .exact jE (jE (E▸c))
   rw[q1] at c;injection c with c;exact jD (by omega)
  refine⟨_,rfl,⟨L.below,λb c v=>L.block b c (λf=>?_)⟩,λC=>?_,λC=>?_⟩
  .rcases v with v|v
   .exact J b v f
   exact f.elim (e.o b v).2.2.2.1 (e.o b v).2.2.2.2
  .have v:zQ (fP r z r1 st x.i (qX r d x.i))=false:=by simpa using C
   rw[jC (by rw[v];simp)] at q;exact⟨_,aj,⟨by rw[G];simp,q,ao st x.i R ai v⟩,_,W,Z,aa,ab,hT _ (λb c=>c)⟩
  have v:zQ (fP r z r1 st x.i (qX r d x.i))=true:=by simpa using C
  rw[jB v] at q;rw[q];exact⟨_,W,Z,aa,ab,hT _ (λb c=>c)⟩
 .exact⟨s,bV d,⟨by simp,rfl,an⟩,p,lv,a1,m,U,ad,λb c=>c,λb c=>jD c,λb c=>c.elim,jD rfl,jR.refl _ _⟩
 rintro f B ⟨F,rfl,c,v⟩;refine⟨⟨F,rfl⟩,?_⟩
 cases F with
 |true=>
  obtain⟨O,C,G,st,o,⟨q,H,_⟩,R',lv',g,h,l,e⟩:=c rfl;rw[G] at q;have:o=[]:=by simpa using q
  subst this;rw[H,pA];exact e.out
 |false=>
  obtain⟨O,pre,R',lv',g,h,l,e⟩:=v rfl;exact e.out
def UJ{l:List vM}{x:vM}(h:l[k]? =some x)(a:B=(x.is==0 && (decide (z<0)||decide (x.wt<(l.getD z.toNat ⟨[],0,kZ,0⟩).wt)))):pX l k (l.drop k) z=pX l (k+1) (l.drop (k+1)) (if B then(k:Int) else z):=by
 rw[Jz h,pX,a]
def UK{s:St}{B:Zv}(H:HA r a k p n s B a1 m U w)(ag:s.h.length<=1000000):
 Calls Zf 59 #[Zr n] w λL O=>L=.returned (Y (lX s))/\Zb w O:=by
 have c:=H.cells 1;simp only[zG,vP,xS] at c;obtain⟨t,u,rfl⟩:∃t u,B=.slice t s.h.length u:=by
  rcases H.row.2 with⟨b,d⟩|⟨g,e,f,b,_⟩
  .exact⟨none,0,by rw[b,d]⟩
  exact⟨_,_,b⟩
 obtain⟨f,b⟩:=Ze (lX s);rw[<-b];have P:Hid (f=pX s.h 0 (s.h.drop 0) (-1)):=X (by rw[b,uU];rfl);have Q:=X H;clear H b
 go_in
 go_wp2_with fail
 clear c
 go_loopw [3,12] (λv d wr=>∃(b:Nat)(c:Int),b<=s.h.length/\d=Y b/\v=Y c/\(-1<=c/\c<(b:Int))/\Hid (f=pX s.h b (s.h.drop b) c)/\Hid (Zb w wr)) (λv d wr=>s.h.length - (intOf d).toNat)
 case atStart=>exact⟨0, -1,jY _,rfl,rfl,⟨by omega,by omega⟩,P,X (jW _ _)⟩
 case round=>
  obtain⟨b,c,hk,rfl,rfl,hm,e,l⟩:=hrel;by_cases R:b<s.h.length
  .obtain⟨y,v⟩:=Zg R
   have i:=Q.below l;obtain⟨x,S,C,E,F,G,H,⟨M,V⟩,d,W,Z,aa,ab⟩:=i.at v;obtain⟨rfl,rfl⟩:t=some (D x 0)/\u=S:=by injection H with g _ h3;exact⟨g,h3⟩
   have I:=d 0 _ rfl;have q1:=d 1 _ rfl;have q2:=d 2 _ rfl;have q3:=d 3 _ rfl;have q4:=d 4 _ rfl;have q5:=d 5 _ rfl;have q6:=d 6 _ rfl;have q7:=d 7 _ rfl;have q8:=d 8 _ rfl;have q9:=d 9 _ rfl;have ac:=d 10 _ rfl;simp only[mG] at I;have ah:(b:Int)<s.h.length:=(by omega);have ai:(0:Int)<=b:=(by omega);obtain⟨z,j⟩:=Ze (wr.alloc (.cells (vI y.cl y.wt y.ja y.is C E F G) 104));have o:Zb wr z:=j▸jG _ _;have A:xL z wr.heap.size y.cl y.wt y.ja y.is C E F G:=j▸iL;have aj:=A.get.1.2.1;have ak:=A.get.2.1.2.2.2.2;have ad:=(i.below o).cells 1;simp only[zG,vP,xS] at ad;have h:0<=c->z.cell? (D x (c.toNat*11+1))=some (Y (s.h.getD c.toNat ⟨[],0,kZ,0⟩).wt):=by
    intro al;obtain⟨q,J⟩:∃q,s.h[c.toNat]? =some q:=⟨s.h[c.toNat]'(by omega),jO _⟩;obtain⟨K,am,_,_,_,_,ae,_,af,_⟩:=i.at J;obtain rfl:x=K:=by injection ae with g;injection g with g;injection g
    rw[show s.h.getD c.toNat ⟨[],0,kZ,0⟩=q by simp[List.getD,J]];exact jH o (af 1 _ rfl)
   have J:=X j;have q:=X (l.trans (o.mono l.size));have K:=X v;clear v d W Z aa ab j A V M i o H
   go_upto_region 5 with fail
   rw[<-J.out];clear I q1 q2 q3 q4 q5 q6 q7 q8 q9 ac J;generalize wr.heap.size=V at*;have d:=X (λ(i:Bool)j=>UJ (k:=b) (z:=c) (B:=i) K j);clear K
   cases o:(y.is==0) with
   |false=>
    have i:Hid (f=pX s.h (b+1) (s.h.drop (b+1)) c):=X (by rw[e.out,d.out false (by rw[o];rfl)];rfl);clear h d e
    go_quiet (fail)
    go_wp2_with fail
    go_roundw
    case rel=>exact⟨b+1,c,by omega,by go_num,rfl,by omega,i,X (Fh q _)⟩
    case measure=>simp[intOf];omega
   |true=>
    by_cases v:c<0
    .obtain rfl:c= -1:=by omega
     have i:Hid (f=pX s.h (b+1) (s.h.drop (b+1)) (b:Int)):=X (by rw[e.out,d.out true (by rw[o];rfl)];rfl);clear h d e v
     go_quiet (fail)
     go_wp2_with fail
     go_roundw
     case rel=>exact⟨b+1,(b:Int),by omega,by go_num,rfl,by omega,i,X (Fh q _)⟩
     case measure=>simp[intOf];omega
    obtain⟨M,rfl⟩:∃M:Nat,c=(M:Int):=⟨c.toNat,by omega⟩;have A:=h (by omega);rw[pK] at A;have J:(M:Int)<s.h.length:=(by omega);have K:(0:Int)<=M:=(by omega);have H:=cX v;obtain⟨I,j⟩:=Ze ((s.h.getD M ⟨[],0,kZ,0⟩).wt);rw[<-j] at A
    cases hd:decide (y.wt<I) with
    |false=>
     have i:Hid (f=pX s.h (b+1) (s.h.drop (b+1)) (M:Int)):=X (by rw[e.out,d.out false (by rw[o,H,pK,<-j,hd];rfl)];rfl);clear h d e j
     go_quiet (fail)
     go_wp2_with fail
     go_roundw
     case rel=>exact⟨b+1,(M:Int),by omega,by go_num,rfl,by omega,i,X (Fh q _)⟩
     case measure=>simp[intOf];omega
    |true=>
     have i:Hid (f=pX s.h (b+1) (s.h.drop (b+1)) (b:Int)):=X (by rw[e.out,d.out true (by rw[o,H,pK,<-j,hd];rfl)];rfl);clear h d e j
     go_quiet (fail)
     go_wp2_with fail
     go_roundw
     case rel=>exact⟨b+1,(b:Int),by omega,by go_num,rfl,by omega,i,X (Fh q _)⟩
     case measure=>simp[intOf];omega
  obtain rfl:b=s.h.length:=by omega
  have b:Hid (f=c):=X (by rw[e.out,dX];rfl);go_wp2;go_ret;exact⟨by rw[b.out];rfl,l⟩
def jAj{v u x:Zv}(d:TypeId)(f:w.ownsRow k 39 1 v n U)(g:x=Zx m 1 i)(h:w.cell? (D m 0)=some u)(l:u.oneCell'=true)(F:n<=1000000)(o:k<=w.heap.size):
 ∃b c,(Builtin.append_ #[25,25] d #[v,x]).run Zf w=.ok b c/\c.ownsRow k 39 1 b (n+1) (U++[u])/\w.grownBy c v.ownBlock/\(b.ownBlock=v.ownBlock\/b.ownBlock=some w.heap.size):=by
 subst g;obtain⟨p,q,e⟩:=bQ.1 Tryz.qh;simp only[bG] at e;obtain⟨r,s,t⟩:=e
 obtain⟨b,c,y,z,A,_,B⟩:=run_append_own_at w k 25 d 39 p (Zd) 1 24 Tryz.kq q r s t rfl (by decide) v n U f (D m 0) 1 i [u] rfl (λj C a=>by
  have E:((D m 0):Addr).add j=(D m j):=by simp[Addr.add];omega
  rw[E]
  match j,a with
  |0,a=>simp at a;subst a;exact h
  |j+1,a=>simp at a) (λC a=>by simp at a;subst a;exact l) (by unfold maxLen;omega) (by omega) o
 exact⟨b,c,y,z,A,B⟩
def jFa{o:Oper}{c:Act}{K:Act->N->Prop}{Q:Exit->Act->N->Prop}(s x:Operand)(e:o.op=.call {callee:=.builtin .append,args:=#[s,x],argTypes:=#[25,25]}){v u:Zv}(f:c.eval s=v)(g:w.ownsRow k 39 1 v n U){d:Zv}(h:c.eval x=d)(j:d=Zx m 1 i)(l:w.cell? (D m 0)=some u)(p:u.oneCell'=true)(q:n<=1000000)(r:k<=w.heap.size)
 (t:∀a b,b.ownsRow k 39 1 a (n+1) (U++[u])->w.grownBy b v.ownBlock->(a.ownBlock=v.ownBlock\/a.ownBlock=some w.heap.size)->K (c.put o.dst a) b):o.wp Zf c w K Q:=by
 obtain⟨a,b,y,z,A,B⟩:=jAj o.type g j l p q r;unfold Oper.wp execOp;simp only[e,resolve,invoke,builtin,Sem.run_bind,Sem.run_pure,oH,List.map_toArray,yI,List.map_nil,f,h,y];exact t a b z A B
def DX{d:Array Oper}{e:List Oper}{o:Oper}{c:Act}{Q:Exit->Act->N->Prop}(g:o.guard=none)(s x:Operand)(h:o.op=.call {callee:=.builtin .append,args:=#[s,x],argTypes:=#[25,25]}){v u:Zv}(j:c.eval s=v)(l:w.ownsRow k 39 1 v n U){f:Zv}(p:c.eval x=f)(q:f=Zx m 1 i)(r:w.cell? (D m 0)=some u)(t:u.oneCell'=true)(y:n<=1000000)(z:k<=w.heap.size)
 (A:∀a b,b.ownsRow k 39 1 a (n+1) (U++[u])->w.grownBy b v.ownBlock->(a.ownBlock=v.ownBlock\/a.ownBlock=some w.heap.size)->wpList Zf d Q e (c.put o.dst a) b):wpList Zf d Q (o::e) c w:=
 wpList_plain g λ_ B=>jFa s x h j l p q r t y z λa b C E F=>B _ _ (A a b C E F)
def bI(K:Zp)(w:N)(a:Zm)(d:Zo):Prop:=a=[]\/∃b c,d=some (D b c)/\zX K w a b c
def bI.clauses{b:Zm}(h:bI p w b a):zM w b a:=by
 rcases h with rfl|⟨c,d,rfl,h⟩
 .trivial
 exact h.clauses
def bI.same{w':N}{b:Zm}(h:bI p w b a)(c:∀k,p k->w'.heap[k]? =w.heap[k]?):bI p w' b a:=by
 rcases h with rfl|⟨d,e,rfl,h⟩
 .exact jD rfl
 exact jE ⟨d,e,rfl,h.same c⟩
def bI.imp{b:Zm}(h:bI p w b a)(c:∀k,p k->p1 k):bI p1 w b a:=by
 rcases h with rfl|⟨d,e,rfl,h⟩
 .exact jD rfl
 refine jE ⟨d,e,rfl,c _ h.1,λj f g=>?_⟩;obtain⟨i,l,m,n,o⟩:=h.2 j f g;exact⟨i,l,m,n,nR c o⟩
def TY{l e:Zv}{i:Zm}(r:k<=w.heap.size)(j:Zb w u)(m:w.ownsRow k 39 1 l i.length U)(d:tP (λb=>k<=b/\l.ownBlock≠some b) w i U)(s:c.length<=n)(t:qA (λb=>w.heap.size<=b) u c a)
 (o:(u.alloc (.cells #[.slice a c.length n] g)).grownBy v l.ownBlock) (x:e.ownBlock=l.ownBlock\/e.ownBlock=some (u.alloc (.cells #[.slice a c.length n] g)).heap.size):
 tP (λb=>k<=b/\e.ownBlock≠some b) v (i++[c]) (U++[.slice a c.length n])/\Below k w v:=by
 have y:=j.size;have z:Zb w (u.alloc (.cells #[.slice a c.length n] g)):=j.trans ((jG _ _).mono y);have A:(u.alloc (.cells #[.slice a c.length n] g)).heap.size=u.heap.size+1:=by simp
 have f:∀b,b<u.heap.size->l.ownBlock≠some b->e.ownBlock≠some b/\v.heap[b]? =u.heap[b]?:=λb d p=>by
  refine⟨λh=>?_,(o.block b (by omega) (λh=>p h.symm)).trans ((jG _ _).block b d)⟩;rcases x with q|q
  .exact p (q▸h)
  rw[q] at h;injection h with h;omega
 have B:=Eh (p1:=λb=>k<=b/\e.ownBlock≠some b) (u:=v) (λb d h=>⟨⟨d.1,(f b (by omega) d.2).1⟩,(f b (by omega) d.2).2.trans (j.block b h)⟩) d;have p:∀b,w.heap.size<=b->l.ownBlock≠some b:=λb d C=>by have:=(kO m b C).2;omega
 have C:=xP (p1:=λb=>k<=b/\e.ownBlock≠some b) (u:=v) (λb d h=>⟨⟨by omega,(f b h (p b d)).1⟩,(f b h (p b d)).2⟩) t;exact⟨Mm B ⟨a,n,[],rfl,⟨s,C⟩,rfl⟩,(z.mono r).grown o (by rw[A];omega) (λb d=>(kO m b d).1)⟩
def UB{v:Zv}{c:Zm}(f:w.ownsRow k 39 1 v c.length U)(d:tP (λa=>k<=a/\v.ownBlock≠some a) w c U):∃b e,v=.slice b c.length e/\bI (λa=>k<=a/\a<w.heap.size) w c b:=by
 by_cases h:0<c.length
 .obtain⟨i,e,rfl,j,l,m⟩:=fX f h
  refine⟨_,e,rfl,jE ⟨i,0,rfl,⟨j,l⟩,λn g o=>?_⟩⟩;obtain⟨b,p,q,r,s⟩:=Ig d o;exact⟨b,p,by rw[kK];exact m n _ q,r,xP (λa d n=>⟨⟨d.1,n⟩,rfl⟩) s⟩
 obtain⟨b,g,n⟩:=zF f;exact⟨b,g,n,jD (yM.1 (by omega))⟩
def jCw{s:St}{y:vM}(h:s.h[k]? =some y):((s.h.take (k+1)).filter (λx=>x.is==1)).map (λx=>x.cl)=((s.h.take k).filter (λx=>x.is==1)).map (λx=>x.cl)++(if y.is==1 then [y.cl] else []):=by
 rw[vZ,h,Mp,nP]
 cases a:y.is==1<;>simp[a]
def jCx{s:St}{J:Zv}(H:HA r a k p n s J a1 m U w)(ai:s.h.length<=1000000)(d:∀y,y∈s.h->sG r y):
 Calls Zf 60 #[Zr n] w λK A=>(∃u j,K=.returned (.slice u (pH s).length j)/\bI (λb=>w.heap.size<=b/\b<A.heap.size) A (pH s) u)/\Zb w A:=by
 have e:=H.cells 1;simp only[zG,vP,xS] at e;obtain⟨B,C,rfl⟩:∃B C,J=.slice B s.h.length C:=by
  rcases H.row.2 with⟨c,f⟩|⟨g,j,h,c,_⟩
  .exact⟨none,0,by rw[c,f]⟩
  exact⟨_,_,c⟩
 have HH:=X H;have aa:=X d;clear H d
 go_in
 go_wp2_with fail
 clear e
 go_loopw [3,12] (λv c wr=>∃(b d:Nat)(l:Zo)(o:Nat)(t:Zu)(f:Zm),(b<=s.h.length/\d<=b)/\c=Y b/\v=.slice l d o/\Hid (f=((s.h.take b).filter (λx=>x.is==1)).map (λx=>x.cl)/\f.length=d)/\Hid (wr.ownsRow w.heap.size 39 1 (.slice l d o) d t/\tP (λb=>w.heap.size<=b/\(Value.slice l d o).ownBlock≠some b) wr f t)/\Hid (Zb w wr)) (λv c wr=>s.h.length - (intOf c).toNat)
 case atStart=>exact⟨0,0,none,0,[],[],⟨jY _,jF _⟩,rfl,rfl,X ⟨rfl,rfl⟩,X ⟨Jk _ _ _ _,rfl⟩,X (jW _ _)⟩
 case round=>
  obtain⟨b,d,l,o,t,f,⟨hk,aj⟩,rfl,rfl,g,e,q⟩:=hrel;by_cases ab:b<s.h.length
  .obtain⟨y,v⟩:=Zg ab
   have L:=HH.below q;obtain⟨h,j,M,E,O,P,Q,⟨ac,ad⟩,c,ae,af,R,ag⟩:=L.at v;obtain⟨rfl,rfl⟩:B=some (D h 0)/\C=j:=by injection Q with F _ h3;exact⟨F,h3⟩
   have S:=c 0 _ rfl;have q1:=c 1 _ rfl;have q2:=c 2 _ rfl;have q3:=c 3 _ rfl;have q4:=c 4 _ rfl;have q5:=c 5 _ rfl;have q6:=c 6 _ rfl;have q7:=c 7 _ rfl;have q8:=c 8 _ rfl;have q9:=c 9 _ rfl;have ah:=c 10 _ rfl;simp only[mG] at S;have ak:(b:Int)<s.h.length:=(by omega);have al:(0:Int)<=b:=(by omega);obtain⟨V,x⟩:=Ze (wr.alloc (.cells (vI y.cl y.wt y.ja y.is M E O P) 104));have G:Zb wr V:=x▸jG _ _;have H:xL V wr.heap.size y.cl y.wt y.ja y.is M E O P:=x▸iL;have am:=H.get.1.1;have an:=H.get.2.1.2.2.2.2;have I:=aa y (jU v);have W:=X (Oi E (by have:=I.1;omega) (mP I.2) (dA (nA G R)));have Z:=X x;have i:=X G;have z:=X (jCw v);clear v c ae af R ag x H ad ac L G Q I
   go_upto_region 5 with fail
   rw[<-Z.out];clear S q1 q2 q3 q4 q5 q6 q7 q8 q9 ah Z
   cases G:(y.is==1) with
   |false=>
    rw[G] at z
    go_wp2_with fail
    go_roundw
    case rel=>exact⟨b+1,d,l,o,t,f,⟨by omega,by omega⟩,by go_num,rfl,X ⟨by rw[z.out,g.out.1];simp,g.2⟩,X ⟨vT e.1 (λh c=>i.block h (kO e.1 h c).2),Eh (λc v x=>⟨v,i.block c x⟩) e.2⟩,X (q.trans (i.mono q.size))⟩
    case measure=>simp[intOf];omega
   |true=>
    rw[G] at z
    go_wp2_with fail
    refine W.mono ?_;rintro K R ⟨rfl,ad,c⟩;have v:=X (i.trans (c.below.mono i.size));have S:=X (Iz (by have H:=c.own;rw[qU] at H;exact H) i.size (λx I=>by have:=(c.jc x I).1;have:=i.size;omega));have Z:=X (λx=>vT e.1 (λh I=>((v.trans ((jG R x).mono v.size)).block h (kO e.1 h I).2)));have ae:=v.size;have ac:=q.size;clear c W
    go_wp2_with (at_builtin
                 go_must (refine DX rfl (.tmp 19) (.tmp 23) rfl rfl (Z _) rfl rfl (jJ 0 rfl) rfl (by omega) (by simp;omega) ?_)
                 intro x Q c I L)
    obtain⟨W,c3,rfl⟩:=zF c;have Q:=TY ac v (g.out.2▸e.1) e.2 (jF _) S I L;have x:=X (jM c Q);clear c I L Q
    go_wp2_with fail
    go_roundw
    case rel=>exact⟨b+1,d+1,W,c3,_,f++[y.cl],⟨by omega,by omega⟩,by go_num,rfl,X ⟨by rw[z.out,g.out.1];simp,by rw[qB,g.out.2];rfl⟩,X ⟨x.1,x.2.1⟩,X (q.trans x.2.2)⟩
    case measure=>simp[intOf];omega
  obtain rfl:b=s.h.length:=by omega
  have c:Hid (f=pH s):=X (by rw[g.out.1,qU];rfl);go_wp2;go_ret;have F:wr.ownsRow w.heap.size 39 1 (.slice l d o) f.length t:=g.out.2▸e.1;obtain⟨u,j,d,f⟩:=UB F e.2;rw[<-c.out];exact⟨⟨u,j,xE _ d,f⟩,q⟩
structure xIO (ar:Zn) (s:St) (ns:Zn) (I:St->Prop):Prop where
 start:∀few wt,gT s ns=some (few,wt)->I {s with work:=qI (s.work - qI (wt*((few.headD []).length:Int)))}
 step:∀few wt st i,gT s ns=some (few,wt)->I st->i∈bV few->zQ (fP ar wt ns st i (qX ar few i))=false->I (fP ar wt ns st i (qX ar few i))
 ok:∀st,I st->st.h.length<=1000000/\∀y,y∈st.h->sG ar y
def bY.start{s:St}{b:Zv}(H:HA r a k p n s b a1 m U w)(c:Zb w u):bY r a k p n b w s u:=
 ⟨⟨p,b,a1,m,U,H.below c,⟨λ_ n=>n,λ_ n=>jD n⟩,jD rfl⟩,jR.A c⟩
def jEj{s:St}{v:Zv}(H:HA r a k p n s v a1 m U w)(h:∀y,y∈s.h->sG r y/\0<=y.wt/\y.wt<=2000)(aj:St->Prop)(K:Nat)(i:xIO r s r1 aj)(d:r1.length=1\/r1.length=2)(j:IP (sM n v) w r1 a2)(o:∀C,C∈r1->0<=C/\C<s.h.length):
 Calls Zf 77 #[Zr n,.slice a2 r1.length K] w λe w'=>e=.returned (.tuple #[])/\bY r a k p n v w (bW r s r1) w':=by
 obtain⟨L,b⟩:=Ze (((w.alloc (.cells #[Zr n] 76)).alloc (.cells #[Zk a2 r1 K] 22)).alloc (.cells #[Y 0] 3));have ac:Zb w L:=b▸bJ _ _ _ _;have q:L.heap.size=w.heap.size+3:=by rw[b];simp
 have x:L.cell? (D w.heap.size 0)=some (Zr n):=by rw[b,kW (by simp;omega),kW (by simp)];exact jJ 0 rfl
 have t:L.cell? (D (w.heap.size+1) 0)=some (Zk a2 r1 K):=by rw[b,kW (by simp)];exact jJ 0 (by simp)
 have u:L.heap[w.heap.size+1+1]? =some (.cells #[Y 0] 3 (0,0)):=by
  rw[b];have:=World.alloc_heap_new ((w.alloc (.cells #[Zr n] 76)).alloc (.cells #[Zk a2 r1 K] 22)) (.cells #[Y 0] 3 (0,0));rw[qE,qE] at this;exact this
 obtain⟨A,S,rfl,z,f⟩:∃c ak,a2=some (D c ak)/\sM n v c/\∀E,E<r1.length->Zq w c (ak+E) (Y (r1.getD E 0)):=by
  rcases j with n|n
  .rw[n] at d;simp at d
  exact n
 have B:=kA (f 0 (by omega));obtain⟨T,g⟩:=Ze (bW r s r1);rw[<-g];have HT:=X g;have HI:=X i;have az:=X b;have l:=X H;have a0:=X h;have al:=X (jM ac q);have a3:=X (jM x (jM t u));have M:=X (jM f (jM z B));have a4:=X o;have I:=X d;have bb:r1.length<=2:=by omega
 clear H i b h ac q u f z B o d g j
 go_in
 go_upto_region 3 with fail
 rw[<-az.out]
 go_wp2_with fail
 clear x t
 go_loopw [4,10] (λB f wr=>∃(b:Nat)(z:Int)(d:Zm)(V:Zu),(b<=r1.length/\d.length=b)/\f=Y b/\(0<=z/\z<=2000*(b:Int))/\Hid (gT s r1=(gT s (r1.drop b)).map (λi=>(d++i.1,i.2+z)))/\Hid (wr.ownsRow (w.heap.size+3) 39 1 B d.length V/\tP p wr d V/\(∀F,F∈d->F.length<=8/\qC r F))/\Hid ((Zb w wr/\w.heap.size+3<=wr.heap.size)/\Zq wr w.heap.size 0 (Zr n)/\Zq wr (w.heap.size+1) 0 (Zz A S r1.length K)/\wr.heap[w.heap.size+1+1]? =some (.cells #[Y z] 3 (0,0)))) (λB f wr=>r1.length - (intOf f).toNat)
 case atStart=>
  refine⟨0,0,[],[],⟨jY _,rfl⟩,rfl,⟨mE _,mE _⟩,X ?_,X ⟨Jk _ _ _ _,rfl,λF f=>by cases f⟩,X ⟨⟨al.1,by have:=al.2;omega⟩,a3⟩⟩;rw[uU]
  cases gT s r1<;>simp
 case round=>
  obtain⟨b,z,d,V,⟨g,W⟩,rfl,bc,Hk,q,f⟩:=hrel;by_cases am:b<r1.length
  .obtain⟨C,j⟩:=Zg am
   have O:=a4 C (jU j);obtain⟨u,rfl⟩:∃u:Nat,C=(u:Int):=⟨C.toNat,by omega⟩;have H:u<s.h.length:=(by omega);obtain⟨y,o⟩:=Zg H;have P:cZ s (u:Int)=y:=(by simp[cZ,o]);have Q:=a0 y (jU o);have t:=l.below f.1.1;obtain⟨h,an,ca,cc,qa,qc,a5,⟨R,ah⟩,G,ai,aa,ab,aq⟩:=t.at o;subst a5;have ad:=t.cells 1;simp only[zG,vP,xS] at ad;have ag:=Jz j;have x:=f.2.1;have J:=f.2.2.2;have a6:wr.cell? (D A (S+b))=some (Y (u:Int)):=by
    have:=jH f.1.1 (M.1 b am);rw[show r1.getD b 0=(u:Int) by simp[List.getD,j]] at this;exact this
   have q0:=G 0 _ rfl;have q1:=G 1 _ rfl;have a7:=G 10 _ rfl;simp only[mG] at q0;have bd:(u:Int)<s.h.length:=(by omega);have be:(0:Int)<=u:=(by omega);have bf:(b:Int)<r1.length:=(by omega);have bg:(0:Int)<=b:=(by omega);have ae:=X (Ld t);have ao:=X ag;have af:=X P;have Z:=X Q;have ap:=X (jM aa (jM ab R));have bh:=X (jM O H);clear ag P Q aa ab aq ai G o j O t ah R H
   cases O:zQ s with
   |true=>
    have j:Hid (T=s):=X (by rw[HT.out,bW,QE O (by omega)])
    go_wp2_with fail
    refine ae.mono ?_;rintro e o ⟨rfl,rfl⟩;rw[O];go_wp2;refine qS (sD rfl _ _ _) rfl ⟨rfl,?_⟩;rw[j.out];exact bY.start l f.1.1
   |false=>
    cases hz:(y.is !=1) with
    |true=>
     have j:Hid (T=s):=X (by rw[HT.out,bW,Hk.out,ao.out,QD (af.out▸hz)];rfl)
     go_wp2_with fail
     refine ae.mono ?_;rintro e o ⟨rfl,rfl⟩;rw[O];go_wp2;refine qS (sD rfl _ _ _) rfl ⟨rfl,?_⟩;rw[j.out];exact bY.start l f.1.1
    |false=>
     have a8:Hid (gT s r1=(gT s (r1.drop (b+1))).map (λi=>((d++[y.cl])++i.1,i.2+(z+y.wt)))):=X (by
      rw[Hk.out,ao.out,QF O (af.out▸hz),af.out,Option.map_map];congr 1;funext i
      simp[Int.add_comm,Int.add_left_comm])
     have aq:=X (λaa=>vT q.1 (λh P=>(jG wr aa).block h (kO q.1 h P).2));have ac:=f.1.2
     go_wp2_with fail
     refine ae.mono ?_;rintro e G ⟨rfl,rfl⟩;rw[O]
     go_wp2_with (at_builtin
                  go_must (refine Rj rfl (.tmp 28) (.tmp 38) rfl rfl (aq _) rfl rfl (jJ 0 rfl) rfl (by have:=I.out;omega) (by simp;omega) ?_)
                  intro j i ar ag a9)
     have bi:=(l.own h rfl).2;have ah:=(f.1.1.trans ((jG G _).mono f.1.1.size)).grown ag (by simp;omega) (λh P=>by have:=(kO q.1 h P).1;omega);have H:∀c,c<w.heap.size+3->i.heap[c]? =G.heap[c]?:=λc hb=>(ag.block c (by simp;omega) (λe=>by have:=(kO q.1 c e.symm).1;omega)).trans ((jG _ _).block c (by omega));have ba:=(kH (w:=G) (a:=(D w.heap.size 0)) (H w.heap.size (by omega))).trans x;have au:=(kH (w:=G) (a:=(D (w.heap.size+1) 0)) (H (w.heap.size+1) (by omega))).trans f.2.2.1;have Q:=(H _ (by omega)).trans J;have bj:=lJ Q 0;have bk:i.frozen? (D (w.heap.size+1+1) 0)=false:=(by simp[World.frozen?,Q]);have bl:=(kH (w:=G) (a:=(D n 1)) (H n (by have:=l.lt;omega))).trans ad;have bm:=(kH (w:=G) (a:=(D h (u*11+1))) (H h (by omega))).trans q1;have av:wrap64 (z+y.wt)=z+y.wt:=IntWalk.wrap64_in _ (by have:=Z.out;have:=I.out;omega);have aw:∀j,j≠w.heap.size+1+1->(i.setCell (D (w.heap.size+1+1) 0) (Y (wrap64 (z+y.wt)))).drew.heap[j]? =i.heap[j]?:=λj o=>vL _ _ _ _ o;have ai:(i.setCell (D (w.heap.size+1+1) 0) (Y (wrap64 (z+y.wt)))).drew.heap[w.heap.size+1+1]? =some (.cells #[Y (z+y.wt)] 3 (0,0)):=by
      rw[av];exact fS i _ 0 _ _ _ Q
     have ax:Zb w (i.setCell (D (w.heap.size+1+1) 0) (Y (wrap64 (z+y.wt)))).drew:=(ah.setCell (by show w.heap.size<=w.heap.size+1+1;omega) _).drew;have ay:w.heap.size+3<=(i.setCell (D (w.heap.size+1+1) 0) (Y (wrap64 (z+y.wt)))).drew.heap.size:=by
      have R:=(gJ.1 ai).1;omega
     have R:=X (jM (jM ax ay) (jM aw ai));clear av aw ai ax ay;have ax:=X ah;have ai:=X ar;have aw:=X H;have av:=X (jM ba (jM au Q));clear ar ag a9 ah H aq J q0 q1 a7 ad x au Q a6
     go_upto_region 8 with fail
     go_region
     go_wp2_with fail
     go_roundw
     case rel=>
      have H:∀{c aa:Nat}{B:Zv},c≠w.heap.size+1+1->Zq i c aa B->(i.setCell (D (w.heap.size+1+1) 0) (Y (wrap64 (z+y.wt)))).drew.cell? (D c aa)=some B:=λhb Q=>(kH (w:=i) (a:=(D _ _)) (R.2.1 _ hb)).trans Q;refine⟨b+1,z+y.wt,d++[y.cl],V++[Zk ca y.cl cc],⟨by omega,by simp[W]⟩,by go_num,⟨by have:=Z.out;omega,by have:=Z.out;omega⟩,a8,X ⟨?_,?_,?_⟩,X ⟨R.1,H (by omega) av.1,H (by omega) av.2.1,R.2.2⟩⟩
      .rw[qB]
       exact vT ai (λh P=>R.2.1 h (by have:=(kO ai h P).1;omega))
      .have Q:=λj o=>(l.S j o).1
       have P:∀j,p j->(i.setCell (D (w.heap.size+1+1) 0) (Y (wrap64 (z+y.wt)))).drew.heap[j]? =G.heap[j]?:=λj o=>by
        have:=Q j o;exact(R.2.1 j (by omega)).trans (aw j (by omega))
       exact Mm (Eh (λj o _=>⟨o,P j o⟩) q.2.1) ⟨ca,cc,[],rfl,⟨ap.1,xP (λj o _=>⟨o,P j o⟩) ap.2.1⟩,rfl⟩
      intro F i;rcases vD.1 i with i|i
      .exact q.2.2 F i
      rw[vY.1 i];exact Z.1
     case measure=>simp[intOf];omega
  obtain rfl:b=r1.length:=by omega
  have R:gT s r1=some (d,z):=by
   rw[Hk.out,dX,gT];simp
  obtain⟨G,ax,hv,a7,a8,ad⟩:=fX q.1 (by have:=I.out;omega);have t:=l.below f.1.1;obtain⟨V,aa⟩:∃V,d[0]? =some V:=⟨d[0]'(by have:=I.out;omega),jO _⟩;obtain⟨a9,ba,ag,_,_⟩:=Ig q.2.1 aa;have e0:=ad 0 _ ag;have ah:d.headD []=V:=by
   cases d with
   |nil=>simp at aa
   |cons i d=>simpa using aa
  have bi:(0:Int)<d.length:=by have:=I.out;omega
  have x:=f.2.1;have J:=lJ f.2.2.2 0;simp only[zG,vP] at J;have j:=t.cells 3;have z3:=t.jo 3;simp only[zG,vP,xS] at j;have bj:=X W;subst hv;obtain⟨i,ab⟩:∃i,i=(wr.setCell (D n 3) (Y (wrap64 (s.work - wrap64 (z*(V.length:Int)))))).drew:=⟨_,rfl⟩;have H:qH n wr i:=by rw[ab];exact qH.drew (qH.set n wr _ 3)
  have o:HA r a k p n {s with work:=qI (s.work - qI (z*((d.headD []).length:Int)))} v a1 m U i:=by
   have P:=(t.wk (t.kr.put (qI (s.work - qI (z*((d.headD []).length:Int))))) (qH.set n wr _ 3)).drew;rw[ab];rw[ah] at P ⊢;simp only[qI,Ba] at P ⊢;exact P
  have ai:=H.below.size;have P:∀c,w.heap.size<=c->c≠n:=λc hb e=>by have:=l.lt;omega
  have Q:∀{c aq:Nat}{B:Zv},c≠n->Zq wr c aq B->Zq i c aq B:=λhb hv=>H.cell hb hv;have d0:=Q (P _ (jF _)) x;have B:=Q (P _ (by omega)) f.2.2.1;have d2:=Q (P _ (by omega)) J;have d3:=o.cells 0;simp only[zG,vP] at d3;have aq:bB n v w i:=(jR.A f.1.1).trans (H.mono (λ_ n=>jD n));have ar:∀b,(p b\/b=w.heap.size\/b=w.heap.size+1\/b=w.heap.size+1+1\/b=G\/b=A)->b<i.heap.size:=by
   have h1:=f.1.2;have h2:=M.2.2;rintro b (g|rfl|rfl|rfl|rfl|rfl)
   .exact(o.S b g).1
   all_goals omega
  have au:∀b,(p b\/b=w.heap.size\/b=w.heap.size+1\/b=w.heap.size+1+1\/b=G\/b=A)->sM n v b:=by
   have h1:=l.lt;have h2:=l.own;have j:∀b,w.heap.size<=b->sM n v b:=λb g e=>e.elim (λe=>by omega) (λe=>by have:=(h2 b e).2;omega);rintro b (g|rfl|rfl|rfl|rfl|rfl)
   .exact λe=>e.elim (o.S b g).2.1 (o.S b g).2.2
   .exact j _ (by omega)
   .exact j _ (by omega)
   .exact j _ (by omega)
   .exact j _ (by omega)
   exact M.2.1
  have av:zX (λb=>p b\/b=w.heap.size\/b=w.heap.size+1\/b=w.heap.size+1+1\/b=G\/b=A) i d G 0:=by
   refine⟨by simp,λaw F F=>?_⟩;obtain⟨ay,an,a6,h1,h2⟩:=Ig q.2.1 F;refine⟨ay,an,?_,h1,xP (λb g F=>⟨jD g,H.block b F (l.S b g).2.1⟩) h2⟩;rw[kK];exact Q (P _ (by omega)) (ad aw _ a6)
  have F:IP (λb=>p b\/b=w.heap.size\/b=w.heap.size+1\/b=w.heap.size+1+1\/b=G\/b=A) i r1 (some (D A S)):=jE ⟨A,S,rfl,by simp,λE hi=>Q (λe=>M.2.1 (jD e)) (jH f.1.1 (M.1 E hi))⟩;have aw:=X (jEi o aj (HI.start d z R) (λst E=>HI.step d z st E R) HI.ok ar (λb g=>jD g) au ax av (by have:=I.out;omega) q.2.2 (by simp) (by simp) (by simp) d0 d2 B F W.symm);have E:Hid (T=pA r d z r1 (bV d) {s with work:=qI (s.work - qI (z*((d.headD []).length:Int)))}):=X (by rw[HT.out,bW,R]);have d:=X (jM aq ai);have z:=X ab;clear W ab H o ai P aq ar au av F B d2 ad R ah ag aa t
  go_upto_region 10 with fail
  go_region
  go_upto_region 11 with fail
  rw[<-z.out];clear j z3 x J e0
  go_wp2_with fail
  refine aw.mono ?_;rintro e W ⟨⟨aa,rfl⟩,j⟩;have o:=X j;clear j aw;go_wp2;refine rS (sD rfl _ _ _) rfl ⟨rfl,?_⟩;rw[E.out];obtain⟨⟨t,x,B,F,H,q1,q2,J⟩,P⟩:=o;have j:=d.1.below.size;exact⟨⟨t,x,B,F,H,q1,⟨q2.1,λb g=>(q2.2 b g).imp id (λn=>kN j n)⟩,J.imp id (λ⟨h,b,R⟩=>⟨h,b,kN j R⟩)⟩,d.1.trans P⟩
section
variable {ar:Zn} {ga:Zo} {gcap:Nat} {R R':Zp} {h:Nat} {s s2:St} {lv lv':Zv} {pa:Zo} {pc:Nat} {xs:Zu} {w w1 w2:N}
def bY.next(b:(∀k,R k->R' k)/\∀k,R' k->R k\/w.heap.size<=k)(c:lv'.ownBlock=lv.ownBlock\/∃g,lv'.ownBlock=some g/\w.heap.size<=g)(a:bB h lv w w1)(f:bY ar ga gcap R' h lv' w1 s2 w2):bY ar ga gcap R h lv w s2 w2:=by
 obtain⟨⟨i,j,l,m,n,H,d,o⟩,p⟩:=f;have e:=a.below.size;refine⟨⟨i,j,l,m,n,H,⟨λk a=>d.1 k (b.1 k a),λk a=>?_⟩,?_⟩,Ik a p (λk a=>?_)⟩
 .rcases d.2 k a with q|q
  .exact b.2 k q
  exact jE (kN e q)
 .rcases o with q|⟨g,q1,q2⟩
  .rw[q];exact c
  exact jE ⟨g,q1,kN e q2⟩
 rcases a with a|a
 .exact jE (jD a)
 rcases c with q|⟨g,q1,q2⟩
 .exact jE (jE (q▸a))
 rw[q1] at a;injection a with a;exact jD (by omega)
def jEk(H:HA ar ga gcap R h s lv pa pc xs w)(c:xX ar s)(j:Nat)(k:r.length=1\/r.length=2)(l:IP (sM h lv) w r a)(e:∀n,n∈r->0<=n/\n<(s.h.length:Int)):
 Calls Zf 77 #[Zr h,.slice a r.length j] w λm o=>m=.returned (.tuple #[])/\bY ar ga gcap R h lv w (bW ar s r) o:=by
 refine jEj H (λy d=>⟨(c.jg y d).1,by have:=(c.jg y d).2.1;omega,(c.jg y d).2.2⟩) (λf=>Ez ar f/\s.h.length<=f.h.length) j ⟨?_,?_,?_⟩ k l e
 .intro p g i
  exact⟨DI c k e i,jF _⟩
 .intro p g f z i b q t
  obtain⟨_,u,A,v⟩:=Oq c e i;have hd:=Vj b.1 q v u (by omega) (λn x=>by have:=e n x;have:=b.2;omega) (z:=g) (by omega);exact⟨(hd.1.pre t).1,kN b.2 hd.2⟩
 intro f b;exact⟨by have:=b.1.len;omega,λy d=>(b.1.ok.jg y d).1⟩
def Qz{b:Obj}(f:∀i,i<r.length->(w.alloc b).cell? (D w.heap.size i)=some (Y (r.getD i 0)))(H:HA ar ga gcap R h s lv pa pc xs w)(g:xX ar s)(a:Nat)(j:r.length=1\/r.length=2)(k:∀n,n∈r->0<=n/\n<(s.h.length:Int)):
 Calls Zf 77 #[Zr h,Zx w.heap.size r.length a] (w.alloc b) λe c=>e=.returned (.tuple #[])/\bY ar ga gcap R h lv w (bW ar s r) c:=by
 have d:Zb w (w.alloc b):=jG _ _;refine(jEk (H.below d) g a j (jE ⟨w.heap.size,0,rfl,λe=>e.elim (λe=>by have:=H.lt;omega) (λe=>by have:=(H.own _ e).2;omega),λi l=>by rw[kK];exact f i l⟩) k).mono ?_;rintro e c ⟨rfl,l⟩;exact⟨rfl,bY.next ⟨λ_ h=>h,λ_ h=>jD h⟩ (jD rfl) (jR.A d) l⟩
end
def VA{s:St}{lv:Zv}(H:HA r a k p n s lv a1 m U w)(c:xX r s)(K:i<s.h.length):
 Calls Zf 61 #[Zr n,Y (i:Int)] w λh S=>h=.returned (.tuple #[])/\bY r a k p n lv w (iK r s (i:Int)) S:=by
 have A:=H.cells 1;simp only[zG,vP,xS] at A;obtain⟨V,B⟩:=Zg K;obtain⟨q,F,ca,cc,qa,qc,rfl,⟨ab,J⟩,C,E,L,O,P⟩:=H.at (n:=i) (e:=V) B;have Q:=C 10 _ rfl;have R:=E (i*11+10);obtain⟨M,g⟩:=Ze (w.setCell (D q (i*11+10)) (.int .i8 1));have d:HA r a k p n (setIs s (i:Int) 1) (Zx q s.h.length F) a1 m (U.set (i*11+10) (.int .i8 1)) M:=by
  have:=H.setIs rfl K 1;rw[g,setIs,pK];exact this
 have G:bB n (Zx q s.h.length F) w M:=by
  rw[g];exact⟨bD (p:=(D q (i*11+10))) (jW _ _) (jY _) _,λj _ e=>vL _ _ _ _ (λh=>e (jE (by rw[h];rfl)))⟩
 have l:=Ya c (z:=(i:Int)) (by omega);have o:=CN c (i:Int) 1;have j:=X (λv y=>Qz (b:=v) (r:=[(i:Int)]) y d o.1 1 (jD rfl) (λx e=>by rw[o.2,vY.1 e];omega));obtain⟨f,t⟩:∃f,f=bW r (setIs s (i:Int) 1) [(i:Int)]:=⟨_,rfl⟩;obtain⟨T,z⟩:∃T,T=iK r s (i:Int):=⟨_,rfl⟩;rw[<-z];rw[<-t] at j l;have I:Hid (T=nW r (i:Int) f.h.length 0 f):=X (by rw[z,t];rfl);have u:=X l;have W:=X G;have Z:=X g;have ac:=X d;have ad:(i:Int)<s.h.length:=by omega
 have ae:(0:Int)<=i:=by omega
 have af:s.h.length<=1000000:=by have:=c.len;omega
 clear H d g G B C E L O P l o z t J c
 go_in
 go_upto_region 1 with fail
 rw[<-Z.out];clear Q R A
 go_wp2_with fail
 refine(j _ (λl o=>?_)).mono ?_
 .match l,o with
  |0,_=>exact jJ 0 rfl
 rintro h w2 ⟨rfl,G⟩;have t:=X (bY.next ⟨λ_ n=>n,λ_ n=>jD n⟩ (jD rfl) W G);clear j G;obtain⟨L,g⟩:=Ze f.h.length;have ag:L<=1000000:=by have:=u.1.len;omega
 have ah:i<L:=by have:=u.2;omega
 obtain⟨O,P,B⟩:∃O P,Zq w2 n 1 (.slice O L P):=by
  obtain⟨⟨R',lv',C,E,H,A,_⟩,_⟩:=t;have c:=A.cells 1;simp only[zG,vP,xS] at c;rw[g];rcases A.row.2 with⟨z,G⟩|⟨q,F,J,z,_⟩
  .rw[z] at c;rw[G];exact⟨none,0,c⟩
  rw[z] at c;exact⟨_,_,c⟩
 have z:Hid (T=nW r (i:Int) (L - 0) ((0:Nat):Int) f):=X (by rw[I.out,g];rfl);have A:Hid (xX r f/\L<=f.h.length):=X ⟨u.1,by omega⟩;clear u I g
 go_wp2_with fail
 clear B
 go_loopw [23] (λu wr=>∃(c:Nat)(g:St),c<=L/\u=Y c/\Hid (T=nW r (i:Int) (L - c) (c:Int) g)/\Hid (xX r g/\L<=g.h.length)/\Hid (bY r a k p n (Zx q s.h.length F) w g wr)) (λu wr=>L - (intOf u).toNat)
 case atStart=>exact⟨0,f,jY _,rfl,z,A,t⟩
 case round=>
  clear z A t;obtain⟨c,g,hk,rfl,I,H,t⟩:=hrel;by_cases ai:c<L
  .obtain⟨⟨R',lv',aj,ak,al,z,A,B⟩,C⟩:=t
   have E:=H.out
   have J:=Gl E.1 (r1:=[(i:Int),(c:Int)]) (jE rfl) (λx e=>by
    simp only[qO,sL,or_false] at e
    rcases e with rfl|rfl<;>omega)
   have j:=X (λv y=>Qz (b:=v) (r:=[(i:Int),(c:Int)]) y z E.1 2 (jE rfl) (λx e=>by
    simp only[qO,sL,or_false] at e
    rcases e with rfl|rfl<;>omega))
   have u:=X (jM A (jM B C));have am:(c:Int)<L:=(by omega);have an:(0:Int)<=c:=(by omega);have Q:Hid (L - c=(L - (c+1))+1):=X (by omega);have d:=X J;clear z A B C E J
   cases R:((c:Int) !=(i:Int)) with
   |false=>
    have J:Hid (T=nW r (i:Int) (L - (c+1)) ((c+1:Nat):Int) (bW r g [(i:Int),(c:Int)])):=X (by rw[I.out,Q.out,nW,R];rfl)
    go_wp2_with fail
    refine(j _ (λl o=>?_)).mono ?_
    .match l,o with
     |0,_=>exact jJ 0 rfl
     |1,_=>exact jJ 1 rfl
    rintro h w3 ⟨rfl,E⟩;have H3:=X (bY.next u.1 u.2.1 u.2.2 E);clear j E
    go_wp2_with fail
    go_roundw
    case rel=>exact⟨c+1,_,by omega,by go_num,J,X ⟨d.1,kN H.2 d.2⟩,H3⟩
    case measure=>simp[intOf];omega
   |true=>
    have aa:Hid (T=nW r (i:Int) (L - (c+1)) ((c+1:Nat):Int) (bW r (bW r g [(i:Int),(c:Int)]) [(c:Int),(i:Int)])):=X (by rw[I.out,Q.out,nW,R];rfl)
    go_wp2_with fail
    refine(j _ (λl o=>?_)).mono ?_
    .match l,o with
     |0,_=>exact jJ 0 rfl
     |1,_=>exact jJ 1 rfl
    rintro h w3 ⟨rfl,E⟩;have h4:=bY.next u.1 u.2.1 u.2.2 E;obtain⟨⟨R2,ao,ap,aq,ar,z,A,B⟩,C⟩:=h4;have J:∀x,x∈[(c:Int),(i:Int)]->0<=x/\x<((bW r g [(i:Int),(c:Int)]).h.length:Int):=λx e=>by
     have:=d.2;have:=H.2;simp only[qO,sL,or_false] at e;rcases e with rfl|rfl<;>omega
    have x:=X (λv y=>Qz (b:=v) (r:=[(c:Int),(i:Int)]) y z d.1 2 (jE rfl) J);have v:=X (Gl d.1 (r1:=[(c:Int),(i:Int)]) (jE rfl) J);have e:=X (jM A (jM B C));clear j E z A B C J
    go_wp2_with fail
    refine(x _ (λl o=>?_)).mono ?_
    .match l,o with
     |0,_=>exact jJ 0 rfl
     |1,_=>exact jJ 1 rfl
    rintro h l ⟨rfl,E⟩;have j:=X (bY.next e.1 e.2.1 e.2.2 E);clear x E
    go_wp2_with fail
    go_roundw
    case rel=>exact⟨c+1,_,by omega,by go_num,aa,X ⟨v.1,kN H.2 (kN d.2 v.2)⟩,j⟩
    case measure=>simp[intOf];omega
  obtain rfl:c=L:=by omega
  have c:Hid (T=g):=X (by rw[I.out,wJ];rfl)
  go_wp2_with fail
  refine rS (sD rfl _ _ _) rfl ⟨rfl,?_⟩;rw[c.out];exact t
def jDb(i:jX)(c:Zo)(d:Nat)(w:N):
 Calls Zf 115 #[zV i c d] w λl g=>(∃h m,l=.returned (.slice h (yW i).length m)/\IP (λn=>w.heap.size<=n) g (yW i) h)/\Zb w g:=by
 obtain⟨e,a⟩:=Ze (w.alloc (.cells #[Y i.L,Y i.left,Y i.right,Y i.la,Y i.ra,.bool i.lt,.bool i.rt,Zk c i.G d] 81));have j:Zb w e:=a▸jG _ _;have o:I8 e w.heap.size i c d:=a▸I8.new _ rfl;obtain⟨p,q,r,s,t,u,v,x⟩:=o;have k:=X a;have b:=X j;have f:Hid (w.heap.size+1=e.heap.size):=X (by rw[a];simp);rw[a] at p q r;clear a j s t u v x
 cases a:(i.L==3) with
 |true=>
  have j:Hid (yW i=[i.left,i.right]):=X (by rw[yW,jB (by simpa using a)])
  go_in
  go_wp2;go_ret;rw[j.out,<-k.out];refine⟨⟨_,_,rfl,jE ⟨w.heap.size+1,0,rfl,Nat.le_succ _,λs t=>?_⟩⟩,b.trans ((jG _ _).mono b.size)⟩
  match s,t with
  |0,_=>rw[f.out];exact jJ 0 rfl
  |1,_=>rw[f.out];exact jJ 1 rfl
 |false=>
  have j:Hid (yW i=[i.left]):=X (by rw[yW,jC (by simpa using a)])
  go_in
  go_wp2;go_ret;rw[j.out,<-k.out];refine⟨⟨_,_,rfl,jE ⟨w.heap.size+1,0,rfl,Nat.le_succ _,λs t=>?_⟩⟩,b.trans ((jG _ _).mono b.size)⟩
  match s,t with
  |0,_=>rw[f.out];exact jJ 0 rfl
def pV(g:Int->Option Int)(i:jX):jX:={i with left:=(g i.left).getD i.left,right:=(g i.right).getD i.right}
def Tryz.kc(w:N):(zeroValue 3).run Zf w=.ok (Y 0) w:=Tryz.qn w
def Un(H ab:Nat)(o:Int->Option Int)(i:jX)(g:Zo)(h:Nat)(w:N)(n:vS w H ab o)(x: -9223372036854775808<=i.left/\i.left<=9223372036854775807)(u: -9223372036854775808<=i.right/\i.right<=9223372036854775807):
 Calls Zf 81 #[.map (some H),zV i g h] w λae w'=>ae=.returned (zV (pV o i) g h)/\Zb w w':=by
 obtain⟨l,m⟩:=Ze ((w.alloc (.cells #[Y i.L,Y i.left,Y i.right,Y i.la,Y i.ra,.bool i.lt,.bool i.rt,Zk g i.G h] 81)).alloc (.cells #[Y 0,Y 0,Y 0,Y 0,Y 0,.bool false,.bool false,Zd] 81));have r:Zb w l:=m▸kF _ _ _;have q:l.heap[w.heap.size]? =some (.cells #[Y i.L,Y i.left,Y i.right,Y i.la,Y i.ra,.bool i.lt,.bool i.rt,Zk g i.G h] 81 (0,0)):=by rw[m,zL _ _ _ (by simp)];exact World.alloc_heap_new _ _
 have i1:l.heap[w.heap.size+1]? =some (.cells #[Y 0,Y 0,Y 0,Y 0,Y 0,.bool false,.bool false,Zd] 81 (0,0)):=by
  rw[m];have:=World.alloc_heap_new (w.alloc (.cells #[Y i.L,Y i.left,Y i.right,Y i.la,Y i.ra,.bool i.lt,.bool i.rt,Zk g i.G h] 81)) (.cells #[Y 0,Y 0,Y 0,Y 0,Y 0,.bool false,.bool false,Zd] 81 (0,0));rw[qE] at this;exact this
 have af:=n.lt;have s:=n.below r;obtain⟨a,left,right,b,c,d,e,f⟩:=i;dsimp only at x u q m;have E:=kU.look_ok s (t:=132) Tryz.underlying132 (Tryz.kc _) (k:=left) (by omega) (by omega);obtain⟨⟨R,S,U,V,W,Z,e6,e7⟩,j⟩:=I8.je (i:=⟨a,left,right,b,c,d,e,f⟩) q;dsimp only at R S U V W Z e6 e7;have I:Tryz.f81.results=#[.cell 4 81]:=by kernel_rfl
 have J:(Zf.info? 81).map (·.size)=some 8:=by kernel_rfl
 have y:=X m;have H2:=X (jM q (jM i1 (jM r s)));have K:=X u;clear n s x u q i1 m r;go_enter Tryz.func81,Tryz.ntmps81
 go_upto_region 1 with fail
 rw[<-y.out];clear y
 cases M:o left with
 |some L=>
  rw[M] at E;simp only[cO,wK,wL] at E;have HF:Hid (pV o ⟨a,left,right,b,c,d,e,f⟩=⟨a,L,(o right).getD right,b,c,d,e,f⟩):=X (by simp[pV,M]);have y:=j 1;obtain⟨q,i1,r,s⟩:=H2.out;have m:(l.setCell (D w.heap.size 1) (Y L)).heap[w.heap.size]? =some (.cells #[Y a,Y L,Y right,Y b,Y c,.bool d,.bool e,Zk g f h] 81 (0,0)):=fS l _ 1 _ _ _ q;have u:(l.setCell (D w.heap.size 1) (Y L)).heap[w.heap.size+1]? =l.heap[w.heap.size+1]?:=vL _ _ _ _ (show w.heap.size+1≠w.heap.size by omega);have n:Zb w (l.setCell (D w.heap.size 1) (Y L)):=bD r (jF _) _;have x:vS (l.setCell (D w.heap.size 1) (Y L)) H ab o:=kU.same s (vL _ _ _ _ (show H≠w.heap.size by omega));have H3:=X (jM m (jM (u.trans i1) (jM n x)));clear m u n x q i1 r s H2 j
  go_upto_region 4 with fail
  generalize (l.setCell (D w.heap.size 1) (Y L))=F at*;clear R S U V W Z e6 e7 y E;obtain⟨m,q,n,aa⟩:=H3.out;have G:=kU.look_ok aa (t:=132) Tryz.underlying132 (Tryz.kc _) (k:=right) (by have:=K.out;omega) (by have:=K.out;omega);obtain⟨⟨s,u,x,y,z,A,B,C⟩,j⟩:=I8.je (i:=⟨a,L,right,b,c,d,e,f⟩) m;dsimp only at s u x y z A B C
  cases O:o right with
  |some Q=>
   rw[O] at G;simp only[cO,wK,wL] at G;have f2:=j 2;have r:(F.setCell (D w.heap.size 2) (Y Q)).heap[w.heap.size]? =some (.cells #[Y a,Y L,Y Q,Y b,Y c,.bool d,.bool e,Zk g f h] 81 (0,0)):=fS F _ 2 _ _ _ m;have ac:(F.setCell (D w.heap.size 2) (Y Q)).heap[w.heap.size+1]? =F.heap[w.heap.size+1]?:=vL _ _ _ _ (show w.heap.size+1≠w.heap.size by omega);have ad:Zb w (F.setCell (D w.heap.size 2) (Y Q)):=bD (p:=(D w.heap.size 2)) n (jF _) _;have H5:=X (jM r (jM (ac.trans q) ad));clear r ac ad m q n aa j
   go_upto_region 7 with fail
   generalize (F.setCell (D w.heap.size 2) (Y Q))=W5 at*;clear s u x y z A B C f2 G;obtain⟨m,q,n⟩:=H5.out;obtain⟨⟨s,u,x,y,z,A,B,C⟩,j⟩:=I8.je (i:=⟨a,L,Q,b,c,d,e,f⟩) m;obtain⟨⟨k0,k1,k2,k3,k4,k5,k6,k7⟩,r⟩:=I8.je (i:=kZ) q;dsimp only[kZ] at s u x y z A B C k0 k1 k2 k3 k4 k5 k6 k7;have p0:=r 0;have p1:=r 1;have p2:=r 2;have p3:=r 3;have p4:=r 4;have p5:=r 5;have p6:=r 6;have p7:=r 7;clear j r m q n
   go_wp2_with fail
   (try simp only[Exit.inBlock,Exit.then]);refine qS (v:=zV ⟨a,L,Q,b,c,d,e,f⟩ g h) (tE (P:=Zf) (fn:=Tryz.f81) (p:=4) (ty:=81) I _ _ (w.heap.size+1) 81 #[Y a,Y L,Y Q,Y b,Y c,.bool d,.bool e,Zk g f h] (0,0) _ rfl (pG (U:=[Y a,Y L,Y Q,Y b,Y c,.bool d,.bool e,Zk g f h]) H5.out.2.1 rfl) Tryz.underlying81 rfl J) rfl ?_;rw[HF.out,O];exact⟨rfl,bK (show w.heap.size<=w.heap.size+1 by omega) [Y a,Y L,Y Q,Y b,Y c,.bool d,.bool e,Zk g f h] 0 _ H5.out.2.2⟩
  |none=>
   rw[O] at G;simp only[Mz,Et,rH] at G;have H5:=X (jM m (jM q n));clear m q n aa j
   go_upto_region 7 with fail
   clear s u x y z A B C G;obtain⟨m,q,n⟩:=H5.out;obtain⟨⟨s,u,x,y,z,A,B,C⟩,j⟩:=I8.je (i:=⟨a,L,right,b,c,d,e,f⟩) m;obtain⟨⟨G,k1,k2,k3,k4,k5,k6,k7⟩,r⟩:=I8.je (i:=kZ) q;dsimp only[kZ] at s u x y z A B C G k1 k2 k3 k4 k5 k6 k7;have p0:=r 0;have p1:=r 1;have p2:=r 2;have p3:=r 3;have p4:=r 4;have p5:=r 5;have p6:=r 6;have p7:=r 7;clear j r m q n
   go_wp2_with fail
   (try simp only[Exit.inBlock,Exit.then]);refine qS (v:=zV ⟨a,L,right,b,c,d,e,f⟩ g h) (tE (P:=Zf) (fn:=Tryz.f81) (p:=4) (ty:=81) I _ _ (w.heap.size+1) 81 #[Y a,Y L,Y right,Y b,Y c,.bool d,.bool e,Zk g f h] (0,0) _ rfl (pG (U:=[Y a,Y L,Y right,Y b,Y c,.bool d,.bool e,Zk g f h]) H5.out.2.1 rfl) Tryz.underlying81 rfl J) rfl ?_;rw[HF.out,O];exact⟨rfl,bK (show w.heap.size<=w.heap.size+1 by omega) [Y a,Y L,Y right,Y b,Y c,.bool d,.bool e,Zk g f h] 0 _ H5.out.2.2⟩
 |none=>
  rw[M] at E;simp only[Mz,Et,rH] at E;have HF:Hid (pV o ⟨a,left,right,b,c,d,e,f⟩=⟨a,left,(o right).getD right,b,c,d,e,f⟩):=X (by simp[pV,M]);clear j
  go_upto_region 4 with fail
  clear R S U V W Z e6 e7 E;obtain⟨m,n,r,G⟩:=H2.out;have E:=kU.look_ok G (t:=132) Tryz.underlying132 (Tryz.kc _) (k:=right) (by have:=K.out;omega) (by have:=K.out;omega);obtain⟨⟨s,u,x,y,z,A,B,C⟩,j⟩:=I8.je (i:=⟨a,left,right,b,c,d,e,f⟩) m;dsimp only at s u x y z A B C
  cases F:o right with
  |some Q=>
   rw[F] at E;simp only[cO,wK,wL] at E;have U:=j 2;have q:(l.setCell (D w.heap.size 2) (Y Q)).heap[w.heap.size]? =some (.cells #[Y a,Y left,Y Q,Y b,Y c,.bool d,.bool e,Zk g f h] 81 (0,0)):=fS l _ 2 _ _ _ m;have R:(l.setCell (D w.heap.size 2) (Y Q)).heap[w.heap.size+1]? =l.heap[w.heap.size+1]?:=vL _ _ _ _ (show w.heap.size+1≠w.heap.size by omega);have S:Zb w (l.setCell (D w.heap.size 2) (Y Q)):=bD (p:=(D w.heap.size 2)) r (jF _) _;have O:=X (jM q (jM (R.trans n) S));clear q R S m n r G j
   go_upto_region 7 with fail
   generalize (l.setCell (D w.heap.size 2) (Y Q))=W5 at*;clear s u x y z A B C U E;obtain⟨m,n,r⟩:=O.out;obtain⟨⟨s,u,x,y,z,A,B,C⟩,j⟩:=I8.je (i:=⟨a,left,Q,b,c,d,e,f⟩) m;obtain⟨⟨R,S,U,V,W,Z,k6,k7⟩,q⟩:=I8.je (i:=kZ) n;dsimp only[kZ] at s u x y z A B C R S U V W Z k6 k7;have p0:=q 0;have p1:=q 1;have p2:=q 2;have p3:=q 3;have p4:=q 4;have p5:=q 5;have p6:=q 6;have p7:=q 7;clear j q m n r
   go_wp2_with fail
   (try simp only[Exit.inBlock,Exit.then]);refine qS (v:=zV ⟨a,left,Q,b,c,d,e,f⟩ g h) (tE (P:=Zf) (fn:=Tryz.f81) (p:=4) (ty:=81) I _ _ (w.heap.size+1) 81 #[Y a,Y left,Y Q,Y b,Y c,.bool d,.bool e,Zk g f h] (0,0) _ rfl (pG (U:=[Y a,Y left,Y Q,Y b,Y c,.bool d,.bool e,Zk g f h]) O.out.2.1 rfl) Tryz.underlying81 rfl J) rfl ?_;rw[HF.out,F];exact⟨rfl,bK (show w.heap.size<=w.heap.size+1 by omega) [Y a,Y left,Y Q,Y b,Y c,.bool d,.bool e,Zk g f h] 0 _ O.out.2.2⟩
  |none=>
   rw[F] at E;simp only[Mz,Et,rH] at E;have O:=X (jM m (jM n r));clear m n r G j
   go_upto_region 7 with fail
   clear s u x y z A B C E;obtain⟨m,n,r⟩:=O.out;obtain⟨⟨s,u,x,y,z,A,B,C⟩,j⟩:=I8.je (i:=⟨a,left,right,b,c,d,e,f⟩) m;obtain⟨⟨E,G,R,S,U,V,W,Z⟩,q⟩:=I8.je (i:=kZ) n;dsimp only[kZ] at s u x y z A B C E G R S U V W Z;have p0:=q 0;have p1:=q 1;have p2:=q 2;have p3:=q 3;have p4:=q 4;have p5:=q 5;have p6:=q 6;have p7:=q 7;clear j q m n r
   go_wp2_with fail
   (try simp only[Exit.inBlock,Exit.then]);refine qS (v:=zV ⟨a,left,right,b,c,d,e,f⟩ g h) (tE (P:=Zf) (fn:=Tryz.f81) (p:=4) (ty:=81) I _ _ (w.heap.size+1) 81 #[Y a,Y left,Y right,Y b,Y c,.bool d,.bool e,Zk g f h] (0,0) _ rfl (pG (U:=[Y a,Y left,Y right,Y b,Y c,.bool d,.bool e,Zk g f h]) O.out.2.1 rfl) Tryz.underlying81 rfl J) rfl ?_;rw[HF.out,F];exact⟨rfl,bK (show w.heap.size<=w.heap.size+1 by omega) [Y a,Y left,Y right,Y b,Y c,.bool d,.bool e,Zk g f h] 0 _ O.out.2.2⟩
def fC(a:Zn)(k:Int):Option Int:=if k∈a then some k else none
structure oY (s:St) (acc:Zn):Prop where
 nd:acc.Nodup
 rg:∀k,k∈acc->s.Z<=k/\k<(s.h.length:Int)
def oY.len{s:St}(h:oY s r)(b:0<=s.Z):r.length<=s.h.length:=by
 have:=La (B:=(List.range s.h.length).map (λn:Nat=>(n:Int))) h.nd (λx a=>by
  have:=h.rg x a;rw[bP]
  exact⟨x.toNat,eS.2 (by omega),by omega⟩)
 simpa using this
def oY.snoc{s:St}(h:oY s r)(b:s.Z<=z/\z<(s.h.length:Int))(c:z∉r):oY s (r++[z]):=by
 refine⟨?_,λk a=>?_⟩
 .rw[cK]
  exact⟨h.nd,by simp,λd d e e=>by rw[vY.1 e];exact λe=>c (e▸d)⟩
 rcases vD.1 a with a|a
 .exact h.rg k a
 rw[vY.1 a];exact b
def SS:(λj=>if j=z then some (Value.int .i64 z) else(fC r j).map (Value.int .i64))=(λk=>(fC (r++[z]) k).map (Value.int .i64)):=by
 funext j;by_cases h:j=z
 .subst h;simp[fC]
 by_cases a:j∈r<;>simp[fC,h,a]
def jDc(i:jX):(yW i).length<=2:=by rw[yW];split<;>simp
def Xl(h:w.grownBy u (some k)):jR (λa=>a=k) w u:=
 ⟨⟨h.os,h.tape,h.output,h.size,λa b=>jN b (Bo _)⟩,λa b c=>h.block a b (λe=>c (by injection e))⟩
def WV{s:St}{P:Zv}(Q:xX r s)(d:Nat)(o:¬p d/\d≠n/\P.ownBlock≠some d)(C:Nat):∀(i:jX)(y:Zo)(z:Nat)(g:Zn)(w:N),HA r a k p n s P a1 m U w->C<=s.h.length->(∀e,e∈yW i->0<=e/\e<(C:Int))->oY s g->vS w d g.length (fC g)->
 Calls Zf 78 #[Zr n,.map (some d),zV i y z] w λj R=>j=.returned (.tuple #[])/\(∃c,((∀e,e∈yW i->e<s.Z)->c=g)/\oY s c/\vS R d c.length (fC c))/\jR (λb=>b=d) w R:=by
 induction C using Nat.strongRecOn with
 |ind C f=>
 intro i y z g w H hN q u h;have ah:=X f;clear f;obtain⟨A,f⟩:=Ze (w.alloc (.cells #[Y i.L,Y i.left,Y i.right,Y i.la,Y i.ra,.bool i.lt,.bool i.rt,Zk y i.G z] 81));have v:Zb w A:=f▸jG _ _;have h8:I8 A w.heap.size i y z:=f▸I8.new _ rfl;obtain⟨x,B,F,G,I,J,K,L⟩:=h8;have HS:=X (jDb i y z A);have M:=X f;have l:=X v;have HH:=X H;have O:=X h;have ai:=X q;have aj:=X u;have S:=X Q;have E:=X o;have ak:=X h.lt;have al:Hid (w.heap.size<A.heap.size):=X (by rw[f];simp);have a6:=jDc i;have a7:=Q.len;rw[f] at x B F G I J K L;clear f v H h q u o
 go_in
 go_wp2_with fail
 rw[<-M.out];refine HS.mono ?_;rintro j H ⟨⟨am,a8,rfl,h⟩,o⟩;have f:=l.trans (o.mono l.size);have an:=X h;have V:=X f;have ao:Hid (vS H d g.length (fC g)):=X (O.below f);clear HS o f h x B F G I J K L M l O;go_wp2
 go_loopw [13] (λf wr=>∃(b:Nat)(c:Zn),b<=(yW i).length/\f=Y b/\Hid (((∀e,e∈yW i->e<s.Z)->c=g)/\oY s c)/\Hid (vS wr d c.length (fC c))/\Hid (jR (λb=>b=d) H wr)) (λf wr=>(yW i).length - (intOf f).toNat)
 case atStart=>exact⟨0,g,jY _,rfl,X ⟨λ_=>rfl,aj⟩,ao,X (jR.refl _ _)⟩
 case round=>
  obtain⟨b,c,F,rfl,o,q,u⟩:=hrel;by_cases G:b<(yW i).length
  .obtain⟨I,f⟩:=Zg G
   have v:=jU f;have a9:=ai I v;obtain⟨M,rfl⟩:∃M:Nat,I=(M:Int):=⟨I.toNat,by omega⟩;obtain⟨W,ap,rfl,ba,x⟩:∃J Z,am=some (D J Z)/\A.heap.size<=J/\∀h,h<(yW i).length->Zq H J (Z+h) (Y ((yW i).getD h 0)):=by
    rcases an with n|n
    .rw[n] at G;simp at G
    exact n
   have bb:d<w.heap.size:=ak;have aq:wr.cell? (D W (ap+b))=some (Y (M:Int)):=by
    have h:=x b G;rw[show(yW i).getD b 0=(M:Int) by simp[List.getD,f]] at h;exact u.cell (show ¬W=d by have:=al.out;omega) h
   have h:=(jR.A V).trans u;have l:=HH.kp h (λb F=>F▸E);have aa:=l.cells 2;have K:=l.cells 1;simp only[zG,vP,xS] at aa K;have B:=kU.look_ok q (t:=132) Tryz.underlying132 (Tryz.kc _) (k:=(M:Int)) (by omega) (by omega);have bc:(b:Int)<(yW i).length:=(by omega);have bd:(0:Int)<=b:=(by omega);have be:=X h;clear x h f;by_cases x:(M:Int)∈c
   .have f:fC c (M:Int)=some (M:Int):=by simp[fC,x]
    rw[f] at B;simp only[cO,wK,wL] at B;clear f x l v
    go_wp2_with fail
    go_roundw
    case rel=>exact⟨b+1,c,by omega,by go_num,o,q,u⟩
    case measure=>simp[intOf];omega
   have f:fC c (M:Int)=none:=(by simp[fC,x]);rw[f] at B;simp only[Mz,Et,rH] at B;clear f
   cases ar:decide (s.Z<=(M:Int)) with
   |false=>
    clear x l v
    go_wp2_with fail
    go_roundw
    case rel=>exact⟨b+1,c,by omega,by go_num,o,q,u⟩
    case measure=>simp[intOf];omega
   |true=>
    have ab:=of_decide_eq_true ar;have au:M<s.h.length:=(by omega);obtain⟨ac,L⟩:=Zg au;obtain⟨av,bf,ca,cc,qa,qc,aw,⟨af,ag⟩,f,ax,ay,az,a0⟩:=l.at L;subst aw;have bg:(M:Int)<s.h.length:=(by omega);have bh:(0:Int)<=M:=(by omega);have ad:=o.2.snoc ⟨ab,by omega⟩ x;have a2:=X ad;have bi:=o.2.len S.kj.1;have a3:=X (S.src M ac L ab);have h:av≠d:=λj=>E.2.2 (by rw[j];rfl);have a4:n≠d:=λj=>E.2.1 j.symm;have bj:=X v;have a5:Hid (¬(∀e,e∈yW i->e<s.Z)):=X (λO=>by have:=O _ v;omega);have ae:=X l;clear x v l L ax ay az a0 ad ag af;have q2:=f 2 _ rfl;have v:=f 3 _ rfl;have x:=f 4 _ rfl;have L:=f 5 _ rfl;have q6:=f 6 _ rfl;have q7:=f 7 _ rfl;have q8:=f 8 _ rfl;have q9:=f 9 _ rfl;clear f
    go_upto_region 7 with (at_mapUpdate;refine iR _ rfl _ _ _ 132 rfl 3 Tryz.underlying132 d c.length (λb=>(fC c b).map (Value.int .i64)) rfl q (by unfold maxLen;omega) (M:Int) (Y (M:Int)) (by first|rfl|simp[go_sem]) (by first|rfl|simp[go_sem]) (by omega) (by omega) ?_;intro w3 l ad)
    have f:=Xl ad;have ay:=f.cell a4 K;have az:=f.cell h q2;have a0:=f.cell h v;have bk:=f.cell h x;have bl:=f.cell h L;have bm:=f.cell h q6;have bn:=f.cell h q7;have bo:=f.cell h q8;have bp:=f.cell h q9;rw[SS] at l;have af:vS w3 d (c++[(M:Int)]).length (fC (c++[(M:Int)])):=qB▸l;have H3:=ae.kp f (λb F=>F▸E);have ag:=X (ah M (by omega) ac.ja qa qc (c++[(M:Int)]) w3 H3 (by omega) a3 a2 af);have ax:=X (u.trans f);clear l af H3 f ad K aa aq B q2 v x L q6 q7 q8 q9 ae q
    go_wp2_with fail
    refine ag.mono ?_;rintro j w4 ⟨rfl,⟨x,_,f,l⟩,v⟩;have B:=X f;have K:=X l;have L:=X (ax.trans v);clear f l v ag
    go_wp2_with fail
    go_roundw
    case rel=>exact⟨b+1,x,by omega,by go_num,X ⟨λO=>jN O a5,B⟩,K,L⟩
    case measure=>simp[intOf];omega
  obtain rfl:b=(yW i).length:=by omega
  go_wp2;refine rS (sD rfl _ _ _) rfl ⟨rfl,⟨c,o.1,o.2,q⟩,(jR.A V).trans u⟩
def TX(a:Option Nat)(w:N):Calls Zf 80 #[.map a] w λe b=>e=.returned (.func (.func 117) #[] #[Zr w.heap.size])/\b=w.alloc (.cells #[.map a] 132):=
 (callsIn_wide).1 (AnyZI.keys_in Tryz.keysN Fence.wide 5 trivial rfl a w)
def jC8(b n:Nat)(f:Int->Option Zv)(K:Zn)(m:n<=100000)(h:K.Nodup)(i:∀x,x∈K↔(f x).isSome=true)(a:Nat)(w:N)(j:kU w b n f)(d:w.cell? (D a 0)=some (.map (some b))):
 Calls Zf 79 #[.func (.func 117) #[] #[Zr a]] w λk e=>∃v,k=.returned v/\qR w.heap.size e v (K.mergeSort (λx y=>decide (x<=y)))/\Zb w e:=by
 obtain⟨g,c,l⟩:=j;have o:=c.size_le
 exact Qs (enters_of Tryz.func117 (by kernel_rfl) rfl) g (by omega) (Fu c l h i)
  (AnyZI.keys_gives (ρ:=Tryz.keysN_ren) {Tryz.keysN with} Fence.wide _ trivial rfl (by omega) a b n g w (kA d) d c)
abbrev iC(i:jX)(a:Zo)(b:Nat):Zy:=#[Y i.L,Y i.left,Y i.right,Y i.la,Y i.ra,.bool i.lt,.bool i.rt,.slice a i.G.length b]
def cH(p:Zp)(w:N):List jX->Zu->Prop
 |[],a=>a=[]
 |i::d,a=>∃b e c,a=(iC i b e).toList++c/\IP p w i.G b/\cH p w d c
def Rz{c f:List jX}:∀{a b:Zu},cH p w c a->cH p w f b->cH p w (c++f) (a++b):=by
 induction c with
 |nil=>intro a b d e;rw[show a=[] from d];exact e
 |cons x c g=>
  intro a b d e;obtain⟨h,i,j,rfl,k,l⟩:=d;exact⟨h,i,j++b,by rw[dH],k,g l e⟩
def Ih{c:List jX}(b:∀k,p k->k<w.heap.size->p1 k/\u.heap[k]? =w.heap[k]?):∀{a:Zu},cH p w c a->cH p1 u c a:=by
 induction c with
 |nil=>intro a h;exact h
 |cons x c d=>
  intro a h;obtain⟨e,f,g,rfl,i,h⟩:=h;exact⟨e,f,g,rfl,yH b i,d h⟩
def TZ{c:List jX}:∀{d:Zu}{b:Nat},(∀j u,d[j]? =some u->w.cell? (D k (b+j))=some u)->cH p w c d->eN w c (some (D k b)):=by
 induction c with
 |nil=>intro d b _ _;trivial
 |cons n c e=>
  intro d b a f;obtain⟨g,h,o,rfl,i,l⟩:=f;refine⟨k,b,g,h,rfl,a 0 _ rfl,a 1 _ rfl,a 2 _ rfl,a 3 _ rfl,a 4 _ rfl,a 5 _ rfl,a 6 _ rfl,a 7 _ rfl,Pi i,e (λj u m=>?_) l⟩;rw[Nat.add_assoc];exact a (8+j) u (by rw[nO (by simp)];simpa using m)
def iZ(P:Zp)(w:N)(p:List jX)(b:Zo):Prop:=p=[]\/∃g a,b=some (D g 0)/\P g/\g<w.heap.size/\(∀j u,a[j]? =some u->w.cell? (D g j)=some u)/\cH P w p a
def iZ.vd{b:List jX}(h:iZ p w b a):eN w b a:=by
 rcases h with rfl|⟨g,f,rfl,_,_,c,d⟩
 .trivial
 exact TZ (λj u e=>by rw[kK];exact c j u e) d
def iZ.mono{w':N}{d:List jX}(b:∀k,p k->k<w.heap.size->p1 k/\w'.heap[k]? =w.heap[k]?)(f:w.heap.size<=w'.heap.size)(h:iZ p w d a):iZ p1 w' d a:=by
 rcases h with rfl|⟨g,i,rfl,e,c,l,m⟩
 .exact jD rfl
 exact jE ⟨g,i,rfl,(b g e c).1,kV c f,λj u n=>(kH (w:=w) (a:=(D g j)) (b g e c).2).trans (l j u n),Ih b m⟩
theorem Tryz.infoI:(Zf.info? 81).map (λi=>(i.zero,i.size,i.bytes))=some (some (.agg (iC kZ none 0)),8,72):=by kernel_rfl
theorem Tryz.qm:Zf.underlying 30=some (.slice 81):=by kernel_rfl
def jAl{v:Zv}{f:jX}(g:TypeId)(o:w.ownsRow k 81 8 v n U)(p:∀b u,(iC f a j)[b]? =some u->w.cell? (D m b)=some u)(F:n<=1000000)(q:k<=w.heap.size):
 ∃c d,(Builtin.append_ #[30,30] g #[v,Zx m 1 i]).run Zf w=.ok c d/\d.ownsRow k 81 8 c (n+1) (U++(iC f a j).toList)/\w.grownBy d v.ownBlock/\(c.ownBlock=v.ownBlock\/c.ownBlock=some w.heap.size):=by
 obtain⟨r,s,h⟩:=bQ.1 Tryz.infoI;simp only[bG] at h;obtain⟨t,x,y⟩:=h
 obtain⟨c,d,z,A,B,_,C⟩:=run_append_own_at w k 30 g 81 r (.agg (iC kZ none 0)) 8 72 Tryz.qm s t x y rfl (by decide) v n U o (D m 0) 1 i (iC f a j).toList rfl (λb l e=>by
  have E:((D m 0):Addr).add b=(D m b):=by simp[Addr.add];omega
  rw[E];rw[Dx] at e;exact p b l e) (λl e=>by
  simp only[qO,sL,or_false] at e
  rcases e with rfl|rfl|rfl|rfl|rfl|rfl|rfl|rfl<;>rfl) (by unfold maxLen;omega) (by omega) q
 exact⟨c,d,z,A,B,C⟩
def DY{e:Array Oper}{f:List Oper}{o:Oper}{c:Act}{Q:Exit->Act->N->Prop}(p:o.guard=none)(s x:Operand)(q:o.op=.call {callee:=.builtin .append,args:=#[s,x],argTypes:=#[30,30]})
 (d n g h:Nat) (v:Zv) (i:jX) (j:Zo) (k:Nat) (l:Zu) (r:c.eval s=v) (t:w.ownsRow d 81 8 v n l) (y:c.eval x=Zx g 1 h) (z:∀m u,(iC i j k)[m]? =some u->w.cell? (D g m)=some u) (A:n<=1000000) (B:d<=w.heap.size)
 (C:∀a b,b.ownsRow d 81 8 a (n+1) (l++(iC i j k).toList)->w.grownBy b v.ownBlock->(a.ownBlock=v.ownBlock\/a.ownBlock=some w.heap.size)->wpList Zf e Q f (c.put o.dst a) b):wpList Zf e Q (o::f) c w:=by
 refine wpList_plain p λK E=>?_;obtain⟨a,b,F,G,H,I⟩:=jAl (i:=h) o.type t z A B;unfold Oper.wp execOp;simp only[q,resolve,invoke,builtin,Sem.run_bind,Sem.run_pure,oH,List.map_toArray,yI,List.map_nil,r,y,F];exact E _ _ (C a b G H I)
end Go.Proofs.YtohdnhlfpldbmaaGreat
