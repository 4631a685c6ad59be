/- SearchSound: what a search calls refuted has no model: whatever signature, clauses, number of steps and model are handed in, the statement's function answers true. -/
import Derived.Test.YtohdnhlfpldbmaaGreatJoined11
import Derived.Test.YtohdnhlfpldbmaaGreatRows
import Derived.WalkKit
import Derived.ProofKit
import Derived.OpenShut
import Derived.ChangeOld
import Derived.Below
set_option maxRecDepth 100000
set_option maxHeartbeats 8000000
namespace Go.Proofs.YtohdnhlfpldbmaaGreat
open Go.ChangeShapes Go.WideShapes Go.ChangeAt Go.RowKit
set_option linter.unusedVariables false
theorem own:ownKnob Tryz.prog.godebug=none:=by kernel_rfl
theorem Kv:laidOutB Tryz.prog=true:=by kernel_rfl
theorem jCk(o:Os)(J:o.Started)(K:Type)(c:TypeId×Value->K):
 ReturnsInHanded {} Tryz.checked o 3 .any (Rows.searchSoundSpec.pre6 c Tryz.prog Tryz.f3 Rows.searchSoundRow.domain false) (Rows.searchSoundSpec.post c Tryz.prog Tryz.f3 false true false false):=by
 refine returnsInHanded_of_change (C:=Tryz.checked) own J (by kernel_rfl) Tryz.func3
  (ChangeSpec.witness6 (enc:=c) (C:=Tryz.checked) false ⟨#[],#[.agg #[.slice none 0 0],.slice none 0 0,.int .i64 0,.agg #[.int .i64 0,.slice none 0 0]],[]⟩ 8 (by kernel_rfl) (by kernel_rfl) (by kernel_rfl) (by kernel_rfl)) ?_
 intro W L f M gs am e p an _;have d:∀(j:Nat)t v,Tryz.f3.params[j]? =some t->f[j]? =some v->Value.okWide Tryz.prog W .any L t v:=e;have O:=p;obtain⟨P,ao,q,Q,rfl,ap,aq⟩:=p;have r:DataW.TrodAll c Tryz.prog W 0 (λ_=>true) true Tryz.f3.params.toList f.toList M P:=q;rw[Tryz.params3] at r d;obtain⟨g,ar,d0,au,R,q0,av,rfl,rfl,s,S⟩:=trodAll_cons r;obtain⟨h,DN,d1,aw,U,q1,rfl,rfl,rfl,u,r1⟩:=trodAll_cons S;obtain⟨w,DO,d2,ax,V,q2,rfl,rfl,rfl,Z,r2⟩:=trodAll_cons r1;obtain⟨i,ay,d3,az,p3,q3,rfl,rfl,rfl,y,r3⟩:=trodAll_cons r2;obtain⟨rfl,rfl,rfl⟩:=trodAll_nil r3;obtain rfl:f=#[g,h,w,i]:=by cases f;simp_all
 obtain⟨rfl,rfl⟩:=trodVars_none Q;have z:=s;have A:=u;have B:=Z;have E:=y;have aa:∀x∈R,x.block<W.heap.size:=by obtain⟨m,b⟩:=z;exact DataW.trod_lt m _ _ _ b
 have ab:∀x∈U,x.block<W.heap.size:=by obtain⟨m,b⟩:=A;exact DataW.trod_lt m _ _ _ b
 have ac:∀x∈V,x.block<W.heap.size:=by obtain⟨m,b⟩:=B;exact DataW.trod_lt m _ _ _ b
 have ad:∀x∈p3,x.block<W.heap.size:=by obtain⟨m,b⟩:=E;exact DataW.trod_lt m _ _ _ b
 obtain⟨j,k,l,rfl,hg⟩:∃j k l,g=.agg #[.slice k j.length l]/\jV W j k:=by
  obtain⟨a,rfl,_⟩:=okWide_struct Go.Proofs.Tryz.underlying24 (d 0 24 g rfl rfl);obtain⟨ae,G⟩:=s;obtain⟨n,x,F,H,I⟩:=YH G;refine⟨n,x,F,?_,I⟩;have:a.toList=[.slice x n.length F]:=H;rw[<-Array.toArray_toList (xs:=a),this]
 obtain⟨a0,a1,ae,rfl,af,ag,ah⟩:∃a x lc,h=.slice x a.length lc/\bI (λn=>n<W.heap.size) W a x/\a.length<=9223372036854775807/\∀n,n∈a->n.length<=9223372036854775807:=by
  obtain⟨G,H,I,rfl⟩:=okWide_slice Go.Proofs.Tryz.underlying25 (d 1 25 h rfl rfl);obtain⟨al,hf⟩:=u;obtain⟨n,ai,aj,ak,hi,hl,hc⟩:=YE hf;have F:[Value.slice G H I]=[.slice ai n.length aj]:=ak;simp only[mX,lH,and_true] at F;obtain⟨rfl,rfl,rfl⟩:=F;exact⟨n,_,_,rfl,hi,hl,hc⟩
 obtain⟨z0,rfl⟩:=okWide_int Go.Proofs.Tryz.underlying3 (d 2 3 w rfl rfl);obtain⟨ai,a2,a3,aj,rfl,ak⟩:∃(n:Int)(a:List (List Int))(F:Option Addr)(tc:Nat),i=.agg #[.int .i64 n,.slice F a.length tc]/\dK W a F:=by
  obtain⟨G,rfl,_⟩:=okWide_struct Go.Proofs.Tryz.underlying28 (d 3 28 i rfl rfl);obtain⟨a4,hf⟩:=y;obtain⟨n,a,H,I,al,hi⟩:=YG hf;refine⟨n,a,H,I,?_,hi⟩;have:G.toList=[.int .i64 n,.slice H a.length I]:=al;rw[<-Array.toArray_toList (xs:=G),this]
 clear q e;refine(jBl l ae z0 ai aj ag ah hg af ak).mono λe e ⟨q,e⟩=>?_;subst q
 exact⟨_,rfl,_,_,_,[],_,[],O,trodAll_mk1 (shut_bool Go.Proofs.Tryz.underlying4 _),
  (trodAll_cons_mk (Below.trod Kv (by kernel_rfl) (of_decide_eq_true (by kernel_rfl)) z e aa) (trodAll_cons_mk (Below.trod Kv (by kernel_rfl) (of_decide_eq_true (by kernel_rfl)) A e ab) (trodAll_cons_mk (Below.trod Kv (by kernel_rfl) (of_decide_eq_true (by kernel_rfl)) B e ac) (trodAll_cons_mk (Below.trod Kv (by kernel_rfl) (of_decide_eq_true (by kernel_rfl)) E e ad) trodAll_mk0)))),rfl,e.frame _,λe=>by cases e⟩
theorem jCl:Rows.searchSoundRow.holds Tryz.pinned (OpenSpec.ofChange Rows.searchSoundSpec):=
 OpenClaim.holds_of_wide 3 Tryz.f3 rfl rfl rfl rfl rfl rfl rfl ⟨rfl,rfl,rfl,rfl,rfl⟩ rfl rfl rfl rfl rfl jBn Tryz.func3 jBm jBo jCm
  (λa b H c _=>jCk a b H c)
theorem searchSound_proved:Rows.SearchSoundSaid:=jCl
#print axioms searchSound_proved
end Go.Proofs.YtohdnhlfpldbmaaGreat
