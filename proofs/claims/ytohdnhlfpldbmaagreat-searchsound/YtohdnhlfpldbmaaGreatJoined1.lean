import Derived.Below
import Derived.BigQuiet
import Derived.ChangeOld
import Derived.Deep.AppendLies
import Derived.Deep.CutBlock
import Derived.Deep.DeepCutAuto
import Derived.Deep.DrawnRows
import Derived.Deep.QuietTactic
import Derived.Deep.RegionHeld3
import Derived.Deep.RegionLaw
import Derived.Deep.RegionWith
import Derived.Laws.AppendOwnNone
import Derived.Lib.SlicesCompact
import Derived.LoopIn
import Derived.LoopNIn
import Derived.Maps.AppendAt
import Derived.Maps.Keyed
import Derived.Maps.OwnOps
import Derived.Maps.OwnSet
import Derived.OpenShut
import Derived.Outline
import Derived.OwnWalkIn
import Derived.ProofKit
import Derived.RangeFuncBound
import Derived.RangeFuncCalls
import Derived.RangeFuncIn
import Derived.RangeFuncNested
import Derived.RangeFuncRecord
import Derived.Shelf.Slices.CompactI
import Derived.Shelf.Slices.In.SortNone
import Derived.Shelf.Sort.Plain
import Derived.TacticsInMore
import Derived.Test.YtohdnhlfpldbmaaGreatChecked
import Derived.Test.YtohdnhlfpldbmaaGreatProg
import Derived.Test.YtohdnhlfpldbmaaGreatRows
import Derived.WalkKit
import Derived.WalkLawsBesides
import Derived.WalkSpells
set_option maxRecDepth 100000
set_option maxHeartbeats 32000000
namespace Go.Proofs.YtohdnhlfpldbmaaGreat
open Go.ChangeShapes Go.WideShapes Go.ChangeAt Go.RowKit
theorem jBp:(Rows.searchSoundRow.wf (OpenSpec.ofChange Rows.searchSoundSpec))=true:=by kernel_rfl
theorem jBq:(laidOutB Tryz.prog)=true:=by kernel_rfl
theorem jB1:(mapsRowed Tryz.prog)=true:=by kernel_rfl
theorem jCb:(Tryz.f3.params.all (Tryz.prog.readableRec ·))=true:=by kernel_rfl
theorem jCe:(namedTie Tryz.prog Rows.searchSoundRow.named Rows.searchSoundSpec.vars)=true:=by kernel_rfl
theorem jCf:((Rows.searchSoundRow.stops==[]))=true:=by kernel_rfl
theorem jCg:((Tryz.prog.stops==[]))=true:=by kernel_rfl
theorem jCh:((Rows.searchSoundRow.knobs==[]))=true:=by kernel_rfl
theorem jCi:((Tryz.prog.stopKnobs==[]))=true:=by kernel_rfl
theorem jCj:((Rows.searchSoundRow.inPlace==Tryz.prog.inPlace 3))=true:=by kernel_rfl
theorem jBr:((Rows.searchSoundRow.unfollowed==Tryz.prog.unfollowed 3))=true:=by kernel_rfl
theorem jBs:((Rows.searchSoundRow.recurses==Tryz.prog.recurses 3))=true:=by kernel_rfl
theorem jBt:((Rows.searchSoundRow.named==Tryz.prog.varsNamed 3))=true:=by kernel_rfl
theorem jBu:((Rows.searchSoundRow.maps==(Tryz.f3.params.toList++Rows.searchSoundSpec.plain.varTypes Tryz.prog).any (Tryz.prog.mapsRec ·)))=true:=by kernel_rfl
theorem jBv:((Rows.searchSoundRow.ifaces==(Tryz.f3.params.toList++Rows.searchSoundSpec.plain.varTypes Tryz.prog).any (Tryz.prog.ifacesRec ·)))=true:=by kernel_rfl
theorem jBw:((Rows.searchSoundRow.mapsOut==Tryz.prog.mapsAmong Tryz.f3.resultTypes.toList))=true:=by kernel_rfl
theorem jBx:((Rows.searchSoundRow.loops==(Tryz.f3.params.toList++Rows.searchSoundSpec.plain.varTypes Tryz.prog).any (Tryz.prog.loopsFrom ·)))=true:=by kernel_rfl
theorem jBy:((Rows.searchSoundRow.wideKeys==(Tryz.f3.params.toList++Rows.searchSoundSpec.plain.varTypes Tryz.prog++Tryz.f3.resultTypes.toList).any (Tryz.prog.wideKeysFrom ·)))=true:=by kernel_rfl
theorem jBz:(Rows.searchSoundSpec.vars.all (Tryz.prog.varReadable ·))=true:=by kernel_rfl
theorem jB0:(Tryz.f3.resultTypes.all (λt=>Tryz.prog.readableRec t && decide (t<Tryz.prog.types.size)))=true:=by kernel_rfl
theorem jB2:((Rows.searchSoundRow.ifacesOut==Tryz.f3.resultTypes.toList.any (Tryz.prog.ifacesRec ·)))=true:=by kernel_rfl
theorem jB3:((Rows.searchSoundRow.loopsOut==Tryz.f3.resultTypes.toList.any (Tryz.prog.loopsFrom ·)))=true:=by kernel_rfl
theorem jB4:((Rows.searchSoundRow.plainKeys==Tryz.prog.plainKeys))=true:=by kernel_rfl
theorem jB5:(Rows.searchSoundRow.shortTexts.isNone)=true:=by kernel_rfl
theorem jB6:(Tryz.prog.stopsHeard)=true:=by kernel_rfl
theorem jB7:(Tryz.prog.mayEnter)=true:=by kernel_rfl
theorem jB8:((Rows.searchSoundRow.lifted==Tryz.prog.liftsFinal))=true:=by kernel_rfl
theorem jB9:((Tryz.prog.make==some Rows.searchSoundRow.make))=true:=by kernel_rfl
theorem jCa:((Rows.searchSoundRow.pinned==Rows.searchSoundRow.pinnedBy))=true:=by kernel_rfl
theorem jCc:((Rows.searchSoundRow.veiled==(Tryz.f3.params.toList++Rows.searchSoundSpec.plain.varTypes Tryz.prog++Tryz.f3.resultTypes.toList).any (Tryz.prog.veiledRec ·)))=true:=by kernel_rfl
theorem jCd:(Rows.searchSoundRow.veiledFits Tryz.prog Tryz.f3.params.toList (Tryz.f3.params.toList++Rows.searchSoundSpec.plain.varTypes Tryz.prog++Tryz.f3.resultTypes.toList))=true:=by kernel_rfl
theorem jBm:joinedFacts Tryz.prog 3 Tryz.f3 Rows.searchSoundSpec Rows.searchSoundRow=true:=by
 unfold joinedFacts;rw[jBp,jBq,jB1,jCb,jCe,jCf,jCg,jCh,jCi,jCj,jBr,jBs,jBt,jBu,jBv,jBw,jBx,jBy,jBz,jB0,jB2,jB3,jB4,jB5,jB6,jB7,jB8,jB9,jCa,jCc,jCd];kernel_rfl
theorem jBn:Tryz.pinned.checked.prog.funcNamed Rows.searchSoundRow.func=some 3:=by kernel_rfl
theorem jBo:Tryz.f3.isInstance Tryz.pinned.checked.prog Rows.searchSoundRow.origin Rows.searchSoundRow.targs:=of_decide_eq_true (by kernel_rfl)
theorem jCm:Tryz.f3.isWrapper Tryz.pinned.checked.prog Rows.searchSoundRow.wrapper Rows.searchSoundRow.mainSum:=by unfold Func.isWrapper;first|(rw[if_pos (by decide+kernel)];kernel_rfl)|(rw[if_neg (by decide+kernel)];exact⟨rfl,rfl⟩)
end Go.Proofs.YtohdnhlfpldbmaaGreat
namespace Go.Proofs.YtohdnhlfpldbmaaGreat
open Go.RowKit Go.Maps
set_option linter.all false
def jB:=@if_pos
def jC:=@if_neg
def jD:=@Or.inl
def jE:=@Or.inr
def jF:=@Nat.le_refl
def jM:=@And.intro
def jN:=@absurd
def jO:=@List.getElem?_eq_getElem
def jU:=@List.mem_of_getElem?
def jW:=@Below.refl
def jY:=@Nat.zero_le
def jZ:=@List.getElem?_eq_some_iff
def kH:=@World.cell?_of_block
def kK:=@Nat.zero_add
def kN:=@Nat.le_trans
def kT:=@Option.some.inj
def kV:=@Nat.lt_of_lt_of_le
def qB:=@List.length_append
def qE:=@World.size_alloc
def qO:=@List.mem_cons
def qS:=@bodyPost_ret
def qU:=@List.take_length
def qW:=@Option.some.injEq
def vD:=@List.mem_append
def vG:=@List.mem_cons_of_mem
def vL:=@Below.heap_setCell
def vP:=@List.getElem?_cons_zero
def vX:=@List.mem_cons_self
def vY:=@List.mem_singleton
def vZ:=@List.take_add_one
def xE:=@congrArg
def xH:=@Below.drew
def xI:=@List.length_cons
def xS:=@List.getElem?_cons_succ
def xW:=@Nat.lt_or_ge
def yD:=@List.length_take
def yE:=@World.cell?_setCell_other
def yI:=@List.map_cons
def yM:=@List.length_eq_zero_iff
def yT:=@List.mem_append_left
def yX:=@Below.mono
def yY:=@Bool.and_eq_true
def yZ:=@List.getElem?_eq_none
def zG:=@List.getElem?_toArray
def zL:=@Below.heap_alloc
def zT:=@Below.trans
def zU:=@List.append_nil
def zZ:=@Hid.out
def bD:=@Below.setCell
def bF:=@List.mem_append_right
def bG:=@Prod.mk.injEq
def bP:=@List.mem_map
def bQ:=@Option.map_eq_some_iff
def bR:=@heap_alloc_new
def bZ:=@List.getElem?_map
def dC:=@World.frozen?_setCell
def dH:=@List.append_assoc
def dI:=@List.getD_eq_getElem?_getD
def dW:=@List.cons_append
def dX:=@List.drop_length
def dY:=@List.length_map
def gJ:=@Array.getElem?_eq_some_iff
def gY:=@List.getElem?_set_ne
def gZ:=@World.frozen?_of_block
def fG:=@Addr.mk.injEq
def fL:=@World.cell?_alloc_mark
def fS:=@heap_setCell_same
def lF:=@List.length_set
def lH:=@Value.slice.injEq
def mE:=@Int.le_refl
def mG:=@Nat.add_zero
def mW:=@List.any_eq_true
def mX:=@List.cons.injEq
def mY:=@List.getElem?_append_left
def mZ:=@List.length_nil
def nO:=@List.getElem?_append_right
def nP:=@List.map_append
def nQ:=@List.nil_append
def pK:=@Int.toNat_natCast
def pN:=@List.drop_eq_getElem_cons
def pO:=@List.getElem?_set_self
def pS:=@World.cell?_setCell_same
def sD:=@results_none
def sK:=@List.length_mergeSort
def sL:=@List.not_mem_nil
def tE:=@results_cell_row
def tQ:=@List.length_drop
def aL:=@Iff.rfl
def aM:=@List.nodup_cons
def cJ:=@List.getElem_cons_drop
def cK:=@List.nodup_append
def cL:=@List.take_append_drop
def cO:=@Option.map_some
def cX:=@decide_eq_false
def eJ:=@Bool.eq_iff_iff
def eR:=@List.getElem?_take_of_lt
def eS:=@List.mem_range
def eT:=@List.nodup_nil
def iE:=@decide_eq_true
def oB:=@List.ext_getElem?
def oC:=@List.getElem?_take
def oD:=@Nat.le_add_right
def oF:=@Option.isSome_iff_exists
def oH:=@Result.andThen_ok
def rA:=@Bool.true_and
def rE:=@List.any_cons
def rG:=@Option.bind_eq_some_iff
def rH:=@Option.isSome_none
def rS:=@bodyPost_end
def uK:=@Array.getElem?_eq_none
def uO:=@Int.eq_ofNat_of_zero_le
def uS:=@List.all_eq_true
def uT:=@List.any_append
def uU:=@List.drop_zero
def uV:=@List.getElem_mem
def uW:=@List.mem_filter
def uX:=@List.mem_iff_getElem?
def uY:=@List.take_succ_cons
def wJ:=@Nat.sub_self
def wK:=@Option.getD_some
def wL:=@Option.isSome_some
def wZ:=@congrFun
def Av:=@Below.alloc
def Ba:=@IntWalk.i64_left
def Be:=@List.all_eq_false
def Bf:=@List.getElem?_of_mem
def Bg:=@List.idxOf_lt_length_iff
def Bh:=@List.length_eraseIdx
def Bj:=@List.length_filter_le
def Bl:=@List.mem_flatMap
def Bo:=@Nat.not_lt_zero
def Dx:=@Array.getElem?_toList
def Dz:=@Bool.eq_false_or_eq_true
def Ea:=@Bool.false_and
def Eb:=@DataW.trod_slice
def Ei:=@List.all_append
def Ej:=@List.getElem?_drop
def Ek:=@List.length_pos_iff
def El:=@List.map_congr_left
def Em:=@List.mem_map_of_mem
def En:=@List.mem_mergeSort
def Eo:=@List.mem_of_mem_drop
def Ep:=@List.pairwise_cons
def Er:=@List.pairwise_iff_getElem
def Es:=@List.size_toArray
def Et:=@Option.getD_none
def Fe:=@World.cell?_setCells_out
def Gr:=@Array.getElem?_modify
def Gs:=@Array.replicate_succ
def Gt:=@Array.replicate_zero
def Gw:=@Bool.not_eq_true'
def Gx:=@Bool.or_eq_true
def Il:=@List.append_toArray
def Im:=@List.filterMap_append
def Io:=@List.flatMap_map
def Ip:=@List.idxOf_append
def Iq:=@List.length_range
def Ir:=@List.length_singleton
def Is:=@List.length_take_of_le
def It:=@List.push_toArray
def Iv:=@Nat.zero_mul
def Ji:=@World.cell?_spot
def Jj:=@World.cells?_some
def Jk:=@World.ownsRow_nil
def Ly:=@Array.getElem?_eq_getElem
def Lz:=@Bool.not_false
def Ma:=@Classical.axiomOfChoice
def Mh:=@Int.mul_le_mul
def Mp:=@List.filter_append
def Mq:=@List.flatMap_append
def Mr:=@List.flatMap_cons
def Ms:=@List.getElem?_eq_none_iff
def Mt:=@List.mem_filterMap
def Mu:=@List.mem_of_mem_eraseIdx
def Mv:=@List.mergeSort_nil
def Mw:=@List.pairwise_singleton
def Mx:=@List.range_succ_eq_map
def My:=@Nat.mul_le_mul
def Mz:=@Option.map_none
def Nl:=@World.cell?_setCells_in
def Sf:=@List.eraseIdx_eq_take_drop_succ
def Sg:=@List.mem_iff_getElem
def Sh:=@List.mem_of_mem_take
def Si:=@List.pairwise_mergeSort
def Sl:=@Nat.mul_le_mul_right
abbrev N:=World
abbrev Zo:=Option Addr
abbrev Zn:=List Int
abbrev Zu:=List Value
abbrev Zy:=Array Value
abbrev Zp:=Nat->Prop
abbrev Y(x:Int):Value:=.int .i64 x
abbrev Zb(w a:World):Prop:=Go.RowKit.Below w.heap.size w a
abbrev D(b k:Nat):Addr:=⟨b,k,none⟩
abbrev Zq(w:World)(b k:Nat)(v:Value):Prop:=w.cell? ⟨b,k,none⟩=some v
abbrev Zr(b:Nat):Value:=.pointer (some ⟨b,0,none⟩)
abbrev Zx(b n c:Nat):Value:=.slice (some ⟨b,0,none⟩) n c
abbrev Zz(b k n c:Nat):Value:=.slice (some ⟨b,k,none⟩) n c
abbrev Zv:=Value
abbrev Zd:Value:=.slice none 0 0
abbrev Zk{a:Type}(b:Option Addr)(l:List a)(c:Nat):Value:=.slice b l.length c
theorem Ze{a:Type}(b:a):∃x,x=b:=⟨_,rfl⟩
theorem Zg{a:Type}{l:List a}{k:Nat}(h:k<l.length):∃x,l[k]? =some x:=⟨_,jO h⟩
theorem Zl{a:Type}{l:List a}{k:Nat}{x:a}(h:l[k]? =some x):k<l.length:=(jZ.1 h).1
structure T where
 v:Int
 f:Int
 e:List T
abbrev Zt:=List T
abbrev Zs:=List (Int×T)
abbrev Zj(t:T)(a:Option Addr)(c:Nat):Array Value:=#[.int .i64 t.v,.int .i64 t.f,.slice a t.e.length c]
abbrev Zc:=List (Bool×T×T)
abbrev Zm:=List (List (Bool×T×T))
def T.E:T->Nat
 |⟨_,_,a⟩=>1+szL a
 where
 szL:List T->Nat
  |[]=>0
  |t::b=>t.E+szL b
theorem T.I(t:T):1<=t.E:=by
 cases t;simp[T.E]
theorem T.P:T.E.szL []=0:=rfl
theorem T.F(t:T)(a:List T):T.E.szL (t::a)=t.E+T.E.szL a:=rfl
theorem T.M(t:T):t.E=1+T.E.szL t.e:=by cases t;rfl
theorem T.szL_append(a b:List T):T.E.szL (a++b)=T.E.szL a+T.E.szL b:=by
 induction a with
 |nil=>simp[T.P]
 |cons t d c=>simp[T.F,c,Nat.add_assoc]
theorem T.length_le(l:List T):l.length<=T.E.szL l:=by
 induction l with
 |nil=>simp[T.P]
 |cons a l b=>have:=a.I;simp[T.F];omega
theorem T.W{t:T}{l:List T}(h:t∈l):t.E<=T.E.szL l:=by
 induction l with
 |nil=>cases h
 |cons b l a=>
  rw[T.F];rcases qO.1 h with rfl|h
  .omega
  have:=a h;omega
def qT(a:List Int):Int:=
 if 12<a.length then 2 else if a.all (λn=>decide (0<=n/\n<=3)) then 0 else 3
def xU(a:List Int)(v f:Int)(n:Nat):Int:=
 if v≠0 then(if v<1\/1000<v then 3 else if n≠0\/f≠0 then 1 else 0)
 else if f<0\/(a.length:Int)<=f then 5 else if (n:Int)≠a.getD f.toNat 0 then 1 else 0
def qP{S:Type}(a:S->T->S×Bool):S->T->S×Bool
 |s,⟨v,f,b⟩=>
  let r:=lookL s b
  if r.2=false then(r.1,false) else a r.1 ⟨v,f,b⟩
 where
 lookL:S->List T->S×Bool
  |s,[]=>(s,true)
  |s,t::c=>
   let r:=qP a s t
   if r.2=false then(r.1,false) else lookL r.1 c
theorem Ah{S:Type}(a:S->T->S×Bool)(s:S):qP.lookL a s []=(s,true):=rfl
theorem Fw{S:Type}(a:S->T->S×Bool)(s:S)(t:T):qP a s t=if (qP.lookL a s t.e).2=false then((qP.lookL a s t.e).1,false) else a (qP.lookL a s t.e).1 t:=by
 cases t;rfl
theorem oQ{S:Type}(a:S->T->S×Bool)(s:S)(t:T)(b:List T):qP.lookL a s (t::b)=if (qP a s t).2=false then((qP a s t).1,false) else qP.lookL a (qP a s t).1 b:=rfl
theorem Xy{S:Type}(a:S->T->S×Bool)(b c:List T):∀s:S,qP.lookL a s (b++c)=if (qP.lookL a s b).2=false then((qP.lookL a s b).1,false) else qP.lookL a (qP.lookL a s b).1 c:=by
 induction b with
 |nil=>intro s;simp[Ah]
 |cons t e d=>
  intro s;rw[dW,oQ,oQ];by_cases h:(qP a s t).2=false
  .simp[h]
  rw[jC h,jC h,d]
theorem UY{S:Type}{c:S->T->S×Bool}{s d s2:S}{a:List T}{k:Nat}{t:T}(b:a[k]? =some t)(h:qP.lookL c s (a.take k)=(d,true)):
 (qP c d t=(s2,true)->qP.lookL c s (a.take (k+1))=(s2,true))/\(qP c d t=(s2,false)->qP.lookL c s a=(s2,false)):=by
 have f:k<a.length:=by
  rcases xW k a.length with h|h
  .exact h
  rw[yZ h] at b;cases b
 constructor
 .intro e
  rw[vZ,b,Xy,h];simp[oQ,e,Ah]
 intro e;have g:a=a.take k++t::a.drop (k+1):=by
  rw[jO f] at b;simp at b;rw[<-b,cJ,cL]
 rw[g,Xy,h];simp[oQ,e]
theorem Pp{S:Type}{a:S->T->S×Bool}{b:S->Nat}(h:∀s t,b (a s t).1<=b s+1):∀(n:Nat),(∀(t:T)(s:S),t.E<=n->b (qP a s t).1<=b s+t.E)/\(∀(c:List T)(s:S),T.E.szL c<=n->b (qP.lookL a s c).1<=b s+T.E.szL c):=by
 intro n;induction n with
 |zero=>
  refine⟨λt s d=>by have:=t.I;omega,λc s d=>?_⟩
  cases c with
  |nil=>simp[Ah]
  |cons t c=>have:=t.I;rw[T.F] at d;omega
 |succ n g=>
  have e:∀(t:T)(s:S),t.E<=n+1->b (qP a s t).1<=b s+t.E:=λt s d=>by
   rw[T.M] at d ⊢;have i:=g.2 t.e s (by omega);rw[Fw];by_cases f:(qP.lookL a s t.e).2=false
   .rw[jB f];show b (qP.lookL a s t.e).1<=_;omega
   rw[jC f];have:=h (qP.lookL a s t.e).1 t;omega
  refine⟨e,λc=>?_⟩;induction c with
  |nil=>intro s _;simp[Ah]
  |cons t c f=>
   intro s d;rw[T.F] at d ⊢;have i:=e t s (by omega);rw[oQ];by_cases d:(qP a s t).2=false
   .rw[jB d];show b (qP a s t).1<=_;omega
   rw[jC d];have:=f (qP a s t).1 (by omega);omega
def qK:T->List Int->Option T
 |t,[]=>some t
 |t,i::p=>if 0<=i/\i<t.e.length then(t.e[i.toNat]?).bind (λu=>qK u p) else none
theorem Jr(p q:List Int):∀t,qK t (p++q)=(qK t p).bind (λu=>qK u q):=by
 induction p with
 |nil=>intro t;rfl
 |cons i p a=>
  intro t;rw[dW,qK,qK];by_cases h:0<=i/\i<t.e.length
  .rw[jB h,jB h]
   cases t.e[i.toNat]? with
   |none=>rfl
   |some u=>exact a u
  rw[jC h,jC h];rfl
theorem Ny{t u:T}{a:List Int}{k:Nat}(d:k<a.length)(h:qK t (a.take k)=some u):
 (∀b,0<=a.getD k 0->a.getD k 0<u.e.length->u.e[(a.getD k 0).toNat]? =some b->qK t (a.take (k+1))=some b)/\(¬(0<=a.getD k 0/\a.getD k 0<u.e.length)->qK t a=none):=by
 have e:a.getD k 0=a[k]:=by rw[dI,jO d];rfl
 constructor
 .intro b c f g
  rw[vZ,jO d,Jr,h,<-e];show qK u [a.getD k 0]=_;rw[qK,jB ⟨c,f⟩,g];rfl
 intro c;have i:a=a.take k++a[k]::a.drop (k+1):=by
  rw[cJ,cL]
 rw[i,Jr,h,<-e];show qK u (_::_)=_;rw[qK,jC c]
end Go.Proofs.YtohdnhlfpldbmaaGreat
set_option maxRecDepth 100000
set_option maxHeartbeats 32000000
set_option linter.all false
namespace Go.Proofs.YtohdnhlfpldbmaaGreat
open Go.RowKit Go.Maps
open Go.Proofs.Tryz renaming prog->Zf
attribute [local go_sem ↓] Go.wp_at_zero Go.wp_at_succ
variable {k n m i j n1 n2 n3 n4 n5 n6 n7 n8 n9:Nat}{w u v w1 w2 w3 w4 w5:N}{x y x1 x2 x3 x4 x5 x6 x7 x8 x9:Value}{r r1 r2:Zn}{p p1 p2:Zp}{z z1 z2 z3:Int}{a a1 a2 a3 a4:Zo}{t s t1 t2:T}{c d c1 c2:Zc}{g g1 g2:TypeId}{b b1 b2:Zs}{l l1:Zt}{U V U1 U2:Zu}{B B1:Bool}
structure jR (Z:Zp) (A B:N):Prop where
 below:Below 0 A B
 block:∀k,k<A.heap.size->¬Z k->B.heap[k]? =A.heap[k]?
def jR.refl(Z:Zp)(A:N):jR Z A A:=⟨jW _ _,λ_ _ _=>rfl⟩
def jR.trans(h:jR p w u)(k:jR p u v):jR p w v:=
 ⟨h.below.trans k.below,λi a b=>by rw[k.block i (kV a h.below.size) b,h.block i a b]⟩
def jR.A(h:Zb w u):jR p w u:=⟨h.mono (jY _),λk a _=>h.block k a⟩
def jR.mono(h:jR p w u)(a:∀k,p k->p1 k):jR p1 w u:=⟨h.below,λk b c=>h.block k b (λh=>c (a k h))⟩
def jR.putObj(a:p k)(o:Obj):jR p w (w.putObj k o):=
 ⟨⟨rfl,rfl,rfl,by simp,λb c=>jN c (Bo _)⟩,λb _ b=>World.putObj_heap_other (λe=>b (e▸a))⟩
def tY(fn:FuncId)(a:Act)(b:Array Tmp)(assign body:Code)(c:Nat)(d:LoopState):Obj:=.loop {state:=d,pending:=none,fn,tmps:=a.tmps,params:=b,assign,body,defers:=c}
def EW{a:Type}(Z:Zp)(I:List a->N->Prop)(c:List a)(b l:Nat)(A W:N)(e:Exit)(_:Act)(B:N):Prop:=
 e=.normal/\B.heap[l]? =W.heap[l]?/\B.heap[b]? =W.heap[b]?/\jR Z A B/\I c B
def jFp{P:Program}{g:FuncId}{a:Array Tmp}{b c:Code}{h:Act}{i:Type}{j:i->Zy}{I:List i->N->Prop}{pre:List i}{x:i}
 (u:(j x).size=a.size) (v:p k) (y:∀pre w z,I pre w->I pre (w.putObj k z)) (o:w.heap[k]? =some (tY g h a b c n .ready)) (q:k≠n)
 (A:b.wpIn (Fence.wide.inRound k) 0 P (Exit.then (λr d=>d.heap[k]? =w.heap[k]?/\d.heap[n]? =w.heap[n]?/\jR p w d/\
   c.wpIn (Fence.wide.inRound k) 0 P (EW p I (pre++[x]) n k w (d.putObj k (tY g h a b c n .busy))) r (d.putObj k (tY g h a b c n .busy))) (λ_ _ _=>False))
   {tmps:=(a.zip (j x)).foldl (λt(C,E)=>t.setIfInBounds C E) h.tmps,defers:=[]} w):
 YieldAt Fence.wide 0 P k (j x) w λe B=>e=.returned (.bool true)/\(I (pre++[x]) B/\B.heap[k]? =some (tY g h a b c n .ready)/\B.heap[n]? =w.heap[n]?)/\jR p w B:=by
 refine⟨g,_,b,c,run_yield o u,roundIn_of_wpIn trivial (wpIn_mono A ?_)⟩;rintro e r d f
 cases e with
 |normal=>
  obtain⟨l,F,L,G⟩:=f;rw[o] at l;have H:=(gJ.1 l).1;refine⟨_,run_beginRound l rfl,wpIn_mono G ?_⟩;rintro e M B ⟨rfl,m,s,J,K⟩;rw[World.putObj_heap_same H] at m;rw[World.putObj_heap_other (λe=>q e.symm)] at s;refine⟨_,_,run_endRound none m,rfl,⟨y _ _ _ K,World.putObj_heap_same (gJ.1 m).1,?_⟩,?_⟩
  .rw[World.putObj_heap_other (λe=>q e.symm),s,F]
  exact J.trans (jR.putObj v _)
 |exit l=>exact f
 |goto t=>exact f
 |ret=>exact f
 |panic m=>exact f
 |outgrown=>exact f
def jR.grown(h:w.grownBy u none):jR p w u:=⟨⟨h.os,h.tape,h.output,h.size,λk a=>jN a (Bo _)⟩,λk a _=>h.block k a (by simp)⟩
def jR.alloc(A:N)(o:Obj):jR p A (A.alloc o):=jR.A ((jW _ A).alloc (jF _) o)
structure KR (K O:Zp) (A B:N):Prop where
 below:Below 0 A B
 block:∀k,k<A.heap.size->K k\/O k->B.heap[k]? =A.heap[k]?
def KR.trans(h:KR p p1 w u)(k:KR p p1 u v):KR p p1 w v:=
 ⟨h.below.trans k.below,λi a b=>by rw[k.block i (kV a h.below.size) b,h.block i a b]⟩
def KR.A(h:Zb w u):KR p p1 w u:=⟨h.mono (jY _),λk a _=>h.block k a⟩
def KR.mono{a:Zp}(h:KR p p1 w u)(c:∀k,k<w.heap.size->p2 k\/a k->p k\/p1 k):KR p2 a w u:=⟨h.below,λk b d=>h.block k b (c k b d)⟩
def KR.putObj(c:¬p k)(d:¬p1 k)(o:Obj):KR p p1 w (w.putObj k o):=
 ⟨⟨rfl,rfl,rfl,by simp,λa b=>jN b (Bo _)⟩,λa _ a=>World.putObj_heap_other (λe=>by subst e;rcases a with h|h<;>contradiction)⟩
def sP(O a:Zp)(A B:N):Prop:=∀k,a k->k<B.heap.size/\(O k\/A.heap.size<=k)
def uQ(P:Program)(d:Nat)(f:Zy){a:Type}(g:a->Zy)(own:a->Nat->Prop)(M:List a->a->N->Prop)(S:List a->Prop)(K:Zp)(b:N):Prop:=
 ∀(l:Nat)(J T:Zp->List a->N->Prop)(W:N),b.heap.size<=W.heap.size->(∀k,K k->W.heap[k]? =b.heap[k]?)->
  (∀O c pre A B,J O pre A->jR O A B->sP O c A B->J c pre B)->(∀O pre A B,T O pre A->jR O A B->T O pre B)->
  (∀O pre x A,J O pre A->M pre x A->(∀k,own x k->O k)->YieldAt Fence.wide 0 P l (g x) A λe B=>KR K O A B/\((e=.returned (.bool true)/\J (λk=>O k/\¬own x k) (pre++[x]) B)\/(e=.returned (.bool false)/\T (λk=>O k/\¬own x k) (pre++[x]) B)))->
  J (λ_=>False) [] W->CallsIn Fence.wide 0 P d (#[.func (.yield l) #[] #[]]++f) W λe B=>(∃v,e=.returned v)/\((∃O c,S c/\J O c B)\/∃O pre,T O pre B)
def ZN(fn:FuncId)(a:Act)(b:Array Tmp)(assign body:Code)(c:Nat)(d:LoopState)(e:Option Code):Obj:=.loop {state:=d,pending:=e,fn,tmps:=a.tmps,params:=b,assign,body,defers:=c}
def Ia{a:Type}(K O:Zp)(own:a->Nat->Prop)(I c:Zp->List a->N->Prop)(pre:List a)(x:a)(b l:Nat)(A W:N)(e:Exit)(_:Act)(B:N):Prop:=
 B.heap[l]? =W.heap[l]?/\B.heap[b]? =A.heap[b]?/\KR K O A B/\((e=.normal/\I (λk=>O k/\¬own x k) (pre++[x]) B)\/(e=.ret/\c (λk=>O k/\¬own x k) (pre++[x]) B))
def BT{P:Program}{V:Operand}{e:Array Tmp}{f g:Code}{Q:Exit->Act->N->Prop}{c:Act}{E:Zy}{s:Type}{J:s->Zy}{own:s->Nat->Prop}{W:List s->s->N->Prop}{Z:List s->Prop}
 (hg:c.eval V=.func (.func k) #[] E) (eg:∀args w,(callFunc k args).run P w=.ok (.enter k args) w) (ah:∀x,(J x).size=e.size) (z:∀a,p a->a<w.heap.size) (av:u.heap.size<=w.heap.size) (ai:∀a,p a->w.heap[a]? =u.heap[a]?) (aj:uQ P k E J own W Z p u)
 (I r:Zp->List s->N->Prop)
 (hI:∀O K pre A B,I O pre A->jR O A B->sP O K A B->I K pre B) (aa:∀O pre A t,I O pre A->I O pre (A.putObj (w.heap.size+1) t))
 (hT:∀O pre A B,r O pre A->jR O A B->r O pre B) (ab:∀O pre A t,r O pre A->r O pre (A.putObj (w.heap.size+1) t)) (h0:I (λ_=>False) [] w)
 (ak:∀h O pre x A,I O pre A->W pre x A->(∀a,own x a->O a)->(∀a,O a->w.heap.size+2<=a/\a<A.heap.size)->A.heap[w.heap.size+1]? =some (tY h c e f g w.heap.size .ready)->A.heap[w.heap.size]? =some (.deferred (some []))->(∀a,p a->A.heap[a]? =w.heap[a]?)->w.heap.size+2<=A.heap.size->
   f.wpIn (Fence.wide.inRound (w.heap.size+1)) 0 P (Exit.then (λa1 F=>F.heap[w.heap.size+1]? =A.heap[w.heap.size+1]?/\
    g.wpIn (Fence.wide.inRound (w.heap.size+1)) 0 P (Ia p O own I r pre x w.heap.size (w.heap.size+1) A (F.putObj (w.heap.size+1) (tY h c e f g w.heap.size .busy))) a1 (F.putObj (w.heap.size+1) (tY h c e f g w.heap.size .busy))) (λ_ _ _=>False))
    {tmps:=(e.zip (J x)).foldl (λac(al,ad)=>ac.setIfInBounds al ad) c.tmps,defers:=[]} A)
 (am:∀O G B,Z G->I O G B->B.heap[w.heap.size]? =some (.deferred (some []))->w.heap.size+2<=B.heap.size->¬O w.heap.size->Q .normal {c with defers:={target:=.collected w.heap.size,args:=#[]}::c.defers} B)
 (an:∀O pre B,r O pre B->B.heap[w.heap.size]? =some (.deferred (some []))->w.heap.size+2<=B.heap.size->¬O w.heap.size->Q .ret {c with defers:={target:=.collected w.heap.size,args:=#[]}::c.defers} B):
 (Code.rangeFunc V e f g).wpIn Fence.wide 0 P Q c w:=by
 refine wpIn_rangeFunc λh _=>?_;obtain⟨n,C⟩:=Ze ((w.alloc (.deferred (some []))).alloc (tY h c e f g w.heap.size .ready));have aw:n.heap.size=w.heap.size+2:=by rw[C];simp
 have ao:n.heap[w.heap.size+1]? =some (tY h c e f g w.heap.size .ready):=by
  rw[C];have:=World.alloc_heap_new (w.alloc (.deferred (some []))) (tY h c e f g w.heap.size .ready);rwa [qE] at this
 have ap:n.heap[w.heap.size]? =some (.deferred (some [])):=by
  rw[C,zL _ _ _ (by simp)];exact World.alloc_heap_new w _
 have L:Zb w n:=by rw[C];exact((jW _ w).alloc (jF _) _).alloc (by simp) _
 have aq:I (λ_=>False) [] n:=hI _ _ _ _ _ h0 (jR.A L) (λa b=>b.elim);refine⟨w.heap.size+1,[{target:=.collected w.heap.size,args:=#[]}],n,{target:=.fn (.func k) E,args:=#[.func (.yield (w.heap.size+1)) #[] #[]]},n,k,#[.func (.yield (w.heap.size+1)) #[] #[]]++E,n,?_,?_,λ_ _=>trivial,?_,(λi=>by cases i),?_⟩
 .rw[C]
  exact run_enterLoop_outer _ _ _ _ _
 .simp only[resolve,hg]
  simp[go_sem]
 .simp[invoke,go_sem,eg]
 refine(aj (w.heap.size+1) (λO pre A=>I O pre A/\A.heap[w.heap.size+1]? =some (tY h c e f g w.heap.size .ready)/\A.heap[w.heap.size]? =some (.deferred (some []))/\(∀a,O a->w.heap.size+2<=a/\a<A.heap.size)/\(∀a,p a->A.heap[a]? =w.heap[a]?)/\w.heap.size+2<=A.heap.size)
  (λO pre A=>r O pre A/\A.heap[w.heap.size+1]? =some (ZN h c e f g w.heap.size .done (some .ret))/\A.heap[w.heap.size]? =some (.deferred (some []))/\w.heap.size+2<=A.heap.size/\∀a,O a->w.heap.size+2<=a) n (by omega) (λa b=>by rw[L.block a (z a b)];exact ai a b) ?_ ?_ ?_ ⟨aq,ao,ap,λa b=>b.elim,λa b=>L.block a (z a b),by omega⟩).mono ?_
 .rintro O K pre A B ⟨o,j,l,d,m,M⟩ b q
  have ae:=b.below.size;have v:∀a,a<w.heap.size+2->¬O a:=λa b q=>by have:=(d a q).1;omega
  refine⟨hI _ _ _ _ _ o b q,?_,?_,?_,?_,by omega⟩
  .rw[b.block _ (by omega) (v _ (by omega))];exact j
  .rw[b.block _ (by omega) (v _ (by omega))];exact l
  .intro a y
   obtain⟨q1,q2⟩:=q a y;refine⟨?_,q1⟩;rcases q2 with q2|q2
   .exact(d a q2).1
   omega
  intro a y;have:=z a y;rw[b.block _ (by omega) (v _ (by omega))];exact m a y
 .rintro O pre A B ⟨o,j,l,d,m⟩ y
  have ae:=y.below.size;have v:∀a,a<w.heap.size+2->¬O a:=λa b q=>by have:=m a q;omega
  exact⟨hT _ _ _ _ o y,by rw[y.block _ (by omega) (v _ (by omega))];exact j,by rw[y.block _ (by omega) (v _ (by omega))];exact l,by omega,m⟩
 .rintro O pre x A ⟨o,j,l,d,m,M⟩ hm q
  refine⟨h,_,f,g,run_yield j (ah x),roundIn_of_wpIn trivial (wpIn_mono (ak h O pre x A o hm q d j l m M) ?_)⟩;rintro R a1 F q1
  cases R with
  |normal=>
   obtain⟨S,y⟩:=q1;rw[j] at S;have ar:=(gJ.1 S).1;refine⟨_,run_beginRound S rfl,wpIn_mono y ?_⟩;rintro R a2 B ⟨r1,r2,H,r4⟩;rw[World.putObj_heap_same ar] at r1;have af:¬O (w.heap.size+1):=λi=>by have:=(d _ i).1;omega
   have ag:¬p (w.heap.size+1):=λi=>by have:=z _ i;omega
   have ax:¬O w.heap.size:=λi=>by have:=(d _ i).1;omega
   have ae:=H.below.size;have au:∀t,∀a,p a->(B.putObj (w.heap.size+1) t).heap[a]? =w.heap[a]?:=λt a b=>by
    have:=z a b;rw[World.putObj_heap_other (by omega),H.block a (by omega) (jD b)];exact m a b
   rcases r4 with⟨rfl,U⟩|⟨rfl,U⟩
   .refine⟨_,_,run_endRound none r1,H.trans (KR.putObj ag af _),jD ⟨rfl,aa _ _ _ _ U,?_,?_,?_,au _,?_⟩⟩
    .exact World.putObj_heap_same (gJ.1 r1).1
    .rw[World.putObj_heap_other (by omega),r2];exact l
    .intro a b
     refine⟨(d a b.1).1,?_⟩;have:=(d a b.1).2;simp;omega
    simp;omega
   refine⟨_,_,run_endRound (some .ret) r1,H.trans (KR.putObj ag af _),jE ⟨rfl,ab _ _ _ _ U,?_,?_,?_,λa b=>(d a b.1).1⟩⟩
   .exact World.putObj_heap_same (gJ.1 r1).1
   .rw[World.putObj_heap_other (by omega),r2];exact l
   simp;omega
  |exit H=>exact q1
  |goto ac=>exact q1
  |ret=>exact q1
  |panic S=>exact q1
  |outgrown=>exact q1
 rintro R B ⟨⟨ad,rfl⟩,⟨O,G,b,o,j,l,d,m,M⟩|⟨O,pre,o,j,l,d,m⟩⟩
 .refine⟨none,_,run_endLoop j (by simp),am O G _ b (aa _ _ _ _ o) ?_ (by simp;omega) (λi=>by have:=(d _ i).1;omega)⟩
  rw[World.putObj_heap_other (by omega)];exact l
 refine⟨some .ret,_,run_endLoop j (by simp),?_⟩;refine wpIn_ret (an O pre _ (ab _ _ _ _ o) ?_ (by simp;omega) (λi=>by have:=m _ i;omega));rw[World.putObj_heap_other (by omega)];exact l
def X{p:Prop}(h:p):Hid p:=h
def T.In(p:Zp)(w:N):T->Zv->Prop
 |⟨_,_,d⟩,s=>∃c e,s=.slice c d.length e/\InL d c
 where
 InL:Zt->Zo->Prop
  |[],_=>True
  |t::f,c=>∃b a s,c=some (D b a)/\p b/\w.cell? (D b a)=some (Y t.v)/\w.cell? (D b (a+1))=some (Y t.f)/\w.cell? (D b (a+2))=some s/\
    t.In p w s/\InL f (some (D b (a+3)))
abbrev jT(p:Zp)(w:N)(a:Zt)(b:Zo):Prop:=T.In.InL p w a b
abbrev InL(w:N)(a:Zt)(b:Zo):Prop:=jT (λ_=>True) w a b
def sI:jT p w (t::l) a↔∃b c s,a=some (D b c)/\p b/\w.cell? (D b c)=some (Y t.v)/\w.cell? (D b (c+1))=some (Y t.f)/\
 w.cell? (D b (c+2))=some s/\t.In p w s/\jT p w l (some (D b (c+3))):=aL
def dU:jT p w [] a:=trivial
def gK{s:Zv}:t.In p w s↔∃a b,s=.slice a t.e.length b/\jT p w t.e a:=by
 cases t;exact aL
def dT:∀{b a k:Nat}{t:T},jT p w l (some (D b a))->l[k]? =some t->
 ∃c d,p b/\w.cell? (D b (a+k*3))=some (Y t.v)/\w.cell? (D b (a+k*3+1))=some (Y t.f)/\w.cell? (D b (a+k*3+2))=some (.slice c t.e.length d)/\jT p w t.e c:=by
 induction l with
 |nil=>intro b a k t _ h;simp at h
 |cons x y i=>
  intro b a k t h e;obtain⟨z,A,B,f,g,j,m,n,o,q⟩:=sI.1 h;simp only[qW,fG] at f;obtain⟨rfl,rfl,_⟩:=f
  cases k with
  |zero=>
   simp at e;subst e;obtain⟨c,d,rfl,r⟩:=gK.1 o;exact⟨c,d,g,by simpa using j,by simpa using m,by simpa using n,r⟩
  |succ k=>
   simp at e;obtain⟨c,d,_,r,s,u,v⟩:=i q e;refine⟨c,d,g,?_,?_,?_,v⟩
   .rw[show a+(k+1)*3=a+3+k*3 from by omega];exact r
   .rw[show a+(k+1)*3=a+3+k*3 from by omega];exact s
   rw[show a+(k+1)*3=a+3+k*3 from by omega];exact u
def dV(h:jT p w l a)(d:0<l.length):∃b c,a=some (D b c):=by
 cases l with
 |nil=>simp at d
 |cons t e=>
  obtain⟨b,c,s,rfl,_⟩:=sI.1 h;exact⟨b,c,rfl⟩
def kA{v:Zv}(h:w.cell? (D k n)=some v):k<w.heap.size:=by
 rcases xW k w.heap.size with a|a
 .exact a
 unfold World.cell? at h;rw[uK a] at h;cases h
def nM(d:∀c o v,p c->w.cell? (D c o)=some v->p1 c/\u.cell? (D c o)=some v):∀(n:Nat)(a:Zt)(b:Zo),T.E.szL a<=n->jT p w a b->jT p1 u a b:=by
 intro n;induction n with
 |zero=>
  intro a b e h
  cases a with
  |nil=>exact dU
  |cons t a=>have:=t.I;rw[T.F] at e;omega
 |succ n g=>
  intro a;induction a with
  |nil=>intro b _ _;exact dU
  |cons x a h=>
   intro b i j;rw[T.F,T.M] at i;obtain⟨c,k,y,rfl,e,f,l,m,q,r⟩:=sI.1 j;obtain⟨b,s,rfl,t⟩:=gK.1 q;exact sI.2 ⟨c,k,_,rfl,(d _ _ _ e f).1,(d _ _ _ e f).2,(d _ _ _ e l).2,(d _ _ _ e m).2,gK.2 ⟨b,s,rfl,g _ _ (by omega) t⟩,h _ (by omega) r⟩
def xN(e:∀k,p k->k<w.heap.size->u.heap[k]? =w.heap[k]?)(h:jT p w l a):jT p u l a:=
 nM (λb o v c d=>⟨c,by rw[kH (w:=w) (a:=(D b o)) (e b c (kA d))];exact d⟩) _ _ _ (jF _) h
def jI(b:Zb w u)(h:jT p w l a):jT p u l a:=
 xN (λk _ c=>b.block k c) h
def jS(o:Obj)(h:jT p w l a):jT p (w.alloc o) l a:=
 jI ((jW _ _).alloc (jF _) o) h
def lE(h:jT p w l a):jT (λk=>p k/\k<w.heap.size) w l a:=
 nM (λ_ _ _ c b=>⟨⟨c,kA b⟩,b⟩) _ _ _ (jF _) h
def kQ(b:∀k,p k->p1 k)(h:jT p w l a):jT p1 w l a:=
 nM (λ_ _ _ c d=>⟨b _ c,d⟩) _ _ _ (jF _) h
def jV(w:N)(a:Zn)(d:Zo):Prop:=
 a=[]\/∃b c,d=some (D b c)/\∀i,i<a.length->w.cell? (D b (c+i))=some (Y (a.getD i 0))
def kD(c:Zb w u)(h:jV w r a):jV u r a:=by
 rcases h with h|⟨d,e,rfl,h⟩
 .exact jD h
 exact jE ⟨d,e,rfl,λi b=>by rw[c.cell (kA (h i b))];exact h i b⟩
def qD(o:Obj)(h:jV w r a):jV (w.alloc o) r a:=kD ((jW _ _).alloc (jF _) o) h
def pL(h:jV w r a)(d:0<r.length):∃b c,a=some (D b c)/\∀i,i<r.length->w.cell? (D b (c+i))=some (Y (r.getD i 0)):=by
 rcases h with rfl|h
 .simp at d
 exact h
def jG(w:N)(o1:Obj):Zb w (w.alloc o1):=(jW _ _).alloc (jF _) o1
def dQ{k:IntKind}(h:z=z1):Ending.returned (.int k z)=.returned (.int k z1):=by rw[h]
def vO(h:B=B1):Ending.returned (.bool B)=.returned (.bool B1):=by rw[h]
theorem Tryz.underlying22:Zf.underlying 22=some (.slice 3):=by kernel_rfl
def JP{p:Int->Bool}(a:k<r.length):(r.take (k+1)).all p=((r.take k).all p && p (r.getD k 0)):=by
 rw[vZ,jO a,dI,jO a];simp only[Ei,Option.toList_some,List.all_cons,List.all_nil,Bool.and_true,wK]
def JL{p:Int->Bool}(a:k<r.length)(h:p (r.getD k 0)=false):r.all p=false:=by
 rw[dI,jO a] at h;rw[Be];exact⟨r[k],uV a,by simpa using h⟩
def Lo(j:Nat)(l:jV w r a):
 Calls Zf 27 #[.agg #[.slice a r.length j]] w λm o=>m=.returned (Y (qT r))/\Zb w o:=by
 by_cases b:12<r.length
 .have c:qT r=2:=by simp[qT,b]
  rw[c];clear c
  go_in
  go_wp2;go_ret;exact⟨rfl,jG _ _⟩
 have s:r.length<=12:=by omega
 go_in
 go_wp2_with fail
 go_loop [4,12] (λ_ i=>∃k:Nat,k<=r.length/\i=Y k/\Hid ((r.take k).all (λn=>decide (0<=n/\n<=3))=true)) (λ_ i=>r.length - (intOf i).toNat)
 case atStart=>exact⟨0,jY _,rfl,rfl⟩
 case round=>
  obtain⟨k,t,rfl,c⟩:=hrel;by_cases d:k<r.length
  .obtain⟨u,v,rfl,e⟩:=pL l (by omega)
   have i:=e k d;have x:=kA i;have f:=JP (p:=λn=>decide (0<=n/\n<=3)) d;have g:=JL (p:=λn=>decide (0<=n/\n<=3)) d;have q:=X f;have h:=X g;clear f g e;generalize r.getD k 0=n at*;by_cases f:n<0
   .go_wp2
    go_ret;exact⟨dQ (by rw[qT,jC b,h.out (by simp;omega)];rfl),jG _ _⟩
   by_cases e:3<n
   .go_wp2
    go_ret;exact⟨dQ (by rw[qT,jC b,h.out (by simp;omega)];rfl),jG _ _⟩
   go_wp2_with fail
   go_round
   case rel=>exact⟨k+1,by omega,by go_num,by have:=q.out;rw[c.out] at this;simpa[Hid,show 0<=n from by omega,show n<=3 from by omega] using this⟩
   case measure=>simp[intOf];omega
  go_wp2;go_ret;have e:k=r.length:=by omega
  subst e;rw[qU] at c;exact⟨dQ (by simp only[qT,jC b];rw[c.out];rfl),jG _ _⟩
def mB(v f:Int)(n:Nat):Int:=if v<1\/1000<v then 3 else if n≠0\/f≠0 then 1 else 0
def LQ(v f:Int)(n:Nat)(d:Zo)(e:Nat)(w:N):
 Calls Zf 143 #[.agg #[Y v,Y f,.slice d n e]] w λg h=>g=.returned (Y (mB v f n))/\Zb w h:=by
 by_cases i:v<1
 .have a:mB v f n=3:=by simp[mB,i]
  rw[a];clear a
  go_in
  go_wp2;go_ret;exact⟨rfl,jG _ _⟩
 by_cases j:1000<v
 .have a:mB v f n=3:=by simp[mB,j]
  rw[a];clear a
  go_in
  go_wp2;go_ret;exact⟨rfl,jG _ _⟩
 by_cases c:n=0
 .subst c
  by_cases b:f=0
  .subst b
   have a:mB v 0 0=0:=(by simp[mB];omega);rw[a];clear a
   go_in
   go_wp2;go_ret;exact⟨rfl,jG _ _⟩
  have a:mB v f 0=1:=by rw[mB,jC (by omega),jB (jE b)]
  have k:(f !=0)=true:=by simpa using b
  rw[a];clear a b
  go_in
  go_wp2;go_ret;exact⟨rfl,jG _ _⟩
 have a:mB v f n=1:=by rw[mB,jC (by omega),jB (jD c)]
 have k:((n:Int) !=0)=true:=by simpa using c
 rw[a];clear a
 go_in
 go_wp2;go_ret;exact⟨rfl,jG _ _⟩
def kF(w:N)(o1 o2:Obj):Zb w ((w.alloc o1).alloc o2):=(jG w o1).alloc (by simp) o2
def Ak(h:z≠0):xU r z z1 k=mB z z1 k:=by
 simp only[xU,mB,jB h]
def LN(l:Nat)(v f:Int)(n:Nat)(d:Zo)(e:Nat)(g:jV w r a):
 Calls Zf 107 #[.agg #[.slice a r.length l],.agg #[Y v,Y f,.slice d n e]] w λh i=>h=.returned (Y (xU r v f n))/\Zb w i:=by
 by_cases c:v=0
 .subst c
  by_cases o:f<0
  .have b:xU r 0 f n=5:=by simp[xU,o]
   rw[b];clear b
   go_in
   go_wp2;go_ret;exact⟨rfl,kF _ _ _⟩
  by_cases p:(r.length:Int)<=f
  .have b:xU r 0 f n=5:=by simp[xU,p]
   rw[b];clear b
   go_in
   go_wp2;go_ret;exact⟨rfl,kF _ _ _⟩
  obtain⟨k,rfl⟩:=uO (show 0<=f by omega);have q:k<r.length:=by omega
  obtain⟨t,u,rfl,j⟩:=pL g (by omega);have s:=j k q;have x:=kA s;clear j;have b:xU r 0 (k:Int) n=if (n:Int)≠r.getD k 0 then 1 else 0:=by
   rw[xU,jC (by simp),jC (by omega),pK]
  generalize r.getD k 0=m at*;rw[b];clear b g;by_cases b:(n:Int)=m
  .subst b
   rw[jC (by simp)]
   go_in
   go_wp2_with fail
   go_quiet (fail)
   go_wp2;go_ret;exact⟨rfl,(kF _ _ _).trans ⟨rfl,rfl,rfl,jF _,λ_ _=>rfl⟩⟩
  rw[jB b];have g:((n:Int) !=m)=true:=by simpa using b
  go_in
  go_wp2_with fail
  go_quiet (fail)
  go_wp2;go_ret;exact⟨rfl,(kF _ _ _).trans ⟨rfl,rfl,rfl,jF _,λ_ _=>rfl⟩⟩
 rw[Ak c];have g:(v !=0)=true:=by simpa using c
 clear c
 go_in
 go_wp2_with (go_at_call 143;refine(LQ v f n d e _).mono ?_;rintro h i ⟨rfl,b⟩)
 go_ret;exact⟨rfl,(kF _ _ _).trans (b.mono (by simp;omega))⟩
def Dr(a:l[k]? =some t):T.E.szL (l.take (k+1))=T.E.szL (l.take k)+1+T.E.szL t.e/\T.E.szL (l.take k)+1+T.E.szL t.e<=T.E.szL l:=by
 have c:k<l.length:=by
  rcases xW k l.length with h|h
  .exact h
  rw[yZ h] at a;cases a
 have e:l.take (k+1)=l.take k++[t]:=by
  rw[vZ,a];rfl
 have b:T.E.szL (l.take (k+1))=T.E.szL (l.take k)+1+T.E.szL t.e:=by
  rw[e,T.szL_append,T.F,T.P,T.M];omega
 refine⟨b,?_⟩;have d:T.E.szL l=T.E.szL (l.take (k+1))+T.E.szL (l.drop (k+1)):=by
  rw[<-T.szL_append,cL]
 omega
def Qo(e:Nat):∀(a:Zt)(b:Int)(d:Zo)(f:Nat)(w:N),T.E.szL a<e->0<=b->b<=1000->InL w a d->
 Calls Zf 105 #[Y b,.slice d a.length f] w λg h=>g=.returned (Y (min (T.E.szL a:Int) (b+1)))/\Zb w h:=by
 induction e with
 |zero=>intro a b d f w p;omega
 |succ e c=>
  intro a b d f w p q v l;have m:=X c;clear c
  go_in
  go_wp2
  go_loopw [5,10] (λn i wr=>∃k:Nat,k<=a.length/\i=Y k/\n=Y (T.E.szL (a.take k))/\(T.E.szL (a.take k):Int)<=b/\Zb w wr) (λ_ i _=>a.length - (intOf i).toNat)
  case atStart=>exact⟨0,jY _,rfl,rfl,by simpa[T.P] using q,jW _ _⟩
  case round=>
   obtain⟨k,x,rfl,rfl,r,c⟩:=hrel;by_cases s:k<a.length
   .have u:=jI c l
    obtain⟨y,z,rfl⟩:=dV l (by omega);have A:k<=1000:=(by have:=T.length_le (a.take k);rw[Is (by omega)] at this;omega);obtain⟨t,i⟩:=Zg s;obtain⟨B,C,_,E,F,G,n⟩:=dT u i;obtain⟨j,H⟩:=Dr i;have o:=X j;clear j i;by_cases I:(T.E.szL (a.take k):Int)+1<=b
    .by_cases J:b<(T.E.szL (a.take k):Int)+1+T.E.szL t.e
     .go_wp2_with fail
      refine(m t.e _ _ _ _ (by omega) (by omega) (by omega) (jS _ n)).mono ?_;rintro g h ⟨rfl,i⟩;have j:min (T.E.szL t.e:Int) (b - ((T.E.szL (a.take k):Int)+1)+1)=b - T.E.szL (a.take k):=(by omega);rw[j];go_wp2;go_ret;exact⟨dQ (by omega),(c.alloc c.size _).trans (i.mono (by simp;have:=c.size;omega))⟩
     go_wp2_with fail
     refine(m t.e _ _ _ _ (by omega) (by omega) (by omega) (jS _ n)).mono ?_;rintro g h ⟨rfl,i⟩;have j:min (T.E.szL t.e:Int) (b - ((T.E.szL (a.take k):Int)+1)+1)=T.E.szL t.e:=(by omega);rw[j]
     go_wp2_with fail
     go_roundw
     case rel=>exact⟨k+1,by omega,by go_num,by rw[o.out];go_num,by rw[o.out];omega,(c.alloc c.size _).trans (i.mono (by simp;have:=c.size;omega))⟩
     case measure=>simp[intOf];omega
    go_wp2;go_ret;exact⟨dQ (by omega),c.alloc c.size _⟩
   go_wp2;go_ret;exact⟨dQ (by rw[show k=a.length from by omega,qU] at r ⊢;omega),c⟩
structure xY (x:Nat) (F:Option Obj->Nat->Prop) (w w':N):Prop where
 os:w'.os=w.os
 tape:w'.tape=w.tape
 output:w'.output=w.output
 size:w.heap.size<=w'.heap.size
 block:∀k,k<w.heap.size->k≠x->¬F w.heap[x]? k->w'.heap[k]? =w.heap[k]?
 qf:∀k,F w'.heap[x]? k->F w.heap[x]? k\/(w.heap.size<=k/\k<w'.heap.size)
structure mD (x B:Nat) (F:Option Obj->Nat->Prop) (w:N):Prop where
 hx:x<w.heap.size
 hB:B<=w.heap.size
 jc:∀k,F w.heap[x]? k->B<=k/\k<w.heap.size
def xY.refl(x:Nat)(F:Option Obj->Nat->Prop)(w:N):xY x F w w:=⟨rfl,rfl,rfl,jF _,λ_ _ _ _=>rfl,λ_ h=>jD h⟩
def xY.trans{F:Option Obj->Nat->Prop}(h:xY k F w u)(a:xY k F u v):xY k F w v:=by
 refine⟨a.os.trans h.os,a.tape.trans h.tape,a.output.trans h.output,kN h.size a.size,λi d c b=>?_,λi b=>?_⟩
 .have e:=h.size
  rw[a.block i (by omega) c (λf=>?_)]
  .exact h.block i d c b
  rcases h.qf i f with c|c
  .exact b c
  omega
 have e:=h.size;have d:=a.size;rcases a.qf i b with b|b
 .rcases h.qf i b with c|c
  .exact jD c
  exact jE ⟨c.1,by omega⟩
 exact jE ⟨by omega,b.2⟩
def xY.alloc{F:Option Obj->Nat->Prop}(h:xY k F w u)(c:k<w.heap.size)(o:Obj):xY k F w (u.alloc o):=by
 refine h.trans ⟨rfl,rfl,rfl,by simp,λa b _ _=>zL _ _ _ b,λa a=>jD ?_⟩;have:=h.size;rwa [zL _ _ _ (by omega)] at a
def mD.keeps{F:Option Obj->Nat->Prop}(a:mD k n F w)(h:xY k F w u):mD k n F u:=by
 have d:=h.size;have e:=a.hB;refine⟨by have:=a.hx;omega,by omega,λb c=>?_⟩;rcases h.qf b c with c|c
 .have:=a.jc b c;omega
 omega
def mD.alloc{F:Option Obj->Nat->Prop}(a:mD k n F w)(o:Obj):mD k n F (w.alloc o):=
 a.keeps ((xY.refl _ _ _).alloc a.hx o)
def FA{F:Option Obj->Nat->Prop}(c:mD k n F w)(h:xY k F w u)(d:jT (λb=>b<n/\b≠k) w l a):jT (λb=>b<n/\b≠k) u l a:=
 xN (λb e f=>h.block b f e.2 (λe=>by have:=c.jc b e;omega)) d
def Xz{S:Type}(b:S->T->S×Bool)(K:Nat)(A:Zy)(x B:Nat)(F:Option Obj->Nat->Prop)(e:N->S->Prop)
 (eg:∀C w,(callFunc K C).run Zf w=.ok (.enter K C) w)
 (f:S->Nat) (L:Nat) (E:∀s t,f (b s t).1<=f s+1)
 (c:∀w s V,mD x B F w->e w s->e (w.alloc V) s)
 (h:∀w s(t:T)g j,f s<L->mD x B F w->e w s->Calls Zf K (#[.agg (Zj t g j)]++A) w λl d=>l=.returned (.bool (b s t).2)/\e d (b s t).1/\xY x F w d)
 (v:Nat):∀a g j w s,T.E.szL a<v->T.E.szL a<=1000->f s+T.E.szL a<=L->mD x B F w->jT (λk=>k<B/\k≠x) w a g->e w s->
 Calls Zf 47 #[.func (.func K) #[] A,.slice g a.length j] w λl d=>l=.returned (.bool (qP.lookL b s a).2)/\e d (qP.lookL b s a).1/\xY x F w d:=by
 induction v with
 |zero=>intro a g j w s W;omega
 |succ v i=>
  intro a g j w s W ad hL y z Z;have aa:=X i;have Hc:=X h;have Ha:=X c;clear i h c
  go_in
  go_wp2
  go_loopw [9] (λi wr=>∃k:Nat,∃c:S,k<=a.length/\i=Y k/\e wr c/\Hid (qP.lookL b s (a.take k)=(c,true))/\xY x F w wr) (λi _=>a.length - (intOf i).toNat)
  case atStart=>exact⟨0,s,jY _,rfl,Z,rfl,xY.refl _ _ _⟩
  case round=>
   obtain⟨k,c,hk,rfl,G,n,h⟩:=hrel;by_cases ab:k<a.length
   .have H:=FA y h z
    have i:=y.keeps h;obtain⟨ae,af,rfl⟩:=dV z (by omega);obtain⟨t,m⟩:=Zg ab;obtain⟨I,J,ag,c0,c1,c2,M⟩:=dT H m;obtain⟨ah,ai⟩:=Dr m;have o:=X (λs2=>UY (c:=b) (s:=s) (s2:=s2) m n);have p:=X (Fw b c t);have aj:=i.hx;have ak:f c<=f s+T.E.szL (a.take k):=(by have:=(Pp E _).2 (a.take k) s (jF _);rw[n.out] at this;exact this);have O:=X ((Pp E _).2 t.e c (jF _));have al:k<=1000:=(by have:=T.length_le a;omega);clear m
    go_wp2_with fail
    refine(aa t.e _ _ _ c (by omega) (by omega) (by omega) (i.alloc _) (jS _ M) (Ha _ _ _ i G)).mono ?_;rintro l d ⟨rfl,q,m⟩;have ac:=(i.alloc _).keeps m;have P:=m.block wr.heap.size (by simp) (by omega) (λr=>by rw[zL _ _ _ i.hx] at r;have:=i.jc _ r;omega);have am:=m.size;have an:=h.size;have r:∀u,d.cell? (D wr.heap.size u)=#[Value.int IntKind.i64 t.v,Value.int IntKind.i64 t.f,Value.slice I t.e.length J][u]?:=λu=>by
     rw[kH (w:=wr.alloc _) (a:=(D wr.heap.size u)) P];exact fL _ _ _ _ _
    have Q:=r 0;have R:=r 1;have U:=r 2;simp only[zG,vP,xS] at Q R U;have u:=((h.alloc y.hx _).trans m);clear P r m h M H z c0 c1 c2;have r:f (qP.lookL b c t.e).1<L:=(by have:=O.out;omega);clear O;generalize m:qP.lookL b c t.e=H at*;obtain⟨s1,M⟩:=H;have P:=X m;clear m;simp only at q r
    cases M with
    |false=>
     have m:qP b c t=(s1,false):=(by rw[p.out];rfl);have z:=(o s1).2 m;have O:=X z;clear z m p o;go_wp2;go_ret;rw[O.out];exact⟨rfl,q,u⟩
    |true=>
     have m:qP b c t=b s1 t:=(by rw[p.out];rfl);have z:=X m;clear m p
     go_wp2_with fail
     refine(Hc d s1 t I J r ac q).mono ?_;rintro l O ⟨rfl,m,c⟩;have p:=u.trans c;clear c u q Q R U;generalize q:b s1 t=r2 at*;obtain⟨s2,u⟩:=r2;have c:=o s2;rw[z.out] at c;have c:=X c;clear q o z;simp only at m
     cases u with
     |false=>
      have o:=X (c.2 rfl);go_wp2;go_ret;rw[o.out];exact⟨rfl,m,p⟩
     |true=>
      have o:=X (c.1 rfl);clear c
      go_wp2_with fail
      go_roundw
      case rel=>exact⟨k+1,s2,by omega,by go_num,m,o,p⟩
      case measure=>simp[intOf];omega
   go_wp2;go_ret;have c:k=a.length:=(by omega);subst c;rw[qU] at n;rw[n.out];exact⟨rfl,G,h⟩
def jR.cell(h:jR p w u){v:Zv}(d:¬p k)(b:w.cell? (D k n)=some v):u.cell? (D k n)=some v:=by
 have e:k<w.heap.size:=by
  cases c:w.heap[k]? with
  |none=>simp[World.cell?,c] at b
  |some n=>exact(gJ.1 c).1
 rw[kH (w:=w) (a:=(D k n)) (h.block k e d)];exact b
attribute [local go_sem] Oper.semAt_some
def xY.A{F:Option Obj->Nat->Prop}(b:k<w.heap.size)(h:Zb w u):xY k F w u:=
 ⟨h.os,h.tape,h.output,h.size,λa c _ _=>h.block a c,λa a=>jD (by rwa [h.block k b] at a)⟩
def nZ:Option Obj->Nat->Prop:=λ_ _=>False
def xY.setCell(h:xY k nZ w u)(j:Nat)(v:Zv):xY k nZ w (u.setCell (D k j) v):=
 h.trans ⟨rfl,rfl,rfl,by simp[World.setCell],λa _ a _=>vL _ _ _ _ a,λ_ a=>a.elim⟩
def mD.of(x B:Nat)(w:N)(a:x<w.heap.size)(b:B<=w.heap.size):mD x B nZ w:=⟨a,b,λ_ h=>h.elim⟩
def Bb(x:Nat)(w:N)(a:Zn)(d:Zo):Prop:=
 a=[]\/∃b c,d=some (D b c)/\b≠x/\∀i,i<a.length->w.cell? (D b (c+i))=some (Y (a.getD i 0))
def Bb.ints(h:Bb k w r a):jV w r a:=by
 rcases h with h|⟨b,c,d,_,e⟩
 .exact jD h
 exact jE ⟨b,c,d,e⟩
def Bb.keeps(h:Bb k w r a)(g:xY k nZ w u):Bb k u r a:=by
 rcases h with h|⟨b,c,j,d,e⟩
 .exact jD h
 exact jE ⟨b,c,j,d,λi f=>by
  rw[kH (w:=w) (a:=(D b (c+i))) (g.block b (kA (e i f)) d (λh=>h))];exact e i f⟩
structure nL (ar:Zn) (x xg:Nat) (ga:Zo) (gcap:Nat) (w:N) (e:Int):Prop where
 ne:xg≠x
 ce:w.cell? (D x 0)=some (Y e)
 fe:w.frozen? (D x 0)=false
 cg:w.cell? (D xg 0)=some (.slice ga ar.length gcap)
 ig:Bb x w ar ga
def nL.below(h:nL r k n a m w z)(b:Zb w u):nL r k n a m u z:=by
 have c:=kA h.ce;refine⟨h.ne,?_,?_,?_,h.ig.keeps (xY.A c b)⟩
 .rw[b.cell c];exact h.ce
 .rw[b.frozen c];exact h.fe
 rw[b.cell (kA h.cg)];exact h.cg
def nL.set(h:nL r k n a m w z)(b:Int):nL r k n a m (w.setCell (D k 0) (Y b)) b:=by
 refine⟨h.ne,?_,?_,?_,h.ig.keeps ((xY.refl _ _ _).setCell _ _)⟩
 .exact pS _ _ _ h.ce
 .rw[dC];exact h.fe
 rw[yE _ _ _ _ (λc=>h.ne (by simp at c;exact c.symm))];exact h.cg
def bU(a:Zn):Int->T->Int×Bool:=λ_ t=>(xU a t.v t.f t.e.length,xU a t.v t.f t.e.length==0)
def LO(a:Zn)(x c:Nat)(i:Zo)(d:Nat)(w:N)(e:Int)(t:T)(j:Zo)(k:Nat)(h:nL a x c i d w e):
 Calls Zf 106 #[.agg (Zj t j k),Zr c,Zr x] w λl m=>
  l=.returned (.bool (bU a e t).2)/\nL a x c i d m (bU a e t).1/\xY x nZ w m:=by
 have p:=kA h.ce;have y:=kA h.cg;have z:=h.cg;unfold bU;obtain⟨r,b⟩:∃r,xU a t.v t.f t.e.length=r:=⟨_,rfl⟩;rw[b];have q:=X b;clear b
 go_in
 go_wp2_with fail
 refine(LN d t.v t.f t.e.length j k (qD _ h.ig.ints)).mono ?_;rw[q.out];rintro l s ⟨rfl,f⟩;have b:=h.below ((jG _ _).trans (f.mono (by simp)));have n:xY x nZ w s:=xY.A p ((jG _ _).trans (f.mono (by simp)));have A:=b.ce;have B:=b.fe;have g:=b.set r;have o:=n.setCell 0 (Y r);have u:=X g;have v:=X o;have C:=g.ce;clear g o n f b;go_wp2;go_ret;exact⟨rfl,u,v⟩
theorem OF(a:Zy)(w:N):(callFunc 106 a).run Zf w=.ok (.enter 106 a) w:=by kernel_rfl
def kP(a:Zn)(t:T):Int:=if 120<t.E then 2 else(qP.lookL (bU a) 0 [t]).1
def FD(b:p k)(h:jT p w t.e a)(c:w.cell? (D k 0)=some (Y t.v))(d:w.cell? (D k 1)=some (Y t.f))
 (e:w.cell? (D k 2)=some (.slice a t.e.length n)):jT p w [t] (some (D k 0)):=
 sI.2 ⟨k,0,_,rfl,b,c,d,e,gK.2 ⟨a,n,rfl,h⟩,dU⟩
def sJ(e:TypeId)(b:n=w.heap.size)(c:p w.heap.size)(h:jT p w t.e a):
 jT p (w.alloc (.cells (Zj t a k) e)) [t] (some (D n 0)):=by
 subst b;exact FD c (jS _ h) (fL _ _ _ _ _) (fL _ _ _ _ _) (fL _ _ _ _ _)
def KU(a:Zb w u):(∀b o,b<w.heap.size->u.cell? (D b o)=w.cell? (D b o))/\(∀b o,b<w.heap.size->u.frozen? (D b o)=w.frozen? (D b o)):=
 ⟨λb o h=>a.cell h,λb o h=>a.frozen h⟩
def kW{o:Obj}(h:k<w.heap.size):(w.alloc o).cell? (D k n)=w.cell? (D k n):=(jG w o).cell h
def jJ{C:Zy}{a:Nat×Nat}(j:Nat)(b:k=w.heap.size):(w.alloc (.cells C g a)).cell? (D k j)=C[j]?:=by
 subst b;exact fL _ _ _ _ _
def Vy{C:Zy}(j:Nat)(a:k=w.heap.size):(w.alloc (.cells C g)).frozen? (D k j)=false:=by
 subst a;simp
def Below.jd(h:xY k nZ w u)(b:n<=k)(c:n<=w.heap.size):Below n w u:=
 ⟨h.os,h.tape,h.output,h.size,λa d=>h.block a (by omega) (by omega) (λh=>h)⟩
def nL.start(e:TypeId)(o:Obj)(b:w.cell? (D k 0)=some (.slice a r.length n))(f:jV w r a):
 nL r w.heap.size k a n ((w.alloc (.cells #[Y 0] e)).alloc o) 0:=by
 have g:=kA b;have j:nL r w.heap.size k a n (w.alloc (.cells #[Y 0] e)) 0:=by
  refine⟨by omega,fL _ _ _ _ _,?_,?_,?_⟩
  .simp
  .rw[(jG w _).cell g];exact b
  rcases f with h|⟨l,m,rfl,h⟩
  .exact jD h
  by_cases c:r=[]
  .exact jD c
  have p:=kA (h 0 (Ek.2 c));exact jE ⟨l,m,rfl,by omega,λi d=>by rw[(jG w _).cell (kA (h i d))];exact h i d⟩
 exact j.below (jG _ _)
def VB(c:Nat)(e:T.E.szL l<=1000)(f:mD k i nZ w)(g:jT (λd=>d<i/\d≠k) w l a1)
 (j:nL r k n a m w 0):
 Calls Zf 47 #[.func (.func 106) #[] #[Zr n,Zr k],.slice a1 l.length c] w λo b=>
  o=.returned (.bool (qP.lookL (bU r) 0 l).2)/\nL r k n a m b (qP.lookL (bU r) 0 l).1/\xY k nZ w b:=
 Xz (bU r) 106 #[Zr n,Zr k] k i nZ (nL r k n a m) OF (λ_=>0) 1001 (λ_ _=>jY _) (λ_ _ _ _ h=>h.below (jG _ _))
  (λb s p q t _ _ h=>LO r k n a m b s p q t h) (T.E.szL l+1) l a1 c w 0 (by omega) e (by simp;omega) f g j
def LP(g:Nat)(c:Nat)(s:jV w r a)(m:InL w t.e a1):
 Calls Zf 71 #[.agg #[.slice a r.length g],.agg (Zj t a1 c)] w λh u=>h=.returned (Y (kP r t))/\Zb w u:=by
 have E:∀(b:Fn)(first c:Zy)(w:N),(Instr.makeFunc b first c).run Zf w=.ok (.func b first c) w:=λ_ _ _ _=>rfl;have b:T.E.szL [t]=t.E:=by rw[T.F,T.P];omega
 have i:=X b;clear b
 go_in
 go_wp2_with fail
 refine(Qo (t.E+1) [t] 120 _ 1 _ (by rw[i.out];omega) (by omega) (by omega) (sJ _ (by simp) trivial (jS _ (jS _ m)))).mono ?_;rintro h b ⟨rfl,j⟩;rw[i.out];have f:Zb w b:=(((jG _ _).alloc (by simp) _).alloc (by simp;omega) _).trans (j.mono (by simp;omega));by_cases n:120<t.E
 .have d:min (t.E:Int) (120+1)=121:=by omega
  rw[d];have e:kP r t=2:=by rw[kP,jB n]
  have k:=X e;clear e d;go_wp2;go_ret;exact⟨by rw[k.out];rfl,f⟩
 have d:min (t.E:Int) (120+1)=t.E:=by omega
 rw[d];have e:kP r t=(qP.lookL (bU r) 0 [t]).1:=by rw[kP,jC n]
 have k:=X e;clear e d;obtain⟨d,l⟩:=KU j;have F:w.heap.size+3<=b.heap.size:=by have:=j.size;simp at this;omega
 have o:b.cell? (D w.heap.size 0)=some (Zk a r g):=by
  rw[d _ _ (by simp;omega),kW (by simp;omega),kW (by simp),fL];rfl
 have hd:∀e,b.cell? (D (w.heap.size+1) e)=#[Value.int .i64 t.v,Y t.f,Zk a1 t.e c][e]?:=λe=>by
  rw[d _ _ (by simp),kW (by simp),jJ _ (by simp)]
 have v:=hd 0;have x:=hd 1;have y:=hd 2;simp only[zG,vP,xS] at v x y;clear hd d l;have G:w.heap.size+1<b.heap.size:=by omega
 have p:=lE (jI f m);have q:∀d e,jT (λl=>l<b.heap.size+2/\l≠b.heap.size) ((b.alloc (.cells #[Y 0] d)).alloc (.cells (Zj t a1 c) e)) [t] (some (D (b.heap.size+1) 0)):=
  λd e=>sJ e (by simp) (by constructor<;>simp) (jS _ (kQ (λl l=>by omega) p))
 have l:∀d e,nL r b.heap.size w.heap.size a g ((b.alloc (.cells #[Y 0] d)).alloc (.cells (Zj t a1 c) e)) 0:=
  λd e=>nL.start d _ o (kD f s)
 have d:∀o1 o2,mD b.heap.size (b.heap.size+2) nZ ((b.alloc o1).alloc o2):=λo1 o2=>mD.of _ _ _ (by simp;omega) (by simp);have z:=X q;have A:=X l;have C:=X d;clear p q l d
 go_wp2_with fail
 refine(VB 1 (by rw[i.out];omega) (C _ _) (z _ _) (A _ _)).mono ?_;rintro h H ⟨rfl,e,d⟩;have l:=e.ce;rw[<-k.out] at l;have p:=Below.jd (n:=w.heap.size) d (by omega) (by simp;omega);have q:=d.size;simp at q;clear e d o;go_wp2;go_ret;exact⟨rfl,((f.alloc (by omega) _).alloc (by simp;omega) _).trans p⟩
def bN(a:Zn):Zt->Int
 |[]=>0
 |t::b=>if kP a t=0 then bN a b else kP a t
def kI(a:Zn)(b:Zt):Int:=if qT a=0 then bN a b else qT a
def Qx(a:Zn)(b c:Zt):bN a (b++c)=if bN a b=0 then bN a c else bN a b:=by
 induction b with
 |nil=>simp[bN]
 |cons t e d=>
  rw[dW,bN,bN];by_cases h:kP a t=0
  .rw[jB h,jB h,d]
  rw[jC h,jC h,jC h]
def jEa(a:l[k]? =some t)(h:bN r (l.take k)=0):
 (kP r t=0->bN r (l.take (k+1))=0)/\(kP r t≠0->bN r l=kP r t):=by
 have c:k<l.length:=by
  rcases xW k l.length with h|h
  .exact h
  rw[yZ h] at a;cases a
 constructor
 .intro b
  rw[vZ,a,Qx,jB h];simp[bN,b]
 intro b;have e:l=l.take k++t::l.drop (k+1):=by
  rw[jO c] at a;simp at a;rw[<-a,cJ,cL]
 rw[e,Qx,jB h,bN,jC b]
def Cj(a:Zn)(j:Zo)(d:Nat)(b:Zt)(s:Zo)(y:Nat)(w:N)(t:jV w a j)(u:InL w b s)(I:b.length<=1000):
 Calls Zf 46 #[.agg #[.slice j a.length d],.slice s b.length y] w λn z=>n=.returned (Y (kI a b))/\Zb w z:=by
 go_in
 go_wp2_with fail
 refine(Lo d (qD _ t)).mono ?_;rintro n o ⟨rfl,e⟩;have A:w.heap.size<o.heap.size:=by have:=e.size;simp at this;omega
 have f:=(jG _ _).trans (e.mono (by simp));have B:o.cell? (D w.heap.size 0)=some (Zk j a d):=by
  rw[e.cell (by simp),jJ _ rfl];rfl
 by_cases g:qT a=0
 .have h:kI a b=bN a b:=by rw[kI,jB g]
  have l:=X h;clear h;rw[g];clear e;go_wp2
  go_loopw [7,8,16] (λ_ _ i wr=>∃k:Nat,k<=b.length/\i=Y k/\Hid (bN a (b.take k)=0)/\Zb o wr) (λ_ _ i _=>b.length - (intOf i).toNat)
  case atStart=>exact⟨0,jY _,rfl,rfl,jW _ _⟩
  case round=>
   obtain⟨k,J,rfl,p,c⟩:=hrel;have K:=c.size;by_cases C:k<b.length
   .have E:=jI c (jI f u)
    have F:=kD c (kD f t);obtain⟨L,M,rfl⟩:=dV u (by omega);obtain⟨v,i⟩:=Zg C;obtain⟨O,G,_,P,Q,R,H⟩:=dT E i;have m:=X (jEa i p);have S:wr.cell? (D w.heap.size 0)=some (Zk j a d):=(by rw[c.cell A];exact B);have U:w.heap.size<wr.heap.size:=(by omega);clear i
    go_wp2_with fail
    refine(LP d G (qD _ F) (jS _ H)).mono ?_;rintro n V ⟨rfl,q⟩;have x:=(c.alloc c.size _).trans (q.mono (by simp;omega));by_cases i:kP a v=0
    .have r:=X (m.1 i)
     rw[i];clear m q
     go_wp2_with fail
     go_roundw
     case rel=>exact⟨k+1,by omega,by go_num,r,x⟩
     case measure=>simp[intOf];omega
    have r:=X (m.2 i);have W:(kP a v !=0)=true:=(by simpa using i);clear m q i;go_wp2;go_ret;exact⟨dQ (by rw[l.out,r.out]),f.trans (x.mono (by omega))⟩
   go_wp2;go_ret;have i:k=b.length:=(by omega);subst i;rw[qU] at p;exact⟨dQ (by rw[l.out,p.out]),f.trans (c.mono (by omega))⟩
 have h:kI a b=qT a:=by rw[kI,jC g]
 have l:=X h;have c:(qT a !=0)=true:=by simpa using g
 clear h g e;go_wp2;go_ret;exact⟨dQ l.symm,f⟩
def iW(a:Zn)(b:Zo)(d:Nat)(t:T)(f:Zo)(c:Nat)(w:N)(g:jV w a b)(h:InL w t.e f):
 Calls Zf 52 #[.agg #[.slice b a.length d],.agg (Zj t f c)] w λe i=>e=.returned (Y (kI a [t]))/\Zb w i:=by
 have j:=X (λo1 o2 k=>qD k (qD o2 (qD o1 g)));have k:=X (λo1 o2 e=>sJ (n:=w.heap.size+1+1) (k:=c) e (by simp) trivial (jS o2 (jS o1 h)));clear g h
 go_in
 go_wp2_with fail
 refine(Cj a b d [t] _ 1 _ (j _ _ _) (k _ _ _) (by simp)).mono ?_;rintro e h ⟨rfl,g⟩
 go_wp2_with fail
 go_ret;exact⟨rfl,(((jG _ _).alloc (by simp) _).alloc (by simp;omega) _).trans (g.mono (by simp;omega))⟩
def IK(h:Nat)(b:Nat)(c:jV w r a)(i:InL w t.e a1):
 Calls Zf 73 #[.agg #[.slice a r.length h],.agg (Zj t a1 b)] w λe l=>
  e=.returned (.tuple #[Y (if kI r [t]=0 then min (t.E:Int) 121 else 0),Y (kI r [t])])/\Zb w l:=by
 have m:=X (λo1 o2 d=>qD d (qD o2 (qD o1 c)));have o:=X (λo1 o2 e=>sJ (n:=w.heap.size+1+1) (k:=b) e (by simp) trivial (jS o2 (jS o1 i)));have d:T.E.szL [t]=t.E:=by rw[T.F,T.P];omega
 have k:=X d;clear c d
 go_in
 go_wp2_with fail
 refine(Cj r a h [t] _ 1 _ (m _ _ _) (o _ _ _) (by simp)).mono ?_;rintro e f ⟨rfl,c⟩;have g:=(((jG _ _).alloc (by simp) _).alloc (by simp;omega) _).trans (c.mono (by simp;omega));have x:w.heap.size+1<f.heap.size:=by have:=c.size;simp at this;omega
 have hd:∀j,f.cell? (D (w.heap.size+1) j)=#[Value.int .i64 t.v,Y t.f,Zk a1 t.e b][j]?:=λj=>by
  rw[c.cell (p:=(D (w.heap.size+1) j)) (by simp),kW (by simp),jJ _ (by simp)]
 have j:=hd 0;have q:=hd 1;have s:=hd 2;simp only[zG,vP,xS] at j q s;clear hd c;by_cases c:kI r [t]=0
 .rw[c]
  have u:=X (λe=>sJ (n:=f.heap.size) (k:=b) e rfl trivial (jI g i))
  go_wp2_with fail
  refine(Qo (t.E+1) [t] 120 _ 1 _ (by rw[k.out];omega) (by omega) (by omega) (u _)).mono ?_;rintro e y ⟨rfl,v⟩;rw[k.out]
  go_wp2_with fail
  go_ret2
  exact⟨rfl,(g.alloc (by omega) _).trans (v.mono (by simp;omega))⟩
 have d:(kI r [t] !=0)=true:=by simpa using c
 go_wp2_with fail
 go_ret2
 exact⟨rfl,g⟩
structure jK (w:N) (b:Nat) (v0 v1 v2:Zv):Prop where
 c0:w.cell? (D b 0)=some v0
 c1:w.cell? (D b 1)=some v1
 c2:w.cell? (D b 2)=some v2
 f0:w.frozen? (D b 0)=false
 f1:w.frozen? (D b 1)=false
 f2:w.frozen? (D b 2)=false
def jK.new{a b c:Zv}(e:TypeId)(d:k=w.heap.size):jK (w.alloc (.cells #[a,b,c] e)) k a b c:=by
 subst d;exact⟨fL _ _ _ _ _,fL _ _ _ _ _,fL _ _ _ _ _,by simp,by simp,by simp⟩
def jK.same{w':N}{c d e:Zv}(h:jK w k c d e)(b:w'.heap[k]? =w.heap[k]?):jK w' k c d e:=by
 obtain⟨f,g,i,j,l,m⟩:=h;refine⟨?_,?_,?_,?_,?_,?_⟩
 .rw[kH (w:=w) (a:=(D k 0)) b];exact f
 .rw[kH (w:=w) (a:=(D k 1)) b];exact g
 .rw[kH (w:=w) (a:=(D k 2)) b];exact i
 .rw[gZ (w:=w) (a:=(D k 0)) b];exact j
 .rw[gZ (w:=w) (a:=(D k 1)) b];exact l
 rw[gZ (w:=w) (a:=(D k 2)) b];exact m
def jK.lt{a b c:Zv}(h:jK w k a b c):k<w.heap.size:=kA h.c0
def jK.below{a b c:Zv}(h:jK w k a b c)(d:Zb w u):jK u k a b c:=h.same (d.block k h.lt)
def jK.alloc{a b c:Zv}(h:jK w k a b c)(o:Obj):jK (w.alloc o) k a b c:=h.below (jG _ _)
abbrev qZ(w:N)(b a:Nat)(c d e:Zv):N:=((w.setCell (D b a) c).setCell (D b (a+1)) d).setCell (D b (a+2)) e
def jK.set{f d c:Zv}(h:jK w k f d c)(a b e:Zv):jK (qZ w k 0 a b e) k a b e:=by
 obtain⟨g,i,j,l,m,n⟩:=h;have o:(w.setCell (D k 0) a).cell? (D k 0)=some a:=pS _ _ _ g;have p:(w.setCell (D k 0) a).cell? (D k 1)=some d:=by rw[yE _ _ _ _ (by simp)];exact i
 have q:(w.setCell (D k 0) a).cell? (D k 2)=some c:=by rw[yE _ _ _ _ (by simp)];exact j
 have r:((w.setCell (D k 0) a).setCell (D k 1) b).cell? (D k 1)=some b:=pS _ _ _ p;have s:((w.setCell (D k 0) a).setCell (D k 1) b).cell? (D k 0)=some a:=by rw[yE _ _ _ _ (by simp)];exact o
 have t:((w.setCell (D k 0) a).setCell (D k 1) b).cell? (D k 2)=some c:=by rw[yE _ _ _ _ (by simp)];exact q
 refine⟨?_,?_,pS _ _ _ t,?_,?_,?_⟩
 .rw[yE _ _ _ _ (by simp)];exact s
 .rw[yE _ _ _ _ (by simp)];exact r
 .rw[dC,dC,dC];exact l
 .rw[dC,dC,dC];exact m
 rw[dC,dC,dC];exact n
def xQ{a b c:Zv}(h:m≠k):(qZ w k n a b c).heap[m]? =w.heap[m]?:=by
 rw[vL _ _ _ _ h,vL _ _ _ _ h,vL _ _ _ _ h]
def iN{a b c:Zv}:(qZ w k n a b c).heap.size=w.heap.size:=by simp[qZ,World.setCell]
def xZ(h:Below k w u)(a:k<=n)(b c d:Zv):Below k w (qZ u n m b c d):=
 ((h.setCell a b).setCell a c).setCell a d
def EL(t:T)(a:Zn)(w:N)(e:Ending):Prop:=
 (∃u b c,qK t a=some u/\e=.returned (.tuple #[.agg (Zj u b c),.bool true])/\InL w u.e b)\/
 (qK t a=none/\e=.returned (.tuple #[.agg #[Y 0,Y 0,Zd],.bool false]))
def Vo(t:T)(e:Zo)(q:Nat)(a:Zn)(r:Zo)(B:Nat)(w:N)(C:jV w a r)(E:InL w t.e e)(R:a.length<=9223372036854775807):
 Calls Zf 195 #[.agg (Zj t e q),.slice r a.length B] w λF G=>EL t a w F/\Zb w G:=by
 go_in
 go_wp2
 go_loopw [7,10] (λ_ i wr=>∃(k:Nat)(u:T)(c:Zo)(d:Nat),k<=a.length/\i=Y k/\Hid (qK t (a.take k)=some u)/\InL w u.e c/\
  jK wr w.heap.size (Y u.v) (Y u.f) (Zk c u.e d)/\jK wr (w.heap.size+1) (Y 0) (Y 0) (Zd)/\Zb w wr) (λ_ i _=>a.length - (intOf i).toNat)
 case atStart=>exact⟨0,t,e,q,jY _,rfl,rfl,E,(jK.new _ rfl).alloc _,jK.new _ (by simp),(jG _ _).alloc (by simp) _⟩
 case round=>
  obtain⟨k,u,c,d,S,rfl,HA,f,s,v,b⟩:=hrel;have U:=b.size;have H:=X s;have x:=X v;obtain⟨V,W,Z,f0,f1,f2⟩:=s;obtain⟨g,h,j,g0,g1,g2⟩:=v;by_cases l:k<a.length
  .obtain⟨I,J,rfl,m⟩:=pL C (by omega)
   have aa:wr.cell? (D I (J+k))=some (Y (a.getD k 0)):=(by rw[b.cell (kA (m k l))];exact m k l);have n:=X (Ny l HA);clear m;generalize a.getD k 0=i at*;by_cases ab:i<0
   .have m:=X (n.2 (by omega))
    go_wp2_with fail
    exact qS (by simp[results,Tryz.results195,go_sem,g,h,j]) rfl ⟨jE ⟨m,rfl⟩,xZ b (by omega) _ _ _⟩
   obtain⟨o,rfl⟩:=uO (show 0<=i by omega);by_cases ac:u.e.length<=o
   .have m:=X (n.2 (by omega))
    have y:(u.e.length:Int)<=o:=by omega
    go_wp2_with fail
    exact qS (by simp[results,Tryz.results195,go_sem,g,h,j]) rfl ⟨jE ⟨m,rfl⟩,xZ b (by omega) _ _ _⟩
   have y:o<u.e.length:=(by omega);obtain⟨b1,ad,rfl⟩:=dV f (by omega);obtain⟨z,i⟩:=Zg y;obtain⟨K,L,_,A,M,O,P⟩:=dT f i;have Q:=X (n.1 z (by omega) (by omega) (by simpa using i));have p:=kA A;rw[<-b.cell p] at A;rw[<-b.cell p] at M;rw[<-b.cell p] at O;clear i
   go_wp2_with fail
   go_roundw
   case rel=>exact⟨k+1,z,K,L,by omega,by go_num,Q,P,H.set _ _ _,x.same (xQ (by omega)),xZ b (jF _) _ _ _⟩
   case measure=>simp[intOf];omega
  have i:k=a.length:=by omega
  subst i;rw[qU] at HA
  go_wp2_with fail
  have k:=x.set (Y u.v) (Y u.f) (Zk c u.e d);exact qS (by simp[results,Tryz.results195,go_sem,g,h,j]) rfl ⟨jD ⟨u,c,d,HA,rfl,f⟩,xZ b (by omega) _ _ _⟩
def T.jb(w:N):T->Zv->List Nat->Prop
 |⟨_,_,a⟩,s,B=>(a=[]/\s=Zd/\B=[])\/
   (a≠[]/\∃b d,s=Zx b a.length a.length/\B=b::d/\(∀j,w.frozen? (D b j)=false)/\OwnL a b 0 d)
 where
 OwnL:Zt->Nat->Nat->List Nat->Prop
  |[],_,_,B=>B=[]
  |t::g,b,c,B=>∃s e f,B=e++f/\w.cell? (D b c)=some (Y t.v)/\w.cell? (D b (c+1))=some (Y t.f)/\w.cell? (D b (c+2))=some s/\t.jb w s e/\OwnL g b (c+3) f
abbrev OwnL(w:N)(a:Zt)(b c:Nat)(B:List Nat):Prop:=T.jb.OwnL w a b c B
def IB{B:List Nat}:OwnL w [] k n B↔B=[]:=aL
def aO{B:List Nat}:OwnL w (t::l) k n B↔∃s a b,B=a++b/\w.cell? (D k n)=some (Y t.v)/\w.cell? (D k (n+1))=some (Y t.f)/\w.cell? (D k (n+2))=some s/\t.jb w s a/\OwnL w l k (n+3) b:=aL
def nU{s:Zv}{B:List Nat}:t.jb w s B↔(t.e=[]/\s=Zd/\B=[])\/
 (t.e≠[]/\∃b a,s=Zx b t.e.length t.e.length/\B=b::a/\(∀j,w.frozen? (D b j)=false)/\OwnL w t.e b 0 a):=by
 cases t;exact aL
def Nf:∀(n:Nat)(b:Zt)(d c:Nat)(B:List Nat),T.E.szL b<=n->(∀k,k∈B->u.heap[k]? =w.heap[k]?)->
 (∀j,c<=j->j<c+b.length*3->u.cell? (D d j)=w.cell? (D d j))->OwnL w b d c B->OwnL u b d c B:=by
 intro n;induction n with
 |zero=>
  intro b d c B e _ _ h
  cases b with
  |nil=>exact h
  |cons t b=>have:=t.I;rw[T.F] at e;omega
 |succ n s=>
  intro b;induction b with
  |nil=>intro d c B _ _ _ h;exact h
  |cons t b v=>
   intro d c B x g e h;rw[T.F,T.M] at x;obtain⟨y,z,m,rfl,A,o,p,C,E⟩:=aO.1 h;have F:(t::b).length*3=3+b.length*3:=(by simp;omega);rw[F] at e;refine aO.2 ⟨y,z,m,rfl,?_,?_,?_,?_,v d (c+3) m (by omega) (λk i=>g k (bF _ i)) (λj o p=>e j (by omega) (by omega)) E⟩
   .rw[e c (by omega) (by omega)];exact A
   .rw[e (c+1) (by omega) (by omega)];exact o
   .rw[e (c+2) (by omega) (by omega)];exact p
   rcases nU.1 C with l|⟨G,f,q,rfl,rfl,H,l⟩
   .exact nU.2 (jD l)
   have r:=g f (by simp)
   exact nU.2 (jE ⟨G,f,q,rfl,rfl,λj=>by rw[gZ (w:=w) (a:=(D f j)) r];exact H j,
    s t.e f 0 q (by omega) (λk i=>g k (by simp[i])) (λj _ _=>kH (w:=w) (a:=(D f j)) r) l⟩)
def sO{s:Zv}{B:List Nat}(d:∀k,k∈B->u.heap[k]? =w.heap[k]?)(h:t.jb w s B):t.jb u s B:=by
 rcases nU.1 h with c|⟨g,b,e,rfl,rfl,i,c⟩
 .exact nU.2 (jD c)
 have f:=d b (by simp)
 exact nU.2 (jE ⟨g,b,e,rfl,rfl,λj=>by rw[gZ (w:=w) (a:=(D b j)) f];exact i j,
  Nf _ t.e b 0 e (jF _) (λk l=>d k (by simp[l])) (λj _ _=>kH (w:=w) (a:=(D b j)) f) c⟩)
def ID{s:Zv}{c:List Nat}:∀{b a:Nat}{B:List Nat},OwnL w l b a B->w.cell? (D b (a+l.length*3))=some (Y t.v)->w.cell? (D b (a+l.length*3+1))=some (Y t.f)->
 w.cell? (D b (a+l.length*3+2))=some s->t.jb w s c->OwnL w (l++[t]) b a (B++c):=by
 induction l with
 |nil=>
  intro b a B h d e f g;rw[IB.1 h];exact aO.2 ⟨s,c,[],by simp,by simpa using d,by simpa using e,by simpa using f,g,rfl⟩
 |cons u d h=>
  intro b a B i e f g j;obtain⟨k,m,n,rfl,o,p,q,r,v⟩:=aO.1 i;have x:a+(u::d).length*3=a+3+d.length*3:=by simp;omega
  rw[x] at e f g;exact aO.2 ⟨k,m,n++c,by simp,o,p,q,r,h v e f g j⟩
def GY:∀(n:Nat)(a:Zt)(b c:Nat)(B:List Nat),T.E.szL a<=n->OwnL w a b c B->InL w a (some (D b c)):=by
 intro n;induction n with
 |zero=>
  intro a b c B d h
  cases a with
  |nil=>exact dU
  |cons t a=>have:=t.I;rw[T.F] at d;omega
 |succ n e=>
  intro a;induction a with
  |nil=>intro b c B _ _;exact dU
  |cons t a f=>
   intro b c B g h;rw[T.F,T.M] at g;obtain⟨s,r,i,rfl,j,k,l,m,o⟩:=aO.1 h;refine sI.2 ⟨b,c,s,rfl,trivial,j,k,l,?_,f b (c+3) i (by omega) o⟩;rcases nU.1 m with⟨d,rfl,_⟩|⟨u,p,q,rfl,rfl,v,d⟩
   .exact gK.2 ⟨none,0,by rw[d];rfl,by rw[d];exact dU⟩
   exact gK.2 ⟨_,_,rfl,e t.e p 0 q (by omega) d⟩
def rL{s:Zv}{B:List Nat}(h:t.jb w s B):∃b c,s=.slice b t.e.length c/\InL w t.e b:=by
 rcases nU.1 h with⟨a,rfl,_⟩|⟨f,d,e,rfl,rfl,g,a⟩
 .exact⟨none,0,by rw[a];rfl,by rw[a];exact dU⟩
 exact⟨_,_,rfl,GY _ t.e d 0 e (jF _) a⟩
def tZ(n:Nat):Zy:=madeCells #[Y 0,Y 0,Zd] (n*3)
def Qq(n:Nat):(tZ n).size=n*3:=size_madeCells _ _
theorem Tryz.underlying41:Zf.underlying 41=some (.slice 43):=by kernel_rfl
theorem Tryz.info43:(Zf.info? 43).map (λi=>(i.zero,i.size,i.bytes))=some (some (.agg #[Y 0,Y 0,Zd]),3,40):=by kernel_rfl
def Lk(n:Nat)(g:n<=1000000)(w:N):(Instr.makeSlice 41 (Y (n:Int)) (Y (n:Int))).run Zf w=.ok (Zx w.heap.size n n) (w.alloc (.cells (tZ n) 43)):=by
 obtain⟨i,c,a⟩:=bQ.1 Tryz.info43;simp only[bG] at a;obtain⟨d,e,f⟩:=a;have b:=run_make w 41 43 i _ Tryz.underlying41 c d .i64 .i64 n n (by omega) (mE _) (by rw[f];omega) (by omega);simp only[pK,e] at b;exact b
def Ap{b c d:Zv}(h:m<n\/n+2<m):(qZ w k n b c d).cell? (D k m)=w.cell? (D k m):=by
 have f:((D k n):Addr)≠(D k m):=by rintro e;injection e with _ a;omega
 have g:((D k (n+1)):Addr)≠(D k m):=by rintro e;injection e with _ a;omega
 have a:((D k (n+2)):Addr)≠(D k m):=by rintro e;injection e with _ a;omega
 rw[yE _ _ _ _ a,yE _ _ _ _ g,yE _ _ _ _ f]
def Ql{a b c:Zv}:(qZ w k n a b c).frozen? (D i m)=w.frozen? (D i m):=by
 rw[dC,dC,dC]
def Lm{a b c:Zv}(h:∀j,n<=j->j<n+3->∃v,w.cell? (D k j)=some v):
 (qZ w k n a b c).cell? (D k n)=some a/\(qZ w k n a b c).cell? (D k (n+1))=some b/\(qZ w k n a b c).cell? (D k (n+2))=some c:=by
 obtain⟨s,e⟩:=h n (by omega) (by omega);obtain⟨f,g⟩:=h (n+1) (by omega) (by omega);obtain⟨d,i⟩:=h (n+2) (by omega) (by omega);have l:(w.setCell (D k n) a).cell? (D k n)=some a:=pS _ _ _ e;have m:(w.setCell (D k n) a).cell? (D k (n+1))=some f:=by rw[yE _ _ _ _ (by simp)];exact g
 have o:(w.setCell (D k n) a).cell? (D k (n+2))=some d:=by rw[yE _ _ _ _ (by simp)];exact i
 have p:((w.setCell (D k n) a).setCell (D k (n+1)) b).cell? (D k (n+1))=some b:=pS _ _ _ m;have q:((w.setCell (D k n) a).setCell (D k (n+1)) b).cell? (D k n)=some a:=by rw[yE _ _ _ _ (by simp)];exact l
 have r:((w.setCell (D k n) a).setCell (D k (n+1)) b).cell? (D k (n+2))=some d:=by rw[yE _ _ _ _ (by simp)];exact o
 refine⟨?_,?_,pS _ _ _ r⟩
 .rw[yE _ _ _ _ (by simp)];exact q
 rw[yE _ _ _ _ (by simp)];exact p
structure iY (w wr:N) (t:T) (k:Nat) (B:List Nat):Prop where
 own:OwnL wr (t.e.take k) (w.heap.size+1+1+1) 0 B
 nd:B.Nodup
 jc:∀x,x∈B->w.heap.size+3<x/\x<wr.heap.size
 cells:∀j,j<t.e.length*3->∃v,wr.cell? (D (w.heap.size+1+1+1) j)=some v
 fr:∀j,wr.frozen? (D (w.heap.size+1+1+1) j)=false
 made:jK wr (w.heap.size+1+1) (Y t.v) (Y t.f) (Zx (w.heap.size+1+1+1) t.e.length t.e.length)
 res:jK wr (w.heap.size+1) (Y 0) (Y 0) (Zd)
 below:Zb w wr
 size:w.heap.size+3<wr.heap.size
def iY.start(w:N)(t:T)(o:Obj)(a b c:TypeId):
 iY w ((((w.alloc o).alloc (.cells #[Y 0,Y 0,Zd] a)).alloc (.cells #[Y t.v,Y t.f,Zx (w.heap.size+1+1+1) t.e.length t.e.length] b)).alloc (.cells (tZ t.e.length) c)) t 0 []:=by
 refine⟨rfl,eT,by simp,λj d=>?_,λj=>?_,?_,?_,?_,by simp⟩
 .rw[jJ j (by simp)]
  exact⟨(tZ t.e.length)[j]'(by rw[Qq];exact d),Ly _⟩
 .exact Vy j (by simp)
 .exact(jK.new _ (by simp)).alloc _
 .exact((jK.new _ (by simp)).alloc _).alloc _
 exact(((jG _ _).alloc (by simp) _).alloc (by simp;omega) _).alloc (by simp;omega) _
def iY.step{B g:List Nat}{e:Zv}{o:Obj}(h:iY w u t k B)(m:t.e[k]? =some s)(n:Zb (u.alloc o) v)(r:s.jb v e g)(y:g.Nodup)
 (i:∀x,x∈g->(u.alloc o).heap.size<=x/\x<v.heap.size):iY w (qZ v (w.heap.size+1+1+1) (k*3) (Y s.v) (Y s.f) e) t (k+1) (B++g):=by
 have E:k<t.e.length:=by
  rcases xW k t.e.length with h|h
  .exact h
  rw[yZ h] at m;cases m
 have F:=h.size;have z:=n.size;have l:(t.e.take k).length=k:=Is (by omega);have a:Zb u v:=(jG _ _).trans (n.mono (by simp));have q:∀j,j<t.e.length*3->∃c,v.cell? ⟨w.heap.size+1+1+1,j,none⟩=some c:=λj f=>by
  rw[a.cell (p:=⟨w.heap.size+1+1+1,j,none⟩) (by omega)];exact h.cells j f
 have d:=Lm (w:=v) (k:=w.heap.size+1+1+1) (n:=k*3) (a:=Y s.v) (b:=Y s.f) (c:=e) (λj _ c=>q j (by omega));simp at z i;refine⟨?_,?_,?_,?_,?_,?_,?_,?_,?_⟩
 .rw[vZ,m]
  refine ID ?_ ?_ ?_ ?_ (s:=e) ?_
  .refine Nf _ _ _ _ _ (jF _) (λx c=>?_) (λj _ f=>?_) h.own
   .have:=h.jc x c
    rw[xQ (by omega)];exact a.block x (by omega)
   rw[l] at f;rw[Ap (by omega)];exact a.cell (p:=⟨w.heap.size+1+1+1,j,none⟩) (by omega)
  .rw[l,kK];exact d.1
  .rw[l,kK];exact d.2.1
  .rw[l,kK];exact d.2.2
  refine sO (λx c=>?_) r;have:=i x c;exact xQ (by omega)
 .rw[cK]
  refine⟨h.nd,y,λx c A C G=>?_⟩;have:=h.jc x c;have:=i A C;omega
 .intro x c
  rw[iN];rcases vD.1 c with c|c
  .have:=h.jc x c;omega
  have:=i x c;omega
 .intro j f
  by_cases c:j<k*3\/k*3+2<j
  .rw[Ap c];exact q j f
  have:j=k*3\/j=k*3+1\/j=k*3+2:=by omega
  rcases this with rfl|rfl|rfl
  .exact⟨_,d.1⟩
  .exact⟨_,d.2.1⟩
  exact⟨_,d.2.2⟩
 .intro j
  rw[Ql,a.frozen (p:=⟨w.heap.size+1+1+1,j,none⟩) (by omega)];exact h.fr j
 .exact(h.made.below a).same (xQ (by omega))
 .exact(h.res.below a).same (xQ (by omega))
 .exact xZ (h.below.trans (a.mono (by omega))) (by omega) _ _ _
 rw[iN];omega
def dN(h:Below w.drew.heap.size w.drew u):Zb w u:=⟨h.os,h.tape,h.output,h.size,h.block⟩
def Ef(b:u.heap=w.heap)(h:jT p w l a):jT p u l a:=
 xN (λ_ _ _=>by rw[b]) h
def NB{B:List Nat}(h:iY w u t k B)(g:t.e[k]? =some s):
 ∀(o:Obj)(b:N),Zb (u.alloc o) b->(b.cell? (D (w.heap.size+1+1) 2)=some (Zx (w.heap.size+1+1+1) t.e.length t.e.length))/\
  (∃d e f,b.cell? (D (w.heap.size+1+1+1) (k*3))=some d/\b.cell? (D (w.heap.size+1+1+1) (k*3+1))=some e/\b.cell? (D (w.heap.size+1+1+1) (k*3+2))=some f)/\
  (∀j,b.frozen? (D (w.heap.size+1+1+1) j)=false):=by
 intro o b l;have q:=h.size;have i:∀x,x<u.heap.size->b.heap[x]? =u.heap[x]?:=λx c=>by
  rw[l.block x (by simp;omega),zL _ _ _ c]
 have r:k<t.e.length:=by
  rcases xW k t.e.length with h|h
  .exact h
  rw[yZ h] at g;cases g
 have c:=i (w.heap.size+1+1+1) (by omega);obtain⟨d,m⟩:=h.cells (k*3) (by omega);obtain⟨e,n⟩:=h.cells (k*3+1) (by omega);obtain⟨f,p⟩:=h.cells (k*3+2) (by omega);refine⟨(h.made.same (i _ (by omega))).c2,⟨d,e,f,?_,?_,?_⟩,λj=>?_⟩
 .rw[kH (w:=u) (a:=(D (w.heap.size+1+1+1) (k*3))) c];exact m
 .rw[kH (w:=u) (a:=(D (w.heap.size+1+1+1) (k*3+1))) c];exact n
 .rw[kH (w:=u) (a:=(D (w.heap.size+1+1+1) (k*3+2))) c];exact p
 rw[gZ (w:=u) (a:=(D (w.heap.size+1+1+1) j)) c];exact h.fr j
def NC{B:List Nat}(g:t.e≠[])(h:iY w u t t.e.length B){b c d:Zv}:
 ∃s e,Ending.returned (.agg #[Y t.v,Y t.f,Zx (w.heap.size+1+1+1) t.e.length t.e.length])=.returned (.agg #[Y t.v,Y t.f,s])/\t.jb (qZ u (w.heap.size+1) 0 b c d) s e/\e.Nodup/\
  (∀k,k∈e->w.heap.size<=k/\k<(qZ u (w.heap.size+1) 0 b c d).heap.size)/\Zb w (qZ u (w.heap.size+1) 0 b c d):=by
 have j:=h.size;have f:=h.own;rw[qU] at f;refine⟨_,(w.heap.size+1+1+1)::B,rfl,?_,?_,?_,xZ h.below (by omega) _ _ _⟩
 .refine sO (λk a=>?_) (nU.2 (jE ⟨g,_,B,rfl,rfl,h.fr,f⟩))
  rcases qO.1 a with rfl|a
  .exact xQ (by omega)
  have:=h.jc k a;exact xQ (by omega)
 .rw[aM]
  exact⟨λi=>by have:=h.jc _ i;omega,h.nd⟩
 intro k a;rw[iN];rcases qO.1 a with rfl|a
 .omega
 have:=h.jc k a;omega
def Aa(c:Nat):∀(t:T)(d:Zo)(f:Nat)(w:N),t.E<c->t.E<=1000->InL w t.e d->
 Calls Zf 111 #[.agg (Zj t d f)] w λj g=>
  ∃s B,j=.returned (.agg #[Y t.v,Y t.f,s])/\t.jb g s B/\B.Nodup/\(∀k,k∈B->w.heap.size<=k/\k<g.heap.size)/\Zb w g:=by
 induction c with
 |zero=>intro t d f w p;omega
 |succ c a=>
  intro t d f w p P h;have q:=X a;clear a;have Q:t.e.length<=1000:=by have:=T.length_le t.e;have:=T.M t;omega
  by_cases e:t.e.length=0
  .have r:((t.e.length:Int)==0)=true:=by rw[e];rfl
   go_in
   go_wp2_with fail
   exact qS (by simp[results,Tryz.results111,go_sem]) rfl ⟨Zd,[],rfl,nU.2 (jD ⟨yM.1 e,rfl,rfl⟩),eT,by simp,
    ((jG _ _).alloc (by simp) _).alloc (by simp;omega) _⟩
  have r:((t.e.length:Int)==0)=false:=by simpa using e
  have l:=Lk t.e.length (by omega)
  go_in
  go_wp2
  go_loopw [24] (λi wr=>∃(k:Nat)(B:List Nat),k<=t.e.length/\i=Y k/\iY w wr t k B) (λi _=>t.e.length - (intOf i).toNat)
  case atStart=>exact⟨0,[],jY _,rfl,iY.start w t _ _ _ _⟩
  case round=>
   obtain⟨k,B,R,rfl,a⟩:=hrel;have b:=X a;have u:=a.below;have S:=a.size;obtain⟨U,V,W,Z,f1,f2⟩:=a.made;obtain⟨v,x,y,g0,g1,g2⟩:=a.res;clear a l;by_cases z:k<t.e.length
   .obtain⟨aa,ab,rfl⟩:=dV h (by omega)
    obtain⟨i,a⟩:=Zg z;have l:=jI u h;obtain⟨A,C,_,k0,k1,k2,E⟩:=dT l a;have m:i.E<c/\i.E<=1000:=by
     have:=T.W (jU a);have:=T.M t;omega
    have n:=X a;have ac:=X b.cells;have ad:=b.fr;clear a l h;have F:=X (NB b n);have ae:w.heap.size+1+1<wr.heap.size:=by omega
    go_wp2_with fail
    go_region_with (go_at_call 111;refine(q i A C _ m.1 m.2 (by exact Ef (w:=wr.alloc _) rfl (jS _ E))).mono ?_;rintro j G ⟨s,H,rfl,h,I,J,l⟩;have o:=dN l;clear l;obtain⟨a2,af,rfl,K⟩:=rL h;obtain⟨q2,⟨v0,v1,v2,e0,e1,e2⟩,a⟩:=F _ G o;have q0:=a (k*3);have q1:=a (k*3+1);have q3:=a (k*3+2);clear a K)
    all_goals
     go_wp2_with fail
     go_roundw
     case rel=>exact⟨k+1,B++H,by omega,by go_num,b.step n o h I J⟩
     case measure=>simp[intOf];omega
   have L:k=t.e.length:=(by omega);subst L;have M:t.e≠[]:=λO=>e (by rw[O];rfl);have O:=X (b.res.set (Y t.v) (Y t.f) (Zx (w.heap.size+1+1+1) t.e.length t.e.length))
   go_wp2_with fail
   exact qS (by simp[results,Tryz.results111,go_sem,v,x,y]) rfl (NC M b)
def uG:Option Obj->Nat->Prop:=λo k=>∃a n c t b,o=some (.cells #[.slice (some a) n c] t b)/\k=a.block
def vT{v:Zv}(h:w.ownsRow k g n v m U)(d:∀a,v.ownBlock=some a->u.heap[a]? =w.heap[a]?):u.ownsRow k g n v m U:=by
 obtain⟨e,b⟩:=h;refine⟨e,?_⟩;rcases b with b|⟨a,f,i,c,j,l,r⟩
 .exact jD b
 exact jE ⟨a,f,i,c,j,by rw[d a (by rw[c];rfl)];exact l,r⟩
def kO{v:Zv}(h:w.ownsRow k g n v m U):∀a,v.ownBlock=some a->k<=a/\a<w.heap.size:=by
 intro a b;rcases h.2 with⟨rfl,_⟩|⟨d,f,i,rfl,e,c,_⟩
 .cases b
 simp only[Value.ownBlock,qW] at b;subst b;refine⟨e,?_⟩;rcases xW d w.heap.size with h|h
 .exact h
 rw[uK h] at c;cases c
def zF{v:Zv}(h:w.ownsRow k g n v m U):∃a c,v=.slice a m c:=by
 rcases h.2 with⟨rfl,rfl⟩|⟨b,d,e,rfl,_⟩
 .exact⟨_,_,rfl⟩
 exact⟨_,_,rfl⟩
structure nC (x B:Nat) (w:N) (zs:Zn):Prop where
 ex:∃v,w.heap[x]? =some (.cells #[v] 22 (0,0))/\w.ownsRow B 3 1 v zs.length (zs.map (Value.int .i64))
def Fp{v:Zv}{d:Nat×Nat}(h:w.heap[k]? =some (.cells #[v] g d))(e:Nat):uG w.heap[k]? e↔v.ownBlock=some e:=by
 rw[h];constructor
 .rintro⟨b,n,c,t,f,a,rfl⟩
  simp only[qW,Obj.cells.injEq] at a;obtain⟨a,_,_⟩:=a;have:v=.slice (some b) n c:=by simpa using a
  rw[this];rfl
 intro a
 cases v with
 |slice b n c=>
  cases b with
  |none=>cases a
  |some b=>exact⟨b,n,c,g,d,rfl,by simpa[Value.ownBlock] using a.symm⟩
 |_=>cases a
def nC.below(h:nC k n w r)(b:Zb w u):nC k n u r:=by
 obtain⟨v,a,c⟩:=h;have d:k<w.heap.size:=by
  rcases xW k w.heap.size with h|h
  .exact h
  rw[uK h] at a;cases a
 exact⟨v,by rw[b.block k d];exact a,vT c (λg e=>b.block g (kO c g e).2)⟩
def tM:Zn->T->Zn×Bool:=λa t=>(if t.v=0 then a else a++[t.v],true)
theorem Tryz.info3:(Zf.info? 3).map (λi=>(i.zero,i.size,i.bytes))=some (some (Y 0),1,8):=by kernel_rfl
def XY{v:Zv}(a:k=w.heap.size):∀(j:Nat)(u:Zv),[v][j]? =some u->(w.alloc (.cells #[v] g)).cell? (((D k 0):Addr).add j)=some u:=by
 subst a;exact cell_one_new _ _ _
def nC.grown{v:Zv}(o:k<n)(B:n<=w.heap.size)(d:w.heap[k]? =some (.cells #[v] 22 (0,0)))(p:w.ownsRow n 3 1 v r.length (r.map (Value.int .i64)))
 (q:w.heap.size<=j) (W:N) (a:Zb w W)
 (h:u.ownsRow n 3 1 (Zx m (r.length+1) i) (r.length+1) (r.map (Value.int .i64)++[Y z])) (b:W.grownBy u v.ownBlock) (f:v.ownBlock=some m\/m=j) (C:m<u.heap.size):
 nC k n (u.setCell (D k 0) (Zx m (r.length+1) i)) (r++[z])/\xY k uG w (u.setCell (D k 0) (Zx m (r.length+1) i)):=by
 have s:k<w.heap.size:=by omega
 have t:v.ownBlock≠some k:=λe=>by have:=(kO p k e).1;omega
 have E:=a.size;have F:=b.size;have x:u.heap[k]? =some (.cells #[v] 22 (0,0)):=by rw[b.block k (by omega) (λe=>t e.symm),a.block k s];exact d
 have l:(u.setCell (D k 0) (Zx m (r.length+1) i)).heap[k]? =some (.cells #[Zx m (r.length+1) i] 22 (0,0)):=by
  simp[World.setCell,Gr,x]
 have G:=kO h m rfl;refine⟨⟨_,l,?_⟩,b.os.trans a.os,b.tape.trans a.tape,b.output.trans a.output,?_,λg y A c=>?_,λg c=>?_⟩
 .rw[qB,nP]
  exact ownsRow_setCell_below h o _
 .simp[World.setCell];omega
 .rw[Fp d] at c
  rw[vL _ _ _ _ A,b.block g (by omega) (λe=>c e.symm),a.block g y]
 rw[Fp l] at c;simp only[Value.ownBlock,qW] at c;subst c;rcases f with f|rfl
 .exact jD ((Fp d _).2 f)
 exact jE ⟨q,by simp[World.setCell];omega⟩
def jEw(x B:Nat)(w:N)(a:Zn)(t:T)(r:Zo)(s:Nat)(u:x<B)(v:B<=w.heap.size)(K:a.length<1000)(h:nC x B w a):
 Calls Zf 48 #[.agg (Zj t r s),Zr x] w λe k=>
  e=.returned (.bool (tM a t).2)/\nC x B k (tM a t).1/\xY x uG w k:=by
 have l:x<w.heap.size:=by omega
 by_cases b:t.v=0
 .have c:tM a t=(a,true):=by rw[tM,jB b]
  rw[c];have y:(t.v !=0)=false:=by simpa using b
  have H:=X h;clear h c b
  go_in
  go_wp2;go_ret;exact⟨rfl,H.below (jG _ _),xY.A l (jG _ _)⟩
 have c:tM a t=(a++[t.v],true):=by rw[tM,jC b]
 rw[c];have y:(t.v !=0)=true:=by simpa using b
 obtain⟨L,i,j⟩:=h;obtain⟨d,f,rfl⟩:=zF j;have M:w.cell? (D x 0)=some (Zk d a f):=by simp[World.cell?,i]
 have m:=X i;have g:=X j;clear c b i j;obtain⟨z,A,n⟩:=bQ.1 Tryz.info3;simp only[bG] at n;obtain⟨C,E,F⟩:=n;have o:=X (λo1 o2=>vT g (λc b=>(kF w o1 o2).block c (kO g c b).2))
 go_in
 go_wp2_with (at_builtin;go_must (refine wpList_append_lies _ rfl (.tmp 7) (.tmp 10) 22 rfl B 3 z (Y 0) 1 8 Tryz.underlying22 A C E F rfl (by decide) (Zk d a f) a.length (a.map (Value.int .i64)) rfl (o _ _) (D (w.heap.size+1) 0) 1 1 [Y t.v] rfl rfl (XY (by simp)) (by simp[Value.oneCell']) (by decide) (by unfold maxLen;omega) (by omega) (by simp;omega) _ rfl ?_))
 intro c O c p i q G;have b:=nC.grown (j:=w.heap.size+1+1) u v m g (by omega) _ (kF _ _ _) p i (by simpa using q) G;have I:=X b;have j:c.heap[x]? =some (.cells #[Zk d a f] 22 (0,0)):=by
  have J:(Value.slice d a.length f).ownBlock≠some x:=λe=>by have:=(kO g x e).1;omega
  rw[i.block x (by simp;omega) (λe=>J e.symm),(kF _ _ _).block x l];exact m
 have J:c.cell? (D x 0)=some (Zk d a f):=by simp[World.cell?,j]
 have P:c.frozen? (D x 0)=false:=by simp[World.frozen?,j]
 clear b p i q j o;go_wp2;go_ret;exact⟨rfl,I⟩
def Tryz.jq:Keyed Zf 3:=int_keyed Tryz.underlying3
def Rv:Zv->Option (DataW Zv×List MemPlace):=λv=>some (.held v,[])
def Ku(a: -9223372036854775808<=z)(b:z<=9223372036854775807):keyOf Zf 3 (.int .i64 z)=some (.int .i64 z):=
 keyOf_int_mk Tryz.underlying3 (WalkArith.wf_i64 (by omega))
def kU(w:N)(b n:Nat)(f:Int->Option Zv):Prop:=
 ∃a:DataW Zv,w.ownsMap Zf 3 Rv b n a/\∀k:Int,Maps.has a (.int .i64 k)=(f k).isSome/\∀v,f k=some v->∀z,a.atKey (.int .i64 k) z=.held v
def kU.lt{f:Int->Option Zv}(h:kU w k n f):k<w.heap.size:=by obtain⟨b,a,_⟩:=h;exact a.lt
def kU.mono{f:Int->Option Zv}(h:kU w k n f)(a:n<=m):kU w k m f:=by obtain⟨b,c,d⟩:=h;exact⟨b,c.mono a,d⟩
def kU.same{w':N}{f:Int->Option Zv}(h:kU w k n f)(a:w'.heap[k]? =w.heap[k]?):kU w' k n f:=by
 obtain⟨b,⟨c,d,e,g⟩,i⟩:=h;exact⟨b,⟨c,d,a.trans e,g⟩,i⟩
def kU.below{f:Int->Option Zv}(h:kU w k n f)(a:Zb w u):kU u k n f:=h.same (a.block k h.lt)
def kU.made(w:N):kU (w.alloc (.map #[] 0)) w.heap.size 0 (λ_=>none):=
 ⟨.map [],World.ownsMap_made w Zf 3 Rv,λk=>⟨rfl,λv h=>by cases h⟩⟩
def kU.look_ok{f:Int->Option Zv}(h:kU w n m f){t:TypeId}(e:Zf.underlying t=some (.map 3 g)){z:Zv}(i:(zeroValue g).run Zf w=.ok z w){k:Int}(j: -9223372036854775808<=k)(l:k<=9223372036854775807):
 (Instr.lookup t (.map (some n)) (.int .i64 k) true).run Zf w=.ok (.tuple #[(f k).getD z,.bool (f k).isSome]) w:=by
 obtain⟨r,o,p⟩:=h;obtain⟨v,s,c,a⟩:=o.look_ok Tryz.jq e i rfl (Ku j l);obtain⟨b,q⟩:=p k;rw[b] at c;rw[c];simp only[Rv,qW,bG] at a
 cases d:f k with
 |some u=>
  rw[q u d] at a;have:v=u:=by simpa using a.1
  rw[this];rfl
 |none=>
  rw[d] at b;rw[Maps.atKey_of_not_has b] at a;have:v=z:=by simpa using a.1
  rw[this];rfl
def kU.look{f:Int->Option Zv}(h:kU w n m f){t:TypeId}(d:Zf.underlying t=some (.map 3 g)){z:Zv}(e:(zeroValue g).run Zf w=.ok z w){k:Int}(i: -9223372036854775808<=k)(j:k<=9223372036854775807):
 (Instr.lookup t (.map (some n)) (.int .i64 k) false).run Zf w=.ok ((f k).getD z) w:=by
 obtain⟨r,l,o⟩:=h;obtain⟨v,s,p,a⟩:=l.lookup Tryz.jq d e rfl (Ku i j);obtain⟨b,q⟩:=o k;rw[p];simp only[Rv,qW,bG] at a
 cases c:f k with
 |some u=>
  rw[q u c] at a;have:v=u:=by simpa using a.1
  rw[this];rfl
 |none=>
  rw[c] at b;rw[Maps.atKey_of_not_has b] at a;have:v=z:=by simpa using a.1
  rw[this];rfl
def kU.store{f:Int->Option Zv}(i:kU w n m f)(l:Zf.underlying g=some (.map 3 g1))(o:m<maxLen){k:Int}(p: -9223372036854775808<=k)(q:k<=9223372036854775807)(v:Zv):
 ∃a,(Instr.mapUpdate g (.map (some n)) (.int .i64 k) v).run Zf w=.ok () a/\kU a n (m+1) (λj=>if j=k then some v else f j)/\w.grownBy a (some n):=by
 obtain⟨y,b,d⟩:=i;obtain⟨a,r,s,t⟩:=b.update Tryz.jq l o (Ku p q) rfl;refine⟨a,r,⟨_,s,λj=>?_⟩,t⟩;by_cases g1:j=k
 .subst g1
  have e:WideAt.IsKeyLit (Lit.int .i64 j):=trivial;simp only[jB];refine⟨by rw[Maps.has_put_same b.isMap e];rfl,λu c z=>?_⟩;rw[Maps.atKey_put_same b.isMap e];simpa using c
 have h:(Lit.int .i64 j)≠(Lit.int .i64 k):=λx=>g1 (by injection x);simp only[jC g1];refine⟨by rw[Maps.has_put_other h];exact(d j).1,λu c z=>?_⟩;rw[Maps.atKey_put_other h];exact(d j).2 u c z
def qV:T->Zt
 |⟨v,f,a⟩=>partsL a++[⟨v,f,a⟩]
 where
 partsL:Zt->Zt
  |[]=>[]
  |t::b=>qV t++partsL b
def lN(t:T):qV t=qV.partsL t.e++[t]:=by cases t;rfl
theorem oU(t:T)(a:Zt):qV.partsL (t::a)=qV t++qV.partsL a:=rfl
structure yS (w w':N) (r r':Option Nat):Prop where
 gr:w.grownBy w' r
 row:r'=r\/∃g,r'=some g/\w.heap.size<=g
def yS.refl(w:N)(r:Option Nat):yS w w r r:=⟨⟨rfl,rfl,rfl,jF _,λ_ _ _=>rfl⟩,jD rfl⟩
def yS.trans{r c d:Option Nat}(h:yS w u r c)(k:yS u v c d):yS w v r d:=by
 have f:=h.gr.size;refine⟨⟨k.gr.os.trans h.gr.os,k.gr.tape.trans h.gr.tape,k.gr.output.trans h.gr.output,kN f k.gr.size,λi a b=>?_⟩,?_⟩
 .rw[k.gr.block i (by omega) (λe=>?_),h.gr.block i a b]
  rcases h.row with a|⟨g,a,i⟩
  .exact b (e.trans a)
  rw[a] at e;simp at e;omega
 rcases k.row with b|⟨g,b,e⟩
 .rw[b];exact h.row
 exact jE ⟨g,b,by omega⟩
def yS.A(r:Option Nat)(h:Zb w u):yS w u r r:=⟨⟨h.os,h.tape,h.output,h.size,λk a _=>h.block k a⟩,jD rfl⟩
def yS.below{r b:Option Nat}(h:yS w u r b)(d:k<=w.heap.size)(c:∀g,r=some g->k<=g):Below k w u:=
 ⟨h.gr.os,h.gr.tape,h.gr.output,h.gr.size,λa e=>h.gr.block a (by omega) (λe=>by have:=c a e.symm;omega)⟩
def putT(u:T):T->Zn->T
 |_,[]=>u
 |t,i::p=>⟨t.v,t.f,t.e.set i.toNat (match t.e[i.toNat]? with|some c=>putT u c p|none=>u)⟩
def Di(h:s.e[z.toNat]? =some t1):putT t s (z::r)=⟨s.v,s.f,s.e.set z.toNat (putT t t1 r)⟩:=by
 rw[putT,h]
def ZG:∀{p:Zn}{a c:T},qK a p=some c->putT t a (p++r)=putT (putT t c r) a p:=by
 intro p;induction p with
 |nil=>
  intro a c h;simp only[qK,qW] at h;subst h;rfl
 |cons i p d=>
  intro a c h;rw[qK] at h;by_cases b:0<=i/\i<a.e.length
  .rw[jB b] at h
   obtain⟨f,hd,e⟩:=rG.1 h;rw[dW,Di hd,Di hd,d e]
  rw[jC b] at h;cases h
def GZ:∀(n:Nat)(a:Zt)(b c:Nat)(B:List Nat),T.E.szL a<=n->OwnL w a b c B->jT (λk=>k=b\/k∈B) w a (some (D b c)):=by
 intro n;induction n with
 |zero=>
  intro a b c B d h
  cases a with
  |nil=>exact dU
  |cons t a=>have:=t.I;rw[T.F] at d;omega
 |succ n f=>
  intro a;induction a with
  |nil=>intro b c B _ _;exact dU
  |cons t a g=>
   intro b c B h i;rw[T.F,T.M] at h;obtain⟨s,v,j,rfl,l,m,o,p,q⟩:=aO.1 i;refine sI.2 ⟨b,c,s,rfl,jD rfl,l,m,o,?_,kQ (λk d=>?_) (g b (c+3) j (by omega) q)⟩
   .rcases nU.1 p with⟨e,rfl,_⟩|⟨x,r,u,rfl,rfl,y,e⟩
    .exact gK.2 ⟨none,0,by rw[e];rfl,by rw[e];exact dU⟩
    exact gK.2 ⟨_,_,rfl,kQ (λk d=>by rcases d with rfl|d<;>simp[*]) (f t.e r 0 u (by omega) e)⟩
   rcases d with rfl|d
   .exact jD rfl
   exact jE (bF _ d)
def By{s:Zv}{B:List Nat}(h:t.jb w s B):t.In (λk=>k∈B) w s:=by
 rcases nU.1 h with⟨a,rfl,_⟩|⟨e,c,d,rfl,rfl,f,a⟩
 .exact gK.2 ⟨none,0,by rw[a];rfl,by rw[a];exact dU⟩
 exact gK.2 ⟨_,_,rfl,kQ (λk b=>by rcases b with rfl|b<;>simp[*]) (GZ _ t.e c 0 d (jF _) a)⟩
def Ng{s:Zv}{B:List Nat}(c:∀k,k∈B->p k)(h:t.jb w s B)(d:∀k o v,k∈B->w.cell? (D k o)=some v->u.cell? (D k o)=some v):t.In p u s:=by
 obtain⟨e,f,rfl,g⟩:=gK.1 (By h);exact gK.2 ⟨e,f,rfl,nM (λb o v a i=>⟨c b a,d b o v a i⟩) _ _ _ (jF _) g⟩
def IA:∀{b c:Nat}{B:List Nat},p b->(∀k,k∈B->p k)->OwnL w l b c B->(∀o v,c<=o->w.cell? (D b o)=some v->u.cell? (D b o)=some v)->
 (∀k o v,k∈B->w.cell? (D k o)=some v->u.cell? (D k o)=some v)->jT p u l (some (D b c)):=by
 induction l with
 |nil=>intro b c B _ _ _ _ _;exact dU
 |cons t l h=>
  intro b c B e f i d g;obtain⟨s,x,y,rfl,j,m,n,q,r⟩:=aO.1 i
  exact sI.2 ⟨b,c,s,rfl,e,d _ _ (jF _) j,d _ _ (by omega) m,d _ _ (by omega) n,Ng (λk a=>f k (yT _ a)) q (λk o v a=>g k o v (yT _ a)),
   h e (λk a=>f k (bF _ a)) r (λo v z=>d o v (by omega)) (λk o v a=>g k o v (bF _ a))⟩
def IE:∀{b a i:Nat}{B:List Nat}{e:T},p b->(∀k,k∈B->p k)->OwnL w l b a B->(b::B).Nodup->l[i]? =some e->
 ∃q f,w.cell? (D b (a+i*3))=some (Y e.v)/\w.cell? (D b (a+i*3+1))=some (Y e.f)/\w.cell? (D b (a+i*3+2))=some q/\e.jb w q f/\(∀k,k∈f->k∈B)/\f.Nodup/\
  ∀(c:N)(x:T)(g:Zv),(∀k o v,k∉f->¬(k=b/\a+i*3<=o/\o<a+i*3+3)->w.cell? (D k o)=some v->c.cell? (D k o)=some v)->
   c.cell? (D b (a+i*3))=some (Y x.v)->c.cell? (D b (a+i*3+1))=some (Y x.f)->c.cell? (D b (a+i*3+2))=some g->x.In p c g->
   jT p c (l.set i x) (some (D b a)):=by
 induction l with
 |nil=>intro b a i B e _ _ _ _ t;simp at t
 |cons ac l O=>
  intro b a i B e r u t A s;obtain⟨C,P,Br,rfl,E,F,G,H,I⟩:=aO.1 t;rw[aM,cK] at A;obtain⟨m,Q,R,J⟩:=A
  cases i with
  |zero=>
   simp at s;subst s;refine⟨C,P,by simpa using E,by simpa using F,by simpa using G,H,λk d=>yT _ d,Q,?_⟩;intro c x g h n y z K;simp only[Iv,mG] at h n y z;refine sI.2 ⟨b,a,g,rfl,r,n,y,z,K,IA r (λk d=>u k (bF _ d)) I (λo v j=>h b o v (λj=>m (yT _ j)) (by omega)) (λk o v d=>h k o v (λj=>J k j k d rfl) (λj=>?_))⟩;exact m (bF _ (j.1▸d))
  |succ i=>
   simp at s;obtain⟨q,f,S,U,V,W,y,Z,aa⟩:=O r (λk d=>u k (bF _ d)) I (aM.2 ⟨λn=>m (bF _ n),R⟩) s;have h:a+(i+1)*3=a+3+i*3:=(by omega);refine⟨q,f,by rw[h];exact S,by rw[h];exact U,by rw[h];exact V,W,λk d=>bF _ (y k d),Z,?_⟩;intro c x g j K L M ab;rw[h] at j K L M;have z:=λn=>m (bF _ (y b n));refine sI.2 ⟨b,a,C,rfl,r,j b a _ z (by omega) E,j b _ _ z (by omega) F,j b _ _ z (by omega) G,Ng (λk d=>u k (yT _ d)) H (λk o v d=>j k o v (λn=>J k d k (y k n) rfl) (λh=>?_)),aa c x g j K L M ab⟩;exact m (yT _ (h.1▸d))
structure eM (p:Zp) (w:N) (m:Nat) (t:T) (place:Zn) (k:Nat) (pb po:Nat) (B:List Nat) (c:T) (s:Zv):Prop where
 at_:qK t (place.take k)=some c
 c0:w.cell? (D pb po)=some (Y c.v)
 c1:w.cell? (D pb (po+1))=some (Y c.f)
 c2:w.cell? (D pb (po+2))=some s
 own:c.jb w s B
 nd:B.Nodup
 nb:pb∉B
 vr:p pb
 vq:∀k,k∈B->p k
 fr:∀j,w.frozen? (D pb j)=false
 put:∀(w':N) (x:T) (sx:Zv),(∀k o v,k∉B->¬(k=pb/\po<=o/\o<po+3)->w.cell? (D k o)=some v->w'.cell? (D k o)=some v)->
  w'.cell? (D pb po)=some (Y x.v)->w'.cell? (D pb (po+1))=some (Y x.f)->w'.cell? (D pb (po+2))=some sx->x.In p w' sx->
  ∃sy,w'.cell? (D m 0)=some (Y (putT x t (place.take k)).v)/\w'.cell? (D m 1)=some (Y (putT x t (place.take k)).f)/\w'.cell? (D m 2)=some sy/\(putT x t (place.take k)).In p w' sy
def eM.start{B:List Nat}{s:Zv}(a:jK w k (Y t.v) (Y t.f) s)(c:∀j,w.frozen? (D k j)=false)(d:t.jb w s B)(e:B.Nodup)(f:k∉B)(g:p k)(h:∀b,b∈B->p b):eM p w k t r 0 k 0 B t s:=
 ⟨rfl,a.c0,a.c1,a.c2,d,e,f,g,h,c,λ_ _ i _ l m n o=>⟨i,l,m,n,o⟩⟩
theorem eM.step {y:Zp} {z:N} {A:Nat} {t:T} {d:Zn} {k g C:Nat} {B:List Nat} {c:T} {E:Zv} (P:eM y z A t d k g C B c E) (a:k<d.length) {n:Nat} (i:d.getD k 0=(n:Int)) (p:n<c.e.length):
 ∃b j q l,E=.slice (some ⟨b,0,none⟩) c.e.length c.e.length/\b∈B/\(∀x,x∈l->x∈B)/\eM y z A t d (k+1) b (n*3) l j q:=by
 obtain⟨F,Q,R,S,own,G,U,ai,m,fr,V⟩:=P
 rcases nU.1 own with⟨r,_,_⟩|⟨aj,b,l,rfl,rfl,W,r⟩
 .rw[r] at p;simp at p
 obtain⟨j,s⟩:=Zg p
 obtain⟨q,H,I,J,K,Z,o,aa,L⟩:=IE (m b (by simp)) (λk a=>m k (by simp[a])) r G s
 simp only[kK] at I J K L
 have ab:=(aM.1 G).1
 have ac:=(Ny a F).1 j (by rw[i];omega) (by rw[i];omega) (by rw[i];simpa using s)
 refine⟨b,j,q,H,rfl,by simp,λx u=>vG _ (o x u),ac,I,J,K,Z,aa,λv=>ab (o b v),m b (by simp),λk a=>m k (by simp[o k a]),W,?_⟩
 intro M x sx h e0 e1 e2 ad
 have w:∀k,k∉b::l->k∉H/\k≠b:=λk a=>⟨λv=>a (vG _ (o k v)),λe=>a (by simp[e])⟩
 have f:=w g U
 have u:=L M x sx h e0 e1 e2 ad
 have ae:(c.e.set n x).length=c.e.length:=by simp
 obtain⟨sy,y0,y1,y2,af⟩:=V M ⟨c.v,c.f,c.e.set n x⟩ (.slice (some ⟨b,0,none⟩) c.e.length c.e.length)
  (λk ag ah O _ hv=>h k ag ah (w k O).1 (λe=>(w k O).2 e.1) hv)
  (h g C _ f.1 (λe=>f.2 e.1) Q) (h g _ _ f.1 (λe=>f.2 e.1) R) (h g _ _ f.1 (λe=>f.2 e.1) S)
  (gK.2 ⟨_,c.e.length,by rw[ae],u⟩)
 have e:putT x t (d.take (k+1))=putT ⟨c.v,c.f,c.e.set n x⟩ t (d.take k):=by
  have hg:d.getD k 0=d[k]:=by rw[dI,jO a];rfl
  rw[vZ,jO a,ZG F,<-hg,i]
  show putT (putT x c [(n:Int)]) t _=_
  rw[Di (by simpa using s)]
  simp[putT]
 rw[e]
 exact⟨sy,y0,y1,y2,af⟩
def eM.finish{C q:List Nat}{E d:Zv}(h:eM p w k t r r.length n m C t1 E)(g:Zb w u)(F:s.jb u d q)(v:∀c,c∈q->w.heap.size<=c/\p c):
 ∃x,(qZ u n m (Y s.v) (Y s.f) d).cell? (D k 0)=some (Y (putT s t r).v)/\(qZ u n m (Y s.v) (Y s.f) d).cell? (D k 1)=some (Y (putT s t r).f)/\
  (qZ u n m (Y s.v) (Y s.f) d).cell? (D k 2)=some x/\(putT s t r).In p (qZ u n m (Y s.v) (Y s.f) d) x:=by
 have i:=kA h.c0;have y:=h.c0;have z:=h.c1;have A:=h.c2;rw[<-g.cell (p:=(D n m)) i] at y;rw[<-g.cell (p:=(D n (m+1))) i] at z;rw[<-g.cell (p:=(D n (m+2))) i] at A
 have j:=Lm (w:=u) (k:=n) (n:=m) (a:=Y s.v) (b:=Y s.f) (c:=d) (λl I J=>by
  have:l=m\/l=m+1\/l=m+2:=by omega
  rcases this with rfl|rfl|rfl
  .exact⟨_,y⟩
  .exact⟨_,z⟩
  exact⟨_,A⟩)
 have:=h.put (qZ u n m (Y s.v) (Y s.f) d) s d (λc o G _ K e=>?_) j.1 j.2.1 j.2.2 (Ng (λc f=>(v c f).2) F (λc o G f e=>?_))
 .rw[qU] at this
  exact this
 .have f:=kA e
  rw[<-g.cell (p:=(D c o)) f] at e;by_cases B:c=n
  .subst B
   rw[Ap (by omega)];exact e
  rw[kH (w:=u) (a:=(D c o)) (xQ B)];exact e
 have H:c≠n:=by have:=v c f;omega
 rw[kH (w:=u) (a:=(D c o)) (xQ H)];exact e
def ZH(y:Nat)(R:Nat)(m:Nat)(S:jV w r a1)(U:InL w t.e a)(V:InL w s.e a2)
 (hl:r.length<=9223372036854775807) (W:t.E<=1000) (Z:s.E<=1000) (b:qK t r=some t1):
 Calls Zf 199 #[.agg (Zj t a y),.slice a1 r.length R,.agg (Zj s a2 m)] w λg z=>
  ∃A aa,g=.returned (.agg #[Y (putT s t r).v,Y (putT s t r).f,.slice A (putT s t r).e.length aa])/\jT (λk=>w.heap.size<=k) z (putT s t r).e A/\Zb w z:=by
 have Hc:=X b;clear b
 go_in
 go_wp2_with fail
 refine(Aa (t.E+1) t a y _ (by omega) W (jS _ (jS _ (jS _ U)))).mono ?_;rintro g b ⟨ap,B,rfl,d,ab,f,c⟩;obtain⟨n,o,rfl,h⟩:=rL d;have p:Zb w b:=(((jG _ _).alloc (by simp) _).alloc (by simp;omega) _).trans (c.mono (by simp;omega));have C:w.heap.size+3<=b.heap.size:=by have:=c.size;simp at this;omega
 have ac:jK b (w.heap.size+1) (Y s.v) (Y s.f) (Zk a2 s.e m):=((jK.new _ (by simp)).alloc _).below c;have E:jK b (w.heap.size+1+1) (Y 0) (Y 0) (Zd):=(jK.new _ (by simp)).below c;simp at f;have e:∀g,eM (λk=>w.heap.size+3<=k) (b.alloc (.cells (Zj t n o) g)) b.heap.size t r 0 b.heap.size 0 B t (Zk n t.e o):=λg=>
  eM.start (jK.new _ rfl) (λj=>Vy j rfl) (sO (λk i=>zL _ _ _ (f k i).2) d) ab (λi=>by have:=f _ i;omega) C (λx i=>(f x i).1)
 have ad:=X e;clear e d h c
 go_wp2_with fail
 go_loop [8,10,15] (λj _ i=>∃(k h e:Nat)(c:List Nat)(t1:T)(d:Zv),k<=r.length/\i=Y k/\j=.pointer (some (D h e))/\w.heap.size+3<=h/\(∀x,x∈c->w.heap.size+3<=x)/\
  eM (λk=>w.heap.size+3<=k) (b.alloc (.cells (Zj t n o) 43)) b.heap.size t r k h e c t1 d) (λ_ _ i=>r.length - (intOf i).toNat)
 case atStart=>exact⟨0,b.heap.size,0,B,t,_,jY _,rfl,rfl,C,λx i=>(f x i).1,ad _⟩
 case round=>
  obtain⟨k,h,e,c,q,d,F,rfl,rfl,aq,j,d⟩:=hrel;have c:=X d;clear d;by_cases l:k<r.length
  .obtain⟨ae,af,rfl,d⟩:=pL S (by omega)
   have G:b.cell? (D ae (af+k))=some (Y (r.getD k 0)):=(by rw[p.cell (kA (d k l))];exact d k l);have ar:=kA G;have v:0<=r.getD k 0/\r.getD k 0<q.e.length:=by
    rcases Classical.em (0<=r.getD k 0/\r.getD k 0<q.e.length) with u|u
    .exact u
    have:=(Ny l c.at_).2 u;rw[Hc.out] at this;cases this
   obtain⟨H,u⟩:=uO v.1;have ag:H<q.e.length:=(by omega);obtain⟨I,c',s',J,ah,K,L,M⟩:=c.step l u ag;have c2:=c.c2;rw[ah] at c2;rw[u] at G;have ai:=X M;have aj:=j I K;have O:∀x,x∈J->w.heap.size+3<=x:=λx i=>j x (L x i);have ak:=X O;clear d M L K O j u v f
   go_wp2_with fail
   go_round
   case rel=>exact⟨k+1,I,H*3,J,c',s',by omega,by go_num,rfl,aj,ak,ai⟩
   case measure=>simp[intOf];omega
  have al:k=r.length:=by omega
  subst al;obtain⟨e0,e1,e2,_,_,_⟩:=ac;have au:w.heap.size+1<b.heap.size:=by omega
  go_wp2_with fail
  refine(Aa (s.E+1) s a2 m _ (by omega) Z (jS _ (jI p V))).mono ?_;rintro g K ⟨su,Bu,rfl,u,am,v,d⟩;obtain⟨L,M,rfl,an⟩:=rL u;obtain⟨sy,y0,y1,y2,O⟩:=c.finish d u (λx i=>⟨(v x i).1,by have:=(v x i).1;simp at this;omega⟩);obtain⟨ay,ao,rfl,x⟩:=gK.1 O;have i:=kA c.c0;have d0:=c.c0;have d1:=c.c1;have d2:=c.c2;have f0:=c.fr e;have f1:=c.fr (e+1);have f2:=c.fr (e+2);rw[<-d.cell i] at d0;rw[<-d.cell i] at d1;rw[<-d.cell i] at d2;rw[<-d.frozen i] at f0;rw[<-d.frozen i] at f1;rw[<-d.frozen i] at f2;have P:jK (qZ K h e (Y s.v) (Y s.f) (Zk L s.e M)) (w.heap.size+1+1) (Y 0) (Y 0) (Zd):=((E.alloc _).below d).same (xQ (by omega));have H3:=X P;obtain⟨r0,r1,r2,g0,g1,g2⟩:=P;have Q:Zb w (qZ K h e (Y s.v) (Y s.f) (Zk L s.e M)):=xZ ((p.alloc (by omega) _).trans (d.mono (by simp;omega))) (by omega) _ _ _;have e:=X Q;have h:=X x;clear Q O x an v am u f j E
  go_wp2_with fail
  exact qS (by simp[results,Tryz.results199,go_sem,r0,r1,r2]) rfl ⟨ay,ao,rfl,kQ (λk F=>by omega) (xN (λk F _=>xQ (by omega)) h),xZ e (by omega) _ _ _⟩
def kS:T->T->Bool
 |⟨v,f,a⟩,u=>v==u.v && f==u.f && sameL a u.e
 where
 sameL:Zt->Zt->Bool
  |[],[]=>true
  |t::b,u::c=>kS t u && sameL b c
  |_,_=>false
def An(t u:T):kS t u=(t.v==u.v && t.f==u.f && kS.sameL t.e u.e):=by cases t;rfl
theorem uE(t u:T)(a b:Zt):kS.sameL (t::a) (u::b)=(kS t u && kS.sameL a b):=rfl
def Ll:∀{b a:Zt},b.length≠a.length->kS.sameL b a=false:=by
 intro b;induction b with
 |nil=>intro a h;cases a with
  |nil=>simp at h
  |cons u a=>rfl
 |cons t b c=>intro a h;cases a with
  |nil=>rfl
  |cons u a=>
   rw[uE,c (by simpa using h)];simp
def jA7:∀{b a:Zt}{k:Nat}{t u:T},b.length=a.length->b[k]? =some t->a[k]? =some u->
 kS.sameL (b.take (k+1)) (a.take (k+1))=(kS.sameL (b.take k) (a.take k) && kS t u)/\(kS t u=false->kS.sameL b a=false):=by
 intro b;induction b with
 |nil=>intro a k t u _ h;simp at h
 |cons j b f=>
  intro a k t u e d c
  cases a with
  |nil=>simp at c
  |cons l a=>
   cases k with
   |zero=>
    simp at d c;subst d;subst c;refine⟨?_,λh=>by rw[uE,h];rfl⟩;simp[uE,kS.sameL]
   |succ k=>
    simp at d c e;obtain⟨g,i⟩:=f e d c;refine⟨?_,λh=>by rw[uE,i h];simp⟩;rw[uY,uY,uY,uY,uE,uE,g,Bool.and_assoc]
def jA9:∀(n:Nat),(∀t:T,t.E<=n->kS t t=true)/\(∀a:Zt,T.E.szL a<=n->kS.sameL a a=true):=by
 intro n;induction n with
 |zero=>
  refine⟨λt h=>by have:=t.I;omega,λa h=>?_⟩
  cases a with
  |nil=>rfl
  |cons t a=>have:=t.I;rw[T.F] at h;omega
 |succ n c=>
  have b:∀t:T,t.E<=n+1->kS t t=true:=λt h=>by
   rw[T.M] at h;rw[An,c.2 t.e (by omega)];simp
  refine⟨b,λa=>?_⟩;induction a with
  |nil=>intro _;rfl
  |cons t a d=>
   intro h;rw[T.F] at h;rw[uE,b t (by omega),d (by omega)];rfl
def Qj(t:T):kS t t=true:=(jA9 t.E).1 t (jF _)
def Fh(h:Below k w u)(n:Nat):Below k w (u.drewN n):=⟨h.os,h.tape,h.output,h.size,h.block⟩
def FG(h:jV w (z::r) (some (D k n))):jV w r (some (D k (n+1))):=by
 by_cases b:r=[]
 .exact jD b
 rcases h with h|⟨c,d,a,h⟩
 .cases h
 simp only[qW,fG] at a;obtain⟨rfl,rfl,_⟩:=a
 exact jE ⟨k,n+1,rfl,λj e=>by
  have:=h (j+1) (by simp;omega);rw[show n+(j+1)=n+1+j from by omega] at this
  simpa using this⟩
def jD8(h:jV w (z::r) (some (D k n)))(i:r.length+1<=m):
 ∃b,(∀a:N,(Instr.slice 22 (Zz k n (r.length+1) m) (some (Y 1)) none none).run Zf a=.ok (.slice b r.length (m - 1)) a)/\jV w r b:=by
 have f:Zf.underlying 22=some (.slice (Zf.elem 22)):=by kernel_rfl
 have c:∀w:N,(sizeOf (Zf.elem 22)).run Zf w=.ok 1 w:=λw=>by kernel_rfl
 have d:=λa:N=>run_slice_l a 22 (some (D k n)) (r.length+1) m f .i64 1 (by omega) (by omega);by_cases e:m=1
 .subst e
  have g:r=[]:=yM.1 (by omega);subst g;refine⟨some (D k n),λa=>?_,jD rfl⟩;rw[d a,c];simp[sliced]
 refine⟨some (D k (n+1)),λa=>?_,FG h⟩;rw[d a,c];simp[sliced,e,Addr.add]
def zS:T:=⟨0,0,[]⟩
def pU(a:Zn)(t:T)(b:Zn):T×Int:=
 if kI a [t]=0 then(match qK t b with|some u=>(u,0)|none=>(zS,5)) else(zS,kI a [t])
def lO(a:Zn)(t:T)(b:Zn)(u:T):T×Int:=
 if kI a [t,u]=0 then
  (match qK t b with|some c=>if 120<(t.E:Int) - c.E+u.E then(zS,2) else(putT u t b,0)|none=>(zS,5))
 else(zS,kI a [t,u])
def Rq(x:T×Int)(e:Ending)(b:N):Prop:=
 ∃a c,e=.returned (.tuple #[.agg (Zj x.1 a c),Y x.2])/\InL b x.1.e a
def Wk(n:Int)(a:N):Rq (zS,n) (.returned (.tuple #[.agg #[Y 0,Y 0,Zd],Y n])) a:=⟨none,0,rfl,dU⟩
def Qw(h:kI r l=0)(b:t∈l):t.E<=120:=by
 rw[kI] at h;by_cases c:qT r=0
 .rw[jB c] at h
  clear c;induction l with
  |nil=>cases b
  |cons d l e=>
   rw[bN] at h;by_cases a:kP r d=0
   .rw[jB a] at h
    rcases qO.1 b with rfl|b
    .rw[kP] at a
     by_cases f:120<t.E
     .rw[jB f] at a;cases a
     omega
    exact e h b
   rw[jC a] at h;exact jN h a
 rw[jC c] at h;exact jN h c
def Ue:∀{p:Zn}{t u:T},qK t p=some u->u.E<=t.E:=by
 intro p;induction p with
 |nil=>
  intro t u h;simp only[qK,qW] at h;subst h;exact jF _
 |cons i p b=>
  intro t u h;rw[qK] at h;by_cases a:0<=i/\i<t.e.length
  .rw[jB a] at h
   obtain⟨d,hd,c⟩:=rG.1 h;have e:=b c;have f:=T.W (jU hd);have g:=T.M t;omega
  rw[jC a] at h;cases h
def EF(A:Nat)(f:Nat)(B:Nat)(V:jV w r a)(C:InL w t.e a1)(W:jV w r1 a2)(Z:r1.length<=9223372036854775807):
 Calls Zf 181 #[.agg #[.slice a r.length A],.agg (Zj t a1 f),.slice a2 r1.length B] w λe E=>Rq (pU r t r1) e E/\Zb w E:=by
 have c:=X (λo1 o2 b d=>qD d (qD b (qD o2 (qD o1 V))));have d:=X (λo1 o2 b e=>sJ (n:=w.heap.size+1+1+1) (k:=f) e (by simp) trivial (jS b (jS o2 (jS o1 C))));go_enter Tryz.func181,Tryz.ntmps181
 go_wp2_with fail
 refine(Cj r a A [t] _ 1 _ (c.out _ _ _ _) (d.out _ _ _ _) (by simp)).mono ?_;rintro e i ⟨rfl,b⟩;have j:Zb w i:=((((jG _ _).alloc (by simp) _).alloc (by simp;omega) _).alloc (by simp;omega) _).trans (b.mono (by simp;omega));have aj:w.heap.size+4<=i.heap.size:=by have:=b.size;simp at this;omega
 have aa:jK i (w.heap.size+1) (Y t.v) (Y t.f) (Zk a1 t.e f):=(((jK.new _ (by simp)).alloc _).alloc _).below b;have k:jK i (w.heap.size+1+1) (Y 0) (Y 0) (Zd):=((jK.new _ (by simp)).alloc _).below b;clear b c d;by_cases b:kI r [t]=0
 .have ak:=Qw b (t:=t) (by simp)
  rw[b];obtain⟨c0,c1,c2,_,_,_⟩:=aa;have g:pU r t r1=(match qK t r1 with|some u=>(u,0)|none=>(zS,5)):=by rw[pU,jB b]
  have c:=X g;clear g
  go_wp2_with fail
  refine(Vo t a1 f r1 a2 B _ (kD j W) (jI j C) Z).mono ?_;rintro e F ⟨ab,l⟩;have G:=k.below l;have al:=l.size;have H:=j.trans (l.mono (by omega));rcases ab with⟨u,ac,ad,d,rfl,ae⟩|⟨d,rfl⟩
  .have am:=Ue d
   have h:pU r t r1=(u,0):=(by rw[c.out,d]);have o:=X h;clear h c d k;obtain⟨p,s,x,I,J,K⟩:=G;have L:w.heap.size+1+1<F.heap.size:=by omega
   go_wp2_with fail
   refine(Aa (u.E+1) u ac ad _ (by omega) (by omega) (jS _ (jI l ae))).mono ?_;rintro e w3 ⟨an,ao,rfl,y,af,M,z⟩;obtain⟨O,P,rfl,ag⟩:=rL y;have ah:jK w3 (w.heap.size+1+1) (Y 0) (Y 0) (Zd):=(jK.alloc ⟨p,s,x,I,J,K⟩ _).below z;have Q:=By y;obtain⟨ap,aq,R,S⟩:=gK.1 Q;simp only[lH] at R;obtain⟨rfl,_,rfl⟩:=R;have Hq:=X (kQ (p1:=λm=>w.heap.size+3<=m) (λm U=>by have:=(M m U).1;simp at this;omega) S);have ai:=X ((H.alloc (by omega) _).trans (z.mono (by simp;omega)));obtain⟨r0,r1,r2,g0,g1,g2⟩:=ah;clear y af M z ag Q S
   go_wp2_with fail
   exact qS (v:=.tuple #[.agg (Zj u O P),Y 0]) (by simp[results,Tryz.results181,go_sem,r0,r1,r2]) rfl
    ⟨by rw[o.out];exact⟨O,P,rfl,kQ (λ_ _=>trivial) (xN (λm U _=>xQ (by omega)) Hq.out)⟩,xZ ai.out (by omega) _ _ _⟩
  have h:pU r t r1=(zS,5):=by rw[c.out,d]
  have o:=X h;clear h c d k;obtain⟨p,s,x,I,J,K⟩:=G;have L:w.heap.size+1+1<F.heap.size:=by omega
  go_wp2_with fail
  exact qS (v:=.tuple #[.agg #[Y 0,Y 0,Zd],Y 5]) (by simp[results,Tryz.results181,go_sem,p,s,x,L]) rfl
   ⟨by rw[o.out];exact Wk 5 _,(xZ H (by omega) _ _ _).alloc (by rw[iN];omega) _⟩
 have m:(kI r [t] !=0)=true:=by simpa using b
 have g:pU r t r1=(zS,kI r [t]):=by rw[pU,jC b]
 have c:=X g;clear g b;obtain⟨d,g,h,o,p,s⟩:=k;generalize kI r [t]=b at*
 go_wp2_with fail
 exact qS (v:=.tuple #[.agg #[Y 0,Y 0,Zd],Y b]) (by simp[results,Tryz.results181,go_sem,d,g,h]) rfl
  ⟨by rw[c.out];exact Wk b _,xZ j (by omega) _ _ _⟩
def FC(e:TypeId)(c:m=w.heap.size)(b:p w.heap.size)(h:jT p w t.e a)(d:jT p w s.e a1):
 jT p (w.alloc (.cells #[Y t.v,Y t.f,.slice a t.e.length k,Y s.v,Y s.f,.slice a1 s.e.length n] e)) [t,s] (some (D m 0)):=by
 subst c
 exact sI.2 ⟨_,0,_,rfl,b,fL _ _ _ _ _,fL _ _ _ _ _,fL _ _ _ _ _,gK.2 ⟨a,k,rfl,jS _ h⟩,
  sI.2 ⟨_,3,_,rfl,b,fL _ _ _ _ _,fL _ _ _ _ _,fL _ _ _ _ _,gK.2 ⟨a1,n,rfl,jS _ d⟩,dU⟩⟩
def Mf(h:jT p w l a):jT p w.drew l a:=Ef (w:=w) rfl h
def iS(x:Int)(a: -1000000<=x)(b:x<=1000000):IntKind.i64.wrap x=x:=by rw[IntKind.wrap_i64];omega
def Qp(c:t.E<=120)(h:InL w [t] (some (D k 0))):
 Calls Zf 105 #[Y 120,Zx k 1 1] w λe b=>e=.returned (Y (t.E:Int))/\Zb w b:=by
 have a:T.E.szL [t]=t.E:=by rw[T.F,T.P];omega
 have:=Qo (t.E+1) [t] (120:Int) (some (D k 0)) 1 w (by rw[a];omega) (by omega) (by omega) h;rw[a,show min (t.E:Int) (120+1)=t.E from by omega] at this;exact this
end Go.Proofs.YtohdnhlfpldbmaaGreat
namespace Go.Proofs
open Go.Shelf
def Tryz.lays189_ren : Go.Shelf.Ren := ⟨fun | 189 => 38 | 125 => 64 | 257 => 63 | 128 => 91 | 129 => 92 | 294 => 82 | 295 => 83 | 296 => 84 | 297 => 85 | 298 => 86 | 299 => 87 | 216 => 88 | 300 => 89 | 301 => 90 | 328 => 118 | 329 => 119 | 330 => 120 | 331 => 121 | 332 => 122 | 215 => 123 | 343 => 152 | n => n, fun | 28 => 22 | 3 => 3 | 46 => 115 | 0 => 0 | 51 => 149 | 53 => 151 | 4 => 4 | 183 => 141 | 182 => 140 | 131 => 146 | 5 => 5 | 9 => 9 | 218 => 170 | 222 => 174 | 228 => 201 | 229 => 202 | n => n, fun | n => n⟩
theorem Tryz.lays189 : Go.Proofs.Lays.n189 Tryz.prog Tryz.lays189_ren := {
  mixed := by kernel_rfl
  f125 := Tryz.func64.trans (congrArg some (by kernel_rfl))
  f128 := Tryz.func91.trans (congrArg some (by kernel_rfl))
  f129 := Tryz.func92.trans (congrArg some (by kernel_rfl))
  f189 := Tryz.func38.trans (congrArg some (by kernel_rfl))
  f215 := Tryz.func123.trans (congrArg some (by kernel_rfl))
  f216 := Tryz.func88.trans (congrArg some (by kernel_rfl))
  f257 := Tryz.func63.trans (congrArg some (by kernel_rfl))
  f294 := Tryz.func82.trans (congrArg some (by kernel_rfl))
  f295 := Tryz.func83.trans (congrArg some (by kernel_rfl))
  f296 := Tryz.func84.trans (congrArg some (by kernel_rfl))
  f297 := Tryz.func85.trans (congrArg some (by kernel_rfl))
  f298 := Tryz.func86.trans (congrArg some (by kernel_rfl))
  f299 := Tryz.func87.trans (congrArg some (by kernel_rfl))
  f300 := Tryz.func89.trans (congrArg some (by kernel_rfl))
  f301 := Tryz.func90.trans (congrArg some (by kernel_rfl))
  f328 := Tryz.func118.trans (congrArg some (by kernel_rfl))
  f329 := Tryz.func119.trans (congrArg some (by kernel_rfl))
  f330 := Tryz.func120.trans (congrArg some (by kernel_rfl))
  f331 := Tryz.func121.trans (congrArg some (by kernel_rfl))
  f332 := Tryz.func122.trans (congrArg some (by kernel_rfl))
  f343 := Tryz.func152.trans (congrArg some (by kernel_rfl))
  t0 := Tryz.underlying0
  a0 := Tryz.isAgg0
  z0 := Tryz.sizeOf0
  v0 := Tryz.zeroValue0
  t3 := Tryz.underlying3
  a3 := Tryz.isAgg3
  z3 := Tryz.sizeOf3
  v3 := Tryz.zeroValue3
  t4 := Tryz.underlying4
  a4 := Tryz.isAgg4
  z4 := Tryz.sizeOf4
  v4 := Tryz.zeroValue4
  t5 := Tryz.underlying5
  a5 := Tryz.isAgg5
  z5 := Tryz.sizeOf5
  v5 := Tryz.zeroValue5
  t9 := Tryz.underlying9
  a9 := Tryz.isAgg9
  z9 := Tryz.sizeOf9
  v9 := Tryz.zeroValue9
  t28 := Tryz.underlying22
  a28 := Tryz.isAgg22
  z28 := Tryz.sizeOf22
  v28 := Tryz.zeroValue22
  t46 := Tryz.underlying115
  a46 := Tryz.isAgg115
  z46 := Tryz.sizeOf115
  v46 := Tryz.zeroValue115
  t51 := Tryz.underlying149
  a51 := Tryz.isAgg149
  z51 := Tryz.sizeOf149
  v51 := Tryz.zeroValue149
  t53 := Tryz.underlying151
  a53 := Tryz.isAgg151
  z53 := Tryz.sizeOf151
  v53 := Tryz.zeroValue151
  t131 := Tryz.underlying146
  a131 := Tryz.isAgg146
  z131 := Tryz.sizeOf146
  v131 := Tryz.zeroValue146
  t182 := Tryz.underlying140
  a182 := Tryz.isAgg140
  z182 := Tryz.sizeOf140
  v182 := Tryz.zeroValue140
  t183 := Tryz.underlying141
  a183 := Tryz.isAgg141
  z183 := Tryz.sizeOf141
  v183 := Tryz.zeroValue141
  t218 := Tryz.underlying170
  a218 := Tryz.isAgg170
  z218 := Tryz.sizeOf170
  v218 := Tryz.zeroValue170
  t222 := Tryz.underlying174
  a222 := Tryz.isAgg174
  z222 := Tryz.sizeOf174
  v222 := Tryz.zeroValue174
  t228 := Tryz.underlying201
  a228 := Tryz.isAgg201
  z228 := Tryz.sizeOf201
  v228 := Tryz.zeroValue201
  t229 := Tryz.underlying202
  a229 := Tryz.isAgg202
  z229 := Tryz.sizeOf202
  v229 := Tryz.zeroValue202 }
open Go.Sort Go.RowKit in
theorem Tryz.slices_Sort_int (blk off cap : Nat) (zs : List Int) (w : World) (hH : Holds (Value.int .i64) w blk off zs.toArray) (hblk : blk < w.heap.size) (hsz : zs.length < 4611686018427387904) :
    Calls Tryz.prog 38 #[.slice (some ⟨blk, off, none⟩) zs.length cap] w fun e w' =>
      e = .returned (.tuple #[]) ∧ ∃ n os, w' = grow (putRow (Value.int .i64) (Sort.ahead w n) blk off (zs.mergeSort fun x y => decide (x ≤ y)).toArray) os := Any.slices_Sort_int Tryz.lays189 blk off cap zs w hH hblk hsz
def Tryz.laysNm220_ren : Go.Shelf.Ren := ⟨fun | 20 => 39 | n => n, fun | 22 => 22 | 3 => 3 | 4 => 4 | 0 => 0 | n => n, fun | n => n⟩
theorem Tryz.laysNm220 : Go.Proofs.Lays2.n20 Tryz.prog Tryz.laysNm220_ren := {
  mixed := by kernel_rfl
  f20 := Tryz.func39.trans (congrArg some (by kernel_rfl))
  t0 := Tryz.underlying0
  a0 := Tryz.isAgg0
  z0 := Tryz.sizeOf0
  v0 := Tryz.zeroValue0
  t3 := Tryz.underlying3
  a3 := Tryz.isAgg3
  z3 := Tryz.sizeOf3
  v3 := Tryz.zeroValue3
  t4 := Tryz.underlying4
  a4 := Tryz.isAgg4
  z4 := Tryz.sizeOf4
  v4 := Tryz.zeroValue4
  t22 := Tryz.underlying22
  a22 := Tryz.isAgg22
  z22 := Tryz.sizeOf22
  v22 := Tryz.zeroValue22
  i3 := by kernel_rfl }
open Go.RowKit Go.Lib Go.Sort in
theorem Tryz.slices_Compact_int (blk off cap : Nat) (zs : List Int) (w : World) (hH : Holds (Value.int .i64) w blk off zs.toArray) (hsz : zs.length ≤ 9223372036854775807) (hcap : zs.length ≤ cap) :
    Calls Tryz.prog 39 #[.slice (some ⟨blk, off, none⟩) zs.length cap] w fun e w' => e = .returned (.slice (some ⟨blk, off, none⟩) (Lib.compact zs).length cap) ∧ ∃ q, w' = putRow (Value.int .i64) (Sort.ahead w q) blk off (Lib.compact zs ++ List.replicate (zs.length - (Lib.compact zs).length) 0).toArray := Any.slices_Compact_int Tryz.laysNm220 blk off cap zs w hH hsz hcap
open Go.RowKit Go.Lib Go.Sort in
theorem Tryz.slices_Compact_int_empty (a : Option Addr) (cap : Nat) (w : World) :
    Calls Tryz.prog 39 #[.slice a 0 cap] w fun e w' => e = .returned (.slice a 0 cap) ∧ w' = w := Any.slices_Compact_int_empty Tryz.laysNm220 a cap w
open Go.RowKit Go.Sort in
theorem Tryz.slices_Sort_int_none (p : Option Addr) (cap : Nat) (w : World) :
    Calls Tryz.prog 38 #[.slice p 0 cap] w fun e w' => e = .returned (.tuple #[]) ∧ w' = w := Any.slices_Sort_int_none Tryz.lays189 p cap w
end Go.Proofs
set_option maxRecDepth 100000
set_option maxHeartbeats 32000000
set_option linter.all false
namespace Go.Proofs.YtohdnhlfpldbmaaGreat
open Go.RowKit Go.Maps
open Go.Proofs.Tryz renaming prog->Zf
attribute [local go_sem ↓] Go.wp_at_zero Go.wp_at_succ
variable {k n m i j n1 n2 n3 n4 n5 n6 n7 n8 n9:Nat}{w u v w1 w2 w3 w4 w5:N}{x y x1 x2 x3 x4 x5 x6 x7 x8 x9:Value}{r r1 r2:Zn}{p p1 p2:Zp}{z z1 z2 z3:Int}{a a1 a2 a3 a4:Zo}{t s t1 t2:T}{c d c1 c2:Zc}{g g1 g2:TypeId}{b b1 b2:Zs}{l l1:Zt}{U V U1 U2:Zu}{B B1:Bool}
def Lh{a:Type}[Inhabited a]{b:a->Zv}{d:Array a}(h:m≠k):(Sort.putRow b w k n d).heap[m]? =w.heap[m]?:=by
 simp[Sort.putRow,Sort.mapBlock,Gr,Ne.symm h]
def Ft(h:w.ownsRow k 3 1 (Zx n r.length m) r.length (r.map (Value.int .i64)))(i:0<r.length):Sort.Holds (Value.int .i64) w n 0 r.toArray/\n<w.heap.size/\r.length<=m:=by
 rcases h.2 with⟨_,l⟩|⟨o,p,b,c,q,a,e,s,t,f⟩
 .omega
 simp only[lH,qW,fG,and_true,true_and] at c;obtain⟨rfl,rfl⟩:=c;refine⟨λj g=>?_,?_,e⟩
 .have d:j<r.length:=by simpa using g
  have g:b[j]? =some (Y r[j]):=by
   have:(b.toList.take (r.length*1))[j]? =some (Y r[j]):=by rw[f];simp[d]
   rw[eR (by omega)] at this;simpa using this
  constructor
  .simp only[World.cell?,a,kK]
   simp[g,d]
  simp[World.frozen?,a]
 rcases xW n w.heap.size with h|h
 .exact h
 rw[uK h] at a;cases a
def CX(b:Nat)(c:Sort.Holds (Value.int .i64) w k 0 r.toArray)(d:k<w.heap.size)(i:r.length<=2000):
 Calls Zf 38 #[Zx k r.length b] w λe a=>e=.returned (.tuple #[])/\xY k nZ w a/\Sort.Holds (Value.int .i64) a k 0 (r.mergeSort λx y=>decide (x<=y)).toArray:=by
 refine(Tryz.slices_Sort_int k 0 b r w c d (by omega)).mono ?_;rintro e a ⟨rfl,n,j,rfl⟩;refine⟨rfl,⟨rfl,rfl,rfl,by simp,λf f g _=>?_,λ_ h=>h.elim⟩,?_⟩
 .rw[Sort.heap_grow_old _ _ (by simpa using f),Lh g];rfl
 refine Sort.holds_grow _ _ _ _ _ _ (by simpa using d) (Sort.holds_putRow _ _ _ _ r.toArray _ c (by simp))
def Cl(a:Zn):(Lib.compact a).length<=a.length:=by
 unfold Lib.compact Lib.compactUpTo;rw[dY];exact kN (Bj _ _) (by simp)
def Vc(b:Sort.Holds (Value.int .i64) w k 0 r.toArray)(c:r.length<=n)(g:r.length<=2000):
 Calls Zf 39 #[Zx k r.length n] w λe a=>e=.returned (Zx k (Lib.compact r).length n)/\xY k nZ w a/\jV a (Lib.compact r) (some (D k 0)):=by
 refine(Tryz.slices_Compact_int k 0 n r w b (by omega) c).mono ?_;rintro e a ⟨rfl,q,rfl⟩;have j:=Cl r;refine⟨rfl,⟨rfl,rfl,rfl,by simp,λd d d _=>?_,λ_ h=>h.elim⟩,jE ⟨k,0,rfl,λi f=>?_⟩⟩
 .rw[Lh d];rfl
 have d:=Sort.cell?_putRow (Value.int .i64) (Sort.ahead w q) k 0 r.toArray (Lib.compact r++List.replicate (r.length - (Lib.compact r).length) 0).toArray b (by simp;omega) i (by simp;omega);rw[d];congr 1;simp[mY f,List.getD]
theorem PH(a:Zy)(w:N):(callFunc 48 a).run Zf w=.ok (.enter 48 a) w:=by kernel_rfl
def Yb(c:Nat)(f:k<n)(d:T.E.szL l<=1000)(g:mD k n uG w)(h:jT (λe=>e<n/\e≠k) w l a)(i:nC k n w []):
 Calls Zf 47 #[.func (.func 48) #[] #[Zr k],.slice a l.length c] w λj b=>
  j=.returned (.bool (qP.lookL tM [] l).2)/\nC k n b (qP.lookL tM [] l).1/\xY k uG w b:=
 Xz tM 48 #[Zr k] k n uG (nC k n) PH List.length 1000 (λs t=>by
  show(if t.v=0 then s else s++[t.v]).length<=_
  split<;>simp) (λ_ _ _ _ m=>m.below (jG _ _))
  (λb s m o p q r t=>jEw k n b s m o p f r.hB q t) (T.E.szL l+1) l a c w [] (by omega) d (by simpa using d) g h i
def gD(t:T):Zn:=(qP.lookL tM [] [t]).1
def xR(t:T):Zn:=Lib.compact ((gD t).mergeSort λx y=>decide (x<=y))
def lR(a:Zn)(t:T):Zn:=if kI a [t]=0 then xR t else []
def EP(a:Zn)(c:Int)(e:Ending)(d:N):Prop:=
 ∃b f,e=.returned (.tuple #[.slice b a.length f,Y c])/\jV d a b
def ES(b:Zn)(d:Int)(e:Ending)(f:N):Prop:=
 ∃a c,e=.returned (.tuple #[.slice a b.length c,Y d])/\jV f b a/\((a=none/\c=0)\/∃g,a=some (D g 0))
def Jo(t:T):(gD t).length<=t.E:=by
 have:=(Pp (a:=tM) (b:=List.length) (λs t=>by
  show(if t.v=0 then s else s++[t.v]).length<=_
  split<;>simp) _).2 [t] [] (jF _)
 rw[T.F,T.P] at this;simpa[gD] using this
def Below.jv{F:Option Obj->Nat->Prop}(h:xY k F w u)(d:n<=k)(e:n<=w.heap.size)(b:∀a,F w.heap[k]? a->n<=a):Below n w u:=
 ⟨h.os,h.tape,h.output,h.size,λa c=>h.block a (by omega) (by omega) (λc=>by have:=b a c;omega)⟩
def Tf(z:Nat)(c:Nat)(b:jV w r a)(A:InL w t.e a1)(o:kI r [t]=0->t.E<=120):
 Calls Zf 25 #[.agg #[.slice a r.length z],.agg (Zj t a1 c)] w λe C=>
  ES (lR r t) (kI r [t]) e C/\Zb w C:=by
 have ab:∀(d:Fn)(first c:Zy)(w:N),(Instr.makeFunc d first c).run Zf w=.ok (.func d first c) w:=λ_ _ _ _=>rfl;have L:=X (λo1 o2 d=>qD d (qD o2 (qD o1 b)));have M:=X (λo1 o2 e=>sJ (n:=w.heap.size+1+1) (k:=c) e (by simp) trivial (jS o2 (jS o1 A)));have p:T.E.szL [t]=t.E:=by rw[T.F,T.P];omega
 have O:=X p;clear b p
 go_in
 go_wp2_with fail
 refine(Cj r a z [t] _ 1 _ (L _ _ _) (M _ _ _) (by simp)).mono ?_;rintro e b ⟨rfl,d⟩;have q:Zb w b:=(((jG _ _).alloc (by simp) _).alloc (by simp;omega) _).trans (d.mono (by simp;omega));have ac:w.heap.size+1<b.heap.size:=by have:=d.size;simp at this;omega
 have P:jK b (w.heap.size+1) (Y t.v) (Y t.f) (Zk a1 t.e c):=((jK.new _ (by simp)).alloc _).below d;clear d;by_cases d:kI r [t]=0
 .have ad:=o d
  have i:lR r t=xR t:=by rw[lR,jB d]
  have l:=X i;have E:=X d;rw[d];obtain⟨d0,d1,d2,_,_,_⟩:=P;have g:=lE (jI q A);have j:∀h f,jT (λk=>k<b.heap.size+2/\k≠b.heap.size) ((b.alloc (.cells #[Zd] h)).alloc (.cells (Zj t a1 c) f)) [t] (some (D (b.heap.size+1) 0)):=
   λh f=>sJ f (by simp) (by constructor<;>simp) (jS _ (kQ (λk h=>by omega) g))
  have f:∀o2,nC b.heap.size (b.heap.size+2) ((b.alloc (.cells #[Zd] 22)).alloc o2) []:=λo2=>
   nC.below ⟨Zd,bR b _,⟨rfl,jD ⟨rfl,rfl⟩⟩⟩ (jG _ _)
  have m:∀o2,mD b.heap.size (b.heap.size+2) uG ((b.alloc (.cells #[Zd] 22)).alloc o2):=λo2=>
   ⟨by simp;omega,by simp,λk h=>by
    rw[zL _ _ _ (by simp),Fp (bR b _)] at h;cases h⟩
  have x:=X j;have y:=X f;have h:=X m;clear g j f m d i
  go_wp2_with fail
  refine(Yb 1 (by omega) (by rw[O.out];omega) (h _) (x _ _) (y _)).mono ?_;rintro e m ⟨rfl,F,j⟩;have s:Zb w m:=((q.alloc (by omega) _).alloc (by simp;omega) _).trans (Below.jv j (by omega) (by simp;omega) (λk f=>by have:=(h _).jc k f;omega));have Q:=j.size;simp at Q;have ae:=Jo t;change nC b.heap.size (b.heap.size+2) m (gD t) at F;obtain⟨af,k,u⟩:=F;obtain⟨g,f,rfl⟩:=zF u;have G:m.cell? (D b.heap.size 0)=some (.slice g (gD t).length f):=by simp[World.cell?,k]
  have Hv:=X k;have v:=X u;clear j k u h x y;clear o;by_cases k:(gD t).length=0
  .have u:lR r t=[]:=by
    rw[l.out,xR,yM.1 k,Mv];rfl
   have R:=X u;have S:Hid ((g=none/\f=0)\/∃j,g=some (D j 0)):=by
    rcases v.2 with⟨h,_⟩|⟨j,c,x,h,_⟩
    .simp only[lH] at h;exact jD ⟨h.1,h.2.2⟩
    simp only[lH] at h;exact jE ⟨j,h.1⟩
   rw[k] at G;clear k u
   go_wp2_with fail
   refine(Tryz.slices_Sort_int_none g f _).mono ?_;rintro e H ⟨rfl,rfl⟩
   go_wp2_with fail
   refine(Tryz.slices_Compact_int_empty g f _).mono ?_;rintro e U ⟨rfl,rfl⟩
   go_wp2_with fail
   go_ret2
   exact⟨by rw[R.out,E.out];exact⟨g,f,rfl,jD rfl,S⟩,s⟩
  have I:0<(gD t).length:=by omega
  obtain⟨j,ag,J,ah,V⟩:=v.form I;simp only[lH,true_and] at J;obtain⟨rfl,rfl⟩:=J;obtain⟨h,_,W⟩:=Ft v I;have Z:=X h;have K:((gD t).mergeSort λx y=>decide (x<=y)).length=(gD t).length:=sK _;have u:=X K;clear h K k
  go_wp2_with fail
  refine(CX f Z V (by omega)).mono ?_;rintro e H ⟨rfl,h,k⟩;have ai:=h.size;have aj:H.cell? (D b.heap.size 0)=some (Zx j (gD t).length f):=by
   rw[kH (w:=m) (a:=(D b.heap.size 0)) (h.block b.heap.size (by omega) (by omega) (λj=>j))];exact G
  have j:=X (s.trans (Below.jd (n:=w.heap.size) h (by omega) (by have:=s.size;omega)));have aa:=X k;clear h k
  go_wp2_with fail
  have h:=Vc aa (u.out▸W) (by rw[u.out];omega);rw[u.out] at h;refine h.mono ?_;rintro e U ⟨rfl,k,K⟩;clear h;have h:lR r t=Lib.compact ((gD t).mergeSort λx y=>decide (x<=y)):=l;have x:=X h;have y:=X (j.trans (Below.jd (n:=w.heap.size) k (by omega) (by have:=j.size;omega)));have HI:=X K;clear h k K
  go_wp2_with fail
  go_ret2
  exact⟨by rw[x.out,E.out];exact⟨_,f,rfl,HI,jE ⟨_,rfl⟩⟩,y⟩
 have p:(kI r [t] !=0)=true:=by simpa using d
 have i:lR r t=[]:=by rw[lR,jC d]
 have l:=X i;clear d i o
 go_wp2_with fail
 go_ret2
 exact⟨by rw[l.out];exact⟨none,0,rfl,jD rfl,jD ⟨rfl,rfl⟩⟩,q⟩
def IV(b:Nat)(c:Nat)(e:jV w r a)(f:InL w t.e a1)(g:kI r [t]=0->t.E<=120):
 Calls Zf 25 #[.agg #[.slice a r.length b],.agg (Zj t a1 c)] w λh d=>
  EP (lR r t) (kI r [t]) h d/\Zb w d:=
 (Tf b c e f g).mono λ_ _ ⟨⟨i,j,k,l,_⟩,m⟩=>⟨⟨i,j,k,l⟩,m⟩
def uH(w:N):Calls Zf 10 #[] w λe a=>∃n,e=.returned (.agg #[Zx n 2 2])/\jV a [0,1] (some (D n 0))/\Zb w a:=by
 go_in
 go_wp2_with fail
 exact qS (by simp[results,Tryz.results10,go_sem]) rfl ⟨w.heap.size+1,rfl,jE ⟨_,_,rfl,λi b=>by
  have:i=0\/i=1:=by simp at b;omega
  rcases this with rfl|rfl
  .exact jJ 0 (by simp)
  exact jJ 1 (by simp)⟩,kF _ _ _⟩
def Co(n:Int)(a:Zo)(b c:Nat)(w:N):Calls Zf 8 #[Y n,.slice a b c] w λe d=>e=.returned (.agg #[Y 0,Y n,.slice a b c])/\Zb w d:=by
 go_in
 go_wp2_with fail
 exact qS (by simp[results,Tryz.results8,go_sem]) rfl ⟨rfl,jG _ _⟩
def Gm(n:Int)(w:N):Calls Zf 9 #[Y n] w λe a=>e=.returned (.agg #[Y n,Y 0,Zd])/\Zb w a:=by
 go_in
 go_wp2_with fail
 exact qS (by simp[results,Tryz.results9,go_sem]) rfl ⟨rfl,jG _ _⟩
def Ie(e:TypeId)(b:k=w.heap.size)(c:p w.heap.size)(d:t=⟨z,z1,[]⟩):
 jT p (w.alloc (.cells #[Y z,Y z1,Zd] e)) [t] (some (D k 0)):=by
 subst d;exact sJ (t:=⟨z,z1,[]⟩) (a:=none) (k:=0) e b c dU
def jQ(a:Zn):T->Prop
 |⟨v,f,b⟩=>xU a v f b.length=0/\okL b
 where
 okL:Zt->Prop
  |[]=>True
  |t::c=>jQ a t/\okL c
def vW:jQ r t↔xU r t.v t.f t.e.length=0/\jQ.okL r t.e:=by cases t;exact aL
def pC:jQ.okL r (t::l)↔jQ r t/\jQ.okL r l:=aL
def nH:jQ.okL r l↔∀t,t∈l->jQ r t:=by
 induction l with
 |nil=>simp[jQ.okL]
 |cons t l a=>rw[pC,a];simp
def look_ok:∀(n:Nat),(∀(t:T)(s:Int),t.E<=n->jQ r t->qP (bU r) s t=(0,true))/\(∀(a:Zt)(s:Int),T.E.szL a<=n->jQ.okL r a->∃b,qP.lookL (bU r) s a=(b,true)/\(a≠[]->b=0)):=by
 intro n;induction n with
 |zero=>
  refine⟨λt s c=>by have:=t.I;omega,λa s c _=>?_⟩
  cases a with
  |nil=>exact⟨s,rfl,λh=>jN rfl h⟩
  |cons t a=>have:=t.I;rw[T.F] at c;omega
 |succ n f=>
  have e:∀(t:T)(s:Int),t.E<=n+1->jQ r t->qP (bU r) s t=(0,true):=λt s c d=>by
   rw[T.M] at c;obtain⟨g,h⟩:=vW.1 d;obtain⟨b,i,_⟩:=f.2 t.e s (by omega) h;rw[Fw,i];simp[bU,g]
  refine⟨e,λa=>?_⟩;induction a with
  |nil=>intro s _ _;exact⟨s,rfl,λh=>jN rfl h⟩
  |cons t a g=>
   intro s c d;rw[T.F] at c;obtain⟨i,j⟩:=pC.1 d;rw[oQ,e t s (by omega) i];obtain⟨b,c,d⟩:=g 0 (by omega) j;refine⟨b,by simpa using c,λ_=>?_⟩
   cases a with
   |nil=>rw[Ah] at c;simp at c;exact c.symm
   |cons k l=>exact d (by simp)
def VC:∀(n:Nat),(∀(t:T)(s:Int),t.E<=n->((qP (bU r) s t).2=true->jQ r t)/\((qP (bU r) s t).2=false->(qP (bU r) s t).1≠0))/\
 (∀(a:Zt)(s:Int),T.E.szL a<=n->((qP.lookL (bU r) s a).2=true->jQ.okL r a)/\((qP.lookL (bU r) s a).2=false->(qP.lookL (bU r) s a).1≠0)):=by
 intro n;induction n with
 |zero=>
  refine⟨λt s b=>by have:=t.I;omega,λa s b=>?_⟩
  cases a with
  |nil=>exact⟨λ_=>trivial,λh=>by cases h⟩
  |cons t a=>have:=t.I;rw[T.F] at b;omega
 |succ n e=>
  have d:∀(t:T)(s:Int),t.E<=n+1->((qP (bU r) s t).2=true->jQ r t)/\((qP (bU r) s t).2=false->(qP (bU r) s t).1≠0):=λt s c=>by
   rw[T.M] at c;obtain⟨f,g⟩:=e.2 t.e s (by omega);rw[Fw];by_cases h:(qP.lookL (bU r) s t.e).2=false
   .rw[jB h]
    exact⟨λb=>(by cases b),λ_=>g h⟩
   rw[jC h];have i:=f (by simpa using h);refine⟨λb=>vW.2 ⟨by simpa[bU] using b,i⟩,λb=>by simpa[bU] using b⟩
  refine⟨d,λa=>?_⟩;induction a with
  |nil=>intro s _;exact⟨λ_=>trivial,λh=>by cases h⟩
  |cons t a f=>
   intro s c;rw[T.F] at c;obtain⟨c,g⟩:=d t s (by omega);obtain⟨i,j⟩:=f (qP (bU r) s t).1 (by omega);rw[oQ];by_cases h:(qP (bU r) s t).2=false
   .rw[jB h]
    exact⟨λb=>(by cases b),λ_=>g h⟩
   rw[jC h];exact⟨λb=>pC.2 ⟨c (by simpa using h),i b⟩,j⟩
def mS:kP r t=0↔t.E<=120/\jQ r t:=by
 rw[kP];by_cases h:120<t.E
 .rw[jB h];constructor
  .intro a;cases a
  intro a;omega
 rw[jC h];constructor
 .intro a
  refine⟨by omega,?_⟩;obtain⟨c,d⟩:=(VC _).2 [t] 0 (jF _);rcases Dz (qP.lookL (bU r) 0 [t]).2 with b|b
  .exact(pC.1 (c b)).1
  exact jN a (d b)
 intro a;obtain⟨g,e,f⟩:=(look_ok _).2 [t] 0 (jF _) (pC.2 ⟨a.2,trivial⟩);rw[e,f (by simp)]
def rR:kI r l=0↔qT r=0/\∀t,t∈l->t.E<=120/\jQ r t:=by
 have b:bN r l=0↔∀t,t∈l->t.E<=120/\jQ r t:=by
  induction l with
  |nil=>simp[bN]
  |cons t l c=>
   rw[bN];by_cases h:kP r t=0
   .rw[jB h,c];simp[mS.1 h]
   rw[jC h];constructor
   .intro a;exact jN a h
   intro a;exact jN (mS.2 (a t (by simp))) h
 rw[kI];by_cases a:qT r=0
 .rw[jB a,b];simp[a]
 rw[jC a];simp[a]
def eO(p:Zp)(w:N):Zt->Zu->Prop
 |[],a=>a=[]
 |t::d,a=>∃b e c,a=Y t.v::Y t.f:: .slice b t.e.length e::c/\jT p w t.e b/\eO p w d c
def Sc:∀{a b:Zu},eO p w l a->eO p w l1 b->eO p w (l++l1) (a++b):=by
 induction l with
 |nil=>intro a b c d;rw[show a=[] from c];exact d
 |cons t l e=>
  intro a b c d;obtain⟨f,g,h,rfl,i,j⟩:=c;exact⟨f,g,h++b,rfl,i,e j d⟩
def Ij(d:∀k,p k->k<w.heap.size->p1 k/\u.heap[k]? =w.heap[k]?):∀{a:Zu},eO p w l a->eO p1 u l a:=by
 induction l with
 |nil=>intro a h;exact h
 |cons t l g=>
  intro a h;obtain⟨e,i,j,rfl,m,h⟩:=h;exact⟨e,i,j,rfl,nM (λb o v f c=>⟨(d b f (kA c)).1,by rw[kH (w:=w) (a:=(D b o)) (d b f (kA c)).2];exact c⟩) _ _ _ (jF _) m,g h⟩
def Sd(f:p k):∀{a:Nat}{b:Zu},eO p w l b->(∀j u,b[j]? =some u->w.cell? (D k (a+j))=some u)->jT p w l (some (D k a)):=by
 induction l with
 |nil=>intro a b _ _;exact dU
 |cons t l g=>
  intro a b h c;obtain⟨d,e,n,rfl,i,h⟩:=h;refine sI.2 ⟨k,a,Zk d t.e e,rfl,f,c 0 _ rfl,c 1 _ rfl,c 2 _ rfl,gK.2 ⟨d,e,rfl,i⟩,g h λj u m=>?_⟩;rw[show a+3+j=a+(j+3) from by omega];exact c (j+3) u (by simpa using m)
def ZU:∀{a b:Zn},a.Pairwise (·<·)->b.Pairwise (·<·)->(∀x,x∈a↔x∈b)->a=b:=by
 intro a;induction a with
 |nil=>
  intro b _ _ h
  cases b with
  |nil=>rfl
  |cons y c=>have:=(h y).2 vX;cases this
 |cons x j g=>
  intro b c d h
  cases b with
  |nil=>have:=(h x).1 vX;cases this
  |cons y k=>
   have c:=Ep.1 c;have d:=Ep.1 d;have i:x=y:=by
    rcases qO.1 ((h x).1 vX) with e|e
    .exact e
    rcases qO.1 ((h y).2 vX) with f|f
    .exact f.symm
    have:=c.1 y f;have:=d.1 x e;omega
   subst i;rw[g c.2 d.2 (λz=>?_)];constructor
   .intro e
    rcases qO.1 ((h z).1 (vG _ e)) with f|f
    .have:=c.1 z e;omega
    exact f
   intro e;rcases qO.1 ((h z).2 (vG _ e)) with f|f
   .have:=d.1 z e;omega
   exact f
def aF(x:Int)(a:Zn):Nat->Nat
 |0=>0
 |n+1=>if a.getD n 0>x then aF x a n else n+1
def ZS(a:Zn)(x:Int):Zn:=a.take (aF x a a.length)++x::a.drop (aF x a a.length)
def jFq(l:Zn):Zn:=l.foldl ZS []
def Jw(h:r.Pairwise (·<=·)):(Lib.compact r).Pairwise (·<·)/\∀x,x∈Lib.compact r↔x∈r:=by
 have c:∀j(b:j<r.length),r.toArray[j]! =r[j]:=λj b=>by
  rw[getElem!_pos _ _ (by simpa using b)];simp
 have g:∀m,m<=r.length->(Lib.compactUpTo r.toArray m).Pairwise (·<·)/\∀x,x∈Lib.compactUpTo r.toArray m↔x∈r.take m:=by
  intro m;induction m with
  |zero=>intro _;exact⟨by rw[Lib.compactUpTo];simp,λx=>by rw[Lib.compactUpTo];simp⟩
  |succ m i=>
   intro q;obtain⟨f,d⟩:=i (by omega);have k:r.take (m+1)=r.take m++[r[m]]:=(by rw[vZ,jO (by omega)];rfl);rw[Lib.compactUpTo_succ,k];have l:∀j(b:j<m),r[j]<=r[m - 1]:=λj b=>by
    rcases xW j (m - 1) with a|a
    .exact Er.1 h j (m - 1) (by omega) (by omega) a
    have:j=m - 1:=by omega
    subst this;exact mE _
   by_cases a:m=0\/r.toArray[m]! ≠r.toArray[m - 1]!
   .rw[jB (by simpa[Lib.keeps] using a),c m (by omega)]
    refine⟨List.pairwise_append.2 ⟨f,Mw _ _,λn o p e=>?_⟩,λx=>by rw[vD,vD,d]⟩;have e:p=r[m]:=(by simpa using e);subst e;obtain⟨j,b,rfl⟩:=Sg.1 ((d n).1 o);rw[yD] at b;rw[List.getElem_take];rcases a with a|a
    .omega
    rw[c m (by omega),c (m - 1) (by omega)] at a;have b:=l j (by omega);have e:=Er.1 h (m - 1) m (by omega) (by omega) (by omega);omega
   have j:0<m:=(by omega);have b:r[m]=r[m - 1]:=by
    rw[<-c m (by omega),<-c (m - 1) (by omega)];rcases Classical.em (r.toArray[m]! =r.toArray[m - 1]!) with e|e
    .exact e
    exact jN (jE e) a
   rw[jC (by simpa[Lib.keeps] using a),zU];refine⟨f,λx=>?_⟩;rw[d,vD,vY];constructor
   .exact jD
   rintro (h|rfl)
   .exact h
   rw[b];refine Sg.2 ⟨m - 1,by rw[yD];omega,by rw[List.getElem_take]⟩
 obtain⟨a,b⟩:=g r.length (jF _);exact⟨a,λx=>by rw[Lib.compact,b,qU]⟩
def Gi(a:Zn):(a.mergeSort λx y=>decide (x<=y)).Pairwise (·<=·)/\∀x,x∈(a.mergeSort λx y=>decide (x<=y))↔x∈a:=by
 refine⟨(Si (le:=λx y:Int=>decide (x<=y)) (λb c d d d=>by simp only[decide_eq_true_eq] at*;omega) (λb c=>by simp only[Gx,decide_eq_true_eq];omega) a).imp (λh=>by simpa using h),λx=>En⟩
def tB(a:Zt):Zn:=(a.filter (λp=>p.v !=0)).map T.v
def Yv(a b:Zt):tB (a++b)=tB a++tB b:=by rw[tB,Mp,nP];rfl
def VD:∀(n:Nat),(∀(t:T)(a:Zn),t.E<=n->qP tM a t=(a++tB (qV t),true))/\(∀(b:Zt)(a:Zn),T.E.szL b<=n->qP.lookL tM a b=(a++tB (qV.partsL b),true)):=by
 intro n;induction n with
 |zero=>
  refine⟨λt a h=>by have:=t.I;omega,λb a h=>?_⟩
  cases b with
  |nil=>rw[Ah];show(a,true)=(a++[],true);simp
  |cons t b=>have:=t.I;rw[T.F] at h;omega
 |succ n e=>
  have d:∀(t:T)(a:Zn),t.E<=n+1->qP tM a t=(a++tB (qV t),true):=λt a h=>by
   rw[T.M] at h;rw[Fw,e.2 t.e a (by omega),jC (by simp),lN,Yv];show((if t.v=0 then a++tB (qV.partsL t.e) else a++tB (qV.partsL t.e)++[t.v]),true)=_;by_cases c:t.v=0
   .rw[jB c]
    simp[tB,c]
   rw[jC c];simp[tB,c]
  refine⟨d,λb=>?_⟩;induction b with
  |nil=>intro a _;rw[Ah];show(a,true)=(a++[],true);simp
  |cons t b c=>
   intro a h;rw[T.F] at h;rw[oQ,d t a (by omega),jC (by simp)];rw[c _ (by omega),oU,Yv,dH]
def YU:∀(n:Nat),(∀t:T,t.E<=n->jQ r t->∀p,p∈qV t->xU r p.v p.f p.e.length=0)/\(∀b:Zt,T.E.szL b<=n->jQ.okL r b->∀p,p∈qV.partsL b->xU r p.v p.f p.e.length=0):=by
 intro n;induction n with
 |zero=>
  refine⟨λt h=>by have:=t.I;omega,λb h _ p a=>?_⟩
  cases b with
  |nil=>cases a
  |cons t b=>have:=t.I;rw[T.F] at h;omega
 |succ n e=>
  have d:∀t:T,t.E<=n+1->jQ r t->∀p,p∈qV t->xU r p.v p.f p.e.length=0:=λt h c p a=>by
   rw[T.M] at h;obtain⟨f,g⟩:=vW.1 c;rw[lN,vD,vY] at a;rcases a with a|rfl
   .exact e.2 t.e (by omega) g p a
   exact f
  refine⟨d,λb=>?_⟩;induction b with
  |nil=>intro _ _ p a;cases a
  |cons t b f=>
   intro h c p a;rw[T.F] at h;obtain⟨g,h⟩:=pC.1 c;rw[oU,vD] at a;rcases a with a|a
   .exact d t (by omega) g p a
   exact f (by omega) h p a
def Yo(a:k<r.length):z∈r.take (k+1)↔z∈r.take k\/r.getD k 0=z:=by
 have e:r.take (k+1)=r.take k++[r[k]]:=by rw[vZ,jO a];rfl
 rw[e,vD,vY,dI,jO a];exact or_congr aL eq_comm
def Gc{v:Zv}(h:w.ownsRow k 3 1 v r.length (r.map (Value.int .i64))):∃b a,v=.slice b r.length a/\jV w r b/\r.length<=a:=by
 rcases h.2 with⟨rfl,c⟩|⟨g,a,d,rfl,n,e,f,o,p,j⟩
 .exact⟨none,0,by rw[c],jD (yM.1 c),by omega⟩
 refine⟨some (D g 0),a,rfl,jE ⟨g,0,rfl,λi l=>?_⟩,f⟩;have m:d[i]? =some (Y (r.getD i 0)):=by
  have:(d.toList.take (r.length*1))[i]? =some (Y (r.getD i 0)):=by rw[j];simp[List.getD,l]
  rw[eR (by omega)] at this;simpa using this
 simp only[World.cell?,e,kK];simp[m]
def Fc(w:N)(x:Zv)(a:Zn):Prop:=
 (x=Zd/\a=[])\/∃b c d,x=Zz b c a.length d/\∀j,j<a.length->w.cell? (D b (c+j))=some (Y (a.getD j 0))
abbrev qR(b:Nat)(w:N)(v:Zv)(a:Zn):Prop:=w.ownsRow b 3 1 v a.length (a.map (Value.int .i64))
def jAm{v x:Zv}(d:TypeId)(e:qR k w v r)(o:Fc w x r1)(F:r.length+r1.length<=2000)(p:k<=w.heap.size):
 ∃a b,(Builtin.append_ #[22,22] d #[v,x]).run Zf w=.ok a b/\qR k b a (r++r1)/\w.grownBy b v.ownBlock/\(a.ownBlock=v.ownBlock\/a.ownBlock=some w.heap.size):=by
 obtain⟨l,m,n⟩:=bQ.1 Tryz.info3;simp only[bG] at n;obtain⟨q,s,t⟩:=n;rcases o with⟨rfl,rfl⟩|⟨f,g,u,rfl,y⟩
 .rw[zU]
  exact⟨v,w,run_append_owned_none w k 22 d 3 l 1 Tryz.underlying22 m _ _ _ e,e,⟨rfl,rfl,rfl,jF _,λ_ _ _=>rfl⟩,jD rfl⟩
 obtain⟨a,b,z,A,B,_,C⟩:=run_append_own_at w k 22 d 3 l (Y 0) 1 8 Tryz.underlying22 m q s t rfl (by decide) v r.length (r.map (Value.int .i64)) e (D f g) r1.length u (r1.map (Value.int .i64)) (by simp) (λj E c=>by
  have h:j<r1.length:=by
   rcases xW j r1.length with i|i
   .exact i
   rw[yZ (by simpa using i)] at c;cases c
  have i:((D f g):Addr).add j=(D f (g+j)):=by simp[Addr.add]
  rw[i,y j h];rw[bZ,jO h] at c;rw[dI,jO h];exact c) (λE c=>by
  obtain⟨j,_,rfl⟩:=bP.1 c
  rfl) (by unfold maxLen;omega) (by omega) p
 have c:qR k b a (r++r1):=by
  show b.ownsRow k 3 1 a (r++r1).length ((r++r1).map (Value.int .i64));rw[qB,nP];exact A
 exact⟨a,b,z,c,B,C⟩
def jFb{o:Oper}{c:Act}{K:Act->N->Prop}{Q:Exit->Act->N->Prop}(s x:Operand)(e:o.op=.call {callee:=.builtin .append,args:=#[s,x],argTypes:=#[22,22]}){v:Zv}(f:c.eval s=v)(g:qR k w v r){d:Zv}(h:c.eval x=d)(i:Fc w d r1)(j:r.length+r1.length<=2000)(l:k<=w.heap.size)
 (m:∀a b,qR k b a (r++r1)->w.grownBy b v.ownBlock->(a.ownBlock=v.ownBlock\/a.ownBlock=some w.heap.size)->K (c.put o.dst a) b):o.wp Zf c w K Q:=by
 obtain⟨a,b,n,p,q,t⟩:=jAm o.type g i j l;unfold Oper.wp execOp;simp only[e,resolve,invoke,builtin,Sem.run_bind,Sem.run_pure,oH,List.map_toArray,yI,List.map_nil,f,h,n];exact m a b p q t
def DZ{d:Array Oper}{e:List Oper}{o:Oper}{c:Act}{Q:Exit->Act->N->Prop}(g:o.guard=none)(s x:Operand)(h:o.op=.call {callee:=.builtin .append,args:=#[s,x],argTypes:=#[22,22]}){v:Zv}(i:c.eval s=v)(j:qR k w v r){f:Zv}(l:c.eval x=f)(m:Fc w f r1)(n:r.length+r1.length<=2000)(p:k<=w.heap.size)
 (q:∀a b,qR k b a (r++r1)->w.grownBy b v.ownBlock->(a.ownBlock=v.ownBlock\/a.ownBlock=some w.heap.size)->wpList Zf d Q e (c.put o.dst a) b):wpList Zf d Q (o::e) c w:=
 wpList_plain g λ_ t=>jFb s x h i j l m n p λa b u y z=>t _ _ (q a b u y z)
def IP(p:Zp)(w:N)(l:Zn)(c:Zo):Prop:=l=[]\/∃b a,c=some (D b a)/\p b/\∀i,i<l.length->w.cell? (D b (a+i))=some (Y (l.getD i 0))
def yH(c:∀k,p k->k<w.heap.size->p1 k/\u.heap[k]? =w.heap[k]?)(h:IP p w r a):IP p1 u r a:=by
 rcases h with h|⟨b,d,rfl,e,f⟩
 .exact jD h
 by_cases g:r=[]
 .exact jD g
 have i:=kA (f 0 (Ek.2 g));exact jE ⟨b,d,rfl,(c b e i).1,λj l=>by rw[kH (w:=w) (a:=(D b (d+j))) (c b e i).2];exact f j l⟩
def qR.same{w':N}{v:Zv}(h:qR k w v r)(a:∀g,v.ownBlock=some g->w'.heap[g]? =w.heap[g]?):qR k w' v r:=vT h a
def qR.below{v:Zv}(h:qR k w v r)(a:Zb w u):qR k u v r:=vT h (λg b=>a.block g (kO h g b).2)
def qR.grown{v:Zv}{c:Option Nat}(h:qR k w v r)(d:w.grownBy u c)(e:v.ownBlock=none\/v.ownBlock≠c):qR k u v r:=vT h (λg a=>d.block g (kO h g a).2 (λf=>by
 rcases e with b|b
 .rw[b] at a;cases a
 exact b (a.trans f)))
def qR.new(a:n=w.heap.size)(b:k<=w.heap.size):qR k (w.alloc (.cells #[] 3)) (Zx n 0 0) []:=by
 subst a;exact World.ownsRow_lit w #[] 0 b (by decide) (by simp)
def jDg(h:w.cell? (D k 0)=some (Y z)):Fc w (Zx k 1 1) [z]:=
 jE ⟨k,0,1,rfl,λj a=>by
  obtain rfl:j=0:=by simpa using a
  exact h⟩
theorem Tryz.underlying26:Zf.underlying 26=some (.slice 22):=by kernel_rfl
def PW(q:Nat)(c:∀(t u:T)(e:Zo)(j:Nat)(f:Zo)(l:Nat)(w:N),t.E<=q->InL w t.e e->InL w u.e f->
 Calls Zf 96 #[.agg (Zj t e j),.agg (Zj u f l)] w λg m=>g=.returned (.bool (kS t u))/\Zb w m)
 (a b:Zt) (e:Zo) (j:Nat) (f:Zo) (l:Nat) (w:N) (Q:T.E.szL a<=q) (R:T.E.szL a<=1000) (r:InL w a e) (s:InL w b f):
 Calls Zf 128 #[.slice e a.length j,.slice f b.length l,.func (.func 96) #[] #[]] w λg m=>g=.returned (.bool (kS.sameL a b))/\Zb w m:=by
 have B:=X c;clear c;by_cases h:a.length=b.length
 .have C:((a.length:Int) !=b.length)=false:=by simp;omega
  have n:=X h;clear h
  go_in
  go_wp2
  go_loopw [17] (λi wr=>∃k:Nat,k<=a.length/\i=Y k/\Hid (kS.sameL (a.take k) (b.take k)=true)/\Zb w wr) (λi _=>a.length - (intOf i).toNat)
  case atStart=>exact⟨0,jY _,rfl,rfl,jW _ _⟩
  case round=>
   obtain⟨k,S,rfl,v,d⟩:=hrel;by_cases E:k<a.length
   .have F:k<b.length:=by have:=n.out;omega
    obtain⟨U,V,rfl⟩:=dV r (by omega);obtain⟨W,Z,rfl⟩:=dV s (by omega);obtain⟨x,c⟩:=Zg E;obtain⟨y,o⟩:=Zg F;obtain⟨G,H,_,I,k1,k2,z⟩:=dT (jI d r) c;obtain⟨J,K,_,L,m1,m2,A⟩:=dT (jI d s) o;have aa:=T.W (jU c);have p:=jA7 n c o;rw[v.out,rA] at p;have i:=X p;have ab:k<=1000:=(by have:=T.length_le a;omega);have ac:(k:Int)<a.length:=(by omega);have ad:(k:Int)<b.length:=(by omega);have ae:(0:Int)<=k:=(by omega);have af:=kA I;have ag:=kA L;have M:=X (λo1 o2=>B x y G H J K ((wr.alloc o1).alloc o2) (by omega) (jS o2 (jS o1 z)) (jS o2 (jS o1 A)));have O:=X d;have P:=d.size;clear c o p z A d
    go_wp2_with fail
    refine(M _ _).mono ?_;rintro g A ⟨rfl,c⟩;have p:=X (O.trans (((kF wr _ _).trans (c.mono (by simp;omega))).mono P));clear c;rcases Dz (kS x y) with c|c
    .have o:=i.1
     rw[c] at o;have z:=X o;rw[c];clear i o c
     go_wp2_with fail
     go_roundw
     case rel=>exact⟨k+1,by omega,by go_num,z,p⟩
     case measure=>simp[intOf];omega
    have o:=X (i.2 c);rw[c];clear i c;go_wp2;go_ret;rw[o.out];exact⟨rfl,p⟩
   have o:k=a.length:=(by omega);subst o;have c:kS.sameL a b=true:=by
    have i:=v.out;rw[qU,show a.length=b.length from n.out,qU] at i;exact i
   have i:=X c;clear c;go_wp2;go_ret;rw[i.out];exact⟨rfl,d⟩
 have c:=Ll h;have C:((a.length:Int) !=b.length)=true:=by simp;omega
 rw[c];clear c h
 go_in
 go_wp2;go_ret;exact⟨rfl,jW _ _⟩
def iP(f:Nat):∀(t u:T)(c:Zo)(g:Nat)(d:Zo)(h:Nat)(w:N),t.E<=f->t.E<=1000->InL w t.e c->InL w u.e d->
 Calls Zf 96 #[.agg (Zj t c g),.agg (Zj u d h)] w λk j=>k=.returned (.bool (kS t u))/\Zb w j:=by
 induction f with
 |zero=>intro t u c g d h w m;have:=t.I;omega
 |succ f i=>
  intro t u c g d h w m A n o;have B:=T.M t;by_cases a:t.v=u.v
  .by_cases b:t.f=u.f
   .have e:kS t u=kS.sameL t.e u.e:=by rw[An,a,b];simp
    have p:=X (λo1 o2=>PW (min f 1000) (λl q r s v x j y y z=>i l q r s v x j (by omega) (by omega) y z) t.e u.e c g d h ((w.alloc o1).alloc o2) (by omega) (by omega) (jS o2 (jS o1 n)) (jS o2 (jS o1 o)));have q:(t.v==u.v)=true:=(by simpa using a);have r:(t.f==u.f)=true:=(by simpa using b);rw[e];clear e a b i
    go_in
    go_wp2_with fail
    refine(p _ _).mono ?_;rintro k v ⟨rfl,l⟩;have s:=X ((kF w _ _).trans (l.mono (by simp;omega)));clear l;go_wp2;go_ret;exact⟨rfl,s⟩
   have e:kS t u=false:=(by rw[An];simp[b]);have q:(t.v==u.v)=true:=(by simpa using a);have r:(t.f==u.f)=false:=(by simpa using b);rw[e];clear e a b i
   go_in
   go_wp2;go_ret;exact⟨rfl,kF _ _ _⟩
  have b:kS t u=false:=by rw[An];simp[a]
  have e:(t.v==u.v)=false:=by simpa using a
  rw[b];clear b a i
  go_in
  go_wp2;go_ret;exact⟨rfl,kF _ _ _⟩
def aG(v:Int):T->Bool
 |⟨x,_,a⟩=>x==v||standsL a
 where
 standsL:Zt->Bool
  |[]=>false
  |t::b=>aG v t||standsL b
def CZ(v:Int)(t:T):aG v t=(t.v==v||aG.standsL v t.e):=by cases t;rfl
theorem jDo(v:Int)(t:T)(a:Zt):aG.standsL v (t::a)=(aG v t||aG.standsL v a):=rfl
def Tv(a:Zn)(t u:T):kI a [t,u]=if kI a [t]=0 then kI a [u] else kI a [t]:=by
 simp only[kI];by_cases b:qT a=0
 .simp only[jB b]
  have c:bN a [t,u]=bN a ([t]++[u]):=rfl;rw[c,Qx]
 simp only[jC b]
def YJ(d:Nat)(i:Nat)(f:Nat)(j:jV w r a)(l:InL w t.e a1)(m:InL w s.e a2):
 Calls Zf 211 #[.agg #[.slice a r.length d],.agg (Zj t a1 i),.agg (Zj s a2 f)] w λg n=>
  g=.returned (Y (kI r [t,s]))/\Zb w n:=by
 have o:=X (λo1 o2 b=>iW r a d t a1 i (((w.alloc o1).alloc o2).alloc b) (qD b (qD o2 (qD o1 j))) (jS b (jS o2 (jS o1 l))));have k:=X (Tv r t s)
 go_in
 go_wp2_with fail
 refine(o _ _ _).mono ?_;rintro g b ⟨rfl,c⟩;have v:w.heap.size+3<=b.heap.size:=by have:=c.size;simp at this;omega
 have e:Zb w b:=(((jG _ _).alloc (by simp) _).alloc (by simp;omega) _).trans (c.mono (by simp;omega));have x:b.cell? (D w.heap.size 0)=some (Zk a r d):=by
  rw[c.cell (by simp;omega),kW (by simp;omega),kW (by simp),jJ _ rfl];rfl
 have p:jK b (w.heap.size+1+1) (Y s.v) (Y s.f) (Zk a2 s.e f):=(jK.new _ (by simp)).below c;obtain⟨y,z,A,_,_,_⟩:=p;have q:=X (iW r a d s a2 f b (kD e j) (jI e m));clear c;by_cases h:kI r [t]=0
 .have c:Hid (kI r [t,s]=kI r [s]):=by show _=_;rw[k.out,jB h]
  rw[h];clear h
  go_wp2_with fail
  refine q.mono ?_;rintro g B ⟨rfl,u⟩;go_wp2;go_ret;exact⟨dQ c.symm,e.trans (u.mono (by omega))⟩
 have C:(kI r [t] !=0)=true:=by simpa using h
 have c:Hid (kI r [t,s]=kI r [t]):=by show _=_;rw[k.out,jC h]
 clear h;go_wp2;go_ret;exact⟨dQ c.symm,e⟩
def nF(g:T->T->Bool):Zt->Zt->Bool
 |a::c,b::d=>if kS a b then nF g c d else g a b
 |_,_=>false
def mO:Nat->T->T->Bool
 |0,_,_=>false
 |n+1,s,t=>
  if s.v≠0 then false else if t.v≠0 then aG t.v s else
   if s.e.any (λa=>kS a t||mO n a t) then true else
    if decide (s.f<t.f)||t.e.any (λb=> !mO n s b) then false else decide (t.f<s.f)||nF (mO n) s.e t.e
def gt(s t:T):Bool:=mO (s.E+t.E) s t
def Vq{g h:T->T->Bool}:∀{d a:Zt},(∀b c,b∈d->c∈a->g b c=h b c)->nF g d a=nF h d a:=by
 intro d;induction d with
 |nil=>intro a _;rfl
 |cons b d f=>
  intro a e
  cases a with
  |nil=>rfl
  |cons c a=>
   show(if kS b c then nF g d a else g b c)=(if kS b c then nF h d a else h b c);rw[f (λx y i j=>e x y (vG _ i) (vG _ j)),e b c vX vX]
def Cg{b:Type}{l:List b}{f g:b->Bool}(h:∀a,a∈l->f a=g a):l.any f=l.any g:=by
 induction l with
 |nil=>rfl
 |cons a l c=>rw[rE,rE,h a vX,c (λx d=>h x (vG _ d))]
def xJ(h:s∈t.e):s.E<t.E:=by
 have:=T.W h;have:=T.M t;omega
def Pa:∀(n m:Nat)(s t:T),s.E+t.E<=n->s.E+t.E<=m->mO n s t=mO m s t:=by
 intro n;induction n with
 |zero=>intro m s t i;have:=s.I;omega
 |succ n c=>
  intro m s t j k
  cases m with
  |zero=>have:=s.I;omega
  |succ m=>
   have f:s.e.any (λa=>kS a t||mO n a t)=s.e.any (λa=>kS a t||mO m a t):=Cg (λa d=>by
    have:=xJ d
    rw[c m a t (by omega) (by omega)])
   have g:t.e.any (λb=> !mO n s b)=t.e.any (λb=> !mO m s b):=Cg (λb e=>by
    have:=xJ e
    rw[c m s b (by omega) (by omega)])
   have h:nF (mO n) s.e t.e=nF (mO m) s.e t.e:=Vq (λa b d e=>by
    have:=xJ d;have:=xJ e
    exact c m a b (by omega) (by omega))
   rw[mO,mO,f,g,h]
def Pb(s t:T):gt s t=if s.v≠0 then false else if t.v≠0 then aG t.v s else
 if s.e.any (λa=>kS a t||gt a t) then true else
  if decide (s.f<t.f)||t.e.any (λb=> !gt s b) then false else decide (t.f<s.f)||nF gt s.e t.e:=by
 have i:=s.I;obtain⟨n,e⟩:∃n,s.E+t.E=n+1:=⟨s.E+t.E - 1,by omega⟩
 have f:s.e.any (λa=>kS a t||mO n a t)=s.e.any (λa=>kS a t||gt a t):=Cg (λa c=>by
  have:=xJ c
  rw[gt,Pa n _ a t (by omega) (jF _)])
 have g:t.e.any (λb=> !mO n s b)=t.e.any (λb=> !gt s b):=Cg (λb d=>by
  have:=xJ d
  rw[gt,Pa n _ s b (by omega) (jF _)])
 have h:nF (mO n) s.e t.e=nF gt s.e t.e:=Vq (λa b c d=>by
  have:=xJ c;have:=xJ d;rw[gt]
  exact Pa n _ a b (by omega) (jF _))
 rw[gt,e,mO,f,g,h]
def jBb(c:jQ r t)(d:jQ r s)(e:t.v=0)(f:s.v=0)(g:t.f=s.f):t.e.length=s.e.length:=by
 have a:=(vW.1 c).1;have b:=(vW.1 d).1;simp only[xU] at a b;rw[jC (by simp[e])] at a;rw[jC (by simp[f])] at b;split at a
 .cases a
 split at a
 .cases a
 split at b
 .cases b
 split at b
 .cases b
 rename_i i h _ j;rw[g] at h;omega
def pre:T->Zt
 |⟨v,f,a⟩=>⟨v,f,a⟩::preL a
 where
 preL:Zt->Zt
  |[]=>[]
  |t::b=>pre t++preL b
def Lg(t:T):pre t=t::pre.preL t.e:=by cases t;rfl
theorem Dh(t:T)(a:Zt):pre.preL (t::a)=pre t++pre.preL a:=rfl
def Qe:∀(n:Nat),(∀t:T,t.E<=n->(pre t).length=t.E)/\(∀a:Zt,T.E.szL a<=n->(pre.preL a).length=T.E.szL a):=by
 intro n;induction n with
 |zero=>
  refine⟨λt h=>by have:=t.I;omega,λa h=>?_⟩
  cases a with
  |nil=>rfl
  |cons t a=>have:=t.I;rw[T.F] at h;omega
 |succ n c=>
  have b:∀t:T,t.E<=n+1->(pre t).length=t.E:=λt h=>by
   rw[T.M] at h ⊢;rw[Lg,xI,c.2 _ (by omega)];omega
  refine⟨b,λa=>?_⟩;induction a with
  |nil=>intro _;rfl
  |cons t a d=>
   intro h;rw[T.F] at h ⊢;rw[Dh,qB,b t (by omega),d (by omega)]
def sR(a:Zt)(n:Nat)(b:Zt):Prop:=∃c,a.drop n=pre.preL b++c
def sR.at{n:Nat}(h:sR l n l1)(a:l1[k]? =some t):l[n+T.E.szL (l1.take k)]? =some t/\sR l (n+T.E.szL (l1.take k)+1) t.e/\n+T.E.szL (l1.take k)<l.length:=by
 obtain⟨d,e⟩:=h;have f:k<l1.length:=by
  rcases xW k l1.length with h|h
  .exact h
  rw[yZ h] at a;cases a
 have g:l1=l1.take k++t::l1.drop (k+1):=by
  rw[jO f] at a;simp at a;rw[<-a,cJ,cL]
 have i:∀b c:Zt,pre.preL (b++c)=pre.preL b++pre.preL c:=by
  intro b c;induction b with
  |nil=>rfl
  |cons x c b=>rw[dW,Dh,Dh,b,dH]
 have j:=(Qe _).2 (l1.take k) (jF _);have c:l.drop (n+T.E.szL (l1.take k))=t::(pre.preL t.e++(pre.preL (l1.drop (k+1))++d)):=by
  rw[<-List.drop_drop,e];have b:pre.preL l1=pre.preL (l1.take k)++(pre t++pre.preL (l1.drop (k+1))):=by
   rw[<-Dh,<-i,<-g]
  rw[b,Lg,dH,<-j,List.drop_left];simp
 have b:l[n+T.E.szL (l1.take k)]? =some t:=by
  have:=xE List.head? c;rw[List.head?_drop] at this;simpa using this
 refine⟨b,⟨pre.preL (l1.drop (k+1))++d,?_⟩,?_⟩
 .rw[<-List.drop_drop,c];rfl
 rcases xW (n+T.E.szL (l1.take k)) l.length with h|h
 .exact h
 rw[yZ h] at b;cases b
def oT(h:kI r [t,s]=0):t.E<=120/\jQ r t/\s.E<=120/\jQ r s:=by
 have a:=rR.1 h;exact⟨(a.2 t (by simp)).1,(a.2 t (by simp)).2,(a.2 s (by simp)).1,(a.2 s (by simp)).2⟩
def lZ(h:jQ r t)(b:t.v≠0):t.f=0/\t.e=[]:=by
 have a:=(vW.1 h).1;rw[Ak b,mB] at a;split at a
 .cases a
 split at a
 .cases a
 rename_i c;constructor
 .omega
 exact yM.1 (by omega)
def Wv(a:t.v=0)(b:s.v≠0):gt t s=aG s.v t:=by
 rw[Pb,jC (by simp[a]),jB b]
def Pc(a:t.v≠0):gt t s=false:=by rw[Pb,jB a]
def SE(c:jQ r t)(d:jQ r s)(b:s.v≠0):(gt t s||kS t s)=aG s.v t:=by
 obtain⟨e,f⟩:=lZ d b;by_cases h:t.v=0
 .have a:kS t s=false:=by
   rw[An];have:¬t.v=s.v:=by omega
   simp[this]
  rw[Wv h b,a,Bool.or_false]
 obtain⟨g,i⟩:=lZ c h;rw[Pc h,Bool.false_or,An,CZ,e,f,g,i];have a:kS.sameL [] []=true:=rfl;have j:aG.standsL s.v []=false:=rfl;rw[a,j,Bool.or_false];by_cases k:t.v=s.v<;>simp[k]
def jDn(v:Int)(a:Zt):aG.standsL v a=a.any (aG v):=by
 induction a with
 |nil=>rfl
 |cons t a b=>rw[jDo,rE,b]
def Qf(s t:T):Bool:=
 (decide (s.v=0) && s.e.any (λa=>gt a t||kS a t))||
   ((decide (s.v=0) && decide (t.v=0) && decide (t.f<=s.f) && t.e.all (λc=>gt s c)) && (decide (t.f<s.f)||(decide (s.f=t.f) && nF gt s.e t.e)))
def SD(g:jQ r t)(h:jQ r s):gt t s=Qf t s:=by
 rw[Qf];by_cases b:t.v=0
 .by_cases c:s.v=0
  .rw[Pb,jC (by simp[b]),jC (by simp[c]),iE b,iE c,rA,rA,rA]
   have i:t.e.any (λa=>kS a s||gt a s)=t.e.any (λa=>gt a s||kS a s):=Cg (λa _=>Bool.or_comm _ _);have j:s.e.any (λd=> !gt t d)= !s.e.all (λd=>gt t d):=by
    rw[List.all_eq_not_any_not,Bool.not_not]
   rw[i,j]
   cases t.e.any (λa=>gt a s||kS a s) with
   |true=>simp
   |false=>
    by_cases e:t.f<s.f
    .have f:¬s.f<=t.f:=by omega
     simp[e,f]
    have f:s.f<=t.f:=by omega
    cases s.e.all (λd=>gt t d) with
    |false=>simp[e]
    |true=>
     by_cases d:s.f<t.f
     .simp[e,f,d]
     have k:t.f=s.f:=(by omega);simp[k]
  rw[Wv b c,iE b,cX c,rA,rA,Ea,Ea,Ea,Bool.or_false,CZ,jDn];have d:(t.v==s.v)=false:=by
   rw[b];simp;omega
  rw[d,Bool.false_or];exact Cg (λa e=>(SE (nH.1 (vW.1 g).2 a e) h c).symm)
 rw[Pc b,cX b];simp
def T.qp(p r:Zp)(w:N):T->Nat->Zv->Prop
 |⟨_,_,d⟩,n,s=>∃c e,s=.slice c d.length e/\d.length<=e/\PL d n c
 where
 PL:Zt->Nat->Zo->Prop
  |[],_,_=>True
  |t::g,n,c=>∃b a f h s,c=some (D b a)/\p b/\w.cell? (D b a)=some (Y t.v)/\w.cell? (D b (a+1))=some (Y t.f)/\w.cell? (D b (a+2))=some (.slice f t.e.length h)/\
    w.cell? (D b (a+3))=some (Y (n:Int))/\w.cell? (D b (a+4))=some s/\jT r w t.e f/\t.qp p r w (n+1) s/\PL g (n+t.E) (some (D b (a+5)))
abbrev PL(p r:Zp)(w:N)(a:Zt)(n:Nat)(b:Zo):Prop:=T.qp.PL p r w a n b
def Ev:PL p p1 w [] k a:=trivial
def Bz:PL p p1 w (t::l) k a↔∃b c d e s,a=some (D b c)/\p b/\w.cell? (D b c)=some (Y t.v)/\w.cell? (D b (c+1))=some (Y t.f)/\w.cell? (D b (c+2))=some (.slice d t.e.length e)/\
        w.cell? (D b (c+3))=some (Y (k:Int))/\w.cell? (D b (c+4))=some s/\jT p1 w t.e d/\t.qp p p1 w (k+1) s/\PL p p1 w l (k+t.E) (some (D b (c+5))):=aL
def Jb{s:Zv}:t.qp p p1 w k s↔∃a b,s=.slice a t.e.length b/\t.e.length<=b/\PL p p1 w t.e k a:=by
 cases t;exact aL
def Ta(h:PL p p1 w l k a)(d:0<l.length):∃b c,a=some (D b c):=by
 cases l with
 |nil=>simp at d
 |cons t e=>
  obtain⟨b,c,_,_,_,rfl,_⟩:=Bz.1 h;exact⟨b,c,rfl⟩
theorem jD7(t:T)(a:Zt):T.E.szL ((t::a).take 0)=0:=rfl
def Sx:∀{b a n k:Nat}{t:T},PL p p1 w l n (some (D b a))->l[k]? =some t->
 ∃c f d e,p b/\w.cell? (D b (a+k*5))=some (Y t.v)/\w.cell? (D b (a+k*5+1))=some (Y t.f)/\w.cell? (D b (a+k*5+2))=some (.slice c t.e.length f)/\
  w.cell? (D b (a+k*5+3))=some (Y ((n+T.E.szL (l.take k):Nat):Int))/\w.cell? (D b (a+k*5+4))=some (.slice d t.e.length e)/\t.e.length<=e/\jT p1 w t.e c/\PL p p1 w t.e (n+T.E.szL (l.take k)+1) d:=by
 induction l with
 |nil=>intro b a n k t _ h;simp at h
 |cons u i o=>
  intro b a n k t h g;obtain⟨M,O,c,f,P,j,m,q,r,s,v,x,y,z,A⟩:=Bz.1 h;simp only[qW,fG] at j;obtain⟨rfl,rfl,_⟩:=j
  cases k with
  |zero=>
   simp at g;subst g;obtain⟨d,e,rfl,B,C⟩:=Jb.1 z;exact⟨c,f,d,e,m,by simpa using q,by simpa using r,by simpa using s,by simpa[jD7,T.P] using v,by simpa using x,B,y,by simpa[T.P] using C⟩
  |succ k=>
   simp at g;obtain⟨c,f,d,e,_,B,C,E,F,G,H,I,J⟩:=o A g;have K:a+(k+1)*5=a+5+k*5:=(by omega);have L:n+T.E.szL ((u::i).take (k+1))=n+u.E+T.E.szL (i.take k):=(by rw[uY,T.F];omega);rw[K,L];exact⟨c,f,d,e,m,B,C,E,F,G,H,I,J⟩
def Jc{f:Zp}(c:∀b o v,p b->w.cell? (D b o)=some v->p1 b/\u.cell? (D b o)=some v)(h:∀b o v,p2 b->w.cell? (D b o)=some v->f b/\u.cell? (D b o)=some v):
 ∀(m:Nat)(a:Zt)(n:Nat)(e:Zo),T.E.szL a<=m->PL p p2 w a n e->PL p1 f u a n e:=by
 intro m;induction m with
 |zero=>
  intro a n e d g
  cases a with
  |nil=>exact Ev
  |cons t a=>have:=t.I;rw[T.F] at d;omega
 |succ m i=>
  intro a;induction a with
  |nil=>intro n e _ _;exact Ev
  |cons I a j=>
   intro n e k l;rw[T.F,T.M] at k;obtain⟨b,q,r,s,J,rfl,d,g,t,x,y,z,A,B,C⟩:=Bz.1 l;obtain⟨E,F,rfl,G,H⟩:=Jb.1 B
   exact Bz.2 ⟨b,q,r,s,_,rfl,(c _ _ _ d g).1,(c _ _ _ d g).2,(c _ _ _ d t).2,(c _ _ _ d x).2,(c _ _ _ d y).2,(c _ _ _ d z).2,nM h _ _ _ (jF _) A,
    Jb.2 ⟨E,F,rfl,G,i _ _ _ (by omega) H⟩,j _ _ (by omega) C⟩
def Ew(f:∀b,p b\/p1 b->b<w.heap.size->u.heap[b]? =w.heap[b]?)(h:PL p p1 w l k a):PL p p1 u l k a:=
 Jc (λc o v d e=>⟨d,by rw[kH (w:=w) (a:=(D c o)) (f c (jD d) (kA e))];exact e⟩) (λc o v d e=>⟨d,by rw[kH (w:=w) (a:=(D c o)) (f c (jE d) (kA e))];exact e⟩) _ _ _ _ (jF _) h
def Sy(b:Zb w u)(h:PL p p1 w l k a):PL p p1 u l k a:=Ew (λc _ d=>b.block c d) h
def Sz{e:Zp}(f:∀b,p b->p1 b)(g:∀b,p2 b->e b)(h:PL p p2 w l k a):PL p1 e w l k a:=
 Jc (λ_ _ _ c d=>⟨f _ c,d⟩) (λ_ _ _ c d=>⟨g _ c,d⟩) _ _ _ _ (jF _) h
def IG(s:p k):∀{b n:Nat},(∀a t,l[a]? =some t->∃c f d e,w.cell? (D k (b+a*5))=some (Y t.v)/\w.cell? (D k (b+a*5+1))=some (Y t.f)/\w.cell? (D k (b+a*5+2))=some (.slice c t.e.length f)/\
 w.cell? (D k (b+a*5+3))=some (Y ((n+T.E.szL (l.take a):Nat):Int))/\w.cell? (D k (b+a*5+4))=some (.slice d t.e.length e)/\t.e.length<=e/\jT p1 w t.e c/\PL p p1 w t.e (n+T.E.szL (l.take a)+1) d)->PL p p1 w l n (some (D k b)):=by
 induction l with
 |nil=>intro b n _;exact Ev
 |cons u h v=>
  intro b n i;obtain⟨c,f,d,e,x,y,z,A,B,C,E,F⟩:=i 0 u rfl;refine Bz.2 ⟨k,b,c,f,_,rfl,s,by simpa using x,by simpa using y,by simpa using z,by simpa[T.P] using A,by simpa using B,E,Jb.2 ⟨d,e,rfl,C,by simpa[T.P] using F⟩,v (λa t G=>?_)⟩;obtain⟨c,f,d,e,j,m,o,g,q,H,I,r⟩:=i (a+1) t (by simpa using G);have G:b+(a+1)*5=b+5+a*5:=by omega
  have J:n+T.E.szL ((u::h).take (a+1))=n+u.E+T.E.szL (h.take a):=by rw[uY,T.F];omega
  rw[G] at j m o g q;rw[J] at g r;exact⟨c,f,d,e,j,m,o,g,q,H,I,r⟩
def IF:∀{a:Zt}{n k c b:Nat},PL p p1 w a n (some (D c b))->PL p p1 w (a.drop k) (n+T.E.szL (a.take k)) (some (D c (b+k*5))):=by
 intro a;induction a with
 |nil=>intro n k c b _;rw[List.drop_nil];exact Ev
 |cons t a e=>
  intro n k c b h
  cases k with
  |zero=>simpa[T.P] using h
  |succ k=>
   obtain⟨i,j,l,m,s,d,o,q,r,u,v,x,y,z,f⟩:=Bz.1 h;simp only[qW,fG] at d;obtain⟨rfl,rfl,_⟩:=d;have g:=e (k:=k) f;rw[List.drop_succ_cons,uY,T.F,show b+(k+1)*5=b+5+k*5 by omega,show n+(t.E+T.E.szL (a.take k))=n+t.E+T.E.szL (a.take k) by omega];exact g
end Go.Proofs.YtohdnhlfpldbmaaGreat
